/- A disk that came in, opened. -/
import Derived.Test.YtncmocdfdkacfaaLawL03b
import Derived.Deep.Slices
import Derived.Deep.Fields
namespace Go.Proofs.Ytncmocdfdkacfaa
open Go.ChangeShapes Go.WideShapes Go.ChangeAt Go.RowKit Go.Joins Go.Deep
set_option maxRecDepth 8000

theorem list_of {P : Nat → Int → Int → Prop} : ∀ n : Nat, (∀ i, i < n → ∃ x y, P i x y) → ∃ l : List (Int × Int), l.length = n ∧ ∀ i (h : i < l.length), P i l[i].1 l[i].2
  | 0, _ => ⟨[], rfl, fun i h => by simp at h⟩
  | n + 1, hP => by
    obtain ⟨l, hl, h⟩ := list_of n (fun i hi => hP i (by omega))
    obtain ⟨x, y, hxy⟩ := hP n (by omega)
    refine ⟨l ++ [(x, y)], by simp [hl], fun i hi => ?_⟩
    simp at hi
    by_cases hn : i < l.length
    · rw [List.getElem_append_left hn]; exact h i hn
    · have : i = l.length := by omega
      subst this
      simp [hl]
      exact hxy
section
variable {H : Type} {enc : TypeId × Value → H} {w : World} {base : Nat} {held : Bool}
theorem cell_of {fuel : Nat} {cs : List Value} {x : DataW H × List MemPlace} (h : DataW.trod enc Try.prog w base (fun _ => true) held fuel 112 cs = some x) : ∃ u v : Int, cs = [.int .i64 u, .int .i64 v] := by
  obtain ⟨xs, n, rfl, _, hlen, hxs, hf⟩ := DataW.trod_struct Try.underlying112 h
  have hc : Try.prog.cellsOf 112 = 2 := by kernel_rfl
  have hi : Try.prog.cellsOf 2 = 1 := by kernel_rfl
  rw [hc] at hlen
  match cs, hlen with
  | [c0, c1], _ =>
    match xs, hxs with
    | [y0, y1], _ =>
      have h0 := hf 0 _ rfl
      have h1 := hf 1 _ rfl
      simp [hi] at h0 h1
      obtain ⟨u, e0, _⟩ := DataW.trod_int Try.underlying2 h0
      obtain ⟨v, e1, _⟩ := DataW.trod_int Try.underlying2 h1
      simp at e0 e1
      exact ⟨u, v, by rw [e0, e1]⟩
theorem openCells {fuel : Nat} {v : Value} {x : DataW H × List MemPlace} (h : DataW.trod enc Try.prog w base (fun _ => true) held fuel 52 [v] = some x) : ∃ a len cap l, v = .slice a len cap ∧ InCells w a len l := by
  have hc : Try.prog.cellsOf 112 = 2 := by kernel_rfl
  rcases open_slice Try.underlying52 h with ⟨hcs, _⟩ | ⟨a, len, cap, m, n, D, Pl, hcs, _, hl, hm, hmm, _, hi⟩
  · simp at hcs
    exact ⟨none, 0, 0, [], hcs, rfl, by simp, .inl rfl⟩
  · simp at hcs hmm
    subst hmm
    rw [hc] at hi
    obtain ⟨l, hll, hP⟩ := list_of (P := fun i x y => w.cell? (a.add (i * 2)) = some (.int .i64 x) ∧ w.cell? (a.add (i * 2 + 1)) = some (.int .i64 y)) len (fun i hi' => by
      obtain ⟨cs', h1, h2⟩ := hi i (by omega)
      obtain ⟨_, h3, h4⟩ := World.cells?_some h1
      obtain ⟨u, v, rfl⟩ := cell_of h2
      refine ⟨u, v, ?_, ?_⟩
      · have := h4 0 (by omega); rw [add_add] at this; exact this
      · have := h4 1 (by omega); rw [add_add] at this; exact this)
    unfold maxLen at hm
    refine ⟨some a, len, m, l, hcs, hll.symm, by omega, ?_⟩
    by_cases h0 : l = []
    · exact .inl h0
    · have hpos : 0 < l.length := List.length_pos_iff.2 h0
      obtain ⟨b, o, sp⟩ := a
      have hc0 := (hP 0 hpos).1
      have hsp : sp = none := by
        cases sp with
        | none => rfl
        | some x => simp [World.cell?, Addr.add] at hc0; split at hc0 <;> simp_all
      subst hsp
      have hadd : ∀ i, (⟨b, o, none⟩ : Addr).add i = ⟨b, o + i, none⟩ := fun i => by cases i <;> simp [Addr.add]
      refine .inr ⟨b, o, rfl, ?_, fun i hi' => ?_⟩
      · rw [hadd] at hc0; exact cell_lt hc0
      · have := hP i hi'; rw [hadd, hadd] at this; exact this
theorem openDisk {r : Reach} {b0 : Nat} {v : Value} {d : DataW H} {p : List MemPlace} (hv : Value.okWide Try.prog w r b0 54 v) (h : DataW.Trod enc Try.prog w base (fun _ => true) held 54 v d p) :
    ∃ (z : DZ) (ka : Option Addr) (km kc : Nat) (na : Option Addr) (nm nc : Nat), v = .agg #[.int .i64 z.n, .bool z.dead, .slice ka km kc, .slice na nm nc] ∧ i64B z.n ∧ InDisk w ka km na nm z := by
  obtain ⟨c0, c1, c2, c3, y0, y1, y2, y3, m, rfl, rfl, rfl, h0, h1, h2, h3⟩ := open_agg4 Try.underlying54 (by kernel_rfl) (by kernel_rfl) hv h
  obtain ⟨n, e0, _, wn⟩ := DataW.trod_int Try.underlying2 h0
  obtain ⟨dead, e1, _⟩ := DataW.trod_bool Try.underlying4 h1
  obtain ⟨ka, km, kc, kl, rfl, hk⟩ := openCells h2
  obtain ⟨na, nm, nc, nl, rfl, hn⟩ := openCells h3
  simp at e0 e1
  subst e0 e1
  simp only [Lit.wf, Bool.and_eq_true, decide_eq_true_eq] at wn
  exact ⟨⟨n, dead, kl, nl⟩, ka, km, kc, na, nm, nc, rfl, wn, hk, hn⟩
end
end Go.Proofs.Ytncmocdfdkacfaa
