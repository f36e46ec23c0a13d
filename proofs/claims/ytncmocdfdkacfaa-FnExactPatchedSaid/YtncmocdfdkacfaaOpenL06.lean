/- A list of disks that came in, opened. -/
import Derived.Test.YtncmocdfdkacfaaLawL06b
namespace Go.Proofs.Ytncmocdfdkacfaa
open Go.ChangeShapes Go.WideShapes Go.ChangeAt Go.RowKit Go.Joins Go.Deep
set_option maxRecDepth 8000

theorem listD_of {P : Nat → DZ → Prop} : ∀ n : Nat, (∀ i, i < n → ∃ x, P i x) → ∃ l : List DZ, l.length = n ∧ ∀ i (h : i < l.length), P i l[i]
  | 0, _ => ⟨[], rfl, fun i h => by simp at h⟩
  | n + 1, hP => by
    obtain ⟨l, hl, h⟩ := listD_of n (fun i hi => hP i (by omega))
    obtain ⟨x, hx⟩ := hP n (by omega)
    refine ⟨l ++ [x], by simp [hl], fun i hi => ?_⟩
    simp at hi
    by_cases hn : i < l.length
    · rw [List.getElem_append_left hn]; exact h i hn
    · have : i = l.length := by omega
      subst this
      simp [hl]
      exact hx
section
variable {H : Type} {enc : TypeId × Value → H} {w : World} {base : Nat} {held : Bool}
theorem disk_of {fuel : Nat} {cs : List Value} {x : DataW H × List MemPlace} (h : DataW.trod enc Try.prog w base (fun _ => true) held fuel 54 cs = some x) :
    ∃ (z : DZ) (ka : Option Addr) (km kc : Nat) (na : Option Addr) (nm nc : Nat), cs = [.int .i64 z.n, .bool z.dead, .slice ka km kc, .slice na nm nc] ∧ InDisk w ka km na nm z := by
  obtain ⟨xs, n, rfl, _, hlen, hxs, hf⟩ := DataW.trod_struct Try.underlying54 h
  have hc : Try.prog.cellsOf 54 = 4 := by kernel_rfl
  have hi : Try.prog.cellsOf 2 = 1 := by kernel_rfl
  have hb : Try.prog.cellsOf 4 = 1 := by kernel_rfl
  have hs : Try.prog.cellsOf 52 = 1 := by kernel_rfl
  rw [hc] at hlen
  match cs, hlen with
  | [c0, c1, c2, c3], _ =>
    match xs, hxs with
    | [y0, y1, y2, y3], _ =>
      have h0 := hf 0 _ rfl
      have h1 := hf 1 _ rfl
      have h2 := hf 2 _ rfl
      have h3 := hf 3 _ rfl
      simp [hi, hb, hs] at h0 h1 h2 h3
      obtain ⟨u, e0, _⟩ := DataW.trod_int Try.underlying2 h0
      obtain ⟨b, e1, _⟩ := DataW.trod_bool Try.underlying4 h1
      obtain ⟨ka, km, kc, kl, rfl, hk⟩ := openCells h2
      obtain ⟨na, nm, nc, nl, rfl, hn⟩ := openCells h3
      simp at e0 e1
      exact ⟨⟨u, b, kl, nl⟩, ka, km, kc, na, nm, nc, by rw [e0, e1], hk, hn⟩
theorem openDisksOf {fuel : Nat} {v : Value} {x : DataW H × List MemPlace} (h : DataW.trod enc Try.prog w base (fun _ => true) held fuel 31 [v] = some x) : ∃ a len cap l, v = .slice a len cap ∧ InDisks w a len l := by
  have hc : Try.prog.cellsOf 54 = 4 := by kernel_rfl
  rcases open_slice Try.underlying31 h with ⟨hcs, _⟩ | ⟨a, len, cap, m, n, D, Pl, hcs, _, hl, hm, hmm, _, hi⟩
  · simp at hcs
    exact ⟨none, 0, 0, [], hcs, rfl, by simp, .inl rfl⟩
  · simp at hcs hmm
    subst hmm
    rw [hc] at hi
    obtain ⟨l, hll, hP⟩ := listD_of (P := fun i z => ∃ ka km kc na nm nc, w.cell? (a.add (i * 4)) = some (.int .i64 z.n) ∧ w.cell? (a.add (i * 4 + 1)) = some (.bool z.dead) ∧ w.cell? (a.add (i * 4 + 2)) = some (.slice ka km kc) ∧ w.cell? (a.add (i * 4 + 3)) = some (.slice na nm nc) ∧ InDisk w ka km na nm z) len (fun i hi' => by
      obtain ⟨cs', h1, h2⟩ := hi i (by omega)
      obtain ⟨_, h3, h4⟩ := World.cells?_some h1
      obtain ⟨z, ka, km, kc, na, nm, nc, rfl, hz⟩ := disk_of h2
      refine ⟨z, ka, km, kc, na, nm, nc, ?_, ?_, ?_, ?_, hz⟩
      · have := h4 0 (by omega); rw [add_add] at this; exact this
      · have := h4 1 (by omega); rw [add_add] at this; exact this
      · have := h4 2 (by omega); rw [add_add] at this; exact this
      · have := h4 3 (by omega); rw [add_add] at this; exact this)
    unfold maxLen at hm
    refine ⟨some a, len, m, l, hcs, hll.symm, by omega, ?_⟩
    by_cases h0 : l = []
    · exact .inl h0
    · have hpos : 0 < l.length := List.length_pos_iff.2 h0
      obtain ⟨b, o, sp⟩ := a
      obtain ⟨_, _, _, _, _, _, hc0, _⟩ := hP 0 hpos
      have hsp : sp = none := by
        cases sp with
        | none => rfl
        | some x => simp [World.cell?, Addr.add] at hc0; split at hc0 <;> simp_all
      subst hsp
      have hadd : ∀ i, (⟨b, o, none⟩ : Addr).add i = ⟨b, o + i, none⟩ := fun i => by cases i <;> simp [Addr.add]
      refine .inr ⟨b, o, rfl, ?_, fun i hi' => ?_⟩
      · rw [hadd] at hc0; exact cell_lt hc0
      · obtain ⟨ka, km, kc, na, nm, nc, x0, x1, x2, x3, x4⟩ := hP i hi'
        rw [hadd] at x0 x1 x2 x3
        exact ⟨ka, km, kc, na, nm, nc, x0, x1, x2, x3, x4⟩
theorem openDisks {r : Reach} {b0 : Nat} {v : Value} {d : DataW H} {p : List MemPlace} (hv : Value.okWide Try.prog w r b0 31 v) (h : DataW.Trod enc Try.prog w base (fun _ => true) held 31 v d p) :
    ∃ (l : List DZ) (a : Option Addr) (len cap : Nat), v = .slice a len cap ∧ InDisks w a len l := by
  obtain ⟨a0, n0, c0, rfl⟩ := okWide_slice Try.underlying31 hv
  obtain ⟨fuel, h⟩ := h
  obtain ⟨a, len, cap, l, h1, h2⟩ := openDisksOf (by simpa [Value.cells] using h)
  exact ⟨l, a, len, cap, h1, h2⟩
end
end Go.Proofs.Ytncmocdfdkacfaa
