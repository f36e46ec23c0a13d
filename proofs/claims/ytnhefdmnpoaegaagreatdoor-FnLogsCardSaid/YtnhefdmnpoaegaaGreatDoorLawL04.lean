/- The laws' own helpers over slices of numbers: what came in, opened, copied, compared. -/
import Derived.Test.YtnhefdmnpoaegaaGreatDoorBaseL04
import Derived.Deep.Slices
import Derived.Deep.Fields
import Derived.BigQuiet
import Derived.Test.YtnhefdmnpoaegaaGreatDoorLawL02
import Derived.LoopTactic
import Derived.Deep.DeepFit
namespace Go.Proofs.YtnhefdmnpoaegaaGreatDoor
open Go.ChangeShapes Go.WideShapes Go.ChangeAt Go.RowKit Go.Joins Go.Deep
set_option maxRecDepth 8000

theorem made_ints (n : Nat) : (madeCells intE.z.cells (n * 1)).toList = intE.all (List.replicate n (0 : Int)) := by
  rw [intE_all, List.map_replicate, Nat.mul_one]
  apply List.ext_getElem?
  intro i
  by_cases hi : i < n
  · rw [List.getElem?_replicate, if_pos hi]
    simp [madeCells, hi, intE, Value.cells, Nat.mod_one]
  · rw [List.getElem?_eq_none (by rw [Array.length_toList, size_madeCells]; omega), List.getElem?_eq_none (by simp; omega)]
def zeroI (n : Nat) : Array Value := madeCells intE.z.cells (n * 1)
theorem make_ints (n : Nat) (hn : n ≤ 1048576) (w : World) : (Instr.makeSlice 24 (.int .i64 n) (.int .i64 n)).run Tryz.prog w = .ok (.slice (some ⟨w.heap.size, 0, none⟩) n n) (w.alloc (.cells (zeroI n) 2)) := by
  obtain ⟨i, hi, hz, h1, h2⟩ := info_parts intE.info
  have hr := run_make (P := Tryz.prog) w intE.S intE.T i intE.z intE.und hi hz .i64 .i64 n n (by omega) (by omega) (by rw [h2]; show (8 : Int) * n ≤ _; omega) (by omega)
  rw [h1] at hr
  simp only [Int.toNat_natCast] at hr
  exact hr
theorem IS.made (w : World) (n : Nat) (hn : n ≤ 1048576) {base : Nat} (hb : base ≤ w.heap.size) : IS (w.alloc (.cells (zeroI n) 2)) base (.slice (some ⟨w.heap.size, 0, none⟩) n n) (List.replicate n 0) := by
  have := Own.fresh intE w (List.replicate n (0 : Int)) _ (made_ints n) (by simp; omega) hb
  rw [List.length_replicate] at this
  exact this
/-- the numbers that are filled so far -/
def fillI (l : List Int) (k : Nat) : List Int := l.take k ++ List.replicate (l.length - k) 0
theorem fillI_length (l : List Int) (k : Nat) (h : k ≤ l.length) : (fillI l k).length = l.length := by simp [fillI]; omega
theorem fillI_set (l : List Int) (k : Nat) (h : k < l.length) : (fillI l k).set k l[k] = fillI l (k + 1) := by
  unfold fillI
  rw [List.set_append_right _ _ (by simp; omega), show k - (l.take k).length = 0 by simp; omega, show l.length - k = (l.length - (k + 1)) + 1 by omega, List.replicate_succ, List.set_cons_zero, List.take_succ_eq_append_getElem h, List.append_assoc]
  rfl
/-- a list of numbers that came in, opened -/
theorem listI_of {P : Nat → Int → Prop} : ∀ n : Nat, (∀ i, i < n → ∃ x, P i x) → ∃ l : List Int, l.length = n ∧ ∀ i (h : i < l.length), P i l[i]
  | 0, _ => ⟨[], rfl, fun i h => by simp at h⟩
  | n + 1, hP => by
    obtain ⟨l, hl, h⟩ := listI_of n (fun i hi => hP i (by omega))
    obtain ⟨x, hx⟩ := hP n (by omega)
    refine ⟨l ++ [x], by simp [hl], fun i hi => ?_⟩
    simp at hi
    by_cases hn : i < l.length
    · rw [List.getElem_append_left hn]; exact h i hn
    · have : i = l.length := by omega
      subst this
      simp [hl]
      exact hx
section
variable {H : Type} {enc : TypeId × Value → H} {w : World} {base : Nat} {held : Bool}
theorem openIntsOf {fuel : Nat} {v : Value} {x : DataW H × List MemPlace} (h : DataW.trod enc Tryz.prog w base (fun _ => true) held fuel 24 [v] = some x) : ∃ a len cap l, v = .slice a len cap ∧ IR w (.slice a len cap) l := by
  have hc : Tryz.prog.cellsOf 2 = 1 := by kernel_rfl
  rcases open_slice Tryz.underlying24 h with ⟨hcs, _⟩ | ⟨a, len, cap, m, n, D, Pl, hcs, hl0, hl, hm, hmm, _, hi⟩
  · simp at hcs
    exact ⟨none, 0, 0, [], hcs, none, 0, rfl, by simp, by omega, .inl rfl⟩
  · simp at hcs hmm
    subst hmm
    rw [hc] at hi
    obtain ⟨l, hll, hP⟩ := listI_of (P := fun i x => w.cell? (a.add (i * 1)) = some (.int .i64 x)) len (fun i hi' => by
      obtain ⟨cs', h1, h2⟩ := hi i (by omega)
      obtain ⟨_, h3, h4⟩ := World.cells?_some h1
      obtain ⟨u, e0, _⟩ := DataW.trod_int Tryz.underlying2 h2
      subst e0
      exact ⟨u, by have := h4 0 (by omega); rw [add_add] at this; exact this⟩)
    unfold maxLen at hm
    refine ⟨some a, len, m, l, hcs, some a, m, by rw [hll], by omega, by omega, ?_⟩
    by_cases h0 : l = []
    · exact .inl h0
    · have hpos : 0 < l.length := List.length_pos_iff.2 h0
      obtain ⟨b, o, sp⟩ := a
      have hc0 := hP 0 hpos
      have hsp : sp = none := by
        cases sp with
        | none => rfl
        | some x => simp [World.cell?, Addr.add] at hc0; split at hc0 <;> simp_all
      subst hsp
      have hadd : ∀ i, (⟨b, o, none⟩ : Addr).add i = ⟨b, o + i, none⟩ := fun i => by cases i <;> simp [Addr.add]
      refine .inr ⟨b, o, rfl, ?_, fun j u hj => ?_⟩
      · rw [hadd] at hc0; exact cell_lt hc0
      · rw [intE_all] at hj
        obtain ⟨hj', hu⟩ := List.getElem?_eq_some_iff.1 hj
        simp at hj' hu
        have := hP j hj'; rw [hadd, Nat.mul_one, hu] at this; exact this
theorem openInts {r : Reach} {b0 : Nat} {v : Value} {d : DataW H} {p : List MemPlace} (hv : Value.okWide Tryz.prog w r b0 24 v) (h : DataW.Trod enc Tryz.prog w base (fun _ => true) held 24 v d p) :
    ∃ (l : List Int) (a : Option Addr) (len cap : Nat), v = .slice a len cap ∧ IR w (.slice a len cap) l := by
  obtain ⟨a0, n0, c0, rfl⟩ := okWide_slice Tryz.underlying24 hv
  obtain ⟨fuel, h⟩ := h
  obtain ⟨a, len, cap, l, h1, h2⟩ := openIntsOf (by simpa [Value.cells] using h)
  exact ⟨l, a, len, cap, h1, h2⟩
end
end Go.Proofs.YtnhefdmnpoaegaaGreatDoor
