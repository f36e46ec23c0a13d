/- The laws' own helpers: lists of numbers are marked, and are held against their marks. -/
import Derived.Test.YtnhefdmnpoaegaaDoorLawL04
namespace Go.Proofs.YtnhefdmnpoaegaaDoor
open Go.ChangeShapes Go.WideShapes Go.ChangeAt Go.RowKit Go.Joins Go.Deep

/-- the marks of a list of numbers -/
def markI (k : Int) (n : Nat) : List Int := (List.range n).map fun i : Nat => k + (i : Int)
theorem markI_length (k : Int) (n : Nat) : (markI k n).length = n := by simp [markI]
theorem markI_get (k : Int) (n i : Nat) (h : i < n) : (markI k n)[i]'(by rw [markI_length]; exact h) = k + (i : Int) := by simp [markI]
def partI (k : Int) (l : List Int) (j : Nat) : List Int := markI k j ++ l.drop j
theorem partI_length (k : Int) (l : List Int) (j : Nat) (h : j ≤ l.length) : (partI k l j).length = l.length := by simp [partI, markI_length]; omega
theorem partI_set (k : Int) (l : List Int) (j : Nat) (h : j < l.length) : (partI k l j).set j (k + (j : Int)) = partI k l (j + 1) := by
  unfold partI
  rw [List.set_append_right _ _ (by simp [markI_length]), show j - (markI k j).length = 0 by simp [markI_length], List.drop_eq_getElem_cons h, List.set_cons_zero]
  simp [markI, List.range_succ]
def MarkI (B : Nat) (v : Value) (k : Int) (n : Nat) (w : World) (e : Ending) (w' : World) : Prop := e = .returned (.int .i64 (k + n)) ∧ IS w' B v (markI k n) ∧ w.grownBy w' v.ownBlock
theorem markInt64S_any (B : Nat) (v : Value) (l : List Int) (k : Int) (w : World) (h : IS w B v l) (hl : l.length ≤ 1048576) (h0 : 0 ≤ k) (h1 : k ≤ 1099511627776) :
    Calls Tryd.prog 29 #[v, .int .i64 k] w (MarkI B v k l.length w) := by
  obtain ⟨a, c, rfl, _⟩ := h.form
  go_enter Tryd.func29, Tryd.ntmps29
  go_wp2
  go_loopw [1, 5] (fun m i wr => ∃ j : Nat, j ≤ l.length ∧ i = .int .i64 j ∧ m = .int .i64 (k + j) ∧ IS wr B (.slice a l.length c) (partI k l j) ∧ w.grownBy wr (Value.slice a l.length c).ownBlock) (fun _ i _ => l.length - (intOf i).toNat)
  case atStart => exact ⟨0, Nat.zero_le _, rfl, by simp, by simpa [partI, markI] using h, World.grownBy.refl _ _⟩
  case round =>
    obtain ⟨j, hj, rfl, rfl, C, G⟩ := hrel
    by_cases hlt : j < l.length
    · obtain ⟨g, rfl, _, _, ⟨x0, y0⟩⟩ := IS.at C j (by rw [partI_length k l j hj]; exact hlt)
      have C3 := IS.set C j (k + j)
      rw [partI_set k l j hlt] at C3
      have hi1 : (j : Int) < l.length := by omega
      go_wp2_with fail
      go_roundw
      case rel => exact ⟨j + 1, by omega, by go_num, by rw [show k + (j : Int) + 1 = k + ((j + 1 : Nat) : Int) by omega], C3, gset G _ _⟩
      case measure => simp [intOf]; omega
    · obtain rfl : j = l.length := by omega
      go_wp2_with fail
      go_ret
      exact ⟨rfl, by simpa [partI] using C, G⟩
theorem heldInt64S_any (v : Value) (n : Nat) (k : Int) (w : World) (h : IR w v (markI k n)) (hl : n ≤ 1048576) (h0 : 0 ≤ k) (h1 : k ≤ 1099511627776) :
    Calls Tryd.prog 30 #[v, .int .i64 k] w fun e w' => e = .returned (.int .i64 (k + n)) ∧ w = w' := by
  obtain ⟨a, c, rfl, _⟩ := h.form
  rw [markI_length] at *
  go_enter Tryd.func30, Tryd.ntmps30
  go_wp2
  go_loop [1, 5] (fun m i => ∃ j : Nat, j ≤ n ∧ i = .int .i64 j ∧ m = .int .i64 (k + j)) (fun _ i => n - (intOf i).toNat)
  case atStart => exact ⟨0, Nat.zero_le _, rfl, by simp⟩
  case round =>
    obtain ⟨j, hj, rfl, rfl⟩ := hrel
    by_cases hlt : j < n
    · obtain ⟨g, o, rfl, x0⟩ := h.at j (by rw [markI_length]; exact hlt)
      rw [markI_get k n j hlt] at x0
      have hi1 : (j : Int) < n := by omega
      go_wp2_with fail
      go_round
      case rel => exact ⟨j + 1, by omega, by go_num, by rw [show k + (j : Int) + 1 = k + ((j + 1 : Nat) : Int) by omega]⟩
      case measure => simp [intOf]; omega
    · obtain rfl : j = n := by omega
      go_wp2_with fail
      go_ret
      exact ⟨rfl, rfl⟩
end Go.Proofs.YtnhefdmnpoaegaaDoor
