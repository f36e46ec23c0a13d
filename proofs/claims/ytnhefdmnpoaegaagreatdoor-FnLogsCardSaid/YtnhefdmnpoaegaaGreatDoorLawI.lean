/- The laws' own helpers: lists of numbers are marked, and are held against their marks. -/
import Derived.Test.YtnhefdmnpoaegaaGreatDoorLawL04
namespace Go.Proofs.YtnhefdmnpoaegaaGreatDoor
open Go.ChangeShapes Go.WideShapes Go.ChangeAt Go.RowKit Go.Joins Go.Deep

/-- the marks of a list of numbers -/
def markI (k : Int) (n : Nat) : List Int := (List.range n).map fun i : Nat => k + (i : Int)
theorem markI_length (k : Int) (n : Nat) : (markI k n).length = n := by simp [markI]
theorem markI_get (k : Int) (n i : Nat) (h : i < n) : (markI k n)[i]'(by rw [markI_length]; exact h) = k + (i : Int) := by simp [markI]
def partI (k : Int) (l : List Int) (j : Nat) : List Int := markI k j ++ l.drop j
theorem partI_length (k : Int) (l : List Int) (j : Nat) (h : j ≤ l.length) : (partI k l j).length = l.length := by simp [partI, markI_length]; omega
theorem partI_set (k : Int) (l : List Int) (j : Nat) (h : j < l.length) : (partI k l j).set j (k + (j : Int)) = partI k l (j + 1) := by
  unfold partI
  rw [List.set_append_right _ _ (by simp [markI_length]), show j - (markI k j).length = 0 by simp [markI_length], List.drop_eq_getElem_cons h, List.set_cons_zero]
  simp [markI, List.range_succ]
def MarkI (B : Nat) (v : Value) (k : Int) (n : Nat) (w : World) (e : Ending) (w' : World) : Prop := e = .returned (.int .i64 (k + n)) ∧ IS w' B v (markI k n) ∧ w.grownBy w' v.ownBlock
end Go.Proofs.YtnhefdmnpoaegaaGreatDoor
