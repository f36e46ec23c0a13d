/- What the program's functions of chapter 1 return, for every argument. -/
import Derived.Test.YtnhefdmnpoaegaaGreatDoorBase
namespace Go.Proofs.YtnhefdmnpoaegaaGreatDoor
open Go.ChangeShapes Go.WideShapes Go.ChangeAt Go.RowKit

theorem between_any (n lo hi : Int) (w : World) :
    Calls Tryz.prog 52 #[.int .i64 n, .int .i64 lo, .int .i64 hi] w fun e w' => e = .returned (.bool (inB n lo hi)) ∧ w = w' := by
  by_cases h : lo ≤ n
  · go_enter Tryz.func52, Tryz.ntmps52
    go_wp2
    go_ret
    exact ⟨by simp [inB, h], rfl⟩
  · have HF := Lib.hid (inB_no (n := n) (lo := lo) (hi := hi) (by omega))
    have h' : n < lo := by omega
    clear h
    go_enter Tryz.func52, Tryz.ntmps52
    go_wp2
    go_ret
    exact ⟨ret_bool HF.out.symm, rfl⟩
theorem valid_any (v : Int) (w : World) :
    Calls Tryz.prog 100 #[.int .i64 v] w fun e w' => e = .returned (.bool (inB v 0 32767)) ∧ w = w' := by
  go_enter Tryz.func100, Tryz.ntmps100
  go_wp2_with (refine (between_any _ _ _ _).mono ?_; rintro e w' ⟨rfl, rfl⟩)
  go_ret
  exact ⟨rfl, rfl⟩
theorem implValueOk_any (v : Int) (w : World) :
    Calls Tryz.prog 85 #[.int .i64 v] w fun e w' => e = .returned (.bool (inB v 0 32767)) ∧ w = w' := by
  go_enter Tryz.func85, Tryz.ntmps85
  go_wp2_with (refine (valid_any _ _).mono ?_; rintro e w' ⟨rfl, rfl⟩)
  go_ret
  exact ⟨rfl, rfl⟩
end Go.Proofs.YtnhefdmnpoaegaaGreatDoor
