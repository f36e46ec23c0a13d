/- What the specification's functions of chapter 1 return, for every argument. -/
import Derived.Test.YtekjjemamiddaaaBase
namespace Go.Proofs.Ytekjjemamiddaaa
open Go.ChangeShapes Go.WideShapes Go.ChangeAt Go.RowKit

theorem l1In_any (n lo hi : Int) (w : World) :
    Calls Try.prog 30 #[.int .i64 n, .int .i64 lo, .int .i64 hi] w fun e w' => e = .returned (.bool (inB n lo hi)) ∧ w = w' := by
  by_cases h : lo ≤ n
  · go_enter Try.func30, Try.ntmps30
    go_wp2
    go_ret
    exact ⟨by simp [inB, h], rfl⟩
  · have HF := Lib.hid (inB_no (n := n) (lo := lo) (hi := hi) (by omega))
    have h' : n < lo := by omega
    clear h
    go_enter Try.func30, Try.ntmps30
    go_wp2
    go_ret
    exact ⟨ret_bool HF.out.symm, rfl⟩
theorem l1Value_any (v : Int) (w : World) :
    Calls Try.prog 26 #[.int .i64 v] w fun e w' => e = .returned (.bool (inB v 0 32767)) ∧ w = w' := by
  go_enter Try.func26, Try.ntmps26
  go_wp2_with (refine (l1In_any _ _ _ _).mono ?_; rintro e w' ⟨rfl, rfl⟩)
  go_ret
  exact ⟨rfl, rfl⟩
theorem specValueOk_any (v : Int) (w : World) :
    Calls Try.prog 16 #[.int .i64 v] w fun e w' => e = .returned (.bool (inB v 0 32767)) ∧ w = w' := by
  go_enter Try.func16, Try.ntmps16
  go_wp2_with (refine (l1Value_any _ _).mono ?_; rintro e w' ⟨rfl, rfl⟩)
  go_ret
  exact ⟨rfl, rfl⟩
end Go.Proofs.Ytekjjemamiddaaa
