/- What the specification's functions of chapter 1 return, for every argument. -/
import Derived.Test.YtfodjokcobljmaaGreatBase
namespace Go.Proofs.YtfodjokcobljmaaGreat
open Go.ChangeShapes Go.WideShapes Go.ChangeAt Go.RowKit

theorem l1In_any (n lo hi : Int) (w : World) :
    Calls Tryz.prog 52 #[.int .i64 n, .int .i64 lo, .int .i64 hi] w fun e w' => e = .returned (.bool (inB n lo hi)) ∧ w = w' := by
  by_cases h : lo ≤ n
  · go_enter Tryz.func52, Tryz.ntmps52
    go_wp2
    go_ret
    exact ⟨by simp [inB, h], rfl⟩
  · have HF := Lib.hid (inB_no (n := n) (lo := lo) (hi := hi) (by omega))
    have h' : n < lo := by omega
    clear h
    go_enter Tryz.func52, Tryz.ntmps52
    go_wp2
    go_ret
    exact ⟨ret_bool HF.out.symm, rfl⟩
theorem l1Value_any (v : Int) (w : World) :
    Calls Tryz.prog 90 #[.int .i64 v] w fun e w' => e = .returned (.bool (inB v 0 32767)) ∧ w = w' := by
  go_enter Tryz.func90, Tryz.ntmps90
  go_wp2_with (refine (l1In_any _ _ _ _).mono ?_; rintro e w' ⟨rfl, rfl⟩)
  go_ret
  exact ⟨rfl, rfl⟩
theorem l1Disk_any (v : Int) (w : World) :
    Calls Tryz.prog 53 #[.int .i64 v] w fun e w' => e = .returned (.bool (inB v 0 4)) ∧ w = w' := by
  go_enter Tryz.func53, Tryz.ntmps53
  go_wp2_with (refine (l1In_any _ _ _ _).mono ?_; rintro e w' ⟨rfl, rfl⟩)
  go_ret
  exact ⟨rfl, rfl⟩
theorem l1Place_any (v : Int) (w : World) :
    Calls Tryz.prog 107 #[.int .i64 v] w fun e w' => e = .returned (.bool (inB v 0 15)) ∧ w = w' := by
  go_enter Tryz.func107, Tryz.ntmps107
  go_wp2_with (refine (l1In_any _ _ _ _).mono ?_; rintro e w' ⟨rfl, rfl⟩)
  go_ret
  exact ⟨rfl, rfl⟩
theorem specSumOf_any (d p v : Int) (w : World) :
    Calls Tryz.prog 95 #[.int .i64 d, .int .i64 p, .int .i64 v] w fun e w' => e = .returned (.int .i64 (sumZ d p v)) ∧ w = w' := by
  cases hd : inB d 0 4
  · have HF := Lib.hid (sumZ_no (p := p) (v := v) (.inl hd))
    go_enter Tryz.func95, Tryz.ntmps95
    go_wp2_with (first | (go_at_call 53; refine (l1Disk_any _ _).mono ?_; rintro e w' ⟨rfl, rfl⟩))
    go_ret
    exact ⟨ret_int HF.out.symm, rfl⟩
  cases hp : inB p 0 15
  · have HF := Lib.hid (sumZ_no (d := d) (v := v) (.inr (.inl hp)))
    go_enter Tryz.func95, Tryz.ntmps95
    go_wp2_with (first | (go_at_call 53; refine (l1Disk_any _ _).mono ?_; rintro e w' ⟨rfl, rfl⟩) | (go_at_call 107; refine (l1Place_any _ _).mono ?_; rintro e w' ⟨rfl, rfl⟩))
    go_ret
    exact ⟨ret_int HF.out.symm, rfl⟩
  cases hv : inB v 0 32767
  · have HF := Lib.hid (sumZ_no (d := d) (p := p) (.inr (.inr hv)))
    go_enter Tryz.func95, Tryz.ntmps95
    go_wp2_with (first | (go_at_call 53; refine (l1Disk_any _ _).mono ?_; rintro e w' ⟨rfl, rfl⟩) | (go_at_call 107; refine (l1Place_any _ _).mono ?_; rintro e w' ⟨rfl, rfl⟩) | (go_at_call 90; refine (l1Value_any _ _).mono ?_; rintro e w' ⟨rfl, rfl⟩))
    go_ret
    exact ⟨ret_int HF.out.symm, rfl⟩
  have HF := Lib.hid (sumZ_yes hd hp hv)
  obtain ⟨d1, d2⟩ := inB_iff.1 hd; obtain ⟨p1, p2⟩ := inB_iff.1 hp; obtain ⟨v1, v2⟩ := inB_iff.1 hv
  go_enter Tryz.func95, Tryz.ntmps95
  go_wp2_with (first | (go_at_call 53; refine (l1Disk_any _ _).mono ?_; rintro e w' ⟨rfl, rfl⟩) | (go_at_call 107; refine (l1Place_any _ _).mono ?_; rintro e w' ⟨rfl, rfl⟩) | (go_at_call 90; refine (l1Value_any _ _).mono ?_; rintro e w' ⟨rfl, rfl⟩))
  go_ret
  exact ⟨ret_int HF.out.symm, rfl⟩
theorem specFits_any (d p v s : Int) (w : World) :
    Calls Tryz.prog 81 #[.int .i64 d, .int .i64 p, .int .i64 v, .int .i64 s] w fun e w' => e = .returned (.bool (fitsZ d p v s)) ∧ w = w' := by
  by_cases h : 0 ≤ sumZ d p v
  · have HF := Lib.hid (show fitsZ d p v s = (sumZ d p v == s) by unfold fitsZ; rw [Bool.eq_iff_iff]; simp [h])
    go_enter Tryz.func81, Tryz.ntmps81
    go_wp2_with (refine (specSumOf_any _ _ _ _).mono ?_; rintro e w' ⟨rfl, rfl⟩)
    go_ret
    exact ⟨ret_bool HF.out.symm, rfl⟩
  · have HF := Lib.hid (show fitsZ d p v s = false by simp [fitsZ]; omega)
    have h' : sumZ d p v < 0 := by omega
    clear h
    go_enter Tryz.func81, Tryz.ntmps81
    go_wp2_with (refine (specSumOf_any _ _ _ _).mono ?_; rintro e w' ⟨rfl, rfl⟩)
    go_ret
    exact ⟨ret_bool HF.out.symm, rfl⟩
end Go.Proofs.YtfodjokcobljmaaGreat
