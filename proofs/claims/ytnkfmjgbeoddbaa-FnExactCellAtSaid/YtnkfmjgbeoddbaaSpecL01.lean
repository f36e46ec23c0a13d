/- What the specification's functions of chapter 1 return, for every argument. What the program's functions of chapter 1 return, for every argument. -/
import Derived.Test.YtnkfmjgbeoddbaaBase
namespace Go.Proofs.Ytnkfmjgbeoddbaa
open Go.ChangeShapes Go.WideShapes Go.ChangeAt Go.RowKit

theorem l1In_any (n lo hi : Int) (w : World) :
    Calls Try.prog 41 #[.int .i64 n, .int .i64 lo, .int .i64 hi] w fun e w' => e = .returned (.bool (inB n lo hi)) ∧ w = w' := by
  by_cases h : lo ≤ n
  · go_enter Try.func41, Try.ntmps41
    go_wp2
    go_ret
    exact ⟨by simp [inB, h], rfl⟩
  · have HF := Lib.hid (inB_no (n := n) (lo := lo) (hi := hi) (by omega))
    have h' : n < lo := by omega
    clear h
    go_enter Try.func41, Try.ntmps41
    go_wp2
    go_ret
    exact ⟨ret_bool HF.out.symm, rfl⟩
theorem l1Value_any (v : Int) (w : World) :
    Calls Try.prog 44 #[.int .i64 v] w fun e w' => e = .returned (.bool (inB v 0 32767)) ∧ w = w' := by
  go_enter Try.func44, Try.ntmps44
  go_wp2_with (refine (l1In_any _ _ _ _).mono ?_; rintro e w' ⟨rfl, rfl⟩)
  go_ret
  exact ⟨rfl, rfl⟩
theorem l1Disk_any (v : Int) (w : World) :
    Calls Try.prog 45 #[.int .i64 v] w fun e w' => e = .returned (.bool (inB v 0 4)) ∧ w = w' := by
  go_enter Try.func45, Try.ntmps45
  go_wp2_with (refine (l1In_any _ _ _ _).mono ?_; rintro e w' ⟨rfl, rfl⟩)
  go_ret
  exact ⟨rfl, rfl⟩
theorem l1Place_any (v : Int) (w : World) :
    Calls Try.prog 46 #[.int .i64 v] w fun e w' => e = .returned (.bool (inB v 0 15)) ∧ w = w' := by
  go_enter Try.func46, Try.ntmps46
  go_wp2_with (refine (l1In_any _ _ _ _).mono ?_; rintro e w' ⟨rfl, rfl⟩)
  go_ret
  exact ⟨rfl, rfl⟩
theorem specSumOf_any (d p v : Int) (w : World) :
    Calls Try.prog 18 #[.int .i64 d, .int .i64 p, .int .i64 v] w fun e w' => e = .returned (.int .i64 (sumZ d p v)) ∧ w = w' := by
  cases hd : inB d 0 4
  · have HF := Lib.hid (sumZ_no (p := p) (v := v) (.inl hd))
    go_enter Try.func18, Try.ntmps18
    go_wp2_with (first | (go_at_call 45; refine (l1Disk_any _ _).mono ?_; rintro e w' ⟨rfl, rfl⟩))
    go_ret
    exact ⟨ret_int HF.out.symm, rfl⟩
  cases hp : inB p 0 15
  · have HF := Lib.hid (sumZ_no (d := d) (v := v) (.inr (.inl hp)))
    go_enter Try.func18, Try.ntmps18
    go_wp2_with (first | (go_at_call 45; refine (l1Disk_any _ _).mono ?_; rintro e w' ⟨rfl, rfl⟩) | (go_at_call 46; refine (l1Place_any _ _).mono ?_; rintro e w' ⟨rfl, rfl⟩))
    go_ret
    exact ⟨ret_int HF.out.symm, rfl⟩
  cases hv : inB v 0 32767
  · have HF := Lib.hid (sumZ_no (d := d) (p := p) (.inr (.inr hv)))
    go_enter Try.func18, Try.ntmps18
    go_wp2_with (first | (go_at_call 45; refine (l1Disk_any _ _).mono ?_; rintro e w' ⟨rfl, rfl⟩) | (go_at_call 46; refine (l1Place_any _ _).mono ?_; rintro e w' ⟨rfl, rfl⟩) | (go_at_call 44; refine (l1Value_any _ _).mono ?_; rintro e w' ⟨rfl, rfl⟩))
    go_ret
    exact ⟨ret_int HF.out.symm, rfl⟩
  have HF := Lib.hid (sumZ_yes hd hp hv)
  obtain ⟨d1, d2⟩ := inB_iff.1 hd; obtain ⟨p1, p2⟩ := inB_iff.1 hp; obtain ⟨v1, v2⟩ := inB_iff.1 hv
  go_enter Try.func18, Try.ntmps18
  go_wp2_with (first | (go_at_call 45; refine (l1Disk_any _ _).mono ?_; rintro e w' ⟨rfl, rfl⟩) | (go_at_call 46; refine (l1Place_any _ _).mono ?_; rintro e w' ⟨rfl, rfl⟩) | (go_at_call 44; refine (l1Value_any _ _).mono ?_; rintro e w' ⟨rfl, rfl⟩))
  go_ret
  exact ⟨ret_int HF.out.symm, rfl⟩
theorem specFits_any (d p v s : Int) (w : World) :
    Calls Try.prog 40 #[.int .i64 d, .int .i64 p, .int .i64 v, .int .i64 s] w fun e w' => e = .returned (.bool (fitsZ d p v s)) ∧ w = w' := by
  by_cases h : 0 ≤ sumZ d p v
  · have HF := Lib.hid (show fitsZ d p v s = (sumZ d p v == s) by unfold fitsZ; rw [Bool.eq_iff_iff]; simp [h])
    go_enter Try.func40, Try.ntmps40
    go_wp2_with (refine (specSumOf_any _ _ _ _).mono ?_; rintro e w' ⟨rfl, rfl⟩)
    go_ret
    exact ⟨ret_bool HF.out.symm, rfl⟩
  · have HF := Lib.hid (show fitsZ d p v s = false by simp [fitsZ]; omega)
    have h' : sumZ d p v < 0 := by omega
    clear h
    go_enter Try.func40, Try.ntmps40
    go_wp2_with (refine (specSumOf_any _ _ _ _).mono ?_; rintro e w' ⟨rfl, rfl⟩)
    go_ret
    exact ⟨ret_bool HF.out.symm, rfl⟩
end Go.Proofs.Ytnkfmjgbeoddbaa
namespace Go.Proofs.Ytnkfmjgbeoddbaa
open Go.ChangeShapes Go.WideShapes Go.ChangeAt Go.RowKit

theorem between_any (n lo hi : Int) (w : World) :
    Calls Try.prog 43 #[.int .i64 n, .int .i64 lo, .int .i64 hi] w fun e w' => e = .returned (.bool (inB n lo hi)) ∧ w = w' := by
  by_cases h : lo ≤ n
  · go_enter Try.func43, Try.ntmps43
    go_wp2
    go_ret
    exact ⟨by simp [inB, h], rfl⟩
  · have HF := Lib.hid (inB_no (n := n) (lo := lo) (hi := hi) (by omega))
    have h' : n < lo := by omega
    clear h
    go_enter Try.func43, Try.ntmps43
    go_wp2
    go_ret
    exact ⟨ret_bool HF.out.symm, rfl⟩
theorem valid_any (v : Int) (w : World) :
    Calls Try.prog 42 #[.int .i64 v] w fun e w' => e = .returned (.bool (inB v 0 32767)) ∧ w = w' := by
  go_enter Try.func42, Try.ntmps42
  go_wp2_with (refine (between_any _ _ _ _).mono ?_; rintro e w' ⟨rfl, rfl⟩)
  go_ret
  exact ⟨rfl, rfl⟩
theorem sumAt_any (v d p : Int) (w : World) (hd : 0 ≤ d ∧ d ≤ 4) (hp : 0 ≤ p ∧ p ≤ 15) (hv : 0 ≤ v ∧ v ≤ 32767) :
    Calls Try.prog 60 #[.int .i64 v, .int .i64 d, .int .i64 p] w fun e w' => e = .returned (.int .i64 ((31 * v + 1000 * p + 20000 * d) % 65521)) ∧ w = w' := by
  obtain ⟨d1, d2⟩ := hd; obtain ⟨p1, p2⟩ := hp; obtain ⟨v1, v2⟩ := hv
  go_enter Try.func60, Try.ntmps60
  go_wp2
  go_ret
  exact ⟨rfl, rfl⟩
theorem implValueOk_any (v : Int) (w : World) :
    Calls Try.prog 82 #[.int .i64 v] w fun e w' => e = .returned (.bool (inB v 0 32767)) ∧ w = w' := by
  go_enter Try.func82, Try.ntmps82
  go_wp2_with (refine (valid_any _ _).mono ?_; rintro e w' ⟨rfl, rfl⟩)
  go_ret
  exact ⟨rfl, rfl⟩
theorem sumWhere_any (d p v : Int) (w : World) :
    Calls Try.prog 59 #[.int .i64 d, .int .i64 p, .func (.func 42) #[.int .i64 v] #[], .func (.func 60) #[.int .i64 v] #[]] w fun e w' => e = .returned (.int .i64 (sumZ d p v)) ∧ w = w' := by
  cases hd : inB d 0 4
  · have HF := Lib.hid (sumZ_no (p := p) (v := v) (.inl hd))
    go_enter Try.func59, Try.ntmps59
    go_wp2_with (first | (go_at_call 43; refine (between_any _ _ _ _).mono ?_; rintro e w' ⟨rfl, rfl⟩))
    go_ret
    exact ⟨ret_int HF.out.symm, rfl⟩
  cases hp : inB p 0 15
  · have HF := Lib.hid (sumZ_no (d := d) (v := v) (.inr (.inl hp)))
    go_enter Try.func59, Try.ntmps59
    go_wp2_with (first | (go_at_call 43; refine (between_any _ _ _ _).mono ?_; rintro e w' ⟨rfl, rfl⟩))
    go_ret
    exact ⟨ret_int HF.out.symm, rfl⟩
  cases hv : inB v 0 32767
  · have HF := Lib.hid (sumZ_no (d := d) (p := p) (.inr (.inr hv)))
    go_enter Try.func59, Try.ntmps59
    go_wp2_with (first | (go_at_call 43; refine (between_any _ _ _ _).mono ?_; rintro e w' ⟨rfl, rfl⟩) | (go_at_call 42; refine (valid_any _ _).mono ?_; rintro e w' ⟨rfl, rfl⟩))
    go_ret
    exact ⟨ret_int HF.out.symm, rfl⟩
  have HF := Lib.hid (sumZ_yes hd hp hv)
  have d1 := inB_iff.1 hd; have p1 := inB_iff.1 hp; have v1 := inB_iff.1 hv
  go_enter Try.func59, Try.ntmps59
  go_wp2_with (first | (go_at_call 43; refine (between_any _ _ _ _).mono ?_; rintro e w' ⟨rfl, rfl⟩) | (go_at_call 42; refine (valid_any _ _).mono ?_; rintro e w' ⟨rfl, rfl⟩) | (go_at_call 60; refine (sumAt_any _ _ _ _ d1 p1 v1).mono ?_; rintro e w' ⟨rfl, rfl⟩))
  go_ret
  exact ⟨ret_int HF.out.symm, rfl⟩
theorem implSumOf_any (d p v : Int) (w : World) :
    Calls Try.prog 28 #[.int .i64 d, .int .i64 p, .int .i64 v] w fun e w' => e = .returned (.int .i64 (sumZ d p v)) ∧ w = w' := by
  go_enter Try.func28, Try.ntmps28
  go_wp2_with (refine (sumWhere_any _ _ _ _).mono ?_; rintro e w' ⟨rfl, rfl⟩)
  go_ret
  exact ⟨rfl, rfl⟩
theorem implFits_any (d p v s : Int) (w : World) :
    Calls Try.prog 39 #[.int .i64 d, .int .i64 p, .int .i64 v, .int .i64 s] w fun e w' => e = .returned (.bool (fitsZ d p v s)) ∧ w = w' := by
  have hlo := sumZ_lo d p v
  by_cases h : s = -1
  · have HF := Lib.hid (show fitsZ d p v s = false by simp [fitsZ]; omega)
    subst h
    go_enter Try.func39, Try.ntmps39
    go_wp2
    go_ret
    exact ⟨ret_bool HF.out.symm, rfl⟩
  · have HF := Lib.hid (show fitsZ d p v s = (sumZ d p v == s) by unfold fitsZ; rw [Bool.eq_iff_iff]; simp; omega)
    have hb : (s == -1) = false := beq_eq_false_iff_ne.2 h
    have hn : (s != -1) = true := bne_iff_ne.2 h
    clear h hlo
    go_enter Try.func39, Try.ntmps39
    go_wp2_with (refine (implSumOf_any _ _ _ _).mono ?_; rintro e w' ⟨rfl, rfl⟩)
    go_ret
    exact ⟨ret_bool HF.out.symm, rfl⟩
end Go.Proofs.Ytnkfmjgbeoddbaa
