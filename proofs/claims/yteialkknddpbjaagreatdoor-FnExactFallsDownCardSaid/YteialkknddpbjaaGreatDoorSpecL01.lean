/- What the specification's functions of chapter 1 return, for every argument. What the program's functions of chapter 1 return, for every argument. -/
import Derived.Test.YteialkknddpbjaaGreatDoorBase
namespace Go.Proofs.YteialkknddpbjaaGreatDoor
open Go.ChangeShapes Go.WideShapes Go.ChangeAt Go.RowKit

theorem l1In_any (n lo hi : Int) (w : World) :
    Calls Tryz.prog 87 #[.int .i64 n, .int .i64 lo, .int .i64 hi] w fun e w' => e = .returned (.bool (inB n lo hi)) ∧ w = w' := by
  by_cases h : lo ≤ n
  · go_enter Tryz.func87, Tryz.ntmps87
    go_wp2
    go_ret
    exact ⟨by simp [inB, h], rfl⟩
  · have HF := Lib.hid (inB_no (n := n) (lo := lo) (hi := hi) (by omega))
    have h' : n < lo := by omega
    clear h
    go_enter Tryz.func87, Tryz.ntmps87
    go_wp2
    go_ret
    exact ⟨ret_bool HF.out.symm, rfl⟩
theorem l1Value_any (v : Int) (w : World) :
    Calls Tryz.prog 227 #[.int .i64 v] w fun e w' => e = .returned (.bool (inB v 0 32767)) ∧ w = w' := by
  go_enter Tryz.func227, Tryz.ntmps227
  go_wp2_with (refine (l1In_any _ _ _ _).mono ?_; rintro e w' ⟨rfl, rfl⟩)
  go_ret
  exact ⟨rfl, rfl⟩
theorem l1Disk_any (v : Int) (w : World) :
    Calls Tryz.prog 151 #[.int .i64 v] w fun e w' => e = .returned (.bool (inB v 0 4)) ∧ w = w' := by
  go_enter Tryz.func151, Tryz.ntmps151
  go_wp2_with (refine (l1In_any _ _ _ _).mono ?_; rintro e w' ⟨rfl, rfl⟩)
  go_ret
  exact ⟨rfl, rfl⟩
theorem l1Place_any (v : Int) (w : World) :
    Calls Tryz.prog 266 #[.int .i64 v] w fun e w' => e = .returned (.bool (inB v 0 15)) ∧ w = w' := by
  go_enter Tryz.func266, Tryz.ntmps266
  go_wp2_with (refine (l1In_any _ _ _ _).mono ?_; rintro e w' ⟨rfl, rfl⟩)
  go_ret
  exact ⟨rfl, rfl⟩
theorem specSumOf_any (d p v : Int) (w : World) :
    Calls Tryz.prog 265 #[.int .i64 d, .int .i64 p, .int .i64 v] w fun e w' => e = .returned (.int .i64 (sumZ d p v)) ∧ w = w' := by
  cases hd : inB d 0 4
  · have HF := Lib.hid (sumZ_no (p := p) (v := v) (.inl hd))
    go_enter Tryz.func265, Tryz.ntmps265
    go_wp2_with (first | (go_at_call 151; refine (l1Disk_any _ _).mono ?_; rintro e w' ⟨rfl, rfl⟩))
    go_ret
    exact ⟨ret_int HF.out.symm, rfl⟩
  cases hp : inB p 0 15
  · have HF := Lib.hid (sumZ_no (d := d) (v := v) (.inr (.inl hp)))
    go_enter Tryz.func265, Tryz.ntmps265
    go_wp2_with (first | (go_at_call 151; refine (l1Disk_any _ _).mono ?_; rintro e w' ⟨rfl, rfl⟩) | (go_at_call 266; refine (l1Place_any _ _).mono ?_; rintro e w' ⟨rfl, rfl⟩))
    go_ret
    exact ⟨ret_int HF.out.symm, rfl⟩
  cases hv : inB v 0 32767
  · have HF := Lib.hid (sumZ_no (d := d) (p := p) (.inr (.inr hv)))
    go_enter Tryz.func265, Tryz.ntmps265
    go_wp2_with (first | (go_at_call 151; refine (l1Disk_any _ _).mono ?_; rintro e w' ⟨rfl, rfl⟩) | (go_at_call 266; refine (l1Place_any _ _).mono ?_; rintro e w' ⟨rfl, rfl⟩) | (go_at_call 227; refine (l1Value_any _ _).mono ?_; rintro e w' ⟨rfl, rfl⟩))
    go_ret
    exact ⟨ret_int HF.out.symm, rfl⟩
  have HF := Lib.hid (sumZ_yes hd hp hv)
  obtain ⟨d1, d2⟩ := inB_iff.1 hd; obtain ⟨p1, p2⟩ := inB_iff.1 hp; obtain ⟨v1, v2⟩ := inB_iff.1 hv
  go_enter Tryz.func265, Tryz.ntmps265
  go_wp2_with (first | (go_at_call 151; refine (l1Disk_any _ _).mono ?_; rintro e w' ⟨rfl, rfl⟩) | (go_at_call 266; refine (l1Place_any _ _).mono ?_; rintro e w' ⟨rfl, rfl⟩) | (go_at_call 227; refine (l1Value_any _ _).mono ?_; rintro e w' ⟨rfl, rfl⟩))
  go_ret
  exact ⟨ret_int HF.out.symm, rfl⟩
theorem specFits_any (d p v s : Int) (w : World) :
    Calls Tryz.prog 231 #[.int .i64 d, .int .i64 p, .int .i64 v, .int .i64 s] w fun e w' => e = .returned (.bool (fitsZ d p v s)) ∧ w = w' := by
  by_cases h : 0 ≤ sumZ d p v
  · have HF := Lib.hid (show fitsZ d p v s = (sumZ d p v == s) by unfold fitsZ; rw [Bool.eq_iff_iff]; simp [h])
    go_enter Tryz.func231, Tryz.ntmps231
    go_wp2_with (refine (specSumOf_any _ _ _ _).mono ?_; rintro e w' ⟨rfl, rfl⟩)
    go_ret
    exact ⟨ret_bool HF.out.symm, rfl⟩
  · have HF := Lib.hid (show fitsZ d p v s = false by simp [fitsZ]; omega)
    have h' : sumZ d p v < 0 := by omega
    clear h
    go_enter Tryz.func231, Tryz.ntmps231
    go_wp2_with (refine (specSumOf_any _ _ _ _).mono ?_; rintro e w' ⟨rfl, rfl⟩)
    go_ret
    exact ⟨ret_bool HF.out.symm, rfl⟩
end Go.Proofs.YteialkknddpbjaaGreatDoor
namespace Go.Proofs.YteialkknddpbjaaGreatDoor
open Go.ChangeShapes Go.WideShapes Go.ChangeAt Go.RowKit

theorem between_any (n lo hi : Int) (w : World) :
    Calls Tryz.prog 140 #[.int .i64 n, .int .i64 lo, .int .i64 hi] w fun e w' => e = .returned (.bool (inB n lo hi)) ∧ w = w' := by
  by_cases h : lo ≤ n
  · go_enter Tryz.func140, Tryz.ntmps140
    go_wp2
    go_ret
    exact ⟨by simp [inB, h], rfl⟩
  · have HF := Lib.hid (inB_no (n := n) (lo := lo) (hi := hi) (by omega))
    have h' : n < lo := by omega
    clear h
    go_enter Tryz.func140, Tryz.ntmps140
    go_wp2
    go_ret
    exact ⟨ret_bool HF.out.symm, rfl⟩
theorem valid_any (v : Int) (w : World) :
    Calls Tryz.prog 223 #[.int .i64 v] w fun e w' => e = .returned (.bool (inB v 0 32767)) ∧ w = w' := by
  go_enter Tryz.func223, Tryz.ntmps223
  go_wp2_with (refine (between_any _ _ _ _).mono ?_; rintro e w' ⟨rfl, rfl⟩)
  go_ret
  exact ⟨rfl, rfl⟩
theorem sumAt_any (v d p : Int) (w : World) (hd : 0 ≤ d ∧ d ≤ 4) (hp : 0 ≤ p ∧ p ≤ 15) (hv : 0 ≤ v ∧ v ≤ 32767) :
    Calls Tryz.prog 224 #[.int .i64 v, .int .i64 d, .int .i64 p] w fun e w' => e = .returned (.int .i64 ((31 * v + 1000 * p + 20000 * d) % 65521)) ∧ w = w' := by
  obtain ⟨d1, d2⟩ := hd; obtain ⟨p1, p2⟩ := hp; obtain ⟨v1, v2⟩ := hv
  go_enter Tryz.func224, Tryz.ntmps224
  go_wp2
  go_ret
  exact ⟨rfl, rfl⟩
theorem implValueOk_any (v : Int) (w : World) :
    Calls Tryz.prog 193 #[.int .i64 v] w fun e w' => e = .returned (.bool (inB v 0 32767)) ∧ w = w' := by
  go_enter Tryz.func193, Tryz.ntmps193
  go_wp2_with (refine (valid_any _ _).mono ?_; rintro e w' ⟨rfl, rfl⟩)
  go_ret
  exact ⟨rfl, rfl⟩
theorem sumWhere_any (d p v : Int) (w : World) :
    Calls Tryz.prog 222 #[.int .i64 d, .int .i64 p, .func (.func 223) #[.int .i64 v] #[], .func (.func 224) #[.int .i64 v] #[]] w fun e w' => e = .returned (.int .i64 (sumZ d p v)) ∧ w = w' := by
  cases hd : inB d 0 4
  · have HF := Lib.hid (sumZ_no (p := p) (v := v) (.inl hd))
    go_enter Tryz.func222, Tryz.ntmps222
    go_wp2_with (first | (go_at_call 140; refine (between_any _ _ _ _).mono ?_; rintro e w' ⟨rfl, rfl⟩))
    go_ret
    exact ⟨ret_int HF.out.symm, rfl⟩
  cases hp : inB p 0 15
  · have HF := Lib.hid (sumZ_no (d := d) (v := v) (.inr (.inl hp)))
    go_enter Tryz.func222, Tryz.ntmps222
    go_wp2_with (first | (go_at_call 140; refine (between_any _ _ _ _).mono ?_; rintro e w' ⟨rfl, rfl⟩))
    go_ret
    exact ⟨ret_int HF.out.symm, rfl⟩
  cases hv : inB v 0 32767
  · have HF := Lib.hid (sumZ_no (d := d) (p := p) (.inr (.inr hv)))
    go_enter Tryz.func222, Tryz.ntmps222
    go_wp2_with (first | (go_at_call 140; refine (between_any _ _ _ _).mono ?_; rintro e w' ⟨rfl, rfl⟩) | (go_at_call 223; refine (valid_any _ _).mono ?_; rintro e w' ⟨rfl, rfl⟩))
    go_ret
    exact ⟨ret_int HF.out.symm, rfl⟩
  have HF := Lib.hid (sumZ_yes hd hp hv)
  have d1 := inB_iff.1 hd; have p1 := inB_iff.1 hp; have v1 := inB_iff.1 hv
  go_enter Tryz.func222, Tryz.ntmps222
  go_wp2_with (first | (go_at_call 140; refine (between_any _ _ _ _).mono ?_; rintro e w' ⟨rfl, rfl⟩) | (go_at_call 223; refine (valid_any _ _).mono ?_; rintro e w' ⟨rfl, rfl⟩) | (go_at_call 224; refine (sumAt_any _ _ _ _ d1 p1 v1).mono ?_; rintro e w' ⟨rfl, rfl⟩))
  go_ret
  exact ⟨ret_int HF.out.symm, rfl⟩
theorem implSumOf_any (d p v : Int) (w : World) :
    Calls Tryz.prog 141 #[.int .i64 d, .int .i64 p, .int .i64 v] w fun e w' => e = .returned (.int .i64 (sumZ d p v)) ∧ w = w' := by
  go_enter Tryz.func141, Tryz.ntmps141
  go_wp2_with (refine (sumWhere_any _ _ _ _).mono ?_; rintro e w' ⟨rfl, rfl⟩)
  go_ret
  exact ⟨rfl, rfl⟩
theorem implFits_any (d p v s : Int) (w : World) :
    Calls Tryz.prog 283 #[.int .i64 d, .int .i64 p, .int .i64 v, .int .i64 s] w fun e w' => e = .returned (.bool (fitsZ d p v s)) ∧ w = w' := by
  have hlo := sumZ_lo d p v
  by_cases h : s = -1
  · have HF := Lib.hid (show fitsZ d p v s = false by simp [fitsZ]; omega)
    subst h
    go_enter Tryz.func283, Tryz.ntmps283
    go_wp2
    go_ret
    exact ⟨ret_bool HF.out.symm, rfl⟩
  · have HF := Lib.hid (show fitsZ d p v s = (sumZ d p v == s) by unfold fitsZ; rw [Bool.eq_iff_iff]; simp; omega)
    have hb : (s == -1) = false := beq_eq_false_iff_ne.2 h
    have hn : (s != -1) = true := bne_iff_ne.2 h
    clear h hlo
    go_enter Tryz.func283, Tryz.ntmps283
    go_wp2_with (refine (implSumOf_any _ _ _ _).mono ?_; rintro e w' ⟨rfl, rfl⟩)
    go_ret
    exact ⟨ret_bool HF.out.symm, rfl⟩
end Go.Proofs.YteialkknddpbjaaGreatDoor
