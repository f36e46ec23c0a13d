/- What the specification's functions of chapter 1 return, for every argument. What the program's functions of chapter 1 return, for every argument. -/
import Derived.Test.YtjhnoepllnifhaaBase
namespace Go.Proofs.Ytjhnoepllnifhaa
open Go.ChangeShapes Go.WideShapes Go.ChangeAt Go.RowKit

theorem l1In_any (n lo hi : Int) (w : World) :
    Calls Try.prog 41 #[.int .i64 n, .int .i64 lo, .int .i64 hi] w fun e w' => e = .returned (.bool (inB n lo hi)) ∧ w = w' := by
  by_cases h : lo ≤ n
  · go_enter Try.func41, Try.ntmps41
    go_wp2
    go_ret
    exact ⟨by simp [inB, h], rfl⟩
  · have HF := Lib.hid (inB_no (n := n) (lo := lo) (hi := hi) (by omega))
    have h' : n < lo := by omega
    clear h
    go_enter Try.func41, Try.ntmps41
    go_wp2
    go_ret
    exact ⟨ret_bool HF.out.symm, rfl⟩
theorem l1Value_any (v : Int) (w : World) :
    Calls Try.prog 49 #[.int .i64 v] w fun e w' => e = .returned (.bool (inB v 0 32767)) ∧ w = w' := by
  go_enter Try.func49, Try.ntmps49
  go_wp2_with (refine (l1In_any _ _ _ _).mono ?_; rintro e w' ⟨rfl, rfl⟩)
  go_ret
  exact ⟨rfl, rfl⟩
theorem l1Disk_any (v : Int) (w : World) :
    Calls Try.prog 48 #[.int .i64 v] w fun e w' => e = .returned (.bool (inB v 0 4)) ∧ w = w' := by
  go_enter Try.func48, Try.ntmps48
  go_wp2_with (refine (l1In_any _ _ _ _).mono ?_; rintro e w' ⟨rfl, rfl⟩)
  go_ret
  exact ⟨rfl, rfl⟩
theorem l1Place_any (v : Int) (w : World) :
    Calls Try.prog 47 #[.int .i64 v] w fun e w' => e = .returned (.bool (inB v 0 15)) ∧ w = w' := by
  go_enter Try.func47, Try.ntmps47
  go_wp2_with (refine (l1In_any _ _ _ _).mono ?_; rintro e w' ⟨rfl, rfl⟩)
  go_ret
  exact ⟨rfl, rfl⟩
theorem specSumOf_any (d p v : Int) (w : World) :
    Calls Try.prog 76 #[.int .i64 d, .int .i64 p, .int .i64 v] w fun e w' => e = .returned (.int .i64 (sumZ d p v)) ∧ w = w' := by
  cases hd : inB d 0 4
  · have HF := Lib.hid (sumZ_no (p := p) (v := v) (.inl hd))
    go_enter Try.func76, Try.ntmps76
    go_wp2_with (first | (go_at_call 48; refine (l1Disk_any _ _).mono ?_; rintro e w' ⟨rfl, rfl⟩))
    go_ret
    exact ⟨ret_int HF.out.symm, rfl⟩
  cases hp : inB p 0 15
  · have HF := Lib.hid (sumZ_no (d := d) (v := v) (.inr (.inl hp)))
    go_enter Try.func76, Try.ntmps76
    go_wp2_with (first | (go_at_call 48; refine (l1Disk_any _ _).mono ?_; rintro e w' ⟨rfl, rfl⟩) | (go_at_call 47; refine (l1Place_any _ _).mono ?_; rintro e w' ⟨rfl, rfl⟩))
    go_ret
    exact ⟨ret_int HF.out.symm, rfl⟩
  cases hv : inB v 0 32767
  · have HF := Lib.hid (sumZ_no (d := d) (p := p) (.inr (.inr hv)))
    go_enter Try.func76, Try.ntmps76
    go_wp2_with (first | (go_at_call 48; refine (l1Disk_any _ _).mono ?_; rintro e w' ⟨rfl, rfl⟩) | (go_at_call 47; refine (l1Place_any _ _).mono ?_; rintro e w' ⟨rfl, rfl⟩) | (go_at_call 49; refine (l1Value_any _ _).mono ?_; rintro e w' ⟨rfl, rfl⟩))
    go_ret
    exact ⟨ret_int HF.out.symm, rfl⟩
  have HF := Lib.hid (sumZ_yes hd hp hv)
  obtain ⟨d1, d2⟩ := inB_iff.1 hd; obtain ⟨p1, p2⟩ := inB_iff.1 hp; obtain ⟨v1, v2⟩ := inB_iff.1 hv
  go_enter Try.func76, Try.ntmps76
  go_wp2_with (first | (go_at_call 48; refine (l1Disk_any _ _).mono ?_; rintro e w' ⟨rfl, rfl⟩) | (go_at_call 47; refine (l1Place_any _ _).mono ?_; rintro e w' ⟨rfl, rfl⟩) | (go_at_call 49; refine (l1Value_any _ _).mono ?_; rintro e w' ⟨rfl, rfl⟩))
  go_ret
  exact ⟨ret_int HF.out.symm, rfl⟩
end Go.Proofs.Ytjhnoepllnifhaa
namespace Go.Proofs.Ytjhnoepllnifhaa
open Go.ChangeShapes Go.WideShapes Go.ChangeAt Go.RowKit

theorem between_any (n lo hi : Int) (w : World) :
    Calls Try.prog 54 #[.int .i64 n, .int .i64 lo, .int .i64 hi] w fun e w' => e = .returned (.bool (inB n lo hi)) ∧ w = w' := by
  by_cases h : lo ≤ n
  · go_enter Try.func54, Try.ntmps54
    go_wp2
    go_ret
    exact ⟨by simp [inB, h], rfl⟩
  · have HF := Lib.hid (inB_no (n := n) (lo := lo) (hi := hi) (by omega))
    have h' : n < lo := by omega
    clear h
    go_enter Try.func54, Try.ntmps54
    go_wp2
    go_ret
    exact ⟨ret_bool HF.out.symm, rfl⟩
theorem valid_any (v : Int) (w : World) :
    Calls Try.prog 73 #[.int .i64 v] w fun e w' => e = .returned (.bool (inB v 0 32767)) ∧ w = w' := by
  go_enter Try.func73, Try.ntmps73
  go_wp2_with (refine (between_any _ _ _ _).mono ?_; rintro e w' ⟨rfl, rfl⟩)
  go_ret
  exact ⟨rfl, rfl⟩
theorem sumAt_any (v d p : Int) (w : World) (hd : 0 ≤ d ∧ d ≤ 4) (hp : 0 ≤ p ∧ p ≤ 15) (hv : 0 ≤ v ∧ v ≤ 32767) :
    Calls Try.prog 81 #[.int .i64 v, .int .i64 d, .int .i64 p] w fun e w' => e = .returned (.int .i64 ((31 * v + 1000 * p + 20000 * d) % 65521)) ∧ w = w' := by
  obtain ⟨d1, d2⟩ := hd; obtain ⟨p1, p2⟩ := hp; obtain ⟨v1, v2⟩ := hv
  go_enter Try.func81, Try.ntmps81
  go_wp2
  go_ret
  exact ⟨rfl, rfl⟩
theorem implValueOk_any (v : Int) (w : World) :
    Calls Try.prog 60 #[.int .i64 v] w fun e w' => e = .returned (.bool (inB v 0 32767)) ∧ w = w' := by
  go_enter Try.func60, Try.ntmps60
  go_wp2_with (refine (valid_any _ _).mono ?_; rintro e w' ⟨rfl, rfl⟩)
  go_ret
  exact ⟨rfl, rfl⟩
theorem sumWhere_any (d p v : Int) (w : World) :
    Calls Try.prog 80 #[.int .i64 d, .int .i64 p, .func (.func 73) #[.int .i64 v] #[], .func (.func 81) #[.int .i64 v] #[]] w fun e w' => e = .returned (.int .i64 (sumZ d p v)) ∧ w = w' := by
  cases hd : inB d 0 4
  · have HF := Lib.hid (sumZ_no (p := p) (v := v) (.inl hd))
    go_enter Try.func80, Try.ntmps80
    go_wp2_with (first | (go_at_call 54; refine (between_any _ _ _ _).mono ?_; rintro e w' ⟨rfl, rfl⟩))
    go_ret
    exact ⟨ret_int HF.out.symm, rfl⟩
  cases hp : inB p 0 15
  · have HF := Lib.hid (sumZ_no (d := d) (v := v) (.inr (.inl hp)))
    go_enter Try.func80, Try.ntmps80
    go_wp2_with (first | (go_at_call 54; refine (between_any _ _ _ _).mono ?_; rintro e w' ⟨rfl, rfl⟩))
    go_ret
    exact ⟨ret_int HF.out.symm, rfl⟩
  cases hv : inB v 0 32767
  · have HF := Lib.hid (sumZ_no (d := d) (p := p) (.inr (.inr hv)))
    go_enter Try.func80, Try.ntmps80
    go_wp2_with (first | (go_at_call 54; refine (between_any _ _ _ _).mono ?_; rintro e w' ⟨rfl, rfl⟩) | (go_at_call 73; refine (valid_any _ _).mono ?_; rintro e w' ⟨rfl, rfl⟩))
    go_ret
    exact ⟨ret_int HF.out.symm, rfl⟩
  have HF := Lib.hid (sumZ_yes hd hp hv)
  have d1 := inB_iff.1 hd; have p1 := inB_iff.1 hp; have v1 := inB_iff.1 hv
  go_enter Try.func80, Try.ntmps80
  go_wp2_with (first | (go_at_call 54; refine (between_any _ _ _ _).mono ?_; rintro e w' ⟨rfl, rfl⟩) | (go_at_call 73; refine (valid_any _ _).mono ?_; rintro e w' ⟨rfl, rfl⟩) | (go_at_call 81; refine (sumAt_any _ _ _ _ d1 p1 v1).mono ?_; rintro e w' ⟨rfl, rfl⟩))
  go_ret
  exact ⟨ret_int HF.out.symm, rfl⟩
theorem implSumOf_any (d p v : Int) (w : World) :
    Calls Try.prog 74 #[.int .i64 d, .int .i64 p, .int .i64 v] w fun e w' => e = .returned (.int .i64 (sumZ d p v)) ∧ w = w' := by
  go_enter Try.func74, Try.ntmps74
  go_wp2_with (refine (sumWhere_any _ _ _ _).mono ?_; rintro e w' ⟨rfl, rfl⟩)
  go_ret
  exact ⟨rfl, rfl⟩
end Go.Proofs.Ytjhnoepllnifhaa
