/- What the specification's functions of chapter 5 return, for every argument. -/
import Derived.Test.YtgienfhogagdoaaBaseL05
import Derived.Test.YtgienfhogagdoaaSpecL01
import Derived.BigQuiet
import Derived.Test.YtgienfhogagdoaaMem
import Derived.Deep.DeepFit
namespace Go.Proofs.Ytgienfhogagdoaa
open Go.ChangeShapes Go.WideShapes Go.ChangeAt Go.RowKit

theorem l5N_any (n : Int) (w : World) :
    Calls Try.prog 32 #[.int .i64 n] w fun e w' => e = .returned (.bool (inB n 3 5)) ∧ w = w' := by
  go_enter Try.func32, Try.ntmps32
  go_wp2_with fail
  go_fit (l1In_any _ _ _ _)
  rintro e w' ⟨rfl, rfl⟩
  go_wp2_with fail
  go_ret
  exact ⟨rfl, rfl⟩
theorem specExtraOf_any (n r : Int) (w : World) :
    Calls Try.prog 21 #[.int .i64 n, .int .i64 r] w fun e w' => e = .returned (.int .i64 (extraZ n r)) ∧ w = w' := by
  cases h1 : inB n 3 5
  · have HF := Lib.hid (extraZ_no (n := n) (r := r) (.inl h1))
    go_enter Try.func21, Try.ntmps21
    go_wp2_with fail
    go_fit (l5N_any _ _)
    rintro e w' ⟨rfl, rfl⟩
    go_wp2_with fail
    go_ret
    exact ⟨ret_int HF.out.symm, rfl⟩
  cases h2 : inB r 0 15
  · have HF := Lib.hid (extraZ_no (n := n) (r := r) (.inr h2))
    go_enter Try.func21, Try.ntmps21
    go_wp2_with fail
    go_fit (l5N_any _ _)
    rintro e w' ⟨rfl, rfl⟩
    go_wp2_with fail
    go_fit (l1Place_any _ _)
    rintro e w' ⟨rfl, rfl⟩
    go_wp2_with fail
    go_ret
    exact ⟨ret_int HF.out.symm, rfl⟩
  obtain ⟨n0, n1⟩ := inB_iff.1 h1
  obtain ⟨r0, r1⟩ := inB_iff.1 h2
  have HF := Lib.hid ((extraZ_yes h1 h2).trans (tmod2w (n - 1 - r) n (by omega) (by omega)).symm)
  go_enter Try.func21, Try.ntmps21
  go_wp2_with fail
  go_fit (l5N_any _ _)
  rintro e w' ⟨rfl, rfl⟩
  go_wp2_with fail
  go_fit (l1Place_any _ _)
  rintro e w' ⟨rfl, rfl⟩
  go_wp2_with fail
  go_ret
  exact ⟨ret_int HF.out.symm, rfl⟩
theorem specRowOf_any (n l : Int) (w : World) :
    Calls Try.prog 18 #[.int .i64 n, .int .i64 l] w fun e w' => e = .returned (.int .i64 (rowZ n l)) ∧ w = w' := by
  cases h1 : inB n 3 5
  · have HF := Lib.hid (rowZ_no (n := n) (l := l) (.inl h1))
    go_enter Try.func18, Try.ntmps18
    go_wp2_with fail
    go_fit (l5N_any _ _)
    rintro e w' ⟨rfl, rfl⟩
    go_wp2_with fail
    go_ret
    exact ⟨ret_int HF.out.symm, rfl⟩
  obtain ⟨n0, n1⟩ := inB_iff.1 h1
  cases h2 : inB l 0 (16 * (n - 1) - 1)
  · have HF := Lib.hid (rowZ_no (n := n) (l := l) (.inr h2))
    go_enter Try.func18, Try.ntmps18
    go_wp2_with fail
    go_fit (l5N_any _ _)
    rintro e w' ⟨rfl, rfl⟩
    go_wp2_with fail
    go_fit (l1In_any _ _ _ _)
    rintro e w' ⟨rfl, rfl⟩
    go_wp2_with fail
    go_ret
    exact ⟨ret_int HF.out.symm, rfl⟩
  obtain ⟨r0, r1⟩ := inB_iff.1 h2
  have HF := Lib.hid (rowZ_yes h1 h2)
  go_enter Try.func18, Try.ntmps18
  go_wp2_with fail
  go_fit (l5N_any _ _)
  rintro e w' ⟨rfl, rfl⟩
  go_wp2_with fail
  go_fit (l1In_any _ _ _ _)
  rintro e w' ⟨rfl, rfl⟩
  go_wp2_with fail
  go_ret
  exact ⟨ret_int HF.out.symm, rfl⟩
theorem specDiskOf_any (n l : Int) (w : World) :
    Calls Try.prog 17 #[.int .i64 n, .int .i64 l] w (Pure (.int .i64 (diskZ n l)) w) := by
  by_cases h : rowZ n l < 0
  · have HF : Hid (diskZ n l = -1) := by
      show _ = _
      cases h1 : inB n 3 5
      · exact diskZ_no (.inl h1)
      · cases h2 : inB l 0 (16 * (n - 1) - 1)
        · exact diskZ_no (.inr h2)
        · have := (layout_at h1 h2).1; omega
    go_enter Try.func17, Try.ntmps17
    go_wp2_with fail
    go_fit (specRowOf_any _ _ _)
    rintro e w' ⟨rfl, rfl⟩
    go_wp2_with fail
    go_ret
    exact ⟨ret_int HF.out.symm, grefl _⟩
  cases h1 : inB n 3 5
  · rw [rowZ_no (.inl h1)] at h; omega
  cases h2 : inB l 0 (16 * (n - 1) - 1)
  · rw [rowZ_no (.inr h2)] at h; omega
  have hl := layout_at h1 h2
  obtain ⟨n0, n1⟩ := inB_iff.1 h1
  obtain ⟨l0, l1⟩ := inB_iff.1 h2
  have he : 0 ≤ (n - 1 - rowZ n l) % n ∧ (n - 1 - rowZ n l) % n < n := ⟨Int.emod_nonneg _ (by omega), Int.emod_lt_of_pos _ (by omega)⟩
  have hm : 0 ≤ l % (n - 1) ∧ l % (n - 1) < n - 1 := ⟨Int.emod_nonneg _ (by omega), Int.emod_lt_of_pos _ (by omega)⟩
  have HF : Hid (diskZ n l = (extraZ n (rowZ n l) + 1 + l % (n - 1)) % n) := by
    show _ = _
    rw [hl.2.2.2.2.2.2, diskZ_yes h1 h2, rowZ_yes h1 h2]
  have HE := hl.2.2.2.2.2.2
  have he0 : 0 ≤ extraZ n (rowZ n l) := by rw [HE]; exact he.1
  have he1 : extraZ n (rowZ n l) < n := by rw [HE]; exact he.2
  clear hl he HE
  obtain ⟨m0, m1⟩ := hm
  have hc : ∀ w, Calls Try.prog 21 #[.int .i64 n, .int .i64 (rowZ n l)] w fun e w' => e = .returned (.int .i64 (extraZ n (rowZ n l))) ∧ w = w' := fun w => specExtraOf_any n _ w
  generalize extraZ n (rowZ n l) = E at *
  go_enter Try.func17, Try.ntmps17
  go_wp2_with fail
  go_fit (specRowOf_any _ _ _)
  rintro e w' ⟨rfl, rfl⟩
  go_wp2_with fail
  go_quiet ((go_at_call 21; go_fit (hc _); rintro e w8 ⟨rfl, rfl⟩; exact ⟨rfl, _, rfl⟩))
  go_wp2_with fail
  go_ret
  exact ⟨ret_int HF.out.symm, gdrew (grefl _) _⟩
theorem specLogicalAt_any (n d r : Int) (w : World) :
    Calls Try.prog 19 #[.int .i64 n, .int .i64 d, .int .i64 r] w fun e w' => e = .returned (.int .i64 (logZ n d r)) ∧ w = w' := by
  by_cases h : extraZ n r < 0
  · have HF : Hid (logZ n d r = -1) := by
      show _ = _
      cases h1 : inB n 3 5
      · exact logZ_no (.inl h1)
      · cases h2 : inB r 0 15
        · exact logZ_no (.inr (.inl h2))
        · have := (extraZ_in (r := r) h1).1; rw [extraZ_yes h1 h2] at h; omega
    go_enter Try.func19, Try.ntmps19
    go_wp2_with fail
    go_fit (specExtraOf_any _ _ _)
    rintro e w' ⟨rfl, rfl⟩
    go_wp2_with fail
    go_ret
    exact ⟨ret_int HF.out.symm, rfl⟩
  cases h1 : inB n 3 5
  · rw [extraZ_no (.inl h1)] at h; omega
  cases h2 : inB r 0 15
  · rw [extraZ_no (.inr h2)] at h; omega
  have HE := extraZ_yes h1 h2
  have he := extraZ_in (r := r) h1
  obtain ⟨n0, n1⟩ := inB_iff.1 h1
  obtain ⟨r0, r1⟩ := inB_iff.1 h2
  cases h3 : inB d 0 (n - 1)
  · have HF := Lib.hid (logZ_no (n := n) (d := d) (r := r) (.inr (.inr (.inl h3))))
    clear HE
    go_enter Try.func19, Try.ntmps19
    go_wp2_with fail
    go_fit (specExtraOf_any _ _ _)
    rintro e w' ⟨rfl, rfl⟩
    go_wp2_with fail
    go_fit (l1In_any _ _ _ _)
    rintro e w' ⟨rfl, rfl⟩
    go_wp2_with fail
    go_ret
    exact ⟨ret_int HF.out.symm, rfl⟩
  obtain ⟨d0, d1⟩ := inB_iff.1 h3
  rw [← HE] at he
  by_cases h4 : d = extraZ n r
  · have HF := Lib.hid (logZ_no (n := n) (d := d) (r := r) (.inr (.inr (.inr (by rw [← HE]; exact h4)))))
    have h4' : (d == extraZ n r) = true := by simpa using h4
    clear h4 HE
    go_enter Try.func19, Try.ntmps19
    go_wp2_with fail
    go_fit (specExtraOf_any _ _ _)
    rintro e w' ⟨rfl, rfl⟩
    go_wp2_with fail
    go_fit (l1In_any _ _ _ _)
    rintro e w' ⟨rfl, rfl⟩
    go_wp2_with fail
    go_ret
    exact ⟨ret_int HF.out.symm, rfl⟩
  have HF : Hid (logZ n d r = r * (n - 1) + (d - extraZ n r - 1) % n) := by
    show _ = _
    rw [logZ_yes h1 h2 h3 (by rw [← HE]; exact h4), HE, Int.add_emod_right]
  have h4' : (d == extraZ n r) = false := beq_eq_false_iff_ne.2 h4
  obtain ⟨e0, e1⟩ := he
  clear h4 HE
  have hm : 0 ≤ (d - extraZ n r - 1) % n ∧ (d - extraZ n r - 1) % n < n := ⟨Int.emod_nonneg _ (by omega), Int.emod_lt_of_pos _ (by omega)⟩
  have hp : 0 ≤ r * (n - 1) ∧ r * (n - 1) ≤ 60 := by rcases three h1 with rfl | rfl | rfl <;> omega
  obtain ⟨m0, m1⟩ := hm
  obtain ⟨p0, p1⟩ := hp
  go_enter Try.func19, Try.ntmps19
  go_wp2_with fail
  go_fit (specExtraOf_any _ _ _)
  rintro e w' ⟨rfl, rfl⟩
  generalize extraZ n r = E at *
  go_wp2_with fail
  go_fit (l1In_any _ _ _ _)
  rintro e w' ⟨rfl, rfl⟩
  go_wp2_with fail
  go_ret
  exact ⟨ret_int HF.out.symm, rfl⟩
theorem specRoomOf_any (n r : Int) (w : World) :
    Calls Try.prog 24 #[.int .i64 n, .int .i64 r] w fun e w' => e = .returned (.int .i64 (roomZ n r)) ∧ w = w' := by
  cases h1 : inB n 3 5
  · have HF := Lib.hid (roomZ_no (n := n) (r := r) (.inl h1))
    go_enter Try.func24, Try.ntmps24
    go_wp2_with fail
    go_fit (l5N_any _ _)
    rintro e w' ⟨rfl, rfl⟩
    go_wp2_with fail
    go_ret
    exact ⟨ret_int HF.out.symm, rfl⟩
  cases h2 : inB r 1 16
  · have HF := Lib.hid (roomZ_no (n := n) (r := r) (.inr h2))
    go_enter Try.func24, Try.ntmps24
    go_wp2_with fail
    go_fit (l5N_any _ _)
    rintro e w' ⟨rfl, rfl⟩
    go_wp2_with fail
    go_fit (l1In_any _ _ _ _)
    rintro e w' ⟨rfl, rfl⟩
    go_wp2_with fail
    go_ret
    exact ⟨ret_int HF.out.symm, rfl⟩
  obtain ⟨n0, n1⟩ := inB_iff.1 h1
  obtain ⟨r0, r1⟩ := inB_iff.1 h2
  have HF := Lib.hid (roomZ_yes h1 h2)
  have hp : 0 ≤ (n - 1) * r ∧ (n - 1) * r ≤ 64 := by rcases three h1 with rfl | rfl | rfl <;> omega
  obtain ⟨p0, p1⟩ := hp
  go_enter Try.func24, Try.ntmps24
  go_wp2_with fail
  go_fit (l5N_any _ _)
  rintro e w' ⟨rfl, rfl⟩
  go_wp2_with fail
  go_fit (l1In_any _ _ _ _)
  rintro e w' ⟨rfl, rfl⟩
  go_wp2_with fail
  go_ret
  exact ⟨ret_int HF.out.symm, rfl⟩
end Go.Proofs.Ytgienfhogagdoaa
