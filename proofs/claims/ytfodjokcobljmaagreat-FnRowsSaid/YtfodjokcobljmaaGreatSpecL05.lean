/- What the specification's functions of chapter 5 return, for every argument. -/
import Derived.Test.YtfodjokcobljmaaGreatBaseL05
import Derived.Test.YtfodjokcobljmaaGreatSpecL01
import Derived.BigQuiet
import Derived.Test.YtfodjokcobljmaaGreatMem
import Derived.Deep.DeepFit
namespace Go.Proofs.YtfodjokcobljmaaGreat
open Go.ChangeShapes Go.WideShapes Go.ChangeAt Go.RowKit

theorem l5N_any (n : Int) (w : World) :
    Calls Tryz.prog 34 #[.int .i64 n] w fun e w' => e = .returned (.bool (inB n 3 5)) ∧ w = w' := by
  go_enter Tryz.func34, Tryz.ntmps34
  go_wp2_with fail
  go_fit (l1In_any _ _ _ _)
  rintro e w' ⟨rfl, rfl⟩
  go_wp2_with fail
  go_ret
  exact ⟨rfl, rfl⟩
theorem specExtraOf_any (n r : Int) (w : World) :
    Calls Tryz.prog 98 #[.int .i64 n, .int .i64 r] w fun e w' => e = .returned (.int .i64 (extraZ n r)) ∧ w = w' := by
  cases h1 : inB n 3 5
  · have HF := Lib.hid (extraZ_no (n := n) (r := r) (.inl h1))
    go_enter Tryz.func98, Tryz.ntmps98
    go_wp2_with fail
    go_fit (l5N_any _ _)
    rintro e w' ⟨rfl, rfl⟩
    go_wp2_with fail
    go_ret
    exact ⟨ret_int HF.out.symm, rfl⟩
  cases h2 : inB r 0 15
  · have HF := Lib.hid (extraZ_no (n := n) (r := r) (.inr h2))
    go_enter Tryz.func98, Tryz.ntmps98
    go_wp2_with fail
    go_fit (l5N_any _ _)
    rintro e w' ⟨rfl, rfl⟩
    go_wp2_with fail
    go_fit (l1Place_any _ _)
    rintro e w' ⟨rfl, rfl⟩
    go_wp2_with fail
    go_ret
    exact ⟨ret_int HF.out.symm, rfl⟩
  obtain ⟨n0, n1⟩ := inB_iff.1 h1
  obtain ⟨r0, r1⟩ := inB_iff.1 h2
  have HF := Lib.hid ((extraZ_yes h1 h2).trans (tmod2w (n - 1 - r) n (by omega) (by omega)).symm)
  go_enter Tryz.func98, Tryz.ntmps98
  go_wp2_with fail
  go_fit (l5N_any _ _)
  rintro e w' ⟨rfl, rfl⟩
  go_wp2_with fail
  go_fit (l1Place_any _ _)
  rintro e w' ⟨rfl, rfl⟩
  go_wp2_with fail
  go_ret
  exact ⟨ret_int HF.out.symm, rfl⟩
theorem specRowOf_any (n l : Int) (w : World) :
    Calls Tryz.prog 96 #[.int .i64 n, .int .i64 l] w fun e w' => e = .returned (.int .i64 (rowZ n l)) ∧ w = w' := by
  cases h1 : inB n 3 5
  · have HF := Lib.hid (rowZ_no (n := n) (l := l) (.inl h1))
    go_enter Tryz.func96, Tryz.ntmps96
    go_wp2_with fail
    go_fit (l5N_any _ _)
    rintro e w' ⟨rfl, rfl⟩
    go_wp2_with fail
    go_ret
    exact ⟨ret_int HF.out.symm, rfl⟩
  obtain ⟨n0, n1⟩ := inB_iff.1 h1
  cases h2 : inB l 0 (16 * (n - 1) - 1)
  · have HF := Lib.hid (rowZ_no (n := n) (l := l) (.inr h2))
    go_enter Tryz.func96, Tryz.ntmps96
    go_wp2_with fail
    go_fit (l5N_any _ _)
    rintro e w' ⟨rfl, rfl⟩
    go_wp2_with fail
    go_fit (l1In_any _ _ _ _)
    rintro e w' ⟨rfl, rfl⟩
    go_wp2_with fail
    go_ret
    exact ⟨ret_int HF.out.symm, rfl⟩
  obtain ⟨r0, r1⟩ := inB_iff.1 h2
  have HF := Lib.hid (rowZ_yes h1 h2)
  go_enter Tryz.func96, Tryz.ntmps96
  go_wp2_with fail
  go_fit (l5N_any _ _)
  rintro e w' ⟨rfl, rfl⟩
  go_wp2_with fail
  go_fit (l1In_any _ _ _ _)
  rintro e w' ⟨rfl, rfl⟩
  go_wp2_with fail
  go_ret
  exact ⟨ret_int HF.out.symm, rfl⟩
theorem specDiskOf_any (n l : Int) (w : World) :
    Calls Tryz.prog 97 #[.int .i64 n, .int .i64 l] w (Pure (.int .i64 (diskZ n l)) w) := by
  by_cases h : rowZ n l < 0
  · have HF : Hid (diskZ n l = -1) := by
      show _ = _
      cases h1 : inB n 3 5
      · exact diskZ_no (.inl h1)
      · cases h2 : inB l 0 (16 * (n - 1) - 1)
        · exact diskZ_no (.inr h2)
        · have := (layout_at h1 h2).1; omega
    go_enter Tryz.func97, Tryz.ntmps97
    go_wp2_with fail
    go_fit (specRowOf_any _ _ _)
    rintro e w' ⟨rfl, rfl⟩
    go_wp2_with fail
    go_ret
    exact ⟨ret_int HF.out.symm, grefl _⟩
  cases h1 : inB n 3 5
  · rw [rowZ_no (.inl h1)] at h; omega
  cases h2 : inB l 0 (16 * (n - 1) - 1)
  · rw [rowZ_no (.inr h2)] at h; omega
  have hl := layout_at h1 h2
  obtain ⟨n0, n1⟩ := inB_iff.1 h1
  obtain ⟨l0, l1⟩ := inB_iff.1 h2
  have he : 0 ≤ (n - 1 - rowZ n l) % n ∧ (n - 1 - rowZ n l) % n < n := ⟨Int.emod_nonneg _ (by omega), Int.emod_lt_of_pos _ (by omega)⟩
  have hm : 0 ≤ l % (n - 1) ∧ l % (n - 1) < n - 1 := ⟨Int.emod_nonneg _ (by omega), Int.emod_lt_of_pos _ (by omega)⟩
  have HF : Hid (diskZ n l = (extraZ n (rowZ n l) + 1 + l % (n - 1)) % n) := by
    show _ = _
    rw [hl.2.2.2.2.2.2, diskZ_yes h1 h2, rowZ_yes h1 h2]
  have HE := hl.2.2.2.2.2.2
  have he0 : 0 ≤ extraZ n (rowZ n l) := by rw [HE]; exact he.1
  have he1 : extraZ n (rowZ n l) < n := by rw [HE]; exact he.2
  clear hl he HE
  obtain ⟨m0, m1⟩ := hm
  have hc : ∀ w, Calls Tryz.prog 98 #[.int .i64 n, .int .i64 (rowZ n l)] w fun e w' => e = .returned (.int .i64 (extraZ n (rowZ n l))) ∧ w = w' := fun w => specExtraOf_any n _ w
  generalize extraZ n (rowZ n l) = E at *
  go_enter Tryz.func97, Tryz.ntmps97
  go_wp2_with fail
  go_fit (specRowOf_any _ _ _)
  rintro e w' ⟨rfl, rfl⟩
  go_wp2_with fail
  go_quiet ((go_at_call 98; go_fit (hc _); rintro e w8 ⟨rfl, rfl⟩; exact ⟨rfl, _, rfl⟩))
  go_wp2_with fail
  go_ret
  exact ⟨ret_int HF.out.symm, gdrew (grefl _) _⟩
end Go.Proofs.YtfodjokcobljmaaGreat
