/- What the specification's functions of chapter 2 return, for every argument. -/
import Derived.Test.YtoifhkfkmhnngaaBaseL02
import Derived.Test.YtoifhkfkmhnngaaSpecL01
namespace Go.Proofs.Ytoifhkfkmhnngaa
open Go.ChangeShapes Go.WideShapes Go.ChangeAt Go.RowKit

theorem specCellOk_any (v s : Int) (w : World) :
    Calls Try.prog 57 #[.agg #[.int .i64 v, .int .i64 s]] w (Pure (.bool (cellOkZ v s)) w) := by
  cases hv : inB v 0 32767
  · have HF := Lib.hid (show cellOkZ v s = false by simp [cellOkZ, hv])
    go_enter Try.func57, Try.ntmps57
    go_wp2_with (first | (go_at_call 66; refine (l1Value_any _ _).mono ?_; rintro e w' ⟨rfl, rfl⟩))
    go_ret
    exact ⟨ret_bool HF.out.symm, galloc (grefl _) _⟩
  · have HF := Lib.hid (show cellOkZ v s = inB s 0 65520 by simp [cellOkZ, hv])
    go_enter Try.func57, Try.ntmps57
    go_wp2_with (first | (go_at_call 66; refine (l1Value_any _ _).mono ?_; rintro e w' ⟨rfl, rfl⟩) | (go_at_call 45; refine (l1In_any _ _ _ _).mono ?_; rintro e w' ⟨rfl, rfl⟩))
    go_ret
    exact ⟨ret_bool HF.out.symm, galloc (grefl _) _⟩
theorem specGood_any (v s d p : Int) (w : World) :
    Calls Try.prog 62 #[.agg #[.int .i64 v, .int .i64 s], .int .i64 d, .int .i64 p] w (Pure (.bool (goodZ v s d p)) w) := by
  cases hv : cellOkZ v s
  · have HF := Lib.hid (show goodZ v s d p = false by simp [goodZ, hv])
    go_enter Try.func62, Try.ntmps62
    go_wp2_with fail
    refine (specCellOk_any _ _ _).mono ?_
    rintro e w1 ⟨rfl, hg⟩
    rw [hv]
    obtain ⟨hc, hf⟩ := gcell hg
    go_wp2_with fail
    go_ret
    exact ⟨ret_bool HF.out.symm, gtrans (galloc (grefl _) _) hg⟩
  · have HF := Lib.hid (show goodZ v s d p = fitsZ d p v s by simp [goodZ, hv])
    go_enter Try.func62, Try.ntmps62
    go_wp2_with fail
    refine (specCellOk_any _ _ _).mono ?_
    rintro e w1 ⟨rfl, hg⟩
    rw [hv]
    obtain ⟨hc, hf⟩ := gcell hg
    go_wp2_with (first | (go_at_call 67; refine (specFits_any _ _ _ _ _).mono ?_; rintro e w' ⟨rfl, rfl⟩))
    go_ret
    exact ⟨ret_bool HF.out.symm, gtrans (galloc (grefl _) _) hg⟩
end Go.Proofs.Ytoifhkfkmhnngaa
