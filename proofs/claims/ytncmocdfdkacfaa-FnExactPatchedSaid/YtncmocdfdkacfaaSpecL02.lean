/- What the specification's functions of chapter 2 return, for every argument. -/
import Derived.Test.YtncmocdfdkacfaaBaseL02
import Derived.Test.YtncmocdfdkacfaaSpecL01
namespace Go.Proofs.Ytncmocdfdkacfaa
open Go.ChangeShapes Go.WideShapes Go.ChangeAt Go.RowKit

theorem specCellOk_any (v s : Int) (w : World) :
    Calls Try.prog 102 #[.agg #[.int .i64 v, .int .i64 s]] w (Pure (.bool (cellOkZ v s)) w) := by
  cases hv : inB v 0 32767
  · have HF := Lib.hid (show cellOkZ v s = false by simp [cellOkZ, hv])
    go_enter Try.func102, Try.ntmps102
    go_wp2_with (first | (go_at_call 25; refine (l1Value_any _ _).mono ?_; rintro e w' ⟨rfl, rfl⟩))
    go_ret
    exact ⟨ret_bool HF.out.symm, galloc (grefl _) _⟩
  · have HF := Lib.hid (show cellOkZ v s = inB s 0 65520 by simp [cellOkZ, hv])
    go_enter Try.func102, Try.ntmps102
    go_wp2_with (first | (go_at_call 25; refine (l1Value_any _ _).mono ?_; rintro e w' ⟨rfl, rfl⟩) | (go_at_call 55; refine (l1In_any _ _ _ _).mono ?_; rintro e w' ⟨rfl, rfl⟩))
    go_ret
    exact ⟨ret_bool HF.out.symm, galloc (grefl _) _⟩
theorem specCellOf_any (d p v : Int) (w : World) :
    Calls Try.prog 99 #[.int .i64 d, .int .i64 p, .int .i64 v] w (Pure (.agg #[.int .i64 (cofV d p v), .int .i64 (cofS d p v)]) w) := by
  by_cases hs : sumZ d p v < 0
  · have HF := Lib.hid (show cofV d p v = 0 ∧ cofS d p v = 0 by simp [cofV, cofS, hs])
    rw [HF.out.1, HF.out.2]
    go_enter Try.func99, Try.ntmps99
    go_wp2_with (first | (go_at_call 107; refine (specSumOf_any _ _ _ _).mono ?_; rintro e w' ⟨rfl, rfl⟩))
    exact bodyPost_ret (v := .agg #[.int .i64 0, .int .i64 0]) (by simp [results, Try.results99, go_sem]) rfl ⟨rfl, galloc (grefl _) _⟩
  · have HF := Lib.hid (show cofV d p v = v ∧ cofS d p v = sumZ d p v by simp [cofV, cofS, hs])
    rw [HF.out.1, HF.out.2]
    go_enter Try.func99, Try.ntmps99
    go_wp2_with (first | (go_at_call 107; refine (specSumOf_any _ _ _ _).mono ?_; rintro e w' ⟨rfl, rfl⟩))
    exact bodyPost_ret (v := .agg #[.int .i64 v, .int .i64 (sumZ d p v)]) (by simp [results, Try.results99, go_sem]) rfl ⟨rfl, by repeat (first | exact grefl _ | refine galloc ?_ _ | refine gdrew ?_ _ | refine gsetN ?_ (by simp) _ _)⟩
theorem specGood_any (v s d p : Int) (w : World) :
    Calls Try.prog 103 #[.agg #[.int .i64 v, .int .i64 s], .int .i64 d, .int .i64 p] w (Pure (.bool (goodZ v s d p)) w) := by
  cases hv : cellOkZ v s
  · have HF := Lib.hid (show goodZ v s d p = false by simp [goodZ, hv])
    go_enter Try.func103, Try.ntmps103
    go_wp2_with fail
    refine (specCellOk_any _ _ _).mono ?_
    rintro e w1 ⟨rfl, hg⟩
    rw [hv]
    obtain ⟨hc, hf⟩ := gcell hg
    go_wp2_with fail
    go_ret
    exact ⟨ret_bool HF.out.symm, gtrans (galloc (grefl _) _) hg⟩
  · have HF := Lib.hid (show goodZ v s d p = fitsZ d p v s by simp [goodZ, hv])
    go_enter Try.func103, Try.ntmps103
    go_wp2_with fail
    refine (specCellOk_any _ _ _).mono ?_
    rintro e w1 ⟨rfl, hg⟩
    rw [hv]
    obtain ⟨hc, hf⟩ := gcell hg
    go_wp2_with (first | (go_at_call 111; refine (specFits_any _ _ _ _ _).mono ?_; rintro e w' ⟨rfl, rfl⟩))
    go_ret
    exact ⟨ret_bool HF.out.symm, gtrans (galloc (grefl _) _) hg⟩
end Go.Proofs.Ytncmocdfdkacfaa
