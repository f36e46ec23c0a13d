/- What the specification's functions of chapter 2 return, for every argument. What the program's functions of chapter 2 return, for every argument. -/
import Derived.Test.YtjhnoepllnifhaaBaseL02
import Derived.Test.YtjhnoepllnifhaaSpecL01
namespace Go.Proofs.Ytjhnoepllnifhaa
open Go.ChangeShapes Go.WideShapes Go.ChangeAt Go.RowKit

theorem specCellOk_any (v s : Int) (w : World) :
    Calls Try.prog 77 #[.agg #[.int .i64 v, .int .i64 s]] w (Pure (.bool (cellOkZ v s)) w) := by
  cases hv : inB v 0 32767
  · have HF := Lib.hid (show cellOkZ v s = false by simp [cellOkZ, hv])
    go_enter Try.func77, Try.ntmps77
    go_wp2_with (first | (go_at_call 49; refine (l1Value_any _ _).mono ?_; rintro e w' ⟨rfl, rfl⟩))
    go_ret
    exact ⟨ret_bool HF.out.symm, galloc (grefl _) _⟩
  · have HF := Lib.hid (show cellOkZ v s = inB s 0 65520 by simp [cellOkZ, hv])
    go_enter Try.func77, Try.ntmps77
    go_wp2_with (first | (go_at_call 49; refine (l1Value_any _ _).mono ?_; rintro e w' ⟨rfl, rfl⟩) | (go_at_call 41; refine (l1In_any _ _ _ _).mono ?_; rintro e w' ⟨rfl, rfl⟩))
    go_ret
    exact ⟨ret_bool HF.out.symm, galloc (grefl _) _⟩
theorem specCellOf_any (d p v : Int) (w : World) :
    Calls Try.prog 65 #[.int .i64 d, .int .i64 p, .int .i64 v] w (Pure (.agg #[.int .i64 (cofV d p v), .int .i64 (cofS d p v)]) w) := by
  by_cases hs : sumZ d p v < 0
  · have HF := Lib.hid (show cofV d p v = 0 ∧ cofS d p v = 0 by simp [cofV, cofS, hs])
    rw [HF.out.1, HF.out.2]
    go_enter Try.func65, Try.ntmps65
    go_wp2_with (first | (go_at_call 76; refine (specSumOf_any _ _ _ _).mono ?_; rintro e w' ⟨rfl, rfl⟩))
    exact bodyPost_ret (v := .agg #[.int .i64 0, .int .i64 0]) (by simp [results, Try.results65, go_sem]) rfl ⟨rfl, galloc (grefl _) _⟩
  · have HF := Lib.hid (show cofV d p v = v ∧ cofS d p v = sumZ d p v by simp [cofV, cofS, hs])
    rw [HF.out.1, HF.out.2]
    go_enter Try.func65, Try.ntmps65
    go_wp2_with (first | (go_at_call 76; refine (specSumOf_any _ _ _ _).mono ?_; rintro e w' ⟨rfl, rfl⟩))
    exact bodyPost_ret (v := .agg #[.int .i64 v, .int .i64 (sumZ d p v)]) (by simp [results, Try.results65, go_sem]) rfl ⟨rfl, by repeat (first | exact grefl _ | refine galloc ?_ _ | refine gdrew ?_ _ | refine gsetN ?_ (by simp) _ _)⟩
end Go.Proofs.Ytjhnoepllnifhaa
namespace Go.Proofs.Ytjhnoepllnifhaa
open Go.ChangeShapes Go.WideShapes Go.ChangeAt Go.RowKit

theorem summed_any (v s : Int) (w : World) :
    Calls Try.prog 82 #[.agg #[.int .i64 v, .int .i64 s]] w (Pure (.agg #[.int .i64 v, .int .i64 s]) w) := by
  go_enter Try.func82, Try.ntmps82
  go_wp2
  refine bodyPost_ret (v := .agg #[.int .i64 v, .int .i64 s]) (by simp [results, Try.results82, go_sem]) rfl ⟨rfl, ?_⟩
  repeat (first | exact grefl _ | refine galloc ?_ _ | refine gdrew ?_ _ | refine gsetN ?_ (by simp) _ _)
theorem implCellOk_any (v s : Int) (w : World) :
    Calls Try.prog 79 #[.agg #[.int .i64 v, .int .i64 s]] w (Pure (.bool (cellOkZ v s)) w) := by
  cases hv : inB v 0 32767
  · have HF := Lib.hid (show cellOkZ v s = false by simp [cellOkZ, hv])
    go_enter Try.func79, Try.ntmps79
    go_wp2_with fail
    refine (summed_any _ _ _).mono ?_
    rintro e w1 ⟨rfl, hg⟩
    go_wp2_with (first | (go_at_call 73; refine (valid_any _ _).mono ?_; rintro e w' ⟨rfl, rfl⟩))
    go_ret
    exact ⟨ret_bool HF.out.symm, by repeat (first | exact grefl _ | refine galloc ?_ _ | refine gdrew ?_ _ | refine gsetN ?_ (by simp <;> omega) _ _ | refine gtrans ?_ hg)⟩
  · have HF := Lib.hid (show cellOkZ v s = inB s 0 65520 by simp [cellOkZ, hv])
    go_enter Try.func79, Try.ntmps79
    go_wp2_with fail
    refine (summed_any _ _ _).mono ?_
    rintro e w1 ⟨rfl, hg⟩
    go_wp2_with (first | (go_at_call 73; refine (valid_any _ _).mono ?_; rintro e w' ⟨rfl, rfl⟩) | (go_at_call 54; refine (between_any _ _ _ _).mono ?_; rintro e w' ⟨rfl, rfl⟩))
    go_ret
    exact ⟨ret_bool HF.out.symm, by repeat (first | exact grefl _ | refine galloc ?_ _ | refine gdrew ?_ _ | refine gsetN ?_ (by simp <;> omega) _ _ | refine gtrans ?_ hg)⟩
theorem implCellOf_any (d p v : Int) (w : World) :
    Calls Try.prog 62 #[.int .i64 d, .int .i64 p, .int .i64 v] w (Pure (.agg #[.int .i64 (cofV d p v), .int .i64 (cofS d p v)]) w) := by
  have hlo := sumZ_lo d p v
  by_cases hs : sumZ d p v < 0
  · rw [show cofV d p v = 0 by simp [cofV, hs], show cofS d p v = 0 by simp [cofS, hs]]
    have hn : (sumZ d p v == -1) = true := by rw [beq_iff_eq]; omega
    clear hs hlo
    go_enter Try.func62, Try.ntmps62
    go_wp2_with (first | (go_at_call 74; refine (implSumOf_any _ _ _ _).mono ?_; rintro e w' ⟨rfl, rfl⟩))
    exact bodyPost_ret (v := .agg #[.int .i64 0, .int .i64 0]) (by simp [results, Try.results62, go_sem]) rfl ⟨rfl, galloc (grefl _) _⟩
  · rw [show cofV d p v = v by simp [cofV, hs], show cofS d p v = sumZ d p v by simp [cofS, hs]]
    have hn : (sumZ d p v == -1) = false := by rw [beq_eq_false_iff_ne]; omega
    clear hs hlo
    go_enter Try.func62, Try.ntmps62
    go_wp2_with (first | (go_at_call 74; refine (implSumOf_any _ _ _ _).mono ?_; rintro e w' ⟨rfl, rfl⟩))
    refine bodyPost_ret (v := .agg #[.int .i64 v, .int .i64 (sumZ d p v)]) (by simp [results, Try.results62, go_sem]) rfl ⟨rfl, ?_⟩
    repeat (first | exact grefl _ | refine galloc ?_ _ | refine gdrew ?_ _ | refine gsetN ?_ (by simp) _ _)
end Go.Proofs.Ytjhnoepllnifhaa
