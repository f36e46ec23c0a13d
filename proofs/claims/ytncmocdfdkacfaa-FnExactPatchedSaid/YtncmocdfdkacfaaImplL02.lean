/- What the program's functions of chapter 2 return, for every argument. -/
import Derived.Test.YtncmocdfdkacfaaBaseL02
import Derived.Test.YtncmocdfdkacfaaImplL01
namespace Go.Proofs.Ytncmocdfdkacfaa
open Go.ChangeShapes Go.WideShapes Go.ChangeAt Go.RowKit

theorem summed_any (v s : Int) (w : World) :
    Calls Try.prog 114 #[.agg #[.int .i64 v, .int .i64 s]] w (Pure (.agg #[.int .i64 v, .int .i64 s]) w) := by
  go_enter Try.func114, Try.ntmps114
  go_wp2
  refine bodyPost_ret (v := .agg #[.int .i64 v, .int .i64 s]) (by simp [results, Try.results114, go_sem]) rfl ⟨rfl, ?_⟩
  repeat (first | exact grefl _ | refine galloc ?_ _ | refine gdrew ?_ _ | refine gsetN ?_ (by simp) _ _)
theorem implCellOk_any (v s : Int) (w : World) :
    Calls Try.prog 108 #[.agg #[.int .i64 v, .int .i64 s]] w (Pure (.bool (cellOkZ v s)) w) := by
  cases hv : inB v 0 32767
  · have HF := Lib.hid (show cellOkZ v s = false by simp [cellOkZ, hv])
    go_enter Try.func108, Try.ntmps108
    go_wp2_with fail
    refine (summed_any _ _ _).mono ?_
    rintro e w1 ⟨rfl, hg⟩
    go_wp2_with (first | (go_at_call 67; refine (valid_any _ _).mono ?_; rintro e w' ⟨rfl, rfl⟩))
    go_ret
    exact ⟨ret_bool HF.out.symm, by repeat (first | exact grefl _ | refine galloc ?_ _ | refine gdrew ?_ _ | refine gsetN ?_ (by simp <;> omega) _ _ | refine gtrans ?_ hg)⟩
  · have HF := Lib.hid (show cellOkZ v s = inB s 0 65520 by simp [cellOkZ, hv])
    go_enter Try.func108, Try.ntmps108
    go_wp2_with fail
    refine (summed_any _ _ _).mono ?_
    rintro e w1 ⟨rfl, hg⟩
    go_wp2_with (first | (go_at_call 67; refine (valid_any _ _).mono ?_; rintro e w' ⟨rfl, rfl⟩) | (go_at_call 27; refine (between_any _ _ _ _).mono ?_; rintro e w' ⟨rfl, rfl⟩))
    go_ret
    exact ⟨ret_bool HF.out.symm, by repeat (first | exact grefl _ | refine galloc ?_ _ | refine gdrew ?_ _ | refine gsetN ?_ (by simp <;> omega) _ _ | refine gtrans ?_ hg)⟩
theorem implCellOf_any (d p v : Int) (w : World) :
    Calls Try.prog 83 #[.int .i64 d, .int .i64 p, .int .i64 v] w (Pure (.agg #[.int .i64 (cofV d p v), .int .i64 (cofS d p v)]) w) := by
  have hlo := sumZ_lo d p v
  by_cases hs : sumZ d p v < 0
  · rw [show cofV d p v = 0 by simp [cofV, hs], show cofS d p v = 0 by simp [cofS, hs]]
    have hn : (sumZ d p v == -1) = true := by rw [beq_iff_eq]; omega
    clear hs hlo
    go_enter Try.func83, Try.ntmps83
    go_wp2_with (first | (go_at_call 101; refine (implSumOf_any _ _ _ _).mono ?_; rintro e w' ⟨rfl, rfl⟩))
    exact bodyPost_ret (v := .agg #[.int .i64 0, .int .i64 0]) (by simp [results, Try.results83, go_sem]) rfl ⟨rfl, galloc (grefl _) _⟩
  · rw [show cofV d p v = v by simp [cofV, hs], show cofS d p v = sumZ d p v by simp [cofS, hs]]
    have hn : (sumZ d p v == -1) = false := by rw [beq_eq_false_iff_ne]; omega
    clear hs hlo
    go_enter Try.func83, Try.ntmps83
    go_wp2_with (first | (go_at_call 101; refine (implSumOf_any _ _ _ _).mono ?_; rintro e w' ⟨rfl, rfl⟩))
    refine bodyPost_ret (v := .agg #[.int .i64 v, .int .i64 (sumZ d p v)]) (by simp [results, Try.results83, go_sem]) rfl ⟨rfl, ?_⟩
    repeat (first | exact grefl _ | refine galloc ?_ _ | refine gdrew ?_ _ | refine gsetN ?_ (by simp) _ _)
theorem implGood_any (v s d p : Int) (w : World) :
    Calls Try.prog 105 #[.agg #[.int .i64 v, .int .i64 s], .int .i64 d, .int .i64 p] w (Pure (.bool (goodZ v s d p)) w) := by
  cases hv : cellOkZ v s
  · have HF := Lib.hid (show goodZ v s d p = false by simp [goodZ, hv])
    go_enter Try.func105, Try.ntmps105
    go_wp2_with fail
    refine (implCellOk_any _ _ _).mono ?_
    rintro e w1 ⟨rfl, hg⟩
    rw [hv]
    go_wp2_with fail
    go_ret
    exact ⟨ret_bool HF.out.symm, gtrans (galloc (grefl _) _) hg⟩
  · have HF := Lib.hid (show goodZ v s d p = fitsZ d p v s by simp [goodZ, hv])
    go_enter Try.func105, Try.ntmps105
    go_wp2_with fail
    refine (implCellOk_any _ _ _).mono ?_
    rintro e w1 ⟨rfl, hg⟩
    rw [hv]
    obtain ⟨a0, b0⟩ := gk hg (b := w.heap.size) (o := 0) (v := .int .i64 v) ⟨by simp [go_sem], by simp [go_sem]⟩
    obtain ⟨a1, b1⟩ := gk hg (b := w.heap.size) (o := 1) (v := .int .i64 s) ⟨by simp [go_sem], by simp [go_sem]⟩
    go_wp2_with (first | (go_at_call 112; refine (implFits_any _ _ _ _ _).mono ?_; rintro e w' ⟨rfl, rfl⟩))
    go_ret
    exact ⟨ret_bool HF.out.symm, gtrans (galloc (grefl _) _) hg⟩
end Go.Proofs.Ytncmocdfdkacfaa
