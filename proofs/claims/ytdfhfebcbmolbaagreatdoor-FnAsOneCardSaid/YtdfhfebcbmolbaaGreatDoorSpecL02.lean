/- What the specification's functions of chapter 2 return, for every argument. What the program's functions of chapter 2 return, for every argument. -/
import Derived.Test.YtdfhfebcbmolbaaGreatDoorBaseL02
import Derived.Test.YtdfhfebcbmolbaaGreatDoorSpecL01
namespace Go.Proofs.YtdfhfebcbmolbaaGreatDoor
open Go.ChangeShapes Go.WideShapes Go.ChangeAt Go.RowKit

theorem specCellOk_any (v s : Int) (w : World) :
    Calls Tryz.prog 200 #[.agg #[.int .i64 v, .int .i64 s]] w (Pure (.bool (cellOkZ v s)) w) := by
  cases hv : inB v 0 32767
  · have HF := Lib.hid (show cellOkZ v s = false by simp [cellOkZ, hv])
    go_enter Tryz.func200, Tryz.ntmps200
    go_wp2_with (first | (go_at_call 80; refine (l1Value_any _ _).mono ?_; rintro e w' ⟨rfl, rfl⟩))
    go_ret
    exact ⟨ret_bool HF.out.symm, galloc (grefl _) _⟩
  · have HF := Lib.hid (show cellOkZ v s = inB s 0 65520 by simp [cellOkZ, hv])
    go_enter Tryz.func200, Tryz.ntmps200
    go_wp2_with (first | (go_at_call 80; refine (l1Value_any _ _).mono ?_; rintro e w' ⟨rfl, rfl⟩) | (go_at_call 90; refine (l1In_any _ _ _ _).mono ?_; rintro e w' ⟨rfl, rfl⟩))
    go_ret
    exact ⟨ret_bool HF.out.symm, galloc (grefl _) _⟩
theorem specCellOf_any (d p v : Int) (w : World) :
    Calls Tryz.prog 163 #[.int .i64 d, .int .i64 p, .int .i64 v] w (Pure (.agg #[.int .i64 (cofV d p v), .int .i64 (cofS d p v)]) w) := by
  by_cases hs : sumZ d p v < 0
  · have HF := Lib.hid (show cofV d p v = 0 ∧ cofS d p v = 0 by simp [cofV, cofS, hs])
    rw [HF.out.1, HF.out.2]
    go_enter Tryz.func163, Tryz.ntmps163
    go_wp2_with (first | (go_at_call 199; refine (specSumOf_any _ _ _ _).mono ?_; rintro e w' ⟨rfl, rfl⟩))
    exact bodyPost_ret (v := .agg #[.int .i64 0, .int .i64 0]) (by simp [results, Tryz.results163, go_sem]) rfl ⟨rfl, galloc (grefl _) _⟩
  · have HF := Lib.hid (show cofV d p v = v ∧ cofS d p v = sumZ d p v by simp [cofV, cofS, hs])
    rw [HF.out.1, HF.out.2]
    go_enter Tryz.func163, Tryz.ntmps163
    go_wp2_with (first | (go_at_call 199; refine (specSumOf_any _ _ _ _).mono ?_; rintro e w' ⟨rfl, rfl⟩))
    exact bodyPost_ret (v := .agg #[.int .i64 v, .int .i64 (sumZ d p v)]) (by simp [results, Tryz.results163, go_sem]) rfl ⟨rfl, by repeat (first | exact grefl _ | refine galloc ?_ _ | refine gdrew ?_ _ | refine gsetN ?_ (by simp) _ _)⟩
theorem specGood_any (v s d p : Int) (w : World) :
    Calls Tryz.prog 218 #[.agg #[.int .i64 v, .int .i64 s], .int .i64 d, .int .i64 p] w (Pure (.bool (goodZ v s d p)) w) := by
  cases hv : cellOkZ v s
  · have HF := Lib.hid (show goodZ v s d p = false by simp [goodZ, hv])
    go_enter Tryz.func218, Tryz.ntmps218
    go_wp2_with fail
    refine (specCellOk_any _ _ _).mono ?_
    rintro e w1 ⟨rfl, hg⟩
    rw [hv]
    obtain ⟨hc, hf⟩ := gcell hg
    go_wp2_with fail
    go_ret
    exact ⟨ret_bool HF.out.symm, gtrans (galloc (grefl _) _) hg⟩
  · have HF := Lib.hid (show goodZ v s d p = fitsZ d p v s by simp [goodZ, hv])
    go_enter Tryz.func218, Tryz.ntmps218
    go_wp2_with fail
    refine (specCellOk_any _ _ _).mono ?_
    rintro e w1 ⟨rfl, hg⟩
    rw [hv]
    obtain ⟨hc, hf⟩ := gcell hg
    go_wp2_with (first | (go_at_call 235; refine (specFits_any _ _ _ _ _).mono ?_; rintro e w' ⟨rfl, rfl⟩))
    go_ret
    exact ⟨ret_bool HF.out.symm, gtrans (galloc (grefl _) _) hg⟩
theorem specRotten_any (v s b : Int) (w : World) :
    Calls Tryz.prog 166 #[.agg #[.int .i64 v, .int .i64 s], .int .i64 b] w (Pure (.agg #[.int .i64 (rotV v s b), .int .i64 (rotS v s)]) w) := by
  cases hv : cellOkZ v s
  · rw [show rotV v s b = 0 by simp [rotV, hv], show rotS v s = 0 by simp [rotS, hv]]
    go_enter Tryz.func166, Tryz.ntmps166
    go_wp2_with fail
    refine (specCellOk_any _ _ _).mono ?_
    rintro e w1 ⟨rfl, hg⟩
    rw [hv]
    obtain ⟨c0, f0⟩ := gk hg (b := w.heap.size + 1) (o := 0) (v := .int .i64 0) ⟨by simp [go_sem], by simp [go_sem]⟩
    obtain ⟨c1, f1⟩ := gk hg (b := w.heap.size + 1) (o := 1) (v := .int .i64 0) ⟨by simp [go_sem], by simp [go_sem]⟩
    go_wp2_with fail
    refine bodyPost_ret (v := .agg #[.int .i64 0, .int .i64 0]) (by simp [results, Tryz.results166, go_sem, c0, c1]) rfl ⟨rfl, ?_⟩
    repeat (first | exact grefl _ | refine galloc ?_ _ | refine gdrew ?_ _ | refine gsetN ?_ (by simp) _ _ | refine gtrans ?_ hg)
  cases hb : inB b 1 32767
  · rw [show rotV v s b = v by simp [rotV, hv, hb], show rotS v s = s by simp [rotS, hv]]
    go_enter Tryz.func166, Tryz.ntmps166
    go_wp2_with fail
    refine (specCellOk_any _ _ _).mono ?_
    rintro e w1 ⟨rfl, hg⟩
    rw [hv]
    obtain ⟨a0, b0⟩ := gk hg (b := w.heap.size) (o := 0) (v := .int .i64 v) ⟨by simp [go_sem], by simp [go_sem]⟩
    obtain ⟨a1, b1⟩ := gk hg (b := w.heap.size) (o := 1) (v := .int .i64 s) ⟨by simp [go_sem], by simp [go_sem]⟩
    obtain ⟨c0, f0⟩ := gk hg (b := w.heap.size + 1) (o := 0) (v := .int .i64 0) ⟨by simp [go_sem], by simp [go_sem]⟩
    obtain ⟨c1, f1⟩ := gk hg (b := w.heap.size + 1) (o := 1) (v := .int .i64 0) ⟨by simp [go_sem], by simp [go_sem]⟩
    go_wp2_with (first | (go_at_call 90; refine (l1In_any _ _ _ _).mono ?_; rintro e w' ⟨rfl, rfl⟩))
    refine bodyPost_ret (v := .agg #[.int .i64 v, .int .i64 s]) (by simp [results, Tryz.results166, go_sem, c0, c1]) rfl ⟨rfl, ?_⟩
    repeat (first | exact grefl _ | refine galloc ?_ _ | refine gdrew ?_ _ | refine gsetN ?_ (by simp) _ _ | refine gtrans ?_ hg)
  · rw [show rotV v s b = (v + b) % 32768 by simp [rotV, hv, hb], show rotS v s = s by simp [rotS, hv]]
    have hv1 : 0 ≤ v ∧ v ≤ 32767 := inB_iff.1 (by simp [cellOkZ] at hv; exact hv.1)
    have hb1 := inB_iff.1 hb
    obtain ⟨v1, v2⟩ := hv1
    obtain ⟨q1, q2⟩ := hb1
    go_enter Tryz.func166, Tryz.ntmps166
    go_wp2_with fail
    refine (specCellOk_any _ _ _).mono ?_
    rintro e w1 ⟨rfl, hg⟩
    rw [hv]
    obtain ⟨a0, b0⟩ := gk hg (b := w.heap.size) (o := 0) (v := .int .i64 v) ⟨by simp [go_sem], by simp [go_sem]⟩
    obtain ⟨a1, b1⟩ := gk hg (b := w.heap.size) (o := 1) (v := .int .i64 s) ⟨by simp [go_sem], by simp [go_sem]⟩
    obtain ⟨c0, f0⟩ := gk hg (b := w.heap.size + 1) (o := 0) (v := .int .i64 0) ⟨by simp [go_sem], by simp [go_sem]⟩
    obtain ⟨c1, f1⟩ := gk hg (b := w.heap.size + 1) (o := 1) (v := .int .i64 0) ⟨by simp [go_sem], by simp [go_sem]⟩
    go_wp2_with (first | (go_at_call 90; refine (l1In_any _ _ _ _).mono ?_; rintro e w' ⟨rfl, rfl⟩))
    refine bodyPost_ret (v := .agg #[.int .i64 ((v + b) % 32768), .int .i64 s]) (by simp [results, Tryz.results166, go_sem, c0, c1]) rfl ⟨rfl, ?_⟩
    repeat (first | exact grefl _ | refine galloc ?_ _ | refine gdrew ?_ _ | refine gsetN ?_ (by simp) _ _ | refine gtrans ?_ hg)
end Go.Proofs.YtdfhfebcbmolbaaGreatDoor
namespace Go.Proofs.YtdfhfebcbmolbaaGreatDoor
open Go.ChangeShapes Go.WideShapes Go.ChangeAt Go.RowKit

theorem summed_any (v s : Int) (w : World) :
    Calls Tryz.prog 236 #[.agg #[.int .i64 v, .int .i64 s]] w (Pure (.agg #[.int .i64 v, .int .i64 s]) w) := by
  go_enter Tryz.func236, Tryz.ntmps236
  go_wp2
  refine bodyPost_ret (v := .agg #[.int .i64 v, .int .i64 s]) (by simp [results, Tryz.results236, go_sem]) rfl ⟨rfl, ?_⟩
  repeat (first | exact grefl _ | refine galloc ?_ _ | refine gdrew ?_ _ | refine gsetN ?_ (by simp) _ _)
theorem implCellOk_any (v s : Int) (w : World) :
    Calls Tryz.prog 219 #[.agg #[.int .i64 v, .int .i64 s]] w (Pure (.bool (cellOkZ v s)) w) := by
  cases hv : inB v 0 32767
  · have HF := Lib.hid (show cellOkZ v s = false by simp [cellOkZ, hv])
    go_enter Tryz.func219, Tryz.ntmps219
    go_wp2_with fail
    refine (summed_any _ _ _).mono ?_
    rintro e w1 ⟨rfl, hg⟩
    go_wp2_with (first | (go_at_call 118; refine (valid_any _ _).mono ?_; rintro e w' ⟨rfl, rfl⟩))
    go_ret
    exact ⟨ret_bool HF.out.symm, by repeat (first | exact grefl _ | refine galloc ?_ _ | refine gdrew ?_ _ | refine gsetN ?_ (by simp <;> omega) _ _ | refine gtrans ?_ hg)⟩
  · have HF := Lib.hid (show cellOkZ v s = inB s 0 65520 by simp [cellOkZ, hv])
    go_enter Tryz.func219, Tryz.ntmps219
    go_wp2_with fail
    refine (summed_any _ _ _).mono ?_
    rintro e w1 ⟨rfl, hg⟩
    go_wp2_with (first | (go_at_call 118; refine (valid_any _ _).mono ?_; rintro e w' ⟨rfl, rfl⟩) | (go_at_call 55; refine (between_any _ _ _ _).mono ?_; rintro e w' ⟨rfl, rfl⟩))
    go_ret
    exact ⟨ret_bool HF.out.symm, by repeat (first | exact grefl _ | refine galloc ?_ _ | refine gdrew ?_ _ | refine gsetN ?_ (by simp <;> omega) _ _ | refine gtrans ?_ hg)⟩
theorem implCellOf_any (d p v : Int) (w : World) :
    Calls Tryz.prog 144 #[.int .i64 d, .int .i64 p, .int .i64 v] w (Pure (.agg #[.int .i64 (cofV d p v), .int .i64 (cofS d p v)]) w) := by
  have hlo := sumZ_lo d p v
  by_cases hs : sumZ d p v < 0
  · rw [show cofV d p v = 0 by simp [cofV, hs], show cofS d p v = 0 by simp [cofS, hs]]
    have hn : (sumZ d p v == -1) = true := by rw [beq_iff_eq]; omega
    clear hs hlo
    go_enter Tryz.func144, Tryz.ntmps144
    go_wp2_with (first | (go_at_call 190; refine (implSumOf_any _ _ _ _).mono ?_; rintro e w' ⟨rfl, rfl⟩))
    exact bodyPost_ret (v := .agg #[.int .i64 0, .int .i64 0]) (by simp [results, Tryz.results144, go_sem]) rfl ⟨rfl, galloc (grefl _) _⟩
  · rw [show cofV d p v = v by simp [cofV, hs], show cofS d p v = sumZ d p v by simp [cofS, hs]]
    have hn : (sumZ d p v == -1) = false := by rw [beq_eq_false_iff_ne]; omega
    clear hs hlo
    go_enter Tryz.func144, Tryz.ntmps144
    go_wp2_with (first | (go_at_call 190; refine (implSumOf_any _ _ _ _).mono ?_; rintro e w' ⟨rfl, rfl⟩))
    refine bodyPost_ret (v := .agg #[.int .i64 v, .int .i64 (sumZ d p v)]) (by simp [results, Tryz.results144, go_sem]) rfl ⟨rfl, ?_⟩
    repeat (first | exact grefl _ | refine galloc ?_ _ | refine gdrew ?_ _ | refine gsetN ?_ (by simp) _ _)
theorem implGood_any (v s d p : Int) (w : World) :
    Calls Tryz.prog 196 #[.agg #[.int .i64 v, .int .i64 s], .int .i64 d, .int .i64 p] w (Pure (.bool (goodZ v s d p)) w) := by
  cases hv : cellOkZ v s
  · have HF := Lib.hid (show goodZ v s d p = false by simp [goodZ, hv])
    go_enter Tryz.func196, Tryz.ntmps196
    go_wp2_with fail
    refine (implCellOk_any _ _ _).mono ?_
    rintro e w1 ⟨rfl, hg⟩
    rw [hv]
    go_wp2_with fail
    go_ret
    exact ⟨ret_bool HF.out.symm, gtrans (galloc (grefl _) _) hg⟩
  · have HF := Lib.hid (show goodZ v s d p = fitsZ d p v s by simp [goodZ, hv])
    go_enter Tryz.func196, Tryz.ntmps196
    go_wp2_with fail
    refine (implCellOk_any _ _ _).mono ?_
    rintro e w1 ⟨rfl, hg⟩
    rw [hv]
    obtain ⟨a0, b0⟩ := gk hg (b := w.heap.size) (o := 0) (v := .int .i64 v) ⟨by simp [go_sem], by simp [go_sem]⟩
    obtain ⟨a1, b1⟩ := gk hg (b := w.heap.size) (o := 1) (v := .int .i64 s) ⟨by simp [go_sem], by simp [go_sem]⟩
    go_wp2_with (first | (go_at_call 224; refine (implFits_any _ _ _ _ _).mono ?_; rintro e w' ⟨rfl, rfl⟩))
    go_ret
    exact ⟨ret_bool HF.out.symm, gtrans (galloc (grefl _) _) hg⟩
end Go.Proofs.YtdfhfebcbmolbaaGreatDoor
