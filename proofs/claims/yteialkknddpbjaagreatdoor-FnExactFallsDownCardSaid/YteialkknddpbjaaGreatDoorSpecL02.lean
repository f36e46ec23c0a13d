/- What the specification's functions of chapter 2 return, for every argument. What the program's functions of chapter 2 return, for every argument. -/
import Derived.Test.YteialkknddpbjaaGreatDoorBaseL02
import Derived.Test.YteialkknddpbjaaGreatDoorSpecL01
namespace Go.Proofs.YteialkknddpbjaaGreatDoor
open Go.ChangeShapes Go.WideShapes Go.ChangeAt Go.RowKit

theorem specCellOk_any (v s : Int) (w : World) :
    Calls Tryz.prog 230 #[.agg #[.int .i64 v, .int .i64 s]] w (Pure (.bool (cellOkZ v s)) w) := by
  cases hv : inB v 0 32767
  · have HF := Lib.hid (show cellOkZ v s = false by simp [cellOkZ, hv])
    go_enter Tryz.func230, Tryz.ntmps230
    go_wp2_with (first | (go_at_call 227; refine (l1Value_any _ _).mono ?_; rintro e w' ⟨rfl, rfl⟩))
    go_ret
    exact ⟨ret_bool HF.out.symm, galloc (grefl _) _⟩
  · have HF := Lib.hid (show cellOkZ v s = inB s 0 65520 by simp [cellOkZ, hv])
    go_enter Tryz.func230, Tryz.ntmps230
    go_wp2_with (first | (go_at_call 227; refine (l1Value_any _ _).mono ?_; rintro e w' ⟨rfl, rfl⟩) | (go_at_call 87; refine (l1In_any _ _ _ _).mono ?_; rintro e w' ⟨rfl, rfl⟩))
    go_ret
    exact ⟨ret_bool HF.out.symm, galloc (grefl _) _⟩
theorem specCellOf_any (d p v : Int) (w : World) :
    Calls Tryz.prog 228 #[.int .i64 d, .int .i64 p, .int .i64 v] w (Pure (.agg #[.int .i64 (cofV d p v), .int .i64 (cofS d p v)]) w) := by
  by_cases hs : sumZ d p v < 0
  · have HF := Lib.hid (show cofV d p v = 0 ∧ cofS d p v = 0 by simp [cofV, cofS, hs])
    rw [HF.out.1, HF.out.2]
    go_enter Tryz.func228, Tryz.ntmps228
    go_wp2_with (first | (go_at_call 265; refine (specSumOf_any _ _ _ _).mono ?_; rintro e w' ⟨rfl, rfl⟩))
    exact bodyPost_ret (v := .agg #[.int .i64 0, .int .i64 0]) (by simp [results, Tryz.results228, go_sem]) rfl ⟨rfl, galloc (grefl _) _⟩
  · have HF := Lib.hid (show cofV d p v = v ∧ cofS d p v = sumZ d p v by simp [cofV, cofS, hs])
    rw [HF.out.1, HF.out.2]
    go_enter Tryz.func228, Tryz.ntmps228
    go_wp2_with (first | (go_at_call 265; refine (specSumOf_any _ _ _ _).mono ?_; rintro e w' ⟨rfl, rfl⟩))
    exact bodyPost_ret (v := .agg #[.int .i64 v, .int .i64 (sumZ d p v)]) (by simp [results, Tryz.results228, go_sem]) rfl ⟨rfl, by repeat (first | exact grefl _ | refine galloc ?_ _ | refine gdrew ?_ _ | refine gsetN ?_ (by simp) _ _)⟩
theorem specGood_any (v s d p : Int) (w : World) :
    Calls Tryz.prog 154 #[.agg #[.int .i64 v, .int .i64 s], .int .i64 d, .int .i64 p] w (Pure (.bool (goodZ v s d p)) w) := by
  cases hv : cellOkZ v s
  · have HF := Lib.hid (show goodZ v s d p = false by simp [goodZ, hv])
    go_enter Tryz.func154, Tryz.ntmps154
    go_wp2_with fail
    refine (specCellOk_any _ _ _).mono ?_
    rintro e w1 ⟨rfl, hg⟩
    rw [hv]
    obtain ⟨hc, hf⟩ := gcell hg
    go_wp2_with fail
    go_ret
    exact ⟨ret_bool HF.out.symm, gtrans (galloc (grefl _) _) hg⟩
  · have HF := Lib.hid (show goodZ v s d p = fitsZ d p v s by simp [goodZ, hv])
    go_enter Tryz.func154, Tryz.ntmps154
    go_wp2_with fail
    refine (specCellOk_any _ _ _).mono ?_
    rintro e w1 ⟨rfl, hg⟩
    rw [hv]
    obtain ⟨hc, hf⟩ := gcell hg
    go_wp2_with (first | (go_at_call 231; refine (specFits_any _ _ _ _ _).mono ?_; rintro e w' ⟨rfl, rfl⟩))
    go_ret
    exact ⟨ret_bool HF.out.symm, gtrans (galloc (grefl _) _) hg⟩
theorem specRotten_any (v s b : Int) (w : World) :
    Calls Tryz.prog 155 #[.agg #[.int .i64 v, .int .i64 s], .int .i64 b] w (Pure (.agg #[.int .i64 (rotV v s b), .int .i64 (rotS v s)]) w) := by
  cases hv : cellOkZ v s
  · rw [show rotV v s b = 0 by simp [rotV, hv], show rotS v s = 0 by simp [rotS, hv]]
    go_enter Tryz.func155, Tryz.ntmps155
    go_wp2_with fail
    refine (specCellOk_any _ _ _).mono ?_
    rintro e w1 ⟨rfl, hg⟩
    rw [hv]
    obtain ⟨c0, f0⟩ := gk hg (b := w.heap.size + 1) (o := 0) (v := .int .i64 0) ⟨by simp [go_sem], by simp [go_sem]⟩
    obtain ⟨c1, f1⟩ := gk hg (b := w.heap.size + 1) (o := 1) (v := .int .i64 0) ⟨by simp [go_sem], by simp [go_sem]⟩
    go_wp2_with fail
    refine bodyPost_ret (v := .agg #[.int .i64 0, .int .i64 0]) (by simp [results, Tryz.results155, go_sem, c0, c1]) rfl ⟨rfl, ?_⟩
    repeat (first | exact grefl _ | refine galloc ?_ _ | refine gdrew ?_ _ | refine gsetN ?_ (by simp) _ _ | refine gtrans ?_ hg)
  cases hb : inB b 1 32767
  · rw [show rotV v s b = v by simp [rotV, hv, hb], show rotS v s = s by simp [rotS, hv]]
    go_enter Tryz.func155, Tryz.ntmps155
    go_wp2_with fail
    refine (specCellOk_any _ _ _).mono ?_
    rintro e w1 ⟨rfl, hg⟩
    rw [hv]
    obtain ⟨a0, b0⟩ := gk hg (b := w.heap.size) (o := 0) (v := .int .i64 v) ⟨by simp [go_sem], by simp [go_sem]⟩
    obtain ⟨a1, b1⟩ := gk hg (b := w.heap.size) (o := 1) (v := .int .i64 s) ⟨by simp [go_sem], by simp [go_sem]⟩
    obtain ⟨c0, f0⟩ := gk hg (b := w.heap.size + 1) (o := 0) (v := .int .i64 0) ⟨by simp [go_sem], by simp [go_sem]⟩
    obtain ⟨c1, f1⟩ := gk hg (b := w.heap.size + 1) (o := 1) (v := .int .i64 0) ⟨by simp [go_sem], by simp [go_sem]⟩
    go_wp2_with (first | (go_at_call 87; refine (l1In_any _ _ _ _).mono ?_; rintro e w' ⟨rfl, rfl⟩))
    refine bodyPost_ret (v := .agg #[.int .i64 v, .int .i64 s]) (by simp [results, Tryz.results155, go_sem, c0, c1]) rfl ⟨rfl, ?_⟩
    repeat (first | exact grefl _ | refine galloc ?_ _ | refine gdrew ?_ _ | refine gsetN ?_ (by simp) _ _ | refine gtrans ?_ hg)
  · rw [show rotV v s b = (v + b) % 32768 by simp [rotV, hv, hb], show rotS v s = s by simp [rotS, hv]]
    have hv1 : 0 ≤ v ∧ v ≤ 32767 := inB_iff.1 (by simp [cellOkZ] at hv; exact hv.1)
    have hb1 := inB_iff.1 hb
    obtain ⟨v1, v2⟩ := hv1
    obtain ⟨q1, q2⟩ := hb1
    go_enter Tryz.func155, Tryz.ntmps155
    go_wp2_with fail
    refine (specCellOk_any _ _ _).mono ?_
    rintro e w1 ⟨rfl, hg⟩
    rw [hv]
    obtain ⟨a0, b0⟩ := gk hg (b := w.heap.size) (o := 0) (v := .int .i64 v) ⟨by simp [go_sem], by simp [go_sem]⟩
    obtain ⟨a1, b1⟩ := gk hg (b := w.heap.size) (o := 1) (v := .int .i64 s) ⟨by simp [go_sem], by simp [go_sem]⟩
    obtain ⟨c0, f0⟩ := gk hg (b := w.heap.size + 1) (o := 0) (v := .int .i64 0) ⟨by simp [go_sem], by simp [go_sem]⟩
    obtain ⟨c1, f1⟩ := gk hg (b := w.heap.size + 1) (o := 1) (v := .int .i64 0) ⟨by simp [go_sem], by simp [go_sem]⟩
    go_wp2_with (first | (go_at_call 87; refine (l1In_any _ _ _ _).mono ?_; rintro e w' ⟨rfl, rfl⟩))
    refine bodyPost_ret (v := .agg #[.int .i64 ((v + b) % 32768), .int .i64 s]) (by simp [results, Tryz.results155, go_sem, c0, c1]) rfl ⟨rfl, ?_⟩
    repeat (first | exact grefl _ | refine galloc ?_ _ | refine gdrew ?_ _ | refine gsetN ?_ (by simp) _ _ | refine gtrans ?_ hg)
end Go.Proofs.YteialkknddpbjaaGreatDoor
namespace Go.Proofs.YteialkknddpbjaaGreatDoor
open Go.ChangeShapes Go.WideShapes Go.ChangeAt Go.RowKit

theorem summed_any (v s : Int) (w : World) :
    Calls Tryz.prog 268 #[.agg #[.int .i64 v, .int .i64 s]] w (Pure (.agg #[.int .i64 v, .int .i64 s]) w) := by
  go_enter Tryz.func268, Tryz.ntmps268
  go_wp2
  refine bodyPost_ret (v := .agg #[.int .i64 v, .int .i64 s]) (by simp [results, Tryz.results268, go_sem]) rfl ⟨rfl, ?_⟩
  repeat (first | exact grefl _ | refine galloc ?_ _ | refine gdrew ?_ _ | refine gsetN ?_ (by simp) _ _)
theorem cell_any (v s : Int) (w : World) :
    Calls Tryz.prog 270 #[.agg #[.int .i64 v, .int .i64 s]] w (Pure (.agg #[.int .i64 v, .int .i64 s]) w) := by
  go_enter Tryz.func270, Tryz.ntmps270
  go_wp2
  refine bodyPost_ret (v := .agg #[.int .i64 v, .int .i64 s]) (by simp [results, Tryz.results270, go_sem]) rfl ⟨rfl, ?_⟩
  repeat (first | exact grefl _ | refine galloc ?_ _ | refine gdrew ?_ _ | refine gsetN ?_ (by simp) _ _)
theorem movedBy_any (v b : Int) (w : World) (v1 : 0 ≤ v) (v2 : v ≤ 32767) (b1 : 1 ≤ b) (b2 : b ≤ 32767) :
    Calls Tryz.prog 269 #[.int .i64 v, .int .i64 b] w fun e w' => e = .returned (.int .i64 ((v + b) % 32768)) ∧ w = w' := by
  go_enter Tryz.func269, Tryz.ntmps269
  go_wp2
  go_ret
  exact ⟨rfl, rfl⟩
theorem implCellOk_any (v s : Int) (w : World) :
    Calls Tryz.prog 267 #[.agg #[.int .i64 v, .int .i64 s]] w (Pure (.bool (cellOkZ v s)) w) := by
  cases hv : inB v 0 32767
  · have HF := Lib.hid (show cellOkZ v s = false by simp [cellOkZ, hv])
    go_enter Tryz.func267, Tryz.ntmps267
    go_wp2_with fail
    refine (summed_any _ _ _).mono ?_
    rintro e w1 ⟨rfl, hg⟩
    go_wp2_with (first | (go_at_call 223; refine (valid_any _ _).mono ?_; rintro e w' ⟨rfl, rfl⟩))
    go_ret
    exact ⟨ret_bool HF.out.symm, by repeat (first | exact grefl _ | refine galloc ?_ _ | refine gdrew ?_ _ | refine gsetN ?_ (by simp <;> omega) _ _ | refine gtrans ?_ hg)⟩
  · have HF := Lib.hid (show cellOkZ v s = inB s 0 65520 by simp [cellOkZ, hv])
    go_enter Tryz.func267, Tryz.ntmps267
    go_wp2_with fail
    refine (summed_any _ _ _).mono ?_
    rintro e w1 ⟨rfl, hg⟩
    go_wp2_with (first | (go_at_call 223; refine (valid_any _ _).mono ?_; rintro e w' ⟨rfl, rfl⟩) | (go_at_call 140; refine (between_any _ _ _ _).mono ?_; rintro e w' ⟨rfl, rfl⟩))
    go_ret
    exact ⟨ret_bool HF.out.symm, by repeat (first | exact grefl _ | refine galloc ?_ _ | refine gdrew ?_ _ | refine gsetN ?_ (by simp <;> omega) _ _ | refine gtrans ?_ hg)⟩
theorem implCellOf_any (d p v : Int) (w : World) :
    Calls Tryz.prog 220 #[.int .i64 d, .int .i64 p, .int .i64 v] w (Pure (.agg #[.int .i64 (cofV d p v), .int .i64 (cofS d p v)]) w) := by
  have hlo := sumZ_lo d p v
  by_cases hs : sumZ d p v < 0
  · rw [show cofV d p v = 0 by simp [cofV, hs], show cofS d p v = 0 by simp [cofS, hs]]
    have hn : (sumZ d p v == -1) = true := by rw [beq_iff_eq]; omega
    clear hs hlo
    go_enter Tryz.func220, Tryz.ntmps220
    go_wp2_with (first | (go_at_call 141; refine (implSumOf_any _ _ _ _).mono ?_; rintro e w' ⟨rfl, rfl⟩))
    exact bodyPost_ret (v := .agg #[.int .i64 0, .int .i64 0]) (by simp [results, Tryz.results220, go_sem]) rfl ⟨rfl, galloc (grefl _) _⟩
  · rw [show cofV d p v = v by simp [cofV, hs], show cofS d p v = sumZ d p v by simp [cofS, hs]]
    have hn : (sumZ d p v == -1) = false := by rw [beq_eq_false_iff_ne]; omega
    clear hs hlo
    go_enter Tryz.func220, Tryz.ntmps220
    go_wp2_with (first | (go_at_call 141; refine (implSumOf_any _ _ _ _).mono ?_; rintro e w' ⟨rfl, rfl⟩))
    refine bodyPost_ret (v := .agg #[.int .i64 v, .int .i64 (sumZ d p v)]) (by simp [results, Tryz.results220, go_sem]) rfl ⟨rfl, ?_⟩
    repeat (first | exact grefl _ | refine galloc ?_ _ | refine gdrew ?_ _ | refine gsetN ?_ (by simp) _ _)
theorem implGood_any (v s d p : Int) (w : World) :
    Calls Tryz.prog 256 #[.agg #[.int .i64 v, .int .i64 s], .int .i64 d, .int .i64 p] w (Pure (.bool (goodZ v s d p)) w) := by
  cases hv : cellOkZ v s
  · have HF := Lib.hid (show goodZ v s d p = false by simp [goodZ, hv])
    go_enter Tryz.func256, Tryz.ntmps256
    go_wp2_with fail
    refine (implCellOk_any _ _ _).mono ?_
    rintro e w1 ⟨rfl, hg⟩
    rw [hv]
    go_wp2_with fail
    go_ret
    exact ⟨ret_bool HF.out.symm, gtrans (galloc (grefl _) _) hg⟩
  · have HF := Lib.hid (show goodZ v s d p = fitsZ d p v s by simp [goodZ, hv])
    go_enter Tryz.func256, Tryz.ntmps256
    go_wp2_with fail
    refine (implCellOk_any _ _ _).mono ?_
    rintro e w1 ⟨rfl, hg⟩
    rw [hv]
    obtain ⟨a0, b0⟩ := gk hg (b := w.heap.size) (o := 0) (v := .int .i64 v) ⟨by simp [go_sem], by simp [go_sem]⟩
    obtain ⟨a1, b1⟩ := gk hg (b := w.heap.size) (o := 1) (v := .int .i64 s) ⟨by simp [go_sem], by simp [go_sem]⟩
    go_wp2_with (first | (go_at_call 283; refine (implFits_any _ _ _ _ _).mono ?_; rintro e w' ⟨rfl, rfl⟩))
    go_ret
    exact ⟨ret_bool HF.out.symm, gtrans (galloc (grefl _) _) hg⟩
theorem damages_any (b : Int) (w : World) : Calls Tryz.prog 176 #[.int .i64 b] w fun e w' => e = .returned (.bool (inB b 1 32767)) ∧ w = w' := by
  go_enter Tryz.func176, Tryz.ntmps176
  go_wp2_with (first | (go_at_call 140; refine (between_any _ _ _ _).mono ?_; rintro e w' ⟨rfl, rfl⟩))
  go_ret
  exact ⟨rfl, rfl⟩
theorem implRotten_any (v s b : Int) (w : World) :
    Calls Tryz.prog 240 #[.agg #[.int .i64 v, .int .i64 s], .int .i64 b] w (Pure (.agg #[.int .i64 (rotV v s b), .int .i64 (rotS v s)]) w) := by
  cases hv : cellOkZ v s
  · rw [show rotV v s b = 0 by simp [rotV, hv], show rotS v s = 0 by simp [rotS, hv]]
    go_enter Tryz.func240, Tryz.ntmps240
    go_wp2_with fail
    refine (implCellOk_any _ _ _).mono ?_
    rintro e w1 ⟨rfl, hg⟩
    rw [hv]
    obtain ⟨c0, f0⟩ := gk hg (b := w.heap.size + 1) (o := 0) (v := .int .i64 0) ⟨by simp [go_sem], by simp [go_sem]⟩
    obtain ⟨c1, f1⟩ := gk hg (b := w.heap.size + 1) (o := 1) (v := .int .i64 0) ⟨by simp [go_sem], by simp [go_sem]⟩
    go_wp2_with fail
    refine bodyPost_ret (v := .agg #[.int .i64 0, .int .i64 0]) (by simp [results, Tryz.results240, go_sem, c0, c1]) rfl ⟨rfl, ?_⟩
    repeat (first | exact grefl _ | refine galloc ?_ _ | refine gdrew ?_ _ | refine gsetN ?_ (by simp) _ _ | refine gtrans ?_ hg)
  cases hb : inB b 1 32767
  · rw [show rotV v s b = v by simp [rotV, hv, hb], show rotS v s = s by simp [rotS, hv]]
    go_enter Tryz.func240, Tryz.ntmps240
    go_wp2_with fail
    refine (implCellOk_any _ _ _).mono ?_
    rintro e w1 ⟨rfl, hg⟩
    rw [hv]
    obtain ⟨a0, b0⟩ := gk hg (b := w.heap.size) (o := 0) (v := .int .i64 v) ⟨by simp [go_sem], by simp [go_sem]⟩
    obtain ⟨a1, b1⟩ := gk hg (b := w.heap.size) (o := 1) (v := .int .i64 s) ⟨by simp [go_sem], by simp [go_sem]⟩
    obtain ⟨c0, f0⟩ := gk hg (b := w.heap.size + 1) (o := 0) (v := .int .i64 0) ⟨by simp [go_sem], by simp [go_sem]⟩
    obtain ⟨c1, f1⟩ := gk hg (b := w.heap.size + 1) (o := 1) (v := .int .i64 0) ⟨by simp [go_sem], by simp [go_sem]⟩
    go_wp2_with (first | (go_at_call 176; refine (damages_any _ _).mono ?_; rintro e w' ⟨rfl, rfl⟩))
    refine bodyPost_ret (v := .agg #[.int .i64 v, .int .i64 s]) (by simp [results, Tryz.results240, go_sem, c0, c1]) rfl ⟨rfl, ?_⟩
    repeat (first | exact grefl _ | refine galloc ?_ _ | refine gdrew ?_ _ | refine gsetN ?_ (by simp) _ _ | refine gtrans ?_ hg)
  · rw [show rotV v s b = (v + b) % 32768 by simp [rotV, hv, hb], show rotS v s = s by simp [rotS, hv]]
    have hv1 : 0 ≤ v ∧ v ≤ 32767 := inB_iff.1 (by simp [cellOkZ] at hv; exact hv.1)
    have hb1 := inB_iff.1 hb
    obtain ⟨v1, v2⟩ := hv1
    obtain ⟨q1, q2⟩ := hb1
    go_enter Tryz.func240, Tryz.ntmps240
    go_wp2_with fail
    refine (implCellOk_any _ _ _).mono ?_
    rintro e w1 ⟨rfl, hg⟩
    rw [hv]
    obtain ⟨a0, b0⟩ := gk hg (b := w.heap.size) (o := 0) (v := .int .i64 v) ⟨by simp [go_sem], by simp [go_sem]⟩
    obtain ⟨a1, b1⟩ := gk hg (b := w.heap.size) (o := 1) (v := .int .i64 s) ⟨by simp [go_sem], by simp [go_sem]⟩
    obtain ⟨c0, f0⟩ := gk hg (b := w.heap.size + 1) (o := 0) (v := .int .i64 0) ⟨by simp [go_sem], by simp [go_sem]⟩
    obtain ⟨c1, f1⟩ := gk hg (b := w.heap.size + 1) (o := 1) (v := .int .i64 0) ⟨by simp [go_sem], by simp [go_sem]⟩
    go_wp2_with (first | (go_at_call 176; refine (damages_any _ _).mono ?_; rintro e w' ⟨rfl, rfl⟩))
    refine (summed_any _ _ _).mono ?_
    rintro e w2 ⟨rfl, hg2⟩
    obtain ⟨d0, e0⟩ := gk hg2 (b := w.heap.size + 1) (o := 0) (v := .int .i64 0) ⟨by simpa using c0, by simpa using f0⟩
    obtain ⟨d1, e1⟩ := gk hg2 (b := w.heap.size + 1) (o := 1) (v := .int .i64 0) ⟨by simpa using c1, by simpa using f1⟩
    have l1 := gsize hg
    have l2 := gsize hg2
    simp at l1 l2
    go_wp2_with (first | (go_at_call 269; refine (movedBy_any _ _ _ v1 v2 q1 q2).mono ?_; rintro e w' ⟨rfl, rfl⟩))
    refine (cell_any _ _ _).mono ?_
    rintro e w3 ⟨rfl, hg3⟩
    have hg4 := gtrans (galloc (grefl w2) _) hg3
    obtain ⟨x0, y0⟩ := gk hg4 ⟨d0, e0⟩
    obtain ⟨x1, y1⟩ := gk hg4 ⟨d1, e1⟩
    clear hg4
    go_wp2_with fail
    refine bodyPost_ret (v := .agg #[.int .i64 ((v + b) % 32768), .int .i64 s]) (by simp [results, Tryz.results240, go_sem, x0, x1]) rfl ⟨rfl, ?_⟩
    repeat (first | exact grefl _ | refine galloc ?_ _ | refine gdrew ?_ _ | refine gsetN ?_ (by simp <;> omega) _ _ | refine gtrans ?_ hg3 | refine gtrans ?_ hg2 | refine gtrans ?_ hg)
end Go.Proofs.YteialkknddpbjaaGreatDoor
