/- What the specification's functions of chapter 2 return, for every argument. What the program's functions of chapter 2 return, for every argument. -/
import Derived.Test.YteialkknddpbjaaGreatDoorPH00
import Derived.Test.YteialkknddpbjaaGreatDoorPH06
namespace Go.Proofs.YteialkknddpbjaaGreatDoor
open Go.ChangeShapes Go.WideShapes Go.ChangeAt Go.RowKit

theorem l1In_any (n lo hi : Int) (w : World) :
    Calls Tryz.prog 87 #[.int .i64 n, .int .i64 lo, .int .i64 hi] w fun e w' => e = .returned (.bool (inB n lo hi)) ∧ w = w' := by
  by_cases h : lo ≤ n
  · go_enter Tryz.func87, Tryz.ntmps87
    go_wp2
    go_ret
    exact ⟨by simp [inB, h], rfl⟩
  · have HF := Lib.hid (inB_no (n := n) (lo := lo) (hi := hi) (by omega))
    have h' : n < lo := by omega
    clear h
    go_enter Tryz.func87, Tryz.ntmps87
    go_wp2
    go_ret
    exact ⟨ret_bool HF.out.symm, rfl⟩
theorem l1Value_any (v : Int) (w : World) :
    Calls Tryz.prog 227 #[.int .i64 v] w fun e w' => e = .returned (.bool (inB v 0 32767)) ∧ w = w' := by
  go_enter Tryz.func227, Tryz.ntmps227
  go_wp2_with (refine (l1In_any _ _ _ _).mono ?_; rintro e w' ⟨rfl, rfl⟩)
  go_ret
  exact ⟨rfl, rfl⟩
theorem l1Disk_any (v : Int) (w : World) :
    Calls Tryz.prog 151 #[.int .i64 v] w fun e w' => e = .returned (.bool (inB v 0 4)) ∧ w = w' := by
  go_enter Tryz.func151, Tryz.ntmps151
  go_wp2_with (refine (l1In_any _ _ _ _).mono ?_; rintro e w' ⟨rfl, rfl⟩)
  go_ret
  exact ⟨rfl, rfl⟩
theorem l1Place_any (v : Int) (w : World) :
    Calls Tryz.prog 266 #[.int .i64 v] w fun e w' => e = .returned (.bool (inB v 0 15)) ∧ w = w' := by
  go_enter Tryz.func266, Tryz.ntmps266
  go_wp2_with (refine (l1In_any _ _ _ _).mono ?_; rintro e w' ⟨rfl, rfl⟩)
  go_ret
  exact ⟨rfl, rfl⟩
theorem specSumOf_any (d p v : Int) (w : World) :
    Calls Tryz.prog 265 #[.int .i64 d, .int .i64 p, .int .i64 v] w fun e w' => e = .returned (.int .i64 (sumZ d p v)) ∧ w = w' := by
  cases hd : inB d 0 4
  · have HF := Lib.hid (sumZ_no (p := p) (v := v) (.inl hd))
    go_enter Tryz.func265, Tryz.ntmps265
    go_wp2_with (first | (go_at_call 151; refine (l1Disk_any _ _).mono ?_; rintro e w' ⟨rfl, rfl⟩))
    go_ret
    exact ⟨ret_int HF.out.symm, rfl⟩
  cases hp : inB p 0 15
  · have HF := Lib.hid (sumZ_no (d := d) (v := v) (.inr (.inl hp)))
    go_enter Tryz.func265, Tryz.ntmps265
    go_wp2_with (first | (go_at_call 151; refine (l1Disk_any _ _).mono ?_; rintro e w' ⟨rfl, rfl⟩) | (go_at_call 266; refine (l1Place_any _ _).mono ?_; rintro e w' ⟨rfl, rfl⟩))
    go_ret
    exact ⟨ret_int HF.out.symm, rfl⟩
  cases hv : inB v 0 32767
  · have HF := Lib.hid (sumZ_no (d := d) (p := p) (.inr (.inr hv)))
    go_enter Tryz.func265, Tryz.ntmps265
    go_wp2_with (first | (go_at_call 151; refine (l1Disk_any _ _).mono ?_; rintro e w' ⟨rfl, rfl⟩) | (go_at_call 266; refine (l1Place_any _ _).mono ?_; rintro e w' ⟨rfl, rfl⟩) | (go_at_call 227; refine (l1Value_any _ _).mono ?_; rintro e w' ⟨rfl, rfl⟩))
    go_ret
    exact ⟨ret_int HF.out.symm, rfl⟩
  have HF := Lib.hid (sumZ_yes hd hp hv)
  obtain ⟨d1, d2⟩ := inB_iff.1 hd; obtain ⟨p1, p2⟩ := inB_iff.1 hp; obtain ⟨v1, v2⟩ := inB_iff.1 hv
  go_enter Tryz.func265, Tryz.ntmps265
  go_wp2_with (first | (go_at_call 151; refine (l1Disk_any _ _).mono ?_; rintro e w' ⟨rfl, rfl⟩) | (go_at_call 266; refine (l1Place_any _ _).mono ?_; rintro e w' ⟨rfl, rfl⟩) | (go_at_call 227; refine (l1Value_any _ _).mono ?_; rintro e w' ⟨rfl, rfl⟩))
  go_ret
  exact ⟨ret_int HF.out.symm, rfl⟩
theorem specFits_any (d p v s : Int) (w : World) :
    Calls Tryz.prog 231 #[.int .i64 d, .int .i64 p, .int .i64 v, .int .i64 s] w fun e w' => e = .returned (.bool (fitsZ d p v s)) ∧ w = w' := by
  by_cases h : 0 ≤ sumZ d p v
  · have HF := Lib.hid (show fitsZ d p v s = (sumZ d p v == s) by unfold fitsZ; rw [Bool.eq_iff_iff]; simp [h])
    go_enter Tryz.func231, Tryz.ntmps231
    go_wp2_with (refine (specSumOf_any _ _ _ _).mono ?_; rintro e w' ⟨rfl, rfl⟩)
    go_ret
    exact ⟨ret_bool HF.out.symm, rfl⟩
  · have HF := Lib.hid (show fitsZ d p v s = false by simp [fitsZ]; omega)
    have h' : sumZ d p v < 0 := by omega
    clear h
    go_enter Tryz.func231, Tryz.ntmps231
    go_wp2_with (refine (specSumOf_any _ _ _ _).mono ?_; rintro e w' ⟨rfl, rfl⟩)
    go_ret
    exact ⟨ret_bool HF.out.symm, rfl⟩
end Go.Proofs.YteialkknddpbjaaGreatDoor
namespace Go.Proofs.YteialkknddpbjaaGreatDoor
open Go.ChangeShapes Go.WideShapes Go.ChangeAt Go.RowKit

theorem between_any (n lo hi : Int) (w : World) :
    Calls Tryz.prog 140 #[.int .i64 n, .int .i64 lo, .int .i64 hi] w fun e w' => e = .returned (.bool (inB n lo hi)) ∧ w = w' := by
  by_cases h : lo ≤ n
  · go_enter Tryz.func140, Tryz.ntmps140
    go_wp2
    go_ret
    exact ⟨by simp [inB, h], rfl⟩
  · have HF := Lib.hid (inB_no (n := n) (lo := lo) (hi := hi) (by omega))
    have h' : n < lo := by omega
    clear h
    go_enter Tryz.func140, Tryz.ntmps140
    go_wp2
    go_ret
    exact ⟨ret_bool HF.out.symm, rfl⟩
theorem valid_any (v : Int) (w : World) :
    Calls Tryz.prog 223 #[.int .i64 v] w fun e w' => e = .returned (.bool (inB v 0 32767)) ∧ w = w' := by
  go_enter Tryz.func223, Tryz.ntmps223
  go_wp2_with (refine (between_any _ _ _ _).mono ?_; rintro e w' ⟨rfl, rfl⟩)
  go_ret
  exact ⟨rfl, rfl⟩
theorem sumAt_any (v d p : Int) (w : World) (hd : 0 ≤ d ∧ d ≤ 4) (hp : 0 ≤ p ∧ p ≤ 15) (hv : 0 ≤ v ∧ v ≤ 32767) :
    Calls Tryz.prog 224 #[.int .i64 v, .int .i64 d, .int .i64 p] w fun e w' => e = .returned (.int .i64 ((31 * v + 1000 * p + 20000 * d) % 65521)) ∧ w = w' := by
  obtain ⟨d1, d2⟩ := hd; obtain ⟨p1, p2⟩ := hp; obtain ⟨v1, v2⟩ := hv
  go_enter Tryz.func224, Tryz.ntmps224
  go_wp2
  go_ret
  exact ⟨rfl, rfl⟩
theorem implValueOk_any (v : Int) (w : World) :
    Calls Tryz.prog 193 #[.int .i64 v] w fun e w' => e = .returned (.bool (inB v 0 32767)) ∧ w = w' := by
  go_enter Tryz.func193, Tryz.ntmps193
  go_wp2_with (refine (valid_any _ _).mono ?_; rintro e w' ⟨rfl, rfl⟩)
  go_ret
  exact ⟨rfl, rfl⟩
theorem sumWhere_any (d p v : Int) (w : World) :
    Calls Tryz.prog 222 #[.int .i64 d, .int .i64 p, .func (.func 223) #[.int .i64 v] #[], .func (.func 224) #[.int .i64 v] #[]] w fun e w' => e = .returned (.int .i64 (sumZ d p v)) ∧ w = w' := by
  cases hd : inB d 0 4
  · have HF := Lib.hid (sumZ_no (p := p) (v := v) (.inl hd))
    go_enter Tryz.func222, Tryz.ntmps222
    go_wp2_with (first | (go_at_call 140; refine (between_any _ _ _ _).mono ?_; rintro e w' ⟨rfl, rfl⟩))
    go_ret
    exact ⟨ret_int HF.out.symm, rfl⟩
  cases hp : inB p 0 15
  · have HF := Lib.hid (sumZ_no (d := d) (v := v) (.inr (.inl hp)))
    go_enter Tryz.func222, Tryz.ntmps222
    go_wp2_with (first | (go_at_call 140; refine (between_any _ _ _ _).mono ?_; rintro e w' ⟨rfl, rfl⟩))
    go_ret
    exact ⟨ret_int HF.out.symm, rfl⟩
  cases hv : inB v 0 32767
  · have HF := Lib.hid (sumZ_no (d := d) (p := p) (.inr (.inr hv)))
    go_enter Tryz.func222, Tryz.ntmps222
    go_wp2_with (first | (go_at_call 140; refine (between_any _ _ _ _).mono ?_; rintro e w' ⟨rfl, rfl⟩) | (go_at_call 223; refine (valid_any _ _).mono ?_; rintro e w' ⟨rfl, rfl⟩))
    go_ret
    exact ⟨ret_int HF.out.symm, rfl⟩
  have HF := Lib.hid (sumZ_yes hd hp hv)
  have d1 := inB_iff.1 hd; have p1 := inB_iff.1 hp; have v1 := inB_iff.1 hv
  go_enter Tryz.func222, Tryz.ntmps222
  go_wp2_with (first | (go_at_call 140; refine (between_any _ _ _ _).mono ?_; rintro e w' ⟨rfl, rfl⟩) | (go_at_call 223; refine (valid_any _ _).mono ?_; rintro e w' ⟨rfl, rfl⟩) | (go_at_call 224; refine (sumAt_any _ _ _ _ d1 p1 v1).mono ?_; rintro e w' ⟨rfl, rfl⟩))
  go_ret
  exact ⟨ret_int HF.out.symm, rfl⟩
theorem implSumOf_any (d p v : Int) (w : World) :
    Calls Tryz.prog 141 #[.int .i64 d, .int .i64 p, .int .i64 v] w fun e w' => e = .returned (.int .i64 (sumZ d p v)) ∧ w = w' := by
  go_enter Tryz.func141, Tryz.ntmps141
  go_wp2_with (refine (sumWhere_any _ _ _ _).mono ?_; rintro e w' ⟨rfl, rfl⟩)
  go_ret
  exact ⟨rfl, rfl⟩
theorem implFits_any (d p v s : Int) (w : World) :
    Calls Tryz.prog 283 #[.int .i64 d, .int .i64 p, .int .i64 v, .int .i64 s] w fun e w' => e = .returned (.bool (fitsZ d p v s)) ∧ w = w' := by
  have hlo := sumZ_lo d p v
  by_cases h : s = -1
  · have HF := Lib.hid (show fitsZ d p v s = false by simp [fitsZ]; omega)
    subst h
    go_enter Tryz.func283, Tryz.ntmps283
    go_wp2
    go_ret
    exact ⟨ret_bool HF.out.symm, rfl⟩
  · have HF := Lib.hid (show fitsZ d p v s = (sumZ d p v == s) by unfold fitsZ; rw [Bool.eq_iff_iff]; simp; omega)
    have hb : (s == -1) = false := beq_eq_false_iff_ne.2 h
    have hn : (s != -1) = true := bne_iff_ne.2 h
    clear h hlo
    go_enter Tryz.func283, Tryz.ntmps283
    go_wp2_with (refine (implSumOf_any _ _ _ _).mono ?_; rintro e w' ⟨rfl, rfl⟩)
    go_ret
    exact ⟨ret_bool HF.out.symm, rfl⟩
end Go.Proofs.YteialkknddpbjaaGreatDoor

namespace Go.Proofs.YteialkknddpbjaaGreatDoor
open Go.ChangeShapes Go.WideShapes Go.ChangeAt Go.RowKit

theorem specCellOk_any (v s : Int) (w : World) :
    Calls Tryz.prog 230 #[.agg #[.int .i64 v, .int .i64 s]] w (Pure (.bool (cellOkZ v s)) w) := by
  cases hv : inB v 0 32767
  · have HF := Lib.hid (show cellOkZ v s = false by simp [cellOkZ, hv])
    go_enter Tryz.func230, Tryz.ntmps230
    go_wp2_with (first | (go_at_call 227; refine (l1Value_any _ _).mono ?_; rintro e w' ⟨rfl, rfl⟩))
    go_ret
    exact ⟨ret_bool HF.out.symm, galloc (grefl _) _⟩
  · have HF := Lib.hid (show cellOkZ v s = inB s 0 65520 by simp [cellOkZ, hv])
    go_enter Tryz.func230, Tryz.ntmps230
    go_wp2_with (first | (go_at_call 227; refine (l1Value_any _ _).mono ?_; rintro e w' ⟨rfl, rfl⟩) | (go_at_call 87; refine (l1In_any _ _ _ _).mono ?_; rintro e w' ⟨rfl, rfl⟩))
    go_ret
    exact ⟨ret_bool HF.out.symm, galloc (grefl _) _⟩
theorem specCellOf_any (d p v : Int) (w : World) :
    Calls Tryz.prog 228 #[.int .i64 d, .int .i64 p, .int .i64 v] w (Pure (.agg #[.int .i64 (cofV d p v), .int .i64 (cofS d p v)]) w) := by
  by_cases hs : sumZ d p v < 0
  · have HF := Lib.hid (show cofV d p v = 0 ∧ cofS d p v = 0 by simp [cofV, cofS, hs])
    rw [HF.out.1, HF.out.2]
    go_enter Tryz.func228, Tryz.ntmps228
    go_wp2_with (first | (go_at_call 265; refine (specSumOf_any _ _ _ _).mono ?_; rintro e w' ⟨rfl, rfl⟩))
    exact bodyPost_ret (v := .agg #[.int .i64 0, .int .i64 0]) (by simp [results, Tryz.results228, go_sem]) rfl ⟨rfl, galloc (grefl _) _⟩
  · have HF := Lib.hid (show cofV d p v = v ∧ cofS d p v = sumZ d p v by simp [cofV, cofS, hs])
    rw [HF.out.1, HF.out.2]
    go_enter Tryz.func228, Tryz.ntmps228
    go_wp2_with (first | (go_at_call 265; refine (specSumOf_any _ _ _ _).mono ?_; rintro e w' ⟨rfl, rfl⟩))
    exact bodyPost_ret (v := .agg #[.int .i64 v, .int .i64 (sumZ d p v)]) (by simp [results, Tryz.results228, go_sem]) rfl ⟨rfl, by repeat (first | exact grefl _ | refine galloc ?_ _ | refine gdrew ?_ _ | refine gsetN ?_ (by simp) _ _)⟩
theorem specGood_any (v s d p : Int) (w : World) :
    Calls Tryz.prog 154 #[.agg #[.int .i64 v, .int .i64 s], .int .i64 d, .int .i64 p] w (Pure (.bool (goodZ v s d p)) w) := by
  cases hv : cellOkZ v s
  · have HF := Lib.hid (show goodZ v s d p = false by simp [goodZ, hv])
    go_enter Tryz.func154, Tryz.ntmps154
    go_wp2_with fail
    refine (specCellOk_any _ _ _).mono ?_
    rintro e w1 ⟨rfl, hg⟩
    rw [hv]
    obtain ⟨hc, hf⟩ := gcell hg
    go_wp2_with fail
    go_ret
    exact ⟨ret_bool HF.out.symm, gtrans (galloc (grefl _) _) hg⟩
  · have HF := Lib.hid (show goodZ v s d p = fitsZ d p v s by simp [goodZ, hv])
    go_enter Tryz.func154, Tryz.ntmps154
    go_wp2_with fail
    refine (specCellOk_any _ _ _).mono ?_
    rintro e w1 ⟨rfl, hg⟩
    rw [hv]
    obtain ⟨hc, hf⟩ := gcell hg
    go_wp2_with (first | (go_at_call 231; refine (specFits_any _ _ _ _ _).mono ?_; rintro e w' ⟨rfl, rfl⟩))
    go_ret
    exact ⟨ret_bool HF.out.symm, gtrans (galloc (grefl _) _) hg⟩
theorem specRotten_any (v s b : Int) (w : World) :
    Calls Tryz.prog 155 #[.agg #[.int .i64 v, .int .i64 s], .int .i64 b] w (Pure (.agg #[.int .i64 (rotV v s b), .int .i64 (rotS v s)]) w) := by
  cases hv : cellOkZ v s
  · rw [show rotV v s b = 0 by simp [rotV, hv], show rotS v s = 0 by simp [rotS, hv]]
    go_enter Tryz.func155, Tryz.ntmps155
    go_wp2_with fail
    refine (specCellOk_any _ _ _).mono ?_
    rintro e w1 ⟨rfl, hg⟩
    rw [hv]
    obtain ⟨c0, f0⟩ := gk hg (b := w.heap.size + 1) (o := 0) (v := .int .i64 0) ⟨by simp [go_sem], by simp [go_sem]⟩
    obtain ⟨c1, f1⟩ := gk hg (b := w.heap.size + 1) (o := 1) (v := .int .i64 0) ⟨by simp [go_sem], by simp [go_sem]⟩
    go_wp2_with fail
    refine bodyPost_ret (v := .agg #[.int .i64 0, .int .i64 0]) (by simp [results, Tryz.results155, go_sem, c0, c1]) rfl ⟨rfl, ?_⟩
    repeat (first | exact grefl _ | refine galloc ?_ _ | refine gdrew ?_ _ | refine gsetN ?_ (by simp) _ _ | refine gtrans ?_ hg)
  cases hb : inB b 1 32767
  · rw [show rotV v s b = v by simp [rotV, hv, hb], show rotS v s = s by simp [rotS, hv]]
    go_enter Tryz.func155, Tryz.ntmps155
    go_wp2_with fail
    refine (specCellOk_any _ _ _).mono ?_
    rintro e w1 ⟨rfl, hg⟩
    rw [hv]
    obtain ⟨a0, b0⟩ := gk hg (b := w.heap.size) (o := 0) (v := .int .i64 v) ⟨by simp [go_sem], by simp [go_sem]⟩
    obtain ⟨a1, b1⟩ := gk hg (b := w.heap.size) (o := 1) (v := .int .i64 s) ⟨by simp [go_sem], by simp [go_sem]⟩
    obtain ⟨c0, f0⟩ := gk hg (b := w.heap.size + 1) (o := 0) (v := .int .i64 0) ⟨by simp [go_sem], by simp [go_sem]⟩
    obtain ⟨c1, f1⟩ := gk hg (b := w.heap.size + 1) (o := 1) (v := .int .i64 0) ⟨by simp [go_sem], by simp [go_sem]⟩
    go_wp2_with (first | (go_at_call 87; refine (l1In_any _ _ _ _).mono ?_; rintro e w' ⟨rfl, rfl⟩))
    refine bodyPost_ret (v := .agg #[.int .i64 v, .int .i64 s]) (by simp [results, Tryz.results155, go_sem, c0, c1]) rfl ⟨rfl, ?_⟩
    repeat (first | exact grefl _ | refine galloc ?_ _ | refine gdrew ?_ _ | refine gsetN ?_ (by simp) _ _ | refine gtrans ?_ hg)
  · rw [show rotV v s b = (v + b) % 32768 by simp [rotV, hv, hb], show rotS v s = s by simp [rotS, hv]]
    have hv1 : 0 ≤ v ∧ v ≤ 32767 := inB_iff.1 (by simp [cellOkZ] at hv; exact hv.1)
    have hb1 := inB_iff.1 hb
    obtain ⟨v1, v2⟩ := hv1
    obtain ⟨q1, q2⟩ := hb1
    go_enter Tryz.func155, Tryz.ntmps155
    go_wp2_with fail
    refine (specCellOk_any _ _ _).mono ?_
    rintro e w1 ⟨rfl, hg⟩
    rw [hv]
    obtain ⟨a0, b0⟩ := gk hg (b := w.heap.size) (o := 0) (v := .int .i64 v) ⟨by simp [go_sem], by simp [go_sem]⟩
    obtain ⟨a1, b1⟩ := gk hg (b := w.heap.size) (o := 1) (v := .int .i64 s) ⟨by simp [go_sem], by simp [go_sem]⟩
    obtain ⟨c0, f0⟩ := gk hg (b := w.heap.size + 1) (o := 0) (v := .int .i64 0) ⟨by simp [go_sem], by simp [go_sem]⟩
    obtain ⟨c1, f1⟩ := gk hg (b := w.heap.size + 1) (o := 1) (v := .int .i64 0) ⟨by simp [go_sem], by simp [go_sem]⟩
    go_wp2_with (first | (go_at_call 87; refine (l1In_any _ _ _ _).mono ?_; rintro e w' ⟨rfl, rfl⟩))
    refine bodyPost_ret (v := .agg #[.int .i64 ((v + b) % 32768), .int .i64 s]) (by simp [results, Tryz.results155, go_sem, c0, c1]) rfl ⟨rfl, ?_⟩
    repeat (first | exact grefl _ | refine galloc ?_ _ | refine gdrew ?_ _ | refine gsetN ?_ (by simp) _ _ | refine gtrans ?_ hg)
end Go.Proofs.YteialkknddpbjaaGreatDoor
namespace Go.Proofs.YteialkknddpbjaaGreatDoor
open Go.ChangeShapes Go.WideShapes Go.ChangeAt Go.RowKit

theorem summed_any (v s : Int) (w : World) :
    Calls Tryz.prog 268 #[.agg #[.int .i64 v, .int .i64 s]] w (Pure (.agg #[.int .i64 v, .int .i64 s]) w) := by
  go_enter Tryz.func268, Tryz.ntmps268
  go_wp2
  refine bodyPost_ret (v := .agg #[.int .i64 v, .int .i64 s]) (by simp [results, Tryz.results268, go_sem]) rfl ⟨rfl, ?_⟩
  repeat (first | exact grefl _ | refine galloc ?_ _ | refine gdrew ?_ _ | refine gsetN ?_ (by simp) _ _)
theorem implCellOk_any (v s : Int) (w : World) :
    Calls Tryz.prog 267 #[.agg #[.int .i64 v, .int .i64 s]] w (Pure (.bool (cellOkZ v s)) w) := by
  cases hv : inB v 0 32767
  · have HF := Lib.hid (show cellOkZ v s = false by simp [cellOkZ, hv])
    go_enter Tryz.func267, Tryz.ntmps267
    go_wp2_with fail
    refine (summed_any _ _ _).mono ?_
    rintro e w1 ⟨rfl, hg⟩
    go_wp2_with (first | (go_at_call 223; refine (valid_any _ _).mono ?_; rintro e w' ⟨rfl, rfl⟩))
    go_ret
    exact ⟨ret_bool HF.out.symm, by repeat (first | exact grefl _ | refine galloc ?_ _ | refine gdrew ?_ _ | refine gsetN ?_ (by simp <;> omega) _ _ | refine gtrans ?_ hg)⟩
  · have HF := Lib.hid (show cellOkZ v s = inB s 0 65520 by simp [cellOkZ, hv])
    go_enter Tryz.func267, Tryz.ntmps267
    go_wp2_with fail
    refine (summed_any _ _ _).mono ?_
    rintro e w1 ⟨rfl, hg⟩
    go_wp2_with (first | (go_at_call 223; refine (valid_any _ _).mono ?_; rintro e w' ⟨rfl, rfl⟩) | (go_at_call 140; refine (between_any _ _ _ _).mono ?_; rintro e w' ⟨rfl, rfl⟩))
    go_ret
    exact ⟨ret_bool HF.out.symm, by repeat (first | exact grefl _ | refine galloc ?_ _ | refine gdrew ?_ _ | refine gsetN ?_ (by simp <;> omega) _ _ | refine gtrans ?_ hg)⟩
theorem implCellOf_any (d p v : Int) (w : World) :
    Calls Tryz.prog 220 #[.int .i64 d, .int .i64 p, .int .i64 v] w (Pure (.agg #[.int .i64 (cofV d p v), .int .i64 (cofS d p v)]) w) := by
  have hlo := sumZ_lo d p v
  by_cases hs : sumZ d p v < 0
  · rw [show cofV d p v = 0 by simp [cofV, hs], show cofS d p v = 0 by simp [cofS, hs]]
    have hn : (sumZ d p v == -1) = true := by rw [beq_iff_eq]; omega
    clear hs hlo
    go_enter Tryz.func220, Tryz.ntmps220
    go_wp2_with (first | (go_at_call 141; refine (implSumOf_any _ _ _ _).mono ?_; rintro e w' ⟨rfl, rfl⟩))
    exact bodyPost_ret (v := .agg #[.int .i64 0, .int .i64 0]) (by simp [results, Tryz.results220, go_sem]) rfl ⟨rfl, galloc (grefl _) _⟩
  · rw [show cofV d p v = v by simp [cofV, hs], show cofS d p v = sumZ d p v by simp [cofS, hs]]
    have hn : (sumZ d p v == -1) = false := by rw [beq_eq_false_iff_ne]; omega
    clear hs hlo
    go_enter Tryz.func220, Tryz.ntmps220
    go_wp2_with (first | (go_at_call 141; refine (implSumOf_any _ _ _ _).mono ?_; rintro e w' ⟨rfl, rfl⟩))
    refine bodyPost_ret (v := .agg #[.int .i64 v, .int .i64 (sumZ d p v)]) (by simp [results, Tryz.results220, go_sem]) rfl ⟨rfl, ?_⟩
    repeat (first | exact grefl _ | refine galloc ?_ _ | refine gdrew ?_ _ | refine gsetN ?_ (by simp) _ _)
theorem implGood_any (v s d p : Int) (w : World) :
    Calls Tryz.prog 256 #[.agg #[.int .i64 v, .int .i64 s], .int .i64 d, .int .i64 p] w (Pure (.bool (goodZ v s d p)) w) := by
  cases hv : cellOkZ v s
  · have HF := Lib.hid (show goodZ v s d p = false by simp [goodZ, hv])
    go_enter Tryz.func256, Tryz.ntmps256
    go_wp2_with fail
    refine (implCellOk_any _ _ _).mono ?_
    rintro e w1 ⟨rfl, hg⟩
    rw [hv]
    go_wp2_with fail
    go_ret
    exact ⟨ret_bool HF.out.symm, gtrans (galloc (grefl _) _) hg⟩
  · have HF := Lib.hid (show goodZ v s d p = fitsZ d p v s by simp [goodZ, hv])
    go_enter Tryz.func256, Tryz.ntmps256
    go_wp2_with fail
    refine (implCellOk_any _ _ _).mono ?_
    rintro e w1 ⟨rfl, hg⟩
    rw [hv]
    obtain ⟨a0, b0⟩ := gk hg (b := w.heap.size) (o := 0) (v := .int .i64 v) ⟨by simp [go_sem], by simp [go_sem]⟩
    obtain ⟨a1, b1⟩ := gk hg (b := w.heap.size) (o := 1) (v := .int .i64 s) ⟨by simp [go_sem], by simp [go_sem]⟩
    go_wp2_with (first | (go_at_call 283; refine (implFits_any _ _ _ _ _).mono ?_; rintro e w' ⟨rfl, rfl⟩))
    go_ret
    exact ⟨ret_bool HF.out.symm, gtrans (galloc (grefl _) _) hg⟩
end Go.Proofs.YteialkknddpbjaaGreatDoor
