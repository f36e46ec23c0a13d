/- What the specification's l9Begin does. -/
import Derived.Test.YtfodjokcobljmaaGreatBaseL09
namespace Go.Proofs.YtfodjokcobljmaaGreat
open Go.ChangeShapes Go.WideShapes Go.ChangeAt Go.RowKit
attribute [local go_sem] str_list str_size str_add lit_list0 add_lit lit_add str_cut

def beginOk (a : AZ) (p x : Int) : Bool := a.up && (a.stage == 0 && forOk a.ds p x)
def AZ.begun (a : AZ) (p x : Int) : AZ := if beginOk a p x then { a with next := frameT (forP a.ds p x).text, stage := 1 } else a
/-- what a function leaves of an array -/
def ADid (b B : Nat) (ok : Bool) (a : AZ) (w : World) (e : Ending) (w' : World) : Prop := e = .returned (.bool ok) ∧ (∃ v raw, ABox w' b B a v raw) ∧ Only (AB b B) w w'
theorem text_len {p : PZ} (h : p.ok = true) : p.text.length ≤ 100 := by
  have := text_plain h
  simp only [plainT, Bool.and_eq_true, decide_eq_true_eq] at this
  exact this.2
set_option maxRecDepth 8000 in
set_option maxHeartbeats 2000000 in
theorem l9Begin_any (b B : Nat) (a : AZ) (v : Value) (raw : List DV) (p x : Int) (w : World) (h : ABox w b B a v raw) (hl : a.ds.length ≤ 1000) :
    Calls Tryz.prog 61 #[.pointer (some ⟨b, 0, none⟩), .int .i64 p, .int .i64 x] w fun e w' => e = .returned (.bool (beginOk a p x)) ∧ ABox w' b B (a.begun p x) v raw ∧ Only (AB b B) w w' := by
  obtain ⟨c0, f0⟩ := h.c0
  obtain ⟨c3, f3⟩ := h.c3
  obtain ⟨c4, f4⟩ := h.c4
  obtain ⟨va, vc, rfl, -⟩ := h.od.form
  cases hu : a.up
  · rw [hu] at c4
    have HB : Hid (beginOk a p x = false) := by show _ = _; simp [beginOk, hu]
    have HA : Hid (a.begun p x = a) := by show _ = _; simp [AZ.begun, HB.out]
    go_enter Tryz.func61, Tryz.ntmps61
    go_wp2_with fail
    go_ret
    exact ⟨ret_bool HB.out.symm, by rw [HA.out]; exact h, Only.refl _ _⟩
  rw [hu] at c4
  by_cases hst : a.stage = 0
  rotate_left
  · have hst' : (a.stage != 0) = true := bne_iff_ne.2 hst
    have HB : Hid (beginOk a p x = false) := by show _ = _; simp [beginOk, hst]
    have HA : Hid (a.begun p x = a) := by show _ = _; simp [AZ.begun, HB.out]
    clear hst
    go_enter Tryz.func61, Tryz.ntmps61
    go_wp2_with fail
    go_ret
    exact ⟨ret_bool HB.out.symm, by rw [HA.out]; exact h, Only.refl _ _⟩
  have hst' : (a.stage != 0) = false := by simp [hst]
  have HB : Hid (beginOk a p x = forOk a.ds p x) := by show _ = _; simp [beginOk, hst, hu]
  have HW : Hid (forOk a.ds p x = true → a.begun p x = { a with next := frameT (forP a.ds p x).text, stage := 1 }) := fun e => by simp [AZ.begun, HB.out, e]
  have HV : Hid (forOk a.ds p x = false → a.begun p x = a) := fun e => by simp [AZ.begun, HB.out, e]
  have HOk : Hid (forOk a.ds p x = true → (forP a.ds p x).ok = true) := fun e => for_ok e
  clear hst hu
  go_enter Tryz.func61, Tryz.ntmps61
  go_wp2_with fail
  go_fit (l7For_any _ a.ds p x _ h.od.ld hl)
  rintro e w2 ⟨dv, vv, rfl, id, iv, ap, g2⟩
  obtain ⟨da, dm, dc, rfl⟩ := id.sl
  obtain ⟨ea, em, ec, rfl⟩ := iv.sl
  have h2 := h.kept g2
  have e3 := galloc (grefl w2) (.cells #[.int .i64 (forP a.ds p x).row, .slice da dm dc, .slice ea em ec] 94)
  have h3 := h2.kept e3
  have B3 := Box3.new w2 (.int .i64 (forP a.ds p x).row) (.slice da dm dc) (.slice ea em ec) 94
  have id3 := Own.grew id e3
  have iv3 := Own.grew iv e3
  have G3 := gtrans g2 e3
  have hbne : b ≠ w2.heap.size := by have := h2.lt; omega
  go_upto_region 4 with (fail)
  generalize w2.alloc (.cells #[.int .i64 (forP a.ds p x).row, .slice da dm dc, .slice ea em ec] 94) = W3 at *
  generalize w2.heap.size = pb at *
  obtain ⟨b0, b1, b2⟩ := B3
  cases hok : forOk a.ds p x
  · go_wp2_with fail
    go_ret
    exact ⟨ret_bool (by rw [HB.out, hok]), by rw [HV.out hok]; exact h3, only_grew G3⟩
  have hpok := HOk.out hok
  have htl := text_len hpok
  clear h h2 c0 f0 c3 f3 c4 f4 id iv
  go_wp2_with fail
  go_fit (l7Show_any (forP a.ds p x) _ _ _ id3.rd iv3.rd (ok_fit hpok))
  rintro e w4 ⟨rfl, g4⟩
  go_wp2_with fail
  go_fit (l8Framed_any (forP a.ds p x).text _ (by omega))
  rintro e w5 ⟨rfl, g5⟩
  have h5 := h3.kept (gtrans g4 g5)
  obtain ⟨c2, f2⟩ := h5.c2
  obtain ⟨c3, f3⟩ := h5.c3
  go_wp2_with fail
  go_ret
  exact ⟨ret_bool (by rw [HB.out, hok]), by rw [HW.out hok]; exact (h5.setNext _).setStage 1, (only_grew (gtrans G3 (gtrans g4 g5))).trans ((only_set _ _ _ _ _).trans (only_set _ _ _ _ _))⟩
end Go.Proofs.YtfodjokcobljmaaGreat
