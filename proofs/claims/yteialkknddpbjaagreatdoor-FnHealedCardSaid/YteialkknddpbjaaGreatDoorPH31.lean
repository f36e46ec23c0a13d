/- What the program's flushedDisks returns. What the program's onlyPatch, textsFit, ArrayOk and copiedArray return. What the program's Begun, Stepped, WriteArray, ReadArray and NewArray return. -/
import Derived.Deep.RegionLaw
import Derived.Test.YteialkknddpbjaaGreatDoorPH14
import Derived.Test.YteialkknddpbjaaGreatDoorPH25
import Derived.Test.YteialkknddpbjaaGreatDoorPH29
import Derived.Test.YteialkknddpbjaaGreatDoorPH30
namespace Go.Proofs.YteialkknddpbjaaGreatDoor
open Go.ChangeShapes Go.WideShapes Go.ChangeAt Go.RowKit

end Go.Proofs.YteialkknddpbjaaGreatDoor
namespace Go.Proofs.YteialkknddpbjaaGreatDoor
open Go.ChangeShapes Go.WideShapes Go.ChangeAt Go.RowKit
attribute [local go_sem] str_list str_size str_add lit_list0 add_lit lit_add str_cut

def onlyP (s : List UInt8) : PZ := if oneOk s then oneP s else .zero
set_option maxRecDepth 8000 in
set_option maxHeartbeats 4000000 in
theorem onlyPatch_any (s : List UInt8) (w : World) (hs : s.length ≤ 1048576) (ht : Pow10 w) (hV : LibV w) :
    Calls Tryz.prog 123 #[.string (str s)] w (GotP (onlyP s) (oneOk s) w) := by
  have Z0 := Zero3.new w
  have G0 := galloc (grefl w) (.cells #[.int .i64 0, .slice none 0 0, .slice none 0 0] 97)
  have s0 : w.heap.size < (w.alloc (.cells #[.int .i64 0, .slice none 0 0, .slice none 0 0] 97)).heap.size := by simp
  have HT := Lib.hid ht
  have hEnt := fun p (hp : p ∈ entsT s) => ents_ok s p hp
  clear ht
  go_enter Tryz.func123, Tryz.ntmps123
  go_upto_region 1 with (fail)
  generalize w.alloc (.cells #[.int .i64 0, .slice none 0 0, .slice none 0 0] 97) = W0 at *
  go_wp2_with fail
  go_fit (implEntries_any s _ hs (HT.out.kept G0) (hV.kept G0))
  rintro e w2 ⟨pv, praw, rfl, P2, g2⟩
  have G2 := gtrans G0 g2
  have Z2 := Z0.kept g2 (by simp)
  have s2 := g2.size
  clear Z0 hV
  obtain ⟨pa, pc, rfl, hpm⟩ := P2.form
  cases hone : (((entsT s).length : Int) != 1)
  rotate_left
  · have HF : Hid (oneOk s = false) := by show _ = _; simp only [bne_iff_ne] at hone; simp only [oneOk, decide_eq_false (show ¬ (entsT s).length = 1 by omega), Bool.false_and]
    have HZ : Hid (onlyP s = .zero) := by show _ = _; unfold onlyP; rw [HF.out]; rfl
    have hR := ret_zero3 G2 (Nat.le_refl _)
    obtain ⟨⟨z0, y0⟩, ⟨z1, y1⟩, ⟨z2, y2⟩⟩ := Z2
    go_wp2_with fail
    exact bodyPost_ret (v := .tuple #[.agg #[.int .i64 0, .slice none 0 0, .slice none 0 0], .bool false]) (by simp [results, Tryz.results123, go_sem, z0, z1, z2]) rfl (by rw [HZ.out, HF.out]; exact hR)
  have hlen1 : (entsT s).length = 1 := by rw [bne_eq_false_iff_eq] at hone; omega
  have hlp : 0 < (entsT s).length := by omega
  have hlpi : (0 : Int) < (entsT s).length := by omega
  have hpl : 0 < praw.length := by rw [P2.len]; exact hlp
  have hpok := hEnt _ (List.getElem_mem hlp)
  have HHo : Hid (oneOk s = (frameT (entsT s)[0].text == s) ∧ oneP s = (entsT s)[0]) := by
    have h0 : oneP s = (entsT s)[0] := by simp [oneP, List.getD_eq_getElem?_getD, hlp]
    exact ⟨by simp only [oneOk, hlen1, decide_true, Bool.true_and, h0], h0⟩
  obtain ⟨pg, rfl, y0, y1, y2⟩ := P2.at 0 hpl hlp
  simp only [Nat.zero_mul, Nat.zero_add] at y0 y1 y2
  have hIs := P2.is 0 hpl hlp
  have hap := P2.self 0 hpl
  have hds := hIs.ds
  have hvs := hIs.vs
  have hdr := hds.rd
  have hvr := hvs.rd
  have htl := text_len hpok
  have htp := text_plain hpok
  have HSh : Hid (showZ (entsT s)[0] = (entsT s)[0].text) := showZ_yes hpok
  have HFr : Hid (framedZ (entsT s)[0].text = frameT (entsT s)[0].text) := framedZ_yes htp
  generalize (entsT s)[0] = P at *
  generalize hdv : praw[0].dv = dv at *
  generalize hvv : praw[0].vv = vv at *
  clear hdv hvv htp hlen1 hEnt hIs
  cases ht' : (frameT P.text == s)
  · have HF : Hid (oneOk s = false) := by show _ = _; rw [HHo.out.1, ht']
    have HZ : Hid (onlyP s = .zero) := by show _ = _; unfold onlyP; rw [HF.out]; rfl
    go_wp2_with fail
    go_fit (implShowPatch_any P dv vv _ hdr hvr (HT.out.kept G2))
    rintro e w3 ⟨rfl, g3⟩
    rw [HSh.out]
    go_wp2_with fail
    go_fit (implFramed_any P.text _ (by omega) (HT.out.kept (gtrans G2 g3)))
    rintro e w4 ⟨rfl, g4⟩
    rw [HFr.out]
    have hR := ret_zero3 (gtrans G2 (gtrans g3 g4)) (Nat.le_refl _)
    obtain ⟨⟨z0, q0⟩, ⟨z1, q1⟩, ⟨z2, q2⟩⟩ := (Z2.kept g3 (by simp)).kept g4 (by simp)
    clear y0 y1 y2
    go_wp2_with fail
    exact bodyPost_ret (v := .tuple #[.agg #[.int .i64 0, .slice none 0 0, .slice none 0 0], .bool false]) (by simp [results, Tryz.results123, go_sem, z0, z1, z2]) rfl (by rw [HZ.out, HF.out]; exact hR)
  have HF : Hid (oneOk s = true) := by show _ = _; rw [HHo.out.1, ht']
  have HZ : Hid (onlyP s = P) := by show _ = _; unfold onlyP; rw [HF.out, HHo.out.2]; rfl
  go_wp2_with fail
  go_fit (implShowPatch_any P dv vv _ hdr hvr (HT.out.kept G2))
  rintro e w3 ⟨rfl, g3⟩
  rw [HSh.out]
  go_wp2_with fail
  go_fit (implFramed_any P.text _ (by omega) (HT.out.kept (gtrans G2 g3)))
  rintro e w4 ⟨rfl, g4⟩
  rw [HFr.out]
  have g34 := gtrans g3 g4
  have G4 := gtrans G2 g34
  have hds4 := Own.grew hds g34
  have hvs4 := Own.grew hvs g34
  have x0 := gkc g34 y0
  have x1 := gkc g34 y1
  have x2 := gkc g34 y2
  obtain ⟨da, dm, dc, rfl⟩ := hds4.sl
  obtain ⟨ea, em, ec, rfl⟩ := hvs4.sl
  have hdn : (Value.slice da dm dc).ownBlock ≠ some w.heap.size := fun e => by have := (hds4.lt _ e).1; omega
  have hvn : (Value.slice ea em ec).ownBlock ≠ some w.heap.size := fun e => by have := (hvs4.lt _ e).1; omega
  have hR : GotP (onlyP s) (oneOk s) w (.returned (.tuple #[.agg #[.int .i64 P.row, .slice da dm dc, .slice ea em ec], .bool true])) (set3 w4 w.heap.size (.int .i64 P.row) (.slice da dm dc) (.slice ea em ec)) := by
    rw [HZ.out, HF.out]
    exact ⟨_, _, rfl, (Own.other (Own.other (Own.other hds4 hdn _) hdn _) hdn _).lower (by omega), (Own.other (Own.other (Own.other hvs4 hvn _) hvn _) hvn _).lower (by omega), hap, gset3 G4 (Nat.le_refl _) _ _ _⟩
  obtain ⟨⟨z0, q0⟩, ⟨z1, q1⟩, ⟨z2, q2⟩⟩ := Z2.kept g34 (by simp)
  clear y0 y1 y2 hdr hvr hds hvs hds4 hvs4 P2
  go_wp2_with fail
  exact bodyPost_ret (v := .tuple #[.agg #[.int .i64 P.row, .slice da dm dc, .slice ea em ec], .bool true]) (by simp [results, Tryz.results123, go_sem, z0, z1, z2]) rfl hR
theorem one_row {s : List UInt8} (h : oneOk s = true) : 0 ≤ (oneP s).row := by
  have := one_ok h
  simp only [PZ.ok, Bool.and_eq_true] at this
  exact (inB_iff.1 this.1).1
def fitZ (a : AZ) : Bool := inB a.stage 0 4 && a.textsOk
set_option maxRecDepth 8000 in
set_option maxHeartbeats 4000000 in
theorem textsFit_any (v : Value) (a : AZ) (w : World) (h : LD w v a.ds) (hdk : disksOkZ a.ds = true) (hn : a.next.length ≤ 1048576) (ht : Pow10 w) (hV : LibV w) :
    Calls Tryz.prog 86 #[a.val v] w (Pure (.bool (fitZ a)) w) := by
  obtain ⟨ds, log, next, stage, up⟩ := a
  dsimp only at *
  obtain ⟨xa, cap, rfl, hm⟩ := h.form
  have HDk : Hid (disksOkZ ds = true) := hdk
  clear hdk
  have HOrow : Hid (oneOk next = true → 0 ≤ (oneP next).row) := fun e => one_row e
  have B0 := Box5.new w (.slice xa ds.length cap) (.string (str log)) (.string (str next)) (.int .i64 stage) (.bool up) 26
  have G0 := galloc (grefl w) (.cells #[.slice xa ds.length cap, .string (str log), .string (str next), .int .i64 stage, .bool up] 26)
  go_enter Tryz.func86, Tryz.ntmps86
  go_upto_region 1 with (fail)
  generalize w.alloc (.cells #[.slice xa ds.length cap, .string (str log), .string (str next), .int .i64 stage, .bool up] 26) = W0 at *
  have HB0 := Lib.hid B0
  obtain ⟨p0, p1, p2, p3, p4⟩ := B0
  by_cases s0 : stage = 0
  · subst s0
    have HF : Hid (fitZ ⟨ds, log, next, 0, up⟩ = (log == [] && next == [])) := by show _ = _; simp [fitZ, AZ.textsOk, inB]
    cases hl0 : (log == ([] : List UInt8))
    · have HG : Hid (fitZ ⟨ds, log, next, 0, up⟩ = false) := by show _ = _; rw [HF.out, hl0]; rfl
      go_wp2_with fail
      go_ret
      exact ⟨ret_bool2 HG.out.symm, G0⟩
    · have HG : Hid (fitZ ⟨ds, log, next, 0, up⟩ = next.isEmpty) := by show _ = _; rw [HF.out, hl0]; simp
      go_wp2_with fail
      go_ret
      exact ⟨ret_bool2 HG.out.symm, G0⟩
  have e0 : (stage == 0) = false := by simpa using s0
  by_cases sb : inB stage 0 4 = true
  rotate_left
  · have HF : Hid (fitZ ⟨ds, log, next, stage, up⟩ = false) := by show _ = _; simp only [Bool.not_eq_true] at sb; simp only [fitZ, sb, Bool.false_and]
    have hs : ¬ (0 ≤ stage ∧ stage ≤ 4) := fun x => sb (inB_iff.2 x)
    have e1 : (stage == 1) = false := by simp only [beq_eq_false_iff_ne]; omega
    have e2 : (stage == 2) = false := by simp only [beq_eq_false_iff_ne]; omega
    have e3 : (stage == 3) = false := by simp only [beq_eq_false_iff_ne]; omega
    have e4 : (stage == 4) = false := by simp only [beq_eq_false_iff_ne]; omega
    clear s0 sb hs
    go_wp2_with fail
    go_ret
    exact ⟨ret_bool2 HF.out.symm, G0⟩
  have HF : Hid (fitZ ⟨ds, log, next, stage, up⟩ = (oneOk next && (decide ((oneP next).row < rowsZ ds) && (if stage = 1 then log == [] else log == next)))) := by
    show _ = _; simp only [fitZ, sb, AZ.textsOk, s0, if_false, Bool.true_and]
  have hst := inB_iff.1 sb
  clear sb
  by_cases s1 : stage = 1
  · subst s1
    go_wp2_with fail
    go_fit (onlyPatch_any next _ hn (ht.kept G0) (hV.kept G0))
    rintro e w2 ⟨dv, vv, rfl, id, iv, -, g2⟩
    obtain ⟨da, dm, dc, rfl⟩ := id.sl
    obtain ⟨ea, em, ec, rfl⟩ := iv.sl
    have e3 := galloc (grefl w2) (.cells #[.int .i64 (onlyP next).row, .slice da dm dc, .slice ea em ec] 97)
    have G3 := gtrans (gtrans G0 g2) e3
    obtain ⟨q0, -, -⟩ := Box3.new w2 (.int .i64 (onlyP next).row) (.slice da dm dc) (.slice ea em ec) 97
    obtain ⟨c0, c1, c2, c3, c4⟩ := HB0.out.kept (gtrans g2 e3)
    clear p0 p1 p2 p3 p4 HB0 G0 g2 e3 id iv ht hV
    go_upto_region 11 with (fail)
    generalize w2.alloc (.cells #[.int .i64 (onlyP next).row, .slice da dm dc, .slice ea em ec] 97) = W3 at *
    cases ho : oneOk next
    · have HG : Hid (fitZ ⟨ds, log, next, 1, up⟩ = false) := by show _ = _; rw [HF.out, ho]; rfl
      go_wp2_with fail
      go_ret
      exact ⟨ret_bool2 HG.out.symm, G3⟩
    have hr0 := HOrow.out ho
    have hP : onlyP next = oneP next := by unfold onlyP; rw [ho]; rfl
    rw [hP] at q0
    cases hrow : decide ((oneP next).row < rowsZ ds)
    · have HG : Hid (fitZ ⟨ds, log, next, 1, up⟩ = false) := by show _ = _; rw [HF.out, ho, hrow]; rfl
      have hz : hasZ ds (oneP next).row = false := by simp only [decide_eq_false_iff_not] at hrow; simp only [hasZ, decide_eq_false (show ¬ (0 ≤ (oneP next).row ∧ (oneP next).row < rowsZ ds) from fun x => hrow x.2), Bool.and_false]
      go_wp2_with fail
      go_fit (rowExists_any _ ds (oneP next).row _ (h.kept G3))
      rintro e w4 ⟨rfl, g4⟩
      rw [hz]
      go_wp2_with fail
      go_ret
      exact ⟨ret_bool2 HG.out.symm, gtrans G3 g4⟩
    have hz : hasZ ds (oneP next).row = true := by simp only [decide_eq_true_eq] at hrow; simp only [hasZ, HDk.out, decide_eq_true (show 0 ≤ (oneP next).row ∧ (oneP next).row < rowsZ ds from ⟨hr0, hrow⟩), Bool.and_true]
    have HG : Hid (fitZ ⟨ds, log, next, 1, up⟩ = log.isEmpty) := by show _ = _; rw [HF.out, ho, hrow]; simp
    go_wp2_with fail
    go_fit (rowExists_any _ ds (oneP next).row _ (h.kept G3))
    rintro e w4 ⟨rfl, g4⟩
    rw [hz]
    have c1' := gkc g4 c1
    clear c0 c1 c2 c3 c4
    go_wp2_with fail
    go_ret
    exact ⟨ret_bool2 HG.out.symm, gtrans G3 g4⟩
  have s3 : stage = 2 ∨ stage = 3 ∨ stage = 4 := by omega
  clear s0 e0 hst s1
  rcases s3 with rfl | rfl | rfl
  · go_wp2_with fail
    go_fit (onlyPatch_any next _ hn (ht.kept G0) (hV.kept G0))
    rintro e w2 ⟨dv, vv, rfl, id, iv, -, g2⟩
    obtain ⟨da, dm, dc, rfl⟩ := id.sl
    obtain ⟨ea, em, ec, rfl⟩ := iv.sl
    have e3 := galloc (grefl w2) (.cells #[.int .i64 (onlyP next).row, .slice da dm dc, .slice ea em ec] 97)
    have G3 := gtrans (gtrans G0 g2) e3
    obtain ⟨q0, -, -⟩ := Box3.new w2 (.int .i64 (onlyP next).row) (.slice da dm dc) (.slice ea em ec) 97
    obtain ⟨c0, c1, c2, c3, c4⟩ := HB0.out.kept (gtrans g2 e3)
    clear p0 p1 p2 p3 p4 HB0 G0 g2 e3 id iv ht hV
    go_upto_region 11 with (fail)
    generalize w2.alloc (.cells #[.int .i64 (onlyP next).row, .slice da dm dc, .slice ea em ec] 97) = W3 at *
    cases ho : oneOk next
    · have HG : Hid (fitZ ⟨ds, log, next, 2, up⟩ = false) := by show _ = _; rw [HF.out, ho]; rfl
      go_wp2_with fail
      go_ret
      exact ⟨ret_bool2 HG.out.symm, G3⟩
    have hr0 := HOrow.out ho
    have hP : onlyP next = oneP next := by unfold onlyP; rw [ho]; rfl
    rw [hP] at q0
    cases hrow : decide ((oneP next).row < rowsZ ds)
    · have HG : Hid (fitZ ⟨ds, log, next, 2, up⟩ = false) := by show _ = _; rw [HF.out, ho, hrow]; rfl
      have hz : hasZ ds (oneP next).row = false := by simp only [decide_eq_false_iff_not] at hrow; simp only [hasZ, decide_eq_false (show ¬ (0 ≤ (oneP next).row ∧ (oneP next).row < rowsZ ds) from fun x => hrow x.2), Bool.and_false]
      go_wp2_with fail
      go_fit (rowExists_any _ ds (oneP next).row _ (h.kept G3))
      rintro e w4 ⟨rfl, g4⟩
      rw [hz]
      go_wp2_with fail
      go_ret
      exact ⟨ret_bool2 HG.out.symm, gtrans G3 g4⟩
    have hz : hasZ ds (oneP next).row = true := by simp only [decide_eq_true_eq] at hrow; simp only [hasZ, HDk.out, decide_eq_true (show 0 ≤ (oneP next).row ∧ (oneP next).row < rowsZ ds from ⟨hr0, hrow⟩), Bool.and_true]
    have HG : Hid (fitZ ⟨ds, log, next, 2, up⟩ = (log == next)) := by show _ = _; rw [HF.out, ho, hrow]; simp
    go_wp2_with fail
    go_fit (rowExists_any _ ds (oneP next).row _ (h.kept G3))
    rintro e w4 ⟨rfl, g4⟩
    rw [hz]
    have c1' := gkc g4 c1
    clear c0 c1 c2 c3 c4
    go_wp2_with fail
    go_ret
    exact ⟨ret_bool2 HG.out.symm, gtrans G3 g4⟩
  · go_wp2_with fail
    go_fit (onlyPatch_any next _ hn (ht.kept G0) (hV.kept G0))
    rintro e w2 ⟨dv, vv, rfl, id, iv, -, g2⟩
    obtain ⟨da, dm, dc, rfl⟩ := id.sl
    obtain ⟨ea, em, ec, rfl⟩ := iv.sl
    have e3 := galloc (grefl w2) (.cells #[.int .i64 (onlyP next).row, .slice da dm dc, .slice ea em ec] 97)
    have G3 := gtrans (gtrans G0 g2) e3
    obtain ⟨q0, -, -⟩ := Box3.new w2 (.int .i64 (onlyP next).row) (.slice da dm dc) (.slice ea em ec) 97
    obtain ⟨c0, c1, c2, c3, c4⟩ := HB0.out.kept (gtrans g2 e3)
    clear p0 p1 p2 p3 p4 HB0 G0 g2 e3 id iv ht hV
    go_upto_region 11 with (fail)
    generalize w2.alloc (.cells #[.int .i64 (onlyP next).row, .slice da dm dc, .slice ea em ec] 97) = W3 at *
    cases ho : oneOk next
    · have HG : Hid (fitZ ⟨ds, log, next, 3, up⟩ = false) := by show _ = _; rw [HF.out, ho]; rfl
      go_wp2_with fail
      go_ret
      exact ⟨ret_bool2 HG.out.symm, G3⟩
    have hr0 := HOrow.out ho
    have hP : onlyP next = oneP next := by unfold onlyP; rw [ho]; rfl
    rw [hP] at q0
    cases hrow : decide ((oneP next).row < rowsZ ds)
    · have HG : Hid (fitZ ⟨ds, log, next, 3, up⟩ = false) := by show _ = _; rw [HF.out, ho, hrow]; rfl
      have hz : hasZ ds (oneP next).row = false := by simp only [decide_eq_false_iff_not] at hrow; simp only [hasZ, decide_eq_false (show ¬ (0 ≤ (oneP next).row ∧ (oneP next).row < rowsZ ds) from fun x => hrow x.2), Bool.and_false]
      go_wp2_with fail
      go_fit (rowExists_any _ ds (oneP next).row _ (h.kept G3))
      rintro e w4 ⟨rfl, g4⟩
      rw [hz]
      go_wp2_with fail
      go_ret
      exact ⟨ret_bool2 HG.out.symm, gtrans G3 g4⟩
    have hz : hasZ ds (oneP next).row = true := by simp only [decide_eq_true_eq] at hrow; simp only [hasZ, HDk.out, decide_eq_true (show 0 ≤ (oneP next).row ∧ (oneP next).row < rowsZ ds from ⟨hr0, hrow⟩), Bool.and_true]
    have HG : Hid (fitZ ⟨ds, log, next, 3, up⟩ = (log == next)) := by show _ = _; rw [HF.out, ho, hrow]; simp
    go_wp2_with fail
    go_fit (rowExists_any _ ds (oneP next).row _ (h.kept G3))
    rintro e w4 ⟨rfl, g4⟩
    rw [hz]
    have c1' := gkc g4 c1
    clear c0 c1 c2 c3 c4
    go_wp2_with fail
    go_ret
    exact ⟨ret_bool2 HG.out.symm, gtrans G3 g4⟩
  · go_wp2_with fail
    go_fit (onlyPatch_any next _ hn (ht.kept G0) (hV.kept G0))
    rintro e w2 ⟨dv, vv, rfl, id, iv, -, g2⟩
    obtain ⟨da, dm, dc, rfl⟩ := id.sl
    obtain ⟨ea, em, ec, rfl⟩ := iv.sl
    have e3 := galloc (grefl w2) (.cells #[.int .i64 (onlyP next).row, .slice da dm dc, .slice ea em ec] 97)
    have G3 := gtrans (gtrans G0 g2) e3
    obtain ⟨q0, -, -⟩ := Box3.new w2 (.int .i64 (onlyP next).row) (.slice da dm dc) (.slice ea em ec) 97
    obtain ⟨c0, c1, c2, c3, c4⟩ := HB0.out.kept (gtrans g2 e3)
    clear p0 p1 p2 p3 p4 HB0 G0 g2 e3 id iv ht hV
    go_upto_region 11 with (fail)
    generalize w2.alloc (.cells #[.int .i64 (onlyP next).row, .slice da dm dc, .slice ea em ec] 97) = W3 at *
    cases ho : oneOk next
    · have HG : Hid (fitZ ⟨ds, log, next, 4, up⟩ = false) := by show _ = _; rw [HF.out, ho]; rfl
      go_wp2_with fail
      go_ret
      exact ⟨ret_bool2 HG.out.symm, G3⟩
    have hr0 := HOrow.out ho
    have hP : onlyP next = oneP next := by unfold onlyP; rw [ho]; rfl
    rw [hP] at q0
    cases hrow : decide ((oneP next).row < rowsZ ds)
    · have HG : Hid (fitZ ⟨ds, log, next, 4, up⟩ = false) := by show _ = _; rw [HF.out, ho, hrow]; rfl
      have hz : hasZ ds (oneP next).row = false := by simp only [decide_eq_false_iff_not] at hrow; simp only [hasZ, decide_eq_false (show ¬ (0 ≤ (oneP next).row ∧ (oneP next).row < rowsZ ds) from fun x => hrow x.2), Bool.and_false]
      go_wp2_with fail
      go_fit (rowExists_any _ ds (oneP next).row _ (h.kept G3))
      rintro e w4 ⟨rfl, g4⟩
      rw [hz]
      go_wp2_with fail
      go_ret
      exact ⟨ret_bool2 HG.out.symm, gtrans G3 g4⟩
    have hz : hasZ ds (oneP next).row = true := by simp only [decide_eq_true_eq] at hrow; simp only [hasZ, HDk.out, decide_eq_true (show 0 ≤ (oneP next).row ∧ (oneP next).row < rowsZ ds from ⟨hr0, hrow⟩), Bool.and_true]
    have HG : Hid (fitZ ⟨ds, log, next, 4, up⟩ = (log == next)) := by show _ = _; rw [HF.out, ho, hrow]; simp
    go_wp2_with fail
    go_fit (rowExists_any _ ds (oneP next).row _ (h.kept G3))
    rintro e w4 ⟨rfl, g4⟩
    rw [hz]
    have c1' := gkc g4 c1
    clear c0 c1 c2 c3 c4
    go_wp2_with fail
    go_ret
    exact ⟨ret_bool2 HG.out.symm, gtrans G3 g4⟩
set_option maxRecDepth 8000 in
set_option maxHeartbeats 4000000 in
theorem implArrayOk_any (v : Value) (a : AZ) (w : World) (h : LD w v a.ds) (ht : Pow10 w) (hV : LibV w) :
    Calls Tryz.prog 24 #[a.val v] w (Pure (.bool a.ok) w) := by
  obtain ⟨ds, log, next, stage, up⟩ := a
  dsimp only at *
  obtain ⟨x, cap, rfl, hm⟩ := h.form
  have B0 := Box5.new w (.slice x ds.length cap) (.string (str log)) (.string (str next)) (.int .i64 stage) (.bool up) 26
  have G0 := galloc (grefl w) (.cells #[.slice x ds.length cap, .string (str log), .string (str next), .int .i64 stage, .bool up] 26)
  go_enter Tryz.func24, Tryz.ntmps24
  go_upto_region 1 with (fail)
  generalize w.alloc (.cells #[.slice x ds.length cap, .string (str log), .string (str next), .int .i64 stage, .bool up] 26) = W0 at *
  have HB0 := Lib.hid B0
  obtain ⟨p0, p1, p2, p3, p4⟩ := B0
  cases hdk : disksOkZ ds
  · have HE : Hid (AZ.ok ⟨ds, log, next, stage, up⟩ = false) := by show _ = _; simp [AZ.ok, hdk]
    go_wp2_with fail
    go_fit (implDisksOk_any _ ds _ (h.kept G0))
    rintro e w1 ⟨rfl, g1⟩
    rw [hdk]
    go_wp2_with fail
    go_ret
    exact ⟨ret_bool2 HE.out.symm, gtrans G0 g1⟩
  by_cases hlg : (2000 : Int) < log.length
  · have HE : Hid (AZ.ok ⟨ds, log, next, stage, up⟩ = false) := by show _ = _; simp only [AZ.ok, decide_eq_false (show ¬ (log.length ≤ 2000) by omega)]; simp
    go_wp2_with fail
    go_fit (implDisksOk_any _ ds _ (h.kept G0))
    rintro e w1 ⟨rfl, g1⟩
    rw [hdk]
    have c1 := gkc g1 p1
    go_wp2_with fail
    go_ret
    exact ⟨ret_bool2 HE.out.symm, gtrans G0 g1⟩
  by_cases hnx : (2000 : Int) < next.length
  · have HE : Hid (AZ.ok ⟨ds, log, next, stage, up⟩ = false) := by show _ = _; simp only [AZ.ok, decide_eq_false (show ¬ (next.length ≤ 2000) by omega)]; simp
    go_wp2_with fail
    go_fit (implDisksOk_any _ ds _ (h.kept G0))
    rintro e w1 ⟨rfl, g1⟩
    rw [hdk]
    have c1 := gkc g1 p1
    have c2 := gkc g1 p2
    go_wp2_with fail
    go_ret
    exact ⟨ret_bool2 HE.out.symm, gtrans G0 g1⟩
  have HE : Hid (AZ.ok ⟨ds, log, next, stage, up⟩ = (inB stage 0 4 && if up then AZ.textsOk ⟨ds, log, next, stage, up⟩ else next == [] && decide (stage = 0))) := by
    show _ = _; simp only [AZ.ok, hdk, decide_eq_true (show log.length ≤ 2000 by omega), decide_eq_true (show next.length ≤ 2000 by omega), Bool.true_and]
  have hl2 : next.length ≤ 1048576 := by omega
  go_wp2_with fail
  go_fit (implDisksOk_any _ ds _ (h.kept G0))
  rintro e w1 ⟨rfl, g1⟩
  rw [hdk]
  have G1 := gtrans G0 g1
  obtain ⟨c0, c1, c2, c3, c4⟩ := HB0.out.kept g1
  clear p0 p1 p2 p3 p4 G0 g1 HB0
  cases up
  · cases hn0 : (next == ([] : List UInt8))
    · have HF : Hid (AZ.ok ⟨ds, log, next, stage, false⟩ = false) := by show _ = _; rw [HE.out]; simp [hn0]
      go_wp2_with fail
      go_ret
      exact ⟨ret_bool2 HF.out.symm, G1⟩
    · have HF : Hid (AZ.ok ⟨ds, log, next, stage, false⟩ = (stage == 0)) := by
        show _ = _; rw [HE.out]
        by_cases h0 : stage = 0
        · subst h0; simp [hn0, inB]
        · rw [beq_eq_false_iff_ne.2 h0]; simp [h0]
      go_wp2_with fail
      go_ret
      exact ⟨ret_bool2 HF.out.symm, G1⟩
  have HF : Hid (AZ.ok ⟨ds, log, next, stage, true⟩ = fitZ ⟨ds, log, next, stage, true⟩) := by show _ = _; rw [HE.out]; rfl
  go_wp2_with fail
  go_fit (textsFit_any _ ⟨ds, log, next, stage, true⟩ _ (h.kept G1) hdk hl2 (ht.kept G1) (hV.kept G1))
  rintro e w2 ⟨rfl, g2⟩
  generalize fitZ ⟨ds, log, next, stage, true⟩ = F at *
  go_wp2_with fail
  go_ret
  exact ⟨ret_bool2 HF.out.symm, gtrans G1 g2⟩
/-- the two texts of a box -/
abbrev CpS (w : World) (b : Nat) (x1 x2 : Value) : Prop := (w.cell? ⟨b, 1, none⟩ = some x1 ∧ w.frozen? ⟨b, 1, none⟩ = false) ∧ (w.cell? ⟨b, 2, none⟩ = some x2 ∧ w.frozen? ⟨b, 2, none⟩ = false)
section
variable {w w2 : World} {b : Nat} {x1 x2 : Value}
theorem CpS.drew (h : CpS w b x1 x2) : CpS w.drew b x1 x2 := h
theorem CpS.kept (h : CpS w b x1 x2) (k : w.grownBy w2 none) : CpS w2 b x1 x2 := ⟨gk k h.1, gk k h.2⟩
theorem CpS.set1 (h : CpS w b x1 x2) : CpS (w.setCell ⟨b, 1, none⟩ x1) b x1 x2 := ⟨At.same (show At w b 1 x1 from h.1) _, At.other (show At w b 2 x2 from h.2) (by simp) _⟩
theorem CpS.set2 (h : CpS w b x1 x2) : CpS (w.setCell ⟨b, 2, none⟩ x2) b x1 x2 := ⟨At.other (show At w b 1 x1 from h.1) (by simp) _, At.same (show At w b 2 x2 from h.2) _⟩
end
theorem Five.put1 {w : World} {b : Nat} {x0 x1 x2 x3 x4 : Value} (h : Five w b x0 x1 x2 x3 x4) (v : Value) : Five (w.setCell ⟨b, 1, none⟩ v) b x0 v x2 x3 x4 := ⟨h.c0.other (by simp) _, h.c1.same _, h.c2.other (by simp) _, h.c3.other (by simp) _, h.c4.other (by simp) _⟩
theorem Five.put2 {w : World} {b : Nat} {x0 x1 x2 x3 x4 : Value} (h : Five w b x0 x1 x2 x3 x4) (v : Value) : Five (w.setCell ⟨b, 2, none⟩ v) b x0 x1 v x3 x4 := ⟨h.c0.other (by simp) _, h.c1.other (by simp) _, h.c2.same _, h.c3.other (by simp) _, h.c4.other (by simp) _⟩
set_option maxRecDepth 8000 in
set_option maxHeartbeats 4000000 in
theorem copiedArray_any (v : Value) (a : AZ) (w : World) (h : LD w v a.ds) (hl : a.ds.length ≤ 1000) (hd : ∀ i (h : i < a.ds.length), a.ds[i].k.length ≤ 1000 ∧ a.ds[i].m.length ≤ 1000) (hlog : a.log.length ≤ 2000) (hnext : a.next.length ≤ 2000) :
    Calls Tryz.prog 67 #[a.val v] w (GotA a w) := by
  obtain ⟨ds, log, next, stage, up⟩ := a
  dsimp only at *
  obtain ⟨x, cap, rfl, hm⟩ := h.form
  obtain ⟨B0, Z0, G0, s0⟩ := two_five w (.slice x ds.length cap) (.string (str log)) (.string (str next)) (.int .i64 stage) (.bool up) 26
  go_enter Tryz.func67, Tryz.ntmps67
  go_upto_region 1 with (fail)
  generalize (w.alloc (.cells #[.slice x ds.length cap, .string (str log), .string (str next), .int .i64 stage, .bool up] 26)).alloc zero5 = W0 at *
  obtain ⟨p0, q0⟩ := B0.c0
  go_wp2_with fail
  go_fit (copiedDisks_any _ ds _ (h.kept G0) hl hd)
  rintro e w1 ⟨v1, raw1, rfl, o1, g1⟩
  obtain ⟨va, vn, vc, rfl⟩ := o1.own.sl
  have hs1 := g1.size
  obtain ⟨r0, t0⟩ := (B0.kept g1).c0
  have hno := o1.not_old (r := w.heap.size) (by omega)
  have B2 := (B0.kept g1).put0 (.slice va vn vc)
  have Z2 := ((Z0.kept g1 (by simp)).far (c := w.heap.size) (o := 0) (by omega) (.slice va vn vc))
  have O2 := o1.far (o := 0) hno.1 hno.2 (.slice va vn vc)
  have G2 : w.grownBy (w1.setCell ⟨w.heap.size, 0, none⟩ (.slice va vn vc)) none := gset1 (gtrans G0 g1) (Nat.le_refl _) _ _
  have hs2 : (w1.setCell ⟨w.heap.size, 0, none⟩ (.slice va vn vc)).heap.size = w1.heap.size := by simp [World.setCell]
  clear p0 q0 B0 Z0 o1
  go_upto_region 2 with (fail)
  generalize w1.setCell ⟨w.heap.size, 0, none⟩ (.slice va vn vc) = W2 at *
  have S0 : CpS W2 w.heap.size (.string (str log)) (.string (str next)) := ⟨B2.c1, B2.c2⟩
  clear r0 t0
  go_region_held3 (fun w' => CpS w' w.heap.size (.string (str log)) (.string (str next))) (first | assumption | exact S0.drew | exact CpS.kept ‹CpS _ w.heap.size _ _› ‹World.grownBy _ _ none› | exact CpS.set1 ‹CpS _ w.heap.size _ _› | exact CpS.set2 ‹CpS _ w.heap.size _ _›) (first | (go_at_call 122; go_fit (clone_any log _ (by omega)); rintro e w8 ⟨rfl, g8⟩) | (go_at_call 122; go_fit (clone_any next _ (by omega)); rintro e w9 ⟨rfl, g9⟩))
  have g28 : W2.grownBy w9 none := gtrans (gtrans (gdrew (grefl W2) 1) g8) g9
  have hs9 := g28.size
  have B9 := ((B2.kept g28).put1 (.string (str log))).put2 (.string (str next))
  have Z9 := (((Z2.kept g28 (by simp)).far (c := w.heap.size) (o := 1) (by omega) (.string (str log))).far (c := w.heap.size) (o := 2) (by omega) (.string (str next)))
  have O9 := ((O2.grew g28).far (o := 1) hno.1 hno.2 (.string (str log))).far (o := 2) hno.1 hno.2 (.string (str next))
  have G9 := gset1 (gset1 (gtrans G2 g28) (Nat.le_refl _) 1 (.string (str log))) (Nat.le_refl _) 2 (.string (str next))
  have hsz : ((w9.setCell ⟨w.heap.size, 1, none⟩ (.string (str log))).setCell ⟨w.heap.size, 2, none⟩ (.string (str next))).heap.size = w9.heap.size := by simp [World.setCell]
  generalize (w9.setCell ⟨w.heap.size, 1, none⟩ (.string (str log))).setCell ⟨w.heap.size, 2, none⟩ (.string (str next)) = W9 at *
  obtain ⟨⟨b0, -⟩, ⟨b1, -⟩, ⟨b2, -⟩, ⟨b3, -⟩, ⟨b4, -⟩⟩ := B9
  obtain ⟨⟨z0, y0⟩, ⟨z1, y1⟩, ⟨z2, y2⟩, ⟨z3, y3⟩, ⟨z4, y4⟩⟩ := Z9
  have hR := res5l O9 (r := w.heap.size + 1) (by omega) (by omega) G9 (.slice va vn vc) (.string (str log)) (.string (str next)) (.int .i64 stage) (.bool up)
  clear B2 Z2 O2 S0 g8 g9
  go_wp2_with fail
  exact bodyPost_ret (v := .agg #[.slice va vn vc, .string (str log), .string (str next), .int .i64 stage, .bool up]) (by simp [results, Tryz.results67, go_sem, z0, z1, z2, z3, z4]) rfl ⟨_, raw1, rfl, hR.1, hR.2⟩
end Go.Proofs.YteialkknddpbjaaGreatDoor
namespace Go.Proofs.YteialkknddpbjaaGreatDoor
open Go.ChangeShapes Go.WideShapes Go.ChangeAt Go.RowKit
attribute [local go_sem] str_list str_size str_add lit_list0 add_lit lit_add str_cut

theorem ABox.put {w w' : World} {b B B' : Nat} {a a' : AZ} {v v' : Value} {raw raw' : List DV} (h : ABox w b B a v raw) (g : w.grownBy w' none) (hd : OD w' B' v' a'.ds raw') (hb : b < B') (hB : B ≤ B') :
    ABox (set5 w' b v' (.string (str a'.log)) (.string (str a'.next)) (.int .i64 a'.stage) (.bool a'.up)) b B a' v' raw' := by
  obtain ⟨n1, n2⟩ := hd.not_old hb
  have h0 := gk g h.c0
  have h1 := gk g h.c1
  have h2 := gk g h.c2
  have h3 := gk g h.c3
  have h4 := gk g h.c4
  unfold set5
  exact ⟨((((h0.same _).other (by simp) _).other (by simp) _).other (by simp) _).other (by simp) _,
    ((((h1.other (by simp) _).same _).other (by simp) _).other (by simp) _).other (by simp) _,
    ((((h2.other (by simp) _).other (by simp) _).same _).other (by simp) _).other (by simp) _,
    ((((h3.other (by simp) _).other (by simp) _).other (by simp) _).same _).other (by simp) _,
    ((((h4.other (by simp) _).other (by simp) _).other (by simp) _).other (by simp) _).same _,
    (hd.set5 n1 n2 _ _ _ _ _).lower hB, n1, n2⟩
theorem gset5b {a w : World} {r : Nat} (h : a.grownBy w (some r)) (x0 x1 x2 x3 x4 : Value) : a.grownBy (set5 w r x0 x1 x2 x3 x4) (some r) := gset (gset (gset (gset (gset h _ _) _ _) _ _) _ _) _ _
end Go.Proofs.YteialkknddpbjaaGreatDoor
