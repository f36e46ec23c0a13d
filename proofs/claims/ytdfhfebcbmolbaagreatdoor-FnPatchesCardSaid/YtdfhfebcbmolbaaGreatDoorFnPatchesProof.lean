/-
  Proved: for every input the law FnPatches returns true and leaves its arguments as they were, where the listed variables of the library read as its text lays them (the card ties that to the text).
-/
import Derived.Test.YtdfhfebcbmolbaaGreatDoorRows
import Derived.Test.YtdfhfebcbmolbaaGreatDoorCards
import Derived.Test.YtdfhfebcbmolbaaGreatDoorTie
import Derived.SevenTiedAt
import Derived.WalkKit
import Derived.ProofKit
import Derived.LaidMore
import Derived.OpenShut
import Derived.Stop.Joined
import Derived.ShutString
import Derived.ChangeOld
import Derived.Below
import Derived.Carry
import Derived.Test.YtdfhfebcbmolbaaGreatDoorDoorB
import Derived.Test.YtdfhfebcbmolbaaGreatDoorDrawP2
import Derived.Test.YtdfhfebcbmolbaaGreatDoorImplL07d
import Derived.Test.YtdfhfebcbmolbaaGreatDoorImplL07f
import Derived.Test.YtdfhfebcbmolbaaGreatDoorLawA
import Derived.Test.YtdfhfebcbmolbaaGreatDoorLawL08b
import Derived.Test.YtdfhfebcbmolbaaGreatDoorMathL08
import Derived.Test.YtdfhfebcbmolbaaGreatDoorDoorB
import Derived.Deep.RegionHeld3
import Derived.Deep.DeepCutAuto
import Derived.Stop.LaidErr
import Derived.Shelf.Vars
namespace Go.Proofs.YtdfhfebcbmolbaaGreatDoor.fnPatches
open Go.ChangeShapes Go.WideShapes Go.ChangeAt Go.RowKit
set_option linter.unusedVariables false

theorem own : ownKnob Tryz.prog.godebug = none := by kernel_rfl
theorem laidOut : laidOutB Tryz.prog = true := by kernel_rfl
def laidL : List (String × DataW Unit) := [("math/bits.deBruijn32tab", Rows.laid_math_bits_deBruijn32tab), ("math/bits.deBruijn64tab", Rows.laid_math_bits_deBruijn64tab), ("internal/strconv.uint64pow10", Rows.laid_internal_strconv_uint64pow10), ("unicode/utf8.acceptRanges", Rows.laid_unicode_utf8_acceptRanges), ("strconv.ErrRange", Rows.laid_strconv_ErrRange), ("strconv.ErrSyntax", Rows.laid_strconv_ErrSyntax), ("unicode/utf8.first", Rows.laid_unicode_utf8_first)]
noncomputable def startW (os : Os) : World := { World.doorLaid Tryz.prog 400 os with heap := (World.doorLaid Tryz.prog 400 os).heap.modify 6 fun | .cells _ t frozen => .cells (Go.Pinned.utf8FirstZ.map fun z : Nat => Value.int .u8 (z : Int)).toArray t frozen | o => o }
theorem door_met (os : Os) (args : Array Value) : laidMetH Tryz.prog laidL ((startW os).forCall (fun _ _ => 0) ⟨#[], args, []⟩).memory :=
  laidMetH_of_parts3 (fuel := 8) (laidMet_of_run' 8 (by kernel_rfl) (by kernel_rfl)) (by kernel_rfl) (by kernel_rfl)
theorem plainL {w : World} (h : laidMetH Tryz.prog laidL w) : laidMet Tryz.prog laidL w := by
  rw [MakeChecks.laidMetH_plain _ _ _ (by kernel_rfl)] at h
  exact h
theorem pow_of {w : World} (h : laidMet Tryz.prog laidL w) : Pow10 w :=
  Lib.tabIs_of_head (g := 0) (t := 205) (e := 179) (n := 20) (by kernel_rfl) (by kernel_rfl) Tryz.underlying205 Tryz.underlying179 (by kernel_rfl) (by kernel_rfl) (laidMet.tail (laidMet.tail h))
theorem star : "*" ++ "errors.errorString" = "*errors.errorString" := by decide
theorem row_err (u : TypeId) (h : Tryz.prog.typeName? 3 u = some "*errors.errorString") : u = 237 :=
  typeName_ptr_named (nm := "errors.errorString") (by rw [star]; kernel_rfl) (by kernel_rfl) (by decide) u (by rw [star]; exact h)
theorem lib_of {w : World} (h : laidMet Tryz.prog laidL w) (hS : w.ShapedOpen Tryz.prog) : LibV w := by
  have h4 := laidMet.tail (laidMet.tail (laidMet.tail (laidMet.tail h)))
  obtain ⟨a1, s1, v1, -, -, -⟩ := laid_sentinel h4 (g := 3) (ti := 141) (tp := 237) (te := 239) (ts := 9) (by kernel_rfl) (by kernel_rfl) Tryz.underlying141 row_err Tryz.underlying237 Tryz.underlying239 rfl rfl Tryz.underlying9 (by kernel_rfl) (by kernel_rfl)
  obtain ⟨a2, s2, v2, -, -, -⟩ := laid_sentinel (laidMet.tail h4) (g := 2) (ti := 141) (tp := 237) (te := 239) (ts := 9) (by kernel_rfl) (by kernel_rfl) Tryz.underlying141 row_err Tryz.underlying237 Tryz.underlying239 rfl rfl Tryz.underlying9 (by kernel_rfl) (by kernel_rfl)
  exact ⟨⟨_, _, v2⟩, ⟨_, _, v1⟩, cell_of_shapedOpen_int (P := Tryz.prog) (g := 1) (t := 3) (zero := #[.int .i64 0]) hS (of_decide_eq_true (by kernel_rfl)) (by kernel_rfl) rfl (by kernel_rfl) (by kernel_rfl) Tryz.underlying3⟩
theorem read_show {t : List UInt8} (h : readPok t = true) : showZ (readPZ t) = t := by
  have h' := h
  simp only [readPok, Bool.and_eq_true] at h'
  rw [readPZ_yes h, showZ_yes h'.2.2, read_text h]
theorem show_back {p : PZ} (h : p.ok = true) : readPok (showZ p) = true ∧ readPZ (showZ p) = p ∧ (showZ p).isEmpty = false := by
  obtain ⟨h1, h2⟩ := text_read h
  rw [showZ_yes h]
  refine ⟨h1, by rw [readPZ_yes h1, h2], ?_⟩
  cases ht : p.text with
  | nil => rw [ht] at h1; exact absurd h1 (by decide)
  | cons a r => rfl
theorem str_nil : (str []).toList = [] := str_list []
theorem str_some {l : List UInt8} (h : l.isEmpty = false) : ¬ (str l).toList = [] := by
  rw [str_list]; intro e; rw [e] at h; cases h
def ForF (l : List DZ) (q x : Int) (P : PZ) : Prop := ∀ i, ∀ _ : i < P.ds.length, ∃ j : Nat, ∃ hj : j < l.length, P.ds[i] = (j : Int) ∧ l[j].dead = false ∧ ∃ hv : i < P.vs.length, (diskZ l.length q = (j : Int) ∧ P.vs[i] = x ∨ ((j : Int) == diskZ l.length q) = false ∧ extraZ l.length P.row = (j : Int))
theorem for_facts {l : List DZ} {q x : Int} (h : pfOk l q x = true) : (pfZ l q x).ok = true ∧ (pfZ l q x).row = rowZ l.length q ∧ ForF l q x (pfZ l q x) := by
  have hf : forOk l q x = true := by simp only [pfOk, Bool.and_eq_true] at h; exact h.2
  have hA : forAll l q x = true := by simp only [forOk, Bool.and_eq_true] at hf; exact hf.1
  have e : pfZ l q x = ⟨forRow l q, dsF l (forD l q) (forE l q) l.length, vsF l (forD l q) (forE l q) x (forSum l q x) l.length⟩ := by rw [pf_yes h, (for_yes hA).1]
  refine ⟨by rw [pf_yes h]; exact for_ok hf, by rw [e]; rfl, ?_⟩
  rw [e]
  intro i hi
  simp only [dsF, List.length_map] at hi
  have hm := List.getElem_mem hi
  rw [List.mem_filter, List.mem_range] at hm
  obtain ⟨hj, hp⟩ := hm
  refine ⟨_, hj, by simp [dsF], ?_, by simpa [vsF] using hi, ?_⟩
  · simp only [pickI, Bool.and_eq_true, Bool.not_eq_true'] at hp
    have := hp.1; rwa [getD_at hj] at this
  · simp only [pickI, Bool.and_eq_true, Bool.or_eq_true, beq_iff_eq] at hp
    by_cases hd : (((List.range l.length).filter (pickI l (forD l q) (forE l q)))[i] : Int) = diskZ l.length q
    · left
      refine ⟨hd.symm, ?_⟩
      simp only [vsF, List.getElem_map]
      rw [if_pos (by rw [beq_iff_eq]; exact hd)]
    · right
      refine ⟨beq_eq_false_iff_ne.2 hd, ?_⟩
      rcases hp.2 with h1 | h1
      · exact absurd h1 hd
      · exact h1.symm
/-- what region 11 holds on to -/
abbrev Bx4 (w : World) (b1 : Nat) (x0 x1 x2 : Value) (b2 : Nat) (y0 y1 y2 : Value) (b3 : Nat) (z0 z1 z2 : Value) (b4 : Nat) (u0 u1 u2 : Value) : Prop := Box3 w b1 x0 x1 x2 ∧ Box3 w b2 y0 y1 y2 ∧ Box3 w b3 z0 z1 z2 ∧ Box3 w b4 u0 u1 u2
theorem Bx4.kept {w w2 : World} {b1 : Nat} {x0 x1 x2 : Value} {b2 : Nat} {y0 y1 y2 : Value} {b3 : Nat} {z0 z1 z2 : Value} {b4 : Nat} {u0 u1 u2 : Value} (h : Bx4 w b1 x0 x1 x2 b2 y0 y1 y2 b3 z0 z1 z2 b4 u0 u1 u2) (g : w.grownBy w2 none) : Bx4 w2 b1 x0 x1 x2 b2 y0 y1 y2 b3 z0 z1 z2 b4 u0 u1 u2 := ⟨h.1.kept g, h.2.1.kept g, h.2.2.1.kept g, h.2.2.2.kept g⟩
theorem Bx4.drew {w : World} {b1 : Nat} {x0 x1 x2 : Value} {b2 : Nat} {y0 y1 y2 : Value} {b3 : Nat} {z0 z1 z2 : Value} {b4 : Nat} {u0 u1 u2 : Value} (h : Bx4 w b1 x0 x1 x2 b2 y0 y1 y2 b3 z0 z1 z2 b4 u0 u1 u2) : Bx4 w.drew b1 x0 x1 x2 b2 y0 y1 y2 b3 z0 z1 z2 b4 u0 u1 u2 := h

set_option maxRecDepth 100000 in
set_option maxHeartbeats 4000000 in
theorem walk (w : World) (HL : Hid (laidMet Tryz.prog laidL w)) (hS : w.ShapedOpen Tryz.prog) (a0 : Option Addr) (n0 c0 : Nat) (z0 : List Int) (w0 : IsRow w a0 n0 c0 z0) :
    Calls Tryz.prog 3 #[.slice a0 n0 c0] w fun e w' => e = .returned (.bool true) ∧ Below w.heap.size w w' := by
  have HT := Lib.hid (pow_of HL.out)
  have HV := Lib.hid (lib_of HL.out hS)
  clear HL hS
  by_cases hb : 4096 < n0
  · go_enter Tryz.func3, Tryz.ntmps3
    go_wp2_with fail
    go_fit (big_yes _ _ _ _ hb)
    rintro e w' ⟨rfl, rfl⟩
    go_wp2_with fail
    go_ret
    exact ⟨rfl, Below.refl _ _⟩
  have hR := codeAt_of w0 (by omega)
  clear w0
  go_enter Tryz.func3, Tryz.ntmps3
  go_wp2_with fail
  go_fit (big_no _ _ _ _ (by omega))
  rintro e w' ⟨rfl, rfl⟩
  go_wp2_with fail
  go_fit (drawPatchFor_any _ _ _ _ hR)
  rintro e w1 ⟨l, vl, q, x, rfl, LL, hl5, hq, hx, g1⟩
  obtain ⟨la, lc, rfl, -⟩ := LL.form
  have G1 := g1
  go_wp2_with fail
  go_fit (implPatchFor_any _ l q x _ LL)
  rintro e w2 ⟨dv, vv, rfl, i1, i2, -, g2⟩
  have HF : Hid (pfOk l q x = true → (pfZ l q x).ok = true ∧ (pfZ l q x).row = rowZ l.length q ∧ ForF l q x (pfZ l q x)) := fun e => for_facts e
  have hpl5 := (pf_len (n := 5) hl5 q x).1
  have HF0 : Hid (pfOk l q x = false → pfZ l q x = .zero) := fun e => pf_no e
  have CSp := fun (W : World) (v : Value) (h : LD W v l) => specPatchFor_any v l q x W h
  generalize pfZ l q x = zP at *
  generalize pfOk l q x = ok at *
  clear hq hx
  replace LL := LL.kept g2
  have G2 := gtrans G1 g2
  clear G1
  clear g2
  have DP := Own.rd i1
  have VP := Own.rd i2
  obtain ⟨Pda, Pdc, rfl, -⟩ := DP.form
  obtain ⟨Pva, Pvc, rfl, -⟩ := VP.form
  have eP := galloc (grefl w2) (.cells #[.int .i64 zP.row, .slice Pda zP.ds.length Pdc, .slice Pva zP.vs.length Pvc] 29)
  have BP := Box3.new w2 (.int .i64 zP.row) (.slice Pda zP.ds.length Pdc) (.slice Pva zP.vs.length Pvc) 29
  replace LL := LL.kept eP
  replace DP := DP.kept eP
  replace VP := VP.kept eP
  have G3 := gtrans G2 eP
  clear G2
  clear eP
  go_upto_region 5 with (fail)
  generalize w2.alloc (.cells #[.int .i64 zP.row, .slice Pda zP.ds.length Pdc, .slice Pva zP.vs.length Pvc] 29) = WP at *
  generalize w2.heap.size = bP at *
  clear i1 i2
  go_wp2_with fail
  go_fit (drawShowPatch_any _ _ _ _ (hR.kept (gbelow G3)))
  rintro e w3 ⟨zQ, dv, vv, rfl, j1, j2, lq1, lq2, g3⟩
  replace LL := LL.kept g3
  replace DP := DP.kept g3
  replace VP := VP.kept g3
  replace BP := BP.kept g3
  have G4 := gtrans G3 g3
  clear G3
  clear g3
  have DQ := Own.rd j1
  have VQ := Own.rd j2
  obtain ⟨Qda, Qdc, rfl, -⟩ := DQ.form
  obtain ⟨Qva, Qvc, rfl, -⟩ := VQ.form
  have eQ := galloc (grefl w3) (.cells #[.int .i64 zQ.row, .slice Qda zQ.ds.length Qdc, .slice Qva zQ.vs.length Qvc] 29)
  have BQ := Box3.new w3 (.int .i64 zQ.row) (.slice Qda zQ.ds.length Qdc) (.slice Qva zQ.vs.length Qvc) 29
  replace LL := LL.kept eQ
  replace DP := DP.kept eQ
  replace VP := VP.kept eQ
  replace BP := BP.kept eQ
  replace DQ := DQ.kept eQ
  replace VQ := VQ.kept eQ
  have G5 := gtrans G4 eQ
  clear G4
  clear eQ
  go_upto_region 6 with (fail)
  generalize w3.alloc (.cells #[.int .i64 zQ.row, .slice Qda zQ.ds.length Qdc, .slice Qva zQ.vs.length Qvc] 29) = WQ at *
  generalize w3.heap.size = bQ at *
  clear j1 j2
  obtain ⟨q00, q01, q02⟩ := BQ
  go_wp2_with fail
  go_fit (implShowPatch_any zQ _ _ _ DQ VQ (HT.out.kept G5))
  rintro e w4 ⟨rfl, g4⟩
  replace BQ : Box3 _ bQ (.int .i64 zQ.row) (.slice Qda zQ.ds.length Qdc) (.slice Qva zQ.vs.length Qvc) := ⟨q00, q01, q02⟩
  clear q00 q01 q02
  replace LL := LL.kept g4
  replace DP := DP.kept g4
  replace VP := VP.kept g4
  replace BP := BP.kept g4
  replace DQ := DQ.kept g4
  replace VQ := VQ.kept g4
  replace BQ := BQ.kept g4
  have G6 := gtrans G5 g4
  clear G5
  clear g4
  have HQy : Hid (zQ.ok = true → readPok (showZ zQ) = true ∧ readPZ (showZ zQ) = zQ ∧ (showZ zQ).isEmpty = false) := fun e => show_back e
  have HQn : Hid (zQ.ok = false → showZ zQ = []) := fun e => showZ_no e
  have hsl := showZ_len zQ
  have CSh := fun (W : World) (dv vv : Value) (h1 : IR W dv zQ.ds) (h2 : IR W vv zQ.vs) => specShowPatch_any zQ dv vv W h1 h2
  generalize showZ zQ = sq at *
  go_wp2_with fail
  go_fit (drawReadPatch_any _ _ _ _ (hR.kept (gbelow G6)))
  rintro e w5 ⟨t, rfl, htl, g5⟩
  replace LL := LL.kept g5
  replace DP := DP.kept g5
  replace VP := VP.kept g5
  replace BP := BP.kept g5
  replace DQ := DQ.kept g5
  replace VQ := VQ.kept g5
  replace BQ := BQ.kept g5
  have G7 := gtrans G6 g5
  clear G6
  clear g5
  go_wp2_with fail
  go_fit (implReadPatch_any t _ (by omega) (HT.out.kept G7) (HV.out.kept G7))
  rintro e w6 ⟨dv, vv, rfl, i1, i2, -, g6⟩
  have HRd : Hid (readPok t = true → showZ (readPZ t) = t) := fun e => read_show e
  have CSr := fun (W : World) => specReadPatch_any t W (by omega)
  generalize readPZ t = zR at *
  generalize readPok t = okR at *
  replace LL := LL.kept g6
  replace DP := DP.kept g6
  replace VP := VP.kept g6
  replace BP := BP.kept g6
  replace DQ := DQ.kept g6
  replace VQ := VQ.kept g6
  replace BQ := BQ.kept g6
  have G8 := gtrans G7 g6
  clear G7
  clear g6
  have DR := Own.rd i1
  have VR := Own.rd i2
  obtain ⟨Rda, Rdc, rfl, -⟩ := DR.form
  obtain ⟨Rva, Rvc, rfl, -⟩ := VR.form
  have eR := galloc (grefl w6) (.cells #[.int .i64 zR.row, .slice Rda zR.ds.length Rdc, .slice Rva zR.vs.length Rvc] 29)
  have BR := Box3.new w6 (.int .i64 zR.row) (.slice Rda zR.ds.length Rdc) (.slice Rva zR.vs.length Rvc) 29
  replace LL := LL.kept eR
  replace DP := DP.kept eR
  replace VP := VP.kept eR
  replace BP := BP.kept eR
  replace DQ := DQ.kept eR
  replace VQ := VQ.kept eR
  replace BQ := BQ.kept eR
  replace DR := DR.kept eR
  replace VR := VR.kept eR
  have G9 := gtrans G8 eR
  clear G8
  clear eR
  go_upto_region 9 with (fail)
  generalize w6.alloc (.cells #[.int .i64 zR.row, .slice Rda zR.ds.length Rdc, .slice Rva zR.vs.length Rvc] 29) = WR at *
  generalize w6.heap.size = bR at *
  clear i1 i2
  go_wp2_with fail
  go_fit (drawPatched_any _ _ _ _ (hR.kept (gbelow G9)))
  rintro e w7 ⟨d, vd, zE, dv, vv, rfl, LM, hd5, k1, k2, le1, le2, g7⟩
  obtain ⟨ma, mc, rfl, -⟩ := LM.form
  replace LL := LL.kept g7
  replace DP := DP.kept g7
  replace VP := VP.kept g7
  replace BP := BP.kept g7
  replace DQ := DQ.kept g7
  replace VQ := VQ.kept g7
  replace BQ := BQ.kept g7
  replace DR := DR.kept g7
  replace VR := VR.kept g7
  replace BR := BR.kept g7
  have G10 := gtrans G9 g7
  clear G9
  clear g7
  have ob1 := fun k hk => (k1.lt k hk).2
  have ob2 := fun k hk => (k2.lt k hk).2
  have DE := Own.rd k1
  have VE := Own.rd k2
  obtain ⟨Eda, Edc, rfl, -⟩ := DE.form
  obtain ⟨Eva, Evc, rfl, -⟩ := VE.form
  have eE := galloc (grefl w7) (.cells #[.int .i64 zE.row, .slice Eda zE.ds.length Edc, .slice Eva zE.vs.length Evc] 29)
  have BE := Box3.new w7 (.int .i64 zE.row) (.slice Eda zE.ds.length Edc) (.slice Eva zE.vs.length Evc) 29
  replace LL := LL.kept eE
  replace DP := DP.kept eE
  replace VP := VP.kept eE
  replace BP := BP.kept eE
  replace DQ := DQ.kept eE
  replace VQ := VQ.kept eE
  replace BQ := BQ.kept eE
  replace DR := DR.kept eE
  replace VR := VR.kept eE
  replace BR := BR.kept eE
  replace LM := LM.kept eE
  replace DE := DE.kept eE
  replace VE := VE.kept eE
  have G11 := gtrans G10 eE
  clear G10
  clear eE
  go_upto_region 10 with (fail)
  generalize w7.alloc (.cells #[.int .i64 zE.row, .slice Eda zE.ds.length Edc, .slice Eva zE.vs.length Evc] 29) = WE at *
  generalize w7.heap.size = bE at *
  clear k1 k2
  go_wp2_with fail
  go_fit (CSp _ _ LL)
  rintro e w8 ⟨dv, vv, rfl, i1, i2, -, g8⟩
  clear CSp
  replace LL := LL.kept g8
  replace DP := DP.kept g8
  replace VP := VP.kept g8
  replace BP := BP.kept g8
  replace DQ := DQ.kept g8
  replace VQ := VQ.kept g8
  replace BQ := BQ.kept g8
  replace DR := DR.kept g8
  replace VR := VR.kept g8
  replace BR := BR.kept g8
  replace LM := LM.kept g8
  replace DE := DE.kept g8
  replace VE := VE.kept g8
  replace BE := BE.kept g8
  have G12 := gtrans G11 g8
  clear G11
  clear g8
  have DX := Own.rd i1
  have VX := Own.rd i2
  obtain ⟨Xda, Xdc, rfl, -⟩ := DX.form
  obtain ⟨Xva, Xvc, rfl, -⟩ := VX.form
  have eX := galloc (grefl w8) (.cells #[.int .i64 zP.row, .slice Xda zP.ds.length Xdc, .slice Xva zP.vs.length Xvc] 29)
  have BX := Box3.new w8 (.int .i64 zP.row) (.slice Xda zP.ds.length Xdc) (.slice Xva zP.vs.length Xvc) 29
  replace LL := LL.kept eX
  replace DP := DP.kept eX
  replace VP := VP.kept eX
  replace BP := BP.kept eX
  replace DQ := DQ.kept eX
  replace VQ := VQ.kept eX
  replace BQ := BQ.kept eX
  replace DR := DR.kept eX
  replace VR := VR.kept eX
  replace BR := BR.kept eX
  replace LM := LM.kept eX
  replace DE := DE.kept eX
  replace VE := VE.kept eX
  replace BE := BE.kept eX
  replace DX := DX.kept eX
  replace VX := VX.kept eX
  have G13 := gtrans G12 eX
  clear G12
  clear eX
  go_upto_region 11 with (fail)
  generalize w8.alloc (.cells #[.int .i64 zP.row, .slice Xda zP.ds.length Xdc, .slice Xva zP.vs.length Xvc] 29) = WX at *
  generalize w8.heap.size = bX at *
  clear i1 i2
  have HTX := Lib.hid (HT.out.kept G13)
  have HO1 : Hid (∀ k, (Value.slice Eda zE.ds.length Edc).ownBlock = some k → k < WX.heap.size) := fun k hk => Nat.lt_trans (ob1 k hk) (cell_lt BE.1)
  have HO2 : Hid (∀ k, (Value.slice Eva zE.vs.length Evc).ownBlock = some k → k < WX.heap.size) := fun k hk => Nat.lt_trans (ob2 k hk) (cell_lt BE.1)
  clear ob1 ob2
  have S0 : Bx4 WX bP (.int .i64 zP.row) (.slice Pda zP.ds.length Pdc) (.slice Pva zP.vs.length Pvc) bX (.int .i64 zP.row) (.slice Xda zP.ds.length Xdc) (.slice Xva zP.vs.length Xvc) bQ (.int .i64 zQ.row) (.slice Qda zQ.ds.length Qdc) (.slice Qva zQ.vs.length Qvc) bE (.int .i64 zE.row) (.slice Eda zE.ds.length Edc) (.slice Eva zE.vs.length Evc) := ⟨BP, BX, BQ, BE⟩
  go_region_held3 (fun w' => Bx4 w' bP (.int .i64 zP.row) (.slice Pda zP.ds.length Pdc) (.slice Pva zP.vs.length Pvc) bX (.int .i64 zP.row) (.slice Xda zP.ds.length Xdc) (.slice Xva zP.vs.length Xvc) bQ (.int .i64 zQ.row) (.slice Qda zQ.ds.length Qdc) (.slice Qva zQ.vs.length Qvc) bE (.int .i64 zE.row) (.slice Eda zE.ds.length Edc) (.slice Eva zE.vs.length Evc)) (first | assumption | exact S0.drew | exact Bx4.kept ‹Bx4 _ bP _ _ _ bX _ _ _ bQ _ _ _ bE _ _ _› ‹World.grownBy _ _ none›) (first | (go_at_call 15; go_fit (likePatch_yes zP _ _ _ _ _ (DP.kept (gdrew (grefl WX) 1)) (VP.kept (gdrew (grefl WX) 1)) (DX.kept (gdrew (grefl WX) 1)) (VX.kept (gdrew (grefl WX) 1))); rintro e w11 ⟨rfl, g11⟩) | (go_at_call 16; go_fit (CSh _ _ _ (DQ.kept (gtrans (gdrew (grefl WX) 1) g11)) (VQ.kept (gtrans (gdrew (grefl WX) 1) g11))); rintro e w12 ⟨rfl, g12⟩) | (go_at_call 17; go_fit (implPatchOk_any zQ _ _ _ (DQ.kept (gtrans (gdrew (grefl WX) 1) (gtrans g11 g12))) (VQ.kept (gtrans (gdrew (grefl WX) 1) (gtrans g11 g12)))); rintro e w13 ⟨rfl, g13⟩) | (go_at_call 18; go_fit (specPatchOk_any zQ _ _ _ (DQ.kept (gtrans (gdrew (grefl WX) 1) (gtrans g11 (gtrans g12 g13)))) (VQ.kept (gtrans (gdrew (grefl WX) 1) (gtrans g11 (gtrans g12 g13))))); rintro e w14 ⟨rfl, g14⟩) | (go_at_call 20; go_fit (implPatched_any _ d zE _ _ _ (LM.kept (gtrans (gdrew (grefl WX) 1) (gtrans g11 (gtrans g12 (gtrans g13 g14))))) (DE.kept (gtrans (gdrew (grefl WX) 1) (gtrans g11 (gtrans g12 (gtrans g13 g14))))) (VE.kept (gtrans (gdrew (grefl WX) 1) (gtrans g11 (gtrans g12 (gtrans g13 g14)))))); rintro e w15 ⟨v15, raw15, rfl, o15, g15⟩; obtain ⟨a15, c15, rfl, -⟩ := o15.form) | (go_at_call 21; go_fit (specPatched_any _ d zE _ _ _ (LM.kept (gtrans (gdrew (grefl WX) 1) (gtrans g11 (gtrans g12 (gtrans g13 (gtrans g14 g15)))))) (DE.kept (gtrans (gdrew (grefl WX) 1) (gtrans g11 (gtrans g12 (gtrans g13 (gtrans g14 g15)))))) (VE.kept (gtrans (gdrew (grefl WX) 1) (gtrans g11 (gtrans g12 (gtrans g13 (gtrans g14 g15)))))) (fun k hk => Nat.lt_of_lt_of_le (HO1.out k hk) (gtrans (gdrew (grefl WX) 1) (gtrans g11 (gtrans g12 (gtrans g13 (gtrans g14 g15))))).size) (fun k hk => Nat.lt_of_lt_of_le (HO2.out k hk) (gtrans (gdrew (grefl WX) 1) (gtrans g11 (gtrans g12 (gtrans g13 (gtrans g14 g15))))).size)); rintro e w16 ⟨v16, raw16, rfl, o16, g16⟩; obtain ⟨a16, c16, rfl, -⟩ := o16.form) | (go_at_call 19; go_fit (likeDisks_yes _ _ (patchedZ d zE) _ (o15.grew g16).ld o16.ld); rintro e w17 ⟨rfl, g17⟩))
  have g18 := gtrans (gdrew (grefl WX) 1) (gtrans g11 (gtrans g12 (gtrans g13 (gtrans g14 (gtrans g15 (gtrans g16 g17))))))
  clear g11 g12 g13 g14 g15 g16 g17 o15 o16 S0 HTX CSh
  clear BX DX VX BE DE VE
  clear LM
  replace LL := LL.kept g18
  replace DP := DP.kept g18
  replace VP := VP.kept g18
  replace BP := BP.kept g18
  replace DQ := DQ.kept g18
  replace VQ := VQ.kept g18
  replace BQ := BQ.kept g18
  replace DR := DR.kept g18
  replace VR := VR.kept g18
  replace BR := BR.kept g18
  have G14 := gtrans G13 g18
  clear G13
  clear g18 HO1 HO2
  go_wp2_with fail
  go_fit (CSr _)
  rintro e w19 ⟨dv, vv, rfl, i1, i2, -, g19⟩
  clear CSr
  replace LL := LL.kept g19
  replace DP := DP.kept g19
  replace VP := VP.kept g19
  replace BP := BP.kept g19
  replace DQ := DQ.kept g19
  replace VQ := VQ.kept g19
  replace BQ := BQ.kept g19
  replace DR := DR.kept g19
  replace VR := VR.kept g19
  replace BR := BR.kept g19
  have G15 := gtrans G14 g19
  clear G14
  clear g19
  have DY := Own.rd i1
  have VY := Own.rd i2
  obtain ⟨Yda, Ydc, rfl, -⟩ := DY.form
  obtain ⟨Yva, Yvc, rfl, -⟩ := VY.form
  have eY := galloc (grefl w19) (.cells #[.int .i64 zR.row, .slice Yda zR.ds.length Ydc, .slice Yva zR.vs.length Yvc] 29)
  have BY := Box3.new w19 (.int .i64 zR.row) (.slice Yda zR.ds.length Ydc) (.slice Yva zR.vs.length Yvc) 29
  replace LL := LL.kept eY
  replace DP := DP.kept eY
  replace VP := VP.kept eY
  replace BP := BP.kept eY
  replace DQ := DQ.kept eY
  replace VQ := VQ.kept eY
  replace BQ := BQ.kept eY
  replace DR := DR.kept eY
  replace VR := VR.kept eY
  replace BR := BR.kept eY
  replace DY := DY.kept eY
  replace VY := VY.kept eY
  have G16 := gtrans G15 eY
  clear G15
  clear eY
  go_upto_region 14 with (fail)
  generalize w19.alloc (.cells #[.int .i64 zR.row, .slice Yda zR.ds.length Ydc, .slice Yva zR.vs.length Yvc] 29) = WY at *
  generalize w19.heap.size = bY at *
  clear i1 i2
  go_cut [116] (fun c wc => c = .bool false ∧ WY.grownBy wc none)
  case first =>
    cases okR
    · have htx := True.intro
      obtain ⟨q00, q01, q02⟩ := BR
      obtain ⟨q10, q11, q12⟩ := BY
      go_wp2_with fail
      go_fit (likePatch_yes zR _ _ _ _ _ DR VR DY VY)
      rintro e w20 ⟨rfl, g20⟩
      replace BR : Box3 _ bR (.int .i64 zR.row) (.slice Rda zR.ds.length Rdc) (.slice Rva zR.vs.length Rvc) := ⟨q00, q01, q02⟩
      clear q00 q01 q02
      replace BY : Box3 _ bY (.int .i64 zR.row) (.slice Yda zR.ds.length Ydc) (.slice Yva zR.vs.length Yvc) := ⟨q10, q11, q12⟩
      clear q10 q11 q12
      go_wp2_with fail
      go_meet
      exact ⟨rfl, g20⟩
    · have HRt := Lib.hid (HRd.out rfl)
      have htx := True.intro
      obtain ⟨q00, q01, q02⟩ := BR
      obtain ⟨q10, q11, q12⟩ := BY
      go_wp2_with fail
      go_fit (likePatch_yes zR _ _ _ _ _ DR VR DY VY)
      rintro e w20 ⟨rfl, g20⟩
      replace BR : Box3 _ bR (.int .i64 zR.row) (.slice Rda zR.ds.length Rdc) (.slice Rva zR.vs.length Rvc) := ⟨q00, q01, q02⟩
      clear q00 q01 q02
      replace BY : Box3 _ bY (.int .i64 zR.row) (.slice Yda zR.ds.length Ydc) (.slice Yva zR.vs.length Yvc) := ⟨q10, q11, q12⟩
      clear q10 q11 q12
      replace BR := BR.kept g20
      obtain ⟨q00, q01, q02⟩ := BR
      go_wp2_with fail
      go_fit (implShowPatch_any zR _ _ _ (DR.kept g20) (VR.kept g20) ((HT.out.kept G16).kept g20))
      rintro e w21 ⟨rfl, g21⟩
      rw [HRt.out]
      go_wp2_with fail
      go_meet
      exact ⟨rfl, gtrans g20 g21⟩
  case rest =>
    obtain ⟨rfl, g22⟩ := hcut
    clear BR DR VR BY DY VY
    replace LL := LL.kept g22
    replace DP := DP.kept g22
    replace VP := VP.kept g22
    replace BP := BP.kept g22
    replace DQ := DQ.kept g22
    replace VQ := VQ.kept g22
    replace BQ := BQ.kept g22
    have G17 := gtrans G16 g22
    clear G16
    clear g22 HRd
    go_wp2_with fail
    go_fit (implReadPatch_any sq _ (by omega) (HT.out.kept G17) (HV.out.kept G17))
    rintro e w23 ⟨dv, vv, rfl, i1, i2, -, g23⟩
    generalize readPZ sq = zW at *
    generalize readPok sq = okW at *
    replace LL := LL.kept g23
    replace DP := DP.kept g23
    replace VP := VP.kept g23
    replace BP := BP.kept g23
    replace DQ := DQ.kept g23
    replace VQ := VQ.kept g23
    replace BQ := BQ.kept g23
    have G18 := gtrans G17 g23
    clear G17
    clear g23
    have DW := Own.rd i1
    have VW := Own.rd i2
    obtain ⟨Wda, Wdc, rfl, -⟩ := DW.form
    obtain ⟨Wva, Wvc, rfl, -⟩ := VW.form
    have eW := galloc (grefl w23) (.cells #[.int .i64 zW.row, .slice Wda zW.ds.length Wdc, .slice Wva zW.vs.length Wvc] 29)
    have BW := Box3.new w23 (.int .i64 zW.row) (.slice Wda zW.ds.length Wdc) (.slice Wva zW.vs.length Wvc) 29
    replace LL := LL.kept eW
    replace DP := DP.kept eW
    replace VP := VP.kept eW
    replace BP := BP.kept eW
    replace DQ := DQ.kept eW
    replace VQ := VQ.kept eW
    replace BQ := BQ.kept eW
    replace DW := DW.kept eW
    replace VW := VW.kept eW
    have G19 := gtrans G18 eW
    clear G18
    clear eW
    go_upto_region 17 with (fail)
    generalize w23.alloc (.cells #[.int .i64 zW.row, .slice Wda zW.ds.length Wdc, .slice Wva zW.vs.length Wvc] 29) = WW at *
    generalize w23.heap.size = bW at *
    clear i1 i2
    go_cut [133] (fun c wc => c = .bool false ∧ WW.grownBy wc none)
    case first =>
      cases hqo : zQ.ok
      · obtain rfl := HQn.out hqo
        have hst : (str []).toList = [] := str_nil
        go_wp2_with fail
        go_meet
        exact ⟨rfl, grefl _⟩
      · obtain ⟨rfl, hzw, hse⟩ := HQy.out hqo
        subst hzw
        have hst : ¬ (str sq).toList = [] := str_some hse
        obtain ⟨q00, q01, q02⟩ := BQ
        obtain ⟨q10, q11, q12⟩ := BW
        go_wp2_with fail
        go_fit (likePatch_yes _ _ _ _ _ _ DW VW DQ VQ)
        rintro e w24 ⟨rfl, g24⟩
        go_wp2_with fail
        go_meet
        exact ⟨rfl, g24⟩
    case rest =>
      obtain ⟨rfl, g25⟩ := hcut
      clear BW DW VW BQ DQ VQ
      replace LL := LL.kept g25
      replace DP := DP.kept g25
      replace VP := VP.kept g25
      replace BP := BP.kept g25
      have G20 := gtrans G19 g25
      clear G19
      clear g25 HQy HQn
      cases ok
      · obtain rfl := HF0.out rfl
        have CZ : ∀ (dv vv : Value) (W : World) (h1 : IR W dv PZ.zero.ds) (h2 : IR W vv PZ.zero.vs), Calls Tryz.prog 15 #[.agg #[.int .i64 PZ.zero.row, dv, vv], .agg #[.int .i64 0, .slice none 0 0, .slice none 0 0]] W (Pure (.bool true) W) := fun dv vv W h1 h2 => likePatch_yes PZ.zero dv vv (.slice none 0 0) (.slice none 0 0) W h1 h2 (Own.rd (Own.nil intE W 0)) (Own.rd (Own.nil intE W 0))
        obtain ⟨q00, q01, q02⟩ := BP
        go_wp2_with fail
        go_fit (CZ _ _ _ DP VP)
        rintro e w26 ⟨rfl, g26⟩
        go_wp2_with fail
        go_ret
        exact ⟨rfl, gbelow (gtrans G20 g26)⟩
      obtain ⟨hpo, hpr, hpf⟩ := HF.out rfl
      have HPo := Lib.hid hpo
      have HPr := Lib.hid hpr
      have HPf := Lib.hid hpf
      clear hpo hpr hpf HF HF0
      have HBP := Lib.hid BP
      clear BP
      obtain ⟨q00, q01, q02⟩ := HBP.out
      have hll : l.length ≤ 9223372036854775807 := by omega
      go_wp2_with fail
      go_loopw [22] (fun i wr => ∃ k : Nat, k ≤ zP.ds.length ∧ i = .int .i64 k ∧ wc.grownBy wr none) (fun i _ => zP.ds.length - (intOf i).toNat)
      case atStart => exact ⟨0, Nat.zero_le _, rfl, grefl _⟩
      case round =>
        obtain ⟨k, hk, rfl, GX⟩ := hrel
        clear q00 q01 q02
        obtain ⟨q00, q01, q02⟩ := HBP.out.kept GX
        by_cases hlt : k < zP.ds.length
        · have hki : (k : Int) < zP.ds.length := by omega
          obtain ⟨j, hj, hdj, hdd, hv, hor⟩ := HPf.out k hlt
          have hji : (j : Int) < l.length := by omega
          have hkv : (k : Int) < zP.vs.length := by omega
          obtain ⟨gd, od, rfl, hdc⟩ := (DP.kept GX).at k hlt
          obtain ⟨gv, ov, rfl, hvc⟩ := (VP.kept GX).at k hv
          rw [hdj] at hdc
          obtain ⟨gl, ol, ka, km, kc, na, nm, nc, rfl, y0, y1, y2, y3, -⟩ := (LL.kept GX).at j hj
          rw [hdd] at y1
          clear y0 y2 y3 hdd hdj
          rcases hor with ⟨hdz, hvx⟩ | ⟨hdn, hex⟩
          · rw [hvx] at hvc
            have HDz := Lib.hid hdz
            clear hdz hvx
            go_wp2_with fail
            go_fit (specDiskOf_any _ _ _)
            rintro e w30 ⟨rfl, g30⟩
            rw [HDz.out]
            replace hvc := gkc g30 hvc
            have HP30 := HBP.out.kept (gtrans GX g30)
            clear q00 q01 q02
            obtain ⟨q00, q01, q02⟩ := HP30
            go_wp2_with fail
            go_fit (specDiskOf_any _ _ _)
            rintro e w31 ⟨rfl, g31⟩
            rw [HDz.out]
            replace hvc := gkc g31 hvc
            clear q00 q01 q02
            obtain ⟨q00, q01, q02⟩ := HBP.out.kept (gtrans (gtrans GX g30) g31)
            go_wp2_with fail
            go_roundw
            case rel => exact ⟨k + 1, by omega, by go_num, gtrans (gtrans GX g30) g31⟩
            case measure => simp [intOf]; omega
          · have hdn2 : ((j : Int) != diskZ l.length q) = true := by rw [bne, hdn]; rfl
            have hdn3 : ¬ (j : Int) = diskZ l.length q := beq_eq_false_iff_ne.1 hdn
            have HEx := Lib.hid hex
            clear hex
            go_wp2_with fail
            go_fit (specDiskOf_any _ _ _)
            rintro e w30 ⟨rfl, g30⟩
            clear q00 q01 q02
            obtain ⟨q00, q01, q02⟩ := HBP.out.kept (gtrans GX g30)
            go_wp2_with fail
            go_fit (specExtraOf_any _ _ _)
            rintro e w' ⟨rfl, rfl⟩
            rw [HEx.out]
            go_wp2_with fail
            go_fit (specDiskOf_any _ _ _)
            rintro e w31 ⟨rfl, g31⟩
            go_wp2_with fail
            go_roundw
            case rel => exact ⟨k + 1, by omega, by go_num, gtrans (gtrans GX g30) g31⟩
            case measure => simp [intOf]; omega
        · have HRw := HPr
          have B3 : Box3 wr bP (.int .i64 zP.row) (.slice Pda zP.ds.length Pdc) (.slice Pva zP.vs.length Pvc) := ⟨q00, q01, q02⟩
          clear q00 q01 q02
          go_wp2_with fail
          refine region_calm (fun w' => Box3 w' bP (.int .i64 zP.row) (.slice Pda zP.ds.length Pdc) (.slice Pva zP.vs.length Pvc) ∧ wr.grownBy w' none) (by kernel_rfl) (by kernel_rfl) (⟨B3, gdrew (grefl _) 1⟩) ?_
          repeat (first
            | (refine calm_skip (by rfl) ?_; simp only [Act.put, List.setIfInBounds_toArray, List.set_cons_zero, List.set_cons_succ])
            | (refine calm_step (by rfl) ?_
               apply Exists.intro
               refine ⟨fun w' hw' => ?_, ?_⟩
               · go_simp
                 first | done | exact rfl | (go_at_call 17; go_fit (implPatchOk_any zP _ _ _ ((DP.kept GX).kept hw'.2) ((VP.kept GX).kept hw'.2)); rintro e w28 ⟨rfl, g28⟩; rw [HPo.out]; exact And.intro rfl (And.intro (Box3.kept hw'.1 g28) (gtrans hw'.2 g28))) | (go_at_call 25; go_fit (specRowOf_any _ _ _); rintro e w' ⟨rfl, rfl⟩; exact And.intro rfl hw')
               simp only [Act.put, List.setIfInBounds_toArray, List.set_cons_zero, List.set_cons_succ]))
          refine calm_nil ?_
          intro w9 hw9
          go_wp2_with fail
          go_ret
          exact ⟨by rw [HPr.out]; simp, gbelow (gtrans G20 (gtrans GX hw9.2))⟩

set_option maxRecDepth 100000 in
theorem lifted (os : Os) (started : os.Started) (H : Type) (enc : TypeId × Value → H) :
    ReturnsInHanded {} Tryz.checked os 3 .any (fun w args => (Rows.fnPatchesSpec.pre enc Tryz.prog Tryz.f3 [] false w args ∧ laidMetH Tryz.prog laidL w) ∧ sizedMet enc Tryz.prog Tryz.f3 (OpenSpec.ofChange Rows.fnPatchesSpec) false w args)
      (Rows.fnPatchesSpec.post enc Tryz.prog Tryz.f3 false true false false) := by
  refine handed_laid_shaped (C := Tryz.checked) (X := fun w _ => laidMetH Tryz.prog laidL w) (fun _ _ _ hh h => h.of_heap hh) own started (by kernel_rfl) Tryz.func3
    (ChangeSpec.witness_shaped (enc := enc) (C := Tryz.checked) (os := os) (X := fun w _ => laidMetH Tryz.prog laidL w) false (startW os) #[.slice none 0 0] 8 rfl (World.shaped_of_RefB (by kernel_rfl) (by kernel_rfl)) (by kernel_rfl) (by kernel_rfl) (by kernel_rfl) (door_met os _)) ?_
  intro W base args ds gs before hval0 hW hL hS
  have hval : ∀ (j : Nat) t v, Tryz.f3.params[j]? = some t → args[j]? = some v → Value.okWide Tryz.prog W .any base t v := hval0
  have hW' := hW
  obtain ⟨p, q, hA0, hV, rfl, hfz, hnd⟩ := hW
  have hA : DataW.TrodAll enc Tryz.prog W 0 (fun _ => true) true Tryz.f3.params.toList args.toList ds p := hA0
  rw [Tryz.params3] at hA hval
  obtain ⟨x0, vs0, d0, ds0, p0, q0, hargs, rfl, rfl, h0, r0⟩ := trodAll_cons hA
  obtain ⟨rfl, rfl, rfl⟩ := trodAll_nil r0
  obtain rfl : args = #[x0] := by cases args; simp_all
  obtain ⟨rfl, rfl⟩ := trodVars_none hV
  have k0 := h0
  have lt0 : ∀ x ∈ p0, x.block < W.heap.size := by obtain ⟨m, hm⟩ := k0; exact DataW.trod_lt m _ _ _ hm
  obtain ⟨a0, n0, c0, z0, rfl, w0⟩ := openCode (hval 0 22 x0 rfl rfl) h0
  clear hA0 hval0
  refine (walk W (plainL hL) hS a0 n0 c0 z0 w0).mono fun e W' ⟨he, bel⟩ => ?_
  subst he
  exact ⟨_, rfl, _, _, _, [], _, [], hW', trodAll_mk1 (shut_bool Tryz.underlying4 _), (trodAll_cons_mk (Below.trod laidOut (by kernel_rfl) (of_decide_eq_true (by kernel_rfl)) k0 bel lt0) trodAll_mk0), rfl, bel.frame _, fun h => by cases h⟩

theorem over1 : (Rows.fnPatchesRow.inPlace == Tryz.pinned.checked.prog.inPlace 3) = true := by kernel_rfl
theorem over2 : (Rows.fnPatchesRow.unfollowed == Tryz.pinned.checked.prog.unfollowed 3) = true := by kernel_rfl
theorem over3 : (Rows.fnPatchesRow.recurses == Tryz.pinned.checked.prog.recurses 3) = true := by kernel_rfl
theorem over4 : (Rows.fnPatchesRow.named == Tryz.pinned.checked.prog.varsNamed 3) = true := by kernel_rfl
theorem overs : joinedFacts Tryz.pinned.checked.prog 3 Tryz.f3 Rows.fnPatchesSpec Rows.fnPatchesRow = true := by
  unfold joinedFacts
  rw [over1, over2, over3, over4]
  kernel_rfl
theorem over : Rows.FnPatchesSaid :=
  OpenClaim.holds_of_wide 3 Tryz.f3 rfl rfl rfl rfl rfl rfl rfl ⟨rfl, rfl, rfl, rfl, rfl⟩ rfl rfl rfl rfl rfl (by kernel_rfl) Tryz.func3 overs
    (of_decide_eq_true (by kernel_rfl)) (by unfold Func.isWrapper; first | (rw [if_pos (by decide +kernel)]; kernel_rfl) | (rw [if_neg (by decide +kernel)]; exact ⟨rfl, rfl⟩))
    (fun os started H enc _ => lifted os started H enc)

theorem proved : Rows.FnPatchesCardSaid :=
  Claim7.holds_tied_plain_at .later [] [.data, .data, .data, .data, .sentinel, .sentinel, .pinned] true (true, "4cacc0393fa2a022be30162e432a8d6d8adfc363a75c99ed321b0087c3ded344") true
    over (fun _ h => by cases h) (by kernel_rfl) (fun _ h => by cases h) fnPatches_row_tie rfl ⟨rfl, rfl⟩ (by kernel_rfl) rfl
    (fun f fn hf hfn => by
      obtain rfl : f = 3 := Option.some.inj ((show Tryz.prog.funcNamed "loop.example/g00406/laws.FnPatches" = some 3 by kernel_rfl).symm.trans hf) |>.symm
      obtain rfl : fn = Tryz.f3 := (Option.some.inj (Tryz.func3.symm.trans hfn)).symm
      exact ⟨by kernel_rfl, fun j t ht => by
        rw [Tryz.params3] at ht
        have hm : t ∈ [22] := by
          have := List.mem_of_getElem? (l := [22]) (i := j) (a := t) (by simpa using ht)
          exact this
        simp only [List.mem_cons, List.mem_nil_iff, or_false] at hm
        rcases hm with rfl
        · exact (show Tryz.prog.wantsStandIn 22 = false by kernel_rfl)⟩)
    (by kernel_rfl)
#print axioms proved
end Go.Proofs.YtdfhfebcbmolbaaGreatDoor.fnPatches
