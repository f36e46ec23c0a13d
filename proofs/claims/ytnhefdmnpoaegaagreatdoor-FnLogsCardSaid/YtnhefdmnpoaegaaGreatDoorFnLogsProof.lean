/-
  Proved: for every input the law FnLogs returns true and leaves its arguments as they were, where the listed variables of the library read as its text lays them (the card ties that to the text).
-/
import Derived.Test.YtnhefdmnpoaegaaGreatDoorRows
import Derived.Test.YtnhefdmnpoaegaaGreatDoorCards
import Derived.Test.YtnhefdmnpoaegaaGreatDoorTie
import Derived.SevenTiedAt
import Derived.WalkKit
import Derived.ProofKit
import Derived.LaidMore
import Derived.OpenShut
import Derived.Stop.Joined
import Derived.ShutString
import Derived.ChangeOld
import Derived.Below
import Derived.Carry
import Derived.Test.YtnhefdmnpoaegaaGreatDoorDoorB
import Derived.Test.YtnhefdmnpoaegaaGreatDoorImplL08e
import Derived.Test.YtnhefdmnpoaegaaGreatDoorDrawL08
import Derived.Test.YtnhefdmnpoaegaaGreatDoorLawL08b
import Derived.Test.YtnhefdmnpoaegaaGreatDoorDoorC
import Derived.Stop.LaidErr
import Derived.Shelf.Vars
namespace Go.Proofs.YtnhefdmnpoaegaaGreatDoor.fnLogs
open Go.ChangeShapes Go.WideShapes Go.ChangeAt Go.RowKit
set_option linter.unusedVariables false

theorem own : ownKnob Tryz.prog.godebug = none := by kernel_rfl
theorem laidOut : laidOutB Tryz.prog = true := by kernel_rfl
def laidL : List (String × DataW Unit) := [("math/bits.deBruijn32tab", Rows.laid_math_bits_deBruijn32tab), ("math/bits.deBruijn64tab", Rows.laid_math_bits_deBruijn64tab), ("internal/strconv.uint64pow10", Rows.laid_internal_strconv_uint64pow10), ("unicode/utf8.acceptRanges", Rows.laid_unicode_utf8_acceptRanges), ("strconv.ErrRange", Rows.laid_strconv_ErrRange), ("strconv.ErrSyntax", Rows.laid_strconv_ErrSyntax), ("unicode/utf8.first", Rows.laid_unicode_utf8_first)]
noncomputable def startW (os : Os) : World := { World.doorLaid Tryz.prog 400 os with heap := (World.doorLaid Tryz.prog 400 os).heap.modify 6 fun | .cells _ t frozen => .cells (Go.Pinned.utf8FirstZ.map fun z : Nat => Value.int .u8 (z : Int)).toArray t frozen | o => o }
theorem door_met (os : Os) (args : Array Value) : laidMetH Tryz.prog laidL ((startW os).forCall (fun _ _ => 0) ⟨#[], args, []⟩).memory :=
  laidMetH_of_parts3 (fuel := 8) (laidMet_of_run' 8 (by kernel_rfl) (by kernel_rfl)) (by kernel_rfl) (by kernel_rfl)
theorem plainL {w : World} (h : laidMetH Tryz.prog laidL w) : laidMet Tryz.prog laidL w := by
  rw [MakeChecks.laidMetH_plain _ _ _ (by kernel_rfl)] at h
  exact h
theorem pow_of {w : World} (h : laidMet Tryz.prog laidL w) : Pow10 w :=
  Lib.tabIs_of_head (g := 1) (t := 114) (e := 104) (n := 20) (by kernel_rfl) (by kernel_rfl) Tryz.underlying114 Tryz.underlying104 (by kernel_rfl) (by kernel_rfl) (laidMet.tail (laidMet.tail h))
theorem star : "*" ++ "errors.errorString" = "*errors.errorString" := by decide
theorem row_err (u : TypeId) (h : Tryz.prog.typeName? 3 u = some "*errors.errorString") : u = 144 :=
  typeName_ptr_named (nm := "errors.errorString") (by rw [star]; kernel_rfl) (by kernel_rfl) (by decide) u (by rw [star]; exact h)
theorem lib_of {w : World} (h : laidMet Tryz.prog laidL w) (hS : w.ShapedOpen Tryz.prog) : LibV w := by
  have h4 := laidMet.tail (laidMet.tail (laidMet.tail (laidMet.tail h)))
  obtain ⟨a1, s1, v1, -, -, -⟩ := laid_sentinel h4 (g := 3) (ti := 94) (tp := 144) (te := 146) (ts := 9) (by kernel_rfl) (by kernel_rfl) Tryz.underlying94 row_err Tryz.underlying144 Tryz.underlying146 rfl rfl Tryz.underlying9 (by kernel_rfl) (by kernel_rfl)
  obtain ⟨a2, s2, v2, -, -, -⟩ := laid_sentinel (laidMet.tail h4) (g := 2) (ti := 94) (tp := 144) (te := 146) (ts := 9) (by kernel_rfl) (by kernel_rfl) Tryz.underlying94 row_err Tryz.underlying144 Tryz.underlying146 rfl rfl Tryz.underlying9 (by kernel_rfl) (by kernel_rfl)
  exact ⟨⟨_, _, v2⟩, ⟨_, _, v1⟩, cell_of_shapedOpen_int (P := Tryz.prog) (g := 0) (t := 3) (zero := #[.int .i64 0]) hS (of_decide_eq_true (by kernel_rfl)) (by kernel_rfl) rfl (by kernel_rfl) (by kernel_rfl) Tryz.underlying3⟩
attribute [local go_sem] str_list str_size str_add lit_list0 add_lit lit_add str_cut
theorem show_frame {s : List UInt8} {p : PZ} (h : p ∈ entsT s) : framedZ (showZ p) = frameT p.text := by
  have hok := ents_ok s p h
  rw [showZ_yes hok, framedZ_yes (text_plain hok)]
theorem show_len {s : List UInt8} {p : PZ} (h : p ∈ entsT s) : (showZ p).length ≤ 100 := by
  have hok := ents_ok s p h
  rw [showZ_yes hok]; exact plain_len (text_plain hok)
theorem noted_is {L : List UInt8} {p : PZ} (h : notedOk L p = true) : notedZ L p = L ++ frameT p.text ∧ p.ok = true ∧ (frameT p.text).length ≤ 2000 := by
  refine ⟨noted_yes h, ?_⟩
  simp only [notedOk, Bool.and_eq_true, decide_eq_true_eq] at h
  exact ⟨h.1, by omega⟩
theorem now_cases {L : List UInt8} {p : PZ} (hP : LogP L) (hp : p.ok = true) : (framesT (entsT L) = L ∧ entsT (L ++ frameT p.text) = entsT L ++ [p]) ∨ (framesT (entsT L) ≠ L ∧ entsT (L ++ frameT p.text) = entsT L) := by
  by_cases h : framesT (entsT L) = L
  · exact .inl ⟨h, noted_ents h hp⟩
  · rcases hP with h2 | h2
    · exact absurd h2 h
    · exact .inr ⟨h, h2 _⟩

set_option maxRecDepth 100000 in
set_option maxHeartbeats 4000000 in
theorem walk (w : World) (HL : Hid (laidMet Tryz.prog laidL w)) (hS : w.ShapedOpen Tryz.prog) (a0 : Option Addr) (n0 c0 : Nat) (z0 : List Int) (w0 : IsRow w a0 n0 c0 z0) :
    Calls Tryz.prog 3 #[.slice a0 n0 c0] w fun e w' => e = .returned (.bool true) ∧ Below w.heap.size w w' := by
  have HTb := Lib.hid (pow_of HL.out)
  have HLv := Lib.hid (lib_of HL.out hS)
  clear HL hS
  by_cases hb : 4096 < n0
  · go_enter Tryz.func3, Tryz.ntmps3
    go_wp2_with fail
    go_fit (big_yes _ _ _ _ hb)
    rintro e w' ⟨rfl, rfl⟩
    go_wp2_with fail
    go_ret
    exact ⟨rfl, Below.refl _ _⟩
  have hR := codeAt_of w0 (by omega)
  clear w0
  go_enter Tryz.func3, Tryz.ntmps3
  go_wp2_with fail
  go_fit (big_no _ _ _ _ (by omega))
  rintro e w' ⟨rfl, rfl⟩
  go_wp2_with fail
  go_fit (drawNoted_any _ _ _ _ hR)
  rintro e w1 ⟨L, p, dv, vv, rfl, hLl, hP, id, iv, g1⟩
  have HP : Hid (LogP L) := hP
  clear hP
  obtain ⟨da, dc, rfl, -⟩ := Own.form id
  obtain ⟨va, vc, rfl, -⟩ := Own.form iv
  have X1 := Box3.new w1 (.int .i64 p.row) (.slice da p.ds.length dc) (.slice va p.vs.length vc) 26
  have e1 := galloc (grefl w1) (.cells #[.int .i64 p.row, .slice da p.ds.length dc, .slice va p.vs.length vc] 26)
  have ID := (Own.rd id).kept e1
  have IV := (Own.rd iv).kept e1
  have G1 := gtrans g1 e1
  clear id iv g1 e1
  go_upto_region 4 with (fail)
  generalize w1.alloc (.cells #[.int .i64 p.row, .slice da p.ds.length dc, .slice va p.vs.length vc] 26) = W1 at *
  generalize w1.heap.size = b1 at *
  have HX := Lib.hid X1
  obtain ⟨x0, x1, x2⟩ := X1
  go_wp2_with fail
  go_fit (implNoted_any L p _ _ _ ID IV (by omega) (HTb.out.kept G1))
  rintro e w2 ⟨rfl, g2⟩
  have G2 := gtrans G1 g2
  have HNz : Hid (notedOk L p = false → notedZ L p = L) := fun h => noted_no h
  have HNy : Hid (notedOk L p = true → notedZ L p = L ++ frameT p.text ∧ p.ok = true ∧ (frameT p.text).length ≤ 2000) := fun h => noted_is h
  clear x0 x1 x2
  go_wp2_with fail
  go_fit (drawEntries_any _ _ _ _ (hR.kept (gbelow G2)))
  rintro e w3 ⟨s, rfl, hs, g3⟩
  have G3 := gtrans G2 g3
  go_wp2_with fail
  go_fit (implEntries_any s _ (by omega) (HTb.out.kept G3) (HLv.out.kept G3))
  rintro e w4 ⟨v4, raw4, rfl, O4, g4⟩
  have L4 := O4.lp
  have G4 := gtrans G3 g4
  clear O4
  obtain ⟨a4, c4, rfl, hm4⟩ := L4.form
  go_wp2_with fail
  go_fit (drawFramed_any _ _ _ _ (hR.kept (gbelow G4)))
  rintro e w5 ⟨f, rfl, hf, g5⟩
  have g25 := gtrans g2 (gtrans g3 (gtrans g4 g5))
  obtain ⟨x0, x1, x2⟩ := HX.out.kept g25
  have ID5 := ID.kept g25
  have IV5 := IV.kept g25
  have G5 := gtrans G4 g5
  replace L4 := L4.kept g5
  clear g2 g3 g4 g5 G2 G3 G4
  go_wp2_with fail
  go_fit (specNoted_any L p _ _ _ ID5 IV5 (by omega))
  rintro e w6 ⟨rfl, g6⟩
  have G6 := gtrans G5 g6
  clear x0 x1 x2
  have hnl : (notedZ L p).length ≤ 2100 := by have := notedZ_len L p; omega
  generalize hnz : notedZ L p = N at *
  generalize hno : notedOk L p = ok at *
  go_wp2_with fail
  go_fit (implFramed_any f _ (by omega) (HTb.out.kept G6))
  rintro e w7 ⟨rfl, g7⟩
  go_wp2_with fail
  go_fit (specFramed_any f _ (by omega))
  rintro e w7' ⟨rfl, g7'⟩
  have g57 := gtrans g6 (gtrans g7 g7')
  have G7 := gtrans G5 g57
  go_wp2_with fail
  go_fit (specEntries_any s _ (by omega))
  rintro e w8 ⟨v8, raw8, rfl, O8, g8⟩
  have L8 := O8.lp
  obtain ⟨a8, c8, rfl, -⟩ := L8.form
  replace L4 := L4.kept (gtrans g57 g8)
  have G8 := gtrans G7 g8
  have HX8 := Lib.hid (HX.out.kept (gtrans g25 (gtrans g57 g8)))
  have ID8 := ID5.kept (gtrans g57 g8)
  have IV8 := IV5.kept (gtrans g57 g8)
  have HFr : Hid (∀ p ∈ entsT s, framedZ (showZ p) = frameT p.text ∧ (showZ p).length ≤ 100) := fun p hp => ⟨show_frame hp, show_len hp⟩
  have HLn : Hid (∀ i, (framesT ((entsT s).take i)).length ≤ 2103) := fun i => by have := frames_len_le s i; omega
  have HFf := Lib.hid (frames_front s)
  have HT0 : Hid (framesT ((entsT s).take (entsT s).length) = framesT (entsT s)) := by show _ = _; rw [List.take_length]
  clear O8 g6 g7 g7' g8 g57 g25 G5 G6 G7 ID IV ID5 IV5 HX
  generalize entsT s = E at *
  go_wp2_with fail
  go_loopw [13, 14] (fun u i wr => ∃ j : Nat, j ≤ E.length ∧ i = .int .i64 j ∧ u = .string (str (framesT (E.take j))) ∧ w8.grownBy wr none) (fun _ i _ => E.length - (intOf i).toNat)
  case atStart => exact ⟨0, Nat.zero_le _, rfl, rfl, grefl _⟩
  case round =>
      obtain ⟨j, hj, rfl, rfl, G⟩ := hrel
      by_cases hlt : j < E.length
      · have hji : (j : Int) < E.length := by omega
        obtain ⟨g, o, da1, dm1, dc1, va1, vm1, vc1, rfl, y0, y1, y2, I1, I2⟩ := (L4.kept G).at j hlt
        obtain ⟨g', o', ea, em, ec, fa, fm, fc, rfl, z0', z1', z2', J1, J2⟩ := (L8.kept G).at j hlt
        obtain ⟨hfr, hsl⟩ := HFr.out E[j] (List.getElem_mem hlt)
        have hln := HLn.out j
        have hln1 := HLn.out (j + 1)
        have HN := Lib.hid (frames_take E j hlt)
        go_wp2_with fail
        refine region_calm (fun w' => (w'.cell? ⟨g, o + j * 3, none⟩ = some (.int .i64 E[j].row) ∧ w'.cell? ⟨g, o + j * 3 + 1, none⟩ = some (.slice da1 dm1 dc1) ∧ w'.cell? ⟨g, o + j * 3 + 2, none⟩ = some (.slice va1 vm1 vc1)) ∧ (w'.cell? ⟨g', o' + j * 3, none⟩ = some (.int .i64 E[j].row) ∧ w'.cell? ⟨g', o' + j * 3 + 1, none⟩ = some (.slice ea em ec) ∧ w'.cell? ⟨g', o' + j * 3 + 2, none⟩ = some (.slice fa fm fc)) ∧ wr.grownBy w' none) (by kernel_rfl) (by kernel_rfl) (⟨⟨y0, y1, y2⟩, ⟨z0', z1', z2'⟩, gdrew (grefl _) 1⟩) ?_
        repeat (first
          | (refine calm_skip (by rfl) ?_; simp only [Act.put, List.setIfInBounds_toArray, List.set_cons_zero, List.set_cons_succ])
          | (refine calm_step (by rfl) ?_
             apply Exists.intro
             refine ⟨fun w' hw' => ?_, ?_⟩
             · go_simp
               first | done | exact rfl | (go_at_call 15; go_fit (likePatch_yes E[j] _ _ _ _ _ (I1.kept hw'.2.2) (I2.kept hw'.2.2) (J1.kept hw'.2.2) (J2.kept hw'.2.2)); rintro e w8 ⟨rfl, g8⟩; exact And.intro rfl (And.intro (And.intro (gkc g8 hw'.1.1) (And.intro (gkc g8 hw'.1.2.1) (gkc g8 hw'.1.2.2))) (And.intro (And.intro (gkc g8 hw'.2.1.1) (And.intro (gkc g8 hw'.2.1.2.1) (gkc g8 hw'.2.1.2.2))) (gtrans hw'.2.2 g8))))
             simp only [Act.put, List.setIfInBounds_toArray, List.set_cons_zero, List.set_cons_succ]))
        refine calm_nil ?_
        intro w9 hw9
        obtain ⟨⟨n0', n1', n2'⟩, -, gw9⟩ := hw9
        go_wp2_with fail
        go_fit (specShowPatch_any E[j] _ _ _ (I1.kept gw9) (I2.kept gw9))
        rintro e w10 ⟨rfl, g10⟩
        go_wp2_with fail
        go_fit (specFramed_any (showZ E[j]) _ (by omega))
        rintro e w11 ⟨rfl, g11⟩
        rw [hfr]
        have hfl : (frameT E[j].text).length ≤ 3000 := by have := congrArg List.length HN.out; rw [List.length_append] at this; omega
        generalize frameT E[j].text = Fr at *
        have G11 := gtrans (gtrans G gw9) (gtrans g10 g11)
        clear hfr
        go_wp2_with fail
        go_roundw
        case rel => exact ⟨j + 1, by omega, by go_num, by rw [HN.out], G11⟩
        case measure => simp [intOf]; omega
      · obtain rfl : j = E.length := by omega
        rw [HT0.out]
        obtain ⟨hf1, hf2⟩ := HFf.out
        generalize framesT E = FE at *
        have hf1i : ¬ (s.length : Int) < FE.length := by omega
        have hf1j : (FE.length : Int) ≤ s.length := by omega
        have GE := gtrans G8 G
        cases ok
        · have HZ := HNz.out rfl
          subst HZ
          go_wp2_with fail
          go_ret
          exact ⟨rfl, gbelow GE⟩
        · obtain ⟨rfl, hpo, hFl⟩ := HNy.out rfl
          have HNc := Lib.hid (now_cases HP.out hpo)
          have HFa : Hid (∀ p ∈ entsT L, framedZ (showZ p) = frameT p.text ∧ (showZ p).length ≤ 100) := fun p hp => ⟨show_frame hp, show_len hp⟩
          have HLa : Hid (∀ i, (framesT ((entsT L).take i)).length ≤ 2103) := fun i => by have := frames_len_le L i; omega
          have HTa : Hid (framesT ((entsT L).take (entsT L).length) = framesT (entsT L)) := by show _ = _; rw [List.take_length]
          have hxl : (L ++ frameT p.text).length ≤ 5000 := by simp; omega
          have hAl : (entsT L).length ≤ 2100 := by have := entsT_len L; omega
          generalize frameT p.text = F at *
          go_wp2_with fail
          go_fit (implEntries_any L _ (by omega) (HTb.out.kept GE) (HLv.out.kept GE))
          rintro e w12 ⟨v12, raw12, rfl, O12, g12⟩
          have LA := O12.lp
          have G12 := gtrans GE g12
          go_wp2_with fail
          go_fit (implEntries_any (L ++ F) _ (by omega) (HTb.out.kept G12) (HLv.out.kept G12))
          rintro e w13 ⟨v13, raw13, rfl, O13, g13⟩
          have LB := O13.lp
          have G13 := gtrans G12 g13
          replace LA := LA.kept g13
          have HXd := Lib.hid (HX8.out.kept (gtrans G (gtrans g12 g13)))
          have IDd := ID8.kept (gtrans G (gtrans g12 g13))
          have IVd := IV8.kept (gtrans G (gtrans g12 g13))
          clear O12 O13 g12 g13 G12 GE hf1 hf2 hf1i hf1j L4 L8
          generalize entsT (L ++ F) = E2 at *
          generalize entsT L = A at *
          obtain ⟨aA, cA, rfl, hmA⟩ := LA.form
          obtain ⟨aB, cB, rfl, hmB⟩ := LB.form
          go_wp2_with fail
          go_loopw [17, 18] (fun u i wr => ∃ j : Nat, j ≤ A.length ∧ i = .int .i64 j ∧ u = .string (str (framesT (A.take j))) ∧ w13.grownBy wr none) (fun _ i _ => A.length - (intOf i).toNat)
          case atStart => exact ⟨0, Nat.zero_le _, rfl, rfl, grefl _⟩
          case round =>
              obtain ⟨j, hj', rfl, rfl, G'⟩ := hrel
              by_cases hlt' : j < A.length
              · have hji : (j : Int) < A.length := by omega
                obtain ⟨g, o, da1, dm1, dc1, va1, vm1, vc1, rfl, y0, y1, y2, I1, I2⟩ := (LA.kept G').at j hlt'
                obtain ⟨hfr, hsl⟩ := HFa.out A[j] (List.getElem_mem hlt')
                have hln := HLa.out j
                have hln1 := HLa.out (j + 1)
                have HN := Lib.hid (frames_take A j hlt')
                go_wp2_with fail
                go_fit (specShowPatch_any A[j] _ _ _ I1 I2)
                rintro e w20 ⟨rfl, g20⟩
                go_wp2_with fail
                go_fit (specFramed_any (showZ A[j]) _ (by omega))
                rintro e w21 ⟨rfl, g21⟩
                rw [hfr]
                have hfl : (frameT A[j].text).length ≤ 3000 := by have := congrArg List.length HN.out; rw [List.length_append] at this; omega
                generalize frameT A[j].text = Fr at *
                have G21 := gtrans G' (gtrans g20 g21)
                clear hfr
                go_wp2_with fail
                go_roundw
                case rel => exact ⟨j + 1, by omega, by go_num, by rw [HN.out], G21⟩
                case measure => simp [intOf]; omega
              · obtain rfl : j = A.length := by omega
                rw [HTa.out]
                have GZ := gtrans G13 G'
                rcases HNc.out with ⟨h1, rfl⟩ | ⟨h1, rfl⟩
                · rw [h1]
                  obtain ⟨q0, q1, q2⟩ := HXd.out.kept G'
                  have hAp : (A ++ [p])[A.length]'(by simp) = p := by simp
                  obtain ⟨g', o', ea, em, ec, fa, fm, fc, rfl, z0', z1', z2', J1, J2⟩ := (LB.kept G').at A.length (by simp)
                  rw [hAp] at z0' J1 J2
                  have hcast : ((A.length + 1 : Nat) : Int) = (A.length : Int) + 1 := by omega
                  have hk1 : (L.length : Int) ≤ ((L ++ F).length : Int) := by rw [List.length_append]; omega
                  have hk2 : L.length ≤ (L ++ F).length := by simp
                  have hk3 : (L.length : Int) ≤ (L.length : Int) + (F.length : Int) := by omega
                  have hk4 : ((L ++ F).length : Int) = (L.length : Int) + (F.length : Int) := by rw [List.length_append]; omega
                  have htk : (L ++ F).take L.length = L := by simp
                  have hidx : (A.length : Int) < (A.length : Int) + 1 := by omega
                  have hidn : A.length < A.length + 1 := by omega
                  have hwp : wrap64 ((A.length : Int) + 1) = (A.length : Int) + 1 := by simp only [wrap64]; omega
                  have hwq : IntKind.i64.wrap ((A.length : Int) + 1) = (A.length : Int) + 1 := IntWalk.i64_in _ (by omega)
                  have K1 := IDd.kept G'
                  have K2 := IVd.kept G'
                  go_wp2_with fail
                  refine region_calm (fun w' => (w'.cell? ⟨b1, 0, none⟩ = some (.int .i64 p.row) ∧ w'.cell? ⟨b1, 1, none⟩ = some (.slice da p.ds.length dc) ∧ w'.cell? ⟨b1, 2, none⟩ = some (.slice va p.vs.length vc)) ∧ (w'.cell? ⟨g', o' + A.length * 3, none⟩ = some (.int .i64 p.row) ∧ w'.cell? ⟨g', o' + A.length * 3 + 1, none⟩ = some (.slice ea em ec) ∧ w'.cell? ⟨g', o' + A.length * 3 + 2, none⟩ = some (.slice fa fm fc)) ∧ wr.grownBy w' none) (by kernel_rfl) (by kernel_rfl) (⟨⟨q0, q1, q2⟩, ⟨z0', z1', z2'⟩, gdrew (grefl _) 1⟩) ?_
                  repeat (first
                    | (refine calm_skip (by rfl) ?_; simp only [Act.put, List.setIfInBounds_toArray, List.set_cons_zero, List.set_cons_succ])
                    | (refine calm_step (by rfl) ?_
                       apply Exists.intro
                       refine ⟨fun w' hw' => ?_, ?_⟩
                       · go_simp
                         first | done | exact rfl | (go_at_call 15; go_fit (likePatch_yes p _ _ _ _ _ (J1.kept hw'.2.2) (J2.kept hw'.2.2) (K1.kept hw'.2.2) (K2.kept hw'.2.2)); rintro e w28 ⟨rfl, g28⟩; exact And.intro rfl (And.intro (And.intro (gkc g28 hw'.1.1) (And.intro (gkc g28 hw'.1.2.1) (gkc g28 hw'.1.2.2))) (And.intro (And.intro (gkc g28 hw'.2.1.1) (And.intro (gkc g28 hw'.2.1.2.1) (gkc g28 hw'.2.1.2.2))) (gtrans hw'.2.2 g28))))
                       simp only [Act.put, List.setIfInBounds_toArray, List.set_cons_zero, List.set_cons_succ]))
                  refine calm_nil ?_
                  intro w9 hw9
                  go_wp2_with fail
                  go_ret
                  exact ⟨rfl, gbelow (gtrans GZ hw9.2.2)⟩
                · have h1b : (framesT E2 == L) = false := by simpa using h1
                  generalize framesT E2 = FA at *
                  go_wp2_with fail
                  go_ret
                  exact ⟨rfl, gbelow GZ⟩

set_option maxRecDepth 100000 in
theorem lifted (os : Os) (started : os.Started) (H : Type) (enc : TypeId × Value → H) :
    ReturnsInHanded {} Tryz.checked os 3 .any (fun w args => (Rows.fnLogsSpec.pre enc Tryz.prog Tryz.f3 [] false w args ∧ laidMetH Tryz.prog laidL w) ∧ sizedMet enc Tryz.prog Tryz.f3 (OpenSpec.ofChange Rows.fnLogsSpec) false w args)
      (Rows.fnLogsSpec.post enc Tryz.prog Tryz.f3 false true false false) := by
  refine handed_laid_shaped (C := Tryz.checked) (X := fun w _ => laidMetH Tryz.prog laidL w) (fun _ _ _ hh h => h.of_heap hh) own started (by kernel_rfl) Tryz.func3
    (ChangeSpec.witness_shaped (enc := enc) (C := Tryz.checked) (os := os) (X := fun w _ => laidMetH Tryz.prog laidL w) false (startW os) #[.slice none 0 0] 8 rfl (World.shaped_of_RefB (by kernel_rfl) (by kernel_rfl)) (by kernel_rfl) (by kernel_rfl) (by kernel_rfl) (door_met os _)) ?_
  intro W base args ds gs before hval0 hW hL hS
  have hval : ∀ (j : Nat) t v, Tryz.f3.params[j]? = some t → args[j]? = some v → Value.okWide Tryz.prog W .any base t v := hval0
  have hW' := hW
  obtain ⟨p, q, hA0, hV, rfl, hfz, hnd⟩ := hW
  have hA : DataW.TrodAll enc Tryz.prog W 0 (fun _ => true) true Tryz.f3.params.toList args.toList ds p := hA0
  rw [Tryz.params3] at hA hval
  obtain ⟨x0, vs0, d0, ds0, p0, q0, hargs, rfl, rfl, h0, r0⟩ := trodAll_cons hA
  obtain ⟨rfl, rfl, rfl⟩ := trodAll_nil r0
  obtain rfl : args = #[x0] := by cases args; simp_all
  obtain ⟨rfl, rfl⟩ := trodVars_none hV
  have k0 := h0
  have lt0 : ∀ x ∈ p0, x.block < W.heap.size := by obtain ⟨m, hm⟩ := k0; exact DataW.trod_lt m _ _ _ hm
  obtain ⟨a0, n0, c0, z0, rfl, w0⟩ := openCode (hval 0 22 x0 rfl rfl) h0
  clear hA0 hval0
  refine (walk W (plainL hL) hS a0 n0 c0 z0 w0).mono fun e W' ⟨he, bel⟩ => ?_
  subst he
  exact ⟨_, rfl, _, _, _, [], _, [], hW', trodAll_mk1 (shut_bool Tryz.underlying4 _), (trodAll_cons_mk (Below.trod laidOut (by kernel_rfl) (of_decide_eq_true (by kernel_rfl)) k0 bel lt0) trodAll_mk0), rfl, bel.frame _, fun h => by cases h⟩

theorem over : Rows.FnLogsSaid :=
  OpenClaim.holds_of_wide 3 Tryz.f3 rfl rfl rfl rfl rfl rfl rfl ⟨rfl, rfl, rfl, rfl, rfl⟩ rfl rfl rfl rfl rfl (by kernel_rfl) Tryz.func3 (by kernel_rfl)
    (of_decide_eq_true (by kernel_rfl)) (by unfold Func.isWrapper; first | (rw [if_pos (by decide +kernel)]; kernel_rfl) | (rw [if_neg (by decide +kernel)]; exact ⟨rfl, rfl⟩))
    (fun os started H enc _ => lifted os started H enc)

theorem proved : Rows.FnLogsCardSaid :=
  Claim7.holds_tied_plain_at .later [] [.data, .data, .data, .data, .sentinel, .sentinel, .pinned] true (true, "a4a78367e2152a471e1179d6eeec66d55073ccc80079b341fa84d8d1e37dc83f") true
    over (fun _ h => by cases h) (by kernel_rfl) (fun _ h => by cases h) fnLogs_row_tie rfl ⟨rfl, rfl⟩ (by kernel_rfl) rfl
    (fun f fn hf hfn => by
      obtain rfl : f = 3 := Option.some.inj ((show Tryz.prog.funcNamed "loop.example/g00406/laws.FnLogs" = some 3 by kernel_rfl).symm.trans hf) |>.symm
      obtain rfl : fn = Tryz.f3 := (Option.some.inj (Tryz.func3.symm.trans hfn)).symm
      exact ⟨by kernel_rfl, fun j t ht => by
        rw [Tryz.params3] at ht
        have hm : t ∈ [22] := by
          have := List.mem_of_getElem? (l := [22]) (i := j) (a := t) (by simpa using ht)
          exact this
        simp only [List.mem_cons, List.mem_nil_iff, or_false] at hm
        rcases hm with rfl
        · exact (show Tryz.prog.wantsStandIn 22 = false by kernel_rfl)⟩)
    (by kernel_rfl)
#print axioms proved
end Go.Proofs.YtnhefdmnpoaegaaGreatDoor.fnLogs
