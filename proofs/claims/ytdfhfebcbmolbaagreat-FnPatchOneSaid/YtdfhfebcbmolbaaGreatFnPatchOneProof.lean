/-
  Proved: for every input the law FnPatchOne returns true and leaves its argument as it was; no condition. (The frame is the kit's skeleton.)
-/
import Derived.Test.YtdfhfebcbmolbaaGreatRows
import Derived.WalkKit
import Derived.ProofKit
import Derived.OpenShut
import Derived.ShutString
import Derived.ChangeOld
import Derived.Below
import Derived.Test.YtdfhfebcbmolbaaGreatDrawL09
import Derived.Test.YtdfhfebcbmolbaaGreatImplL06c
import Derived.Test.YtdfhfebcbmolbaaGreatMathHurt
import Derived.Test.YtdfhfebcbmolbaaGreatOwnX
import Derived.Test.YtdfhfebcbmolbaaGreatLawFill
import Derived.Test.YtdfhfebcbmolbaaGreatLawL08b
import Derived.Test.YtdfhfebcbmolbaaGreatImplL07d
import Derived.Test.YtdfhfebcbmolbaaGreatImplL07f
import Derived.Deep.RegionHeld3
import Derived.Deep.DeepFit
import Derived.Deep.DeepCutAuto
import Derived.Deep.CutBlock
import Derived.BigQuiet
import Derived.LoopTactic
import Derived.Deep.Slices
import Derived.Deep.Fields
import Derived.RegionTactic
namespace Go.Proofs.YtdfhfebcbmolbaaGreat.fnPatchOne
open Go.ChangeShapes Go.WideShapes Go.ChangeAt Go.RowKit
open Go.ChangeMaps (open_string shut_string)
set_option linter.unusedVariables false

theorem own : ownKnob Tryz.prog.godebug = none := by kernel_rfl
theorem laidOut : laidOutB Tryz.prog = true := by kernel_rfl

/-- WHAT THE WALK IS TOLD OF A SLICE OF INTEGERS THAT CAME IN: it is nil; or it leads to a row of 'cap' cells, the numbers 'zs' (the first 'len' are its elements, the rest its spare room), each fitting its kind. -/
def IsRow (k : IntKind) (w : World) (a : Option Addr) (len cap : Nat) (zs : List Int) : Prop :=
  (a = none ∧ len = 0 ∧ cap = 0 ∧ zs = []) ∨
  ∃ x, a = some x ∧ len ≤ cap ∧ cap ≤ maxLen ∧ zs.length = cap ∧ (∀ i, i < zs.length → w.cell? (x.add i) = some (.int k (zs.getD i 0))) ∧ ∀ n ∈ zs, (Lit.int k n).wf = true

theorem one_facts {A : AZ} {F : Int → Nat → Int} {p : List Int} (h : Held A F p) :
    rowsOfZ A.ds = rowsZ A.ds ∧ (3 ≤ A.ds.length ∧ A.ds.length ≤ 5) ∧ (1 ≤ rowsZ A.ds ∧ rowsZ A.ds ≤ 16) ∧ A.ok = true ∧ (A.log.length ≤ 1100000 ∧ A.next.length ≤ 1100000) := by
  have hok := h.holds.rows.ok
  have hn := inB_iff.1 (disks_n hok)
  have hr := rows_le hok
  exact ⟨by unfold rowsOfZ; rw [hok]; rfl, by omega, by omega, h.ok, held_sizes h⟩
theorem died_held {A : AZ} {F : Int → Nat → Int} {p : List Int} (h : Held A F p ∧ NoBad A.ds) (d : Int) : Held (diedZ A d) F p ∧ (diedZ A d).ds.length = A.ds.length := by
  have e : diedZ A d = A.dies d := by simp [diedZ, h.1.ok]
  rw [e]; exact ⟨h.1.dies h.2 d, dies_len A d⟩
theorem rotted_held {A : AZ} {F : Int → Nat → Int} {p : List Int} (h : Held A F p ∧ NoBad A.ds) (d q y : Int) : Held (rottedZ A d q y) F p ∧ (rottedZ A d q y).ds.length = A.ds.length := by
  have e : rottedZ A d q y = A.rotted d q y := by simp [rottedZ, h.1.ok]
  rw [e]; exact ⟨h.1.rots h.2 d q y, rots_len A d q y⟩
theorem patch_facts {A : AZ} {F : Int → Nat → Int} {p : List Int} (h : Held A F p) {l : Nat} (hl : l < p.length) {x : Int} (hx : okv x = true) :
    pfOk A.ds l x = true ∧ (patchedZ A.ds (pfZ A.ds l x)).length = A.ds.length ∧ ∀ i, ∀ hi : i < p.length, cellAtOk (patchedZ A.ds (pfZ A.ds l x)) (diskZ A.ds.length i) (rowZ A.ds.length i) = true ∧ cellAtV (patchedZ A.ds (pfZ A.ds l x)) (diskZ A.ds.length i) (rowZ A.ds.length i) = if i = l then x else p[i] := by
  obtain ⟨d, e, AT⟩ := h.holds.place hl hx
  have hf := h.holds.rows.forOk AT
  have hok : pfOk A.ds l x = true := by simp [pfOk, h.holds.rows.ok, hf]
  have e1 : pfZ A.ds l x = forP A.ds l x := pf_yes hok
  have e2 : patchedZ A.ds (forP A.ds l x) = patchZ A.ds (forP A.ds l x) := by simp [patchedZ, h.holds.rows.ok, for_ok hf]
  have hw := h.holds.write hl AT
  have hln : (patchZ A.ds (forP A.ds l x)).length = A.ds.length := patchK_length _ _ _
  rw [e1, e2]
  refine ⟨hok, hln, fun i hi => ?_⟩
  have q := hw.tell (i := i) (by simpa using hi)
  rw [hln] at q
  refine ⟨q.1, q.2.trans ?_⟩
  rw [List.getElem_set]
  by_cases e : i = l
  · rw [if_pos e.symm, if_pos e]
  · rw [if_neg (fun x => e x.symm), if_neg e]

/-! ### STEP 1: THE WALK: the Go text returns true, AND WRITES NOTHING THAT WAS THERE: 'Below w.heap.size w w'' (Derived/Below.lean: '.refl', '.alloc', '.drew', '.setCell' at a new block, '.trans'). Open each 'IsRow' by 'rcases' AHEAD of 'go_enter'; part every test ahead of the walk. -/
set_option maxRecDepth 100000 in
set_option maxHeartbeats 4000000 in
theorem walk (a0 : Option Addr) (len0 cap0 : Nat) (z0 : List Int) (w : World) (w0 : IsRow .u8 w a0 len0 cap0 z0) :
    Calls Tryz.prog 4 #[.slice a0 len0 cap0] w fun e w' => e = .returned (.bool true) ∧ Below w.heap.size w w' := by
  by_cases hb : 4096 < len0
  · go_enter Tryz.func4, Tryz.ntmps4
    go_wp2_with fail
    go_fit (big_yes _ _ _ _ hb)
    rintro e w' ⟨rfl, rfl⟩
    go_wp2_with fail
    go_ret
    exact ⟨rfl, Below.refl _ _⟩
  have hR := codeAt_of w0 (by omega)
  clear w0
  go_enter Tryz.func4, Tryz.ntmps4
  go_wp2_with fail
  go_fit (big_no _ _ _ _ (by omega))
  rintro e w' ⟨rfl, rfl⟩
  go_wp2_with fail
  go_fit (filled_any _ _ _ _ hR)
  rintro e w4 ⟨A, F, p, va, vp, rfl, HA, hp1, hp2, LA, IP, g4⟩
  obtain ⟨aa, ac, rfl, -⟩ := LA.form
  have hpo := ir_older IP hp1
  obtain ⟨pa, pc, rfl, -⟩ := IP.form
  have eA := galloc (grefl w4) (.cells #[.slice aa A.ds.length ac, .string (str A.log), .string (str A.next), .int .i64 A.stage, .bool A.up] 29)
  have FA := Five.new w4 (.slice aa A.ds.length ac) (.string (str A.log)) (.string (str A.next)) (.int .i64 A.stage) (.bool A.up) 29
  replace LA := LA.kept eA
  replace IP := IP.kept eA
  have G4 := gtrans g4 eA
  have hbw := g4.size
  have hbs : w4.heap.size < (w4.alloc (.cells #[.slice aa A.ds.length ac, .string (str A.log), .string (str A.next), .int .i64 A.stage, .bool A.up] 29)).heap.size := by simp
  have HPo := Lib.hid hpo
  clear eA g4 hpo
  go_upto_region 4 with (fail)
  generalize w4.alloc (.cells #[.slice aa A.ds.length ac, .string (str A.log), .string (str A.next), .int .i64 A.stage, .bool A.up] 29) = WA at *
  generalize w4.heap.size = bA at *
  obtain ⟨hro, ⟨hn3, hn5⟩, ⟨hr1, hr16⟩, hok, hz1, hz2⟩ := one_facts HA.out.1
  have HRo := Lib.hid hro
  have HFA := Lib.hid FA
  have HRc := Lib.hid (hR.kept (gbelow G4))
  have HLA := Lib.hid LA
  have HIP := Lib.hid IP
  have HG4 := Lib.hid G4
  have HR0 := Lib.hid hR
  clear hro hok LA IP G4 hR
  obtain ⟨⟨p0, f0⟩, ⟨p1, f1⟩, ⟨p2, f2⟩, ⟨p3, f3⟩, ⟨p4, f4⟩⟩ := FA
  go_wp2_with fail
  go_fit (pick_any _ _ _ _ _ _ HRc.out (by omega) (by omega) (by omega) (by omega))
  rintro e w' ⟨t, t0, t1, rfl, rfl⟩
  obtain ⟨t, rfl⟩ := Int.eq_ofNat_of_zero_le t0
  go_upto_block 0 with (fail)
  go_cut [] (fun wx => ∃ (A1 : AZ) (a1 : Option Addr) (c1 : Nat), Hid (Held A1 F p) ∧ A1.ds.length = A.ds.length ∧ Box5 wx bA (.slice a1 A1.ds.length c1) (.string (str A1.log)) (.string (str A1.next)) (.int .i64 A1.stage) (.bool A1.up) ∧ LD wx (.slice a1 A1.ds.length c1) A1.ds ∧ IR wx (.slice pa p.length pc) p ∧ w.grownBy wx none)
  case first =>
    rcases (show t = 0 ∨ t = 1 ∨ t = 2 by omega) with rfl | rfl | rfl
    · have HD : Hid (∀ d w8 v8 raw8, WA.grownBy w8 none → OD w8 WA.heap.size v8 (diedZ A d).ds raw8 → ∀ a1 c1, v8 = .slice a1 (diedZ A d).ds.length c1 → ∃ (A1 : AZ) (a1 : Option Addr) (c1 : Nat), Hid (Held A1 F p) ∧ A1.ds.length = A.ds.length ∧ Box5 (set5 w8 bA v8 (.string (str (diedZ A d).log)) (.string (str (diedZ A d).next)) (.int .i64 (diedZ A d).stage) (.bool (diedZ A d).up)) bA (.slice a1 A1.ds.length c1) (.string (str A1.log)) (.string (str A1.next)) (.int .i64 A1.stage) (.bool A1.up) ∧ LD (set5 w8 bA v8 (.string (str (diedZ A d).log)) (.string (str (diedZ A d).next)) (.int .i64 (diedZ A d).stage) (.bool (diedZ A d).up)) (.slice a1 A1.ds.length c1) A1.ds ∧ IR (set5 w8 bA v8 (.string (str (diedZ A d).log)) (.string (str (diedZ A d).next)) (.int .i64 (diedZ A d).stage) (.bool (diedZ A d).up)) (.slice pa p.length pc) p ∧ w.grownBy (set5 w8 bA v8 (.string (str (diedZ A d).log)) (.string (str (diedZ A d).next)) (.int .i64 (diedZ A d).stage) (.bool (diedZ A d).up)) none) := fun d w8 v8 raw8 g8 o8 a1 c1 e1 => by
        subst e1
        obtain ⟨h1, h2⟩ := died_held HA.out d
        obtain ⟨k1, k2, k3, k4⟩ := hurt_put HFA.out g8 o8 hbs HIP.out HPo.out HG4.out hbw
        exact ⟨_, _, _, h1, h2, k1, k2, k3, k4⟩
      go_wp2_with fail
      go_region_with (first | (go_at_call 10; go_fit (pick_any _ _ _ _ _ _ (HRc.out.kept (gbelow (gdrew (grefl WA) 1))) (by omega) (by omega) (by omega) (by omega)); rintro e w' ⟨x, x0, x1, rfl, rfl⟩) | (go_at_call 12; go_fit (specDies_any _ A _ _ (HLA.out.kept (gdrew (grefl WA) 1)) hz1 hz2); rintro e w8 ⟨v8, raw8, rfl, o8, g8⟩; have g8' : WA.grownBy w8 none := gtrans (gdrew (grefl WA) 1) g8; obtain ⟨a8, c8, rfl, -⟩ := o8.form; obtain ⟨⟨p0', f0'⟩, ⟨p1', f1'⟩, ⟨p2', f2'⟩, ⟨p3', f3'⟩, ⟨p4', f4'⟩⟩ := HFA.out.kept g8'))
      all_goals
        go_wp2_with fail
        go_meet
        exact HD.out _ _ _ _ g8' o8 _ _ rfl
    · have HD : Hid (∀ d q y w8 v8 raw8, WA.grownBy w8 none → OD w8 (bA + 1) v8 (rottedZ A d q y).ds raw8 → ∀ a1 c1, v8 = .slice a1 (rottedZ A d q y).ds.length c1 → ∃ (A1 : AZ) (a1 : Option Addr) (c1 : Nat), Hid (Held A1 F p) ∧ A1.ds.length = A.ds.length ∧ Box5 (set5 w8 bA v8 (.string (str (rottedZ A d q y).log)) (.string (str (rottedZ A d q y).next)) (.int .i64 (rottedZ A d q y).stage) (.bool (rottedZ A d q y).up)) bA (.slice a1 A1.ds.length c1) (.string (str A1.log)) (.string (str A1.next)) (.int .i64 A1.stage) (.bool A1.up) ∧ LD (set5 w8 bA v8 (.string (str (rottedZ A d q y).log)) (.string (str (rottedZ A d q y).next)) (.int .i64 (rottedZ A d q y).stage) (.bool (rottedZ A d q y).up)) (.slice a1 A1.ds.length c1) A1.ds ∧ IR (set5 w8 bA v8 (.string (str (rottedZ A d q y).log)) (.string (str (rottedZ A d q y).next)) (.int .i64 (rottedZ A d q y).stage) (.bool (rottedZ A d q y).up)) (.slice pa p.length pc) p ∧ w.grownBy (set5 w8 bA v8 (.string (str (rottedZ A d q y).log)) (.string (str (rottedZ A d q y).next)) (.int .i64 (rottedZ A d q y).stage) (.bool (rottedZ A d q y).up)) none) := fun d q y w8 v8 raw8 g8 o8 a1 c1 e1 => by
        subst e1
        obtain ⟨h1, h2⟩ := rotted_held HA.out d q y
        obtain ⟨k1, k2, k3, k4⟩ := hurt_put HFA.out g8 o8 (by omega) HIP.out HPo.out HG4.out hbw
        exact ⟨_, _, _, h1, h2, k1, k2, k3, k4⟩
      go_wp2_with fail
      go_region_with (first | (go_at_call 11; go_fit (specRowsOf_any _ A.ds _ (HLA.out.kept (gdrew (grefl WA) 1))); rintro e w7 ⟨rfl, g7⟩; rw [HRo.out]; have g7' : WA.grownBy w7 none := gtrans (gdrew (grefl WA) 1) g7; obtain ⟨⟨p0', f0'⟩, ⟨p1', f1'⟩, ⟨p2', f2'⟩, ⟨p3', f3'⟩, ⟨p4', f4'⟩⟩ := HFA.out.kept g7') | (go_at_call 10; go_fit (pick_any _ _ _ _ _ _ (by first | exact HRc.out.kept (gbelow (gdrew (grefl WA) 1)) | exact HRc.out.kept (gbelow g7')) (by omega) (by omega) (by omega) (by omega)); rintro e w' ⟨x, x0, x1, rfl, rfl⟩) | (go_at_call 14; go_fit (specRots_any _ A _ _ _ _ (HLA.out.kept g7') hz1 hz2); rintro e w8 ⟨v8, raw8, rfl, o8, g8⟩; have g8' : WA.grownBy w8 none := gtrans g7' g8; obtain ⟨a8, c8, rfl, -⟩ := o8.form; obtain ⟨⟨p0'', f0''⟩, ⟨p1'', f1''⟩, ⟨p2'', f2''⟩, ⟨p3'', f3''⟩, ⟨p4'', f4''⟩⟩ := HFA.out.kept g8'))
      all_goals
        go_wp2_with fail
        go_meet
        exact HD.out _ _ _ _ _ _ g8' (o8.lower (by have := g7'.size; omega)) _ _ rfl
    · go_wp2_with fail
      go_meet
      exact ⟨A, _, _, HA.out.1, rfl, ⟨p0, p1, p2, p3, p4⟩, HLA.out, HIP.out, HG4.out⟩
  case rest =>
    obtain ⟨A1, a1, c1, HA1, hl1, BA, LA, IP, G5⟩ := hcut
    clear p0 p1 p2 p3 p4 f0 f1 f2 f3 f4 HFA HLA HIP HG4 HRc HRo HPo
    have HL1 := Lib.hid hl1
    clear hl1
    have hRr := HR0.out.kept (gbelow G5)
    have hpi : (1 : Int) ≤ p.length := by omega
    go_wp2_with fail
    go_fit (pick_any _ _ _ _ _ _ hRr (by omega) (by omega) (by omega) (by omega))
    rintro e w' ⟨l, l0, l1, rfl, rfl⟩
    obtain ⟨l, rfl⟩ := Int.eq_ofNat_of_zero_le l0
    go_wp2_with fail
    go_fit (pick_any _ _ _ _ _ _ hRr (by omega) (by omega) (by omega) (by omega))
    rintro e w' ⟨x, x0, x1, rfl, rfl⟩
    have hlp : l < p.length := by omega
    obtain ⟨hpo, hpl, hpc⟩ := patch_facts HA1.out hlp (x := x) (inB_yes (by omega) (by omega))
    rw [HL1.out] at hpl hpc
    have HOk := Lib.hid hpo
    have HPl := Lib.hid hpl
    have HPc := Lib.hid hpc
    have CSp := fun (W : World) (v : Value) (h : LD W v A1.ds) => specPatchFor_any v A1.ds l x W h
    have CIp := fun (W : World) (v : Value) (h : LD W v A1.ds) => implPatchFor_any v A1.ds l x W h
    clear hpo hpl hpc l0 hRr HR0
    rw [HOk.out] at CSp CIp
    generalize pfZ A1.ds l x = P at *
    clear HOk
    have HB := Lib.hid BA
    obtain ⟨p0, p1, p2, p3, p4⟩ := BA
    go_wp2_with fail
    go_fit (CIp _ _ LA)
    rintro e w6 ⟨dv, vv, rfl, i1, i2, -, g6⟩
    obtain ⟨da, dc, rfl, -⟩ := Own.form i1
    obtain ⟨ua, uc, rfl, -⟩ := Own.form i2
    have eX := galloc (grefl w6) (.cells #[.int .i64 P.row, .slice da P.ds.length dc, .slice ua P.vs.length uc] 41)
    have BX := Box3.new w6 (.int .i64 P.row) (.slice da P.ds.length dc) (.slice ua P.vs.length uc) 41
    have IX1 := (Own.rd i1).kept eX
    have IX2 := (Own.rd i2).kept eX
    have G6 := gtrans (gtrans G5 g6) eX
    replace LA := (LA.kept g6).kept eX
    replace IP := (IP.kept g6).kept eX
    replace HB := Lib.hid ((HB.out.kept g6).kept eX)
    clear p0 p1 p2 p3 p4 i1 i2 g6 eX CIp G5
    go_upto_region 13 with (fail)
    generalize w6.alloc (.cells #[.int .i64 P.row, .slice da P.ds.length dc, .slice ua P.vs.length uc] 41) = WX at *
    generalize w6.heap.size = bX at *
    obtain ⟨p0, p1, p2, p3, p4⟩ := HB.out
    go_wp2_with fail
    go_fit (CSp _ _ LA)
    rintro e w7 ⟨dv, vv, rfl, i1, i2, -, g7⟩
    obtain ⟨ea, ec, rfl, -⟩ := Own.form i1
    obtain ⟨ya, yc, rfl, -⟩ := Own.form i2
    have eY := galloc (grefl w7) (.cells #[.int .i64 P.row, .slice ea P.ds.length ec, .slice ya P.vs.length yc] 41)
    have BY := Box3.new w7 (.int .i64 P.row) (.slice ea P.ds.length ec) (.slice ya P.vs.length yc) 41
    have IY1 := (Own.rd i1).kept eY
    have IY2 := (Own.rd i2).kept eY
    have G7 := gtrans (gtrans G6 g7) eY
    replace LA := (LA.kept g7).kept eY
    replace IP := (IP.kept g7).kept eY
    replace HB := Lib.hid ((HB.out.kept g7).kept eY)
    replace BX := (BX.kept g7).kept eY
    replace IX1 := (IX1.kept g7).kept eY
    replace IX2 := (IX2.kept g7).kept eY
    clear p0 p1 p2 p3 p4 i1 i2 g7 eY CSp G6
    go_upto_region 14 with (fail)
    generalize w7.alloc (.cells #[.int .i64 P.row, .slice ea P.ds.length ec, .slice ya P.vs.length yc] 41) = WY at *
    generalize w7.heap.size = bY at *
    have HX := Lib.hid BX
    obtain ⟨k0, k1, k2⟩ := BX
    obtain ⟨q0, q1, q2⟩ := BY
    go_wp2_with fail
    go_fit (likePatch_yes P _ _ _ _ _ IX1 IX2 IY1 IY2)
    rintro e w8 ⟨rfl, g8⟩
    have G8 := gtrans G7 g8
    replace LA := LA.kept g8
    replace IP := IP.kept g8
    replace IX1 := IX1.kept g8
    replace IX2 := IX2.kept g8
    clear k0 k1 k2 q0 q1 q2 IY1 IY2 G7
    obtain ⟨k0, k1, k2⟩ := HX.out.kept g8
    obtain ⟨p0, p1, p2, p3, p4⟩ := HB.out.kept g8
    clear g8 HX HB
    go_wp2_with fail
    go_fit (implPatched_any _ A1.ds P _ _ _ LA IX1 IX2)
    rintro e w9 ⟨vq, rawq, rfl, oq, g9⟩
    have LQ := oq.ld
    have G9 := gtrans G8 g9
    replace IP := IP.kept g9
    clear oq g9 G8 LA IX1 IX2 k0 k1 k2 p0 p1 p2 p3 p4
    generalize patchedZ A1.ds P = Q at *
    obtain ⟨qa, qc, rfl, -⟩ := LQ.form
    have hQl : Q.length ≤ 1048576 := by have := HPl.out; omega
    go_wp2_with fail
    go_loopw [13] (fun i wr => ∃ k : Nat, k ≤ p.length ∧ i = .int .i64 k ∧ w9.grownBy wr none) (fun i _ => p.length - (intOf i).toNat)
    case atStart => exact ⟨0, Nat.zero_le _, rfl, grefl _⟩
    case round =>
      obtain ⟨k, hk, rfl, GX⟩ := hrel
      by_cases hlt : k < p.length
      · have hki : (k : Int) < p.length := by omega
        obtain ⟨g, o, rfl, hpk⟩ := (IP.kept GX).at k hlt
        obtain ⟨hc1, hc2⟩ := HPc.out k hlt
        have HC1 := Lib.hid hc1
        by_cases hkl : k = l
        · subst hkl
          rw [if_pos rfl] at hc2
          have HC2 := Lib.hid hc2
          clear hc1 hc2
          go_wp2_with fail
          go_fit (specDiskOf_any _ _ _)
          rintro e w10 ⟨rfl, g10⟩
          go_wp2_with fail
          go_fit (specRowOf_any _ _ _)
          rintro e w' ⟨rfl, rfl⟩
          go_wp2_with fail
          go_fit (specCellAt_any _ Q _ _ _ (LQ.kept (gtrans GX g10)) hQl)
          rintro e w11 ⟨rfl, g11⟩
          rw [HC1.out, HC2.out]
          have G11 := gtrans (gtrans GX g10) g11
          go_wp2_with fail
          go_roundw
          case rel => exact ⟨k + 1, by omega, by go_num, G11⟩
          case measure => simp [intOf]; omega
        · rw [if_neg hkl] at hc2
          have HC2 := Lib.hid hc2
          have hne : ((k : Int) == (l : Int)) = false := beq_eq_false_iff_ne.2 (by omega)
          clear hc1 hc2
          generalize p[k] = pv at *
          go_wp2_with fail
          go_fit (specDiskOf_any _ _ _)
          rintro e w10 ⟨rfl, g10⟩
          go_wp2_with fail
          go_fit (specRowOf_any _ _ _)
          rintro e w' ⟨rfl, rfl⟩
          go_wp2_with fail
          go_fit (specCellAt_any _ Q _ _ _ (LQ.kept (gtrans GX g10)) hQl)
          rintro e w11 ⟨rfl, g11⟩
          rw [HC1.out, HC2.out]
          have G11 := gtrans (gtrans GX g10) g11
          go_wp2_with fail
          go_roundw
          case rel => exact ⟨k + 1, by omega, by go_num, G11⟩
          case measure => simp [intOf]; omega
      · go_wp2_with fail
        go_ret
        exact ⟨rfl, gbelow (gtrans G9 GX)⟩

/-! ### THE ROW's STEP: WRITTEN OUT: LEAVE IT -/
set_option maxRecDepth 100000 in
theorem lifted (os : Os) (started : os.Started) (H : Type) (enc : TypeId × Value → H) :
    ReturnsInHanded {} Tryz.checked os 4 .any (Rows.fnPatchOneSpec.pre6 enc Tryz.prog Tryz.f4 Rows.fnPatchOneRow.domain false) (Rows.fnPatchOneSpec.post enc Tryz.prog Tryz.f4 false true false false) := by
  refine returnsInHanded_of_change (C := Tryz.checked) own started (by kernel_rfl) Tryz.func4
    (ChangeSpec.witness6 (enc := enc) (C := Tryz.checked) false ⟨#[], #[.slice none 0 0], []⟩ 8 (by kernel_rfl) (by kernel_rfl) (by kernel_rfl) (by kernel_rfl)) ?_
  intro W base args ds gs before hval0 hW hcnd _
  have hval : ∀ (j : Nat) t v, Tryz.f4.params[j]? = some t → args[j]? = some v → Value.okWide Tryz.prog W .any base t v := hval0
  have hW' := hW
  obtain ⟨p, q, hA0, hV, rfl, hfz, hnd⟩ := hW
  have hA : DataW.TrodAll enc Tryz.prog W 0 (fun _ => true) true Tryz.f4.params.toList args.toList ds p := hA0
  rw [Tryz.params4] at hA hval
  obtain ⟨v0, vs0, d0, ds0, p0, q0, hargs, rfl, rfl, h0, r0⟩ := trodAll_cons hA
  obtain ⟨rfl, rfl, rfl⟩ := trodAll_nil r0
  obtain rfl : args = #[v0] := by cases args; simp_all
  obtain ⟨rfl, rfl⟩ := trodVars_none hV
  obtain ⟨a0, len0, cap0, rfl⟩ := okWide_slice Tryz.underlying22 (hval 0 22 v0 rfl rfl)
  have k0 := h0
  have lt0 : ∀ x ∈ p0, x.block < W.heap.size := by obtain ⟨m, hm⟩ := k0; exact DataW.trod_lt m _ _ _ hm
  obtain ⟨z0, w0⟩ : ∃ zs, IsRow .u8 W a0 len0 cap0 zs := by
    obtain ⟨fuel, hf⟩ := h0
    rcases open_ints Tryz.underlying22 Tryz.underlying5 (by kernel_rfl) hf with ⟨hcs, _⟩ | ⟨x, l, c, zs, hcs, _, hl, hm, hz, _, hcell, hwz⟩
    · simp [Value.cells] at hcs
      obtain ⟨rfl, rfl, rfl⟩ := hcs
      exact ⟨[], .inl ⟨rfl, rfl, rfl, rfl⟩⟩
    · simp [Value.cells] at hcs
      obtain ⟨rfl, rfl, rfl⟩ := hcs
      exact ⟨zs, .inr ⟨_, rfl, hl, hm, by simpa using hz, hcell, hwz⟩⟩
  clear hA0 hval0
  refine (walk a0 len0 cap0 z0 W w0).mono fun e W' ⟨he, bel⟩ => ?_
  subst he
  exact ⟨_, rfl, _, _, _, [], _, [], hW', trodAll_mk1 (shut_bool Tryz.underlying4 _), (trodAll_cons_mk (Below.trod laidOut (by kernel_rfl) (of_decide_eq_true (by kernel_rfl)) k0 bel lt0) trodAll_mk0), rfl, bel.frame _, fun h => by cases h⟩

theorem over : Rows.fnPatchOneRow.holds Tryz.pinned (OpenSpec.ofChange Rows.fnPatchOneSpec) :=
  OpenClaim.holds_of_wide 4 Tryz.f4 rfl rfl rfl rfl rfl rfl rfl ⟨rfl, rfl, rfl, rfl, rfl⟩ rfl rfl rfl rfl rfl (by kernel_rfl) Tryz.func4 (by kernel_rfl)
    (of_decide_eq_true (by kernel_rfl)) (by unfold Func.isWrapper; first | (rw [if_pos (by decide +kernel)]; kernel_rfl) | (rw [if_neg (by decide +kernel)]; exact ⟨rfl, rfl⟩))
    (fun os started H enc _ => lifted os started H enc)

/-- ████ THE STATEMENT ████ -/
theorem proved : Rows.FnPatchOneSaid := over
#print axioms proved
end Go.Proofs.YtdfhfebcbmolbaaGreat.fnPatchOne
