/-
  Proved: for every input the law FnArrays returns true and leaves its arguments as they were, where the listed variables of the library read as its text lays them (the card ties that to the text).
-/
import Derived.Test.YtdfhfebcbmolbaaGreatDoorRows
import Derived.Test.YtdfhfebcbmolbaaGreatDoorCards
import Derived.Test.YtdfhfebcbmolbaaGreatDoorTie
import Derived.SevenTiedAt
import Derived.WalkKit
import Derived.ProofKit
import Derived.LaidMore
import Derived.OpenShut
import Derived.Stop.Joined
import Derived.ShutString
import Derived.ChangeOld
import Derived.Below
import Derived.Carry
import Derived.Test.YtdfhfebcbmolbaaGreatDoorDoorB
import Derived.Test.YtdfhfebcbmolbaaGreatDoorImplL09
import Derived.Test.YtdfhfebcbmolbaaGreatDoorImplNew
import Derived.Test.YtdfhfebcbmolbaaGreatDoorDrawA2
import Derived.Test.YtdfhfebcbmolbaaGreatDoorLawA
import Derived.Test.YtdfhfebcbmolbaaGreatDoorMathFill
import Derived.Test.YtdfhfebcbmolbaaGreatDoorDoorB
import Derived.Deep.RegionHeld3
import Derived.Deep.DeepCutAuto
import Derived.Stop.LaidErr
import Derived.Shelf.Vars
namespace Go.Proofs.YtdfhfebcbmolbaaGreatDoor.fnArrays
open Go.ChangeShapes Go.WideShapes Go.ChangeAt Go.RowKit
set_option linter.unusedVariables false

theorem own : ownKnob Tryz.prog.godebug = none := by kernel_rfl
theorem laidOut : laidOutB Tryz.prog = true := by kernel_rfl
def laidL : List (String × DataW Unit) := [("math/bits.deBruijn32tab", Rows.laid_math_bits_deBruijn32tab), ("math/bits.deBruijn64tab", Rows.laid_math_bits_deBruijn64tab), ("internal/strconv.uint64pow10", Rows.laid_internal_strconv_uint64pow10), ("unicode/utf8.acceptRanges", Rows.laid_unicode_utf8_acceptRanges), ("strconv.ErrRange", Rows.laid_strconv_ErrRange), ("strconv.ErrSyntax", Rows.laid_strconv_ErrSyntax), ("unicode/utf8.first", Rows.laid_unicode_utf8_first)]
noncomputable def startW (os : Os) : World := { World.doorLaid Tryz.prog 400 os with heap := (World.doorLaid Tryz.prog 400 os).heap.modify 6 fun | .cells _ t frozen => .cells (Go.Pinned.utf8FirstZ.map fun z : Nat => Value.int .u8 (z : Int)).toArray t frozen | o => o }
theorem door_met (os : Os) (args : Array Value) : laidMetH Tryz.prog laidL ((startW os).forCall (fun _ _ => 0) ⟨#[], args, []⟩).memory :=
  laidMetH_of_parts3 (fuel := 8) (laidMet_of_run' 8 (by kernel_rfl) (by kernel_rfl)) (by kernel_rfl) (by kernel_rfl)
theorem plainL {w : World} (h : laidMetH Tryz.prog laidL w) : laidMet Tryz.prog laidL w := by
  rw [MakeChecks.laidMetH_plain _ _ _ (by kernel_rfl)] at h
  exact h
theorem pow_of {w : World} (h : laidMet Tryz.prog laidL w) : Pow10 w :=
  Lib.tabIs_of_head (g := 0) (t := 205) (e := 179) (n := 20) (by kernel_rfl) (by kernel_rfl) Tryz.underlying205 Tryz.underlying179 (by kernel_rfl) (by kernel_rfl) (laidMet.tail (laidMet.tail h))
theorem star : "*" ++ "errors.errorString" = "*errors.errorString" := by decide
theorem row_err (u : TypeId) (h : Tryz.prog.typeName? 3 u = some "*errors.errorString") : u = 237 :=
  typeName_ptr_named (nm := "errors.errorString") (by rw [star]; kernel_rfl) (by kernel_rfl) (by decide) u (by rw [star]; exact h)
theorem lib_of {w : World} (h : laidMet Tryz.prog laidL w) (hS : w.ShapedOpen Tryz.prog) : LibV w := by
  have h4 := laidMet.tail (laidMet.tail (laidMet.tail (laidMet.tail h)))
  obtain ⟨a1, s1, v1, -, -, -⟩ := laid_sentinel h4 (g := 3) (ti := 141) (tp := 237) (te := 239) (ts := 9) (by kernel_rfl) (by kernel_rfl) Tryz.underlying141 row_err Tryz.underlying237 Tryz.underlying239 rfl rfl Tryz.underlying9 (by kernel_rfl) (by kernel_rfl)
  obtain ⟨a2, s2, v2, -, -, -⟩ := laid_sentinel (laidMet.tail h4) (g := 2) (ti := 141) (tp := 237) (te := 239) (ts := 9) (by kernel_rfl) (by kernel_rfl) Tryz.underlying141 row_err Tryz.underlying237 Tryz.underlying239 rfl rfl Tryz.underlying9 (by kernel_rfl) (by kernel_rfl)
  exact ⟨⟨_, _, v2⟩, ⟨_, _, v1⟩, cell_of_shapedOpen_int (P := Tryz.prog) (g := 1) (t := 3) (zero := #[.int .i64 0]) hS (of_decide_eq_true (by kernel_rfl)) (by kernel_rfl) rfl (by kernel_rfl) (by kernel_rfl) Tryz.underlying3⟩
theorem begun_same {a : AZ} {p x : Int} (e : a.ok = true) (f : begunOk a p x = false) : begunZ a p x = a := by
  have hb : beginOk a p x = false := by simpa [begunOk, e] using f
  simp [begunZ, e, AZ.begun, hb]
theorem begun_is {a : AZ} {p x : Int} (e : a.ok = true) (f : begunOk a p x = true) : (begunZ a p x).ok = true ∧ (begunZ a p x).stage = 1 ∧ (begunZ a p x).ds = a.ds := by
  have hb : beginOk a p x = true := by simpa [begunOk, e] using f
  have h1 := AZ.ok_begun e p x
  have e1 : begunZ a p x = a.begun p x := by simp [begunZ, e]
  rw [e1]
  exact ⟨h1, by simp [AZ.begun, hb], by simp [AZ.begun, hb]⟩
theorem stepped_is {a : AZ} (h : steppedOk a = true) : (steppedZ a).ok = true ∧ (a.stage + 1).tmod 5 = (steppedZ a).stage ∧ 0 ≤ a.stage ∧ a.stage ≤ 4 := by
  simp only [steppedOk, Bool.and_eq_true] at h
  obtain ⟨e, f⟩ := h
  rw [stepOk_ok e, decide_eq_true_eq] at f
  have hs := AZ.ok_stage e
  have e1 : steppedZ a = a.stepped := by simp [steppedZ, e]
  rw [e1]
  refine ⟨AZ.ok_stepped e, ?_, hs⟩
  have : a.stage = 1 ∨ a.stage = 2 ∨ a.stage = 3 ∨ a.stage = 4 := by omega
  rcases this with h | h | h | h <;> simp [AZ.stepped, h]
theorem stepped_same {a : AZ} (h : steppedOk a = false) (e : a.ok = true) : steppedZ a = a ∧ a.stage = 0 := by
  have f : a.stage = 0 := by
    simp only [steppedOk, e, Bool.true_and] at h
    rw [stepOk_ok e, decide_eq_false_iff_not] at h
    omega
  have e1 : steppedZ a = a.stepped := by simp [steppedZ, e]
  rw [e1]
  exact ⟨by simp [AZ.stepped, f], f⟩
theorem newA_ok {n r : Int} (h : newAOk n r = true) : (newAZ n r).ok = true := by
  have h' := h
  simp only [newAOk, Bool.and_eq_true] at h'
  have hn := inB_iff.1 h'.1
  have hr := inB_iff.1 h'.2
  obtain ⟨a, rfl⟩ := Int.eq_ofNat_of_zero_le (show 0 ≤ n by omega)
  obtain ⟨b, rfl⟩ := Int.eq_ofNat_of_zero_le (show 0 ≤ r by omega)
  have e : newAZ (a : Int) (b : Int) = AZ.fresh (newDs b a) := by simp [newAZ, h]
  rw [e]
  exact (new_held h'.1 h'.2).1.ok
/-- what region 12 holds on to -/
abbrev Th3 (w w' : World) (b1 : Nat) (x0 x1 x2 x3 x4 : Value) (b2 : Nat) (y0 y1 y2 y3 y4 : Value) (b3 : Nat) (z0 z1 z2 z3 z4 : Value) : Prop := Box5 w' b1 x0 x1 x2 x3 x4 ∧ Box5 w' b2 y0 y1 y2 y3 y4 ∧ Box5 w' b3 z0 z1 z2 z3 z4 ∧ w.grownBy w' none
theorem Th3.kept {w w' w2 : World} {b1 : Nat} {x0 x1 x2 x3 x4 : Value} {b2 : Nat} {y0 y1 y2 y3 y4 : Value} {b3 : Nat} {z0 z1 z2 z3 z4 : Value} (h : Th3 w w' b1 x0 x1 x2 x3 x4 b2 y0 y1 y2 y3 y4 b3 z0 z1 z2 z3 z4) (g : w'.grownBy w2 none) : Th3 w w2 b1 x0 x1 x2 x3 x4 b2 y0 y1 y2 y3 y4 b3 z0 z1 z2 z3 z4 := ⟨h.1.kept g, h.2.1.kept g, h.2.2.1.kept g, gtrans h.2.2.2 g⟩
theorem Th3.drew {w w' : World} {b1 : Nat} {x0 x1 x2 x3 x4 : Value} {b2 : Nat} {y0 y1 y2 y3 y4 : Value} {b3 : Nat} {z0 z1 z2 z3 z4 : Value} (h : Th3 w w' b1 x0 x1 x2 x3 x4 b2 y0 y1 y2 y3 y4 b3 z0 z1 z2 z3 z4) : Th3 w w'.drew b1 x0 x1 x2 x3 x4 b2 y0 y1 y2 y3 y4 b3 z0 z1 z2 z3 z4 := h.kept (gdrew (grefl _) 1)

set_option maxRecDepth 100000 in
set_option maxHeartbeats 4000000 in
theorem walk (w : World) (HL : Hid (laidMet Tryz.prog laidL w)) (hS : w.ShapedOpen Tryz.prog) (a0 : Option Addr) (n0 c0 : Nat) (z0 : List Int) (w0 : IsRow w a0 n0 c0 z0) :
    Calls Tryz.prog 4 #[.slice a0 n0 c0] w fun e w' => e = .returned (.bool true) ∧ Below w.heap.size w w' := by
  have HT := Lib.hid (pow_of HL.out)
  have HV := Lib.hid (lib_of HL.out hS)
  clear HL hS
  by_cases hb : 4096 < n0
  · go_enter Tryz.func4, Tryz.ntmps4
    go_wp2_with fail
    go_fit (big_yes _ _ _ _ hb)
    rintro e w' ⟨rfl, rfl⟩
    go_wp2_with fail
    go_ret
    exact ⟨rfl, Below.refl _ _⟩
  have hR := codeAt_of w0 (by omega)
  clear w0
  go_enter Tryz.func4, Tryz.ntmps4
  go_wp2_with fail
  go_fit (big_no _ _ _ _ (by omega))
  rintro e w' ⟨rfl, rfl⟩
  go_wp2_with fail
  go_fit (drawBegun_any _ _ _ _ hR)
  rintro e w1 ⟨zA, vA, pl, xv, rfl, hpl, hxv, OA⟩
  obtain ⟨OAl, hA1, hA2, gA⟩ := OA
  replace OAl := OAl _ (Only.refl _ _)
  have G1 := gA
  clear gA
  have LA := OAl
  obtain ⟨Aa, Ac, rfl, -⟩ := LA.form
  have eA := galloc (grefl w1) (.cells #[.slice Aa zA.ds.length Ac, .string (str zA.log), .string (str zA.next), .int .i64 zA.stage, .bool zA.up] 47)
  have BA := Box5.new w1 (.slice Aa zA.ds.length Ac) (.string (str zA.log)) (.string (str zA.next)) (.int .i64 zA.stage) (.bool zA.up) 47
  replace LA := LA.kept eA
  have G2 := gtrans G1 eA
  clear G1
  clear eA
  go_upto_region 4 with (fail)
  generalize w1.alloc (.cells #[.slice Aa zA.ds.length Ac, .string (str zA.log), .string (str zA.next), .int .i64 zA.stage, .bool zA.up] 47) = WA at *
  generalize w1.heap.size = bA at *
  clear OAl
  obtain ⟨q00, q01, q02, q03, q04⟩ := BA
  go_wp2_with fail
  go_fit (implBegun_any _ zA pl xv _ LA (HT.out.kept G2) (HV.out.kept G2))
  rintro e w2 ⟨vX, rawX, rfl, oX, g2⟩
  replace BA : Box5 _ bA (.slice Aa zA.ds.length Ac) (.string (str zA.log)) (.string (str zA.next)) (.int .i64 zA.stage) (.bool zA.up) := ⟨q00, q01, q02, q03, q04⟩
  clear q00 q01 q02 q03 q04
  clear hpl hxv
  replace LA := LA.kept g2
  replace BA := BA.kept g2
  have G3 := gtrans G2 g2
  clear G2
  have LX0 := oX.ld
  clear oX g2
  have HB1 : Hid (zA.ok = false → begunZ zA pl xv = .zero ∧ begunOk zA pl xv = false) := fun e => by constructor <;> simp [begunZ, begunOk, e]
  have HB2 : Hid (zA.ok = true → begunOk zA pl xv = false → begunZ zA pl xv = zA) := fun e f => begun_same e f
  have HB3 : Hid (zA.ok = true → begunOk zA pl xv = true → (begunZ zA pl xv).ok = true ∧ (begunZ zA pl xv).stage = 1 ∧ (begunZ zA pl xv).ds = zA.ds) := fun e f => begun_is e f
  have CS1 := fun (W : World) (v : Value) (h : LD W v zA.ds) => specBegun_any v zA pl xv W h (by omega) (by omega)
  generalize begunZ zA pl xv = zX at *
  generalize begunOk zA pl xv = okX at *
  have LX := LX0
  obtain ⟨Xa, Xc, rfl, -⟩ := LX.form
  have eX := galloc (grefl w2) (.cells #[.slice Xa zX.ds.length Xc, .string (str zX.log), .string (str zX.next), .int .i64 zX.stage, .bool zX.up] 47)
  have BX := Box5.new w2 (.slice Xa zX.ds.length Xc) (.string (str zX.log)) (.string (str zX.next)) (.int .i64 zX.stage) (.bool zX.up) 47
  replace LA := LA.kept eX
  replace BA := BA.kept eX
  replace LX := LX.kept eX
  have G4 := gtrans G3 eX
  clear G3
  clear eX
  go_upto_region 5 with (fail)
  generalize w2.alloc (.cells #[.slice Xa zX.ds.length Xc, .string (str zX.log), .string (str zX.next), .int .i64 zX.stage, .bool zX.up] 47) = WX at *
  generalize w2.heap.size = bX at *
  clear LX0
  go_wp2_with fail
  go_fit (drawStepped_any _ _ _ _ (hR.kept (gbelow G4)))
  rintro e w3 ⟨zS, vS, rfl, OS⟩
  obtain ⟨OSl, hS1, hS2, gS⟩ := OS
  replace OSl := OSl _ (Only.refl _ _)
  replace LA := LA.kept gS
  replace BA := BA.kept gS
  replace LX := LX.kept gS
  replace BX := BX.kept gS
  have G5 := gtrans G4 gS
  clear G4
  clear gS
  have LS := OSl
  obtain ⟨Sa, Sc, rfl, -⟩ := LS.form
  have eS := galloc (grefl w3) (.cells #[.slice Sa zS.ds.length Sc, .string (str zS.log), .string (str zS.next), .int .i64 zS.stage, .bool zS.up] 47)
  have BS := Box5.new w3 (.slice Sa zS.ds.length Sc) (.string (str zS.log)) (.string (str zS.next)) (.int .i64 zS.stage) (.bool zS.up) 47
  replace LA := LA.kept eS
  replace BA := BA.kept eS
  replace LX := LX.kept eS
  replace BX := BX.kept eS
  replace LS := LS.kept eS
  have G6 := gtrans G5 eS
  clear G5
  clear eS
  go_upto_region 6 with (fail)
  generalize w3.alloc (.cells #[.slice Sa zS.ds.length Sc, .string (str zS.log), .string (str zS.next), .int .i64 zS.stage, .bool zS.up] 47) = WS at *
  generalize w3.heap.size = bS at *
  clear OSl
  obtain ⟨q00, q01, q02, q03, q04⟩ := BS
  go_wp2_with fail
  go_fit (implStepped_any _ zS _ LS (HT.out.kept G6) (HV.out.kept G6))
  rintro e w4 ⟨vY, rawY, rfl, oY, g4⟩
  replace BS : Box5 _ bS (.slice Sa zS.ds.length Sc) (.string (str zS.log)) (.string (str zS.next)) (.int .i64 zS.stage) (.bool zS.up) := ⟨q00, q01, q02, q03, q04⟩
  clear q00 q01 q02 q03 q04
  replace LA := LA.kept g4
  replace BA := BA.kept g4
  replace LX := LX.kept g4
  replace BX := BX.kept g4
  replace LS := LS.kept g4
  replace BS := BS.kept g4
  have G7 := gtrans G6 g4
  clear G6
  have LY0 := oY.ld
  clear oY g4
  have HS1 : Hid (steppedOk zS = true → (steppedZ zS).ok = true ∧ (zS.stage + 1).tmod 5 = (steppedZ zS).stage ∧ 0 ≤ zS.stage ∧ zS.stage ≤ 4) := fun e => stepped_is e
  have HS2 : Hid (steppedOk zS = false → zS.ok = true → zS = steppedZ zS ∧ zS.stage = 0) := fun e f => ⟨(stepped_same e f).1.symm, (stepped_same e f).2⟩
  have CS2 := fun (W : World) (v : Value) (h : LD W v zS.ds) => specStepped_any v zS W h (by omega) (by omega)
  generalize steppedZ zS = zY at *
  generalize steppedOk zS = okY at *
  have LY := LY0
  obtain ⟨Ya, Yc, rfl, -⟩ := LY.form
  have eY := galloc (grefl w4) (.cells #[.slice Ya zY.ds.length Yc, .string (str zY.log), .string (str zY.next), .int .i64 zY.stage, .bool zY.up] 47)
  have BY := Box5.new w4 (.slice Ya zY.ds.length Yc) (.string (str zY.log)) (.string (str zY.next)) (.int .i64 zY.stage) (.bool zY.up) 47
  replace LA := LA.kept eY
  replace BA := BA.kept eY
  replace LX := LX.kept eY
  replace BX := BX.kept eY
  replace LS := LS.kept eY
  replace BS := BS.kept eY
  replace LY := LY.kept eY
  have G8 := gtrans G7 eY
  clear G7
  clear eY
  go_upto_region 7 with (fail)
  generalize w4.alloc (.cells #[.slice Ya zY.ds.length Yc, .string (str zY.log), .string (str zY.next), .int .i64 zY.stage, .bool zY.up] 47) = WY at *
  generalize w4.heap.size = bY at *
  clear LY0
  go_wp2_with fail
  go_fit (drawNewArray_any _ _ _ _ (hR.kept (gbelow G8)))
  rintro e w5 ⟨nn, nr, nn0, nn1, nr0, nr1, rfl, g5⟩
  replace LA := LA.kept g5
  replace BA := BA.kept g5
  replace LX := LX.kept g5
  replace BX := BX.kept g5
  replace LS := LS.kept g5
  replace BS := BS.kept g5
  replace LY := LY.kept g5
  replace BY := BY.kept g5
  have G9 := gtrans G8 g5
  clear G8
  clear g5
  go_wp2_with fail
  go_fit (implNewArray_any nn nr _ ⟨by omega, by omega⟩)
  rintro e w6 ⟨vZ, rawZ, rfl, oZ, g6⟩
  replace LA := LA.kept g6
  replace BA := BA.kept g6
  replace LX := LX.kept g6
  replace BX := BX.kept g6
  replace LS := LS.kept g6
  replace BS := BS.kept g6
  replace LY := LY.kept g6
  replace BY := BY.kept g6
  have G10 := gtrans G9 g6
  clear G9
  have LZ0 := oZ.ld
  clear oZ g6
  have HN1 : Hid (newAOk nn nr = true → (newAZ nn nr).ok = true) := fun e => newA_ok e
  have CS3 := fun (W : World) => specNewArray_any nn nr W
  generalize newAZ nn nr = zZ at *
  generalize newAOk nn nr = okZ at *
  clear nn0 nn1 nr0 nr1
  have LZ := LZ0
  obtain ⟨Za, Zc, rfl, -⟩ := LZ.form
  have eZ := galloc (grefl w6) (.cells #[.slice Za zZ.ds.length Zc, .string (str zZ.log), .string (str zZ.next), .int .i64 zZ.stage, .bool zZ.up] 47)
  have BZ := Box5.new w6 (.slice Za zZ.ds.length Zc) (.string (str zZ.log)) (.string (str zZ.next)) (.int .i64 zZ.stage) (.bool zZ.up) 47
  replace LA := LA.kept eZ
  replace BA := BA.kept eZ
  replace LX := LX.kept eZ
  replace BX := BX.kept eZ
  replace LS := LS.kept eZ
  replace BS := BS.kept eZ
  replace LY := LY.kept eZ
  replace BY := BY.kept eZ
  replace LZ := LZ.kept eZ
  have G11 := gtrans G10 eZ
  clear G10
  clear eZ
  go_upto_region 9 with (fail)
  generalize w6.alloc (.cells #[.slice Za zZ.ds.length Zc, .string (str zZ.log), .string (str zZ.next), .int .i64 zZ.stage, .bool zZ.up] 47) = WZ at *
  generalize w6.heap.size = bZ at *
  clear LZ0
  go_wp2_with fail
  go_fit (drawReadArray_any _ _ _ _ (hR.kept (gbelow G11)))
  rintro e w7 ⟨zR, vR, pr, rfl, hpr, OR⟩
  obtain ⟨ORl, hR1, hR2, gR⟩ := OR
  replace ORl := ORl _ (Only.refl _ _)
  replace LA := LA.kept gR
  replace BA := BA.kept gR
  replace LX := LX.kept gR
  replace BX := BX.kept gR
  replace LS := LS.kept gR
  replace BS := BS.kept gR
  replace LY := LY.kept gR
  replace BY := BY.kept gR
  replace LZ := LZ.kept gR
  replace BZ := BZ.kept gR
  have G12 := gtrans G11 gR
  clear G11
  clear gR
  have LR := ORl
  obtain ⟨Ra, Rc, rfl, -⟩ := LR.form
  have eR := galloc (grefl w7) (.cells #[.slice Ra zR.ds.length Rc, .string (str zR.log), .string (str zR.next), .int .i64 zR.stage, .bool zR.up] 47)
  have BR := Box5.new w7 (.slice Ra zR.ds.length Rc) (.string (str zR.log)) (.string (str zR.next)) (.int .i64 zR.stage) (.bool zR.up) 47
  replace LA := LA.kept eR
  replace BA := BA.kept eR
  replace LX := LX.kept eR
  replace BX := BX.kept eR
  replace LS := LS.kept eR
  replace BS := BS.kept eR
  replace LY := LY.kept eR
  replace BY := BY.kept eR
  replace LZ := LZ.kept eR
  replace BZ := BZ.kept eR
  replace LR := LR.kept eR
  have G13 := gtrans G12 eR
  clear G12
  clear eR
  go_upto_region 10 with (fail)
  generalize w7.alloc (.cells #[.slice Ra zR.ds.length Rc, .string (str zR.log), .string (str zR.next), .int .i64 zR.stage, .bool zR.up] 47) = WR at *
  generalize w7.heap.size = bR at *
  clear ORl
  obtain ⟨q00, q01, q02, q03, q04⟩ := BR
  go_wp2_with fail
  go_fit (implReadArray_any _ zR pr _ LR (HT.out.kept G13) (HV.out.kept G13))
  rintro e w8 ⟨rfl, g8⟩
  replace BR : Box5 _ bR (.slice Ra zR.ds.length Rc) (.string (str zR.log)) (.string (str zR.next)) (.int .i64 zR.stage) (.bool zR.up) := ⟨q00, q01, q02, q03, q04⟩
  clear q00 q01 q02 q03 q04
  clear hpr
  replace LA := LA.kept g8
  replace BA := BA.kept g8
  replace LX := LX.kept g8
  replace BX := BX.kept g8
  replace LS := LS.kept g8
  replace BS := BS.kept g8
  replace LY := LY.kept g8
  replace BY := BY.kept g8
  replace LZ := LZ.kept g8
  replace BZ := BZ.kept g8
  replace LR := LR.kept g8
  replace BR := BR.kept g8
  have G14 := gtrans G13 g8
  clear G13
  clear g8
  have CS4 := fun (W : World) (v : Value) (h : LD W v zR.ds) => specReadArray_any v zR pr W h (by omega) (by omega)
  generalize readVA zR pr = uR at *
  generalize readOkA zR pr = okR at *
  obtain ⟨q00, q01, q02, q03, q04⟩ := BA
  go_wp2_with fail
  go_fit (CS1 _ _ LA)
  rintro e w9 ⟨vW, rawW, rfl, oW, g9⟩
  replace BA : Box5 _ bA (.slice Aa zA.ds.length Ac) (.string (str zA.log)) (.string (str zA.next)) (.int .i64 zA.stage) (.bool zA.up) := ⟨q00, q01, q02, q03, q04⟩
  clear q00 q01 q02 q03 q04
  replace LA := LA.kept g9
  replace BA := BA.kept g9
  replace LX := LX.kept g9
  replace BX := BX.kept g9
  replace LS := LS.kept g9
  replace BS := BS.kept g9
  replace LY := LY.kept g9
  replace BY := BY.kept g9
  replace LZ := LZ.kept g9
  replace BZ := BZ.kept g9
  replace LR := LR.kept g9
  replace BR := BR.kept g9
  have G15 := gtrans G14 g9
  clear G14
  have LW0 := oW.ld
  clear oW g9 CS1
  have LW := LW0
  obtain ⟨Wa, Wc, rfl, -⟩ := LW.form
  have eW := galloc (grefl w9) (.cells #[.slice Wa zX.ds.length Wc, .string (str zX.log), .string (str zX.next), .int .i64 zX.stage, .bool zX.up] 47)
  have BW := Box5.new w9 (.slice Wa zX.ds.length Wc) (.string (str zX.log)) (.string (str zX.next)) (.int .i64 zX.stage) (.bool zX.up) 47
  replace LA := LA.kept eW
  replace BA := BA.kept eW
  replace LX := LX.kept eW
  replace BX := BX.kept eW
  replace LS := LS.kept eW
  replace BS := BS.kept eW
  replace LY := LY.kept eW
  replace BY := BY.kept eW
  replace LZ := LZ.kept eW
  replace BZ := BZ.kept eW
  replace LR := LR.kept eW
  replace BR := BR.kept eW
  replace LW := LW.kept eW
  have G16 := gtrans G15 eW
  clear G15
  clear eW
  go_upto_region 12 with (fail)
  generalize w9.alloc (.cells #[.slice Wa zX.ds.length Wc, .string (str zX.log), .string (str zX.next), .int .i64 zX.stage, .bool zX.up] 47) = WW at *
  generalize w9.heap.size = bW at *
  clear LW0
  have HTW := Lib.hid (HT.out.kept G16)
  have HVW := Lib.hid (HV.out.kept G16)
  have SW : Th3 WW WW bX (.slice Xa zX.ds.length Xc) (.string (str zX.log)) (.string (str zX.next)) (.int .i64 zX.stage) (.bool zX.up) bW (.slice Wa zX.ds.length Wc) (.string (str zX.log)) (.string (str zX.next)) (.int .i64 zX.stage) (.bool zX.up) bA (.slice Aa zA.ds.length Ac) (.string (str zA.log)) (.string (str zA.next)) (.int .i64 zA.stage) (.bool zA.up) := ⟨BX, BW, BA, grefl _⟩
  refine region_calm (fun w' => Th3 WW w' bX (.slice Xa zX.ds.length Xc) (.string (str zX.log)) (.string (str zX.next)) (.int .i64 zX.stage) (.bool zX.up) bW (.slice Wa zX.ds.length Wc) (.string (str zX.log)) (.string (str zX.next)) (.int .i64 zX.stage) (.bool zX.up) bA (.slice Aa zA.ds.length Ac) (.string (str zA.log)) (.string (str zA.next)) (.int .i64 zA.stage) (.bool zA.up)) (by kernel_rfl) (by kernel_rfl) (Th3.drew SW) ?_
  repeat (first
    | (refine calm_skip (by rfl) ?_; simp only [Act.put, List.setIfInBounds_toArray, List.set_cons_zero, List.set_cons_succ])
    | (refine calm_step (by rfl) ?_
       apply Exists.intro
       refine ⟨fun w' hw' => ?_, ?_⟩
       · go_simp
         first | done | exact rfl | (go_at_call 35; go_fit (likeArray_yes zX _ _ _ (LX.kept hw'.2.2.2) (LW.kept hw'.2.2.2)); rintro e w28 ⟨rfl, g28⟩; exact And.intro rfl (Th3.kept hw' g28)) | (go_at_call 36; go_fit (implArrayOk_any _ zA _ (LA.kept hw'.2.2.2) (HTW.out.kept hw'.2.2.2) (HVW.out.kept hw'.2.2.2)); rintro e w28 ⟨rfl, g28⟩; exact And.intro rfl (Th3.kept hw' g28)) | (go_at_call 37; go_fit (specArrayOk_any _ zA _ (LA.kept hw'.2.2.2) (by omega) (by omega)); rintro e w28 ⟨rfl, g28⟩; exact And.intro rfl (Th3.kept hw' g28))
       simp only [Act.put, List.setIfInBounds_toArray, List.set_cons_zero, List.set_cons_succ]))
  refine calm_nil ?_
  intro w9 hw9
  have g10 := hw9.2.2.2
  clear hw9 SW HTW HVW LW BW
  replace LA := LA.kept g10
  replace BA := BA.kept g10
  replace LX := LX.kept g10
  replace BX := BX.kept g10
  replace LS := LS.kept g10
  replace BS := BS.kept g10
  replace LY := LY.kept g10
  replace BY := BY.kept g10
  replace LZ := LZ.kept g10
  replace BZ := BZ.kept g10
  replace LR := LR.kept g10
  replace BR := BR.kept g10
  have G17 := gtrans G16 g10
  clear G16
  clear g10
  obtain ⟨q00, q01, q02, q03, q04⟩ := BS
  go_wp2_with fail
  go_fit (CS2 _ _ LS)
  rintro e w11 ⟨vV, rawV, rfl, oV, g11⟩
  replace BS : Box5 _ bS (.slice Sa zS.ds.length Sc) (.string (str zS.log)) (.string (str zS.next)) (.int .i64 zS.stage) (.bool zS.up) := ⟨q00, q01, q02, q03, q04⟩
  clear q00 q01 q02 q03 q04
  replace LA := LA.kept g11
  replace BA := BA.kept g11
  replace LX := LX.kept g11
  replace BX := BX.kept g11
  replace LS := LS.kept g11
  replace BS := BS.kept g11
  replace LY := LY.kept g11
  replace BY := BY.kept g11
  replace LZ := LZ.kept g11
  replace BZ := BZ.kept g11
  replace LR := LR.kept g11
  replace BR := BR.kept g11
  have G18 := gtrans G17 g11
  clear G17
  have LV0 := oV.ld
  clear oV g11 CS2
  have LV := LV0
  obtain ⟨Va, Vc, rfl, -⟩ := LV.form
  have eV := galloc (grefl w11) (.cells #[.slice Va zY.ds.length Vc, .string (str zY.log), .string (str zY.next), .int .i64 zY.stage, .bool zY.up] 47)
  have BV := Box5.new w11 (.slice Va zY.ds.length Vc) (.string (str zY.log)) (.string (str zY.next)) (.int .i64 zY.stage) (.bool zY.up) 47
  replace LA := LA.kept eV
  replace BA := BA.kept eV
  replace LX := LX.kept eV
  replace BX := BX.kept eV
  replace LS := LS.kept eV
  replace BS := BS.kept eV
  replace LY := LY.kept eV
  replace BY := BY.kept eV
  replace LZ := LZ.kept eV
  replace BZ := BZ.kept eV
  replace LR := LR.kept eV
  replace BR := BR.kept eV
  replace LV := LV.kept eV
  have G19 := gtrans G18 eV
  clear G18
  clear eV
  go_upto_region 15 with (fail)
  generalize w11.alloc (.cells #[.slice Va zY.ds.length Vc, .string (str zY.log), .string (str zY.next), .int .i64 zY.stage, .bool zY.up] 47) = WV at *
  generalize w11.heap.size = bV at *
  clear LV0
  obtain ⟨q00, q01, q02, q03, q04⟩ := BY
  obtain ⟨q10, q11, q12, q13, q14⟩ := BV
  go_wp2_with fail
  go_fit (likeArray_yes zY _ _ _ LY LV)
  rintro e w12 ⟨rfl, g12⟩
  replace BY : Box5 _ bY (.slice Ya zY.ds.length Yc) (.string (str zY.log)) (.string (str zY.next)) (.int .i64 zY.stage) (.bool zY.up) := ⟨q00, q01, q02, q03, q04⟩
  clear q00 q01 q02 q03 q04
  replace BV : Box5 _ bV (.slice Va zY.ds.length Vc) (.string (str zY.log)) (.string (str zY.next)) (.int .i64 zY.stage) (.bool zY.up) := ⟨q10, q11, q12, q13, q14⟩
  clear q10 q11 q12 q13 q14
  replace LA := LA.kept g12
  replace BA := BA.kept g12
  replace LX := LX.kept g12
  replace BX := BX.kept g12
  replace LS := LS.kept g12
  replace BS := BS.kept g12
  replace LY := LY.kept g12
  replace BY := BY.kept g12
  replace LZ := LZ.kept g12
  replace BZ := BZ.kept g12
  replace LR := LR.kept g12
  replace BR := BR.kept g12
  replace LV := LV.kept g12
  replace BV := BV.kept g12
  have G20 := gtrans G19 g12
  clear G19
  clear g12 LV BV
  go_wp2_with fail
  go_fit (CS3 _)
  rintro e w13 ⟨vU, rawU, rfl, oU, g13⟩
  replace LA := LA.kept g13
  replace BA := BA.kept g13
  replace LX := LX.kept g13
  replace BX := BX.kept g13
  replace LS := LS.kept g13
  replace BS := BS.kept g13
  replace LY := LY.kept g13
  replace BY := BY.kept g13
  replace LZ := LZ.kept g13
  replace BZ := BZ.kept g13
  replace LR := LR.kept g13
  replace BR := BR.kept g13
  have G21 := gtrans G20 g13
  clear G20
  have LU0 := oU.ld
  clear oU g13 CS3
  have LU := LU0
  obtain ⟨Ua, Uc, rfl, -⟩ := LU.form
  have eU := galloc (grefl w13) (.cells #[.slice Ua zZ.ds.length Uc, .string (str zZ.log), .string (str zZ.next), .int .i64 zZ.stage, .bool zZ.up] 47)
  have BU := Box5.new w13 (.slice Ua zZ.ds.length Uc) (.string (str zZ.log)) (.string (str zZ.next)) (.int .i64 zZ.stage) (.bool zZ.up) 47
  replace LA := LA.kept eU
  replace BA := BA.kept eU
  replace LX := LX.kept eU
  replace BX := BX.kept eU
  replace LS := LS.kept eU
  replace BS := BS.kept eU
  replace LY := LY.kept eU
  replace BY := BY.kept eU
  replace LZ := LZ.kept eU
  replace BZ := BZ.kept eU
  replace LR := LR.kept eU
  replace BR := BR.kept eU
  replace LU := LU.kept eU
  have G22 := gtrans G21 eU
  clear G21
  clear eU
  go_upto_region 18 with (fail)
  generalize w13.alloc (.cells #[.slice Ua zZ.ds.length Uc, .string (str zZ.log), .string (str zZ.next), .int .i64 zZ.stage, .bool zZ.up] 47) = WU at *
  generalize w13.heap.size = bU at *
  clear LU0
  go_cut [130] (fun c wc => c = .bool false ∧ WU.grownBy wc none)
  case first =>
    cases okZ
    · obtain ⟨q00, q01, q02, q03, q04⟩ := BZ
      obtain ⟨q10, q11, q12, q13, q14⟩ := BU
      go_wp2_with fail
      go_fit (likeArray_yes zZ _ _ _ LZ LU)
      rintro e w14 ⟨rfl, g14⟩
      replace BZ : Box5 _ bZ (.slice Za zZ.ds.length Zc) (.string (str zZ.log)) (.string (str zZ.next)) (.int .i64 zZ.stage) (.bool zZ.up) := ⟨q00, q01, q02, q03, q04⟩
      clear q00 q01 q02 q03 q04
      replace BU : Box5 _ bU (.slice Ua zZ.ds.length Uc) (.string (str zZ.log)) (.string (str zZ.next)) (.int .i64 zZ.stage) (.bool zZ.up) := ⟨q10, q11, q12, q13, q14⟩
      clear q10 q11 q12 q13 q14
      have k14 := BZ.kept g14
      go_wp2_with fail
      go_meet
      exact ⟨rfl, g14⟩
    · have hzo := HN1.out rfl
      obtain ⟨q00, q01, q02, q03, q04⟩ := BZ
      obtain ⟨q10, q11, q12, q13, q14⟩ := BU
      go_wp2_with fail
      go_fit (likeArray_yes zZ _ _ _ LZ LU)
      rintro e w14 ⟨rfl, g14⟩
      replace BZ : Box5 _ bZ (.slice Za zZ.ds.length Zc) (.string (str zZ.log)) (.string (str zZ.next)) (.int .i64 zZ.stage) (.bool zZ.up) := ⟨q00, q01, q02, q03, q04⟩
      clear q00 q01 q02 q03 q04
      replace BU : Box5 _ bU (.slice Ua zZ.ds.length Uc) (.string (str zZ.log)) (.string (str zZ.next)) (.int .i64 zZ.stage) (.bool zZ.up) := ⟨q10, q11, q12, q13, q14⟩
      clear q10 q11 q12 q13 q14
      have k14 := BZ.kept g14
      obtain ⟨q00, q01, q02, q03, q04⟩ := k14
      go_wp2_with fail
      go_fit (implArrayOk_any _ zZ _ (LZ.kept g14) ((HT.out.kept G22).kept g14) ((HV.out.kept G22).kept g14))
      rintro e w15 ⟨rfl, g15⟩
      rw [hzo]
      go_wp2_with fail
      go_meet
      exact ⟨rfl, gtrans g14 g15⟩
  case rest =>
    obtain ⟨rfl, g16⟩ := hcut
    clear LU BU LZ BZ HN1
    replace LA := LA.kept g16
    replace BA := BA.kept g16
    replace LX := LX.kept g16
    replace BX := BX.kept g16
    replace LS := LS.kept g16
    replace BS := BS.kept g16
    replace LY := LY.kept g16
    replace BY := BY.kept g16
    replace LR := LR.kept g16
    replace BR := BR.kept g16
    have G23 := gtrans G22 g16
    clear G22
    clear g16
    obtain ⟨q00, q01, q02, q03, q04⟩ := BR
    go_wp2_with fail
    go_fit (CS4 _ _ LR)
    rintro e w17 ⟨rfl, g17⟩
    replace BR : Box5 _ bR (.slice Ra zR.ds.length Rc) (.string (str zR.log)) (.string (str zR.next)) (.int .i64 zR.stage) (.bool zR.up) := ⟨q00, q01, q02, q03, q04⟩
    clear q00 q01 q02 q03 q04
    replace LA := LA.kept g17
    replace BA := BA.kept g17
    replace LX := LX.kept g17
    replace BX := BX.kept g17
    replace LS := LS.kept g17
    replace BS := BS.kept g17
    replace LY := LY.kept g17
    replace BY := BY.kept g17
    replace LR := LR.kept g17
    replace BR := BR.kept g17
    have G24 := gtrans G23 g17
    clear G23
    clear g17 CS4 LR BR
    go_upto_region 23 with (fail)
    go_cut [178] (fun c wc => c = .bool false ∧ w17.grownBy wc none)
    case first =>
      cases okY
      · have HSS := Lib.hid (HS2.out rfl)
        obtain ⟨q00, q01, q02, q03, q04⟩ := BS
        obtain ⟨q10, q11, q12, q13, q14⟩ := BY
        go_wp2_with fail
        go_fit (specArrayOk_any _ zS _ LS (by omega) (by omega))
        rintro e w18 ⟨rfl, g18⟩
        replace BS : Box5 _ bS (.slice Sa zS.ds.length Sc) (.string (str zS.log)) (.string (str zS.next)) (.int .i64 zS.stage) (.bool zS.up) := ⟨q00, q01, q02, q03, q04⟩
        clear q00 q01 q02 q03 q04
        replace BY : Box5 _ bY (.slice Ya zY.ds.length Yc) (.string (str zY.log)) (.string (str zY.next)) (.int .i64 zY.stage) (.bool zY.up) := ⟨q10, q11, q12, q13, q14⟩
        clear q10 q11 q12 q13 q14
        cases hzs : zS.ok
        · go_wp2_with fail
          go_meet
          exact ⟨rfl, g18⟩
        · obtain ⟨rfl, hst⟩ := HSS.out hzs
          have HST := Lib.hid hst
          clear hst
          replace BS := BS.kept g18
          replace BY := BY.kept g18
          obtain ⟨q00, q01, q02, q03, q04⟩ := BS
          obtain ⟨q10, q11, q12, q13, q14⟩ := BY
          go_wp2_with fail
          go_fit (likeArray_yes zS _ _ _ (LY.kept g18) (LS.kept g18))
          rintro e w19 ⟨rfl, g19⟩
          replace BS : Box5 _ bS (.slice Sa zS.ds.length Sc) (.string (str zS.log)) (.string (str zS.next)) (.int .i64 zS.stage) (.bool zS.up) := ⟨q00, q01, q02, q03, q04⟩
          clear q00 q01 q02 q03 q04
          replace BY : Box5 _ bY (.slice Ya zS.ds.length Yc) (.string (str zS.log)) (.string (str zS.next)) (.int .i64 zS.stage) (.bool zS.up) := ⟨q10, q11, q12, q13, q14⟩
          clear q10 q11 q12 q13 q14
          replace BS := BS.kept g19
          obtain ⟨r0, r1, r2, r3, r4⟩ := BS
          rw [HST.out] at r3
          go_wp2_with fail
          go_meet
          exact ⟨rfl, gtrans g18 g19⟩
      · obtain ⟨hyo, hym, hs0, hs4⟩ := HS1.out rfl
        obtain ⟨q00, q01, q02, q03, q04⟩ := BS
        obtain ⟨q10, q11, q12, q13, q14⟩ := BY
        go_wp2_with fail
        go_fit (implArrayOk_any _ zY _ LY (HT.out.kept G24) (HV.out.kept G24))
        rintro e w18 ⟨rfl, g18⟩
        rw [hyo]
        replace BS : Box5 _ bS (.slice Sa zS.ds.length Sc) (.string (str zS.log)) (.string (str zS.next)) (.int .i64 zS.stage) (.bool zS.up) := ⟨q00, q01, q02, q03, q04⟩
        clear q00 q01 q02 q03 q04
        replace BY : Box5 _ bY (.slice Ya zY.ds.length Yc) (.string (str zY.log)) (.string (str zY.next)) (.int .i64 zY.stage) (.bool zY.up) := ⟨q10, q11, q12, q13, q14⟩
        clear q10 q11 q12 q13 q14
        replace BS := BS.kept g18
        replace BY := BY.kept g18
        obtain ⟨q00, q01, q02, q03, q04⟩ := BS
        obtain ⟨q10, q11, q12, q13, q14⟩ := BY
        have hw1 : IntKind.i64.wrap (zS.stage + 1) = zS.stage + 1 := IntWalk.i64_in _ (by omega)
        rw [← hym] at q13
        go_wp2_with fail
        go_meet
        exact ⟨rfl, g18⟩
    case rest =>
      obtain ⟨rfl, g20⟩ := hcut
      clear LS BS LY BY HS1 HS2
      replace LA := LA.kept g20
      replace BA := BA.kept g20
      replace LX := LX.kept g20
      replace BX := BX.kept g20
      have G25 := gtrans G24 g20
      clear G24
      clear g20
      obtain ⟨q00, q01, q02, q03, q04⟩ := BA
      go_wp2_with fail
      go_fit (specArrayOk_any _ zA _ LA (by omega) (by omega))
      rintro e w21 ⟨rfl, g21⟩
      replace BA : Box5 _ bA (.slice Aa zA.ds.length Ac) (.string (str zA.log)) (.string (str zA.next)) (.int .i64 zA.stage) (.bool zA.up) := ⟨q00, q01, q02, q03, q04⟩
      clear q00 q01 q02 q03 q04
      replace LA := LA.kept g21
      replace BA := BA.kept g21
      replace LX := LX.kept g21
      replace BX := BX.kept g21
      have G26 := gtrans G25 g21
      clear G25
      clear g21
      cases hzo : zA.ok
      · obtain ⟨rfl, rfl⟩ := HB1.out hzo
        have CZ : ∀ (v : Value) (W : World) (h : LD W v AZ.zero.ds), Calls Tryz.prog 35 #[AZ.zero.val v, .agg #[.slice none 0 0, .string ⟨#[]⟩, .string ⟨#[]⟩, .int .i64 0, .bool false]] W (Pure (.bool true) W) := fun v W h => likeArray_yes AZ.zero v (.slice none 0 0) W h (OD.nil W 0).ld
        obtain ⟨q00, q01, q02, q03, q04⟩ := BX
        go_wp2_with fail
        go_fit (CZ _ _ LX)
        rintro e w22 ⟨rfl, g22⟩
        go_wp2_with fail
        go_ret
        exact ⟨rfl, gbelow (gtrans G26 g22)⟩
      cases okX
      · obtain rfl := HB2.out hzo rfl
        obtain ⟨q00, q01, q02, q03, q04⟩ := BX
        obtain ⟨q10, q11, q12, q13, q14⟩ := BA
        go_wp2_with fail
        go_fit (likeArray_yes _ _ _ _ LX LA)
        rintro e w22 ⟨rfl, g22⟩
        go_wp2_with fail
        go_ret
        exact ⟨rfl, gbelow (gtrans G26 g22)⟩
      have H3 := Lib.hid (HB3.out hzo rfl)
      obtain ⟨q00, q01, q02, q03, q04⟩ := BX
      go_wp2_with fail
      go_fit (implArrayOk_any _ zX _ LX (HT.out.kept G26) (HV.out.kept G26))
      rintro e w22 ⟨rfl, g22⟩
      rw [H3.out.1]
      replace BX : Box5 _ bX (.slice Xa zX.ds.length Xc) (.string (str zX.log)) (.string (str zX.next)) (.int .i64 zX.stage) (.bool zX.up) := Box5.kept ⟨q00, q01, q02, q03, q04⟩ g22
      clear q00 q01 q02 q03 q04
      replace BA := BA.kept g22
      obtain ⟨q00, q01, q02, q03, q04⟩ := BX
      obtain ⟨q10, q11, q12, q13, q14⟩ := BA
      rw [H3.out.2.1] at q03
      go_wp2_with fail
      go_fit (likeDisks_yes _ _ zX.ds _ (LX.kept g22) (by rw [H3.out.2.2]; exact LA.kept g22))
      rintro e w23 ⟨rfl, g23⟩
      go_wp2_with fail
      go_ret
      exact ⟨rfl, gbelow (gtrans (gtrans G26 g22) g23)⟩

set_option maxRecDepth 100000 in
theorem lifted (os : Os) (started : os.Started) (H : Type) (enc : TypeId × Value → H) :
    ReturnsInHanded {} Tryz.checked os 4 .any (fun w args => (Rows.fnArraysSpec.pre enc Tryz.prog Tryz.f4 [] false w args ∧ laidMetH Tryz.prog laidL w) ∧ sizedMet enc Tryz.prog Tryz.f4 (OpenSpec.ofChange Rows.fnArraysSpec) false w args)
      (Rows.fnArraysSpec.post enc Tryz.prog Tryz.f4 false true false false) := by
  refine handed_laid_shaped (C := Tryz.checked) (X := fun w _ => laidMetH Tryz.prog laidL w) (fun _ _ _ hh h => h.of_heap hh) own started (by kernel_rfl) Tryz.func4
    (ChangeSpec.witness_shaped (enc := enc) (C := Tryz.checked) (os := os) (X := fun w _ => laidMetH Tryz.prog laidL w) false (startW os) #[.slice none 0 0] 8 rfl (World.shaped_of_RefB (by kernel_rfl) (by kernel_rfl)) (by kernel_rfl) (by kernel_rfl) (by kernel_rfl) (door_met os _)) ?_
  intro W base args ds gs before hval0 hW hL hS
  have hval : ∀ (j : Nat) t v, Tryz.f4.params[j]? = some t → args[j]? = some v → Value.okWide Tryz.prog W .any base t v := hval0
  have hW' := hW
  obtain ⟨p, q, hA0, hV, rfl, hfz, hnd⟩ := hW
  have hA : DataW.TrodAll enc Tryz.prog W 0 (fun _ => true) true Tryz.f4.params.toList args.toList ds p := hA0
  rw [Tryz.params4] at hA hval
  obtain ⟨x0, vs0, d0, ds0, p0, q0, hargs, rfl, rfl, h0, r0⟩ := trodAll_cons hA
  obtain ⟨rfl, rfl, rfl⟩ := trodAll_nil r0
  obtain rfl : args = #[x0] := by cases args; simp_all
  obtain ⟨rfl, rfl⟩ := trodVars_none hV
  have k0 := h0
  have lt0 : ∀ x ∈ p0, x.block < W.heap.size := by obtain ⟨m, hm⟩ := k0; exact DataW.trod_lt m _ _ _ hm
  obtain ⟨a0, n0, c0, z0, rfl, w0⟩ := openCode (hval 0 22 x0 rfl rfl) h0
  clear hA0 hval0
  refine (walk W (plainL hL) hS a0 n0 c0 z0 w0).mono fun e W' ⟨he, bel⟩ => ?_
  subst he
  exact ⟨_, rfl, _, _, _, [], _, [], hW', trodAll_mk1 (shut_bool Tryz.underlying4 _), (trodAll_cons_mk (Below.trod laidOut (by kernel_rfl) (of_decide_eq_true (by kernel_rfl)) k0 bel lt0) trodAll_mk0), rfl, bel.frame _, fun h => by cases h⟩

theorem over1 : (Rows.fnArraysRow.inPlace == Tryz.pinned.checked.prog.inPlace 4) = true := by kernel_rfl
theorem over2 : (Rows.fnArraysRow.unfollowed == Tryz.pinned.checked.prog.unfollowed 4) = true := by kernel_rfl
theorem over3 : (Rows.fnArraysRow.recurses == Tryz.pinned.checked.prog.recurses 4) = true := by kernel_rfl
theorem over4 : (Rows.fnArraysRow.named == Tryz.pinned.checked.prog.varsNamed 4) = true := by kernel_rfl
theorem overs : joinedFacts Tryz.pinned.checked.prog 4 Tryz.f4 Rows.fnArraysSpec Rows.fnArraysRow = true := by
  unfold joinedFacts
  rw [over1, over2, over3, over4]
  kernel_rfl
theorem over : Rows.FnArraysSaid :=
  OpenClaim.holds_of_wide 4 Tryz.f4 rfl rfl rfl rfl rfl rfl rfl ⟨rfl, rfl, rfl, rfl, rfl⟩ rfl rfl rfl rfl rfl (by kernel_rfl) Tryz.func4 overs
    (of_decide_eq_true (by kernel_rfl)) (by unfold Func.isWrapper; first | (rw [if_pos (by decide +kernel)]; kernel_rfl) | (rw [if_neg (by decide +kernel)]; exact ⟨rfl, rfl⟩))
    (fun os started H enc _ => lifted os started H enc)

theorem proved : Rows.FnArraysCardSaid :=
  Claim7.holds_tied_plain_at .later [] [.data, .data, .data, .data, .sentinel, .sentinel, .pinned] true (true, "4cacc0393fa2a022be30162e432a8d6d8adfc363a75c99ed321b0087c3ded344") true
    over (fun _ h => by cases h) (by kernel_rfl) (fun _ h => by cases h) fnArrays_row_tie rfl ⟨rfl, rfl⟩ (by kernel_rfl) rfl
    (fun f fn hf hfn => by
      obtain rfl : f = 4 := Option.some.inj ((show Tryz.prog.funcNamed "loop.example/g00406/laws.FnArrays" = some 4 by kernel_rfl).symm.trans hf) |>.symm
      obtain rfl : fn = Tryz.f4 := (Option.some.inj (Tryz.func4.symm.trans hfn)).symm
      exact ⟨by kernel_rfl, fun j t ht => by
        rw [Tryz.params4] at ht
        have hm : t ∈ [22] := by
          have := List.mem_of_getElem? (l := [22]) (i := j) (a := t) (by simpa using ht)
          exact this
        simp only [List.mem_cons, List.mem_nil_iff, or_false] at hm
        rcases hm with rfl
        · exact (show Tryz.prog.wantsStandIn 22 = false by kernel_rfl)⟩)
    (by kernel_rfl)
#print axioms proved
end Go.Proofs.YtdfhfebcbmolbaaGreatDoor.fnArrays
