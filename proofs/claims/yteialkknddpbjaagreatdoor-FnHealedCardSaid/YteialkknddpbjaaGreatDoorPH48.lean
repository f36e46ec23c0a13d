/- The law FnHealed, walked. -/
import Derived.Test.YteialkknddpbjaaGreatDoorRows
import Derived.Test.YteialkknddpbjaaGreatDoorCards
import Derived.Test.YteialkknddpbjaaGreatDoorTie
import Derived.SevenTiedAt
import Derived.WalkKit
import Derived.ProofKit
import Derived.LaidMore
import Derived.OpenShut
import Derived.Stop.Joined
import Derived.ShutString
import Derived.ChangeOld
import Derived.Below
import Derived.Carry
import Derived.Deep.RegionHeld3
import Derived.Deep.DeepCutAuto
import Derived.Stop.LaidErr
import Derived.Shelf.Vars
import Derived.Test.YteialkknddpbjaaGreatDoorPH02
import Derived.Test.YteialkknddpbjaaGreatDoorPH40
import Derived.Test.YteialkknddpbjaaGreatDoorPH41
import Derived.Test.YteialkknddpbjaaGreatDoorPH46
import Derived.Test.YteialkknddpbjaaGreatDoorPH47
namespace Go.Proofs.YteialkknddpbjaaGreatDoor.fnHealed
open Go.ChangeShapes Go.WideShapes Go.ChangeAt Go.RowKit
set_option linter.unusedVariables false

def laidL : List (String × DataW Unit) := [("math/bits.deBruijn32tab", Rows.laid_math_bits_deBruijn32tab), ("math/bits.deBruijn64tab", Rows.laid_math_bits_deBruijn64tab), ("internal/strconv.uint64pow10", Rows.laid_internal_strconv_uint64pow10), ("unicode/utf8.acceptRanges", Rows.laid_unicode_utf8_acceptRanges), ("strconv.ErrRange", Rows.laid_strconv_ErrRange), ("strconv.ErrSyntax", Rows.laid_strconv_ErrSyntax), ("unicode/utf8.first", Rows.laid_unicode_utf8_first)]
theorem pow_of {w : World} (h : laidMet Tryz.prog laidL w) : Pow10 w :=
  Lib.tabIs_of_head (g := 1) (t := 266) (e := 253) (n := 20) (by kernel_rfl) (by kernel_rfl) Tryz.underlying266 Tryz.underlying253 (by kernel_rfl) (by kernel_rfl) (laidMet.tail (laidMet.tail h))
theorem star : "*" ++ "errors.errorString" = "*errors.errorString" := by decide
theorem row_err (u : TypeId) (h : Tryz.prog.typeName? 3 u = some "*errors.errorString") : u = 293 :=
  typeName_ptr_named (nm := "errors.errorString") (by rw [star]; kernel_rfl) (by kernel_rfl) (by decide) u (by rw [star]; exact h)
theorem lib_of {w : World} (h : laidMet Tryz.prog laidL w) (hS : w.ShapedOpen Tryz.prog) : LibV w := by
  have h4 := laidMet.tail (laidMet.tail (laidMet.tail (laidMet.tail h)))
  obtain ⟨a1, s1, v1, -, -, -⟩ := laid_sentinel h4 (g := 3) (ti := 234) (tp := 293) (te := 295) (ts := 9) (by kernel_rfl) (by kernel_rfl) Tryz.underlying234 row_err Tryz.underlying293 Tryz.underlying295 rfl rfl Tryz.underlying9 (by kernel_rfl) (by kernel_rfl)
  obtain ⟨a2, s2, v2, -, -, -⟩ := laid_sentinel (laidMet.tail h4) (g := 2) (ti := 234) (tp := 293) (te := 295) (ts := 9) (by kernel_rfl) (by kernel_rfl) Tryz.underlying234 row_err Tryz.underlying293 Tryz.underlying295 rfl rfl Tryz.underlying9 (by kernel_rfl) (by kernel_rfl)
  exact ⟨⟨_, _, v2⟩, ⟨_, _, v1⟩, cell_of_shapedOpen_int (P := Tryz.prog) (g := 0) (t := 3) (zero := #[.int .i64 0]) hS (of_decide_eq_true (by kernel_rfl)) (by kernel_rfl) rfl (by kernel_rfl) (by kernel_rfl) Tryz.underlying3⟩
def HealIs (a x : AZ) (r : Int) : Prop := x.ds.length = a.ds.length ∧ x.ok = true ∧ (badInZ a.ds r).length = 1 ∧ badInZ x.ds r = [] ∧ ∀ k : Nat, k < a.ds.length → cellAtOk a.ds k r = true ∧ cellAtOk x.ds k r = true ∧ cellAtV x.ds k r = cellAtV a.ds k r
theorem healed_same {a : AZ} {r : Int} (e : a.ok = true) (f : healedOk a r = false) : healedZ a r = a := by
  have hb : healOk a r = false := by simpa [healedOk, e] using f
  have hg : healGo a r = false := by rw [← heal_ok e r]; exact hb
  simp [healedZ, e, (heal_no hg).2]
theorem healed_is {a : AZ} {r : Int} (f : healedOk a r = true) : HealIs a (healedZ a r) r := by
  simp only [healedOk, Bool.and_eq_true] at f
  obtain ⟨h, hg⟩ := f
  have e1 : healedZ a r = a.healed r := by simp [healedZ, h]
  obtain ⟨r0, r1, hb, hx, hl, hc⟩ := heal_facts h hg
  have hxo := AZ.ok_healed h r
  have hA := healed_alike a r
  have hh : hasZ a.ds r = true := by unfold hasZ; rw [AZ.ok_ds h, decide_eq_true ⟨r0, r1⟩]; rfl
  rw [e1]
  refine ⟨hl, hxo, by unfold badInZ; rw [if_pos hh]; exact hb, ?_, hc⟩
  unfold badInZ
  rw [hx]; split <;> rfl
def NumR (lo hi : Int) (v : Value) : Prop := ∃ x : Int, lo ≤ x ∧ x ≤ hi ∧ v = .int .i64 x
theorem NumR.of {lo hi x : Int} (h1 : lo ≤ x) (h2 : x ≤ hi) : NumR lo hi (.int .i64 x) := ⟨x, h1, h2, rfl⟩
def RotT (z : AZ) (i : Nat) (base : Nat) (v : Value) (u : World) : Prop := ∃ (y : Int) (xv : Value) (raw : List DV) (t : Value), 1 ≤ y ∧ y ≤ 32767 ∧ v = .tuple #[(rottedZ z i 0 y).val xv, t] ∧ OD u base xv (rottedZ z i 0 y).ds raw
def RotV (z : AZ) (i : Nat) (base : Nat) (v : Value) (u : World) : Prop := ∃ (y : Int) (xv : Value) (raw : List DV), 1 ≤ y ∧ y ≤ 32767 ∧ v = (rottedZ z i 0 y).val xv ∧ OD u base xv (rottedZ z i 0 y).ds raw
theorem RotT.grew {z : AZ} {i base : Nat} {v : Value} {u u' : World} (h : RotT z i base v u) (g : u.grownBy u' none) : RotT z i base v u' := by
  obtain ⟨y, xv, raw, t, h1, h2, h3, h4⟩ := h
  exact ⟨y, xv, raw, t, h1, h2, h3, h4.grew g⟩
theorem RotV.grew {z : AZ} {i base : Nat} {v : Value} {u u' : World} (h : RotV z i base v u) (g : u.grownBy u' none) : RotV z i base v u' := by
  obtain ⟨y, xv, raw, h1, h2, h3, h4⟩ := h
  exact ⟨y, xv, raw, h1, h2, h3, h4.grew g⟩
theorem RotT.of {z : AZ} {i base b2 : Nat} {xv t : Value} {raw : List DV} {u : World} {y : Int} (h1 : 1 ≤ y) (h2 : y ≤ 32767) (h : OD u b2 xv (rottedZ z i 0 y).ds raw) (hb : base ≤ b2) : RotT z i base (.tuple #[(rottedZ z i 0 y).val xv, t]) u := ⟨y, xv, raw, t, h1, h2, rfl, h.lower hb⟩
theorem RotV.of {z : AZ} {i base : Nat} {xv : Value} {raw : List DV} {u : World} {y : Int} (h1 : 1 ≤ y) (h2 : y ≤ 32767) (h : OD u base xv (rottedZ z i 0 y).ds raw) : RotV z i base ((rottedZ z i 0 y).val xv) u := ⟨y, xv, raw, h1, h2, rfl, h⟩
def NewR (base : Nat) (v : Value) (u : World) : Prop := ∃ fb : Nat, v = .pointer (some ⟨fb, 0, none⟩) ∧ base ≤ fb ∧ u.heap[fb]? = some (.cells #[.slice none 0 0, .string ⟨#[]⟩, .string ⟨#[]⟩, .int .i64 0, .bool false] 26 (0, 0))
theorem NewR.grew {base : Nat} {v : Value} {u u' : World} (h : NewR base v u) (g : u.grownBy u' none) : NewR base v u' := by
  obtain ⟨fb, h1, h2, h3⟩ := h
  exact ⟨fb, h1, h2, (g.block fb (Array.getElem?_eq_some_iff.1 h3).1 (by simp)).trans h3⟩
theorem NewR.of {base : Nat} {u : World} (h : base ≤ u.heap.size) : NewR base (.pointer (some ⟨u.heap.size, 0, none⟩)) (u.alloc (.cells #[.slice none 0 0, .string ⟨#[]⟩, .string ⟨#[]⟩, .int .i64 0, .bool false] 26)) := ⟨u.heap.size, rfl, h, World.alloc_heap_new u _⟩
def RepIs (y : AZ) (d : Int) : Prop := ∃ i : Nat, d = i ∧ ∃ hi : i < y.ds.length, (∀ r : Int, y.ds[i].can r = false) ∧ (∀ x : Int, 1 ≤ x → x ≤ 32767 → ∃ hz : i < (rottedZ y i 0 x).ds.length, (rottedZ y i 0 x).ds[i].can 0 = false) ∧ y.ok = true
theorem repl_is {a : AZ} {d : Int} (f : replOk a d = true) : RepIs (replZ a d) d := by
  simp only [replOk, Bool.and_eq_true] at f
  obtain ⟨h, hg⟩ := f
  obtain ⟨i, rfl, hi, -, -, -, e⟩ := replaced_yes hg
  have e1 : replZ a i = { a with ds := a.ds.set i (repD a i) } := by simp only [replZ, h, if_true]; exact e
  have hok : (replZ a i).ok = true := by rw [show replZ a i = a.replacedZ i by simp only [replZ, h, if_true]]; exact replaced_ok h i
  obtain ⟨k1, k2, k3⟩ := repD_facts h hi
  have hil : i < (replZ a i).ds.length := by rw [e1]; simpa using hi
  have hat : (replZ a i).ds[i] = repD a i := by simp only [e1, List.getElem_set_self]
  refine ⟨i, rfl, hil, fun r => by rw [hat]; exact k3 r, fun x h1 h2 => ?_, hok⟩
  have hrr := rep_rot h hi h1 h2
  have hro : rotOk (replZ a i) i 0 x = true := by
    simp only [rotOk, Bool.and_eq_true, decide_eq_true_eq, Int.toNat_natCast, getD_at hil, hat]
    have hr1 := (rows_le (AZ.ok_ds h)).1
    refine ⟨by omega, ?_, inB_yes h1 h2⟩
    unfold DZ.has; rw [k2]; exact decide_eq_true (by omega)
  have e2 : (rottedZ (replZ a i) i 0 x).ds = (replZ a i).ds.set i ((repD a i).rot 0 x) := by
    simp only [rottedZ, hok, if_true, AZ.rotted, hro, Int.toNat_natCast, getD_at hil, hat]; rfl
  refine ⟨by rw [e2]; simpa using hil, ?_⟩
  simp only [e2, List.getElem_set_self]
  exact hrr
theorem repl_len (a : AZ) (d : Int) (h1 : a.log.length ≤ 1100000) (h2 : a.next.length ≤ 1100000) : (replZ a d).log.length ≤ 1100000 ∧ (replZ a d).next.length ≤ 1100000 := by
  unfold replZ AZ.replacedZ
  split
  · split
    · exact ⟨h1, h2⟩
    · exact ⟨h1, h2⟩
  · exact ⟨by simp [AZ.zero], by simp [AZ.zero]⟩

set_option maxRecDepth 100000 in
set_option maxHeartbeats 40000000 in
theorem walk (w : World) (HL : Hid (laidMet Tryz.prog laidL w)) (hS : w.ShapedOpen Tryz.prog) (a0 : Option Addr) (n0 c0 : Nat) (z0 : List Int) (w0 : IsRow w a0 n0 c0 z0) :
    Calls Tryz.prog 3 #[.slice a0 n0 c0] w fun e w' => e = .returned (.bool true) ∧ Below w.heap.size w w' := by
  have HT := Lib.hid (pow_of HL.out)
  have HV := Lib.hid (lib_of HL.out hS)
  clear HL hS
  by_cases hb : 4096 < n0
  · go_enter Tryz.func3, Tryz.ntmps3
    go_wp2_with fail
    go_fit (big_yes _ _ _ _ hb)
    rintro e w' ⟨rfl, rfl⟩
    go_wp2_with fail
    go_ret
    exact ⟨rfl, Below.refl _ _⟩
  have hR := codeAt_of w0 (by omega)
  clear w0
  go_enter Tryz.func3, Tryz.ntmps3
  go_wp2_with fail
  go_fit (big_no _ _ _ _ (by omega))
  rintro e w' ⟨rfl, rfl⟩
  go_wp2_with fail
  go_fit (drawHealed_any _ _ _ _ hR)
  rintro e w1 ⟨zA, vA, rv, rfl, hrv, OA⟩
  obtain ⟨OAl, hA1, hA2, gA⟩ := OA
  replace OAl := OAl _ (Only.refl _ _)
  have G1 := gA
  clear gA
  have LA := OAl
  obtain ⟨Aa, Ac, rfl, -⟩ := LA.form
  have eA := galloc (grefl w1) (.cells #[.slice Aa zA.ds.length Ac, .string (str zA.log), .string (str zA.next), .int .i64 zA.stage, .bool zA.up] 26)
  have BA := Box5.new w1 (.slice Aa zA.ds.length Ac) (.string (str zA.log)) (.string (str zA.next)) (.int .i64 zA.stage) (.bool zA.up) 26
  replace LA := LA.kept eA
  have G2 := gtrans G1 eA
  clear G1
  clear eA
  go_upto_region 4 with (fail)
  generalize w1.alloc (.cells #[.slice Aa zA.ds.length Ac, .string (str zA.log), .string (str zA.next), .int .i64 zA.stage, .bool zA.up] 26) = WA at *
  generalize w1.heap.size = bA at *
  clear OAl
  obtain ⟨q00, q01, q02, q03, q04⟩ := BA
  go_wp2_with fail
  go_fit (implHealed_any _ zA rv _ LA (HT.out.kept G2) (HV.out.kept G2))
  rintro e w2 ⟨vX, rawX, rfl, oX, g2⟩
  replace BA : Box5 _ bA (.slice Aa zA.ds.length Ac) (.string (str zA.log)) (.string (str zA.next)) (.int .i64 zA.stage) (.bool zA.up) := ⟨q00, q01, q02, q03, q04⟩
  clear q00 q01 q02 q03 q04
  clear hrv
  replace LA := LA.kept g2
  replace BA := BA.kept g2
  have G3 := gtrans G2 g2
  clear G2
  have LX0 := oX.ld
  clear oX g2
  have HB1 : Hid (zA.ok = false → healedZ zA rv = .zero ∧ healedOk zA rv = false) := fun e => by constructor <;> simp [healedZ, healedOk, e]
  have HB2 : Hid (zA.ok = true → healedOk zA rv = false → healedZ zA rv = zA) := fun e f => healed_same e f
  have HB3 : Hid (healedOk zA rv = true → HealIs zA (healedZ zA rv) rv) := fun f => healed_is f
  have CS1 := fun (W : World) (v : Value) (h : LD W v zA.ds) => specHealed_any v zA rv W h (by omega) (by omega)
  generalize healedZ zA rv = zX at *
  generalize healedOk zA rv = okX at *
  have LX := LX0
  obtain ⟨Xa, Xc, rfl, -⟩ := LX.form
  have eX := galloc (grefl w2) (.cells #[.slice Xa zX.ds.length Xc, .string (str zX.log), .string (str zX.next), .int .i64 zX.stage, .bool zX.up] 26)
  have BX := Box5.new w2 (.slice Xa zX.ds.length Xc) (.string (str zX.log)) (.string (str zX.next)) (.int .i64 zX.stage) (.bool zX.up) 26
  replace LA := LA.kept eX
  replace BA := BA.kept eX
  replace LX := LX.kept eX
  have G4 := gtrans G3 eX
  clear G3
  clear eX
  go_upto_region 5 with (fail)
  generalize w2.alloc (.cells #[.slice Xa zX.ds.length Xc, .string (str zX.log), .string (str zX.next), .int .i64 zX.stage, .bool zX.up] 26) = WX at *
  generalize w2.heap.size = bX at *
  clear LX0
  go_wp2_with fail
  go_fit (drawReplaced_any _ _ _ _ (hR.kept (gbelow G4)))
  rintro e w3 ⟨zE, vE, dv, rfl, hdv, OE⟩
  obtain ⟨OEl, hE1, hE2, gE⟩ := OE
  replace OEl := OEl _ (Only.refl _ _)
  replace LA := LA.kept gE
  replace BA := BA.kept gE
  replace LX := LX.kept gE
  replace BX := BX.kept gE
  have G5 := gtrans G4 gE
  clear G4
  clear gE
  have LE := OEl
  obtain ⟨Ea, Ec, rfl, -⟩ := LE.form
  have eE := galloc (grefl w3) (.cells #[.slice Ea zE.ds.length Ec, .string (str zE.log), .string (str zE.next), .int .i64 zE.stage, .bool zE.up] 26)
  have BE := Box5.new w3 (.slice Ea zE.ds.length Ec) (.string (str zE.log)) (.string (str zE.next)) (.int .i64 zE.stage) (.bool zE.up) 26
  replace LA := LA.kept eE
  replace BA := BA.kept eE
  replace LX := LX.kept eE
  replace BX := BX.kept eE
  replace LE := LE.kept eE
  have G6 := gtrans G5 eE
  clear G5
  clear eE
  go_upto_region 6 with (fail)
  generalize w3.alloc (.cells #[.slice Ea zE.ds.length Ec, .string (str zE.log), .string (str zE.next), .int .i64 zE.stage, .bool zE.up] 26) = WE at *
  generalize w3.heap.size = bE at *
  clear OEl
  obtain ⟨q00, q01, q02, q03, q04⟩ := BE
  go_wp2_with fail
  go_fit (implReplaced_any _ zE dv _ LE (HT.out.kept G6) (HV.out.kept G6))
  rintro e w4 ⟨vY, rawY, rfl, oY, g4⟩
  replace BE : Box5 _ bE (.slice Ea zE.ds.length Ec) (.string (str zE.log)) (.string (str zE.next)) (.int .i64 zE.stage) (.bool zE.up) := ⟨q00, q01, q02, q03, q04⟩
  clear q00 q01 q02 q03 q04
  clear hdv
  replace LA := LA.kept g4
  replace BA := BA.kept g4
  replace LX := LX.kept g4
  replace BX := BX.kept g4
  replace LE := LE.kept g4
  replace BE := BE.kept g4
  have G7 := gtrans G6 g4
  clear G6
  have LY0 := oY.ld
  clear oY g4
  have HY : Hid (replOk zE dv = true → RepIs (replZ zE dv) dv) := fun f => repl_is f
  have HYz : Hid ((replZ zE dv).log.length ≤ 1100000 ∧ (replZ zE dv).next.length ≤ 1100000) := repl_len zE dv (by omega) (by omega)
  have CS2 := fun (W : World) (v : Value) (h : LD W v zE.ds) => specReplaced_any v zE dv W h (by omega) (by omega)
  generalize replZ zE dv = zY at *
  generalize replOk zE dv = okY at *
  have LY := LY0
  obtain ⟨Ya, Yc, rfl, -⟩ := LY.form
  have eY := galloc (grefl w4) (.cells #[.slice Ya zY.ds.length Yc, .string (str zY.log), .string (str zY.next), .int .i64 zY.stage, .bool zY.up] 26)
  have BY := Box5.new w4 (.slice Ya zY.ds.length Yc) (.string (str zY.log)) (.string (str zY.next)) (.int .i64 zY.stage) (.bool zY.up) 26
  replace LA := LA.kept eY
  replace BA := BA.kept eY
  replace LX := LX.kept eY
  replace BX := BX.kept eY
  replace LE := LE.kept eY
  replace BE := BE.kept eY
  replace LY := LY.kept eY
  have G8 := gtrans G7 eY
  clear G7
  clear eY
  go_upto_region 7 with (fail)
  generalize w4.alloc (.cells #[.slice Ya zY.ds.length Yc, .string (str zY.log), .string (str zY.next), .int .i64 zY.stage, .bool zY.up] 26) = WY at *
  generalize w4.heap.size = bY at *
  clear LY0
  obtain ⟨q00, q01, q02, q03, q04⟩ := BA
  go_wp2_with fail
  go_fit (CS1 _ _ LA)
  rintro e w5 ⟨vZ, rawZ, rfl, oZ, g5⟩
  replace BA : Box5 _ bA (.slice Aa zA.ds.length Ac) (.string (str zA.log)) (.string (str zA.next)) (.int .i64 zA.stage) (.bool zA.up) := ⟨q00, q01, q02, q03, q04⟩
  clear q00 q01 q02 q03 q04
  replace LA := LA.kept g5
  replace BA := BA.kept g5
  replace LX := LX.kept g5
  replace BX := BX.kept g5
  replace LE := LE.kept g5
  replace BE := BE.kept g5
  replace LY := LY.kept g5
  replace BY := BY.kept g5
  have G9 := gtrans G8 g5
  clear G8
  have LZ0 := oZ.ld
  clear oZ g5 CS1
  have LZ := LZ0
  obtain ⟨Za, Zc, rfl, -⟩ := LZ.form
  have eZ := galloc (grefl w5) (.cells #[.slice Za zX.ds.length Zc, .string (str zX.log), .string (str zX.next), .int .i64 zX.stage, .bool zX.up] 26)
  have BZ := Box5.new w5 (.slice Za zX.ds.length Zc) (.string (str zX.log)) (.string (str zX.next)) (.int .i64 zX.stage) (.bool zX.up) 26
  replace LA := LA.kept eZ
  replace BA := BA.kept eZ
  replace LX := LX.kept eZ
  replace BX := BX.kept eZ
  replace LE := LE.kept eZ
  replace BE := BE.kept eZ
  replace LY := LY.kept eZ
  replace BY := BY.kept eZ
  replace LZ := LZ.kept eZ
  have G10 := gtrans G9 eZ
  clear G9
  clear eZ
  go_upto_region 8 with (fail)
  generalize w5.alloc (.cells #[.slice Za zX.ds.length Zc, .string (str zX.log), .string (str zX.next), .int .i64 zX.stage, .bool zX.up] 26) = WZ at *
  generalize w5.heap.size = bZ at *
  clear LZ0
  obtain ⟨q00, q01, q02, q03, q04⟩ := BX
  obtain ⟨q10, q11, q12, q13, q14⟩ := BZ
  go_wp2_with fail
  go_fit (likeArray_yes zX _ _ _ LX LZ)
  rintro e w6 ⟨rfl, g6⟩
  replace BX : Box5 _ bX (.slice Xa zX.ds.length Xc) (.string (str zX.log)) (.string (str zX.next)) (.int .i64 zX.stage) (.bool zX.up) := ⟨q00, q01, q02, q03, q04⟩
  clear q00 q01 q02 q03 q04
  replace BZ : Box5 _ bZ (.slice Za zX.ds.length Zc) (.string (str zX.log)) (.string (str zX.next)) (.int .i64 zX.stage) (.bool zX.up) := ⟨q10, q11, q12, q13, q14⟩
  clear q10 q11 q12 q13 q14
  replace LA := LA.kept g6
  replace BA := BA.kept g6
  replace LX := LX.kept g6
  replace BX := BX.kept g6
  replace LE := LE.kept g6
  replace BE := BE.kept g6
  replace LY := LY.kept g6
  replace BY := BY.kept g6
  replace LZ := LZ.kept g6
  replace BZ := BZ.kept g6
  have G11 := gtrans G10 g6
  clear G10
  clear g6
  clear LZ BZ
  obtain ⟨q00, q01, q02, q03, q04⟩ := BE
  go_wp2_with fail
  go_fit (CS2 _ _ LE)
  rintro e w7 ⟨vU, rawU, rfl, oU, g7⟩
  replace BE : Box5 _ bE (.slice Ea zE.ds.length Ec) (.string (str zE.log)) (.string (str zE.next)) (.int .i64 zE.stage) (.bool zE.up) := ⟨q00, q01, q02, q03, q04⟩
  clear q00 q01 q02 q03 q04
  replace LA := LA.kept g7
  replace BA := BA.kept g7
  replace LX := LX.kept g7
  replace BX := BX.kept g7
  replace LE := LE.kept g7
  replace BE := BE.kept g7
  replace LY := LY.kept g7
  replace BY := BY.kept g7
  have G12 := gtrans G11 g7
  clear G11
  have LU0 := oU.ld
  clear oU g7 CS2
  have LU := LU0
  obtain ⟨Ua, Uc, rfl, -⟩ := LU.form
  have eU := galloc (grefl w7) (.cells #[.slice Ua zY.ds.length Uc, .string (str zY.log), .string (str zY.next), .int .i64 zY.stage, .bool zY.up] 26)
  have BU := Box5.new w7 (.slice Ua zY.ds.length Uc) (.string (str zY.log)) (.string (str zY.next)) (.int .i64 zY.stage) (.bool zY.up) 26
  replace LA := LA.kept eU
  replace BA := BA.kept eU
  replace LX := LX.kept eU
  replace BX := BX.kept eU
  replace LE := LE.kept eU
  replace BE := BE.kept eU
  replace LY := LY.kept eU
  replace BY := BY.kept eU
  replace LU := LU.kept eU
  have G13 := gtrans G12 eU
  clear G12
  clear eU
  go_upto_region 11 with (fail)
  generalize w7.alloc (.cells #[.slice Ua zY.ds.length Uc, .string (str zY.log), .string (str zY.next), .int .i64 zY.stage, .bool zY.up] 26) = WU at *
  generalize w7.heap.size = bU at *
  clear LU0
  clear LE BE
  obtain ⟨q00, q01, q02, q03, q04⟩ := BY
  obtain ⟨q10, q11, q12, q13, q14⟩ := BU
  go_wp2_with fail
  go_fit (likeArray_yes zY _ _ _ LY LU)
  rintro e w8 ⟨rfl, g8⟩
  replace BY : Box5 _ bY (.slice Ya zY.ds.length Yc) (.string (str zY.log)) (.string (str zY.next)) (.int .i64 zY.stage) (.bool zY.up) := ⟨q00, q01, q02, q03, q04⟩
  clear q00 q01 q02 q03 q04
  replace BU : Box5 _ bU (.slice Ua zY.ds.length Uc) (.string (str zY.log)) (.string (str zY.next)) (.int .i64 zY.stage) (.bool zY.up) := ⟨q10, q11, q12, q13, q14⟩
  clear q10 q11 q12 q13 q14
  replace LA := LA.kept g8
  replace BA := BA.kept g8
  replace LX := LX.kept g8
  replace BX := BX.kept g8
  replace LY := LY.kept g8
  replace BY := BY.kept g8
  replace LU := LU.kept g8
  replace BU := BU.kept g8
  have G14 := gtrans G13 g8
  clear G13
  clear g8
  clear LU BU
  go_upto_if 81 with (fail)
  go_cut [] (fun wc => w8.grownBy wc none)
  case first =>
    cases okY
    · go_wp2_with fail
      go_meet
      exact grefl _
    · obtain ⟨i, rfl, hi, HCn, HRt, HYo⟩ := HY.out rfl
      have hii : (i : Int) < zY.ds.length := by omega
      have HBY := Lib.hid BY
      have HLY := Lib.hid LY
      have HTY := Lib.hid (HT.out.kept G14)
      have HVY := Lib.hid (HV.out.kept G14)
      have hRY := hR.kept (gbelow G14)
      have hrw : rowsOfZ zY.ds ≤ 1000 := by have := rows_le (AZ.ok_ds HYo); unfold rowsOfZ; split <;> omega
      clear BA LA BX LX HB1 HB2 HB3 BY LY HY
      go_wp2_with fail
      go_loopw [15] (fun p wr => ∃ k : Nat, (k : Int) ≤ max 0 (rowsOfZ zY.ds) ∧ p = .int .i64 (k : Int) ∧ w8.grownBy wr none) (fun p _ => (rowsOfZ zY.ds).toNat - (intOf p).toNat)
      case atStart => exact ⟨0, by omega, rfl, grefl _⟩
      case round =>
        obtain ⟨k, hk, rfl, G⟩ := hrel
        obtain ⟨q00, q01, q02, q03, q04⟩ := HBY.out.kept G
        have LYk := HLY.out.kept G
        go_wp2_with fail
        go_fit (specRowsOf_any _ zY.ds _ LYk)
        rintro e wr1 ⟨rfl, gr1⟩
        have G1 := gtrans G gr1
        obtain ⟨q00, q01, q02, q03, q04⟩ := HBY.out.kept G1
        by_cases hlt : (k : Int) < rowsOfZ zY.ds
        · obtain ⟨ag, ao, ka, km, kc, na, nm, nc, rfl, x0, x1, x2, x3, DI⟩ := (HLY.out.kept G1).at i hi
          have hcr : zY.ds[i].canRead (k : Int) = false := by unfold DZ.canRead; rw [HCn, Bool.and_false]
          go_wp2_with fail
          go_fit (specRead_any _ _ zY.ds[i] (k : Int) _ DI)
          rintro e wr2 ⟨rfl, gr2⟩
          rw [hcr]
          go_wp2_with fail
          go_roundw
          case rel => exact ⟨k + 1, by omega, by go_num, gtrans G1 gr2⟩
          case measure => simp [intOf]; omega
        · have hki : ¬ (k : Int) < rowsOfZ zY.ds := hlt
          have HG1 := Lib.hid G1
          clear hk hlt LYk G gr1
          go_upto_region 20 with (fail)
          go_cut [18] (fun t wc => ∃ (bz : Nat) (y : Int) (az : Option Addr) (cz : Nat), 1 ≤ y ∧ y ≤ 32767 ∧ t = .pointer (some ⟨bz, 0, none⟩) ∧ wc.cell? ⟨bz, 0, none⟩ = some (.slice az (rottedZ zY i 0 y).ds.length cz) ∧ LD wc (.slice az (rottedZ zY i 0 y).ds.length cz) (rottedZ zY i 0 y).ds ∧ wr1.grownBy wc none)
          case first =>
            have HF1 : Hid (∀ (y : Int) (wq : World) (az : Option Addr) (cz : Nat) (rawz : List DV), 1 ≤ y → y ≤ 32767 → (wr1.drew.alloc (.cells #[.slice none 0 0, .string ⟨#[]⟩, .string ⟨#[]⟩, .int .i64 0, .bool false] 26)).grownBy wq none → OD wq (wr1.drew.alloc (.cells #[.slice none 0 0, .string ⟨#[]⟩, .string ⟨#[]⟩, .int .i64 0, .bool false] 26)).heap.size (.slice az (rottedZ zY i 0 y).ds.length cz) (rottedZ zY i 0 y).ds rawz → (set5 wq wr1.heap.size (.slice az (rottedZ zY i 0 y).ds.length cz) (.string (str (rottedZ zY i 0 y).log)) (.string (str (rottedZ zY i 0 y).next)) (.int .i64 (rottedZ zY i 0 y).stage) (.bool (rottedZ zY i 0 y).up)).cell? ⟨wr1.heap.size, 0, none⟩ = some (.slice az (rottedZ zY i 0 y).ds.length cz) ∧ LD (set5 wq wr1.heap.size (.slice az (rottedZ zY i 0 y).ds.length cz) (.string (str (rottedZ zY i 0 y).log)) (.string (str (rottedZ zY i 0 y).next)) (.int .i64 (rottedZ zY i 0 y).stage) (.bool (rottedZ zY i 0 y).up)) (.slice az (rottedZ zY i 0 y).ds.length cz) (rottedZ zY i 0 y).ds ∧ wr1.grownBy (set5 wq wr1.heap.size (.slice az (rottedZ zY i 0 y).ds.length cz) (.string (str (rottedZ zY i 0 y).log)) (.string (str (rottedZ zY i 0 y).next)) (.int .i64 (rottedZ zY i 0 y).stage) (.bool (rottedZ zY i 0 y).up)) none) := by
              intro y wq az cz rawz y1 y2 gz oz
              have F0 := (Five.new wr1.drew (.slice none 0 0) (.string ⟨#[]⟩) (.string ⟨#[]⟩) (.int .i64 0) (.bool false) 26).kept gz
              obtain ⟨n1, n2⟩ := oz.not_old (r := wr1.heap.size) (by simp)
              exact ⟨(F0.all (.slice az (rottedZ zY i 0 y).ds.length cz) (.string (str (rottedZ zY i 0 y).log)) (.string (str (rottedZ zY i 0 y).next)) (.int .i64 (rottedZ zY i 0 y).stage) (.bool (rottedZ zY i 0 y).up)).c0.1, (oz.set5 n1 n2 _ _ _ _ _).ld, gset5 (gtrans (galloc (gdrew (grefl wr1) 1) _) gz) (Nat.le_refl _) _ _ _ _ _⟩
            have HF2 : Hid (∀ (y : Int) (wq : World) (az : Option Addr) (cz : Nat) (rawz : List DV), 1 ≤ y → y ≤ 32767 → wr1.drew.grownBy wq none → OD wq wr1.drew.heap.size (.slice az (rottedZ zY i 0 y).ds.length cz) (rottedZ zY i 0 y).ds rawz → (wq.alloc (.cells #[.slice az (rottedZ zY i 0 y).ds.length cz, .string (str (rottedZ zY i 0 y).log), .string (str (rottedZ zY i 0 y).next), .int .i64 (rottedZ zY i 0 y).stage, .bool (rottedZ zY i 0 y).up] 26)).cell? ⟨wq.heap.size, 0, none⟩ = some (.slice az (rottedZ zY i 0 y).ds.length cz) ∧ LD (wq.alloc (.cells #[.slice az (rottedZ zY i 0 y).ds.length cz, .string (str (rottedZ zY i 0 y).log), .string (str (rottedZ zY i 0 y).next), .int .i64 (rottedZ zY i 0 y).stage, .bool (rottedZ zY i 0 y).up] 26)) (.slice az (rottedZ zY i 0 y).ds.length cz) (rottedZ zY i 0 y).ds ∧ wr1.grownBy (wq.alloc (.cells #[.slice az (rottedZ zY i 0 y).ds.length cz, .string (str (rottedZ zY i 0 y).log), .string (str (rottedZ zY i 0 y).next), .int .i64 (rottedZ zY i 0 y).stage, .bool (rottedZ zY i 0 y).up] 26)) none) := by
              intro y wq az cz rawz y1 y2 gz oz
              exact ⟨(Box5.new wq (.slice az (rottedZ zY i 0 y).ds.length cz) (.string (str (rottedZ zY i 0 y).log)) (.string (str (rottedZ zY i 0 y).next)) (.int .i64 (rottedZ zY i 0 y).stage) (.bool (rottedZ zY i 0 y).up) 26).1, oz.ld.kept (galloc (grefl wq) _), galloc (gtrans (gdrew (grefl wr1) 1) gz) _⟩
            have hbY : bY < wr1.heap.size := cell_lt q00
            have hbn : ¬ bY = wr1.heap.size := by omega
            have hbn2 : ¬ wr1.heap.size = bY := by omega
            go_region_with (first | (go_at_call 23; go_fit (pick_any _ _ _ _ _ _ (hRY.kept (gbelow (gtrans HG1.out (by first | exact gdrew (grefl _) 1 | exact galloc (gdrew (grefl _) 1) _)))) (by omega) (by omega) (by omega) (by omega)); rintro e wp ⟨x, x0, x1, rfl, rfl⟩; obtain ⟨y, hy, y1, y2⟩ : ∃ y, 1 + x = y ∧ 1 ≤ y ∧ y ≤ 32767 := ⟨_, rfl, by omega, by omega⟩; have hyw : IntKind.i64.wrap y = y := IntWalk.i64_in _ (by omega); clear x0 x1) | (go_at_call 22; go_fit (specRots_any _ zY _ _ _ _ (HLY.out.kept (gtrans HG1.out (by first | exact gdrew (grefl _) 1 | exact galloc (gdrew (grefl _) 1) _))) HYz.out.1 HYz.out.2); rintro e wq ⟨vz, rawz, rfl, oz, gz⟩; obtain ⟨az, cz, rfl, -⟩ := oz.form; first | (have F0 := (Five.new wr1.drew (.slice none 0 0) (.string ⟨#[]⟩) (.string ⟨#[]⟩) (.int .i64 0) (.bool false) 26).kept gz; obtain ⟨⟨d0, f0⟩, ⟨d1, f1⟩, ⟨d2, f2⟩, ⟨d3, f3⟩, ⟨d4, f4⟩⟩ := F0; have F0' : Five wq wr1.heap.size (.slice none 0 0) (.string ⟨#[]⟩) (.string ⟨#[]⟩) (.int .i64 0) (.bool false) := (Five.new wr1.drew (.slice none 0 0) (.string ⟨#[]⟩) (.string ⟨#[]⟩) (.int .i64 0) (.bool false) 26).kept gz; obtain ⟨⟨d0', f0'⟩, ⟨d1', f1'⟩, ⟨d2', f2'⟩, ⟨d3', f3'⟩, ⟨d4', f4'⟩⟩ := F0'; have hf := HF1.out y wq az cz rawz y1 y2 gz oz; unfold set5 at hf; have hfin := Lib.hid hf; clear hf oz) | (have hf := HF2.out y wq az cz rawz y1 y2 gz oz; have hfin := Lib.hid hf; clear hf oz)))
            all_goals
              go_wp2_with fail
              go_meet
              exact ⟨_, y, az, cz, y1, y2, rfl, hfin.out.1, hfin.out.2.1, hfin.out.2.2⟩
          case rest =>
            obtain ⟨bz, y, az, cz, hy1, hy2, rfl, c0, lz, gz⟩ := hcut
            obtain ⟨hiz, HRz⟩ := HRt y hy1 hy2
            have G2 := gtrans HG1.out gz
            obtain ⟨ag, ao, ka, km, kc, na, nm, nc, rfl, x0, x1, x2, x3, DI⟩ := lz.at i hiz
            have hiz2 : (i : Int) < (rottedZ zY i 0 y).ds.length := by omega
            obtain ⟨q00, q01, q02, q03, q04⟩ := HBY.out.kept G2
            have hcr : (rottedZ zY i 0 y).ds[i].canRead 0 = false := by unfold DZ.canRead; rw [HRz, Bool.and_false]
            go_wp2_with fail
            go_fit (specRead_any _ _ (rottedZ zY i 0 y).ds[i] 0 _ DI)
            rintro e wr3 ⟨rfl, gr3⟩
            rw [hcr]
            have G3 := gtrans G2 gr3
            obtain ⟨q00, q01, q02, q03, q04⟩ := HBY.out.kept G3
            go_wp2_with fail
            go_fit (implArrayOk_any _ zY _ (HLY.out.kept G3) (HTY.out.kept G3) (HVY.out.kept G3))
            rintro e wr4 ⟨rfl, gr4⟩
            rw [HYo]
            go_wp2_with fail
            go_meet
            exact gtrans G3 gr4
  case rest =>
    clear LY BY HY HYz
    replace LA := LA.kept hcut
    replace BA := BA.kept hcut
    replace LX := LX.kept hcut
    replace BX := BX.kept hcut
    have G15 := gtrans G14 hcut
    clear G14
    clear hcut
    cases okX
    · clear HB3
      obtain ⟨q00, q01, q02, q03, q04⟩ := BA
      go_wp2_with fail
      go_fit (specArrayOk_any _ zA _ LA (by omega) (by omega))
      rintro e w21 ⟨rfl, g21⟩
      replace BA : Box5 _ bA (.slice Aa zA.ds.length Ac) (.string (str zA.log)) (.string (str zA.next)) (.int .i64 zA.stage) (.bool zA.up) := ⟨q00, q01, q02, q03, q04⟩
      clear q00 q01 q02 q03 q04
      replace BA := BA.kept g21
      replace BX := BX.kept g21
      cases hzo : zA.ok
      · obtain ⟨rfl, -⟩ := HB1.out hzo
        have CZ : ∀ (v : Value) (W : World) (h : LD W v AZ.zero.ds), Calls Tryz.prog 18 #[AZ.zero.val v, .agg #[.slice none 0 0, .string ⟨#[]⟩, .string ⟨#[]⟩, .int .i64 0, .bool false]] W (Pure (.bool true) W) := fun v W h => likeArray_yes AZ.zero v (.slice none 0 0) W h (OD.nil W 0).ld
        obtain ⟨q00, q01, q02, q03, q04⟩ := BX
        go_wp2_with fail
        go_fit (CZ _ _ (LX.kept g21))
        rintro e w22 ⟨rfl, g22⟩
        go_wp2_with fail
        go_ret
        exact ⟨rfl, gbelow (gtrans G15 (gtrans g21 g22))⟩
      · obtain rfl := HB2.out hzo (by simp)
        obtain ⟨q00, q01, q02, q03, q04⟩ := BX
        obtain ⟨q10, q11, q12, q13, q14⟩ := BA
        go_wp2_with fail
        go_fit (likeArray_yes _ _ _ _ (LX.kept g21) (LA.kept g21))
        rintro e w22 ⟨rfl, g22⟩
        go_wp2_with fail
        go_ret
        exact ⟨rfl, gbelow (gtrans G15 (gtrans g21 g22))⟩
    · obtain ⟨hln, hxo, hb1, hb0, HCl⟩ := HB3.out rfl
      clear HB1 HB2 HB3
      have HBA := Lib.hid BA
      have HBX := Lib.hid BX
      have HLA := Lib.hid LA
      have HLX := Lib.hid LX
      have hlx : zX.ds.length ≤ 5 := (ds_small (AZ.ok_ds hxo)).1
      have hl5 : zA.ds.length ≤ 1000 := by omega
      clear hln
      have hb1 := Lib.hid hb1
      have hb0 := Lib.hid hb0
      clear BA BX LA LX
      go_upto_region 26 with (fail)
      go_wp2_with fail
      go_loopw [22] (fun i wr => ∃ k : Nat, k ≤ zA.ds.length ∧ i = .int .i64 (k : Int) ∧ wc.grownBy wr none) (fun i _ => zA.ds.length - (intOf i).toNat)
      case atStart => exact ⟨0, Nat.zero_le _, rfl, grefl _⟩
      case round =>
        obtain ⟨k, hk, rfl, G⟩ := hrel
        obtain ⟨q00, q01, q02, q03, q04⟩ := HBA.out.kept G
        obtain ⟨q10, q11, q12, q13, q14⟩ := HBX.out.kept G
        by_cases hlt : k < zA.ds.length
        · have hki : (k : Int) < zA.ds.length := by omega
          obtain ⟨hc1, hc2, hc3⟩ := HCl k hlt
          go_wp2_with fail
          go_fit (specCellAt_any _ zA.ds (k : Int) rv _ (HLA.out.kept G) (by omega))
          rintro e wr1 ⟨rfl, g1⟩
          rw [hc1]
          have G1 := gtrans G g1
          obtain ⟨q10, q11, q12, q13, q14⟩ := HBX.out.kept G1
          go_wp2_with fail
          go_fit (specCellAt_any _ zX.ds (k : Int) rv _ (HLX.out.kept G1) (by omega))
          rintro e wr2 ⟨rfl, g2⟩
          rw [hc2, hc3]
          generalize cellAtV zA.ds (k : Int) rv = cv at *
          go_wp2_with fail
          go_roundw
          case rel => exact ⟨k + 1, by omega, by go_num, gtrans G1 g2⟩
          case measure => simp [intOf]; omega
        · obtain rfl : k = zA.ds.length := by omega
          have hki : ¬ (zA.ds.length : Int) < zA.ds.length := by omega
          go_wp2_with fail
          go_fit (implArrayOk_any _ zX _ (HLX.out.kept G) (HT.out.kept (gtrans G15 G)) (HV.out.kept (gtrans G15 G)))
          rintro e wr1 ⟨rfl, g1⟩
          rw [hxo]
          have G1 := gtrans G g1
          obtain ⟨q00, q01, q02, q03, q04⟩ := HBA.out.kept G1
          obtain ⟨q10, q11, q12, q13, q14⟩ := HBX.out.kept G1
          go_wp2_with fail
          go_fit (specBadIn_any _ zX.ds rv _ (HLX.out.kept G1) (by omega))
          rintro e wr2 ⟨bv, rfl, bI, g2⟩
          rw [hb0.out] at bI
          obtain ⟨ba, bn, bc, rfl⟩ := bI.sl
          obtain rfl : bn = 0 := bI.bound.1
          clear bI
          have G2 := gtrans G1 g2
          obtain ⟨q00, q01, q02, q03, q04⟩ := HBA.out.kept G2
          go_wp2_with fail
          go_fit (specBadIn_any _ zA.ds rv _ (HLA.out.kept G2) (by omega))
          rintro e wr3 ⟨bv2, rfl, bI, g3⟩
          obtain ⟨ba2, bn2, bc2, rfl⟩ := bI.sl
          obtain rfl : bn2 = 1 := by have := bI.bound.1; rw [hb1.out] at this; exact this
          clear bI
          go_wp2_with fail
          go_ret
          exact ⟨rfl, gbelow (gtrans G15 (gtrans G2 g3))⟩

end Go.Proofs.YteialkknddpbjaaGreatDoor.fnHealed
