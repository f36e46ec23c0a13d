/- The law FnExactWorstOf, walked. -/
import Derived.Test.YteialkknddpbjaaGreatDoorRows
import Derived.Test.YteialkknddpbjaaGreatDoorCards
import Derived.Test.YteialkknddpbjaaGreatDoorTie
import Derived.SevenTiedAt
import Derived.WalkKit
import Derived.ProofKit
import Derived.LaidMore
import Derived.OpenShut
import Derived.Stop.Joined
import Derived.ShutString
import Derived.ChangeOld
import Derived.Below
import Derived.Carry
import Derived.Test.YteialkknddpbjaaGreatDoorDoorB
import Derived.Test.YteialkknddpbjaaGreatDoorImplL15
import Derived.Test.YteialkknddpbjaaGreatDoorLawX
import Derived.Deep.RegionHeld3
import Derived.Stop.LaidErr
import Derived.Shelf.Vars
namespace Go.Proofs.YteialkknddpbjaaGreatDoor.fnExactWorstOf
open Go.ChangeShapes Go.WideShapes Go.ChangeAt Go.RowKit
set_option linter.unusedVariables false

def laidL : List (String × DataW Unit) := [("math/bits.deBruijn32tab", Rows.laid_math_bits_deBruijn32tab), ("math/bits.deBruijn64tab", Rows.laid_math_bits_deBruijn64tab), ("internal/strconv.uint64pow10", Rows.laid_internal_strconv_uint64pow10), ("unicode/utf8.acceptRanges", Rows.laid_unicode_utf8_acceptRanges), ("strconv.ErrRange", Rows.laid_strconv_ErrRange), ("strconv.ErrSyntax", Rows.laid_strconv_ErrSyntax), ("unicode/utf8.first", Rows.laid_unicode_utf8_first)]
theorem pow_of {w : World} (h : laidMet Tryz.prog laidL w) : Pow10 w :=
  Lib.tabIs_of_head (g := 1) (t := 266) (e := 253) (n := 20) (by kernel_rfl) (by kernel_rfl) Tryz.underlying266 Tryz.underlying253 (by kernel_rfl) (by kernel_rfl) (laidMet.tail (laidMet.tail h))
theorem star : "*" ++ "errors.errorString" = "*errors.errorString" := by decide
theorem row_err (u : TypeId) (h : Tryz.prog.typeName? 3 u = some "*errors.errorString") : u = 293 :=
  typeName_ptr_named (nm := "errors.errorString") (by rw [star]; kernel_rfl) (by kernel_rfl) (by decide) u (by rw [star]; exact h)
theorem lib_of {w : World} (h : laidMet Tryz.prog laidL w) (hS : w.ShapedOpen Tryz.prog) : LibV w := by
  have h4 := laidMet.tail (laidMet.tail (laidMet.tail (laidMet.tail h)))
  obtain ⟨a1, s1, v1, -, -, -⟩ := laid_sentinel h4 (g := 3) (ti := 234) (tp := 293) (te := 295) (ts := 9) (by kernel_rfl) (by kernel_rfl) Tryz.underlying234 row_err Tryz.underlying293 Tryz.underlying295 rfl rfl Tryz.underlying9 (by kernel_rfl) (by kernel_rfl)
  obtain ⟨a2, s2, v2, -, -, -⟩ := laid_sentinel (laidMet.tail h4) (g := 2) (ti := 234) (tp := 293) (te := 295) (ts := 9) (by kernel_rfl) (by kernel_rfl) Tryz.underlying234 row_err Tryz.underlying293 Tryz.underlying295 rfl rfl Tryz.underlying9 (by kernel_rfl) (by kernel_rfl)
  exact ⟨⟨_, _, v2⟩, ⟨_, _, v1⟩, cell_of_shapedOpen_int (P := Tryz.prog) (g := 0) (t := 3) (zero := #[.int .i64 0]) hS (of_decide_eq_true (by kernel_rfl)) (by kernel_rfl) rfl (by kernel_rfl) (by kernel_rfl) Tryz.underlying3⟩

set_option maxRecDepth 100000 in
set_option maxHeartbeats 4000000 in
theorem walk (w : World) (HL : Hid (laidMet Tryz.prog laidL w)) (hS : w.ShapedOpen Tryz.prog) (z0 : AZ) (da0 : Option Addr) (dn0 dc0 : Nat) (w0 : InArray w da0 dn0 z0) :
    Calls Tryz.prog 11 #[.agg #[.slice da0 dn0 dc0, .string (str z0.log), .string (str z0.next), .int .i64 z0.stage, .bool z0.up]] w fun e w' => e = .returned (.bool true) ∧ Below w.heap.size w w' := by
  have HT := Lib.hid (pow_of HL.out)
  have HV := Lib.hid (lib_of HL.out hS)
  clear HL hS
  have AP := Box5.new w (.slice da0 dn0 dc0) (.string (str z0.log)) (.string (str z0.next)) (.int .i64 z0.stage) (.bool z0.up) 64
  have g0 := galloc (grefl w) (.cells #[.slice da0 dn0 dc0, .string (str z0.log), .string (str z0.next), .int .i64 z0.stage, .bool z0.up] 64)
  have hW0 : w.heap.size < (w.alloc (.cells #[.slice da0 dn0 dc0, .string (str z0.log), .string (str z0.next), .int .i64 z0.stage, .bool z0.up] 64)).heap.size := by simp
  go_enter Tryz.func11, Tryz.ntmps11
  go_upto_region 1 with (fail)
  generalize w.alloc (.cells #[.slice da0 dn0 dc0, .string (str z0.log), .string (str z0.next), .int .i64 z0.stage, .bool z0.up] 64) = W0 at *
  generalize hbw : w.heap.size = bw at AP hW0 ⊢
  have HW := Lib.hid hbw
  clear hbw
  obtain ⟨p0, p1, p2, p3, p4⟩ := AP
  go_wp2_with fail
  go_fit (szArray_b z0 da0 dn0 dc0 _ (w0.kept g0))
  rintro e wa ⟨x, rfl, ga, hx, hxb⟩
  have GA := gtrans g0 ga
  replace AP : Box5 wa bw (.slice da0 dn0 dc0) (.string (str z0.log)) (.string (str z0.next)) (.int .i64 z0.stage) (.bool z0.up) := Box5.kept ⟨p0, p1, p2, p3, p4⟩ ga
  have hsa := ga.size
  have hlo : w.heap.size ≤ wa.heap.size := GA.size
  clear p0 p1 p2 p3 p4 ga g0
  by_cases hneg : x < 0
  · go_wp2_with fail
    go_ret
    exact ⟨rfl, gbelow GA⟩
  have HS : Hid (SmallA z0) := by rcases hx with hx | hx; exact absurd hx hneg; exact hx.2
  have hz1 : z0.log.length ≤ 1100000 := by have := HS.out.2.1; omega
  have hz2 : z0.next.length ≤ 1100000 := by have := HS.out.2.2; omega
  clear hx hxb
  obtain ⟨-, -, -, hd0⟩ := w0
  have CS := fun (v : Value) (W : World) (h : LD W v z0.ds) => specWorstOf_any v z0 W h hz1 hz2
  have CI := fun (v : Value) (W : World) (h : LD W v z0.ds) (t : Pow10 W) (l : LibV W) => implWorstOf_any v z0 W h t l
  generalize worstZ z0 = O at *
  clear hz1 hz2
  obtain ⟨p0, p1, p2, p3, p4⟩ := AP
  go_wp2_with fail
  go_fit (toArray_any z0 da0 dn0 dc0 _ (hd0.kept GA) HS.out.1)
  rintro e wb ⟨vb, rawb, rfl, ob, gb⟩
  obtain ⟨vba, vbc, rfl, -⟩ := ob.form
  have hs_gb := gb.size
  replace AP : Box5 _ bw (.slice da0 dn0 dc0) (.string (str z0.log)) (.string (str z0.next)) (.int .i64 z0.stage) (.bool z0.up) := ⟨p0, p1, p2, p3, p4⟩
  clear p0 p1 p2 p3 p4
  replace AP := AP.kept gb
  have G1 := gtrans GA gb
  clear GA
  go_wp2_with fail
  go_fit (CS _ _ ob.ld)
  rintro e wc ⟨rfl, gc⟩
  clear ob
  replace AP := AP.kept gc
  have G2 := gtrans G1 gc
  clear G1
  obtain ⟨p0, p1, p2, p3, p4⟩ := AP
  go_wp2_with fail
  go_fit (toArray_any z0 da0 dn0 dc0 _ (hd0.kept G2) HS.out.1)
  rintro e wd ⟨va, raw10, rfl, o10, gd⟩
  obtain ⟨vaa, vac, rfl, -⟩ := o10.form
  have hs_gd := gd.size
  replace AP : Box5 _ bw (.slice da0 dn0 dc0) (.string (str z0.log)) (.string (str z0.next)) (.int .i64 z0.stage) (.bool z0.up) := ⟨p0, p1, p2, p3, p4⟩
  clear p0 p1 p2 p3 p4
  replace AP := AP.kept gd
  have G3 := gtrans G2 gd
  clear G2
  have e10 := galloc (grefl wd) (.cells #[.slice vaa z0.ds.length vac, .string (str z0.log), .string (str z0.next), .int .i64 z0.stage, .bool z0.up] 26)
  have B10 := Box5.new wd (.slice vaa z0.ds.length vac) (.string (str z0.log)) (.string (str z0.next)) (.int .i64 z0.stage) (.bool z0.up) 26
  replace AP := AP.kept e10
  replace o10 := o10.grew e10
  have G4 := gtrans G3 e10
  clear G3
  go_upto_region 7 with (fail)
  generalize wd.alloc (.cells #[.slice vaa z0.ds.length vac, .string (str z0.log), .string (str z0.next), .int .i64 z0.stage, .bool z0.up] 26) = W10 at *
  generalize hb10 : wd.heap.size = b10 at *
  obtain ⟨q0, q1, q2, q3, q4⟩ := B10
  go_wp2_with fail
  go_fit (CI _ _ o10.ld (HT.out.kept G4) (HV.out.kept G4))
  rintro e wg ⟨rfl, gf⟩
  replace B10 : Box5 _ b10 (.slice vaa z0.ds.length vac) (.string (str z0.log)) (.string (str z0.next)) (.int .i64 z0.stage) (.bool z0.up) := ⟨q0, q1, q2, q3, q4⟩
  clear q0 q1 q2 q3 q4
  replace AP := AP.kept gf
  replace o10 := o10.grew gf
  replace B10 := B10.kept gf
  have G5 := gtrans G4 gf
  clear G4
  have S10 : PA wg bw (.slice da0 dn0 dc0) (.string (str z0.log)) (.string (str z0.next)) (.int .i64 z0.stage) (.bool z0.up) b10 (.slice vaa z0.ds.length vac) (.string (str z0.log)) (.string (str z0.next)) (.int .i64 z0.stage) (.bool z0.up) := ⟨AP, B10⟩
  go_wp2_with fail
  go_region_held3 (fun w' => PA w' bw (.slice da0 dn0 dc0) (.string (str z0.log)) (.string (str z0.next)) (.int .i64 z0.stage) (.bool z0.up) b10 (.slice vaa z0.ds.length vac) (.string (str z0.log)) (.string (str z0.next)) (.int .i64 z0.stage) (.bool z0.up)) (first | assumption | exact S10.drew | exact PA.kept ‹PA _ bw _ _ _ _ _ b10 _ _ _ _ _› ‹World.grownBy _ _ none›) (first | (go_at_call 57; go_fit (toArray_any z0 da0 dn0 dc0 _ (hd0.kept (gdrew G5 1)) HS.out.1); rintro e wh ⟨vh, rawh, rfl, oh, gh⟩) | (go_at_call 58; go_fit (eqArray_yes z0 _ _ _ (o10.grew (gtrans (gdrew (grefl wg) 1) gh)).ld oh.ld); rintro e wi ⟨rfl, gi⟩))
  have ghi := gtrans (gtrans (gdrew (grefl wg) 1) gh) gi
  go_wp2_with fail
  go_ret
  exact ⟨rfl, gbelow (gtrans G5 ghi)⟩

end Go.Proofs.YteialkknddpbjaaGreatDoor.fnExactWorstOf
