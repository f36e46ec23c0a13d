/- The law FnExactFallsDown, walked. -/
import Derived.Test.YteialkknddpbjaaGreatDoorRows
import Derived.Test.YteialkknddpbjaaGreatDoorCards
import Derived.Test.YteialkknddpbjaaGreatDoorTie
import Derived.SevenTiedAt
import Derived.WalkKit
import Derived.ProofKit
import Derived.LaidMore
import Derived.OpenShut
import Derived.Stop.Joined
import Derived.ShutString
import Derived.ChangeOld
import Derived.Below
import Derived.Carry
import Derived.Test.YteialkknddpbjaaGreatDoorDoorB
import Derived.Test.YteialkknddpbjaaGreatDoorImplL14
import Derived.Test.YteialkknddpbjaaGreatDoorLawX
import Derived.Deep.RegionHeld3
import Derived.Stop.LaidErr
import Derived.Shelf.Vars
namespace Go.Proofs.YteialkknddpbjaaGreatDoor.fnExactFallsDown
open Go.ChangeShapes Go.WideShapes Go.ChangeAt Go.RowKit
set_option linter.unusedVariables false

def laidL : List (String × DataW Unit) := [("math/bits.deBruijn32tab", Rows.laid_math_bits_deBruijn32tab), ("math/bits.deBruijn64tab", Rows.laid_math_bits_deBruijn64tab), ("internal/strconv.uint64pow10", Rows.laid_internal_strconv_uint64pow10), ("unicode/utf8.acceptRanges", Rows.laid_unicode_utf8_acceptRanges), ("strconv.ErrRange", Rows.laid_strconv_ErrRange), ("strconv.ErrSyntax", Rows.laid_strconv_ErrSyntax), ("unicode/utf8.first", Rows.laid_unicode_utf8_first)]
theorem pow_of {w : World} (h : laidMet Tryz.prog laidL w) : Pow10 w :=
  Lib.tabIs_of_head (g := 1) (t := 266) (e := 253) (n := 20) (by kernel_rfl) (by kernel_rfl) Tryz.underlying266 Tryz.underlying253 (by kernel_rfl) (by kernel_rfl) (laidMet.tail (laidMet.tail h))
theorem star : "*" ++ "errors.errorString" = "*errors.errorString" := by decide
theorem row_err (u : TypeId) (h : Tryz.prog.typeName? 3 u = some "*errors.errorString") : u = 293 :=
  typeName_ptr_named (nm := "errors.errorString") (by rw [star]; kernel_rfl) (by kernel_rfl) (by decide) u (by rw [star]; exact h)
theorem lib_of {w : World} (h : laidMet Tryz.prog laidL w) (hS : w.ShapedOpen Tryz.prog) : LibV w := by
  have h4 := laidMet.tail (laidMet.tail (laidMet.tail (laidMet.tail h)))
  obtain ⟨a1, s1, v1, -, -, -⟩ := laid_sentinel h4 (g := 3) (ti := 234) (tp := 293) (te := 295) (ts := 9) (by kernel_rfl) (by kernel_rfl) Tryz.underlying234 row_err Tryz.underlying293 Tryz.underlying295 rfl rfl Tryz.underlying9 (by kernel_rfl) (by kernel_rfl)
  obtain ⟨a2, s2, v2, -, -, -⟩ := laid_sentinel (laidMet.tail h4) (g := 2) (ti := 234) (tp := 293) (te := 295) (ts := 9) (by kernel_rfl) (by kernel_rfl) Tryz.underlying234 row_err Tryz.underlying293 Tryz.underlying295 rfl rfl Tryz.underlying9 (by kernel_rfl) (by kernel_rfl)
  exact ⟨⟨_, _, v2⟩, ⟨_, _, v1⟩, cell_of_shapedOpen_int (P := Tryz.prog) (g := 0) (t := 3) (zero := #[.int .i64 0]) hS (of_decide_eq_true (by kernel_rfl)) (by kernel_rfl) rfl (by kernel_rfl) (by kernel_rfl) Tryz.underlying3⟩

set_option maxRecDepth 100000 in
set_option maxHeartbeats 4000000 in
theorem walk (w : World) (HL : Hid (laidMet Tryz.prog laidL w)) (hS : w.ShapedOpen Tryz.prog) (z0 : AZ) (da0 : Option Addr) (dn0 dc0 : Nat) (w0 : InArray w da0 dn0 z0) (l1 : List Int) (a1 : Option Addr) (n1 c1 : Nat) (w1 : IR w (.slice a1 n1 c1) l1) (a2 : Int) (w2 : i64B a2) :
    Calls Tryz.prog 9 #[.agg #[.slice da0 dn0 dc0, .string (str z0.log), .string (str z0.next), .int .i64 z0.stage, .bool z0.up], .slice a1 n1 c1, .int .i64 a2] w fun e w' => e = .returned (.bool true) ∧ Below w.heap.size w w' := by
  have HT := Lib.hid (pow_of HL.out)
  have HV := Lib.hid (lib_of HL.out hS)
  clear HL hS
  obtain ⟨as1, cs1, hw1, hm1⟩ := w1.form
  cases hw1
  by_cases hbig : (1048576 : Int) < l1.length
  · go_enter Tryz.func9, Tryz.ntmps9
    go_wp2_with fail
    go_ret
    exact ⟨rfl, gbelow (galloc (grefl w) _)⟩
  have hl1 : l1.length ≤ 1048576 := by omega
  have AP := Box5.new w (.slice da0 dn0 dc0) (.string (str z0.log)) (.string (str z0.next)) (.int .i64 z0.stage) (.bool z0.up) 64
  have g0 := galloc (grefl w) (.cells #[.slice da0 dn0 dc0, .string (str z0.log), .string (str z0.next), .int .i64 z0.stage, .bool z0.up] 64)
  have hW0 : w.heap.size < (w.alloc (.cells #[.slice da0 dn0 dc0, .string (str z0.log), .string (str z0.next), .int .i64 z0.stage, .bool z0.up] 64)).heap.size := by simp
  go_enter Tryz.func9, Tryz.ntmps9
  go_upto_region 1 with (fail)
  generalize w.alloc (.cells #[.slice da0 dn0 dc0, .string (str z0.log), .string (str z0.next), .int .i64 z0.stage, .bool z0.up] 64) = W0 at *
  generalize hbw : w.heap.size = bw at AP hW0 ⊢
  have HW := Lib.hid hbw
  clear hbw
  obtain ⟨p0, p1, p2, p3, p4⟩ := AP
  go_wp2_with fail
  go_fit (szArray_b z0 da0 dn0 dc0 _ (w0.kept g0))
  rintro e wa ⟨x, rfl, ga, hx, hxb⟩
  have GA := gtrans g0 ga
  replace AP : Box5 wa bw (.slice da0 dn0 dc0) (.string (str z0.log)) (.string (str z0.next)) (.int .i64 z0.stage) (.bool z0.up) := Box5.kept ⟨p0, p1, p2, p3, p4⟩ ga
  have hsa := ga.size
  have hlo : w.heap.size ≤ wa.heap.size := GA.size
  clear p0 p1 p2 p3 p4 ga g0
  by_cases hneg : x < 0
  · go_wp2_with fail
    go_ret
    exact ⟨rfl, gbelow GA⟩
  have HS : Hid (SmallA z0) := by rcases hx with hx | hx; exact absurd hx hneg; exact hx.2
  have hz1 : z0.log.length ≤ 1100000 := by have := HS.out.2.1; omega
  have hz2 : z0.next.length ≤ 1100000 := by have := HS.out.2.2; omega
  clear hx hxb
  obtain ⟨-, -, -, hd0⟩ := w0
  have HSm : Hid (Small (fellZ z0 l1 a2).ds) := fellZ_small _ _ _
  have CS := fun (v sv : Value) (W : World) (h : LD W v z0.ds) (hs : IR W sv l1) (hsl : ∀ k, sv.ownBlock = some k → k < W.heap.size) => specFallsDown_any v z0 sv l1 a2 W h hz1 hz2 hs hsl
  have CI := fun (v sv : Value) (W : World) (h : LD W v z0.ds) (hs : IR W sv l1) (t : Pow10 W) (l : LibV W) => implFallsDown_any v z0 sv l1 a2 W h hs w2 t l
  generalize fellZ z0 l1 a2 = Z at *
  generalize fellOk z0 l1 a2 = O at *
  clear hz1 hz2 hbig
  obtain ⟨p0, p1, p2, p3, p4⟩ := AP
  go_wp2_with fail
  go_fit (toArray_any z0 da0 dn0 dc0 _ (hd0.kept GA) HS.out.1)
  rintro e wb ⟨vb, rawb, rfl, ob, gb⟩
  obtain ⟨vba, vbc, rfl, -⟩ := ob.form
  have hs_gb := gb.size
  replace AP : Box5 _ bw (.slice da0 dn0 dc0) (.string (str z0.log)) (.string (str z0.next)) (.int .i64 z0.stage) (.bool z0.up) := ⟨p0, p1, p2, p3, p4⟩
  clear p0 p1 p2 p3 p4
  replace AP := AP.kept gb
  have G1 := gtrans GA gb
  clear GA
  go_wp2_with fail
  go_fit (toInt64S_any _ l1 _ (w1.kept G1) hl1)
  rintro e wb2 ⟨sb, rfl, sI, gb2⟩
  obtain ⟨sba, sbc, rfl, -⟩ := sI.rd.form
  have hs_gb2 := gb2.size
  replace AP := AP.kept gb2
  replace ob := ob.grew gb2
  have G2 := gtrans G1 gb2
  clear G1
  go_wp2_with fail
  go_fit (CS _ _ _ ob.ld sI.rd (fun k hk => (Own.lt sI k hk).2))
  rintro e wc ⟨v8, raw8, rfl, o8, gc⟩
  obtain ⟨v8a, v8c, rfl, -⟩ := o8.form
  have T8 := Lib.hid o8.tops
  have hs_gc := gc.size
  clear ob sI
  replace AP := AP.kept gc
  have G3 := gtrans G2 gc
  clear G2
  have e8 := galloc (grefl wc) (.cells #[.slice v8a Z.ds.length v8c, .string (str Z.log), .string (str Z.next), .int .i64 Z.stage, .bool Z.up] 26)
  have B8 := Box5.new wc (.slice v8a Z.ds.length v8c) (.string (str Z.log)) (.string (str Z.next)) (.int .i64 Z.stage) (.bool Z.up) 26
  have hs_e8 : wc.heap.size < (wc.alloc (.cells #[.slice v8a Z.ds.length v8c, .string (str Z.log), .string (str Z.next), .int .i64 Z.stage, .bool Z.up] 26)).heap.size := by simp
  replace AP := AP.kept e8
  replace o8 := o8.grew e8
  have G4 := gtrans G3 e8
  clear G3
  go_upto_region 8 with (fail)
  generalize wc.alloc (.cells #[.slice v8a Z.ds.length v8c, .string (str Z.log), .string (str Z.next), .int .i64 Z.stage, .bool Z.up] 26) = W8 at *
  generalize hb8 : wc.heap.size = b8 at *
  obtain ⟨p0, p1, p2, p3, p4⟩ := AP
  go_wp2_with fail
  go_fit (toArray_any z0 da0 dn0 dc0 _ (hd0.kept G4) HS.out.1)
  rintro e wd ⟨va, raw10, rfl, o10, gd⟩
  obtain ⟨vaa, vac, rfl, -⟩ := o10.form
  have hs_gd := gd.size
  replace AP : Box5 _ bw (.slice da0 dn0 dc0) (.string (str z0.log)) (.string (str z0.next)) (.int .i64 z0.stage) (.bool z0.up) := ⟨p0, p1, p2, p3, p4⟩
  clear p0 p1 p2 p3 p4
  replace AP := AP.kept gd
  replace o8 := o8.grew gd
  replace B8 := B8.kept gd
  have G5 := gtrans G4 gd
  clear G4
  have T10 := Lib.hid o10.tops
  have e10 := galloc (grefl wd) (.cells #[.slice vaa z0.ds.length vac, .string (str z0.log), .string (str z0.next), .int .i64 z0.stage, .bool z0.up] 26)
  have B10 := Box5.new wd (.slice vaa z0.ds.length vac) (.string (str z0.log)) (.string (str z0.next)) (.int .i64 z0.stage) (.bool z0.up) 26
  have hs_e10 : wd.heap.size < (wd.alloc (.cells #[.slice vaa z0.ds.length vac, .string (str z0.log), .string (str z0.next), .int .i64 z0.stage, .bool z0.up] 26)).heap.size := by simp
  replace AP := AP.kept e10
  replace o8 := o8.grew e10
  replace B8 := B8.kept e10
  replace o10 := o10.grew e10
  have G6 := gtrans G5 e10
  clear G5
  go_upto_region 9 with (fail)
  generalize wd.alloc (.cells #[.slice vaa z0.ds.length vac, .string (str z0.log), .string (str z0.next), .int .i64 z0.stage, .bool z0.up] 26) = W10 at *
  generalize hb10 : wd.heap.size = b10 at *
  go_wp2_with fail
  go_fit (toInt64S_any _ l1 _ (w1.kept G6) hl1)
  rintro e we ⟨s1, rfl, s11, ge⟩
  obtain ⟨s1a, s1c, rfl, -⟩ := s11.rd.form
  have hs_ge := ge.size
  have HS11 := Lib.hid (fun q e => Own.lt s11 q e)
  replace AP := AP.kept ge
  replace o8 := o8.grew ge
  replace B8 := B8.kept ge
  replace o10 := o10.grew ge
  replace B10 := B10.kept ge
  have G7 := gtrans G6 ge
  clear G6
  obtain ⟨q0, q1, q2, q3, q4⟩ := B10
  go_wp2_with fail
  go_fit (CI _ _ _ o10.ld s11.rd (HT.out.kept G7) (HV.out.kept G7))
  rintro e wf ⟨v11, raw11, rfl, o11, gf⟩
  obtain ⟨v11a, v11c, rfl, -⟩ := o11.form
  have T11 := Lib.hid o11.tops
  have hs_gf := gf.size
  replace B10 : Box5 _ b10 (.slice vaa z0.ds.length vac) (.string (str z0.log)) (.string (str z0.next)) (.int .i64 z0.stage) (.bool z0.up) := ⟨q0, q1, q2, q3, q4⟩
  clear q0 q1 q2 q3 q4
  replace AP := AP.kept gf
  replace o8 := o8.grew gf
  replace B8 := B8.kept gf
  replace o10 := o10.grew gf
  replace B10 := B10.kept gf
  replace s11 := s11.grew gf
  have G8 := gtrans G7 gf
  clear G7
  have e11 := galloc (grefl wf) (.cells #[.slice v11a Z.ds.length v11c, .string (str Z.log), .string (str Z.next), .int .i64 Z.stage, .bool Z.up] 26)
  have B11 := Box5.new wf (.slice v11a Z.ds.length v11c) (.string (str Z.log)) (.string (str Z.next)) (.int .i64 Z.stage) (.bool Z.up) 26
  have hs_e11 : wf.heap.size < (wf.alloc (.cells #[.slice v11a Z.ds.length v11c, .string (str Z.log), .string (str Z.next), .int .i64 Z.stage, .bool Z.up] 26)).heap.size := by simp
  replace AP := AP.kept e11
  replace o8 := o8.grew e11
  replace B8 := B8.kept e11
  replace o10 := o10.grew e11
  replace B10 := B10.kept e11
  replace s11 := s11.grew e11
  replace o11 := o11.grew e11
  have G9 := gtrans G8 e11
  clear G8
  go_upto_region 11 with (fail)
  generalize wf.alloc (.cells #[.slice v11a Z.ds.length v11c, .string (str Z.log), .string (str Z.next), .int .i64 Z.stage, .bool Z.up] 26) = W11 at *
  generalize hb11 : wf.heap.size = b11 at *
  obtain ⟨x0, x1, x2, x3, x4⟩ := B11
  obtain ⟨y0, y1, y2, y3, y4⟩ := B8
  go_wp2_with fail
  go_fit (eqArray_yes Z _ _ _ o11.ld o8.ld)
  rintro e wg ⟨rfl, gg⟩
  replace B11 : Box5 _ b11 (.slice v11a Z.ds.length v11c) (.string (str Z.log)) (.string (str Z.next)) (.int .i64 Z.stage) (.bool Z.up) := ⟨x0, x1, x2, x3, x4⟩
  clear x0 x1 x2 x3 x4
  replace B8 : Box5 _ b8 (.slice v8a Z.ds.length v8c) (.string (str Z.log)) (.string (str Z.next)) (.int .i64 Z.stage) (.bool Z.up) := ⟨y0, y1, y2, y3, y4⟩
  clear y0 y1 y2 y3 y4
  replace AP := AP.kept gg
  replace o8 := o8.grew gg
  replace B8 := B8.kept gg
  replace o10 := o10.grew gg
  replace B10 := B10.kept gg
  replace s11 := s11.grew gg
  replace o11 := o11.grew gg
  replace B11 := B11.kept gg
  have G10 := gtrans G9 gg
  clear G9
  have S10 : PA wg bw (.slice da0 dn0 dc0) (.string (str z0.log)) (.string (str z0.next)) (.int .i64 z0.stage) (.bool z0.up) b10 (.slice vaa z0.ds.length vac) (.string (str z0.log)) (.string (str z0.next)) (.int .i64 z0.stage) (.bool z0.up) := ⟨AP, B10⟩
  go_wp2_with fail
  go_region_held3 (fun w' => PA w' bw (.slice da0 dn0 dc0) (.string (str z0.log)) (.string (str z0.next)) (.int .i64 z0.stage) (.bool z0.up) b10 (.slice vaa z0.ds.length vac) (.string (str z0.log)) (.string (str z0.next)) (.int .i64 z0.stage) (.bool z0.up)) (first | assumption | exact S10.drew | exact PA.kept ‹PA _ bw _ _ _ _ _ b10 _ _ _ _ _› ‹World.grownBy _ _ none›) (first | (go_at_call 57; go_fit (toArray_any z0 da0 dn0 dc0 _ (hd0.kept (gdrew G10 1)) HS.out.1); rintro e wh ⟨vh, rawh, rfl, oh, gh⟩) | (go_at_call 58; go_fit (eqArray_yes z0 _ _ _ (o10.grew (gtrans (gdrew (grefl wg) 1) gh)).ld oh.ld); rintro e wi ⟨rfl, gi⟩))
  have ghi := gtrans (gtrans (gdrew (grefl wg) 1) gh) gi
  clear gh gi oh S10
  replace AP := AP.kept ghi
  replace o8 := o8.grew ghi
  replace B8 := B8.kept ghi
  replace o10 := o10.grew ghi
  replace B10 := B10.kept ghi
  replace s11 := s11.grew ghi
  replace o11 := o11.grew ghi
  replace B11 := B11.kept ghi
  have G11 := gtrans G10 ghi
  clear G10
  go_wp2_with fail
  go_fit (toInt64S_any _ l1 _ (w1.kept G11) hl1)
  rintro e wi2 ⟨sn, rfl, sN, gi2⟩
  obtain ⟨sna, snc, rfl, -⟩ := sN.rd.form
  have hs_gi2 := gi2.size
  replace AP := AP.kept gi2
  replace o8 := o8.grew gi2
  replace B8 := B8.kept gi2
  replace o10 := o10.grew gi2
  replace B10 := B10.kept gi2
  replace s11 := s11.grew gi2
  replace o11 := o11.grew gi2
  replace B11 := B11.kept gi2
  have G12 := gtrans G11 gi2
  clear G11
  go_wp2_with fail
  go_fit (eqInt64S_yes _ _ l1 _ s11.rd sN.rd)
  rintro e wi3 ⟨rfl, gi3⟩
  clear sN
  replace AP := AP.kept gi3
  replace o8 := o8.grew gi3
  replace B8 := B8.kept gi3
  replace o10 := o10.grew gi3
  replace B10 := B10.kept gi3
  replace s11 := s11.grew gi3
  replace o11 := o11.grew gi3
  replace B11 := B11.kept gi3
  have G13 := gtrans G12 gi3
  clear G12
  obtain ⟨x0, x1, x2, x3, x4⟩ := B10
  go_wp2_with fail
  go_fit (markArray_at _ b10 _ z0 raw10 1 _ o10 T10.out.1 T10.out.2 HS.out.1 (by omega) (by omega))
  rintro e wj ⟨rawm, rfl, -, Oj⟩
  clear x0 x1 x2 x3 x4 o10
  have hsj := Oj.size
  have hmj := mkN_b HS.out.1
  replace AP := AP.only Oj (fun hk => by omega)
  replace o8 := o8.away Oj T8.out.1 T8.out.2 (fun k hk => by omega)
  replace B8 := B8.only Oj (fun hk => by omega)
  replace s11 := Own.same s11 (fun k e => Oj.block k (Own.lt s11 k e).2 (fun s => by have := HS11.out k e; omega))
  replace o11 := o11.away Oj T11.out.1 T11.out.2 (fun k hk => by omega)
  replace B11 := B11.only Oj (fun hk => by omega)
  have G14 := Oj.grew G13 (fun k hk => by omega)
  clear G13
  clear Oj
  go_wp2_with fail
  go_fit (markInt64S_any _ _ l1 _ _ s11 hl1 (by omega) (by omega))
  rintro e wj2 ⟨rfl, -, gM⟩
  have Oj := Only.of (S := fun q => W10.heap.size ≤ q ∧ q < we.heap.size) gM (fun q e => HS11.out q e)
  clear s11
  have hsj2 := Oj.size
  have hmj2 : ¬ mkN 1 z0.ds z0.ds.length + (l1.length : Int) < 0 := by omega
  replace AP := AP.only Oj (fun hk => by omega)
  replace o8 := o8.away Oj T8.out.1 T8.out.2 (fun k hk => by omega)
  replace B8 := B8.only Oj (fun hk => by omega)
  replace o11 := o11.away Oj T11.out.1 T11.out.2 (fun k hk => by omega)
  replace B11 := B11.only Oj (fun hk => by omega)
  have G15 := Oj.grew G14 (fun k hk => by omega)
  clear G14
  obtain ⟨x0, x1, x2, x3, x4⟩ := B11
  obtain ⟨y0, y1, y2, y3, y4⟩ := B8
  go_wp2_with fail
  go_fit (eqArray_yes Z _ _ _ o11.ld o8.ld)
  rintro e wk ⟨rfl, gk⟩
  replace B11 : Box5 _ b11 (.slice v11a Z.ds.length v11c) (.string (str Z.log)) (.string (str Z.next)) (.int .i64 Z.stage) (.bool Z.up) := ⟨x0, x1, x2, x3, x4⟩
  clear x0 x1 x2 x3 x4
  replace B8 : Box5 _ b8 (.slice v8a Z.ds.length v8c) (.string (str Z.log)) (.string (str Z.next)) (.int .i64 Z.stage) (.bool Z.up) := ⟨y0, y1, y2, y3, y4⟩
  clear y0 y1 y2 y3 y4
  replace AP := AP.kept gk
  replace o8 := o8.grew gk
  replace B8 := B8.kept gk
  replace o11 := o11.grew gk
  replace B11 := B11.kept gk
  have G16 := gtrans G15 gk
  clear G15
  clear Oj
  obtain ⟨x0, x1, x2, x3, x4⟩ := B11
  go_wp2_with fail
  go_fit (markArray_at _ b11 _ Z raw11 1 _ o11 T11.out.1 T11.out.2 HSm.out (by omega) (by omega))
  rintro e wl ⟨rawn, rfl, o12, Oj⟩
  clear o11
  have hsl := Oj.size
  have hml := mkN_b HSm.out
  have hml2 : ¬ mkN 1 Z.ds Z.ds.length < 0 := by omega
  replace B11 : Box5 wl b11 (.slice v11a Z.ds.length v11c) (.string (str Z.log)) (.string (str Z.next)) (.int .i64 Z.stage) (.bool Z.up) := Box5.only ⟨x0, x1, x2, x3, x4⟩ Oj (fun hk => by omega)
  clear x0 x1 x2 x3 x4
  replace AP := AP.only Oj (fun hk => by omega)
  replace o8 := o8.away Oj T8.out.1 T8.out.2 (fun k hk => by omega)
  replace B8 := B8.only Oj (fun hk => by omega)
  have G17 := Oj.grew G16 (fun k hk => by omega)
  clear G16
  have CH11 := fun (v : Value) (W : World) (h : LD W v (markDs 1 Z.ds)) => heldArray_any v Z 1 W h HSm.out (by omega) (by omega)
  obtain ⟨x0, x1, x2, x3, x4⟩ := B11
  go_wp2_with fail
  go_fit (CH11 _ _ o12.ld)
  rintro e wm ⟨rfl, gm⟩
  replace B11 : Box5 _ b11 (.slice v11a Z.ds.length v11c) (.string (str Z.log)) (.string (str Z.next)) (.int .i64 Z.stage) (.bool Z.up) := ⟨x0, x1, x2, x3, x4⟩
  clear x0 x1 x2 x3 x4
  replace AP := AP.kept gm
  replace o8 := o8.grew gm
  replace B8 := B8.kept gm
  replace B11 := B11.kept gm
  replace o12 := o12.grew gm
  have G18 := gtrans G17 gm
  clear G17
  obtain ⟨p0, p1, p2, p3, p4⟩ := AP
  go_wp2_with fail
  go_fit (toArray_any z0 da0 dn0 dc0 _ (hd0.kept G18) HS.out.1)
  rintro e wn ⟨vn, rawn2, rfl, on, gn⟩
  obtain ⟨vna, vnc, rfl, -⟩ := on.form
  have hs_gn := gn.size
  replace AP : Box5 _ bw (.slice da0 dn0 dc0) (.string (str z0.log)) (.string (str z0.next)) (.int .i64 z0.stage) (.bool z0.up) := ⟨p0, p1, p2, p3, p4⟩
  clear p0 p1 p2 p3 p4
  replace AP := AP.kept gn
  replace o8 := o8.grew gn
  replace B8 := B8.kept gn
  replace B11 := B11.kept gn
  replace o12 := o12.grew gn
  have G19 := gtrans G18 gn
  clear G18
  go_wp2_with fail
  go_fit (toInt64S_any _ l1 _ (w1.kept G19) hl1)
  rintro e wn2 ⟨sp, rfl, sP, gn2⟩
  obtain ⟨spa, spc, rfl, -⟩ := sP.rd.form
  have hs_gn2 := gn2.size
  replace AP := AP.kept gn2
  replace o8 := o8.grew gn2
  replace B8 := B8.kept gn2
  replace B11 := B11.kept gn2
  replace o12 := o12.grew gn2
  replace on := on.grew gn2
  have G20 := gtrans G19 gn2
  clear G19
  go_wp2_with fail
  go_fit (CI _ _ _ on.ld sP.rd (HT.out.kept G20) (HV.out.kept G20))
  rintro e wo ⟨v16, raw16, rfl, o16, go⟩
  obtain ⟨v16a, v16c, rfl, -⟩ := o16.form
  clear on sP
  replace AP := AP.kept go
  replace o8 := o8.grew go
  replace B8 := B8.kept go
  replace B11 := B11.kept go
  replace o12 := o12.grew go
  have G21 := gtrans G20 go
  clear G20
  have e16 := galloc (grefl wo) (.cells #[.slice v16a Z.ds.length v16c, .string (str Z.log), .string (str Z.next), .int .i64 Z.stage, .bool Z.up] 26)
  have B16 := Box5.new wo (.slice v16a Z.ds.length v16c) (.string (str Z.log)) (.string (str Z.next)) (.int .i64 Z.stage) (.bool Z.up) 26
  replace AP := AP.kept e16
  replace o8 := o8.grew e16
  replace B8 := B8.kept e16
  replace B11 := B11.kept e16
  replace o12 := o12.grew e16
  replace o16 := o16.grew e16
  have G22 := gtrans G21 e16
  clear G21
  go_upto_region 31 with (fail)
  generalize wo.alloc (.cells #[.slice v16a Z.ds.length v16c, .string (str Z.log), .string (str Z.next), .int .i64 Z.stage, .bool Z.up] 26) = W16 at *
  generalize hb16 : wo.heap.size = b16 at *
  obtain ⟨x0, x1, x2, x3, x4⟩ := B16
  obtain ⟨y0, y1, y2, y3, y4⟩ := B8
  go_wp2_with fail
  go_fit (eqArray_yes Z _ _ _ o16.ld o8.ld)
  rintro e wq ⟨rfl, gq⟩
  clear x0 x1 x2 x3 x4 y0 y1 y2 y3 y4
  clear o16 o8
  replace AP := AP.kept gq
  replace B11 := B11.kept gq
  replace o12 := o12.grew gq
  have G23 := gtrans G22 gq
  clear G22
  obtain ⟨x0, x1, x2, x3, x4⟩ := B11
  go_wp2_with fail
  go_fit (CH11 _ _ o12.ld)
  rintro e wr ⟨rfl, gr⟩
  replace B11 : Box5 _ b11 (.slice v11a Z.ds.length v11c) (.string (str Z.log)) (.string (str Z.next)) (.int .i64 Z.stage) (.bool Z.up) := ⟨x0, x1, x2, x3, x4⟩
  clear x0 x1 x2 x3 x4
  replace AP := AP.kept gr
  replace B11 := B11.kept gr
  replace o12 := o12.grew gr
  have G24 := gtrans G23 gr
  clear G23
  go_wp2_with fail
  go_ret
  exact ⟨rfl, gbelow G24⟩

end Go.Proofs.YteialkknddpbjaaGreatDoor.fnExactFallsDown
