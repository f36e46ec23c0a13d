/-
  Proved: for every input the law FnExactPatched returns true and leaves its arguments as they were; no condition.
-/
import Derived.Test.YtjhnoepllnifhaaRows
import Derived.WalkKit
import Derived.ProofKit
import Derived.OpenShut
import Derived.ShutString
import Derived.ChangeOld
import Derived.Below
import Derived.Carry
import Derived.Test.YtjhnoepllnifhaaImplL07f
import Derived.Test.YtjhnoepllnifhaaSpecL07d
import Derived.Test.YtjhnoepllnifhaaLawL07c
import Derived.Test.YtjhnoepllnifhaaVarL07
import Derived.Test.YtjhnoepllnifhaaLawL06b
import Derived.Deep.RegionHeld3
namespace Go.Proofs.Ytjhnoepllnifhaa.fnExactPatched
open Go.ChangeShapes Go.WideShapes Go.ChangeAt Go.RowKit
set_option linter.unusedVariables false

theorem own : ownKnob Try.prog.godebug = none := by kernel_rfl
theorem laidOut : laidOutB Try.prog = true := by kernel_rfl

set_option maxRecDepth 100000 in
set_option maxHeartbeats 4000000 in
theorem walk (w : World) (l0 : List DZ) (a0 : Option Addr) (n0 c0 : Nat) (w0 : InDisks w a0 n0 l0) (z1 : PZ) (dv1 vv1 : Value) (w1 : i64B z1.row ∧ IR w dv1 z1.ds ∧ IR w vv1 z1.vs) :
    Calls Try.prog 3 #[.slice a0 n0 c0, .agg #[.int .i64 z1.row, dv1, vv1]] w fun e w' => e = .returned (.bool true) ∧ Below w.heap.size w w' := by
  obtain ⟨-, hd1, hv1⟩ := w1
  obtain ⟨da, dc, rfl, -⟩ := hd1.form
  obtain ⟨va, vc, rfl, -⟩ := hv1.form
  have A0 := Box3.new w (.int .i64 z1.row) (.slice da z1.ds.length dc) (.slice va z1.vs.length vc) 25
  have g0 := galloc (grefl w) (.cells #[.int .i64 z1.row, .slice da z1.ds.length dc, .slice va z1.vs.length vc] 25)
  go_enter Try.func3, Try.ntmps3
  go_upto_region 1 with (fail)
  have hW0 : w.heap.size < (w.alloc (.cells #[.int .i64 z1.row, .slice da z1.ds.length dc, .slice va z1.vs.length vc] 25)).heap.size := by simp
  generalize w.alloc (.cells #[.int .i64 z1.row, .slice da z1.ds.length dc, .slice va z1.vs.length vc] 25) = W0 at *
  generalize w.heap.size = bw at A0 hW0 ⊢
  go_wp2_with fail
  go_fit (szDiskS_b _ _ _ l0 _ (w0.kept g0))
  rintro e wa ⟨x, rfl, ga, hx, hxb⟩
  have GA := gtrans g0 ga
  replace A0 := A0.kept ga
  clear ga
  by_cases hneg : x < 0
  · go_wp2_with fail
    go_ret
    exact ⟨rfl, gbelow GA⟩
  have hs : Hid (Small l0) := by rcases hx with hx | hx; exact absurd hx hneg; exact hx.2
  clear hx
  have HA := Lib.hid A0
  obtain ⟨p0, p1, p2⟩ := A0
  go_wp2_with fail
  go_fit (szPatch_any z1.row x z1.ds z1.vs _ _ _ (hd1.kept GA) (hv1.kept GA) (by omega) hxb)
  rintro e wb ⟨y, rfl, gb, hy⟩
  have GB := gtrans GA gb
  have HB := Lib.hid (HA.out.kept gb)
  clear p0 p1 p2 HA GA gb
  by_cases hneg2 : y < 0
  · go_wp2_with fail
    go_ret
    exact ⟨rfl, gbelow GB⟩
  obtain ⟨-, ld, lv⟩ : 0 ≤ y ∧ z1.ds.length ≤ 1048576 ∧ z1.vs.length ≤ 1048576 := by rcases hy with hy | hy; exact absurd hy hneg2; exact hy
  clear hy
  have hbwB : bw < wb.heap.size := cell_lt HB.out.1
  have S0 : Box3 wb bw _ _ _ := HB.out
  go_wp2_with fail
  go_region_held3 (fun w' => Box3 w' bw (.int .i64 z1.row) (.slice da z1.ds.length dc) (.slice va z1.vs.length vc)) (first | assumption | exact S0 | exact Box3.kept ‹Box3 _ bw _ _ _› ‹World.grownBy _ _ none›) (first | (go_at_call 8; go_fit (toDiskS_any _ _ _ l0 _ (w0.kept (gdrew GB 1)) hs.out); rintro e wc ⟨v1, raw1, rfl, o1, gc⟩; obtain ⟨d1, c1, rfl, -⟩ := o1.ld.form; have GC := gtrans (gdrew GB 1) gc) | (go_at_call 9; go_fit (toPatch_any z1 _ _ _ (hd1.kept GC) (hv1.kept GC) ld lv); rintro e wd ⟨dv2, vv2, rfl, s2, t2, -, gd⟩; obtain ⟨xa2, xm2, xc2, rfl⟩ := Own.sl s2; obtain ⟨ya2, ym2, yc2, rfl⟩ := Own.sl t2; have GD := gtrans GC gd) | (go_at_call 7; go_fit (specPatched_any _ l0 z1 _ _ _ (o1.ld.kept gd) (Own.rd s2) (Own.rd t2) (fun k e => (Own.lt s2 k e).2) (fun k e => (Own.lt t2 k e).2)); rintro e we ⟨vs3, raws, rfl, os, ge⟩; obtain ⟨d3, c3, rfl, -⟩ := os.ld.form))
  have GE := gtrans GD ge
  have HZs : Hid (Small (patchedZ l0 z1)) := patched_small l0 z1
  have CPd := fun (v : Value) (dv vv : Value) (w : World) (h : LD w v l0) (hd : IR w dv z1.ds) (hv : IR w vv z1.vs) => implPatched_any v l0 z1 dv vv w h hd hv
  generalize patchedZ l0 z1 = Z at *
  have A1 : Box3 we bw (.int .i64 z1.row) (.slice da z1.ds.length dc) (.slice va z1.vs.length vc) := HB.out.kept (gtrans (gtrans (gtrans (gdrew (grefl wb) 1) gc) gd) ge)
  have HTs : Hid (Tops (.slice d3 Z.length c3) raws we.heap.size) := os.tops
  have hsE : bw < wd.heap.size := by have := (gtrans (gtrans (gdrew (grefl wb) 1) gc) gd).size; omega
  have hlo : w.heap.size ≤ wd.heap.size := GD.size
  have hde : wd.heap.size ≤ we.heap.size := ge.size
  clear GB HB GC GD gc gd ge s2 t2 o1 S0
  go_wp2_with fail
  go_fit (toDiskS_any _ _ _ l0 _ (w0.kept GE) hs.out)
  rintro e wf ⟨v4, raw4, rfl, o4, gf⟩
  obtain ⟨d4, c4, rfl, -⟩ := o4.ld.form
  have HTx : Hid (Tops (.slice d4 l0.length c4) raw4 wf.heap.size) := o4.tops
  have GF := gtrans GE gf
  have hef : we.heap.size ≤ wf.heap.size := gf.size
  replace os := os.grew gf
  replace A1 := A1.kept gf
  clear GE gf
  have HA1 := Lib.hid A1
  obtain ⟨p0, p1, p2⟩ := A1
  go_wp2_with fail
  go_fit (toPatch_any z1 _ _ _ (hd1.kept GF) (hv1.kept GF) ld lv)
  rintro e wg ⟨dv5, vv5, rfl, s5, t5, ap5, gg⟩
  have eg := galloc gg (.cells #[.int .i64 z1.row, dv5, vv5] 31)
  have V5 := VarP.new s5 t5 ap5 31
  obtain ⟨xa5, xm5, xc5, rfl⟩ := Own.sl s5
  obtain ⟨ya5, ym5, yc5, rfl⟩ := Own.sl t5
  have GG := gtrans GF eg
  replace os := os.grew eg
  replace o4 := o4.grew eg
  have A2 := HA1.out.kept eg
  have hfg : wf.heap.size ≤ wg.heap.size := gg.size
  have hsG : wg.heap.size < (wg.alloc (.cells #[.int .i64 z1.row, .slice xa5 xm5 xc5, .slice ya5 ym5 yc5] 31)).heap.size := by simp
  clear p0 p1 p2 HA1 GF gg eg s5 t5
  go_upto_region 11 with (fail)
  generalize wg.alloc (.cells #[.int .i64 z1.row, .slice xa5 xm5 xc5, .slice ya5 ym5 yc5] 31) = WG at *
  generalize wg.heap.size = b5 at *
  obtain ⟨q0, q1, q2⟩ := V5.b3
  go_wp2_with fail
  go_fit (CPd _ _ _ _ o4.ld V5.rd V5.rv)
  rintro e wh ⟨vg, rawg, rfl, og, gh⟩
  obtain ⟨dg, cg, rfl, -⟩ := og.ld.form
  have HTg : Hid (Tops (.slice dg Z.length cg) rawg wh.heap.size) := og.tops
  have GH := gtrans GG gh
  have hgh := gh.size
  replace os := os.grew gh
  replace o4 := o4.grew gh
  replace V5 := V5.kept gh
  replace A2 := A2.kept gh
  clear GG gh q0 q1 q2
  go_wp2_with fail
  go_fit (eqDiskS_yes _ _ Z _ og.ld os.ld)
  rintro e wi ⟨rfl, gi⟩
  have GI := gtrans GH gi
  replace os := os.grew gi
  replace og := og.grew gi
  replace o4 := o4.grew gi
  replace V5 := V5.kept gi
  replace A2 := A2.kept gi
  clear GH gi
  go_wp2_with fail
  go_fit (toDiskS_any _ _ _ l0 _ (w0.kept GI) hs.out)
  rintro e wj ⟨v6, raw6, rfl, o6, gj⟩
  obtain ⟨d6, c6, rfl, -⟩ := o6.ld.form
  have GJ := gtrans GI gj
  replace os := os.grew gj
  replace og := og.grew gj
  replace o4 := o4.grew gj
  replace V5 := V5.kept gj
  replace A2 := A2.kept gj
  clear GI gj
  go_wp2_with fail
  go_fit (eqDiskS_yes _ _ l0 _ o4.ld o6.ld)
  rintro e wk ⟨rfl, gk⟩
  have GK := gtrans GJ gk
  replace os := os.grew gk
  replace og := og.grew gk
  replace o4 := o4.grew gk
  replace V5 := V5.kept gk
  replace A2 := A2.kept gk
  clear GJ gk o6
  have S1 : Pr3 wk bw _ _ _ b5 _ _ _ := ⟨A2, V5.b3⟩
  go_wp2_with fail
  go_region_held3 (fun w' => Pr3 w' bw (.int .i64 z1.row) (.slice da z1.ds.length dc) (.slice va z1.vs.length vc) b5 (.int .i64 z1.row) (.slice xa5 xm5 xc5) (.slice ya5 ym5 yc5)) (first | assumption | exact S1.drew | exact Pr3.kept ‹Pr3 _ bw _ _ _ b5 _ _ _› ‹World.grownBy _ _ none›) (first | (go_at_call 9; go_fit (toPatch_any z1 _ _ _ (hd1.kept (gdrew GK 1)) (hv1.kept (gdrew GK 1)) ld lv); rintro e w8 ⟨dv8, vv8, rfl, s8, t8, -, g8⟩) | (go_at_call 12; go_fit (eqPatch_yes z1 _ _ _ _ _ ((V5.kept (gtrans (gdrew (grefl wk) 1) g8)).rd) ((V5.kept (gtrans (gdrew (grefl wk) 1) g8)).rv) (Own.rd s8) (Own.rd t8)); rintro e w9 ⟨rfl, g9⟩))
  have g89 := gtrans (gtrans (gdrew (grefl wk) 1) g8) g9
  have GL := gtrans GK g89
  replace os := os.grew g89
  replace og := og.grew g89
  replace o4 := o4.grew g89
  replace V5 := V5.kept g89
  replace A2 := A2.kept g89
  clear GK g89 g8 g9 s8 t8 S1
  go_wp2_with fail
  go_fit (markDiskS_at _ wf.heap.size _ l0 raw4 _ _ o4 HTx.out.1 HTx.out.2 hs.out (by omega) (by omega))
  rintro e wl ⟨rawx, rfl, -, ol⟩
  have GM := ol.grew GL (fun k hk => by omega)
  replace os := os.away ol HTs.out.1 HTs.out.2 (fun k hk => by omega)
  replace og := og.away ol HTg.out.1 HTg.out.2 (fun k hk => by omega)
  replace V5 := V5.only ol (fun k hk => by omega) (by omega)
  replace A2 := A2.only ol (fun hk => by omega)
  have hmb := mkN_b hs.out
  generalize mkN 1 l0 l0.length = M0 at *
  clear GL ol o4
  obtain ⟨q0, q1, q2⟩ := V5.b3
  go_wp2_with fail
  go_fit (markPatch_any _ _ _ _ _ _ _ _ V5.box.ds V5.box.vs V5.box.ap ld lv (by omega) (by omega))
  rintro e wm ⟨rfl, -, -, om⟩
  have GN := om.grew GM (fun k hk => by have := V5.lo1 k hk; omega)
  replace os := os.away om HTs.out.1 HTs.out.2 (fun k hk => by have := V5.lo1 k hk; omega)
  replace og := og.away om HTg.out.1 HTg.out.2 (fun k hk => by have := V5.lo1 k hk; omega)
  replace A2 := A2.only om (fun hk => by have := V5.lo1 bw hk; omega)
  have hk9 : ¬ (M0 + (z1.ds.length : Int) + (z1.vs.length : Int)) < 0 := by omega
  clear GM om V5 q0 q1 q2
  go_wp2_with fail
  go_fit (eqDiskS_yes _ _ Z _ og.ld os.ld)
  rintro e wn ⟨rfl, gn⟩
  have GO := gtrans GN gn
  replace os := os.grew gn
  replace og := og.grew gn
  replace A2 := A2.kept gn
  clear GN gn
  go_wp2_with fail
  go_fit (markDiskS_at _ wh.heap.size _ Z rawg _ _ og HTg.out.1 HTg.out.2 HZs.out (by omega) (by omega))
  rintro e wo ⟨rawm, rfl, mo, oo⟩
  have GP := oo.grew GO (fun k hk => by omega)
  replace os := os.away oo HTs.out.1 HTs.out.2 (fun k hk => by omega)
  replace A2 := A2.only oo (fun hk => by omega)
  have hmz := mkN_b HZs.out
  have hmz' : ¬ mkN 1 Z Z.length < 0 := by omega
  clear GO oo og
  go_wp2_with fail
  go_fit (heldDiskS_any _ Z 1 _ mo.ld HZs.out (by omega) (by omega))
  rintro e wp ⟨rfl, gp⟩
  have GQ := gtrans GP gp
  replace os := os.grew gp
  replace mo := mo.grew gp
  replace A2 := A2.kept gp
  clear GP gp
  go_wp2_with fail
  go_region_held3 (fun w' => Box3 w' bw (.int .i64 z1.row) (.slice da z1.ds.length dc) (.slice va z1.vs.length vc)) (first | assumption | exact A2 | exact Box3.kept ‹Box3 _ bw _ _ _› ‹World.grownBy _ _ none›) (first | (go_at_call 8; go_fit (toDiskS_any _ _ _ l0 _ (w0.kept (gdrew GQ 1)) hs.out); rintro e wr ⟨v7, raw7, rfl, o7, gr⟩; obtain ⟨d7, c7, rfl, -⟩ := o7.ld.form; have GR := gtrans (gdrew GQ 1) gr) | (go_at_call 9; go_fit (toPatch_any z1 _ _ _ (hd1.kept GR) (hv1.kept GR) ld lv); rintro e ws ⟨dv7, vv7, rfl, s7, t7, -, gs⟩; obtain ⟨xa7, xm7, xc7, rfl⟩ := Own.sl s7; obtain ⟨ya7, ym7, yc7, rfl⟩ := Own.sl t7; have GS := gtrans GR gs) | (go_at_call 10; go_fit (CPd _ _ _ _ (o7.ld.kept gs) (Own.rd s7) (Own.rd t7)); rintro e wt ⟨vh, rawh, rfl, oh, gt⟩; obtain ⟨dh, ch, rfl, -⟩ := oh.ld.form))
  have gqt := gtrans (gtrans (gtrans (gdrew (grefl wp) 1) gr) gs) gt
  have GT := gtrans GQ gqt
  replace os := os.grew gqt
  replace mo := mo.grew gqt
  clear GQ GR GS gqt gr gs gt s7 t7 o7 A2
  go_wp2_with fail
  go_fit (eqDiskS_yes _ _ Z _ oh.ld os.ld)
  rintro e wu ⟨rfl, gu⟩
  have GU := gtrans GT gu
  replace mo := mo.grew gu
  clear GT gu
  go_wp2_with fail
  go_fit (heldDiskS_any _ Z 1 _ mo.ld HZs.out (by omega) (by omega))
  rintro e wv ⟨rfl, gv⟩
  go_wp2_with fail
  go_ret
  exact ⟨rfl, gbelow (gtrans GU gv)⟩

set_option maxRecDepth 100000 in
theorem lifted (os : Os) (started : os.Started) (H : Type) (enc : TypeId × Value → H) :
    ReturnsInHanded {} Try.checked os 3 .any (Rows.fnExactPatchedSpec.pre6 enc Try.prog Try.f3 Rows.fnExactPatchedRow.domain false) (Rows.fnExactPatchedSpec.post enc Try.prog Try.f3 false true false false) := by
  refine returnsInHanded_of_change (C := Try.checked) own started (by kernel_rfl) Try.func3
    (ChangeSpec.witness6 (enc := enc) (C := Try.checked) false ⟨#[], #[.slice none 0 0, .agg #[.int .i64 0, .slice none 0 0, .slice none 0 0]], []⟩ 8 (by kernel_rfl) (by kernel_rfl) (by kernel_rfl) (by kernel_rfl)) ?_
  intro W base args ds gs before hval0 hW hcnd _
  have hval : ∀ (j : Nat) t v, Try.f3.params[j]? = some t → args[j]? = some v → Value.okWide Try.prog W .any base t v := hval0
  have hW' := hW
  obtain ⟨p, q, hA0, hV, rfl, hfz, hnd⟩ := hW
  have hA : DataW.TrodAll enc Try.prog W 0 (fun _ => true) true Try.f3.params.toList args.toList ds p := hA0
  rw [Try.params3] at hA hval
  obtain ⟨x0, vs0, d0, ds0, p0, q0, hargs, rfl, rfl, h0, r0⟩ := trodAll_cons hA
  obtain ⟨x1, vs1, d1, ds1, p1, q1, rfl, rfl, rfl, h1, r1⟩ := trodAll_cons r0
  obtain ⟨rfl, rfl, rfl⟩ := trodAll_nil r1
  obtain rfl : args = #[x0, x1] := by cases args; simp_all
  obtain ⟨rfl, rfl⟩ := trodVars_none hV
  have k0 := h0
  have lt0 : ∀ x ∈ p0, x.block < W.heap.size := by obtain ⟨m, hm⟩ := k0; exact DataW.trod_lt m _ _ _ hm
  obtain ⟨l0, a0, n0, c0, rfl, w0⟩ := openDisks (hval 0 22 x0 rfl rfl) h0
  have k1 := h1
  have lt1 : ∀ x ∈ p1, x.block < W.heap.size := by obtain ⟨m, hm⟩ := k1; exact DataW.trod_lt m _ _ _ hm
  obtain ⟨z1, dv1, vv1, rfl, w1⟩ := openPatch (hval 1 25 x1 rfl rfl) h1
  clear hA0 hval0
  refine (walk W l0 a0 n0 c0 w0 z1 dv1 vv1 w1).mono fun e W' ⟨he, bel⟩ => ?_
  subst he
  exact ⟨_, rfl, _, _, _, [], _, [], hW', trodAll_mk1 (shut_bool Try.underlying4 _), (trodAll_cons_mk (Below.trod laidOut (by kernel_rfl) (of_decide_eq_true (by kernel_rfl)) k0 bel lt0) (trodAll_cons_mk (Below.trod laidOut (by kernel_rfl) (of_decide_eq_true (by kernel_rfl)) k1 bel lt1) trodAll_mk0)), rfl, bel.frame _, fun h => by cases h⟩

theorem over : Rows.fnExactPatchedRow.holds Try.pinned (OpenSpec.ofChange Rows.fnExactPatchedSpec) :=
  OpenClaim.holds_of_wide 3 Try.f3 rfl rfl rfl rfl rfl rfl rfl ⟨rfl, rfl, rfl, rfl, rfl⟩ rfl rfl rfl rfl rfl (by kernel_rfl) Try.func3 (by kernel_rfl)
    (of_decide_eq_true (by kernel_rfl)) (by unfold Func.isWrapper; first | (rw [if_pos (by decide +kernel)]; kernel_rfl) | (rw [if_neg (by decide +kernel)]; exact ⟨rfl, rfl⟩))
    (fun os started H enc _ => lifted os started H enc)

theorem proved : Rows.FnExactPatchedSaid := over
#print axioms proved
end Go.Proofs.Ytjhnoepllnifhaa.fnExactPatched
