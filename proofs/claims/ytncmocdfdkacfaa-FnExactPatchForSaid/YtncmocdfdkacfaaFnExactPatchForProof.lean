/-
  Proved: for every input the law FnExactPatchFor returns true and leaves its arguments as they were; no condition.
-/
import Derived.Test.YtncmocdfdkacfaaRows
import Derived.WalkKit
import Derived.ProofKit
import Derived.OpenShut
import Derived.ShutString
import Derived.ChangeOld
import Derived.Below
import Derived.Carry
import Derived.Test.YtncmocdfdkacfaaImplL07e
import Derived.Test.YtncmocdfdkacfaaVarL07
import Derived.Test.YtncmocdfdkacfaaOpenL06
namespace Go.Proofs.Ytncmocdfdkacfaa.fnExactPatchFor
open Go.ChangeShapes Go.WideShapes Go.ChangeAt Go.RowKit
set_option linter.unusedVariables false

theorem own : ownKnob Try.prog.godebug = none := by kernel_rfl
theorem laidOut : laidOutB Try.prog = true := by kernel_rfl

set_option maxRecDepth 100000 in
set_option maxHeartbeats 4000000 in
theorem walk (w : World) (l0 : List DZ) (a0 : Option Addr) (n0 c0 : Nat) (w0 : InDisks w a0 n0 l0) (a1 : Int) (w1 : i64B a1) (a2 : Int) (w2 : i64B a2) :
    Calls Try.prog 4 #[.slice a0 n0 c0, .int .i64 a1, .int .i64 a2] w fun e w' => e = .returned (.bool true) ∧ Below w.heap.size w w' := by
  go_enter Try.func4, Try.ntmps4
  go_wp2_with fail
  go_fit (szDiskS_any _ _ _ l0 _ w0)
  rintro e wa ⟨x, rfl, ga, hx⟩
  by_cases hneg : x < 0
  · go_wp2_with fail
    go_ret
    exact ⟨rfl, gbelow ga⟩
  have hs : Hid (Small l0) := by rcases hx with hx | hx; exact absurd hx hneg; exact hx.2
  clear hx
  go_wp2_with fail
  go_fit (toDiskS_any _ _ _ l0 _ (w0.kept ga) hs.out)
  rintro e wb ⟨v1, raw1, rfl, o1, gb⟩
  obtain ⟨d1, c1, rfl, -⟩ := o1.ld.form
  have G1 := gtrans ga gb
  clear ga gb
  go_wp2_with fail
  go_fit (specPatchFor_any _ l0 a1 a2 _ o1.ld)
  rintro e wc ⟨dvs, vvs, rfl, s1, s2, sap, gc⟩
  have HLn : Hid ((pfZ l0 a1 a2).ds.length ≤ 1048576 ∧ (pfZ l0 a1 a2).vs.length ≤ 1048576) := pf_len hs.out.len a1 a2
  have ec := galloc gc (.cells #[.int .i64 (pfZ l0 a1 a2).row, dvs, vvs] 27)
  have V1 := VarP.new s1 s2 sap 27
  have hlo1 := gc.size
  obtain ⟨sa, sn, sc, rfl⟩ := Own.sl s1
  obtain ⟨ta, tn, tc, rfl⟩ := Own.sl s2
  have G2 := gtrans G1 ec
  have hsz1 : wc.heap.size < (wc.alloc (.cells #[.int .i64 (pfZ l0 a1 a2).row, .slice sa sn sc, .slice ta tn tc] 27)).heap.size := by simp
  clear G1 gc o1 s1 s2 ec
  go_upto_region 6 with (fail)
  generalize wc.alloc (.cells #[.int .i64 (pfZ l0 a1 a2).row, .slice sa sn sc, .slice ta tn tc] 27) = W1 at *
  generalize wc.heap.size = b1 at *
  generalize wb.heap.size = lo1 at *
  go_wp2_with fail
  go_fit (toDiskS_any _ _ _ l0 _ (w0.kept G2) hs.out)
  rintro e wd ⟨v2, raw2, rfl, o2, gd⟩
  obtain ⟨d2, c2, rfl, -⟩ := o2.ld.form
  have hT1 : Hid (∀ i (hi : i < raw2.length) b, raw2[i].has b → b < wd.heap.size) := fun i hi b hb => (o2.in i hi b hb).2
  have hT2 : Hid (∀ b, (Value.slice d2 l0.length c2).ownBlock = some b → b < wd.heap.size) := fun b hb => (o2.own.lt b hb).2
  have hwW : Hid (w.heap.size ≤ W1.heap.size) := G2.size
  have G3 := gtrans G2 gd
  have hcd := gd.size
  replace V1 := V1.kept gd
  clear G2 gd
  go_wp2_with fail
  go_fit (implPatchFor_any _ l0 a1 a2 _ o2.ld)
  rintro e we ⟨dvg, vvg, rfl, g1, g2, gap, ge⟩
  have ee := galloc ge (.cells #[.int .i64 (pfZ l0 a1 a2).row, dvg, vvg] 27)
  have V2 := VarP.new g1 g2 gap 27
  have hlo2 := ge.size
  obtain ⟨ga', gn, gc', rfl⟩ := Own.sl g1
  obtain ⟨ha, hn, hc, rfl⟩ := Own.sl g2
  have G4 := gtrans G3 ee
  have o3 := o2.grew ee
  replace V1 := V1.kept ee
  have hsz2 : we.heap.size < (we.alloc (.cells #[.int .i64 (pfZ l0 a1 a2).row, .slice ga' gn gc', .slice ha hn hc] 27)).heap.size := by simp
  clear G3 ge o2 g1 g2 ee
  go_upto_region 8 with (fail)
  generalize we.alloc (.cells #[.int .i64 (pfZ l0 a1 a2).row, .slice ga' gn gc', .slice ha hn hc] 27) = W2 at *
  generalize we.heap.size = b2 at *
  generalize hTT : wd.heap.size = T at *
  obtain ⟨p0, p1, p2⟩ := V1.b3
  obtain ⟨q0, q1, q2⟩ := V2.b3
  go_wp2_with fail
  go_fit (eqPatch_yes _ _ _ _ _ _ V2.rd V2.rv V1.rd V1.rv)
  rintro e wf ⟨rfl, gf⟩
  have G5 := gtrans G4 gf
  have o4 := o3.grew gf
  replace V1 := V1.kept gf
  replace V2 := V2.kept gf
  clear G4 gf o3 p0 p1 p2 q0 q1 q2
  go_wp2_with fail
  go_fit (toDiskS_any _ _ _ l0 _ (w0.kept G5) hs.out)
  rintro e wg ⟨v4, raw4, rfl, o5, gg⟩
  obtain ⟨d4, c4, rfl, -⟩ := o5.ld.form
  have G6 := gtrans G5 gg
  have o6 := o4.grew gg
  replace V1 := V1.kept gg
  replace V2 := V2.kept gg
  clear G5 gg o4
  go_wp2_with fail
  go_fit (eqDiskS_yes _ _ l0 _ o6.ld o5.ld)
  rintro e wh ⟨rfl, gh⟩
  have G7 := gtrans G6 gh
  have o7 := o6.grew gh
  replace V1 := V1.kept gh
  replace V2 := V2.kept gh
  clear G6 gh o5 o6
  go_wp2_with fail
  go_fit (markDiskS_any _ T _ l0 raw2 _ _ o7 hT1.out hT2.out hs.out (by omega) (by omega))
  rintro e wi ⟨y, rfl, hy, oi⟩
  have hwW' := hwW.out
  have G8 := oi.grew G7 (fun k hk => by omega)
  replace V1 := V1.only oi (fun k hk => by omega) (by omega)
  replace V2 := V2.only oi (fun k hk => by omega) (by omega)
  have hy' : ¬ y < 0 := by omega
  clear oi G7 o7
  obtain ⟨p0, p1, p2⟩ := V1.b3
  obtain ⟨q0, q1, q2⟩ := V2.b3
  go_wp2_with fail
  go_fit (eqPatch_yes _ _ _ _ _ _ V2.rd V2.rv V1.rd V1.rv)
  rintro e wj ⟨rfl, gj⟩
  have G9 := gtrans G8 gj
  replace V1 := V1.kept gj
  replace V2 := V2.kept gj
  clear G8 gj p0 p1 p2 q0 q1 q2
  obtain ⟨q0, q1, q2⟩ := V2.b3
  go_wp2_with fail
  go_fit (markPatch_any _ _ _ _ _ _ _ _ V2.box.ds V2.box.vs V2.box.ap HLn.out.1 HLn.out.2 (by omega) (by omega))
  rintro e wk ⟨rfl, m1, m2, ok⟩
  have G10 := ok.grew G9 (fun k hk => by have := V2.lo1 k hk; omega)
  replace V1 := V1.only ok (fun k hk => by have := V2.lo1 k hk; omega) (by omega)
  have M2 := V2.marked m1 m2 ok
  clear G9 ok V2 m1 m2 q0 q1 q2
  have hbl : ¬ (1 + ((pfZ l0 a1 a2).ds.length : Int) + ((pfZ l0 a1 a2).vs.length : Int)) < 0 := by omega
  obtain ⟨q0, q1, q2⟩ := M2.b3
  go_wp2_with fail
  go_fit (heldPatch_any _ _ _ _ _ _ _ M2.rd M2.rv HLn.out.1 HLn.out.2 (by omega) (by omega))
  rintro e wl ⟨rfl, gl⟩
  have G11 := gtrans G10 gl
  replace V1 := V1.kept gl
  replace M2 := M2.kept gl
  clear G10 gl q0 q1 q2
  go_wp2_with fail
  go_fit (toDiskS_any _ _ _ l0 _ (w0.kept G11) hs.out)
  rintro e wm ⟨v5, raw5, rfl, o8, gm⟩
  obtain ⟨d5, c5, rfl, -⟩ := o8.ld.form
  have G12 := gtrans G11 gm
  replace V1 := V1.kept gm
  replace M2 := M2.kept gm
  clear G11 gm
  go_wp2_with fail
  go_fit (implPatchFor_any _ l0 a1 a2 _ o8.ld)
  rintro e wn ⟨dvh, vvh, rfl, h1, h2, hap, gn'⟩
  have en := galloc gn' (.cells #[.int .i64 (pfZ l0 a1 a2).row, dvh, vvh] 27)
  have V3 := VarP.new h1 h2 hap 27
  obtain ⟨ja, jn, jc, rfl⟩ := Own.sl h1
  obtain ⟨ka, kn, kc, rfl⟩ := Own.sl h2
  have G13 := gtrans G12 en
  replace V1 := V1.kept en
  replace M2 := M2.kept en
  clear G12 gn' o8 h1 h2 en
  go_upto_region 25 with (fail)
  generalize wn.alloc (.cells #[.int .i64 (pfZ l0 a1 a2).row, .slice ja jn jc, .slice ka kn kc] 27) = W3 at *
  generalize wn.heap.size = b3 at *
  obtain ⟨p0, p1, p2⟩ := V1.b3
  obtain ⟨q0, q1, q2⟩ := V3.b3
  go_wp2_with fail
  go_fit (eqPatch_yes _ _ _ _ _ _ V3.rd V3.rv V1.rd V1.rv)
  rintro e wo ⟨rfl, go'⟩
  have G14 := gtrans G13 go'
  replace M2 := M2.kept go'
  clear G13 go' p0 p1 p2 q0 q1 q2 V1 V3
  obtain ⟨q0, q1, q2⟩ := M2.b3
  go_wp2_with fail
  go_fit (heldPatch_any _ _ _ _ _ _ _ M2.rd M2.rv HLn.out.1 HLn.out.2 (by omega) (by omega))
  rintro e wp ⟨rfl, gp⟩
  go_wp2_with fail
  go_ret
  exact ⟨rfl, gbelow (gtrans G14 gp)⟩

set_option maxRecDepth 100000 in
theorem lifted (os : Os) (started : os.Started) (H : Type) (enc : TypeId × Value → H) :
    ReturnsInHanded {} Try.checked os 4 .any (Rows.fnExactPatchForSpec.pre6 enc Try.prog Try.f4 Rows.fnExactPatchForRow.domain false) (Rows.fnExactPatchForSpec.post enc Try.prog Try.f4 false true false false) := by
  refine returnsInHanded_of_change (C := Try.checked) own started (by kernel_rfl) Try.func4
    (ChangeSpec.witness6 (enc := enc) (C := Try.checked) false ⟨#[], #[.slice none 0 0, .int .i64 0, .int .i64 0], []⟩ 8 (by kernel_rfl) (by kernel_rfl) (by kernel_rfl) (by kernel_rfl)) ?_
  intro W base args ds gs before hval0 hW hcnd _
  have hval : ∀ (j : Nat) t v, Try.f4.params[j]? = some t → args[j]? = some v → Value.okWide Try.prog W .any base t v := hval0
  have hW' := hW
  obtain ⟨p, q, hA0, hV, rfl, hfz, hnd⟩ := hW
  have hA : DataW.TrodAll enc Try.prog W 0 (fun _ => true) true Try.f4.params.toList args.toList ds p := hA0
  rw [Try.params4] at hA hval
  obtain ⟨x0, vs0, d0, ds0, p0, q0, hargs, rfl, rfl, h0, r0⟩ := trodAll_cons hA
  obtain ⟨x1, vs1, d1, ds1, p1, q1, rfl, rfl, rfl, h1, r1⟩ := trodAll_cons r0
  obtain ⟨x2, vs2, d2, ds2, p2, q2, rfl, rfl, rfl, h2, r2⟩ := trodAll_cons r1
  obtain ⟨rfl, rfl, rfl⟩ := trodAll_nil r2
  obtain rfl : args = #[x0, x1, x2] := by cases args; simp_all
  obtain ⟨rfl, rfl⟩ := trodVars_none hV
  have k0 := h0
  have lt0 : ∀ x ∈ p0, x.block < W.heap.size := by obtain ⟨m, hm⟩ := k0; exact DataW.trod_lt m _ _ _ hm
  obtain ⟨l0, a0, n0, c0, rfl, w0⟩ := openDisks (hval 0 31 x0 rfl rfl) h0
  have k1 := h1
  have lt1 : ∀ x ∈ p1, x.block < W.heap.size := by obtain ⟨m, hm⟩ := k1; exact DataW.trod_lt m _ _ _ hm
  obtain ⟨a1, rfl, w1⟩ := openInt (hval 1 2 x1 rfl rfl) h1
  have k2 := h2
  have lt2 : ∀ x ∈ p2, x.block < W.heap.size := by obtain ⟨m, hm⟩ := k2; exact DataW.trod_lt m _ _ _ hm
  obtain ⟨a2, rfl, w2⟩ := openInt (hval 2 2 x2 rfl rfl) h2
  clear hA0 hval0
  refine (walk W l0 a0 n0 c0 w0 a1 w1 a2 w2).mono fun e W' ⟨he, bel⟩ => ?_
  subst he
  exact ⟨_, rfl, _, _, _, [], _, [], hW', trodAll_mk1 (shut_bool Try.underlying4 _), (trodAll_cons_mk (Below.trod laidOut (by kernel_rfl) (of_decide_eq_true (by kernel_rfl)) k0 bel lt0) (trodAll_cons_mk (Below.trod laidOut (by kernel_rfl) (of_decide_eq_true (by kernel_rfl)) k1 bel lt1) (trodAll_cons_mk (Below.trod laidOut (by kernel_rfl) (of_decide_eq_true (by kernel_rfl)) k2 bel lt2) trodAll_mk0))), rfl, bel.frame _, fun h => by cases h⟩

theorem over : Rows.fnExactPatchForRow.holds Try.pinned (OpenSpec.ofChange Rows.fnExactPatchForSpec) :=
  OpenClaim.holds_of_wide 4 Try.f4 rfl rfl rfl rfl rfl rfl rfl ⟨rfl, rfl, rfl, rfl, rfl⟩ rfl rfl rfl rfl rfl (by kernel_rfl) Try.func4 (by kernel_rfl)
    (of_decide_eq_true (by kernel_rfl)) (by unfold Func.isWrapper; first | (rw [if_pos (by decide +kernel)]; kernel_rfl) | (rw [if_neg (by decide +kernel)]; exact ⟨rfl, rfl⟩))
    (fun os started H enc _ => lifted os started H enc)

theorem proved : Rows.FnExactPatchForSaid := over
#print axioms proved
end Go.Proofs.Ytncmocdfdkacfaa.fnExactPatchFor
