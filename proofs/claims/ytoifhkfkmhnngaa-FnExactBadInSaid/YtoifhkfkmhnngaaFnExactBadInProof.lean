/-
  Proved: for every input the law FnExactBadIn returns true and leaves its arguments as they were; no condition.
-/
import Derived.Test.YtoifhkfkmhnngaaRows
import Derived.WalkKit
import Derived.ProofKit
import Derived.OpenShut
import Derived.ShutString
import Derived.ChangeOld
import Derived.Below
import Derived.Carry
import Derived.Test.YtoifhkfkmhnngaaSpecL06b
import Derived.Test.YtoifhkfkmhnngaaImplL06c
import Derived.Test.YtoifhkfkmhnngaaLawL06b
import Derived.Test.YtoifhkfkmhnngaaOpenL06
namespace Go.Proofs.Ytoifhkfkmhnngaa.fnExactBadIn
open Go.ChangeShapes Go.WideShapes Go.ChangeAt Go.RowKit
set_option linter.unusedVariables false

theorem own : ownKnob Try.prog.godebug = none := by kernel_rfl
theorem laidOut : laidOutB Try.prog = true := by kernel_rfl

set_option maxRecDepth 100000 in
set_option maxHeartbeats 4000000 in
theorem walk (w : World) (l0 : List DZ) (a0 : Option Addr) (n0 c0 : Nat) (w0 : InDisks w a0 n0 l0) (a1 : Int) (w1 : i64B a1) :
    Calls Try.prog 5 #[.slice a0 n0 c0, .int .i64 a1] w fun e w' => e = .returned (.bool true) ∧ Below w.heap.size w w' := by
  go_enter Try.func5, Try.ntmps5
  go_wp2_with fail
  go_fit (szDiskS_any _ _ _ l0 _ w0)
  rintro e wa ⟨x, rfl, ga, hx⟩
  by_cases hneg : x < 0
  · go_wp2_with fail
    go_ret
    exact ⟨rfl, gbelow ga⟩
  have hs : Hid (Small l0) := by rcases hx with hx | hx; exact absurd hx hneg; exact hx.2
  clear hx
  go_wp2_with fail
  go_fit (toDiskS_any _ _ _ l0 _ (w0.kept ga) hs.out)
  rintro e wb ⟨v1, raw1, rfl, o1, gb⟩
  obtain ⟨d1, c1, rfl, -⟩ := o1.ld.form
  have G1 := gtrans ga gb
  clear ga gb
  go_wp2_with fail
  go_fit (specBadIn_any _ l0 _ _ o1.ld hs.out.len)
  rintro e wc ⟨vs, rfl, sI, gc⟩
  have HLn : Hid ((badInZ l0 a1).length ≤ 1048576) := by
    show _ ≤ _
    have := badL_length l0 a1 l0.length
    have := hs.out.len
    unfold badInZ badZ; split <;> simp <;> omega
  obtain ⟨sa, cs, rfl, ms⟩ := sI.form
  have sI := sI.lower (Nat.zero_le _)
  have G2 := gtrans G1 gc
  clear G1 gc o1
  go_wp2_with fail
  go_fit (toDiskS_any _ _ _ l0 _ (w0.kept G2) hs.out)
  rintro e wd ⟨v2, raw2, rfl, o2, gd⟩
  obtain ⟨d2, c2, rfl, -⟩ := o2.ld.form
  have hT1 : Hid (∀ i (hi : i < raw2.length) b, raw2[i].has b → b < wd.heap.size) := fun i hi b hb => (o2.in i hi b hb).2
  have hT2 : Hid (∀ b, (Value.slice d2 l0.length c2).ownBlock = some b → b < wd.heap.size) := fun b hb => (o2.own.lt b hb).2
  have hS : Hid (∀ b, (Value.slice sa (badInZ l0 a1).length cs).ownBlock = some b → b < wc.heap.size) := fun b hb => (sI.lt b hb).2
  have hwc : Hid (w.heap.size ≤ wc.heap.size) := G2.size
  have hcd : Hid (wc.heap.size ≤ wd.heap.size) := gd.size
  have G3 := gtrans G2 gd
  have sI := Own.grew sI gd
  clear G2 gd
  go_wp2_with fail
  go_fit (implBadIn_any _ l0 _ _ o2.ld)
  rintro e we ⟨vg, rfl, gI, ge⟩
  obtain ⟨ag, cg, rfl, mg⟩ := gI.form
  have G4 := gtrans G3 ge
  have o3 := o2.grew ge
  have sI := Own.grew sI ge
  clear G3 ge o2
  go_wp2_with fail
  go_fit (eqInt64S_yes _ _ _ _ gI.rd sI.rd)
  rintro e wf ⟨rfl, gf⟩
  have G5 := gtrans G4 gf
  have o3 := o3.grew gf
  have sI := Own.grew sI gf
  have gI := Own.grew gI gf
  clear G4 gf
  go_wp2_with fail
  go_fit (toDiskS_any _ _ _ l0 _ (w0.kept G5) hs.out)
  rintro e wg ⟨v4, raw4, rfl, o4, gg⟩
  obtain ⟨d4, c4, rfl, -⟩ := o4.ld.form
  have G6 := gtrans G5 gg
  have o3 := o3.grew gg
  have sI := Own.grew sI gg
  have gI := Own.grew gI gg
  clear G5 gg
  go_wp2_with fail
  go_fit (eqDiskS_yes _ _ l0 _ o3.ld o4.ld)
  rintro e wh ⟨rfl, gh⟩
  have G7 := gtrans G6 gh
  have o3 := o3.grew gh
  have sI := Own.grew sI gh
  have gI := Own.grew gI gh
  clear G6 gh o4
  go_wp2_with fail
  go_fit (markDiskS_any _ wd.heap.size _ l0 raw2 _ _ o3 hT1.out hT2.out hs.out (by omega) (by omega))
  rintro e wi ⟨y, rfl, hy, oi⟩
  have hwc' := hwc.out
  have hcd' := hcd.out
  have G8 := oi.grew G7 (fun k hk => by omega)
  have gI := Own.same gI (fun k hk => oi.block k (gI.lt k hk).2 (fun q => by have := (gI.lt k hk).1; omega))
  have sI := Own.same sI (fun k hk => oi.block k (sI.lt k hk).2 (fun q => by have := hS.out k hk; omega))
  have hy' : ¬ y < 0 := by omega
  clear oi G7 o3
  go_wp2_with fail
  go_fit (eqInt64S_yes _ _ _ _ gI.rd sI.rd)
  rintro e wj ⟨rfl, gj⟩
  have G9 := gtrans G8 gj
  have sI := Own.grew sI gj
  have gI := Own.grew gI gj
  clear G8 gj
  go_wp2_with fail
  go_fit (markInt64S_any _ _ _ _ _ gI HLn.out (by omega) (by omega))
  rintro e wk ⟨rfl, mI, gk⟩
  have G10 := gsub G9 gk (fun k hk => by have := (gI.lt k hk).1; omega)
  have sI := Own.same sI (fun k hk => gk.block k (sI.lt k hk).2 (fun q => by have := hS.out k hk; have := (gI.lt k q.symm).1; omega))
  have hbl : ¬ (1 + ((badInZ l0 a1).length : Int)) < 0 := by omega
  clear G9 gk gI
  go_wp2_with fail
  go_fit (heldInt64S_any _ _ _ _ mI.rd HLn.out (by omega) (by omega))
  rintro e w' ⟨rfl, rfl⟩
  go_wp2_with fail
  go_fit (toDiskS_any _ _ _ l0 _ (w0.kept G10) hs.out)
  rintro e wl ⟨v5, raw5, rfl, o5, gl⟩
  obtain ⟨d5, c5, rfl, -⟩ := o5.ld.form
  have G11 := gtrans G10 gl
  have sI := Own.grew sI gl
  have mI := Own.grew mI gl
  clear G10 gl
  go_wp2_with fail
  go_fit (implBadIn_any _ l0 _ _ o5.ld)
  rintro e wm ⟨vh, rfl, hI, gm⟩
  obtain ⟨ah, ch, rfl, mh⟩ := hI.form
  have G12 := gtrans G11 gm
  have sI := Own.grew sI gm
  have mI := Own.grew mI gm
  clear G11 gm o5
  go_wp2_with fail
  go_fit (eqInt64S_yes _ _ _ _ hI.rd sI.rd)
  rintro e wn ⟨rfl, gn⟩
  have G13 := gtrans G12 gn
  have mI := Own.grew mI gn
  clear G12 gn
  go_wp2_with fail
  go_fit (heldInt64S_any _ _ _ _ mI.rd HLn.out (by omega) (by omega))
  rintro e w' ⟨rfl, rfl⟩
  go_wp2_with fail
  go_ret
  exact ⟨rfl, gbelow G13⟩

set_option maxRecDepth 100000 in
theorem lifted (os : Os) (started : os.Started) (H : Type) (enc : TypeId × Value → H) :
    ReturnsInHanded {} Try.checked os 5 .any (Rows.fnExactBadInSpec.pre6 enc Try.prog Try.f5 Rows.fnExactBadInRow.domain false) (Rows.fnExactBadInSpec.post enc Try.prog Try.f5 false true false false) := by
  refine returnsInHanded_of_change (C := Try.checked) own started (by kernel_rfl) Try.func5
    (ChangeSpec.witness6 (enc := enc) (C := Try.checked) false ⟨#[], #[.slice none 0 0, .int .i64 0], []⟩ 8 (by kernel_rfl) (by kernel_rfl) (by kernel_rfl) (by kernel_rfl)) ?_
  intro W base args ds gs before hval0 hW hcnd _
  have hval : ∀ (j : Nat) t v, Try.f5.params[j]? = some t → args[j]? = some v → Value.okWide Try.prog W .any base t v := hval0
  have hW' := hW
  obtain ⟨p, q, hA0, hV, rfl, hfz, hnd⟩ := hW
  have hA : DataW.TrodAll enc Try.prog W 0 (fun _ => true) true Try.f5.params.toList args.toList ds p := hA0
  rw [Try.params5] at hA hval
  obtain ⟨x0, vs0, d0, ds0, p0, q0, hargs, rfl, rfl, h0, r0⟩ := trodAll_cons hA
  obtain ⟨x1, vs1, d1, ds1, p1, q1, rfl, rfl, rfl, h1, r1⟩ := trodAll_cons r0
  obtain ⟨rfl, rfl, rfl⟩ := trodAll_nil r1
  obtain rfl : args = #[x0, x1] := by cases args; simp_all
  obtain ⟨rfl, rfl⟩ := trodVars_none hV
  have k0 := h0
  have lt0 : ∀ x ∈ p0, x.block < W.heap.size := by obtain ⟨m, hm⟩ := k0; exact DataW.trod_lt m _ _ _ hm
  obtain ⟨l0, a0, n0, c0, rfl, w0⟩ := openDisks (hval 0 22 x0 rfl rfl) h0
  have k1 := h1
  have lt1 : ∀ x ∈ p1, x.block < W.heap.size := by obtain ⟨m, hm⟩ := k1; exact DataW.trod_lt m _ _ _ hm
  obtain ⟨a1, rfl, w1⟩ := openInt (hval 1 2 x1 rfl rfl) h1
  clear hA0 hval0
  refine (walk W l0 a0 n0 c0 w0 a1 w1).mono fun e W' ⟨he, bel⟩ => ?_
  subst he
  exact ⟨_, rfl, _, _, _, [], _, [], hW', trodAll_mk1 (shut_bool Try.underlying4 _), (trodAll_cons_mk (Below.trod laidOut (by kernel_rfl) (of_decide_eq_true (by kernel_rfl)) k0 bel lt0) (trodAll_cons_mk (Below.trod laidOut (by kernel_rfl) (of_decide_eq_true (by kernel_rfl)) k1 bel lt1) trodAll_mk0)), rfl, bel.frame _, fun h => by cases h⟩

theorem over : Rows.fnExactBadInRow.holds Try.pinned (OpenSpec.ofChange Rows.fnExactBadInSpec) :=
  OpenClaim.holds_of_wide 5 Try.f5 rfl rfl rfl rfl rfl rfl rfl ⟨rfl, rfl, rfl, rfl, rfl⟩ rfl rfl rfl rfl rfl (by kernel_rfl) Try.func5 (by kernel_rfl)
    (of_decide_eq_true (by kernel_rfl)) (by unfold Func.isWrapper; first | (rw [if_pos (by decide +kernel)]; kernel_rfl) | (rw [if_neg (by decide +kernel)]; exact ⟨rfl, rfl⟩))
    (fun os started H enc _ => lifted os started H enc)

theorem proved : Rows.FnExactBadInSaid := over
#print axioms proved
end Go.Proofs.Ytoifhkfkmhnngaa.fnExactBadIn
