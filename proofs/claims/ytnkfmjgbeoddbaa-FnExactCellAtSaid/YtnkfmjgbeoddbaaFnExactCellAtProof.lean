/-
  Proved: for every input the law FnExactCellAt returns true and leaves its arguments as they were; no condition.
-/
import Derived.Test.YtnkfmjgbeoddbaaRows
import Derived.WalkKit
import Derived.ProofKit
import Derived.OpenShut
import Derived.ShutString
import Derived.ChangeOld
import Derived.Below
import Derived.Carry
import Derived.Test.YtnkfmjgbeoddbaaSpecL06b
import Derived.Test.YtnkfmjgbeoddbaaImplL06c
import Derived.Test.YtnkfmjgbeoddbaaLawL06b
namespace Go.Proofs.Ytnkfmjgbeoddbaa.fnExactCellAt
open Go.ChangeShapes Go.WideShapes Go.ChangeAt Go.RowKit
set_option linter.unusedVariables false

theorem own : ownKnob Try.prog.godebug = none := by kernel_rfl
theorem laidOut : laidOutB Try.prog = true := by kernel_rfl

set_option maxRecDepth 100000 in
set_option maxHeartbeats 4000000 in
theorem walk (w : World) (l0 : List DZ) (a0 : Option Addr) (n0 c0 : Nat) (w0 : InDisks w a0 n0 l0) (a1 : Int) (w1 : i64B a1) (a2 : Int) (w2 : i64B a2) :
    Calls Try.prog 5 #[.slice a0 n0 c0, .int .i64 a1, .int .i64 a2] w fun e w' => e = .returned (.bool true) ∧ Below w.heap.size w w' := by
  go_enter Try.func5, Try.ntmps5
  go_wp2_with fail
  go_fit (szDiskS_any _ _ _ l0 _ w0)
  rintro e wa ⟨x, rfl, ga, hx⟩
  by_cases hneg : x < 0
  · go_wp2_with fail
    go_ret
    exact ⟨rfl, gbelow ga⟩
  have hs : Hid (Small l0) := by rcases hx with hx | hx; exact absurd hx hneg; exact hx.2
  clear hx
  go_wp2_with fail
  go_fit (toDiskS_any _ _ _ l0 _ (w0.kept ga) hs.out)
  rintro e wb ⟨v1, raw1, rfl, o1, gb⟩
  obtain ⟨d1, c1, rfl, -⟩ := o1.ld.form
  have G1 := gtrans ga gb
  clear ga gb
  go_wp2_with fail
  go_fit (specCellAt_any _ l0 _ _ _ o1.ld hs.out.len)
  rintro e wc ⟨rfl, gc⟩
  have G2 := gtrans G1 gc
  clear G1 gc o1
  go_wp2_with fail
  go_fit (toDiskS_any _ _ _ l0 _ (w0.kept G2) hs.out)
  rintro e wd ⟨v2, raw2, rfl, o2, gd⟩
  obtain ⟨d2, c2, rfl, -⟩ := o2.ld.form
  have G3 := gtrans G2 gd
  clear G2 gd
  go_wp2_with fail
  go_fit (implCellAt_any _ l0 _ _ _ o2.ld)
  rintro e we ⟨rfl, ge⟩
  have G3' := gtrans G3 ge
  have o3 := o2.ld.kept ge
  clear G3 ge o2
  go_wp2_with fail
  go_fit (toDiskS_any _ _ _ l0 _ (w0.kept G3') hs.out)
  rintro e wf ⟨v4, raw4, rfl, o4, g4⟩
  obtain ⟨d4, c4, rfl, -⟩ := o4.ld.form
  have G4 := gtrans G3' g4
  have o5 := o3.kept g4
  clear G3' g4 o3
  go_wp2_with fail
  go_fit (eqDiskS_yes _ _ l0 _ o5 o4.ld)
  rintro e wg ⟨rfl, g5⟩
  go_wp2_with fail
  go_ret
  exact ⟨rfl, gbelow (gtrans G4 g5)⟩

set_option maxRecDepth 100000 in
theorem lifted (os : Os) (started : os.Started) (H : Type) (enc : TypeId × Value → H) :
    ReturnsInHanded {} Try.checked os 5 .any (Rows.fnExactCellAtSpec.pre6 enc Try.prog Try.f5 Rows.fnExactCellAtRow.domain false) (Rows.fnExactCellAtSpec.post enc Try.prog Try.f5 false true false false) := by
  refine returnsInHanded_of_change (C := Try.checked) own started (by kernel_rfl) Try.func5
    (ChangeSpec.witness6 (enc := enc) (C := Try.checked) false ⟨#[], #[.slice none 0 0, .int .i64 0, .int .i64 0], []⟩ 8 (by kernel_rfl) (by kernel_rfl) (by kernel_rfl) (by kernel_rfl)) ?_
  intro W base args ds gs before hval0 hW hcnd _
  have hval : ∀ (j : Nat) t v, Try.f5.params[j]? = some t → args[j]? = some v → Value.okWide Try.prog W .any base t v := hval0
  have hW' := hW
  obtain ⟨p, q, hA0, hV, rfl, hfz, hnd⟩ := hW
  have hA : DataW.TrodAll enc Try.prog W 0 (fun _ => true) true Try.f5.params.toList args.toList ds p := hA0
  rw [Try.params5] at hA hval
  obtain ⟨x0, vs0, d0, ds0, p0, q0, hargs, rfl, rfl, h0, r0⟩ := trodAll_cons hA
  obtain ⟨x1, vs1, d1, ds1, p1, q1, rfl, rfl, rfl, h1, r1⟩ := trodAll_cons r0
  obtain ⟨x2, vs2, d2, ds2, p2, q2, rfl, rfl, rfl, h2, r2⟩ := trodAll_cons r1
  obtain ⟨rfl, rfl, rfl⟩ := trodAll_nil r2
  obtain rfl : args = #[x0, x1, x2] := by cases args; simp_all
  obtain ⟨rfl, rfl⟩ := trodVars_none hV
  have k0 := h0
  have lt0 : ∀ x ∈ p0, x.block < W.heap.size := by obtain ⟨m, hm⟩ := k0; exact DataW.trod_lt m _ _ _ hm
  obtain ⟨l0, a0, n0, c0, rfl, w0⟩ := openDisks (hval 0 42 x0 rfl rfl) h0
  have k1 := h1
  have lt1 : ∀ x ∈ p1, x.block < W.heap.size := by obtain ⟨m, hm⟩ := k1; exact DataW.trod_lt m _ _ _ hm
  obtain ⟨a1, rfl, w1⟩ := openInt (hval 1 2 x1 rfl rfl) h1
  have k2 := h2
  have lt2 : ∀ x ∈ p2, x.block < W.heap.size := by obtain ⟨m, hm⟩ := k2; exact DataW.trod_lt m _ _ _ hm
  obtain ⟨a2, rfl, w2⟩ := openInt (hval 2 2 x2 rfl rfl) h2
  clear hA0 hval0
  refine (walk W l0 a0 n0 c0 w0 a1 w1 a2 w2).mono fun e W' ⟨he, bel⟩ => ?_
  subst he
  exact ⟨_, rfl, _, _, _, [], _, [], hW', trodAll_mk1 (shut_bool Try.underlying4 _), (trodAll_cons_mk (Below.trod laidOut (by kernel_rfl) (of_decide_eq_true (by kernel_rfl)) k0 bel lt0) (trodAll_cons_mk (Below.trod laidOut (by kernel_rfl) (of_decide_eq_true (by kernel_rfl)) k1 bel lt1) (trodAll_cons_mk (Below.trod laidOut (by kernel_rfl) (of_decide_eq_true (by kernel_rfl)) k2 bel lt2) trodAll_mk0))), rfl, bel.frame _, fun h => by cases h⟩

theorem over : Rows.fnExactCellAtRow.holds Try.pinned (OpenSpec.ofChange Rows.fnExactCellAtSpec) :=
  OpenClaim.holds_of_wide 5 Try.f5 rfl rfl rfl rfl rfl rfl rfl ⟨rfl, rfl, rfl, rfl, rfl⟩ rfl rfl rfl rfl rfl (by kernel_rfl) Try.func5 (by kernel_rfl)
    (of_decide_eq_true (by kernel_rfl)) (by unfold Func.isWrapper; first | (rw [if_pos (by decide +kernel)]; kernel_rfl) | (rw [if_neg (by decide +kernel)]; exact ⟨rfl, rfl⟩))
    (fun os started H enc _ => lifted os started H enc)

theorem proved : Rows.FnExactCellAtSaid := over
#print axioms proved
end Go.Proofs.Ytnkfmjgbeoddbaa.fnExactCellAt
