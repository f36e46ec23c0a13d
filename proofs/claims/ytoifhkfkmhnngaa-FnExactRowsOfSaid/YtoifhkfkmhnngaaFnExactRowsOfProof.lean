/-
  Proved: for every input the law FnExactRowsOf returns true and leaves its arguments as they were; no condition.
-/
import Derived.Test.YtoifhkfkmhnngaaRows
import Derived.WalkKit
import Derived.ProofKit
import Derived.OpenShut
import Derived.ShutString
import Derived.ChangeOld
import Derived.Below
import Derived.Carry
import Derived.Test.YtoifhkfkmhnngaaSpecL06b
import Derived.Test.YtoifhkfkmhnngaaImplL06c
import Derived.Test.YtoifhkfkmhnngaaLawL06b
import Derived.Test.YtoifhkfkmhnngaaOpenL06
namespace Go.Proofs.Ytoifhkfkmhnngaa.fnExactRowsOf
open Go.ChangeShapes Go.WideShapes Go.ChangeAt Go.RowKit
set_option linter.unusedVariables false

theorem own : ownKnob Try.prog.godebug = none := by kernel_rfl
theorem laidOut : laidOutB Try.prog = true := by kernel_rfl

set_option maxRecDepth 100000 in
set_option maxHeartbeats 4000000 in
theorem walk (w : World) (l0 : List DZ) (a0 : Option Addr) (n0 c0 : Nat) (w0 : InDisks w a0 n0 l0) :
    Calls Try.prog 4 #[.slice a0 n0 c0] w fun e w' => e = .returned (.bool true) ∧ Below w.heap.size w w' := by
  go_enter Try.func4, Try.ntmps4
  go_wp2_with fail
  go_fit (szDiskS_any _ _ _ l0 _ w0)
  rintro e wa ⟨x, rfl, ga, hx⟩
  by_cases hneg : x < 0
  · go_wp2_with fail
    go_ret
    exact ⟨rfl, gbelow ga⟩
  have hs : Hid (Small l0) := by rcases hx with hx | hx; exact absurd hx hneg; exact hx.2
  clear hx
  go_wp2_with fail
  go_fit (toDiskS_any _ _ _ l0 _ (w0.kept ga) hs.out)
  rintro e wb ⟨v1, raw1, rfl, o1, gb⟩
  obtain ⟨d1, c1, rfl, -⟩ := o1.ld.form
  have G1 := gtrans ga gb
  clear ga gb
  go_wp2_with fail
  go_fit (specRowsOf_any _ l0 _ o1.ld)
  rintro e wc ⟨rfl, gc⟩
  have G2 := gtrans G1 gc
  clear G1 gc o1
  go_wp2_with fail
  go_fit (toDiskS_any _ _ _ l0 _ (w0.kept G2) hs.out)
  rintro e wd ⟨v2, raw2, rfl, o2, gd⟩
  obtain ⟨d2, c2, rfl, -⟩ := o2.ld.form
  have G3 := gtrans G2 gd
  clear G2 gd
  go_wp2_with fail
  go_fit (implRowsOf_any _ l0 _ o2.ld)
  rintro e we ⟨rfl, ge⟩
  have G3' := gtrans G3 ge
  have o3 := o2.ld.kept ge
  clear G3 ge o2
  go_wp2_with fail
  go_fit (toDiskS_any _ _ _ l0 _ (w0.kept G3') hs.out)
  rintro e wf ⟨v4, raw4, rfl, o4, g4⟩
  obtain ⟨d4, c4, rfl, -⟩ := o4.ld.form
  have G4 := gtrans G3' g4
  have o5 := o3.kept g4
  clear G3' g4 o3
  go_wp2_with fail
  go_fit (eqDiskS_yes _ _ l0 _ o5 o4.ld)
  rintro e wg ⟨rfl, g5⟩
  go_wp2_with fail
  go_ret
  exact ⟨rfl, gbelow (gtrans G4 g5)⟩

set_option maxRecDepth 100000 in
theorem lifted (os : Os) (started : os.Started) (H : Type) (enc : TypeId × Value → H) :
    ReturnsInHanded {} Try.checked os 4 .any (Rows.fnExactRowsOfSpec.pre6 enc Try.prog Try.f4 Rows.fnExactRowsOfRow.domain false) (Rows.fnExactRowsOfSpec.post enc Try.prog Try.f4 false true false false) := by
  refine returnsInHanded_of_change (C := Try.checked) own started (by kernel_rfl) Try.func4
    (ChangeSpec.witness6 (enc := enc) (C := Try.checked) false ⟨#[], #[.slice none 0 0], []⟩ 8 (by kernel_rfl) (by kernel_rfl) (by kernel_rfl) (by kernel_rfl)) ?_
  intro W base args ds gs before hval0 hW hcnd _
  have hval : ∀ (j : Nat) t v, Try.f4.params[j]? = some t → args[j]? = some v → Value.okWide Try.prog W .any base t v := hval0
  have hW' := hW
  obtain ⟨p, q, hA0, hV, rfl, hfz, hnd⟩ := hW
  have hA : DataW.TrodAll enc Try.prog W 0 (fun _ => true) true Try.f4.params.toList args.toList ds p := hA0
  rw [Try.params4] at hA hval
  obtain ⟨x0, vs0, d0, ds0, p0, q0, hargs, rfl, rfl, h0, r0⟩ := trodAll_cons hA
  obtain ⟨rfl, rfl, rfl⟩ := trodAll_nil r0
  obtain rfl : args = #[x0] := by cases args; simp_all
  obtain ⟨rfl, rfl⟩ := trodVars_none hV
  have k0 := h0
  have lt0 : ∀ x ∈ p0, x.block < W.heap.size := by obtain ⟨m, hm⟩ := k0; exact DataW.trod_lt m _ _ _ hm
  obtain ⟨l0, a0, n0, c0, rfl, w0⟩ := openDisks (hval 0 22 x0 rfl rfl) h0
  clear hA0 hval0
  refine (walk W l0 a0 n0 c0 w0).mono fun e W' ⟨he, bel⟩ => ?_
  subst he
  exact ⟨_, rfl, _, _, _, [], _, [], hW', trodAll_mk1 (shut_bool Try.underlying4 _), (trodAll_cons_mk (Below.trod laidOut (by kernel_rfl) (of_decide_eq_true (by kernel_rfl)) k0 bel lt0) trodAll_mk0), rfl, bel.frame _, fun h => by cases h⟩

theorem over : Rows.fnExactRowsOfRow.holds Try.pinned (OpenSpec.ofChange Rows.fnExactRowsOfSpec) :=
  OpenClaim.holds_of_wide 4 Try.f4 rfl rfl rfl rfl rfl rfl rfl ⟨rfl, rfl, rfl, rfl, rfl⟩ rfl rfl rfl rfl rfl (by kernel_rfl) Try.func4 (by kernel_rfl)
    (of_decide_eq_true (by kernel_rfl)) (by unfold Func.isWrapper; first | (rw [if_pos (by decide +kernel)]; kernel_rfl) | (rw [if_neg (by decide +kernel)]; exact ⟨rfl, rfl⟩))
    (fun os started H enc _ => lifted os started H enc)

theorem proved : Rows.FnExactRowsOfSaid := over
#print axioms proved
end Go.Proofs.Ytoifhkfkmhnngaa.fnExactRowsOf
