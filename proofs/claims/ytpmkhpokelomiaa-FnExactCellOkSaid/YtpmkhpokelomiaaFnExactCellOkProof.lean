/-
  Proved: for every input the law FnExactCellOk returns true and leaves its arguments as they were; no condition.
-/
import Derived.Test.YtpmkhpokelomiaaRows
import Derived.WalkKit
import Derived.ProofKit
import Derived.OpenShut
import Derived.ShutString
import Derived.ChangeOld
import Derived.Below
import Derived.Carry
import Derived.Test.YtpmkhpokelomiaaSpecL02
import Derived.Test.YtpmkhpokelomiaaImplL02
import Derived.Test.YtpmkhpokelomiaaLawL02
namespace Go.Proofs.Ytpmkhpokelomiaa.fnExactCellOk
open Go.ChangeShapes Go.WideShapes Go.ChangeAt Go.RowKit
set_option linter.unusedVariables false

theorem own : ownKnob Try.prog.godebug = none := by kernel_rfl
theorem laidOut : laidOutB Try.prog = true := by kernel_rfl

theorem walk (w : World) (v0 s0 : Int) (w0 : i64B v0 ∧ i64B s0) :
    Calls Try.prog 4 #[.agg #[.int .i64 v0, .int .i64 s0]] w fun e w' => e = .returned (.bool true) ∧ Below w.heap.size w w' := by
  go_enter Try.func4, Try.ntmps4
  go_wp2_with fail
  refine (toCell_any _ _ _).mono ?_
  rintro e w1 ⟨rfl, g1⟩
  have h1 := gtrans (galloc (grefl w) _) g1
  obtain ⟨a0, b0⟩ := gk g1 (b := w.heap.size) (o := 0) (v := .int .i64 v0) ⟨by simp [go_sem], by simp [go_sem]⟩
  obtain ⟨a1, b1⟩ := gk g1 (b := w.heap.size) (o := 1) (v := .int .i64 s0) ⟨by simp [go_sem], by simp [go_sem]⟩
  go_wp2_with fail
  refine (specCellOk_any _ _ _).mono ?_
  rintro e w2 ⟨rfl, g2⟩
  obtain ⟨c0, d0⟩ := gk g2 ⟨a0, b0⟩
  obtain ⟨c1, d1⟩ := gk g2 ⟨a1, b1⟩
  go_wp2_with fail
  refine (toCell_any _ _ _).mono ?_
  rintro e w3 ⟨rfl, g3⟩
  go_wp2_with fail
  refine (implCellOk_any _ _ _).mono ?_
  rintro e w4 ⟨rfl, g4⟩
  go_wp2_with fail
  go_ret
  exact ⟨rfl, gbelow (gtrans h1 (gtrans g2 (gtrans g3 g4)))⟩

set_option maxRecDepth 100000 in
theorem lifted (os : Os) (started : os.Started) (H : Type) (enc : TypeId × Value → H) :
    ReturnsInHanded {} Try.checked os 4 .any (Rows.fnExactCellOkSpec.pre6 enc Try.prog Try.f4 Rows.fnExactCellOkRow.domain false) (Rows.fnExactCellOkSpec.post enc Try.prog Try.f4 false true false false) := by
  refine returnsInHanded_of_change (C := Try.checked) own started (by kernel_rfl) Try.func4
    (ChangeSpec.witness6 (enc := enc) (C := Try.checked) false ⟨#[], #[.agg #[.int .i64 0, .int .i64 0]], []⟩ 8 (by kernel_rfl) (by kernel_rfl) (by kernel_rfl) (by kernel_rfl)) ?_
  intro W base args ds gs before hval0 hW hcnd _
  have hval : ∀ (j : Nat) t v, Try.f4.params[j]? = some t → args[j]? = some v → Value.okWide Try.prog W .any base t v := hval0
  have hW' := hW
  obtain ⟨p, q, hA0, hV, rfl, hfz, hnd⟩ := hW
  have hA : DataW.TrodAll enc Try.prog W 0 (fun _ => true) true Try.f4.params.toList args.toList ds p := hA0
  rw [Try.params4] at hA hval
  obtain ⟨x0, vs0, d0, ds0, p0, q0, hargs, rfl, rfl, h0, r0⟩ := trodAll_cons hA
  obtain ⟨rfl, rfl, rfl⟩ := trodAll_nil r0
  obtain rfl : args = #[x0] := by cases args; simp_all
  obtain ⟨rfl, rfl⟩ := trodVars_none hV
  have k0 := h0
  have lt0 : ∀ x ∈ p0, x.block < W.heap.size := by obtain ⟨m, hm⟩ := k0; exact DataW.trod_lt m _ _ _ hm
  obtain ⟨v0, s0, rfl, w0⟩ := openCell (hval 0 38 x0 rfl rfl) h0
  clear hA0 hval0
  refine (walk W v0 s0 w0).mono fun e W' ⟨he, bel⟩ => ?_
  subst he
  exact ⟨_, rfl, _, _, _, [], _, [], hW', trodAll_mk1 (shut_bool Try.underlying4 _), (trodAll_cons_mk (Below.trod laidOut (by kernel_rfl) (of_decide_eq_true (by kernel_rfl)) k0 bel lt0) trodAll_mk0), rfl, bel.frame _, fun h => by cases h⟩

theorem over : Rows.fnExactCellOkRow.holds Try.pinned (OpenSpec.ofChange Rows.fnExactCellOkSpec) :=
  OpenClaim.holds_of_wide 4 Try.f4 rfl rfl rfl rfl rfl rfl rfl ⟨rfl, rfl, rfl, rfl, rfl⟩ rfl rfl rfl rfl rfl (by kernel_rfl) Try.func4 (by kernel_rfl)
    (of_decide_eq_true (by kernel_rfl)) (by unfold Func.isWrapper; first | (rw [if_pos (by decide +kernel)]; kernel_rfl) | (rw [if_neg (by decide +kernel)]; exact ⟨rfl, rfl⟩))
    (fun os started H enc _ => lifted os started H enc)

theorem proved : Rows.FnExactCellOkSaid := over
#print axioms proved
end Go.Proofs.Ytpmkhpokelomiaa.fnExactCellOk
