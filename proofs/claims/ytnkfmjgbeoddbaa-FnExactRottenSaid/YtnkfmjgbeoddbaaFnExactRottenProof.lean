/-
  Proved: for every input the law FnExactRotten returns true and leaves its arguments as they were; no condition.
-/
import Derived.Test.YtnkfmjgbeoddbaaRows
import Derived.WalkKit
import Derived.ProofKit
import Derived.OpenShut
import Derived.ShutString
import Derived.ChangeOld
import Derived.Below
import Derived.Carry
import Derived.Test.YtnkfmjgbeoddbaaSpecL02
import Derived.Test.YtnkfmjgbeoddbaaBaseL02
namespace Go.Proofs.Ytnkfmjgbeoddbaa.fnExactRotten
open Go.ChangeShapes Go.WideShapes Go.ChangeAt Go.RowKit
set_option linter.unusedVariables false

theorem own : ownKnob Try.prog.godebug = none := by kernel_rfl
theorem laidOut : laidOutB Try.prog = true := by kernel_rfl

set_option maxRecDepth 100000 in
set_option maxHeartbeats 4000000 in
theorem walk (w : World) (v0 s0 : Int) (w0 : i64B v0 ∧ i64B s0) (a1 : Int) (w1 : i64B a1) :
    Calls Try.prog 4 #[.agg #[.int .i64 v0, .int .i64 s0], .int .i64 a1] w fun e w' => e = .returned (.bool true) ∧ Below w.heap.size w w' := by
  go_enter Try.func4, Try.ntmps4
  go_wp2_with fail
  refine (toCell_any _ _ _).mono ?_
  rintro e w1 ⟨rfl, g1⟩
  have h1 := gtrans (galloc (grefl w) _) g1
  obtain ⟨c0, d0⟩ := gk g1 (b := w.heap.size) (o := 0) (v := .int .i64 v0) ⟨by simp [go_sem], by simp [go_sem]⟩
  obtain ⟨c1, d1⟩ := gk g1 (b := w.heap.size) (o := 1) (v := .int .i64 s0) ⟨by simp [go_sem], by simp [go_sem]⟩
  go_wp2_with fail
  refine (specRotten_any _ _ _ _).mono ?_
  rintro e w2 ⟨rfl, g2⟩
  have g2' := galloc g2 (.cells #[.int .i64 (rotV v0 s0 a1), .int .i64 (rotS v0 s0)] 27)
  obtain ⟨e0, f0⟩ := gk g2' ⟨c0, d0⟩
  obtain ⟨e1, f1⟩ := gk g2' ⟨c1, d1⟩
  go_wp2_with fail
  refine (toCell_any _ _ _).mono ?_
  rintro e w3 ⟨rfl, g3⟩
  obtain ⟨x0, y0⟩ := gk g3 (b := w2.heap.size) (o := 0) (v := .int .i64 (rotV v0 s0 a1)) ⟨by simp [go_sem], by simp [go_sem]⟩
  obtain ⟨x1, y1⟩ := gk g3 (b := w2.heap.size) (o := 1) (v := .int .i64 (rotS v0 s0)) ⟨by simp [go_sem], by simp [go_sem]⟩
  go_wp2_with fail
  refine (implRotten_any _ _ _ _).mono ?_
  rintro e w4 ⟨rfl, g4⟩
  have g4' := galloc g4 (.cells #[.int .i64 (rotV v0 s0 a1), .int .i64 (rotS v0 s0)] 27)
  obtain ⟨z0, u0⟩ := gk g4' ⟨x0, y0⟩
  obtain ⟨z1, u1⟩ := gk g4' ⟨x1, y1⟩
  go_wp2_with fail
  refine (eqCell_yes _ _ _).mono ?_
  rintro e w5 ⟨rfl, g5⟩
  go_wp2_with fail
  go_ret
  exact ⟨rfl, gbelow (gtrans h1 (gtrans g2' (gtrans g3 (gtrans g4' g5))))⟩

set_option maxRecDepth 100000 in
theorem lifted (os : Os) (started : os.Started) (H : Type) (enc : TypeId × Value → H) :
    ReturnsInHanded {} Try.checked os 4 .any (Rows.fnExactRottenSpec.pre6 enc Try.prog Try.f4 Rows.fnExactRottenRow.domain false) (Rows.fnExactRottenSpec.post enc Try.prog Try.f4 false true false false) := by
  refine returnsInHanded_of_change (C := Try.checked) own started (by kernel_rfl) Try.func4
    (ChangeSpec.witness6 (enc := enc) (C := Try.checked) false ⟨#[], #[.agg #[.int .i64 0, .int .i64 0], .int .i64 0], []⟩ 8 (by kernel_rfl) (by kernel_rfl) (by kernel_rfl) (by kernel_rfl)) ?_
  intro W base args ds gs before hval0 hW hcnd _
  have hval : ∀ (j : Nat) t v, Try.f4.params[j]? = some t → args[j]? = some v → Value.okWide Try.prog W .any base t v := hval0
  have hW' := hW
  obtain ⟨p, q, hA0, hV, rfl, hfz, hnd⟩ := hW
  have hA : DataW.TrodAll enc Try.prog W 0 (fun _ => true) true Try.f4.params.toList args.toList ds p := hA0
  rw [Try.params4] at hA hval
  obtain ⟨x0, vs0, d0, ds0, p0, q0, hargs, rfl, rfl, h0, r0⟩ := trodAll_cons hA
  obtain ⟨x1, vs1, d1, ds1, p1, q1, rfl, rfl, rfl, h1, r1⟩ := trodAll_cons r0
  obtain ⟨rfl, rfl, rfl⟩ := trodAll_nil r1
  obtain rfl : args = #[x0, x1] := by cases args; simp_all
  obtain ⟨rfl, rfl⟩ := trodVars_none hV
  have k0 := h0
  have lt0 : ∀ x ∈ p0, x.block < W.heap.size := by obtain ⟨m, hm⟩ := k0; exact DataW.trod_lt m _ _ _ hm
  obtain ⟨v0, s0, rfl, w0⟩ := openCell (hval 0 38 x0 rfl rfl) h0
  have k1 := h1
  have lt1 : ∀ x ∈ p1, x.block < W.heap.size := by obtain ⟨m, hm⟩ := k1; exact DataW.trod_lt m _ _ _ hm
  obtain ⟨a1, rfl, w1⟩ := openInt (hval 1 2 x1 rfl rfl) h1
  clear hA0 hval0
  refine (walk W v0 s0 w0 a1 w1).mono fun e W' ⟨he, bel⟩ => ?_
  subst he
  exact ⟨_, rfl, _, _, _, [], _, [], hW', trodAll_mk1 (shut_bool Try.underlying4 _), (trodAll_cons_mk (Below.trod laidOut (by kernel_rfl) (of_decide_eq_true (by kernel_rfl)) k0 bel lt0) (trodAll_cons_mk (Below.trod laidOut (by kernel_rfl) (of_decide_eq_true (by kernel_rfl)) k1 bel lt1) trodAll_mk0)), rfl, bel.frame _, fun h => by cases h⟩

theorem over : Rows.fnExactRottenRow.holds Try.pinned (OpenSpec.ofChange Rows.fnExactRottenSpec) :=
  OpenClaim.holds_of_wide 4 Try.f4 rfl rfl rfl rfl rfl rfl rfl ⟨rfl, rfl, rfl, rfl, rfl⟩ rfl rfl rfl rfl rfl (by kernel_rfl) Try.func4 (by kernel_rfl)
    (of_decide_eq_true (by kernel_rfl)) (by unfold Func.isWrapper; first | (rw [if_pos (by decide +kernel)]; kernel_rfl) | (rw [if_neg (by decide +kernel)]; exact ⟨rfl, rfl⟩))
    (fun os started H enc _ => lifted os started H enc)

theorem proved : Rows.FnExactRottenSaid := over
#print axioms proved
end Go.Proofs.Ytnkfmjgbeoddbaa.fnExactRotten
