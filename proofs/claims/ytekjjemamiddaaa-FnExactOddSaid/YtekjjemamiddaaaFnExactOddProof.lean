/-
  Proved: for every input the law FnExactOdd returns true and leaves its arguments as they were; no condition.
-/
import Derived.Test.YtekjjemamiddaaaRows
import Derived.WalkKit
import Derived.ProofKit
import Derived.OpenShut
import Derived.ShutString
import Derived.ChangeOld
import Derived.Below
import Derived.Carry
import Derived.Test.YtekjjemamiddaaaSpecL04
import Derived.Test.YtekjjemamiddaaaImplL04
import Derived.Test.YtekjjemamiddaaaLawL04
namespace Go.Proofs.Ytekjjemamiddaaa.fnExactOdd
open Go.ChangeShapes Go.WideShapes Go.ChangeAt Go.RowKit
set_option linter.unusedVariables false

theorem own : ownKnob Try.prog.godebug = none := by kernel_rfl
theorem laidOut : laidOutB Try.prog = true := by kernel_rfl

set_option maxRecDepth 100000 in
set_option maxHeartbeats 4000000 in
theorem walk (w : World) (l0 : List Int) (a0 : Option Addr) (n0 c0 : Nat) (w0 : IR w (.slice a0 n0 c0) l0) :
    Calls Try.prog 6 #[.slice a0 n0 c0] w fun e w' => e = .returned (.bool true) ∧ Below w.heap.size w w' := by
  obtain ⟨ad, cap, h0, hm⟩ := w0.form
  cases h0
  by_cases hl : 1048576 < l0.length
  · go_enter Try.func6, Try.ntmps6
    go_wp2_with fail
    go_ret
    exact ⟨rfl, Below.refl _ _⟩
  have hl' : l0.length ≤ 1048576 := by omega
  go_enter Try.func6, Try.ntmps6
  go_wp2_with fail
  go_fit (toInt64S_any _ l0 _ w0 hl')
  rintro e w1 ⟨v1, rfl, s1, g1⟩
  obtain ⟨d1, c1, rfl, -⟩ := s1.rd.form
  go_wp2_with fail
  go_fit (specOdd_any _ l0  _ s1.rd)
  rintro e w' ⟨rfl, rfl⟩
  go_wp2_with fail
  go_fit (toInt64S_any _ l0 _ (w0.kept g1) hl')
  rintro e w2 ⟨v2, rfl, s2, g2⟩
  obtain ⟨d2, c2, rfl, -⟩ := s2.rd.form
  have G2 := gtrans g1 g2
  clear s1 g1 g2
  go_wp2_with fail
  go_fit (implOdd_any _ l0  _ s2.rd)
  rintro e w3 ⟨rfl, rfl⟩
  have G3 := G2
  have s3 := s2
  clear G2 s2
  go_wp2_with fail
  go_fit (toInt64S_any _ l0 _ (w0.kept G3) hl')
  rintro e w4 ⟨v4, rfl, s4, g4⟩
  obtain ⟨d4, c4, rfl, -⟩ := s4.rd.form
  have G4 := gtrans G3 g4
  have s5 := s3.grew g4
  clear G3 g4 s3
  go_wp2_with fail
  go_fit (eqInt64S_yes _ _ l0 _ s5.rd s4.rd)
  rintro e w5 ⟨rfl, g5⟩
  go_wp2_with fail
  go_ret
  exact ⟨rfl, gbelow (gtrans G4 g5)⟩

set_option maxRecDepth 100000 in
theorem lifted (os : Os) (started : os.Started) (H : Type) (enc : TypeId × Value → H) :
    ReturnsInHanded {} Try.checked os 6 .any (Rows.fnExactOddSpec.pre6 enc Try.prog Try.f6 Rows.fnExactOddRow.domain false) (Rows.fnExactOddSpec.post enc Try.prog Try.f6 false true false false) := by
  refine returnsInHanded_of_change (C := Try.checked) own started (by kernel_rfl) Try.func6
    (ChangeSpec.witness6 (enc := enc) (C := Try.checked) false ⟨#[], #[.slice none 0 0], []⟩ 8 (by kernel_rfl) (by kernel_rfl) (by kernel_rfl) (by kernel_rfl)) ?_
  intro W base args ds gs before hval0 hW hcnd _
  have hval : ∀ (j : Nat) t v, Try.f6.params[j]? = some t → args[j]? = some v → Value.okWide Try.prog W .any base t v := hval0
  have hW' := hW
  obtain ⟨p, q, hA0, hV, rfl, hfz, hnd⟩ := hW
  have hA : DataW.TrodAll enc Try.prog W 0 (fun _ => true) true Try.f6.params.toList args.toList ds p := hA0
  rw [Try.params6] at hA hval
  obtain ⟨x0, vs0, d0, ds0, p0, q0, hargs, rfl, rfl, h0, r0⟩ := trodAll_cons hA
  obtain ⟨rfl, rfl, rfl⟩ := trodAll_nil r0
  obtain rfl : args = #[x0] := by cases args; simp_all
  obtain ⟨rfl, rfl⟩ := trodVars_none hV
  have k0 := h0
  have lt0 : ∀ x ∈ p0, x.block < W.heap.size := by obtain ⟨m, hm⟩ := k0; exact DataW.trod_lt m _ _ _ hm
  obtain ⟨l0, a0, n0, c0, rfl, w0⟩ := openInts (hval 0 24 x0 rfl rfl) h0
  clear hA0 hval0
  refine (walk W l0 a0 n0 c0 w0).mono fun e W' ⟨he, bel⟩ => ?_
  subst he
  exact ⟨_, rfl, _, _, _, [], _, [], hW', trodAll_mk1 (shut_bool Try.underlying4 _), (trodAll_cons_mk (Below.trod laidOut (by kernel_rfl) (of_decide_eq_true (by kernel_rfl)) k0 bel lt0) trodAll_mk0), rfl, bel.frame _, fun h => by cases h⟩

theorem over : Rows.fnExactOddRow.holds Try.pinned (OpenSpec.ofChange Rows.fnExactOddSpec) :=
  OpenClaim.holds_of_wide 6 Try.f6 rfl rfl rfl rfl rfl rfl rfl ⟨rfl, rfl, rfl, rfl, rfl⟩ rfl rfl rfl rfl rfl (by kernel_rfl) Try.func6 (by kernel_rfl)
    (of_decide_eq_true (by kernel_rfl)) (by unfold Func.isWrapper; first | (rw [if_pos (by decide +kernel)]; kernel_rfl) | (rw [if_neg (by decide +kernel)]; exact ⟨rfl, rfl⟩))
    (fun os started H enc _ => lifted os started H enc)

theorem proved : Rows.FnExactOddSaid := over
#print axioms proved
end Go.Proofs.Ytekjjemamiddaaa.fnExactOdd
