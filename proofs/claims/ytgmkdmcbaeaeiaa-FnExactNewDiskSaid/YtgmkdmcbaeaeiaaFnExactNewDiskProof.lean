/-
  Proved: for every input the law FnExactNewDisk returns true and leaves its arguments as they were; no condition.
-/
import Derived.Test.YtgmkdmcbaeaeiaaRows
import Derived.WalkKit
import Derived.ProofKit
import Derived.OpenShut
import Derived.ShutString
import Derived.ChangeOld
import Derived.Below
import Derived.Carry
import Derived.Test.YtgmkdmcbaeaeiaaSpecL03g
import Derived.Test.YtgmkdmcbaeaeiaaImplL03c
import Derived.Test.YtgmkdmcbaeaeiaaVarL03
import Derived.Test.YtgmkdmcbaeaeiaaOpenL03
namespace Go.Proofs.Ytgmkdmcbaeaeiaa.fnExactNewDisk
open Go.ChangeShapes Go.WideShapes Go.ChangeAt Go.RowKit
set_option linter.unusedVariables false

theorem own : ownKnob Try.prog.godebug = none := by kernel_rfl
theorem laidOut : laidOutB Try.prog = true := by kernel_rfl

set_option maxRecDepth 100000 in
set_option maxHeartbeats 4000000 in
theorem walk (w : World) (a0 : Int) (w0 : i64B a0) (a1 : Int) (w1 : i64B a1) :
    Calls Try.prog 6 #[.int .i64 a0, .int .i64 a1] w fun e w' => e = .returned (.bool true) ∧ Below w.heap.size w w' := by
  have hsm := newD_small a0 a1
  have hr1 : (newD a0 a1).k.length ≤ 1048576 := by omega
  have hr2 : (newD a0 a1).m.length ≤ 1048576 := by omega
  have mp2 := markE_pos (k := 1) (newD a0 a1) (by omega)
  clear hsm
  go_enter Try.func6, Try.ntmps6
  go_wp2_with fail
  refine (specNewDisk_any _ _ _).mono ?_
  rintro e w3 ⟨kv3, nv3, rfl, d3, ap3, g3⟩
  have e3 := galloc g3 (.cells #[.int .i64 (newD a0 a1).n, .bool (newD a0 a1).dead, kv3, nv3] 26)
  have V3 := Var.new d3 ap3 26
  have l3 := g3.size
  obtain ⟨ka3, km3, kc3, rfl⟩ := d3.1.sl
  obtain ⟨na3, nm3, nc3, rfl⟩ := d3.2.sl
  clear d3 g3
  go_upto_region 2 with (fail)
  have s3 : w3.heap.size < (w3.alloc (.cells #[.int .i64 (newD a0 a1).n, .bool (newD a0 a1).dead, .slice ka3 km3 kc3, .slice na3 nm3 nc3] 26)).heap.size := by simp
  generalize w3.alloc (.cells #[.int .i64 (newD a0 a1).n, .bool (newD a0 a1).dead, .slice ka3 km3 kc3, .slice na3 nm3 nc3] 26) = W3 at *
  generalize w3.heap.size = b3 at *
  go_wp2_with fail
  refine (implNewDisk_any _ _ _).mono ?_
  rintro e w5 ⟨kv5, nv5, rfl, d5, ap5, g5⟩
  have e5 := galloc g5 (.cells #[.int .i64 (newD a0 a1).n, .bool (newD a0 a1).dead, kv5, nv5] 26)
  have V5 := Var.new d5 ap5 26
  have V3 := V3.kept e5
  have G5 := gtrans e3 e5
  have l5 := g5.size
  obtain ⟨ka5, km5, kc5, rfl⟩ := d5.1.sl
  obtain ⟨na5, nm5, nc5, rfl⟩ := d5.2.sl
  clear d5 g5 e5
  go_upto_region 3 with (fail)
  have s5 : w5.heap.size < (w5.alloc (.cells #[.int .i64 (newD a0 a1).n, .bool (newD a0 a1).dead, .slice ka5 km5 kc5, .slice na5 nm5 nc5] 26)).heap.size := by simp
  generalize w5.alloc (.cells #[.int .i64 (newD a0 a1).n, .bool (newD a0 a1).dead, .slice ka5 km5 kc5, .slice na5 nm5 nc5] 26) = W5 at *
  generalize w5.heap.size = b5 at *
  generalize W3.heap.size = lo5 at *
  obtain ⟨x0, x1, x2, x3⟩ := V5.b4
  obtain ⟨y0, y1, y2, y3⟩ := V3.b4
  go_wp2_with fail
  refine (eqDisk_yes _ _ _ _ (newD a0 a1) _ V5.isD V3.isD).mono ?_
  rintro e w11 ⟨rfl, g11⟩
  have V3 := V3.kept g11
  have V5 := V5.kept g11
  have G11 := gtrans G5 g11
  clear x0 x1 x2 x3 y0 y1 y2 y3 G5 g11
  obtain ⟨x0, x1, x2, x3⟩ := V5.b4
  go_wp2_with fail
  refine (markDisk_any lo5 _ _ (newD a0 a1) 1 _ ⟨V5.box.ks, V5.box.ns⟩ V5.box.ap hr1 hr2 (by omega) (by omega)).mono ?_
  rintro e w12 ⟨rfl, m12, O12⟩
  have hS5 : ∀ k, Two2 (.slice ka5 km5 kc5) (.slice na5 nm5 nc5) k → lo5 ≤ k ∧ k < b5 := V5.klo
  have V3 := V3.only O12 (fun k e => by have := hS5 k e; omega) (by omega)
  have V5 := V5.marked m12 O12 rfl rfl
  have G12 := O12.grew G11 (fun k e => by have := hS5 k e; omega)
  have HM : (newD a0 a1).n = (markD 1 (newD a0 a1)).n ∧ (newD a0 a1).dead = (markD 1 (newD a0 a1)).dead := ⟨rfl, rfl⟩
  have HH := Lib.hid HM
  clear HM x0 x1 x2 x3 G11 m12 O12 hS5
  have X5 := V5.b4
  rw [← HH.out.1, ← HH.out.2] at X5
  obtain ⟨x0, x1, x2, x3⟩ := X5
  go_wp2_with fail
  refine (heldDisk_any _ _ (newD a0 a1) 1 _ V5.isD hr1 hr2 (by omega) (by omega)).mono ?_
  rintro e w13 ⟨rfl, g13⟩
  have V3 := V3.kept g13
  have V5 := V5.kept g13
  have G13 := gtrans G12 g13
  clear x0 x1 x2 x3 G12 g13
  go_wp2_with fail
  refine (implNewDisk_any _ _ _).mono ?_
  rintro e w15 ⟨kv15, nv15, rfl, d15, ap15, g15⟩
  have e15 := galloc g15 (.cells #[.int .i64 (newD a0 a1).n, .bool (newD a0 a1).dead, kv15, nv15] 26)
  have V15 := Var.new d15 ap15 26
  have V3 := V3.kept e15
  have V5 := V5.kept e15
  have G15 := gtrans G13 e15
  obtain ⟨ka6, km6, kc6, rfl⟩ := d15.1.sl
  obtain ⟨na6, nm6, nc6, rfl⟩ := d15.2.sl
  clear G13 d15 g15 e15
  go_upto_region 14 with (fail)
  generalize w15.alloc (.cells #[.int .i64 (newD a0 a1).n, .bool (newD a0 a1).dead, .slice ka6 km6 kc6, .slice na6 nm6 nc6] 26) = W15 at *
  generalize w15.heap.size = b15 at *
  obtain ⟨x0, x1, x2, x3⟩ := V15.b4
  obtain ⟨y0, y1, y2, y3⟩ := V3.b4
  go_wp2_with fail
  refine (eqDisk_yes _ _ _ _ (newD a0 a1) _ V15.isD V3.isD).mono ?_
  rintro e w16 ⟨rfl, g16⟩
  have V5 := V5.kept g16
  have G16 := gtrans G15 g16
  clear x0 x1 x2 x3 y0 y1 y2 y3 G15 g16 V15
  have X5 := V5.b4
  rw [← HH.out.1, ← HH.out.2] at X5
  obtain ⟨x0, x1, x2, x3⟩ := X5
  go_wp2_with fail
  refine (heldDisk_any _ _ (newD a0 a1) 1 _ V5.isD hr1 hr2 (by omega) (by omega)).mono ?_
  rintro e w17 ⟨rfl, g17⟩
  go_wp2_with fail
  go_ret
  exact ⟨rfl, gbelow (gtrans G16 g17)⟩

set_option maxRecDepth 100000 in
theorem lifted (os : Os) (started : os.Started) (H : Type) (enc : TypeId × Value → H) :
    ReturnsInHanded {} Try.checked os 6 .any (Rows.fnExactNewDiskSpec.pre6 enc Try.prog Try.f6 Rows.fnExactNewDiskRow.domain false) (Rows.fnExactNewDiskSpec.post enc Try.prog Try.f6 false true false false) := by
  refine returnsInHanded_of_change (C := Try.checked) own started (by kernel_rfl) Try.func6
    (ChangeSpec.witness6 (enc := enc) (C := Try.checked) false ⟨#[], #[.int .i64 0, .int .i64 0], []⟩ 8 (by kernel_rfl) (by kernel_rfl) (by kernel_rfl) (by kernel_rfl)) ?_
  intro W base args ds gs before hval0 hW hcnd _
  have hval : ∀ (j : Nat) t v, Try.f6.params[j]? = some t → args[j]? = some v → Value.okWide Try.prog W .any base t v := hval0
  have hW' := hW
  obtain ⟨p, q, hA0, hV, rfl, hfz, hnd⟩ := hW
  have hA : DataW.TrodAll enc Try.prog W 0 (fun _ => true) true Try.f6.params.toList args.toList ds p := hA0
  rw [Try.params6] at hA hval
  obtain ⟨x0, vs0, d0, ds0, p0, q0, hargs, rfl, rfl, h0, r0⟩ := trodAll_cons hA
  obtain ⟨x1, vs1, d1, ds1, p1, q1, rfl, rfl, rfl, h1, r1⟩ := trodAll_cons r0
  obtain ⟨rfl, rfl, rfl⟩ := trodAll_nil r1
  obtain rfl : args = #[x0, x1] := by cases args; simp_all
  obtain ⟨rfl, rfl⟩ := trodVars_none hV
  have k0 := h0
  have lt0 : ∀ x ∈ p0, x.block < W.heap.size := by obtain ⟨m, hm⟩ := k0; exact DataW.trod_lt m _ _ _ hm
  obtain ⟨a0, rfl, w0⟩ := openInt (hval 0 2 x0 rfl rfl) h0
  have k1 := h1
  have lt1 : ∀ x ∈ p1, x.block < W.heap.size := by obtain ⟨m, hm⟩ := k1; exact DataW.trod_lt m _ _ _ hm
  obtain ⟨a1, rfl, w1⟩ := openInt (hval 1 2 x1 rfl rfl) h1
  clear hA0 hval0
  refine (walk W a0 w0 a1 w1).mono fun e W' ⟨he, bel⟩ => ?_
  subst he
  exact ⟨_, rfl, _, _, _, [], _, [], hW', trodAll_mk1 (shut_bool Try.underlying4 _), (trodAll_cons_mk (Below.trod laidOut (by kernel_rfl) (of_decide_eq_true (by kernel_rfl)) k0 bel lt0) (trodAll_cons_mk (Below.trod laidOut (by kernel_rfl) (of_decide_eq_true (by kernel_rfl)) k1 bel lt1) trodAll_mk0)), rfl, bel.frame _, fun h => by cases h⟩

theorem over : Rows.fnExactNewDiskRow.holds Try.pinned (OpenSpec.ofChange Rows.fnExactNewDiskSpec) :=
  OpenClaim.holds_of_wide 6 Try.f6 rfl rfl rfl rfl rfl rfl rfl ⟨rfl, rfl, rfl, rfl, rfl⟩ rfl rfl rfl rfl rfl (by kernel_rfl) Try.func6 (by kernel_rfl)
    (of_decide_eq_true (by kernel_rfl)) (by unfold Func.isWrapper; first | (rw [if_pos (by decide +kernel)]; kernel_rfl) | (rw [if_neg (by decide +kernel)]; exact ⟨rfl, rfl⟩))
    (fun os started H enc _ => lifted os started H enc)

theorem proved : Rows.FnExactNewDiskSaid := over
#print axioms proved
end Go.Proofs.Ytgmkdmcbaeaeiaa.fnExactNewDisk
