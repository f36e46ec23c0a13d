/-
  Proved: for every input the law FnExactDiskOk returns true and leaves its arguments as they were; no condition.
-/
import Derived.Test.YtgmkdmcbaeaeiaaRows
import Derived.WalkKit
import Derived.ProofKit
import Derived.OpenShut
import Derived.ShutString
import Derived.ChangeOld
import Derived.Below
import Derived.Carry
import Derived.Test.YtgmkdmcbaeaeiaaSpecL03g
import Derived.Test.YtgmkdmcbaeaeiaaImplL03
import Derived.Test.YtgmkdmcbaeaeiaaVarL03
import Derived.Test.YtgmkdmcbaeaeiaaOpenL03
namespace Go.Proofs.Ytgmkdmcbaeaeiaa.fnExactDiskOk
open Go.ChangeShapes Go.WideShapes Go.ChangeAt Go.RowKit
set_option linter.unusedVariables false

theorem own : ownKnob Try.prog.godebug = none := by kernel_rfl
theorem laidOut : laidOutB Try.prog = true := by kernel_rfl

set_option maxRecDepth 100000 in
set_option maxHeartbeats 4000000 in
theorem walk (w : World) (z0 : DZ) (ka0 : Option Addr) (km0 kc0 : Nat) (na0 : Option Addr) (nm0 nc0 : Nat) (w0 : i64B z0.n ∧ InDisk w ka0 km0 na0 nm0 z0) :
    Calls Try.prog 5 #[.agg #[.int .i64 z0.n, .bool z0.dead, .slice ka0 km0 kc0, .slice na0 nm0 nc0]] w fun e w' => e = .returned (.bool true) ∧ Below w.heap.size w w' := by
  obtain ⟨-, hin⟩ := w0
  have hk1 : z0.k.length ≤ km0 := Nat.le_of_eq hin.1.1.symm
  have hk2 : km0 ≤ 9223372036854775807 := by rw [hin.1.1]; exact hin.1.2.1
  have hn1 : z0.m.length ≤ nm0 := Nat.le_of_eq hin.2.1.symm
  have hn2 : nm0 ≤ 9223372036854775807 := by rw [hin.2.1]; exact hin.2.2.1
  have g0 := galloc (grefl w) (.cells #[.int .i64 z0.n, .bool z0.dead, .slice ka0 km0 kc0, .slice na0 nm0 nc0] 49)
  have A0 := Box4.new w (.int .i64 z0.n) (.bool z0.dead) (.slice ka0 km0 kc0) (.slice na0 nm0 nc0) 49
  by_cases hs : (1048576 - km0 - nm0 : Int) < 0
  · go_enter Try.func5, Try.ntmps5
    go_wp2_with fail
    refine (szDisk_any _ _ _ _ _ _ _ _ _ _ (by omega) (by omega) (by omega) (by omega)).mono ?_
    rintro e w1 ⟨rfl, g1⟩
    rw [if_pos (by omega)]
    go_wp2_with fail
    go_ret
    exact ⟨rfl, gbelow (gtrans g0 g1)⟩
  have hk : z0.k.length ≤ 1048576 := by omega
  have hm : z0.m.length ≤ 1048576 := by omega
  go_enter Try.func5, Try.ntmps5
  go_wp2_with fail
  refine (szDisk_any _ _ _ _ _ _ _ _ _ _ (by omega) (by omega) (by omega) (by omega)).mono ?_
  rintro e w1 ⟨rfl, g1⟩
  rw [if_neg (by omega)]
  have A1 := A0.kept g1
  have G1 := gtrans g0 g1
  clear A0 g0 g1 hk1 hk2 hn1 hn2
  obtain ⟨a0, a1, a2, a3⟩ := A1
  go_wp2_with fail
  refine (toDisk_any _ _ _ _ _ _ z0 _ (hin.kept G1) hk hm).mono ?_
  rintro e w2 ⟨kv2, nv2, rfl, d2, -, g2⟩
  have A2 := Box4.kept (b := w.heap.size) ⟨a0, a1, a2, a3⟩ g2
  have G2 := gtrans G1 g2
  clear a0 a1 a2 a3 G1
  go_wp2_with fail
  refine (specDiskOk_any _ _ z0 _ ⟨d2.1.lower (Nat.zero_le _), d2.2.lower (Nat.zero_le _)⟩).mono ?_
  rintro e w3 ⟨rfl, g3⟩
  have A3 := A2.kept g3
  have G3 := gtrans G2 g3
  clear A2 G2 d2
  obtain ⟨a0, a1, a2, a3⟩ := A3
  go_wp2_with fail
  refine (toDisk_any _ _ _ _ _ _ z0 _ (hin.kept G3) hk hm).mono ?_
  rintro e w4 ⟨kv4, nv4, rfl, d4, ap4, g4⟩
  have e4 := galloc g4 (.cells #[.int .i64 z0.n, .bool z0.dead, kv4, nv4] 26)
  have A4 := Box4.kept (b := w.heap.size) ⟨a0, a1, a2, a3⟩ e4
  have X4 := Box4.new w4 (.int .i64 z0.n) (.bool z0.dead) kv4 nv4 26
  have d5 := d4.grew (galloc (grefl w4) (.cells #[.int .i64 z0.n, .bool z0.dead, kv4, nv4] 26))
  have G4 := gtrans G3 e4
  obtain ⟨ka4, km4, kc4, rfl⟩ := d4.1.sl
  obtain ⟨na4, nm4, nc4, rfl⟩ := d4.2.sl
  clear a0 a1 a2 a3 G3 d4 e4
  go_upto_region 7 with (fail)
  generalize w4.alloc (.cells #[.int .i64 z0.n, .bool z0.dead, .slice ka4 km4 kc4, .slice na4 nm4 nc4] 26) = W4 at *
  generalize w4.heap.size = b4 at *
  have HX := Lib.hid X4
  obtain ⟨x0, x1, x2, x3⟩ := X4
  go_wp2_with fail
  refine (implDiskOk_any _ _ z0 _ ⟨d5.1.lower (Nat.zero_le _), d5.2.lower (Nat.zero_le _)⟩).mono ?_
  rintro e w6 ⟨rfl, g6⟩
  have S0 : LS w6 _ _ _ _ _ _ _ _ _ _ := ⟨A4.kept g6, HX.out.kept g6⟩
  have d6 := d5.grew g6
  have G6 := gtrans G4 g6
  clear x0 x1 x2 x3 A4 HX d5 G4
  go_wp2_with fail
  go_region_held3 (fun w' => LS w' w.heap.size (.int .i64 z0.n) (.bool z0.dead) (.slice ka0 km0 kc0) (.slice na0 nm0 nc0) b4 (.int .i64 z0.n) (.bool z0.dead) (.slice ka4 km4 kc4) (.slice na4 nm4 nc4)) (first | assumption | exact S0.drew | exact LS.kept ‹LS _ w.heap.size _ _ _ _ b4 _ _ _ _› ‹World.grownBy _ _ none›) (first | (go_at_call 36; refine (toDisk_any _ _ _ _ _ _ z0 _ (hin.kept (gdrew G6 1)) hk hm).mono ?_; rintro e w8 ⟨kv8, nv8, rfl, d8, -, g8⟩) | (go_at_call 37; refine (eqDisk_yes _ _ _ _ z0 _ ⟨((d6.1.grew (gtrans (gdrew (grefl w6) 1) g8)).lower (Nat.zero_le _)), ((d6.2.grew (gtrans (gdrew (grefl w6) 1) g8)).lower (Nat.zero_le _))⟩ ⟨d8.1.lower (Nat.zero_le _), d8.2.lower (Nat.zero_le _)⟩).mono ?_; rintro e w9 ⟨rfl, g9⟩))
  go_wp2_with fail
  go_ret
  exact ⟨rfl, gbelow (gtrans G6 (gtrans (gdrew (grefl w6) 1) (gtrans g8 g9)))⟩

set_option maxRecDepth 100000 in
theorem lifted (os : Os) (started : os.Started) (H : Type) (enc : TypeId × Value → H) :
    ReturnsInHanded {} Try.checked os 5 .any (Rows.fnExactDiskOkSpec.pre6 enc Try.prog Try.f5 Rows.fnExactDiskOkRow.domain false) (Rows.fnExactDiskOkSpec.post enc Try.prog Try.f5 false true false false) := by
  refine returnsInHanded_of_change (C := Try.checked) own started (by kernel_rfl) Try.func5
    (ChangeSpec.witness6 (enc := enc) (C := Try.checked) false ⟨#[], #[.agg #[.int .i64 0, .bool false, .slice none 0 0, .slice none 0 0]], []⟩ 8 (by kernel_rfl) (by kernel_rfl) (by kernel_rfl) (by kernel_rfl)) ?_
  intro W base args ds gs before hval0 hW hcnd _
  have hval : ∀ (j : Nat) t v, Try.f5.params[j]? = some t → args[j]? = some v → Value.okWide Try.prog W .any base t v := hval0
  have hW' := hW
  obtain ⟨p, q, hA0, hV, rfl, hfz, hnd⟩ := hW
  have hA : DataW.TrodAll enc Try.prog W 0 (fun _ => true) true Try.f5.params.toList args.toList ds p := hA0
  rw [Try.params5] at hA hval
  obtain ⟨x0, vs0, d0, ds0, p0, q0, hargs, rfl, rfl, h0, r0⟩ := trodAll_cons hA
  obtain ⟨rfl, rfl, rfl⟩ := trodAll_nil r0
  obtain rfl : args = #[x0] := by cases args; simp_all
  obtain ⟨rfl, rfl⟩ := trodVars_none hV
  have k0 := h0
  have lt0 : ∀ x ∈ p0, x.block < W.heap.size := by obtain ⟨m, hm⟩ := k0; exact DataW.trod_lt m _ _ _ hm
  obtain ⟨z0, ka0, km0, kc0, na0, nm0, nc0, rfl, w0⟩ := openDisk (hval 0 49 x0 rfl rfl) h0
  clear hA0 hval0
  refine (walk W z0 ka0 km0 kc0 na0 nm0 nc0 w0).mono fun e W' ⟨he, bel⟩ => ?_
  subst he
  exact ⟨_, rfl, _, _, _, [], _, [], hW', trodAll_mk1 (shut_bool Try.underlying4 _), (trodAll_cons_mk (Below.trod laidOut (by kernel_rfl) (of_decide_eq_true (by kernel_rfl)) k0 bel lt0) trodAll_mk0), rfl, bel.frame _, fun h => by cases h⟩

theorem over : Rows.fnExactDiskOkRow.holds Try.pinned (OpenSpec.ofChange Rows.fnExactDiskOkSpec) :=
  OpenClaim.holds_of_wide 5 Try.f5 rfl rfl rfl rfl rfl rfl rfl ⟨rfl, rfl, rfl, rfl, rfl⟩ rfl rfl rfl rfl rfl (by kernel_rfl) Try.func5 (by kernel_rfl)
    (of_decide_eq_true (by kernel_rfl)) (by unfold Func.isWrapper; first | (rw [if_pos (by decide +kernel)]; kernel_rfl) | (rw [if_neg (by decide +kernel)]; exact ⟨rfl, rfl⟩))
    (fun os started H enc _ => lifted os started H enc)

theorem proved : Rows.FnExactDiskOkSaid := over
#print axioms proved
end Go.Proofs.Ytgmkdmcbaeaeiaa.fnExactDiskOk
