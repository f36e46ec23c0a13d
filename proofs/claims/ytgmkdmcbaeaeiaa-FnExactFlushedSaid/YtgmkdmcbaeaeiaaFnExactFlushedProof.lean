/-
  Proved: for every input the law FnExactFlushed returns true and leaves its arguments as they were; no condition.
-/
import Derived.Test.YtgmkdmcbaeaeiaaRows
import Derived.WalkKit
import Derived.ProofKit
import Derived.OpenShut
import Derived.ShutString
import Derived.ChangeOld
import Derived.Below
import Derived.Carry
import Derived.Test.YtgmkdmcbaeaeiaaSpecL03g
import Derived.Test.YtgmkdmcbaeaeiaaImplL03d
import Derived.Test.YtgmkdmcbaeaeiaaVarL03
import Derived.Test.YtgmkdmcbaeaeiaaOpenL03
namespace Go.Proofs.Ytgmkdmcbaeaeiaa.fnExactFlushed
open Go.ChangeShapes Go.WideShapes Go.ChangeAt Go.RowKit
set_option linter.unusedVariables false

theorem own : ownKnob Try.prog.godebug = none := by kernel_rfl
theorem laidOut : laidOutB Try.prog = true := by kernel_rfl

set_option maxRecDepth 100000 in
set_option maxHeartbeats 4000000 in
theorem walk (w : World) (z0 : DZ) (ka0 : Option Addr) (km0 kc0 : Nat) (na0 : Option Addr) (nm0 nc0 : Nat) (w0 : i64B z0.n ∧ InDisk w ka0 km0 na0 nm0 z0) :
    Calls Try.prog 9 #[.agg #[.int .i64 z0.n, .bool z0.dead, .slice ka0 km0 kc0, .slice na0 nm0 nc0]] w fun e w' => e = .returned (.bool true) ∧ Below w.heap.size w w' := by
  obtain ⟨-, hin⟩ := w0
  have hk1 : z0.k.length ≤ km0 := Nat.le_of_eq hin.1.1.symm
  have hk2 : km0 ≤ 9223372036854775807 := by rw [hin.1.1]; exact hin.1.2.1
  have hn1 : z0.m.length ≤ nm0 := Nat.le_of_eq hin.2.1.symm
  have hn2 : nm0 ≤ 9223372036854775807 := by rw [hin.2.1]; exact hin.2.2.1
  have g0 := galloc (grefl w) (.cells #[.int .i64 z0.n, .bool z0.dead, .slice ka0 km0 kc0, .slice na0 nm0 nc0] 49)
  have A0 := Box4.new w (.int .i64 z0.n) (.bool z0.dead) (.slice ka0 km0 kc0) (.slice na0 nm0 nc0) 49
  by_cases hs : (1048576 - km0 - nm0 : Int) < 0
  · go_enter Try.func9, Try.ntmps9
    go_wp2_with fail
    refine (szDisk_any _ _ _ _ _ _ _ _ _ _ (by omega) (by omega) (by omega) (by omega)).mono ?_
    rintro e w1 ⟨rfl, g1⟩
    rw [if_pos (by omega)]
    go_wp2_with fail
    go_ret
    exact ⟨rfl, gbelow (gtrans g0 g1)⟩
  have hk : z0.k.length ≤ 1048576 := by omega
  have hm : z0.m.length ≤ 1048576 := by omega
  have hsm := z0.flushed_small
  have hr1 : (z0.flushed).k.length ≤ 1048576 := by omega
  have hr2 : (z0.flushed).m.length ≤ 1048576 := by omega
  have mp1 := markE_pos (k := 1) z0 (by omega)
  have mp2 := markE_pos (k := 1) (z0.flushed) (by omega)
  clear hsm
  go_enter Try.func9, Try.ntmps9
  go_wp2_with fail
  refine (szDisk_any _ _ _ _ _ _ _ _ _ _ (by omega) (by omega) (by omega) (by omega)).mono ?_
  rintro e w1 ⟨rfl, g1⟩
  rw [if_neg (by omega)]
  have A1 := A0.kept g1
  have G1 := gtrans g0 g1
  have l1 := cell_lt A1.1
  clear A0 g0 g1 hk1 hk2 hn1 hn2
  obtain ⟨p0, p1, p2, p3⟩ := A1
  go_wp2_with fail
  refine (toDisk_any _ _ _ _ _ _ z0 _ (hin.kept G1) hk hm).mono ?_
  rintro e w2 ⟨kv2, nv2, rfl, d2, -, g2⟩
  have A2 := Box4.kept (b := w.heap.size) ⟨p0, p1, p2, p3⟩ g2
  have G2 := gtrans G1 g2
  have l2 := g2.size
  clear p0 p1 p2 p3 G1 g2
  go_wp2_with fail
  refine (specFlushed_any _ _ z0  _ ⟨d2.1.lower (Nat.zero_le _), d2.2.lower (Nat.zero_le _)⟩).mono ?_
  rintro e w3 ⟨kv3, nv3, rfl, d3, ap3, g3⟩
  have e3 := galloc g3 (.cells #[.int .i64 (z0.flushed).n, .bool (z0.flushed).dead, kv3, nv3] 26)
  have V3 := Var.new d3 ap3 26
  have A3 := A2.kept e3
  have G3 := gtrans G2 e3
  have l3 := g3.size
  obtain ⟨ka3, km3, kc3, rfl⟩ := d3.1.sl
  obtain ⟨na3, nm3, nc3, rfl⟩ := d3.2.sl
  clear A2 G2 d2 d3 g3 e3
  go_upto_region 6 with (fail)
  have s3 : w3.heap.size < (w3.alloc (.cells #[.int .i64 (z0.flushed).n, .bool (z0.flushed).dead, .slice ka3 km3 kc3, .slice na3 nm3 nc3] 26)).heap.size := by simp
  generalize w3.alloc (.cells #[.int .i64 (z0.flushed).n, .bool (z0.flushed).dead, .slice ka3 km3 kc3, .slice na3 nm3 nc3] 26) = W3 at *
  generalize w3.heap.size = b3 at *
  generalize w2.heap.size = lo3 at *
  have HA := Lib.hid A3
  obtain ⟨p0, p1, p2, p3⟩ := A3
  go_wp2_with fail
  refine (toDisk_any _ _ _ _ _ _ z0 _ (hin.kept G3) hk hm).mono ?_
  rintro e w4 ⟨kv4, nv4, rfl, d4, ap4, g4⟩
  have e4 := galloc g4 (.cells #[.int .i64 z0.n, .bool z0.dead, kv4, nv4] 26)
  have V4 := Var.new d4 ap4 26
  have A4 := HA.out.kept e4
  have V3 := V3.kept e4
  have G4 := gtrans G3 e4
  have l4 := g4.size
  obtain ⟨ka4, km4, kc4, rfl⟩ := d4.1.sl
  obtain ⟨na4, nm4, nc4, rfl⟩ := d4.2.sl
  clear p0 p1 p2 p3 G3 d4 g4 e4 HA
  go_upto_region 7 with (fail)
  have s4 : w4.heap.size < (w4.alloc (.cells #[.int .i64 z0.n, .bool z0.dead, .slice ka4 km4 kc4, .slice na4 nm4 nc4] 26)).heap.size := by simp
  generalize w4.alloc (.cells #[.int .i64 z0.n, .bool z0.dead, .slice ka4 km4 kc4, .slice na4 nm4 nc4] 26) = W4 at *
  generalize w4.heap.size = b4 at *
  generalize W3.heap.size = lo4 at *
  obtain ⟨x0, x1, x2, x3⟩ := V4.b4
  go_wp2_with fail
  refine (implFlushed_any _ _ z0  _ V4.isD).mono ?_
  rintro e w5 ⟨kv5, nv5, rfl, d5, ap5, g5⟩
  have e5 := galloc g5 (.cells #[.int .i64 (z0.flushed).n, .bool (z0.flushed).dead, kv5, nv5] 26)
  have V5 := Var.new d5 ap5 26
  have A5 := A4.kept e5
  have V3 := V3.kept e5
  have V4 := V4.kept e5
  have G5 := gtrans G4 e5
  have l5 := g5.size
  obtain ⟨ka5, km5, kc5, rfl⟩ := d5.1.sl
  obtain ⟨na5, nm5, nc5, rfl⟩ := d5.2.sl
  clear x0 x1 x2 x3 A4 G4 d5 g5 e5
  go_upto_region 8 with (fail)
  have s5 : w5.heap.size < (w5.alloc (.cells #[.int .i64 (z0.flushed).n, .bool (z0.flushed).dead, .slice ka5 km5 kc5, .slice na5 nm5 nc5] 26)).heap.size := by simp
  generalize w5.alloc (.cells #[.int .i64 (z0.flushed).n, .bool (z0.flushed).dead, .slice ka5 km5 kc5, .slice na5 nm5 nc5] 26) = W5 at *
  generalize w5.heap.size = b5 at *
  generalize W4.heap.size = lo5 at *
  obtain ⟨x0, x1, x2, x3⟩ := V5.b4
  obtain ⟨y0, y1, y2, y3⟩ := V3.b4
  go_wp2_with fail
  refine (eqDisk_yes _ _ _ _ (z0.flushed) _ V5.isD V3.isD).mono ?_
  rintro e w6 ⟨rfl, g6⟩
  have V3 := V3.kept g6
  have V4 := V4.kept g6
  have V5 := V5.kept g6
  have A6 := A5.kept g6
  have G6 := gtrans G5 g6
  have S0 : LS w6 _ _ _ _ _ _ _ _ _ _ := ⟨A6, V4.b4⟩
  clear x0 x1 x2 x3 y0 y1 y2 y3 A5 G5 g6
  go_wp2_with fail
  go_region_held3 (fun w' => LS w' w.heap.size (.int .i64 z0.n) (.bool z0.dead) (.slice ka0 km0 kc0) (.slice na0 nm0 nc0) b4 (.int .i64 z0.n) (.bool z0.dead) (.slice ka4 km4 kc4) (.slice na4 nm4 nc4)) (first | assumption | exact S0.drew | exact LS.kept ‹LS _ w.heap.size _ _ _ _ b4 _ _ _ _› ‹World.grownBy _ _ none›) (first | (go_at_call 36; refine (toDisk_any _ _ _ _ _ _ z0 _ (hin.kept (gdrew G6 1)) hk hm).mono ?_; rintro e w8 ⟨kv8, nv8, rfl, d8, -, g8⟩) | (go_at_call 37; refine (eqDisk_yes _ _ _ _ z0 _ (V4.kept (gtrans (gdrew (grefl w6) 1) g8)).isD ⟨d8.1.lower (Nat.zero_le _), d8.2.lower (Nat.zero_le _)⟩).mono ?_; rintro e w9 ⟨rfl, g9⟩))
  have g9' := gtrans (gdrew (grefl w6) 1) (gtrans g8 g9)
  have V3 := V3.kept g9'
  have V4 := V4.kept g9'
  have V5 := V5.kept g9'
  have A9 := A6.kept g9'
  have G9 := gtrans G6 g9'
  clear A6 G6 S0 g8 g9 d8 g9'
  obtain ⟨x0, x1, x2, x3⟩ := V4.b4
  go_wp2_with fail
  refine (markDisk_any lo4 _ _ z0 1 _ ⟨V4.box.ks, V4.box.ns⟩ V4.box.ap hk hm (by omega) (by omega)).mono ?_
  rintro e w10 ⟨rfl, -, O10⟩
  have hS4 : ∀ k, Two2 (.slice ka4 km4 kc4) (.slice na4 nm4 nc4) k → lo4 ≤ k ∧ k < b4 := V4.klo
  have V3 := V3.only O10 (fun k e => by have := hS4 k e; omega) (by omega)
  have V5 := V5.only O10 (fun k e => by have := hS4 k e; omega) (by omega)
  have A10 := A9.only O10 (fun e => by have := hS4 _ e; omega)
  have G10 := O10.grew G9 (fun k e => by have := hS4 k e; omega)
  clear x0 x1 x2 x3 A9 G9 V4 O10 hS4
  obtain ⟨x0, x1, x2, x3⟩ := V5.b4
  obtain ⟨y0, y1, y2, y3⟩ := V3.b4
  go_wp2_with fail
  refine (eqDisk_yes _ _ _ _ (z0.flushed) _ V5.isD V3.isD).mono ?_
  rintro e w11 ⟨rfl, g11⟩
  have V3 := V3.kept g11
  have V5 := V5.kept g11
  have A11 := A10.kept g11
  have G11 := gtrans G10 g11
  clear x0 x1 x2 x3 y0 y1 y2 y3 A10 G10 g11
  obtain ⟨x0, x1, x2, x3⟩ := V5.b4
  go_wp2_with fail
  refine (markDisk_any lo5 _ _ (z0.flushed) 1 _ ⟨V5.box.ks, V5.box.ns⟩ V5.box.ap hr1 hr2 (by omega) (by omega)).mono ?_
  rintro e w12 ⟨rfl, m12, O12⟩
  have hS5 : ∀ k, Two2 (.slice ka5 km5 kc5) (.slice na5 nm5 nc5) k → lo5 ≤ k ∧ k < b5 := V5.klo
  have V3 := V3.only O12 (fun k e => by have := hS5 k e; omega) (by omega)
  have V5 := V5.marked m12 O12 rfl rfl
  have A12 := A11.only O12 (fun e => by have := hS5 _ e; omega)
  have G12 := O12.grew G11 (fun k e => by have := hS5 k e; omega)
  have HM : (z0.flushed).n = (markD 1 (z0.flushed)).n ∧ (z0.flushed).dead = (markD 1 (z0.flushed)).dead := ⟨rfl, rfl⟩
  have HH := Lib.hid HM
  clear HM x0 x1 x2 x3 A11 G11 m12 O12 hS5
  have X5 := V5.b4
  rw [← HH.out.1, ← HH.out.2] at X5
  obtain ⟨x0, x1, x2, x3⟩ := X5
  go_wp2_with fail
  refine (heldDisk_any _ _ (z0.flushed) 1 _ V5.isD hr1 hr2 (by omega) (by omega)).mono ?_
  rintro e w13 ⟨rfl, g13⟩
  have V3 := V3.kept g13
  have V5 := V5.kept g13
  have A13 := A12.kept g13
  have G13 := gtrans G12 g13
  clear x0 x1 x2 x3 A12 G12 g13
  have HA := Lib.hid A13
  obtain ⟨p0, p1, p2, p3⟩ := A13
  go_wp2_with fail
  refine (toDisk_any _ _ _ _ _ _ z0 _ (hin.kept G13) hk hm).mono ?_
  rintro e w14 ⟨kv14, nv14, rfl, d14, -, g14⟩
  have V3 := V3.kept g14
  have V5 := V5.kept g14
  have G14 := gtrans G13 g14
  clear p0 p1 p2 p3 HA G13 g14
  go_wp2_with fail
  refine (implFlushed_any _ _ z0  _ ⟨d14.1.lower (Nat.zero_le _), d14.2.lower (Nat.zero_le _)⟩).mono ?_
  rintro e w15 ⟨kv15, nv15, rfl, d15, ap15, g15⟩
  have e15 := galloc g15 (.cells #[.int .i64 (z0.flushed).n, .bool (z0.flushed).dead, kv15, nv15] 26)
  have V15 := Var.new d15 ap15 26
  have V3 := V3.kept e15
  have V5 := V5.kept e15
  have G15 := gtrans G14 e15
  obtain ⟨ka6, km6, kc6, rfl⟩ := d15.1.sl
  obtain ⟨na6, nm6, nc6, rfl⟩ := d15.2.sl
  clear G14 d14 d15 g15 e15
  go_upto_region 25 with (fail)
  generalize w15.alloc (.cells #[.int .i64 (z0.flushed).n, .bool (z0.flushed).dead, .slice ka6 km6 kc6, .slice na6 nm6 nc6] 26) = W15 at *
  generalize w15.heap.size = b15 at *
  obtain ⟨x0, x1, x2, x3⟩ := V15.b4
  obtain ⟨y0, y1, y2, y3⟩ := V3.b4
  go_wp2_with fail
  refine (eqDisk_yes _ _ _ _ (z0.flushed) _ V15.isD V3.isD).mono ?_
  rintro e w16 ⟨rfl, g16⟩
  have V5 := V5.kept g16
  have G16 := gtrans G15 g16
  clear x0 x1 x2 x3 y0 y1 y2 y3 G15 g16 V15
  have X5 := V5.b4
  rw [← HH.out.1, ← HH.out.2] at X5
  obtain ⟨x0, x1, x2, x3⟩ := X5
  go_wp2_with fail
  refine (heldDisk_any _ _ (z0.flushed) 1 _ V5.isD hr1 hr2 (by omega) (by omega)).mono ?_
  rintro e w17 ⟨rfl, g17⟩
  go_wp2_with fail
  go_ret
  exact ⟨rfl, gbelow (gtrans G16 g17)⟩

set_option maxRecDepth 100000 in
theorem lifted (os : Os) (started : os.Started) (H : Type) (enc : TypeId × Value → H) :
    ReturnsInHanded {} Try.checked os 9 .any (Rows.fnExactFlushedSpec.pre6 enc Try.prog Try.f9 Rows.fnExactFlushedRow.domain false) (Rows.fnExactFlushedSpec.post enc Try.prog Try.f9 false true false false) := by
  refine returnsInHanded_of_change (C := Try.checked) own started (by kernel_rfl) Try.func9
    (ChangeSpec.witness6 (enc := enc) (C := Try.checked) false ⟨#[], #[.agg #[.int .i64 0, .bool false, .slice none 0 0, .slice none 0 0]], []⟩ 8 (by kernel_rfl) (by kernel_rfl) (by kernel_rfl) (by kernel_rfl)) ?_
  intro W base args ds gs before hval0 hW hcnd _
  have hval : ∀ (j : Nat) t v, Try.f9.params[j]? = some t → args[j]? = some v → Value.okWide Try.prog W .any base t v := hval0
  have hW' := hW
  obtain ⟨p, q, hA0, hV, rfl, hfz, hnd⟩ := hW
  have hA : DataW.TrodAll enc Try.prog W 0 (fun _ => true) true Try.f9.params.toList args.toList ds p := hA0
  rw [Try.params9] at hA hval
  obtain ⟨x0, vs0, d0, ds0, p0, q0, hargs, rfl, rfl, h0, r0⟩ := trodAll_cons hA
  obtain ⟨rfl, rfl, rfl⟩ := trodAll_nil r0
  obtain rfl : args = #[x0] := by cases args; simp_all
  obtain ⟨rfl, rfl⟩ := trodVars_none hV
  have k0 := h0
  have lt0 : ∀ x ∈ p0, x.block < W.heap.size := by obtain ⟨m, hm⟩ := k0; exact DataW.trod_lt m _ _ _ hm
  obtain ⟨z0, ka0, km0, kc0, na0, nm0, nc0, rfl, w0⟩ := openDisk (hval 0 49 x0 rfl rfl) h0
  clear hA0 hval0
  refine (walk W z0 ka0 km0 kc0 na0 nm0 nc0 w0).mono fun e W' ⟨he, bel⟩ => ?_
  subst he
  exact ⟨_, rfl, _, _, _, [], _, [], hW', trodAll_mk1 (shut_bool Try.underlying4 _), (trodAll_cons_mk (Below.trod laidOut (by kernel_rfl) (of_decide_eq_true (by kernel_rfl)) k0 bel lt0) trodAll_mk0), rfl, bel.frame _, fun h => by cases h⟩

theorem over : Rows.fnExactFlushedRow.holds Try.pinned (OpenSpec.ofChange Rows.fnExactFlushedSpec) :=
  OpenClaim.holds_of_wide 9 Try.f9 rfl rfl rfl rfl rfl rfl rfl ⟨rfl, rfl, rfl, rfl, rfl⟩ rfl rfl rfl rfl rfl (by kernel_rfl) Try.func9 (by kernel_rfl)
    (of_decide_eq_true (by kernel_rfl)) (by unfold Func.isWrapper; first | (rw [if_pos (by decide +kernel)]; kernel_rfl) | (rw [if_neg (by decide +kernel)]; exact ⟨rfl, rfl⟩))
    (fun os started H enc _ => lifted os started H enc)

theorem proved : Rows.FnExactFlushedSaid := over
#print axioms proved
end Go.Proofs.Ytgmkdmcbaeaeiaa.fnExactFlushed
