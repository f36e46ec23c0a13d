/-
  Proved: for every input the law FnExactShowPatch returns true and leaves its arguments as they were, where the listed variables of the library read as its text lays them (the card ties that to the text).
-/
import Derived.Test.YtncmocdfdkacfaaDoorRows
import Derived.Test.YtncmocdfdkacfaaDoorCards
import Derived.Test.YtncmocdfdkacfaaDoorTie
import Derived.SevenTiedAt
import Derived.WalkKit
import Derived.ProofKit
import Derived.LaidMore
import Derived.OpenShut
import Derived.Stop.Joined
import Derived.ShutString
import Derived.ChangeOld
import Derived.Below
import Derived.Carry
import Derived.Test.YtncmocdfdkacfaaDoorImplL07t
import Derived.Test.YtncmocdfdkacfaaDoorLawL07
import Derived.Deep.RegionHeld3
import Derived.Stop.LaidErr
namespace Go.Proofs.YtncmocdfdkacfaaDoor.fnExactShowPatch
open Go.ChangeShapes Go.WideShapes Go.ChangeAt Go.RowKit
set_option linter.unusedVariables false

theorem own : ownKnob Tryd.prog.godebug = none := by kernel_rfl
theorem laidOut : laidOutB Tryd.prog = true := by kernel_rfl
def laidL : List (String × DataW Unit) := [("math/bits.deBruijn32tab", Rows.laid_math_bits_deBruijn32tab), ("math/bits.deBruijn64tab", Rows.laid_math_bits_deBruijn64tab), ("internal/strconv.uint64pow10", Rows.laid_internal_strconv_uint64pow10)]
theorem door_met (os : Os) (args : Array Value) : laidMetH Tryd.prog laidL ((World.doorLaid Tryd.prog 400 os).forCall (fun _ _ => 0) ⟨#[], args, []⟩).memory :=
  laidMetH_of_parts3 (fuel := 8) (laidMet_of_run' 8 (by kernel_rfl) (by kernel_rfl)) (by kernel_rfl) (by kernel_rfl)
theorem plainL {w : World} (h : laidMetH Tryd.prog laidL w) : laidMet Tryd.prog laidL w := by
  rw [MakeChecks.laidMetH_plain _ _ _ (by kernel_rfl)] at h
  exact h
theorem pow_of {w : World} (h : laidMet Tryd.prog laidL w) : Pow10 w :=
  Lib.tabIs_of_head (g := 0) (t := 89) (e := 79) (n := 20) (by kernel_rfl) (by kernel_rfl) Tryd.underlying89 Tryd.underlying79 (by kernel_rfl) (by kernel_rfl) (laidMet.tail (laidMet.tail h))

set_option maxRecDepth 100000 in
set_option maxHeartbeats 4000000 in
theorem walk (w : World) (HL : Hid (laidMet Tryd.prog laidL w)) (z0 : PZ) (dv0 vv0 : Value) (w0 : i64B z0.row ∧ IR w dv0 z0.ds ∧ IR w vv0 z0.vs) :
    Calls Tryd.prog 3 #[.agg #[.int .i64 z0.row, dv0, vv0]] w fun e w' => e = .returned (.bool true) ∧ Below w.heap.size w w' := by
  have HTb := Lib.hid (pow_of HL.out)
  obtain ⟨-, hd0, hv0⟩ := w0
  obtain ⟨da, dc, rfl, -⟩ := hd0.form
  obtain ⟨va, vc, rfl, -⟩ := hv0.form
  have A0 := Box3.new w (.int .i64 z0.row) (.slice da z0.ds.length dc) (.slice va z0.vs.length vc) 24
  have g0 := galloc (grefl w) (.cells #[.int .i64 z0.row, .slice da z0.ds.length dc, .slice va z0.vs.length vc] 24)
  clear HL
  go_enter Tryd.func3, Tryd.ntmps3
  go_upto_region 2 with (fail)
  generalize w.alloc (.cells #[.int .i64 z0.row, .slice da z0.ds.length dc, .slice va z0.vs.length vc] 24) = W0 at *
  generalize w.heap.size = bw at A0 ⊢
  have HA0 := Lib.hid A0
  obtain ⟨p0, p1, p2⟩ := A0
  go_wp2_with fail
  go_fit (szPatch_any z0.row 1048576 z0.ds z0.vs _ _ _ (hd0.kept g0) (hv0.kept g0) (by omega) (by omega))
  rintro e w1 ⟨x, rfl, g1, hx⟩
  by_cases hneg : x < 0
  · go_wp2_with fail
    go_ret
    exact ⟨rfl, gbelow (gtrans g0 g1)⟩
  obtain ⟨-, ld, lv⟩ : 0 ≤ x ∧ z0.ds.length ≤ 1048576 ∧ z0.vs.length ≤ 1048576 := by rcases hx with hx | hx; exact absurd hx hneg; exact hx
  have G1 := gtrans g0 g1
  have A1 := HA0.out.kept g1
  clear p0 p1 p2 hx HA0 g0 g1
  have HA1 := Lib.hid A1
  obtain ⟨p0, p1, p2⟩ := A1
  go_wp2_with fail
  go_fit (toPatch_any z0 _ _ _ (hd0.kept G1) (hv0.kept G1) ld lv)
  rintro e w2 ⟨dv2, vv2, rfl, s2, t2, -, g2⟩
  have A2 := HA1.out.kept g2
  have G2 := gtrans G1 g2
  clear p0 p1 p2 HA1 G1 g2
  go_wp2_with fail
  go_fit (specShowPatch_any z0 _ _ _ s2.rd t2.rd)
  rintro e w3 ⟨rfl, g3⟩
  have A3 := A2.kept g3
  have G3 := gtrans G2 g3
  clear A2 G2 s2 t2 g3
  have HA3 := Lib.hid A3
  obtain ⟨p0, p1, p2⟩ := A3
  go_wp2_with fail
  go_fit (toPatch_any z0 _ _ _ (hd0.kept G3) (hv0.kept G3) ld lv)
  rintro e w4 ⟨dv4, vv4, rfl, s4, t4, -, g4⟩
  have e4 := galloc g4 (.cells #[.int .i64 z0.row, dv4, vv4] 27)
  have A4 := HA3.out.kept e4
  have X4 := Box3.new w4 (.int .i64 z0.row) dv4 vv4 27
  have s5 := s4.grew (galloc (grefl w4) (.cells #[.int .i64 z0.row, dv4, vv4] 27))
  have t5 := t4.grew (galloc (grefl w4) (.cells #[.int .i64 z0.row, dv4, vv4] 27))
  have G4 := gtrans G3 e4
  obtain ⟨xa, xm, xc, rfl⟩ := Own.sl s4
  obtain ⟨ya, ym, yc, rfl⟩ := Own.sl t4
  clear p0 p1 p2 HA3 G3 s4 t4 g4 e4
  go_upto_region 7 with (fail)
  generalize w4.alloc (.cells #[.int .i64 z0.row, .slice xa xm xc, .slice ya ym yc] 27) = W4 at *
  generalize w4.heap.size = b4 at *
  have HX := Lib.hid X4
  obtain ⟨x0, x1, x2⟩ := X4
  go_wp2_with fail
  go_fit (implShowPatch_any z0 _ _ _ (Own.rd s5) (Own.rd t5) (HTb.out.kept G4))
  rintro e w6 ⟨rfl, g6⟩
  have S0 : LP w6 _ _ _ _ _ _ _ _ := ⟨A4.kept g6, HX.out.kept g6⟩
  have s6 := Own.grew s5 g6
  have t6 := Own.grew t5 g6
  have G6 := gtrans G4 g6
  clear x0 x1 x2 A4 HX s5 t5 G4 g6
  go_wp2_with fail
  go_region_held3 (fun w' => LP w' bw (.int .i64 z0.row) (.slice da z0.ds.length dc) (.slice va z0.vs.length vc) b4 (.int .i64 z0.row) (.slice xa xm xc) (.slice ya ym yc)) (first | assumption | exact S0.drew | exact LP.kept ‹LP _ bw _ _ _ b4 _ _ _› ‹World.grownBy _ _ none›) (first | (go_at_call 7; go_fit (toPatch_any z0 _ _ _ (hd0.kept (gdrew G6 1)) (hv0.kept (gdrew G6 1)) ld lv); rintro e w8 ⟨dv8, vv8, rfl, s8, t8, -, g8⟩) | (go_at_call 9; go_fit (eqPatch_yes z0 _ _ _ _ _ (Own.rd (Own.grew s6 (gtrans (gdrew (grefl w6) 1) g8))) (Own.rd (Own.grew t6 (gtrans (gdrew (grefl w6) 1) g8))) (Own.rd s8) (Own.rd t8)); rintro e w9 ⟨rfl, g9⟩))
  go_wp2_with fail
  go_ret
  exact ⟨rfl, gbelow (gtrans G6 (gtrans (gdrew (grefl w6) 1) (gtrans g8 g9)))⟩

set_option maxRecDepth 100000 in
theorem lifted (os : Os) (started : os.Started) (H : Type) (enc : TypeId × Value → H) :
    ReturnsInHanded {} Tryd.checked os 3 .any (fun w args => (Rows.fnExactShowPatchSpec.pre enc Tryd.prog Tryd.f3 [] false w args ∧ laidMetH Tryd.prog laidL w) ∧ sizedMet enc Tryd.prog Tryd.f3 (OpenSpec.ofChange Rows.fnExactShowPatchSpec) false w args)
      (Rows.fnExactShowPatchSpec.post enc Tryd.prog Tryd.f3 false true false false) := by
  refine returnsInHanded_of_change_and (C := Tryd.checked) (X := fun w _ => laidMetH Tryd.prog laidL w) (fun _ _ _ hh h => h.of_heap hh) own started (by kernel_rfl) Tryd.func3
    (ChangeSpec.witness_shaped (enc := enc) (C := Tryd.checked) (os := os) (X := fun w _ => laidMetH Tryd.prog laidL w) false (World.doorLaid Tryd.prog 400 os) #[.agg #[.int .i64 0, .slice none 0 0, .slice none 0 0]] 8 rfl (World.shaped_of_RefB (by kernel_rfl) (by kernel_rfl)) (by kernel_rfl) (by kernel_rfl) (by kernel_rfl) (door_met os _)) ?_
  intro W base args ds gs before hval0 hW _ _ hL _
  have hval : ∀ (j : Nat) t v, Tryd.f3.params[j]? = some t → args[j]? = some v → Value.okWide Tryd.prog W .any base t v := hval0
  have hW' := hW
  obtain ⟨p, q, hA0, hV, rfl, hfz, hnd⟩ := hW
  have hA : DataW.TrodAll enc Tryd.prog W 0 (fun _ => true) true Tryd.f3.params.toList args.toList ds p := hA0
  rw [Tryd.params3] at hA hval
  obtain ⟨x0, vs0, d0, ds0, p0, q0, hargs, rfl, rfl, h0, r0⟩ := trodAll_cons hA
  obtain ⟨rfl, rfl, rfl⟩ := trodAll_nil r0
  obtain rfl : args = #[x0] := by cases args; simp_all
  obtain ⟨rfl, rfl⟩ := trodVars_none hV
  have k0 := h0
  have lt0 : ∀ x ∈ p0, x.block < W.heap.size := by obtain ⟨m, hm⟩ := k0; exact DataW.trod_lt m _ _ _ hm
  obtain ⟨z0, dv0, vv0, rfl, w0⟩ := openPatch (hval 0 24 x0 rfl rfl) h0
  clear hA0 hval0
  refine (walk W (plainL hL) z0 dv0 vv0 w0).mono fun e W' ⟨he, bel⟩ => ?_
  subst he
  exact ⟨_, rfl, _, _, _, [], _, [], hW', trodAll_mk1 (shut_bool Tryd.underlying4 _), (trodAll_cons_mk (Below.trod laidOut (by kernel_rfl) (of_decide_eq_true (by kernel_rfl)) k0 bel lt0) trodAll_mk0), rfl, bel.frame _, fun h => by cases h⟩

theorem over : Rows.FnExactShowPatchSaid :=
  OpenClaim.holds_of_wide 3 Tryd.f3 rfl rfl rfl rfl rfl rfl rfl ⟨rfl, rfl, rfl, rfl, rfl⟩ rfl rfl rfl rfl rfl (by kernel_rfl) Tryd.func3 (by kernel_rfl)
    (of_decide_eq_true (by kernel_rfl)) (by unfold Func.isWrapper; first | (rw [if_pos (by decide +kernel)]; kernel_rfl) | (rw [if_neg (by decide +kernel)]; exact ⟨rfl, rfl⟩))
    (fun os started H enc _ => lifted os started H enc)

theorem proved : Rows.FnExactShowPatchCardSaid :=
  Claim7.holds_tied_plain_at .later [] [.data, .data, .data] true (true, "675bdadd414453207e55ed1072a2c963af493a3dc2cb2ff0d4cfb9528c1048ce") true
    over (fun _ h => by cases h) (by kernel_rfl) (fun _ h => by cases h) fnExactShowPatch_row_tie rfl ⟨rfl, rfl⟩ (by kernel_rfl) rfl
    (fun f fn hf hfn => by
      obtain rfl : f = 3 := Option.some.inj ((show Tryd.prog.funcNamed "loop.example/g00406/laws.FnExactShowPatch" = some 3 by kernel_rfl).symm.trans hf) |>.symm
      obtain rfl : fn = Tryd.f3 := (Option.some.inj (Tryd.func3.symm.trans hfn)).symm
      exact ⟨by kernel_rfl, fun j t ht => by
        rw [Tryd.params3] at ht
        have hm : t ∈ [24] := by
          have := List.mem_of_getElem? (l := [24]) (i := j) (a := t) (by simpa using ht)
          exact this
        simp only [List.mem_cons, List.mem_nil_iff, or_false] at hm
        rcases hm with rfl
        · exact (show Tryd.prog.wantsStandIn 24 = false by kernel_rfl)⟩)
    (by kernel_rfl)
#print axioms proved
end Go.Proofs.YtncmocdfdkacfaaDoor.fnExactShowPatch
