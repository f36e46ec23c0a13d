/-
  Proved: for every input the law FnExactNoted returns true and leaves its arguments as they were, where the listed variables of the library read as its text lays them (the card ties that to the text).
-/
import Derived.Test.YtnhefdmnpoaegaaDoorRows
import Derived.Test.YtnhefdmnpoaegaaDoorCards
import Derived.Test.YtnhefdmnpoaegaaDoorTie
import Derived.SevenTiedAt
import Derived.WalkKit
import Derived.ProofKit
import Derived.LaidMore
import Derived.OpenShut
import Derived.Stop.Joined
import Derived.ShutString
import Derived.ChangeOld
import Derived.Below
import Derived.Carry
import Derived.Test.YtnhefdmnpoaegaaDoorDoorB
import Derived.Test.YtnhefdmnpoaegaaDoorImplL08s
import Derived.Test.YtnhefdmnpoaegaaDoorLawL07
import Derived.Deep.RegionHeld3
import Derived.Stop.LaidErr
namespace Go.Proofs.YtnhefdmnpoaegaaDoor.fnExactNoted
open Go.ChangeShapes Go.WideShapes Go.ChangeAt Go.RowKit
set_option linter.unusedVariables false

theorem own : ownKnob Tryd.prog.godebug = none := by kernel_rfl
theorem laidOut : laidOutB Tryd.prog = true := by kernel_rfl
def laidL : List (String × DataW Unit) := [("math/bits.deBruijn32tab", Rows.laid_math_bits_deBruijn32tab), ("math/bits.deBruijn64tab", Rows.laid_math_bits_deBruijn64tab), ("internal/strconv.uint64pow10", Rows.laid_internal_strconv_uint64pow10)]
noncomputable def startW (os : Os) : World := World.doorLaid Tryd.prog 400 os
theorem door_met (os : Os) (args : Array Value) : laidMetH Tryd.prog laidL ((startW os).forCall (fun _ _ => 0) ⟨#[], args, []⟩).memory :=
  laidMetH_of_parts3 (fuel := 8) (laidMet_of_run' 8 (by kernel_rfl) (by kernel_rfl)) (by kernel_rfl) (by kernel_rfl)
theorem plainL {w : World} (h : laidMetH Tryd.prog laidL w) : laidMet Tryd.prog laidL w := by
  rw [MakeChecks.laidMetH_plain _ _ _ (by kernel_rfl)] at h
  exact h
theorem pow_of {w : World} (h : laidMet Tryd.prog laidL w) : Pow10 w :=
  Lib.tabIs_of_head (g := 1) (t := 101) (e := 73) (n := 20) (by kernel_rfl) (by kernel_rfl) Tryd.underlying101 Tryd.underlying73 (by kernel_rfl) (by kernel_rfl) (laidMet.tail (laidMet.tail h))

set_option maxRecDepth 100000 in
set_option maxHeartbeats 4000000 in
theorem walk (w : World) (HL : Hid (laidMet Tryd.prog laidL w)) (hS : w.ShapedOpen Tryd.prog) (s0 : ByteArray) (w0 : s0.size ≤ maxLen) (z1 : PZ) (dv1 vv1 : Value) (w1 : i64B z1.row ∧ IR w dv1 z1.ds ∧ IR w vv1 z1.vs) :
    Calls Tryd.prog 5 #[.string s0, .agg #[.int .i64 z1.row, dv1, vv1]] w fun e w' => e = .returned (.bool true) ∧ Below w.heap.size w w' := by
  have HTb := Lib.hid (pow_of HL.out)
  obtain ⟨-, hd1, hv1⟩ := w1
  obtain ⟨da, dc, rfl, -⟩ := hd1.form
  obtain ⟨va, vc, rfl, -⟩ := hv1.form
  obtain ⟨s, rfl⟩ : ∃ l, s0 = str l := ⟨s0.data.toList, by simp [str]⟩
  have hsz : (str s).size = s.length := str_size s
  have hsl : s.length ≤ 9223372036854775807 := by rw [← hsz]; unfold maxLen at w0; omega
  clear w0
  have A0 := Box3.new w (.int .i64 z1.row) (.slice da z1.ds.length dc) (.slice va z1.vs.length vc) 30
  have g0 := galloc (grefl w) (.cells #[.int .i64 z1.row, .slice da z1.ds.length dc, .slice va z1.vs.length vc] 30)
  clear HL
  go_enter Tryd.func5, Tryd.ntmps5
  go_upto_region 1 with (fail)
  generalize w.alloc (.cells #[.int .i64 z1.row, .slice da z1.ds.length dc, .slice va z1.vs.length vc] 30) = W0 at *
  generalize w.heap.size = bw at A0 ⊢
  have HA0 := Lib.hid A0
  obtain ⟨p0, p1, p2⟩ := A0
  by_cases hbig : (1048576 : Int) < s.length
  · go_wp2_with fail
    go_ret
    exact ⟨rfl, gbelow g0⟩
  have hs : s.length ≤ 1048576 := by omega
  go_wp2_with fail
  go_fit (szPatch_any z1.row 1048576 z1.ds z1.vs _ _ _ (hd1.kept g0) (hv1.kept g0) (by omega) (by omega))
  rintro e w1 ⟨x, rfl, g1, hx⟩
  by_cases hneg : x < 0
  · go_wp2_with fail
    go_ret
    exact ⟨rfl, gbelow (gtrans g0 g1)⟩
  obtain ⟨-, ld, lv⟩ : 0 ≤ x ∧ z1.ds.length ≤ 1048576 ∧ z1.vs.length ≤ 1048576 := by rcases hx with hx | hx; exact absurd hx hneg; exact hx
  have G1 := gtrans g0 g1
  have A1 := HA0.out.kept g1
  clear p0 p1 p2 hx HA0 g0 g1
  have HA1 := Lib.hid A1
  obtain ⟨p0, p1, p2⟩ := A1
  go_wp2_with fail
  go_fit (toPatch_any z1 _ _ _ (hd1.kept G1) (hv1.kept G1) ld lv)
  rintro e w2 ⟨dv2, vv2, rfl, s2, t2, -, g2⟩
  have A2 := HA1.out.kept g2
  have G2 := gtrans G1 g2
  clear p0 p1 p2 HA1 G1 g2
  go_wp2_with fail
  go_fit (specNoted_any s z1 _ _ _ s2.rd t2.rd (by omega))
  rintro e w3 ⟨rfl, g3⟩
  have A3 := A2.kept g3
  have G3 := gtrans G2 g3
  clear A2 G2 s2 t2 g3
  have HA3 := Lib.hid A3
  obtain ⟨p0, p1, p2⟩ := A3
  go_wp2_with fail
  go_fit (toPatch_any z1 _ _ _ (hd1.kept G3) (hv1.kept G3) ld lv)
  rintro e w4 ⟨dv4, vv4, rfl, s4, t4, -, g4⟩
  have e4 := galloc g4 (.cells #[.int .i64 z1.row, dv4, vv4] 34)
  have A4 := HA3.out.kept e4
  have X4 := Box3.new w4 (.int .i64 z1.row) dv4 vv4 34
  have s5 := s4.grew (galloc (grefl w4) (.cells #[.int .i64 z1.row, dv4, vv4] 34))
  have t5 := t4.grew (galloc (grefl w4) (.cells #[.int .i64 z1.row, dv4, vv4] 34))
  have G4 := gtrans G3 e4
  obtain ⟨xa, xm, xc, rfl⟩ := Own.sl s4
  obtain ⟨ya, ym, yc, rfl⟩ := Own.sl t4
  clear p0 p1 p2 HA3 G3 s4 t4 g4 e4
  go_upto_region 9 with (fail)
  generalize w4.alloc (.cells #[.int .i64 z1.row, .slice xa xm xc, .slice ya ym yc] 34) = W4 at *
  generalize w4.heap.size = b4 at *
  have HX := Lib.hid X4
  obtain ⟨x0, x1, x2⟩ := X4
  go_wp2_with fail
  go_fit (implNoted_any s z1 _ _ _ (Own.rd s5) (Own.rd t5) (by omega) (HTb.out.kept G4))
  rintro e w6 ⟨rfl, g6⟩
  have S0 : Pr3 w6 _ _ _ _ _ _ _ _ := ⟨A4.kept g6, HX.out.kept g6⟩
  have s6 := Own.grew s5 g6
  have t6 := Own.grew t5 g6
  have G6 := gtrans G4 g6
  clear x0 x1 x2 A4 HX s5 t5 G4 g6
  generalize notedZ s z1 = nz at *
  generalize notedOk s z1 = no at *
  go_wp2_with fail
  go_region_held3 (fun w' => Pr3 w' bw (.int .i64 z1.row) (.slice da z1.ds.length dc) (.slice va z1.vs.length vc) b4 (.int .i64 z1.row) (.slice xa xm xc) (.slice ya ym yc)) (first | assumption | exact S0.drew | exact Pr3.kept ‹Pr3 _ bw _ _ _ b4 _ _ _› ‹World.grownBy _ _ none›) (first | (go_at_call 15; go_fit (toPatch_any z1 _ _ _ (hd1.kept (gdrew G6 1)) (hv1.kept (gdrew G6 1)) ld lv); rintro e w8 ⟨dv8, vv8, rfl, s8, t8, -, g8⟩) | (go_at_call 17; go_fit (eqPatch_yes z1 _ _ _ _ _ (Own.rd (Own.grew s6 (gtrans (gdrew (grefl w6) 1) g8))) (Own.rd (Own.grew t6 (gtrans (gdrew (grefl w6) 1) g8))) (Own.rd s8) (Own.rd t8)); rintro e w9 ⟨rfl, g9⟩))
  go_wp2_with fail
  go_ret
  exact ⟨rfl, gbelow (gtrans G6 (gtrans (gdrew (grefl w6) 1) (gtrans g8 g9)))⟩

set_option maxRecDepth 100000 in
theorem lifted (os : Os) (started : os.Started) (H : Type) (enc : TypeId × Value → H) :
    ReturnsInHanded {} Tryd.checked os 5 .any (fun w args => (Rows.fnExactNotedSpec.pre enc Tryd.prog Tryd.f5 [] false w args ∧ laidMetH Tryd.prog laidL w) ∧ sizedMet enc Tryd.prog Tryd.f5 (OpenSpec.ofChange Rows.fnExactNotedSpec) false w args)
      (Rows.fnExactNotedSpec.post enc Tryd.prog Tryd.f5 false true false false) := by
  refine handed_laid_shaped (C := Tryd.checked) (X := fun w _ => laidMetH Tryd.prog laidL w) (fun _ _ _ hh h => h.of_heap hh) own started (by kernel_rfl) Tryd.func5
    (ChangeSpec.witness_shaped (enc := enc) (C := Tryd.checked) (os := os) (X := fun w _ => laidMetH Tryd.prog laidL w) false (startW os) #[.string ⟨#[]⟩, .agg #[.int .i64 0, .slice none 0 0, .slice none 0 0]] 8 rfl (World.shaped_of_RefB (by kernel_rfl) (by kernel_rfl)) (by kernel_rfl) (by kernel_rfl) (by kernel_rfl) (door_met os _)) ?_
  intro W base args ds gs before hval0 hW hL hS
  have hval : ∀ (j : Nat) t v, Tryd.f5.params[j]? = some t → args[j]? = some v → Value.okWide Tryd.prog W .any base t v := hval0
  have hW' := hW
  obtain ⟨p, q, hA0, hV, rfl, hfz, hnd⟩ := hW
  have hA : DataW.TrodAll enc Tryd.prog W 0 (fun _ => true) true Tryd.f5.params.toList args.toList ds p := hA0
  rw [Tryd.params5] at hA hval
  obtain ⟨x0, vs0, d0, ds0, p0, q0, hargs, rfl, rfl, h0, r0⟩ := trodAll_cons hA
  obtain ⟨x1, vs1, d1, ds1, p1, q1, rfl, rfl, rfl, h1, r1⟩ := trodAll_cons r0
  obtain ⟨rfl, rfl, rfl⟩ := trodAll_nil r1
  obtain rfl : args = #[x0, x1] := by cases args; simp_all
  obtain ⟨rfl, rfl⟩ := trodVars_none hV
  have k0 := h0
  have lt0 : ∀ x ∈ p0, x.block < W.heap.size := by obtain ⟨m, hm⟩ := k0; exact DataW.trod_lt m _ _ _ hm
  obtain ⟨s0, rfl, w0⟩ := openStr (hval 0 9 x0 rfl rfl) h0
  have k1 := h1
  have lt1 : ∀ x ∈ p1, x.block < W.heap.size := by obtain ⟨m, hm⟩ := k1; exact DataW.trod_lt m _ _ _ hm
  obtain ⟨z1, dv1, vv1, rfl, w1⟩ := openPatch (hval 1 30 x1 rfl rfl) h1
  clear hA0 hval0
  refine (walk W (plainL hL) hS s0 w0 z1 dv1 vv1 w1).mono fun e W' ⟨he, bel⟩ => ?_
  subst he
  exact ⟨_, rfl, _, _, _, [], _, [], hW', trodAll_mk1 (shut_bool Tryd.underlying4 _), (trodAll_cons_mk (Below.trod laidOut (by kernel_rfl) (of_decide_eq_true (by kernel_rfl)) k0 bel lt0) (trodAll_cons_mk (Below.trod laidOut (by kernel_rfl) (of_decide_eq_true (by kernel_rfl)) k1 bel lt1) trodAll_mk0)), rfl, bel.frame _, fun h => by cases h⟩

theorem over : Rows.FnExactNotedSaid :=
  OpenClaim.holds_of_wide 5 Tryd.f5 rfl rfl rfl rfl rfl rfl rfl ⟨rfl, rfl, rfl, rfl, rfl⟩ rfl rfl rfl rfl rfl (by kernel_rfl) Tryd.func5 (by kernel_rfl)
    (of_decide_eq_true (by kernel_rfl)) (by unfold Func.isWrapper; first | (rw [if_pos (by decide +kernel)]; kernel_rfl) | (rw [if_neg (by decide +kernel)]; exact ⟨rfl, rfl⟩))
    (fun os started H enc _ => lifted os started H enc)

theorem proved : Rows.FnExactNotedCardSaid :=
  Claim7.holds_tied_plain_at .later [] [.data, .data, .data] true (true, "37a52c079ce5c7a4a919d14ecdfdbc45fcc4c25436f5f05adc1cecc14696a46b") true
    over (fun _ h => by cases h) (by kernel_rfl) (fun _ h => by cases h) fnExactNoted_row_tie rfl ⟨rfl, rfl⟩ (by kernel_rfl) rfl
    (fun f fn hf hfn => by
      obtain rfl : f = 5 := Option.some.inj ((show Tryd.prog.funcNamed "loop.example/g00406/laws.FnExactNoted" = some 5 by kernel_rfl).symm.trans hf) |>.symm
      obtain rfl : fn = Tryd.f5 := (Option.some.inj (Tryd.func5.symm.trans hfn)).symm
      exact ⟨by kernel_rfl, fun j t ht => by
        rw [Tryd.params5] at ht
        have hm : t ∈ [9, 30] := by
          have := List.mem_of_getElem? (l := [9, 30]) (i := j) (a := t) (by simpa using ht)
          exact this
        simp only [List.mem_cons, List.mem_nil_iff, or_false] at hm
        rcases hm with rfl | rfl
        · exact (show Tryd.prog.wantsStandIn 9 = false by kernel_rfl)
        · exact (show Tryd.prog.wantsStandIn 30 = false by kernel_rfl)⟩)
    (by kernel_rfl)
#print axioms proved
end Go.Proofs.YtnhefdmnpoaegaaDoor.fnExactNoted
