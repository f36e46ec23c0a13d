/-
  Proved: for every input the law FnExactEntries returns true and leaves its arguments as they were, where the listed variables of the library read as its text lays them (the card ties that to the text).
-/
import Derived.Test.YtnhefdmnpoaegaaDoorRows
import Derived.Test.YtnhefdmnpoaegaaDoorCards
import Derived.Test.YtnhefdmnpoaegaaDoorTie
import Derived.SevenTiedAt
import Derived.WalkKit
import Derived.ProofKit
import Derived.LaidMore
import Derived.OpenShut
import Derived.Stop.Joined
import Derived.ShutString
import Derived.ChangeOld
import Derived.Below
import Derived.Carry
import Derived.Test.YtnhefdmnpoaegaaDoorDoorB
import Derived.Test.YtnhefdmnpoaegaaDoorImplL08e
import Derived.Test.YtnhefdmnpoaegaaDoorLawL08
import Derived.Stop.LaidErr
import Derived.Shelf.Vars
namespace Go.Proofs.YtnhefdmnpoaegaaDoor.fnExactEntries
open Go.ChangeShapes Go.WideShapes Go.ChangeAt Go.RowKit
set_option linter.unusedVariables false

theorem own : ownKnob Tryd.prog.godebug = none := by kernel_rfl
theorem laidOut : laidOutB Tryd.prog = true := by kernel_rfl
def laidL : List (String × DataW Unit) := [("math/bits.deBruijn32tab", Rows.laid_math_bits_deBruijn32tab), ("math/bits.deBruijn64tab", Rows.laid_math_bits_deBruijn64tab), ("internal/strconv.uint64pow10", Rows.laid_internal_strconv_uint64pow10), ("unicode/utf8.acceptRanges", Rows.laid_unicode_utf8_acceptRanges), ("strconv.ErrRange", Rows.laid_strconv_ErrRange), ("strconv.ErrSyntax", Rows.laid_strconv_ErrSyntax), ("unicode/utf8.first", Rows.laid_unicode_utf8_first)]
noncomputable def startW (os : Os) : World := { World.doorLaid Tryd.prog 400 os with heap := (World.doorLaid Tryd.prog 400 os).heap.modify 6 fun | .cells _ t frozen => .cells (Go.Pinned.utf8FirstZ.map fun z : Nat => Value.int .u8 (z : Int)).toArray t frozen | o => o }
theorem door_met (os : Os) (args : Array Value) : laidMetH Tryd.prog laidL ((startW os).forCall (fun _ _ => 0) ⟨#[], args, []⟩).memory :=
  laidMetH_of_parts3 (fuel := 8) (laidMet_of_run' 8 (by kernel_rfl) (by kernel_rfl)) (by kernel_rfl) (by kernel_rfl)
theorem plainL {w : World} (h : laidMetH Tryd.prog laidL w) : laidMet Tryd.prog laidL w := by
  rw [MakeChecks.laidMetH_plain _ _ _ (by kernel_rfl)] at h
  exact h
theorem pow_of {w : World} (h : laidMet Tryd.prog laidL w) : Pow10 w :=
  Lib.tabIs_of_head (g := 1) (t := 101) (e := 73) (n := 20) (by kernel_rfl) (by kernel_rfl) Tryd.underlying101 Tryd.underlying73 (by kernel_rfl) (by kernel_rfl) (laidMet.tail (laidMet.tail h))
theorem star : "*" ++ "errors.errorString" = "*errors.errorString" := by decide
theorem row_err (u : TypeId) (h : Tryd.prog.typeName? 3 u = some "*errors.errorString") : u = 133 :=
  typeName_ptr_named (nm := "errors.errorString") (by rw [star]; kernel_rfl) (by kernel_rfl) (by decide) u (by rw [star]; exact h)
theorem lib_of {w : World} (h : laidMet Tryd.prog laidL w) (hS : w.ShapedOpen Tryd.prog) : LibV w := by
  have h4 := laidMet.tail (laidMet.tail (laidMet.tail (laidMet.tail h)))
  obtain ⟨a1, s1, v1, -, -, -⟩ := laid_sentinel h4 (g := 5) (ti := 80) (tp := 133) (te := 135) (ts := 9) (by kernel_rfl) (by kernel_rfl) Tryd.underlying80 row_err Tryd.underlying133 Tryd.underlying135 rfl rfl Tryd.underlying9 (by kernel_rfl) (by kernel_rfl)
  obtain ⟨a2, s2, v2, -, -, -⟩ := laid_sentinel (laidMet.tail h4) (g := 4) (ti := 80) (tp := 133) (te := 135) (ts := 9) (by kernel_rfl) (by kernel_rfl) Tryd.underlying80 row_err Tryd.underlying133 Tryd.underlying135 rfl rfl Tryd.underlying9 (by kernel_rfl) (by kernel_rfl)
  exact ⟨⟨_, _, v2⟩, ⟨_, _, v1⟩, cell_of_shapedOpen_int (P := Tryd.prog) (g := 0) (t := 3) (zero := #[.int .i64 0]) hS (of_decide_eq_true (by kernel_rfl)) (by kernel_rfl) rfl (by kernel_rfl) (by kernel_rfl) Tryd.underlying3⟩
theorem ok_two {p : PZ} (h : p.ok = true) : p.ds.length ≤ 2 ∧ p.vs.length ≤ 2 := by
  obtain ⟨-, hc⟩ := ok_cases h
  rcases hc with ⟨d, v, h1, h2, -⟩ | ⟨d, v, e, u, h1, h2, -⟩ <;> rw [h1, h2] <;> simp
theorem ents_two (s : List UInt8) : ∀ p ∈ entsT s, p.ds.length ≤ 2 ∧ p.vs.length ≤ 2 := by
  by_cases h : firstOk s = true ∧ readPok (firstT s) = true
  · rw [entsT_yes h]
    have q := firstN_le h.1
    have ih := ents_two (s.drop (firstN s))
    intro p hp
    rcases List.mem_cons.1 hp with rfl | hp
    · have h2 := h.2
      simp only [readPok, Bool.and_eq_true] at h2
      exact ok_two h2.2.2
    · exact ih p hp
  · rw [entsT_no h]; intro p hp; simp at hp
termination_by s.length
decreasing_by have := firstN_le h.1; simp; omega
theorem sizeP_two (l : List PZ) (h : ∀ p ∈ l, p.ds.length ≤ 2 ∧ p.vs.length ≤ 2) : sizeP l ≤ 4 * l.length := by
  induction l with
  | nil => simp [sizeP]
  | cons a r ih =>
    have h1 := h a (by simp)
    have h2 := ih (fun p hp => h p (by simp [hp]))
    simp only [sizeP, List.length_cons]; omega
theorem ents_small {s : List UInt8} (hs : s.length ≤ 1048576) : SmallP (entsT s) := by
  have h1 := entsT_len s
  have h2 := sizeP_two _ (ents_two s)
  exact ⟨by omega, fun i hi => ents_two s _ (List.getElem_mem hi)⟩

set_option maxRecDepth 100000 in
set_option maxHeartbeats 4000000 in
theorem walk (w : World) (HL : Hid (laidMet Tryd.prog laidL w)) (hS : w.ShapedOpen Tryd.prog) (s0 : ByteArray) (w0 : s0.size ≤ maxLen) :
    Calls Tryd.prog 4 #[.string s0] w fun e w' => e = .returned (.bool true) ∧ Below w.heap.size w w' := by
  have HTb := Lib.hid (pow_of HL.out)
  have HLv := Lib.hid (lib_of HL.out hS)
  obtain ⟨s, rfl⟩ : ∃ l, s0 = str l := ⟨s0.data.toList, by simp [str]⟩
  have hsz : (str s).size = s.length := str_size s
  have hsl : s.length ≤ 9223372036854775807 := by rw [← hsz]; unfold maxLen at w0; omega
  clear HL hS w0
  by_cases hbig : (1048576 : Int) < s.length
  · go_enter Tryd.func4, Tryd.ntmps4
    go_wp2_with fail
    go_ret
    exact ⟨rfl, Below.refl _ _⟩
  have hs : s.length ≤ 1048576 := by omega
  have HSm := Lib.hid (ents_small hs)
  go_enter Tryd.func4, Tryd.ntmps4
  go_wp2_with fail
  go_fit (specEntries_any s _ (by omega))
  rintro e w1 ⟨v1, raw1, rfl, O1, g1⟩
  obtain ⟨a1, c1, rfl, -⟩ := O1.form
  have HB1 : Hid (∀ k, (Value.slice a1 (entsT s).length c1).ownBlock = some k → k < w1.heap.size) := fun k hk => (O1.own.lt k hk).2
  have HB2 : Hid (∀ i (hi : i < raw1.length) k, raw1[i].has k → k < w1.heap.size) := fun i hi k hk => (O1.in i hi k hk).2
  have hw1 := g1.size
  go_wp2_with fail
  go_fit (implEntries_any s _ hs (HTb.out.kept g1) (HLv.out.kept g1))
  rintro e w2 ⟨v2, raw2, rfl, O2, g2⟩
  obtain ⟨a2, c2, rfl, -⟩ := O2.form
  replace O1 := O1.grew g2
  have G2 := gtrans g1 g2
  clear g1 g2
  go_wp2_with fail
  go_fit (eqPatchS_yes _ _ _ _ O2.lp O1.lp)
  rintro e w3 ⟨rfl, g3⟩
  replace O1 := O1.grew g3
  replace O2 := O2.grew g3
  have G3 := gtrans G2 g3
  clear G2 g3
  go_wp2_with fail
  go_fit (markPatchS_at w1.heap.size w3.heap.size _ _ raw2 1 _ O2 (fun i hi b hb => (O2.in i hi b hb).2) (fun b hb => (O2.own.lt b hb).2) HSm.out (by omega) (by omega))
  rintro e w4 ⟨raw3, rfl, O3, on⟩
  replace O1 := O1.far on (fun k hk hS => by have := HB1.out k hk; omega) (fun i hi k hk hS => by have := HB2.out i hi k hk; omega)
  have G4 := on.grew G3 (fun k hk => by omega)
  have hX : 0 ≤ mpN 1 (entsT s) (entsT s).length := by unfold mpN; omega
  have HHe := fun (w : World) (h : LP w (.slice a2 (entsT s).length c2) (markPs 1 (entsT s))) => heldPatchS_any (.slice a2 (entsT s).length c2) (entsT s) 1 w h HSm.out (by omega) (by omega)
  generalize mpN 1 (entsT s) (entsT s).length = X at *
  have hXn : ¬ X < 0 := by omega
  clear G3 on O2
  have HHe' := Lib.hid HHe
  clear HHe
  go_wp2_with fail
  go_fit (HHe'.out _ O3.lp)
  rintro e w5 ⟨rfl, g5⟩
  replace O1 := O1.grew g5
  replace O3 := O3.grew g5
  have G5 := gtrans G4 g5
  clear G4 g5
  go_wp2_with fail
  go_fit (implEntries_any s _ hs (HTb.out.kept G5) (HLv.out.kept G5))
  rintro e w6 ⟨v6, raw6, rfl, O6, g6⟩
  obtain ⟨a6, c6, rfl, -⟩ := O6.form
  replace O1 := O1.grew g6
  replace O3 := O3.grew g6
  have G6 := gtrans G5 g6
  clear G5 g6
  go_wp2_with fail
  go_fit (eqPatchS_yes _ _ _ _ O6.lp O1.lp)
  rintro e w7 ⟨rfl, g7⟩
  replace O3 := O3.grew g7
  have G7 := gtrans G6 g7
  clear G6 g7 O1 O6
  go_wp2_with fail
  go_fit (HHe'.out _ O3.lp)
  rintro e w8 ⟨rfl, g8⟩
  go_wp2_with fail
  go_ret
  exact ⟨rfl, gbelow (gtrans G7 g8)⟩

set_option maxRecDepth 100000 in
theorem lifted (os : Os) (started : os.Started) (H : Type) (enc : TypeId × Value → H) :
    ReturnsInHanded {} Tryd.checked os 4 .any (fun w args => (Rows.fnExactEntriesSpec.pre enc Tryd.prog Tryd.f4 [] false w args ∧ laidMetH Tryd.prog laidL w) ∧ sizedMet enc Tryd.prog Tryd.f4 (OpenSpec.ofChange Rows.fnExactEntriesSpec) false w args)
      (Rows.fnExactEntriesSpec.post enc Tryd.prog Tryd.f4 false true false false) := by
  refine handed_laid_shaped (C := Tryd.checked) (X := fun w _ => laidMetH Tryd.prog laidL w) (fun _ _ _ hh h => h.of_heap hh) own started (by kernel_rfl) Tryd.func4
    (ChangeSpec.witness_shaped (enc := enc) (C := Tryd.checked) (os := os) (X := fun w _ => laidMetH Tryd.prog laidL w) false (startW os) #[.string ⟨#[]⟩] 8 rfl (World.shaped_of_RefB (by kernel_rfl) (by kernel_rfl)) (by kernel_rfl) (by kernel_rfl) (by kernel_rfl) (door_met os _)) ?_
  intro W base args ds gs before hval0 hW hL hS
  have hval : ∀ (j : Nat) t v, Tryd.f4.params[j]? = some t → args[j]? = some v → Value.okWide Tryd.prog W .any base t v := hval0
  have hW' := hW
  obtain ⟨p, q, hA0, hV, rfl, hfz, hnd⟩ := hW
  have hA : DataW.TrodAll enc Tryd.prog W 0 (fun _ => true) true Tryd.f4.params.toList args.toList ds p := hA0
  rw [Tryd.params4] at hA hval
  obtain ⟨x0, vs0, d0, ds0, p0, q0, hargs, rfl, rfl, h0, r0⟩ := trodAll_cons hA
  obtain ⟨rfl, rfl, rfl⟩ := trodAll_nil r0
  obtain rfl : args = #[x0] := by cases args; simp_all
  obtain ⟨rfl, rfl⟩ := trodVars_none hV
  have k0 := h0
  have lt0 : ∀ x ∈ p0, x.block < W.heap.size := by obtain ⟨m, hm⟩ := k0; exact DataW.trod_lt m _ _ _ hm
  obtain ⟨s0, rfl, w0⟩ := openStr (hval 0 9 x0 rfl rfl) h0
  clear hA0 hval0
  refine (walk W (plainL hL) hS s0 w0).mono fun e W' ⟨he, bel⟩ => ?_
  subst he
  exact ⟨_, rfl, _, _, _, [], _, [], hW', trodAll_mk1 (shut_bool Tryd.underlying4 _), (trodAll_cons_mk (Below.trod laidOut (by kernel_rfl) (of_decide_eq_true (by kernel_rfl)) k0 bel lt0) trodAll_mk0), rfl, bel.frame _, fun h => by cases h⟩

theorem over : Rows.FnExactEntriesSaid :=
  OpenClaim.holds_of_wide 4 Tryd.f4 rfl rfl rfl rfl rfl rfl rfl ⟨rfl, rfl, rfl, rfl, rfl⟩ rfl rfl rfl rfl rfl (by kernel_rfl) Tryd.func4 (by kernel_rfl)
    (of_decide_eq_true (by kernel_rfl)) (by unfold Func.isWrapper; first | (rw [if_pos (by decide +kernel)]; kernel_rfl) | (rw [if_neg (by decide +kernel)]; exact ⟨rfl, rfl⟩))
    (fun os started H enc _ => lifted os started H enc)

theorem proved : Rows.FnExactEntriesCardSaid :=
  Claim7.holds_tied_plain_at .later [] [.data, .data, .data, .data, .sentinel, .sentinel, .pinned] true (true, "37a52c079ce5c7a4a919d14ecdfdbc45fcc4c25436f5f05adc1cecc14696a46b") true
    over (fun _ h => by cases h) (by kernel_rfl) (fun _ h => by cases h) fnExactEntries_row_tie rfl ⟨rfl, rfl⟩ (by kernel_rfl) rfl
    (fun f fn hf hfn => by
      obtain rfl : f = 4 := Option.some.inj ((show Tryd.prog.funcNamed "loop.example/g00406/laws.FnExactEntries" = some 4 by kernel_rfl).symm.trans hf) |>.symm
      obtain rfl : fn = Tryd.f4 := (Option.some.inj (Tryd.func4.symm.trans hfn)).symm
      exact ⟨by kernel_rfl, fun j t ht => by
        rw [Tryd.params4] at ht
        have hm : t ∈ [9] := by
          have := List.mem_of_getElem? (l := [9]) (i := j) (a := t) (by simpa using ht)
          exact this
        simp only [List.mem_cons, List.mem_nil_iff, or_false] at hm
        rcases hm with rfl
        · exact (show Tryd.prog.wantsStandIn 9 = false by kernel_rfl)⟩)
    (by kernel_rfl)
#print axioms proved
end Go.Proofs.YtnhefdmnpoaegaaDoor.fnExactEntries
