/-
  Proved: for every input the law FnExactOptimal returns true and leaves its arguments as they were, where the listed variables of the library read as its text lays them (the card ties that to the text).
-/
import Derived.Test.YtnkfmjgbeoddbaaGreatDoorRows
import Derived.Test.YtnkfmjgbeoddbaaGreatDoorCards
import Derived.Test.YtnkfmjgbeoddbaaGreatDoorTie
import Derived.SevenTiedAt
import Derived.WalkKit
import Derived.ProofKit
import Derived.LaidMore
import Derived.OpenShut
import Derived.Stop.Joined
import Derived.ShutString
import Derived.ChangeOld
import Derived.Below
import Derived.Carry
import Derived.Test.YtnkfmjgbeoddbaaGreatDoorDoorB
import Derived.Test.YtnkfmjgbeoddbaaGreatDoorImplL11
import Derived.Test.YtnkfmjgbeoddbaaGreatDoorLawX
import Derived.Deep.RegionHeld3
import Derived.Stop.LaidErr
import Derived.Shelf.Vars
namespace Go.Proofs.YtnkfmjgbeoddbaaGreatDoor.fnExactOptimal
open Go.ChangeShapes Go.WideShapes Go.ChangeAt Go.RowKit
set_option linter.unusedVariables false

theorem own : ownKnob Tryz.prog.godebug = none := by kernel_rfl
theorem laidOut : laidOutB Tryz.prog = true := by kernel_rfl
def laidL : List (String × DataW Unit) := [("math/bits.deBruijn32tab", Rows.laid_math_bits_deBruijn32tab), ("math/bits.deBruijn64tab", Rows.laid_math_bits_deBruijn64tab), ("internal/strconv.uint64pow10", Rows.laid_internal_strconv_uint64pow10), ("unicode/utf8.acceptRanges", Rows.laid_unicode_utf8_acceptRanges), ("strconv.ErrRange", Rows.laid_strconv_ErrRange), ("strconv.ErrSyntax", Rows.laid_strconv_ErrSyntax), ("unicode/utf8.first", Rows.laid_unicode_utf8_first)]
noncomputable def startW (os : Os) : World := { World.doorLaid Tryz.prog 400 os with heap := (World.doorLaid Tryz.prog 400 os).heap.modify 6 fun | .cells _ t frozen => .cells (Go.Pinned.utf8FirstZ.map fun z : Nat => Value.int .u8 (z : Int)).toArray t frozen | o => o }
theorem door_met (os : Os) (args : Array Value) : laidMetH Tryz.prog laidL ((startW os).forCall (fun _ _ => 0) ⟨#[], args, []⟩).memory :=
  laidMetH_of_parts3 (fuel := 8) (laidMet_of_run' 8 (by kernel_rfl) (by kernel_rfl)) (by kernel_rfl) (by kernel_rfl)
theorem plainL {w : World} (h : laidMetH Tryz.prog laidL w) : laidMet Tryz.prog laidL w := by
  rw [MakeChecks.laidMetH_plain _ _ _ (by kernel_rfl)] at h
  exact h
theorem pow_of {w : World} (h : laidMet Tryz.prog laidL w) : Pow10 w :=
  Lib.tabIs_of_head (g := 1) (t := 250) (e := 239) (n := 20) (by kernel_rfl) (by kernel_rfl) Tryz.underlying250 Tryz.underlying239 (by kernel_rfl) (by kernel_rfl) (laidMet.tail (laidMet.tail h))
theorem star : "*" ++ "errors.errorString" = "*errors.errorString" := by decide
theorem row_err (u : TypeId) (h : Tryz.prog.typeName? 3 u = some "*errors.errorString") : u = 277 :=
  typeName_ptr_named (nm := "errors.errorString") (by rw [star]; kernel_rfl) (by kernel_rfl) (by decide) u (by rw [star]; exact h)
theorem lib_of {w : World} (h : laidMet Tryz.prog laidL w) (hS : w.ShapedOpen Tryz.prog) : LibV w := by
  have h4 := laidMet.tail (laidMet.tail (laidMet.tail (laidMet.tail h)))
  obtain ⟨a1, s1, v1, -, -, -⟩ := laid_sentinel h4 (g := 3) (ti := 231) (tp := 277) (te := 279) (ts := 9) (by kernel_rfl) (by kernel_rfl) Tryz.underlying231 row_err Tryz.underlying277 Tryz.underlying279 rfl rfl Tryz.underlying9 (by kernel_rfl) (by kernel_rfl)
  obtain ⟨a2, s2, v2, -, -, -⟩ := laid_sentinel (laidMet.tail h4) (g := 2) (ti := 231) (tp := 277) (te := 279) (ts := 9) (by kernel_rfl) (by kernel_rfl) Tryz.underlying231 row_err Tryz.underlying277 Tryz.underlying279 rfl rfl Tryz.underlying9 (by kernel_rfl) (by kernel_rfl)
  exact ⟨⟨_, _, v2⟩, ⟨_, _, v1⟩, cell_of_shapedOpen_int (P := Tryz.prog) (g := 0) (t := 3) (zero := #[.int .i64 0]) hS (of_decide_eq_true (by kernel_rfl)) (by kernel_rfl) rfl (by kernel_rfl) (by kernel_rfl) Tryz.underlying3⟩

set_option maxRecDepth 100000 in
set_option maxHeartbeats 4000000 in
theorem walk (w : World) (HL : Hid (laidMet Tryz.prog laidL w)) (hS : w.ShapedOpen Tryz.prog) (z0 : AZ) (da0 : Option Addr) (dn0 dc0 : Nat) (w0 : InArray w da0 dn0 z0) :
    Calls Tryz.prog 9 #[.agg #[.slice da0 dn0 dc0, .string (str z0.log), .string (str z0.next), .int .i64 z0.stage, .bool z0.up]] w fun e w' => e = .returned (.bool true) ∧ Below w.heap.size w w' := by
  have HT := Lib.hid (pow_of HL.out)
  have HV := Lib.hid (lib_of HL.out hS)
  clear HL hS
  have AP := Box5.new w (.slice da0 dn0 dc0) (.string (str z0.log)) (.string (str z0.next)) (.int .i64 z0.stage) (.bool z0.up) 54
  have g0 := galloc (grefl w) (.cells #[.slice da0 dn0 dc0, .string (str z0.log), .string (str z0.next), .int .i64 z0.stage, .bool z0.up] 54)
  have hW0 : w.heap.size < (w.alloc (.cells #[.slice da0 dn0 dc0, .string (str z0.log), .string (str z0.next), .int .i64 z0.stage, .bool z0.up] 54)).heap.size := by simp
  go_enter Tryz.func9, Tryz.ntmps9
  go_upto_region 1 with (fail)
  generalize w.alloc (.cells #[.slice da0 dn0 dc0, .string (str z0.log), .string (str z0.next), .int .i64 z0.stage, .bool z0.up] 54) = W0 at *
  generalize hbw : w.heap.size = bw at AP hW0 ⊢
  have HW := Lib.hid hbw
  clear hbw
  obtain ⟨p0, p1, p2, p3, p4⟩ := AP
  go_wp2_with fail
  go_fit (szArray_b z0 da0 dn0 dc0 _ (w0.kept g0))
  rintro e wa ⟨x, rfl, ga, hx, hxb⟩
  have GA := gtrans g0 ga
  replace AP : Box5 wa bw (.slice da0 dn0 dc0) (.string (str z0.log)) (.string (str z0.next)) (.int .i64 z0.stage) (.bool z0.up) := Box5.kept ⟨p0, p1, p2, p3, p4⟩ ga
  have hsa := ga.size
  have hlo : w.heap.size ≤ wa.heap.size := GA.size
  clear p0 p1 p2 p3 p4 ga g0
  by_cases hneg : x < 0
  · go_wp2_with fail
    go_ret
    exact ⟨rfl, gbelow GA⟩
  have HS : Hid (SmallA z0) := by rcases hx with hx | hx; exact absurd hx hneg; exact hx.2
  have hz1 : z0.log.length ≤ 1100000 := by have := HS.out.2.1; omega
  have hz2 : z0.next.length ≤ 1100000 := by have := HS.out.2.2; omega
  clear hx hxb
  obtain ⟨-, -, -, hd0⟩ := w0
  have CS := fun (v : Value) (W : World) (h : LD W v z0.ds) => specOptimal_any v z0 W h hz1 hz2
  have CI := fun (v : Value) (W : World) (h : LD W v z0.ds) (t : Pow10 W) (l : LibV W) => implOptimal_any v z0 W h t l
  generalize z0.optimal = O at *
  clear hz1 hz2
  obtain ⟨p0, p1, p2, p3, p4⟩ := AP
  go_wp2_with fail
  go_fit (toArray_any z0 da0 dn0 dc0 _ (hd0.kept GA) HS.out.1)
  rintro e wb ⟨vb, rawb, rfl, ob, gb⟩
  obtain ⟨vba, vbc, rfl, -⟩ := ob.form
  have hs_gb := gb.size
  replace AP : Box5 _ bw (.slice da0 dn0 dc0) (.string (str z0.log)) (.string (str z0.next)) (.int .i64 z0.stage) (.bool z0.up) := ⟨p0, p1, p2, p3, p4⟩
  clear p0 p1 p2 p3 p4
  replace AP := AP.kept gb
  have G1 := gtrans GA gb
  clear GA
  go_wp2_with fail
  go_fit (CS _ _ ob.ld)
  rintro e wc ⟨rfl, gc⟩
  clear ob
  replace AP := AP.kept gc
  have G2 := gtrans G1 gc
  clear G1
  obtain ⟨p0, p1, p2, p3, p4⟩ := AP
  go_wp2_with fail
  go_fit (toArray_any z0 da0 dn0 dc0 _ (hd0.kept G2) HS.out.1)
  rintro e wd ⟨va, raw10, rfl, o10, gd⟩
  obtain ⟨vaa, vac, rfl, -⟩ := o10.form
  have hs_gd := gd.size
  replace AP : Box5 _ bw (.slice da0 dn0 dc0) (.string (str z0.log)) (.string (str z0.next)) (.int .i64 z0.stage) (.bool z0.up) := ⟨p0, p1, p2, p3, p4⟩
  clear p0 p1 p2 p3 p4
  replace AP := AP.kept gd
  have G3 := gtrans G2 gd
  clear G2
  have e10 := galloc (grefl wd) (.cells #[.slice vaa z0.ds.length vac, .string (str z0.log), .string (str z0.next), .int .i64 z0.stage, .bool z0.up] 26)
  have B10 := Box5.new wd (.slice vaa z0.ds.length vac) (.string (str z0.log)) (.string (str z0.next)) (.int .i64 z0.stage) (.bool z0.up) 26
  replace AP := AP.kept e10
  replace o10 := o10.grew e10
  have G4 := gtrans G3 e10
  clear G3
  go_upto_region 7 with (fail)
  generalize wd.alloc (.cells #[.slice vaa z0.ds.length vac, .string (str z0.log), .string (str z0.next), .int .i64 z0.stage, .bool z0.up] 26) = W10 at *
  generalize hb10 : wd.heap.size = b10 at *
  obtain ⟨q0, q1, q2, q3, q4⟩ := B10
  go_wp2_with fail
  go_fit (CI _ _ o10.ld (HT.out.kept G4) (HV.out.kept G4))
  rintro e wg ⟨rfl, gf⟩
  replace B10 : Box5 _ b10 (.slice vaa z0.ds.length vac) (.string (str z0.log)) (.string (str z0.next)) (.int .i64 z0.stage) (.bool z0.up) := ⟨q0, q1, q2, q3, q4⟩
  clear q0 q1 q2 q3 q4
  replace AP := AP.kept gf
  replace o10 := o10.grew gf
  replace B10 := B10.kept gf
  have G5 := gtrans G4 gf
  clear G4
  have S10 : PA wg bw (.slice da0 dn0 dc0) (.string (str z0.log)) (.string (str z0.next)) (.int .i64 z0.stage) (.bool z0.up) b10 (.slice vaa z0.ds.length vac) (.string (str z0.log)) (.string (str z0.next)) (.int .i64 z0.stage) (.bool z0.up) := ⟨AP, B10⟩
  go_wp2_with fail
  go_region_held3 (fun w' => PA w' bw (.slice da0 dn0 dc0) (.string (str z0.log)) (.string (str z0.next)) (.int .i64 z0.stage) (.bool z0.up) b10 (.slice vaa z0.ds.length vac) (.string (str z0.log)) (.string (str z0.next)) (.int .i64 z0.stage) (.bool z0.up)) (first | assumption | exact S10.drew | exact PA.kept ‹PA _ bw _ _ _ _ _ b10 _ _ _ _ _› ‹World.grownBy _ _ none›) (first | (go_at_call 41; go_fit (toArray_any z0 da0 dn0 dc0 _ (hd0.kept (gdrew G5 1)) HS.out.1); rintro e wh ⟨vh, rawh, rfl, oh, gh⟩) | (go_at_call 43; go_fit (eqArray_yes z0 _ _ _ (o10.grew (gtrans (gdrew (grefl wg) 1) gh)).ld oh.ld); rintro e wi ⟨rfl, gi⟩))
  have ghi := gtrans (gtrans (gdrew (grefl wg) 1) gh) gi
  go_wp2_with fail
  go_ret
  exact ⟨rfl, gbelow (gtrans G5 ghi)⟩

set_option maxRecDepth 100000 in
theorem lifted (os : Os) (started : os.Started) (H : Type) (enc : TypeId × Value → H) :
    ReturnsInHanded {} Tryz.checked os 9 .any (fun w args => (Rows.fnExactOptimalSpec.pre enc Tryz.prog Tryz.f9 [] false w args ∧ laidMetH Tryz.prog laidL w) ∧ sizedMet enc Tryz.prog Tryz.f9 (OpenSpec.ofChange Rows.fnExactOptimalSpec) false w args)
      (Rows.fnExactOptimalSpec.post enc Tryz.prog Tryz.f9 false true false false) := by
  refine handed_laid_shaped (C := Tryz.checked) (X := fun w _ => laidMetH Tryz.prog laidL w) (fun _ _ _ hh h => h.of_heap hh) own started (by kernel_rfl) Tryz.func9
    (ChangeSpec.witness_shaped (enc := enc) (C := Tryz.checked) (os := os) (X := fun w _ => laidMetH Tryz.prog laidL w) false (startW os) #[.agg #[.slice none 0 0, .string ⟨#[]⟩, .string ⟨#[]⟩, .int .i64 0, .bool false]] 8 rfl (World.shaped_of_RefB (by kernel_rfl) (by kernel_rfl)) (by kernel_rfl) (by kernel_rfl) (by kernel_rfl) (door_met os _)) ?_
  intro W base args ds gs before hval0 hW hL hS
  have hval : ∀ (j : Nat) t v, Tryz.f9.params[j]? = some t → args[j]? = some v → Value.okWide Tryz.prog W .any base t v := hval0
  have hW' := hW
  obtain ⟨p, q, hA0, hV, rfl, hfz, hnd⟩ := hW
  have hA : DataW.TrodAll enc Tryz.prog W 0 (fun _ => true) true Tryz.f9.params.toList args.toList ds p := hA0
  rw [Tryz.params9] at hA hval
  obtain ⟨x0, vs0, d0, ds0, p0, q0, hargs, rfl, rfl, h0, r0⟩ := trodAll_cons hA
  obtain ⟨rfl, rfl, rfl⟩ := trodAll_nil r0
  obtain rfl : args = #[x0] := by cases args; simp_all
  obtain ⟨rfl, rfl⟩ := trodVars_none hV
  have k0 := h0
  have lt0 : ∀ x ∈ p0, x.block < W.heap.size := by obtain ⟨m, hm⟩ := k0; exact DataW.trod_lt m _ _ _ hm
  obtain ⟨z0, da0, dn0, dc0, rfl, w0⟩ := openArray (hval 0 54 x0 rfl rfl) h0
  clear hA0 hval0
  refine (walk W (plainL hL) hS z0 da0 dn0 dc0 w0).mono fun e W' ⟨he, bel⟩ => ?_
  subst he
  exact ⟨_, rfl, _, _, _, [], _, [], hW', trodAll_mk1 (shut_bool Tryz.underlying4 _), (trodAll_cons_mk (Below.trod laidOut (by kernel_rfl) (of_decide_eq_true (by kernel_rfl)) k0 bel lt0) trodAll_mk0), rfl, bel.frame _, fun h => by cases h⟩

theorem over1 : (Rows.fnExactOptimalRow.inPlace == Tryz.pinned.checked.prog.inPlace 9) = true := by kernel_rfl
theorem over2 : (Rows.fnExactOptimalRow.unfollowed == Tryz.pinned.checked.prog.unfollowed 9) = true := by kernel_rfl
theorem over3 : (Rows.fnExactOptimalRow.recurses == Tryz.pinned.checked.prog.recurses 9) = true := by kernel_rfl
theorem over4 : (Rows.fnExactOptimalRow.named == Tryz.pinned.checked.prog.varsNamed 9) = true := by kernel_rfl
theorem overs : joinedFacts Tryz.pinned.checked.prog 9 Tryz.f9 Rows.fnExactOptimalSpec Rows.fnExactOptimalRow = true := by
  unfold joinedFacts
  rw [over1, over2, over3, over4]
  kernel_rfl
theorem over : Rows.FnExactOptimalSaid :=
  OpenClaim.holds_of_wide 9 Tryz.f9 rfl rfl rfl rfl rfl rfl rfl ⟨rfl, rfl, rfl, rfl, rfl⟩ rfl rfl rfl rfl rfl (by kernel_rfl) Tryz.func9 overs
    (of_decide_eq_true (by kernel_rfl)) (by unfold Func.isWrapper; first | (rw [if_pos (by decide +kernel)]; kernel_rfl) | (rw [if_neg (by decide +kernel)]; exact ⟨rfl, rfl⟩))
    (fun os started H enc _ => lifted os started H enc)

theorem proved : Rows.FnExactOptimalCardSaid :=
  Claim7.holds_tied_plain_at .later [] [.data, .data, .data, .data, .sentinel, .sentinel, .pinned] true (true, "f84111a732ba7a6e4ad942a03daef418e0be55016aaf447de4a1ce53821ff3a1") true
    over (fun _ h => by cases h) (by kernel_rfl) (fun _ h => by cases h) fnExactOptimal_row_tie rfl ⟨rfl, rfl⟩ (by kernel_rfl) rfl
    (fun f fn hf hfn => by
      obtain rfl : f = 9 := Option.some.inj ((show Tryz.prog.funcNamed "loop.example/g00406/laws.FnExactOptimal" = some 9 by kernel_rfl).symm.trans hf) |>.symm
      obtain rfl : fn = Tryz.f9 := (Option.some.inj (Tryz.func9.symm.trans hfn)).symm
      exact ⟨by kernel_rfl, fun j t ht => by
        rw [Tryz.params9] at ht
        have hm : t ∈ [54] := by
          have := List.mem_of_getElem? (l := [54]) (i := j) (a := t) (by simpa using ht)
          exact this
        simp only [List.mem_cons, List.mem_nil_iff, or_false] at hm
        rcases hm with rfl
        · exact (show Tryz.prog.wantsStandIn 54 = false by kernel_rfl)⟩)
    (by kernel_rfl)
#print axioms proved
end Go.Proofs.YtnkfmjgbeoddbaaGreatDoor.fnExactOptimal
