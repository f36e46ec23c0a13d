/-
  Proved: for every input the law FnExactReadPatch returns true and leaves its arguments as they were, where the listed variables of the library read as its text lays them (the card ties that to the text).
-/
import Derived.Test.YtncmocdfdkacfaaDoorRows
import Derived.Test.YtncmocdfdkacfaaDoorCards
import Derived.Test.YtncmocdfdkacfaaDoorTie
import Derived.SevenTiedAt
import Derived.WalkKit
import Derived.ProofKit
import Derived.LaidMore
import Derived.OpenShut
import Derived.Stop.Joined
import Derived.ShutString
import Derived.ChangeOld
import Derived.Below
import Derived.Carry
import Derived.Test.YtncmocdfdkacfaaDoorDoorB
import Derived.Test.YtncmocdfdkacfaaDoorImplL07u
import Derived.Test.YtncmocdfdkacfaaDoorVarL07
import Derived.Stop.LaidErr
import Derived.Shelf.Vars
namespace Go.Proofs.YtncmocdfdkacfaaDoor.fnExactReadPatch
open Go.ChangeShapes Go.WideShapes Go.ChangeAt Go.RowKit
set_option linter.unusedVariables false

theorem own : ownKnob Tryd.prog.godebug = none := by kernel_rfl
theorem laidOut : laidOutB Tryd.prog = true := by kernel_rfl
def laidL : List (String × DataW Unit) := [("math/bits.deBruijn32tab", Rows.laid_math_bits_deBruijn32tab), ("math/bits.deBruijn64tab", Rows.laid_math_bits_deBruijn64tab), ("internal/strconv.uint64pow10", Rows.laid_internal_strconv_uint64pow10), ("unicode/utf8.acceptRanges", Rows.laid_unicode_utf8_acceptRanges), ("strconv.ErrRange", Rows.laid_strconv_ErrRange), ("strconv.ErrSyntax", Rows.laid_strconv_ErrSyntax), ("unicode/utf8.first", Rows.laid_unicode_utf8_first)]
noncomputable def startW (os : Os) : World := { World.doorLaid Tryd.prog 400 os with heap := (World.doorLaid Tryd.prog 400 os).heap.modify 6 fun | .cells _ t frozen => .cells (Go.Pinned.utf8FirstZ.map fun z : Nat => Value.int .u8 (z : Int)).toArray t frozen | o => o }
theorem door_met (os : Os) (args : Array Value) : laidMetH Tryd.prog laidL ((startW os).forCall (fun _ _ => 0) ⟨#[], args, []⟩).memory :=
  laidMetH_of_parts3 (fuel := 8) (laidMet_of_run' 8 (by kernel_rfl) (by kernel_rfl)) (by kernel_rfl) (by kernel_rfl)
theorem plainL {w : World} (h : laidMetH Tryd.prog laidL w) : laidMet Tryd.prog laidL w := by
  rw [MakeChecks.laidMetH_plain _ _ _ (by kernel_rfl)] at h
  exact h
theorem pow_of {w : World} (h : laidMet Tryd.prog laidL w) : Pow10 w :=
  Lib.tabIs_of_head (g := 0) (t := 89) (e := 79) (n := 20) (by kernel_rfl) (by kernel_rfl) Tryd.underlying89 Tryd.underlying79 (by kernel_rfl) (by kernel_rfl) (laidMet.tail (laidMet.tail h))
theorem star : "*" ++ "errors.errorString" = "*errors.errorString" := by decide
theorem row_err (u : TypeId) (h : Tryd.prog.typeName? 3 u = some "*errors.errorString") : u = 121 :=
  typeName_ptr_named (nm := "errors.errorString") (by rw [star]; kernel_rfl) (by kernel_rfl) (by decide) u (by rw [star]; exact h)
theorem lib_of {w : World} (h : laidMet Tryd.prog laidL w) (hS : w.ShapedOpen Tryd.prog) : LibV w := by
  have h4 := laidMet.tail (laidMet.tail (laidMet.tail (laidMet.tail h)))
  obtain ⟨a1, s1, v1, -, -, -⟩ := laid_sentinel h4 (g := 3) (ti := 69) (tp := 121) (te := 123) (ts := 9) (by kernel_rfl) (by kernel_rfl) Tryd.underlying69 row_err Tryd.underlying121 Tryd.underlying123 rfl rfl Tryd.underlying9 (by kernel_rfl) (by kernel_rfl)
  obtain ⟨a2, s2, v2, -, -, -⟩ := laid_sentinel (laidMet.tail h4) (g := 2) (ti := 69) (tp := 121) (te := 123) (ts := 9) (by kernel_rfl) (by kernel_rfl) Tryd.underlying69 row_err Tryd.underlying121 Tryd.underlying123 rfl rfl Tryd.underlying9 (by kernel_rfl) (by kernel_rfl)
  exact ⟨⟨_, _, v2⟩, ⟨_, _, v1⟩, cell_of_shapedOpen_int (P := Tryd.prog) (g := 1) (t := 3) (zero := #[.int .i64 0]) hS (of_decide_eq_true (by kernel_rfl)) (by kernel_rfl) rfl (by kernel_rfl) (by kernel_rfl) Tryd.underlying3⟩
theorem readP_len {s : List UInt8} : (readPZ s).ds.length ≤ 1048576 ∧ (readPZ s).vs.length ≤ 1048576 := by
  cases h : readPok s
  · rw [readPZ_no h]; simp [PZ.zero]
  · rw [readPZ_yes h]
    simp only [readPok, Bool.and_eq_true] at h
    obtain ⟨-, hc⟩ := ok_cases h.2.2
    rcases hc with ⟨d, v, h1, h2, -⟩ | ⟨d, v, e, u, h1, h2, -⟩ <;> rw [h1, h2] <;> simp

set_option maxRecDepth 100000 in
set_option maxHeartbeats 4000000 in
theorem walk (w : World) (HL : Hid (laidMet Tryd.prog laidL w)) (hS : w.ShapedOpen Tryd.prog) (s0 : ByteArray) (w0 : s0.size ≤ maxLen) :
    Calls Tryd.prog 4 #[.string s0] w fun e w' => e = .returned (.bool true) ∧ Below w.heap.size w w' := by
  have HTb := Lib.hid (pow_of HL.out)
  have HLv := Lib.hid (lib_of HL.out hS)
  obtain ⟨s, rfl⟩ : ∃ l, s0 = str l := ⟨s0.data.toList, by simp [str]⟩
  have hsz : (str s).size = s.length := str_size s
  have hsl : s.length ≤ 9223372036854775807 := by rw [← hsz]; unfold maxLen at w0; omega
  clear HL hS w0
  by_cases hbig : (1048576 : Int) < s.length
  · go_enter Tryd.func4, Tryd.ntmps4
    go_wp2_with fail
    go_ret
    exact ⟨rfl, Below.refl _ _⟩
  have hs : s.length ≤ 1048576 := by omega
  have HLn : Hid ((readPZ s).ds.length ≤ 1048576 ∧ (readPZ s).vs.length ≤ 1048576) := readP_len
  go_enter Tryd.func4, Tryd.ntmps4
  go_wp2_with fail
  go_fit (specReadPatch_big s _ hs)
  rintro e wc ⟨dvs, vvs, rfl, s1, s2, sap, gc⟩
  have ec := galloc gc (.cells #[.int .i64 (readPZ s).row, dvs, vvs] 27)
  have V1 := VarP.new s1 s2 sap 27
  have hlo1 := gc.size
  obtain ⟨sa, sn, sc, rfl⟩ := Own.sl s1
  obtain ⟨ta, tn, tc, rfl⟩ := Own.sl s2
  have hsz1 : wc.heap.size < (wc.alloc (.cells #[.int .i64 (readPZ s).row, .slice sa sn sc, .slice ta tn tc] 27)).heap.size := by simp
  clear gc s1 s2
  go_upto_region 4 with (fail)
  generalize wc.alloc (.cells #[.int .i64 (readPZ s).row, .slice sa sn sc, .slice ta tn tc] 27) = W1 at *
  generalize wc.heap.size = b1 at *
  go_wp2_with fail
  go_fit (implReadPatch_any s _ hs (HTb.out.kept ec) (HLv.out.kept ec))
  rintro e we ⟨dvg, vvg, rfl, g1, g2, gap, ge⟩
  have ee := galloc ge (.cells #[.int .i64 (readPZ s).row, dvg, vvg] 27)
  have V2 := VarP.new g1 g2 gap 27
  have hlo2 := ge.size
  obtain ⟨ga', gn, gc', rfl⟩ := Own.sl g1
  obtain ⟨ha, hn, hc, rfl⟩ := Own.sl g2
  have G4 := gtrans ec ee
  replace V1 := V1.kept ee
  have hsz2 : we.heap.size < (we.alloc (.cells #[.int .i64 (readPZ s).row, .slice ga' gn gc', .slice ha hn hc] 27)).heap.size := by simp
  have hwW : Hid (w.heap.size ≤ W1.heap.size) := ec.size
  clear ec ge g1 g2 ee
  go_upto_region 5 with (fail)
  generalize we.alloc (.cells #[.int .i64 (readPZ s).row, .slice ga' gn gc', .slice ha hn hc] 27) = W2 at *
  generalize we.heap.size = b2 at *
  obtain ⟨p0, p1, p2⟩ := V1.b3
  obtain ⟨q0, q1, q2⟩ := V2.b3
  go_wp2_with fail
  go_fit (eqPatch_yes _ _ _ _ _ _ V2.rd V2.rv V1.rd V1.rv)
  rintro e wf ⟨rfl, gf⟩
  have G5 := gtrans G4 gf
  replace V1 := V1.kept gf
  replace V2 := V2.kept gf
  clear G4 gf p0 p1 p2 q0 q1 q2
  obtain ⟨q0, q1, q2⟩ := V2.b3
  have hwW' := hwW.out
  go_wp2_with fail
  go_fit (markPatch_any _ _ _ _ _ _ _ _ V2.box.ds V2.box.vs V2.box.ap HLn.out.1 HLn.out.2 (by omega) (by omega))
  rintro e wk ⟨rfl, m1, m2, ok⟩
  have G10 := ok.grew G5 (fun k hk => by have := V2.lo1 k hk; omega)
  replace V1 := V1.only ok (fun k hk => by have := V2.lo1 k hk; omega) (by omega)
  have M2 := V2.marked m1 m2 ok
  clear G5 ok V2 m1 m2 q0 q1 q2
  have hbl : ¬ (1 + ((readPZ s).ds.length : Int) + ((readPZ s).vs.length : Int)) < 0 := by omega
  obtain ⟨q0, q1, q2⟩ := M2.b3
  go_wp2_with fail
  go_fit (heldPatch_any _ _ _ _ _ _ _ M2.rd M2.rv HLn.out.1 HLn.out.2 (by omega) (by omega))
  rintro e wl ⟨rfl, gl⟩
  have G11 := gtrans G10 gl
  replace V1 := V1.kept gl
  replace M2 := M2.kept gl
  clear G10 gl q0 q1 q2
  go_wp2_with fail
  go_fit (implReadPatch_any s _ hs (HTb.out.kept G11) (HLv.out.kept G11))
  rintro e wn ⟨dvh, vvh, rfl, h1, h2, hap, gn'⟩
  have en := galloc gn' (.cells #[.int .i64 (readPZ s).row, dvh, vvh] 27)
  have V3 := VarP.new h1 h2 hap 27
  obtain ⟨ja, jn, jc, rfl⟩ := Own.sl h1
  obtain ⟨ka, kn, kc, rfl⟩ := Own.sl h2
  have G13 := gtrans G11 en
  replace V1 := V1.kept en
  replace M2 := M2.kept en
  clear G11 gn' h1 h2 en
  go_upto_region 16 with (fail)
  generalize wn.alloc (.cells #[.int .i64 (readPZ s).row, .slice ja jn jc, .slice ka kn kc] 27) = W3 at *
  generalize wn.heap.size = b3 at *
  obtain ⟨p0, p1, p2⟩ := V1.b3
  obtain ⟨q0, q1, q2⟩ := V3.b3
  go_wp2_with fail
  go_fit (eqPatch_yes _ _ _ _ _ _ V3.rd V3.rv V1.rd V1.rv)
  rintro e wo ⟨rfl, go'⟩
  have G14 := gtrans G13 go'
  replace M2 := M2.kept go'
  clear G13 go' p0 p1 p2 q0 q1 q2 V1 V3
  obtain ⟨q0, q1, q2⟩ := M2.b3
  go_wp2_with fail
  go_fit (heldPatch_any _ _ _ _ _ _ _ M2.rd M2.rv HLn.out.1 HLn.out.2 (by omega) (by omega))
  rintro e wp ⟨rfl, gp⟩
  go_wp2_with fail
  go_ret
  exact ⟨rfl, gbelow (gtrans G14 gp)⟩

set_option maxRecDepth 100000 in
theorem lifted (os : Os) (started : os.Started) (H : Type) (enc : TypeId × Value → H) :
    ReturnsInHanded {} Tryd.checked os 4 .any (fun w args => (Rows.fnExactReadPatchSpec.pre enc Tryd.prog Tryd.f4 [] false w args ∧ laidMetH Tryd.prog laidL w) ∧ sizedMet enc Tryd.prog Tryd.f4 (OpenSpec.ofChange Rows.fnExactReadPatchSpec) false w args)
      (Rows.fnExactReadPatchSpec.post enc Tryd.prog Tryd.f4 false true false false) := by
  refine handed_laid_shaped (C := Tryd.checked) (X := fun w _ => laidMetH Tryd.prog laidL w) (fun _ _ _ hh h => h.of_heap hh) own started (by kernel_rfl) Tryd.func4
    (ChangeSpec.witness_shaped (enc := enc) (C := Tryd.checked) (os := os) (X := fun w _ => laidMetH Tryd.prog laidL w) false (startW os) #[.string ⟨#[]⟩] 8 rfl (World.shaped_of_RefB (by kernel_rfl) (by kernel_rfl)) (by kernel_rfl) (by kernel_rfl) (by kernel_rfl) (door_met os _)) ?_
  intro W base args ds gs before hval0 hW hL hS
  have hval : ∀ (j : Nat) t v, Tryd.f4.params[j]? = some t → args[j]? = some v → Value.okWide Tryd.prog W .any base t v := hval0
  have hW' := hW
  obtain ⟨p, q, hA0, hV, rfl, hfz, hnd⟩ := hW
  have hA : DataW.TrodAll enc Tryd.prog W 0 (fun _ => true) true Tryd.f4.params.toList args.toList ds p := hA0
  rw [Tryd.params4] at hA hval
  obtain ⟨x0, vs0, d0, ds0, p0, q0, hargs, rfl, rfl, h0, r0⟩ := trodAll_cons hA
  obtain ⟨rfl, rfl, rfl⟩ := trodAll_nil r0
  obtain rfl : args = #[x0] := by cases args; simp_all
  obtain ⟨rfl, rfl⟩ := trodVars_none hV
  have k0 := h0
  have lt0 : ∀ x ∈ p0, x.block < W.heap.size := by obtain ⟨m, hm⟩ := k0; exact DataW.trod_lt m _ _ _ hm
  obtain ⟨s0, rfl, w0⟩ := openStr (hval 0 9 x0 rfl rfl) h0
  clear hA0 hval0
  refine (walk W (plainL hL) hS s0 w0).mono fun e W' ⟨he, bel⟩ => ?_
  subst he
  exact ⟨_, rfl, _, _, _, [], _, [], hW', trodAll_mk1 (shut_bool Tryd.underlying4 _), (trodAll_cons_mk (Below.trod laidOut (by kernel_rfl) (of_decide_eq_true (by kernel_rfl)) k0 bel lt0) trodAll_mk0), rfl, bel.frame _, fun h => by cases h⟩

theorem over : Rows.FnExactReadPatchSaid :=
  OpenClaim.holds_of_wide 4 Tryd.f4 rfl rfl rfl rfl rfl rfl rfl ⟨rfl, rfl, rfl, rfl, rfl⟩ rfl rfl rfl rfl rfl (by kernel_rfl) Tryd.func4 (by kernel_rfl)
    (of_decide_eq_true (by kernel_rfl)) (by unfold Func.isWrapper; first | (rw [if_pos (by decide +kernel)]; kernel_rfl) | (rw [if_neg (by decide +kernel)]; exact ⟨rfl, rfl⟩))
    (fun os started H enc _ => lifted os started H enc)

theorem proved : Rows.FnExactReadPatchCardSaid :=
  Claim7.holds_tied_plain_at .later [] [.data, .data, .data, .data, .sentinel, .sentinel, .pinned] true (true, "675bdadd414453207e55ed1072a2c963af493a3dc2cb2ff0d4cfb9528c1048ce") true
    over (fun _ h => by cases h) (by kernel_rfl) (fun _ h => by cases h) fnExactReadPatch_row_tie rfl ⟨rfl, rfl⟩ (by kernel_rfl) rfl
    (fun f fn hf hfn => by
      obtain rfl : f = 4 := Option.some.inj ((show Tryd.prog.funcNamed "loop.example/g00406/laws.FnExactReadPatch" = some 4 by kernel_rfl).symm.trans hf) |>.symm
      obtain rfl : fn = Tryd.f4 := (Option.some.inj (Tryd.func4.symm.trans hfn)).symm
      exact ⟨by kernel_rfl, fun j t ht => by
        rw [Tryd.params4] at ht
        have hm : t ∈ [9] := by
          have := List.mem_of_getElem? (l := [9]) (i := j) (a := t) (by simpa using ht)
          exact this
        simp only [List.mem_cons, List.mem_nil_iff, or_false] at hm
        rcases hm with rfl
        · exact (show Tryd.prog.wantsStandIn 9 = false by kernel_rfl)⟩)
    (by kernel_rfl)
#print axioms proved
end Go.Proofs.YtncmocdfdkacfaaDoor.fnExactReadPatch
