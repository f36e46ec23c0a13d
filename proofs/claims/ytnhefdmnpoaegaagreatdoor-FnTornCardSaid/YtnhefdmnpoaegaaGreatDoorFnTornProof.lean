/-
  Proved: for every input the law FnTorn returns true and leaves its arguments as they were, where the listed variables of the library read as its text lays them (the card ties that to the text).
-/
import Derived.Test.YtnhefdmnpoaegaaGreatDoorRows
import Derived.Test.YtnhefdmnpoaegaaGreatDoorCards
import Derived.Test.YtnhefdmnpoaegaaGreatDoorTie
import Derived.SevenTiedAt
import Derived.WalkKit
import Derived.ProofKit
import Derived.LaidMore
import Derived.OpenShut
import Derived.Stop.Joined
import Derived.ShutString
import Derived.ChangeOld
import Derived.Below
import Derived.Carry
import Derived.Test.YtnhefdmnpoaegaaGreatDoorDoorB
import Derived.Test.YtnhefdmnpoaegaaGreatDoorImplL08e
import Derived.Test.YtnhefdmnpoaegaaGreatDoorImplTn
import Derived.Test.YtnhefdmnpoaegaaGreatDoorDrawL08
import Derived.Test.YtnhefdmnpoaegaaGreatDoorMathL08t
import Derived.Test.YtnhefdmnpoaegaaGreatDoorLawL08b
import Derived.Test.YtnhefdmnpoaegaaGreatDoorDoorC
import Derived.Stop.LaidErr
import Derived.Shelf.Vars
namespace Go.Proofs.YtnhefdmnpoaegaaGreatDoor.fnTorn
open Go.ChangeShapes Go.WideShapes Go.ChangeAt Go.RowKit
set_option linter.unusedVariables false

theorem own : ownKnob Tryz.prog.godebug = none := by kernel_rfl
theorem laidOut : laidOutB Tryz.prog = true := by kernel_rfl
def laidL : List (String × DataW Unit) := [("math/bits.deBruijn32tab", Rows.laid_math_bits_deBruijn32tab), ("math/bits.deBruijn64tab", Rows.laid_math_bits_deBruijn64tab), ("internal/strconv.uint64pow10", Rows.laid_internal_strconv_uint64pow10), ("unicode/utf8.acceptRanges", Rows.laid_unicode_utf8_acceptRanges), ("strconv.ErrRange", Rows.laid_strconv_ErrRange), ("strconv.ErrSyntax", Rows.laid_strconv_ErrSyntax), ("unicode/utf8.first", Rows.laid_unicode_utf8_first)]
noncomputable def startW (os : Os) : World := { World.doorLaid Tryz.prog 400 os with heap := (World.doorLaid Tryz.prog 400 os).heap.modify 6 fun | .cells _ t frozen => .cells (Go.Pinned.utf8FirstZ.map fun z : Nat => Value.int .u8 (z : Int)).toArray t frozen | o => o }
theorem door_met (os : Os) (args : Array Value) : laidMetH Tryz.prog laidL ((startW os).forCall (fun _ _ => 0) ⟨#[], args, []⟩).memory :=
  laidMetH_of_parts3 (fuel := 8) (laidMet_of_run' 8 (by kernel_rfl) (by kernel_rfl)) (by kernel_rfl) (by kernel_rfl)
theorem plainL {w : World} (h : laidMetH Tryz.prog laidL w) : laidMet Tryz.prog laidL w := by
  rw [MakeChecks.laidMetH_plain _ _ _ (by kernel_rfl)] at h
  exact h
theorem pow_of {w : World} (h : laidMet Tryz.prog laidL w) : Pow10 w :=
  Lib.tabIs_of_head (g := 1) (t := 114) (e := 104) (n := 20) (by kernel_rfl) (by kernel_rfl) Tryz.underlying114 Tryz.underlying104 (by kernel_rfl) (by kernel_rfl) (laidMet.tail (laidMet.tail h))
theorem star : "*" ++ "errors.errorString" = "*errors.errorString" := by decide
theorem row_err (u : TypeId) (h : Tryz.prog.typeName? 3 u = some "*errors.errorString") : u = 144 :=
  typeName_ptr_named (nm := "errors.errorString") (by rw [star]; kernel_rfl) (by kernel_rfl) (by decide) u (by rw [star]; exact h)
theorem lib_of {w : World} (h : laidMet Tryz.prog laidL w) (hS : w.ShapedOpen Tryz.prog) : LibV w := by
  have h4 := laidMet.tail (laidMet.tail (laidMet.tail (laidMet.tail h)))
  obtain ⟨a1, s1, v1, -, -, -⟩ := laid_sentinel h4 (g := 3) (ti := 94) (tp := 144) (te := 146) (ts := 9) (by kernel_rfl) (by kernel_rfl) Tryz.underlying94 row_err Tryz.underlying144 Tryz.underlying146 rfl rfl Tryz.underlying9 (by kernel_rfl) (by kernel_rfl)
  obtain ⟨a2, s2, v2, -, -, -⟩ := laid_sentinel (laidMet.tail h4) (g := 2) (ti := 94) (tp := 144) (te := 146) (ts := 9) (by kernel_rfl) (by kernel_rfl) Tryz.underlying94 row_err Tryz.underlying144 Tryz.underlying146 rfl rfl Tryz.underlying9 (by kernel_rfl) (by kernel_rfl)
  exact ⟨⟨_, _, v2⟩, ⟨_, _, v1⟩, cell_of_shapedOpen_int (P := Tryz.prog) (g := 0) (t := 3) (zero := #[.int .i64 0]) hS (of_decide_eq_true (by kernel_rfl)) (by kernel_rfl) rfl (by kernel_rfl) (by kernel_rfl) Tryz.underlying3⟩
attribute [local go_sem] str_list str_size str_add lit_list0 add_lit lit_add str_cut
theorem take_len (s : List UInt8) (n : Nat) : s.take (s.take n).length = s.take n := by
  rw [List.length_take]
  by_cases h : n ≤ s.length
  · rw [Nat.min_eq_left h]
  · rw [Nat.min_eq_right (by omega), List.take_of_length_le (Nat.le_refl _), List.take_of_length_le (by omega)]
theorem torn_pos {s : List UInt8} {k : Int} (h : ¬ k < 0) : tornT s k = s.take k.toNat := by simp [tornT, h]
theorem torn_neg {s : List UInt8} {k : Int} (h : k < 0) : tornT s k = [] := by simp [tornT, h]
theorem torn_split {s : List UInt8} {k : Int} (h : ¬ k < 0) : ∃ F : List PZ, entsT (tornT s k) = F ∧ F.length ≤ (entsT s).length ∧ (∀ i (h1 : i < F.length) (h2 : i < (entsT s).length), F[i] = (entsT s)[i]) ∧ ∀ i, i < (entsT s).length → (i < F.length ↔ usedN (entsT s) (i + 1) ≤ (tornT s k).length) := by
  obtain ⟨m, h1, h2, h3⟩ := ents_torn s k.toNat
  rw [torn_pos h, h2]
  have hl : ((entsT s).take m).length = m := by simp; omega
  refine ⟨_, rfl, by omega, fun i a b => by simp, fun i hi => ?_⟩
  rw [hl, h3 i hi]; simp
theorem show_frame {s : List UInt8} {p : PZ} (h : p ∈ entsT s) : framedZ (showZ p) = frameT p.text := by
  have hok := ents_ok s p h
  rw [showZ_yes hok, framedZ_yes (text_plain hok)]
theorem show_len {s : List UInt8} {p : PZ} (h : p ∈ entsT s) : (showZ p).length ≤ 100 := by
  have hok := ents_ok s p h
  rw [showZ_yes hok]; exact plain_len (text_plain hok)

set_option maxRecDepth 100000 in
set_option maxHeartbeats 4000000 in
theorem walk (w : World) (HL : Hid (laidMet Tryz.prog laidL w)) (hS : w.ShapedOpen Tryz.prog) (a0 : Option Addr) (n0 c0 : Nat) (z0 : List Int) (w0 : IsRow w a0 n0 c0 z0) :
    Calls Tryz.prog 4 #[.slice a0 n0 c0] w fun e w' => e = .returned (.bool true) ∧ Below w.heap.size w w' := by
  have HTb := Lib.hid (pow_of HL.out)
  have HLv := Lib.hid (lib_of HL.out hS)
  clear HL hS
  by_cases hb : 4096 < n0
  · go_enter Tryz.func4, Tryz.ntmps4
    go_wp2_with fail
    go_fit (big_yes _ _ _ _ hb)
    rintro e w' ⟨rfl, rfl⟩
    go_wp2_with fail
    go_ret
    exact ⟨rfl, Below.refl _ _⟩
  have hR := codeAt_of w0 (by omega)
  clear w0
  go_enter Tryz.func4, Tryz.ntmps4
  go_wp2_with fail
  go_fit (big_no _ _ _ _ (by omega))
  rintro e w' ⟨rfl, rfl⟩
  go_wp2_with fail
  go_fit (drawTorn_any _ _ _ _ hR)
  rintro e w1 ⟨s, k, rfl, hs, hk0, hk1, g1⟩
  go_wp2_with fail
  go_fit (implTorn_any s k _ (by omega) ⟨by omega, by omega⟩)
  rintro e w2 ⟨rfl, b2⟩
  have G2 := gtrans g1 (below_grown b2)
  clear g1 b2
  go_wp2_with fail
  go_fit (specTorn_any s k _ (by omega))
  rintro e w' ⟨rfl, rfl⟩
  by_cases hneg : k < 0
  · have HX := torn_neg (s := s) hneg
    rw [HX]
    go_wp2_with fail
    go_ret
    exact ⟨rfl, gbelow G2⟩
  have HX := Lib.hid (torn_pos (s := s) hneg)
  have HTs := Lib.hid (torn_split (s := s) hneg)
  have hxl : (tornT s k).length ≤ 2100 := by rw [HX.out]; simp; omega
  have hxle : (tornT s k).length ≤ s.length := by rw [HX.out]; simp; omega
  have HXt : Hid (s.take (tornT s k).length = tornT s k) := by
    show _ = _
    rw [HX.out]
    exact take_len s _
  have HXs : Hid (tornT s k = s ∨ ((tornT s k == s) = false ∧ ((tornT s k).length : Int) = k)) := by
    by_cases h : tornT s k = s
    · exact .inl h
    · refine .inr ⟨by simpa using h, ?_⟩
      rw [HX.out] at h ⊢
      have : k.toNat < s.length := by
        apply Classical.byContradiction; intro hn
        exact h (List.take_of_length_le (by omega))
      simp; omega
  clear HX
  generalize tornT s k = x at *
  have hxlei : (x.length : Int) ≤ s.length := by omega
  go_upto_region 9 with (fail)
  go_cut [45] (fun c wc => c = .bool false ∧ wc = w2)
  case first =>
    have hxt := HXt.out
    rcases HXs.out with rfl | ⟨e1, e2⟩
    · go_wp2_with fail
      go_meet
      exact ⟨rfl, rfl⟩
    · have e3 : ((x.length : Int) != k) = false := by simp [e2]
      clear e2
      go_wp2_with fail
      go_meet
      exact ⟨rfl, rfl⟩
  case rest =>
    obtain ⟨rfl, rfl⟩ := hcut
    clear HXt HXs hxlei
    go_wp2_with fail
    go_fit (implEntries_any s _ (by omega) (HTb.out.kept G2) (HLv.out.kept G2))
    rintro e w3 ⟨v3, raw3, rfl, O3, g3⟩
    have G3 := gtrans G2 g3
    go_wp2_with fail
    go_fit (implEntries_any x _ (by omega) (HTb.out.kept G3) (HLv.out.kept G3))
    rintro e w4 ⟨v4, raw4, rfl, O4, g4⟩
    have G4 := gtrans G3 g4
    replace O3 := O3.grew g4
    have L3 := O3.lp
    have L4 := O4.lp
    obtain ⟨F, hF, hFl, HF, HU⟩ := HTs.out
    rw [hF] at L4
    have HFr : Hid (∀ p ∈ entsT s, framedZ (showZ p) = frameT p.text ∧ (showZ p).length ≤ 100) := fun p hp => ⟨show_frame hp, show_len hp⟩
    have HUs : Hid (∀ i, usedN (entsT s) i ≤ 2100) := fun i => by have := used_front s i; omega
    clear O3 O4 g3 g4 G2 G3 HTs hF
    generalize entsT s = E at *
    have HFe := Lib.hid HF
    have HUe := Lib.hid HU
    clear HF HU
    obtain ⟨a3, c3, rfl, hm3⟩ := L3.form
    obtain ⟨a4, c4, rfl, -⟩ := L4.form
    have hgt : ¬ (E.length : Int) < F.length := by omega
    have hgtn : ¬ E.length < F.length := by omega
    have HZ := Lib.hid (usedN_zero E)
    go_wp2_with fail
    go_loopw [8, 9] (fun u i wr => ∃ j : Nat, j ≤ E.length ∧ i = .int .i64 j ∧ u = .int .i64 (usedN E j) ∧ w4.grownBy wr none) (fun _ i _ => E.length - (intOf i).toNat)
    case atStart => exact ⟨0, Nat.zero_le _, rfl, by rw [HZ.out]; rfl, grefl _⟩
    case round =>
      obtain ⟨j, hj, rfl, rfl, G⟩ := hrel
      by_cases hlt : j < E.length
      rotate_left
      · obtain rfl : j = E.length := by omega
        go_wp2_with fail
        go_ret
        exact ⟨rfl, gbelow (gtrans G4 G)⟩
      have hji : (j : Int) < E.length := by omega
      obtain ⟨g, o, da, dm, dc, va, vm, vc, rfl, x0, x1, x2, I1, I2⟩ := (L3.kept G).at j hlt
      obtain ⟨hfr, hsl⟩ := HFr.out E[j] (List.getElem_mem hlt)
      have hus := HUs.out j
      have hus1 := HUs.out (j + 1)
      have HN := Lib.hid (usedN_next hlt)
      have HI := Lib.hid (HUe.out j hlt)
      go_wp2_with fail
      go_fit (specShowPatch_any E[j] _ _ _ I1 I2)
      rintro e w5 ⟨rfl, g5⟩
      go_wp2_with fail
      go_fit (specFramed_any (showZ E[j]) _ (by omega))
      rintro e w6 ⟨rfl, g6⟩
      rw [hfr]
      have hun : ((usedN E (j + 1) : Nat) : Int) = (usedN E j : Int) + ((frameT E[j].text).length : Int) := by rw [HN.out]; omega
      have hfl : (frameT E[j].text).length ≤ 2100 := by have := HN.out; omega
      generalize frameT E[j].text = Fr at *
      have g56 := gtrans g5 g6
      have G6 := gtrans G g56
      have y0 := gkc g56 x0
      have y1 := gkc g56 x1
      have y2 := gkc g56 x2
      have I1' := I1.kept g56
      have I2' := I2.kept g56
      clear x0 x1 x2 I1 I2 g5 g6 g56 hfr
      by_cases hjF : j < F.length
      · have hjFi : (j : Int) < F.length := by omega
        have hle : (usedN E j : Int) + (Fr.length : Int) ≤ x.length := by have := HI.out.1 hjF; omega
        obtain ⟨g', o', ea, em, ec, fa, fm, fc, rfl, z0', z1', z2', J1, J2⟩ := (L4.kept G6).at j hjF
        rw [HFe.out j hjF hlt] at z0' J1 J2
        go_wp2_with fail
        refine region_calm (fun w' => (w'.cell? ⟨g, o + j * 3, none⟩ = some (.int .i64 E[j].row) ∧ w'.cell? ⟨g, o + j * 3 + 1, none⟩ = some (.slice da dm dc) ∧ w'.cell? ⟨g, o + j * 3 + 2, none⟩ = some (.slice va vm vc)) ∧ (w'.cell? ⟨g', o' + j * 3, none⟩ = some (.int .i64 E[j].row) ∧ w'.cell? ⟨g', o' + j * 3 + 1, none⟩ = some (.slice ea em ec) ∧ w'.cell? ⟨g', o' + j * 3 + 2, none⟩ = some (.slice fa fm fc)) ∧ w6.grownBy w' none) (by kernel_rfl) (by kernel_rfl) (⟨⟨y0, y1, y2⟩, ⟨z0', z1', z2'⟩, gdrew (grefl _) 1⟩) ?_
        repeat (first
          | (refine calm_skip (by rfl) ?_; simp only [Act.put, List.setIfInBounds_toArray, List.set_cons_zero, List.set_cons_succ])
          | (refine calm_step (by rfl) ?_
             apply Exists.intro
             refine ⟨fun w' hw' => ?_, ?_⟩
             · go_simp
               first | done | exact rfl | (go_at_call 15; go_fit (likePatch_yes E[j] _ _ _ _ _ (J1.kept hw'.2.2) (J2.kept hw'.2.2) (I1'.kept hw'.2.2) (I2'.kept hw'.2.2)); rintro e w8 ⟨rfl, g8⟩; exact And.intro rfl (And.intro (And.intro (gkc g8 hw'.1.1) (And.intro (gkc g8 hw'.1.2.1) (gkc g8 hw'.1.2.2))) (And.intro (And.intro (gkc g8 hw'.2.1.1) (And.intro (gkc g8 hw'.2.1.2.1) (gkc g8 hw'.2.1.2.2))) (gtrans hw'.2.2 g8))))
             simp only [Act.put, List.setIfInBounds_toArray, List.set_cons_zero, List.set_cons_succ]))
        refine calm_nil ?_
        intro w9 hw9
        go_wp2_with fail
        go_roundw
        case rel => exact ⟨j + 1, by omega, by go_num, by rw [hun], gtrans G6 hw9.2.2⟩
        case measure => simp [intOf]; omega
      · have hjFi : ¬ (j : Int) < F.length := by omega
        have hle : ¬ (usedN E j : Int) + (Fr.length : Int) ≤ x.length := by
          intro h
          exact hjF (HI.out.2 (by omega))
        go_wp2_with fail
        have hjb : decide ((j : Int) < F.length) = false := decide_eq_false (by omega)
        have hlb : decide ((usedN E j : Int) + (Fr.length : Int) ≤ x.length) = false := decide_eq_false (by omega)
        refine region_calm (fun w' => w6.grownBy w' none) (by kernel_rfl) (by kernel_rfl) (gdrew (grefl _) 1) ?_
        repeat (first
          | (refine calm_skip (by rfl) ?_; simp only [Act.put, List.setIfInBounds_toArray, List.set_cons_zero, List.set_cons_succ])
          | (refine calm_step (by rfl) ?_
             apply Exists.intro
             refine ⟨fun w' hw' => ?_, ?_⟩
             · go_simp
               first | done | exact rfl | (fail)
             simp only [Act.put, List.setIfInBounds_toArray, List.set_cons_zero, List.set_cons_succ]))
        refine calm_nil ?_
        intro w9 hw9
        go_wp2_with fail
        go_roundw
        case rel => exact ⟨j + 1, by omega, by go_num, by rw [hun], gtrans G6 hw9⟩
        case measure => simp [intOf]; omega

set_option maxRecDepth 100000 in
theorem lifted (os : Os) (started : os.Started) (H : Type) (enc : TypeId × Value → H) :
    ReturnsInHanded {} Tryz.checked os 4 .any (fun w args => (Rows.fnTornSpec.pre enc Tryz.prog Tryz.f4 [] false w args ∧ laidMetH Tryz.prog laidL w) ∧ sizedMet enc Tryz.prog Tryz.f4 (OpenSpec.ofChange Rows.fnTornSpec) false w args)
      (Rows.fnTornSpec.post enc Tryz.prog Tryz.f4 false true false false) := by
  refine handed_laid_shaped (C := Tryz.checked) (X := fun w _ => laidMetH Tryz.prog laidL w) (fun _ _ _ hh h => h.of_heap hh) own started (by kernel_rfl) Tryz.func4
    (ChangeSpec.witness_shaped (enc := enc) (C := Tryz.checked) (os := os) (X := fun w _ => laidMetH Tryz.prog laidL w) false (startW os) #[.slice none 0 0] 8 rfl (World.shaped_of_RefB (by kernel_rfl) (by kernel_rfl)) (by kernel_rfl) (by kernel_rfl) (by kernel_rfl) (door_met os _)) ?_
  intro W base args ds gs before hval0 hW hL hS
  have hval : ∀ (j : Nat) t v, Tryz.f4.params[j]? = some t → args[j]? = some v → Value.okWide Tryz.prog W .any base t v := hval0
  have hW' := hW
  obtain ⟨p, q, hA0, hV, rfl, hfz, hnd⟩ := hW
  have hA : DataW.TrodAll enc Tryz.prog W 0 (fun _ => true) true Tryz.f4.params.toList args.toList ds p := hA0
  rw [Tryz.params4] at hA hval
  obtain ⟨x0, vs0, d0, ds0, p0, q0, hargs, rfl, rfl, h0, r0⟩ := trodAll_cons hA
  obtain ⟨rfl, rfl, rfl⟩ := trodAll_nil r0
  obtain rfl : args = #[x0] := by cases args; simp_all
  obtain ⟨rfl, rfl⟩ := trodVars_none hV
  have k0 := h0
  have lt0 : ∀ x ∈ p0, x.block < W.heap.size := by obtain ⟨m, hm⟩ := k0; exact DataW.trod_lt m _ _ _ hm
  obtain ⟨a0, n0, c0, z0, rfl, w0⟩ := openCode (hval 0 22 x0 rfl rfl) h0
  clear hA0 hval0
  refine (walk W (plainL hL) hS a0 n0 c0 z0 w0).mono fun e W' ⟨he, bel⟩ => ?_
  subst he
  exact ⟨_, rfl, _, _, _, [], _, [], hW', trodAll_mk1 (shut_bool Tryz.underlying4 _), (trodAll_cons_mk (Below.trod laidOut (by kernel_rfl) (of_decide_eq_true (by kernel_rfl)) k0 bel lt0) trodAll_mk0), rfl, bel.frame _, fun h => by cases h⟩

theorem over : Rows.FnTornSaid :=
  OpenClaim.holds_of_wide 4 Tryz.f4 rfl rfl rfl rfl rfl rfl rfl ⟨rfl, rfl, rfl, rfl, rfl⟩ rfl rfl rfl rfl rfl (by kernel_rfl) Tryz.func4 (by kernel_rfl)
    (of_decide_eq_true (by kernel_rfl)) (by unfold Func.isWrapper; first | (rw [if_pos (by decide +kernel)]; kernel_rfl) | (rw [if_neg (by decide +kernel)]; exact ⟨rfl, rfl⟩))
    (fun os started H enc _ => lifted os started H enc)

theorem proved : Rows.FnTornCardSaid :=
  Claim7.holds_tied_plain_at .later [] [.data, .data, .data, .data, .sentinel, .sentinel, .pinned] true (true, "a4a78367e2152a471e1179d6eeec66d55073ccc80079b341fa84d8d1e37dc83f") true
    over (fun _ h => by cases h) (by kernel_rfl) (fun _ h => by cases h) fnTorn_row_tie rfl ⟨rfl, rfl⟩ (by kernel_rfl) rfl
    (fun f fn hf hfn => by
      obtain rfl : f = 4 := Option.some.inj ((show Tryz.prog.funcNamed "loop.example/g00406/laws.FnTorn" = some 4 by kernel_rfl).symm.trans hf) |>.symm
      obtain rfl : fn = Tryz.f4 := (Option.some.inj (Tryz.func4.symm.trans hfn)).symm
      exact ⟨by kernel_rfl, fun j t ht => by
        rw [Tryz.params4] at ht
        have hm : t ∈ [22] := by
          have := List.mem_of_getElem? (l := [22]) (i := j) (a := t) (by simpa using ht)
          exact this
        simp only [List.mem_cons, List.mem_nil_iff, or_false] at hm
        rcases hm with rfl
        · exact (show Tryz.prog.wantsStandIn 22 = false by kernel_rfl)⟩)
    (by kernel_rfl)
#print axioms proved
end Go.Proofs.YtnhefdmnpoaegaaGreatDoor.fnTorn
