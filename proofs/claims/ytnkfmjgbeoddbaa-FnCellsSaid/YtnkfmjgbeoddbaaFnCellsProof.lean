/-
  Proved: for every input the law FnCells returns true and leaves its argument as it was; no condition. (The frame is the kit's skeleton.)
-/
import Derived.Test.YtnkfmjgbeoddbaaRows
import Derived.WalkKit
import Derived.ProofKit
import Derived.OpenShut
import Derived.ShutString
import Derived.ChangeOld
import Derived.Below
import Derived.Test.YtnkfmjgbeoddbaaSpecL02
import Derived.Test.YtnkfmjgbeoddbaaDrawL02
import Derived.Test.YtnkfmjgbeoddbaaMem
import Derived.Deep.RegionHeld3
namespace Go.Proofs.Ytnkfmjgbeoddbaa.fnCells
open Go.ChangeShapes Go.WideShapes Go.ChangeAt Go.RowKit
open Go.ChangeMaps (open_string shut_string)
set_option linter.unusedVariables false

theorem own : ownKnob Try.prog.godebug = none := by kernel_rfl
theorem laidOut : laidOutB Try.prog = true := by kernel_rfl

/-- WHAT THE WALK IS TOLD OF A SLICE OF INTEGERS THAT CAME IN: it is nil; or it leads to a row of 'cap' cells, the numbers 'zs' (the first 'len' are its elements, the rest its spare room), each fitting its kind. -/
def IsRow (k : IntKind) (w : World) (a : Option Addr) (len cap : Nat) (zs : List Int) : Prop :=
  (a = none ∧ len = 0 ∧ cap = 0 ∧ zs = []) ∨
  ∃ x, a = some x ∧ len ≤ cap ∧ cap ≤ maxLen ∧ zs.length = cap ∧ (∀ i, i < zs.length → w.cell? (x.add i) = some (.int k (zs.getD i 0))) ∧ ∀ n ∈ zs, (Lit.int k n).wf = true

/-- what holds while the first test of the law gathers its operands -/
abbrev FcS (w w' : World) (b1 b2 b3 b4 : Nat) (v1 s1 v2 s2 v3 s3 v4 s4 : Int) : Prop := TwoR w' b1 v1 s1 ∧ TwoR w' b2 v2 s2 ∧ TwoR w' b3 v3 s3 ∧ TwoR w' b4 v4 s4 ∧ w.grownBy w' none
theorem FcS.kept {w w' w2 : World} {b1 b2 b3 b4 : Nat} {v1 s1 v2 s2 v3 s3 v4 s4 : Int} (h : FcS w w' b1 b2 b3 b4 v1 s1 v2 s2 v3 s3 v4 s4) (hg : w'.grownBy w2 none) : FcS w w2 b1 b2 b3 b4 v1 s1 v2 s2 v3 s3 v4 s4 :=
  ⟨h.1.kept hg, h.2.1.kept hg, h.2.2.1.kept hg, h.2.2.2.1.kept hg, gtrans h.2.2.2.2 hg⟩
theorem FcS.drew {w w' : World} {b1 b2 b3 b4 : Nat} {v1 s1 v2 s2 v3 s3 v4 s4 : Int} (h : FcS w w' b1 b2 b3 b4 v1 s1 v2 s2 v3 s3 v4 s4) : FcS w w'.drew b1 b2 b3 b4 v1 s1 v2 s2 v3 s3 v4 s4 :=
  ⟨h.1, h.2.1, h.2.2.1, h.2.2.2.1, gdrew h.2.2.2.2 1⟩

/-! ### STEP 1: THE WALK: the Go text returns true, AND WRITES NOTHING THAT WAS THERE: 'Below w.heap.size w w'' (Derived/Below.lean: '.refl', '.alloc', '.drew', '.setCell' at a new block, '.trans'). Open each 'IsRow' by 'rcases' AHEAD of 'go_enter'; part every test ahead of the walk. -/
set_option maxRecDepth 100000 in
set_option maxHeartbeats 4000000 in
theorem walk (a0 : Option Addr) (len0 cap0 : Nat) (z0 : List Int) (w : World) (w0 : IsRow .u8 w a0 len0 cap0 z0) :
    Calls Try.prog 3 #[.slice a0 len0 cap0] w fun e w' => e = .returned (.bool true) ∧ Below w.heap.size w w' := by
  by_cases hb : 4096 < len0
  · go_enter Try.func3, Try.ntmps3
    go_wp2_with fail
    refine (big_yes _ _ _ _ hb).mono ?_
    rintro e w' ⟨rfl, rfl⟩
    go_wp2_with fail
    go_ret
    exact ⟨rfl, Below.refl _ _⟩
  have hR := codeAt_of w0 (by omega)
  clear w0
  go_enter Try.func3, Try.ntmps3
  go_wp2_with fail
  refine (big_no _ _ _ _ (by omega)).mono ?_
  rintro e w' ⟨rfl, rfl⟩
  go_wp2_with fail
  refine (drawCellOf_any _ _ _ _ hR).mono ?_
  rintro e w1 ⟨d, p, v, hd, hp, hv, rfl, g1⟩
  go_wp2_with fail
  refine (implCellOf_any _ _ _ _).mono ?_
  rintro e w2 ⟨rfl, g2⟩
  have t1 := Two.new w2 (cofV d p v) (cofS d p v) 27
  have G1 := galloc (gtrans g1 g2) (.cells #[.int .i64 (cofV d p v), .int .i64 (cofS d p v)] 27)
  clear g1 g2
  go_wp2_with fail
  refine (drawGood_any _ _ _ _ (hR.kept (gbelow G1))).mono ?_
  rintro e w3 ⟨x, y, e', q, bx, bY, be, bq, rfl, g3⟩
  have t2 := Two.new w3 x y 27
  have g3' := galloc g3 (.cells #[.int .i64 x, .int .i64 y] 27)
  have t1 := t1.kept g3'
  have G2 := gtrans G1 g3'
  clear G1 g3 g3'
  go_wp2_with fail
  refine (drawRotten_any _ _ _ _ (hR.kept (gbelow G2))).mono ?_
  rintro e w4 ⟨rv, rs, n, brv, brs, bn, rfl, g4⟩
  have t3 := Two.new w4 rv rs 27
  have g4' := galloc g4 (.cells #[.int .i64 rv, .int .i64 rs] 27)
  have t1 := t1.kept g4'
  have t2 := t2.kept g4'
  have G3 := gtrans G2 g4'
  clear G2 g4 g4'
  go_wp2_with fail
  refine (implRotten_any _ _ _ _).mono ?_
  rintro e w5 ⟨rfl, g5⟩
  have t4 := Two.new w5 (rotV rv rs n) (rotS rv rs) 27
  have g5' := galloc g5 (.cells #[.int .i64 (rotV rv rs n), .int .i64 (rotS rv rs)] 27)
  have t1 := t1.kept g5'
  have t2 := t2.kept g5'
  have t3 := t3.kept g5'
  have G4 := gtrans G3 g5'
  clear G3 g5 g5'
  have S0 : FcS w _ _ _ _ _ _ _ _ _ _ _ _ _ := ⟨t1.r, t2.r, t3.r, t4.r, G4⟩
  clear t1 t2 t3 t4 G4
  go_wp2_with fail
  generalize w5.alloc (.cells #[.int .i64 (rotV rv rs n), .int .i64 (rotS rv rs)] 27) = W at *
  generalize w5.heap.size = b4 at *
  generalize w4.heap.size = b3 at *
  generalize w3.heap.size = b2 at *
  generalize w2.heap.size = b1 at *
  go_region_held3 (fun w' => FcS w w' b1 b2 b3 b4 (cofV d p v) (cofS d p v) x y rv rs (rotV rv rs n) (rotS rv rs)) (first | assumption | exact S0.drew | exact FcS.kept ‹FcS w _ b1 b2 b3 b4 _ _ _ _ _ _ _ _› ‹World.grownBy _ _ none›)
    (first | (go_at_call 12; refine (specCellOf_any _ _ _ _).mono ?_; rintro e w8 ⟨rfl, g8⟩) | (go_at_call 13; refine (implGood_any _ _ _ _ _).mono ?_; rintro e w8 ⟨rfl, g8⟩) | (go_at_call 14; refine (specGood_any _ _ _ _ _).mono ?_; rintro e w8 ⟨rfl, g8⟩) | (go_at_call 15; refine (specRotten_any _ _ _ _).mono ?_; rintro e w8 ⟨rfl, g8⟩) | (go_at_call 16; refine (implCellOk_any _ _ _).mono ?_; rintro e w8 ⟨rfl, g8⟩) | (go_at_call 17; refine (specCellOk_any _ _ _).mono ?_; rintro e w8 ⟨rfl, g8⟩))
  clear S0
  have S1 := ‹FcS w _ b1 b2 b3 b4 _ _ _ _ _ _ _ _›
  obtain ⟨⟨A0, A1⟩, -, ⟨C0, C1⟩, ⟨D0, D1⟩, G⟩ := S1
  clear t1 t2 t3
  cases hok : cellOkZ rv rs
  · go_wp2_with fail
    refine (specCellOk_any _ _ _).mono ?_
    rintro e w9 ⟨rfl, g9⟩
    have a0' := gkc g9 A0
    have a1' := gkc g9 A1
    have G9 := gtrans G g9
    clear A0 A1 C0 C1 D0 D1 G g9
    rw [hok]
    go_wp2_with fail
    refine (specSumOf_any _ _ _ _).mono ?_
    rintro e w' ⟨rfl, rfl⟩
    by_cases hneg : sumZ d p v < 0
    · rw [show cofV d p v = 0 by simp [cofV, hneg]] at a0'
      rw [show cofS d p v = 0 by simp [cofS, hneg]] at a1'
      go_wp2_with fail
      go_ret
      exact ⟨rfl, gbelow G9⟩
    · obtain ⟨e1, e2, e3, e4⟩ := cof_good hneg
      rw [e1] at a0'
      rw [e2] at a1'
      have E3 := Lib.hid e3
      have E4 := Lib.hid e4
      clear e1 e2 e3 e4
      go_wp2_with fail
      refine (pick_any _ _ _ _ _ _ (hR.kept (gbelow G9)) (by omega) (by omega) (by omega) (by omega)).mono ?_
      rintro e w' ⟨m, hm0, hm1, rfl, rfl⟩
      go_wp2_with fail
      refine (implGood_any _ _ _ _ _).mono ?_
      rintro e w10 ⟨rfl, g10⟩
      rw [E3.out]
      have b0' := gkc g10 a0'
      have b1' := gkc g10 a1'
      clear a0' a1'
      go_wp2_with fail
      refine (implRotten_any _ _ _ _).mono ?_
      rintro e w11 ⟨rfl, g11⟩
      go_wp2_with fail
      refine (implGood_any _ _ _ _ _).mono ?_
      rintro e w12 ⟨rfl, g12⟩
      rw [E4.out _ (by omega) (by omega)]
      go_wp2_with fail
      go_ret
      exact ⟨rfl, gbelow (gtrans G9 (gtrans g10 (gtrans g11 g12)))⟩
  have hrs := rotS_ok hok
  have hro := rot_ok (n := n) hok
  rw [hrs] at D1 hro
  by_cases n1 : n < 1
  · rw [rot_out hok (.inl n1)] at D0
    clear hrs hro
    go_wp2_with fail
    refine (specCellOk_any _ _ _).mono ?_
    rintro e w6 ⟨rfl, g6⟩
    have a0' := gkc g6 A0
    have a1' := gkc g6 A1
    have C0 := gkc g6 C0
    have C1 := gkc g6 C1
    have D0 := gkc g6 D0
    have D1 := gkc g6 D1
    have G6 := gtrans G g6
    clear A0 A1 G g6
    rw [hok]
    go_wp2_with fail
    refine (implCellOk_any _ _ _).mono ?_
    rintro e w9 ⟨rfl, g9⟩
    have a0' := gkc g9 a0'
    have a1' := gkc g9 a1'
    have C0 := gkc g9 C0
    have C1 := gkc g9 C1
    have D0 := gkc g9 D0
    have D1 := gkc g9 D1
    have G9 := gtrans G6 g9
    clear G6 g9
    rw [hok]
    go_wp2_with fail
    refine (specSumOf_any _ _ _ _).mono ?_
    rintro e w' ⟨rfl, rfl⟩
    by_cases hneg : sumZ d p v < 0
    · rw [show cofV d p v = 0 by simp [cofV, hneg]] at a0'
      rw [show cofS d p v = 0 by simp [cofS, hneg]] at a1'
      go_wp2_with fail
      go_ret
      exact ⟨rfl, gbelow G9⟩
    · obtain ⟨e1, e2, e3, e4⟩ := cof_good hneg
      rw [e1] at a0'
      rw [e2] at a1'
      have E3 := Lib.hid e3
      have E4 := Lib.hid e4
      clear e1 e2 e3 e4
      go_wp2_with fail
      refine (pick_any _ _ _ _ _ _ (hR.kept (gbelow G9)) (by omega) (by omega) (by omega) (by omega)).mono ?_
      rintro e w' ⟨m, hm0, hm1, rfl, rfl⟩
      go_wp2_with fail
      refine (implGood_any _ _ _ _ _).mono ?_
      rintro e w10 ⟨rfl, g10⟩
      rw [E3.out]
      have b0' := gkc g10 a0'
      have b1' := gkc g10 a1'
      clear a0' a1'
      go_wp2_with fail
      refine (implRotten_any _ _ _ _).mono ?_
      rintro e w11 ⟨rfl, g11⟩
      go_wp2_with fail
      refine (implGood_any _ _ _ _ _).mono ?_
      rintro e w12 ⟨rfl, g12⟩
      rw [E4.out _ (by omega) (by omega)]
      go_wp2_with fail
      go_ret
      exact ⟨rfl, gbelow (gtrans G9 (gtrans g10 (gtrans g11 g12)))⟩
  by_cases n2 : 32767 < n
  · rw [rot_out hok (.inr n2)] at D0
    clear hrs hro
    go_wp2_with fail
    refine (specCellOk_any _ _ _).mono ?_
    rintro e w6 ⟨rfl, g6⟩
    have a0' := gkc g6 A0
    have a1' := gkc g6 A1
    have C0 := gkc g6 C0
    have C1 := gkc g6 C1
    have D0 := gkc g6 D0
    have D1 := gkc g6 D1
    have G6 := gtrans G g6
    clear A0 A1 G g6
    rw [hok]
    go_wp2_with fail
    refine (implCellOk_any _ _ _).mono ?_
    rintro e w9 ⟨rfl, g9⟩
    have a0' := gkc g9 a0'
    have a1' := gkc g9 a1'
    have C0 := gkc g9 C0
    have C1 := gkc g9 C1
    have D0 := gkc g9 D0
    have D1 := gkc g9 D1
    have G9 := gtrans G6 g9
    clear G6 g9
    rw [hok]
    go_wp2_with fail
    refine (specSumOf_any _ _ _ _).mono ?_
    rintro e w' ⟨rfl, rfl⟩
    by_cases hneg : sumZ d p v < 0
    · rw [show cofV d p v = 0 by simp [cofV, hneg]] at a0'
      rw [show cofS d p v = 0 by simp [cofS, hneg]] at a1'
      go_wp2_with fail
      go_ret
      exact ⟨rfl, gbelow G9⟩
    · obtain ⟨e1, e2, e3, e4⟩ := cof_good hneg
      rw [e1] at a0'
      rw [e2] at a1'
      have E3 := Lib.hid e3
      have E4 := Lib.hid e4
      clear e1 e2 e3 e4
      go_wp2_with fail
      refine (pick_any _ _ _ _ _ _ (hR.kept (gbelow G9)) (by omega) (by omega) (by omega) (by omega)).mono ?_
      rintro e w' ⟨m, hm0, hm1, rfl, rfl⟩
      go_wp2_with fail
      refine (implGood_any _ _ _ _ _).mono ?_
      rintro e w10 ⟨rfl, g10⟩
      rw [E3.out]
      have b0' := gkc g10 a0'
      have b1' := gkc g10 a1'
      clear a0' a1'
      go_wp2_with fail
      refine (implRotten_any _ _ _ _).mono ?_
      rintro e w11 ⟨rfl, g11⟩
      go_wp2_with fail
      refine (implGood_any _ _ _ _ _).mono ?_
      rintro e w12 ⟨rfl, g12⟩
      rw [E4.out _ (by omega) (by omega)]
      go_wp2_with fail
      go_ret
      exact ⟨rfl, gbelow (gtrans G9 (gtrans g10 (gtrans g11 g12)))⟩
  · have hne := rot_ne hok (n := n) (by omega) (by omega)
    have hbe : (rotV rv rs n == rv) = false := beq_eq_false_iff_ne.2 hne
    clear hrs hne
    go_wp2_with fail
    refine (specCellOk_any _ _ _).mono ?_
    rintro e w6 ⟨rfl, g6⟩
    have a0' := gkc g6 A0
    have a1' := gkc g6 A1
    have C0 := gkc g6 C0
    have C1 := gkc g6 C1
    have D0 := gkc g6 D0
    have D1 := gkc g6 D1
    have G6 := gtrans G g6
    clear A0 A1 G g6
    rw [hok]
    go_wp2_with fail
    refine (implCellOk_any _ _ _).mono ?_
    rintro e w9 ⟨rfl, g9⟩
    have a0' := gkc g9 a0'
    have a1' := gkc g9 a1'
    have C0 := gkc g9 C0
    have C1 := gkc g9 C1
    have D0 := gkc g9 D0
    have D1 := gkc g9 D1
    have G9 := gtrans G6 g9
    clear G6 g9
    rw [hro]
    go_wp2_with fail
    refine (specSumOf_any _ _ _ _).mono ?_
    rintro e w' ⟨rfl, rfl⟩
    by_cases hneg : sumZ d p v < 0
    · rw [show cofV d p v = 0 by simp [cofV, hneg]] at a0'
      rw [show cofS d p v = 0 by simp [cofS, hneg]] at a1'
      go_wp2_with fail
      go_ret
      exact ⟨rfl, gbelow G9⟩
    · obtain ⟨e1, e2, e3, e4⟩ := cof_good hneg
      rw [e1] at a0'
      rw [e2] at a1'
      have E3 := Lib.hid e3
      have E4 := Lib.hid e4
      clear e1 e2 e3 e4
      go_wp2_with fail
      refine (pick_any _ _ _ _ _ _ (hR.kept (gbelow G9)) (by omega) (by omega) (by omega) (by omega)).mono ?_
      rintro e w' ⟨m, hm0, hm1, rfl, rfl⟩
      go_wp2_with fail
      refine (implGood_any _ _ _ _ _).mono ?_
      rintro e w10 ⟨rfl, g10⟩
      rw [E3.out]
      have b0' := gkc g10 a0'
      have b1' := gkc g10 a1'
      clear a0' a1'
      go_wp2_with fail
      refine (implRotten_any _ _ _ _).mono ?_
      rintro e w11 ⟨rfl, g11⟩
      go_wp2_with fail
      refine (implGood_any _ _ _ _ _).mono ?_
      rintro e w12 ⟨rfl, g12⟩
      rw [E4.out _ (by omega) (by omega)]
      go_wp2_with fail
      go_ret
      exact ⟨rfl, gbelow (gtrans G9 (gtrans g10 (gtrans g11 g12)))⟩

/-! ### THE ROW's STEP: WRITTEN OUT: LEAVE IT -/
set_option maxRecDepth 100000 in
theorem lifted (os : Os) (started : os.Started) (H : Type) (enc : TypeId × Value → H) :
    ReturnsInHanded {} Try.checked os 3 .any (Rows.fnCellsSpec.pre6 enc Try.prog Try.f3 Rows.fnCellsRow.domain false) (Rows.fnCellsSpec.post enc Try.prog Try.f3 false true false false) := by
  refine returnsInHanded_of_change (C := Try.checked) own started (by kernel_rfl) Try.func3
    (ChangeSpec.witness6 (enc := enc) (C := Try.checked) false ⟨#[], #[.slice none 0 0], []⟩ 8 (by kernel_rfl) (by kernel_rfl) (by kernel_rfl) (by kernel_rfl)) ?_
  intro W base args ds gs before hval0 hW hcnd _
  have hval : ∀ (j : Nat) t v, Try.f3.params[j]? = some t → args[j]? = some v → Value.okWide Try.prog W .any base t v := hval0
  have hW' := hW
  obtain ⟨p, q, hA0, hV, rfl, hfz, hnd⟩ := hW
  have hA : DataW.TrodAll enc Try.prog W 0 (fun _ => true) true Try.f3.params.toList args.toList ds p := hA0
  rw [Try.params3] at hA hval
  obtain ⟨v0, vs0, d0, ds0, p0, q0, hargs, rfl, rfl, h0, r0⟩ := trodAll_cons hA
  obtain ⟨rfl, rfl, rfl⟩ := trodAll_nil r0
  obtain rfl : args = #[v0] := by cases args; simp_all
  obtain ⟨rfl, rfl⟩ := trodVars_none hV
  obtain ⟨a0, len0, cap0, rfl⟩ := okWide_slice Try.underlying22 (hval 0 22 v0 rfl rfl)
  have k0 := h0
  have lt0 : ∀ x ∈ p0, x.block < W.heap.size := by obtain ⟨m, hm⟩ := k0; exact DataW.trod_lt m _ _ _ hm
  obtain ⟨z0, w0⟩ : ∃ zs, IsRow .u8 W a0 len0 cap0 zs := by
    obtain ⟨fuel, hf⟩ := h0
    rcases open_ints Try.underlying22 Try.underlying5 (by kernel_rfl) hf with ⟨hcs, _⟩ | ⟨x, l, c, zs, hcs, _, hl, hm, hz, _, hcell, hwz⟩
    · simp [Value.cells] at hcs
      obtain ⟨rfl, rfl, rfl⟩ := hcs
      exact ⟨[], .inl ⟨rfl, rfl, rfl, rfl⟩⟩
    · simp [Value.cells] at hcs
      obtain ⟨rfl, rfl, rfl⟩ := hcs
      exact ⟨zs, .inr ⟨_, rfl, hl, hm, by simpa using hz, hcell, hwz⟩⟩
  clear hA0 hval0
  refine (walk a0 len0 cap0 z0 W w0).mono fun e W' ⟨he, bel⟩ => ?_
  subst he
  exact ⟨_, rfl, _, _, _, [], _, [], hW', trodAll_mk1 (shut_bool Try.underlying4 _), (trodAll_cons_mk (Below.trod laidOut (by kernel_rfl) (of_decide_eq_true (by kernel_rfl)) k0 bel lt0) trodAll_mk0), rfl, bel.frame _, fun h => by cases h⟩

theorem over : Rows.fnCellsRow.holds Try.pinned (OpenSpec.ofChange Rows.fnCellsSpec) :=
  OpenClaim.holds_of_wide 3 Try.f3 rfl rfl rfl rfl rfl rfl rfl ⟨rfl, rfl, rfl, rfl, rfl⟩ rfl rfl rfl rfl rfl (by kernel_rfl) Try.func3 (by kernel_rfl)
    (of_decide_eq_true (by kernel_rfl)) (by unfold Func.isWrapper; first | (rw [if_pos (by decide +kernel)]; kernel_rfl) | (rw [if_neg (by decide +kernel)]; exact ⟨rfl, rfl⟩))
    (fun os started H enc _ => lifted os started H enc)

/-- ████ THE STATEMENT ████ -/
theorem proved : Rows.FnCellsSaid := over
#print axioms proved
end Go.Proofs.Ytnkfmjgbeoddbaa.fnCells
