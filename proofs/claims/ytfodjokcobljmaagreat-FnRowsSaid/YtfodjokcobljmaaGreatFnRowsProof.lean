/-
  Proved: for every input the law FnRows returns true and leaves its argument as it was; no condition. (The frame is the kit's skeleton.)
-/
import Derived.Test.YtfodjokcobljmaaGreatRows
import Derived.WalkKit
import Derived.ProofKit
import Derived.OpenShut
import Derived.ShutString
import Derived.ChangeOld
import Derived.Below
import Derived.Test.YtfodjokcobljmaaGreatSpecL06b
import Derived.Test.YtfodjokcobljmaaGreatRowsA
import Derived.Test.YtfodjokcobljmaaGreatRowsB
import Derived.Test.YtfodjokcobljmaaGreatRowsC
namespace Go.Proofs.YtfodjokcobljmaaGreat.fnRows
open Go.ChangeShapes Go.WideShapes Go.ChangeAt Go.RowKit
open Go.ChangeMaps (open_string shut_string)
set_option linter.unusedVariables false

theorem own : ownKnob Tryz.prog.godebug = none := by kernel_rfl
theorem laidOut : laidOutB Tryz.prog = true := by kernel_rfl

/-- WHAT THE WALK IS TOLD OF A SLICE OF INTEGERS THAT CAME IN: it is nil; or it leads to a row of 'cap' cells, the numbers 'zs' (the first 'len' are its elements, the rest its spare room), each fitting its kind. -/
def IsRow (k : IntKind) (w : World) (a : Option Addr) (len cap : Nat) (zs : List Int) : Prop :=
  (a = none ∧ len = 0 ∧ cap = 0 ∧ zs = []) ∨
  ∃ x, a = some x ∧ len ≤ cap ∧ cap ≤ maxLen ∧ zs.length = cap ∧ (∀ i, i < zs.length → w.cell? (x.add i) = some (.int k (zs.getD i 0))) ∧ ∀ n ∈ zs, (Lit.int k n).wf = true

theorem len_one (n : Nat) : ((n == 1) == ((n : Int) == 1)) = true := by
  by_cases h : n = 1
  · subst h; rfl
  · have h2 : ((n : Int) == 1) = false := beq_eq_false_iff_ne.2 (by omega)
    have h1 : (n == 1) = false := beq_eq_false_iff_ne.2 h
    rw [h1, h2]; rfl
theorem badIn_rises (l : List DZ) (r : Int) : ∀ i (h : i + 1 < (badInZ l r).length), (badInZ l r)[i] < (badInZ l r)[i + 1] := by
  have hp : (badInZ l r).Pairwise (· < ·) := by
    unfold badInZ badZ badL
    split
    · rw [List.pairwise_map]
      exact (List.Pairwise.filter _ (range_sorted _)).imp (fun h => by omega)
    · exact List.Pairwise.nil
  intro i h
  exact List.pairwise_iff_getElem.1 hp i (i + 1) (by omega) h (by omega)
theorem whole_bad {l : List DZ} {r : Int} (h : wholeZ l r = true) : badInZ l r = [] := by
  simp only [wholeZ, wholeRow, allCan, Bool.and_eq_true, List.all_eq_true] at h
  unfold badInZ badZ badL
  rw [if_pos h.1, List.map_eq_nil_iff, List.filter_eq_nil_iff]
  intro i hi
  have hi' : i < l.length := by simpa using hi
  rw [getD_at hi', h.2.1 _ (List.getElem_mem hi')]; simp
theorem bad_mem {l : List DZ} {r : Int} (hz : hasZ l r = true) {i : Nat} (hi : i < l.length) : hasB (badInZ l r) i = !l[i].can r := by
  unfold badInZ badZ badL hasB
  rw [if_pos hz]
  cases hc : l[i].can r
  · rw [List.any_eq_true.2 ⟨(i : Int), List.mem_map.2 ⟨i, List.mem_filter.2 ⟨by simpa using hi, by rw [getD_at hi, hc]; rfl⟩, rfl⟩, by simp⟩]; rfl
  · rw [List.any_eq_false.2 (fun x hx => by
      obtain ⟨j, hj, rfl⟩ := List.mem_map.1 hx
      have := (List.mem_filter.1 hj).2
      intro e
      have e3 : (j : Int) = (i : Int) := by simpa using e
      have e2 : j = i := by omega
      subst e2
      rw [getD_at hi, hc] at this
      cases this)]; rfl
theorem cell_out {l : List DZ} {d r : Int} (h : disksOkZ l = false ∨ r < 0 ∨ (rowsZ l : Int) ≤ r ∨ d < 0 ∨ (l.length : Int) ≤ d) : cellAtOk l d r = false := by
  unfold cellAtOk hasZ
  rcases h with h | h | h | h | h
  · rw [h]; rfl
  · rw [decide_eq_false (show ¬ (0 ≤ r ∧ r < rowsZ l) by omega)]; simp
  · rw [decide_eq_false (show ¬ (0 ≤ r ∧ r < rowsZ l) by omega)]; simp
  · rw [decide_eq_false (show ¬ (0 ≤ d ∧ d < l.length) by omega)]; simp
  · rw [decide_eq_false (show ¬ (0 ≤ d ∧ d < l.length) by omega)]; simp
theorem cell_in {l : List DZ} {i : Nat} {r : Int} (hok : disksOkZ l = true) (h0 : 0 ≤ r) (h1 : r < rowsZ l) (hi : i < l.length) : hasZ l r = true ∧ cellAtOk l i r = (l[i].can r || (badInZ l r).length == 1) ∧ (l[i].can r = true → cellAtV l i r = l[i].readV r) ∧ l[i].canRead r = l[i].can r := by
  have hz : hasZ l r = true := by unfold hasZ; rw [hok, decide_eq_true (by omega)]; rfl
  have hb : badInZ l r = badZ l r := by unfold badInZ; rw [if_pos hz]
  have hc : cellAtOk l i r = (l[i].can r || (badInZ l r).length == 1) := by
    unfold cellAtOk tellOk
    rw [hz, decide_eq_true (by omega), Int.toNat_natCast, getD_at hi, hb]; rfl
  have hdk : l[i].ok = true := by
    simp only [disksOkZ, Bool.and_eq_true, List.all_eq_true] at hok
    have := hok.2.1 i (by simpa using hi)
    rw [getD_at hi] at this
    simp only [DZ.fitsIn, Bool.and_eq_true] at this
    exact this.1
  have hcr : l[i].canRead r = l[i].can r := by unfold DZ.canRead; rw [hdk]; rfl
  refine ⟨hz, hc, fun h => ?_, hcr⟩
  unfold cellAtV
  rw [hc, h, Bool.true_or, if_pos rfl]
  unfold tellV DZ.readV
  rw [Int.toNat_natCast, getD_at hi, h, if_pos rfl, hcr, h, if_pos rfl]
  unfold canV
  rw [h]; rfl

/-! ### STEP 1: THE WALK: the Go text returns true, AND WRITES NOTHING THAT WAS THERE: 'Below w.heap.size w w'' (Derived/Below.lean: '.refl', '.alloc', '.drew', '.setCell' at a new block, '.trans'). Open each 'IsRow' by 'rcases' AHEAD of 'go_enter'; part every test ahead of the walk. -/
set_option maxRecDepth 100000 in
set_option maxHeartbeats 4000000 in
theorem walk (a0 : Option Addr) (len0 cap0 : Nat) (z0 : List Int) (w : World) (w0 : IsRow .u8 w a0 len0 cap0 z0) :
    Calls Tryz.prog 3 #[.slice a0 len0 cap0] w fun e w' => e = .returned (.bool true) ∧ Below w.heap.size w w' := by
  by_cases hb : 4096 < len0
  · go_enter Tryz.func3, Tryz.ntmps3
    go_wp2_with fail
    go_fit (big_yes _ _ _ _ hb)
    rintro e w' ⟨rfl, rfl⟩
    go_wp2_with fail
    go_ret
    exact ⟨rfl, Below.refl _ _⟩
  have hR := codeAt_of w0 (by omega)
  clear w0
  go_enter Tryz.func3, Tryz.ntmps3
  go_wp2_with fail
  go_fit (big_no _ _ _ _ (by omega))
  rintro e w' ⟨rfl, rfl⟩
  go_wp2_with fail
  go_fit (drawCellAt_any _ _ _ _ hR)
  rintro e w1 ⟨l, vl, d, r, rfl, hL, hl5, hd, hr, g1⟩
  obtain ⟨la, lc, rfl, -⟩ := hL.form
  go_wp2_with fail
  go_fit (implCellAt_any _ l d r _ hL)
  rintro e w2 ⟨rfl, g2⟩
  have G2 := gtrans g1 g2
  replace hL := hL.kept g2
  clear g1 g2
  go_wp2_with fail
  go_fit (drawBadIn_any _ _ _ _ (hR.kept (gbelow G2)))
  rintro e w3 ⟨q, vq, row, rfl, hQ, hq5, hrow, g3⟩
  obtain ⟨qa, qc, rfl, -⟩ := hQ.form
  have G3 := gtrans G2 g3
  replace hL := hL.kept g3
  clear G2 g3
  go_wp2_with fail
  go_fit (implBadIn_any _ q row _ hQ)
  rintro e w4 ⟨vb, rfl, B4, g4⟩
  obtain ⟨ba, bc, rfl, -⟩ := Own.form B4
  have G4 := gtrans G3 g4
  replace hL := hL.kept g4
  replace hQ := hQ.kept g4
  clear G3 g4
  have HIn := Lib.hid (fun (i : Nat) (hok : disksOkZ l = true) (h0 : 0 ≤ r) (h1 : r < rowsZ l) (hi : i < l.length) => cell_in (i := i) hok h0 h1 hi)
  have HBm := Lib.hid (fun (hz : hasZ l r = true) (i : Nat) (hi : i < l.length) => bad_mem hz hi)
  have HOut := Lib.hid (fun h => cell_out (l := l) (d := d) (r := r) h)
  go_wp2_with fail
  go_fit (specCellAt_any _ l d r _ hL (by omega))
  rintro e w5 ⟨rfl, g5⟩
  have B5 := Own.grew B4 g5
  have G5 := gtrans G4 g5
  replace hL := hL.kept g5
  replace hQ := hQ.kept g5
  clear G4 g5 B4
  go_wp2_with fail
  go_fit (specBadIn_any _ q row _ hQ (by omega))
  rintro e w6 ⟨vb6, rfl, B6, g6⟩
  go_wp2_with fail
  go_fit (likeInts_yes _ _ _ _ (Own.rd (Own.grew B5 g6)) (Own.rd B6))
  rintro e w7 ⟨rfl, g7⟩
  have g67 := gtrans g6 g7
  have B7 := Own.grew B5 g67
  have G7 := gtrans G5 g67
  replace hL := hL.kept g67
  replace hQ := hQ.kept g67
  clear G5 g6 g7 g67 B5 B6
  go_wp2_with fail
  go_fit (implDisksOk_any _ l _ hL)
  rintro e w8 ⟨rfl, g8⟩
  go_wp2_with fail
  go_fit (specDisksOk_any _ l _ (hL.kept g8))
  rintro e w9 ⟨rfl, g9⟩
  have g89 := gtrans g8 g9
  go_wp2_with fail
  go_fit (implRowsOf_any _ l _ (hL.kept g89))
  rintro e w10 ⟨rfl, g10⟩
  have g810 := gtrans g89 g10
  go_wp2_with fail
  go_fit (specRowsOf_any _ l _ (hL.kept g810))
  rintro e w11 ⟨rfl, g11⟩
  have g811 := gtrans g810 g11
  go_wp2_with fail
  go_fit (implWhole_any _ q row _ (hQ.kept g811))
  rintro e w12 ⟨rfl, g12⟩
  have g812 := gtrans g811 g12
  go_wp2_with fail
  go_fit (specWhole_any _ q row _ (hQ.kept g812))
  rintro e w13 ⟨rfl, g13⟩
  have g813 := gtrans g812 g13
  have B13 := Own.grew B7 g813
  have G13 := gtrans G7 g813
  replace hL := hL.kept g813
  replace hQ := hQ.kept g813
  clear g8 g9 g89 g10 g810 g11 g811 g12 g812 g13 g813 B7 G7
  go_wp2_with fail
  go_fit (rises_yes _ _ _ (Own.rd B13) (badIn_rises q row))
  rintro e w14 ⟨rfl, g14⟩
  have HWb := Lib.hid (fun h => whole_bad (l := q) (r := row) h)
  replace hQ := hQ.kept g14
  replace hL := hL.kept g14
  have G14 := gtrans G13 g14
  clear B13 G13 g14
  go_upto_region 10 with (fail)
  go_cut [97] (fun c wc => c = .bool false ∧ w14.grownBy wc none)
  case first =>
    cases hw : wholeZ q row
    · go_wp2_with fail
      go_fit (implWhole_any _ q row _ hQ)
      rintro e w15 ⟨rfl, g15⟩
      rw [hw]
      go_wp2_with fail
      go_meet
      exact ⟨rfl, g15⟩
    · have hbn : ¬ (0 : Int) < (badInZ q row).length := by rw [HWb.out hw]; simp
      go_wp2_with fail
      go_fit (implWhole_any _ q row _ hQ)
      rintro e w15 ⟨rfl, g15⟩
      rw [hw]
      go_wp2_with fail
      go_meet
      exact ⟨by rw [HWb.out hw]; rfl, g15⟩
  case rest =>
    obtain ⟨rfl, g15⟩ := hcut
    replace hL := hL.kept g15
    have G15 := gtrans G14 g15
    clear hQ G14 g15
    have hneg : ∀ w', w.grownBy w' none → cellAtOk l d r = false → (Ending.returned (.bool (!cellAtOk l d r)) = .returned (.bool true) ∧ Below w.heap.size w w') := fun w' g' e => ⟨by rw [e]; rfl, gbelow g'⟩
    go_wp2_with fail
    go_fit (specDisksOk_any _ l _ hL)
    rintro e w16 ⟨rfl, g16⟩
    replace hL := hL.kept g16
    have G16 := gtrans G15 g16
    clear G15 g16
    cases hok : disksOkZ l
    · have HO := hneg w16 G16 (HOut.out (.inl hok))
      go_wp2_with fail
      go_ret
      exact HO
    have hro : rowsOfZ l = rowsZ l := by unfold rowsOfZ; rw [hok]; rfl
    by_cases hr0 : r < 0
    · have HO := hneg w16 G16 (HOut.out (.inr (.inl hr0)))
      go_wp2_with fail
      go_ret
      exact HO
    go_wp2_with fail
    go_fit (specRowsOf_any _ l _ hL)
    rintro e w17 ⟨rfl, g17⟩
    rw [hro]
    replace hL := hL.kept g17
    have G17 := gtrans G16 g17
    clear G16 g17
    by_cases hr1 : (rowsZ l : Int) ≤ r
    · have HO := hneg w17 G17 (HOut.out (.inr (.inr (.inl hr1))))
      go_wp2_with fail
      go_ret
      exact HO
    by_cases hd0 : d < 0
    · have HO := hneg w17 G17 (HOut.out (.inr (.inr (.inr (.inl hd0)))))
      go_wp2_with fail
      go_ret
      exact HO
    by_cases hd1 : (l.length : Int) ≤ d
    · have HO := hneg w17 G17 (HOut.out (.inr (.inr (.inr (.inr hd1)))))
      go_wp2_with fail
      go_ret
      exact HO
    obtain ⟨i, rfl⟩ := Int.eq_ofNat_of_zero_le (show 0 ≤ d by omega)
    have hi : i < l.length := by omega
    have hii : (i : Int) < l.length := by omega
    obtain ⟨hz, hca, hcv, hcr⟩ := HIn.out i hok (by omega) (by omega) hi
    have hbm := HBm.out hz i hi
    clear HIn HBm HOut hneg
    go_wp2_with fail
    go_fit (implBadIn_any _ l r _ hL)
    rintro e w18 ⟨vb, rfl, B18, g18⟩
    obtain ⟨ba, bc, rfl, -⟩ := Own.form B18
    replace hL := hL.kept g18
    have G18 := gtrans G17 g18
    clear G17 g18
    obtain ⟨g, o, ka, km, kc, na, nm, nc, rfl, x0, x1, x2, x3, D⟩ := hL.at i hi
    go_wp2_with fail
    go_fit (specRead_any _ _ l[i] r _ D)
    rintro e w19 ⟨rfl, g19⟩
    have B19 := Own.grew B18 g19
    have G19 := gtrans G18 g19
    (try rw [hca])
    rw [hcr]
    generalize hbb : badInZ l r = bad at *
    clear hbb hca hcr
    cases hc : l[i].can r
    · rw [hc] at hbm
      go_wp2_with fail
      go_fit (has_any _ bad i _ (Own.rd B19))
      rintro e w' ⟨rfl, rfl⟩
      rw [hbm]
      go_wp2_with fail
      go_ret
      exact ⟨ret_bool (len_one bad.length), gbelow G19⟩
    · rw [hc] at hbm
      have hcv' := hcv hc
      rw [hcv']
      go_wp2_with fail
      go_fit (has_any _ bad i _ (Own.rd B19))
      rintro e w' ⟨rfl, rfl⟩
      rw [hbm]
      go_wp2_with fail
      go_ret
      exact ⟨rfl, gbelow G19⟩

/-! ### THE ROW's STEP: WRITTEN OUT: LEAVE IT -/
set_option maxRecDepth 100000 in
theorem lifted (os : Os) (started : os.Started) (H : Type) (enc : TypeId × Value → H) :
    ReturnsInHanded {} Tryz.checked os 3 .any (Rows.fnRowsSpec.pre6 enc Tryz.prog Tryz.f3 Rows.fnRowsRow.domain false) (Rows.fnRowsSpec.post enc Tryz.prog Tryz.f3 false true false false) := by
  refine returnsInHanded_of_change (C := Tryz.checked) own started (by kernel_rfl) Tryz.func3
    (ChangeSpec.witness6 (enc := enc) (C := Tryz.checked) false ⟨#[], #[.slice none 0 0], []⟩ 8 (by kernel_rfl) (by kernel_rfl) (by kernel_rfl) (by kernel_rfl)) ?_
  intro W base args ds gs before hval0 hW hcnd _
  have hval : ∀ (j : Nat) t v, Tryz.f3.params[j]? = some t → args[j]? = some v → Value.okWide Tryz.prog W .any base t v := hval0
  have hW' := hW
  obtain ⟨p, q, hA0, hV, rfl, hfz, hnd⟩ := hW
  have hA : DataW.TrodAll enc Tryz.prog W 0 (fun _ => true) true Tryz.f3.params.toList args.toList ds p := hA0
  rw [Tryz.params3] at hA hval
  obtain ⟨v0, vs0, d0, ds0, p0, q0, hargs, rfl, rfl, h0, r0⟩ := trodAll_cons hA
  obtain ⟨rfl, rfl, rfl⟩ := trodAll_nil r0
  obtain rfl : args = #[v0] := by cases args; simp_all
  obtain ⟨rfl, rfl⟩ := trodVars_none hV
  obtain ⟨a0, len0, cap0, rfl⟩ := okWide_slice Tryz.underlying22 (hval 0 22 v0 rfl rfl)
  have k0 := h0
  have lt0 : ∀ x ∈ p0, x.block < W.heap.size := by obtain ⟨m, hm⟩ := k0; exact DataW.trod_lt m _ _ _ hm
  obtain ⟨z0, w0⟩ : ∃ zs, IsRow .u8 W a0 len0 cap0 zs := by
    obtain ⟨fuel, hf⟩ := h0
    rcases open_ints Tryz.underlying22 Tryz.underlying5 (by kernel_rfl) hf with ⟨hcs, _⟩ | ⟨x, l, c, zs, hcs, _, hl, hm, hz, _, hcell, hwz⟩
    · simp [Value.cells] at hcs
      obtain ⟨rfl, rfl, rfl⟩ := hcs
      exact ⟨[], .inl ⟨rfl, rfl, rfl, rfl⟩⟩
    · simp [Value.cells] at hcs
      obtain ⟨rfl, rfl, rfl⟩ := hcs
      exact ⟨zs, .inr ⟨_, rfl, hl, hm, by simpa using hz, hcell, hwz⟩⟩
  clear hA0 hval0
  refine (walk a0 len0 cap0 z0 W w0).mono fun e W' ⟨he, bel⟩ => ?_
  subst he
  exact ⟨_, rfl, _, _, _, [], _, [], hW', trodAll_mk1 (shut_bool Tryz.underlying4 _), (trodAll_cons_mk (Below.trod laidOut (by kernel_rfl) (of_decide_eq_true (by kernel_rfl)) k0 bel lt0) trodAll_mk0), rfl, bel.frame _, fun h => by cases h⟩

theorem over : Rows.fnRowsRow.holds Tryz.pinned (OpenSpec.ofChange Rows.fnRowsSpec) :=
  OpenClaim.holds_of_wide 3 Tryz.f3 rfl rfl rfl rfl rfl rfl rfl ⟨rfl, rfl, rfl, rfl, rfl⟩ rfl rfl rfl rfl rfl (by kernel_rfl) Tryz.func3 (by kernel_rfl)
    (of_decide_eq_true (by kernel_rfl)) (by unfold Func.isWrapper; first | (rw [if_pos (by decide +kernel)]; kernel_rfl) | (rw [if_neg (by decide +kernel)]; exact ⟨rfl, rfl⟩))
    (fun os started H enc _ => lifted os started H enc)

/-- ████ THE STATEMENT ████ -/
theorem proved : Rows.FnRowsSaid := over
#print axioms proved
end Go.Proofs.YtfodjokcobljmaaGreat.fnRows
