/-
  Proved: for every input the law FnAnyOne returns true and leaves its argument as it was; no condition. (The frame is the kit's skeleton.)
-/
import Derived.Test.YtdfhfebcbmolbaaGreatRows
import Derived.WalkKit
import Derived.ProofKit
import Derived.OpenShut
import Derived.ShutString
import Derived.ChangeOld
import Derived.Below
import Derived.Test.YtdfhfebcbmolbaaGreatDrawL09
import Derived.Test.YtdfhfebcbmolbaaGreatImplL06c
import Derived.Test.YtdfhfebcbmolbaaGreatMathHurt
import Derived.Test.YtdfhfebcbmolbaaGreatOwnX
import Derived.Test.YtdfhfebcbmolbaaGreatLawFill
import Derived.Deep.RegionHeld3
import Derived.Deep.DeepFit
import Derived.BigQuiet
import Derived.LoopTactic
import Derived.Deep.Slices
import Derived.Deep.Fields
namespace Go.Proofs.YtdfhfebcbmolbaaGreat.fnAnyOne
open Go.ChangeShapes Go.WideShapes Go.ChangeAt Go.RowKit
open Go.ChangeMaps (open_string shut_string)
set_option linter.unusedVariables false

theorem own : ownKnob Tryz.prog.godebug = none := by kernel_rfl
theorem laidOut : laidOutB Tryz.prog = true := by kernel_rfl

/-- WHAT THE WALK IS TOLD OF A SLICE OF INTEGERS THAT CAME IN: it is nil; or it leads to a row of 'cap' cells, the numbers 'zs' (the first 'len' are its elements, the rest its spare room), each fitting its kind. -/
def IsRow (k : IntKind) (w : World) (a : Option Addr) (len cap : Nat) (zs : List Int) : Prop :=
  (a = none ∧ len = 0 ∧ cap = 0 ∧ zs = []) ∨
  ∃ x, a = some x ∧ len ≤ cap ∧ cap ≤ maxLen ∧ zs.length = cap ∧ (∀ i, i < zs.length → w.cell? (x.add i) = some (.int k (zs.getD i 0))) ∧ ∀ n ∈ zs, (Lit.int k n).wf = true

theorem one_facts {A : AZ} {F : Int → Nat → Int} {p : List Int} (h : Held A F p ∧ NoBad A.ds) :
    rowsOfZ A.ds = rowsZ A.ds ∧ (3 ≤ A.ds.length ∧ A.ds.length ≤ 5) ∧ (1 ≤ rowsZ A.ds ∧ rowsZ A.ds ≤ 16) ∧ A.ok = true ∧ (A.log.length ≤ 1100000 ∧ A.next.length ≤ 1100000) := by
  have hok := h.1.holds.rows.ok
  have hn := inB_iff.1 (disks_n hok)
  have hr := rows_le hok
  exact ⟨by unfold rowsOfZ; rw [hok]; rfl, by omega, by omega, h.1.ok, held_sizes h.1⟩
theorem one_cells {A : AZ} {F : Int → Nat → Int} {p : List Int} (h : Held A F p ∧ NoBad A.ds) (d : Int) {r : Nat} (hr : r < rowsZ A.ds) :
    wholeZ A.ds r = true ∧ (diedZ A d).ds.length = A.ds.length ∧ ∀ i, i < A.ds.length → (cellAtOk A.ds i r = true ∧ cellAtV A.ds i r = F r i) ∧ (cellAtOk (diedZ A d).ds i r = true ∧ cellAtV (diedZ A d).ds i r = F r i) := by
  have e : diedZ A d = A.dies d := by simp [diedZ, h.1.ok]
  rw [e]
  refine ⟨h.1.holds.rows.whole h.2 (by omega) (by omega), dies_len A d, fun i hi => ⟨h.1.holds.rows.cell (by omega) (by omega) hi, ?_⟩⟩
  refine (h.1.dies h.2 d).holds.rows.cell (by omega) ?_ (by rw [dies_len]; exact hi)
  rw [dies_rows h.1 h.2]; omega

/-! ### STEP 1: THE WALK: the Go text returns true, AND WRITES NOTHING THAT WAS THERE: 'Below w.heap.size w w'' (Derived/Below.lean: '.refl', '.alloc', '.drew', '.setCell' at a new block, '.trans'). Open each 'IsRow' by 'rcases' AHEAD of 'go_enter'; part every test ahead of the walk. -/
set_option maxRecDepth 100000 in
set_option maxHeartbeats 4000000 in
theorem walk (a0 : Option Addr) (len0 cap0 : Nat) (z0 : List Int) (w : World) (w0 : IsRow .u8 w a0 len0 cap0 z0) :
    Calls Tryz.prog 3 #[.slice a0 len0 cap0] w fun e w' => e = .returned (.bool true) ∧ Below w.heap.size w w' := by
  by_cases hb : 4096 < len0
  · go_enter Tryz.func3, Tryz.ntmps3
    go_wp2_with fail
    go_fit (big_yes _ _ _ _ hb)
    rintro e w' ⟨rfl, rfl⟩
    go_wp2_with fail
    go_ret
    exact ⟨rfl, Below.refl _ _⟩
  have hR := codeAt_of w0 (by omega)
  clear w0
  go_enter Tryz.func3, Tryz.ntmps3
  go_wp2_with fail
  go_fit (big_no _ _ _ _ (by omega))
  rintro e w' ⟨rfl, rfl⟩
  go_wp2_with fail
  go_fit (drawWhole_any _ _ _ _ hR)
  rintro e w1 ⟨q, vq, row, rfl, hQ, hq5, hrow, g1⟩
  obtain ⟨qa, qc, rfl, -⟩ := hQ.form
  go_wp2_with fail
  go_fit (implWhole_any _ q row _ hQ)
  rintro e w2 ⟨rfl, g2⟩
  go_wp2_with fail
  go_fit (specWhole_any _ q row _ (hQ.kept g2))
  rintro e w3 ⟨rfl, g3⟩
  have G3 := gtrans (gtrans g1 g2) g3
  clear hQ g1 g2 g3 hq5 hrow
  generalize wholeZ q row = wz at *
  go_wp2_with fail
  go_fit (filled_any _ _ _ _ (hR.kept (gbelow G3)))
  rintro e w4 ⟨A, F, p, va, vp, rfl, HA, hp1, hp2, LA, IP, g4⟩
  obtain ⟨aa, ac, rfl, -⟩ := LA.form
  obtain ⟨pa, pc, rfl, -⟩ := IP.form
  have eA := galloc (grefl w4) (.cells #[.slice aa A.ds.length ac, .string (str A.log), .string (str A.next), .int .i64 A.stage, .bool A.up] 29)
  have BA := Box5.new w4 (.slice aa A.ds.length ac) (.string (str A.log)) (.string (str A.next)) (.int .i64 A.stage) (.bool A.up) 29
  replace LA := LA.kept eA
  have G4 := gtrans (gtrans G3 g4) eA
  have HFa := Lib.hid (one_facts HA.out)
  have HCe : Hid (∀ (d : Int) (r : Nat), r < rowsZ A.ds → wholeZ A.ds r = true ∧ (diedZ A d).ds.length = A.ds.length ∧ ∀ i, i < A.ds.length → (cellAtOk A.ds i r = true ∧ cellAtV A.ds i r = F r i) ∧ (cellAtOk (diedZ A d).ds i r = true ∧ cellAtV (diedZ A d).ds i r = F r i)) := fun d r hr => one_cells HA.out d hr
  clear IP hp1 hp2 eA g4 G3 HA
  go_upto_region 7 with (fail)
  generalize w4.alloc (.cells #[.slice aa A.ds.length ac, .string (str A.log), .string (str A.next), .int .i64 A.stage, .bool A.up] 29) = WA at *
  generalize w4.heap.size = bA at *
  obtain ⟨hro, ⟨hn3, hn5⟩, ⟨hr1, hr16⟩, hok, hz1, hz2⟩ := HFa.out
  have HRo := Lib.hid hro
  clear HFa hro hok
  have HB := Lib.hid BA
  obtain ⟨p0, p1, p2, p3, p4⟩ := BA
  go_wp2_with fail
  go_fit (specRowsOf_any _ A.ds _ LA)
  rintro e w5 ⟨rfl, g5⟩
  rw [HRo.out]
  have hRr := hR.kept (gbelow (gtrans G4 g5))
  go_wp2_with fail
  go_fit (pick_any _ _ _ _ _ _ hRr (by omega) (by omega) (by omega) (by omega))
  rintro e w' ⟨r, r0, r1, rfl, rfl⟩
  obtain ⟨r, rfl⟩ := Int.eq_ofNat_of_zero_le r0
  have hrr : r < rowsZ A.ds := by omega
  replace LA := LA.kept g5
  have G5 := gtrans G4 g5
  have B5 := HB.out.kept g5
  clear p0 p1 p2 p3 p4 HB g5 G4 HRo hRr
  have HWh : Hid (wholeZ A.ds r = true) := (HCe.out 0 r hrr).1
  have HB := Lib.hid B5
  obtain ⟨p0, p1, p2, p3, p4⟩ := B5
  go_wp2_with fail
  go_fit (implWhole_any _ A.ds r _ LA)
  rintro e w6 ⟨rfl, g6⟩
  rw [HWh.out]
  replace LA := LA.kept g6
  have G6 := gtrans G5 g6
  have B6 := HB.out.kept g6
  clear p0 p1 p2 p3 p4 HB g6 G5 HWh
  have hRr := hR.kept (gbelow G6)
  have HB := Lib.hid B6
  obtain ⟨p0, p1, p2, p3, p4⟩ := B6
  go_wp2_with fail
  go_fit (pick_any _ _ _ _ _ _ hRr (by omega) (by omega) (by omega) (by omega))
  rintro e w' ⟨d, d0, d1, rfl, rfl⟩
  go_wp2_with fail
  go_fit (specDies_any _ A d _ LA hz1 hz2)
  rintro e w7 ⟨vx, rawx, rfl, ox, g7⟩
  have LX := ox.ld
  obtain ⟨hWh, hxl, hce⟩ := HCe.out d r hrr
  have HC := Lib.hid hce
  have HXl := Lib.hid hxl
  clear hWh hce HCe ox hxl
  generalize diedZ A d = X at *
  obtain ⟨xa, xc, rfl, -⟩ := LX.form
  have B7 := HB.out.kept g7
  have eX := galloc (grefl w7) (.cells #[.slice xa X.ds.length xc, .string (str X.log), .string (str X.next), .int .i64 X.stage, .bool X.up] 29)
  have BX := Box5.new w7 (.slice xa X.ds.length xc) (.string (str X.log)) (.string (str X.next)) (.int .i64 X.stage) (.bool X.up) 29
  replace B7 := B7.kept eX
  replace LA := (LA.kept g7).kept eX
  replace LX := LX.kept eX
  have G7 := gtrans (gtrans G6 g7) eX
  clear p0 p1 p2 p3 p4 HB g7 eX G6 hRr
  go_upto_region 12 with (fail)
  generalize w7.alloc (.cells #[.slice xa X.ds.length xc, .string (str X.log), .string (str X.next), .int .i64 X.stage, .bool X.up] 29) = WX at *
  generalize w7.heap.size = bX at *
  have HBA := Lib.hid B7
  have HBX := Lib.hid BX
  clear B7 BX
  go_wp2_with fail
  go_loopw [11] (fun i wr => ∃ k : Nat, k ≤ A.ds.length ∧ i = .int .i64 k ∧ WX.grownBy wr none) (fun i _ => A.ds.length - (intOf i).toNat)
  case atStart => exact ⟨0, Nat.zero_le _, rfl, grefl _⟩
  case round =>
    obtain ⟨k, hk, rfl, GX⟩ := hrel
    obtain ⟨p0, p1, p2, p3, p4⟩ := HBA.out.kept GX
    by_cases hlt : k < A.ds.length
    · have hki : (k : Int) < A.ds.length := by omega
      obtain ⟨⟨c1, c2⟩, c3, c4⟩ := HC.out k hlt
      have HC1 := Lib.hid c1
      have HC2 := Lib.hid c2
      have HC3 := Lib.hid c3
      have HC4 := Lib.hid c4
      clear c1 c2 c3 c4
      go_wp2_with fail
      go_fit (implCellAt_any _ A.ds k r _ (LA.kept GX))
      rintro e w8 ⟨rfl, g8⟩
      rw [HC1.out, HC2.out]
      have G8 := gtrans GX g8
      clear p0 p1 p2 p3 p4
      obtain ⟨x0, x1, x2, x3, x4⟩ := HBX.out.kept G8
      go_wp2_with fail
      go_fit (implCellAt_any _ X.ds k r _ (LX.kept G8))
      rintro e w9 ⟨rfl, g9⟩
      rw [HC3.out, HC4.out]
      have G9 := gtrans G8 g9
      generalize F r k = fv at *
      clear x0 x1 x2 x3 x4
      go_wp2_with fail
      go_roundw
      case rel => exact ⟨k + 1, by omega, by go_num, G9⟩
      case measure => simp [intOf]; omega
    · go_wp2_with fail
      go_ret
      exact ⟨rfl, gbelow (gtrans G7 GX)⟩

/-! ### THE ROW's STEP: WRITTEN OUT: LEAVE IT -/
set_option maxRecDepth 100000 in
theorem lifted (os : Os) (started : os.Started) (H : Type) (enc : TypeId × Value → H) :
    ReturnsInHanded {} Tryz.checked os 3 .any (Rows.fnAnyOneSpec.pre6 enc Tryz.prog Tryz.f3 Rows.fnAnyOneRow.domain false) (Rows.fnAnyOneSpec.post enc Tryz.prog Tryz.f3 false true false false) := by
  refine returnsInHanded_of_change (C := Tryz.checked) own started (by kernel_rfl) Tryz.func3
    (ChangeSpec.witness6 (enc := enc) (C := Tryz.checked) false ⟨#[], #[.slice none 0 0], []⟩ 8 (by kernel_rfl) (by kernel_rfl) (by kernel_rfl) (by kernel_rfl)) ?_
  intro W base args ds gs before hval0 hW hcnd _
  have hval : ∀ (j : Nat) t v, Tryz.f3.params[j]? = some t → args[j]? = some v → Value.okWide Tryz.prog W .any base t v := hval0
  have hW' := hW
  obtain ⟨p, q, hA0, hV, rfl, hfz, hnd⟩ := hW
  have hA : DataW.TrodAll enc Tryz.prog W 0 (fun _ => true) true Tryz.f3.params.toList args.toList ds p := hA0
  rw [Tryz.params3] at hA hval
  obtain ⟨v0, vs0, d0, ds0, p0, q0, hargs, rfl, rfl, h0, r0⟩ := trodAll_cons hA
  obtain ⟨rfl, rfl, rfl⟩ := trodAll_nil r0
  obtain rfl : args = #[v0] := by cases args; simp_all
  obtain ⟨rfl, rfl⟩ := trodVars_none hV
  obtain ⟨a0, len0, cap0, rfl⟩ := okWide_slice Tryz.underlying22 (hval 0 22 v0 rfl rfl)
  have k0 := h0
  have lt0 : ∀ x ∈ p0, x.block < W.heap.size := by obtain ⟨m, hm⟩ := k0; exact DataW.trod_lt m _ _ _ hm
  obtain ⟨z0, w0⟩ : ∃ zs, IsRow .u8 W a0 len0 cap0 zs := by
    obtain ⟨fuel, hf⟩ := h0
    rcases open_ints Tryz.underlying22 Tryz.underlying5 (by kernel_rfl) hf with ⟨hcs, _⟩ | ⟨x, l, c, zs, hcs, _, hl, hm, hz, _, hcell, hwz⟩
    · simp [Value.cells] at hcs
      obtain ⟨rfl, rfl, rfl⟩ := hcs
      exact ⟨[], .inl ⟨rfl, rfl, rfl, rfl⟩⟩
    · simp [Value.cells] at hcs
      obtain ⟨rfl, rfl, rfl⟩ := hcs
      exact ⟨zs, .inr ⟨_, rfl, hl, hm, by simpa using hz, hcell, hwz⟩⟩
  clear hA0 hval0
  refine (walk a0 len0 cap0 z0 W w0).mono fun e W' ⟨he, bel⟩ => ?_
  subst he
  exact ⟨_, rfl, _, _, _, [], _, [], hW', trodAll_mk1 (shut_bool Tryz.underlying4 _), (trodAll_cons_mk (Below.trod laidOut (by kernel_rfl) (of_decide_eq_true (by kernel_rfl)) k0 bel lt0) trodAll_mk0), rfl, bel.frame _, fun h => by cases h⟩

theorem over : Rows.fnAnyOneRow.holds Tryz.pinned (OpenSpec.ofChange Rows.fnAnyOneSpec) :=
  OpenClaim.holds_of_wide 3 Tryz.f3 rfl rfl rfl rfl rfl rfl rfl ⟨rfl, rfl, rfl, rfl, rfl⟩ rfl rfl rfl rfl rfl (by kernel_rfl) Tryz.func3 (by kernel_rfl)
    (of_decide_eq_true (by kernel_rfl)) (by unfold Func.isWrapper; first | (rw [if_pos (by decide +kernel)]; kernel_rfl) | (rw [if_neg (by decide +kernel)]; exact ⟨rfl, rfl⟩))
    (fun os started H enc _ => lifted os started H enc)

/-- ████ THE STATEMENT ████ -/
theorem proved : Rows.FnAnyOneSaid := over
#print axioms proved
end Go.Proofs.YtdfhfebcbmolbaaGreat.fnAnyOne
