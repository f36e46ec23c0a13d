/-
  Proved: for every input the law FnAsOne returns true and leaves its arguments as they were, where the listed variables of the library read as its text lays them (the card ties that to the text).
-/
import Derived.Test.YtdfhfebcbmolbaaGreatDoorRows
import Derived.Test.YtdfhfebcbmolbaaGreatDoorCards
import Derived.Test.YtdfhfebcbmolbaaGreatDoorTie
import Derived.SevenTiedAt
import Derived.WalkKit
import Derived.ProofKit
import Derived.LaidMore
import Derived.OpenShut
import Derived.Stop.Joined
import Derived.ShutString
import Derived.ChangeOld
import Derived.Below
import Derived.Carry
import Derived.Test.YtdfhfebcbmolbaaGreatDoorDoorB
import Derived.Test.YtdfhfebcbmolbaaGreatDoorImplL09
import Derived.Test.YtdfhfebcbmolbaaGreatDoorDrawA
import Derived.Test.YtdfhfebcbmolbaaGreatDoorLawA
import Derived.Test.YtdfhfebcbmolbaaGreatDoorOwnX
import Derived.Test.YtdfhfebcbmolbaaGreatDoorLawFill
import Derived.Test.YtdfhfebcbmolbaaGreatDoorDoorB
import Derived.Deep.RegionHeld3
import Derived.Deep.DeepCutAuto
import Derived.RegionTactic
import Derived.Stop.LaidErr
import Derived.Shelf.Vars
namespace Go.Proofs.YtdfhfebcbmolbaaGreatDoor.fnAsOne
open Go.ChangeShapes Go.WideShapes Go.ChangeAt Go.RowKit
set_option linter.unusedVariables false

theorem own : ownKnob Tryz.prog.godebug = none := by kernel_rfl
theorem laidOut : laidOutB Tryz.prog = true := by kernel_rfl
def laidL : List (String × DataW Unit) := [("math/bits.deBruijn32tab", Rows.laid_math_bits_deBruijn32tab), ("math/bits.deBruijn64tab", Rows.laid_math_bits_deBruijn64tab), ("internal/strconv.uint64pow10", Rows.laid_internal_strconv_uint64pow10), ("unicode/utf8.acceptRanges", Rows.laid_unicode_utf8_acceptRanges), ("strconv.ErrRange", Rows.laid_strconv_ErrRange), ("strconv.ErrSyntax", Rows.laid_strconv_ErrSyntax), ("unicode/utf8.first", Rows.laid_unicode_utf8_first)]
noncomputable def startW (os : Os) : World := { World.doorLaid Tryz.prog 400 os with heap := (World.doorLaid Tryz.prog 400 os).heap.modify 6 fun | .cells _ t frozen => .cells (Go.Pinned.utf8FirstZ.map fun z : Nat => Value.int .u8 (z : Int)).toArray t frozen | o => o }
theorem door_met (os : Os) (args : Array Value) : laidMetH Tryz.prog laidL ((startW os).forCall (fun _ _ => 0) ⟨#[], args, []⟩).memory :=
  laidMetH_of_parts3 (fuel := 8) (laidMet_of_run' 8 (by kernel_rfl) (by kernel_rfl)) (by kernel_rfl) (by kernel_rfl)
theorem plainL {w : World} (h : laidMetH Tryz.prog laidL w) : laidMet Tryz.prog laidL w := by
  rw [MakeChecks.laidMetH_plain _ _ _ (by kernel_rfl)] at h
  exact h
theorem pow_of {w : World} (h : laidMet Tryz.prog laidL w) : Pow10 w :=
  Lib.tabIs_of_head (g := 0) (t := 205) (e := 179) (n := 20) (by kernel_rfl) (by kernel_rfl) Tryz.underlying205 Tryz.underlying179 (by kernel_rfl) (by kernel_rfl) (laidMet.tail (laidMet.tail h))
theorem star : "*" ++ "errors.errorString" = "*errors.errorString" := by decide
theorem row_err (u : TypeId) (h : Tryz.prog.typeName? 3 u = some "*errors.errorString") : u = 237 :=
  typeName_ptr_named (nm := "errors.errorString") (by rw [star]; kernel_rfl) (by kernel_rfl) (by decide) u (by rw [star]; exact h)
theorem lib_of {w : World} (h : laidMet Tryz.prog laidL w) (hS : w.ShapedOpen Tryz.prog) : LibV w := by
  have h4 := laidMet.tail (laidMet.tail (laidMet.tail (laidMet.tail h)))
  obtain ⟨a1, s1, v1, -, -, -⟩ := laid_sentinel h4 (g := 3) (ti := 141) (tp := 237) (te := 239) (ts := 9) (by kernel_rfl) (by kernel_rfl) Tryz.underlying141 row_err Tryz.underlying237 Tryz.underlying239 rfl rfl Tryz.underlying9 (by kernel_rfl) (by kernel_rfl)
  obtain ⟨a2, s2, v2, -, -, -⟩ := laid_sentinel (laidMet.tail h4) (g := 2) (ti := 141) (tp := 237) (te := 239) (ts := 9) (by kernel_rfl) (by kernel_rfl) Tryz.underlying141 row_err Tryz.underlying237 Tryz.underlying239 rfl rfl Tryz.underlying9 (by kernel_rfl) (by kernel_rfl)
  exact ⟨⟨_, _, v2⟩, ⟨_, _, v1⟩, cell_of_shapedOpen_int (P := Tryz.prog) (g := 1) (t := 3) (zero := #[.int .i64 0]) hS (of_decide_eq_true (by kernel_rfl)) (by kernel_rfl) rfl (by kernel_rfl) (by kernel_rfl) Tryz.underlying3⟩
theorem one_facts {A : AZ} {F : Int → Nat → Int} {p : List Int} (h : Held A F p) :
    rowsOfZ A.ds = rowsZ A.ds ∧ (3 ≤ A.ds.length ∧ A.ds.length ≤ 5) ∧ (1 ≤ rowsZ A.ds ∧ rowsZ A.ds ≤ 16) ∧ A.ok = true ∧ (A.log.length ≤ 1100000 ∧ A.next.length ≤ 1100000) := by
  have hok := h.holds.rows.ok
  have hn := inB_iff.1 (disks_n hok)
  have hr := rows_le hok
  exact ⟨by unfold rowsOfZ; rw [hok]; rfl, by omega, by omega, h.ok, held_sizes h⟩
theorem died_held {A : AZ} {F : Int → Nat → Int} {p : List Int} (h : Held A F p ∧ NoBad A.ds) (d : Int) : Held (diedZ A d) F p ∧ (diedZ A d).ds.length = A.ds.length := by
  have e : diedZ A d = A.dies d := by simp [diedZ, h.1.ok]
  rw [e]; exact ⟨h.1.dies h.2 d, dies_len A d⟩
theorem rotted_held {A : AZ} {F : Int → Nat → Int} {p : List Int} (h : Held A F p ∧ NoBad A.ds) (d q y : Int) : Held (rottedZ A d q y) F p ∧ (rottedZ A d q y).ds.length = A.ds.length := by
  have e : rottedZ A d q y = A.rotted d q y := by simp [rottedZ, h.1.ok]
  rw [e]; exact ⟨h.1.rots h.2 d q y, rots_len A d q y⟩
set_option maxRecDepth 8000 in
set_option maxHeartbeats 4000000 in
theorem drawWriteArray_any (a : Option Addr) (len cap : Nat) (w : World) (hR : CodeAt w a len) :
    Calls Tryz.prog 41 #[.slice a len cap] w fun e w' => ∃ (z : AZ) (v : Value) (p x : Int), e = .returned (.tuple #[z.val v, .int .i64 p, .int .i64 x]) ∧ i64B p ∧ i64B x ∧ OutA w z v w' := by
  have Z0 := Zero5.new w
  have e0 := galloc (grefl w) zero5
  have s0 : (w.alloc zero5).heap.size = w.heap.size + 1 := by simp
  have hR0 := hR.kept (gbelow e0)
  go_enter Tryz.func41, Tryz.ntmps41
  go_upto_region 1 with (fail)
  generalize w.alloc zero5 = W0 at *
  go_wp2_with fail
  go_fit (drawBegun_any a len cap _ hR0)
  rintro e w2 ⟨z, v, p, x, rfl, hp, hx, hL, hlg, hnx, g2⟩
  obtain ⟨va, vc, rfl, -⟩ := (hL w2 (Only.refl _ _)).form
  have hfin := out_a (r := w.heap.size) hL (Only.refl _ _) (gtrans e0 g2) (by omega) (Nat.le_refl _) hlg hnx
  obtain ⟨⟨z0, y0⟩, ⟨z1, y1⟩, ⟨z2, y2⟩, ⟨z3, y3⟩, ⟨z4, y4⟩⟩ := Z0.kept g2 (by simp)
  go_wp2_with fail
  exact bodyPost_ret (v := .tuple #[z.val (.slice va z.ds.length vc), .int .i64 p, .int .i64 x]) (by simp [results, Tryz.results41, go_sem, z0, z1, z2, z3, z4]) rfl ⟨z, _, p, x, rfl, hp, hx, hfin⟩
theorem holds_read {c : AZ} {F : Int → Nat → Int} {p : List Int} (h : Holds c.ds F p) (hok : c.ok = true) (hu : c.up = true) {k : Nat} (hk : k < p.length) : readOkA c k = true ∧ readVA c k = p[k] := by
  obtain ⟨h1, h2⟩ := h.tell hk
  exact ⟨by simp [readOkA, hok, hu, h1], by simp [readVA, hok, hu, h2]⟩
/-- what is true of the five stages of a write -/
structure Steps (A : AZ) (p : List Int) (l : Nat) (x : Int) (X : Nat → AZ) : Prop where
  begun : begunOk A l x = true ∧ begunZ A l x = X 0
  next : ∀ s, steppedZ (X s) = X (s + 1)
  last : writtenOk A l x = true ∧ writtenZ A l x = X 5 ∧ (X 5).stage = 0
  read : ∀ s, s ≤ 4 → ∀ k, ∀ _ : k < p.length, readOkA (X s) k = true ∧ readVA (X s) k = if k = l ∧ 2 ≤ s then x else p[k]
theorem steps_of {A : AZ} {F : Int → Nat → Int} {p : List Int} (h : Held A F p) {l : Nat} (hl : l < p.length) {x : Int} (hx : okv x = true) : ∃ X, Steps A p l x X := by
  obtain ⟨d, e, AT⟩ := h.holds.place hl hx
  have hb := h.begins AT
  have hf := h.holds.rows.forOk AT
  have hE := ents_one (for_ok hf)
  have e0 : A.begun l x = { A with next := frameT (forP A.ds l x).text, stage := 1 } := by simp [AZ.begun, hb]
  have hok : ∀ s, (stepK (A.begun l x) s).ok = true := fun s => stepK_ok (AZ.ok_begun h.ok l x) s
  obtain ⟨-, -, -, -, s4, s5⟩ := stepK_all hb
  have hw := h.holds.write hl AT
  have q0 : stepK (A.begun l x) 0 = { A with next := frameT (forP A.ds l x).text, stage := 1 } := e0
  have q1 : stepK (A.begun l x) 1 = { A with log := frameT (forP A.ds l x).text, next := frameT (forP A.ds l x).text, stage := 2 } := by simp only [stepK]; rw [e0]; simp [AZ.stepped]
  have q2 : stepK (A.begun l x) 2 = { A with ds := patchZ A.ds (forP A.ds l x), log := frameT (forP A.ds l x).text, next := frameT (forP A.ds l x).text, stage := 3 } := by
    show (stepK (A.begun l x) 1).stepped = _; rw [q1]; simp [AZ.stepped, hE]
  have q3 : stepK (A.begun l x) 3 = { A with ds := flushAll (patchZ A.ds (forP A.ds l x)), log := frameT (forP A.ds l x).text, next := frameT (forP A.ds l x).text, stage := 4 } := by
    show (stepK (A.begun l x) 2).stepped = _; rw [q2]; simp [AZ.stepped]
  have q4 : stepK (A.begun l x) 4 = { A with ds := flushAll (patchZ A.ds (forP A.ds l x)), log := [], next := [], stage := 0 } := by
    show (stepK (A.begun l x) 3).stepped = _; rw [q3]; simp [AZ.stepped]
  have q5 : stepK (A.begun l x) 5 = stepK (A.begun l x) 4 := by
    show (stepK (A.begun l x) 4).stepped = _; rw [q4]; simp [AZ.stepped]
  have hset : ∀ k, ∀ hk : k < p.length, (p.set l x)[k]'(by simpa using hk) = if k = l then x else p[k] := fun k hk => by
    rw [List.getElem_set]
    by_cases e : k = l
    · rw [if_pos e.symm, if_pos e]
    · rw [if_neg (fun x => e x.symm), if_neg e]
  refine ⟨stepK (A.begun l x), ⟨by simp [begunOk, h.ok, hb], by simp [begunZ, h.ok, stepK]⟩, fun s => by unfold steppedZ; rw [if_pos (hok s)]; rfl, ⟨by simp [writtenOk, h.ok, hb], by rw [q5, s5]; simp [writtenZ, h.ok], by rw [q5]; exact s4⟩, fun s hs k hk => ?_⟩
  have hks : k < (p.set l x).length := by simpa using hk
  have hcase : s = 0 ∨ s = 1 ∨ s = 2 ∨ s = 3 ∨ s = 4 := by omega
  rcases hcase with rfl | rfl | rfl | rfl | rfl
  · have := holds_read (c := stepK (A.begun l x) 0) (by rw [q0]; exact h.holds) (hok 0) (by rw [q0]; exact h.up) hk
    rw [if_neg (by omega)]; exact this
  · have := holds_read (c := stepK (A.begun l x) 1) (by rw [q1]; exact h.holds) (hok 1) (by rw [q1]; exact h.up) hk
    rw [if_neg (by omega)]; exact this
  · have := holds_read (c := stepK (A.begun l x) 2) (by rw [q2]; exact hw) (hok 2) (by rw [q2]; exact h.up) hks
    rw [hset k hk] at this
    refine ⟨this.1, this.2.trans ?_⟩
    by_cases e : k = l <;> simp [e]
  · have := holds_read (c := stepK (A.begun l x) 3) (by rw [q3]; exact hw.flush) (hok 3) (by rw [q3]; exact h.up) hks
    rw [hset k hk] at this
    refine ⟨this.1, this.2.trans ?_⟩
    by_cases e : k = l <;> simp [e]
  · have := holds_read (c := stepK (A.begun l x) 4) (by rw [q4]; exact hw.flush) (hok 4) (by rw [q4]; exact h.up) hks
    rw [hset k hk] at this
    refine ⟨this.1, this.2.trans ?_⟩
    by_cases e : k = l <;> simp [e]

set_option maxRecDepth 100000 in
set_option maxHeartbeats 4000000 in
theorem walk (w : World) (HL : Hid (laidMet Tryz.prog laidL w)) (hS : w.ShapedOpen Tryz.prog) (a0 : Option Addr) (n0 c0 : Nat) (z0 : List Int) (w0 : IsRow w a0 n0 c0 z0) :
    Calls Tryz.prog 5 #[.slice a0 n0 c0] w fun e w' => e = .returned (.bool true) ∧ Below w.heap.size w w' := by
  have HT := Lib.hid (pow_of HL.out)
  have HV := Lib.hid (lib_of HL.out hS)
  clear HL hS
  by_cases hb : 4096 < n0
  · go_enter Tryz.func5, Tryz.ntmps5
    go_wp2_with fail
    go_fit (big_yes _ _ _ _ hb)
    rintro e w' ⟨rfl, rfl⟩
    go_wp2_with fail
    go_ret
    exact ⟨rfl, Below.refl _ _⟩
  have hR := codeAt_of w0 (by omega)
  clear w0
  go_enter Tryz.func5, Tryz.ntmps5
  go_wp2_with fail
  go_fit (big_no _ _ _ _ (by omega))
  rintro e w' ⟨rfl, rfl⟩
  go_wp2_with fail
  go_fit (drawWriteArray_any _ _ _ _ hR)
  rintro e w1 ⟨zB, vB, pi, xv, rfl, hpi, hxv, OB⟩
  obtain ⟨OBl, hB1, hB2, gB⟩ := OB
  replace OBl := OBl _ (Only.refl _ _)
  have G1 := gB
  clear gB
  have LB := OBl
  obtain ⟨Ba, Bc, rfl, -⟩ := LB.form
  have eB := galloc (grefl w1) (.cells #[.slice Ba zB.ds.length Bc, .string (str zB.log), .string (str zB.next), .int .i64 zB.stage, .bool zB.up] 47)
  have BB := Box5.new w1 (.slice Ba zB.ds.length Bc) (.string (str zB.log)) (.string (str zB.next)) (.int .i64 zB.stage) (.bool zB.up) 47
  replace LB := LB.kept eB
  have G2 := gtrans G1 eB
  clear G1
  clear eB
  go_upto_region 4 with (fail)
  generalize w1.alloc (.cells #[.slice Ba zB.ds.length Bc, .string (str zB.log), .string (str zB.next), .int .i64 zB.stage, .bool zB.up] 47) = WB at *
  generalize w1.heap.size = bB at *
  clear OBl
  obtain ⟨q00, q01, q02, q03, q04⟩ := BB
  go_wp2_with fail
  go_fit (implWriteArray_any _ zB pi xv _ LB (HT.out.kept G2) (HV.out.kept G2))
  rintro e w2 ⟨vW, rawW, rfl, oW, g2⟩
  replace BB : Box5 _ bB (.slice Ba zB.ds.length Bc) (.string (str zB.log)) (.string (str zB.next)) (.int .i64 zB.stage) (.bool zB.up) := ⟨q00, q01, q02, q03, q04⟩
  clear q00 q01 q02 q03 q04
  clear hpi hxv
  replace LB := LB.kept g2
  replace BB := BB.kept g2
  have G3 := gtrans G2 g2
  clear G2
  have LW0 := oW.ld
  clear oW g2
  have CS1 := fun (W : World) (v : Value) (h : LD W v zB.ds) => specWriteArray_any v zB pi xv W h (by omega) (by omega)
  generalize writtenZ zB pi xv = zW at *
  generalize writtenOk zB pi xv = okW at *
  have LW := LW0
  obtain ⟨Wa, Wc, rfl, -⟩ := LW.form
  have eW := galloc (grefl w2) (.cells #[.slice Wa zW.ds.length Wc, .string (str zW.log), .string (str zW.next), .int .i64 zW.stage, .bool zW.up] 47)
  have BW := Box5.new w2 (.slice Wa zW.ds.length Wc) (.string (str zW.log)) (.string (str zW.next)) (.int .i64 zW.stage) (.bool zW.up) 47
  replace LB := LB.kept eW
  replace BB := BB.kept eW
  replace LW := LW.kept eW
  have G4 := gtrans G3 eW
  clear G3
  clear eW
  go_upto_region 5 with (fail)
  generalize w2.alloc (.cells #[.slice Wa zW.ds.length Wc, .string (str zW.log), .string (str zW.next), .int .i64 zW.stage, .bool zW.up] 47) = WW at *
  generalize w2.heap.size = bW at *
  clear LW0
  obtain ⟨q00, q01, q02, q03, q04⟩ := BB
  go_wp2_with fail
  go_fit (CS1 _ _ LB)
  rintro e w3 ⟨vY, rawY, rfl, oY, g3⟩
  replace BB : Box5 _ bB (.slice Ba zB.ds.length Bc) (.string (str zB.log)) (.string (str zB.next)) (.int .i64 zB.stage) (.bool zB.up) := ⟨q00, q01, q02, q03, q04⟩
  clear q00 q01 q02 q03 q04
  replace LB := LB.kept g3
  replace BB := BB.kept g3
  replace LW := LW.kept g3
  replace BW := BW.kept g3
  have G5 := gtrans G4 g3
  clear G4
  have LY0 := oY.ld
  clear oY g3 CS1
  have LY := LY0
  obtain ⟨Ya, Yc, rfl, -⟩ := LY.form
  have eY := galloc (grefl w3) (.cells #[.slice Ya zW.ds.length Yc, .string (str zW.log), .string (str zW.next), .int .i64 zW.stage, .bool zW.up] 47)
  have BY := Box5.new w3 (.slice Ya zW.ds.length Yc) (.string (str zW.log)) (.string (str zW.next)) (.int .i64 zW.stage) (.bool zW.up) 47
  replace LB := LB.kept eY
  replace BB := BB.kept eY
  replace LW := LW.kept eY
  replace BW := BW.kept eY
  replace LY := LY.kept eY
  have G6 := gtrans G5 eY
  clear G5
  clear eY
  go_upto_region 6 with (fail)
  generalize w3.alloc (.cells #[.slice Ya zW.ds.length Yc, .string (str zW.log), .string (str zW.next), .int .i64 zW.stage, .bool zW.up] 47) = WY at *
  generalize w3.heap.size = bY at *
  clear LY0
  obtain ⟨q00, q01, q02, q03, q04⟩ := BW
  obtain ⟨q10, q11, q12, q13, q14⟩ := BY
  go_wp2_with fail
  go_fit (likeArray_yes zW _ _ _ LW LY)
  rintro e w4 ⟨rfl, g4⟩
  replace BW : Box5 _ bW (.slice Wa zW.ds.length Wc) (.string (str zW.log)) (.string (str zW.next)) (.int .i64 zW.stage) (.bool zW.up) := ⟨q00, q01, q02, q03, q04⟩
  clear q00 q01 q02 q03 q04
  replace BY : Box5 _ bY (.slice Ya zW.ds.length Yc) (.string (str zW.log)) (.string (str zW.next)) (.int .i64 zW.stage) (.bool zW.up) := ⟨q10, q11, q12, q13, q14⟩
  clear q10 q11 q12 q13 q14
  replace LB := LB.kept g4
  replace BB := BB.kept g4
  replace LW := LW.kept g4
  replace BW := BW.kept g4
  replace LY := LY.kept g4
  replace BY := BY.kept g4
  have G7 := gtrans G6 g4
  clear G6
  clear g4 LW BW LY BY LB BB
  go_wp2_with fail
  go_fit (filled_any _ _ _ _ (hR.kept (gbelow G7)))
  rintro e w5 ⟨A, F, p, va, vp, rfl, HA, hp1, hp2, LA, IP, g5⟩
  obtain ⟨aa, ac, rfl, -⟩ := LA.form
  have hpo := ir_older IP hp1
  obtain ⟨pa, pc, rfl, -⟩ := IP.form
  have eA := galloc (grefl w5) (.cells #[.slice aa A.ds.length ac, .string (str A.log), .string (str A.next), .int .i64 A.stage, .bool A.up] 47)
  have FA := Five.new w5 (.slice aa A.ds.length ac) (.string (str A.log)) (.string (str A.next)) (.int .i64 A.stage) (.bool A.up) 47
  replace LA := LA.kept eA
  replace IP := IP.kept eA
  have GA := gtrans (gtrans G7 g5) eA
  have hbw := (gtrans G7 g5).size
  have hbs : w5.heap.size < (w5.alloc (.cells #[.slice aa A.ds.length ac, .string (str A.log), .string (str A.next), .int .i64 A.stage, .bool A.up] 47)).heap.size := by simp
  have HPo := Lib.hid hpo
  clear eA g5 hpo G7
  go_upto_region 9 with (fail)
  generalize w5.alloc (.cells #[.slice aa A.ds.length ac, .string (str A.log), .string (str A.next), .int .i64 A.stage, .bool A.up] 47) = WA at *
  generalize w5.heap.size = bA at *
  obtain ⟨hro, ⟨hn3, hn5⟩, ⟨hr1, hr16⟩, hok, hz1, hz2⟩ := one_facts HA.out.1
  have HRo := Lib.hid hro
  have HFA := Lib.hid FA
  have HRc := Lib.hid (hR.kept (gbelow GA))
  have HLA := Lib.hid LA
  have HIP := Lib.hid IP
  have HG4 := Lib.hid GA
  have HR0 := Lib.hid hR
  clear hro hok LA IP GA hR
  obtain ⟨⟨p0, f0⟩, ⟨p1, f1⟩, ⟨p2, f2⟩, ⟨p3, f3⟩, ⟨p4, f4⟩⟩ := FA
  go_wp2_with fail
  go_fit (pick_any _ _ _ _ _ _ HRc.out (by omega) (by omega) (by omega) (by omega))
  rintro e w' ⟨t, t0, t1, rfl, rfl⟩
  obtain ⟨t, rfl⟩ := Int.eq_ofNat_of_zero_le t0
  go_upto_if 61 with (fail)
  go_cut [] (fun wx => ∃ (A1 : AZ) (a1 : Option Addr) (c1 : Nat), Hid (Held A1 F p) ∧ A1.ds.length = A.ds.length ∧ Box5 wx bA (.slice a1 A1.ds.length c1) (.string (str A1.log)) (.string (str A1.next)) (.int .i64 A1.stage) (.bool A1.up) ∧ LD wx (.slice a1 A1.ds.length c1) A1.ds ∧ IR wx (.slice pa p.length pc) p ∧ w.grownBy wx none)
  case first =>
    rcases (show t = 0 ∨ t = 1 by omega) with rfl | rfl
    · have HD : Hid (∀ d w8 v8 raw8, WA.grownBy w8 none → OD w8 WA.heap.size v8 (diedZ A d).ds raw8 → ∀ a1 c1, v8 = .slice a1 (diedZ A d).ds.length c1 → ∃ (A1 : AZ) (a1 : Option Addr) (c1 : Nat), Hid (Held A1 F p) ∧ A1.ds.length = A.ds.length ∧ Box5 (set5 w8 bA v8 (.string (str (diedZ A d).log)) (.string (str (diedZ A d).next)) (.int .i64 (diedZ A d).stage) (.bool (diedZ A d).up)) bA (.slice a1 A1.ds.length c1) (.string (str A1.log)) (.string (str A1.next)) (.int .i64 A1.stage) (.bool A1.up) ∧ LD (set5 w8 bA v8 (.string (str (diedZ A d).log)) (.string (str (diedZ A d).next)) (.int .i64 (diedZ A d).stage) (.bool (diedZ A d).up)) (.slice a1 A1.ds.length c1) A1.ds ∧ IR (set5 w8 bA v8 (.string (str (diedZ A d).log)) (.string (str (diedZ A d).next)) (.int .i64 (diedZ A d).stage) (.bool (diedZ A d).up)) (.slice pa p.length pc) p ∧ w.grownBy (set5 w8 bA v8 (.string (str (diedZ A d).log)) (.string (str (diedZ A d).next)) (.int .i64 (diedZ A d).stage) (.bool (diedZ A d).up)) none) := fun d w8 v8 raw8 g8 o8 a1 c1 e1 => by
        subst e1
        obtain ⟨h1, h2⟩ := died_held HA.out d
        obtain ⟨k1, k2, k3, k4⟩ := hurt_put HFA.out g8 o8 hbs HIP.out HPo.out HG4.out hbw
        exact ⟨_, _, _, h1, h2, k1, k2, k3, k4⟩
      obtain ⟨f, hf⟩ := CodeAt.is HRc.out
      have HCf := Lib.hid hf
      clear hf
      have BA0 : BxA WA WA.drew bA (.slice aa A.ds.length ac) (.string (str A.log)) (.string (str A.next)) (.int .i64 A.stage) (.bool A.up) := ⟨⟨p0, p1, p2, p3, p4⟩, gdrew (grefl _) 1⟩
      clear p0 p1 p2 p3 p4 f0 f1 f2 f3 f4
      go_wp2_with fail
      refine region_head 6 (fun w' => BxA WA w' bA (.slice aa A.ds.length ac) (.string (str A.log)) (.string (str A.next)) (.int .i64 A.stage) (.bool A.up)) (by kernel_rfl) (by kernel_rfl) (of_decide_eq_true (by kernel_rfl)) (by kernel_rfl) (by kernel_rfl) (by kernel_rfl) (BA0) ?_
      simp only [List.take_succ_cons, List.take_zero]
      repeat (first
        | (refine calm_skip (by rfl) ?_; simp only [Act.put, List.setIfInBounds_toArray, List.set_cons_zero, List.set_cons_succ])
        | (refine calm_step (by rfl) ?_
           apply Exists.intro
           refine ⟨fun w' hw' => ?_, ?_⟩
           · go_simp
             first | done | exact rfl | (go_at_call 45; go_fit (pick_is _ _ _ _ _ _ f (HCf.out.kept hw'.2) (by omega) (by omega) (by omega) (by omega)); rintro e w28 ⟨rfl, rfl⟩; exact And.intro rfl hw')
           simp only [Act.put, List.setIfInBounds_toArray, List.set_cons_zero, List.set_cons_succ]))
      refine calm_nil ?_
      intro w9 hw9
      have g9 := hw9.2
      clear hw9 BA0
      change wpAny _ _ _ _ 5 #[true, true, true, true, true, true, false, false, false, false, false] _ _
      refine wpAny_ready (rs := [6]) (by kernel_rfl) (by simp) ?_
      refine AllReady.cons rfl (fun K hK => ?_) AllReady.nil
      go_simp
      go_wp2_with (first | (go_at_call 46; go_fit (specDies_any _ A _ _ (HLA.out.kept g9) hz1 hz2); rintro e w8 ⟨v8, raw8, rfl, o8, g8⟩; have g8' : WA.grownBy w8 none := gtrans g9 g8; obtain ⟨a8, c8, rfl, -⟩ := o8.form; obtain ⟨⟨p0', f0'⟩, ⟨p1', f1'⟩, ⟨p2', f2'⟩, ⟨p3', f3'⟩, ⟨p4', f4'⟩⟩ := HFA.out.kept g8'))
      refine wpAny_take (i := 7) (v := ?_) rfl (by kernel_rfl) (by kernel_rfl) (by kernel_rfl) (fun _ _ _ h => h) (Or.inl ⟨by rfl, ?_⟩) ?_
      rotate_left
      · intro w; go_simp; first | done | with_reducible rfl
      refine wpAny_take (i := 8) (v := ?_) rfl (by kernel_rfl) (by kernel_rfl) (by kernel_rfl) (fun _ _ _ h => h) (Or.inl ⟨by rfl, ?_⟩) ?_
      rotate_left
      · intro w; go_simp; first | done | with_reducible rfl
      refine wpAny_take (i := 9) (v := ?_) rfl (by kernel_rfl) (by kernel_rfl) (by kernel_rfl) (fun _ _ _ h => h) (Or.inl ⟨by rfl, ?_⟩) ?_
      rotate_left
      · intro w; go_simp; first | done | with_reducible rfl
      refine wpAny_ready (rs := [10]) (by kernel_rfl) (by simp) ?_
      refine AllReady.cons rfl (fun K hK => ?_) AllReady.nil
      go_simp
      refine hK _ _ ?_
      clear hK K
      refine wpAny_done (by kernel_rfl) ?_ _
      go_wp2_with fail
      go_meet
      exact HD.out _ _ _ _ g8' (o8.lower g9.size) _ _ rfl
    · have HD : Hid (∀ d q y w8 v8 raw8, WA.grownBy w8 none → OD w8 (bA + 1) v8 (rottedZ A d q y).ds raw8 → ∀ a1 c1, v8 = .slice a1 (rottedZ A d q y).ds.length c1 → ∃ (A1 : AZ) (a1 : Option Addr) (c1 : Nat), Hid (Held A1 F p) ∧ A1.ds.length = A.ds.length ∧ Box5 (set5 w8 bA v8 (.string (str (rottedZ A d q y).log)) (.string (str (rottedZ A d q y).next)) (.int .i64 (rottedZ A d q y).stage) (.bool (rottedZ A d q y).up)) bA (.slice a1 A1.ds.length c1) (.string (str A1.log)) (.string (str A1.next)) (.int .i64 A1.stage) (.bool A1.up) ∧ LD (set5 w8 bA v8 (.string (str (rottedZ A d q y).log)) (.string (str (rottedZ A d q y).next)) (.int .i64 (rottedZ A d q y).stage) (.bool (rottedZ A d q y).up)) (.slice a1 A1.ds.length c1) A1.ds ∧ IR (set5 w8 bA v8 (.string (str (rottedZ A d q y).log)) (.string (str (rottedZ A d q y).next)) (.int .i64 (rottedZ A d q y).stage) (.bool (rottedZ A d q y).up)) (.slice pa p.length pc) p ∧ w.grownBy (set5 w8 bA v8 (.string (str (rottedZ A d q y).log)) (.string (str (rottedZ A d q y).next)) (.int .i64 (rottedZ A d q y).stage) (.bool (rottedZ A d q y).up)) none) := fun d q y w8 v8 raw8 g8 o8 a1 c1 e1 => by
        subst e1
        obtain ⟨h1, h2⟩ := rotted_held HA.out d q y
        obtain ⟨k1, k2, k3, k4⟩ := hurt_put HFA.out g8 o8 (by omega) HIP.out HPo.out HG4.out hbw
        exact ⟨_, _, _, h1, h2, k1, k2, k3, k4⟩
      obtain ⟨f, hf⟩ := CodeAt.is HRc.out
      have HCf := Lib.hid hf
      clear hf
      have hv2 := pickV_b f n0 2 (n := (A.ds.length : Int)) (by omega)
      have hv3 := pickV_b f n0 3 (n := rowsOfZ A.ds) (by rw [HRo.out]; omega)
      have hv4 := pickV_b f n0 4 (n := 32767) (by omega)
      have hw4 : IntKind.i64.wrap (1 + pickV f n0 4 32767) = 1 + pickV f n0 4 32767 := IntWalk.i64_in _ (by omega)
      have hro1 : 0 < rowsOfZ A.ds ∧ rowsOfZ A.ds ≤ 16 := by rw [HRo.out]; omega
      clear hv2 hv3
      have BA0 : BxA WA WA.drew bA (.slice aa A.ds.length ac) (.string (str A.log)) (.string (str A.next)) (.int .i64 A.stage) (.bool A.up) := ⟨⟨p0, p1, p2, p3, p4⟩, gdrew (grefl _) 1⟩
      clear p0 p1 p2 p3 p4 f0 f1 f2 f3 f4
      go_wp2_with fail
      refine region_head 14 (fun w' => BxA WA w' bA (.slice aa A.ds.length ac) (.string (str A.log)) (.string (str A.next)) (.int .i64 A.stage) (.bool A.up)) (by kernel_rfl) (by kernel_rfl) (of_decide_eq_true (by kernel_rfl)) (by kernel_rfl) (by kernel_rfl) (by kernel_rfl) (BA0) ?_
      simp only [List.take_succ_cons, List.take_zero]
      repeat (first
        | (refine calm_skip (by rfl) ?_; simp only [Act.put, List.setIfInBounds_toArray, List.set_cons_zero, List.set_cons_succ])
        | (refine calm_step (by rfl) ?_
           apply Exists.intro
           refine ⟨fun w' hw' => ?_, ?_⟩
           · go_simp
             first | done | exact rfl | (go_at_call 45; go_fit (pick_is _ _ _ _ _ _ f (HCf.out.kept hw'.2) (by omega) (by omega) (by omega) (by omega)); rintro e w28 ⟨rfl, rfl⟩; exact And.intro rfl hw') | (go_at_call 48; go_fit (specRowsOf_any _ A.ds _ (HLA.out.kept hw'.2)); rintro e w28 ⟨rfl, g28⟩; exact And.intro rfl (BxA.kept hw' g28))
           simp only [Act.put, List.setIfInBounds_toArray, List.set_cons_zero, List.set_cons_succ]))
      refine calm_nil ?_
      intro w9 hw9
      have g9 := hw9.2
      clear hw9 BA0
      change wpAny _ _ _ _ 5 #[true, true, true, true, true, true, true, true, true, true, true, true, true, true, false, false, false, false, false] _ _
      refine wpAny_ready (rs := [14]) (by kernel_rfl) (by simp) ?_
      refine AllReady.cons rfl (fun K hK => ?_) AllReady.nil
      go_simp
      go_wp2_with (first | (go_at_call 47; go_fit (specRots_any _ A _ _ _ _ (HLA.out.kept g9) hz1 hz2); rintro e w8 ⟨v8, raw8, rfl, o8, g8⟩; have g8' : WA.grownBy w8 none := gtrans g9 g8; obtain ⟨a8, c8, rfl, -⟩ := o8.form; obtain ⟨⟨p0', f0'⟩, ⟨p1', f1'⟩, ⟨p2', f2'⟩, ⟨p3', f3'⟩, ⟨p4', f4'⟩⟩ := HFA.out.kept g8'))
      refine wpAny_take (i := 15) (v := ?_) rfl (by kernel_rfl) (by kernel_rfl) (by kernel_rfl) (fun _ _ _ h => h) (Or.inl ⟨by rfl, ?_⟩) ?_
      rotate_left
      · intro w; go_simp; first | done | with_reducible rfl
      refine wpAny_take (i := 16) (v := ?_) rfl (by kernel_rfl) (by kernel_rfl) (by kernel_rfl) (fun _ _ _ h => h) (Or.inl ⟨by rfl, ?_⟩) ?_
      rotate_left
      · intro w; go_simp; first | done | with_reducible rfl
      refine wpAny_take (i := 17) (v := ?_) rfl (by kernel_rfl) (by kernel_rfl) (by kernel_rfl) (fun _ _ _ h => h) (Or.inl ⟨by rfl, ?_⟩) ?_
      rotate_left
      · intro w; go_simp; first | done | with_reducible rfl
      refine wpAny_ready (rs := [18]) (by kernel_rfl) (by simp) ?_
      refine AllReady.cons rfl (fun K hK => ?_) AllReady.nil
      go_simp
      refine hK _ _ ?_
      clear hK K
      refine wpAny_done (by kernel_rfl) ?_ _
      go_wp2_with fail
      go_meet
      exact HD.out _ _ _ _ _ _ g8' (o8.lower (by have := g9.size; omega)) _ _ rfl
  case rest =>
    obtain ⟨A1, a1, c1, HA1, hl1, BA, LA, IP, G5⟩ := hcut
    clear hl1 p0 p1 p2 p3 p4 f0 f1 f2 f3 f4 HFA HLA HIP HG4 HRc HRo HPo
    have hRr := HR0.out.kept (gbelow G5)
    have hpi : (1 : Int) ≤ p.length := by omega
    go_wp2_with fail
    go_fit (pick_any _ _ _ _ _ _ hRr (by omega) (by omega) (by omega) (by omega))
    rintro e w' ⟨l, l0, l1, rfl, rfl⟩
    obtain ⟨l, rfl⟩ := Int.eq_ofNat_of_zero_le l0
    go_wp2_with fail
    go_fit (pick_any _ _ _ _ _ _ hRr (by omega) (by omega) (by omega) (by omega))
    rintro e w' ⟨x, x0, x1, rfl, rfl⟩
    have hlp : l < p.length := by omega
    obtain ⟨X, hX⟩ := steps_of HA1.out hlp (x := x) (inB_yes (by omega) (by omega))
    have HX := Lib.hid hX
    clear hX hRr HR0 l0
    have HTc := Lib.hid (HT.out.kept G5)
    have HVc := Lib.hid (HV.out.kept G5)
    clear HT HV
    have HBA := Lib.hid BA
    obtain ⟨p0, p1, p2, p3, p4⟩ := BA
    go_wp2_with fail
    go_fit (implBegun_any _ A1 l x _ LA HTc.out HVc.out)
    rintro e w6 ⟨vX, rawX, rfl, oX, g6⟩
    rw [HX.out.begun.2] at oX
    rw [HX.out.begun.1, HX.out.begun.2]
    clear p0 p1 p2 p3 p4
    obtain ⟨xa, xc, rfl, -⟩ := oX.form
    have eX := galloc (grefl w6) (.cells #[.slice xa (X 0).ds.length xc, .string (str (X 0).log), .string (str (X 0).next), .int .i64 (X 0).stage, .bool (X 0).up] 47)
    have FX := Five.new w6 (.slice xa (X 0).ds.length xc) (.string (str (X 0).log)) (.string (str (X 0).next)) (.int .i64 (X 0).stage) (.bool (X 0).up) 47
    have LX := oX.ld.kept eX
    have G6 := gtrans G5 g6
    have HB6 := Lib.hid (HBA.out.kept g6)
    replace LA := LA.kept g6
    replace IP := IP.kept g6
    have HT6 := Lib.hid (HTc.out.kept g6)
    have HV6 := Lib.hid (HVc.out.kept g6)
    have E6 : w6.grownBy (w6.alloc (.cells #[.slice xa (X 0).ds.length xc, .string (str (X 0).log), .string (str (X 0).next), .int .i64 (X 0).stage, .bool (X 0).up] 47)) none := eX
    clear eX g6 oX HTc HVc HBA G5
    go_upto_region 15 with (fail)
    generalize w6.alloc (.cells #[.slice xa (X 0).ds.length xc, .string (str (X 0).log), .string (str (X 0).next), .int .i64 (X 0).stage, .bool (X 0).up] 47) = WX at *
    generalize hbX : w6.heap.size = bX at *
    have hbX6 : w6.heap.size ≤ bX := by omega
    clear hbX
    have HN : Hid (∀ s, steppedZ (X s) = X (s + 1)) := HX.out.next
    go_wp2_with fail
    go_loopw [16] (fun i wr => ∃ (s : Nat) (v : Option Addr) (c : Nat), s ≤ 5 ∧ i = .int .i64 s ∧ Five wr bX (.slice v (X s).ds.length c) (.string (str (X s).log)) (.string (str (X s).next)) (.int .i64 (X s).stage) (.bool (X s).up) ∧ LD wr (.slice v (X s).ds.length c) (X s).ds ∧ w6.grownBy wr none) (fun i _ => 5 - (intOf i).toNat)
    case atStart => exact ⟨0, _, _, by omega, rfl, FX, LX, E6⟩
    case round =>
      clear FX LX E6
      obtain ⟨s, xa, xc, hs, rfl, FX, LX, GX⟩ := hrel
      by_cases hlt : s < 5
      · have hsi : (s : Int) < 5 := by omega
        have HRd : Hid (∀ k, ∀ _ : k < p.length, readOkA (X s) k = true ∧ readVA (X s) k = if k = l ∧ 2 ≤ s then x else p[k]) := HX.out.read s (by omega)
        have HNs : Hid (steppedZ (X s) = X (s + 1)) := HN.out s
        have HXs : Hid (X (s + 1) = X (s + 1)) := rfl
        generalize hXn : X (s + 1) = Xn at *
        have HXn := Lib.hid hXn
        clear hXn HXs
        generalize hXc : X s = Xs at *
        clear hXc
        have HFX := Lib.hid FX
        clear FX
        go_wp2_with fail
        go_loopw [17] (fun i wi => ∃ k : Nat, k ≤ p.length ∧ i = .int .i64 k ∧ wr.grownBy wi none) (fun i _ => p.length - (intOf i).toNat)
        case atStart => exact ⟨0, Nat.zero_le _, rfl, grefl _⟩
        case round =>
          obtain ⟨k, hk, rfl, GI⟩ := hrel
          have GW := gtrans GX GI
          obtain ⟨r0, r1, r2, r3, r4⟩ := (HFX.out.kept GI).box
          by_cases hkl : k < p.length
          · have hki : (k : Int) < p.length := by omega
            obtain ⟨h1, h2⟩ := HRd.out k hkl
            have HR1 := Lib.hid h1
            obtain ⟨g, o, rfl, hpk⟩ := (IP.kept GW).at k hkl
            by_cases hc : k = l ∧ 2 ≤ s
            · rw [if_pos hc] at h2
              have HR2 := Lib.hid h2
              obtain ⟨rfl, h2s⟩ := hc
              have h2i : (2 : Int) ≤ s := by omega
              clear h1 h2
              go_wp2_with fail
              go_fit (implReadArray_any _ Xs k _ (LX.kept GI) (HT6.out.kept GW) (HV6.out.kept GW))
              rintro e w7 ⟨rfl, g7⟩
              rw [HR1.out, HR2.out]
              clear r0 r1 r2 r3 r4
              go_wp2_with fail
              go_roundw
              case rel => exact ⟨k + 1, by omega, by go_num, gtrans GI g7⟩
              case measure => simp [intOf]; omega
            · rw [if_neg hc] at h2
              have HR2 := Lib.hid h2
              by_cases hkl2 : k = l
              · subst hkl2
                have h2i : ¬ (2 : Int) ≤ s := by omega
                generalize p[k] = pv at *
                clear h1 h2
                go_wp2_with fail
                go_fit (implReadArray_any _ Xs k _ (LX.kept GI) (HT6.out.kept GW) (HV6.out.kept GW))
                rintro e w7 ⟨rfl, g7⟩
                rw [HR1.out, HR2.out]
                clear r0 r1 r2 r3 r4
                go_wp2_with fail
                go_roundw
                case rel => exact ⟨k + 1, by omega, by go_num, gtrans GI g7⟩
                case measure => simp [intOf]; omega
              · have hne : ((k : Int) == (l : Int)) = false := beq_eq_false_iff_ne.2 (by omega)
                generalize p[k] = pv at *
                clear h1 h2
                go_wp2_with fail
                go_fit (implReadArray_any _ Xs k _ (LX.kept GI) (HT6.out.kept GW) (HV6.out.kept GW))
                rintro e w7 ⟨rfl, g7⟩
                rw [HR1.out, HR2.out]
                clear r0 r1 r2 r3 r4
                go_wp2_with fail
                go_roundw
                case rel => exact ⟨k + 1, by omega, by go_num, gtrans GI g7⟩
                case measure => simp [intOf]; omega
          · go_wp2_with fail
            go_fit (implStepped_any _ Xs _ (LX.kept GI) (HT6.out.kept GW) (HV6.out.kept GW))
            rintro e w8 ⟨v8, raw8, rfl, o8, g8⟩
            rw [HNs.out] at o8 ⊢
            obtain ⟨xa8, xc8, rfl, -⟩ := o8.form
            have FI := HFX.out.kept GI
            have hbi : bX < wr.heap.size := cell_lt FI.c0.1
            obtain ⟨n1, n2⟩ := o8.not_old hbi
            have F9 := (FI.kept g8).all (.slice xa8 Xn.ds.length xc8) (.string (str Xn.log)) (.string (str Xn.next)) (.int .i64 Xn.stage) (.bool Xn.up)
            have L9 := (o8.set5 n1 n2 (.slice xa8 Xn.ds.length xc8) (.string (str Xn.log)) (.string (str Xn.next)) (.int .i64 Xn.stage) (.bool Xn.up)).ld
            have G9 := gset5 (gtrans GW g8) hbX6 (.slice xa8 Xn.ds.length xc8) (.string (str Xn.log)) (.string (str Xn.next)) (.int .i64 Xn.stage) (.bool Xn.up)
            obtain ⟨⟨s0, t0⟩, ⟨s1, t1⟩, ⟨s2, t2⟩, ⟨s3, t3⟩, ⟨s4, t4⟩⟩ := FI.kept g8
            clear r0 r1 r2 r3 r4 o8
            go_wp2_with fail
            go_roundw
            case rel => exact ⟨s + 1, xa8, xc8, by omega, by go_num, by rw [HXn.out]; exact F9, by rw [HXn.out]; exact L9, G9⟩
            case measure => simp [intOf]; omega
      · obtain rfl : s = 5 := by omega
        have HW := Lib.hid HX.out.last
        have CI := fun (W : World) (v : Value) (h : LD W v A1.ds) (t : Pow10 W) (u : LibV W) => implWriteArray_any v A1 l x W h t u
        rw [HW.out.1, HW.out.2.1] at CI
        have HSt : Hid ((X 5).stage = 0) := HW.out.2.2
        clear HX HN HW
        generalize X 5 = X5 at *
        have HFX := Lib.hid FX
        clear FX
        obtain ⟨p0, p1, p2, p3, p4⟩ := HB6.out.kept GX
        go_wp2_with fail
        go_fit (CI _ _ (LA.kept GX) (HT6.out.kept GX) (HV6.out.kept GX))
        rintro e w9 ⟨v9, raw9, rfl, o9, g9⟩
        obtain ⟨ya, yc, rfl, -⟩ := o9.form
        have CY := galloc (grefl w9) (.cells #[.slice ya X5.ds.length yc, .string (str X5.log), .string (str X5.next), .int .i64 X5.stage, .bool X5.up] 47)
        have BY := Box5.new w9 (.slice ya X5.ds.length yc) (.string (str X5.log)) (.string (str X5.next)) (.int .i64 X5.stage) (.bool X5.up) 47
        have g10 := gtrans g9 CY
        have LY := o9.ld.kept CY
        have BX := (HFX.out.kept g10).box
        clear p0 p1 p2 p3 p4 o9 CI
        go_upto_region 31 with (fail)
        generalize w9.alloc (.cells #[.slice ya X5.ds.length yc, .string (str X5.log), .string (str X5.next), .int .i64 X5.stage, .bool X5.up] 47) = WY at *
        generalize w9.heap.size = bY at *
        have hv := likeArray_yes X5 _ _ WY (LX.kept g10) LY
        rw [HSt.out] at BX BY
        unfold AZ.val at hv
        rw [HSt.out] at hv
        obtain ⟨p0, p1, p2, p3, p4⟩ := BX
        obtain ⟨r0, r1, r2, r3, r4⟩ := BY
        go_wp2_with fail
        go_fit hv
        rintro e w11 ⟨rfl, g11⟩
        go_wp2_with fail
        go_ret
        exact ⟨rfl, gbelow (gtrans (gtrans (gtrans G6 GX) g10) g11)⟩

set_option maxRecDepth 100000 in
theorem lifted (os : Os) (started : os.Started) (H : Type) (enc : TypeId × Value → H) :
    ReturnsInHanded {} Tryz.checked os 5 .any (fun w args => (Rows.fnAsOneSpec.pre enc Tryz.prog Tryz.f5 [] false w args ∧ laidMetH Tryz.prog laidL w) ∧ sizedMet enc Tryz.prog Tryz.f5 (OpenSpec.ofChange Rows.fnAsOneSpec) false w args)
      (Rows.fnAsOneSpec.post enc Tryz.prog Tryz.f5 false true false false) := by
  refine handed_laid_shaped (C := Tryz.checked) (X := fun w _ => laidMetH Tryz.prog laidL w) (fun _ _ _ hh h => h.of_heap hh) own started (by kernel_rfl) Tryz.func5
    (ChangeSpec.witness_shaped (enc := enc) (C := Tryz.checked) (os := os) (X := fun w _ => laidMetH Tryz.prog laidL w) false (startW os) #[.slice none 0 0] 8 rfl (World.shaped_of_RefB (by kernel_rfl) (by kernel_rfl)) (by kernel_rfl) (by kernel_rfl) (by kernel_rfl) (door_met os _)) ?_
  intro W base args ds gs before hval0 hW hL hS
  have hval : ∀ (j : Nat) t v, Tryz.f5.params[j]? = some t → args[j]? = some v → Value.okWide Tryz.prog W .any base t v := hval0
  have hW' := hW
  obtain ⟨p, q, hA0, hV, rfl, hfz, hnd⟩ := hW
  have hA : DataW.TrodAll enc Tryz.prog W 0 (fun _ => true) true Tryz.f5.params.toList args.toList ds p := hA0
  rw [Tryz.params5] at hA hval
  obtain ⟨x0, vs0, d0, ds0, p0, q0, hargs, rfl, rfl, h0, r0⟩ := trodAll_cons hA
  obtain ⟨rfl, rfl, rfl⟩ := trodAll_nil r0
  obtain rfl : args = #[x0] := by cases args; simp_all
  obtain ⟨rfl, rfl⟩ := trodVars_none hV
  have k0 := h0
  have lt0 : ∀ x ∈ p0, x.block < W.heap.size := by obtain ⟨m, hm⟩ := k0; exact DataW.trod_lt m _ _ _ hm
  obtain ⟨a0, n0, c0, z0, rfl, w0⟩ := openCode (hval 0 22 x0 rfl rfl) h0
  clear hA0 hval0
  refine (walk W (plainL hL) hS a0 n0 c0 z0 w0).mono fun e W' ⟨he, bel⟩ => ?_
  subst he
  exact ⟨_, rfl, _, _, _, [], _, [], hW', trodAll_mk1 (shut_bool Tryz.underlying4 _), (trodAll_cons_mk (Below.trod laidOut (by kernel_rfl) (of_decide_eq_true (by kernel_rfl)) k0 bel lt0) trodAll_mk0), rfl, bel.frame _, fun h => by cases h⟩

theorem over1 : (Rows.fnAsOneRow.inPlace == Tryz.pinned.checked.prog.inPlace 5) = true := by kernel_rfl
theorem over2 : (Rows.fnAsOneRow.unfollowed == Tryz.pinned.checked.prog.unfollowed 5) = true := by kernel_rfl
theorem over3 : (Rows.fnAsOneRow.recurses == Tryz.pinned.checked.prog.recurses 5) = true := by kernel_rfl
theorem over4 : (Rows.fnAsOneRow.named == Tryz.pinned.checked.prog.varsNamed 5) = true := by kernel_rfl
theorem overs : joinedFacts Tryz.pinned.checked.prog 5 Tryz.f5 Rows.fnAsOneSpec Rows.fnAsOneRow = true := by
  unfold joinedFacts
  rw [over1, over2, over3, over4]
  kernel_rfl
theorem over : Rows.FnAsOneSaid :=
  OpenClaim.holds_of_wide 5 Tryz.f5 rfl rfl rfl rfl rfl rfl rfl ⟨rfl, rfl, rfl, rfl, rfl⟩ rfl rfl rfl rfl rfl (by kernel_rfl) Tryz.func5 overs
    (of_decide_eq_true (by kernel_rfl)) (by unfold Func.isWrapper; first | (rw [if_pos (by decide +kernel)]; kernel_rfl) | (rw [if_neg (by decide +kernel)]; exact ⟨rfl, rfl⟩))
    (fun os started H enc _ => lifted os started H enc)

theorem proved : Rows.FnAsOneCardSaid :=
  Claim7.holds_tied_plain_at .later [] [.data, .data, .data, .data, .sentinel, .sentinel, .pinned] true (true, "4cacc0393fa2a022be30162e432a8d6d8adfc363a75c99ed321b0087c3ded344") true
    over (fun _ h => by cases h) (by kernel_rfl) (fun _ h => by cases h) fnAsOne_row_tie rfl ⟨rfl, rfl⟩ (by kernel_rfl) rfl
    (fun f fn hf hfn => by
      obtain rfl : f = 5 := Option.some.inj ((show Tryz.prog.funcNamed "loop.example/g00406/laws.FnAsOne" = some 5 by kernel_rfl).symm.trans hf) |>.symm
      obtain rfl : fn = Tryz.f5 := (Option.some.inj (Tryz.func5.symm.trans hfn)).symm
      exact ⟨by kernel_rfl, fun j t ht => by
        rw [Tryz.params5] at ht
        have hm : t ∈ [22] := by
          have := List.mem_of_getElem? (l := [22]) (i := j) (a := t) (by simpa using ht)
          exact this
        simp only [List.mem_cons, List.mem_nil_iff, or_false] at hm
        rcases hm with rfl
        · exact (show Tryz.prog.wantsStandIn 22 = false by kernel_rfl)⟩)
    (by kernel_rfl)
#print axioms proved
end Go.Proofs.YtdfhfebcbmolbaaGreatDoor.fnAsOne
