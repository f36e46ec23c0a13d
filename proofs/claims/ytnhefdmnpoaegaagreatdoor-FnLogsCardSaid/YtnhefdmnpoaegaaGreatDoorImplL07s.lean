/- What ShowPatch returns, the program's and the specification's. -/
import Derived.Test.YtnhefdmnpoaegaaGreatDoorImplL07p
import Derived.Test.YtnhefdmnpoaegaaGreatDoorMathL07
import Derived.Test.YtnhefdmnpoaegaaGreatDoorShelf
import Derived.Lib.SmallJoins
import Derived.Lib.LaidTab
namespace Go.Proofs.YtnhefdmnpoaegaaGreatDoor
open Go.ChangeShapes Go.WideShapes Go.ChangeAt Go.RowKit
attribute [local go_sem] str_list str_size str_add lit_list0 add_lit lit_add str_cut

/-- the library's table of powers of ten is laid -/
abbrev Pow10 (w : World) : Prop := Lib.TabIs Tryz.prog w "internal/strconv.uint64pow10" .u64 Lib.pow10Tab
theorem pow10_some : (Tryz.prog.globalNamed "internal/strconv.uint64pow10").isSome = true := by kernel_rfl
theorem pow10_named : ∃ g, Tryz.prog.globalNamed "internal/strconv.uint64pow10" = some g := Option.isSome_iff_exists.1 pow10_some
theorem Pow10.kept {w w' : World} (h : Pow10 w) (g : w.grownBy w' none) : Pow10 w' := by
  obtain ⟨k, hk⟩ := pow10_named
  exact Joins.tab_stays hk h (gbelow g) (Nat.le_refl _)
theorem digT_dec (n : Nat) : Lib.decDigits n = digT n := by
  induction n using Nat.strongRecOn with
  | ind n ih =>
    rw [Lib.decDigits, digT]
    split
    · rfl
    · rw [ih (n / 10) (by omega)]; rfl
theorem itoa_dig (n : Nat) : Lib.itoa (n : Int) = digT n := by
  unfold Lib.itoa
  rw [if_neg (by omega), Int.toNat_natCast, digT_dec]
theorem gGrow (w : World) (k : Nat) (os : Array Obj) : w.grownBy (Sort.grow (w.drewN k) os) none :=
  ⟨rfl, rfl, rfl, by simp [Sort.grow], fun i hi _ => by simp [Sort.grow]; rw [Array.getElem?_append_left (by simpa using hi)]⟩
theorem formatInt_any (n : Nat) (w : World) (hn : n ≤ 1000000) (ht : Pow10 w) :
    Calls Tryz.prog 37 #[.int .i64 n, .int .i64 10] w (Pure (.string (str (digT n))) w) := by
  go_fit (Tryz.strconv_FormatInt_10 n (by omega) (by omega) w ht)
  rintro e w' ⟨rfl, k, os, rfl⟩
  exact ⟨by rw [itoa_dig]; rfl, gGrow w k os⟩
theorem join_words (l : List (List UInt8)) : Lib.join l [32] = wordsT l := by
  induction l with
  | nil => rfl
  | cons x r ih =>
    cases r with
    | nil => simp [Lib.join, List.intercalate, wordsT]
    | cons y r =>
      rw [wordsT, ← ih]
      simp [Lib.join, List.intercalate]
theorem below_grown {w w' : World} (h : Below w.heap.size w w') : w.grownBy w' none := ⟨h.os, h.tape, h.output, h.size, fun k hk _ => h.block k hk⟩
theorem join_any (v : Value) (l : List (List UInt8)) (base : Nat) (w : World) (h : TS w base v l) (hne : l ≠ []) (hl : (wordsT l).length ≤ 140737488355328) (hn : l.length ≤ 1000) :
    Calls Tryz.prog 51 #[v, .string ⟨#[32]⟩] w (Pure (.string (str (wordsT l))) w) := by
  obtain ⟨a, cap, rfl, hm⟩ := Own.form h
  have h0 : 0 < l.length := List.length_pos_iff.2 hne
  obtain ⟨g, o, rfl, -⟩ := TR.at h.rd 0 h0
  have hc := h.rd
  obtain ⟨a', cap', e1, hcap, hcm, h4⟩ := hc
  cases e1
  rcases h4 with h4 | ⟨g', o', e2, hb, hcell⟩
  · exact absurd h4 hne
  cases e2
  have hmap : (l.map str).map (fun s => s.data.toList) = l := by
    rw [List.map_map]
    exact (List.map_congr_left (fun x _ => by simp [str])).trans (List.map_id l)
  have C := Tryz.strings_Join g o cap (l.map str) ⟨#[32]⟩ w (fun j x hj => by
    rw [List.getElem?_map] at hj
    obtain ⟨t, ht, rfl⟩ := Option.map_eq_some_iff.1 hj
    exact hcell j _ (by rw [strE_all, List.getElem?_map, ht]; rfl)) hb (by simp; omega) (by simpa using hcap) (by rw [hmap, show (⟨#[32]⟩ : ByteArray).data.toList = [32] from rfl, join_words]; exact hl)
  rw [List.length_map, hmap] at C
  go_fit C
  rintro e w' ⟨rfl, hbel⟩
  exact ⟨by rw [show (⟨#[32]⟩ : ByteArray).data.toList = [32] from rfl, join_words]; rfl, below_grown hbel⟩
/-- what ShowPatch returns -/
def showZ (p : PZ) : List UInt8 := if p.ok then p.text else []
theorem showZ_no {p : PZ} (h : p.ok = false) : showZ p = [] := by simp [showZ, h]
theorem showZ_yes {p : PZ} (h : p.ok = true) : showZ p = p.text := by simp [showZ, h]
set_option maxHeartbeats 1000000 in
theorem specShowPatch_any (p : PZ) (dv vv : Value) (w : World) (hd : IR w dv p.ds) (hv : IR w vv p.vs) :
    Calls Tryz.prog 16 #[.agg #[.int .i64 p.row, dv, vv]] w (Pure (.string (str (showZ p))) w) := by
  obtain ⟨da, dc, rfl, dm⟩ := hd.form
  obtain ⟨va, vc, rfl, vm⟩ := hv.form
  have B0 := Box3.new w (.int .i64 p.row) (.slice da p.ds.length dc) (.slice va p.vs.length vc) 26
  have G0 := galloc (grefl w) (.cells #[.int .i64 p.row, .slice da p.ds.length dc, .slice va p.vs.length vc] 26)
  go_enter Tryz.func16, Tryz.ntmps16
  go_upto_region 1 with (fail)
  generalize w.alloc (.cells #[.int .i64 p.row, .slice da p.ds.length dc, .slice va p.vs.length vc] 26) = W0 at *
  generalize w.heap.size = bb at B0 ⊢
  have HB0 := Lib.hid B0
  obtain ⟨b0, b1, b2⟩ := B0
  cases hok : p.ok
  · have HZ := Lib.hid (showZ_no hok)
    go_wp2_with fail
    go_fit (specPatchOk_any p _ _ _ (hd.kept G0) (hv.kept G0))
    rintro e w1 ⟨rfl, g1⟩
    rw [hok]
    go_wp2_with fail
    go_ret
    exact ⟨ret_str (by rw [HZ.out]), gtrans G0 g1⟩
  · have HZ := Lib.hid (showZ_yes hok)
    have HF := Lib.hid (ok_fit hok)
    go_wp2_with fail
    go_fit (specPatchOk_any p _ _ _ (hd.kept G0) (hv.kept G0))
    rintro e w1 ⟨rfl, g1⟩
    rw [hok]
    clear b0 b1 b2 hok
    obtain ⟨b0, b1, b2⟩ := HB0.out.kept g1
    have G1 := gtrans G0 g1
    go_wp2_with fail
    go_fit (l7Show_any p _ _ _ (hd.kept G1) (hv.kept G1) HF.out)
    rintro e w2 ⟨rfl, g2⟩
    go_wp2_with fail
    go_ret
    exact ⟨ret_str (by rw [HZ.out]), gtrans G1 g2⟩
end Go.Proofs.YtnhefdmnpoaegaaGreatDoor
