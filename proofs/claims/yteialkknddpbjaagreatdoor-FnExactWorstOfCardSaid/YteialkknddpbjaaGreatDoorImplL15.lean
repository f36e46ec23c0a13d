/- What WorstOf returns, on both sides: the greatest number of lost cells in a row. -/
import Derived.Test.YteialkknddpbjaaGreatDoorImplL10
import Derived.Test.YteialkknddpbjaaGreatDoorLawX
namespace Go.Proofs.YteialkknddpbjaaGreatDoor
open Go.ChangeShapes Go.WideShapes Go.ChangeAt Go.RowKit

/-- the greatest number of lost cells in the first k rows -/
def worstN (l : List DZ) : Nat → Nat
  | 0 => 0
  | k + 1 => max (worstN l k) (badZ l (k : Int)).length
def worstZ (a : AZ) : Int := if a.ok then (worstN a.ds (rowsZ a.ds) : Int) else -1
theorem worst_next (l : List DZ) (k : Nat) : (worstN l (k + 1) : Int) = if (worstN l k : Int) > ((badZ l (k : Int)).length : Int) then (worstN l k : Int) else ((badZ l (k : Int)).length : Int) := by
  simp only [worstN]; split <;> omega
set_option maxRecDepth 8000 in
set_option maxHeartbeats 1000000 in
theorem l1Max_any (x y : Int) (w : World) :
    Calls Tryz.prog 185 #[.int .i64 x, .int .i64 y] w fun e w' => e = .returned (.int .i64 (if x > y then x else y)) ∧ w = w' := by
  by_cases h : x > y
  · rw [if_pos h]
    go_enter Tryz.func185, Tryz.ntmps185
    go_wp2_with fail
    go_ret
    exact ⟨rfl, rfl⟩
  · rw [if_neg h]
    go_enter Tryz.func185, Tryz.ntmps185
    go_wp2_with fail
    go_ret
    exact ⟨rfl, rfl⟩
set_option maxRecDepth 8000 in
set_option maxHeartbeats 4000000 in
theorem l11Worst_any (v : Value) (a : AZ) (w : World) (h : LD w v a.ds) (hl : a.ds.length ≤ 1000) (hr : rowsZ a.ds ≤ 1000) :
    Calls Tryz.prog 115 #[a.val v] w (Pure (.int .i64 (worstN a.ds (rowsZ a.ds) : Int)) w) := by
  obtain ⟨xa, cap, rfl, hm⟩ := h.form
  have B0 := Box5.new w (.slice xa a.ds.length cap) (.string (str a.log)) (.string (str a.next)) (.int .i64 a.stage) (.bool a.up) 26
  have G0 := galloc (grefl w) (.cells #[.slice xa a.ds.length cap, .string (str a.log), .string (str a.next), .int .i64 a.stage, .bool a.up] 26)
  go_enter Tryz.func115, Tryz.ntmps115
  go_upto_region 1 with (fail)
  generalize w.alloc (.cells #[.slice xa a.ds.length cap, .string (str a.log), .string (str a.next), .int .i64 a.stage, .bool a.up] 26) = W0 at *
  have HB0 := Lib.hid B0
  obtain ⟨p0, p1, p2, p3, p4⟩ := B0
  have HB := fun (W : World) (g : W0.grownBy W none) => Lib.hid (HB0.out.kept g)
  go_wp2_with fail
  go_loopw [3, 4] (fun x i wr => ∃ k : Nat, k ≤ rowsZ a.ds ∧ i = .int .i64 (k : Int) ∧ x = .int .i64 (worstN a.ds k : Int) ∧ W0.grownBy wr none) (fun _ i _ => rowsZ a.ds - (intOf i).toNat)
  case atStart => exact ⟨0, Nat.zero_le _, rfl, rfl, grefl _⟩
  case round =>
    clear p0 p1 p2 p3 p4
    obtain ⟨k, hk, rfl, rfl, G⟩ := hrel
    obtain ⟨c0, c1, c2, c3, c4⟩ := (HB _ G).out
    have GG := gtrans G0 G
    have hL := h.kept GG
    go_wp2_with fail
    go_fit (l6Rows_any _ a.ds _ hL)
    rintro e w' ⟨rfl, rfl⟩
    by_cases hlt : k < rowsZ a.ds
    · have hki : (k : Int) < rowsZ a.ds := by omega
      have HN := Lib.hid (worst_next a.ds k)
      go_wp2_with fail
      go_fit (l6Bad_any _ a.ds (k : Int) _ hL (by omega))
      rintro e w2 ⟨bv, rfl, bI, g2⟩
      obtain ⟨ba, bn, bc, rfl⟩ := bI.sl
      obtain rfl : bn = (badZ a.ds (k : Int)).length := bI.bound.1
      have hbb := bI.bound.2
      clear bI
      generalize worstN a.ds k = X at *
      generalize (badZ a.ds (k : Int)).length = Y at *
      go_wp2_with fail
      go_fit (l1Max_any _ _ _)
      rintro e w3 ⟨rfl, rfl⟩
      go_wp2_with fail
      go_roundw
      case rel => exact ⟨k + 1, by omega, by go_num, by rw [HN.out]; congr 1; split <;> split <;> omega, gtrans G g2⟩
      case measure => simp [intOf]; omega
    · obtain rfl : k = rowsZ a.ds := by omega
      have hki : ¬ (rowsZ a.ds : Int) < rowsZ a.ds := by omega
      go_wp2_with fail
      go_ret
      exact ⟨rfl, GG⟩
set_option maxRecDepth 8000 in
set_option maxHeartbeats 4000000 in
theorem specWorstOf_any (v : Value) (a : AZ) (w : World) (h : LD w v a.ds) (h1 : a.log.length ≤ 1100000) (h2 : a.next.length ≤ 1100000) :
    Calls Tryz.prog 48 #[a.val v] w (Pure (.int .i64 (worstZ a)) w) := by
  obtain ⟨xa, cap, rfl, hm⟩ := h.form
  have B0 := Box5.new w (.slice xa a.ds.length cap) (.string (str a.log)) (.string (str a.next)) (.int .i64 a.stage) (.bool a.up) 26
  have G0 := galloc (grefl w) (.cells #[.slice xa a.ds.length cap, .string (str a.log), .string (str a.next), .int .i64 a.stage, .bool a.up] 26)
  go_enter Tryz.func48, Tryz.ntmps48
  go_upto_region 1 with (fail)
  generalize w.alloc (.cells #[.slice xa a.ds.length cap, .string (str a.log), .string (str a.next), .int .i64 a.stage, .bool a.up] 26) = W0 at *
  have HB0 := Lib.hid B0
  obtain ⟨p0, p1, p2, p3, p4⟩ := B0
  cases hok : a.ok
  · have HE : Hid (-1 = worstZ a) := by show _ = _; unfold worstZ; rw [hok]; rfl
    go_wp2_with fail
    go_fit (specArrayOk_any _ a _ (h.kept G0) h1 h2)
    rintro e w1 ⟨rfl, g1⟩
    rw [hok]
    go_wp2_with fail
    go_ret
    exact ⟨ret_int HE.out, gtrans G0 g1⟩
  · have HE : Hid ((worstN a.ds (rowsZ a.ds) : Int) = worstZ a) := by show _ = _; unfold worstZ; rw [hok]; rfl
    have hl5 := (ds_small (AZ.ok_ds hok)).1
    have hr16 : rowsZ a.ds ≤ 16 := (ok_good hok).rows
    go_wp2_with fail
    go_fit (specArrayOk_any _ a _ (h.kept G0) h1 h2)
    rintro e w1 ⟨rfl, g1⟩
    rw [hok]
    have G1 := gtrans G0 g1
    obtain ⟨c0, c1, c2, c3, c4⟩ := HB0.out.kept g1
    clear p0 p1 p2 p3 p4 hok
    go_wp2_with fail
    go_fit (l11Worst_any _ a _ (h.kept G1) (by omega) (by omega))
    rintro e w2 ⟨rfl, g2⟩
    go_wp2_with fail
    go_ret
    exact ⟨ret_int HE.out, gtrans G1 g2⟩
set_option maxRecDepth 8000 in
set_option maxHeartbeats 4000000 in
theorem implWorstOf_any (v : Value) (a : AZ) (w : World) (h : LD w v a.ds) (ht : Pow10 w) (hV : LibV w) :
    Calls Tryz.prog 47 #[a.val v] w (Pure (.int .i64 (worstZ a)) w) := by
  obtain ⟨xa, cap, rfl, hm⟩ := h.form
  have B0 := Box5.new w (.slice xa a.ds.length cap) (.string (str a.log)) (.string (str a.next)) (.int .i64 a.stage) (.bool a.up) 26
  have G0 := galloc (grefl w) (.cells #[.slice xa a.ds.length cap, .string (str a.log), .string (str a.next), .int .i64 a.stage, .bool a.up] 26)
  go_enter Tryz.func47, Tryz.ntmps47
  go_upto_region 1 with (fail)
  generalize w.alloc (.cells #[.slice xa a.ds.length cap, .string (str a.log), .string (str a.next), .int .i64 a.stage, .bool a.up] 26) = W0 at *
  have HB0 := Lib.hid B0
  obtain ⟨p0, p1, p2, p3, p4⟩ := B0
  cases hok : a.ok
  · have HE : Hid (-1 = worstZ a) := by show _ = _; unfold worstZ; rw [hok]; rfl
    go_wp2_with fail
    go_fit (implArrayOk_any _ a _ (h.kept G0) (ht.kept G0) (hV.kept G0))
    rintro e w1 ⟨rfl, g1⟩
    rw [hok]
    go_wp2_with fail
    go_ret
    exact ⟨ret_int HE.out, gtrans G0 g1⟩
  have HE : Hid ((worstN a.ds (rowsZ a.ds) : Int) = worstZ a) := by show _ = _; unfold worstZ; rw [hok]; rfl
  have hdk := AZ.ok_ds hok
  have hr16 := rows_le hdk
  have HBd : Hid (∀ k : Nat, k < rowsZ a.ds → badInZ a.ds (k : Int) = badZ a.ds (k : Int)) := fun k hk => by
    unfold badInZ hasZ; rw [hdk, decide_eq_true (show 0 ≤ (k : Int) ∧ (k : Int) < rowsZ a.ds by omega)]; rfl
  go_wp2_with fail
  go_fit (implArrayOk_any _ a _ (h.kept G0) (ht.kept G0) (hV.kept G0))
  rintro e w1 ⟨rfl, g1⟩
  rw [hok]
  have G1 := gtrans G0 g1
  have HB1 := Lib.hid (HB0.out.kept g1)
  obtain ⟨c0, c1, c2, c3, c4⟩ := HB1.out
  clear p0 p1 p2 p3 p4 hok
  go_wp2_with fail
  go_fit (rowsIn_any _ a.ds _ (h.kept G1) hdk)
  rintro e w2 ⟨rv, rfl, I2, g2⟩
  obtain ⟨ra, rn, rc, rfl⟩ := I2.sl
  obtain rfl : rn = rowsZ a.ds := by have := I2.bound.1; rw [rowsTo_length] at this; exact this
  have HR := Lib.hid I2.rd
  have HRl := Lib.hid (rowsTo_length (rowsZ a.ds))
  have G2 := gtrans G1 g2
  have HB2 := Lib.hid (HB1.out.kept g2)
  clear c0 c1 c2 c3 c4 I2 hdk
  go_wp2_with fail
  go_loopw [3, 13] (fun x i wr => ∃ k : Nat, k ≤ rowsZ a.ds ∧ i = .int .i64 (k : Int) ∧ x = .int .i64 (worstN a.ds k : Int) ∧ w2.grownBy wr none) (fun _ i _ => rowsZ a.ds - (intOf i).toNat)
  case atStart => exact ⟨0, Nat.zero_le _, rfl, rfl, grefl _⟩
  case round =>
    obtain ⟨k, hk, rfl, rfl, G⟩ := hrel
    obtain ⟨c0, c1, c2, c3, c4⟩ := HB2.out.kept G
    have GG := gtrans G2 G
    have hL := h.kept GG
    by_cases hlt : k < rowsZ a.ds
    · have hki : (k : Int) < rowsZ a.ds := by omega
      have HN := Lib.hid (worst_next a.ds k)
      have hkl : k < (rowsTo (rowsZ a.ds)).length := by rw [HRl.out]; exact hlt
      obtain ⟨rg, ro, rfl, hrc⟩ := Rd.at (HR.out.kept G) k hkl
      rw [rowsTo_get hlt] at hrc
      clear hkl
      go_wp2_with fail
      go_fit (implBadIn_any _ a.ds (k : Int) _ hL)
      rintro e w3 ⟨bv, rfl, bI, g3⟩
      rw [HBd.out k hlt] at bI
      obtain ⟨ba, bn, bc, rfl⟩ := bI.sl
      obtain rfl : bn = (badZ a.ds (k : Int)).length := bI.bound.1
      have hbb := bI.bound.2
      clear bI
      generalize worstN a.ds k = X at *
      generalize (badZ a.ds (k : Int)).length = Y at *
      go_wp2_with fail
      go_roundw
      case rel => exact ⟨k + 1, by omega, by go_num, by rw [HN.out]; congr 1; split <;> omega, gtrans G g3⟩
      case measure => simp [intOf]; omega
    · obtain rfl : k = rowsZ a.ds := by omega
      have hki : ¬ (rowsZ a.ds : Int) < rowsZ a.ds := by omega
      go_wp2_with fail
      go_ret
      exact ⟨ret_int HE.out, GG⟩
end Go.Proofs.YteialkknddpbjaaGreatDoor
