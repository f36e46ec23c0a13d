/- What the program's Healed, HealedAll, Replaced, Optimal, Rots and Dies return. -/
import Derived.Test.YtnkfmjgbeoddbaaGreatDoorImplL10
import Derived.Test.YtnkfmjgbeoddbaaGreatDoorLawX
import Derived.Deep.RegionHeld3
import Derived.Laws.EntriesVeiled
namespace Go.Proofs.YtnkfmjgbeoddbaaGreatDoor
open Go.ChangeShapes Go.WideShapes Go.ChangeAt Go.RowKit
attribute [local go_sem] str_list str_size str_add lit_list0 add_lit lit_add str_cut

set_option maxRecDepth 8000 in
set_option maxHeartbeats 4000000 in
theorem implOptimal_any (v : Value) (a : AZ) (w : World) (h : LD w v a.ds) (ht : Pow10 w) (hV : LibV w) :
    Calls Tryz.prog 32 #[a.val v] w (Pure (.bool a.optimal) w) := by
  obtain ⟨xa, cap, rfl, hm⟩ := h.form
  have B0 := Box5.new w (.slice xa a.ds.length cap) (.string (str a.log)) (.string (str a.next)) (.int .i64 a.stage) (.bool a.up) 26
  have G0 := galloc (grefl w) (.cells #[.slice xa a.ds.length cap, .string (str a.log), .string (str a.next), .int .i64 a.stage, .bool a.up] 26)
  go_enter Tryz.func32, Tryz.ntmps32
  go_upto_region 1 with (fail)
  generalize w.alloc (.cells #[.slice xa a.ds.length cap, .string (str a.log), .string (str a.next), .int .i64 a.stage, .bool a.up] 26) = W0 at *
  have HB0 := Lib.hid B0
  obtain ⟨p0, p1, p2, p3, p4⟩ := B0
  by_cases hgo : (a.ok && (a.up && a.stage == 0)) = true
  rotate_left
  · have HN : Hid (a.optimal = false) := optimal_no (by simpa using hgo)
    go_wp2_with fail
    go_fit (implArrayOk_any _ a _ (h.kept G0) (ht.kept G0) (hV.kept G0))
    rintro e w1 ⟨rfl, g1⟩
    obtain ⟨c0, c1, c2, c3, c4⟩ := HB0.out.kept g1
    cases hok : a.ok
    · go_wp2_with fail
      go_ret
      exact ⟨ret_bool HN.out.symm, gtrans G0 g1⟩
    cases hu : a.up
    · rw [hu] at c4
      go_wp2_with fail
      go_ret
      exact ⟨ret_bool HN.out.symm, gtrans G0 g1⟩
    rw [hu] at c4
    have hs : (a.stage != 0) = true := by
      rw [hok, hu] at hgo; simpa using hgo
    go_wp2_with fail
    go_ret
    exact ⟨ret_bool HN.out.symm, gtrans G0 g1⟩
  have hgo' := hgo
  simp only [Bool.and_eq_true, beq_iff_eq] at hgo'
  obtain ⟨hok, hu, hs⟩ := hgo'
  have HE := Lib.hid (optimal_yes hok hu hs)
  have HU := Lib.hid hu
  have HSt := Lib.hid hs
  have hdk := AZ.ok_ds hok
  have hRr := rows_le hdk
  clear hgo hu hs
  go_wp2_with fail
  go_fit (implArrayOk_any _ a _ (h.kept G0) (ht.kept G0) (hV.kept G0))
  rintro e w1 ⟨rfl, g1⟩
  rw [hok]
  have G1 := gtrans G0 g1
  have HB1 := Lib.hid (HB0.out.kept g1)
  obtain ⟨c0, c1, c2, c3, c4⟩ := HB1.out
  rw [HU.out] at c4
  rw [HSt.out] at c3
  clear p0 p1 p2 p3 p4 hok
  go_wp2_with fail
  go_fit (rowsIn_any _ a.ds _ (h.kept G1) hdk)
  rintro e w2 ⟨rv, rfl, I2, g2⟩
  obtain ⟨ra, rn, rc, rfl⟩ := I2.sl
  obtain rfl : rn = rowsZ a.ds := by have := I2.bound.1; rw [rowsTo_length] at this; exact this
  have HW : Hid (∀ k, k < rowsZ a.ds → wholeZ a.ds (k : Int) = wholeRow a.ds (k : Int)) := fun k hk => by
    unfold wholeZ hasZ; rw [hdk, decide_eq_true (show 0 ≤ (k : Int) ∧ (k : Int) < rowsZ a.ds by omega)]; rfl
  have HR := Lib.hid I2.rd
  have hRl : (rowsTo (rowsZ a.ds)).length = rowsZ a.ds := rowsTo_length _
  have HRl := Lib.hid hRl
  have G2 := gtrans G1 g2
  have HB2 := Lib.hid (HB1.out.kept g2)
  clear c0 c1 c2 c3 c4 hRl I2 hdk
  generalize hR : rowsZ a.ds = R at *
  have HRo := Lib.hid hR
  clear hR
  go_wp2_with fail
  go_loopw [22] (fun i wr => ∃ k : Nat, k ≤ R ∧ i = .int .i64 k ∧ Hid (∀ r : Nat, r < k → wholeRow a.ds (r : Int) = true) ∧ w2.grownBy wr none) (fun i _ => R - (intOf i).toNat)
  case atStart => exact ⟨0, Nat.zero_le _, rfl, fun r hr => by omega, grefl _⟩
  case round =>
    obtain ⟨k, hk, rfl, HWk, G⟩ := hrel
    obtain ⟨c0, c1, c2, c3, c4⟩ := HB2.out.kept G
    have GG := gtrans G2 G
    have hL := h.kept GG
    by_cases hlt : k < R
    · have hki : (k : Int) < R := by omega
      obtain ⟨rg, ro, rfl, r0⟩ := (HR.out.kept G).at k (by rw [HRl.out]; exact hlt)
      rw [rowsTo_get hlt] at r0
      have hwz := Lib.hid (HW.out k hlt)
      go_wp2_with fail
      go_fit (implWhole_any _ a.ds k _ hL)
      rintro e w4 ⟨rfl, g4⟩
      rw [hwz.out]
      cases hwr : wholeRow a.ds (k : Int)
      · have HN : Hid (a.optimal = false) := by
          show _ = _
          rw [HE.out, List.all_eq_false]
          exact ⟨k, List.mem_range.2 hlt, by rw [hwr]; simp⟩
        go_wp2_with fail
        go_ret
        exact ⟨ret_bool HN.out.symm, gtrans GG g4⟩
      · have HN : Hid (∀ r : Nat, r < k + 1 → wholeRow a.ds (r : Int) = true) := fun r hr => by
          by_cases e : r = k
          · subst e; exact hwr
          · exact HWk.out r (by omega)
        go_wp2_with fail
        go_roundw
        case rel => exact ⟨k + 1, by omega, by go_num, HN, gtrans G g4⟩
        case measure => simp [intOf]; omega
    · obtain rfl : k = R := by omega
      have hki : ¬ (k : Int) < k := by omega
      have HN : Hid (a.optimal = true) := by
        show _ = _
        rw [HE.out, List.all_eq_true]
        exact fun r hr => HWk.out r (List.mem_range.1 hr)
      go_wp2_with fail
      go_ret
      exact ⟨ret_bool HN.out.symm, GG⟩
end Go.Proofs.YtnkfmjgbeoddbaaGreatDoor
