/- What the specification's Shown tells: chapter 12, by value. -/
import Derived.Test.YteialkknddpbjaaGreatDoorPO36
import Derived.Test.YteialkknddpbjaaGreatDoorPO47
import Derived.Test.YteialkknddpbjaaGreatDoorPO29
import Derived.Test.YteialkknddpbjaaGreatDoorPO33
namespace Go.Proofs.YteialkknddpbjaaGreatDoor
open Go.ChangeShapes Go.WideShapes Go.ChangeAt Go.RowKit

/-- the lost cell of a row is written anew -/
theorem heal_row {a : AZ} {F : Int → Nat → Int} (h : RowsAre a.ds F) (hu : a.up = true) (hal : ∀ i, i < a.ds.length → (a.ds.getD i .zero).dead = false) {r : Int} (r0 : 0 ≤ r) (r1 : r < rowsZ a.ds) :
    RowsAre (a.healed r).ds F ∧ badZ (a.healed r).ds r = [] ∧ (∀ r', 0 ≤ r' → r' ≠ r → badZ (a.healed r).ds r' = badZ a.ds r') ∧ (∀ i, i < a.ds.length → ((a.healed r).ds.getD i .zero).dead = false) := by
  have hR := h.row r r0 r1
  by_cases hb : badZ a.ds r = []
  · have hg : healGo a r = false := by simp [healGo, hb]
    rw [(heal_no hg).2]
    exact ⟨h, hb, fun _ _ _ => rfl, hal⟩
  have hone : (badZ a.ds r).length = 1 := by have := hR.one; have := List.length_pos_iff.2 hb; omega
  obtain ⟨j, hj, ej⟩ := badZ_at 0 (show 0 < (badZ a.ds r).length by omega)
  have hmem : (j : Int) ∈ badZ a.ds r := by rw [← ej]; exact List.getElem_mem _
  have hcj := (bad_can hmem).2
  have hba : badAt a r = j := by
    unfold badAt
    rw [List.getD_eq_getElem?_getD, List.getElem?_eq_getElem (show 0 < (badZ a.ds r).length by omega), Option.getD_some, ej]; rfl
  obtain ⟨o1, o2, o3⟩ := ok_at h.ok hj
  have hdj := hal j hj
  have hg : healGo a r = true := by
    unfold healGo
    rw [hba, hu, hone, hdj, decide_eq_true (show 0 ≤ r ∧ r < rowsZ a.ds from ⟨r0, r1⟩)]; rfl
  have ht := (hR.tell hj).2
  have hv : okv (tellV a.ds j r) = true := by rw [ht]; exact hR.b j hj
  have hm : (a.ds.getD j .zero).may r (tellV a.ds j r) = true := by
    simp only [DZ.may, DZ.has, hdj, Bool.and_eq_true, decide_eq_true_eq, o3 hdj]
    exact ⟨rfl, ⟨r0, r1⟩, hv⟩
  have hput := DZ.put_read o1 hm
  have e : (a.healed r).ds = a.ds.set j ((a.ds.getD j .zero).put r (tellV a.ds j r)) := by unfold AZ.healed; rw [if_pos hg, hba]
  rw [e]
  have hc' := can_of_read hput.1
  have hV' : canV ((a.ds.getD j .zero).put r (tellV a.ds j r)) r = F r j := by rw [canV_of_read hput.1, hput.2, ht]
  have hother : ∀ i, i < a.ds.length → i ≠ j → (a.ds.getD i .zero).can r = true := fun i hi hne => by
    cases hc : (a.ds.getD i .zero).can r
    · exact absurd (one_bad hR.one hi hj hc hcj) hne
    · rfl
  have hnil : badZ (a.ds.set j ((a.ds.getD j .zero).put r (tellV a.ds j r))) r = [] := bad_nothing fun i hi => by
    rw [List.length_set] at hi
    rw [set_at hj]
    by_cases e : i = j
    · rw [if_pos e]; exact hc'
    · rw [if_neg e]; exact hother i hi e
  have hbs : ∀ r', 0 ≤ r' → r' ≠ r → badZ (a.ds.set j ((a.ds.getD j .zero).put r (tellV a.ds j r))) r' = badZ a.ds r' := fun r' _ hne => bad_same (by simp) fun i hi => by
    rw [set_at hj]
    by_cases e : i = j
    · subst e; rw [if_pos rfl]; exact (put_else _ _ hne).1
    · rw [if_neg e]
  have hal' : AlikeL a.ds (a.ds.set j ((a.ds.getD j .zero).put r (tellV a.ds j r))) := AlikeL.set _ _ _ (fun hi => by rw [getD_at hi]; exact put_alike _ _ _)
  refine ⟨⟨hal'.disksOk h.ok, fun r' h0 h1 => ?_⟩, hnil, hbs, fun i hi => ?_⟩
  · rw [hal'.rows] at h1
    by_cases er : r' = r
    · subst er
      refine ⟨fun i hi => hR.b i (by simpa using hi), fun i hi hc => ?_, by rw [hnil]; simp, by rw [List.length_set]; exact hR.par⟩
      rw [List.length_set] at hi
      rw [set_at hj] at hc ⊢
      by_cases e : i = j
      · subst e; rw [if_pos rfl]; exact hV'
      · rw [if_neg e] at hc ⊢; exact hR.val i hi hc
    · refine (h.row r' h0 h1).same (by simp) fun i hi => ?_
      rw [set_at hj]
      by_cases e : i = j
      · subst e; rw [if_pos rfl]; exact put_else _ _ er
      · rw [if_neg e]; exact ⟨rfl, rfl⟩
  · rw [set_at hj]
    by_cases e : i = j
    · subst e
      rw [if_pos rfl]
      have := (put_alike (a.ds.getD i .zero) r (tellV a.ds i r)).2.1
      rw [this]; exact hdj
    · rw [if_neg e]; exact hal i hi
theorem heal_rows {a : AZ} {F : Int → Nat → Int} (h : RowsAre a.ds F) (hu : a.up = true) (hal : ∀ i, i < a.ds.length → (a.ds.getD i .zero).dead = false) (k : Nat) (hk : k ≤ rowsZ a.ds) :
    RowsAre (a.healK k).ds F ∧ (∀ r : Int, 0 ≤ r → r < k → badZ (a.healK k).ds r = []) ∧ (∀ i, i < a.ds.length → ((a.healK k).ds.getD i .zero).dead = false) := by
  induction k with
  | zero => exact ⟨h, fun r h0 h1 => by omega, hal⟩
  | succ k ih =>
    obtain ⟨q1, q2, q3⟩ := ih (by omega)
    have hl := healK_alike a k
    have hu' : (a.healK k).up = true := by rw [healK_else]; exact hu
    obtain ⟨p1, p2, p3, p4⟩ := heal_row q1 hu' (fun i hi => q3 i (by have := hl.1; omega)) (r := k) (by omega) (by rw [hl.rows]; omega)
    refine ⟨p1, fun r h0 h1 => ?_, fun i hi => p4 i (by have := hl.1; omega)⟩
    by_cases e : r = (k : Int)
    · subst e; exact p2
    · rw [show (a.healK (k + 1)).ds = ((a.healK k).healed k).ds from rfl, p3 r h0 e]
      exact q2 r h0 (by omega)
/-- an idle array all of whose disks are alive is whole behind the repair, and holds what it held -/
theorem Held.healedAll {a : AZ} {F : Int → Nat → Int} {p : List Int} (h : Held a F p) (hal : ∀ i, i < a.ds.length → (a.ds.getD i .zero).dead = false) : Held a.healedAll F p ∧ NoBad a.healedAll.ds := by
  obtain ⟨q1, q2, -⟩ := heal_rows h.holds.rows h.up hal (rowsZ a.ds) (Nat.le_refl _)
  have hl := healK_alike a (rowsZ a.ds)
  have e := healK_else a (rowsZ a.ds)
  have hn : NoBad (a.healK (rowsZ a.ds)).ds := fun r h0 h1 => q2 r h0 (by rw [hl.rows] at h1; exact h1)
  have hH : Holds (a.healK (rowsZ a.ds)).ds F p := h.holds.alike hl.1 hl.rows q1
  unfold AZ.healedAll
  refine ⟨⟨hH.flush, ?_, ?_, ?_, ?_⟩, hn.flush⟩
  · show (a.healK (rowsZ a.ds)).up = true; rw [e]; exact h.up
  · show (a.healK (rowsZ a.ds)).stage = 0; rw [e]; exact h.stage
  · show (a.healK (rowsZ a.ds)).log = []; rw [e]; exact h.log
  · show (a.healK (rowsZ a.ds)).next = []; rw [e]; exact h.next
/-- a replaced disk changes nothing that is told -/
theorem Held.replaced {a : AZ} {F : Int → Nat → Int} {p : List Int} (h : Held a F p) (d : Int) : Held (a.replacedZ d) F p := by
  cases ho : repOk a d
  · rw [rep_no ho]; exact h
  · obtain ⟨i, rfl, hi, hdd, -, -, e⟩ := replaced_yes ho
    obtain ⟨q1, q2, q3⟩ := repD_facts h.ok hi
    have q := set_ok h.holds.rows.ok hi (z := repD a i) q1 rfl (fun _ => q2) (.inl rfl)
    rw [e]
    refine ⟨h.holds.alike (by simp) q.2 ⟨q.1, fun r h0 h1 => ?_⟩, h.up, h.stage, h.log, h.next⟩
    rw [q.2] at h1
    refine (h.holds.rows.row r h0 h1).same (by simp) fun j hj => ?_
    rw [set_at hi]
    by_cases ej : j = i
    · subst ej
      have hc : (a.ds.getD j .zero).can r = false := can_dead (by rw [getD_at hj]; exact hdd)
      rw [if_pos rfl]
      exact ⟨by rw [q3, hc], by unfold canV; rw [q3, hc]; rfl⟩
    · rw [if_neg ej]; exact ⟨rfl, rfl⟩
theorem Held.optimal {a : AZ} {F : Int → Nat → Int} {p : List Int} (h : Held a F p) (hb : NoBad a.ds) : a.optimal = true := by
  simp only [AZ.optimal, h.ok, h.up, h.stage, Bool.true_and, Bool.and_eq_true, List.all_eq_true, List.mem_range]
  exact ⟨rfl, fun r hr => (h.holds.rows.row r (by omega) (by omega)).whole (hb r (by omega) (by omega))⟩
theorem dead_whole {l : List DZ} {i : Nat} (hi : i < l.length) (hd : l[i].dead = true) (r : Int) : wholeRow l r = false := by
  unfold wholeRow allCan
  rw [Bool.and_eq_false_iff]
  left
  rw [List.all_eq_false]
  exact ⟨l[i], List.getElem_mem hi, by rw [can_dead hd]; simp⟩
theorem optimal_alive {a : AZ} {i : Nat} (hi : i < a.ds.length) (hd : a.ds[i].dead = true) (h : a.ok = true) : a.optimal = false := by
  have hr := rows_le (AZ.ok_ds h)
  cases ho : a.optimal
  · rfl
  · simp only [AZ.optimal, Bool.and_eq_true, List.all_eq_true, List.mem_range] at ho
    have := ho.2.2.2 0 hr.1
    rw [dead_whole hi hd] at this; cases this
end Go.Proofs.YteialkknddpbjaaGreatDoor

namespace Go.Proofs.YteialkknddpbjaaGreatDoor
open Go.ChangeShapes Go.WideShapes Go.ChangeAt Go.RowKit

/-- the room of an array -/
def placesN (a : AZ) : Nat := (a.ds.length - 1) * rowsZ a.ds
def toldTo (a : AZ) (k : Nat) : List Int := (List.range k).map fun (i : Nat) => upV a (i : Int)
theorem toldTo_next (a : AZ) (k : Nat) : toldTo a (k + 1) = toldTo a k ++ [upV a (k : Int)] := by simp [toldTo, List.range_succ]
theorem toldTo_len (a : AZ) (k : Nat) : (toldTo a k).length = k := by simp [toldTo]
def shownB (a : AZ) : Bool := a.ok && (List.range (placesN a)).all fun (i : Nat) => upOk a (i : Int)
def shownZ (a : AZ) : List Int := if shownB a then toldTo a (placesN a) else []
theorem shown_no {a : AZ} (h : shownB a = false) : shownZ a = [] := by unfold shownZ; rw [h]; rfl
theorem shown_bad {a : AZ} {k : Nat} (hk : k < placesN a) (h : upOk a (k : Int) = false) : shownB a = false := by
  unfold shownB
  rw [Bool.and_eq_false_iff]
  right
  rw [List.all_eq_false]
  exact ⟨k, List.mem_range.2 hk, by rw [h]; simp⟩
theorem shown_yes {a : AZ} (ho : a.ok = true) (h : ∀ k : Nat, k < placesN a → upOk a (k : Int) = true) : shownB a = true ∧ shownZ a = toldTo a (placesN a) := by
  have : shownB a = true := by
    unfold shownB
    rw [ho, Bool.true_and, List.all_eq_true]
    exact fun k hk => h k (List.mem_range.1 hk)
  exact ⟨this, by unfold shownZ; rw [if_pos this]⟩
abbrev Rm12 (w w' : World) (b : Nat) (x : Value) : Prop := w'.cell? ⟨b, 0, none⟩ = some x ∧ w.grownBy w' none
set_option maxRecDepth 8000 in
set_option maxHeartbeats 1000000 in
theorem l12Room_any (v : Value) (a : AZ) (w : World) (h : LD w v a.ds) (hl : 1 ≤ a.ds.length ∧ a.ds.length ≤ 5) (hr : rowsZ a.ds ≤ 16) :
    Calls Tryz.prog 103 #[a.val v] w (Pure (.int .i64 (placesN a : Int)) w) := by
  obtain ⟨xa, cap, rfl, hm⟩ := h.form
  have B0 := Box5.new w (.slice xa a.ds.length cap) (.string (str a.log)) (.string (str a.next)) (.int .i64 a.stage) (.bool a.up) 26
  have G0 := galloc (grefl w) (.cells #[.slice xa a.ds.length cap, .string (str a.log), .string (str a.next), .int .i64 a.stage, .bool a.up] 26)
  have HN : Hid (((a.ds.length : Int) - 1) * (rowsZ a.ds : Int) = (placesN a : Int)) := by
    show _ = _
    unfold placesN
    rw [Int.natCast_mul, Int.natCast_sub hl.1]; rfl
  have hb : 0 ≤ ((a.ds.length : Int) - 1) * (rowsZ a.ds : Int) ∧ ((a.ds.length : Int) - 1) * (rowsZ a.ds : Int) ≤ 64 := by
    rw [HN.out]
    unfold placesN
    have h1 : a.ds.length - 1 ≤ 4 := by omega
    have := Nat.mul_le_mul h1 hr
    omega
  have hw1 : IntKind.i64.wrap ((a.ds.length : Int) - 1) = (a.ds.length : Int) - 1 := IntWalk.i64_in _ (by omega)
  have hw2 : IntKind.i64.wrap (((a.ds.length : Int) - 1) * (rowsZ a.ds : Int)) = ((a.ds.length : Int) - 1) * (rowsZ a.ds : Int) := IntWalk.i64_in _ (by omega)
  go_enter Tryz.func103, Tryz.ntmps103
  go_upto_region 1 with (fail)
  generalize w.alloc (.cells #[.slice xa a.ds.length cap, .string (str a.log), .string (str a.next), .int .i64 a.stage, .bool a.up] 26) = W0 at *
  have HL := Lib.hid (h.kept G0)
  have C0 : Rm12 W0 W0.drew w.heap.size (.slice xa a.ds.length cap) := ⟨B0.1, gdrew (grefl _) 1⟩
  go_wp2_with fail
  refine region_calm (fun w' => Rm12 W0 w' w.heap.size (.slice xa a.ds.length cap)) (by kernel_rfl) (by kernel_rfl) (C0) ?_
  repeat (first
    | (refine calm_skip (by rfl) ?_; simp only [Act.put, List.setIfInBounds_toArray, List.set_cons_zero, List.set_cons_succ])
    | (refine calm_step (by rfl) ?_
       apply Exists.intro
       refine ⟨fun w' hw' => ?_, ?_⟩
       · go_simp
         first | done | exact rfl | (go_at_call 81; go_fit (l6Rows_any _ a.ds _ (HL.out.kept hw'.2)); rintro e w8 ⟨rfl, rfl⟩; exact And.intro rfl hw')
       simp only [Act.put, List.setIfInBounds_toArray, List.set_cons_zero, List.set_cons_succ]))
  refine calm_nil ?_
  intro w9 hw9
  go_wp2_with fail
  go_ret
  exact ⟨ret_int HN.out, gtrans G0 hw9.2⟩
set_option maxRecDepth 8000 in
set_option maxHeartbeats 4000000 in
theorem specShown_any (v : Value) (a : AZ) (w : World) (h : LD w v a.ds) (h1 : a.log.length ≤ 1100000) (h2 : a.next.length ≤ 1100000) :
    Calls Tryz.prog 37 #[a.val v] w fun e w' => ∃ sv, e = .returned (.tuple #[sv, .bool (shownB a)]) ∧ IS w' w.heap.size sv (shownZ a) ∧ w.grownBy w' none := by
  obtain ⟨xa, cap, rfl, hm⟩ := h.form
  have B0 := Box5.new w (.slice xa a.ds.length cap) (.string (str a.log)) (.string (str a.next)) (.int .i64 a.stage) (.bool a.up) 26
  have G0 := galloc (grefl w) (.cells #[.slice xa a.ds.length cap, .string (str a.log), .string (str a.next), .int .i64 a.stage, .bool a.up] 26)
  go_enter Tryz.func37, Tryz.ntmps37
  go_upto_region 1 with (fail)
  generalize w.alloc (.cells #[.slice xa a.ds.length cap, .string (str a.log), .string (str a.next), .int .i64 a.stage, .bool a.up] 26) = W0 at *
  have I1 := IS.empty W0 (base := W0.heap.size) (Nat.le_refl _)
  have e1 := galloc (grefl W0) (.cells #[] 2)
  have HB0 := Lib.hid B0
  have HB1 := Lib.hid (B0.kept e1)
  have G1 := gtrans G0 e1
  clear B0
  go_upto_region 2 with (fail)
  generalize hb1 : W0.heap.size = b1 at *
  generalize W0.alloc (.cells #[] 2) = W1 at *
  obtain ⟨p0, p1, p2, p3, p4⟩ := HB1.out
  have hwb : w.heap.size ≤ b1 := by have := G0.size; omega
  cases hok : a.ok
  · have HN : Hid (shownB a = false ∧ shownZ a = []) := by
      have : shownB a = false := by unfold shownB; rw [hok]; rfl
      exact ⟨this, shown_no this⟩
    go_wp2_with fail
    go_fit (specArrayOk_any _ a _ (h.kept G1) h1 h2)
    rintro e w2 ⟨rfl, g2⟩
    rw [hok]
    go_wp2_with fail
    exact bodyPost_ret (v := .tuple #[.slice (some ⟨b1, 0, none⟩) 0 0, .bool false]) (by simp [results, Tryz.results37, go_sem]) rfl ⟨_, by rw [HN.out.1], by rw [HN.out.2]; exact Own.lower (Own.grew I1 g2) hwb, gtrans G1 g2⟩
  have hdk := AZ.ok_ds hok
  have hl5 := ds_small hdk
  have hl3 := inB_iff.1 (disks_n hdk)
  have hrr := rows_le hdk
  have HYes := Lib.hid (fun q => shown_yes (a := a) hok q)
  have HBad : Hid (∀ k : Nat, k < placesN a → upOk a (k : Int) = false → shownB a = false ∧ shownZ a = []) := fun k hk e => ⟨shown_bad hk e, shown_no (shown_bad hk e)⟩
  have hlr : 1 ≤ a.ds.length ∧ a.ds.length ≤ 5 := by omega
  have hrl : rowsZ a.ds ≤ 16 := hrr.2
  have hrm : placesN a ≤ 64 := by
    unfold placesN
    have h1 : a.ds.length - 1 ≤ 4 := by omega
    exact Nat.mul_le_mul h1 hrl
  go_wp2_with fail
  go_fit (specArrayOk_any _ a _ (h.kept G1) h1 h2)
  rintro e w2 ⟨rfl, g2⟩
  rw [hok]
  have E2 := gtrans e1 g2
  have I2 := Own.grew I1 g2
  clear p0 p1 p2 p3 p4 hok I1 hl3 hl5 hrr HB1 e1 g2 G1
  go_wp2_with fail
  go_loopw [4, 5] (fun o i wr => ∃ k : Nat, k ≤ placesN a ∧ i = .int .i64 (k : Int) ∧ IS wr b1 o (toldTo a k) ∧ Hid (∀ q : Nat, q < k → upOk a (q : Int) = true) ∧ W0.grownBy wr none) (fun _ i _ => placesN a - (intOf i).toNat)
  case atStart => exact ⟨0, Nat.zero_le _, rfl, I2, fun q hq => by omega, E2⟩
  case round =>
    clear I2 E2
    obtain ⟨k, hk, rfl, I, HQ, G⟩ := hrel
    obtain ⟨oa, om, oc, rfl⟩ := I.sl
    obtain ⟨c0, c1, c2, c3, c4⟩ := HB0.out.kept G
    have GG := gtrans G0 G
    have hL := h.kept GG
    go_wp2_with fail
    go_fit (l12Room_any _ a _ hL hlr hrl)
    rintro e w3 ⟨rfl, g3⟩
    have G3 := gtrans G g3
    have I3 := Own.grew I g3
    have L3 := hL.kept g3
    have GG3 := gtrans GG g3
    obtain ⟨d0, d1, d2, d3, d4⟩ := HB0.out.kept G3
    clear c0 c1 c2 c3 c4 I hL
    by_cases hlt : k < placesN a
    · have hki : (k : Int) < placesN a := by omega
      go_wp2_with fail
      go_fit (l9Read_any _ a (k : Int) _ L3 hdk)
      rintro e w4 ⟨rfl, g4⟩
      have I4 := Own.grew I3 g4
      have G4 := gtrans G3 g4
      have GG4 := gtrans GG3 g4
      clear d0 d1 d2 d3 d4 I3 L3
      cases hu : upOk a (k : Int)
      · have HN := Lib.hid (HBad.out k hlt hu)
        have I5 := IS.empty w4 (base := w.heap.size) GG4.size
        clear hu
        go_wp2_with fail
        exact bodyPost_ret (v := .tuple #[.slice (some ⟨w4.heap.size, 0, none⟩) 0 0, .bool false]) (by simp [results, Tryz.results37, go_sem]) rfl ⟨_, by rw [HN.out.1], by rw [HN.out.2]; exact I5, galloc GG4 _⟩
      · have HQ' : Hid (∀ q : Nat, q < k + 1 → upOk a (q : Int) = true) := fun q hq => by
          by_cases e : q = k
          · subst e; exact hu
          · exact HQ.out q (by omega)
        have HT : Hid (toldTo a (k + 1) = toldTo a k ++ [upV a (k : Int)]) := toldTo_next a k
        have hkl := toldTo_len a k
        have hgs := G4.size
        have hsb : b1 ≤ w4.heap.size := by omega
        clear hu
        generalize upV a (k : Int) = x at *
        go_wp2_with (first | (at_builtin; refine wpList_append_o (E := intE) (base := b1) rfl (.tmp 28) (.tmp 30) rfl rfl rfl (Own.grew I4 (galloc (grefl _) _)) (IS.single _ x (Nat.zero_le _)) (by simp; omega) (by decide) (by simp; omega) ?_; intro v' w6 o6 g6 b6; have G6 := gnew (galloc G4 _) g6 (fun j e => by have := (Own.lt I4 j e).1; omega); rw [← HT.out] at o6; clear g6 b6))
        go_roundw
        case rel => exact ⟨k + 1, by omega, by go_num, o6, HQ', G6⟩
        case measure => simp [intOf]; omega
    · obtain rfl : k = placesN a := by omega
      have hki : ¬ (placesN a : Int) < placesN a := by omega
      have HN := Lib.hid (HYes.out (fun q hq => HQ.out q hq))
      clear d0 d1 d2 d3 d4
      go_wp2_with fail
      exact bodyPost_ret (v := .tuple #[.slice oa om oc, .bool true]) (by simp [results, Tryz.results37, go_sem]) rfl ⟨_, by rw [HN.out.1], by rw [HN.out.2]; exact Own.lower I3 hwb, GG3⟩
end Go.Proofs.YteialkknddpbjaaGreatDoor
