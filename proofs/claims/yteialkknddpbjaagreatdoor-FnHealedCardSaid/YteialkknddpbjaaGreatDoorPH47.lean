/- What repairing makes of the rows of an array, and what a replaced disk is. -/
import Derived.StillTail
import Derived.Deep.Quiet
import Derived.RegionTactic
import Derived.Deep.Slices
import Derived.Deep.Fields
import Derived.Test.YteialkknddpbjaaGreatDoorPH01
import Derived.Test.YteialkknddpbjaaGreatDoorPH33
import Derived.Test.YteialkknddpbjaaGreatDoorPH34
import Derived.Test.YteialkknddpbjaaGreatDoorPH35
import Derived.Test.YteialkknddpbjaaGreatDoorPH37
import Derived.Test.YteialkknddpbjaaGreatDoorPH36
namespace Go.Proofs.YteialkknddpbjaaGreatDoor
open Go.ChangeShapes Go.WideShapes Go.ChangeAt Go.RowKit

theorem nobad_can {l : List DZ} (h : NoBad l) {r : Int} (h0 : 0 ≤ r) (h1 : r < rowsZ l) {i : Nat} (hi : i < l.length) : l[i].can r = true := by
  cases hc : l[i].can r
  · have := mem_bad hi (by rw [getD_at hi]; exact hc)
    rw [h r h0 h1] at this; cases this
  · rfl
theorem nobad_alive {l : List DZ} (hok : disksOkZ l = true) (h : NoBad l) {i : Nat} (hi : i < l.length) : l[i].dead = false := by
  have := nobad_can h (r := 0) (by omega) (by have := rows_le hok; omega) hi
  cases hd : l[i].dead
  · rfl
  · rw [can_dead hd] at this; cases this
theorem RowIs.whole {l : List DZ} {r : Int} {f : Nat → Int} (h : RowIs l r f) (hb : badZ l r = []) : wholeRow l r = true := by
  have hcan : ∀ i, i < l.length → (l.getD i .zero).can r = true := fun i hi => by
    cases hc : (l.getD i .zero).can r
    · have := mem_bad hi hc; rw [hb] at this; cases this
    · rfl
  simp only [wholeRow, allCan, Bool.and_eq_true, List.all_eq_true, beq_iff_eq]
  refine ⟨fun d hd => ?_, ?_⟩
  · obtain ⟨i, hi, rfl⟩ := List.getElem_of_mem hd
    have := hcan i hi
    rwa [getD_at hi] at this
  · have e : l.map (fun d => canV d r) = (List.range l.length).map f := by
      rw [map_range]
      apply List.ext_getElem (by simp)
      intro j h1 h2
      simp only [List.getElem_map, List.getElem_range]
      have hj : j < l.length := by simpa using h1
      exact h.val j hj (hcan j hj)
    unfold rowX
    rw [e]; exact h.par
theorem RowsAre.whole {l : List DZ} {F : Int → Nat → Int} (h : RowsAre l F) (hb : NoBad l) {r : Int} (h0 : 0 ≤ r) (h1 : r < rowsZ l) : wholeZ l r = true := by
  simp only [wholeZ, hasZ, h.ok, (h.row r h0 h1).whole (hb r h0 h1), decide_eq_true (show 0 ≤ r ∧ r < rowsZ l from ⟨h0, h1⟩)]; rfl
theorem RowsAre.cell {l : List DZ} {F : Int → Nat → Int} (h : RowsAre l F) {r : Int} (h0 : 0 ≤ r) (h1 : r < rowsZ l) {i : Nat} (hi : i < l.length) : cellAtOk l i r = true ∧ cellAtV l i r = F r i := by
  have q := (h.row r h0 h1).tell hi
  have hc : cellAtOk l i r = true := by
    simp only [cellAtOk, hasZ, h.ok, q.1, Bool.and_eq_true, decide_eq_true_eq, and_true, true_and]
    exact ⟨⟨h0, h1⟩, by omega, by omega⟩
  exact ⟨hc, by rw [cellAtV, if_pos hc, q.2]⟩
theorem Holds.alike {l m : List DZ} {F : Int → Nat → Int} {p : List Int} (h : Holds l F p) (hl : m.length = l.length) (hr : rowsZ m = rowsZ l) (hm : RowsAre m F) : Holds m F p :=
  ⟨hm, by rw [hl, hr]; exact h.len, by rw [hl]; exact h.at'⟩
/-- a disk dies -/
theorem RowsAre.dies {l : List DZ} {F : Int → Nat → Int} (h : RowsAre l F) (hb : NoBad l) {i : Nat} (hi : i < l.length) : RowsAre (l.set i l[i].died) F ∧ rowsZ (l.set i l[i].died) = rowsZ l := by
  have hn := inB_iff.1 (disks_n h.ok)
  have hok := (ok_at h.ok hi).1
  rw [getD_at hi] at hok
  have hz : l[i].died = ⟨l[i].n, true, [], []⟩ := by unfold DZ.died; rw [if_pos hok]
  have hal := fun j (hj : j < l.length) => nobad_alive h.ok hb hj
  have hR : rowsZ (l.set i l[i].died) = rowsZ l := by
    apply rowsZ_of
    · intro d hd hdd
      obtain ⟨j, hj, rfl⟩ := List.getElem_of_mem hd
      have hj' : j < l.length := by simpa using hj
      by_cases e : i = j
      · subst e
        rw [List.getElem_set_self, hz] at hdd; cases hdd
      · rw [List.getElem_set_ne e] at hdd ⊢
        have := (ok_at h.ok hj').2.2
        rw [getD_at hj'] at this
        exact this hdd
    · by_cases e : i = 0
      · refine ⟨(l.set i l[i].died)[1]'(by simp; omega), List.getElem_mem _, ?_⟩
        rw [List.getElem_set_ne (by omega)]; exact hal 1 (by omega)
      · refine ⟨(l.set i l[i].died)[0]'(by simp; omega), List.getElem_mem _, ?_⟩
        rw [List.getElem_set_ne e]; exact hal 0 (by omega)
  refine ⟨⟨?_, fun r h0 h1 => ?_⟩, hR⟩
  · have q := h.ok
    simp only [disksOkZ, Bool.and_eq_true, decide_eq_true_eq, List.all_eq_true, List.mem_range] at q ⊢
    rw [hR, List.length_set]
    refine ⟨q.1, fun j hj => ?_, q.2.2⟩
    have q2 := q.2.1 j hj
    by_cases e : i = j
    · subst e
      rw [getD_at (by simpa using hj), List.getElem_set_self, hz]
      rw [getD_at hj] at q2
      simp only [DZ.fitsIn, Bool.and_eq_true] at q2 ⊢
      refine ⟨?_, q2.2.1, by simp⟩
      have := q2.1
      simp only [DZ.ok, Bool.and_eq_true] at this ⊢
      exact ⟨this.1, by simp⟩
    · rw [getD_at (by simpa using hj), List.getElem_set_ne e, ← getD_at hj]; exact q2
  · rw [hR] at h1
    exact (h.row r h0 h1).lose (hb r h0 h1) i _ (fun _ hc => by rw [can_dead (by rw [hz])] at hc; cases hc)
theorem Held.dies {a : AZ} {F : Int → Nat → Int} {p : List Int} (h : Held a F p) (hb : NoBad a.ds) (d : Int) : Held (a.dies d) F p := by
  cases ho : dieOk a d
  · rw [die_no ho]; exact h
  · have hd : 0 ≤ d ∧ d < a.ds.length := by simp only [dieOk, Bool.and_eq_true, decide_eq_true_eq] at ho; exact ho.1
    obtain ⟨i, rfl⟩ := Int.eq_ofNat_of_zero_le hd.1
    have hi : i < a.ds.length := by omega
    have e : a.dies i = { a with ds := a.ds.set i a.ds[i].died } := by simp only [AZ.dies, ho, if_true, Int.toNat_natCast, getD_at hi]
    rw [e]
    have q := h.holds.rows.dies hb hi
    exact ⟨h.holds.alike (by simp) q.2 q.1, h.up, h.stage, h.log, h.next⟩
end Go.Proofs.YteialkknddpbjaaGreatDoor
namespace Go.Proofs.YteialkknddpbjaaGreatDoor
open Go.ChangeShapes Go.WideShapes Go.ChangeAt Go.RowKit

section
variable {P : Program} {ops : Array Oper} {md : Region.Mode} {C : World → Prop}
end
/-- the bytes of a draw, by name -/
def CodeIs (w : World) (a : Option Addr) (len : Nat) (f : Nat → Int) : Prop :=
  len ≤ 140737488351232 ∧ ∀ k, k < len → 0 ≤ f k ∧ f k ≤ 255 ∧ ∃ b o, a = some ⟨b, o, none⟩ ∧ w.cell? ⟨b, o + k, none⟩ = some (.int .u8 (f k))
theorem CodeAt.is {w : World} {a : Option Addr} {len : Nat} (h : CodeAt w a len) : ∃ f, CodeIs w a len f := by
  rcases h with h | ⟨b, o, h1, -, h3, h4⟩
  · subst h; exact ⟨fun _ => 0, by omega, fun k hk => by omega⟩
  · refine ⟨fun k => if hk : k < len then (h4 k hk).choose else 0, h3, fun k hk => ?_⟩
    simp only [hk, dite_true]
    have q := (h4 k hk).choose_spec
    exact ⟨q.1, q.2.1, b, o, h1, q.2.2⟩
theorem CodeIs.kept {w w' : World} {a : Option Addr} {len : Nat} {f : Nat → Int} (h : CodeIs w a len f) (g : w.grownBy w' none) : CodeIs w' a len f :=
  ⟨h.1, fun k hk => by obtain ⟨h1, h2, b, o, h3, h4⟩ := h.2 k hk; exact ⟨h1, h2, b, o, h3, gkc g h4⟩⟩
end Go.Proofs.YteialkknddpbjaaGreatDoor
namespace Go.Proofs.YteialkknddpbjaaGreatDoor
open Go.ChangeShapes Go.WideShapes Go.ChangeAt Go.RowKit
attribute [local go_sem] str_list str_size str_add lit_list0 add_lit lit_add str_cut

theorem Five.all {w : World} {b : Nat} {x0 x1 x2 x3 x4 : Value} (h : Five w b x0 x1 x2 x3 x4) (y0 y1 y2 y3 y4 : Value) : Five (set5 w b y0 y1 y2 y3 y4) b y0 y1 y2 y3 y4 :=
  ⟨((((h.c0.same _).other (by simp) _).other (by simp) _).other (by simp) _).other (by simp) _,
    ((((h.c1.other (by simp) _).same _).other (by simp) _).other (by simp) _).other (by simp) _,
    ((((h.c2.other (by simp) _).other (by simp) _).same _).other (by simp) _).other (by simp) _,
    ((((h.c3.other (by simp) _).other (by simp) _).other (by simp) _).same _).other (by simp) _,
    ((((h.c4.other (by simp) _).other (by simp) _).other (by simp) _).other (by simp) _).same _⟩
theorem Five.far {w : World} {b c o : Nat} {x0 x1 x2 x3 x4 : Value} (h : Five w b x0 x1 x2 x3 x4) (hc : c ≠ b) (u : Value) : Five (w.setCell ⟨c, o, none⟩ u) b x0 x1 x2 x3 x4 :=
  ⟨h.c0.other (by intro e; cases e; exact hc rfl) u, h.c1.other (by intro e; cases e; exact hc rfl) u, h.c2.other (by intro e; cases e; exact hc rfl) u, h.c3.other (by intro e; cases e; exact hc rfl) u, h.c4.other (by intro e; cases e; exact hc rfl) u⟩
theorem Five.box {w : World} {b : Nat} {x0 x1 x2 x3 x4 : Value} (h : Five w b x0 x1 x2 x3 x4) : Box5 w b x0 x1 x2 x3 x4 := ⟨h.c0.1, h.c1.1, h.c2.1, h.c3.1, h.c4.1⟩
/-- on the way: the array lies in box b, what its places hold in block q, the result variable is r -/
structure FillS (w wr : World) (b q r m : Nat) (A : AZ) (p : List Int) (v : Value) (raw : List DV) : Prop where
  five : Five wr b v (.string (str A.log)) (.string (str A.next)) (.int .i64 A.stage) (.bool A.up)
  od : OD wr (r + 1) v A.ds raw
  nb : v.ownBlock ≠ some b ∧ ∀ i (h : i < raw.length), ¬ raw[i].has b
  nq : v.ownBlock ≠ some q ∧ ∀ i (h : i < raw.length), ¬ raw[i].has q
  is : IS wr (r + 1) (.slice (some ⟨q, 0, none⟩) m m) p
  zero : Zero5 wr r
  grew : w.grownBy wr none
section
variable {w wr w8 : World} {b q r m : Nat} {A A' : AZ} {p : List Int} {v v8 : Value} {raw raw8 : List DV}
theorem FillS.kept (h : FillS w wr b q r m A p v raw) (g : wr.grownBy w8 none) : FillS w w8 b q r m A p v raw :=
  ⟨h.five.kept g, h.od.grew g, h.nb, h.nq, Own.grew h.is g, h.zero.kept g (by simp), gtrans h.grew g⟩
theorem FillS.call (h : FillS w wr b q r m A p v raw) (g : wr.grownBy w8 none) (o : OD w8 wr.heap.size v8 A'.ds raw8) (hq : q < wr.heap.size) (hbq : b ≠ q) (hbr : r < b) (hw : w.heap.size ≤ b) :
    FillS w (set5 w8 b v8 (.string (str A'.log)) (.string (str A'.next)) (.int .i64 A'.stage) (.bool A'.up)) b q r m A' p v8 raw8 := by
  have h8 := h.kept g
  have hb : b < wr.heap.size := cell_lt h.five.c0.1
  obtain ⟨n1, n2⟩ := o.not_old hb
  obtain ⟨k1, k2⟩ := o.not_old hq
  have hs : (Value.slice (some ⟨q, 0, none⟩) m m).ownBlock ≠ some b := by simp [Value.ownBlock]; omega
  have hbr' : b ≠ r := by omega
  exact ⟨h8.five.all _ _ _ _ _, (o.set5 n1 n2 _ _ _ _ _).lower (by omega), ⟨n1, n2⟩, ⟨k1, k2⟩, Own.other (Own.other (Own.other (Own.other (Own.other h8.is hs _) hs _) hs _) hs _) hs _,
    ((((h8.zero.far hbr' _).far hbr' _).far hbr' _).far hbr' _).far hbr' _, gset5 h8.grew hw _ _ _ _ _⟩
theorem FillS.put (h : FillS w wr b q r m A p v raw) (i : Nat) (x : Int) (hbq : b ≠ q) (hqr : q ≠ r) (hw : w.heap.size ≤ q) : FillS w (wr.setCell ⟨q, i, none⟩ (.int .i64 x)) b q r m A (p.set i x) v raw :=
  ⟨h.five.far (Ne.symm hbq) _, h.od.far h.nq.1 h.nq.2 _, h.nb, h.nq, IS.set h.is i x, h.zero.far hqr _, gset1 h.grew hw _ _⟩
end
end Go.Proofs.YteialkknddpbjaaGreatDoor

namespace Go.Proofs.YteialkknddpbjaaGreatDoor
open Go.ChangeShapes Go.WideShapes Go.ChangeAt Go.RowKit

/-- a replaced disk changes nothing that is told -/
theorem Held.replaced {a : AZ} {F : Int → Nat → Int} {p : List Int} (h : Held a F p) (d : Int) : Held (a.replacedZ d) F p := by
  cases ho : repOk a d
  · rw [rep_no ho]; exact h
  · obtain ⟨i, rfl, hi, hdd, -, -, e⟩ := replaced_yes ho
    obtain ⟨q1, q2, q3⟩ := repD_facts h.ok hi
    have q := set_ok h.holds.rows.ok hi (z := repD a i) q1 rfl (fun _ => q2) (.inl rfl)
    rw [e]
    refine ⟨h.holds.alike (by simp) q.2 ⟨q.1, fun r h0 h1 => ?_⟩, h.up, h.stage, h.log, h.next⟩
    rw [q.2] at h1
    refine (h.holds.rows.row r h0 h1).same (by simp) fun j hj => ?_
    rw [set_at hi]
    by_cases ej : j = i
    · subst ej
      have hc : (a.ds.getD j .zero).can r = false := can_dead (by rw [getD_at hj]; exact hdd)
      rw [if_pos rfl]
      exact ⟨by rw [q3, hc], by unfold canV; rw [q3, hc]; rfl⟩
    · rw [if_neg ej]; exact ⟨rfl, rfl⟩
/-- a repaired row, whatever it held -/
theorem heal_facts {a : AZ} (h : a.ok = true) {r : Int} (hg : healOk a r = true) :
    0 ≤ r ∧ r < rowsZ a.ds ∧ (badZ a.ds r).length = 1 ∧ badZ (a.healed r).ds r = [] ∧ (a.healed r).ds.length = a.ds.length ∧
    ∀ k : Nat, k < a.ds.length → cellAtOk a.ds k r = true ∧ cellAtOk (a.healed r).ds k r = true ∧ cellAtV (a.healed r).ds k r = cellAtV a.ds k r := by
  have hG : healGo a r = true := by simp only [healOk, Bool.and_eq_true] at hg; exact hg.1
  have hm : (a.ds.getD (badAt a r) .zero).may r (tellV a.ds (badAt a r) r) = true := by simp only [healOk, Bool.and_eq_true] at hg; exact hg.2
  have hG' := hG
  simp only [healGo, Bool.and_eq_true, decide_eq_true_eq, Bool.not_eq_true'] at hG'
  obtain ⟨hu, ⟨r0, r1⟩, hone, hdj⟩ := hG'
  obtain ⟨j, hj, ej⟩ := badZ_at 0 (show 0 < (badZ a.ds r).length by omega)
  have hmem : (j : Int) ∈ badZ a.ds r := by rw [← ej]; exact List.getElem_mem _
  have hcj := (bad_can hmem).2
  have hba : badAt a r = j := by
    unfold badAt
    rw [List.getD_eq_getElem?_getD, List.getElem?_eq_getElem (show 0 < (badZ a.ds r).length by omega), Option.getD_some, ej]; rfl
  rw [hba] at hm hdj
  have hds := AZ.ok_ds h
  have o1 := (ok_at hds hj).1
  have hput := DZ.put_read o1 hm
  have e : (a.healed r).ds = a.ds.set j ((a.ds.getD j .zero).put r (tellV a.ds j r)) := by unfold AZ.healed; rw [if_pos hG, hba]
  have hc' := can_of_read hput.1
  have hV' : canV ((a.ds.getD j .zero).put r (tellV a.ds j r)) r = tellV a.ds j r := by rw [canV_of_read hput.1, hput.2]
  have hother : ∀ i, i < a.ds.length → i ≠ j → (a.ds.getD i .zero).can r = true := fun i hi hne => by
    cases hc : (a.ds.getD i .zero).can r
    · exact absurd (one_bad (by omega) hi hj hc hcj) hne
    · rfl
  have hnil : badZ (a.healed r).ds r = [] := by
    rw [e]
    exact bad_nothing fun i hi => by
      rw [List.length_set] at hi
      rw [set_at hj]
      by_cases e : i = j
      · rw [if_pos e]; exact hc'
      · rw [if_neg e]; exact hother i hi e
  have hal := healed_alike a r
  have hlen := hal.1
  have hhas1 : hasZ a.ds r = true := by unfold hasZ; rw [hds, decide_eq_true (show 0 ≤ r ∧ r < rowsZ a.ds from ⟨r0, r1⟩)]; rfl
  have hhas2 : hasZ (a.healed r).ds r = true := by unfold hasZ; rw [hal.disksOk hds, hal.rows, decide_eq_true (show 0 ≤ r ∧ r < rowsZ a.ds from ⟨r0, r1⟩)]; rfl
  refine ⟨r0, r1, hone, hnil, hlen, fun k hk => ?_⟩
  have ht1 : tellOk a.ds k r = true := by unfold tellOk; rw [hone]; simp
  have hk1 : cellAtOk a.ds k r = true := by simp only [cellAtOk, hhas1, ht1, decide_eq_true (show 0 ≤ (k : Int) ∧ (k : Int) < a.ds.length from ⟨by omega, by omega⟩)]; rfl
  have hck : ((a.healed r).ds.getD k .zero).can r = true := by
    rw [e, set_at hj]
    by_cases e : k = j
    · rw [if_pos e]; exact hc'
    · rw [if_neg e]; exact hother k hk e
  have ht2 : tellOk (a.healed r).ds k r = true := by unfold tellOk; rw [Int.toNat_natCast, hck]; rfl
  have hk2 : cellAtOk (a.healed r).ds k r = true := by simp only [cellAtOk, hhas2, ht2, decide_eq_true (show 0 ≤ (k : Int) ∧ (k : Int) < (a.healed r).ds.length from ⟨by omega, by omega⟩)]; rfl
  refine ⟨hk1, hk2, ?_⟩
  rw [cellAtV, cellAtV, if_pos hk1, if_pos hk2]
  have hL : tellV (a.healed r).ds k r = canV ((a.healed r).ds.getD k .zero) r := by unfold tellV; rw [Int.toNat_natCast, if_pos hck]
  rw [hL, e, set_at hj]
  by_cases ek : k = j
  · subst ek; rw [if_pos rfl]; exact hV'
  · rw [if_neg ek]
    unfold tellV
    rw [Int.toNat_natCast, if_pos (hother k hk ek)]
/-- a damaged cell of a replaced disk is not good either -/
theorem rep_rot {a : AZ} (h : a.ok = true) {i : Nat} (hi : i < a.ds.length) {y : Int} (h1 : 1 ≤ y) (h2 : y ≤ 32767) : ((repD a i).rot 0 y).can 0 = false := by
  have hds := AZ.ok_ds h
  have hn := inB_iff.1 (disks_n hds)
  have hr := rows_le hds
  have hb := bent_at (n := (i : Int)) (show 0 < rowsZ a.ds by omega)
  have hs0 : ¬ sumZ (i : Int) (0 : Nat) 0 < 0 := by
    rw [sumZ_yes (inB_yes (by omega) (by omega)) (inB_yes (by omega) (by omega)) rfl]; omega
  have hv : cofV (i : Int) (0 : Nat) 0 = 0 := by unfold cofV; split <;> rfl
  have hs : cofS (i : Int) (0 : Nat) 0 = sumZ (i : Int) (0 : Nat) 0 := by unfold cofS; rw [if_neg hs0]
  rw [hv, hs] at hb
  have hc : cellOkZ 0 ((sumZ (i : Int) (0 : Nat) 0 + 2) % 65521) = true := cellOk_iff.2 ⟨by omega, by have := Int.emod_nonneg (sumZ (i : Int) (0 : Nat) 0 + 2) (show (65521 : Int) ≠ 0 by omega); have := Int.emod_lt_of_pos (sumZ (i : Int) (0 : Nat) 0 + 2) (show (0 : Int) < 65521 by omega); omega⟩
  have hlen : (bentL (newL (i : Int) (rowsZ a.ds))).length = rowsZ a.ds := by simp [bentL, newL_length]
  have e : ((repD a i).rot 0 y).cell 0 = (y, (sumZ (i : Int) (0 : Nat) 0 + 2) % 65521) := by
    simp only [DZ.cell, DZ.rot, repD, List.getD_eq_getElem?_getD, show (0 : Int).toNat = 0 from rfl]
    rw [List.getElem?_set_self (by rw [hlen]; omega), hb]
    simp only [Option.getD_some, rotC]
    rw [rot_in hc h1 h2, rotS_ok hc, show (0 + y) % 32768 = y by omega]
  unfold DZ.can
  rw [e]
  have := sum_two (n := (i : Int)) (p := ((0 : Nat) : Int)) (y := y) (by omega) h2 (inB_yes (by omega) (by omega)) (inB_yes (by omega) (by omega))
  simp only [goodZ]
  rw [show ((repD a i).rot 0 y).n = (i : Int) from rfl, show fitsZ (i : Int) 0 y ((sumZ (i : Int) (0 : Nat) 0 + 2) % 65521) = false from this]; simp
end Go.Proofs.YteialkknddpbjaaGreatDoor
