/- What the places of an array hold when a disk dies or a cell rots. -/
import Derived.Test.YtdfhfebcbmolbaaGreatMathFill
import Derived.Test.YtdfhfebcbmolbaaGreatSpecL10
import Derived.Test.YtdfhfebcbmolbaaGreatSpecL11
namespace Go.Proofs.YtdfhfebcbmolbaaGreat
open Go.ChangeShapes Go.WideShapes Go.ChangeAt Go.RowKit

theorem rowsZ_of {R : Nat} (l : List DZ) (h : ∀ d ∈ l, d.dead = false → d.m.length = R) (hx : ∃ d ∈ l, d.dead = false) : rowsZ l = R := by
  induction l with
  | nil => obtain ⟨d, hd, _⟩ := hx; cases hd
  | cons d r ih =>
    cases hd : d.dead
    · simp only [rowsZ, hd]; exact h d (List.mem_cons_self ..) hd
    · simp only [rowsZ, hd, if_true]
      refine ih (fun e he => h e (List.mem_cons_of_mem _ he)) ?_
      obtain ⟨e, he, h2⟩ := hx
      rcases List.mem_cons.1 he with he | he
      · rw [he, hd] at h2; cases h2
      · exact ⟨e, he, h2⟩
theorem nobad_can {l : List DZ} (h : NoBad l) {r : Int} (h0 : 0 ≤ r) (h1 : r < rowsZ l) {i : Nat} (hi : i < l.length) : l[i].can r = true := by
  cases hc : l[i].can r
  · have := mem_bad hi (by rw [getD_at hi]; exact hc)
    rw [h r h0 h1] at this; cases this
  · rfl
theorem nobad_alive {l : List DZ} (hok : disksOkZ l = true) (h : NoBad l) {i : Nat} (hi : i < l.length) : l[i].dead = false := by
  have := nobad_can h (r := 0) (by omega) (by have := rows_le hok; omega) hi
  cases hd : l[i].dead
  · rfl
  · rw [can_dead hd] at this; cases this
theorem RowIs.whole {l : List DZ} {r : Int} {f : Nat → Int} (h : RowIs l r f) (hb : badZ l r = []) : wholeRow l r = true := by
  have hcan : ∀ i, i < l.length → (l.getD i .zero).can r = true := fun i hi => by
    cases hc : (l.getD i .zero).can r
    · have := mem_bad hi hc; rw [hb] at this; cases this
    · rfl
  simp only [wholeRow, allCan, Bool.and_eq_true, List.all_eq_true, beq_iff_eq]
  refine ⟨fun d hd => ?_, ?_⟩
  · obtain ⟨i, hi, rfl⟩ := List.getElem_of_mem hd
    have := hcan i hi
    rwa [getD_at hi] at this
  · have e : l.map (fun d => canV d r) = (List.range l.length).map f := by
      rw [map_range]
      apply List.ext_getElem (by simp)
      intro j h1 h2
      simp only [List.getElem_map, List.getElem_range]
      have hj : j < l.length := by simpa using h1
      exact h.val j hj (hcan j hj)
    unfold rowX
    rw [e]; exact h.par
theorem RowsAre.whole {l : List DZ} {F : Int → Nat → Int} (h : RowsAre l F) (hb : NoBad l) {r : Int} (h0 : 0 ≤ r) (h1 : r < rowsZ l) : wholeZ l r = true := by
  simp only [wholeZ, hasZ, h.ok, (h.row r h0 h1).whole (hb r h0 h1), decide_eq_true (show 0 ≤ r ∧ r < rowsZ l from ⟨h0, h1⟩)]; rfl
theorem RowsAre.cell {l : List DZ} {F : Int → Nat → Int} (h : RowsAre l F) {r : Int} (h0 : 0 ≤ r) (h1 : r < rowsZ l) {i : Nat} (hi : i < l.length) : cellAtOk l i r = true ∧ cellAtV l i r = F r i := by
  have q := (h.row r h0 h1).tell hi
  have hc : cellAtOk l i r = true := by
    simp only [cellAtOk, hasZ, h.ok, q.1, Bool.and_eq_true, decide_eq_true_eq, and_true, true_and]
    exact ⟨⟨h0, h1⟩, by omega, by omega⟩
  exact ⟨hc, by rw [cellAtV, if_pos hc, q.2]⟩
theorem Holds.alike {l m : List DZ} {F : Int → Nat → Int} {p : List Int} (h : Holds l F p) (hl : m.length = l.length) (hr : rowsZ m = rowsZ l) (hm : RowsAre m F) : Holds m F p :=
  ⟨hm, by rw [hl, hr]; exact h.len, by rw [hl]; exact h.at'⟩
/-- a disk dies -/
theorem RowsAre.dies {l : List DZ} {F : Int → Nat → Int} (h : RowsAre l F) (hb : NoBad l) {i : Nat} (hi : i < l.length) : RowsAre (l.set i l[i].died) F ∧ rowsZ (l.set i l[i].died) = rowsZ l := by
  have hn := inB_iff.1 (disks_n h.ok)
  have hok := (ok_at h.ok hi).1
  rw [getD_at hi] at hok
  have hz : l[i].died = ⟨l[i].n, true, [], []⟩ := by unfold DZ.died; rw [if_pos hok]
  have hal := fun j (hj : j < l.length) => nobad_alive h.ok hb hj
  have hR : rowsZ (l.set i l[i].died) = rowsZ l := by
    apply rowsZ_of
    · intro d hd hdd
      obtain ⟨j, hj, rfl⟩ := List.getElem_of_mem hd
      have hj' : j < l.length := by simpa using hj
      by_cases e : i = j
      · subst e
        rw [List.getElem_set_self, hz] at hdd; cases hdd
      · rw [List.getElem_set_ne e] at hdd ⊢
        have := (ok_at h.ok hj').2.2
        rw [getD_at hj'] at this
        exact this hdd
    · by_cases e : i = 0
      · refine ⟨(l.set i l[i].died)[1]'(by simp; omega), List.getElem_mem _, ?_⟩
        rw [List.getElem_set_ne (by omega)]; exact hal 1 (by omega)
      · refine ⟨(l.set i l[i].died)[0]'(by simp; omega), List.getElem_mem _, ?_⟩
        rw [List.getElem_set_ne e]; exact hal 0 (by omega)
  refine ⟨⟨?_, fun r h0 h1 => ?_⟩, hR⟩
  · have q := h.ok
    simp only [disksOkZ, Bool.and_eq_true, decide_eq_true_eq, List.all_eq_true, List.mem_range] at q ⊢
    rw [hR, List.length_set]
    refine ⟨q.1, fun j hj => ?_, q.2.2⟩
    have q2 := q.2.1 j hj
    by_cases e : i = j
    · subst e
      rw [getD_at (by simpa using hj), List.getElem_set_self, hz]
      rw [getD_at hj] at q2
      simp only [DZ.fitsIn, Bool.and_eq_true] at q2 ⊢
      refine ⟨?_, q2.2.1, by simp⟩
      have := q2.1
      simp only [DZ.ok, Bool.and_eq_true] at this ⊢
      exact ⟨this.1, by simp⟩
    · rw [getD_at (by simpa using hj), List.getElem_set_ne e, ← getD_at hj]; exact q2
  · rw [hR] at h1
    exact (h.row r h0 h1).lose (hb r h0 h1) i _ (fun _ hc => by rw [can_dead (by rw [hz])] at hc; cases hc)
theorem Held.dies {a : AZ} {F : Int → Nat → Int} {p : List Int} (h : Held a F p) (hb : NoBad a.ds) (d : Int) : Held (a.dies d) F p := by
  cases ho : dieOk a d
  · rw [die_no ho]; exact h
  · have hd : 0 ≤ d ∧ d < a.ds.length := by simp only [dieOk, Bool.and_eq_true, decide_eq_true_eq] at ho; exact ho.1
    obtain ⟨i, rfl⟩ := Int.eq_ofNat_of_zero_le hd.1
    have hi : i < a.ds.length := by omega
    have e : a.dies i = { a with ds := a.ds.set i a.ds[i].died } := by simp only [AZ.dies, ho, if_true, Int.toNat_natCast, getD_at hi]
    rw [e]
    have q := h.holds.rows.dies hb hi
    exact ⟨h.holds.alike (by simp) q.2 q.1, h.up, h.stage, h.log, h.next⟩
theorem dies_len (a : AZ) (d : Int) : (a.dies d).ds.length = a.ds.length := by unfold AZ.dies; split <;> simp
theorem dies_rows {a : AZ} {F : Int → Nat → Int} {p : List Int} (h : Held a F p) (hb : NoBad a.ds) (d : Int) : rowsZ (a.dies d).ds = rowsZ a.ds := by
  cases ho : dieOk a d
  · rw [die_no ho]
  · have hd : 0 ≤ d ∧ d < a.ds.length := by simp only [dieOk, Bool.and_eq_true, decide_eq_true_eq] at ho; exact ho.1
    obtain ⟨i, rfl⟩ := Int.eq_ofNat_of_zero_le hd.1
    have hi : i < a.ds.length := by omega
    have e : a.dies i = { a with ds := a.ds.set i a.ds[i].died } := by simp only [AZ.dies, ho, if_true, Int.toNat_natCast, getD_at hi]
    rw [e]
    exact (h.holds.rows.dies hb hi).2
/-- a cell rots -/
theorem rot_bad {v s n p y : Int} (h : goodZ v s n p = true) (h1 : 1 ≤ y) (h2 : y ≤ 32767) : goodZ (rotV v s y) (rotS v s) n p = false := by
  simp only [goodZ, fitsZ, Bool.and_eq_true, decide_eq_true_eq] at h
  obtain ⟨-, h3, h4⟩ := h
  subst h4
  exact (cof_good (by omega)).2.2.2 y h1 h2
theorem cells_set {l : List (Int × Int)} (h : cellsZ l = true) (p : Nat) (y : Int) : cellsZ (l.set p (rotC (l.getD p (0, 0)) y)) = true := by
  by_cases hp : p < l.length
  · simp only [cellsZ, Bool.and_eq_true, List.length_set] at h ⊢
    refine ⟨?_, h.2⟩
    have h1 := List.all_eq_true.1 h.1
    rw [List.all_eq_true]
    intro x hx
    rcases List.mem_or_eq_of_mem_set hx with hx | hx
    · exact h1 x hx
    · subst hx
      have hm : l.getD p (0, 0) ∈ l := by rw [List.getD_eq_getElem?_getD, List.getElem?_eq_getElem hp]; exact List.getElem_mem hp
      exact rot_ok (h1 _ hm)
  · rw [List.set_eq_of_length_le (by omega)]; exact h
theorem rot_alike (d : DZ) (p : Nat) (y : Int) : Alike d (d.rot p y) := by
  refine ⟨rfl, rfl, by simp [DZ.rot], fun h => ?_⟩
  obtain ⟨n, dead, k, m⟩ := d
  unfold DZ.ok at h ⊢
  cases dead
  · simp only [DZ.rot, Bool.and_eq_true, Bool.false_eq_true, if_false, List.length_set] at h ⊢
    exact ⟨h.1, cells_set h.2.1 p y, cells_set h.2.2.1 p y, h.2.2.2⟩
  · simp only [DZ.rot, Bool.and_eq_true, if_true, List.length_set] at h ⊢
    exact h
theorem rot_else (d : DZ) {p : Nat} {r : Int} (y : Int) (h : r ≠ p) (h0 : 0 ≤ r) : (d.rot p y).can r = d.can r ∧ canV (d.rot p y) r = canV d r := by
  have hc : (d.rot p y).cell r = d.cell r := by
    unfold DZ.cell DZ.rot
    simp only [List.getD_eq_getElem?_getD]
    rw [List.getElem?_set_ne (by omega)]
  have hh : (d.rot p y).has r = d.has r := by simp [DZ.has, DZ.rot]
  have h1 : (d.rot p y).can r = d.can r := by
    unfold DZ.can
    rw [hc, hh]; rfl
  exact ⟨h1, by unfold canV; rw [h1, hc]⟩
theorem rot_here {d : DZ} {p : Nat} {y : Int} (hc : d.can p = true) (h1 : 1 ≤ y) (h2 : y ≤ 32767) : (d.rot p y).can p = false := by
  simp only [DZ.can, Bool.and_eq_true] at hc
  obtain ⟨-, hh, hg⟩ := hc
  have hp : p < d.m.length := by simp only [DZ.has, decide_eq_true_eq] at hh; omega
  have e : (d.rot p y).cell p = rotC (d.cell p) y := by
    simp only [DZ.cell, DZ.rot, List.getD_eq_getElem?_getD, Int.toNat_natCast]
    rw [List.getElem?_set_self hp]; rfl
  unfold DZ.can
  rw [e]
  have := rot_bad hg h1 h2
  simp only [rotC]
  rw [show (d.rot p y).n = d.n from rfl, this]; simp
theorem Held.rots {a : AZ} {F : Int → Nat → Int} {p : List Int} (h : Held a F p) (hb : NoBad a.ds) (d q y : Int) : Held (a.rotted d q y) F p := by
  cases ho : rotOk a d q y
  · rw [rot_no ho]; exact h
  · have ho' := ho
    simp only [rotOk, Bool.and_eq_true, decide_eq_true_eq] at ho'
    obtain ⟨hd, hh, hy⟩ := ho'
    obtain ⟨i, rfl⟩ := Int.eq_ofNat_of_zero_le hd.1
    have hi : i < a.ds.length := by omega
    obtain ⟨k, rfl⟩ := Int.eq_ofNat_of_zero_le (show 0 ≤ q by simp only [DZ.has, decide_eq_true_eq] at hh; exact hh.1)
    have hy' := inB_iff.1 hy
    have e : a.rotted i k y = { a with ds := a.ds.set i (a.ds[i].rot k y) } := by simp only [AZ.rotted, ho, if_true, Int.toNat_natCast, getD_at hi]
    rw [e]
    have hal : AlikeL a.ds (a.ds.set i (a.ds[i].rot k y)) := AlikeL.set _ _ _ (fun _ => rot_alike _ _ _)
    have q1 := h.holds.rows
    refine ⟨h.holds.alike (by simp) hal.rows ⟨hal.disksOk q1.ok, fun r h0 h1 => ?_⟩, h.up, h.stage, h.log, h.next⟩
    rw [hal.rows] at h1
    have hc := nobad_can hb h0 h1 hi
    refine (q1.row r h0 h1).lose (hb r h0 h1) i _ (fun _ hz => ?_)
    by_cases e2 : r = (k : Int)
    · subst e2
      rw [rot_here hc hy'.1 hy'.2] at hz; cases hz
    · rw [(rot_else _ _ e2 h0).2]
      have := (q1.row r h0 h1).val i hi (by rw [getD_at hi]; exact hc)
      rwa [getD_at hi] at this
theorem rots_len (a : AZ) (d q y : Int) : (a.rotted d q y).ds.length = a.ds.length := by unfold AZ.rotted; split <;> simp
end Go.Proofs.YtdfhfebcbmolbaaGreat
