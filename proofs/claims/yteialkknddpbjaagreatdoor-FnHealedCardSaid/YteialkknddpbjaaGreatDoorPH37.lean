/- What the operations of chapters 10 and 11 make of a right array: right arrays. Repairs of cells of different rows: they may be carried out in any order. -/
import Derived.Test.YteialkknddpbjaaGreatDoorPH33
import Derived.Test.YteialkknddpbjaaGreatDoorPH36
namespace Go.Proofs.YteialkknddpbjaaGreatDoor
open Go.ChangeShapes Go.WideShapes Go.ChangeAt Go.RowKit

theorem rowsZ_of {R : Nat} (l : List DZ) (h : ∀ d ∈ l, d.dead = false → d.m.length = R) (hx : ∃ d ∈ l, d.dead = false) : rowsZ l = R := by
  induction l with
  | nil => obtain ⟨d, hd, _⟩ := hx; cases hd
  | cons d r ih =>
    cases hd : d.dead
    · simp only [rowsZ, hd]; exact h d (List.mem_cons_self ..) hd
    · simp only [rowsZ, hd, if_true]
      refine ih (fun e he => h e (List.mem_cons_of_mem _ he)) ?_
      obtain ⟨e, he, h2⟩ := hx
      rcases List.mem_cons.1 he with he | he
      · rw [he, hd] at h2; cases h2
      · exact ⟨e, he, h2⟩
theorem AZ.ok_alike {a : AZ} {l : List DZ} (h : a.ok = true) (ha : AlikeL a.ds l) : ({ a with ds := l } : AZ).ok = true := by
  have h1 := ha.disksOk (AZ.ok_ds h)
  have h2 := ha.rows
  unfold AZ.ok AZ.textsOk at h ⊢
  simp only [Bool.and_eq_true] at h ⊢
  rw [h2]
  exact ⟨h1, h.2⟩
theorem healed_alike (a : AZ) (r : Int) : AlikeL a.ds (a.healed r).ds := by
  unfold AZ.healed
  split
  · exact AlikeL.set _ _ _ (fun hi => by rw [getD_at hi]; exact put_alike _ _ _)
  · exact AlikeL.refl _
theorem healed_else (a : AZ) (r : Int) : a.healed r = { a with ds := (a.healed r).ds } := by unfold AZ.healed; split <;> rfl
theorem AZ.ok_healed {a : AZ} (h : a.ok = true) (r : Int) : (a.healed r).ok = true := by
  rw [healed_else]; exact AZ.ok_alike h (healed_alike a r)
theorem bad_can {l : List DZ} {r : Int} {j : Nat} (h : (j : Int) ∈ badZ l r) : j < l.length ∧ (l.getD j .zero).can r = false := by
  unfold badZ badL at h
  obtain ⟨i, hi, e⟩ := List.mem_map.1 h
  have e2 : i = j := by omega
  subst e2
  obtain ⟨h1, h2⟩ := List.mem_filter.1 hi
  exact ⟨by simpa using h1, by simpa using h2⟩
theorem bad_nothing {l : List DZ} {r : Int} (h : ∀ i, i < l.length → (l.getD i .zero).can r = true) : badZ l r = [] := by
  unfold badZ badL
  rw [List.map_eq_nil_iff, List.filter_eq_nil_iff]
  intro i hi
  rw [h i (by simpa using hi)]; simp
theorem set_at {l : List DZ} {j : Nat} (hj : j < l.length) (z : DZ) (i : Nat) : (l.set j z).getD i .zero = if i = j then z else l.getD i .zero := by
  by_cases e : i = j
  · subst e
    rw [if_pos rfl, getD_at (by simpa using hj), List.getElem_set_self]
  · rw [if_neg e]
    simp only [List.getD_eq_getElem?_getD, List.getElem?_set_ne (Ne.symm e)]
/-- a dead disk is replaced by one none of whose cells is good -/
theorem sum_two {n p y : Int} (hy0 : 0 ≤ y) (hy1 : y ≤ 32767) (hn : inB n 0 4 = true) (hp : inB p 0 15 = true) : fitsZ n p y ((sumZ n p 0 + 2) % 65521) = false := by
  have hn' := inB_iff.1 hn
  have hp' := inB_iff.1 hp
  have e0 := sumZ_yes hn hp (show inB (0 : Int) 0 32767 = true from rfl)
  have e1 := sumZ_yes hn hp (inB_yes hy0 hy1)
  unfold fitsZ
  rw [e0, e1, decide_eq_false_iff_not]
  intro ⟨_, h⟩
  omega
theorem AZ.ok_rows {a : AZ} {l : List DZ} (h : a.ok = true) (h1 : disksOkZ l = true) (h2 : rowsZ l = rowsZ a.ds) : ({ a with ds := l } : AZ).ok = true := by
  unfold AZ.ok AZ.textsOk at h ⊢
  simp only [Bool.and_eq_true] at h ⊢
  rw [h2]
  exact ⟨h1, h.2⟩
/-- one disk of right disks is put in the place of another -/
theorem set_ok {l : List DZ} (h : disksOkZ l = true) {i : Nat} (hi : i < l.length) {z : DZ} (hz : z.ok = true) (hn : z.n = (i : Int)) (hm : z.dead = false → z.m.length = rowsZ l) (hx : z.dead = false ∨ ∃ j, ∃ hj : j < l.length, j ≠ i ∧ l[j].dead = false) :
    disksOkZ (l.set i z) = true ∧ rowsZ (l.set i z) = rowsZ l := by
  have hR : rowsZ (l.set i z) = rowsZ l := by
    apply rowsZ_of
    · intro d hd hdd
      obtain ⟨j, hj, rfl⟩ := List.getElem_of_mem hd
      have hj' : j < l.length := by simpa using hj
      by_cases e : i = j
      · subst e
        rw [List.getElem_set_self] at hdd ⊢; exact hm hdd
      · rw [List.getElem_set_ne e] at hdd ⊢
        have := (ok_at h hj').2.2
        rw [getD_at hj'] at this
        exact this hdd
    · rcases hx with hx | ⟨j, hj, hne, hx⟩
      · exact ⟨(l.set i z)[i]'(by simpa using hi), List.getElem_mem _, by rw [List.getElem_set_self]; exact hx⟩
      · exact ⟨(l.set i z)[j]'(by simpa using hj), List.getElem_mem _, by rw [List.getElem_set_ne (Ne.symm hne)]; exact hx⟩
  refine ⟨?_, hR⟩
  have q := h
  simp only [disksOkZ, Bool.and_eq_true, decide_eq_true_eq, List.all_eq_true, List.mem_range] at q ⊢
  rw [hR, List.length_set]
  refine ⟨q.1, fun j hj => ?_, q.2.2⟩
  have q2 := q.2.1 j hj
  rw [set_at hi]
  by_cases e : j = i
  · subst e
    rw [if_pos rfl]
    simp only [DZ.fitsIn, Bool.and_eq_true, Bool.or_eq_true, beq_iff_eq]
    refine ⟨hz, hn, ?_⟩
    cases hd : z.dead
    · exact .inr (hm hd)
    · exact .inl rfl
  · rw [if_neg e]; exact q2
/-- the cells of a replaced disk -/
theorem bent_at {n : Int} {rows p : Nat} (h : p < rows) : (bentL (newL n rows))[p]? = some (cofV n p 0, (cofS n p 0 + 2) % 65521) := by
  simp [bentL, newL, bentC, h]
theorem repD_facts {a : AZ} (h : a.ok = true) {i : Nat} (hi : i < a.ds.length) : (repD a i).ok = true ∧ (repD a i).m.length = rowsZ a.ds ∧ ∀ r : Int, (repD a i).can r = false := by
  have hds := AZ.ok_ds h
  have hn := inB_iff.1 (disks_n hds)
  have hr := rows_le hds
  have hlen : (bentL (newL (i : Int) (rowsZ a.ds))).length = rowsZ a.ds := by simp [bentL, newL_length]
  have hcells : cellsZ (bentL (newL (i : Int) (rowsZ a.ds))) = true := by
    simp only [cellsZ, Bool.and_eq_true, hlen]
    refine ⟨?_, inB_yes (by omega) (by omega)⟩
    rw [List.all_eq_true]
    intro x hx
    obtain ⟨p, hp, rfl⟩ := List.getElem_of_mem hx
    have hp' : p < rowsZ a.ds := by rw [hlen] at hp; exact hp
    have e := bent_at (n := (i : Int)) hp'
    rw [List.getElem?_eq_getElem hp] at e
    have e2 := Option.some.inj e
    rw [e2]
    have hs : cofV (i : Int) p 0 = 0 := by unfold cofV; split <;> rfl
    show cellOkZ _ _ = true
    rw [hs]
    exact cellOk_iff.2 ⟨by omega, by have := Int.emod_nonneg (cofS (i : Int) p 0 + 2) (show (65521 : Int) ≠ 0 by omega); have := Int.emod_lt_of_pos (cofS (i : Int) p 0 + 2) (show (0 : Int) < 65521 by omega); omega⟩
  refine ⟨?_, hlen, fun r => ?_⟩
  · simp only [repD, DZ.ok, Bool.and_eq_true]
    exact ⟨inB_yes (by omega) (by omega), by simp [hcells]⟩
  · unfold DZ.can
    cases hh : (repD a i).has r
    · simp
    have hh' : 0 ≤ r ∧ r < (rowsZ a.ds : Int) := by
      simp only [DZ.has, repD, hlen, decide_eq_true_eq] at hh; exact hh
    obtain ⟨p, rfl⟩ := Int.eq_ofNat_of_zero_le hh'.1
    have e : (repD a i).cell p = (cofV (i : Int) p 0, (cofS (i : Int) p 0 + 2) % 65521) := by
      simp only [DZ.cell, repD, Int.toNat_natCast, List.getD_eq_getElem?_getD]
      rw [bent_at (by omega)]; rfl
    have hs0 : ¬ sumZ (i : Int) p 0 < 0 := by
      rw [sumZ_yes (inB_yes (by omega) (by omega)) (inB_yes (by omega) (by omega)) rfl]; omega
    have hv : cofV (i : Int) p 0 = 0 := by unfold cofV; split <;> rfl
    have hs : cofS (i : Int) p 0 = sumZ (i : Int) p 0 := by unfold cofS; rw [if_neg hs0]
    rw [e, hv, hs]
    have := sum_two (n := (i : Int)) (p := (p : Int)) (y := 0) (by omega) (by omega) (inB_yes (by omega) (by omega)) (inB_yes (by omega) (by omega))
    simp only [goodZ]
    rw [show (repD a i).n = (i : Int) from rfl, this]; simp
theorem replaced_yes {a : AZ} {d : Int} (h : repOk a d = true) : ∃ i : Nat, d = i ∧ ∃ hi : i < a.ds.length, a.ds[i].dead = true ∧ a.up = true ∧ a.stage = 0 ∧ a.replacedZ d = { a with ds := a.ds.set i (repD a i) } := by
  have h' := h
  simp only [repOk, Bool.and_eq_true, decide_eq_true_eq, beq_iff_eq] at h'
  obtain ⟨hu, hs, hd, hx⟩ := h'
  obtain ⟨i, rfl⟩ := Int.eq_ofNat_of_zero_le hd.1
  have hi : i < a.ds.length := by omega
  rw [Int.toNat_natCast, getD_at hi] at hx
  exact ⟨i, rfl, hi, hx, hu, hs, by simp only [AZ.replacedZ, h, if_true, Int.toNat_natCast]⟩
theorem replaced_ok {a : AZ} (h : a.ok = true) (d : Int) : (a.replacedZ d).ok = true := by
  cases ho : repOk a d
  · rw [rep_no ho]; exact h
  · obtain ⟨i, rfl, hi, -, -, -, e⟩ := replaced_yes ho
    obtain ⟨q1, q2, -⟩ := repD_facts h hi
    have q := set_ok (AZ.ok_ds h) hi (z := repD a i) q1 rfl (fun _ => q2) (.inl rfl)
    rw [e]; exact AZ.ok_rows h q.1 q.2
/-- a cell that is to be written: its row, its disk, its value -/
abbrev RZ := Int × Nat × Int
def putR (l : List DZ) (x : RZ) : List DZ := l.set x.2.1 ((l.getD x.2.1 .zero).put x.1 x.2.2)
theorem may_put (e : DZ) (p v q u : Int) : (e.put p v).may q u = e.may q u := by
  unfold DZ.put; split
  · simp [DZ.may, DZ.has]
  · rfl
theorem put_yes {d : DZ} {p v : Int} (h : d.may p v = true) : d.put p v = { d with m := d.m.set p.toNat (cofV d.n p v, cofS d.n p v) } := by unfold DZ.put; rw [if_pos h]
theorem put_not {d : DZ} {p v : Int} (h : d.may p v = false) : d.put p v = d := by unfold DZ.put; rw [if_neg (by rw [h]; simp)]
theorem put_comm (d : DZ) {p q : Int} (v u : Int) (h : p ≠ q) : (d.put p v).put q u = (d.put q u).put p v := by
  cases h1 : d.may p v
  · rw [put_not h1, put_not (d := d.put q u) (by rw [may_put]; exact h1)]
  · cases h2 : d.may q u
    · rw [put_not h2, put_not (d := d.put p v) (by rw [may_put]; exact h2)]
    · rw [put_yes (d := d.put p v) (by rw [may_put]; exact h2), put_yes (d := d.put q u) (by rw [may_put]; exact h1), put_yes h1, put_yes h2]
      have hp : 0 ≤ p := by simp [DZ.may, DZ.has] at h1; omega
      have hq : 0 ≤ q := by simp [DZ.may, DZ.has] at h2; omega
      simp only [DZ.mk.injEq, true_and]
      exact List.set_comm _ _ (by omega)
theorem set_else {l : List DZ} {i j : Nat} (h : i ≠ j) (z : DZ) : (l.set i z).getD j .zero = l.getD j .zero := by
  simp only [List.getD_eq_getElem?_getD, List.getElem?_set_ne h]
theorem putR_comm (l : List DZ) {x y : RZ} (h : x.1 ≠ y.1) : putR (putR l x) y = putR (putR l y) x := by
  unfold putR
  by_cases e : x.2.1 = y.2.1
  · by_cases hi : x.2.1 < l.length
    · rw [← e, set_at hi, set_at hi, if_pos rfl, if_pos rfl, List.set_set, List.set_set, put_comm _ _ _ h]
    · have hn : ∀ z, l.set x.2.1 z = l := fun z => List.set_eq_of_length_le (by omega)
      rw [← e]; simp only [hn]
  · rw [set_else e, set_else (Ne.symm e), List.set_comm _ _ e]
/-- no row is met with two different repairs -/
def OneEach (L : List RZ) : Prop := ∀ x ∈ L, ∀ y ∈ L, x.1 = y.1 → x = y
theorem OneEach.sub {L M : List RZ} (h : OneEach L) (hs : ∀ x ∈ M, x ∈ L) : OneEach M := fun x hx y hy => h x (hs x hx) y (hs y hy)
theorem putAll_perm {L L' : List RZ} (p : L.Perm L') (h : OneEach L) (l : List DZ) : L.foldl putR l = L'.foldl putR l :=
  p.foldl_eq' (fun x hx y hy z => by
    by_cases e : x.1 = y.1
    · rw [h x hx y hy e]
    · exact putR_comm z e) l
theorem putR_alike (l : List DZ) (x : RZ) : AlikeL l (putR l x) := AlikeL.set _ _ _ (fun hi => by rw [getD_at hi]; exact put_alike _ _ _)
theorem putAll_alike (L : List RZ) (l : List DZ) : AlikeL l (L.foldl putR l) := by
  induction L generalizing l with
  | nil => exact .refl l
  | cons x L ih => exact (putR_alike l x).trans (ih _)
/-- a row is told alike in two lists -/
def SameRow (l m : List DZ) (r : Int) : Prop := m.length = l.length ∧ ∀ i, (m.getD i .zero).can r = (l.getD i .zero).can r ∧ canV (m.getD i .zero) r = canV (l.getD i .zero) r
theorem SameRow.refl (l : List DZ) (r : Int) : SameRow l l r := ⟨rfl, fun _ => ⟨rfl, rfl⟩⟩
theorem SameRow.trans {l m n : List DZ} {r : Int} (h : SameRow l m r) (g : SameRow m n r) : SameRow l n r := ⟨g.1.trans h.1, fun i => ⟨(g.2 i).1.trans (h.2 i).1, (g.2 i).2.trans (h.2 i).2⟩⟩
/-- which cell of a row is to be repaired -/
def badOf (l : List DZ) (r : Int) : Nat := ((badZ l r).getD 0 0).toNat
def repGo (l : List DZ) (r : Int) : Bool := decide (0 ≤ r ∧ r < rowsZ l) && (decide ((badZ l r).length = 1) && !(l.getD (badOf l r) .zero).dead)
def repOf (l : List DZ) (r : Int) : Option RZ := if repGo l r then some (r, badOf l r, tellV l (badOf l r) r) else none
theorem healGo_rep (a : AZ) (r : Int) : healGo a r = (a.up && repGo a.ds r) := rfl
/-- the repairs that rows ask for -/
def waitZ (a : AZ) (rows : List Int) : List RZ := if a.up then rows.filterMap (repOf a.ds) else []
theorem waitZ_one (a : AZ) (rows : List Int) : OneEach (waitZ a rows) := by
  have hk : ∀ x ∈ waitZ a rows, repOf a.ds x.1 = some x := fun x hx => by
    unfold waitZ at hx
    split at hx
    · obtain ⟨r, _, e⟩ := List.mem_filterMap.1 hx
      have : x.1 = r := by
        unfold repOf at e; split at e
        · cases e; rfl
        · cases e
      rw [this]; exact e
    · cases hx
  intro x hx y hy e
  have h1 := hk x hx
  have h2 := hk y hy
  rw [e, h2] at h1
  exact (Option.some.inj h1).symm
theorem waitZ_append (a : AZ) (k m : List Int) : waitZ a (k ++ m) = waitZ a k ++ waitZ a m := by
  unfold waitZ; split <;> simp
theorem healed_wait (a : AZ) (r : Int) : (a.healed r).ds = (waitZ a [r]).foldl putR a.ds := by
  have e : badAt a r = badOf a.ds r := rfl
  unfold AZ.healed waitZ
  rw [healGo_rep, e]
  cases hu : a.up
  · rfl
  · cases hg : repGo a.ds r
    · simp [repOf, hg]
    · simp [repOf, hg, putR]
theorem heal_ok {a : AZ} (h : a.ok = true) (r : Int) : healOk a r = healGo a r := by
  cases hg : healGo a r
  · exact (heal_no hg).1
  · have hG' := hg
    simp only [healGo, Bool.and_eq_true, decide_eq_true_eq, Bool.not_eq_true'] at hG'
    obtain ⟨hu, ⟨r0, r1⟩, hone, hdj⟩ := hG'
    obtain ⟨j, hj, ej⟩ := badZ_at 0 (show 0 < (badZ a.ds r).length by omega)
    have hba : badAt a r = j := by
      unfold badAt
      rw [List.getD_eq_getElem?_getD, List.getElem?_eq_getElem (show 0 < (badZ a.ds r).length by omega), Option.getD_some, ej]; rfl
    obtain ⟨o1, o2, o3⟩ := ok_at (AZ.ok_ds h) hj
    unfold healOk
    rw [hg, Bool.true_and, hba]
    rw [hba] at hdj
    simp only [DZ.may, DZ.has, hdj, Bool.and_eq_true, decide_eq_true_eq, o3 hdj]
    exact ⟨rfl, ⟨r0, r1⟩, okv_iff.2 (tellV_b _ _ _)⟩
theorem heal_wait {a : AZ} (h : a.ok = true) (r : Int) : healOk a r = decide (0 < (waitZ a [r]).length) := by
  rw [heal_ok h, healGo_rep]
  unfold waitZ
  cases hu : a.up
  · rfl
  · cases hg : repGo a.ds r <;> simp [repOf, hg]
/-- a repair's disk, row and value -/
theorem repOf_facts {l : List DZ} {r : Int} {x : RZ} (h : repOf l r = some x) : x.1 = r ∧ 0 ≤ r ∧ r < rowsZ l ∧ x.2.1 < l.length ∧ 0 ≤ x.2.2 ∧ x.2.2 ≤ 32767 ∧ (badZ l r).length = 1 ∧ (badZ l r).head? = some (x.2.1 : Int) ∧ (l.getD x.2.1 .zero).dead = false := by
  unfold repOf at h
  split at h
  · rename_i hg
    cases h
    simp only [repGo, Bool.and_eq_true, decide_eq_true_eq, Bool.not_eq_true'] at hg
    obtain ⟨⟨r0, r1⟩, hone, hdj⟩ := hg
    obtain ⟨j, hj, ej⟩ := badZ_at 0 (show 0 < (badZ l r).length by omega)
    have hba : badOf l r = j := by
      unfold badOf
      rw [List.getD_eq_getElem?_getD, List.getElem?_eq_getElem (show 0 < (badZ l r).length by omega), Option.getD_some, ej]; rfl
    have hb := tellV_b l (badOf l r) r
    refine ⟨rfl, r0, r1, by show badOf l r < _; omega, hb.1, hb.2, hone, ?_, hdj⟩
    show _ = some ((badOf l r : Nat) : Int)
    rw [List.head?_eq_getElem?, List.getElem?_eq_getElem (show 0 < (badZ l r).length by omega), ej, hba]
  · cases h
theorem waitZ_facts {a : AZ} {rows : List Int} {x : RZ} (h : x ∈ waitZ a rows) : 0 ≤ x.1 ∧ x.1 < rowsZ a.ds ∧ x.2.1 < a.ds.length ∧ 0 ≤ x.2.2 ∧ x.2.2 ≤ 32767 := by
  unfold waitZ at h
  split at h
  · obtain ⟨r, _, e⟩ := List.mem_filterMap.1 h
    obtain ⟨h1, h2, h3, h4, h5, h6, -⟩ := repOf_facts e
    rw [h1]; exact ⟨h2, h3, h4, h5, h6⟩
  · cases h
end Go.Proofs.YteialkknddpbjaaGreatDoor
