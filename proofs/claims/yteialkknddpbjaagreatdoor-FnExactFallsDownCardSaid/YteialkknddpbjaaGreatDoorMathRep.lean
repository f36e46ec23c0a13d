/- What the operations of chapters 10 and 11 make of a right array: right arrays. Repairs of cells of different rows: they may be carried out in any order. -/
import Derived.Test.YteialkknddpbjaaGreatDoorMathFill
import Derived.Test.YteialkknddpbjaaGreatDoorOwnX
namespace Go.Proofs.YteialkknddpbjaaGreatDoor
open Go.ChangeShapes Go.WideShapes Go.ChangeAt Go.RowKit

theorem rowsZ_of {R : Nat} (l : List DZ) (h : ∀ d ∈ l, d.dead = false → d.m.length = R) (hx : ∃ d ∈ l, d.dead = false) : rowsZ l = R := by
  induction l with
  | nil => obtain ⟨d, hd, _⟩ := hx; cases hd
  | cons d r ih =>
    cases hd : d.dead
    · simp only [rowsZ, hd]; exact h d (List.mem_cons_self ..) hd
    · simp only [rowsZ, hd, if_true]
      refine ih (fun e he => h e (List.mem_cons_of_mem _ he)) ?_
      obtain ⟨e, he, h2⟩ := hx
      rcases List.mem_cons.1 he with he | he
      · rw [he, hd] at h2; cases h2
      · exact ⟨e, he, h2⟩
theorem cells_set {l : List (Int × Int)} (h : cellsZ l = true) (p : Nat) (y : Int) : cellsZ (l.set p (rotC (l.getD p (0, 0)) y)) = true := by
  by_cases hp : p < l.length
  · simp only [cellsZ, Bool.and_eq_true, List.length_set] at h ⊢
    refine ⟨?_, h.2⟩
    have h1 := List.all_eq_true.1 h.1
    rw [List.all_eq_true]
    intro x hx
    rcases List.mem_or_eq_of_mem_set hx with hx | hx
    · exact h1 x hx
    · subst hx
      have hm : l.getD p (0, 0) ∈ l := by rw [List.getD_eq_getElem?_getD, List.getElem?_eq_getElem hp]; exact List.getElem_mem hp
      exact rot_ok (h1 _ hm)
  · rw [List.set_eq_of_length_le (by omega)]; exact h
theorem rot_alike (d : DZ) (p : Nat) (y : Int) : Alike d (d.rot p y) := by
  refine ⟨rfl, rfl, by simp [DZ.rot], fun h => ?_⟩
  obtain ⟨n, dead, k, m⟩ := d
  unfold DZ.ok at h ⊢
  cases dead
  · simp only [DZ.rot, Bool.and_eq_true, Bool.false_eq_true, if_false, List.length_set] at h ⊢
    exact ⟨h.1, cells_set h.2.1 p y, cells_set h.2.2.1 p y, h.2.2.2⟩
  · simp only [DZ.rot, Bool.and_eq_true, if_true, List.length_set] at h ⊢
    exact h
theorem AZ.ok_alike {a : AZ} {l : List DZ} (h : a.ok = true) (ha : AlikeL a.ds l) : ({ a with ds := l } : AZ).ok = true := by
  have h1 := ha.disksOk (AZ.ok_ds h)
  have h2 := ha.rows
  unfold AZ.ok AZ.textsOk at h ⊢
  simp only [Bool.and_eq_true] at h ⊢
  rw [h2]
  exact ⟨h1, h.2⟩
theorem healed_alike (a : AZ) (r : Int) : AlikeL a.ds (a.healed r).ds := by
  unfold AZ.healed
  split
  · exact AlikeL.set _ _ _ (fun hi => by rw [getD_at hi]; exact put_alike _ _ _)
  · exact AlikeL.refl _
theorem healed_else (a : AZ) (r : Int) : a.healed r = { a with ds := (a.healed r).ds } := by unfold AZ.healed; split <;> rfl
theorem AZ.ok_healed {a : AZ} (h : a.ok = true) (r : Int) : (a.healed r).ok = true := by
  rw [healed_else]; exact AZ.ok_alike h (healed_alike a r)
theorem bad_can {l : List DZ} {r : Int} {j : Nat} (h : (j : Int) ∈ badZ l r) : j < l.length ∧ (l.getD j .zero).can r = false := by
  unfold badZ badL at h
  obtain ⟨i, hi, e⟩ := List.mem_map.1 h
  have e2 : i = j := by omega
  subst e2
  obtain ⟨h1, h2⟩ := List.mem_filter.1 hi
  exact ⟨by simpa using h1, by simpa using h2⟩
theorem bad_nothing {l : List DZ} {r : Int} (h : ∀ i, i < l.length → (l.getD i .zero).can r = true) : badZ l r = [] := by
  unfold badZ badL
  rw [List.map_eq_nil_iff, List.filter_eq_nil_iff]
  intro i hi
  rw [h i (by simpa using hi)]; simp
theorem set_at {l : List DZ} {j : Nat} (hj : j < l.length) (z : DZ) (i : Nat) : (l.set j z).getD i .zero = if i = j then z else l.getD i .zero := by
  by_cases e : i = j
  · subst e
    rw [if_pos rfl, getD_at (by simpa using hj), List.getElem_set_self]
  · rw [if_neg e]
    simp only [List.getD_eq_getElem?_getD, List.getElem?_set_ne (Ne.symm e)]
/-- all rows, one behind the other -/
def AZ.healK (a : AZ) : Nat → AZ
  | 0 => a
  | k + 1 => (a.healK k).healed k
def AZ.healedAll (a : AZ) : AZ := { a.healK (rowsZ a.ds) with ds := flushAll (a.healK (rowsZ a.ds)).ds }
theorem healK_alike (a : AZ) (k : Nat) : AlikeL a.ds (a.healK k).ds := by
  induction k with
  | zero => exact AlikeL.refl _
  | succ k ih => exact ih.trans (healed_alike _ _)
theorem healK_else (a : AZ) (k : Nat) : a.healK k = { a with ds := (a.healK k).ds } := by
  induction k with
  | zero => rfl
  | succ k ih =>
    refine (healed_else (a.healK k) k).trans ?_
    have e1 : (a.healK k).log = a.log := by rw [ih]
    have e2 : (a.healK k).next = a.next := by rw [ih]
    have e3 : (a.healK k).stage = a.stage := by rw [ih]
    have e4 : (a.healK k).up = a.up := by rw [ih]
    rw [e1, e2, e3, e4]; rfl
theorem AZ.ok_healK {a : AZ} (h : a.ok = true) (k : Nat) : (a.healK k).ok = true := by
  rw [healK_else]; exact AZ.ok_alike h (healK_alike a k)
theorem AZ.ok_healedAll {a : AZ} (h : a.ok = true) : a.healedAll.ok = true := by
  unfold AZ.healedAll
  exact AZ.ok_alike (AZ.ok_healK h _) (flushAll_alike _)
/-- a dead disk is replaced by one none of whose cells is good -/
theorem sum_two {n p y : Int} (hy0 : 0 ≤ y) (hy1 : y ≤ 32767) (hn : inB n 0 4 = true) (hp : inB p 0 15 = true) : fitsZ n p y ((sumZ n p 0 + 2) % 65521) = false := by
  have hn' := inB_iff.1 hn
  have hp' := inB_iff.1 hp
  have e0 := sumZ_yes hn hp (show inB (0 : Int) 0 32767 = true from rfl)
  have e1 := sumZ_yes hn hp (inB_yes hy0 hy1)
  unfold fitsZ
  rw [e0, e1, decide_eq_false_iff_not]
  intro ⟨_, h⟩
  omega
theorem AZ.ok_rows {a : AZ} {l : List DZ} (h : a.ok = true) (h1 : disksOkZ l = true) (h2 : rowsZ l = rowsZ a.ds) : ({ a with ds := l } : AZ).ok = true := by
  unfold AZ.ok AZ.textsOk at h ⊢
  simp only [Bool.and_eq_true] at h ⊢
  rw [h2]
  exact ⟨h1, h.2⟩
/-- one disk of right disks is put in the place of another -/
theorem set_ok {l : List DZ} (h : disksOkZ l = true) {i : Nat} (hi : i < l.length) {z : DZ} (hz : z.ok = true) (hn : z.n = (i : Int)) (hm : z.dead = false → z.m.length = rowsZ l) (hx : z.dead = false ∨ ∃ j, ∃ hj : j < l.length, j ≠ i ∧ l[j].dead = false) :
    disksOkZ (l.set i z) = true ∧ rowsZ (l.set i z) = rowsZ l := by
  have hR : rowsZ (l.set i z) = rowsZ l := by
    apply rowsZ_of
    · intro d hd hdd
      obtain ⟨j, hj, rfl⟩ := List.getElem_of_mem hd
      have hj' : j < l.length := by simpa using hj
      by_cases e : i = j
      · subst e
        rw [List.getElem_set_self] at hdd ⊢; exact hm hdd
      · rw [List.getElem_set_ne e] at hdd ⊢
        have := (ok_at h hj').2.2
        rw [getD_at hj'] at this
        exact this hdd
    · rcases hx with hx | ⟨j, hj, hne, hx⟩
      · exact ⟨(l.set i z)[i]'(by simpa using hi), List.getElem_mem _, by rw [List.getElem_set_self]; exact hx⟩
      · exact ⟨(l.set i z)[j]'(by simpa using hj), List.getElem_mem _, by rw [List.getElem_set_ne (Ne.symm hne)]; exact hx⟩
  refine ⟨?_, hR⟩
  have q := h
  simp only [disksOkZ, Bool.and_eq_true, decide_eq_true_eq, List.all_eq_true, List.mem_range] at q ⊢
  rw [hR, List.length_set]
  refine ⟨q.1, fun j hj => ?_, q.2.2⟩
  have q2 := q.2.1 j hj
  rw [set_at hi]
  by_cases e : j = i
  · subst e
    rw [if_pos rfl]
    simp only [DZ.fitsIn, Bool.and_eq_true, Bool.or_eq_true, beq_iff_eq]
    refine ⟨hz, hn, ?_⟩
    cases hd : z.dead
    · exact .inr (hm hd)
    · exact .inl rfl
  · rw [if_neg e]; exact q2
theorem alive_other {l : List DZ} {i : Nat} (h : ∀ j, ∀ hj : j < l.length, j ≠ i → l[j].dead = true) (k : Nat) (hk : k ≤ l.length) : aliveN (l.take k) ≤ if i < k then 1 else 0 := by
  induction k with
  | zero => simp [aliveN]
  | succ k ih =>
    have q := ih (by omega)
    have hlt : k < l.length := by omega
    by_cases e : k = i
    · subst e
      rw [if_neg (by omega)] at q
      cases hd : l[k].dead
      · rw [alive_yes hlt hd, if_pos (by omega)]; omega
      · rw [alive_no hlt hd, if_pos (by omega)]; omega
    · rw [alive_no hlt (h k hlt e)]
      by_cases h1 : i < k
      · rw [if_pos h1] at q; rw [if_pos (by omega)]; exact q
      · rw [if_neg h1] at q; rw [if_neg (by omega)]; exact q
theorem alive_two {l : List DZ} (h : 2 ≤ aliveN l) (i : Nat) : ∃ j, ∃ hj : j < l.length, j ≠ i ∧ l[j].dead = false := by
  apply Classical.byContradiction
  intro hn
  have := alive_other (l := l) (i := i) (fun j hj hne => by
    cases hd : l[j].dead
    · exact absurd ⟨j, hj, hne, hd⟩ hn
    · rfl) l.length (Nat.le_refl _)
  rw [List.take_length] at this
  split at this <;> omega
theorem dies_ok {a : AZ} (h : a.ok = true) (d : Int) : (a.dies d).ok = true := by
  cases ho : dieOk a d
  · rw [die_no ho]; exact h
  · have ho' := ho
    simp only [dieOk, Bool.and_eq_true, decide_eq_true_eq] at ho'
    obtain ⟨hd, -, h2⟩ := ho'
    obtain ⟨i, rfl⟩ := Int.eq_ofNat_of_zero_le hd.1
    have hi : i < a.ds.length := by omega
    have e : a.dies i = { a with ds := a.ds.set i a.ds[i].died } := by simp only [AZ.dies, ho, if_true, Int.toNat_natCast, getD_at hi]
    rw [e]
    have hok := ok_at (AZ.ok_ds h) hi
    rw [getD_at hi] at hok
    have hz : a.ds[i].died = ⟨a.ds[i].n, true, [], []⟩ := by unfold DZ.died; rw [if_pos hok.1]
    have q := set_ok (AZ.ok_ds h) hi (z := a.ds[i].died) (by
      have := hok.1
      rw [hz]
      simp only [DZ.ok, Bool.and_eq_true] at this ⊢
      exact ⟨this.1, by simp⟩) (by rw [hz]; exact hok.2.1) (by rw [hz]; intro x; cases x) (.inr (alive_two h2 i))
    exact AZ.ok_rows h q.1 q.2
theorem rotted_ok {a : AZ} (h : a.ok = true) (d p y : Int) : (a.rotted d p y).ok = true := by
  cases ho : rotOk a d p y
  · rw [rot_no ho]; exact h
  · have e : a.rotted d p y = { a with ds := a.ds.set d.toNat ((a.ds.getD d.toNat .zero).rot p.toNat y) } := by simp only [AZ.rotted, ho, if_true]
    rw [e]
    exact AZ.ok_alike h (AlikeL.set _ _ _ (fun hi => by rw [getD_at hi]; exact rot_alike _ _ _))
/-- the cells of a replaced disk -/
theorem bent_at {n : Int} {rows p : Nat} (h : p < rows) : (bentL (newL n rows))[p]? = some (cofV n p 0, (cofS n p 0 + 2) % 65521) := by
  simp [bentL, newL, bentC, h]
theorem repD_facts {a : AZ} (h : a.ok = true) {i : Nat} (hi : i < a.ds.length) : (repD a i).ok = true ∧ (repD a i).m.length = rowsZ a.ds ∧ ∀ r : Int, (repD a i).can r = false := by
  have hds := AZ.ok_ds h
  have hn := inB_iff.1 (disks_n hds)
  have hr := rows_le hds
  have hlen : (bentL (newL (i : Int) (rowsZ a.ds))).length = rowsZ a.ds := by simp [bentL, newL_length]
  have hcells : cellsZ (bentL (newL (i : Int) (rowsZ a.ds))) = true := by
    simp only [cellsZ, Bool.and_eq_true, hlen]
    refine ⟨?_, inB_yes (by omega) (by omega)⟩
    rw [List.all_eq_true]
    intro x hx
    obtain ⟨p, hp, rfl⟩ := List.getElem_of_mem hx
    have hp' : p < rowsZ a.ds := by rw [hlen] at hp; exact hp
    have e := bent_at (n := (i : Int)) hp'
    rw [List.getElem?_eq_getElem hp] at e
    have e2 := Option.some.inj e
    rw [e2]
    have hs : cofV (i : Int) p 0 = 0 := by unfold cofV; split <;> rfl
    show cellOkZ _ _ = true
    rw [hs]
    exact cellOk_iff.2 ⟨by omega, by have := Int.emod_nonneg (cofS (i : Int) p 0 + 2) (show (65521 : Int) ≠ 0 by omega); have := Int.emod_lt_of_pos (cofS (i : Int) p 0 + 2) (show (0 : Int) < 65521 by omega); omega⟩
  refine ⟨?_, hlen, fun r => ?_⟩
  · simp only [repD, DZ.ok, Bool.and_eq_true]
    exact ⟨inB_yes (by omega) (by omega), by simp [hcells]⟩
  · unfold DZ.can
    cases hh : (repD a i).has r
    · simp
    have hh' : 0 ≤ r ∧ r < (rowsZ a.ds : Int) := by
      simp only [DZ.has, repD, hlen, decide_eq_true_eq] at hh; exact hh
    obtain ⟨p, rfl⟩ := Int.eq_ofNat_of_zero_le hh'.1
    have e : (repD a i).cell p = (cofV (i : Int) p 0, (cofS (i : Int) p 0 + 2) % 65521) := by
      simp only [DZ.cell, repD, Int.toNat_natCast, List.getD_eq_getElem?_getD]
      rw [bent_at (by omega)]; rfl
    have hs0 : ¬ sumZ (i : Int) p 0 < 0 := by
      rw [sumZ_yes (inB_yes (by omega) (by omega)) (inB_yes (by omega) (by omega)) rfl]; omega
    have hv : cofV (i : Int) p 0 = 0 := by unfold cofV; split <;> rfl
    have hs : cofS (i : Int) p 0 = sumZ (i : Int) p 0 := by unfold cofS; rw [if_neg hs0]
    rw [e, hv, hs]
    have := sum_two (n := (i : Int)) (p := (p : Int)) (y := 0) (by omega) (by omega) (inB_yes (by omega) (by omega)) (inB_yes (by omega) (by omega))
    simp only [goodZ]
    rw [show (repD a i).n = (i : Int) from rfl, this]; simp
theorem replaced_yes {a : AZ} {d : Int} (h : repOk a d = true) : ∃ i : Nat, d = i ∧ ∃ hi : i < a.ds.length, a.ds[i].dead = true ∧ a.up = true ∧ a.stage = 0 ∧ a.replacedZ d = { a with ds := a.ds.set i (repD a i) } := by
  have h' := h
  simp only [repOk, Bool.and_eq_true, decide_eq_true_eq, beq_iff_eq] at h'
  obtain ⟨hu, hs, hd, hx⟩ := h'
  obtain ⟨i, rfl⟩ := Int.eq_ofNat_of_zero_le hd.1
  have hi : i < a.ds.length := by omega
  rw [Int.toNat_natCast, getD_at hi] at hx
  exact ⟨i, rfl, hi, hx, hu, hs, by simp only [AZ.replacedZ, h, if_true, Int.toNat_natCast]⟩
theorem replaced_ok {a : AZ} (h : a.ok = true) (d : Int) : (a.replacedZ d).ok = true := by
  cases ho : repOk a d
  · rw [rep_no ho]; exact h
  · obtain ⟨i, rfl, hi, -, -, -, e⟩ := replaced_yes ho
    obtain ⟨q1, q2, -⟩ := repD_facts h hi
    have q := set_ok (AZ.ok_ds h) hi (z := repD a i) q1 rfl (fun _ => q2) (.inl rfl)
    rw [e]; exact AZ.ok_rows h q.1 q.2
/-- a crash -/
theorem fall_alike {d : DZ} (h : d.k.length = d.m.length) (s : Int) : Alike d (d.fall s) := by
  refine ⟨rfl, rfl, (fall_len d s).2, fun ho => ?_⟩
  obtain ⟨n, dead, k, m⟩ := d
  dsimp only at h
  unfold DZ.ok at ho ⊢
  cases dead
  · simp only [DZ.fall, Bool.and_eq_true, Bool.false_eq_true, if_false] at ho ⊢
    obtain ⟨h0, h1, h2, h3⟩ := ho
    have hl : (fallL s k m).length = m.length := by simp [fallL]
    have hc : cellsZ (fallL s k m) = true := by
      simp only [cellsZ, Bool.and_eq_true, hl] at h1 h2 ⊢
      refine ⟨?_, h2.2⟩
      have a1 := List.all_eq_true.1 h1.1
      have a2 := List.all_eq_true.1 h2.1
      rw [List.all_eq_true]
      intro x hx
      unfold fallL at hx
      obtain ⟨i, hi, rfl⟩ := List.mem_map.1 hx
      have him : i < m.length := by simpa using hi
      split
      · exact a2 _ (by rw [List.getD_eq_getElem?_getD, List.getElem?_eq_getElem him]; exact List.getElem_mem him)
      · exact a1 _ (by rw [List.getD_eq_getElem?_getD, List.getElem?_eq_getElem (show i < k.length by omega)]; exact List.getElem_mem (show i < k.length by omega))
    exact ⟨h0, hc, hc, by simp⟩
  · simp only [DZ.fall, Bool.and_eq_true, if_true, beq_iff_eq] at ho ⊢
    have : m = [] := List.eq_nil_of_length_eq_zero ho.2.2
    subst this
    exact ⟨ho.1, by simp [fallL]⟩
theorem fallK_alike {l : List DZ} (h : DGood l) (sets : List Int) (k : Nat) : AlikeL l (fallK l sets k) := by
  induction k with
  | zero => exact AlikeL.refl _
  | succ k ih =>
    have q := AlikeL.set (fallK l sets k) k (((fallK l sets k).getD k .zero).fall (setAt sets k)) (fun hi => by rw [getD_at hi]; exact fall_alike ((h.fallK sets k).2 _ (List.getElem_mem hi)).1 _)
    exact ih.trans q
theorem fell_ok {a : AZ} (h : a.ok = true) (sets : List Int) (keep : Int) : (a.fell sets keep).ok = true := by
  unfold AZ.fell
  split
  · have hl := AZ.ok_len h
    have hal := fallK_alike (ok_good h) sets a.ds.length
    have ht : (tornT a.next keep).length ≤ 2000 := by unfold tornT; split <;> simp <;> omega
    simp only [AZ.ok, Bool.and_eq_true, decide_eq_true_eq]
    refine ⟨hal.disksOk (AZ.ok_ds h), ?_, by simp, rfl, by simp⟩
    split
    · exact ht
    · exact hl.1
  · exact h
theorem patchAll_alike (l : List DZ) (ps : List PZ) : AlikeL l (patchAll l ps) := by
  induction ps generalizing l with
  | nil => exact AlikeL.refl _
  | cons p r ih => exact (patchZ_alike l p).trans (ih _)
theorem assembled_ok {a : AZ} (h : a.ok = true) : a.assembled.ok = true := by
  unfold AZ.assembled
  split
  · exact h
  · rename_i hu
    obtain ⟨h1, h2⟩ := AZ.ok_down h (by simpa using hu)
    have hal := (patchAll_alike a.ds (entsT a.log)).trans (flushAll_alike _)
    exact AZ.ok_mk (hal.disksOk (AZ.ok_ds h)) (by simp) (by simp [h1]) (by simp [h2]) rfl (by simp [AZ.textsOk, h1, h2])
/-- what is asked of an optimal array -/
def AZ.optimal (a : AZ) : Bool := a.ok && (a.up && (a.stage == 0 && (List.range (rowsZ a.ds)).all fun r => wholeRow a.ds (r : Int)))

/-- a cell that is to be written: its row, its disk, its value -/
abbrev RZ := Int × Nat × Int
def putR (l : List DZ) (x : RZ) : List DZ := l.set x.2.1 ((l.getD x.2.1 .zero).put x.1 x.2.2)
theorem may_put (e : DZ) (p v q u : Int) : (e.put p v).may q u = e.may q u := by
  unfold DZ.put; split
  · simp [DZ.may, DZ.has]
  · rfl
theorem put_yes {d : DZ} {p v : Int} (h : d.may p v = true) : d.put p v = { d with m := d.m.set p.toNat (cofV d.n p v, cofS d.n p v) } := by unfold DZ.put; rw [if_pos h]
theorem put_not {d : DZ} {p v : Int} (h : d.may p v = false) : d.put p v = d := by unfold DZ.put; rw [if_neg (by rw [h]; simp)]
theorem put_comm (d : DZ) {p q : Int} (v u : Int) (h : p ≠ q) : (d.put p v).put q u = (d.put q u).put p v := by
  cases h1 : d.may p v
  · rw [put_not h1, put_not (d := d.put q u) (by rw [may_put]; exact h1)]
  · cases h2 : d.may q u
    · rw [put_not h2, put_not (d := d.put p v) (by rw [may_put]; exact h2)]
    · rw [put_yes (d := d.put p v) (by rw [may_put]; exact h2), put_yes (d := d.put q u) (by rw [may_put]; exact h1), put_yes h1, put_yes h2]
      have hp : 0 ≤ p := by simp [DZ.may, DZ.has] at h1; omega
      have hq : 0 ≤ q := by simp [DZ.may, DZ.has] at h2; omega
      simp only [DZ.mk.injEq, true_and]
      exact List.set_comm _ _ (by omega)
theorem set_else {l : List DZ} {i j : Nat} (h : i ≠ j) (z : DZ) : (l.set i z).getD j .zero = l.getD j .zero := by
  simp only [List.getD_eq_getElem?_getD, List.getElem?_set_ne h]
theorem putR_comm (l : List DZ) {x y : RZ} (h : x.1 ≠ y.1) : putR (putR l x) y = putR (putR l y) x := by
  unfold putR
  by_cases e : x.2.1 = y.2.1
  · by_cases hi : x.2.1 < l.length
    · rw [← e, set_at hi, set_at hi, if_pos rfl, if_pos rfl, List.set_set, List.set_set, put_comm _ _ _ h]
    · have hn : ∀ z, l.set x.2.1 z = l := fun z => List.set_eq_of_length_le (by omega)
      rw [← e]; simp only [hn]
  · rw [set_else e, set_else (Ne.symm e), List.set_comm _ _ e]
/-- no row is met with two different repairs -/
def OneEach (L : List RZ) : Prop := ∀ x ∈ L, ∀ y ∈ L, x.1 = y.1 → x = y
theorem OneEach.sub {L M : List RZ} (h : OneEach L) (hs : ∀ x ∈ M, x ∈ L) : OneEach M := fun x hx y hy => h x (hs x hx) y (hs y hy)
theorem putAll_perm {L L' : List RZ} (p : L.Perm L') (h : OneEach L) (l : List DZ) : L.foldl putR l = L'.foldl putR l :=
  p.foldl_eq' (fun x hx y hy z => by
    by_cases e : x.1 = y.1
    · rw [h x hx y hy e]
    · exact putR_comm z e) l
theorem putR_alike (l : List DZ) (x : RZ) : AlikeL l (putR l x) := AlikeL.set _ _ _ (fun hi => by rw [getD_at hi]; exact put_alike _ _ _)
theorem putAll_alike (L : List RZ) (l : List DZ) : AlikeL l (L.foldl putR l) := by
  induction L generalizing l with
  | nil => exact .refl l
  | cons x L ih => exact (putR_alike l x).trans (ih _)
/-- a row is told alike in two lists -/
def SameRow (l m : List DZ) (r : Int) : Prop := m.length = l.length ∧ ∀ i, (m.getD i .zero).can r = (l.getD i .zero).can r ∧ canV (m.getD i .zero) r = canV (l.getD i .zero) r
theorem SameRow.refl (l : List DZ) (r : Int) : SameRow l l r := ⟨rfl, fun _ => ⟨rfl, rfl⟩⟩
theorem SameRow.trans {l m n : List DZ} {r : Int} (h : SameRow l m r) (g : SameRow m n r) : SameRow l n r := ⟨g.1.trans h.1, fun i => ⟨(g.2 i).1.trans (h.2 i).1, (g.2 i).2.trans (h.2 i).2⟩⟩
theorem putR_same (l : List DZ) {x : RZ} {r : Int} (h : r ≠ x.1) : SameRow l (putR l x) r := by
  unfold putR
  refine ⟨by simp, fun i => ?_⟩
  by_cases hi : x.2.1 < l.length
  · rw [set_at hi]
    by_cases e : i = x.2.1
    · subst e; rw [if_pos rfl]; exact put_else _ _ h
    · rw [if_neg e]; exact ⟨rfl, rfl⟩
  · rw [List.set_eq_of_length_le (by omega)]; exact ⟨rfl, rfl⟩
theorem putAll_same {L : List RZ} {r : Int} (h : ∀ x ∈ L, r ≠ x.1) (l : List DZ) : SameRow l (L.foldl putR l) r := by
  induction L generalizing l with
  | nil => exact .refl l r
  | cons x L ih => exact (putR_same l (h x (by simp))).trans (ih (fun y hy => h y (by simp [hy])) _)
theorem rowX_same {l m : List DZ} {r : Int} (h : SameRow l m r) : rowX m r = rowX l r := by
  unfold rowX
  congr 1
  refine List.ext_getElem (by simp [h.1]) fun i h1 h2 => ?_
  simp only [List.length_map] at h1 h2
  have := (h.2 i).2
  rw [getD_at h1, getD_at h2] at this
  simpa using this
/-- which cell of a row is to be repaired -/
def badOf (l : List DZ) (r : Int) : Nat := ((badZ l r).getD 0 0).toNat
def repGo (l : List DZ) (r : Int) : Bool := decide (0 ≤ r ∧ r < rowsZ l) && (decide ((badZ l r).length = 1) && !(l.getD (badOf l r) .zero).dead)
def repOf (l : List DZ) (r : Int) : Option RZ := if repGo l r then some (r, badOf l r, tellV l (badOf l r) r) else none
theorem healGo_rep (a : AZ) (r : Int) : healGo a r = (a.up && repGo a.ds r) := rfl
theorem repOf_same {l m : List DZ} {r : Int} (h : SameRow l m r) (hA : AlikeL l m) : repOf m r = repOf l r := by
  have hb : badZ m r = badZ l r := bad_same h.1 fun i _ => (h.2 i).1
  have hd : ∀ i, (m.getD i .zero).dead = (l.getD i .zero).dead := fun i => by
    by_cases hi : i < l.length
    · have hi' : i < m.length := by rw [h.1]; exact hi
      rw [getD_at hi, getD_at hi']; exact (hA.2 i hi hi').2.1
    · have : ∀ k : List DZ, ¬ i < k.length → k.getD i .zero = .zero := fun k hk => by rw [List.getD_eq_getElem?_getD, List.getElem?_eq_none (by omega)]; rfl
      rw [this l hi, this m (by rw [h.1]; exact hi)]
  have ho : badOf m r = badOf l r := by unfold badOf; rw [hb]
  have ht : tellV m (badOf l r) r = tellV l (badOf l r) r := by
    unfold tellV
    rw [(h.2 _).1, (h.2 _).2, hb, rowX_same h]
  unfold repOf repGo
  rw [ho, ht, hb, hd, hA.rows]
/-- the repairs that rows ask for -/
def waitZ (a : AZ) (rows : List Int) : List RZ := if a.up then rows.filterMap (repOf a.ds) else []
theorem waitZ_one (a : AZ) (rows : List Int) : OneEach (waitZ a rows) := by
  have hk : ∀ x ∈ waitZ a rows, repOf a.ds x.1 = some x := fun x hx => by
    unfold waitZ at hx
    split at hx
    · obtain ⟨r, _, e⟩ := List.mem_filterMap.1 hx
      have : x.1 = r := by
        unfold repOf at e; split at e
        · cases e; rfl
        · cases e
      rw [this]; exact e
    · cases hx
  intro x hx y hy e
  have h1 := hk x hx
  have h2 := hk y hy
  rw [e, h2] at h1
  exact (Option.some.inj h1).symm
theorem waitZ_append (a : AZ) (k m : List Int) : waitZ a (k ++ m) = waitZ a k ++ waitZ a m := by
  unfold waitZ; split <;> simp
theorem healed_wait (a : AZ) (r : Int) : (a.healed r).ds = (waitZ a [r]).foldl putR a.ds := by
  have e : badAt a r = badOf a.ds r := rfl
  unfold AZ.healed waitZ
  rw [healGo_rep, e]
  cases hu : a.up
  · rfl
  · cases hg : repGo a.ds r
    · simp [repOf, hg]
    · simp [repOf, hg, putR]
theorem heal_ok {a : AZ} (h : a.ok = true) (r : Int) : healOk a r = healGo a r := by
  cases hg : healGo a r
  · exact (heal_no hg).1
  · have hG' := hg
    simp only [healGo, Bool.and_eq_true, decide_eq_true_eq, Bool.not_eq_true'] at hG'
    obtain ⟨hu, ⟨r0, r1⟩, hone, hdj⟩ := hG'
    obtain ⟨j, hj, ej⟩ := badZ_at 0 (show 0 < (badZ a.ds r).length by omega)
    have hba : badAt a r = j := by
      unfold badAt
      rw [List.getD_eq_getElem?_getD, List.getElem?_eq_getElem (show 0 < (badZ a.ds r).length by omega), Option.getD_some, ej]; rfl
    obtain ⟨o1, o2, o3⟩ := ok_at (AZ.ok_ds h) hj
    unfold healOk
    rw [hg, Bool.true_and, hba]
    rw [hba] at hdj
    simp only [DZ.may, DZ.has, hdj, Bool.and_eq_true, decide_eq_true_eq, o3 hdj]
    exact ⟨rfl, ⟨r0, r1⟩, okv_iff.2 (tellV_b _ _ _)⟩
theorem heal_wait {a : AZ} (h : a.ok = true) (r : Int) : healOk a r = decide (0 < (waitZ a [r]).length) := by
  rw [heal_ok h, healGo_rep]
  unfold waitZ
  cases hu : a.up
  · rfl
  · cases hg : repGo a.ds r <;> simp [repOf, hg]
def rowsTo (k : Nat) : List Int := (List.range k).map fun (i : Nat) => (i : Int)
theorem rowsTo_next (k : Nat) : rowsTo (k + 1) = rowsTo k ++ [(k : Int)] := by simp [rowsTo, List.range_succ]
theorem rowsTo_length (k : Nat) : (rowsTo k).length = k := by simp [rowsTo]
theorem rowsTo_get {k i : Nat} (h : i < k) : (rowsTo k)[i]'(by rw [rowsTo_length]; exact h) = (i : Int) := by simp [rowsTo]
theorem healK_wait (a : AZ) (k : Nat) : (a.healK k).ds = (waitZ a (rowsTo k)).foldl putR a.ds := by
  induction k with
  | zero => simp [AZ.healK, waitZ, rowsTo]
  | succ k ih =>
    have hu : (a.healK k).up = a.up := by rw [healK_else]
    have hs : SameRow a.ds (a.healK k).ds k := by
      rw [ih]
      refine putAll_same (fun x hx => ?_) _
      unfold waitZ at hx
      split at hx
      · obtain ⟨r, hr, e⟩ := List.mem_filterMap.1 hx
        have e1 : x.1 = r := by
          unfold repOf at e; split at e
          · cases e; rfl
          · cases e
        obtain ⟨i, hi, rfl⟩ := List.mem_map.1 hr
        rw [e1]
        have := List.mem_range.1 hi
        omega
      · cases hx
    have e : waitZ (a.healK k) [(k : Int)] = waitZ a [(k : Int)] := by
      unfold waitZ
      rw [hu]
      simp only [List.filterMap_cons, List.filterMap_nil, repOf_same hs (healK_alike a k)]
    rw [rowsTo_next, waitZ_append, List.foldl_append, ← ih, ← e, ← healed_wait]
    rfl
/-- a repair's disk, row and value -/
theorem repOf_facts {l : List DZ} {r : Int} {x : RZ} (h : repOf l r = some x) : x.1 = r ∧ 0 ≤ r ∧ r < rowsZ l ∧ x.2.1 < l.length ∧ 0 ≤ x.2.2 ∧ x.2.2 ≤ 32767 ∧ (badZ l r).length = 1 ∧ (badZ l r).head? = some (x.2.1 : Int) ∧ (l.getD x.2.1 .zero).dead = false := by
  unfold repOf at h
  split at h
  · rename_i hg
    cases h
    simp only [repGo, Bool.and_eq_true, decide_eq_true_eq, Bool.not_eq_true'] at hg
    obtain ⟨⟨r0, r1⟩, hone, hdj⟩ := hg
    obtain ⟨j, hj, ej⟩ := badZ_at 0 (show 0 < (badZ l r).length by omega)
    have hba : badOf l r = j := by
      unfold badOf
      rw [List.getD_eq_getElem?_getD, List.getElem?_eq_getElem (show 0 < (badZ l r).length by omega), Option.getD_some, ej]; rfl
    have hb := tellV_b l (badOf l r) r
    refine ⟨rfl, r0, r1, by show badOf l r < _; omega, hb.1, hb.2, hone, ?_, hdj⟩
    show _ = some ((badOf l r : Nat) : Int)
    rw [List.head?_eq_getElem?, List.getElem?_eq_getElem (show 0 < (badZ l r).length by omega), ej, hba]
  · cases h
theorem waitZ_facts {a : AZ} {rows : List Int} {x : RZ} (h : x ∈ waitZ a rows) : 0 ≤ x.1 ∧ x.1 < rowsZ a.ds ∧ x.2.1 < a.ds.length ∧ 0 ≤ x.2.2 ∧ x.2.2 ≤ 32767 := by
  unfold waitZ at h
  split at h
  · obtain ⟨r, _, e⟩ := List.mem_filterMap.1 h
    obtain ⟨h1, h2, h3, h4, h5, h6, -⟩ := repOf_facts e
    rw [h1]; exact ⟨h2, h3, h4, h5, h6⟩
  · cases h
end Go.Proofs.YteialkknddpbjaaGreatDoor
