/- A row of disks in which one cell at most is lost, as plain mathematics: what is told of it, and what a write makes of it. What the places of an array hold in whose rows one cell at most is lost: what is read, what a write makes of it. -/
import Derived.Test.YtnkfmjgbeoddbaaGreatDoorOwnA
import Derived.Test.YtnkfmjgbeoddbaaGreatDoorLawL03d
namespace Go.Proofs.YtnkfmjgbeoddbaaGreatDoor
open Go.ChangeShapes Go.WideShapes Go.ChangeAt Go.RowKit

/-- f tells what each disk holds in the row, or held before it was lost; their parity is right -/
structure RowIs (l : List DZ) (r : Int) (f : Nat → Int) : Prop where
  b : ∀ i, i < l.length → okv (f i) = true
  val : ∀ i, i < l.length → (l.getD i .zero).can r = true → canV (l.getD i .zero) r = f i
  one : (badZ l r).length ≤ 1
  par : foldX ((List.range l.length).map f) = 0
theorem mem_bad {l : List DZ} {r : Int} {i : Nat} (hi : i < l.length) (hc : (l.getD i .zero).can r = false) : (i : Int) ∈ badZ l r := by
  unfold badZ badL
  exact List.mem_map.2 ⟨i, List.mem_filter.2 ⟨List.mem_range.2 hi, by rw [hc]; rfl⟩, rfl⟩
theorem map_range (l : List DZ) (g : DZ → Int) : l.map g = (List.range l.length).map fun i => g (l.getD i .zero) := by
  apply List.ext_getElem (by simp)
  intro i h1 h2
  simp only [List.getElem_map, List.getElem_range]
  rw [getD_at (by simpa using h1)]
theorem xor_back {a b : Nat} (h : a ^^^ b = 0) : a = b := by
  have : (a ^^^ b) ^^^ b = a := by rw [Nat.xor_assoc, Nat.xor_self, Nat.xor_zero]
  rw [h, Nat.zero_xor] at this; exact this.symm
section
variable {l : List DZ} {r : Int} {f : Nat → Int}
theorem RowIs.tell (h : RowIs l r f) {i : Nat} (hi : i < l.length) : tellOk l i r = true ∧ tellV l i r = f i := by
  unfold tellOk tellV
  simp only [Int.toNat_natCast]
  cases hc : (l.getD i .zero).can r
  · have hm := mem_bad hi hc
    have hlen : (badZ l r).length = 1 := by have := h.one; have := List.length_pos_of_mem hm; omega
    have honly : ∀ j, j < l.length → j ≠ i → (l.getD j .zero).can r = true := fun j hj hne => by
      cases hcj : (l.getD j .zero).can r
      · have hmj := mem_bad hj hcj
        obtain ⟨x, hx⟩ := List.length_eq_one_iff.1 hlen
        rw [hx] at hm hmj
        simp only [List.mem_singleton] at hm hmj
        omega
      · rfl
    have e1 : l.map (fun d => canV d r) = ((List.range l.length).map f).set i 0 := by
      rw [map_range]
      apply List.ext_getElem (by simp)
      intro j h1 h2
      have h3 : j < l.length := by simpa using h1
      by_cases e : i = j
      · subst e
        rw [List.getElem_set_self]
        simp only [List.getElem_map, List.getElem_range, canV, hc]
        rfl
      · rw [List.getElem_set_ne e]
        simp only [List.getElem_map, List.getElem_range]
        exact h.val j h3 (honly j h3 (Ne.symm e))
    have hX : rowX l r ^^^ (f i).toNat = 0 := by
      unfold rowX
      rw [e1, foldX_set _ _ _ (by simpa using hi), h.par]
      simp
    have hE := xor_back hX
    have hb := okv_iff.1 (h.b i hi)
    refine ⟨by simp [hlen], ?_⟩
    simp only [Bool.false_eq_true, if_false, hlen, beq_self_eq_true, if_true, hE]
    omega
  · exact ⟨by simp, by simp only [if_true]; exact h.val i hi hc⟩
/-- the values of the other disks -/
def gapF (f : Nat → Int) (d e : Nat) (i : Nat) : Int := if i = d ∨ i = e then 0 else f i
/-- the values behind a write -/
def newF (f : Nat → Int) (d e : Nat) (v s : Int) (i : Nat) : Int := if i = d then v else if i = e then s else f i
theorem foldX_one (x : Int) : foldX [x] = x.toNat := by simp [foldX]
theorem sumK_fold (h : RowIs l r f) (d e : Nat) (v : Int) (hv : okv v = true) (k : Nat) (hk : k ≤ l.length) :
    sumK l d e r v k = ((v.toNat ^^^ foldX ((List.range k).map (gapF f d e)) : Nat) : Int) := by
  have hv' := okv_iff.1 hv
  induction k with
  | zero => simp [sumK, foldX]; omega
  | succ k ih =>
    have ih := ih (by omega)
    rw [List.range_succ, List.map_append, foldX_append]
    simp only [List.map_cons, List.map_nil, foldX_one]
    unfold sumK
    by_cases hc : k = d ∨ k = e
    · rw [if_pos (by rcases hc with rfl | rfl <;> simp), ih]
      simp [gapF, hc]
    · rw [if_neg (by simp only [Bool.or_eq_true, beq_iff_eq]; omega)]
      have hb := sumK_b l d e r v hv' k
      have hfb := okv_iff.1 (h.b k (by omega))
      rw [(h.tell (i := k) (by omega)).2, xor64 hb.1 hb.2 hfb.1 hfb.2, ih]
      simp only [gapF, hc, if_false, Int.toNat_natCast, Nat.xor_assoc]
theorem new_par (h : RowIs l r f) {d e : Nat} (hd : d < l.length) (he : e < l.length) (hne : d ≠ e) (v : Int) (hv : okv v = true) :
    foldX ((List.range l.length).map (newF f d e v (sumK l d e r v l.length))) = 0 := by
  have hs := sumK_fold h d e v hv l.length (Nat.le_refl _)
  generalize sumK l d e r v l.length = s at *
  have e1 : (List.range l.length).map (newF f d e v s) = (((List.range l.length).map (gapF f d e)).set d v).set e s := by
    apply List.ext_getElem (by simp)
    intro j h1 h2
    by_cases c1 : e = j
    · subst c1
      rw [List.getElem_set_self]
      simp [newF, Ne.symm hne]
    rw [List.getElem_set_ne c1]
    by_cases c2 : d = j
    · subst c2
      rw [List.getElem_set_self]
      simp [newF]
    rw [List.getElem_set_ne c2]
    simp [newF, gapF, Ne.symm c1, Ne.symm c2]
  rw [e1, foldX_set _ _ _ (by simpa using he), foldX_set _ _ _ (by simpa using hd), List.getElem_set_ne hne]
  simp only [List.getElem_map, List.getElem_range, gapF, true_or, or_true, if_true]
  rw [hs]
  generalize foldX ((List.range l.length).map (gapF f d e)) = X
  apply Nat.eq_of_testBit_eq
  intro j
  simp only [Int.toNat_natCast, Nat.testBit_xor, Nat.zero_testBit, show (0 : Int).toNat = 0 from rfl]
  cases X.testBit j <;> cases v.toNat.testBit j <;> rfl
end
/-- a patch changes each of its disks once -/
theorem patch_at (l : List DZ) (row : Int) (F : List Nat) (g : Nat → Int) (hF : F.Nodup) (hlt : ∀ i ∈ F, i < l.length) (k : Nat) (hk : k ≤ F.length) (i : Nat) :
    (patchK l ⟨row, F.map fun i : Nat => (i : Int), F.map g⟩ k).getD i .zero = if i ∈ F.take k then (l.getD i .zero).put row (g i) else l.getD i .zero := by
  induction k generalizing i with
  | zero => simp [patchK]
  | succ k ih =>
    have hkl : k < F.length := by omega
    have h1 : (F.map fun i : Nat => (i : Int)).getD k 0 = (F[k] : Int) := by simp [List.getD_eq_getElem?_getD, List.getElem?_eq_getElem hkl]
    have h2 : (F.map g).getD k 0 = g F[k] := by simp [List.getD_eq_getElem?_getD, List.getElem?_eq_getElem hkl]
    have h3 := hlt F[k] (List.getElem_mem hkl)
    have hnot : F[k] ∉ F.take k := by
      intro hm
      obtain ⟨j, hj, e⟩ := List.getElem_of_mem hm
      rw [List.getElem_take] at e
      have hjk : j < k := by simp at hj; omega
      have := (List.nodup_iff_pairwise_ne.1 hF)
      exact (List.pairwise_iff_getElem.1 this j k (by omega) hkl hjk) e
    unfold patchK
    simp only [h1, h2]
    rw [if_pos (by omega), Int.toNat_natCast]
    have hlen := patchK_length l ⟨row, F.map fun i : Nat => (i : Int), F.map g⟩ k
    have hT := List.take_succ_eq_append_getElem hkl
    by_cases e : i = F[k]
    · subst e
      rw [getD_at (by rw [List.length_set, hlen]; exact h3), List.getElem_set_self, ih (by omega), if_neg hnot, if_pos (by rw [hT]; exact List.mem_append_right _ (List.mem_singleton.2 rfl))]
    · have hs : ((patchK l ⟨row, F.map fun i : Nat => (i : Int), F.map g⟩ k).set F[k] (((patchK l ⟨row, F.map fun i : Nat => (i : Int), F.map g⟩ k).getD F[k] .zero).put row (g F[k]))).getD i .zero = (patchK l ⟨row, F.map fun i : Nat => (i : Int), F.map g⟩ k).getD i .zero := by
        simp only [List.getD_eq_getElem?_getD, List.getElem?_set_ne (Ne.symm e)]
      rw [hs, ih (by omega), hT]
      simp only [List.mem_append, List.mem_singleton, e, or_false]
theorem for_at {l : List DZ} {p v : Int} (h : forOk l p v = true) (i : Nat) :
    (patchZ l (forP l p v)).getD i .zero = if i < l.length ∧ pickI l (forD l p) (forE l p) i = true then (l.getD i .zero).put (forRow l p) (if ((i : Int) == forD l p) = true then v else forSum l p v) else l.getD i .zero := by
  have hA : forAll l p v = true := by simp only [forOk, Bool.and_eq_true] at h; exact h.1
  rw [(for_yes hA).1]
  have := patch_at l (forRow l p) ((List.range l.length).filter (pickI l (forD l p) (forE l p))) (fun i : Nat => if ((i : Int) == forD l p) = true then v else forSum l p v)
    (List.Pairwise.filter _ List.nodup_range) (fun i hi => by simpa using (List.mem_filter.1 hi).1) ((List.range l.length).filter (pickI l (forD l p) (forE l p))).length (Nat.le_refl _) i
  rw [List.take_length] at this
  unfold patchZ
  simp only [dsF, vsF, List.length_map]
  rw [this]
  simp only [List.mem_filter, List.mem_range]
/-- what a write leaves alone -/
theorem put_else (d : DZ) {p r : Int} (v : Int) (h : r ≠ p) : (d.put p v).can r = d.can r ∧ canV (d.put p v) r = canV d r := by
  have hc : (d.put p v).can r = d.can r ∧ (d.can r = true → (d.put p v).cell r = d.cell r) := by
    unfold DZ.put
    split
    · rename_i hm
      have hp : 0 ≤ p := by simp [DZ.may, DZ.has] at hm; omega
      have hcell : ∀ q : Int, 0 ≤ q → q ≠ p → DZ.cell { d with m := d.m.set p.toNat (cofV d.n p v, cofS d.n p v) } q = d.cell q := fun q hq hne => by
        simp only [DZ.cell, List.getD_eq_getElem?_getD]
        rw [List.getElem?_set_ne (by omega)]
      by_cases hr : 0 ≤ r
      · refine ⟨?_, fun _ => hcell r hr h⟩
        simp only [DZ.can, DZ.has, List.length_set, hcell r hr h]
      · refine ⟨?_, fun e => absurd e (by simp [DZ.can, DZ.has, hr])⟩
        simp [DZ.can, DZ.has, hr]
    · exact ⟨rfl, fun _ => rfl⟩
  refine ⟨hc.1, ?_⟩
  unfold canV
  rw [hc.1]
  split
  · rename_i h1; rw [hc.2 h1]
  · rfl
theorem bad_le {l m : List DZ} {r : Int} (hl : m.length = l.length) (h : ∀ i, i < l.length → (l.getD i .zero).can r = true → (m.getD i .zero).can r = true) : (badZ m r).length ≤ (badZ l r).length := by
  unfold badZ badL
  rw [List.length_map, List.length_map, ← List.countP_eq_length_filter, ← List.countP_eq_length_filter, hl]
  apply List.countP_mono_left
  intro i hi hb
  have hi' : i < l.length := by simpa using hi
  cases hc : (l.getD i .zero).can r
  · rfl
  · rw [h i hi' hc] at hb; exact absurd hb (by simp)
theorem ok_at {l : List DZ} (h : disksOkZ l = true) {i : Nat} (hi : i < l.length) : (l.getD i .zero).ok = true ∧ (l.getD i .zero).n = i ∧ ((l.getD i .zero).dead = false → (l.getD i .zero).m.length = rowsZ l) := by
  simp only [disksOkZ, Bool.and_eq_true, List.all_eq_true, List.mem_range] at h
  have := h.2.1 i hi
  simp only [DZ.fitsIn, Bool.and_eq_true, Bool.or_eq_true, beq_iff_eq] at this
  exact ⟨this.1, this.2.1, fun hd => by rcases this.2.2 with e | e; rw [hd] at e; cases e; exact e⟩
theorem can_of_read {d : DZ} {p : Int} (h : d.canRead p = true) : d.can p = true := by simp only [DZ.canRead, Bool.and_eq_true] at h; exact h.2
theorem canV_of_read {d : DZ} {p : Int} (h : d.canRead p = true) : canV d p = d.readV p := by simp [canV, DZ.readV, h, can_of_read h]
theorem can_dead {d : DZ} {p : Int} (h : d.dead = true) : d.can p = false := by simp [DZ.can, h]
/-- where a write goes -/
structure ForAt (l : List DZ) (p v : Int) (d e : Nat) : Prop where
  dl : d < l.length
  el : e < l.length
  ne : d ≠ e
  fd : forD l p = d
  fe : forE l p = e
  r0 : 0 ≤ forRow l p
  r1 : forRow l p < rowsZ l
  vb : okv v = true
section
variable {l : List DZ} {p v : Int} {d e : Nat} {f g : Nat → Int}
theorem RowIs.write (hok : disksOkZ l = true) (hf : forOk l p v = true) (F : ForAt l p v d e) (h : RowIs l (forRow l p) f) :
    RowIs (patchZ l (forP l p v)) (forRow l p) (newF f d e v (forSum l p v)) := by
  have hlen : (patchZ l (forP l p v)).length = l.length := patchK_length _ _ _
  have hs : okv (forSum l p v) = true := by unfold forSum; exact okv_of (sumK_b _ _ _ _ _ (okv_iff.1 F.vb) _)
  have hat := for_at hf
  have hput : ∀ i, i < l.length → pickI l (forD l p) (forE l p) i = true → ((patchZ l (forP l p v)).getD i .zero).can (forRow l p) = true ∧ canV ((patchZ l (forP l p v)).getD i .zero) (forRow l p) = newF f d e v (forSum l p v) i := fun i hi hp => by
    rw [hat i, if_pos ⟨hi, hp⟩]
    have hp' := hp
    simp only [pickI, Bool.and_eq_true, Bool.not_eq_true', Bool.or_eq_true, beq_iff_eq, F.fd, F.fe] at hp'
    obtain ⟨hd, hde⟩ := hp'
    obtain ⟨o1, o2, o3⟩ := ok_at hok hi
    generalize hx : (if ((i : Int) == forD l p) = true then v else forSum l p v) = x
    have hxo : okv x = true := by rw [← hx]; split; exact F.vb; exact hs
    have hm : (l.getD i .zero).may (forRow l p) x = true := by
      simp only [DZ.may, DZ.has, hd, Bool.and_eq_true, decide_eq_true_eq, o3 hd]
      exact ⟨rfl, ⟨F.r0, F.r1⟩, hxo⟩
    obtain ⟨q1, q2⟩ := DZ.put_read o1 hm
    refine ⟨can_of_read q1, ?_⟩
    rw [canV_of_read q1, q2, ← hx, F.fd]
    unfold newF
    by_cases c : i = d
    · simp [c]
    · have c2 : i = e := by omega
      rw [if_neg (by simp; omega), if_neg c, if_pos c2]
  have hkeep : ∀ i, ¬ (i < l.length ∧ pickI l (forD l p) (forE l p) i = true) → (patchZ l (forP l p v)).getD i .zero = l.getD i .zero := fun i hi => by rw [hat i, if_neg hi]
  refine ⟨fun i hi => ?_, fun i hi hc => ?_, ?_, ?_⟩
  · rw [hlen] at hi
    unfold newF
    split
    · exact F.vb
    split
    · exact hs
    · exact h.b i hi
  · rw [hlen] at hi
    by_cases hp : pickI l (forD l p) (forE l p) i = true
    · exact (hput i hi hp).2
    · have hk := hkeep i (fun x => hp x.2)
      rw [hk] at hc ⊢
      have hd : (l.getD i .zero).dead = false := by
        cases hd : (l.getD i .zero).dead
        · rfl
        · rw [can_dead hd] at hc; cases hc
      have hn : i ≠ d ∧ i ≠ e := by
        simp only [pickI, hd, F.fd, F.fe, Bool.not_false, Bool.true_and, Bool.or_eq_true, beq_iff_eq] at hp
        omega
      rw [h.val i hi hc]
      unfold newF
      rw [if_neg hn.1, if_neg hn.2]
  · refine Nat.le_trans (bad_le hlen fun i hi hc => ?_) h.one
    by_cases hp : pickI l (forD l p) (forE l p) i = true
    · exact (hput i hi hp).1
    · rw [hkeep i (fun x => hp x.2)]; exact hc
  · rw [hlen]
    unfold forSum
    rw [F.fd, F.fe]
    exact new_par h F.dl F.el F.ne v F.vb
theorem RowIs.keep {r : Int} (hf : forOk l p v = true) (hr : r ≠ forRow l p) (h : RowIs l r g) : RowIs (patchZ l (forP l p v)) r g := by
  have hlen : (patchZ l (forP l p v)).length = l.length := patchK_length _ _ _
  have hq : ∀ i, ((patchZ l (forP l p v)).getD i .zero).can r = (l.getD i .zero).can r ∧ canV ((patchZ l (forP l p v)).getD i .zero) r = canV (l.getD i .zero) r := fun i => by
    rw [for_at hf i]
    split
    · exact put_else _ _ hr
    · exact ⟨rfl, rfl⟩
  refine ⟨fun i hi => h.b i (by omega), fun i hi hc => ?_, ?_, by rw [hlen]; exact h.par⟩
  · rw [(hq i).1] at hc
    rw [(hq i).2]; exact h.val i (by omega) hc
  · exact Nat.le_trans (bad_le hlen fun i _ hc => by rw [(hq i).1]; exact hc) h.one
end
/-- a place that is there has its row and its two disks -/
theorem row_in {n p : Int} (h : 0 ≤ rowZ n p) : inB p 0 (16 * (n - 1) - 1) = true := by
  cases hi : inB p 0 (16 * (n - 1) - 1)
  · rw [rowZ_no (.inr hi)] at h; omega
  · rfl
theorem disks_n {l : List DZ} (h : disksOkZ l = true) : inB l.length 3 5 = true := by simp only [disksOkZ, Bool.and_eq_true] at h; exact h.1
theorem where_at {l : List DZ} {p v : Int} (hok : disksOkZ l = true) (r0 : 0 ≤ forRow l p) (r1 : forRow l p < rowsZ l) (vb : okv v = true) : ∃ d e : Nat, ForAt l p v d e := by
  obtain ⟨a1, a2, a3, a4, a5, a6, a7⟩ := layout_at (disks_n hok) (row_in r0)
  have hn := inB_iff.1 (disks_n hok)
  have he : 0 ≤ extraZ l.length (rowZ l.length p) ∧ extraZ l.length (rowZ l.length p) < l.length := by
    rw [a7]; exact ⟨Int.emod_nonneg _ (by omega), Int.emod_lt_of_pos _ (by omega)⟩
  exact ⟨(diskZ l.length p).toNat, (extraZ l.length (rowZ l.length p)).toNat, by omega, by omega, by omega, by unfold forD; omega, by unfold forE; omega, r0, r1, vb⟩
theorem place_inj {n p q : Int} (hn : inB n 3 5 = true) (hp : 0 ≤ rowZ n p) (hq : 0 ≤ rowZ n q) (h1 : rowZ n p = rowZ n q) (h2 : diskZ n p = diskZ n q) : p = q := by
  obtain ⟨-, -, -, -, a5, -, -⟩ := layout_at hn (row_in hp)
  obtain ⟨-, -, -, -, b5, -, -⟩ := layout_at hn (row_in hq)
  rw [← a5, ← b5, h1, h2]
/-- two lost ones are the same one -/
theorem one_bad {l : List DZ} {r : Int} (h : (badZ l r).length ≤ 1) {i j : Nat} (hi : i < l.length) (hj : j < l.length) (ci : (l.getD i .zero).can r = false) (cj : (l.getD j .zero).can r = false) : i = j := by
  have m1 := mem_bad hi ci
  have m2 := mem_bad hj cj
  have : (badZ l r).length = 1 := by have := List.length_pos_of_mem m1; omega
  obtain ⟨x, hx⟩ := List.length_eq_one_iff.1 this
  rw [hx] at m1 m2
  simp only [List.mem_singleton] at m1 m2
  omega
/-- where one at most is lost a write goes through -/
theorem RowIs.forOk {l : List DZ} {p v : Int} {d e : Nat} {f : Nat → Int} (F : ForAt l p v d e) (h : RowIs l (forRow l p) f) : forOk l p v = true := by
  have hA : forAll l p v = true := by
    simp only [forAll, forHas, Bool.and_eq_true, decide_eq_true_eq]
    refine ⟨⟨⟨F.r0, F.r1⟩, F.vb⟩, ?_⟩
    unfold othersK
    rw [List.all_eq_true]
    intro i hi
    rw [(h.tell (i := i) (by simpa using hi)).1]
    simp
  simp only [Go.Proofs.YtnkfmjgbeoddbaaGreatDoor.forOk, hA, Bool.true_and, decide_eq_true_eq]
  have hlive : (l.getD d .zero).dead = false ∨ (l.getD e .zero).dead = false := by
    cases h1 : (l.getD d .zero).dead
    · exact .inl rfl
    cases h2 : (l.getD e .zero).dead
    · exact .inr rfl
    exact absurd (one_bad h.one F.dl F.el (can_dead h1) (can_dead h2)) F.ne
  unfold dsF
  rw [List.length_map]
  rcases hlive with hl | hl
  · exact List.length_pos_of_mem (a := d) (List.mem_filter.2 ⟨List.mem_range.2 F.dl, by unfold pickI; rw [hl, F.fd]; simp⟩)
  · exact List.length_pos_of_mem (a := e) (List.mem_filter.2 ⟨List.mem_range.2 F.el, by unfold pickI; rw [hl, F.fe]; simp⟩)
/-- of a row in which none is lost one disk is changed: what it then tells is the same, or it is lost -/
theorem RowIs.lose {l : List DZ} {r : Int} {f : Nat → Int} (h : RowIs l r f) (hf : badZ l r = []) (i : Nat) (z : DZ) (hz : i < l.length → z.can r = true → canV z r = f i) : RowIs (l.set i z) r f := by
  have hget : ∀ j, j ≠ i → (l.set i z).getD j .zero = l.getD j .zero := fun j hj => by simp only [List.getD_eq_getElem?_getD, List.getElem?_set_ne (Ne.symm hj)]
  have hcan : ∀ j, j < l.length → (l.getD j .zero).can r = true := fun j hj => by
    cases hc : (l.getD j .zero).can r
    · have := mem_bad hj hc; rw [hf] at this; cases this
    · rfl
  refine ⟨fun j hj => h.b j (by simpa using hj), fun j hj hc => ?_, ?_, by rw [List.length_set]; exact h.par⟩
  · have hj' : j < l.length := by simpa using hj
    by_cases e : j = i
    · subst e
      rw [getD_at hj, List.getElem_set_self] at hc ⊢
      exact hz hj' hc
    · rw [hget j e] at hc ⊢; exact h.val j hj' hc
  · unfold badZ badL
    rw [List.length_map, List.length_set]
    rcases two_of (x := i) (y := i) (F := (List.range l.length).filter fun j => !(((l.set i z).getD j .zero).can r)) (List.Pairwise.filter _ (range_sorted _)) (fun j hj => by
      obtain ⟨h1, h2⟩ := List.mem_filter.1 hj
      by_cases e : j = i
      · exact .inl e
      · rw [hget j e, hcan j (by simpa using h1)] at h2; cases h2) with e | ⟨a, e⟩ | ⟨a, b, e, hab⟩
    · rw [e]; simp
    · rw [e]; simp
    · exfalso
      have ha : a ∈ (List.range l.length).filter fun j => !(((l.set i z).getD j .zero).can r) := by rw [e]; simp
      have hb : b ∈ (List.range l.length).filter fun j => !(((l.set i z).getD j .zero).can r) := by rw [e]; simp
      have q : ∀ j, j ∈ ((List.range l.length).filter fun j => !(((l.set i z).getD j .zero).can r)) → j = i := fun j hj => by
        obtain ⟨h1, h2⟩ := List.mem_filter.1 hj
        by_cases e : j = i
        · exact e
        · rw [hget j e, hcan j (by simpa using h1)] at h2; cases h2
      have := q a ha
      have := q b hb
      omega
theorem RowIs.same {l m : List DZ} {r : Int} {f : Nat → Int} (h : RowIs l r f) (hl : m.length = l.length) (hc : ∀ i, i < l.length → (m.getD i .zero).can r = (l.getD i .zero).can r ∧ canV (m.getD i .zero) r = canV (l.getD i .zero) r) : RowIs m r f := by
  refine ⟨fun i hi => h.b i (by omega), fun i hi hh => ?_, ?_, by rw [hl]; exact h.par⟩
  · have q := hc i (by omega)
    rw [q.1] at hh; rw [q.2]; exact h.val i (by omega) hh
  · exact Nat.le_trans (bad_le hl fun i hi hh => by rw [(hc i hi).1]; exact hh) h.one
end Go.Proofs.YtnkfmjgbeoddbaaGreatDoor
namespace Go.Proofs.YtnkfmjgbeoddbaaGreatDoor
open Go.ChangeShapes Go.WideShapes Go.ChangeAt Go.RowKit

theorem bad_nil {l m : List DZ} {r : Int} (h : badZ l r = []) (hle : (badZ m r).length ≤ (badZ l r).length) : badZ m r = [] := by
  rw [h] at hle
  exact List.length_eq_zero_iff.1 (by simpa using hle)
theorem flush_at {l : List DZ} {i : Nat} (h : i < l.length) : (flushAll l).getD i .zero = (l.getD i .zero).withK (l.getD i .zero).m := by
  rw [getD_at h, getD_at (by simpa [flushAll] using h)]
  simp [flushAll]
theorem bad_same {l m : List DZ} {r : Int} (hl : m.length = l.length) (hc : ∀ i, i < l.length → (m.getD i .zero).can r = (l.getD i .zero).can r) : badZ m r = badZ l r := by
  unfold badZ badL
  rw [hl]
  congr 1
  apply List.filter_congr
  intro i hi
  rw [hc i (by simpa using hi)]
theorem flush_bad (l : List DZ) (r : Int) : badZ (flushAll l) r = badZ l r := bad_same (by simp [flushAll]) fun i hi => by rw [flush_at hi]; rfl
theorem RowIs.flush {l : List DZ} {r : Int} {f : Nat → Int} (h : RowIs l r f) : RowIs (flushAll l) r f := h.same (by simp [flushAll]) fun i hi => by rw [flush_at hi]; exact ⟨rfl, rfl⟩
theorem rows_le {l : List DZ} (h : disksOkZ l = true) : 0 < rowsZ l ∧ rowsZ l ≤ 16 := by
  have hp : 0 < rowsZ l := by simp only [disksOkZ, Bool.and_eq_true, decide_eq_true_eq] at h; exact h.2.2
  refine ⟨hp, ?_⟩
  have : ∀ (m : List DZ), 0 < rowsZ m → ∃ i, ∃ hi : i < m.length, m[i].dead = false ∧ m[i].m.length = rowsZ m := by
    intro m
    induction m with
    | nil => intro h; simp [rowsZ] at h
    | cons d r ih =>
      intro h
      cases hd : d.dead
      · exact ⟨0, by simp, by simpa using hd, by simp [rowsZ, hd]⟩
      · simp only [rowsZ, hd, if_true] at h ⊢
        obtain ⟨i, hi, h1, h2⟩ := ih h
        exact ⟨i + 1, by simpa using hi, by simpa using h1, by simpa using h2⟩
  obtain ⟨i, hi, h1, h2⟩ := this l hp
  have := (ok_at h hi).1
  rw [getD_at hi] at this
  have hl := l[i].ok_len this
  omega
/-- what behind a write each row holds -/
def putF (F : Int → Nat → Int) (r0 : Int) (d e : Nat) (v s : Int) (r : Int) : Nat → Int := if r = r0 then newF (F r) d e v s else F r
/-- in each row one at most is lost -/
structure RowsAre (l : List DZ) (F : Int → Nat → Int) : Prop where
  ok : disksOkZ l = true
  row : ∀ r : Int, 0 ≤ r → r < rowsZ l → RowIs l r (F r)
/-- none is lost -/
def NoBad (l : List DZ) : Prop := ∀ r : Int, 0 ≤ r → r < rowsZ l → badZ l r = []
section
variable {l : List DZ} {F : Int → Nat → Int} {p v : Int} {d e : Nat}
theorem RowsAre.forOk (h : RowsAre l F) (A : ForAt l p v d e) : forOk l p v = true := (h.row _ A.r0 A.r1).forOk A
theorem RowsAre.write (h : RowsAre l F) (A : ForAt l p v d e) : RowsAre (patchZ l (forP l p v)) (putF F (forRow l p) d e v (forSum l p v)) := by
  have hf := h.forOk A
  have hal := patchZ_alike l (forP l p v)
  refine ⟨hal.disksOk h.ok, fun r h0 h1 => ?_⟩
  rw [hal.rows] at h1
  have q1 := h.row r h0 h1
  unfold putF
  by_cases e1 : r = forRow l p
  · subst e1
    rw [if_pos rfl]
    exact q1.write h.ok hf A
  · rw [if_neg e1]
    exact q1.keep hf e1
theorem RowsAre.flush (h : RowsAre l F) : RowsAre (flushAll l) F := by
  have hal := flushAll_alike l
  refine ⟨hal.disksOk h.ok, fun r h0 h1 => ?_⟩
  rw [hal.rows] at h1
  exact (h.row r h0 h1).flush
theorem NoBad.flush (h : NoBad l) : NoBad (flushAll l) := fun r h0 h1 => by
  rw [(flushAll_alike l).rows] at h1
  rw [flush_bad]; exact h r h0 h1
theorem NoBad.write (hr : RowsAre l F) (A : ForAt l p v d e) (h : NoBad l) : NoBad (patchZ l (forP l p v)) := fun r h0 h1 => by
  have hf := hr.forOk A
  rw [(patchZ_alike l (forP l p v)).rows] at h1
  have q2 := h r h0 h1
  refine bad_nil q2 (bad_le (patchK_length _ _ _) fun i hi hc => ?_)
  rw [for_at hf i]
  split
  · rename_i hp
    by_cases e1 : r = forRow l p
    · subst e1
      have hp' := hp.2
      simp only [pickI, Bool.and_eq_true, Bool.not_eq_true'] at hp'
      obtain ⟨o1, o2, o3⟩ := ok_at hr.ok hi
      have hxo : okv (if ((i : Int) == forD l p) = true then v else forSum l p v) = true := by
        split
        · exact A.vb
        · unfold forSum; exact okv_of (sumK_b _ _ _ _ _ (okv_iff.1 A.vb) _)
      have hm : (l.getD i .zero).may (forRow l p) (if ((i : Int) == forD l p) = true then v else forSum l p v) = true := by
        simp only [DZ.may, DZ.has, hp'.1, Bool.and_eq_true, decide_eq_true_eq, o3 hp'.1]
        exact ⟨rfl, ⟨A.r0, A.r1⟩, hxo⟩
      exact can_of_read (DZ.put_read o1 hm).1
    · rw [(put_else _ _ e1).1]; exact hc
  · exact hc
end
/-- the logical places of a list of disks hold p -/
structure Holds (l : List DZ) (F : Int → Nat → Int) (p : List Int) : Prop where
  rows : RowsAre l F
  len : p.length = (l.length - 1) * rowsZ l
  at' : ∀ i : Nat, ∀ h : i < p.length, F (rowZ l.length i) (diskZ l.length i).toNat = p[i]
section
variable {l : List DZ} {F : Int → Nat → Int} {p : List Int}
theorem Holds.where' (h : Holds l F p) {i : Nat} (hi : i < p.length) : inB l.length 3 5 = true ∧ 0 ≤ rowZ l.length i ∧ rowZ l.length i < rowsZ l := by
  have hn := disks_n h.rows.ok
  have hr := rows_le h.rows.ok
  have hlen := h.len
  have hn' := inB_iff.1 hn
  have h3 : l.length = 3 ∨ l.length = 4 ∨ l.length = 5 := by omega
  have hin : inB (i : Int) 0 (16 * ((l.length : Int) - 1) - 1) = true := by
    rcases h3 with e | e | e <;> rw [e] at hlen ⊢ <;> exact inB_yes (by omega) (by omega)
  refine ⟨hn, ?_⟩
  rw [rowZ_yes hn hin]
  rcases h3 with e | e | e <;> rw [e] at hlen ⊢ <;> omega
theorem Holds.place (h : Holds l F p) {i : Nat} (hi : i < p.length) {v : Int} (vb : okv v = true) : ∃ d e : Nat, ForAt l i v d e :=
  where_at h.rows.ok (h.where' hi).2.1 (h.where' hi).2.2 vb
theorem Holds.tell (h : Holds l F p) {i : Nat} (hi : i < p.length) : cellAtOk l (diskZ l.length i) (rowZ l.length i) = true ∧ cellAtV l (diskZ l.length i) (rowZ l.length i) = p[i] := by
  obtain ⟨hn, k0, k1⟩ := h.where' hi
  obtain ⟨b1, b2, b3, b4, b5, b6, b7⟩ := layout_at hn (row_in k0)
  have q := (h.rows.row _ k0 k1).tell (i := (diskZ l.length i).toNat) (by omega)
  rw [show (((diskZ l.length i).toNat : Nat) : Int) = diskZ l.length i by omega] at q
  have hc : cellAtOk l (diskZ l.length i) (rowZ l.length i) = true := by
    simp only [cellAtOk, hasZ, h.rows.ok, q.1, Bool.and_eq_true, decide_eq_true_eq, and_true, true_and]
    exact ⟨⟨k0, k1⟩, b3, b4⟩
  exact ⟨hc, by rw [cellAtV, if_pos hc, q.2]; exact h.at' i hi⟩
theorem Holds.write (h : Holds l F p) {i : Nat} (hi : i < p.length) {v : Int} {d e : Nat} (A : ForAt l i v d e) : Holds (patchZ l (forP l i v)) (putF F (forRow l i) d e v (forSum l i v)) (p.set i v) := by
  have hal := patchZ_alike l (forP l i v)
  refine ⟨h.rows.write A, by rw [List.length_set, hal.1, hal.rows]; exact h.len, fun j hj => ?_⟩
  have hj' : j < p.length := by simpa using hj
  rw [hal.1]
  obtain ⟨hn, k0, k1⟩ := h.where' hj'
  obtain ⟨-, i0, i1⟩ := h.where' hi
  obtain ⟨b1, b2, b3, b4, b5, b6, b7⟩ := layout_at hn (row_in k0)
  have fd := A.fd
  have fe := A.fe
  unfold forD at fd
  unfold forE at fe
  unfold putF
  by_cases e1 : rowZ l.length j = forRow l i
  · rw [if_pos e1]
    unfold forRow at e1
    by_cases e2 : j = i
    · subst e2
      rw [List.getElem_set_self]
      unfold newF
      rw [if_pos (by omega)]
    · rw [List.getElem_set_ne (Ne.symm e2), ← h.at' j hj']
      have e3 : diskZ l.length j ≠ diskZ l.length i := fun x => e2 (by have := place_inj hn k0 i0 e1 x; omega)
      unfold newF
      rw [if_neg (by omega), if_neg (by rw [e1] at b6; omega)]
  · rw [if_neg e1]
    have e2 : i ≠ j := fun x => e1 (by rw [← x]; rfl)
    rw [List.getElem_set_ne e2]
    exact h.at' j hj'
theorem Holds.flush (h : Holds l F p) : Holds (flushAll l) F p := by
  have hal := flushAll_alike l
  exact ⟨h.rows.flush, by rw [hal.1, hal.rows]; exact h.len, by rw [hal.1]; exact h.at'⟩
end
/-- an idle array whose places hold p -/
structure Held (a : AZ) (F : Int → Nat → Int) (p : List Int) : Prop where
  holds : Holds a.ds F p
  up : a.up = true
  stage : a.stage = 0
  log : a.log = []
  next : a.next = []
section
variable {a : AZ} {F : Int → Nat → Int} {p : List Int}
theorem Held.ok (h : Held a F p) : a.ok = true := by
  refine AZ.ok_mk h.holds.rows.ok (by simp [h.log]) (by simp [h.next]) (by rw [h.stage]; omega) h.up ?_
  simp [AZ.textsOk, h.stage, h.log, h.next]
theorem Held.begins (h : Held a F p) {i : Int} {v : Int} {d e : Nat} (A : ForAt a.ds i v d e) : beginOk a i v = true := by
  simp only [beginOk, h.up, h.stage, h.holds.rows.forOk A]; rfl
theorem Held.written (h : Held a F p) {i : Nat} {v : Int} {d e : Nat} (A : ForAt a.ds i v d e) : a.written i v = { a with ds := flushAll (patchZ a.ds (forP a.ds i v)), log := [], next := [], stage := 0 } := by simp [AZ.written, h.begins A]
theorem Held.write (h : Held a F p) {i : Nat} (hi : i < p.length) {v : Int} (vb : okv v = true) : ∃ F', Held (a.written i v) F' (p.set i v) ∧ (NoBad a.ds → NoBad (a.written i v).ds) := by
  obtain ⟨d, e, A⟩ := h.holds.place hi vb
  rw [h.written A]
  exact ⟨_, ⟨(h.holds.write hi A).flush, h.up, rfl, rfl, rfl⟩, fun hb => (NoBad.write h.holds.rows A hb).flush⟩
end
/-- a new array -/
theorem newDs_at (rows n i : Nat) (h : i < n) : (newDs rows n).getD i .zero = ⟨i, false, newL i rows, newL i rows⟩ := by
  rw [getD_at (by rw [newDs_length]; exact h)]; simp [newDs]
theorem new_can (i rows : Nat) (r : Int) (hi : i ≤ 4) (hr : rows ≤ 16) (h0 : 0 ≤ r) (h1 : r < rows) : (⟨i, false, newL i rows, newL i rows⟩ : DZ).can r = true ∧ canV (⟨i, false, newL i rows, newL i rows⟩ : DZ) r = 0 := by
  have hs : ¬ sumZ i r 0 < 0 := by
    rw [sumZ_yes (inB_yes (by omega) (by omega)) (inB_yes (by omega) (by omega)) rfl]
    have := Int.emod_nonneg (31 * 0 + 1000 * r + 20000 * (i : Int)) (show (65521 : Int) ≠ 0 by omega); omega
  obtain ⟨e1, e2, e3, _⟩ := cof_good hs
  have hc : (⟨i, false, newL i rows, newL i rows⟩ : DZ).cell r = (0, sumZ i r 0) := by
    have hl : r.toNat < (newL i rows).length := by rw [newL_length]; omega
    simp only [DZ.cell, List.getD_eq_getElem?_getD]
    rw [List.getElem?_eq_getElem hl]
    simp only [newL, List.getElem_map, List.getElem_range, Option.getD_some]
    rw [show ((r.toNat : Nat) : Int) = r by omega, e1, e2]
  have hcan : (⟨i, false, newL i rows, newL i rows⟩ : DZ).can r = true := by
    simp only [DZ.can, DZ.has, hc, e3, newL_length]
    simp; omega
  exact ⟨hcan, by unfold canV; rw [hcan, hc]; rfl⟩
theorem foldX_zero (n : Nat) : foldX ((List.range n).map fun _ => (0 : Int)) = 0 := by
  induction n with
  | zero => rfl
  | succ n ih => rw [List.range_succ, List.map_append, foldX_append, ih]; simp [foldX]
theorem newDs_ok {n rows : Nat} (hn : inB n 3 5 = true) (hr : inB rows 1 16 = true) : disksOkZ (newDs rows n) = true ∧ rowsZ (newDs rows n) = rows := by
  have hn' := inB_iff.1 hn
  have hr' := inB_iff.1 hr
  have hR : rowsZ (newDs rows n) = rows := by
    have h0 : 0 < (newDs rows n).length := by rw [newDs_length]; omega
    have h1 := newDs_at rows n 0 (by omega)
    rw [getD_at h0] at h1
    rw [rowsZ_here (k := 0) h0 (by simp) (by rw [h1]), h1]
    exact newL_length _ _
  refine ⟨?_, hR⟩
  simp only [disksOkZ, Bool.and_eq_true, decide_eq_true_eq, List.all_eq_true, List.mem_range, newDs_length, hR]
  refine ⟨hn, fun i hi => ?_, by omega⟩
  rw [newDs_at rows n i hi]
  have hk : newOk i rows = true := by simp only [newOk, Bool.and_eq_true]; exact ⟨inB_yes (by omega) (by omega), hr⟩
  have := newD_ok hk
  unfold newD at this
  rw [if_pos hk, Int.toNat_natCast] at this
  simp only [DZ.fitsIn, this, newL_length]
  simp
theorem new_held {n rows : Nat} (hn : inB n 3 5 = true) (hr : inB rows 1 16 = true) : Held (AZ.fresh (newDs rows n)) (fun _ _ => 0) (List.replicate ((n - 1) * rows) 0) ∧ NoBad (newDs rows n) := by
  have hn' := inB_iff.1 hn
  have hr' := inB_iff.1 hr
  obtain ⟨k1, k2⟩ := newDs_ok hn hr
  have hcan : ∀ r : Int, 0 ≤ r → r < rows → ∀ i, i < n → ((newDs rows n).getD i .zero).can r = true ∧ canV ((newDs rows n).getD i .zero) r = 0 := fun r h0 h1 i hi => by
    rw [newDs_at rows n i hi]; exact new_can i rows r (by omega) (by omega) h0 h1
  have hbad : NoBad (newDs rows n) := fun r h0 h1 => by
    rw [k2] at h1
    unfold badZ badL
    rw [newDs_length, List.map_eq_nil_iff, List.filter_eq_nil_iff]
    intro i hi
    rw [(hcan r h0 h1 i (by simpa using hi)).1]; simp
  refine ⟨⟨⟨⟨k1, fun r h0 h1 => ⟨fun i hi => rfl, fun i hi hc => ?_, by rw [show badZ (AZ.fresh (newDs rows n)).ds r = [] from hbad r h0 h1]; simp, ?_⟩⟩, ?_, fun i hi => ?_⟩, rfl, rfl, rfl, rfl⟩, hbad⟩
  · have h1' : r < rows := by have := k2; dsimp only [AZ.fresh] at h1; omega
    dsimp only [AZ.fresh] at hi ⊢
    exact (hcan r h0 h1' i (by rw [newDs_length] at hi; exact hi)).2
  · exact foldX_zero _
  · dsimp only [AZ.fresh]; rw [List.length_replicate, newDs_length, k2]
  · simp
end Go.Proofs.YtnkfmjgbeoddbaaGreatDoor
