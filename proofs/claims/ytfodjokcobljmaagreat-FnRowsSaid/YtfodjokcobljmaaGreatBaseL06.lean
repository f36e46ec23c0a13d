/- Rows of chapter 6, as plain mathematics; lists of disks in memory. -/
import Derived.Test.YtfodjokcobljmaaGreatSpecL03b
import Derived.Test.YtfodjokcobljmaaGreatBaseL04
import Derived.Test.YtfodjokcobljmaaGreatBaseL05
namespace Go.Proofs.YtfodjokcobljmaaGreat
open Go.ChangeShapes Go.WideShapes Go.ChangeAt Go.RowKit

/-- the number of rows: of the first disk that is not dead -/
def rowsZ : List DZ → Nat
  | [] => 0
  | d :: r => if d.dead then rowsZ r else d.m.length
/-- disk i of a list is as it has to be -/
def DZ.fitsIn (d : DZ) (i : Nat) (rows : Nat) : Bool := d.ok && (d.n == (i : Int) && (d.dead || d.m.length == rows))
def disksOkZ (l : List DZ) : Bool := inB l.length 3 5 && ((List.range l.length).all (fun i => (l.getD i .zero).fitsIn i (rowsZ l)) && decide (0 < rowsZ l))
def rowsOfZ (l : List DZ) : Int := if disksOkZ l then rowsZ l else -1
def hasZ (l : List DZ) (r : Int) : Bool := disksOkZ l && decide (0 ≤ r ∧ r < rowsZ l)
/-- the disks whose cell is lost -/
def badL (l : List DZ) (r : Int) (k : Nat) : List Int := ((List.range k).filter fun i => !((l.getD i .zero).can r)).map fun i : Nat => (i : Int)
def badZ (l : List DZ) (r : Int) : List Int := badL l r l.length
def badInZ (l : List DZ) (r : Int) : List Int := if hasZ l r then badZ l r else []
/-- the parity of a row -/
def rowX (l : List DZ) (r : Int) : Nat := foldX (l.map fun d => canV d r)
def tellOk (l : List DZ) (d r : Int) : Bool := (l.getD d.toNat .zero).can r || (badZ l r).length == 1
def tellV (l : List DZ) (d r : Int) : Int := if (l.getD d.toNat .zero).can r then canV (l.getD d.toNat .zero) r else if (badZ l r).length == 1 then (rowX l r : Int) else 0
def cellAtOk (l : List DZ) (d r : Int) : Bool := hasZ l r && (decide (0 ≤ d ∧ d < l.length) && tellOk l d r)
def cellAtV (l : List DZ) (d r : Int) : Int := if cellAtOk l d r then tellV l d r else 0
def allCan (l : List DZ) (r : Int) : Bool := l.all fun d => d.can r
def wholeRow (l : List DZ) (r : Int) : Bool := allCan l r && rowX l r == 0
def wholeZ (l : List DZ) (r : Int) : Bool := hasZ l r && wholeRow l r
theorem canV_in (d : DZ) (p : Int) : okv (canV d p) = true := by
  unfold canV
  split
  · rename_i h
    simp only [DZ.can, Bool.and_eq_true] at h
    have := h.2.2
    simp only [goodZ, cellOkZ, Bool.and_eq_true] at this
    exact this.1.1
  · rfl
theorem canV_no {d : DZ} {p : Int} (h : d.can p = false) : canV d p = 0 := by simp [canV, h]
theorem canV_b (d : DZ) (p : Int) : 0 ≤ canV d p ∧ canV d p ≤ 32767 := okv_iff.1 (canV_in d p)
theorem rowX_lt (l : List DZ) (r : Int) : rowX l r < 32768 := foldX_lt (by
  rw [List.all_map, List.all_eq_true]; intro d _; exact canV_in d r)
theorem getD_at {l : List DZ} {k : Nat} (h : k < l.length) : l.getD k .zero = l[k] := by simp [List.getD_eq_getElem?_getD, h]
theorem rowsZ_append (a : List DZ) (d : DZ) : rowsZ (a ++ [d]) = if a.all (·.dead) then (if d.dead then 0 else d.m.length) else rowsZ a := by
  induction a with
  | nil => simp [rowsZ]
  | cons x r ih =>
    simp only [List.cons_append, rowsZ, List.all_cons]
    by_cases hx : x.dead = true
    · simp [hx, ih]
    · simp [hx]
theorem rowsZ_dead {l : List DZ} (h : l.all (·.dead) = true) : rowsZ l = 0 := by
  induction l with
  | nil => rfl
  | cons x r ih => simp only [List.all_cons, Bool.and_eq_true] at h; simp [rowsZ, h.1, ih h.2]
theorem rowsZ_more {a b : List DZ} (h : a.all (·.dead) = false) : rowsZ (a ++ b) = rowsZ a := by
  induction a with
  | nil => simp at h
  | cons x r ih =>
    simp only [List.cons_append, rowsZ]
    by_cases hx : x.dead = true
    · simp only [List.all_cons, hx, Bool.true_and] at h; simp [hx, ih h]
    · simp [hx]
theorem DZ.ok_pos {d : DZ} (h : d.ok = true) (hd : d.dead = false) : 0 < d.m.length ∧ d.m.length ≤ 16 := by
  simp [DZ.ok, hd, cellsZ, inB] at h
  omega
/-- the state of DisksOk's loop: the first k disks are right, p is the number of places so far -/
def DokS (l : List DZ) (k p : Nat) : Prop := p = rowsZ (l.take k) ∧ (p = 0 ↔ (l.take k).all (·.dead) = true) ∧ ∀ i, i < k → (l.getD i .zero).ok = true ∧ (l.getD i .zero).n = (i : Int) ∧ ((l.getD i .zero).dead = false → (l.getD i .zero).m.length = p)
theorem DokS.start (l : List DZ) : DokS l 0 0 := ⟨rfl, by simp, fun i h => by omega⟩
theorem DokS.live {l : List DZ} {k p : Nat} (h : DokS l k p) (hk : k < l.length) (h1 : l[k].ok = true) (h2 : l[k].n = (k : Int)) (hd : l[k].dead = false) (hp : p = 0 ∨ l[k].m.length = p) : DokS l (k + 1) l[k].m.length := by
  obtain ⟨a, b, c⟩ := h
  have hpos := (DZ.ok_pos h1 hd).1
  refine ⟨?_, ?_, fun i hi => ?_⟩
  · rw [List.take_succ_eq_append_getElem hk, rowsZ_append, hd]
    cases hall : (l.take k).all (·.dead)
    · have : p ≠ 0 := fun e => by rw [b.1 e] at hall; cases hall
      simp; rw [← a]; rcases hp with hp | hp
      · exact absurd hp this
      · exact hp
    · simp
  · constructor
    · intro e; omega
    · intro e
      rw [List.take_succ_eq_append_getElem hk, List.all_append] at e
      simp [hd] at e
  · by_cases e : i = k
    · subst e; rw [getD_at hk]; exact ⟨h1, h2, fun _ => rfl⟩
    · obtain ⟨c1, c2, c3⟩ := c i (by omega)
      refine ⟨c1, c2, fun hdi => ?_⟩
      have := c3 hdi
      rcases hp with hp | hp
      · have hall := b.1 hp
        have hik : i < l.length := by omega
        rw [getD_at hik] at hdi
        have := List.all_eq_true.1 hall l[i] (by rw [List.mem_take_iff_getElem]; exact ⟨i, by omega, rfl⟩)
        rw [hdi] at this; cases this
      · omega
theorem DokS.gone {l : List DZ} {k p : Nat} (h : DokS l k p) (hk : k < l.length) (h1 : l[k].ok = true) (h2 : l[k].n = (k : Int)) (hd : l[k].dead = true) : DokS l (k + 1) p := by
  obtain ⟨a, b, c⟩ := h
  refine ⟨?_, ?_, fun i hi => ?_⟩
  · rw [List.take_succ_eq_append_getElem hk, rowsZ_append, hd]
    cases hall : (l.take k).all (·.dead)
    · simp; exact a
    · simp; exact b.2 hall
  · rw [List.take_succ_eq_append_getElem hk, List.all_append]
    simp only [List.all_cons, hd, List.all_nil, Bool.and_true]
    exact b
  · by_cases e : i = k
    · subst e; rw [getD_at hk]; exact ⟨h1, h2, fun x => by rw [hd] at x; cases x⟩
    · exact c i (by omega)
theorem DokS.ends {l : List DZ} {p : Nat} (h : DokS l l.length p) (hl : inB l.length 3 5 = true) : disksOkZ l = decide (0 < p) := by
  obtain ⟨a, b, c⟩ := h
  rw [List.take_length] at a
  have hall : (List.range l.length).all (fun i => (l.getD i .zero).fitsIn i (rowsZ l)) = true := by
    rw [List.all_eq_true]
    intro i hi
    obtain ⟨c1, c2, c3⟩ := c i (by simpa using hi)
    generalize l.getD i .zero = d at *
    cases hd : d.dead
    · simp [DZ.fitsIn, c1, c2, ← a, c3 hd]
    · simp [DZ.fitsIn, c1, c2, hd]
  unfold disksOkZ
  rw [hall, hl, ← a]
  simp
theorem disksOk_bad {l : List DZ} {k : Nat} (hk : k < l.length) (h : l[k].ok = false ∨ l[k].n ≠ (k : Int)) : disksOkZ l = false := by
  have : (List.range l.length).all (fun i => (l.getD i .zero).fitsIn i (rowsZ l)) = false := by
    rw [List.all_eq_false]
    refine ⟨k, by simpa using hk, ?_⟩
    rw [getD_at hk]
    rcases h with h | h <;> simp [DZ.fitsIn, h]
  unfold disksOkZ
  rw [this]
  simp
theorem DokS.bad {l : List DZ} {k p : Nat} (h : DokS l k p) (hk : k < l.length) (hd : l[k].dead = false) (hp : 0 < p) (hne : l[k].m.length ≠ p) : disksOkZ l = false := by
  obtain ⟨a, b, c⟩ := h
  have hr : rowsZ l = p := by
    have e : (l.take k).all (·.dead) = false := by
      cases e : (l.take k).all (·.dead)
      · rfl
      · have := b.2 e; omega
    have q := rowsZ_more (b := l.drop k) e
    rw [List.take_append_drop] at q
    rw [q, a]
  have : (List.range l.length).all (fun i => (l.getD i .zero).fitsIn i (rowsZ l)) = false := by
    rw [List.all_eq_false]
    refine ⟨k, by simpa using hk, ?_⟩
    rw [getD_at hk]
    simp [DZ.fitsIn, hd, hr, hne]
  unfold disksOkZ
  rw [this]
  simp
theorem disksOk_len {l : List DZ} (h : inB l.length 3 5 = false) : disksOkZ l = false := by simp [disksOkZ, h]
theorem badL_next (l : List DZ) (r : Int) (k : Nat) (h : k < l.length) : badL l r (k + 1) = if l[k].can r then badL l r k else badL l r k ++ [(k : Int)] := by
  unfold badL
  rw [List.range_succ, List.filter_append, List.map_append]
  cases hc : l[k].can r <;> simp [List.getD_eq_getElem?_getD, h, hc]
theorem badL_length (l : List DZ) (r : Int) (k : Nat) : (badL l r k).length ≤ k := by
  unfold badL
  rw [List.length_map]
  exact Nat.le_trans (List.length_filter_le _ _) (by simp)
/-- the parity of the first k disks -/
def rowXk (l : List DZ) (r : Int) (k : Nat) : Nat := foldX ((l.take k).map fun d => canV d r)
theorem rowXk_lt (l : List DZ) (r : Int) (k : Nat) : rowXk l r k < 32768 := rowX_lt (l.take k) r
theorem rowXk_next (l : List DZ) (r : Int) (k : Nat) (h : k < l.length) : (rowXk l r (k + 1) : Int) = bits .xor .i64 (rowXk l r k : Int) (canV l[k] r) := by
  have h1 := canV_b l[k] r
  have h2 := rowXk_lt l r k
  rw [xor64 (by omega) (by omega) h1.1 h1.2]
  unfold rowXk
  rw [List.take_succ_eq_append_getElem h, List.map_append, foldX_append]
  simp [foldX]
theorem rowXk_all (l : List DZ) (r : Int) : rowXk l r l.length = rowX l r := by unfold rowXk; rw [List.take_length]; rfl
theorem rowXk_skip (l : List DZ) (r : Int) (k : Nat) (h : k < l.length) (hc : l[k].can r = false) : rowXk l r (k + 1) = rowXk l r k := by
  unfold rowXk
  rw [List.take_succ_eq_append_getElem h, List.map_append, foldX_append]
  simp [foldX, canV_no hc]
end Go.Proofs.YtfodjokcobljmaaGreat
