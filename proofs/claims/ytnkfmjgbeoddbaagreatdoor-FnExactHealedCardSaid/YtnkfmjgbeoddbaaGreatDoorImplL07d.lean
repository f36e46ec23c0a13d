/- What the program's functions of chapter 7 return: puts, the change on living disks, the parity behind a write. What the program's functions of chapter 7 return: the parity behind a write, the patch of a change. The patch of a write, by which of its two disks are dead. What the program's patchOf returns: the patch of a change. What the program's PatchFor returns. -/
import Derived.Test.YtnkfmjgbeoddbaaGreatDoorImplL07
import Derived.Test.YtnkfmjgbeoddbaaGreatDoorImplL06c
import Derived.Test.YtnkfmjgbeoddbaaGreatDoorSpecL07d
import Derived.Test.YtnkfmjgbeoddbaaGreatDoorSpecL05
import Derived.Test.YtnkfmjgbeoddbaaGreatDoorLawL07
namespace Go.Proofs.YtnkfmjgbeoddbaaGreatDoor
open Go.ChangeShapes Go.WideShapes Go.ChangeAt Go.RowKit
attribute [local go_sem] as_one_one as_two_one as_two_two as_nil_one as_nil_two

/-- the change of a write -/
def livV (fd fe : Bool) (d x e s : Int) : Value := if fd && fe then .nilIface else if fd then oneV e s else if fe then oneV d x else if e < d then twoV e s d x else twoV d x e s
/-- the values whose parity a write makes -/
def valsK (l : List DZ) (d ex row x : Int) : Nat → List Int
  | 0 => [x]
  | k + 1 => if ((k : Int) == d || (k : Int) == ex) = true then valsK l d ex row x k else valsK l d ex row x k ++ [tellV l k row]
theorem valsK_ok (l : List DZ) (d ex row x : Int) (hx : okv x = true) (k : Nat) : (valsK l d ex row x k).all okv = true := by
  induction k with
  | zero => simp [valsK, hx]
  | succ k ih =>
    unfold valsK
    split
    · exact ih
    · have := tellV_b l k row
      rw [List.all_append, ih]
      simp [okv_iff, this]
theorem valsK_length (l : List DZ) (d ex row x : Int) (k : Nat) : (valsK l d ex row x k).length ≤ k + 1 := by
  induction k with
  | zero => simp [valsK]
  | succ k ih =>
    unfold valsK
    split
    · omega
    · simp; omega
theorem valsK_sum (l : List DZ) (d ex row x : Int) (hx : okv x = true) (k : Nat) : xorZ (valsK l d ex row x k) = sumK l d ex row x k := by
  rw [xorZ_yes (valsK_ok l d ex row x hx k)]
  have hx' := okv_iff.1 hx
  induction k with
  | zero => simp [valsK, sumK, foldX]; omega
  | succ k ih =>
    have hb := sumK_b l d ex row x hx' k
    have ht := tellV_b l k row
    unfold valsK sumK
    split
    · exact ih
    · rw [foldX_append, xor64 hb.1 hb.2 ht.1 ht.2, ← ih]
      simp [foldX]
end Go.Proofs.YtnkfmjgbeoddbaaGreatDoor
namespace Go.Proofs.YtnkfmjgbeoddbaaGreatDoor
open Go.ChangeShapes Go.WideShapes Go.ChangeAt Go.RowKit

theorem gkr0 {W w1 : World} {b o : Nat} {v : Value} {x : Option Nat} (hg : W.grownBy w1 x) (hx : x ≠ some b) (h : W.cell? ⟨b, o, none⟩ = some v) : w1.cell? ⟨b, o, none⟩ = some v :=
  (World.cell?_of_block (w := W) (hg.block b (cell_lt h) (fun e => hx e.symm))).trans h
/-- what parityAfter returns -/
def parV (l : List DZ) (d ex row x : Int) : Value := .tuple #[.int .i64 (if othersK l d ex row l.length then sumK l d ex row x l.length else -1), .bool (othersK l d ex row l.length)]
end Go.Proofs.YtnkfmjgbeoddbaaGreatDoor
namespace Go.Proofs.YtnkfmjgbeoddbaaGreatDoor

def oneN (f : Nat → Bool) (n x : Nat) : List Nat := if x < n ∧ f x = false then [x] else []
theorem oneN_other {f : Nat → Bool} {n x : Nat} (h : x ≠ n) : oneN f (n + 1) x = oneN f n x := by
  unfold oneN
  have : (x < n + 1 ∧ f x = false) ↔ (x < n ∧ f x = false) := by constructor <;> rintro ⟨a, b⟩ <;> exact ⟨by omega, b⟩
  simp only [this]
theorem oneN_no {f : Nat → Bool} {n x : Nat} (h : n ≤ x) : oneN f n x = [] := by unfold oneN; rw [if_neg (by omega)]
theorem oneN_self (f : Nat → Bool) (n : Nat) : oneN f (n + 1) n = if f n = false then [n] else [] := by simp [oneN]
theorem pick_list (f : Nat → Bool) (d e : Nat) (hne : d ≠ e) (n : Nat) :
    (List.range n).filter (fun i => !f i && (i == d || i == e)) = if e < d then oneN f n e ++ oneN f n d else oneN f n d ++ oneN f n e := by
  induction n with
  | zero => simp [oneN]
  | succ n ih =>
    rw [List.range_succ, List.filter_append, ih]
    by_cases h1 : n = d
    · subst h1
      rw [oneN_other (x := e) (Ne.symm hne), oneN_self, oneN_no (Nat.le_refl n)]
      by_cases hlt : e < n
      · rw [if_pos hlt, if_pos hlt]
        cases hf : f n <;> simp [hf]
      · rw [if_neg hlt, if_neg hlt, oneN_no (x := e) (by omega)]
        cases hf : f n <;> simp [hf]
    · by_cases h2 : n = e
      · subst h2
        rw [oneN_other (x := d) (Ne.symm h1), oneN_self, oneN_no (Nat.le_refl n)]
        by_cases hlt : n < d
        · rw [if_pos hlt, if_pos hlt, oneN_no (x := d) (by omega)]
          cases hf : f n <;> simp [hf]
        · rw [if_neg hlt, if_neg hlt]
          cases hf : f n <;> simp [hf]
      · rw [oneN_other (x := d) (Ne.symm h1), oneN_other (x := e) (Ne.symm h2)]
        simp [h1, h2]
theorem pick_eq (l : List DZ) (d e : Nat) (n : Nat) : (List.range n).filter (pickI l (d : Int) (e : Int)) = (List.range n).filter (fun i => !(l.getD i .zero).dead && (i == d || i == e)) := by
  congr 1
  funext i
  unfold pickI
  have h1 : ((i : Int) == (d : Int)) = (i == d) := by rw [Bool.eq_iff_iff]; simp; omega
  have h2 : ((i : Int) == (e : Int)) = (i == e) := by rw [Bool.eq_iff_iff]; simp; omega
  rw [h1, h2]
section
variable {l : List DZ} {d e : Nat} (hd : d < l.length) (he : e < l.length) (hne : d ≠ e) (x s : Int)
include hd he hne
theorem for_lists : dsF l d e l.length = (if l[d].dead && l[e].dead then [] else if l[d].dead then [(e : Int)] else if l[e].dead then [(d : Int)] else if (e : Int) < d then [(e : Int), (d : Int)] else [(d : Int), (e : Int)]) ∧
    vsF l d e x s l.length = (if l[d].dead && l[e].dead then [] else if l[d].dead then [s] else if l[e].dead then [x] else if (e : Int) < d then [s, x] else [x, s]) := by
  have h0 := pick_list (fun i => (l.getD i .zero).dead) d e hne l.length
  unfold dsF vsF
  rw [pick_eq, h0]
  by_cases hlt : e < d
  · have hlt' : (e : Int) < d := by omega
    rw [if_pos hlt]
    cases fd : l[d].dead <;> cases fe : l[e].dead <;> simp [oneN, hd, he, fd, fe, hlt', List.getD_eq_getElem?_getD] <;> omega
  · have hlt' : ¬ (e : Int) < d := by omega
    rw [if_neg hlt]
    cases fd : l[d].dead <;> cases fe : l[e].dead <;> simp [oneN, hd, he, fd, fe, hlt', List.getD_eq_getElem?_getD] <;> omega
theorem for_change : chV (dsF l d e l.length) (vsF l d e x s l.length) = livV l[d].dead l[e].dead d x e s := by
  obtain ⟨h1, h2⟩ := for_lists hd he hne x s
  rw [h1, h2]
  unfold livV
  by_cases hlt : (e : Int) < d
  · rw [if_pos hlt, if_pos hlt, if_pos hlt]
    cases fd : l[d].dead <;> cases fe : l[e].dead <;> simp [chV]
  · rw [if_neg hlt, if_neg hlt, if_neg hlt]
    cases fd : l[d].dead <;> cases fe : l[e].dead <;> simp [chV]
theorem for_puts : (chP (dsF l d e l.length) (vsF l d e x s l.length)).map (·.1) = dsF l d e l.length ∧ (chP (dsF l d e l.length) (vsF l d e x s l.length)).map (·.2) = vsF l d e x s l.length := by
  obtain ⟨h1, h2⟩ := for_lists hd he hne x s
  rw [h1, h2]
  by_cases hlt : (e : Int) < d
  · rw [if_pos hlt, if_pos hlt]
    cases fd : l[d].dead <;> cases fe : l[e].dead <;> simp [chP]
  · rw [if_neg hlt, if_neg hlt]
    cases fd : l[d].dead <;> cases fe : l[e].dead <;> simp [chP]
theorem for_some : decide (0 < (dsF l d e l.length).length) = !(l[d].dead && l[e].dead) := by
  obtain ⟨h1, -⟩ := for_lists hd he hne 0 0
  rw [h1]
  by_cases hlt : (e : Int) < d
  · rw [if_pos hlt]
    cases fd : l[d].dead <;> cases fe : l[e].dead <;> simp
  · rw [if_neg hlt]
    cases fd : l[d].dead <;> cases fe : l[e].dead <;> simp
end
end Go.Proofs.YtnkfmjgbeoddbaaGreatDoor
namespace Go.Proofs.YtnkfmjgbeoddbaaGreatDoor
open Go.ChangeShapes Go.WideShapes Go.ChangeAt Go.RowKit

end Go.Proofs.YtnkfmjgbeoddbaaGreatDoor
namespace Go.Proofs.YtnkfmjgbeoddbaaGreatDoor
open Go.ChangeShapes Go.WideShapes Go.ChangeAt Go.RowKit

theorem rowsZ_some {l : List DZ} (h : 0 < rowsZ l) : ∃ i, ∃ hi : i < l.length, l[i].dead = false ∧ l[i].m.length = rowsZ l := by
  induction l with
  | nil => simp [rowsZ] at h
  | cons d r ih =>
    unfold rowsZ at h ⊢
    cases hd : d.dead
    · exact ⟨0, by simp, hd, by simp⟩
    · rw [hd] at h
      obtain ⟨i, hi, h1, h2⟩ := ih (by simpa using h)
      exact ⟨i + 1, by simpa using hi, h1, by simpa using h2⟩
theorem disksOk_parts {l : List DZ} (h : disksOkZ l = true) : inB l.length 3 5 = true ∧ 0 < rowsZ l ∧ rowsZ l ≤ 16 := by
  simp only [disksOkZ, Bool.and_eq_true, decide_eq_true_eq] at h
  obtain ⟨h1, h2, h3⟩ := h
  refine ⟨h1, h3, ?_⟩
  obtain ⟨i, hi, hd, hm⟩ := rowsZ_some h3
  have := List.all_eq_true.1 h2 i (by simpa using hi)
  rw [getD_at hi] at this
  simp only [DZ.fitsIn, Bool.and_eq_true] at this
  have := (DZ.ok_pos this.1 hd).2
  omega
def rightP (l : List DZ) (p : Int) : Bool := decide (0 ≤ rowZ l.length p ∧ rowZ l.length p < rowsZ l)
theorem room_in {l : List DZ} (h : disksOkZ l = true) (p : Int) : inB p 0 (roomZ l.length (rowsOfZ l) - 1) = rightP l p := by
  obtain ⟨h1, h2, h3⟩ := disksOk_parts h
  have e1 : rowsOfZ l = rowsZ l := by simp [rowsOfZ, h]
  rw [e1, roomZ_yes h1 (inB_yes (by omega) (by omega)), Bool.eq_iff_iff]
  unfold rightP
  rw [decide_eq_true_iff]
  cases hi : inB p 0 (16 * ((l.length : Int) - 1) - 1)
  · rw [rowZ_no (.inr hi)]
    have := inB_nf hi
    rw [inB_iff]
    rcases three h1 with e | e | e <;> rw [e] at this ⊢ <;> omega
  · rw [rowZ_yes h1 hi, inB_iff]
    have := inB_iff.1 hi
    rcases three h1 with e | e | e <;> rw [e] at this ⊢ <;> omega
theorem room_out {l : List DZ} (h : disksOkZ l = false) (p : Int) : inB p 0 (roomZ l.length (rowsOfZ l) - 1) = false := by
  have e1 : rowsOfZ l = -1 := by simp [rowsOfZ, h]
  rw [e1, roomZ_no (.inr (by decide))]
  cases hc : inB p 0 (-1 - 1)
  · rfl
  · have := inB_iff.1 hc; omega
/-- what PatchFor returns -/
def pfOk (l : List DZ) (p v : Int) : Bool := disksOkZ l && forOk l p v
def pfZ (l : List DZ) (p v : Int) : PZ := if pfOk l p v then forP l p v else .zero
theorem pf_no {l : List DZ} {p v : Int} (h : pfOk l p v = false) : pfZ l p v = .zero := by simp [pfZ, h]
theorem pf_yes {l : List DZ} {p v : Int} (h : pfOk l p v = true) : pfZ l p v = forP l p v := by simp [pfZ, h]
theorem right_at {l : List DZ} {p : Int} (h : disksOkZ l = true) (hp : rightP l p = true) : ∃ d e : Nat, d < l.length ∧ e < l.length ∧ diskZ l.length p = d ∧ extraZ l.length (rowZ l.length p) = e ∧ d ≠ e ∧ hasZ l (rowZ l.length p) = true := by
  obtain ⟨h1, h2, h3⟩ := disksOk_parts h
  unfold rightP at hp
  rw [decide_eq_true_iff] at hp
  cases hi : inB p 0 (16 * ((l.length : Int) - 1) - 1)
  · rw [rowZ_no (.inr hi)] at hp; omega
  obtain ⟨a1, a2, a3, a4, a5, a6, a7⟩ := layout_at h1 hi
  have a8 := extraZ_in (n := l.length) (r := rowZ l.length p) h1
  rw [← a7] at a8
  exact ⟨(diskZ l.length p).toNat, (extraZ l.length (rowZ l.length p)).toNat, by omega, by omega, by omega, by omega, by omega, by unfold hasZ; rw [h, decide_eq_true hp]; rfl⟩
theorem pf_len {l : List DZ} {n : Nat} (h : l.length ≤ n) (p v : Int) : (pfZ l p v).ds.length ≤ n ∧ (pfZ l p v).vs.length ≤ n := by
  unfold pfZ forP
  split
  · split
    · have h1 := dsF_length l (forD l p) (forE l p) l.length
      have h2 := vsF_length l (forD l p) (forE l p) v (forSum l p v) l.length
      exact ⟨by dsimp only; omega, by dsimp only; omega⟩
    · simp [PZ.zero]
  · simp [PZ.zero]
theorem roomZ_b (n r : Int) : -1 ≤ roomZ n r ∧ roomZ n r ≤ 64 := by
  unfold roomZ
  split
  · next h =>
    have := inB_iff.1 h.2
    rcases three h.1 with rfl | rfl | rfl <;> omega
  · omega
/-- the put of the data cell and the world's growth -/
abbrev PfS (w w' : World) (b : Nat) (d x : Int) : Prop := w'.cell? ⟨b, 0, none⟩ = some (.int .i64 d) ∧ w'.cell? ⟨b, 1, none⟩ = some (.int .i64 x) ∧ w.grownBy w' none
theorem PfS.kept {w w' w2 : World} {b : Nat} {d x : Int} (h : PfS w w' b d x) (g : w'.grownBy w2 none) : PfS w w2 b d x := ⟨gkc g h.1, gkc g h.2.1, gtrans h.2.2 g⟩
theorem forOk_has {l : List DZ} {p v : Int} (h : forHas l p v = false) : forOk l p v = false := by simp [forOk, forAll, h]
end Go.Proofs.YtnkfmjgbeoddbaaGreatDoor
