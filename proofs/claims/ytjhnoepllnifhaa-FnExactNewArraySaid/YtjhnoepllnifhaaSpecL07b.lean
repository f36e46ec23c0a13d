/- What the specification's l7Show returns. What the specification's ReadPatch returns. -/
import Derived.Test.YtjhnoepllnifhaaSpecL07
import Derived.Test.YtjhnoepllnifhaaSpecT
import Derived.Deep.RegionLaw
namespace Go.Proofs.Ytjhnoepllnifhaa
open Go.ChangeShapes Go.WideShapes Go.ChangeAt Go.RowKit
attribute [local go_sem] str_list str_size str_add lit_list0 add_lit lit_add str_cut

/-- the words of a patch -/
def pairsW : List Int → List Int → List (List UInt8)
  | d :: ds, v :: vs => digT d.toNat :: digT v.toNat :: pairsW ds vs
  | _, _ => []
def PZ.words (p : PZ) : List (List UInt8) := digT p.row.toNat :: pairsW p.ds p.vs
def PZ.text (p : PZ) : List UInt8 := wordsT p.words
/-- numbers that are shown -/
def PZ.fit (p : PZ) : Prop := (0 ≤ p.row ∧ p.row ≤ 1000000) ∧ p.vs.length = p.ds.length ∧ p.ds.length ≤ 2 ∧ (∀ i (h : i < p.ds.length), 0 ≤ p.ds[i] ∧ p.ds[i] ≤ 1000000) ∧ ∀ i (h : i < p.vs.length), 0 ≤ p.vs[i] ∧ p.vs[i] ≤ 1000000
theorem pairsW_next (ds vs : List Int) (k : Nat) (hd : k < ds.length) (hv : k < vs.length) : pairsW (ds.take (k + 1)) (vs.take (k + 1)) = pairsW (ds.take k) (vs.take k) ++ [digT ds[k].toNat, digT vs[k].toNat] := by
  induction k generalizing ds vs with
  | zero =>
    cases ds with
    | nil => simp at hd
    | cons d r => cases vs with
      | nil => simp at hv
      | cons v s => simp [pairsW]
  | succ k ih =>
    cases ds with
    | nil => simp at hd
    | cons d r => cases vs with
      | nil => simp at hv
      | cons v s =>
        simp only [List.take_succ_cons, pairsW, List.cons_append, List.getElem_cons_succ]
        rw [ih r s (by simpa using hd) (by simpa using hv)]
theorem pairsW_length (ds vs : List Int) : (pairsW ds vs).length ≤ 2 * ds.length := by
  induction ds generalizing vs with
  | nil => simp [pairsW]
  | cons d r ih =>
    cases vs with
    | nil => simp [pairsW]
    | cons v s => have := ih s; simp [pairsW]; omega
theorem digT_small7 {n : Nat} (h : n ≤ 1000000) : (digT n).length ≤ 7 := digT_length n 6 (by omega)
theorem pairsW_small (ds vs : List Int) (hd : ∀ x ∈ ds, x.toNat ≤ 1000000) (hv : ∀ x ∈ vs, x.toNat ≤ 1000000) : ∀ t ∈ pairsW ds vs, t.length ≤ 7 := by
  induction ds generalizing vs with
  | nil => simp [pairsW]
  | cons d r ih =>
    cases vs with
    | nil => simp [pairsW]
    | cons v s =>
      intro t ht
      simp only [pairsW, List.mem_cons] at ht
      rcases ht with rfl | rfl | ht
      · exact digT_small7 (hd d (by simp))
      · exact digT_small7 (hv v (by simp))
      · exact ih s (fun x hx => hd x (by simp [hx])) (fun x hx => hv x (by simp [hx])) t ht
theorem words_small {rn : Nat} {ds vs : List Int} (hr : rn ≤ 1000000) (hd : ∀ i (h : i < ds.length), 0 ≤ ds[i] ∧ ds[i] ≤ 1000000) (hv : ∀ i (h : i < vs.length), 0 ≤ vs[i] ∧ vs[i] ≤ 1000000) : ∀ t ∈ digT rn :: pairsW ds vs, t.length ≤ 7 := by
  intro t ht
  rcases List.mem_cons.1 ht with rfl | ht
  · exact digT_small7 hr
  · refine pairsW_small ds vs (fun x hx => ?_) (fun x hx => ?_) t ht
    · obtain ⟨i, hi, rfl⟩ := List.getElem_of_mem hx
      have := hd i hi; omega
    · obtain ⟨i, hi, rfl⟩ := List.getElem_of_mem hx
      have := hv i hi; omega
/-- what l7Show reads -/
abbrev ShS (w w' : World) (b : Nat) (row : Int) (dv vv : Value) (g o : Nat) (d : Int) (h q : Nat) (v : Int) : Prop := P1S w w' b row dv vv g o d h q v
end Go.Proofs.Ytjhnoepllnifhaa
namespace Go.Proofs.Ytjhnoepllnifhaa
open Go.ChangeShapes Go.WideShapes Go.ChangeAt Go.RowKit
attribute [local go_sem] str_list str_size str_add lit_list0 add_lit lit_add str_cut

def dsN (n : List Int) (j : Nat) : List Int := (List.range j).map fun t => n.getD (1 + 2 * t) 0
def vsN (n : List Int) (j : Nat) : List Int := (List.range j).map fun t => n.getD (2 + 2 * t) 0
theorem dsN_next (n : List Int) (j : Nat) : dsN n (j + 1) = dsN n j ++ [n.getD (1 + 2 * j) 0] := by simp [dsN, List.range_succ]
theorem vsN_next (n : List Int) (j : Nat) : vsN n (j + 1) = vsN n j ++ [n.getD (2 + 2 * j) 0] := by simp [vsN, List.range_succ]
/-- the numbers of a text -/
def numsT (s : List UInt8) : List Int := (splitT 32 s).map readZ
def PZ.ofN (n : List Int) : PZ := ⟨n.getD 0 0, dsN n (n.length / 2), vsN n (n.length / 2)⟩
def readP (s : List UInt8) : PZ := PZ.ofN (numsT s)
def readPok (s : List UInt8) : Bool := (splitT 32 s).all readOk && ((numsT s).length % 2 == 1 && (readP s).ok)
theorem splitG_pos (b : UInt8) (cur s : List UInt8) : 0 < (splitG b cur s).length := by
  induction s generalizing cur with
  | nil => simp [splitG]
  | cons x r ih => unfold splitG; split; simp; exact ih _
/-- what is read: the patch, or none -/
def readPZ (s : List UInt8) : PZ := if readPok s then readP s else .zero
theorem readPZ_no {s : List UInt8} (h : readPok s = false) : readPZ s = .zero := by simp [readPZ, h]
theorem readPZ_yes {s : List UInt8} (h : readPok s = true) : readPZ s = readP s := by simp [readPZ, h]
theorem splitG_mem (b : UInt8) (cur s : List UInt8) : ∀ x ∈ splitG b cur s, x.length ≤ cur.length + s.length := by
  induction s generalizing cur with
  | nil => intro x hx; simp [splitG] at hx; subst hx; simp
  | cons y r ih =>
    intro x hx
    unfold splitG at hx
    split at hx
    · rcases List.mem_cons.1 hx with rfl | hx
      · simp
      · have := ih [] x hx; simp at this ⊢; omega
    · have := ih (cur ++ [y]) x hx; simp at this ⊢; omega
theorem readP_bad {s : List UInt8} {k : Nat} (hk : k < (splitT 32 s).length) (h : readOk (splitT 32 s)[k] = false) : readPok s = false := by
  have : (splitT 32 s).all readOk = false := by rw [List.all_eq_false]; exact ⟨_, List.getElem_mem hk, by simp [h]⟩
  simp [readPok, this]
end Go.Proofs.Ytjhnoepllnifhaa
