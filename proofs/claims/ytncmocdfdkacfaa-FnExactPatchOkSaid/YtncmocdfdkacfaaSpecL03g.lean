/- What the specification's functions of chapter 3 return: crashes, deaths. -/
import Derived.Test.YtncmocdfdkacfaaSpecL03f
namespace Go.Proofs.Ytncmocdfdkacfaa
open Go.ChangeShapes Go.WideShapes Go.ChangeAt Go.RowKit

/-- a world in which only blocks of S, and new ones, may differ -/
structure Only (S : Nat → Prop) (w w' : World) : Prop where
  os : w'.os = w.os
  tape : w'.tape = w.tape
  output : w'.output = w.output
  size : w.heap.size ≤ w'.heap.size
  block : ∀ k, k < w.heap.size → ¬ S k → w'.heap[k]? = w.heap[k]?
section
variable {S S' : Nat → Prop} {w w' w2 : World}
theorem Only.refl (S : Nat → Prop) (w : World) : Only S w w := ⟨rfl, rfl, rfl, Nat.le_refl _, fun _ _ _ => rfl⟩
theorem Only.trans (h : Only S w w') (k : Only S w' w2) : Only S w w2 :=
  ⟨k.os.trans h.os, k.tape.trans h.tape, k.output.trans h.output, Nat.le_trans h.size k.size, fun i hi hn => (k.block i (Nat.lt_of_lt_of_le hi h.size) hn).trans (h.block i hi hn)⟩
theorem Only.of {r : Option Nat} (g : w.grownBy w' r) (hr : ∀ k, r = some k → S k) : Only S w w' := ⟨g.os, g.tape, g.output, g.size, fun k hk hn => g.block k hk (fun e => hn (hr k e.symm))⟩
theorem Only.mono (h : Only S w w') (hs : ∀ k, S k → S' k) : Only S' w w' := ⟨h.os, h.tape, h.output, h.size, fun k hk hn => h.block k hk (fun e => hn (hs k e))⟩
theorem Only.at {b o : Nat} {v : Value} (h : Only S w w') (hb : ¬ S b) (ha : At w b o v) : At w' b o v := by
  have hl := h.block b (cell_lt ha.1) hb
  exact ⟨(World.cell?_of_block (w := w) hl).trans ha.1, (World.frozen?_of_block (w := w) hl).trans ha.2⟩
theorem Only.grew {a : World} (h : Only S w w') (g : a.grownBy w none) (hs : ∀ k, S k → a.heap.size ≤ k) : a.grownBy w' none :=
  ⟨h.os.trans g.os, h.tape.trans g.tape, h.output.trans g.output, Nat.le_trans g.size h.size, fun i hi _ => (h.block i (Nat.lt_of_lt_of_le hi g.size) (fun e => by have := hs i e; omega)).trans (g.block i hi (by simp))⟩
theorem Zero4.only {r : Nat} (z : Zero4 w r) (h : Only S w w') (hr : ¬ S r) : Zero4 w' r := ⟨h.at hr z.c0, h.at hr z.c1, h.at hr z.c2, h.at hr z.c3⟩
end
/-- the blocks of two slices -/
def Two2 (kv nv : Value) (k : Nat) : Prop := kv.ownBlock = some k ∨ nv.ownBlock = some k

/-- the lists of a disk while it falls -/
def mixL (s : Int) (k m x : List (Int × Int)) (i : Nat) : List (Int × Int) := (fallL s k m).take i ++ x.drop i
theorem fallL_length (s : Int) (k m : List (Int × Int)) : (fallL s k m).length = m.length := by simp [fallL]
theorem fallL_get (s : Int) (k m : List (Int × Int)) (i : Nat) (h : i < m.length) : (fallL s k m)[i]'(by rw [fallL_length]; exact h) = if bitOf s i then m.getD i (0, 0) else k.getD i (0, 0) := by simp [fallL]
theorem mixL_length (s : Int) (k m x : List (Int × Int)) (i : Nat) (hx : x.length = m.length) (hi : i ≤ m.length) : (mixL s k m x i).length = m.length := by simp [mixL, fallL_length]; omega
theorem mixL_get (s : Int) (k m x : List (Int × Int)) (i : Nat) (hx : x.length = m.length) (hi : i < m.length) : (mixL s k m x i)[i]'(by rw [mixL_length s k m x i hx (by omega)]; exact hi) = x[i]'(by omega) := by
  simp only [mixL]
  rw [List.getElem_append_right (by simp [fallL_length]; omega)]
  simp [fallL_length, Nat.min_eq_left (Nat.le_of_lt hi)]
theorem mixL_set (s : Int) (k m x : List (Int × Int)) (i : Nat) (hx : x.length = m.length) (hi : i < m.length) : (mixL s k m x i).set i ((fallL s k m)[i]'(by rw [fallL_length]; exact hi)) = mixL s k m x (i + 1) := by
  have hf := fallL_length s k m
  have h1 : x.drop i = x[i]'(by omega) :: x.drop (i + 1) := by rw [List.drop_eq_getElem_cons]
  simp only [mixL]
  rw [List.set_append_right _ _ (by simp; omega), h1]
  rw [show i - ((fallL s k m).take i).length = 0 by simp; omega, List.set_cons_zero, List.take_succ_eq_append_getElem (by omega), List.append_assoc]
  rfl
theorem mixL_same (s : Int) (k m x : List (Int × Int)) (i : Nat) (hx : x.length = m.length) (hi : i < m.length) (he : (fallL s k m)[i]'(by rw [fallL_length]; exact hi) = x[i]'(by omega)) : mixL s k m x (i + 1) = mixL s k m x i := by
  rw [← mixL_set s k m x i hx hi, he, ← mixL_get s k m x i hx hi, List.set_getElem_self]
/-- what holds while one cell is moved -/
abbrev MvS (w' : World) (b : Nat) (x2 x3 : Value) (g o : Nat) (y0 y1 : Value) (h : Nat) : Prop := w'.cell? ⟨b, 2, none⟩ = some x2 ∧ w'.cell? ⟨b, 3, none⟩ = some x3 ∧ TwoO w' g o y0 y1 ∧ Live w' h o ∧ Live w' h (o + 1)
theorem MvS.drew {w' : World} {b g o h : Nat} {x2 x3 y0 y1 : Value} (H : MvS w' b x2 x3 g o y0 y1 h) : MvS w'.drew b x2 x3 g o y0 y1 h := H
theorem MvS.set {w' : World} {b g o h : Nat} {x2 x3 y0 y1 : Value} (H : MvS w' b x2 x3 g o y0 y1 h) (hb : h ≠ b) (hg : h ≠ g) (u v : Value) : MvS ((w'.setCell ⟨h, o, none⟩ u).setCell ⟨h, o + 1, none⟩ v) b x2 x3 g o y0 y1 h := by
  have hn : ∀ (W : World) (p q c : Nat) (x : Value), h ≠ c → (W.setCell ⟨h, p, none⟩ x).cell? ⟨c, q, none⟩ = W.cell? ⟨c, q, none⟩ := fun W p q c x hc => World.cell?_setCell_other W _ _ x (fun e => hc (by cases e; rfl))
  exact ⟨by rw [hn _ _ _ _ _ hb, hn _ _ _ _ _ hb]; exact H.1, by rw [hn _ _ _ _ _ hb, hn _ _ _ _ _ hb]; exact H.2.1, ⟨by rw [hn _ _ _ _ _ hg, hn _ _ _ _ _ hg]; exact H.2.2.1.1, by rw [hn _ _ _ _ _ hg, hn _ _ _ _ _ hg]; exact H.2.2.1.2⟩, (H.2.2.2.1.set _).set _, (H.2.2.2.2.set _).set _⟩
def FellS (b B : Nat) (d : DZ) (kv nv : Value) (w : World) (e : Ending) (w' : World) : Prop := e = .returned (.tuple #[]) ∧ DBox w' b B d kv nv ∧ Only (Two2 kv nv) w w'
end Go.Proofs.Ytncmocdfdkacfaa
