/- What the specification's functions of chapter 3 return: copies, writes, flushes, crashes. What the specification's functions of chapter 3 return: writes. What the specification's functions of chapter 3 return: flushes, crashes, deaths. What the specification's functions of chapter 3 return: crashes, deaths. The specification's l3Write, l3Flush, l3Fall through a pointer to a disk that lies anywhere in a block. -/
import Derived.Test.YtnkfmjgbeoddbaaSpecL03
import Derived.Deep.DeepCutAuto
namespace Go.Proofs.Ytnkfmjgbeoddbaa
open Go.ChangeShapes Go.WideShapes Go.ChangeAt Go.RowKit

end Go.Proofs.Ytnkfmjgbeoddbaa
namespace Go.Proofs.Ytnkfmjgbeoddbaa
open Go.ChangeShapes Go.WideShapes Go.ChangeAt Go.RowKit

/-- what holds while l3Write gathers its operands and writes -/
abbrev WrS (w' : World) (b : Nat) (x0 x3 : Value) (g o : Nat) : Prop := w'.cell? ⟨b, 0, none⟩ = some x0 ∧ w'.cell? ⟨b, 3, none⟩ = some x3 ∧ Live w' g o ∧ Live w' g (o + 1)
theorem WrS.kept {w' w2 : World} {b g o : Nat} {x0 x3 : Value} (h : WrS w' b x0 x3 g o) (hg : w'.grownBy w2 none) : WrS w2 b x0 x3 g o := ⟨gkc hg h.1, gkc hg h.2.1, h.2.2.1.kept hg, h.2.2.2.kept hg⟩
theorem WrS.drew {w' : World} {b g o : Nat} {x0 x3 : Value} (h : WrS w' b x0 x3 g o) : WrS w'.drew b x0 x3 g o := h
theorem WrS.set {w' : World} {b g o : Nat} {x0 x3 : Value} (h : WrS w' b x0 x3 g o) (hb : g ≠ b) (u v : Value) : WrS ((w'.setCell ⟨g, o, none⟩ u).setCell ⟨g, o + 1, none⟩ v) b x0 x3 g o := by
  have hn : ∀ (W : World) (p q : Nat) (x : Value), (W.setCell ⟨g, p, none⟩ x).cell? ⟨b, q, none⟩ = W.cell? ⟨b, q, none⟩ := fun W p q x => World.cell?_setCell_other W _ _ x (fun e => hb (by cases e; rfl))
  exact ⟨by rw [hn, hn]; exact h.1, by rw [hn, hn]; exact h.2.1, (h.2.2.1.set _).set _, (h.2.2.2.set _).set _⟩
theorem Apart.ne {v u : Value} {g : Nat} (h : Apart v u) (hu : u.ownBlock = some g) : v.ownBlock ≠ some g := by
  rcases h with h | h
  · rw [h]; simp
  · intro e; exact h (by rw [e, hu])
theorem gset2 (w : World) (g o p : Nat) (x y : Value) : w.grownBy ((w.setCell ⟨g, o, none⟩ x).setCell ⟨g, p, none⟩ y) (some g) := gset (gset (World.grownBy.refl w _) _ _) _ _
/-- one cell of Now is written -/
theorem DBox.setN {w : World} {b B g n c : Nat} {d : DZ} {kv : Value} (h : DBox w b B d kv (.slice (some ⟨g, 0, none⟩) n c)) (k : Nat) (hk : k < d.m.length) (x y : Int) :
    DBox ((w.setCell ⟨g, k * 2, none⟩ (.int .i64 x)).setCell ⟨g, k * 2 + 1, none⟩ (.int .i64 y)) b B { d with m := d.m.set k (x, y) } kv (.slice (some ⟨g, 0, none⟩) n c) := by
  have hg := gset2 w g (k * 2) (k * 2 + 1) (.int .i64 x) (.int .i64 y)
  have hb : (some g : Option Nat) ≠ some b := fun e => h.nb (by rw [← e]; rfl)
  exact ⟨gkr hg hb h.c0, gkr hg hb h.c1, gkr hg hb h.c2, gkr hg hb h.c3, h.ks.kept hg (.inr (h.ap.ne rfl)), CS.set h.ns k hk x y, h.ap, h.kb, h.nb⟩
/-- one cell of Kept is written -/
theorem DBox.setK {w : World} {b B g n c : Nat} {d : DZ} {nv : Value} (h : DBox w b B d (.slice (some ⟨g, 0, none⟩) n c) nv) (k : Nat) (hk : k < d.k.length) (x y : Int) :
    DBox ((w.setCell ⟨g, k * 2, none⟩ (.int .i64 x)).setCell ⟨g, k * 2 + 1, none⟩ (.int .i64 y)) b B { d with k := d.k.set k (x, y) } (.slice (some ⟨g, 0, none⟩) n c) nv := by
  have hg := gset2 w g (k * 2) (k * 2 + 1) (.int .i64 x) (.int .i64 y)
  have hb : (some g : Option Nat) ≠ some b := fun e => h.kb (by rw [← e]; rfl)
  exact ⟨gkr hg hb h.c0, gkr hg hb h.c1, gkr hg hb h.c2, gkr hg hb h.c3, CS.set h.ks k hk x y, h.ns.kept hg (.inr (h.ap.symm.ne rfl)), h.ap, h.kb, h.nb⟩
/-- what a write through a pointer leaves -/
def WroteD (b B : Nat) (d : DZ) (p v : Int) (kv nv : Value) (w : World) (e : Ending) (w' : World) : Prop :=
  e = .returned (.bool (d.may p v)) ∧ DBox w' b B (d.put p v) kv nv ∧ w.grownBy w' nv.ownBlock
theorem DBox.isD {w : World} {b B : Nat} {d : DZ} {kv nv : Value} (h : DBox w b B d kv nv) : IsD w 0 kv nv d := ⟨h.ks.lower (Nat.zero_le _), h.ns.lower (Nat.zero_le _)⟩
/-- a copy of a disk, in a box of its own -/
theorem DBox.boxed {w1 : World} {d : DZ} {kv nv : Value} {B : Nat} (h : IsD w1 B kv nv d) (ap : Apart kv nv) (T : Nat) :
    DBox (w1.alloc (.cells #[.int .i64 d.n, .bool d.dead, kv, nv] T)) w1.heap.size B d kv nv := by
  have g := galloc (grefl w1) (.cells #[.int .i64 d.n, .bool d.dead, kv, nv] T)
  exact ⟨by simp [At, go_sem], by simp [At, go_sem], by simp [At, go_sem], by simp [At, go_sem], h.1.grew g, h.2.grew g, ap, old_ne h.1 (Nat.le_refl _), old_ne h.2 (Nat.le_refl _)⟩
end Go.Proofs.Ytnkfmjgbeoddbaa
namespace Go.Proofs.Ytnkfmjgbeoddbaa
open Go.ChangeShapes Go.WideShapes Go.ChangeAt Go.RowKit

/-- what l3Flush leaves -/
def FlushS (b B : Nat) (d : DZ) (nv : Value) (w : World) (e : Ending) (w' : World) : Prop :=
  ∃ kv', e = .returned (.tuple #[]) ∧ DBox w' b B { d with k := d.m } kv' nv ∧ w.grownBy w' (some b)
theorem DZ.flush_eq {d : DZ} : ({ d with k := d.m } : DZ).n = d.n ∧ ({ d with k := d.m } : DZ).dead = d.dead := ⟨rfl, rfl⟩
end Go.Proofs.Ytnkfmjgbeoddbaa
namespace Go.Proofs.Ytnkfmjgbeoddbaa
open Go.ChangeShapes Go.WideShapes Go.ChangeAt Go.RowKit

section
variable {S : Nat → Prop} {w w' : World}
theorem Zero4.only {r : Nat} (z : Zero4 w r) (h : Only S w w') (hr : ¬ S r) : Zero4 w' r := ⟨h.at hr z.c0, h.at hr z.c1, h.at hr z.c2, h.at hr z.c3⟩
end
/-- the blocks of two slices -/
def Two2 (kv nv : Value) (k : Nat) : Prop := kv.ownBlock = some k ∨ nv.ownBlock = some k

/-- the lists of a disk while it falls -/
def mixL (s : Int) (k m x : List (Int × Int)) (i : Nat) : List (Int × Int) := (fallL s k m).take i ++ x.drop i
theorem fallL_length (s : Int) (k m : List (Int × Int)) : (fallL s k m).length = m.length := by simp [fallL]
theorem fallL_get (s : Int) (k m : List (Int × Int)) (i : Nat) (h : i < m.length) : (fallL s k m)[i]'(by rw [fallL_length]; exact h) = if bitOf s i then m.getD i (0, 0) else k.getD i (0, 0) := by simp [fallL]
theorem mixL_length (s : Int) (k m x : List (Int × Int)) (i : Nat) (hx : x.length = m.length) (hi : i ≤ m.length) : (mixL s k m x i).length = m.length := by simp [mixL, fallL_length]; omega
theorem mixL_get (s : Int) (k m x : List (Int × Int)) (i : Nat) (hx : x.length = m.length) (hi : i < m.length) : (mixL s k m x i)[i]'(by rw [mixL_length s k m x i hx (by omega)]; exact hi) = x[i]'(by omega) := by
  simp only [mixL]
  rw [List.getElem_append_right (by simp [fallL_length]; omega)]
  simp [fallL_length, Nat.min_eq_left (Nat.le_of_lt hi)]
theorem mixL_set (s : Int) (k m x : List (Int × Int)) (i : Nat) (hx : x.length = m.length) (hi : i < m.length) : (mixL s k m x i).set i ((fallL s k m)[i]'(by rw [fallL_length]; exact hi)) = mixL s k m x (i + 1) := by
  have hf := fallL_length s k m
  have h1 : x.drop i = x[i]'(by omega) :: x.drop (i + 1) := by rw [List.drop_eq_getElem_cons]
  simp only [mixL]
  rw [List.set_append_right _ _ (by simp; omega), h1]
  rw [show i - ((fallL s k m).take i).length = 0 by simp; omega, List.set_cons_zero, List.take_succ_eq_append_getElem (by omega), List.append_assoc]
  rfl
theorem mixL_same (s : Int) (k m x : List (Int × Int)) (i : Nat) (hx : x.length = m.length) (hi : i < m.length) (he : (fallL s k m)[i]'(by rw [fallL_length]; exact hi) = x[i]'(by omega)) : mixL s k m x (i + 1) = mixL s k m x i := by
  rw [← mixL_set s k m x i hx hi, he, ← mixL_get s k m x i hx hi, List.set_getElem_self]
/-- what holds while one cell is moved -/
abbrev MvS (w' : World) (b : Nat) (x2 x3 : Value) (g o : Nat) (y0 y1 : Value) (h : Nat) : Prop := w'.cell? ⟨b, 2, none⟩ = some x2 ∧ w'.cell? ⟨b, 3, none⟩ = some x3 ∧ TwoO w' g o y0 y1 ∧ Live w' h o ∧ Live w' h (o + 1)
theorem MvS.drew {w' : World} {b g o h : Nat} {x2 x3 y0 y1 : Value} (H : MvS w' b x2 x3 g o y0 y1 h) : MvS w'.drew b x2 x3 g o y0 y1 h := H
theorem MvS.set {w' : World} {b g o h : Nat} {x2 x3 y0 y1 : Value} (H : MvS w' b x2 x3 g o y0 y1 h) (hb : h ≠ b) (hg : h ≠ g) (u v : Value) : MvS ((w'.setCell ⟨h, o, none⟩ u).setCell ⟨h, o + 1, none⟩ v) b x2 x3 g o y0 y1 h := by
  have hn : ∀ (W : World) (p q c : Nat) (x : Value), h ≠ c → (W.setCell ⟨h, p, none⟩ x).cell? ⟨c, q, none⟩ = W.cell? ⟨c, q, none⟩ := fun W p q c x hc => World.cell?_setCell_other W _ _ x (fun e => hc (by cases e; rfl))
  exact ⟨by rw [hn _ _ _ _ _ hb, hn _ _ _ _ _ hb]; exact H.1, by rw [hn _ _ _ _ _ hb, hn _ _ _ _ _ hb]; exact H.2.1, ⟨by rw [hn _ _ _ _ _ hg, hn _ _ _ _ _ hg]; exact H.2.2.1.1, by rw [hn _ _ _ _ _ hg, hn _ _ _ _ _ hg]; exact H.2.2.1.2⟩, (H.2.2.2.1.set _).set _, (H.2.2.2.2.set _).set _⟩
def FellS (b B : Nat) (d : DZ) (kv nv : Value) (w : World) (e : Ending) (w' : World) : Prop := e = .returned (.tuple #[]) ∧ DBox w' b B d kv nv ∧ Only (Two2 kv nv) w w'
end Go.Proofs.Ytnkfmjgbeoddbaa
namespace Go.Proofs.Ytnkfmjgbeoddbaa
open Go.ChangeShapes Go.WideShapes Go.ChangeAt Go.RowKit

/-- block b holds a disk, its slices own their memory in blocks from B on, apart from each other and from b -/
structure DAt (w : World) (b q B : Nat) (d : DZ) (kv nv : Value) : Prop where
  c0 : At w b q (.int .i64 d.n)
  c1 : At w b (q + 1) (.bool d.dead)
  c2 : At w b (q + 2) kv
  c3 : At w b (q + 3) nv
  ks : CS w B kv d.k
  ns : CS w B nv d.m
  ap : Apart kv nv
  kb : kv.ownBlock ≠ some b
  nb : nv.ownBlock ≠ some b
section
variable {w w' : World} {b q B : Nat} {d : DZ} {kv nv : Value}
theorem DAt.kept (h : DAt w b q B d kv nv) (g : w.grownBy w' none) : DAt w' b q B d kv nv :=
  ⟨gk g h.c0, gk g h.c1, gk g h.c2, gk g h.c3, h.ks.grew g, h.ns.grew g, h.ap, h.kb, h.nb⟩
theorem DAt.lt (h : DAt w b q B d kv nv) : b < w.heap.size := cell_lt h.c0.1
/-- the field Kept is replaced (r: the block that may have changed on the way) -/
theorem DAt.put2 {r : Option Nat} (h : DAt w b q B d kv nv) (g : w.grownBy w' r) (hr : r ≠ some b) (hn : nv.ownBlock = none ∨ nv.ownBlock ≠ r) {v : Value} {l : List (Int × Int)} (hv : CS w' B v l) (hb : v.ownBlock ≠ some b) (ha : Apart v nv) :
    DAt (w'.setCell ⟨b, q + 2, none⟩ v) b q B { d with k := l } v nv :=
  ⟨(gkr g hr h.c0).other (by simp) _, (gkr g hr h.c1).other (by simp) _, (gkr g hr h.c2).same _, (gkr g hr h.c3).other (by simp) _, hv.other hb _, (h.ns.kept g hn).other h.nb _, ha, hb, h.nb⟩
end
/-- what holds while l3Write gathers its operands and writes -/
abbrev WrA (w' : World) (b q : Nat) (x0 x3 : Value) (g o : Nat) : Prop := w'.cell? ⟨b, q, none⟩ = some x0 ∧ w'.cell? ⟨b, q + 3, none⟩ = some x3 ∧ Live w' g o ∧ Live w' g (o + 1)
theorem WrA.kept {w' w2 : World} {b q g o : Nat} {x0 x3 : Value} (h : WrA w' b q x0 x3 g o) (hg : w'.grownBy w2 none) : WrA w2 b q x0 x3 g o := ⟨gkc hg h.1, gkc hg h.2.1, h.2.2.1.kept hg, h.2.2.2.kept hg⟩
theorem WrA.drew {w' : World} {b q g o : Nat} {x0 x3 : Value} (h : WrA w' b q x0 x3 g o) : WrA w'.drew b q x0 x3 g o := h
theorem WrA.set {w' : World} {b q g o : Nat} {x0 x3 : Value} (h : WrA w' b q x0 x3 g o) (hb : g ≠ b) (u v : Value) : WrA ((w'.setCell ⟨g, o, none⟩ u).setCell ⟨g, o + 1, none⟩ v) b q x0 x3 g o := by
  have hn : ∀ (W : World) (p q : Nat) (x : Value), (W.setCell ⟨g, p, none⟩ x).cell? ⟨b, q, none⟩ = W.cell? ⟨b, q, none⟩ := fun W p q x => World.cell?_setCell_other W _ _ x (fun e => hb (by cases e; rfl))
  exact ⟨by rw [hn, hn]; exact h.1, by rw [hn, hn]; exact h.2.1, (h.2.2.1.set _).set _, (h.2.2.2.set _).set _⟩
/-- one cell of Now is written -/
theorem DAt.setN {w : World} {b q B g n c : Nat} {d : DZ} {kv : Value} (h : DAt w b q B d kv (.slice (some ⟨g, 0, none⟩) n c)) (k : Nat) (hk : k < d.m.length) (x y : Int) :
    DAt ((w.setCell ⟨g, k * 2, none⟩ (.int .i64 x)).setCell ⟨g, k * 2 + 1, none⟩ (.int .i64 y)) b q B { d with m := d.m.set k (x, y) } kv (.slice (some ⟨g, 0, none⟩) n c) := by
  have hg := gset2 w g (k * 2) (k * 2 + 1) (.int .i64 x) (.int .i64 y)
  have hb : (some g : Option Nat) ≠ some b := fun e => h.nb (by rw [← e]; rfl)
  exact ⟨gkr hg hb h.c0, gkr hg hb h.c1, gkr hg hb h.c2, gkr hg hb h.c3, h.ks.kept hg (.inr (h.ap.ne rfl)), CS.set h.ns k hk x y, h.ap, h.kb, h.nb⟩
/-- one cell of Kept is written -/
theorem DAt.setK {w : World} {b q B g n c : Nat} {d : DZ} {nv : Value} (h : DAt w b q B d (.slice (some ⟨g, 0, none⟩) n c) nv) (k : Nat) (hk : k < d.k.length) (x y : Int) :
    DAt ((w.setCell ⟨g, k * 2, none⟩ (.int .i64 x)).setCell ⟨g, k * 2 + 1, none⟩ (.int .i64 y)) b q B { d with k := d.k.set k (x, y) } (.slice (some ⟨g, 0, none⟩) n c) nv := by
  have hg := gset2 w g (k * 2) (k * 2 + 1) (.int .i64 x) (.int .i64 y)
  have hb : (some g : Option Nat) ≠ some b := fun e => h.kb (by rw [← e]; rfl)
  exact ⟨gkr hg hb h.c0, gkr hg hb h.c1, gkr hg hb h.c2, gkr hg hb h.c3, CS.set h.ks k hk x y, h.ns.kept hg (.inr (h.ap.symm.ne rfl)), h.ap, h.kb, h.nb⟩
/-- what a write through a pointer leaves -/
def WroteA (b q B : Nat) (d : DZ) (p v : Int) (kv nv : Value) (w : World) (e : Ending) (w' : World) : Prop :=
  e = .returned (.bool (d.may p v)) ∧ DAt w' b q B (d.put p v) kv nv ∧ w.grownBy w' nv.ownBlock
theorem DAt.isD {w : World} {b q B : Nat} {d : DZ} {kv nv : Value} (h : DAt w b q B d kv nv) : IsD w 0 kv nv d := ⟨h.ks.lower (Nat.zero_le _), h.ns.lower (Nat.zero_le _)⟩
/-- what l3Flush leaves -/
def FlushA (b q B : Nat) (d : DZ) (nv : Value) (w : World) (e : Ending) (w' : World) : Prop :=
  ∃ kv' w1, e = .returned (.tuple #[]) ∧ w' = w1.setCell ⟨b, q + 2, none⟩ kv' ∧ w.grownBy w1 none ∧ CS w1 B kv' d.m ∧ (∀ k, kv'.ownBlock = some k → w.heap.size ≤ k) ∧ DAt w' b q B { d with k := d.m } kv' nv
/-- what holds while one cell is moved -/
abbrev MvA (w' : World) (b q : Nat) (x2 x3 : Value) (g o : Nat) (y0 y1 : Value) (h : Nat) : Prop := w'.cell? ⟨b, q + 2, none⟩ = some x2 ∧ w'.cell? ⟨b, q + 3, none⟩ = some x3 ∧ TwoO w' g o y0 y1 ∧ Live w' h o ∧ Live w' h (o + 1)
theorem MvA.drew {w' : World} {b q g o h : Nat} {x2 x3 y0 y1 : Value} (H : MvA w' b q x2 x3 g o y0 y1 h) : MvA w'.drew b q x2 x3 g o y0 y1 h := H
theorem MvA.set {w' : World} {b q g o h : Nat} {x2 x3 y0 y1 : Value} (H : MvA w' b q x2 x3 g o y0 y1 h) (hb : h ≠ b) (hg : h ≠ g) (u v : Value) : MvA ((w'.setCell ⟨h, o, none⟩ u).setCell ⟨h, o + 1, none⟩ v) b q x2 x3 g o y0 y1 h := by
  have hn : ∀ (W : World) (p q c : Nat) (x : Value), h ≠ c → (W.setCell ⟨h, p, none⟩ x).cell? ⟨c, q, none⟩ = W.cell? ⟨c, q, none⟩ := fun W p q c x hc => World.cell?_setCell_other W _ _ x (fun e => hc (by cases e; rfl))
  exact ⟨by rw [hn _ _ _ _ _ hb, hn _ _ _ _ _ hb]; exact H.1, by rw [hn _ _ _ _ _ hb, hn _ _ _ _ _ hb]; exact H.2.1, ⟨by rw [hn _ _ _ _ _ hg, hn _ _ _ _ _ hg]; exact H.2.2.1.1, by rw [hn _ _ _ _ _ hg, hn _ _ _ _ _ hg]; exact H.2.2.1.2⟩, (H.2.2.2.1.set _).set _, (H.2.2.2.2.set _).set _⟩
def FellA (b q B : Nat) (d : DZ) (kv nv : Value) (w : World) (e : Ending) (w' : World) : Prop := e = .returned (.tuple #[]) ∧ DAt w' b q B d kv nv ∧ Only (Two2 kv nv) w w'
end Go.Proofs.Ytnkfmjgbeoddbaa
