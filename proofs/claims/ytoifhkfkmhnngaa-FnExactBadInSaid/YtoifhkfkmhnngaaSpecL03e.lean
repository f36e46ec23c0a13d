/- What the specification's functions of chapter 3 return: writes. -/
import Derived.Test.YtoifhkfkmhnngaaSpecL03d
namespace Go.Proofs.Ytoifhkfkmhnngaa
open Go.ChangeShapes Go.WideShapes Go.ChangeAt Go.RowKit

/-- what holds while l3Write gathers its operands and writes -/
abbrev WrS (w' : World) (b : Nat) (x0 x3 : Value) (g o : Nat) : Prop := w'.cell? ⟨b, 0, none⟩ = some x0 ∧ w'.cell? ⟨b, 3, none⟩ = some x3 ∧ Live w' g o ∧ Live w' g (o + 1)
theorem WrS.kept {w' w2 : World} {b g o : Nat} {x0 x3 : Value} (h : WrS w' b x0 x3 g o) (hg : w'.grownBy w2 none) : WrS w2 b x0 x3 g o := ⟨gkc hg h.1, gkc hg h.2.1, h.2.2.1.kept hg, h.2.2.2.kept hg⟩
theorem WrS.drew {w' : World} {b g o : Nat} {x0 x3 : Value} (h : WrS w' b x0 x3 g o) : WrS w'.drew b x0 x3 g o := h
theorem WrS.set {w' : World} {b g o : Nat} {x0 x3 : Value} (h : WrS w' b x0 x3 g o) (hb : g ≠ b) (u v : Value) : WrS ((w'.setCell ⟨g, o, none⟩ u).setCell ⟨g, o + 1, none⟩ v) b x0 x3 g o := by
  have hn : ∀ (W : World) (p q : Nat) (x : Value), (W.setCell ⟨g, p, none⟩ x).cell? ⟨b, q, none⟩ = W.cell? ⟨b, q, none⟩ := fun W p q x => World.cell?_setCell_other W _ _ x (fun e => hb (by cases e; rfl))
  exact ⟨by rw [hn, hn]; exact h.1, by rw [hn, hn]; exact h.2.1, (h.2.2.1.set _).set _, (h.2.2.2.set _).set _⟩
theorem Apart.ne {v u : Value} {g : Nat} (h : Apart v u) (hu : u.ownBlock = some g) : v.ownBlock ≠ some g := by
  rcases h with h | h
  · rw [h]; simp
  · intro e; exact h (by rw [e, hu])
theorem gset2 (w : World) (g o p : Nat) (x y : Value) : w.grownBy ((w.setCell ⟨g, o, none⟩ x).setCell ⟨g, p, none⟩ y) (some g) := gset (gset (World.grownBy.refl w _) _ _) _ _
/-- one cell of Now is written -/
theorem DBox.setN {w : World} {b B g n c : Nat} {d : DZ} {kv : Value} (h : DBox w b B d kv (.slice (some ⟨g, 0, none⟩) n c)) (k : Nat) (hk : k < d.m.length) (x y : Int) :
    DBox ((w.setCell ⟨g, k * 2, none⟩ (.int .i64 x)).setCell ⟨g, k * 2 + 1, none⟩ (.int .i64 y)) b B { d with m := d.m.set k (x, y) } kv (.slice (some ⟨g, 0, none⟩) n c) := by
  have hg := gset2 w g (k * 2) (k * 2 + 1) (.int .i64 x) (.int .i64 y)
  have hb : (some g : Option Nat) ≠ some b := fun e => h.nb (by rw [← e]; rfl)
  exact ⟨gkr hg hb h.c0, gkr hg hb h.c1, gkr hg hb h.c2, gkr hg hb h.c3, h.ks.kept hg (.inr (h.ap.ne rfl)), CS.set h.ns k hk x y, h.ap, h.kb, h.nb⟩
/-- one cell of Kept is written -/
theorem DBox.setK {w : World} {b B g n c : Nat} {d : DZ} {nv : Value} (h : DBox w b B d (.slice (some ⟨g, 0, none⟩) n c) nv) (k : Nat) (hk : k < d.k.length) (x y : Int) :
    DBox ((w.setCell ⟨g, k * 2, none⟩ (.int .i64 x)).setCell ⟨g, k * 2 + 1, none⟩ (.int .i64 y)) b B { d with k := d.k.set k (x, y) } (.slice (some ⟨g, 0, none⟩) n c) nv := by
  have hg := gset2 w g (k * 2) (k * 2 + 1) (.int .i64 x) (.int .i64 y)
  have hb : (some g : Option Nat) ≠ some b := fun e => h.kb (by rw [← e]; rfl)
  exact ⟨gkr hg hb h.c0, gkr hg hb h.c1, gkr hg hb h.c2, gkr hg hb h.c3, CS.set h.ks k hk x y, h.ns.kept hg (.inr (h.ap.symm.ne rfl)), h.ap, h.kb, h.nb⟩
/-- what a write through a pointer leaves -/
def WroteD (b B : Nat) (d : DZ) (p v : Int) (kv nv : Value) (w : World) (e : Ending) (w' : World) : Prop :=
  e = .returned (.bool (d.may p v)) ∧ DBox w' b B (d.put p v) kv nv ∧ w.grownBy w' nv.ownBlock
theorem DBox.isD {w : World} {b B : Nat} {d : DZ} {kv nv : Value} (h : DBox w b B d kv nv) : IsD w 0 kv nv d := ⟨h.ks.lower (Nat.zero_le _), h.ns.lower (Nat.zero_le _)⟩
/-- a copy of a disk, in a box of its own -/
theorem DBox.boxed {w1 : World} {d : DZ} {kv nv : Value} {B : Nat} (h : IsD w1 B kv nv d) (ap : Apart kv nv) (T : Nat) :
    DBox (w1.alloc (.cells #[.int .i64 d.n, .bool d.dead, kv, nv] T)) w1.heap.size B d kv nv := by
  have g := galloc (grefl w1) (.cells #[.int .i64 d.n, .bool d.dead, kv, nv] T)
  exact ⟨by simp [At, go_sem], by simp [At, go_sem], by simp [At, go_sem], by simp [At, go_sem], h.1.grew g, h.2.grew g, ap, old_ne h.1 (Nat.le_refl _), old_ne h.2 (Nat.le_refl _)⟩
end Go.Proofs.Ytoifhkfkmhnngaa
