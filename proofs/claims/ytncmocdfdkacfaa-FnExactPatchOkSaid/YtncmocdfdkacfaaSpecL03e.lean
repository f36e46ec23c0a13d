/- What the specification's functions of chapter 3 return: writes. -/
import Derived.Test.YtncmocdfdkacfaaSpecL03d
namespace Go.Proofs.Ytncmocdfdkacfaa
open Go.ChangeShapes Go.WideShapes Go.ChangeAt Go.RowKit

/-- what holds while l3Write gathers its operands and writes -/
abbrev WrS (w' : World) (b : Nat) (x0 x3 : Value) (g o : Nat) : Prop := w'.cell? ⟨b, 0, none⟩ = some x0 ∧ w'.cell? ⟨b, 3, none⟩ = some x3 ∧ Live w' g o ∧ Live w' g (o + 1)
theorem WrS.kept {w' w2 : World} {b g o : Nat} {x0 x3 : Value} (h : WrS w' b x0 x3 g o) (hg : w'.grownBy w2 none) : WrS w2 b x0 x3 g o := ⟨gkc hg h.1, gkc hg h.2.1, h.2.2.1.kept hg, h.2.2.2.kept hg⟩
theorem WrS.drew {w' : World} {b g o : Nat} {x0 x3 : Value} (h : WrS w' b x0 x3 g o) : WrS w'.drew b x0 x3 g o := h
theorem WrS.set {w' : World} {b g o : Nat} {x0 x3 : Value} (h : WrS w' b x0 x3 g o) (hb : g ≠ b) (u v : Value) : WrS ((w'.setCell ⟨g, o, none⟩ u).setCell ⟨g, o + 1, none⟩ v) b x0 x3 g o := by
  have hn : ∀ (W : World) (p q : Nat) (x : Value), (W.setCell ⟨g, p, none⟩ x).cell? ⟨b, q, none⟩ = W.cell? ⟨b, q, none⟩ := fun W p q x => World.cell?_setCell_other W _ _ x (fun e => hb (by cases e; rfl))
  exact ⟨by rw [hn, hn]; exact h.1, by rw [hn, hn]; exact h.2.1, (h.2.2.1.set _).set _, (h.2.2.2.set _).set _⟩
theorem Apart.ne {v u : Value} {g : Nat} (h : Apart v u) (hu : u.ownBlock = some g) : v.ownBlock ≠ some g := by
  rcases h with h | h
  · rw [h]; simp
  · intro e; exact h (by rw [e, hu])
theorem gset2 (w : World) (g o p : Nat) (x y : Value) : w.grownBy ((w.setCell ⟨g, o, none⟩ x).setCell ⟨g, p, none⟩ y) (some g) := gset (gset (World.grownBy.refl w _) _ _) _ _
/-- one cell of Now is written -/
theorem DBox.setN {w : World} {b B g n c : Nat} {d : DZ} {kv : Value} (h : DBox w b B d kv (.slice (some ⟨g, 0, none⟩) n c)) (k : Nat) (hk : k < d.m.length) (x y : Int) :
    DBox ((w.setCell ⟨g, k * 2, none⟩ (.int .i64 x)).setCell ⟨g, k * 2 + 1, none⟩ (.int .i64 y)) b B { d with m := d.m.set k (x, y) } kv (.slice (some ⟨g, 0, none⟩) n c) := by
  have hg := gset2 w g (k * 2) (k * 2 + 1) (.int .i64 x) (.int .i64 y)
  have hb : (some g : Option Nat) ≠ some b := fun e => h.nb (by rw [← e]; rfl)
  exact ⟨gkr hg hb h.c0, gkr hg hb h.c1, gkr hg hb h.c2, gkr hg hb h.c3, h.ks.kept hg (.inr (h.ap.ne rfl)), CS.set h.ns k hk x y, h.ap, h.kb, h.nb⟩
/-- one cell of Kept is written -/
theorem DBox.setK {w : World} {b B g n c : Nat} {d : DZ} {nv : Value} (h : DBox w b B d (.slice (some ⟨g, 0, none⟩) n c) nv) (k : Nat) (hk : k < d.k.length) (x y : Int) :
    DBox ((w.setCell ⟨g, k * 2, none⟩ (.int .i64 x)).setCell ⟨g, k * 2 + 1, none⟩ (.int .i64 y)) b B { d with k := d.k.set k (x, y) } (.slice (some ⟨g, 0, none⟩) n c) nv := by
  have hg := gset2 w g (k * 2) (k * 2 + 1) (.int .i64 x) (.int .i64 y)
  have hb : (some g : Option Nat) ≠ some b := fun e => h.kb (by rw [← e]; rfl)
  exact ⟨gkr hg hb h.c0, gkr hg hb h.c1, gkr hg hb h.c2, gkr hg hb h.c3, CS.set h.ks k hk x y, h.ns.kept hg (.inr (h.ap.symm.ne rfl)), h.ap, h.kb, h.nb⟩
/-- what a write through a pointer leaves -/
def WroteD (b B : Nat) (d : DZ) (p v : Int) (kv nv : Value) (w : World) (e : Ending) (w' : World) : Prop :=
  e = .returned (.bool (d.may p v)) ∧ DBox w' b B (d.put p v) kv nv ∧ w.grownBy w' nv.ownBlock
theorem DBox.isD {w : World} {b B : Nat} {d : DZ} {kv nv : Value} (h : DBox w b B d kv nv) : IsD w 0 kv nv d := ⟨h.ks.lower (Nat.zero_le _), h.ns.lower (Nat.zero_le _)⟩
set_option maxHeartbeats 1000000 in
theorem l3Write_any (b B : Nat) (d : DZ) (kv nv : Value) (p v : Int) (w : World) (h : DBox w b B d kv nv) :
    Calls Try.prog 78 #[.pointer (some ⟨b, 0, none⟩), .int .i64 p, .int .i64 v] w (WroteD b B d p v kv nv w) := by
  obtain ⟨c0, f0⟩ := h.c0
  obtain ⟨c1, f1⟩ := h.c1
  obtain ⟨c2, f2⟩ := h.c2
  obtain ⟨c3, f3⟩ := h.c3
  have hi := h.isD
  cases hd : d.dead
  rotate_left
  · rw [hd] at c1
    have HM : Hid (d.may p v = false) := by simp [Hid, DZ.may, hd]
    have HP : Hid (d.put p v = d) := by simp [Hid, DZ.put, HM.out]
    go_enter Try.func78, Try.ntmps78
    go_wp2_with fail
    go_ret
    exact ⟨ret_bool HM.out.symm, by rw [HP.out]; exact h, World.grownBy.refl _ _⟩
  rw [hd] at c1
  cases hh : d.has p
  · have HM : Hid (d.may p v = false) := by simp [Hid, DZ.may, hh]
    have HP : Hid (d.put p v = d) := by simp [Hid, DZ.put, HM.out]
    go_enter Try.func78, Try.ntmps78
    go_wp2_with fail
    have hc := l3Has_any kv nv d p w hi
    rw [hd, hh] at hc
    refine hc.mono ?_
    rintro e w1 ⟨rfl, g1⟩
    go_wp2_with fail
    go_ret
    exact ⟨ret_bool HM.out.symm, by rw [HP.out]; exact h.kept g1, gweak g1 _⟩
  cases hv : inB v 0 32767
  · have HM : Hid (d.may p v = false) := by simp [Hid, DZ.may, hv]
    have HP : Hid (d.put p v = d) := by simp [Hid, DZ.put, HM.out]
    go_enter Try.func78, Try.ntmps78
    go_wp2_with fail
    have hc := l3Has_any kv nv d p w hi
    rw [hd, hh] at hc
    refine hc.mono ?_
    rintro e w1 ⟨rfl, g1⟩
    go_wp2_with (first | (go_at_call 25; refine (l1Value_any _ _).mono ?_; rintro e w' ⟨rfl, rfl⟩))
    go_ret
    exact ⟨ret_bool HM.out.symm, by rw [HP.out]; exact h.kept g1, gweak g1 _⟩
  · obtain ⟨k, rfl, hk1⟩ : ∃ k : Nat, p = k ∧ k < d.m.length := ⟨p.toNat, by simp [DZ.has] at hh; omega, by simp [DZ.has] at hh; omega⟩
    have HM : Hid (d.may k v = true) := by simp [Hid, DZ.may, hd, hh, hv]
    have HP : Hid (d.put k v = { d with m := d.m.set k (cofV d.n k v, cofS d.n k v) }) := by simp [Hid, DZ.put, HM.out]
    obtain ⟨na, nm, nc, rfl⟩ := h.ns.sl
    obtain rfl := h.ns.bound.1
    obtain ⟨g, rfl, hgB, hgl, t0, t1⟩ := h.ns.at k hk1
    have hgb : g ≠ b := fun e => h.nb (by rw [e]; rfl)
    have hi1 : (k : Int) < d.m.length := by omega
    go_enter Try.func78, Try.ntmps78
    go_wp2_with fail
    have hc := l3Has_any _ _ d k w hi
    rw [hd, hh] at hc
    refine hc.mono ?_
    rintro e w1 ⟨rfl, g1⟩
    have h1 := h.kept g1
    have S0 : WrS w1 b _ _ g (k * 2) := ⟨gkc g1 c0, gkc g1 c3, (gk g1 t0).live, (gk g1 t1).live⟩
    clear c0 c1 c2 c3 f0 f1 f2 f3 t0 t1
    go_wp2_with (first | (go_at_call 25; refine (l1Value_any _ _).mono ?_; rintro e w' ⟨rfl, rfl⟩))
    go_region_held3 (fun w' => WrS w' b (.int .i64 d.n) (.slice (some ⟨g, 0, none⟩) d.m.length nc) g (k * 2)) (first | assumption | exact S0.drew | exact WrS.kept ‹WrS _ b _ _ g (k * 2)› ‹World.grownBy _ _ none› | exact WrS.set ‹WrS _ b _ _ g (k * 2)› hgb _ _) (first | (go_at_call 99; refine (specCellOf_any _ _ _ _).mono ?_; rintro e w8 ⟨rfl, g8⟩))
    go_wp2_with fail
    go_ret
    have hD := (h1.kept (gtrans (gdrew (grefl w1) 1) g8)).setN k hk1 (cofV d.n k v) (cofS d.n k v)
    exact ⟨ret_bool HM.out.symm, by rw [HP.out]; exact hD, gtrans (gweak (gtrans g1 (gtrans (gdrew (grefl w1) 1) g8)) _) (gset2 w8 g _ _ _ _)⟩
/-- a copy of a disk, in a box of its own -/
theorem DBox.boxed {w1 : World} {d : DZ} {kv nv : Value} {B : Nat} (h : IsD w1 B kv nv d) (ap : Apart kv nv) (T : Nat) :
    DBox (w1.alloc (.cells #[.int .i64 d.n, .bool d.dead, kv, nv] T)) w1.heap.size B d kv nv := by
  have g := galloc (grefl w1) (.cells #[.int .i64 d.n, .bool d.dead, kv, nv] T)
  exact ⟨by simp [At, go_sem], by simp [At, go_sem], by simp [At, go_sem], by simp [At, go_sem], h.1.grew g, h.2.grew g, ap, old_ne h.1 (Nat.le_refl _), old_ne h.2 (Nat.le_refl _)⟩
end Go.Proofs.Ytncmocdfdkacfaa
