/- What the specification's functions of chapter 3 return: copies, writes, flushes, crashes. What the specification's functions of chapter 3 return: writes. What the specification's functions of chapter 3 return: flushes, crashes, deaths. What the specification's functions of chapter 3 return: crashes, deaths. The specification's l3Write, l3Flush, l3Fall through a pointer to a disk that lies anywhere in a block. -/
import Derived.Deep.DeepCutAuto
import Derived.Test.YteialkknddpbjaaGreatDoorPH08
namespace Go.Proofs.YteialkknddpbjaaGreatDoor
open Go.ChangeShapes Go.WideShapes Go.ChangeAt Go.RowKit

set_option maxHeartbeats 1000000 in
theorem l3Copy_any (kv nv : Value) (d : DZ) (w : World) (h : IsD w 0 kv nv d) (hk1 : d.k.length ≤ 1000) (hm1 : d.m.length ≤ 1000) :
    Calls Tryz.prog 226 #[.agg #[.int .i64 d.n, .bool d.dead, kv, nv]] w (GotD d w) := by
  obtain ⟨n, dead, kl, nl⟩ := d
  obtain ⟨hk, hn⟩ := h
  dsimp only at *
  obtain ⟨ka, km, kc, rfl⟩ := hk.sl
  obtain ⟨na, nm, nc, rfl⟩ := hn.sl
  have hb := boxed2 w (.int .i64 n) (.bool dead) (.slice ka km kc) (.slice na nm nc) 37
  go_enter Tryz.func226, Tryz.ntmps226
  go_upto_region 1 with (fail)
  generalize (w.alloc (.cells #[.int .i64 n, .bool dead, .slice ka km kc, .slice na nm nc] 37)).alloc (.cells #[.int .i64 0, .bool false, .slice none 0 0, .slice none 0 0] 37) = W0 at *
  obtain ⟨B0, Z0, g0, s0⟩ := hb
  have e0 := galloc (grefl W0) (.cells #[] 59)
  have hkN : (Value.slice ka km kc).ownBlock ≠ some w.heap.size := old_ne hk (Nat.le_refl _)
  have hnN : (Value.slice na nm nc).ownBlock ≠ some w.heap.size := old_ne hn (Nat.le_refl _)
  have hnN0 : (Value.slice na nm nc).ownBlock ≠ some W0.heap.size := old_ne hn (by omega)
  have hk0 := (hk.grew g0).grew e0
  obtain ⟨p2, q2⟩ := B0.c2
  have s1 : w.heap.size < W0.heap.size := by omega
  go_upto_region 2 with (first | (at_builtin; refine wpList_append_o (E := cellE) (base := w.heap.size + 2) rfl (.tmp 3) (.tmp 5) rfl rfl rfl (CS.empty W0 s0) hk0 (by simp; omega) (by decide) (by simp; omega) ?_; intro v1 w1 o1 g1' a1; have g1 : (W0.alloc (.cells #[] 59)).grownBy w1 (some W0.heap.size) := g1'; clear g1'; obtain ⟨x2, y2⟩ := gkr g1 (b := w.heap.size) (by simp; omega) (B0.kept e0 (by simp)).c2; obtain ⟨x1, m1, q1, rfl⟩ := o1.sl))
  have gg1 : W0.grownBy w1 (some W0.heap.size) := gtrans (gweak e0 _) g1
  have B1 := (B0.kept gg1 (by simp; omega)).put2 (.slice x1 m1 q1)
  have Z1 := (Z0.kept gg1 (by simp; omega)).other (c := w.heap.size) (o := 2) (by omega) (.slice x1 m1 q1)
  have G1 : w.grownBy (w1.setCell ⟨w.heap.size, 2, none⟩ (.slice x1 m1 q1)) none := gset1 (gsub g0 gg1 (by simp; omega)) (Nat.le_refl _) _ _
  have k1 : CS (w1.setCell ⟨w.heap.size, 2, none⟩ (.slice x1 m1 q1)) (w.heap.size + 2) (.slice x1 m1 q1) kl := CS.other o1 (not_own o1 (by omega)) _
  have n1 : CS (w1.setCell ⟨w.heap.size, 2, none⟩ (.slice x1 m1 q1)) 0 (.slice na nm nc) nl := ((hn.grew g0).kept gg1 (.inr hnN0)).other hnN _
  have s2 : W0.heap.size ≤ (w1.setCell ⟨w.heap.size, 2, none⟩ (.slice x1 m1 q1)).heap.size := by have := gg1.size; simpa [World.setCell] using this
  clear o1 g1 a1 gg1 e0 hk0 p2 q2 x2 y2
  generalize w1.setCell ⟨w.heap.size, 2, none⟩ (.slice x1 m1 q1) = W1 at *
  have s3 : w.heap.size < W1.heap.size := by omega
  have e1 := galloc (grefl W1) (.cells #[] 59)
  have kN1 : (Value.slice x1 m1 q1).ownBlock ≠ some W1.heap.size := old_ne k1 (Nat.le_refl _)
  have n2 := n1.grew e1
  obtain ⟨p3, q3⟩ := B1.c3
  go_upto_region 3 with (first | (at_builtin; refine wpList_append_o (E := cellE) (base := w.heap.size + 2) rfl (.tmp 8) (.tmp 10) rfl rfl rfl (CS.empty W1 (by omega)) n2 (by simp; omega) (by decide) (by simp; omega) ?_; intro v2 w2 o2 g2' a2; have g2 : (W1.alloc (.cells #[] 59)).grownBy w2 (some W1.heap.size) := g2'; clear g2'; obtain ⟨x3, y3⟩ := gkr g2 (b := w.heap.size) (by simp; omega) (B1.kept e1 (by simp)).c3; obtain ⟨u1, u2, u3, rfl⟩ := o2.sl))
  have gg2 : W1.grownBy w2 (some W1.heap.size) := gtrans (gweak e1 _) g2
  have B2 := (B1.kept gg2 (by simp; omega)).put3 (.slice u1 u2 u3)
  have Z2 := (Z1.kept gg2 (by simp; omega)).other (c := w.heap.size) (o := 3) (by omega) (.slice u1 u2 u3)
  have G2 : w.grownBy (w2.setCell ⟨w.heap.size, 3, none⟩ (.slice u1 u2 u3)) none := gset1 (gsub G1 gg2 (by simp; omega)) (Nat.le_refl _) _ _
  have n3 : CS (w2.setCell ⟨w.heap.size, 3, none⟩ (.slice u1 u2 u3)) (w.heap.size + 2) (.slice u1 u2 u3) nl := CS.other o2 (not_own o2 (by omega)) _
  have k2 : CS (w2.setCell ⟨w.heap.size, 3, none⟩ (.slice u1 u2 u3)) (w.heap.size + 2) (.slice x1 m1 q1) kl := (k1.kept gg2 (.inr kN1)).other (not_own k1 (by omega)) _
  have ap : Apart (.slice x1 m1 q1) (.slice u1 u2 u3) := by
    refine .inr fun e => ?_
    rcases a2 with a2 | a2 <;> rw [a2] at e
    · exact kN1 (by rw [e]; rfl)
    · have h3 := (k1.lt _ e).2; simp at h3; omega
  clear o2 g2 a2 gg2 e1 n1 n2 k1 p3 q3 x3 y3 B1 Z1 G1
  generalize w2.setCell ⟨w.heap.size, 3, none⟩ (.slice u1 u2 u3) = W2 at *
  have hR : NewD w (set4 W2 (w.heap.size + 1) (.int .i64 n) (.bool dead) (.slice x1 m1 q1) (.slice u1 u2 u3)) _ _ ⟨n, dead, kl, nl⟩ := ⟨⟨(k2.lower (by omega)).set4 (not_own k2 (by omega)) _ _ _ _, (n3.lower (by omega)).set4 (not_own n3 (by omega)) _ _ _ _⟩, ap, gset4 G2 (by omega) _ _ _ _⟩
  obtain ⟨⟨c0, f0⟩, ⟨c1, f1⟩, ⟨c2, f2⟩, ⟨c3, f3⟩⟩ := B2
  obtain ⟨⟨z0, y0⟩, ⟨z1, y1⟩, ⟨z2, y2⟩, ⟨z3, y3⟩⟩ := Z2
  go_wp2_with fail
  exact bodyPost_ret (v := .agg #[.int .i64 n, .bool dead, .slice x1 m1 q1, .slice u1 u2 u3]) (by simp [results, Tryz.results226, go_sem, z0, z1, z2, z3]) rfl ⟨_, _, rfl, hR⟩
end Go.Proofs.YteialkknddpbjaaGreatDoor
namespace Go.Proofs.YteialkknddpbjaaGreatDoor
open Go.ChangeShapes Go.WideShapes Go.ChangeAt Go.RowKit

/-- what holds while l3Write gathers its operands and writes -/
abbrev WrS (w' : World) (b : Nat) (x0 x3 : Value) (g o : Nat) : Prop := w'.cell? ⟨b, 0, none⟩ = some x0 ∧ w'.cell? ⟨b, 3, none⟩ = some x3 ∧ Live w' g o ∧ Live w' g (o + 1)
theorem WrS.kept {w' w2 : World} {b g o : Nat} {x0 x3 : Value} (h : WrS w' b x0 x3 g o) (hg : w'.grownBy w2 none) : WrS w2 b x0 x3 g o := ⟨gkc hg h.1, gkc hg h.2.1, h.2.2.1.kept hg, h.2.2.2.kept hg⟩
theorem WrS.drew {w' : World} {b g o : Nat} {x0 x3 : Value} (h : WrS w' b x0 x3 g o) : WrS w'.drew b x0 x3 g o := h
theorem WrS.set {w' : World} {b g o : Nat} {x0 x3 : Value} (h : WrS w' b x0 x3 g o) (hb : g ≠ b) (u v : Value) : WrS ((w'.setCell ⟨g, o, none⟩ u).setCell ⟨g, o + 1, none⟩ v) b x0 x3 g o := by
  have hn : ∀ (W : World) (p q : Nat) (x : Value), (W.setCell ⟨g, p, none⟩ x).cell? ⟨b, q, none⟩ = W.cell? ⟨b, q, none⟩ := fun W p q x => World.cell?_setCell_other W _ _ x (fun e => hb (by cases e; rfl))
  exact ⟨by rw [hn, hn]; exact h.1, by rw [hn, hn]; exact h.2.1, (h.2.2.1.set _).set _, (h.2.2.2.set _).set _⟩
theorem Apart.ne {v u : Value} {g : Nat} (h : Apart v u) (hu : u.ownBlock = some g) : v.ownBlock ≠ some g := by
  rcases h with h | h
  · rw [h]; simp
  · intro e; exact h (by rw [e, hu])
theorem gset2 (w : World) (g o p : Nat) (x y : Value) : w.grownBy ((w.setCell ⟨g, o, none⟩ x).setCell ⟨g, p, none⟩ y) (some g) := gset (gset (World.grownBy.refl w _) _ _) _ _
/-- one cell of Now is written -/
theorem DBox.setN {w : World} {b B g n c : Nat} {d : DZ} {kv : Value} (h : DBox w b B d kv (.slice (some ⟨g, 0, none⟩) n c)) (k : Nat) (hk : k < d.m.length) (x y : Int) :
    DBox ((w.setCell ⟨g, k * 2, none⟩ (.int .i64 x)).setCell ⟨g, k * 2 + 1, none⟩ (.int .i64 y)) b B { d with m := d.m.set k (x, y) } kv (.slice (some ⟨g, 0, none⟩) n c) := by
  have hg := gset2 w g (k * 2) (k * 2 + 1) (.int .i64 x) (.int .i64 y)
  have hb : (some g : Option Nat) ≠ some b := fun e => h.nb (by rw [← e]; rfl)
  exact ⟨gkr hg hb h.c0, gkr hg hb h.c1, gkr hg hb h.c2, gkr hg hb h.c3, h.ks.kept hg (.inr (h.ap.ne rfl)), CS.set h.ns k hk x y, h.ap, h.kb, h.nb⟩
/-- one cell of Kept is written -/
theorem DBox.setK {w : World} {b B g n c : Nat} {d : DZ} {nv : Value} (h : DBox w b B d (.slice (some ⟨g, 0, none⟩) n c) nv) (k : Nat) (hk : k < d.k.length) (x y : Int) :
    DBox ((w.setCell ⟨g, k * 2, none⟩ (.int .i64 x)).setCell ⟨g, k * 2 + 1, none⟩ (.int .i64 y)) b B { d with k := d.k.set k (x, y) } (.slice (some ⟨g, 0, none⟩) n c) nv := by
  have hg := gset2 w g (k * 2) (k * 2 + 1) (.int .i64 x) (.int .i64 y)
  have hb : (some g : Option Nat) ≠ some b := fun e => h.kb (by rw [← e]; rfl)
  exact ⟨gkr hg hb h.c0, gkr hg hb h.c1, gkr hg hb h.c2, gkr hg hb h.c3, CS.set h.ks k hk x y, h.ns.kept hg (.inr (h.ap.symm.ne rfl)), h.ap, h.kb, h.nb⟩
/-- what a write through a pointer leaves -/
def WroteD (b B : Nat) (d : DZ) (p v : Int) (kv nv : Value) (w : World) (e : Ending) (w' : World) : Prop :=
  e = .returned (.bool (d.may p v)) ∧ DBox w' b B (d.put p v) kv nv ∧ w.grownBy w' nv.ownBlock
theorem DBox.isD {w : World} {b B : Nat} {d : DZ} {kv nv : Value} (h : DBox w b B d kv nv) : IsD w 0 kv nv d := ⟨h.ks.lower (Nat.zero_le _), h.ns.lower (Nat.zero_le _)⟩
set_option maxHeartbeats 1000000 in
theorem l3Write_any (b B : Nat) (d : DZ) (kv nv : Value) (p v : Int) (w : World) (h : DBox w b B d kv nv) :
    Calls Tryz.prog 146 #[.pointer (some ⟨b, 0, none⟩), .int .i64 p, .int .i64 v] w (WroteD b B d p v kv nv w) := by
  obtain ⟨c0, f0⟩ := h.c0
  obtain ⟨c1, f1⟩ := h.c1
  obtain ⟨c2, f2⟩ := h.c2
  obtain ⟨c3, f3⟩ := h.c3
  have hi := h.isD
  cases hd : d.dead
  rotate_left
  · rw [hd] at c1
    have HM : Hid (d.may p v = false) := by simp [Hid, DZ.may, hd]
    have HP : Hid (d.put p v = d) := by simp [Hid, DZ.put, HM.out]
    go_enter Tryz.func146, Tryz.ntmps146
    go_wp2_with fail
    go_ret
    exact ⟨ret_bool HM.out.symm, by rw [HP.out]; exact h, World.grownBy.refl _ _⟩
  rw [hd] at c1
  cases hh : d.has p
  · have HM : Hid (d.may p v = false) := by simp [Hid, DZ.may, hh]
    have HP : Hid (d.put p v = d) := by simp [Hid, DZ.put, HM.out]
    go_enter Tryz.func146, Tryz.ntmps146
    go_wp2_with fail
    have hc := l3Has_any kv nv d p w hi
    rw [hd, hh] at hc
    refine hc.mono ?_
    rintro e w1 ⟨rfl, g1⟩
    go_wp2_with fail
    go_ret
    exact ⟨ret_bool HM.out.symm, by rw [HP.out]; exact h.kept g1, gweak g1 _⟩
  cases hv : inB v 0 32767
  · have HM : Hid (d.may p v = false) := by simp [Hid, DZ.may, hv]
    have HP : Hid (d.put p v = d) := by simp [Hid, DZ.put, HM.out]
    go_enter Tryz.func146, Tryz.ntmps146
    go_wp2_with fail
    have hc := l3Has_any kv nv d p w hi
    rw [hd, hh] at hc
    refine hc.mono ?_
    rintro e w1 ⟨rfl, g1⟩
    go_wp2_with (first | (go_at_call 227; refine (l1Value_any _ _).mono ?_; rintro e w' ⟨rfl, rfl⟩))
    go_ret
    exact ⟨ret_bool HM.out.symm, by rw [HP.out]; exact h.kept g1, gweak g1 _⟩
  · obtain ⟨k, rfl, hk1⟩ : ∃ k : Nat, p = k ∧ k < d.m.length := ⟨p.toNat, by simp [DZ.has] at hh; omega, by simp [DZ.has] at hh; omega⟩
    have HM : Hid (d.may k v = true) := by simp [Hid, DZ.may, hd, hh, hv]
    have HP : Hid (d.put k v = { d with m := d.m.set k (cofV d.n k v, cofS d.n k v) }) := by simp [Hid, DZ.put, HM.out]
    obtain ⟨na, nm, nc, rfl⟩ := h.ns.sl
    obtain rfl := h.ns.bound.1
    obtain ⟨g, rfl, hgB, hgl, t0, t1⟩ := h.ns.at k hk1
    have hgb : g ≠ b := fun e => h.nb (by rw [e]; rfl)
    have hi1 : (k : Int) < d.m.length := by omega
    go_enter Tryz.func146, Tryz.ntmps146
    go_wp2_with fail
    have hc := l3Has_any _ _ d k w hi
    rw [hd, hh] at hc
    refine hc.mono ?_
    rintro e w1 ⟨rfl, g1⟩
    have h1 := h.kept g1
    have S0 : WrS w1 b _ _ g (k * 2) := ⟨gkc g1 c0, gkc g1 c3, (gk g1 t0).live, (gk g1 t1).live⟩
    clear c0 c1 c2 c3 f0 f1 f2 f3 t0 t1
    go_wp2_with (first | (go_at_call 227; refine (l1Value_any _ _).mono ?_; rintro e w' ⟨rfl, rfl⟩))
    go_region_held3 (fun w' => WrS w' b (.int .i64 d.n) (.slice (some ⟨g, 0, none⟩) d.m.length nc) g (k * 2)) (first | assumption | exact S0.drew | exact WrS.kept ‹WrS _ b _ _ g (k * 2)› ‹World.grownBy _ _ none› | exact WrS.set ‹WrS _ b _ _ g (k * 2)› hgb _ _) (first | (go_at_call 228; refine (specCellOf_any _ _ _ _).mono ?_; rintro e w8 ⟨rfl, g8⟩))
    go_wp2_with fail
    go_ret
    have hD := (h1.kept (gtrans (gdrew (grefl w1) 1) g8)).setN k hk1 (cofV d.n k v) (cofS d.n k v)
    exact ⟨ret_bool HM.out.symm, by rw [HP.out]; exact hD, gtrans (gweak (gtrans g1 (gtrans (gdrew (grefl w1) 1) g8)) _) (gset2 w8 g _ _ _ _)⟩
/-- a copy of a disk, in a box of its own -/
theorem DBox.boxed {w1 : World} {d : DZ} {kv nv : Value} {B : Nat} (h : IsD w1 B kv nv d) (ap : Apart kv nv) (T : Nat) :
    DBox (w1.alloc (.cells #[.int .i64 d.n, .bool d.dead, kv, nv] T)) w1.heap.size B d kv nv := by
  have g := galloc (grefl w1) (.cells #[.int .i64 d.n, .bool d.dead, kv, nv] T)
  exact ⟨by simp [At, go_sem], by simp [At, go_sem], by simp [At, go_sem], by simp [At, go_sem], h.1.grew g, h.2.grew g, ap, old_ne h.1 (Nat.le_refl _), old_ne h.2 (Nat.le_refl _)⟩
end Go.Proofs.YteialkknddpbjaaGreatDoor
namespace Go.Proofs.YteialkknddpbjaaGreatDoor
open Go.ChangeShapes Go.WideShapes Go.ChangeAt Go.RowKit

/-- what l3Flush leaves -/
def FlushS (b B : Nat) (d : DZ) (nv : Value) (w : World) (e : Ending) (w' : World) : Prop :=
  ∃ kv', e = .returned (.tuple #[]) ∧ DBox w' b B { d with k := d.m } kv' nv ∧ w.grownBy w' (some b)
theorem l3Flush_any (b B : Nat) (d : DZ) (kv nv : Value) (w : World) (h : DBox w b B d kv nv) (hB : B ≤ w.heap.size) (hl : d.m.length ≤ 1000) :
    Calls Tryz.prog 149 #[.pointer (some ⟨b, 0, none⟩)] w (FlushS b B d nv w) := by
  have e0 := galloc (grefl w) (.cells #[] 59)
  have h0 := h.kept e0
  have hbl := h.lt
  obtain ⟨na, nm, nc, rfl⟩ := h.ns.sl
  have hn0 := h0.ns.lower (Nat.zero_le B)
  obtain ⟨c2, f2⟩ := h.c2
  obtain ⟨c3, f3⟩ := h.c3
  have hnN : (Value.slice na nm nc).ownBlock ≠ some w.heap.size := old_ne h.ns (Nat.le_refl _)
  go_enter Tryz.func149, Tryz.ntmps149
  go_wp2_with (first | (at_builtin; refine wpList_append_o (E := cellE) (base := B) rfl (.tmp 3) (.tmp 7) rfl rfl rfl (CS.empty w hB) hn0 (by simp; omega) (by decide) (by simp; omega) ?_; intro v1 w1 o1 g1' a1; have g1 : (w.alloc (.cells #[] 59)).grownBy w1 (some w.heap.size) := g1'; clear g1'; obtain ⟨x2, y2⟩ := gkr g1 (b := b) (by simp; omega) h0.c2; obtain ⟨x1, m1, q1, rfl⟩ := o1.sl))
  have gg1 : w.grownBy w1 (some w.heap.size) := gtrans (gweak e0 _) g1
  obtain ⟨k1, hk1, hk2⟩ : ∃ k, (Value.slice x1 m1 q1).ownBlock = some k ∧ w.heap.size ≤ k := by
    rcases a1 with a1 | a1
    · exact ⟨w.heap.size, a1, Nat.le_refl _⟩
    · exact ⟨_, a1, by simp⟩
  have hD := h.put2 gg1 (by simp; omega) (.inr hnN) o1 (fun e => by rw [hk1] at e; cases e; omega) (.inr fun e => by
    rw [hk1] at e; have := (h.ns.lt k1 e.symm).2; omega)
  go_end0
  exact ⟨_, rfl, hD, gset (gweak (gsub (grefl w) gg1 (by simp)) _) _ _⟩
end Go.Proofs.YteialkknddpbjaaGreatDoor
namespace Go.Proofs.YteialkknddpbjaaGreatDoor
open Go.ChangeShapes Go.WideShapes Go.ChangeAt Go.RowKit

section
variable {S : Nat → Prop} {w w' : World}
theorem Zero4.only {r : Nat} (z : Zero4 w r) (h : Only S w w') (hr : ¬ S r) : Zero4 w' r := ⟨h.at hr z.c0, h.at hr z.c1, h.at hr z.c2, h.at hr z.c3⟩
end
/-- the blocks of two slices -/
def Two2 (kv nv : Value) (k : Nat) : Prop := kv.ownBlock = some k ∨ nv.ownBlock = some k

/-- the lists of a disk while it falls -/
def mixL (s : Int) (k m x : List (Int × Int)) (i : Nat) : List (Int × Int) := (fallL s k m).take i ++ x.drop i
theorem fallL_length (s : Int) (k m : List (Int × Int)) : (fallL s k m).length = m.length := by simp [fallL]
theorem fallL_get (s : Int) (k m : List (Int × Int)) (i : Nat) (h : i < m.length) : (fallL s k m)[i]'(by rw [fallL_length]; exact h) = if bitOf s i then m.getD i (0, 0) else k.getD i (0, 0) := by simp [fallL]
theorem mixL_length (s : Int) (k m x : List (Int × Int)) (i : Nat) (hx : x.length = m.length) (hi : i ≤ m.length) : (mixL s k m x i).length = m.length := by simp [mixL, fallL_length]; omega
theorem mixL_get (s : Int) (k m x : List (Int × Int)) (i : Nat) (hx : x.length = m.length) (hi : i < m.length) : (mixL s k m x i)[i]'(by rw [mixL_length s k m x i hx (by omega)]; exact hi) = x[i]'(by omega) := by
  simp only [mixL]
  rw [List.getElem_append_right (by simp [fallL_length]; omega)]
  simp [fallL_length, Nat.min_eq_left (Nat.le_of_lt hi)]
theorem mixL_set (s : Int) (k m x : List (Int × Int)) (i : Nat) (hx : x.length = m.length) (hi : i < m.length) : (mixL s k m x i).set i ((fallL s k m)[i]'(by rw [fallL_length]; exact hi)) = mixL s k m x (i + 1) := by
  have hf := fallL_length s k m
  have h1 : x.drop i = x[i]'(by omega) :: x.drop (i + 1) := by rw [List.drop_eq_getElem_cons]
  simp only [mixL]
  rw [List.set_append_right _ _ (by simp; omega), h1]
  rw [show i - ((fallL s k m).take i).length = 0 by simp; omega, List.set_cons_zero, List.take_succ_eq_append_getElem (by omega), List.append_assoc]
  rfl
theorem mixL_same (s : Int) (k m x : List (Int × Int)) (i : Nat) (hx : x.length = m.length) (hi : i < m.length) (he : (fallL s k m)[i]'(by rw [fallL_length]; exact hi) = x[i]'(by omega)) : mixL s k m x (i + 1) = mixL s k m x i := by
  rw [← mixL_set s k m x i hx hi, he, ← mixL_get s k m x i hx hi, List.set_getElem_self]
/-- what holds while one cell is moved -/
abbrev MvS (w' : World) (b : Nat) (x2 x3 : Value) (g o : Nat) (y0 y1 : Value) (h : Nat) : Prop := w'.cell? ⟨b, 2, none⟩ = some x2 ∧ w'.cell? ⟨b, 3, none⟩ = some x3 ∧ TwoO w' g o y0 y1 ∧ Live w' h o ∧ Live w' h (o + 1)
theorem MvS.drew {w' : World} {b g o h : Nat} {x2 x3 y0 y1 : Value} (H : MvS w' b x2 x3 g o y0 y1 h) : MvS w'.drew b x2 x3 g o y0 y1 h := H
theorem MvS.set {w' : World} {b g o h : Nat} {x2 x3 y0 y1 : Value} (H : MvS w' b x2 x3 g o y0 y1 h) (hb : h ≠ b) (hg : h ≠ g) (u v : Value) : MvS ((w'.setCell ⟨h, o, none⟩ u).setCell ⟨h, o + 1, none⟩ v) b x2 x3 g o y0 y1 h := by
  have hn : ∀ (W : World) (p q c : Nat) (x : Value), h ≠ c → (W.setCell ⟨h, p, none⟩ x).cell? ⟨c, q, none⟩ = W.cell? ⟨c, q, none⟩ := fun W p q c x hc => World.cell?_setCell_other W _ _ x (fun e => hc (by cases e; rfl))
  exact ⟨by rw [hn _ _ _ _ _ hb, hn _ _ _ _ _ hb]; exact H.1, by rw [hn _ _ _ _ _ hb, hn _ _ _ _ _ hb]; exact H.2.1, ⟨by rw [hn _ _ _ _ _ hg, hn _ _ _ _ _ hg]; exact H.2.2.1.1, by rw [hn _ _ _ _ _ hg, hn _ _ _ _ _ hg]; exact H.2.2.1.2⟩, (H.2.2.2.1.set _).set _, (H.2.2.2.2.set _).set _⟩
theorem specDied_any (kv nv : Value) (d : DZ) (w : World) (h : IsD w 0 kv nv d) :
    Calls Tryz.prog 165 #[.agg #[.int .i64 d.n, .bool d.dead, kv, nv]] w (GotD d.died w) := by
  have H := Lib.hid h
  obtain ⟨hk, hn⟩ := h
  obtain ⟨ka, km, kc, rfl⟩ := hk.sl
  obtain ⟨na, nm, nc, rfl⟩ := hn.sl
  have hb := boxed2 w (.int .i64 d.n) (.bool d.dead) (.slice ka km kc) (.slice na nm nc) 37
  cases hok : d.ok
  · rw [show d.died = .zero by simp [DZ.died, hok]]
    go_enter Tryz.func165, Tryz.ntmps165
    go_upto_region 1 with (fail)
    generalize (w.alloc (.cells #[.int .i64 d.n, .bool d.dead, .slice ka km kc, .slice na nm nc] 37)).alloc (.cells #[.int .i64 0, .bool false, .slice none 0 0, .slice none 0 0] 37) = W0 at *
    obtain ⟨B0, Z0, g0, s0⟩ := hb
    obtain ⟨⟨c0, f0⟩, ⟨c1, f1⟩, ⟨c2, f2⟩, ⟨c3, f3⟩⟩ := B0
    go_wp2_with fail
    refine (specDiskOk_any _ _ d _ (H.out.grew g0)).mono ?_
    rintro e w1 ⟨rfl, g1⟩
    rw [hok]
    obtain ⟨⟨z0, y0⟩, ⟨z1, y1⟩, ⟨z2, y2⟩, ⟨z3, y3⟩⟩ := Z0.kept g1 (by simp)
    go_wp2_with fail
    exact bodyPost_ret (v := .agg #[.int .i64 0, .bool false, .slice none 0 0, .slice none 0 0]) (by simp [results, Tryz.results165, go_sem, z0, z1, z2, z3]) rfl ⟨_, _, rfl, newD_zero w (gset4 (gtrans g0 g1) (by omega) _ _ _ _)⟩
  · rw [show d.died = ⟨d.n, true, [], []⟩ by simp [DZ.died, hok]]
    go_enter Tryz.func165, Tryz.ntmps165
    go_upto_region 1 with (fail)
    generalize (w.alloc (.cells #[.int .i64 d.n, .bool d.dead, .slice ka km kc, .slice na nm nc] 37)).alloc (.cells #[.int .i64 0, .bool false, .slice none 0 0, .slice none 0 0] 37) = W0 at *
    obtain ⟨B0, Z0, g0, s0⟩ := hb
    obtain ⟨⟨c0, f0⟩, ⟨c1, f1⟩, ⟨c2, f2⟩, ⟨c3, f3⟩⟩ := B0
    go_wp2_with fail
    refine (specDiskOk_any _ _ d _ (H.out.grew g0)).mono ?_
    rintro e w1 ⟨rfl, g1⟩
    rw [hok]
    obtain ⟨⟨z0, y0⟩, ⟨z1, y1⟩, ⟨z2, y2⟩, ⟨z3, y3⟩⟩ := Z0.kept g1 (by simp)
    have d0 := gkc g1 c0
    clear c0
    go_wp2_with fail
    exact bodyPost_ret (v := .agg #[.int .i64 d.n, .bool true, .slice none 0 0, .slice none 0 0]) (by simp [results, Tryz.results165, go_sem, z0, z1, z2, z3]) rfl ⟨_, _, rfl, ⟨CS.nil _ _, CS.nil _ _⟩, .inl rfl, gset4 (gtrans g0 g1) (by omega) _ _ _ _⟩
end Go.Proofs.YteialkknddpbjaaGreatDoor
namespace Go.Proofs.YteialkknddpbjaaGreatDoor
open Go.ChangeShapes Go.WideShapes Go.ChangeAt Go.RowKit

/-- block b holds a disk, its slices own their memory in blocks from B on, apart from each other and from b -/
structure DAt (w : World) (b q B : Nat) (d : DZ) (kv nv : Value) : Prop where
  c0 : At w b q (.int .i64 d.n)
  c1 : At w b (q + 1) (.bool d.dead)
  c2 : At w b (q + 2) kv
  c3 : At w b (q + 3) nv
  ks : CS w B kv d.k
  ns : CS w B nv d.m
  ap : Apart kv nv
  kb : kv.ownBlock ≠ some b
  nb : nv.ownBlock ≠ some b
section
variable {w w' : World} {b q B : Nat} {d : DZ} {kv nv : Value}
theorem DAt.kept (h : DAt w b q B d kv nv) (g : w.grownBy w' none) : DAt w' b q B d kv nv :=
  ⟨gk g h.c0, gk g h.c1, gk g h.c2, gk g h.c3, h.ks.grew g, h.ns.grew g, h.ap, h.kb, h.nb⟩
theorem DAt.lt (h : DAt w b q B d kv nv) : b < w.heap.size := cell_lt h.c0.1
/-- the field Kept is replaced (r: the block that may have changed on the way) -/
theorem DAt.put2 {r : Option Nat} (h : DAt w b q B d kv nv) (g : w.grownBy w' r) (hr : r ≠ some b) (hn : nv.ownBlock = none ∨ nv.ownBlock ≠ r) {v : Value} {l : List (Int × Int)} (hv : CS w' B v l) (hb : v.ownBlock ≠ some b) (ha : Apart v nv) :
    DAt (w'.setCell ⟨b, q + 2, none⟩ v) b q B { d with k := l } v nv :=
  ⟨(gkr g hr h.c0).other (by simp) _, (gkr g hr h.c1).other (by simp) _, (gkr g hr h.c2).same _, (gkr g hr h.c3).other (by simp) _, hv.other hb _, (h.ns.kept g hn).other h.nb _, ha, hb, h.nb⟩
end
/-- what holds while l3Write gathers its operands and writes -/
abbrev WrA (w' : World) (b q : Nat) (x0 x3 : Value) (g o : Nat) : Prop := w'.cell? ⟨b, q, none⟩ = some x0 ∧ w'.cell? ⟨b, q + 3, none⟩ = some x3 ∧ Live w' g o ∧ Live w' g (o + 1)
theorem WrA.kept {w' w2 : World} {b q g o : Nat} {x0 x3 : Value} (h : WrA w' b q x0 x3 g o) (hg : w'.grownBy w2 none) : WrA w2 b q x0 x3 g o := ⟨gkc hg h.1, gkc hg h.2.1, h.2.2.1.kept hg, h.2.2.2.kept hg⟩
theorem WrA.drew {w' : World} {b q g o : Nat} {x0 x3 : Value} (h : WrA w' b q x0 x3 g o) : WrA w'.drew b q x0 x3 g o := h
theorem WrA.set {w' : World} {b q g o : Nat} {x0 x3 : Value} (h : WrA w' b q x0 x3 g o) (hb : g ≠ b) (u v : Value) : WrA ((w'.setCell ⟨g, o, none⟩ u).setCell ⟨g, o + 1, none⟩ v) b q x0 x3 g o := by
  have hn : ∀ (W : World) (p q : Nat) (x : Value), (W.setCell ⟨g, p, none⟩ x).cell? ⟨b, q, none⟩ = W.cell? ⟨b, q, none⟩ := fun W p q x => World.cell?_setCell_other W _ _ x (fun e => hb (by cases e; rfl))
  exact ⟨by rw [hn, hn]; exact h.1, by rw [hn, hn]; exact h.2.1, (h.2.2.1.set _).set _, (h.2.2.2.set _).set _⟩
/-- one cell of Now is written -/
theorem DAt.setN {w : World} {b q B g n c : Nat} {d : DZ} {kv : Value} (h : DAt w b q B d kv (.slice (some ⟨g, 0, none⟩) n c)) (k : Nat) (hk : k < d.m.length) (x y : Int) :
    DAt ((w.setCell ⟨g, k * 2, none⟩ (.int .i64 x)).setCell ⟨g, k * 2 + 1, none⟩ (.int .i64 y)) b q B { d with m := d.m.set k (x, y) } kv (.slice (some ⟨g, 0, none⟩) n c) := by
  have hg := gset2 w g (k * 2) (k * 2 + 1) (.int .i64 x) (.int .i64 y)
  have hb : (some g : Option Nat) ≠ some b := fun e => h.nb (by rw [← e]; rfl)
  exact ⟨gkr hg hb h.c0, gkr hg hb h.c1, gkr hg hb h.c2, gkr hg hb h.c3, h.ks.kept hg (.inr (h.ap.ne rfl)), CS.set h.ns k hk x y, h.ap, h.kb, h.nb⟩
/-- one cell of Kept is written -/
theorem DAt.setK {w : World} {b q B g n c : Nat} {d : DZ} {nv : Value} (h : DAt w b q B d (.slice (some ⟨g, 0, none⟩) n c) nv) (k : Nat) (hk : k < d.k.length) (x y : Int) :
    DAt ((w.setCell ⟨g, k * 2, none⟩ (.int .i64 x)).setCell ⟨g, k * 2 + 1, none⟩ (.int .i64 y)) b q B { d with k := d.k.set k (x, y) } (.slice (some ⟨g, 0, none⟩) n c) nv := by
  have hg := gset2 w g (k * 2) (k * 2 + 1) (.int .i64 x) (.int .i64 y)
  have hb : (some g : Option Nat) ≠ some b := fun e => h.kb (by rw [← e]; rfl)
  exact ⟨gkr hg hb h.c0, gkr hg hb h.c1, gkr hg hb h.c2, gkr hg hb h.c3, CS.set h.ks k hk x y, h.ns.kept hg (.inr (h.ap.symm.ne rfl)), h.ap, h.kb, h.nb⟩
/-- what a write through a pointer leaves -/
def WroteA (b q B : Nat) (d : DZ) (p v : Int) (kv nv : Value) (w : World) (e : Ending) (w' : World) : Prop :=
  e = .returned (.bool (d.may p v)) ∧ DAt w' b q B (d.put p v) kv nv ∧ w.grownBy w' nv.ownBlock
theorem DAt.isD {w : World} {b q B : Nat} {d : DZ} {kv nv : Value} (h : DAt w b q B d kv nv) : IsD w 0 kv nv d := ⟨h.ks.lower (Nat.zero_le _), h.ns.lower (Nat.zero_le _)⟩
set_option maxHeartbeats 1000000 in
theorem l3WriteAt_any (b q B : Nat) (d : DZ) (kv nv : Value) (p v : Int) (w : World) (h : DAt w b q B d kv nv) :
    Calls Tryz.prog 146 #[.pointer (some ⟨b, q, none⟩), .int .i64 p, .int .i64 v] w (WroteA b q B d p v kv nv w) := by
  obtain ⟨c0, f0⟩ := h.c0
  obtain ⟨c1, f1⟩ := h.c1
  obtain ⟨c2, f2⟩ := h.c2
  obtain ⟨c3, f3⟩ := h.c3
  have hi := h.isD
  cases hd : d.dead
  rotate_left
  · rw [hd] at c1
    have HM : Hid (d.may p v = false) := by simp [Hid, DZ.may, hd]
    have HP : Hid (d.put p v = d) := by simp [Hid, DZ.put, HM.out]
    go_enter Tryz.func146, Tryz.ntmps146
    go_wp2_with fail
    go_ret
    exact ⟨ret_bool HM.out.symm, by rw [HP.out]; exact h, World.grownBy.refl _ _⟩
  rw [hd] at c1
  cases hh : d.has p
  · have HM : Hid (d.may p v = false) := by simp [Hid, DZ.may, hh]
    have HP : Hid (d.put p v = d) := by simp [Hid, DZ.put, HM.out]
    go_enter Tryz.func146, Tryz.ntmps146
    go_wp2_with fail
    have hc := l3Has_any kv nv d p w hi
    rw [hd, hh] at hc
    refine hc.mono ?_
    rintro e w1 ⟨rfl, g1⟩
    go_wp2_with fail
    go_ret
    exact ⟨ret_bool HM.out.symm, by rw [HP.out]; exact h.kept g1, gweak g1 _⟩
  cases hv : inB v 0 32767
  · have HM : Hid (d.may p v = false) := by simp [Hid, DZ.may, hv]
    have HP : Hid (d.put p v = d) := by simp [Hid, DZ.put, HM.out]
    go_enter Tryz.func146, Tryz.ntmps146
    go_wp2_with fail
    have hc := l3Has_any kv nv d p w hi
    rw [hd, hh] at hc
    refine hc.mono ?_
    rintro e w1 ⟨rfl, g1⟩
    go_wp2_with (first | (go_at_call 227; refine (l1Value_any _ _).mono ?_; rintro e w' ⟨rfl, rfl⟩))
    go_ret
    exact ⟨ret_bool HM.out.symm, by rw [HP.out]; exact h.kept g1, gweak g1 _⟩
  · obtain ⟨k, rfl, hk1⟩ : ∃ k : Nat, p = k ∧ k < d.m.length := ⟨p.toNat, by simp [DZ.has] at hh; omega, by simp [DZ.has] at hh; omega⟩
    have HM : Hid (d.may k v = true) := by simp [Hid, DZ.may, hd, hh, hv]
    have HP : Hid (d.put k v = { d with m := d.m.set k (cofV d.n k v, cofS d.n k v) }) := by simp [Hid, DZ.put, HM.out]
    obtain ⟨na, nm, nc, rfl⟩ := h.ns.sl
    obtain rfl := h.ns.bound.1
    obtain ⟨g, rfl, hgB, hgl, t0, t1⟩ := h.ns.at k hk1
    have hgb : g ≠ b := fun e => h.nb (by rw [e]; rfl)
    have hi1 : (k : Int) < d.m.length := by omega
    go_enter Tryz.func146, Tryz.ntmps146
    go_wp2_with fail
    have hc := l3Has_any _ _ d k w hi
    rw [hd, hh] at hc
    refine hc.mono ?_
    rintro e w1 ⟨rfl, g1⟩
    have h1 := h.kept g1
    have S0 : WrA w1 b q _ _ g (k * 2) := ⟨gkc g1 c0, gkc g1 c3, (gk g1 t0).live, (gk g1 t1).live⟩
    clear c0 c1 c2 c3 f0 f1 f2 f3 t0 t1
    go_wp2_with (first | (go_at_call 227; refine (l1Value_any _ _).mono ?_; rintro e w' ⟨rfl, rfl⟩))
    go_region_held3 (fun w' => WrA w' b q (.int .i64 d.n) (.slice (some ⟨g, 0, none⟩) d.m.length nc) g (k * 2)) (first | assumption | exact S0.drew | exact WrA.kept ‹WrA _ b q _ _ g (k * 2)› ‹World.grownBy _ _ none› | exact WrA.set ‹WrA _ b q _ _ g (k * 2)› hgb _ _) (first | (go_at_call 228; refine (specCellOf_any _ _ _ _).mono ?_; rintro e w8 ⟨rfl, g8⟩))
    go_wp2_with fail
    go_ret
    have hD := (h1.kept (gtrans (gdrew (grefl w1) 1) g8)).setN k hk1 (cofV d.n k v) (cofS d.n k v)
    exact ⟨ret_bool HM.out.symm, by rw [HP.out]; exact hD, gtrans (gweak (gtrans g1 (gtrans (gdrew (grefl w1) 1) g8)) _) (gset2 w8 g _ _ _ _)⟩
/-- what l3Flush leaves -/
def FlushA (b q B : Nat) (d : DZ) (nv : Value) (w : World) (e : Ending) (w' : World) : Prop :=
  ∃ kv' w1, e = .returned (.tuple #[]) ∧ w' = w1.setCell ⟨b, q + 2, none⟩ kv' ∧ w.grownBy w1 none ∧ CS w1 B kv' d.m ∧ (∀ k, kv'.ownBlock = some k → w.heap.size ≤ k) ∧ DAt w' b q B { d with k := d.m } kv' nv
theorem l3FlushAt_any (b q B : Nat) (d : DZ) (kv nv : Value) (w : World) (h : DAt w b q B d kv nv) (hB : B ≤ w.heap.size) (hl : d.m.length ≤ 1000) :
    Calls Tryz.prog 149 #[.pointer (some ⟨b, q, none⟩)] w (FlushA b q B d nv w) := by
  have e0 := galloc (grefl w) (.cells #[] 59)
  have h0 := h.kept e0
  have hbl := h.lt
  obtain ⟨na, nm, nc, rfl⟩ := h.ns.sl
  have hn0 := h0.ns.lower (Nat.zero_le B)
  obtain ⟨c2, f2⟩ := h.c2
  obtain ⟨c3, f3⟩ := h.c3
  have hnN : (Value.slice na nm nc).ownBlock ≠ some w.heap.size := old_ne h.ns (Nat.le_refl _)
  go_enter Tryz.func149, Tryz.ntmps149
  go_wp2_with (first | (at_builtin; refine wpList_append_o (E := cellE) (base := B) rfl (.tmp 3) (.tmp 7) rfl rfl rfl (CS.empty w hB) hn0 (by simp; omega) (by decide) (by simp; omega) ?_; intro v1 w1 o1 g1' a1; have g1 : (w.alloc (.cells #[] 59)).grownBy w1 (some w.heap.size) := g1'; clear g1'; obtain ⟨x2, y2⟩ := gkr g1 (b := b) (by simp; omega) h0.c2; obtain ⟨x1, m1, q1, rfl⟩ := o1.sl))
  have gg1 : w.grownBy w1 (some w.heap.size) := gtrans (gweak e0 _) g1
  obtain ⟨k1, hk1, hk2⟩ : ∃ k, (Value.slice x1 m1 q1).ownBlock = some k ∧ w.heap.size ≤ k := by
    rcases a1 with a1 | a1
    · exact ⟨w.heap.size, a1, Nat.le_refl _⟩
    · exact ⟨_, a1, by simp⟩
  have hD := h.put2 gg1 (by simp; omega) (.inr hnN) o1 (fun e => by rw [hk1] at e; cases e; omega) (.inr fun e => by
    rw [hk1] at e; have := (h.ns.lt k1 e.symm).2; omega)
  go_end0
  exact ⟨_, w1, rfl, rfl, gsub (grefl w) gg1 (by simp), o1, fun k e => by rw [hk1] at e; cases e; exact hk2, hD⟩
/-- what holds while one cell is moved -/
abbrev MvA (w' : World) (b q : Nat) (x2 x3 : Value) (g o : Nat) (y0 y1 : Value) (h : Nat) : Prop := w'.cell? ⟨b, q + 2, none⟩ = some x2 ∧ w'.cell? ⟨b, q + 3, none⟩ = some x3 ∧ TwoO w' g o y0 y1 ∧ Live w' h o ∧ Live w' h (o + 1)
theorem MvA.drew {w' : World} {b q g o h : Nat} {x2 x3 y0 y1 : Value} (H : MvA w' b q x2 x3 g o y0 y1 h) : MvA w'.drew b q x2 x3 g o y0 y1 h := H
theorem MvA.set {w' : World} {b q g o h : Nat} {x2 x3 y0 y1 : Value} (H : MvA w' b q x2 x3 g o y0 y1 h) (hb : h ≠ b) (hg : h ≠ g) (u v : Value) : MvA ((w'.setCell ⟨h, o, none⟩ u).setCell ⟨h, o + 1, none⟩ v) b q x2 x3 g o y0 y1 h := by
  have hn : ∀ (W : World) (p q c : Nat) (x : Value), h ≠ c → (W.setCell ⟨h, p, none⟩ x).cell? ⟨c, q, none⟩ = W.cell? ⟨c, q, none⟩ := fun W p q c x hc => World.cell?_setCell_other W _ _ x (fun e => hc (by cases e; rfl))
  exact ⟨by rw [hn _ _ _ _ _ hb, hn _ _ _ _ _ hb]; exact H.1, by rw [hn _ _ _ _ _ hb, hn _ _ _ _ _ hb]; exact H.2.1, ⟨by rw [hn _ _ _ _ _ hg, hn _ _ _ _ _ hg]; exact H.2.2.1.1, by rw [hn _ _ _ _ _ hg, hn _ _ _ _ _ hg]; exact H.2.2.1.2⟩, (H.2.2.2.1.set _).set _, (H.2.2.2.2.set _).set _⟩
def FellA (b q B : Nat) (d : DZ) (kv nv : Value) (w : World) (e : Ending) (w' : World) : Prop := e = .returned (.tuple #[]) ∧ DAt w' b q B d kv nv ∧ Only (Two2 kv nv) w w'
set_option maxHeartbeats 2000000 in
theorem l3FallAt_any (b q B : Nat) (d : DZ) (kv nv : Value) (s : Int) (w : World) (h : DAt w b q B d kv nv) (hs : 0 ≤ s) (_ : s ≤ 65535) (hl : d.k.length = d.m.length) (hl2 : d.m.length ≤ 16) :
    Calls Tryz.prog 182 #[.pointer (some ⟨b, q, none⟩), .int .i64 s] w (FellA b q B (d.fall s) kv nv w) := by
  go_enter Tryz.func182, Tryz.ntmps182
  go_wp2
  go_loopw [4] (fun i wr => ∃ k : Nat, k ≤ d.m.length ∧ i = .int .i64 k ∧ DAt wr b q B { d with k := mixL s d.k d.m d.k k, m := mixL s d.k d.m d.m k } kv nv ∧ Only (Two2 kv nv) w wr) (fun i _ => d.m.length - (intOf i).toNat)
  case atStart => exact ⟨0, Nat.zero_le _, rfl, by simpa [mixL] using h, Only.refl _ _⟩
  case round =>
    obtain ⟨k, hk, rfl, D, O⟩ := hrel
    obtain ⟨na, nm, nc, rfl⟩ := D.ns.sl
    have hnm := D.ns.bound.1
    dsimp only at hnm
    rw [mixL_length _ _ _ _ _ rfl hk] at hnm
    subst hnm
    obtain ⟨c3, f3⟩ := D.c3
    by_cases hlt : k < d.m.length
    · obtain ⟨ka, km, kc, rfl⟩ := D.ks.sl
      have hkm := D.ks.bound.1
      dsimp only at hkm
      rw [mixL_length _ _ _ _ _ hl hk] at hkm
      subst hkm
      obtain ⟨c2, f2⟩ := D.c2
      have hlk : k < d.k.length := by omega
      obtain ⟨gn, rfl, _, _, n0, n1⟩ := D.ns.at k (by dsimp only; rw [mixL_length _ _ _ _ _ rfl hk]; exact hlt)
      obtain ⟨gk', rfl, _, _, k0, k1⟩ := D.ks.at k (by dsimp only; rw [mixL_length _ _ _ _ _ hl hk]; exact hlt)
      have hNg := mixL_get s d.k d.m d.m k rfl hlt
      have hKg := mixL_get s d.k d.m d.k k hl hlt
      dsimp only at n0 n1 k0 k1
      rw [hNg] at n0 n1
      rw [hKg] at k0 k1
      have hfg := fallL_get s d.k d.m k hlt
      have hmk : d.m.getD k (0, 0) = d.m[k] := by simp [List.getD_eq_getElem?_getD, hlt]
      have hkk : d.k.getD k (0, 0) = d.k[k]'hlk := by simp [List.getD_eq_getElem?_getD, hlk]
      have hkn : gk' ≠ gn := fun e => (D.ap.ne (g := gn) rfl) (by rw [e]; rfl)
      have hkb : gk' ≠ b := fun e => D.kb (by rw [e]; rfl)
      have hnb : gn ≠ b := fun e => D.nb (by rw [e]; rfl)
      have hi1 : (k : Int) < d.m.length := by omega
      have hbt : ((s / 2 ^ k).tmod 2 == 1) = bitOf s k := by
        unfold bitOf; rw [Int.tmod_eq_emod_of_nonneg (Int.ediv_nonneg hs (by exact_mod_cast Nat.zero_le (2 ^ k)))]
      clear hNg hKg
      cases hbit : bitOf s k
      · rw [hbit] at hbt hfg
        rw [if_neg (by simp), hkk] at hfg
        have hSame := mixL_same s d.k d.m d.k k hl hlt hfg
        have hSet := mixL_set s d.k d.m d.m k rfl hlt
        rw [hfg] at hSet
        have D2 := D.setN k (by dsimp only; rw [mixL_length _ _ _ _ _ rfl hk]; exact hlt) (d.k[k]'hlk).1 (d.k[k]'hlk).2
        dsimp only at D2
        rw [hSet, ← hSame] at D2
        have S0 : MvA wr b q (.slice (some ⟨gk', 0, none⟩) d.m.length kc) (.slice (some ⟨gn, 0, none⟩) d.m.length nc) gk' (k * 2) _ _ gn := ⟨c2, c3, ⟨k0.1, k1.1⟩, n0.live, n1.live⟩
        have HD := Lib.hid D2
        clear hSet hSame hfg hmk hkk k0 k1 n0 n1 c2 f2 D2
        go_wp2_with fail
        go_region_held3 (fun w' => MvA w' b q (.slice (some ⟨gk', 0, none⟩) d.m.length kc) (.slice (some ⟨gn, 0, none⟩) d.m.length nc) gk' (k * 2) (.int .i64 (d.k[k]'hlk).1) (.int .i64 (d.k[k]'hlk).2) gn) (first | assumption | exact S0.drew | exact MvA.set ‹MvA _ b q _ _ gk' (k * 2) _ _ gn› hnb hkn.symm _ _) (fail)
        go_wp2_with fail
        go_roundw
        case rel => exact ⟨k + 1, by omega, by go_num, HD.out.kept (gdrew (grefl _) 1), O.trans (Only.of (gdrew (gset2 wr gn _ _ _ _) 1) (fun j e => .inr e))⟩
        case measure => simp [intOf]; omega
      · rw [hbit] at hbt hfg
        rw [if_pos rfl, hmk] at hfg
        have hSame := mixL_same s d.k d.m d.m k rfl hlt hfg
        have hSet := mixL_set s d.k d.m d.k k hl hlt
        rw [hfg] at hSet
        have D2 := D.setK k (by dsimp only; rw [mixL_length _ _ _ _ _ hl hk]; exact hlt) d.m[k].1 d.m[k].2
        dsimp only at D2
        rw [hSet, ← hSame] at D2
        have S0 : MvA wr b q (.slice (some ⟨gk', 0, none⟩) d.m.length kc) (.slice (some ⟨gn, 0, none⟩) d.m.length nc) gn (k * 2) _ _ gk' := ⟨c2, c3, ⟨n0.1, n1.1⟩, k0.live, k1.live⟩
        have HD := Lib.hid D2
        clear hSet hSame hfg hmk hkk k0 k1 n0 n1 c2 f2 D2
        go_wp2_with fail
        go_region_held3 (fun w' => MvA w' b q (.slice (some ⟨gk', 0, none⟩) d.m.length kc) (.slice (some ⟨gn, 0, none⟩) d.m.length nc) gn (k * 2) (.int .i64 d.m[k].1) (.int .i64 d.m[k].2) gk') (first | assumption | exact S0.drew | exact MvA.set ‹MvA _ b q _ _ gn (k * 2) _ _ gk'› hkb hkn _ _) (fail)
        go_wp2_with fail
        go_roundw
        case rel => exact ⟨k + 1, by omega, by go_num, HD.out.kept (gdrew (grefl _) 1), O.trans (Only.of (gdrew (gset2 wr gk' _ _ _ _) 1) (fun j e => .inl e))⟩
        case measure => simp [intOf]; omega
    · obtain rfl : k = d.m.length := by omega
      have hf := fallL_length s d.k d.m
      have h1 : mixL s d.k d.m d.k d.m.length = fallL s d.k d.m := by unfold mixL; rw [List.take_of_length_le (by omega), List.drop_of_length_le (by omega), List.append_nil]
      have h2 : mixL s d.k d.m d.m d.m.length = fallL s d.k d.m := by unfold mixL; rw [List.take_of_length_le (by omega), List.drop_of_length_le (by omega), List.append_nil]
      rw [h1, h2] at D
      clear h1 h2 hf
      go_wp2_with fail
      go_end0
      exact ⟨rfl, D, O⟩
end Go.Proofs.YteialkknddpbjaaGreatDoor
