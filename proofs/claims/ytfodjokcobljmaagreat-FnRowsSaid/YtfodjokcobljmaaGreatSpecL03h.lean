/- The specification's l3Write, l3Flush, l3Fall through a pointer to a disk that lies anywhere in a block. -/
import Derived.Test.YtfodjokcobljmaaGreatSpecL03g
namespace Go.Proofs.YtfodjokcobljmaaGreat
open Go.ChangeShapes Go.WideShapes Go.ChangeAt Go.RowKit

/-- block b holds a disk, its slices own their memory in blocks from B on, apart from each other and from b -/
structure DAt (w : World) (b q B : Nat) (d : DZ) (kv nv : Value) : Prop where
  c0 : At w b q (.int .i64 d.n)
  c1 : At w b (q + 1) (.bool d.dead)
  c2 : At w b (q + 2) kv
  c3 : At w b (q + 3) nv
  ks : CS w B kv d.k
  ns : CS w B nv d.m
  ap : Apart kv nv
  kb : kv.ownBlock ≠ some b
  nb : nv.ownBlock ≠ some b
section
variable {w w' : World} {b q B : Nat} {d : DZ} {kv nv : Value}
theorem DAt.kept (h : DAt w b q B d kv nv) (g : w.grownBy w' none) : DAt w' b q B d kv nv :=
  ⟨gk g h.c0, gk g h.c1, gk g h.c2, gk g h.c3, h.ks.grew g, h.ns.grew g, h.ap, h.kb, h.nb⟩
theorem DAt.lt (h : DAt w b q B d kv nv) : b < w.heap.size := cell_lt h.c0.1
/-- the field Kept is replaced (r: the block that may have changed on the way) -/
theorem DAt.put2 {r : Option Nat} (h : DAt w b q B d kv nv) (g : w.grownBy w' r) (hr : r ≠ some b) (hn : nv.ownBlock = none ∨ nv.ownBlock ≠ r) {v : Value} {l : List (Int × Int)} (hv : CS w' B v l) (hb : v.ownBlock ≠ some b) (ha : Apart v nv) :
    DAt (w'.setCell ⟨b, q + 2, none⟩ v) b q B { d with k := l } v nv :=
  ⟨(gkr g hr h.c0).other (by simp) _, (gkr g hr h.c1).other (by simp) _, (gkr g hr h.c2).same _, (gkr g hr h.c3).other (by simp) _, hv.other hb _, (h.ns.kept g hn).other h.nb _, ha, hb, h.nb⟩
end
/-- what holds while l3Write gathers its operands and writes -/
abbrev WrA (w' : World) (b q : Nat) (x0 x3 : Value) (g o : Nat) : Prop := w'.cell? ⟨b, q, none⟩ = some x0 ∧ w'.cell? ⟨b, q + 3, none⟩ = some x3 ∧ Live w' g o ∧ Live w' g (o + 1)
theorem WrA.kept {w' w2 : World} {b q g o : Nat} {x0 x3 : Value} (h : WrA w' b q x0 x3 g o) (hg : w'.grownBy w2 none) : WrA w2 b q x0 x3 g o := ⟨gkc hg h.1, gkc hg h.2.1, h.2.2.1.kept hg, h.2.2.2.kept hg⟩
theorem WrA.drew {w' : World} {b q g o : Nat} {x0 x3 : Value} (h : WrA w' b q x0 x3 g o) : WrA w'.drew b q x0 x3 g o := h
theorem WrA.set {w' : World} {b q g o : Nat} {x0 x3 : Value} (h : WrA w' b q x0 x3 g o) (hb : g ≠ b) (u v : Value) : WrA ((w'.setCell ⟨g, o, none⟩ u).setCell ⟨g, o + 1, none⟩ v) b q x0 x3 g o := by
  have hn : ∀ (W : World) (p q : Nat) (x : Value), (W.setCell ⟨g, p, none⟩ x).cell? ⟨b, q, none⟩ = W.cell? ⟨b, q, none⟩ := fun W p q x => World.cell?_setCell_other W _ _ x (fun e => hb (by cases e; rfl))
  exact ⟨by rw [hn, hn]; exact h.1, by rw [hn, hn]; exact h.2.1, (h.2.2.1.set _).set _, (h.2.2.2.set _).set _⟩
/-- one cell of Now is written -/
theorem DAt.setN {w : World} {b q B g n c : Nat} {d : DZ} {kv : Value} (h : DAt w b q B d kv (.slice (some ⟨g, 0, none⟩) n c)) (k : Nat) (hk : k < d.m.length) (x y : Int) :
    DAt ((w.setCell ⟨g, k * 2, none⟩ (.int .i64 x)).setCell ⟨g, k * 2 + 1, none⟩ (.int .i64 y)) b q B { d with m := d.m.set k (x, y) } kv (.slice (some ⟨g, 0, none⟩) n c) := by
  have hg := gset2 w g (k * 2) (k * 2 + 1) (.int .i64 x) (.int .i64 y)
  have hb : (some g : Option Nat) ≠ some b := fun e => h.nb (by rw [← e]; rfl)
  exact ⟨gkr hg hb h.c0, gkr hg hb h.c1, gkr hg hb h.c2, gkr hg hb h.c3, h.ks.kept hg (.inr (h.ap.ne rfl)), CS.set h.ns k hk x y, h.ap, h.kb, h.nb⟩
/-- one cell of Kept is written -/
theorem DAt.setK {w : World} {b q B g n c : Nat} {d : DZ} {nv : Value} (h : DAt w b q B d (.slice (some ⟨g, 0, none⟩) n c) nv) (k : Nat) (hk : k < d.k.length) (x y : Int) :
    DAt ((w.setCell ⟨g, k * 2, none⟩ (.int .i64 x)).setCell ⟨g, k * 2 + 1, none⟩ (.int .i64 y)) b q B { d with k := d.k.set k (x, y) } (.slice (some ⟨g, 0, none⟩) n c) nv := by
  have hg := gset2 w g (k * 2) (k * 2 + 1) (.int .i64 x) (.int .i64 y)
  have hb : (some g : Option Nat) ≠ some b := fun e => h.kb (by rw [← e]; rfl)
  exact ⟨gkr hg hb h.c0, gkr hg hb h.c1, gkr hg hb h.c2, gkr hg hb h.c3, CS.set h.ks k hk x y, h.ns.kept hg (.inr (h.ap.symm.ne rfl)), h.ap, h.kb, h.nb⟩
/-- what a write through a pointer leaves -/
def WroteA (b q B : Nat) (d : DZ) (p v : Int) (kv nv : Value) (w : World) (e : Ending) (w' : World) : Prop :=
  e = .returned (.bool (d.may p v)) ∧ DAt w' b q B (d.put p v) kv nv ∧ w.grownBy w' nv.ownBlock
theorem DAt.isD {w : World} {b q B : Nat} {d : DZ} {kv nv : Value} (h : DAt w b q B d kv nv) : IsD w 0 kv nv d := ⟨h.ks.lower (Nat.zero_le _), h.ns.lower (Nat.zero_le _)⟩
set_option maxHeartbeats 1000000 in
theorem l3WriteAt_any (b q B : Nat) (d : DZ) (kv nv : Value) (p v : Int) (w : World) (h : DAt w b q B d kv nv) :
    Calls Tryz.prog 71 #[.pointer (some ⟨b, q, none⟩), .int .i64 p, .int .i64 v] w (WroteA b q B d p v kv nv w) := by
  obtain ⟨c0, f0⟩ := h.c0
  obtain ⟨c1, f1⟩ := h.c1
  obtain ⟨c2, f2⟩ := h.c2
  obtain ⟨c3, f3⟩ := h.c3
  have hi := h.isD
  cases hd : d.dead
  rotate_left
  · rw [hd] at c1
    have HM : Hid (d.may p v = false) := by simp [Hid, DZ.may, hd]
    have HP : Hid (d.put p v = d) := by simp [Hid, DZ.put, HM.out]
    go_enter Tryz.func71, Tryz.ntmps71
    go_wp2_with fail
    go_ret
    exact ⟨ret_bool HM.out.symm, by rw [HP.out]; exact h, World.grownBy.refl _ _⟩
  rw [hd] at c1
  cases hh : d.has p
  · have HM : Hid (d.may p v = false) := by simp [Hid, DZ.may, hh]
    have HP : Hid (d.put p v = d) := by simp [Hid, DZ.put, HM.out]
    go_enter Tryz.func71, Tryz.ntmps71
    go_wp2_with fail
    have hc := l3Has_any kv nv d p w hi
    rw [hd, hh] at hc
    refine hc.mono ?_
    rintro e w1 ⟨rfl, g1⟩
    go_wp2_with fail
    go_ret
    exact ⟨ret_bool HM.out.symm, by rw [HP.out]; exact h.kept g1, gweak g1 _⟩
  cases hv : inB v 0 32767
  · have HM : Hid (d.may p v = false) := by simp [Hid, DZ.may, hv]
    have HP : Hid (d.put p v = d) := by simp [Hid, DZ.put, HM.out]
    go_enter Tryz.func71, Tryz.ntmps71
    go_wp2_with fail
    have hc := l3Has_any kv nv d p w hi
    rw [hd, hh] at hc
    refine hc.mono ?_
    rintro e w1 ⟨rfl, g1⟩
    go_wp2_with (first | (go_at_call 90; refine (l1Value_any _ _).mono ?_; rintro e w' ⟨rfl, rfl⟩))
    go_ret
    exact ⟨ret_bool HM.out.symm, by rw [HP.out]; exact h.kept g1, gweak g1 _⟩
  · obtain ⟨k, rfl, hk1⟩ : ∃ k : Nat, p = k ∧ k < d.m.length := ⟨p.toNat, by simp [DZ.has] at hh; omega, by simp [DZ.has] at hh; omega⟩
    have HM : Hid (d.may k v = true) := by simp [Hid, DZ.may, hd, hh, hv]
    have HP : Hid (d.put k v = { d with m := d.m.set k (cofV d.n k v, cofS d.n k v) }) := by simp [Hid, DZ.put, HM.out]
    obtain ⟨na, nm, nc, rfl⟩ := h.ns.sl
    obtain rfl := h.ns.bound.1
    obtain ⟨g, rfl, hgB, hgl, t0, t1⟩ := h.ns.at k hk1
    have hgb : g ≠ b := fun e => h.nb (by rw [e]; rfl)
    have hi1 : (k : Int) < d.m.length := by omega
    go_enter Tryz.func71, Tryz.ntmps71
    go_wp2_with fail
    have hc := l3Has_any _ _ d k w hi
    rw [hd, hh] at hc
    refine hc.mono ?_
    rintro e w1 ⟨rfl, g1⟩
    have h1 := h.kept g1
    have S0 : WrA w1 b q _ _ g (k * 2) := ⟨gkc g1 c0, gkc g1 c3, (gk g1 t0).live, (gk g1 t1).live⟩
    clear c0 c1 c2 c3 f0 f1 f2 f3 t0 t1
    go_wp2_with (first | (go_at_call 90; refine (l1Value_any _ _).mono ?_; rintro e w' ⟨rfl, rfl⟩))
    go_region_held3 (fun w' => WrA w' b q (.int .i64 d.n) (.slice (some ⟨g, 0, none⟩) d.m.length nc) g (k * 2)) (first | assumption | exact S0.drew | exact WrA.kept ‹WrA _ b q _ _ g (k * 2)› ‹World.grownBy _ _ none› | exact WrA.set ‹WrA _ b q _ _ g (k * 2)› hgb _ _) (first | (go_at_call 89; refine (specCellOf_any _ _ _ _).mono ?_; rintro e w8 ⟨rfl, g8⟩))
    go_wp2_with fail
    go_ret
    have hD := (h1.kept (gtrans (gdrew (grefl w1) 1) g8)).setN k hk1 (cofV d.n k v) (cofS d.n k v)
    exact ⟨ret_bool HM.out.symm, by rw [HP.out]; exact hD, gtrans (gweak (gtrans g1 (gtrans (gdrew (grefl w1) 1) g8)) _) (gset2 w8 g _ _ _ _)⟩
/-- what l3Flush leaves -/
def FlushA (b q B : Nat) (d : DZ) (nv : Value) (w : World) (e : Ending) (w' : World) : Prop :=
  ∃ kv' w1, e = .returned (.tuple #[]) ∧ w' = w1.setCell ⟨b, q + 2, none⟩ kv' ∧ w.grownBy w1 none ∧ CS w1 B kv' d.m ∧ (∀ k, kv'.ownBlock = some k → w.heap.size ≤ k) ∧ DAt w' b q B { d with k := d.m } kv' nv
theorem l3FlushAt_any (b q B : Nat) (d : DZ) (kv nv : Value) (w : World) (h : DAt w b q B d kv nv) (hB : B ≤ w.heap.size) (hl : d.m.length ≤ 1000) :
    Calls Tryz.prog 72 #[.pointer (some ⟨b, q, none⟩)] w (FlushA b q B d nv w) := by
  have e0 := galloc (grefl w) (.cells #[] 73)
  have h0 := h.kept e0
  have hbl := h.lt
  obtain ⟨na, nm, nc, rfl⟩ := h.ns.sl
  have hn0 := h0.ns.lower (Nat.zero_le B)
  obtain ⟨c2, f2⟩ := h.c2
  obtain ⟨c3, f3⟩ := h.c3
  have hnN : (Value.slice na nm nc).ownBlock ≠ some w.heap.size := old_ne h.ns (Nat.le_refl _)
  go_enter Tryz.func72, Tryz.ntmps72
  go_wp2_with (first | (at_builtin; refine wpList_append_o (E := cellE) (base := B) rfl (.tmp 3) (.tmp 7) rfl rfl rfl (CS.empty w hB) hn0 (by simp; omega) (by decide) (by simp; omega) ?_; intro v1 w1 o1 g1' a1; have g1 : (w.alloc (.cells #[] 73)).grownBy w1 (some w.heap.size) := g1'; clear g1'; obtain ⟨x2, y2⟩ := gkr g1 (b := b) (by simp; omega) h0.c2; obtain ⟨x1, m1, q1, rfl⟩ := o1.sl))
  have gg1 : w.grownBy w1 (some w.heap.size) := gtrans (gweak e0 _) g1
  obtain ⟨k1, hk1, hk2⟩ : ∃ k, (Value.slice x1 m1 q1).ownBlock = some k ∧ w.heap.size ≤ k := by
    rcases a1 with a1 | a1
    · exact ⟨w.heap.size, a1, Nat.le_refl _⟩
    · exact ⟨_, a1, by simp⟩
  have hD := h.put2 gg1 (by simp; omega) (.inr hnN) o1 (fun e => by rw [hk1] at e; cases e; omega) (.inr fun e => by
    rw [hk1] at e; have := (h.ns.lt k1 e.symm).2; omega)
  go_end0
  exact ⟨_, w1, rfl, rfl, gsub (grefl w) gg1 (by simp), o1, fun k e => by rw [hk1] at e; cases e; exact hk2, hD⟩
/-- what holds while one cell is moved -/
abbrev MvA (w' : World) (b q : Nat) (x2 x3 : Value) (g o : Nat) (y0 y1 : Value) (h : Nat) : Prop := w'.cell? ⟨b, q + 2, none⟩ = some x2 ∧ w'.cell? ⟨b, q + 3, none⟩ = some x3 ∧ TwoO w' g o y0 y1 ∧ Live w' h o ∧ Live w' h (o + 1)
theorem MvA.drew {w' : World} {b q g o h : Nat} {x2 x3 y0 y1 : Value} (H : MvA w' b q x2 x3 g o y0 y1 h) : MvA w'.drew b q x2 x3 g o y0 y1 h := H
theorem MvA.set {w' : World} {b q g o h : Nat} {x2 x3 y0 y1 : Value} (H : MvA w' b q x2 x3 g o y0 y1 h) (hb : h ≠ b) (hg : h ≠ g) (u v : Value) : MvA ((w'.setCell ⟨h, o, none⟩ u).setCell ⟨h, o + 1, none⟩ v) b q x2 x3 g o y0 y1 h := by
  have hn : ∀ (W : World) (p q c : Nat) (x : Value), h ≠ c → (W.setCell ⟨h, p, none⟩ x).cell? ⟨c, q, none⟩ = W.cell? ⟨c, q, none⟩ := fun W p q c x hc => World.cell?_setCell_other W _ _ x (fun e => hc (by cases e; rfl))
  exact ⟨by rw [hn _ _ _ _ _ hb, hn _ _ _ _ _ hb]; exact H.1, by rw [hn _ _ _ _ _ hb, hn _ _ _ _ _ hb]; exact H.2.1, ⟨by rw [hn _ _ _ _ _ hg, hn _ _ _ _ _ hg]; exact H.2.2.1.1, by rw [hn _ _ _ _ _ hg, hn _ _ _ _ _ hg]; exact H.2.2.1.2⟩, (H.2.2.2.1.set _).set _, (H.2.2.2.2.set _).set _⟩
def FellA (b q B : Nat) (d : DZ) (kv nv : Value) (w : World) (e : Ending) (w' : World) : Prop := e = .returned (.tuple #[]) ∧ DAt w' b q B d kv nv ∧ Only (Two2 kv nv) w w'
set_option maxHeartbeats 2000000 in
theorem l3FallAt_any (b q B : Nat) (d : DZ) (kv nv : Value) (s : Int) (w : World) (h : DAt w b q B d kv nv) (hs : 0 ≤ s) (_ : s ≤ 65535) (hl : d.k.length = d.m.length) (hl2 : d.m.length ≤ 16) :
    Calls Tryz.prog 87 #[.pointer (some ⟨b, q, none⟩), .int .i64 s] w (FellA b q B (d.fall s) kv nv w) := by
  go_enter Tryz.func87, Tryz.ntmps87
  go_wp2
  go_loopw [4] (fun i wr => ∃ k : Nat, k ≤ d.m.length ∧ i = .int .i64 k ∧ DAt wr b q B { d with k := mixL s d.k d.m d.k k, m := mixL s d.k d.m d.m k } kv nv ∧ Only (Two2 kv nv) w wr) (fun i _ => d.m.length - (intOf i).toNat)
  case atStart => exact ⟨0, Nat.zero_le _, rfl, by simpa [mixL] using h, Only.refl _ _⟩
  case round =>
    obtain ⟨k, hk, rfl, D, O⟩ := hrel
    obtain ⟨na, nm, nc, rfl⟩ := D.ns.sl
    have hnm := D.ns.bound.1
    dsimp only at hnm
    rw [mixL_length _ _ _ _ _ rfl hk] at hnm
    subst hnm
    obtain ⟨c3, f3⟩ := D.c3
    by_cases hlt : k < d.m.length
    · obtain ⟨ka, km, kc, rfl⟩ := D.ks.sl
      have hkm := D.ks.bound.1
      dsimp only at hkm
      rw [mixL_length _ _ _ _ _ hl hk] at hkm
      subst hkm
      obtain ⟨c2, f2⟩ := D.c2
      have hlk : k < d.k.length := by omega
      obtain ⟨gn, rfl, _, _, n0, n1⟩ := D.ns.at k (by dsimp only; rw [mixL_length _ _ _ _ _ rfl hk]; exact hlt)
      obtain ⟨gk', rfl, _, _, k0, k1⟩ := D.ks.at k (by dsimp only; rw [mixL_length _ _ _ _ _ hl hk]; exact hlt)
      have hNg := mixL_get s d.k d.m d.m k rfl hlt
      have hKg := mixL_get s d.k d.m d.k k hl hlt
      dsimp only at n0 n1 k0 k1
      rw [hNg] at n0 n1
      rw [hKg] at k0 k1
      have hfg := fallL_get s d.k d.m k hlt
      have hmk : d.m.getD k (0, 0) = d.m[k] := by simp [List.getD_eq_getElem?_getD, hlt]
      have hkk : d.k.getD k (0, 0) = d.k[k]'hlk := by simp [List.getD_eq_getElem?_getD, hlk]
      have hkn : gk' ≠ gn := fun e => (D.ap.ne (g := gn) rfl) (by rw [e]; rfl)
      have hkb : gk' ≠ b := fun e => D.kb (by rw [e]; rfl)
      have hnb : gn ≠ b := fun e => D.nb (by rw [e]; rfl)
      have hi1 : (k : Int) < d.m.length := by omega
      have hbt : ((s / 2 ^ k).tmod 2 == 1) = bitOf s k := by
        unfold bitOf; rw [Int.tmod_eq_emod_of_nonneg (Int.ediv_nonneg hs (by exact_mod_cast Nat.zero_le (2 ^ k)))]
      clear hNg hKg
      cases hbit : bitOf s k
      · rw [hbit] at hbt hfg
        rw [if_neg (by simp), hkk] at hfg
        have hSame := mixL_same s d.k d.m d.k k hl hlt hfg
        have hSet := mixL_set s d.k d.m d.m k rfl hlt
        rw [hfg] at hSet
        have D2 := D.setN k (by dsimp only; rw [mixL_length _ _ _ _ _ rfl hk]; exact hlt) (d.k[k]'hlk).1 (d.k[k]'hlk).2
        dsimp only at D2
        rw [hSet, ← hSame] at D2
        have S0 : MvA wr b q (.slice (some ⟨gk', 0, none⟩) d.m.length kc) (.slice (some ⟨gn, 0, none⟩) d.m.length nc) gk' (k * 2) _ _ gn := ⟨c2, c3, ⟨k0.1, k1.1⟩, n0.live, n1.live⟩
        have HD := Lib.hid D2
        clear hSet hSame hfg hmk hkk k0 k1 n0 n1 c2 f2 D2
        go_wp2_with fail
        go_region_held3 (fun w' => MvA w' b q (.slice (some ⟨gk', 0, none⟩) d.m.length kc) (.slice (some ⟨gn, 0, none⟩) d.m.length nc) gk' (k * 2) (.int .i64 (d.k[k]'hlk).1) (.int .i64 (d.k[k]'hlk).2) gn) (first | assumption | exact S0.drew | exact MvA.set ‹MvA _ b q _ _ gk' (k * 2) _ _ gn› hnb hkn.symm _ _) (fail)
        go_wp2_with fail
        go_roundw
        case rel => exact ⟨k + 1, by omega, by go_num, HD.out.kept (gdrew (grefl _) 1), O.trans (Only.of (gdrew (gset2 wr gn _ _ _ _) 1) (fun j e => .inr e))⟩
        case measure => simp [intOf]; omega
      · rw [hbit] at hbt hfg
        rw [if_pos rfl, hmk] at hfg
        have hSame := mixL_same s d.k d.m d.m k rfl hlt hfg
        have hSet := mixL_set s d.k d.m d.k k hl hlt
        rw [hfg] at hSet
        have D2 := D.setK k (by dsimp only; rw [mixL_length _ _ _ _ _ hl hk]; exact hlt) d.m[k].1 d.m[k].2
        dsimp only at D2
        rw [hSet, ← hSame] at D2
        have S0 : MvA wr b q (.slice (some ⟨gk', 0, none⟩) d.m.length kc) (.slice (some ⟨gn, 0, none⟩) d.m.length nc) gn (k * 2) _ _ gk' := ⟨c2, c3, ⟨n0.1, n1.1⟩, k0.live, k1.live⟩
        have HD := Lib.hid D2
        clear hSet hSame hfg hmk hkk k0 k1 n0 n1 c2 f2 D2
        go_wp2_with fail
        go_region_held3 (fun w' => MvA w' b q (.slice (some ⟨gk', 0, none⟩) d.m.length kc) (.slice (some ⟨gn, 0, none⟩) d.m.length nc) gn (k * 2) (.int .i64 d.m[k].1) (.int .i64 d.m[k].2) gk') (first | assumption | exact S0.drew | exact MvA.set ‹MvA _ b q _ _ gn (k * 2) _ _ gk'› hkb hkn _ _) (fail)
        go_wp2_with fail
        go_roundw
        case rel => exact ⟨k + 1, by omega, by go_num, HD.out.kept (gdrew (grefl _) 1), O.trans (Only.of (gdrew (gset2 wr gk' _ _ _ _) 1) (fun j e => .inl e))⟩
        case measure => simp [intOf]; omega
    · obtain rfl : k = d.m.length := by omega
      have hf := fallL_length s d.k d.m
      have h1 : mixL s d.k d.m d.k d.m.length = fallL s d.k d.m := by unfold mixL; rw [List.take_of_length_le (by omega), List.drop_of_length_le (by omega), List.append_nil]
      have h2 : mixL s d.k d.m d.m d.m.length = fallL s d.k d.m := by unfold mixL; rw [List.take_of_length_le (by omega), List.drop_of_length_le (by omega), List.append_nil]
      rw [h1, h2] at D
      clear h1 h2 hf
      go_wp2_with fail
      go_end0
      exact ⟨rfl, D, O⟩
end Go.Proofs.YtfodjokcobljmaaGreat
