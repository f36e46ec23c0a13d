/- The drawn arguments of chapter 3: disks. -/
import Derived.Test.YteialkknddpbjaaGreatDoorPH01
import Derived.Test.YteialkknddpbjaaGreatDoorPH10
import Derived.Test.YteialkknddpbjaaGreatDoorPH60
namespace Go.Proofs.YteialkknddpbjaaGreatDoor
open Go.ChangeShapes Go.WideShapes Go.ChangeAt Go.RowKit

/-- the drawing of a disk, on the way -/
structure DrS (w wr : World) (c b : Nat) (d : DZ) (kv nv : Value) : Prop where
  box : DBox wr b (w.heap.size + 1) d kv nv
  zero : Zero4 wr w.heap.size
  cur : Cur wr c
  grew : w.grownBy wr (some c)
  hc : c < w.heap.size
  hb : w.heap.size < b
section
variable {w wr w2 : World} {c b : Nat} {d d' : DZ} {kv nv kv' nv' : Value}
/-- a step that writes only blocks behind the result variable -/
theorem DrS.step {r : Option Nat} (h : DrS w wr c b d kv nv) (D : DBox w2 b (w.heap.size + 1) d' kv' nv') (g : wr.grownBy w2 r) (hr : ∀ k, r = some k → w.heap.size < k) : DrS w w2 c b d' kv' nv' :=
  ⟨D, h.zero.kept g (fun e => by have := hr _ e; omega), h.cur.above g.size (fun k hk => g.block k (by have := h.cur.lt; omega) (fun e => by have := hr k e.symm; have := h.hc; omega)), gstep h.grew g (fun j e => by have := hr j e; omega), h.hc, h.hb⟩
theorem DrS.kept (h : DrS w wr c b d kv nv) (g : wr.grownBy w2 none) : DrS w w2 c b d kv nv := h.step (h.box.kept g) g (by simp)
/-- a draw -/
theorem DrS.draw (h : DrS w wr c b d kv nv) (g : wr.grownBy w2 (some c)) (hc : Cur w2 c) : DrS w w2 c b d kv nv := by
  have h1 := h.hc
  have h2 := h.hb
  have hk : kv.ownBlock ≠ some c := fun e => by have := (h.box.ks.lt c e).1; omega
  have hn : nv.ownBlock ≠ some c := fun e => by have := (h.box.ns.lt c e).1; omega
  have hb : (some c : Option Nat) ≠ some b := by simp; omega
  exact ⟨⟨gkr g hb h.box.c0, gkr g hb h.box.c1, gkr g hb h.box.c2, gkr g hb h.box.c3, h.box.ks.kept g (.inr hk), h.box.ns.kept g (.inr hn), h.box.ap, h.box.kb, h.box.nb⟩, h.zero.kept g (by simp; omega), hc, gtrans h.grew g, h1, h2⟩
theorem DrS.own (h : DrS w wr c b d kv nv) : ∀ k, nv.ownBlock = some k → w.heap.size < k := fun k e => by have := (h.box.ns.lt k e).1; omega
end
/-- a drawn disk -/
def DrawnD (c : Nat) (w : World) (e : Ending) (w' : World) : Prop :=
  ∃ (d : DZ) (kv nv : Value), e = .returned (.agg #[.int .i64 d.n, .bool d.dead, kv, nv]) ∧ IsD w' w.heap.size kv nv d ∧ Apart kv nv ∧ d.k.length ≤ 6 ∧ d.m.length ≤ 6 ∧ Cur w' c ∧ w.grownBy w' (some c)
theorem put_lenD (d : DZ) (p v : Int) : (d.put p v).m.length = d.m.length ∧ (d.put p v).k = d.k := by unfold DZ.put; split <;> simp
theorem died_len (d : DZ) : d.died.k.length = 0 ∧ d.died.m.length = 0 := by unfold DZ.died; split <;> simp [DZ.zero]
theorem gset4o (w : World) (b : Nat) (x0 x1 x2 x3 : Value) : w.grownBy (set4 w b x0 x1 x2 x3) (some b) := gset (gset (gset (gset (World.grownBy.refl w _) _ _) _ _) _ _) _ _
/-- the whole variable is replaced -/
theorem DBox.whole {w : World} {b B : Nat} {d d' : DZ} {kv nv kv' nv' : Value} (h : DBox w b B d kv nv) (hk : CS w B kv' d'.k) (hn : CS w B nv' d'.m) (ap : Apart kv' nv') (kb : kv'.ownBlock ≠ some b) (nb : nv'.ownBlock ≠ some b) :
    DBox (set4 w b (.int .i64 d'.n) (.bool d'.dead) kv' nv') b B d' kv' nv' :=
  ⟨(((h.c0.same _).other (by simp) _).other (by simp) _).other (by simp) _, (((h.c1.other (by simp) _).same _).other (by simp) _).other (by simp) _, (((h.c2.other (by simp) _).other (by simp) _).same _).other (by simp) _, (((h.c3.other (by simp) _).other (by simp) _).other (by simp) _).same _,
    hk.set4 kb _ _ _ _, hn.set4 nb _ _ _ _, ap, kb, nb⟩
theorem DBox.num {w : World} {b B : Nat} {d : DZ} {kv nv : Value} (h : DBox w b B d kv nv) (u : Int) : DBox (w.setCell ⟨b, 0, none⟩ (.int .i64 u)) b B { d with n := u } kv nv :=
  ⟨h.c0.same _, h.c1.other (by simp) _, h.c2.other (by simp) _, h.c3.other (by simp) _, h.ks.other h.kb _, h.ns.other h.nb _, h.ap, h.kb, h.nb⟩
theorem DBox.dead {w : World} {b B : Nat} {d : DZ} {kv nv : Value} (h : DBox w b B d kv nv) (u : Bool) : DBox (w.setCell ⟨b, 1, none⟩ (.bool u)) b B { d with dead := u } kv nv :=
  ⟨h.c0.other (by simp) _, h.c1.same _, h.c2.other (by simp) _, h.c3.other (by simp) _, h.ks.other h.kb _, h.ns.other h.nb _, h.ap, h.kb, h.nb⟩
theorem DrS.app3 {w wr w2 : World} {c b : Nat} {d : DZ} {kv nv v : Value} {m : List (Int × Int)} (h : DrS w wr c b d kv nv) (g : wr.grownBy w2 nv.ownBlock) (hv : CS w2 (w.heap.size + 1) v (d.m ++ m)) (hat : v.ownBlock = nv.ownBlock ∨ v.ownBlock = some wr.heap.size) :
    DrS w (w2.setCell ⟨b, 3, none⟩ v) c b { d with m := d.m ++ m } kv v := by
  have h1 := h.hc
  have h2 := h.hb
  have ho := h.own
  exact ⟨h.box.app3 g hv hat, (h.zero.kept g (fun e => by have := ho _ e; omega)).other (by omega) _, (h.cur.above g.size (fun k hk => g.block k (by have := h.cur.lt; omega) (fun e => by have := ho k e.symm; omega))).set (by omega) _ _,
    gset1 (gstep h.grew g (fun j e => by have := ho j e; omega)) (by omega) _ _, h1, h2⟩
/-- the drawn disk is handed back -/
theorem DrS.fin {w wr : World} {c b : Nat} {d : DZ} {kv nv : Value} (h : DrS w wr c b d kv nv) (x0 x1 x2 x3 : Value) :
    IsD (set4 wr w.heap.size x0 x1 x2 x3) w.heap.size kv nv d ∧ Apart kv nv ∧ Cur (set4 wr w.heap.size x0 x1 x2 x3) c ∧ w.grownBy (set4 wr w.heap.size x0 x1 x2 x3) (some c) :=
  ⟨⟨(h.box.ks.lower (by omega)).set4 (not_own h.box.ks (by omega)) _ _ _ _, (h.box.ns.lower (by omega)).set4 (not_own h.box.ns (by omega)) _ _ _ _⟩, h.box.ap,
    (((h.cur.set h.hc _ _).set h.hc _ _).set h.hc _ _).set h.hc _ _, gset1 (gset1 (gset1 (gset1 h.grew (Nat.le_refl _) _ _) (Nat.le_refl _) _ _) (Nat.le_refl _) _ _) (Nat.le_refl _) _ _⟩
set_option maxHeartbeats 8000000 in
theorem l3Draw_any (c : Nat) (w : World) (hc : Cur w c) :
    Calls Tryz.prog 213 #[.pointer (some ⟨c, 0, none⟩)] w (DrawnD c w) := by
  have hlt := hc.lt
  have hc0 := hc.alloc (.cells #[.int .i64 0, .bool false, .slice none 0 0, .slice none 0 0] 37)
  have Z0 : Zero4 (w.alloc (.cells #[.int .i64 0, .bool false, .slice none 0 0, .slice none 0 0] 37)) w.heap.size := ⟨by simp [At, go_sem], by simp [At, go_sem], by simp [At, go_sem], by simp [At, go_sem]⟩
  have g0 : w.grownBy (w.alloc (.cells #[.int .i64 0, .bool false, .slice none 0 0, .slice none 0 0] 37)) (some c) := galloc (World.grownBy.refl w _) _
  have hne : (some c : Option Nat) ≠ some w.heap.size := by simp; omega
  go_enter Tryz.func213, Tryz.ntmps213
  go_wp2_with fail
  refine (l1Below_any c _ _ hc0 (by omega)).mono ?_
  rintro e w1 ⟨n, ⟨hn0, hn1⟩, rfl, hc1, g1⟩
  have Z1 := Z0.kept g1 hne
  have G1 := gtrans g0 g1
  clear Z0 hc0 g0
  go_wp2_with fail
  refine (l1Below_any c _ _ hc1 (by omega)).mono ?_
  rintro e w2 ⟨q, ⟨hq0, hq1⟩, rfl, hc2, g2⟩
  have Z2 := Z1.kept g2 hne
  have G2 := gtrans G1 g2
  have hsz : w.heap.size < w2.heap.size := cell_lt Z2.c0.1
  clear Z1 hc1 G1 g1 g2
  obtain ⟨q, rfl⟩ := Int.eq_ofNat_of_zero_le hq0
  go_wp2_with fail
  have hq : (1 + (q : Int)) = ((q + 1 : Nat) : Int) := by omega
  rw [hq]
  refine (l3New_any n (q + 1) _ (by omega)).mono ?_
  rintro e w3 ⟨kv, nv, rfl, hd, ap, g3⟩
  have e3 := galloc g3 (.cells #[.int .i64 n, .bool false, kv, nv] 37)
  have D3 := DBox.boxed hd ap 37
  have s3 := g3.size
  have R3 : DrS w _ c _ _ _ _ := ⟨⟨D3.c0, D3.c1, D3.c2, D3.c3, D3.ks.lower (by omega), D3.ns.lower (by omega), D3.ap, D3.kb, D3.nb⟩, Z2.kept e3 (by simp), hc2.grew e3, gtrans G2 (gweak e3 _), hlt, by omega⟩
  clear D3 Z2 G2 hc2 e3 g3 hq
  obtain ⟨ka, km, kc, rfl⟩ := hd.1.sl
  obtain ⟨na, nm, nc, rfl⟩ := hd.2.sl
  clear hd ap
  go_upto_region 2 with (fail)
  generalize w3.alloc (.cells #[.int .i64 n, .bool false, .slice ka km kc, .slice na nm nc] 37) = W3 at *
  generalize w3.heap.size = b at *
  go_wp2_with fail
  refine (l1Below_any c _ _ R3.cur (by omega)).mono ?_
  rintro e w4 ⟨t, ⟨ht0, ht1⟩, rfl, hc4, g4⟩
  have R4 := R3.draw g4 hc4
  clear R3 g4 hc4
  obtain ⟨t, rfl⟩ := Int.eq_ofNat_of_zero_le ht0
  have hL : Hid ((newL n (q + 1)).length = q + 1) := newL_length n (q + 1)
  go_wp2_with fail
  go_loopw [4] (fun i wr => ∃ (k : Nat) (d : DZ) (kv nv : Value), k ≤ t ∧ i = .int .i64 k ∧ 1 ≤ d.m.length ∧ d.m.length ≤ 5 ∧ d.k.length ≤ 5 ∧ DrS w wr c b d kv nv) (fun i _ => (intOf i).toNat)
  case atStart => exact ⟨t, _, _, _, Nat.le_refl _, rfl, by rw [show (newL n (q + 1)).length = q + 1 from hL.out]; omega, by rw [show (newL n (q + 1)).length = q + 1 from hL.out]; omega, by rw [show (newL n (q + 1)).length = q + 1 from hL.out]; omega, R4⟩
  case round =>
    obtain ⟨k, d, kv, nv, hk, rfl, hd1, hd2, hd3, R⟩ := hrel
    by_cases hpos : 0 < k
    · have hpi : (0 : Int) < k := by omega
      go_wp2_with fail
      refine (l1Below_any c _ _ R.cur (by omega)).mono ?_
      rintro e w5 ⟨p, ⟨hp0, hp1⟩, rfl, hc5, g5⟩
      have R5 := R.draw g5 hc5
      clear R g5 hc5
      go_wp2_with fail
      refine (l1Below_any c _ _ R5.cur (by omega)).mono ?_
      rintro e w6 ⟨v, ⟨hv0, hv1⟩, rfl, hc6, g6⟩
      have R6 := R5.draw g6 hc6
      clear R5 g6 hc6
      go_wp2_with fail
      refine (l3Write_any b _ d kv nv p v _ R6.box).mono ?_
      rintro e w7 ⟨rfl, D7, g7⟩
      have R7 := R6.step D7 g7 R6.own
      have hl7 := put_lenD d p v
      have L1 : 1 ≤ (d.put p v).m.length := by omega
      have L2 : (d.put p v).m.length ≤ 5 := by omega
      have L3 : (d.put p v).k.length ≤ 5 := by rw [hl7.2]; exact hd3
      clear R6 D7 g7 hl7 hd1 hd2 hd3 hp0 hp1
      generalize d.put p v = d at *
      go_wp2_with fail
      refine (l1Once_any c _ _ R7.cur (by omega)).mono ?_
      rintro e w8 ⟨b1, rfl, hc8, g8⟩
      have R8 := R7.draw g8 hc8
      clear R7 g8 hc8
      cases b1
      · have RX := R8
        clear R8
        go_wp2_with fail
        refine (l1Once_any c _ _ RX.cur (by omega)).mono ?_
        rintro e w9 ⟨b2, rfl, hc9, g9⟩
        have RZ := RX.draw g9 hc9
        clear RX g9 hc9
        cases b2
        · go_wp2_with fail
          go_roundw
          case rel => exact ⟨k - 1, d, _, _, by omega, by rw [show ((k - 1 : Nat) : Int) = (k : Int) - 1 by omega], L1, L2, L3, RZ⟩
          case measure => simp [intOf]; omega
        · obtain ⟨na, nm, nc, hnv⟩ := RZ.box.ns.sl
          subst hnv
          have hnm := RZ.box.ns.bound.1
          obtain ⟨c3, f3⟩ := RZ.box.c3
          go_wp2_with fail
          have hnmb : 1 ≤ nm ∧ nm ≤ 5 := by omega
          refine (l1Below_any c _ _ RZ.cur (by omega)).mono ?_
          rintro e w10 ⟨p, ⟨hp0, hp1⟩, rfl, hc10, g10⟩
          have RY := RZ.draw g10 hc10
          clear RZ g10 hc10 c3 f3
          obtain ⟨p, rfl⟩ := Int.eq_ofNat_of_zero_le hp0
          obtain ⟨g, rfl, hgB, hgl, t0, t1⟩ := RY.box.ns.at p (by omega)
          have RQ := Lib.hid RY
          obtain ⟨c3, f3⟩ := RY.box.c3
          obtain ⟨u0, v0⟩ := t0
          obtain ⟨u1, v1⟩ := t1
          have hi1 : (p : Int) < nm := by omega
          have hplt : p < d.m.length := by omega
          have hgb : g ≠ b := fun e => RY.box.nb (by rw [e]; rfl)
          generalize hx0 : d.m[p].1 = x0 at *
          generalize hx1 : d.m[p].2 = x1 at *
          clear hx0 hx1 hnm RY
          go_wp2_with fail
          go_region_with (first | (go_at_call 105; refine (l1Below_any c _ _ (DrS.cur (DrS.kept RQ.out (gdrew (grefl _) 1))) (by omega)).mono ?_; rintro e w11 ⟨y, ⟨hy0, hy1⟩, rfl, hc11, g11⟩; have RW := DrS.draw (DrS.kept RQ.out (gdrew (grefl _) 1)) g11 hc11; have RV := Lib.hid RW; obtain ⟨d3, h3⟩ := RW.box.c3; obtain ⟨u0', v0'⟩ := gk1 g11 (b := g) (by have := RW.hc; have := RW.hb; omega) ⟨u0, v0⟩; obtain ⟨u1', v1'⟩ := gk1 g11 (b := g) (by have := RW.hc; have := RW.hb; omega) ⟨u1, v1⟩; clear RW) | (go_at_call 155; refine (specRotten_any _ _ _ _).mono ?_; rintro e w12 ⟨rfl, g12⟩; obtain ⟨u0'', v0''⟩ := gk g12 ⟨u0', v0'⟩; obtain ⟨u1'', v1''⟩ := gk g12 ⟨u1', v1'⟩; obtain ⟨d3', h3'⟩ := gk g12 ⟨d3, h3⟩))
          all_goals
            have RP := RV.out.kept g12
            have RZ := RP.step (RP.box.setN p hplt (rotV x0 x1 (1 + y)) (rotS x0 x1)) (gset2 w12 g _ _ _ _) (fun j e => by have := RP.own j e; omega)
            have L1' : 1 ≤ (d.m.set p (rotV x0 x1 (1 + y), rotS x0 x1)).length := by rw [List.length_set]; exact L1
            have L2' : (d.m.set p (rotV x0 x1 (1 + y), rotS x0 x1)).length ≤ 5 := by rw [List.length_set]; exact L2
            go_wp2_with fail
            go_roundw
            case rel => exact ⟨k - 1, { d with m := d.m.set p (rotV x0 x1 (1 + y), rotS x0 x1) }, _, _, by omega, by rw [show ((k - 1 : Nat) : Int) = (k : Int) - 1 by omega], L1', L2', L3, RZ⟩
            case measure => simp [intOf]; omega
      · go_wp2_with fail
        refine (l3Flush_any b _ d kv nv _ R8.box (by have := R8.box.lt; have := R8.hb; omega) (by omega)).mono ?_
        rintro e w8' ⟨kv8, rfl, D8, g8⟩
        have RX := R8.step D8 g8 (fun j e => by cases e; exact R8.hb)
        have L4 : 1 ≤ ({ d with k := d.m } : DZ).m.length := L1
        have L5 : ({ d with k := d.m } : DZ).m.length ≤ 5 := L2
        have L6 : ({ d with k := d.m } : DZ).k.length ≤ 5 := L2
        clear R8 D8 g8 L1 L2 L3
        generalize ({ d with k := d.m } : DZ) = d2 at *
        have L1 := L4
        have L2 := L5
        have L3 := L6
        clear L4 L5 L6
        go_wp2_with fail
        refine (l1Once_any c _ _ RX.cur (by omega)).mono ?_
        rintro e w9 ⟨b2, rfl, hc9, g9⟩
        have RZ := RX.draw g9 hc9
        clear RX g9 hc9
        cases b2
        · go_wp2_with fail
          go_roundw
          case rel => exact ⟨k - 1, d2, _, _, by omega, by rw [show ((k - 1 : Nat) : Int) = (k : Int) - 1 by omega], L1, L2, L3, RZ⟩
          case measure => simp [intOf]; omega
        · obtain ⟨na, nm, nc, hnv⟩ := RZ.box.ns.sl
          subst hnv
          have hnm := RZ.box.ns.bound.1
          obtain ⟨c3, f3⟩ := RZ.box.c3
          go_wp2_with fail
          have hnmb : 1 ≤ nm ∧ nm ≤ 5 := by omega
          refine (l1Below_any c _ _ RZ.cur (by omega)).mono ?_
          rintro e w10 ⟨p, ⟨hp0, hp1⟩, rfl, hc10, g10⟩
          have RY := RZ.draw g10 hc10
          clear RZ g10 hc10 c3 f3
          obtain ⟨p, rfl⟩ := Int.eq_ofNat_of_zero_le hp0
          obtain ⟨g, rfl, hgB, hgl, t0, t1⟩ := RY.box.ns.at p (by omega)
          have RQ := Lib.hid RY
          obtain ⟨c3, f3⟩ := RY.box.c3
          obtain ⟨u0, v0⟩ := t0
          obtain ⟨u1, v1⟩ := t1
          have hi1 : (p : Int) < nm := by omega
          have hplt : p < d2.m.length := by omega
          have hgb : g ≠ b := fun e => RY.box.nb (by rw [e]; rfl)
          generalize hx0 : d2.m[p].1 = x0 at *
          generalize hx1 : d2.m[p].2 = x1 at *
          clear hx0 hx1 hnm RY
          go_wp2_with fail
          go_region_with (first | (go_at_call 105; refine (l1Below_any c _ _ (DrS.cur (DrS.kept RQ.out (gdrew (grefl _) 1))) (by omega)).mono ?_; rintro e w11 ⟨y, ⟨hy0, hy1⟩, rfl, hc11, g11⟩; have RW := DrS.draw (DrS.kept RQ.out (gdrew (grefl _) 1)) g11 hc11; have RV := Lib.hid RW; obtain ⟨d3, h3⟩ := RW.box.c3; obtain ⟨u0', v0'⟩ := gk1 g11 (b := g) (by have := RW.hc; have := RW.hb; omega) ⟨u0, v0⟩; obtain ⟨u1', v1'⟩ := gk1 g11 (b := g) (by have := RW.hc; have := RW.hb; omega) ⟨u1, v1⟩; clear RW) | (go_at_call 155; refine (specRotten_any _ _ _ _).mono ?_; rintro e w12 ⟨rfl, g12⟩; obtain ⟨u0'', v0''⟩ := gk g12 ⟨u0', v0'⟩; obtain ⟨u1'', v1''⟩ := gk g12 ⟨u1', v1'⟩; obtain ⟨d3', h3'⟩ := gk g12 ⟨d3, h3⟩))
          all_goals
            have RP := RV.out.kept g12
            have RZ := RP.step (RP.box.setN p hplt (rotV x0 x1 (1 + y)) (rotS x0 x1)) (gset2 w12 g _ _ _ _) (fun j e => by have := RP.own j e; omega)
            have L1' : 1 ≤ (d2.m.set p (rotV x0 x1 (1 + y), rotS x0 x1)).length := by rw [List.length_set]; exact L1
            have L2' : (d2.m.set p (rotV x0 x1 (1 + y), rotS x0 x1)).length ≤ 5 := by rw [List.length_set]; exact L2
            go_wp2_with fail
            go_roundw
            case rel => exact ⟨k - 1, { d2 with m := d2.m.set p (rotV x0 x1 (1 + y), rotS x0 x1) }, _, _, by omega, by rw [show ((k - 1 : Nat) : Int) = (k : Int) - 1 by omega], L1', L2', L3, RZ⟩
            case measure => simp [intOf]; omega
    · obtain rfl : k = 0 := by omega
      have R0 := R
      clear R hk hpos
      have L2 : d.m.length ≤ 5 := by omega
      have L3 : d.k.length ≤ 6 := by omega
      clear hd1 hd2 hd3
      go_wp2_with fail
      refine (l1Once_any c _ _ R0.cur (by omega)).mono ?_
      rintro e w5 ⟨b1, rfl, hc5, g5⟩
      have R5 := R0.draw g5 hc5
      clear R0 g5 hc5
      cases b1
      · have RX := R5
        clear R5
        go_wp2_with fail
        refine (l1Once_any c _ _ RX.cur (by omega)).mono ?_
        rintro e w7 ⟨b2, rfl, hc7, g7⟩
        have R7 := RX.draw g7 hc7
        clear RX g7 hc7
        cases b2
        · have M2 := Nat.le_trans L2 (show 5 ≤ 6 by omega)
          have M3 := L3
          obtain ⟨ka, km, kc, hka⟩ := R7.box.ks.sl
          subst hka
          obtain ⟨na, nm, nc, hna⟩ := R7.box.ns.sl
          subst hna
          have hfin := R7.fin (.int .i64 d.n) (.bool d.dead) (.slice ka km kc) (.slice na nm nc)
          obtain ⟨⟨z0, y0⟩, ⟨z1, y1⟩, ⟨z2, y2⟩, ⟨z3, y3⟩⟩ := R7.zero
          obtain ⟨c0, f0⟩ := R7.box.c0
          obtain ⟨c1, f1⟩ := R7.box.c1
          obtain ⟨c2, f2⟩ := R7.box.c2
          obtain ⟨c3, f3⟩ := R7.box.c3
          clear R7
          (try dsimp only at c0 c1)
          go_wp2_with fail
          exact bodyPost_ret (v := .agg #[.int .i64 d.n, .bool d.dead, .slice ka km kc, .slice na nm nc]) (by simp [results, Tryz.results213, go_sem, z0, z1, z2, z3]) rfl ⟨_, _, _, rfl, hfin.1, hfin.2.1, M3, M2, hfin.2.2⟩
        · go_wp2_with fail
          refine (l1Below_any c _ _ R7.cur (by omega)).mono ?_
          rintro e w8 ⟨x, ⟨hx0, hx1⟩, rfl, hc8, g8⟩
          have R8 := R7.draw g8 hc8
          clear R7 g8 hc8
          rcases (show x = 0 ∨ x = 1 ∨ x = 2 by omega) with rfl | rfl | rfl
          · go_wp2_with fail
            refine (l1DrawDisk_any c _ R8.cur).mono ?_
            rintro e w9 ⟨u, -, rfl, hc9, g9⟩
            have R9 := R8.draw g9 hc9
            clear R8 g9 hc9
            have RA := R9.step (R9.box.num u) (gset (World.grownBy.refl w9 _) _ _) (fun j e => by cases e; exact R9.hb)
            obtain ⟨c0, f0⟩ := R9.box.c0
            clear R9
            go_upto_region 21 with (fail)
            generalize w9.setCell ⟨b, 0, none⟩ (.int .i64 u) = W9 at *
            clear c0 f0
            have M2 := Nat.le_trans L2 (show 5 ≤ 6 by omega)
            have M3 := L3
            obtain ⟨ka, km, kc, hka⟩ := RA.box.ks.sl
            subst hka
            obtain ⟨na, nm, nc, hna⟩ := RA.box.ns.sl
            subst hna
            have hfin := RA.fin (.int .i64 ({ d with n := u } : DZ).n) (.bool ({ d with n := u } : DZ).dead) (.slice ka km kc) (.slice na nm nc)
            obtain ⟨⟨z0, y0⟩, ⟨z1, y1⟩, ⟨z2, y2⟩, ⟨z3, y3⟩⟩ := RA.zero
            obtain ⟨c0, f0⟩ := RA.box.c0
            obtain ⟨c1, f1⟩ := RA.box.c1
            obtain ⟨c2, f2⟩ := RA.box.c2
            obtain ⟨c3, f3⟩ := RA.box.c3
            clear RA
            (try dsimp only at c0 c1)
            go_wp2_with fail
            exact bodyPost_ret (v := .agg #[.int .i64 ({ d with n := u } : DZ).n, .bool ({ d with n := u } : DZ).dead, .slice ka km kc, .slice na nm nc]) (by simp [results, Tryz.results213, go_sem, z0, z1, z2, z3]) rfl ⟨_, _, _, rfl, hfin.1, hfin.2.1, M3, M2, hfin.2.2⟩
          · obtain ⟨c3, f3⟩ := R8.box.c3
            go_wp2_with fail
            go_region_law (first | (go_simp; go_at_call 262; refine (l2Draw_any c _ (R8.kept (gdrew (grefl _) 1)).cur).mono ?_; rintro e w9 ⟨x', y', -, -, rfl, hc9, g9⟩; have R9 := (R8.kept (gdrew (grefl _) 1)).draw g9 hc9; obtain ⟨d3, h3⟩ := R9.box.c3; have hq := R9.box.lt) | (refine step_append_o (E := cellE) rfl (.tmp 62) (.tmp 65) rfl rfl rfl (DrS.box (DrS.kept R9 (galloc (grefl _) _))).ns (CS.single _ _ _ (Nat.zero_le _)) (by simp; omega) (by decide) (by have := R9.box.lt; have := R9.hb; simp; omega) ?_; intro v' wa hown hga hat; have RP := DrS.kept R9 (galloc (grefl w9) (.cells #[.int .i64 x', .int .i64 y'] 59)); have RA := RP.app3 hga hown hat; obtain ⟨c4, f4⟩ := gkr hga RP.box.nb RP.box.c3; obtain ⟨a4, m4, q4, rfl⟩ := hown.sl))
            all_goals
              clear c3 f3 d3 h3 hq c4 f4 RP R9 hga hat hown
              have M2 : (d.m ++ [(x', y')]).length ≤ 6 := by simp; omega
              have M3 := L3
              go_upto_region 21 with (fail)
              generalize wa.setCell ⟨b, 3, none⟩ (.slice a4 m4 q4) = W9 at *
              generalize Value.slice a4 m4 q4 = nv4 at *
              obtain ⟨ka, km, kc, hka⟩ := RA.box.ks.sl
              subst hka
              obtain ⟨na, nm, nc, hna⟩ := RA.box.ns.sl
              subst hna
              have hfin := RA.fin (.int .i64 d.n) (.bool d.dead) (.slice ka km kc) (.slice na nm nc)
              obtain ⟨⟨z0, y0⟩, ⟨z1, y1⟩, ⟨z2, y2⟩, ⟨z3, y3⟩⟩ := RA.zero
              obtain ⟨c0, f0⟩ := RA.box.c0
              obtain ⟨c1, f1⟩ := RA.box.c1
              obtain ⟨c2, f2⟩ := RA.box.c2
              obtain ⟨c3, f3⟩ := RA.box.c3
              clear RA
              (try dsimp only at c0 c1)
              go_wp2_with fail
              exact bodyPost_ret (v := .agg #[.int .i64 d.n, .bool d.dead, .slice ka km kc, .slice na nm nc]) (by simp [results, Tryz.results213, go_sem, z0, z1, z2, z3]) rfl ⟨{ d with m := d.m ++ [(x', y')] }, _, _, rfl, hfin.1, hfin.2.1, M3, M2, hfin.2.2⟩
          · have RA := R8.step (R8.box.dead (!d.dead)) (gset (World.grownBy.refl w8 _) _ _) (fun j e => by cases e; exact R8.hb)
            obtain ⟨c1, f1⟩ := R8.box.c1
            clear R8
            go_upto_region 21 with (fail)
            generalize w8.setCell ⟨b, 1, none⟩ (.bool (!d.dead)) = W9 at *
            clear c1 f1
            have M2 := Nat.le_trans L2 (show 5 ≤ 6 by omega)
            have M3 := L3
            obtain ⟨ka, km, kc, hka⟩ := RA.box.ks.sl
            subst hka
            obtain ⟨na, nm, nc, hna⟩ := RA.box.ns.sl
            subst hna
            have hfin := RA.fin (.int .i64 ({ d with dead := !d.dead } : DZ).n) (.bool ({ d with dead := !d.dead } : DZ).dead) (.slice ka km kc) (.slice na nm nc)
            obtain ⟨⟨z0, y0⟩, ⟨z1, y1⟩, ⟨z2, y2⟩, ⟨z3, y3⟩⟩ := RA.zero
            obtain ⟨c0, f0⟩ := RA.box.c0
            obtain ⟨c1, f1⟩ := RA.box.c1
            obtain ⟨c2, f2⟩ := RA.box.c2
            obtain ⟨c3, f3⟩ := RA.box.c3
            clear RA
            (try dsimp only at c0 c1)
            go_wp2_with fail
            exact bodyPost_ret (v := .agg #[.int .i64 ({ d with dead := !d.dead } : DZ).n, .bool ({ d with dead := !d.dead } : DZ).dead, .slice ka km kc, .slice na nm nc]) (by simp [results, Tryz.results213, go_sem, z0, z1, z2, z3]) rfl ⟨_, _, _, rfl, hfin.1, hfin.2.1, M3, M2, hfin.2.2⟩
      · obtain ⟨c0, f0⟩ := R5.box.c0
        obtain ⟨c1, f1⟩ := R5.box.c1
        obtain ⟨c2, f2⟩ := R5.box.c2
        obtain ⟨c3, f3⟩ := R5.box.c3
        go_wp2_with fail
        refine (specDied_any _ _ d _ R5.box.isD).mono ?_
        rintro e w6 ⟨kv6, nv6, rfl, hd6, ap6, g6⟩
        have R6 := R5.kept g6
        have hs6 := R5.box.lt
        have hb6 := R5.hb
        have RX := R6.step (R6.box.whole (hd6.1.lower (by omega)) (hd6.2.lower (by omega)) ap6 (not_own hd6.1 (by omega)) (not_own hd6.2 (by omega))) (gset4o w6 b _ _ _ _) (fun j e => by cases e; exact hb6)
        have hl := died_len d
        have L2 : d.died.m.length ≤ 5 := by omega
        have L3 : d.died.k.length ≤ 6 := by omega
        obtain ⟨ka6, km6, kc6, rfl⟩ := hd6.1.sl
        obtain ⟨na6, nm6, nc6, rfl⟩ := hd6.2.sl
        clear c0 c1 c2 c3 f0 f1 f2 f3 hd6 ap6 hs6 hl R5
        obtain ⟨c0, f0⟩ := R6.box.c0
        obtain ⟨c1, f1⟩ := R6.box.c1
        obtain ⟨c2, f2⟩ := R6.box.c2
        obtain ⟨c3, f3⟩ := R6.box.c3
        clear R6
        unfold set4 at RX
        go_upto_region 13 with (fail)
        generalize (((w6.setCell ⟨b, 0, none⟩ (.int .i64 d.died.n)).setCell ⟨b, 1, none⟩ (.bool d.died.dead)).setCell ⟨b, 2, none⟩ (.slice ka6 km6 kc6)).setCell ⟨b, 3, none⟩ (.slice na6 nm6 nc6) = W6 at *
        generalize Value.slice ka6 km6 kc6 = kv6 at *
        generalize Value.slice na6 nm6 nc6 = nv6 at *
        clear c0 c1 c2 c3 f0 f1 f2 f3
        go_wp2_with fail
        refine (l1Once_any c _ _ RX.cur (by omega)).mono ?_
        rintro e w7 ⟨b2, rfl, hc7, g7⟩
        have R7 := RX.draw g7 hc7
        clear RX g7 hc7
        cases b2
        · have M2 := Nat.le_trans L2 (show 5 ≤ 6 by omega)
          have M3 := L3
          obtain ⟨ka, km, kc, hka⟩ := R7.box.ks.sl
          subst hka
          obtain ⟨na, nm, nc, hna⟩ := R7.box.ns.sl
          subst hna
          have hfin := R7.fin (.int .i64 d.died.n) (.bool d.died.dead) (.slice ka km kc) (.slice na nm nc)
          obtain ⟨⟨z0, y0⟩, ⟨z1, y1⟩, ⟨z2, y2⟩, ⟨z3, y3⟩⟩ := R7.zero
          obtain ⟨c0, f0⟩ := R7.box.c0
          obtain ⟨c1, f1⟩ := R7.box.c1
          obtain ⟨c2, f2⟩ := R7.box.c2
          obtain ⟨c3, f3⟩ := R7.box.c3
          clear R7
          (try dsimp only at c0 c1)
          go_wp2_with fail
          exact bodyPost_ret (v := .agg #[.int .i64 d.died.n, .bool d.died.dead, .slice ka km kc, .slice na nm nc]) (by simp [results, Tryz.results213, go_sem, z0, z1, z2, z3]) rfl ⟨_, _, _, rfl, hfin.1, hfin.2.1, M3, M2, hfin.2.2⟩
        · go_wp2_with fail
          refine (l1Below_any c _ _ R7.cur (by omega)).mono ?_
          rintro e w8 ⟨x, ⟨hx0, hx1⟩, rfl, hc8, g8⟩
          have R8 := R7.draw g8 hc8
          clear R7 g8 hc8
          rcases (show x = 0 ∨ x = 1 ∨ x = 2 by omega) with rfl | rfl | rfl
          · go_wp2_with fail
            refine (l1DrawDisk_any c _ R8.cur).mono ?_
            rintro e w9 ⟨u, -, rfl, hc9, g9⟩
            have R9 := R8.draw g9 hc9
            clear R8 g9 hc9
            have RA := R9.step (R9.box.num u) (gset (World.grownBy.refl w9 _) _ _) (fun j e => by cases e; exact R9.hb)
            obtain ⟨c0, f0⟩ := R9.box.c0
            clear R9
            go_upto_region 21 with (fail)
            generalize w9.setCell ⟨b, 0, none⟩ (.int .i64 u) = W9 at *
            clear c0 f0
            have M2 := Nat.le_trans L2 (show 5 ≤ 6 by omega)
            have M3 := L3
            obtain ⟨ka, km, kc, hka⟩ := RA.box.ks.sl
            subst hka
            obtain ⟨na, nm, nc, hna⟩ := RA.box.ns.sl
            subst hna
            have hfin := RA.fin (.int .i64 ({ d.died with n := u } : DZ).n) (.bool ({ d.died with n := u } : DZ).dead) (.slice ka km kc) (.slice na nm nc)
            obtain ⟨⟨z0, y0⟩, ⟨z1, y1⟩, ⟨z2, y2⟩, ⟨z3, y3⟩⟩ := RA.zero
            obtain ⟨c0, f0⟩ := RA.box.c0
            obtain ⟨c1, f1⟩ := RA.box.c1
            obtain ⟨c2, f2⟩ := RA.box.c2
            obtain ⟨c3, f3⟩ := RA.box.c3
            clear RA
            (try dsimp only at c0 c1)
            go_wp2_with fail
            exact bodyPost_ret (v := .agg #[.int .i64 ({ d.died with n := u } : DZ).n, .bool ({ d.died with n := u } : DZ).dead, .slice ka km kc, .slice na nm nc]) (by simp [results, Tryz.results213, go_sem, z0, z1, z2, z3]) rfl ⟨_, _, _, rfl, hfin.1, hfin.2.1, M3, M2, hfin.2.2⟩
          · obtain ⟨c3, f3⟩ := R8.box.c3
            go_wp2_with fail
            go_region_law (first | (go_simp; go_at_call 262; refine (l2Draw_any c _ (R8.kept (gdrew (grefl _) 1)).cur).mono ?_; rintro e w9 ⟨x', y', -, -, rfl, hc9, g9⟩; have R9 := (R8.kept (gdrew (grefl _) 1)).draw g9 hc9; obtain ⟨d3, h3⟩ := R9.box.c3; have hq := R9.box.lt) | (refine step_append_o (E := cellE) rfl (.tmp 62) (.tmp 65) rfl rfl rfl (DrS.box (DrS.kept R9 (galloc (grefl _) _))).ns (CS.single _ _ _ (Nat.zero_le _)) (by simp; omega) (by decide) (by have := R9.box.lt; have := R9.hb; simp; omega) ?_; intro v' wa hown hga hat; have RP := DrS.kept R9 (galloc (grefl w9) (.cells #[.int .i64 x', .int .i64 y'] 59)); have RA := RP.app3 hga hown hat; obtain ⟨c4, f4⟩ := gkr hga RP.box.nb RP.box.c3; obtain ⟨a4, m4, q4, rfl⟩ := hown.sl))
            all_goals
              clear c3 f3 d3 h3 hq c4 f4 RP R9 hga hat hown
              have M2 : (d.died.m ++ [(x', y')]).length ≤ 6 := by simp; omega
              have M3 := L3
              go_upto_region 21 with (fail)
              generalize wa.setCell ⟨b, 3, none⟩ (.slice a4 m4 q4) = W9 at *
              generalize Value.slice a4 m4 q4 = nv4 at *
              obtain ⟨ka, km, kc, hka⟩ := RA.box.ks.sl
              subst hka
              obtain ⟨na, nm, nc, hna⟩ := RA.box.ns.sl
              subst hna
              have hfin := RA.fin (.int .i64 d.died.n) (.bool d.died.dead) (.slice ka km kc) (.slice na nm nc)
              obtain ⟨⟨z0, y0⟩, ⟨z1, y1⟩, ⟨z2, y2⟩, ⟨z3, y3⟩⟩ := RA.zero
              obtain ⟨c0, f0⟩ := RA.box.c0
              obtain ⟨c1, f1⟩ := RA.box.c1
              obtain ⟨c2, f2⟩ := RA.box.c2
              obtain ⟨c3, f3⟩ := RA.box.c3
              clear RA
              (try dsimp only at c0 c1)
              go_wp2_with fail
              exact bodyPost_ret (v := .agg #[.int .i64 d.died.n, .bool d.died.dead, .slice ka km kc, .slice na nm nc]) (by simp [results, Tryz.results213, go_sem, z0, z1, z2, z3]) rfl ⟨{ d.died with m := d.died.m ++ [(x', y')] }, _, _, rfl, hfin.1, hfin.2.1, M3, M2, hfin.2.2⟩
          · have RA := R8.step (R8.box.dead (!d.died.dead)) (gset (World.grownBy.refl w8 _) _ _) (fun j e => by cases e; exact R8.hb)
            obtain ⟨c1, f1⟩ := R8.box.c1
            clear R8
            go_upto_region 21 with (fail)
            generalize w8.setCell ⟨b, 1, none⟩ (.bool (!d.died.dead)) = W9 at *
            clear c1 f1
            have M2 := Nat.le_trans L2 (show 5 ≤ 6 by omega)
            have M3 := L3
            obtain ⟨ka, km, kc, hka⟩ := RA.box.ks.sl
            subst hka
            obtain ⟨na, nm, nc, hna⟩ := RA.box.ns.sl
            subst hna
            have hfin := RA.fin (.int .i64 ({ d.died with dead := !d.died.dead } : DZ).n) (.bool ({ d.died with dead := !d.died.dead } : DZ).dead) (.slice ka km kc) (.slice na nm nc)
            obtain ⟨⟨z0, y0⟩, ⟨z1, y1⟩, ⟨z2, y2⟩, ⟨z3, y3⟩⟩ := RA.zero
            obtain ⟨c0, f0⟩ := RA.box.c0
            obtain ⟨c1, f1⟩ := RA.box.c1
            obtain ⟨c2, f2⟩ := RA.box.c2
            obtain ⟨c3, f3⟩ := RA.box.c3
            clear RA
            (try dsimp only at c0 c1)
            go_wp2_with fail
            exact bodyPost_ret (v := .agg #[.int .i64 ({ d.died with dead := !d.died.dead } : DZ).n, .bool ({ d.died with dead := !d.died.dead } : DZ).dead, .slice ka km kc, .slice na nm nc]) (by simp [results, Tryz.results213, go_sem, z0, z1, z2, z3]) rfl ⟨_, _, _, rfl, hfin.1, hfin.2.1, M3, M2, hfin.2.2⟩
end Go.Proofs.YteialkknddpbjaaGreatDoor
