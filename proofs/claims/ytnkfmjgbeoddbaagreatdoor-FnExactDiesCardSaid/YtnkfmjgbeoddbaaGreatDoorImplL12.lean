/- What the program's Rots and Dies return: the faults as function fields, and what strikes with them. -/
import Derived.Test.YtnkfmjgbeoddbaaGreatDoorImplL11r
import Derived.Laws.EntriesVeiled
namespace Go.Proofs.YtnkfmjgbeoddbaaGreatDoor
open Go.ChangeShapes Go.WideShapes Go.ChangeAt Go.RowKit

set_option maxRecDepth 8000 in
set_option maxHeartbeats 4000000 in
theorem rottenAt_any (a : Option Addr) (cap : Nat) (l : List (Int × Int)) (k : Nat) (y : Int) (w : World) (h : CS w 0 (.slice a l.length cap) l) (hk : k < l.length) (hl : l.length ≤ 1000) :
    Calls Tryz.prog 154 #[.slice a l.length cap, .int .i64 k, .int .i64 y] w (GotC (l.set k (rotC l[k] y)) w) := by
  obtain ⟨g, rfl, hb, hg, ⟨x0, y0⟩, ⟨x1, y1⟩⟩ := CS.at h k hk
  have hki : (k : Int) < l.length := by omega
  have HR : Hid (rotC l[k] y = (rotV l[k].1 l[k].2 y, rotS l[k].1 l[k].2)) := rfl
  rw [HR.out]
  generalize l[k].1 = s0 at *
  generalize l[k].2 = s1 at *
  go_enter Tryz.func154, Tryz.ntmps154
  go_wp2_with fail
  go_fit (implRotten_any s0 s1 y _)
  rintro e w2 ⟨rfl, g2⟩
  have h2 := Own.grew h g2
  generalize rotV s0 s1 y = r0 at *
  generalize rotS s0 s1 = r1 at *
  go_wp2_with fail
  go_fit (withCell_any _ cap l k r0 r1 _ h2 hk hl)
  rintro e w3 ⟨v3, rfl, c3, g3⟩
  have c4 := Own.lower c3 g2.size
  have g4 := gtrans g2 g3
  obtain ⟨va, vn, vc, rfl⟩ := Own.sl c4
  go_wp2_with fail
  go_ret
  exact ⟨_, rfl, c4, g4⟩
set_option maxRecDepth 8000 in
set_option maxHeartbeats 4000000 in
theorem rotCan_any (b c : Nat) (p y : Int) (kv nv : Value) (D : DZ) (w : World) (h : IsD w 0 kv nv D) (hb : w.cell? ⟨b, 0, none⟩ = some (.int .i64 p)) (hc : w.cell? ⟨c, 0, none⟩ = some (.int .i64 y)) :
    Calls Tryz.prog 150 #[.agg #[.int .i64 D.n, .bool D.dead, kv, nv], .pointer (some ⟨b, 0, none⟩), .pointer (some ⟨c, 0, none⟩)] w (Pure (.bool (D.has p && inB y 1 32767)) w) := by
  obtain ⟨ka, km, kc, rfl⟩ := h.1.sl
  obtain ⟨na, nm, nc, rfl⟩ := h.2.sl
  have e0 := galloc (grefl w) (.cells #[.int .i64 D.n, .bool D.dead, .slice ka km kc, .slice na nm nc] 37)
  have b0 := Box4.new w (.int .i64 D.n) (.bool D.dead) (.slice ka km kc) (.slice na nm nc) 37
  have hI : IsD (w.alloc (.cells #[.int .i64 D.n, .bool D.dead, .slice ka km kc, .slice na nm nc] 37)) 0 (.slice ka km kc) (.slice na nm nc) D := ⟨Own.grew h.1 e0, Own.grew h.2 e0⟩
  have hb1 := gkc e0 hb
  have hc1 := gkc e0 hc
  go_enter Tryz.func150, Tryz.ntmps150
  go_upto_region 1 with (fail)
  generalize w.alloc (.cells #[.int .i64 D.n, .bool D.dead, .slice ka km kc, .slice na nm nc] 37) = W at *
  obtain ⟨x0, x1, x2, x3⟩ := b0
  cases hh : D.has p
  · have HN : Hid (false = (D.has p && inB y 1 32767)) := by show _ = _; rw [hh]; rfl
    go_wp2_with fail
    go_fit (hasPlace_any _ _ D p _ hI)
    rintro e w2 ⟨rfl, g2⟩
    rw [hh]
    go_wp2_with fail
    go_ret
    exact ⟨ret_bool HN.out, gtrans e0 g2⟩
  · have HN : Hid (inB y 1 32767 = (D.has p && inB y 1 32767)) := by show _ = _; rw [hh]; rfl
    go_wp2_with fail
    go_fit (hasPlace_any _ _ D p _ hI)
    rintro e w2 ⟨rfl, g2⟩
    rw [hh]
    have hc2 := gkc g2 hc1
    go_wp2_with fail
    go_fit (damages_any y _)
    rintro e w3 ⟨rfl, rfl⟩
    go_wp2_with fail
    go_ret
    exact ⟨ret_bool HN.out, gtrans e0 g2⟩
abbrev RtP (w' : World) (b : Nat) (x0 x1 x2 x3 : Value) (c e : Nat) (p y : Value) (r : Nat) : Prop := (Box4 w' b x0 x1 x2 x3 ∧ w'.cell? ⟨c, 0, none⟩ = some p ∧ w'.cell? ⟨e, 0, none⟩ = some y) ∧ Live w' r 0 ∧ Live w' r 1 ∧ Live w' r 2 ∧ Live w' r 3
theorem RtP.kept {w' w2 : World} {b c e r : Nat} {x0 x1 x2 x3 p y : Value} (h : RtP w' b x0 x1 x2 x3 c e p y r) (g : w'.grownBy w2 none) : RtP w2 b x0 x1 x2 x3 c e p y r := ⟨⟨Box4.kept h.1.1 g, gkc g h.1.2.1, gkc g h.1.2.2⟩, h.2.1.kept g, h.2.2.1.kept g, h.2.2.2.1.kept g, h.2.2.2.2.kept g⟩
theorem RtP.drew {w' : World} {b c e r : Nat} {x0 x1 x2 x3 p y : Value} (h : RtP w' b x0 x1 x2 x3 c e p y r) : RtP w'.drew b x0 x1 x2 x3 c e p y r := h
theorem cell_set4 {w : World} {r b o : Nat} {x : Value} (h : w.cell? ⟨b, o, none⟩ = some x) (hb : r ≠ b) (y0 y1 y2 y3 : Value) : (set4 w r y0 y1 y2 y3).cell? ⟨b, o, none⟩ = some x := by
  unfold set4
  rw [World.cell?_setCell_other _ _ _ _ (fun e => hb (congrArg Addr.block e)), World.cell?_setCell_other _ _ _ _ (fun e => hb (congrArg Addr.block e)), World.cell?_setCell_other _ _ _ _ (fun e => hb (congrArg Addr.block e)), World.cell?_setCell_other _ _ _ _ (fun e => hb (congrArg Addr.block e))]
  exact h
theorem RtP.set {w' : World} {b c e r : Nat} {x0 x1 x2 x3 p y : Value} (h : RtP w' b x0 x1 x2 x3 c e p y r) (hb : r ≠ b) (hc : r ≠ c) (he : r ≠ e) (y0 y1 y2 y3 : Value) : RtP (set4 w' r y0 y1 y2 y3) b x0 x1 x2 x3 c e p y r :=
  ⟨⟨⟨cell_set4 h.1.1.1 hb _ _ _ _, cell_set4 h.1.1.2.1 hb _ _ _ _, cell_set4 h.1.1.2.2.1 hb _ _ _ _, cell_set4 h.1.1.2.2.2 hb _ _ _ _⟩, cell_set4 h.1.2.1 hc _ _ _ _, cell_set4 h.1.2.2 he _ _ _ _⟩, by unfold set4; exact (((h.2.1.set _).set _).set _).set _, by unfold set4; exact (((h.2.2.1.set _).set _).set _).set _, by unfold set4; exact (((h.2.2.2.1.set _).set _).set _).set _, by unfold set4; exact (((h.2.2.2.2.set _).set _).set _).set _⟩
set_option maxRecDepth 8000 in
set_option maxHeartbeats 4000000 in
theorem rotLeft_any (b c k : Nat) (y : Int) (kv nv : Value) (D : DZ) (w : World) (h : IsD w 0 kv nv D) (hb : w.cell? ⟨b, 0, none⟩ = some (.int .i64 (k : Int))) (hc : w.cell? ⟨c, 0, none⟩ = some (.int .i64 y)) (hkm : k < D.m.length) (hkk : D.k.length = D.m.length) (hm : D.m.length ≤ 1000) :
    Calls Tryz.prog 153 #[.agg #[.int .i64 D.n, .bool D.dead, kv, nv], .pointer (some ⟨b, 0, none⟩), .pointer (some ⟨c, 0, none⟩)] w (GotD (D.rot k y) w) := by
  obtain ⟨ka, km, kc, rfl⟩ := h.1.sl
  obtain ⟨na, nm, nc, rfl⟩ := h.2.sl
  obtain ⟨rfl, -⟩ := CS.bound h.1
  obtain ⟨rfl, -⟩ := CS.bound h.2
  obtain ⟨B0, Z0, g0, s0⟩ := boxed2 w (.int .i64 D.n) (.bool D.dead) (.slice ka D.k.length kc) (.slice na D.m.length nc) 37
  have hbl : b < w.heap.size := World.block_lt_of_cell? w _ hb
  have hcl : c < w.heap.size := World.block_lt_of_cell? w _ hc
  have hb1 := gkc g0 hb
  have hc1 := gkc g0 hc
  have HI : Hid (IsD w 0 (.slice ka D.k.length kc) (.slice na D.m.length nc) D) := h
  have HRt : Hid ((D.rot k y) = ⟨D.n, D.dead, D.k.set k (rotC (D.k[k]'(by omega)) y), D.m.set k (rotC D.m[k] y)⟩) := by
    show _ = _
    simp only [DZ.rot, List.getD_eq_getElem?_getD]
    rw [List.getElem?_eq_getElem hkm, List.getElem?_eq_getElem (by omega)]; rfl
  rw [HRt.out]
  have hkk' : k < D.k.length := by omega
  have hkl : D.k.length ≤ 1000 := by omega
  have HC1 := fun (W : World) (g : w.grownBy W none) => rottenAt_any ka kc D.k k y W (Own.grew HI.out.1 g) hkk' hkl
  have HC2 := fun (W : World) (g : w.grownBy W none) => rottenAt_any na nc D.m k y W (Own.grew HI.out.2 g) hkm hm
  have HLk : Hid ((D.k.set k (rotC D.k[k] y)).length ≤ 1000 ∧ (D.m.set k (rotC D.m[k] y)).length ≤ 1000) := by constructor <;> simp <;> omega
  generalize D.k.set k (rotC D.k[k] y) = K1 at *
  generalize D.m.set k (rotC D.m[k] y) = M1 at *
  clear hkk hkm hm hkk' hkl HRt h
  go_enter Tryz.func153, Tryz.ntmps153
  go_upto_region 1 with (fail)
  generalize (w.alloc (.cells #[.int .i64 D.n, .bool D.dead, .slice ka D.k.length kc, .slice na D.m.length nc] 37)).alloc (.cells #[.int .i64 0, .bool false, .slice none 0 0, .slice none 0 0] 37) = W0 at *
  have S0 : RtP W0 w.heap.size _ _ _ _ b c _ _ (w.heap.size + 1) := ⟨⟨⟨B0.c0.1, B0.c1.1, B0.c2.1, B0.c3.1⟩, hb1, hc1⟩, Z0.c0.live, Z0.c1.live, Z0.c2.live, Z0.c3.live⟩
  go_region_held3 (fun w' => RtP w' w.heap.size (.int .i64 D.n) (.bool D.dead) (.slice ka D.k.length kc) (.slice na D.m.length nc) b c (.int .i64 k) (.int .i64 y) (w.heap.size + 1)) (first | assumption | exact S0.drew | exact RtP.kept ‹RtP _ _ _ _ _ _ _ _ _ _ _› ‹World.grownBy _ _ none› | exact RtP.set ‹RtP _ _ _ _ _ _ _ _ _ _ _› (by omega) (by omega) (by omega) _ _ _ _) (first | (go_at_call 154; go_fit (HC1 _ (gdrew g0 1)); rintro e w8 ⟨kv8, rfl, c8, g8⟩; obtain ⟨ka8, km8, kc8, rfl⟩ := Own.sl c8; obtain ⟨rfl, -⟩ := CS.bound c8) | (go_at_call 154; go_fit (HC2 _ (gtrans (gdrew g0 1) g8)); rintro e w9 ⟨nv9, rfl, c9, g9⟩; obtain ⟨na9, nm9, nc9, rfl⟩ := Own.sl c9; obtain ⟨rfl, -⟩ := CS.bound c9) | (go_at_call 112; go_fit (diskWith_any D.n D.dead _ _ _ _ _ _ K1 M1 _ (Own.lower (Own.grew c8 g9) (Nat.zero_le _)) (Own.lower c9 (Nat.zero_le _)) HLk.out.1 HLk.out.2); rintro e wa ⟨kva, nva, rfl, Ia, apa, ga⟩; obtain ⟨kaa, kma, kca, rfl⟩ := Own.sl Ia.1; obtain ⟨naa, nma, nca, rfl⟩ := Own.sl Ia.2))
  have G9 := gtrans (gtrans (gtrans (gdrew g0 1) g8) g9) ga
  have hs8 := g8.size
  have hs9 := g9.size
  simp at hs8
  obtain ⟨⟨z0, -⟩, ⟨z1, -⟩, ⟨z2, -⟩, ⟨z3, -⟩⟩ := Z0.kept (gtrans (gtrans (gtrans (gdrew (grefl W0) 1) g8) g9) ga) (by simp)
  have hR : NewD w (set4 wa (w.heap.size + 1) (.int .i64 D.n) (.bool D.dead) (.slice kaa kma kca) (.slice naa nma nca)) (.slice kaa kma kca) (.slice naa nma nca) ⟨D.n, D.dead, K1, M1⟩ :=
    ⟨⟨CS.set4 (Own.lower Ia.1 (by omega)) (not_own Ia.1 (by omega)) _ _ _ _, CS.set4 (Own.lower Ia.2 (by omega)) (not_own Ia.2 (by omega)) _ _ _ _⟩, apa, gset4 G9 (by omega) _ _ _ _⟩
  clear S0 c8 c9 B0 Z0
  go_wp2_with fail
  exact bodyPost_ret (v := .agg #[.int .i64 D.n, .bool D.dead, .slice kaa kma kca, .slice naa nma nca]) (by simp [results, Tryz.results153, go_sem, z0, z1, z2, z3]) rfl ⟨_, _, rfl, hR⟩
section
open Go.Shelf
attribute [local go_sem] Oper.semAt_some
set_option maxRecDepth 100000 in
set_option maxHeartbeats 2000000 in
theorem aliveIn_any (v : Value) (l : List DZ) (w : World) (h : LD w v l) (hl : l.length ≤ 1000) :
    Calls Tryz.prog 156 #[v] w (Pure (.int .i64 (aliveN l)) w) := by
  obtain ⟨a, cap, rfl, hm⟩ := h.form
  have HAl : Hid (aliveN l = (liveR l).length) := by show _ = _; unfold aliveN liveR; rw [List.length_map]
  have bO := Boxed.new w 2 (.int .i64 0)
  have G0 := galloc (grefl w) (.cells #[.int .i64 0] 2)
  refine (callsIn_wide (n := 6)).1 ?_
  refine callsIn_of_wp_marks Tryz.func156 rfl trivial ?_ rfl
  simp only [Tryz.ntmps156, List.size_toArray, List.length_cons, List.length_nil, Nat.reduceAdd, Nat.reduceSub, Array.replicate_succ, Array.replicate_zero, List.push_toArray, List.append_toArray, List.nil_append, List.cons_append]
  gi_wp2_with fail
  refine ⟨trivial, CallsIn.mono (callsIn_wide.2 (livePlaces_any _ _ _ _)) ?_⟩
  rintro e w3 ⟨b, rfl, hb, g3, hbb⟩
  have bO3 := bO.kept g3 (by simp)
  have GG3 := gtrans G0 g3
  gi_wp2_with fail
  refine wpIn_rangeFunc_ownG rfl (by decide) (gf := 175) (lb := #[vptr b]) rfl trivial (enters_of Tryz.func175 (by kernel_rfl) rfl)
    (live_stops 5 b _ l w w3 (by decide) (below0 GG3) h hb) belowK_t (belowK_b GG3.size) (Below.refl _ _) (fun _ => rfl)
    (fun pre W => Boxed W w.heap.size 2 (.int .i64 (pre.length : Int)) ∧ Below w.heap.size w W)
    (fun _ _ _ => False)
    (OwnFrom.and (Own.from (boxed_own _ _ _) _) (ownFrom_below (Nat.le_refl _) GG3.size))
    (fun _ _ _ _ _ hs _ _ => hs)
    ⟨bO3, below0 GG3⟩
    (fun x => { tmps := #[.slice a l.length cap, undef, .int .i64 0, vptr w.heap.size, .slice a l.length cap, .func (.func 175) #[] #[vptr b], .int .i64 (x : Int), undef, undef, undef], defers := [] })
    ?assign ?body ?done ?stop
  case assign =>
    intro l x W K hK
    gi_wp2_with fail
    simpa [encP] using hK
  case body =>
    rintro ll pre x W ⟨bP, B⟩ hlt
    have cP := bP.cell
    have fP := bP.frozen
    have hpn : (pre.length : Int) ≤ 1000 := by omega
    clear hb h
    gi_wp2_with fail
    exact ⟨(KeepsOthers.setCell _ _ _).from _, (Below.refl _ _).setCell (p := ⟨w.heap.size, 0, none⟩) (Nat.le_refl _) _, ⟨by have := bP.set (.int .i64 ((pre.length : Int) + 1)); simpa using this, B.setCell (p := ⟨w.heap.size, 0, none⟩) (Nat.le_refl _) _⟩⟩
  case done =>
    rintro D ys W hD rfl ⟨bP, B⟩ hK
    have cP := bP.cell
    have HN := HAl
    gi_wp2_with fail
    refine ⟨by simp, .inl ⟨_, _, rfl, run_takeDeferred hK, ?_⟩⟩
    refine ⟨.int .i64 (liveR l).length, by simp [results, Tryz.results156, go_sem], by rw [HN.out], ?_⟩
    exact gbelow0 (B.trans (belowK_b (w := w) (Nat.le_refl _) _ D _ _ (by have := GG3.size; omega) hK rfl rfl))
  case stop =>
    rintro D c pre W _ _ h _
    exact h.elim
end
section
attribute [local go_sem] str_list str_size str_add lit_list0 add_lit lit_add str_cut
theorem IsD.kept9 {w w' : World} {kv nv : Value} {d : DZ} (h : IsD w 0 kv nv d) (g : w.grownBy w' none) : IsD w' 0 kv nv d := ⟨Own.grew h.1 g, Own.grew h.2 g⟩
abbrev StkS (w w' : World) (ab : Nat) (x : Value) (f1 : Value) (g o : Nat) (y0 y1 y2 y3 : Value) : Prop := (w'.cell? ⟨ab, 0, none⟩ = some x ∧ w'.cell? ⟨ab + 1, 0, none⟩ = some f1 ∧ w'.cell? ⟨g, o, none⟩ = some y0 ∧ w'.cell? ⟨g, o + 1, none⟩ = some y1 ∧ w'.cell? ⟨g, o + 2, none⟩ = some y2 ∧ w'.cell? ⟨g, o + 3, none⟩ = some y3) ∧ w.grownBy w' none
theorem StkS.kept {w w' w2 : World} {ab g o : Nat} {x f1 y0 y1 y2 y3 : Value} (h : StkS w w' ab x f1 g o y0 y1 y2 y3) (k : w'.grownBy w2 none) : StkS w w2 ab x f1 g o y0 y1 y2 y3 := ⟨⟨gkc k h.1.1, gkc k h.1.2.1, gkc k h.1.2.2.1, gkc k h.1.2.2.2.1, gkc k h.1.2.2.2.2.1, gkc k h.1.2.2.2.2.2⟩, gtrans h.2 k⟩
set_option maxRecDepth 8000 in
set_option maxHeartbeats 4000000 in
theorem dieCan_any (b : Nat) (kv nv v : Value) (l : List DZ) (D : DZ) (w : World) (h : IsD w 0 kv nv D) (hL : LD w v l) (hl : l.length ≤ 1000) (hb : w.cell? ⟨b, 0, none⟩ = some v) :
    Calls Tryz.prog 155 #[.agg #[.int .i64 D.n, .bool D.dead, kv, nv], .pointer (some ⟨b, 0, none⟩)] w (Pure (.bool (!D.dead && decide (1 < aliveN l))) w) := by
  obtain ⟨ka, km, kc, rfl⟩ := h.1.sl
  obtain ⟨na, nm, nc, rfl⟩ := h.2.sl
  obtain ⟨va, vc, rfl, -⟩ := hL.form
  have e0 := galloc (grefl w) (.cells #[.int .i64 D.n, .bool D.dead, .slice ka km kc, .slice na nm nc] 37)
  have b0 := Box4.new w (.int .i64 D.n) (.bool D.dead) (.slice ka km kc) (.slice na nm nc) 37
  have hb1 := gkc e0 hb
  have hL1 := hL.kept e0
  go_enter Tryz.func155, Tryz.ntmps155
  go_upto_region 1 with (fail)
  generalize w.alloc (.cells #[.int .i64 D.n, .bool D.dead, .slice ka km kc, .slice na nm nc] 37) = W at *
  obtain ⟨x0, x1, x2, x3⟩ := b0
  cases hd : D.dead
  · have HN : Hid (decide ((1 : Int) < aliveN l) = (!D.dead && decide (1 < aliveN l))) := by
      show _ = _; rw [hd]; simp only [Bool.not_false, Bool.true_and]; congr 1; simp; omega
    rw [hd] at x1
    clear hd
    go_wp2_with fail
    go_fit (aliveIn_any _ l _ hL1 hl)
    rintro e w2 ⟨rfl, g2⟩
    go_wp2_with fail
    go_ret
    exact ⟨ret_bool HN.out, gtrans e0 g2⟩
  · have HN : Hid (false = (!D.dead && decide (1 < aliveN l))) := by show _ = _; rw [hd]; rfl
    rw [hd] at x1
    clear hd
    go_wp2_with fail
    go_ret
    exact ⟨ret_bool HN.out, e0⟩
set_option maxRecDepth 8000 in
set_option maxHeartbeats 4000000 in
theorem struckRot_any (v : Value) (a : AZ) (d : Int) (b c : Nat) (p y : Int) (w : World) (h : LD w v a.ds) (ht : Pow10 w) (hV : LibV w) (hb : w.cell? ⟨b, 0, none⟩ = some (.int .i64 p)) (hc : w.cell? ⟨c, 0, none⟩ = some (.int .i64 y)) :
    Calls Tryz.prog 97 #[a.val v, .int .i64 d, .agg #[.func (.func 150) #[] #[.pointer (some ⟨b, 0, none⟩), .pointer (some ⟨c, 0, none⟩)], .func (.func 153) #[] #[.pointer (some ⟨b, 0, none⟩), .pointer (some ⟨c, 0, none⟩)]]] w (GotAB (rottedZ a d p y) (rottedOk a d p y) w) := by
  obtain ⟨xa, cap, rfl, hm⟩ := h.form
  have G0 := galloc (galloc (galloc (grefl w) (.cells #[.slice xa a.ds.length cap, .string (str a.log), .string (str a.next), .int .i64 a.stage, .bool a.up] 26)) (.cells #[.func (.func 150) #[] #[.pointer (some ⟨b, 0, none⟩), .pointer (some ⟨c, 0, none⟩)], .func (.func 153) #[] #[.pointer (some ⟨b, 0, none⟩), .pointer (some ⟨c, 0, none⟩)]] 100)) zero5
  have B0 := ((Box5.new w (.slice xa a.ds.length cap) (.string (str a.log)) (.string (str a.next)) (.int .i64 a.stage) (.bool a.up) 26).kept (galloc (grefl _) (.cells #[.func (.func 150) #[] #[.pointer (some ⟨b, 0, none⟩), .pointer (some ⟨c, 0, none⟩)], .func (.func 153) #[] #[.pointer (some ⟨b, 0, none⟩), .pointer (some ⟨c, 0, none⟩)]] 100))).kept (galloc (grefl _) zero5)
  have FB : (((w.alloc (.cells #[.slice xa a.ds.length cap, .string (str a.log), .string (str a.next), .int .i64 a.stage, .bool a.up] 26)).alloc (.cells #[.func (.func 150) #[] #[.pointer (some ⟨b, 0, none⟩), .pointer (some ⟨c, 0, none⟩)], .func (.func 153) #[] #[.pointer (some ⟨b, 0, none⟩), .pointer (some ⟨c, 0, none⟩)]] 100)).alloc zero5).cell? ⟨w.heap.size + 1, 0, none⟩ = some (.func (.func 150) #[] #[.pointer (some ⟨b, 0, none⟩), .pointer (some ⟨c, 0, none⟩)]) ∧ (((w.alloc (.cells #[.slice xa a.ds.length cap, .string (str a.log), .string (str a.next), .int .i64 a.stage, .bool a.up] 26)).alloc (.cells #[.func (.func 150) #[] #[.pointer (some ⟨b, 0, none⟩), .pointer (some ⟨c, 0, none⟩)], .func (.func 153) #[] #[.pointer (some ⟨b, 0, none⟩), .pointer (some ⟨c, 0, none⟩)]] 100)).alloc zero5).cell? ⟨w.heap.size + 1, 1, none⟩ = some (.func (.func 153) #[] #[.pointer (some ⟨b, 0, none⟩), .pointer (some ⟨c, 0, none⟩)]) := by simp [go_sem]
  have Z0 : Zero5 (((w.alloc (.cells #[.slice xa a.ds.length cap, .string (str a.log), .string (str a.next), .int .i64 a.stage, .bool a.up] 26)).alloc (.cells #[.func (.func 150) #[] #[.pointer (some ⟨b, 0, none⟩), .pointer (some ⟨c, 0, none⟩)], .func (.func 153) #[] #[.pointer (some ⟨b, 0, none⟩), .pointer (some ⟨c, 0, none⟩)]] 100)).alloc zero5) (w.heap.size + 2) := ⟨by simp [At, go_sem, zero5], by simp [At, go_sem, zero5]; rfl, by simp [At, go_sem, zero5]; rfl, by simp [At, go_sem, zero5], by simp [At, go_sem, zero5]⟩
  have s0 : (((w.alloc (.cells #[.slice xa a.ds.length cap, .string (str a.log), .string (str a.next), .int .i64 a.stage, .bool a.up] 26)).alloc (.cells #[.func (.func 150) #[] #[.pointer (some ⟨b, 0, none⟩), .pointer (some ⟨c, 0, none⟩)], .func (.func 153) #[] #[.pointer (some ⟨b, 0, none⟩), .pointer (some ⟨c, 0, none⟩)]] 100)).alloc zero5).heap.size = w.heap.size + 3 := by simp
  go_enter Tryz.func97, Tryz.ntmps97
  go_upto_region 1 with (fail)
  generalize ((w.alloc (.cells #[.slice xa a.ds.length cap, .string (str a.log), .string (str a.next), .int .i64 a.stage, .bool a.up] 26)).alloc (.cells #[.func (.func 150) #[] #[.pointer (some ⟨b, 0, none⟩), .pointer (some ⟨c, 0, none⟩)], .func (.func 153) #[] #[.pointer (some ⟨b, 0, none⟩), .pointer (some ⟨c, 0, none⟩)]] 100)).alloc zero5 = W0 at *
  have HB0 := Lib.hid B0
  obtain ⟨p0, p1, p2, p3, p4⟩ := B0
  cases hok : a.ok
  · have HE : Hid (rottedZ a d p y = .zero ∧ rottedOk a d p y = false) := by constructor <;> simp [rottedZ, rottedOk, hok]
    go_wp2_with fail
    go_fit (implArrayOk_any _ a _ (h.kept G0) (ht.kept G0) (hV.kept G0))
    rintro e w1 ⟨rfl, g1⟩
    rw [hok]
    obtain ⟨⟨z0, y0⟩, ⟨z1, y1⟩, ⟨z2, y2⟩, ⟨z3, y3⟩, ⟨z4, y4⟩⟩ := Z0.kept g1 (by simp)
    have hs1 := g1.size
    have hR := res5l (OD.nil w1 w1.heap.size) (r := w.heap.size + 2) (by omega) (by omega) (gtrans G0 g1) (.slice none 0 0) (.string ⟨#[]⟩) (.string ⟨#[]⟩) (.int .i64 0) (.bool false)
    go_wp2_with fail
    exact bodyPost_ret (v := .tuple #[.agg #[.slice none 0 0, .string ⟨#[]⟩, .string ⟨#[]⟩, .int .i64 0, .bool false], .bool false]) (by simp [results, Tryz.results97, go_sem, z0, z1, z2, z3, z4]) rfl ⟨_, [], by rw [HE.out.1, HE.out.2]; rfl, by rw [HE.out.1]; exact hR.1, hR.2⟩
  have HE : Hid (rottedZ a d p y = a.rotted d p y ∧ rottedOk a d p y = rotOk a d p y) := by constructor <;> simp [rottedZ, rottedOk, hok]
  have HA : Hid (a.ok = true) := hok
  obtain ⟨hl5, hd16⟩ := ds_small (AZ.ok_ds hok)
  have hll := AZ.ok_len hok
  have HDk : Hid (disksOkZ a.ds = true) := AZ.ok_ds hok
  go_wp2_with fail
  go_fit (implArrayOk_any _ a _ (h.kept G0) (ht.kept G0) (hV.kept G0))
  rintro e w1 ⟨rfl, g1⟩
  rw [hok]
  have G1 := gtrans G0 g1
  have HB1 := Lib.hid (HB0.out.kept g1)
  have hs1 := g1.size
  have Z1 := Z0.kept g1 (by simp)
  have FB1 := Lib.hid (And.intro (gkc g1 FB.1) (gkc g1 FB.2))
  clear p0 p1 p2 p3 p4 HB0 g1 Z0 FB
  obtain ⟨p0, p1, p2, p3, p4⟩ := HB1.out
  clear hok
  go_wp2_with fail
  go_fit (copiedArray_any _ a _ (h.kept G1) (by omega) (fun i hi => by have := hd16 i hi; omega) (by omega) (by omega))
  rintro e w2 ⟨v2, raw2, rfl, o2, g2⟩
  obtain ⟨va, vc, rfl, -⟩ := o2.form
  have hs2 := g2.size
  have e3 := galloc (grefl w2) (.cells #[.slice va a.ds.length vc, .string (str a.log), .string (str a.next), .int .i64 a.stage, .bool a.up] 26)
  have P3 : Put5 w (w2.alloc (.cells #[.slice va a.ds.length vc, .string (str a.log), .string (str a.next), .int .i64 a.stage, .bool a.up] 26)) w2.heap.size (w.heap.size + 2) w1.heap.size (.slice va a.ds.length vc) a raw2 :=
    ⟨Five.new w2 _ _ _ _ _ _, (Z1.kept g2 (by simp)).kept e3 (by simp), o2.grew e3, gtrans (gtrans G1 g2) e3, fun e => by have := (o2.own.lt _ e).2; omega, by omega, by omega⟩
  have HB3 := Lib.hid ((HB1.out.kept g2).kept e3)
  have FB3 := Lib.hid (And.intro (gkc e3 (gkc g2 FB1.out.1)) (gkc e3 (gkc g2 FB1.out.2)))
  clear p0 p1 p2 p3 p4 Z1 o2 FB1
  go_upto_region 4 with (fail)
  generalize w2.alloc (.cells #[.slice va a.ds.length vc, .string (str a.log), .string (str a.next), .int .i64 a.stage, .bool a.up] 26) = W3 at *
  generalize w2.heap.size = fb at *
  have G3 := P3.G
  have HP3 := Lib.hid P3
  obtain ⟨p0, p1, p2, p3, p4⟩ := HB3.out
  obtain ⟨fc1, fc2⟩ := FB3.out
  have HNo : Hid (rotOk a d p y = false → rottedZ a d p y = a ∧ rottedOk a d p y = false) := fun e => by rw [HE.out.1, HE.out.2, rot_no e, e]; exact ⟨rfl, rfl⟩
  have HEnd : Hid (∀ W', W3.grownBy W' none → Put5 w W' fb (w.heap.size + 2) w1.heap.size (.slice va a.ds.length vc) a raw2) := fun W' g => HP3.out.kept g
  cases hdk : inB d 0 (a.ds.length - 1)
  · have hno := HNo.out (by
      have := inB_nf hdk
      have e : decide (0 ≤ d ∧ d < (a.ds.length : Int)) = false := decide_eq_false (by omega)
      simp [rotOk, e])
    go_wp2_with fail
    refine region_calm (fun w' => w'.cell? ⟨w.heap.size, 0, none⟩ = some (.slice xa a.ds.length cap) ∧ W3.grownBy w' none) (by kernel_rfl) (by kernel_rfl) (⟨p0, gdrew (grefl _) 1⟩) ?_
    repeat (first
      | (refine calm_skip (by rfl) ?_; simp only [Act.put, List.setIfInBounds_toArray, List.set_cons_zero, List.set_cons_succ])
      | (refine calm_step (by rfl) ?_
         apply Exists.intro
         refine ⟨fun w' hw' => ?_, ?_⟩
         · go_simp
           first | done | exact rfl | (go_at_call 57; go_fit (hasDisk_any _ _ _ _ _ hm); rintro e w8 ⟨rfl, rfl⟩; exact And.intro (by rw [hdk]) hw')
         simp only [Act.put, List.setIfInBounds_toArray, List.set_cons_zero, List.set_cons_succ]))
    refine calm_nil ?_
    intro w9 hw9
    have PE := HEnd.out _ hw9.2
    obtain ⟨⟨f0, -⟩, ⟨f1, -⟩, ⟨f2, -⟩, ⟨f3, -⟩, ⟨f4, -⟩⟩ := PE.F
    obtain ⟨⟨z0, y0⟩, ⟨z1, y1⟩, ⟨z2, y2⟩, ⟨z3, y3⟩, ⟨z4, y4⟩⟩ := PE.Z
    have HRe := Lib.hid (res5l PE.O (r := w.heap.size + 2) (by omega) (by omega) PE.G (.slice va a.ds.length vc) (.string (str a.log)) (.string (str a.next)) (.int .i64 a.stage) (.bool a.up))
    go_wp2_with fail
    exact bodyPost_ret (v := .tuple #[a.val (.slice va a.ds.length vc), .bool false]) (by simp [results, Tryz.results97, go_sem, z0, z1, z2, z3, z4]) rfl ⟨_, raw2, by rw [hno.1, hno.2], by rw [hno.1]; exact HRe.out.1, HRe.out.2⟩
  have hd := inB_iff.1 hdk
  obtain ⟨i, rfl⟩ := Int.eq_ofNat_of_zero_le hd.1
  have hi : i < a.ds.length := by omega
  have hii : (i : Int) < a.ds.length := by omega
  obtain ⟨ag, ao, ka, km, kc, na, nm, nc, rfl, x0, x1, x2, x3, DI⟩ := (h.kept G3).at i hi
  have C0 : StkS W3 W3.drew w.heap.size (.slice (some ⟨ag, ao, none⟩) a.ds.length cap) (.func (.func 150) #[] #[.pointer (some ⟨b, 0, none⟩), .pointer (some ⟨c, 0, none⟩)]) ag (ao + i * 4) (.int .i64 a.ds[i].n) (.bool a.ds[i].dead) (.slice ka km kc) (.slice na nm nc) := ⟨⟨p0, fc1, x0, x1, x2, x3⟩, gdrew (grefl _) 1⟩
  have hgi : a.ds.getD i .zero = a.ds[i] := getD_at hi
  cases hcan : (a.ds[i].has p && inB y 1 32767)
  · have hno := HNo.out (by simp only [rotOk, hgi, Int.toNat_natCast, hcan, Bool.and_false])
    clear p0 p1 p2 p3 p4 fc1 fc2 x0 x1 x2 x3 hgi
    go_wp2_with fail
    refine region_calm (fun w' => StkS W3 w' w.heap.size (.slice (some ⟨ag, ao, none⟩) a.ds.length cap) (.func (.func 150) #[] #[.pointer (some ⟨b, 0, none⟩), .pointer (some ⟨c, 0, none⟩)]) ag (ao + i * 4) (.int .i64 a.ds[i].n) (.bool a.ds[i].dead) (.slice ka km kc) (.slice na nm nc)) (by kernel_rfl) (by kernel_rfl) (C0) ?_
    repeat (first
      | (refine calm_skip (by rfl) ?_; simp only [Act.put, List.setIfInBounds_toArray, List.set_cons_zero, List.set_cons_succ])
      | (refine calm_step (by rfl) ?_
         apply Exists.intro
         refine ⟨fun w' hw' => ?_, ?_⟩
         · go_simp
           first | done | exact rfl | (go_at_call 57; go_fit (hasDisk_any _ _ _ _ _ hm); rintro e w8 ⟨rfl, rfl⟩; exact And.intro (by rw [hdk]) hw') | (go_at_call 150; go_fit (rotCan_any b c _ y _ _ a.ds[i] _ (DI.kept9 hw'.2) (gkc (gtrans G3 hw'.2) hb) (gkc (gtrans G3 hw'.2) hc)); rintro e w8 ⟨rfl, g8⟩; exact And.intro (by rw [hcan]) (hw'.kept g8))
         simp only [Act.put, List.setIfInBounds_toArray, List.set_cons_zero, List.set_cons_succ]))
    refine calm_nil ?_
    intro w9 hw9
    have PE := HEnd.out _ hw9.2
    obtain ⟨⟨f0, -⟩, ⟨f1, -⟩, ⟨f2, -⟩, ⟨f3, -⟩, ⟨f4, -⟩⟩ := PE.F
    obtain ⟨⟨z0, y0⟩, ⟨z1, y1⟩, ⟨z2, y2⟩, ⟨z3, y3⟩, ⟨z4, y4⟩⟩ := PE.Z
    have HRe := Lib.hid (res5l PE.O (r := w.heap.size + 2) (by omega) (by omega) PE.G (.slice va a.ds.length vc) (.string (str a.log)) (.string (str a.next)) (.int .i64 a.stage) (.bool a.up))
    go_wp2_with fail
    exact bodyPost_ret (v := .tuple #[a.val (.slice va a.ds.length vc), .bool false]) (by simp [results, Tryz.results97, go_sem, z0, z1, z2, z3, z4]) rfl ⟨_, raw2, by rw [hno.1, hno.2], by rw [hno.1]; exact HRe.out.1, HRe.out.2⟩
  have HYes : Hid (rottedZ a i p y = { a with ds := a.ds.set i (a.ds[i].rot (Int.toNat p) y) } ∧ rottedOk a i p y = true) := by
    have e : rotOk a i p y = true := by simp only [rotOk, hgi, Int.toNat_natCast, hcan, decide_eq_true (show 0 ≤ (i : Int) ∧ (i : Int) < a.ds.length from ⟨by omega, hii⟩), Bool.and_self]
    rw [HE.out.1, HE.out.2, e]
    exact ⟨by simp only [AZ.rotted, e, if_true, Int.toNat_natCast, hgi], rfl⟩
  have hir : i < raw2.length := by rw [P3.O.len]; exact hi
  have hval : Hid ((Value.slice va a.ds.length vc).ownBlock = (Value.slice va a.ds.length vc).ownBlock) := rfl
  have hp : 0 ≤ p ∧ p < a.ds[i].m.length := by
    simp only [Bool.and_eq_true, DZ.has, decide_eq_true_eq] at hcan; exact hcan.1
  have hkm : p.toNat < a.ds[i].m.length := by omega
  have hkk : a.ds[i].k.length = a.ds[i].m.length := ((ok_good HA.out).2 _ (List.getElem_mem hi)).1
  have hm16 := (hd16 i hi).2
  go_wp2_with fail
  refine region_calm (fun w' => StkS W3 w' w.heap.size (.slice (some ⟨ag, ao, none⟩) a.ds.length cap) (.func (.func 150) #[] #[.pointer (some ⟨b, 0, none⟩), .pointer (some ⟨c, 0, none⟩)]) ag (ao + i * 4) (.int .i64 a.ds[i].n) (.bool a.ds[i].dead) (.slice ka km kc) (.slice na nm nc)) (by kernel_rfl) (by kernel_rfl) (C0) ?_
  repeat (first
    | (refine calm_skip (by rfl) ?_; simp only [Act.put, List.setIfInBounds_toArray, List.set_cons_zero, List.set_cons_succ])
    | (refine calm_step (by rfl) ?_
       apply Exists.intro
       refine ⟨fun w' hw' => ?_, ?_⟩
       · go_simp
         first | done | exact rfl | (go_at_call 57; go_fit (hasDisk_any _ _ _ _ _ hm); rintro e w8 ⟨rfl, rfl⟩; exact And.intro (by rw [hdk]) hw') | (go_at_call 150; go_fit (rotCan_any b c _ y _ _ a.ds[i] _ (DI.kept9 hw'.2) (gkc (gtrans G3 hw'.2) hb) (gkc (gtrans G3 hw'.2) hc)); rintro e w8 ⟨rfl, g8⟩; exact And.intro (by rw [hcan]) (hw'.kept g8))
       simp only [Act.put, List.setIfInBounds_toArray, List.set_cons_zero, List.set_cons_succ]))
  refine calm_nil ?_
  intro w9 hw9
  have g39 := hw9.2
  have P9 := HP3.out.kept g39
  have DI9 := DI.kept9 g39
  obtain ⟨g, e', hgB, hgl, ⟨k0, m0⟩, ⟨k1, m1⟩, ⟨k2, m2⟩, ⟨k3, m3⟩⟩ := P9.O.at i hir hi
  cases e'
  have hgf : g ≠ fb := fun e => P9.vf (by rw [e]; rfl)
  have HFin : Hid (∀ (w8 : World) (kv nv : Value), w9.grownBy w8 none → IsD w8 w9.heap.size kv nv (a.ds[i].rot (Int.toNat p) y) → Apart kv nv → ∃ raw8, Put5 w (set4At w8 g (i * 4) (.int .i64 (a.ds[i].rot (Int.toNat p) y).n) (.bool (a.ds[i].rot (Int.toNat p) y).dead) kv nv) fb (w.heap.size + 2) w1.heap.size (.slice (some ⟨g, 0, none⟩) a.ds.length vc) { a with ds := a.ds.set i (a.ds[i].rot (Int.toNat p) y) } raw8) := by
    intro w8 kv nv g8 I8 ap8
    obtain ⟨ka8, km8, kc8, rfl⟩ := I8.1.sl
    obtain ⟨na8, nm8, nc8, rfl⟩ := I8.2.sl
    have hlo : w1.heap.size ≤ w9.heap.size := by have := e3.size; have := g39.size; omega
    exact ⟨_, P9.put i hir ⟨(a.ds[i].rot (Int.toNat p) y).n, (a.ds[i].rot (Int.toNat p) y).dead, ka8, km8, kc8, na8, nm8, nc8⟩ (a.ds[i].rot (Int.toNat p) y) g8 ⟨rfl, rfl, Own.lower I8.1 hlo, Own.lower I8.2 hlo⟩ ap8 (fun k hk => by
      rcases hk with hk | hk
      · exact (Own.lt I8.1 k hk).1
      · exact (Own.lt I8.2 k hk).1)⟩
  obtain ⟨⟨p0', fc1', x0', x1', x2', x3'⟩, -⟩ := hw9
  have fc2' := gkc g39 FB3.out.2
  obtain ⟨⟨f0, -⟩, ⟨f1, -⟩, ⟨f2, -⟩, ⟨f3, -⟩, ⟨f4, -⟩⟩ := P9.F
  have GG := gtrans G3 g39
  have HLf := rotLeft_any b c p.toNat y (.slice ka km kc) (.slice na nm nc) a.ds[i] w9.drew (DI9.kept9 (gdrew (grefl _) 1)) (by rw [Int.toNat_of_nonneg hp.1]; exact gkc (gdrew GG 1) hb) (gkc (gdrew GG 1) hc) hkm hkk (by omega)
  clear HNo HE HP3 P3 P9 HA HEnd C0 p0 p1 p2 p3 p4 fc1 fc2 x0 x1 x2 x3 hcan hgi DI
  generalize (a.ds[i].rot (Int.toNat p) y) = LZ at *
  go_wp2_with fail
  go_region_with (first | (go_at_call 153; go_fit HLf; rintro e w6 ⟨kv, nv, rfl, I6, ap6, g6⟩; have gg6 : w9.grownBy w6 none := gtrans (gdrew (grefl _) 1) g6; have f0'' := gkc gg6 f0; have q0 := gkc gg6 k0; have q1 := gkc gg6 k1; have q2 := gkc gg6 k2; have q3 := gkc gg6 k3; have n0 := (gk gg6 ⟨k0, m0⟩).2; have n1 := (gk gg6 ⟨k1, m1⟩).2; have n2 := (gk gg6 ⟨k2, m2⟩).2; have n3 := (gk gg6 ⟨k3, m3⟩).2; obtain ⟨ka6, km6, kc6, rfl⟩ := I6.1.sl; obtain ⟨na6, nm6, nc6, rfl⟩ := I6.2.sl; have hF := Lib.hid (HFin.out w6 _ _ gg6 ⟨Own.lower I6.1 (Nat.le_refl _), Own.lower I6.2 (Nat.le_refl _)⟩ ap6)))
  all_goals (
    obtain ⟨raw8, P8⟩ := hF.out
    obtain ⟨⟨u0, -⟩, ⟨u1, -⟩, ⟨u2, -⟩, ⟨u3, -⟩, ⟨u4, -⟩⟩ := P8.F
    obtain ⟨⟨z0, y0⟩, ⟨z1, y1⟩, ⟨z2, y2⟩, ⟨z3, y3⟩, ⟨z4, y4⟩⟩ := P8.Z
    have hR := res5l P8.O (r := w.heap.size + 2) (by omega) (by omega) P8.G (.slice (some ⟨g, 0, none⟩) a.ds.length vc) (.string (str a.log)) (.string (str a.next)) (.int .i64 a.stage) (.bool a.up)
    dsimp only at u0 u1 u2 u3 u4
    unfold set5 set4At at hR
    have HR := Lib.hid hR
    clear hR
    unfold set4At at z0 z1 z2 z3 z4 y0 y1 y2 y3 y4 u0 u1 u2 u3 u4
    go_wp2_with fail
    exact bodyPost_ret (v := .tuple #[.agg #[.slice (some ⟨g, 0, none⟩) a.ds.length vc, .string (str a.log), .string (str a.next), .int .i64 a.stage, .bool a.up], .bool true]) (by simp [results, Tryz.results97, go_sem, z0, z1, z2, z3, z4]) rfl ⟨_, raw8, by rw [HYes.out.1, HYes.out.2], by rw [HYes.out.1]; exact HR.out.1, HR.out.2⟩)
set_option maxRecDepth 8000 in
set_option maxHeartbeats 4000000 in
theorem struckDie_any (v : Value) (a : AZ) (d : Int) (b : Nat) (w : World) (h : LD w v a.ds) (ht : Pow10 w) (hV : LibV w) (hb : w.cell? ⟨b, 0, none⟩ = some v) :
    Calls Tryz.prog 97 #[a.val v, .int .i64 d, .agg #[.func (.func 155) #[] #[.pointer (some ⟨b, 0, none⟩)], .func (.func 157) #[] #[]]] w (GotAB (diedZ a d) (diedOk a d) w) := by
  obtain ⟨xa, cap, rfl, hm⟩ := h.form
  have G0 := galloc (galloc (galloc (grefl w) (.cells #[.slice xa a.ds.length cap, .string (str a.log), .string (str a.next), .int .i64 a.stage, .bool a.up] 26)) (.cells #[.func (.func 155) #[] #[.pointer (some ⟨b, 0, none⟩)], .func (.func 157) #[] #[]] 100)) zero5
  have B0 := ((Box5.new w (.slice xa a.ds.length cap) (.string (str a.log)) (.string (str a.next)) (.int .i64 a.stage) (.bool a.up) 26).kept (galloc (grefl _) (.cells #[.func (.func 155) #[] #[.pointer (some ⟨b, 0, none⟩)], .func (.func 157) #[] #[]] 100))).kept (galloc (grefl _) zero5)
  have FB : (((w.alloc (.cells #[.slice xa a.ds.length cap, .string (str a.log), .string (str a.next), .int .i64 a.stage, .bool a.up] 26)).alloc (.cells #[.func (.func 155) #[] #[.pointer (some ⟨b, 0, none⟩)], .func (.func 157) #[] #[]] 100)).alloc zero5).cell? ⟨w.heap.size + 1, 0, none⟩ = some (.func (.func 155) #[] #[.pointer (some ⟨b, 0, none⟩)]) ∧ (((w.alloc (.cells #[.slice xa a.ds.length cap, .string (str a.log), .string (str a.next), .int .i64 a.stage, .bool a.up] 26)).alloc (.cells #[.func (.func 155) #[] #[.pointer (some ⟨b, 0, none⟩)], .func (.func 157) #[] #[]] 100)).alloc zero5).cell? ⟨w.heap.size + 1, 1, none⟩ = some (.func (.func 157) #[] #[]) := by simp [go_sem]
  have Z0 : Zero5 (((w.alloc (.cells #[.slice xa a.ds.length cap, .string (str a.log), .string (str a.next), .int .i64 a.stage, .bool a.up] 26)).alloc (.cells #[.func (.func 155) #[] #[.pointer (some ⟨b, 0, none⟩)], .func (.func 157) #[] #[]] 100)).alloc zero5) (w.heap.size + 2) := ⟨by simp [At, go_sem, zero5], by simp [At, go_sem, zero5]; rfl, by simp [At, go_sem, zero5]; rfl, by simp [At, go_sem, zero5], by simp [At, go_sem, zero5]⟩
  have s0 : (((w.alloc (.cells #[.slice xa a.ds.length cap, .string (str a.log), .string (str a.next), .int .i64 a.stage, .bool a.up] 26)).alloc (.cells #[.func (.func 155) #[] #[.pointer (some ⟨b, 0, none⟩)], .func (.func 157) #[] #[]] 100)).alloc zero5).heap.size = w.heap.size + 3 := by simp
  go_enter Tryz.func97, Tryz.ntmps97
  go_upto_region 1 with (fail)
  generalize ((w.alloc (.cells #[.slice xa a.ds.length cap, .string (str a.log), .string (str a.next), .int .i64 a.stage, .bool a.up] 26)).alloc (.cells #[.func (.func 155) #[] #[.pointer (some ⟨b, 0, none⟩)], .func (.func 157) #[] #[]] 100)).alloc zero5 = W0 at *
  have HB0 := Lib.hid B0
  obtain ⟨p0, p1, p2, p3, p4⟩ := B0
  cases hok : a.ok
  · have HE : Hid (diedZ a d = .zero ∧ diedOk a d = false) := by constructor <;> simp [diedZ, diedOk, hok]
    go_wp2_with fail
    go_fit (implArrayOk_any _ a _ (h.kept G0) (ht.kept G0) (hV.kept G0))
    rintro e w1 ⟨rfl, g1⟩
    rw [hok]
    obtain ⟨⟨z0, y0⟩, ⟨z1, y1⟩, ⟨z2, y2⟩, ⟨z3, y3⟩, ⟨z4, y4⟩⟩ := Z0.kept g1 (by simp)
    have hs1 := g1.size
    have hR := res5l (OD.nil w1 w1.heap.size) (r := w.heap.size + 2) (by omega) (by omega) (gtrans G0 g1) (.slice none 0 0) (.string ⟨#[]⟩) (.string ⟨#[]⟩) (.int .i64 0) (.bool false)
    go_wp2_with fail
    exact bodyPost_ret (v := .tuple #[.agg #[.slice none 0 0, .string ⟨#[]⟩, .string ⟨#[]⟩, .int .i64 0, .bool false], .bool false]) (by simp [results, Tryz.results97, go_sem, z0, z1, z2, z3, z4]) rfl ⟨_, [], by rw [HE.out.1, HE.out.2]; rfl, by rw [HE.out.1]; exact hR.1, hR.2⟩
  have HE : Hid (diedZ a d = a.dies d ∧ diedOk a d = dieOk a d) := by constructor <;> simp [diedZ, diedOk, hok]
  have HA : Hid (a.ok = true) := hok
  obtain ⟨hl5, hd16⟩ := ds_small (AZ.ok_ds hok)
  have hll := AZ.ok_len hok
  have HDk : Hid (disksOkZ a.ds = true) := AZ.ok_ds hok
  go_wp2_with fail
  go_fit (implArrayOk_any _ a _ (h.kept G0) (ht.kept G0) (hV.kept G0))
  rintro e w1 ⟨rfl, g1⟩
  rw [hok]
  have G1 := gtrans G0 g1
  have HB1 := Lib.hid (HB0.out.kept g1)
  have hs1 := g1.size
  have Z1 := Z0.kept g1 (by simp)
  have FB1 := Lib.hid (And.intro (gkc g1 FB.1) (gkc g1 FB.2))
  clear p0 p1 p2 p3 p4 HB0 g1 Z0 FB
  obtain ⟨p0, p1, p2, p3, p4⟩ := HB1.out
  clear hok
  go_wp2_with fail
  go_fit (copiedArray_any _ a _ (h.kept G1) (by omega) (fun i hi => by have := hd16 i hi; omega) (by omega) (by omega))
  rintro e w2 ⟨v2, raw2, rfl, o2, g2⟩
  obtain ⟨va, vc, rfl, -⟩ := o2.form
  have hs2 := g2.size
  have e3 := galloc (grefl w2) (.cells #[.slice va a.ds.length vc, .string (str a.log), .string (str a.next), .int .i64 a.stage, .bool a.up] 26)
  have P3 : Put5 w (w2.alloc (.cells #[.slice va a.ds.length vc, .string (str a.log), .string (str a.next), .int .i64 a.stage, .bool a.up] 26)) w2.heap.size (w.heap.size + 2) w1.heap.size (.slice va a.ds.length vc) a raw2 :=
    ⟨Five.new w2 _ _ _ _ _ _, (Z1.kept g2 (by simp)).kept e3 (by simp), o2.grew e3, gtrans (gtrans G1 g2) e3, fun e => by have := (o2.own.lt _ e).2; omega, by omega, by omega⟩
  have HB3 := Lib.hid ((HB1.out.kept g2).kept e3)
  have FB3 := Lib.hid (And.intro (gkc e3 (gkc g2 FB1.out.1)) (gkc e3 (gkc g2 FB1.out.2)))
  clear p0 p1 p2 p3 p4 Z1 o2 FB1
  go_upto_region 4 with (fail)
  generalize w2.alloc (.cells #[.slice va a.ds.length vc, .string (str a.log), .string (str a.next), .int .i64 a.stage, .bool a.up] 26) = W3 at *
  generalize w2.heap.size = fb at *
  have G3 := P3.G
  have HP3 := Lib.hid P3
  obtain ⟨p0, p1, p2, p3, p4⟩ := HB3.out
  obtain ⟨fc1, fc2⟩ := FB3.out
  have HNo : Hid (dieOk a d = false → diedZ a d = a ∧ diedOk a d = false) := fun e => by rw [HE.out.1, HE.out.2, die_no e, e]; exact ⟨rfl, rfl⟩
  have HEnd : Hid (∀ W', W3.grownBy W' none → Put5 w W' fb (w.heap.size + 2) w1.heap.size (.slice va a.ds.length vc) a raw2) := fun W' g => HP3.out.kept g
  cases hdk : inB d 0 (a.ds.length - 1)
  · have hno := HNo.out (by
      have := inB_nf hdk
      have e : decide (0 ≤ d ∧ d < (a.ds.length : Int)) = false := decide_eq_false (by omega)
      simp [dieOk, e])
    go_wp2_with fail
    refine region_calm (fun w' => w'.cell? ⟨w.heap.size, 0, none⟩ = some (.slice xa a.ds.length cap) ∧ W3.grownBy w' none) (by kernel_rfl) (by kernel_rfl) (⟨p0, gdrew (grefl _) 1⟩) ?_
    repeat (first
      | (refine calm_skip (by rfl) ?_; simp only [Act.put, List.setIfInBounds_toArray, List.set_cons_zero, List.set_cons_succ])
      | (refine calm_step (by rfl) ?_
         apply Exists.intro
         refine ⟨fun w' hw' => ?_, ?_⟩
         · go_simp
           first | done | exact rfl | (go_at_call 57; go_fit (hasDisk_any _ _ _ _ _ hm); rintro e w8 ⟨rfl, rfl⟩; exact And.intro (by rw [hdk]) hw')
         simp only [Act.put, List.setIfInBounds_toArray, List.set_cons_zero, List.set_cons_succ]))
    refine calm_nil ?_
    intro w9 hw9
    have PE := HEnd.out _ hw9.2
    obtain ⟨⟨f0, -⟩, ⟨f1, -⟩, ⟨f2, -⟩, ⟨f3, -⟩, ⟨f4, -⟩⟩ := PE.F
    obtain ⟨⟨z0, y0⟩, ⟨z1, y1⟩, ⟨z2, y2⟩, ⟨z3, y3⟩, ⟨z4, y4⟩⟩ := PE.Z
    have HRe := Lib.hid (res5l PE.O (r := w.heap.size + 2) (by omega) (by omega) PE.G (.slice va a.ds.length vc) (.string (str a.log)) (.string (str a.next)) (.int .i64 a.stage) (.bool a.up))
    go_wp2_with fail
    exact bodyPost_ret (v := .tuple #[a.val (.slice va a.ds.length vc), .bool false]) (by simp [results, Tryz.results97, go_sem, z0, z1, z2, z3, z4]) rfl ⟨_, raw2, by rw [hno.1, hno.2], by rw [hno.1]; exact HRe.out.1, HRe.out.2⟩
  have hd := inB_iff.1 hdk
  obtain ⟨i, rfl⟩ := Int.eq_ofNat_of_zero_le hd.1
  have hi : i < a.ds.length := by omega
  have hii : (i : Int) < a.ds.length := by omega
  obtain ⟨ag, ao, ka, km, kc, na, nm, nc, rfl, x0, x1, x2, x3, DI⟩ := (h.kept G3).at i hi
  have C0 : StkS W3 W3.drew w.heap.size (.slice (some ⟨ag, ao, none⟩) a.ds.length cap) (.func (.func 155) #[] #[.pointer (some ⟨b, 0, none⟩)]) ag (ao + i * 4) (.int .i64 a.ds[i].n) (.bool a.ds[i].dead) (.slice ka km kc) (.slice na nm nc) := ⟨⟨p0, fc1, x0, x1, x2, x3⟩, gdrew (grefl _) 1⟩
  have hgi : a.ds.getD i .zero = a.ds[i] := getD_at hi
  cases hcan : (!a.ds[i].dead && decide (1 < aliveN a.ds))
  · have hno := HNo.out (by simp only [dieOk, hgi, Int.toNat_natCast]; rw [show decide (2 ≤ aliveN a.ds) = decide (1 < aliveN a.ds) from rfl, hcan, Bool.and_false])
    clear p0 p1 p2 p3 p4 fc1 fc2 x0 x1 x2 x3 hgi
    go_wp2_with fail
    refine region_calm (fun w' => StkS W3 w' w.heap.size (.slice (some ⟨ag, ao, none⟩) a.ds.length cap) (.func (.func 155) #[] #[.pointer (some ⟨b, 0, none⟩)]) ag (ao + i * 4) (.int .i64 a.ds[i].n) (.bool a.ds[i].dead) (.slice ka km kc) (.slice na nm nc)) (by kernel_rfl) (by kernel_rfl) (C0) ?_
    repeat (first
      | (refine calm_skip (by rfl) ?_; simp only [Act.put, List.setIfInBounds_toArray, List.set_cons_zero, List.set_cons_succ])
      | (refine calm_step (by rfl) ?_
         apply Exists.intro
         refine ⟨fun w' hw' => ?_, ?_⟩
         · go_simp
           first | done | exact rfl | (go_at_call 57; go_fit (hasDisk_any _ _ _ _ _ hm); rintro e w8 ⟨rfl, rfl⟩; exact And.intro (by rw [hdk]) hw') | (go_at_call 155; go_fit (dieCan_any b _ _ _ a.ds a.ds[i] _ (DI.kept9 hw'.2) (h.kept (gtrans G3 hw'.2)) (by omega) (gkc (gtrans G3 hw'.2) hb)); rintro e w8 ⟨rfl, g8⟩; exact And.intro (by rw [hcan]) (hw'.kept g8))
         simp only [Act.put, List.setIfInBounds_toArray, List.set_cons_zero, List.set_cons_succ]))
    refine calm_nil ?_
    intro w9 hw9
    have PE := HEnd.out _ hw9.2
    obtain ⟨⟨f0, -⟩, ⟨f1, -⟩, ⟨f2, -⟩, ⟨f3, -⟩, ⟨f4, -⟩⟩ := PE.F
    obtain ⟨⟨z0, y0⟩, ⟨z1, y1⟩, ⟨z2, y2⟩, ⟨z3, y3⟩, ⟨z4, y4⟩⟩ := PE.Z
    have HRe := Lib.hid (res5l PE.O (r := w.heap.size + 2) (by omega) (by omega) PE.G (.slice va a.ds.length vc) (.string (str a.log)) (.string (str a.next)) (.int .i64 a.stage) (.bool a.up))
    go_wp2_with fail
    exact bodyPost_ret (v := .tuple #[a.val (.slice va a.ds.length vc), .bool false]) (by simp [results, Tryz.results97, go_sem, z0, z1, z2, z3, z4]) rfl ⟨_, raw2, by rw [hno.1, hno.2], by rw [hno.1]; exact HRe.out.1, HRe.out.2⟩
  have HYes : Hid (diedZ a i = { a with ds := a.ds.set i (a.ds[i].died) } ∧ diedOk a i = true) := by
    have e : dieOk a i = true := by simp only [dieOk, hgi, Int.toNat_natCast]; rw [show decide (2 ≤ aliveN a.ds) = decide (1 < aliveN a.ds) from rfl, hcan, decide_eq_true (show 0 ≤ (i : Int) ∧ (i : Int) < a.ds.length from ⟨by omega, hii⟩), Bool.and_self]
    rw [HE.out.1, HE.out.2, e]
    exact ⟨by simp only [AZ.dies, e, if_true, Int.toNat_natCast, hgi], rfl⟩
  have hir : i < raw2.length := by rw [P3.O.len]; exact hi
  have hval : Hid ((Value.slice va a.ds.length vc).ownBlock = (Value.slice va a.ds.length vc).ownBlock) := rfl
  go_wp2_with fail
  refine region_calm (fun w' => StkS W3 w' w.heap.size (.slice (some ⟨ag, ao, none⟩) a.ds.length cap) (.func (.func 155) #[] #[.pointer (some ⟨b, 0, none⟩)]) ag (ao + i * 4) (.int .i64 a.ds[i].n) (.bool a.ds[i].dead) (.slice ka km kc) (.slice na nm nc)) (by kernel_rfl) (by kernel_rfl) (C0) ?_
  repeat (first
    | (refine calm_skip (by rfl) ?_; simp only [Act.put, List.setIfInBounds_toArray, List.set_cons_zero, List.set_cons_succ])
    | (refine calm_step (by rfl) ?_
       apply Exists.intro
       refine ⟨fun w' hw' => ?_, ?_⟩
       · go_simp
         first | done | exact rfl | (go_at_call 57; go_fit (hasDisk_any _ _ _ _ _ hm); rintro e w8 ⟨rfl, rfl⟩; exact And.intro (by rw [hdk]) hw') | (go_at_call 155; go_fit (dieCan_any b _ _ _ a.ds a.ds[i] _ (DI.kept9 hw'.2) (h.kept (gtrans G3 hw'.2)) (by omega) (gkc (gtrans G3 hw'.2) hb)); rintro e w8 ⟨rfl, g8⟩; exact And.intro (by rw [hcan]) (hw'.kept g8))
       simp only [Act.put, List.setIfInBounds_toArray, List.set_cons_zero, List.set_cons_succ]))
  refine calm_nil ?_
  intro w9 hw9
  have g39 := hw9.2
  have P9 := HP3.out.kept g39
  have DI9 := DI.kept9 g39
  obtain ⟨g, e', hgB, hgl, ⟨k0, m0⟩, ⟨k1, m1⟩, ⟨k2, m2⟩, ⟨k3, m3⟩⟩ := P9.O.at i hir hi
  cases e'
  have hgf : g ≠ fb := fun e => P9.vf (by rw [e]; rfl)
  have HFin : Hid (∀ (w8 : World) (kv nv : Value), w9.grownBy w8 none → IsD w8 w9.heap.size kv nv (a.ds[i].died) → Apart kv nv → ∃ raw8, Put5 w (set4At w8 g (i * 4) (.int .i64 (a.ds[i].died).n) (.bool (a.ds[i].died).dead) kv nv) fb (w.heap.size + 2) w1.heap.size (.slice (some ⟨g, 0, none⟩) a.ds.length vc) { a with ds := a.ds.set i (a.ds[i].died) } raw8) := by
    intro w8 kv nv g8 I8 ap8
    obtain ⟨ka8, km8, kc8, rfl⟩ := I8.1.sl
    obtain ⟨na8, nm8, nc8, rfl⟩ := I8.2.sl
    have hlo : w1.heap.size ≤ w9.heap.size := by have := e3.size; have := g39.size; omega
    exact ⟨_, P9.put i hir ⟨(a.ds[i].died).n, (a.ds[i].died).dead, ka8, km8, kc8, na8, nm8, nc8⟩ (a.ds[i].died) g8 ⟨rfl, rfl, Own.lower I8.1 hlo, Own.lower I8.2 hlo⟩ ap8 (fun k hk => by
      rcases hk with hk | hk
      · exact (Own.lt I8.1 k hk).1
      · exact (Own.lt I8.2 k hk).1)⟩
  obtain ⟨⟨p0', fc1', x0', x1', x2', x3'⟩, -⟩ := hw9
  have fc2' := gkc g39 FB3.out.2
  obtain ⟨⟨f0, -⟩, ⟨f1, -⟩, ⟨f2, -⟩, ⟨f3, -⟩, ⟨f4, -⟩⟩ := P9.F
  have GG := gtrans G3 g39
  have HLf := implDied_any (.slice ka km kc) (.slice na nm nc) a.ds[i] w9.drew (DI9.kept9 (gdrew (grefl _) 1))
  clear HNo HE HP3 P3 P9 HA HEnd C0 p0 p1 p2 p3 p4 fc1 fc2 x0 x1 x2 x3 hcan hgi DI
  generalize (a.ds[i].died) = LZ at *
  go_wp2_with fail
  go_region_with (first | (go_at_call 157; go_fit HLf; rintro e w6 ⟨kv, nv, rfl, I6, ap6, g6⟩; have gg6 : w9.grownBy w6 none := gtrans (gdrew (grefl _) 1) g6; have f0'' := gkc gg6 f0; have q0 := gkc gg6 k0; have q1 := gkc gg6 k1; have q2 := gkc gg6 k2; have q3 := gkc gg6 k3; have n0 := (gk gg6 ⟨k0, m0⟩).2; have n1 := (gk gg6 ⟨k1, m1⟩).2; have n2 := (gk gg6 ⟨k2, m2⟩).2; have n3 := (gk gg6 ⟨k3, m3⟩).2; obtain ⟨ka6, km6, kc6, rfl⟩ := I6.1.sl; obtain ⟨na6, nm6, nc6, rfl⟩ := I6.2.sl; have hF := Lib.hid (HFin.out w6 _ _ gg6 ⟨Own.lower I6.1 (Nat.le_refl _), Own.lower I6.2 (Nat.le_refl _)⟩ ap6)))
  all_goals (
    obtain ⟨raw8, P8⟩ := hF.out
    obtain ⟨⟨u0, -⟩, ⟨u1, -⟩, ⟨u2, -⟩, ⟨u3, -⟩, ⟨u4, -⟩⟩ := P8.F
    obtain ⟨⟨z0, y0⟩, ⟨z1, y1⟩, ⟨z2, y2⟩, ⟨z3, y3⟩, ⟨z4, y4⟩⟩ := P8.Z
    have hR := res5l P8.O (r := w.heap.size + 2) (by omega) (by omega) P8.G (.slice (some ⟨g, 0, none⟩) a.ds.length vc) (.string (str a.log)) (.string (str a.next)) (.int .i64 a.stage) (.bool a.up)
    dsimp only at u0 u1 u2 u3 u4
    unfold set5 set4At at hR
    have HR := Lib.hid hR
    clear hR
    unfold set4At at z0 z1 z2 z3 z4 y0 y1 y2 y3 y4 u0 u1 u2 u3 u4
    go_wp2_with fail
    exact bodyPost_ret (v := .tuple #[.agg #[.slice (some ⟨g, 0, none⟩) a.ds.length vc, .string (str a.log), .string (str a.next), .int .i64 a.stage, .bool a.up], .bool true]) (by simp [results, Tryz.results97, go_sem, z0, z1, z2, z3, z4]) rfl ⟨_, raw8, by rw [HYes.out.1, HYes.out.2], by rw [HYes.out.1]; exact HR.out.1, HR.out.2⟩)
end

section
attribute [local go_sem] str_list str_size str_add lit_list0 add_lit lit_add str_cut
set_option maxRecDepth 8000 in
set_option maxHeartbeats 1000000 in
theorem rotting_any (p y : Int) (w : World) :
    Calls Tryz.prog 98 #[.int .i64 p, .int .i64 y] w fun e w' => ∃ b c : Nat, e = .returned (.agg #[.func (.func 150) #[] #[.pointer (some ⟨b, 0, none⟩), .pointer (some ⟨c, 0, none⟩)], .func (.func 153) #[] #[.pointer (some ⟨b, 0, none⟩), .pointer (some ⟨c, 0, none⟩)]]) ∧ w'.cell? ⟨b, 0, none⟩ = some (.int .i64 p) ∧ w'.cell? ⟨c, 0, none⟩ = some (.int .i64 y) ∧ w.grownBy w' none := by
  go_enter Tryz.func98, Tryz.ntmps98
  go_wp2_with fail
  refine bodyPost_ret (v := .agg #[.func (.func 150) #[] #[.pointer (some ⟨w.heap.size, 0, none⟩), .pointer (some ⟨w.heap.size + 1, 0, none⟩)], .func (.func 153) #[] #[.pointer (some ⟨w.heap.size, 0, none⟩), .pointer (some ⟨w.heap.size + 1, 0, none⟩)]]) (by simp [results, Tryz.results98, go_sem]) rfl ⟨w.heap.size, w.heap.size + 1, rfl, by simp [go_sem], by simp [go_sem], ?_⟩
  repeat (first | exact grefl _ | refine galloc ?_ _ | refine gdrew ?_ _ | refine gsetN ?_ (by simp) _ _)
set_option maxRecDepth 8000 in
set_option maxHeartbeats 1000000 in
theorem dyingAmong_any (v : Value) (l : List DZ) (w : World) (h : LD w v l) :
    Calls Tryz.prog 99 #[v] w fun e w' => ∃ b : Nat, e = .returned (.agg #[.func (.func 155) #[] #[.pointer (some ⟨b, 0, none⟩)], .func (.func 157) #[] #[]]) ∧ w'.cell? ⟨b, 0, none⟩ = some v ∧ w.grownBy w' none := by
  obtain ⟨xa, cap, rfl, hm⟩ := h.form
  go_enter Tryz.func99, Tryz.ntmps99
  go_wp2_with fail
  refine bodyPost_ret (v := .agg #[.func (.func 155) #[] #[.pointer (some ⟨w.heap.size, 0, none⟩)], .func (.func 157) #[] #[]]) (by simp [results, Tryz.results99, go_sem]) rfl ⟨w.heap.size, rfl, by simp [go_sem], ?_⟩
  repeat (first | exact grefl _ | refine galloc ?_ _ | refine gdrew ?_ _ | refine gsetN ?_ (by simp) _ _)
set_option maxRecDepth 8000 in
set_option maxHeartbeats 4000000 in
theorem implRots_any (v : Value) (a : AZ) (d p y : Int) (w : World) (h : LD w v a.ds) (ht : Pow10 w) (hV : LibV w) :
    Calls Tryz.prog 46 #[a.val v, .int .i64 d, .int .i64 p, .int .i64 y] w (GotAB (rottedZ a d p y) (rottedOk a d p y) w) := by
  obtain ⟨xa, cap, rfl, hm⟩ := h.form
  have CI := fun (b c : Nat) (W : World) (h : LD W (.slice xa a.ds.length cap) a.ds) (t : Pow10 W) (l : LibV W) (hb : W.cell? ⟨b, 0, none⟩ = some (.int .i64 p)) (hc : W.cell? ⟨c, 0, none⟩ = some (.int .i64 y)) => struckRot_any _ a d b c p y W h t l hb hc
  generalize rottedZ a d p y = Z3 at *
  generalize rottedOk a d p y = O3 at *
  obtain ⟨B0, Z0, G0, s0⟩ := two_new w (.slice xa a.ds.length cap) (.string (str a.log)) (.string (str a.next)) (.int .i64 a.stage) (.bool a.up) 26
  go_enter Tryz.func46, Tryz.ntmps46
  go_upto_region 1 with (fail)
  generalize (w.alloc (.cells #[.slice xa a.ds.length cap, .string (str a.log), .string (str a.next), .int .i64 a.stage, .bool a.up] 26)).alloc zero5 = W0 at *
  have HB0 := Lib.hid B0
  have HZ0 := Lib.hid Z0
  obtain ⟨p0, p1, p2, p3, p4⟩ := B0
  clear Z0
  go_region_with (first
    | (go_at_call 98; go_fit (rotting_any p y _); rintro e w2 ⟨b, c, rfl, hb2, hc2, g2⟩; have gA : W0.grownBy w2 none := gtrans (gdrew (grefl _) 1) g2; obtain ⟨q0, q1, q2, q3, q4⟩ := HB0.out.kept gA)
    | (go_at_call 97; go_fit (CI b c _ (h.kept (gtrans G0 gA)) (ht.kept (gtrans G0 gA)) (hV.kept (gtrans G0 gA)) hb2 hc2); rintro e w3 ⟨v3, raw3, rfl, o3, g3⟩; have g13 : W0.grownBy w3 none := gtrans gA g3; have hs2 := gA.size; obtain ⟨⟨z0, y0⟩, ⟨z1, y1⟩, ⟨z2, y2⟩, ⟨z3, y3⟩, ⟨z4, y4⟩⟩ := HZ0.out.kept g13 (by simp); obtain ⟨va, vc, rfl, -⟩ := o3.form; have hR0 := res5l o3 (r := w.heap.size + 1) (by omega) (by omega) (gtrans G0 g13) (.slice va Z3.ds.length vc) (.string (str Z3.log)) (.string (str Z3.next)) (.int .i64 Z3.stage) (.bool Z3.up); unfold set5 at hR0; have hR := Lib.hid hR0; clear hR0))
  all_goals (
    go_wp2_with fail
    exact bodyPost_ret (v := .tuple #[Z3.val (.slice va Z3.ds.length vc), .bool O3]) (by simp [results, Tryz.results46, go_sem, z0, z1, z2, z3, z4]) rfl ⟨_, raw3, rfl, hR.out.1, hR.out.2⟩)
set_option maxRecDepth 8000 in
set_option maxHeartbeats 4000000 in
theorem implDies_any (v : Value) (a : AZ) (d : Int) (w : World) (h : LD w v a.ds) (ht : Pow10 w) (hV : LibV w) :
    Calls Tryz.prog 47 #[a.val v, .int .i64 d] w (GotAB (diedZ a d) (diedOk a d) w) := by
  obtain ⟨xa, cap, rfl, hm⟩ := h.form
  have CI := fun (b : Nat) (W : World) (h : LD W (.slice xa a.ds.length cap) a.ds) (t : Pow10 W) (l : LibV W) (hb : W.cell? ⟨b, 0, none⟩ = some (.slice xa a.ds.length cap)) => struckDie_any _ a d b W h t l hb
  generalize diedZ a d = Z3 at *
  generalize diedOk a d = O3 at *
  obtain ⟨B0, Z0, G0, s0⟩ := two_new w (.slice xa a.ds.length cap) (.string (str a.log)) (.string (str a.next)) (.int .i64 a.stage) (.bool a.up) 26
  go_enter Tryz.func47, Tryz.ntmps47
  go_upto_region 1 with (fail)
  generalize (w.alloc (.cells #[.slice xa a.ds.length cap, .string (str a.log), .string (str a.next), .int .i64 a.stage, .bool a.up] 26)).alloc zero5 = W0 at *
  have HB0 := Lib.hid B0
  have HZ0 := Lib.hid Z0
  obtain ⟨p0, p1, p2, p3, p4⟩ := B0
  clear Z0
  go_region_with (first
    | (go_at_call 99; go_fit (dyingAmong_any _ a.ds _ (h.kept (gtrans G0 (gdrew (grefl _) 1)))); rintro e w2 ⟨b, rfl, hb2, g2⟩; have gA : W0.grownBy w2 none := gtrans (gdrew (grefl _) 1) g2; obtain ⟨q0, q1, q2, q3, q4⟩ := HB0.out.kept gA)
    | (go_at_call 97; go_fit (CI b _ (h.kept (gtrans G0 gA)) (ht.kept (gtrans G0 gA)) (hV.kept (gtrans G0 gA)) hb2); rintro e w3 ⟨v3, raw3, rfl, o3, g3⟩; have g13 : W0.grownBy w3 none := gtrans gA g3; have hs2 := gA.size; obtain ⟨⟨z0, y0⟩, ⟨z1, y1⟩, ⟨z2, y2⟩, ⟨z3, y3⟩, ⟨z4, y4⟩⟩ := HZ0.out.kept g13 (by simp); obtain ⟨va, vc, rfl, -⟩ := o3.form; have hR0 := res5l o3 (r := w.heap.size + 1) (by omega) (by omega) (gtrans G0 g13) (.slice va Z3.ds.length vc) (.string (str Z3.log)) (.string (str Z3.next)) (.int .i64 Z3.stage) (.bool Z3.up); unfold set5 at hR0; have hR := Lib.hid hR0; clear hR0))
  all_goals (
    go_wp2_with fail
    exact bodyPost_ret (v := .tuple #[Z3.val (.slice va Z3.ds.length vc), .bool O3]) (by simp [results, Tryz.results47, go_sem, z0, z1, z2, z3, z4]) rfl ⟨_, raw3, rfl, hR.out.1, hR.out.2⟩)
end
end Go.Proofs.YtnkfmjgbeoddbaaGreatDoor
