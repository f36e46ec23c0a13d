/- Bytes in memory; l1Bend: a text that is bent. -/
import Derived.Deep.DeepCutAuto
import Derived.Deep.RegionLaw
import Derived.Laws.BytesArg
import Derived.Deep.DeepFit
import Derived.Test.YteialkknddpbjaaGreatDoorPH01
import Derived.Test.YteialkknddpbjaaGreatDoorPH07
import Derived.Test.YteialkknddpbjaaGreatDoorPH23
import Derived.Test.YteialkknddpbjaaGreatDoorPH05
import Derived.Test.YteialkknddpbjaaGreatDoorPH16
namespace Go.Proofs.YteialkknddpbjaaGreatDoor
open Go.ChangeShapes Go.WideShapes Go.ChangeAt Go.RowKit

/-- the drawing of a patch, on the way -/
structure DrP (w wr : World) (c b : Nat) (p : PZ) (dv vv : Value) : Prop where
  box : PBox wr b (w.heap.size + 1) p dv vv
  zero : Zero3 wr w.heap.size
  cur : Cur wr c
  grew : w.grownBy wr (some c)
  hc : c < w.heap.size
  hb : w.heap.size < b
section
variable {w wr w2 : World} {c b : Nat} {p p' : PZ} {dv vv dv' vv' : Value}
theorem DrP.step {r : Option Nat} (h : DrP w wr c b p dv vv) (D : PBox w2 b (w.heap.size + 1) p' dv' vv') (g : wr.grownBy w2 r) (hr : ∀ k, r = some k → w.heap.size < k) : DrP w w2 c b p' dv' vv' :=
  ⟨D, h.zero.kept g (fun e => by have := hr _ e; omega), h.cur.above g.size (fun k hk => g.block k (by have := h.cur.lt; omega) (fun e => by have := hr k e.symm; have := h.hc; omega)), gstep h.grew g (fun j e => by have := hr j e; omega), h.hc, h.hb⟩
theorem DrP.kept (h : DrP w wr c b p dv vv) (g : wr.grownBy w2 none) : DrP w w2 c b p dv vv := h.step (h.box.kept g) g (by simp)
/-- a draw -/
theorem DrP.draw (h : DrP w wr c b p dv vv) (g : wr.grownBy w2 (some c)) (hc : Cur w2 c) : DrP w w2 c b p dv vv := by
  have h1 := h.hc
  have h2 := h.hb
  have hk : dv.ownBlock ≠ some c := i_not_own h.box.ds (by omega)
  have hn : vv.ownBlock ≠ some c := i_not_own h.box.vs (by omega)
  have hb : (some c : Option Nat) ≠ some b := by simp; omega
  exact ⟨⟨gkr g hb h.box.c0, gkr g hb h.box.c1, gkr g hb h.box.c2, Own.kept h.box.ds g (.inr hk), Own.kept h.box.vs g (.inr hn), h.box.ap, h.box.db, h.box.vb⟩, h.zero.kept g (by simp; omega), hc, gtrans h.grew g, h1, h2⟩
theorem DrP.ownD (h : DrP w wr c b p dv vv) : ∀ k, dv.ownBlock = some k → w.heap.size < k := fun k e => by have := (h.box.ds.lt k e).1; omega
theorem DrP.ownV (h : DrP w wr c b p dv vv) : ∀ k, vv.ownBlock = some k → w.heap.size < k := fun k e => by have := (h.box.vs.lt k e).1; omega
/-- a cell behind the result variable is written -/
theorem DrP.put (h : DrP w wr c b p dv vv) {r o : Nat} {u : Value} (hr : w.heap.size < r) (D : PBox (wr.setCell ⟨r, o, none⟩ u) b (w.heap.size + 1) p' dv' vv') : DrP w (wr.setCell ⟨r, o, none⟩ u) c b p' dv' vv' :=
  h.step D (gset (World.grownBy.refl wr _) o u) (fun k e => by cases e; exact hr)
theorem DrP.app1 {v : Value} {m : List Int} (h : DrP w wr c b p dv vv) (g : wr.grownBy w2 dv.ownBlock) (hv : IS w2 (w.heap.size + 1) v (p.ds ++ m)) (hat : v.ownBlock = dv.ownBlock ∨ v.ownBlock = some wr.heap.size) :
    DrP w (w2.setCell ⟨b, 1, none⟩ v) c b { p with ds := p.ds ++ m } v vv := by
  have h1 := h.hc
  have h2 := h.hb
  have ho := h.ownD
  exact ⟨h.box.app1 g hv hat, (h.zero.kept g (fun e => by have := ho _ e; omega)).other (by omega) _, (h.cur.above g.size (fun k hk => g.block k (by have := h.cur.lt; omega) (fun e => by have := ho k e.symm; omega))).set (by omega) _ _,
    gset1 (gstep h.grew g (fun j e => by have := ho j e; omega)) (by omega) _ _, h1, h2⟩
theorem DrP.app2 {v : Value} {m : List Int} (h : DrP w wr c b p dv vv) (g : wr.grownBy w2 vv.ownBlock) (hv : IS w2 (w.heap.size + 1) v (p.vs ++ m)) (hat : v.ownBlock = vv.ownBlock ∨ v.ownBlock = some wr.heap.size) :
    DrP w (w2.setCell ⟨b, 2, none⟩ v) c b { p with vs := p.vs ++ m } dv v := by
  have h1 := h.hc
  have h2 := h.hb
  have ho := h.ownV
  exact ⟨h.box.app2 g hv hat, (h.zero.kept g (fun e => by have := ho _ e; omega)).other (by omega) _, (h.cur.above g.size (fun k hk => g.block k (by have := h.cur.lt; omega) (fun e => by have := ho k e.symm; omega))).set (by omega) _ _,
    gset1 (gstep h.grew g (fun j e => by have := ho j e; omega)) (by omega) _ _, h1, h2⟩
theorem DrP.row (h : DrP w wr c b p dv vv) (x : Int) : DrP w (wr.setCell ⟨b, 0, none⟩ (.int .i64 x)) c b ⟨x, p.ds, p.vs⟩ dv vv :=
  h.put h.hb ⟨h.box.c0.same _, h.box.c1.other (by simp) _, h.box.c2.other (by simp) _, Own.other h.box.ds h.box.db _, Own.other h.box.vs h.box.vb _, h.box.ap, h.box.db, h.box.vb⟩
theorem DrP.setD {g n cap : Nat} (h : DrP w wr c b p (.slice (some ⟨g, 0, none⟩) n cap) vv) (i : Nat) (x : Int) : DrP w (wr.setCell ⟨g, i, none⟩ (.int .i64 x)) c b ⟨p.row, p.ds.set i x, p.vs⟩ (.slice (some ⟨g, 0, none⟩) n cap) vv := by
  have hgb : g ≠ b := fun e => h.box.db (by rw [e]; rfl)
  have hv : vv.ownBlock ≠ some g := fun e => by rcases h.box.ap with z | z; cases z; exact z e.symm
  exact h.put (h.ownD g rfl) ⟨h.box.c0.other (by intro e; cases e; exact hgb rfl) _, h.box.c1.other (by intro e; cases e; exact hgb rfl) _, h.box.c2.other (by intro e; cases e; exact hgb rfl) _, IS.set h.box.ds i x, Own.other h.box.vs hv _, h.box.ap, h.box.db, h.box.vb⟩
theorem DrP.setV {g n cap : Nat} (h : DrP w wr c b p dv (.slice (some ⟨g, 0, none⟩) n cap)) (i : Nat) (x : Int) : DrP w (wr.setCell ⟨g, i, none⟩ (.int .i64 x)) c b ⟨p.row, p.ds, p.vs.set i x⟩ dv (.slice (some ⟨g, 0, none⟩) n cap) := by
  have hgb : g ≠ b := fun e => h.box.vb (by rw [e]; rfl)
  have hv : dv.ownBlock ≠ some g := fun e => by rcases h.box.ap with z | z; rw [z] at e; cases e; exact z e
  exact h.put (h.ownV g rfl) ⟨h.box.c0.other (by intro e; cases e; exact hgb rfl) _, h.box.c1.other (by intro e; cases e; exact hgb rfl) _, h.box.c2.other (by intro e; cases e; exact hgb rfl) _, Own.other h.box.ds hv _, IS.set h.box.vs i x, h.box.ap, h.box.db, h.box.vb⟩
/-- the drawn patch is handed back -/
theorem DrP.fin (h : DrP w wr c b p dv vv) (x0 x1 x2 : Value) :
    IS (set3 wr w.heap.size x0 x1 x2) w.heap.size dv p.ds ∧ IS (set3 wr w.heap.size x0 x1 x2) w.heap.size vv p.vs ∧ Apart dv vv ∧ Cur (set3 wr w.heap.size x0 x1 x2) c ∧ w.grownBy (set3 wr w.heap.size x0 x1 x2) (some c) := by
  have hd := i_not_own h.box.ds (show w.heap.size < w.heap.size + 1 by omega)
  have hv := i_not_own h.box.vs (show w.heap.size < w.heap.size + 1 by omega)
  exact ⟨Own.other (Own.other (Own.other (Own.lower h.box.ds (by omega)) hd _) hd _) hd _, Own.other (Own.other (Own.other (Own.lower h.box.vs (by omega)) hv _) hv _) hv _, h.box.ap,
    ((h.cur.set h.hc _ _).set h.hc _ _).set h.hc _ _, gset1 (gset1 (gset1 h.grew (Nat.le_refl _) _ _) (Nat.le_refl _) _ _) (Nat.le_refl _) _ _⟩
end
/-- a drawn patch -/
def DrawnP (c : Nat) (w : World) (e : Ending) (w' : World) : Prop :=
  ∃ (p : PZ) (dv vv : Value), e = .returned (.agg #[.int .i64 p.row, dv, vv]) ∧ IS w' w.heap.size dv p.ds ∧ IS w' w.heap.size vv p.vs ∧ Apart dv vv ∧ p.ds.length ≤ 2 ∧ p.vs.length ≤ 3 ∧ Cur w' c ∧ w.grownBy w' (some c)
/-- it is laid out -/
theorem DrP.start {w w2 w3 : World} {c : Nat} {x y z : Int} (hc : c < w.heap.size) (hs : w.heap.size < w2.heap.size) (Z2 : Zero3 w2 w.heap.size) (G2 : w.grownBy w2 (some c)) (g3 : (w2.alloc (.cells #[.int .i64 y] 2)).grownBy w3 (some c)) (C3 : Cur w3 c) :
    DrP w ((w3.alloc (.cells #[.int .i64 z] 2)).alloc (.cells #[.int .i64 x, .slice (some ⟨w2.heap.size, 0, none⟩) 1 1, .slice (some ⟨w3.heap.size, 0, none⟩) 1 1] 97)) c (w3.heap.size + 1) ⟨x, [y], [z]⟩ (.slice (some ⟨w2.heap.size, 0, none⟩) 1 1) (.slice (some ⟨w3.heap.size, 0, none⟩) 1 1) := by
  have I2 : IS (w2.alloc (.cells #[.int .i64 y] 2)) (w.heap.size + 1) (.slice (some ⟨w2.heap.size, 0, none⟩) 1 1) [y] := IS.single w2 y (by omega)
  have I3 := Own.kept I2 g3 (.inr (by simp [Value.ownBlock]; omega))
  have hs3 := g3.size
  simp at hs3
  have J3 : IS (w3.alloc (.cells #[.int .i64 z] 2)) (w.heap.size + 1) (.slice (some ⟨w3.heap.size, 0, none⟩) 1 1) [z] := IS.single w3 z (by omega)
  have e1 := galloc (grefl w3) (.cells #[.int .i64 z] 2)
  have e2 := galloc (grefl (w3.alloc (.cells #[.int .i64 z] 2))) (.cells #[.int .i64 x, .slice (some ⟨w2.heap.size, 0, none⟩) 1 1, .slice (some ⟨w3.heap.size, 0, none⟩) 1 1] 97)
  refine ⟨⟨by simp [At, go_sem], by simp [At, go_sem], by simp [At, go_sem], Own.grew (Own.grew I3 e1) e2, Own.grew J3 e2, .inr (by simp [Value.ownBlock]; omega), by simp [Value.ownBlock]; omega, by simp [Value.ownBlock]⟩, ?_, (C3.alloc _).alloc _, galloc (galloc (gtrans (galloc G2 _) g3) _) _, hc, by omega⟩
  exact ((((Z2.kept (galloc (grefl w2) _) (by simp)).kept g3 (by simp; omega)).kept e1 (by simp)).kept e2 (by simp))
set_option maxRecDepth 8000 in
set_option maxHeartbeats 8000000 in
theorem l7Draw_any (c : Nat) (w : World) (hc : Cur w c) :
    Calls Tryz.prog 215 #[.pointer (some ⟨c, 0, none⟩)] w (DrawnP c w) := by
  have hlt := hc.lt
  have Z0 := Zero3.new w
  have C0 := hc.alloc (.cells #[.int .i64 0, .slice none 0 0, .slice none 0 0] 97)
  have G0 := galloc (World.grownBy.refl w (some c)) (.cells #[.int .i64 0, .slice none 0 0, .slice none 0 0] 97)
  have hs0 : w.heap.size < (w.alloc (.cells #[.int .i64 0, .slice none 0 0, .slice none 0 0] 97)).heap.size := by simp
  clear hc
  go_enter Tryz.func215, Tryz.ntmps215
  go_upto_region 1 with (fail)
  generalize w.alloc (.cells #[.int .i64 0, .slice none 0 0, .slice none 0 0] 97) = W0 at *
  go_wp2_with fail
  go_fit (l1Below_any c _ _ C0 (by omega))
  rintro e w1 ⟨x, ⟨hx0, hx1⟩, rfl, hc1, g1⟩
  go_wp2_with fail
  go_fit (l1Below_any c _ _ hc1 (by omega))
  rintro e w2 ⟨y, ⟨hy0, hy1⟩, rfl, hc2, g2⟩
  have Z2 := (Z0.kept g1 (by simp; omega)).kept g2 (by simp; omega)
  have G2 := gtrans (gtrans G0 g1) g2
  have hs2 : w.heap.size < w2.heap.size := by have := g1.size; have := g2.size; omega
  clear Z0 G0 g1 g2 hc1 C0 hs0
  go_wp2_with fail
  go_fit (l1Below_any c _ _ (hc2.alloc _) (by omega))
  rintro e w3 ⟨z, ⟨hz0, hz1⟩, rfl, hc3, g3⟩
  have R := DrP.start (x := x) (z := z) hlt hs2 Z2 G2 g3 hc3
  clear Z2 G2 hc3 hc2
  go_upto_region 2 with (fail)
  generalize (w3.alloc (.cells #[.int .i64 z] 2)).alloc (.cells #[.int .i64 x, .slice (some ⟨w2.heap.size, 0, none⟩) 1 1, .slice (some ⟨w3.heap.size, 0, none⟩) 1 1] 97) = W1 at *
  generalize w3.heap.size + 1 = b at *
  have hw23 : w2.heap.size ≤ w3.heap.size := by have := g3.size; simp at this; omega
  clear g3
  go_wp2_with fail
  go_fit (l1Once_any c _ _ R.cur (by omega))
  rintro e w4 ⟨b1, rfl, hc4, g4⟩
  replace R := R.draw g4 hc4
  clear g4 hc4
  go_upto_if 14 with (fail)
  go_cut [3] (fun t wc => t = .pointer (some ⟨b, 0, none⟩) ∧ ∃ p dv vv, DrP w wc c b p dv vv ∧ 1 ≤ p.ds.length ∧ p.ds.length ≤ 2 ∧ 1 ≤ p.vs.length ∧ p.vs.length ≤ 2)
  case first =>
    cases b1
    · go_wp2_with fail
      go_meet
      exact ⟨rfl, _, _, _, R, by simp⟩
    · obtain ⟨c1, f1⟩ := R.box.c1
      obtain ⟨gd, ed, -, -, ⟨y0, z0⟩⟩ := IS.at R.box.ds 0 (by simp)
      simp only [Option.some.injEq, Addr.mk.injEq, and_true] at ed
      subst ed
      change w4.cell? _ = some (.int .i64 y) at y0
      have hbw := R.box.lt
      go_wp2_with fail
      go_cut [3] (fun t wc => t = .pointer (some ⟨b, 0, none⟩) ∧ ∃ q dv, DrP w wc c b ⟨x, [y] ++ [q], [z]⟩ dv (.slice (some ⟨w3.heap.size, 0, none⟩) 1 1))
      case first =>
        go_region_law (first | (go_simp; go_at_call 105; go_fit (l1Below_any c _ _ (R.kept (gdrew (grefl _) 1)).cur (by omega)); rintro e w9 ⟨u, ⟨hu0, hu1⟩, rfl, hc9, g9⟩; have R9 := (R.kept (gdrew (grefl _) 1)).draw g9 hc9; obtain ⟨d1, h1⟩ := R9.box.c1; obtain ⟨gd', ed', -, -, ⟨y1, z1⟩⟩ := IS.at R9.box.ds 0 (by simp); cases ed'; change w9.cell? _ = some (.int .i64 y) at y1; have hq := R9.box.lt) | (refine step_append_o (E := intE) rfl (.tmp 16) (.tmp 25) rfl rfl rfl (DrP.box (DrP.kept R9 (galloc (grefl _) _))).ds (IS.single _ _ (Nat.zero_le _)) (by simp) (by decide) (by have := R9.box.lt; have := R9.hb; simp; omega) ?_; intro v' wa hown hga hat; have RP := DrP.kept R9 (galloc (grefl w9) (.cells #[.int .i64 (IntKind.i64.wrap (IntKind.i64.wrap (y + 1) + u))] 2)); have RA := RP.app1 hga hown hat; obtain ⟨c4, f4⟩ := gkr hga RP.box.db RP.box.c1; obtain ⟨a4, m4, q4, rfl⟩ := hown.sl))
        all_goals
          go_wp2_with fail
          go_meet
          exact ⟨rfl, _, _, RA⟩
      case rest =>
        clear R c1 f1 y0 z0 hbw
        obtain ⟨rfl, q, dv, R⟩ := hcut
        obtain ⟨c2, f2⟩ := R.box.c2
        have hbw := R.box.lt
        go_wp2_with fail
        go_region_law (first | (go_simp; go_at_call 105; go_fit (l1Below_any c _ _ (R.kept (gdrew (grefl _) 1)).cur (by omega)); rintro e w9 ⟨u, ⟨hu0, hu1⟩, rfl, hc9, g9⟩; have R9 := (R.kept (gdrew (grefl _) 1)).draw g9 hc9; obtain ⟨d1, h1⟩ := R9.box.c2; have hq := R9.box.lt) | (refine step_append_o (E := intE) rfl (.tmp 29) (.tmp 32) rfl rfl rfl (DrP.box (DrP.kept R9 (galloc (grefl _) _))).vs (IS.single _ _ (Nat.zero_le _)) (by simp) (by decide) (by have := R9.box.lt; have := R9.hb; simp; omega) ?_; intro v' wa hown hga hat; have RP := DrP.kept R9 (galloc (grefl w9) (.cells #[.int .i64 u] 2)); have RA := RP.app2 hga hown hat; obtain ⟨c4, f4⟩ := gkr hga RP.box.vb RP.box.c2; obtain ⟨a4, m4, q4, rfl⟩ := hown.sl))
        all_goals
          go_wp2_with fail
          go_meet
          exact ⟨rfl, _, _, _, RA, by simp⟩
  case rest =>
    clear R
    obtain ⟨rfl, p, dv, vv, R, l1, l2, l3, l4⟩ := hcut
    go_wp2_with fail
    go_fit (l1Once_any c _ _ R.cur (by omega))
    rintro e w5 ⟨b2, rfl, hc5, g5⟩
    replace R := R.draw g5 hc5
    clear g5 hc5
    go_upto_if 36 with (fail)
    go_cut [3] (fun t wc => t = .pointer (some ⟨b, 0, none⟩) ∧ ∃ p dv vv, DrP w wc c b p dv vv ∧ p.ds.length ≤ 2 ∧ p.vs.length ≤ 3)
    case first =>
      cases b2
      · go_wp2_with fail
        go_meet
        exact ⟨rfl, _, _, _, R, l2, by omega⟩
      · go_wp2_with fail
        go_fit (l1Below_any c _ _ R.cur (by omega))
        rintro e w6 ⟨k, ⟨hk0, hk1⟩, rfl, hc6, g6⟩
        replace R := R.draw g6 hc6
        clear g6 hc6
        obtain ⟨da, dc, rfl, hdm⟩ := R.box.ds.form
        obtain ⟨va, vc, rfl, hvm⟩ := R.box.vs.form
        rcases (show k = 0 ∨ k = 1 ∨ k = 2 ∨ k = 3 by omega) with rfl | rfl | rfl | rfl
        · go_wp2_with fail
          go_fit (l1DrawPlace_any c _ R.cur)
          rintro e w7 ⟨u, hu, rfl, hc7, g7⟩
          replace R := R.draw g7 hc7
          obtain ⟨c0, f0⟩ := R.box.c0
          have RA := R.row u
          go_wp2_with fail
          go_meet
          exact ⟨rfl, _, _, _, RA, l2, by dsimp only; omega⟩
        · obtain ⟨gd, rfl, -, -, ⟨y0, z0⟩⟩ := IS.at R.box.ds 0 (by omega)
          obtain ⟨c1, f1⟩ := R.box.c1
          have hpos : 0 < p.ds.length := by omega
          go_wp2_with fail
          go_region_law (first | (go_simp; go_at_call 72; go_fit (l1DrawDisk_any c _ (R.kept (gdrew (grefl _) 1)).cur); rintro e w9 ⟨u, hu, rfl, hc9, g9⟩; have R9 := (R.kept (gdrew (grefl _) 1)).draw g9 hc9; obtain ⟨d1, h1⟩ := R9.box.c1; obtain ⟨gd', ed', -, -, ⟨y1, z1⟩⟩ := IS.at R9.box.ds 0 (by omega); cases ed'; have RA := R9.setD 0 u))
          all_goals
            go_wp2_with fail
            go_meet
            exact ⟨rfl, _, _, _, RA, by simpa using l2, by dsimp only; omega⟩
        · obtain ⟨gv, rfl, -, -, ⟨y0, z0⟩⟩ := IS.at R.box.vs 0 (by omega)
          obtain ⟨c2, f2⟩ := R.box.c2
          have hpos : 0 < p.vs.length := by omega
          go_wp2_with fail
          go_region_law (first | (go_simp; go_at_call 263; go_fit (l1DrawValue_any c _ (R.kept (gdrew (grefl _) 1)).cur); rintro e w9 ⟨u, hu, rfl, hc9, g9⟩; have R9 := (R.kept (gdrew (grefl _) 1)).draw g9 hc9; obtain ⟨d1, h1⟩ := R9.box.c2; obtain ⟨gv', ev', -, -, ⟨y1, z1⟩⟩ := IS.at R9.box.vs 0 (by omega); cases ev'; have RA := R9.setV 0 u))
          all_goals
            go_wp2_with fail
            go_meet
            exact ⟨rfl, _, _, _, RA, l2, by simp; omega⟩
        · obtain ⟨c2, f2⟩ := R.box.c2
          have hbw := R.box.lt
          have hbb := R.hb
          go_wp2_with (first | (at_builtin; refine wpList_append_o (E := intE) (base := w.heap.size + 1) rfl (.tmp 61) (.tmp 62) rfl rfl rfl (DrP.box (DrP.kept R (galloc (grefl _) _))).vs (IS.single _ 5 (Nat.zero_le _)) (by simp; omega) (by decide) (by simp; omega) ?_; intro v' wa hown hga hat; have RP := DrP.kept R (galloc (grefl w6) (.cells #[.int .i64 5] 2)); have RA := RP.app2 hga hown hat; obtain ⟨c4, f4⟩ := gkr hga RP.box.vb RP.box.c2; obtain ⟨a4, m4, q4, rfl⟩ := hown.sl))
          go_meet
          exact ⟨rfl, _, _, _, RA, l2, by simp; omega⟩
    case rest =>
      clear R
      obtain ⟨rfl, p, dv, vv, R, l2, l4⟩ := hcut
      obtain ⟨da, dc, rfl, hdm⟩ := R.box.ds.form
      obtain ⟨va, vc, rfl, hvm⟩ := R.box.vs.form
      have hfin := R.fin (.int .i64 p.row) (.slice da p.ds.length dc) (.slice va p.vs.length vc)
      obtain ⟨⟨z0, y0⟩, ⟨z1, y1⟩, ⟨z2, y2⟩⟩ := R.zero
      obtain ⟨c0, f0⟩ := R.box.c0
      obtain ⟨c1, f1⟩ := R.box.c1
      obtain ⟨c2, f2⟩ := R.box.c2
      clear R
      go_wp2_with fail
      exact bodyPost_ret (v := .agg #[.int .i64 p.row, .slice da p.ds.length dc, .slice va p.vs.length vc]) (by simp [results, Tryz.results215, go_sem, z0, z1, z2]) rfl ⟨p, _, _, rfl, hfin.1, hfin.2.1, hfin.2.2.1, l2, l4, hfin.2.2.2.1, hfin.2.2.2.2⟩
end Go.Proofs.YteialkknddpbjaaGreatDoor

namespace Go.Proofs.YteialkknddpbjaaGreatDoor
open Go.ChangeShapes Go.WideShapes Go.ChangeAt Go.RowKit
attribute [local go_sem] str_list str_size str_add lit_list0 add_lit lit_add str_cut

/-- bytes in memory -/
def byteE : Elt UInt8 where
  T := 5
  S := 22
  size := 1
  bytes := 1
  z := .int .u8 0
  enc := fun x => [.int .u8 x.toNat]
  len := fun _ => rfl
  one := fun x u hu => by simp at hu; rcases hu with rfl; rfl
  pos := by omega
  und := Tryz.underlying22
  info := by kernel_rfl
  zs := rfl
abbrev BS (w : World) (base : Nat) (v : Value) (l : List UInt8) : Prop := Own byteE w base v l
/-- a slice whose bytes l can be read and written -/
def BW (w : World) (base : Nat) (v : Value) (l : List UInt8) : Prop :=
  ∃ a cap, v = .slice a l.length cap ∧ l.length ≤ cap ∧ cap ≤ 9223372036854775807 ∧ (l = [] ∨ ∃ g, a = some ⟨g, 0, none⟩ ∧ base ≤ g ∧ g < w.heap.size ∧ ∀ i (h : i < l.length), At w g i (.int .u8 l[i].toNat))
section
variable {w w' : World} {base : Nat} {v : Value} {l : List UInt8}
theorem BW.own (h : BS w base v l) : BW w base v l := by
  obtain ⟨a, cap, rfl, hm⟩ := Own.form h
  have hc : l.length ≤ cap ∧ cap ≤ 9223372036854775807 := by
    obtain ⟨_, ⟨h1, h2⟩ | ⟨g', c, cur, hv, hb, hg, h1, h2, h3, h4⟩⟩ := h
    · simp only [Value.slice.injEq] at h1
      omega
    · cases hv; unfold maxLen at h2; omega
  refine ⟨a, cap, rfl, hc.1, hc.2, ?_⟩
  by_cases h0 : l = []
  · exact .inl h0
  · have hp : 0 < l.length := List.length_pos_iff.2 h0
    obtain ⟨g, rfl, hb, hg, -⟩ := Own.at h 0 hp
    refine .inr ⟨g, rfl, hb, hg, fun i hi => ?_⟩
    obtain ⟨g', e, -, -, h4⟩ := Own.at h i hi
    cases e
    have := h4 0 _ rfl
    simpa [byteE] using this
theorem BW.kept {r : Option Nat} (h : BW w base v l) (g : w.grownBy w' r) (hr : ∀ k, r = some k → k < base) : BW w' base v l := by
  obtain ⟨a, cap, h1, h2, h3, h4 | ⟨q, h4, h5, h6, h7⟩⟩ := h
  · exact ⟨a, cap, h1, h2, h3, .inl h4⟩
  · exact ⟨a, cap, h1, h2, h3, .inr ⟨q, h4, h5, by have := g.size; omega, fun i hi => gkr g (fun e => by have := hr _ e; omega) (h7 i hi)⟩⟩
theorem BW.at {a : Option Addr} {n cap : Nat} (h : BW w base (.slice a n cap) l) (i : Nat) (hi : i < l.length) : ∃ g, a = some ⟨g, 0, none⟩ ∧ base ≤ g ∧ g < w.heap.size ∧ At w g i (.int .u8 l[i].toNat) := by
  obtain ⟨a', cap', h1, h2, h3, h4 | ⟨q, h4, h5, h6, h7⟩⟩ := h
  · subst h4; simp at hi
  · cases h1; exact ⟨q, h4, h5, h6, h7 i hi⟩
theorem BW.form (h : BW w base v l) : ∃ a cap, v = .slice a l.length cap ∧ l.length ≤ cap ∧ cap ≤ 9223372036854775807 := by
  obtain ⟨a, cap, h1, h2, h3, -⟩ := h; exact ⟨a, cap, h1, h2, h3⟩
theorem BW.set {n cap g : Nat} (h : BW w base (.slice (some ⟨g, 0, none⟩) n cap) l) (i : Nat) (x : UInt8) (hi : i < l.length) :
    BW (w.setCell ⟨g, i, none⟩ (.int .u8 x.toNat)) base (.slice (some ⟨g, 0, none⟩) n cap) (l.set i x) := by
  obtain ⟨a', cap', h1, h2, h3, h4 | ⟨q, h4, h5, h6, h7⟩⟩ := h
  · subst h4; simp at hi
  · cases h1
    cases h4
    refine ⟨_, cap, by simp, by simpa using h2, h3, .inr ⟨g, rfl, h5, by simpa [World.setCell] using h6, fun j hj => ?_⟩⟩
    simp only [List.length_set] at hj
    by_cases e : i = j
    · subst e
      rw [List.getElem_set_self]
      exact (h7 i hi).same _
    · rw [List.getElem_set_ne e]
      exact (h7 j hj).other (by intro q; cases q; exact e rfl) _
theorem BW.cut {a : Option Addr} {n cap k : Nat} (h : BW w base (.slice a n cap) l) (hk : k ≤ l.length) : BW w base (.slice a k cap) (l.take k) := by
  obtain ⟨a', cap', h1, h2, h3, h4⟩ := h
  cases h1
  refine ⟨a, cap, by simp; omega, by simp; omega, h3, ?_⟩
  rcases h4 with h4 | ⟨q, h4, h5, h6, h7⟩
  · subst h4; exact .inl (by simp)
  · exact .inr ⟨q, h4, h5, h6, fun i hi => by simp at hi; simpa using h7 i (by omega)⟩
theorem BW.conv (w : World) (s : List UInt8) (cap : Nat) (n : Nat × Nat) (h1 : s.length ≤ cap) (h2 : cap ≤ 9223372036854775807) (hn : n = ((bytesRow (str s) cap).size, (bytesRow (str s) cap).size + 1)) (hb : base ≤ w.heap.size) : BW (w.alloc (.cells (bytesRow (str s) cap) 5 n)) base (.slice (some ⟨w.heap.size, 0, none⟩) s.length cap) s := by
  refine ⟨_, cap, rfl, h1, h2, .inr ⟨w.heap.size, rfl, hb, by simp, fun i hi => ?_⟩⟩
  have hd : (str s).data.size = s.length := by simp [str]
  have hsz : (bytesRow (str s) cap).size = cap := by unfold bytesRow; rw [Array.size_append, Array.size_map, Array.size_replicate, hd, str_size]; omega
  have hget : (bytesRow (str s) cap)[i]? = some (.int .u8 s[i].toNat) := by
    unfold bytesRow
    rw [Array.getElem?_append_left (by simp [str]; exact hi)]
    simp [str, hi]
  have hh : (w.alloc (.cells (bytesRow (str s) cap) 5 n)).heap[w.heap.size]? = some (.cells (bytesRow (str s) cap) 5 n) := by
    show (w.heap.push _)[_]? = _; simp
  subst hn
  refine ⟨?_, ?_⟩
  · unfold World.cell?
    dsimp only
    rw [hh]
    exact hget
  · unfold World.frozen?
    dsimp only
    rw [hh]
    simp [hsz]
    omega
end
section
variable {α : Type} {E : Elt α} {w : World} {base : Nat}
end
theorem BS.single (w : World) (base : Nat) (x : UInt8) (hb : base ≤ w.heap.size) : BS (w.alloc (.cells #[.int .u8 x.toNat] 5)) base (.slice (some ⟨w.heap.size, 0, none⟩) 1 1) [x] :=
  Own.fresh byteE w [x] _ rfl (by simp) hb
theorem BS.empty (w : World) (base : Nat) (hb : base ≤ w.heap.size) : BS (w.alloc (.cells #[] 5)) base (.slice (some ⟨w.heap.size, 0, none⟩) 0 0) [] :=
  Own.fresh byteE w [] _ rfl (by simp) hb
end Go.Proofs.YteialkknddpbjaaGreatDoor
