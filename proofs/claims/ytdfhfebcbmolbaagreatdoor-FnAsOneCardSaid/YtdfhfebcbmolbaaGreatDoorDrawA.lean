/- The drawn arrays of chapter 9, any of them, and what the laws of chapter 9 draw. What the laws of chapter 9 draw. -/
import Derived.Test.YtdfhfebcbmolbaaGreatDoorDrawL09
import Derived.Test.YtdfhfebcbmolbaaGreatDoorDrawL08
import Derived.Test.YtdfhfebcbmolbaaGreatDoorOwnA
import Derived.Test.YtdfhfebcbmolbaaGreatDoorDrawL05
import Derived.Deep.RegionHeld3
import Derived.RegionTactic
namespace Go.Proofs.YtdfhfebcbmolbaaGreatDoor
open Go.ChangeShapes Go.WideShapes Go.ChangeAt Go.RowKit
attribute [local go_sem] str_list str_size str_add lit_list0 add_lit lit_add str_cut

/-- a drawn array, right or not -/
def DrawnAr (c : Nat) (w : World) (e : Ending) (w' : World) : Prop :=
  ∃ (a : AZ) (v : Value), e = .returned (a.val v) ∧ (∀ w2, Only (fun k => k < w.heap.size) w' w2 → LD w2 v a.ds) ∧ a.log.length ≤ 2100 ∧ a.next.length ≤ 2100 ∧ Cur w' c ∧ w.grownBy w' (some c)
theorem gset5c {a w : World} {r : Nat} {x : Option Nat} (h : a.grownBy w x) (hr : a.heap.size ≤ r) (x0 x1 x2 x3 x4 : Value) : a.grownBy (set5 w r x0 x1 x2 x3 x4) x := gset1 (gset1 (gset1 (gset1 (gset1 h hr _ _) hr _ _) hr _ _) hr _ _) hr _ _
theorem gset5d {a w : World} {r : Nat} (h : a.grownBy w (some r)) (x0 x1 x2 x3 x4 : Value) : a.grownBy (set5 w r x0 x1 x2 x3 x4) (some r) := gset (gset (gset (gset (gset h _ _) _ _) _ _) _ _) _ _
theorem only_set5 (w : World) (r : Nat) (x0 x1 x2 x3 x4 : Value) {S : Nat → Prop} (hr : S r) : Only S w (set5 w r x0 x1 x2 x3 x4) :=
  Only.of (gset5d (World.grownBy.refl w (some r)) x0 x1 x2 x3 x4) (fun k e => by cases e; exact hr)
theorem Cur.set5 {w : World} {c r : Nat} (h : Cur w c) (hc : c < r) (x0 x1 x2 x3 x4 : Value) : Cur (Go.Proofs.YtdfhfebcbmolbaaGreatDoor.set5 w r x0 x1 x2 x3 x4) c := by
  unfold Go.Proofs.YtdfhfebcbmolbaaGreatDoor.set5
  exact ((((h.set hc _ _).set hc _ _).set hc _ _).set hc _ _).set hc _ _
/-- the array in the box b is the answer -/
theorem ar_done {w W : World} {c b B r : Nat} {a : AZ} {va : Option Addr} {vn vc : Nat} {raw : List DV} (A : ABox W b B a (.slice va vn vc) raw) (C : Cur W c) (G : w.grownBy W (some c)) (hr : r < B) (hw : w.heap.size ≤ r) (hc : c < w.heap.size) (h1 : a.log.length ≤ 2100) (h2 : a.next.length ≤ 2100) :
    DrawnAr c w (.returned (a.val (.slice va vn vc))) (set5 W r (.slice va vn vc) (.string (str a.log)) (.string (str a.next)) (.int .i64 a.stage) (.bool a.up)) := by
  obtain ⟨n1, n2⟩ := A.od.not_old hr
  have O := A.od.set5 n1 n2 (.slice va vn vc) (.string (str a.log)) (.string (str a.next)) (.int .i64 a.stage) (.bool a.up)
  exact ⟨a, _, rfl, fun w2 g2 => (O.low g2 (by omega)).ld, h1, h2, C.set5 (by omega) _ _ _ _ _, gset5c G hw _ _ _ _ _⟩
set_option maxRecDepth 8000 in
set_option maxHeartbeats 4000000 in
theorem l9DrawAny_any (c : Nat) (w : World) (hc : Cur w c) :
    Calls Tryz.prog 91 #[.pointer (some ⟨c, 0, none⟩)] w (DrawnAr c w) := by
  have hlt := hc.lt
  have Z0 := Zero5.new w
  have G0 := galloc (grefl w) zero5
  have s0 : (w.alloc zero5).heap.size = w.heap.size + 1 := by simp
  have C0 := hc.kept G0 (by simp)
  clear hc
  go_enter Tryz.func91, Tryz.ntmps91
  go_upto_region 1 with (fail)
  generalize w.alloc zero5 = W0 at *
  go_wp2_with fail
  go_fit (l9Draw_any c _ C0)
  rintro e w1 ⟨a, v1, raw1, rfl, AG, O1, C1, g1⟩
  obtain ⟨va, vn, vc, rfl⟩ := O1.own.sl
  have hb := g1.size
  have A2 := ABox.new O1 47
  have e2 := galloc (grefl w1) (.cells #[.slice va vn vc, .string (str a.log), .string (str a.next), .int .i64 a.stage, .bool a.up] 47)
  have C2 := C1.kept e2 (by simp)
  have G2 := gtrans (gtrans (gweak G0 (some c)) g1) (gweak e2 (some c))
  have Z2 := (Z0.kept g1 (by simp; omega)).kept e2 (by simp)
  have hs2 : w1.heap.size < (w1.alloc (.cells #[.slice va vn vc, .string (str a.log), .string (str a.next), .int .i64 a.stage, .bool a.up] 47)).heap.size := by simp
  have hlg : a.log.length ≤ 2100 := by have := AG.log; omega
  have hnx : a.next.length ≤ 2100 := by have := AG.next; omega
  clear AG O1 C1 g1 e2 Z0 G0 C0
  go_upto_region 2 with (fail)
  generalize w1.alloc (.cells #[.slice va vn vc, .string (str a.log), .string (str a.next), .int .i64 a.stage, .bool a.up] 47) = W2 at *
  generalize w1.heap.size = b at *
  go_wp2_with fail
  go_fit (l1Once_any c _ _ C2 (by omega))
  rintro e w3 ⟨b1, rfl, C3, g3⟩
  have A3 := A2.drawn g3 (by omega) (by omega)
  have Z3 := Z2.kept g3 (by simp; omega)
  have G3 := gtrans G2 g3
  have hs3 := g3.size
  clear A2 C2 Z2 G2 g3
  cases b1
  · obtain ⟨k0, k1, k2, k3, k4⟩ := A3.box
    obtain ⟨⟨z0, y0⟩, ⟨z1, y1⟩, ⟨z2, y2⟩, ⟨z3, y3⟩, ⟨z4, y4⟩⟩ := Z3
    have hfin := ar_done A3 C3 G3 (r := w.heap.size) (by omega) (Nat.le_refl _) hlt hlg hnx
    go_wp2_with fail
    exact bodyPost_ret (v := a.val (.slice va vn vc)) (by simp [results, Tryz.results91, go_sem, z0, z1, z2, z3, z4]) rfl hfin
  go_wp2_with fail
  go_fit (l1Below_any c _ _ C3 (by omega))
  rintro e w4 ⟨x, ⟨x0, x1⟩, rfl, C4, g4⟩
  have A4 := A3.drawn g4 (by omega) (by omega)
  have Z4 := Z3.kept g4 (by simp; omega)
  have G4 := gtrans G3 g4
  have hs4 := g4.size
  clear A3 C3 Z3 G3 g4
  obtain ⟨k, rfl⟩ := Int.eq_ofNat_of_zero_le x0
  have hk : k = 0 ∨ k = 1 ∨ k = 2 ∨ k = 3 ∨ k = 4 := by omega
  clear x0 x1
  rcases hk with rfl | rfl | rfl | rfl | rfl
  · go_wp2_with fail
    go_fit (l6DrawAny_any c _ C4)
    rintro e w5 ⟨l5, v5, rfl, hL, h5, C5, g5⟩
    obtain ⟨ua, uc, rfl, -⟩ := (hL w5 (Only.refl _ _)).form
    have A5 := A4.drawn g5 (by omega) (by omega)
    have Z5 := Z4.kept g5 (by simp; omega)
    have G5 := gtrans G4 g5
    have hs5 := g5.size
    obtain ⟨t0, f0⟩ := A5.c0
    have B6 : Five (w5.setCell ⟨b, 0, none⟩ (.slice ua l5.length uc)) b (.slice ua l5.length uc) (.string (str a.log)) (.string (str a.next)) (.int .i64 a.stage) (.bool a.up) := Five.put0 ⟨A5.c0, A5.c1, A5.c2, A5.c3, A5.c4⟩ _
    have Z6 := Z5.far (c := b) (o := 0) (by omega) (.slice ua l5.length uc)
    have C6 := C5.set (show c < b by omega) 0 (.slice ua l5.length uc)
    have G6 := gset1 G5 (show w.heap.size ≤ b by omega) 0 (.slice ua l5.length uc)
    have O6 : Only (fun k => k < w4.heap.size) w5 (w5.setCell ⟨b, 0, none⟩ (.slice ua l5.length uc)) := Only.of (gset (World.grownBy.refl w5 (some b)) _ _) (fun k e => by cases e; show b < w4.heap.size; omega)
    clear A4 C4 Z4 G4 g5 A5 Z5 C5 G5
    go_upto_region 14 with (fail)
    generalize w5.setCell ⟨b, 0, none⟩ (.slice ua l5.length uc) = W6 at *
    clear t0 f0
    obtain ⟨⟨k0, -⟩, ⟨k1, -⟩, ⟨k2, -⟩, ⟨k3, -⟩, ⟨k4, -⟩⟩ := B6
    obtain ⟨⟨z0, y0⟩, ⟨z1, y1⟩, ⟨z2, y2⟩, ⟨z3, y3⟩, ⟨z4, y4⟩⟩ := Z6
    have hfin : DrawnAr c w (.returned (AZ.val ⟨l5, a.log, a.next, a.stage, a.up⟩ (.slice ua l5.length uc))) (set5 W6 w.heap.size (.slice ua l5.length uc) (.string (str a.log)) (.string (str a.next)) (.int .i64 a.stage) (.bool a.up)) := by
      refine ⟨⟨l5, a.log, a.next, a.stage, a.up⟩, _, rfl, fun w2 g2 => hL w2 (O6.trans ((only_set5 W6 w.heap.size _ _ _ _ _ (show w.heap.size < w4.heap.size by omega)).trans (g2.mono (fun k hk => ?_)))), hlg, hnx, C6.set5 hlt _ _ _ _ _, gset5c G6 (Nat.le_refl _) _ _ _ _ _⟩
      show k < w4.heap.size
      omega
    go_wp2_with fail
    exact bodyPost_ret (v := AZ.val ⟨l5, a.log, a.next, a.stage, a.up⟩ (.slice ua l5.length uc)) (by simp [results, Tryz.results91, go_sem, z0, z1, z2, z3, z4]) rfl hfin
  · go_wp2_with fail
    go_fit (l8Draw_any c _ C4)
    rintro e w5 ⟨t, rfl, ht, -, C5, g5⟩
    have A5 := A4.drawn g5 (by omega) (by omega)
    have Z5 := Z4.kept g5 (by simp; omega)
    obtain ⟨t0, f0⟩ := A5.c1
    have A6 := A5.setLog t
    have Z6 := Z5.far (c := b) (o := 1) (by omega) (.string (str t))
    have C6 := C5.set (show c < b by omega) 1 (.string (str t))
    have G6 := gset1 (gtrans G4 g5) (show w.heap.size ≤ b by omega) 1 (.string (str t))
    clear A4 C4 Z4 G4 g5 A5 Z5 C5
    go_upto_region 14 with (fail)
    generalize w5.setCell ⟨b, 1, none⟩ (.string (str t)) = W6 at *
    clear t0 f0
    obtain ⟨k0, k1, k2, k3, k4⟩ := A6.box
    obtain ⟨⟨z0, y0⟩, ⟨z1, y1⟩, ⟨z2, y2⟩, ⟨z3, y3⟩, ⟨z4, y4⟩⟩ := Z6
    have hfin := ar_done A6 C6 G6 (r := w.heap.size) (by omega) (Nat.le_refl _) hlt ht hnx
    go_wp2_with fail
    exact bodyPost_ret (v := AZ.val ⟨a.ds, t, a.next, a.stage, a.up⟩ (.slice va vn vc)) (by simp [results, Tryz.results91, go_sem, z0, z1, z2, z3, z4]) rfl hfin
  · go_wp2_with fail
    go_fit (l8Draw_any c _ C4)
    rintro e w5 ⟨t, rfl, ht, -, C5, g5⟩
    have A5 := A4.drawn g5 (by omega) (by omega)
    have Z5 := Z4.kept g5 (by simp; omega)
    obtain ⟨t0, f0⟩ := A5.c2
    have A6 := A5.setNext t
    have Z6 := Z5.far (c := b) (o := 2) (by omega) (.string (str t))
    have C6 := C5.set (show c < b by omega) 2 (.string (str t))
    have G6 := gset1 (gtrans G4 g5) (show w.heap.size ≤ b by omega) 2 (.string (str t))
    clear A4 C4 Z4 G4 g5 A5 Z5 C5
    go_upto_region 14 with (fail)
    generalize w5.setCell ⟨b, 2, none⟩ (.string (str t)) = W6 at *
    clear t0 f0
    obtain ⟨k0, k1, k2, k3, k4⟩ := A6.box
    obtain ⟨⟨z0, y0⟩, ⟨z1, y1⟩, ⟨z2, y2⟩, ⟨z3, y3⟩, ⟨z4, y4⟩⟩ := Z6
    have hfin := ar_done A6 C6 G6 (r := w.heap.size) (by omega) (Nat.le_refl _) hlt hlg ht
    go_wp2_with fail
    exact bodyPost_ret (v := AZ.val ⟨a.ds, a.log, t, a.stage, a.up⟩ (.slice va vn vc)) (by simp [results, Tryz.results91, go_sem, z0, z1, z2, z3, z4]) rfl hfin
  · go_wp2_with fail
    go_fit (l1From_any c _ _ _ C4 (by omega) (by omega) (by omega))
    rintro e w5 ⟨t, ⟨ht0, ht1⟩, rfl, C5, g5⟩
    have A5 := A4.drawn g5 (by omega) (by omega)
    have Z5 := Z4.kept g5 (by simp; omega)
    obtain ⟨t0, f0⟩ := A5.c3
    have A6 := A5.setStage t
    have Z6 := Z5.far (c := b) (o := 3) (by omega) (.int .i64 t)
    have C6 := C5.set (show c < b by omega) 3 (.int .i64 t)
    have G6 := gset1 (gtrans G4 g5) (show w.heap.size ≤ b by omega) 3 (.int .i64 t)
    clear A4 C4 Z4 G4 g5 A5 Z5 C5
    go_upto_region 14 with (fail)
    generalize w5.setCell ⟨b, 3, none⟩ (.int .i64 t) = W6 at *
    clear t0 f0
    obtain ⟨k0, k1, k2, k3, k4⟩ := A6.box
    obtain ⟨⟨z0, y0⟩, ⟨z1, y1⟩, ⟨z2, y2⟩, ⟨z3, y3⟩, ⟨z4, y4⟩⟩ := Z6
    have hfin := ar_done A6 C6 G6 (r := w.heap.size) (by omega) (Nat.le_refl _) hlt hlg hnx
    go_wp2_with fail
    exact bodyPost_ret (v := AZ.val ⟨a.ds, a.log, a.next, t, a.up⟩ (.slice va vn vc)) (by simp [results, Tryz.results91, go_sem, z0, z1, z2, z3, z4]) rfl hfin
  · obtain ⟨t0, f0⟩ := A4.c4
    have A6 := A4.setUp (!a.up)
    have Z6 := Z4.far (c := b) (o := 4) (by omega) (.bool (!a.up))
    have C6 := C4.set (show c < b by omega) 4 (.bool (!a.up))
    have G6 := gset1 G4 (show w.heap.size ≤ b by omega) 4 (.bool (!a.up))
    clear A4 C4 Z4 G4
    go_upto_region 14 with (fail)
    generalize w4.setCell ⟨b, 4, none⟩ (.bool (!a.up)) = W6 at *
    clear t0 f0
    obtain ⟨k0, k1, k2, k3, k4⟩ := A6.box
    dsimp only at k1 k2 k3 k4
    generalize (!a.up) = u at *
    obtain ⟨⟨z0, y0⟩, ⟨z1, y1⟩, ⟨z2, y2⟩, ⟨z3, y3⟩, ⟨z4, y4⟩⟩ := Z6
    have hfin := ar_done A6 C6 G6 (r := w.heap.size) (by omega) (Nat.le_refl _) hlt hlg hnx
    go_wp2_with fail
    exact bodyPost_ret (v := AZ.val ⟨a.ds, a.log, a.next, a.stage, u⟩ (.slice va vn vc)) (by simp [results, Tryz.results91, go_sem, z0, z1, z2, z3, z4]) rfl hfin
theorem l9DrawAt_any (c : Nat) (w : World) (hc : Cur w c) :
    Calls Tryz.prog 92 #[.pointer (some ⟨c, 0, none⟩)] w (Drawn i64B c w) := by
  go_enter Tryz.func92, Tryz.ntmps92
  go_wp2_with fail
  go_fit (l1Once_any c _ _ hc (by omega))
  rintro e w1 ⟨b, rfl, hc1, hg1⟩
  cases b
  · go_wp2_with fail
    go_fit (l1Below_any c _ _ hc1 (by omega))
    rintro e w2 ⟨x, ⟨hx0, hx1⟩, rfl, hc2, hg2⟩
    go_wp2_with fail
    go_ret
    exact ⟨_, ⟨by omega, by omega⟩, rfl, hc2, gtrans hg1 hg2⟩
  · go_wp2_with fail
    go_fit (l1Below_any c _ _ (hc1.alloc _) (by omega))
    rintro e w2 ⟨x, ⟨hx0, hx1⟩, rfl, hc2, hg2⟩
    obtain ⟨k, rfl⟩ := Int.eq_ofNat_of_zero_le hx0
    obtain ⟨v, hv, hcell⟩ : ∃ v, i64B v ∧ w2.cell? ⟨w1.heap.size, k, none⟩ = some (.int .i64 v) := by
      rw [table_cell hg2 hc1.lt k]
      rcases (show k = 0 ∨ k = 1 ∨ k = 2 by omega) with rfl | rfl | rfl <;> exact ⟨_, ⟨by omega, by omega⟩, rfl⟩
    go_wp2_with fail
    go_ret
    exact ⟨_, hv, rfl, hc2, gtrans (galloc hg1 _) hg2⟩
end Go.Proofs.YtdfhfebcbmolbaaGreatDoor
namespace Go.Proofs.YtdfhfebcbmolbaaGreatDoor
open Go.ChangeShapes Go.WideShapes Go.ChangeAt Go.RowKit
attribute [local go_sem] str_list str_size str_add lit_list0 add_lit lit_add str_cut

/-- a drawn array that is handed out -/
def OutA (w : World) (a : AZ) (v : Value) (w' : World) : Prop := (∀ w2, Only (fun k => k < w.heap.size) w' w2 → LD w2 v a.ds) ∧ a.log.length ≤ 2100 ∧ a.next.length ≤ 2100 ∧ w.grownBy w' none
/-- the drawn array goes into the result variable -/
theorem out_a {w w1 w2 W8 : World} {r : Nat} {z : AZ} {va : Option Addr} {vc : Nat} (hL : ∀ w3, Only (fun k => k < w1.heap.size) w2 w3 → LD w3 (.slice va z.ds.length vc) z.ds) (O : Only (fun k => k < w1.heap.size) w2 W8) (G : w.grownBy W8 none) (hr : r < w1.heap.size) (hw : w.heap.size ≤ r) (h1 : z.log.length ≤ 2100) (h2 : z.next.length ≤ 2100) :
    OutA w z (.slice va z.ds.length vc) (set5 W8 r (.slice va z.ds.length vc) (.string (str z.log)) (.string (str z.next)) (.int .i64 z.stage) (.bool z.up)) :=
  ⟨fun w3 g3 => hL _ (O.trans ((only_set5 W8 r _ _ _ _ _ hr).trans (g3.mono (fun k hk => by show k < w1.heap.size; have : k < w.heap.size := hk; omega)))), h1, h2, gset5 G hw _ _ _ _ _⟩
theorem OutA.ld {w w' : World} {a : AZ} {v : Value} (h : OutA w a v w') : LD w' v a.ds := h.1 _ (Only.refl _ _)
set_option maxRecDepth 8000 in
set_option maxHeartbeats 4000000 in
theorem drawReadArray_any (a : Option Addr) (len cap : Nat) (w : World) (hR : CodeAt w a len) :
    Calls Tryz.prog 32 #[.slice a len cap] w fun e w' => ∃ (z : AZ) (v : Value) (p : Int), e = .returned (.tuple #[z.val v, .int .i64 p]) ∧ i64B p ∧ OutA w z v w' := by
  have Z0 := Zero5.new w
  have e0 := galloc (grefl w) zero5
  have s0 : (w.alloc zero5).heap.size = w.heap.size + 1 := by simp
  have hR0 := hR.kept (gbelow e0)
  go_enter Tryz.func32, Tryz.ntmps32
  go_upto_region 1 with (fail)
  generalize w.alloc zero5 = W0 at *
  go_wp2_with fail
  go_fit (l1New_any a len cap _ hR0)
  rintro e w1 ⟨c, rfl, hlt, hc1, g1⟩
  have hs1 := g1.size
  have hcl := hc1.lt
  go_wp2_with fail
  go_fit (l9DrawAny_any c _ hc1)
  rintro e w2 ⟨z, v, rfl, hL, hlg, hnx, hc2, g2⟩
  obtain ⟨va, vc, rfl, -⟩ := (hL w2 (Only.refl _ _)).form
  have hs2 := g2.size
  have e3 := galloc (grefl w2) (.cells #[.slice va z.ds.length vc, .string (str z.log), .string (str z.next), .int .i64 z.stage, .bool z.up] 47)
  have B3 := Box5.new w2 (.slice va z.ds.length vc) (.string (str z.log)) (.string (str z.next)) (.int .i64 z.stage) (.bool z.up) 47
  have C3 := hc2.kept e3 (by simp)
  have Z3 := ((Z0.kept g1 (by simp)).kept g2 (by simp; omega)).kept e3 (by simp)
  have G3 : w.grownBy (w2.alloc (.cells #[.slice va z.ds.length vc, .string (str z.log), .string (str z.next), .int .i64 z.stage, .bool z.up] 47)) none := gtrans (gfresh (gtrans e0 g1) (by omega) g2) e3
  have O3 : Only (fun k => k < w1.heap.size) w2 (w2.alloc (.cells #[.slice va z.ds.length vc, .string (str z.log), .string (str z.next), .int .i64 z.stage, .bool z.up] 47)) := Only.of e3 (fun k e => by cases e)
  go_upto_region 3 with (fail)
  generalize w2.alloc (.cells #[.slice va z.ds.length vc, .string (str z.log), .string (str z.next), .int .i64 z.stage, .bool z.up] 47) = W3 at *
  have hbc : w2.heap.size ≠ c := by omega
  have hrb : w.heap.size ≠ w2.heap.size := by omega
  have hrc : w.heap.size ≠ c := by omega
  have hrl : w.heap.size < w1.heap.size := by omega
  generalize w2.heap.size = b at *
  have HB := Lib.hid B3
  have HZ := Lib.hid Z3
  have HC := Lib.hid C3
  have HF : Hid (∀ w8, W3.grownBy w8 (some c) → OutA w z (.slice va z.ds.length vc) (set5 w8 w.heap.size (.slice va z.ds.length vc) (.string (str z.log)) (.string (str z.next)) (.int .i64 z.stage) (.bool z.up))) := fun w8 g => out_a hL (O3.trans (Only.of g (fun k e => by cases e; exact hcl))) (gfresh G3 (by omega) g) hrl (Nat.le_refl _) hlg hnx
  obtain ⟨p0, p1, p2, p3, p4⟩ := B3
  obtain ⟨⟨z0, y0⟩, ⟨z1, y1⟩, ⟨z2, y2⟩, ⟨z3, y3⟩, ⟨z4, y4⟩⟩ := Z3
  clear hL C3 G3 O3 Z0 e0 hR hR0 hc1 hc2 g1 g2 e3 s0
  go_region_with (first | (go_at_call 92; go_fit (l9DrawAt_any c _ (HC.out.kept (gdrew (grefl _) 1) (by simp))); rintro e w8 ⟨x, hx, rfl, hc8, g8⟩; have g8' : W3.grownBy w8 (some c) := gtrans (gweak (gdrew (grefl W3) 1) (some c)) g8; obtain ⟨⟨z0', y0'⟩, ⟨z1', y1'⟩, ⟨z2', y2'⟩, ⟨z3', y3'⟩, ⟨z4', y4'⟩⟩ := HZ.out.kept g8' (by simp; omega); obtain ⟨p0', p1', p2', p3', p4'⟩ := Box5.only HB.out (Only.of (S := fun k => k = c) g8' (fun k e => by cases e; rfl)) hbc))
  all_goals
    have hfin := HF.out _ g8'
    go_wp2_with fail
    exact bodyPost_ret (v := .tuple #[z.val (.slice va z.ds.length vc), .int .i64 x]) (by simp [results, Tryz.results32, go_sem, z0', z1', z2', z3', z4']) rfl ⟨z, _, x, rfl, hx, hfin⟩
set_option maxRecDepth 8000 in
set_option maxHeartbeats 4000000 in
theorem drawBegun_any (a : Option Addr) (len cap : Nat) (w : World) (hR : CodeAt w a len) :
    Calls Tryz.prog 26 #[.slice a len cap] w fun e w' => ∃ (z : AZ) (v : Value) (p x : Int), e = .returned (.tuple #[z.val v, .int .i64 p, .int .i64 x]) ∧ i64B p ∧ i64B x ∧ OutA w z v w' := by
  have Z0 := Zero5.new w
  have e0 := galloc (grefl w) zero5
  have s0 : (w.alloc zero5).heap.size = w.heap.size + 1 := by simp
  have hR0 := hR.kept (gbelow e0)
  go_enter Tryz.func26, Tryz.ntmps26
  go_upto_region 1 with (fail)
  generalize w.alloc zero5 = W0 at *
  go_wp2_with fail
  go_fit (l1New_any a len cap _ hR0)
  rintro e w1 ⟨c, rfl, hlt, hc1, g1⟩
  have hs1 := g1.size
  have hcl := hc1.lt
  go_wp2_with fail
  go_fit (l9DrawAny_any c _ hc1)
  rintro e w2 ⟨z, v, rfl, hL, hlg, hnx, hc2, g2⟩
  obtain ⟨va, vc, rfl, -⟩ := (hL w2 (Only.refl _ _)).form
  have hs2 := g2.size
  have e3 := galloc (grefl w2) (.cells #[.slice va z.ds.length vc, .string (str z.log), .string (str z.next), .int .i64 z.stage, .bool z.up] 47)
  have B3 := Box5.new w2 (.slice va z.ds.length vc) (.string (str z.log)) (.string (str z.next)) (.int .i64 z.stage) (.bool z.up) 47
  have C3 := hc2.kept e3 (by simp)
  have Z3 := ((Z0.kept g1 (by simp)).kept g2 (by simp; omega)).kept e3 (by simp)
  have G3 : w.grownBy (w2.alloc (.cells #[.slice va z.ds.length vc, .string (str z.log), .string (str z.next), .int .i64 z.stage, .bool z.up] 47)) none := gtrans (gfresh (gtrans e0 g1) (by omega) g2) e3
  have O3 : Only (fun k => k < w1.heap.size) w2 (w2.alloc (.cells #[.slice va z.ds.length vc, .string (str z.log), .string (str z.next), .int .i64 z.stage, .bool z.up] 47)) := Only.of e3 (fun k e => by cases e)
  go_upto_region 3 with (fail)
  generalize w2.alloc (.cells #[.slice va z.ds.length vc, .string (str z.log), .string (str z.next), .int .i64 z.stage, .bool z.up] 47) = W3 at *
  have hbc : w2.heap.size ≠ c := by omega
  have hrb : w.heap.size ≠ w2.heap.size := by omega
  have hrc : w.heap.size ≠ c := by omega
  have hrl : w.heap.size < w1.heap.size := by omega
  generalize w2.heap.size = b at *
  go_wp2_with fail
  go_fit (l9DrawAt_any c _ C3)
  rintro e w4 ⟨p, hp, rfl, C4, g4⟩
  have B4 := Box5.only B3 (Only.of (S := fun k => k = c) g4 (fun k e => by cases e; rfl)) hbc
  have Z4 := Z3.kept g4 (by simp; omega)
  have O4 := O3.trans (Only.of g4 (fun k e => by cases e; exact hcl))
  have G4 := gfresh G3 (by omega) g4
  go_upto_region 4 with (fail)
  have HB := Lib.hid B4
  have HZ := Lib.hid Z4
  have HC := Lib.hid C4
  have HF : Hid (∀ w8, w4.grownBy w8 (some c) → OutA w z (.slice va z.ds.length vc) (set5 w8 w.heap.size (.slice va z.ds.length vc) (.string (str z.log)) (.string (str z.next)) (.int .i64 z.stage) (.bool z.up))) := fun w8 g => out_a hL (O4.trans (Only.of g (fun k e => by cases e; exact hcl))) (gfresh G4 (by omega) g) hrl (Nat.le_refl _) hlg hnx
  obtain ⟨p0, p1, p2, p3, p4⟩ := B4
  obtain ⟨⟨z0, y0⟩, ⟨z1, y1⟩, ⟨z2, y2⟩, ⟨z3, y3⟩, ⟨z4, y4⟩⟩ := Z4
  clear hL C4 G4 O4 B3 Z3 C3 O3 G3 g4 Z0 e0 hR hR0 hc1 hc2 g1 g2 e3 s0
  go_region_with (first | (go_at_call 53; go_fit (l1DrawValue_any c _ (HC.out.kept (gdrew (grefl _) 1) (by simp))); rintro e w8 ⟨x, hx, rfl, hc8, g8⟩; have g8' : w4.grownBy w8 (some c) := gtrans (gweak (gdrew (grefl w4) 1) (some c)) g8; obtain ⟨⟨z0', y0'⟩, ⟨z1', y1'⟩, ⟨z2', y2'⟩, ⟨z3', y3'⟩, ⟨z4', y4'⟩⟩ := HZ.out.kept g8' (by simp; omega); obtain ⟨p0', p1', p2', p3', p4'⟩ := Box5.only HB.out (Only.of (S := fun k => k = c) g8' (fun k e => by cases e; rfl)) hbc))
  all_goals
    have hfin := HF.out _ g8'
    go_wp2_with fail
    exact bodyPost_ret (v := .tuple #[z.val (.slice va z.ds.length vc), .int .i64 p, .int .i64 x]) (by simp [results, Tryz.results26, go_sem, z0', z1', z2', z3', z4']) rfl ⟨z, _, p, x, rfl, hp, hx, hfin⟩
set_option maxRecDepth 8000 in
set_option maxHeartbeats 4000000 in
theorem drawArrayOk_any (a : Option Addr) (len cap : Nat) (w : World) (hR : CodeAt w a len) :
    Calls Tryz.prog 95 #[.slice a len cap] w fun e w' => ∃ (z : AZ) (v : Value), e = .returned (z.val v) ∧ OutA w z v w' := by
  have Z0 := Zero5.new w
  have e0 := galloc (grefl w) zero5
  have s0 : (w.alloc zero5).heap.size = w.heap.size + 1 := by simp
  have hR0 := hR.kept (gbelow e0)
  go_enter Tryz.func95, Tryz.ntmps95
  go_upto_region 1 with (fail)
  generalize w.alloc zero5 = W0 at *
  go_wp2_with fail
  go_fit (l1New_any a len cap _ hR0)
  rintro e w1 ⟨c, rfl, hlt, hc1, g1⟩
  have hs1 := g1.size
  have hcl := hc1.lt
  go_wp2_with fail
  go_fit (l9DrawAny_any c _ hc1)
  rintro e w2 ⟨z, v, rfl, hL, hlg, hnx, hc2, g2⟩
  obtain ⟨va, vc, rfl, -⟩ := (hL w2 (Only.refl _ _)).form
  have hs2 := g2.size
  have hfin := out_a (r := w.heap.size) hL (Only.refl _ _) (gfresh (gtrans e0 g1) (by omega) g2) (by omega) (Nat.le_refl _) hlg hnx
  obtain ⟨⟨z0, y0⟩, ⟨z1, y1⟩, ⟨z2, y2⟩, ⟨z3, y3⟩, ⟨z4, y4⟩⟩ := (Z0.kept g1 (by simp)).kept g2 (by simp; omega)
  go_wp2_with fail
  exact bodyPost_ret (v := z.val (.slice va z.ds.length vc)) (by simp [results, Tryz.results95, go_sem, z0, z1, z2, z3, z4]) rfl ⟨z, _, rfl, hfin⟩
set_option maxRecDepth 8000 in
set_option maxHeartbeats 4000000 in
theorem drawStepped_any (a : Option Addr) (len cap : Nat) (w : World) (hR : CodeAt w a len) :
    Calls Tryz.prog 28 #[.slice a len cap] w fun e w' => ∃ (z : AZ) (v : Value), e = .returned (z.val v) ∧ OutA w z v w' := by
  have Z0 := Zero5.new w
  have e0 := galloc (grefl w) zero5
  have s0 : (w.alloc zero5).heap.size = w.heap.size + 1 := by simp
  have hR0 := hR.kept (gbelow e0)
  go_enter Tryz.func28, Tryz.ntmps28
  go_upto_region 1 with (fail)
  generalize w.alloc zero5 = W0 at *
  go_wp2_with fail
  go_fit (drawArrayOk_any a len cap _ hR0)
  rintro e w2 ⟨z, v, rfl, hL, hlg, hnx, g2⟩
  obtain ⟨va, vc, rfl, -⟩ := (hL w2 (Only.refl _ _)).form
  obtain ⟨⟨z0, y0⟩, ⟨z1, y1⟩, ⟨z2, y2⟩, ⟨z3, y3⟩, ⟨z4, y4⟩⟩ := Z0.kept g2 (by simp)
  have hfin := out_a (r := w.heap.size) hL (Only.refl _ _) (gtrans e0 g2) (by omega) (Nat.le_refl _) hlg hnx
  go_wp2_with fail
  exact bodyPost_ret (v := z.val (.slice va z.ds.length vc)) (by simp [results, Tryz.results28, go_sem, z0, z1, z2, z3, z4]) rfl ⟨z, _, rfl, hfin⟩
theorem drawNewArray_any (a : Option Addr) (len cap : Nat) (w : World) (hR : CodeAt w a len) :
    Calls Tryz.prog 30 #[.slice a len cap] w (Drawn2 w) := by
  go_enter Tryz.func30, Tryz.ntmps30
  go_wp2_with fail
  go_fit (drawRoomOf_any a len cap _ hR)
  rintro e w1 ⟨n, l, n0, n1, l0, l1, rfl, g⟩
  go_wp2_with fail
  exact bodyPost_ret (v := .tuple #[.int .i64 n, .int .i64 l]) (by simp [results, Tryz.results30, go_sem]) rfl ⟨n, l, n0, n1, l0, l1, rfl, g⟩
end Go.Proofs.YtdfhfebcbmolbaaGreatDoor
