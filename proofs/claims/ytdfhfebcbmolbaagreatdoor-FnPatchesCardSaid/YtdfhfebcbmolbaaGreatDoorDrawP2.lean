/- What the laws of chapter 7 draw. -/
import Derived.Test.YtdfhfebcbmolbaaGreatDoorDrawL09
import Derived.Test.YtdfhfebcbmolbaaGreatDoorDrawL07
import Derived.Test.YtdfhfebcbmolbaaGreatDoorDrawB
import Derived.Test.YtdfhfebcbmolbaaGreatDoorImplL07s
import Derived.Deep.RegionHeld3
namespace Go.Proofs.YtdfhfebcbmolbaaGreatDoor
open Go.ChangeShapes Go.WideShapes Go.ChangeAt Go.RowKit
attribute [local go_sem] str_list str_size str_add lit_list0 add_lit lit_add str_cut

/-- a drawn patch that is handed out -/
def OutP (w : World) (p : PZ) (dv vv : Value) (w' : World) : Prop := IS w' w.heap.size dv p.ds ∧ IS w' w.heap.size vv p.vs ∧ p.ds.length ≤ 2 ∧ p.vs.length ≤ 3 ∧ w.grownBy w' none
theorem out_p {w W8 : World} {B r : Nat} {p : PZ} {dv vv : Value} (h1 : IS W8 B dv p.ds) (h2 : IS W8 B vv p.vs) (l1 : p.ds.length ≤ 2) (l2 : p.vs.length ≤ 3) (G : w.grownBy W8 none) (hr : r < B) (hw : w.heap.size ≤ r) (x0 x1 x2 : Value) :
    OutP w p dv vv (set3 W8 r x0 x1 x2) := by
  have hd := i_not_own h1 hr
  have hv := i_not_own h2 hr
  exact ⟨Own.other (Own.other (Own.other (Own.lower h1 (by omega)) hd _) hd _) hd _, Own.other (Own.other (Own.other (Own.lower h2 (by omega)) hv _) hv _) hv _, l1, l2, gset1 (gset1 (gset1 G hw _ _) hw _ _) hw _ _⟩
set_option maxHeartbeats 2000000 in
theorem drawPatchOk_any (a : Option Addr) (len cap : Nat) (w : World) (hR : CodeAt w a len) :
    Calls Tryz.prog 64 #[.slice a len cap] w fun e w' => ∃ (p : PZ) (dv vv : Value), e = .returned (.agg #[.int .i64 p.row, dv, vv]) ∧ OutP w p dv vv w' := by
  have Z0 := Zero3.new w
  have e0 := galloc (grefl w) (.cells #[.int .i64 0, .slice none 0 0, .slice none 0 0] 29)
  have s0 : (w.alloc (.cells #[.int .i64 0, .slice none 0 0, .slice none 0 0] 29)).heap.size = w.heap.size + 1 := by simp
  have hR0 := hR.kept (gbelow e0)
  go_enter Tryz.func64, Tryz.ntmps64
  go_upto_region 1 with (fail)
  generalize w.alloc (.cells #[.int .i64 0, .slice none 0 0, .slice none 0 0] 29) = W0 at *
  go_wp2_with fail
  go_fit (l1New_any a len cap _ hR0)
  rintro e w1 ⟨c, rfl, hlt, hc1, g1⟩
  have hs1 := g1.size
  go_wp2_with fail
  go_fit (l7Draw_any c _ hc1)
  rintro e w2 ⟨p, dv, vv, rfl, i1, i2, -, l1, l2, hc2, g2⟩
  obtain ⟨da, dn, dc, rfl⟩ := Own.sl i1
  obtain ⟨va, vn, vc, rfl⟩ := Own.sl i2
  have hfin := out_p (r := w.heap.size) i1 i2 l1 l2 (gfresh (gtrans e0 g1) (by omega) g2) (by omega) (Nat.le_refl _) (.int .i64 p.row) (.slice da dn dc) (.slice va vn vc)
  obtain ⟨⟨z0, y0⟩, ⟨z1, y1⟩, ⟨z2, y2⟩⟩ := (Z0.kept g1 (by simp)).kept g2 (by simp; omega)
  go_wp2_with fail
  exact bodyPost_ret (v := .agg #[.int .i64 p.row, .slice da dn dc, .slice va vn vc]) (by simp [results, Tryz.results64, go_sem, z0, z1, z2]) rfl ⟨p, _, _, rfl, hfin⟩
set_option maxHeartbeats 2000000 in
theorem drawShowPatch_any (a : Option Addr) (len cap : Nat) (w : World) (hR : CodeAt w a len) :
    Calls Tryz.prog 9 #[.slice a len cap] w fun e w' => ∃ (p : PZ) (dv vv : Value), e = .returned (.agg #[.int .i64 p.row, dv, vv]) ∧ OutP w p dv vv w' := by
  have Z0 := Zero3.new w
  have e0 := galloc (grefl w) (.cells #[.int .i64 0, .slice none 0 0, .slice none 0 0] 29)
  have s0 : (w.alloc (.cells #[.int .i64 0, .slice none 0 0, .slice none 0 0] 29)).heap.size = w.heap.size + 1 := by simp
  have hR0 := hR.kept (gbelow e0)
  go_enter Tryz.func9, Tryz.ntmps9
  go_upto_region 1 with (fail)
  generalize w.alloc (.cells #[.int .i64 0, .slice none 0 0, .slice none 0 0] 29) = W0 at *
  go_wp2_with fail
  go_fit (drawPatchOk_any a len cap _ hR0)
  rintro e w2 ⟨p, dv, vv, rfl, i1, i2, l1, l2, g2⟩
  obtain ⟨da, dn, dc, rfl⟩ := Own.sl i1
  obtain ⟨va, vn, vc, rfl⟩ := Own.sl i2
  have hfin := out_p (r := w.heap.size) i1 i2 l1 l2 (gtrans e0 g2) (by omega) (Nat.le_refl _) (.int .i64 p.row) (.slice da dn dc) (.slice va vn vc)
  obtain ⟨⟨z0, y0⟩, ⟨z1, y1⟩, ⟨z2, y2⟩⟩ := Z0.kept g2 (by simp)
  go_wp2_with fail
  exact bodyPost_ret (v := .agg #[.int .i64 p.row, .slice da dn dc, .slice va vn vc]) (by simp [results, Tryz.results9, go_sem, z0, z1, z2]) rfl ⟨p, _, _, rfl, hfin⟩
set_option maxHeartbeats 2000000 in
theorem drawPatched_any (a : Option Addr) (len cap : Nat) (w : World) (hR : CodeAt w a len) :
    Calls Tryz.prog 13 #[.slice a len cap] w fun e w' => ∃ (l : List DZ) (v : Value) (p : PZ) (dv vv : Value), e = .returned (.tuple #[v, .agg #[.int .i64 p.row, dv, vv]]) ∧ LD w' v l ∧ l.length ≤ 5 ∧ OutP w p dv vv w' := by
  have Z0 := Zero3.new w
  have e0 := galloc (grefl w) (.cells #[.int .i64 0, .slice none 0 0, .slice none 0 0] 29)
  have s0 : (w.alloc (.cells #[.int .i64 0, .slice none 0 0, .slice none 0 0] 29)).heap.size = w.heap.size + 1 := by simp
  have hR0 := hR.kept (gbelow e0)
  go_enter Tryz.func13, Tryz.ntmps13
  go_upto_region 1 with (fail)
  generalize w.alloc (.cells #[.int .i64 0, .slice none 0 0, .slice none 0 0] 29) = W0 at *
  go_wp2_with fail
  go_fit (l1New_any a len cap _ hR0)
  rintro e w1 ⟨c, rfl, hlt, hc1, g1⟩
  have hs1 := g1.size
  have hcl := hc1.lt
  go_wp2_with fail
  go_fit (l6DrawAny_any c _ hc1)
  rintro e w2 ⟨l, v, rfl, hL, h5, hc2, g2⟩
  obtain ⟨la, lc, rfl, -⟩ := (hL w2 (Only.refl _ _)).form
  have hs2 := g2.size
  go_wp2_with fail
  go_fit (l7Draw_any c _ hc2)
  rintro e w3 ⟨p, dv, vv, rfl, i1, i2, -, l1, l2, hc3, g3⟩
  obtain ⟨da, dn, dc, rfl⟩ := Own.sl i1
  obtain ⟨va, vn, vc, rfl⟩ := Own.sl i2
  have hfin := out_p (r := w.heap.size) i1 i2 l1 l2 (gfresh (gtrans e0 g1) (by omega) (gtrans g2 g3)) (by omega) (Nat.le_refl _) (.int .i64 p.row) (.slice da dn dc) (.slice va vn vc)
  obtain ⟨⟨z0, y0⟩, ⟨z1, y1⟩, ⟨z2, y2⟩⟩ := ((Z0.kept g1 (by simp)).kept g2 (by simp; omega)).kept g3 (by simp; omega)
  have hLD : LD (set3 w3 w.heap.size (.int .i64 p.row) (.slice da dn dc) (.slice va vn vc)) (.slice la l.length lc) l :=
    hL _ ((Only.of g3 (fun k e => by cases e; exact hcl)).trans (Only.of (gset (gset (gset (World.grownBy.refl w3 (some w.heap.size)) _ _) _ _) _ _) (fun k e => by cases e; show w.heap.size < w1.heap.size; omega)))
  go_wp2_with fail
  exact bodyPost_ret (v := .tuple #[.slice la l.length lc, .agg #[.int .i64 p.row, .slice da dn dc, .slice va vn vc]]) (by simp [results, Tryz.results13, go_sem, z0, z1, z2]) rfl ⟨l, _, p, _, _, rfl, hLD, h5, hfin⟩
set_option maxHeartbeats 2000000 in
theorem drawPatchFor_any (a : Option Addr) (len cap : Nat) (w : World) (hR : CodeAt w a len) :
    Calls Tryz.prog 7 #[.slice a len cap] w fun e w' => ∃ (l : List DZ) (v : Value) (q x : Int), e = .returned (.tuple #[v, .int .i64 q, .int .i64 x]) ∧ LD w' v l ∧ l.length ≤ 5 ∧ i64B q ∧ i64B x ∧ w.grownBy w' none := by
  go_enter Tryz.func7, Tryz.ntmps7
  go_wp2_with fail
  go_fit (l1New_any a len cap _ hR)
  rintro e w1 ⟨c, rfl, hlt, hc1, g1⟩
  have hcl := hc1.lt
  go_wp2_with fail
  go_fit (l6DrawAny_any c _ hc1)
  rintro e w2 ⟨l, v, rfl, hL, h5, hc2, g2⟩
  obtain ⟨la, lc, rfl, -⟩ := (hL w2 (Only.refl _ _)).form
  go_wp2_with fail
  go_fit (l1Below_any c _ _ hc2 (by omega))
  rintro e w3 ⟨q, ⟨q0, q1⟩, rfl, hc3, g3⟩
  go_wp2_with fail
  go_fit (l1Once_any c _ _ hc3 (by omega))
  rintro e w4 ⟨b, rfl, hc4, g4⟩
  have G4 := gtrans g2 (gtrans g3 g4)
  have O4 := Only.of (S := fun k => k < w1.heap.size) (gtrans g3 g4) (fun k e => by cases e; exact hcl)
  clear g2 g3 g4 hc2 hc3
  cases b
  · go_wp2_with fail
    go_fit (l1DrawValue_any c _ hc4)
    rintro e w5 ⟨x, hx, rfl, hc5, g5⟩
    go_wp2_with fail
    go_ret3
    exact ⟨l, _, q, x, rfl, hL _ (O4.trans (Only.of g5 (fun k e => by cases e; exact hcl))), h5, ⟨by omega, by omega⟩, hx, gfresh g1 hlt (gtrans G4 g5)⟩
  · go_wp2_with fail
    go_fit (l1Below_any c _ _ (hc4.alloc _) (by omega))
    rintro e w5 ⟨y, ⟨y0, y1⟩, rfl, hc5, g5⟩
    obtain ⟨k, rfl⟩ := Int.eq_ofNat_of_zero_le y0
    obtain ⟨z, hz, hcell⟩ : ∃ z, i64B z ∧ w5.cell? ⟨w4.heap.size, k, none⟩ = some (.int .i64 z) := by
      rw [table_cell g5 hc4.lt k]
      rcases (show k = 0 ∨ k = 1 ∨ k = 2 by omega) with rfl | rfl | rfl <;> exact ⟨_, ⟨by omega, by omega⟩, rfl⟩
    have G5 := gtrans (galloc (grefl w4) (.cells #[.int .i64 (-1), .int .i64 63, .int .i64 64] 2)) (World.grownBy.refl _ none)
    have G5' : w1.grownBy w5 (some c) := gtrans (galloc G4 _) g5
    have O5 : Only (fun k => k < w1.heap.size) w2 w5 := O4.trans ((Only.of (S := fun k => k < w1.heap.size) (galloc (World.grownBy.refl w4 none) _) (fun k e => by cases e)).trans (Only.of g5 (fun k e => by cases e; exact hcl)))
    clear g5 G5 G4 O4
    go_wp2_with fail
    go_fit (l1DrawValue_any c _ hc5)
    rintro e w6 ⟨x, hx, rfl, hc6, g6⟩
    go_wp2_with fail
    go_ret3
    exact ⟨l, _, z, x, rfl, hL _ (O5.trans (Only.of g6 (fun k e => by cases e; exact hcl))), h5, hz, hx, gfresh g1 hlt (gtrans G5' g6)⟩
theorem showZ_len (p : PZ) : (showZ p).length ≤ 100 := by
  cases h : p.ok
  · rw [showZ_no h]; simp
  · rw [showZ_yes h]; exact text_len h
set_option maxHeartbeats 2000000 in
theorem drawReadPatch_any (a : Option Addr) (len cap : Nat) (w : World) (hR : CodeAt w a len) :
    Calls Tryz.prog 11 #[.slice a len cap] w fun e w' => ∃ s : List UInt8, e = .returned (.string (str s)) ∧ s.length ≤ 200 ∧ w.grownBy w' none := by
  go_enter Tryz.func11, Tryz.ntmps11
  go_wp2_with fail
  go_fit (l1New_any a len cap _ hR)
  rintro e w1 ⟨c, rfl, hlt, hc1, g1⟩
  go_wp2_with fail
  go_fit (l7Draw_any c _ hc1)
  rintro e w2 ⟨p, dv, vv, rfl, i1, i2, -, l1, l2, hc2, g2⟩
  go_wp2_with fail
  go_fit (specShowPatch_any p _ _ _ (Own.rd i1) (Own.rd i2))
  rintro e w3 ⟨rfl, g3⟩
  have hc3 := hc2.kept g3 (by simp)
  have hsl := showZ_len p
  generalize showZ p = s at *
  go_wp2_with fail
  go_fit (l1Once_any c _ _ hc3 (by omega))
  rintro e w4 ⟨b, rfl, hc4, g4⟩
  have G4 := gtrans (gtrans g2 (gweak g3 (some c))) g4
  cases b
  · go_wp2_with fail
    go_ret
    exact ⟨s, rfl, by omega, gfresh g1 hlt G4⟩
  · go_wp2_with fail
    go_fit (l1Bend_any c s [48, 49, 57, 32, 45] _ hc4 (by omega) (by simp) (by simp))
    rintro e w5 ⟨r, rfl, hr, hc5, g5⟩
    go_wp2_with fail
    go_ret
    exact ⟨r, rfl, by omega, gfresh g1 hlt (gtrans G4 g5)⟩
end Go.Proofs.YtdfhfebcbmolbaaGreatDoor
