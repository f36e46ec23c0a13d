/- What the laws of chapter 9 draw. -/
import Derived.Test.YtdfhfebcbmolbaaGreatDoorDrawA
import Derived.Test.YtdfhfebcbmolbaaGreatDoorDrawL05
import Derived.Deep.RegionHeld3
import Derived.RegionTactic
namespace Go.Proofs.YtdfhfebcbmolbaaGreatDoor
open Go.ChangeShapes Go.WideShapes Go.ChangeAt Go.RowKit
attribute [local go_sem] str_list str_size str_add lit_list0 add_lit lit_add str_cut

/-- a drawn array that is handed out -/
def OutA (w : World) (a : AZ) (v : Value) (w' : World) : Prop := (∀ w2, Only (fun k => k < w.heap.size) w' w2 → LD w2 v a.ds) ∧ a.log.length ≤ 2100 ∧ a.next.length ≤ 2100 ∧ w.grownBy w' none
/-- the drawn array goes into the result variable -/
theorem out_a {w w1 w2 W8 : World} {r : Nat} {z : AZ} {va : Option Addr} {vc : Nat} (hL : ∀ w3, Only (fun k => k < w1.heap.size) w2 w3 → LD w3 (.slice va z.ds.length vc) z.ds) (O : Only (fun k => k < w1.heap.size) w2 W8) (G : w.grownBy W8 none) (hr : r < w1.heap.size) (hw : w.heap.size ≤ r) (h1 : z.log.length ≤ 2100) (h2 : z.next.length ≤ 2100) :
    OutA w z (.slice va z.ds.length vc) (set5 W8 r (.slice va z.ds.length vc) (.string (str z.log)) (.string (str z.next)) (.int .i64 z.stage) (.bool z.up)) :=
  ⟨fun w3 g3 => hL _ (O.trans ((only_set5 W8 r _ _ _ _ _ hr).trans (g3.mono (fun k hk => by show k < w1.heap.size; have : k < w.heap.size := hk; omega)))), h1, h2, gset5 G hw _ _ _ _ _⟩
theorem OutA.ld {w w' : World} {a : AZ} {v : Value} (h : OutA w a v w') : LD w' v a.ds := h.1 _ (Only.refl _ _)
set_option maxRecDepth 8000 in
set_option maxHeartbeats 4000000 in
theorem drawReadArray_any (a : Option Addr) (len cap : Nat) (w : World) (hR : CodeAt w a len) :
    Calls Tryz.prog 32 #[.slice a len cap] w fun e w' => ∃ (z : AZ) (v : Value) (p : Int), e = .returned (.tuple #[z.val v, .int .i64 p]) ∧ i64B p ∧ OutA w z v w' := by
  have Z0 := Zero5.new w
  have e0 := galloc (grefl w) zero5
  have s0 : (w.alloc zero5).heap.size = w.heap.size + 1 := by simp
  have hR0 := hR.kept (gbelow e0)
  go_enter Tryz.func32, Tryz.ntmps32
  go_upto_region 1 with (fail)
  generalize w.alloc zero5 = W0 at *
  go_wp2_with fail
  go_fit (l1New_any a len cap _ hR0)
  rintro e w1 ⟨c, rfl, hlt, hc1, g1⟩
  have hs1 := g1.size
  have hcl := hc1.lt
  go_wp2_with fail
  go_fit (l9DrawAny_any c _ hc1)
  rintro e w2 ⟨z, v, rfl, hL, hlg, hnx, hc2, g2⟩
  obtain ⟨va, vc, rfl, -⟩ := (hL w2 (Only.refl _ _)).form
  have hs2 := g2.size
  have e3 := galloc (grefl w2) (.cells #[.slice va z.ds.length vc, .string (str z.log), .string (str z.next), .int .i64 z.stage, .bool z.up] 47)
  have B3 := Box5.new w2 (.slice va z.ds.length vc) (.string (str z.log)) (.string (str z.next)) (.int .i64 z.stage) (.bool z.up) 47
  have C3 := hc2.kept e3 (by simp)
  have Z3 := ((Z0.kept g1 (by simp)).kept g2 (by simp; omega)).kept e3 (by simp)
  have G3 : w.grownBy (w2.alloc (.cells #[.slice va z.ds.length vc, .string (str z.log), .string (str z.next), .int .i64 z.stage, .bool z.up] 47)) none := gtrans (gfresh (gtrans e0 g1) (by omega) g2) e3
  have O3 : Only (fun k => k < w1.heap.size) w2 (w2.alloc (.cells #[.slice va z.ds.length vc, .string (str z.log), .string (str z.next), .int .i64 z.stage, .bool z.up] 47)) := Only.of e3 (fun k e => by cases e)
  go_upto_region 3 with (fail)
  generalize w2.alloc (.cells #[.slice va z.ds.length vc, .string (str z.log), .string (str z.next), .int .i64 z.stage, .bool z.up] 47) = W3 at *
  have hbc : w2.heap.size ≠ c := by omega
  have hrb : w.heap.size ≠ w2.heap.size := by omega
  have hrc : w.heap.size ≠ c := by omega
  have hrl : w.heap.size < w1.heap.size := by omega
  generalize w2.heap.size = b at *
  have HB := Lib.hid B3
  have HZ := Lib.hid Z3
  have HC := Lib.hid C3
  have HF : Hid (∀ w8, W3.grownBy w8 (some c) → OutA w z (.slice va z.ds.length vc) (set5 w8 w.heap.size (.slice va z.ds.length vc) (.string (str z.log)) (.string (str z.next)) (.int .i64 z.stage) (.bool z.up))) := fun w8 g => out_a hL (O3.trans (Only.of g (fun k e => by cases e; exact hcl))) (gfresh G3 (by omega) g) hrl (Nat.le_refl _) hlg hnx
  obtain ⟨p0, p1, p2, p3, p4⟩ := B3
  obtain ⟨⟨z0, y0⟩, ⟨z1, y1⟩, ⟨z2, y2⟩, ⟨z3, y3⟩, ⟨z4, y4⟩⟩ := Z3
  clear hL C3 G3 O3 Z0 e0 hR hR0 hc1 hc2 g1 g2 e3 s0
  go_region_with (first | (go_at_call 92; go_fit (l9DrawAt_any c _ (HC.out.kept (gdrew (grefl _) 1) (by simp))); rintro e w8 ⟨x, hx, rfl, hc8, g8⟩; have g8' : W3.grownBy w8 (some c) := gtrans (gweak (gdrew (grefl W3) 1) (some c)) g8; obtain ⟨⟨z0', y0'⟩, ⟨z1', y1'⟩, ⟨z2', y2'⟩, ⟨z3', y3'⟩, ⟨z4', y4'⟩⟩ := HZ.out.kept g8' (by simp; omega); obtain ⟨p0', p1', p2', p3', p4'⟩ := Box5.only HB.out (Only.of (S := fun k => k = c) g8' (fun k e => by cases e; rfl)) hbc))
  all_goals
    have hfin := HF.out _ g8'
    go_wp2_with fail
    exact bodyPost_ret (v := .tuple #[z.val (.slice va z.ds.length vc), .int .i64 x]) (by simp [results, Tryz.results32, go_sem, z0', z1', z2', z3', z4']) rfl ⟨z, _, x, rfl, hx, hfin⟩
set_option maxRecDepth 8000 in
set_option maxHeartbeats 4000000 in
theorem drawBegun_any (a : Option Addr) (len cap : Nat) (w : World) (hR : CodeAt w a len) :
    Calls Tryz.prog 26 #[.slice a len cap] w fun e w' => ∃ (z : AZ) (v : Value) (p x : Int), e = .returned (.tuple #[z.val v, .int .i64 p, .int .i64 x]) ∧ i64B p ∧ i64B x ∧ OutA w z v w' := by
  have Z0 := Zero5.new w
  have e0 := galloc (grefl w) zero5
  have s0 : (w.alloc zero5).heap.size = w.heap.size + 1 := by simp
  have hR0 := hR.kept (gbelow e0)
  go_enter Tryz.func26, Tryz.ntmps26
  go_upto_region 1 with (fail)
  generalize w.alloc zero5 = W0 at *
  go_wp2_with fail
  go_fit (l1New_any a len cap _ hR0)
  rintro e w1 ⟨c, rfl, hlt, hc1, g1⟩
  have hs1 := g1.size
  have hcl := hc1.lt
  go_wp2_with fail
  go_fit (l9DrawAny_any c _ hc1)
  rintro e w2 ⟨z, v, rfl, hL, hlg, hnx, hc2, g2⟩
  obtain ⟨va, vc, rfl, -⟩ := (hL w2 (Only.refl _ _)).form
  have hs2 := g2.size
  have e3 := galloc (grefl w2) (.cells #[.slice va z.ds.length vc, .string (str z.log), .string (str z.next), .int .i64 z.stage, .bool z.up] 47)
  have B3 := Box5.new w2 (.slice va z.ds.length vc) (.string (str z.log)) (.string (str z.next)) (.int .i64 z.stage) (.bool z.up) 47
  have C3 := hc2.kept e3 (by simp)
  have Z3 := ((Z0.kept g1 (by simp)).kept g2 (by simp; omega)).kept e3 (by simp)
  have G3 : w.grownBy (w2.alloc (.cells #[.slice va z.ds.length vc, .string (str z.log), .string (str z.next), .int .i64 z.stage, .bool z.up] 47)) none := gtrans (gfresh (gtrans e0 g1) (by omega) g2) e3
  have O3 : Only (fun k => k < w1.heap.size) w2 (w2.alloc (.cells #[.slice va z.ds.length vc, .string (str z.log), .string (str z.next), .int .i64 z.stage, .bool z.up] 47)) := Only.of e3 (fun k e => by cases e)
  go_upto_region 3 with (fail)
  generalize w2.alloc (.cells #[.slice va z.ds.length vc, .string (str z.log), .string (str z.next), .int .i64 z.stage, .bool z.up] 47) = W3 at *
  have hbc : w2.heap.size ≠ c := by omega
  have hrb : w.heap.size ≠ w2.heap.size := by omega
  have hrc : w.heap.size ≠ c := by omega
  have hrl : w.heap.size < w1.heap.size := by omega
  generalize w2.heap.size = b at *
  go_wp2_with fail
  go_fit (l9DrawAt_any c _ C3)
  rintro e w4 ⟨p, hp, rfl, C4, g4⟩
  have B4 := Box5.only B3 (Only.of (S := fun k => k = c) g4 (fun k e => by cases e; rfl)) hbc
  have Z4 := Z3.kept g4 (by simp; omega)
  have O4 := O3.trans (Only.of g4 (fun k e => by cases e; exact hcl))
  have G4 := gfresh G3 (by omega) g4
  go_upto_region 4 with (fail)
  have HB := Lib.hid B4
  have HZ := Lib.hid Z4
  have HC := Lib.hid C4
  have HF : Hid (∀ w8, w4.grownBy w8 (some c) → OutA w z (.slice va z.ds.length vc) (set5 w8 w.heap.size (.slice va z.ds.length vc) (.string (str z.log)) (.string (str z.next)) (.int .i64 z.stage) (.bool z.up))) := fun w8 g => out_a hL (O4.trans (Only.of g (fun k e => by cases e; exact hcl))) (gfresh G4 (by omega) g) hrl (Nat.le_refl _) hlg hnx
  obtain ⟨p0, p1, p2, p3, p4⟩ := B4
  obtain ⟨⟨z0, y0⟩, ⟨z1, y1⟩, ⟨z2, y2⟩, ⟨z3, y3⟩, ⟨z4, y4⟩⟩ := Z4
  clear hL C4 G4 O4 B3 Z3 C3 O3 G3 g4 Z0 e0 hR hR0 hc1 hc2 g1 g2 e3 s0
  go_region_with (first | (go_at_call 53; go_fit (l1DrawValue_any c _ (HC.out.kept (gdrew (grefl _) 1) (by simp))); rintro e w8 ⟨x, hx, rfl, hc8, g8⟩; have g8' : w4.grownBy w8 (some c) := gtrans (gweak (gdrew (grefl w4) 1) (some c)) g8; obtain ⟨⟨z0', y0'⟩, ⟨z1', y1'⟩, ⟨z2', y2'⟩, ⟨z3', y3'⟩, ⟨z4', y4'⟩⟩ := HZ.out.kept g8' (by simp; omega); obtain ⟨p0', p1', p2', p3', p4'⟩ := Box5.only HB.out (Only.of (S := fun k => k = c) g8' (fun k e => by cases e; rfl)) hbc))
  all_goals
    have hfin := HF.out _ g8'
    go_wp2_with fail
    exact bodyPost_ret (v := .tuple #[z.val (.slice va z.ds.length vc), .int .i64 p, .int .i64 x]) (by simp [results, Tryz.results26, go_sem, z0', z1', z2', z3', z4']) rfl ⟨z, _, p, x, rfl, hp, hx, hfin⟩
set_option maxRecDepth 8000 in
set_option maxHeartbeats 4000000 in
theorem drawArrayOk_any (a : Option Addr) (len cap : Nat) (w : World) (hR : CodeAt w a len) :
    Calls Tryz.prog 95 #[.slice a len cap] w fun e w' => ∃ (z : AZ) (v : Value), e = .returned (z.val v) ∧ OutA w z v w' := by
  have Z0 := Zero5.new w
  have e0 := galloc (grefl w) zero5
  have s0 : (w.alloc zero5).heap.size = w.heap.size + 1 := by simp
  have hR0 := hR.kept (gbelow e0)
  go_enter Tryz.func95, Tryz.ntmps95
  go_upto_region 1 with (fail)
  generalize w.alloc zero5 = W0 at *
  go_wp2_with fail
  go_fit (l1New_any a len cap _ hR0)
  rintro e w1 ⟨c, rfl, hlt, hc1, g1⟩
  have hs1 := g1.size
  have hcl := hc1.lt
  go_wp2_with fail
  go_fit (l9DrawAny_any c _ hc1)
  rintro e w2 ⟨z, v, rfl, hL, hlg, hnx, hc2, g2⟩
  obtain ⟨va, vc, rfl, -⟩ := (hL w2 (Only.refl _ _)).form
  have hs2 := g2.size
  have hfin := out_a (r := w.heap.size) hL (Only.refl _ _) (gfresh (gtrans e0 g1) (by omega) g2) (by omega) (Nat.le_refl _) hlg hnx
  obtain ⟨⟨z0, y0⟩, ⟨z1, y1⟩, ⟨z2, y2⟩, ⟨z3, y3⟩, ⟨z4, y4⟩⟩ := (Z0.kept g1 (by simp)).kept g2 (by simp; omega)
  go_wp2_with fail
  exact bodyPost_ret (v := z.val (.slice va z.ds.length vc)) (by simp [results, Tryz.results95, go_sem, z0, z1, z2, z3, z4]) rfl ⟨z, _, rfl, hfin⟩
set_option maxRecDepth 8000 in
set_option maxHeartbeats 4000000 in
theorem drawStepped_any (a : Option Addr) (len cap : Nat) (w : World) (hR : CodeAt w a len) :
    Calls Tryz.prog 28 #[.slice a len cap] w fun e w' => ∃ (z : AZ) (v : Value), e = .returned (z.val v) ∧ OutA w z v w' := by
  have Z0 := Zero5.new w
  have e0 := galloc (grefl w) zero5
  have s0 : (w.alloc zero5).heap.size = w.heap.size + 1 := by simp
  have hR0 := hR.kept (gbelow e0)
  go_enter Tryz.func28, Tryz.ntmps28
  go_upto_region 1 with (fail)
  generalize w.alloc zero5 = W0 at *
  go_wp2_with fail
  go_fit (drawArrayOk_any a len cap _ hR0)
  rintro e w2 ⟨z, v, rfl, hL, hlg, hnx, g2⟩
  obtain ⟨va, vc, rfl, -⟩ := (hL w2 (Only.refl _ _)).form
  obtain ⟨⟨z0, y0⟩, ⟨z1, y1⟩, ⟨z2, y2⟩, ⟨z3, y3⟩, ⟨z4, y4⟩⟩ := Z0.kept g2 (by simp)
  have hfin := out_a (r := w.heap.size) hL (Only.refl _ _) (gtrans e0 g2) (by omega) (Nat.le_refl _) hlg hnx
  go_wp2_with fail
  exact bodyPost_ret (v := z.val (.slice va z.ds.length vc)) (by simp [results, Tryz.results28, go_sem, z0, z1, z2, z3, z4]) rfl ⟨z, _, rfl, hfin⟩
theorem drawNewArray_any (a : Option Addr) (len cap : Nat) (w : World) (hR : CodeAt w a len) :
    Calls Tryz.prog 30 #[.slice a len cap] w (Drawn2 w) := by
  go_enter Tryz.func30, Tryz.ntmps30
  go_wp2_with fail
  go_fit (drawRoomOf_any a len cap _ hR)
  rintro e w1 ⟨n, l, n0, n1, l0, l1, rfl, g⟩
  go_wp2_with fail
  exact bodyPost_ret (v := .tuple #[.int .i64 n, .int .i64 l]) (by simp [results, Tryz.results30, go_sem]) rfl ⟨n, l, n0, n1, l0, l1, rfl, g⟩
end Go.Proofs.YtdfhfebcbmolbaaGreatDoor
