/- The drawn arguments of chapter 3, the rest. -/
import Derived.Test.YtgmkdmcbaeaeiaaDrawL03b
namespace Go.Proofs.Ytgmkdmcbaeaeiaa
open Go.ChangeShapes Go.WideShapes Go.ChangeAt Go.RowKit

set_option maxHeartbeats 1000000 in
theorem drawDiskOk_any (a : Option Addr) (len cap : Nat) (w : World) (hR : CodeAt w a len) :
    Calls Try.prog 54 #[.slice a len cap] w (DrawnD0 w) := by
  have Z0 := zeroed w 26
  have g0 := galloc (grefl w) (.cells #[.int .i64 0, .bool false, .slice none 0 0, .slice none 0 0] 26)
  have hR0 := hR.kept (gbelow g0)
  go_enter Try.func54, Try.ntmps54
  go_wp2_with fail
  refine (l1New_any a len cap _ hR0).mono ?_
  rintro e w1 ⟨c, rfl, hlt, hc1, g1⟩
  have Z1 := Z0.kept g1 (by simp)
  have G1 := gtrans g0 g1
  have hcr : w.heap.size < c := by simp at hlt; omega
  have hc9 := hc1.lt
  clear hR0 Z0 g0 g1 hlt
  go_wp2_with fail
  refine (l3Draw_any c _ hc1).mono ?_
  rintro e w2 ⟨d, kv, nv, rfl, hd, ap, M1, M2, hc2, g2⟩
  have s2 := g2.size
  have Z2 := Z1.kept g2 (by simp; omega)
  have G2 := gfresh G1 (by omega) g2
  have hfin : IsD (set4 w2 w.heap.size (.int .i64 d.n) (.bool d.dead) kv nv) w.heap.size kv nv d := ⟨(hd.1.lower (by omega)).set4 (not_own hd.1 (by omega)) _ _ _ _, (hd.2.lower (by omega)).set4 (not_own hd.2 (by omega)) _ _ _ _⟩
  obtain ⟨ka, km, kc, rfl⟩ := hd.1.sl
  obtain ⟨na, nm, nc, rfl⟩ := hd.2.sl
  obtain ⟨⟨z0, y0⟩, ⟨z1, y1⟩, ⟨z2, y2⟩, ⟨z3, y3⟩⟩ := Z2
  go_wp2_with fail
  exact bodyPost_ret (v := .agg #[.int .i64 d.n, .bool d.dead, .slice ka km kc, .slice na nm nc]) (by simp [results, Try.results54, go_sem, z0, z1, z2, z3]) rfl ⟨d, _, _, rfl, hfin, ap, M1, M2, gset4 G2 (Nat.le_refl _) _ _ _ _⟩
set_option maxHeartbeats 1000000 in
theorem drawFlushed_any (a : Option Addr) (len cap : Nat) (w : World) (hR : CodeAt w a len) :
    Calls Try.prog 31 #[.slice a len cap] w (DrawnD0 w) := by
  have Z0 := zeroed w 26
  have g0 := galloc (grefl w) (.cells #[.int .i64 0, .bool false, .slice none 0 0, .slice none 0 0] 26)
  have hR0 := hR.kept (gbelow g0)
  have s0 : w.heap.size < (w.alloc (.cells #[.int .i64 0, .bool false, .slice none 0 0, .slice none 0 0] 26)).heap.size := by simp
  go_enter Try.func31, Try.ntmps31
  go_wp2_with fail
  refine (drawDiskOk_any a len cap _ hR0).mono ?_
  rintro e w2 ⟨d, kv, nv, rfl, hd, ap, M1, M2, g2⟩
  have Z2 := Z0.kept g2 (by simp)
  have G2 := gtrans g0 g2
  have hfin : IsD (set4 w2 w.heap.size (.int .i64 d.n) (.bool d.dead) kv nv) w.heap.size kv nv d := ⟨(hd.1.lower (by omega)).set4 (not_own hd.1 (by omega)) _ _ _ _, (hd.2.lower (by omega)).set4 (not_own hd.2 (by omega)) _ _ _ _⟩
  obtain ⟨ka, km, kc, rfl⟩ := hd.1.sl
  obtain ⟨na, nm, nc, rfl⟩ := hd.2.sl
  obtain ⟨⟨z0, y0⟩, ⟨z1, y1⟩, ⟨z2, y2⟩, ⟨z3, y3⟩⟩ := Z2
  clear Z0
  go_wp2_with fail
  exact bodyPost_ret (v := .agg #[.int .i64 d.n, .bool d.dead, .slice ka km kc, .slice na nm nc]) (by simp [results, Try.results31, go_sem, z0, z1, z2, z3]) rfl ⟨d, _, _, rfl, hfin, ap, M1, M2, gset4 G2 (Nat.le_refl _) _ _ _ _⟩
set_option maxHeartbeats 1000000 in
theorem drawDied_any (a : Option Addr) (len cap : Nat) (w : World) (hR : CodeAt w a len) :
    Calls Try.prog 19 #[.slice a len cap] w (DrawnD0 w) := by
  have Z0 := zeroed w 26
  have g0 := galloc (grefl w) (.cells #[.int .i64 0, .bool false, .slice none 0 0, .slice none 0 0] 26)
  have hR0 := hR.kept (gbelow g0)
  have s0 : w.heap.size < (w.alloc (.cells #[.int .i64 0, .bool false, .slice none 0 0, .slice none 0 0] 26)).heap.size := by simp
  go_enter Try.func19, Try.ntmps19
  go_wp2_with fail
  refine (drawDiskOk_any a len cap _ hR0).mono ?_
  rintro e w2 ⟨d, kv, nv, rfl, hd, ap, M1, M2, g2⟩
  have Z2 := Z0.kept g2 (by simp)
  have G2 := gtrans g0 g2
  have hfin : IsD (set4 w2 w.heap.size (.int .i64 d.n) (.bool d.dead) kv nv) w.heap.size kv nv d := ⟨(hd.1.lower (by omega)).set4 (not_own hd.1 (by omega)) _ _ _ _, (hd.2.lower (by omega)).set4 (not_own hd.2 (by omega)) _ _ _ _⟩
  obtain ⟨ka, km, kc, rfl⟩ := hd.1.sl
  obtain ⟨na, nm, nc, rfl⟩ := hd.2.sl
  obtain ⟨⟨z0, y0⟩, ⟨z1, y1⟩, ⟨z2, y2⟩, ⟨z3, y3⟩⟩ := Z2
  clear Z0
  go_wp2_with fail
  exact bodyPost_ret (v := .agg #[.int .i64 d.n, .bool d.dead, .slice ka km kc, .slice na nm nc]) (by simp [results, Try.results19, go_sem, z0, z1, z2, z3]) rfl ⟨d, _, _, rfl, hfin, ap, M1, M2, gset4 G2 (Nat.le_refl _) _ _ _ _⟩
set_option maxHeartbeats 2000000 in
theorem drawWritten_any (a : Option Addr) (len cap : Nat) (w : World) (hR : CodeAt w a len) :
    Calls Try.prog 13 #[.slice a len cap] w (DrawnD2 w) := by
  have Z0 := zeroed w 26
  have g0 := galloc (grefl w) (.cells #[.int .i64 0, .bool false, .slice none 0 0, .slice none 0 0] 26)
  have hR0 := hR.kept (gbelow g0)
  go_enter Try.func13, Try.ntmps13
  go_wp2_with fail
  refine (l1New_any a len cap _ hR0).mono ?_
  rintro e w1 ⟨c, rfl, hlt, hc1, g1⟩
  have Z1 := Z0.kept g1 (by simp)
  have G1 := gtrans g0 g1
  have hcr : w.heap.size < c := by simp at hlt; omega
  have hc9 := hc1.lt
  clear hR0 Z0 g0 g1 hlt
  go_wp2_with fail
  refine (l3Draw_any c _ hc1).mono ?_
  rintro e w2 ⟨d, kv, nv, rfl, hd, ap, M1, M2, hc2, g2⟩
  have D2 := DBox.boxed hd ap 26
  have e2 := galloc (grefl w2) (.cells #[.int .i64 d.n, .bool d.dead, kv, nv] 26)
  have s2 := g2.size
  have R2 : FnS w _ c _ _ d kv nv := ⟨D2, (Z1.kept g2 (by simp; omega)).kept e2 (by simp), hc2.grew e2, gtrans (gfresh G1 (by omega) g2) e2, hcr, hc9, by omega⟩
  obtain ⟨ka, km, kc, rfl⟩ := hd.1.sl
  obtain ⟨na, nm, nc, rfl⟩ := hd.2.sl
  clear D2 Z1 G1 hc1 hc2 g2 e2 hd ap
  go_upto_region 3 with (fail)
  generalize w2.alloc (.cells #[.int .i64 d.n, .bool d.dead, .slice ka km kc, .slice na nm nc] 26) = W2 at *
  have hbc : w2.heap.size ≠ c := by omega
  have hrb : w.heap.size ≠ w2.heap.size := by omega
  have hrc : w.heap.size ≠ c := by omega
  generalize w2.heap.size = b at *
  go_wp2_with fail
  refine (l1DrawPlace_any c _ R2.cur).mono ?_
  rintro e w3 ⟨x, bx, rfl, hc3, g3⟩
  have R3 := R2.draw g3 hc3
  clear R2 g3 hc3
  have S0 : RtS w3 b _ _ _ _ w.heap.size := R3.zero.rt R3.b4
  go_wp2_with fail
  go_region_held3 (fun w' => RtS w' b (.int .i64 d.n) (.bool d.dead) (.slice ka km kc) (.slice na nm nc) w.heap.size) (first | assumption | exact S0.drew | exact RtS.draw ‹RtS _ b _ _ _ _ w.heap.size› ‹World.grownBy _ _ (some c)› hbc hrc | exact RtS.set ‹RtS _ b _ _ _ _ w.heap.size› hrb _ _ _ _) (first | (go_at_call 43; refine (l1DrawValue_any c _ (R3.kept (gdrew (grefl _) 1)).cur).mono ?_; rintro e w8 ⟨y, by0, rfl, hc8, g8⟩))
  have R8 := (R3.kept (gdrew (grefl _) 1)).draw g8 hc8
  have hfin := R8.fin (.int .i64 d.n) (.bool d.dead) (.slice ka km kc) (.slice na nm nc)
  obtain ⟨⟨z0, y0⟩, ⟨z1, y1⟩, ⟨z2, y2⟩, ⟨z3, y3⟩⟩ := R8.zero
  go_wp2_with fail
  exact bodyPost_ret (v := .tuple #[.agg #[.int .i64 d.n, .bool d.dead, .slice ka km kc, .slice na nm nc], .int .i64 x, .int .i64 y]) (by simp [results, Try.results13, go_sem, z0, z1, z2, z3]) rfl ⟨d, _, _, x, y, rfl, hfin.1, hfin.2.1, M1, M2, bx, by0, hfin.2.2⟩
theorem tab5 (k : Int) (h0 : 0 ≤ k) (h1 : k < 5) : ∃ u, i64B u ∧ (#[.int .i64 0, .int .i64 1, .int .i64 5, .int .i64 16, .int .i64 17] : Array Value)[k.toNat]? = some (.int .i64 u) := by
  obtain ⟨k, rfl⟩ := Int.eq_ofNat_of_zero_le h0
  rcases (show k = 0 ∨ k = 1 ∨ k = 2 ∨ k = 3 ∨ k = 4 by omega) with rfl | rfl | rfl | rfl | rfl <;> exact ⟨_, ⟨by omega, by omega⟩, rfl⟩
def Drawn2 (w : World) (e : Ending) (w' : World) : Prop :=
  ∃ d p : Int, i64B d ∧ i64B p ∧ e = .returned (.tuple #[.int .i64 d, .int .i64 p]) ∧ w.grownBy w' none
set_option maxHeartbeats 2000000 in
theorem drawNewDisk_any (a : Option Addr) (len cap : Nat) (w : World) (hR : CodeAt w a len) :
    Calls Try.prog 15 #[.slice a len cap] w (Drawn2 w) := by
  go_enter Try.func15, Try.ntmps15
  go_wp2_with fail
  refine (l1New_any a len cap _ hR).mono ?_
  rintro e w1 ⟨c, rfl, hlt, hc1, g1⟩
  go_wp2_with fail
  refine (l1DrawDisk_any c _ hc1).mono ?_
  rintro e w2 ⟨n, ⟨hn0, hn1⟩, rfl, hc2, g2⟩
  have G2 := gfresh g1 hlt g2
  have hWc := hc2.lt
  have HC := Lib.hid hc2
  clear hc1 g1 g2 hc2
  go_wp2_with fail
  go_region_with (first | (go_at_call 51; refine (l1Below_any c _ _ (by first | exact HC.out.drewN 1 | exact Cur.drewN (HC.out.alloc _) 1) (by omega)).mono ?_; rintro e w8 ⟨k, ⟨hk0, hk1⟩, rfl, hc8, g8⟩; obtain ⟨u, bu, hu⟩ := tab5 k hk0 hk1; (first | have hcell := (table_cell' g8 hWc k.toNat).trans hu | skip); have G8 : w.grownBy w8 none := gfresh (by first | exact gdrew G2 1 | exact gdrew (galloc G2 _) 1) hlt g8; have hu2 := hu; rw [List.getElem?_toArray] at hu2))
  all_goals
    go_wp2_with fail
    exact bodyPost_ret (v := .tuple #[.int .i64 n, .int .i64 u]) (by simp [results, Try.results15, go_sem] <;> exact (List.getElem?_eq_some_iff.1 hu2).2) rfl ⟨n, u, ⟨by omega, by omega⟩, bu, rfl, by repeat (first | exact G8 | refine galloc ?_ _ | refine gdrew ?_ _)⟩
end Go.Proofs.Ytgmkdmcbaeaeiaa
