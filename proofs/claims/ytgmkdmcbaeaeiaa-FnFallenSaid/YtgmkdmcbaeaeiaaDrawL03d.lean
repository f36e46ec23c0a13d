/- The drawn arguments of chapter 3: a crash. -/
import Derived.Test.YtgmkdmcbaeaeiaaDrawL03b
namespace Go.Proofs.Ytgmkdmcbaeaeiaa
open Go.ChangeShapes Go.WideShapes Go.ChangeAt Go.RowKit

theorem tab3 (k : Int) (h0 : 0 ≤ k) (h1 : k < 3) : ∃ u, i64B u ∧ (#[.int .i64 (-1), .int .i64 65535, .int .i64 65536] : Array Value)[k.toNat]? = some (.int .i64 u) := by
  obtain ⟨k, rfl⟩ := Int.eq_ofNat_of_zero_le h0
  rcases (show k = 0 ∨ k = 1 ∨ k = 2 by omega) with rfl | rfl | rfl <;> exact ⟨_, ⟨by omega, by omega⟩, rfl⟩
theorem FnS.tab {w W W' w8 : World} {c b B : Nat} {d : DZ} {kv nv : Value} (h : FnS w W c b B d kv nv) (hc : Cur w8 c) (g : W'.grownBy w8 (some c)) {k : Int} {u : Int} {cs : Array Value} (_ : cs[k.toNat]? = some (.int .i64 u))
    (hW : W' = W.drew ∨ W' = (W.alloc (.cells cs 2)).drew := by first | exact .inl rfl | exact .inr rfl) : FnS w w8 c b B d kv nv := by
  rcases hW with rfl | rfl
  · exact (h.kept (gdrew (grefl _) 1)).draw g hc
  · exact (h.kept (gdrew (galloc (grefl _) _) 1)).draw g hc
set_option maxHeartbeats 4000000 in
theorem drawFallen_any (a : Option Addr) (len cap : Nat) (w : World) (hR : CodeAt w a len) :
    Calls Try.prog 29 #[.slice a len cap] w (DrawnD1 w) := by
  have Z0 := zeroed w 26
  have g0 := galloc (grefl w) (.cells #[.int .i64 0, .bool false, .slice none 0 0, .slice none 0 0] 26)
  have hR0 := hR.kept (gbelow g0)
  go_enter Try.func29, Try.ntmps29
  go_wp2_with fail
  refine (l1New_any a len cap _ hR0).mono ?_
  rintro e w1 ⟨c, rfl, hlt, hc1, g1⟩
  have Z1 := Z0.kept g1 (by simp)
  have G1 := gtrans g0 g1
  have hcr : w.heap.size < c := by simp at hlt; omega
  have hc9 := hc1.lt
  clear hR0 Z0 g0 g1 hlt
  go_wp2_with fail
  refine (l3Draw_any c _ hc1).mono ?_
  rintro e w2 ⟨d, kv, nv, rfl, hd, ap, M1, M2, hc2, g2⟩
  have D2 := DBox.boxed hd ap 26
  have e2 := galloc (grefl w2) (.cells #[.int .i64 d.n, .bool d.dead, kv, nv] 26)
  have s2 := g2.size
  have R2 : FnS w _ c _ _ d kv nv := ⟨D2, (Z1.kept g2 (by simp; omega)).kept e2 (by simp), hc2.grew e2, gtrans (gfresh G1 (by omega) g2) e2, hcr, hc9, by omega⟩
  obtain ⟨ka, km, kc, rfl⟩ := hd.1.sl
  obtain ⟨na, nm, nc, rfl⟩ := hd.2.sl
  clear D2 Z1 G1 hc1 hc2 g2 e2 hd ap
  go_upto_region 3 with (fail)
  generalize w2.alloc (.cells #[.int .i64 d.n, .bool d.dead, .slice ka km kc, .slice na nm nc] 26) = W2 at *
  have hbc : w2.heap.size ≠ c := by omega
  have hrb : w.heap.size ≠ w2.heap.size := by omega
  have hrc : w.heap.size ≠ c := by omega
  generalize w2.heap.size = b at *
  go_wp2_with fail
  refine (l1Once_any c _ _ R2.cur (by omega)).mono ?_
  rintro e w3 ⟨b1, rfl, hc3, g3⟩
  have R3 := R2.draw g3 hc3
  clear R2 g3 hc3
  cases b1
  · have S0 : RtS w3 b _ _ _ _ w.heap.size := R3.zero.rt R3.b4
    go_wp2_with fail
    go_region_held3 (fun w' => RtS w' b (.int .i64 d.n) (.bool d.dead) (.slice ka km kc) (.slice na nm nc) w.heap.size) (first | assumption | exact S0.drew | exact RtS.draw ‹RtS _ b _ _ _ _ w.heap.size› ‹World.grownBy _ _ (some c)› hbc hrc | exact RtS.set ‹RtS _ b _ _ _ _ w.heap.size› hrb _ _ _ _) (first | (go_at_call 51; refine (l1Below_any c _ _ (R3.kept (gdrew (grefl _) 1)).cur (by omega)).mono ?_; rintro e w8 ⟨x, ⟨hx0, hx1⟩, rfl, hc8, g8⟩))
    have R8 := (R3.kept (gdrew (grefl _) 1)).draw g8 hc8
    have hfin := R8.fin (.int .i64 d.n) (.bool d.dead) (.slice ka km kc) (.slice na nm nc)
    obtain ⟨⟨z0, y0⟩, ⟨z1, y1⟩, ⟨z2, y2⟩, ⟨z3, y3⟩⟩ := R8.zero
    go_wp2_with fail
    exact bodyPost_ret (v := .tuple #[.agg #[.int .i64 d.n, .bool d.dead, .slice ka km kc, .slice na nm nc], .int .i64 x]) (by simp [results, Try.results29, go_sem, z0, z1, z2, z3]) rfl ⟨d, _, _, x, rfl, hfin.1, hfin.2.1, M1, M2, ⟨by omega, by omega⟩, hfin.2.2⟩
  · obtain ⟨⟨z0, y0⟩, ⟨z1, y1⟩, ⟨z2, y2⟩, ⟨z3, y3⟩⟩ := R3.zero
    obtain ⟨c0, c1, c2, c3⟩ := R3.b4
    have hb3 := cell_lt c0
    have hr3 := cell_lt z0
    have hWc := R3.cur.lt
    have hWr : w3.heap.size ≠ w.heap.size := by omega
    have hWb : w3.heap.size ≠ b := by omega
    have HR := Lib.hid R3
    have HC := Lib.hid R3.cur
    clear R3
    go_wp2_with fail
    go_region_with (first | (go_at_call 51; go_loud (refine (l1Below_any c _ _ (by first | exact HC.out.drewN 1 | exact Cur.drewN (HC.out.alloc _) 1) (by omega)).mono ?_); rintro e w8 ⟨k, ⟨hk0, hk1⟩, rfl, hc8, g8⟩; obtain ⟨u, bu, hu⟩ := tab3 k hk0 hk1; go_loud (have R8 := FnS.tab HR.out hc8 g8 hu); go_loud ((first | have hcell := (table_cell' g8 hWc k.toNat).trans hu | skip)); go_loud (have hu2 := hu); go_loud (rw [List.getElem?_toArray] at hu2); obtain ⟨⟨z0', y0'⟩, ⟨z1', y1'⟩, ⟨z2', y2'⟩, ⟨z3', y3'⟩⟩ := R8.zero; obtain ⟨c0', c1', c2', c3'⟩ := R8.b4; go_loud (have hq1 := cell_lt z0'); go_loud (have hq2 := cell_lt c0'); go_loud (have hq3 : w8.heap.size ≠ w.heap.size := by omega); go_loud (have H8 := Lib.hid R8); go_loud (clear R8)))
    all_goals
      have F1 := H8.out.fin (.int .i64 d.n) (.bool d.dead) (.slice ka km kc) (.slice na nm nc)
      have F2 := (H8.out.kept (galloc (grefl w8) (.cells #[.int .i64 (-1), .int .i64 65535, .int .i64 65536] 2))).fin (.int .i64 d.n) (.bool d.dead) (.slice ka km kc) (.slice na nm nc)
      unfold set4 at F1 F2
      go_wp2_with fail
      refine bodyPost_ret (v := .tuple #[.agg #[.int .i64 d.n, .bool d.dead, .slice ka km kc, .slice na nm nc], .int .i64 u]) (by simp [results, Try.results29, go_sem, z0', z1', z2', z3', hq1] <;> exact (List.getElem?_eq_some_iff.1 hu2).2) rfl ⟨d, _, _, u, rfl, ?_⟩
      first
        | (with_reducible exact ⟨F1.1, F1.2.1, M1, M2, bu, F1.2.2⟩)
        | (with_reducible exact ⟨F2.1, F2.2.1, M1, M2, bu, F2.2.2⟩)
        | (with_reducible exact ⟨F1.1.grew (galloc (grefl _) _), F1.2.1, M1, M2, bu, galloc F1.2.2 _⟩)
end Go.Proofs.Ytgmkdmcbaeaeiaa
