/- The drawn arguments of chapter 2. -/
import Derived.Test.YtnkfmjgbeoddbaaSpecL02
import Derived.Test.YtnkfmjgbeoddbaaDrawL01
import Derived.Deep.RegionHeld3
namespace Go.Proofs.Ytnkfmjgbeoddbaa
open Go.ChangeShapes Go.WideShapes Go.ChangeAt Go.RowKit

theorem cofV_B {d p v : Int} (h : i64B v) : i64B (cofV d p v) := by
  unfold cofV; split
  · exact ⟨by omega, by omega⟩
  · exact h
theorem cofS_B (d p v : Int) : i64B (cofS d p v) := by
  have := sumZ_lo d p v; have := sumZ_hi d p v
  unfold cofS; split <;> exact ⟨by omega, by omega⟩
/-- a drawn cell -/
def DrawnC (c : Nat) (w : World) (e : Ending) (w' : World) : Prop :=
  ∃ x y : Int, i64B x ∧ i64B y ∧ e = .returned (.agg #[.int .i64 x, .int .i64 y]) ∧ Cur w' c ∧ w.grownBy w' (some c)
theorem l2Draw_any (c : Nat) (w : World) (hc : Cur w c) :
    Calls Try.prog 34 #[.pointer (some ⟨c, 0, none⟩)] w (DrawnC c w) := by
  have hlt := hc.lt
  have hc0 := hc.alloc (.cells #[.int .i64 0, .int .i64 0] 27)
  have t0 := Two.new w 0 0 27
  have g0 : w.grownBy (w.alloc (.cells #[.int .i64 0, .int .i64 0] 27)) (some c) := galloc (World.grownBy.refl w _) _
  have hne : w.heap.size ≠ c := by omega
  go_enter Try.func34, Try.ntmps34
  go_wp2_with fail
  refine (l1Below_any c _ _ hc0 (by omega)).mono ?_
  rintro e w1 ⟨d, ⟨hd0, hd1⟩, rfl, hc1, g1⟩
  have t1 := t0.kept1 hne g1; clear t0 hc0
  go_wp2_with fail
  refine (l1Below_any c _ _ hc1 (by omega)).mono ?_
  rintro e w2 ⟨p, ⟨hp0, hp1⟩, rfl, hc2, g2⟩
  have t2 := t1.kept1 hne g2; clear t1 hc1
  go_wp2_with fail
  refine (l1Below_any c _ _ hc2 (by omega)).mono ?_
  rintro e w3 ⟨v, ⟨hv0, hv1⟩, rfl, hc3, g3⟩
  have t3 := t2.kept1 hne g3; clear t2 hc2
  go_wp2_with fail
  refine (specCellOf_any _ _ _ _).mono ?_
  rintro e w4 ⟨rfl, g4⟩
  have g5 := galloc g4 (.cells #[.int .i64 (cofV d p v), .int .i64 (cofS d p v)] 27)
  have t5 := t3.kept g5
  have x5 := Two.new w4 (cofV d p v) (cofS d p v) 27
  have hc5 := hc3.grew g5
  have bx : i64B (cofV d p v) := cofV_B ⟨by omega, by omega⟩
  have bs := cofS_B d p v
  have G5 : w.grownBy _ (some c) := gtrans g0 (gtrans g1 (gtrans g2 (gtrans g3 (gweak g5 _))))
  have l3 := t3.lt
  have lx := x5.lt
  have hx : w4.heap.size ≠ c := by have := hc3.lt; have := g4.size; omega
  have hxw : w4.heap.size ≠ w.heap.size := by have := g4.size; omega
  have hlx : w.heap.size ≤ w4.heap.size := by have := g4.size; omega
  clear t3 hc3 g0 g1 g2 g3 g5
  generalize cofV d p v = x at *
  generalize cofS d p v = y at *
  go_wp2_with fail
  refine (l1Once_any c _ _ hc5 (by omega)).mono ?_
  rintro e w6 ⟨b, rfl, hc6, g6⟩
  have t6 := t5.kept1 hne g6
  have x6 := x5.kept1 hx g6
  have G6 := gtrans G5 g6
  clear t5 x5 hc5 G5 g6
  have hcr : c < w.heap.size := hlt
  have hcx : c < w4.heap.size := by omega
  cases b
  · obtain ⟨⟨a0, a1⟩, a2, a3⟩ := t6
    obtain ⟨⟨b0, b1⟩, b2, b3⟩ := x6
    go_wp2_with fail
    refine bodyPost_ret (v := .agg #[.int .i64 x, .int .i64 y]) (by simp [results, Try.results34, go_sem, a0, a2]) rfl ⟨x, y, bx, bs, rfl, ?_, ?_⟩
    · exact (hc6.set hcr _ _).set hcr _ _
    · exact gset1 (gset1 G6 (Nat.le_refl _) _ _) (Nat.le_refl _) _ _
  go_wp2_with fail
  refine (l1Below_any c _ _ hc6 (by omega)).mono ?_
  rintro e w7 ⟨k, ⟨hk0, hk1⟩, rfl, hc7, g7⟩
  have t7 := t6.kept1 hne g7
  have x7 := x6.kept1 hx g7
  have G7 := gtrans G6 g7
  clear t6 x6 hc6 G6 g7
  rcases (show k = 0 ∨ k = 1 by omega) with rfl | rfl
  · go_wp2_with fail
    refine (l1DrawValue_any c _ hc7).mono ?_
    rintro e w8 ⟨u, bu, rfl, hc8, g8⟩
    have t8 := t7.kept1 hne g8
    have x8 := x7.kept1 hx g8
    have G8 := gtrans G7 g8
    clear t7 x7 hc7 G7 g8
    obtain ⟨⟨a0, a1⟩, a2, a3⟩ := t8
    obtain ⟨⟨b0, b1⟩, b2, b3⟩ := x8
    go_wp2_with fail
    refine bodyPost_ret (v := .agg #[.int .i64 u, .int .i64 y]) (by simp [results, Try.results34, go_sem, a0, a2]) rfl ⟨u, y, bu, bs, rfl, ?_, ?_⟩
    · exact ((hc8.set hcx _ _).set hcr _ _).set hcr _ _
    · exact gset1 (gset1 (gset1 G8 hlx _ _) (Nat.le_refl _) _ _) (Nat.le_refl _) _ _
  · go_wp2_with fail
    refine (l1Below_any c _ _ (hc7.alloc _) (by omega)).mono ?_
    rintro e w8 ⟨k, ⟨hk0, hk1⟩, rfl, hc8, g8⟩
    obtain ⟨k, rfl⟩ := Int.eq_ofNat_of_zero_le hk0
    obtain ⟨u, bu, hcell⟩ : ∃ u, i64B u ∧ w8.cell? ⟨w7.heap.size, k, none⟩ = some (.int .i64 u) := by
      rw [table_cell g8 hc7.lt k]
      rcases (show k = 0 ∨ k = 1 ∨ k = 2 ∨ k = 3 by omega) with rfl | rfl | rfl | rfl <;> exact ⟨_, ⟨by omega, by omega⟩, rfl⟩
    have t8 := (t7.alloc _).kept1 hne g8
    have x8 := (x7.alloc _).kept1 hx g8
    have G8 := gtrans (galloc G7 _) g8
    clear t7 x7 hc7 G7 g8
    obtain ⟨⟨a0, a1⟩, a2, a3⟩ := t8
    obtain ⟨⟨b0, b1⟩, b2, b3⟩ := x8
    go_wp2_with fail
    refine bodyPost_ret (v := .agg #[.int .i64 x, .int .i64 u]) (by simp [results, Try.results34, go_sem, a0, a2]) rfl ⟨x, u, bx, bu, rfl, ?_, ?_⟩
    · exact ((hc8.set hcx _ _).set hcr _ _).set hcr _ _
    · exact gset1 (gset1 (gset1 G8 hlx _ _) (Nat.le_refl _) _ _) (Nat.le_refl _) _ _
theorem drawCellOf_any (a : Option Addr) (len cap : Nat) (w : World) (hR : CodeAt w a len) :
    Calls Try.prog 7 #[.slice a len cap] w (Drawn3 w) := by
  go_enter Try.func7, Try.ntmps7
  go_wp2_with fail
  refine (drawSumOf_any a len cap _ hR).mono ?_
  rintro e w1 ⟨d, p, v, hd, hp, hv, rfl, hg1⟩
  go_wp2_with fail
  go_ret3
  exact ⟨d, p, v, hd, hp, hv, rfl, hg1⟩
/-- a drawn cell and two numbers -/
def DrawnC2 (w : World) (e : Ending) (w' : World) : Prop :=
  ∃ x y d p : Int, i64B x ∧ i64B y ∧ i64B d ∧ i64B p ∧ e = .returned (.tuple #[.agg #[.int .i64 x, .int .i64 y], .int .i64 d, .int .i64 p]) ∧ w.grownBy w' none
theorem drawGood_any (a : Option Addr) (len cap : Nat) (w : World) (hR : CodeAt w a len) :
    Calls Try.prog 9 #[.slice a len cap] w (DrawnC2 w) := by
  have t0 := Two.new w 0 0 27
  have g0 : w.grownBy (w.alloc (.cells #[.int .i64 0, .int .i64 0] 27)) none := galloc (grefl w) _
  have hR0 := hR.kept (gbelow g0)
  go_enter Try.func9, Try.ntmps9
  go_wp2_with fail
  refine (l1New_any a len cap _ hR0).mono ?_
  rintro e w1 ⟨c, rfl, hlt, hc1, g1⟩
  have t1 := t0.kept g1
  have hcr : w.heap.size < c := by simp at hlt; omega
  have hne : w.heap.size ≠ c := by omega
  clear hR0 t0
  go_wp2_with fail
  refine (l1DrawDisk_any c _ hc1).mono ?_
  rintro e w2 ⟨d, ⟨hd0, hd1⟩, rfl, hc2, g2⟩
  have t2 := t1.kept1 hne g2; clear t1 hc1
  go_wp2_with fail
  refine (l1DrawPlace_any c _ hc2).mono ?_
  rintro e w3 ⟨p, bp, rfl, hc3, g3⟩
  have t3 := t2.kept1 hne g3; clear t2 hc2
  go_wp2_with fail
  refine (l1Below_any c _ _ hc3 (by omega)).mono ?_
  rintro e w4 ⟨v, ⟨hv0, hv1⟩, rfl, hc4, g4⟩
  have t4 := t3.kept1 hne g4; clear t3 hc3
  go_wp2_with fail
  refine (specCellOf_any _ _ _ _).mono ?_
  rintro e w5 ⟨rfl, g5⟩
  have g6 := galloc g5 (.cells #[.int .i64 (cofV d p v), .int .i64 (cofS d p v)] 27)
  have t6 := t4.kept g6
  have x6 := Two.new w5 (cofV d p v) (cofS d p v) 27
  have hc6 := hc4.grew g6
  have bx : i64B (cofV d p v) := cofV_B ⟨by omega, by omega⟩
  have bs := cofS_B d p v
  have hcx : c < w5.heap.size := by have := hc4.lt; have := g5.size; omega
  have hx : w5.heap.size ≠ c := by omega
  have hxw : w5.heap.size ≠ w.heap.size := by omega
  have hlx : w.heap.size ≤ w5.heap.size := by omega
  have G6 : w.grownBy _ none := gfresh (gtrans g0 g1) (by omega) (gtrans g2 (gtrans g3 (gtrans g4 (gweak g6 _))))
  clear t4 hc4 g0 g1 g2 g3 g4 g5 g6
  generalize cofV d p v = x at *
  generalize cofS d p v = y at *
  go_wp2_with fail
  refine (l1Once_any c _ _ hc6 (by omega)).mono ?_
  rintro e w7 ⟨b, rfl, hc7, g7⟩
  have t7 := t6.kept1 hne g7
  have x7 := x6.kept1 hx g7
  have G7 := gfresh G6 (by omega) g7
  clear t6 x6 hc6 G6 g7
  cases b
  · obtain ⟨⟨a0, a1⟩, a2, a3⟩ := t7
    obtain ⟨⟨b0, b1⟩, b2, b3⟩ := x7
    go_wp2_with fail
    refine bodyPost_ret (v := .tuple #[.agg #[.int .i64 x, .int .i64 y], .int .i64 d, .int .i64 p]) (by simp [results, Try.results9, go_sem, a0, a2]) rfl ⟨x, y, d, p, bx, bs, ⟨by omega, by omega⟩, bp, rfl, ?_⟩
    exact gset1 (gset1 G7 (Nat.le_refl _) _ _) (Nat.le_refl _) _ _
  · go_wp2_with fail
    refine (l2Draw_any c _ hc7).mono ?_
    rintro e w8 ⟨x', y', bx', by', rfl, hc8, g8⟩
    have t8 := t7.kept1 hne g8
    have x8 := x7.kept1 hx g8
    have G8 := gfresh G7 (by omega) g8
    clear t7 x7 hc7 G7 g8
    obtain ⟨⟨a0, a1⟩, a2, a3⟩ := t8
    obtain ⟨⟨b0, b1⟩, b2, b3⟩ := x8
    go_wp2_with fail
    refine bodyPost_ret (v := .tuple #[.agg #[.int .i64 x', .int .i64 y'], .int .i64 d, .int .i64 p]) (by simp [results, Try.results9, go_sem, a0, a2]) rfl ⟨x', y', d, p, bx', by', ⟨by omega, by omega⟩, bp, rfl, ?_⟩
    exact gset1 (gset1 (gset1 (gset1 G8 hlx _ _) hlx _ _) (Nat.le_refl _) _ _) (Nat.le_refl _) _ _
/-- a drawn cell and a number -/
def DrawnC1 (w : World) (e : Ending) (w' : World) : Prop :=
  ∃ x y d : Int, i64B x ∧ i64B y ∧ i64B d ∧ e = .returned (.tuple #[.agg #[.int .i64 x, .int .i64 y], .int .i64 d]) ∧ w.grownBy w' none
theorem table_cell' {w1 w2 : World} {c T : Nat} {cs : Array Value} (h : (w1.alloc (.cells cs T)).drew.grownBy w2 (some c)) (hc : c < w1.heap.size) (k : Nat) : w2.cell? ⟨w1.heap.size, k, none⟩ = cs[k]? :=
  table_cell (w1 := w1) (w2 := w2) (T := T) (cs := cs) ⟨h.os, h.tape, h.output, h.size, h.block⟩ hc k
theorem tab6 (k : Int) (h0 : 0 ≤ k) (h1 : k < 6) : ∃ u, i64B u ∧ (#[.int .i64 0, .int .i64 1, .int .i64 7, .int .i64 32767, .int .i64 32768, .int .i64 (-1)] : Array Value)[k.toNat]? = some (.int .i64 u) := by
  obtain ⟨k, rfl⟩ := Int.eq_ofNat_of_zero_le h0
  rcases (show k = 0 ∨ k = 1 ∨ k = 2 ∨ k = 3 ∨ k = 4 ∨ k = 5 by omega) with rfl | rfl | rfl | rfl | rfl | rfl <;> exact ⟨_, ⟨by omega, by omega⟩, rfl⟩
/-- what holds while DrawRotten gathers its results -/
abbrev RotS (w w' : World) (b : Nat) (x y : Int) (c : Nat) : Prop := TwoR w' b x y ∧ Live w' w.heap.size 0 ∧ Live w' w.heap.size 1 ∧ Cur w' c ∧ w.grownBy w' none
theorem RotS.drew {w w' : World} {b c : Nat} {x y : Int} (h : RotS w w' b x y c) : RotS w w'.drew b x y c := ⟨h.1, h.2.1, h.2.2.1, h.2.2.2.1, h.2.2.2.2.os, h.2.2.2.2.tape, h.2.2.2.2.output, h.2.2.2.2.size, h.2.2.2.2.block⟩
theorem RotS.cur {w w' : World} {b c : Nat} {x y : Int} (h : RotS w w' b x y c) : Cur w' c := h.2.2.2.1
theorem RotS.alloc {w w' : World} {b c : Nat} {x y : Int} (h : RotS w w' b x y c) (o : Obj) : RotS w (w'.alloc o) b x y c :=
  ⟨h.1.kept (galloc (grefl _) o), h.2.1.kept (galloc (grefl _) o), h.2.2.1.kept (galloc (grefl _) o), h.cur.alloc o, galloc h.2.2.2.2 o⟩
theorem RotS.call {w w' w8 : World} {b c : Nat} {x y : Int} (h : RotS w w' b x y c) (hx : b ≠ c) (hne : w.heap.size ≠ c) (hl : w.heap.size ≤ c) (hc : Cur w8 c) (hg : w'.grownBy w8 (some c)) : RotS w w8 b x y c :=
  ⟨h.1.kept1 hx hg, h.2.1.kept1 hne hg, h.2.2.1.kept1 hne hg, hc, gfresh h.2.2.2.2 hl hg⟩
theorem rot_facts {w W w8 : World} {b c : Nat} {x y : Int} {W' : World} (h : RotS w W b x y c) (hx : b ≠ c) (hne : w.heap.size ≠ c) (hl : w.heap.size ≤ c) (hc : Cur w8 c) (hg : W'.grownBy w8 (some c)) {k : Int} {u : Int} {cs : Array Value} (_ : cs[k.toNat]? = some (.int .i64 u))
    (hW : W' = W.drew ∨ W' = (W.alloc (.cells cs 2)).drew := by first | exact .inl rfl | exact .inr rfl) : RotS w w8 b x y c := by
  rcases hW with rfl | rfl
  · exact h.drew.call hx hne hl hc hg
  · exact (h.alloc _).drew.call hx hne hl hc hg
set_option maxHeartbeats 2000000 in
theorem drawRotten_any (a : Option Addr) (len cap : Nat) (w : World) (hR : CodeAt w a len) :
    Calls Try.prog 10 #[.slice a len cap] w (DrawnC1 w) := by
  have t0 := Two.new w 0 0 27
  have g0 : w.grownBy (w.alloc (.cells #[.int .i64 0, .int .i64 0] 27)) none := galloc (grefl w) _
  have hR0 := hR.kept (gbelow g0)
  go_enter Try.func10, Try.ntmps10
  go_wp2_with fail
  refine (l1New_any a len cap _ hR0).mono ?_
  rintro e w1 ⟨c, rfl, hlt, hc1, g1⟩
  have t1 := t0.kept g1
  have hcr : w.heap.size < c := by simp at hlt; omega
  have hne : w.heap.size ≠ c := by omega
  clear hR0 t0
  go_wp2_with fail
  refine (l2Draw_any c _ hc1).mono ?_
  rintro e w2 ⟨x, y, bx, bs, rfl, hc2, g2⟩
  have t2 := (t1.kept1 hne g2).alloc (.cells #[.int .i64 x, .int .i64 y] 27); clear t1 hc1
  have x2 := Two.new w2 x y 27
  have hcx : c < w2.heap.size := by have := hc2.lt; omega
  have hx : w2.heap.size ≠ c := by omega
  have hxw : w2.heap.size ≠ w.heap.size := by omega
  have hlx : w.heap.size ≤ w2.heap.size := by omega
  have hc3 := hc2.alloc (.cells #[.int .i64 x, .int .i64 y] 27)
  have G3 : w.grownBy _ none := gfresh (gtrans g0 g1) (by omega) (galloc g2 (.cells #[.int .i64 x, .int .i64 y] 27))
  clear g0 g1 g2 hc2
  have S3 : RotS w (w2.alloc (.cells #[.int .i64 x, .int .i64 y] 27)) w2.heap.size x y c := ⟨x2.r, t2.1.live, t2.2.live, hc3, G3⟩
  clear x2 t2 hc3 G3
  go_wp2_with fail
  generalize w2.alloc (.cells #[.int .i64 x, .int .i64 y] 27) = W at *
  generalize w2.heap.size = b at *
  have hWr : W.heap.size ≠ w.heap.size := by have := cell_lt S3.2.1.1; omega
  have hWc : c < W.heap.size := S3.cur.lt
  obtain ⟨⟨p0, p1⟩, ⟨q0, q1⟩, ⟨q2, q3⟩, hcW, GW⟩ := S3
  have hr1 := cell_lt q0
  have hr2 := cell_lt p0
  have HC := Lib.hid hcW
  have HG := Lib.hid GW
  clear hcW GW
  go_region_with (first | (go_at_call 32; refine (l1Below_any c _ _ (by first | exact HC.out.drewN 1 | exact Cur.drewN (HC.out.alloc _) 1) (by omega)).mono ?_; rintro e w8 ⟨k, ⟨hk0, hk1⟩, rfl, hc8, g8⟩; obtain ⟨u, bu, hu⟩ := tab6 k hk0 hk1; have HH := rot_facts ⟨⟨p0, p1⟩, ⟨q0, q1⟩, ⟨q2, q3⟩, HC.out, HG.out⟩ hx hne (by omega) hc8 g8 hu; obtain ⟨⟨p0', p1'⟩, ⟨q0', q1'⟩, ⟨q2', q3'⟩, hc9, G9⟩ := HH; (first | have hcell := (table_cell' g8 hWc k.toNat).trans hu | skip); have hu2 := hu; rw [List.getElem?_toArray] at hu2; have hq1 := cell_lt q0'; have hq2 := cell_lt p0'; have hq3 : w8.heap.size ≠ w.heap.size := by omega))
  all_goals
    go_wp2_with fail
    refine bodyPost_ret (v := .tuple #[.agg #[.int .i64 x, .int .i64 y], .int .i64 u]) (by simp [results, Try.results10, go_sem, q0', q2', hq1] <;> exact (List.getElem?_eq_some_iff.1 hu2).2) rfl ⟨x, y, u, bx, bs, bu, rfl, ?_⟩
    repeat (first | exact G9 | refine galloc ?_ _ | refine gdrew ?_ _ | refine gset1 ?_ (Nat.le_refl _) _ _)
end Go.Proofs.Ytnkfmjgbeoddbaa
