/- The drawn arguments of chapter 2. -/
import Derived.Deep.RegionHeld3
import Derived.Test.YteialkknddpbjaaGreatDoorPH01
import Derived.Test.YteialkknddpbjaaGreatDoorPH07
namespace Go.Proofs.YteialkknddpbjaaGreatDoor
open Go.ChangeShapes Go.WideShapes Go.ChangeAt Go.RowKit

theorem cofV_B {d p v : Int} (h : i64B v) : i64B (cofV d p v) := by
  unfold cofV; split
  · exact ⟨by omega, by omega⟩
  · exact h
theorem cofS_B (d p v : Int) : i64B (cofS d p v) := by
  have := sumZ_lo d p v; have := sumZ_hi d p v
  unfold cofS; split <;> exact ⟨by omega, by omega⟩
/-- a drawn cell -/
def DrawnC (c : Nat) (w : World) (e : Ending) (w' : World) : Prop :=
  ∃ x y : Int, i64B x ∧ i64B y ∧ e = .returned (.agg #[.int .i64 x, .int .i64 y]) ∧ Cur w' c ∧ w.grownBy w' (some c)
theorem l2Draw_any (c : Nat) (w : World) (hc : Cur w c) :
    Calls Tryz.prog 262 #[.pointer (some ⟨c, 0, none⟩)] w (DrawnC c w) := by
  have hlt := hc.lt
  have hc0 := hc.alloc (.cells #[.int .i64 0, .int .i64 0] 59)
  have t0 := Two.new w 0 0 59
  have g0 : w.grownBy (w.alloc (.cells #[.int .i64 0, .int .i64 0] 59)) (some c) := galloc (World.grownBy.refl w _) _
  have hne : w.heap.size ≠ c := by omega
  go_enter Tryz.func262, Tryz.ntmps262
  go_wp2_with fail
  refine (l1Below_any c _ _ hc0 (by omega)).mono ?_
  rintro e w1 ⟨d, ⟨hd0, hd1⟩, rfl, hc1, g1⟩
  have t1 := t0.kept1 hne g1; clear t0 hc0
  go_wp2_with fail
  refine (l1Below_any c _ _ hc1 (by omega)).mono ?_
  rintro e w2 ⟨p, ⟨hp0, hp1⟩, rfl, hc2, g2⟩
  have t2 := t1.kept1 hne g2; clear t1 hc1
  go_wp2_with fail
  refine (l1Below_any c _ _ hc2 (by omega)).mono ?_
  rintro e w3 ⟨v, ⟨hv0, hv1⟩, rfl, hc3, g3⟩
  have t3 := t2.kept1 hne g3; clear t2 hc2
  go_wp2_with fail
  refine (specCellOf_any _ _ _ _).mono ?_
  rintro e w4 ⟨rfl, g4⟩
  have g5 := galloc g4 (.cells #[.int .i64 (cofV d p v), .int .i64 (cofS d p v)] 59)
  have t5 := t3.kept g5
  have x5 := Two.new w4 (cofV d p v) (cofS d p v) 59
  have hc5 := hc3.grew g5
  have bx : i64B (cofV d p v) := cofV_B ⟨by omega, by omega⟩
  have bs := cofS_B d p v
  have G5 : w.grownBy _ (some c) := gtrans g0 (gtrans g1 (gtrans g2 (gtrans g3 (gweak g5 _))))
  have l3 := t3.lt
  have lx := x5.lt
  have hx : w4.heap.size ≠ c := by have := hc3.lt; have := g4.size; omega
  have hxw : w4.heap.size ≠ w.heap.size := by have := g4.size; omega
  have hlx : w.heap.size ≤ w4.heap.size := by have := g4.size; omega
  clear t3 hc3 g0 g1 g2 g3 g5
  generalize cofV d p v = x at *
  generalize cofS d p v = y at *
  go_wp2_with fail
  refine (l1Once_any c _ _ hc5 (by omega)).mono ?_
  rintro e w6 ⟨b, rfl, hc6, g6⟩
  have t6 := t5.kept1 hne g6
  have x6 := x5.kept1 hx g6
  have G6 := gtrans G5 g6
  clear t5 x5 hc5 G5 g6
  have hcr : c < w.heap.size := hlt
  have hcx : c < w4.heap.size := by omega
  cases b
  · obtain ⟨⟨a0, a1⟩, a2, a3⟩ := t6
    obtain ⟨⟨b0, b1⟩, b2, b3⟩ := x6
    go_wp2_with fail
    refine bodyPost_ret (v := .agg #[.int .i64 x, .int .i64 y]) (by simp [results, Tryz.results262, go_sem, a0, a2]) rfl ⟨x, y, bx, bs, rfl, ?_, ?_⟩
    · exact (hc6.set hcr _ _).set hcr _ _
    · exact gset1 (gset1 G6 (Nat.le_refl _) _ _) (Nat.le_refl _) _ _
  go_wp2_with fail
  refine (l1Below_any c _ _ hc6 (by omega)).mono ?_
  rintro e w7 ⟨k, ⟨hk0, hk1⟩, rfl, hc7, g7⟩
  have t7 := t6.kept1 hne g7
  have x7 := x6.kept1 hx g7
  have G7 := gtrans G6 g7
  clear t6 x6 hc6 G6 g7
  rcases (show k = 0 ∨ k = 1 by omega) with rfl | rfl
  · go_wp2_with fail
    refine (l1DrawValue_any c _ hc7).mono ?_
    rintro e w8 ⟨u, bu, rfl, hc8, g8⟩
    have t8 := t7.kept1 hne g8
    have x8 := x7.kept1 hx g8
    have G8 := gtrans G7 g8
    clear t7 x7 hc7 G7 g8
    obtain ⟨⟨a0, a1⟩, a2, a3⟩ := t8
    obtain ⟨⟨b0, b1⟩, b2, b3⟩ := x8
    go_wp2_with fail
    refine bodyPost_ret (v := .agg #[.int .i64 u, .int .i64 y]) (by simp [results, Tryz.results262, go_sem, a0, a2]) rfl ⟨u, y, bu, bs, rfl, ?_, ?_⟩
    · exact ((hc8.set hcx _ _).set hcr _ _).set hcr _ _
    · exact gset1 (gset1 (gset1 G8 hlx _ _) (Nat.le_refl _) _ _) (Nat.le_refl _) _ _
  · go_wp2_with fail
    refine (l1Below_any c _ _ (hc7.alloc _) (by omega)).mono ?_
    rintro e w8 ⟨k, ⟨hk0, hk1⟩, rfl, hc8, g8⟩
    obtain ⟨k, rfl⟩ := Int.eq_ofNat_of_zero_le hk0
    obtain ⟨u, bu, hcell⟩ : ∃ u, i64B u ∧ w8.cell? ⟨w7.heap.size, k, none⟩ = some (.int .i64 u) := by
      rw [table_cell g8 hc7.lt k]
      rcases (show k = 0 ∨ k = 1 ∨ k = 2 ∨ k = 3 by omega) with rfl | rfl | rfl | rfl <;> exact ⟨_, ⟨by omega, by omega⟩, rfl⟩
    have t8 := (t7.alloc _).kept1 hne g8
    have x8 := (x7.alloc _).kept1 hx g8
    have G8 := gtrans (galloc G7 _) g8
    clear t7 x7 hc7 G7 g8
    obtain ⟨⟨a0, a1⟩, a2, a3⟩ := t8
    obtain ⟨⟨b0, b1⟩, b2, b3⟩ := x8
    go_wp2_with fail
    refine bodyPost_ret (v := .agg #[.int .i64 x, .int .i64 u]) (by simp [results, Tryz.results262, go_sem, a0, a2]) rfl ⟨x, u, bx, bu, rfl, ?_, ?_⟩
    · exact ((hc8.set hcx _ _).set hcr _ _).set hcr _ _
    · exact gset1 (gset1 (gset1 G8 hlx _ _) (Nat.le_refl _) _ _) (Nat.le_refl _) _ _
/-- what holds while DrawRotten gathers its results -/
abbrev RotS (w w' : World) (b : Nat) (x y : Int) (c : Nat) : Prop := TwoR w' b x y ∧ Live w' w.heap.size 0 ∧ Live w' w.heap.size 1 ∧ Cur w' c ∧ w.grownBy w' none
theorem RotS.drew {w w' : World} {b c : Nat} {x y : Int} (h : RotS w w' b x y c) : RotS w w'.drew b x y c := ⟨h.1, h.2.1, h.2.2.1, h.2.2.2.1, h.2.2.2.2.os, h.2.2.2.2.tape, h.2.2.2.2.output, h.2.2.2.2.size, h.2.2.2.2.block⟩
theorem RotS.cur {w w' : World} {b c : Nat} {x y : Int} (h : RotS w w' b x y c) : Cur w' c := h.2.2.2.1
theorem RotS.alloc {w w' : World} {b c : Nat} {x y : Int} (h : RotS w w' b x y c) (o : Obj) : RotS w (w'.alloc o) b x y c :=
  ⟨h.1.kept (galloc (grefl _) o), h.2.1.kept (galloc (grefl _) o), h.2.2.1.kept (galloc (grefl _) o), h.cur.alloc o, galloc h.2.2.2.2 o⟩
theorem RotS.call {w w' w8 : World} {b c : Nat} {x y : Int} (h : RotS w w' b x y c) (hx : b ≠ c) (hne : w.heap.size ≠ c) (hl : w.heap.size ≤ c) (hc : Cur w8 c) (hg : w'.grownBy w8 (some c)) : RotS w w8 b x y c :=
  ⟨h.1.kept1 hx hg, h.2.1.kept1 hne hg, h.2.2.1.kept1 hne hg, hc, gfresh h.2.2.2.2 hl hg⟩
end Go.Proofs.YteialkknddpbjaaGreatDoor
