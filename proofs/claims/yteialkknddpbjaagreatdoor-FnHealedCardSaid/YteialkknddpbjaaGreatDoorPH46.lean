/- Lists of disks and arrays, compared by the laws. -/
import Derived.BigQuiet
import Derived.Test.YteialkknddpbjaaGreatDoorPH33
import Derived.Test.YteialkknddpbjaaGreatDoorPH45
import Derived.Test.YteialkknddpbjaaGreatDoorPH29
import Derived.Test.YteialkknddpbjaaGreatDoorPH32
namespace Go.Proofs.YteialkknddpbjaaGreatDoor
open Go.ChangeShapes Go.WideShapes Go.ChangeAt Go.RowKit
attribute [local go_sem] str_list str_size str_add lit_list0 add_lit lit_add str_cut

theorem DrI.made {w wr : World} {c : Nat} {v : Value} {l : List Int} (h : DrI w wr c v l) (o : Obj) : DrI w (wr.alloc o) c v l := ⟨Own.grew h.own (galloc (grefl _) o), h.cur.alloc o, galloc h.grew o, h.hc⟩
def CG (c : Nat) (a b : World) : Prop := a.grownBy b (some c) ∧ (Cur a c → Cur b c)
theorem CG.refl (c : Nat) (a : World) : CG c a a := ⟨World.grownBy.refl a _, id⟩
theorem CG.trans (c : Nat) (a b d : World) (h : CG c a b) (g : CG c b d) : CG c a d := ⟨gtrans h.1 g.1, fun x => g.2 (h.2 x)⟩
theorem CG.made (c : Nat) (a : World) (o : Obj) : CG c a (a.alloc o) := ⟨galloc (World.grownBy.refl a _) o, fun h => h.alloc o⟩
def TabR (c : Nat) (v : Value) (u : World) : Prop := ∃ bt : Nat, v = .slice (some ⟨bt, 0, none⟩) 5 5 ∧ c < bt ∧ ∀ q : Nat, q < 5 → ∃ y, i64B y ∧ u.cell? ⟨bt, q, none⟩ = some (.int .i64 y)
theorem TabR.grew {c : Nat} {v : Value} {u u' : World} (h : TabR c v u) (g : u.grownBy u' (some c)) : TabR c v u' := by
  obtain ⟨bt, h1, h2, h3⟩ := h
  exact ⟨bt, h1, h2, fun q hq => by obtain ⟨y, hy, hc⟩ := h3 q hq; exact ⟨y, hy, (World.cell?_of_block (w := u) (g.block bt (cell_lt hc) (fun e => by cases e; omega))).trans hc⟩⟩
theorem TabR.of {c : Nat} {u : World} (h : c < u.heap.size) : TabR c (.slice (some ⟨u.heap.size, 0, none⟩) 5 5) (u.alloc (.cells #[.int .i64 0, .int .i64 1, .int .i64 5, .int .i64 32767, .int .i64 32768] 2)) := by
  refine ⟨u.heap.size, rfl, h, fun q hq => ?_⟩
  rcases (show q = 0 ∨ q = 1 ∨ q = 2 ∨ q = 3 ∨ q = 4 by omega) with rfl | rfl | rfl | rfl | rfl
  · exact ⟨0, ⟨by omega, by omega⟩, by simp [go_sem]⟩
  · exact ⟨1, ⟨by omega, by omega⟩, by simp [go_sem]⟩
  · exact ⟨5, ⟨by omega, by omega⟩, by simp [go_sem]⟩
  · exact ⟨32767, ⟨by omega, by omega⟩, by simp [go_sem]⟩
  · exact ⟨32768, ⟨by omega, by omega⟩, by simp [go_sem]⟩
def BelR (v : Value) : Prop := ∃ q : Nat, q < 5 ∧ v = .int .i64 (q : Int)
theorem BelR.of {x : Int} (h0 : 0 ≤ x) (h1 : x < 5) : BelR (.int .i64 x) := ⟨x.toNat, by omega, by rw [Int.toNat_of_nonneg h0]⟩
def TabAt (c : Nat) (v : Value) (u : World) : Prop := ∃ (bt q : Nat) (y : Int), v = .pointer (some ⟨bt, q, none⟩) ∧ c < bt ∧ i64B y ∧ u.cell? ⟨bt, q, none⟩ = some (.int .i64 y)
theorem TabAt.grew {c : Nat} {v : Value} {u u' : World} (h : TabAt c v u) (g : u.grownBy u' (some c)) : TabAt c v u' := by
  obtain ⟨bt, q, y, h1, h2, hy, hc⟩ := h
  exact ⟨bt, q, y, h1, h2, hy, (World.cell?_of_block (w := u) (g.block bt (cell_lt hc) (fun e => by cases e; omega))).trans hc⟩
theorem TabAt.of {c bt q : Nat} {y : Int} {u : World} (h : c < bt) (hy : i64B y) (hc : u.cell? ⟨bt, q, none⟩ = some (.int .i64 y)) : TabAt c (.pointer (some ⟨bt, q, none⟩)) u := ⟨bt, q, y, rfl, h, hy, hc⟩
def NumI (v : Value) : Prop := ∃ y : Int, i64B y ∧ v = .int .i64 y
theorem NumI.of {y : Int} (h : i64B y) : NumI (.int .i64 y) := ⟨y, h, rfl⟩
theorem IS.set5 {w : World} {B r : Nat} {v : Value} {l : List Int} (h : IS w B v l) (hr : r < B) (x0 x1 x2 x3 x4 : Value) : IS (Go.Proofs.YteialkknddpbjaaGreatDoor.set5 w r x0 x1 x2 x3 x4) B v l := by
  have hne : v.ownBlock ≠ some r := fun e => by have := (Own.lt h r e).1; omega
  unfold Go.Proofs.YteialkknddpbjaaGreatDoor.set5
  exact ((((Own.other h hne _).other hne _).other hne _).other hne _).other hne _
section
variable {ops : Array Oper} {md : Region.Mode} {Q : Exit → Act → World → Prop}
end
set_option maxRecDepth 8000 in
set_option maxHeartbeats 4000000 in
theorem drawHealed_any (a : Option Addr) (len cap : Nat) (w : World) (hR : CodeAt w a len) :
    Calls Tryz.prog 13 #[.slice a len cap] w fun e w' => ∃ (z : AZ) (v : Value) (p : Int), e = .returned (.tuple #[z.val v, .int .i64 p]) ∧ i64B p ∧ OutA w z v w' := by
  have Z0 := Zero5.new w
  have e0 := galloc (grefl w) zero5
  have s0 : (w.alloc zero5).heap.size = w.heap.size + 1 := by simp
  have hR0 := hR.kept (gbelow e0)
  go_enter Tryz.func13, Tryz.ntmps13
  go_upto_region 1 with (fail)
  generalize w.alloc zero5 = W0 at *
  go_wp2_with fail
  go_fit (l1New_any a len cap _ hR0)
  rintro e w1 ⟨c, rfl, hlt, hc1, g1⟩
  have hs1 := g1.size
  have hcl := hc1.lt
  go_wp2_with fail
  go_fit (l9DrawAny_any c _ hc1)
  rintro e w2 ⟨z, v, rfl, hL, hlg, hnx, hc2, g2⟩
  obtain ⟨va, vc, rfl, hzl⟩ := (hL w2 (Only.refl _ _)).form
  have hs2 := g2.size
  have e3 := galloc (grefl w2) (.cells #[.slice va z.ds.length vc, .string (str z.log), .string (str z.next), .int .i64 z.stage, .bool z.up] 26)
  have B3 := Box5.new w2 (.slice va z.ds.length vc) (.string (str z.log)) (.string (str z.next)) (.int .i64 z.stage) (.bool z.up) 26
  have C3 := hc2.kept e3 (by simp)
  have Z3 := ((Z0.kept g1 (by simp)).kept g2 (by simp; omega)).kept e3 (by simp)
  have G3 : w.grownBy (w2.alloc (.cells #[.slice va z.ds.length vc, .string (str z.log), .string (str z.next), .int .i64 z.stage, .bool z.up] 26)) none := gtrans (gfresh (gtrans e0 g1) (by omega) g2) e3
  have O3 : Only (fun k => k < w1.heap.size) w2 (w2.alloc (.cells #[.slice va z.ds.length vc, .string (str z.log), .string (str z.next), .int .i64 z.stage, .bool z.up] 26)) := Only.of e3 (fun k e => by cases e)
  go_upto_region 3 with (fail)
  generalize w2.alloc (.cells #[.slice va z.ds.length vc, .string (str z.log), .string (str z.next), .int .i64 z.stage, .bool z.up] 26) = W3 at *
  have hbc : w2.heap.size ≠ c := by omega
  have hrb : w.heap.size ≠ w2.heap.size := by omega
  have hrc : w.heap.size ≠ c := by omega
  have hrl : w.heap.size < w1.heap.size := by omega
  have hs3 := B3.1
  replace hs3 := cell_lt hs3
  have h1b : w1.heap.size ≤ w2.heap.size := hs2
  generalize w2.heap.size = b at *
  have HB := Lib.hid B3
  have HZ := Lib.hid Z3
  have HC := Lib.hid C3
  have HL : Hid (∀ w8, W3.grownBy w8 (some c) → LD w8 (.slice va z.ds.length vc) z.ds) := fun w8 g => hL w8 (O3.trans (Only.of g (fun k e => by cases e; exact hcl)))
  have HX : Hid (∀ w8, W3.grownBy w8 (some c) → w.grownBy w8 none) := fun w8 g => gfresh G3 (by omega) g
  have HF : Hid (∀ w8, W3.grownBy w8 (some c) → OutA w z (.slice va z.ds.length vc) (set5 w8 w.heap.size (.slice va z.ds.length vc) (.string (str z.log)) (.string (str z.next)) (.int .i64 z.stage) (.bool z.up))) := fun w8 g => out_a hL (O3.trans (Only.of g (fun k e => by cases e; exact hcl))) (gfresh G3 (by omega) g) hrl (Nat.le_refl _) hlg hnx
  obtain ⟨p0, p1, p2, p3, p4⟩ := B3
  obtain ⟨⟨z0, y0⟩, ⟨z1, y1⟩, ⟨z2, y2⟩, ⟨z3, y3⟩, ⟨z4, y4⟩⟩ := Z3
  clear hL C3 G3 O3 Z0 e0 hR hR0 hc1 hc2 g1 g2 e3 s0 hzl hs3 h1b
  clear HL HX
  go_region_with (first | (go_at_call 66; go_fit (l1From_any c (-1) 4 _ (HC.out.kept (gdrew (grefl _) 1) (by simp)) (by omega) (by omega) (by omega)); rintro e w8 ⟨x, hx, rfl, hc8, g8⟩; have g8w : W3.grownBy w8 (some c) := gtrans (gweak (gdrew (grefl W3) 1) (some c)) g8; obtain ⟨⟨z0', y0'⟩, ⟨z1', y1'⟩, ⟨z2', y2'⟩, ⟨z3', y3'⟩, ⟨z4', y4'⟩⟩ := HZ.out.kept g8w (by simp; omega); obtain ⟨p0', p1', p2', p3', p4'⟩ := Box5.only HB.out (Only.of (S := fun k => k = c) g8w (fun k e => by cases e; rfl)) hbc))
  all_goals
    have hfin := HF.out _ g8w
    go_wp2_with fail
    exact bodyPost_ret (v := .tuple #[z.val (.slice va z.ds.length vc), .int .i64 x]) (by simp [results, Tryz.results13, go_sem, z0', z1', z2', z3', z4']) rfl ⟨z, _, x, rfl, ⟨by omega, by omega⟩, hfin⟩
set_option maxRecDepth 8000 in
set_option maxHeartbeats 4000000 in
theorem drawReplaced_any (a : Option Addr) (len cap : Nat) (w : World) (hR : CodeAt w a len) :
    Calls Tryz.prog 15 #[.slice a len cap] w fun e w' => ∃ (z : AZ) (v : Value) (p : Int), e = .returned (.tuple #[z.val v, .int .i64 p]) ∧ i64B p ∧ OutA w z v w' := by
  have Z0 := Zero5.new w
  have e0 := galloc (grefl w) zero5
  have s0 : (w.alloc zero5).heap.size = w.heap.size + 1 := by simp
  have hR0 := hR.kept (gbelow e0)
  go_enter Tryz.func15, Tryz.ntmps15
  go_upto_region 1 with (fail)
  generalize w.alloc zero5 = W0 at *
  go_wp2_with fail
  go_fit (l1New_any a len cap _ hR0)
  rintro e w1 ⟨c, rfl, hlt, hc1, g1⟩
  have hs1 := g1.size
  have hcl := hc1.lt
  go_wp2_with fail
  go_fit (l9DrawAny_any c _ hc1)
  rintro e w2 ⟨z, v, rfl, hL, hlg, hnx, hc2, g2⟩
  obtain ⟨va, vc, rfl, hzl⟩ := (hL w2 (Only.refl _ _)).form
  have hs2 := g2.size
  have e3 := galloc (grefl w2) (.cells #[.slice va z.ds.length vc, .string (str z.log), .string (str z.next), .int .i64 z.stage, .bool z.up] 26)
  have B3 := Box5.new w2 (.slice va z.ds.length vc) (.string (str z.log)) (.string (str z.next)) (.int .i64 z.stage) (.bool z.up) 26
  have C3 := hc2.kept e3 (by simp)
  have Z3 := ((Z0.kept g1 (by simp)).kept g2 (by simp; omega)).kept e3 (by simp)
  have G3 : w.grownBy (w2.alloc (.cells #[.slice va z.ds.length vc, .string (str z.log), .string (str z.next), .int .i64 z.stage, .bool z.up] 26)) none := gtrans (gfresh (gtrans e0 g1) (by omega) g2) e3
  have O3 : Only (fun k => k < w1.heap.size) w2 (w2.alloc (.cells #[.slice va z.ds.length vc, .string (str z.log), .string (str z.next), .int .i64 z.stage, .bool z.up] 26)) := Only.of e3 (fun k e => by cases e)
  go_upto_region 3 with (fail)
  generalize w2.alloc (.cells #[.slice va z.ds.length vc, .string (str z.log), .string (str z.next), .int .i64 z.stage, .bool z.up] 26) = W3 at *
  have hbc : w2.heap.size ≠ c := by omega
  have hrb : w.heap.size ≠ w2.heap.size := by omega
  have hrc : w.heap.size ≠ c := by omega
  have hrl : w.heap.size < w1.heap.size := by omega
  have hs3 := B3.1
  replace hs3 := cell_lt hs3
  have h1b : w1.heap.size ≤ w2.heap.size := hs2
  generalize w2.heap.size = b at *
  have HB := Lib.hid B3
  have HZ := Lib.hid Z3
  have HC := Lib.hid C3
  have HL : Hid (∀ w8, W3.grownBy w8 (some c) → LD w8 (.slice va z.ds.length vc) z.ds) := fun w8 g => hL w8 (O3.trans (Only.of g (fun k e => by cases e; exact hcl)))
  have HX : Hid (∀ w8, W3.grownBy w8 (some c) → w.grownBy w8 none) := fun w8 g => gfresh G3 (by omega) g
  have HF : Hid (∀ w8, W3.grownBy w8 (some c) → OutA w z (.slice va z.ds.length vc) (set5 w8 w.heap.size (.slice va z.ds.length vc) (.string (str z.log)) (.string (str z.next)) (.int .i64 z.stage) (.bool z.up))) := fun w8 g => out_a hL (O3.trans (Only.of g (fun k e => by cases e; exact hcl))) (gfresh G3 (by omega) g) hrl (Nat.le_refl _) hlg hnx
  clear hL G3 O3 Z0 e0 hR hR0 hc1 hc2 g1 g2 e3 s0 B3 Z3 hs3 h1b
  go_wp2_with fail
  go_loopw [6] (fun i wr => ∃ k : Nat, k ≤ z.ds.length ∧ i = .int .i64 (k : Int) ∧ Cur wr c ∧ W3.grownBy wr (some c)) (fun i _ => z.ds.length - (intOf i).toNat)
  case atStart => exact ⟨0, Nat.zero_le _, rfl, C3, World.grownBy.refl _ _⟩
  case round =>
    obtain ⟨k, hk, rfl, C, G⟩ := hrel
    obtain ⟨p0, p1, p2, p3, p4⟩ := Box5.only HB.out (Only.of (S := fun k => k = c) G (fun k e => by cases e; rfl)) hbc
    obtain ⟨⟨z0, y0⟩, ⟨z1, y1⟩, ⟨z2, y2⟩, ⟨z3, y3⟩, ⟨z4, y4⟩⟩ := HZ.out.kept G (by simp; omega)
    by_cases hlt : k < z.ds.length
    · have hki : (k : Int) < z.ds.length := by omega
      obtain ⟨ag, ao, ka, km, kc, na, nm, nc, rfl, x0, x1, x2, x3, DI⟩ := (HL.out _ G).at k hlt
      clear DI x0 x2 x3
      cases hd : z.ds[k].dead
      · rw [hd] at x1
        clear hd
        go_wp2_with fail
        go_roundw
        case rel => exact ⟨k + 1, by omega, by go_num, C, G⟩
        case measure => simp [intOf]; omega
      · rw [hd] at x1
        clear hd
        go_wp2_with fail
        go_fit (l1Once_any c _ _ C (by omega))
        rintro e w5 ⟨b1, rfl, hc5, g5⟩
        have G5 := gtrans G g5
        cases b1
        · obtain ⟨p0, p1, p2, p3, p4⟩ := Box5.only HB.out (Only.of (S := fun k => k = c) G5 (fun k e => by cases e; rfl)) hbc
          obtain ⟨⟨z0, y0⟩, ⟨z1, y1⟩, ⟨z2, y2⟩, ⟨z3, y3⟩, ⟨z4, y4⟩⟩ := HZ.out.kept G5 (by simp; omega)
          have hfin := HF.out _ G5
          go_wp2_with fail
          exact bodyPost_ret (v := .tuple #[z.val (.slice (some ⟨ag, ao, none⟩) z.ds.length vc), .int .i64 (k : Int)]) (by simp [results, Tryz.results15, go_sem, z0, z1, z2, z3, z4]) rfl ⟨z, _, _, rfl, ⟨by omega, by omega⟩, hfin⟩
        · go_wp2_with fail
          go_roundw
          case rel => exact ⟨k + 1, by omega, by go_num, hc5, G5⟩
          case measure => simp [intOf]; omega
    · obtain rfl : k = z.ds.length := by omega
      have hki : ¬ (z.ds.length : Int) < z.ds.length := by omega
      go_upto_region 8 with (fail)
      have HC9 := Lib.hid C
      clear C
      go_region_with (first | (go_at_call 72; go_fit (l1DrawDisk_any c _ (HC9.out.kept (gdrew (grefl _) 1) (by simp))); rintro e w8 ⟨x, hx, rfl, hc8, g8⟩; have g8w : W3.grownBy w8 (some c) := gtrans G (gtrans (gweak (gdrew (grefl wr) 1) (some c)) g8); obtain ⟨⟨z0', y0'⟩, ⟨z1', y1'⟩, ⟨z2', y2'⟩, ⟨z3', y3'⟩, ⟨z4', y4'⟩⟩ := HZ.out.kept g8w (by simp; omega); obtain ⟨p0', p1', p2', p3', p4'⟩ := Box5.only HB.out (Only.of (S := fun k => k = c) g8w (fun k e => by cases e; rfl)) hbc))
      all_goals
        have hfin := HF.out _ g8w
        go_wp2_with fail
        exact bodyPost_ret (v := .tuple #[z.val (.slice va z.ds.length vc), .int .i64 x]) (by simp [results, Tryz.results15, go_sem, z0', z1', z2', z3', z4']) rfl ⟨z, _, x, rfl, ⟨by omega, by omega⟩, hfin⟩
end Go.Proofs.YteialkknddpbjaaGreatDoor

namespace Go.Proofs.YteialkknddpbjaaGreatDoor
open Go.ChangeShapes Go.WideShapes Go.ChangeAt Go.RowKit
attribute [local go_sem] str_list str_size

/-- what the comparing of two disks reads -/
abbrev LkS (w w' : World) (g o : Nat) (x0 x1 x2 x3 : Value) (h q : Nat) (y0 y1 y2 y3 : Value) : Prop :=
  (w'.cell? ⟨g, o, none⟩ = some x0 ∧ w'.cell? ⟨g, o + 1, none⟩ = some x1 ∧ w'.cell? ⟨g, o + 2, none⟩ = some x2 ∧ w'.cell? ⟨g, o + 3, none⟩ = some x3) ∧
  (w'.cell? ⟨h, q, none⟩ = some y0 ∧ w'.cell? ⟨h, q + 1, none⟩ = some y1 ∧ w'.cell? ⟨h, q + 2, none⟩ = some y2 ∧ w'.cell? ⟨h, q + 3, none⟩ = some y3) ∧ w.grownBy w' none
theorem LkS.kept {w w' w2 : World} {g o h q : Nat} {x0 x1 x2 x3 y0 y1 y2 y3 : Value} (s : LkS w w' g o x0 x1 x2 x3 h q y0 y1 y2 y3) (k : w'.grownBy w2 none) : LkS w w2 g o x0 x1 x2 x3 h q y0 y1 y2 y3 :=
  ⟨⟨gkc k s.1.1, gkc k s.1.2.1, gkc k s.1.2.2.1, gkc k s.1.2.2.2⟩, ⟨gkc k s.2.1.1, gkc k s.2.1.2.1, gkc k s.2.1.2.2.1, gkc k s.2.1.2.2.2⟩, gtrans s.2.2 k⟩
theorem LkS.drew {w w' : World} {g o h q : Nat} {x0 x1 x2 x3 y0 y1 y2 y3 : Value} (s : LkS w w' g o x0 x1 x2 x3 h q y0 y1 y2 y3) : LkS w w'.drew g o x0 x1 x2 x3 h q y0 y1 y2 y3 := s.kept (gdrew (grefl _) 1)
set_option maxRecDepth 8000 in
set_option maxHeartbeats 2000000 in
theorem likeDisks_yes (v1 v2 : Value) (l : List DZ) (w : World) (h1 : LD w v1 l) (h2 : LD w v2 l) :
    Calls Tryz.prog 78 #[v1, v2] w (Pure (.bool true) w) := by
  obtain ⟨a1, c1, rfl, hm⟩ := h1.form
  obtain ⟨a2, c2, rfl, -⟩ := h2.form
  go_enter Tryz.func78, Tryz.ntmps78
  go_wp2_with fail
  go_loopw [5] (fun i wr => ∃ k : Nat, k ≤ l.length ∧ i = .int .i64 k ∧ w.grownBy wr none) (fun i _ => l.length - (intOf i).toNat)
  case atStart => exact ⟨0, Nat.zero_le _, rfl, grefl _⟩
  case round =>
    obtain ⟨k, hk, rfl, G⟩ := hrel
    by_cases hlt : k < l.length
    · have hki : (k : Int) < l.length := by omega
      obtain ⟨g, o, ka, km, kc, na, nm, nc, rfl, x0, x1, x2, x3, D1⟩ := (h1.kept G).at k hlt
      obtain ⟨h, q, ja, jm, jc, ma, mm, mc, rfl, y0, y1, y2, y3, D2⟩ := (h2.kept G).at k hlt
      have S0 : LkS wr wr g (o + k * 4) (.int .i64 l[k].n) (.bool l[k].dead) (.slice ka km kc) (.slice na nm nc) h (q + k * 4) (.int .i64 l[k].n) (.bool l[k].dead) (.slice ja jm jc) (.slice ma mm mc) := ⟨⟨x0, x1, x2, x3⟩, ⟨y0, y1, y2, y3⟩, grefl _⟩
      clear x0 x1 x2 x3 y0 y1 y2 y3
      go_wp2_with fail
      refine region_calm (fun w' => LkS wr w' g (o + k * 4) (.int .i64 l[k].n) (.bool l[k].dead) (.slice ka km kc) (.slice na nm nc) h (q + k * 4) (.int .i64 l[k].n) (.bool l[k].dead) (.slice ja jm jc) (.slice ma mm mc)) (by kernel_rfl) (by kernel_rfl) (S0.drew) ?_
      repeat (first
        | (refine calm_skip (by rfl) ?_; simp only [Act.put, List.setIfInBounds_toArray, List.set_cons_zero, List.set_cons_succ])
        | (refine calm_step (by rfl) ?_
           apply Exists.intro
           refine ⟨fun w' hw' => ?_, ?_⟩
           · go_simp
             first | done | exact rfl | (go_at_call 147; refine (likeDisk_yes _ _ _ _ l[k] _ (D1.grew hw'.2.2) (D2.grew hw'.2.2)).mono ?_; rintro e w8 ⟨rfl, g8⟩; exact ⟨rfl, hw'.kept g8⟩)
           simp only [Act.put, List.setIfInBounds_toArray, List.set_cons_zero, List.set_cons_succ]))
      refine calm_nil ?_
      intro w9 hw9
      have G9 := gtrans G hw9.2.2
      clear hw9 S0
      go_wp2_with fail
      go_roundw
      case rel => exact ⟨k + 1, by omega, by go_num, G9⟩
      case measure => simp [intOf]; omega
    · go_wp2_with fail
      go_ret
      exact ⟨rfl, G⟩
set_option maxRecDepth 8000 in
set_option maxHeartbeats 2000000 in
theorem likeArray_yes (z : AZ) (v1 v2 : Value) (w : World) (h1 : LD w v1 z.ds) (h2 : LD w v2 z.ds) :
    Calls Tryz.prog 18 #[z.val v1, z.val v2] w (Pure (.bool true) w) := by
  obtain ⟨a1, c1, rfl, -⟩ := h1.form
  obtain ⟨a2, c2, rfl, -⟩ := h2.form
  obtain ⟨ds, log, next, stage, up⟩ := z
  dsimp only at *
  have e1 := galloc (grefl w) (.cells #[.slice a1 ds.length c1, .string (str log), .string (str next), .int .i64 stage, .bool up] 26)
  have A1 := Box5.new w (.slice a1 ds.length c1) (.string (str log)) (.string (str next)) (.int .i64 stage) (.bool up) 26
  have A2 := Box5.new (w.alloc (.cells #[.slice a1 ds.length c1, .string (str log), .string (str next), .int .i64 stage, .bool up] 26)) (.slice a2 ds.length c2) (.string (str log)) (.string (str next)) (.int .i64 stage) (.bool up) 26
  have e2 := galloc (grefl (w.alloc (.cells #[.slice a1 ds.length c1, .string (str log), .string (str next), .int .i64 stage, .bool up] 26))) (.cells #[.slice a2 ds.length c2, .string (str log), .string (str next), .int .i64 stage, .bool up] 26)
  have B1 := A1.kept e2
  have G := gtrans e1 e2
  have hs : (w.alloc (.cells #[.slice a1 ds.length c1, .string (str log), .string (str next), .int .i64 stage, .bool up] 26)).heap.size = w.heap.size + 1 := by simp
  rw [hs] at A2
  clear A1 e1 e2 hs
  go_enter Tryz.func18, Tryz.ntmps18
  go_upto_region 1 with (fail)
  generalize (w.alloc (.cells #[.slice a1 ds.length c1, .string (str log), .string (str next), .int .i64 stage, .bool up] 26)).alloc (.cells #[.slice a2 ds.length c2, .string (str log), .string (str next), .int .i64 stage, .bool up] 26) = W0 at *
  have HB1 := Lib.hid B1
  have HB2 := Lib.hid A2
  obtain ⟨p0, p1, p2, p3, p4⟩ := B1
  obtain ⟨q0, q1, q2, q3, q4⟩ := A2
  go_wp2_with fail
  go_fit (likeDisks_yes _ _ ds _ (h1.kept G) (h2.kept G))
  rintro e w1 ⟨rfl, g1⟩
  have G1 := gtrans G g1
  clear p0 p1 p2 p3 p4 q0 q1 q2 q3 q4
  obtain ⟨p0, p1, p2, p3, p4⟩ := HB1.out.kept g1
  obtain ⟨q0, q1, q2, q3, q4⟩ := HB2.out.kept g1
  go_wp2_with fail
  go_ret
  exact ⟨rfl, G1⟩
end Go.Proofs.YteialkknddpbjaaGreatDoor
