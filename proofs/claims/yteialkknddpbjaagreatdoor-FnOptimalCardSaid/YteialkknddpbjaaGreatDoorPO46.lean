/- The laws' own helpers over lists of numbers: they rise; one of them is among them. The laws' own helpers: two patches are alike. -/
import Derived.BigQuiet
import Derived.Test.YteialkknddpbjaaGreatDoorPO33
import Derived.Test.YteialkknddpbjaaGreatDoorPO45
import Derived.Test.YteialkknddpbjaaGreatDoorPO29
import Derived.Test.YteialkknddpbjaaGreatDoorPO32
import Derived.Test.YteialkknddpbjaaGreatDoorPO09
import Derived.Test.YteialkknddpbjaaGreatDoorPO18
import Derived.Test.YteialkknddpbjaaGreatDoorPO23
namespace Go.Proofs.YteialkknddpbjaaGreatDoor
open Go.ChangeShapes Go.WideShapes Go.ChangeAt Go.RowKit
attribute [local go_sem] str_list str_size str_add lit_list0 add_lit lit_add str_cut

theorem DrI.made {w wr : World} {c : Nat} {v : Value} {l : List Int} (h : DrI w wr c v l) (o : Obj) : DrI w (wr.alloc o) c v l := ⟨Own.grew h.own (galloc (grefl _) o), h.cur.alloc o, galloc h.grew o, h.hc⟩
def CG (c : Nat) (a b : World) : Prop := a.grownBy b (some c) ∧ (Cur a c → Cur b c)
theorem CG.refl (c : Nat) (a : World) : CG c a a := ⟨World.grownBy.refl a _, id⟩
theorem CG.trans (c : Nat) (a b d : World) (h : CG c a b) (g : CG c b d) : CG c a d := ⟨gtrans h.1 g.1, fun x => g.2 (h.2 x)⟩
theorem CG.made (c : Nat) (a : World) (o : Obj) : CG c a (a.alloc o) := ⟨galloc (World.grownBy.refl a _) o, fun h => h.alloc o⟩
def TabR (c : Nat) (v : Value) (u : World) : Prop := ∃ bt : Nat, v = .slice (some ⟨bt, 0, none⟩) 5 5 ∧ c < bt ∧ ∀ q : Nat, q < 5 → ∃ y, i64B y ∧ u.cell? ⟨bt, q, none⟩ = some (.int .i64 y)
theorem TabR.grew {c : Nat} {v : Value} {u u' : World} (h : TabR c v u) (g : u.grownBy u' (some c)) : TabR c v u' := by
  obtain ⟨bt, h1, h2, h3⟩ := h
  exact ⟨bt, h1, h2, fun q hq => by obtain ⟨y, hy, hc⟩ := h3 q hq; exact ⟨y, hy, (World.cell?_of_block (w := u) (g.block bt (cell_lt hc) (fun e => by cases e; omega))).trans hc⟩⟩
theorem TabR.of {c : Nat} {u : World} (h : c < u.heap.size) : TabR c (.slice (some ⟨u.heap.size, 0, none⟩) 5 5) (u.alloc (.cells #[.int .i64 0, .int .i64 1, .int .i64 5, .int .i64 32767, .int .i64 32768] 2)) := by
  refine ⟨u.heap.size, rfl, h, fun q hq => ?_⟩
  rcases (show q = 0 ∨ q = 1 ∨ q = 2 ∨ q = 3 ∨ q = 4 by omega) with rfl | rfl | rfl | rfl | rfl
  · exact ⟨0, ⟨by omega, by omega⟩, by simp [go_sem]⟩
  · exact ⟨1, ⟨by omega, by omega⟩, by simp [go_sem]⟩
  · exact ⟨5, ⟨by omega, by omega⟩, by simp [go_sem]⟩
  · exact ⟨32767, ⟨by omega, by omega⟩, by simp [go_sem]⟩
  · exact ⟨32768, ⟨by omega, by omega⟩, by simp [go_sem]⟩
def BelR (v : Value) : Prop := ∃ q : Nat, q < 5 ∧ v = .int .i64 (q : Int)
theorem BelR.of {x : Int} (h0 : 0 ≤ x) (h1 : x < 5) : BelR (.int .i64 x) := ⟨x.toNat, by omega, by rw [Int.toNat_of_nonneg h0]⟩
def TabAt (c : Nat) (v : Value) (u : World) : Prop := ∃ (bt q : Nat) (y : Int), v = .pointer (some ⟨bt, q, none⟩) ∧ c < bt ∧ i64B y ∧ u.cell? ⟨bt, q, none⟩ = some (.int .i64 y)
theorem TabAt.grew {c : Nat} {v : Value} {u u' : World} (h : TabAt c v u) (g : u.grownBy u' (some c)) : TabAt c v u' := by
  obtain ⟨bt, q, y, h1, h2, hy, hc⟩ := h
  exact ⟨bt, q, y, h1, h2, hy, (World.cell?_of_block (w := u) (g.block bt (cell_lt hc) (fun e => by cases e; omega))).trans hc⟩
theorem TabAt.of {c bt q : Nat} {y : Int} {u : World} (h : c < bt) (hy : i64B y) (hc : u.cell? ⟨bt, q, none⟩ = some (.int .i64 y)) : TabAt c (.pointer (some ⟨bt, q, none⟩)) u := ⟨bt, q, y, rfl, h, hy, hc⟩
def NumI (v : Value) : Prop := ∃ y : Int, i64B y ∧ v = .int .i64 y
theorem NumI.of {y : Int} (h : i64B y) : NumI (.int .i64 y) := ⟨y, h, rfl⟩
theorem IS.set5 {w : World} {B r : Nat} {v : Value} {l : List Int} (h : IS w B v l) (hr : r < B) (x0 x1 x2 x3 x4 : Value) : IS (Go.Proofs.YteialkknddpbjaaGreatDoor.set5 w r x0 x1 x2 x3 x4) B v l := by
  have hne : v.ownBlock ≠ some r := fun e => by have := (Own.lt h r e).1; omega
  unfold Go.Proofs.YteialkknddpbjaaGreatDoor.set5
  exact ((((Own.other h hne _).other hne _).other hne _).other hne _).other hne _
section
variable {ops : Array Oper} {md : Region.Mode} {Q : Exit → Act → World → Prop}
end
set_option maxRecDepth 8000 in
set_option maxHeartbeats 4000000 in
theorem drawHealedAll_any (a : Option Addr) (len cap : Nat) (w : World) (hR : CodeAt w a len) :
    Calls Tryz.prog 28 #[.slice a len cap] w fun e w' => ∃ (z : AZ) (v : Value), e = .returned (z.val v) ∧ OutA w z v w' := by
  have Z0 := Zero5.new w
  have e0 := galloc (grefl w) zero5
  have s0 : (w.alloc zero5).heap.size = w.heap.size + 1 := by simp
  have hR0 := hR.kept (gbelow e0)
  go_enter Tryz.func28, Tryz.ntmps28
  go_upto_region 1 with (fail)
  generalize w.alloc zero5 = W0 at *
  go_wp2_with fail
  go_fit (drawArrayOk_any a len cap _ hR0)
  rintro e w2 ⟨z, v, rfl, hL, hlg, hnx, g2⟩
  obtain ⟨va, vc, rfl, -⟩ := (hL w2 (Only.refl _ _)).form
  obtain ⟨⟨z0, y0⟩, ⟨z1, y1⟩, ⟨z2, y2⟩, ⟨z3, y3⟩, ⟨z4, y4⟩⟩ := Z0.kept g2 (by simp)
  have hfin := out_a (r := w.heap.size) hL (Only.refl _ _) (gtrans e0 g2) (by omega) (Nat.le_refl _) hlg hnx
  go_wp2_with fail
  exact bodyPost_ret (v := z.val (.slice va z.ds.length vc)) (by simp [results, Tryz.results28, go_sem, z0, z1, z2, z3, z4]) rfl ⟨z, _, rfl, hfin⟩
set_option maxRecDepth 8000 in
set_option maxHeartbeats 4000000 in
theorem drawOptimal_any (a : Option Addr) (len cap : Nat) (w : World) (hR : CodeAt w a len) :
    Calls Tryz.prog 29 #[.slice a len cap] w fun e w' => ∃ (z : AZ) (v : Value), e = .returned (z.val v) ∧ OutA w z v w' := by
  have Z0 := Zero5.new w
  have e0 := galloc (grefl w) zero5
  have s0 : (w.alloc zero5).heap.size = w.heap.size + 1 := by simp
  have hR0 := hR.kept (gbelow e0)
  go_enter Tryz.func29, Tryz.ntmps29
  go_upto_region 1 with (fail)
  generalize w.alloc zero5 = W0 at *
  go_wp2_with fail
  go_fit (drawArrayOk_any a len cap _ hR0)
  rintro e w2 ⟨z, v, rfl, hL, hlg, hnx, g2⟩
  obtain ⟨va, vc, rfl, -⟩ := (hL w2 (Only.refl _ _)).form
  obtain ⟨⟨z0, y0⟩, ⟨z1, y1⟩, ⟨z2, y2⟩, ⟨z3, y3⟩, ⟨z4, y4⟩⟩ := Z0.kept g2 (by simp)
  have hfin := out_a (r := w.heap.size) hL (Only.refl _ _) (gtrans e0 g2) (by omega) (Nat.le_refl _) hlg hnx
  go_wp2_with fail
  exact bodyPost_ret (v := z.val (.slice va z.ds.length vc)) (by simp [results, Tryz.results29, go_sem, z0, z1, z2, z3, z4]) rfl ⟨z, _, rfl, hfin⟩
end Go.Proofs.YteialkknddpbjaaGreatDoor

namespace Go.Proofs.YteialkknddpbjaaGreatDoor
open Go.ChangeShapes Go.WideShapes Go.ChangeAt Go.RowKit
attribute [local go_sem] str_list str_size

/-- what the comparing of two disks reads -/
abbrev LkS (w w' : World) (g o : Nat) (x0 x1 x2 x3 : Value) (h q : Nat) (y0 y1 y2 y3 : Value) : Prop :=
  (w'.cell? ⟨g, o, none⟩ = some x0 ∧ w'.cell? ⟨g, o + 1, none⟩ = some x1 ∧ w'.cell? ⟨g, o + 2, none⟩ = some x2 ∧ w'.cell? ⟨g, o + 3, none⟩ = some x3) ∧
  (w'.cell? ⟨h, q, none⟩ = some y0 ∧ w'.cell? ⟨h, q + 1, none⟩ = some y1 ∧ w'.cell? ⟨h, q + 2, none⟩ = some y2 ∧ w'.cell? ⟨h, q + 3, none⟩ = some y3) ∧ w.grownBy w' none
theorem LkS.kept {w w' w2 : World} {g o h q : Nat} {x0 x1 x2 x3 y0 y1 y2 y3 : Value} (s : LkS w w' g o x0 x1 x2 x3 h q y0 y1 y2 y3) (k : w'.grownBy w2 none) : LkS w w2 g o x0 x1 x2 x3 h q y0 y1 y2 y3 :=
  ⟨⟨gkc k s.1.1, gkc k s.1.2.1, gkc k s.1.2.2.1, gkc k s.1.2.2.2⟩, ⟨gkc k s.2.1.1, gkc k s.2.1.2.1, gkc k s.2.1.2.2.1, gkc k s.2.1.2.2.2⟩, gtrans s.2.2 k⟩
theorem LkS.drew {w w' : World} {g o h q : Nat} {x0 x1 x2 x3 y0 y1 y2 y3 : Value} (s : LkS w w' g o x0 x1 x2 x3 h q y0 y1 y2 y3) : LkS w w'.drew g o x0 x1 x2 x3 h q y0 y1 y2 y3 := s.kept (gdrew (grefl _) 1)
set_option maxRecDepth 8000 in
set_option maxHeartbeats 2000000 in
theorem likeDisks_yes (v1 v2 : Value) (l : List DZ) (w : World) (h1 : LD w v1 l) (h2 : LD w v2 l) :
    Calls Tryz.prog 78 #[v1, v2] w (Pure (.bool true) w) := by
  obtain ⟨a1, c1, rfl, hm⟩ := h1.form
  obtain ⟨a2, c2, rfl, -⟩ := h2.form
  go_enter Tryz.func78, Tryz.ntmps78
  go_wp2_with fail
  go_loopw [5] (fun i wr => ∃ k : Nat, k ≤ l.length ∧ i = .int .i64 k ∧ w.grownBy wr none) (fun i _ => l.length - (intOf i).toNat)
  case atStart => exact ⟨0, Nat.zero_le _, rfl, grefl _⟩
  case round =>
    obtain ⟨k, hk, rfl, G⟩ := hrel
    by_cases hlt : k < l.length
    · have hki : (k : Int) < l.length := by omega
      obtain ⟨g, o, ka, km, kc, na, nm, nc, rfl, x0, x1, x2, x3, D1⟩ := (h1.kept G).at k hlt
      obtain ⟨h, q, ja, jm, jc, ma, mm, mc, rfl, y0, y1, y2, y3, D2⟩ := (h2.kept G).at k hlt
      have S0 : LkS wr wr g (o + k * 4) (.int .i64 l[k].n) (.bool l[k].dead) (.slice ka km kc) (.slice na nm nc) h (q + k * 4) (.int .i64 l[k].n) (.bool l[k].dead) (.slice ja jm jc) (.slice ma mm mc) := ⟨⟨x0, x1, x2, x3⟩, ⟨y0, y1, y2, y3⟩, grefl _⟩
      clear x0 x1 x2 x3 y0 y1 y2 y3
      go_wp2_with fail
      refine region_calm (fun w' => LkS wr w' g (o + k * 4) (.int .i64 l[k].n) (.bool l[k].dead) (.slice ka km kc) (.slice na nm nc) h (q + k * 4) (.int .i64 l[k].n) (.bool l[k].dead) (.slice ja jm jc) (.slice ma mm mc)) (by kernel_rfl) (by kernel_rfl) (S0.drew) ?_
      repeat (first
        | (refine calm_skip (by rfl) ?_; simp only [Act.put, List.setIfInBounds_toArray, List.set_cons_zero, List.set_cons_succ])
        | (refine calm_step (by rfl) ?_
           apply Exists.intro
           refine ⟨fun w' hw' => ?_, ?_⟩
           · go_simp
             first | done | exact rfl | (go_at_call 147; refine (likeDisk_yes _ _ _ _ l[k] _ (D1.grew hw'.2.2) (D2.grew hw'.2.2)).mono ?_; rintro e w8 ⟨rfl, g8⟩; exact ⟨rfl, hw'.kept g8⟩)
           simp only [Act.put, List.setIfInBounds_toArray, List.set_cons_zero, List.set_cons_succ]))
      refine calm_nil ?_
      intro w9 hw9
      have G9 := gtrans G hw9.2.2
      clear hw9 S0
      go_wp2_with fail
      go_roundw
      case rel => exact ⟨k + 1, by omega, by go_num, G9⟩
      case measure => simp [intOf]; omega
    · go_wp2_with fail
      go_ret
      exact ⟨rfl, G⟩
set_option maxRecDepth 8000 in
set_option maxHeartbeats 2000000 in
theorem likeArray_yes (z : AZ) (v1 v2 : Value) (w : World) (h1 : LD w v1 z.ds) (h2 : LD w v2 z.ds) :
    Calls Tryz.prog 18 #[z.val v1, z.val v2] w (Pure (.bool true) w) := by
  obtain ⟨a1, c1, rfl, -⟩ := h1.form
  obtain ⟨a2, c2, rfl, -⟩ := h2.form
  obtain ⟨ds, log, next, stage, up⟩ := z
  dsimp only at *
  have e1 := galloc (grefl w) (.cells #[.slice a1 ds.length c1, .string (str log), .string (str next), .int .i64 stage, .bool up] 26)
  have A1 := Box5.new w (.slice a1 ds.length c1) (.string (str log)) (.string (str next)) (.int .i64 stage) (.bool up) 26
  have A2 := Box5.new (w.alloc (.cells #[.slice a1 ds.length c1, .string (str log), .string (str next), .int .i64 stage, .bool up] 26)) (.slice a2 ds.length c2) (.string (str log)) (.string (str next)) (.int .i64 stage) (.bool up) 26
  have e2 := galloc (grefl (w.alloc (.cells #[.slice a1 ds.length c1, .string (str log), .string (str next), .int .i64 stage, .bool up] 26))) (.cells #[.slice a2 ds.length c2, .string (str log), .string (str next), .int .i64 stage, .bool up] 26)
  have B1 := A1.kept e2
  have G := gtrans e1 e2
  have hs : (w.alloc (.cells #[.slice a1 ds.length c1, .string (str log), .string (str next), .int .i64 stage, .bool up] 26)).heap.size = w.heap.size + 1 := by simp
  rw [hs] at A2
  clear A1 e1 e2 hs
  go_enter Tryz.func18, Tryz.ntmps18
  go_upto_region 1 with (fail)
  generalize (w.alloc (.cells #[.slice a1 ds.length c1, .string (str log), .string (str next), .int .i64 stage, .bool up] 26)).alloc (.cells #[.slice a2 ds.length c2, .string (str log), .string (str next), .int .i64 stage, .bool up] 26) = W0 at *
  have HB1 := Lib.hid B1
  have HB2 := Lib.hid A2
  obtain ⟨p0, p1, p2, p3, p4⟩ := B1
  obtain ⟨q0, q1, q2, q3, q4⟩ := A2
  go_wp2_with fail
  go_fit (likeDisks_yes _ _ ds _ (h1.kept G) (h2.kept G))
  rintro e w1 ⟨rfl, g1⟩
  have G1 := gtrans G g1
  clear p0 p1 p2 p3 p4 q0 q1 q2 q3 q4
  obtain ⟨p0, p1, p2, p3, p4⟩ := HB1.out.kept g1
  obtain ⟨q0, q1, q2, q3, q4⟩ := HB2.out.kept g1
  go_wp2_with fail
  go_ret
  exact ⟨rfl, G1⟩
end Go.Proofs.YteialkknddpbjaaGreatDoor

namespace Go.Proofs.YteialkknddpbjaaGreatDoor
open Go.ChangeShapes Go.WideShapes Go.ChangeAt Go.RowKit Go.Joins Go.Deep

end Go.Proofs.YteialkknddpbjaaGreatDoor
namespace Go.Proofs.YteialkknddpbjaaGreatDoor
open Go.ChangeShapes Go.WideShapes Go.ChangeAt Go.RowKit Go.Joins Go.Deep

theorem likeInts_yes (v1 v2 : Value) (l : List Int) (w : World) (h1 : IR w v1 l) (h2 : IR w v2 l) :
    Calls Tryz.prog 38 #[v1, v2] w (Pure (.bool true) w) := by
  obtain ⟨a1, c1, rfl, hm⟩ := h1.form
  obtain ⟨a2, c2, rfl, _⟩ := h2.form
  go_enter Tryz.func38, Tryz.ntmps38
  go_wp2
  go_loopw [5] (fun i wr => ∃ k : Nat, k ≤ l.length ∧ i = .int .i64 k ∧ w.grownBy wr none) (fun i _ => l.length - (intOf i).toNat)
  case atStart => exact ⟨0, Nat.zero_le _, rfl, grefl _⟩
  case round =>
    obtain ⟨k, hk, rfl, G⟩ := hrel
    by_cases hlt : k < l.length
    · obtain ⟨g1, o1, rfl, p0⟩ := (h1.kept G).at k hlt
      obtain ⟨g2, o2, rfl, q0⟩ := (h2.kept G).at k hlt
      have hi1 : (k : Int) < l.length := by omega
      go_wp2_with fail
      go_quiet (fail)
      go_wp2_with fail
      go_roundw
      case rel => exact ⟨k + 1, by omega, by go_num, gdrew G _⟩
      case measure => simp [intOf]; omega
    · go_wp2_with fail
      go_ret
      exact ⟨rfl, G⟩
end Go.Proofs.YteialkknddpbjaaGreatDoor
