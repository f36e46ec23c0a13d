/- Lists of disks and arrays, compared by the laws. -/
import Derived.Test.YtdfhfebcbmolbaaGreatDoorLawL03c
import Derived.Test.YtdfhfebcbmolbaaGreatDoorOwnA
import Derived.BigQuiet
namespace Go.Proofs.YtdfhfebcbmolbaaGreatDoor
open Go.ChangeShapes Go.WideShapes Go.ChangeAt Go.RowKit
attribute [local go_sem] str_list str_size

/-- what the comparing of two disks reads -/
abbrev LkS (w w' : World) (g o : Nat) (x0 x1 x2 x3 : Value) (h q : Nat) (y0 y1 y2 y3 : Value) : Prop :=
  (w'.cell? ⟨g, o, none⟩ = some x0 ∧ w'.cell? ⟨g, o + 1, none⟩ = some x1 ∧ w'.cell? ⟨g, o + 2, none⟩ = some x2 ∧ w'.cell? ⟨g, o + 3, none⟩ = some x3) ∧
  (w'.cell? ⟨h, q, none⟩ = some y0 ∧ w'.cell? ⟨h, q + 1, none⟩ = some y1 ∧ w'.cell? ⟨h, q + 2, none⟩ = some y2 ∧ w'.cell? ⟨h, q + 3, none⟩ = some y3) ∧ w.grownBy w' none
theorem LkS.kept {w w' w2 : World} {g o h q : Nat} {x0 x1 x2 x3 y0 y1 y2 y3 : Value} (s : LkS w w' g o x0 x1 x2 x3 h q y0 y1 y2 y3) (k : w'.grownBy w2 none) : LkS w w2 g o x0 x1 x2 x3 h q y0 y1 y2 y3 :=
  ⟨⟨gkc k s.1.1, gkc k s.1.2.1, gkc k s.1.2.2.1, gkc k s.1.2.2.2⟩, ⟨gkc k s.2.1.1, gkc k s.2.1.2.1, gkc k s.2.1.2.2.1, gkc k s.2.1.2.2.2⟩, gtrans s.2.2 k⟩
theorem LkS.drew {w w' : World} {g o h q : Nat} {x0 x1 x2 x3 y0 y1 y2 y3 : Value} (s : LkS w w' g o x0 x1 x2 x3 h q y0 y1 y2 y3) : LkS w w'.drew g o x0 x1 x2 x3 h q y0 y1 y2 y3 := s.kept (gdrew (grefl _) 1)
set_option maxRecDepth 8000 in
set_option maxHeartbeats 2000000 in
theorem likeDisks_yes (v1 v2 : Value) (l : List DZ) (w : World) (h1 : LD w v1 l) (h2 : LD w v2 l) :
    Calls Tryz.prog 19 #[v1, v2] w (Pure (.bool true) w) := by
  obtain ⟨a1, c1, rfl, hm⟩ := h1.form
  obtain ⟨a2, c2, rfl, -⟩ := h2.form
  go_enter Tryz.func19, Tryz.ntmps19
  go_wp2_with fail
  go_loopw [5] (fun i wr => ∃ k : Nat, k ≤ l.length ∧ i = .int .i64 k ∧ w.grownBy wr none) (fun i _ => l.length - (intOf i).toNat)
  case atStart => exact ⟨0, Nat.zero_le _, rfl, grefl _⟩
  case round =>
    obtain ⟨k, hk, rfl, G⟩ := hrel
    by_cases hlt : k < l.length
    · have hki : (k : Int) < l.length := by omega
      obtain ⟨g, o, ka, km, kc, na, nm, nc, rfl, x0, x1, x2, x3, D1⟩ := (h1.kept G).at k hlt
      obtain ⟨h, q, ja, jm, jc, ma, mm, mc, rfl, y0, y1, y2, y3, D2⟩ := (h2.kept G).at k hlt
      have S0 : LkS wr wr g (o + k * 4) (.int .i64 l[k].n) (.bool l[k].dead) (.slice ka km kc) (.slice na nm nc) h (q + k * 4) (.int .i64 l[k].n) (.bool l[k].dead) (.slice ja jm jc) (.slice ma mm mc) := ⟨⟨x0, x1, x2, x3⟩, ⟨y0, y1, y2, y3⟩, grefl _⟩
      clear x0 x1 x2 x3 y0 y1 y2 y3
      go_wp2_with fail
      refine region_calm (fun w' => LkS wr w' g (o + k * 4) (.int .i64 l[k].n) (.bool l[k].dead) (.slice ka km kc) (.slice na nm nc) h (q + k * 4) (.int .i64 l[k].n) (.bool l[k].dead) (.slice ja jm jc) (.slice ma mm mc)) (by kernel_rfl) (by kernel_rfl) (S0.drew) ?_
      repeat (first
        | (refine calm_skip (by rfl) ?_; simp only [Act.put, List.setIfInBounds_toArray, List.set_cons_zero, List.set_cons_succ])
        | (refine calm_step (by rfl) ?_
           apply Exists.intro
           refine ⟨fun w' hw' => ?_, ?_⟩
           · go_simp
             first | done | exact rfl | (go_at_call 81; refine (likeDisk_yes _ _ _ _ l[k] _ (D1.grew hw'.2.2) (D2.grew hw'.2.2)).mono ?_; rintro e w8 ⟨rfl, g8⟩; exact ⟨rfl, hw'.kept g8⟩)
           simp only [Act.put, List.setIfInBounds_toArray, List.set_cons_zero, List.set_cons_succ]))
      refine calm_nil ?_
      intro w9 hw9
      have G9 := gtrans G hw9.2.2
      clear hw9 S0
      go_wp2_with fail
      go_roundw
      case rel => exact ⟨k + 1, by omega, by go_num, G9⟩
      case measure => simp [intOf]; omega
    · go_wp2_with fail
      go_ret
      exact ⟨rfl, G⟩
set_option maxRecDepth 8000 in
set_option maxHeartbeats 2000000 in
theorem likeArray_yes (z : AZ) (v1 v2 : Value) (w : World) (h1 : LD w v1 z.ds) (h2 : LD w v2 z.ds) :
    Calls Tryz.prog 35 #[z.val v1, z.val v2] w (Pure (.bool true) w) := by
  obtain ⟨a1, c1, rfl, -⟩ := h1.form
  obtain ⟨a2, c2, rfl, -⟩ := h2.form
  obtain ⟨ds, log, next, stage, up⟩ := z
  dsimp only at *
  have e1 := galloc (grefl w) (.cells #[.slice a1 ds.length c1, .string (str log), .string (str next), .int .i64 stage, .bool up] 47)
  have A1 := Box5.new w (.slice a1 ds.length c1) (.string (str log)) (.string (str next)) (.int .i64 stage) (.bool up) 47
  have A2 := Box5.new (w.alloc (.cells #[.slice a1 ds.length c1, .string (str log), .string (str next), .int .i64 stage, .bool up] 47)) (.slice a2 ds.length c2) (.string (str log)) (.string (str next)) (.int .i64 stage) (.bool up) 47
  have e2 := galloc (grefl (w.alloc (.cells #[.slice a1 ds.length c1, .string (str log), .string (str next), .int .i64 stage, .bool up] 47))) (.cells #[.slice a2 ds.length c2, .string (str log), .string (str next), .int .i64 stage, .bool up] 47)
  have B1 := A1.kept e2
  have G := gtrans e1 e2
  have hs : (w.alloc (.cells #[.slice a1 ds.length c1, .string (str log), .string (str next), .int .i64 stage, .bool up] 47)).heap.size = w.heap.size + 1 := by simp
  rw [hs] at A2
  clear A1 e1 e2 hs
  go_enter Tryz.func35, Tryz.ntmps35
  go_upto_region 1 with (fail)
  generalize (w.alloc (.cells #[.slice a1 ds.length c1, .string (str log), .string (str next), .int .i64 stage, .bool up] 47)).alloc (.cells #[.slice a2 ds.length c2, .string (str log), .string (str next), .int .i64 stage, .bool up] 47) = W0 at *
  have HB1 := Lib.hid B1
  have HB2 := Lib.hid A2
  obtain ⟨p0, p1, p2, p3, p4⟩ := B1
  obtain ⟨q0, q1, q2, q3, q4⟩ := A2
  go_wp2_with fail
  go_fit (likeDisks_yes _ _ ds _ (h1.kept G) (h2.kept G))
  rintro e w1 ⟨rfl, g1⟩
  have G1 := gtrans G g1
  clear p0 p1 p2 p3 p4 q0 q1 q2 q3 q4
  obtain ⟨p0, p1, p2, p3, p4⟩ := HB1.out.kept g1
  obtain ⟨q0, q1, q2, q3, q4⟩ := HB2.out.kept g1
  go_wp2_with fail
  go_ret
  exact ⟨rfl, G1⟩
end Go.Proofs.YtdfhfebcbmolbaaGreatDoor
