/- The laws' own helpers over disks: compared, marked, held. -/
import Derived.Test.YtncmocdfdkacfaaLawL03
namespace Go.Proofs.Ytncmocdfdkacfaa
open Go.ChangeShapes Go.WideShapes Go.ChangeAt Go.RowKit

set_option maxHeartbeats 1000000 in
theorem eqDisk_yes (kv nv ku nu : Value) (d : DZ) (w : World) (h1 : IsD w 0 kv nv d) (h2 : IsD w 0 ku nu d) :
    Calls Try.prog 44 #[.agg #[.int .i64 d.n, .bool d.dead, kv, nv], .agg #[.int .i64 d.n, .bool d.dead, ku, nu]] w (Pure (.bool true) w) := by
  obtain ⟨n, dead, kl, nl⟩ := d
  obtain ⟨hk1, hn1⟩ := h1
  obtain ⟨hk2, hn2⟩ := h2
  dsimp only at *
  obtain ⟨ka, kc, rfl, _⟩ := hk1.form
  obtain ⟨na, nc, rfl, _⟩ := hn1.form
  obtain ⟨kb, kd, rfl, _⟩ := hk2.form
  obtain ⟨nb, nd, rfl, _⟩ := hn2.form
  have g0 : w.grownBy ((w.alloc (.cells #[.int .i64 n, .bool dead, .slice ka kl.length kc, .slice na nl.length nc] 58)).alloc (.cells #[.int .i64 n, .bool dead, .slice kb kl.length kd, .slice nb nl.length nd] 58)) none := galloc (galloc (grefl _) _) _
  have B1 : Box4 ((w.alloc (.cells #[.int .i64 n, .bool dead, .slice ka kl.length kc, .slice na nl.length nc] 58)).alloc (.cells #[.int .i64 n, .bool dead, .slice kb kl.length kd, .slice nb nl.length nd] 58)) w.heap.size (.int .i64 n) (.bool dead) (.slice ka kl.length kc) (.slice na nl.length nc) := by simp [Box4, go_sem]
  have B2 : Box4 ((w.alloc (.cells #[.int .i64 n, .bool dead, .slice ka kl.length kc, .slice na nl.length nc] 58)).alloc (.cells #[.int .i64 n, .bool dead, .slice kb kl.length kd, .slice nb nl.length nd] 58)) (w.heap.size + 1) (.int .i64 n) (.bool dead) (.slice kb kl.length kd) (.slice nb nl.length nd) := by simp [Box4, go_sem]
  go_enter Try.func44, Try.ntmps44
  go_upto_region 1 with (fail)
  generalize (w.alloc (.cells #[.int .i64 n, .bool dead, .slice ka kl.length kc, .slice na nl.length nc] 58)).alloc (.cells #[.int .i64 n, .bool dead, .slice kb kl.length kd, .slice nb nl.length nd] 58) = W0 at *
  have HB1 := Lib.hid B1
  have HB2 := Lib.hid B2
  obtain ⟨a0, a1, a2, a3⟩ := B1
  obtain ⟨b0, b1, b2, b3⟩ := B2
  go_wp2_with fail
  refine (eqCellS_yes _ _ _ _ kl _ (hk1.grew g0) (hk2.grew g0)).mono ?_
  rintro e w1 ⟨rfl, g1⟩
  clear a0 a1 a2 a3 b0 b1 b2 b3
  obtain ⟨a0, a1, a2, a3⟩ := HB1.out.kept g1
  obtain ⟨b0, b1, b2, b3⟩ := HB2.out.kept g1
  have G1 := gtrans g0 g1
  go_wp2_with fail
  refine (eqCellS_yes _ _ _ _ nl _ (hn1.grew G1) (hn2.grew G1)).mono ?_
  rintro e w2 ⟨rfl, g2⟩
  go_wp2_with fail
  go_ret
  exact ⟨rfl, gtrans G1 g2⟩
theorem boxW (w : World) (x0 x1 x2 x3 : Value) (T : Nat) : Box4W (w.alloc (.cells #[x0, x1, x2, x3] T)) w.heap.size x0 x1 x2 x3 := by
  refine ⟨?_, ?_, ?_, ?_⟩ <;> simp [At, go_sem]
/-- the marks of a list of cells -/
def markL (k : Int) (n : Nat) : List (Int × Int) := (List.range n).map fun i : Nat => (k + 2 * (i : Int), k + 2 * (i : Int) + 1)
theorem markL_length (k : Int) (n : Nat) : (markL k n).length = n := by simp [markL]
theorem markL_get (k : Int) (n i : Nat) (h : i < n) : (markL k n)[i]'(by rw [markL_length]; exact h) = (k + 2 * (i : Int), k + 2 * (i : Int) + 1) := by simp [markL]
/-- the first j cells are marked -/
def partL (k : Int) (l : List (Int × Int)) (j : Nat) : List (Int × Int) := markL k j ++ l.drop j
theorem partL_length (k : Int) (l : List (Int × Int)) (j : Nat) (h : j ≤ l.length) : (partL k l j).length = l.length := by simp [partL, markL_length]; omega
theorem partL_set (k : Int) (l : List (Int × Int)) (j : Nat) (h : j < l.length) : (partL k l j).set j (k + 2 * (j : Int), k + 2 * (j : Int) + 1) = partL k l (j + 1) := by
  unfold partL
  rw [List.set_append_right _ _ (by simp [markL_length]), show j - (markL k j).length = 0 by simp [markL_length], List.drop_eq_getElem_cons h, List.set_cons_zero]
  simp [markL, List.range_succ]
/-- what marking a slice leaves -/
def MarkS (B : Nat) (v : Value) (k : Int) (n : Nat) (w : World) (e : Ending) (w' : World) : Prop := e = .returned (.int .i64 (k + 2 * n)) ∧ CS w' B v (markL k n) ∧ w.grownBy w' v.ownBlock
theorem markCellS_any (B : Nat) (v : Value) (l : List (Int × Int)) (k : Int) (w : World) (h : CS w B v l) (hl : l.length ≤ 1048576) (h0 : 0 ≤ k) (h1 : k ≤ 1099511627776) :
    Calls Try.prog 45 #[v, .int .i64 k] w (MarkS B v k l.length w) := by
  obtain ⟨a, c, rfl, _⟩ := h.form
  go_enter Try.func45, Try.ntmps45
  go_wp2
  go_loopw [1, 5] (fun m i wr => ∃ j : Nat, j ≤ l.length ∧ i = .int .i64 j ∧ m = .int .i64 (k + 2 * j) ∧ CS wr B (.slice a l.length c) (partL k l j) ∧ w.grownBy wr (Value.slice a l.length c).ownBlock) (fun _ i _ => l.length - (intOf i).toNat)
  case atStart => exact ⟨0, Nat.zero_le _, rfl, by simp, by simpa [partL, markL] using h, World.grownBy.refl _ _⟩
  case round =>
    obtain ⟨j, hj, rfl, rfl, C, G⟩ := hrel
    by_cases hlt : j < l.length
    · obtain ⟨g, rfl, _, _, ⟨x0, y0⟩, ⟨x1, y1⟩⟩ := C.at j (by rw [partL_length k l j hj]; exact hlt)
      have C3 := CS.set C j (by rw [partL_length k l j hj]; exact hlt) (k + 2 * j) (k + 2 * j + 1)
      rw [partL_set k l j hlt] at C3
      have hi1 : (j : Int) < l.length := by omega
      go_wp2_with fail
      go_roundw
      case rel => exact ⟨j + 1, by omega, by go_num, by rw [show k + 2 * (j : Int) + 1 + 1 = k + 2 * ((j + 1 : Nat) : Int) by omega], C3, gtrans G (gset2 wr g _ _ _ _)⟩
      case measure => simp [intOf]; omega
    · obtain rfl : j = l.length := by omega
      go_wp2_with fail
      go_ret
      exact ⟨rfl, by simpa [partL] using C, G⟩
theorem heldCellS_any (v : Value) (n : Nat) (k : Int) (w : World) (h : CS w 0 v (markL k n)) (hl : n ≤ 1048576) (h0 : 0 ≤ k) (h1 : k ≤ 1099511627776) :
    Calls Try.prog 54 #[v, .int .i64 k] w fun e w' => e = .returned (.int .i64 (k + 2 * n)) ∧ w = w' := by
  obtain ⟨a, c, rfl, _⟩ := h.form
  rw [markL_length] at *
  go_enter Try.func54, Try.ntmps54
  go_wp2
  go_loop [1, 5] (fun m i => ∃ j : Nat, j ≤ n ∧ i = .int .i64 j ∧ m = .int .i64 (k + 2 * j)) (fun _ i => n - (intOf i).toNat)
  case atStart => exact ⟨0, Nat.zero_le _, rfl, by simp⟩
  case round =>
    obtain ⟨j, hj, rfl, rfl⟩ := hrel
    by_cases hlt : j < n
    · obtain ⟨g, rfl, _, _, ⟨x0, y0⟩, ⟨x1, y1⟩⟩ := h.at j (by rw [markL_length]; exact hlt)
      rw [markL_get k n j hlt] at x0 x1
      dsimp only at x0 x1
      have hi1 : (j : Int) < n := by omega
      go_wp2_with fail
      go_round
      case rel => exact ⟨j + 1, by omega, by go_num, by rw [show k + 2 * (j : Int) + 1 + 1 = k + 2 * ((j + 1 : Nat) : Int) by omega]⟩
      case measure => simp [intOf]; omega
    · obtain rfl : j = n := by omega
      go_wp2_with fail
      go_ret
      exact ⟨rfl, rfl⟩
/-- a disk whose cells are marked from k on -/
def markD (k : Int) (d : DZ) : DZ := { d with k := markL k d.k.length, m := markL (k + 2 * d.k.length) d.m.length }
def markE (k : Int) (d : DZ) : Int := k + 2 * d.k.length + 2 * d.m.length
/-- what marking a disk leaves -/
def MarkD (B : Nat) (kv nv : Value) (k : Int) (d : DZ) (w : World) (e : Ending) (w' : World) : Prop := e = .returned (.int .i64 (markE k d)) ∧ IsD w' B kv nv (markD k d) ∧ Only (Two2 kv nv) w w'
end Go.Proofs.Ytncmocdfdkacfaa
