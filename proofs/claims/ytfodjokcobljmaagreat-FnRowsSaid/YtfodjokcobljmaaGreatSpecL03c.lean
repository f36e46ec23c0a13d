/- What the specification's functions of chapter 3 return: new disks. -/
import Derived.Test.YtfodjokcobljmaaGreatSpecL03
import Derived.Deep.RegionLaw
namespace Go.Proofs.YtfodjokcobljmaaGreat
open Go.ChangeShapes Go.WideShapes Go.ChangeAt Go.RowKit

/-- the loop of l3New -/
structure NewS (w wr : World) (n : Int) (i j : Nat) (kv nv : Value) : Prop where
  box : DBox wr (w.heap.size + 1) (w.heap.size + 2) ⟨n, false, newL n i, newL n j⟩ kv nv
  zero : Zero4 wr w.heap.size
  grew : w.grownBy wr none
theorem NewS.kept {w wr w2 : World} {n : Int} {i j : Nat} {kv nv : Value} (h : NewS w wr n i j kv nv) (g : wr.grownBy w2 none) : NewS w w2 n i j kv nv := ⟨h.box.kept g, h.zero.kept g (by simp), gtrans h.grew g⟩
theorem NewS.drew {w wr : World} {n : Int} {i j : Nat} {kv nv : Value} (h : NewS w wr n i j kv nv) : NewS w wr.drew n i j kv nv := h.kept (gdrew (grefl _) 1)
theorem NewS.app2 {w wr w2 : World} {n : Int} {i j : Nat} {kv nv v : Value} (h : NewS w wr n i j kv nv) (g : wr.grownBy w2 kv.ownBlock) (hv : CS w2 (w.heap.size + 2) v (newL n i ++ [(cofV n i 0, cofS n i 0)])) (hat : v.ownBlock = kv.ownBlock ∨ v.ownBlock = some wr.heap.size) :
    NewS w (w2.setCell ⟨w.heap.size + 1, 2, none⟩ v) n (i + 1) j v nv := by
  have hb := h.box.app2 g hv hat
  dsimp only at hb
  rw [← newL_succ] at hb
  exact ⟨hb, (h.zero.kept g (fun e => by have := (h.box.ks.lt _ e).1; omega)).other (by omega) _, gset1 (gsub h.grew g fun k e => by have := (h.box.ks.lt k e).1; omega) (by omega) _ _⟩
theorem NewS.app3 {w wr w2 : World} {n : Int} {i j : Nat} {kv nv v : Value} (h : NewS w wr n i j kv nv) (g : wr.grownBy w2 nv.ownBlock) (hv : CS w2 (w.heap.size + 2) v (newL n j ++ [(cofV n j 0, cofS n j 0)])) (hat : v.ownBlock = nv.ownBlock ∨ v.ownBlock = some wr.heap.size) :
    NewS w (w2.setCell ⟨w.heap.size + 1, 3, none⟩ v) n i (j + 1) kv v := by
  have hb := h.box.app3 g hv hat
  dsimp only at hb
  rw [← newL_succ] at hb
  exact ⟨hb, (h.zero.kept g (fun e => by have := (h.box.ns.lt _ e).1; omega)).other (by omega) _, gset1 (gsub h.grew g fun k e => by have := (h.box.ns.lt k e).1; omega) (by omega) _ _⟩
set_option maxHeartbeats 4000000 in
theorem l3New_any (n : Int) (p : Nat) (w : World) (hp : p ≤ 16) :
    Calls Tryz.prog 70 #[.int .i64 n, .int .i64 p] w (GotD ⟨n, false, newL n p, newL n p⟩ w) := by
  go_enter Tryz.func70, Tryz.ntmps70
  go_wp2
  go_loopw [6] (fun i wr => ∃ (k : Nat) (kv nv : Value), k ≤ p ∧ i = .int .i64 k ∧ NewS w wr n k k kv nv) (fun i _ => p - (intOf i).toNat)
  case atStart => exact ⟨0, _, _, Nat.zero_le _, rfl, ⟨⟨by simp [At, go_sem], by simp [At, go_sem], by simp [At, go_sem], by simp [At, go_sem], CS.nil _ _, CS.nil _ _, .inl rfl, by simp [Value.ownBlock], by simp [Value.ownBlock]⟩, ⟨by simp [At, go_sem], by simp [At, go_sem], by simp [At, go_sem], by simp [At, go_sem]⟩, galloc (galloc (grefl _) _) _⟩⟩
  case round =>
    obtain ⟨k, kv, nv, hk, rfl, hS⟩ := hrel
    by_cases hlt : k < p
    · obtain ⟨c0, f0⟩ := hS.box.c2
      obtain ⟨d0, e0⟩ := hS.box.c3
      have hl1 := (newL_length n k)
      have hlk : (newL n k).length ≤ 16 := by omega
      clear hl1
      go_wp2_with fail
      go_region_law (first | (go_simp; go_at_call 89; refine (specCellOf_any _ _ _ _).mono ?_; rintro e w8 ⟨rfl, g8⟩; have hS2 := hS.drew.kept g8; obtain ⟨c1, f1⟩ := hS2.box.c2; have hq := hS2.box.lt) | (refine step_append_o (E := cellE) rfl (.tmp 15) (.tmp 19) rfl rfl rfl (NewS.box (NewS.kept hS2 (galloc (grefl _) _))).ks (CS.single _ _ _ (Nat.zero_le _)) (by simp; omega) (by decide) (by have := hS2.grew.size; have := hS2.box.lt; simp; omega) ?_; intro v' w3 hown3 hg3 hat3; have hSp := NewS.kept hS2 (galloc (grefl w8) (.cells #[.int .i64 (cofV n k 0), .int .i64 (cofS n k 0)] 73)); have hS3 := NewS.app2 hSp hg3 hown3 hat3; obtain ⟨c4, f4⟩ := gkr hg3 hSp.box.kb hSp.box.c2; obtain ⟨a3, m3, q3, rfl⟩ := hown3.sl))
      all_goals
        clear c0 f0 d0 e0 c4 f4 c1 f1 hS2 hSp hg3 hat3 hown3 g8 hq hS
        obtain ⟨d0, e0⟩ := hS3.box.c3
        go_wp2_with fail
        generalize w3.setCell ⟨w.heap.size + 1, 2, none⟩ (.slice a3 m3 q3) = W3 at *
        generalize Value.slice a3 m3 q3 = kv3 at *
        go_region_law (first | (go_simp; go_at_call 89; refine (specCellOf_any _ _ _ _).mono ?_; rintro e w8' ⟨rfl, g8⟩; have hS2 := hS3.drew.kept g8; obtain ⟨c1, f1⟩ := hS2.box.c3; have hq := hS2.box.lt) | (refine step_append_o (E := cellE) rfl (.tmp 23) (.tmp 27) rfl rfl rfl (NewS.box (NewS.kept hS2 (galloc (grefl _) _))).ns (CS.single _ _ _ (Nat.zero_le _)) (by simp; omega) (by decide) (by have := hS2.grew.size; have := hS2.box.lt; simp; omega) ?_; intro v' w4 hown3 hg3 hat3; have hSp := NewS.kept hS2 (galloc (grefl w8') (.cells #[.int .i64 (cofV n k 0), .int .i64 (cofS n k 0)] 73)); have hS4 := NewS.app3 hSp hg3 hown3 hat3; obtain ⟨c4, f4⟩ := gkr hg3 hSp.box.nb hSp.box.c3; obtain ⟨a4, m4, q4, rfl⟩ := hown3.sl))
        all_goals
          clear d0 e0 c4 f4 c1 f1 hS2 hSp hg3 hat3 hown3 g8 hq hS3
          go_wp2_with fail
          go_roundw
          case rel => exact ⟨k + 1, _, _, by omega, by go_num, hS4⟩
          case measure => simp [intOf]; omega
    · obtain rfl : k = p := by omega
      obtain ⟨⟨c0, f0⟩, ⟨c1, f1⟩, ⟨c2, f2⟩, ⟨c3, f3⟩, ks, ns, ap, kb, nb⟩ := hS.box
      obtain ⟨⟨x0, y0⟩, ⟨x1, y1⟩, ⟨x2, y2⟩, ⟨x3, y3⟩⟩ := hS.zero
      obtain ⟨ka, km, kc, rfl⟩ := ks.sl
      obtain ⟨na, nm, nc, rfl⟩ := ns.sl
      have hR := hS.box.res hS.grew (r := w.heap.size) (Nat.le_refl _) (by omega) (not_own ks (by omega)) (not_own ns (by omega)) (.int .i64 n) (.bool false) (.slice ka km kc) (.slice na nm nc)
      go_wp2_with fail
      exact bodyPost_ret (v := .agg #[.int .i64 n, .bool false, .slice ka km kc, .slice na nm nc]) (by simp [results, Tryz.results70, go_sem, x0, x1, x2, x3]) rfl ⟨_, _, rfl, hR⟩
end Go.Proofs.YtfodjokcobljmaaGreat
