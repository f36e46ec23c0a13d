/- What the specification's functions of chapter 3 return: copies, writes, flushes, crashes. -/
import Derived.Test.YtncmocdfdkacfaaSpecL03c
import Derived.Deep.DeepCutAuto
namespace Go.Proofs.Ytncmocdfdkacfaa
open Go.ChangeShapes Go.WideShapes Go.ChangeAt Go.RowKit

set_option maxHeartbeats 1000000 in
theorem l3Copy_any (kv nv : Value) (d : DZ) (w : World) (h : IsD w 0 kv nv d) (hk1 : d.k.length ≤ 1000) (hm1 : d.m.length ≤ 1000) :
    Calls Try.prog 77 #[.agg #[.int .i64 d.n, .bool d.dead, kv, nv]] w (GotD d w) := by
  obtain ⟨n, dead, kl, nl⟩ := d
  obtain ⟨hk, hn⟩ := h
  dsimp only at *
  obtain ⟨ka, km, kc, rfl⟩ := hk.sl
  obtain ⟨na, nm, nc, rfl⟩ := hn.sl
  have hb := boxed2 w (.int .i64 n) (.bool dead) (.slice ka km kc) (.slice na nm nc) 58
  go_enter Try.func77, Try.ntmps77
  go_upto_region 1 with (fail)
  generalize (w.alloc (.cells #[.int .i64 n, .bool dead, .slice ka km kc, .slice na nm nc] 58)).alloc (.cells #[.int .i64 0, .bool false, .slice none 0 0, .slice none 0 0] 58) = W0 at *
  obtain ⟨B0, Z0, g0, s0⟩ := hb
  have e0 := galloc (grefl W0) (.cells #[] 100)
  have hkN : (Value.slice ka km kc).ownBlock ≠ some w.heap.size := old_ne hk (Nat.le_refl _)
  have hnN : (Value.slice na nm nc).ownBlock ≠ some w.heap.size := old_ne hn (Nat.le_refl _)
  have hnN0 : (Value.slice na nm nc).ownBlock ≠ some W0.heap.size := old_ne hn (by omega)
  have hk0 := (hk.grew g0).grew e0
  obtain ⟨p2, q2⟩ := B0.c2
  have s1 : w.heap.size < W0.heap.size := by omega
  go_upto_region 2 with (first | (at_builtin; refine wpList_append_o (E := cellE) (base := w.heap.size + 2) rfl (.tmp 3) (.tmp 5) rfl rfl rfl (CS.empty W0 s0) hk0 (by simp; omega) (by decide) (by simp; omega) ?_; intro v1 w1 o1 g1' a1; have g1 : (W0.alloc (.cells #[] 100)).grownBy w1 (some W0.heap.size) := g1'; clear g1'; obtain ⟨x2, y2⟩ := gkr g1 (b := w.heap.size) (by simp; omega) (B0.kept e0 (by simp)).c2; obtain ⟨x1, m1, q1, rfl⟩ := o1.sl))
  have gg1 : W0.grownBy w1 (some W0.heap.size) := gtrans (gweak e0 _) g1
  have B1 := (B0.kept gg1 (by simp; omega)).put2 (.slice x1 m1 q1)
  have Z1 := (Z0.kept gg1 (by simp; omega)).other (c := w.heap.size) (o := 2) (by omega) (.slice x1 m1 q1)
  have G1 : w.grownBy (w1.setCell ⟨w.heap.size, 2, none⟩ (.slice x1 m1 q1)) none := gset1 (gsub g0 gg1 (by simp; omega)) (Nat.le_refl _) _ _
  have k1 : CS (w1.setCell ⟨w.heap.size, 2, none⟩ (.slice x1 m1 q1)) (w.heap.size + 2) (.slice x1 m1 q1) kl := CS.other o1 (not_own o1 (by omega)) _
  have n1 : CS (w1.setCell ⟨w.heap.size, 2, none⟩ (.slice x1 m1 q1)) 0 (.slice na nm nc) nl := ((hn.grew g0).kept gg1 (.inr hnN0)).other hnN _
  have s2 : W0.heap.size ≤ (w1.setCell ⟨w.heap.size, 2, none⟩ (.slice x1 m1 q1)).heap.size := by have := gg1.size; simpa [World.setCell] using this
  clear o1 g1 a1 gg1 e0 hk0 p2 q2 x2 y2
  generalize w1.setCell ⟨w.heap.size, 2, none⟩ (.slice x1 m1 q1) = W1 at *
  have s3 : w.heap.size < W1.heap.size := by omega
  have e1 := galloc (grefl W1) (.cells #[] 100)
  have kN1 : (Value.slice x1 m1 q1).ownBlock ≠ some W1.heap.size := old_ne k1 (Nat.le_refl _)
  have n2 := n1.grew e1
  obtain ⟨p3, q3⟩ := B1.c3
  go_upto_region 3 with (first | (at_builtin; refine wpList_append_o (E := cellE) (base := w.heap.size + 2) rfl (.tmp 8) (.tmp 10) rfl rfl rfl (CS.empty W1 (by omega)) n2 (by simp; omega) (by decide) (by simp; omega) ?_; intro v2 w2 o2 g2' a2; have g2 : (W1.alloc (.cells #[] 100)).grownBy w2 (some W1.heap.size) := g2'; clear g2'; obtain ⟨x3, y3⟩ := gkr g2 (b := w.heap.size) (by simp; omega) (B1.kept e1 (by simp)).c3; obtain ⟨u1, u2, u3, rfl⟩ := o2.sl))
  have gg2 : W1.grownBy w2 (some W1.heap.size) := gtrans (gweak e1 _) g2
  have B2 := (B1.kept gg2 (by simp; omega)).put3 (.slice u1 u2 u3)
  have Z2 := (Z1.kept gg2 (by simp; omega)).other (c := w.heap.size) (o := 3) (by omega) (.slice u1 u2 u3)
  have G2 : w.grownBy (w2.setCell ⟨w.heap.size, 3, none⟩ (.slice u1 u2 u3)) none := gset1 (gsub G1 gg2 (by simp; omega)) (Nat.le_refl _) _ _
  have n3 : CS (w2.setCell ⟨w.heap.size, 3, none⟩ (.slice u1 u2 u3)) (w.heap.size + 2) (.slice u1 u2 u3) nl := CS.other o2 (not_own o2 (by omega)) _
  have k2 : CS (w2.setCell ⟨w.heap.size, 3, none⟩ (.slice u1 u2 u3)) (w.heap.size + 2) (.slice x1 m1 q1) kl := (k1.kept gg2 (.inr kN1)).other (not_own k1 (by omega)) _
  have ap : Apart (.slice x1 m1 q1) (.slice u1 u2 u3) := by
    refine .inr fun e => ?_
    rcases a2 with a2 | a2 <;> rw [a2] at e
    · exact kN1 (by rw [e]; rfl)
    · have h3 := (k1.lt _ e).2; simp at h3; omega
  clear o2 g2 a2 gg2 e1 n1 n2 k1 p3 q3 x3 y3 B1 Z1 G1
  generalize w2.setCell ⟨w.heap.size, 3, none⟩ (.slice u1 u2 u3) = W2 at *
  have hR : NewD w (set4 W2 (w.heap.size + 1) (.int .i64 n) (.bool dead) (.slice x1 m1 q1) (.slice u1 u2 u3)) _ _ ⟨n, dead, kl, nl⟩ := ⟨⟨(k2.lower (by omega)).set4 (not_own k2 (by omega)) _ _ _ _, (n3.lower (by omega)).set4 (not_own n3 (by omega)) _ _ _ _⟩, ap, gset4 G2 (by omega) _ _ _ _⟩
  obtain ⟨⟨c0, f0⟩, ⟨c1, f1⟩, ⟨c2, f2⟩, ⟨c3, f3⟩⟩ := B2
  obtain ⟨⟨z0, y0⟩, ⟨z1, y1⟩, ⟨z2, y2⟩, ⟨z3, y3⟩⟩ := Z2
  go_wp2_with fail
  exact bodyPost_ret (v := .agg #[.int .i64 n, .bool dead, .slice x1 m1 q1, .slice u1 u2 u3]) (by simp [results, Try.results77, go_sem, z0, z1, z2, z3]) rfl ⟨_, _, rfl, hR⟩
end Go.Proofs.Ytncmocdfdkacfaa
