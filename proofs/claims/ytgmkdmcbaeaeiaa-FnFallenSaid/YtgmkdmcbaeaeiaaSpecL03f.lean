/- What the specification's functions of chapter 3 return: flushes, crashes, deaths. -/
import Derived.Test.YtgmkdmcbaeaeiaaSpecL03e
namespace Go.Proofs.Ytgmkdmcbaeaeiaa
open Go.ChangeShapes Go.WideShapes Go.ChangeAt Go.RowKit

/-- what l3Flush leaves -/
def FlushS (b B : Nat) (d : DZ) (nv : Value) (w : World) (e : Ending) (w' : World) : Prop :=
  ∃ kv', e = .returned (.tuple #[]) ∧ DBox w' b B { d with k := d.m } kv' nv ∧ w.grownBy w' (some b)
theorem l3Flush_any (b B : Nat) (d : DZ) (kv nv : Value) (w : World) (h : DBox w b B d kv nv) (hB : B ≤ w.heap.size) (hl : d.m.length ≤ 1000) :
    Calls Try.prog 66 #[.pointer (some ⟨b, 0, none⟩)] w (FlushS b B d nv w) := by
  have e0 := galloc (grefl w) (.cells #[] 43)
  have h0 := h.kept e0
  have hbl := h.lt
  obtain ⟨na, nm, nc, rfl⟩ := h.ns.sl
  have hn0 := h0.ns.lower (Nat.zero_le B)
  obtain ⟨c2, f2⟩ := h.c2
  obtain ⟨c3, f3⟩ := h.c3
  have hnN : (Value.slice na nm nc).ownBlock ≠ some w.heap.size := old_ne h.ns (Nat.le_refl _)
  go_enter Try.func66, Try.ntmps66
  go_wp2_with (first | (at_builtin; refine wpList_append_o (E := cellE) (base := B) rfl (.tmp 3) (.tmp 7) rfl rfl rfl (CS.empty w hB) hn0 (by simp; omega) (by decide) (by simp; omega) ?_; intro v1 w1 o1 g1' a1; have g1 : (w.alloc (.cells #[] 43)).grownBy w1 (some w.heap.size) := g1'; clear g1'; obtain ⟨x2, y2⟩ := gkr g1 (b := b) (by simp; omega) h0.c2; obtain ⟨x1, m1, q1, rfl⟩ := o1.sl))
  have gg1 : w.grownBy w1 (some w.heap.size) := gtrans (gweak e0 _) g1
  obtain ⟨k1, hk1, hk2⟩ : ∃ k, (Value.slice x1 m1 q1).ownBlock = some k ∧ w.heap.size ≤ k := by
    rcases a1 with a1 | a1
    · exact ⟨w.heap.size, a1, Nat.le_refl _⟩
    · exact ⟨_, a1, by simp⟩
  have hD := h.put2 gg1 (by simp; omega) (.inr hnN) o1 (fun e => by rw [hk1] at e; cases e; omega) (.inr fun e => by
    rw [hk1] at e; have := (h.ns.lt k1 e.symm).2; omega)
  go_end0
  exact ⟨_, rfl, hD, gset (gweak (gsub (grefl w) gg1 (by simp)) _) _ _⟩
theorem DZ.flush_eq {d : DZ} : ({ d with k := d.m } : DZ).n = d.n ∧ ({ d with k := d.m } : DZ).dead = d.dead := ⟨rfl, rfl⟩
set_option maxHeartbeats 1000000 in
theorem specFlushed_any (kv nv : Value) (d : DZ) (w : World) (h : IsD w 0 kv nv d) :
    Calls Try.prog 34 #[.agg #[.int .i64 d.n, .bool d.dead, kv, nv]] w (GotD d.flushed w) := by
  have H := Lib.hid h
  obtain ⟨hk, hn⟩ := h
  obtain ⟨ka, km, kc, rfl⟩ := hk.sl
  obtain ⟨na, nm, nc, rfl⟩ := hn.sl
  have hb := boxed2 w (.int .i64 d.n) (.bool d.dead) (.slice ka km kc) (.slice na nm nc) 26
  cases hok : d.ok
  · rw [show d.flushed = .zero by simp [DZ.flushed, hok]]
    go_enter Try.func34, Try.ntmps34
    go_upto_region 1 with (fail)
    generalize (w.alloc (.cells #[.int .i64 d.n, .bool d.dead, .slice ka km kc, .slice na nm nc] 26)).alloc (.cells #[.int .i64 0, .bool false, .slice none 0 0, .slice none 0 0] 26) = W0 at *
    obtain ⟨B0, Z0, g0, s0⟩ := hb
    obtain ⟨⟨c0, f0⟩, ⟨c1, f1⟩, ⟨c2, f2⟩, ⟨c3, f3⟩⟩ := B0
    go_wp2_with fail
    refine (specDiskOk_any _ _ d _ (H.out.grew g0)).mono ?_
    rintro e w1 ⟨rfl, g1⟩
    rw [hok]
    obtain ⟨⟨z0, y0⟩, ⟨z1, y1⟩, ⟨z2, y2⟩, ⟨z3, y3⟩⟩ := Z0.kept g1 (by simp)
    go_wp2_with fail
    exact bodyPost_ret (v := .agg #[.int .i64 0, .bool false, .slice none 0 0, .slice none 0 0]) (by simp [results, Try.results34, go_sem, z0, z1, z2, z3]) rfl ⟨_, _, rfl, newD_zero w (gset4 (gtrans g0 g1) (by omega) _ _ _ _)⟩
  · rw [show d.flushed = { d with k := d.m } by simp [DZ.flushed, hok]]
    have hlen := d.ok_len hok
    go_enter Try.func34, Try.ntmps34
    go_upto_region 1 with (fail)
    generalize (w.alloc (.cells #[.int .i64 d.n, .bool d.dead, .slice ka km kc, .slice na nm nc] 26)).alloc (.cells #[.int .i64 0, .bool false, .slice none 0 0, .slice none 0 0] 26) = W0 at *
    obtain ⟨B0, Z0, g0, s0⟩ := hb
    obtain ⟨⟨c0, f0⟩, ⟨c1, f1⟩, ⟨c2, f2⟩, ⟨c3, f3⟩⟩ := B0
    go_wp2_with fail
    refine (specDiskOk_any _ _ d _ (H.out.grew g0)).mono ?_
    rintro e w1 ⟨rfl, g1⟩
    rw [hok]
    have d0 := gkc g1 c0
    have d1 := gkc g1 c1
    have d2 := gkc g1 c2
    have d3 := gkc g1 c3
    have G1 := gtrans g0 g1
    have Z1 := Z0.kept g1 (by simp)
    have hs1 := g1.size
    clear c0 c1 c2 c3 f0 f1 f2 f3
    go_wp2_with fail
    refine (l3Copy_any _ _ d _ (H.out.grew G1) (by omega) (by omega)).mono ?_
    rintro e w2 ⟨kv2, nv2, rfl, h2, ap, g2⟩
    have hs2 := g2.size
    have D2 := DBox.boxed h2 ap 26
    have e2 := galloc g2 (.cells #[.int .i64 d.n, .bool d.dead, kv2, nv2] 26)
    have G2 := gtrans G1 e2
    have Z2 := Z1.kept e2 (by simp)
    have hnr : nv2.ownBlock ≠ some (w.heap.size + 1) := not_own h2.2 (by omega)
    obtain ⟨ka2, km2, kc2, rfl⟩ := h2.1.sl
    obtain ⟨na2, nm2, nc2, rfl⟩ := h2.2.sl
    clear e2 d0 d1 d2 d3 Z1 Z0
    go_wp2_with fail
    refine (l3Flush_any _ _ d _ _ _ D2 (by simp; omega) (by omega)).mono ?_
    rintro e w3 ⟨kv3, rfl, D3, g3⟩
    have G3 := gsub G2 g3 (by simp; omega)
    have Z3 := Z2.kept g3 (by simp; omega)
    have hkr : kv3.ownBlock ≠ some (w.heap.size + 1) := not_own D3.ks (by omega)
    obtain ⟨ka3, km3, kc3, rfl⟩ := D3.ks.sl
    have hR := D3.res G3 (r := w.heap.size + 1) (by omega) (by omega) hkr hnr (.int .i64 d.n) (.bool d.dead) (.slice ka3 km3 kc3) (.slice na2 nm2 nc2)
    obtain ⟨⟨z0, y0⟩, ⟨z1, y1⟩, ⟨z2, y2⟩, ⟨z3, y3⟩⟩ := Z3
    obtain ⟨c0, f0⟩ := D3.c0
    obtain ⟨c1, f1⟩ := D3.c1
    obtain ⟨c2, f2⟩ := D3.c2
    obtain ⟨c3, f3⟩ := D3.c3
    clear Z2 D2 D3 g3 hkr hnr h2
    dsimp only at c0 c1
    go_wp2_with fail
    exact bodyPost_ret (v := .agg #[.int .i64 d.n, .bool d.dead, .slice ka3 km3 kc3, .slice na2 nm2 nc2]) (by simp [results, Try.results34, go_sem, z0, z1, z2, z3]) rfl ⟨_, _, rfl, hR⟩
end Go.Proofs.Ytgmkdmcbaeaeiaa
