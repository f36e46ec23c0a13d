/- What the program's functions of chapter 3 return: flushes, deaths. -/
import Derived.Test.YtgmkdmcbaeaeiaaImplL03c
namespace Go.Proofs.Ytgmkdmcbaeaeiaa
open Go.ChangeShapes Go.WideShapes Go.ChangeAt Go.RowKit

/-- a disk that a callee has made is handed on through a result variable r -/
theorem NewD.res {w w1 w2 : World} {r : Nat} {kv nv : Value} {d : DZ} (h : NewD w1 w2 kv nv d) (g : w.grownBy w1 none) (hr : w.heap.size ≤ r) (hr1 : r < w1.heap.size) (x0 x1 x2 x3 : Value) : NewD w (set4 w2 r x0 x1 x2 x3) kv nv d := by
  have hs := g.size
  exact ⟨⟨(h.1.1.lower (by omega)).set4 (not_own h.1.1 hr1) _ _ _ _, (h.1.2.lower (by omega)).set4 (not_own h.1.2 hr1) _ _ _ _⟩, h.2.1, gset4 (gtrans g h.2.2) hr _ _ _ _⟩
theorem implFlushed_any (kv nv : Value) (d : DZ) (w : World) (h : IsD w 0 kv nv d) :
    Calls Try.prog 32 #[.agg #[.int .i64 d.n, .bool d.dead, kv, nv]] w (GotD d.flushed w) := by
  have H := Lib.hid h
  obtain ⟨hk, hn⟩ := h
  obtain ⟨ka, kc, rfl, km⟩ := hk.form
  obtain ⟨na, nc, rfl, nm⟩ := hn.form
  have hb := boxed2 w (.int .i64 d.n) (.bool d.dead) (.slice ka d.k.length kc) (.slice na d.m.length nc) 26
  cases hok : d.ok
  · rw [show d.flushed = .zero by simp [DZ.flushed, hok]]
    go_enter Try.func32, Try.ntmps32
    go_upto_region 1 with (fail)
    generalize (w.alloc (.cells #[.int .i64 d.n, .bool d.dead, .slice ka d.k.length kc, .slice na d.m.length nc] 26)).alloc (.cells #[.int .i64 0, .bool false, .slice none 0 0, .slice none 0 0] 26) = W0 at *
    obtain ⟨B0, Z0, g0, s0⟩ := hb
    obtain ⟨⟨c0, f0⟩, ⟨c1, f1⟩, ⟨c2, f2⟩, ⟨c3, f3⟩⟩ := B0
    go_wp2_with fail
    refine (implDiskOk_any _ _ d _ (H.out.grew g0)).mono ?_
    rintro e w1 ⟨rfl, g1⟩
    rw [hok]
    obtain ⟨⟨z0, y0⟩, ⟨z1, y1⟩, ⟨z2, y2⟩, ⟨z3, y3⟩⟩ := Z0.kept g1 (by simp)
    go_wp2_with fail
    exact bodyPost_ret (v := .agg #[.int .i64 0, .bool false, .slice none 0 0, .slice none 0 0]) (by simp [results, Try.results32, go_sem, z0, z1, z2, z3]) rfl ⟨_, _, rfl, newD_zero w (gset4 (gtrans g0 g1) (by omega) _ _ _ _)⟩
  · rw [show d.flushed = { d with k := d.m } by simp [DZ.flushed, hok]]
    have lk : d.k.length ≤ 16 := by have := d.ok_len hok; omega
    have lm : d.m.length ≤ 16 := (d.ok_len hok).2
    go_enter Try.func32, Try.ntmps32
    go_upto_region 1 with (fail)
    generalize (w.alloc (.cells #[.int .i64 d.n, .bool d.dead, .slice ka d.k.length kc, .slice na d.m.length nc] 26)).alloc (.cells #[.int .i64 0, .bool false, .slice none 0 0, .slice none 0 0] 26) = W0 at *
    obtain ⟨B0, Z0, g0, s0⟩ := hb
    obtain ⟨⟨c0, f0⟩, ⟨c1, f1⟩, ⟨c2, f2⟩, ⟨c3, f3⟩⟩ := B0
    go_wp2_with fail
    refine (implDiskOk_any _ _ d _ (H.out.grew g0)).mono ?_
    rintro e w1 ⟨rfl, g1⟩
    rw [hok]
    have d0 := gkc g1 c0
    have d1 := gkc g1 c1
    have d2 := gkc g1 c2
    have d3 := gkc g1 c3
    have G1 := gtrans g0 g1
    have hs1 := g1.size
    have Z1 := Z0.kept g1 (by simp)
    have hn1 := hn.grew G1
    clear c0 c1 c2 c3 f0 f1 f2 f3
    go_wp2_with fail
    refine (diskWith_any d.n d.dead _ _ _ _ _ _ d.m d.m _ hn1 hn1 (by omega) (by omega)).mono ?_
    rintro e w2 ⟨kv, nv, rfl, N2⟩
    obtain ⟨⟨z0, y0⟩, ⟨z1, y1⟩, ⟨z2, y2⟩, ⟨z3, y3⟩⟩ := Z1.kept N2.2.2 (by simp)
    have hR := N2.res G1 (r := w.heap.size + 1) (by omega) (by omega) (.int .i64 d.n) (.bool d.dead) kv nv
    obtain ⟨ka2, km2, kc2, rfl⟩ := N2.1.1.sl
    obtain ⟨na2, nm2, nc2, rfl⟩ := N2.1.2.sl
    clear d0 d1 d2 d3 N2
    go_wp2_with fail
    exact bodyPost_ret (v := .agg #[.int .i64 d.n, .bool d.dead, .slice ka2 km2 kc2, .slice na2 nm2 nc2]) (by simp [results, Try.results32, go_sem, z0, z1, z2, z3]) rfl ⟨_, _, rfl, hR⟩
theorem implDied_any (kv nv : Value) (d : DZ) (w : World) (h : IsD w 0 kv nv d) :
    Calls Try.prog 24 #[.agg #[.int .i64 d.n, .bool d.dead, kv, nv]] w (GotD d.died w) := by
  have H := Lib.hid h
  obtain ⟨hk, hn⟩ := h
  obtain ⟨ka, km, kc, rfl⟩ := hk.sl
  obtain ⟨na, nm, nc, rfl⟩ := hn.sl
  have hb := boxed2 w (.int .i64 d.n) (.bool d.dead) (.slice ka km kc) (.slice na nm nc) 26
  cases hok : d.ok
  · rw [show d.died = .zero by simp [DZ.died, hok]]
    go_enter Try.func24, Try.ntmps24
    go_upto_region 1 with (fail)
    generalize (w.alloc (.cells #[.int .i64 d.n, .bool d.dead, .slice ka km kc, .slice na nm nc] 26)).alloc (.cells #[.int .i64 0, .bool false, .slice none 0 0, .slice none 0 0] 26) = W0 at *
    obtain ⟨B0, Z0, g0, s0⟩ := hb
    obtain ⟨⟨c0, f0⟩, ⟨c1, f1⟩, ⟨c2, f2⟩, ⟨c3, f3⟩⟩ := B0
    go_wp2_with fail
    refine (implDiskOk_any _ _ d _ (H.out.grew g0)).mono ?_
    rintro e w1 ⟨rfl, g1⟩
    rw [hok]
    obtain ⟨⟨z0, y0⟩, ⟨z1, y1⟩, ⟨z2, y2⟩, ⟨z3, y3⟩⟩ := Z0.kept g1 (by simp)
    go_wp2_with fail
    exact bodyPost_ret (v := .agg #[.int .i64 0, .bool false, .slice none 0 0, .slice none 0 0]) (by simp [results, Try.results24, go_sem, z0, z1, z2, z3]) rfl ⟨_, _, rfl, newD_zero w (gset4 (gtrans g0 g1) (by omega) _ _ _ _)⟩
  · rw [show d.died = ⟨d.n, true, [], []⟩ by simp [DZ.died, hok]]
    go_enter Try.func24, Try.ntmps24
    go_upto_region 1 with (fail)
    generalize (w.alloc (.cells #[.int .i64 d.n, .bool d.dead, .slice ka km kc, .slice na nm nc] 26)).alloc (.cells #[.int .i64 0, .bool false, .slice none 0 0, .slice none 0 0] 26) = W0 at *
    obtain ⟨B0, Z0, g0, s0⟩ := hb
    obtain ⟨⟨c0, f0⟩, ⟨c1, f1⟩, ⟨c2, f2⟩, ⟨c3, f3⟩⟩ := B0
    go_wp2_with fail
    refine (implDiskOk_any _ _ d _ (H.out.grew g0)).mono ?_
    rintro e w1 ⟨rfl, g1⟩
    rw [hok]
    obtain ⟨⟨z0, y0⟩, ⟨z1, y1⟩, ⟨z2, y2⟩, ⟨z3, y3⟩⟩ := Z0.kept g1 (by simp)
    have d0 := gkc g1 c0
    clear c0
    go_wp2_with fail
    exact bodyPost_ret (v := .agg #[.int .i64 d.n, .bool true, .slice none 0 0, .slice none 0 0]) (by simp [results, Try.results24, go_sem, z0, z1, z2, z3]) rfl ⟨_, _, rfl, ⟨CS.nil _ _, CS.nil _ _⟩, .inl rfl, gset4 (gtrans g0 g1) (by omega) _ _ _ _⟩
end Go.Proofs.Ytgmkdmcbaeaeiaa
