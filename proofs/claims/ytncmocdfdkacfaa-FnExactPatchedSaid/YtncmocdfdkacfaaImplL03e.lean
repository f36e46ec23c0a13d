/- What the program's functions of chapter 3 return: writes. -/
import Derived.Test.YtncmocdfdkacfaaImplL03d
namespace Go.Proofs.Ytncmocdfdkacfaa
open Go.ChangeShapes Go.WideShapes Go.ChangeAt Go.RowKit

/-- what holds while Written gathers its result -/
abbrev WtS (w' : World) (b : Nat) (x0 x2 : Value) (r : Nat) : Prop := w'.cell? ⟨b, 0, none⟩ = some x0 ∧ w'.cell? ⟨b, 2, none⟩ = some x2 ∧ Live w' r 0 ∧ Live w' r 1 ∧ Live w' r 2 ∧ Live w' r 3
theorem WtS.kept {w' w2 : World} {b r : Nat} {x0 x2 : Value} (h : WtS w' b x0 x2 r) (g : w'.grownBy w2 none) : WtS w2 b x0 x2 r := ⟨gkc g h.1, gkc g h.2.1, h.2.2.1.kept g, h.2.2.2.1.kept g, h.2.2.2.2.1.kept g, h.2.2.2.2.2.kept g⟩
theorem WtS.drew {w' : World} {b r : Nat} {x0 x2 : Value} (h : WtS w' b x0 x2 r) : WtS w'.drew b x0 x2 r := h
theorem WtS.set {w' : World} {b r : Nat} {x0 x2 : Value} (h : WtS w' b x0 x2 r) (hb : r ≠ b) (y0 y1 y2 y3 : Value) : WtS (set4 w' r y0 y1 y2 y3) b x0 x2 r := by
  have hn : ∀ (W : World) (p q : Nat) (x : Value), (W.setCell ⟨r, p, none⟩ x).cell? ⟨b, q, none⟩ = W.cell? ⟨b, q, none⟩ := fun W p q x => World.cell?_setCell_other W _ _ x (fun e => hb (by cases e; rfl))
  refine ⟨?_, ?_, ?_, ?_, ?_, ?_⟩ <;> unfold set4
  · rw [hn, hn, hn, hn]; exact h.1
  · rw [hn, hn, hn, hn]; exact h.2.1
  · exact (((h.2.2.1.set _).set _).set _).set _
  · exact (((h.2.2.2.1.set _).set _).set _).set _
  · exact (((h.2.2.2.2.1.set _).set _).set _).set _
  · exact (((h.2.2.2.2.2.set _).set _).set _).set _
abbrev WcS (w' : World) (b : Nat) (x0 x3 : Value) : Prop := w'.cell? ⟨b, 0, none⟩ = some x0 ∧ w'.cell? ⟨b, 3, none⟩ = some x3
theorem WcS.kept {w' w2 : World} {b : Nat} {x0 x3 : Value} (h : WcS w' b x0 x3) (g : w'.grownBy w2 none) : WcS w2 b x0 x3 := ⟨gkc g h.1, gkc g h.2⟩
theorem WcS.drew {w' : World} {b : Nat} {x0 x3 : Value} (h : WcS w' b x0 x3) : WcS w'.drew b x0 x3 := h
set_option maxHeartbeats 2000000 in
theorem implWritten_any (kv nv : Value) (d : DZ) (p v : Int) (w : World) (h : IsD w 0 kv nv d) :
    Calls Try.prog 53 #[.agg #[.int .i64 d.n, .bool d.dead, kv, nv], .int .i64 p, .int .i64 v] w (GotDB (d.written p v) (d.wrote p v) w) := by
  have H := Lib.hid h
  obtain ⟨hk, hn⟩ := h
  obtain ⟨ka, kc, rfl, km⟩ := hk.form
  obtain ⟨na, nc, rfl, nm⟩ := hn.form
  have hb := boxed2 w (.int .i64 d.n) (.bool d.dead) (.slice ka d.k.length kc) (.slice na d.m.length nc) 58
  cases hok : d.ok
  · rw [show d.written p v = .zero by simp [DZ.written, hok], show d.wrote p v = false by simp [DZ.wrote, hok]]
    go_enter Try.func53, Try.ntmps53
    go_upto_region 1 with (fail)
    generalize (w.alloc (.cells #[.int .i64 d.n, .bool d.dead, .slice ka d.k.length kc, .slice na d.m.length nc] 58)).alloc (.cells #[.int .i64 0, .bool false, .slice none 0 0, .slice none 0 0] 58) = W0 at *
    obtain ⟨B0, Z0, g0, s0⟩ := hb
    obtain ⟨⟨c0, f0⟩, ⟨c1, f1⟩, ⟨c2, f2⟩, ⟨c3, f3⟩⟩ := B0
    go_wp2_with fail
    refine (implDiskOk_any _ _ d _ (H.out.grew g0)).mono ?_
    rintro e w1 ⟨rfl, g1⟩
    rw [hok]
    obtain ⟨⟨z0, y0⟩, ⟨z1, y1⟩, ⟨z2, y2⟩, ⟨z3, y3⟩⟩ := Z0.kept g1 (by simp)
    go_wp2_with fail
    exact bodyPost_ret (v := .tuple #[.agg #[.int .i64 0, .bool false, .slice none 0 0, .slice none 0 0], .bool false]) (by simp [results, Try.results53, go_sem, z0, z1, z2, z3]) rfl ⟨_, _, rfl, newD_zero w (gset4 (gtrans g0 g1) (by omega) _ _ _ _)⟩
  rw [show d.written p v = d.put p v by simp [DZ.written, hok], show d.wrote p v = d.may p v by simp [DZ.wrote, hok]]
  have lk : d.k.length ≤ 16 := by have := d.ok_len hok; omega
  have lm : d.m.length ≤ 16 := (d.ok_len hok).2
  cases hm : d.has p && inB v 0 32767
  · have HM : d.may p v = false := by simp [DZ.may, hm]
    rw [show d.put p v = d by simp [DZ.put, HM], HM]
    clear HM
    go_enter Try.func53, Try.ntmps53
    go_upto_region 1 with (fail)
    generalize (w.alloc (.cells #[.int .i64 d.n, .bool d.dead, .slice ka d.k.length kc, .slice na d.m.length nc] 58)).alloc (.cells #[.int .i64 0, .bool false, .slice none 0 0, .slice none 0 0] 58) = W0 at *
    obtain ⟨B0, Z0, g0, s0⟩ := hb
    obtain ⟨⟨c0, f0⟩, ⟨c1, f1⟩, ⟨c2, f2⟩, ⟨c3, f3⟩⟩ := B0
    go_wp2_with fail
    refine (implDiskOk_any _ _ d _ (H.out.grew g0)).mono ?_
    rintro e w1 ⟨rfl, g1⟩
    rw [hok]
    have d0 := gkc g1 c0
    have d1 := gkc g1 c1
    have d2 := gkc g1 c2
    have d3 := gkc g1 c3
    have G1 := gtrans g0 g1
    clear c0 c1 c2 c3 f0 f1 f2 f3
    go_wp2_with fail
    refine (hasPlace_any _ _ d p _ (H.out.grew G1)).mono ?_
    rintro e w2 ⟨rfl, g2⟩
    have e0 := gkc g2 d0
    have e1 := gkc g2 d1
    have e2 := gkc g2 d2
    have e3 := gkc g2 d3
    have G2 := gtrans G1 g2
    have hs1 := (gtrans g1 g2).size
    have Z2 := Z0.kept (gtrans g1 g2) (by simp)
    have hk2 := hk.grew G2
    have hn2 := hn.grew G2
    clear d0 d1 d2 d3
    cases hh : d.has p
    · go_wp2_with fail
      refine (diskWith_any d.n d.dead _ _ _ _ _ _ d.k d.m _ hk2 hn2 (by omega) (by omega)).mono ?_
      rintro e w3 ⟨kv, nv, rfl, N2⟩
      obtain ⟨⟨z0, y0⟩, ⟨z1, y1⟩, ⟨z2, y2⟩, ⟨z3, y3⟩⟩ := Z2.kept N2.2.2 (by simp)
      have hR := N2.res G2 (r := w.heap.size + 1) (by omega) (by omega) (.int .i64 d.n) (.bool d.dead) kv nv
      obtain ⟨ka2, km2, kc2, rfl⟩ := N2.1.1.sl
      obtain ⟨na2, nm2, nc2, rfl⟩ := N2.1.2.sl
      clear e0 e1 e2 e3 N2
      go_wp2_with fail
      exact bodyPost_ret (v := .tuple #[.agg #[.int .i64 d.n, .bool d.dead, .slice ka2 km2 kc2, .slice na2 nm2 nc2], .bool false]) (by simp [results, Try.results53, go_sem, z0, z1, z2, z3]) rfl ⟨_, _, rfl, hR⟩
    · have hv : inB v 0 32767 = false := by simpa [hh] using hm
      go_wp2_with (first | (go_at_call 35; refine (implValueOk_any _ _).mono ?_; rintro e w' ⟨rfl, rfl⟩))
      refine (diskWith_any d.n d.dead _ _ _ _ _ _ d.k d.m _ hk2 hn2 (by omega) (by omega)).mono ?_
      rintro e w3 ⟨kv, nv, rfl, N2⟩
      obtain ⟨⟨z0, y0⟩, ⟨z1, y1⟩, ⟨z2, y2⟩, ⟨z3, y3⟩⟩ := Z2.kept N2.2.2 (by simp)
      have hR := N2.res G2 (r := w.heap.size + 1) (by omega) (by omega) (.int .i64 d.n) (.bool d.dead) kv nv
      obtain ⟨ka2, km2, kc2, rfl⟩ := N2.1.1.sl
      obtain ⟨na2, nm2, nc2, rfl⟩ := N2.1.2.sl
      clear e0 e1 e2 e3 N2
      go_wp2_with fail
      exact bodyPost_ret (v := .tuple #[.agg #[.int .i64 d.n, .bool d.dead, .slice ka2 km2 kc2, .slice na2 nm2 nc2], .bool false]) (by simp [results, Try.results53, go_sem, z0, z1, z2, z3]) rfl ⟨_, _, rfl, hR⟩
  · simp only [Bool.and_eq_true] at hm
    obtain ⟨hh, hv⟩ := hm
    have hd := Lib.hid (DZ.ok_has hok hh)
    obtain ⟨k, rfl, hk1⟩ : ∃ k : Nat, p = k ∧ k < d.m.length := ⟨p.toNat, by simp [DZ.has] at hh; omega, by simp [DZ.has] at hh; omega⟩
    have HM : d.may k v = true := by simp [DZ.may, hd.out, hh, hv]
    rw [show d.put k v = { d with m := d.m.set k (cofV d.n k v, cofS d.n k v) } by simp [DZ.put, HM], HM]
    clear HM
    go_enter Try.func53, Try.ntmps53
    go_upto_region 1 with (fail)
    generalize (w.alloc (.cells #[.int .i64 d.n, .bool d.dead, .slice ka d.k.length kc, .slice na d.m.length nc] 58)).alloc (.cells #[.int .i64 0, .bool false, .slice none 0 0, .slice none 0 0] 58) = W0 at *
    obtain ⟨B0, Z0, g0, s0⟩ := hb
    obtain ⟨⟨c0, f0⟩, ⟨c1, f1⟩, ⟨c2, f2⟩, ⟨c3, f3⟩⟩ := B0
    go_wp2_with fail
    refine (implDiskOk_any _ _ d _ (H.out.grew g0)).mono ?_
    rintro e w1 ⟨rfl, g1⟩
    rw [hok]
    have d0 := gkc g1 c0
    have d1 := gkc g1 c1
    have d2 := gkc g1 c2
    have d3 := gkc g1 c3
    have G1 := gtrans g0 g1
    clear c0 c1 c2 c3 f0 f1 f2 f3
    go_wp2_with fail
    refine (hasPlace_any _ _ d k _ (H.out.grew G1)).mono ?_
    rintro e w2 ⟨rfl, g2⟩
    rw [hh]
    have G2 := gtrans G1 g2
    have hs1 := (gtrans g1 g2).size
    have Z2 := Z0.kept (gtrans g1 g2) (by simp)
    have S0 : WcS w2 w.heap.size (.int .i64 d.n) (.slice na d.m.length nc) := ⟨gkc g2 d0, gkc g2 d3⟩
    have e2 := gkc g2 d2
    clear d0 d1 d2 d3
    go_wp2_with (first | (go_at_call 35; refine (implValueOk_any _ _).mono ?_; rintro e w' ⟨rfl, rfl⟩))
    have hn2 := hn.grew (gdrew G2 1)
    go_region_held3 (fun w' => WcS w' w.heap.size (.int .i64 d.n) (.slice na d.m.length nc)) (first | assumption | exact S0.drew | exact WcS.kept ‹WcS _ _ _ _› ‹World.grownBy _ _ none›) (first | (go_at_call 83; refine (implCellOf_any _ _ _ _).mono ?_; rintro e w8 ⟨rfl, g8⟩; have hn8 := hn2.grew g8) | (go_at_call 82; refine (withCell_any _ _ d.m k _ _ _ hn8 hk1 (by omega)).mono ?_; rintro e w9 ⟨nv9, rfl, c9, g9⟩; obtain ⟨na9, nm9, nc9, rfl⟩ := c9.sl))
    have hs8 := g8.size
    simp at hs8
    have G9 : w2.grownBy w9 none := gtrans (gtrans (gdrew (grefl w2) 1) g8) g9
    have e2' := gkc G9 e2
    have S1 : WtS w9 w.heap.size (.int .i64 d.n) (.slice ka d.k.length kc) (w.heap.size + 1) := ⟨gkc G9 S0.1, e2', (Z2.kept G9 (by simp)).c0.live, (Z2.kept G9 (by simp)).c1.live, (Z2.kept G9 (by simp)).c2.live, (Z2.kept G9 (by simp)).c3.live⟩
    have hk9 := hk.grew (gdrew (gtrans G2 G9) 1)
    clear e2 e2'
    go_wp2_with fail
    go_region_held3 (fun w' => WtS w' w.heap.size (.int .i64 d.n) (.slice ka d.k.length kc) (w.heap.size + 1)) (first | assumption | exact S1.drew | exact WtS.kept ‹WtS _ _ _ _ _› ‹World.grownBy _ _ none› | exact WtS.set ‹WtS _ _ _ _ _› (by omega) _ _ _ _) (first | (go_at_call 79; refine (copied_any _ _ d.k _ hk9 (by omega)).mono ?_; rintro e w10 ⟨kv10, rfl, c10, g10⟩; obtain ⟨ka10, km10, kc10, rfl⟩ := c10.sl))
    have G10 : w9.grownBy w10 none := gtrans (gdrew (grefl w9) 1) g10
    have hs9 := G9.size
    simp at c10
    have c9' := c9.grew G10
    have ap := (fresh_apart c9 c10).symm
    obtain ⟨⟨z0, -⟩, ⟨z1, -⟩, ⟨z2, -⟩, ⟨z3, -⟩⟩ := Z2.kept (gtrans G9 G10) (by simp)
    have hR : NewD w (set4 w10 (w.heap.size + 1) (.int .i64 d.n) (.bool false) (.slice ka10 km10 kc10) (.slice na9 nm9 nc9)) (.slice ka10 km10 kc10) (.slice na9 nm9 nc9) { d with m := d.m.set k (cofV d.n k v, cofS d.n k v) } :=
      ⟨⟨(c10.lower (by omega)).set4 (not_own c10 (by omega)) _ _ _ _, (c9'.lower (by omega)).set4 (not_own c9' (by omega)) _ _ _ _⟩, ap, gset4 (gtrans G2 (gtrans G9 G10)) (by omega) _ _ _ _⟩
    clear S0 S1 hn2 hn8 hk9 c9 c10 c9' Z0 Z2
    go_wp2_with fail
    exact bodyPost_ret (v := .tuple #[.agg #[.int .i64 d.n, .bool false, .slice ka10 km10 kc10, .slice na9 nm9 nc9], .bool true]) (by simp [results, Try.results53, go_sem, z0, z1, z2, z3]) rfl ⟨_, _, by rw [hd.out], hR⟩
end Go.Proofs.Ytncmocdfdkacfaa
