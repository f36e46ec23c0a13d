/- Plain mathematics of chapter 3's laws; dead disks as values; a law's local disk, read only. -/
import Derived.Test.YteialkknddpbjaaGreatDoorImplL03
import Derived.Test.YteialkknddpbjaaGreatDoorLawL03c
import Derived.Test.YteialkknddpbjaaGreatDoorBaseL03
namespace Go.Proofs.YteialkknddpbjaaGreatDoor
open Go.ChangeShapes Go.WideShapes Go.ChangeAt Go.RowKit

theorem specDied_pure (kv nv : Value) (d : DZ) (w : World) (h : IsD w 0 kv nv d) :
    Calls Tryz.prog 165 #[.agg #[.int .i64 d.n, .bool d.dead, kv, nv]] w (Pure (.agg #[.int .i64 d.died.n, .bool d.died.dead, .slice none 0 0, .slice none 0 0]) w) := by
  have H := Lib.hid h
  obtain ⟨hk, hn⟩ := h
  obtain ⟨ka, km, kc, rfl⟩ := hk.sl
  obtain ⟨na, nm, nc, rfl⟩ := hn.sl
  have hb := boxed2 w (.int .i64 d.n) (.bool d.dead) (.slice ka km kc) (.slice na nm nc) 37
  cases hok : d.ok
  · rw [show d.died = .zero by simp [DZ.died, hok]]
    go_enter Tryz.func165, Tryz.ntmps165
    go_upto_region 1 with (fail)
    generalize (w.alloc (.cells #[.int .i64 d.n, .bool d.dead, .slice ka km kc, .slice na nm nc] 37)).alloc (.cells #[.int .i64 0, .bool false, .slice none 0 0, .slice none 0 0] 37) = W0 at *
    obtain ⟨B0, Z0, g0, s0⟩ := hb
    obtain ⟨⟨c0, f0⟩, ⟨c1, f1⟩, ⟨c2, f2⟩, ⟨c3, f3⟩⟩ := B0
    go_wp2_with fail
    refine (specDiskOk_any _ _ d _ (H.out.grew g0)).mono ?_
    rintro e w1 ⟨rfl, g1⟩
    rw [hok]
    obtain ⟨⟨z0, y0⟩, ⟨z1, y1⟩, ⟨z2, y2⟩, ⟨z3, y3⟩⟩ := Z0.kept g1 (by simp)
    go_wp2_with fail
    exact bodyPost_ret (v := .agg #[.int .i64 0, .bool false, .slice none 0 0, .slice none 0 0]) (by simp [results, Tryz.results165, go_sem, z0, z1, z2, z3]) rfl ⟨rfl, gset4 (gtrans g0 g1) (by omega) _ _ _ _⟩
  · rw [show d.died = ⟨d.n, true, [], []⟩ by simp [DZ.died, hok]]
    go_enter Tryz.func165, Tryz.ntmps165
    go_upto_region 1 with (fail)
    generalize (w.alloc (.cells #[.int .i64 d.n, .bool d.dead, .slice ka km kc, .slice na nm nc] 37)).alloc (.cells #[.int .i64 0, .bool false, .slice none 0 0, .slice none 0 0] 37) = W0 at *
    obtain ⟨B0, Z0, g0, s0⟩ := hb
    obtain ⟨⟨c0, f0⟩, ⟨c1, f1⟩, ⟨c2, f2⟩, ⟨c3, f3⟩⟩ := B0
    go_wp2_with fail
    refine (specDiskOk_any _ _ d _ (H.out.grew g0)).mono ?_
    rintro e w1 ⟨rfl, g1⟩
    rw [hok]
    obtain ⟨⟨z0, y0⟩, ⟨z1, y1⟩, ⟨z2, y2⟩, ⟨z3, y3⟩⟩ := Z0.kept g1 (by simp)
    have d0 := gkc g1 c0
    clear c0
    go_wp2_with fail
    exact bodyPost_ret (v := .agg #[.int .i64 d.n, .bool true, .slice none 0 0, .slice none 0 0]) (by simp [results, Tryz.results165, go_sem, z0, z1, z2, z3]) rfl ⟨rfl, gset4 (gtrans g0 g1) (by omega) _ _ _ _⟩
theorem implDied_pure (kv nv : Value) (d : DZ) (w : World) (h : IsD w 0 kv nv d) :
    Calls Tryz.prog 181 #[.agg #[.int .i64 d.n, .bool d.dead, kv, nv]] w (Pure (.agg #[.int .i64 d.died.n, .bool d.died.dead, .slice none 0 0, .slice none 0 0]) w) := by
  have H := Lib.hid h
  obtain ⟨hk, hn⟩ := h
  obtain ⟨ka, km, kc, rfl⟩ := hk.sl
  obtain ⟨na, nm, nc, rfl⟩ := hn.sl
  have hb := boxed2 w (.int .i64 d.n) (.bool d.dead) (.slice ka km kc) (.slice na nm nc) 37
  cases hok : d.ok
  · rw [show d.died = .zero by simp [DZ.died, hok]]
    go_enter Tryz.func181, Tryz.ntmps181
    go_upto_region 1 with (fail)
    generalize (w.alloc (.cells #[.int .i64 d.n, .bool d.dead, .slice ka km kc, .slice na nm nc] 37)).alloc (.cells #[.int .i64 0, .bool false, .slice none 0 0, .slice none 0 0] 37) = W0 at *
    obtain ⟨B0, Z0, g0, s0⟩ := hb
    obtain ⟨⟨c0, f0⟩, ⟨c1, f1⟩, ⟨c2, f2⟩, ⟨c3, f3⟩⟩ := B0
    go_wp2_with fail
    refine (implDiskOk_any _ _ d _ (H.out.grew g0)).mono ?_
    rintro e w1 ⟨rfl, g1⟩
    rw [hok]
    obtain ⟨⟨z0, y0⟩, ⟨z1, y1⟩, ⟨z2, y2⟩, ⟨z3, y3⟩⟩ := Z0.kept g1 (by simp)
    go_wp2_with fail
    exact bodyPost_ret (v := .agg #[.int .i64 0, .bool false, .slice none 0 0, .slice none 0 0]) (by simp [results, Tryz.results181, go_sem, z0, z1, z2, z3]) rfl ⟨rfl, gset4 (gtrans g0 g1) (by omega) _ _ _ _⟩
  · rw [show d.died = ⟨d.n, true, [], []⟩ by simp [DZ.died, hok]]
    go_enter Tryz.func181, Tryz.ntmps181
    go_upto_region 1 with (fail)
    generalize (w.alloc (.cells #[.int .i64 d.n, .bool d.dead, .slice ka km kc, .slice na nm nc] 37)).alloc (.cells #[.int .i64 0, .bool false, .slice none 0 0, .slice none 0 0] 37) = W0 at *
    obtain ⟨B0, Z0, g0, s0⟩ := hb
    obtain ⟨⟨c0, f0⟩, ⟨c1, f1⟩, ⟨c2, f2⟩, ⟨c3, f3⟩⟩ := B0
    go_wp2_with fail
    refine (implDiskOk_any _ _ d _ (H.out.grew g0)).mono ?_
    rintro e w1 ⟨rfl, g1⟩
    rw [hok]
    obtain ⟨⟨z0, y0⟩, ⟨z1, y1⟩, ⟨z2, y2⟩, ⟨z3, y3⟩⟩ := Z0.kept g1 (by simp)
    have d0 := gkc g1 c0
    clear c0
    go_wp2_with fail
    exact bodyPost_ret (v := .agg #[.int .i64 d.n, .bool true, .slice none 0 0, .slice none 0 0]) (by simp [results, Tryz.results181, go_sem, z0, z1, z2, z3]) rfl ⟨rfl, gset4 (gtrans g0 g1) (by omega) _ _ _ _⟩
/-- a local disk of a law, which is only read -/
structure Loc (W : World) (b : Nat) (d : DZ) (kv nv : Value) : Prop where
  b4 : Box4 W b (.int .i64 d.n) (.bool d.dead) kv nv
  isD : IsD W 0 kv nv d
section
variable {W W' : World} {b : Nat} {d : DZ} {kv nv : Value}
theorem Loc.kept (h : Loc W b d kv nv) (g : W.grownBy W' none) : Loc W' b d kv nv := ⟨h.b4.kept g, h.isD.grew g⟩
theorem Loc.new {w1 : World} {lo : Nat} (h : IsD w1 lo kv nv d) (T : Nat) : Loc (w1.alloc (.cells #[.int .i64 d.n, .bool d.dead, kv, nv] T)) w1.heap.size d kv nv :=
  ⟨Box4.new _ _ _ _ _ _, (IsD.grew ⟨h.1.lower (Nat.zero_le _), h.2.lower (Nat.zero_le _)⟩ (galloc (grefl _) _))⟩
end
theorem isD_died (w : World) (d : DZ) : IsD w 0 (.slice none 0 0) (.slice none 0 0) d.died := by
  have h : d.died.k = [] ∧ d.died.m = [] := by unfold DZ.died; split <;> simp [DZ.zero]
  unfold IsD; rw [h.1, h.2]; exact ⟨CS.nil _ _, CS.nil _ _⟩
theorem isD_zero (w : World) : IsD w 0 (.slice none 0 0) (.slice none 0 0) .zero := ⟨CS.nil _ _, CS.nil _ _⟩
theorem DZ.put_read {d : DZ} {p v : Int} (h : d.ok = true) (hm : d.may p v = true) : (d.put p v).canRead p = true ∧ (d.put p v).readV p = v := by
  have hok := DZ.put_ok h hm
  have hm' := hm
  simp only [DZ.may, Bool.and_eq_true, Bool.not_eq_true'] at hm'
  obtain ⟨hd, hh, hv⟩ := hm'
  have hh' : 0 ≤ p ∧ p < d.m.length := by simpa [DZ.has] using hh
  have hl := (d.ok_len h).2
  have hn := d.ok_n h
  have hs : ¬ sumZ d.n p v < 0 := by
    rw [sumZ_yes hn (inB_yes (by omega) (by omega)) hv]
    have := Int.emod_nonneg (31 * v + 1000 * p + 20000 * d.n) (show (65521 : Int) ≠ 0 by omega); omega
  obtain ⟨e1, e2, e3, _⟩ := cof_good hs
  have hc : (d.put p v).cell p = (v, sumZ d.n p v) := by
    simp only [DZ.put, hm, if_true, DZ.cell, e1, e2]
    rw [List.getD_eq_getElem?_getD, List.getElem?_set_self (by omega)]; rfl
  have hcan : (d.put p v).canRead p = true := by
    have hn' : (d.put p v).n = d.n := by simp [DZ.put, hm]
    have hd' : (d.put p v).dead = false := by simp [DZ.put, hm, hd]
    have hh2 : (d.put p v).has p = true := by simp [DZ.put, hm, DZ.has]; omega
    simp [DZ.canRead, DZ.can, hok, hn', hd', hh2, hc, e3]
  exact ⟨hcan, by rw [DZ.readV, hcan, hc]; rfl⟩
theorem DZ.canRead_at {d : DZ} {p : Int} (h : d.canRead p = true) : d.dead = false ∧ ∃ k : Nat, p = k ∧ ∃ hk : k < d.m.length, d.readV p = d.m[k].1 := by
  have h' := h
  simp only [DZ.canRead, DZ.can, Bool.and_eq_true, Bool.not_eq_true'] at h'
  have hh : 0 ≤ p ∧ p < d.m.length := by simpa [DZ.has] using h'.2.2.1
  refine ⟨h'.2.1, p.toNat, by omega, by omega, ?_⟩
  rw [DZ.readV, h, if_pos rfl, DZ.cell, List.getD_eq_getElem?_getD, List.getElem?_eq_getElem (by omega)]
  rfl
end Go.Proofs.YteialkknddpbjaaGreatDoor
