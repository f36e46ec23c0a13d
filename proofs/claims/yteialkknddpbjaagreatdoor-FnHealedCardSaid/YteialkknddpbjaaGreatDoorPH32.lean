/- Plain mathematics of chapter 3's laws; dead disks as values; a law's local disk, read only. -/
import Derived.Test.YteialkknddpbjaaGreatDoorPH10
import Derived.Test.YteialkknddpbjaaGreatDoorPH06
import Derived.Test.YteialkknddpbjaaGreatDoorPH13
namespace Go.Proofs.YteialkknddpbjaaGreatDoor
open Go.ChangeShapes Go.WideShapes Go.ChangeAt Go.RowKit

theorem likeCells_yes (a1 a2 : Option Addr) (c1 c2 : Nat) (l : List (Int × Int)) (w : World) (h1 : CS w 0 (.slice a1 l.length c1) l) (h2 : CS w 0 (.slice a2 l.length c2) l) :
    Calls Tryz.prog 229 #[.slice a1 l.length c1, .slice a2 l.length c2] w (Pure (.bool true) w) := by
  have hm := h1.bound.2
  go_enter Tryz.func229, Tryz.ntmps229
  go_wp2
  go_loopw [5] (fun i wr => ∃ k : Nat, k ≤ l.length ∧ i = .int .i64 k ∧ w.grownBy wr none) (fun i _ => l.length - (intOf i).toNat)
  case atStart => exact ⟨0, Nat.zero_le _, rfl, grefl _⟩
  case round =>
    obtain ⟨k, hk, rfl, G⟩ := hrel
    by_cases hlt : k < l.length
    · obtain ⟨g1, rfl, _, _, ⟨p0, _⟩, ⟨p1, _⟩⟩ := (h1.grew G).at k hlt
      obtain ⟨g2, rfl, _, _, ⟨q0, _⟩, ⟨q1, _⟩⟩ := (h2.grew G).at k hlt
      have hi1 : (k : Int) < l.length := by omega
      have S0 : TwoO wr g1 (k * 2) (.int .i64 l[k].1) (.int .i64 l[k].2) ∧ TwoO wr g2 (k * 2) (.int .i64 l[k].1) (.int .i64 l[k].2) ∧ w.grownBy wr none := ⟨⟨p0, p1⟩, ⟨q0, q1⟩, G⟩
      clear p0 p1 q0 q1
      go_wp2_with fail
      refine region_calm (fun w' => TwoO w' g1 (k * 2) (.int .i64 l[k].1) (.int .i64 l[k].2) ∧ TwoO w' g2 (k * 2) (.int .i64 l[k].1) (.int .i64 l[k].2) ∧ w.grownBy w' none) (by kernel_rfl) (by kernel_rfl) (⟨S0.1, S0.2.1, gdrew S0.2.2 1⟩) ?_
      repeat (first
        | (refine calm_skip (by rfl) ?_; simp only [Act.put, List.setIfInBounds_toArray, List.set_cons_zero, List.set_cons_succ])
        | (refine calm_step (by rfl) ?_
           apply Exists.intro
           refine ⟨fun w' hw' => ?_, ?_⟩
           · go_simp
             first | done | exact rfl 
           simp only [Act.put, List.setIfInBounds_toArray, List.set_cons_zero, List.set_cons_succ]))
      refine calm_nil ?_
      intro w9 hw9
      go_wp2_with fail
      go_roundw
      case rel => exact ⟨k + 1, by omega, by go_num, hw9.2.2⟩
      case measure => simp [intOf]; omega
    · go_wp2_with fail
      go_ret
      exact ⟨rfl, G⟩
set_option maxHeartbeats 1000000 in
theorem likeDisk_yes (kv nv ku nu : Value) (d : DZ) (w : World) (h1 : IsD w 0 kv nv d) (h2 : IsD w 0 ku nu d) :
    Calls Tryz.prog 147 #[.agg #[.int .i64 d.n, .bool d.dead, kv, nv], .agg #[.int .i64 d.n, .bool d.dead, ku, nu]] w (Pure (.bool true) w) := by
  obtain ⟨n, dead, kl, nl⟩ := d
  obtain ⟨hk1, hn1⟩ := h1
  obtain ⟨hk2, hn2⟩ := h2
  dsimp only at *
  obtain ⟨ka, kc, rfl, _⟩ := hk1.form
  obtain ⟨na, nc, rfl, _⟩ := hn1.form
  obtain ⟨kb, kd, rfl, _⟩ := hk2.form
  obtain ⟨nb, nd, rfl, _⟩ := hn2.form
  have g0 : w.grownBy ((w.alloc (.cells #[.int .i64 n, .bool dead, .slice ka kl.length kc, .slice na nl.length nc] 37)).alloc (.cells #[.int .i64 n, .bool dead, .slice kb kl.length kd, .slice nb nl.length nd] 37)) none := galloc (galloc (grefl _) _) _
  have B1 : Box4 ((w.alloc (.cells #[.int .i64 n, .bool dead, .slice ka kl.length kc, .slice na nl.length nc] 37)).alloc (.cells #[.int .i64 n, .bool dead, .slice kb kl.length kd, .slice nb nl.length nd] 37)) w.heap.size (.int .i64 n) (.bool dead) (.slice ka kl.length kc) (.slice na nl.length nc) := by simp [Box4, go_sem]
  have B2 : Box4 ((w.alloc (.cells #[.int .i64 n, .bool dead, .slice ka kl.length kc, .slice na nl.length nc] 37)).alloc (.cells #[.int .i64 n, .bool dead, .slice kb kl.length kd, .slice nb nl.length nd] 37)) (w.heap.size + 1) (.int .i64 n) (.bool dead) (.slice kb kl.length kd) (.slice nb nl.length nd) := by simp [Box4, go_sem]
  go_enter Tryz.func147, Tryz.ntmps147
  go_upto_region 1 with (fail)
  generalize (w.alloc (.cells #[.int .i64 n, .bool dead, .slice ka kl.length kc, .slice na nl.length nc] 37)).alloc (.cells #[.int .i64 n, .bool dead, .slice kb kl.length kd, .slice nb nl.length nd] 37) = W0 at *
  have HB1 := Lib.hid B1
  have HB2 := Lib.hid B2
  obtain ⟨a0, a1, a2, a3⟩ := B1
  obtain ⟨b0, b1, b2, b3⟩ := B2
  go_wp2_with fail
  refine (likeCells_yes _ _ _ _ kl _ (hk1.grew g0) (hk2.grew g0)).mono ?_
  rintro e w1 ⟨rfl, g1⟩
  clear a0 a1 a2 a3 b0 b1 b2 b3
  obtain ⟨a0, a1, a2, a3⟩ := HB1.out.kept g1
  obtain ⟨b0, b1, b2, b3⟩ := HB2.out.kept g1
  have G1 := gtrans g0 g1
  go_wp2_with fail
  refine (likeCells_yes _ _ _ _ nl _ (hn1.grew G1) (hn2.grew G1)).mono ?_
  rintro e w2 ⟨rfl, g2⟩
  go_wp2_with fail
  go_ret
  exact ⟨rfl, gtrans G1 g2⟩
end Go.Proofs.YteialkknddpbjaaGreatDoor

namespace Go.Proofs.YteialkknddpbjaaGreatDoor
open Go.ChangeShapes Go.WideShapes Go.ChangeAt Go.RowKit

theorem specDied_pure (kv nv : Value) (d : DZ) (w : World) (h : IsD w 0 kv nv d) :
    Calls Tryz.prog 165 #[.agg #[.int .i64 d.n, .bool d.dead, kv, nv]] w (Pure (.agg #[.int .i64 d.died.n, .bool d.died.dead, .slice none 0 0, .slice none 0 0]) w) := by
  have H := Lib.hid h
  obtain ⟨hk, hn⟩ := h
  obtain ⟨ka, km, kc, rfl⟩ := hk.sl
  obtain ⟨na, nm, nc, rfl⟩ := hn.sl
  have hb := boxed2 w (.int .i64 d.n) (.bool d.dead) (.slice ka km kc) (.slice na nm nc) 37
  cases hok : d.ok
  · rw [show d.died = .zero by simp [DZ.died, hok]]
    go_enter Tryz.func165, Tryz.ntmps165
    go_upto_region 1 with (fail)
    generalize (w.alloc (.cells #[.int .i64 d.n, .bool d.dead, .slice ka km kc, .slice na nm nc] 37)).alloc (.cells #[.int .i64 0, .bool false, .slice none 0 0, .slice none 0 0] 37) = W0 at *
    obtain ⟨B0, Z0, g0, s0⟩ := hb
    obtain ⟨⟨c0, f0⟩, ⟨c1, f1⟩, ⟨c2, f2⟩, ⟨c3, f3⟩⟩ := B0
    go_wp2_with fail
    refine (specDiskOk_any _ _ d _ (H.out.grew g0)).mono ?_
    rintro e w1 ⟨rfl, g1⟩
    rw [hok]
    obtain ⟨⟨z0, y0⟩, ⟨z1, y1⟩, ⟨z2, y2⟩, ⟨z3, y3⟩⟩ := Z0.kept g1 (by simp)
    go_wp2_with fail
    exact bodyPost_ret (v := .agg #[.int .i64 0, .bool false, .slice none 0 0, .slice none 0 0]) (by simp [results, Tryz.results165, go_sem, z0, z1, z2, z3]) rfl ⟨rfl, gset4 (gtrans g0 g1) (by omega) _ _ _ _⟩
  · rw [show d.died = ⟨d.n, true, [], []⟩ by simp [DZ.died, hok]]
    go_enter Tryz.func165, Tryz.ntmps165
    go_upto_region 1 with (fail)
    generalize (w.alloc (.cells #[.int .i64 d.n, .bool d.dead, .slice ka km kc, .slice na nm nc] 37)).alloc (.cells #[.int .i64 0, .bool false, .slice none 0 0, .slice none 0 0] 37) = W0 at *
    obtain ⟨B0, Z0, g0, s0⟩ := hb
    obtain ⟨⟨c0, f0⟩, ⟨c1, f1⟩, ⟨c2, f2⟩, ⟨c3, f3⟩⟩ := B0
    go_wp2_with fail
    refine (specDiskOk_any _ _ d _ (H.out.grew g0)).mono ?_
    rintro e w1 ⟨rfl, g1⟩
    rw [hok]
    obtain ⟨⟨z0, y0⟩, ⟨z1, y1⟩, ⟨z2, y2⟩, ⟨z3, y3⟩⟩ := Z0.kept g1 (by simp)
    have d0 := gkc g1 c0
    clear c0
    go_wp2_with fail
    exact bodyPost_ret (v := .agg #[.int .i64 d.n, .bool true, .slice none 0 0, .slice none 0 0]) (by simp [results, Tryz.results165, go_sem, z0, z1, z2, z3]) rfl ⟨rfl, gset4 (gtrans g0 g1) (by omega) _ _ _ _⟩
/-- a local disk of a law, which is only read -/
structure Loc (W : World) (b : Nat) (d : DZ) (kv nv : Value) : Prop where
  b4 : Box4 W b (.int .i64 d.n) (.bool d.dead) kv nv
  isD : IsD W 0 kv nv d
section
variable {W W' : World} {b : Nat} {d : DZ} {kv nv : Value}
theorem Loc.kept (h : Loc W b d kv nv) (g : W.grownBy W' none) : Loc W' b d kv nv := ⟨h.b4.kept g, h.isD.grew g⟩
theorem Loc.new {w1 : World} {lo : Nat} (h : IsD w1 lo kv nv d) (T : Nat) : Loc (w1.alloc (.cells #[.int .i64 d.n, .bool d.dead, kv, nv] T)) w1.heap.size d kv nv :=
  ⟨Box4.new _ _ _ _ _ _, (IsD.grew ⟨h.1.lower (Nat.zero_le _), h.2.lower (Nat.zero_le _)⟩ (galloc (grefl _) _))⟩
end
theorem DZ.put_read {d : DZ} {p v : Int} (h : d.ok = true) (hm : d.may p v = true) : (d.put p v).canRead p = true ∧ (d.put p v).readV p = v := by
  have hok := DZ.put_ok h hm
  have hm' := hm
  simp only [DZ.may, Bool.and_eq_true, Bool.not_eq_true'] at hm'
  obtain ⟨hd, hh, hv⟩ := hm'
  have hh' : 0 ≤ p ∧ p < d.m.length := by simpa [DZ.has] using hh
  have hl := (d.ok_len h).2
  have hn := d.ok_n h
  have hs : ¬ sumZ d.n p v < 0 := by
    rw [sumZ_yes hn (inB_yes (by omega) (by omega)) hv]
    have := Int.emod_nonneg (31 * v + 1000 * p + 20000 * d.n) (show (65521 : Int) ≠ 0 by omega); omega
  obtain ⟨e1, e2, e3, _⟩ := cof_good hs
  have hc : (d.put p v).cell p = (v, sumZ d.n p v) := by
    simp only [DZ.put, hm, if_true, DZ.cell, e1, e2]
    rw [List.getD_eq_getElem?_getD, List.getElem?_set_self (by omega)]; rfl
  have hcan : (d.put p v).canRead p = true := by
    have hn' : (d.put p v).n = d.n := by simp [DZ.put, hm]
    have hd' : (d.put p v).dead = false := by simp [DZ.put, hm, hd]
    have hh2 : (d.put p v).has p = true := by simp [DZ.put, hm, DZ.has]; omega
    simp [DZ.canRead, DZ.can, hok, hn', hd', hh2, hc, e3]
  exact ⟨hcan, by rw [DZ.readV, hcan, hc]; rfl⟩
end Go.Proofs.YteialkknddpbjaaGreatDoor
