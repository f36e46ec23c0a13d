/- What the program's functions of chapter 3 return: crashes. -/
import Derived.Test.YteialkknddpbjaaGreatDoorImplL03
namespace Go.Proofs.YteialkknddpbjaaGreatDoor
open Go.ChangeShapes Go.WideShapes Go.ChangeAt Go.RowKit

theorem bit_and (s : Int) (k : Nat) (h0 : 0 ≤ s) (h9 : s ≤ 65535) (hk : k < 16) : (bits .and .i64 s (wrap64 (2 ^ k)) != 0) = bitOf s k := by
  obtain ⟨S, rfl⟩ := Int.eq_ofNat_of_zero_le h0
  have hb : bitOf (S : Int) k = S.testBit k := by
    unfold bitOf
    rw [show ((S : Int) / 2 ^ k) = ((S / 2 ^ k : Nat) : Int) by simp, Nat.testBit_eq_decide_div_mod_eq, Bool.eq_iff_iff]
    simp only [beq_iff_eq, decide_eq_true_eq]
    omega
  have t : ((S &&& 2 ^ k : Nat) != 0) = S.testBit k := by
    cases ht : S.testBit k
    · have : S &&& 2 ^ k = 0 := by
        apply Nat.eq_of_testBit_eq
        intro j
        rw [Nat.testBit_and, Nat.testBit_two_pow, Nat.zero_testBit]
        by_cases hj : k = j
        · subst hj; simp [ht]
        · simp [hj]
      simp [this]
    · rw [bne_iff_ne]
      intro e
      have := congrArg (fun x => x.testBit k) e
      simp [Nat.testBit_and, ht] at this
  have hp : 2 ^ k < 65537 := Nat.lt_of_le_of_lt (Nat.pow_le_pow_right (by omega) (show k ≤ 16 by omega)) (by omega)
  have hc : (2 ^ k : Int) = ((2 ^ k : Nat) : Int) := by simp
  rw [hb, ← t, hc]
  generalize 2 ^ k = P at *
  rw [show wrap64 (P : Int) = (P : Int) from IntWalk.wrap64_in (P : Int) (by omega)]
  have e1 : (BitVec.ofInt 64 (S : Int)).toNat = S := by rw [BitVec.toNat_ofInt]; omega
  have e2 : (BitVec.ofInt 64 (P : Int)).toNat = P := by rw [BitVec.toNat_ofInt]; omega
  have e3 : (BitVec.ofInt 64 (S : Int) &&& BitVec.ofInt 64 (P : Int)).toNat = S &&& P := by rw [BitVec.toNat_and, e1, e2]
  have le : S &&& P ≤ P := Nat.and_le_right
  have q : bits .and .i64 (S : Int) (P : Int) = ((S &&& P : Nat) : Int) := by
    show IntKind.i64.wrap _ = _
    rw [← e3]
    exact IntWalk.i64_in ((BitVec.ofInt 64 (S : Int) &&& BitVec.ofInt 64 (P : Int)).toNat : Int) (by omega)
  rw [q, Bool.eq_iff_iff]
  simp only [bne_iff_ne]
  omega
set_option maxHeartbeats 1000000 in
set_option maxRecDepth 4000 in
theorem afterCrash_any (kv nv : Value) (d : DZ) (s : Int) (w : World) (h : IsD w 0 kv nv d) (hs : 0 ≤ s) (hs9 : s ≤ 65535) (hl : Hid (d.k.length = d.m.length)) (hl2 : d.m.length ≤ 16) (hl3 : d.k.length ≤ 16) :
    Calls Tryz.prog 239 #[.agg #[.int .i64 d.n, .bool d.dead, kv, nv], .int .i64 s] w (GotC (fallL s d.k d.m) w) := by
  obtain ⟨hk, hn⟩ := h
  obtain ⟨ka, kc, rfl, km⟩ := hk.form
  obtain ⟨na, nc, rfl, nm⟩ := hn.form
  have hb := Box4.new w (.int .i64 d.n) (.bool d.dead) (.slice ka d.k.length kc) (.slice na d.m.length nc) 37
  have g0 := galloc (grefl w) (.cells #[.int .i64 d.n, .bool d.dead, .slice ka d.k.length kc, .slice na d.m.length nc] 37)
  go_enter Tryz.func239, Tryz.ntmps239
  go_upto_region 1 with (fail)
  have s0 : w.heap.size < (w.alloc (.cells #[.int .i64 d.n, .bool d.dead, .slice ka d.k.length kc, .slice na d.m.length nc] 37)).heap.size := by simp
  generalize w.alloc (.cells #[.int .i64 d.n, .bool d.dead, .slice ka d.k.length kc, .slice na d.m.length nc] 37) = W0 at *
  obtain ⟨c0, c1, c2, c3⟩ := hb
  go_wp2_with fail
  refine (copied_any _ _ d.k _ (hk.grew g0) (by omega)).mono ?_
  rintro e w1 ⟨v1, rfl, C1, g1⟩
  obtain ⟨va, vc, rfl, vm⟩ := C1.form
  have C1' : CS w1 W0.heap.size (.slice va d.k.length vc) (mixL s d.k d.m d.k 0) := by simpa [mixL] using C1
  have hs1 := g1.size
  have G1 := gtrans g0 g1
  clear c0 c1 c2
  go_wp2_with fail
  go_loopw [12] (fun i wr => ∃ k : Nat, k ≤ d.k.length ∧ i = .int .i64 k ∧ CS wr W0.heap.size (.slice va d.k.length vc) (mixL s d.k d.m d.k k) ∧ W0.grownBy wr none) (fun i _ => d.k.length - (intOf i).toNat)
  case atStart => exact ⟨0, Nat.zero_le _, rfl, C1', g1⟩
  case round =>
    obtain ⟨k, hkl, rfl, C, G⟩ := hrel
    have hll := hl.out
    by_cases hlt : k < d.k.length
    · have hlm : k < d.m.length := by omega
      have d3 := gkc G c3
      have hi1 : (k : Int) < d.m.length := by omega
      clear hll
      have hmg := mixL_get s d.k d.m d.k k hl.out hlm
      have hml := mixL_length s d.k d.m d.k k hl.out (by omega)
      obtain ⟨gv, rfl, hgv, _, t0, t1⟩ := C.at k (by rw [hml]; exact hlm)
      obtain ⟨gn, rfl, _, _, ⟨n0, _⟩, ⟨n1, _⟩⟩ := (hn.grew (gtrans g0 G)).at k hlm
      rw [hmg] at t0 t1
      have hfg := fallL_get s d.k d.m k hlm
      have hmk : d.m.getD k (0, 0) = d.m[k] := by simp [List.getD_eq_getElem?_getD, hlm]
      have hkk : d.k.getD k (0, 0) = d.k[k] := by simp [List.getD_eq_getElem?_getD, hlt]
      have hbt := bit_and s k hs hs9 (by omega)
      obtain ⟨x0, y0⟩ := t0
      obtain ⟨x1, y1⟩ := t1
      cases hbit : bitOf s k
      · rw [hbit] at hbt hfg
        rw [if_neg (by simp), hkk] at hfg
        have hSame := Lib.hid (mixL_same s d.k d.m d.k k hl.out hlm hfg)
        clear hmg hml hfg hmk hkk
        go_wp2_with fail
        go_roundw
        case rel => exact ⟨k + 1, by omega, by go_num, by rw [hSame.out]; exact C, G⟩
        case measure => simp [intOf]; omega
      · rw [hbit] at hbt hfg
        rw [if_pos rfl, hmk] at hfg
        have hSet := mixL_set s d.k d.m d.k k hl.out hlm
        rw [hfg] at hSet
        have C2 := CS.set C k (by rw [hml]; exact hlm) d.m[k].1 d.m[k].2
        rw [show (d.m[k].1, d.m[k].2) = d.m[k] from rfl, hSet] at C2
        clear hmg hml hfg hmk hkk hSet
        go_wp2_with fail
        go_roundw
        case rel => exact ⟨k + 1, by omega, by go_num, C2, gset1 (gset1 G hgv _ _) hgv _ _⟩
        case measure => simp [intOf]; omega
    · have hf := fallL_length s d.k d.m
      have h1 : mixL s d.k d.m d.k k = fallL s d.k d.m := by unfold mixL; rw [List.take_of_length_le (by omega), List.drop_of_length_le (by omega), List.append_nil]
      rw [h1] at C
      clear h1 hf hll
      go_wp2_with fail
      go_ret
      exact ⟨_, rfl, C.lower (by omega), gtrans g0 G⟩
set_option maxHeartbeats 1000000 in
theorem implFallen_any (kv nv : Value) (d : DZ) (s : Int) (w : World) (h : IsD w 0 kv nv d) :
    Calls Tryz.prog 173 #[.agg #[.int .i64 d.n, .bool d.dead, kv, nv], .int .i64 s] w (GotD (d.fallen s) w) := by
  have H := Lib.hid h
  obtain ⟨hk, hn⟩ := h
  obtain ⟨ka, kc, rfl, km⟩ := hk.form
  obtain ⟨na, nc, rfl, nm⟩ := hn.form
  have hb := boxed2 w (.int .i64 d.n) (.bool d.dead) (.slice ka d.k.length kc) (.slice na d.m.length nc) 37
  cases hok : d.ok
  · rw [show d.fallen s = .zero by simp [DZ.fallen, hok]]
    go_enter Tryz.func173, Tryz.ntmps173
    go_upto_region 1 with (fail)
    generalize (w.alloc (.cells #[.int .i64 d.n, .bool d.dead, .slice ka d.k.length kc, .slice na d.m.length nc] 37)).alloc (.cells #[.int .i64 0, .bool false, .slice none 0 0, .slice none 0 0] 37) = W0 at *
    obtain ⟨B0, Z0, g0, s0⟩ := hb
    obtain ⟨⟨c0, f0⟩, ⟨c1, f1⟩, ⟨c2, f2⟩, ⟨c3, f3⟩⟩ := B0
    go_wp2_with fail
    refine (implDiskOk_any _ _ d _ (H.out.grew g0)).mono ?_
    rintro e w1 ⟨rfl, g1⟩
    rw [hok]
    obtain ⟨⟨z0, y0⟩, ⟨z1, y1⟩, ⟨z2, y2⟩, ⟨z3, y3⟩⟩ := Z0.kept g1 (by simp)
    go_wp2_with fail
    exact bodyPost_ret (v := .agg #[.int .i64 0, .bool false, .slice none 0 0, .slice none 0 0]) (by simp [results, Tryz.results173, go_sem, z0, z1, z2, z3]) rfl ⟨_, _, rfl, newD_zero w (gset4 (gtrans g0 g1) (by omega) _ _ _ _)⟩
  have lk : d.k.length ≤ 16 := by have := d.ok_len hok; omega
  have lm : d.m.length ≤ 16 := (d.ok_len hok).2
  have hl := Lib.hid (d.ok_len hok).1
  cases hs : inB s 0 65535
  · rw [show d.fallen s = d by simp [DZ.fallen, hok, hs]]
    go_enter Tryz.func173, Tryz.ntmps173
    go_upto_region 1 with (fail)
    generalize (w.alloc (.cells #[.int .i64 d.n, .bool d.dead, .slice ka d.k.length kc, .slice na d.m.length nc] 37)).alloc (.cells #[.int .i64 0, .bool false, .slice none 0 0, .slice none 0 0] 37) = W0 at *
    obtain ⟨B0, Z0, g0, s0⟩ := hb
    obtain ⟨⟨c0, f0⟩, ⟨c1, f1⟩, ⟨c2, f2⟩, ⟨c3, f3⟩⟩ := B0
    go_wp2_with fail
    refine (implDiskOk_any _ _ d _ (H.out.grew g0)).mono ?_
    rintro e w1 ⟨rfl, g1⟩
    rw [hok]
    have d0 := gkc g1 c0
    have d1 := gkc g1 c1
    have d2 := gkc g1 c2
    have d3 := gkc g1 c3
    have G1 := gtrans g0 g1
    have hs1 := g1.size
    have Z1 := Z0.kept g1 (by simp)
    clear c0 c1 c2 c3 f0 f1 f2 f3
    go_wp2_with (first | (go_at_call 140; refine (between_any _ _ _ _).mono ?_; rintro e w' ⟨rfl, rfl⟩))
    refine (diskWith_any d.n d.dead _ _ _ _ _ _ d.k d.m _ (hk.grew G1) (hn.grew G1) (by omega) (by omega)).mono ?_
    rintro e w2 ⟨kv, nv, rfl, N2⟩
    obtain ⟨⟨z0, y0⟩, ⟨z1, y1⟩, ⟨z2, y2⟩, ⟨z3, y3⟩⟩ := Z1.kept N2.2.2 (by simp)
    have hR := N2.res G1 (r := w.heap.size + 1) (by omega) (by omega) (.int .i64 d.n) (.bool d.dead) kv nv
    obtain ⟨ka2, km2, kc2, rfl⟩ := N2.1.1.sl
    obtain ⟨na2, nm2, nc2, rfl⟩ := N2.1.2.sl
    clear d0 d1 d2 d3 N2
    go_wp2_with fail
    exact bodyPost_ret (v := .agg #[.int .i64 d.n, .bool d.dead, .slice ka2 km2 kc2, .slice na2 nm2 nc2]) (by simp [results, Tryz.results173, go_sem, z0, z1, z2, z3]) rfl ⟨_, _, rfl, hR⟩
  · rw [show d.fallen s = d.fall s by simp [DZ.fallen, hok, hs]]
    obtain ⟨hs0, hs9⟩ := inB_iff.1 hs
    have lf := Lib.hid (fallL_length s d.k d.m)
    go_enter Tryz.func173, Tryz.ntmps173
    go_upto_region 1 with (fail)
    generalize (w.alloc (.cells #[.int .i64 d.n, .bool d.dead, .slice ka d.k.length kc, .slice na d.m.length nc] 37)).alloc (.cells #[.int .i64 0, .bool false, .slice none 0 0, .slice none 0 0] 37) = W0 at *
    obtain ⟨B0, Z0, g0, s0⟩ := hb
    obtain ⟨⟨c0, f0⟩, ⟨c1, f1⟩, ⟨c2, f2⟩, ⟨c3, f3⟩⟩ := B0
    go_wp2_with fail
    refine (implDiskOk_any _ _ d _ (H.out.grew g0)).mono ?_
    rintro e w1 ⟨rfl, g1⟩
    rw [hok]
    have d0 := gkc g1 c0
    have d1 := gkc g1 c1
    have d2 := gkc g1 c2
    have d3 := gkc g1 c3
    have G1 := gtrans g0 g1
    have hs1 := g1.size
    have Z1 := Z0.kept g1 (by simp)
    clear c0 c1 c2 c3 f0 f1 f2 f3
    go_wp2_with (first | (go_at_call 140; refine (between_any _ _ _ _).mono ?_; rintro e w' ⟨rfl, rfl⟩))
    refine (afterCrash_any _ _ d s _ (H.out.grew G1) hs0 hs9 hl lm lk).mono ?_
    rintro e w2 ⟨v2, rfl, C2, g2⟩
    obtain ⟨va, vc, rfl, vm⟩ := C2.form
    have e0 := gkc g2 d0
    have e1 := gkc g2 d1
    have e2 := gkc g2 d2
    have e3 := gkc g2 d3
    have G2 := gtrans G1 g2
    have hs2 := g2.size
    have Z2 := Z1.kept g2 (by simp)
    have C2' := C2.lower (Nat.zero_le _)
    clear d0 d1 d2 d3
    go_wp2_with fail
    refine (diskWith_any d.n d.dead _ _ _ _ _ _ (fallL s d.k d.m) (fallL s d.k d.m) _ C2' C2' (by rw [lf.out]; omega) (by rw [lf.out]; omega)).mono ?_
    rintro e w3 ⟨kv, nv, rfl, N2⟩
    obtain ⟨⟨z0, y0⟩, ⟨z1, y1⟩, ⟨z2, y2⟩, ⟨z3, y3⟩⟩ := Z2.kept N2.2.2 (by simp)
    have hR := N2.res G2 (r := w.heap.size + 1) (by omega) (by omega) (.int .i64 d.n) (.bool d.dead) kv nv
    obtain ⟨ka2, km2, kc2, rfl⟩ := N2.1.1.sl
    obtain ⟨na2, nm2, nc2, rfl⟩ := N2.1.2.sl
    clear e0 e1 e2 e3 N2
    go_wp2_with fail
    exact bodyPost_ret (v := .agg #[.int .i64 d.n, .bool d.dead, .slice ka2 km2 kc2, .slice na2 nm2 nc2]) (by simp [results, Tryz.results173, go_sem, z0, z1, z2, z3]) rfl ⟨_, _, rfl, hR⟩
end Go.Proofs.YteialkknddpbjaaGreatDoor
