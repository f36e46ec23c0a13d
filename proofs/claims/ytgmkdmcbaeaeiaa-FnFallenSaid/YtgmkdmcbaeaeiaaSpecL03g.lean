/- What the specification's functions of chapter 3 return: crashes, deaths. -/
import Derived.Test.YtgmkdmcbaeaeiaaSpecL03f
namespace Go.Proofs.Ytgmkdmcbaeaeiaa
open Go.ChangeShapes Go.WideShapes Go.ChangeAt Go.RowKit

/-- a world in which only blocks of S, and new ones, may differ -/
structure Only (S : Nat → Prop) (w w' : World) : Prop where
  os : w'.os = w.os
  tape : w'.tape = w.tape
  output : w'.output = w.output
  size : w.heap.size ≤ w'.heap.size
  block : ∀ k, k < w.heap.size → ¬ S k → w'.heap[k]? = w.heap[k]?
section
variable {S S' : Nat → Prop} {w w' w2 : World}
theorem Only.refl (S : Nat → Prop) (w : World) : Only S w w := ⟨rfl, rfl, rfl, Nat.le_refl _, fun _ _ _ => rfl⟩
theorem Only.trans (h : Only S w w') (k : Only S w' w2) : Only S w w2 :=
  ⟨k.os.trans h.os, k.tape.trans h.tape, k.output.trans h.output, Nat.le_trans h.size k.size, fun i hi hn => (k.block i (Nat.lt_of_lt_of_le hi h.size) hn).trans (h.block i hi hn)⟩
theorem Only.of {r : Option Nat} (g : w.grownBy w' r) (hr : ∀ k, r = some k → S k) : Only S w w' := ⟨g.os, g.tape, g.output, g.size, fun k hk hn => g.block k hk (fun e => hn (hr k e.symm))⟩
theorem Only.mono (h : Only S w w') (hs : ∀ k, S k → S' k) : Only S' w w' := ⟨h.os, h.tape, h.output, h.size, fun k hk hn => h.block k hk (fun e => hn (hs k e))⟩
theorem Only.at {b o : Nat} {v : Value} (h : Only S w w') (hb : ¬ S b) (ha : At w b o v) : At w' b o v := by
  have hl := h.block b (cell_lt ha.1) hb
  exact ⟨(World.cell?_of_block (w := w) hl).trans ha.1, (World.frozen?_of_block (w := w) hl).trans ha.2⟩
theorem Only.grew {a : World} (h : Only S w w') (g : a.grownBy w none) (hs : ∀ k, S k → a.heap.size ≤ k) : a.grownBy w' none :=
  ⟨h.os.trans g.os, h.tape.trans g.tape, h.output.trans g.output, Nat.le_trans g.size h.size, fun i hi _ => (h.block i (Nat.lt_of_lt_of_le hi g.size) (fun e => by have := hs i e; omega)).trans (g.block i hi (by simp))⟩
theorem Zero4.only {r : Nat} (z : Zero4 w r) (h : Only S w w') (hr : ¬ S r) : Zero4 w' r := ⟨h.at hr z.c0, h.at hr z.c1, h.at hr z.c2, h.at hr z.c3⟩
end
/-- the blocks of two slices -/
def Two2 (kv nv : Value) (k : Nat) : Prop := kv.ownBlock = some k ∨ nv.ownBlock = some k

/-- the lists of a disk while it falls -/
def mixL (s : Int) (k m x : List (Int × Int)) (i : Nat) : List (Int × Int) := (fallL s k m).take i ++ x.drop i
theorem fallL_length (s : Int) (k m : List (Int × Int)) : (fallL s k m).length = m.length := by simp [fallL]
theorem fallL_get (s : Int) (k m : List (Int × Int)) (i : Nat) (h : i < m.length) : (fallL s k m)[i]'(by rw [fallL_length]; exact h) = if bitOf s i then m.getD i (0, 0) else k.getD i (0, 0) := by simp [fallL]
theorem mixL_length (s : Int) (k m x : List (Int × Int)) (i : Nat) (hx : x.length = m.length) (hi : i ≤ m.length) : (mixL s k m x i).length = m.length := by simp [mixL, fallL_length]; omega
theorem mixL_get (s : Int) (k m x : List (Int × Int)) (i : Nat) (hx : x.length = m.length) (hi : i < m.length) : (mixL s k m x i)[i]'(by rw [mixL_length s k m x i hx (by omega)]; exact hi) = x[i]'(by omega) := by
  simp only [mixL]
  rw [List.getElem_append_right (by simp [fallL_length]; omega)]
  simp [fallL_length, Nat.min_eq_left (Nat.le_of_lt hi)]
theorem mixL_set (s : Int) (k m x : List (Int × Int)) (i : Nat) (hx : x.length = m.length) (hi : i < m.length) : (mixL s k m x i).set i ((fallL s k m)[i]'(by rw [fallL_length]; exact hi)) = mixL s k m x (i + 1) := by
  have hf := fallL_length s k m
  have h1 : x.drop i = x[i]'(by omega) :: x.drop (i + 1) := by rw [List.drop_eq_getElem_cons]
  simp only [mixL]
  rw [List.set_append_right _ _ (by simp; omega), h1]
  rw [show i - ((fallL s k m).take i).length = 0 by simp; omega, List.set_cons_zero, List.take_succ_eq_append_getElem (by omega), List.append_assoc]
  rfl
theorem mixL_same (s : Int) (k m x : List (Int × Int)) (i : Nat) (hx : x.length = m.length) (hi : i < m.length) (he : (fallL s k m)[i]'(by rw [fallL_length]; exact hi) = x[i]'(by omega)) : mixL s k m x (i + 1) = mixL s k m x i := by
  rw [← mixL_set s k m x i hx hi, he, ← mixL_get s k m x i hx hi, List.set_getElem_self]
/-- what holds while one cell is moved -/
abbrev MvS (w' : World) (b : Nat) (x2 x3 : Value) (g o : Nat) (y0 y1 : Value) (h : Nat) : Prop := w'.cell? ⟨b, 2, none⟩ = some x2 ∧ w'.cell? ⟨b, 3, none⟩ = some x3 ∧ TwoO w' g o y0 y1 ∧ Live w' h o ∧ Live w' h (o + 1)
theorem MvS.drew {w' : World} {b g o h : Nat} {x2 x3 y0 y1 : Value} (H : MvS w' b x2 x3 g o y0 y1 h) : MvS w'.drew b x2 x3 g o y0 y1 h := H
theorem MvS.set {w' : World} {b g o h : Nat} {x2 x3 y0 y1 : Value} (H : MvS w' b x2 x3 g o y0 y1 h) (hb : h ≠ b) (hg : h ≠ g) (u v : Value) : MvS ((w'.setCell ⟨h, o, none⟩ u).setCell ⟨h, o + 1, none⟩ v) b x2 x3 g o y0 y1 h := by
  have hn : ∀ (W : World) (p q c : Nat) (x : Value), h ≠ c → (W.setCell ⟨h, p, none⟩ x).cell? ⟨c, q, none⟩ = W.cell? ⟨c, q, none⟩ := fun W p q c x hc => World.cell?_setCell_other W _ _ x (fun e => hc (by cases e; rfl))
  exact ⟨by rw [hn _ _ _ _ _ hb, hn _ _ _ _ _ hb]; exact H.1, by rw [hn _ _ _ _ _ hb, hn _ _ _ _ _ hb]; exact H.2.1, ⟨by rw [hn _ _ _ _ _ hg, hn _ _ _ _ _ hg]; exact H.2.2.1.1, by rw [hn _ _ _ _ _ hg, hn _ _ _ _ _ hg]; exact H.2.2.1.2⟩, (H.2.2.2.1.set _).set _, (H.2.2.2.2.set _).set _⟩
def FellS (b B : Nat) (d : DZ) (kv nv : Value) (w : World) (e : Ending) (w' : World) : Prop := e = .returned (.tuple #[]) ∧ DBox w' b B d kv nv ∧ Only (Two2 kv nv) w w'
set_option maxHeartbeats 2000000 in
theorem l3Fall_any (b B : Nat) (d : DZ) (kv nv : Value) (s : Int) (w : World) (h : DBox w b B d kv nv) (hs : 0 ≤ s) (_ : s ≤ 65535) (hl : d.k.length = d.m.length) (hl2 : d.m.length ≤ 16) :
    Calls Try.prog 65 #[.pointer (some ⟨b, 0, none⟩), .int .i64 s] w (FellS b B (d.fall s) kv nv w) := by
  go_enter Try.func65, Try.ntmps65
  go_wp2
  go_loopw [4] (fun i wr => ∃ k : Nat, k ≤ d.m.length ∧ i = .int .i64 k ∧ DBox wr b B { d with k := mixL s d.k d.m d.k k, m := mixL s d.k d.m d.m k } kv nv ∧ Only (Two2 kv nv) w wr) (fun i _ => d.m.length - (intOf i).toNat)
  case atStart => exact ⟨0, Nat.zero_le _, rfl, by simpa [mixL] using h, Only.refl _ _⟩
  case round =>
    obtain ⟨k, hk, rfl, D, O⟩ := hrel
    obtain ⟨na, nm, nc, rfl⟩ := D.ns.sl
    have hnm := D.ns.bound.1
    dsimp only at hnm
    rw [mixL_length _ _ _ _ _ rfl hk] at hnm
    subst hnm
    obtain ⟨c3, f3⟩ := D.c3
    by_cases hlt : k < d.m.length
    · obtain ⟨ka, km, kc, rfl⟩ := D.ks.sl
      have hkm := D.ks.bound.1
      dsimp only at hkm
      rw [mixL_length _ _ _ _ _ hl hk] at hkm
      subst hkm
      obtain ⟨c2, f2⟩ := D.c2
      have hlk : k < d.k.length := by omega
      obtain ⟨gn, rfl, _, _, n0, n1⟩ := D.ns.at k (by dsimp only; rw [mixL_length _ _ _ _ _ rfl hk]; exact hlt)
      obtain ⟨gk', rfl, _, _, k0, k1⟩ := D.ks.at k (by dsimp only; rw [mixL_length _ _ _ _ _ hl hk]; exact hlt)
      have hNg := mixL_get s d.k d.m d.m k rfl hlt
      have hKg := mixL_get s d.k d.m d.k k hl hlt
      dsimp only at n0 n1 k0 k1
      rw [hNg] at n0 n1
      rw [hKg] at k0 k1
      have hfg := fallL_get s d.k d.m k hlt
      have hmk : d.m.getD k (0, 0) = d.m[k] := by simp [List.getD_eq_getElem?_getD, hlt]
      have hkk : d.k.getD k (0, 0) = d.k[k]'hlk := by simp [List.getD_eq_getElem?_getD, hlk]
      have hkn : gk' ≠ gn := fun e => (D.ap.ne (g := gn) rfl) (by rw [e]; rfl)
      have hkb : gk' ≠ b := fun e => D.kb (by rw [e]; rfl)
      have hnb : gn ≠ b := fun e => D.nb (by rw [e]; rfl)
      have hi1 : (k : Int) < d.m.length := by omega
      have hbt : ((s / 2 ^ k).tmod 2 == 1) = bitOf s k := by
        unfold bitOf; rw [Int.tmod_eq_emod_of_nonneg (Int.ediv_nonneg hs (by exact_mod_cast Nat.zero_le (2 ^ k)))]
      clear hNg hKg
      cases hbit : bitOf s k
      · rw [hbit] at hbt hfg
        rw [if_neg (by simp), hkk] at hfg
        have hSame := mixL_same s d.k d.m d.k k hl hlt hfg
        have hSet := mixL_set s d.k d.m d.m k rfl hlt
        rw [hfg] at hSet
        have D2 := D.setN k (by dsimp only; rw [mixL_length _ _ _ _ _ rfl hk]; exact hlt) (d.k[k]'hlk).1 (d.k[k]'hlk).2
        dsimp only at D2
        rw [hSet, ← hSame] at D2
        have S0 : MvS wr b (.slice (some ⟨gk', 0, none⟩) d.m.length kc) (.slice (some ⟨gn, 0, none⟩) d.m.length nc) gk' (k * 2) _ _ gn := ⟨c2, c3, ⟨k0.1, k1.1⟩, n0.live, n1.live⟩
        have HD := Lib.hid D2
        clear hSet hSame hfg hmk hkk k0 k1 n0 n1 c2 f2 D2
        go_wp2_with fail
        go_region_held3 (fun w' => MvS w' b (.slice (some ⟨gk', 0, none⟩) d.m.length kc) (.slice (some ⟨gn, 0, none⟩) d.m.length nc) gk' (k * 2) (.int .i64 (d.k[k]'hlk).1) (.int .i64 (d.k[k]'hlk).2) gn) (first | assumption | exact S0.drew | exact MvS.set ‹MvS _ b _ _ gk' (k * 2) _ _ gn› hnb hkn.symm _ _) (fail)
        go_wp2_with fail
        go_roundw
        case rel => exact ⟨k + 1, by omega, by go_num, HD.out.kept (gdrew (grefl _) 1), O.trans (Only.of (gdrew (gset2 wr gn _ _ _ _) 1) (fun j e => .inr e))⟩
        case measure => simp [intOf]; omega
      · rw [hbit] at hbt hfg
        rw [if_pos rfl, hmk] at hfg
        have hSame := mixL_same s d.k d.m d.m k rfl hlt hfg
        have hSet := mixL_set s d.k d.m d.k k hl hlt
        rw [hfg] at hSet
        have D2 := D.setK k (by dsimp only; rw [mixL_length _ _ _ _ _ hl hk]; exact hlt) d.m[k].1 d.m[k].2
        dsimp only at D2
        rw [hSet, ← hSame] at D2
        have S0 : MvS wr b (.slice (some ⟨gk', 0, none⟩) d.m.length kc) (.slice (some ⟨gn, 0, none⟩) d.m.length nc) gn (k * 2) _ _ gk' := ⟨c2, c3, ⟨n0.1, n1.1⟩, k0.live, k1.live⟩
        have HD := Lib.hid D2
        clear hSet hSame hfg hmk hkk k0 k1 n0 n1 c2 f2 D2
        go_wp2_with fail
        go_region_held3 (fun w' => MvS w' b (.slice (some ⟨gk', 0, none⟩) d.m.length kc) (.slice (some ⟨gn, 0, none⟩) d.m.length nc) gn (k * 2) (.int .i64 d.m[k].1) (.int .i64 d.m[k].2) gk') (first | assumption | exact S0.drew | exact MvS.set ‹MvS _ b _ _ gn (k * 2) _ _ gk'› hkb hkn _ _) (fail)
        go_wp2_with fail
        go_roundw
        case rel => exact ⟨k + 1, by omega, by go_num, HD.out.kept (gdrew (grefl _) 1), O.trans (Only.of (gdrew (gset2 wr gk' _ _ _ _) 1) (fun j e => .inl e))⟩
        case measure => simp [intOf]; omega
    · obtain rfl : k = d.m.length := by omega
      have hf := fallL_length s d.k d.m
      have h1 : mixL s d.k d.m d.k d.m.length = fallL s d.k d.m := by unfold mixL; rw [List.take_of_length_le (by omega), List.drop_of_length_le (by omega), List.append_nil]
      have h2 : mixL s d.k d.m d.m d.m.length = fallL s d.k d.m := by unfold mixL; rw [List.take_of_length_le (by omega), List.drop_of_length_le (by omega), List.append_nil]
      rw [h1, h2] at D
      clear h1 h2 hf
      go_wp2_with fail
      go_end0
      exact ⟨rfl, D, O⟩
set_option maxHeartbeats 1000000 in
theorem specFallen_any (kv nv : Value) (d : DZ) (s : Int) (w : World) (h : IsD w 0 kv nv d) :
    Calls Try.prog 33 #[.agg #[.int .i64 d.n, .bool d.dead, kv, nv], .int .i64 s] w (GotD (d.fallen s) w) := by
  have H := Lib.hid h
  obtain ⟨hk, hn⟩ := h
  obtain ⟨ka, km, kc, rfl⟩ := hk.sl
  obtain ⟨na, nm, nc, rfl⟩ := hn.sl
  have hb := boxed2 w (.int .i64 d.n) (.bool d.dead) (.slice ka km kc) (.slice na nm nc) 26
  cases hok : d.ok
  · rw [show d.fallen s = .zero by simp [DZ.fallen, hok]]
    go_enter Try.func33, Try.ntmps33
    go_upto_region 1 with (fail)
    generalize (w.alloc (.cells #[.int .i64 d.n, .bool d.dead, .slice ka km kc, .slice na nm nc] 26)).alloc (.cells #[.int .i64 0, .bool false, .slice none 0 0, .slice none 0 0] 26) = W0 at *
    obtain ⟨B0, Z0, g0, s0⟩ := hb
    obtain ⟨⟨c0, f0⟩, ⟨c1, f1⟩, ⟨c2, f2⟩, ⟨c3, f3⟩⟩ := B0
    go_wp2_with fail
    refine (specDiskOk_any _ _ d _ (H.out.grew g0)).mono ?_
    rintro e w1 ⟨rfl, g1⟩
    rw [hok]
    obtain ⟨⟨z0, y0⟩, ⟨z1, y1⟩, ⟨z2, y2⟩, ⟨z3, y3⟩⟩ := Z0.kept g1 (by simp)
    go_wp2_with fail
    exact bodyPost_ret (v := .agg #[.int .i64 0, .bool false, .slice none 0 0, .slice none 0 0]) (by simp [results, Try.results33, go_sem, z0, z1, z2, z3]) rfl ⟨_, _, rfl, newD_zero w (gset4 (gtrans g0 g1) (by omega) _ _ _ _)⟩
  have hlen := d.ok_len hok
  cases hs : inB s 0 65535
  · rw [show d.fallen s = d by simp [DZ.fallen, hok, hs]]
    go_enter Try.func33, Try.ntmps33
    go_upto_region 1 with (fail)
    generalize (w.alloc (.cells #[.int .i64 d.n, .bool d.dead, .slice ka km kc, .slice na nm nc] 26)).alloc (.cells #[.int .i64 0, .bool false, .slice none 0 0, .slice none 0 0] 26) = W0 at *
    obtain ⟨B0, Z0, g0, s0⟩ := hb
    obtain ⟨⟨c0, f0⟩, ⟨c1, f1⟩, ⟨c2, f2⟩, ⟨c3, f3⟩⟩ := B0
    go_wp2_with fail
    refine (specDiskOk_any _ _ d _ (H.out.grew g0)).mono ?_
    rintro e w1 ⟨rfl, g1⟩
    rw [hok]
    have d0 := gkc g1 c0
    have d1 := gkc g1 c1
    have d2 := gkc g1 c2
    have d3 := gkc g1 c3
    have G1 := gtrans g0 g1
    have Z1 := Z0.kept g1 (by simp)
    have hs1 := g1.size
    clear c0 c1 c2 c3 f0 f1 f2 f3
    go_wp2_with fail
    refine (l3Copy_any _ _ d _ (H.out.grew G1) (by omega) (by omega)).mono ?_
    rintro e w2 ⟨kv2, nv2, rfl, h2, ap, g2⟩
    have hs2 := g2.size
    have D2 := DBox.boxed h2 ap 26
    have e2 := galloc g2 (.cells #[.int .i64 d.n, .bool d.dead, kv2, nv2] 26)
    have G2 := gtrans G1 e2
    have Z2 := Z1.kept e2 (by simp)
    have Zw := Z1.kept g2 (by simp)
    have hkr : kv2.ownBlock ≠ some (w.heap.size + 1) := not_own h2.1 (by omega)
    have hnr : nv2.ownBlock ≠ some (w.heap.size + 1) := not_own h2.2 (by omega)
    obtain ⟨ka2, km2, kc2, rfl⟩ := h2.1.sl
    obtain ⟨na2, nm2, nc2, rfl⟩ := h2.2.sl
    clear e2 d0 d1 d2 d3 Z1 Z0
    clear Zw
    go_upto_region 4 with (fail)
    generalize w2.alloc (.cells #[.int .i64 d.n, .bool d.dead, .slice ka2 km2 kc2, .slice na2 nm2 nc2] 26) = W2 at *
    generalize w2.heap.size = b2 at *
    have hR := D2.res G2 (r := w.heap.size + 1) (by omega) (by omega) hkr hnr (.int .i64 d.n) (.bool d.dead) (.slice ka2 km2 kc2) (.slice na2 nm2 nc2)
    obtain ⟨⟨z0, y0⟩, ⟨z1, y1⟩, ⟨z2, y2⟩, ⟨z3, y3⟩⟩ := Z2
    obtain ⟨c0, f0⟩ := D2.c0
    obtain ⟨c1, f1⟩ := D2.c1
    obtain ⟨c2, f2⟩ := D2.c2
    obtain ⟨c3, f3⟩ := D2.c3
    clear hkr hnr h2 D2
    go_wp2_with (first | (go_at_call 60; refine (l1In_any _ _ _ _).mono ?_; rintro e w' ⟨rfl, rfl⟩))
    exact bodyPost_ret (v := .agg #[.int .i64 d.n, .bool d.dead, .slice ka2 km2 kc2, .slice na2 nm2 nc2]) (by simp [results, Try.results33, go_sem, z0, z1, z2, z3]) rfl ⟨_, _, rfl, hR⟩
  · rw [show d.fallen s = d.fall s by simp [DZ.fallen, hok, hs]]
    obtain ⟨hs0, hs9⟩ := inB_iff.1 hs
    go_enter Try.func33, Try.ntmps33
    go_upto_region 1 with (fail)
    generalize (w.alloc (.cells #[.int .i64 d.n, .bool d.dead, .slice ka km kc, .slice na nm nc] 26)).alloc (.cells #[.int .i64 0, .bool false, .slice none 0 0, .slice none 0 0] 26) = W0 at *
    obtain ⟨B0, Z0, g0, s0⟩ := hb
    obtain ⟨⟨c0, f0⟩, ⟨c1, f1⟩, ⟨c2, f2⟩, ⟨c3, f3⟩⟩ := B0
    go_wp2_with fail
    refine (specDiskOk_any _ _ d _ (H.out.grew g0)).mono ?_
    rintro e w1 ⟨rfl, g1⟩
    rw [hok]
    have d0 := gkc g1 c0
    have d1 := gkc g1 c1
    have d2 := gkc g1 c2
    have d3 := gkc g1 c3
    have G1 := gtrans g0 g1
    have Z1 := Z0.kept g1 (by simp)
    have hs1 := g1.size
    clear c0 c1 c2 c3 f0 f1 f2 f3
    go_wp2_with fail
    refine (l3Copy_any _ _ d _ (H.out.grew G1) (by omega) (by omega)).mono ?_
    rintro e w2 ⟨kv2, nv2, rfl, h2, ap, g2⟩
    have hs2 := g2.size
    have D2 := DBox.boxed h2 ap 26
    have e2 := galloc g2 (.cells #[.int .i64 d.n, .bool d.dead, kv2, nv2] 26)
    have G2 := gtrans G1 e2
    have Z2 := Z1.kept e2 (by simp)
    have Zw := Z1.kept g2 (by simp)
    have hkr : kv2.ownBlock ≠ some (w.heap.size + 1) := not_own h2.1 (by omega)
    have hnr : nv2.ownBlock ≠ some (w.heap.size + 1) := not_own h2.2 (by omega)
    obtain ⟨ka2, km2, kc2, rfl⟩ := h2.1.sl
    obtain ⟨na2, nm2, nc2, rfl⟩ := h2.2.sl
    clear e2 d0 d1 d2 d3 Z1 Z0
    go_wp2_with (first | (go_at_call 60; refine (l1In_any _ _ _ _).mono ?_; rintro e w' ⟨rfl, rfl⟩))
    refine (l3Fall_any _ _ d _ _ s _ D2 hs0 hs9 (by omega) (by omega)).mono ?_
    rintro e w3 ⟨rfl, D3, O3⟩
    have G3 := O3.grew G2 (fun k e => by rcases e with e | e; have := (h2.1.lt k e).1; omega; have := (h2.2.lt k e).1; omega)
    have Z3 := Z2.only O3 (fun e => by rcases e with e | e; exact hkr e; exact hnr e)
    have hR := D3.res G3 (r := w.heap.size + 1) (by omega) (by omega) hkr hnr (.int .i64 d.n) (.bool d.dead) (.slice ka2 km2 kc2) (.slice na2 nm2 nc2)
    obtain ⟨⟨z0, y0⟩, ⟨z1, y1⟩, ⟨z2, y2⟩, ⟨z3, y3⟩⟩ := Z3
    obtain ⟨c0, f0⟩ := D3.c0
    obtain ⟨c1, f1⟩ := D3.c1
    obtain ⟨c2, f2⟩ := D3.c2
    obtain ⟨c3, f3⟩ := D3.c3
    clear hkr hnr h2
    (try dsimp only [DZ.fall] at c0 c1)
    go_wp2_with fail
    exact bodyPost_ret (v := .agg #[.int .i64 d.n, .bool d.dead, .slice ka2 km2 kc2, .slice na2 nm2 nc2]) (by simp [results, Try.results33, go_sem, z0, z1, z2, z3]) rfl ⟨_, _, rfl, hR⟩
theorem specDied_any (kv nv : Value) (d : DZ) (w : World) (h : IsD w 0 kv nv d) :
    Calls Try.prog 25 #[.agg #[.int .i64 d.n, .bool d.dead, kv, nv]] w (GotD d.died w) := by
  have H := Lib.hid h
  obtain ⟨hk, hn⟩ := h
  obtain ⟨ka, km, kc, rfl⟩ := hk.sl
  obtain ⟨na, nm, nc, rfl⟩ := hn.sl
  have hb := boxed2 w (.int .i64 d.n) (.bool d.dead) (.slice ka km kc) (.slice na nm nc) 26
  cases hok : d.ok
  · rw [show d.died = .zero by simp [DZ.died, hok]]
    go_enter Try.func25, Try.ntmps25
    go_upto_region 1 with (fail)
    generalize (w.alloc (.cells #[.int .i64 d.n, .bool d.dead, .slice ka km kc, .slice na nm nc] 26)).alloc (.cells #[.int .i64 0, .bool false, .slice none 0 0, .slice none 0 0] 26) = W0 at *
    obtain ⟨B0, Z0, g0, s0⟩ := hb
    obtain ⟨⟨c0, f0⟩, ⟨c1, f1⟩, ⟨c2, f2⟩, ⟨c3, f3⟩⟩ := B0
    go_wp2_with fail
    refine (specDiskOk_any _ _ d _ (H.out.grew g0)).mono ?_
    rintro e w1 ⟨rfl, g1⟩
    rw [hok]
    obtain ⟨⟨z0, y0⟩, ⟨z1, y1⟩, ⟨z2, y2⟩, ⟨z3, y3⟩⟩ := Z0.kept g1 (by simp)
    go_wp2_with fail
    exact bodyPost_ret (v := .agg #[.int .i64 0, .bool false, .slice none 0 0, .slice none 0 0]) (by simp [results, Try.results25, go_sem, z0, z1, z2, z3]) rfl ⟨_, _, rfl, newD_zero w (gset4 (gtrans g0 g1) (by omega) _ _ _ _)⟩
  · rw [show d.died = ⟨d.n, true, [], []⟩ by simp [DZ.died, hok]]
    go_enter Try.func25, Try.ntmps25
    go_upto_region 1 with (fail)
    generalize (w.alloc (.cells #[.int .i64 d.n, .bool d.dead, .slice ka km kc, .slice na nm nc] 26)).alloc (.cells #[.int .i64 0, .bool false, .slice none 0 0, .slice none 0 0] 26) = W0 at *
    obtain ⟨B0, Z0, g0, s0⟩ := hb
    obtain ⟨⟨c0, f0⟩, ⟨c1, f1⟩, ⟨c2, f2⟩, ⟨c3, f3⟩⟩ := B0
    go_wp2_with fail
    refine (specDiskOk_any _ _ d _ (H.out.grew g0)).mono ?_
    rintro e w1 ⟨rfl, g1⟩
    rw [hok]
    obtain ⟨⟨z0, y0⟩, ⟨z1, y1⟩, ⟨z2, y2⟩, ⟨z3, y3⟩⟩ := Z0.kept g1 (by simp)
    have d0 := gkc g1 c0
    clear c0
    go_wp2_with fail
    exact bodyPost_ret (v := .agg #[.int .i64 d.n, .bool true, .slice none 0 0, .slice none 0 0]) (by simp [results, Try.results25, go_sem, z0, z1, z2, z3]) rfl ⟨_, _, rfl, ⟨CS.nil _ _, CS.nil _ _⟩, .inl rfl, gset4 (gtrans g0 g1) (by omega) _ _ _ _⟩
end Go.Proofs.Ytgmkdmcbaeaeiaa
