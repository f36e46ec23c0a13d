/- The laws' own helpers over disks: what came in, copied. The laws' own helpers over disks: compared, marked, held. -/
import Derived.Test.YteialkknddpbjaaGreatDoorSpecL03g
import Derived.Test.YteialkknddpbjaaGreatDoorBaseL02
namespace Go.Proofs.YteialkknddpbjaaGreatDoor
open Go.ChangeShapes Go.WideShapes Go.ChangeAt Go.RowKit

theorem made_cells (n : Nat) : (madeCells cellE.z.cells (n * 2)).toList = cellE.all (List.replicate n ((0 : Int), (0 : Int))) := by
  apply List.ext_getElem?
  intro i
  by_cases hi : i < n * 2
  · have h1 : cellE.size = 2 := rfl
    have h2 := cellE.all_get (List.replicate n ((0 : Int), (0 : Int))) (i / 2) (i % 2) (by simp; omega) (by rw [h1]; omega)
    rw [h1, show i / 2 * 2 + i % 2 = i by omega] at h2
    rw [h2]
    simp [madeCells, hi]
    rcases (show i % 2 = 0 ∨ i % 2 = 1 by omega) with e | e <;> simp [e, cellE, Value.cells]
  · rw [List.getElem?_eq_none (by rw [Array.length_toList, size_madeCells]; omega), List.getElem?_eq_none (by rw [Elt.all_length]; simp [cellE]; omega)]
/-- the cells of a slice that was just made -/
def zeros (n : Nat) : Array Value := madeCells cellE.z.cells (n * 2)
theorem make_cells (n : Nat) (hn : n ≤ 1048576) (w : World) : (Instr.makeSlice 35 (.int .i64 n) (.int .i64 n)).run Tryz.prog w = .ok (.slice (some ⟨w.heap.size, 0, none⟩) n n) (w.alloc (.cells (zeros n) 59)) := by
  obtain ⟨i, hi, hz, h1, h2⟩ := info_parts cellE.info
  have hr := run_make (P := Tryz.prog) w cellE.S cellE.T i cellE.z cellE.und hi hz .i64 .i64 n n (by omega) (by omega) (by rw [h2]; show (16 : Int) * n ≤ _; omega) (by omega)
  rw [h1] at hr
  simp only [Int.toNat_natCast] at hr
  exact hr
theorem CS.made (w : World) (n : Nat) (hn : n ≤ 1048576) {base : Nat} (hb : base ≤ w.heap.size) : CS (w.alloc (.cells (zeros n) 59)) base (.slice (some ⟨w.heap.size, 0, none⟩) n n) (List.replicate n (0, 0)) := by
  have := Own.fresh cellE w (List.replicate n ((0 : Int), (0 : Int))) _ (made_cells n) (by simp; omega) hb
  rw [List.length_replicate] at this
  exact this
/-- cells that came in -/
def InCells (w : World) (a : Option Addr) (len : Nat) (l : List (Int × Int)) : Prop :=
  len = l.length ∧ l.length ≤ 9223372036854775807 ∧ (l = [] ∨ ∃ b o, a = some ⟨b, o, none⟩ ∧ b < w.heap.size ∧ ∀ i (h : i < l.length), w.cell? ⟨b, o + i * 2, none⟩ = some (.int .i64 l[i].1) ∧ w.cell? ⟨b, o + i * 2 + 1, none⟩ = some (.int .i64 l[i].2))
theorem InCells.kept {w w' : World} {a : Option Addr} {len : Nat} {l : List (Int × Int)} (h : InCells w a len l) (g : w.grownBy w' none) : InCells w' a len l := by
  obtain ⟨h1, h2, h3 | ⟨b, o, ha, hb, hc⟩⟩ := h
  · exact ⟨h1, h2, .inl h3⟩
  · exact ⟨h1, h2, .inr ⟨b, o, ha, by have := g.size; omega, fun i hi => ⟨gkc g (hc i hi).1, gkc g (hc i hi).2⟩⟩⟩
theorem szCellS_any (a : Option Addr) (len cap : Nat) (left : Int) (w : World) (h : len ≤ 9223372036854775807) (h0 : 0 ≤ left) (h1 : left ≤ 1048576) :
    Calls Tryz.prog 259 #[.slice a len cap, .int .i64 left] w fun e w' => e = .returned (.int .i64 (if (left - len : Int) < 0 then -1 else left - len)) ∧ w = w' := by
  by_cases hn : (left - len : Int) < 0
  · rw [if_pos hn]
    go_enter Tryz.func259, Tryz.ntmps259
    go_wp2
    go_ret
    exact ⟨rfl, rfl⟩
  · rw [if_neg hn]
    go_enter Tryz.func259, Tryz.ntmps259
    go_wp2
    go_ret
    exact ⟨rfl, rfl⟩
/-- the cells that are filled so far -/
def fillL (l : List (Int × Int)) (k : Nat) : List (Int × Int) := l.take k ++ List.replicate (l.length - k) (0, 0)
theorem fillL_length (l : List (Int × Int)) (k : Nat) (h : k ≤ l.length) : (fillL l k).length = l.length := by simp [fillL]; omega
theorem fillL_set (l : List (Int × Int)) (k : Nat) (h : k < l.length) : (fillL l k).set k l[k] = fillL l (k + 1) := by
  unfold fillL
  rw [List.set_append_right _ _ (by simp; omega), show k - (l.take k).length = 0 by simp; omega, show l.length - k = (l.length - (k + 1)) + 1 by omega, List.replicate_succ, List.set_cons_zero, List.take_succ_eq_append_getElem h, List.append_assoc]
  rfl
/-- a new slice of cells -/
def GotC (l : List (Int × Int)) (w : World) (e : Ending) (w' : World) : Prop := ∃ v, e = .returned v ∧ CS w' w.heap.size v l ∧ w.grownBy w' none
theorem toCellS_any (a : Option Addr) (len cap : Nat) (l : List (Int × Int)) (w : World) (h : InCells w a len l) (hl : l.length ≤ 1048576) :
    Calls Tryz.prog 260 #[.slice a len cap] w (GotC l w) := by
  obtain rfl := h.1
  have hmk := make_cells l.length hl
  have C0 := CS.made w l.length hl (Nat.le_refl w.heap.size)
  have g0 := galloc (grefl w) (.cells (zeros l.length) 59)
  go_enter Tryz.func260, Tryz.ntmps260
  go_wp2
  go_loopw [4] (fun i wr => ∃ k : Nat, k ≤ l.length ∧ i = .int .i64 k ∧ CS wr w.heap.size (.slice (some ⟨w.heap.size, 0, none⟩) l.length l.length) (fillL l k) ∧ w.grownBy wr none) (fun i _ => l.length - (intOf i).toNat)
  case atStart => exact ⟨0, Nat.zero_le _, rfl, by simpa [fillL] using C0, g0⟩
  case round =>
    obtain ⟨k, hk, rfl, C, G⟩ := hrel
    by_cases hlt : k < l.length
    · obtain ⟨-, -, h0 | ⟨b, o, rfl, hb, hc⟩⟩ := h.kept G
      · rw [h0] at hlt; simp at hlt
      obtain ⟨c0, c1⟩ := hc k hlt
      clear hc hmk
      go_wp2_with fail
      refine (toCell_any _ _ _).mono ?_
      rintro e w2 ⟨rfl, g2⟩
      have C2 := C.grew g2
      obtain ⟨g, hg, _, _, ⟨x0, y0⟩, ⟨x1, y1⟩⟩ := C2.at k (by rw [fillL_length l k hk]; exact hlt)
      cases hg
      have C3 := CS.set C2 k (by rw [fillL_length l k hk]; exact hlt) l[k].1 l[k].2
      rw [show (l[k].1, l[k].2) = l[k] from rfl, fillL_set l k hlt] at C3
      go_wp2_with fail
      go_roundw
      case rel => exact ⟨k + 1, by omega, by go_num, C3, gset1 (gset1 (gtrans G g2) (Nat.le_refl _) _ _) (Nat.le_refl _) _ _⟩
      case measure => simp [intOf]; omega
    · obtain rfl : k = l.length := by omega
      clear hmk
      go_wp2_with fail
      go_ret
      exact ⟨_, rfl, by simpa [fillL] using C, G⟩
theorem szDisk_any (n : Int) (dead : Bool) (ka na : Option Addr) (km kc nm nc : Nat) (left : Int) (w : World) (hk : km ≤ 9223372036854775807) (hn : nm ≤ 9223372036854775807) (h0 : 0 ≤ left) (h1 : left ≤ 1048576) :
    Calls Tryz.prog 208 #[.agg #[.int .i64 n, .bool dead, .slice ka km kc, .slice na nm nc], .int .i64 left] w (Pure (.int .i64 (if (left - km - nm : Int) < 0 then -1 else left - km - nm)) w) := by
  by_cases c1 : (left - km : Int) < 0
  · rw [if_pos (by omega)]
    go_enter Tryz.func208, Tryz.ntmps208
    go_wp2_with fail
    refine (szCellS_any _ _ _ _ _ hk h0 h1).mono ?_
    rintro e w' ⟨rfl, rfl⟩
    rw [if_pos (by omega)]
    go_wp2_with fail
    go_ret
    exact ⟨rfl, galloc (grefl _) _⟩
  · by_cases c2 : (left - km - nm : Int) < 0
    · rw [if_pos c2]
      go_enter Tryz.func208, Tryz.ntmps208
      go_wp2_with fail
      refine (szCellS_any _ _ _ _ _ hk h0 h1).mono ?_
      rintro e w' ⟨rfl, rfl⟩
      rw [if_neg (by omega)]
      go_wp2_with fail
      refine (szCellS_any _ _ _ _ _ hn (by omega) (by omega)).mono ?_
      rintro e w' ⟨rfl, rfl⟩
      rw [if_pos (by omega)]
      go_wp2_with fail
      go_ret
      exact ⟨rfl, galloc (grefl _) _⟩
    · rw [if_neg c2]
      go_enter Tryz.func208, Tryz.ntmps208
      go_wp2_with fail
      refine (szCellS_any _ _ _ _ _ hk h0 h1).mono ?_
      rintro e w' ⟨rfl, rfl⟩
      rw [if_neg (by omega)]
      go_wp2_with fail
      refine (szCellS_any _ _ _ _ _ hn (by omega) (by omega)).mono ?_
      rintro e w' ⟨rfl, rfl⟩
      rw [if_neg (by omega)]
      go_wp2_with fail
      go_ret
      exact ⟨rfl, galloc (grefl _) _⟩
theorem eqCellS_yes (a1 a2 : Option Addr) (c1 c2 : Nat) (l : List (Int × Int)) (w : World) (h1 : CS w 0 (.slice a1 l.length c1) l) (h2 : CS w 0 (.slice a2 l.length c2) l) :
    Calls Tryz.prog 261 #[.slice a1 l.length c1, .slice a2 l.length c2] w (Pure (.bool true) w) := by
  have hm := h1.bound.2
  go_enter Tryz.func261, Tryz.ntmps261
  go_wp2
  go_loopw [5] (fun i wr => ∃ k : Nat, k ≤ l.length ∧ i = .int .i64 k ∧ w.grownBy wr none) (fun i _ => l.length - (intOf i).toNat)
  case atStart => exact ⟨0, Nat.zero_le _, rfl, grefl _⟩
  case round =>
    obtain ⟨k, hk, rfl, G⟩ := hrel
    by_cases hlt : k < l.length
    · obtain ⟨g1, rfl, _, _, ⟨p0, _⟩, ⟨p1, _⟩⟩ := (h1.grew G).at k hlt
      obtain ⟨g2, rfl, _, _, ⟨q0, _⟩, ⟨q1, _⟩⟩ := (h2.grew G).at k hlt
      have hi1 : (k : Int) < l.length := by omega
      have S0 : TwoO wr g1 (k * 2) (.int .i64 l[k].1) (.int .i64 l[k].2) ∧ TwoO wr g2 (k * 2) (.int .i64 l[k].1) (.int .i64 l[k].2) ∧ w.grownBy wr none := ⟨⟨p0, p1⟩, ⟨q0, q1⟩, G⟩
      clear p0 p1 q0 q1
      go_wp2_with fail
      refine region_calm (fun w' => TwoO w' g1 (k * 2) (.int .i64 l[k].1) (.int .i64 l[k].2) ∧ TwoO w' g2 (k * 2) (.int .i64 l[k].1) (.int .i64 l[k].2) ∧ w.grownBy w' none) (by kernel_rfl) (by kernel_rfl) (⟨S0.1, S0.2.1, gdrew S0.2.2 1⟩) ?_
      repeat (first
        | (refine calm_skip (by rfl) ?_; simp only [Act.put, List.setIfInBounds_toArray, List.set_cons_zero, List.set_cons_succ])
        | (refine calm_step (by rfl) ?_
           apply Exists.intro
           refine ⟨fun w' hw' => ?_, ?_⟩
           · go_simp
             first | done | exact rfl | (go_at_call 286; refine (eqCell_yes _ _ _).mono ?_; rintro e w8 ⟨rfl, g8⟩; exact ⟨rfl, hw'.1.kept g8, hw'.2.1.kept g8, gtrans hw'.2.2 g8⟩)
           simp only [Act.put, List.setIfInBounds_toArray, List.set_cons_zero, List.set_cons_succ]))
      refine calm_nil ?_
      intro w9 hw9
      go_wp2_with fail
      go_roundw
      case rel => exact ⟨k + 1, by omega, by go_num, hw9.2.2⟩
      case measure => simp [intOf]; omega
    · go_wp2_with fail
      go_ret
      exact ⟨rfl, G⟩
/-- a disk that came in -/
def InDisk (w : World) (ka : Option Addr) (km : Nat) (na : Option Addr) (nm : Nat) (d : DZ) : Prop := InCells w ka km d.k ∧ InCells w na nm d.m
theorem InDisk.kept {w w' : World} {ka na : Option Addr} {km nm : Nat} {d : DZ} (h : InDisk w ka km na nm d) (g : w.grownBy w' none) : InDisk w' ka km na nm d := ⟨h.1.kept g, h.2.kept g⟩
theorem boxed3 (w : World) (n : Int) (dead : Bool) (x2 x3 : Value) (T U : Nat) :
    Box4W (((w.alloc (.cells #[.int .i64 n, .bool dead, x2, x3] T)).alloc (.cells #[.int .i64 0, .bool false, .slice none 0 0, .slice none 0 0] U)).alloc (.cells #[.int .i64 n, .bool dead, .slice none 0 0, .slice none 0 0] U)) w.heap.size (.int .i64 n) (.bool dead) x2 x3 ∧
    Zero4 (((w.alloc (.cells #[.int .i64 n, .bool dead, x2, x3] T)).alloc (.cells #[.int .i64 0, .bool false, .slice none 0 0, .slice none 0 0] U)).alloc (.cells #[.int .i64 n, .bool dead, .slice none 0 0, .slice none 0 0] U)) (w.heap.size + 1) ∧
    DBox (((w.alloc (.cells #[.int .i64 n, .bool dead, x2, x3] T)).alloc (.cells #[.int .i64 0, .bool false, .slice none 0 0, .slice none 0 0] U)).alloc (.cells #[.int .i64 n, .bool dead, .slice none 0 0, .slice none 0 0] U)) (w.heap.size + 1 + 1) (w.heap.size + 3) ⟨n, dead, [], []⟩ (.slice none 0 0) (.slice none 0 0) ∧
    w.grownBy (((w.alloc (.cells #[.int .i64 n, .bool dead, x2, x3] T)).alloc (.cells #[.int .i64 0, .bool false, .slice none 0 0, .slice none 0 0] U)).alloc (.cells #[.int .i64 n, .bool dead, .slice none 0 0, .slice none 0 0] U)) none ∧
    w.heap.size + 3 ≤ (((w.alloc (.cells #[.int .i64 n, .bool dead, x2, x3] T)).alloc (.cells #[.int .i64 0, .bool false, .slice none 0 0, .slice none 0 0] U)).alloc (.cells #[.int .i64 n, .bool dead, .slice none 0 0, .slice none 0 0] U)).heap.size := by
  refine ⟨⟨?_, ?_, ?_, ?_⟩, ⟨?_, ?_, ?_, ?_⟩, ⟨?_, ?_, ?_, ?_, CS.nil _ _, CS.nil _ _, .inl rfl, by simp [Value.ownBlock], by simp [Value.ownBlock]⟩, galloc (galloc (galloc (grefl _) _) _) _, by simp⟩ <;> simp [At, go_sem]
set_option maxHeartbeats 1000000 in
theorem toDisk_any (ka na : Option Addr) (km kc nm nc : Nat) (d : DZ) (w : World) (h : InDisk w ka km na nm d) (hk : d.k.length ≤ 1048576) (hm : d.m.length ≤ 1048576) :
    Calls Tryz.prog 209 #[.agg #[.int .i64 d.n, .bool d.dead, .slice ka km kc, .slice na nm nc]] w (GotD d w) := by
  obtain ⟨n, dead, kl, nl⟩ := d
  dsimp only at *
  have hb := boxed3 w n dead (.slice ka km kc) (.slice na nm nc) 188 37
  go_enter Tryz.func209, Tryz.ntmps209
  go_upto_region 4 with (fail)
  generalize ((w.alloc (.cells #[.int .i64 n, .bool dead, .slice ka km kc, .slice na nm nc] 188)).alloc (.cells #[.int .i64 0, .bool false, .slice none 0 0, .slice none 0 0] 37)).alloc (.cells #[.int .i64 n, .bool dead, .slice none 0 0, .slice none 0 0] 37) = W0 at *
  obtain ⟨B0, Z0, D0, g0, s0⟩ := hb
  obtain ⟨p2, q2⟩ := B0.c2
  go_wp2_with fail
  refine (toCellS_any _ _ _ kl _ (h.1.kept g0) hk).mono ?_
  rintro e w1 ⟨v1, rfl, c1, g1⟩
  have hs1 := g1.size
  have D1 := D0.put2 (v := v1) (l := kl) g1 (by simp) (.inl rfl) (c1.lower (by omega)) (not_own c1 (by omega)) (Apart.symm (.inl rfl))
  have Z1 := (Z0.kept g1 (by simp)).other (c := w.heap.size + 1 + 1) (o := 2) (by omega) v1
  have B1 := (B0.kept g1 (by simp)).far (c := w.heap.size + 1 + 1) (o := 2) (by omega) v1
  have G1 : w.grownBy (w1.setCell ⟨w.heap.size + 1 + 1, 2, none⟩ v1) none := gset1 (gtrans g0 g1) (by omega) _ _
  have s1 : W0.heap.size ≤ (w1.setCell ⟨w.heap.size + 1 + 1, 2, none⟩ v1).heap.size := by simpa [World.setCell] using hs1
  obtain ⟨va, vm, vc, rfl⟩ := c1.sl
  obtain ⟨x2, y2⟩ := (gk g1 D0.c2)
  clear p2 q2 c1 hs1
  go_upto_region 5 with (fail)
  generalize w1.setCell ⟨w.heap.size + 1 + 1, 2, none⟩ (.slice va vm vc) = W1 at *
  clear x2 y2
  obtain ⟨p3, q3⟩ := B1.c3
  go_wp2_with fail
  refine (toCellS_any _ _ _ nl _ (h.2.kept G1) hm).mono ?_
  rintro e w2 ⟨v2, rfl, c2, g2⟩
  have hs2 := g2.size
  have ap := fresh_apart D1.ks c2
  have D2 := D1.put3 (v := v2) (l := nl) g2 (by simp) (by cases (Value.slice va vm vc).ownBlock <;> simp) (c2.lower (by omega)) (not_own c2 (by omega)) ap
  have Z2 := (Z1.kept g2 (by simp)).other (c := w.heap.size + 1 + 1) (o := 3) (by omega) v2
  have G2 : w.grownBy (w2.setCell ⟨w.heap.size + 1 + 1, 3, none⟩ v2) none := gset1 (gtrans G1 g2) (by omega) _ _
  obtain ⟨ua, um, uc, rfl⟩ := c2.sl
  obtain ⟨x2, y2⟩ := (gk g2 D1.c3)
  clear p3 q3 c2
  go_upto_region 6 with (fail)
  generalize w2.setCell ⟨w.heap.size + 1 + 1, 3, none⟩ (.slice ua um uc) = W2 at *
  clear x2 y2
  have hR := D2.res G2 (r := w.heap.size + 1) (by omega) (by omega) (not_own D2.ks (by omega)) (not_own D2.ns (by omega)) (.int .i64 n) (.bool dead) (.slice va vm vc) (.slice ua um uc)
  obtain ⟨⟨z0, y0⟩, ⟨z1, y1⟩, ⟨z2, y2⟩, ⟨z3, y3⟩⟩ := Z2
  obtain ⟨c0, f0⟩ := D2.c0
  obtain ⟨c1, f1⟩ := D2.c1
  obtain ⟨c2, f2⟩ := D2.c2
  obtain ⟨c3, f3⟩ := D2.c3
  dsimp only at c0 c1
  clear D2
  go_wp2_with fail
  exact bodyPost_ret (v := .agg #[.int .i64 n, .bool dead, .slice va vm vc, .slice ua um uc]) (by simp [results, Tryz.results209, go_sem, z0, z1, z2, z3]) rfl ⟨_, _, rfl, hR⟩
end Go.Proofs.YteialkknddpbjaaGreatDoor
namespace Go.Proofs.YteialkknddpbjaaGreatDoor
open Go.ChangeShapes Go.WideShapes Go.ChangeAt Go.RowKit

set_option maxHeartbeats 1000000 in
theorem eqDisk_yes (kv nv ku nu : Value) (d : DZ) (w : World) (h1 : IsD w 0 kv nv d) (h2 : IsD w 0 ku nu d) :
    Calls Tryz.prog 210 #[.agg #[.int .i64 d.n, .bool d.dead, kv, nv], .agg #[.int .i64 d.n, .bool d.dead, ku, nu]] w (Pure (.bool true) w) := by
  obtain ⟨n, dead, kl, nl⟩ := d
  obtain ⟨hk1, hn1⟩ := h1
  obtain ⟨hk2, hn2⟩ := h2
  dsimp only at *
  obtain ⟨ka, kc, rfl, _⟩ := hk1.form
  obtain ⟨na, nc, rfl, _⟩ := hn1.form
  obtain ⟨kb, kd, rfl, _⟩ := hk2.form
  obtain ⟨nb, nd, rfl, _⟩ := hn2.form
  have g0 : w.grownBy ((w.alloc (.cells #[.int .i64 n, .bool dead, .slice ka kl.length kc, .slice na nl.length nc] 37)).alloc (.cells #[.int .i64 n, .bool dead, .slice kb kl.length kd, .slice nb nl.length nd] 37)) none := galloc (galloc (grefl _) _) _
  have B1 : Box4 ((w.alloc (.cells #[.int .i64 n, .bool dead, .slice ka kl.length kc, .slice na nl.length nc] 37)).alloc (.cells #[.int .i64 n, .bool dead, .slice kb kl.length kd, .slice nb nl.length nd] 37)) w.heap.size (.int .i64 n) (.bool dead) (.slice ka kl.length kc) (.slice na nl.length nc) := by simp [Box4, go_sem]
  have B2 : Box4 ((w.alloc (.cells #[.int .i64 n, .bool dead, .slice ka kl.length kc, .slice na nl.length nc] 37)).alloc (.cells #[.int .i64 n, .bool dead, .slice kb kl.length kd, .slice nb nl.length nd] 37)) (w.heap.size + 1) (.int .i64 n) (.bool dead) (.slice kb kl.length kd) (.slice nb nl.length nd) := by simp [Box4, go_sem]
  go_enter Tryz.func210, Tryz.ntmps210
  go_upto_region 1 with (fail)
  generalize (w.alloc (.cells #[.int .i64 n, .bool dead, .slice ka kl.length kc, .slice na nl.length nc] 37)).alloc (.cells #[.int .i64 n, .bool dead, .slice kb kl.length kd, .slice nb nl.length nd] 37) = W0 at *
  have HB1 := Lib.hid B1
  have HB2 := Lib.hid B2
  obtain ⟨a0, a1, a2, a3⟩ := B1
  obtain ⟨b0, b1, b2, b3⟩ := B2
  go_wp2_with fail
  refine (eqCellS_yes _ _ _ _ kl _ (hk1.grew g0) (hk2.grew g0)).mono ?_
  rintro e w1 ⟨rfl, g1⟩
  clear a0 a1 a2 a3 b0 b1 b2 b3
  obtain ⟨a0, a1, a2, a3⟩ := HB1.out.kept g1
  obtain ⟨b0, b1, b2, b3⟩ := HB2.out.kept g1
  have G1 := gtrans g0 g1
  go_wp2_with fail
  refine (eqCellS_yes _ _ _ _ nl _ (hn1.grew G1) (hn2.grew G1)).mono ?_
  rintro e w2 ⟨rfl, g2⟩
  go_wp2_with fail
  go_ret
  exact ⟨rfl, gtrans G1 g2⟩
theorem boxW (w : World) (x0 x1 x2 x3 : Value) (T : Nat) : Box4W (w.alloc (.cells #[x0, x1, x2, x3] T)) w.heap.size x0 x1 x2 x3 := by
  refine ⟨?_, ?_, ?_, ?_⟩ <;> simp [At, go_sem]
/-- the marks of a list of cells -/
def markL (k : Int) (n : Nat) : List (Int × Int) := (List.range n).map fun i : Nat => (k + 2 * (i : Int), k + 2 * (i : Int) + 1)
theorem markL_length (k : Int) (n : Nat) : (markL k n).length = n := by simp [markL]
theorem markL_get (k : Int) (n i : Nat) (h : i < n) : (markL k n)[i]'(by rw [markL_length]; exact h) = (k + 2 * (i : Int), k + 2 * (i : Int) + 1) := by simp [markL]
/-- the first j cells are marked -/
def partL (k : Int) (l : List (Int × Int)) (j : Nat) : List (Int × Int) := markL k j ++ l.drop j
theorem partL_length (k : Int) (l : List (Int × Int)) (j : Nat) (h : j ≤ l.length) : (partL k l j).length = l.length := by simp [partL, markL_length]; omega
theorem partL_set (k : Int) (l : List (Int × Int)) (j : Nat) (h : j < l.length) : (partL k l j).set j (k + 2 * (j : Int), k + 2 * (j : Int) + 1) = partL k l (j + 1) := by
  unfold partL
  rw [List.set_append_right _ _ (by simp [markL_length]), show j - (markL k j).length = 0 by simp [markL_length], List.drop_eq_getElem_cons h, List.set_cons_zero]
  simp [markL, List.range_succ]
/-- what marking a slice leaves -/
def MarkS (B : Nat) (v : Value) (k : Int) (n : Nat) (w : World) (e : Ending) (w' : World) : Prop := e = .returned (.int .i64 (k + 2 * n)) ∧ CS w' B v (markL k n) ∧ w.grownBy w' v.ownBlock
theorem markCellS_any (B : Nat) (v : Value) (l : List (Int × Int)) (k : Int) (w : World) (h : CS w B v l) (hl : l.length ≤ 1048576) (h0 : 0 ≤ k) (h1 : k ≤ 1099511627776) :
    Calls Tryz.prog 211 #[v, .int .i64 k] w (MarkS B v k l.length w) := by
  obtain ⟨a, c, rfl, _⟩ := h.form
  go_enter Tryz.func211, Tryz.ntmps211
  go_wp2
  go_loopw [1, 5] (fun m i wr => ∃ j : Nat, j ≤ l.length ∧ i = .int .i64 j ∧ m = .int .i64 (k + 2 * j) ∧ CS wr B (.slice a l.length c) (partL k l j) ∧ w.grownBy wr (Value.slice a l.length c).ownBlock) (fun _ i _ => l.length - (intOf i).toNat)
  case atStart => exact ⟨0, Nat.zero_le _, rfl, by simp, by simpa [partL, markL] using h, World.grownBy.refl _ _⟩
  case round =>
    obtain ⟨j, hj, rfl, rfl, C, G⟩ := hrel
    by_cases hlt : j < l.length
    · obtain ⟨g, rfl, _, _, ⟨x0, y0⟩, ⟨x1, y1⟩⟩ := C.at j (by rw [partL_length k l j hj]; exact hlt)
      have C3 := CS.set C j (by rw [partL_length k l j hj]; exact hlt) (k + 2 * j) (k + 2 * j + 1)
      rw [partL_set k l j hlt] at C3
      have hi1 : (j : Int) < l.length := by omega
      go_wp2_with fail
      go_roundw
      case rel => exact ⟨j + 1, by omega, by go_num, by rw [show k + 2 * (j : Int) + 1 + 1 = k + 2 * ((j + 1 : Nat) : Int) by omega], C3, gtrans G (gset2 wr g _ _ _ _)⟩
      case measure => simp [intOf]; omega
    · obtain rfl : j = l.length := by omega
      go_wp2_with fail
      go_ret
      exact ⟨rfl, by simpa [partL] using C, G⟩
theorem heldCellS_any (v : Value) (n : Nat) (k : Int) (w : World) (h : CS w 0 v (markL k n)) (hl : n ≤ 1048576) (h0 : 0 ≤ k) (h1 : k ≤ 1099511627776) :
    Calls Tryz.prog 212 #[v, .int .i64 k] w fun e w' => e = .returned (.int .i64 (k + 2 * n)) ∧ w = w' := by
  obtain ⟨a, c, rfl, _⟩ := h.form
  rw [markL_length] at *
  go_enter Tryz.func212, Tryz.ntmps212
  go_wp2
  go_loop [1, 5] (fun m i => ∃ j : Nat, j ≤ n ∧ i = .int .i64 j ∧ m = .int .i64 (k + 2 * j)) (fun _ i => n - (intOf i).toNat)
  case atStart => exact ⟨0, Nat.zero_le _, rfl, by simp⟩
  case round =>
    obtain ⟨j, hj, rfl, rfl⟩ := hrel
    by_cases hlt : j < n
    · obtain ⟨g, rfl, _, _, ⟨x0, y0⟩, ⟨x1, y1⟩⟩ := h.at j (by rw [markL_length]; exact hlt)
      rw [markL_get k n j hlt] at x0 x1
      dsimp only at x0 x1
      have hi1 : (j : Int) < n := by omega
      go_wp2_with fail
      go_round
      case rel => exact ⟨j + 1, by omega, by go_num, by rw [show k + 2 * (j : Int) + 1 + 1 = k + 2 * ((j + 1 : Nat) : Int) by omega]⟩
      case measure => simp [intOf]; omega
    · obtain rfl : j = n := by omega
      go_wp2_with fail
      go_ret
      exact ⟨rfl, rfl⟩
/-- a disk whose cells are marked from k on -/
def markD (k : Int) (d : DZ) : DZ := { d with k := markL k d.k.length, m := markL (k + 2 * d.k.length) d.m.length }
def markE (k : Int) (d : DZ) : Int := k + 2 * d.k.length + 2 * d.m.length
/-- what marking a disk leaves -/
def MarkD (B : Nat) (kv nv : Value) (k : Int) (d : DZ) (w : World) (e : Ending) (w' : World) : Prop := e = .returned (.int .i64 (markE k d)) ∧ IsD w' B kv nv (markD k d) ∧ Only (Two2 kv nv) w w'
end Go.Proofs.YteialkknddpbjaaGreatDoor
