/- The drawn arguments of chapter 4: lists of numbers. -/
import Derived.Test.YtekjjemamiddaaaSpecL04
import Derived.Test.YtekjjemamiddaaaDrawL01
import Derived.Test.YtekjjemamiddaaaMemB
import Derived.Deep.DeepCutAuto
namespace Go.Proofs.Ytekjjemamiddaaa
open Go.ChangeShapes Go.WideShapes Go.ChangeAt Go.RowKit

/-- the drawing of a list of numbers, on the way -/
structure DrI (w wr : World) (c : Nat) (v : Value) (l : List Int) : Prop where
  own : IS wr w.heap.size v l
  cur : Cur wr c
  grew : w.grownBy wr (some c)
  hc : c < w.heap.size
section
variable {w wr w2 : World} {c : Nat} {v v' : Value} {l l' : List Int}
theorem DrI.lt (h : DrI w wr c v l) : ∀ k, v.ownBlock = some k → c < k := fun k e => by have := (h.own.lt k e).1; have := h.hc; omega
theorem DrI.draw (h : DrI w wr c v l) (g : wr.grownBy w2 (some c)) (hc : Cur w2 c) : DrI w w2 c v l :=
  ⟨h.own.kept g (.inr fun e => by have := h.lt c e; omega), hc, gtrans h.grew g, h.hc⟩
theorem DrI.app {o : Obj} (h : DrI w wr c v l) (g : (wr.alloc o).grownBy w2 v.ownBlock) (hv : IS w2 w.heap.size v' l') : DrI w w2 c v' l' := by
  have hc := h.hc
  refine ⟨hv, (h.cur.alloc o).above g.size (fun k hk => g.block k (by have := h.cur.lt; simp; omega) (fun e => by have := h.lt k e.symm; omega)), ?_, hc⟩
  exact gstep (galloc h.grew o) g (fun j e => (h.own.lt j e).1)
theorem DrI.set {g n cap : Nat} (h : DrI w wr c (.slice (some ⟨g, 0, none⟩) n cap) l) (i : Nat) (x : Int) : DrI w (wr.setCell ⟨g, i, none⟩ (.int .i64 x)) c (.slice (some ⟨g, 0, none⟩) n cap) (l.set i x) := by
  have hg : w.heap.size ≤ g := (h.own.lt g rfl).1
  have hc := h.hc
  exact ⟨IS.set h.own i x, h.cur.set (by omega) _ _, gset1 h.grew hg _ _, hc⟩
end
/-- a drawn list of numbers -/
def DrawnI (c : Nat) (w : World) (e : Ending) (w' : World) : Prop :=
  ∃ (v : Value) (l : List Int), e = .returned v ∧ IS w' w.heap.size v l ∧ l.length ≤ 6 ∧ Cur w' c ∧ w.grownBy w' (some c)
set_option maxHeartbeats 4000000 in
theorem l4Draw_any (c : Nat) (w : World) (hc : Cur w c) :
    Calls Try.prog 21 #[.pointer (some ⟨c, 0, none⟩)] w (DrawnI c w) := by
  have hlt := hc.lt
  have R : DrI w (w.alloc (.cells #[] 2)) c _ _ := ⟨IS.empty w (Nat.le_refl _), hc.alloc _, galloc (World.grownBy.refl w _) _, hlt⟩
  clear hc
  go_enter Try.func21, Try.ntmps21
  go_upto_region 2 with (fail)
  generalize w.alloc (.cells #[] 2) = W0 at *
  go_wp2_with fail
  go_fit (l1Below_any c _ _ R.cur (by omega))
  rintro e w1 ⟨n, ⟨hn0, hn1⟩, rfl, hc1, g1⟩
  replace R := R.draw g1 hc1
  clear g1 hc1
  obtain ⟨n, rfl⟩ := Int.eq_ofNat_of_zero_le hn0
  go_wp2_with fail
  go_loopw [3, 4] (fun out i wr => ∃ (k : Nat) (L : List Int), k + L.length ≤ 5 ∧ i = .int .i64 k ∧ DrI w wr c out L) (fun _ i _ => (intOf i).toNat)
  case atStart => exact ⟨n, [], by simp; omega, rfl, R⟩
  case round =>
    clear R
    obtain ⟨k, L, hk, rfl, R⟩ := hrel
    obtain ⟨va, vc, rfl, hm⟩ := R.own.form
    by_cases hpos : 0 < k
    · have hpi : (0 : Int) < k := by omega
      go_wp2_with fail
      go_fit (l1Below_any c _ _ R.cur (by omega))
      rintro e w5 ⟨x, -, rfl, hc5, g5⟩
      replace R := R.draw g5 hc5
      clear g5 hc5
      go_wp2_with (first | (at_builtin; refine wpList_append_o (E := intE) (base := w.heap.size) rfl (.tmp 12) (.tmp 15) rfl rfl rfl (R.own.grew (galloc (grefl _) _)) (IS.single _ x (Nat.zero_le _)) (by simp; omega) (by decide) (by have := R.grew.size; simp; omega) ?_; intro v' w6 o6 g6 b6; replace R := R.app g6 o6; clear g6 b6 o6))
      go_roundw
      case rel => exact ⟨k - 1, L ++ [x], by simp; omega, by rw [show ((k - 1 : Nat) : Int) = (k : Int) - 1 by omega], R⟩
      case measure => simp [intOf]; omega
    · obtain rfl : k = 0 := by omega
      have hL : L.length ≤ 6 := by omega
      go_wp2_with fail
      go_fit (l1Once_any c _ _ R.cur (by omega))
      rintro e w5 ⟨b1, rfl, hc5, g5⟩
      replace R := R.draw g5 hc5
      clear g5 hc5
      cases b1
      · clear hk
        by_cases h2 : 1 < L.length
        · have h2' : (1 : Int) < (L.length : Int) := by omega
          go_wp2_with fail
          go_fit (l1Once_any c _ _ R.cur (by omega))
          rintro e w8 ⟨b2, rfl, hc8, g8⟩
          replace R := R.draw g8 hc8
          clear g8 hc8
          cases b2
          · go_wp2_with fail
            go_ret
            exact ⟨_, L, rfl, R.own, hL, R.cur, R.grew⟩
          · go_wp2_with fail
            go_fit (specMissing_any _ L _ _ _ R.own.rd)
            rintro e w9 ⟨rfl, rfl⟩
            obtain ⟨g, rfl, hg1, hg2, ⟨x0, y0⟩⟩ := IS.at R.own 0 (by omega)
            replace R := R.set 0 (missZ L 0 0)
            go_wp2_with fail
            go_ret
            exact ⟨_, _, rfl, R.own, by rw [List.length_set]; exact hL, R.cur, R.grew⟩
        · have h2' : ¬ (1 : Int) < (L.length : Int) := by omega
          go_wp2_with fail
          go_ret
          exact ⟨_, L, rfl, R.own, hL, R.cur, R.grew⟩
      · go_wp2_with fail
        go_fit (l1DrawValue_any c _ R.cur)
        rintro e w6 ⟨x, -, rfl, hc6, g6⟩
        replace R := R.draw g6 hc6
        clear g6 hc6
        go_upto_region 8 with (first | (at_builtin; refine wpList_append_o (E := intE) (base := w.heap.size) rfl (.tmp 19) (.tmp 22) rfl rfl rfl (R.own.grew (galloc (grefl _) _)) (IS.single _ x (Nat.zero_le _)) (by simp; omega) (by decide) (by have := R.grew.size; simp; omega) ?_; intro v' w7 o7 g7 b7; replace R := R.app g7 o7; clear g7 b7 o7))
        have hL' : (L ++ [x]).length ≤ 6 := by simp; omega
        clear hL hk hm
        generalize L ++ [x] = L at *
        have hL := hL'
        clear hL'
        obtain ⟨va, vc, rfl, hm⟩ := R.own.form
        by_cases h2 : 1 < L.length
        · have h2' : (1 : Int) < (L.length : Int) := by omega
          go_wp2_with fail
          go_fit (l1Once_any c _ _ R.cur (by omega))
          rintro e w8 ⟨b2, rfl, hc8, g8⟩
          replace R := R.draw g8 hc8
          clear g8 hc8
          cases b2
          · go_wp2_with fail
            go_ret
            exact ⟨_, L, rfl, R.own, hL, R.cur, R.grew⟩
          · go_wp2_with fail
            go_fit (specMissing_any _ L _ _ _ R.own.rd)
            rintro e w9 ⟨rfl, rfl⟩
            obtain ⟨g, rfl, hg1, hg2, ⟨x0, y0⟩⟩ := IS.at R.own 0 (by omega)
            replace R := R.set 0 (missZ L 0 0)
            go_wp2_with fail
            go_ret
            exact ⟨_, _, rfl, R.own, by rw [List.length_set]; exact hL, R.cur, R.grew⟩
        · have h2' : ¬ (1 : Int) < (L.length : Int) := by omega
          go_wp2_with fail
          go_ret
          exact ⟨_, L, rfl, R.own, hL, R.cur, R.grew⟩
def DrawnI0 (w : World) (e : Ending) (w' : World) : Prop :=
  ∃ (v : Value) (l : List Int), e = .returned v ∧ IS w' w.heap.size v l ∧ l.length ≤ 6 ∧ w.grownBy w' none
theorem drawXor_any (a : Option Addr) (len cap : Nat) (w : World) (hR : CodeAt w a len) :
    Calls Try.prog 10 #[.slice a len cap] w (DrawnI0 w) := by
  go_enter Try.func10, Try.ntmps10
  go_wp2_with fail
  go_fit (l1New_any a len cap _ hR)
  rintro e w1 ⟨c, rfl, hlt, hc1, hg1⟩
  go_wp2_with fail
  go_fit (l4Draw_any c _ hc1)
  rintro e w2 ⟨v, l, rfl, o2, hl, hc2, hg2⟩
  have h1 := hg1.size
  go_wp2_with fail
  go_ret
  exact ⟨_, l, rfl, o2.lower h1, hl, gfresh hg1 hlt hg2⟩
def DrawnI2 (w : World) (e : Ending) (w' : World) : Prop :=
  ∃ (v : Value) (l : List Int) (a s : Int), e = .returned (.tuple #[v, .int .i64 a, .int .i64 s]) ∧ IS w' w.heap.size v l ∧ l.length ≤ 6 ∧ w.grownBy w' none
theorem drawMissing_any (a : Option Addr) (len cap : Nat) (w : World) (hR : CodeAt w a len) :
    Calls Try.prog 8 #[.slice a len cap] w (DrawnI2 w) := by
  go_enter Try.func8, Try.ntmps8
  go_wp2_with fail
  go_fit (l1New_any a len cap _ hR)
  rintro e w1 ⟨c, rfl, hlt, hc1, hg1⟩
  have h1 := hg1.size
  go_wp2_with fail
  go_fit (l4Draw_any c _ hc1)
  rintro e w2 ⟨v, l, rfl, o2, hl, hc2, hg2⟩
  have G2 := gfresh hg1 hlt hg2
  have hcv : v.ownBlock ≠ some c := fun e => by have := (o2.lt c e).1; have := hc1.lt; omega
  clear hg2
  obtain ⟨va, vc, rfl, hm⟩ := o2.form
  go_wp2_with fail
  go_fit (l1From_any c _ _ _ hc2 (by omega) (by omega) (by omega))
  rintro e w3 ⟨x, -, rfl, hc3, hg3⟩
  have G3 := gfresh G2 hlt hg3
  have o3 := o2.kept hg3 (.inr hcv)
  clear o2 G2 hg3
  go_wp2_with fail
  go_fit (l1DrawValue_any c _ hc3)
  rintro e w4 ⟨s, -, rfl, hc4, hg4⟩
  have G4 := gfresh G3 hlt hg4
  have o4 := o3.kept hg4 (.inr hcv)
  clear o3 G3 hg4
  go_wp2_with fail
  go_ret3
  exact ⟨_, l, x, s, rfl, o4.lower h1, hl, G4⟩
end Go.Proofs.Ytekjjemamiddaaa
