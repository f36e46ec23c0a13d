/- The drawn arguments of chapter 4: lists of numbers. -/
import Derived.Deep.DeepFit
import Derived.Deep.RegionHeld3
import Derived.RegionTactic
import Derived.Deep.DeepCutAuto
import Derived.Test.YteialkknddpbjaaGreatDoorPH20
import Derived.Test.YteialkknddpbjaaGreatDoorPH44
import Derived.Test.YteialkknddpbjaaGreatDoorPH01
import Derived.Test.YteialkknddpbjaaGreatDoorPH07
import Derived.Test.YteialkknddpbjaaGreatDoorPH29
import Derived.Test.YteialkknddpbjaaGreatDoorPH43
import Derived.Test.YteialkknddpbjaaGreatDoorPH09
namespace Go.Proofs.YteialkknddpbjaaGreatDoor
open Go.ChangeShapes Go.WideShapes Go.ChangeAt Go.RowKit
attribute [local go_sem] str_list str_size str_add lit_list0 add_lit lit_add str_cut

/-- a block of a drawn log: the frame of a patch, or of the text x -/
def blockT : Option PZ → List UInt8
  | some p => frameT p.text
  | none => frameT [120]
/-- a log that is made of such blocks -/
def LogB (s : List UInt8) : Prop := ∃ l : List (Option PZ), (∀ p, some p ∈ l → p.ok = true) ∧ s = l.flatMap blockT
theorem LogB.nil : LogB [] := ⟨[], by simp, rfl⟩
theorem LogB.noted {s : List UInt8} (h : LogB s) (p : PZ) : LogB (notedZ s p) := by
  cases hn : notedOk s p
  · rw [noted_no hn]; exact h
  · rw [noted_yes hn]
    simp only [notedOk, Bool.and_eq_true] at hn
    obtain ⟨l, h1, rfl⟩ := h
    refine ⟨l ++ [some p], fun q hq => ?_, by simp [blockT]⟩
    rcases List.mem_append.1 hq with hq | hq
    · exact h1 q hq
    · simp at hq; subst hq; exact hn.1
theorem LogB.x {s : List UInt8} (h : LogB s) : LogB (s ++ frameT [120]) := by
  obtain ⟨l, h1, rfl⟩ := h
  refine ⟨l ++ [none], fun q hq => ?_, by simp [blockT]⟩
  rcases List.mem_append.1 hq with hq | hq
  · exact h1 q hq
  · simp at hq
/-- a drawn text -/
def DrawnS (B : Nat) (c : Nat) (w : World) (e : Ending) (w' : World) : Prop :=
  ∃ s : List UInt8, e = .returned (.string (str s)) ∧ s.length ≤ B ∧ LogB s ∧ Cur w' c ∧ w.grownBy w' (some c)
theorem framed_x (w : World) : Calls Tryz.prog 89 #[.string ⟨#[120]⟩] w (Pure (.string (str (frameT [120]))) w) := l8Framed_any [120] w (by simp)
theorem notedZ_len (l : List UInt8) (p : PZ) : (notedZ l p).length ≤ max l.length 2000 := by
  cases h : notedOk l p
  · rw [noted_no h]; omega
  · rw [noted_yes h]
    simp only [notedOk, Bool.and_eq_true, decide_eq_true_eq] at h
    simp; omega
set_option maxHeartbeats 2000000 in
theorem l8Draw_any (c : Nat) (w : World) (hc : Cur w c) :
    Calls Tryz.prog 134 #[.pointer (some ⟨c, 0, none⟩)] w (DrawnS 2100 c w) := by
  go_enter Tryz.func134, Tryz.ntmps134
  go_wp2_with fail
  go_fit (l1Below_any c _ _ hc (by omega))
  rintro e w1 ⟨n, ⟨hn0, hn1⟩, rfl, hc1, g1⟩
  obtain ⟨n, rfl⟩ := Int.eq_ofNat_of_zero_le hn0
  go_wp2_with fail
  go_loopw [3, 4] (fun s i wr => ∃ (k : Nat) (L : List UInt8), k ≤ 3 ∧ L.length + 30 * k ≤ 2100 ∧ i = .int .i64 k ∧ s = .string (str L) ∧ Hid (LogB L) ∧ Cur wr c ∧ w.grownBy wr (some c)) (fun _ i _ => (intOf i).toNat)
  case atStart => exact ⟨n, [], by omega, by simp; omega, rfl, rfl, LogB.nil, hc1, g1⟩
  case round =>
    clear hc1 g1
    obtain ⟨k, L, hk, hL, rfl, rfl, HB, C, G⟩ := hrel
    by_cases hpos : 0 < k
    · have hpi : (0 : Int) < k := by omega
      go_wp2_with fail
      go_fit (l7Draw_any c _ C)
      rintro e w2 ⟨p, dv, vv, rfl, id, iv, -, -, -, C2, g2⟩
      go_wp2_with fail
      go_fit (specNoted_any L p _ _ _ (Own.rd id) (Own.rd iv) (by omega))
      rintro e w3 ⟨rfl, g3⟩
      have C3 := C2.kept g3 (by simp)
      have G3 := gtrans G (gtrans g2 (gweak g3 (some c)))
      have hN : (notedZ L p).length + 30 * k ≤ 2100 := by have := notedZ_len L p; omega
      replace HB : Hid (LogB (notedZ L p)) := HB.out.noted p
      generalize notedZ L p = N at *
      generalize notedOk L p = o at *
      clear C2 C g2 g3 G
      go_wp2_with fail
      go_fit (l1Once_any c _ _ C3 (by omega))
      rintro e w4 ⟨b, rfl, C4, g4⟩
      have G4 := gtrans G3 g4
      cases b
      · go_wp2_with fail
        go_roundw
        case rel => exact ⟨k - 1, N, by omega, by omega, by rw [show ((k - 1 : Nat) : Int) = (k : Int) - 1 by omega], rfl, HB.out, C4, G4⟩
        case measure => simp [intOf]; omega
      · have hx : (frameT [120]).length ≤ 21 := frameT_length [120] (by simp)
        go_wp2_with fail
        go_fit (framed_x _)
        rintro e w5 ⟨rfl, g5⟩
        have HBx : Hid (LogB (N ++ frameT [120])) := HB.out.x
        generalize frameT [120] = F at *
        go_wp2_with fail
        go_roundw
        case rel => exact ⟨k - 1, N ++ F, by omega, by simp; omega, by rw [show ((k - 1 : Nat) : Int) = (k : Int) - 1 by omega], rfl, HBx.out, C4.kept g5 (by simp), gtrans G4 (gweak g5 (some c))⟩
        case measure => simp [intOf]; omega
    · obtain rfl : k = 0 := by omega
      go_wp2_with fail
      go_ret
      exact ⟨L, rfl, by omega, HB.out, C, G⟩
end Go.Proofs.YteialkknddpbjaaGreatDoor
namespace Go.Proofs.YteialkknddpbjaaGreatDoor
open Go.ChangeShapes Go.WideShapes Go.ChangeAt Go.RowKit

/-- a log that can be read to its end, or in which reading stops whatever follows -/
def LogP (s : List UInt8) : Prop := framesT (entsT s) = s ∨ ∀ t, entsT (s ++ t) = entsT s
theorem x_none (t : List UInt8) : entsT (frameT [120] ++ t) = [] := by
  refine entsT_no fun ⟨_, h2⟩ => ?_
  rw [(frame_first (t := [120]) t (by decide)).2.1] at h2
  revert h2
  decide
theorem LogB.p {s : List UInt8} (h : LogB s) : LogP s := by
  obtain ⟨l, h1, rfl⟩ := h
  induction l with
  | nil => left; simp [ents_nil, framesT]
  | cons a r ih =>
    cases a with
    | none =>
      right
      intro t
      simp only [List.flatMap_cons, blockT, List.append_assoc]
      rw [x_none, x_none]
    | some p =>
      have hok := h1 p (by simp)
      have e1 := ents_frame hok (r.flatMap blockT)
      rcases ih (fun q hq => h1 q (by simp [hq])) with h | h
      · left
        simp only [List.flatMap_cons, blockT]
        rw [e1, framesT, List.flatMap_cons]
        change frameT p.text ++ framesT _ = _
        rw [h]
      · right
        intro t
        simp only [List.flatMap_cons, blockT, List.append_assoc]
        rw [e1, ents_frame hok, h t]
theorem zeros_none (n : Nat) (hn : 121 ≤ n) (t : List UInt8) : entsT (List.replicate n 0 ++ t) = [] := by
  refine entsT_no fun ⟨h1, _⟩ => ?_
  simp only [firstOk, Bool.and_eq_true, decide_eq_true_eq] at h1
  have : n ≤ endT (List.replicate n (0 : UInt8) ++ t) := by
    unfold endT
    rw [List.takeWhile_append_of_pos (fun x hx => by rw [List.eq_of_mem_replicate hx]; decide)]
    simp
  omega
theorem LogP.zeros (n : Nat) (hn : 121 ≤ n) : LogP (List.replicate n 0) := by
  right
  intro t
  have := zeros_none n hn []
  rw [List.append_nil] at this
  rw [zeros_none n hn, this]
end Go.Proofs.YteialkknddpbjaaGreatDoor
namespace Go.Proofs.YteialkknddpbjaaGreatDoor
open Go.ChangeShapes Go.WideShapes Go.ChangeAt Go.RowKit
attribute [local go_sem] str_list str_size str_add lit_list0 add_lit lit_add str_cut

end Go.Proofs.YteialkknddpbjaaGreatDoor

namespace Go.Proofs.YteialkknddpbjaaGreatDoor
open Go.ChangeShapes Go.WideShapes Go.ChangeAt Go.RowKit
attribute [local go_sem] str_list str_size str_add lit_list0 add_lit lit_add str_cut

/-- a drawn array, right or not -/
def DrawnAr (c : Nat) (w : World) (e : Ending) (w' : World) : Prop :=
  ∃ (a : AZ) (v : Value), e = .returned (a.val v) ∧ (∀ w2, Only (fun k => k < w.heap.size) w' w2 → LD w2 v a.ds) ∧ a.log.length ≤ 2100 ∧ a.next.length ≤ 2100 ∧ Cur w' c ∧ w.grownBy w' (some c)
theorem gset5c {a w : World} {r : Nat} {x : Option Nat} (h : a.grownBy w x) (hr : a.heap.size ≤ r) (x0 x1 x2 x3 x4 : Value) : a.grownBy (set5 w r x0 x1 x2 x3 x4) x := gset1 (gset1 (gset1 (gset1 (gset1 h hr _ _) hr _ _) hr _ _) hr _ _) hr _ _
theorem gset5d {a w : World} {r : Nat} (h : a.grownBy w (some r)) (x0 x1 x2 x3 x4 : Value) : a.grownBy (set5 w r x0 x1 x2 x3 x4) (some r) := gset (gset (gset (gset (gset h _ _) _ _) _ _) _ _) _ _
theorem only_set5 (w : World) (r : Nat) (x0 x1 x2 x3 x4 : Value) {S : Nat → Prop} (hr : S r) : Only S w (set5 w r x0 x1 x2 x3 x4) :=
  Only.of (gset5d (World.grownBy.refl w (some r)) x0 x1 x2 x3 x4) (fun k e => by cases e; exact hr)
theorem Cur.set5 {w : World} {c r : Nat} (h : Cur w c) (hc : c < r) (x0 x1 x2 x3 x4 : Value) : Cur (Go.Proofs.YteialkknddpbjaaGreatDoor.set5 w r x0 x1 x2 x3 x4) c := by
  unfold Go.Proofs.YteialkknddpbjaaGreatDoor.set5
  exact ((((h.set hc _ _).set hc _ _).set hc _ _).set hc _ _).set hc _ _
/-- the array in the box b is the answer -/
theorem ar_done {w W : World} {c b B r : Nat} {a : AZ} {va : Option Addr} {vn vc : Nat} {raw : List DV} (A : ABox W b B a (.slice va vn vc) raw) (C : Cur W c) (G : w.grownBy W (some c)) (hr : r < B) (hw : w.heap.size ≤ r) (hc : c < w.heap.size) (h1 : a.log.length ≤ 2100) (h2 : a.next.length ≤ 2100) :
    DrawnAr c w (.returned (a.val (.slice va vn vc))) (set5 W r (.slice va vn vc) (.string (str a.log)) (.string (str a.next)) (.int .i64 a.stage) (.bool a.up)) := by
  obtain ⟨n1, n2⟩ := A.od.not_old hr
  have O := A.od.set5 n1 n2 (.slice va vn vc) (.string (str a.log)) (.string (str a.next)) (.int .i64 a.stage) (.bool a.up)
  exact ⟨a, _, rfl, fun w2 g2 => (O.low g2 (by omega)).ld, h1, h2, C.set5 (by omega) _ _ _ _ _, gset5c G hw _ _ _ _ _⟩
set_option maxRecDepth 8000 in
set_option maxHeartbeats 4000000 in
theorem l9DrawAny_any (c : Nat) (w : World) (hc : Cur w c) :
    Calls Tryz.prog 65 #[.pointer (some ⟨c, 0, none⟩)] w (DrawnAr c w) := by
  have hlt := hc.lt
  have Z0 := Zero5.new w
  have G0 := galloc (grefl w) zero5
  have s0 : (w.alloc zero5).heap.size = w.heap.size + 1 := by simp
  have C0 := hc.kept G0 (by simp)
  clear hc
  go_enter Tryz.func65, Tryz.ntmps65
  go_upto_region 1 with (fail)
  generalize w.alloc zero5 = W0 at *
  go_wp2_with fail
  go_fit (l9Draw_any c _ C0)
  rintro e w1 ⟨a, v1, raw1, rfl, AG, O1, C1, g1⟩
  obtain ⟨va, vn, vc, rfl⟩ := O1.own.sl
  have hb := g1.size
  have A2 := ABox.new O1 26
  have e2 := galloc (grefl w1) (.cells #[.slice va vn vc, .string (str a.log), .string (str a.next), .int .i64 a.stage, .bool a.up] 26)
  have C2 := C1.kept e2 (by simp)
  have G2 := gtrans (gtrans (gweak G0 (some c)) g1) (gweak e2 (some c))
  have Z2 := (Z0.kept g1 (by simp; omega)).kept e2 (by simp)
  have hs2 : w1.heap.size < (w1.alloc (.cells #[.slice va vn vc, .string (str a.log), .string (str a.next), .int .i64 a.stage, .bool a.up] 26)).heap.size := by simp
  have hlg : a.log.length ≤ 2100 := by have := AG.log; omega
  have hnx : a.next.length ≤ 2100 := by have := AG.next; omega
  clear AG O1 C1 g1 e2 Z0 G0 C0
  go_upto_region 2 with (fail)
  generalize w1.alloc (.cells #[.slice va vn vc, .string (str a.log), .string (str a.next), .int .i64 a.stage, .bool a.up] 26) = W2 at *
  generalize w1.heap.size = b at *
  go_wp2_with fail
  go_fit (l1Once_any c _ _ C2 (by omega))
  rintro e w3 ⟨b1, rfl, C3, g3⟩
  have A3 := A2.drawn g3 (by omega) (by omega)
  have Z3 := Z2.kept g3 (by simp; omega)
  have G3 := gtrans G2 g3
  have hs3 := g3.size
  clear A2 C2 Z2 G2 g3
  cases b1
  · obtain ⟨k0, k1, k2, k3, k4⟩ := A3.box
    obtain ⟨⟨z0, y0⟩, ⟨z1, y1⟩, ⟨z2, y2⟩, ⟨z3, y3⟩, ⟨z4, y4⟩⟩ := Z3
    have hfin := ar_done A3 C3 G3 (r := w.heap.size) (by omega) (Nat.le_refl _) hlt hlg hnx
    go_wp2_with fail
    exact bodyPost_ret (v := a.val (.slice va vn vc)) (by simp [results, Tryz.results65, go_sem, z0, z1, z2, z3, z4]) rfl hfin
  go_wp2_with fail
  go_fit (l1Below_any c _ _ C3 (by omega))
  rintro e w4 ⟨x, ⟨x0, x1⟩, rfl, C4, g4⟩
  have A4 := A3.drawn g4 (by omega) (by omega)
  have Z4 := Z3.kept g4 (by simp; omega)
  have G4 := gtrans G3 g4
  have hs4 := g4.size
  clear A3 C3 Z3 G3 g4
  obtain ⟨k, rfl⟩ := Int.eq_ofNat_of_zero_le x0
  have hk : k = 0 ∨ k = 1 ∨ k = 2 ∨ k = 3 ∨ k = 4 := by omega
  clear x0 x1
  rcases hk with rfl | rfl | rfl | rfl | rfl
  · go_wp2_with fail
    go_fit (l6DrawAny_any c _ C4)
    rintro e w5 ⟨l5, v5, rfl, hL, h5, C5, g5⟩
    obtain ⟨ua, uc, rfl, -⟩ := (hL w5 (Only.refl _ _)).form
    have A5 := A4.drawn g5 (by omega) (by omega)
    have Z5 := Z4.kept g5 (by simp; omega)
    have G5 := gtrans G4 g5
    have hs5 := g5.size
    obtain ⟨t0, f0⟩ := A5.c0
    have B6 : Five (w5.setCell ⟨b, 0, none⟩ (.slice ua l5.length uc)) b (.slice ua l5.length uc) (.string (str a.log)) (.string (str a.next)) (.int .i64 a.stage) (.bool a.up) := Five.put0 ⟨A5.c0, A5.c1, A5.c2, A5.c3, A5.c4⟩ _
    have Z6 := Z5.far (c := b) (o := 0) (by omega) (.slice ua l5.length uc)
    have C6 := C5.set (show c < b by omega) 0 (.slice ua l5.length uc)
    have G6 := gset1 G5 (show w.heap.size ≤ b by omega) 0 (.slice ua l5.length uc)
    have O6 : Only (fun k => k < w4.heap.size) w5 (w5.setCell ⟨b, 0, none⟩ (.slice ua l5.length uc)) := Only.of (gset (World.grownBy.refl w5 (some b)) _ _) (fun k e => by cases e; show b < w4.heap.size; omega)
    clear A4 C4 Z4 G4 g5 A5 Z5 C5 G5
    go_upto_region 14 with (fail)
    generalize w5.setCell ⟨b, 0, none⟩ (.slice ua l5.length uc) = W6 at *
    clear t0 f0
    obtain ⟨⟨k0, -⟩, ⟨k1, -⟩, ⟨k2, -⟩, ⟨k3, -⟩, ⟨k4, -⟩⟩ := B6
    obtain ⟨⟨z0, y0⟩, ⟨z1, y1⟩, ⟨z2, y2⟩, ⟨z3, y3⟩, ⟨z4, y4⟩⟩ := Z6
    have hfin : DrawnAr c w (.returned (AZ.val ⟨l5, a.log, a.next, a.stage, a.up⟩ (.slice ua l5.length uc))) (set5 W6 w.heap.size (.slice ua l5.length uc) (.string (str a.log)) (.string (str a.next)) (.int .i64 a.stage) (.bool a.up)) := by
      refine ⟨⟨l5, a.log, a.next, a.stage, a.up⟩, _, rfl, fun w2 g2 => hL w2 (O6.trans ((only_set5 W6 w.heap.size _ _ _ _ _ (show w.heap.size < w4.heap.size by omega)).trans (g2.mono (fun k hk => ?_)))), hlg, hnx, C6.set5 hlt _ _ _ _ _, gset5c G6 (Nat.le_refl _) _ _ _ _ _⟩
      show k < w4.heap.size
      omega
    go_wp2_with fail
    exact bodyPost_ret (v := AZ.val ⟨l5, a.log, a.next, a.stage, a.up⟩ (.slice ua l5.length uc)) (by simp [results, Tryz.results65, go_sem, z0, z1, z2, z3, z4]) rfl hfin
  · go_wp2_with fail
    go_fit (l8Draw_any c _ C4)
    rintro e w5 ⟨t, rfl, ht, -, C5, g5⟩
    have A5 := A4.drawn g5 (by omega) (by omega)
    have Z5 := Z4.kept g5 (by simp; omega)
    obtain ⟨t0, f0⟩ := A5.c1
    have A6 := A5.setLog t
    have Z6 := Z5.far (c := b) (o := 1) (by omega) (.string (str t))
    have C6 := C5.set (show c < b by omega) 1 (.string (str t))
    have G6 := gset1 (gtrans G4 g5) (show w.heap.size ≤ b by omega) 1 (.string (str t))
    clear A4 C4 Z4 G4 g5 A5 Z5 C5
    go_upto_region 14 with (fail)
    generalize w5.setCell ⟨b, 1, none⟩ (.string (str t)) = W6 at *
    clear t0 f0
    obtain ⟨k0, k1, k2, k3, k4⟩ := A6.box
    obtain ⟨⟨z0, y0⟩, ⟨z1, y1⟩, ⟨z2, y2⟩, ⟨z3, y3⟩, ⟨z4, y4⟩⟩ := Z6
    have hfin := ar_done A6 C6 G6 (r := w.heap.size) (by omega) (Nat.le_refl _) hlt ht hnx
    go_wp2_with fail
    exact bodyPost_ret (v := AZ.val ⟨a.ds, t, a.next, a.stage, a.up⟩ (.slice va vn vc)) (by simp [results, Tryz.results65, go_sem, z0, z1, z2, z3, z4]) rfl hfin
  · go_wp2_with fail
    go_fit (l8Draw_any c _ C4)
    rintro e w5 ⟨t, rfl, ht, -, C5, g5⟩
    have A5 := A4.drawn g5 (by omega) (by omega)
    have Z5 := Z4.kept g5 (by simp; omega)
    obtain ⟨t0, f0⟩ := A5.c2
    have A6 := A5.setNext t
    have Z6 := Z5.far (c := b) (o := 2) (by omega) (.string (str t))
    have C6 := C5.set (show c < b by omega) 2 (.string (str t))
    have G6 := gset1 (gtrans G4 g5) (show w.heap.size ≤ b by omega) 2 (.string (str t))
    clear A4 C4 Z4 G4 g5 A5 Z5 C5
    go_upto_region 14 with (fail)
    generalize w5.setCell ⟨b, 2, none⟩ (.string (str t)) = W6 at *
    clear t0 f0
    obtain ⟨k0, k1, k2, k3, k4⟩ := A6.box
    obtain ⟨⟨z0, y0⟩, ⟨z1, y1⟩, ⟨z2, y2⟩, ⟨z3, y3⟩, ⟨z4, y4⟩⟩ := Z6
    have hfin := ar_done A6 C6 G6 (r := w.heap.size) (by omega) (Nat.le_refl _) hlt hlg ht
    go_wp2_with fail
    exact bodyPost_ret (v := AZ.val ⟨a.ds, a.log, t, a.stage, a.up⟩ (.slice va vn vc)) (by simp [results, Tryz.results65, go_sem, z0, z1, z2, z3, z4]) rfl hfin
  · go_wp2_with fail
    go_fit (l1From_any c _ _ _ C4 (by omega) (by omega) (by omega))
    rintro e w5 ⟨t, ⟨ht0, ht1⟩, rfl, C5, g5⟩
    have A5 := A4.drawn g5 (by omega) (by omega)
    have Z5 := Z4.kept g5 (by simp; omega)
    obtain ⟨t0, f0⟩ := A5.c3
    have A6 := A5.setStage t
    have Z6 := Z5.far (c := b) (o := 3) (by omega) (.int .i64 t)
    have C6 := C5.set (show c < b by omega) 3 (.int .i64 t)
    have G6 := gset1 (gtrans G4 g5) (show w.heap.size ≤ b by omega) 3 (.int .i64 t)
    clear A4 C4 Z4 G4 g5 A5 Z5 C5
    go_upto_region 14 with (fail)
    generalize w5.setCell ⟨b, 3, none⟩ (.int .i64 t) = W6 at *
    clear t0 f0
    obtain ⟨k0, k1, k2, k3, k4⟩ := A6.box
    obtain ⟨⟨z0, y0⟩, ⟨z1, y1⟩, ⟨z2, y2⟩, ⟨z3, y3⟩, ⟨z4, y4⟩⟩ := Z6
    have hfin := ar_done A6 C6 G6 (r := w.heap.size) (by omega) (Nat.le_refl _) hlt hlg hnx
    go_wp2_with fail
    exact bodyPost_ret (v := AZ.val ⟨a.ds, a.log, a.next, t, a.up⟩ (.slice va vn vc)) (by simp [results, Tryz.results65, go_sem, z0, z1, z2, z3, z4]) rfl hfin
  · obtain ⟨t0, f0⟩ := A4.c4
    have A6 := A4.setUp (!a.up)
    have Z6 := Z4.far (c := b) (o := 4) (by omega) (.bool (!a.up))
    have C6 := C4.set (show c < b by omega) 4 (.bool (!a.up))
    have G6 := gset1 G4 (show w.heap.size ≤ b by omega) 4 (.bool (!a.up))
    clear A4 C4 Z4 G4
    go_upto_region 14 with (fail)
    generalize w4.setCell ⟨b, 4, none⟩ (.bool (!a.up)) = W6 at *
    clear t0 f0
    obtain ⟨k0, k1, k2, k3, k4⟩ := A6.box
    dsimp only at k1 k2 k3 k4
    generalize (!a.up) = u at *
    obtain ⟨⟨z0, y0⟩, ⟨z1, y1⟩, ⟨z2, y2⟩, ⟨z3, y3⟩, ⟨z4, y4⟩⟩ := Z6
    have hfin := ar_done A6 C6 G6 (r := w.heap.size) (by omega) (Nat.le_refl _) hlt hlg hnx
    go_wp2_with fail
    exact bodyPost_ret (v := AZ.val ⟨a.ds, a.log, a.next, a.stage, u⟩ (.slice va vn vc)) (by simp [results, Tryz.results65, go_sem, z0, z1, z2, z3, z4]) rfl hfin
end Go.Proofs.YteialkknddpbjaaGreatDoor
namespace Go.Proofs.YteialkknddpbjaaGreatDoor
open Go.ChangeShapes Go.WideShapes Go.ChangeAt Go.RowKit
attribute [local go_sem] str_list str_size str_add lit_list0 add_lit lit_add str_cut

/-- a drawn array that is handed out -/
def OutA (w : World) (a : AZ) (v : Value) (w' : World) : Prop := (∀ w2, Only (fun k => k < w.heap.size) w' w2 → LD w2 v a.ds) ∧ a.log.length ≤ 2100 ∧ a.next.length ≤ 2100 ∧ w.grownBy w' none
/-- the drawn array goes into the result variable -/
theorem out_a {w w1 w2 W8 : World} {r : Nat} {z : AZ} {va : Option Addr} {vc : Nat} (hL : ∀ w3, Only (fun k => k < w1.heap.size) w2 w3 → LD w3 (.slice va z.ds.length vc) z.ds) (O : Only (fun k => k < w1.heap.size) w2 W8) (G : w.grownBy W8 none) (hr : r < w1.heap.size) (hw : w.heap.size ≤ r) (h1 : z.log.length ≤ 2100) (h2 : z.next.length ≤ 2100) :
    OutA w z (.slice va z.ds.length vc) (set5 W8 r (.slice va z.ds.length vc) (.string (str z.log)) (.string (str z.next)) (.int .i64 z.stage) (.bool z.up)) :=
  ⟨fun w3 g3 => hL _ (O.trans ((only_set5 W8 r _ _ _ _ _ hr).trans (g3.mono (fun k hk => by show k < w1.heap.size; have : k < w.heap.size := hk; omega)))), h1, h2, gset5 G hw _ _ _ _ _⟩
theorem OutA.ld {w w' : World} {a : AZ} {v : Value} (h : OutA w a v w') : LD w' v a.ds := h.1 _ (Only.refl _ _)
end Go.Proofs.YteialkknddpbjaaGreatDoor

namespace Go.Proofs.YteialkknddpbjaaGreatDoor
open Go.ChangeShapes Go.WideShapes Go.ChangeAt Go.RowKit

/-- the drawing of a list of numbers, on the way -/
structure DrI (w wr : World) (c : Nat) (v : Value) (l : List Int) : Prop where
  own : IS wr w.heap.size v l
  cur : Cur wr c
  grew : w.grownBy wr (some c)
  hc : c < w.heap.size
section
variable {w wr w2 : World} {c : Nat} {v v' : Value} {l l' : List Int}
theorem DrI.lt (h : DrI w wr c v l) : ∀ k, v.ownBlock = some k → c < k := fun k e => by have := (h.own.lt k e).1; have := h.hc; omega
theorem DrI.draw (h : DrI w wr c v l) (g : wr.grownBy w2 (some c)) (hc : Cur w2 c) : DrI w w2 c v l :=
  ⟨h.own.kept g (.inr fun e => by have := h.lt c e; omega), hc, gtrans h.grew g, h.hc⟩
theorem DrI.app {o : Obj} (h : DrI w wr c v l) (g : (wr.alloc o).grownBy w2 v.ownBlock) (hv : IS w2 w.heap.size v' l') : DrI w w2 c v' l' := by
  have hc := h.hc
  refine ⟨hv, (h.cur.alloc o).above g.size (fun k hk => g.block k (by have := h.cur.lt; simp; omega) (fun e => by have := h.lt k e.symm; omega)), ?_, hc⟩
  exact gstep (galloc h.grew o) g (fun j e => (h.own.lt j e).1)
theorem DrI.set {g n cap : Nat} (h : DrI w wr c (.slice (some ⟨g, 0, none⟩) n cap) l) (i : Nat) (x : Int) : DrI w (wr.setCell ⟨g, i, none⟩ (.int .i64 x)) c (.slice (some ⟨g, 0, none⟩) n cap) (l.set i x) := by
  have hg : w.heap.size ≤ g := (h.own.lt g rfl).1
  have hc := h.hc
  exact ⟨IS.set h.own i x, h.cur.set (by omega) _ _, gset1 h.grew hg _ _, hc⟩
end
end Go.Proofs.YteialkknddpbjaaGreatDoor
