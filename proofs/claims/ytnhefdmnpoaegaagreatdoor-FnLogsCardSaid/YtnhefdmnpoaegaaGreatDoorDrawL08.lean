/- The drawn logs of chapter 8. Logs to which a patch is noted. The drawn arguments of chapter 8's laws. -/
import Derived.Test.YtnhefdmnpoaegaaGreatDoorDrawL07
import Derived.Test.YtnhefdmnpoaegaaGreatDoorSpecL08c
import Derived.Test.YtnhefdmnpoaegaaGreatDoorMathL08t
import Derived.Test.YtnhefdmnpoaegaaGreatDoorDrawB
namespace Go.Proofs.YtnhefdmnpoaegaaGreatDoor
open Go.ChangeShapes Go.WideShapes Go.ChangeAt Go.RowKit
attribute [local go_sem] str_list str_size str_add lit_list0 add_lit lit_add str_cut

/-- a block of a drawn log: the frame of a patch, or of the text x -/
def blockT : Option PZ → List UInt8
  | some p => frameT p.text
  | none => frameT [120]
/-- a log that is made of such blocks -/
def LogB (s : List UInt8) : Prop := ∃ l : List (Option PZ), (∀ p, some p ∈ l → p.ok = true) ∧ s = l.flatMap blockT
theorem LogB.nil : LogB [] := ⟨[], by simp, rfl⟩
theorem LogB.noted {s : List UInt8} (h : LogB s) (p : PZ) : LogB (notedZ s p) := by
  cases hn : notedOk s p
  · rw [noted_no hn]; exact h
  · rw [noted_yes hn]
    simp only [notedOk, Bool.and_eq_true] at hn
    obtain ⟨l, h1, rfl⟩ := h
    refine ⟨l ++ [some p], fun q hq => ?_, by simp [blockT]⟩
    rcases List.mem_append.1 hq with hq | hq
    · exact h1 q hq
    · simp at hq; subst hq; exact hn.1
theorem LogB.x {s : List UInt8} (h : LogB s) : LogB (s ++ frameT [120]) := by
  obtain ⟨l, h1, rfl⟩ := h
  refine ⟨l ++ [none], fun q hq => ?_, by simp [blockT]⟩
  rcases List.mem_append.1 hq with hq | hq
  · exact h1 q hq
  · simp at hq
/-- a drawn text -/
def DrawnS (B : Nat) (c : Nat) (w : World) (e : Ending) (w' : World) : Prop :=
  ∃ s : List UInt8, e = .returned (.string (str s)) ∧ s.length ≤ B ∧ LogB s ∧ Cur w' c ∧ w.grownBy w' (some c)
theorem framed_x (w : World) : Calls Tryz.prog 33 #[.string ⟨#[120]⟩] w (Pure (.string (str (frameT [120]))) w) := l8Framed_any [120] w (by simp)
theorem notedZ_len (l : List UInt8) (p : PZ) : (notedZ l p).length ≤ max l.length 2000 := by
  cases h : notedOk l p
  · rw [noted_no h]; omega
  · rw [noted_yes h]
    simp only [notedOk, Bool.and_eq_true, decide_eq_true_eq] at h
    simp; omega
set_option maxHeartbeats 2000000 in
theorem l8Draw_any (c : Nat) (w : World) (hc : Cur w c) :
    Calls Tryz.prog 21 #[.pointer (some ⟨c, 0, none⟩)] w (DrawnS 2100 c w) := by
  go_enter Tryz.func21, Tryz.ntmps21
  go_wp2_with fail
  go_fit (l1Below_any c _ _ hc (by omega))
  rintro e w1 ⟨n, ⟨hn0, hn1⟩, rfl, hc1, g1⟩
  obtain ⟨n, rfl⟩ := Int.eq_ofNat_of_zero_le hn0
  go_wp2_with fail
  go_loopw [3, 4] (fun s i wr => ∃ (k : Nat) (L : List UInt8), k ≤ 3 ∧ L.length + 30 * k ≤ 2100 ∧ i = .int .i64 k ∧ s = .string (str L) ∧ Hid (LogB L) ∧ Cur wr c ∧ w.grownBy wr (some c)) (fun _ i _ => (intOf i).toNat)
  case atStart => exact ⟨n, [], by omega, by simp; omega, rfl, rfl, LogB.nil, hc1, g1⟩
  case round =>
    clear hc1 g1
    obtain ⟨k, L, hk, hL, rfl, rfl, HB, C, G⟩ := hrel
    by_cases hpos : 0 < k
    · have hpi : (0 : Int) < k := by omega
      go_wp2_with fail
      go_fit (l7Draw_any c _ C)
      rintro e w2 ⟨p, dv, vv, rfl, id, iv, -, -, -, C2, g2⟩
      go_wp2_with fail
      go_fit (specNoted_any L p _ _ _ (Own.rd id) (Own.rd iv) (by omega))
      rintro e w3 ⟨rfl, g3⟩
      have C3 := C2.kept g3 (by simp)
      have G3 := gtrans G (gtrans g2 (gweak g3 (some c)))
      have hN : (notedZ L p).length + 30 * k ≤ 2100 := by have := notedZ_len L p; omega
      replace HB : Hid (LogB (notedZ L p)) := HB.out.noted p
      generalize notedZ L p = N at *
      generalize notedOk L p = o at *
      clear C2 C g2 g3 G
      go_wp2_with fail
      go_fit (l1Once_any c _ _ C3 (by omega))
      rintro e w4 ⟨b, rfl, C4, g4⟩
      have G4 := gtrans G3 g4
      cases b
      · go_wp2_with fail
        go_roundw
        case rel => exact ⟨k - 1, N, by omega, by omega, by rw [show ((k - 1 : Nat) : Int) = (k : Int) - 1 by omega], rfl, HB.out, C4, G4⟩
        case measure => simp [intOf]; omega
      · have hx : (frameT [120]).length ≤ 21 := frameT_length [120] (by simp)
        go_wp2_with fail
        go_fit (framed_x _)
        rintro e w5 ⟨rfl, g5⟩
        have HBx : Hid (LogB (N ++ frameT [120])) := HB.out.x
        generalize frameT [120] = F at *
        go_wp2_with fail
        go_roundw
        case rel => exact ⟨k - 1, N ++ F, by omega, by simp; omega, by rw [show ((k - 1 : Nat) : Int) = (k : Int) - 1 by omega], rfl, HBx.out, C4.kept g5 (by simp), gtrans G4 (gweak g5 (some c))⟩
        case measure => simp [intOf]; omega
    · obtain rfl : k = 0 := by omega
      go_wp2_with fail
      go_ret
      exact ⟨L, rfl, by omega, HB.out, C, G⟩
theorem drawTorn_any (a : Option Addr) (len cap : Nat) (w : World) (hR : CodeAt w a len) :
    Calls Tryz.prog 17 #[.slice a len cap] w fun e w' => ∃ (s : List UInt8) (k : Int), e = .returned (.tuple #[.string (str s), .int .i64 k]) ∧ s.length ≤ 2100 ∧ -1 ≤ k ∧ k ≤ 40 ∧ w.grownBy w' none := by
  go_enter Tryz.func17, Tryz.ntmps17
  go_wp2_with fail
  go_fit (l1New_any a len cap _ hR)
  rintro e w1 ⟨c, rfl, hlt, hc1, g1⟩
  go_wp2_with fail
  go_fit (l8Draw_any c _ hc1)
  rintro e w2 ⟨s, rfl, hs, -, hc2, g2⟩
  go_wp2_with fail
  go_fit (l1From_any c _ _ _ hc2 (by omega) (by omega) (by omega))
  rintro e w3 ⟨k, ⟨hk0, hk1⟩, rfl, hc3, g3⟩
  go_wp2_with fail
  go_ret2
  exact ⟨s, k, rfl, hs, hk0, hk1, gfresh g1 hlt (gtrans g2 g3)⟩
end Go.Proofs.YtnhefdmnpoaegaaGreatDoor
namespace Go.Proofs.YtnhefdmnpoaegaaGreatDoor
open Go.ChangeShapes Go.WideShapes Go.ChangeAt Go.RowKit

/-- a log that can be read to its end, or in which reading stops whatever follows -/
def LogP (s : List UInt8) : Prop := framesT (entsT s) = s ∨ ∀ t, entsT (s ++ t) = entsT s
theorem x_none (t : List UInt8) : entsT (frameT [120] ++ t) = [] := by
  refine entsT_no fun ⟨_, h2⟩ => ?_
  rw [(frame_first (t := [120]) t (by decide)).2.1] at h2
  revert h2
  decide
theorem LogB.p {s : List UInt8} (h : LogB s) : LogP s := by
  obtain ⟨l, h1, rfl⟩ := h
  induction l with
  | nil => left; simp [ents_nil, framesT]
  | cons a r ih =>
    cases a with
    | none =>
      right
      intro t
      simp only [List.flatMap_cons, blockT, List.append_assoc]
      rw [x_none, x_none]
    | some p =>
      have hok := h1 p (by simp)
      have e1 := ents_frame hok (r.flatMap blockT)
      rcases ih (fun q hq => h1 q (by simp [hq])) with h | h
      · left
        simp only [List.flatMap_cons, blockT]
        rw [e1, framesT, List.flatMap_cons]
        change frameT p.text ++ framesT _ = _
        rw [h]
      · right
        intro t
        simp only [List.flatMap_cons, blockT, List.append_assoc]
        rw [e1, ents_frame hok, h t]
theorem zeros_none (n : Nat) (hn : 121 ≤ n) (t : List UInt8) : entsT (List.replicate n 0 ++ t) = [] := by
  refine entsT_no fun ⟨h1, _⟩ => ?_
  simp only [firstOk, Bool.and_eq_true, decide_eq_true_eq] at h1
  have : n ≤ endT (List.replicate n (0 : UInt8) ++ t) := by
    unfold endT
    rw [List.takeWhile_append_of_pos (fun x hx => by rw [List.eq_of_mem_replicate hx]; decide)]
    simp
  omega
theorem LogP.zeros (n : Nat) (hn : 121 ≤ n) : LogP (List.replicate n 0) := by
  right
  intro t
  have := zeros_none n hn []
  rw [List.append_nil] at this
  rw [zeros_none n hn, this]
/-- a patch is noted in a log that can be read to its end -/
theorem noted_ents {s : List UInt8} {p : PZ} (h : framesT (entsT s) = s) (hp : p.ok = true) : entsT (s ++ frameT p.text) = entsT s ++ [p] := by
  conv => lhs; rw [← h]
  rw [ents_frames _ (ents_ok s), ents_one hp]
theorem frames_take (l : List PZ) (i : Nat) (h : i < l.length) : framesT (l.take (i + 1)) = framesT (l.take i) ++ frameT l[i].text := by
  unfold framesT
  rw [List.take_succ_eq_append_getElem h, List.flatMap_append]
  simp only [List.flatMap_cons, List.flatMap_nil, List.append_nil]
theorem frames_len_le (s : List UInt8) (i : Nat) : (framesT ((entsT s).take i)).length ≤ s.length := by
  have h1 := used_front s i
  have h2 : (framesT ((entsT s).take i)).length = usedN (entsT s) i := by
    rw [framesT_len]; unfold usedN; rw [List.take_length]
  omega
theorem frames_front (s : List UInt8) : (framesT (entsT s)).length ≤ s.length ∧ s.take (framesT (entsT s)).length = framesT (entsT s) := by
  obtain ⟨more, h, -⟩ := ents_front s
  refine ⟨?_, ?_⟩
  · have := congrArg List.length h
    rw [List.length_append] at this; omega
  · conv => lhs; arg 2; rw [h]
    simp
end Go.Proofs.YtnhefdmnpoaegaaGreatDoor
namespace Go.Proofs.YtnhefdmnpoaegaaGreatDoor
open Go.ChangeShapes Go.WideShapes Go.ChangeAt Go.RowKit
attribute [local go_sem] str_list str_size str_add lit_list0 add_lit lit_add str_cut

theorem made_bytes (n : Nat) : (madeCells byteE.z.cells (n * 1)).toList = byteE.all (List.replicate n (0 : UInt8)) := by
  rw [byteE_all, List.map_replicate, Nat.mul_one]
  apply List.ext_getElem?
  intro i
  by_cases hi : i < n
  · rw [List.getElem?_replicate, if_pos hi]
    simp [madeCells, hi, byteE, Value.cells, Nat.mod_one]
  · rw [List.getElem?_eq_none (by rw [Array.length_toList, size_madeCells]; omega), List.getElem?_eq_none (by simp; omega)]
def zeroB (n : Nat) : Array Value := madeCells byteE.z.cells (n * 1)
theorem make_bytes (n : Nat) (x : Int) (hx : x = n) (hn : n ≤ 1048576) (w : World) : (Instr.makeSlice 22 (.int .i64 x) (.int .i64 x)).run Tryz.prog w = .ok (.slice (some ⟨w.heap.size, 0, none⟩) n n) (w.alloc (.cells (zeroB n) 5)) := by
  subst hx
  obtain ⟨i, hi, hz, h1, h2⟩ := info_parts byteE.info
  have hr := run_make (P := Tryz.prog) w byteE.S byteE.T i byteE.z byteE.und hi hz .i64 .i64 n n (by omega) (by omega) (by rw [h2]; show (1 : Int) * n ≤ _; omega) (by omega)
  rw [h1] at hr
  simp only [Int.toNat_natCast] at hr
  exact hr
theorem zeroB_bw (n : Nat) (hn : n ≤ 1048576) (w : World) : BW (w.alloc (.cells (zeroB n) 5)) w.heap.size (.slice (some ⟨w.heap.size, 0, none⟩) n n) (List.replicate n 0) := by
  have h := BW.own (Own.fresh byteE (base := w.heap.size) w (List.replicate n 0) (zeroB n) (made_bytes n) (by simp; omega) (Nat.le_refl _))
  simp only [List.length_replicate] at h
  exact h
theorem zeroB_back (n : Nat) (hn : n ≤ 1048576) (w : World) : (convert 22 9 (.slice (some ⟨w.heap.size, 0, none⟩) n n)).run Tryz.prog (w.alloc (.cells (zeroB n) 5)) = .ok (.string (str (List.replicate n 0))) (w.alloc (.cells (zeroB n) 5)) := BW.back (zeroB_bw n hn w)
theorem drawEntries_any (a : Option Addr) (len cap : Nat) (w : World) (hR : CodeAt w a len) :
    Calls Tryz.prog 8 #[.slice a len cap] w fun e w' => ∃ s : List UInt8, e = .returned (.string (str s)) ∧ s.length ≤ 2103 ∧ w.grownBy w' none := by
  go_enter Tryz.func8, Tryz.ntmps8
  go_wp2_with fail
  go_fit (l1New_any a len cap _ hR)
  rintro e w1 ⟨c, rfl, hlt, hc1, g1⟩
  go_wp2_with fail
  go_fit (l8Draw_any c _ hc1)
  rintro e w2 ⟨s, rfl, hs, -, hc2, g2⟩
  go_wp2_with fail
  go_fit (l1Once_any c _ _ hc2 (by omega))
  rintro e w3 ⟨b, rfl, hc3, g3⟩
  cases b
  · go_wp2_with fail
    go_ret
    exact ⟨s, rfl, by omega, gfresh g1 hlt (gtrans g2 g3)⟩
  · have hB : ∀ (w : World), Cur w c → Calls Tryz.prog 28 #[.pointer (some ⟨c, 0, none⟩), .string (str s), .string ⟨#[48, 49, 57, 32, 10]⟩] w fun e w' => ∃ r : List UInt8, e = .returned (.string (str r)) ∧ r.length ≤ s.length + 3 ∧ Cur w' c ∧ w.grownBy w' (some c) := fun w hc => l1Bend_any c s [48, 49, 57, 32, 10] w hc (by omega) (by simp) (by simp)
    go_wp2_with fail
    go_fit (hB _ hc3)
    rintro e w4 ⟨r, rfl, hr, hc4, g4⟩
    go_wp2_with fail
    go_ret
    exact ⟨r, rfl, by omega, gfresh g1 hlt (gtrans g2 (gtrans g3 g4))⟩
theorem drawFramed_any (a : Option Addr) (len cap : Nat) (w : World) (hR : CodeAt w a len) :
    Calls Tryz.prog 10 #[.slice a len cap] w fun e w' => ∃ s : List UInt8, e = .returned (.string (str s)) ∧ s.length ≤ 200 ∧ w.grownBy w' none := by
  go_enter Tryz.func10, Tryz.ntmps10
  go_wp2_with fail
  go_fit (l1New_any a len cap _ hR)
  rintro e w1 ⟨c, rfl, hlt, hc1, g1⟩
  go_wp2_with fail
  go_fit (l1Once_any c _ _ hc1 (by omega))
  rintro e w2 ⟨b, rfl, hc2, g2⟩
  cases b
  · go_wp2_with fail
    go_fit (l1Below_any c _ _ (hc2.alloc _) (by omega))
    rintro e w3 ⟨x, ⟨hx0, hx1⟩, rfl, hc3, g3⟩
    obtain ⟨k, rfl⟩ := Int.eq_ofNat_of_zero_le hx0
    obtain ⟨v, hv, hcell⟩ : ∃ v : List UInt8, v.length ≤ 200 ∧ w3.cell? ⟨w2.heap.size, k, none⟩ = some (.string (str v)) := by
      rw [table_cell g3 hc2.lt k]
      rcases (show k = 0 ∨ k = 1 ∨ k = 2 ∨ k = 3 ∨ k = 4 by omega) with rfl | rfl | rfl | rfl | rfl
      · exact ⟨[], by simp, rfl⟩
      · exact ⟨[97, 32, 98], by simp, rfl⟩
      · exact ⟨[55, 32, 49, 32, 50], by simp, rfl⟩
      · exact ⟨[97, 10], by simp, rfl⟩
      · exact ⟨[32, 32], by simp, rfl⟩
    go_wp2_with fail
    go_ret
    exact ⟨v, rfl, hv, gfresh g1 hlt (gtrans (galloc g2 _) g3)⟩
  · go_wp2_with fail
    go_fit (l1Below_any c _ _ hc2 (by omega))
    rintro e w3 ⟨x, ⟨hx0, hx1⟩, rfl, hc3, g3⟩
    obtain ⟨k, rfl⟩ := Int.eq_ofNat_of_zero_le hx0
    have hmk := make_bytes (100 + k) (100 + (k : Int)) (by omega) (by omega)
    have hbk := zeroB_back (100 + k) (by omega)
    go_wp2_with fail
    go_ret
    exact ⟨List.replicate (100 + k) 0, rfl, by simp; omega, gfresh g1 hlt (galloc (gtrans g2 g3) _)⟩
theorem drawNoted_any (a : Option Addr) (len cap : Nat) (w : World) (hR : CodeAt w a len) :
    Calls Tryz.prog 6 #[.slice a len cap] w fun e w' => ∃ (s : List UInt8) (p : PZ) (dv vv : Value), e = .returned (.tuple #[.string (str s), .agg #[.int .i64 p.row, dv, vv]]) ∧ s.length ≤ 2100 ∧ LogP s ∧ IS w' w.heap.size dv p.ds ∧ IS w' w.heap.size vv p.vs ∧ w.grownBy w' none := by
  have Z0 := Zero3.new w
  have e0 := galloc (grefl w) (.cells #[.int .i64 0, .slice none 0 0, .slice none 0 0] 26)
  have hR0 := hR.kept (gbelow e0)
  have hs0 : w.heap.size < (w.alloc (.cells #[.int .i64 0, .slice none 0 0, .slice none 0 0] 26)).heap.size := by simp
  go_enter Tryz.func6, Tryz.ntmps6
  go_upto_region 1 with (fail)
  generalize w.alloc (.cells #[.int .i64 0, .slice none 0 0, .slice none 0 0] 26) = W0 at *
  go_wp2_with fail
  go_fit (l1New_any a len cap _ hR0)
  rintro e w1 ⟨c, rfl, hlt, hc1, g1⟩
  go_wp2_with fail
  go_fit (l8Draw_any c _ hc1)
  rintro e w2 ⟨s, rfl, hs, hB, hc2, g2⟩
  have HP : Hid (LogP s) := hB.p
  clear hB
  go_wp2_with fail
  go_fit (l1Once_any c _ _ hc2 (by omega))
  rintro e w3 ⟨b, rfl, hc3, g3⟩
  have Z3 := ((Z0.kept g1 (by simp)).kept g2 (by simp; omega)).kept g3 (by simp; omega)
  have G3 : w.grownBy w3 none := gfresh (gtrans e0 g1) (by omega) (gtrans g2 g3)
  have hcl : w.heap.size < c := by omega
  clear Z0 g1 g2 g3 hc1 hc2 e0 hR hR0
  go_upto_if 11 with (fail)
  go_cut [5] (fun t wc => ∃ s : List UInt8, t = .string (str s) ∧ s.length ≤ 2100 ∧ Hid (LogP s) ∧ Cur wc c ∧ Zero3 wc w.heap.size ∧ w.grownBy wc none)
  case first =>
    cases b
    · go_wp2_with fail
      go_meet
      exact ⟨s, rfl, hs, HP, hc3, Z3, G3⟩
    · go_wp2_with fail
      go_fit (l1Below_any c _ _ hc3 (by omega))
      rintro e w4 ⟨x, ⟨hx0, hx1⟩, rfl, hc4, g4⟩
      obtain ⟨k, rfl⟩ := Int.eq_ofNat_of_zero_le hx0
      have hmk := make_bytes (1992 - k) (1992 - (k : Int)) (by omega) (by omega)
      have hbk := zeroB_back (1992 - k) (by omega)
      go_wp2_with fail
      go_meet
      exact ⟨List.replicate (1992 - k) 0, rfl, by simp; omega, LogP.zeros _ (by omega), hc4.alloc _, (Z3.kept g4 (by simp; omega)).kept (galloc (grefl w4) _) (by simp), galloc (gfresh G3 (by omega) g4) _⟩
  case rest =>
    clear Z3 G3 hc3 HP hs
    obtain ⟨s, rfl, hs, HP, hc3, Z3, G3⟩ := hcut
    go_wp2_with fail
    go_fit (l7Draw_any c _ hc3)
    rintro e w5 ⟨p, dv, vv, rfl, id, iv, -, -, -, hc5, g5⟩
    have Z5 := Z3.kept g5 (by simp; omega)
    have G5 : w.grownBy w5 none := gfresh G3 (by omega) g5
    have hsz := G3.size
    have hszl := cell_lt Z3.c0.1
    obtain ⟨da, dc, rfl, -⟩ := Own.form id
    obtain ⟨va, vc, rfl, -⟩ := Own.form iv
    have hd := i_not_own id hszl
    have hv := i_not_own iv hszl
    have hfin : IS (set3 w5 w.heap.size (.int .i64 p.row) (.slice da p.ds.length dc) (.slice va p.vs.length vc)) w.heap.size (.slice da p.ds.length dc) p.ds ∧ IS (set3 w5 w.heap.size (.int .i64 p.row) (.slice da p.ds.length dc) (.slice va p.vs.length vc)) w.heap.size (.slice va p.vs.length vc) p.vs :=
      ⟨Own.other (Own.other (Own.other (Own.lower id hsz) hd _) hd _) hd _, Own.other (Own.other (Own.other (Own.lower iv hsz) hv _) hv _) hv _⟩
    have hgr := gset3 G5 (Nat.le_refl w.heap.size) (.int .i64 p.row) (.slice da p.ds.length dc) (.slice va p.vs.length vc)
    obtain ⟨⟨z0, y0⟩, ⟨z1, y1⟩, ⟨z2, y2⟩⟩ := Z5
    clear id iv Z3 G3 G5
    go_wp2_with fail
    exact bodyPost_ret (v := .tuple #[.string (str s), .agg #[.int .i64 p.row, .slice da p.ds.length dc, .slice va p.vs.length vc]]) (by simp [results, Tryz.results6, go_sem, z0, z1, z2]) rfl ⟨s, p, _, _, rfl, hs, HP.out, hfin.1, hfin.2, hgr⟩
end Go.Proofs.YtnhefdmnpoaegaaGreatDoor
