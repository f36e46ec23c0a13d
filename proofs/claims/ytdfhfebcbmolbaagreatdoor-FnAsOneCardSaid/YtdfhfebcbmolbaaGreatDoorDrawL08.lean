/- The drawn logs of chapter 8. Logs to which a patch is noted. The drawn arguments of chapter 8's laws. -/
import Derived.Test.YtdfhfebcbmolbaaGreatDoorDrawL07
import Derived.Test.YtdfhfebcbmolbaaGreatDoorMathL08
import Derived.Test.YtdfhfebcbmolbaaGreatDoorDrawB
namespace Go.Proofs.YtdfhfebcbmolbaaGreatDoor
open Go.ChangeShapes Go.WideShapes Go.ChangeAt Go.RowKit
attribute [local go_sem] str_list str_size str_add lit_list0 add_lit lit_add str_cut

/-- a block of a drawn log: the frame of a patch, or of the text x -/
def blockT : Option PZ → List UInt8
  | some p => frameT p.text
  | none => frameT [120]
/-- a log that is made of such blocks -/
def LogB (s : List UInt8) : Prop := ∃ l : List (Option PZ), (∀ p, some p ∈ l → p.ok = true) ∧ s = l.flatMap blockT
theorem LogB.nil : LogB [] := ⟨[], by simp, rfl⟩
theorem LogB.noted {s : List UInt8} (h : LogB s) (p : PZ) : LogB (notedZ s p) := by
  cases hn : notedOk s p
  · rw [noted_no hn]; exact h
  · rw [noted_yes hn]
    simp only [notedOk, Bool.and_eq_true] at hn
    obtain ⟨l, h1, rfl⟩ := h
    refine ⟨l ++ [some p], fun q hq => ?_, by simp [blockT]⟩
    rcases List.mem_append.1 hq with hq | hq
    · exact h1 q hq
    · simp at hq; subst hq; exact hn.1
theorem LogB.x {s : List UInt8} (h : LogB s) : LogB (s ++ frameT [120]) := by
  obtain ⟨l, h1, rfl⟩ := h
  refine ⟨l ++ [none], fun q hq => ?_, by simp [blockT]⟩
  rcases List.mem_append.1 hq with hq | hq
  · exact h1 q hq
  · simp at hq
/-- a drawn text -/
def DrawnS (B : Nat) (c : Nat) (w : World) (e : Ending) (w' : World) : Prop :=
  ∃ s : List UInt8, e = .returned (.string (str s)) ∧ s.length ≤ B ∧ LogB s ∧ Cur w' c ∧ w.grownBy w' (some c)
theorem framed_x (w : World) : Calls Tryz.prog 106 #[.string ⟨#[120]⟩] w (Pure (.string (str (frameT [120]))) w) := l8Framed_any [120] w (by simp)
theorem notedZ_len (l : List UInt8) (p : PZ) : (notedZ l p).length ≤ max l.length 2000 := by
  cases h : notedOk l p
  · rw [noted_no h]; omega
  · rw [noted_yes h]
    simp only [notedOk, Bool.and_eq_true, decide_eq_true_eq] at h
    simp; omega
set_option maxHeartbeats 2000000 in
theorem l8Draw_any (c : Nat) (w : World) (hc : Cur w c) :
    Calls Tryz.prog 148 #[.pointer (some ⟨c, 0, none⟩)] w (DrawnS 2100 c w) := by
  go_enter Tryz.func148, Tryz.ntmps148
  go_wp2_with fail
  go_fit (l1Below_any c _ _ hc (by omega))
  rintro e w1 ⟨n, ⟨hn0, hn1⟩, rfl, hc1, g1⟩
  obtain ⟨n, rfl⟩ := Int.eq_ofNat_of_zero_le hn0
  go_wp2_with fail
  go_loopw [3, 4] (fun s i wr => ∃ (k : Nat) (L : List UInt8), k ≤ 3 ∧ L.length + 30 * k ≤ 2100 ∧ i = .int .i64 k ∧ s = .string (str L) ∧ Hid (LogB L) ∧ Cur wr c ∧ w.grownBy wr (some c)) (fun _ i _ => (intOf i).toNat)
  case atStart => exact ⟨n, [], by omega, by simp; omega, rfl, rfl, LogB.nil, hc1, g1⟩
  case round =>
    clear hc1 g1
    obtain ⟨k, L, hk, hL, rfl, rfl, HB, C, G⟩ := hrel
    by_cases hpos : 0 < k
    · have hpi : (0 : Int) < k := by omega
      go_wp2_with fail
      go_fit (l7Draw_any c _ C)
      rintro e w2 ⟨p, dv, vv, rfl, id, iv, -, -, -, C2, g2⟩
      go_wp2_with fail
      go_fit (specNoted_any L p _ _ _ (Own.rd id) (Own.rd iv) (by omega))
      rintro e w3 ⟨rfl, g3⟩
      have C3 := C2.kept g3 (by simp)
      have G3 := gtrans G (gtrans g2 (gweak g3 (some c)))
      have hN : (notedZ L p).length + 30 * k ≤ 2100 := by have := notedZ_len L p; omega
      replace HB : Hid (LogB (notedZ L p)) := HB.out.noted p
      generalize notedZ L p = N at *
      generalize notedOk L p = o at *
      clear C2 C g2 g3 G
      go_wp2_with fail
      go_fit (l1Once_any c _ _ C3 (by omega))
      rintro e w4 ⟨b, rfl, C4, g4⟩
      have G4 := gtrans G3 g4
      cases b
      · go_wp2_with fail
        go_roundw
        case rel => exact ⟨k - 1, N, by omega, by omega, by rw [show ((k - 1 : Nat) : Int) = (k : Int) - 1 by omega], rfl, HB.out, C4, G4⟩
        case measure => simp [intOf]; omega
      · have hx : (frameT [120]).length ≤ 21 := frameT_length [120] (by simp)
        go_wp2_with fail
        go_fit (framed_x _)
        rintro e w5 ⟨rfl, g5⟩
        have HBx : Hid (LogB (N ++ frameT [120])) := HB.out.x
        generalize frameT [120] = F at *
        go_wp2_with fail
        go_roundw
        case rel => exact ⟨k - 1, N ++ F, by omega, by simp; omega, by rw [show ((k - 1 : Nat) : Int) = (k : Int) - 1 by omega], rfl, HBx.out, C4.kept g5 (by simp), gtrans G4 (gweak g5 (some c))⟩
        case measure => simp [intOf]; omega
    · obtain rfl : k = 0 := by omega
      go_wp2_with fail
      go_ret
      exact ⟨L, rfl, by omega, HB.out, C, G⟩
end Go.Proofs.YtdfhfebcbmolbaaGreatDoor
namespace Go.Proofs.YtdfhfebcbmolbaaGreatDoor
open Go.ChangeShapes Go.WideShapes Go.ChangeAt Go.RowKit

/-- a log that can be read to its end, or in which reading stops whatever follows -/
def LogP (s : List UInt8) : Prop := framesT (entsT s) = s ∨ ∀ t, entsT (s ++ t) = entsT s
theorem x_none (t : List UInt8) : entsT (frameT [120] ++ t) = [] := by
  refine entsT_no fun ⟨_, h2⟩ => ?_
  rw [(frame_first (t := [120]) t (by decide)).2.1] at h2
  revert h2
  decide
theorem LogB.p {s : List UInt8} (h : LogB s) : LogP s := by
  obtain ⟨l, h1, rfl⟩ := h
  induction l with
  | nil => left; simp [ents_nil, framesT]
  | cons a r ih =>
    cases a with
    | none =>
      right
      intro t
      simp only [List.flatMap_cons, blockT, List.append_assoc]
      rw [x_none, x_none]
    | some p =>
      have hok := h1 p (by simp)
      have e1 := ents_frame hok (r.flatMap blockT)
      rcases ih (fun q hq => h1 q (by simp [hq])) with h | h
      · left
        simp only [List.flatMap_cons, blockT]
        rw [e1, framesT, List.flatMap_cons]
        change frameT p.text ++ framesT _ = _
        rw [h]
      · right
        intro t
        simp only [List.flatMap_cons, blockT, List.append_assoc]
        rw [e1, ents_frame hok, h t]
theorem zeros_none (n : Nat) (hn : 121 ≤ n) (t : List UInt8) : entsT (List.replicate n 0 ++ t) = [] := by
  refine entsT_no fun ⟨h1, _⟩ => ?_
  simp only [firstOk, Bool.and_eq_true, decide_eq_true_eq] at h1
  have : n ≤ endT (List.replicate n (0 : UInt8) ++ t) := by
    unfold endT
    rw [List.takeWhile_append_of_pos (fun x hx => by rw [List.eq_of_mem_replicate hx]; decide)]
    simp
  omega
theorem LogP.zeros (n : Nat) (hn : 121 ≤ n) : LogP (List.replicate n 0) := by
  right
  intro t
  have := zeros_none n hn []
  rw [List.append_nil] at this
  rw [zeros_none n hn, this]
/-- a patch is noted in a log that can be read to its end -/
theorem noted_ents {s : List UInt8} {p : PZ} (h : framesT (entsT s) = s) (hp : p.ok = true) : entsT (s ++ frameT p.text) = entsT s ++ [p] := by
  conv => lhs; rw [← h]
  rw [ents_frames _ (ents_ok s), ents_one hp]
theorem frames_take (l : List PZ) (i : Nat) (h : i < l.length) : framesT (l.take (i + 1)) = framesT (l.take i) ++ frameT l[i].text := by
  unfold framesT
  rw [List.take_succ_eq_append_getElem h, List.flatMap_append]
  simp only [List.flatMap_cons, List.flatMap_nil, List.append_nil]
theorem frames_len_le (s : List UInt8) (i : Nat) : (framesT ((entsT s).take i)).length ≤ s.length := by
  have h1 := used_front s i
  have h2 : (framesT ((entsT s).take i)).length = usedN (entsT s) i := by
    rw [framesT_len]; unfold usedN; rw [List.take_length]
  omega
theorem frames_front (s : List UInt8) : (framesT (entsT s)).length ≤ s.length ∧ s.take (framesT (entsT s)).length = framesT (entsT s) := by
  obtain ⟨more, h, -⟩ := ents_front s
  refine ⟨?_, ?_⟩
  · have := congrArg List.length h
    rw [List.length_append] at this; omega
  · conv => lhs; arg 2; rw [h]
    simp
end Go.Proofs.YtdfhfebcbmolbaaGreatDoor
namespace Go.Proofs.YtdfhfebcbmolbaaGreatDoor
open Go.ChangeShapes Go.WideShapes Go.ChangeAt Go.RowKit
attribute [local go_sem] str_list str_size str_add lit_list0 add_lit lit_add str_cut

theorem made_bytes (n : Nat) : (madeCells byteE.z.cells (n * 1)).toList = byteE.all (List.replicate n (0 : UInt8)) := by
  rw [byteE_all, List.map_replicate, Nat.mul_one]
  apply List.ext_getElem?
  intro i
  by_cases hi : i < n
  · rw [List.getElem?_replicate, if_pos hi]
    simp [madeCells, hi, byteE, Value.cells, Nat.mod_one]
  · rw [List.getElem?_eq_none (by rw [Array.length_toList, size_madeCells]; omega), List.getElem?_eq_none (by simp; omega)]
def zeroB (n : Nat) : Array Value := madeCells byteE.z.cells (n * 1)
theorem make_bytes (n : Nat) (x : Int) (hx : x = n) (hn : n ≤ 1048576) (w : World) : (Instr.makeSlice 22 (.int .i64 x) (.int .i64 x)).run Tryz.prog w = .ok (.slice (some ⟨w.heap.size, 0, none⟩) n n) (w.alloc (.cells (zeroB n) 5)) := by
  subst hx
  obtain ⟨i, hi, hz, h1, h2⟩ := info_parts byteE.info
  have hr := run_make (P := Tryz.prog) w byteE.S byteE.T i byteE.z byteE.und hi hz .i64 .i64 n n (by omega) (by omega) (by rw [h2]; show (1 : Int) * n ≤ _; omega) (by omega)
  rw [h1] at hr
  simp only [Int.toNat_natCast] at hr
  exact hr
theorem zeroB_bw (n : Nat) (hn : n ≤ 1048576) (w : World) : BW (w.alloc (.cells (zeroB n) 5)) w.heap.size (.slice (some ⟨w.heap.size, 0, none⟩) n n) (List.replicate n 0) := by
  have h := BW.own (Own.fresh byteE (base := w.heap.size) w (List.replicate n 0) (zeroB n) (made_bytes n) (by simp; omega) (Nat.le_refl _))
  simp only [List.length_replicate] at h
  exact h
theorem zeroB_back (n : Nat) (hn : n ≤ 1048576) (w : World) : (convert 22 9 (.slice (some ⟨w.heap.size, 0, none⟩) n n)).run Tryz.prog (w.alloc (.cells (zeroB n) 5)) = .ok (.string (str (List.replicate n 0))) (w.alloc (.cells (zeroB n) 5)) := BW.back (zeroB_bw n hn w)
end Go.Proofs.YtdfhfebcbmolbaaGreatDoor
