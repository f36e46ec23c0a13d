/- The drawn logs of chapter 8. -/
import Derived.Test.YtnhefdmnpoaegaaGreatDoorDrawL07
import Derived.Test.YtnhefdmnpoaegaaGreatDoorSpecL08c
namespace Go.Proofs.YtnhefdmnpoaegaaGreatDoor
open Go.ChangeShapes Go.WideShapes Go.ChangeAt Go.RowKit
attribute [local go_sem] str_list str_size str_add lit_list0 add_lit lit_add str_cut

/-- a drawn text -/
def DrawnS (B : Nat) (c : Nat) (w : World) (e : Ending) (w' : World) : Prop :=
  ∃ s : List UInt8, e = .returned (.string (str s)) ∧ s.length ≤ B ∧ Cur w' c ∧ w.grownBy w' (some c)
theorem framed_x (w : World) : Calls Tryz.prog 33 #[.string ⟨#[120]⟩] w (Pure (.string (str (frameT [120]))) w) := l8Framed_any [120] w (by simp)
theorem notedZ_len (l : List UInt8) (p : PZ) : (notedZ l p).length ≤ max l.length 2000 := by
  cases h : notedOk l p
  · rw [noted_no h]; omega
  · rw [noted_yes h]
    simp only [notedOk, Bool.and_eq_true, decide_eq_true_eq] at h
    simp; omega
set_option maxHeartbeats 2000000 in
theorem l8Draw_any (c : Nat) (w : World) (hc : Cur w c) :
    Calls Tryz.prog 21 #[.pointer (some ⟨c, 0, none⟩)] w (DrawnS 2100 c w) := by
  go_enter Tryz.func21, Tryz.ntmps21
  go_wp2_with fail
  go_fit (l1Below_any c _ _ hc (by omega))
  rintro e w1 ⟨n, ⟨hn0, hn1⟩, rfl, hc1, g1⟩
  obtain ⟨n, rfl⟩ := Int.eq_ofNat_of_zero_le hn0
  go_wp2_with fail
  go_loopw [3, 4] (fun s i wr => ∃ (k : Nat) (L : List UInt8), k ≤ 3 ∧ L.length + 30 * k ≤ 2100 ∧ i = .int .i64 k ∧ s = .string (str L) ∧ Cur wr c ∧ w.grownBy wr (some c)) (fun _ i _ => (intOf i).toNat)
  case atStart => exact ⟨n, [], by omega, by simp; omega, rfl, rfl, hc1, g1⟩
  case round =>
    clear hc1 g1
    obtain ⟨k, L, hk, hL, rfl, rfl, C, G⟩ := hrel
    by_cases hpos : 0 < k
    · have hpi : (0 : Int) < k := by omega
      go_wp2_with fail
      go_fit (l7Draw_any c _ C)
      rintro e w2 ⟨p, dv, vv, rfl, id, iv, -, -, -, C2, g2⟩
      go_wp2_with fail
      go_fit (specNoted_any L p _ _ _ (Own.rd id) (Own.rd iv) (by omega))
      rintro e w3 ⟨rfl, g3⟩
      have C3 := C2.kept g3 (by simp)
      have G3 := gtrans G (gtrans g2 (gweak g3 (some c)))
      have hN : (notedZ L p).length + 30 * k ≤ 2100 := by have := notedZ_len L p; omega
      generalize notedZ L p = N at *
      generalize notedOk L p = o at *
      clear C2 C g2 g3 G
      go_wp2_with fail
      go_fit (l1Once_any c _ _ C3 (by omega))
      rintro e w4 ⟨b, rfl, C4, g4⟩
      have G4 := gtrans G3 g4
      cases b
      · go_wp2_with fail
        go_roundw
        case rel => exact ⟨k - 1, N, by omega, by omega, by rw [show ((k - 1 : Nat) : Int) = (k : Int) - 1 by omega], rfl, C4, G4⟩
        case measure => simp [intOf]; omega
      · have hx : (frameT [120]).length ≤ 21 := frameT_length [120] (by simp)
        go_wp2_with fail
        go_fit (framed_x _)
        rintro e w5 ⟨rfl, g5⟩
        generalize frameT [120] = F at *
        go_wp2_with fail
        go_roundw
        case rel => exact ⟨k - 1, N ++ F, by omega, by simp; omega, by rw [show ((k - 1 : Nat) : Int) = (k : Int) - 1 by omega], rfl, C4.kept g5 (by simp), gtrans G4 (gweak g5 (some c))⟩
        case measure => simp [intOf]; omega
    · obtain rfl : k = 0 := by omega
      go_wp2_with fail
      go_ret
      exact ⟨L, rfl, by omega, C, G⟩
theorem drawTorn_any (a : Option Addr) (len cap : Nat) (w : World) (hR : CodeAt w a len) :
    Calls Tryz.prog 17 #[.slice a len cap] w fun e w' => ∃ (s : List UInt8) (k : Int), e = .returned (.tuple #[.string (str s), .int .i64 k]) ∧ s.length ≤ 2100 ∧ -1 ≤ k ∧ k ≤ 40 ∧ w.grownBy w' none := by
  go_enter Tryz.func17, Tryz.ntmps17
  go_wp2_with fail
  go_fit (l1New_any a len cap _ hR)
  rintro e w1 ⟨c, rfl, hlt, hc1, g1⟩
  go_wp2_with fail
  go_fit (l8Draw_any c _ hc1)
  rintro e w2 ⟨s, rfl, hs, hc2, g2⟩
  go_wp2_with fail
  go_fit (l1From_any c _ _ _ hc2 (by omega) (by omega) (by omega))
  rintro e w3 ⟨k, ⟨hk0, hk1⟩, rfl, hc3, g3⟩
  go_wp2_with fail
  go_ret2
  exact ⟨s, k, rfl, hs, hk0, hk1, gfresh g1 hlt (gtrans g2 g3)⟩
end Go.Proofs.YtnhefdmnpoaegaaGreatDoor
