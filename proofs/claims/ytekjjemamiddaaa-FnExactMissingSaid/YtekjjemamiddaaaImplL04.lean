/- What the program's functions of chapter 4 return. -/
import Derived.Test.YtekjjemamiddaaaBaseL04
import Derived.Test.YtekjjemamiddaaaImplL01
import Derived.Deep.DeepFit
import Derived.Deep.RegionHeld3
namespace Go.Proofs.Ytekjjemamiddaaa
open Go.ChangeShapes Go.WideShapes Go.ChangeAt Go.RowKit

theorem parityOf_any (v : Value) (l : List Int) (w : World) (h : IR w v l) :
    Calls Try.prog 25 #[v] w fun e w' => e = .returned (.int .i64 (xorZ l)) ∧ w = w' := by
  obtain ⟨a, cap, rfl, hm⟩ := h.form
  go_enter Try.func25, Try.ntmps25
  go_wp2
  go_loop [3, 8] (fun n i => ∃ k : Nat, k ≤ l.length ∧ i = .int .i64 k ∧ n = .int .i64 (foldX (l.take k)) ∧ Hid ((l.take k).all okv = true)) (fun _ i => l.length - (intOf i).toNat)
  case atStart => exact ⟨0, Nat.zero_le _, rfl, rfl, rfl⟩
  case round =>
    obtain ⟨k, hk, rfl, rfl, HA⟩ := hrel
    by_cases hlt : k < l.length
    · obtain ⟨g, o, rfl, c0⟩ := h.at k hlt
      cases hok : okv l[k]
      · have HN := Lib.hid (xorZ_bad hlt hok)
        have hok' : inB l[k] 0 32767 = false := hok
        clear hok
        go_wp2_with fail
        go_fit (implValueOk_any _ _)
        rintro e w' ⟨rfl, rfl⟩
        go_wp2_with fail
        go_ret
        exact ⟨ret_int HN.out.symm, rfl⟩
      · obtain ⟨h1, h2⟩ := xor_step hlt hok HA.out
        have H1 : Hid ((l.take (k + 1)).all okv = true) := h1
        have H2 := Lib.hid h2
        have hok' : inB l[k] 0 32767 = true := hok
        clear hok h1 h2 HA
        go_wp2_with fail
        go_fit (implValueOk_any _ _)
        rintro e w' ⟨rfl, rfl⟩
        go_wp2_with fail
        go_round
        case rel => exact ⟨k + 1, by omega, by go_num, by rw [H2.out], H1⟩
        case measure => simp [intOf]; omega
    · have HN : Hid (xorZ l = (foldX (l.take k) : Int)) := by
        show _ = _
        have := HA.out
        rw [List.take_of_length_le (by omega)] at this ⊢
        exact xorZ_yes this
      clear HA
      go_wp2_with fail
      go_ret
      exact ⟨ret_int HN.out.symm, rfl⟩
theorem implXor_any (v : Value) (l : List Int) (w : World) (h : IR w v l) :
    Calls Try.prog 11 #[v] w fun e w' => e = .returned (.int .i64 (xorZ l)) ∧ w = w' := by
  obtain ⟨a, cap, rfl, hm⟩ := h.form
  go_enter Try.func11, Try.ntmps11
  go_wp2_with fail
  go_fit (parityOf_any _ l _ h)
  rintro e w' ⟨rfl, rfl⟩
  go_wp2_with fail
  go_ret
  exact ⟨rfl, rfl⟩
theorem implOdd_any (v : Value) (l : List Int) (w : World) (h : IR w v l) :
    Calls Try.prog 14 #[v] w fun e w' => e = .returned (.bool (decide (0 < xorZ l))) ∧ w = w' := by
  obtain ⟨a, cap, rfl, hm⟩ := h.form
  have hlo := xorZ_lo l
  by_cases h1 : xorZ l = -1
  · have HN := Lib.hid (show decide (0 < xorZ l) = false by simp [h1])
    go_enter Try.func14, Try.ntmps14
    go_wp2_with fail
    go_fit (implXor_any _ l _ h)
    rintro e w' ⟨rfl, rfl⟩
    rw [h1]
    go_wp2_with fail
    go_ret
    exact ⟨ret_bool HN.out.symm, rfl⟩
  · have HN := Lib.hid (show (xorZ l != 0) = decide (0 < xorZ l) by rw [Bool.eq_iff_iff]; simp; omega)
    have hne : (xorZ l != -1) = true := bne_iff_ne.2 h1
    clear h1 hlo
    go_enter Try.func14, Try.ntmps14
    go_wp2_with fail
    go_fit (implXor_any _ l _ h)
    rintro e w' ⟨rfl, rfl⟩
    go_wp2_with fail
    go_ret
    exact ⟨ret_bool HN.out, rfl⟩
theorem implMissing_any (v : Value) (l : List Int) (a s : Int) (w : World) (h : IR w v l) :
    Calls Try.prog 9 #[v, .int .i64 a, .int .i64 s] w (Pure (.int .i64 (missZ l a s)) w) := by
  obtain ⟨ad, cap, rfl, hm⟩ := h.form
  cases hb : inB a 0 (l.length - 1)
  · have HN := Lib.hid (missZ_no (l := l) (at' := a) (s := s) (by have := inB_nf hb; omega))
    go_enter Try.func9, Try.ntmps9
    go_wp2_with fail
    go_fit (between_any _ _ _ _)
    rintro e w' ⟨rfl, rfl⟩
    go_wp2_with fail
    go_ret
    exact ⟨ret_int HN.out.symm, grefl _⟩
  have hk := inB_iff.1 hb
  obtain ⟨k, rfl⟩ := Int.eq_ofNat_of_zero_le hk.1
  have h1 : k < l.length := by omega
  obtain ⟨g, o, rfl, c0⟩ := h.at k h1
  have HN := Lib.hid (three_xor s h1)
  clear hk
  go_enter Try.func9, Try.ntmps9
  go_wp2_with fail
  go_fit (between_any _ _ _ _)
  rintro e w' ⟨rfl, rfl⟩
  go_wp2_with fail
  go_region_held3 (fun w' => w'.cell? ⟨g, o + k, none⟩ = some (.int .i64 l[k])) (first | assumption | exact c0 | exact gkc (gdrew (galloc (grefl w) _) 1) c0 | exact gkc (galloc (gdrew (grefl w) 1) _) c0) (first | (go_at_call 11; go_fit (implXor_any _ l _ (h.kept (gdrew (grefl w) 1))); rintro e w8 ⟨rfl, rfl⟩) | (go_at_call 25; go_fit (parityOf_any _ [s, xorZ l, l[k]] (World.drew _) ((IS.three (base := 0) _ _ _ _ (Nat.zero_le _)).rd.kept (gdrew (grefl _) 1))); rintro e w9 ⟨rfl, rfl⟩))
  go_wp2_with fail
  go_ret
  exact ⟨ret_int HN.out, galloc (gdrew (grefl _) 1) _⟩
end Go.Proofs.Ytekjjemamiddaaa
