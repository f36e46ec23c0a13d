/- What the specification's functions of chapter 4 return. -/
import Derived.Test.YtekjjemamiddaaaBaseL04
import Derived.Test.YtekjjemamiddaaaSpecL01
import Derived.Deep.DeepFit
namespace Go.Proofs.Ytekjjemamiddaaa
open Go.ChangeShapes Go.WideShapes Go.ChangeAt Go.RowKit

theorem specXor_any (v : Value) (l : List Int) (w : World) (h : IR w v l) :
    Calls Try.prog 13 #[v] w fun e w' => e = .returned (.int .i64 (xorZ l)) ∧ w = w' := by
  obtain ⟨a, cap, rfl, hm⟩ := h.form
  go_enter Try.func13, Try.ntmps13
  go_wp2
  go_loop [3, 4] (fun n i => ∃ k : Nat, k ≤ l.length ∧ i = .int .i64 k ∧ n = .int .i64 (foldX (l.take k)) ∧ Hid ((l.take k).all okv = true)) (fun _ i => l.length - (intOf i).toNat)
  case atStart => exact ⟨0, Nat.zero_le _, rfl, rfl, rfl⟩
  case round =>
    obtain ⟨k, hk, rfl, rfl, HA⟩ := hrel
    by_cases hlt : k < l.length
    · obtain ⟨g, o, rfl, c0⟩ := h.at k hlt
      cases hok : okv l[k]
      · have HN := Lib.hid (xorZ_bad hlt hok)
        have hok' : inB l[k] 0 32767 = false := hok
        clear hok
        go_wp2_with fail
        go_fit (l1Value_any _ _)
        rintro e w' ⟨rfl, rfl⟩
        go_wp2_with fail
        go_ret
        exact ⟨ret_int HN.out.symm, rfl⟩
      · obtain ⟨h1, h2⟩ := xor_step hlt hok HA.out
        have H1 : Hid ((l.take (k + 1)).all okv = true) := h1
        have H2 := Lib.hid h2
        have hok' : inB l[k] 0 32767 = true := hok
        clear hok h1 h2 HA
        go_wp2_with fail
        go_fit (l1Value_any _ _)
        rintro e w' ⟨rfl, rfl⟩
        go_wp2_with fail
        go_round
        case rel => exact ⟨k + 1, by omega, by go_num, by rw [H2.out], H1⟩
        case measure => simp [intOf]; omega
    · have HN : Hid (xorZ l = (foldX (l.take k) : Int)) := by
        show _ = _
        have := HA.out
        rw [List.take_of_length_le (by omega)] at this ⊢
        exact xorZ_yes this
      clear HA
      go_wp2_with fail
      go_ret
      exact ⟨ret_int HN.out.symm, rfl⟩
theorem specOdd_any (v : Value) (l : List Int) (w : World) (h : IR w v l) :
    Calls Try.prog 15 #[v] w fun e w' => e = .returned (.bool (decide (0 < xorZ l))) ∧ w = w' := by
  obtain ⟨a, cap, rfl, hm⟩ := h.form
  go_enter Try.func15, Try.ntmps15
  go_wp2_with fail
  go_fit (specXor_any _ l _ h)
  rintro e w' ⟨rfl, rfl⟩
  go_wp2_with fail
  go_ret
  exact ⟨by simp, rfl⟩
theorem specMissing_any (v : Value) (l : List Int) (a s : Int) (w : World) (h : IR w v l) :
    Calls Try.prog 12 #[v, .int .i64 a, .int .i64 s] w fun e w' => e = .returned (.int .i64 (missZ l a s)) ∧ w = w' := by
  obtain ⟨ad, cap, rfl, hm⟩ := h.form
  cases hl : l.all okv
  · have HN := Lib.hid (missZ_no (l := l) (at' := a) (s := s) (.inl hl))
    go_enter Try.func12, Try.ntmps12
    go_wp2_with fail
    go_fit (specXor_any _ l _ h)
    rintro e w' ⟨rfl, rfl⟩
    rw [xorZ_no hl]
    go_wp2_with fail
    go_ret
    exact ⟨ret_int HN.out.symm, rfl⟩
  have hlt := foldX_lt hl
  have HX := Lib.hid (xorZ_yes hl)
  by_cases h0 : a < 0
  · have HN := Lib.hid (missZ_no (l := l) (at' := a) (s := s) (.inr (.inl h0)))
    clear hl
    go_enter Try.func12, Try.ntmps12
    go_wp2_with fail
    go_fit (specXor_any _ l _ h)
    rintro e w' ⟨rfl, rfl⟩
    rw [HX.out]
    go_wp2_with fail
    go_ret
    exact ⟨ret_int HN.out.symm, rfl⟩
  obtain ⟨k, rfl⟩ := Int.eq_ofNat_of_zero_le (show 0 ≤ a by omega)
  by_cases h1 : k < l.length
  rotate_left
  · have HN := Lib.hid (missZ_no (l := l) (at' := k) (s := s) (.inr (.inr (.inl (by omega)))))
    clear hl
    go_enter Try.func12, Try.ntmps12
    go_wp2_with fail
    go_fit (specXor_any _ l _ h)
    rintro e w' ⟨rfl, rfl⟩
    rw [HX.out]
    go_wp2_with fail
    go_ret
    exact ⟨ret_int HN.out.symm, rfl⟩
  cases hs : okv s
  · have HN := Lib.hid (missZ_no (l := l) (at' := k) (s := s) (.inr (.inr (.inr hs))))
    have hs' : inB s 0 32767 = false := hs
    clear hl hs
    go_enter Try.func12, Try.ntmps12
    go_wp2_with fail
    go_fit (specXor_any _ l _ h)
    rintro e w' ⟨rfl, rfl⟩
    rw [HX.out]
    go_wp2_with fail
    go_fit (l1Value_any _ _)
    rintro e w' ⟨rfl, rfl⟩
    go_wp2_with fail
    go_ret
    exact ⟨ret_int HN.out.symm, rfl⟩
  have HN : Hid (missZ l k s = bits .xor .i64 (bits .xor .i64 (foldX l) l[k]) s) := by
    show _ = _
    have b1 := okv_iff.1 (all_get hl h1)
    have b2 := okv_iff.1 hs
    have b3 : foldX l ^^^ l[k].toNat < 32768 := xor_lt hlt (by omega)
    rw [missZ_yes hl h1 hs, xor64 (a := (foldX l : Int)) (by omega) (by omega) b1.1 b1.2, xor64 (by omega) (by simp only [Int.toNat_natCast]; omega) b2.1 b2.2]
    rfl
  have hs' : inB s 0 32767 = true := hs
  obtain ⟨g, o, rfl, c0⟩ := h.at k h1
  clear hl hs
  go_enter Try.func12, Try.ntmps12
  go_wp2_with fail
  go_fit (specXor_any _ l _ h)
  rintro e w' ⟨rfl, rfl⟩
  rw [HX.out]
  go_wp2_with fail
  go_fit (l1Value_any _ _)
  rintro e w' ⟨rfl, rfl⟩
  go_wp2_with fail
  go_ret
  exact ⟨ret_int HN.out.symm, rfl⟩
end Go.Proofs.Ytekjjemamiddaaa
