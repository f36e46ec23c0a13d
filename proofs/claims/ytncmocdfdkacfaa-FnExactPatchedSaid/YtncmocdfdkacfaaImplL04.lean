/- What the program's functions of chapter 4 return. -/
import Derived.Test.YtncmocdfdkacfaaBaseL04
import Derived.Test.YtncmocdfdkacfaaImplL01
import Derived.Deep.DeepFit
import Derived.Deep.RegionHeld3
namespace Go.Proofs.Ytncmocdfdkacfaa
open Go.ChangeShapes Go.WideShapes Go.ChangeAt Go.RowKit

theorem parityOf_any (v : Value) (l : List Int) (w : World) (h : IR w v l) :
    Calls Try.prog 95 #[v] w fun e w' => e = .returned (.int .i64 (xorZ l)) ∧ w = w' := by
  obtain ⟨a, cap, rfl, hm⟩ := h.form
  go_enter Try.func95, Try.ntmps95
  go_wp2
  go_loop [3, 8] (fun n i => ∃ k : Nat, k ≤ l.length ∧ i = .int .i64 k ∧ n = .int .i64 (foldX (l.take k)) ∧ Hid ((l.take k).all okv = true)) (fun _ i => l.length - (intOf i).toNat)
  case atStart => exact ⟨0, Nat.zero_le _, rfl, rfl, rfl⟩
  case round =>
    obtain ⟨k, hk, rfl, rfl, HA⟩ := hrel
    by_cases hlt : k < l.length
    · obtain ⟨g, o, rfl, c0⟩ := h.at k hlt
      cases hok : okv l[k]
      · have HN := Lib.hid (xorZ_bad hlt hok)
        have hok' : inB l[k] 0 32767 = false := hok
        clear hok
        go_wp2_with fail
        go_fit (implValueOk_any _ _)
        rintro e w' ⟨rfl, rfl⟩
        go_wp2_with fail
        go_ret
        exact ⟨ret_int HN.out.symm, rfl⟩
      · obtain ⟨h1, h2⟩ := xor_step hlt hok HA.out
        have H1 : Hid ((l.take (k + 1)).all okv = true) := h1
        have H2 := Lib.hid h2
        have hok' : inB l[k] 0 32767 = true := hok
        clear hok h1 h2 HA
        go_wp2_with fail
        go_fit (implValueOk_any _ _)
        rintro e w' ⟨rfl, rfl⟩
        go_wp2_with fail
        go_round
        case rel => exact ⟨k + 1, by omega, by go_num, by rw [H2.out], H1⟩
        case measure => simp [intOf]; omega
    · have HN : Hid (xorZ l = (foldX (l.take k) : Int)) := by
        show _ = _
        have := HA.out
        rw [List.take_of_length_le (by omega)] at this ⊢
        exact xorZ_yes this
      clear HA
      go_wp2_with fail
      go_ret
      exact ⟨ret_int HN.out.symm, rfl⟩
theorem implXor_any (v : Value) (l : List Int) (w : World) (h : IR w v l) :
    Calls Try.prog 73 #[v] w fun e w' => e = .returned (.int .i64 (xorZ l)) ∧ w = w' := by
  obtain ⟨a, cap, rfl, hm⟩ := h.form
  go_enter Try.func73, Try.ntmps73
  go_wp2_with fail
  go_fit (parityOf_any _ l _ h)
  rintro e w' ⟨rfl, rfl⟩
  go_wp2_with fail
  go_ret
  exact ⟨rfl, rfl⟩
end Go.Proofs.Ytncmocdfdkacfaa
