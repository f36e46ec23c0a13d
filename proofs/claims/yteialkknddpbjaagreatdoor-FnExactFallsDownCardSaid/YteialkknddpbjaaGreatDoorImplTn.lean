/- What the program's Torn returns. -/
import Derived.Test.YteialkknddpbjaaGreatDoorSpecT
import Derived.Test.YteialkknddpbjaaGreatDoorShelf
namespace Go.Proofs.YteialkknddpbjaaGreatDoor
open Go.ChangeShapes Go.WideShapes Go.ChangeAt Go.RowKit
attribute [local go_sem] str_list str_size str_add lit_list0 add_lit lit_add str_cut

theorem cloneB_any (s : List UInt8) (w : World) (hs : s.length ≤ 281474976710656) :
    Calls Tryz.prog 122 #[.string (str s)] w fun e w' => e = .returned (.string (str s)) ∧ Below w.heap.size w w' := by
  go_enter Tryz.func122, Tryz.ntmps122
  go_wp2_with fail
  go_fit (Tryz.stringslite_Clone (str s) _ (by rw [str_size]; exact hs))
  rintro e w1 ⟨rfl, hb⟩
  go_wp2_with fail
  go_ret
  exact ⟨rfl, hb⟩
theorem implTorn_any (s : List UInt8) (k : Int) (w : World) (hs : s.length ≤ 1100000) (hk : -9223372036854775808 ≤ k ∧ k ≤ 9223372036854775807) :
    Calls Tryz.prog 109 #[.string (str s), .int .i64 k] w fun e w' => e = .returned (.string (str (tornT s k))) ∧ Below w.heap.size w w' := by
  have HM : Hid (s.take (max 0 (min k (s.length : Int))).toNat = tornT s k) := by
    show _ = _
    unfold tornT
    by_cases h : k < 0
    · rw [if_pos h, show max 0 (min k (s.length : Int)) = 0 by omega]; rfl
    · rw [if_neg h]
      by_cases hl : k ≤ s.length
      · rw [show max 0 (min k (s.length : Int)) = k by omega]
      · rw [show max 0 (min k (s.length : Int)) = s.length by omega, List.take_of_length_le (by omega), List.take_of_length_le (by omega)]
  have h0 : 0 ≤ max 0 (min k (s.length : Int)) := by omega
  have h1 : max 0 (min k (s.length : Int)) ≤ s.length := by omega
  have hl : (tornT s k).length ≤ 1100000 := by rw [← HM.out]; simp; omega
  go_enter Tryz.func109, Tryz.ntmps109
  go_wp2_with fail
  rw [HM.out]
  go_fit (cloneB_any (tornT s k) _ (by omega))
  rintro e w2 ⟨rfl, g2⟩
  go_wp2_with fail
  go_ret
  exact ⟨rfl, g2⟩
end Go.Proofs.YteialkknddpbjaaGreatDoor
