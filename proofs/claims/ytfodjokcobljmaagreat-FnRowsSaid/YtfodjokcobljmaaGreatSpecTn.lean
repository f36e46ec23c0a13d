/- What the specification's Torn returns. -/
import Derived.Test.YtfodjokcobljmaaGreatBaseS
import Derived.Deep.DeepFit
namespace Go.Proofs.YtfodjokcobljmaaGreat
open Go.ChangeShapes Go.WideShapes Go.ChangeAt Go.RowKit
attribute [local go_sem] str_list str_size str_add lit_list0 add_lit lit_add str_cut

/-- what is left of a text -/
def tornT (s : List UInt8) (k : Int) : List UInt8 := if k < 0 then [] else s.take k.toNat
theorem l1Min_any (a b : Int) (w : World) : Calls Tryz.prog 104 #[.int .i64 a, .int .i64 b] w fun e w' => e = .returned (.int .i64 (min a b)) ∧ w = w' := by
  by_cases h : a < b
  · have HM : Hid (min a b = a) := by show _ = _; omega
    go_enter Tryz.func104, Tryz.ntmps104
    go_wp2_with fail
    go_ret
    exact ⟨ret_int HM.out.symm, rfl⟩
  · have HM : Hid (min a b = b) := by show _ = _; omega
    go_enter Tryz.func104, Tryz.ntmps104
    go_wp2_with fail
    go_ret
    exact ⟨ret_int HM.out.symm, rfl⟩
theorem specTorn_any (s : List UInt8) (k : Int) (w : World) (hs : s.length ≤ 1100000) :
    Calls Tryz.prog 88 #[.string (str s), .int .i64 k] w fun e w' => e = .returned (.string (str (tornT s k))) ∧ w = w' := by
  by_cases h : k < 0
  · have HM : Hid (tornT s k = []) := by show _ = _; simp [tornT, h]
    go_enter Tryz.func88, Tryz.ntmps88
    go_wp2_with fail
    go_ret
    exact ⟨ret_str HM.out.symm, rfl⟩
  · have HM : Hid (s.take (min k (s.length : Int)).toNat = tornT s k) := by
      show _ = _
      rw [tornT, if_neg h]
      by_cases hl : k ≤ s.length
      · rw [show min k (s.length : Int) = k by omega]
      · rw [show min k (s.length : Int) = s.length by omega, List.take_of_length_le (by omega), List.take_of_length_le (by omega)]
    have h0 : 0 ≤ min k (s.length : Int) := by omega
    have h1 : min k (s.length : Int) ≤ s.length := by omega
    go_enter Tryz.func88, Tryz.ntmps88
    go_wp2_with fail
    go_fit (l1Min_any _ _ _)
    rintro e w' ⟨rfl, rfl⟩
    generalize min k (s.length : Int) = q at *
    go_wp2_with fail
    go_ret
    exact ⟨ret_str HM.out, rfl⟩
end Go.Proofs.YtfodjokcobljmaaGreat
