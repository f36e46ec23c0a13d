/- A text split at one byte: the library's way and the specification's. -/
import Derived.Test.YtnhefdmnpoaegaaGreatDoorMathL07r
import Derived.Lib.SplitLaws
namespace Go.Proofs.YtnhefdmnpoaegaaGreatDoor

theorem splitG_cur (b : UInt8) (cur s : List UInt8) : splitG b cur s = (cur ++ (splitG b [] s).headD []) :: (splitG b [] s).tail := by
  induction s generalizing cur with
  | nil => simp [splitG]
  | cons x r ih =>
    unfold splitG
    split
    · simp
    · rw [ih (cur ++ [x]), ih ([] ++ [x])]; simp
theorem index_no {s : List UInt8} (h : (32 : UInt8) ∉ s) : Lib.index s [32] = -1 := by
  induction s with
  | nil => rfl
  | cons x r ih =>
    simp only [List.mem_cons, not_or] at h
    unfold Lib.index
    rw [if_neg (by simpa [List.isPrefixOf] using h.1), ih h.2]
    rfl
theorem index_yes {s : List UInt8} (h : (32 : UInt8) ∈ s) : 0 ≤ Lib.index s [32] := by
  induction s with
  | nil => cases h
  | cons x r ih =>
    unfold Lib.index
    split
    · omega
    · next hx =>
      have hx' : ¬ (32 : UInt8) = x := by simpa [List.isPrefixOf] using hx
      have := ih (by rcases List.mem_cons.1 h with e | e; exact absurd e hx'; exact e)
      rw [if_neg (by simp; omega)]
      omega
theorem splitK_T (s : List UInt8) : Lib.splitK [32] 0 (s.count 32) s = splitG 32 [] s := by
  induction s with
  | nil => rfl
  | cons x r ih =>
    by_cases hx : x = 32
    · subst hx
      rw [List.count_cons_self]
      unfold Lib.splitK splitG
      have h0 : Lib.index (32 :: r) [32] = 0 := by unfold Lib.index; simp [List.isPrefixOf]
      rw [h0, if_neg (by decide), if_pos (by decide)]
      simp only [Int.toNat_zero, List.take_zero, List.length_cons, List.length_nil, Nat.zero_add, List.drop_succ_cons, List.drop_zero]
      rw [ih]
    · rw [List.count_cons_of_ne hx]
      have hpre : ¬ ([32] : List UInt8).isPrefixOf (x :: r) = true := by simp [List.isPrefixOf]; exact fun e => hx e.symm
      unfold splitG
      rw [if_neg (by simpa using hx), List.nil_append]
      by_cases hm : (32 : UInt8) ∈ r
      · have hi := index_yes hm
        have hc : 0 < r.count 32 := List.count_pos_iff.2 hm
        obtain ⟨k, hk⟩ : ∃ k, r.count 32 = k + 1 := ⟨r.count 32 - 1, by omega⟩
        rw [hk] at ih ⊢
        unfold Lib.splitK at ih ⊢
        have hidx : Lib.index (x :: r) [32] = Lib.index r [32] + 1 := by
          rw [Lib.index, if_neg hpre, if_neg (by simp; omega)]
        rw [if_neg (by simp; omega)] at ih
        rw [hidx, if_neg (by simp; omega), splitG_cur 32 [x] r, ← ih]
        simp only [show (Lib.index r [32] + 1).toNat = (Lib.index r [32]).toNat + 1 by omega, Nat.add_zero, List.take_succ_cons, List.length_cons, List.length_nil, Nat.zero_add, List.drop_succ_cons, List.headD_cons, List.tail_cons]
        rfl
      · have hc : r.count 32 = 0 := List.count_eq_zero.2 hm
        rw [hc, splitG_last 32 [x] r hm]
        rfl
theorem split_lib (s : ByteArray) : (Lib.splitB ⟨#[32]⟩ 0 (Lib.countB s ⟨#[32]⟩) s).map (·.data.toList) = splitT 32 s.data.toList := by
  rw [Lib.splitB_data, show Lib.countB s ⟨#[32]⟩ = Lib.count s.data.toList [32] from rfl, Lib.count_one]
  exact splitK_T _
end Go.Proofs.YtnhefdmnpoaegaaGreatDoor
