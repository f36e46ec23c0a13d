/- What the specification's l8First returns: the frame at the beginning of a text. What the specification's Entries returns. -/
import Derived.Test.YtjhnoepllnifhaaSpecL07b
import Derived.BigQuiet
import Derived.Test.YtjhnoepllnifhaaOwnP
import Derived.Test.YtjhnoepllnifhaaDrawL01
import Derived.Test.YtjhnoepllnifhaaSpecT
namespace Go.Proofs.Ytjhnoepllnifhaa
open Go.ChangeShapes Go.WideShapes Go.ChangeAt Go.RowKit
attribute [local go_sem] str_list str_size str_add lit_list0 add_lit lit_add str_cut

/-- where the first line ends -/
def endT (s : List UInt8) : Nat := (s.takeWhile fun c => c != 10).length
def headT (s : List UInt8) : List UInt8 := s.take (endT s)
/-- what stands behind the first two words -/
def behindT (h : List UInt8) : List UInt8 := h.drop (((splitT 32 h).getD 0 []).length + ((splitT 32 h).getD 1 []).length + 2)
def firstOk (s : List UInt8) : Bool := decide (endT s < s.length ∧ endT s ≤ 120) && (decide (3 ≤ (splitT 32 (headT s)).length) && (plainT (behindT (headT s)) && (frameT (behindT (headT s)) == s.take (endT s + 1))))
def firstT (s : List UInt8) : List UInt8 := if firstOk s then behindT (headT s) else []
def firstN (s : List UInt8) : Nat := if firstOk s then endT s + 1 else 0
theorem endT_le (s : List UInt8) : endT s ≤ s.length := by
  unfold endT
  exact (List.takeWhile_sublist _).length_le
theorem endT_at {s : List UInt8} {k : Nat} (h : (s.take k).all (fun c => c != 10) = true) (hk : k < s.length) (hx : s[k] = 10) : endT s = k := by
  have e : s = s.take k ++ s[k] :: s.drop (k + 1) := by
    rw [← List.drop_eq_getElem_cons hk, List.take_append_drop]
  have h' : ∀ c ∈ s.take k, (c != 10) = true := fun c hc => List.all_eq_true.1 h c hc
  unfold endT
  conv => lhs; rw [e, List.takeWhile_append_of_pos h']
  simp [hx]; omega
theorem endT_all {s : List UInt8} (h : s.all (fun c => c != 10) = true) : endT s = s.length := by
  have := List.takeWhile_append_of_pos (p := fun c : UInt8 => c != 10) (l₁ := s) (l₂ := []) (fun x hx => List.all_eq_true.1 h x hx)
  simp only [List.append_nil, List.takeWhile_nil] at this
  unfold endT
  rw [this]
theorem split_sum (b : UInt8) (cur s : List UInt8) : ((splitG b cur s).map List.length).sum + (splitG b cur s).length = cur.length + s.length + 1 := by
  induction s generalizing cur with
  | nil => simp [splitG]
  | cons x r ih =>
    unfold splitG; split
    · have := ih []; simp at this ⊢; omega
    · have := ih (cur ++ [x]); simp at this ⊢; omega
theorem two_words {s : List UInt8} (h : 3 ≤ (splitT 32 s).length) : ((splitT 32 s).getD 0 []).length + ((splitT 32 s).getD 1 []).length + 2 ≤ s.length := by
  have q := split_sum 32 [] s
  unfold splitT at *
  match hl : splitG 32 [] s, h with
  | a :: c :: d :: r, _ =>
    rw [hl] at q
    simp at q ⊢
    omega
theorem first_no {s : List UInt8} (h : firstOk s = false) : firstT s = [] ∧ firstN s = 0 := by simp [firstT, firstN, h]
theorem first_yes {s : List UInt8} (h : firstOk s = true) : firstT s = behindT (headT s) ∧ firstN s = endT s + 1 := by simp [firstT, firstN, h]
theorem ret_first {t t' : List UInt8} {n n' : Int} (h1 : t = t') (h2 : n = n') : Ending.returned (.tuple #[.string (str t), .int .i64 n]) = .returned (.tuple #[.string (str t'), .int .i64 n']) := by rw [h1, h2]
end Go.Proofs.Ytjhnoepllnifhaa
namespace Go.Proofs.Ytjhnoepllnifhaa
open Go.ChangeShapes Go.WideShapes Go.ChangeAt Go.RowKit
attribute [local go_sem] str_list str_size str_add lit_list0 add_lit lit_add str_cut

theorem firstN_le {s : List UInt8} (h : firstOk s = true) : 1 ≤ firstN s ∧ firstN s ≤ s.length := by
  rw [(first_yes h).2]
  simp only [firstOk, Bool.and_eq_true, decide_eq_true_eq] at h
  omega
theorem firstT_len (s : List UInt8) : (firstT s).length ≤ 120 := by
  cases h : firstOk s
  · rw [(first_no h).1]; simp
  · rw [(first_yes h).1]
    simp only [firstOk, Bool.and_eq_true, decide_eq_true_eq] at h
    simp [behindT, headT]; omega
theorem firstN_zero (s : List UInt8) : ((firstN s : Int) == 0) = !firstOk s := by
  cases h : firstOk s
  · rw [(first_no h).2]; rfl
  · have := (firstN_le h).1
    simp; omega
set_option linter.unusedVariables false in
/-- the patches of a log -/
def entsT (s : List UInt8) : List PZ :=
  if h : firstOk s = true ∧ readPok (firstT s) = true then readP (firstT s) :: entsT (s.drop (firstN s)) else []
termination_by s.length
decreasing_by have := firstN_le h.1; simp; omega
theorem entsT_no {s : List UInt8} (h : ¬ (firstOk s = true ∧ readPok (firstT s) = true)) : entsT s = [] := by rw [entsT, dif_neg h]
theorem entsT_yes {s : List UInt8} (h : firstOk s = true ∧ readPok (firstT s) = true) : entsT s = readP (firstT s) :: entsT (s.drop (firstN s)) := by rw [entsT, dif_pos h]
theorem entsT_len (s : List UInt8) : (entsT s).length ≤ s.length := by
  by_cases h : firstOk s = true ∧ readPok (firstT s) = true
  · rw [entsT_yes h]
    have q := firstN_le h.1
    have ih := entsT_len (s.drop (firstN s))
    simp at ih ⊢; omega
  · rw [entsT_no h]; simp
termination_by s.length
decreasing_by have := firstN_le h.1; simp; omega
end Go.Proofs.Ytjhnoepllnifhaa
