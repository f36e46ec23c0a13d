/- Logs that are torn: the entries that are complete are left. -/
import Derived.Test.YtnhefdmnpoaegaaGreatDoorMathL08p
namespace Go.Proofs.YtnhefdmnpoaegaaGreatDoor
open Go.ChangeShapes Go.WideShapes Go.ChangeAt Go.RowKit

theorem ents_ok (s : List UInt8) : ∀ p ∈ entsT s, p.ok = true := by
  by_cases h : firstOk s = true ∧ readPok (firstT s) = true
  · rw [entsT_yes h]
    have q := firstN_le h.1
    have ih := ents_ok (s.drop (firstN s))
    intro p hp
    rcases List.mem_cons.1 hp with rfl | hp
    · have h2 := h.2
      simp only [readPok, Bool.and_eq_true] at h2
      exact h2.2.2
    · exact ih p hp
  · rw [entsT_no h]; intro p hp; simp at hp
termination_by s.length
decreasing_by have := firstN_le h.1; simp; omega
/-- how many bytes the first i frames take -/
def usedN (l : List PZ) (i : Nat) : Nat := ((l.take i).map fun p => (frameT p.text).length).sum
theorem usedN_zero (l : List PZ) : usedN l 0 = 0 := by simp [usedN]
theorem usedN_next {l : List PZ} {i : Nat} (h : i < l.length) : usedN l (i + 1) = usedN l i + (frameT l[i].text).length := by
  unfold usedN
  rw [List.take_succ_eq_append_getElem h, List.map_append, List.sum_append]
  simp only [List.map_cons, List.map_nil, List.sum_cons, List.sum_nil, Nat.add_zero]
theorem usedN_cons (p : PZ) (l : List PZ) (i : Nat) : usedN (p :: l) (i + 1) = (frameT p.text).length + usedN l i := by simp [usedN]
/-- the frames of patches, one behind another -/
def framesT (l : List PZ) : List UInt8 := l.flatMap fun p => frameT p.text
theorem framesT_len (l : List PZ) : (framesT l).length = usedN l l.length := by
  induction l with
  | nil => rfl
  | cons p r ih => rw [framesT, List.flatMap_cons, List.length_append, List.length_cons, usedN_cons, ← ih]; rfl
theorem ents_front (s : List UInt8) : ∃ more, s = framesT (entsT s) ++ more ∧ entsT more = [] := by
  by_cases h : firstOk s = true ∧ readPok (firstT s) = true
  · have q := firstN_le h.1
    obtain ⟨more, h1, h2⟩ := ents_front (s.drop (firstN s))
    obtain ⟨hp, -, -, he⟩ := first_frame h.1
    refine ⟨more, ?_, h2⟩
    rw [entsT_yes h, framesT, List.flatMap_cons, read_text h.2, List.append_assoc]
    change s = frameT (firstT s) ++ (framesT (entsT (s.drop (firstN s))) ++ more)
    rw [← h1]; exact he
  · exact ⟨s, by rw [entsT_no h]; rfl, entsT_no h⟩
termination_by s.length
decreasing_by simp; omega
theorem ents_frames (l : List PZ) (h : ∀ p ∈ l, p.ok = true) (more : List UInt8) : entsT (framesT l ++ more) = l ++ entsT more := by
  induction l with
  | nil => rfl
  | cons p r ih =>
    have e : framesT (p :: r) ++ more = frameT p.text ++ (framesT r ++ more) := by simp [framesT]
    rw [e, ents_frame (h p (by simp)), ih (fun q hq => h q (by simp [hq]))]; rfl
theorem used_front (s : List UInt8) (i : Nat) : usedN (entsT s) i ≤ s.length := by
  obtain ⟨more, h1, -⟩ := ents_front s
  have h2 := congrArg List.length h1
  rw [List.length_append, framesT_len] at h2
  have h3 : usedN (entsT s) i ≤ usedN (entsT s) (entsT s).length := by
    unfold usedN
    have e : (entsT s).take (entsT s).length = (entsT s).take i ++ (entsT s).drop i := by rw [List.take_length, List.take_append_drop]
    rw [e, List.map_append, List.sum_append]; omega
  omega
/-- where no frame of a patch begins, none begins in a part of it -/
theorem ents_none_take {s : List UInt8} (h : ¬ (firstOk s = true ∧ readPok (firstT s) = true)) (k : Nat) : ¬ (firstOk (s.take k) = true ∧ readPok (firstT (s.take k)) = true) := fun ⟨h1, h2⟩ => by
  obtain ⟨hp, -, -, he⟩ := first_frame h1
  apply h
  have e : s = frameT (firstT (s.take k)) ++ ((s.take k).drop (firstN (s.take k)) ++ s.drop k) := by
    rw [← List.append_assoc, ← he, List.take_append_drop]
  obtain ⟨f1, f2, -⟩ := frame_first ((s.take k).drop (firstN (s.take k)) ++ s.drop k) hp
  rw [← e] at f1 f2
  exact ⟨f1, by rw [f2]; exact h2⟩
theorem short_none {t : List UInt8} (hp : plainT t = true) {k : Nat} (hk : k < (frameT t).length) : entsT ((frameT t).take k) = [] := by
  refine entsT_no fun ⟨h1, _⟩ => ?_
  have e : (frameT t).take k = (frontT t).take k := by
    rw [frameT_front] at hk ⊢
    rw [List.take_append_of_le_length (by simp at hk; omega)]
  have hn : ((frontT t).take k).all (fun c => c != 10) = true := by
    rw [List.all_eq_true]
    intro c hc
    exact List.all_eq_true.1 (front_nolf hp) c (List.mem_of_mem_take hc)
  rw [e] at h1
  simp only [firstOk, Bool.and_eq_true, decide_eq_true_eq] at h1
  have := endT_all hn
  omega
theorem ents_torn (s : List UInt8) (k : Nat) : ∃ m, m ≤ (entsT s).length ∧ entsT (s.take k) = (entsT s).take m ∧ ∀ i, i < (entsT s).length → (i < m ↔ usedN (entsT s) (i + 1) ≤ min k s.length) := by
  by_cases h : firstOk s = true ∧ readPok (firstT s) = true
  · have q := firstN_le h.1
    obtain ⟨hp, -, hl, he⟩ := first_frame h.1
    have ht := read_text h.2
    have hok : (readP (firstT s)).ok = true := by have h2 := h.2; simp only [readPok, Bool.and_eq_true] at h2; exact h2.2.2
    have hE := entsT_yes h
    by_cases hk : k < firstN s
    · refine ⟨0, Nat.zero_le _, ?_, fun i hi => ?_⟩
      · rw [he, List.take_append_of_le_length (by omega)]
        rw [short_none hp (by omega)]; rfl
      · rw [hE, usedN_cons, ht, hl]
        omega
    · obtain ⟨m, h1, h2, h3⟩ := ents_torn (s.drop (firstN s)) (k - firstN s)
      refine ⟨m + 1, by rw [hE]; simp; omega, ?_, fun i hi => ?_⟩
      · have e : s.take k = frameT (readP (firstT s)).text ++ (s.drop (firstN s)).take (k - firstN s) := by
          conv => lhs; rw [he]
          rw [List.take_append, List.take_of_length_le (by omega), hl, ht]
        rw [e, ents_frame hok, h2, hE]; rfl
      · rw [hE, usedN_cons, ht, hl]
        cases i with
        | zero => rw [usedN_zero]; omega
        | succ j =>
          rw [hE] at hi
          have := h3 j (by simpa using hi)
          simp only [List.length_drop] at this
          omega
  · refine ⟨0, Nat.zero_le _, ?_, fun i hi => ?_⟩
    · rw [entsT_no (ents_none_take h k)]; rfl
    · rw [entsT_no h] at hi; simp at hi
termination_by s.length
decreasing_by simp; omega
end Go.Proofs.YtnhefdmnpoaegaaGreatDoor
