/- The frame that a log begins with, as the program finds it: behind the second blank, up to the line's end. -/
import Derived.Test.YtnhefdmnpoaegaaGreatDoorMathL08
import Derived.Test.YtnhefdmnpoaegaaGreatDoorMathL07r
import Derived.Lib.Strings
import Derived.Lib.Bytealg
namespace Go.Proofs.YtnhefdmnpoaegaaGreatDoor
open Go.ChangeShapes Go.WideShapes Go.ChangeAt Go.RowKit

/-- what stands behind the first blank -/
def afterT (s : List UInt8) : List UInt8 := (s.dropWhile fun c => c != 32).drop 1
/-- the text that stands behind the second blank, up to the line's end -/
def lineT (b : List UInt8) : List UInt8 := if b.all (fun c => c != 10) then [] else b.take (endT b)
def progT (s : List UInt8) : List UInt8 := lineT (afterT (afterT s))
/-- what Framed returns -/
def framedZ (s : List UInt8) : List UInt8 := if plainT s then frameT s else []
theorem framedZ_no {s : List UInt8} (h : plainT s = false) : framedZ s = [] := by simp [framedZ, h]
theorem framedZ_yes {s : List UInt8} (h : plainT s = true) : framedZ s = frameT s := by simp [framedZ, h]
theorem plain_len {s : List UInt8} (h : plainT s = true) : s.length ≤ 100 := by
  simp only [plainT, Bool.and_eq_true, decide_eq_true_eq] at h; exact h.2
theorem framedZ_len (s : List UInt8) : (framedZ s).length ≤ 120 := by
  cases h : plainT s
  · rw [framedZ_no h]; simp
  · rw [framedZ_yes h]
    have := plain_len h
    have := frameT_length s (by omega)
    omega
theorem afterT_word (a more : List UInt8) (h : 32 ∉ a) : afterT (a ++ 32 :: more) = more := by
  unfold afterT
  rw [List.dropWhile_append_of_pos (fun x hx => by simp; intro e; subst e; exact h hx)]
  simp
theorem afterT_len (s : List UInt8) : (afterT s).length ≤ s.length := by
  have := (List.dropWhile_sublist (fun c : UInt8 => c != 32) (l := s)).length_le
  unfold afterT; simp; omega
theorem lineT_len (b : List UInt8) : (lineT b).length ≤ b.length := by
  unfold lineT; split <;> simp
  omega
theorem progT_len (s : List UInt8) : (progT s).length ≤ s.length := by
  have h1 := lineT_len (afterT (afterT s))
  have h2 := afterT_len (afterT s)
  have h3 := afterT_len s
  unfold progT; omega
theorem lineT_of {t more : List UInt8} (h : t.all (fun c => c != 10) = true) : lineT (t ++ 10 :: more) = t := by
  have e : endT (t ++ 10 :: more) = t.length := endT_at (by simpa using h) (by simp) (by simp)
  unfold lineT
  rw [if_neg (by simp), e]
  simp
theorem progT_frame {t : List UInt8} (more : List UInt8) (h : plainT t = true) : progT (frameT t ++ more) = t := by
  have h1 : frameT t ++ more = digT t.length ++ 32 :: (digT (markT t) ++ 32 :: (t ++ 10 :: more)) := by simp [frameT]
  unfold progT
  rw [h1, afterT_word _ _ (digT_no _ 32 (.inl (by decide))), afterT_word _ _ (digT_no _ 32 (.inl (by decide)))]
  simp only [plainT, Bool.and_eq_true] at h
  exact lineT_of h.1
theorem read_plain {t : List UInt8} (h : readPok t = true) : plainT t = true := by
  have h1 := read_text h
  have h2 : (readP t).ok = true := by simp only [readPok, Bool.and_eq_true] at h; exact h.2.2
  have := text_plain h2
  rwa [h1] at this
theorem first_frame {s : List UInt8} (h : firstOk s = true) : plainT (firstT s) = true ∧ s.take (firstN s) = frameT (firstT s) ∧ (frameT (firstT s)).length = firstN s ∧ s = frameT (firstT s) ++ s.drop (firstN s) := by
  have hn := firstN_le h
  rw [(first_yes h).1, (first_yes h).2] at *
  simp only [firstOk, Bool.and_eq_true, decide_eq_true_eq, beq_iff_eq] at h
  obtain ⟨h1, h2, h3, h4⟩ := h
  refine ⟨h3, h4.symm, by rw [h4]; simp; omega, by rw [h4, List.take_append_drop]⟩
theorem ents_step {s : List UInt8} (h1 : readPok (progT s) = true) (h2 : Lib.hasPrefix s (framedZ (progT s)) = true) :
    entsT s = readPZ (progT s) :: entsT (Lib.trimPrefix s (framedZ (progT s))) ∧ (Lib.trimPrefix s (framedZ (progT s))).length < s.length := by
  have hp := read_plain h1
  rw [framedZ_yes hp] at *
  obtain ⟨more, he⟩ := List.isPrefixOf_iff_prefix.1 h2
  obtain ⟨f1, f2, f3⟩ := frame_first more hp
  rw [he] at f1 f2 f3
  have hf : 0 < (frameT (progT s)).length := by simp [frameT]; omega
  have hl := congrArg List.length he
  rw [List.length_append] at hl
  unfold Lib.trimPrefix
  rw [if_pos h2, entsT_yes ⟨f1, by rw [f2]; exact h1⟩, f2, f3, readPZ_yes h1]
  exact ⟨rfl, by simp; omega⟩
theorem ents_stop {s : List UInt8} (h : ¬ (readPok (progT s) = true ∧ Lib.hasPrefix s (framedZ (progT s)) = true)) : entsT s = [] := by
  refine entsT_no fun ⟨h1, h2⟩ => h ?_
  obtain ⟨hp, -, -, he⟩ := first_frame h1
  have hq : progT s = firstT s := by rw [he]; conv => rhs; rw [← he]
                                     exact progT_frame _ hp
  rw [hq, framedZ_yes hp]
  exact ⟨h2, List.isPrefixOf_iff_prefix.2 ⟨_, he.symm⟩⟩
/-- Contains, at the line's end -/
theorem nolf_has (s : List UInt8) : decide (0 ≤ Lib.indexByte s 10) = !s.all (fun c => c != 10) := by
  have q : 0 ≤ Lib.indexByte s 10 ↔ s.all (fun c => c != 10) = false := by
    induction s with
    | nil => decide
    | cons a r ih =>
      have hg := Lib.indexByte_ge r 10
      have e0 : Lib.indexByte (a :: r) 10 = if a == 10 then 0 else if Lib.indexByte r 10 == -1 then -1 else Lib.indexByte r 10 + 1 := rfl
      rw [e0, List.all_cons]
      by_cases h : a = 10
      · subst h; simp
      · have h' : (a == 10) = false := by simpa using h
        have hn : (a != 10) = true := by simpa using h
        rw [hn, Bool.true_and, ← ih, h', if_neg (by simp)]
        by_cases e : Lib.indexByte r 10 = -1
        · rw [e]; decide
        · rw [if_neg (by simpa using e)]; omega
  cases hb : s.all (fun c => c != 10)
  · rw [decide_eq_true (q.2 hb)]; rfl
  · rw [decide_eq_false (fun x => by rw [q.1 x] at hb; cases hb)]; rfl
end Go.Proofs.YtnhefdmnpoaegaaGreatDoor
