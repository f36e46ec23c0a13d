/- Logs: the frames of patches are read back. -/
import Derived.Test.YtfodjokcobljmaaGreatSpecL08b
import Derived.Test.YtfodjokcobljmaaGreatMathL07
namespace Go.Proofs.YtfodjokcobljmaaGreat
open Go.ChangeShapes Go.WideShapes Go.ChangeAt Go.RowKit

def frontT (t : List UInt8) : List UInt8 := digT t.length ++ (32 :: (digT (markT t) ++ (32 :: t)))
theorem frameT_front (t : List UInt8) : frameT t = frontT t ++ [10] := by simp [frameT, frontT]
theorem front_nolf {t : List UInt8} (h : plainT t = true) : (frontT t).all (fun c => c != 10) = true := by
  simp only [plainT, Bool.and_eq_true] at h
  have q : ∀ n, (digT n).all (fun c => c != 10) = true := fun n => by
    rw [List.all_eq_true]
    intro c hc
    have := digT_no n 10 (.inl (by decide))
    simp; intro e; subst e; exact this hc
  simp only [frontT, List.all_append, List.all_cons, q, h.1]
  rfl
theorem frame_split {t : List UInt8} : splitT 32 (frontT t) = digT t.length :: digT (markT t) :: splitT 32 t := by
  unfold splitT frontT
  rw [splitG_word _ _ _ _ (digT_no _ 32 (.inl (by decide))), splitG_word _ _ _ _ (digT_no _ 32 (.inl (by decide)))]
  rfl
theorem frame_first {t : List UInt8} (more : List UInt8) (h : plainT t = true) : firstOk (frameT t ++ more) = true ∧ firstT (frameT t ++ more) = t ∧ firstN (frameT t ++ more) = (frameT t).length := by
  have hl : t.length ≤ 100 := by simp only [plainT, Bool.and_eq_true, decide_eq_true_eq] at h; exact h.2
  have hs : frameT t ++ more = frontT t ++ 10 :: more := by rw [frameT_front]; simp
  have hlen : (frontT t).length < (frameT t ++ more).length := by rw [hs]; simp
  have htake : (frameT t ++ more).take (frontT t).length = frontT t := by rw [hs]; simp
  have hend : endT (frameT t ++ more) = (frontT t).length := endT_at (by rw [htake]; exact front_nolf h) hlen (by simp [hs])
  have hhead : headT (frameT t ++ more) = frontT t := by rw [headT, hend, htake]
  have hbeh : behindT (frontT t) = t := by
    rw [behindT, frame_split]
    simp only [List.getD_cons_zero, List.getD_cons_succ]
    unfold frontT
    rw [show (digT t.length).length + (digT (markT t)).length + 2 = (digT t.length).length + (1 + ((digT (markT t)).length + 1)) by omega, List.drop_append, List.drop_eq_nil_of_le (by omega)]
    simp [Nat.add_sub_cancel_left, List.drop_append, Nat.add_comm 1]
  have hfl : (frontT t).length ≤ 120 := by
    have h1 := digT_length t.length 2 (by omega)
    have h2 := digT_length (markT t) 3 (by have := markT_lt t; omega)
    simp [frontT]; omega
  have hpos := splitG_pos 32 [] t
  have hok : firstOk (frameT t ++ more) = true := by
    rw [firstOk, hhead, hbeh, hend, frame_split, h, decide_eq_true ⟨hlen, hfl⟩, decide_eq_true (by show 3 ≤ _; unfold splitT; simp; omega)]
    rw [show (frameT t ++ more).take ((frontT t).length + 1) = frameT t by rw [hs, frameT_front]; simp [List.take_append]; exact List.take_of_length_le (by omega)]
    simp
  refine ⟨hok, by rw [(first_yes hok).1, hhead, hbeh], by rw [(first_yes hok).2, hend, frameT_front]; simp⟩
theorem first_nil : firstOk [] = false := by simp [firstOk, endT]
theorem ents_nil : entsT [] = [] := entsT_no (by simp [first_nil])
theorem text_plain {p : PZ} (h : p.ok = true) : plainT p.text = true := by
  have hf := ok_fit h
  obtain ⟨⟨r0, r1⟩, hlen, hl2, hds, hvs⟩ := hf
  have hw : ∀ x ∈ p.words, x.length ≤ 7 := words_small (rn := p.row.toNat) (by omega) hds hvs
  have hl := wordsT_length p.words 7 hw
  have hwl : p.words.length ≤ 5 := by have := pairsW_length p.ds p.vs; simp [PZ.words]; omega
  have hall : ∀ l : List (List UInt8), (∀ x ∈ l, ∃ n : Nat, x = digT n) → (wordsT l).all (fun c => c != 10) = true := fun l => by
    induction l with
    | nil => intro _; rfl
    | cons a r ih =>
      intro hx
      obtain ⟨n, rfl⟩ := hx a (by simp)
      have q : (digT n).all (fun c => c != 10) = true := by
        rw [List.all_eq_true]
        intro c hc
        have := digT_no n 10 (.inl (by decide))
        simp; intro e; subst e; exact this hc
      cases r with
      | nil => simpa [wordsT] using q
      | cons b r =>
        simp only [wordsT, List.all_append, List.all_cons, q]
        rw [ih (fun x h => hx x (by simp [h]))]
        rfl
  have := hall p.words (fun x hx => by
    rcases List.mem_cons.1 hx with rfl | hx
    · exact ⟨_, rfl⟩
    · exact pairsW_mem _ _ x hx)
  unfold plainT PZ.text
  rw [this, decide_eq_true (by omega)]
  rfl
theorem ents_frame {p : PZ} (h : p.ok = true) (more : List UInt8) : entsT (frameT p.text ++ more) = p :: entsT more := by
  obtain ⟨h1, h2, h3⟩ := frame_first more (text_plain h)
  obtain ⟨h4, h5⟩ := text_read h
  rw [entsT_yes ⟨h1, by rw [h2]; exact h4⟩, h2, h5, h3]
  simp
theorem ents_one {p : PZ} (h : p.ok = true) : entsT (frameT p.text) = [p] := by
  have := ents_frame h []
  rw [List.append_nil, ents_nil] at this
  exact this
end Go.Proofs.YtfodjokcobljmaaGreat
