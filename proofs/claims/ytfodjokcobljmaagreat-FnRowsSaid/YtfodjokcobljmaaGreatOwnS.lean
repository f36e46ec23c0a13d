/- One cell of one element of a slice that owns its memory is written. -/
import Derived.Test.YtfodjokcobljmaaGreatMem2
namespace Go.Proofs.YtfodjokcobljmaaGreat
open Go.ChangeShapes Go.WideShapes Go.ChangeAt Go.RowKit

section
variable {α : Type} {E : Elt α} {w : World} {base : Nat}
theorem Elt.all_set (l : List α) (i j : Nat) (u : Value) (x : α) (hi : i < l.length) (hj : j < E.size) (hx : E.enc x = (E.enc l[i]).set j u) : E.all (l.set i x) = (E.all l).set (i * E.size + j) u := by
  induction l generalizing i with
  | nil => simp at hi
  | cons q r ih =>
    cases i with
    | zero =>
      simp only [List.getElem_cons_zero] at hx
      simp only [List.set_cons_zero, Elt.all, List.flatMap_cons, Nat.zero_mul, Nat.zero_add]
      rw [List.set_append_left _ _ (by rw [E.len]; exact hj), hx]
    | succ i =>
      have e := ih i (by simpa using hi) (by simpa using hx)
      simp only [Elt.all, List.set_cons_succ, List.flatMap_cons] at e ⊢
      rw [e, List.set_append_right _ _ (by rw [E.len, Nat.add_mul]; omega)]
      congr 2
      rw [E.len, Nat.add_mul]; omega
/-- one cell of one element is written -/
theorem Own.setAt {n cap g : Nat} {l : List α} (h : Own E w base (.slice (some ⟨g, 0, none⟩) n cap) l) (i j : Nat) (u : Value) (x : α) (hi : i < l.length) (hj : j < E.size) (hx : E.enc x = (E.enc l[i]).set j u) :
    Own E (w.setCell ⟨g, i * E.size + j, none⟩ u) base (.slice (some ⟨g, 0, none⟩) n cap) (l.set i x) := by
  obtain ⟨h0, ⟨h1, h2⟩ | ⟨g', c, cur, hv, hb, hg, h1, h2, h3, h4⟩⟩ := h
  · cases h1
  · cases hv
    refine ⟨Elt.all_length _ _, .inr ⟨g, cap, cur.setIfInBounds (i * E.size + j) u, by simp, hb, heap_set_same hg _, by simpa using h1, h2, by simp [h3], ?_⟩⟩
    rw [Elt.all_set l i j u x hi hj hx, ← h4]
    simp [List.take_set]
end
end Go.Proofs.YtfodjokcobljmaaGreat
