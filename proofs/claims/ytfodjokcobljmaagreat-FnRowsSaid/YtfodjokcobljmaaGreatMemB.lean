/- A cursor is kept where only later blocks are written; worlds that grew, joined. -/
import Derived.Test.YtfodjokcobljmaaGreatMem
namespace Go.Proofs.YtfodjokcobljmaaGreat
open Go.ChangeShapes Go.WideShapes Go.ChangeAt Go.RowKit

theorem Cur.above {w w' : World} {c : Nat} (h : Cur w c) (hs : w.heap.size ≤ w'.heap.size) (hb : ∀ k, k ≤ c → w'.heap[k]? = w.heap[k]?) : Cur w' c := by
  obtain ⟨a, len, cap, i, h, hR, hi, h0, h1, h2, f1, f2⟩ := h
  have hc := hb c (Nat.le_refl _)
  refine ⟨a, len, cap, i, h, ?_, hi, ?_, ?_, ?_, ?_, ?_⟩
  · rcases hR with h | ⟨b, o', ha, h1, h2, h3, h4⟩
    · exact .inl h
    · refine .inr ⟨b, o', ha, h1, by omega, h3, fun k hk => ?_⟩
      obtain ⟨n, n1, n2, n3⟩ := h4 k hk
      exact ⟨n, n1, n2, by rw [World.cell?_of_block (w := w) (hb b (by omega))]; exact n3⟩
  · rw [World.cell?_of_block (w := w) hc]; exact h0
  · rw [World.cell?_of_block (w := w) hc]; exact h1
  · rw [World.cell?_of_block (w := w) hc]; exact h2
  · rw [World.frozen?_of_block (w := w) hc]; exact f1
  · rw [World.frozen?_of_block (w := w) hc]; exact f2
theorem gstep {a b c : World} {k : Nat} {r : Option Nat} (h : a.grownBy b (some k)) (g : b.grownBy c r) (hr : ∀ j, r = some j → a.heap.size ≤ j) : a.grownBy c (some k) :=
  ⟨g.os.trans h.os, g.tape.trans h.tape, g.output.trans h.output, Nat.le_trans h.size g.size, fun i hi hne => (g.block i (Nat.lt_of_lt_of_le hi h.size) (fun e => by have := hr i e.symm; omega)).trans (h.block i hi hne)⟩
theorem gnew {a b c : World} {r : Option Nat} (h : a.grownBy b none) (g : b.grownBy c r) (hr : ∀ j, r = some j → a.heap.size ≤ j) : a.grownBy c none :=
  ⟨g.os.trans h.os, g.tape.trans h.tape, g.output.trans h.output, Nat.le_trans h.size g.size, fun i hi hne => (g.block i (Nat.lt_of_lt_of_le hi h.size) (fun e => by have := hr i e.symm; omega)).trans (h.block i hi hne)⟩
end Go.Proofs.YtfodjokcobljmaaGreat
