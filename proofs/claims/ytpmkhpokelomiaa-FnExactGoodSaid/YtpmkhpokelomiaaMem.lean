/- Worlds that only grew: nothing that was there has changed. -/
import Derived.Test.YtpmkhpokelomiaaDraw
namespace Go.Proofs.Ytpmkhpokelomiaa
open Go.ChangeShapes Go.WideShapes Go.ChangeAt Go.RowKit

theorem grefl (w : World) : w.grownBy w none := World.grownBy.refl w none
theorem gsetN {a w : World} (h : a.grownBy w none) {c : Nat} (hc : a.heap.size ≤ c) (o : Nat) (v : Value) : a.grownBy (w.setCell ⟨c, o, none⟩ v) none :=
  ⟨h.os, h.tape, h.output, by simpa [World.setCell] using h.size, fun i hi hne => (Below.heap_setCell w _ v i (by
    intro e; simp at e; omega)).trans (h.block i hi hne)⟩
theorem gcell {W w1 : World} (hg : W.grownBy w1 none) : (∀ b o, b < W.heap.size → w1.cell? ⟨b, o, none⟩ = W.cell? ⟨b, o, none⟩) ∧ (∀ b o, b < W.heap.size → w1.frozen? ⟨b, o, none⟩ = W.frozen? ⟨b, o, none⟩) :=
  ⟨fun b o h => (gbelow hg).cell (p := ⟨b, o, none⟩) h, fun b o h => (gbelow hg).frozen (p := ⟨b, o, none⟩) h⟩
theorem gsize {W w1 : World} {r : Option Nat} (hg : W.grownBy w1 r) : W.heap.size ≤ w1.heap.size := hg.size
/-- a cell that holds v and may be written -/
def At (w : World) (b o : Nat) (v : Value) : Prop := w.cell? ⟨b, o, none⟩ = some v ∧ w.frozen? ⟨b, o, none⟩ = false
theorem cell_lt {w : World} {b o : Nat} {v : Value} (h : w.cell? ⟨b, o, none⟩ = some v) : b < w.heap.size := by
  apply Classical.byContradiction; intro hn
  simp [World.cell?, Array.getElem?_eq_none (Nat.le_of_not_lt hn)] at h
theorem gkc {W w1 : World} (hg : W.grownBy w1 none) {b o : Nat} {v : Value} (h : W.cell? ⟨b, o, none⟩ = some v) : w1.cell? ⟨b, o, none⟩ = some v :=
  ((gcell hg).1 b o (cell_lt h)).trans h
theorem gk {W w1 : World} (hg : W.grownBy w1 none) {b o : Nat} {v : Value} (h : At W b o v) : At w1 b o v :=
  ⟨gkc hg h.1, ((gcell hg).2 b o (cell_lt h.1)).trans h.2⟩
/-- a function that answers v and changes nothing that was there -/
def Pure (v : Value) (w : World) (e : Ending) (w' : World) : Prop := e = .returned v ∧ w.grownBy w' none
end Go.Proofs.Ytpmkhpokelomiaa
