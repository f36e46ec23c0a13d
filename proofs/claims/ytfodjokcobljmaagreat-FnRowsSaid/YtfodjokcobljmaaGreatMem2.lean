/- Worlds in which some blocks may differ; cells and slices that lie elsewhere. -/
import Derived.Test.YtfodjokcobljmaaGreatOwn
namespace Go.Proofs.YtfodjokcobljmaaGreat
open Go.ChangeShapes Go.WideShapes Go.ChangeAt Go.RowKit

/-- two slices that do not share memory -/
def Apart (v u : Value) : Prop := v.ownBlock = none ∨ v.ownBlock ≠ u.ownBlock
theorem Apart.symm {v u : Value} (h : Apart v u) : Apart u v := by
  rcases h with h | h
  · unfold Apart; rw [h]; cases u.ownBlock <;> simp
  · exact .inr fun e => h e.symm
theorem gkr {W w1 : World} {r : Option Nat} (hg : W.grownBy w1 r) {b o : Nat} {v : Value} (hb : r ≠ some b) (h : At W b o v) : At w1 b o v := by
  have hl := hg.block b (cell_lt h.1) (fun e => hb e.symm)
  exact ⟨(World.cell?_of_block (w := W) hl).trans h.1, (World.frozen?_of_block (w := W) hl).trans h.2⟩
theorem At.other {w : World} {b o c p : Nat} {v : Value} (h : At w b o v) (hne : (⟨c, p, none⟩ : Addr) ≠ ⟨b, o, none⟩) (u : Value) : At (w.setCell ⟨c, p, none⟩ u) b o v :=
  ⟨(World.cell?_setCell_other w _ _ u hne).trans h.1, by rw [World.frozen?_setCell]; exact h.2⟩
theorem At.same {w : World} {b o : Nat} {v : Value} (h : At w b o v) (u : Value) : At (w.setCell ⟨b, o, none⟩ u) b o u :=
  ⟨World.cell?_setCell_same w _ u h.1, by rw [World.frozen?_setCell]; exact h.2⟩
section
variable {w : World}
/-- where an append's row lies -/
theorem lies_ne {v v' : Value} {c : Nat} (hat : v'.ownBlock = v.ownBlock ∨ v'.ownBlock = some w.heap.size) (hv : v.ownBlock ≠ some c) (hc : c < w.heap.size) : v'.ownBlock ≠ some c := by
  rcases hat with e | e <;> rw [e]
  · exact hv
  · intro x; cases x; omega
theorem lies_apart {v v' u : Value} (hat : v'.ownBlock = v.ownBlock ∨ v'.ownBlock = some w.heap.size) (hv : Apart v u) (hu : ∀ k, u.ownBlock = some k → k < w.heap.size) : Apart v' u := by
  rcases hat with e | e
  · unfold Apart; rw [e]; exact hv
  · right; rw [e]; intro x; have := hu _ x.symm; omega
end
theorem gsub {a b c : World} {r : Option Nat} (h : a.grownBy b none) (g : b.grownBy c r) (hr : ∀ k, r = some k → a.heap.size ≤ k) : a.grownBy c none :=
  ⟨g.os.trans h.os, g.tape.trans h.tape, g.output.trans h.output, Nat.le_trans h.size g.size, fun i hi _ => (g.block i (Nat.lt_of_lt_of_le hi h.size) (by intro e; have := hr i e.symm; omega)).trans (h.block i hi (by simp))⟩
/-- a world in which only blocks of S, and new ones, may differ -/
structure Only (S : Nat → Prop) (w w' : World) : Prop where
  os : w'.os = w.os
  tape : w'.tape = w.tape
  output : w'.output = w.output
  size : w.heap.size ≤ w'.heap.size
  block : ∀ k, k < w.heap.size → ¬ S k → w'.heap[k]? = w.heap[k]?
section
variable {S S' : Nat → Prop} {w w' w2 : World}
theorem Only.refl (S : Nat → Prop) (w : World) : Only S w w := ⟨rfl, rfl, rfl, Nat.le_refl _, fun _ _ _ => rfl⟩
theorem Only.trans (h : Only S w w') (k : Only S w' w2) : Only S w w2 :=
  ⟨k.os.trans h.os, k.tape.trans h.tape, k.output.trans h.output, Nat.le_trans h.size k.size, fun i hi hn => (k.block i (Nat.lt_of_lt_of_le hi h.size) hn).trans (h.block i hi hn)⟩
theorem Only.of {r : Option Nat} (g : w.grownBy w' r) (hr : ∀ k, r = some k → S k) : Only S w w' := ⟨g.os, g.tape, g.output, g.size, fun k hk hn => g.block k hk (fun e => hn (hr k e.symm))⟩
theorem Only.mono (h : Only S w w') (hs : ∀ k, S k → S' k) : Only S' w w' := ⟨h.os, h.tape, h.output, h.size, fun k hk hn => h.block k hk (fun e => hn (hs k e))⟩
theorem Only.at {b o : Nat} {v : Value} (h : Only S w w') (hb : ¬ S b) (ha : At w b o v) : At w' b o v := by
  have hl := h.block b (cell_lt ha.1) hb
  exact ⟨(World.cell?_of_block (w := w) hl).trans ha.1, (World.frozen?_of_block (w := w) hl).trans ha.2⟩
theorem Only.grew {a : World} (h : Only S w w') (g : a.grownBy w none) (hs : ∀ k, S k → a.heap.size ≤ k) : a.grownBy w' none :=
  ⟨h.os.trans g.os, h.tape.trans g.tape, h.output.trans g.output, Nat.le_trans g.size h.size, fun i hi _ => (h.block i (Nat.lt_of_lt_of_le hi g.size) (fun e => by have := hs i e; omega)).trans (g.block i hi (by simp))⟩
end
section
variable {α : Type} {E : Elt α} {w w' : World} {base : Nat} {v : Value} {l : List α}
/-- its block is as it was -/
theorem Own.same (h : Own E w base v l) (hb : ∀ k, v.ownBlock = some k → w'.heap[k]? = w.heap[k]?) : Own E w' base v l := by
  obtain ⟨h0, h1 | ⟨g, c, cur, hv, hg, hc, rest⟩⟩ := h
  · exact ⟨h0, .inl h1⟩
  · exact ⟨h0, .inr ⟨g, c, cur, hv, hg, (hb g (by rw [hv]; rfl)).trans hc, rest⟩⟩
end
theorem only_cell {S : Nat → Prop} {w w' : World} {b o : Nat} {v : Value} (h : w.cell? ⟨b, o, none⟩ = some v) (k : Only S w w') (hb : ¬ S b) : w'.cell? ⟨b, o, none⟩ = some v :=
  (World.cell?_of_block (w := w) (k.block b (cell_lt h) hb)).trans h
theorem gsubc {a b c : World} {q : Nat} {r : Option Nat} (h : a.grownBy b (some q)) (g : b.grownBy c r) (hr : ∀ k, r = some k → a.heap.size ≤ k) : a.grownBy c (some q) :=
  ⟨g.os.trans h.os, g.tape.trans h.tape, g.output.trans h.output, Nat.le_trans h.size g.size, fun i hi hne => (g.block i (Nat.lt_of_lt_of_le hi h.size) (by intro e; have := hr i e.symm; omega)).trans (h.block i hi hne)⟩
end Go.Proofs.YtfodjokcobljmaaGreat
