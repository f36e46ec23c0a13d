/- What the program's functions of chapter 3 return: a cell replaced, a disk made of lists. -/
import Derived.Test.YtoifhkfkmhnngaaImplL03
namespace Go.Proofs.Ytoifhkfkmhnngaa
open Go.ChangeShapes Go.WideShapes Go.ChangeAt Go.RowKit

theorem set_split (l : List (Int × Int)) (k : Nat) (z : Int × Int) (hk : k < l.length) : l.set k z = (l.take k ++ [z]) ++ l.drop (k + 1) := by
  rw [List.set_eq_take_append_cons_drop, if_pos hk]; simp
/-- what holds while diskWith gathers its fields -/
abbrev DwS (w' : World) (b : Nat) (x0 x1 : Value) (r : Nat) : Prop := w'.cell? ⟨b, 0, none⟩ = some x0 ∧ w'.cell? ⟨b, 1, none⟩ = some x1 ∧ Live w' r 0 ∧ Live w' r 1 ∧ Live w' r 2 ∧ Live w' r 3
theorem DwS.kept {w' w2 : World} {b r : Nat} {x0 x1 : Value} (h : DwS w' b x0 x1 r) (g : w'.grownBy w2 none) : DwS w2 b x0 x1 r := ⟨gkc g h.1, gkc g h.2.1, h.2.2.1.kept g, h.2.2.2.1.kept g, h.2.2.2.2.1.kept g, h.2.2.2.2.2.kept g⟩
theorem DwS.drew {w' : World} {b r : Nat} {x0 x1 : Value} (h : DwS w' b x0 x1 r) : DwS w'.drew b x0 x1 r := h
theorem DwS.set {w' : World} {b r : Nat} {x0 x1 : Value} (h : DwS w' b x0 x1 r) (hb : r ≠ b) (y0 y1 y2 y3 : Value) : DwS (set4 w' r y0 y1 y2 y3) b x0 x1 r := by
  have hn : ∀ (W : World) (p q : Nat) (x : Value), (W.setCell ⟨r, p, none⟩ x).cell? ⟨b, q, none⟩ = W.cell? ⟨b, q, none⟩ := fun W p q x => World.cell?_setCell_other W _ _ x (fun e => hb (by cases e; rfl))
  refine ⟨?_, ?_, ?_, ?_, ?_, ?_⟩ <;> unfold set4
  · rw [hn, hn, hn, hn]; exact h.1
  · rw [hn, hn, hn, hn]; exact h.2.1
  · exact (((h.2.2.1.set _).set _).set _).set _
  · exact (((h.2.2.2.1.set _).set _).set _).set _
  · exact (((h.2.2.2.2.1.set _).set _).set _).set _
  · exact (((h.2.2.2.2.2.set _).set _).set _).set _
end Go.Proofs.Ytoifhkfkmhnngaa
