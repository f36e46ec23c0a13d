/- What Patched returns, the program's and the specification's. -/
import Derived.Test.YtnkfmjgbeoddbaaGreatDoorImplL07d
import Derived.Test.YtnkfmjgbeoddbaaGreatDoorImplL06c
import Derived.Test.YtnkfmjgbeoddbaaGreatDoorImplL03
import Derived.Test.YtnkfmjgbeoddbaaGreatDoorOwnD2
import Derived.Test.YtnkfmjgbeoddbaaGreatDoorBaseL03
import Derived.Test.YtnkfmjgbeoddbaaGreatDoorLawL07c
import Derived.Deep.RegionLaw
import Derived.Deep.DeepCutAuto
namespace Go.Proofs.YtnkfmjgbeoddbaaGreatDoor
open Go.ChangeShapes Go.WideShapes Go.ChangeAt Go.RowKit

theorem written_put {d : DZ} {p v : Int} (h : d.ok = true) : d.written p v = d.put p v := by simp [DZ.written, h]
/-- what a round of Patched holds on to -/
abbrev PwS (w' : World) (q : Nat) (d x : Int) (b : Nat) (row : Int) (g o : Nat) (y0 y1 y2 y3 : Value) : Prop := w'.cell? ⟨q, 0, none⟩ = some (.int .i64 d) ∧ w'.cell? ⟨q, 1, none⟩ = some (.int .i64 x) ∧ w'.cell? ⟨b, 0, none⟩ = some (.int .i64 row) ∧ (w'.cell? ⟨g, o, none⟩ = some y0 ∧ w'.frozen? ⟨g, o, none⟩ = false) ∧ (w'.cell? ⟨g, o + 1, none⟩ = some y1 ∧ w'.frozen? ⟨g, o + 1, none⟩ = false) ∧ (w'.cell? ⟨g, o + 2, none⟩ = some y2 ∧ w'.frozen? ⟨g, o + 2, none⟩ = false) ∧ (w'.cell? ⟨g, o + 3, none⟩ = some y3 ∧ w'.frozen? ⟨g, o + 3, none⟩ = false)
section
variable {w' w2 : World} {q : Nat} {d x : Int} {b : Nat} {row : Int} {g o : Nat} {y0 y1 y2 y3 : Value}
theorem PwS.drew (s : PwS w' q d x b row g o y0 y1 y2 y3) : PwS w'.drew q d x b row g o y0 y1 y2 y3 := s
theorem PwS.kept (s : PwS w' q d x b row g o y0 y1 y2 y3) (k : w'.grownBy w2 none) : PwS w2 q d x b row g o y0 y1 y2 y3 := ⟨gkc k s.1, gkc k s.2.1, gkc k s.2.2.1, gk k s.2.2.2.1, gk k s.2.2.2.2.1, gk k s.2.2.2.2.2.1, gk k s.2.2.2.2.2.2⟩
end
theorem gkf {W w1 : World} {b o : Nat} {v : Value} (g : W.grownBy w1 none) (h : W.cell? ⟨b, o, none⟩ = some v) (f : W.frozen? ⟨b, o, none⟩ = false) : w1.frozen? ⟨b, o, none⟩ = false := (gk g ⟨h, f⟩).2
theorem gsub' {a b c : World} {r : Option Nat} (h : a.grownBy b r) (g : b.grownBy c none) : a.grownBy c r :=
  ⟨g.os.trans h.os, g.tape.trans h.tape, g.output.trans h.output, Nat.le_trans h.size g.size, fun i hi hne => (g.block i (Nat.lt_of_lt_of_le hi h.size) (by simp)).trans (h.block i hi hne)⟩
/-- the disks behind the first k puts -/
theorem patchK_next (l : List DZ) (p : PZ) (k : Nat) (h1 : k < p.ds.length) (h2 : k < p.vs.length) : patchK l p (k + 1) = if p.ds[k] < l.length then (patchK l p k).set p.ds[k].toNat (((patchK l p k).getD p.ds[k].toNat .zero).put p.row p.vs[k]) else patchK l p k := by
  rw [patchK]
  simp only [List.getD_eq_getElem?_getD, List.getElem?_eq_getElem h1, List.getElem?_eq_getElem h2, Option.getD_some]
end Go.Proofs.YtnkfmjgbeoddbaaGreatDoor
