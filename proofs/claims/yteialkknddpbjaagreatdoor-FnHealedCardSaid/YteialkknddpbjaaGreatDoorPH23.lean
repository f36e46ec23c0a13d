/- The laws' own helpers over patches: what came in, opened, measured, copied, compared, marked, held. -/
import Derived.Lib.SmallJoins
import Derived.Test.YteialkknddpbjaaGreatDoorPH09
import Derived.Test.YteialkknddpbjaaGreatDoorPH15
namespace Go.Proofs.YteialkknddpbjaaGreatDoor
open Go.ChangeShapes Go.WideShapes Go.ChangeAt Go.RowKit Go.Joins Go.Deep
set_option maxRecDepth 8000

theorem i_not_own {w : World} {B r : Nat} {v : Value} {l : List Int} (h : IS w B v l) (hr : r < B) : v.ownBlock ≠ some r := fun e => by have := (h.lt r e).1; omega
theorem i_apart {w w1 : World} {B : Nat} {v u : Value} {l m : List Int} (hv : IS w B v l) (hu : IS w1 w.heap.size u m) : Apart v u := by
  cases e1 : v.ownBlock with
  | none => exact .inl e1
  | some a =>
    refine .inr ?_
    rw [e1]
    intro e2
    have := (hv.lt a e1).2
    have := (hu.lt a e2.symm).1
    omega
/-- a new patch -/
def FreshP (w w' : World) (dv vv : Value) (p : PZ) : Prop := IS w' w.heap.size dv p.ds ∧ IS w' w.heap.size vv p.vs ∧ Apart dv vv ∧ w.grownBy w' none
def GotPt (p : PZ) (w : World) (e : Ending) (w' : World) : Prop := ∃ dv vv, e = .returned (.agg #[.int .i64 p.row, dv, vv]) ∧ FreshP w w' dv vv p
theorem PBox.put1 {w w' : World} {b B : Nat} {p : PZ} {dv vv v : Value} {l : List Int} (h : PBox w b B p dv vv) (g : w.grownBy w' none) (hB : B ≤ w.heap.size) (hv : IS w' w.heap.size v l) : PBox (w'.setCell ⟨b, 1, none⟩ v) b B ⟨p.row, l, p.vs⟩ v vv := by
  have hb : v.ownBlock ≠ some b := i_not_own hv h.lt
  exact ⟨(gk g h.c0).other (by simp) _, (gk g h.c1).same _, (gk g h.c2).other (by simp) _, Own.other (hv.lower hB) hb _, Own.other (h.vs.grew g) h.vb _, (i_apart h.vs hv).symm, hb, h.vb⟩
theorem PBox.put2 {w w' : World} {b B : Nat} {p : PZ} {dv vv v : Value} {l : List Int} (h : PBox w b B p dv vv) (g : w.grownBy w' none) (hB : B ≤ w.heap.size) (hv : IS w' w.heap.size v l) : PBox (w'.setCell ⟨b, 2, none⟩ v) b B ⟨p.row, p.ds, l⟩ dv v := by
  have hb : v.ownBlock ≠ some b := i_not_own hv h.lt
  exact ⟨(gk g h.c0).other (by simp) _, (gk g h.c1).other (by simp) _, (gk g h.c2).same _, Own.other (h.ds.grew g) h.db _, Own.other (hv.lower hB) hb _, i_apart h.ds hv, h.db, hb⟩
theorem Zero3.other {w : World} {r c o : Nat} (h : Zero3 w r) (hc : c ≠ r) (u : Value) : Zero3 (w.setCell ⟨c, o, none⟩ u) r :=
  ⟨h.c0.other (by intro e; cases e; exact hc rfl) u, h.c1.other (by intro e; cases e; exact hc rfl) u, h.c2.other (by intro e; cases e; exact hc rfl) u⟩
theorem Box3.far {w : World} {b c o : Nat} {x0 x1 x2 : Value} (h : Box3 w b x0 x1 x2) (hc : c ≠ b) (u : Value) : Box3 (w.setCell ⟨c, o, none⟩ u) b x0 x1 x2 := by
  have hn : ∀ q, (w.setCell ⟨c, o, none⟩ u).cell? ⟨b, q, none⟩ = w.cell? ⟨b, q, none⟩ := fun q => World.cell?_setCell_other w _ _ u (fun e => hc (by cases e; rfl))
  exact ⟨by rw [hn]; exact h.1, by rw [hn]; exact h.2.1, by rw [hn]; exact h.2.2⟩
theorem PBox.res {w w' : World} {b r B : Nat} {p : PZ} {dv vv : Value} (h : PBox w' b B p dv vv) (g : w.grownBy w' none) (hB : w.heap.size ≤ B) (hr : w.heap.size ≤ r) (hrd : dv.ownBlock ≠ some r) (hrv : vv.ownBlock ≠ some r) (x0 x1 x2 : Value) : FreshP w (set3 w' r x0 x1 x2) dv vv p :=
  ⟨Own.other (Own.other (Own.other (h.ds.lower hB) hrd _) hrd _) hrd _, Own.other (Own.other (Own.other (h.vs.lower hB) hrv _) hrv _) hrv _, h.ap, gset3 g hr _ _ _⟩
/-- what a law's drawn test holds on to -/
abbrev Pr3 (w' : World) (a : Nat) (x0 x1 x2 : Value) (b : Nat) (y0 y1 y2 : Value) : Prop := Box3 w' a x0 x1 x2 ∧ Box3 w' b y0 y1 y2
theorem Pr3.kept {w' w2 : World} {a b : Nat} {x0 x1 x2 y0 y1 y2 : Value} (h : Pr3 w' a x0 x1 x2 b y0 y1 y2) (g : w'.grownBy w2 none) : Pr3 w2 a x0 x1 x2 b y0 y1 y2 := ⟨h.1.kept g, h.2.kept g⟩
theorem Pr3.drew {w' : World} {a b : Nat} {x0 x1 x2 y0 y1 y2 : Value} (h : Pr3 w' a x0 x1 x2 b y0 y1 y2) : Pr3 w'.drew a x0 x1 x2 b y0 y1 y2 := h
section
variable {H : Type} {enc : TypeId × Value → H} {w : World} {base : Nat} {held : Bool}
end
end Go.Proofs.YteialkknddpbjaaGreatDoor
