/- A patch in a variable, and a patch as a result. -/
import Derived.Test.YtfodjokcobljmaaGreatSpecL07
import Derived.Test.YtfodjokcobljmaaGreatMem2
import Derived.Test.YtfodjokcobljmaaGreatRd
namespace Go.Proofs.YtfodjokcobljmaaGreat
open Go.ChangeShapes Go.WideShapes Go.ChangeAt Go.RowKit

/-- a patch in a variable, its slices own their memory -/
structure PBox (w : World) (b B : Nat) (p : PZ) (dv vv : Value) : Prop where
  c0 : At w b 0 (.int .i64 p.row)
  c1 : At w b 1 dv
  c2 : At w b 2 vv
  ds : IS w B dv p.ds
  vs : IS w B vv p.vs
  ap : Apart dv vv
  db : dv.ownBlock ≠ some b
  vb : vv.ownBlock ≠ some b
section
variable {w w' : World} {b B : Nat} {p : PZ} {dv vv : Value}
theorem PBox.kept (h : PBox w b B p dv vv) (g : w.grownBy w' none) : PBox w' b B p dv vv := ⟨gk g h.c0, gk g h.c1, gk g h.c2, h.ds.grew g, h.vs.grew g, h.ap, h.db, h.vb⟩
theorem PBox.lt (h : PBox w b B p dv vv) : b < w.heap.size := cell_lt h.c0.1
theorem PBox.other {c o : Nat} (h : PBox w b B p dv vv) (hc : c ≠ b) (hd : dv.ownBlock ≠ some c) (hv : vv.ownBlock ≠ some c) (u : Value) : PBox (w.setCell ⟨c, o, none⟩ u) b B p dv vv :=
  ⟨h.c0.other (by intro e; cases e; exact hc rfl) u, h.c1.other (by intro e; cases e; exact hc rfl) u, h.c2.other (by intro e; cases e; exact hc rfl) u, Own.other h.ds hd u, Own.other h.vs hv u, h.ap, h.db, h.vb⟩
/-- append onto Disks -/
theorem PBox.app1 (h : PBox w b B p dv vv) {v : Value} {m : List Int} (g : w.grownBy w' dv.ownBlock) (hv : IS w' B v (p.ds ++ m)) (hat : v.ownBlock = dv.ownBlock ∨ v.ownBlock = some w.heap.size) :
    PBox (w'.setCell ⟨b, 1, none⟩ v) b B { p with ds := p.ds ++ m } v vv := by
  have hb : v.ownBlock ≠ some b := lies_ne hat h.db h.lt
  have ha : Apart v vv := lies_apart hat h.ap fun k hk => (h.vs.lt k hk).2
  exact ⟨(gkr g h.db h.c0).other (by simp) _, (gkr g h.db h.c1).same _, (gkr g h.db h.c2).other (by simp) _, Own.other hv hb _, Own.other (h.vs.kept g h.ap.symm) h.vb _, ha, hb, h.vb⟩
/-- append onto Values -/
theorem PBox.app2 (h : PBox w b B p dv vv) {v : Value} {m : List Int} (g : w.grownBy w' vv.ownBlock) (hv : IS w' B v (p.vs ++ m)) (hat : v.ownBlock = vv.ownBlock ∨ v.ownBlock = some w.heap.size) :
    PBox (w'.setCell ⟨b, 2, none⟩ v) b B { p with vs := p.vs ++ m } dv v := by
  have hb : v.ownBlock ≠ some b := lies_ne hat h.vb h.lt
  have ha : Apart v dv := lies_apart hat h.ap.symm fun k hk => (h.ds.lt k hk).2
  exact ⟨(gkr g h.vb h.c0).other (by simp) _, (gkr g h.vb h.c1).other (by simp) _, (gkr g h.vb h.c2).same _, Own.other (h.ds.kept g h.ap) h.db _, Own.other hv hb _, ha.symm, h.db, hb⟩
end
/-- a new patch, and whether -/
def GotP (p : PZ) (ok : Bool) (w : World) (e : Ending) (w' : World) : Prop := ∃ dv vv, e = .returned (.tuple #[.agg #[.int .i64 p.row, dv, vv], .bool ok]) ∧ IS w' w.heap.size dv p.ds ∧ IS w' w.heap.size vv p.vs ∧ Apart dv vv ∧ w.grownBy w' none
/-- the result variable of three cells -/
structure Zero3 (w : World) (r : Nat) : Prop where
  c0 : At w r 0 (.int .i64 0)
  c1 : At w r 1 (.slice none 0 0)
  c2 : At w r 2 (.slice none 0 0)
theorem Zero3.new (w : World) : Zero3 (w.alloc (.cells #[.int .i64 0, .slice none 0 0, .slice none 0 0] 94)) w.heap.size := ⟨by simp [At, go_sem], by simp [At, go_sem], by simp [At, go_sem]⟩
theorem Zero3.kept {w w' : World} {r : Nat} {x : Option Nat} (h : Zero3 w r) (g : w.grownBy w' x) (hx : x ≠ some r) : Zero3 w' r := ⟨gkr g hx h.c0, gkr g hx h.c1, gkr g hx h.c2⟩
def set3 (w : World) (r : Nat) (x0 x1 x2 : Value) : World := ((w.setCell ⟨r, 0, none⟩ x0).setCell ⟨r, 1, none⟩ x1).setCell ⟨r, 2, none⟩ x2
theorem gset3 {a w : World} {r : Nat} (h : a.grownBy w none) (hr : a.heap.size ≤ r) (x0 x1 x2 : Value) : a.grownBy (set3 w r x0 x1 x2) none := gset1 (gset1 (gset1 h hr _ _) hr _ _) hr _ _
theorem ret_zero3 {w w' : World} {r : Nat} (h : w.grownBy w' none) (hr : w.heap.size ≤ r) : GotP .zero false w (.returned (.tuple #[.agg #[.int .i64 0, .slice none 0 0, .slice none 0 0], .bool false])) (set3 w' r (.int .i64 0) (.slice none 0 0) (.slice none 0 0)) :=
  ⟨_, _, rfl, Own.nil _ _ _, Own.nil _ _ _, .inl rfl, gset3 h hr _ _ _⟩
theorem Rd.only {α : Type} {E : Elt α} {S : Nat → Prop} {w w' : World} {v : Value} {l : List α} (h : Rd E w v l) (o : Only S w w') (hv : ∀ k, v.ownBlock = some k → ¬ S k) : Rd E w' v l := by
  obtain ⟨a, cap, h1, h2, h3, h4 | ⟨g, o', h5, h6, h7⟩⟩ := h
  · exact ⟨a, cap, h1, h2, h3, .inl h4⟩
  · have hg : ¬ S g := hv g (by rw [h1, h5]; rfl)
    refine ⟨a, cap, h1, h2, h3, .inr ⟨g, o', h5, by have := o.size; omega, fun j u hj => ?_⟩⟩
    exact (World.cell?_of_block (w := w) (o.block g h6 hg)).trans (h7 j u hj)
theorem Box3.only {S : Nat → Prop} {w w' : World} {b : Nat} {x0 x1 x2 : Value} (h : Box3 w b x0 x1 x2) (k : Only S w w') (hb : ¬ S b) : Box3 w' b x0 x1 x2 := ⟨only_cell h.1 k hb, only_cell h.2.1 k hb, only_cell h.2.2 k hb⟩
end Go.Proofs.YtfodjokcobljmaaGreat
