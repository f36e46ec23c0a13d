/- The laws' own helpers over cells. -/
import Derived.Test.YtnhefdmnpoaegaaGreatDoorBaseL02
import Derived.OpenShut
import Derived.Lib.SmallJoins
namespace Go.Proofs.YtnhefdmnpoaegaaGreatDoor
open Go.ChangeShapes Go.WideShapes Go.ChangeAt Go.RowKit Go.Joins

set_option maxRecDepth 20000 in
theorem openInt {H : Type} {enc : TypeId × Value → H} {w : World} {base b0 : Nat} {spare : Nat → Bool} {held : Bool} {r : Reach} {v : Value} {d : DataW H} {p : List MemPlace}
    (hv : Value.okWide Tryz.prog w r b0 2 v) (h : DataW.Trod enc Tryz.prog w base spare held 2 v d p) :
    ∃ x : Int, v = .int .i64 x ∧ i64B x := by
  obtain ⟨a, rfl, rfl, rfl, wa⟩ := open_int Tryz.underlying2 hv h
  simp only [Lit.wf, Bool.and_eq_true, decide_eq_true_eq] at wa
  exact ⟨a, rfl, wa⟩
end Go.Proofs.YtnhefdmnpoaegaaGreatDoor
