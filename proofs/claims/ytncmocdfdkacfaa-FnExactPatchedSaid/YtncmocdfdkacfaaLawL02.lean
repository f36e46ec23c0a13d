/- The laws' own helpers over cells. -/
import Derived.Test.YtncmocdfdkacfaaBaseL02
import Derived.OpenShut
import Derived.Lib.SmallJoins
namespace Go.Proofs.Ytncmocdfdkacfaa
open Go.ChangeShapes Go.WideShapes Go.ChangeAt Go.RowKit Go.Joins

theorem toCell_any (v s : Int) (w : World) :
    Calls Try.prog 87 #[.agg #[.int .i64 v, .int .i64 s]] w (Pure (.agg #[.int .i64 v, .int .i64 s]) w) := by
  go_enter Try.func87, Try.ntmps87
  go_wp2
  refine bodyPost_ret (v := .agg #[.int .i64 v, .int .i64 s]) (by simp [results, Try.results87, go_sem]) rfl ⟨rfl, ?_⟩
  repeat (first | exact grefl _ | refine galloc ?_ _ | refine gdrew ?_ _ | refine gsetN ?_ (by simp) _ _)
theorem eqCell_yes (v s : Int) (w : World) :
    Calls Try.prog 97 #[.agg #[.int .i64 v, .int .i64 s], .agg #[.int .i64 v, .int .i64 s]] w (Pure (.bool true) w) := by
  go_enter Try.func97, Try.ntmps97
  go_wp2
  go_ret
  refine ⟨rfl, ?_⟩
  repeat (first | exact grefl _ | refine galloc ?_ _ | refine gdrew ?_ _ | refine gsetN ?_ (by simp) _ _)
set_option maxRecDepth 20000 in
theorem openInt {H : Type} {enc : TypeId × Value → H} {w : World} {base b0 : Nat} {spare : Nat → Bool} {held : Bool} {r : Reach} {v : Value} {d : DataW H} {p : List MemPlace}
    (hv : Value.okWide Try.prog w r b0 2 v) (h : DataW.Trod enc Try.prog w base spare held 2 v d p) :
    ∃ x : Int, v = .int .i64 x ∧ i64B x := by
  obtain ⟨a, rfl, rfl, rfl, wa⟩ := open_int Try.underlying2 hv h
  simp only [Lit.wf, Bool.and_eq_true, decide_eq_true_eq] at wa
  exact ⟨a, rfl, wa⟩
set_option maxRecDepth 20000 in
theorem openCell {H : Type} {enc : TypeId × Value → H} {w : World} {base b0 : Nat} {spare : Nat → Bool} {held : Bool} {r : Reach} {v : Value} {d : DataW H} {p : List MemPlace}
    (hv : Value.okWide Try.prog w r b0 112 v) (h : DataW.Trod enc Try.prog w base spare held 112 v d p) :
    ∃ x y : Int, v = .agg #[.int .i64 x, .int .i64 y] ∧ i64B x ∧ i64B y := by
  obtain ⟨c0, c1, y0, y1, m, rfl, rfl, rfl, hy0, hy1⟩ := open_agg2 Try.underlying112 (by kernel_rfl) (by kernel_rfl) hv h
  obtain ⟨a, e0, rfl, wa⟩ := DataW.trod_int Try.underlying2 hy0
  obtain ⟨b, e1, rfl, wb⟩ := DataW.trod_int Try.underlying2 hy1
  simp at e0 e1
  subst e0 e1
  simp only [Lit.wf, Bool.and_eq_true, decide_eq_true_eq] at wa wb
  exact ⟨a, b, rfl, wa, wb⟩
end Go.Proofs.Ytncmocdfdkacfaa
