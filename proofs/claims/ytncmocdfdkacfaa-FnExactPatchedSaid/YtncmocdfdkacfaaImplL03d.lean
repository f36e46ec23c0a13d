/- What the program's functions of chapter 3 return: flushes, deaths. -/
import Derived.Test.YtncmocdfdkacfaaImplL03c
namespace Go.Proofs.Ytncmocdfdkacfaa
open Go.ChangeShapes Go.WideShapes Go.ChangeAt Go.RowKit

/-- a disk that a callee has made is handed on through a result variable r -/
theorem NewD.res {w w1 w2 : World} {r : Nat} {kv nv : Value} {d : DZ} (h : NewD w1 w2 kv nv d) (g : w.grownBy w1 none) (hr : w.heap.size ≤ r) (hr1 : r < w1.heap.size) (x0 x1 x2 x3 : Value) : NewD w (set4 w2 r x0 x1 x2 x3) kv nv d := by
  have hs := g.size
  exact ⟨⟨(h.1.1.lower (by omega)).set4 (not_own h.1.1 hr1) _ _ _ _, (h.1.2.lower (by omega)).set4 (not_own h.1.2 hr1) _ _ _ _⟩, h.2.1, gset4 (gtrans g h.2.2) hr _ _ _ _⟩
end Go.Proofs.Ytncmocdfdkacfaa
