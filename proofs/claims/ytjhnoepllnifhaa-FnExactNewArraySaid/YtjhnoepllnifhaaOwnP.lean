/- Lists of patches in memory: read; owned with all their memory. -/
import Derived.Test.YtjhnoepllnifhaaSpecL07b
import Derived.Test.YtjhnoepllnifhaaMem
namespace Go.Proofs.Ytjhnoepllnifhaa
open Go.ChangeShapes Go.WideShapes Go.ChangeAt Go.RowKit

/-- a patch as it lies in memory -/
structure PV where
  row : Int
  da : Option Addr
  dm : Nat
  dc : Nat
  va : Option Addr
  vm : Nat
  vc : Nat
def PV.dv (r : PV) : Value := .slice r.da r.dm r.dc
def PV.vv (r : PV) : Value := .slice r.va r.vm r.vc
/-- block k is one of the patch's -/
def PV.has (r : PV) (k : Nat) : Prop := r.dv.ownBlock = some k ∨ r.vv.ownBlock = some k
/-- what lies there is the patch p, with memory of its own -/
structure PV.Is (w : World) (base : Nat) (r : PV) (p : PZ) : Prop where
  row : r.row = p.row
  ds : IS w base r.dv p.ds
  vs : IS w base r.vv p.vs
section
variable {w w' : World} {base : Nat} {v : Value} {l : List PZ} {raw : List PV}
theorem PV.Is.grew {r : PV} {p : PZ} (h : r.Is w base p) (g : w.grownBy w' none) : r.Is w' base p := ⟨h.row, Own.grew h.ds g, Own.grew h.vs g⟩
theorem PV.Is.lower {b' : Nat} {r : PV} {p : PZ} (h : r.Is w base p) (hb : b' ≤ base) : r.Is w b' p := ⟨h.row, Own.lower h.ds hb, Own.lower h.vs hb⟩
end
end Go.Proofs.Ytjhnoepllnifhaa
