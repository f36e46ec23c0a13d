/- The drawn arguments of chapter 1: whatever they are, they are int64, and drawing them changes nothing that was there. -/
import Derived.Test.YteialkknddpbjaaGreatDoorMem
import Derived.Test.YteialkknddpbjaaGreatDoorSpecL01
namespace Go.Proofs.YteialkknddpbjaaGreatDoor
open Go.ChangeShapes Go.WideShapes Go.ChangeAt Go.RowKit

def Drawn3 (w : World) (e : Ending) (w' : World) : Prop :=
  ∃ d p v : Int, i64B d ∧ i64B p ∧ i64B v ∧ e = .returned (.tuple #[.int .i64 d, .int .i64 p, .int .i64 v]) ∧ w.grownBy w' none
def Drawn4 (w : World) (e : Ending) (w' : World) : Prop :=
  ∃ d p v s : Int, i64B d ∧ i64B p ∧ i64B v ∧ i64B s ∧ e = .returned (.tuple #[.int .i64 d, .int .i64 p, .int .i64 v, .int .i64 s]) ∧ w.grownBy w' none
theorem gkeep {a b c : World} (h : a.grownBy b none) (k : b.grownBy c none) : a.grownBy c none := gtrans h k
end Go.Proofs.YteialkknddpbjaaGreatDoor
