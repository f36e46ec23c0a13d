/- What the specification's functions of chapter 3 return: copies, writes, flushes, crashes. -/
import Derived.Test.YtoifhkfkmhnngaaSpecL03c
import Derived.Deep.DeepCutAuto
namespace Go.Proofs.Ytoifhkfkmhnngaa
open Go.ChangeShapes Go.WideShapes Go.ChangeAt Go.RowKit

end Go.Proofs.Ytoifhkfkmhnngaa
