/- The laws' own helpers over disks: alike. -/
import Derived.Test.YtdfhfebcbmolbaaGreatSpecL03g
namespace Go.Proofs.YtdfhfebcbmolbaaGreat
open Go.ChangeShapes Go.WideShapes Go.ChangeAt Go.RowKit

end Go.Proofs.YtdfhfebcbmolbaaGreat
