/- What the specification's functions of chapter 5 return, for every argument. -/
import Derived.Test.YtoifhkfkmhnngaaBaseL05
import Derived.Test.YtoifhkfkmhnngaaSpecL01
import Derived.BigQuiet
import Derived.Test.YtoifhkfkmhnngaaMem
import Derived.Deep.DeepFit
namespace Go.Proofs.Ytoifhkfkmhnngaa
open Go.ChangeShapes Go.WideShapes Go.ChangeAt Go.RowKit

theorem l5N_any (n : Int) (w : World) :
    Calls Try.prog 26 #[.int .i64 n] w fun e w' => e = .returned (.bool (inB n 3 5)) ∧ w = w' := by
  go_enter Try.func26, Try.ntmps26
  go_wp2_with fail
  go_fit (l1In_any _ _ _ _)
  rintro e w' ⟨rfl, rfl⟩
  go_wp2_with fail
  go_ret
  exact ⟨rfl, rfl⟩
end Go.Proofs.Ytoifhkfkmhnngaa
