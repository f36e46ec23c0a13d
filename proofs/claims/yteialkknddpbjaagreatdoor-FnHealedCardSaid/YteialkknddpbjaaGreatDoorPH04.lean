/- Of the law FnHealed: what the card says of the program, found true. -/
import Derived.Test.YteialkknddpbjaaGreatDoorRows
import Derived.Test.YteialkknddpbjaaGreatDoorCards
import Derived.Test.YteialkknddpbjaaGreatDoorTie
import Derived.SevenTiedAt
import Derived.WalkKit
import Derived.ProofKit
namespace Go.Proofs.YteialkknddpbjaaGreatDoor.fnHealed
set_option linter.unusedVariables false
theorem card1 : Rows.fnHealedRow.wfByText (OpenSpec.ofChange Rows.fnHealedSpec) = true := by kernel_rfl
theorem card2 : Tryz.pinned.checked.prog.mainIs = some ((true, "73381c27ab06687f903984f508f0bfaec14206a11255e24c8170d829bb8fe9e3").1, (true, "73381c27ab06687f903984f508f0bfaec14206a11255e24c8170d829bb8fe9e3").2.toList) := by kernel_rfl
theorem card3 : true = Tryz.pinned.checked.prog.looks [] := by kernel_rfl
theorem card5 : false = Rows.fnHealedRow.goesBy Tryz.pinned.checked.prog := by kernel_rfl
theorem card6 : Tryz.prog.funcNamed "loop.example/g00406/laws.FnHealed" = some 3 := by kernel_rfl
theorem card4_22 : Tryz.prog.wantsStandIn 22 = false := by kernel_rfl
end Go.Proofs.YteialkknddpbjaaGreatDoor.fnHealed
