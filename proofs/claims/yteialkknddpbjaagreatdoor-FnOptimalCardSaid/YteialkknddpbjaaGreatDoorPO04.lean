/- Of the law FnOptimal: what the card says of the program, found true. -/
import Derived.Test.YteialkknddpbjaaGreatDoorRows
import Derived.Test.YteialkknddpbjaaGreatDoorCards
import Derived.Test.YteialkknddpbjaaGreatDoorTie
import Derived.SevenTiedAt
import Derived.WalkKit
import Derived.ProofKit
namespace Go.Proofs.YteialkknddpbjaaGreatDoor.fnOptimal
set_option linter.unusedVariables false
theorem card1 : Rows.fnOptimalRow.wfByText (OpenSpec.ofChange Rows.fnOptimalSpec) = true := by kernel_rfl
theorem card2 : Tryz.pinned.checked.prog.mainIs = some ((true, "73381c27ab06687f903984f508f0bfaec14206a11255e24c8170d829bb8fe9e3").1, (true, "73381c27ab06687f903984f508f0bfaec14206a11255e24c8170d829bb8fe9e3").2.toList) := by kernel_rfl
theorem card3 : true = Tryz.pinned.checked.prog.looks [] := by kernel_rfl
theorem card5 : false = Rows.fnOptimalRow.goesBy Tryz.pinned.checked.prog := by kernel_rfl
theorem card6 : Tryz.prog.funcNamed "loop.example/g00406/laws.FnOptimal" = some 4 := by kernel_rfl
theorem card4_22 : Tryz.prog.wantsStandIn 22 = false := by kernel_rfl
end Go.Proofs.YteialkknddpbjaaGreatDoor.fnOptimal
