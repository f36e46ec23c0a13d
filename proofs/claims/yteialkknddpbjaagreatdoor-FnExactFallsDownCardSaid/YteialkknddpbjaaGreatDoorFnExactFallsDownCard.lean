/- Of the law FnExactFallsDown: what the card says of the program, found true. -/
import Derived.Test.YteialkknddpbjaaGreatDoorRows
import Derived.Test.YteialkknddpbjaaGreatDoorCards
import Derived.Test.YteialkknddpbjaaGreatDoorTie
import Derived.SevenTiedAt
import Derived.WalkKit
import Derived.ProofKit
namespace Go.Proofs.YteialkknddpbjaaGreatDoor.fnExactFallsDown
set_option linter.unusedVariables false
theorem card1 : Rows.fnExactFallsDownRow.wfByText (OpenSpec.ofChange Rows.fnExactFallsDownSpec) = true := by kernel_rfl
theorem card2 : Tryz.pinned.checked.prog.mainIs = some ((true, "73381c27ab06687f903984f508f0bfaec14206a11255e24c8170d829bb8fe9e3").1, (true, "73381c27ab06687f903984f508f0bfaec14206a11255e24c8170d829bb8fe9e3").2.toList) := by kernel_rfl
theorem card3 : true = Tryz.pinned.checked.prog.looks [] := by kernel_rfl
theorem card5 : false = Rows.fnExactFallsDownRow.goesBy Tryz.pinned.checked.prog := by kernel_rfl
theorem card6 : Tryz.prog.funcNamed "loop.example/g00406/laws.FnExactFallsDown" = some 9 := by kernel_rfl
theorem card4_2 : Tryz.prog.wantsStandIn 2 = false := by kernel_rfl
theorem card4_42 : Tryz.prog.wantsStandIn 42 = false := by kernel_rfl
theorem card4_64 : Tryz.prog.wantsStandIn 64 = false := by kernel_rfl
end Go.Proofs.YteialkknddpbjaaGreatDoor.fnExactFallsDown
