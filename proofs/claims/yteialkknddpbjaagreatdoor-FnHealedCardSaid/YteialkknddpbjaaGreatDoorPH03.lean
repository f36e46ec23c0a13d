/- Of the law FnHealed: what the row says of the program, found true. -/
import Derived.Test.YteialkknddpbjaaGreatDoorRows
import Derived.Test.YteialkknddpbjaaGreatDoorCards
import Derived.SevenTiedAt
import Derived.WalkKit
import Derived.ProofKit
namespace Go.Proofs.YteialkknddpbjaaGreatDoor.fnHealed
set_option linter.unusedVariables false
theorem over1 : (Rows.fnHealedRow.inPlace == Tryz.pinned.checked.prog.inPlace 3) = true := by kernel_rfl
theorem over2 : (Rows.fnHealedRow.unfollowed == Tryz.pinned.checked.prog.unfollowed 3) = true := by kernel_rfl
theorem over3 : (Rows.fnHealedRow.recurses == Tryz.pinned.checked.prog.recurses 3) = true := by kernel_rfl
theorem over4 : (Rows.fnHealedRow.named == Tryz.pinned.checked.prog.varsNamed 3) = true := by kernel_rfl
theorem over5 : mapsRowed Tryz.pinned.checked.prog = true := by kernel_rfl
theorem over6 : laidOutB Tryz.pinned.checked.prog = true := by kernel_rfl
theorem over7 : (Rows.fnHealedRow.plainKeys == Tryz.pinned.checked.prog.plainKeys) = true := by kernel_rfl
theorem over8 : Tryz.pinned.checked.prog.stopsHeard = true := by kernel_rfl
theorem over9 : Tryz.pinned.checked.prog.mayEnter = true := by kernel_rfl
theorem over10 : (Rows.fnHealedRow.lifted == Tryz.pinned.checked.prog.liftsFinal) = true := by kernel_rfl
theorem over11 : (Tryz.pinned.checked.prog.make == some Rows.fnHealedRow.make) = true := by kernel_rfl
theorem overs : joinedFacts Tryz.pinned.checked.prog 3 Tryz.f3 Rows.fnHealedSpec Rows.fnHealedRow = true := by
  unfold joinedFacts
  rw [over1, over2, over3, over4, over5, over6, over7, over8, over9, over10, over11]
  kernel_rfl
end Go.Proofs.YteialkknddpbjaaGreatDoor.fnHealed
