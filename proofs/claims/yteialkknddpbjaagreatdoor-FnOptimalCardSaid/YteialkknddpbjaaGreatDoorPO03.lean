/- Of the law FnOptimal: what the row says of the program, found true. -/
import Derived.Test.YteialkknddpbjaaGreatDoorRows
import Derived.Test.YteialkknddpbjaaGreatDoorCards
import Derived.SevenTiedAt
import Derived.WalkKit
import Derived.ProofKit
namespace Go.Proofs.YteialkknddpbjaaGreatDoor.fnOptimal
set_option linter.unusedVariables false
theorem over1 : (Rows.fnOptimalRow.inPlace == Tryz.pinned.checked.prog.inPlace 4) = true := by kernel_rfl
theorem over2 : (Rows.fnOptimalRow.unfollowed == Tryz.pinned.checked.prog.unfollowed 4) = true := by kernel_rfl
theorem over3 : (Rows.fnOptimalRow.recurses == Tryz.pinned.checked.prog.recurses 4) = true := by kernel_rfl
theorem over4 : (Rows.fnOptimalRow.named == Tryz.pinned.checked.prog.varsNamed 4) = true := by kernel_rfl
theorem over5 : mapsRowed Tryz.pinned.checked.prog = true := by kernel_rfl
theorem over6 : laidOutB Tryz.pinned.checked.prog = true := by kernel_rfl
theorem over7 : (Rows.fnOptimalRow.plainKeys == Tryz.pinned.checked.prog.plainKeys) = true := by kernel_rfl
theorem over8 : Tryz.pinned.checked.prog.stopsHeard = true := by kernel_rfl
theorem over9 : Tryz.pinned.checked.prog.mayEnter = true := by kernel_rfl
theorem over10 : (Rows.fnOptimalRow.lifted == Tryz.pinned.checked.prog.liftsFinal) = true := by kernel_rfl
theorem over11 : (Tryz.pinned.checked.prog.make == some Rows.fnOptimalRow.make) = true := by kernel_rfl
theorem overs : joinedFacts Tryz.pinned.checked.prog 4 Tryz.f4 Rows.fnOptimalSpec Rows.fnOptimalRow = true := by
  unfold joinedFacts
  rw [over1, over2, over3, over4, over5, over6, over7, over8, over9, over10, over11]
  kernel_rfl
end Go.Proofs.YteialkknddpbjaaGreatDoor.fnOptimal
