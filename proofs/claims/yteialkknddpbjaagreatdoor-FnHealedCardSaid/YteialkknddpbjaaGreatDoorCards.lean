/-
  DERIVED. GIVEN WITH THE SEED: THE CARDS: each row of YteialkknddpbjaaGreatDoorRows.lean that lists a variable, with what it lists TIED to the program's text (the seventh form; the later family's looks); each row that meets fmt, with fmt's text TOLD by the authors' own Lean function (tested against real Go, not proved from fmt's source: count such statements apart). THE CARD IS WHAT COUNTS. Prove the row's statement (the work); the ties are given (YteialkknddpbjaaGreatDoorTie.lean); close each card by the builder's one call (the guide's Derived/Test/ToyasCard.lean, 'card_holds'). Laid BY PROGRAM, IN A SANDBOX (cutbox-door.mjs). By AI agents, Wed Nov 11 2026. No macro, syntax, notation, axiom, sorry.
-/
import Derived.Test.YteialkknddpbjaaGreatDoorRows
import GoSem.ClaimSeven
namespace Go.Proofs.YteialkknddpbjaaGreatDoor
namespace Rows

/-- THE TIED CARD OF 'laws.FnHealed'. -/
def fnHealedCard : Claim7 := { stood := { row := fnHealedRow, standIns := [], harness := (true, "73381c27ab06687f903984f508f0bfaec14206a11255e24c8170d829bb8fe9e3"), looks := true }, kinds := [], alts := [], laidByText := true, laidKinds := [.data, .data, .data, .data, .sentinel, .sentinel, .pinned], laidTests := true, laidLooks := .later }
def FnHealedCardSaid : Prop := Claim7.holds Tryz.pinned (.plain (OpenSpec.ofChange fnHealedSpec)) fnHealedCard

/-- THE TIED CARD OF 'laws.FnOptimal'. -/
def fnOptimalCard : Claim7 := { stood := { row := fnOptimalRow, standIns := [], harness := (true, "73381c27ab06687f903984f508f0bfaec14206a11255e24c8170d829bb8fe9e3"), looks := true }, kinds := [], alts := [], laidByText := true, laidKinds := [.data, .data, .data, .data, .sentinel, .sentinel, .pinned], laidTests := true, laidLooks := .later }
def FnOptimalCardSaid : Prop := Claim7.holds Tryz.pinned (.plain (OpenSpec.ofChange fnOptimalSpec)) fnOptimalCard

/-- THE TIED CARD OF 'laws.FnFalls'. -/
def fnFallsCard : Claim7 := { stood := { row := fnFallsRow, standIns := [], harness := (true, "73381c27ab06687f903984f508f0bfaec14206a11255e24c8170d829bb8fe9e3"), looks := true }, kinds := [], alts := [], laidByText := true, laidKinds := [.data, .data, .data, .data, .sentinel, .sentinel, .pinned], laidTests := true, laidLooks := .later }
def FnFallsCardSaid : Prop := Claim7.holds Tryz.pinned (.plain (OpenSpec.ofChange fnFallsSpec)) fnFallsCard

/-- THE TIED CARD OF 'laws.FnWherever'. -/
def fnWhereverCard : Claim7 := { stood := { row := fnWhereverRow, standIns := [], harness := (true, "73381c27ab06687f903984f508f0bfaec14206a11255e24c8170d829bb8fe9e3"), looks := true }, kinds := [], alts := [], laidByText := true, laidKinds := [.data, .data, .data, .data, .sentinel, .sentinel, .pinned], laidTests := true, laidLooks := .later }
def FnWhereverCardSaid : Prop := Claim7.holds Tryz.pinned (.plain (OpenSpec.ofChange fnWhereverSpec)) fnWhereverCard

/-- THE TIED CARD OF 'laws.FnNeverWrong'. -/
def fnNeverWrongCard : Claim7 := { stood := { row := fnNeverWrongRow, standIns := [], harness := (true, "73381c27ab06687f903984f508f0bfaec14206a11255e24c8170d829bb8fe9e3"), looks := true }, kinds := [], alts := [], laidByText := true, laidKinds := [.data, .data, .data, .data, .sentinel, .sentinel, .pinned], laidTests := true, laidLooks := .later }
def FnNeverWrongCardSaid : Prop := Claim7.holds Tryz.pinned (.plain (OpenSpec.ofChange fnNeverWrongSpec)) fnNeverWrongCard

/-- THE TIED CARD OF 'laws.FnExactReadArray'. -/
def fnExactReadArrayCard : Claim7 := { stood := { row := fnExactReadArrayRow, standIns := [], harness := (true, "73381c27ab06687f903984f508f0bfaec14206a11255e24c8170d829bb8fe9e3"), looks := true }, kinds := [], alts := [], laidByText := true, laidKinds := [.data, .data, .data, .data, .sentinel, .sentinel, .pinned], laidTests := true, laidLooks := .later }
def FnExactReadArrayCardSaid : Prop := Claim7.holds Tryz.pinned (.plain (OpenSpec.ofChange fnExactReadArraySpec)) fnExactReadArrayCard

/-- THE TIED CARD OF 'laws.FnExactFallsDown'. -/
def fnExactFallsDownCard : Claim7 := { stood := { row := fnExactFallsDownRow, standIns := [], harness := (true, "73381c27ab06687f903984f508f0bfaec14206a11255e24c8170d829bb8fe9e3"), looks := true }, kinds := [], alts := [], laidByText := true, laidKinds := [.data, .data, .data, .data, .sentinel, .sentinel, .pinned], laidTests := true, laidLooks := .later }
def FnExactFallsDownCardSaid : Prop := Claim7.holds Tryz.pinned (.plain (OpenSpec.ofChange fnExactFallsDownSpec)) fnExactFallsDownCard

/-- THE TIED CARD OF 'laws.FnExactAssembled'. -/
def fnExactAssembledCard : Claim7 := { stood := { row := fnExactAssembledRow, standIns := [], harness := (true, "73381c27ab06687f903984f508f0bfaec14206a11255e24c8170d829bb8fe9e3"), looks := true }, kinds := [], alts := [], laidByText := true, laidKinds := [.data, .data, .data, .data, .sentinel, .sentinel, .pinned], laidTests := true, laidLooks := .later }
def FnExactAssembledCardSaid : Prop := Claim7.holds Tryz.pinned (.plain (OpenSpec.ofChange fnExactAssembledSpec)) fnExactAssembledCard

/-- THE TIED CARD OF 'laws.FnExactWorstOf'. -/
def fnExactWorstOfCard : Claim7 := { stood := { row := fnExactWorstOfRow, standIns := [], harness := (true, "73381c27ab06687f903984f508f0bfaec14206a11255e24c8170d829bb8fe9e3"), looks := true }, kinds := [], alts := [], laidByText := true, laidKinds := [.data, .data, .data, .data, .sentinel, .sentinel, .pinned], laidTests := true, laidLooks := .later }
def FnExactWorstOfCardSaid : Prop := Claim7.holds Tryz.pinned (.plain (OpenSpec.ofChange fnExactWorstOfSpec)) fnExactWorstOfCard

/-- THE SECOND FORM's CARD OF 'laws.FnHealed'. -/
def fnHealedUptoCard : Claim7 := { stood := { row := fnHealedUptoRow, standIns := [], harness := (true, "73381c27ab06687f903984f508f0bfaec14206a11255e24c8170d829bb8fe9e3"), looks := true }, kinds := [], alts := [], laidByText := true, laidKinds := [.data, .data, .data, .data, .sentinel, .sentinel, .pinned], laidTests := true, laidLooks := .later }
def FnHealedUptoCardSaid : Prop := Claim7.holds Tryz.pinned (.plain (OpenSpec.upto fnHealedSpec)) fnHealedUptoCard

/-- THE SECOND FORM's CARD OF 'laws.FnOptimal'. -/
def fnOptimalUptoCard : Claim7 := { stood := { row := fnOptimalUptoRow, standIns := [], harness := (true, "73381c27ab06687f903984f508f0bfaec14206a11255e24c8170d829bb8fe9e3"), looks := true }, kinds := [], alts := [], laidByText := true, laidKinds := [.data, .data, .data, .data, .sentinel, .sentinel, .pinned], laidTests := true, laidLooks := .later }
def FnOptimalUptoCardSaid : Prop := Claim7.holds Tryz.pinned (.plain (OpenSpec.upto fnOptimalSpec)) fnOptimalUptoCard

/-- THE SECOND FORM's CARD OF 'laws.FnFalls'. -/
def fnFallsUptoCard : Claim7 := { stood := { row := fnFallsUptoRow, standIns := [], harness := (true, "73381c27ab06687f903984f508f0bfaec14206a11255e24c8170d829bb8fe9e3"), looks := true }, kinds := [], alts := [], laidByText := true, laidKinds := [.data, .data, .data, .data, .sentinel, .sentinel, .pinned], laidTests := true, laidLooks := .later }
def FnFallsUptoCardSaid : Prop := Claim7.holds Tryz.pinned (.plain (OpenSpec.upto fnFallsSpec)) fnFallsUptoCard

/-- THE SECOND FORM's CARD OF 'laws.FnWherever'. -/
def fnWhereverUptoCard : Claim7 := { stood := { row := fnWhereverUptoRow, standIns := [], harness := (true, "73381c27ab06687f903984f508f0bfaec14206a11255e24c8170d829bb8fe9e3"), looks := true }, kinds := [], alts := [], laidByText := true, laidKinds := [.data, .data, .data, .data, .sentinel, .sentinel, .pinned], laidTests := true, laidLooks := .later }
def FnWhereverUptoCardSaid : Prop := Claim7.holds Tryz.pinned (.plain (OpenSpec.upto fnWhereverSpec)) fnWhereverUptoCard

/-- THE SECOND FORM's CARD OF 'laws.FnNeverWrong'. -/
def fnNeverWrongUptoCard : Claim7 := { stood := { row := fnNeverWrongUptoRow, standIns := [], harness := (true, "73381c27ab06687f903984f508f0bfaec14206a11255e24c8170d829bb8fe9e3"), looks := true }, kinds := [], alts := [], laidByText := true, laidKinds := [.data, .data, .data, .data, .sentinel, .sentinel, .pinned], laidTests := true, laidLooks := .later }
def FnNeverWrongUptoCardSaid : Prop := Claim7.holds Tryz.pinned (.plain (OpenSpec.upto fnNeverWrongSpec)) fnNeverWrongUptoCard

/-- THE SECOND FORM's CARD OF 'laws.FnExactReadArray'. -/
def fnExactReadArrayUptoCard : Claim7 := { stood := { row := fnExactReadArrayUptoRow, standIns := [], harness := (true, "73381c27ab06687f903984f508f0bfaec14206a11255e24c8170d829bb8fe9e3"), looks := true }, kinds := [], alts := [], laidByText := true, laidKinds := [.data, .data, .data, .data, .sentinel, .sentinel, .pinned], laidTests := true, laidLooks := .later }
def FnExactReadArrayUptoCardSaid : Prop := Claim7.holds Tryz.pinned (.plain (OpenSpec.upto fnExactReadArraySpec)) fnExactReadArrayUptoCard

/-- THE SECOND FORM's CARD OF 'laws.FnExactFallsDown'. -/
def fnExactFallsDownUptoCard : Claim7 := { stood := { row := fnExactFallsDownUptoRow, standIns := [], harness := (true, "73381c27ab06687f903984f508f0bfaec14206a11255e24c8170d829bb8fe9e3"), looks := true }, kinds := [], alts := [], laidByText := true, laidKinds := [.data, .data, .data, .data, .sentinel, .sentinel, .pinned], laidTests := true, laidLooks := .later }
def FnExactFallsDownUptoCardSaid : Prop := Claim7.holds Tryz.pinned (.plain (OpenSpec.upto fnExactFallsDownSpec)) fnExactFallsDownUptoCard

/-- THE SECOND FORM's CARD OF 'laws.FnExactAssembled'. -/
def fnExactAssembledUptoCard : Claim7 := { stood := { row := fnExactAssembledUptoRow, standIns := [], harness := (true, "73381c27ab06687f903984f508f0bfaec14206a11255e24c8170d829bb8fe9e3"), looks := true }, kinds := [], alts := [], laidByText := true, laidKinds := [.data, .data, .data, .data, .sentinel, .sentinel, .pinned], laidTests := true, laidLooks := .later }
def FnExactAssembledUptoCardSaid : Prop := Claim7.holds Tryz.pinned (.plain (OpenSpec.upto fnExactAssembledSpec)) fnExactAssembledUptoCard

/-- THE SECOND FORM's CARD OF 'laws.FnExactWorstOf'. -/
def fnExactWorstOfUptoCard : Claim7 := { stood := { row := fnExactWorstOfUptoRow, standIns := [], harness := (true, "73381c27ab06687f903984f508f0bfaec14206a11255e24c8170d829bb8fe9e3"), looks := true }, kinds := [], alts := [], laidByText := true, laidKinds := [.data, .data, .data, .data, .sentinel, .sentinel, .pinned], laidTests := true, laidLooks := .later }
def FnExactWorstOfUptoCardSaid : Prop := Claim7.holds Tryz.pinned (.plain (OpenSpec.upto fnExactWorstOfSpec)) fnExactWorstOfUptoCard
end Rows
end Go.Proofs.YteialkknddpbjaaGreatDoor
