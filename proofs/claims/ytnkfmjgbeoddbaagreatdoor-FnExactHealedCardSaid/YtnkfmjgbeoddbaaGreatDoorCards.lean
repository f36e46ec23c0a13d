/-
  DERIVED. GIVEN WITH THE SEED: THE CARDS: each row of YtnkfmjgbeoddbaaGreatDoorRows.lean that lists a variable, with what it lists TIED to the program's text (the seventh form; the later family's looks); each row that meets fmt, with fmt's text TOLD by the authors' own Lean function (tested against real Go, not proved from fmt's source: count such statements apart). THE CARD IS WHAT COUNTS. Prove the row's statement (the work); the ties are given (YtnkfmjgbeoddbaaGreatDoorTie.lean); close each card by the builder's one call (the guide's Derived/Test/ToyasCard.lean, 'card_holds'). Laid BY PROGRAM, IN A SANDBOX (cutbox-door.mjs). By AI agents, Wed Nov 11 2026. No macro, syntax, notation, axiom, sorry.
-/
import Derived.Test.YtnkfmjgbeoddbaaGreatDoorRows
import GoSem.ClaimSeven
namespace Go.Proofs.YtnkfmjgbeoddbaaGreatDoor
namespace Rows

/-- THE TIED CARD OF 'laws.FnHealed'. -/
def fnHealedCard : Claim7 := { stood := { row := fnHealedRow, standIns := [], harness := (true, "f84111a732ba7a6e4ad942a03daef418e0be55016aaf447de4a1ce53821ff3a1"), looks := true }, kinds := [], alts := [], laidByText := true, laidKinds := [.data, .data, .data, .data, .sentinel, .sentinel, .pinned], laidTests := true, laidLooks := .later }
def FnHealedCardSaid : Prop := Claim7.holds Tryz.pinned (.plain (OpenSpec.ofChange fnHealedSpec)) fnHealedCard

/-- THE TIED CARD OF 'laws.FnOptimal'. -/
def fnOptimalCard : Claim7 := { stood := { row := fnOptimalRow, standIns := [], harness := (true, "f84111a732ba7a6e4ad942a03daef418e0be55016aaf447de4a1ce53821ff3a1"), looks := true }, kinds := [], alts := [], laidByText := true, laidKinds := [.data, .data, .data, .data, .sentinel, .sentinel, .pinned], laidTests := true, laidLooks := .later }
def FnOptimalCardSaid : Prop := Claim7.holds Tryz.pinned (.plain (OpenSpec.ofChange fnOptimalSpec)) fnOptimalCard

/-- THE TIED CARD OF 'laws.FnExactReadArray'. -/
def fnExactReadArrayCard : Claim7 := { stood := { row := fnExactReadArrayRow, standIns := [], harness := (true, "f84111a732ba7a6e4ad942a03daef418e0be55016aaf447de4a1ce53821ff3a1"), looks := true }, kinds := [], alts := [], laidByText := true, laidKinds := [.data, .data, .data, .data, .sentinel, .sentinel, .pinned], laidTests := true, laidLooks := .later }
def FnExactReadArrayCardSaid : Prop := Claim7.holds Tryz.pinned (.plain (OpenSpec.ofChange fnExactReadArraySpec)) fnExactReadArrayCard

/-- THE TIED CARD OF 'laws.FnExactHealed'. -/
def fnExactHealedCard : Claim7 := { stood := { row := fnExactHealedRow, standIns := [], harness := (true, "f84111a732ba7a6e4ad942a03daef418e0be55016aaf447de4a1ce53821ff3a1"), looks := true }, kinds := [], alts := [], laidByText := true, laidKinds := [.data, .data, .data, .data, .sentinel, .sentinel, .pinned], laidTests := true, laidLooks := .later }
def FnExactHealedCardSaid : Prop := Claim7.holds Tryz.pinned (.plain (OpenSpec.ofChange fnExactHealedSpec)) fnExactHealedCard

/-- THE TIED CARD OF 'laws.FnExactHealedAll'. -/
def fnExactHealedAllCard : Claim7 := { stood := { row := fnExactHealedAllRow, standIns := [], harness := (true, "f84111a732ba7a6e4ad942a03daef418e0be55016aaf447de4a1ce53821ff3a1"), looks := true }, kinds := [], alts := [], laidByText := true, laidKinds := [.data, .data, .data, .data, .sentinel, .sentinel, .pinned], laidTests := true, laidLooks := .later }
def FnExactHealedAllCardSaid : Prop := Claim7.holds Tryz.pinned (.plain (OpenSpec.ofChange fnExactHealedAllSpec)) fnExactHealedAllCard

/-- THE TIED CARD OF 'laws.FnExactReplaced'. -/
def fnExactReplacedCard : Claim7 := { stood := { row := fnExactReplacedRow, standIns := [], harness := (true, "f84111a732ba7a6e4ad942a03daef418e0be55016aaf447de4a1ce53821ff3a1"), looks := true }, kinds := [], alts := [], laidByText := true, laidKinds := [.data, .data, .data, .data, .sentinel, .sentinel, .pinned], laidTests := true, laidLooks := .later }
def FnExactReplacedCardSaid : Prop := Claim7.holds Tryz.pinned (.plain (OpenSpec.ofChange fnExactReplacedSpec)) fnExactReplacedCard

/-- THE TIED CARD OF 'laws.FnExactOptimal'. -/
def fnExactOptimalCard : Claim7 := { stood := { row := fnExactOptimalRow, standIns := [], harness := (true, "f84111a732ba7a6e4ad942a03daef418e0be55016aaf447de4a1ce53821ff3a1"), looks := true }, kinds := [], alts := [], laidByText := true, laidKinds := [.data, .data, .data, .data, .sentinel, .sentinel, .pinned], laidTests := true, laidLooks := .later }
def FnExactOptimalCardSaid : Prop := Claim7.holds Tryz.pinned (.plain (OpenSpec.ofChange fnExactOptimalSpec)) fnExactOptimalCard

/-- THE TIED CARD OF 'laws.FnExactRots'. -/
def fnExactRotsCard : Claim7 := { stood := { row := fnExactRotsRow, standIns := [], harness := (true, "f84111a732ba7a6e4ad942a03daef418e0be55016aaf447de4a1ce53821ff3a1"), looks := true }, kinds := [], alts := [], laidByText := true, laidKinds := [.data, .data, .data, .data, .sentinel, .sentinel, .pinned], laidTests := true, laidLooks := .later }
def FnExactRotsCardSaid : Prop := Claim7.holds Tryz.pinned (.plain (OpenSpec.ofChange fnExactRotsSpec)) fnExactRotsCard

/-- THE TIED CARD OF 'laws.FnExactDies'. -/
def fnExactDiesCard : Claim7 := { stood := { row := fnExactDiesRow, standIns := [], harness := (true, "f84111a732ba7a6e4ad942a03daef418e0be55016aaf447de4a1ce53821ff3a1"), looks := true }, kinds := [], alts := [], laidByText := true, laidKinds := [.data, .data, .data, .data, .sentinel, .sentinel, .pinned], laidTests := true, laidLooks := .later }
def FnExactDiesCardSaid : Prop := Claim7.holds Tryz.pinned (.plain (OpenSpec.ofChange fnExactDiesSpec)) fnExactDiesCard

/-- THE SECOND FORM's CARD OF 'laws.FnHealed'. -/
def fnHealedUptoCard : Claim7 := { stood := { row := fnHealedUptoRow, standIns := [], harness := (true, "f84111a732ba7a6e4ad942a03daef418e0be55016aaf447de4a1ce53821ff3a1"), looks := true }, kinds := [], alts := [], laidByText := true, laidKinds := [.data, .data, .data, .data, .sentinel, .sentinel, .pinned], laidTests := true, laidLooks := .later }
def FnHealedUptoCardSaid : Prop := Claim7.holds Tryz.pinned (.plain (OpenSpec.upto fnHealedSpec)) fnHealedUptoCard

/-- THE SECOND FORM's CARD OF 'laws.FnOptimal'. -/
def fnOptimalUptoCard : Claim7 := { stood := { row := fnOptimalUptoRow, standIns := [], harness := (true, "f84111a732ba7a6e4ad942a03daef418e0be55016aaf447de4a1ce53821ff3a1"), looks := true }, kinds := [], alts := [], laidByText := true, laidKinds := [.data, .data, .data, .data, .sentinel, .sentinel, .pinned], laidTests := true, laidLooks := .later }
def FnOptimalUptoCardSaid : Prop := Claim7.holds Tryz.pinned (.plain (OpenSpec.upto fnOptimalSpec)) fnOptimalUptoCard

/-- THE SECOND FORM's CARD OF 'laws.FnExactReadArray'. -/
def fnExactReadArrayUptoCard : Claim7 := { stood := { row := fnExactReadArrayUptoRow, standIns := [], harness := (true, "f84111a732ba7a6e4ad942a03daef418e0be55016aaf447de4a1ce53821ff3a1"), looks := true }, kinds := [], alts := [], laidByText := true, laidKinds := [.data, .data, .data, .data, .sentinel, .sentinel, .pinned], laidTests := true, laidLooks := .later }
def FnExactReadArrayUptoCardSaid : Prop := Claim7.holds Tryz.pinned (.plain (OpenSpec.upto fnExactReadArraySpec)) fnExactReadArrayUptoCard

/-- THE SECOND FORM's CARD OF 'laws.FnExactHealed'. -/
def fnExactHealedUptoCard : Claim7 := { stood := { row := fnExactHealedUptoRow, standIns := [], harness := (true, "f84111a732ba7a6e4ad942a03daef418e0be55016aaf447de4a1ce53821ff3a1"), looks := true }, kinds := [], alts := [], laidByText := true, laidKinds := [.data, .data, .data, .data, .sentinel, .sentinel, .pinned], laidTests := true, laidLooks := .later }
def FnExactHealedUptoCardSaid : Prop := Claim7.holds Tryz.pinned (.plain (OpenSpec.upto fnExactHealedSpec)) fnExactHealedUptoCard

/-- THE SECOND FORM's CARD OF 'laws.FnExactHealedAll'. -/
def fnExactHealedAllUptoCard : Claim7 := { stood := { row := fnExactHealedAllUptoRow, standIns := [], harness := (true, "f84111a732ba7a6e4ad942a03daef418e0be55016aaf447de4a1ce53821ff3a1"), looks := true }, kinds := [], alts := [], laidByText := true, laidKinds := [.data, .data, .data, .data, .sentinel, .sentinel, .pinned], laidTests := true, laidLooks := .later }
def FnExactHealedAllUptoCardSaid : Prop := Claim7.holds Tryz.pinned (.plain (OpenSpec.upto fnExactHealedAllSpec)) fnExactHealedAllUptoCard

/-- THE SECOND FORM's CARD OF 'laws.FnExactReplaced'. -/
def fnExactReplacedUptoCard : Claim7 := { stood := { row := fnExactReplacedUptoRow, standIns := [], harness := (true, "f84111a732ba7a6e4ad942a03daef418e0be55016aaf447de4a1ce53821ff3a1"), looks := true }, kinds := [], alts := [], laidByText := true, laidKinds := [.data, .data, .data, .data, .sentinel, .sentinel, .pinned], laidTests := true, laidLooks := .later }
def FnExactReplacedUptoCardSaid : Prop := Claim7.holds Tryz.pinned (.plain (OpenSpec.upto fnExactReplacedSpec)) fnExactReplacedUptoCard

/-- THE SECOND FORM's CARD OF 'laws.FnExactOptimal'. -/
def fnExactOptimalUptoCard : Claim7 := { stood := { row := fnExactOptimalUptoRow, standIns := [], harness := (true, "f84111a732ba7a6e4ad942a03daef418e0be55016aaf447de4a1ce53821ff3a1"), looks := true }, kinds := [], alts := [], laidByText := true, laidKinds := [.data, .data, .data, .data, .sentinel, .sentinel, .pinned], laidTests := true, laidLooks := .later }
def FnExactOptimalUptoCardSaid : Prop := Claim7.holds Tryz.pinned (.plain (OpenSpec.upto fnExactOptimalSpec)) fnExactOptimalUptoCard

/-- THE SECOND FORM's CARD OF 'laws.FnExactRots'. -/
def fnExactRotsUptoCard : Claim7 := { stood := { row := fnExactRotsUptoRow, standIns := [], harness := (true, "f84111a732ba7a6e4ad942a03daef418e0be55016aaf447de4a1ce53821ff3a1"), looks := true }, kinds := [], alts := [], laidByText := true, laidKinds := [.data, .data, .data, .data, .sentinel, .sentinel, .pinned], laidTests := true, laidLooks := .later }
def FnExactRotsUptoCardSaid : Prop := Claim7.holds Tryz.pinned (.plain (OpenSpec.upto fnExactRotsSpec)) fnExactRotsUptoCard

/-- THE SECOND FORM's CARD OF 'laws.FnExactDies'. -/
def fnExactDiesUptoCard : Claim7 := { stood := { row := fnExactDiesUptoRow, standIns := [], harness := (true, "f84111a732ba7a6e4ad942a03daef418e0be55016aaf447de4a1ce53821ff3a1"), looks := true }, kinds := [], alts := [], laidByText := true, laidKinds := [.data, .data, .data, .data, .sentinel, .sentinel, .pinned], laidTests := true, laidLooks := .later }
def FnExactDiesUptoCardSaid : Prop := Claim7.holds Tryz.pinned (.plain (OpenSpec.upto fnExactDiesSpec)) fnExactDiesUptoCard
end Rows
end Go.Proofs.YtnkfmjgbeoddbaaGreatDoor
