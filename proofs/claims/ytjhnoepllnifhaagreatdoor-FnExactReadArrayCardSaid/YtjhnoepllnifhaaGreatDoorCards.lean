/-
  DERIVED. GIVEN WITH THE SEED: THE CARDS: each row of YtjhnoepllnifhaaGreatDoorRows.lean that lists a variable, with what it lists TIED to the program's text (the seventh form; the later family's looks); each row that meets fmt, with fmt's text TOLD by the authors' own Lean function (tested against real Go, not proved from fmt's source: count such statements apart). THE CARD IS WHAT COUNTS. Prove the row's statement (the work); the ties are given (YtjhnoepllnifhaaGreatDoorTie.lean); close each card by the builder's one call (the guide's Derived/Test/ToyasCard.lean, 'card_holds'). Laid BY PROGRAM, IN A SANDBOX (cutbox-door.mjs). By AI agents, Wed Nov 11 2026. No macro, syntax, notation, axiom, sorry.
-/
import Derived.Test.YtjhnoepllnifhaaGreatDoorRows
import GoSem.ClaimSeven
namespace Go.Proofs.YtjhnoepllnifhaaGreatDoor
namespace Rows

/-- THE TIED CARD OF 'laws.FnPatches'. -/
def fnPatchesCard : Claim7 := { stood := { row := fnPatchesRow, standIns := [], harness := (true, "647fcb1a7b8dc0119ba5af1dd6c4c6e8e908cdb9189535e81904386c36847f4b"), looks := true }, kinds := [], alts := [], laidByText := true, laidKinds := [.data, .data, .data, .data, .sentinel, .sentinel, .pinned], laidTests := true, laidLooks := .later }
def FnPatchesCardSaid : Prop := Claim7.holds Tryz.pinned (.plain (OpenSpec.ofChange fnPatchesSpec)) fnPatchesCard

/-- THE TIED CARD OF 'laws.FnArrays'. -/
def fnArraysCard : Claim7 := { stood := { row := fnArraysRow, standIns := [], harness := (true, "647fcb1a7b8dc0119ba5af1dd6c4c6e8e908cdb9189535e81904386c36847f4b"), looks := true }, kinds := [], alts := [], laidByText := true, laidKinds := [.data, .data, .data, .data, .sentinel, .sentinel, .pinned], laidTests := true, laidLooks := .later }
def FnArraysCardSaid : Prop := Claim7.holds Tryz.pinned (.plain (OpenSpec.ofChange fnArraysSpec)) fnArraysCard

/-- THE TIED CARD OF 'laws.FnAsOne'. -/
def fnAsOneCard : Claim7 := { stood := { row := fnAsOneRow, standIns := [], harness := (true, "647fcb1a7b8dc0119ba5af1dd6c4c6e8e908cdb9189535e81904386c36847f4b"), looks := true }, kinds := [], alts := [], laidByText := true, laidKinds := [.data, .data, .data, .data, .sentinel, .sentinel, .pinned], laidTests := true, laidLooks := .later }
def FnAsOneCardSaid : Prop := Claim7.holds Tryz.pinned (.plain (OpenSpec.ofChange fnAsOneSpec)) fnAsOneCard

/-- THE TIED CARD OF 'laws.FnExactArrayOk'. -/
def fnExactArrayOkCard : Claim7 := { stood := { row := fnExactArrayOkRow, standIns := [], harness := (true, "647fcb1a7b8dc0119ba5af1dd6c4c6e8e908cdb9189535e81904386c36847f4b"), looks := true }, kinds := [], alts := [], laidByText := true, laidKinds := [.data, .data, .data, .data, .sentinel, .sentinel, .pinned], laidTests := true, laidLooks := .later }
def FnExactArrayOkCardSaid : Prop := Claim7.holds Tryz.pinned (.plain (OpenSpec.ofChange fnExactArrayOkSpec)) fnExactArrayOkCard

/-- THE TIED CARD OF 'laws.FnExactReadArray'. -/
def fnExactReadArrayCard : Claim7 := { stood := { row := fnExactReadArrayRow, standIns := [], harness := (true, "647fcb1a7b8dc0119ba5af1dd6c4c6e8e908cdb9189535e81904386c36847f4b"), looks := true }, kinds := [], alts := [], laidByText := true, laidKinds := [.data, .data, .data, .data, .sentinel, .sentinel, .pinned], laidTests := true, laidLooks := .later }
def FnExactReadArrayCardSaid : Prop := Claim7.holds Tryz.pinned (.plain (OpenSpec.ofChange fnExactReadArraySpec)) fnExactReadArrayCard

/-- THE TIED CARD OF 'laws.FnExactBegun'. -/
def fnExactBegunCard : Claim7 := { stood := { row := fnExactBegunRow, standIns := [], harness := (true, "647fcb1a7b8dc0119ba5af1dd6c4c6e8e908cdb9189535e81904386c36847f4b"), looks := true }, kinds := [], alts := [], laidByText := true, laidKinds := [.data, .data, .data, .data, .sentinel, .sentinel, .pinned], laidTests := true, laidLooks := .later }
def FnExactBegunCardSaid : Prop := Claim7.holds Tryz.pinned (.plain (OpenSpec.ofChange fnExactBegunSpec)) fnExactBegunCard

/-- THE TIED CARD OF 'laws.FnExactStepped'. -/
def fnExactSteppedCard : Claim7 := { stood := { row := fnExactSteppedRow, standIns := [], harness := (true, "647fcb1a7b8dc0119ba5af1dd6c4c6e8e908cdb9189535e81904386c36847f4b"), looks := true }, kinds := [], alts := [], laidByText := true, laidKinds := [.data, .data, .data, .data, .sentinel, .sentinel, .pinned], laidTests := true, laidLooks := .later }
def FnExactSteppedCardSaid : Prop := Claim7.holds Tryz.pinned (.plain (OpenSpec.ofChange fnExactSteppedSpec)) fnExactSteppedCard

/-- THE TIED CARD OF 'laws.FnExactWriteArray'. -/
def fnExactWriteArrayCard : Claim7 := { stood := { row := fnExactWriteArrayRow, standIns := [], harness := (true, "647fcb1a7b8dc0119ba5af1dd6c4c6e8e908cdb9189535e81904386c36847f4b"), looks := true }, kinds := [], alts := [], laidByText := true, laidKinds := [.data, .data, .data, .data, .sentinel, .sentinel, .pinned], laidTests := true, laidLooks := .later }
def FnExactWriteArrayCardSaid : Prop := Claim7.holds Tryz.pinned (.plain (OpenSpec.ofChange fnExactWriteArraySpec)) fnExactWriteArrayCard

/-- THE SECOND FORM's CARD OF 'laws.FnPatches'. -/
def fnPatchesUptoCard : Claim7 := { stood := { row := fnPatchesUptoRow, standIns := [], harness := (true, "647fcb1a7b8dc0119ba5af1dd6c4c6e8e908cdb9189535e81904386c36847f4b"), looks := true }, kinds := [], alts := [], laidByText := true, laidKinds := [.data, .data, .data, .data, .sentinel, .sentinel, .pinned], laidTests := true, laidLooks := .later }
def FnPatchesUptoCardSaid : Prop := Claim7.holds Tryz.pinned (.plain (OpenSpec.upto fnPatchesSpec)) fnPatchesUptoCard

/-- THE SECOND FORM's CARD OF 'laws.FnArrays'. -/
def fnArraysUptoCard : Claim7 := { stood := { row := fnArraysUptoRow, standIns := [], harness := (true, "647fcb1a7b8dc0119ba5af1dd6c4c6e8e908cdb9189535e81904386c36847f4b"), looks := true }, kinds := [], alts := [], laidByText := true, laidKinds := [.data, .data, .data, .data, .sentinel, .sentinel, .pinned], laidTests := true, laidLooks := .later }
def FnArraysUptoCardSaid : Prop := Claim7.holds Tryz.pinned (.plain (OpenSpec.upto fnArraysSpec)) fnArraysUptoCard

/-- THE SECOND FORM's CARD OF 'laws.FnAsOne'. -/
def fnAsOneUptoCard : Claim7 := { stood := { row := fnAsOneUptoRow, standIns := [], harness := (true, "647fcb1a7b8dc0119ba5af1dd6c4c6e8e908cdb9189535e81904386c36847f4b"), looks := true }, kinds := [], alts := [], laidByText := true, laidKinds := [.data, .data, .data, .data, .sentinel, .sentinel, .pinned], laidTests := true, laidLooks := .later }
def FnAsOneUptoCardSaid : Prop := Claim7.holds Tryz.pinned (.plain (OpenSpec.upto fnAsOneSpec)) fnAsOneUptoCard

/-- THE SECOND FORM's CARD OF 'laws.FnExactArrayOk'. -/
def fnExactArrayOkUptoCard : Claim7 := { stood := { row := fnExactArrayOkUptoRow, standIns := [], harness := (true, "647fcb1a7b8dc0119ba5af1dd6c4c6e8e908cdb9189535e81904386c36847f4b"), looks := true }, kinds := [], alts := [], laidByText := true, laidKinds := [.data, .data, .data, .data, .sentinel, .sentinel, .pinned], laidTests := true, laidLooks := .later }
def FnExactArrayOkUptoCardSaid : Prop := Claim7.holds Tryz.pinned (.plain (OpenSpec.upto fnExactArrayOkSpec)) fnExactArrayOkUptoCard

/-- THE SECOND FORM's CARD OF 'laws.FnExactReadArray'. -/
def fnExactReadArrayUptoCard : Claim7 := { stood := { row := fnExactReadArrayUptoRow, standIns := [], harness := (true, "647fcb1a7b8dc0119ba5af1dd6c4c6e8e908cdb9189535e81904386c36847f4b"), looks := true }, kinds := [], alts := [], laidByText := true, laidKinds := [.data, .data, .data, .data, .sentinel, .sentinel, .pinned], laidTests := true, laidLooks := .later }
def FnExactReadArrayUptoCardSaid : Prop := Claim7.holds Tryz.pinned (.plain (OpenSpec.upto fnExactReadArraySpec)) fnExactReadArrayUptoCard

/-- THE SECOND FORM's CARD OF 'laws.FnExactBegun'. -/
def fnExactBegunUptoCard : Claim7 := { stood := { row := fnExactBegunUptoRow, standIns := [], harness := (true, "647fcb1a7b8dc0119ba5af1dd6c4c6e8e908cdb9189535e81904386c36847f4b"), looks := true }, kinds := [], alts := [], laidByText := true, laidKinds := [.data, .data, .data, .data, .sentinel, .sentinel, .pinned], laidTests := true, laidLooks := .later }
def FnExactBegunUptoCardSaid : Prop := Claim7.holds Tryz.pinned (.plain (OpenSpec.upto fnExactBegunSpec)) fnExactBegunUptoCard

/-- THE SECOND FORM's CARD OF 'laws.FnExactStepped'. -/
def fnExactSteppedUptoCard : Claim7 := { stood := { row := fnExactSteppedUptoRow, standIns := [], harness := (true, "647fcb1a7b8dc0119ba5af1dd6c4c6e8e908cdb9189535e81904386c36847f4b"), looks := true }, kinds := [], alts := [], laidByText := true, laidKinds := [.data, .data, .data, .data, .sentinel, .sentinel, .pinned], laidTests := true, laidLooks := .later }
def FnExactSteppedUptoCardSaid : Prop := Claim7.holds Tryz.pinned (.plain (OpenSpec.upto fnExactSteppedSpec)) fnExactSteppedUptoCard

/-- THE SECOND FORM's CARD OF 'laws.FnExactWriteArray'. -/
def fnExactWriteArrayUptoCard : Claim7 := { stood := { row := fnExactWriteArrayUptoRow, standIns := [], harness := (true, "647fcb1a7b8dc0119ba5af1dd6c4c6e8e908cdb9189535e81904386c36847f4b"), looks := true }, kinds := [], alts := [], laidByText := true, laidKinds := [.data, .data, .data, .data, .sentinel, .sentinel, .pinned], laidTests := true, laidLooks := .later }
def FnExactWriteArrayUptoCardSaid : Prop := Claim7.holds Tryz.pinned (.plain (OpenSpec.upto fnExactWriteArraySpec)) fnExactWriteArrayUptoCard
end Rows
end Go.Proofs.YtjhnoepllnifhaaGreatDoor
