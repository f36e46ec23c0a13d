/-
  DERIVED. GIVEN WITH THE SEED: THE CARDS: each row of YtnhefdmnpoaegaaDoorRows.lean that lists a variable, with what it lists TIED to the program's text (the seventh form; the later family's looks); each row that meets fmt, with fmt's text TOLD by the authors' own Lean function (tested against real Go, not proved from fmt's source: count such statements apart). THE CARD IS WHAT COUNTS. Prove the row's statement (the work); the ties are given (YtnhefdmnpoaegaaDoorTie.lean); close each card by the builder's one call (the guide's Derived/Test/ToyasCard.lean, 'card_holds'). Laid BY PROGRAM, IN A SANDBOX (cutbox-door.mjs). By AI agents, Wed Nov 11 2026. No macro, syntax, notation, axiom, sorry.
-/
import Derived.Test.YtnhefdmnpoaegaaDoorRows
import GoSem.ClaimSeven
namespace Go.Proofs.YtnhefdmnpoaegaaDoor
namespace Rows

/-- THE TIED CARD OF 'laws.FnExactFramed'. -/
def fnExactFramedCard : Claim7 := { stood := { row := fnExactFramedRow, standIns := [], harness := (true, "37a52c079ce5c7a4a919d14ecdfdbc45fcc4c25436f5f05adc1cecc14696a46b"), looks := true }, kinds := [], alts := [], laidByText := true, laidKinds := [.data, .data, .data], laidTests := true, laidLooks := .later }
def FnExactFramedCardSaid : Prop := Claim7.holds Tryd.pinned (.plain (OpenSpec.ofChange fnExactFramedSpec)) fnExactFramedCard

/-- THE TIED CARD OF 'laws.FnExactEntries'. -/
def fnExactEntriesCard : Claim7 := { stood := { row := fnExactEntriesRow, standIns := [], harness := (true, "37a52c079ce5c7a4a919d14ecdfdbc45fcc4c25436f5f05adc1cecc14696a46b"), looks := true }, kinds := [], alts := [], laidByText := true, laidKinds := [.data, .data, .data, .data, .sentinel, .sentinel, .pinned], laidTests := true, laidLooks := .later }
def FnExactEntriesCardSaid : Prop := Claim7.holds Tryd.pinned (.plain (OpenSpec.ofChange fnExactEntriesSpec)) fnExactEntriesCard

/-- THE TIED CARD OF 'laws.FnExactNoted'. -/
def fnExactNotedCard : Claim7 := { stood := { row := fnExactNotedRow, standIns := [], harness := (true, "37a52c079ce5c7a4a919d14ecdfdbc45fcc4c25436f5f05adc1cecc14696a46b"), looks := true }, kinds := [], alts := [], laidByText := true, laidKinds := [.data, .data, .data], laidTests := true, laidLooks := .later }
def FnExactNotedCardSaid : Prop := Claim7.holds Tryd.pinned (.plain (OpenSpec.ofChange fnExactNotedSpec)) fnExactNotedCard

/-- THE SECOND FORM's CARD OF 'laws.FnExactFramed'. -/
def fnExactFramedUptoCard : Claim7 := { stood := { row := fnExactFramedUptoRow, standIns := [], harness := (true, "37a52c079ce5c7a4a919d14ecdfdbc45fcc4c25436f5f05adc1cecc14696a46b"), looks := true }, kinds := [], alts := [], laidByText := true, laidKinds := [.data, .data, .data], laidTests := true, laidLooks := .later }
def FnExactFramedUptoCardSaid : Prop := Claim7.holds Tryd.pinned (.plain (OpenSpec.upto fnExactFramedSpec)) fnExactFramedUptoCard

/-- THE SECOND FORM's CARD OF 'laws.FnExactEntries'. -/
def fnExactEntriesUptoCard : Claim7 := { stood := { row := fnExactEntriesUptoRow, standIns := [], harness := (true, "37a52c079ce5c7a4a919d14ecdfdbc45fcc4c25436f5f05adc1cecc14696a46b"), looks := true }, kinds := [], alts := [], laidByText := true, laidKinds := [.data, .data, .data, .data, .sentinel, .sentinel, .pinned], laidTests := true, laidLooks := .later }
def FnExactEntriesUptoCardSaid : Prop := Claim7.holds Tryd.pinned (.plain (OpenSpec.upto fnExactEntriesSpec)) fnExactEntriesUptoCard

/-- THE SECOND FORM's CARD OF 'laws.FnExactNoted'. -/
def fnExactNotedUptoCard : Claim7 := { stood := { row := fnExactNotedUptoRow, standIns := [], harness := (true, "37a52c079ce5c7a4a919d14ecdfdbc45fcc4c25436f5f05adc1cecc14696a46b"), looks := true }, kinds := [], alts := [], laidByText := true, laidKinds := [.data, .data, .data], laidTests := true, laidLooks := .later }
def FnExactNotedUptoCardSaid : Prop := Claim7.holds Tryd.pinned (.plain (OpenSpec.upto fnExactNotedSpec)) fnExactNotedUptoCard
end Rows
end Go.Proofs.YtnhefdmnpoaegaaDoor
