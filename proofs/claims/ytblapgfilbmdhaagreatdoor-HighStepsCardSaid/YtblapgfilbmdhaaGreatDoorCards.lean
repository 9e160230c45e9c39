/-
  DERIVED. GIVEN WITH THE SEED: THE CARDS: each row of YtblapgfilbmdhaaGreatDoorRows.lean that lists a variable, with what it lists TIED to the program's text (the seventh form; the later family's looks); each row that meets fmt, with fmt's text TOLD by the authors' own Lean function (tested against real Go, not proved from fmt's source: count such statements apart). THE CARD IS WHAT COUNTS. Prove the row's statement (the work); the ties are given (YtblapgfilbmdhaaGreatDoorTie.lean); close each card by the builder's one call (the guide's Derived/Test/ToyasCard.lean, 'card_holds'). Laid BY PROGRAM, IN A SANDBOX (cutbox-door.mjs). By AI agents, Wed Nov 11 2026. No macro, syntax, notation, axiom, sorry.
-/
import Derived.Test.YtblapgfilbmdhaaGreatDoorRows
import GoSem.ClaimSeven
namespace Go.Proofs.YtblapgfilbmdhaaGreatDoor
namespace Rows

/-- THE TIED CARD OF 'crupperlaw12.HighSteps'. -/
def highStepsCard : Claim7 := { stood := { row := highStepsRow, standIns := [], harness := (true, "1272acb0b0da5a46c6f70e26d57e7ecf88c3a5107246ec8ad5bcd09c5c5f2628"), looks := false }, kinds := [], alts := [], laidByText := true, laidKinds := [.data, .data, .data], laidTests := true, laidLooks := .later }
def HighStepsCardSaid : Prop := Claim7.holds Tryz.pinned (.plain (OpenSpec.ofChange highStepsSpec)) highStepsCard

/-- THE TIED CARD OF 'crupperlaw13.SimpleDecides'. -/
def simpleDecidesCard : Claim7 := { stood := { row := simpleDecidesRow, standIns := [], harness := (true, "1272acb0b0da5a46c6f70e26d57e7ecf88c3a5107246ec8ad5bcd09c5c5f2628"), looks := false }, kinds := [], alts := [], laidByText := true, laidKinds := [.data, .data, .data], laidTests := true, laidLooks := .later }
def SimpleDecidesCardSaid : Prop := Claim7.holds Tryz.pinned (.plain (OpenSpec.ofChange simpleDecidesSpec)) simpleDecidesCard

/-- THE TIED CARD OF 'crupperlaw13.SimpleSatisfies'. -/
def simpleSatisfiesCard : Claim7 := { stood := { row := simpleSatisfiesRow, standIns := [], harness := (true, "1272acb0b0da5a46c6f70e26d57e7ecf88c3a5107246ec8ad5bcd09c5c5f2628"), looks := false }, kinds := [], alts := [], laidByText := true, laidKinds := [.data, .data, .data], laidTests := true, laidLooks := .later }
def SimpleSatisfiesCardSaid : Prop := Claim7.holds Tryz.pinned (.plain (OpenSpec.ofChange simpleSatisfiesSpec)) simpleSatisfiesCard

/-- THE TIED CARD OF 'crupperlaw13.SimpleSound'. -/
def simpleSoundCard : Claim7 := { stood := { row := simpleSoundRow, standIns := [], harness := (true, "1272acb0b0da5a46c6f70e26d57e7ecf88c3a5107246ec8ad5bcd09c5c5f2628"), looks := false }, kinds := [], alts := [], laidByText := true, laidKinds := [.data, .data, .data], laidTests := true, laidLooks := .later }
def SimpleSoundCardSaid : Prop := Claim7.holds Tryz.pinned (.plain (OpenSpec.ofChange simpleSoundSpec)) simpleSoundCard

/-- THE TIED CARD OF 'crupperlaw13.SimpleWitness'. -/
def simpleWitnessCard : Claim7 := { stood := { row := simpleWitnessRow, standIns := [], harness := (true, "1272acb0b0da5a46c6f70e26d57e7ecf88c3a5107246ec8ad5bcd09c5c5f2628"), looks := false }, kinds := [], alts := [], laidByText := true, laidKinds := [.data, .data, .data], laidTests := true, laidLooks := .later }
def SimpleWitnessCardSaid : Prop := Claim7.holds Tryz.pinned (.plain (OpenSpec.ofChange simpleWitnessSpec)) simpleWitnessCard

/-- THE SECOND FORM's CARD OF 'crupperlaw12.HighSteps'. -/
def highStepsUptoCard : Claim7 := { stood := { row := highStepsUptoRow, standIns := [], harness := (true, "1272acb0b0da5a46c6f70e26d57e7ecf88c3a5107246ec8ad5bcd09c5c5f2628"), looks := false }, kinds := [], alts := [], laidByText := true, laidKinds := [.data, .data, .data], laidTests := true, laidLooks := .later }
def HighStepsUptoCardSaid : Prop := Claim7.holds Tryz.pinned (.plain (OpenSpec.upto highStepsSpec)) highStepsUptoCard

/-- THE SECOND FORM's CARD OF 'crupperlaw13.SimpleDecides'. -/
def simpleDecidesUptoCard : Claim7 := { stood := { row := simpleDecidesUptoRow, standIns := [], harness := (true, "1272acb0b0da5a46c6f70e26d57e7ecf88c3a5107246ec8ad5bcd09c5c5f2628"), looks := false }, kinds := [], alts := [], laidByText := true, laidKinds := [.data, .data, .data], laidTests := true, laidLooks := .later }
def SimpleDecidesUptoCardSaid : Prop := Claim7.holds Tryz.pinned (.plain (OpenSpec.upto simpleDecidesSpec)) simpleDecidesUptoCard

/-- THE SECOND FORM's CARD OF 'crupperlaw13.SimpleSatisfies'. -/
def simpleSatisfiesUptoCard : Claim7 := { stood := { row := simpleSatisfiesUptoRow, standIns := [], harness := (true, "1272acb0b0da5a46c6f70e26d57e7ecf88c3a5107246ec8ad5bcd09c5c5f2628"), looks := false }, kinds := [], alts := [], laidByText := true, laidKinds := [.data, .data, .data], laidTests := true, laidLooks := .later }
def SimpleSatisfiesUptoCardSaid : Prop := Claim7.holds Tryz.pinned (.plain (OpenSpec.upto simpleSatisfiesSpec)) simpleSatisfiesUptoCard

/-- THE SECOND FORM's CARD OF 'crupperlaw13.SimpleSound'. -/
def simpleSoundUptoCard : Claim7 := { stood := { row := simpleSoundUptoRow, standIns := [], harness := (true, "1272acb0b0da5a46c6f70e26d57e7ecf88c3a5107246ec8ad5bcd09c5c5f2628"), looks := false }, kinds := [], alts := [], laidByText := true, laidKinds := [.data, .data, .data], laidTests := true, laidLooks := .later }
def SimpleSoundUptoCardSaid : Prop := Claim7.holds Tryz.pinned (.plain (OpenSpec.upto simpleSoundSpec)) simpleSoundUptoCard

/-- THE SECOND FORM's CARD OF 'crupperlaw13.SimpleWitness'. -/
def simpleWitnessUptoCard : Claim7 := { stood := { row := simpleWitnessUptoRow, standIns := [], harness := (true, "1272acb0b0da5a46c6f70e26d57e7ecf88c3a5107246ec8ad5bcd09c5c5f2628"), looks := false }, kinds := [], alts := [], laidByText := true, laidKinds := [.data, .data, .data], laidTests := true, laidLooks := .later }
def SimpleWitnessUptoCardSaid : Prop := Claim7.holds Tryz.pinned (.plain (OpenSpec.upto simpleWitnessSpec)) simpleWitnessUptoCard
end Rows
end Go.Proofs.YtblapgfilbmdhaaGreatDoor
