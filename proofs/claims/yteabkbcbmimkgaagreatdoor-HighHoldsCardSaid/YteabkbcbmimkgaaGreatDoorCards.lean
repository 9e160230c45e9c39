/-
  DERIVED. GIVEN WITH THE SEED: THE CARDS: each row of YteabkbcbmimkgaaGreatDoorRows.lean that lists a variable, with what it lists TIED to the program's text (the seventh form; the later family's looks); each row that meets fmt, with fmt's text TOLD by the authors' own Lean function (tested against real Go, not proved from fmt's source: count such statements apart). THE CARD IS WHAT COUNTS. Prove the row's statement (the work); the ties are given (YteabkbcbmimkgaaGreatDoorTie.lean); close each card by the builder's one call (the guide's Derived/Test/ToyasCard.lean, 'card_holds'). Laid BY PROGRAM, IN A SANDBOX (cutbox-door.mjs). By AI agents, Wed Nov 11 2026. No macro, syntax, notation, axiom, sorry.
-/
import Derived.Test.YteabkbcbmimkgaaGreatDoorRows
import GoSem.ClaimSeven
namespace Go.Proofs.YteabkbcbmimkgaaGreatDoor
namespace Rows

/-- THE TIED CARD OF 'crupperlaw12.HighTells'. -/
def highTellsCard : Claim7 := { stood := { row := highTellsRow, standIns := [], harness := (true, "7f5302364f78eb7dfee3638215a82c70b2d5dcb70b3c127a6af8574bc82efaa7"), looks := false }, kinds := [], alts := [], laidByText := true, laidKinds := [.data, .data, .data], laidTests := true, laidLooks := .later }
def HighTellsCardSaid : Prop := Claim7.holds Tryz.pinned (.plain (OpenSpec.ofChange highTellsSpec)) highTellsCard

/-- THE TIED CARD OF 'crupperlaw12.HighHolds'. -/
def highHoldsCard : Claim7 := { stood := { row := highHoldsRow, standIns := [], harness := (true, "7f5302364f78eb7dfee3638215a82c70b2d5dcb70b3c127a6af8574bc82efaa7"), looks := false }, kinds := [], alts := [], laidByText := true, laidKinds := [.data, .data, .data], laidTests := true, laidLooks := .later }
def HighHoldsCardSaid : Prop := Claim7.holds Tryz.pinned (.plain (OpenSpec.ofChange highHoldsSpec)) highHoldsCard

/-- THE TIED CARD OF 'crupperlaw12.HighSteps'. -/
def highStepsCard : Claim7 := { stood := { row := highStepsRow, standIns := [], harness := (true, "7f5302364f78eb7dfee3638215a82c70b2d5dcb70b3c127a6af8574bc82efaa7"), looks := false }, kinds := [], alts := [], laidByText := true, laidKinds := [.data, .data, .data], laidTests := true, laidLooks := .later }
def HighStepsCardSaid : Prop := Claim7.holds Tryz.pinned (.plain (OpenSpec.ofChange highStepsSpec)) highStepsCard

/-- THE TIED CARD OF 'crupperlaw13.SimpleDecides'. -/
def simpleDecidesCard : Claim7 := { stood := { row := simpleDecidesRow, standIns := [], harness := (true, "7f5302364f78eb7dfee3638215a82c70b2d5dcb70b3c127a6af8574bc82efaa7"), looks := false }, kinds := [], alts := [], laidByText := true, laidKinds := [.data, .data, .data], laidTests := true, laidLooks := .later }
def SimpleDecidesCardSaid : Prop := Claim7.holds Tryz.pinned (.plain (OpenSpec.ofChange simpleDecidesSpec)) simpleDecidesCard

/-- THE TIED CARD OF 'crupperlaw13.SimpleSatisfies'. -/
def simpleSatisfiesCard : Claim7 := { stood := { row := simpleSatisfiesRow, standIns := [], harness := (true, "7f5302364f78eb7dfee3638215a82c70b2d5dcb70b3c127a6af8574bc82efaa7"), looks := false }, kinds := [], alts := [], laidByText := true, laidKinds := [.data, .data, .data], laidTests := true, laidLooks := .later }
def SimpleSatisfiesCardSaid : Prop := Claim7.holds Tryz.pinned (.plain (OpenSpec.ofChange simpleSatisfiesSpec)) simpleSatisfiesCard

/-- THE TIED CARD OF 'crupperlaw13.SimpleSound'. -/
def simpleSoundCard : Claim7 := { stood := { row := simpleSoundRow, standIns := [], harness := (true, "7f5302364f78eb7dfee3638215a82c70b2d5dcb70b3c127a6af8574bc82efaa7"), looks := false }, kinds := [], alts := [], laidByText := true, laidKinds := [.data, .data, .data], laidTests := true, laidLooks := .later }
def SimpleSoundCardSaid : Prop := Claim7.holds Tryz.pinned (.plain (OpenSpec.ofChange simpleSoundSpec)) simpleSoundCard

/-- THE SECOND FORM's CARD OF 'crupperlaw12.HighTells'. -/
def highTellsUptoCard : Claim7 := { stood := { row := highTellsUptoRow, standIns := [], harness := (true, "7f5302364f78eb7dfee3638215a82c70b2d5dcb70b3c127a6af8574bc82efaa7"), looks := false }, kinds := [], alts := [], laidByText := true, laidKinds := [.data, .data, .data], laidTests := true, laidLooks := .later }
def HighTellsUptoCardSaid : Prop := Claim7.holds Tryz.pinned (.plain (OpenSpec.upto highTellsSpec)) highTellsUptoCard

/-- THE SECOND FORM's CARD OF 'crupperlaw12.HighHolds'. -/
def highHoldsUptoCard : Claim7 := { stood := { row := highHoldsUptoRow, standIns := [], harness := (true, "7f5302364f78eb7dfee3638215a82c70b2d5dcb70b3c127a6af8574bc82efaa7"), looks := false }, kinds := [], alts := [], laidByText := true, laidKinds := [.data, .data, .data], laidTests := true, laidLooks := .later }
def HighHoldsUptoCardSaid : Prop := Claim7.holds Tryz.pinned (.plain (OpenSpec.upto highHoldsSpec)) highHoldsUptoCard

/-- THE SECOND FORM's CARD OF 'crupperlaw12.HighSteps'. -/
def highStepsUptoCard : Claim7 := { stood := { row := highStepsUptoRow, standIns := [], harness := (true, "7f5302364f78eb7dfee3638215a82c70b2d5dcb70b3c127a6af8574bc82efaa7"), looks := false }, kinds := [], alts := [], laidByText := true, laidKinds := [.data, .data, .data], laidTests := true, laidLooks := .later }
def HighStepsUptoCardSaid : Prop := Claim7.holds Tryz.pinned (.plain (OpenSpec.upto highStepsSpec)) highStepsUptoCard

/-- THE SECOND FORM's CARD OF 'crupperlaw13.SimpleDecides'. -/
def simpleDecidesUptoCard : Claim7 := { stood := { row := simpleDecidesUptoRow, standIns := [], harness := (true, "7f5302364f78eb7dfee3638215a82c70b2d5dcb70b3c127a6af8574bc82efaa7"), looks := false }, kinds := [], alts := [], laidByText := true, laidKinds := [.data, .data, .data], laidTests := true, laidLooks := .later }
def SimpleDecidesUptoCardSaid : Prop := Claim7.holds Tryz.pinned (.plain (OpenSpec.upto simpleDecidesSpec)) simpleDecidesUptoCard

/-- THE SECOND FORM's CARD OF 'crupperlaw13.SimpleSatisfies'. -/
def simpleSatisfiesUptoCard : Claim7 := { stood := { row := simpleSatisfiesUptoRow, standIns := [], harness := (true, "7f5302364f78eb7dfee3638215a82c70b2d5dcb70b3c127a6af8574bc82efaa7"), looks := false }, kinds := [], alts := [], laidByText := true, laidKinds := [.data, .data, .data], laidTests := true, laidLooks := .later }
def SimpleSatisfiesUptoCardSaid : Prop := Claim7.holds Tryz.pinned (.plain (OpenSpec.upto simpleSatisfiesSpec)) simpleSatisfiesUptoCard

/-- THE SECOND FORM's CARD OF 'crupperlaw13.SimpleSound'. -/
def simpleSoundUptoCard : Claim7 := { stood := { row := simpleSoundUptoRow, standIns := [], harness := (true, "7f5302364f78eb7dfee3638215a82c70b2d5dcb70b3c127a6af8574bc82efaa7"), looks := false }, kinds := [], alts := [], laidByText := true, laidKinds := [.data, .data, .data], laidTests := true, laidLooks := .later }
def SimpleSoundUptoCardSaid : Prop := Claim7.holds Tryz.pinned (.plain (OpenSpec.upto simpleSoundSpec)) simpleSoundUptoCard
end Rows
end Go.Proofs.YteabkbcbmimkgaaGreatDoor
