/-
  DERIVED. GIVEN WITH THE SEED: THE CARDS: each row of YtmeiigcjfjapfaaDoorRows.lean that lists a variable, with what it lists TIED to the program's text (the seventh form; the later family's looks); each row that meets fmt, with fmt's text TOLD by the authors' own Lean function (tested against real Go, not proved from fmt's source: count such statements apart). THE CARD IS WHAT COUNTS. Prove the row's statement (the work); the ties are given (YtmeiigcjfjapfaaDoorTie.lean); close each card by the builder's one call (the guide's Derived/Test/ToyasCard.lean, 'card_holds'). Laid BY PROGRAM, IN A SANDBOX (cutbox-door.mjs). By AI agents, Wed Nov 11 2026. No macro, syntax, notation, axiom, sorry.
-/
import Derived.Test.YtmeiigcjfjapfaaDoorRows
import GoSem.ClaimSeven
namespace Go.Proofs.YtmeiigcjfjapfaaDoor
namespace Rows

/-- THE TIED CARD OF 'crupperlaw07.SetPlays'. -/
def setPlaysCard : Claim7 := { stood := { row := setPlaysRow, standIns := [], harness := (true, "1492ce6da85d0dea64d232ae2d5a1a8a5bb5fbdec6a4616cb8376fb45c525259"), looks := false }, kinds := [], alts := [], laidByText := true, laidKinds := [.data], laidTests := true, laidLooks := .later }
def SetPlaysCardSaid : Prop := Claim7.holds Tryd.pinned (.plain (OpenSpec.ofChange setPlaysSpec)) setPlaysCard

/-- THE TIED CARD OF 'crupperlaw07.SetCopies'. -/
def setCopiesCard : Claim7 := { stood := { row := setCopiesRow, standIns := [], harness := (true, "1492ce6da85d0dea64d232ae2d5a1a8a5bb5fbdec6a4616cb8376fb45c525259"), looks := false }, kinds := [], alts := [], laidByText := true, laidKinds := [.data], laidTests := true, laidLooks := .later }
def SetCopiesCardSaid : Prop := Claim7.holds Tryd.pinned (.plain (OpenSpec.ofChange setCopiesSpec)) setCopiesCard

/-- THE SECOND FORM's CARD OF 'crupperlaw07.SetPlays'. -/
def setPlaysUptoCard : Claim7 := { stood := { row := setPlaysUptoRow, standIns := [], harness := (true, "1492ce6da85d0dea64d232ae2d5a1a8a5bb5fbdec6a4616cb8376fb45c525259"), looks := false }, kinds := [], alts := [], laidByText := true, laidKinds := [.data], laidTests := true, laidLooks := .later }
def SetPlaysUptoCardSaid : Prop := Claim7.holds Tryd.pinned (.plain (OpenSpec.upto setPlaysSpec)) setPlaysUptoCard

/-- THE SECOND FORM's CARD OF 'crupperlaw07.SetCopies'. -/
def setCopiesUptoCard : Claim7 := { stood := { row := setCopiesUptoRow, standIns := [], harness := (true, "1492ce6da85d0dea64d232ae2d5a1a8a5bb5fbdec6a4616cb8376fb45c525259"), looks := false }, kinds := [], alts := [], laidByText := true, laidKinds := [.data], laidTests := true, laidLooks := .later }
def SetCopiesUptoCardSaid : Prop := Claim7.holds Tryd.pinned (.plain (OpenSpec.upto setCopiesSpec)) setCopiesUptoCard
end Rows
end Go.Proofs.YtmeiigcjfjapfaaDoor
