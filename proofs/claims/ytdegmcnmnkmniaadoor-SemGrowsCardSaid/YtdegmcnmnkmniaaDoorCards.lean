/-
  DERIVED. GIVEN WITH THE SEED: THE CARDS: each row of YtdegmcnmnkmniaaDoorRows.lean that lists a variable, with what it lists TIED to the program's text (the seventh form; the later family's looks); each row that meets fmt, with fmt's text TOLD by the authors' own Lean function (tested against real Go, not proved from fmt's source: count such statements apart). THE CARD IS WHAT COUNTS. Prove the row's statement (the work); the ties are given (YtdegmcnmnkmniaaDoorTie.lean); close each card by the builder's one call (the guide's Derived/Test/ToyasCard.lean, 'card_holds'). Laid BY PROGRAM, IN A SANDBOX (cutbox-door.mjs). By AI agents, Wed Nov 11 2026. No macro, syntax, notation, axiom, sorry.
-/
import Derived.Test.YtdegmcnmnkmniaaDoorRows
import GoSem.ClaimSeven
namespace Go.Proofs.YtdegmcnmnkmniaaDoor
namespace Rows

/-- THE TIED CARD OF 'crupperlaw08.SemLeast'. -/
def semLeastCard : Claim7 := { stood := { row := semLeastRow, standIns := [], harness := (true, "dcad597c059069dd82d11eecca2c2afd6e24e603e34febc591be7cde047cbfd5"), looks := false }, kinds := [], alts := [], laidByText := true, laidKinds := [.data], laidTests := true, laidLooks := .later }
def SemLeastCardSaid : Prop := Claim7.holds Tryd.pinned (.plain (OpenSpec.ofChange semLeastSpec)) semLeastCard

/-- THE TIED CARD OF 'crupperlaw08.SemModels'. -/
def semModelsCard : Claim7 := { stood := { row := semModelsRow, standIns := [], harness := (true, "dcad597c059069dd82d11eecca2c2afd6e24e603e34febc591be7cde047cbfd5"), looks := false }, kinds := [], alts := [], laidByText := true, laidKinds := [.data], laidTests := true, laidLooks := .later }
def SemModelsCardSaid : Prop := Claim7.holds Tryd.pinned (.plain (OpenSpec.ofChange semModelsSpec)) semModelsCard

/-- THE TIED CARD OF 'crupperlaw08.SemGrows'. -/
def semGrowsCard : Claim7 := { stood := { row := semGrowsRow, standIns := [], harness := (true, "dcad597c059069dd82d11eecca2c2afd6e24e603e34febc591be7cde047cbfd5"), looks := false }, kinds := [], alts := [], laidByText := true, laidKinds := [.data], laidTests := true, laidLooks := .later }
def SemGrowsCardSaid : Prop := Claim7.holds Tryd.pinned (.plain (OpenSpec.ofChange semGrowsSpec)) semGrowsCard

/-- THE TIED CARD OF 'crupperlaw08.SemSteps'. -/
def semStepsCard : Claim7 := { stood := { row := semStepsRow, standIns := [], harness := (true, "dcad597c059069dd82d11eecca2c2afd6e24e603e34febc591be7cde047cbfd5"), looks := false }, kinds := [], alts := [], laidByText := true, laidKinds := [.data], laidTests := true, laidLooks := .later }
def SemStepsCardSaid : Prop := Claim7.holds Tryd.pinned (.plain (OpenSpec.ofChange semStepsSpec)) semStepsCard

/-- THE SECOND FORM's CARD OF 'crupperlaw08.SemLeast'. -/
def semLeastUptoCard : Claim7 := { stood := { row := semLeastUptoRow, standIns := [], harness := (true, "dcad597c059069dd82d11eecca2c2afd6e24e603e34febc591be7cde047cbfd5"), looks := false }, kinds := [], alts := [], laidByText := true, laidKinds := [.data], laidTests := true, laidLooks := .later }
def SemLeastUptoCardSaid : Prop := Claim7.holds Tryd.pinned (.plain (OpenSpec.upto semLeastSpec)) semLeastUptoCard

/-- THE SECOND FORM's CARD OF 'crupperlaw08.SemModels'. -/
def semModelsUptoCard : Claim7 := { stood := { row := semModelsUptoRow, standIns := [], harness := (true, "dcad597c059069dd82d11eecca2c2afd6e24e603e34febc591be7cde047cbfd5"), looks := false }, kinds := [], alts := [], laidByText := true, laidKinds := [.data], laidTests := true, laidLooks := .later }
def SemModelsUptoCardSaid : Prop := Claim7.holds Tryd.pinned (.plain (OpenSpec.upto semModelsSpec)) semModelsUptoCard

/-- THE SECOND FORM's CARD OF 'crupperlaw08.SemGrows'. -/
def semGrowsUptoCard : Claim7 := { stood := { row := semGrowsUptoRow, standIns := [], harness := (true, "dcad597c059069dd82d11eecca2c2afd6e24e603e34febc591be7cde047cbfd5"), looks := false }, kinds := [], alts := [], laidByText := true, laidKinds := [.data], laidTests := true, laidLooks := .later }
def SemGrowsUptoCardSaid : Prop := Claim7.holds Tryd.pinned (.plain (OpenSpec.upto semGrowsSpec)) semGrowsUptoCard

/-- THE SECOND FORM's CARD OF 'crupperlaw08.SemSteps'. -/
def semStepsUptoCard : Claim7 := { stood := { row := semStepsUptoRow, standIns := [], harness := (true, "dcad597c059069dd82d11eecca2c2afd6e24e603e34febc591be7cde047cbfd5"), looks := false }, kinds := [], alts := [], laidByText := true, laidKinds := [.data], laidTests := true, laidLooks := .later }
def SemStepsUptoCardSaid : Prop := Claim7.holds Tryd.pinned (.plain (OpenSpec.upto semStepsSpec)) semStepsUptoCard
end Rows
end Go.Proofs.YtdegmcnmnkmniaaDoor
