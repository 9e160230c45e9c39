/-
  DERIVED. GIVEN WITH THE SEED: THE CARDS: each row of YtpdgjkjbimkmjaaDoorRows.lean that lists a variable, with what it lists TIED to the program's text (the seventh form; the later family's looks); each row that meets fmt, with fmt's text TOLD by the authors' own Lean function (tested against real Go, not proved from fmt's source: count such statements apart). THE CARD IS WHAT COUNTS. Prove the row's statement (the work); the ties are given (YtpdgjkjbimkmjaaDoorTie.lean); close each card by the builder's one call (the guide's Derived/Test/ToyasCard.lean, 'card_holds'). Laid BY PROGRAM, IN A SANDBOX (cutbox-door.mjs). By AI agents, Wed Nov 11 2026. No macro, syntax, notation, axiom, sorry.
-/
import Derived.Test.YtpdgjkjbimkmjaaDoorRows
import GoSem.ClaimSeven
namespace Go.Proofs.YtpdgjkjbimkmjaaDoor
namespace Rows

/-- THE TIED CARD OF 'crupperlaw01.NamesAre'. -/
def namesAreCard : Claim7 := { stood := { row := namesAreRow, standIns := [], harness := (true, "62f505835b56ab31842cf118815d441c973e283df6468733544f37b41f2f80c4"), looks := false }, kinds := [], alts := [], laidByText := true, laidKinds := [.data, .data, .data], laidTests := true, laidLooks := .later }
def NamesAreCardSaid : Prop := Claim7.holds Tryd.pinned (.plain (OpenSpec.ofChange namesAreSpec)) namesAreCard

/-- THE TIED CARD OF 'crupperlaw01.NamesTables'. -/
def namesTablesCard : Claim7 := { stood := { row := namesTablesRow, standIns := [], harness := (true, "62f505835b56ab31842cf118815d441c973e283df6468733544f37b41f2f80c4"), looks := false }, kinds := [], alts := [], laidByText := true, laidKinds := [.data, .data, .data], laidTests := true, laidLooks := .later }
def NamesTablesCardSaid : Prop := Claim7.holds Tryd.pinned (.plain (OpenSpec.ofChange namesTablesSpec)) namesTablesCard

/-- THE TIED CARD OF 'crupperlaw01.NamesBack'. -/
def namesBackCard : Claim7 := { stood := { row := namesBackRow, standIns := [], harness := (true, "62f505835b56ab31842cf118815d441c973e283df6468733544f37b41f2f80c4"), looks := false }, kinds := [], alts := [], laidByText := true, laidKinds := [.data, .data, .data], laidTests := true, laidLooks := .later }
def NamesBackCardSaid : Prop := Claim7.holds Tryd.pinned (.plain (OpenSpec.ofChange namesBackSpec)) namesBackCard

/-- THE TIED CARD OF 'crupperlaw02.ScanLines'. -/
def scanLinesCard : Claim7 := { stood := { row := scanLinesRow, standIns := [], harness := (true, "62f505835b56ab31842cf118815d441c973e283df6468733544f37b41f2f80c4"), looks := false }, kinds := [], alts := [], laidByText := true, laidKinds := [.data, .pinned], laidTests := true, laidLooks := .later }
def ScanLinesCardSaid : Prop := Claim7.holds Tryd.pinned (.plain (OpenSpec.ofChange scanLinesSpec)) scanLinesCard

/-- THE SECOND FORM's CARD OF 'crupperlaw01.NamesAre'. -/
def namesAreUptoCard : Claim7 := { stood := { row := namesAreUptoRow, standIns := [], harness := (true, "62f505835b56ab31842cf118815d441c973e283df6468733544f37b41f2f80c4"), looks := false }, kinds := [], alts := [], laidByText := true, laidKinds := [.data, .data, .data], laidTests := true, laidLooks := .later }
def NamesAreUptoCardSaid : Prop := Claim7.holds Tryd.pinned (.plain (OpenSpec.upto namesAreSpec)) namesAreUptoCard

/-- THE SECOND FORM's CARD OF 'crupperlaw01.NamesTables'. -/
def namesTablesUptoCard : Claim7 := { stood := { row := namesTablesUptoRow, standIns := [], harness := (true, "62f505835b56ab31842cf118815d441c973e283df6468733544f37b41f2f80c4"), looks := false }, kinds := [], alts := [], laidByText := true, laidKinds := [.data, .data, .data], laidTests := true, laidLooks := .later }
def NamesTablesUptoCardSaid : Prop := Claim7.holds Tryd.pinned (.plain (OpenSpec.upto namesTablesSpec)) namesTablesUptoCard

/-- THE SECOND FORM's CARD OF 'crupperlaw01.NamesBack'. -/
def namesBackUptoCard : Claim7 := { stood := { row := namesBackUptoRow, standIns := [], harness := (true, "62f505835b56ab31842cf118815d441c973e283df6468733544f37b41f2f80c4"), looks := false }, kinds := [], alts := [], laidByText := true, laidKinds := [.data, .data, .data], laidTests := true, laidLooks := .later }
def NamesBackUptoCardSaid : Prop := Claim7.holds Tryd.pinned (.plain (OpenSpec.upto namesBackSpec)) namesBackUptoCard

/-- THE SECOND FORM's CARD OF 'crupperlaw02.ScanLines'. -/
def scanLinesUptoCard : Claim7 := { stood := { row := scanLinesUptoRow, standIns := [], harness := (true, "62f505835b56ab31842cf118815d441c973e283df6468733544f37b41f2f80c4"), looks := false }, kinds := [], alts := [], laidByText := true, laidKinds := [.data, .pinned], laidTests := true, laidLooks := .later }
def ScanLinesUptoCardSaid : Prop := Claim7.holds Tryd.pinned (.plain (OpenSpec.upto scanLinesSpec)) scanLinesUptoCard
end Rows
end Go.Proofs.YtpdgjkjbimkmjaaDoor
