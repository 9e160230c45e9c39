/- The line of a query, in the program, by contract. -/
import Derived.Test.YteabkbcbmimkgaaGreatDoorM17
import Derived.Test.YteabkbcbmimkgaaGreatDoorM15
import Derived.Test.YteabkbcbmimkgaaGreatDoorJoin
import Derived.Test.YteabkbcbmimkgaaGreatDoorM14
import Derived.Test.YteabkbcbmimkgaaGreatDoorM08
import Derived.Test.YteabkbcbmimkgaaGreatDoorM16
set_option linter.unusedVariables false
set_option linter.unusedSimpArgs false
namespace Go.Proofs.YteabkbcbmimkgaaGreatDoor.QryH
open Go.RowKit Go.Sort Go.Proofs Plain SynP TabP Tab1 Grown SynC SynW QryP Qry2 Qry4 Qry5 QryG Qry6 Qry7 QryA QryL
theorem bs_of (x : ByteArray) : x = ⟨(bs x).toArray⟩ := text_of x
end Go.Proofs.YteabkbcbmimkgaaGreatDoor.QryH
namespace Go.Proofs.YteabkbcbmimkgaaGreatDoor.QryI
open Go.RowKit Go.Sort Go.Proofs Plain SynP TabP Tab1 Grown SynC SynW QryP Qry2 Qry4 Qry5 QryG Qry6 Qry7 QryA QryL QryH
end Go.Proofs.YteabkbcbmimkgaaGreatDoor.QryI
