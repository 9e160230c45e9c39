/- The line of a query, in the program, by contract. -/
import Derived.Test.YtblapgfilbmdhaaGreatDoorM17
import Derived.Test.YtblapgfilbmdhaaGreatDoorM15
import Derived.Test.YtblapgfilbmdhaaGreatDoorJoin
import Derived.Test.YtblapgfilbmdhaaGreatDoorM14
import Derived.Test.YtblapgfilbmdhaaGreatDoorM08
import Derived.Test.YtblapgfilbmdhaaGreatDoorM16
set_option linter.unusedVariables false
set_option linter.unusedSimpArgs false
namespace Go.Proofs.YtblapgfilbmdhaaGreatDoor.QryH
open Go.RowKit Go.Sort Go.Proofs Plain SynP TabP Tab1 Grown SynC SynW QryP Qry2 Qry4 Qry5 QryG Qry6 Qry7 QryA QryL
theorem bs_of (x : ByteArray) : x = ⟨(bs x).toArray⟩ := text_of x
end Go.Proofs.YtblapgfilbmdhaaGreatDoor.QryH
namespace Go.Proofs.YtblapgfilbmdhaaGreatDoor.QryI
open Go.RowKit Go.Sort Go.Proofs Plain SynP TabP Tab1 Grown SynC SynW QryP Qry2 Qry4 Qry5 QryG Qry6 Qry7 QryA QryL QryH
end Go.Proofs.YtblapgfilbmdhaaGreatDoor.QryI
