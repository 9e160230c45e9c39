/- A line's tokens read as those of one kind that they go on as, by contract. -/
import Derived.Test.YtblapgfilbmdhaaGreatDoorM16
import Derived.Test.YtblapgfilbmdhaaGreatDoorM10
import Derived.Test.YtblapgfilbmdhaaGreatDoorM11
import Derived.Test.YtblapgfilbmdhaaGreatDoorM04
import Derived.Lib.Join
set_option linter.unusedVariables false
set_option linter.unusedSimpArgs false
namespace Go.Proofs.YtblapgfilbmdhaaGreatDoor.QryD
open Go.RowKit Go.Sort Go.Proofs Plain SynP TabP Tab1 Grown SynA SynC SynR SynS SynV QryP Qry4 Qry5 Qry6 Qry7 QryA QryB
end Go.Proofs.YtblapgfilbmdhaaGreatDoor.QryD
namespace Go.Proofs.YtblapgfilbmdhaaGreatDoor.QryE
open Go.RowKit Go.Sort Go.Proofs Plain SynP SynQ TabP Tab1 Grown Scan3 SynA SynC SynR SynS SynU SynV SynX QryP Qry4 Qry5 Qry6 Qry7 QryA QryB QryC QryD
end Go.Proofs.YtblapgfilbmdhaaGreatDoor.QryE
namespace Go.Proofs.YtblapgfilbmdhaaGreatDoor.QryL
open Go.RowKit Go.Sort Plain SynP TabP SynW QryP
def bs (x : ByteArray) : Str := x.data.toList
end Go.Proofs.YtblapgfilbmdhaaGreatDoor.QryL
