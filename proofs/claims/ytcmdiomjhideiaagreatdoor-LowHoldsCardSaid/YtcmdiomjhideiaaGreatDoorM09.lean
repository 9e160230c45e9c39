/- The library's sort, at statements. -/
import Derived.Test.YtcmdiomjhideiaaGreatDoorM08
import Derived.Test.YtcmdiomjhideiaaGreatDoorM04
import Derived.Shelf.SlSortCmp.WholeK
import Derived.Test.YtcmdiomjhideiaaGreatDoorShelf
namespace Go.Proofs.YtcmdiomjhideiaaGreatDoor.SynD4
set_option linter.unusedVariables false
set_option linter.unusedSimpArgs false
open Go.RowKit Go.Sort Go.Proofs Go.Proofs.YtcmdiomjhideiaaGreatDoor.Plain Go.Proofs.YtcmdiomjhideiaaGreatDoor.SynP Go.Proofs.YtcmdiomjhideiaaGreatDoor.Grown Go.Proofs.YtcmdiomjhideiaaGreatDoor.SynD2 Go.Proofs.YtcmdiomjhideiaaGreatDoor.SynD3 Go.Proofs.YtcmdiomjhideiaaGreatDoor.SynD
end Go.Proofs.YtcmdiomjhideiaaGreatDoor.SynD4
