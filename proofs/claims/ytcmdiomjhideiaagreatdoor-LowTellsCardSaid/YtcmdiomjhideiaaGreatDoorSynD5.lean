/- The library's sort, laid at this program. -/
import Derived.Shelf.SlSortCmp.WholeK
import Derived.Shelf.Lay
import Derived.Ground.SlsfProg
import Derived.Test.YtcmdiomjhideiaaGreatDoorProg
namespace Go.Proofs.YtcmdiomjhideiaaGreatDoor.SynD5
open Go.Shelf Go.RowKit Go.Lib Go.Sort Go.Proofs
shelf_lay_g SlLaysF0.n6 Slsf 6 at Tryz 227 as laidSort
#check @laidSort
#print axioms laidSort
end Go.Proofs.YtcmdiomjhideiaaGreatDoor.SynD5
