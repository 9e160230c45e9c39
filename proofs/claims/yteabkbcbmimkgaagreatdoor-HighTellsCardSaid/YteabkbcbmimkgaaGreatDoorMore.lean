/- Nothing is laid here: the seat lacks these functions. -/
import Derived.Test.YteabkbcbmimkgaaGreatDoorShelf
namespace Go.Proofs.YteabkbcbmimkgaaGreatDoor.More
end Go.Proofs.YteabkbcbmimkgaaGreatDoor.More
