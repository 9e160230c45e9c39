/- Nothing is laid here: the seat lacks these functions. -/
import Derived.Test.YteabkbcbmimkgaaGreatDoorShelf
namespace Go.Proofs.YteabkbcbmimkgaaGreatDoor.Join
end Go.Proofs.YteabkbcbmimkgaaGreatDoor.Join
