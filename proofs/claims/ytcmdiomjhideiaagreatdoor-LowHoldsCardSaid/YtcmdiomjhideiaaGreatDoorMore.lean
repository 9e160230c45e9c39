/- Nothing of this is in the seat. -/
import Derived.Test.YtcmdiomjhideiaaGreatDoorShelf
namespace Go.Proofs.YtcmdiomjhideiaaGreatDoor.More
end Go.Proofs.YtcmdiomjhideiaaGreatDoor.More
