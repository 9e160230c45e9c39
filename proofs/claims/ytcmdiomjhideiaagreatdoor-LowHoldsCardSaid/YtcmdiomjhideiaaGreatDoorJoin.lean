/- Nothing of this is in the seat. -/
import Derived.Test.YtcmdiomjhideiaaGreatDoorShelf
namespace Go.Proofs.YtcmdiomjhideiaaGreatDoor.Join
end Go.Proofs.YtcmdiomjhideiaaGreatDoor.Join
