/- (this seat has none) -/
import Derived.Test.YtpjacngbkohmdaaShelf
namespace Go.Proofs.Ytpjacngbkohmdaa.Join
end Go.Proofs.Ytpjacngbkohmdaa.Join
