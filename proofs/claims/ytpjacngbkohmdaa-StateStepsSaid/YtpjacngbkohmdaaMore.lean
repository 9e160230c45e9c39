/- (this seat has none) -/
import Derived.Test.YtpjacngbkohmdaaShelf
namespace Go.Proofs.Ytpjacngbkohmdaa.More
end Go.Proofs.Ytpjacngbkohmdaa.More
