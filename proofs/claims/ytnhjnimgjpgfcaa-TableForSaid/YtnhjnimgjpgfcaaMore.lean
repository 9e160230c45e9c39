/- Nothing of this is called here. -/
import Derived.Test.YtnhjnimgjpgfcaaShelf
namespace Go.Proofs.Ytnhjnimgjpgfcaa
end Go.Proofs.Ytnhjnimgjpgfcaa
