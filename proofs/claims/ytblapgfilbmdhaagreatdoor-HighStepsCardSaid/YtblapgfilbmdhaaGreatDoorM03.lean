/- The tokens of a line, in the document's answers. -/
import Derived.Test.YtblapgfilbmdhaaGreatDoorM02
set_option linter.unusedVariables false
set_option linter.unusedSimpArgs false
namespace Go.Proofs.YtblapgfilbmdhaaGreatDoor.Scan4
open Go.RowKit Plain Leaf Scan1 Scan2 Scan3
section
variable {t : ByteArray} {k : Nat} (h : k < t.size)
end
end Go.Proofs.YtblapgfilbmdhaaGreatDoor.Scan4
