/- A line without its comment, in the program and in the document's answers; the first token of a line. -/
import Derived.Test.YtcmdiomjhideiaaGreatDoorM01
import Derived.Test.YtcmdiomjhideiaaGreatDoorShelf
import Derived.Deep.QuietTactic
import Derived.BigQuiet
import Derived.Laws.AppendOwn
import Derived.OwnWalk
import Derived.Lib.Builder
import Derived.WalkSmall
namespace Go.Proofs.YtcmdiomjhideiaaGreatDoor.Scan2
set_option linter.unusedVariables false
set_option linter.unusedSimpArgs false
open Go.RowKit Go.Proofs.YtcmdiomjhideiaaGreatDoor.Plain Go.Proofs.YtcmdiomjhideiaaGreatDoor.Leaf Go.Proofs.YtcmdiomjhideiaaGreatDoor.Named Go.Proofs.YtcmdiomjhideiaaGreatDoor.Scan1
end Go.Proofs.YtcmdiomjhideiaaGreatDoor.Scan2
/- The tokens of a line, in the program. -/
namespace Go.Proofs.YtcmdiomjhideiaaGreatDoor.Scan3
set_option linter.unusedVariables false
set_option linter.unusedSimpArgs false
open Go.RowKit Go.Proofs.YtcmdiomjhideiaaGreatDoor.Plain Go.Proofs.YtcmdiomjhideiaaGreatDoor.Leaf Go.Proofs.YtcmdiomjhideiaaGreatDoor.Named Go.Proofs.YtcmdiomjhideiaaGreatDoor.Scan1 Go.Proofs.YtcmdiomjhideiaaGreatDoor.Scan2
theorem below_own {a w w1 : World} {e : TypeId} {size n : Nat} {v : Value} {xs : List Value} {o : Obj} (hb : Below a.heap.size a w) (hown : w.ownsRow a.heap.size e size v n xs) (hg : (w.alloc o).grownBy w1 v.ownBlock) : Below a.heap.size a w1 :=
  (hb.alloc hb.size o).grown hg (by have := hb.size; simp; omega) (fun k hk => (hown.lt k hk).1)
end Go.Proofs.YtcmdiomjhideiaaGreatDoor.Scan3
