/- Rows of one-cell values put one behind the other: slices.Grow, slices.Concat, at texts and at functions. -/
import Derived.Test.YtblapgfilbmdhaaGreatDoorM13
import Derived.Test.YtblapgfilbmdhaaGreatDoorM11
import Derived.Test.YtblapgfilbmdhaaGreatDoorM02
import Derived.Test.YtblapgfilbmdhaaGreatDoorM04
import Derived.Test.YtblapgfilbmdhaaGreatDoorM06
import Derived.Test.YtblapgfilbmdhaaGreatDoorM08
set_option linter.unusedVariables false
set_option linter.unusedSimpArgs false
namespace Go.Proofs.YtblapgfilbmdhaaGreatDoor.QryG
open Go.RowKit Go.Sort Plain SynP Grown SynA SynC Qry4 Qry5
theorem VRow.alloc {w : World} {A : Option Addr} {l : List Value} (h : VRow w A l) (o : Obj) : VRow (w.alloc o) A l := h.below ((Below.refl _ _).alloc (Nat.le_refl _) o)
end Go.Proofs.YtblapgfilbmdhaaGreatDoor.QryG
namespace Go.Proofs.YtblapgfilbmdhaaGreatDoor.Qry1
open Go.RowKit Go.Sort Go.Proofs Plain Named SynP TabP Tab1 Tab3 Tab7 Grown QryP
end Go.Proofs.YtblapgfilbmdhaaGreatDoor.Qry1
namespace Go.Proofs.YtblapgfilbmdhaaGreatDoor.Qry2
open Go.RowKit Go.Sort Go.Proofs Plain SynP TabP Tab1 Grown SynE Syn1 QryP Qry1
theorem isRoleRef' (o n : ByteArray) (w : World) (h1 : o.size ≤ maxLen) (h2 : n.size ≤ maxLen) : Calls Tryz.prog 68 #[.agg #[.string o, .string n]] w fun e w' => e = .returned (.bool (Rl.ok ⟨o, n⟩)) ∧ Grew w w' := isRoleRef ⟨o, n⟩ w ⟨h1, h2⟩
def RightPost (q : Qy) (w : World) (e : Ending) (w' : World) : Prop := e = .returned (.bool q.right) ∧ Below w.heap.size w w'
theorem right_k {k : Int} {a b : Rl} {T : List Str} {r : Bool} (h : Qy.right ⟨k, a, b, T⟩ = r) : Ending.returned (.bool r) = .returned (.bool (Qy.right ⟨k, a, b, T⟩)) := by rw [h]
end Go.Proofs.YtblapgfilbmdhaaGreatDoor.Qry2
