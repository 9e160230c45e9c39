/- Principals put in by the library's search and Insert: what a row of texts is behind it. -/
import Derived.Test.YtblapgfilbmdhaaGreatDoorM11
import Derived.Test.YtblapgfilbmdhaaGreatDoorM13
import Derived.Test.YtblapgfilbmdhaaGreatDoorMore
import Derived.Shelf.SlSortFuncK.RowK2
import Derived.Lib.LazyBuf
import Derived.Test.YtblapgfilbmdhaaGreatDoorM14
import Derived.OwnWalk
import Derived.Test.YtblapgfilbmdhaaGreatDoorM15
import Derived.Test.YtblapgfilbmdhaaGreatDoorM09
import Derived.Test.YtblapgfilbmdhaaGreatDoorM02
set_option linter.unusedVariables false
set_option linter.unusedSimpArgs false
namespace Go.Proofs.YtblapgfilbmdhaaGreatDoor.Qry8
open Go.RowKit Go.Sort Go.Proofs Plain SynP TabP Tab1 QryP
end Go.Proofs.YtblapgfilbmdhaaGreatDoor.Qry8
namespace Go.Proofs.YtblapgfilbmdhaaGreatDoor.Qry9
open Go.RowKit Go.Lib Go.Sort Go.Proofs Plain SynP TabP Tab1 QryP Qry8
structure InsAt (B g c vb : Nat) (T : List Str) (s : Str) (w : World) : Prop where
  own : w.ownsRow B 9 1 (.slice (some ⟨g, 0, none⟩) T.length c) T.length (T.map encStr)
  new : w.heap[vb]? = some (.cells #[.string ⟨s.toArray⟩] 9 (0, 0))
  far : vb ≠ g
theorem InsAt.cur {B g c vb : Nat} {T : List Str} {s : Str} {w : World} (h : InsAt B g c vb T s w) : ∃ cur, B ≤ g ∧ w.heap[g]? = some (.cells cur 9 (0, 0)) ∧ T.length ≤ c ∧ c ≤ maxLen ∧ cur.size = c ∧ ∀ j u, (T.map encStr)[j]? = some u → w.cell? ⟨g, j, none⟩ = some u := by
  have hc := h.own.cells (g := g) rfl
  rcases h.own.2 with ⟨e, _⟩ | ⟨g', cap, cur, e, hB, hh, h1, h2, h3, _⟩
  · cases e
  · injection e with e1 e2 e3
    injection e1 with e1
    injection e1 with e1
    subst e1; subst e3
    refine ⟨cur, hB, hh, h1, h2, by omega, fun j u hu => ?_⟩
    have := hc j u hu
    rwa [SynC.add_off, Nat.zero_add] at this
end Go.Proofs.YtblapgfilbmdhaaGreatDoor.Qry9
namespace Go.Proofs.YtblapgfilbmdhaaGreatDoor.QryA
open Go.RowKit Go.Sort Go.Proofs Plain SynP TabP Tab1 SynA QryP Qry8 Qry9
def strOf (x : ByteArray) : Str := x.data.toList
theorem text_of (x : ByteArray) : x = ⟨(strOf x).toArray⟩ := by unfold strOf; apply ByteArray.ext; simp
end Go.Proofs.YtblapgfilbmdhaaGreatDoor.QryA
namespace Go.Proofs.YtblapgfilbmdhaaGreatDoor.QryB
open Go.RowKit Go.Sort Go.Proofs Plain SynP SynQ TabP Tab1 Grown SynA SynC SynR SynS SynV QryP Qry4 Qry5 Qry6 Qry7 QryA
end Go.Proofs.YtblapgfilbmdhaaGreatDoor.QryB
namespace Go.Proofs.YtblapgfilbmdhaaGreatDoor.QryC
open Go.RowKit Go.Sort Plain SynP TabP SynR QryP Qry4 Qry5 Qry7 QryA QryB
end Go.Proofs.YtblapgfilbmdhaaGreatDoor.QryC
