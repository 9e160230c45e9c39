/- What fits the places of the lines of a kind, by contract. -/
import Derived.Test.YtcmdiomjhideiaaGreatDoorM11
import Derived.Deep.RegionHeld3
namespace Go.Proofs.YtcmdiomjhideiaaGreatDoor.Qry7
set_option linter.unusedVariables false
set_option linter.unusedSimpArgs false
open Go.RowKit Go.Sort Go.Proofs Go.Proofs.YtcmdiomjhideiaaGreatDoor.Plain Go.Proofs.YtcmdiomjhideiaaGreatDoor.SynP Go.Proofs.YtcmdiomjhideiaaGreatDoor.TabP Go.Proofs.YtcmdiomjhideiaaGreatDoor.Tab1 Go.Proofs.YtcmdiomjhideiaaGreatDoor.Grown Go.Proofs.YtcmdiomjhideiaaGreatDoor.SynA Go.Proofs.YtcmdiomjhideiaaGreatDoor.SynC Go.Proofs.YtcmdiomjhideiaaGreatDoor.QryP Go.Proofs.YtcmdiomjhideiaaGreatDoor.Qry4 Go.Proofs.YtcmdiomjhideiaaGreatDoor.Qry5 Go.Proofs.YtcmdiomjhideiaaGreatDoor.QryG Go.Proofs.YtcmdiomjhideiaaGreatDoor.Qry6
set_option linter.unusedVariables false
set_option linter.unusedSimpArgs false
def leadS (k : Int) : Str := if univ k then [97, 108, 119, 97, 121, 115] else [99, 97, 110]
def roleF : List Ft := [.kind 1, .kind 3, .kind 2]
def shapeF (k : Int) : List Ft := [.word (leadS k)] ++ roleF ++ (wordsL k).map .word ++ (if hasBk k then roleF else [])
theorem own_more {w : World} {B B' : Nat} {e : TypeId} {size n : Nat} {v : Value} {xs : List Value} (h : w.ownsRow B e size v n xs) (hB : B' ≤ B) : w.ownsRow B' e size v n xs := by
  refine ⟨h.1, ?_⟩
  rcases h.2 with hn | ⟨g, cap, cur, rfl, hb, rest⟩
  · exact .inl hn
  · exact .inr ⟨g, cap, cur, rfl, by omega, rest⟩
end Go.Proofs.YtcmdiomjhideiaaGreatDoor.Qry7
