/- The statement whose line has these tokens. -/
import Derived.Test.YtblapgfilbmdhaaGreatDoorM08
import Derived.Test.YtblapgfilbmdhaaGreatDoorM04
set_option linter.unusedVariables false
set_option linter.unusedSimpArgs false
namespace Go.Proofs.YtblapgfilbmdhaaGreatDoor.SynV
open Go.RowKit Go.Sort Go.Proofs Plain SynP SynQ Grown SynA SynC SynR SynW Scan3 Scan5 Syn1 Syn2 Syn4 SynL SynS SynT SynU
end Go.Proofs.YtblapgfilbmdhaaGreatDoor.SynV
namespace Go.Proofs.YtblapgfilbmdhaaGreatDoor.SynG
open Go.RowKit Go.Sort Plain SynP SynQ Grown SynA SynC
end Go.Proofs.YtblapgfilbmdhaaGreatDoor.SynG
namespace Go.Proofs.YtblapgfilbmdhaaGreatDoor.SynH
open Go.RowKit Go.Sort Plain SynP SynQ Grown SynA SynC SynG
theorem own_base {w : World} {B B' : Nat} {e : TypeId} {size n : Nat} {v : Value} {xs : List Value} (h : w.ownsRow B e size v n xs) (hB : B' ≤ B) : w.ownsRow B' e size v n xs := by
  refine ⟨h.1, ?_⟩
  rcases h.2 with h0 | ⟨g, cap, cur, hv, hg, r⟩
  · exact .inl h0
  · exact .inr ⟨g, cap, cur, hv, Nat.le_trans hB hg, r⟩
end Go.Proofs.YtblapgfilbmdhaaGreatDoor.SynH
