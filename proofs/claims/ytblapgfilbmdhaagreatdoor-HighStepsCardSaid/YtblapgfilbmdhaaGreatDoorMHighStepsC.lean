/- The frame of HighSteps: the closed facts of its row, one by one (all at once want too much memory). -/
import Derived.Test.YtblapgfilbmdhaaGreatDoorMHighStepsB
set_option linter.unusedVariables false
set_option linter.unusedSimpArgs false
namespace Go.Proofs.YtblapgfilbmdhaaGreatDoor.HighStepsC
open Go.ChangeShapes Go.WideShapes Go.ChangeAt Go.RowKit
theorem and_t {a b : Bool} (h : a = true) (k : b = true) : (a && b) = true := by rw [h, k]; rfl
set_option maxHeartbeats 8000000 in
set_option maxRecDepth 1000000 in
theorem closed : joinedFacts Tryz.pinned.checked.prog 3 Tryz.f3 (OpenSpec.ofChange Rows.highStepsSpec).bare Rows.highStepsRow = true := by
  unfold joinedFacts
  repeat' (first | with_reducible refine and_t ?_ ?_ | (as_aux_lemma => kernel_rfl))
end Go.Proofs.YtblapgfilbmdhaaGreatDoor.HighStepsC
