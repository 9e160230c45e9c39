/- Which queries are right, as the document tells it, by contract. -/
import Derived.Test.YtnhjnimgjpgfcaaM16
import Derived.Test.YtnhjnimgjpgfcaaM02
namespace Go.Proofs.Ytnhjnimgjpgfcaa.Qry3
set_option linter.unusedVariables false
set_option linter.unusedSimpArgs false
open Go.RowKit Go.Sort Go.Proofs Go.Proofs.Ytnhjnimgjpgfcaa.Plain Go.Proofs.Ytnhjnimgjpgfcaa.SynP Go.Proofs.Ytnhjnimgjpgfcaa.TabP Go.Proofs.Ytnhjnimgjpgfcaa.Tab1 Go.Proofs.Ytnhjnimgjpgfcaa.Grown Go.Proofs.Ytnhjnimgjpgfcaa.SynE Go.Proofs.Ytnhjnimgjpgfcaa.Syn1 Go.Proofs.Ytnhjnimgjpgfcaa.RefN Go.Proofs.Ytnhjnimgjpgfcaa.QryP Go.Proofs.Ytnhjnimgjpgfcaa.Qry1 Go.Proofs.Ytnhjnimgjpgfcaa.Qry2
set_option linter.unusedVariables false
set_option linter.unusedSimpArgs false
theorem bytesLess_eq (x y : Str) : Op.bytesLess x y = decide (x < y) := by
  have := less_eq ⟨x.toArray⟩ ⟨y.toArray⟩
  unfold strLt at this
  simpa [Go.ByteArray.toList_eq] using this
theorem geS (x y : Str) (w : World) : (binOp .geq 9 (.string ⟨x.toArray⟩) (.string ⟨y.toArray⟩)).run Try.prog w = .ok (.bool (!decide (x < y))) w := by
  have e := bytesLess_eq x y
  go_simp
theorem right_who {k : Int} {a b : Rl} {T : List Str} {i : Nat} (hi : i < T.length) (h : (T.all prinS && decide (T = tab T)) = false) : Qy.right ⟨k, a, b, T⟩ = false := by
  have h0 : T.length ≠ 0 := by omega
  have e : whoOk T = false := by unfold whoOk; rw [Bool.and_assoc, h, Bool.and_false]
  unfold Qy.right
  simp only [e, decide_eq_false h0, Bool.and_false, Bool.false_and]
  have : (if k = 1 ∨ k = 2 then false else if k = 3 then false else if k = 4 then false else if k = 5 ∨ k = 6 then false else false) = false := by split <;> (try split) <;> (try split) <;> (try split) <;> rfl
  rw [this, Bool.and_false]
theorem who_len {T : List Str} (h : risesTo T T.length) : whoOk T = decide (T.length ≤ 12) := by
  unfold whoOk; rw [Bool.and_assoc, who_of h, Bool.and_true]
end Go.Proofs.Ytnhjnimgjpgfcaa.Qry3
