/- Pairs as cells. -/
import Derived.Test.YtddjbchlpfaggaaPfS
namespace Go.Proofs.Ytddjbchlpfaggaa.SetQ
open Go.RowKit Go.Lib Go.Proofs Go.Proofs.Ytddjbchlpfaggaa.Plain Go.Proofs.Ytddjbchlpfaggaa.TblB Go.Proofs.Ytddjbchlpfaggaa.TblC Go.Proofs.Ytddjbchlpfaggaa.TblF Go.Proofs.Ytddjbchlpfaggaa.TblV
set_option linter.unusedVariables false
set_option linter.unusedSimpArgs false
/-- Pairs as cells. -/
def encP : List (Int × Int) → List Value
  | [] => []
  | p :: l => .int .i64 p.1 :: .int .i64 p.2 :: encP l
theorem encP_len : ∀ l, (encP l).length = l.length * 2
  | [] => rfl
  | p :: l => by simp [encP, encP_len l]; omega
theorem encP_app : ∀ l k, encP (l ++ k) = encP l ++ encP k
  | [], _ => rfl
  | p :: l, k => by simp [encP, encP_app l k]
theorem encP_at : ∀ (l : List (Int × Int)) (j : Nat) (h : j < l.length), (encP l)[j * 2]? = some (.int .i64 l[j].1) ∧ (encP l)[j * 2 + 1]? = some (.int .i64 l[j].2)
  | [], _, h => absurd h (Nat.not_lt_zero _)
  | p :: l, 0, _ => ⟨rfl, rfl⟩
  | p :: l, j + 1, h => by
    have := encP_at l j (by simpa using h)
    have e : (j + 1) * 2 = j * 2 + 1 + 1 := by omega
    rw [e]
    simpa [encP] using this
end Go.Proofs.Ytddjbchlpfaggaa.SetQ
