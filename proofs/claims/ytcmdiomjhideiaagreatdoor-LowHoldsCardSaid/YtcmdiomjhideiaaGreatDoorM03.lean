/- The tokens of a line, in the document's answers. -/
import Derived.Test.YtcmdiomjhideiaaGreatDoorM02
import Derived.Test.YtcmdiomjhideiaaGreatDoorM01
namespace Go.Proofs.YtcmdiomjhideiaaGreatDoor.Scan4
set_option linter.unusedVariables false
set_option linter.unusedSimpArgs false
open Go.RowKit Go.Proofs.YtcmdiomjhideiaaGreatDoor.Plain Go.Proofs.YtcmdiomjhideiaaGreatDoor.Leaf Go.Proofs.YtcmdiomjhideiaaGreatDoor.Scan1 Go.Proofs.YtcmdiomjhideiaaGreatDoor.Scan2 Go.Proofs.YtcmdiomjhideiaaGreatDoor.Scan3
section
variable {t : ByteArray} {k : Nat} (h : k < t.size)
end
end Go.Proofs.YtcmdiomjhideiaaGreatDoor.Scan4
/- Plain mathematics: the tokens of a line are good ones; the tokens of words that stand one behind the other. -/
namespace Go.Proofs.YtcmdiomjhideiaaGreatDoor.SynR
set_option linter.unusedVariables false
set_option linter.unusedSimpArgs false
open Go.RowKit Go.Proofs.YtcmdiomjhideiaaGreatDoor.Plain Go.Proofs.YtcmdiomjhideiaaGreatDoor.SynP Go.Proofs.YtcmdiomjhideiaaGreatDoor.SynQ Go.Proofs.YtcmdiomjhideiaaGreatDoor.Scan1 Go.Proofs.YtcmdiomjhideiaaGreatDoor.Scan2 Go.Proofs.YtcmdiomjhideiaaGreatDoor.Scan3 Go.Proofs.YtcmdiomjhideiaaGreatDoor.Scan4
end Go.Proofs.YtcmdiomjhideiaaGreatDoor.SynR
/- Plain mathematics: the tokens of words that stand one behind the other. -/
namespace Go.Proofs.YtcmdiomjhideiaaGreatDoor.SynW
set_option linter.unusedVariables false
set_option linter.unusedSimpArgs false
open Go.RowKit Go.Proofs.YtcmdiomjhideiaaGreatDoor.Plain Go.Proofs.YtcmdiomjhideiaaGreatDoor.SynP Go.Proofs.YtcmdiomjhideiaaGreatDoor.SynQ Go.Proofs.YtcmdiomjhideiaaGreatDoor.Scan1 Go.Proofs.YtcmdiomjhideiaaGreatDoor.Scan2 Go.Proofs.YtcmdiomjhideiaaGreatDoor.Scan3 Go.Proofs.YtcmdiomjhideiaaGreatDoor.Scan4 Go.Proofs.YtcmdiomjhideiaaGreatDoor.SynR
theorem drop_at {s : ByteArray} {k : Nat} {c : UInt8} {l : List UInt8} (h : s.data.toList.drop k = c :: l) : ∃ hk : k < s.size, s[k] = c ∧ s.data.toList.drop (k + 1) = l := by
  have hk : k < s.size := by
    rcases Nat.lt_or_ge k s.size with h1 | h1
    · exact h1
    · rw [List.drop_of_length_le (by rw [toList_len]; exact h1)] at h; cases h
  rw [drop_cons hk] at h
  injection h with h1 h2
  exact ⟨hk, h1, h2⟩
end Go.Proofs.YtcmdiomjhideiaaGreatDoor.SynW
