/- The tokens of a line, in the document's answers. -/
import Derived.Test.YtpjacngbkohmdaaM02
namespace Go.Proofs.Ytpjacngbkohmdaa.Scan4
set_option linter.unusedVariables false
set_option linter.unusedSimpArgs false
open Go.RowKit Go.Proofs.Ytpjacngbkohmdaa.Plain Go.Proofs.Ytpjacngbkohmdaa.Leaf Go.Proofs.Ytpjacngbkohmdaa.Scan1 Go.Proofs.Ytpjacngbkohmdaa.Scan2 Go.Proofs.Ytpjacngbkohmdaa.Scan3
section
variable {t : ByteArray} {k : Nat} (h : k < t.size)
theorem pre_iff : Lib.hasPrefix (t.data.toList.drop k) [60, 45] = true ↔ t[k] = 60 ∧ ∃ h2 : k + 1 < t.size, t[k + 1] = 45 := by
  unfold Lib.hasPrefix
  rw [drop_cons h]
  by_cases h2 : k + 1 < t.size
  · rw [drop_cons h2]
    simp [h2]
    constructor <;> (rintro ⟨a, b⟩; exact ⟨a.symm, b.symm⟩)
  · rw [List.drop_of_length_le (by rw [toList_len]; omega)]
    simp [h2]
theorem st_46 (e : t[k] = 46) : tkStep t k h = .tok 3 0 := by
  unfold tkStep
  rw [if_neg (by rw [e]; decide), if_neg (by rw [e]; decide), if_neg (by rw [e]; decide), if_pos e]
theorem st_38 (e : t[k] = 38) : tkStep t k h = .tok 5 0 := by
  unfold tkStep
  rw [if_neg (by rw [e]; decide), if_neg (by rw [e]; decide), if_neg (by rw [e]; decide), if_neg (by rw [e]; decide), if_pos e]
theorem st_60 (e : t[k] = 60) (h2 : k + 1 < t.size) (e2 : t[k + 1] = 45) : tkStep t k h = .tok 4 1 := by
  unfold tkStep
  rw [if_neg (by rw [e]; decide), if_neg (by rw [e]; decide), if_neg (by rw [e]; decide), if_neg (by rw [e]; decide), if_neg (by rw [e]; decide), if_pos ((pre_iff h).2 ⟨e, h2, e2⟩)]
theorem st_no (h32 : t[k] ≠ 32) (h46 : t[k] ≠ 46) (h38 : t[k] ≠ 38) (h1 : capB t[k].toNat = false) (h2 : smallB t[k].toNat = false) (hn : ¬ (t[k] = 60 ∧ ∃ h2 : k + 1 < t.size, t[k + 1] = 45)) : tkStep t k h = .bad 1 := by
  unfold tkStep
  rw [if_neg h32, if_neg (by rw [h1]; decide), if_neg (by rw [h2]; decide), if_neg h46, if_neg h38, if_neg (fun e => hn ((pre_iff h).1 e))]
theorem st_cap (h32 : t[k] ≠ 32) (h1 : capB t[k].toNat = true) : tkStep t k h = if wlen t k > 8 then .bad 4 else .tok 1 (wlen t k - 1) := by
  unfold tkStep
  rw [if_neg h32, if_pos h1, wlen_succ h (word_of_cap h1)]; rfl
theorem st_small (h32 : t[k] ≠ 32) (h1 : capB t[k].toNat = false) (h2 : smallB t[k].toNat = true) : tkStep t k h = if wlen t k > 8 then .bad 4 else .tok 2 (wlen t k - 1) := by
  unfold tkStep
  rw [if_neg h32, if_neg (by rw [h1]; decide), if_pos h2, wlen_succ h (word_of_small h2)]; rfl
theorem text1 {n : UInt8} (e : t[k] = n) : t.extract k (k + (0 + 1)) = ⟨#[n]⟩ := by
  apply ByteArray.ext
  apply Array.ext'
  rw [show k + (0 + 1) = k + 1 from rfl, one_byte t k h, e]
theorem text2 (e : t[k] = 60) (h2 : k + 1 < t.size) (e2 : t[k + 1] = 45) : t.extract k (k + (1 + 1)) = ⟨#[60, 45]⟩ := by
  apply ByteArray.ext
  apply Array.ext'
  rw [ByteArray.data_extract, Array.toList_extract, List.extract_eq_take_drop, show k + (1 + 1) - k = 2 from by omega, drop_cons h, drop_cons h2, e, e2]
  rfl
end
end Go.Proofs.Ytpjacngbkohmdaa.Scan4
