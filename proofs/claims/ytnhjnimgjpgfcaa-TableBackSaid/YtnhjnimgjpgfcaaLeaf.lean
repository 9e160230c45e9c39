/- Leaf contracts: which bytes are letters and digits, in the program and in the document's answers. -/
import Derived.Test.YtnhjnimgjpgfcaaProg
import Derived.Test.YtnhjnimgjpgfcaaPlain
import Derived.WalkKit
import Derived.ProofKit
namespace Go.Proofs.Ytnhjnimgjpgfcaa.Leaf
open Go.RowKit Go.Proofs.Ytnhjnimgjpgfcaa.Plain

theorem isCapital (n : Int) (w : World) : Calls Try.prog 91 #[.int .u8 n] w fun e w' => e = .returned (.bool (capB n)) ∧ w = w' := by
  by_cases h : 65 ≤ n <;> by_cases h2 : n ≤ 90 <;>
  · go_enter Try.func91, Try.ntmps91
    go_wp2
    go_ret
    exact ⟨ret_bool (by simp [capB, h, h2]), rfl⟩
theorem isSmall (n : Int) (w : World) : Calls Try.prog 92 #[.int .u8 n] w fun e w' => e = .returned (.bool (smallB n)) ∧ w = w' := by
  by_cases h : 97 ≤ n <;> by_cases h2 : n ≤ 122 <;>
  · go_enter Try.func92, Try.ntmps92
    go_wp2
    go_ret
    exact ⟨ret_bool (by simp [smallB, h, h2]), rfl⟩
theorem isDigit (n : Int) (w : World) : Calls Try.prog 103 #[.int .u8 n] w fun e w' => e = .returned (.bool (digB n)) ∧ w = w' := by
  by_cases h : 48 ≤ n <;> by_cases h2 : n ≤ 57 <;>
  · go_enter Try.func103, Try.ntmps103
    go_wp2
    go_ret
    exact ⟨ret_bool (by simp [digB, h, h2]), rfl⟩
end Go.Proofs.Ytnhjnimgjpgfcaa.Leaf
