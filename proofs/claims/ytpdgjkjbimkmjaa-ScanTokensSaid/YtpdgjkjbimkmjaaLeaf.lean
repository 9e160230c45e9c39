/- Leaf contracts: which bytes are letters and digits, in the program and in the document's answers. -/
import Derived.Test.YtpdgjkjbimkmjaaProg
import Derived.Test.YtpdgjkjbimkmjaaPlain
import Derived.WalkKit
import Derived.ProofKit
namespace Go.Proofs.Ytpdgjkjbimkmjaa.Leaf
open Go.RowKit Go.Proofs.Ytpdgjkjbimkmjaa.Plain

theorem isCapital (n : Int) (w : World) : Calls Try.prog 25 #[.int .u8 n] w fun e w' => e = .returned (.bool (capB n)) ∧ w = w' := by
  by_cases h : 65 ≤ n <;> by_cases h2 : n ≤ 90 <;>
  · go_enter Try.func25, Try.ntmps25
    go_wp2
    go_ret
    exact ⟨ret_bool (by simp [capB, h, h2]), rfl⟩
theorem isSmall (n : Int) (w : World) : Calls Try.prog 26 #[.int .u8 n] w fun e w' => e = .returned (.bool (smallB n)) ∧ w = w' := by
  by_cases h : 97 ≤ n <;> by_cases h2 : n ≤ 122 <;>
  · go_enter Try.func26, Try.ntmps26
    go_wp2
    go_ret
    exact ⟨ret_bool (by simp [smallB, h, h2]), rfl⟩
theorem isDigit (n : Int) (w : World) : Calls Try.prog 31 #[.int .u8 n] w fun e w' => e = .returned (.bool (digB n)) ∧ w = w' := by
  by_cases h : 48 ≤ n <;> by_cases h2 : n ≤ 57 <;>
  · go_enter Try.func31, Try.ntmps31
    go_wp2
    go_ret
    exact ⟨ret_bool (by simp [digB, h, h2]), rfl⟩
theorem big (n : Int) (w : World) : Calls Try.prog 11 #[.int .u8 n] w fun e w' => e = .returned (.bool (capB n)) ∧ w = w' := by
  by_cases h : 65 ≤ n <;> by_cases h2 : n ≤ 90 <;>
  · go_enter Try.func11, Try.ntmps11
    go_wp2
    go_ret
    exact ⟨ret_bool (by simp [capB, h, h2]), rfl⟩
theorem small (n : Int) (w : World) : Calls Try.prog 12 #[.int .u8 n] w fun e w' => e = .returned (.bool (smallB n)) ∧ w = w' := by
  by_cases h : 97 ≤ n <;> by_cases h2 : n ≤ 122 <;>
  · go_enter Try.func12, Try.ntmps12
    go_wp2
    go_ret
    exact ⟨ret_bool (by simp [smallB, h, h2]), rfl⟩
theorem figure (n : Int) (w : World) : Calls Try.prog 13 #[.int .u8 n] w fun e w' => e = .returned (.bool (digB n)) ∧ w = w' := by
  by_cases h : 48 ≤ n <;> by_cases h2 : n ≤ 57 <;>
  · go_enter Try.func13, Try.ntmps13
    go_wp2
    go_ret
    exact ⟨ret_bool (by simp [digB, h, h2]), rfl⟩
end Go.Proofs.Ytpdgjkjbimkmjaa.Leaf
