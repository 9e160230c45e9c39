/- Leaf contracts: which bytes are letters and digits, in the program and in the document's answers. -/
import Derived.Test.YtofhiolmaojihaaProg
import Derived.Test.YtofhiolmaojihaaPlain
import Derived.WalkKit
import Derived.ProofKit
namespace Go.Proofs.Ytofhiolmaojihaa.Leaf
open Go.RowKit Go.Proofs.Ytofhiolmaojihaa.Plain

theorem isCapital (n : Int) (w : World) : Calls Try.prog 63 #[.int .u8 n] w fun e w' => e = .returned (.bool (capB n)) ∧ w = w' := by
  by_cases h : 65 ≤ n <;> by_cases h2 : n ≤ 90 <;>
  · go_enter Try.func63, Try.ntmps63
    go_wp2
    go_ret
    exact ⟨ret_bool (by simp [capB, h, h2]), rfl⟩
theorem isSmall (n : Int) (w : World) : Calls Try.prog 64 #[.int .u8 n] w fun e w' => e = .returned (.bool (smallB n)) ∧ w = w' := by
  by_cases h : 97 ≤ n <;> by_cases h2 : n ≤ 122 <;>
  · go_enter Try.func64, Try.ntmps64
    go_wp2
    go_ret
    exact ⟨ret_bool (by simp [smallB, h, h2]), rfl⟩
theorem isDigit (n : Int) (w : World) : Calls Try.prog 75 #[.int .u8 n] w fun e w' => e = .returned (.bool (digB n)) ∧ w = w' := by
  by_cases h : 48 ≤ n <;> by_cases h2 : n ≤ 57 <;>
  · go_enter Try.func75, Try.ntmps75
    go_wp2
    go_ret
    exact ⟨ret_bool (by simp [digB, h, h2]), rfl⟩
theorem big (n : Int) (w : World) : Calls Try.prog 55 #[.int .u8 n] w fun e w' => e = .returned (.bool (capB n)) ∧ w = w' := by
  by_cases h : 65 ≤ n <;> by_cases h2 : n ≤ 90 <;>
  · go_enter Try.func55, Try.ntmps55
    go_wp2
    go_ret
    exact ⟨ret_bool (by simp [capB, h, h2]), rfl⟩
theorem small (n : Int) (w : World) : Calls Try.prog 56 #[.int .u8 n] w fun e w' => e = .returned (.bool (smallB n)) ∧ w = w' := by
  by_cases h : 97 ≤ n <;> by_cases h2 : n ≤ 122 <;>
  · go_enter Try.func56, Try.ntmps56
    go_wp2
    go_ret
    exact ⟨ret_bool (by simp [smallB, h, h2]), rfl⟩
theorem figure (n : Int) (w : World) : Calls Try.prog 57 #[.int .u8 n] w fun e w' => e = .returned (.bool (digB n)) ∧ w = w' := by
  by_cases h : 48 ≤ n <;> by_cases h2 : n ≤ 57 <;>
  · go_enter Try.func57, Try.ntmps57
    go_wp2
    go_ret
    exact ⟨ret_bool (by simp [digB, h, h2]), rfl⟩
end Go.Proofs.Ytofhiolmaojihaa.Leaf
