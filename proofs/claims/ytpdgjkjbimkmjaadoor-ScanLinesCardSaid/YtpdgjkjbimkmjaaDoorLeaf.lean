/- Leaf contracts: which bytes are letters and digits, in the program and in the document's answers. -/
import Derived.Test.YtpdgjkjbimkmjaaDoorProg
import Derived.Test.YtpdgjkjbimkmjaaDoorPlain
import Derived.WalkKit
import Derived.ProofKit
namespace Go.Proofs.YtpdgjkjbimkmjaaDoor.Leaf
open Go.RowKit Go.Proofs.YtpdgjkjbimkmjaaDoor.Plain

theorem isCapital (n : Int) (w : World) : Calls Tryd.prog 29 #[.int .u8 n] w fun e w' => e = .returned (.bool (capB n)) ∧ w = w' := by
  by_cases h : 65 ≤ n <;> by_cases h2 : n ≤ 90 <;>
  · go_enter Tryd.func29, Tryd.ntmps29
    go_wp2
    go_ret
    exact ⟨ret_bool (by simp [capB, h, h2]), rfl⟩
theorem isSmall (n : Int) (w : World) : Calls Tryd.prog 31 #[.int .u8 n] w fun e w' => e = .returned (.bool (smallB n)) ∧ w = w' := by
  by_cases h : 97 ≤ n <;> by_cases h2 : n ≤ 122 <;>
  · go_enter Tryd.func31, Tryd.ntmps31
    go_wp2
    go_ret
    exact ⟨ret_bool (by simp [smallB, h, h2]), rfl⟩
theorem isDigit (n : Int) (w : World) : Calls Tryd.prog 50 #[.int .u8 n] w fun e w' => e = .returned (.bool (digB n)) ∧ w = w' := by
  by_cases h : 48 ≤ n <;> by_cases h2 : n ≤ 57 <;>
  · go_enter Tryd.func50, Tryd.ntmps50
    go_wp2
    go_ret
    exact ⟨ret_bool (by simp [digB, h, h2]), rfl⟩
end Go.Proofs.YtpdgjkjbimkmjaaDoor.Leaf
