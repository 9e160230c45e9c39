/- What the row's list of laid tables gives, and a start that holds the table. -/
import Derived.Test.YtmeiigcjfjapfaaDoorSetO
import Derived.Test.YtmeiigcjfjapfaaDoorRows
import Derived.Lib.LaidTab
import Derived.Lib.Tables
namespace Go.Proofs.YtmeiigcjfjapfaaDoor.SetLaid
open Go.RowKit
theorem tab_of_mem {P : Program} {w : World} {name : String} {k : IntKind} {zs : List Int} {g : Nat} {t e : TypeId} {n : Nat}
    (hg : P.globalNamed name = some g) (hty : (P.globals[g]?).map (·.type) = some t) (ht : P.underlying t = some (.array n e)) (he : P.underlying e = some (.int k)) (hce : P.cellsOf e = 1) (hct : P.cellsOf t = n) :
    ∀ {l : List (String × DataW Unit)} {ps : List MemPlace}, DataW.LaidVars P w l ps → (name, Lib.tabData k zs) ∈ l → Lib.TabIs P w name k zs
  | [], _, _, hm => by simp at hm
  | (m, d) :: l, ps, ⟨g', t', cs, fuel, p, q, hg', ht', hvar, hd, hr, _⟩, hm => by
    rw [List.mem_cons] at hm
    rcases hm with hm | hm
    · injection hm with h1 h2
      subst h1 h2
      obtain rfl := Option.some.inj (hg.symm.trans hg')
      obtain rfl := Option.some.inj (hty.symm.trans ht')
      unfold Lib.TabIs
      rw [hvar, ← Lib.cells_of_tab ht he hce hct hd]
    · exact tab_of_mem hg hty ht he hce hct hr hm
/-- A world with the numbers zs of kind k in the block g. -/
def putTab (w : World) (g : Nat) (k : IntKind) (zs : List Int) : World :=
  { w with heap := w.heap.modify g fun
      | .cells _ t frozen => .cells (zs.map fun z => Value.int k z).toArray t frozen
      | o => o }
def de64 : List Int := [0, 1, 56, 2, 57, 49, 28, 3, 61, 58, 42, 50, 38, 29, 17, 4, 62, 47, 59, 36, 45, 43, 51, 22, 53, 39, 33, 30, 24, 18, 12, 5, 63, 55, 48, 27, 60, 41, 37, 16, 46, 35, 44, 21, 52, 32, 23, 11, 54, 26, 40, 15, 34, 20, 31, 10, 25, 14, 19, 9, 13, 8, 7, 6]
noncomputable def laidWorld (os : Os) : World := putTab (World.holding Tryd.prog os ⟨#[], #[], []⟩) 0 .u8 de64
end Go.Proofs.YtmeiigcjfjapfaaDoor.SetLaid
