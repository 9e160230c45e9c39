/- What a row's list of laid tables gives: the table of powers, wherever it stands on the list; and a start that holds the tables. -/
import Derived.Test.YtpdgjkjbimkmjaaDoorTab3
import Derived.Test.YtpdgjkjbimkmjaaDoorRows
import Derived.Lib.LaidTab
namespace Go.Proofs.YtpdgjkjbimkmjaaDoor.Laid
open Go.RowKit Go.Proofs.YtpdgjkjbimkmjaaDoor.Tab3
theorem tab_of_mem {P : Program} {w : World} {name : String} {k : IntKind} {zs : List Int} {g : Nat} {t e : TypeId} {n : Nat}
    (hg : P.globalNamed name = some g) (hty : (P.globals[g]?).map (·.type) = some t) (ht : P.underlying t = some (.array n e)) (he : P.underlying e = some (.int k)) (hce : P.cellsOf e = 1) (hct : P.cellsOf t = n) :
    ∀ {l : List (String × DataW Unit)} {ps : List MemPlace}, DataW.LaidVars P w l ps → (name, Lib.tabData k zs) ∈ l → Lib.TabIs P w name k zs
  | [], _, _, hm => by simp at hm
  | (m, d) :: l, ps, ⟨g', t', cs, fuel, p, q, hg', ht', hvar, hd, hr, _⟩, hm => by
    rw [List.mem_cons] at hm
    rcases hm with hm | hm
    · injection hm with h1 h2
      subst h1 h2
      obtain rfl := Option.some.inj (hg.symm.trans hg')
      obtain rfl := Option.some.inj (hty.symm.trans ht')
      unfold Lib.TabIs
      rw [hvar, ← Lib.cells_of_tab ht he hce hct hd]
    · exact tab_of_mem hg hty ht he hce hct hr hm
theorem powType : (Tryd.prog.globals[0]?).map (·.type) = some 124 := by kernel_rfl
theorem cellsPow : Tryd.prog.cellsOf 124 = 20 := by kernel_rfl
theorem cellsU64 : Tryd.prog.cellsOf 100 = 1 := by kernel_rfl
theorem pow_lt {W : World} (h : Pow W) : 0 < W.heap.size := by
  have h1 := h.cell powNamed 0 (by rw [Lib.pow10Tab_length]; omega)
  exact World.block_lt_of_cell? _ _ h1
theorem pow_of_laid {W : World} {l : List (String × DataW Unit)} (h : laidMet Tryd.prog l W) (hm : ("internal/strconv.uint64pow10", Lib.tabData .u64 Lib.pow10Tab) ∈ l) : Pow W := by
  obtain ⟨ps, hv, _⟩ := h
  exact tab_of_mem powNamed powType Tryd.underlying124 Tryd.underlying100 cellsU64 cellsPow hv hm
theorem pow_listed : ("internal/strconv.uint64pow10", Lib.tabData .u64 Lib.pow10Tab) ∈ Rows.namesAreRow.laid := List.mem_of_getElem? (i := 2) (by kernel_rfl)
/-- A world with the numbers zs of kind k in the block g. -/
def putTab (w : World) (g : Nat) (k : IntKind) (zs : List Int) : World :=
  { w with heap := w.heap.modify g fun
      | .cells _ t frozen => .cells (zs.map fun z => Value.int k z).toArray t frozen
      | o => o }
def de32 : List Int := [0, 1, 28, 2, 29, 14, 24, 3, 30, 22, 20, 15, 25, 17, 4, 8, 31, 27, 13, 23, 21, 19, 16, 7, 26, 12, 18, 6, 11, 5, 10, 9]
def de64 : List Int := [0, 1, 56, 2, 57, 49, 28, 3, 61, 58, 42, 50, 38, 29, 17, 4, 62, 47, 59, 36, 45, 43, 51, 22, 53, 39, 33, 30, 24, 18, 12, 5, 63, 55, 48, 27, 60, 41, 37, 16, 46, 35, 44, 21, 52, 32, 23, 11, 54, 26, 40, 15, 34, 20, 31, 10, 25, 14, 19, 9, 13, 8, 7, 6]
noncomputable def laidWorld (os : Os) : World :=
  putTab (putTab (putTab (World.holding Tryd.prog os ⟨#[], #[], []⟩) 0 .u64 Lib.pow10Tab) 4 .u8 de32) 5 .u8 de64
end Go.Proofs.YtpdgjkjbimkmjaaDoor.Laid
