/- Rows of diagrams by their variables (upward), by contract. -/
import Derived.Test.YtnkkmppmfjekeaaItF
import Derived.Test.YtnkkmppmfjekeaaItS
import Derived.Shelf.SlSortCmp.NoneTotal
namespace Go.Proofs.Ytnkkmppmfjekeaa.ItG
open Go.Shelf Go.RowKit Go.Sort Go.Lib Go.Proofs Go.Proofs.Ytnkkmppmfjekeaa.Grown Go.Proofs.Ytnkkmppmfjekeaa.NdA Go.Proofs.Ytnkkmppmfjekeaa.NdB Go.Proofs.Ytnkkmppmfjekeaa.NdC Go.Proofs.Ytnkkmppmfjekeaa.NdE Go.Proofs.Ytnkkmppmfjekeaa.NdG Go.Proofs.Ytnkkmppmfjekeaa.ItA Go.Proofs.Ytnkkmppmfjekeaa.ItB Go.Proofs.Ytnkkmppmfjekeaa.ItC Go.Proofs.Ytnkkmppmfjekeaa.ItD Go.Proofs.Ytnkkmppmfjekeaa.ItS
set_option linter.unusedVariables false
set_option linter.unusedSimpArgs false
/-- Numbers that fit. -/
abbrev I64 : Type := { n : Int // -9223372036854775808 ≤ n ∧ n ≤ 9223372036854775807 }
instance : Inhabited I64 := ⟨⟨0, by omega, by omega⟩⟩
def encI (y : I64) : Value := .int .i64 y.1
def cmpI (s : St) (y z : I64) : Int := cmpV s y.1 z.1
theorem cmpV_neg (s : St) (a b : Int) : decide (cmpV s a b < 0) = decide (varI s b < varI s a ∨ (varI s b = varI s a ∧ a < b)) := by
  unfold cmpV orL cmpN
  by_cases h1 : varI s b < varI s a
  · rw [if_pos h1]; simp [h1]
  · rw [if_neg h1]
    by_cases h2 : varI s b > varI s a
    · rw [if_pos h2]
      simp [orL]
      omega
    · rw [if_neg h2]
      have e : varI s b = varI s a := by omega
      simp only [ne_eq, not_true_eq_false, if_false]
      unfold orL
      by_cases h3 : a < b
      · rw [if_pos h3]; simp [e, h3]
      · rw [if_neg h3]
        by_cases h4 : a > b
        · rw [if_pos h4]; simp [e]; omega
        · rw [if_neg h4]; simp [orL, e, h3]
theorem swo_I (s : St) : SWO (ltOf (cmpI s)) := by
  refine ⟨fun y => ?_, fun x y z h1 h2 => ?_, fun x y z h1 h2 => ?_⟩
  · unfold ltOf cmpI
    rw [cmpV_neg]
    simp
  · unfold ltOf cmpI at *
    rw [cmpV_neg] at *
    simp only [decide_eq_true_eq] at *
    omega
  · unfold ltOf cmpI at *
    rw [cmpV_neg] at *
    simp only [decide_eq_false_iff_not] at *
    omega
theorem tot_I (s : St) (y z : I64) (h1 : ltOf (cmpI s) y z = false) (h2 : ltOf (cmpI s) z y = false) : y = z := by
  unfold ltOf cmpI at *
  rw [cmpV_neg] at *
  simp only [decide_eq_false_iff_not] at *
  exact Subtype.ext (by omega)
theorem sortW_block {w : World} {blk n k : Nat} {d : Array I64} {os : Array Obj} (hk : k < w.heap.size) (hne : k ≠ blk) : (sortWorld encI w blk 0 n d os).heap[k]? = w.heap[k]? := by
  unfold sortWorld
  rw [heap_grow_old _ _ (by rw [size_putRow]; exact hk)]
  unfold putRow mapBlock
  show (Array.modify (Sort.ahead w n).heap blk _)[k]? = _
  rw [Array.getElem?_modify, if_neg (by omega)]; rfl
theorem sortW_size {w : World} {blk n : Nat} {d : Array I64} {os : Array Obj} : w.heap.size ≤ (sortWorld encI w blk 0 n d os).heap.size := by
  unfold sortWorld
  rw [size_grow, size_putRow]
  show w.heap.size ≤ w.heap.size + _
  omega
section
variable {D : Nat} {x : Bx} {c : Nat} {s : St} {N : Nat} {w : World}
theorem cmpLays (bx blk size : Nat) (hx : w.cell? ⟨bx, 0, none⟩ = some (.pointer (some ⟨D, 0, none⟩))) (hne : bx ≠ blk) (hF : ¬ FootD D x blk) (H : Bd w D x c s N) : CmpLays1 Try.prog 85 #[.pointer (some ⟨bx, 0, none⟩)] encI (cmpI s) blk 0 size w := fun m os dk _ y z => by
  have hk : ∀ k, k < w.heap.size → k ≠ blk → (sortWorld encI w blk 0 m dk os).heap[k]? = w.heap[k]? := fun k h1 h2 => sortW_block h1 h2
  have hbx := World.block_lt_of_cell? _ _ hx
  have hD := H.lt
  have := upw1 (w := sortWorld encI w blk 0 m dk os) bx D y.1 z.1 y.2.1 y.2.2 z.2.1 z.2.2 ((World.cell?_of_block (w := w) (hk bx hbx hne)).trans hx) ((World.cell?_of_block (w := w) (hk D hD (fun e => hF (Or.inl e.symm)))).trans H.cells.1) (H.tk.tb.keep (fun k h => hk k (H.tk.tb.foot h) (fun e => hF (Or.inr (Or.inl (e ▸ h))))))
  refine this.mono ?_
  rintro e w' ⟨he, hg⟩
  refine ⟨he, ?_⟩
  obtain ⟨⟨q, os'⟩, rfl⟩ := hg
  exact ⟨q, os', rfl⟩
/-- A row of diagrams, those of greater variables first. -/
def srt (s : St) (l : List I64) : List I64 := l.mergeSort fun y z => !(ltOf (cmpI s)) z y
theorem srt_perm (s : St) (l : List I64) : (srt s l).Perm l := List.mergeSort_perm _ _
def upV (bx : Nat) : Value := .func (.func 85) #[] #[.pointer (some ⟨bx, 0, none⟩)]
set_option maxHeartbeats 1000000 in
theorem sort_ (bx blk cap : Nat) (l : List I64) (hl : l.length < 1000) (hx : w.cell? ⟨bx, 0, none⟩ = some (.pointer (some ⟨D, 0, none⟩))) (hne : bx ≠ blk) (hF : ¬ FootD D x blk) (hb : blk < w.heap.size) (hH : Holds encI w blk 0 l.toArray) (H : Bd w D x c s N) :
    Calls Try.prog 84 #[.slice (some ⟨blk, 0, none⟩) l.length cap, upV bx] w fun e w' => e = .returned (.tuple #[]) ∧ ∃ n os, w' = sortWorld encI w blk 0 n (srt s l).toArray os := by
  have := Any.slices_SortFunc_total laidSort encI (fun _ => rfl) (cmpI s) (swo_I s) 85 #[.pointer (some ⟨bx, 0, none⟩)] blk 0 cap l.toArray w (enters_of Try.func85 (by kernel_rfl) rfl) (cmpLays bx blk _ hx hne hF H) hH hb (by simp; omega) (tot_I s)
  have e : l.toArray.size = l.length := by simp
  rw [e] at this
  exact this
theorem sortNone_ (fv : Value) : Calls Try.prog 84 #[.slice none 0 0, fv] w fun e w' => e = .returned (.tuple #[]) ∧ w' = w :=
  AnyF.slices_SortFunc_none { laidSort with } none 0 fv w
end
end Go.Proofs.Ytnkkmppmfjekeaa.ItG
