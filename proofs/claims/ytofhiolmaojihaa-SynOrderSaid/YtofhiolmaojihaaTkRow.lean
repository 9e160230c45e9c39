/- Two rows of the same tokens are alike. -/
import Derived.Test.YtofhiolmaojihaaScan3
namespace Go.Proofs.Ytofhiolmaojihaa.Scan5
open Go.RowKit Go.Proofs.Ytofhiolmaojihaa.Plain Go.Proofs.Ytofhiolmaojihaa.Leaf Go.Proofs.Ytofhiolmaojihaa.Scan1 Go.Proofs.Ytofhiolmaojihaa.Scan2 Go.Proofs.Ytofhiolmaojihaa.Scan3
/-- A slice value that reads as tokens. -/
def TkRow (w : World) (A : Option Addr) (L : List Tk) : Prop :=
  0 < L.length → ∃ g, A = some ⟨g, 0, none⟩ ∧ g < w.heap.size ∧ ∀ j, (h : j < L.length) → w.cell? ⟨g, j * 3, none⟩ = some (.int .i64 L[j].kind) ∧ w.cell? ⟨g, j * 3 + 1, none⟩ = some (.string L[j].text) ∧ w.cell? ⟨g, j * 3 + 2, none⟩ = some (.int .i64 L[j].col)
theorem tkCells_at (L : List Tk) (j : Nat) (h : j < L.length) : (tkCells L)[j * 3]? = some (.int .i64 L[j].kind) ∧ (tkCells L)[j * 3 + 1]? = some (.string L[j].text) ∧ (tkCells L)[j * 3 + 2]? = some (.int .i64 L[j].col) := by
  induction L generalizing j with
  | nil => simp at h
  | cons t L ih =>
    have e : tkCells (t :: L) = t.cells ++ tkCells L := by unfold tkCells; simp
    have hl : t.cells.length = 3 := rfl
    rw [e]
    cases j with
    | zero =>
      refine ⟨?_, ?_, ?_⟩ <;> rw [List.getElem?_append_left (by rw [hl]; omega)] <;> rfl
    | succ j =>
      obtain ⟨a, b, c⟩ := ih j (by simpa using h)
      refine ⟨?_, ?_, ?_⟩ <;> rw [List.getElem?_append_right (by rw [hl]; omega), hl]
      · rw [show (j + 1) * 3 - 3 = j * 3 from by omega]; exact a
      · rw [show (j + 1) * 3 + 1 - 3 = j * 3 + 1 from by omega]; exact b
      · rw [show (j + 1) * 3 + 2 - 3 = j * 3 + 2 from by omega]; exact c
theorem TkRow.of_own {w : World} {B : Nat} {e : TypeId} {v : Value} {L : List Tk} (h : w.ownsRow B e 3 v L.length (tkCells L)) : ∃ A cap, v = .slice A L.length cap ∧ L.length ≤ cap ∧ TkRow w A L := by
  rcases h.2 with ⟨rfl, h0⟩ | ⟨g, cap, cur, rfl, hB, hh, hc, hm, hs, ht⟩
  · exact ⟨none, 0, by rw [h0], by omega, fun hp => by omega⟩
  · refine ⟨_, _, rfl, hc, fun hp => ⟨g, rfl, ?_, fun j hj => ?_⟩⟩
    · exact (h.lt g rfl).2
    · obtain ⟨a, b, c⟩ := tkCells_at L j hj
      rw [← ht] at a b c
      rw [List.getElem?_take_of_lt (by omega)] at a b c
      refine ⟨?_, ?_, ?_⟩ <;> rw [Lib.cell_of_heap hh]
      · rw [← Array.getElem?_toList]; exact a
      · rw [← Array.getElem?_toList]; exact b
      · rw [← Array.getElem?_toList]; exact c
theorem TkRow.below {w w' : World} {A : Option Addr} {L : List Tk} (h : TkRow w A L) (hb : Below w.heap.size w w') : TkRow w' A L := fun hp => by
  obtain ⟨g, hA, hg, hc⟩ := h hp
  refine ⟨g, hA, Nat.lt_of_lt_of_le hg hb.size, fun j hj => ?_⟩
  obtain ⟨a, b, c⟩ := hc j hj
  exact ⟨(hb.cell (p := ⟨g, j * 3, none⟩) hg).trans a, (hb.cell (p := ⟨g, j * 3 + 1, none⟩) hg).trans b, (hb.cell (p := ⟨g, j * 3 + 2, none⟩) hg).trans c⟩
end Go.Proofs.Ytofhiolmaojihaa.Scan5
