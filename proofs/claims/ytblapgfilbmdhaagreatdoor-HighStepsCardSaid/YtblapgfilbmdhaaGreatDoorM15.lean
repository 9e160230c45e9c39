/- What is asked by kind: Universal, Words and the rest, by contract. -/
import Derived.Test.YtblapgfilbmdhaaGreatDoorM14
import Derived.Deep.RegionHeld3
set_option linter.unusedVariables false
set_option linter.unusedSimpArgs false
namespace Go.Proofs.YtblapgfilbmdhaaGreatDoor.Qry6
open Go.RowKit Go.Sort Go.Proofs Plain SynP TabP Tab1 Grown SynA SynC QryP Qry4 Qry5 QryG
theorem srow_new (w : World) (T : List Str) (t : TypeId) : SRow (w.alloc (.cells (T.map encStr).toArray t)) (some ⟨w.heap.size, 0, none⟩) T := fun _ =>
  ⟨w.heap.size, 0, rfl, by simp, fun j hj => by
    rw [Lib.cell_of_heap (heap_alloc_new w _), Nat.zero_add]
    simp [hj]⟩
theorem others {k : Int} (h : k < 1 ∨ 6 < k) : (k == 1) = false ∧ (k == 2) = false ∧ (k == 3) = false ∧ (k == 4) = false ∧ (k == 5) = false ∧ (k == 6) = false := by
  refine ⟨?_, ?_, ?_, ?_, ?_, ?_⟩ <;> (simp; omega)
theorem hasB (k : Int) (w : World) : Calls Tryz.prog 209 #[.int .i64 k] w fun e w' => e = .returned (.bool (hasBk k)) ∧ ∃ n, w' = w.drewN n := by
  rcases kinds6 k with rfl | rfl | rfl | rfl | rfl | rfl | hk
  · go_enter Tryz.func209, Tryz.ntmps209
    go_wp2
    go_ret
    exact ⟨rfl, 0, rfl⟩
  · go_enter Tryz.func209, Tryz.ntmps209
    go_wp2
    go_ret
    exact ⟨rfl, 0, rfl⟩
  · go_enter Tryz.func209, Tryz.ntmps209
    go_wp2
    go_ret
    exact ⟨rfl, 0, rfl⟩
  · go_enter Tryz.func209, Tryz.ntmps209
    go_wp2
    go_ret
    exact ⟨rfl, 0, rfl⟩
  · go_enter Tryz.func209, Tryz.ntmps209
    go_wp2
    go_ret
    exact ⟨rfl, 0, rfl⟩
  · go_enter Tryz.func209, Tryz.ntmps209
    go_wp2
    go_ret
    exact ⟨rfl, 0, rfl⟩
  · have hf : hasBk k = false := by unfold hasBk; exact decide_eq_false (by omega)
    obtain ⟨e1, e2, e3, e4, e5, e6⟩ := others hk
    rw [hf]
    clear hf hk
    go_enter Tryz.func209, Tryz.ntmps209
    go_wp2
    go_ret
    exact ⟨rfl, 0, rfl⟩
end Go.Proofs.YtblapgfilbmdhaaGreatDoor.Qry6
namespace Go.Proofs.YtblapgfilbmdhaaGreatDoor.Qry7
open Go.RowKit Go.Sort Go.Proofs Plain SynP TabP Tab1 Grown SynA SynC QryP Qry4 Qry5 QryG Qry6
theorem own_more {w : World} {B B' : Nat} {e : TypeId} {size n : Nat} {v : Value} {xs : List Value} (h : w.ownsRow B e size v n xs) (hB : B' ≤ B) : w.ownsRow B' e size v n xs := by
  refine ⟨h.1, ?_⟩
  rcases h.2 with hn | ⟨g, cap, cur, rfl, hb, rest⟩
  · exact .inl hn
  · exact .inr ⟨g, cap, cur, rfl, by omega, rest⟩
end Go.Proofs.YtblapgfilbmdhaaGreatDoor.Qry7
