/- Which rules may be: bare and Right, by contract. -/
import Derived.Test.YtblapgfilbmdhaaGreatDoorM23
import Derived.RegionTactic
import Derived.Deep.CutBlock
import Derived.Deep.RegionHeld
import Derived.Deep.LoopGhost
import Derived.Deep.RegionHeld3
import Derived.Test.YtblapgfilbmdhaaGreatDoorM24
import Derived.Test.YtblapgfilbmdhaaGreatDoorM10
import Derived.WalkKit
import Derived.Test.YtblapgfilbmdhaaGreatDoorProg
import Derived.Below
import Derived.Lib.Hide
import Derived.Outline
import Derived.Laws.Bits64b
import Derived.Deep.MidRow
import Derived.Laws.MakeOwn
import Derived.Deep.RegionWith
import Derived.Deep.QuietTactic
import Derived.BigQuiet
import Derived.ProofKit
import Derived.IntWalk
import Derived.WalkLawsBesides
import Derived.WalkSpells
import Derived.StillTailTactics
import Derived.Deep.WholeRow
set_option linter.unusedVariables false
set_option linter.unusedSimpArgs false
namespace Go.Proofs.YtblapgfilbmdhaaGreatDoor.TblP
open Go.RowKit Go.Lib Go.Proofs Plain TblB TblC TblF
instance (x y : Ru) : Decidable (x = y) := decidable_of_iff (x.kind = y.kind ∧ x.head = y.head ∧ x.who = y.who ∧ x.a = y.a ∧ x.b = y.b ∧ x.via = y.via) (by cases x; cases y; simp)
def bareK (u : Ru) : Bool := decide (u.kind = 1) || decide (u.kind = 2) || decide (u.kind = 3) || decide (u.kind = 4)
def bareU (u : Ru) : Ru := if u.kind = 1 then ⟨1, u.head, u.who, 0, 0, 0⟩ else if u.kind = 4 then ⟨4, u.head, 0, u.a, u.b, 0⟩ else if u.kind = 3 then ⟨3, u.head, 0, u.a, 0, u.via⟩ else if u.kind = 2 then ⟨2, u.head, 0, u.a, 0, 0⟩ else zeroU
def BarePost (u : Ru) (w : World) (e : Ending) (w' : World) : Prop := e = .returned (.tuple #[.agg (bareU u).cells, .bool (bareK u)]) ∧ RowKit.Below w.heap.size w w'
theorem three (w : World) (k h x a b v : Int) : RowKit.Below w.heap.size w (((w.alloc (.cells #[.int .i64 k, .int .i64 h, .int .i64 x, .int .i64 a, .int .i64 b, .int .i64 v] 150)).alloc (.cells #[.int .i64 0, .int .i64 0, .int .i64 0, .int .i64 0, .int .i64 0, .int .i64 0] 150)).alloc (.cells #[.int .i64 k, .int .i64 h, .int .i64 0, .int .i64 0, .int .i64 0, .int .i64 0] 150)) ∧
    (((w.alloc (.cells #[.int .i64 k, .int .i64 h, .int .i64 x, .int .i64 a, .int .i64 b, .int .i64 v] 150)).alloc (.cells #[.int .i64 0, .int .i64 0, .int .i64 0, .int .i64 0, .int .i64 0, .int .i64 0] 150)).alloc (.cells #[.int .i64 k, .int .i64 h, .int .i64 0, .int .i64 0, .int .i64 0, .int .i64 0] 150)).heap[w.heap.size]? = some (.cells #[.int .i64 k, .int .i64 h, .int .i64 x, .int .i64 a, .int .i64 b, .int .i64 v] 150 (0, 0)) ∧
    (((w.alloc (.cells #[.int .i64 k, .int .i64 h, .int .i64 x, .int .i64 a, .int .i64 b, .int .i64 v] 150)).alloc (.cells #[.int .i64 0, .int .i64 0, .int .i64 0, .int .i64 0, .int .i64 0, .int .i64 0] 150)).alloc (.cells #[.int .i64 k, .int .i64 h, .int .i64 0, .int .i64 0, .int .i64 0, .int .i64 0] 150)).heap[w.heap.size + 1]? = some (.cells zeroU.cells 150 (0, 0)) ∧
    RuAt (((w.alloc (.cells #[.int .i64 k, .int .i64 h, .int .i64 x, .int .i64 a, .int .i64 b, .int .i64 v] 150)).alloc (.cells #[.int .i64 0, .int .i64 0, .int .i64 0, .int .i64 0, .int .i64 0, .int .i64 0] 150)).alloc (.cells #[.int .i64 k, .int .i64 h, .int .i64 0, .int .i64 0, .int .i64 0, .int .i64 0] 150)) (w.heap.size + 2) ⟨k, h, 0, 0, 0, 0⟩ := by
  refine ⟨(((Below.refl w.heap.size w).alloc (Nat.le_refl _) _).alloc (by simp) _).alloc (by simp <;> omega) _, (Below.heap_alloc _ _ _ (by simp <;> omega)).trans (heap_alloc2_old w _ _), (Below.heap_alloc _ _ _ (by simp)).trans (heap_alloc2_new w _ _), ?_⟩
  have e := heap_alloc_new ((w.alloc (.cells #[.int .i64 k, .int .i64 h, .int .i64 x, .int .i64 a, .int .i64 b, .int .i64 v] 150)).alloc (.cells #[.int .i64 0, .int .i64 0, .int .i64 0, .int .i64 0, .int .i64 0, .int .i64 0] 150)) (.cells #[.int .i64 k, .int .i64 h, .int .i64 0, .int .i64 0, .int .i64 0, .int .i64 0] 150)
  have hz : ((w.alloc (.cells #[.int .i64 k, .int .i64 h, .int .i64 x, .int .i64 a, .int .i64 b, .int .i64 v] 150)).alloc (.cells #[.int .i64 0, .int .i64 0, .int .i64 0, .int .i64 0, .int .i64 0, .int .i64 0] 150)).heap.size = w.heap.size + 2 := by simp
  rw [hz] at e
  exact e
set_option maxHeartbeats 1000000 in
set_option maxRecDepth 100000 in
theorem bare1 (h x a b v : Int) (w : World) : Calls Tryz.prog 223 #[.agg #[.int .i64 1, .int .i64 h, .int .i64 x, .int .i64 a, .int .i64 b, .int .i64 v]] w fun e w' => e = .returned (.tuple #[.agg (⟨1, h, x, 0, 0, 0⟩ : Ru).cells, .bool true]) ∧ RowKit.Below w.heap.size w w' := by
  obtain ⟨k1, k2, k3, k4⟩ := three w 1 h x a b v
  have H1 := Lib.hid k1
  have H2 := Lib.hid k2
  have H3 := Lib.hid k3
  have H4 := Lib.hid k4
  clear k1 k2 k3 k4
  go_enter Tryz.func223, Tryz.ntmps223
  go_upto_region 2 with fail
  generalize ((w.alloc (.cells #[.int .i64 1, .int .i64 h, .int .i64 x, .int .i64 a, .int .i64 b, .int .i64 v] 150)).alloc (.cells #[.int .i64 0, .int .i64 0, .int .i64 0, .int .i64 0, .int .i64 0, .int .i64 0] 150)).alloc (.cells #[.int .i64 1, .int .i64 h, .int .i64 0, .int .i64 0, .int .i64 0, .int .i64 0] 150) = w3 at *
  have c := fun o => Lib.cell_of_heap H2.out o
  have r := fun o => RuAt.cell H4.out o
  simp only [Ru.cells] at r
  have f := fun o => RuAt.free H4.out o
  have HP : Hid (RuAt (w3.setCell ⟨w.heap.size + 2, 2, none⟩ (.int .i64 x)) (w.heap.size + 2) ⟨1, h, x, 0, 0, 0⟩) := Lib.hid (RuAt.put H4.out 2 (by omega) (by omega) x)
  have HO : Hid ((w3.setCell ⟨w.heap.size + 2, 2, none⟩ (.int .i64 x)).heap[w.heap.size + 1]? = some (.cells zeroU.cells 150 (0, 0))) := Lib.hid ((Below.heap_setCell _ _ _ _ (by show w.heap.size + 1 ≠ w.heap.size + 2; omega)).trans H3.out)
  have HB : Hid (RowKit.Below w.heap.size w (w3.setCell ⟨w.heap.size + 2, 2, none⟩ (.int .i64 x))) := Lib.hid (H1.out.setCell (by show w.heap.size ≤ w.heap.size + 2; omega) _)
  clear H1 H2 H3 H4
  go_wp2_with (first | (refine wpList_load_row rfl 150 _ rfl (w.heap.size + 2) rfl 150 (⟨1, h, x, 0, 0, 0⟩ : Ru).cells (0, 0) _ HP.out Tryz.underlying150 rfl infoRule ?_) | (refine wpList_store_row rfl 150 _ _ rfl (w.heap.size + 1) (⟨1, h, x, 0, 0, 0⟩ : Ru).cells rfl rfl 150 _ HO.out infoRule rfl (one6 _) ?_))
  have hl := cell_rule (u := ⟨1, h, x, 0, 0, 0⟩) HO.out
  have hz := below_setRow HB.out (show w.heap.size ≤ w.heap.size + 1 by omega) (⟨1, h, x, 0, 0, 0⟩ : Ru).cells
  generalize World.setRow _ (w.heap.size + 1) (⟨1, h, x, 0, 0, 0⟩ : Ru).cells = wz at hl hz ⊢
  refine bodyPost_ret (v := .tuple #[.agg (⟨1, h, x, 0, 0, 0⟩ : Ru).cells, .bool true]) (by simp [results, Tryz.results223, go_sem, hl, Ru.cells]) rfl ⟨rfl, hz⟩
set_option maxHeartbeats 1000000 in
set_option maxRecDepth 100000 in
theorem bare4 (h x a b v : Int) (w : World) : Calls Tryz.prog 223 #[.agg #[.int .i64 4, .int .i64 h, .int .i64 x, .int .i64 a, .int .i64 b, .int .i64 v]] w fun e w' => e = .returned (.tuple #[.agg (⟨4, h, 0, a, b, 0⟩ : Ru).cells, .bool true]) ∧ RowKit.Below w.heap.size w w' := by
  obtain ⟨k1, k2, k3, k4⟩ := three w 4 h x a b v
  have H1 := Lib.hid k1
  have H2 := Lib.hid k2
  have H3 := Lib.hid k3
  have H4 := Lib.hid k4
  clear k1 k2 k3 k4
  go_enter Tryz.func223, Tryz.ntmps223
  go_upto_region 2 with fail
  generalize ((w.alloc (.cells #[.int .i64 4, .int .i64 h, .int .i64 x, .int .i64 a, .int .i64 b, .int .i64 v] 150)).alloc (.cells #[.int .i64 0, .int .i64 0, .int .i64 0, .int .i64 0, .int .i64 0, .int .i64 0] 150)).alloc (.cells #[.int .i64 4, .int .i64 h, .int .i64 0, .int .i64 0, .int .i64 0, .int .i64 0] 150) = w3 at *
  have c := fun o => Lib.cell_of_heap H2.out o
  have r := fun o => RuAt.cell H4.out o
  simp only [Ru.cells] at r
  have f := fun o => RuAt.free H4.out o
  go_wp2_with fail
  go_region
  have HP : Hid (RuAt (((w3.setCell ⟨w.heap.size + 1 + 1, 3, none⟩ (.int .i64 a)).setCell ⟨w.heap.size + 1 + 1, 4, none⟩ (.int .i64 b)).drew) (w.heap.size + 1 + 1) ⟨4, h, 0, a, b, 0⟩) := Lib.hid (RuAt.put (RuAt.put H4.out 3 (by omega) (by omega) a) 4 (by omega) (by omega) b)
  have HO : Hid ((((w3.setCell ⟨w.heap.size + 1 + 1, 3, none⟩ (.int .i64 a)).setCell ⟨w.heap.size + 1 + 1, 4, none⟩ (.int .i64 b)).drew).heap[w.heap.size + 1]? = some (.cells zeroU.cells 150 (0, 0))) := Lib.hid ((Below.heap_setCell _ _ _ _ (by show w.heap.size + 1 ≠ w.heap.size + 2; omega)).trans ((Below.heap_setCell _ _ _ _ (by show w.heap.size + 1 ≠ w.heap.size + 2; omega)).trans H3.out))
  have HB : Hid (RowKit.Below w.heap.size w (((w3.setCell ⟨w.heap.size + 1 + 1, 3, none⟩ (.int .i64 a)).setCell ⟨w.heap.size + 1 + 1, 4, none⟩ (.int .i64 b)).drew)) := Lib.hid (((H1.out.setCell (by show w.heap.size ≤ w.heap.size + 2; omega) _).setCell (by show w.heap.size ≤ w.heap.size + 2; omega) _).drew)
  clear H1 H2 H3 H4
  go_wp2_with (first | (refine wpList_load_row rfl 150 _ rfl (w.heap.size + 1 + 1) rfl 150 (⟨4, h, 0, a, b, 0⟩ : Ru).cells (0, 0) _ HP.out Tryz.underlying150 rfl infoRule ?_) | (refine wpList_store_row rfl 150 _ _ rfl (w.heap.size + 1) (⟨4, h, 0, a, b, 0⟩ : Ru).cells rfl rfl 150 _ HO.out infoRule rfl (one6 _) ?_))
  have hl := cell_rule (u := ⟨4, h, 0, a, b, 0⟩) HO.out
  have hz := below_setRow HB.out (show w.heap.size ≤ w.heap.size + 1 by omega) (⟨4, h, 0, a, b, 0⟩ : Ru).cells
  generalize World.setRow _ (w.heap.size + 1) (⟨4, h, 0, a, b, 0⟩ : Ru).cells = wz at hl hz ⊢
  refine bodyPost_ret (v := .tuple #[.agg (⟨4, h, 0, a, b, 0⟩ : Ru).cells, .bool true]) (by simp [results, Tryz.results223, go_sem, hl, Ru.cells]) rfl ⟨rfl, hz⟩
set_option maxHeartbeats 1000000 in
set_option maxRecDepth 100000 in
theorem bare3 (h x a b v : Int) (w : World) : Calls Tryz.prog 223 #[.agg #[.int .i64 3, .int .i64 h, .int .i64 x, .int .i64 a, .int .i64 b, .int .i64 v]] w fun e w' => e = .returned (.tuple #[.agg (⟨3, h, 0, a, 0, v⟩ : Ru).cells, .bool true]) ∧ RowKit.Below w.heap.size w w' := by
  obtain ⟨k1, k2, k3, k4⟩ := three w 3 h x a b v
  have H1 := Lib.hid k1
  have H2 := Lib.hid k2
  have H3 := Lib.hid k3
  have H4 := Lib.hid k4
  clear k1 k2 k3 k4
  go_enter Tryz.func223, Tryz.ntmps223
  go_upto_region 2 with fail
  generalize ((w.alloc (.cells #[.int .i64 3, .int .i64 h, .int .i64 x, .int .i64 a, .int .i64 b, .int .i64 v] 150)).alloc (.cells #[.int .i64 0, .int .i64 0, .int .i64 0, .int .i64 0, .int .i64 0, .int .i64 0] 150)).alloc (.cells #[.int .i64 3, .int .i64 h, .int .i64 0, .int .i64 0, .int .i64 0, .int .i64 0] 150) = w3 at *
  have c := fun o => Lib.cell_of_heap H2.out o
  have r := fun o => RuAt.cell H4.out o
  simp only [Ru.cells] at r
  have f := fun o => RuAt.free H4.out o
  have HP : Hid (RuAt ((w3.setCell ⟨w.heap.size + 2, 5, none⟩ (.int .i64 v)).setCell ⟨w.heap.size + 2, 3, none⟩ (.int .i64 a)) (w.heap.size + 2) ⟨3, h, 0, a, 0, v⟩) := Lib.hid (RuAt.put (RuAt.put H4.out 5 (by omega) (by omega) v) 3 (by omega) (by omega) a)
  have HO : Hid (((w3.setCell ⟨w.heap.size + 2, 5, none⟩ (.int .i64 v)).setCell ⟨w.heap.size + 2, 3, none⟩ (.int .i64 a)).heap[w.heap.size + 1]? = some (.cells zeroU.cells 150 (0, 0))) := Lib.hid ((Below.heap_setCell _ _ _ _ (by show w.heap.size + 1 ≠ w.heap.size + 2; omega)).trans ((Below.heap_setCell _ _ _ _ (by show w.heap.size + 1 ≠ w.heap.size + 2; omega)).trans H3.out))
  have HB : Hid (RowKit.Below w.heap.size w ((w3.setCell ⟨w.heap.size + 2, 5, none⟩ (.int .i64 v)).setCell ⟨w.heap.size + 2, 3, none⟩ (.int .i64 a))) := Lib.hid ((H1.out.setCell (by show w.heap.size ≤ w.heap.size + 2; omega) _).setCell (by show w.heap.size ≤ w.heap.size + 2; omega) _)
  clear H1 H2 H3 H4
  go_wp2_with (first | (refine wpList_load_row rfl 150 _ rfl (w.heap.size + 2) rfl 150 (⟨3, h, 0, a, 0, v⟩ : Ru).cells (0, 0) _ HP.out Tryz.underlying150 rfl infoRule ?_) | (refine wpList_store_row rfl 150 _ _ rfl (w.heap.size + 1) (⟨3, h, 0, a, 0, v⟩ : Ru).cells rfl rfl 150 _ HO.out infoRule rfl (one6 _) ?_))
  have hl := cell_rule (u := ⟨3, h, 0, a, 0, v⟩) HO.out
  have hz := below_setRow HB.out (show w.heap.size ≤ w.heap.size + 1 by omega) (⟨3, h, 0, a, 0, v⟩ : Ru).cells
  generalize World.setRow _ (w.heap.size + 1) (⟨3, h, 0, a, 0, v⟩ : Ru).cells = wz at hl hz ⊢
  refine bodyPost_ret (v := .tuple #[.agg (⟨3, h, 0, a, 0, v⟩ : Ru).cells, .bool true]) (by simp [results, Tryz.results223, go_sem, hl, Ru.cells]) rfl ⟨rfl, hz⟩
set_option maxHeartbeats 1000000 in
set_option maxRecDepth 100000 in
theorem bare2 (h x a b v : Int) (w : World) : Calls Tryz.prog 223 #[.agg #[.int .i64 2, .int .i64 h, .int .i64 x, .int .i64 a, .int .i64 b, .int .i64 v]] w fun e w' => e = .returned (.tuple #[.agg (⟨2, h, 0, a, 0, 0⟩ : Ru).cells, .bool true]) ∧ RowKit.Below w.heap.size w w' := by
  obtain ⟨k1, k2, k3, k4⟩ := three w 2 h x a b v
  have H1 := Lib.hid k1
  have H2 := Lib.hid k2
  have H3 := Lib.hid k3
  have H4 := Lib.hid k4
  clear k1 k2 k3 k4
  go_enter Tryz.func223, Tryz.ntmps223
  go_upto_region 2 with fail
  generalize ((w.alloc (.cells #[.int .i64 2, .int .i64 h, .int .i64 x, .int .i64 a, .int .i64 b, .int .i64 v] 150)).alloc (.cells #[.int .i64 0, .int .i64 0, .int .i64 0, .int .i64 0, .int .i64 0, .int .i64 0] 150)).alloc (.cells #[.int .i64 2, .int .i64 h, .int .i64 0, .int .i64 0, .int .i64 0, .int .i64 0] 150) = w3 at *
  have c := fun o => Lib.cell_of_heap H2.out o
  have r := fun o => RuAt.cell H4.out o
  simp only [Ru.cells] at r
  have f := fun o => RuAt.free H4.out o
  have HP : Hid (RuAt (w3.setCell ⟨w.heap.size + 2, 3, none⟩ (.int .i64 a)) (w.heap.size + 2) ⟨2, h, 0, a, 0, 0⟩) := Lib.hid (RuAt.put H4.out 3 (by omega) (by omega) a)
  have HO : Hid ((w3.setCell ⟨w.heap.size + 2, 3, none⟩ (.int .i64 a)).heap[w.heap.size + 1]? = some (.cells zeroU.cells 150 (0, 0))) := Lib.hid ((Below.heap_setCell _ _ _ _ (by show w.heap.size + 1 ≠ w.heap.size + 2; omega)).trans H3.out)
  have HB : Hid (RowKit.Below w.heap.size w (w3.setCell ⟨w.heap.size + 2, 3, none⟩ (.int .i64 a))) := Lib.hid (H1.out.setCell (by show w.heap.size ≤ w.heap.size + 2; omega) _)
  clear H1 H2 H3 H4
  go_wp2_with (first | (refine wpList_load_row rfl 150 _ rfl (w.heap.size + 2) rfl 150 (⟨2, h, 0, a, 0, 0⟩ : Ru).cells (0, 0) _ HP.out Tryz.underlying150 rfl infoRule ?_) | (refine wpList_store_row rfl 150 _ _ rfl (w.heap.size + 1) (⟨2, h, 0, a, 0, 0⟩ : Ru).cells rfl rfl 150 _ HO.out infoRule rfl (one6 _) ?_))
  have hl := cell_rule (u := ⟨2, h, 0, a, 0, 0⟩) HO.out
  have hz := below_setRow HB.out (show w.heap.size ≤ w.heap.size + 1 by omega) (⟨2, h, 0, a, 0, 0⟩ : Ru).cells
  generalize World.setRow _ (w.heap.size + 1) (⟨2, h, 0, a, 0, 0⟩ : Ru).cells = wz at hl hz ⊢
  refine bodyPost_ret (v := .tuple #[.agg (⟨2, h, 0, a, 0, 0⟩ : Ru).cells, .bool true]) (by simp [results, Tryz.results223, go_sem, hl, Ru.cells]) rfl ⟨rfl, hz⟩
set_option maxRecDepth 100000 in
theorem bare0 (k h x a b v : Int) (h1 : k ≠ 1) (h2 : k ≠ 2) (h3 : k ≠ 3) (h4 : k ≠ 4) (w : World) : Calls Tryz.prog 223 #[.agg #[.int .i64 k, .int .i64 h, .int .i64 x, .int .i64 a, .int .i64 b, .int .i64 v]] w fun e w' => e = .returned (.tuple #[.agg zeroU.cells, .bool false]) ∧ RowKit.Below w.heap.size w w' := by
  obtain ⟨k1, k2, k3, k4⟩ := three w k h x a b v
  have H1 := Lib.hid k1
  have H2 := Lib.hid k2
  have H3 := Lib.hid k3
  clear k1 k2 k3 k4
  have e1 : (k == 1) = false := by simp [h1]
  have e2 : (k == 2) = false := by simp [h2]
  have e3 : (k == 3) = false := by simp [h3]
  have e4 : (k == 4) = false := by simp [h4]
  clear h1 h2 h3 h4
  go_enter Tryz.func223, Tryz.ntmps223
  go_upto_region 2 with fail
  generalize ((w.alloc (.cells #[.int .i64 k, .int .i64 h, .int .i64 x, .int .i64 a, .int .i64 b, .int .i64 v] 150)).alloc (.cells #[.int .i64 0, .int .i64 0, .int .i64 0, .int .i64 0, .int .i64 0, .int .i64 0] 150)).alloc (.cells #[.int .i64 k, .int .i64 h, .int .i64 0, .int .i64 0, .int .i64 0, .int .i64 0] 150) = w3 at *
  have c := fun o => Lib.cell_of_heap H2.out o
  go_wp2_with (refine wpList_store_row rfl 150 _ _ rfl (w.heap.size + 1) zeroU.cells rfl rfl 150 _ H3.out infoRule rfl (one6 _) ?_)
  have hl := cell_rule (u := zeroU) H3.out
  have hz := below_setRow H1.out (show w.heap.size ≤ w.heap.size + 1 by omega) zeroU.cells
  generalize World.setRow _ (w.heap.size + 1) zeroU.cells = wz at hl hz ⊢
  refine bodyPost_ret (v := .tuple #[.agg zeroU.cells, .bool false]) (by simp [results, Tryz.results223, go_sem, hl, Ru.cells]) rfl ⟨rfl, hz⟩
theorem bare_ (u : Ru) (w : World) : Calls Tryz.prog 223 #[u.val] w (BarePost u w) := by
  obtain ⟨k, h, x, a, b, v⟩ := u
  unfold BarePost bareU bareK Ru.val
  simp only
  by_cases h1 : k = 1
  · subst h1; exact bare1 h x a b v w
  · by_cases h4 : k = 4
    · subst h4; exact bare4 h x a b v w
    · by_cases h3 : k = 3
      · subst h3; exact bare3 h x a b v w
      · by_cases h2 : k = 2
        · subst h2; exact bare2 h x a b v w
        · simp only [h1, h2, h3, h4, if_false, decide_false, Bool.false_or]
          exact bare0 k h x a b v h1 h2 h3 h4 w
theorem neG (k h x a b v k2 h2 x2 a2 b2 v2 : Int) (w : World) : (binOp .neq 150 (.agg #[.int .i64 k, .int .i64 h, .int .i64 x, .int .i64 a, .int .i64 b, .int .i64 v]) (.agg #[.int .i64 k2, .int .i64 h2, .int .i64 x2, .int .i64 a2, .int .i64 b2, .int .i64 v2])).run Tryz.prog w = .ok (.bool (!decide ((⟨k, h, x, a, b, v⟩ : Ru) = ⟨k2, h2, x2, a2, b2, v2⟩))) w := by
  simp only [go_sem, Ru.mk.injEq]
  go_simp
  by_cases e0 : k = k2
  rotate_left
  · simp [e0]
  subst e0
  by_cases e1 : h = h2
  rotate_left
  · simp [e1]
  subst e1
  by_cases e2 : x = x2
  rotate_left
  · simp [e2]
  subst e2
  by_cases e3 : a = a2
  rotate_left
  · simp [e3]
  subst e3
  by_cases e4 : b = b2
  rotate_left
  · simp [e4]
  subst e4
  by_cases e5 : v = v2
  rotate_left
  · simp [e5]
  subst e5
  simp
end Go.Proofs.YtblapgfilbmdhaaGreatDoor.TblP
namespace Go.Proofs.YtblapgfilbmdhaaGreatDoor.TblQ
open Go.RowKit Go.Lib Go.Proofs Plain TblB TblC TblP TblF
def rightU (n1 n2 : Nat) (u : Ru) : Bool := bareK u && (decide (bareU u = u) && (allB ((n1 * n2 : Nat) : Int) [u.head, u.a, u.b] && (allB n1 [u.who] && allB n2 [u.via])))
theorem nx {W w1 w2 : World} (h : RowKit.Below W.heap.size W w1) (hb : RowKit.Below w1.heap.size w1 w2) : RowKit.Below W.heap.size W w2 := h.trans (hb.mono h.size)
theorem belowL (w : World) (zs : List Int) (n : Int) (hT : zs.length ≤ 10000) : Calls Tryz.prog 224 #[.int .i64 n, .slice (some ⟨w.heap.size, 0, none⟩) zs.length zs.length] (w.alloc (.cells (zs.map fun z => Value.int .i64 z).toArray 3)) fun e w' => e = .returned (.bool (allB n zs)) ∧ RowKit.Below w.heap.size w w' := by
  refine (below (some ⟨w.heap.size, 0, none⟩) zs.length zs n (w.alloc (.cells (zs.map fun z => Value.int .i64 z).toArray 3)) hT (IG.lit _ w.heap.size zs 3 (heap_alloc_new w _))).mono ?_
  rintro e w' ⟨rfl, hb⟩
  exact ⟨rfl, nx ((Below.refl _ w).alloc (Nat.le_refl _) _) hb⟩
set_option maxHeartbeats 1000000 in
set_option maxRecDepth 100000 in
theorem right_ (n1 n2 : Nat) (u : Ru) (w : World) (g1 : n1 ≤ 1000) (g2 : n2 ≤ 1000) : Calls Tryz.prog 176 #[.int .i64 n1, .int .i64 n2, u.val] w fun e w' => e = .returned (.bool (rightU n1 n2 u)) ∧ RowKit.Below w.heap.size w w' := by
  have HB := Lib.hid (fun w' => bare_ u w')
  unfold BarePost at HB
  unfold rightU
  obtain ⟨k, h, x, a, b, v⟩ := u
  have hU : ∃ u2, bareU ⟨k, h, x, a, b, v⟩ = u2 := ⟨_, rfl⟩
  obtain ⟨⟨k', h', x', a', b', v'⟩, hU⟩ := hU
  rw [hU] at HB ⊢
  have hne := neG k' h' x' a' b' v' k h x a b v
  generalize bareK _ = bk at *
  generalize decide ((⟨k', h', x', a', b', v'⟩ : Ru) = ⟨k, h, x, a, b, v⟩) = dd at *
  unfold Ru.val at *
  simp only [Ru.cells] at HB ⊢
  have hb0 : allB 1001 [(n1 : Int), (n2 : Int)] = true := by simp [allB, inB]; omega
  have HL0 := Lib.hid (fun w' => belowL w' [(n1 : Int), (n2 : Int)] 1001 (by simp))
  have HL1 := Lib.hid (fun w' => belowL w' [h, a, b] ((n1 * n2 : Nat) : Int) (by simp))
  have HL2 := Lib.hid (fun w' => belowL w' [x] (n1 : Int) (by simp))
  have HL3 := Lib.hid (fun w' => belowL w' [v] (n2 : Int) (by simp))
  rw [hb0] at HL0
  have hq : n1 * n2 ≤ 1000000 := Nat.mul_le_mul g1 g2
  have hmul : IntKind.i64.wrap ((n1 : Int) * (n2 : Int)) = ((n1 * n2 : Nat) : Int) := by
    rw [← Int.natCast_mul, IntKind.wrap_i64]; omega
  generalize allB _ [h, a, b] = b1 at *
  generalize allB _ [x] = b2 at *
  generalize allB _ [v] = b3 at *
  generalize n1 * n2 = q at *
  simp only [List.length_cons, List.length_nil, Nat.zero_add, Nat.reduceAdd, List.map_cons, List.map_nil] at HL0 HL1 HL2 HL3
  clear hU hb0 hq g1 g2
  go_enter Tryz.func176, Tryz.ntmps176
  go_wp2_with fail
  refine (HB.out _).mono ?_
  rintro e w1 ⟨rfl, hb⟩
  have hx1 : w1.heap[w.heap.size]? = some (.cells #[.int .i64 k, .int .i64 h, .int .i64 x, .int .i64 a, .int .i64 b, .int .i64 v] 150 (0, 0)) := (hb.block _ (by simp)).trans (heap_alloc_new w _)
  have hlt1 : w.heap.size < w1.heap.size := (Array.getElem?_eq_some_iff.1 hx1).1
  have hz1 : RowKit.Below w1.heap.size w1 (w1.alloc (.cells #[.int .i64 k', .int .i64 h', .int .i64 x', .int .i64 a', .int .i64 b', .int .i64 v'] 150)) := (Below.refl _ _).alloc (Nat.le_refl _) _
  have HX2 := Lib.hid ((hz1.block w.heap.size hlt1).trans hx1)
  have HY2 := Lib.hid (heap_alloc_new w1 (.cells #[.int .i64 k', .int .i64 h', .int .i64 x', .int .i64 a', .int .i64 b', .int .i64 v'] 150))
  have HB2 := Lib.hid (nx (nx ((Below.refl w.heap.size w).alloc (Nat.le_refl _) (.cells #[.int .i64 k, .int .i64 h, .int .i64 x, .int .i64 a, .int .i64 b, .int .i64 v] 150)) hb) hz1)
  clear hx1 hz1 hb HB
  go_upto_region 2 with fail
  generalize w1.alloc (.cells #[.int .i64 k', .int .i64 h', .int .i64 x', .int .i64 a', .int .i64 b', .int .i64 v'] 150) = w2 at *
  have c2 := fun o => Lib.cell_of_heap HX2.out o
  have d2 := fun o => Lib.cell_of_heap HY2.out o
  cases bk
  · clear HL0 HL1 HL2 HL3 c2 d2
    go_wp2_with fail
    go_ret
    exact ⟨rfl, HB2.out⟩
  cases dd
  · go_wp2_with fail
    go_ret
    exact ⟨rfl, HB2.out⟩
  go_wp2_with fail
  refine (HL0.out w2).mono ?_
  rintro e w3 ⟨rfl, hb⟩
  have HB3 := Lib.hid (nx HB2.out hb)
  have HX3 := Lib.hid ((hb.block w.heap.size (Array.getElem?_eq_some_iff.1 HX2.out).1).trans HX2.out)
  have c3 := fun o => Lib.cell_of_heap HX3.out o
  clear hb HB2 HX2 HY2 c2 d2 HL0 hne
  go_wp2_with fail
  refine (HL1.out w3).mono ?_
  rintro e w4 ⟨rfl, hb⟩
  have HB4 := Lib.hid (nx HB3.out hb)
  have HX4 := Lib.hid ((hb.block w.heap.size (Array.getElem?_eq_some_iff.1 HX3.out).1).trans HX3.out)
  have c4 := fun o => Lib.cell_of_heap HX4.out o
  clear hb HB3 HX3 c3 HL1
  cases b1
  · go_wp2_with fail
    go_ret
    exact ⟨rfl, HB4.out⟩
  go_wp2_with fail
  refine (HL2.out w4).mono ?_
  rintro e w5 ⟨rfl, hb⟩
  have HB5 := Lib.hid (nx HB4.out hb)
  have HX5 := Lib.hid ((hb.block w.heap.size (Array.getElem?_eq_some_iff.1 HX4.out).1).trans HX4.out)
  have c5 := fun o => Lib.cell_of_heap HX5.out o
  clear hb HB4 HX4 c4 HL2
  cases b2
  · go_wp2_with fail
    go_ret
    exact ⟨rfl, HB5.out⟩
  go_wp2_with fail
  refine (HL3.out w5).mono ?_
  rintro e w6 ⟨rfl, hb⟩
  have HB6 := Lib.hid (nx HB5.out hb)
  clear hb HB5 HX5 c5 HL3
  go_wp2_with fail
  go_ret
  exact ⟨rfl, HB6.out⟩
end Go.Proofs.YtblapgfilbmdhaaGreatDoor.TblQ


namespace Go.Proofs.YtblapgfilbmdhaaGreatDoor.TblR
open Go.RowKit Go.Sort Go.Lib Go.Proofs Plain SynP SynE Grown TabP Tab1 Tab2 RolK TblA TblB TblC TblF TblI TblP TblQ
def txt (l : Str) : ByteArray := ⟨l.toArray⟩
def rolI (P L : List Str) (i : Int) : Rl := if 0 ≤ i ∧ i < ((P.length * L.length : Nat) : Int) then ⟨txt (P.getD (i.toNat / L.length) []), txt (L.getD (i.toNat % L.length) [])⟩ else zeroR
def stU (P L : List Str) (u : Ru) : St := ⟨u.kind, rolI P L u.head, if u.kind = 1 then txt (P.getD u.who.toNat []) else noText, if u.kind = 1 then zeroR else rolI P L u.a, if u.kind = 4 then rolI P L u.b else zeroR, if u.kind = 3 then txt (L.getD u.via.toNat []) else noText⟩
def stA (P L : List Str) (u : Ru) : St := if rightU P.length L.length u then (stU P L u).normal else zeroS
section
variable {w : World} {t a b : Nat} {A1 : Option Addr} {c1 : Nat} {A2 : Option Addr} {c2 : Nat} {P L : List Str}
end
def St.arr (s : St) : Array Value := #[.int .i64 s.kind, .string s.head.owner, .string s.head.name, .string s.who, .string s.a.owner, .string s.a.name, .string s.b.owner, .string s.b.name, .string s.via]
structure Mid (w wx : World) (N : Nat) (u : Ru) (s : St) : Prop where
  below : RowKit.Below w.heap.size w wx
  box : wx.heap[w.heap.size]? = some (.cells u.cells 150 (0, 0))
  out : wx.heap[w.heap.size + 1]? = some (.cells (St.arr zeroS) 67 (0, 0))
  at_ : wx.heap[N]? = some (.cells (St.arr s) 67 (0, 0))
  far : w.heap.size + 2 ≤ N
theorem Mid.keep {w wx w' : World} {N : Nat} {u : Ru} {s : St} (h : Mid w wx N u s) (hb : RowKit.Below wx.heap.size wx w') : Mid w w' N u s :=
  ⟨nx h.below hb, (hb.block _ (Array.getElem?_eq_some_iff.1 h.box).1).trans h.box, (hb.block _ (Array.getElem?_eq_some_iff.1 h.out).1).trans h.out, (hb.block _ (Array.getElem?_eq_some_iff.1 h.at_).1).trans h.at_, h.far⟩
theorem Mid.set {w wx : World} {N : Nat} {u : Ru} {s : St} (h : Mid w wx N u s) (o : Nat) (v : Value) (s2 : St) (hs : (St.arr s).setIfInBounds o v = St.arr s2) : Mid w (wx.setCell ⟨N, o, none⟩ v) N u s2 := by
  have hf := h.far
  refine ⟨h.below.setCell (by show w.heap.size ≤ N; omega) _, (Below.heap_setCell _ _ _ _ (by show w.heap.size ≠ N; omega)).trans h.box, (Below.heap_setCell _ _ _ _ (by show w.heap.size + 1 ≠ N; omega)).trans h.out, ?_, h.far⟩
  rw [heap_setCell_same _ _ _ _ _ _ h.at_, hs]
theorem Mid.cat {w wx : World} {N : Nat} {u : Ru} {s : St} (h : Mid w wx N u s) : ∀ o, wx.cell? ⟨N, o, none⟩ = (#[.int .i64 s.kind, .string s.head.owner, .string s.head.name, .string s.who, .string s.a.owner, .string s.a.name, .string s.b.owner, .string s.b.name, .string s.via] : Array Value)[o]? := fun o => Lib.cell_of_heap h.at_ o
theorem Mid.free {w wx : World} {N : Nat} {u : Ru} {s : St} (h : Mid w wx N u s) : ∀ o, wx.frozen? ⟨N, o, none⟩ = false := fun o => frozen_of_row _ _ _ _ _ h.at_
section
variable {t a b : Nat} {A1 : Option Addr} {c1 : Nat} {A2 : Option Addr} {c2 : Nat} {P L : List Str}
end
end Go.Proofs.YtblapgfilbmdhaaGreatDoor.TblR
namespace Go.Proofs.YtblapgfilbmdhaaGreatDoor.SetPop
def pop (x : Nat) : Nat := (List.range 64).countP (fun i => x.testBit i)
def small (l : List Nat) : Prop := ∀ b ∈ l, b < 256
def t (b : Nat) : Nat := ((b / 4) &&& 0x33) + (b &&& 0x33)
end Go.Proofs.YtblapgfilbmdhaaGreatDoor.SetPop
namespace Go.Proofs.YtblapgfilbmdhaaGreatDoor.SetA
open Go.RowKit Go.Lib Go.Proofs SetPop
theorem ret_int {k : IntKind} {a b : Int} (h : a = b) : Ending.returned (.int k a) = .returned (.int k b) := by rw [h]
def within (n : Int) (most : Int) : Int := max 0 (min n most)
set_option maxRecDepth 100000 in
theorem within_ (n most : Int) (w : World) : Calls Tryz.prog 172 #[.int .i64 n, .int .i64 most] w fun e w' => e = .returned (.int .i64 (within n most)) ∧ w = w' := by
  go_enter Tryz.func172, Tryz.ntmps172
  go_wp2
  all_goals first
    | (rename_i hh
       go_ret
       refine ⟨ret_int ?_, rfl⟩
       unfold within
       split at hh <;> omega)
    | (go_ret
       exact ⟨ret_int (by unfold within; omega), rfl⟩)
    | (go_ret
       exact ⟨rfl, rfl⟩)
theorem wrap_u64 {x : Int} (h0 : 0 ≤ x) (h : x < 18446744073709551616) : IntKind.u64.wrap x = x := by rw [IntKind.wrap_u64]; omega
theorem wrap_n (x : Nat) (h : x < 18446744073709551616) : IntKind.u64.wrap (x : Int) = x := wrap_u64 (by omega) (by omega)
theorem ret_u64 {a b : Int} (h : a = b) : Ending.returned (.int .u64 a) = .returned (.int .u64 b) := by rw [h]
theorem pow_lt (k : Nat) (h : k < 64) : 2 ^ k < 18446744073709551616 := by
  have := Nat.pow_lt_pow_right (a := 2) (by omega) h
  simpa using this
set_option maxRecDepth 100000 in
theorem bit_ (n : Nat) (h : n < 1000) (w : World) : Calls Tryz.prog 228 #[.int .i64 n] w fun e w' => e = .returned (.int .u64 ((2 ^ (n % 64) : Nat) : Int)) ∧ w = w' := by
  have : (0 : Int) ≤ n := by omega
  have : (n : Int) < 1000 := by omega
  go_enter Tryz.func228, Tryz.ntmps228
  go_wp2
  go_ret
  refine ⟨ret_u64 ?_, rfl⟩
  have := pow_lt (n % 64) (by omega)
  have e : ((2 : Int) ^ (n % 64)) = ((2 ^ (n % 64) : Nat) : Int) := by simp
  rw [e, wrap_n _ this]
def encM (M : List Nat) : Array Value := (M.map fun x : Nat => Value.int .u64 x).toArray
theorem encM_get (M : List Nat) (i : Nat) : (encM M)[i]? = M[i]?.map fun x : Nat => Value.int .u64 x := by unfold encM; simp
theorem encM_size (M : List Nat) : (encM M).size = M.length := by unfold encM; simp
structure Fam (w : World) (B R n c : Nat) (M : List Nat) : Prop where
  fb : ∃ cp, w.heap[B]? = some (.cells #[.slice (some ⟨R, 0, none⟩) n cp, .int .i64 c] 185 (0, 0))
  rb : ∃ Z, w.heap[R]? = some (.cells (encM M ++ Z) 159 (0, 0))
  len : M.length = n * 16
  small : ∀ x ∈ M, x < 18446744073709551616
  n5 : n ≤ 5000
  c1 : c ≤ 1000
  ne : R ≠ B
theorem Fam.drewN {w : World} {B R n c : Nat} {M : List Nat} (h : Fam w B R n c M) (q : Nat) : Fam (w.drewN q) B R n c M := ⟨h.fb, h.rb, h.len, h.small, h.n5, h.c1, h.ne⟩
theorem Fam.b0 {w : World} {B R n c : Nat} {M : List Nat} (h : Fam w B R n c M) : ∃ cp, w.cell? ⟨B, 0, none⟩ = some (.slice (some ⟨R, 0, none⟩) n cp) ∧ w.cell? ⟨B, 1, none⟩ = some (.int .i64 c) := by
  obtain ⟨cp, hb⟩ := h.fb
  refine ⟨cp, ?_⟩
  constructor <;> (rw [Lib.cell_of_heap hb]; rfl)
theorem Fam.at_ {w : World} {B R n c : Nat} {M : List Nat} (h : Fam w B R n c M) (i : Nat) (hi : i < M.length) : w.cell? ⟨R, i, none⟩ = M[i]?.map fun x : Nat => Value.int .u64 x := by
  obtain ⟨Z, hb⟩ := h.rb
  rw [Lib.cell_of_heap hb, Array.getElem?_append_left (by rw [encM_size]; exact hi), encM_get]
theorem Fam.lt {w : World} {B R n c : Nat} {M : List Nat} (h : Fam w B R n c M) : B < w.heap.size ∧ R < w.heap.size := by
  obtain ⟨cp, hb⟩ := h.fb
  obtain ⟨Z, hr⟩ := h.rb
  exact ⟨(Array.getElem?_eq_some_iff.1 hb).1, (Array.getElem?_eq_some_iff.1 hr).1⟩
theorem Fam.keep {w w' : World} {B R n c : Nat} {M : List Nat} (h : Fam w B R n c M) (hB : w'.heap[B]? = w.heap[B]?) (hR : w'.heap[R]? = w.heap[R]?) : Fam w' B R n c M := by
  obtain ⟨cp, hb⟩ := h.fb
  obtain ⟨Z, hr⟩ := h.rb
  exact ⟨⟨cp, hB.trans hb⟩, ⟨Z, hR.trans hr⟩, h.len, h.small, h.n5, h.c1, h.ne⟩
theorem Fam.below {w w' : World} {B R n c : Nat} {M : List Nat} (h : Fam w B R n c M) (hb : Below w.heap.size w w') : Fam w' B R n c M := h.keep (hb.block _ h.lt.1) (hb.block _ h.lt.2)
theorem infoNum : (Tryz.prog.info? 159).map (fun i => (i.zero, i.size, i.bytes)) = some (some (.agg #[.int .u64 0, .int .u64 0, .int .u64 0, .int .u64 0, .int .u64 0, .int .u64 0, .int .u64 0, .int .u64 0, .int .u64 0, .int .u64 0, .int .u64 0, .int .u64 0, .int .u64 0, .int .u64 0, .int .u64 0, .int .u64 0]), 16, 128) := by kernel_rfl
theorem made (n : Nat) : madeCells (Value.agg #[.int .u64 0, .int .u64 0, .int .u64 0, .int .u64 0, .int .u64 0, .int .u64 0, .int .u64 0, .int .u64 0, .int .u64 0, .int .u64 0, .int .u64 0, .int .u64 0, .int .u64 0, .int .u64 0, .int .u64 0, .int .u64 0]).cells n = encM (List.replicate n 0) := by
  unfold encM
  apply Array.ext
  · simp [size_madeCells]
  · intro i h1 h2
    have h16 : i % 16 < 16 := Nat.mod_lt _ (by omega)
    simp only [madeCells, Array.getElem_map, Array.getElem_range, List.map_replicate, List.getElem_toArray, List.getElem_replicate]
    show (#[Value.int .u64 0, .int .u64 0, .int .u64 0, .int .u64 0, .int .u64 0, .int .u64 0, .int .u64 0, .int .u64 0, .int .u64 0, .int .u64 0, .int .u64 0, .int .u64 0, .int .u64 0, .int .u64 0, .int .u64 0, .int .u64 0] : Array Value)[i % 16]! = _
    generalize i % 16 = k at h16
    match k, h16 with
    | 0, _ => rfl
    | 1, _ => rfl
    | 2, _ => rfl
    | 3, _ => rfl
    | 4, _ => rfl
    | 5, _ => rfl
    | 6, _ => rfl
    | 7, _ => rfl
    | 8, _ => rfl
    | 9, _ => rfl
    | 10, _ => rfl
    | 11, _ => rfl
    | 12, _ => rfl
    | 13, _ => rfl
    | 14, _ => rfl
    | 15, _ => rfl
    | k + 16, h => exact absurd h (by omega)
theorem fam_made (X : World) (k j : Nat) (h : k ≤ 5000) (h2 : j ≤ 1000) : Fam ((X.alloc (.cells (encM (List.replicate (k * 16) 0)) 159)).alloc (.cells #[.slice (some ⟨X.heap.size, 0, none⟩) k k, .int .i64 j] 185)) (X.heap.size + 1) X.heap.size k j (List.replicate (k * 16) 0) := by
  refine ⟨?_, ?_, by simp, fun x hx => ?_, h, h2, by omega⟩
  · refine ⟨k, ?_⟩
    have := heap_alloc_new (X.alloc (.cells (encM (List.replicate (k * 16) 0)) 159)) (.cells #[.slice (some ⟨X.heap.size, 0, none⟩) k k, .int .i64 j] 185)
    simpa using this
  · refine ⟨#[], ?_⟩
    rw [Array.append_empty]
    exact (Below.heap_alloc _ _ _ (by simp)).trans (heap_alloc_new X _)
  · rw [List.eq_of_mem_replicate hx]; omega
def NewPost (n c : Int) (w : World) (e : Ending) (w' : World) : Prop := ∃ B R, e = .returned (.pointer (some ⟨B, 0, none⟩)) ∧ Fam w' B R (within n 5000).toNat (within c 1000).toNat (List.replicate ((within n 5000).toNat * 16) 0) ∧ Below w.heap.size w w' ∧ w.heap.size ≤ B ∧ w.heap.size ≤ R
theorem within_le (n most : Int) (h : 0 ≤ most) : 0 ≤ within n most ∧ within n most ≤ most := by unfold within; omega
set_option maxRecDepth 100000 in
theorem new_ (n c : Int) (w : World) : Calls Tryz.prog 133 #[.int .i64 n, .int .i64 c] w (NewPost n c w) := by
  obtain ⟨i0, hi, hz0, hz1, hz2⟩ := info_parts infoNum
  have hn := within_le n 5000 (by omega)
  have hc := within_le c 1000 (by omega)
  unfold NewPost
  have HW1 := Lib.hid (within_ n 5000)
  have HW2 := Lib.hid (within_ c 1000)
  generalize within n 5000 = N at *
  generalize within c 1000 = C at *
  obtain ⟨k, rfl⟩ : ∃ k : Nat, N = k := ⟨N.toNat, by omega⟩
  obtain ⟨j, rfl⟩ : ∃ k : Nat, C = k := ⟨C.toNat, by omega⟩
  have mk := fun (w : World) => run_make (P := Tryz.prog) w 183 159 i0 _ Tryz.underlying183 hi hz0 .i64 .i64 k k (by omega) (by omega) (by rw [hz2]; omega) (by omega)
  rw [hz1] at mk
  simp only [Int.toNat_natCast, made] at mk ⊢
  clear hi hz0 hz1 hz2
  go_enter Tryz.func133, Tryz.ntmps133
  go_wp2_with fail
  go_region_with (first | ((with_reducible refine (HW1.out _).mono ?_); rintro e w' ⟨rfl, rfl⟩) | ((with_reducible refine (HW2.out _).mono ?_); rintro e w' ⟨rfl, rfl⟩))
  all_goals
    go_wp2_with fail
    go_ret
    exact ⟨w.heap.size + 1, w.heap.size, rfl, (fam_made w k j (by omega) (by omega)).drewN 1, (((Below.refl _ w).alloc (Nat.le_refl _) _).alloc (by simp) _).drew, by omega, by omega⟩
end Go.Proofs.YtblapgfilbmdhaaGreatDoor.SetA
namespace Go.Proofs.YtblapgfilbmdhaaGreatDoor.SetB
open Go.RowKit Go.Lib Go.Proofs SetPop SetA
theorem ret_bool {a b : Bool} (h : a = b) : Ending.returned (.bool a) = .returned (.bool b) := by rw [h]
set_option maxRecDepth 100000 in
theorem rows (B R n c : Nat) (M : List Nat) (w : World) (h : Fam w B R n c M) : Calls Tryz.prog 134 #[.pointer (some ⟨B, 0, none⟩)] w fun e w' => e = .returned (.int .i64 n) ∧ w = w' := by
  obtain ⟨cp, h0, _⟩ := h.b0
  have h5 := h.n5
  clear h
  go_enter Tryz.func134, Tryz.ntmps134
  go_wp2
  go_ret
  exact ⟨rfl, rfl⟩
set_option maxRecDepth 100000 in
theorem cols (B R n c : Nat) (M : List Nat) (w : World) (h : Fam w B R n c M) : Calls Tryz.prog 261 #[.pointer (some ⟨B, 0, none⟩)] w fun e w' => e = .returned (.int .i64 c) ∧ w = w' := by
  obtain ⟨cp, _, h0⟩ := h.b0
  have h5 := h.c1
  clear h
  go_enter Tryz.func261, Tryz.ntmps261
  go_wp2
  go_ret
  exact ⟨rfl, rfl⟩
def mayB (n c : Nat) (r k : Int) : Bool := decide (0 ≤ r ∧ r < n ∧ 0 ≤ k ∧ k < c)
set_option maxRecDepth 100000 in
theorem may (B R n c : Nat) (M : List Nat) (r k : Int) (w : World) (h : Fam w B R n c M) : Calls Tryz.prog 227 #[.pointer (some ⟨B, 0, none⟩), .int .i64 r, .int .i64 k] w fun e w' => e = .returned (.bool (mayB n c r k)) ∧ w = w' := by
  have H1 := Lib.hid (rows B R n c M w h)
  have H2 := Lib.hid (cols B R n c M w h)
  clear h
  go_enter Tryz.func227, Tryz.ntmps227
  go_wp2_with (first | ((with_reducible refine H1.out.mono ?_); rintro e w' ⟨rfl, rfl⟩) | ((with_reducible refine H2.out.mono ?_); rintro e w' ⟨rfl, rfl⟩))
  all_goals
    go_ret
    refine ⟨ret_bool ?_, rfl⟩
    unfold mayB
    first | (symm; apply decide_eq_false; omega) | (apply decide_eq_decide.2; omega)
def word (M : List Nat) (r k : Nat) : Nat := M.getD (r * 16 + k / 64) 0
def bitAt (M : List Nat) (r k : Nat) : Bool := (word M r k).testBit (k % 64)
def hasB (n c : Nat) (M : List Nat) (r k : Int) : Bool := mayB n c r k && bitAt M r.toNat k.toNat
theorem and_bit (x j : Nat) : (((x &&& 2 ^ j : Nat) : Int) != 0) = x.testBit j := by
  cases h : x.testBit j with
  | true =>
    have : x &&& 2 ^ j ≠ 0 := fun e => by
      have h2 : (x &&& 2 ^ j).testBit j = true := by rw [Nat.testBit_and, h, Nat.testBit_two_pow_self]; rfl
      rw [e, Nat.zero_testBit] at h2
      cases h2
    simp only [bne_iff_ne, ne_eq]; omega
  | false =>
    have : x &&& 2 ^ j = 0 := by
      apply Nat.eq_of_testBit_eq
      intro i
      rw [Nat.testBit_and, Nat.zero_testBit, Nat.testBit_two_pow]
      by_cases e : j = i
      · subst e; rw [h]; rfl
      · simp [e]
    rw [this]; rfl
theorem word_small {w : World} {B R n c : Nat} {M : List Nat} (h : Fam w B R n c M) (r k : Nat) : word M r k < 18446744073709551616 := by
  unfold word
  rw [List.getD_eq_getElem?_getD]
  cases e : M[r * 16 + k / 64]? with
  | none => simp
  | some x => exact h.small x (List.mem_of_getElem? e)
theorem word_cell {w : World} {B R n c : Nat} {M : List Nat} (h : Fam w B R n c M) (r k : Nat) (hr : r < n) (hk : k < c) : w.cell? ⟨R, r * 16 + k / 64, none⟩ = some (.int .u64 (word M r k)) := by
  have h1 := h.c1
  have hl := h.len
  have : r * 16 + k / 64 < M.length := by omega
  rw [h.at_ _ this]
  unfold word
  rw [List.getD_eq_getElem?_getD, List.getElem?_eq_getElem this]; rfl
set_option maxRecDepth 100000 in
theorem has_yes (B R n c : Nat) (M : List Nat) (r k : Nat) (w : World) (h : Fam w B R n c M) (hr : r < n) (hk : k < c) : Calls Tryz.prog 184 #[.pointer (some ⟨B, 0, none⟩), .int .i64 r, .int .i64 k] w fun e w' => e = .returned (.bool (bitAt M r k)) ∧ ∃ q, w' = w.drewN q := by
  have hm : mayB n c r k = true := decide_eq_true (by omega)
  have H1 := fun w h => may B R n c M r k w h
  rw [hm] at H1
  have H2 := Lib.hid (fun w => bit_ k (by have := h.c1; omega) w)
  have HF : Hid (∀ q, Fam (w.drewN q) B R n c M) := Lib.hid (fun q => h.drewN q)
  have H1 := Lib.hid H1
  obtain ⟨cp, h0, _⟩ := h.b0
  have hw := word_cell h r k hr hk
  have hs := word_small h r k
  have h5 := h.n5
  have h6 := h.c1
  have hp := pow_lt (k % 64) (by omega)
  have hand := bits_and_u64_nat (word M r k) (2 ^ (k % 64)) hs hp
  have HB : Hid ((((word M r k &&& 2 ^ (k % 64) : Nat) : Int) != 0) = bitAt M r k) := Lib.hid (and_bit _ _)
  have hj16 : k / 64 < 16 := by omega
  have e1 : (k : Int) / 64 = ((k / 64 : Nat) : Int) := by omega
  generalize k / 64 = j at e1 hw hj16
  generalize word M r k = x at *
  generalize 2 ^ (k % 64) = p at *
  clear h hm hs
  go_enter Tryz.func184, Tryz.ntmps184
  go_wp2_with fail
  go_quiet ((first | (go_at_call 227; exact Calls.quiet_of_same ((H1.out _ (HF.out _)).mono fun e w' h => ⟨h.1, h.2.symm⟩)) | (go_at_call 228; exact Calls.quiet_of_same ((H2.out _).mono fun e w' h => ⟨h.1, h.2.symm⟩))))
  go_wp2_with fail
  go_ret
  exact ⟨ret_bool HB.out, _, rfl⟩
set_option maxRecDepth 100000 in
theorem has_no (B R n c : Nat) (M : List Nat) (r k : Int) (w : World) (h : Fam w B R n c M) (hm : mayB n c r k = false) : Calls Tryz.prog 184 #[.pointer (some ⟨B, 0, none⟩), .int .i64 r, .int .i64 k] w fun e w' => e = .returned (.bool false) ∧ ∃ q, w' = w.drewN q := by
  have H1 := fun w h => may B R n c M r k w h
  rw [hm] at H1
  have HF : Hid (∀ q, Fam (w.drewN q) B R n c M) := Lib.hid (fun q => h.drewN q)
  have HH := Lib.hid H1
  clear hm h H1
  go_enter Tryz.func184, Tryz.ntmps184
  go_wp2_with fail
  go_quiet ((first | (go_at_call 227; exact Calls.quiet_of_same ((HH.out _ (HF.out _)).mono fun e w' h => ⟨h.1, h.2.symm⟩))))
  go_wp2_with fail
  go_ret
  exact ⟨rfl, _, rfl⟩
theorem mayB_iff {n c : Nat} {r k : Int} : mayB n c r k = true ↔ 0 ≤ r ∧ r < n ∧ 0 ≤ k ∧ k < c := by unfold mayB; simp
theorem has_ (B R n c : Nat) (M : List Nat) (r k : Int) (w : World) (h : Fam w B R n c M) : Calls Tryz.prog 184 #[.pointer (some ⟨B, 0, none⟩), .int .i64 r, .int .i64 k] w fun e w' => e = .returned (.bool (hasB n c M r k)) ∧ ∃ q, w' = w.drewN q := by
  unfold hasB
  cases hm : mayB n c r k with
  | false => exact has_no B R n c M r k w h hm
  | true =>
    obtain ⟨a1, a2, a3, a4⟩ := mayB_iff.1 hm
    obtain ⟨r', rfl⟩ : ∃ q : Nat, r = q := ⟨r.toNat, by omega⟩
    obtain ⟨k', rfl⟩ : ∃ q : Nat, k = q := ⟨k.toNat, by omega⟩
    exact has_yes B R n c M r' k' w h (by omega) (by omega)
def addM (M : List Nat) (r k : Nat) : List Nat := M.set (r * 16 + k / 64) (word M r k ||| 2 ^ (k % 64))
def AddYes (B R n c : Nat) (M : List Nat) (w : World) (e : Ending) (w' : World) : Prop := e = .returned (.bool true) ∧ Fam w' B R n c M ∧ w.grownBy w' (some R)
theorem fam_add {w : World} {B R n c : Nat} {M : List Nat} (h : Fam w B R n c M) (i x : Nat) (hi : i < M.length) (hx : x < 18446744073709551616) : Fam (w.setCell ⟨R, i, none⟩ (.int .u64 x)) B R n c (M.set i x) := by
  obtain ⟨cp, hfb⟩ := h.fb
  obtain ⟨Z, hb⟩ := h.rb
  refine ⟨⟨cp, ?_⟩, ⟨Z, ?_⟩, ?_, ?_, h.n5, h.c1, h.ne⟩
  · rw [Below.heap_setCell _ _ _ _ (Ne.symm h.ne)]; exact hfb
  · show (w.heap.modify R _)[R]? = _
    rw [Array.getElem?_modify, if_pos rfl, hb]
    simp only [Option.map_some, Option.some.injEq]
    show Obj.cells ((encM M ++ Z).setIfInBounds i (.int .u64 x)) _ _ = _
    congr 1
    have e : encM (M.set i x) = (encM M).setIfInBounds i (.int .u64 x) := by
      unfold encM
      simp [List.map_set]
    rw [e]
    exact Array.setIfInBounds_append_left (by rw [encM_size]; exact hi)
  · simp [h.len]
  · intro y hy
    rcases List.mem_or_eq_of_mem_set hy with hy | rfl
    · exact h.small y hy
    · exact hx
theorem grew_set (w : World) (a : Addr) (v : Value) : w.grownBy (w.setCell a v) (some a.block) := ⟨rfl, rfl, rfl, by simp [World.setCell], fun k hk hne => Below.heap_setCell _ _ _ _ (fun e => hne (by rw [e]))⟩
theorem Fam.free {w : World} {B R n c : Nat} {M : List Nat} (h : Fam w B R n c M) (i : Nat) : w.frozen? ⟨R, i, none⟩ = false := by
  obtain ⟨Z, hb⟩ := h.rb
  unfold World.frozen?
  rw [hb]
  rfl
theorem still_tail {P : Program} {id : Nat} {Q : Exit → Act → World → Prop} {a : Act} {w : World} {l : List Oper} (n : Nat) (hm : P.follows .mixedOrders = true) (hB : Region.lexTailB .any l.toArray n = true)
    (h : wpStill P l.toArray w.drew (fun a' => wpList P l.toArray Q (l.drop n) a' w.drew) (l.take n) a) : (Code.region id l.toArray true).wp P Q a w := wp_region_still_tail n hm hB h
set_option maxRecDepth 100000 in
theorem add_yes (B R n c : Nat) (M : List Nat) (r k : Nat) (w : World) (h : Fam w B R n c M) (hr : r < n) (hk : k < c) (hb : bitAt M r k = false) : Calls Tryz.prog 226 #[.pointer (some ⟨B, 0, none⟩), .int .i64 r, .int .i64 k] w (AddYes B R n c (addM M r k) w) := by
  have hm : mayB n c r k = true := decide_eq_true (by omega)
  have H1 := may B R n c M r k w h
  rw [hm] at H1
  have H3 := has_ B R n c M r k w h
  unfold hasB at H3
  rw [hm, Int.toNat_natCast, Int.toNat_natCast, hb] at H3
  simp only [Bool.true_and] at H3
  have H2 := Lib.hid (fun w => bit_ k (by have := h.c1; omega) w)
  have hw := word_cell h r k hr hk
  have hs := word_small h r k
  have hfree := Fam.free h (r * 16 + k / 64)
  have h5 := h.n5
  have h6 := h.c1
  have hp := pow_lt (k % 64) (by omega)
  have hand := bits_or_u64_nat (word M r k) (2 ^ (k % 64)) hs hp
  have hlt : word M r k ||| 2 ^ (k % 64) < 18446744073709551616 := by
    have := Nat.or_lt_two_pow (n := 64) (x := word M r k) (y := 2 ^ (k % 64)) (by omega) (by omega)
    omega
  have hilt : r * 16 + k / 64 < M.length := by have := h.len; have := h.c1; omega
  have HFin : Hid (∀ q, Fam ((w.drewN q).setCell ⟨R, r * 16 + k / 64, none⟩ (.int .u64 ((word M r k ||| 2 ^ (k % 64) : Nat) : Int))) B R n c (addM M r k)) := Lib.hid (fun q => fam_add (h.drewN q) _ _ hilt hlt)
  obtain ⟨cp, h0, _⟩ := h.b0
  generalize word M r k = x at *
  have hj16 : k / 64 < 16 := by omega
  have e1 : (k : Int) / 64 = ((k / 64 : Nat) : Int) := by omega
  generalize k / 64 = j at e1 hw hj16 HFin hfree
  have ew : IntKind.i64.wrap (j : Int) = j := by rw [IntKind.wrap_i64]; omega
  have p0 : (0 : Int) ≤ j := by omega
  have p1 : (j : Int) < 16 := by omega
  generalize 2 ^ (k % 64) = p at *
  generalize x ||| p = y at *
  generalize addM M r k = M' at *
  have HL := h.lt
  have HH1 := Lib.hid H1
  have HH3 := Lib.hid H3
  clear h hm hs hb H1 H3 hilt
  go_enter Tryz.func226, Tryz.ntmps226
  go_wp2_with (first | ((with_reducible refine HH1.out.mono ?_); rintro e w' ⟨rfl, rfl⟩) | ((with_reducible refine HH3.out.mono ?_); rintro e w' ⟨rfl, q, rfl⟩))
  refine still_tail 15 (by kernel_rfl) (by kernel_rfl) ?_
  simp only [List.take_succ_cons, List.take_zero, List.drop_succ_cons, List.drop_zero]
  repeat still_step
  still_call ((H2.out _).mono fun e w' h => ⟨h.1, h.2.symm⟩)
  repeat still_step
  refine wpStill_nil ?_
  go_wp2
  go_ret
  have g := grew_set (w.drewN (q + 1)) ⟨R, r * 16 + j, none⟩ (.int .u64 y)
  exact ⟨rfl, HFin.out (q + 1), g.os, g.tape, g.output, g.size, g.block⟩
theorem grew_drewN (w : World) (q : Nat) (row : Option Nat) : w.grownBy (w.drewN q) row := ⟨rfl, rfl, rfl, Nat.le_refl _, fun _ _ _ => rfl⟩
def addB (n c : Nat) (M : List Nat) (r k : Int) : Bool := mayB n c r k && !bitAt M r.toNat k.toNat
def addN (n c : Nat) (M : List Nat) (r k : Int) : List Nat := if addB n c M r k then addM M r.toNat k.toNat else M
def AddPost (B R n c : Nat) (M : List Nat) (r k : Int) (w : World) (e : Ending) (w' : World) : Prop := e = .returned (.bool (addB n c M r k)) ∧ Fam w' B R n c (addN n c M r k) ∧ w.grownBy w' (some R)
set_option maxRecDepth 100000 in
theorem add_no (B R n c : Nat) (M : List Nat) (r k : Int) (w : World) (h : Fam w B R n c M) (hb : addB n c M r k = false) : Calls Tryz.prog 226 #[.pointer (some ⟨B, 0, none⟩), .int .i64 r, .int .i64 k] w (AddPost B R n c M r k w) := by
  have e1 : addN n c M r k = M := by unfold addN; rw [hb]; rfl
  unfold AddPost
  rw [e1, hb]
  have HF : Hid (∀ q, Fam (w.drewN q) B R n c M ∧ w.grownBy (w.drewN q) (some R)) := Lib.hid (fun q => ⟨h.drewN q, grew_drewN _ _ _⟩)
  have H1 := Lib.hid (may B R n c M r k w h)
  have H2 := has_ B R n c M r k w h
  unfold hasB at H2
  unfold addB at hb
  clear e1 h
  cases hm : mayB n c r k with
  | false =>
    rw [hm] at H1
    clear H2 hb hm
    go_enter Tryz.func226, Tryz.ntmps226
    go_wp2_with ((with_reducible refine H1.out.mono ?_); rintro e w' ⟨rfl, rfl⟩)
    go_ret
    exact ⟨rfl, HF.out 0⟩
  | true =>
    rw [hm] at H1 H2 hb
    have hbit : bitAt M r.toNat k.toNat = true := by simpa using hb
    rw [hbit] at H2
    have HH2 := Lib.hid H2
    clear hb hm hbit H2
    go_enter Tryz.func226, Tryz.ntmps226
    go_wp2_with (first | ((with_reducible refine H1.out.mono ?_); rintro e w' ⟨rfl, rfl⟩) | ((with_reducible refine HH2.out.mono ?_); rintro e w' ⟨rfl, q, rfl⟩))
    go_ret
    exact ⟨rfl, HF.out q⟩
theorem add_ (B R n c : Nat) (M : List Nat) (r k : Int) (w : World) (h : Fam w B R n c M) : Calls Tryz.prog 226 #[.pointer (some ⟨B, 0, none⟩), .int .i64 r, .int .i64 k] w (AddPost B R n c M r k w) := by
  cases hb : addB n c M r k with
  | false => exact add_no B R n c M r k w h hb
  | true =>
    have hb' := hb
    unfold addB at hb
    rw [Bool.and_eq_true] at hb
    obtain ⟨hm, hbit⟩ := hb
    obtain ⟨a1, a2, a3, a4⟩ := mayB_iff.1 hm
    obtain ⟨r', rfl⟩ : ∃ q : Nat, r = q := ⟨r.toNat, by omega⟩
    obtain ⟨k', rfl⟩ : ∃ q : Nat, k = q := ⟨k.toNat, by omega⟩
    unfold AddPost addN
    rw [hb', if_pos rfl, Int.toNat_natCast, Int.toNat_natCast]
    exact add_yes B R n c M r' k' w h (by omega) (by omega) (by simpa using hbit)
end Go.Proofs.YtblapgfilbmdhaaGreatDoor.SetB
namespace Go.Proofs.YtblapgfilbmdhaaGreatDoor.SetC
open Go.RowKit Go.Lib Go.Proofs SetPop SetA SetB
def rowM (M : List Nat) (r : Nat) : List Nat := (M.drop (r * 16)).take 16
def rowI (n : Nat) (M : List Nat) (r : Int) : List Nat := if 0 ≤ r ∧ r < n then rowM M r.toNat else List.replicate 16 0
theorem rowM_len {M : List Nat} {n r : Nat} (hl : M.length = n * 16) (hr : r < n) : (rowM M r).length = 16 := by unfold rowM; simp; omega
theorem rowM_get {M : List Nat} {r j : Nat} (hj : j < 16) : (rowM M r)[j]? = M[r * 16 + j]? := by
  unfold rowM
  rw [List.getElem?_take, if_pos hj, List.getElem?_drop]
theorem rowI_len {M : List Nat} {n : Nat} (hl : M.length = n * 16) (r : Int) : (rowI n M r).length = 16 := by
  unfold rowI
  split
  · exact rowM_len (r := r.toNat) hl (by omega)
  · simp
theorem one_all (M : List Nat) : (encM M).all (·.oneCell') = true := by
  rw [Array.all_eq_true_iff_forall_mem]
  intro v hv
  unfold encM at hv
  rw [List.mem_toArray, List.mem_map] at hv
  obtain ⟨x, _, rfl⟩ := hv
  rfl
theorem sizeNum : (Tryz.prog.info? 159).map (·.size) = some 16 := by kernel_rfl
def AtPost (n : Nat) (M : List Nat) (r : Int) (w : World) (e : Ending) (w' : World) : Prop := e = .returned (.agg (encM (rowI n M r))) ∧ Below w.heap.size w w'
set_option maxRecDepth 100000 in
theorem at_yes (B R n c : Nat) (M : List Nat) (r : Nat) (w : World) (h : Fam w B R n c M) (hr : r < n) : Calls Tryz.prog 139 #[.pointer (some ⟨B, 0, none⟩), .int .i64 r] w (AtPost n M r w) := by
  have hlen := rowM_len h.len hr
  have e1 : rowI n M (r : Int) = rowM M r := by unfold rowI; rw [if_pos (by omega)]; rfl
  unfold AtPost
  rw [e1]
  obtain ⟨T, hT⟩ : ∃ T, rowM M r = T := ⟨_, rfl⟩
  have HR : Hid (∀ o, (w.alloc o).rangeAt R (r * 16) (encM T).toList) := Lib.hid (fun o j v hv => by
    have hj : j < 16 := by
      have := (List.getElem?_eq_some_iff.1 hv).1
      rw [Array.length_toList, encM_size, ← hT, hlen] at this
      exact this
    have hb : (w.alloc o).cell? ⟨R, r * 16 + j, none⟩ = w.cell? ⟨R, r * 16 + j, none⟩ := World.cell?_of_block (w := w) (Below.heap_alloc w o R h.lt.2)
    rw [hb, h.at_ _ (by have := h.len; omega), ← rowM_get hj, hT]
    rw [Array.getElem?_toList, encM_get] at hv
    exact hv)
  have HN : Hid (∀ o, Fam (w.alloc o) B R n c M) := Lib.hid (fun o => h.below ((Below.refl _ _).alloc (Nat.le_refl _) o))
  have H1 : Hid (∀ w', Fam w' B R n c M → Calls Tryz.prog 134 #[.pointer (some ⟨B, 0, none⟩)] w' fun e w'' => e = .returned (.int .i64 n) ∧ w' = w'') := Lib.hid (fun w' hw => rows B R n c M w' hw)
  obtain ⟨cp, h0, _⟩ := h.b0
  have h5 := h.n5
  have hBR := h.lt
  rw [hT] at hlen ⊢
  have hs : (encM T).size = 16 := by rw [encM_size, hlen]
  have hs' : (encM T).toList.length = 16 := by rw [Array.length_toList, hs]
  have HS := Lib.hid hs
  have HS' := Lib.hid hs'
  have h1 := one_all T
  have H1c := Lib.hid h1
  clear hT e1 hlen h hs hs' h1
  generalize encM T = E at *
  go_enter Tryz.func139, Tryz.ntmps139
  go_wp2_with fail
  go_wp2_with (first | ((with_reducible refine (H1.out _ (HN.out _)).mono ?_); rintro e w' ⟨rfl, rfl⟩) | (with_reducible refine wpList_load_mid rfl 159 _ rfl R (r * 16) rfl E.toList _ (HR.out _) Tryz.underlying159 rfl (by rw [HS'.out]; exact sizeNum) ?_) | (refine wpList_store_row rfl 159 _ _ rfl w.heap.size E rfl rfl 159 _ (heap_alloc_new w _) (by rw [HS.out]; exact sizeNum) (by rw [HS.out]; rfl) H1c.out ?_; rw [World.setRow_alloc_new]))
  refine bodyPost_ret (v := .agg E) (results_cell_row (fn := Tryz.f139) rfl _ _ w.heap.size 159 E (0, 0) _ rfl (heap_alloc_new w _) Tryz.underlying159 rfl (by rw [HS.out]; exact sizeNum)) rfl ⟨rfl, (Below.refl _ _).alloc (Nat.le_refl _) _⟩
theorem zeros16 : encM (List.replicate 16 0) = #[.int .u64 0, .int .u64 0, .int .u64 0, .int .u64 0, .int .u64 0, .int .u64 0, .int .u64 0, .int .u64 0, .int .u64 0, .int .u64 0, .int .u64 0, .int .u64 0, .int .u64 0, .int .u64 0, .int .u64 0, .int .u64 0] := by rfl
set_option maxRecDepth 100000 in
theorem at_no (B R n c : Nat) (M : List Nat) (r : Int) (w : World) (h : Fam w B R n c M) (hr : ¬ (0 ≤ r ∧ r < n)) : Calls Tryz.prog 139 #[.pointer (some ⟨B, 0, none⟩), .int .i64 r] w (AtPost n M r w) := by
  have e1 : rowI n M r = List.replicate 16 0 := by unfold rowI; rw [if_neg hr]
  unfold AtPost
  rw [e1, zeros16]
  have HN : Hid (∀ o, Fam (w.alloc o) B R n c M) := Lib.hid (fun o => h.below ((Below.refl _ _).alloc (Nat.le_refl _) o))
  have H1 : Hid (∀ w', Fam w' B R n c M → Calls Tryz.prog 134 #[.pointer (some ⟨B, 0, none⟩)] w' fun e w'' => e = .returned (.int .i64 n) ∧ w' = w'') := Lib.hid (fun w' hw => rows B R n c M w' hw)
  have h5 := h.n5
  clear e1 h
  by_cases hneg : r < 0
  · clear hr
    go_enter Tryz.func139, Tryz.ntmps139
    go_wp2_with fail
    refine bodyPost_ret (results_cell_row (fn := Tryz.f139) rfl _ _ w.heap.size 159 _ (0, 0) _ rfl (heap_alloc_new w _) Tryz.underlying159 rfl sizeNum) rfl ⟨rfl, (Below.refl _ _).alloc (Nat.le_refl _) _⟩
  · have hge : (n : Int) ≤ r := by omega
    have h0 : 0 ≤ r := by omega
    clear hr hneg
    go_enter Tryz.func139, Tryz.ntmps139
    go_wp2_with ((with_reducible refine (H1.out _ (HN.out _)).mono ?_); rintro e w' ⟨rfl, rfl⟩)
    refine bodyPost_ret (results_cell_row (fn := Tryz.f139) rfl _ _ w.heap.size 159 _ (0, 0) _ rfl (heap_alloc_new w _) Tryz.underlying159 rfl sizeNum) rfl ⟨rfl, (Below.refl _ _).alloc (Nat.le_refl _) _⟩
theorem at_ (B R n c : Nat) (M : List Nat) (r : Int) (w : World) (h : Fam w B R n c M) : Calls Tryz.prog 139 #[.pointer (some ⟨B, 0, none⟩), .int .i64 r] w (AtPost n M r w) := by
  by_cases hr : 0 ≤ r ∧ r < n
  · obtain ⟨r', rfl⟩ : ∃ q : Nat, r = q := ⟨r.toNat, by omega⟩
    exact at_yes B R n c M r' w h (by omega)
  · exact at_no B R n c M r w h hr
def cnt (T : List Nat) : Nat := (T.map pop).sum
theorem pop_le (x : Nat) : pop x ≤ 64 := by
  unfold pop
  have := List.countP_le_length (p := fun i => x.testBit i) (l := List.range 64)
  simpa using this
theorem cnt_le (T : List Nat) : cnt T ≤ 64 * T.length := by
  unfold cnt
  induction T with
  | nil => simp
  | cons a T ih => have := pop_le a; simp; omega
theorem rowI_small {w : World} {B R n c : Nat} {M : List Nat} (h : Fam w B R n c M) (r : Int) : ∀ x ∈ rowI n M r, x < 18446744073709551616 := by
  intro x hx
  unfold rowI at hx
  split at hx
  · exact h.small x (List.mem_of_mem_drop (List.mem_of_mem_take hx))
  · rw [List.eq_of_mem_replicate hx]; omega
set_option maxRecDepth 100000 in
theorem idx (T : List Nat) (k : Nat) (hT : T.length = 16) (hk : k < 16) (w : World) : (Instr.index 159 (.agg (encM T)) (.int .i64 k)).run Tryz.prog w = .ok (.int .u64 (T.getD k 0)) w := by
  match T, hT with
  | [a0, a1, a2, a3, a4, a5, a6, a7, a8, a9, a10, a11, a12, a13, a14, a15], _ =>
    match k, hk with
    | 0, _ => rfl
    | 1, _ => rfl
    | 2, _ => rfl
    | 3, _ => rfl
    | 4, _ => rfl
    | 5, _ => rfl
    | 6, _ => rfl
    | 7, _ => rfl
    | 8, _ => rfl
    | 9, _ => rfl
    | 10, _ => rfl
    | 11, _ => rfl
    | 12, _ => rfl
    | 13, _ => rfl
    | 14, _ => rfl
    | 15, _ => rfl
    | k + 16, h => exact absurd h (by omega)
end Go.Proofs.YtblapgfilbmdhaaGreatDoor.SetC
