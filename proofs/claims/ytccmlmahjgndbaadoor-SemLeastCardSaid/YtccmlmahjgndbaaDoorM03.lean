/- Which rules may be: bare and Right, by contract. -/
import Derived.Test.YtccmlmahjgndbaaDoorM02
import Derived.RegionTactic
import Derived.Deep.CutBlock
import Derived.Deep.RegionHeld
import Derived.Deep.LoopGhost
import Derived.Deep.RegionHeld3
import Derived.Deep.AppendSrc
import Derived.Deep.RegionLaw
import Derived.Deep.AppendLies
namespace Go.Proofs.YtccmlmahjgndbaaDoor.TblP
set_option linter.unusedVariables false
set_option linter.unusedSimpArgs false
open Go.RowKit Go.Lib Go.Proofs Go.Proofs.YtccmlmahjgndbaaDoor.Plain Go.Proofs.YtccmlmahjgndbaaDoor.TblB Go.Proofs.YtccmlmahjgndbaaDoor.TblC Go.Proofs.YtccmlmahjgndbaaDoor.TblF
set_option linter.unusedVariables false
set_option linter.unusedSimpArgs false
instance (x y : Ru) : Decidable (x = y) := decidable_of_iff (x.kind = y.kind ∧ x.head = y.head ∧ x.who = y.who ∧ x.a = y.a ∧ x.b = y.b ∧ x.via = y.via) (by cases x; cases y; simp)
def bareK (u : Ru) : Bool := decide (u.kind = 1) || decide (u.kind = 2) || decide (u.kind = 3) || decide (u.kind = 4)
def bareU (u : Ru) : Ru := if u.kind = 1 then ⟨1, u.head, u.who, 0, 0, 0⟩ else if u.kind = 4 then ⟨4, u.head, 0, u.a, u.b, 0⟩ else if u.kind = 3 then ⟨3, u.head, 0, u.a, 0, u.via⟩ else if u.kind = 2 then ⟨2, u.head, 0, u.a, 0, 0⟩ else zeroU
def BarePost (u : Ru) (w : World) (e : Ending) (w' : World) : Prop := e = .returned (.tuple #[.agg (bareU u).cells, .bool (bareK u)]) ∧ RowKit.Below w.heap.size w w'
theorem three (w : World) (k h x a b v : Int) : RowKit.Below w.heap.size w (((w.alloc (.cells #[.int .i64 k, .int .i64 h, .int .i64 x, .int .i64 a, .int .i64 b, .int .i64 v] 25)).alloc (.cells #[.int .i64 0, .int .i64 0, .int .i64 0, .int .i64 0, .int .i64 0, .int .i64 0] 25)).alloc (.cells #[.int .i64 k, .int .i64 h, .int .i64 0, .int .i64 0, .int .i64 0, .int .i64 0] 25)) ∧
    (((w.alloc (.cells #[.int .i64 k, .int .i64 h, .int .i64 x, .int .i64 a, .int .i64 b, .int .i64 v] 25)).alloc (.cells #[.int .i64 0, .int .i64 0, .int .i64 0, .int .i64 0, .int .i64 0, .int .i64 0] 25)).alloc (.cells #[.int .i64 k, .int .i64 h, .int .i64 0, .int .i64 0, .int .i64 0, .int .i64 0] 25)).heap[w.heap.size]? = some (.cells #[.int .i64 k, .int .i64 h, .int .i64 x, .int .i64 a, .int .i64 b, .int .i64 v] 25 (0, 0)) ∧
    (((w.alloc (.cells #[.int .i64 k, .int .i64 h, .int .i64 x, .int .i64 a, .int .i64 b, .int .i64 v] 25)).alloc (.cells #[.int .i64 0, .int .i64 0, .int .i64 0, .int .i64 0, .int .i64 0, .int .i64 0] 25)).alloc (.cells #[.int .i64 k, .int .i64 h, .int .i64 0, .int .i64 0, .int .i64 0, .int .i64 0] 25)).heap[w.heap.size + 1]? = some (.cells zeroU.cells 25 (0, 0)) ∧
    RuAt (((w.alloc (.cells #[.int .i64 k, .int .i64 h, .int .i64 x, .int .i64 a, .int .i64 b, .int .i64 v] 25)).alloc (.cells #[.int .i64 0, .int .i64 0, .int .i64 0, .int .i64 0, .int .i64 0, .int .i64 0] 25)).alloc (.cells #[.int .i64 k, .int .i64 h, .int .i64 0, .int .i64 0, .int .i64 0, .int .i64 0] 25)) (w.heap.size + 2) ⟨k, h, 0, 0, 0, 0⟩ := by
  refine ⟨(((Below.refl w.heap.size w).alloc (Nat.le_refl _) _).alloc (by simp) _).alloc (by simp <;> omega) _, (Below.heap_alloc _ _ _ (by simp <;> omega)).trans (heap_alloc2_old w _ _), (Below.heap_alloc _ _ _ (by simp)).trans (heap_alloc2_new w _ _), ?_⟩
  have e := heap_alloc_new ((w.alloc (.cells #[.int .i64 k, .int .i64 h, .int .i64 x, .int .i64 a, .int .i64 b, .int .i64 v] 25)).alloc (.cells #[.int .i64 0, .int .i64 0, .int .i64 0, .int .i64 0, .int .i64 0, .int .i64 0] 25)) (.cells #[.int .i64 k, .int .i64 h, .int .i64 0, .int .i64 0, .int .i64 0, .int .i64 0] 25)
  have hz : ((w.alloc (.cells #[.int .i64 k, .int .i64 h, .int .i64 x, .int .i64 a, .int .i64 b, .int .i64 v] 25)).alloc (.cells #[.int .i64 0, .int .i64 0, .int .i64 0, .int .i64 0, .int .i64 0, .int .i64 0] 25)).heap.size = w.heap.size + 2 := by simp
  rw [hz] at e
  exact e
set_option maxHeartbeats 1000000 in
set_option maxRecDepth 100000 in
theorem bare1 (h x a b v : Int) (w : World) : Calls Tryd.prog 49 #[.agg #[.int .i64 1, .int .i64 h, .int .i64 x, .int .i64 a, .int .i64 b, .int .i64 v]] w fun e w' => e = .returned (.tuple #[.agg (⟨1, h, x, 0, 0, 0⟩ : Ru).cells, .bool true]) ∧ RowKit.Below w.heap.size w w' := by
  obtain ⟨k1, k2, k3, k4⟩ := three w 1 h x a b v
  have H1 := Lib.hid k1
  have H2 := Lib.hid k2
  have H3 := Lib.hid k3
  have H4 := Lib.hid k4
  clear k1 k2 k3 k4
  go_enter Tryd.func49, Tryd.ntmps49
  go_upto_region 2 with fail
  generalize ((w.alloc (.cells #[.int .i64 1, .int .i64 h, .int .i64 x, .int .i64 a, .int .i64 b, .int .i64 v] 25)).alloc (.cells #[.int .i64 0, .int .i64 0, .int .i64 0, .int .i64 0, .int .i64 0, .int .i64 0] 25)).alloc (.cells #[.int .i64 1, .int .i64 h, .int .i64 0, .int .i64 0, .int .i64 0, .int .i64 0] 25) = w3 at *
  have c := fun o => Lib.cell_of_heap H2.out o
  have r := fun o => RuAt.cell H4.out o
  simp only [Ru.cells] at r
  have f := fun o => RuAt.free H4.out o
  have HP : Hid (RuAt (w3.setCell ⟨w.heap.size + 2, 2, none⟩ (.int .i64 x)) (w.heap.size + 2) ⟨1, h, x, 0, 0, 0⟩) := Lib.hid (RuAt.put H4.out 2 (by omega) (by omega) x)
  have HO : Hid ((w3.setCell ⟨w.heap.size + 2, 2, none⟩ (.int .i64 x)).heap[w.heap.size + 1]? = some (.cells zeroU.cells 25 (0, 0))) := Lib.hid ((Below.heap_setCell _ _ _ _ (by show w.heap.size + 1 ≠ w.heap.size + 2; omega)).trans H3.out)
  have HB : Hid (RowKit.Below w.heap.size w (w3.setCell ⟨w.heap.size + 2, 2, none⟩ (.int .i64 x))) := Lib.hid (H1.out.setCell (by show w.heap.size ≤ w.heap.size + 2; omega) _)
  clear H1 H2 H3 H4
  go_wp2_with (first | (refine wpList_load_row rfl 25 _ rfl (w.heap.size + 2) rfl 25 (⟨1, h, x, 0, 0, 0⟩ : Ru).cells (0, 0) _ HP.out Tryd.underlying25 rfl infoRule ?_) | (refine wpList_store_row rfl 25 _ _ rfl (w.heap.size + 1) (⟨1, h, x, 0, 0, 0⟩ : Ru).cells rfl rfl 25 _ HO.out infoRule rfl (one6 _) ?_))
  have hl := cell_rule (u := ⟨1, h, x, 0, 0, 0⟩) HO.out
  have hz := below_setRow HB.out (show w.heap.size ≤ w.heap.size + 1 by omega) (⟨1, h, x, 0, 0, 0⟩ : Ru).cells
  generalize World.setRow _ (w.heap.size + 1) (⟨1, h, x, 0, 0, 0⟩ : Ru).cells = wz at hl hz ⊢
  refine bodyPost_ret (v := .tuple #[.agg (⟨1, h, x, 0, 0, 0⟩ : Ru).cells, .bool true]) (by simp [results, Tryd.results49, go_sem, hl, Ru.cells]) rfl ⟨rfl, hz⟩
set_option maxHeartbeats 1000000 in
set_option maxRecDepth 100000 in
theorem bare4 (h x a b v : Int) (w : World) : Calls Tryd.prog 49 #[.agg #[.int .i64 4, .int .i64 h, .int .i64 x, .int .i64 a, .int .i64 b, .int .i64 v]] w fun e w' => e = .returned (.tuple #[.agg (⟨4, h, 0, a, b, 0⟩ : Ru).cells, .bool true]) ∧ RowKit.Below w.heap.size w w' := by
  obtain ⟨k1, k2, k3, k4⟩ := three w 4 h x a b v
  have H1 := Lib.hid k1
  have H2 := Lib.hid k2
  have H3 := Lib.hid k3
  have H4 := Lib.hid k4
  clear k1 k2 k3 k4
  go_enter Tryd.func49, Tryd.ntmps49
  go_upto_region 2 with fail
  generalize ((w.alloc (.cells #[.int .i64 4, .int .i64 h, .int .i64 x, .int .i64 a, .int .i64 b, .int .i64 v] 25)).alloc (.cells #[.int .i64 0, .int .i64 0, .int .i64 0, .int .i64 0, .int .i64 0, .int .i64 0] 25)).alloc (.cells #[.int .i64 4, .int .i64 h, .int .i64 0, .int .i64 0, .int .i64 0, .int .i64 0] 25) = w3 at *
  have c := fun o => Lib.cell_of_heap H2.out o
  have r := fun o => RuAt.cell H4.out o
  simp only [Ru.cells] at r
  have f := fun o => RuAt.free H4.out o
  go_wp2_with fail
  go_region
  have HP : Hid (RuAt (((w3.setCell ⟨w.heap.size + 1 + 1, 3, none⟩ (.int .i64 a)).setCell ⟨w.heap.size + 1 + 1, 4, none⟩ (.int .i64 b)).drew) (w.heap.size + 1 + 1) ⟨4, h, 0, a, b, 0⟩) := Lib.hid (RuAt.put (RuAt.put H4.out 3 (by omega) (by omega) a) 4 (by omega) (by omega) b)
  have HO : Hid ((((w3.setCell ⟨w.heap.size + 1 + 1, 3, none⟩ (.int .i64 a)).setCell ⟨w.heap.size + 1 + 1, 4, none⟩ (.int .i64 b)).drew).heap[w.heap.size + 1]? = some (.cells zeroU.cells 25 (0, 0))) := Lib.hid ((Below.heap_setCell _ _ _ _ (by show w.heap.size + 1 ≠ w.heap.size + 2; omega)).trans ((Below.heap_setCell _ _ _ _ (by show w.heap.size + 1 ≠ w.heap.size + 2; omega)).trans H3.out))
  have HB : Hid (RowKit.Below w.heap.size w (((w3.setCell ⟨w.heap.size + 1 + 1, 3, none⟩ (.int .i64 a)).setCell ⟨w.heap.size + 1 + 1, 4, none⟩ (.int .i64 b)).drew)) := Lib.hid (((H1.out.setCell (by show w.heap.size ≤ w.heap.size + 2; omega) _).setCell (by show w.heap.size ≤ w.heap.size + 2; omega) _).drew)
  clear H1 H2 H3 H4
  go_wp2_with (first | (refine wpList_load_row rfl 25 _ rfl (w.heap.size + 1 + 1) rfl 25 (⟨4, h, 0, a, b, 0⟩ : Ru).cells (0, 0) _ HP.out Tryd.underlying25 rfl infoRule ?_) | (refine wpList_store_row rfl 25 _ _ rfl (w.heap.size + 1) (⟨4, h, 0, a, b, 0⟩ : Ru).cells rfl rfl 25 _ HO.out infoRule rfl (one6 _) ?_))
  have hl := cell_rule (u := ⟨4, h, 0, a, b, 0⟩) HO.out
  have hz := below_setRow HB.out (show w.heap.size ≤ w.heap.size + 1 by omega) (⟨4, h, 0, a, b, 0⟩ : Ru).cells
  generalize World.setRow _ (w.heap.size + 1) (⟨4, h, 0, a, b, 0⟩ : Ru).cells = wz at hl hz ⊢
  refine bodyPost_ret (v := .tuple #[.agg (⟨4, h, 0, a, b, 0⟩ : Ru).cells, .bool true]) (by simp [results, Tryd.results49, go_sem, hl, Ru.cells]) rfl ⟨rfl, hz⟩
set_option maxHeartbeats 1000000 in
set_option maxRecDepth 100000 in
theorem bare3 (h x a b v : Int) (w : World) : Calls Tryd.prog 49 #[.agg #[.int .i64 3, .int .i64 h, .int .i64 x, .int .i64 a, .int .i64 b, .int .i64 v]] w fun e w' => e = .returned (.tuple #[.agg (⟨3, h, 0, a, 0, v⟩ : Ru).cells, .bool true]) ∧ RowKit.Below w.heap.size w w' := by
  obtain ⟨k1, k2, k3, k4⟩ := three w 3 h x a b v
  have H1 := Lib.hid k1
  have H2 := Lib.hid k2
  have H3 := Lib.hid k3
  have H4 := Lib.hid k4
  clear k1 k2 k3 k4
  go_enter Tryd.func49, Tryd.ntmps49
  go_upto_region 2 with fail
  generalize ((w.alloc (.cells #[.int .i64 3, .int .i64 h, .int .i64 x, .int .i64 a, .int .i64 b, .int .i64 v] 25)).alloc (.cells #[.int .i64 0, .int .i64 0, .int .i64 0, .int .i64 0, .int .i64 0, .int .i64 0] 25)).alloc (.cells #[.int .i64 3, .int .i64 h, .int .i64 0, .int .i64 0, .int .i64 0, .int .i64 0] 25) = w3 at *
  have c := fun o => Lib.cell_of_heap H2.out o
  have r := fun o => RuAt.cell H4.out o
  simp only [Ru.cells] at r
  have f := fun o => RuAt.free H4.out o
  have HP : Hid (RuAt ((w3.setCell ⟨w.heap.size + 2, 5, none⟩ (.int .i64 v)).setCell ⟨w.heap.size + 2, 3, none⟩ (.int .i64 a)) (w.heap.size + 2) ⟨3, h, 0, a, 0, v⟩) := Lib.hid (RuAt.put (RuAt.put H4.out 5 (by omega) (by omega) v) 3 (by omega) (by omega) a)
  have HO : Hid (((w3.setCell ⟨w.heap.size + 2, 5, none⟩ (.int .i64 v)).setCell ⟨w.heap.size + 2, 3, none⟩ (.int .i64 a)).heap[w.heap.size + 1]? = some (.cells zeroU.cells 25 (0, 0))) := Lib.hid ((Below.heap_setCell _ _ _ _ (by show w.heap.size + 1 ≠ w.heap.size + 2; omega)).trans ((Below.heap_setCell _ _ _ _ (by show w.heap.size + 1 ≠ w.heap.size + 2; omega)).trans H3.out))
  have HB : Hid (RowKit.Below w.heap.size w ((w3.setCell ⟨w.heap.size + 2, 5, none⟩ (.int .i64 v)).setCell ⟨w.heap.size + 2, 3, none⟩ (.int .i64 a))) := Lib.hid ((H1.out.setCell (by show w.heap.size ≤ w.heap.size + 2; omega) _).setCell (by show w.heap.size ≤ w.heap.size + 2; omega) _)
  clear H1 H2 H3 H4
  go_wp2_with (first | (refine wpList_load_row rfl 25 _ rfl (w.heap.size + 2) rfl 25 (⟨3, h, 0, a, 0, v⟩ : Ru).cells (0, 0) _ HP.out Tryd.underlying25 rfl infoRule ?_) | (refine wpList_store_row rfl 25 _ _ rfl (w.heap.size + 1) (⟨3, h, 0, a, 0, v⟩ : Ru).cells rfl rfl 25 _ HO.out infoRule rfl (one6 _) ?_))
  have hl := cell_rule (u := ⟨3, h, 0, a, 0, v⟩) HO.out
  have hz := below_setRow HB.out (show w.heap.size ≤ w.heap.size + 1 by omega) (⟨3, h, 0, a, 0, v⟩ : Ru).cells
  generalize World.setRow _ (w.heap.size + 1) (⟨3, h, 0, a, 0, v⟩ : Ru).cells = wz at hl hz ⊢
  refine bodyPost_ret (v := .tuple #[.agg (⟨3, h, 0, a, 0, v⟩ : Ru).cells, .bool true]) (by simp [results, Tryd.results49, go_sem, hl, Ru.cells]) rfl ⟨rfl, hz⟩
set_option maxHeartbeats 1000000 in
set_option maxRecDepth 100000 in
theorem bare2 (h x a b v : Int) (w : World) : Calls Tryd.prog 49 #[.agg #[.int .i64 2, .int .i64 h, .int .i64 x, .int .i64 a, .int .i64 b, .int .i64 v]] w fun e w' => e = .returned (.tuple #[.agg (⟨2, h, 0, a, 0, 0⟩ : Ru).cells, .bool true]) ∧ RowKit.Below w.heap.size w w' := by
  obtain ⟨k1, k2, k3, k4⟩ := three w 2 h x a b v
  have H1 := Lib.hid k1
  have H2 := Lib.hid k2
  have H3 := Lib.hid k3
  have H4 := Lib.hid k4
  clear k1 k2 k3 k4
  go_enter Tryd.func49, Tryd.ntmps49
  go_upto_region 2 with fail
  generalize ((w.alloc (.cells #[.int .i64 2, .int .i64 h, .int .i64 x, .int .i64 a, .int .i64 b, .int .i64 v] 25)).alloc (.cells #[.int .i64 0, .int .i64 0, .int .i64 0, .int .i64 0, .int .i64 0, .int .i64 0] 25)).alloc (.cells #[.int .i64 2, .int .i64 h, .int .i64 0, .int .i64 0, .int .i64 0, .int .i64 0] 25) = w3 at *
  have c := fun o => Lib.cell_of_heap H2.out o
  have r := fun o => RuAt.cell H4.out o
  simp only [Ru.cells] at r
  have f := fun o => RuAt.free H4.out o
  have HP : Hid (RuAt (w3.setCell ⟨w.heap.size + 2, 3, none⟩ (.int .i64 a)) (w.heap.size + 2) ⟨2, h, 0, a, 0, 0⟩) := Lib.hid (RuAt.put H4.out 3 (by omega) (by omega) a)
  have HO : Hid ((w3.setCell ⟨w.heap.size + 2, 3, none⟩ (.int .i64 a)).heap[w.heap.size + 1]? = some (.cells zeroU.cells 25 (0, 0))) := Lib.hid ((Below.heap_setCell _ _ _ _ (by show w.heap.size + 1 ≠ w.heap.size + 2; omega)).trans H3.out)
  have HB : Hid (RowKit.Below w.heap.size w (w3.setCell ⟨w.heap.size + 2, 3, none⟩ (.int .i64 a))) := Lib.hid (H1.out.setCell (by show w.heap.size ≤ w.heap.size + 2; omega) _)
  clear H1 H2 H3 H4
  go_wp2_with (first | (refine wpList_load_row rfl 25 _ rfl (w.heap.size + 2) rfl 25 (⟨2, h, 0, a, 0, 0⟩ : Ru).cells (0, 0) _ HP.out Tryd.underlying25 rfl infoRule ?_) | (refine wpList_store_row rfl 25 _ _ rfl (w.heap.size + 1) (⟨2, h, 0, a, 0, 0⟩ : Ru).cells rfl rfl 25 _ HO.out infoRule rfl (one6 _) ?_))
  have hl := cell_rule (u := ⟨2, h, 0, a, 0, 0⟩) HO.out
  have hz := below_setRow HB.out (show w.heap.size ≤ w.heap.size + 1 by omega) (⟨2, h, 0, a, 0, 0⟩ : Ru).cells
  generalize World.setRow _ (w.heap.size + 1) (⟨2, h, 0, a, 0, 0⟩ : Ru).cells = wz at hl hz ⊢
  refine bodyPost_ret (v := .tuple #[.agg (⟨2, h, 0, a, 0, 0⟩ : Ru).cells, .bool true]) (by simp [results, Tryd.results49, go_sem, hl, Ru.cells]) rfl ⟨rfl, hz⟩
set_option maxRecDepth 100000 in
theorem bare0 (k h x a b v : Int) (h1 : k ≠ 1) (h2 : k ≠ 2) (h3 : k ≠ 3) (h4 : k ≠ 4) (w : World) : Calls Tryd.prog 49 #[.agg #[.int .i64 k, .int .i64 h, .int .i64 x, .int .i64 a, .int .i64 b, .int .i64 v]] w fun e w' => e = .returned (.tuple #[.agg zeroU.cells, .bool false]) ∧ RowKit.Below w.heap.size w w' := by
  obtain ⟨k1, k2, k3, k4⟩ := three w k h x a b v
  have H1 := Lib.hid k1
  have H2 := Lib.hid k2
  have H3 := Lib.hid k3
  clear k1 k2 k3 k4
  have e1 : (k == 1) = false := by simp [h1]
  have e2 : (k == 2) = false := by simp [h2]
  have e3 : (k == 3) = false := by simp [h3]
  have e4 : (k == 4) = false := by simp [h4]
  clear h1 h2 h3 h4
  go_enter Tryd.func49, Tryd.ntmps49
  go_upto_region 2 with fail
  generalize ((w.alloc (.cells #[.int .i64 k, .int .i64 h, .int .i64 x, .int .i64 a, .int .i64 b, .int .i64 v] 25)).alloc (.cells #[.int .i64 0, .int .i64 0, .int .i64 0, .int .i64 0, .int .i64 0, .int .i64 0] 25)).alloc (.cells #[.int .i64 k, .int .i64 h, .int .i64 0, .int .i64 0, .int .i64 0, .int .i64 0] 25) = w3 at *
  have c := fun o => Lib.cell_of_heap H2.out o
  go_wp2_with (refine wpList_store_row rfl 25 _ _ rfl (w.heap.size + 1) zeroU.cells rfl rfl 25 _ H3.out infoRule rfl (one6 _) ?_)
  have hl := cell_rule (u := zeroU) H3.out
  have hz := below_setRow H1.out (show w.heap.size ≤ w.heap.size + 1 by omega) zeroU.cells
  generalize World.setRow _ (w.heap.size + 1) zeroU.cells = wz at hl hz ⊢
  refine bodyPost_ret (v := .tuple #[.agg zeroU.cells, .bool false]) (by simp [results, Tryd.results49, go_sem, hl, Ru.cells]) rfl ⟨rfl, hz⟩
theorem bare_ (u : Ru) (w : World) : Calls Tryd.prog 49 #[u.val] w (BarePost u w) := by
  obtain ⟨k, h, x, a, b, v⟩ := u
  unfold BarePost bareU bareK Ru.val
  simp only
  by_cases h1 : k = 1
  · subst h1; exact bare1 h x a b v w
  · by_cases h4 : k = 4
    · subst h4; exact bare4 h x a b v w
    · by_cases h3 : k = 3
      · subst h3; exact bare3 h x a b v w
      · by_cases h2 : k = 2
        · subst h2; exact bare2 h x a b v w
        · simp only [h1, h2, h3, h4, if_false, decide_false, Bool.false_or]
          exact bare0 k h x a b v h1 h2 h3 h4 w
theorem neG (k h x a b v k2 h2 x2 a2 b2 v2 : Int) (w : World) : (binOp .neq 25 (.agg #[.int .i64 k, .int .i64 h, .int .i64 x, .int .i64 a, .int .i64 b, .int .i64 v]) (.agg #[.int .i64 k2, .int .i64 h2, .int .i64 x2, .int .i64 a2, .int .i64 b2, .int .i64 v2])).run Tryd.prog w = .ok (.bool (!decide ((⟨k, h, x, a, b, v⟩ : Ru) = ⟨k2, h2, x2, a2, b2, v2⟩))) w := by
  simp only [go_sem, Ru.mk.injEq]
  go_simp
  by_cases e0 : k = k2
  rotate_left
  · simp [e0]
  subst e0
  by_cases e1 : h = h2
  rotate_left
  · simp [e1]
  subst e1
  by_cases e2 : x = x2
  rotate_left
  · simp [e2]
  subst e2
  by_cases e3 : a = a2
  rotate_left
  · simp [e3]
  subst e3
  by_cases e4 : b = b2
  rotate_left
  · simp [e4]
  subst e4
  by_cases e5 : v = v2
  rotate_left
  · simp [e5]
  subst e5
  simp
end Go.Proofs.YtccmlmahjgndbaaDoor.TblP
namespace Go.Proofs.YtccmlmahjgndbaaDoor.TblQ
open Go.RowKit Go.Lib Go.Proofs Go.Proofs.YtccmlmahjgndbaaDoor.Plain Go.Proofs.YtccmlmahjgndbaaDoor.TblB Go.Proofs.YtccmlmahjgndbaaDoor.TblC Go.Proofs.YtccmlmahjgndbaaDoor.TblP Go.Proofs.YtccmlmahjgndbaaDoor.TblF
set_option linter.unusedVariables false
set_option linter.unusedSimpArgs false
def rightU (n1 n2 : Nat) (u : Ru) : Bool := bareK u && (decide (bareU u = u) && (allB ((n1 * n2 : Nat) : Int) [u.head, u.a, u.b] && (allB n1 [u.who] && allB n2 [u.via])))
theorem nx {W w1 w2 : World} (h : RowKit.Below W.heap.size W w1) (hb : RowKit.Below w1.heap.size w1 w2) : RowKit.Below W.heap.size W w2 := h.trans (hb.mono h.size)
theorem belowL (w : World) (zs : List Int) (n : Int) (hT : zs.length ≤ 10000) : Calls Tryd.prog 50 #[.int .i64 n, .slice (some ⟨w.heap.size, 0, none⟩) zs.length zs.length] (w.alloc (.cells (zs.map fun z => Value.int .i64 z).toArray 3)) fun e w' => e = .returned (.bool (allB n zs)) ∧ RowKit.Below w.heap.size w w' := by
  refine (below (some ⟨w.heap.size, 0, none⟩) zs.length zs n (w.alloc (.cells (zs.map fun z => Value.int .i64 z).toArray 3)) hT (IG.lit _ w.heap.size zs 3 (heap_alloc_new w _))).mono ?_
  rintro e w' ⟨rfl, hb⟩
  exact ⟨rfl, nx ((Below.refl _ w).alloc (Nat.le_refl _) _) hb⟩
set_option maxHeartbeats 1000000 in
set_option maxRecDepth 100000 in
theorem right_ (n1 n2 : Nat) (u : Ru) (w : World) (g1 : n1 ≤ 1000) (g2 : n2 ≤ 1000) : Calls Tryd.prog 28 #[.int .i64 n1, .int .i64 n2, u.val] w fun e w' => e = .returned (.bool (rightU n1 n2 u)) ∧ RowKit.Below w.heap.size w w' := by
  have HB := Lib.hid (fun w' => bare_ u w')
  unfold BarePost at HB
  unfold rightU
  obtain ⟨k, h, x, a, b, v⟩ := u
  have hU : ∃ u2, bareU ⟨k, h, x, a, b, v⟩ = u2 := ⟨_, rfl⟩
  obtain ⟨⟨k', h', x', a', b', v'⟩, hU⟩ := hU
  rw [hU] at HB ⊢
  have hne := neG k' h' x' a' b' v' k h x a b v
  generalize bareK _ = bk at *
  generalize decide ((⟨k', h', x', a', b', v'⟩ : Ru) = ⟨k, h, x, a, b, v⟩) = dd at *
  unfold Ru.val at *
  simp only [Ru.cells] at HB ⊢
  have hb0 : allB 1001 [(n1 : Int), (n2 : Int)] = true := by simp [allB, inB]; omega
  have HL0 := Lib.hid (fun w' => belowL w' [(n1 : Int), (n2 : Int)] 1001 (by simp))
  have HL1 := Lib.hid (fun w' => belowL w' [h, a, b] ((n1 * n2 : Nat) : Int) (by simp))
  have HL2 := Lib.hid (fun w' => belowL w' [x] (n1 : Int) (by simp))
  have HL3 := Lib.hid (fun w' => belowL w' [v] (n2 : Int) (by simp))
  rw [hb0] at HL0
  have hq : n1 * n2 ≤ 1000000 := Nat.mul_le_mul g1 g2
  have hmul : IntKind.i64.wrap ((n1 : Int) * (n2 : Int)) = ((n1 * n2 : Nat) : Int) := by
    rw [← Int.natCast_mul, IntKind.wrap_i64]; omega
  generalize allB _ [h, a, b] = b1 at *
  generalize allB _ [x] = b2 at *
  generalize allB _ [v] = b3 at *
  generalize n1 * n2 = q at *
  simp only [List.length_cons, List.length_nil, Nat.zero_add, Nat.reduceAdd, List.map_cons, List.map_nil] at HL0 HL1 HL2 HL3
  clear hU hb0 hq g1 g2
  go_enter Tryd.func28, Tryd.ntmps28
  go_wp2_with fail
  refine (HB.out _).mono ?_
  rintro e w1 ⟨rfl, hb⟩
  have hx1 : w1.heap[w.heap.size]? = some (.cells #[.int .i64 k, .int .i64 h, .int .i64 x, .int .i64 a, .int .i64 b, .int .i64 v] 25 (0, 0)) := (hb.block _ (by simp)).trans (heap_alloc_new w _)
  have hlt1 : w.heap.size < w1.heap.size := (Array.getElem?_eq_some_iff.1 hx1).1
  have hz1 : RowKit.Below w1.heap.size w1 (w1.alloc (.cells #[.int .i64 k', .int .i64 h', .int .i64 x', .int .i64 a', .int .i64 b', .int .i64 v'] 25)) := (Below.refl _ _).alloc (Nat.le_refl _) _
  have HX2 := Lib.hid ((hz1.block w.heap.size hlt1).trans hx1)
  have HY2 := Lib.hid (heap_alloc_new w1 (.cells #[.int .i64 k', .int .i64 h', .int .i64 x', .int .i64 a', .int .i64 b', .int .i64 v'] 25))
  have HB2 := Lib.hid (nx (nx ((Below.refl w.heap.size w).alloc (Nat.le_refl _) (.cells #[.int .i64 k, .int .i64 h, .int .i64 x, .int .i64 a, .int .i64 b, .int .i64 v] 25)) hb) hz1)
  clear hx1 hz1 hb HB
  go_upto_region 2 with fail
  generalize w1.alloc (.cells #[.int .i64 k', .int .i64 h', .int .i64 x', .int .i64 a', .int .i64 b', .int .i64 v'] 25) = w2 at *
  have c2 := fun o => Lib.cell_of_heap HX2.out o
  have d2 := fun o => Lib.cell_of_heap HY2.out o
  cases bk
  · clear HL0 HL1 HL2 HL3 c2 d2
    go_wp2_with fail
    go_ret
    exact ⟨rfl, HB2.out⟩
  cases dd
  · go_wp2_with fail
    go_ret
    exact ⟨rfl, HB2.out⟩
  go_wp2_with fail
  refine (HL0.out w2).mono ?_
  rintro e w3 ⟨rfl, hb⟩
  have HB3 := Lib.hid (nx HB2.out hb)
  have HX3 := Lib.hid ((hb.block w.heap.size (Array.getElem?_eq_some_iff.1 HX2.out).1).trans HX2.out)
  have c3 := fun o => Lib.cell_of_heap HX3.out o
  clear hb HB2 HX2 HY2 c2 d2 HL0 hne
  go_wp2_with fail
  refine (HL1.out w3).mono ?_
  rintro e w4 ⟨rfl, hb⟩
  have HB4 := Lib.hid (nx HB3.out hb)
  have HX4 := Lib.hid ((hb.block w.heap.size (Array.getElem?_eq_some_iff.1 HX3.out).1).trans HX3.out)
  have c4 := fun o => Lib.cell_of_heap HX4.out o
  clear hb HB3 HX3 c3 HL1
  cases b1
  · go_wp2_with fail
    go_ret
    exact ⟨rfl, HB4.out⟩
  go_wp2_with fail
  refine (HL2.out w4).mono ?_
  rintro e w5 ⟨rfl, hb⟩
  have HB5 := Lib.hid (nx HB4.out hb)
  have HX5 := Lib.hid ((hb.block w.heap.size (Array.getElem?_eq_some_iff.1 HX4.out).1).trans HX4.out)
  have c5 := fun o => Lib.cell_of_heap HX5.out o
  clear hb HB4 HX4 c4 HL2
  cases b2
  · go_wp2_with fail
    go_ret
    exact ⟨rfl, HB5.out⟩
  go_wp2_with fail
  refine (HL3.out w5).mono ?_
  rintro e w6 ⟨rfl, hb⟩
  have HB6 := Lib.hid (nx HB5.out hb)
  clear hb HB5 HX5 c5 HL3
  go_wp2_with fail
  go_ret
  exact ⟨rfl, HB6.out⟩
end Go.Proofs.YtccmlmahjgndbaaDoor.TblQ
/- The worklist in memory: its sets, its queue, the rules that look at each role; what a step leaves of it. -/
namespace Go.Proofs.YtccmlmahjgndbaaDoor.SemB
set_option linter.unusedVariables false
set_option linter.unusedSimpArgs false
open Go.RowKit Go.Lib Go.Proofs Go.Proofs.YtccmlmahjgndbaaDoor.SetA Go.Proofs.YtccmlmahjgndbaaDoor.SetB Go.Proofs.YtccmlmahjgndbaaDoor.SetJ Go.Proofs.YtccmlmahjgndbaaDoor.SetN Go.Proofs.YtccmlmahjgndbaaDoor.SetQ Go.Proofs.YtccmlmahjgndbaaDoor.SetR Go.Proofs.YtccmlmahjgndbaaDoor.TblC Go.Proofs.YtccmlmahjgndbaaDoor.TblV Go.Proofs.YtccmlmahjgndbaaDoor.SemA
set_option linter.unusedVariables false
set_option linter.unusedSimpArgs false
/-- A slice value, of the call's own, that reads as pairs: it may begin within its block. -/
def Qu (w : World) (base : Nat) (v : Value) (L : List Pr) : Prop :=
  (v = .slice none 0 0 ∧ L = []) ∨ ∃ g o cap cur, v = .slice (some ⟨g, o, none⟩) L.length cap ∧ base ≤ g ∧ w.heap[g]? = some (.cells cur 59 (0, 0)) ∧ L.length ≤ cap ∧ cap ≤ maxLen ∧ o + cap * 2 ≤ cur.size ∧ ∀ j, (h : j < L.length) → cur[o + j * 2]? = some (.int .i64 L[j].1) ∧ cur[o + j * 2 + 1]? = some (.int .i64 L[j].2)
theorem Qu.keep {w w' : World} {base : Nat} {v : Value} {L : List Pr} (h : Qu w base v L) (hk : ∀ g, v.ownBlock = some g → w'.heap[g]? = w.heap[g]?) : Qu w' base v L := by
  rcases h with h | ⟨g, o, cap, cur, rfl, hb, hg, r⟩
  · exact .inl h
  · exact .inr ⟨g, o, cap, cur, rfl, hb, (hk g rfl).trans hg, r⟩
theorem Qu.blk {w : World} {base : Nat} {v : Value} {L : List Pr} (h : Qu w base v L) {g : Nat} (hg : v.ownBlock = some g) : base ≤ g ∧ ∃ cur, w.heap[g]? = some (.cells cur 59 (0, 0)) := by
  rcases h with ⟨rfl, _⟩ | ⟨g', o, cap, cur, rfl, hb, hh, r⟩
  · simp [Value.ownBlock] at hg
  · simp [Value.ownBlock] at hg
    subst hg
    exact ⟨hb, cur, hh⟩
theorem lt_of {w : World} {g : Nat} {o : Obj} (h : w.heap[g]? = some o) : g < w.heap.size := (Array.getElem?_eq_some_iff.1 h).1
theorem ne_of_type {w : World} {a b : Nat} {x y : Array Value} {t t' : TypeId} {f f' : Nat × Nat} (h : w.heap[a]? = some (.cells x t f)) (h' : w.heap[b]? = some (.cells y t' f')) (hne : t ≠ t') : a ≠ b := by
  rintro rfl
  rw [h] at h'
  injection h' with h'
  injection h' with _ h2
  exact hne h2
theorem own_blk {w : World} {B : Nat} {e : TypeId} {size n : Nat} {v : Value} {xs : List Value} (h : w.ownsRow B e size v n xs) {g : Nat} (hg : v.ownBlock = some g) : B ≤ g ∧ ∃ cur, w.heap[g]? = some (.cells cur e (0, 0)) := by
  rcases h.2 with ⟨rfl, _⟩ | ⟨g', cap, cur, rfl, hB, hh, _⟩
  · simp [Value.ownBlock] at hg
  · simp [Value.ownBlock] at hg
    subst hg
    exact ⟨hB, cur, hh⟩
theorem own_keep {w w' : World} {B : Nat} {e : TypeId} {size n : Nat} {v : Value} {xs : List Value} (h : w.ownsRow B e size v n xs) (hk : ∀ g, v.ownBlock = some g → w'.heap[g]? = w.heap[g]?) : w'.ownsRow B e size v n xs := by
  refine ⟨h.1, ?_⟩
  rcases h.2 with h0 | ⟨g, cap, cur, rfl, hB, hh, hc⟩
  · exact .inl h0
  · exact .inr ⟨g, cap, cur, rfl, hB, (hk g rfl).trans hh, hc⟩
/-- Where the worklist lies, and its numbers. -/
structure Ad where
  wk : Nat
  mo : Nat
  B : Nat
  R : Nat
  Lb : Nat
  n : Nat
  c : Nat
  K : Nat
/-- The worklist in memory, above W. -/
structure Wk (W w : World) (a : Ad) (M : List Nat) (s : Sm) (q : List Pr) (qv : Value) (vs : List Value) : Prop where
  bel : Below W.heap.size W w
  fam : Fam w a.B a.R a.n a.c M
  inv : SetN.Inv a.n a.c M s.all
  mb : w.heap[a.mo]? = some (.cells #[.pointer (some ⟨a.B, 0, none⟩), .int .i64 a.K, .int .i64 s.steps] 50 (0, 0))
  wb : w.heap[a.wk]? = some (.cells #[.pointer (some ⟨a.mo, 0, none⟩), .slice (some ⟨a.Lb, 0, none⟩) a.n a.n, qv] 54 (0, 0))
  lb : w.heap[a.Lb]? = some (.cells vs.toArray 23 (0, 0))
  qu : Qu w W.heap.size qv q
  lv : vs.length = a.n
  ll : s.look.length = a.n
  rows : ∀ (i : Nat) (v : Value), vs[i]? = some v → w.ownsRow W.heap.size 25 6 v (s.look.getD i []).length (cellsR (s.look.getD i []))
  apart : ∀ (i j : Nat) (v u : Value), vs[i]? = some v → vs[j]? = some u → i ≠ j → ∀ g, v.ownBlock = some g → u.ownBlock ≠ some g
  up : W.heap.size ≤ a.R ∧ W.heap.size ≤ a.mo ∧ W.heap.size ≤ a.wk ∧ W.heap.size ≤ a.Lb ∧ W.heap.size ≤ a.B
variable {W w : World} {a : Ad} {M : List Nat} {s : Sm} {q : List Pr} {qv : Value} {vs : List Value}
theorem Wk.below {w' : World} (h : Wk W w a M s q qv vs) (hb : Below w.heap.size w w') : Wk W w' a M s q qv vs where
  bel := h.bel.trans (hb.mono h.bel.size)
  fam := h.fam.below hb
  inv := h.inv
  mb := (hb.block _ (lt_of h.mb)).trans h.mb
  wb := (hb.block _ (lt_of h.wb)).trans h.wb
  lb := (hb.block _ (lt_of h.lb)).trans h.lb
  qu := h.qu.keep fun g hg => hb.block _ (lt_of (h.qu.blk hg).2.choose_spec)
  lv := h.lv
  ll := h.ll
  rows := fun i v hv => own_keep (h.rows i v hv) fun g hg => hb.block _ (lt_of (own_blk (h.rows i v hv) hg).2.choose_spec)
  apart := h.apart
  up := h.up
/-- A number more in the sets. -/
theorem Wk.add {w' : World} {M' : List Nat} {s' : Sm} (h : Wk W w a M s q qv vs) (hf : Fam w' a.B a.R a.n a.c M') (hi : SetN.Inv a.n a.c M' s'.all) (hl : s'.look = s.look) (hs : s'.steps = s.steps) (hg : w.grownBy w' (some a.R)) : Wk W w' a M' s' q qv vs := by
  obtain ⟨Z, hr⟩ := h.fam.rb
  obtain ⟨cp, hb⟩ := h.fam.fb
  have hk : ∀ {g : Nat} {x : Array Value} {t : TypeId} {f : Nat × Nat}, w.heap[g]? = some (.cells x t f) → 75 ≠ t → w'.heap[g]? = w.heap[g]? := fun {g x t f} hx hne =>
    hg.block g (lt_of hx) (by have := ne_of_type hr hx hne; simp; omega)
  exact {
    bel := h.bel.grown hg h.bel.size (fun k hk => by simp at hk; have := h.up; omega)
    fam := hf
    inv := hi
    mb := by rw [hs]; exact (hk h.mb (by show (_ : Nat) ≠ _; decide)).trans h.mb
    wb := (hk h.wb (by show (_ : Nat) ≠ _; decide)).trans h.wb
    lb := (hk h.lb (by show (_ : Nat) ≠ _; decide)).trans h.lb
    qu := h.qu.keep fun g hg => hk (h.qu.blk hg).2.choose_spec (by show (_ : Nat) ≠ _; decide)
    lv := h.lv
    ll := by rw [hl]; exact h.ll
    rows := fun i v hv => by rw [hl]; exact own_keep (h.rows i v hv) fun g hg => hk (own_blk (h.rows i v hv) hg).2.choose_spec (by show (_ : Nat) ≠ _; decide)
    apart := h.apart
    up := h.up }
/-- One block was stored into. -/
theorem set_other (w : World) (b i : Nat) (v : Value) {g : Nat} (h : g ≠ b) : (w.setCell ⟨b, i, none⟩ v).heap[g]? = w.heap[g]? := Below.heap_setCell _ _ _ _ (fun e => h (by rw [e]))
theorem set_bel {B : Nat} (h : Below B W w) {b i : Nat} {v : Value} (hb : B ≤ b) : Below B W (w.setCell ⟨b, i, none⟩ v) := h.setCell hb v
/-- A round more is counted. -/
theorem Wk.tick (h : Wk W w a M s q qv vs) : Wk W (w.setCell ⟨a.mo, 2, none⟩ (.int .i64 ((s.steps : Int) + 1))) a M (SemA.tick s) q qv vs := by
  have hk : ∀ {g : Nat} {x : Array Value} {t : TypeId} {f : Nat × Nat}, w.heap[g]? = some (.cells x t f) → 50 ≠ t → (w.setCell ⟨a.mo, 2, none⟩ (.int .i64 ((s.steps : Int) + 1))).heap[g]? = w.heap[g]? := fun {g x t f} hx hne =>
    set_other w _ _ _ (by have := ne_of_type h.mb hx hne; omega)
  obtain ⟨Z, hr⟩ := h.fam.rb
  obtain ⟨cp, hb⟩ := h.fam.fb
  exact {
    bel := set_bel h.bel h.up.2.1
    fam := h.fam.keep (hk hb (by show (_ : Nat) ≠ _; decide)) (hk hr (by show (_ : Nat) ≠ _; decide))
    inv := h.inv
    mb := by rw [heap_setCell_same _ _ _ _ _ _ h.mb]; rfl
    wb := (hk h.wb (by show (_ : Nat) ≠ _; decide)).trans h.wb
    lb := (hk h.lb (by show (_ : Nat) ≠ _; decide)).trans h.lb
    qu := h.qu.keep fun g hg => hk (h.qu.blk hg).2.choose_spec (by show (_ : Nat) ≠ _; decide)
    lv := h.lv
    ll := h.ll
    rows := fun i v hv => own_keep (h.rows i v hv) fun g hg => hk (own_blk (h.rows i v hv) hg).2.choose_spec (by show (_ : Nat) ≠ _; decide)
    apart := h.apart
    up := h.up }
/-- Another queue. -/
theorem Wk.queue {w' : World} {q' : List Pr} {qv' : Value} (h : Wk W w a M s q qv vs) (hg : w.grownBy w' qv.ownBlock) (hq : Qu w' W.heap.size qv' q') : Wk W (w'.setCell ⟨a.wk, 2, none⟩ qv') a M s q' qv' vs := by
  have hk0 : ∀ {g : Nat} {x : Array Value} {t : TypeId} {f : Nat × Nat}, w.heap[g]? = some (.cells x t f) → 59 ≠ t → w'.heap[g]? = w.heap[g]? := fun {g x t f} hx hne =>
    hg.block g (lt_of hx) (fun e => by
      obtain ⟨_, cur, hc⟩ := h.qu.blk e.symm
      exact ne_of_type hc hx hne rfl)
  have hk : ∀ {g : Nat} {x : Array Value} {t : TypeId} {f : Nat × Nat}, w.heap[g]? = some (.cells x t f) → 59 ≠ t → 54 ≠ t → (w'.setCell ⟨a.wk, 2, none⟩ qv').heap[g]? = w.heap[g]? := fun {g x t f} hx hne hne2 =>
    (set_other w' _ _ _ (by have := ne_of_type h.wb hx hne2; omega)).trans (hk0 hx hne)
  have hw := (hk0 h.wb (by show (_ : Nat) ≠ _; decide)).trans h.wb
  obtain ⟨Z, hr⟩ := h.fam.rb
  obtain ⟨cp, hb⟩ := h.fam.fb
  exact {
    bel := set_bel (h.bel.grown hg h.bel.size (fun k hk => (h.qu.blk hk).1)) h.up.2.2.1
    fam := h.fam.keep (hk hb (by show (_ : Nat) ≠ _; decide) (by show (_ : Nat) ≠ _; decide)) (hk hr (by show (_ : Nat) ≠ _; decide) (by show (_ : Nat) ≠ _; decide))
    inv := h.inv
    mb := (hk h.mb (by show (_ : Nat) ≠ _; decide) (by show (_ : Nat) ≠ _; decide)).trans h.mb
    wb := by rw [heap_setCell_same _ _ _ _ _ _ hw]; rfl
    lb := (hk h.lb (by show (_ : Nat) ≠ _; decide) (by show (_ : Nat) ≠ _; decide)).trans h.lb
    qu := hq.keep fun g hg => set_other w' _ _ _ (by
      obtain ⟨_, cur, hc⟩ := hq.blk hg
      exact (ne_of_type hc hw (by show (_ : Nat) ≠ _; decide)))
    lv := h.lv
    ll := h.ll
    rows := fun i v hv => own_keep (h.rows i v hv) fun g hg => hk (own_blk (h.rows i v hv) hg).2.choose_spec (by show (_ : Nat) ≠ _; decide) (by show (_ : Nat) ≠ _; decide)
    apart := h.apart
    up := h.up }
/-- A rule more looks at a role. -/
theorem Wk.look {w' : World} {i : Nat} {v v' : Value} {u : Ru} (h : Wk W w a M s q qv vs) (hi : i < a.n) (hv : vs[i]? = some v) (hg : w.grownBy w' v.ownBlock) (hm : Moves w v.ownBlock v'.ownBlock)
    (ho : w'.ownsRow W.heap.size 25 6 v' ((s.look.getD i []).length + 1) (cellsR (s.look.getD i []) ++ u.cells.toList)) : Wk W (w'.setCell ⟨a.Lb, i, none⟩ v') a M (lookM s i u) q qv (vs.set i v') := by
  have hrow := h.rows i v hv
  have hk0 : ∀ {g : Nat} {x : Array Value} {t : TypeId} {f : Nat × Nat}, w.heap[g]? = some (.cells x t f) → 25 ≠ t → w'.heap[g]? = w.heap[g]? := fun {g x t f} hx hne =>
    hg.block g (lt_of hx) (fun e => by
      obtain ⟨_, cur, hc⟩ := own_blk hrow e.symm
      exact ne_of_type hc hx hne rfl)
  have hk : ∀ {g : Nat} {x : Array Value} {t : TypeId} {f : Nat × Nat}, w.heap[g]? = some (.cells x t f) → 25 ≠ t → 23 ≠ t → (w'.setCell ⟨a.Lb, i, none⟩ v').heap[g]? = w.heap[g]? := fun {g x t f} hx hne hne2 =>
    (set_other w' _ _ _ (by have := ne_of_type h.lb hx hne2; omega)).trans (hk0 hx hne)
  have hw := (hk0 h.lb (by show (_ : Nat) ≠ _; decide)).trans h.lb
  have hnlb : ∀ {g : Nat} {X : World} {cur : Array Value} {f : Nat × Nat}, X.heap[g]? = some (.cells cur 25 f) → X.heap[a.Lb]? = some (.cells vs.toArray 23 (0, 0)) → g ≠ a.Lb := fun hx hy => ne_of_type hx hy (by show (_ : Nat) ≠ _; decide)
  obtain ⟨Z, hr⟩ := h.fam.rb
  obtain ⟨cp, hb⟩ := h.fam.fb
  have hlu : ∀ j, (lookM s i u).look.getD j [] = if j = i then s.look.getD i [] ++ [u] else s.look.getD j [] := fun j => by
    unfold lookM
    simp only [getD_modify]
    by_cases e : j = i
    · subst e
      rw [if_pos ⟨by simp, by rw [h.ll]; exact hi⟩, if_pos rfl]
    · rw [if_neg (by simp; omega), if_neg e]
  have hother : ∀ j u2, vs[j]? = some u2 → j ≠ i → w'.ownsRow W.heap.size 25 6 u2 (s.look.getD j []).length (cellsR (s.look.getD j [])) := fun j u2 hu hne =>
    own_keep (h.rows j u2 hu) fun g hg2 => hg.block g (lt_of (own_blk (h.rows j u2 hu) hg2).2.choose_spec) (fun e => h.apart i j v u2 hv hu (by omega) g e.symm hg2)
  have hstore : ∀ {e : Value} {m : Nat} {xs : List Value}, w'.ownsRow W.heap.size 25 6 e m xs → (w'.setCell ⟨a.Lb, i, none⟩ v').ownsRow W.heap.size 25 6 e m xs := fun hx =>
    own_keep hx fun g hg => set_other w' _ _ _ (by
      obtain ⟨_, cur, hc⟩ := own_blk hx hg
      exact hnlb hc hw)
  have hget : ∀ j x, (vs.set i v')[j]? = some x → (j = i ∧ x = v') ∨ (j ≠ i ∧ vs[j]? = some x) := fun j x hx => by
    rw [List.getElem?_set] at hx
    split at hx
    · rename_i e
      split at hx
      · injection hx with hx
        exact .inl ⟨e.symm, hx.symm⟩
      · cases hx
    · rename_i e
      exact .inr ⟨fun e2 => e e2.symm, hx⟩
  exact {
    bel := set_bel (h.bel.grown hg h.bel.size (fun k hk => (own_blk hrow hk).1)) h.up.2.2.2.1
    fam := h.fam.keep (hk hb (by show (_ : Nat) ≠ _; decide) (by show (_ : Nat) ≠ _; decide)) (hk hr (by show (_ : Nat) ≠ _; decide) (by show (_ : Nat) ≠ _; decide))
    inv := h.inv
    mb := (hk h.mb (by show (_ : Nat) ≠ _; decide) (by show (_ : Nat) ≠ _; decide)).trans h.mb
    wb := (hk h.wb (by show (_ : Nat) ≠ _; decide) (by show (_ : Nat) ≠ _; decide)).trans h.wb
    lb := by
      rw [heap_setCell_same _ _ _ _ _ _ hw]
      congr 2
      simp
    qu := h.qu.keep fun g hg => hk (h.qu.blk hg).2.choose_spec (by show (_ : Nat) ≠ _; decide) (by show (_ : Nat) ≠ _; decide)
    lv := by rw [List.length_set]; exact h.lv
    ll := by unfold lookM; simp [h.ll]
    rows := fun j x hx => by
      rw [hlu]
      rcases hget j x hx with ⟨rfl, rfl⟩ | ⟨hne, hx⟩
      · rw [if_pos rfl]
        have e : cellsR (s.look.getD j [] ++ [u]) = cellsR (s.look.getD j []) ++ u.cells.toList := by rw [cellsR_app]; simp [cellsR]
        rw [e, List.length_append]
        exact hstore ho
      · rw [if_neg hne]
        exact hstore (hother j x hx hne)
    apart := fun j k x y hx hy hne g hgx hgy => by
      have hnew : ∀ (k : Nat) (y : Value), k ≠ i → vs[k]? = some y → v'.ownBlock = some g → y.ownBlock ≠ some g := fun k y hk hy hg1 hg2 => by
        rcases hm with e | ⟨g', e, hge⟩
        · exact h.apart i k v y hv hy (by omega) g (e ▸ hg1) hg2
        · rw [e] at hg1
          injection hg1 with hg1
          have := lt_of (own_blk (h.rows k y hy) hg2).2.choose_spec
          omega
      rcases hget j x hx with ⟨hj, ex⟩ | ⟨hj, hx2⟩
      · rcases hget k y hy with ⟨hk, ey⟩ | ⟨hk, hy2⟩
        · exact hne (hj.trans hk.symm)
        · exact hnew k y hk hy2 (ex ▸ hgx) hgy
      · rcases hget k y hy with ⟨hk, ey⟩ | ⟨hk, hy2⟩
        · exact hnew j x hj hx2 (ey ▸ hgy) hgx
        · exact h.apart j k x y hx2 hy2 hne g hgx hgy
    up := h.up }
end Go.Proofs.YtccmlmahjgndbaaDoor.SemB
/- The worklist: put, look, by contract. -/
namespace Go.Proofs.YtccmlmahjgndbaaDoor.SemC
set_option linter.unusedVariables false
set_option linter.unusedSimpArgs false
open Go.RowKit Go.Lib Go.Proofs Go.Proofs.YtccmlmahjgndbaaDoor.SetA Go.Proofs.YtccmlmahjgndbaaDoor.SetB Go.Proofs.YtccmlmahjgndbaaDoor.SetJ Go.Proofs.YtccmlmahjgndbaaDoor.SetN Go.Proofs.YtccmlmahjgndbaaDoor.SetQ Go.Proofs.YtccmlmahjgndbaaDoor.SetR Go.Proofs.YtccmlmahjgndbaaDoor.TblC Go.Proofs.YtccmlmahjgndbaaDoor.TblV Go.Proofs.YtccmlmahjgndbaaDoor.SemA Go.Proofs.YtccmlmahjgndbaaDoor.SemB
set_option linter.unusedVariables false
set_option linter.unusedSimpArgs false
section
variable {P : Program} (w : World)
/-- append where there is room, to a slice that begins within its block. -/
theorem run_append_room_off (t ty e : TypeId) (i : TypeInfo) (ht : P.underlying t = some (.slice e)) (hi : P.info? e = some i)
    (g o sLen sCap : Nat) (cur : Array Value) (hg : w.heap[g]? = some (.cells cur e (0, 0)))
    (a : Addr) (m c : Nat) (news : List Value) (hl : news.length = m * i.size) (hnews : ∀ j u, news[j]? = some u → w.cell? (a.add j) = some u) (h1 : ∀ u ∈ news, u.oneCell' = true)
    (hroom : sLen + m ≤ sCap) (hfit : o + sLen * i.size + news.length ≤ cur.size) :
    (Builtin.append_ #[t, t] ty #[.slice (some ⟨g, o, none⟩) sLen sCap, .slice (some a) m c]).run P w =
      .ok (.slice (some ⟨g, o, none⟩) (sLen + m) sCap) (w.setRow g (cur.toList.take (o + sLen * i.size) ++ news ++ cur.toList.drop (o + sLen * i.size + news.length)).toArray) := by
  have hf := run_firstCells_some (P := P) w i.size m a m c news hl hnews
  have hst := run_storeCells_at P g (o + sLen * i.size) e news 0 cur w hg (by simpa using hfit) h1
  simp only [Nat.add_zero] at hst
  simp [Builtin.append_, run_underlying ht, sizeOf, typeInfo, hi, Builtin.lenOf, hroom, hf, Addr.add_lit, hst]
end
theorem infoPr : (Tryd.prog.info? 59).map (fun i => (i.zero, i.size, i.bytes)) = some (some (.agg #[.int .i64 0, .int .i64 0]), 2, 16) := by kernel_rfl
theorem infoRu : (Tryd.prog.info? 25).map (fun i => (i.zero, i.size, i.bytes)) = some (some zeroU.val, 6, 48) := by kernel_rfl
theorem add_off (g o j : Nat) : (⟨g, o, none⟩ : Addr).add j = ⟨g, o + j, none⟩ := by
  unfold Addr.add
  split <;> simp_all
theorem mid_two (A B : List Value) (x y : Value) {i : Nat} (h : A.length = i) : (A ++ ([x, y] ++ B))[i]? = some x ∧ (A ++ ([x, y] ++ B))[i + 1]? = some y := by
  subst h
  constructor
  · rw [List.getElem?_append_right (Nat.le_refl _)]; simp
  · rw [List.getElem?_append_right (by omega)]; simp
/-- One who came in is put behind the queue. -/
theorem run_append_qu {w : World} {base : Nat} {qv : Value} {q : List Pr} (ty : TypeId) (hq : Qu w base qv q) (hb : base ≤ w.heap.size) (hl : q.length ≤ 100000000) (r x : Int) (ad : Addr) (c : Nat)
    (hnews : ∀ j u, ([.int .i64 r, .int .i64 x] : List Value)[j]? = some u → w.cell? (ad.add j) = some u) :
    ∃ v' w', (Builtin.append_ #[52, 52] ty #[qv, .slice (some ad) 1 c]).run Tryd.prog w = .ok v' w' ∧ Qu w' base v' (q ++ [(r, x)]) ∧ w.grownBy w' qv.ownBlock ∧ Moves w qv.ownBlock v'.ownBlock := by
  obtain ⟨i0, hi, hz0, hz1, hz2⟩ := info_parts infoPr
  have hm : maxLen = 9223372036854775807 := rfl
  rcases hq with ⟨rfl, rfl⟩ | ⟨g, o, cap, cur, rfl, hB, hg, hc, hcm, hs, hat⟩
  · have hr := run_append_nil (P := Tryd.prog) w 52 ty 59 i0 (.agg #[.int .i64 0, .int .i64 0]) Tryd.underlying52 hi hz0 ad 1 c [.int .i64 r, .int .i64 x] (by rw [hz1]; rfl) hnews (by omega) (by omega) (by rw [hz2]; omega)
    refine ⟨_, _, hr, .inr ⟨w.heap.size, 0, _, _, rfl, hb, heap_alloc_new w.drew _, grownCap_ge w 1 0 _, grownCap_le_maxLen w 1 0 _ (by omega), ?_, ?_⟩, ⟨rfl, rfl, rfl, by simp, fun k hk _ => heap_alloc_old w.drew _ hk⟩, .inr ⟨_, rfl, Nat.le_refl _⟩⟩
    · have := grownCap_ge w 1 0 59
      have h2 : (Value.agg #[.int .i64 0, .int .i64 0]).cells.size = 2 := rfl
      simp only [Array.size_append, List.size_toArray, size_zeroCells, h2, List.length_cons, List.length_nil]
      omega
    · intro j hj
      have : j = 0 := by simp at hj; omega
      subst this
      exact ⟨by rw [Array.getElem?_append_left (by simp)]; rfl, by rw [Array.getElem?_append_left (by simp)]; rfl⟩
  · have hcs : cur.toList.length = cur.size := by simp
    by_cases hroom : q.length + 1 ≤ cap
    · have hr := run_append_room_off (P := Tryd.prog) w 52 ty 59 i0 Tryd.underlying52 hi g o q.length cap cur hg ad 1 c [.int .i64 r, .int .i64 x] (by rw [hz1]; rfl) hnews (fun u hu => by simp at hu; rcases hu with rfl | rfl <;> rfl) hroom (by rw [hz1]; simp; omega)
      rw [hz1] at hr
      have hsz : (cur.toList.take (o + q.length * 2) ++ [Value.int .i64 r, .int .i64 x] ++ cur.toList.drop (o + q.length * 2 + 2)).length = cur.size := by
        simp only [List.length_append, List.length_take, List.length_drop, Array.length_toList, List.length_cons, List.length_nil]
        omega
      refine ⟨_, _, hr, .inr ⟨g, o, cap, _, by rw [List.length_append]; rfl, hB, setRow_heap w g cur _ _ _ hg, by rw [List.length_append]; exact hroom, hcm, by simp only [List.size_toArray]; exact Nat.le_trans hs (Nat.le_of_eq hsz.symm), ?_⟩, ⟨rfl, rfl, rfl, by simp, fun k _ hk => setRow_other w g k _ (fun e => hk (by simp [Value.ownBlock, e]))⟩, .inl rfl⟩
      intro j hj
      have htl : (cur.toList.take (o + q.length * 2)).length = o + q.length * 2 := by rw [List.length_take, hcs]; omega
      simp only [List.getElem?_toArray, List.append_assoc]
      by_cases hjl : j < q.length
      · obtain ⟨a1, a2⟩ := hat j hjl
        rw [List.getElem?_append_left (by rw [htl]; omega), List.getElem?_append_left (by rw [htl]; omega), List.getElem?_take_of_lt (by omega), List.getElem?_take_of_lt (by omega), List.getElem_append_left hjl]
        simp only [Array.getElem?_toList]
        exact ⟨a1, a2⟩
      · have : j = q.length := by simp at hj; omega
        subst this
        obtain ⟨m1, m2⟩ := mid_two (cur.toList.take (o + q.length * 2)) (cur.toList.drop (o + q.length * 2 + 2)) (.int .i64 r) (.int .i64 x) htl
        refine ⟨m1.trans ?_, m2.trans ?_⟩ <;> simp
    · have hcl : ∀ j u, (encP q)[j]? = some u → w.cell? ((⟨g, o, none⟩ : Addr).add j) = some u := fun j u hu => by
        have hj : j < q.length * 2 := by
          rw [← encP_len]
          rcases Nat.lt_or_ge j (encP q).length with h | h
          · exact h
          · rw [List.getElem?_eq_none h] at hu; cases hu
        obtain ⟨b1, b2⟩ := encP_at q (j / 2) (by omega)
        obtain ⟨a1, a2⟩ := hat (j / 2) (by omega)
        rw [add_off, Lib.cell_of_heap hg]
        rcases (by omega : j = j / 2 * 2 ∨ j = j / 2 * 2 + 1) with e | e
        · rw [← e] at a1 b1; rw [a1, ← b1, hu]
        · rw [Nat.add_assoc, ← e] at a2; rw [← e] at b2; rw [a2, ← b2, hu]
      have hr := run_append_grow (P := Tryd.prog) w 52 ty 59 i0 (.agg #[.int .i64 0, .int .i64 0]) Tryd.underlying52 hi hz0 ⟨g, o, none⟩ q.length cap (encP q) (by rw [hz1, encP_len]) hcl ad 1 c [.int .i64 r, .int .i64 x] (by rw [hz1]; rfl) hnews (by omega) (by omega) (growslice_fits (by omega) (by rw [hz2]; omega))
      have hge := grownCap_ge w (q.length + 1) cap 59
      refine ⟨_, _, hr, .inr ⟨w.heap.size, 0, _, _, by rw [List.length_append]; rfl, hb, heap_alloc_new w.drew _, by rw [List.length_append]; exact hge, grownCap_le_maxLen w (q.length + 1) cap _ (by omega), ?_, ?_⟩, ⟨rfl, rfl, rfl, by simp, fun k hk _ => heap_alloc_old w.drew _ hk⟩, .inr ⟨_, rfl, Nat.le_refl _⟩⟩
      · have h2 : (Value.agg #[.int .i64 0, .int .i64 0]).cells.size = 2 := rfl
        simp only [Array.size_append, List.size_toArray, size_zeroCells, h2, List.length_cons, List.length_nil, encP_len]
        omega
      · intro j hj
        have e : (encP q).toArray ++ #[Value.int .i64 r, .int .i64 x] = (encP (q ++ [(r, x)])).toArray := by rw [encP_app]; simp [encP]
        have e2 : (encP q).toArray ++ [Value.int .i64 r, .int .i64 x].toArray = (encP (q ++ [(r, x)])).toArray := e
        rw [e2]
        obtain ⟨b1, b2⟩ := encP_at (q ++ [(r, x)]) j hj
        have hsz : (encP (q ++ [(r, x)])).toArray.size = (q ++ [(r, x)]).length * 2 := by simp [encP_len]
        rw [Array.getElem?_append_left (by rw [hsz]; omega), Array.getElem?_append_left (by rw [hsz]; omega), Nat.zero_add]
        simp only [List.getElem?_toArray]
        exact ⟨b1, b2⟩
/-- Blocks of other types stay as they were. -/
def Chg (w w' : World) (ts : List TypeId) : Prop := w.heap.size ≤ w'.heap.size ∧ ∀ (b : Nat) (x : Array Value) (t : TypeId) (f : Nat × Nat), w.heap[b]? = some (.cells x t f) → t ∉ ts → w'.heap[b]? = some (.cells x t f)
theorem Chg.below {w w' : World} (h : Below w.heap.size w w') (ts : List TypeId) : Chg w w' ts := ⟨h.size, fun b x t f hx _ => (h.block b (lt_of hx)).trans hx⟩
theorem Chg.trans {a b c : World} {ts : List TypeId} (h : Chg a b ts) (k : Chg b c ts) : Chg a c ts := ⟨Nat.le_trans h.1 k.1, fun b x t f hx hn => k.2 b x t f (h.2 b x t f hx hn) hn⟩
theorem Chg.more {a b : World} {ts us : List TypeId} (h : Chg a b ts) (hs : ∀ t ∈ ts, t ∈ us) : Chg a b us := ⟨h.1, fun b x t f hx hn => h.2 b x t f hx fun hm => hn (hs t hm)⟩
theorem Chg.set {w : World} {ts : List TypeId} {b i : Nat} {v : Value} {y : Array Value} {t : TypeId} {f : Nat × Nat} (h : w.heap[b]? = some (.cells y t f)) (ht : t ∈ ts) : Chg w (w.setCell ⟨b, i, none⟩ v) ts :=
  ⟨by simp [World.setCell], fun c x t2 f2 hx hn => (set_other w _ _ _ (ne_of_type hx h (fun e => hn (e ▸ ht)))).trans hx⟩
theorem Chg.grown {w w' : World} {ts : List TypeId} {r : Option Nat} (hg : w.grownBy w' r) (h : ∀ g, r = some g → ∃ y t f, w.heap[g]? = some (.cells y t f) ∧ t ∈ ts) : Chg w w' ts :=
  ⟨hg.size, fun b x t f hx hn => (hg.block b (lt_of hx) (fun e => by
    obtain ⟨y, t2, f2, hy, ht⟩ := h b e.symm
    exact ne_of_type hy hx (fun e => hn (e ▸ ht)) rfl)).trans hx⟩
/-- A row of rules that is gone through while others come behind it. -/
structure Snap (w : World) (vs : List Value) (look : List (List Ru)) (g : Nat) (T : List Ru) : Prop where
  ty : ∃ cur, w.heap[g]? = some (.cells cur 25 (0, 0))
  at_ : ∀ (j : Nat) (h : j < T.length) (k : Nat), k < 6 → w.cell? ⟨g, j * 6 + k, none⟩ = (T[j].cells)[k]?
  own : ∀ (i : Nat) (v : Value), vs[i]? = some v → v.ownBlock = some g → T <+: look.getD i []
theorem Snap.chg {w w' : World} {vs : List Value} {look : List (List Ru)} {g : Nat} {T : List Ru} {ts : List TypeId} (h : Snap w vs look g T) (hc : Chg w w' ts) (hn : 25 ∉ ts) : Snap w' vs look g T := by
  obtain ⟨cur, hg⟩ := h.ty
  have hg' := hc.2 _ _ _ _ hg hn
  exact ⟨⟨cur, hg'⟩, fun j hj k hk => by rw [← h.at_ j hj k hk, Lib.cell_of_heap hg', Lib.cell_of_heap hg], h.own⟩
/-- What is gone through meanwhile: rows of rules, and rows of numbers. -/
structure Frm where
  rules : List (Nat × List Ru)
  nums : List (Nat × Array Value)
  prs : List (Nat × Pr)
structure Frm.ok (F : Frm) (w : World) (vs : List Value) (look : List (List Ru)) (qv : Value) : Prop where
  r : ∀ p ∈ F.rules, Snap w vs look p.1 p.2
  n : ∀ p ∈ F.nums, w.heap[p.1]? = some (.cells p.2 3 (0, 0))
  p : ∀ p ∈ F.prs, w.heap[p.1]? = some (.cells #[.int .i64 p.2.1, .int .i64 p.2.2] 59 (0, 0)) ∧ qv.ownBlock ≠ some p.1
theorem Frm.ok.chg {F : Frm} {w w' : World} {vs : List Value} {look : List (List Ru)} {qv : Value} {ts : List TypeId} (h : F.ok w vs look qv) (hc : Chg w w' ts) (hn : 25 ∉ ts) (hm : 3 ∉ ts) (hp : 59 ∉ ts) : F.ok w' vs look qv :=
  ⟨fun p hp => (h.r p hp).chg hc hn, fun p hp => hc.2 _ _ _ _ (h.n p hp) hm, fun p hq => ⟨hc.2 _ _ _ _ (h.p p hq).1 hp, (h.p p hq).2⟩⟩
/-- Another queue. -/
theorem Frm.ok.queue {F : Frm} {w w' : World} {vs : List Value} {look : List (List Ru)} {qv qv' : Value} (h : F.ok w vs look qv) (hg : w.grownBy w' qv.ownBlock) (hq : ∀ g, qv.ownBlock = some g → ∃ cur, w.heap[g]? = some (.cells cur 59 (0, 0))) (hm : Moves w qv.ownBlock qv'.ownBlock) : F.ok w' vs look qv' := by
  have hc : Chg w w' [59] := Chg.grown hg (fun g e => by
    obtain ⟨cur, hc⟩ := hq g e
    exact ⟨_, _, _, hc, by simp⟩)
  refine ⟨fun p hp => (h.r p hp).chg hc (by decide), fun p hp => hc.2 _ _ _ _ (h.n p hp) (by decide), fun p hp => ?_⟩
  obtain ⟨h1, h2⟩ := h.p p hp
  refine ⟨(hg.block _ (lt_of h1) (fun e => h2 e.symm)).trans h1, fun e => ?_⟩
  rcases hm with hm | ⟨g', hm, hge⟩
  · exact h2 (hm.symm.trans e)
  · rw [hm] at e
    injection e with e
    have := lt_of h1
    omega
/-- The worklist in memory, wherever its rows lie; h of those who came in were followed. -/
def Wq (W w : World) (a : Ad) (s : Sm) (h : Nat) (F : Frm) : Prop := h ≤ s.all.length ∧ ∃ M qv vs, Wk W w a M s (s.all.drop h) qv vs ∧ F.ok w vs s.look qv
theorem Wq.below {W w w' : World} {a : Ad} {s : Sm} {h : Nat} {F : Frm} (hq : Wq W w a s h F) (hb : Below w.heap.size w w') : Wq W w' a s h F := by
  obtain ⟨h1, M, qv, vs, h2, h3⟩ := hq
  exact ⟨h1, M, qv, vs, h2.below hb, h3.chg (Chg.below hb []) (by simp) (by simp) (by simp)⟩
def WPost (W : World) (a : Ad) (s : Sm) (h : Nat) (F : Frm) (e : Ending) (w' : World) : Prop := e = .returned (.tuple #[]) ∧ Wq W w' a s h F
set_option maxHeartbeats 1000000 in
set_option maxRecDepth 100000 in
theorem put (W w : World) (a : Ad) (s : Sm) (h : Nat) (r x : Int) (F : Frm) (hw : Wq W w a s h F) (hl : s.all.length ≤ 100000000) :
    Calls Tryd.prog 42 #[.pointer (some ⟨a.wk, 0, none⟩), .int .i64 r, .int .i64 x] w (WPost W a (putM a.n a.c s r x) h F) := by
  obtain ⟨hh, M, qv, vs, hk, hfr⟩ := hw
  have HFR := Lib.hid hfr
  clear hfr
  obtain ⟨Z, hr⟩ := hk.fam.rb
  have HRB := Lib.hid hr
  clear hr
  have HA := Lib.hid (add_ a.B a.R a.n a.c M r x w hk.fam)
  have hadd := hk.inv.addB r x
  have cw := fun o => Lib.cell_of_heap hk.wb o
  have cm := fun o => Lib.cell_of_heap hk.mb o
  have HK := Lib.hid hk
  have HI := Lib.hid (hk.inv.add r x)
  clear hk
  unfold AddPost at HA
  rw [hadd] at HA
  clear hadd
  unfold WPost putM
  cases hb : (mayB a.n a.c r x && !hasL s.all r x) with
  | false =>
    rw [hb] at HA
    have hput : putL a.n a.c s.all r x = s.all := by unfold putL; rw [hb]; rfl
    rw [hput] at HI ⊢
    clear hb
    go_enter Tryd.func42, Tryd.ntmps42
    go_wp2_with fail
    refine HA.out.mono ?_
    rintro e w1 ⟨rfl, hf, hg⟩
    have HF := Lib.hid (HK.out.add hf HI.out rfl rfl hg)
    have HC := Lib.hid (HFR.out.chg (Chg.grown (ts := [75]) hg (fun g e => by injection e with e; subst e; exact ⟨_, _, _, HRB.out, by simp⟩)) (by decide) (by decide) (by decide))
    clear hf hg HA cw cm
    go_wp2_with fail
    go_end0
    exact ⟨rfl, hh, _, _, _, HF.out, HC.out⟩
  | true =>
    rw [hb] at HA
    have hput : putL a.n a.c s.all r x = s.all ++ [(r, x)] := by unfold putL; rw [hb]; rfl
    rw [hput] at HI ⊢
    clear hb
    go_enter Tryd.func42, Tryd.ntmps42
    go_wp2_with fail
    refine HA.out.mono ?_
    rintro e w1 ⟨rfl, hf, hg⟩
    have hF := HK.out.add (s' := { s with all := s.all ++ [(r, x)] }) hf HI.out rfl rfl hg
    have cw1 := fun o => Lib.cell_of_heap hF.wb o
    have hC1 := HFR.out.chg (Chg.grown (ts := [75]) hg (fun g e => by injection e with e; subst e; exact ⟨_, _, _, HRB.out, by simp⟩)) (by decide) (by decide) (by decide)
    have hC2 := hC1.chg (Chg.below ((Below.refl w1.heap.size w1).alloc (Nat.le_refl _) (.cells #[.int .i64 r, .int .i64 x] 59)) []) (by simp) (by simp) (by simp)
    have hF2 := hF.below ((Below.refl w1.heap.size w1).alloc (Nat.le_refl _) (.cells #[.int .i64 r, .int .i64 x] 59))
    have hq := hF2.qu
    have HF2 := Lib.hid hF2
    have hnews : ∀ j u, ([.int .i64 r, .int .i64 x] : List Value)[j]? = some u → (w1.alloc (.cells #[.int .i64 r, .int .i64 x] 59)).cell? ((⟨w1.heap.size, 0, none⟩ : Addr).add j) = some u := fun j u hu => by
      rw [add_off, Lib.cell_of_heap (heap_alloc_new w1 _), ← hu]
      simp
    obtain ⟨qv', w2, hrun, hq2, hg2, hmv2⟩ := run_append_qu 52 hq hF2.bel.size (by rw [List.length_drop]; omega) r x ⟨w1.heap.size, 0, none⟩ 1 hnews
    obtain ⟨A2, n2, c2, rfl⟩ : ∃ A n c, qv' = .slice A n c := by
      rcases hq2 with ⟨rfl, _⟩ | ⟨g, o, cap, cur, rfl, _⟩ <;> exact ⟨_, _, _, rfl⟩
    have hG := HF2.out.queue hg2 hq2
    have hdrop : s.all.drop h ++ [(r, x)] = (s.all ++ [(r, x)]).drop h := by rw [List.drop_append_of_le_length hh]
    rw [hdrop] at hG
    have HG := Lib.hid hG
    have hC3 := hC2.queue hg2 (fun g e => (hq.blk e).2) hmv2
    have hwb2 : w2.heap[a.wk]? = _ := (hg2.block _ (lt_of hF2.wb) (fun e => by
        obtain ⟨_, cur, hc⟩ := hq.blk e.symm
        exact ne_of_type hc hF2.wb (by show (_ : Nat) ≠ _; decide) rfl)).trans hF2.wb
    have HC := Lib.hid (hC3.chg (Chg.set (i := 2) (v := .slice A2 n2 c2) (ts := [54]) hwb2 (by simp)) (by decide) (by decide) (by decide))
    clear hmv2 hC1 hC2 hC3 hwb2
    have cfw : ∀ o, w2.frozen? ⟨a.wk, o, none⟩ = false := fun o => by
      have hwb : w2.heap[a.wk]? = _ := (hg2.block _ (lt_of hF2.wb) (fun e => by
        obtain ⟨_, cur, hc⟩ := hq.blk e.symm
        exact ne_of_type hc hF2.wb (by show (_ : Nat) ≠ _; decide) rfl)).trans hF2.wb
      exact frozen_of_row _ _ _ _ _ hwb
    have cww : ∀ o, w2.cell? ⟨a.wk, o, none⟩ = _ := fun o => by
      have hwb : w2.heap[a.wk]? = _ := (hg2.block _ (lt_of hF2.wb) (fun e => by
        obtain ⟨_, cur, hc⟩ := hq.blk e.symm
        exact ne_of_type hc hF2.wb (by show (_ : Nat) ≠ _; decide) rfl)).trans hF2.wb
      exact Lib.cell_of_heap hwb o
    have HR := Lib.hid hrun
    clear hf hg HA cw cm hF hF2 hq hG hrun hq2 hg2 hnews HI
    go_wp2_with (at_builtin; refine Lib.wpList_append_run _ rfl _ _ 52 52 rfl _ _ rfl rfl _ _ HR.out ?_)
    go_wp2_with fail
    go_end0
    exact ⟨rfl, by simp; omega, _, _, _, HG.out, HC.out⟩
end Go.Proofs.YtccmlmahjgndbaaDoor.SemC
