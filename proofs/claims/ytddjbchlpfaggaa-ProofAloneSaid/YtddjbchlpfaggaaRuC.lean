/- Which rules may be: bare and Right, by contract. -/
import Derived.Test.YtddjbchlpfaggaaRuB
import Derived.RegionTactic
import Derived.Deep.CutBlock
import Derived.Deep.RegionHeld
import Derived.Deep.LoopGhost
import Derived.Deep.RegionHeld3
namespace Go.Proofs.Ytddjbchlpfaggaa.TblP
open Go.RowKit Go.Lib Go.Proofs Go.Proofs.Ytddjbchlpfaggaa.Plain Go.Proofs.Ytddjbchlpfaggaa.TblB Go.Proofs.Ytddjbchlpfaggaa.TblC Go.Proofs.Ytddjbchlpfaggaa.TblF
set_option linter.unusedVariables false
set_option linter.unusedSimpArgs false
instance (x y : Ru) : Decidable (x = y) := decidable_of_iff (x.kind = y.kind ∧ x.head = y.head ∧ x.who = y.who ∧ x.a = y.a ∧ x.b = y.b ∧ x.via = y.via) (by cases x; cases y; simp)
def bareK (u : Ru) : Bool := decide (u.kind = 1) || decide (u.kind = 2) || decide (u.kind = 3) || decide (u.kind = 4)
def bareU (u : Ru) : Ru := if u.kind = 1 then ⟨1, u.head, u.who, 0, 0, 0⟩ else if u.kind = 4 then ⟨4, u.head, 0, u.a, u.b, 0⟩ else if u.kind = 3 then ⟨3, u.head, 0, u.a, 0, u.via⟩ else if u.kind = 2 then ⟨2, u.head, 0, u.a, 0, 0⟩ else zeroU
def BarePost (u : Ru) (w : World) (e : Ending) (w' : World) : Prop := e = .returned (.tuple #[.agg (bareU u).cells, .bool (bareK u)]) ∧ RowKit.Below w.heap.size w w'
theorem three (w : World) (k h x a b v : Int) : RowKit.Below w.heap.size w (((w.alloc (.cells #[.int .i64 k, .int .i64 h, .int .i64 x, .int .i64 a, .int .i64 b, .int .i64 v] 44)).alloc (.cells #[.int .i64 0, .int .i64 0, .int .i64 0, .int .i64 0, .int .i64 0, .int .i64 0] 44)).alloc (.cells #[.int .i64 k, .int .i64 h, .int .i64 0, .int .i64 0, .int .i64 0, .int .i64 0] 44)) ∧
    (((w.alloc (.cells #[.int .i64 k, .int .i64 h, .int .i64 x, .int .i64 a, .int .i64 b, .int .i64 v] 44)).alloc (.cells #[.int .i64 0, .int .i64 0, .int .i64 0, .int .i64 0, .int .i64 0, .int .i64 0] 44)).alloc (.cells #[.int .i64 k, .int .i64 h, .int .i64 0, .int .i64 0, .int .i64 0, .int .i64 0] 44)).heap[w.heap.size]? = some (.cells #[.int .i64 k, .int .i64 h, .int .i64 x, .int .i64 a, .int .i64 b, .int .i64 v] 44 (0, 0)) ∧
    (((w.alloc (.cells #[.int .i64 k, .int .i64 h, .int .i64 x, .int .i64 a, .int .i64 b, .int .i64 v] 44)).alloc (.cells #[.int .i64 0, .int .i64 0, .int .i64 0, .int .i64 0, .int .i64 0, .int .i64 0] 44)).alloc (.cells #[.int .i64 k, .int .i64 h, .int .i64 0, .int .i64 0, .int .i64 0, .int .i64 0] 44)).heap[w.heap.size + 1]? = some (.cells zeroU.cells 44 (0, 0)) ∧
    RuAt (((w.alloc (.cells #[.int .i64 k, .int .i64 h, .int .i64 x, .int .i64 a, .int .i64 b, .int .i64 v] 44)).alloc (.cells #[.int .i64 0, .int .i64 0, .int .i64 0, .int .i64 0, .int .i64 0, .int .i64 0] 44)).alloc (.cells #[.int .i64 k, .int .i64 h, .int .i64 0, .int .i64 0, .int .i64 0, .int .i64 0] 44)) (w.heap.size + 2) ⟨k, h, 0, 0, 0, 0⟩ := by
  refine ⟨(((Below.refl w.heap.size w).alloc (Nat.le_refl _) _).alloc (by simp) _).alloc (by simp <;> omega) _, (Below.heap_alloc _ _ _ (by simp <;> omega)).trans (heap_alloc2_old w _ _), (Below.heap_alloc _ _ _ (by simp)).trans (heap_alloc2_new w _ _), ?_⟩
  have e := heap_alloc_new ((w.alloc (.cells #[.int .i64 k, .int .i64 h, .int .i64 x, .int .i64 a, .int .i64 b, .int .i64 v] 44)).alloc (.cells #[.int .i64 0, .int .i64 0, .int .i64 0, .int .i64 0, .int .i64 0, .int .i64 0] 44)) (.cells #[.int .i64 k, .int .i64 h, .int .i64 0, .int .i64 0, .int .i64 0, .int .i64 0] 44)
  have hz : ((w.alloc (.cells #[.int .i64 k, .int .i64 h, .int .i64 x, .int .i64 a, .int .i64 b, .int .i64 v] 44)).alloc (.cells #[.int .i64 0, .int .i64 0, .int .i64 0, .int .i64 0, .int .i64 0, .int .i64 0] 44)).heap.size = w.heap.size + 2 := by simp
  rw [hz] at e
  exact e
set_option maxHeartbeats 1000000 in
set_option maxRecDepth 100000 in
theorem bare1 (h x a b v : Int) (w : World) : Calls Try.prog 48 #[.agg #[.int .i64 1, .int .i64 h, .int .i64 x, .int .i64 a, .int .i64 b, .int .i64 v]] w fun e w' => e = .returned (.tuple #[.agg (⟨1, h, x, 0, 0, 0⟩ : Ru).cells, .bool true]) ∧ RowKit.Below w.heap.size w w' := by
  obtain ⟨k1, k2, k3, k4⟩ := three w 1 h x a b v
  have H1 := Lib.hid k1
  have H2 := Lib.hid k2
  have H3 := Lib.hid k3
  have H4 := Lib.hid k4
  clear k1 k2 k3 k4
  go_enter Try.func48, Try.ntmps48
  go_upto_region 2 with fail
  generalize ((w.alloc (.cells #[.int .i64 1, .int .i64 h, .int .i64 x, .int .i64 a, .int .i64 b, .int .i64 v] 44)).alloc (.cells #[.int .i64 0, .int .i64 0, .int .i64 0, .int .i64 0, .int .i64 0, .int .i64 0] 44)).alloc (.cells #[.int .i64 1, .int .i64 h, .int .i64 0, .int .i64 0, .int .i64 0, .int .i64 0] 44) = w3 at *
  have c := fun o => Lib.cell_of_heap H2.out o
  have r := fun o => RuAt.cell H4.out o
  simp only [Ru.cells] at r
  have f := fun o => RuAt.free H4.out o
  have HP : Hid (RuAt (w3.setCell ⟨w.heap.size + 2, 2, none⟩ (.int .i64 x)) (w.heap.size + 2) ⟨1, h, x, 0, 0, 0⟩) := Lib.hid (RuAt.put H4.out 2 (by omega) (by omega) x)
  have HO : Hid ((w3.setCell ⟨w.heap.size + 2, 2, none⟩ (.int .i64 x)).heap[w.heap.size + 1]? = some (.cells zeroU.cells 44 (0, 0))) := Lib.hid ((Below.heap_setCell _ _ _ _ (by show w.heap.size + 1 ≠ w.heap.size + 2; omega)).trans H3.out)
  have HB : Hid (RowKit.Below w.heap.size w (w3.setCell ⟨w.heap.size + 2, 2, none⟩ (.int .i64 x))) := Lib.hid (H1.out.setCell (by show w.heap.size ≤ w.heap.size + 2; omega) _)
  clear H1 H2 H3 H4
  go_wp2_with (first | (refine wpList_load_row rfl 44 _ rfl (w.heap.size + 2) rfl 44 (⟨1, h, x, 0, 0, 0⟩ : Ru).cells (0, 0) _ HP.out Try.underlying44 rfl infoRule ?_) | (refine wpList_store_row rfl 44 _ _ rfl (w.heap.size + 1) (⟨1, h, x, 0, 0, 0⟩ : Ru).cells rfl rfl 44 _ HO.out infoRule rfl (one6 _) ?_))
  have hl := cell_rule (u := ⟨1, h, x, 0, 0, 0⟩) HO.out
  have hz := below_setRow HB.out (show w.heap.size ≤ w.heap.size + 1 by omega) (⟨1, h, x, 0, 0, 0⟩ : Ru).cells
  generalize World.setRow _ (w.heap.size + 1) (⟨1, h, x, 0, 0, 0⟩ : Ru).cells = wz at hl hz ⊢
  refine bodyPost_ret (v := .tuple #[.agg (⟨1, h, x, 0, 0, 0⟩ : Ru).cells, .bool true]) (by simp [results, Try.results48, go_sem, hl, Ru.cells]) rfl ⟨rfl, hz⟩
set_option maxHeartbeats 1000000 in
set_option maxRecDepth 100000 in
theorem bare4 (h x a b v : Int) (w : World) : Calls Try.prog 48 #[.agg #[.int .i64 4, .int .i64 h, .int .i64 x, .int .i64 a, .int .i64 b, .int .i64 v]] w fun e w' => e = .returned (.tuple #[.agg (⟨4, h, 0, a, b, 0⟩ : Ru).cells, .bool true]) ∧ RowKit.Below w.heap.size w w' := by
  obtain ⟨k1, k2, k3, k4⟩ := three w 4 h x a b v
  have H1 := Lib.hid k1
  have H2 := Lib.hid k2
  have H3 := Lib.hid k3
  have H4 := Lib.hid k4
  clear k1 k2 k3 k4
  go_enter Try.func48, Try.ntmps48
  go_upto_region 2 with fail
  generalize ((w.alloc (.cells #[.int .i64 4, .int .i64 h, .int .i64 x, .int .i64 a, .int .i64 b, .int .i64 v] 44)).alloc (.cells #[.int .i64 0, .int .i64 0, .int .i64 0, .int .i64 0, .int .i64 0, .int .i64 0] 44)).alloc (.cells #[.int .i64 4, .int .i64 h, .int .i64 0, .int .i64 0, .int .i64 0, .int .i64 0] 44) = w3 at *
  have c := fun o => Lib.cell_of_heap H2.out o
  have r := fun o => RuAt.cell H4.out o
  simp only [Ru.cells] at r
  have f := fun o => RuAt.free H4.out o
  go_wp2_with fail
  go_region
  have HP : Hid (RuAt (((w3.setCell ⟨w.heap.size + 1 + 1, 3, none⟩ (.int .i64 a)).setCell ⟨w.heap.size + 1 + 1, 4, none⟩ (.int .i64 b)).drew) (w.heap.size + 1 + 1) ⟨4, h, 0, a, b, 0⟩) := Lib.hid (RuAt.put (RuAt.put H4.out 3 (by omega) (by omega) a) 4 (by omega) (by omega) b)
  have HO : Hid ((((w3.setCell ⟨w.heap.size + 1 + 1, 3, none⟩ (.int .i64 a)).setCell ⟨w.heap.size + 1 + 1, 4, none⟩ (.int .i64 b)).drew).heap[w.heap.size + 1]? = some (.cells zeroU.cells 44 (0, 0))) := Lib.hid ((Below.heap_setCell _ _ _ _ (by show w.heap.size + 1 ≠ w.heap.size + 2; omega)).trans ((Below.heap_setCell _ _ _ _ (by show w.heap.size + 1 ≠ w.heap.size + 2; omega)).trans H3.out))
  have HB : Hid (RowKit.Below w.heap.size w (((w3.setCell ⟨w.heap.size + 1 + 1, 3, none⟩ (.int .i64 a)).setCell ⟨w.heap.size + 1 + 1, 4, none⟩ (.int .i64 b)).drew)) := Lib.hid (((H1.out.setCell (by show w.heap.size ≤ w.heap.size + 2; omega) _).setCell (by show w.heap.size ≤ w.heap.size + 2; omega) _).drew)
  clear H1 H2 H3 H4
  go_wp2_with (first | (refine wpList_load_row rfl 44 _ rfl (w.heap.size + 1 + 1) rfl 44 (⟨4, h, 0, a, b, 0⟩ : Ru).cells (0, 0) _ HP.out Try.underlying44 rfl infoRule ?_) | (refine wpList_store_row rfl 44 _ _ rfl (w.heap.size + 1) (⟨4, h, 0, a, b, 0⟩ : Ru).cells rfl rfl 44 _ HO.out infoRule rfl (one6 _) ?_))
  have hl := cell_rule (u := ⟨4, h, 0, a, b, 0⟩) HO.out
  have hz := below_setRow HB.out (show w.heap.size ≤ w.heap.size + 1 by omega) (⟨4, h, 0, a, b, 0⟩ : Ru).cells
  generalize World.setRow _ (w.heap.size + 1) (⟨4, h, 0, a, b, 0⟩ : Ru).cells = wz at hl hz ⊢
  refine bodyPost_ret (v := .tuple #[.agg (⟨4, h, 0, a, b, 0⟩ : Ru).cells, .bool true]) (by simp [results, Try.results48, go_sem, hl, Ru.cells]) rfl ⟨rfl, hz⟩
set_option maxHeartbeats 1000000 in
set_option maxRecDepth 100000 in
theorem bare3 (h x a b v : Int) (w : World) : Calls Try.prog 48 #[.agg #[.int .i64 3, .int .i64 h, .int .i64 x, .int .i64 a, .int .i64 b, .int .i64 v]] w fun e w' => e = .returned (.tuple #[.agg (⟨3, h, 0, a, 0, v⟩ : Ru).cells, .bool true]) ∧ RowKit.Below w.heap.size w w' := by
  obtain ⟨k1, k2, k3, k4⟩ := three w 3 h x a b v
  have H1 := Lib.hid k1
  have H2 := Lib.hid k2
  have H3 := Lib.hid k3
  have H4 := Lib.hid k4
  clear k1 k2 k3 k4
  go_enter Try.func48, Try.ntmps48
  go_upto_region 2 with fail
  generalize ((w.alloc (.cells #[.int .i64 3, .int .i64 h, .int .i64 x, .int .i64 a, .int .i64 b, .int .i64 v] 44)).alloc (.cells #[.int .i64 0, .int .i64 0, .int .i64 0, .int .i64 0, .int .i64 0, .int .i64 0] 44)).alloc (.cells #[.int .i64 3, .int .i64 h, .int .i64 0, .int .i64 0, .int .i64 0, .int .i64 0] 44) = w3 at *
  have c := fun o => Lib.cell_of_heap H2.out o
  have r := fun o => RuAt.cell H4.out o
  simp only [Ru.cells] at r
  have f := fun o => RuAt.free H4.out o
  have HP : Hid (RuAt ((w3.setCell ⟨w.heap.size + 2, 5, none⟩ (.int .i64 v)).setCell ⟨w.heap.size + 2, 3, none⟩ (.int .i64 a)) (w.heap.size + 2) ⟨3, h, 0, a, 0, v⟩) := Lib.hid (RuAt.put (RuAt.put H4.out 5 (by omega) (by omega) v) 3 (by omega) (by omega) a)
  have HO : Hid (((w3.setCell ⟨w.heap.size + 2, 5, none⟩ (.int .i64 v)).setCell ⟨w.heap.size + 2, 3, none⟩ (.int .i64 a)).heap[w.heap.size + 1]? = some (.cells zeroU.cells 44 (0, 0))) := Lib.hid ((Below.heap_setCell _ _ _ _ (by show w.heap.size + 1 ≠ w.heap.size + 2; omega)).trans ((Below.heap_setCell _ _ _ _ (by show w.heap.size + 1 ≠ w.heap.size + 2; omega)).trans H3.out))
  have HB : Hid (RowKit.Below w.heap.size w ((w3.setCell ⟨w.heap.size + 2, 5, none⟩ (.int .i64 v)).setCell ⟨w.heap.size + 2, 3, none⟩ (.int .i64 a))) := Lib.hid ((H1.out.setCell (by show w.heap.size ≤ w.heap.size + 2; omega) _).setCell (by show w.heap.size ≤ w.heap.size + 2; omega) _)
  clear H1 H2 H3 H4
  go_wp2_with (first | (refine wpList_load_row rfl 44 _ rfl (w.heap.size + 2) rfl 44 (⟨3, h, 0, a, 0, v⟩ : Ru).cells (0, 0) _ HP.out Try.underlying44 rfl infoRule ?_) | (refine wpList_store_row rfl 44 _ _ rfl (w.heap.size + 1) (⟨3, h, 0, a, 0, v⟩ : Ru).cells rfl rfl 44 _ HO.out infoRule rfl (one6 _) ?_))
  have hl := cell_rule (u := ⟨3, h, 0, a, 0, v⟩) HO.out
  have hz := below_setRow HB.out (show w.heap.size ≤ w.heap.size + 1 by omega) (⟨3, h, 0, a, 0, v⟩ : Ru).cells
  generalize World.setRow _ (w.heap.size + 1) (⟨3, h, 0, a, 0, v⟩ : Ru).cells = wz at hl hz ⊢
  refine bodyPost_ret (v := .tuple #[.agg (⟨3, h, 0, a, 0, v⟩ : Ru).cells, .bool true]) (by simp [results, Try.results48, go_sem, hl, Ru.cells]) rfl ⟨rfl, hz⟩
set_option maxHeartbeats 1000000 in
set_option maxRecDepth 100000 in
theorem bare2 (h x a b v : Int) (w : World) : Calls Try.prog 48 #[.agg #[.int .i64 2, .int .i64 h, .int .i64 x, .int .i64 a, .int .i64 b, .int .i64 v]] w fun e w' => e = .returned (.tuple #[.agg (⟨2, h, 0, a, 0, 0⟩ : Ru).cells, .bool true]) ∧ RowKit.Below w.heap.size w w' := by
  obtain ⟨k1, k2, k3, k4⟩ := three w 2 h x a b v
  have H1 := Lib.hid k1
  have H2 := Lib.hid k2
  have H3 := Lib.hid k3
  have H4 := Lib.hid k4
  clear k1 k2 k3 k4
  go_enter Try.func48, Try.ntmps48
  go_upto_region 2 with fail
  generalize ((w.alloc (.cells #[.int .i64 2, .int .i64 h, .int .i64 x, .int .i64 a, .int .i64 b, .int .i64 v] 44)).alloc (.cells #[.int .i64 0, .int .i64 0, .int .i64 0, .int .i64 0, .int .i64 0, .int .i64 0] 44)).alloc (.cells #[.int .i64 2, .int .i64 h, .int .i64 0, .int .i64 0, .int .i64 0, .int .i64 0] 44) = w3 at *
  have c := fun o => Lib.cell_of_heap H2.out o
  have r := fun o => RuAt.cell H4.out o
  simp only [Ru.cells] at r
  have f := fun o => RuAt.free H4.out o
  have HP : Hid (RuAt (w3.setCell ⟨w.heap.size + 2, 3, none⟩ (.int .i64 a)) (w.heap.size + 2) ⟨2, h, 0, a, 0, 0⟩) := Lib.hid (RuAt.put H4.out 3 (by omega) (by omega) a)
  have HO : Hid ((w3.setCell ⟨w.heap.size + 2, 3, none⟩ (.int .i64 a)).heap[w.heap.size + 1]? = some (.cells zeroU.cells 44 (0, 0))) := Lib.hid ((Below.heap_setCell _ _ _ _ (by show w.heap.size + 1 ≠ w.heap.size + 2; omega)).trans H3.out)
  have HB : Hid (RowKit.Below w.heap.size w (w3.setCell ⟨w.heap.size + 2, 3, none⟩ (.int .i64 a))) := Lib.hid (H1.out.setCell (by show w.heap.size ≤ w.heap.size + 2; omega) _)
  clear H1 H2 H3 H4
  go_wp2_with (first | (refine wpList_load_row rfl 44 _ rfl (w.heap.size + 2) rfl 44 (⟨2, h, 0, a, 0, 0⟩ : Ru).cells (0, 0) _ HP.out Try.underlying44 rfl infoRule ?_) | (refine wpList_store_row rfl 44 _ _ rfl (w.heap.size + 1) (⟨2, h, 0, a, 0, 0⟩ : Ru).cells rfl rfl 44 _ HO.out infoRule rfl (one6 _) ?_))
  have hl := cell_rule (u := ⟨2, h, 0, a, 0, 0⟩) HO.out
  have hz := below_setRow HB.out (show w.heap.size ≤ w.heap.size + 1 by omega) (⟨2, h, 0, a, 0, 0⟩ : Ru).cells
  generalize World.setRow _ (w.heap.size + 1) (⟨2, h, 0, a, 0, 0⟩ : Ru).cells = wz at hl hz ⊢
  refine bodyPost_ret (v := .tuple #[.agg (⟨2, h, 0, a, 0, 0⟩ : Ru).cells, .bool true]) (by simp [results, Try.results48, go_sem, hl, Ru.cells]) rfl ⟨rfl, hz⟩
set_option maxRecDepth 100000 in
theorem bare0 (k h x a b v : Int) (h1 : k ≠ 1) (h2 : k ≠ 2) (h3 : k ≠ 3) (h4 : k ≠ 4) (w : World) : Calls Try.prog 48 #[.agg #[.int .i64 k, .int .i64 h, .int .i64 x, .int .i64 a, .int .i64 b, .int .i64 v]] w fun e w' => e = .returned (.tuple #[.agg zeroU.cells, .bool false]) ∧ RowKit.Below w.heap.size w w' := by
  obtain ⟨k1, k2, k3, k4⟩ := three w k h x a b v
  have H1 := Lib.hid k1
  have H2 := Lib.hid k2
  have H3 := Lib.hid k3
  clear k1 k2 k3 k4
  have e1 : (k == 1) = false := by simp [h1]
  have e2 : (k == 2) = false := by simp [h2]
  have e3 : (k == 3) = false := by simp [h3]
  have e4 : (k == 4) = false := by simp [h4]
  clear h1 h2 h3 h4
  go_enter Try.func48, Try.ntmps48
  go_upto_region 2 with fail
  generalize ((w.alloc (.cells #[.int .i64 k, .int .i64 h, .int .i64 x, .int .i64 a, .int .i64 b, .int .i64 v] 44)).alloc (.cells #[.int .i64 0, .int .i64 0, .int .i64 0, .int .i64 0, .int .i64 0, .int .i64 0] 44)).alloc (.cells #[.int .i64 k, .int .i64 h, .int .i64 0, .int .i64 0, .int .i64 0, .int .i64 0] 44) = w3 at *
  have c := fun o => Lib.cell_of_heap H2.out o
  go_wp2_with (refine wpList_store_row rfl 44 _ _ rfl (w.heap.size + 1) zeroU.cells rfl rfl 44 _ H3.out infoRule rfl (one6 _) ?_)
  have hl := cell_rule (u := zeroU) H3.out
  have hz := below_setRow H1.out (show w.heap.size ≤ w.heap.size + 1 by omega) zeroU.cells
  generalize World.setRow _ (w.heap.size + 1) zeroU.cells = wz at hl hz ⊢
  refine bodyPost_ret (v := .tuple #[.agg zeroU.cells, .bool false]) (by simp [results, Try.results48, go_sem, hl, Ru.cells]) rfl ⟨rfl, hz⟩
theorem bare_ (u : Ru) (w : World) : Calls Try.prog 48 #[u.val] w (BarePost u w) := by
  obtain ⟨k, h, x, a, b, v⟩ := u
  unfold BarePost bareU bareK Ru.val
  simp only
  by_cases h1 : k = 1
  · subst h1; exact bare1 h x a b v w
  · by_cases h4 : k = 4
    · subst h4; exact bare4 h x a b v w
    · by_cases h3 : k = 3
      · subst h3; exact bare3 h x a b v w
      · by_cases h2 : k = 2
        · subst h2; exact bare2 h x a b v w
        · simp only [h1, h2, h3, h4, if_false, decide_false, Bool.false_or]
          exact bare0 k h x a b v h1 h2 h3 h4 w
theorem neG (k h x a b v k2 h2 x2 a2 b2 v2 : Int) (w : World) : (binOp .neq 44 (.agg #[.int .i64 k, .int .i64 h, .int .i64 x, .int .i64 a, .int .i64 b, .int .i64 v]) (.agg #[.int .i64 k2, .int .i64 h2, .int .i64 x2, .int .i64 a2, .int .i64 b2, .int .i64 v2])).run Try.prog w = .ok (.bool (!decide ((⟨k, h, x, a, b, v⟩ : Ru) = ⟨k2, h2, x2, a2, b2, v2⟩))) w := by
  simp only [go_sem, Ru.mk.injEq]
  go_simp
  by_cases e0 : k = k2
  rotate_left
  · simp [e0]
  subst e0
  by_cases e1 : h = h2
  rotate_left
  · simp [e1]
  subst e1
  by_cases e2 : x = x2
  rotate_left
  · simp [e2]
  subst e2
  by_cases e3 : a = a2
  rotate_left
  · simp [e3]
  subst e3
  by_cases e4 : b = b2
  rotate_left
  · simp [e4]
  subst e4
  by_cases e5 : v = v2
  rotate_left
  · simp [e5]
  subst e5
  simp
end Go.Proofs.Ytddjbchlpfaggaa.TblP
namespace Go.Proofs.Ytddjbchlpfaggaa.TblQ
open Go.RowKit Go.Lib Go.Proofs Go.Proofs.Ytddjbchlpfaggaa.Plain Go.Proofs.Ytddjbchlpfaggaa.TblB Go.Proofs.Ytddjbchlpfaggaa.TblC Go.Proofs.Ytddjbchlpfaggaa.TblP Go.Proofs.Ytddjbchlpfaggaa.TblF
set_option linter.unusedVariables false
set_option linter.unusedSimpArgs false
def rightU (n1 n2 : Nat) (u : Ru) : Bool := bareK u && (decide (bareU u = u) && (allB ((n1 * n2 : Nat) : Int) [u.head, u.a, u.b] && (allB n1 [u.who] && allB n2 [u.via])))
theorem nx {W w1 w2 : World} (h : RowKit.Below W.heap.size W w1) (hb : RowKit.Below w1.heap.size w1 w2) : RowKit.Below W.heap.size W w2 := h.trans (hb.mono h.size)
theorem belowL (w : World) (zs : List Int) (n : Int) (hT : zs.length ≤ 10000) : Calls Try.prog 49 #[.int .i64 n, .slice (some ⟨w.heap.size, 0, none⟩) zs.length zs.length] (w.alloc (.cells (zs.map fun z => Value.int .i64 z).toArray 3)) fun e w' => e = .returned (.bool (allB n zs)) ∧ RowKit.Below w.heap.size w w' := by
  refine (below (some ⟨w.heap.size, 0, none⟩) zs.length zs n (w.alloc (.cells (zs.map fun z => Value.int .i64 z).toArray 3)) hT (IG.lit _ w.heap.size zs 3 (heap_alloc_new w _))).mono ?_
  rintro e w' ⟨rfl, hb⟩
  exact ⟨rfl, nx ((Below.refl _ w).alloc (Nat.le_refl _) _) hb⟩
set_option maxHeartbeats 1000000 in
set_option maxRecDepth 100000 in
theorem right_ (n1 n2 : Nat) (u : Ru) (w : World) (g1 : n1 ≤ 1000) (g2 : n2 ≤ 1000) : Calls Try.prog 32 #[.int .i64 n1, .int .i64 n2, u.val] w fun e w' => e = .returned (.bool (rightU n1 n2 u)) ∧ RowKit.Below w.heap.size w w' := by
  have HB := Lib.hid (fun w' => bare_ u w')
  unfold BarePost at HB
  unfold rightU
  obtain ⟨k, h, x, a, b, v⟩ := u
  have hU : ∃ u2, bareU ⟨k, h, x, a, b, v⟩ = u2 := ⟨_, rfl⟩
  obtain ⟨⟨k', h', x', a', b', v'⟩, hU⟩ := hU
  rw [hU] at HB ⊢
  have hne := neG k' h' x' a' b' v' k h x a b v
  generalize bareK _ = bk at *
  generalize decide ((⟨k', h', x', a', b', v'⟩ : Ru) = ⟨k, h, x, a, b, v⟩) = dd at *
  unfold Ru.val at *
  simp only [Ru.cells] at HB ⊢
  have hb0 : allB 1001 [(n1 : Int), (n2 : Int)] = true := by simp [allB, inB]; omega
  have HL0 := Lib.hid (fun w' => belowL w' [(n1 : Int), (n2 : Int)] 1001 (by simp))
  have HL1 := Lib.hid (fun w' => belowL w' [h, a, b] ((n1 * n2 : Nat) : Int) (by simp))
  have HL2 := Lib.hid (fun w' => belowL w' [x] (n1 : Int) (by simp))
  have HL3 := Lib.hid (fun w' => belowL w' [v] (n2 : Int) (by simp))
  rw [hb0] at HL0
  have hq : n1 * n2 ≤ 1000000 := Nat.mul_le_mul g1 g2
  have hmul : IntKind.i64.wrap ((n1 : Int) * (n2 : Int)) = ((n1 * n2 : Nat) : Int) := by
    rw [← Int.natCast_mul, IntKind.wrap_i64]; omega
  generalize allB _ [h, a, b] = b1 at *
  generalize allB _ [x] = b2 at *
  generalize allB _ [v] = b3 at *
  generalize n1 * n2 = q at *
  simp only [List.length_cons, List.length_nil, Nat.zero_add, Nat.reduceAdd, List.map_cons, List.map_nil] at HL0 HL1 HL2 HL3
  clear hU hb0 hq g1 g2
  go_enter Try.func32, Try.ntmps32
  go_wp2_with fail
  refine (HB.out _).mono ?_
  rintro e w1 ⟨rfl, hb⟩
  have hx1 : w1.heap[w.heap.size]? = some (.cells #[.int .i64 k, .int .i64 h, .int .i64 x, .int .i64 a, .int .i64 b, .int .i64 v] 44 (0, 0)) := (hb.block _ (by simp)).trans (heap_alloc_new w _)
  have hlt1 : w.heap.size < w1.heap.size := (Array.getElem?_eq_some_iff.1 hx1).1
  have hz1 : RowKit.Below w1.heap.size w1 (w1.alloc (.cells #[.int .i64 k', .int .i64 h', .int .i64 x', .int .i64 a', .int .i64 b', .int .i64 v'] 44)) := (Below.refl _ _).alloc (Nat.le_refl _) _
  have HX2 := Lib.hid ((hz1.block w.heap.size hlt1).trans hx1)
  have HY2 := Lib.hid (heap_alloc_new w1 (.cells #[.int .i64 k', .int .i64 h', .int .i64 x', .int .i64 a', .int .i64 b', .int .i64 v'] 44))
  have HB2 := Lib.hid (nx (nx ((Below.refl w.heap.size w).alloc (Nat.le_refl _) (.cells #[.int .i64 k, .int .i64 h, .int .i64 x, .int .i64 a, .int .i64 b, .int .i64 v] 44)) hb) hz1)
  clear hx1 hz1 hb HB
  go_upto_region 2 with fail
  generalize w1.alloc (.cells #[.int .i64 k', .int .i64 h', .int .i64 x', .int .i64 a', .int .i64 b', .int .i64 v'] 44) = w2 at *
  have c2 := fun o => Lib.cell_of_heap HX2.out o
  have d2 := fun o => Lib.cell_of_heap HY2.out o
  cases bk
  · clear HL0 HL1 HL2 HL3 c2 d2
    go_wp2_with fail
    go_ret
    exact ⟨rfl, HB2.out⟩
  cases dd
  · go_wp2_with fail
    go_ret
    exact ⟨rfl, HB2.out⟩
  go_wp2_with fail
  refine (HL0.out w2).mono ?_
  rintro e w3 ⟨rfl, hb⟩
  have HB3 := Lib.hid (nx HB2.out hb)
  have HX3 := Lib.hid ((hb.block w.heap.size (Array.getElem?_eq_some_iff.1 HX2.out).1).trans HX2.out)
  have c3 := fun o => Lib.cell_of_heap HX3.out o
  clear hb HB2 HX2 HY2 c2 d2 HL0 hne
  go_wp2_with fail
  refine (HL1.out w3).mono ?_
  rintro e w4 ⟨rfl, hb⟩
  have HB4 := Lib.hid (nx HB3.out hb)
  have HX4 := Lib.hid ((hb.block w.heap.size (Array.getElem?_eq_some_iff.1 HX3.out).1).trans HX3.out)
  have c4 := fun o => Lib.cell_of_heap HX4.out o
  clear hb HB3 HX3 c3 HL1
  cases b1
  · go_wp2_with fail
    go_ret
    exact ⟨rfl, HB4.out⟩
  go_wp2_with fail
  refine (HL2.out w4).mono ?_
  rintro e w5 ⟨rfl, hb⟩
  have HB5 := Lib.hid (nx HB4.out hb)
  have HX5 := Lib.hid ((hb.block w.heap.size (Array.getElem?_eq_some_iff.1 HX4.out).1).trans HX4.out)
  have c5 := fun o => Lib.cell_of_heap HX5.out o
  clear hb HB4 HX4 c4 HL2
  cases b2
  · go_wp2_with fail
    go_ret
    exact ⟨rfl, HB5.out⟩
  go_wp2_with fail
  refine (HL3.out w5).mono ?_
  rintro e w6 ⟨rfl, hb⟩
  have HB6 := Lib.hid (nx HB5.out hb)
  clear hb HB5 HX5 c5 HL3
  go_wp2_with fail
  go_ret
  exact ⟨rfl, HB6.out⟩
end Go.Proofs.Ytddjbchlpfaggaa.TblQ
