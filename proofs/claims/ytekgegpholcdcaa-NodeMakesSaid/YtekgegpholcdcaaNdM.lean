/- Diagrams' nodes: of nil. -/
import Derived.Test.YtekgegpholcdcaaNdB
namespace Go.Proofs.Ytekgegpholcdcaa.NdM
open Go.RowKit Go.Lib Go.Proofs
set_option linter.unusedVariables false
set_option linter.unusedSimpArgs false
set_option maxRecDepth 100000 in
theorem len0 (w : World) : Calls Try.prog 12 #[.pointer none] w fun e w' => e = .returned (.int .i64 0) ∧ w = w' := by
  go_enter Try.func12, Try.ntmps12
  go_wp2
  go_ret
  exact ⟨rfl, rfl⟩
set_option maxRecDepth 100000 in
theorem vars0 (w : World) : Calls Try.prog 14 #[.pointer none] w fun e w' => e = .returned (.int .i64 0) ∧ w = w' := by
  go_enter Try.func14, Try.ntmps14
  go_wp2
  go_ret
  exact ⟨rfl, rfl⟩
set_option maxRecDepth 100000 in
theorem spent0 (w : World) : Calls Try.prog 13 #[.pointer none] w fun e w' => e = .returned (.bool false) ∧ w = w' := by
  go_enter Try.func13, Try.ntmps13
  go_wp2
  go_ret
  exact ⟨rfl, rfl⟩
set_option maxRecDepth 100000 in
theorem is0_0 (w : World) : Calls Try.prog 15 #[.pointer none, .int .i64 0] w fun e w' => e = .returned (.bool true) ∧ w = w' := by
  have HL := Lib.hid (len0 w)
  go_enter Try.func15, Try.ntmps15
  go_wp2_with ((with_reducible refine HL.out.mono ?_); rintro e w' ⟨rfl, rfl⟩)
  go_ret
  exact ⟨rfl, rfl⟩
set_option maxRecDepth 100000 in
theorem is0_1 (w : World) : Calls Try.prog 15 #[.pointer none, .int .i64 1] w fun e w' => e = .returned (.bool true) ∧ w = w' := by
  have HL := Lib.hid (len0 w)
  go_enter Try.func15, Try.ntmps15
  go_wp2_with ((with_reducible refine HL.out.mono ?_); rintro e w' ⟨rfl, rfl⟩)
  go_ret
  exact ⟨rfl, rfl⟩
set_option maxRecDepth 100000 in
theorem is0_2 (w : World) : Calls Try.prog 15 #[.pointer none, .int .i64 2] w fun e w' => e = .returned (.bool false) ∧ w = w' := by
  have HL := Lib.hid (len0 w)
  go_enter Try.func15, Try.ntmps15
  go_wp2_with ((with_reducible refine HL.out.mono ?_); rintro e w' ⟨rfl, rfl⟩)
  go_ret
  exact ⟨rfl, rfl⟩
set_option maxRecDepth 100000 in
theorem get0_0 (w : World) : Calls Try.prog 19 #[.pointer none, .int .i64 0] w fun e w' => e = .returned (.tuple #[.agg #[.int .i64 0, .int .i64 0, .int .i64 0], .bool false]) ∧ Below w.heap.size w w' := by
  have hb := Lib.hid ((Below.refl w.heap.size w).alloc (Nat.le_refl _) (.cells #[.int .i64 0, .int .i64 0, .int .i64 0] 28))
  have hl := fun o => Lib.cell_of_heap (heap_alloc_new w (.cells #[.int .i64 0, .int .i64 0, .int .i64 0] 28)) o
  go_enter Try.func19, Try.ntmps19
  go_wp2_with fail
  exact bodyPost_ret (v := .tuple #[.agg #[.int .i64 0, .int .i64 0, .int .i64 0], .bool false]) (by simp [results, Try.results19, go_sem, hl]) rfl ⟨rfl, hb.out⟩
set_option maxRecDepth 100000 in
theorem get0_1 (w : World) : Calls Try.prog 19 #[.pointer none, .int .i64 1] w fun e w' => e = .returned (.tuple #[.agg #[.int .i64 0, .int .i64 0, .int .i64 0], .bool false]) ∧ Below w.heap.size w w' := by
  have hb := Lib.hid ((Below.refl w.heap.size w).alloc (Nat.le_refl _) (.cells #[.int .i64 0, .int .i64 0, .int .i64 0] 28))
  have hl := fun o => Lib.cell_of_heap (heap_alloc_new w (.cells #[.int .i64 0, .int .i64 0, .int .i64 0] 28)) o
  go_enter Try.func19, Try.ntmps19
  go_wp2_with fail
  exact bodyPost_ret (v := .tuple #[.agg #[.int .i64 0, .int .i64 0, .int .i64 0], .bool false]) (by simp [results, Try.results19, go_sem, hl]) rfl ⟨rfl, hb.out⟩
set_option maxRecDepth 100000 in
theorem get0_2 (w : World) : Calls Try.prog 19 #[.pointer none, .int .i64 2] w fun e w' => e = .returned (.tuple #[.agg #[.int .i64 0, .int .i64 0, .int .i64 0], .bool false]) ∧ Below w.heap.size w w' := by
  have hb := Lib.hid ((Below.refl w.heap.size w).alloc (Nat.le_refl _) (.cells #[.int .i64 0, .int .i64 0, .int .i64 0] 28))
  have hl := fun o => Lib.cell_of_heap (heap_alloc_new w (.cells #[.int .i64 0, .int .i64 0, .int .i64 0] 28)) o
  go_enter Try.func19, Try.ntmps19
  go_wp2_with ((with_reducible refine (is0_2 _).mono ?_); rintro e w' ⟨rfl, rfl⟩)
  exact bodyPost_ret (v := .tuple #[.agg #[.int .i64 0, .int .i64 0, .int .i64 0], .bool false]) (by simp [results, Try.results19, go_sem, hl]) rfl ⟨rfl, hb.out⟩
set_option maxRecDepth 100000 in
theorem var0_0 (w : World) : Calls Try.prog 17 #[.pointer none, .int .i64 0] w fun e w' => e = .returned (.int .i64 0) ∧ Below w.heap.size w w' := by
  have HG := Lib.hid (get0_0 w)
  go_enter Try.func17, Try.ntmps17
  go_wp2_with fail
  refine HG.out.mono ?_
  rintro e w1 ⟨rfl, hb⟩
  have HB := Lib.hid (show ∀ o, Below w.heap.size w (w1.alloc o) from fun o => hb.alloc hb.size o)
  clear hb
  go_wp2_with fail
  refine (vars0 _).mono ?_
  rintro e w2 ⟨rfl, rfl⟩
  go_wp2_with fail
  go_ret
  exact ⟨rfl, HB.out _⟩
set_option maxRecDepth 100000 in
theorem var0_1 (w : World) : Calls Try.prog 17 #[.pointer none, .int .i64 1] w fun e w' => e = .returned (.int .i64 0) ∧ Below w.heap.size w w' := by
  have HG := Lib.hid (get0_1 w)
  go_enter Try.func17, Try.ntmps17
  go_wp2_with fail
  refine HG.out.mono ?_
  rintro e w1 ⟨rfl, hb⟩
  have HB := Lib.hid (show ∀ o, Below w.heap.size w (w1.alloc o) from fun o => hb.alloc hb.size o)
  clear hb
  go_wp2_with fail
  refine (vars0 _).mono ?_
  rintro e w2 ⟨rfl, rfl⟩
  go_wp2_with fail
  go_ret
  exact ⟨rfl, HB.out _⟩
set_option maxRecDepth 100000 in
theorem may0 (w : World) : Calls Try.prog 31 #[.pointer none, .int .i64 0, .int .i64 0, .int .i64 1] w fun e w' => e = .returned (.bool false) ∧ Below w.heap.size w w' := by
  go_enter Try.func31, Try.ntmps31
  go_wp2_with fail
  refine (is0_0 _).mono ?_
  rintro e w' ⟨rfl, rfl⟩
  go_wp2_with fail
  refine (is0_1 _).mono ?_
  rintro e w' ⟨rfl, rfl⟩
  go_wp2_with fail
  refine (var0_0 _).mono ?_
  rintro e w1 ⟨rfl, hb⟩
  have HB := Lib.hid hb
  clear hb
  go_wp2_with fail
  go_ret
  exact ⟨rfl, HB.out⟩
set_option maxRecDepth 100000 in
theorem make0 (w : World) : Calls Try.prog 10 #[.pointer none, .int .i64 0, .int .i64 0, .int .i64 1] w fun e w' => e = .returned (.tuple #[.int .i64 0, .int .i64 6]) ∧ Below w.heap.size w w' := by
  go_enter Try.func10, Try.ntmps10
  go_wp2_with fail
  refine (may0 _).mono ?_
  rintro e w1 ⟨rfl, hb⟩
  have HB := Lib.hid hb
  clear hb
  go_wp2_with fail
  go_ret2
  exact ⟨rfl, HB.out⟩
set_option maxRecDepth 100000 in
theorem at0_0 (w : World) : Calls Try.prog 20 #[.pointer none, .int .i64 0, .int .u64 0] w fun e w' => e = .returned (.bool false) ∧ Below w.heap.size w w' := by
  have HG := Lib.hid (fun w => get0_0 w)
  go_enter Try.func20, Try.ntmps20
  go_wp2_with fail
  go_loopw [1] (fun nv wr => nv = .int .i64 0 ∧ wr = w) (fun nv _ => 0)
  case atStart => exact ⟨rfl, rfl⟩
  case round =>
    obtain ⟨rfl, rfl⟩ := hrel
    go_wp2_with fail
    refine (HG.out _).mono ?_
    rintro e w1 ⟨rfl, hb⟩
    have HB := Lib.hid (show ∀ o, Below wr.heap.size wr (w1.alloc o) from fun o => hb.alloc hb.size o)
    clear hb
    go_wp2_with fail
    go_ret
    exact ⟨rfl, HB.out _⟩
set_option maxRecDepth 100000 in
theorem at0_1 (w : World) : Calls Try.prog 20 #[.pointer none, .int .i64 1, .int .u64 0] w fun e w' => e = .returned (.bool true) ∧ Below w.heap.size w w' := by
  have HG := Lib.hid (fun w => get0_1 w)
  go_enter Try.func20, Try.ntmps20
  go_wp2_with fail
  go_loopw [1] (fun nv wr => nv = .int .i64 1 ∧ wr = w) (fun nv _ => 0)
  case atStart => exact ⟨rfl, rfl⟩
  case round =>
    obtain ⟨rfl, rfl⟩ := hrel
    go_wp2_with fail
    refine (HG.out _).mono ?_
    rintro e w1 ⟨rfl, hb⟩
    have HB := Lib.hid (show ∀ o, Below wr.heap.size wr (w1.alloc o) from fun o => hb.alloc hb.size o)
    clear hb
    go_wp2_with fail
    go_ret
    exact ⟨rfl, HB.out _⟩
end Go.Proofs.Ytekgegpholcdcaa.NdM
