/- The document's once by contract: a rule over all principals. -/
import Derived.Test.YtihhojgnilbfnaaM07
namespace Go.Proofs.Ytihhojgnilbfnaa.SemRb
set_option linter.unusedVariables false
set_option linter.unusedSimpArgs false
open Go.RowKit Go.Lib Go.Proofs Go.Proofs.Ytihhojgnilbfnaa.SetA Go.Proofs.Ytihhojgnilbfnaa.SetB Go.Proofs.Ytihhojgnilbfnaa.SetC Go.Proofs.Ytihhojgnilbfnaa.TblB Go.Proofs.Ytihhojgnilbfnaa.TblC Go.Proofs.Ytihhojgnilbfnaa.TblV Go.Proofs.Ytihhojgnilbfnaa.TblP Go.Proofs.Ytihhojgnilbfnaa.TblQ Go.Proofs.Ytihhojgnilbfnaa.SemA Go.Proofs.Ytihhojgnilbfnaa.SemB Go.Proofs.Ytihhojgnilbfnaa.SemJ Go.Proofs.Ytihhojgnilbfnaa.SemR Go.Proofs.Ytihhojgnilbfnaa.SemRa
set_option linter.unusedVariables false
set_option linter.unusedSimpArgs false
theorem bwr (w : World) (q : Nat) : Below w.heap.size w (w.drewN q) := below_drewN (Below.refl _ w) q
theorem any_succ (P : Nat) (p : Nat → Bool) : (List.range (P + 1)).any p = ((List.range P).any p || p P) := by
  rw [List.range_succ, List.any_append]
  simp
set_option maxHeartbeats 2000000 in
set_option maxRecDepth 100000 in
theorem once1 {mo gi ca P K n : Nat} {R : Nat → Nat} {f : Rel} (hd y : Nat) (w : World) (hm : MR w mo gi ca P K n R f) (hP : P ≤ 1000) (hn : n ≤ 1000000) (hh : hd < n) :
    Calls Try.prog 27 #[.pointer (some ⟨mo, 0, none⟩), .agg #[.int .i64 1, .int .i64 hd, .int .i64 y, .int .i64 0, .int .i64 0, .int .i64 0]] w (OncePost mo gi ca P K n R f ⟨1, hd, y, 0, 0, 0⟩ w) := by
  have hb0 : Below w.heap.size w (w.alloc (.cells #[.int .i64 1, .int .i64 hd, .int .i64 y, .int .i64 0, .int .i64 0, .int .i64 0] 44)) := (Below.refl _ _).alloc (Nat.le_refl _) _
  have hX := heap_alloc_new w (.cells #[.int .i64 1, .int .i64 hd, .int .i64 y, .int .i64 0, .int .i64 0, .int .i64 0] 44)
  have HM0 := Lib.hid (hm.below hb0)
  have HB0 := Lib.hid hb0
  have HX := Lib.hid hX
  have HRl : Hid (∀ r, r < n → w.heap.size ≠ R r) := Lib.hid (fun r hr q => by have := hm.lt hr; omega)
  have hz : (w.alloc (.cells #[.int .i64 1, .int .i64 hd, .int .i64 y, .int .i64 0, .int .i64 0, .int .i64 0] 44)).heap.size = w.heap.size + 1 := by simp
  have p2 : (0 : Int) ≤ hd := by omega
  have p3 : (hd : Int) < n := by omega
  clear hb0 hX hm
  go_enter Try.func27, Try.ntmps27
  go_upto_region 2 with fail
  obtain ⟨bx, hbx⟩ : ∃ bx, w.heap.size = bx := ⟨_, rfl⟩
  rw [hbx] at HX hz HRl
  simp only [hbx] at ⊢
  generalize w.alloc (.cells #[.int .i64 1, .int .i64 hd, .int .i64 y, .int .i64 0, .int .i64 0, .int .i64 0] 44) = w0 at *
  have HC := Lib.hid (fun w' (hb : Fr n R w0 w') (o : Nat) => Lib.cell_of_heap ((hb.block bx (by omega) HRl.out).trans HX.out) o)
  clear hz HX HRl
  go_wp2_with fail
  go_loopw [5, 6] (fun m i wr => ∃ (j : Nat) (b : Bool) (g : Rel), j ≤ P ∧ m = .bool b ∧ i = .int .i64 j ∧ Hid (MR wr mo gi ca P K n R g) ∧ Hid (Fr n R w0 wr) ∧ Hid (Mid P K f ⟨1, hd, y, 0, 0, 0⟩ j g b)) (fun _ i _ => P - (intOf i).toNat)
  case atStart => exact ⟨0, false, f, by omega, rfl, rfl, HM0, Lib.hid (Fr.refl _ _ _), Lib.hid (Mid.start _ _ _ _)⟩
  case round =>
    obtain ⟨j, b, g, hj, rfl, rfl, HM, HF, HMi⟩ := hrel
    have hm0 := HM.out.cells (by omega)
    have d0 : wr.cell? ⟨mo, 0, none⟩ = some (.int .i64 P) := hm0 0
    have d1 : wr.cell? ⟨mo, 1, none⟩ = some (.int .i64 K) := hm0 1
    have d2 : wr.cell? ⟨mo, 2, none⟩ = some (.slice (some ⟨gi, 0, none⟩) n ca) := hm0 2
    clear hm0
    by_cases hlt : j < P
    · have e1 : decide ((j : Int) < P) = true := by simp; omega
      have p0 : (0 : Int) ≤ j := by omega
      have p1 : (j : Int) < P := by omega
      obtain ⟨gv, hgv⟩ : ∃ gv, g hd j = gv := ⟨_, rfl⟩
      obtain ⟨c0, i0⟩ := HM.out.hi hd hh
      obtain ⟨r0, q0⟩ := HM.out.row (r := hd) (x := j) hh hlt
      rw [hgv] at r0
      have cx := HC.out wr HF.out
      have hcv : cnd P K g ⟨1, hd, y, 0, 0, 0⟩ j = ((j : Int) == (y : Int)) := by unfold cnd; rw [if_pos rfl]; rfl
      go_upto_region 17 with fail
      generalize ((j : Int) == (y : Int)) = cv at *
      clear e1
      cases cv with
      | false =>
        clear r0 q0 i0 d0 d2
        go_quiet (fail)
        have HM1 := Lib.hid (HM.out.below (bwr wr nq))
        have HF1 := Lib.hid (HF.out.below (bwr wr nq))
        have HMi1 := Lib.hid (HMi.out.skip (Or.inl hcv))
        clear cx HM HF HMi
        go_wp2_with fail
        go_roundw
        · exact ⟨j + 1, b, g, by omega, rfl, by simp, HM1, HF1, HMi1⟩
        · simp [intOf]; omega
      | true =>
        cases gv with
        | true =>
          go_quiet (fail)
          have HM1 := Lib.hid (HM.out.below (bwr wr nq))
          have HF1 := Lib.hid (HF.out.below (bwr wr nq))
          have HMi1 := Lib.hid (HMi.out.skip (Or.inr hgv))
          clear cx HM HF HMi
          go_wp2_with fail
          go_roundw
          · exact ⟨j + 1, b, g, by omega, rfl, by simp, HM1, HF1, HMi1⟩
          · simp [intOf]; omega
        | false =>
          go_quiet (fail)
          have HM1 := Lib.hid (fun q => (HM.out.below (bwr wr q)).put hh hlt)
          have HF1 := Lib.hid (fun q => (HF.out.below (bwr wr q)).set hh j (.bool true))
          have HMi1 := Lib.hid (HMi.out.put hlt hcv hgv)
          clear HM HF HMi
          go_wp2_with fail
          refine still_tail 10 (by kernel_rfl) (by kernel_rfl) ?_
          simp only [List.take_succ_cons, List.take_zero, List.drop_succ_cons, List.drop_zero]
          repeat still_step
          refine wpStill_nil ?_
          go_wp2
          go_roundw
          · exact ⟨j + 1, true, upd g hd j, by omega, rfl, by simp, Lib.hid (HM1.out _), Lib.hid (HF1.out _), HMi1⟩
          · simp [intOf]; omega
    · have e1 : decide ((j : Int) < P) = false := by simp; omega
      obtain rfl : j = P := by omega
      clear d2
      go_wp2_with fail
      go_ret
      exact ⟨g, b, rfl, HM.out, Fr.start HB0.out HF.out, HMi.out⟩
set_option maxHeartbeats 2000000 in
set_option maxRecDepth 100000 in
theorem once2 {mo gi ca P K n : Nat} {R : Nat → Nat} {f : Rel} (hd a : Nat) (w : World) (hm : MR w mo gi ca P K n R f) (hP : P ≤ 1000) (hn : n ≤ 1000000) (hh : hd < n) (ha : a < n) :
    Calls Try.prog 27 #[.pointer (some ⟨mo, 0, none⟩), .agg #[.int .i64 2, .int .i64 hd, .int .i64 0, .int .i64 a, .int .i64 0, .int .i64 0]] w (OncePost mo gi ca P K n R f ⟨2, hd, 0, a, 0, 0⟩ w) := by
  have hb0 : Below w.heap.size w (w.alloc (.cells #[.int .i64 2, .int .i64 hd, .int .i64 0, .int .i64 a, .int .i64 0, .int .i64 0] 44)) := (Below.refl _ _).alloc (Nat.le_refl _) _
  have hX := heap_alloc_new w (.cells #[.int .i64 2, .int .i64 hd, .int .i64 0, .int .i64 a, .int .i64 0, .int .i64 0] 44)
  have HM0 := Lib.hid (hm.below hb0)
  have HB0 := Lib.hid hb0
  have HX := Lib.hid hX
  have HRl : Hid (∀ r, r < n → w.heap.size ≠ R r) := Lib.hid (fun r hr q => by have := hm.lt hr; omega)
  have hz : (w.alloc (.cells #[.int .i64 2, .int .i64 hd, .int .i64 0, .int .i64 a, .int .i64 0, .int .i64 0] 44)).heap.size = w.heap.size + 1 := by simp
  have p2 : (0 : Int) ≤ hd := by omega
  have p3 : (hd : Int) < n := by omega
  have p4 : (0 : Int) ≤ a := by omega
  have p5 : (a : Int) < n := by omega
  clear hb0 hX hm
  go_enter Try.func27, Try.ntmps27
  go_upto_region 2 with fail
  obtain ⟨bx, hbx⟩ : ∃ bx, w.heap.size = bx := ⟨_, rfl⟩
  rw [hbx] at HX hz HRl
  simp only [hbx] at ⊢
  generalize w.alloc (.cells #[.int .i64 2, .int .i64 hd, .int .i64 0, .int .i64 a, .int .i64 0, .int .i64 0] 44) = w0 at *
  have HC := Lib.hid (fun w' (hb : Fr n R w0 w') (o : Nat) => Lib.cell_of_heap ((hb.block bx (by omega) HRl.out).trans HX.out) o)
  clear hz HX HRl
  go_wp2_with fail
  go_loopw [5, 6] (fun m i wr => ∃ (j : Nat) (b : Bool) (g : Rel), j ≤ P ∧ m = .bool b ∧ i = .int .i64 j ∧ Hid (MR wr mo gi ca P K n R g) ∧ Hid (Fr n R w0 wr) ∧ Hid (Mid P K f ⟨2, hd, 0, a, 0, 0⟩ j g b)) (fun _ i _ => P - (intOf i).toNat)
  case atStart => exact ⟨0, false, f, by omega, rfl, rfl, HM0, Lib.hid (Fr.refl _ _ _), Lib.hid (Mid.start _ _ _ _)⟩
  case round =>
    obtain ⟨j, b, g, hj, rfl, rfl, HM, HF, HMi⟩ := hrel
    have hm0 := HM.out.cells (by omega)
    have d0 : wr.cell? ⟨mo, 0, none⟩ = some (.int .i64 P) := hm0 0
    have d1 : wr.cell? ⟨mo, 1, none⟩ = some (.int .i64 K) := hm0 1
    have d2 : wr.cell? ⟨mo, 2, none⟩ = some (.slice (some ⟨gi, 0, none⟩) n ca) := hm0 2
    clear hm0
    by_cases hlt : j < P
    · have e1 : decide ((j : Int) < P) = true := by simp; omega
      have p0 : (0 : Int) ≤ j := by omega
      have p1 : (j : Int) < P := by omega
      obtain ⟨gv, hgv⟩ : ∃ gv, g hd j = gv := ⟨_, rfl⟩
      obtain ⟨c0, i0⟩ := HM.out.hi hd hh
      obtain ⟨r0, q0⟩ := HM.out.row (r := hd) (x := j) hh hlt
      rw [hgv] at r0
      have cx := HC.out wr HF.out
      obtain ⟨c1, i1⟩ := HM.out.hi a ha
      obtain ⟨r1, q1⟩ := HM.out.row (r := a) (x := j) ha hlt
      have hcv : cnd P K g ⟨2, hd, 0, a, 0, 0⟩ j = g a j := rfl
      generalize g a j = cv at *
      go_upto_region 11 with fail
      go_quiet (fail)
      have HM2 := Lib.hid (HM.out.below (bwr wr nq))
      have HF2 := Lib.hid (HF.out.below (bwr wr nq))
      clear d0 d1 d2 i0 r0 q0 cx i1 r1 q1 HM HF
      generalize wr.drewN nq = wx at *
      have HM := HM2
      have HF := HF2
      clear HM2 HF2
      have hm0 := HM.out.cells (by omega)
      have d0 : wx.cell? ⟨mo, 0, none⟩ = some (.int .i64 P) := hm0 0
      have d1 : wx.cell? ⟨mo, 1, none⟩ = some (.int .i64 K) := hm0 1
      have d2 : wx.cell? ⟨mo, 2, none⟩ = some (.slice (some ⟨gi, 0, none⟩) n ca) := hm0 2
      clear hm0
      obtain ⟨c0, i0⟩ := HM.out.hi hd hh
      obtain ⟨r0, q0⟩ := HM.out.row (r := hd) (x := j) hh hlt
      rw [hgv] at r0
      have cx := HC.out wx HF.out
      go_upto_region 17 with fail
      clear e1
      cases cv with
      | false =>
        clear r0 q0 i0 d0 d2
        go_quiet (fail)
        have HM1 := Lib.hid (HM.out.below (bwr wx nq))
        have HF1 := Lib.hid (HF.out.below (bwr wx nq))
        have HMi1 := Lib.hid (HMi.out.skip (Or.inl hcv))
        clear cx HM HF HMi
        go_wp2_with fail
        go_roundw
        · exact ⟨j + 1, b, g, by omega, rfl, by simp, HM1, HF1, HMi1⟩
        · simp [intOf]; omega
      | true =>
        cases gv with
        | true =>
          go_quiet (fail)
          have HM1 := Lib.hid (HM.out.below (bwr wx nq))
          have HF1 := Lib.hid (HF.out.below (bwr wx nq))
          have HMi1 := Lib.hid (HMi.out.skip (Or.inr hgv))
          clear cx HM HF HMi
          go_wp2_with fail
          go_roundw
          · exact ⟨j + 1, b, g, by omega, rfl, by simp, HM1, HF1, HMi1⟩
          · simp [intOf]; omega
        | false =>
          go_quiet (fail)
          have HM1 := Lib.hid (fun q => (HM.out.below (bwr wx q)).put hh hlt)
          have HF1 := Lib.hid (fun q => (HF.out.below (bwr wx q)).set hh j (.bool true))
          have HMi1 := Lib.hid (HMi.out.put hlt hcv hgv)
          clear HM HF HMi
          go_wp2_with fail
          refine still_tail 10 (by kernel_rfl) (by kernel_rfl) ?_
          simp only [List.take_succ_cons, List.take_zero, List.drop_succ_cons, List.drop_zero]
          repeat still_step
          refine wpStill_nil ?_
          go_wp2
          go_roundw
          · exact ⟨j + 1, true, upd g hd j, by omega, rfl, by simp, Lib.hid (HM1.out _), Lib.hid (HF1.out _), HMi1⟩
          · simp [intOf]; omega
    · have e1 : decide ((j : Int) < P) = false := by simp; omega
      obtain rfl : j = P := by omega
      clear d2
      go_wp2_with fail
      go_ret
      exact ⟨g, b, rfl, HM.out, Fr.start HB0.out HF.out, HMi.out⟩
set_option maxHeartbeats 2000000 in
set_option maxRecDepth 100000 in
theorem once4 {mo gi ca P K n : Nat} {R : Nat → Nat} {f : Rel} (hd a c : Nat) (w : World) (hm : MR w mo gi ca P K n R f) (hP : P ≤ 1000) (hn : n ≤ 1000000) (hh : hd < n) (ha : a < n) (hc : c < n) :
    Calls Try.prog 27 #[.pointer (some ⟨mo, 0, none⟩), .agg #[.int .i64 4, .int .i64 hd, .int .i64 0, .int .i64 a, .int .i64 c, .int .i64 0]] w (OncePost mo gi ca P K n R f ⟨4, hd, 0, a, c, 0⟩ w) := by
  have hb0 : Below w.heap.size w (w.alloc (.cells #[.int .i64 4, .int .i64 hd, .int .i64 0, .int .i64 a, .int .i64 c, .int .i64 0] 44)) := (Below.refl _ _).alloc (Nat.le_refl _) _
  have hX := heap_alloc_new w (.cells #[.int .i64 4, .int .i64 hd, .int .i64 0, .int .i64 a, .int .i64 c, .int .i64 0] 44)
  have HM0 := Lib.hid (hm.below hb0)
  have HB0 := Lib.hid hb0
  have HX := Lib.hid hX
  have HRl : Hid (∀ r, r < n → w.heap.size ≠ R r) := Lib.hid (fun r hr q => by have := hm.lt hr; omega)
  have hz : (w.alloc (.cells #[.int .i64 4, .int .i64 hd, .int .i64 0, .int .i64 a, .int .i64 c, .int .i64 0] 44)).heap.size = w.heap.size + 1 := by simp
  have p2 : (0 : Int) ≤ hd := by omega
  have p3 : (hd : Int) < n := by omega
  have p4 : (0 : Int) ≤ a := by omega
  have p5 : (a : Int) < n := by omega
  have p6 : (0 : Int) ≤ c := by omega
  have p7 : (c : Int) < n := by omega
  clear hb0 hX hm
  go_enter Try.func27, Try.ntmps27
  go_upto_region 2 with fail
  obtain ⟨bx, hbx⟩ : ∃ bx, w.heap.size = bx := ⟨_, rfl⟩
  rw [hbx] at HX hz HRl
  simp only [hbx] at ⊢
  generalize w.alloc (.cells #[.int .i64 4, .int .i64 hd, .int .i64 0, .int .i64 a, .int .i64 c, .int .i64 0] 44) = w0 at *
  have HC := Lib.hid (fun w' (hb : Fr n R w0 w') (o : Nat) => Lib.cell_of_heap ((hb.block bx (by omega) HRl.out).trans HX.out) o)
  clear hz HX HRl
  go_wp2_with fail
  go_loopw [5, 6] (fun m i wr => ∃ (j : Nat) (b : Bool) (g : Rel), j ≤ P ∧ m = .bool b ∧ i = .int .i64 j ∧ Hid (MR wr mo gi ca P K n R g) ∧ Hid (Fr n R w0 wr) ∧ Hid (Mid P K f ⟨4, hd, 0, a, c, 0⟩ j g b)) (fun _ i _ => P - (intOf i).toNat)
  case atStart => exact ⟨0, false, f, by omega, rfl, rfl, HM0, Lib.hid (Fr.refl _ _ _), Lib.hid (Mid.start _ _ _ _)⟩
  case round =>
    obtain ⟨j, b, g, hj, rfl, rfl, HM, HF, HMi⟩ := hrel
    have hm0 := HM.out.cells (by omega)
    have d0 : wr.cell? ⟨mo, 0, none⟩ = some (.int .i64 P) := hm0 0
    have d1 : wr.cell? ⟨mo, 1, none⟩ = some (.int .i64 K) := hm0 1
    have d2 : wr.cell? ⟨mo, 2, none⟩ = some (.slice (some ⟨gi, 0, none⟩) n ca) := hm0 2
    clear hm0
    by_cases hlt : j < P
    · have e1 : decide ((j : Int) < P) = true := by simp; omega
      have p0 : (0 : Int) ≤ j := by omega
      have p1 : (j : Int) < P := by omega
      obtain ⟨gv, hgv⟩ : ∃ gv, g hd j = gv := ⟨_, rfl⟩
      obtain ⟨c0, i0⟩ := HM.out.hi hd hh
      obtain ⟨r0, q0⟩ := HM.out.row (r := hd) (x := j) hh hlt
      rw [hgv] at r0
      have cx := HC.out wr HF.out
      obtain ⟨c1, i1⟩ := HM.out.hi a ha
      obtain ⟨r1, q1⟩ := HM.out.row (r := a) (x := j) ha hlt
      obtain ⟨c2, i2⟩ := HM.out.hi c hc
      obtain ⟨r2, q2⟩ := HM.out.row (r := c) (x := j) hc hlt
      have hcv : cnd P K g ⟨4, hd, 0, a, c, 0⟩ j = (g a j && g c j) := rfl
      generalize g a j = va at *
      generalize g c j = cv at *
      go_upto_region 7 with fail
      cases va with
      | false =>
        go_quiet (fail)
        have HM2 := Lib.hid (HM.out.below (bwr wr nq))
        have HF2 := Lib.hid (HF.out.below (bwr wr nq))
        clear d0 d1 d2 i0 r0 q0 cx i1 r1 q1 i2 r2 q2 HM HF
        generalize wr.drewN nq = wx at *
        have HM := HM2
        have HF := HF2
        clear HM2 HF2
        have hm0 := HM.out.cells (by omega)
        have d0 : wx.cell? ⟨mo, 0, none⟩ = some (.int .i64 P) := hm0 0
        have d1 : wx.cell? ⟨mo, 1, none⟩ = some (.int .i64 K) := hm0 1
        have d2 : wx.cell? ⟨mo, 2, none⟩ = some (.slice (some ⟨gi, 0, none⟩) n ca) := hm0 2
        clear hm0
        obtain ⟨c0, i0⟩ := HM.out.hi hd hh
        obtain ⟨r0, q0⟩ := HM.out.row (r := hd) (x := j) hh hlt
        rw [hgv] at r0
        have cx := HC.out wx HF.out
        rw [Bool.false_and] at hcv
        go_upto_region 17 with fail
        clear e1
        clear r0 q0 i0 d0 d2
        go_quiet (fail)
        have HM1 := Lib.hid (HM.out.below (bwr wx nq))
        have HF1 := Lib.hid (HF.out.below (bwr wx nq))
        have HMi1 := Lib.hid (HMi.out.skip (Or.inl hcv))
        clear cx HM HF HMi
        go_wp2_with fail
        go_roundw
        · exact ⟨j + 1, b, g, by omega, rfl, by simp, HM1, HF1, HMi1⟩
        · simp [intOf]; omega
      | true =>
        go_quiet (fail)
        have HM2 := Lib.hid (HM.out.below (bwr wr nq))
        have HF2 := Lib.hid (HF.out.below (bwr wr nq))
        clear d0 d1 d2 i0 r0 q0 cx i1 r1 q1 i2 r2 q2 HM HF
        generalize wr.drewN nq = wx at *
        have HM := HM2
        have HF := HF2
        clear HM2 HF2
        have hm0 := HM.out.cells (by omega)
        have d0 : wx.cell? ⟨mo, 0, none⟩ = some (.int .i64 P) := hm0 0
        have d1 : wx.cell? ⟨mo, 1, none⟩ = some (.int .i64 K) := hm0 1
        have d2 : wx.cell? ⟨mo, 2, none⟩ = some (.slice (some ⟨gi, 0, none⟩) n ca) := hm0 2
        clear hm0
        obtain ⟨c0, i0⟩ := HM.out.hi hd hh
        obtain ⟨r0, q0⟩ := HM.out.row (r := hd) (x := j) hh hlt
        rw [hgv] at r0
        have cx := HC.out wx HF.out
        rw [Bool.true_and] at hcv
        go_upto_region 17 with fail
        clear e1
        cases cv with
        | false =>
          clear r0 q0 i0 d0 d2
          go_quiet (fail)
          have HM1 := Lib.hid (HM.out.below (bwr wx nq))
          have HF1 := Lib.hid (HF.out.below (bwr wx nq))
          have HMi1 := Lib.hid (HMi.out.skip (Or.inl hcv))
          clear cx HM HF HMi
          go_wp2_with fail
          go_roundw
          · exact ⟨j + 1, b, g, by omega, rfl, by simp, HM1, HF1, HMi1⟩
          · simp [intOf]; omega
        | true =>
          cases gv with
          | true =>
            go_quiet (fail)
            have HM1 := Lib.hid (HM.out.below (bwr wx nq))
            have HF1 := Lib.hid (HF.out.below (bwr wx nq))
            have HMi1 := Lib.hid (HMi.out.skip (Or.inr hgv))
            clear cx HM HF HMi
            go_wp2_with fail
            go_roundw
            · exact ⟨j + 1, b, g, by omega, rfl, by simp, HM1, HF1, HMi1⟩
            · simp [intOf]; omega
          | false =>
            go_quiet (fail)
            have HM1 := Lib.hid (fun q => (HM.out.below (bwr wx q)).put hh hlt)
            have HF1 := Lib.hid (fun q => (HF.out.below (bwr wx q)).set hh j (.bool true))
            have HMi1 := Lib.hid (HMi.out.put hlt hcv hgv)
            clear HM HF HMi
            go_wp2_with fail
            refine still_tail 10 (by kernel_rfl) (by kernel_rfl) ?_
            simp only [List.take_succ_cons, List.take_zero, List.drop_succ_cons, List.drop_zero]
            repeat still_step
            refine wpStill_nil ?_
            go_wp2
            go_roundw
            · exact ⟨j + 1, true, upd g hd j, by omega, rfl, by simp, Lib.hid (HM1.out _), Lib.hid (HF1.out _), HMi1⟩
            · simp [intOf]; omega
    · have e1 : decide ((j : Int) < P) = false := by simp; omega
      obtain rfl : j = P := by omega
      clear d2
      go_wp2_with fail
      go_ret
      exact ⟨g, b, rfl, HM.out, Fr.start HB0.out HF.out, HMi.out⟩
end Go.Proofs.Ytihhojgnilbfnaa.SemRb
