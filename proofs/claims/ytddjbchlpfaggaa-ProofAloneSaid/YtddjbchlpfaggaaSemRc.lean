/- The document's once by contract: a rule over all principals. -/
import Derived.Test.YtddjbchlpfaggaaSemRb
namespace Go.Proofs.Ytddjbchlpfaggaa.SemRc
open Go.RowKit Go.Lib Go.Proofs Go.Proofs.Ytddjbchlpfaggaa.SetA Go.Proofs.Ytddjbchlpfaggaa.SetB Go.Proofs.Ytddjbchlpfaggaa.SetC Go.Proofs.Ytddjbchlpfaggaa.TblB Go.Proofs.Ytddjbchlpfaggaa.TblC Go.Proofs.Ytddjbchlpfaggaa.TblV Go.Proofs.Ytddjbchlpfaggaa.TblP Go.Proofs.Ytddjbchlpfaggaa.TblQ Go.Proofs.Ytddjbchlpfaggaa.SemA Go.Proofs.Ytddjbchlpfaggaa.SemB Go.Proofs.Ytddjbchlpfaggaa.SemJ Go.Proofs.Ytddjbchlpfaggaa.SemR Go.Proofs.Ytddjbchlpfaggaa.SemRa Go.Proofs.Ytddjbchlpfaggaa.SemRb
set_option linter.unusedVariables false
set_option linter.unusedSimpArgs false
set_option maxHeartbeats 2000000 in
set_option maxRecDepth 100000 in
theorem once3 {mo gi ca P K n : Nat} {R : Nat → Nat} {f : Rel} (hd a v : Nat) (w : World) (hm : MR w mo gi ca P K n R f) (hP : P ≤ 1000) (hn : n ≤ 1000000) (hh : hd < n) (ha : a < n) (hv : v < K) (hK : K ≤ 1000) (hnn : n = P * K) :
    Calls Try.prog 27 #[.pointer (some ⟨mo, 0, none⟩), .agg #[.int .i64 3, .int .i64 hd, .int .i64 0, .int .i64 a, .int .i64 0, .int .i64 v]] w (OncePost mo gi ca P K n R f ⟨3, hd, 0, a, 0, v⟩ w) := by
  have hb0 : Below w.heap.size w (w.alloc (.cells #[.int .i64 3, .int .i64 hd, .int .i64 0, .int .i64 a, .int .i64 0, .int .i64 v] 44)) := (Below.refl _ _).alloc (Nat.le_refl _) _
  have hX := heap_alloc_new w (.cells #[.int .i64 3, .int .i64 hd, .int .i64 0, .int .i64 a, .int .i64 0, .int .i64 v] 44)
  have HM0 := Lib.hid (hm.below hb0)
  have HB0 := Lib.hid hb0
  have HX := Lib.hid hX
  have HRl : Hid (∀ r, r < n → w.heap.size ≠ R r) := Lib.hid (fun r hr q => by have := hm.lt hr; omega)
  have hz : (w.alloc (.cells #[.int .i64 3, .int .i64 hd, .int .i64 0, .int .i64 a, .int .i64 0, .int .i64 v] 44)).heap.size = w.heap.size + 1 := by simp
  have p2 : (0 : Int) ≤ hd := by omega
  have p3 : (hd : Int) < n := by omega
  have p4 : (0 : Int) ≤ a := by omega
  have p5 : (a : Int) < n := by omega
  clear hb0 hX hm
  go_enter Try.func27, Try.ntmps27
  go_upto_region 2 with fail
  obtain ⟨bx, hbx⟩ : ∃ bx, w.heap.size = bx := ⟨_, rfl⟩
  rw [hbx] at HX hz HRl
  simp only [hbx] at ⊢
  generalize w.alloc (.cells #[.int .i64 3, .int .i64 hd, .int .i64 0, .int .i64 a, .int .i64 0, .int .i64 v] 44) = w0 at *
  have HC := Lib.hid (fun w' (hb : Fr n R w0 w') (o : Nat) => Lib.cell_of_heap ((hb.block bx (by omega) HRl.out).trans HX.out) o)
  clear hz HX HRl
  go_wp2_with fail
  go_loopw [5, 6] (fun m i wr => ∃ (j : Nat) (b : Bool) (g : Rel), j ≤ P ∧ m = .bool b ∧ i = .int .i64 j ∧ Hid (MR wr mo gi ca P K n R g) ∧ Hid (Fr n R w0 wr) ∧ Hid (Mid P K f ⟨3, hd, 0, a, 0, v⟩ j g b)) (fun _ i _ => P - (intOf i).toNat)
  case atStart => exact ⟨0, false, f, by omega, rfl, rfl, HM0, Lib.hid (Fr.refl _ _ _), Lib.hid (Mid.start _ _ _ _)⟩
  case round =>
    obtain ⟨j, b, g, hj, rfl, rfl, HM, HF, HMi⟩ := hrel
    have hm0 := HM.out.cells (by omega)
    have d0 : wr.cell? ⟨mo, 0, none⟩ = some (.int .i64 P) := hm0 0
    have d1 : wr.cell? ⟨mo, 1, none⟩ = some (.int .i64 K) := hm0 1
    have d2 : wr.cell? ⟨mo, 2, none⟩ = some (.slice (some ⟨gi, 0, none⟩) n ca) := hm0 2
    clear hm0
    by_cases hlt : j < P
    · have e1 : decide ((j : Int) < P) = true := by simp; omega
      have p0 : (0 : Int) ≤ j := by omega
      have p1 : (j : Int) < P := by omega
      obtain ⟨gv, hgv⟩ : ∃ gv, g hd j = gv := ⟨_, rfl⟩
      obtain ⟨c0, i0⟩ := HM.out.hi hd hh
      obtain ⟨r0, q0⟩ := HM.out.row (r := hd) (x := j) hh hlt
      rw [hgv] at r0
      have cx := HC.out wr HF.out
      go_wp2_with fail
      clear d0 d1 d2 i0 r0 q0 cx
      generalize wr = wo at *
      go_loopw [7, 8] (fun m i wy => ∃ (y : Nat) (acc : Bool), y ≤ P ∧ m = .bool acc ∧ i = .int .i64 y ∧ Hid (((List.range y).any fun y => g a y && g (y * K + v) j) = acc) ∧ Hid (Below wo.heap.size wo wy)) (fun _ i _ => P - (intOf i).toNat)
      case atStart => exact ⟨0, false, by omega, rfl, rfl, Lib.hid rfl, Lib.hid (Below.refl _ _)⟩
      case round =>
        obtain ⟨y, acc, hy, rfl, rfl, hacc, hby⟩ := hrel
        have HMy := Lib.hid (HM.out.below hby.out)
        have HFy := Lib.hid (HF.out.below hby.out)
        have hm0 := HMy.out.cells (by omega)
        have d0 : wr.cell? ⟨mo, 0, none⟩ = some (.int .i64 P) := hm0 0
        have d1 : wr.cell? ⟨mo, 1, none⟩ = some (.int .i64 K) := hm0 1
        have d2 : wr.cell? ⟨mo, 2, none⟩ = some (.slice (some ⟨gi, 0, none⟩) n ca) := hm0 2
        clear hm0
        by_cases hlty : y < P
        · have e2 : decide ((y : Int) < P) = true := by simp; omega
          have p6 : (0 : Int) ≤ y := by omega
          have p7 : (y : Int) < P := by omega
          obtain ⟨c1, i1⟩ := HMy.out.hi a ha
          obtain ⟨r1, q1⟩ := HMy.out.row (r := a) (x := y) ha hlty
          obtain ⟨rr, z, hz, hrr, hrn⟩ : ∃ rr z : Nat, y * K = z ∧ z + v = rr ∧ rr < n := ⟨_, _, rfl, rfl, by
            rw [hnn]
            have : (y + 1) * K ≤ P * K := Nat.mul_le_mul_right K hlty
            rw [Nat.succ_mul] at this
            omega⟩
          have hmul : IntKind.i64.wrap ((y : Int) * (K : Int)) = (z : Int) := wrapN hz (by omega)
          have hadd : IntKind.i64.wrap ((z : Int) + (v : Int)) = (rr : Int) := by rw [IntKind.wrap_i64]; omega
          have p8 : (0 : Int) ≤ rr := by omega
          have p9 : (rr : Int) < n := by omega
          obtain ⟨c2, i2⟩ := HMy.out.hi rr hrn
          obtain ⟨r2, q2⟩ := HMy.out.row (r := rr) (x := j) hrn hlt
          have cy := HC.out wr HFy.out
          have hnx : ((List.range (y + 1)).any fun y => g a y && g (y * K + v) j) = (acc || (g a y && g rr j)) := by rw [any_succ, hacc.out, hz, hrr]
          generalize g a y = va at *
          generalize g rr j = vb at *
          clear hz hrr
          go_upto_region 16 with fail
          clear e1 e2 hnn
          cases acc with
          | true =>
            go_quiet (fail)
            have HB3 := Lib.hid (SemI.nx hby.out (bwr wr nq))
            rw [Bool.true_or] at hnx
            clear HMy HFy hby cy d0 d1 d2 i1 r1 q1 i2 r2 q2
            go_wp2_with fail
            go_roundw
            · exact ⟨y + 1, true, by omega, rfl, by simp, Lib.hid hnx, HB3⟩
            · simp [intOf]; omega
          | false =>
            rw [Bool.false_or] at hnx
            cases va with
            | false =>
              go_quiet (fail)
              have HB3 := Lib.hid (SemI.nx hby.out (bwr wr nq))
              rw [Bool.false_and] at hnx
              clear HMy HFy hby cy d0 d1 d2 i1 r1 q1 i2 r2 q2
              go_wp2_with fail
              go_roundw
              · exact ⟨y + 1, false, by omega, rfl, by simp, Lib.hid hnx, HB3⟩
              · simp [intOf]; omega
            | true =>
              go_quiet (fail)
              have HB3 := Lib.hid (SemI.nx hby.out (bwr wr nq))
              rw [Bool.true_and] at hnx
              clear HMy HFy hby cy d0 d1 d2 i1 r1 q1 i2 r2 q2
              go_wp2_with fail
              go_roundw
              · exact ⟨y + 1, vb, by omega, rfl, by simp, Lib.hid hnx, HB3⟩
              · simp [intOf]; omega
        · have e2 : decide ((y : Int) < P) = false := by simp; omega
          obtain rfl : y = P := by omega
          have hcv : cnd y K g ⟨3, hd, 0, a, 0, v⟩ j = acc := hacc.out
          clear HM HF hacc hby
          have HM := HMy
          have HF := HFy
          clear HMy HFy
          obtain ⟨c0, i0⟩ := HM.out.hi hd hh
          obtain ⟨r0, q0⟩ := HM.out.row (r := hd) (x := j) hh hlt
          rw [hgv] at r0
          have cx := HC.out wr HF.out
          generalize acc = cv at *
          go_upto_region 17 with fail
          clear e1 e2 hnn
          cases cv with
          | false =>
            clear r0 q0 i0 d0 d2
            go_quiet (fail)
            have HM1 := Lib.hid (HM.out.below (bwr wr nq))
            have HF1 := Lib.hid (HF.out.below (bwr wr nq))
            have HMi1 := Lib.hid (HMi.out.skip (Or.inl hcv))
            clear cx HM HF HMi
            go_wp2_with fail
            go_roundw
            · exact ⟨j + 1, b, g, by omega, rfl, by simp, HM1, HF1, HMi1⟩
            · simp [intOf]; omega
          | true =>
            cases gv with
            | true =>
              go_quiet (fail)
              have HM1 := Lib.hid (HM.out.below (bwr wr nq))
              have HF1 := Lib.hid (HF.out.below (bwr wr nq))
              have HMi1 := Lib.hid (HMi.out.skip (Or.inr hgv))
              clear cx HM HF HMi
              go_wp2_with fail
              go_roundw
              · exact ⟨j + 1, b, g, by omega, rfl, by simp, HM1, HF1, HMi1⟩
              · simp [intOf]; omega
            | false =>
              go_quiet (fail)
              have HM1 := Lib.hid (fun q => (HM.out.below (bwr wr q)).put hh hlt)
              have HF1 := Lib.hid (fun q => (HF.out.below (bwr wr q)).set hh j (.bool true))
              have HMi1 := Lib.hid (HMi.out.put hlt hcv hgv)
              clear HM HF HMi
              go_wp2_with fail
              refine still_tail 10 (by kernel_rfl) (by kernel_rfl) ?_
              simp only [List.take_succ_cons, List.take_zero, List.drop_succ_cons, List.drop_zero]
              repeat still_step
              refine wpStill_nil ?_
              go_wp2
              go_roundw
              · exact ⟨j + 1, true, upd g hd j, by omega, rfl, by simp, Lib.hid (HM1.out _), Lib.hid (HF1.out _), HMi1⟩
              · simp [intOf]; omega
    · have e1 : decide ((j : Int) < P) = false := by simp; omega
      obtain rfl : j = P := by omega
      clear d2
      go_wp2_with fail
      go_ret
      exact ⟨g, b, rfl, HM.out, Fr.start HB0.out HF.out, HMi.out⟩
end Go.Proofs.Ytddjbchlpfaggaa.SemRc
