/- The document's once by contract: a rule over all principals. -/
import Derived.Test.YtihhojgnilbfnaaM08
import Derived.Deep.RegionHeld3
namespace Go.Proofs.Ytihhojgnilbfnaa.SemRc
set_option linter.unusedVariables false
set_option linter.unusedSimpArgs false
open Go.RowKit Go.Lib Go.Proofs Go.Proofs.Ytihhojgnilbfnaa.SetA Go.Proofs.Ytihhojgnilbfnaa.SetB Go.Proofs.Ytihhojgnilbfnaa.SetC Go.Proofs.Ytihhojgnilbfnaa.TblB Go.Proofs.Ytihhojgnilbfnaa.TblC Go.Proofs.Ytihhojgnilbfnaa.TblV Go.Proofs.Ytihhojgnilbfnaa.TblP Go.Proofs.Ytihhojgnilbfnaa.TblQ Go.Proofs.Ytihhojgnilbfnaa.SemA Go.Proofs.Ytihhojgnilbfnaa.SemB Go.Proofs.Ytihhojgnilbfnaa.SemJ Go.Proofs.Ytihhojgnilbfnaa.SemR Go.Proofs.Ytihhojgnilbfnaa.SemRa Go.Proofs.Ytihhojgnilbfnaa.SemRb
set_option linter.unusedVariables false
set_option linter.unusedSimpArgs false
set_option maxHeartbeats 2000000 in
set_option maxRecDepth 100000 in
theorem once3 {mo gi ca P K n : Nat} {R : Nat → Nat} {f : Rel} (hd a v : Nat) (w : World) (hm : MR w mo gi ca P K n R f) (hP : P ≤ 1000) (hn : n ≤ 1000000) (hh : hd < n) (ha : a < n) (hv : v < K) (hK : K ≤ 1000) (hnn : n = P * K) :
    Calls Try.prog 27 #[.pointer (some ⟨mo, 0, none⟩), .agg #[.int .i64 3, .int .i64 hd, .int .i64 0, .int .i64 a, .int .i64 0, .int .i64 v]] w (OncePost mo gi ca P K n R f ⟨3, hd, 0, a, 0, v⟩ w) := by
  have hb0 : Below w.heap.size w (w.alloc (.cells #[.int .i64 3, .int .i64 hd, .int .i64 0, .int .i64 a, .int .i64 0, .int .i64 v] 44)) := (Below.refl _ _).alloc (Nat.le_refl _) _
  have hX := heap_alloc_new w (.cells #[.int .i64 3, .int .i64 hd, .int .i64 0, .int .i64 a, .int .i64 0, .int .i64 v] 44)
  have HM0 := Lib.hid (hm.below hb0)
  have HB0 := Lib.hid hb0
  have HX := Lib.hid hX
  have HRl : Hid (∀ r, r < n → w.heap.size ≠ R r) := Lib.hid (fun r hr q => by have := hm.lt hr; omega)
  have hz : (w.alloc (.cells #[.int .i64 3, .int .i64 hd, .int .i64 0, .int .i64 a, .int .i64 0, .int .i64 v] 44)).heap.size = w.heap.size + 1 := by simp
  have p2 : (0 : Int) ≤ hd := by omega
  have p3 : (hd : Int) < n := by omega
  have p4 : (0 : Int) ≤ a := by omega
  have p5 : (a : Int) < n := by omega
  clear hb0 hX hm
  go_enter Try.func27, Try.ntmps27
  go_upto_region 2 with fail
  obtain ⟨bx, hbx⟩ : ∃ bx, w.heap.size = bx := ⟨_, rfl⟩
  rw [hbx] at HX hz HRl
  simp only [hbx] at ⊢
  generalize w.alloc (.cells #[.int .i64 3, .int .i64 hd, .int .i64 0, .int .i64 a, .int .i64 0, .int .i64 v] 44) = w0 at *
  have HC := Lib.hid (fun w' (hb : Fr n R w0 w') (o : Nat) => Lib.cell_of_heap ((hb.block bx (by omega) HRl.out).trans HX.out) o)
  clear hz HX HRl
  go_wp2_with fail
  go_loopw [5, 6] (fun m i wr => ∃ (j : Nat) (b : Bool) (g : Rel), j ≤ P ∧ m = .bool b ∧ i = .int .i64 j ∧ Hid (MR wr mo gi ca P K n R g) ∧ Hid (Fr n R w0 wr) ∧ Hid (Mid P K f ⟨3, hd, 0, a, 0, v⟩ j g b)) (fun _ i _ => P - (intOf i).toNat)
  case atStart => exact ⟨0, false, f, by omega, rfl, rfl, HM0, Lib.hid (Fr.refl _ _ _), Lib.hid (Mid.start _ _ _ _)⟩
  case round =>
    obtain ⟨j, b, g, hj, rfl, rfl, HM, HF, HMi⟩ := hrel
    have hm0 := HM.out.cells (by omega)
    have d0 : wr.cell? ⟨mo, 0, none⟩ = some (.int .i64 P) := hm0 0
    have d1 : wr.cell? ⟨mo, 1, none⟩ = some (.int .i64 K) := hm0 1
    have d2 : wr.cell? ⟨mo, 2, none⟩ = some (.slice (some ⟨gi, 0, none⟩) n ca) := hm0 2
    clear hm0
    by_cases hlt : j < P
    · have e1 : decide ((j : Int) < P) = true := by simp; omega
      have p0 : (0 : Int) ≤ j := by omega
      have p1 : (j : Int) < P := by omega
      obtain ⟨gv, hgv⟩ : ∃ gv, g hd j = gv := ⟨_, rfl⟩
      obtain ⟨c0, i0⟩ := HM.out.hi hd hh
      obtain ⟨r0, q0⟩ := HM.out.row (r := hd) (x := j) hh hlt
      rw [hgv] at r0
      have cx := HC.out wr HF.out
      go_wp2_with fail
      clear d0 d1 d2 i0 r0 q0 cx
      generalize wr = wo at *
      go_loopw [7, 8] (fun m i wy => ∃ (y : Nat) (acc : Bool), y ≤ P ∧ m = .bool acc ∧ i = .int .i64 y ∧ Hid (((List.range y).any fun y => g a y && g (y * K + v) j) = acc) ∧ Hid (Below wo.heap.size wo wy)) (fun _ i _ => P - (intOf i).toNat)
      case atStart => exact ⟨0, false, by omega, rfl, rfl, Lib.hid rfl, Lib.hid (Below.refl _ _)⟩
      case round =>
        obtain ⟨y, acc, hy, rfl, rfl, hacc, hby⟩ := hrel
        have HMy := Lib.hid (HM.out.below hby.out)
        have HFy := Lib.hid (HF.out.below hby.out)
        have hm0 := HMy.out.cells (by omega)
        have d0 : wr.cell? ⟨mo, 0, none⟩ = some (.int .i64 P) := hm0 0
        have d1 : wr.cell? ⟨mo, 1, none⟩ = some (.int .i64 K) := hm0 1
        have d2 : wr.cell? ⟨mo, 2, none⟩ = some (.slice (some ⟨gi, 0, none⟩) n ca) := hm0 2
        clear hm0
        by_cases hlty : y < P
        · have e2 : decide ((y : Int) < P) = true := by simp; omega
          have p6 : (0 : Int) ≤ y := by omega
          have p7 : (y : Int) < P := by omega
          obtain ⟨c1, i1⟩ := HMy.out.hi a ha
          obtain ⟨r1, q1⟩ := HMy.out.row (r := a) (x := y) ha hlty
          obtain ⟨rr, z, hz, hrr, hrn⟩ : ∃ rr z : Nat, y * K = z ∧ z + v = rr ∧ rr < n := ⟨_, _, rfl, rfl, by
            rw [hnn]
            have : (y + 1) * K ≤ P * K := Nat.mul_le_mul_right K hlty
            rw [Nat.succ_mul] at this
            omega⟩
          have hmul : IntKind.i64.wrap ((y : Int) * (K : Int)) = (z : Int) := wrapN hz (by omega)
          have hadd : IntKind.i64.wrap ((z : Int) + (v : Int)) = (rr : Int) := by rw [IntKind.wrap_i64]; omega
          have p8 : (0 : Int) ≤ rr := by omega
          have p9 : (rr : Int) < n := by omega
          obtain ⟨c2, i2⟩ := HMy.out.hi rr hrn
          obtain ⟨r2, q2⟩ := HMy.out.row (r := rr) (x := j) hrn hlt
          have cy := HC.out wr HFy.out
          have hnx : ((List.range (y + 1)).any fun y => g a y && g (y * K + v) j) = (acc || (g a y && g rr j)) := by rw [any_succ, hacc.out, hz, hrr]
          generalize g a y = va at *
          generalize g rr j = vb at *
          clear hz hrr
          go_upto_region 16 with fail
          clear e1 e2 hnn
          cases acc with
          | true =>
            go_quiet (fail)
            have HB3 := Lib.hid (SemI.nx hby.out (bwr wr nq))
            rw [Bool.true_or] at hnx
            clear HMy HFy hby cy d0 d1 d2 i1 r1 q1 i2 r2 q2
            go_wp2_with fail
            go_roundw
            · exact ⟨y + 1, true, by omega, rfl, by simp, Lib.hid hnx, HB3⟩
            · simp [intOf]; omega
          | false =>
            rw [Bool.false_or] at hnx
            cases va with
            | false =>
              go_quiet (fail)
              have HB3 := Lib.hid (SemI.nx hby.out (bwr wr nq))
              rw [Bool.false_and] at hnx
              clear HMy HFy hby cy d0 d1 d2 i1 r1 q1 i2 r2 q2
              go_wp2_with fail
              go_roundw
              · exact ⟨y + 1, false, by omega, rfl, by simp, Lib.hid hnx, HB3⟩
              · simp [intOf]; omega
            | true =>
              go_quiet (fail)
              have HB3 := Lib.hid (SemI.nx hby.out (bwr wr nq))
              rw [Bool.true_and] at hnx
              clear HMy HFy hby cy d0 d1 d2 i1 r1 q1 i2 r2 q2
              go_wp2_with fail
              go_roundw
              · exact ⟨y + 1, vb, by omega, rfl, by simp, Lib.hid hnx, HB3⟩
              · simp [intOf]; omega
        · have e2 : decide ((y : Int) < P) = false := by simp; omega
          obtain rfl : y = P := by omega
          have hcv : cnd y K g ⟨3, hd, 0, a, 0, v⟩ j = acc := hacc.out
          clear HM HF hacc hby
          have HM := HMy
          have HF := HFy
          clear HMy HFy
          obtain ⟨c0, i0⟩ := HM.out.hi hd hh
          obtain ⟨r0, q0⟩ := HM.out.row (r := hd) (x := j) hh hlt
          rw [hgv] at r0
          have cx := HC.out wr HF.out
          generalize acc = cv at *
          go_upto_region 17 with fail
          clear e1 e2 hnn
          cases cv with
          | false =>
            clear r0 q0 i0 d0 d2
            go_quiet (fail)
            have HM1 := Lib.hid (HM.out.below (bwr wr nq))
            have HF1 := Lib.hid (HF.out.below (bwr wr nq))
            have HMi1 := Lib.hid (HMi.out.skip (Or.inl hcv))
            clear cx HM HF HMi
            go_wp2_with fail
            go_roundw
            · exact ⟨j + 1, b, g, by omega, rfl, by simp, HM1, HF1, HMi1⟩
            · simp [intOf]; omega
          | true =>
            cases gv with
            | true =>
              go_quiet (fail)
              have HM1 := Lib.hid (HM.out.below (bwr wr nq))
              have HF1 := Lib.hid (HF.out.below (bwr wr nq))
              have HMi1 := Lib.hid (HMi.out.skip (Or.inr hgv))
              clear cx HM HF HMi
              go_wp2_with fail
              go_roundw
              · exact ⟨j + 1, b, g, by omega, rfl, by simp, HM1, HF1, HMi1⟩
              · simp [intOf]; omega
            | false =>
              go_quiet (fail)
              have HM1 := Lib.hid (fun q => (HM.out.below (bwr wr q)).put hh hlt)
              have HF1 := Lib.hid (fun q => (HF.out.below (bwr wr q)).set hh j (.bool true))
              have HMi1 := Lib.hid (HMi.out.put hlt hcv hgv)
              clear HM HF HMi
              go_wp2_with fail
              refine still_tail 10 (by kernel_rfl) (by kernel_rfl) ?_
              simp only [List.take_succ_cons, List.take_zero, List.drop_succ_cons, List.drop_zero]
              repeat still_step
              refine wpStill_nil ?_
              go_wp2
              go_roundw
              · exact ⟨j + 1, true, upd g hd j, by omega, rfl, by simp, Lib.hid (HM1.out _), Lib.hid (HF1.out _), HMi1⟩
              · simp [intOf]; omega
    · have e1 : decide ((j : Int) < P) = false := by simp; omega
      obtain rfl : j = P := by omega
      clear d2
      go_wp2_with fail
      go_ret
      exact ⟨g, b, rfl, HM.out, Fr.start HB0.out HF.out, HMi.out⟩
end Go.Proofs.Ytihhojgnilbfnaa.SemRc
/- The document's once at right rules; what runs of it come to. -/
namespace Go.Proofs.Ytihhojgnilbfnaa.SemRd
set_option linter.unusedVariables false
set_option linter.unusedSimpArgs false
open Go.RowKit Go.Lib Go.Proofs Go.Proofs.Ytihhojgnilbfnaa.TblB Go.Proofs.Ytihhojgnilbfnaa.TblC Go.Proofs.Ytihhojgnilbfnaa.TblV Go.Proofs.Ytihhojgnilbfnaa.TblP Go.Proofs.Ytihhojgnilbfnaa.TblQ Go.Proofs.Ytihhojgnilbfnaa.SemA Go.Proofs.Ytihhojgnilbfnaa.SemJ Go.Proofs.Ytihhojgnilbfnaa.SemR Go.Proofs.Ytihhojgnilbfnaa.SemRa Go.Proofs.Ytihhojgnilbfnaa.SemRb Go.Proofs.Ytihhojgnilbfnaa.SemRc
set_option linter.unusedVariables false
set_option linter.unusedSimpArgs false
theorem once {mo gi ca P K n : Nat} {R : Nat → Nat} {f : Rel} (u : Ru) (w : World) (hm : MR w mo gi ca P K n R f) (hP : P ≤ 1000) (hK : K ≤ 1000) (hnn : n = P * K) (hr : rightU P K u = true) :
    Calls Try.prog 27 #[.pointer (some ⟨mo, 0, none⟩), u.val] w (OncePost mo gi ca P K n R f u w) := by
  have hn : n ≤ 1000000 := by rw [hnn]; exact Nat.mul_le_mul hP hK
  rw [right_iff, ← hnn] at hr
  obtain ⟨k, h, x, a, b, v⟩ := u
  obtain ⟨⟨h1, h2⟩, hk⟩ := hr
  dsimp only at h1 h2 hk
  obtain ⟨hd, rfl⟩ : ∃ hd : Nat, h = hd := ⟨h.toNat, by omega⟩
  rcases hk with ⟨rfl, q1, q2, rfl, rfl, rfl⟩ | ⟨rfl, rfl, q1, rfl, rfl⟩ | ⟨rfl, rfl, q1, rfl, q2, q3⟩ | ⟨rfl, rfl, q1, rfl, q2, q3⟩
  · obtain ⟨y, rfl⟩ : ∃ y : Nat, x = y := ⟨x.toNat, by omega⟩
    exact once1 hd y w hm hP hn (by omega)
  · obtain ⟨a', rfl⟩ : ∃ y : Nat, a = y := ⟨a.toNat, by omega⟩
    exact once2 hd a' w hm hP hn (by omega) (by omega)
  · obtain ⟨a', rfl⟩ : ∃ y : Nat, a = y := ⟨a.toNat, by omega⟩
    obtain ⟨v', rfl⟩ : ∃ y : Nat, v = y := ⟨v.toNat, by omega⟩
    exact once3 hd a' v' w hm hP hn (by omega) (by omega) (by omega) hK hnn
  · obtain ⟨a', rfl⟩ : ∃ y : Nat, a = y := ⟨a.toNat, by omega⟩
    obtain ⟨c', rfl⟩ : ∃ y : Nat, b = y := ⟨b.toNat, by omega⟩
    exact once4 hd a' c' w hm hP hn (by omega) (by omega) (by omega)
/-- Nobody is in but by the rules. -/
def Snd (K : Nat) (L : List Ru) (f : Rel) : Prop := ∀ r x, f r x = true → Der K L r x
theorem Snd.start (K : Nat) (L : List Ru) : Snd K L (fun _ _ => false) := fun r x h => by cases h
theorem Snd.step {P K : Nat} {L : List Ru} {u : Ru} (hu : u ∈ L) (hr : rightU P K u = true) (g : Rel) (x : Nat) (hg : Snd K L g) (hc : cnd P K g u x = true) : Snd K L (upd g u.head.toNat x) := by
  intro r y hf
  unfold upd at hf
  split at hf
  · rename_i e
    obtain ⟨rfl, rfl⟩ := e
    rw [right_iff] at hr
    obtain ⟨⟨h1, h2⟩, hk⟩ := hr
    have eh : ((u.head.toNat : Nat) : Int) = u.head := by omega
    rw [eh]
    unfold cnd at hc
    rcases hk with ⟨k, q⟩ | ⟨k, q⟩ | ⟨k, q⟩ | ⟨k, q⟩
    · rw [if_pos k, decide_eq_true_eq] at hc
      rw [hc]
      exact Der.mem u hu k
    · rw [if_neg (by omega), if_pos k] at hc
      have := hg _ _ hc
      rw [show ((u.a.toNat : Nat) : Int) = u.a by omega] at this
      exact Der.incl u y hu k this
    · rw [if_neg (by omega), if_neg (by omega), if_pos k, List.any_eq_true] at hc
      obtain ⟨z, hz, h3⟩ := hc
      rw [Bool.and_eq_true] at h3
      have d1 := hg _ _ h3.1
      have d2 := hg _ _ h3.2
      rw [show ((u.a.toNat : Nat) : Int) = u.a by omega] at d1
      rw [show ((z * K + u.via.toNat : Nat) : Int) = (z : Int) * K + u.via by rw [Int.natCast_add, Int.natCast_mul]; omega] at d2
      exact Der.link u z y hu k d1 d2
    · rw [if_neg (by omega), if_neg (by omega), if_neg (by omega), Bool.and_eq_true] at hc
      have d1 := hg _ _ hc.1
      have d2 := hg _ _ hc.2
      rw [show ((u.a.toNat : Nat) : Int) = u.a by omega] at d1
      rw [show ((u.b.toNat : Nat) : Int) = u.b by omega] at d2
      exact Der.both u y hu k d1 d2
  · exact hg r y hf
/-- Nothing more comes in. -/
def Clo (P K : Nat) (L : List Ru) (f : Rel) : Prop := ∀ u ∈ L, ∀ x, x < P → cnd P K f u x = true → f u.head.toNat x = true
theorem Clo.der {P K : Nat} {L : List Ru} {f : Rel} (hr : ∀ u ∈ L, rightU P K u = true) (hc : Clo P K L f) {r x : Int} (d : Der K L r x) : ∃ (r' x' : Nat), r = r' ∧ x = x' ∧ r' < P * K ∧ x' < P ∧ f r' x' = true := by
  induction d with
  | mem u hu hk =>
    have h := hr u hu
    rw [right_iff] at h
    obtain ⟨⟨h1, h2⟩, hq⟩ := h
    refine ⟨u.head.toNat, u.who.toNat, by omega, by omega, by omega, by omega, ?_⟩
    refine hc u hu _ (by omega) ?_
    unfold cnd
    rw [if_pos hk, decide_eq_true_eq]
    omega
  | incl u x hu hk d ih =>
    have h := hr u hu
    rw [right_iff] at h
    obtain ⟨⟨h1, h2⟩, hq⟩ := h
    obtain ⟨r', x', e1, rfl, h3, h4, h5⟩ := ih
    refine ⟨u.head.toNat, x', by omega, rfl, by omega, h4, ?_⟩
    refine hc u hu _ h4 ?_
    unfold cnd
    rw [if_neg (by omega), if_pos hk, e1]
    exact h5
  | link u x y hu hk d1 d2 ih1 ih2 =>
    have h := hr u hu
    rw [right_iff] at h
    obtain ⟨⟨h1, h2⟩, hq⟩ := h
    obtain ⟨r', x', e1, rfl, h3, h4, h5⟩ := ih1
    obtain ⟨r2, y', e2, rfl, h6, h7, h8⟩ := ih2
    refine ⟨u.head.toNat, y', by omega, rfl, by omega, h7, ?_⟩
    refine hc u hu _ h7 ?_
    unfold cnd
    rw [if_neg (by omega), if_neg (by omega), if_pos hk, List.any_eq_true]
    refine ⟨x', List.mem_range.2 h4, ?_⟩
    have e3 : x' * K + u.via.toNat = r2 := by
      have : ((x' * K + u.via.toNat : Nat) : Int) = r2 := by rw [← e2, Int.natCast_add, Int.natCast_mul]; omega
      omega
    rw [e3, h8, e1]
    simpa using h5
  | both u x hu hk d1 d2 ih1 ih2 =>
    have h := hr u hu
    rw [right_iff] at h
    obtain ⟨⟨h1, h2⟩, hq⟩ := h
    obtain ⟨r', x', e1, rfl, h3, h4, h5⟩ := ih1
    obtain ⟨r2, x2, e2, e3, h6, h7, h8⟩ := ih2
    obtain rfl : x' = x2 := by omega
    refine ⟨u.head.toNat, x', by omega, rfl, by omega, h4, ?_⟩
    refine hc u hu _ h4 ?_
    unfold cnd
    rw [if_neg (by omega), if_neg (by omega), if_neg (by omega), e1, e2]
    simp [h5, h8]
/-- A closed model that holds nobody but by the rules holds just what follows. -/
theorem is_der {P K : Nat} {L : List Ru} {f : Rel} (hr : ∀ u ∈ L, rightU P K u = true) (hs : Snd K L f) (hc : Clo P K L f) (r x : Nat) : f r x = true ↔ Der K L r x := by
  refine ⟨hs r x, fun d => ?_⟩
  obtain ⟨r', x', e1, e2, _, _, h⟩ := hc.der hr d
  obtain rfl : r = r' := by omega
  obtain rfl : x = x' := by omega
  exact h
/-- How many aren't in yet. -/
def outs (n P : Nat) (f : Rel) : Nat := ((List.range n).map fun r => ((List.range P).filter fun x => !f r x).length).sum
end Go.Proofs.Ytihhojgnilbfnaa.SemRd
/- The document's Eval: its rows, as they are laid. -/
namespace Go.Proofs.Ytihhojgnilbfnaa.SemRe
set_option linter.unusedVariables false
set_option linter.unusedSimpArgs false
open Go.RowKit Go.Lib Go.Proofs Go.Proofs.Ytihhojgnilbfnaa.TblB Go.Proofs.Ytihhojgnilbfnaa.TblC Go.Proofs.Ytihhojgnilbfnaa.TblV Go.Proofs.Ytihhojgnilbfnaa.TblP Go.Proofs.Ytihhojgnilbfnaa.TblQ Go.Proofs.Ytihhojgnilbfnaa.SemA Go.Proofs.Ytihhojgnilbfnaa.SemB Go.Proofs.Ytihhojgnilbfnaa.SemJ Go.Proofs.Ytihhojgnilbfnaa.SemR Go.Proofs.Ytihhojgnilbfnaa.SemRa Go.Proofs.Ytihhojgnilbfnaa.SemRb Go.Proofs.Ytihhojgnilbfnaa.SemRd
set_option linter.unusedVariables false
set_option linter.unusedSimpArgs false
def rv (P b : Nat) : Value := .slice (some ⟨b, 0, none⟩) P P
def nobody (P : Nat) : Obj := .cells (Array.replicate P (.bool false)) 4
structure Rs (w : World) (B mo P K : Nat) (v : Value) (xs : List Nat) : Prop where
  own : w.ownsRow B 65 1 v xs.length (xs.map (rv P))
  h0 : w.heap[mo]? = some (.cells #[.int .i64 P, .int .i64 K, v] 64 (0, 0))
  mb : mo < B
  bs : B ≤ w.heap.size
  row : ∀ b ∈ xs, B ≤ b ∧ w.heap[b]? = some (nobody P)
  nd : xs.Nodup
  e : xs = [] → v = .slice none 0 0
theorem ty_ne : (4 : TypeId) ≠ 65 := by decide
/-- Where the row lies: no row's own block. -/
theorem Rs.apart {w : World} {B mo P K : Nat} {v : Value} {xs : List Nat} (h : Rs w B mo P K v xs) {g : Nat} (hg : v.ownBlock = some g) : B ≤ g ∧ g < w.heap.size ∧ (∃ cur, w.heap[g]? = some (.cells cur 65 (0, 0))) ∧ g ∉ xs := by
  rcases h.own.2 with ⟨rfl, _⟩ | ⟨g', cap, cur, rfl, h1, h2, _⟩
  · cases hg
  · injection hg with hg
    subst hg
    refine ⟨h1, (Array.getElem?_eq_some_iff.1 h2).1, ⟨cur, h2⟩, fun hm => ?_⟩
    have := (h.row _ hm).2
    rw [h2] at this
    unfold nobody at this
    injection this with this
    injection this with _ e _
    exact ty_ne e.symm
theorem own_keep {w w' : World} {base : Nat} {e : TypeId} {size : Nat} {v : Value} {n : Nat} {xs : List Value} (h : w.ownsRow base e size v n xs) (hb : Below w.heap.size w w') : w'.ownsRow base e size v n xs := by
  refine ⟨h.1, ?_⟩
  rcases h.2 with hn | ⟨g, cap, cur, hv, h1, hg, rest⟩
  · exact .inl hn
  · exact .inr ⟨g, cap, cur, hv, h1, (hb.block g (heap_lt hg)).trans hg, rest⟩
theorem Rs.below {w w' : World} {B mo P K : Nat} {v : Value} {xs : List Nat} (h : Rs w B mo P K v xs) (hb : Below w.heap.size w w') : Rs w' B mo P K v xs :=
  ⟨own_keep h.own hb, (hb.block _ (by have := h.mb; have := h.bs; omega)).trans h.h0, h.mb, Nat.le_trans h.bs hb.size, fun b hm => ⟨(h.row b hm).1, (hb.block _ (heap_lt (h.row b hm).2)).trans (h.row b hm).2⟩, h.nd, h.e⟩
theorem own_set {w : World} {B : Nat} {e : TypeId} {k n : Nat} {v : Value} {xs : List Value} (h : w.ownsRow B e k v n xs) (mo o : Nat) (hm : mo < B) (u : Value) : (w.setCell ⟨mo, o, none⟩ u).ownsRow B e k v n xs := by
  refine ⟨h.1, ?_⟩
  rcases h.2 with hn | ⟨g, cap, cur, hv, hb, hg, rest⟩
  · exact .inl hn
  · exact .inr ⟨g, cap, cur, hv, hb, (heap_setCell_other w ⟨mo, o, none⟩ g _ (by show g ≠ mo; omega)).trans hg, rest⟩
def X1 (w : World) (P : Nat) : World := w.alloc (nobody P)
def X2 (w : World) (P : Nat) : World := (X1 w P).alloc (.cells #[rv P w.heap.size] 65)
theorem X2_below (w : World) (P : Nat) : Below w.heap.size w (X2 w P) := ((Below.refl _ _).alloc (Nat.le_refl _) _).alloc (by simp) _
theorem X2_size (w : World) (P : Nat) : (X2 w P).heap.size = w.heap.size + 2 := by unfold X2 X1; simp
theorem Rs.kept {w w1 : World} {B mo P K : Nat} {v : Value} {xs : List Nat} (h : Rs w B mo P K v xs) (hg : (X2 w P).grownBy w1 v.ownBlock) (v1 : Value) :
    w1.cell? ⟨mo, 0, none⟩ = some (.int .i64 P) ∧ w1.frozen? ⟨mo, 2, none⟩ = false ∧ (w1.setCell ⟨mo, 2, none⟩ v1).cell? ⟨mo, 0, none⟩ = some (.int .i64 P) ∧ w1.cell? ⟨mo, 2, none⟩ = some v := by
  have hX := h.below (X2_below w P)
  have hs := X2_size w P
  have hmo : w1.heap[mo]? = some (.cells #[.int .i64 P, .int .i64 K, v] 64 (0, 0)) := by
    rw [hg.block mo (by have := h.mb; have := h.bs; omega) (fun e => by have := (h.apart e.symm).1; have := h.mb; omega)]
    exact hX.h0
  exact ⟨Lib.cell_of_heap hmo 0, frozen_of_row _ _ _ _ _ hmo, Lib.cell_of_heap (heap_setCell_same _ _ _ _ _ _ hmo) 0, Lib.cell_of_heap hmo 2⟩
theorem Rs.push {w w1 : World} {B mo P K : Nat} {v v1 : Value} {xs : List Nat} (h : Rs w B mo P K v xs) (ho : w1.ownsRow B 65 1 v1 (xs.length + 1) (xs.map (rv P) ++ [rv P w.heap.size])) (hg : (X2 w P).grownBy w1 v.ownBlock) :
    Rs (w1.setCell ⟨mo, 2, none⟩ v1) B mo P K v1 (xs ++ [w.heap.size]) := by
  have hX := h.below (X2_below w P)
  have hs := X2_size w P
  have hmo : w1.heap[mo]? = some (.cells #[.int .i64 P, .int .i64 K, v] 64 (0, 0)) := by
    rw [hg.block mo (by have := h.mb; have := h.bs; omega) (fun e => by have := (h.apart e.symm).1; have := h.mb; omega)]
    exact hX.h0
  refine ⟨?_, ?_, h.mb, ?_, fun b hm => ?_, ?_, fun q => (by simp at q)⟩
  · have := own_set ho mo 2 h.mb v1
    rw [List.length_append, List.length_singleton, List.map_append, List.map_singleton]
    exact this
  · exact heap_setCell_same _ _ _ _ _ _ hmo
  · show B ≤ (w1.setCell _ _).heap.size
    have := hg.size
    have := h.bs
    simp [World.setCell]
    omega
  · have hb : B ≤ b ∧ (X2 w P).heap[b]? = some (nobody P) := by
      rcases List.mem_append.1 hm with q | q
      · exact hX.row b q
      · rw [List.mem_singleton] at q
        subst q
        refine ⟨h.bs, ?_⟩
        unfold X2
        rw [Below.heap_alloc _ _ _ (by unfold X1; simp)]
        exact heap_alloc_new w _
    refine ⟨hb.1, ?_⟩
    rw [heap_setCell_other _ _ _ _ (by show b ≠ mo; have := h.mb; omega)]
    rw [hg.block b (heap_lt hb.2) (fun e => ?_)]
    · exact hb.2
    · obtain ⟨_, q2, _, q4⟩ := h.apart e.symm
      rcases List.mem_append.1 hm with q | q
      · exact q4 q
      · rw [List.mem_singleton] at q; omega
  · rw [List.nodup_append]
    refine ⟨h.nd, by simp, fun a ha b hb e => ?_⟩
    rw [List.mem_singleton] at hb
    have := heap_lt (h.row a ha).2
    omega
theorem Rs.push_below {w0 w w1 : World} {B mo P K : Nat} {v v1 : Value} {xs : List Nat} (h : Rs w B mo P K v xs) (hb : Below w0.heap.size w0 w) (hm : w0.heap.size ≤ mo) (hg : (X2 w P).grownBy w1 v.ownBlock) : Below w0.heap.size w0 (w1.setCell ⟨mo, 2, none⟩ v1) := by
  have hX := X2_below w P
  have hs := X2_size w P
  refine ⟨hg.os.trans (hX.os.trans hb.os), hg.tape.trans (hX.tape.trans hb.tape), hg.output.trans (hX.output.trans hb.output), ?_, fun k hk => ?_⟩
  · have := hg.size; have := hb.size; simp [World.setCell]; omega
  · have := hb.size
    rw [heap_setCell_other _ _ _ _ (by show k ≠ mo; omega), hg.block k (by omega) (fun e => by have := (h.apart e.symm).1; have := h.mb; omega), hX.block k (by omega), hb.block k hk]
/-- All rows laid: a model that nobody is in. -/
theorem Rs.model {w : World} {B mo P K n : Nat} {v : Value} {xs : List Nat} (h : Rs w B mo P K v xs) (hn : xs.length = n) : ∃ gi ca, v = .slice (if n = 0 then none else some ⟨gi, 0, none⟩) n ca ∧ MR w mo gi ca P K n (fun r => xs.getD r 0) (fun _ _ => false) ∧ (0 < n → B ≤ gi) ∧ ∀ r, r < n → B ≤ xs.getD r 0 := by
  have hget : ∀ r, r < n → xs.getD r 0 ∈ xs := fun r hr => by
    rw [List.getD_eq_getElem?_getD, List.getElem?_eq_getElem (by omega)]
    exact List.getElem_mem _
  have hinj : ∀ r s, r < n → s < n → xs.getD r 0 = xs.getD s 0 → r = s := fun r s hr hs e => by
    rw [List.getD_eq_getElem?_getD, List.getD_eq_getElem?_getD, List.getElem?_eq_getElem (by omega), List.getElem?_eq_getElem (by omega)] at e
    exact (List.getElem_inj h.nd).1 e
  have hrow : ∀ r, r < n → ∃ vs, w.heap[xs.getD r 0]? = some (.cells vs 4 (0, 0)) ∧ ∀ x, x < P → vs[x]? = some (.bool ((fun _ _ => false : Rel) r x)) := fun r hr => ⟨_, (h.row _ (hget r hr)).2, fun x hx => by
    rw [Array.getElem?_replicate, if_pos hx]⟩
  by_cases h0 : n = 0
  · obtain rfl : xs = [] := List.eq_nil_of_length_eq_zero (by omega)
    subst h0
    obtain rfl := h.e rfl
    refine ⟨0, 0, rfl, ⟨?_, fun r hr => by omega, fun q => by omega, fun r hr => by omega, fun r s hr => by omega, fun r hr => by omega⟩, fun q => by omega, fun r hr => by omega⟩
    exact h.h0
  · rcases h.own.2 with ⟨rfl, hz⟩ | ⟨g, cap, cur, rfl, h1, h2, h3, h4, h5, h6⟩
    · omega
    · have hlt := (Array.getElem?_eq_some_iff.1 h2).1
      refine ⟨g, cap, by rw [if_neg h0, hn], ⟨?_, fun r hr => ⟨P, ?_⟩, fun q => ⟨hlt, by have := h.mb; omega⟩, hrow, hinj, fun r hr => ⟨by have := (h.row _ (hget r hr)).1; have := h.mb; omega, fun e => (h.apart (g := g) rfl).2.2.2 (by rw [← e]; exact hget r hr)⟩⟩, fun _ => h1, fun r hr => (h.row _ (hget r hr)).1⟩
      · rw [if_neg h0, ← hn]; exact h.h0
      · rw [Lib.cell_of_heap h2]
        have e : (cur.toList.take (xs.length * 1))[r]? = (xs.map (rv P))[r]? := by rw [h6]
        rw [List.getElem?_take, if_pos (by omega), List.getElem?_map, List.getElem?_eq_getElem (l := xs) (by omega), Array.getElem?_toList] at e
        rw [e, List.getD_eq_getElem?_getD, List.getElem?_eq_getElem (by omega)]
        rfl
end Go.Proofs.Ytihhojgnilbfnaa.SemRe
/- The document's Eval: rounds over the rules; what is not in yet. -/
namespace Go.Proofs.Ytihhojgnilbfnaa.SemRg
set_option linter.unusedVariables false
set_option linter.unusedSimpArgs false
open Go.RowKit Go.Lib Go.Proofs Go.Proofs.Ytihhojgnilbfnaa.TblB Go.Proofs.Ytihhojgnilbfnaa.TblC Go.Proofs.Ytihhojgnilbfnaa.TblV Go.Proofs.Ytihhojgnilbfnaa.TblP Go.Proofs.Ytihhojgnilbfnaa.TblQ Go.Proofs.Ytihhojgnilbfnaa.SemA Go.Proofs.Ytihhojgnilbfnaa.SemB Go.Proofs.Ytihhojgnilbfnaa.SemJ Go.Proofs.Ytihhojgnilbfnaa.SemR Go.Proofs.Ytihhojgnilbfnaa.SemRa Go.Proofs.Ytihhojgnilbfnaa.SemRb Go.Proofs.Ytihhojgnilbfnaa.SemRd Go.Proofs.Ytihhojgnilbfnaa.SemRe
set_option linter.unusedVariables false
set_option linter.unusedSimpArgs false
theorem countP_lt {α : Type} {p q : α → Bool} : ∀ {l : List α}, (∀ x ∈ l, q x = true → p x = true) → (∃ x ∈ l, p x = true ∧ q x = false) → l.countP q < l.countP p
  | [], _, ⟨x, hx, _⟩ => by cases hx
  | a :: l, h, ⟨x, hx, h1, h2⟩ => by
    have hle : l.countP q ≤ l.countP p := List.countP_mono_left (fun y hy => h y (List.mem_cons_of_mem _ hy))
    rw [List.countP_cons, List.countP_cons]
    rcases List.mem_cons.1 hx with rfl | hx
    · rw [h1, h2]; simp; omega
    · have := countP_lt (fun y hy => h y (List.mem_cons_of_mem _ hy)) ⟨x, hx, h1, h2⟩
      have h3 := h a (List.mem_cons_self ..)
      cases hq : q a
      · simp; omega
      · rw [h3 hq]; simp; omega
/-- How many aren't in yet, as the world has it. -/
def isIn : Option Value → Bool
  | some (.bool true) => true
  | _ => false
def outW (n P : Nat) (R : Nat → Nat) (w : World) : Nat := (List.range (n * P)).countP fun i => !isIn (w.cell? ⟨R (i / P), i % P, none⟩)
def outF (n P : Nat) (f : Rel) : Nat := (List.range (n * P)).countP fun i => !f (i / P) (i % P)
theorem at_lt {n P i : Nat} (h : i < n * P) : i / P < n ∧ i % P < P := by
  have hP : 0 < P := Nat.pos_of_mul_pos_left (Nat.lt_of_le_of_lt (Nat.zero_le _) h)
  exact ⟨(Nat.div_lt_iff_lt_mul hP).2 h, Nat.mod_lt _ hP⟩
theorem outW_eq {w : World} {mo gi ca P K n : Nat} {R : Nat → Nat} {f : Rel} (h : MR w mo gi ca P K n R f) : outW n P R w = outF n P f := by
  unfold outW outF
  refine List.countP_congr fun i hi => ?_
  obtain ⟨h1, h2⟩ := at_lt (List.mem_range.1 hi)
  rw [(h.row h1 h2).1]
  cases f (i / P) (i % P) <;> simp [isIn]
theorem outF_lt {n P : Nat} {f g : Rel} (hle : ∀ r x, f r x = true → g r x = true) {r x : Nat} (hr : r < n) (hx : x < P) (h1 : f r x = false) (h2 : g r x = true) : outF n P g < outF n P f := by
  refine countP_lt (fun i _ hq => ?_) ⟨r * P + x, List.mem_range.2 ?_, ?_, ?_⟩
  · cases hf : f (i / P) (i % P)
    · rfl
    · rw [hle _ _ hf] at hq; cases hq
  · calc r * P + x < r * P + P := by omega
      _ = (r + 1) * P := by rw [Nat.succ_mul]
      _ ≤ n * P := Nat.mul_le_mul_right P hr
  · rw [show (r * P + x) / P = r by rw [Nat.mul_comm, Nat.mul_add_div (by omega), Nat.div_eq_of_lt hx, Nat.add_zero], show (r * P + x) % P = x by rw [Nat.mul_comm, Nat.mul_add_mod, Nat.mod_eq_of_lt hx], h1]; rfl
  · rw [show (r * P + x) / P = r by rw [Nat.mul_comm, Nat.mul_add_div (by omega), Nat.div_eq_of_lt hx, Nat.add_zero], show (r * P + x) % P = x by rw [Nat.mul_comm, Nat.mul_add_mod, Nat.mod_eq_of_lt hx], h2]; rfl
/-- A round over the rules in front of j, from f0 on. -/
structure Rd (P K n : Nat) (L : List Ru) (f0 : Rel) (j : Nat) (f : Rel) (b : Bool) : Prop where
  no : b = false → f = f0 ∧ ∀ k, (h : k < L.length) → k < j → rightU P K L[k] = true → ∀ x, x < P → cnd P K f0 L[k] x = true → f0 L[k].head.toNat x = true
  yes : b = true → ∃ r x, r < n ∧ x < P ∧ f0 r x = false ∧ f r x = true
  le : ∀ r x, f0 r x = true → f r x = true
  snd : Snd K (L.filter (rightU P K)) f
theorem Rd.start {P K n : Nat} {L : List Ru} {f0 : Rel} (h : Snd K (L.filter (rightU P K)) f0) : Rd P K n L f0 0 f0 false :=
  ⟨fun _ => ⟨rfl, fun k hk h0 => by omega⟩, fun h => (by cases h), fun _ _ h => h, h⟩
theorem Rd.skip {P K n : Nat} {L : List Ru} {f0 f : Rel} {j : Nat} {b : Bool} (h : Rd P K n L f0 j f b) (hj : j < L.length) (hr : rightU P K L[j] = false) : Rd P K n L f0 (j + 1) f b := by
  refine ⟨fun hb => ?_, h.yes, h.le, h.snd⟩
  obtain ⟨e, h2⟩ := h.no hb
  refine ⟨e, fun k hk hkj hrk => ?_⟩
  by_cases e : k = j
  · subst e; rw [hr] at hrk; cases hrk
  · exact h2 k hk (by omega) hrk
theorem Rd.next {P K n : Nat} {L : List Ru} {f0 f g : Rel} {j : Nat} {b c : Bool} (hn : n = P * K) (h : Rd P K n L f0 j f b) (hj : j < L.length) (hr : rightU P K L[j] = true) (hm : Mid P K f L[j] P g c) : Rd P K n L f0 (j + 1) g (c || b) := by
  have hh : L[j].head.toNat < n := by
    have := (right_iff P K L[j]).1 hr
    obtain ⟨⟨h1, h2⟩, _⟩ := this
    rw [hn]; omega
  have hs : Snd K (L.filter (rightU P K)) g := hm.ind _ h.snd (fun g' x hx hJ hc => Snd.step (List.mem_filter.2 ⟨List.getElem_mem hj, hr⟩) hr g' x hJ hc)
  cases c with
  | true =>
    refine ⟨fun q => (by cases q), fun _ => ?_, fun r x q => hm.le _ _ (h.le _ _ q), hs⟩
    obtain ⟨x, h1, h2, h3, h4⟩ := hm.yes rfl
    refine ⟨L[j].head.toNat, x, hh, h1, ?_, h4⟩
    cases hq : f0 L[j].head.toNat x
    · rfl
    · rw [h.le _ _ hq] at h3; cases h3
  | false =>
    obtain ⟨rfl, h2⟩ := hm.no rfl
    refine ⟨fun q => ?_, h.yes, h.le, hs⟩
    obtain ⟨rfl, h3⟩ := h.no q
    refine ⟨rfl, fun k hk hkj hrk => ?_⟩
    by_cases e : k = j
    · subst e; exact h2
    · exact h3 k hk (by omega) hrk
theorem Rd.close {P K n : Nat} {L : List Ru} {f0 f : Rel} (h : Rd P K n L f0 L.length f false) : Clo P K (L.filter (rightU P K)) f := by
  obtain ⟨rfl, h2⟩ := h.no rfl
  intro u hu
  obtain ⟨h3, h4⟩ := List.mem_filter.1 hu
  obtain ⟨k, hk, rfl⟩ := List.getElem_of_mem h3
  exact h2 k hk hk h4
end Go.Proofs.Ytihhojgnilbfnaa.SemRg
