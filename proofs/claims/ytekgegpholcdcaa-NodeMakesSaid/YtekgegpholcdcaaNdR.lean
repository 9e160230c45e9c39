/- The document's table of nodes: At, by contract. -/
import Derived.Test.YtekgegpholcdcaaNdQ
namespace Go.Proofs.Ytekgegpholcdcaa.NdR
open Go.RowKit Go.Lib Go.Proofs Go.Proofs.Ytekgegpholcdcaa.NdA Go.Proofs.Ytekgegpholcdcaa.NdH Go.Proofs.Ytekgegpholcdcaa.NdB Go.Proofs.Ytekgegpholcdcaa.NdC Go.Proofs.Ytekgegpholcdcaa.NdE Go.Proofs.Ytekgegpholcdcaa.NdG Go.Proofs.Ytekgegpholcdcaa.NdI Go.Proofs.Ytekgegpholcdcaa.NdP
set_option linter.unusedVariables false
set_option linter.unusedSimpArgs false
section
variable {B : Nat} {v : Value} {s : St}
theorem node_is {n : Int} (h : isB s n = true) (h2 : ¬ n < 2) : nodeB s n = true := by
  cases hy : nodeB s n with
  | true => rfl
  | false =>
    have := nodeB_no hy h2
    rw [h] at this
    cases this
set_option maxHeartbeats 4000000 in
set_option maxRecDepth 100000 in
theorem atR_ (x : Nat) (hx : x < 18446744073709551616) : ∀ (k : Nat) (n : Int), n.toNat < k → ∀ w, Rt w B v s → Calls Try.prog 21 #[.pointer (some ⟨B, 0, none⟩), .int .i64 n, .int .u64 x] w fun e w' => e = .returned (.bool (ev s.L (fun i => x.testBit i) n)) ∧ Below w.heap.size w w' := by
  intro k
  induction k with
  | zero => intro n h; omega
  | succ k ih =>
    intro n hnk w H
    have HI := Lib.hid (isR n H)
    have HT := Lib.hid H
    have HB0 := Lib.hid (Below.refl w.heap.size w)
    cases hi : isB s n with
    | false =>
      have hv : ev s.L (fun i => x.testBit i) n = false := by
        have h0 : nodeB s n = false := by
          cases hy : nodeB s n with
          | false => rfl
          | true => rw [nodeB_yes hy] at hi; cases hi
        rw [ev_out h0]
        refine decide_eq_false (fun e => ?_)
        subst e
        unfold isB at hi
        simp at hi
        omega
      rw [hi] at HI
      rw [hv]
      clear hv hi H HT
      go_enter Try.func21, Try.ntmps21
      go_wp2_with ((with_reducible refine HI.out.mono ?_); rintro e w' ⟨rfl, rfl⟩)
      go_ret
      exact ⟨rfl, HB0.out⟩
    | true =>
      rw [hi] at HI
      by_cases h2 : n < 2
      · have hv : ev s.L (fun i => x.testBit i) n = decide (n = 1) := by
          refine ev_out ?_
          cases hy : nodeB s n with
          | false => rfl
          | true => have := (nodeB_iff.1 hy).1; omega
        rw [hv]
        have d0 : decide (n < 2) = true := decide_eq_true h2
        clear hv hi H HT
        go_enter Try.func21, Try.ntmps21
        go_wp2_with ((with_reducible refine HI.out.mono ?_); rintro e w' ⟨rfl, rfl⟩)
        go_ret
        exact ⟨by congr 2, HB0.out⟩
      · have hy := node_is hi h2
        obtain ⟨e1, e2, e3, e4, e5, e6, e7⟩ := ev_in (b := fun i => x.testBit i) H.wf hy
        obtain ⟨g1, g2⟩ := nodeB_iff.1 hy
        obtain ⟨i, hin⟩ : ∃ i : Nat, n - 2 = (i : Int) := ⟨(n - 2).toNat, by omega⟩
        have hil : i < s.L.length := by omega
        rw [at_get hin hil] at e1 e2 e3 e4 e5 e6 e7
        obtain ⟨A, ca, hvv, hle, hmx, hc⟩ := H.nodes
        obtain ⟨g, rfl, hg, hcell⟩ := hc (by omega)
        obtain ⟨a0, a1, a2⟩ := hcell i hil
        obtain ⟨c0, c1, c2, c3⟩ := H.b0
        rw [hvv] at c2
        have d0 : decide (n < 2) = false := decide_eq_false h2
        have i1 : (i : Int) < s.L.length := by omega
        have i0 : (0 : Int) ≤ i := by omega
        have hlen := H.len
        replace e1 := (show ev s.L (fun i => x.testBit i) n = if x.testBit s.L[i].v.toNat = true then ev s.L (fun i => x.testBit i) s.L[i].hi else ev s.L (fun i => x.testBit i) s.L[i].lo from e1)
        have HE := Lib.hid e1
        have HIH := Lib.hid ih
        clear hcell hc H hi hy ih e1
        generalize s.L[i].lo = lo at *
        generalize s.L[i].hi = hi at *
        obtain ⟨vn, hvn⟩ : ∃ vn : Nat, s.L[i].v = vn := ⟨s.L[i].v.toNat, by omega⟩
        rw [hvn] at a0 HE e2 e3
        clear hvn
        rw [Int.toNat_natCast] at HE
        obtain ⟨ln, hln⟩ : ∃ ln, s.L.length = ln := ⟨_, rfl⟩
        rw [hln] at i1 hle c2 hlen
        clear hln hil
        generalize ev s.L (fun i => x.testBit i) n = et at *
        have hIh := Lib.hid (HIH.out hi (by omega))
        have hIl := Lib.hid (HIH.out lo (by omega))
        have hbx := (Below.refl w.heap.size w).alloc (Nat.le_refl _) (.cells #[.int .i64 vn, .int .i64 lo, .int .i64 hi] 28)
        have hx0 := heap_alloc_new w (.cells #[.int .i64 vn, .int .i64 lo, .int .i64 hi] 28)
        have HBx := Lib.hid hbx
        have HX0 := Lib.hid hx0
        clear hbx hx0 HIH hnk g1 g2
        have hv61 : vn < 61 := by omega
        go_enter Try.func21, Try.ntmps21
        go_wp2_with ((with_reducible refine HI.out.mono ?_); rintro e w' ⟨rfl, rfl⟩)
        generalize hW1 : w.alloc (.cells #[.int .i64 vn, .int .i64 lo, .int .i64 hi] 28) = w1 at *
        have hz1 : w1.heap.size = w.heap.size + 1 := by rw [← hW1]; simp
        clear hW1 c0 c1 c2 c3 a0 a1 a2 d0 HI
        go_loopw [8, 9] (fun bv iv wr => ∃ j : Nat, j ≤ vn ∧ iv = .int .i64 j ∧ bv = .int .u64 ((x / 2 ^ j : Nat) : Int) ∧ Below w1.heap.size w1 wr) (fun _ iv _ => vn - (RowKit.intOf iv).toNat)
        case atStart => exact ⟨0, Nat.zero_le _, rfl, by simp, Below.refl _ _⟩
        case round =>
          obtain ⟨j, hj, rfl, rfl, hb⟩ := hrel
          have hbw : Below w.heap.size w wr := HBx.out.trans (hb.mono HBx.out.size)
          have y0 : ∀ o, wr.cell? ⟨w.heap.size, o, none⟩ = (#[.int .i64 vn, .int .i64 lo, .int .i64 hi] : Array Value)[o]? := fun o => Lib.cell_of_heap ((hb.block w.heap.size (by omega)).trans HX0.out) o
          have hyx : x / 2 ^ j < 18446744073709551616 := Nat.lt_of_le_of_lt (Nat.div_le_self _ _) hx
          have hy2 : x / 2 ^ j / 2 = x / 2 ^ (j + 1) := by rw [Nat.div_div_eq_div_mul, Nat.pow_succ]
          have hbt : x.testBit j = decide (x / 2 ^ j % 2 = 1) := Nat.testBit_eq_decide_div_mod_eq
          have HB := Lib.hid hb
          have HBw := Lib.hid hbw
          have HTw := Lib.hid (HT.out.below hbw)
          clear hb hbw
          by_cases hlt : j < vn
          · have d1 : decide ((j : Int) < vn) = true := by simp; omega
            have HY2 := Lib.hid hy2
            clear hy2 hbt
            generalize x / 2 ^ j = y at *
            have hq : (y : Int).tdiv 2 = ((y / 2 : Nat) : Int) := rfl
            have hq0 : y / 2 < 18446744073709551616 := by omega
            rw [HY2.out] at hq hq0
            obtain ⟨y2, hy2⟩ : ∃ y2, x / 2 ^ (j + 1) = y2 := ⟨_, rfl⟩
            rw [hy2] at hq hq0
            have HY3 := Lib.hid hy2
            clear hy2
            go_wp2_with fail
            go_roundw
            case rel => exact ⟨j + 1, by omega, by go_num, by rw [HY3.out], HB.out⟩
            case measure => simp [RowKit.intOf]; omega
          · have d1 : decide ((j : Int) < vn) = false := by simp; omega
            have hjv : j = vn := by omega
            subst hjv
            have HBT := Lib.hid hbt
            clear hbt hy2
            generalize x / 2 ^ j = y at *
            have hq : (y : Int).tmod 2 = ((y % 2 : Nat) : Int) := rfl
            by_cases hb1 : y % 2 = 1
            · have HE2 : Hid (et = ev s.L (fun i => x.testBit i) hi) := Lib.hid (by rw [HE.out, HBT.out, decide_eq_true hb1, if_pos rfl])
              rw [hb1] at hq
              have HC := Lib.hid (hIh.out wr HTw.out)
              go_wp2_with fail
              refine HC.out.mono ?_
              rintro e w2 ⟨rfl, hb2⟩
              have HB2 := Lib.hid (HBw.out.trans (hb2.mono HBw.out.size))
              clear hb2
              go_wp2_with fail
              go_ret
              exact ⟨by rw [HE2.out]; rfl, HB2.out⟩
            · have HE2 : Hid (et = ev s.L (fun i => x.testBit i) lo) := Lib.hid (by rw [HE.out, HBT.out, decide_eq_false hb1, if_neg (by simp)])
              rw [show y % 2 = 0 by omega] at hq
              have HC := Lib.hid (hIl.out wr HTw.out)
              go_wp2_with fail
              refine HC.out.mono ?_
              rintro e w2 ⟨rfl, hb2⟩
              have HB2 := Lib.hid (HBw.out.trans (hb2.mono HBw.out.size))
              clear hb2
              go_wp2_with fail
              go_ret
              exact ⟨by rw [HE2.out]; rfl, HB2.out⟩
theorem atR (x : Nat) (hx : x < 18446744073709551616) (n : Int) {w : World} (H : Rt w B v s) : Calls Try.prog 21 #[.pointer (some ⟨B, 0, none⟩), .int .i64 n, .int .u64 x] w fun e w' => e = .returned (.bool (ev s.L (fun i => x.testBit i) n)) ∧ Below w.heap.size w w' := atR_ x hx (n.toNat + 1) n (Nat.lt_succ_self _) w H
end
end Go.Proofs.Ytekgegpholcdcaa.NdR
