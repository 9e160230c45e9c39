/- Where diagrams are true: the maths, and At by contract. -/
import Derived.Test.YtnkkmppmfjekeaaNdG
namespace Go.Proofs.Ytnkkmppmfjekeaa.NdI
open Go.RowKit Go.Lib Go.Proofs Go.Proofs.Ytnkkmppmfjekeaa.NdA Go.Proofs.Ytnkkmppmfjekeaa.NdH Go.Proofs.Ytnkkmppmfjekeaa.NdB Go.Proofs.Ytnkkmppmfjekeaa.NdC Go.Proofs.Ytnkkmppmfjekeaa.NdD Go.Proofs.Ytnkkmppmfjekeaa.NdE Go.Proofs.Ytnkkmppmfjekeaa.NdG
set_option linter.unusedVariables false
set_option linter.unusedSimpArgs false
def evStep (b : Nat → Bool) (acc : List Bool) (x : Nd) : List Bool := acc ++ [if b x.v.toNat then acc.getD x.hi.toNat false else acc.getD x.lo.toNat false]
/-- Which nodes are true: of 0, 1, and the nodes behind one another. -/
def evs (L : List Nd) (b : Nat → Bool) : List Bool := L.foldl (evStep b) [false, true]
def ev (L : List Nd) (b : Nat → Bool) (n : Int) : Bool := (evs L b).getD n.toNat false
theorem evs_snoc (L : List Nd) (x : Nd) (b : Nat → Bool) : evs (L ++ [x]) b = evs L b ++ [if b x.v.toNat then (evs L b).getD x.hi.toNat false else (evs L b).getD x.lo.toNat false] := by
  unfold evs
  rw [List.foldl_append]
  rfl
theorem evs_len (L : List Nd) (b : Nat → Bool) : (evs L b).length = L.length + 2 := by
  have : ∀ (L : List Nd) (acc : List Bool), (L.foldl (evStep b) acc).length = acc.length + L.length := fun L => by
    induction L with
    | nil => intro acc; rfl
    | cons x l ih => intro acc; rw [List.foldl_cons, ih]; unfold evStep; simp; omega
  unfold evs
  rw [this]
  simp; omega
theorem evs_more (M : List Nd) (b : Nat → Bool) : ∀ (L : List Nd) (j : Nat), j < L.length + 2 → (evs (L ++ M) b).getD j false = (evs L b).getD j false := by
  induction M with
  | nil => intro L j _; rw [List.append_nil]
  | cons x M ih =>
    intro L j hj
    rw [show L ++ x :: M = (L ++ [x]) ++ M by simp, ih (L ++ [x]) j (by simp; omega), evs_snoc]
    simp only [List.getD_eq_getElem?_getD]
    rw [List.getElem?_append_left (by rw [evs_len]; exact hj)]
theorem ev_zero (L : List Nd) (b : Nat → Bool) : ev L b 0 = false := by
  have := evs_more L b [] 0 (by simp)
  rw [List.nil_append] at this
  exact this
theorem ev_one (L : List Nd) (b : Nat → Bool) : ev L b 1 = true := by
  have := evs_more L b [] 1 (by simp)
  rw [List.nil_append] at this
  exact this
theorem ev_node {L : List Nd} {b : Nat → Bool} {i : Nat} (h : i < L.length) (l0 : 0 ≤ L[i].lo) (l1 : L[i].lo < i + 2) (h0 : 0 ≤ L[i].hi) (h1 : L[i].hi < i + 2) : ev L b (i + 2 : Nat) = if b L[i].v.toNat then ev L b L[i].hi else ev L b L[i].lo := by
  have e : L = L.take (i + 1) ++ L.drop (i + 1) := (List.take_append_drop _ _).symm
  have el : (L.take (i + 1)).length = i + 1 := by simp; omega
  have el0 : (L.take i).length = i := by simp; omega
  have e2 : L.take (i + 1) = L.take i ++ [L[i]] := List.take_succ_eq_append_getElem h
  have key : ∀ j, j < i + 2 → (evs L b).getD j false = (evs (L.take i) b).getD j false := fun j hj => by
    have := evs_more (L.drop i) b (L.take i) j (by rw [el0]; exact hj)
    rw [List.take_append_drop] at this
    exact this
  unfold ev
  rw [Int.toNat_natCast]
  have h2 : (evs L b).getD (i + 2) false = (evs (L.take (i + 1)) b).getD (i + 2) false := by
    have := evs_more (L.drop (i + 1)) b (L.take (i + 1)) (i + 2) (by rw [el]; omega)
    rw [List.take_append_drop] at this
    exact this
  rw [h2, e2, evs_snoc, List.getD_eq_getElem?_getD, List.getElem?_append_right (by rw [evs_len, el0]; exact Nat.le_refl _), evs_len, el0]
  simp only [Nat.sub_self, List.getElem?_cons_zero, Option.getD_some]
  rw [key L[i].hi.toNat (by omega), key L[i].lo.toNat (by omega)]
theorem ev_out {s : St} {b : Nat → Bool} {n : Int} (h : nodeB s n = false) : ev s.L b n = decide (n = 1) := by
  by_cases h1 : n = 1
  · subst h1; rw [ev_one]; rfl
  · rw [decide_eq_false h1]
    by_cases h0 : n ≤ 0
    · unfold ev
      rw [show n.toNat = 0 by omega]
      exact ev_zero s.L b
    · have : ¬ n < 2 + s.L.length := fun hh => by
        have := nodeB_iff.2 ⟨(by omega : 2 ≤ n), hh⟩
        rw [h] at this
        cases this
      unfold ev
      rw [List.getD_eq_getElem?_getD, List.getElem?_eq_none (by rw [evs_len]; omega)]
      rfl
section
variable {B R : Nat} {v : Value} {m : Nat} {Q : Nat → Nat} {s : St} {w : World}
theorem ev_in (H : WF s) {b : Nat → Bool} {n : Int} (h : nodeB s n = true) : ev s.L b n = (if b (at_ s n).v.toNat then ev s.L b (at_ s n).hi else ev s.L b (at_ s n).lo) ∧ 0 ≤ (at_ s n).v ∧ (at_ s n).v < 61 ∧ 0 ≤ (at_ s n).lo ∧ (at_ s n).lo < n ∧ 0 ≤ (at_ s n).hi ∧ (at_ s n).hi < n := by
  obtain ⟨h1, h2⟩ := nodeB_iff.1 h
  obtain ⟨i, hi⟩ : ∃ i : Nat, n = (i : Int) + 2 := ⟨(n - 2).toNat, by omega⟩
  have hil : i < s.L.length := by omega
  have ha := at_get (s := s) (n := n) (i := i) (by omega) hil
  have hok := H.ok i hil
  have hv := H.v61
  rw [ha]
  refine ⟨?_, hok.1, by omega, hok.2.2.1, by omega, hok.2.2.2.2.1, by omega⟩
  rw [show n = ((i + 2 : Nat) : Int) by omega]
  exact ev_node hil hok.2.2.1 hok.2.2.2.1 hok.2.2.2.2.1 hok.2.2.2.2.2.1
theorem bit_and (x k : Nat) (hx : x < 18446744073709551616) : bits .and .u64 ((x / 2 ^ k : Nat) : Int) 1 = (if x.testBit k then 1 else 0 : Int) := by
  have h := bits_and_u64_nat (x / 2 ^ k) 1 (Nat.lt_of_le_of_lt (Nat.div_le_self _ _) hx) (by omega)
  rw [show ((1 : Nat) : Int) = 1 from rfl] at h
  rw [h, Nat.and_one_is_mod, Nat.testBit_eq_decide_div_mod_eq]
  have : x / 2 ^ k % 2 < 2 := Nat.mod_lt _ (by omega)
  by_cases e : x / 2 ^ k % 2 = 1
  · rw [e]; rfl
  · have e0 : x / 2 ^ k % 2 = 0 := by omega
    rw [e0]; rfl
set_option maxHeartbeats 4000000 in
set_option maxRecDepth 100000 in
theorem at__ (n : Int) (hn : -9223372036854775808 ≤ n) (hn2 : n ≤ 9223372036854775807) (x : Nat) (hx : x < 18446744073709551616) (H : Tk w B R v m Q s) : Calls Try.prog 66 #[.pointer (some ⟨B, 0, none⟩), .int .i64 n, .int .u64 x] w fun e w' => e = .returned (.bool (ev s.L (fun i => x.testBit i) n)) ∧ Below w.heap.size w w' := by
  have HT := Lib.hid H
  have HW := Lib.hid H.tb.wf
  obtain ⟨t, ht⟩ : ∃ t, ev s.L (fun i => x.testBit i) n = t := ⟨_, rfl⟩
  rw [ht]
  have HI := Lib.hid ht
  have hx0 : (0 : Int) ≤ x := by omega
  have hx1 : (x : Int) < 18446744073709551616 := by omega
  clear ht H
  go_enter Try.func66, Try.ntmps66
  go_wp2_with fail
  go_loopw [1] (fun nv wr => ∃ k : Int, nv = .int .i64 k ∧ -9223372036854775808 ≤ k ∧ k ≤ 9223372036854775807 ∧ Hid (ev s.L (fun i => x.testBit i) k = t) ∧ Below w.heap.size w wr) (fun nv _ => (RowKit.intOf nv).toNat)
  case atStart => exact ⟨n, rfl, hn, hn2, HI, Below.refl _ _⟩
  case round =>
    clear HI hn hn2
    obtain ⟨k, rfl, hk1, hk2, hev, hb⟩ := hrel
    have hTw := HT.out.below hb
    have HB := Lib.hid hb
    cases hy : nodeB s k with
    | false =>
      have HG := Lib.hid (get_no k hk1 hk2 hTw.tb hy)
      have HE : Hid (t = decide (k = 1)) := Lib.hid (by rw [← hev.out, ev_out hy])
      clear hTw hy hb hev
      go_wp2_with fail
      refine HG.out.mono ?_
      rintro e w1 ⟨rfl, hb1⟩
      have HB1 := Lib.hid (show ∀ o, Below w.heap.size w (w1.alloc o) from fun o => HB.out.trans ((hb1.alloc hb1.size o).mono HB.out.size))
      clear hb1
      go_wp2_with fail
      go_ret
      exact ⟨by rw [HE.out]; congr 2, HB1.out _⟩
    | true =>
      obtain ⟨e1, e2, e3, e4, e5, e6, e7⟩ := ev_in (b := fun i => x.testBit i) HW.out hy
      have HG := Lib.hid (get_yes k hk1 hk2 hTw.tb hy)
      have HE := Lib.hid (hev.out.symm.trans e1)
      clear hTw hy hb hev e1
      generalize at_ s k = u at *
      obtain ⟨va, lo, hi⟩ := u
      simp only at e2 e3 e4 e5 e6 e7 HE
      obtain ⟨vn, rfl⟩ : ∃ vn : Nat, va = vn := ⟨va.toNat, by omega⟩
      rw [Int.toNat_natCast] at HE
      have hv64 : vn ≤ 64 := by omega
      have hsh : (x : Int) / 2 ^ vn = ((x / 2 ^ vn : Nat) : Int) := by simp
      have hand := bit_and x vn hx
      generalize x / 2 ^ vn = y at *
      cases hbit : x.testBit vn with
      | true =>
        have HE2 : Hid (ev s.L (fun i => x.testBit i) hi = t) := Lib.hid (by have := HE.out; simp only [hbit, if_true] at this; exact this.symm)
        simp only [hbit, if_true] at hand
        clear HE hbit
        go_wp2_with fail
        refine HG.out.mono ?_
        rintro e w1 ⟨rfl, hb1⟩
        have HB1 := Lib.hid (show ∀ o, Below w.heap.size w (w1.alloc o) from fun o => HB.out.trans ((hb1.alloc hb1.size o).mono HB.out.size))
        clear hb1
        go_wp2_with fail
        go_roundw
        case rel => exact ⟨hi, rfl, by omega, by omega, HE2, HB1.out _⟩
        case measure => simp [RowKit.intOf]; omega
      | false =>
        have HE2 : Hid (ev s.L (fun i => x.testBit i) lo = t) := Lib.hid (by have := HE.out; simp only [hbit] at this; exact this.symm)
        simp only [hbit] at hand
        clear HE hbit
        go_wp2_with fail
        refine HG.out.mono ?_
        rintro e w1 ⟨rfl, hb1⟩
        have HB1 := Lib.hid (show ∀ o, Below w.heap.size w (w1.alloc o) from fun o => HB.out.trans ((hb1.alloc hb1.size o).mono HB.out.size))
        clear hb1
        go_wp2_with fail
        go_roundw
        case rel => exact ⟨lo, rfl, by omega, by omega, HE2, HB1.out _⟩
        case measure => simp [RowKit.intOf]; omega
end
end Go.Proofs.Ytnkkmppmfjekeaa.NdI
