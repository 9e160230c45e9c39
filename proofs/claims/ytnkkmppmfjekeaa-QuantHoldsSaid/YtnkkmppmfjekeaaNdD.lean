/- Diagrams' nodes in memory: where a node is, by contract. -/
import Derived.Test.YtnkkmppmfjekeaaNdC
import Derived.Deep.RegionHeld3
import Derived.WalkMore
namespace Go.Proofs.Ytnkkmppmfjekeaa.NdD
open Go.RowKit Go.Lib Go.Proofs Go.Proofs.Ytnkkmppmfjekeaa.NdA Go.Proofs.Ytnkkmppmfjekeaa.NdH Go.Proofs.Ytnkkmppmfjekeaa.NdB Go.Proofs.Ytnkkmppmfjekeaa.NdC
set_option linter.unusedVariables false
set_option linter.unusedSimpArgs false
theorem pow10 {k : Nat} (h : k ≤ 18) : 1 ≤ 2 ^ k ∧ 2 ^ k ≤ 262144 := ⟨Nat.one_le_two_pow, by simpa using Nat.pow_le_pow_right (n := 2) (by omega) h⟩
theorem and_u64 (x m k : Nat) (hx : x < 18446744073709551616) (hk : k ≤ 18) (hm : m = 2 ^ k) : bits .and .u64 (x : Int) ((m : Int) - 1) = ((x % m : Nat) : Int) := by
  have := pow10 hk
  have e : ((m : Int) - 1) = ((2 ^ k - 1 : Nat) : Int) := by omega
  rw [e, bits_and_u64_nat x (2 ^ k - 1) hx (by omega), Nat.and_two_pow_sub_one_eq_mod, hm]
theorem and_i64 (x m k : Nat) (hx : x < 9223372036854775808) (hk : k ≤ 18) (hm : m = 2 ^ k) : bits .and .i64 (x : Int) ((m : Int) - 1) = ((x % m : Nat) : Int) := by
  have hp := pow10 hk
  have e : ((m : Int) - 1) = ((2 ^ k - 1 : Nat) : Int) := by omega
  have h1 : (BitVec.ofInt 64 (x : Int)).toNat = x := by
    rw [BitVec.ofInt_natCast, BitVec.toNat_ofNat]; exact Nat.mod_eq_of_lt (by omega)
  have h2 : (BitVec.ofInt 64 ((2 ^ k - 1 : Nat) : Int)).toNat = 2 ^ k - 1 := by
    rw [BitVec.ofInt_natCast, BitVec.toNat_ofNat]; exact Nat.mod_eq_of_lt (by omega)
  rw [e]
  show IntKind.i64.wrap ((BitVec.ofInt 64 (x : Int) &&& BitVec.ofInt 64 ((2 ^ k - 1 : Nat) : Int)).toNat : Int) = _
  rw [BitVec.toNat_and, h1, h2, Nat.and_two_pow_sub_one_eq_mod, IntKind.wrap_i64, hm]
  have := Nat.mod_lt x (show 2 ^ k > 0 by omega)
  omega
theorem eqN (a b c a2 b2 c2 : Int) (w : World) : (binOp .eql 89 (.agg #[.int .i64 a, .int .i64 b, .int .i64 c]) (.agg #[.int .i64 a2, .int .i64 b2, .int .i64 c2])).run Try.prog w = .ok (.bool (decide ((⟨a, b, c⟩ : Nd) = ⟨a2, b2, c2⟩))) w := by
  simp only [go_sem, Nd.mk.injEq]
  go_simp
  by_cases e0 : a = a2
  rotate_left
  · simp [e0]
  subst e0
  by_cases e1 : b = b2
  rotate_left
  · simp [e1]
  subst e1
  by_cases e2 : c = c2
  rotate_left
  · simp [e2]
  subst e2
  simp
section
variable {B R : Nat} {v : Value} {m : Nat} {Q : Nat → Nat} {s : St} {c : Nat} {w : World}
def FindPost (m : Nat) (Q : Nat → Nat) (s : St) (c : Nat) (x : Nd) (w : World) (e : Ending) (w' : World) : Prop := ∃ p, e = .returned (.int .i64 (p : Nat)) ∧ NdH.Found (hm m) m Q s.L c x p ∧ Below w.heap.size w w'
set_option maxHeartbeats 2000000 in
set_option maxRecDepth 100000 in
theorem find_ (a b d : Int) (H : Tb w B R v m Q s c) (hc : c < m) : Calls Try.prog 94 #[.pointer (some ⟨B, 0, none⟩), .agg #[.int .i64 a, .int .i64 b, .int .i64 d]] w (FindPost m Q s c ⟨a, b, d⟩ w) := by
  unfold FindPost
  obtain ⟨k, hk, hmk⟩ := H.pow
  have hp := pow10 hk
  have m1 : 1 ≤ m := by omega
  have m2 : m ≤ 262144 := by omega
  have hbx := (Below.refl w.heap.size w).alloc (Nat.le_refl _) (.cells #[.int .i64 a, .int .i64 b, .int .i64 d] 89)
  have hx0 := heap_alloc_new w (.cells #[.int .i64 a, .int .i64 b, .int .i64 d] 89)
  have hsz : w.heap.size < (w.alloc (.cells #[.int .i64 a, .int .i64 b, .int .i64 d] 89)).heap.size := by simp
  have H1 := H.below hbx
  have HM := Lib.hid (fun w => mixed a b d w)
  have HAu := Lib.hid (and_u64 (mixN ⟨a, b, d⟩) m k (mixN_lt _) hk hmk)
  have HAi := Lib.hid (fun x hx => and_i64 x m k hx hk hmk)
  have HP := Lib.hid H.pls
  have hlen := H.len
  have hmx : ((mixN ⟨a, b, d⟩ % m : Nat) : Int) = ((hm m ⟨a, b, d⟩ : Nat) : Int) := rfl
  have hmx2 : mixN ⟨a, b, d⟩ < 18446744073709551616 := mixN_lt _
  have HPm := Lib.hid (fun (y : Nat) => Nat.mod_lt y (show m > 0 by omega))
  have HC := Lib.hid hc
  have HBl := H.bl
  clear H hk hmk hp hc
  rw [hmx] at HAu
  clear hmx
  have HY := Lib.hid (show hm m ⟨a, b, d⟩ < m from HPm.out _)
  have hstart : Hid (((hm m ⟨a, b, d⟩ : Nat) : Int) = (((hm m ⟨a, b, d⟩ + 0) % m : Nat) : Int)) := Lib.hid (by rw [Nat.add_zero, Nat.mod_eq_of_lt HY.out])
  have hand := HAu.out
  generalize mixN ⟨a, b, d⟩ = mx at *
  have z0 := fun o => Lib.cell_of_heap hx0 o
  obtain ⟨c0, c1, c2, c3, c4⟩ := H1.b0
  have HX := Lib.hid hx0
  have HT := Lib.hid H1
  have HBx := Lib.hid hbx
  have HSz := Lib.hid hsz
  have hbl : B < w.heap.size := HBl
  clear hx0 H1 hbx hsz
  go_enter Try.func94, Try.ntmps94
  go_wp2_with fail
  go_step3
  go_wp2_with fail
  generalize w.alloc (.cells #[.int .i64 a, .int .i64 b, .int .i64 d] 89) = w1 at *
  refine (HM.out _).mono ?_
  rintro e w2 ⟨rfl, hb2⟩
  have HB2 := Lib.hid hb2
  have hsz := HSz.out
  clear z0 c0 c1 c2 c3 c4 hb2
  go_wp2_with fail
  go_step3
  go_wp2_with fail
  have hy := HY.out
  go_loopg [6] m (fun gh pl wr => ∃ f p : Nat, Hid (Far (hm m) m Q s.L ⟨a, b, d⟩ f) ∧ f < m ∧ m - f ≤ gh ∧ pl = .int .i64 p ∧ Hid (p = (hm m ⟨a, b, d⟩ + f) % m) ∧ p < m ∧ Below w1.heap.size w1 wr)
  case atStart => exact ⟨0, hm m ⟨a, b, d⟩, Lib.hid (Far.start (by omega)), by omega, by omega, by congr 1; unfold wrap64; omega, Lib.hid (by rw [Nat.add_zero, Nat.mod_eq_of_lt hy]), hy, HB2.out⟩
  case round =>
    clear hstart hand HB2 hy
    obtain ⟨f, p, hF, hfm, hgh, rfl, hpe, hpm, hb⟩ := hrel
    have hTw := HT.out.below hb
    obtain ⟨c0, c1, c2, c3, c4⟩ := hTw.b0
    obtain ⟨C, hC, hCi⟩ := hTw.rb
    have hcp : wr.cell? ⟨R, p, none⟩ = some (.int .i64 (Q p)) := by rw [Lib.cell_of_heap hC]; exact hCi p hpm
    obtain ⟨A, ca, hv, hle, hmxl, hnod⟩ := hTw.nodes
    have q0 : (0 : Int) ≤ p := by omega
    have q1 : (p : Int) < m := by omega
    have hvals := HP.out.vals p hpm
    have hcl := HP.out.le
    have z0 := fun o => Lib.cell_of_heap ((hb.block w.heap.size hsz).trans HX.out) o
    have HBf := Lib.hid (fun q => HBx.out.trans ((below_drewN hb q).mono HBx.out.size))
    have HBr := Lib.hid (fun q => below_drewN hb q)
    have HBf0 := Lib.hid (HBx.out.trans (hb.mono HBx.out.size))
    have hQp : Q ((hm m ⟨a, b, d⟩ + f) % m) = Q p := by rw [← hpe.out]
    clear hb hTw hC hCi
    by_cases h0 : Q p = 0
    · have HFo := Lib.hid (hF.out.open_ HP.out (hQp.trans h0))
      rw [← hpe.out] at HFo
      rw [h0] at hcp
      clear hF hQp h0 hvals hnod c0 c1 c2 c3
      go_wp2_with fail
      try rw [Exit.noGoto_ret]
      go_ret
      exact ⟨p, rfl, HFo.out, HBf0.out⟩
    · obtain ⟨n, hn⟩ : ∃ n, Q p = n + 2 := ⟨Q p - 2, by omega⟩
      have hnl : n < s.L.length := by omega
      obtain ⟨g, rfl, hg, hcell⟩ := hnod (by omega)
      obtain ⟨a0, a1, a2⟩ := hcell n hnl
      rw [hn] at hcp
      have hcp2 : wr.cell? ⟨R, p, none⟩ = some (.int .i64 ((n : Int) + 2)) := by rw [hcp]; congr 2
      obtain ⟨x, hx⟩ : ∃ x, s.L[n] = x := ⟨_, rfl⟩
      obtain ⟨x1, x2, x3⟩ := x
      rw [hx] at a0 a1 a2
      simp only at a0 a1 a2
      subst hv
      have heq := fun w => eqN x1 x2 x3 a b d w
      have n1 : (n : Int) < s.L.length := by omega
      have n0 : (0 : Int) ≤ n := by omega
      have n2 : (((n : Int) + 2) == 0) = false := by simp; omega
      have hnlen := HT.out.len
      by_cases hxe : (⟨x1, x2, x3⟩ : Nd) = ⟨a, b, d⟩
      · have HFo := Lib.hid (hF.out.own HP.out (hQp.trans hn) hnl (hx.trans hxe))
        rw [← hpe.out] at HFo
        rw [decide_eq_true hxe] at heq
        clear hF hQp hvals hnod hcell hcp hxe hx hn h0 c0 c1 c2
        generalize s.L.length = ln at *
        go_wp2_with fail
        go_quiet (fail)
        go_wp2_with fail
        try rw [Exit.noGoto_ret]
        go_ret
        exact ⟨p, rfl, HFo.out, HBf.out _⟩
      · have HFo : Hid (Far (hm m) m Q s.L ⟨a, b, d⟩ (f + 1)) := Lib.hid (hF.out.next HP.out HC.out (by rw [hQp]; exact h0) (fun n' hn' hl' => by
          have : n' = n := by omega
          subst this
          rw [hx]
          exact hxe))
        rw [decide_eq_false hxe] at heq
        clear hF hQp hvals hnod hcell hcp hxe hx hn h0 c0 c1 c2
        generalize s.L.length = ln at *
        have hand2 : bits .and .i64 ((p : Int) + 1) ((m : Int) - 1) = (((p + 1) % m : Nat) : Int) := HAi.out (p + 1) (by omega)
        have hp2 : (p + 1) % m < m := HPm.out _
        have hpn : Hid ((p + 1) % m = (hm m ⟨a, b, d⟩ + (f + 1)) % m) := Lib.hid (by rw [hpe.out, Nat.mod_add_mod, Nat.add_assoc])
        generalize (p + 1) % m = p2 at *
        go_wp2_with fail
        go_quiet (fail)
        go_wp2_with fail
        go_roundg (m - (f + 1))
        case rel => exact ⟨f + 1, p2, HFo, HFo.out.1, by omega, by go_num, hpn, hp2, HBr.out _⟩
        case measure => omega
end
end Go.Proofs.Ytnkkmppmfjekeaa.NdD
