/- The document's Has by contract. -/
import Derived.Test.YtddjbchlpfaggaaSemRf
namespace Go.Proofs.Ytddjbchlpfaggaa.SemRh
open Go.RowKit Go.Lib Go.Proofs Go.Proofs.Ytddjbchlpfaggaa.TblB Go.Proofs.Ytddjbchlpfaggaa.TblC Go.Proofs.Ytddjbchlpfaggaa.TblV Go.Proofs.Ytddjbchlpfaggaa.TblP Go.Proofs.Ytddjbchlpfaggaa.TblQ Go.Proofs.Ytddjbchlpfaggaa.SemA Go.Proofs.Ytddjbchlpfaggaa.SemB Go.Proofs.Ytddjbchlpfaggaa.SemJ Go.Proofs.Ytddjbchlpfaggaa.SemR Go.Proofs.Ytddjbchlpfaggaa.SemRa Go.Proofs.Ytddjbchlpfaggaa.SemRb Go.Proofs.Ytddjbchlpfaggaa.SemRd Go.Proofs.Ytddjbchlpfaggaa.SemRf Go.Proofs.Ytddjbchlpfaggaa.SemGa
set_option linter.unusedVariables false
set_option linter.unusedSimpArgs false
theorem right_all {P K : Nat} {L : List Ru} : ∀ u ∈ L.filter (rightU P K), rightU P K u = true := fun u hu => (List.mem_filter.1 hu).2
/-- Only what is in the dimensions follows. -/
theorem der_in {P K : Nat} {L : List Ru} {r x : Int} (d : Der K (L.filter (rightU P K)) r x) : 0 ≤ r ∧ r < ((P * K : Nat) : Int) ∧ 0 ≤ x ∧ x < (P : Int) := by
  have hc : Clo P K (L.filter (rightU P K)) (fun r x => derB P K L r x) := fun u hu x hx hc => by
    have := Snd.step hu (right_all u hu) (fun r x => derB P K L r x) x (fun r x h => derB_iff.1 h) hc
    show derB P K L _ _ = true
    exact derB_iff.2 (this _ _ (upd_same _ _ _))
  obtain ⟨r', x', rfl, rfl, h1, h2, _⟩ := hc.der right_all d
  omega
theorem der_no {P K : Nat} {L : List Ru} {r x : Int} (h : ¬ (0 ≤ r ∧ r < ((P * K : Nat) : Int) ∧ 0 ≤ x ∧ x < (P : Int))) : derB P K L r x = false := by
  cases hb : derB P K L r x
  · rfl
  · exact absurd (der_in (derB_iff.1 hb)) h
set_option maxHeartbeats 2000000 in
set_option maxRecDepth 100000 in
theorem hasR {w : World} {mo P K : Nat} {L : List Ru} (h : MoR w mo P K L) (r x : Int) : Calls Try.prog 15 #[.pointer (some ⟨mo, 0, none⟩), .int .i64 r, .int .i64 x] w fun e w' => e = .returned (.bool (derB P K L r x)) ∧ Below w.heap.size w w' := by
  obtain ⟨gi, cg, R, f, hm, hd⟩ := h
  obtain ⟨n, hn⟩ : ∃ n, P * K = n := ⟨_, rfl⟩
  rw [hn] at hm
  have c0 : w.cell? ⟨mo, 0, none⟩ = some (.int .i64 P) := Lib.cell_of_heap hm.h0 0
  have c2 : w.cell? ⟨mo, 2, none⟩ = some (.slice (if n = 0 then none else some ⟨gi, 0, none⟩) n cg) := Lib.cell_of_heap hm.h0 2
  have HB := Lib.hid (Below.refl w.heap.size w)
  have HNo : Hid (¬ (0 ≤ r ∧ r < (n : Int) ∧ 0 ≤ x ∧ x < (P : Int)) → derB P K L r x = false) := Lib.hid (fun h => der_no (by rw [hn]; exact h))
  by_cases h1 : 0 ≤ r
  · by_cases h2 : r < (n : Int)
    · have hn0 : n ≠ 0 := by omega
      rw [if_neg hn0] at c2
      by_cases h3 : 0 ≤ x
      · by_cases h4 : x < (P : Int)
        · obtain ⟨r', rfl⟩ : ∃ k : Nat, r = k := ⟨r.toNat, by omega⟩
          obtain ⟨x', rfl⟩ : ∃ k : Nat, x = k := ⟨x.toNat, by omega⟩
          obtain ⟨c1, i1⟩ := hm.hi r' (by omega)
          obtain ⟨r1, q1⟩ := hm.row (r := r') (x := x') (by omega) (by omega)
          have e : derB P K L r' x' = f r' x' := by
            rw [Bool.eq_iff_iff, derB_iff, hd]
          rw [e]
          clear hm hd HNo hn hn0 e
          generalize f r' x' = b at *
          have e1 : decide ((0 : Int) ≤ r') = true := decide_eq_true h1
          have e2 : decide ((r' : Int) < n) = true := decide_eq_true h2
          have e3 : decide ((0 : Int) ≤ x') = true := decide_eq_true h3
          have e4 : decide ((x' : Int) < P) = true := decide_eq_true h4
          go_enter Try.func15, Try.ntmps15
          go_wp2_with fail
          go_ret
          exact ⟨rfl, HB.out⟩
        · rw [HNo.out (by omega)]
          have e1 : decide ((0 : Int) ≤ r) = true := decide_eq_true h1
          have e2 : decide (r < (n : Int)) = true := decide_eq_true h2
          have e3 : decide ((0 : Int) ≤ x) = true := decide_eq_true h3
          have e4 : decide (x < (P : Int)) = false := decide_eq_false h4
          clear hm hd HNo hn hn0
          go_enter Try.func15, Try.ntmps15
          go_wp2_with fail
          go_ret
          exact ⟨rfl, HB.out⟩
      · rw [HNo.out (by omega)]
        have e1 : decide ((0 : Int) ≤ r) = true := decide_eq_true h1
        have e2 : decide (r < (n : Int)) = true := decide_eq_true h2
        have e3 : decide ((0 : Int) ≤ x) = false := decide_eq_false h3
        clear hm hd HNo hn hn0
        go_enter Try.func15, Try.ntmps15
        go_wp2_with fail
        go_ret
        exact ⟨rfl, HB.out⟩
    · rw [HNo.out (by omega)]
      have e1 : decide ((0 : Int) ≤ r) = true := decide_eq_true h1
      have e2 : decide (r < (n : Int)) = false := decide_eq_false h2
      generalize (if n = 0 then none else some (⟨gi, 0, none⟩ : Addr)) = pt at c2
      clear hm hd HNo hn
      go_enter Try.func15, Try.ntmps15
      go_wp2_with fail
      go_ret
      exact ⟨rfl, HB.out⟩
  · rw [HNo.out (by omega)]
    have e1 : decide ((0 : Int) ≤ r) = false := decide_eq_false h1
    clear hm hd HNo hn
    go_enter Try.func15, Try.ntmps15
    go_wp2_with fail
    go_ret
    exact ⟨rfl, HB.out⟩
end Go.Proofs.Ytddjbchlpfaggaa.SemRh
