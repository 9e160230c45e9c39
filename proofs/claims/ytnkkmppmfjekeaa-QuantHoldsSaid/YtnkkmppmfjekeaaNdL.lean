/- Two diagrams that are true at the same bits are one node: the maths. -/
import Derived.Test.YtnkkmppmfjekeaaNdI
namespace Go.Proofs.Ytnkkmppmfjekeaa.NdL
open Go.Proofs.Ytnkkmppmfjekeaa.NdA Go.Proofs.Ytnkkmppmfjekeaa.NdC Go.Proofs.Ytnkkmppmfjekeaa.NdI
set_option linter.unusedVariables false
variable {s : St}
theorem node_at {n : Nat} (hn : n < s.L.length) : nodeB s ((n + 2 : Nat) : Int) = true := nodeB_iff.2 ⟨by omega, by omega⟩
theorem at_idx {n : Nat} (hn : n < s.L.length) : at_ s ((n + 2 : Nat) : Int) = s.L[n] := at_get (by omega) hn
theorem varI_idx {n : Nat} (hn : n < s.L.length) : varI s ((n + 2 : Nat) : Int) = s.L[n].v := by
  unfold varI
  rw [if_pos (node_at hn), at_idx hn]
/-- A diagram hangs on its own variable, and greater ones, alone. -/
theorem indep (H : WF s) : ∀ (n : Nat) (b c : Nat → Bool), (∀ i : Nat, varI s (n : Int) ≤ (i : Int) → (i : Int) < s.vars → b i = c i) → ev s.L b (n : Int) = ev s.L c (n : Int) := fun n => by
  induction n using Nat.strongRecOn with
  | _ n ih =>
    intro b c h
    match n, ih, h with
    | 0, _, _ => rw [show ((0 : Nat) : Int) = 0 from rfl, ev_zero, ev_zero]
    | 1, _, _ => rw [show ((1 : Nat) : Int) = 1 from rfl, ev_one, ev_one]
    | n + 2, ih, h =>
      by_cases hn : n < s.L.length
      · have hok := H.ok n hn
        rw [varI_idx hn] at h
        rw [ev_node hn hok.2.2.1 hok.2.2.2.1 hok.2.2.2.2.1 hok.2.2.2.2.2.1, ev_node hn hok.2.2.1 hok.2.2.2.1 hok.2.2.2.2.1 hok.2.2.2.2.2.1]
        have hv := h s.L[n].v.toNat (by omega) (by omega)
        have el : ((s.L[n].lo.toNat : Nat) : Int) = s.L[n].lo := by omega
        have eh : ((s.L[n].hi.toNat : Nat) : Int) = s.L[n].hi := by omega
        have a1 := ih s.L[n].lo.toNat (by omega) b c (fun i h1 h2 => h i (by rw [el] at h1; omega) h2)
        have a2 := ih s.L[n].hi.toNat (by omega) b c (fun i h1 h2 => h i (by rw [eh] at h1; omega) h2)
        rw [el] at a1
        rw [eh] at a2
        rw [hv, a1, a2]
      · have : nodeB s ((n + 2 : Nat) : Int) = false := by
          cases e : nodeB s ((n + 2 : Nat) : Int) with
          | false => rfl
          | true => have := (nodeB_iff.1 e).2; omega
        rw [ev_out this, ev_out this]
def put (b : Nat → Bool) (v : Nat) (c : Bool) : Nat → Bool := fun i => if i = v then c else b i
theorem put_above (H : WF s) {n : Int} (h0 : 0 ≤ n) {v : Nat} (h : (v : Int) < varI s n) (b : Nat → Bool) (c : Bool) : ev s.L (put b v c) n = ev s.L b n := by
  obtain ⟨k, rfl⟩ : ∃ k : Nat, n = k := ⟨n.toNat, by omega⟩
  refine indep H k _ _ (fun i h1 h2 => ?_)
  unfold put
  rw [if_neg (by omega)]
/-- Of a node: with its variable false it is as what it goes on with. -/
theorem low (H : WF s) {n : Nat} (hn : n < s.L.length) (b : Nat → Bool) : ev s.L (put b s.L[n].v.toNat false) ((n + 2 : Nat) : Int) = ev s.L b s.L[n].lo := by
  have hok := H.ok n hn
  rw [ev_node hn hok.2.2.1 hok.2.2.2.1 hok.2.2.2.2.1 hok.2.2.2.2.2.1]
  have : put b s.L[n].v.toNat false s.L[n].v.toNat = false := by unfold put; rw [if_pos rfl]
  rw [this, if_neg (by simp)]
  exact put_above H hok.2.2.1 (by have := hok.2.2.2.2.2.2.2.1; omega) b false
theorem high (H : WF s) {n : Nat} (hn : n < s.L.length) (b : Nat → Bool) : ev s.L (put b s.L[n].v.toNat true) ((n + 2 : Nat) : Int) = ev s.L b s.L[n].hi := by
  have hok := H.ok n hn
  rw [ev_node hn hok.2.2.1 hok.2.2.2.1 hok.2.2.2.2.1 hok.2.2.2.2.2.1]
  have : put b s.L[n].v.toNat true s.L[n].v.toNat = true := by unfold put; rw [if_pos rfl]
  rw [this, if_pos rfl]
  exact put_above H hok.2.2.2.2.1 (by have := hok.2.2.2.2.2.2.2.2; omega) b true
/-- A node is not a diagram that does not hang on its variable. -/
theorem apart (H : WF s) {n : Nat} (hn : n < s.L.length) {c : Int} (hc : 0 ≤ c) (hv : s.L[n].v < varI s c) (h : ∀ b, ev s.L b ((n + 2 : Nat) : Int) = ev s.L b c) : ∀ b, ev s.L b s.L[n].lo = ev s.L b s.L[n].hi := fun b => by
  have hok := H.ok n hn
  rw [← low H hn b, ← high H hn b, h, h, put_above H hc (by omega) b, put_above H hc (by omega) b]
theorem once_aux (H : WF s) : ∀ (N a b : Nat), a < N → b < N → a < s.L.length + 2 → b < s.L.length + 2 → (∀ g, ev s.L g (a : Int) = ev s.L g (b : Int)) → a = b := fun N => by
  induction N with
  | zero => intro a b h; omega
  | succ N ih =>
    have key : ∀ a, a < N → N < s.L.length + 2 → (∀ g, ev s.L g (a : Int) = ev s.L g (N : Int)) → False := fun a ha hN h => by
      rcases Nat.lt_or_ge N 2 with h2 | h2
      · have e1 : N = 1 := by omega
        have e0 : a = 0 := by omega
        subst e1; subst e0
        have := h (fun _ => false)
        rw [show ((0 : Nat) : Int) = 0 from rfl, show ((1 : Nat) : Int) = 1 from rfl, ev_zero, ev_one] at this
        cases this
      · obtain ⟨n, rfl⟩ : ∃ n, N = n + 2 := ⟨N - 2, by omega⟩
        have hn : n < s.L.length := by omega
        have hok := H.ok n hn
        have ch : ∀ x y : Int, 0 ≤ x → 0 ≤ y → x < n + 2 → y < n + 2 → (∀ g, ev s.L g x = ev s.L g y) → x = y := fun x y hx hy hx2 hy2 he => by
          have := ih x.toNat y.toNat (by omega) (by omega) (by omega) (by omega) (fun g => by
            rw [show ((x.toNat : Nat) : Int) = x by omega, show ((y.toNat : Nat) : Int) = y by omega]
            exact he g)
          omega
        rcases Int.lt_trichotomy s.L[n].v (varI s (a : Int)) with hv | hv | hv
        · exact hok.2.2.2.2.2.2.1 (ch _ _ hok.2.2.1 hok.2.2.2.2.1 hok.2.2.2.1 hok.2.2.2.2.2.1 (apart H hn (by omega) hv (fun g => (h g).symm)))
        · have ha2 : 2 ≤ a := by
            apply Classical.byContradiction
            intro hlt
            have : varI s (a : Int) = s.vars := by
              unfold varI
              rw [if_neg (by
                intro e
                have := (nodeB_iff.1 e).1
                omega)]
            omega
          obtain ⟨i, rfl⟩ : ∃ i, a = i + 2 := ⟨a - 2, by omega⟩
          have hi : i < s.L.length := by omega
          have hki := H.ok i hi
          rw [varI_idx hi] at hv
          have e1 := ch s.L[i].lo s.L[n].lo hki.2.2.1 hok.2.2.1 (by omega) (by omega) (fun g => by
            rw [← low H hi g, ← low H hn g, hv]
            exact h _)
          have e2 := ch s.L[i].hi s.L[n].hi hki.2.2.2.2.1 hok.2.2.2.2.1 (by omega) (by omega) (fun g => by
            rw [← high H hi g, ← high H hn g, hv]
            exact h _)
          have : s.L[i] = s.L[n] := by
            generalize s.L[i] = p at *
            generalize s.L[n] = q at *
            obtain ⟨p1, p2, p3⟩ := p
            obtain ⟨q1, q2, q3⟩ := q
            simp only at hv e1 e2
            rw [hv, e1, e2]
          have := nodup_get H.nodup hi hn this
          omega
        · have ha2 : 2 ≤ a := by
            apply Classical.byContradiction
            intro hlt
            have : varI s (a : Int) = s.vars := by
              unfold varI
              rw [if_neg (by
                intro e
                have := (nodeB_iff.1 e).1
                omega)]
            omega
          obtain ⟨i, rfl⟩ : ∃ i, a = i + 2 := ⟨a - 2, by omega⟩
          have hi : i < s.L.length := by omega
          have hki := H.ok i hi
          rw [varI_idx hi] at hv
          have := apart H hi (c := ((n + 2 : Nat) : Int)) (by omega) (by rw [varI_idx hn]; exact hv) h
          exact hki.2.2.2.2.2.2.1 (ch _ _ hki.2.2.1 hki.2.2.2.2.1 (by omega) (by omega) this)
    intro a b ha hb ha2 hb2 h
    rcases Nat.lt_trichotomy a N with e | e | e
    · rcases Nat.lt_or_ge b N with f | f
      · exact ih a b e f ha2 hb2 h
      · have : b = N := by omega
        subst this
        exact absurd h (key a e hb2)
    · rcases Nat.lt_or_ge b N with f | f
      · subst e
        exact absurd (fun g => (h g).symm) (key b f ha2)
      · omega
    · omega
theorem once (H : WF s) {a b : Nat} (ha : a < s.L.length + 2) (hb : b < s.L.length + 2) (h : ∀ g, ev s.L g (a : Int) = ev s.L g (b : Int)) : a = b := once_aux H (max a b + 1) a b (by omega) (by omega) ha hb h
def bitsOf (g : Nat → Bool) : Nat → Nat
  | 0 => 0
  | k + 1 => bitsOf g k + if g k then 2 ^ k else 0
theorem bitsOf_lt (g : Nat → Bool) : ∀ k, bitsOf g k < 2 ^ k
  | 0 => by simp [bitsOf]
  | k + 1 => by
    have := bitsOf_lt g k
    unfold bitsOf
    rw [Nat.pow_succ]
    split <;> omega
theorem bitsOf_bit (g : Nat → Bool) : ∀ (k i : Nat), i < k → (bitsOf g k).testBit i = g i
  | 0, _, h => absurd h (Nat.not_lt_zero _)
  | k + 1, i, h => by
    have hlt := bitsOf_lt g k
    unfold bitsOf
    by_cases e : i = k
    · subst e
      cases hg : g i with
      | true => rw [if_pos rfl, Nat.add_comm, Nat.testBit_two_pow_add_eq, Nat.testBit_lt_two_pow hlt]; rfl
      | false => rw [if_neg (by simp), Nat.add_zero, Nat.testBit_lt_two_pow hlt]
    · have hik : i < k := by omega
      cases hg : g k with
      | true => rw [if_pos rfl, Nat.add_comm, Nat.testBit_two_pow_add_gt hik]; exact bitsOf_bit g k i hik
      | false => rw [if_neg (by simp), Nat.add_zero]; exact bitsOf_bit g k i hik
/-- Are they the same at the first q bits? -/
def sameB (s : St) (a b : Nat) (q : Nat) : Bool := (List.range q).all fun x => ev s.L (fun i => x.testBit i) (a : Int) == ev s.L (fun i => x.testBit i) (b : Int)
theorem sameB_succ (a b q : Nat) : sameB s a b (q + 1) = (sameB s a b q && (ev s.L (fun i => q.testBit i) (a : Int) == ev s.L (fun i => q.testBit i) (b : Int))) := by
  unfold sameB
  rw [List.range_succ, List.all_append]
  simp
theorem not_same (H : WF s) {a b : Nat} (hab : b < a) (ha : a < s.L.length + 2) : sameB s a b (2 ^ s.vars) = false := by
  cases hs : sameB s a b (2 ^ s.vars) with
  | false => rfl
  | true =>
    unfold sameB at hs
    rw [List.all_eq_true] at hs
    have := once H ha (by omega : b < s.L.length + 2) (fun g => by
      have h1 := hs (bitsOf g s.vars) (List.mem_range.2 (bitsOf_lt g s.vars))
      have e : ∀ n : Nat, ev s.L g (n : Int) = ev s.L (fun i => (bitsOf g s.vars).testBit i) (n : Int) := fun n => indep H n _ _ (fun i _ hi => (bitsOf_bit g s.vars i (by omega)).symm)
      rw [e a, e b]
      simpa using h1)
    omega
theorem mk_vars (s : St) (x lo hi : Int) : (mkS s x lo hi).vars = s.vars ∧ (mkS s x lo hi).L.length ≤ s.L.length + 1 := by
  unfold mkS
  split
  · split
    · exact ⟨rfl, by omega⟩
    · split
      · exact ⟨rfl, by omega⟩
      · split
        · exact ⟨rfl, by simp⟩
        · exact ⟨rfl, by simp⟩
  · exact ⟨rfl, by omega⟩
end Go.Proofs.Ytnkkmppmfjekeaa.NdL
