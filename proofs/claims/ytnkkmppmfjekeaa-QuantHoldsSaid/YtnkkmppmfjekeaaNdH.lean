/- A table of nodes with open places: where a node is found. -/
import Derived.Test.YtnkkmppmfjekeaaNdA
namespace Go.Proofs.Ytnkkmppmfjekeaa.NdH
open Go.Proofs.Ytnkkmppmfjekeaa.NdA
set_option linter.unusedVariables false
theorem pigeon : ∀ (n : Nat) (l : List Nat), l.Nodup → (∀ x ∈ l, x < n) → l.length ≤ n
  | 0, [], _, _ => Nat.le_refl _
  | 0, a :: l, _, h => absurd (h a (by simp)) (by omega)
  | n + 1, l, hd, h => by
    by_cases hn : n ∈ l
    · have h1 := pigeon n (l.erase n) (hd.erase n) (fun x hx => by
        have := (hd.mem_erase_iff).1 hx
        have := h x this.2
        omega)
      rw [List.length_erase_of_mem hn] at h1
      omega
    · have := pigeon n l hd (fun x hx => by
        have := h x hx
        have : x ≠ n := fun e => hn (e ▸ hx)
        omega)
      omega
/-- The first c nodes are in their places: h tells where a node's places begin, m how many places there are. -/
structure Pls (h : Nd → Nat) (m : Nat) (Q : Nat → Nat) (L : List Nd) (c : Nat) : Prop where
  le : c ≤ L.length
  vals : ∀ i, i < m → Q i = 0 ∨ (2 ≤ Q i ∧ Q i < c + 2)
  inj : ∀ i j, i < m → j < m → Q i = Q j → Q i ≠ 0 → i = j
  chain : ∀ n, (hn : n < c) → ∃ d, d < m ∧ Q ((h (L[n]'(by omega)) + d) % m) = n + 2 ∧ ∀ t, t < d → Q ((h (L[n]'(by omega)) + t) % m) ≠ 0
theorem Pls.start (h : Nd → Nat) (m : Nat) (L : List Nd) : Pls h m (fun _ => 0) L 0 :=
  ⟨Nat.zero_le _, fun i _ => Or.inl rfl, fun i j _ _ _ hne => absurd rfl hne, fun n hn => absurd hn (Nat.not_lt_zero n)⟩
/-- There is an open place, at some distance. -/
theorem Pls.gap {h : Nd → Nat} {m : Nat} {Q : Nat → Nat} {L : List Nd} {c : Nat} (H : Pls h m Q L c) (hc : c < m) (s : Nat) : ∃ d, d < m ∧ Q ((s + d) % m) = 0 := by
  apply Classical.byContradiction
  intro hno
  have hall : ∀ i, i < m → Q i ≠ 0 := fun i hi e => hno ⟨(i + m - s % m) % m, Nat.mod_lt _ (by omega), by
    have hs := Nat.mod_lt s (show m > 0 by omega)
    have e2 : (s + (i + m - s % m) % m) % m = i := by
      have h1 : s + (i + m - s % m) = i + m * (s / m + 1) := by
        have := Nat.div_add_mod s m
        rw [Nat.mul_add]
        omega
      rw [Nat.add_mod_mod, h1, Nat.add_mul_mod_self_left, Nat.mod_eq_of_lt hi]
    rw [e2]
    exact e⟩
  have hp := pigeon c ((List.range m).map fun i => Q i - 2) (by
    rw [List.Nodup, List.pairwise_map]
    refine List.Pairwise.imp_of_mem ?_ (List.nodup_range (n := m))
    intro a b ha hb hab he
    rw [List.mem_range] at ha hb
    rcases H.vals a ha with e | ⟨h1, h2⟩
    · exact hall a ha e
    · rcases H.vals b hb with e | ⟨h3, h4⟩
      · exact hall b hb e
      · exact hab (H.inj a b ha hb (by omega) (hall a ha))) (fun x hx => by
    rw [List.mem_map] at hx
    obtain ⟨i, hi, rfl⟩ := hx
    rw [List.mem_range] at hi
    rcases H.vals i hi with e | ⟨h1, h2⟩
    · exact absurd e (hall i hi)
    · omega)
  rw [List.length_map, List.length_range] at hp
  omega
/-- How far a search has come: all places so far are taken, by others. -/
def Far (h : Nd → Nat) (m : Nat) (Q : Nat → Nat) (L : List Nd) (x : Nd) (d : Nat) : Prop := d < m ∧ ∀ t, t < d → Q ((h x + t) % m) ≠ 0 ∧ ∀ n, Q ((h x + t) % m) = n + 2 → ∀ hn : n < L.length, L[n] ≠ x
theorem Far.start {h : Nd → Nat} {m : Nat} {Q : Nat → Nat} {L : List Nd} {x : Nd} (hm : 0 < m) : Far h m Q L x 0 := ⟨hm, fun t ht => absurd ht (Nat.not_lt_zero t)⟩
theorem Far.next {h : Nd → Nat} {m : Nat} {Q : Nat → Nat} {L : List Nd} {c : Nat} (H : Pls h m Q L c) (hc : c < m) {x : Nd} {d : Nat} (F : Far h m Q L x d) (h0 : Q ((h x + d) % m) ≠ 0) (hx : ∀ n, Q ((h x + d) % m) = n + 2 → ∀ hn : n < L.length, L[n] ≠ x) : Far h m Q L x (d + 1) := by
  have hall : ∀ t, t < d + 1 → Q ((h x + t) % m) ≠ 0 ∧ ∀ n, Q ((h x + t) % m) = n + 2 → ∀ hn : n < L.length, L[n] ≠ x := fun t ht => by
    rcases Nat.lt_or_ge t d with e | e
    · exact F.2 t e
    · have : t = d := by omega
      subst this
      exact ⟨h0, hx⟩
  refine ⟨?_, hall⟩
  obtain ⟨g, hg, hz⟩ := H.gap hc (h x)
  have : d < g := by
    apply Classical.byContradiction
    intro hn
    exact (hall g (by omega)).1 hz
  omega
/-- What a search answers: the node's own place, or the open one where it is to come. -/
def Found (h : Nd → Nat) (m : Nat) (Q : Nat → Nat) (L : List Nd) (c : Nat) (x : Nd) (p : Nat) : Prop :=
  p < m ∧ ((∃ n, ∃ hn : n < L.length, n < c ∧ Q p = n + 2 ∧ L[n] = x) ∨ (Q p = 0 ∧ x ∉ L.take c ∧ ∃ d, d < m ∧ p = (h x + d) % m ∧ ∀ t, t < d → Q ((h x + t) % m) ≠ 0))
theorem Far.open_ {h : Nd → Nat} {m : Nat} {Q : Nat → Nat} {L : List Nd} {c : Nat} (H : Pls h m Q L c) {x : Nd} {d : Nat} (F : Far h m Q L x d) (h0 : Q ((h x + d) % m) = 0) : Found h m Q L c x ((h x + d) % m) := by
  refine ⟨Nat.mod_lt _ (by have := F.1; omega), Or.inr ⟨h0, fun hx => ?_, d, F.1, rfl, fun t ht => (F.2 t ht).1⟩⟩
  obtain ⟨n, hn, rfl⟩ := List.getElem_of_mem hx
  rw [List.length_take] at hn
  have hle := H.le
  have hnc : n < c := by omega
  rw [List.getElem_take] at F h0
  obtain ⟨e, he, hq, hall⟩ := H.chain n hnc
  rcases Nat.lt_trichotomy e d with h1 | h1 | h1
  · exact (F.2 e h1).2 n hq (by omega) rfl
  · subst h1
    rw [hq] at h0
    omega
  · exact hall d h1 h0
theorem Far.own {h : Nd → Nat} {m : Nat} {Q : Nat → Nat} {L : List Nd} {c : Nat} (H : Pls h m Q L c) {x : Nd} {d n : Nat} (F : Far h m Q L x d) (h0 : Q ((h x + d) % m) = n + 2) (hn : n < L.length) (hx : L[n] = x) : Found h m Q L c x ((h x + d) % m) := by
  have hp : (h x + d) % m < m := Nat.mod_lt _ (by have := F.1; omega)
  refine ⟨hp, Or.inl ⟨n, hn, ?_, h0, hx⟩⟩
  rcases H.vals _ hp with e | ⟨h1, h2⟩
  · omega
  · omega
/-- One more is put into its place. -/
theorem Pls.put {h : Nd → Nat} {m : Nat} {Q : Nat → Nat} {L : List Nd} {c : Nat} (H : Pls h m Q L c) (hc : c < L.length) {p d : Nat} (h0 : Q p = 0) (hd : d < m) (hp : p = (h L[c] + d) % m) (hall : ∀ t, t < d → Q ((h L[c] + t) % m) ≠ 0) :
    Pls h m (fun i => if i = p then c + 2 else Q i) L (c + 1) := by
  refine ⟨hc, fun i hi => ?_, fun i j hi hj he hne => ?_, fun n hn => ?_⟩
  · show (if i = p then c + 2 else Q i) = 0 ∨ _ ≤ (if i = p then c + 2 else Q i) ∧ (if i = p then c + 2 else Q i) < _
    split
    · omega
    · have := H.vals i hi
      omega
  · try simp only at he hne
    split at he <;> split at he
    · omega
    · have := H.vals j hj; omega
    · have := H.vals i hi; omega
    · rename_i h1 h2
      rw [if_neg h1] at hne
      exact H.inj i j hi hj he hne
  · rcases Nat.lt_or_ge n c with e | e
    · obtain ⟨f, hf, hq, hal⟩ := H.chain n e
      refine ⟨f, hf, ?_, fun t ht => ?_⟩
      · have : (h (L[n]'(by omega)) + f) % m ≠ p := fun e2 => by rw [e2] at hq; omega
        show (if (h (L[n]'(by omega)) + f) % m = p then c + 2 else Q ((h (L[n]'(by omega)) + f) % m)) = n + 2
        rw [if_neg this]; exact hq
      · show (if (h (L[n]'(by omega)) + t) % m = p then c + 2 else Q ((h (L[n]'(by omega)) + t) % m)) ≠ 0
        split
        · omega
        · exact hal t ht
    · have : n = c := by omega
      subst this
      refine ⟨d, hd, ?_, fun t ht => ?_⟩
      · show (if (h L[n] + d) % m = p then n + 2 else Q ((h L[n] + d) % m)) = n + 2
        rw [if_pos hp.symm]
      · show (if (h L[n] + t) % m = p then n + 2 else Q ((h L[n] + t) % m)) ≠ 0
        split
        · omega
        · exact hall t ht
/-- Nodes behind the first c do not tell. -/
theorem Pls.more {h : Nd → Nat} {m : Nat} {Q : Nat → Nat} {L : List Nd} {c : Nat} (H : Pls h m Q L c) (x : Nd) : Pls h m Q (L ++ [x]) c := by
  have hle := H.le
  refine ⟨by rw [List.length_append]; omega, H.vals, H.inj, fun n hn => ?_⟩
  obtain ⟨d, hd, h1, h2⟩ := H.chain n hn
  have e : (L ++ [x])[n]'(by rw [List.length_append]; omega) = L[n]'(by omega) := List.getElem_append_left (by omega)
  rw [e]
  exact ⟨d, hd, h1, h2⟩
end Go.Proofs.Ytnkkmppmfjekeaa.NdH
