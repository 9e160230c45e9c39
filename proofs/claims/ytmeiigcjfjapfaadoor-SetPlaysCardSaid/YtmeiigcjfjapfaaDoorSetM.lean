/- The bits of words as numbers that rise: maths of plain numbers alone. -/
import Derived.Test.YtmeiigcjfjapfaaDoorSetPop
import Derived.Lib.TrailingZeros
namespace Go.Proofs.YtmeiigcjfjapfaaDoor.SetM
open Go.Lib Go.Proofs.YtmeiigcjfjapfaaDoor.SetPop
set_option linter.unusedVariables false
set_option linter.unusedSimpArgs false
/-- The places of a word's bits, rising. -/
def bitsOf (x : Nat) : List Nat := (List.range 64).filter fun i => x.testBit i
theorem bitsOf_len (x : Nat) : (bitsOf x).length = pop x := by unfold bitsOf pop; rw [List.countP_eq_length_filter]
theorem bitsOf_zero : bitsOf 0 = [] := by decide +kernel
theorem filter_first (p q : Nat → Bool) (j d : Nat) (hj : p j = true) (hlt : ∀ i, i < j → p i = false) (hq : ∀ i, q i = (p i && decide (i ≠ j))) :
    (List.range (j + (1 + d))).filter p = j :: (List.range (j + (1 + d))).filter q := by
  rw [List.range_add, List.range_add]
  simp only [List.filter_append, List.map_append]
  have e1 : (List.range j).filter p = [] := by
    rw [List.filter_eq_nil_iff]
    intro i hi
    rw [hlt i (List.mem_range.1 hi)]; simp
  have e2 : (List.range j).filter q = [] := by
    rw [List.filter_eq_nil_iff]
    intro i hi
    rw [hq, hlt i (List.mem_range.1 hi)]; simp
  rw [e1, e2]
  have e3 : q j = false := by rw [hq]; simp
  have e4 : (((List.range d).map (1 + ·)).map (j + ·)).filter p = (((List.range d).map (1 + ·)).map (j + ·)).filter q := by
    refine List.filter_congr fun i hi => ?_
    simp only [List.mem_map] at hi
    obtain ⟨_, ⟨x, hx, rfl⟩, rfl⟩ := hi
    rw [hq]
    have : decide (j + (1 + x) ≠ j) = true := by simp
    rw [this, Bool.and_true]
  simp [hj, e3]
  simpa using e4
theorem low (x : Nat) (h0 : x ≠ 0) (h : x < 18446744073709551616) : ctz 64 x < 64 ∧ x.testBit (ctz 64 x) = true ∧ (∀ i, i < ctz 64 x → x.testBit i = false) ∧ (∀ i, (x &&& (x - 1)).testBit i = (x.testBit i && decide (i ≠ ctz 64 x))) := by
  obtain ⟨m, hm, hk⟩ := ctzFrom_spec 64 x (by omega) h
  have e : ctz 64 x = ctzFrom 64 x := by simp [ctz, h0]
  rw [e]
  generalize ctzFrom 64 x = j at *
  have hx : ∀ i, x.testBit i = (decide (i = j) || (decide (j < i) && m.testBit (i - (j + 1)))) := by
    intro i
    rw [hm, Nat.mul_comm, Nat.testBit_mul_two_pow]
    rcases Nat.lt_trichotomy i j with hi | hi | hi
    · have b1 : decide (i ≥ j) = false := by simp; omega
      have b2 : decide (i = j) = false := by simp; omega
      have b3 : decide (j < i) = false := by simp; omega
      rw [b1, b2, b3]; rfl
    · subst hi; simp [Nat.testBit_zero]
    · obtain ⟨t, rfl⟩ : ∃ t, i = j + (t + 1) := ⟨i - j - 1, by omega⟩
      have e3 : j + (t + 1) - j = t + 1 := by omega
      have e4 : j + (t + 1) - (j + 1) = t := by omega
      rw [e3, e4, Nat.testBit_succ]
      have d1 : (2 * m + 1) / 2 = m := by omega
      rw [d1]
      simp
  have hy : ∀ i, (x - 1).testBit i = (decide (i < j) || (decide (j < i) && m.testBit (i - (j + 1)))) := by
    intro i
    have e5 : x - 1 = 2 ^ (j + 1) * m + (2 ^ j - 1) := by
      have := Nat.two_pow_pos j
      rw [hm, Nat.pow_succ, Nat.mul_add, Nat.mul_one, Nat.mul_assoc]
      omega
    have lt : 2 ^ j - 1 < 2 ^ (j + 1) := by
      have := Nat.two_pow_pos j
      rw [Nat.pow_succ]; omega
    rw [e5, Nat.testBit_two_pow_mul_add _ lt, Nat.testBit_two_pow_sub_one]
    by_cases hi : i < j + 1
    · have b3 : decide (j < i) = false := by simp; omega
      rw [if_pos hi, b3]; simp
    · have b3 : decide (j < i) = true := by simp; omega
      have b1 : decide (i < j) = false := by simp; omega
      rw [if_neg hi, b3, b1]; simp
  refine ⟨hk, ?_, ?_, ?_⟩
  · rw [hx]; simp
  · intro i hi
    have b2 : decide (i = j) = false := by simp; omega
    have b3 : decide (j < i) = false := by simp; omega
    rw [hx, b2, b3]; rfl
  · intro i
    rw [Nat.testBit_and, hx, hy]
    rcases Nat.lt_trichotomy i j with hi | hi | hi
    · have b2 : decide (i = j) = false := by simp; omega
      have b3 : decide (j < i) = false := by simp; omega
      rw [b2, b3]; rfl
    · subst hi; simp
    · have b2 : decide (i = j) = false := by simp; omega
      have b3 : decide (j < i) = true := by simp; omega
      have b4 : decide (i < j) = false := by simp; omega
      have b5 : decide (i ≠ j) = true := by simp; omega
      rw [b2, b3, b4, b5]; simp
theorem bitsOf_step (x : Nat) (h0 : x ≠ 0) (h : x < 18446744073709551616) : bitsOf x = ctz 64 x :: bitsOf (x &&& (x - 1)) := by
  obtain ⟨hk, h1, h2, h3⟩ := low x h0 h
  have := filter_first (fun i => x.testBit i) (fun i => (x &&& (x - 1)).testBit i) (ctz 64 x) (63 - ctz 64 x) h1 h2 h3
  have e : ctz 64 x + (1 + (63 - ctz 64 x)) = 64 := by omega
  rw [e] at this
  exact this
theorem and_less (x : Nat) (h0 : x ≠ 0) : (x &&& (x - 1)) < x := by
  have := Nat.and_le_right (n := x) (m := x - 1)
  omega
theorem and_small (x : Nat) (h : x < 18446744073709551616) : (x &&& (x - 1)) < 18446744073709551616 := Nat.lt_of_le_of_lt Nat.and_le_left h
/-- The numbers of the first k words. -/
def numsOf (T : List Nat) (k : Nat) : List Nat := (List.range k).flatMap fun i => (bitsOf (T.getD i 0)).map (i * 64 + ·)
theorem numsOf_succ (T : List Nat) (k : Nat) : numsOf T (k + 1) = numsOf T k ++ (bitsOf (T.getD k 0)).map (k * 64 + ·) := by
  unfold numsOf
  rw [List.range_succ, List.flatMap_append]
  simp
/-- Has a set, told by its words, that number? -/
def bitT (T : List Nat) (k : Nat) : Bool := (T.getD (k / 64) 0).testBit (k % 64)
theorem numsOf_eq (T : List Nat) : ∀ k, numsOf T k = (List.range (k * 64)).filter (bitT T)
  | 0 => by simp [numsOf]
  | k + 1 => by
    rw [numsOf_succ, numsOf_eq T k, Nat.add_mul, Nat.one_mul, List.range_add, List.filter_append, List.filter_map]
    congr 1
    unfold bitsOf
    congr 1
    refine List.filter_congr fun i hi => ?_
    have hi := List.mem_range.1 hi
    have a1 : (k * 64 + i) / 64 = k := by omega
    have a2 : (k * 64 + i) % 64 = i := by omega
    simp only [Function.comp_apply, bitT, a1, a2]
theorem numsOf_lt (T : List Nat) (k : Nat) : ∀ x ∈ numsOf T k, x < k * 64 := by
  intro x hx
  rw [numsOf_eq] at hx
  exact List.mem_range.1 (List.mem_filter.1 hx).1
theorem numsOf_len (T : List Nat) : ∀ k, (numsOf T k).length = ((List.range k).map fun i => pop (T.getD i 0)).sum
  | 0 => by simp [numsOf]
  | k + 1 => by
    rw [numsOf_succ, List.length_append, numsOf_len T k, List.length_map, bitsOf_len, List.range_succ, List.map_append, List.sum_append]
    simp
/-- Numbers that are in, below c, are those below 1024 if none other is. -/
theorem below_c (p : Nat → Bool) (c : Nat) (hc : c ≤ 1024) (h : ∀ k, p k = true → k < c) : (List.range 1024).filter p = (List.range c).filter p := by
  obtain ⟨d, hd⟩ : ∃ d, 1024 = c + d := ⟨1024 - c, by omega⟩
  rw [hd, List.range_add, List.filter_append]
  have : ((List.range d).map (c + ·)).filter p = [] := by
    rw [List.filter_eq_nil_iff]
    intro i hi hp
    rw [List.mem_map] at hi
    obtain ⟨x, _, rfl⟩ := hi
    have := h _ hp
    omega
  rw [this, List.append_nil]
end Go.Proofs.YtmeiigcjfjapfaaDoor.SetM
