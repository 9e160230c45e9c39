/- Families of sets of numbers: Total, inside, Inside, Meets, by contract. -/
import Derived.Test.YtblapgfilbmdhaaGreatDoorM27
import Derived.Laws.AppendOwn
import Derived.Lib.TrailingZeros
import Derived.Test.YtblapgfilbmdhaaGreatDoorM23
import Derived.ChangeKeysEq
import Derived.Deep.CutBlock
import Derived.Deep.LoopGhost
import Derived.OwnWalk
import Derived.Shelf.Spec.TrailingZeros
import Derived.Laws.OwnMore
import Derived.Maps.AppendAt
import Derived.Lib.AppendZeros
import Derived.Deep.AppendSrc
import Derived.Deep.RegionLaw
import Derived.Deep.AppendLies
set_option linter.unusedVariables false
set_option linter.unusedSimpArgs false
namespace Go.Proofs.YtblapgfilbmdhaaGreatDoor.SetD
open Go.RowKit Go.Lib Go.Proofs SetPop SetA SetB SetC
def tot (n : Nat) (M : List Nat) (k : Nat) : Nat := ((List.range k).map fun r : Nat => cnt (rowI n M r)).sum
theorem tot_succ (n : Nat) (M : List Nat) (k : Nat) : tot n M (k + 1) = tot n M k + cnt (rowI n M k) := by
  unfold tot
  rw [List.range_succ, List.map_append, List.sum_append]
  simp
theorem cntI_le {n : Nat} {M : List Nat} (hl : M.length = n * 16) (r : Int) : cnt (rowI n M r) ≤ 1024 := by
  have := cnt_le (rowI n M r)
  rw [rowI_len hl] at this
  exact this
theorem tot_le {n : Nat} {M : List Nat} (hl : M.length = n * 16) (k : Nat) : tot n M k ≤ k * 1024 := by
  induction k with
  | zero => simp [tot]
  | succ k ih => have := cntI_le hl (k : Int); rw [tot_succ]; omega
end Go.Proofs.YtblapgfilbmdhaaGreatDoor.SetD
namespace Go.Proofs.YtblapgfilbmdhaaGreatDoor.SetE
open Go.RowKit Go.Lib Go.Proofs SetPop SetA SetB SetC SetD
theorem addM_len (M : List Nat) (r k : Nat) : (addM M r k).length = M.length := by unfold addM; simp
theorem addN_len (n c : Nat) (M : List Nat) (r k : Int) : (addN n c M r k).length = M.length := by unfold addN; split <;> simp [addM_len]
theorem bit_addM (M : List Nat) (r k r' k' : Nat) (h : r * 16 + k / 64 < M.length) (hk : k < 1024) (hk' : k' < 1024) : bitAt (addM M r k) r' k' = (bitAt M r' k' || decide (r' = r ∧ k' = k)) := by
  unfold bitAt addM
  by_cases hi : r * 16 + k / 64 = r' * 16 + k' / 64
  · have hr : r = r' := by omega
    have hq : k / 64 = k' / 64 := by omega
    subst hr
    have e : word (M.set (r * 16 + k / 64) (word M r k ||| 2 ^ (k % 64))) r k' = word M r k ||| 2 ^ (k % 64) := by
      unfold word
      rw [← hq, List.getD_eq_getElem?_getD, List.getElem?_set_self h]; rfl
    have e2 : word M r k' = word M r k := by unfold word; rw [hq]
    rw [e, e2, Nat.testBit_or, Nat.testBit_two_pow]
    congr 1
    apply decide_eq_decide.2
    omega
  · have e : word (M.set (r * 16 + k / 64) (word M r k ||| 2 ^ (k % 64))) r' k' = word M r' k' := by
      unfold word
      rw [List.getD_eq_getElem?_getD, List.getElem?_set_ne hi, List.getD_eq_getElem?_getD]
    rw [e]
    have : decide (r' = r ∧ k' = k) = false := decide_eq_false (by rintro ⟨rfl, rfl⟩; exact hi rfl)
    rw [this, Bool.or_false]
theorem bit_zero (m r k : Nat) : bitAt (List.replicate m 0) r k = false := by
  unfold bitAt word
  rw [List.getD_eq_getElem?_getD, List.getElem?_replicate]
  split <;> simp
theorem pop_zero (x : Nat) (hx : x < 18446744073709551616) : pop x = 0 ↔ x = 0 := by
  constructor
  · intro h
    unfold pop at h
    rw [List.countP_eq_zero] at h
    apply Nat.eq_of_testBit_eq
    intro i
    rw [Nat.zero_testBit]
    rcases Nat.lt_or_ge i 64 with hi | hi
    · have := h i (by simpa using hi)
      simpa using this
    · exact Nat.testBit_lt_two_pow (Nat.lt_of_lt_of_le hx (by simpa using Nat.pow_le_pow_right (n := 2) (by omega) hi))
  · rintro rfl
    unfold pop
    simp
theorem cnt_zero (T : List Nat) (hT : ∀ x ∈ T, x < 18446744073709551616) : cnt T = 0 ↔ ∀ x ∈ T, x = 0 := by
  unfold cnt
  induction T with
  | nil => simp
  | cons a T ih =>
    have := pop_zero a (hT a (by simp))
    have ih := ih (fun x hx => hT x (by simp [hx]))
    simp only [List.map_cons, List.sum_cons, List.mem_cons, forall_eq_or_imp]
    rw [← this, ← ih]
    omega
theorem Fam.grown {w w' : World} {R : Nat} {W : World} (hb : Below W.heap.size W w) (hg : w.grownBy w' (some R)) (hR : W.heap.size ≤ R) : Below W.heap.size W w' :=
  hb.grown hg hb.size (fun k hk => by injection hk with hk; omega)
def E0 : List Nat := List.replicate 32 0
def E1 : List Nat := addN 2 100 E0 0 70
theorem e2 : addB 2 100 E1 1 70 = true := by decide +kernel
end Go.Proofs.YtblapgfilbmdhaaGreatDoor.SetE
namespace Go.Proofs.YtblapgfilbmdhaaGreatDoor.SetG
open Go.RowKit Go.Lib Go.Proofs SetPop SetA SetB SetC SetD SetE
end Go.Proofs.YtblapgfilbmdhaaGreatDoor.SetG
namespace Go.Proofs.YtblapgfilbmdhaaGreatDoor.SetH
open Go.RowKit Go.Lib Go.Proofs SetPop SetA SetB SetC SetD SetE SetG
theorem countP_one (p : Nat → Bool) (j : Nat) (hp : p j = false) : ∀ n, (List.range n).countP (fun i => p i || decide (j = i)) = (List.range n).countP p + (if j < n then 1 else 0)
  | 0 => by simp
  | n + 1 => by
    rw [List.range_succ, List.countP_append, List.countP_append, countP_one p j hp n]
    simp only [List.countP_singleton, Bool.or_eq_true, decide_eq_true_eq]
    by_cases h : j = n
    · subst h
      simp [hp]
    · have h3 : (j < n + 1) ↔ j < n := by omega
      simp only [h3, h, or_false]
      omega
theorem pop_or (x j : Nat) (hj : j < 64) (h : x.testBit j = false) : pop (x ||| 2 ^ j) = pop x + 1 := by
  unfold pop
  have := countP_one (fun i => x.testBit i) j h 64
  rw [if_pos hj] at this
  rw [← this]
  apply List.countP_congr
  intro i _
  rw [Nat.testBit_or, Nat.testBit_two_pow]
theorem cnt_set : ∀ (T : List Nat) (q v : Nat), q < T.length → cnt (T.set q v) + pop (T.getD q 0) = cnt T + pop v
  | [], _, _, h => absurd h (by simp)
  | a :: T, 0, v, _ => by simp [cnt]; omega
  | a :: T, q + 1, v, h => by
    have := cnt_set T q v (by simpa using h)
    simp only [cnt, List.set_cons_succ, List.map_cons, List.sum_cons, List.getD_cons_succ] at this ⊢
    omega
theorem rowM_getD (M : List Nat) (r k : Nat) (hk : k < 16) : (rowM M r).getD k 0 = M.getD (r * 16 + k) 0 := by
  rw [List.getD_eq_getElem?_getD, List.getD_eq_getElem?_getD, rowM_get hk]
theorem rowI_nat {n : Nat} (M : List Nat) {r : Nat} (h : r < n) : rowI n M (r : Int) = rowM M r := by
  unfold rowI
  rw [if_pos (by omega)]; rfl
theorem rowM_set_same (M : List Nat) (r q v : Nat) (hq : q < 16) : rowM (M.set (r * 16 + q) v) r = (rowM M r).set q v := by
  apply List.ext_getElem?
  intro i
  rcases Nat.lt_or_ge i 16 with hi | hi
  · rw [rowM_get hi]
    by_cases h : q = i
    · subst h
      rw [List.getElem?_set, if_pos rfl, List.getElem?_set, if_pos rfl]
      by_cases hl : r * 16 + q < M.length
      · rw [if_pos hl, if_pos (by unfold rowM; simp; omega)]
      · rw [if_neg hl, if_neg (by unfold rowM; simp; omega)]
    · rw [List.getElem?_set_ne (by omega), List.getElem?_set_ne h, rowM_get hi]
  · rw [List.getElem?_eq_none (by unfold rowM; simp; omega), List.getElem?_eq_none (by unfold rowM; simp; omega)]
theorem rowM_set_other (M : List Nat) (r r' q v : Nat) (hq : q < 16) (h : r ≠ r') : rowM (M.set (r * 16 + q) v) r' = rowM M r' := by
  apply List.ext_getElem?
  intro i
  rcases Nat.lt_or_ge i 16 with hi | hi
  · rw [rowM_get hi, rowM_get hi, List.getElem?_set_ne (by omega)]
  · rw [List.getElem?_eq_none (by unfold rowM; simp; omega), List.getElem?_eq_none (by unfold rowM; simp; omega)]
theorem cnt_add (n c : Nat) (M : List Nat) (r k : Nat) (hM : M.length = n * 16) (hr : r < n) (hk : k < 1024) (hb : bitAt M r k = false) (r' : Nat) : cnt (rowM (addM M r k) r') = cnt (rowM M r') + (if r = r' then 1 else 0) := by
  unfold addM
  by_cases h : r = r'
  · subst h
    rw [if_pos rfl, rowM_set_same _ _ _ _ (by omega)]
    have h1 := cnt_set (rowM M r) (k / 64) (word M r k ||| 2 ^ (k % 64)) (by rw [rowM_len hM hr]; omega)
    rw [rowM_getD _ _ _ (by omega)] at h1
    have h2 := pop_or (word M r k) (k % 64) (by omega) hb
    have h3 : M.getD (r * 16 + k / 64) 0 = word M r k := rfl
    rw [h3] at h1
    omega
  · rw [if_neg h, rowM_set_other _ _ _ _ _ (by omega) h]; rfl
theorem tot_add (n c : Nat) (M : List Nat) (r k : Int) (hM : M.length = n * 16) (hc : c ≤ 1000) (h : addB n c M r k = true) : tot n (addN n c M r k) n = tot n M n + 1 := by
  unfold addN
  rw [if_pos h]
  unfold addB at h
  rw [Bool.and_eq_true] at h
  obtain ⟨a1, a2, a3, a4⟩ := mayB_iff.1 h.1
  have hb : bitAt M r.toNat k.toNat = false := by simpa using h.2
  have key : ∀ m, m ≤ n → tot n (addM M r.toNat k.toNat) m = tot n M m + (if r.toNat < m then 1 else 0) := by
    intro m
    induction m with
    | zero => intro _; simp [tot]
    | succ m ih =>
      intro hm
      rw [tot_succ, tot_succ, ih (by omega), rowI_nat _ (by omega), rowI_nat _ (by omega), cnt_add n c M r.toNat k.toNat hM (by omega) (by omega) hb]
      have h3 : (if r.toNat < m + 1 then 1 else 0) = (if r.toNat < m then 1 else 0) + (if r.toNat = m then 1 else 0) := by
        by_cases h1 : r.toNat < m
        · rw [if_pos h1, if_pos (show r.toNat < m + 1 by omega), if_neg (show ¬ r.toNat = m by omega)]
        · by_cases h2 : r.toNat = m
          · rw [if_neg h1, if_pos (show r.toNat < m + 1 by omega), if_pos h2]
          · rw [if_neg h1, if_neg (show ¬ r.toNat < m + 1 by omega), if_neg h2]
      omega
  rw [key n (Nat.le_refl _), if_pos (by omega)]
theorem addN_no {n c : Nat} {M : List Nat} {r k : Int} (h : addB n c M r k = false) : addN n c M r k = M := by unfold addN; rw [h]; rfl
theorem tot_zero (n m k : Nat) : tot n (List.replicate (n * 16) 0) k = 0 := by
  induction k with
  | zero => simp [tot]
  | succ k ih =>
    rw [tot_succ, ih]
    have h16 := rowI_len (M := List.replicate (n * 16) 0) (n := n) (by simp) (k : Int)
    have hz : ∀ x ∈ rowI n (List.replicate (n * 16) 0) (k : Int), x = 0 := fun x hx => by
      unfold rowI at hx
      split at hx
      · exact List.eq_of_mem_replicate (List.mem_of_mem_drop (List.mem_of_mem_take hx))
      · exact List.eq_of_mem_replicate hx
    have := (cnt_zero _ (fun x hx => by rw [hz x hx]; omega)).2 hz
    omega
section
set_option maxRecDepth 100000
end
end Go.Proofs.YtblapgfilbmdhaaGreatDoor.SetH
namespace Go.Proofs.YtblapgfilbmdhaaGreatDoor.SetM
open Go.Lib SetPop
def bitsOf (x : Nat) : List Nat := (List.range 64).filter fun i => x.testBit i
theorem bitsOf_len (x : Nat) : (bitsOf x).length = pop x := by unfold bitsOf pop; rw [List.countP_eq_length_filter]
theorem bitsOf_zero : bitsOf 0 = [] := by decide +kernel
theorem filter_first (p q : Nat → Bool) (j d : Nat) (hj : p j = true) (hlt : ∀ i, i < j → p i = false) (hq : ∀ i, q i = (p i && decide (i ≠ j))) :
    (List.range (j + (1 + d))).filter p = j :: (List.range (j + (1 + d))).filter q := by
  rw [List.range_add, List.range_add]
  simp only [List.filter_append, List.map_append]
  have e1 : (List.range j).filter p = [] := by
    rw [List.filter_eq_nil_iff]
    intro i hi
    rw [hlt i (List.mem_range.1 hi)]; simp
  have e2 : (List.range j).filter q = [] := by
    rw [List.filter_eq_nil_iff]
    intro i hi
    rw [hq, hlt i (List.mem_range.1 hi)]; simp
  rw [e1, e2]
  have e3 : q j = false := by rw [hq]; simp
  have e4 : (((List.range d).map (1 + ·)).map (j + ·)).filter p = (((List.range d).map (1 + ·)).map (j + ·)).filter q := by
    refine List.filter_congr fun i hi => ?_
    simp only [List.mem_map] at hi
    obtain ⟨_, ⟨x, hx, rfl⟩, rfl⟩ := hi
    rw [hq]
    have : decide (j + (1 + x) ≠ j) = true := by simp
    rw [this, Bool.and_true]
  simp [hj, e3]
  simpa using e4
theorem low (x : Nat) (h0 : x ≠ 0) (h : x < 18446744073709551616) : ctz 64 x < 64 ∧ x.testBit (ctz 64 x) = true ∧ (∀ i, i < ctz 64 x → x.testBit i = false) ∧ (∀ i, (x &&& (x - 1)).testBit i = (x.testBit i && decide (i ≠ ctz 64 x))) := by
  obtain ⟨m, hm, hk⟩ := ctzFrom_spec 64 x (by omega) h
  have e : ctz 64 x = ctzFrom 64 x := by simp [ctz, h0]
  rw [e]
  generalize ctzFrom 64 x = j at *
  have hx : ∀ i, x.testBit i = (decide (i = j) || (decide (j < i) && m.testBit (i - (j + 1)))) := by
    intro i
    rw [hm, Nat.mul_comm, Nat.testBit_mul_two_pow]
    rcases Nat.lt_trichotomy i j with hi | hi | hi
    · have b1 : decide (i ≥ j) = false := by simp; omega
      have b2 : decide (i = j) = false := by simp; omega
      have b3 : decide (j < i) = false := by simp; omega
      rw [b1, b2, b3]; rfl
    · subst hi; simp [Nat.testBit_zero]
    · obtain ⟨t, rfl⟩ : ∃ t, i = j + (t + 1) := ⟨i - j - 1, by omega⟩
      have e3 : j + (t + 1) - j = t + 1 := by omega
      have e4 : j + (t + 1) - (j + 1) = t := by omega
      rw [e3, e4, Nat.testBit_succ]
      have d1 : (2 * m + 1) / 2 = m := by omega
      rw [d1]
      simp
  have hy : ∀ i, (x - 1).testBit i = (decide (i < j) || (decide (j < i) && m.testBit (i - (j + 1)))) := by
    intro i
    have e5 : x - 1 = 2 ^ (j + 1) * m + (2 ^ j - 1) := by
      have := Nat.two_pow_pos j
      rw [hm, Nat.pow_succ, Nat.mul_add, Nat.mul_one, Nat.mul_assoc]
      omega
    have lt : 2 ^ j - 1 < 2 ^ (j + 1) := by
      have := Nat.two_pow_pos j
      rw [Nat.pow_succ]; omega
    rw [e5, Nat.testBit_two_pow_mul_add _ lt, Nat.testBit_two_pow_sub_one]
    by_cases hi : i < j + 1
    · have b3 : decide (j < i) = false := by simp; omega
      rw [if_pos hi, b3]; simp
    · have b3 : decide (j < i) = true := by simp; omega
      have b1 : decide (i < j) = false := by simp; omega
      rw [if_neg hi, b3, b1]; simp
  refine ⟨hk, ?_, ?_, ?_⟩
  · rw [hx]; simp
  · intro i hi
    have b2 : decide (i = j) = false := by simp; omega
    have b3 : decide (j < i) = false := by simp; omega
    rw [hx, b2, b3]; rfl
  · intro i
    rw [Nat.testBit_and, hx, hy]
    rcases Nat.lt_trichotomy i j with hi | hi | hi
    · have b2 : decide (i = j) = false := by simp; omega
      have b3 : decide (j < i) = false := by simp; omega
      rw [b2, b3]; rfl
    · subst hi; simp
    · have b2 : decide (i = j) = false := by simp; omega
      have b3 : decide (j < i) = true := by simp; omega
      have b4 : decide (i < j) = false := by simp; omega
      have b5 : decide (i ≠ j) = true := by simp; omega
      rw [b2, b3, b4, b5]; simp
theorem bitsOf_step (x : Nat) (h0 : x ≠ 0) (h : x < 18446744073709551616) : bitsOf x = ctz 64 x :: bitsOf (x &&& (x - 1)) := by
  obtain ⟨hk, h1, h2, h3⟩ := low x h0 h
  have := filter_first (fun i => x.testBit i) (fun i => (x &&& (x - 1)).testBit i) (ctz 64 x) (63 - ctz 64 x) h1 h2 h3
  have e : ctz 64 x + (1 + (63 - ctz 64 x)) = 64 := by omega
  rw [e] at this
  exact this
theorem and_less (x : Nat) (h0 : x ≠ 0) : (x &&& (x - 1)) < x := by
  have := Nat.and_le_right (n := x) (m := x - 1)
  omega
theorem and_small (x : Nat) (h : x < 18446744073709551616) : (x &&& (x - 1)) < 18446744073709551616 := Nat.lt_of_le_of_lt Nat.and_le_left h
def numsOf (T : List Nat) (k : Nat) : List Nat := (List.range k).flatMap fun i => (bitsOf (T.getD i 0)).map (i * 64 + ·)
theorem numsOf_succ (T : List Nat) (k : Nat) : numsOf T (k + 1) = numsOf T k ++ (bitsOf (T.getD k 0)).map (k * 64 + ·) := by
  unfold numsOf
  rw [List.range_succ, List.flatMap_append]
  simp
def bitT (T : List Nat) (k : Nat) : Bool := (T.getD (k / 64) 0).testBit (k % 64)
theorem numsOf_eq (T : List Nat) : ∀ k, numsOf T k = (List.range (k * 64)).filter (bitT T)
  | 0 => by simp [numsOf]
  | k + 1 => by
    rw [numsOf_succ, numsOf_eq T k, Nat.add_mul, Nat.one_mul, List.range_add, List.filter_append, List.filter_map]
    congr 1
    unfold bitsOf
    congr 1
    refine List.filter_congr fun i hi => ?_
    have hi := List.mem_range.1 hi
    have a1 : (k * 64 + i) / 64 = k := by omega
    have a2 : (k * 64 + i) % 64 = i := by omega
    simp only [Function.comp_apply, bitT, a1, a2]
theorem numsOf_len (T : List Nat) : ∀ k, (numsOf T k).length = ((List.range k).map fun i => pop (T.getD i 0)).sum
  | 0 => by simp [numsOf]
  | k + 1 => by
    rw [numsOf_succ, List.length_append, numsOf_len T k, List.length_map, bitsOf_len, List.range_succ, List.map_append, List.sum_append]
    simp
theorem below_c (p : Nat → Bool) (c : Nat) (hc : c ≤ 1024) (h : ∀ k, p k = true → k < c) : (List.range 1024).filter p = (List.range c).filter p := by
  obtain ⟨d, hd⟩ : ∃ d, 1024 = c + d := ⟨1024 - c, by omega⟩
  rw [hd, List.range_add, List.filter_append]
  have : ((List.range d).map (c + ·)).filter p = [] := by
    rw [List.filter_eq_nil_iff]
    intro i hi hp
    rw [List.mem_map] at hi
    obtain ⟨x, _, rfl⟩ := hi
    have := h _ hp
    omega
  rw [this, List.append_nil]
end Go.Proofs.YtblapgfilbmdhaaGreatDoor.SetM
namespace Go.Proofs.YtblapgfilbmdhaaGreatDoor.SetN
open Go.RowKit Go.Lib Go.Proofs SetPop SetA SetB SetC SetD SetE SetG SetH SetM
structure Inv (n c : Nat) (M : List Nat) (L : List (Int × Int)) : Prop where
  len : M.length = n * 16
  c1 : c ≤ 1000
  rng : ∀ p ∈ L, mayB n c p.1 p.2 = true
  bit : ∀ r k : Nat, r < n → k < 1024 → bitAt M r k = decide (((r : Int), (k : Int)) ∈ L)
  tot : tot n M n = L.length
theorem Inv.zero (n c : Nat) (hc : c ≤ 1000) : Inv n c (List.replicate (n * 16) 0) [] where
  len := by simp
  c1 := hc
  rng := fun p h => by cases h
  bit := fun r k _ _ => by rw [bit_zero]; simp
  tot := tot_zero n n n
variable {n c : Nat} {M : List Nat} {L : List (Int × Int)}
def hasL (L : List (Int × Int)) (r k : Int) : Bool := L.any fun x => decide (x.1 = r) && decide (x.2 = k)
theorem hasL_iff {r k : Int} : hasL L r k = true ↔ (r, k) ∈ L := by
  unfold hasL
  rw [List.any_eq_true]
  constructor
  · rintro ⟨⟨a, b⟩, h, e⟩
    simp at e
    obtain ⟨rfl, rfl⟩ := e
    exact h
  · intro h
    exact ⟨_, h, by simp⟩
theorem hasL_dec (r k : Int) : hasL L r k = decide ((r, k) ∈ L) := by
  rw [Bool.eq_iff_iff, hasL_iff, decide_eq_true_eq]
theorem Inv.has (h : Inv n c M L) (r k : Int) : hasB n c M r k = hasL L r k := by
  rw [Bool.eq_iff_iff, hasL_iff]
  unfold hasB
  rw [Bool.and_eq_true]
  constructor
  · rintro ⟨h1, h2⟩
    obtain ⟨a1, a2, a3, a4⟩ := mayB_iff.1 h1
    have := h.c1
    rw [h.bit _ _ (by omega) (by omega), decide_eq_true_eq] at h2
    rw [Int.toNat_of_nonneg a1, Int.toNat_of_nonneg a3] at h2
    exact h2
  · intro hm
    have h1 := h.rng _ hm
    obtain ⟨a1, a2, a3, a4⟩ := mayB_iff.1 h1
    have := h.c1
    simp only at a1 a2 a3 a4
    refine ⟨h1, ?_⟩
    rw [h.bit _ _ (by omega) (by omega), decide_eq_true_eq, Int.toNat_of_nonneg a1, Int.toNat_of_nonneg a3]
    exact hm
theorem Inv.addB (h : Inv n c M L) (r k : Int) : addB n c M r k = (mayB n c r k && !hasL L r k) := by
  rw [← h.has]
  unfold SetB.addB hasB
  cases mayB n c r k <;> simp
def putL (n c : Nat) (L : List (Int × Int)) (r k : Int) : List (Int × Int) := if mayB n c r k && !hasL L r k then L ++ [(r, k)] else L
theorem Inv.add (h : Inv n c M L) (r k : Int) : Inv n c (addN n c M r k) (putL n c L r k) := by
  unfold putL
  rw [← h.addB]
  cases hb : SetB.addB n c M r k with
  | false => rw [addN_no hb]; exact h
  | true =>
    have hN : addN n c M r k = addM M r.toNat k.toNat := by unfold addN; rw [hb]; rfl
    have ht := tot_add n c M r k h.len h.c1 hb
    have hb2 := hb
    unfold SetB.addB at hb2
    rw [Bool.and_eq_true] at hb2
    obtain ⟨a1, a2, a3, a4⟩ := mayB_iff.1 hb2.1
    have hc := h.c1
    have hl := h.len
    refine ⟨by rw [addN_len]; exact h.len, h.c1, ?_, ?_, ?_⟩
    · intro p hp
      rw [if_pos rfl, List.mem_append, List.mem_singleton] at hp
      rcases hp with hp | rfl
      · exact h.rng p hp
      · exact hb2.1
    · intro r' k' hr hk
      rw [hN, bit_addM _ _ _ _ _ (by omega) (by omega) hk, h.bit r' k' hr hk, if_pos rfl, Bool.eq_iff_iff]
      simp only [Bool.or_eq_true, decide_eq_true_eq, List.mem_append, List.mem_singleton, Prod.mk.injEq]
      refine or_congr Iff.rfl ?_
      omega
    · rw [ht, h.tot]; simp
theorem Inv.row (h : Inv n c M L) (r : Int) (k : Nat) (hk : k < 1024) : bitT (rowI n M r) k = hasL L r k := by
  by_cases hr : 0 ≤ r ∧ r < n
  · obtain ⟨j, rfl⟩ : ∃ j : Nat, r = j := ⟨r.toNat, by omega⟩
    have hj : j < n := by omega
    rw [rowI_nat M hj]
    unfold bitT
    rw [rowM_getD _ _ _ (by omega), hasL_dec, ← h.bit j k hj hk]
    rfl
  · unfold bitT rowI
    rw [if_neg hr]
    have e : hasL L r k = false := by
      cases hh : hasL L r k with
      | false => rfl
      | true =>
        have := h.rng _ (hasL_iff.1 hh)
        obtain ⟨a1, a2, _, _⟩ := mayB_iff.1 this
        exact absurd ⟨a1, a2⟩ hr
    rw [e, List.getD_eq_getElem?_getD, List.getElem?_replicate]
    split <;> simp
def listL (c : Nat) (L : List (Int × Int)) (r : Int) : List Nat := (List.range c).filter fun k : Nat => hasL L r k
theorem Inv.list (h : Inv n c M L) (r : Int) : numsOf (rowI n M r) 16 = listL c L r := by
  rw [numsOf_eq]
  have e : (List.range (16 * 64)).filter (bitT (rowI n M r)) = (List.range 1024).filter (fun k : Nat => hasL L r k) := by
    refine List.filter_congr fun k hk => ?_
    exact h.row r k (List.mem_range.1 hk)
  rw [e]
  have hc := h.c1
  exact below_c _ _ (by omega) fun k hk => by
    have := h.rng _ (hasL_iff.1 hk)
    obtain ⟨_, _, _, a4⟩ := mayB_iff.1 this
    simp only at a4
    omega
theorem cnt_nums (T : List Nat) (h : T.length = 16) : cnt T = (numsOf T 16).length := by
  rw [numsOf_len]
  unfold cnt
  congr 1
  apply List.ext_getElem
  · simp [h]
  · intro i h1 h2
    simp at h1 h2
    simp [List.getElem?_eq_getElem h1]
theorem Inv.cnt (h : Inv n c M L) (r : Int) : cnt (rowI n M r) = (listL c L r).length := by
  rw [cnt_nums _ (rowI_len h.len r), h.list]
theorem listL_len (c : Nat) (L : List (Int × Int)) (r : Int) : (listL c L r).length ≤ c := by
  unfold listL
  exact Nat.le_trans (List.length_filter_le _ _) (by simp)
theorem Inv.col (h : Inv n c M L) {r k : Int} (hm : (r, k) ∈ L) : 0 ≤ k ∧ k < 1024 := by
  obtain ⟨_, _, a3, a4⟩ := mayB_iff.1 (h.rng _ hm)
  have := h.c1
  simp only at a3 a4
  omega
end Go.Proofs.YtblapgfilbmdhaaGreatDoor.SetN
namespace Go.Proofs.YtblapgfilbmdhaaGreatDoor.SemA
open SetB SetN TblC
abbrev Pr := Int × Int
inductive Der (K : Nat) (L : List Ru) : Int → Int → Prop
  | mem (u : Ru) : u ∈ L → u.kind = 1 → Der K L u.head u.who
  | incl (u : Ru) (x : Int) : u ∈ L → u.kind = 2 → Der K L u.a x → Der K L u.head x
  | link (u : Ru) (x y : Int) : u ∈ L → u.kind = 3 → Der K L u.a x → Der K L (x * K + u.via) y → Der K L u.head y
  | both (u : Ru) (x : Int) : u ∈ L → u.kind = 4 → Der K L u.a x → Der K L u.b x → Der K L u.head x
theorem Der.mono {K : Nat} {L L' : List Ru} (h : ∀ u ∈ L, u ∈ L') {r x : Int} (d : Der K L r x) : Der K L' r x := by
  induction d with
  | mem u hu hk => exact .mem u (h u hu) hk
  | incl u x hu hk _ ih => exact .incl u x (h u hu) hk ih
  | link u x y hu hk _ _ i1 i2 => exact .link u x y (h u hu) hk i1 i2
  | both u x hu hk _ _ i1 i2 => exact .both u x (h u hu) hk i1 i2
structure Sm where
  all : List Pr
  look : List (List Ru)
  steps : Nat
def Sm.at (s : Sm) (i : Int) : List Ru := s.look.getD i.toNat []
def inclU (h a : Int) : Ru := ⟨2, h, 0, a, 0, 0⟩
def putM (n P : Nat) (s : Sm) (r x : Int) : Sm := { s with all := putL n P s.all r x }
def lookM (s : Sm) (i : Int) (u : Ru) : Sm := { s with look := s.look.modify i.toNat (· ++ [u]) }
def tick (s : Sm) : Sm := { s with steps := s.steps + 1 }
def incM (n P : Nat) (s : Sm) (h : Int) (l : List Nat) : Sm := l.foldl (fun s (x : Nat) => putM n P (tick s) h x) s
def includeM (n P : Nat) (s : Sm) (h a : Int) : Sm := incM n P (lookM s a (inclU h a)) h (listL P s.all a)
def stepM (n P K : Nat) (s : Sm) (y : Int) (u : Ru) : Sm :=
  if u.kind = 2 then putM n P (tick s) u.head y
  else if u.kind = 3 then includeM n P (tick s) u.head (y * K + u.via)
  else if u.kind = 4 then (if hasL s.all u.a y && hasL s.all u.b y then putM n P (tick s) u.head y else tick s)
  else tick s
def followM (n P K : Nat) (s : Sm) (y : Int) (l : List Ru) : Sm := l.foldl (fun s u => stepM n P K s y u) s
def takeM (n P : Nat) (s : Sm) (u : Ru) : Sm :=
  if u.kind = 1 then putM n P s u.head u.who
  else if u.kind = 4 ∧ u.b ≠ u.a then lookM (lookM s u.a u) u.b u
  else lookM s u.a u
structure Ok (n P K : Nat) (u : Ru) : Prop where
  k : u.kind = 1 ∨ u.kind = 2 ∨ u.kind = 3 ∨ u.kind = 4
  h : 0 ≤ u.head ∧ u.head < n
  a : 0 ≤ u.a ∧ u.a < n
  b : 0 ≤ u.b ∧ u.b < n
  w : 0 ≤ u.who ∧ u.who < P
  v : 0 ≤ u.via ∧ u.via < K
theorem mem_put {n P : Nat} {L : List Pr} {r x : Int} (hm : mayB n P r x = true) (p : Pr) : p ∈ putL n P L r x ↔ p ∈ L ∨ p = (r, x) := by
  unfold putL
  rw [hm]
  cases hh : hasL L r x with
  | true =>
    simp
    rintro rfl
    exact hasL_iff.1 hh
  | false => simp
theorem put_pre (n P : Nat) (L : List Pr) (r x : Int) : L <+: putL n P L r x := by
  unfold putL
  split
  · exact List.prefix_append _ _
  · exact List.prefix_refl _
theorem put_nd {n P : Nat} {L : List Pr} {r x : Int} (h : L.Nodup) : (putL n P L r x).Nodup := by
  unfold putL
  split
  · rename_i hc
    rw [List.nodup_append]
    refine ⟨h, by simp, ?_⟩
    intro a ha b hb
    simp at hb
    subst hb
    rintro rfl
    have := hasL_iff.2 ha
    simp [this] at hc
  · exact h
theorem mem_list {P : Nat} {L : List Pr} {r : Int} {k : Nat} : k ∈ listL P L r ↔ k < P ∧ (r, (k : Int)) ∈ L := by
  unfold listL
  rw [List.mem_filter, List.mem_range, hasL_iff]
theorem getD_modify (l : List (List Ru)) (i j : Nat) (f : List Ru → List Ru) : (l.modify i f).getD j [] = if i = j ∧ j < l.length then f (l.getD j []) else l.getD j [] := by
  simp only [List.getD_eq_getElem?_getD, List.getElem?_modify]
  by_cases hj : j < l.length
  · rw [List.getElem?_eq_getElem hj]
    by_cases hi : i = j
    · subst hi; simp [hj]
    · simp [hi]
  · rw [List.getElem?_eq_none (by omega)]
    simp [hj]
theorem sum_modify (g : List Ru → Nat) : ∀ (l : List (List Ru)) (i : Nat) (f : List Ru → List Ru), i < l.length → ((l.modify i f).map g).sum + g (l.getD i []) = (l.map g).sum + g (f (l.getD i []))
  | [], i, f, h => by simp at h
  | x :: l, 0, f, h => by simp; omega
  | x :: l, i + 1, f, h => by
    have := sum_modify g l i f (by simpa using h)
    simp only [List.modify_succ_cons, List.map_cons, List.sum_cons, List.getD_cons_succ]
    omega
def wt (P : Nat) (u : Ru) : Nat := if u.kind = 3 then 1 + P else 1
def lw (u : Ru) : Nat := if u.kind = 3 then 1 else 0
def ws (P : Nat) (l : List Ru) : Nat := (l.map (wt P)).sum
def links (l : List Ru) : Nat := (l.map lw).sum
theorem ws_app (P : Nat) (l : List Ru) (u : Ru) : ws P (l ++ [u]) = ws P l + wt P u := by unfold ws; simp
theorem links_app (l : List Ru) (u : Ru) : links (l ++ [u]) = links l + lw u := by unfold links; simp
def Sound (K : Nat) (L : List Ru) (u : Ru) : Prop :=
  (u.kind = 2 → ∀ x, Der K L u.a x → Der K L u.head x) ∧ (u.kind = 3 → ∀ x y, Der K L u.a x → Der K L (x * K + u.via) y → Der K L u.head y) ∧ (u.kind = 4 → ∀ x, Der K L u.a x → Der K L u.b x → Der K L u.head x)
theorem sound_mem {K : Nat} {L : List Ru} {u : Ru} (h : u ∈ L) : Sound K L u :=
  ⟨fun hk x => .incl u x h hk, fun hk x y => .link u x y h hk, fun hk x => .both u x h hk⟩
def Closed (K : Nat) (s : Sm) (hist : List Pr) (u : Ru) (x : Int) : Prop :=
  (u.kind = 2 → (u.head, x) ∈ s.all) ∧ (u.kind = 3 → ∃ v ∈ s.at (x * K + u.via), v.kind = 2 ∧ v.head = u.head ∧ v.a = x * K + u.via) ∧ (u.kind = 4 → (u.a, x) ∈ hist → (u.b, x) ∈ hist → (u.head, x) ∈ s.all)
structure Inv (n P K : Nat) (L T : List Ru) (hist : List Pr) (pend cp : List Ru) (y : Int) (s : Sm) : Prop where
  pre : hist <+: s.all
  nd : s.all.Nodup
  rng : ∀ p ∈ s.all, mayB n P p.1 p.2 = true
  snd : ∀ p ∈ s.all, Der K L p.1 p.2
  len : s.look.length = n
  lok : ∀ i : Nat, ∀ u ∈ s.look.getD i [], Ok n P K u ∧ u.kind ≠ 1 ∧ (u.a = i ∨ u.kind = 4 ∧ u.b = i) ∧ Sound K L u ∧ (u.kind = 4 → u ∈ s.at u.a ∧ u ∈ s.at u.b)
  stat : ∀ u ∈ T, (u.kind = 1 → (u.head, u.who) ∈ s.all) ∧ (u.kind ≠ 1 → u ∈ s.at u.a)
  pd : ∀ u ∈ pend, ∃ i : Nat, u ∈ s.look.getD i []
  cl : ∀ p ∈ hist, ∀ u ∈ s.at p.1, (u ∈ pend ∧ p.2 = y) ∨ Closed K s hist u p.2
  st : s.steps + ws P cp ≤ T.length + (hist.map fun p => 1 + ws P (s.at p.1)).sum
  lk : (s.look.map (ws P)).sum + links cp ≤ T.length * (2 + P) + (hist.map fun p => links (s.at p.1)).sum
  ll : (s.look.map links).sum ≤ T.length
  lo : T.length ≤ s.steps
theorem sum_le {α : Type} (f g : α → Nat) : ∀ (l : List α), (∀ x ∈ l, f x ≤ g x) → (l.map f).sum ≤ (l.map g).sum
  | [], _ => by simp
  | x :: l, h => by
    have := sum_le f g l (fun y hy => h y (by simp [hy]))
    have := h x (by simp)
    simp only [List.map_cons, List.sum_cons]
    omega
theorem Closed.mono {K : Nat} {s s' : Sm} {hist : List Pr} {u : Ru} {x : Int} (h : Closed K s hist u x) (ha : ∀ p ∈ s.all, p ∈ s'.all) (hl : ∀ i, ∀ v ∈ s.at i, v ∈ s'.at i) : Closed K s' hist u x := by
  obtain ⟨h1, h2, h3⟩ := h
  refine ⟨fun e => ha _ (h1 e), fun e => ?_, fun e a b => ha _ (h3 e a b)⟩
  obtain ⟨v, hv, r⟩ := h2 e
  exact ⟨v, hl _ v hv, r⟩
theorem pre_mem {α : Type} {l m : List α} (h : l <+: m) {x : α} (hx : x ∈ l) : x ∈ m := h.subset hx
theorem Inv.put {n P K : Nat} {L T : List Ru} {hist : List Pr} {pend cp : List Ru} {y : Int} {s : Sm} (h : Inv n P K L T hist pend cp y s) {r x : Int} (hm : mayB n P r x = true) (hd : Der K L r x) : Inv n P K L T hist pend cp y (putM n P s r x) := by
  have hp := put_pre n P s.all r x
  exact {
    pre := List.IsPrefix.trans h.pre hp
    nd := put_nd h.nd
    rng := fun p h2 => by
      rcases (mem_put hm p).1 h2 with h3 | rfl
      · exact h.rng p h3
      · exact hm
    snd := fun p h2 => by
      rcases (mem_put hm p).1 h2 with h3 | rfl
      · exact h.snd p h3
      · exact hd
    len := h.len
    lok := h.lok
    stat := fun u hu => ⟨fun e => pre_mem hp ((h.stat u hu).1 e), (h.stat u hu).2⟩
    pd := h.pd
    cl := fun p h2 u hu => (h.cl p h2 u hu).imp id fun c => c.mono (fun q hq => pre_mem hp hq) fun i v hv => hv
    st := h.st
    lk := h.lk
    ll := h.ll
    lo := h.lo }
theorem at_look {s : Sm} {n : Nat} (hl : s.look.length = n) {i : Int} (hi : 0 ≤ i ∧ i < n) (u : Ru) {j : Int} (hj : 0 ≤ j) : (lookM s i u).at j = if j = i then s.at i ++ [u] else s.at j := by
  unfold Sm.at lookM
  simp only [getD_modify]
  by_cases e : j = i
  · subst e
    rw [if_pos ⟨rfl, by omega⟩, if_pos rfl]
  · rw [if_neg (by omega), if_neg e]
theorem at_look_mem {s : Sm} {i : Int} {u v : Ru} {j : Nat} (h : v ∈ s.look.getD j []) : v ∈ (lookM s i u).look.getD j [] := by
  unfold lookM
  simp only [getD_modify]
  split
  · rw [List.mem_append]; exact .inl h
  · exact h
theorem mem_look {s : Sm} {i : Int} {u v : Ru} {j : Nat} (h : v ∈ (lookM s i u).look.getD j []) : v ∈ s.look.getD j [] ∨ v = u ∧ i.toNat = j := by
  unfold lookM at h
  simp only [getD_modify] at h
  split at h
  · rename_i hc
    simp at h
    rcases h with h | h
    · left; simpa using h
    · exact .inr ⟨h, hc.1⟩
  · exact .inl h
theorem inc_all {n P : Nat} (h : Int) : ∀ (l : List Nat) (s : Sm), (∀ x ∈ l, mayB n P h x = true) → (incM n P s h l).look = s.look ∧ (incM n P s h l).steps = s.steps + l.length ∧ ∀ p, p ∈ (incM n P s h l).all ↔ p ∈ s.all ∨ ∃ x ∈ l, p = (h, (x : Int))
  | [], s, _ => by simp [incM]
  | x :: l, s, hm => by
    have ih := inc_all (n := n) (P := P) h l (putM n P (tick s) h x) (fun z hz => hm z (by simp [hz]))
    have e : incM n P s h (x :: l) = incM n P (putM n P (tick s) h x) h l := rfl
    rw [e]
    obtain ⟨i1, i2, i3⟩ := ih
    refine ⟨i1.trans rfl, ?_, fun p => ?_⟩
    · rw [i2]
      show s.steps + 1 + l.length = _
      simp only [List.length_cons]; omega
    · rw [i3]
      have := mem_put (L := s.all) (hm x (by simp)) p
      show p ∈ putL n P s.all h x ∨ _ ↔ _
      rw [this]
      constructor
      · rintro ((a | a) | ⟨z, hz, a⟩)
        · exact .inl a
        · exact .inr ⟨x, by simp, a⟩
        · exact .inr ⟨z, by simp [hz], a⟩
      · rintro (a | ⟨z, hz, a⟩)
        · exact .inl (.inl a)
        · simp at hz
          rcases hz with rfl | hz
          · exact .inl (.inr a)
          · exact .inr ⟨z, hz, a⟩
theorem of_range {P K : Nat} {x v : Int} (hx : 0 ≤ x ∧ x < P) (hv : 0 ≤ v ∧ v < K) : 0 ≤ x * K + v ∧ x * K + v < ((P * K : Nat) : Int) := by
  obtain ⟨a, rfl⟩ := Int.eq_ofNat_of_zero_le hx.1
  obtain ⟨b, rfl⟩ := Int.eq_ofNat_of_zero_le hv.1
  have ha : a < P := by omega
  have hb : b < K := by omega
  have : (a + 1) * K ≤ P * K := Nat.mul_le_mul_right _ ha
  rw [Nat.add_mul, Nat.one_mul] at this
  constructor
  · have := Int.natCast_nonneg (a * K + b)
    simpa using this
  · have h2 : a * K + b < P * K := by omega
    exact_mod_cast h2
theorem Inv.include {n P K : Nat} {L T : List Ru} {hist : List Pr} {pend cp : List Ru} {y : Int} {s : Sm} (h : Inv n P K L T hist pend cp y s) {hd a : Int} (h1 : 0 ≤ hd ∧ hd < n) (h2 : 0 ≤ a ∧ a < n) (hz : 0 < P ∧ 0 < K) (hn : n = P * K)
    (hs : ∀ x, Der K L a x → Der K L hd x) (hB : s.steps + P + ws P cp ≤ T.length + (hist.map fun p => 1 + ws P (s.at p.1)).sum)
    (hC : (s.look.map (ws P)).sum + 1 + links cp ≤ T.length * (2 + P) + (hist.map fun p => links (s.at p.1)).sum) :
    Inv n P K L T hist pend cp y (includeM n P s hd a) ∧ (∀ p ∈ s.all, p ∈ (includeM n P s hd a).all) ∧ (∀ i, ∀ v ∈ s.at i, v ∈ (includeM n P s hd a).at i) ∧ inclU hd a ∈ (includeM n P s hd a).at a := by
  have hml : ∀ x ∈ listL P s.all a, mayB n P hd x = true ∧ Der K L hd x := fun x hx => by
    obtain ⟨hx1, hx2⟩ := mem_list.1 hx
    exact ⟨mayB_iff.2 ⟨h1.1, h1.2, by omega, by omega⟩, hs _ (h.snd _ hx2)⟩
  obtain ⟨i1, i2, i3⟩ := inc_all hd (listL P s.all a) (lookM s a (inclU hd a)) (fun x hx => (hml x hx).1)
  have hall : ∀ p ∈ s.all, p ∈ (includeM n P s hd a).all := fun p hp => (i3 p).2 (.inl hp)
  have hat : ∀ i : Int, (includeM n P s hd a).at i = (lookM s a (inclU hd a)).at i := fun i => by
    show (includeM n P s hd a).look.getD _ _ = _
    unfold includeM
    rw [i1]
    rfl
  have hlk : ∀ i, ∀ v ∈ s.at i, v ∈ (includeM n P s hd a).at i := fun i v hv => by
    rw [hat]
    exact at_look_mem hv
  have hin : inclU hd a ∈ (includeM n P s hd a).at a := by
    rw [hat, at_look h.len h2 _ h2.1, if_pos rfl]
    simp
  refine ⟨?_, hall, hlk, hin⟩
  have hwt : wt P (inclU hd a) = 1 := by unfold wt inclU; simp
  have hlw : lw (inclU hd a) = 0 := by unfold lw inclU; simp
  have hsm : ∀ g : List Ru → Nat, ((lookM s a (inclU hd a)).look.map g).sum + g (s.at a) = (s.look.map g).sum + g (s.at a ++ [inclU hd a]) := fun g => sum_modify g s.look a.toNat _ (by rw [h.len]; omega)
  have hll : (listL P s.all a).length ≤ P := listL_len _ _ _
  have mono1 : ∀ p ∈ hist, ws P (s.at p.1) ≤ ws P ((lookM s a (inclU hd a)).at p.1) := fun p hp => by
    have hr := mayB_iff.1 (h.rng p (pre_mem h.pre hp))
    rw [at_look h.len h2 _ hr.1]
    split
    · rename_i e; rw [e, ws_app]; omega
    · exact Nat.le_refl _
  have mono2 : ∀ p ∈ hist, links (s.at p.1) ≤ links ((lookM s a (inclU hd a)).at p.1) := fun p hp => by
    have hr := mayB_iff.1 (h.rng p (pre_mem h.pre hp))
    rw [at_look h.len h2 _ hr.1]
    split
    · rename_i e; rw [e, links_app]; omega
    · exact Nat.le_refl _
  have hpre : s.all <+: (includeM n P s hd a).all := by
    unfold includeM
    generalize listL P s.all a = l
    have : ∀ (l : List Nat) (s : Sm), s.all <+: (incM n P s hd l).all := by
      intro l
      induction l with
      | nil => intro s; exact List.prefix_refl _
      | cons x l ih => intro s; exact List.IsPrefix.trans (put_pre n P s.all hd x) (ih (putM n P (tick s) hd x))
    exact this l (lookM s a (inclU hd a))
  have hnd : (includeM n P s hd a).all.Nodup := by
    unfold includeM
    generalize listL P s.all a = l
    have : ∀ (l : List Nat) (s : Sm), s.all.Nodup → (incM n P s hd l).all.Nodup := by
      intro l
      induction l with
      | nil => intro s h; exact h
      | cons x l ih => intro s h; exact ih _ (put_nd (L := (tick s).all) h)
    exact this l (lookM s a (inclU hd a)) h.nd
  exact {
    pre := List.IsPrefix.trans h.pre hpre
    nd := hnd
    rng := fun p hp => by
      rcases (i3 p).1 hp with hp | ⟨x, hx, rfl⟩
      · exact h.rng p hp
      · exact (hml x hx).1
    snd := fun p hp => by
      rcases (i3 p).1 hp with hp | ⟨x, hx, rfl⟩
      · exact h.snd p hp
      · exact (hml x hx).2
    len := by
      show (includeM n P s hd a).look.length = n
      unfold includeM
      rw [i1]
      simp [lookM, h.len]
    lok := fun i u hu => by
      have hu2 : u ∈ (lookM s a (inclU hd a)).look.getD i [] := by rw [← i1]; exact hu
      rcases mem_look hu2 with hu3 | ⟨rfl, e⟩
      · obtain ⟨a1, a2, a3, a4, a5⟩ := h.lok i u hu3
        exact ⟨a1, a2, a3, a4, fun e => ⟨hlk _ _ (a5 e).1, hlk _ _ (a5 e).2⟩⟩
      · have h1a : (0 : Int) ≤ 0 ∧ (0 : Int) < n := by
          have : 0 < n := by rw [hn]; exact Nat.mul_pos hz.1 hz.2
          omega
        refine ⟨⟨.inr (.inl rfl), h1, h2, h1a, by show (0 : Int) ≤ 0 ∧ (0 : Int) < P; omega, by show (0 : Int) ≤ 0 ∧ (0 : Int) < K; omega⟩, by show (2 : Int) ≠ 1; omega, .inl (by show a = i; omega), ⟨fun _ => hs, fun e => ?_, fun e => ?_⟩, fun e => ?_⟩
        · exact absurd (show (2 : Int) = 3 from e) (by omega)
        · exact absurd (show (2 : Int) = 4 from e) (by omega)
        · exact absurd (show (2 : Int) = 4 from e) (by omega)
    stat := fun u hu => ⟨fun e => hall _ ((h.stat u hu).1 e), fun e => hlk _ _ ((h.stat u hu).2 e)⟩
    pd := fun u hu => by
      obtain ⟨i, hi⟩ := h.pd u hu
      have : u ∈ s.at (i : Int) := by unfold Sm.at; simpa using hi
      exact ⟨_, hlk i u this⟩
    cl := fun p hp u hu => by
      have hr := mayB_iff.1 (h.rng p (pre_mem h.pre hp))
      have hu2 := hu
      rw [hat, at_look h.len h2 _ hr.1] at hu2
      have old : u ∈ s.at p.1 → (u ∈ pend ∧ p.2 = y) ∨ Closed K (includeM n P s hd a) hist u p.2 := fun h3 => (h.cl p hp u h3).imp id fun c => c.mono hall hlk
      split at hu2
      · rename_i e
        rw [List.mem_append, List.mem_singleton] at hu2
        rcases hu2 with hu2 | rfl
        · exact old (by rw [e]; exact hu2)
        · right
          refine ⟨fun _ => ?_, fun e => absurd (show (2 : Int) = 3 from e) (by omega), fun e => absurd (show (2 : Int) = 4 from e) (by omega)⟩
          refine (i3 _).2 (.inr ⟨p.2.toNat, mem_list.2 ⟨by omega, ?_⟩, ?_⟩)
          · have := pre_mem h.pre hp
            rw [Int.toNat_of_nonneg hr.2.2.1, ← e]
            exact this
          · rw [Int.toNat_of_nonneg hr.2.2.1]
            rfl
      · exact old hu2
    st := by
      show (includeM n P s hd a).steps + _ ≤ _
      have e1 : (includeM n P s hd a).steps = s.steps + (listL P s.all a).length := by unfold includeM; rw [i2]; rfl
      rw [e1]
      have := sum_le (fun p : Pr => 1 + ws P (s.at p.1)) (fun p : Pr => 1 + ws P ((includeM n P s hd a).at p.1)) hist (fun p hp => by
        have := mono1 p hp
        rw [← hat] at this
        omega)
      omega
    lk := by
      show ((includeM n P s hd a).look.map (ws P)).sum + _ ≤ _
      have e1 : (includeM n P s hd a).look = (lookM s a (inclU hd a)).look := by unfold includeM; rw [i1]
      rw [e1]
      have e2 := hsm (ws P)
      rw [ws_app, hwt] at e2
      have := sum_le (fun p : Pr => links (s.at p.1)) (fun p : Pr => links ((includeM n P s hd a).at p.1)) hist (fun p hp => by
        have := mono2 p hp
        rw [← hat] at this
        exact this)
      omega
    ll := by
      show ((includeM n P s hd a).look.map links).sum ≤ _
      have e1 : (includeM n P s hd a).look = (lookM s a (inclU hd a)).look := by unfold includeM; rw [i1]
      rw [e1]
      have e2 := hsm links
      rw [links_app, hlw] at e2
      have := h.ll
      omega
    lo := by
      show T.length ≤ (includeM n P s hd a).steps
      have e1 : (includeM n P s hd a).steps = s.steps + (listL P s.all a).length := by unfold includeM; rw [i2]; rfl
      have := h.lo
      omega }
theorem Inv.less {n P K : Nat} {L T : List Ru} {hist : List Pr} {u : Ru} {pend cp : List Ru} {y : Int} {s : Sm} (h : Inv n P K L T hist (u :: pend) cp y s) (hc : Closed K s hist u y) : Inv n P K L T hist pend cp y s :=
  { h with
    pd := fun v hv => h.pd v (by simp [hv])
    cl := fun p hp v hv => by
      rcases h.cl p hp v hv with ⟨h1, h2⟩ | h1
      · simp at h1
        rcases h1 with rfl | h1
        · exact .inr (by rw [h2]; exact hc)
        · exact .inl ⟨h1, h2⟩
      · exact .inr h1 }
theorem Inv.step {n P K : Nat} {L T : List Ru} {hist : List Pr} {u : Ru} {pend : List Ru} {c y : Int} {s : Sm} (hn : n = P * K) (h : Inv n P K L T hist (u :: pend) (u :: pend) y s) (hcur : (c, y) ∈ hist) (hu : u ∈ s.at c) : Inv n P K L T hist pend pend y (stepM n P K s y u) ∧ (∀ i, ∀ v ∈ s.at i, v ∈ (stepM n P K s y u).at i) := by
  obtain ⟨ok, k1, hab, hs, h4⟩ := h.lok _ u hu
  have hin : (c, y) ∈ s.all := pre_mem h.pre hcur
  have hr := mayB_iff.1 (h.rng _ hin)
  simp only at hr
  have hz : 0 < P ∧ 0 < K := by have := ok.v; have := ok.w; omega
  have hst := h.st
  have hlk := h.lk
  have ew : ws P (u :: pend) = wt P u + ws P pend := by unfold ws; simp
  have el : links (u :: pend) = lw u + links pend := by unfold links; simp
  rw [ew] at hst
  rw [el] at hlk
  have hc1 : (c.toNat : Int) = c := Int.toNat_of_nonneg hr.1
  rw [hc1] at hab
  have hwt : 1 ≤ wt P u := by unfold wt; split <;> omega
  have hT : Inv n P K L T hist (u :: pend) pend y (tick s) := { h with
    st := by show s.steps + 1 + _ ≤ _; exact Nat.le_trans (by omega) hst
    lk := by show (s.look.map (ws P)).sum + _ ≤ _; exact Nat.le_trans (by omega) hlk
    lo := by show T.length ≤ s.steps + 1; have := h.lo; omega }
  unfold stepM
  by_cases e2 : u.kind = 2
  · rw [if_pos e2]
    have ha : u.a = c := by rcases hab with h | ⟨h, _⟩ <;> omega
    have hm : mayB n P u.head y = true := mayB_iff.2 ⟨ok.h.1, ok.h.2, hr.2.2.1, hr.2.2.2⟩
    have := hT.put hm (hs.1 e2 y (by rw [ha]; exact h.snd _ hin))
    exact ⟨this.less ⟨fun _ => (mem_put hm _).2 (.inr rfl), fun e => by omega, fun e => by omega⟩, fun i v hv => hv⟩
  · rw [if_neg e2]
    by_cases e3 : u.kind = 3
    · rw [if_pos e3]
      have ha : u.a = c := by rcases hab with h | ⟨h, _⟩ <;> omega
      have hw3 : wt P u = 1 + P := by unfold wt; rw [if_pos e3]
      have hl3 : lw u = 1 := by unfold lw; rw [if_pos e3]
      have hof := of_range ⟨hr.2.2.1, hr.2.2.2⟩ ok.v
      rw [← hn] at hof
      obtain ⟨g1, g2, g3, g4⟩ := hT.include (hd := u.head) (a := y * K + u.via) ok.h hof hz hn
        (fun x hx => hs.2.1 e3 y x (by rw [ha]; exact h.snd _ hin) hx) (by show s.steps + 1 + P + _ ≤ _; exact Nat.le_trans (by omega) hst) (by show (s.look.map (ws P)).sum + 1 + _ ≤ _; exact Nat.le_trans (by omega) hlk)
      exact ⟨g1.less ⟨fun e => by omega, fun _ => ⟨_, g4, rfl, rfl, rfl⟩, fun e => by omega⟩, g3⟩
    · rw [if_neg e3]
      have e4 : u.kind = 4 := by have := ok.k; omega
      rw [if_pos e4]
      by_cases hb : (hasL s.all u.a y && hasL s.all u.b y) = true
      · rw [if_pos hb]
        rw [Bool.and_eq_true, hasL_iff, hasL_iff] at hb
        have hm : mayB n P u.head y = true := mayB_iff.2 ⟨ok.h.1, ok.h.2, hr.2.2.1, hr.2.2.2⟩
        have := hT.put hm (hs.2.2 e4 y (h.snd _ hb.1) (h.snd _ hb.2))
        exact ⟨this.less ⟨fun e => by omega, fun e => by omega, fun _ _ _ => (mem_put hm _).2 (.inr rfl)⟩, fun i v hv => hv⟩
      · rw [if_neg hb]
        refine ⟨hT.less ⟨fun e => by omega, fun e => by omega, fun _ h1 h2 => ?_⟩, fun i v hv => hv⟩
        exfalso
        apply hb
        rw [Bool.and_eq_true, hasL_iff, hasL_iff]
        exact ⟨pre_mem h.pre h1, pre_mem h.pre h2⟩
theorem Inv.follow {n P K : Nat} {L T : List Ru} {hist : List Pr} {c y : Int} (hn : n = P * K) (hcur : (c, y) ∈ hist) : ∀ (l : List Ru) (s : Sm), Inv n P K L T hist l l y s → (∀ u ∈ l, u ∈ s.at c) → Inv n P K L T hist [] [] y (followM n P K s y l)
  | [], s, h, _ => h
  | u :: l, s, h, hu => by
    obtain ⟨h1, h2⟩ := h.step hn hcur (hu u (by simp))
    exact Inv.follow hn hcur l _ h1 fun v hv => h2 _ _ (hu v (by simp [hv]))
theorem Inv.follow_part {n P K : Nat} {L T : List Ru} {hist : List Pr} {c y : Int} (hn : n = P * K) (hcur : (c, y) ∈ hist) : ∀ (l l' : List Ru) (s : Sm), Inv n P K L T hist (l ++ l') (l ++ l') y s → (∀ u ∈ l, u ∈ s.at c) → Inv n P K L T hist l' l' y (followM n P K s y l)
  | [], l', s, h, _ => h
  | u :: l, l', s, h, hu => by
    obtain ⟨h1, h2⟩ := h.step (pend := l ++ l') hn hcur (hu u (by simp))
    exact Inv.follow_part hn hcur l l' _ h1 fun v hv => h2 _ _ (hu v (by simp [hv]))
theorem Inv.pop {n P K : Nat} {L T : List Ru} {hist rest : List Pr} {cur : Pr} {y : Int} {s : Sm} (h : Inv n P K L T hist [] [] y s) (hq : s.all = hist ++ cur :: rest) : Inv n P K L T (hist ++ [cur]) (s.at cur.1) (s.at cur.1) cur.2 (tick s) :=
  { h with
    pre := by show hist ++ [cur] <+: s.all; rw [hq]; exact ⟨rest, by simp⟩
    pd := fun u hu => ⟨_, hu⟩
    cl := fun p hp u hu => by
      rw [List.mem_append, List.mem_singleton] at hp
      rcases hp with hp | rfl
      · rcases h.cl p hp u hu with ⟨h1, _⟩ | ⟨c1, c2, c3⟩
        · simp at h1
        · obtain ⟨ok, k1, hab, hs, h4⟩ := h.lok _ u hu
          by_cases e4 : u.kind = 4
          · by_cases hx : (u.a, p.2) = cur ∨ (u.b, p.2) = cur
            · left
              obtain ⟨i1, i2⟩ := h4 e4
              rcases hx with rfl | rfl
              · exact ⟨i1, rfl⟩
              · exact ⟨i2, rfl⟩
            · right
              refine ⟨c1, c2, fun e a b => ?_⟩
              rw [List.mem_append, List.mem_singleton] at a b
              rcases a with a | a
              · rcases b with b | b
                · exact c3 e a b
                · exact absurd (.inr b) hx
              · exact absurd (.inl a) hx
          · exact .inr ⟨c1, c2, fun e => absurd e e4⟩
      · exact .inl ⟨hu, rfl⟩
    st := by
      have := h.st
      have e0 : ws P [] = 0 := rfl
      rw [e0] at this
      show s.steps + 1 + _ ≤ T.length + ((hist ++ [cur]).map fun p => 1 + ws P (s.at p.1)).sum
      rw [List.map_append, List.sum_append]
      simp only [List.map_cons, List.map_nil, List.sum_cons, List.sum_nil]
      omega
    lk := by
      have := h.lk
      have e0 : links [] = 0 := rfl
      rw [e0] at this
      show (s.look.map (ws P)).sum + _ ≤ T.length * (2 + P) + ((hist ++ [cur]).map fun p => links (s.at p.1)).sum
      rw [List.map_append, List.sum_append]
      simp only [List.map_cons, List.map_nil, List.sum_cons, List.sum_nil]
      omega
    lo := by show T.length ≤ s.steps + 1; have := h.lo; omega }
theorem Inv.all {n P K : Nat} {L : List Ru} {hist : List Pr} {y : Int} {s : Sm} (h : Inv n P K L L hist [] [] y s) (hq : s.all = hist) (hok : ∀ u ∈ L, Ok n P K u) (r x : Int) : (r, x) ∈ s.all ↔ Der K L r x := by
  refine ⟨fun hm => h.snd _ hm, fun d => ?_⟩
  have cl : ∀ p ∈ s.all, ∀ u ∈ s.at p.1, Closed K s hist u p.2 := fun p hp u hu => by
    rcases h.cl p (hq ▸ hp) u hu with ⟨h1, _⟩ | h1
    · simp at h1
    · exact h1
  induction d with
  | mem u hu hk => exact (h.stat u hu).1 hk
  | incl u x hu hk _ ih => exact (cl _ ih u ((h.stat u hu).2 (by omega))).1 hk
  | link u x y hu hk _ _ i1 i2 =>
    obtain ⟨v, hv, k, e1, e2⟩ := (cl _ i1 u ((h.stat u hu).2 (by omega))).2.1 hk
    have := (cl _ i2 v hv).1 k
    rw [e1] at this
    exact this
  | both u x hu hk _ _ i1 i2 => exact (cl _ i1 u ((h.stat u hu).2 (by omega))).2.2 hk (hq ▸ i1) (hq ▸ i2)
def start (n : Nat) : Sm := ⟨[], List.replicate n [], 0⟩
theorem getD_rep (n i : Nat) : (List.replicate n ([] : List Ru)).getD i [] = [] := by
  rw [List.getD_eq_getElem?_getD, List.getElem?_replicate]
  split <;> rfl
theorem Inv.start (n P K : Nat) (L : List Ru) : Inv n P K L [] [] [] [] 0 (start n) where
  pre := List.prefix_refl _
  nd := List.nodup_nil
  rng := fun p hp => by cases hp
  snd := fun p hp => by cases hp
  len := by simp [SemA.start]
  lok := fun i u hu => by
    have : u ∈ (List.replicate n ([] : List Ru)).getD i [] := hu
    rw [getD_rep] at this
    cases this
  stat := fun u hu => by cases hu
  pd := fun u hu => by cases hu
  cl := fun p hp => by cases hp
  st := by simp [SemA.start, ws]
  lk := by
    have : ws P [] = 0 := rfl
    simp [SemA.start, links, this]
  ll := by
    have : links [] = 0 := rfl
    simp [SemA.start, this]
  lo := by simp [SemA.start]
theorem Inv.take {n P K : Nat} {L T : List Ru} {y : Int} {s : Sm} (h : Inv n P K L T [] [] [] y s) {u : Ru} (hu : u ∈ L) (ok : Ok n P K u) : Inv n P K L (T ++ [u]) [] [] [] y (takeM n P (tick s) u) := by
  have hst := h.st
  have hlk := h.lk
  have hll := h.ll
  have e0 : ws P [] = 0 := rfl
  have e1 : links [] = 0 := rfl
  simp only [List.map_nil, List.sum_nil, e0, e1] at hst hlk
  have hlen : (T ++ [u]).length = T.length + 1 := by simp
  have hmul : (T ++ [u]).length * (2 + P) = T.length * (2 + P) + (2 + P) := by rw [hlen, Nat.add_mul, Nat.one_mul]
  have hw : wt P u ≤ 1 + P := by unfold wt; split <;> omega
  have hlw : lw u ≤ 1 := by unfold lw; split <;> omega
  unfold takeM
  by_cases k1 : u.kind = 1
  · rw [if_pos k1]
    have hm : mayB n P u.head u.who = true := mayB_iff.2 ⟨ok.h.1, ok.h.2, ok.w.1, ok.w.2⟩
    have hp := put_pre n P s.all u.head u.who
    exact {
      pre := ⟨_, rfl⟩
      nd := put_nd h.nd
      rng := fun p h2 => by
        rcases (mem_put hm p).1 h2 with h3 | rfl
        · exact h.rng p h3
        · exact hm
      snd := fun p h2 => by
        rcases (mem_put hm p).1 h2 with h3 | rfl
        · exact h.snd p h3
        · exact .mem u hu k1
      len := h.len
      lok := h.lok
      stat := fun v hv => by
        rw [List.mem_append, List.mem_singleton] at hv
        rcases hv with hv | rfl
        · exact ⟨fun e => pre_mem hp ((h.stat v hv).1 e), (h.stat v hv).2⟩
        · exact ⟨fun _ => (mem_put hm _).2 (.inr rfl), fun e => absurd k1 e⟩
      pd := fun v hv => by cases hv
      cl := fun p hp => by cases hp
      st := by show s.steps + 1 + ws P [] ≤ _; rw [e0, hlen]; simp only [List.map_nil, List.sum_nil]; omega
      lk := by show (s.look.map (ws P)).sum + links [] ≤ _; rw [e1, hmul]; simp only [List.map_nil, List.sum_nil]; omega
      ll := by show (s.look.map links).sum ≤ _; rw [hlen]; omega
      lo := by show _ ≤ s.steps + 1; rw [hlen]; have := h.lo; omega }
  · rw [if_neg k1]
    have ha := ok.a
    have hb := ok.b
    have hs1 : ∀ g : List Ru → Nat, ((lookM (tick s) u.a u).look.map g).sum + g (s.at u.a) = (s.look.map g).sum + g (s.at u.a ++ [u]) := fun g => sum_modify g s.look u.a.toNat _ (by rw [h.len]; omega)
    have hl1 : (lookM (tick s) u.a u).look.length = n := by simp [lookM, tick, h.len]
    by_cases k4 : u.kind = 4 ∧ u.b ≠ u.a
    · rw [if_pos k4]
      have hs2 : ∀ g : List Ru → Nat, ((lookM (lookM (tick s) u.a u) u.b u).look.map g).sum + g ((lookM (tick s) u.a u).at u.b) = ((lookM (tick s) u.a u).look.map g).sum + g ((lookM (tick s) u.a u).at u.b ++ [u]) := fun g => sum_modify g (lookM (tick s) u.a u).look u.b.toNat _ (by rw [hl1]; omega)
      have hw4 : wt P u = 1 := by unfold wt; rw [if_neg (by omega)]
      have hl4 : lw u = 0 := by unfold lw; rw [if_neg (by omega)]
      have at1 : ∀ j : Int, ∀ v ∈ s.at j, v ∈ (lookM (lookM (tick s) u.a u) u.b u).at j := fun j v hv => at_look_mem (at_look_mem hv)
      have ia : u ∈ (lookM (lookM (tick s) u.a u) u.b u).at u.a := at_look_mem (by
        show u ∈ (lookM (tick s) u.a u).at u.a
        rw [at_look (s := tick s) h.len ha u ha.1, if_pos rfl]; simp)
      have ib : u ∈ (lookM (lookM (tick s) u.a u) u.b u).at u.b := by
        rw [at_look hl1 hb u hb.1, if_pos rfl]; simp
      exact {
        pre := ⟨_, rfl⟩
        nd := h.nd
        rng := h.rng
        snd := h.snd
        len := by simp [lookM, tick, h.len]
        lok := fun i v hv => by
          have : v ∈ s.look.getD i [] ∨ v = u ∧ (u.a.toNat = i ∨ u.b.toNat = i) := by
            rcases mem_look hv with hv | ⟨rfl, e⟩
            · rcases mem_look hv with hv | ⟨rfl, e⟩
              · exact .inl hv
              · exact .inr ⟨rfl, .inl e⟩
            · exact .inr ⟨rfl, .inr e⟩
          rcases this with hv | ⟨rfl, e⟩
          · obtain ⟨a1, a2, a3, a4, a5⟩ := h.lok i v hv
            exact ⟨a1, a2, a3, a4, fun e => ⟨at1 _ _ (a5 e).1, at1 _ _ (a5 e).2⟩⟩
          · refine ⟨ok, k1, ?_, sound_mem hu, fun _ => ⟨ia, ib⟩⟩
            rcases e with e | e
            · exact .inl (by omega)
            · exact .inr ⟨k4.1, by omega⟩
        stat := fun v hv => by
          rw [List.mem_append, List.mem_singleton] at hv
          rcases hv with hv | rfl
          · exact ⟨(h.stat v hv).1, fun e => at1 _ _ ((h.stat v hv).2 e)⟩
          · exact ⟨fun e => absurd e k1, fun _ => ia⟩
        pd := fun v hv => by cases hv
        cl := fun p hp => by cases hp
        st := by show s.steps + 1 + ws P [] ≤ _; rw [e0, hlen]; simp only [List.map_nil, List.sum_nil]; omega
        lk := by
          have a1 := hs1 (ws P)
          have a2 := hs2 (ws P)
          rw [ws_app, hw4] at a1 a2
          rw [e1, hmul]; simp only [List.map_nil, List.sum_nil]; omega
        ll := by
          have a1 := hs1 links
          have a2 := hs2 links
          rw [links_app, hl4] at a1 a2
          rw [hlen]; omega
        lo := by show _ ≤ s.steps + 1; rw [hlen]; have := h.lo; omega }
    · rw [if_neg k4]
      have at1 : ∀ j : Int, ∀ v ∈ s.at j, v ∈ (lookM (tick s) u.a u).at j := fun j v hv => at_look_mem hv
      have ia : u ∈ (lookM (tick s) u.a u).at u.a := by
        rw [at_look (s := tick s) h.len ha u ha.1, if_pos rfl]; simp
      exact {
        pre := ⟨_, rfl⟩
        nd := h.nd
        rng := h.rng
        snd := h.snd
        len := hl1
        lok := fun i v hv => by
          rcases mem_look hv with hv | ⟨rfl, e⟩
          · obtain ⟨a1, a2, a3, a4, a5⟩ := h.lok i v hv
            exact ⟨a1, a2, a3, a4, fun e => ⟨at1 _ _ (a5 e).1, at1 _ _ (a5 e).2⟩⟩
          · refine ⟨ok, k1, .inl (by omega), sound_mem hu, fun e4 => ⟨ia, ?_⟩⟩
            have : v.b = v.a := Classical.byContradiction fun hne => k4 ⟨e4, hne⟩
            rw [this]
            exact ia
        stat := fun v hv => by
          rw [List.mem_append, List.mem_singleton] at hv
          rcases hv with hv | rfl
          · exact ⟨(h.stat v hv).1, fun e => at1 _ _ ((h.stat v hv).2 e)⟩
          · exact ⟨fun e => absurd e k1, fun _ => ia⟩
        pd := fun v hv => by cases hv
        cl := fun p hp => by cases hp
        st := by show s.steps + 1 + ws P [] ≤ _; rw [e0, hlen]; simp only [List.map_nil, List.sum_nil]; omega
        lk := by
          have a1 := hs1 (ws P)
          rw [ws_app] at a1
          rw [e1, hmul]; simp only [List.map_nil, List.sum_nil]; omega
        ll := by
          have a1 := hs1 links
          rw [links_app] at a1
          rw [hlen]; omega
        lo := by show _ ≤ s.steps + 1; rw [hlen]; have := h.lo; omega }
def takesM (n P : Nat) (s : Sm) (l : List Ru) : Sm := l.foldl (fun s u => takeM n P (tick s) u) s
theorem Inv.takes {n P K : Nat} {L : List Ru} {y : Int} : ∀ (l T : List Ru) (s : Sm), Inv n P K L T [] [] [] y s → (∀ u ∈ l, u ∈ L ∧ Ok n P K u) → Inv n P K L (T ++ l) [] [] [] y (takesM n P s l)
  | [], T, s, h, _ => by rw [List.append_nil]; exact h
  | u :: l, T, s, h, hl => by
    have := Inv.takes l (T ++ [u]) _ (h.take (hl u (by simp)).1 (hl u (by simp)).2) fun v hv => hl v (by simp [hv])
    rw [List.append_assoc] at this
    exact this
theorem sum_sub {α : Type} [DecidableEq α] (f : α → Nat) : ∀ (l m : List α), l.Nodup → (∀ x ∈ l, x ∈ m) → (l.map f).sum ≤ (m.map f).sum
  | [], m, _, _ => by simp
  | x :: l, m, hn, hs => by
    have hx := hs x (by simp)
    rw [List.nodup_cons] at hn
    have := sum_sub f l (m.erase x) hn.2 fun y hy => by
      have hne : y ≠ x := fun e => hn.1 (e ▸ hy)
      exact (List.mem_erase_of_ne hne).2 (hs y (by simp [hy]))
    have hp := ((List.perm_cons_erase hx).map f).sum_nat
    rw [hp, List.map_cons, List.map_cons, List.sum_cons, List.sum_cons]
    omega
def grid (n P : Nat) : List Pr := (List.range n).flatMap fun r : Nat => (List.range P).map fun x : Nat => ((r : Int), (x : Int))
theorem mem_grid {n P : Nat} {p : Pr} (h : mayB n P p.1 p.2 = true) : p ∈ grid n P := by
  obtain ⟨a, b, c, d⟩ := mayB_iff.1 h
  unfold grid
  rw [List.mem_flatMap]
  refine ⟨p.1.toNat, List.mem_range.2 (by omega), List.mem_map.2 ⟨p.2.toNat, List.mem_range.2 (by omega), ?_⟩⟩
  obtain ⟨x, y⟩ := p
  simp only at a c
  rw [Int.toNat_of_nonneg a, Int.toNat_of_nonneg c]
theorem grid_sum (g : Nat → Nat) (P : Nat) : ∀ n, ((grid n P).map fun p => g p.1.toNat).sum = P * ((List.range n).map g).sum
  | 0 => by simp [grid]
  | n + 1 => by
    have ih := grid_sum g P n
    have e : grid (n + 1) P = grid n P ++ (List.range P).map fun x : Nat => ((n : Int), (x : Int)) := by unfold grid; rw [List.range_succ, List.flatMap_append]; simp
    rw [e, List.map_append, List.sum_append, ih, List.range_succ, List.map_append, List.sum_append, Nat.mul_add, List.map_map]
    congr 1
    have : ((fun p : Pr => g p.1.toNat) ∘ fun x : Nat => ((n : Int), (x : Int))) = fun _ => g n := by funext x; simp
    rw [this]
    have h2 : ∀ P, ((List.range P).map fun _ => g n).sum = P * g n := fun P => by
      induction P with
      | zero => simp
      | succ k ih => rw [List.range_succ, List.map_append, List.sum_append, ih, Nat.add_mul]; simp
    rw [h2]
    simp
theorem range_look (g : List Ru → Nat) : ∀ (l : List (List Ru)), ((List.range l.length).map fun i => g (l.getD i [])).sum = (l.map g).sum
  | [] => by simp
  | x :: l => by
    have := range_look g l
    rw [List.length_cons, List.range_succ_eq_map, List.map_cons, List.sum_cons, List.map_map]
    simp only [List.getD_cons_zero, List.map_cons, List.sum_cons]
    have e : ((fun i => g ((x :: l).getD i [])) ∘ Nat.succ) = fun i => g (l.getD i []) := by funext i; simp
    rw [e, this]
theorem hist_sum {n P K : Nat} {L T : List Ru} {hist : List Pr} {pend cp : List Ru} {y : Int} {s : Sm} (h : Inv n P K L T hist pend cp y s) (g : List Ru → Nat) : (hist.map fun p => g (s.at p.1)).sum ≤ P * (s.look.map g).sum := by
  have hnd : hist.Nodup := h.pre.sublist.nodup h.nd
  have h1 := sum_sub (fun p : Pr => g (s.at p.1)) hist (grid n P) hnd fun p hp => mem_grid (h.rng p (pre_mem h.pre hp))
  have h2 := grid_sum (fun i => g (s.look.getD i [])) P n
  have h3 := range_look g s.look
  rw [h.len] at h3
  rw [h3] at h2
  exact Nat.le_trans h1 (Nat.le_of_eq h2)
theorem grid_len (n P : Nat) : (grid n P).length = P * n := by
  have := grid_sum (fun _ => 1) P n
  have e1 : ∀ {α : Type} (l : List α), (l.map fun _ => 1).sum = l.length := fun l => by
    induction l with
    | nil => rfl
    | cons x l ih => simp only [List.map_cons, List.sum_cons, List.length_cons, ih]; omega
  rw [e1, e1, List.length_range] at this
  exact this
theorem all_len {n P K : Nat} {L T : List Ru} {hist : List Pr} {pend cp : List Ru} {y : Int} {s : Sm} (h : Inv n P K L T hist pend cp y s) : s.all.length ≤ P * n := by
  have h1 := sum_sub (fun _ : Pr => 1) s.all (grid n P) h.nd fun p hp => mem_grid (h.rng p hp)
  have e1 : ∀ {α : Type} (l : List α), (l.map fun _ => 1).sum = l.length := fun l => by
    induction l with
    | nil => rfl
    | cons x l ih => simp only [List.map_cons, List.sum_cons, List.length_cons, ih]; omega
  rw [e1, e1, grid_len] at h1
  exact h1
theorem Inv.bound {n P K : Nat} {L T : List Ru} {hist : List Pr} {pend cp : List Ru} {y : Int} {s : Sm} (hn : n = P * K) (h : Inv n P K L T hist pend cp y s) : s.steps ≤ T.length + P * (P * K + T.length * (2 + 2 * P)) := by
  have h1 := h.st
  have h2 := h.lk
  have h3 := h.ll
  have s1 : (hist.map fun p => 1 + ws P (s.at p.1)).sum ≤ P * (s.look.map fun l => 1 + ws P l).sum := hist_sum h (fun l => 1 + ws P l)
  have s2 := hist_sum h links
  have s3 : ∀ l : List (List Ru), (l.map fun l => 1 + ws P l).sum = l.length + (l.map (ws P)).sum := fun l => by
    induction l with
    | nil => rfl
    | cons x l ih => simp only [List.map_cons, List.sum_cons, List.length_cons, ih]; omega
  rw [s3, h.len] at s1
  have m1 : P * (s.look.map links).sum ≤ P * T.length := Nat.mul_le_mul_left _ h3
  have m2 : (s.look.map (ws P)).sum ≤ T.length * (2 + P) + P * T.length := by omega
  have m3 : T.length * (2 + 2 * P) = T.length * (2 + P) + P * T.length := by
    rw [Nat.mul_comm P T.length, ← Nat.mul_add]
    congr 1
    omega
  have m4 : P * (n + (s.look.map (ws P)).sum) ≤ P * (P * K + T.length * (2 + 2 * P)) := Nat.mul_le_mul_left _ (by rw [m3, hn]; omega)
  omega
theorem len_ws (P : Nat) (l : List Ru) : l.length ≤ ws P l := by
  induction l with
  | nil => simp [ws]
  | cons u l ih =>
    have : ws P (u :: l) = wt P u + ws P l := by unfold ws; simp
    rw [this, List.length_cons]
    have : 1 ≤ wt P u := by unfold wt; split <;> omega
    omega
theorem getD_sum (g : List Ru → Nat) (h0 : g [] = 0) : ∀ (l : List (List Ru)) (i : Nat), g (l.getD i []) ≤ (l.map g).sum
  | [], i => by simp [h0]
  | x :: l, 0 => by simp
  | x :: l, i + 1 => by
    have := getD_sum g h0 l i
    simp only [List.getD_cons_succ, List.map_cons, List.sum_cons]
    omega
theorem Inv.look_len {n P K : Nat} {L T : List Ru} {hist : List Pr} {pend cp : List Ru} {y : Int} {s : Sm} (h : Inv n P K L T hist pend cp y s) (i : Nat) : (s.look.getD i []).length ≤ T.length * (2 + 2 * P) := by
  have h2 := h.lk
  have h3 := h.ll
  have s2 := hist_sum h links
  have m1 : P * (s.look.map links).sum ≤ P * T.length := Nat.mul_le_mul_left _ h3
  have m3 : T.length * (2 + 2 * P) = T.length * (2 + P) + P * T.length := by
    rw [Nat.mul_comm P T.length, ← Nat.mul_add]
    congr 1
    omega
  have a1 := len_ws P (s.look.getD i [])
  have a2 := getD_sum (ws P) rfl s.look i
  omega
theorem bound_le (P K N : Nat) : N + P * (P * K + N * (2 + 2 * P)) ≤ 4 * (P + 1) * (P + 1) * (P + 1) * (K + 1) * (K + 1) * (N + 1) := by
  obtain ⟨A, hA⟩ : ∃ A, A = P + 1 := ⟨_, rfl⟩
  obtain ⟨B, hB⟩ : ∃ B, B = K + 1 := ⟨_, rfl⟩
  rw [← hA, ← hB]
  have b1 : 1 ≤ B * B := Nat.mul_pos (by omega) (by omega)
  have c1 : P * (P * K) ≤ A * A * A * (B * B) := by
    have : P * (P * K) = P * P * K := by rw [Nat.mul_assoc]
    rw [this]
    have h1 : P * P * K ≤ A * A * B := Nat.mul_le_mul (Nat.mul_le_mul (by omega) (by omega)) (by omega)
    have h2 : A * A * B ≤ A * A * A * (B * B) := Nat.mul_le_mul (Nat.le_mul_of_pos_right _ (by omega)) (Nat.le_mul_of_pos_right _ (by omega))
    omega
  have c2 : 1 + P * (2 + 2 * P) ≤ 4 * (A * A * A * (B * B)) := by
    have h1 : P * (2 + 2 * P) ≤ 2 * (A * A) := by
      have : 2 + 2 * P = 2 * A := by omega
      rw [this, Nat.mul_left_comm]
      exact Nat.mul_le_mul_left _ (Nat.mul_le_mul_right _ (by omega))
    have h2 : A * A ≤ A * A * A * (B * B) := Nat.le_trans (Nat.le_mul_of_pos_right _ (by omega)) (Nat.le_mul_of_pos_right _ b1)
    have h3 : 1 ≤ A * A := Nat.mul_pos (by omega) (by omega)
    omega
  have c3 : N * (1 + P * (2 + 2 * P)) ≤ N * (4 * (A * A * A * (B * B))) := Nat.mul_le_mul_left _ c2
  have e1 : N + P * (P * K + N * (2 + 2 * P)) = P * (P * K) + N * (1 + P * (2 + 2 * P)) := by
    have : P * (N * (2 + 2 * P)) = N * (P * (2 + 2 * P)) := Nat.mul_left_comm _ _ _
    rw [Nat.mul_add, this, Nat.mul_add N 1, Nat.mul_one]
    omega
  have e2 : 4 * A * A * A * B * B * (N + 1) = N * (4 * (A * A * A * (B * B))) + 4 * (A * A * A * (B * B)) := by
    rw [Nat.mul_add, Nat.mul_one, Nat.mul_comm _ N]
    simp only [Nat.mul_assoc]
  rw [e1, e2]
  omega
end Go.Proofs.YtblapgfilbmdhaaGreatDoor.SemA
namespace Go.Proofs.YtblapgfilbmdhaaGreatDoor.SetF
open Go.RowKit Go.Lib Go.Proofs SetPop SetA SetB SetC SetD SetE
def PrG (w : World) (A : Option Addr) (L : List (Int × Int)) : Prop :=
  0 < L.length → ∃ g o, A = some ⟨g, o, none⟩ ∧ g < w.heap.size ∧ ∀ j, (h : j < L.length) → w.cell? ⟨g, o + j * 2, none⟩ = some (.int .i64 L[j].1) ∧ w.cell? ⟨g, o + j * 2 + 1, none⟩ = some (.int .i64 L[j].2)
theorem PrG.below {w w' : World} {A : Option Addr} {L : List (Int × Int)} (h : PrG w A L) (hb : Below w.heap.size w w') : PrG w' A L := fun hp => by
  obtain ⟨g, o, hA, hg, hc⟩ := h hp
  refine ⟨g, o, hA, Nat.lt_of_lt_of_le hg hb.size, fun j hj => ?_⟩
  obtain ⟨a, b⟩ := hc j hj
  exact ⟨(hb.cell (p := ⟨g, o + j * 2, none⟩) hg).trans a, (hb.cell (p := ⟨g, o + j * 2 + 1, none⟩) hg).trans b⟩
theorem PrG.take {w : World} {A : Option Addr} {L : List (Int × Int)} (h : PrG w A L) (m : Nat) : PrG w A (L.take m) := fun hp => by
  obtain ⟨g, o, hA, hg, hc⟩ := h (by simp at hp; omega)
  refine ⟨g, o, hA, hg, fun j hj => ?_⟩
  rw [List.getElem_take]
  exact hc j (by simp at hj; omega)
end Go.Proofs.YtblapgfilbmdhaaGreatDoor.SetF
namespace Go.Proofs.YtblapgfilbmdhaaGreatDoor.SetQ
open Go.RowKit Go.Lib Go.Proofs SetPop SetA SetB SetF SetN
def encP : List (Int × Int) → List Value
  | [] => []
  | p :: l => .int .i64 p.1 :: .int .i64 p.2 :: encP l
theorem encP_len : ∀ l, (encP l).length = l.length * 2
  | [] => rfl
  | p :: l => by simp [encP, encP_len l]; omega
theorem encP_app : ∀ l k, encP (l ++ k) = encP l ++ encP k
  | [], _ => rfl
  | p :: l, k => by simp [encP, encP_app l k]
theorem encP_at : ∀ (l : List (Int × Int)) (j : Nat) (h : j < l.length), (encP l)[j * 2]? = some (.int .i64 l[j].1) ∧ (encP l)[j * 2 + 1]? = some (.int .i64 l[j].2)
  | [], _, h => absurd h (Nat.not_lt_zero _)
  | p :: l, 0, _ => ⟨rfl, rfl⟩
  | p :: l, j + 1, h => by
    have := encP_at l j (by simpa using h)
    have e : (j + 1) * 2 = j * 2 + 1 + 1 := by omega
    rw [e]
    simpa [encP] using this
end Go.Proofs.YtblapgfilbmdhaaGreatDoor.SetQ
namespace Go.Proofs.YtblapgfilbmdhaaGreatDoor.SetJ
open Go.RowKit Go.Lib Go.Proofs SetPop SetA SetB SetC SetD SetM
def encK (l : List Nat) : List Value := l.map fun n : Nat => Value.int .i64 n
theorem encK_snoc (l : List Nat) (n : Nat) : encK (l ++ [n]) = encK l ++ [.int .i64 n] := by unfold encK; simp
def Tab (w : World) : Prop := ∀ j, j < 64 → w.cell? ⟨0, j, none⟩ = some (.int .u8 (deBruijn64tab.getD j 0 : Nat))
theorem Tab.below {w w' : World} (h : Tab w) (hb : Below w.heap.size w w') : Tab w' := fun j hj =>
  (hb.cell (World.block_lt_of_cell? _ _ (h j hj))).trans (h j hj)
set_option maxRecDepth 100000 in
theorem tz_core (x k idx : Nat) (w : World) (hx0 : ((x : Int) == 0) = false)
    (key : IntKind.u64.wrap (bits BinOp.and IntKind.u64 (x : Int) (IntKind.u64.wrap (-(x : Int))) * 285870213051353865) / 288230376151711744 = (idx : Int))
    (hi : idx < 64) (hk : k < 64) (hcell : w.cell? ⟨0, idx, none⟩ = some (.int .u8 k)) :
    Calls Tryz.prog 140 #[.int .u64 x] w fun e w' => e = .returned (.int .i64 k) ∧ w = w' := by
  go_enter Tryz.func140, Tryz.ntmps140
  go_wp2_with (simp only [key])
  go_ret
  exact ⟨rfl, rfl⟩
theorem tz (x : Nat) (h0 : x ≠ 0) (h : x < 18446744073709551616) (w : World) (hT : Tab w) : Calls Tryz.prog 140 #[.int .u64 x] w fun e w' => e = .returned (.int .i64 (ctz 64 x)) ∧ w = w' := by
  obtain ⟨hlow, hk⟩ := lowest_bit 64 x h0 h
  obtain ⟨hi, htab⟩ := deBruijn64_at _ hk
  have hcell := hT _ hi
  rw [htab] at hcell
  exact tz_core x _ _ w (by simp; omega) (tz64_key x _ h h0 hlow) hi hk hcell
theorem infoInt : (Tryz.prog.info? 3).map (fun i => (i.zero, i.size, i.bytes)) = some (some (.int .i64 0), 1, 8) := by kernel_rfl
theorem new_cell1 (w : World) (a : Value) (t : TypeId) : ∀ j u, [a][j]? = some u → (w.alloc (.cells #[a] t)).cell? ((⟨w.heap.size, 0, none⟩ : Addr).add j) = some u := by
  intro j u hu
  have h : (w.alloc (.cells #[a] t)).cell? ⟨w.heap.size, j, none⟩ = #[a][j]? := Lib.cell_of_heap (heap_alloc_new w _) j
  have e : ((⟨w.heap.size, 0, none⟩ : Addr).add j) = ⟨w.heap.size, j, none⟩ := by
    unfold Addr.add
    split
    · rename_i h0; rw [h0]
    · simp
  rw [e, h, ← hu]
  simp
theorem below_own {a w w1 : World} {e : TypeId} {size n : Nat} {v : Value} {xs : List Value} {o : Obj} (hb : Below a.heap.size a w) (hown : w.ownsRow a.heap.size e size v n xs) (hg : (w.alloc o).grownBy w1 v.ownBlock) : Below a.heap.size a w1 :=
  (hb.alloc hb.size o).grown hg (by have := hb.size; simp; omega) (fun k hk => (hown.lt k hk).1)
theorem and_key (x : Nat) (h0 : x ≠ 0) (h : x < 18446744073709551616) : bits BinOp.and IntKind.u64 (x : Int) ((x : Int) - 1) = ((x &&& (x - 1) : Nat) : Int) := by
  have e1 : ((x : Int) - 1) = ((x - 1 : Nat) : Int) := by omega
  rw [e1]
  exact bits_and_u64_nat x (x - 1) h (by omega)
def ListPost (L : List Nat) (w : World) (e : Ending) (w' : World) : Prop := ∃ v, e = .returned v ∧ w'.ownsRow w.heap.size 3 1 v L.length (encK L) ∧ Below w.heap.size w w'
theorem nums_le {T L R : List Nat} {k : Nat} (h : L ++ R = numsOf T k) : L.length + R.length ≤ k * 64 := by
  have e : (numsOf T k).length ≤ k * 64 := by
    rw [numsOf_eq]
    refine Nat.le_trans (List.length_filter_le _ _) ?_
    simp
  rw [← h, List.length_append] at e
  exact e
set_option maxHeartbeats 1000000 in
set_option maxRecDepth 100000 in
theorem list_at (v : Value) (T : List Nat) (r : Int) (w : World) (hl : T.length = 16) (hs : ∀ x ∈ T, x < 18446744073709551616) (hT : Tab w) (ha : Calls Tryz.prog 139 #[v, .int .i64 r] w fun e w' => e = .returned (.agg (encM T)) ∧ Below w.heap.size w w') : Calls Tryz.prog 101 #[v, .int .i64 r] w (ListPost (numsOf T 16) w) := by
  have HA := Lib.hid ha
  clear ha
  have HI := Lib.hid (fun k hk w => idx T k hl hk w)
  have HS := Lib.hid (fun k (hk : k < 16) => (show T.getD k 0 < 18446744073709551616 from by
    rw [List.getD_eq_getElem?_getD, List.getElem?_eq_getElem (by omega)]
    exact hs _ (List.getElem_mem _)))
  have HN := Lib.hid (numsOf_succ T)
  have HT := Lib.hid (fun (wr : World) (hb : Below w.heap.size w wr) => hT.below hb)
  have HLE := Lib.hid (fun k (L R : List Nat) (h : L ++ R = numsOf T k) => nums_le h)
  have H0 : Hid (numsOf T 0 = []) := Lib.hid rfl
  have HTZ := Lib.hid tz
  have HLW := Lib.hid low
  clear hs hl hT
  obtain ⟨i0, hi, hz0, hz1, hz2⟩ := info_parts infoInt
  go_enter Tryz.func101, Tryz.ntmps101
  go_wp2_with fail
  refine HA.out.mono ?_
  rintro e w1 ⟨rfl, hb⟩
  have HB := Lib.hid hb
  clear hb
  go_wp2_with fail
  generalize encM T = E at *
  generalize hF : numsOf T = F at *
  go_loopw [5, 11] (fun l i wr => ∃ (k : Nat) (L : List Nat), k ≤ 16 ∧ i = .int .i64 k ∧ Hid (L = F k) ∧ wr.ownsRow w.heap.size 3 1 l L.length (encK L) ∧ Below w.heap.size w wr) (fun _ i _ => 16 - (intOf i).toNat)
  case atStart => exact ⟨0, [], by omega, rfl, Lib.hid H0.out.symm, World.ownsRow_nil _ _ _ _, HB.out⟩
  case round =>
    obtain ⟨k, L, hk, rfl, hLF, hown, hbel⟩ := hrel
    by_cases hlt : k < 16
    · have hi1 := HI.out k hlt
      have d1 : decide ((k : Int) < 16) = true := by simp; omega
      have hx := HS.out k hlt
      have hN := HN.out k
      generalize T.getD k 0 = x0 at *
      have HX := Lib.hid (And.intro hLF.out hN)
      have HO := Lib.hid hown
      have HB1 := Lib.hid hbel
      clear hLF hN hown hbel
      go_wp2_with fail
      go_loopw [5, 7] (fun l y wr => ∃ (L : List Nat) (x : Nat), y = .int .u64 x ∧ x < 18446744073709551616 ∧ Hid (L ++ (bitsOf x).map (k * 64 + ·) = F (k + 1)) ∧ wr.ownsRow w.heap.size 3 1 l L.length (encK L) ∧ Below w.heap.size w wr) (fun _ y _ => (intOf y).toNat)
      case atStart => exact ⟨L, x0, rfl, hx, Lib.hid (by rw [HX.out.2, HX.out.1]), HO.out, HB1.out⟩
      case round =>
        clear HO HB1 HX
        obtain ⟨L1, x, rfl, hx1, hLF, hown, hbel⟩ := hrel
        by_cases hx0 : x = 0
        · subst hx0
          have hF1 : Hid (L1 = F (k + 1)) := Lib.hid (by rw [← hLF.out, bitsOf_zero]; simp)
          clear hLF
          have HO := Lib.hid hown
          have HB1 := Lib.hid hbel
          clear hown hbel
          go_wp2_with fail
          go_roundw
          case rel => exact ⟨k + 1, L1, by omega, by go_num, hF1, HO.out, HB1.out⟩
          case measure => simp [intOf]; omega
        · have HZ := Lib.hid (HTZ.out x hx0 hx1 _ (HT.out _ hbel))
          obtain ⟨hj, _, _, _⟩ := HLW.out x hx0 hx1
          have hkey := and_key x hx0 hx1
          have hst := bitsOf_step x hx0 hx1
          have hlt2 := and_less x hx0
          have hle : Hid (L1.length + (bitsOf x).length ≤ (k + 1) * 64) := Lib.hid (by have := HLE.out (k + 1) L1 _ hLF.out; simpa using this)
          have hln : L1.length ≤ 1024 := by have := hle.out; omega
          have hn0 : ((x : Int) != 0) = true := by simp; omega
          rw [hst] at hLF
          have HLF := Lib.hid hLF.out
          have HLT := Lib.hid (And.intro hlt2 (and_small x hx1))
          clear hLF hst hle hlt2
          generalize ctz 64 x = j at *
          generalize hy : (x &&& (x - 1)) = y at *
          clear hy
          go_wp2_with (first | ((with_reducible refine HZ.out.mono ?_); rintro e w' ⟨rfl, rfl⟩) | (at_builtin; refine wpList_append_own _ rfl _ _ 81 rfl w.heap.size 3 i0 (.int .i64 0) 1 8 Tryz.underlying81 hi hz0 hz1 hz2 rfl (by decide) _ _ _ rfl (hown.alloc _) ⟨wr.heap.size, 0, none⟩ 1 1 [.int .i64 ((k : Int) * 64 + (j : Int))] rfl rfl ?c1 ?c2 ?c3 ?c4 ?c5 ?_) | (simp only [hkey]))
          case c1 => exact new_cell1 _ _ _
          case c2 => intro u hu; simp at hu; subst hu; rfl
          case c3 => unfold maxLen; omega
          case c4 => omega
          case c5 => have := hbel.size; simp; omega
          intro v' w2 hown' hgrow _
          have hown2 : w2.ownsRow w.heap.size 3 1 v' (L1 ++ [k * 64 + j]).length (encK (L1 ++ [k * 64 + j])) := by
            rw [encK_snoc, List.length_append]
            have e1 : (((k * 64 + j : Nat)) : Int) = (k : Int) * 64 + j := by simp
            rw [e1]
            simpa using hown'
          have hbel2 := below_own hbel hown hgrow
          clear hown' hown hbel hgrow HZ
          go_wp2_with fail
          try rw [hkey]
          go_roundw
          case rel => exact ⟨L1 ++ [k * 64 + j], y, rfl, HLT.out.2, Lib.hid (by rw [← HLF.out]; simp), hown2, hbel2⟩
          case measure => have := HLT.out.1; simp [intOf]; omega
    · have hk16 : k = 16 := by omega
      subst hk16
      have hL : L = F 16 := hLF.out
      subst hL
      have HO := Lib.hid hown
      have HB1 := Lib.hid hbel
      clear hown hbel hLF
      go_wp2_with fail
      go_ret
      exact ⟨_, rfl, HO.out, HB1.out⟩
end Go.Proofs.YtblapgfilbmdhaaGreatDoor.SetJ
namespace Go.Proofs.YtblapgfilbmdhaaGreatDoor.SetR
open Go.RowKit Go.Lib Go.Proofs SetPop SetA SetB SetF SetJ SetN SetQ
def NG (w : World) (A : Option Addr) (L : List Nat) : Prop :=
  0 < L.length → ∃ g o, A = some ⟨g, o, none⟩ ∧ g < w.heap.size ∧ ∀ j, (h : j < L.length) → w.cell? ⟨g, o + j, none⟩ = some (.int .i64 L[j])
theorem NG.below {w w' : World} {A : Option Addr} {L : List Nat} (h : NG w A L) (hb : Below w.heap.size w w') : NG w' A L := fun hp => by
  obtain ⟨g, o, hA, hg, hc⟩ := h hp
  exact ⟨g, o, hA, Nat.lt_of_lt_of_le hg hb.size, fun j hj => (hb.cell (p := ⟨g, o + j, none⟩) hg).trans (hc j hj)⟩
theorem ng_own {w : World} {B : Nat} {v : Value} {L : List Nat} {t : TypeId} (h : w.ownsRow B t 1 v L.length (encK L)) : ∃ A ca, v = .slice A L.length ca ∧ NG w A L := by
  have h0 := h
  rcases h.2 with ⟨rfl, hn⟩ | ⟨g, cap, cur, rfl, hb, hg, _⟩
  · exact ⟨none, 0, by rw [hn], fun hp => by omega⟩
  · refine ⟨_, cap, rfl, fun hp => ⟨g, 0, rfl, (Array.getElem?_eq_some_iff.1 hg).1, fun j hj => ?_⟩⟩
    have k := h0.cells (g := g) rfl j (.int .i64 L[j]) (by unfold encK; simp [List.getElem?_eq_getElem hj])
    have e : ((⟨g, 0, none⟩ : Addr).add j) = ⟨g, j, none⟩ := by unfold Addr.add; split <;> simp_all
    rw [e] at k
    rw [Nat.zero_add]
    exact k
def Moves (w : World) (b b' : Option Nat) : Prop := b' = b ∨ ∃ g, b' = some g ∧ w.heap.size ≤ g
section
variable {P : Program} (w : World)
end
end Go.Proofs.YtblapgfilbmdhaaGreatDoor.SetR
namespace Go.Proofs.YtblapgfilbmdhaaGreatDoor.SemB
open Go.RowKit Go.Lib Go.Proofs SetA SetB SetJ SetN SetQ SetR TblC TblV SemA
def Qu (w : World) (base : Nat) (v : Value) (L : List Pr) : Prop :=
  (v = .slice none 0 0 ∧ L = []) ∨ ∃ g o cap cur, v = .slice (some ⟨g, o, none⟩) L.length cap ∧ base ≤ g ∧ w.heap[g]? = some (.cells cur 153 (0, 0)) ∧ L.length ≤ cap ∧ cap ≤ maxLen ∧ o + cap * 2 ≤ cur.size ∧ ∀ j, (h : j < L.length) → cur[o + j * 2]? = some (.int .i64 L[j].1) ∧ cur[o + j * 2 + 1]? = some (.int .i64 L[j].2)
theorem Qu.keep {w w' : World} {base : Nat} {v : Value} {L : List Pr} (h : Qu w base v L) (hk : ∀ g, v.ownBlock = some g → w'.heap[g]? = w.heap[g]?) : Qu w' base v L := by
  rcases h with h | ⟨g, o, cap, cur, rfl, hb, hg, r⟩
  · exact .inl h
  · exact .inr ⟨g, o, cap, cur, rfl, hb, (hk g rfl).trans hg, r⟩
theorem Qu.blk {w : World} {base : Nat} {v : Value} {L : List Pr} (h : Qu w base v L) {g : Nat} (hg : v.ownBlock = some g) : base ≤ g ∧ ∃ cur, w.heap[g]? = some (.cells cur 153 (0, 0)) := by
  rcases h with ⟨rfl, _⟩ | ⟨g', o, cap, cur, rfl, hb, hh, r⟩
  · simp [Value.ownBlock] at hg
  · simp [Value.ownBlock] at hg
    subst hg
    exact ⟨hb, cur, hh⟩
theorem lt_of {w : World} {g : Nat} {o : Obj} (h : w.heap[g]? = some o) : g < w.heap.size := (Array.getElem?_eq_some_iff.1 h).1
theorem ne_of_type {w : World} {a b : Nat} {x y : Array Value} {t t' : TypeId} {f f' : Nat × Nat} (h : w.heap[a]? = some (.cells x t f)) (h' : w.heap[b]? = some (.cells y t' f')) (hne : t ≠ t') : a ≠ b := by
  rintro rfl
  rw [h] at h'
  injection h' with h'
  injection h' with _ h2
  exact hne h2
theorem own_blk {w : World} {B : Nat} {e : TypeId} {size n : Nat} {v : Value} {xs : List Value} (h : w.ownsRow B e size v n xs) {g : Nat} (hg : v.ownBlock = some g) : B ≤ g ∧ ∃ cur, w.heap[g]? = some (.cells cur e (0, 0)) := by
  rcases h.2 with ⟨rfl, _⟩ | ⟨g', cap, cur, rfl, hB, hh, _⟩
  · simp [Value.ownBlock] at hg
  · simp [Value.ownBlock] at hg
    subst hg
    exact ⟨hB, cur, hh⟩
theorem own_keep {w w' : World} {B : Nat} {e : TypeId} {size n : Nat} {v : Value} {xs : List Value} (h : w.ownsRow B e size v n xs) (hk : ∀ g, v.ownBlock = some g → w'.heap[g]? = w.heap[g]?) : w'.ownsRow B e size v n xs := by
  refine ⟨h.1, ?_⟩
  rcases h.2 with h0 | ⟨g, cap, cur, rfl, hB, hh, hc⟩
  · exact .inl h0
  · exact .inr ⟨g, cap, cur, rfl, hB, (hk g rfl).trans hh, hc⟩
structure Ad where
  wk : Nat
  mo : Nat
  B : Nat
  R : Nat
  Lb : Nat
  n : Nat
  c : Nat
  K : Nat
structure Wk (W w : World) (a : Ad) (M : List Nat) (s : Sm) (q : List Pr) (qv : Value) (vs : List Value) : Prop where
  bel : Below W.heap.size W w
  fam : Fam w a.B a.R a.n a.c M
  inv : SetN.Inv a.n a.c M s.all
  mb : w.heap[a.mo]? = some (.cells #[.pointer (some ⟨a.B, 0, none⟩), .int .i64 a.K, .int .i64 s.steps] 121 (0, 0))
  wb : w.heap[a.wk]? = some (.cells #[.pointer (some ⟨a.mo, 0, none⟩), .slice (some ⟨a.Lb, 0, none⟩) a.n a.n, qv] 147 (0, 0))
  lb : w.heap[a.Lb]? = some (.cells vs.toArray 117 (0, 0))
  qu : Qu w W.heap.size qv q
  lv : vs.length = a.n
  ll : s.look.length = a.n
  rows : ∀ (i : Nat) (v : Value), vs[i]? = some v → w.ownsRow W.heap.size 150 6 v (s.look.getD i []).length (cellsR (s.look.getD i []))
  apart : ∀ (i j : Nat) (v u : Value), vs[i]? = some v → vs[j]? = some u → i ≠ j → ∀ g, v.ownBlock = some g → u.ownBlock ≠ some g
  up : W.heap.size ≤ a.R ∧ W.heap.size ≤ a.mo ∧ W.heap.size ≤ a.wk ∧ W.heap.size ≤ a.Lb ∧ W.heap.size ≤ a.B
variable {W w : World} {a : Ad} {M : List Nat} {s : Sm} {q : List Pr} {qv : Value} {vs : List Value}
theorem Wk.below {w' : World} (h : Wk W w a M s q qv vs) (hb : Below w.heap.size w w') : Wk W w' a M s q qv vs where
  bel := h.bel.trans (hb.mono h.bel.size)
  fam := h.fam.below hb
  inv := h.inv
  mb := (hb.block _ (lt_of h.mb)).trans h.mb
  wb := (hb.block _ (lt_of h.wb)).trans h.wb
  lb := (hb.block _ (lt_of h.lb)).trans h.lb
  qu := h.qu.keep fun g hg => hb.block _ (lt_of (h.qu.blk hg).2.choose_spec)
  lv := h.lv
  ll := h.ll
  rows := fun i v hv => own_keep (h.rows i v hv) fun g hg => hb.block _ (lt_of (own_blk (h.rows i v hv) hg).2.choose_spec)
  apart := h.apart
  up := h.up
theorem Wk.add {w' : World} {M' : List Nat} {s' : Sm} (h : Wk W w a M s q qv vs) (hf : Fam w' a.B a.R a.n a.c M') (hi : SetN.Inv a.n a.c M' s'.all) (hl : s'.look = s.look) (hs : s'.steps = s.steps) (hg : w.grownBy w' (some a.R)) : Wk W w' a M' s' q qv vs := by
  obtain ⟨Z, hr⟩ := h.fam.rb
  obtain ⟨cp, hb⟩ := h.fam.fb
  have hk : ∀ {g : Nat} {x : Array Value} {t : TypeId} {f : Nat × Nat}, w.heap[g]? = some (.cells x t f) → 159 ≠ t → w'.heap[g]? = w.heap[g]? := fun {g x t f} hx hne =>
    hg.block g (lt_of hx) (by have := ne_of_type hr hx hne; simp; omega)
  exact {
    bel := h.bel.grown hg h.bel.size (fun k hk => by simp at hk; have := h.up; omega)
    fam := hf
    inv := hi
    mb := by rw [hs]; exact (hk h.mb (by show (_ : Nat) ≠ _; decide)).trans h.mb
    wb := (hk h.wb (by show (_ : Nat) ≠ _; decide)).trans h.wb
    lb := (hk h.lb (by show (_ : Nat) ≠ _; decide)).trans h.lb
    qu := h.qu.keep fun g hg => hk (h.qu.blk hg).2.choose_spec (by show (_ : Nat) ≠ _; decide)
    lv := h.lv
    ll := by rw [hl]; exact h.ll
    rows := fun i v hv => by rw [hl]; exact own_keep (h.rows i v hv) fun g hg => hk (own_blk (h.rows i v hv) hg).2.choose_spec (by show (_ : Nat) ≠ _; decide)
    apart := h.apart
    up := h.up }
theorem set_other (w : World) (b i : Nat) (v : Value) {g : Nat} (h : g ≠ b) : (w.setCell ⟨b, i, none⟩ v).heap[g]? = w.heap[g]? := Below.heap_setCell _ _ _ _ (fun e => h (by rw [e]))
theorem set_bel {B : Nat} (h : Below B W w) {b i : Nat} {v : Value} (hb : B ≤ b) : Below B W (w.setCell ⟨b, i, none⟩ v) := h.setCell hb v
theorem Wk.tick (h : Wk W w a M s q qv vs) : Wk W (w.setCell ⟨a.mo, 2, none⟩ (.int .i64 ((s.steps : Int) + 1))) a M (SemA.tick s) q qv vs := by
  have hk : ∀ {g : Nat} {x : Array Value} {t : TypeId} {f : Nat × Nat}, w.heap[g]? = some (.cells x t f) → 121 ≠ t → (w.setCell ⟨a.mo, 2, none⟩ (.int .i64 ((s.steps : Int) + 1))).heap[g]? = w.heap[g]? := fun {g x t f} hx hne =>
    set_other w _ _ _ (by have := ne_of_type h.mb hx hne; omega)
  obtain ⟨Z, hr⟩ := h.fam.rb
  obtain ⟨cp, hb⟩ := h.fam.fb
  exact {
    bel := set_bel h.bel h.up.2.1
    fam := h.fam.keep (hk hb (by show (_ : Nat) ≠ _; decide)) (hk hr (by show (_ : Nat) ≠ _; decide))
    inv := h.inv
    mb := by rw [heap_setCell_same _ _ _ _ _ _ h.mb]; rfl
    wb := (hk h.wb (by show (_ : Nat) ≠ _; decide)).trans h.wb
    lb := (hk h.lb (by show (_ : Nat) ≠ _; decide)).trans h.lb
    qu := h.qu.keep fun g hg => hk (h.qu.blk hg).2.choose_spec (by show (_ : Nat) ≠ _; decide)
    lv := h.lv
    ll := h.ll
    rows := fun i v hv => own_keep (h.rows i v hv) fun g hg => hk (own_blk (h.rows i v hv) hg).2.choose_spec (by show (_ : Nat) ≠ _; decide)
    apart := h.apart
    up := h.up }
theorem Wk.queue {w' : World} {q' : List Pr} {qv' : Value} (h : Wk W w a M s q qv vs) (hg : w.grownBy w' qv.ownBlock) (hq : Qu w' W.heap.size qv' q') : Wk W (w'.setCell ⟨a.wk, 2, none⟩ qv') a M s q' qv' vs := by
  have hk0 : ∀ {g : Nat} {x : Array Value} {t : TypeId} {f : Nat × Nat}, w.heap[g]? = some (.cells x t f) → 153 ≠ t → w'.heap[g]? = w.heap[g]? := fun {g x t f} hx hne =>
    hg.block g (lt_of hx) (fun e => by
      obtain ⟨_, cur, hc⟩ := h.qu.blk e.symm
      exact ne_of_type hc hx hne rfl)
  have hk : ∀ {g : Nat} {x : Array Value} {t : TypeId} {f : Nat × Nat}, w.heap[g]? = some (.cells x t f) → 153 ≠ t → 147 ≠ t → (w'.setCell ⟨a.wk, 2, none⟩ qv').heap[g]? = w.heap[g]? := fun {g x t f} hx hne hne2 =>
    (set_other w' _ _ _ (by have := ne_of_type h.wb hx hne2; omega)).trans (hk0 hx hne)
  have hw := (hk0 h.wb (by show (_ : Nat) ≠ _; decide)).trans h.wb
  obtain ⟨Z, hr⟩ := h.fam.rb
  obtain ⟨cp, hb⟩ := h.fam.fb
  exact {
    bel := set_bel (h.bel.grown hg h.bel.size (fun k hk => (h.qu.blk hk).1)) h.up.2.2.1
    fam := h.fam.keep (hk hb (by show (_ : Nat) ≠ _; decide) (by show (_ : Nat) ≠ _; decide)) (hk hr (by show (_ : Nat) ≠ _; decide) (by show (_ : Nat) ≠ _; decide))
    inv := h.inv
    mb := (hk h.mb (by show (_ : Nat) ≠ _; decide) (by show (_ : Nat) ≠ _; decide)).trans h.mb
    wb := by rw [heap_setCell_same _ _ _ _ _ _ hw]; rfl
    lb := (hk h.lb (by show (_ : Nat) ≠ _; decide) (by show (_ : Nat) ≠ _; decide)).trans h.lb
    qu := hq.keep fun g hg => set_other w' _ _ _ (by
      obtain ⟨_, cur, hc⟩ := hq.blk hg
      exact (ne_of_type hc hw (by show (_ : Nat) ≠ _; decide)))
    lv := h.lv
    ll := h.ll
    rows := fun i v hv => own_keep (h.rows i v hv) fun g hg => hk (own_blk (h.rows i v hv) hg).2.choose_spec (by show (_ : Nat) ≠ _; decide) (by show (_ : Nat) ≠ _; decide)
    apart := h.apart
    up := h.up }
theorem Wk.look {w' : World} {i : Nat} {v v' : Value} {u : Ru} (h : Wk W w a M s q qv vs) (hi : i < a.n) (hv : vs[i]? = some v) (hg : w.grownBy w' v.ownBlock) (hm : Moves w v.ownBlock v'.ownBlock)
    (ho : w'.ownsRow W.heap.size 150 6 v' ((s.look.getD i []).length + 1) (cellsR (s.look.getD i []) ++ u.cells.toList)) : Wk W (w'.setCell ⟨a.Lb, i, none⟩ v') a M (lookM s i u) q qv (vs.set i v') := by
  have hrow := h.rows i v hv
  have hk0 : ∀ {g : Nat} {x : Array Value} {t : TypeId} {f : Nat × Nat}, w.heap[g]? = some (.cells x t f) → 150 ≠ t → w'.heap[g]? = w.heap[g]? := fun {g x t f} hx hne =>
    hg.block g (lt_of hx) (fun e => by
      obtain ⟨_, cur, hc⟩ := own_blk hrow e.symm
      exact ne_of_type hc hx hne rfl)
  have hk : ∀ {g : Nat} {x : Array Value} {t : TypeId} {f : Nat × Nat}, w.heap[g]? = some (.cells x t f) → 150 ≠ t → 117 ≠ t → (w'.setCell ⟨a.Lb, i, none⟩ v').heap[g]? = w.heap[g]? := fun {g x t f} hx hne hne2 =>
    (set_other w' _ _ _ (by have := ne_of_type h.lb hx hne2; omega)).trans (hk0 hx hne)
  have hw := (hk0 h.lb (by show (_ : Nat) ≠ _; decide)).trans h.lb
  have hnlb : ∀ {g : Nat} {X : World} {cur : Array Value} {f : Nat × Nat}, X.heap[g]? = some (.cells cur 150 f) → X.heap[a.Lb]? = some (.cells vs.toArray 117 (0, 0)) → g ≠ a.Lb := fun hx hy => ne_of_type hx hy (by show (_ : Nat) ≠ _; decide)
  obtain ⟨Z, hr⟩ := h.fam.rb
  obtain ⟨cp, hb⟩ := h.fam.fb
  have hlu : ∀ j, (lookM s i u).look.getD j [] = if j = i then s.look.getD i [] ++ [u] else s.look.getD j [] := fun j => by
    unfold lookM
    simp only [getD_modify]
    by_cases e : j = i
    · subst e
      rw [if_pos ⟨by simp, by rw [h.ll]; exact hi⟩, if_pos rfl]
    · rw [if_neg (by simp; omega), if_neg e]
  have hother : ∀ j u2, vs[j]? = some u2 → j ≠ i → w'.ownsRow W.heap.size 150 6 u2 (s.look.getD j []).length (cellsR (s.look.getD j [])) := fun j u2 hu hne =>
    own_keep (h.rows j u2 hu) fun g hg2 => hg.block g (lt_of (own_blk (h.rows j u2 hu) hg2).2.choose_spec) (fun e => h.apart i j v u2 hv hu (by omega) g e.symm hg2)
  have hstore : ∀ {e : Value} {m : Nat} {xs : List Value}, w'.ownsRow W.heap.size 150 6 e m xs → (w'.setCell ⟨a.Lb, i, none⟩ v').ownsRow W.heap.size 150 6 e m xs := fun hx =>
    own_keep hx fun g hg => set_other w' _ _ _ (by
      obtain ⟨_, cur, hc⟩ := own_blk hx hg
      exact hnlb hc hw)
  have hget : ∀ j x, (vs.set i v')[j]? = some x → (j = i ∧ x = v') ∨ (j ≠ i ∧ vs[j]? = some x) := fun j x hx => by
    rw [List.getElem?_set] at hx
    split at hx
    · rename_i e
      split at hx
      · injection hx with hx
        exact .inl ⟨e.symm, hx.symm⟩
      · cases hx
    · rename_i e
      exact .inr ⟨fun e2 => e e2.symm, hx⟩
  exact {
    bel := set_bel (h.bel.grown hg h.bel.size (fun k hk => (own_blk hrow hk).1)) h.up.2.2.2.1
    fam := h.fam.keep (hk hb (by show (_ : Nat) ≠ _; decide) (by show (_ : Nat) ≠ _; decide)) (hk hr (by show (_ : Nat) ≠ _; decide) (by show (_ : Nat) ≠ _; decide))
    inv := h.inv
    mb := (hk h.mb (by show (_ : Nat) ≠ _; decide) (by show (_ : Nat) ≠ _; decide)).trans h.mb
    wb := (hk h.wb (by show (_ : Nat) ≠ _; decide) (by show (_ : Nat) ≠ _; decide)).trans h.wb
    lb := by
      rw [heap_setCell_same _ _ _ _ _ _ hw]
      congr 2
      simp
    qu := h.qu.keep fun g hg => hk (h.qu.blk hg).2.choose_spec (by show (_ : Nat) ≠ _; decide) (by show (_ : Nat) ≠ _; decide)
    lv := by rw [List.length_set]; exact h.lv
    ll := by unfold lookM; simp [h.ll]
    rows := fun j x hx => by
      rw [hlu]
      rcases hget j x hx with ⟨rfl, rfl⟩ | ⟨hne, hx⟩
      · rw [if_pos rfl]
        have e : cellsR (s.look.getD j [] ++ [u]) = cellsR (s.look.getD j []) ++ u.cells.toList := by rw [cellsR_app]; simp [cellsR]
        rw [e, List.length_append]
        exact hstore ho
      · rw [if_neg hne]
        exact hstore (hother j x hx hne)
    apart := fun j k x y hx hy hne g hgx hgy => by
      have hnew : ∀ (k : Nat) (y : Value), k ≠ i → vs[k]? = some y → v'.ownBlock = some g → y.ownBlock ≠ some g := fun k y hk hy hg1 hg2 => by
        rcases hm with e | ⟨g', e, hge⟩
        · exact h.apart i k v y hv hy (by omega) g (e ▸ hg1) hg2
        · rw [e] at hg1
          injection hg1 with hg1
          have := lt_of (own_blk (h.rows k y hy) hg2).2.choose_spec
          omega
      rcases hget j x hx with ⟨hj, ex⟩ | ⟨hj, hx2⟩
      · rcases hget k y hy with ⟨hk, ey⟩ | ⟨hk, hy2⟩
        · exact hne (hj.trans hk.symm)
        · exact hnew k y hk hy2 (ex ▸ hgx) hgy
      · rcases hget k y hy with ⟨hk, ey⟩ | ⟨hk, hy2⟩
        · exact hnew j x hj hx2 (ey ▸ hgy) hgx
        · exact h.apart j k x y hx2 hy2 hne g hgx hgy
    up := h.up }
end Go.Proofs.YtblapgfilbmdhaaGreatDoor.SemB
namespace Go.Proofs.YtblapgfilbmdhaaGreatDoor.SemC
open Go.RowKit Go.Lib Go.Proofs SetA SetB SetJ SetN SetQ SetR TblC TblV SemA SemB
section
variable {P : Program} (w : World)
theorem run_append_room_off (t ty e : TypeId) (i : TypeInfo) (ht : P.underlying t = some (.slice e)) (hi : P.info? e = some i)
    (g o sLen sCap : Nat) (cur : Array Value) (hg : w.heap[g]? = some (.cells cur e (0, 0)))
    (a : Addr) (m c : Nat) (news : List Value) (hl : news.length = m * i.size) (hnews : ∀ j u, news[j]? = some u → w.cell? (a.add j) = some u) (h1 : ∀ u ∈ news, u.oneCell' = true)
    (hroom : sLen + m ≤ sCap) (hfit : o + sLen * i.size + news.length ≤ cur.size) :
    (Builtin.append_ #[t, t] ty #[.slice (some ⟨g, o, none⟩) sLen sCap, .slice (some a) m c]).run P w =
      .ok (.slice (some ⟨g, o, none⟩) (sLen + m) sCap) (w.setRow g (cur.toList.take (o + sLen * i.size) ++ news ++ cur.toList.drop (o + sLen * i.size + news.length)).toArray) := by
  have hf := run_firstCells_some (P := P) w i.size m a m c news hl hnews
  have hst := run_storeCells_at P g (o + sLen * i.size) e news 0 cur w hg (by simpa using hfit) h1
  simp only [Nat.add_zero] at hst
  simp [Builtin.append_, run_underlying ht, sizeOf, typeInfo, hi, Builtin.lenOf, hroom, hf, Addr.add_lit, hst]
end
theorem infoPr : (Tryz.prog.info? 153).map (fun i => (i.zero, i.size, i.bytes)) = some (some (.agg #[.int .i64 0, .int .i64 0]), 2, 16) := by kernel_rfl
theorem infoRu : (Tryz.prog.info? 150).map (fun i => (i.zero, i.size, i.bytes)) = some (some zeroU.val, 6, 48) := by kernel_rfl
theorem add_off (g o j : Nat) : (⟨g, o, none⟩ : Addr).add j = ⟨g, o + j, none⟩ := by
  unfold Addr.add
  split <;> simp_all
theorem mid_two (A B : List Value) (x y : Value) {i : Nat} (h : A.length = i) : (A ++ ([x, y] ++ B))[i]? = some x ∧ (A ++ ([x, y] ++ B))[i + 1]? = some y := by
  subst h
  constructor
  · rw [List.getElem?_append_right (Nat.le_refl _)]; simp
  · rw [List.getElem?_append_right (by omega)]; simp
theorem run_append_qu {w : World} {base : Nat} {qv : Value} {q : List Pr} (ty : TypeId) (hq : Qu w base qv q) (hb : base ≤ w.heap.size) (hl : q.length ≤ 100000000) (r x : Int) (ad : Addr) (c : Nat)
    (hnews : ∀ j u, ([.int .i64 r, .int .i64 x] : List Value)[j]? = some u → w.cell? (ad.add j) = some u) :
    ∃ v' w', (Builtin.append_ #[145, 145] ty #[qv, .slice (some ad) 1 c]).run Tryz.prog w = .ok v' w' ∧ Qu w' base v' (q ++ [(r, x)]) ∧ w.grownBy w' qv.ownBlock ∧ Moves w qv.ownBlock v'.ownBlock := by
  obtain ⟨i0, hi, hz0, hz1, hz2⟩ := info_parts infoPr
  have hm : maxLen = 9223372036854775807 := rfl
  rcases hq with ⟨rfl, rfl⟩ | ⟨g, o, cap, cur, rfl, hB, hg, hc, hcm, hs, hat⟩
  · have hr := run_append_nil (P := Tryz.prog) w 145 ty 153 i0 (.agg #[.int .i64 0, .int .i64 0]) Tryz.underlying145 hi hz0 ad 1 c [.int .i64 r, .int .i64 x] (by rw [hz1]; rfl) hnews (by omega) (by omega) (by rw [hz2]; omega)
    refine ⟨_, _, hr, .inr ⟨w.heap.size, 0, _, _, rfl, hb, heap_alloc_new w.drew _, grownCap_ge w 1 0 _, grownCap_le_maxLen w 1 0 _ (by omega), ?_, ?_⟩, ⟨rfl, rfl, rfl, by simp, fun k hk _ => heap_alloc_old w.drew _ hk⟩, .inr ⟨_, rfl, Nat.le_refl _⟩⟩
    · have := grownCap_ge w 1 0 153
      have h2 : (Value.agg #[.int .i64 0, .int .i64 0]).cells.size = 2 := rfl
      simp only [Array.size_append, List.size_toArray, size_zeroCells, h2, List.length_cons, List.length_nil]
      omega
    · intro j hj
      have : j = 0 := by simp at hj; omega
      subst this
      exact ⟨by rw [Array.getElem?_append_left (by simp)]; rfl, by rw [Array.getElem?_append_left (by simp)]; rfl⟩
  · have hcs : cur.toList.length = cur.size := by simp
    by_cases hroom : q.length + 1 ≤ cap
    · have hr := run_append_room_off (P := Tryz.prog) w 145 ty 153 i0 Tryz.underlying145 hi g o q.length cap cur hg ad 1 c [.int .i64 r, .int .i64 x] (by rw [hz1]; rfl) hnews (fun u hu => by simp at hu; rcases hu with rfl | rfl <;> rfl) hroom (by rw [hz1]; simp; omega)
      rw [hz1] at hr
      have hsz : (cur.toList.take (o + q.length * 2) ++ [Value.int .i64 r, .int .i64 x] ++ cur.toList.drop (o + q.length * 2 + 2)).length = cur.size := by
        simp only [List.length_append, List.length_take, List.length_drop, Array.length_toList, List.length_cons, List.length_nil]
        omega
      refine ⟨_, _, hr, .inr ⟨g, o, cap, _, by rw [List.length_append]; rfl, hB, setRow_heap w g cur _ _ _ hg, by rw [List.length_append]; exact hroom, hcm, by simp only [List.size_toArray]; exact Nat.le_trans hs (Nat.le_of_eq hsz.symm), ?_⟩, ⟨rfl, rfl, rfl, by simp, fun k _ hk => setRow_other w g k _ (fun e => hk (by simp [Value.ownBlock, e]))⟩, .inl rfl⟩
      intro j hj
      have htl : (cur.toList.take (o + q.length * 2)).length = o + q.length * 2 := by rw [List.length_take, hcs]; omega
      simp only [List.getElem?_toArray, List.append_assoc]
      by_cases hjl : j < q.length
      · obtain ⟨a1, a2⟩ := hat j hjl
        rw [List.getElem?_append_left (by rw [htl]; omega), List.getElem?_append_left (by rw [htl]; omega), List.getElem?_take_of_lt (by omega), List.getElem?_take_of_lt (by omega), List.getElem_append_left hjl]
        simp only [Array.getElem?_toList]
        exact ⟨a1, a2⟩
      · have : j = q.length := by simp at hj; omega
        subst this
        obtain ⟨m1, m2⟩ := mid_two (cur.toList.take (o + q.length * 2)) (cur.toList.drop (o + q.length * 2 + 2)) (.int .i64 r) (.int .i64 x) htl
        refine ⟨m1.trans ?_, m2.trans ?_⟩ <;> simp
    · have hcl : ∀ j u, (encP q)[j]? = some u → w.cell? ((⟨g, o, none⟩ : Addr).add j) = some u := fun j u hu => by
        have hj : j < q.length * 2 := by
          rw [← encP_len]
          rcases Nat.lt_or_ge j (encP q).length with h | h
          · exact h
          · rw [List.getElem?_eq_none h] at hu; cases hu
        obtain ⟨b1, b2⟩ := encP_at q (j / 2) (by omega)
        obtain ⟨a1, a2⟩ := hat (j / 2) (by omega)
        rw [add_off, Lib.cell_of_heap hg]
        rcases (by omega : j = j / 2 * 2 ∨ j = j / 2 * 2 + 1) with e | e
        · rw [← e] at a1 b1; rw [a1, ← b1, hu]
        · rw [Nat.add_assoc, ← e] at a2; rw [← e] at b2; rw [a2, ← b2, hu]
      have hr := run_append_grow (P := Tryz.prog) w 145 ty 153 i0 (.agg #[.int .i64 0, .int .i64 0]) Tryz.underlying145 hi hz0 ⟨g, o, none⟩ q.length cap (encP q) (by rw [hz1, encP_len]) hcl ad 1 c [.int .i64 r, .int .i64 x] (by rw [hz1]; rfl) hnews (by omega) (by omega) (growslice_fits (by omega) (by rw [hz2]; omega))
      have hge := grownCap_ge w (q.length + 1) cap 153
      refine ⟨_, _, hr, .inr ⟨w.heap.size, 0, _, _, by rw [List.length_append]; rfl, hb, heap_alloc_new w.drew _, by rw [List.length_append]; exact hge, grownCap_le_maxLen w (q.length + 1) cap _ (by omega), ?_, ?_⟩, ⟨rfl, rfl, rfl, by simp, fun k hk _ => heap_alloc_old w.drew _ hk⟩, .inr ⟨_, rfl, Nat.le_refl _⟩⟩
      · have h2 : (Value.agg #[.int .i64 0, .int .i64 0]).cells.size = 2 := rfl
        simp only [Array.size_append, List.size_toArray, size_zeroCells, h2, List.length_cons, List.length_nil, encP_len]
        omega
      · intro j hj
        have e : (encP q).toArray ++ #[Value.int .i64 r, .int .i64 x] = (encP (q ++ [(r, x)])).toArray := by rw [encP_app]; simp [encP]
        have e2 : (encP q).toArray ++ [Value.int .i64 r, .int .i64 x].toArray = (encP (q ++ [(r, x)])).toArray := e
        rw [e2]
        obtain ⟨b1, b2⟩ := encP_at (q ++ [(r, x)]) j hj
        have hsz : (encP (q ++ [(r, x)])).toArray.size = (q ++ [(r, x)]).length * 2 := by simp [encP_len]
        rw [Array.getElem?_append_left (by rw [hsz]; omega), Array.getElem?_append_left (by rw [hsz]; omega), Nat.zero_add]
        simp only [List.getElem?_toArray]
        exact ⟨b1, b2⟩
def Chg (w w' : World) (ts : List TypeId) : Prop := w.heap.size ≤ w'.heap.size ∧ ∀ (b : Nat) (x : Array Value) (t : TypeId) (f : Nat × Nat), w.heap[b]? = some (.cells x t f) → t ∉ ts → w'.heap[b]? = some (.cells x t f)
theorem Chg.below {w w' : World} (h : Below w.heap.size w w') (ts : List TypeId) : Chg w w' ts := ⟨h.size, fun b x t f hx _ => (h.block b (lt_of hx)).trans hx⟩
theorem Chg.trans {a b c : World} {ts : List TypeId} (h : Chg a b ts) (k : Chg b c ts) : Chg a c ts := ⟨Nat.le_trans h.1 k.1, fun b x t f hx hn => k.2 b x t f (h.2 b x t f hx hn) hn⟩
theorem Chg.set {w : World} {ts : List TypeId} {b i : Nat} {v : Value} {y : Array Value} {t : TypeId} {f : Nat × Nat} (h : w.heap[b]? = some (.cells y t f)) (ht : t ∈ ts) : Chg w (w.setCell ⟨b, i, none⟩ v) ts :=
  ⟨by simp [World.setCell], fun c x t2 f2 hx hn => (set_other w _ _ _ (ne_of_type hx h (fun e => hn (e ▸ ht)))).trans hx⟩
theorem Chg.grown {w w' : World} {ts : List TypeId} {r : Option Nat} (hg : w.grownBy w' r) (h : ∀ g, r = some g → ∃ y t f, w.heap[g]? = some (.cells y t f) ∧ t ∈ ts) : Chg w w' ts :=
  ⟨hg.size, fun b x t f hx hn => (hg.block b (lt_of hx) (fun e => by
    obtain ⟨y, t2, f2, hy, ht⟩ := h b e.symm
    exact ne_of_type hy hx (fun e => hn (e ▸ ht)) rfl)).trans hx⟩
structure Snap (w : World) (vs : List Value) (look : List (List Ru)) (g : Nat) (T : List Ru) : Prop where
  ty : ∃ cur, w.heap[g]? = some (.cells cur 150 (0, 0))
  at_ : ∀ (j : Nat) (h : j < T.length) (k : Nat), k < 6 → w.cell? ⟨g, j * 6 + k, none⟩ = (T[j].cells)[k]?
  own : ∀ (i : Nat) (v : Value), vs[i]? = some v → v.ownBlock = some g → T <+: look.getD i []
theorem Snap.chg {w w' : World} {vs : List Value} {look : List (List Ru)} {g : Nat} {T : List Ru} {ts : List TypeId} (h : Snap w vs look g T) (hc : Chg w w' ts) (hn : 150 ∉ ts) : Snap w' vs look g T := by
  obtain ⟨cur, hg⟩ := h.ty
  have hg' := hc.2 _ _ _ _ hg hn
  exact ⟨⟨cur, hg'⟩, fun j hj k hk => by rw [← h.at_ j hj k hk, Lib.cell_of_heap hg', Lib.cell_of_heap hg], h.own⟩
structure Frm where
  rules : List (Nat × List Ru)
  nums : List (Nat × Array Value)
  prs : List (Nat × Pr)
structure Frm.ok (F : Frm) (w : World) (vs : List Value) (look : List (List Ru)) (qv : Value) : Prop where
  r : ∀ p ∈ F.rules, Snap w vs look p.1 p.2
  n : ∀ p ∈ F.nums, w.heap[p.1]? = some (.cells p.2 3 (0, 0))
  p : ∀ p ∈ F.prs, w.heap[p.1]? = some (.cells #[.int .i64 p.2.1, .int .i64 p.2.2] 153 (0, 0)) ∧ qv.ownBlock ≠ some p.1
theorem Frm.ok.chg {F : Frm} {w w' : World} {vs : List Value} {look : List (List Ru)} {qv : Value} {ts : List TypeId} (h : F.ok w vs look qv) (hc : Chg w w' ts) (hn : 150 ∉ ts) (hm : 3 ∉ ts) (hp : 153 ∉ ts) : F.ok w' vs look qv :=
  ⟨fun p hp => (h.r p hp).chg hc hn, fun p hp => hc.2 _ _ _ _ (h.n p hp) hm, fun p hq => ⟨hc.2 _ _ _ _ (h.p p hq).1 hp, (h.p p hq).2⟩⟩
theorem Frm.ok.queue {F : Frm} {w w' : World} {vs : List Value} {look : List (List Ru)} {qv qv' : Value} (h : F.ok w vs look qv) (hg : w.grownBy w' qv.ownBlock) (hq : ∀ g, qv.ownBlock = some g → ∃ cur, w.heap[g]? = some (.cells cur 153 (0, 0))) (hm : Moves w qv.ownBlock qv'.ownBlock) : F.ok w' vs look qv' := by
  have hc : Chg w w' [153] := Chg.grown hg (fun g e => by
    obtain ⟨cur, hc⟩ := hq g e
    exact ⟨_, _, _, hc, by simp⟩)
  refine ⟨fun p hp => (h.r p hp).chg hc (by decide), fun p hp => hc.2 _ _ _ _ (h.n p hp) (by decide), fun p hp => ?_⟩
  obtain ⟨h1, h2⟩ := h.p p hp
  refine ⟨(hg.block _ (lt_of h1) (fun e => h2 e.symm)).trans h1, fun e => ?_⟩
  rcases hm with hm | ⟨g', hm, hge⟩
  · exact h2 (hm.symm.trans e)
  · rw [hm] at e
    injection e with e
    have := lt_of h1
    omega
def Wq (W w : World) (a : Ad) (s : Sm) (h : Nat) (F : Frm) : Prop := h ≤ s.all.length ∧ ∃ M qv vs, Wk W w a M s (s.all.drop h) qv vs ∧ F.ok w vs s.look qv
theorem Wq.below {W w w' : World} {a : Ad} {s : Sm} {h : Nat} {F : Frm} (hq : Wq W w a s h F) (hb : Below w.heap.size w w') : Wq W w' a s h F := by
  obtain ⟨h1, M, qv, vs, h2, h3⟩ := hq
  exact ⟨h1, M, qv, vs, h2.below hb, h3.chg (Chg.below hb []) (by simp) (by simp) (by simp)⟩
def WPost (W : World) (a : Ad) (s : Sm) (h : Nat) (F : Frm) (e : Ending) (w' : World) : Prop := e = .returned (.tuple #[]) ∧ Wq W w' a s h F
set_option maxHeartbeats 1000000 in
set_option maxRecDepth 100000 in
theorem put (W w : World) (a : Ad) (s : Sm) (h : Nat) (r x : Int) (F : Frm) (hw : Wq W w a s h F) (hl : s.all.length ≤ 100000000) :
    Calls Tryz.prog 180 #[.pointer (some ⟨a.wk, 0, none⟩), .int .i64 r, .int .i64 x] w (WPost W a (putM a.n a.c s r x) h F) := by
  obtain ⟨hh, M, qv, vs, hk, hfr⟩ := hw
  have HFR := Lib.hid hfr
  clear hfr
  obtain ⟨Z, hr⟩ := hk.fam.rb
  have HRB := Lib.hid hr
  clear hr
  have HA := Lib.hid (add_ a.B a.R a.n a.c M r x w hk.fam)
  have hadd := hk.inv.addB r x
  have cw := fun o => Lib.cell_of_heap hk.wb o
  have cm := fun o => Lib.cell_of_heap hk.mb o
  have HK := Lib.hid hk
  have HI := Lib.hid (hk.inv.add r x)
  clear hk
  unfold AddPost at HA
  rw [hadd] at HA
  clear hadd
  unfold WPost putM
  cases hb : (mayB a.n a.c r x && !hasL s.all r x) with
  | false =>
    rw [hb] at HA
    have hput : putL a.n a.c s.all r x = s.all := by unfold putL; rw [hb]; rfl
    rw [hput] at HI ⊢
    clear hb
    go_enter Tryz.func180, Tryz.ntmps180
    go_wp2_with fail
    refine HA.out.mono ?_
    rintro e w1 ⟨rfl, hf, hg⟩
    have HF := Lib.hid (HK.out.add hf HI.out rfl rfl hg)
    have HC := Lib.hid (HFR.out.chg (Chg.grown (ts := [159]) hg (fun g e => by injection e with e; subst e; exact ⟨_, _, _, HRB.out, by simp⟩)) (by decide) (by decide) (by decide))
    clear hf hg HA cw cm
    go_wp2_with fail
    go_end0
    exact ⟨rfl, hh, _, _, _, HF.out, HC.out⟩
  | true =>
    rw [hb] at HA
    have hput : putL a.n a.c s.all r x = s.all ++ [(r, x)] := by unfold putL; rw [hb]; rfl
    rw [hput] at HI ⊢
    clear hb
    go_enter Tryz.func180, Tryz.ntmps180
    go_wp2_with fail
    refine HA.out.mono ?_
    rintro e w1 ⟨rfl, hf, hg⟩
    have hF := HK.out.add (s' := { s with all := s.all ++ [(r, x)] }) hf HI.out rfl rfl hg
    have cw1 := fun o => Lib.cell_of_heap hF.wb o
    have hC1 := HFR.out.chg (Chg.grown (ts := [159]) hg (fun g e => by injection e with e; subst e; exact ⟨_, _, _, HRB.out, by simp⟩)) (by decide) (by decide) (by decide)
    have hC2 := hC1.chg (Chg.below ((Below.refl w1.heap.size w1).alloc (Nat.le_refl _) (.cells #[.int .i64 r, .int .i64 x] 153)) []) (by simp) (by simp) (by simp)
    have hF2 := hF.below ((Below.refl w1.heap.size w1).alloc (Nat.le_refl _) (.cells #[.int .i64 r, .int .i64 x] 153))
    have hq := hF2.qu
    have HF2 := Lib.hid hF2
    have hnews : ∀ j u, ([.int .i64 r, .int .i64 x] : List Value)[j]? = some u → (w1.alloc (.cells #[.int .i64 r, .int .i64 x] 153)).cell? ((⟨w1.heap.size, 0, none⟩ : Addr).add j) = some u := fun j u hu => by
      rw [add_off, Lib.cell_of_heap (heap_alloc_new w1 _), ← hu]
      simp
    obtain ⟨qv', w2, hrun, hq2, hg2, hmv2⟩ := run_append_qu 145 hq hF2.bel.size (by rw [List.length_drop]; omega) r x ⟨w1.heap.size, 0, none⟩ 1 hnews
    obtain ⟨A2, n2, c2, rfl⟩ : ∃ A n c, qv' = .slice A n c := by
      rcases hq2 with ⟨rfl, _⟩ | ⟨g, o, cap, cur, rfl, _⟩ <;> exact ⟨_, _, _, rfl⟩
    have hG := HF2.out.queue hg2 hq2
    have hdrop : s.all.drop h ++ [(r, x)] = (s.all ++ [(r, x)]).drop h := by rw [List.drop_append_of_le_length hh]
    rw [hdrop] at hG
    have HG := Lib.hid hG
    have hC3 := hC2.queue hg2 (fun g e => (hq.blk e).2) hmv2
    have hwb2 : w2.heap[a.wk]? = _ := (hg2.block _ (lt_of hF2.wb) (fun e => by
        obtain ⟨_, cur, hc⟩ := hq.blk e.symm
        exact ne_of_type hc hF2.wb (by show (_ : Nat) ≠ _; decide) rfl)).trans hF2.wb
    have HC := Lib.hid (hC3.chg (Chg.set (i := 2) (v := .slice A2 n2 c2) (ts := [147]) hwb2 (by simp)) (by decide) (by decide) (by decide))
    clear hmv2 hC1 hC2 hC3 hwb2
    have cfw : ∀ o, w2.frozen? ⟨a.wk, o, none⟩ = false := fun o => by
      have hwb : w2.heap[a.wk]? = _ := (hg2.block _ (lt_of hF2.wb) (fun e => by
        obtain ⟨_, cur, hc⟩ := hq.blk e.symm
        exact ne_of_type hc hF2.wb (by show (_ : Nat) ≠ _; decide) rfl)).trans hF2.wb
      exact frozen_of_row _ _ _ _ _ hwb
    have cww : ∀ o, w2.cell? ⟨a.wk, o, none⟩ = _ := fun o => by
      have hwb : w2.heap[a.wk]? = _ := (hg2.block _ (lt_of hF2.wb) (fun e => by
        obtain ⟨_, cur, hc⟩ := hq.blk e.symm
        exact ne_of_type hc hF2.wb (by show (_ : Nat) ≠ _; decide) rfl)).trans hF2.wb
      exact Lib.cell_of_heap hwb o
    have HR := Lib.hid hrun
    clear hf hg HA cw cm hF hF2 hq hG hrun hq2 hg2 hnews HI
    go_wp2_with (at_builtin; refine Lib.wpList_append_run _ rfl _ _ 145 145 rfl _ _ rfl rfl _ _ HR.out ?_)
    go_wp2_with fail
    go_end0
    exact ⟨rfl, by simp; omega, _, _, _, HG.out, HC.out⟩
end Go.Proofs.YtblapgfilbmdhaaGreatDoor.SemC
