/- What the words of a family and a row of pairs say of one another: plain maths. -/
import Derived.Test.YtmeiigcjfjapfaaDoorSetH
import Derived.Test.YtmeiigcjfjapfaaDoorSetM
namespace Go.Proofs.YtmeiigcjfjapfaaDoor.SetN
open Go.RowKit Go.Lib Go.Proofs Go.Proofs.YtmeiigcjfjapfaaDoor.SetPop Go.Proofs.YtmeiigcjfjapfaaDoor.SetA Go.Proofs.YtmeiigcjfjapfaaDoor.SetB Go.Proofs.YtmeiigcjfjapfaaDoor.SetC Go.Proofs.YtmeiigcjfjapfaaDoor.SetD Go.Proofs.YtmeiigcjfjapfaaDoor.SetE Go.Proofs.YtmeiigcjfjapfaaDoor.SetG Go.Proofs.YtmeiigcjfjapfaaDoor.SetH Go.Proofs.YtmeiigcjfjapfaaDoor.SetM
set_option linter.unusedVariables false
set_option linter.unusedSimpArgs false
/-- The pairs that are in, told by words and by a row of pairs. -/
structure Inv (n c : Nat) (M : List Nat) (L : List (Int × Int)) : Prop where
  len : M.length = n * 16
  c1 : c ≤ 1000
  rng : ∀ p ∈ L, mayB n c p.1 p.2 = true
  bit : ∀ r k : Nat, r < n → k < 1024 → bitAt M r k = decide (((r : Int), (k : Int)) ∈ L)
  tot : tot n M n = L.length
theorem Inv.zero (n c : Nat) (hc : c ≤ 1000) : Inv n c (List.replicate (n * 16) 0) [] where
  len := by simp
  c1 := hc
  rng := fun p h => by cases h
  bit := fun r k _ _ => by rw [bit_zero]; simp
  tot := tot_zero n n n
variable {n c : Nat} {M : List Nat} {L : List (Int × Int)}
def hasL (L : List (Int × Int)) (r k : Int) : Bool := L.any fun x => decide (x.1 = r) && decide (x.2 = k)
theorem hasL_iff {r k : Int} : hasL L r k = true ↔ (r, k) ∈ L := by
  unfold hasL
  rw [List.any_eq_true]
  constructor
  · rintro ⟨⟨a, b⟩, h, e⟩
    simp at e
    obtain ⟨rfl, rfl⟩ := e
    exact h
  · intro h
    exact ⟨_, h, by simp⟩
theorem hasL_dec (r k : Int) : hasL L r k = decide ((r, k) ∈ L) := by
  rw [Bool.eq_iff_iff, hasL_iff, decide_eq_true_eq]
theorem Inv.has (h : Inv n c M L) (r k : Int) : hasB n c M r k = hasL L r k := by
  rw [Bool.eq_iff_iff, hasL_iff]
  unfold hasB
  rw [Bool.and_eq_true]
  constructor
  · rintro ⟨h1, h2⟩
    obtain ⟨a1, a2, a3, a4⟩ := mayB_iff.1 h1
    have := h.c1
    rw [h.bit _ _ (by omega) (by omega), decide_eq_true_eq] at h2
    rw [Int.toNat_of_nonneg a1, Int.toNat_of_nonneg a3] at h2
    exact h2
  · intro hm
    have h1 := h.rng _ hm
    obtain ⟨a1, a2, a3, a4⟩ := mayB_iff.1 h1
    have := h.c1
    simp only at a1 a2 a3 a4
    refine ⟨h1, ?_⟩
    rw [h.bit _ _ (by omega) (by omega), decide_eq_true_eq, Int.toNat_of_nonneg a1, Int.toNat_of_nonneg a3]
    exact hm
theorem Inv.addB (h : Inv n c M L) (r k : Int) : addB n c M r k = (mayB n c r k && !hasL L r k) := by
  rw [← h.has]
  unfold SetB.addB hasB
  cases mayB n c r k <;> simp
def putL (n c : Nat) (L : List (Int × Int)) (r k : Int) : List (Int × Int) := if mayB n c r k && !hasL L r k then L ++ [(r, k)] else L
theorem putL_len (n c : Nat) (L : List (Int × Int)) (r k : Int) : (putL n c L r k).length ≤ L.length + 1 := by
  unfold putL
  split <;> simp
theorem Inv.add (h : Inv n c M L) (r k : Int) : Inv n c (addN n c M r k) (putL n c L r k) := by
  unfold putL
  rw [← h.addB]
  cases hb : SetB.addB n c M r k with
  | false => rw [addN_no hb]; exact h
  | true =>
    have hN : addN n c M r k = addM M r.toNat k.toNat := by unfold addN; rw [hb]; rfl
    have ht := tot_add n c M r k h.len h.c1 hb
    have hb2 := hb
    unfold SetB.addB at hb2
    rw [Bool.and_eq_true] at hb2
    obtain ⟨a1, a2, a3, a4⟩ := mayB_iff.1 hb2.1
    have hc := h.c1
    have hl := h.len
    refine ⟨by rw [addN_len]; exact h.len, h.c1, ?_, ?_, ?_⟩
    · intro p hp
      rw [if_pos rfl, List.mem_append, List.mem_singleton] at hp
      rcases hp with hp | rfl
      · exact h.rng p hp
      · exact hb2.1
    · intro r' k' hr hk
      rw [hN, bit_addM _ _ _ _ _ (by omega) (by omega) hk, h.bit r' k' hr hk, if_pos rfl, Bool.eq_iff_iff]
      simp only [Bool.or_eq_true, decide_eq_true_eq, List.mem_append, List.mem_singleton, Prod.mk.injEq]
      refine or_congr Iff.rfl ?_
      omega
    · rw [ht, h.tot]; simp
theorem Inv.row (h : Inv n c M L) (r : Int) (k : Nat) (hk : k < 1024) : bitT (rowI n M r) k = hasL L r k := by
  by_cases hr : 0 ≤ r ∧ r < n
  · obtain ⟨j, rfl⟩ : ∃ j : Nat, r = j := ⟨r.toNat, by omega⟩
    have hj : j < n := by omega
    rw [rowI_nat M hj]
    unfold bitT
    rw [rowM_getD _ _ _ (by omega), hasL_dec, ← h.bit j k hj hk]
    rfl
  · unfold bitT rowI
    rw [if_neg hr]
    have e : hasL L r k = false := by
      cases hh : hasL L r k with
      | false => rfl
      | true =>
        have := h.rng _ (hasL_iff.1 hh)
        obtain ⟨a1, a2, _, _⟩ := mayB_iff.1 this
        exact absurd ⟨a1, a2⟩ hr
    rw [e, List.getD_eq_getElem?_getD, List.getElem?_replicate]
    split <;> simp
def listL (c : Nat) (L : List (Int × Int)) (r : Int) : List Nat := (List.range c).filter fun k : Nat => hasL L r k
theorem Inv.list (h : Inv n c M L) (r : Int) : numsOf (rowI n M r) 16 = listL c L r := by
  rw [numsOf_eq]
  have e : (List.range (16 * 64)).filter (bitT (rowI n M r)) = (List.range 1024).filter (fun k : Nat => hasL L r k) := by
    refine List.filter_congr fun k hk => ?_
    exact h.row r k (List.mem_range.1 hk)
  rw [e]
  have hc := h.c1
  exact below_c _ _ (by omega) fun k hk => by
    have := h.rng _ (hasL_iff.1 hk)
    obtain ⟨_, _, _, a4⟩ := mayB_iff.1 this
    simp only at a4
    omega
theorem cnt_nums (T : List Nat) (h : T.length = 16) : cnt T = (numsOf T 16).length := by
  rw [numsOf_len]
  unfold cnt
  congr 1
  apply List.ext_getElem
  · simp [h]
  · intro i h1 h2
    simp at h1 h2
    simp [List.getElem?_eq_getElem h1]
theorem Inv.cnt (h : Inv n c M L) (r : Int) : cnt (rowI n M r) = (listL c L r).length := by
  rw [cnt_nums _ (rowI_len h.len r), h.list]
theorem listL_len (c : Nat) (L : List (Int × Int)) (r : Int) : (listL c L r).length ≤ c := by
  unfold listL
  exact Nat.le_trans (List.length_filter_le _ _) (by simp)
theorem getD_small {T : List Nat} (hs : ∀ x ∈ T, x < 18446744073709551616) (k : Nat) : T.getD k 0 < 18446744073709551616 := by
  by_cases h : k < T.length
  · exact hs _ (getD_mem h)
  · rw [List.getD_eq_getElem?_getD, List.getElem?_eq_none (by omega)]; simp
theorem inside_bits (A B : List Nat) (hA : ∀ x ∈ A, x < 18446744073709551616) : insideB A B = true ↔ ∀ k, k < 1024 → bitT A k = true → bitT B k = true := by
  unfold insideB
  rw [List.all_eq_true]
  constructor
  · intro h k hk h1
    have := h (k / 64) (List.mem_range.2 (by omega))
    rw [beq_iff_eq, andN_zero _ _ (getD_small hA _)] at this
    exact this _ h1
  · intro h k hk
    have hk := List.mem_range.1 hk
    rw [beq_iff_eq, andN_zero _ _ (getD_small hA _)]
    intro i hi
    by_cases h64 : i < 64
    · have := h (k * 64 + i) (by omega)
      unfold bitT at this
      have a1 : (k * 64 + i) / 64 = k := by omega
      have a2 : (k * 64 + i) % 64 = i := by omega
      rw [a1, a2] at this
      exact this hi
    · exfalso
      have : (A.getD k 0).testBit i = false := Nat.testBit_lt_two_pow (Nat.lt_of_lt_of_le (getD_small hA k) (by
        have : (2:Nat) ^ 64 ≤ 2 ^ i := Nat.pow_le_pow_right (by omega) (by omega)
        simpa using this))
      rw [this] at hi
      cases hi
theorem meets_bits (A B : List Nat) (hA : ∀ x ∈ A, x < 18446744073709551616) : meetsB A B = true ↔ ∃ k, k < 1024 ∧ bitT A k = true ∧ bitT B k = true := by
  unfold meetsB
  rw [List.any_eq_true]
  constructor
  · rintro ⟨k, hk, h⟩
    have hk := List.mem_range.1 hk
    have hne : A.getD k 0 &&& B.getD k 0 ≠ 0 := by simpa using h
    obtain ⟨i, hi⟩ : ∃ i, (A.getD k 0 &&& B.getD k 0).testBit i = true := Nat.exists_testBit_of_ne_zero hne
    rw [Nat.testBit_and, Bool.and_eq_true] at hi
    have h64 : i < 64 := by
      rcases Nat.lt_or_ge i 64 with h | h64
      · exact h
      · exfalso
        have : (A.getD k 0).testBit i = false := Nat.testBit_lt_two_pow (Nat.lt_of_lt_of_le (getD_small hA k) (by
          have : (2:Nat) ^ 64 ≤ 2 ^ i := Nat.pow_le_pow_right (by omega) (by omega)
          simpa using this))
        rw [this] at hi
        cases hi.1
    refine ⟨k * 64 + i, by omega, ?_, ?_⟩
    all_goals
      unfold bitT
      have a1 : (k * 64 + i) / 64 = k := by omega
      have a2 : (k * 64 + i) % 64 = i := by omega
      rw [a1, a2]
      first | exact hi.1 | exact hi.2
  · rintro ⟨k, hk, h1, h2⟩
    refine ⟨k / 64, List.mem_range.2 (by omega), ?_⟩
    have : A.getD (k / 64) 0 &&& B.getD (k / 64) 0 ≠ 0 := by
      intro e
      have := Nat.testBit_and (A.getD (k / 64) 0) (B.getD (k / 64) 0) (k % 64)
      unfold bitT at h1 h2
      rw [e, h1, h2] at this
      simp at this
    simpa using this
def insideL (L : List (Int × Int)) (r q : Int) : Bool := L.all fun x => !decide (x.1 = r) || hasL L q x.2
def meetsL (L : List (Int × Int)) (r q : Int) : Bool := L.any fun x => decide (x.1 = r) && hasL L q x.2
theorem Inv.col (h : Inv n c M L) {r k : Int} (hm : (r, k) ∈ L) : 0 ≤ k ∧ k < 1024 := by
  obtain ⟨_, _, a3, a4⟩ := mayB_iff.1 (h.rng _ hm)
  have := h.c1
  simp only at a3 a4
  omega
theorem Inv.inside (h : Inv n c M L) (hs : ∀ r : Int, ∀ x ∈ rowI n M r, x < 18446744073709551616) (r q : Int) : insideB (rowI n M r) (rowI n M q) = insideL L r q := by
  rw [Bool.eq_iff_iff, inside_bits _ _ (hs r)]
  unfold insideL
  rw [List.all_eq_true]
  constructor
  · rintro hk ⟨a, b⟩ hx
    by_cases e : a = r
    · subst e
      obtain ⟨b1, b2⟩ := h.col hx
      have := hk b.toNat (by omega)
      rw [h.row _ _ (by omega), h.row _ _ (by omega), Int.toNat_of_nonneg b1] at this
      simp [this (hasL_iff.2 hx)]
    · simp [e]
  · intro hk k hk1 h1
    rw [h.row _ _ hk1] at h1 ⊢
    have := hk _ (hasL_iff.1 h1)
    simpa using this
theorem Inv.meets (h : Inv n c M L) (hs : ∀ r : Int, ∀ x ∈ rowI n M r, x < 18446744073709551616) (r q : Int) : meetsB (rowI n M r) (rowI n M q) = meetsL L r q := by
  rw [Bool.eq_iff_iff, meets_bits _ _ (hs r)]
  unfold meetsL
  rw [List.any_eq_true]
  constructor
  · rintro ⟨k, hk, h1, h2⟩
    rw [h.row _ _ hk] at h1 h2
    exact ⟨_, hasL_iff.1 h1, by simp [h2]⟩
  · rintro ⟨⟨a, b⟩, hx, e⟩
    simp only [Bool.and_eq_true, decide_eq_true_eq] at e
    obtain ⟨rfl, e2⟩ := e
    obtain ⟨b1, b2⟩ := h.col hx
    refine ⟨b.toNat, by omega, ?_, ?_⟩
    all_goals rw [h.row _ _ (by omega), Int.toNat_of_nonneg b1]
    · exact hasL_iff.2 hx
    · exact e2
end Go.Proofs.YtmeiigcjfjapfaaDoor.SetN
