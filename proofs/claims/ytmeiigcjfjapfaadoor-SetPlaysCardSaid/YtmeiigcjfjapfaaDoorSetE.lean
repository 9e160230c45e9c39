/- Families of sets of numbers: what was added is in; the document's example. -/
import Derived.Test.YtmeiigcjfjapfaaDoorSetD
namespace Go.Proofs.YtmeiigcjfjapfaaDoor.SetE
open Go.RowKit Go.Lib Go.Proofs Go.Proofs.YtmeiigcjfjapfaaDoor.SetPop Go.Proofs.YtmeiigcjfjapfaaDoor.SetA Go.Proofs.YtmeiigcjfjapfaaDoor.SetB Go.Proofs.YtmeiigcjfjapfaaDoor.SetC Go.Proofs.YtmeiigcjfjapfaaDoor.SetD
set_option linter.unusedVariables false
set_option linter.unusedSimpArgs false
theorem addM_len (M : List Nat) (r k : Nat) : (addM M r k).length = M.length := by unfold addM; simp
theorem addN_len (n c : Nat) (M : List Nat) (r k : Int) : (addN n c M r k).length = M.length := by unfold addN; split <;> simp [addM_len]
theorem bit_addM (M : List Nat) (r k r' k' : Nat) (h : r * 16 + k / 64 < M.length) (hk : k < 1024) (hk' : k' < 1024) : bitAt (addM M r k) r' k' = (bitAt M r' k' || decide (r' = r ∧ k' = k)) := by
  unfold bitAt addM
  by_cases hi : r * 16 + k / 64 = r' * 16 + k' / 64
  · have hr : r = r' := by omega
    have hq : k / 64 = k' / 64 := by omega
    subst hr
    have e : word (M.set (r * 16 + k / 64) (word M r k ||| 2 ^ (k % 64))) r k' = word M r k ||| 2 ^ (k % 64) := by
      unfold word
      rw [← hq, List.getD_eq_getElem?_getD, List.getElem?_set_self h]; rfl
    have e2 : word M r k' = word M r k := by unfold word; rw [hq]
    rw [e, e2, Nat.testBit_or, Nat.testBit_two_pow]
    congr 1
    apply decide_eq_decide.2
    omega
  · have e : word (M.set (r * 16 + k / 64) (word M r k ||| 2 ^ (k % 64))) r' k' = word M r' k' := by
      unfold word
      rw [List.getD_eq_getElem?_getD, List.getElem?_set_ne hi, List.getD_eq_getElem?_getD]
    rw [e]
    have : decide (r' = r ∧ k' = k) = false := decide_eq_false (by rintro ⟨rfl, rfl⟩; exact hi rfl)
    rw [this, Bool.or_false]
theorem bit_addN (n c : Nat) (M : List Nat) (r k : Int) (r' k' : Nat) (hM : M.length = n * 16) (hc : c ≤ 1000) (hr : r' < n) (hk : k' < c) : bitAt (addN n c M r k) r' k' = (bitAt M r' k' || decide (r = r' ∧ k = k')) := by
  unfold addN
  cases hb : addB n c M r k with
  | true =>
    rw [if_pos rfl]
    unfold addB at hb
    rw [Bool.and_eq_true] at hb
    obtain ⟨a1, a2, a3, a4⟩ := mayB_iff.1 hb.1
    rw [bit_addM _ _ _ _ _ (by omega) (by omega) (by omega)]
    congr 1
    apply decide_eq_decide.2
    omega
  | false =>
    rw [if_neg (by simp)]
    by_cases h : r = r' ∧ k = k'
    · obtain ⟨rfl, rfl⟩ := h
      unfold addB at hb
      have hm : mayB n c (r' : Int) (k' : Int) = true := mayB_iff.2 ⟨by omega, by omega, by omega, by omega⟩
      rw [hm] at hb
      have : bitAt M r' k' = true := by simpa using hb
      simp [this]
    · simp [h]
/-- The words behind some calls of Add. -/
def addL (n c : Nat) (M : List Nat) : List (Int × Int) → List Nat
  | [] => M
  | p :: l => addL n c (addN n c M p.1 p.2) l
theorem addL_snoc (n c : Nat) : ∀ (l : List (Int × Int)) (M : List Nat) (p : Int × Int), addL n c M (l ++ [p]) = addN n c (addL n c M l) p.1 p.2
  | [], _, _ => rfl
  | q :: l, M, p => addL_snoc n c l _ p
theorem addL_len (n c : Nat) : ∀ (l : List (Int × Int)) (M : List Nat), (addL n c M l).length = M.length
  | [], _ => rfl
  | q :: l, M => (addL_len n c l _).trans (addN_len _ _ _ _ _)
theorem bit_addL (n c : Nat) (hc : c ≤ 1000) : ∀ (l : List (Int × Int)) (M : List Nat) (r' k' : Nat), M.length = n * 16 → r' < n → k' < c → bitAt (addL n c M l) r' k' = (bitAt M r' k' || decide (((r' : Int), (k' : Int)) ∈ l))
  | [], _, _, _, _, _, _ => by simp [addL]
  | q :: l, M, r', k', hM, hr, hk => by
    rw [addL, bit_addL n c hc l _ r' k' (by rw [addN_len, hM]) hr hk, bit_addN n c M q.1 q.2 r' k' hM hc hr hk, Bool.or_assoc]
    congr 1
    rw [Bool.eq_iff_iff]
    simp only [Bool.or_eq_true, decide_eq_true_eq, List.mem_cons]
    obtain ⟨a, b⟩ := q
    simp only [Prod.mk.injEq]
    constructor
    · rintro (⟨rfl, rfl⟩ | h)
      · exact Or.inl ⟨rfl, rfl⟩
      · exact Or.inr h
    · rintro (⟨h1, h2⟩ | h)
      · exact Or.inl ⟨h1.symm, h2.symm⟩
      · exact Or.inr h
theorem bit_zero (m r k : Nat) : bitAt (List.replicate m 0) r k = false := by
  unfold bitAt word
  rw [List.getD_eq_getElem?_getD, List.getElem?_replicate]
  split <;> simp
theorem pop_zero (x : Nat) (hx : x < 18446744073709551616) : pop x = 0 ↔ x = 0 := by
  constructor
  · intro h
    unfold pop at h
    rw [List.countP_eq_zero] at h
    apply Nat.eq_of_testBit_eq
    intro i
    rw [Nat.zero_testBit]
    rcases Nat.lt_or_ge i 64 with hi | hi
    · have := h i (by simpa using hi)
      simpa using this
    · exact Nat.testBit_lt_two_pow (Nat.lt_of_lt_of_le hx (by simpa using Nat.pow_le_pow_right (n := 2) (by omega) hi))
  · rintro rfl
    unfold pop
    simp
theorem cnt_zero (T : List Nat) (hT : ∀ x ∈ T, x < 18446744073709551616) : cnt T = 0 ↔ ∀ x ∈ T, x = 0 := by
  unfold cnt
  induction T with
  | nil => simp
  | cons a T ih =>
    have := pop_zero a (hT a (by simp))
    have ih := ih (fun x hx => hT x (by simp [hx]))
    simp only [List.map_cons, List.sum_cons, List.mem_cons, forall_eq_or_imp]
    rw [← this, ← ih]
    omega
theorem getD_mem {T : List Nat} {k : Nat} (h : k < T.length) : T.getD k 0 ∈ T := by
  rw [List.getD_eq_getElem?_getD, List.getElem?_eq_getElem h]; exact List.getElem_mem _
theorem inside_self (T : List Nat) (h16 : T.length = 16) (hT : ∀ x ∈ T, x < 18446744073709551616) : insideB T T = true :=
  inside_yes fun k hk => (andN_zero _ _ (hT _ (getD_mem (by omega)))).2 fun _ h => h
theorem meets_self (T : List Nat) (h16 : T.length = 16) (hT : ∀ x ∈ T, x < 18446744073709551616) : meetsB T T = decide (0 < cnt T) := by
  by_cases h : cnt T = 0
  · rw [h]
    have hz := (cnt_zero T hT).1 h
    exact meets_no fun k hk => by rw [hz _ (getD_mem (by omega))]; rfl
  · have : decide (0 < cnt T) = true := decide_eq_true (by omega)
    rw [this]
    have hne : ¬ ∀ x ∈ T, x = 0 := fun e => h ((cnt_zero T hT).2 e)
    have : ∃ x ∈ T, x ≠ 0 := by
      apply Classical.byContradiction
      intro hc
      exact hne fun x hx => Classical.byContradiction fun hx0 => hc ⟨x, hx, hx0⟩
    obtain ⟨x, hx, hx0⟩ := this
    obtain ⟨k, hk, rfl⟩ := List.getElem_of_mem hx
    refine meets_yes (k := k) (by omega) ?_
    rw [List.getD_eq_getElem?_getD, List.getElem?_eq_getElem hk, Option.getD_some, Nat.and_self]
    exact hx0
theorem Fam.grown {w w' : World} {R : Nat} {W : World} (hb : Below W.heap.size W w) (hg : w.grownBy w' (some R)) (hR : W.heap.size ≤ R) : Below W.heap.size W w' :=
  hb.grown hg hb.size (fun k hk => by injection hk with hk; omega)
def E0 : List Nat := List.replicate 32 0
def E1 : List Nat := addN 2 100 E0 0 70
def E2 : List Nat := addN 2 100 E1 1 70
theorem e1 : addB 2 100 E0 0 70 = true := by decide +kernel
theorem e2 : addB 2 100 E1 1 70 = true := by decide +kernel
theorem e3 : meetsB (rowI 2 E2 0) (rowI 2 E2 1) = true := by decide +kernel
theorem e4 : addB 2 100 E2 1 70 = false := by decide +kernel
theorem e5 : tot 2 E2 2 = 2 := by decide +kernel
theorem e6 : addN 2 100 E2 1 70 = E2 := by unfold addN; rw [e4]; rfl
theorem w2 : (within 2 5000).toNat = 2 := by decide
theorem w100 : (within 100 1000).toNat = 100 := by decide
set_option maxRecDepth 100000 in
theorem lives (w : World) : Calls Tryd.prog 22 #[] w fun e w' => e = .returned (.bool true) ∧ Below w.heap.size w w' := by
  have HN := Lib.hid (new_ 2 100 w)
  unfold NewPost at HN
  rw [w2, w100] at HN
  have HA0 := Lib.hid (fun B R w h => add_ B R 2 100 E0 0 70 w h)
  have HA1 := Lib.hid (fun B R w h => add_ B R 2 100 E1 1 70 w h)
  have HM := Lib.hid (fun B R w h => meets_ B R 2 100 E2 0 1 w h)
  have HA2 := Lib.hid (fun B R w h => add_ B R 2 100 E2 1 70 w h)
  have HT := Lib.hid (fun B R w h => total B R 2 100 E2 w h)
  unfold AddPost at HA0 HA1 HA2
  unfold InsidePost at HM
  rw [e1, show addN 2 100 E0 0 70 = E1 from rfl] at HA0
  rw [e2, show addN 2 100 E1 1 70 = E2 from rfl] at HA1
  rw [e3] at HM
  rw [e4, e6] at HA2
  rw [e5] at HT
  rw [show List.replicate (2 * 16) 0 = E0 from rfl] at HN
  go_enter Tryd.func22, Tryd.ntmps22
  go_wp2_with fail
  refine HN.out.mono ?_
  rintro e w1 ⟨B, R, rfl, hf, hb, hB, hR⟩
  have HF := Lib.hid hf
  have HB := Lib.hid hb
  have HR := Lib.hid hR
  clear hf hb hR hB
  go_wp2_with fail
  refine (HA0.out B R _ HF.out).mono ?_
  rintro e w3 ⟨rfl, hf, hg⟩
  have HF3 := Lib.hid hf
  have HB3 := Lib.hid (Fam.grown HB.out hg HR.out)
  clear hf hg HF HB
  go_wp2_with fail
  refine (HA1.out B R _ HF3.out).mono ?_
  rintro e w4 ⟨rfl, hf, hg⟩
  have HF4 := Lib.hid hf
  have HB4 := Lib.hid (Fam.grown HB3.out hg HR.out)
  clear hf hg HF3 HB3
  go_wp2_with fail
  refine (HM.out B R _ HF4.out).mono ?_
  rintro e w5 ⟨rfl, hb⟩
  have HF5 := Lib.hid (HF4.out.below hb)
  have HB5 := Lib.hid (HB4.out.trans (hb.mono HB4.out.size))
  clear hb HF4 HB4
  go_wp2_with fail
  refine (HA2.out B R _ HF5.out).mono ?_
  rintro e w6 ⟨rfl, hf, hg⟩
  have HF6 := Lib.hid hf
  have HB6 := Lib.hid (Fam.grown HB5.out hg HR.out)
  clear hf hg HF5 HB5
  go_wp2_with fail
  refine (HT.out B R _ HF6.out).mono ?_
  rintro e w7 ⟨rfl, hb⟩
  have HB7 := Lib.hid (HB6.out.trans (hb.mono HB6.out.size))
  clear hb HF6 HB6
  go_wp2_with fail
  go_ret
  exact ⟨rfl, HB7.out⟩
end Go.Proofs.YtmeiigcjfjapfaaDoor.SetE
