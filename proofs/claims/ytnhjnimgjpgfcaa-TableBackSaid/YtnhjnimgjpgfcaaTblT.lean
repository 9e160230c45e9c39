/- Rules and statements undo each other: plain maths. -/
import Derived.Test.YtnhjnimgjpgfcaaTblR
namespace Go.Proofs.Ytnhjnimgjpgfcaa.TblT
open Go.RowKit Go.Sort Go.Lib Go.Proofs Go.Proofs.Ytnhjnimgjpgfcaa.Plain Go.Proofs.Ytnhjnimgjpgfcaa.SynP Go.Proofs.Ytnhjnimgjpgfcaa.TabP Go.Proofs.Ytnhjnimgjpgfcaa.Tab1 Go.Proofs.Ytnhjnimgjpgfcaa.Tab2 Go.Proofs.Ytnhjnimgjpgfcaa.TblA Go.Proofs.Ytnhjnimgjpgfcaa.TblB Go.Proofs.Ytnhjnimgjpgfcaa.TblC Go.Proofs.Ytnhjnimgjpgfcaa.TblF Go.Proofs.Ytnhjnimgjpgfcaa.TblP Go.Proofs.Ytnhjnimgjpgfcaa.TblQ Go.Proofs.Ytnhjnimgjpgfcaa.TblR
set_option linter.unusedVariables false
set_option linter.unusedSimpArgs false
theorem cmpR_anti (a b : Rl) : cmpR b a = - cmpR a b := by
  unfold cmpR orL orL orL
  rw [cmpB_anti a.owner b.owner, cmpB_anti a.name b.name]
  by_cases h : cmpB a.owner b.owner = 0
  · by_cases h2 : cmpB a.name b.name = 0
    · simp [h, h2]
    · simp [h, h2]
  · simp [h]
theorem txt_toList (l : Str) : (txt l).toList = l := by unfold txt; rw [Go.ByteArray.toList_eq]
theorem txt_data (l : Str) : (txt l).data.toList = l := by unfold txt; simp
theorem txt_of (s : ByteArray) : txt s.toList = s := by unfold txt; rw [Go.ByteArray.toList_eq]
theorem findI_get {T : List Str} {s : Str} (h : 0 ≤ findI T s) : (findI T s).toNat < T.length ∧ T.getD (findI T s).toNat [] = s := by
  unfold findI at *
  by_cases hm : s ∈ T
  · rw [if_pos hm] at h ⊢
    have hlt := List.idxOf_lt_length_iff.2 hm
    rw [Int.toNat_natCast, List.getD_eq_getElem?_getD, List.getElem?_eq_getElem hlt]
    exact ⟨hlt, List.getElem_idxOf hlt⟩
  · rw [if_neg hm] at h; omega
theorem role_get {P L : List Str} {r : Rl} (h : 0 ≤ roleI P L r) : roleI P L r < ((P.length * L.length : Nat) : Int) ∧ rolI P L (roleI P L r) = r := by
  have hbd := roleI_bd P L r
  have hlt : roleI P L r < ((P.length * L.length : Nat) : Int) := by rw [Int.natCast_mul]; omega
  refine ⟨hlt, ?_⟩
  unfold rolI
  rw [if_pos ⟨h, hlt⟩]
  unfold roleI at *
  by_cases hh : findI P r.owner.toList < 0 ∨ findI L r.name.toList < 0
  · rw [if_pos hh] at h; omega
  · rw [if_neg hh] at h hlt ⊢
    obtain ⟨a1, a2⟩ := findI_get (T := P) (s := r.owner.toList) (by omega)
    obtain ⟨b1, b2⟩ := findI_get (T := L) (s := r.name.toList) (by omega)
    have hx : 0 ≤ findI P r.owner.toList := by omega
    have hy : 0 ≤ findI L r.name.toList := by omega
    generalize findI P r.owner.toList = x at *
    generalize findI L r.name.toList = y at *
    obtain ⟨i, rfl⟩ : ∃ i : Nat, x = i := ⟨x.toNat, by omega⟩
    obtain ⟨j, rfl⟩ : ∃ i : Nat, y = i := ⟨y.toNat, by omega⟩
    rw [Int.toNat_natCast] at a1 a2 b1 b2
    have e : ((i : Int) * (L.length : Int) + (j : Int)).toNat = i * L.length + j := by
      rw [← Int.natCast_mul, ← Int.natCast_add, Int.toNat_natCast]
    rw [e]
    have hdiv : (i * L.length + j) / L.length = i := by
      rw [Nat.mul_comm, Nat.mul_add_div (by omega), Nat.div_eq_of_lt b1, Nat.add_zero]
    have hmod : (i * L.length + j) % L.length = j := by
      rw [Nat.mul_comm, Nat.mul_add_mod, Nat.mod_eq_of_lt b1]
    rw [hdiv, hmod, a2, b2, txt_of, txt_of]
/-- All names are such as they may be. -/
def Good (P L : List Str) : Prop := (∀ s ∈ P, named capB s = true) ∧ ∀ s ∈ L, named smallB s = true
theorem role_at {P L : List Str} (hP : P.Pairwise (· < ·)) (hL : L.Pairwise (· < ·)) (hg : Good P L) {i : Int} (h : inB ((P.length * L.length : Nat) : Int) i = true) : (rolI P L i).ok = true ∧ roleI P L (rolI P L i) = i := by
  unfold inB at h
  rw [decide_eq_true_eq] at h
  unfold rolI
  rw [if_pos h]
  have h0 : 0 < L.length := by
    rcases Nat.eq_zero_or_pos L.length with h0 | h0
    · rw [h0, Nat.mul_zero] at h; omega
    · exact h0
  obtain ⟨n, rfl⟩ : ∃ n : Nat, i = n := ⟨i.toNat, by omega⟩
  have hj : n < P.length * L.length := by omega
  rw [Int.toNat_natCast]
  have hx : n / L.length < P.length := Nat.div_lt_of_lt_mul (by rw [Nat.mul_comm]; exact hj)
  have hy : n % L.length < L.length := Nat.mod_lt _ h0
  rw [List.getD_eq_getElem?_getD, List.getD_eq_getElem?_getD, List.getElem?_eq_getElem hx, List.getElem?_eq_getElem hy]
  simp only [Option.getD_some]
  constructor
  · unfold Rl.ok
    simp only
    rw [txt_data, txt_data, hg.1 _ (List.getElem_mem _), hg.2 _ (List.getElem_mem _)]
    rfl
  · unfold roleI
    simp only
    rw [txt_toList, txt_toList, findI_hit hP hx rfl, findI_hit hL hy rfl, if_neg (by rintro (hx | hx) <;> exact absurd hx (Int.not_lt.2 (Int.natCast_nonneg _)))]
    rw [← Int.natCast_mul, ← Int.natCast_add, Nat.mul_comm, Nat.div_add_mod]
theorem own_of_right {s : St} (h : s.right = true) : s.head.ok = true ∧ s.says = true ∧ s = s.own := by
  unfold St.right at h
  rw [Bool.and_eq_true, Bool.and_eq_true] at h
  exact ⟨h.1.1, h.1.2, of_decide_eq_true h.2⟩
theorem inB_of {n x : Int} (h : 0 ≤ x) (h2 : x < n) : inB n x = true := by unfold inB; exact decide_eq_true ⟨h, h2⟩
theorem one_in {n x : Int} : allB n [x] = inB n x := by simp [allB]
theorem three_in {n x y z : Int} : allB n [x, y, z] = (inB n x && (inB n y && inB n z)) := by simp [allB]
theorem decb {a : Int} (h : decide (0 ≤ a) = true) : 0 ≤ a := of_decide_eq_true h
/-- The rule of a statement is that statement's. -/
theorem there {P L : List Str} {s : St} (h : ruleOk P L s = true) : rightU P.length L.length (ruleV P L s) = true ∧ stA P L (ruleV P L s) = s := by
  unfold ruleOk at h
  rw [Bool.and_eq_true, Bool.and_eq_true] at h
  obtain ⟨⟨hr, hh⟩, hrest⟩ := h
  obtain ⟨h1, h2, h3⟩ := own_of_right hr
  have hh := decb hh
  obtain ⟨a1, a2⟩ := role_get hh
  have hk := kind_of_right hr
  obtain ⟨k, hd, wh, ra, rb, v⟩ := s
  simp only at hh a1 a2 hk h1
  have hn : 0 < P.length ∧ 0 < L.length := by
    constructor
    · rcases Nat.eq_zero_or_pos P.length with h0 | h0
      · rw [h0, Nat.zero_mul] at a1; omega
      · exact h0
    · rcases Nat.eq_zero_or_pos L.length with h0 | h0
      · rw [h0, Nat.mul_zero] at a1; omega
      · exact h0
  have hz : inB ((P.length * L.length : Nat) : Int) 0 = true := inB_of (by omega) (by have := Nat.mul_pos hn.1 hn.2; omega)
  have hzP : inB (P.length : Int) 0 = true := inB_of (by omega) (by omega)
  have hzL : inB (L.length : Int) 0 = true := inB_of (by omega) (by omega)
  have hH := inB_of hh a1
  rcases hk with rfl | rfl | rfl | rfl
  · have hw : 0 ≤ findI P wh.toList := decb hrest
    obtain ⟨b1, b2⟩ := findI_get hw
    have hv : ruleV P L ⟨1, hd, wh, ra, rb, v⟩ = ⟨1, roleI P L hd, findI P wh.toList, 0, 0, 0⟩ := rfl
    have hR : rightU P.length L.length ⟨1, roleI P L hd, findI P wh.toList, 0, 0, 0⟩ = true := by
      unfold rightU
      rw [three_in, one_in, one_in]
      simp only
      rw [hH, hz, hzL, inB_of hw (by omega)]
      simp [bareK, bareU]
    rw [hv]
    refine ⟨hR, ?_⟩
    unfold stA
    rw [hR, if_pos rfl]
    have hs : stU P L ⟨1, roleI P L hd, findI P wh.toList, 0, 0, 0⟩ = ⟨1, rolI P L (roleI P L hd), txt (P.getD (findI P wh.toList).toNat []), zeroR, zeroR, noText⟩ := rfl
    rw [hs, a2, b2, txt_of, h3]
    rfl
  · have ha : 0 ≤ roleI P L ra := decb hrest
    obtain ⟨b1, b2⟩ := role_get ha
    have hv : ruleV P L ⟨2, hd, wh, ra, rb, v⟩ = ⟨2, roleI P L hd, 0, roleI P L ra, 0, 0⟩ := rfl
    have hR : rightU P.length L.length ⟨2, roleI P L hd, 0, roleI P L ra, 0, 0⟩ = true := by
      unfold rightU
      rw [three_in, one_in, one_in]
      simp only
      rw [hH, hz, hzL, hzP, inB_of ha b1]
      simp [bareK, bareU]
    rw [hv]
    refine ⟨hR, ?_⟩
    unfold stA
    rw [hR, if_pos rfl]
    have hs : stU P L ⟨2, roleI P L hd, 0, roleI P L ra, 0, 0⟩ = ⟨2, rolI P L (roleI P L hd), noText, rolI P L (roleI P L ra), zeroR, noText⟩ := rfl
    rw [hs, a2, b2, h3]
    rfl
  · have hrest2 : (decide (0 ≤ findI L v.toList) && decide (0 ≤ roleI P L ra)) = true := hrest
    rw [Bool.and_eq_true] at hrest2
    have hw : 0 ≤ findI L v.toList := decb hrest2.1
    have ha : 0 ≤ roleI P L ra := decb hrest2.2
    obtain ⟨b1, b2⟩ := role_get ha
    obtain ⟨c1, c2⟩ := findI_get hw
    have hv : ruleV P L ⟨3, hd, wh, ra, rb, v⟩ = ⟨3, roleI P L hd, 0, roleI P L ra, 0, findI L v.toList⟩ := rfl
    have hR : rightU P.length L.length ⟨3, roleI P L hd, 0, roleI P L ra, 0, findI L v.toList⟩ = true := by
      unfold rightU
      rw [three_in, one_in, one_in]
      simp only
      rw [hH, hz, hzP, inB_of ha b1, inB_of hw (by omega)]
      simp [bareK, bareU]
    rw [hv]
    refine ⟨hR, ?_⟩
    unfold stA
    rw [hR, if_pos rfl]
    have hs : stU P L ⟨3, roleI P L hd, 0, roleI P L ra, 0, findI L v.toList⟩ = ⟨3, rolI P L (roleI P L hd), noText, rolI P L (roleI P L ra), zeroR, txt (L.getD (findI L v.toList).toNat [])⟩ := rfl
    rw [hs, a2, b2, c2, txt_of, h3]
    rfl
  · have hrest2 : (decide (0 ≤ roleI P L ra) && decide (0 ≤ roleI P L rb)) = true := hrest
    rw [Bool.and_eq_true] at hrest2
    have ha : 0 ≤ roleI P L ra := decb hrest2.1
    have hb : 0 ≤ roleI P L rb := decb hrest2.2
    obtain ⟨b1, b2⟩ := role_get ha
    obtain ⟨c1, c2⟩ := role_get hb
    have hv : ruleV P L ⟨4, hd, wh, ra, rb, v⟩ = ⟨4, roleI P L hd, 0, roleI P L ra, roleI P L rb, 0⟩ := rfl
    have hR : rightU P.length L.length ⟨4, roleI P L hd, 0, roleI P L ra, roleI P L rb, 0⟩ = true := by
      unfold rightU
      rw [three_in, one_in, one_in]
      simp only
      rw [hH, hzL, hzP, inB_of ha b1, inB_of hb c1]
      simp [bareK, bareU]
    rw [hv]
    refine ⟨hR, ?_⟩
    unfold stA
    rw [hR, if_pos rfl]
    have hs : stU P L ⟨4, roleI P L hd, 0, roleI P L ra, roleI P L rb, 0⟩ = ⟨4, rolI P L (roleI P L hd), noText, rolI P L (roleI P L ra), rolI P L (roleI P L rb), noText⟩ := rfl
    have h2' : (ra.ok && rb.ok && !decide (cmpR rb ra < 0)) = true := h2
    rw [Bool.and_eq_true] at h2'
    have hcmp : ¬ cmpR rb ra < 0 := by simpa using h2'.2
    rw [hs, a2, b2, c2, h3]
    show St.normal ⟨4, hd, noText, ra, rb, noText⟩ = ⟨4, hd, noText, ra, rb, noText⟩
    unfold St.normal
    rw [if_neg (by rintro ⟨_, h⟩; exact hcmp h)]
/-- A rule as a statement, and back. -/
theorem back {P L : List Str} (hP : P.Pairwise (· < ·)) (hL : L.Pairwise (· < ·)) (hg : Good P L) {u : Ru} (h : rightU P.length L.length u = true) :
    (stA P L u).right = true ∧ ruleOk P L (stA P L u) = true ∧ (ruleV P L (stA P L u) = u ∨ (u.kind = 4 ∧ ruleV P L (stA P L u) = ⟨4, u.head, 0, u.b, u.a, 0⟩ ∧ u = ⟨4, u.head, 0, u.a, u.b, 0⟩)) := by
  have hA : stA P L u = (stU P L u).normal := by unfold stA; rw [h]; rfl
  rw [hA]
  clear hA
  unfold rightU at h
  simp only [Bool.and_eq_true] at h
  obtain ⟨hk, hb, h3, h1, h2⟩ := h
  have hb := of_decide_eq_true hb
  rw [three_in, Bool.and_eq_true, Bool.and_eq_true] at h3
  rw [one_in] at h1 h2
  obtain ⟨hh, ha, hbb⟩ := h3
  obtain ⟨k, d, x, y, z, v⟩ := u
  simp only at hh ha hbb h1 h2
  obtain ⟨d1, d2⟩ := role_at hP hL hg hh
  obtain ⟨a1, a2⟩ := role_at hP hL hg ha
  obtain ⟨b1, b2⟩ := role_at hP hL hg hbb
  have hd0 : 0 ≤ d := by unfold inB at hh; exact (of_decide_eq_true hh).1
  have ha0 : 0 ≤ y := by unfold inB at ha; exact (of_decide_eq_true ha).1
  have hb0 : 0 ≤ z := by unfold inB at hbb; exact (of_decide_eq_true hbb).1
  have hkk : k = 1 ∨ k = 2 ∨ k = 3 ∨ k = 4 := by
    unfold bareK at hk
    simp at hk
    omega
  rcases hkk with rfl | rfl | rfl | rfl
  · obtain ⟨rfl, rfl, rfl⟩ : y = 0 ∧ z = 0 ∧ v = 0 := by
      have : (⟨1, d, x, 0, 0, 0⟩ : Ru) = ⟨1, d, x, y, z, v⟩ := hb
      injection this with _ _ _ e1 e2 e3
      exact ⟨e1.symm, e2.symm, e3.symm⟩
    unfold inB at h1
    have h1 := of_decide_eq_true h1
    obtain ⟨n, rfl⟩ : ∃ n : Nat, x = n := ⟨x.toNat, by omega⟩
    have hn : n < P.length := by omega
    have hs : (stU P L ⟨1, d, n, 0, 0, 0⟩).normal = ⟨1, rolI P L d, txt P[n], zeroR, zeroR, noText⟩ := by
      have : stU P L ⟨1, d, n, 0, 0, 0⟩ = ⟨1, rolI P L d, txt (P.getD ((n : Int).toNat) []), zeroR, zeroR, noText⟩ := rfl
      rw [this, Int.toNat_natCast, List.getD_eq_getElem?_getD, List.getElem?_eq_getElem hn]
      rfl
    rw [hs]
    have hf : findI P (txt P[n]).toList = n := by rw [txt_toList]; exact findI_hit hP hn rfl
    have hr : St.right ⟨1, rolI P L d, txt P[n], zeroR, zeroR, noText⟩ = true := by
      have : St.says ⟨1, rolI P L d, txt P[n], zeroR, zeroR, noText⟩ = true := by
        show named capB (txt P[n]).data.toList = true
        rw [txt_data]; exact hg.1 _ (List.getElem_mem _)
      unfold St.right
      rw [this]
      simp only
      rw [d1]
      simp [St.own]
    have hv : ruleV P L ⟨1, rolI P L d, txt P[n], zeroR, zeroR, noText⟩ = ⟨1, d, n, 0, 0, 0⟩ := by
      show (⟨1, roleI P L (rolI P L d), findI P (txt P[n]).toList, 0, 0, 0⟩ : Ru) = _
      rw [d2, hf]
    refine ⟨hr, ?_, Or.inl hv⟩
    unfold ruleOk
    rw [hr]
    show (true && decide (0 ≤ roleI P L (rolI P L d)) && decide (0 ≤ findI P (txt P[n]).toList)) = true
    rw [d2, hf]
    simp; omega
  · obtain ⟨rfl, rfl, rfl⟩ : x = 0 ∧ z = 0 ∧ v = 0 := by
      have : (⟨2, d, 0, y, 0, 0⟩ : Ru) = ⟨2, d, x, y, z, v⟩ := hb
      injection this with _ _ e1 _ e2 e3
      exact ⟨e1.symm, e2.symm, e3.symm⟩
    have hs : (stU P L ⟨2, d, 0, y, 0, 0⟩).normal = ⟨2, rolI P L d, noText, rolI P L y, zeroR, noText⟩ := rfl
    rw [hs]
    have hr : St.right ⟨2, rolI P L d, noText, rolI P L y, zeroR, noText⟩ = true := by
      have : St.says ⟨2, rolI P L d, noText, rolI P L y, zeroR, noText⟩ = true := a1
      unfold St.right
      rw [this]
      simp only
      rw [d1]
      simp [St.own]
    have hv : ruleV P L ⟨2, rolI P L d, noText, rolI P L y, zeroR, noText⟩ = ⟨2, d, 0, y, 0, 0⟩ := by
      show (⟨2, roleI P L (rolI P L d), 0, roleI P L (rolI P L y), 0, 0⟩ : Ru) = _
      rw [d2, a2]
    refine ⟨hr, ?_, Or.inl hv⟩
    unfold ruleOk
    rw [hr]
    show (true && decide (0 ≤ roleI P L (rolI P L d)) && decide (0 ≤ roleI P L (rolI P L y))) = true
    rw [d2, a2]
    simp; omega
  · obtain ⟨rfl, rfl⟩ : x = 0 ∧ z = 0 := by
      have : (⟨3, d, 0, y, 0, v⟩ : Ru) = ⟨3, d, x, y, z, v⟩ := hb
      injection this with _ _ e1 _ e2 _
      exact ⟨e1.symm, e2.symm⟩
    unfold inB at h2
    have h2 := of_decide_eq_true h2
    obtain ⟨n, rfl⟩ : ∃ n : Nat, v = n := ⟨v.toNat, by omega⟩
    have hn : n < L.length := by omega
    have hs : (stU P L ⟨3, d, 0, y, 0, n⟩).normal = ⟨3, rolI P L d, noText, rolI P L y, zeroR, txt L[n]⟩ := by
      have : stU P L ⟨3, d, 0, y, 0, n⟩ = ⟨3, rolI P L d, noText, rolI P L y, zeroR, txt (L.getD ((n : Int).toNat) [])⟩ := rfl
      rw [this, Int.toNat_natCast, List.getD_eq_getElem?_getD, List.getElem?_eq_getElem hn]
      rfl
    rw [hs]
    have hf : findI L (txt L[n]).toList = n := by rw [txt_toList]; exact findI_hit hL hn rfl
    have hr : St.right ⟨3, rolI P L d, noText, rolI P L y, zeroR, txt L[n]⟩ = true := by
      have : St.says ⟨3, rolI P L d, noText, rolI P L y, zeroR, txt L[n]⟩ = true := by
        show ((rolI P L y).ok && named smallB (txt L[n]).data.toList) = true
        rw [txt_data, a1, hg.2 _ (List.getElem_mem _)]; rfl
      unfold St.right
      rw [this]
      simp only
      rw [d1]
      simp [St.own]
    have hv : ruleV P L ⟨3, rolI P L d, noText, rolI P L y, zeroR, txt L[n]⟩ = ⟨3, d, 0, y, 0, n⟩ := by
      show (⟨3, roleI P L (rolI P L d), 0, roleI P L (rolI P L y), 0, findI L (txt L[n]).toList⟩ : Ru) = _
      rw [d2, a2, hf]
    refine ⟨hr, ?_, Or.inl hv⟩
    unfold ruleOk
    rw [hr]
    show (true && decide (0 ≤ roleI P L (rolI P L d)) && (decide (0 ≤ findI L (txt L[n]).toList) && decide (0 ≤ roleI P L (rolI P L y)))) = true
    rw [d2, a2, hf]
    simp; omega
  · obtain ⟨rfl, rfl⟩ : x = 0 ∧ v = 0 := by
      have : (⟨4, d, 0, y, z, 0⟩ : Ru) = ⟨4, d, x, y, z, v⟩ := hb
      injection this with _ _ e1 _ _ e2
      exact ⟨e1.symm, e2.symm⟩
    have hs : stU P L ⟨4, d, 0, y, z, 0⟩ = ⟨4, rolI P L d, noText, rolI P L y, rolI P L z, noText⟩ := rfl
    rw [hs]
    have key : ∀ i j : Int, 0 ≤ i → 0 ≤ j → (rolI P L i).ok = true → (rolI P L j).ok = true → roleI P L (rolI P L i) = i → roleI P L (rolI P L j) = j → ¬ cmpR (rolI P L j) (rolI P L i) < 0 →
        St.right ⟨4, rolI P L d, noText, rolI P L i, rolI P L j, noText⟩ = true ∧ ruleOk P L ⟨4, rolI P L d, noText, rolI P L i, rolI P L j, noText⟩ = true ∧ ruleV P L ⟨4, rolI P L d, noText, rolI P L i, rolI P L j, noText⟩ = ⟨4, d, 0, i, j, 0⟩ := by
      intro i j hi hj o1 o2 e1 e2 hc
      have hr : St.right ⟨4, rolI P L d, noText, rolI P L i, rolI P L j, noText⟩ = true := by
        have : St.says ⟨4, rolI P L d, noText, rolI P L i, rolI P L j, noText⟩ = true := by
          show ((rolI P L i).ok && (rolI P L j).ok && !decide (cmpR (rolI P L j) (rolI P L i) < 0)) = true
          rw [o1, o2, decide_eq_false hc]; rfl
        unfold St.right
        rw [this]
        simp only
        rw [d1]
        simp [St.own]
      refine ⟨hr, ?_, ?_⟩
      · unfold ruleOk
        rw [hr]
        show (true && decide (0 ≤ roleI P L (rolI P L d)) && (decide (0 ≤ roleI P L (rolI P L i)) && decide (0 ≤ roleI P L (rolI P L j)))) = true
        rw [d2, e1, e2]
        simp; omega
      · show (⟨4, roleI P L (rolI P L d), 0, roleI P L (rolI P L i), roleI P L (rolI P L j), 0⟩ : Ru) = _
        rw [d2, e1, e2]
    by_cases hc : cmpR (rolI P L z) (rolI P L y) < 0
    · have hn : St.normal ⟨4, rolI P L d, noText, rolI P L y, rolI P L z, noText⟩ = ⟨4, rolI P L d, noText, rolI P L z, rolI P L y, noText⟩ := by
        unfold St.normal
        rw [if_pos ⟨rfl, hc⟩]
      rw [hn]
      obtain ⟨r1, r2, r3⟩ := key z y hb0 ha0 b1 a1 b2 a2 (by rw [cmpR_anti]; omega)
      exact ⟨r1, r2, Or.inr ⟨rfl, r3, rfl⟩⟩
    · have hn : St.normal ⟨4, rolI P L d, noText, rolI P L y, rolI P L z, noText⟩ = ⟨4, rolI P L d, noText, rolI P L y, rolI P L z, noText⟩ := by
        unfold St.normal
        rw [if_neg (by rintro ⟨_, h⟩; exact hc h)]
      rw [hn]
      obtain ⟨r1, r2, r3⟩ := key y z ha0 hb0 a1 b1 a2 b2 hc
      exact ⟨r1, r2, Or.inl r3⟩
end Go.Proofs.Ytnhjnimgjpgfcaa.TblT
