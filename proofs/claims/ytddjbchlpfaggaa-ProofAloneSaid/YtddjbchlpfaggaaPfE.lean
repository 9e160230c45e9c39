/- Rules at places, and what a step asks for: Right at any numbers, rule, isPrin, fits, under, by contract. -/
import Derived.Test.YtddjbchlpfaggaaPfD
import Derived.Test.YtddjbchlpfaggaaSemR
namespace Go.Proofs.Ytddjbchlpfaggaa.PfE
open Go.RowKit Go.Lib Go.Proofs Go.Proofs.Ytddjbchlpfaggaa.Plain Go.Proofs.Ytddjbchlpfaggaa.TblB Go.Proofs.Ytddjbchlpfaggaa.TblC Go.Proofs.Ytddjbchlpfaggaa.TblF Go.Proofs.Ytddjbchlpfaggaa.TblV Go.Proofs.Ytddjbchlpfaggaa.TblP Go.Proofs.Ytddjbchlpfaggaa.TblQ Go.Proofs.Ytddjbchlpfaggaa.SemB Go.Proofs.Ytddjbchlpfaggaa.SemR Go.Proofs.Ytddjbchlpfaggaa.PfM Go.Proofs.Ytddjbchlpfaggaa.PfN Go.Proofs.Ytddjbchlpfaggaa.PfB
set_option linter.unusedVariables false
set_option linter.unusedSimpArgs false
theorem right_zero {P K : Nat} (h : P * K = 0) (u : Ru) : rightU P K u = false := by
  unfold rightU
  rw [h]
  have : allB ((0 : Nat) : Int) [u.head, u.a, u.b] = false := by
    unfold allB
    rw [List.all_eq_false]
    exact ⟨u.head, by simp, by unfold inB; first | (simp; done) | (simp; omega)⟩
  rw [this]
  simp
theorem right_neg {d0 d1 : Int} (h : ¬ (0 ≤ d0 ∧ 0 ≤ d1)) (u : Ru) : rightU d0.toNat d1.toNat u = false := by
  refine right_zero ?_ u
  by_cases h0 : 0 ≤ d0
  · have : d1.toNat = 0 := by omega
    rw [this]; simp
  · have : d0.toNat = 0 := by omega
    rw [this]; simp
theorem right_dims {d0 d1 : Int} {u : Ru} (h : rightU d0.toNat d1.toNat u = true) : 0 ≤ d0 ∧ 0 ≤ d1 := by
  refine Classical.byContradiction fun q => ?_
  rw [right_neg q] at h
  cases h
set_option maxHeartbeats 1000000 in
set_option maxRecDepth 100000 in
theorem rightI (d0 d1 : Int) (u : Ru) (w : World) (g1 : d0 ≤ 64) (g2 : d1 ≤ 64) : Calls Try.prog 32 #[.int .i64 d0, .int .i64 d1, u.val] w fun e w' => e = .returned (.bool (rightU d0.toNat d1.toNat u)) ∧ RowKit.Below w.heap.size w w' := by
  by_cases hd : 0 ≤ d0 ∧ 0 ≤ d1
  · obtain ⟨n0, rfl⟩ : ∃ n : Nat, d0 = n := ⟨d0.toNat, by omega⟩
    obtain ⟨n1, rfl⟩ : ∃ n : Nat, d1 = n := ⟨d1.toNat, by omega⟩
    exact right_ n0 n1 u w (by omega) (by omega)
  · rw [right_neg hd]
    have HB := Lib.hid (fun w' => bare_ u w')
    unfold BarePost at HB
    obtain ⟨k, h, x, a, b, v⟩ := u
    have hU : ∃ u2, bareU ⟨k, h, x, a, b, v⟩ = u2 := ⟨_, rfl⟩
    obtain ⟨⟨k', h', x', a', b', v'⟩, hU⟩ := hU
    rw [hU] at HB
    have hne := neG k' h' x' a' b' v' k h x a b v
    generalize bareK _ = bk at *
    generalize decide ((⟨k', h', x', a', b', v'⟩ : Ru) = ⟨k, h, x, a, b, v⟩) = dd at *
    unfold Ru.val at *
    simp only [Ru.cells] at HB ⊢
    have hb0 : allB 1001 [d0, d1] = false := by
      unfold allB
      rw [List.all_eq_false]
      by_cases h0 : 0 ≤ d0
      · exact ⟨d1, by simp, by unfold inB; simp; omega⟩
      · exact ⟨d0, by simp, by unfold inB; simp; omega⟩
    have HL0 := Lib.hid (fun w' => belowL w' [d0, d1] 1001 (by simp))
    rw [hb0] at HL0
    simp only [List.length_cons, List.length_nil, Nat.zero_add, Nat.reduceAdd, List.map_cons, List.map_nil] at HL0
    clear hU hb0 hd
    go_enter Try.func32, Try.ntmps32
    go_wp2_with fail
    refine (HB.out _).mono ?_
    rintro e w1 ⟨rfl, hb⟩
    have hx1 : w1.heap[w.heap.size]? = some (.cells #[.int .i64 k, .int .i64 h, .int .i64 x, .int .i64 a, .int .i64 b, .int .i64 v] 44 (0, 0)) := (hb.block _ (by simp)).trans (heap_alloc_new w _)
    have hlt1 : w.heap.size < w1.heap.size := (Array.getElem?_eq_some_iff.1 hx1).1
    have hz1 : RowKit.Below w1.heap.size w1 (w1.alloc (.cells #[.int .i64 k', .int .i64 h', .int .i64 x', .int .i64 a', .int .i64 b', .int .i64 v'] 44)) := (Below.refl _ _).alloc (Nat.le_refl _) _
    have HX2 := Lib.hid ((hz1.block w.heap.size hlt1).trans hx1)
    have HY2 := Lib.hid (heap_alloc_new w1 (.cells #[.int .i64 k', .int .i64 h', .int .i64 x', .int .i64 a', .int .i64 b', .int .i64 v'] 44))
    have HB2 := Lib.hid (TblQ.nx (TblQ.nx ((Below.refl w.heap.size w).alloc (Nat.le_refl _) (.cells #[.int .i64 k, .int .i64 h, .int .i64 x, .int .i64 a, .int .i64 b, .int .i64 v] 44)) hb) hz1)
    clear hx1 hz1 hb HB
    go_upto_region 2 with fail
    generalize w1.alloc (.cells #[.int .i64 k', .int .i64 h', .int .i64 x', .int .i64 a', .int .i64 b', .int .i64 v'] 44) = w2 at *
    have c2 := fun o => Lib.cell_of_heap HX2.out o
    have d2 := fun o => Lib.cell_of_heap HY2.out o
    cases bk
    · clear HL0 c2 d2
      go_wp2_with fail
      go_ret
      exact ⟨rfl, HB2.out⟩
    cases dd
    · go_wp2_with fail
      go_ret
      exact ⟨rfl, HB2.out⟩
    go_wp2_with fail
    refine (HL0.out w2).mono ?_
    rintro e w3 ⟨rfl, hb⟩
    have HB3 := Lib.hid (TblQ.nx HB2.out hb)
    clear hb HB2 HX2 HY2 c2 d2 HL0 hne
    go_wp2_with fail
    go_ret
    exact ⟨rfl, HB3.out⟩
set_option maxHeartbeats 1000000 in
set_option maxRecDepth 100000 in
theorem rightD (d0 d1 : Int) (u : Ru) (w : World) (g1 : d0 ≤ 64) (g2 : d1 ≤ 64) : Calls Try.prog 26 #[.int .i64 d0, .int .i64 d1, u.val] w fun e w' => e = .returned (.bool (rightU d0.toNat d1.toNat u)) ∧ RowKit.Below w.heap.size w w' := by
  by_cases hd : 0 ≤ d0 ∧ 0 ≤ d1
  · obtain ⟨n0, rfl⟩ : ∃ n : Nat, d0 = n := ⟨d0.toNat, by omega⟩
    obtain ⟨n1, rfl⟩ : ∃ n : Nat, d1 = n := ⟨d1.toNat, by omega⟩
    exact rightR n0 n1 u w (by omega) (by omega)
  · rw [right_neg hd]
    obtain ⟨k, h, x, a, b, v⟩ := u
    unfold Ru.val
    have HB := Lib.hid ((Below.refl w.heap.size w).alloc (Nat.le_refl _) (.cells #[.int .i64 k, .int .i64 h, .int .i64 x, .int .i64 a, .int .i64 b, .int .i64 v] 44))
    by_cases h0 : d0 < 0
    · have e0 : decide (d0 < 0) = true := decide_eq_true h0
      clear hd
      go_enter Try.func26, Try.ntmps26
      go_wp2_with fail
      go_ret
      exact ⟨rfl, HB.out⟩
    · have e0 : decide (d0 < 0) = false := decide_eq_false h0
      have e1 : decide (d1 < 0) = true := decide_eq_true (by omega)
      clear hd
      go_enter Try.func26, Try.ntmps26
      go_wp2_with fail
      go_ret
      exact ⟨rfl, HB.out⟩
theorem set6 (w3 : World) (b : Nat) (t : TypeId) (u0 u1 u2 u3 u4 u5 : Int) (y : w3.heap[b]? = some (.cells #[.int .i64 0, .int .i64 0, .int .i64 0, .int .i64 0, .int .i64 0, .int .i64 0] t (0, 0))) :
    ∃ w5, ((((((w3.setCell ⟨b, 0, none⟩ (.int .i64 u0)).setCell ⟨b, 1, none⟩ (.int .i64 u1)).setCell ⟨b, 2, none⟩ (.int .i64 u2)).setCell ⟨b, 3, none⟩ (.int .i64 u3)).setCell ⟨b, 4, none⟩ (.int .i64 u4)).setCell ⟨b, 5, none⟩ (.int .i64 u5)) = w5 ∧
      w5.heap[b]? = some (.cells #[.int .i64 u0, .int .i64 u1, .int .i64 u2, .int .i64 u3, .int .i64 u4, .int .i64 u5] t (0, 0)) ∧ (∀ c, c ≠ b → w5.heap[c]? = w3.heap[c]?) ∧ ∀ B w, RowKit.Below B w w3 → B ≤ b → RowKit.Below B w w5 := by
  have s0 := heap_setCell_same w3 b 0 _ _ (.int .i64 u0) y
  have s1 := heap_setCell_same _ b 1 _ _ (.int .i64 u1) s0
  have s2 := heap_setCell_same _ b 2 _ _ (.int .i64 u2) s1
  have s3 := heap_setCell_same _ b 3 _ _ (.int .i64 u3) s2
  have s4 := heap_setCell_same _ b 4 _ _ (.int .i64 u4) s3
  have s5 := heap_setCell_same _ b 5 _ _ (.int .i64 u5) s4
  refine ⟨_, rfl, s5, fun c hc => ?_, fun B w hb hB => ?_⟩
  · exact (set_other _ _ _ _ hc).trans ((set_other _ _ _ _ hc).trans ((set_other _ _ _ _ hc).trans ((set_other _ _ _ _ hc).trans ((set_other _ _ _ _ hc).trans (set_other _ _ _ _ hc)))))
  · exact (((((hb.setCell hB _).setCell hB _).setCell hB _).setCell hB _).setCell hB _).setCell hB _
/-- A ground's value. -/
def gv (d0 d1 : Int) (A : Option Addr) (n ca : Nat) : Value := .agg #[.int .i64 d0, .int .i64 d1, .slice A n ca]
def RulePost' (r : Option Ru) (w : World) (e : Ending) (w' : World) : Prop :=
  ∃ v : Ru, e = .returned (.tuple #[.agg #[.int .i64 v.kind, .int .i64 v.head, .int .i64 v.who, .int .i64 v.a, .int .i64 v.b, .int .i64 v.via], .bool r.isSome]) ∧ (∀ u, r = some u → v = u) ∧ RowKit.Below w.heap.size w w'
def RulePost (P K : Nat) (L : List Ru) (i : Int) (w : World) (e : Ending) (w' : World) : Prop :=
  ∃ v : Ru, e = .returned (.tuple #[.agg #[.int .i64 v.kind, .int .i64 v.head, .int .i64 v.who, .int .i64 v.a, .int .i64 v.b, .int .i64 v.via], .bool (ruleAt P K L i).isSome]) ∧ (∀ u, ruleAt P K L i = some u → v = u) ∧ RowKit.Below w.heap.size w w'
set_option maxHeartbeats 1000000 in
set_option maxRecDepth 100000 in
theorem rule (d0 d1 : Int) (A : Option Addr) (ca : Nat) (L : List Ru) (i : Int) (w : World) (g1 : d0 ≤ 64) (g2 : d1 ≤ 64) (hL : L.length ≤ 1000) (hA : UG w A L) :
    Calls Try.prog 22 #[.agg #[.int .i64 d0, .int .i64 d1, .slice A L.length ca], .int .i64 i] w (RulePost d0.toNat d1.toNat L i w) := by
  have hb0 : RowKit.Below w.heap.size w ((w.alloc (.cells #[.int .i64 d0, .int .i64 d1, .slice A L.length ca] 50)).alloc (.cells #[.int .i64 0, .int .i64 0, .int .i64 0, .int .i64 0, .int .i64 0, .int .i64 0] 44)) := ((Below.refl _ _).alloc (Nat.le_refl _) _).alloc (by simp) _
  have hd1 := heap_alloc2_old w (.cells #[.int .i64 d0, .int .i64 d1, .slice A L.length ca] 50) (.cells #[.int .i64 0, .int .i64 0, .int .i64 0, .int .i64 0, .int .i64 0, .int .i64 0] 44)
  have hd2 := heap_alloc2_new w (.cells #[.int .i64 d0, .int .i64 d1, .slice A L.length ca] 50) (.cells #[.int .i64 0, .int .i64 0, .int .i64 0, .int .i64 0, .int .i64 0, .int .i64 0] 44)
  have e64 : decide ((64 : Int) < d0) = false := by simp; omega
  have e65 : decide ((64 : Int) < d1) = false := by simp; omega
  by_cases h0 : i < 0
  · have e0 : decide (i < 0) = true := decide_eq_true h0
    have hn : ruleAt d0.toNat d1.toNat L i = none := by unfold ruleAt; rw [if_pos h0]
    unfold RulePost
    rw [hn]
    have HB := Lib.hid hb0
    clear hn hA
    go_enter Try.func22, Try.ntmps22
    go_wp2_with fail
    have hl := fun o => Lib.cell_of_heap hd2 o
    exact bodyPost_ret (v := .tuple #[.agg #[.int .i64 0, .int .i64 0, .int .i64 0, .int .i64 0, .int .i64 0, .int .i64 0], .bool false]) (by simp [results, Try.results22, go_sem, hl]) rfl ⟨⟨0, 0, 0, 0, 0, 0⟩, rfl, (fun u hu => nomatch hu), HB.out⟩
  · obtain ⟨j, rfl⟩ : ∃ j : Nat, i = j := ⟨i.toNat, by omega⟩
    have e0 : decide ((j : Int) < 0) = false := decide_eq_false h0
    by_cases h1 : j < L.length
    · have e1 : decide ((L.length : Int) ≤ j) = false := decide_eq_false (by omega)
      obtain ⟨g, o, rfl, hg, hc⟩ := hA (by omega)
      have hcj := hc j h1
      have hLj : L[j]? = some L[j] := List.getElem?_eq_getElem h1
      have hrat := ruleAt_nat (P := d0.toNat) (K := d1.toNat) hLj
      have HR := Lib.hid (fun w' => rightI d0 d1 L[j] w' g1 g2)
      unfold RulePost
      rw [hrat]
      have HC := Lib.hid (fun w' (hb : RowKit.Below w.heap.size w w') (k : Nat) (hk : k < 6) => (hb.cell (p := ⟨g, o + j * 6 + k, none⟩) hg).trans (hcj k hk))
      clear hA hc hcj hLj hrat
      generalize hu : L[j] = u at *
      have e1' : (if rightU d0.toNat d1.toNat u = true then some u else none).isSome = rightU d0.toNat d1.toNat u := by cases rightU d0.toNat d1.toNat u <;> rfl
      rw [e1']
      have HU : Hid (∀ v, (if rightU d0.toNat d1.toNat u = true then some u else none) = some v → u = v) := Lib.hid (fun v hv => by split at hv <;> simp_all)
      generalize (if rightU d0.toNat d1.toNat u = true then some u else none) = uo at *
      generalize rightU d0.toNat d1.toNat u = ans at *
      clear e1'
      obtain ⟨u0, u1, u2, u3, u4, u5⟩ := u
      unfold Ru.val Ru.cells at *
      simp only at HR HC HU ⊢
      have q0 : (0 : Int) ≤ j := by omega
      have q1 : (j : Int) < L.length := by omega
      have HB0 := Lib.hid hb0
      have HD1 := Lib.hid hd1
      have HD2 := Lib.hid hd2
      clear hb0 hd1 hd2 hu
      go_enter Try.func22, Try.ntmps22
      go_upto_region 1 with fail
      obtain ⟨bx, hbx⟩ : ∃ bx, w.heap.size = bx := ⟨_, rfl⟩
      simp only [hbx] at HB0 HD1 HD2 HC ⊢
      generalize (w.alloc (.cells #[.int .i64 d0, .int .i64 d1, .slice (some ⟨g, o, none⟩) L.length ca] 50)).alloc (.cells #[.int .i64 0, .int .i64 0, .int .i64 0, .int .i64 0, .int .i64 0, .int .i64 0] 44) = w2 at *
      have c1 := fun o => Lib.cell_of_heap HD1.out o
      have c2 := fun o => Lib.cell_of_heap HD2.out o
      have hf : ∀ o, w2.frozen? ⟨bx + 1, o, none⟩ = false := fun o => frozen_of_row _ _ _ _ _ HD2.out
      have k0 := HC.out w2 HB0.out 0 (by omega)
      have k1 := HC.out w2 HB0.out 1 (by omega)
      have k2 := HC.out w2 HB0.out 2 (by omega)
      have k3 := HC.out w2 HB0.out 3 (by omega)
      have k4 := HC.out w2 HB0.out 4 (by omega)
      have k5 := HC.out w2 HB0.out 5 (by omega)
      have HSet : Hid (∀ w' w5 : World, RowKit.Below w2.heap.size w2 w' → (∀ b, b ≠ bx + 1 → w5.heap[b]? = w'.heap[b]?) → (∀ k, w5.cell? ⟨bx, k, none⟩ = (#[.int .i64 d0, .int .i64 d1, .slice (some ⟨g, o, none⟩) L.length ca] : Array Value)[k]?) ∧ w5.cell? ⟨g, o + j * 6, none⟩ = some (.int .i64 u0) ∧ w5.cell? ⟨g, o + j * 6 + 1, none⟩ = some (.int .i64 u1) ∧ w5.cell? ⟨g, o + j * 6 + 2, none⟩ = some (.int .i64 u2) ∧ w5.cell? ⟨g, o + j * 6 + 3, none⟩ = some (.int .i64 u3) ∧ w5.cell? ⟨g, o + j * 6 + 4, none⟩ = some (.int .i64 u4) ∧ w5.cell? ⟨g, o + j * 6 + 5, none⟩ = some (.int .i64 u5)) := Lib.hid (fun w' w5 hb h5 => by
        have hbw : RowKit.Below bx w w' := HB0.out.trans (hb.mono (by rw [← hbx]; exact HB0.out.size))
        have y1 := (hb.block _ (lt_of HD1.out)).trans HD1.out
        have hgb : g ≠ bx + 1 := by omega
        have hcg : ∀ k, w5.cell? ⟨g, k, none⟩ = w'.cell? ⟨g, k, none⟩ := fun k => World.cell?_of_block (h5 g hgb)
        exact ⟨fun k => Lib.cell_of_heap ((h5 bx (by omega)).trans y1) k, (hcg _).trans (HC.out w' hbw 0 (by omega)), (hcg _).trans (HC.out w' hbw 1 (by omega)), (hcg _).trans (HC.out w' hbw 2 (by omega)), (hcg _).trans (HC.out w' hbw 3 (by omega)), (hcg _).trans (HC.out w' hbw 4 (by omega)), (hcg _).trans (HC.out w' hbw 5 (by omega))⟩)
      have a0 := HSet.out w2.drew w2.drew ((Below.refl w2.heap.size w2).drew) (fun _ _ => rfl)
      clear k0 k1 k2 k3 k4 k5
      go_wp2_with fail
      clear c1 c2 hf
      refine wp_region_held_drew (S := fun w' => (∀ k, w'.cell? ⟨bx, k, none⟩ = (#[.int .i64 d0, .int .i64 d1, .slice (some ⟨g, o, none⟩) L.length ca] : Array Value)[k]?) ∧ w'.cell? ⟨g, o + j * 6, none⟩ = some (.int .i64 u0) ∧ w'.cell? ⟨g, o + j * 6 + 1, none⟩ = some (.int .i64 u1) ∧ w'.cell? ⟨g, o + j * 6 + 2, none⟩ = some (.int .i64 u2) ∧ w'.cell? ⟨g, o + j * 6 + 3, none⟩ = some (.int .i64 u3) ∧ w'.cell? ⟨g, o + j * 6 + 4, none⟩ = some (.int .i64 u4) ∧ w'.cell? ⟨g, o + j * 6 + 5, none⟩ = some (.int .i64 u5)) (by kernel_rfl) a0 (fun hHeld => ?_)
      refine wpAnyH_take (i := 0) (v := ?_) rfl (by kernel_rfl) (by kernel_rfl) (by kernel_rfl) (fun _ _ _ h => h) (Or.inl ⟨by kernel_rfl, ?_⟩) (by assumption) ?_
      rotate_left
      · intro w hSw; (try dsimp only at hSw); go_simp; try with_reducible rfl
      try simp only [Act.put, List.setIfInBounds_toArray, List.set_cons_zero, List.set_cons_succ]
      refine wpAnyH_take (i := 1) (v := ?_) rfl (by kernel_rfl) (by kernel_rfl) (by kernel_rfl) (fun _ _ _ h => h) (Or.inl ⟨by kernel_rfl, ?_⟩) (by assumption) ?_
      rotate_left
      · intro w hSw; (try dsimp only at hSw); go_simp; try with_reducible rfl
      try simp only [Act.put, List.setIfInBounds_toArray, List.set_cons_zero, List.set_cons_succ]
      refine wpAnyH_take (i := 2) (v := ?_) rfl (by kernel_rfl) (by kernel_rfl) (by kernel_rfl) (fun _ _ _ h => h) (Or.inl ⟨by kernel_rfl, ?_⟩) (by assumption) ?_
      rotate_left
      · intro w hSw; (try dsimp only at hSw); go_simp; try with_reducible rfl
      try simp only [Act.put, List.setIfInBounds_toArray, List.set_cons_zero, List.set_cons_succ]
      refine wpAnyH_take (i := 3) (v := ?_) rfl (by kernel_rfl) (by kernel_rfl) (by kernel_rfl) (fun _ _ _ h => h) (Or.inl ⟨by kernel_rfl, ?_⟩) (by assumption) ?_
      rotate_left
      · intro w hSw; (try dsimp only at hSw); go_simp; try with_reducible rfl
      try simp only [Act.put, List.setIfInBounds_toArray, List.set_cons_zero, List.set_cons_succ]
      refine wpAnyH_take (i := 4) (v := ?_) rfl (by kernel_rfl) (by kernel_rfl) (by kernel_rfl) (fun _ _ _ h => h) (Or.inl ⟨by kernel_rfl, ?_⟩) (by assumption) ?_
      rotate_left
      · intro w hSw; (try dsimp only at hSw); go_simp; try with_reducible rfl
      try simp only [Act.put, List.setIfInBounds_toArray, List.set_cons_zero, List.set_cons_succ]
      refine wpAnyH_take (i := 5) (v := ?_) rfl (by kernel_rfl) (by kernel_rfl) (by kernel_rfl) (fun _ _ _ h => h) (Or.inl ⟨by kernel_rfl, ?_⟩) (by assumption) ?_
      rotate_left
      · intro w hSw; (try dsimp only at hSw); go_simp; try with_reducible rfl
      try simp only [Act.put, List.setIfInBounds_toArray, List.set_cons_zero, List.set_cons_succ]
      refine wpAnyH_take (i := 6) (v := ?_) rfl (by kernel_rfl) (by kernel_rfl) (by kernel_rfl) (fun _ _ _ h => h) (Or.inl ⟨by kernel_rfl, ?_⟩) (by assumption) ?_
      rotate_left
      · intro w hSw; (try dsimp only at hSw); go_simp; try with_reducible rfl
      try simp only [Act.put, List.setIfInBounds_toArray, List.set_cons_zero, List.set_cons_succ]
      refine wpAnyH_take (i := 7) (v := ?_) rfl (by kernel_rfl) (by kernel_rfl) (by kernel_rfl) (fun _ _ _ h => h) (Or.inl ⟨by kernel_rfl, ?_⟩) (by assumption) ?_
      rotate_left
      · intro w hSw; (try dsimp only at hSw); go_simp; try with_reducible rfl
      try simp only [Act.put, List.setIfInBounds_toArray, List.set_cons_zero, List.set_cons_succ]
      refine wpAnyH_take (i := 8) (v := ?_) rfl (by kernel_rfl) (by kernel_rfl) (by kernel_rfl) (fun _ _ _ h => h) (Or.inl ⟨by kernel_rfl, ?_⟩) (by assumption) ?_
      rotate_left
      · intro w hSw; (try dsimp only at hSw); go_simp; try with_reducible rfl
      try simp only [Act.put, List.setIfInBounds_toArray, List.set_cons_zero, List.set_cons_succ]
      refine wpAnyH_take (i := 9) (v := ?_) rfl (by kernel_rfl) (by kernel_rfl) (by kernel_rfl) (fun _ _ _ h => h) (Or.inl ⟨by kernel_rfl, ?_⟩) (by assumption) ?_
      rotate_left
      · intro w hSw; (try dsimp only at hSw); go_simp; try with_reducible rfl
      try simp only [Act.put, List.setIfInBounds_toArray, List.set_cons_zero, List.set_cons_succ]
      refine wpAnyH_take (i := 10) (v := ?_) rfl (by kernel_rfl) (by kernel_rfl) (by kernel_rfl) (fun _ _ _ h => h) (Or.inl ⟨by kernel_rfl, ?_⟩) (by assumption) ?_
      rotate_left
      · intro w hSw; (try dsimp only at hSw); go_simp; try with_reducible rfl
      try simp only [Act.put, List.setIfInBounds_toArray, List.set_cons_zero, List.set_cons_succ]
      refine wpAnyH_take (i := 11) (v := ?_) rfl (by kernel_rfl) (by kernel_rfl) (by kernel_rfl) (fun _ _ _ h => h) (Or.inl ⟨by kernel_rfl, ?_⟩) (by assumption) ?_
      rotate_left
      · intro w hSw; (try dsimp only at hSw); go_simp; try with_reducible rfl
      try simp only [Act.put, List.setIfInBounds_toArray, List.set_cons_zero, List.set_cons_succ]
      refine wpAnyH_take (i := 12) (v := ?_) rfl (by kernel_rfl) (by kernel_rfl) (by kernel_rfl) (fun _ _ _ h => h) (Or.inl ⟨by kernel_rfl, ?_⟩) (by assumption) ?_
      rotate_left
      · intro w hSw; (try dsimp only at hSw); go_simp; try with_reducible rfl
      try simp only [Act.put, List.setIfInBounds_toArray, List.set_cons_zero, List.set_cons_succ]
      refine wpAnyH_take (i := 13) (v := ?_) rfl (by kernel_rfl) (by kernel_rfl) (by kernel_rfl) (fun _ _ _ h => h) (Or.inl ⟨by kernel_rfl, ?_⟩) (by assumption) ?_
      rotate_left
      · intro w hSw; (try dsimp only at hSw); go_simp; try with_reducible rfl
      try simp only [Act.put, List.setIfInBounds_toArray, List.set_cons_zero, List.set_cons_succ]
      refine wpAnyH_ready (rs := [14]) (by kernel_rfl) (by simp) ?_
      refine AllReadyH.cons rfl (fun K hK => ?_) AllReadyH.nil
      go_simp
      refine (HR.out _).mono ?_
      rintro e w3 ⟨rfl, hb3⟩
      have hb4 := TblQ.nx ((Below.refl w2.heap.size w2).drew) hb3
      have b0 := HSet.out w3 w3 hb4 (fun _ _ => rfl)
      have y2 : w3.heap[bx + 1]? = some (.cells #[.int .i64 0, .int .i64 0, .int .i64 0, .int .i64 0, .int .i64 0, .int .i64 0] 44 (0, 0)) := (hb4.block _ (lt_of HD2.out)).trans HD2.out
      refine hK.out _ _ b0 (fun hHeld => ?_)
      clear hK K
      try simp only [Act.put, List.setIfInBounds_toArray, List.set_cons_zero, List.set_cons_succ]
      have c3 := fun o => Lib.cell_of_heap y2 o
      have f3 : ∀ o, w3.frozen? ⟨bx + 1, o, none⟩ = false := fun o => frozen_of_row _ _ _ _ _ y2
      refine wpAnyH_ready (rs := [15]) (by kernel_rfl) (by simp) ?_
      refine AllReadyH.cons rfl (fun K hK => ?_) AllReadyH.nil
      go_simp
      obtain ⟨w5, hw5, s5, o5, l5⟩ := set6 w3 (bx + 1) 44 u0 u1 u2 u3 u4 u5 y2
      rw [hw5]
      refine hK.out _ _ (HSet.out w3 w5 hb4 o5) (fun hHeld => ?_)
      clear hK K
      try simp only [Act.put, List.setIfInBounds_toArray, List.set_cons_zero, List.set_cons_succ]
      refine wpAnyH_ready (rs := [16]) (by kernel_rfl) (by simp) ?_
      refine AllReadyH.cons rfl (fun K hK => ?_) AllReadyH.nil
      go_simp
      refine hK.out _ _ hHeld (fun hHeld => ?_)
      clear hK K
      try simp only [Act.put, List.setIfInBounds_toArray, List.set_cons_zero, List.set_cons_succ]
      refine wpAnyH_done (by kernel_rfl) ?_ _
      clear hHeld
      go_wp2_with fail
      have hl := fun o => Lib.cell_of_heap s5 o
      have HBF := Lib.hid (l5 bx w (HB0.out.trans (hb4.mono (by rw [← hbx]; exact HB0.out.size))) (by omega))
      refine bodyPost_ret (v := .tuple #[.agg #[.int .i64 u0, .int .i64 u1, .int .i64 u2, .int .i64 u3, .int .i64 u4, .int .i64 u5], .bool ans]) (by simp [results, Try.results22, go_sem, hl]) rfl ?_
      exact ⟨⟨u0, u1, u2, u3, u4, u5⟩, rfl, HU.out, by first | exact HBF.out | (rw [hbx]; exact HBF.out)⟩
    · have e1 : decide ((L.length : Int) ≤ j) = true := decide_eq_true (by omega)
      have hn : ruleAt d0.toNat d1.toNat L j = none := by
        unfold ruleAt
        rw [if_neg (by omega), Int.toNat_natCast, List.getElem?_eq_none (by omega)]
        rfl
      have HP : RulePost d0.toNat d1.toNat L j w = RulePost' none w := by
        unfold RulePost RulePost'
        rw [hn]
      rw [HP]
      clear HP
      have HB := Lib.hid hb0
      clear hn hA
      go_enter Try.func22, Try.ntmps22
      go_wp2_with fail
      have hl := fun o => Lib.cell_of_heap hd2 o
      refine bodyPost_ret (v := .tuple #[.agg #[.int .i64 0, .int .i64 0, .int .i64 0, .int .i64 0, .int .i64 0, .int .i64 0], .bool false]) (by simp [results, Try.results22, go_sem, hl]) rfl ?_
      exact (show RulePost' none w _ _ from ⟨⟨0, 0, 0, 0, 0, 0⟩, rfl, (fun u hu => nomatch hu), HB.out⟩)
end Go.Proofs.Ytddjbchlpfaggaa.PfE
