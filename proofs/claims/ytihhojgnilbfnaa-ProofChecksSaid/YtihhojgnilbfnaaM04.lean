/- Rules at places, and what a step asks for: Right at any numbers, rule, isPrin, fits, under, by contract. -/
import Derived.Test.YtihhojgnilbfnaaM02
import Derived.Test.YtihhojgnilbfnaaM03
import Derived.Laws.EntriesVeiled
namespace Go.Proofs.Ytihhojgnilbfnaa.PfE
set_option linter.unusedVariables false
set_option linter.unusedSimpArgs false
open Go.RowKit Go.Lib Go.Proofs Go.Proofs.Ytihhojgnilbfnaa.Plain Go.Proofs.Ytihhojgnilbfnaa.TblB Go.Proofs.Ytihhojgnilbfnaa.TblC Go.Proofs.Ytihhojgnilbfnaa.TblF Go.Proofs.Ytihhojgnilbfnaa.TblV Go.Proofs.Ytihhojgnilbfnaa.TblP Go.Proofs.Ytihhojgnilbfnaa.TblQ Go.Proofs.Ytihhojgnilbfnaa.SemB Go.Proofs.Ytihhojgnilbfnaa.SemR Go.Proofs.Ytihhojgnilbfnaa.PfM Go.Proofs.Ytihhojgnilbfnaa.PfN Go.Proofs.Ytihhojgnilbfnaa.PfB
set_option linter.unusedVariables false
set_option linter.unusedSimpArgs false
theorem right_zero {P K : Nat} (h : P * K = 0) (u : Ru) : rightU P K u = false := by
  unfold rightU
  rw [h]
  have : allB ((0 : Nat) : Int) [u.head, u.a, u.b] = false := by
    unfold allB
    rw [List.all_eq_false]
    exact ⟨u.head, by simp, by unfold inB; first | (simp; done) | (simp; omega)⟩
  rw [this]
  simp
theorem right_neg {d0 d1 : Int} (h : ¬ (0 ≤ d0 ∧ 0 ≤ d1)) (u : Ru) : rightU d0.toNat d1.toNat u = false := by
  refine right_zero ?_ u
  by_cases h0 : 0 ≤ d0
  · have : d1.toNat = 0 := by omega
    rw [this]; simp
  · have : d0.toNat = 0 := by omega
    rw [this]; simp
theorem right_dims {d0 d1 : Int} {u : Ru} (h : rightU d0.toNat d1.toNat u = true) : 0 ≤ d0 ∧ 0 ≤ d1 := by
  refine Classical.byContradiction fun q => ?_
  rw [right_neg q] at h
  cases h
set_option maxHeartbeats 1000000 in
set_option maxRecDepth 100000 in
theorem rightI (d0 d1 : Int) (u : Ru) (w : World) (g1 : d0 ≤ 64) (g2 : d1 ≤ 64) : Calls Try.prog 32 #[.int .i64 d0, .int .i64 d1, u.val] w fun e w' => e = .returned (.bool (rightU d0.toNat d1.toNat u)) ∧ RowKit.Below w.heap.size w w' := by
  by_cases hd : 0 ≤ d0 ∧ 0 ≤ d1
  · obtain ⟨n0, rfl⟩ : ∃ n : Nat, d0 = n := ⟨d0.toNat, by omega⟩
    obtain ⟨n1, rfl⟩ : ∃ n : Nat, d1 = n := ⟨d1.toNat, by omega⟩
    exact right_ n0 n1 u w (by omega) (by omega)
  · rw [right_neg hd]
    have HB := Lib.hid (fun w' => bare_ u w')
    unfold BarePost at HB
    obtain ⟨k, h, x, a, b, v⟩ := u
    have hU : ∃ u2, bareU ⟨k, h, x, a, b, v⟩ = u2 := ⟨_, rfl⟩
    obtain ⟨⟨k', h', x', a', b', v'⟩, hU⟩ := hU
    rw [hU] at HB
    have hne := neG k' h' x' a' b' v' k h x a b v
    generalize bareK _ = bk at *
    generalize decide ((⟨k', h', x', a', b', v'⟩ : Ru) = ⟨k, h, x, a, b, v⟩) = dd at *
    unfold Ru.val at *
    simp only [Ru.cells] at HB ⊢
    have hb0 : allB 1001 [d0, d1] = false := by
      unfold allB
      rw [List.all_eq_false]
      by_cases h0 : 0 ≤ d0
      · exact ⟨d1, by simp, by unfold inB; simp; omega⟩
      · exact ⟨d0, by simp, by unfold inB; simp; omega⟩
    have HL0 := Lib.hid (fun w' => belowL w' [d0, d1] 1001 (by simp))
    rw [hb0] at HL0
    simp only [List.length_cons, List.length_nil, Nat.zero_add, Nat.reduceAdd, List.map_cons, List.map_nil] at HL0
    clear hU hb0 hd
    go_enter Try.func32, Try.ntmps32
    go_wp2_with fail
    refine (HB.out _).mono ?_
    rintro e w1 ⟨rfl, hb⟩
    have hx1 : w1.heap[w.heap.size]? = some (.cells #[.int .i64 k, .int .i64 h, .int .i64 x, .int .i64 a, .int .i64 b, .int .i64 v] 44 (0, 0)) := (hb.block _ (by simp)).trans (heap_alloc_new w _)
    have hlt1 : w.heap.size < w1.heap.size := (Array.getElem?_eq_some_iff.1 hx1).1
    have hz1 : RowKit.Below w1.heap.size w1 (w1.alloc (.cells #[.int .i64 k', .int .i64 h', .int .i64 x', .int .i64 a', .int .i64 b', .int .i64 v'] 44)) := (Below.refl _ _).alloc (Nat.le_refl _) _
    have HX2 := Lib.hid ((hz1.block w.heap.size hlt1).trans hx1)
    have HY2 := Lib.hid (heap_alloc_new w1 (.cells #[.int .i64 k', .int .i64 h', .int .i64 x', .int .i64 a', .int .i64 b', .int .i64 v'] 44))
    have HB2 := Lib.hid (TblQ.nx (TblQ.nx ((Below.refl w.heap.size w).alloc (Nat.le_refl _) (.cells #[.int .i64 k, .int .i64 h, .int .i64 x, .int .i64 a, .int .i64 b, .int .i64 v] 44)) hb) hz1)
    clear hx1 hz1 hb HB
    go_upto_region 2 with fail
    generalize w1.alloc (.cells #[.int .i64 k', .int .i64 h', .int .i64 x', .int .i64 a', .int .i64 b', .int .i64 v'] 44) = w2 at *
    have c2 := fun o => Lib.cell_of_heap HX2.out o
    have d2 := fun o => Lib.cell_of_heap HY2.out o
    cases bk
    · clear HL0 c2 d2
      go_wp2_with fail
      go_ret
      exact ⟨rfl, HB2.out⟩
    cases dd
    · go_wp2_with fail
      go_ret
      exact ⟨rfl, HB2.out⟩
    go_wp2_with fail
    refine (HL0.out w2).mono ?_
    rintro e w3 ⟨rfl, hb⟩
    have HB3 := Lib.hid (TblQ.nx HB2.out hb)
    clear hb HB2 HX2 HY2 c2 d2 HL0 hne
    go_wp2_with fail
    go_ret
    exact ⟨rfl, HB3.out⟩
set_option maxHeartbeats 1000000 in
set_option maxRecDepth 100000 in
theorem rightD (d0 d1 : Int) (u : Ru) (w : World) (g1 : d0 ≤ 64) (g2 : d1 ≤ 64) : Calls Try.prog 26 #[.int .i64 d0, .int .i64 d1, u.val] w fun e w' => e = .returned (.bool (rightU d0.toNat d1.toNat u)) ∧ RowKit.Below w.heap.size w w' := by
  by_cases hd : 0 ≤ d0 ∧ 0 ≤ d1
  · obtain ⟨n0, rfl⟩ : ∃ n : Nat, d0 = n := ⟨d0.toNat, by omega⟩
    obtain ⟨n1, rfl⟩ : ∃ n : Nat, d1 = n := ⟨d1.toNat, by omega⟩
    exact rightR n0 n1 u w (by omega) (by omega)
  · rw [right_neg hd]
    obtain ⟨k, h, x, a, b, v⟩ := u
    unfold Ru.val
    have HB := Lib.hid ((Below.refl w.heap.size w).alloc (Nat.le_refl _) (.cells #[.int .i64 k, .int .i64 h, .int .i64 x, .int .i64 a, .int .i64 b, .int .i64 v] 44))
    by_cases h0 : d0 < 0
    · have e0 : decide (d0 < 0) = true := decide_eq_true h0
      clear hd
      go_enter Try.func26, Try.ntmps26
      go_wp2_with fail
      go_ret
      exact ⟨rfl, HB.out⟩
    · have e0 : decide (d0 < 0) = false := decide_eq_false h0
      have e1 : decide (d1 < 0) = true := decide_eq_true (by omega)
      clear hd
      go_enter Try.func26, Try.ntmps26
      go_wp2_with fail
      go_ret
      exact ⟨rfl, HB.out⟩
theorem set6 (w3 : World) (b : Nat) (t : TypeId) (u0 u1 u2 u3 u4 u5 : Int) (y : w3.heap[b]? = some (.cells #[.int .i64 0, .int .i64 0, .int .i64 0, .int .i64 0, .int .i64 0, .int .i64 0] t (0, 0))) :
    ∃ w5, ((((((w3.setCell ⟨b, 0, none⟩ (.int .i64 u0)).setCell ⟨b, 1, none⟩ (.int .i64 u1)).setCell ⟨b, 2, none⟩ (.int .i64 u2)).setCell ⟨b, 3, none⟩ (.int .i64 u3)).setCell ⟨b, 4, none⟩ (.int .i64 u4)).setCell ⟨b, 5, none⟩ (.int .i64 u5)) = w5 ∧
      w5.heap[b]? = some (.cells #[.int .i64 u0, .int .i64 u1, .int .i64 u2, .int .i64 u3, .int .i64 u4, .int .i64 u5] t (0, 0)) ∧ (∀ c, c ≠ b → w5.heap[c]? = w3.heap[c]?) ∧ ∀ B w, RowKit.Below B w w3 → B ≤ b → RowKit.Below B w w5 := by
  have s0 := heap_setCell_same w3 b 0 _ _ (.int .i64 u0) y
  have s1 := heap_setCell_same _ b 1 _ _ (.int .i64 u1) s0
  have s2 := heap_setCell_same _ b 2 _ _ (.int .i64 u2) s1
  have s3 := heap_setCell_same _ b 3 _ _ (.int .i64 u3) s2
  have s4 := heap_setCell_same _ b 4 _ _ (.int .i64 u4) s3
  have s5 := heap_setCell_same _ b 5 _ _ (.int .i64 u5) s4
  refine ⟨_, rfl, s5, fun c hc => ?_, fun B w hb hB => ?_⟩
  · exact (set_other _ _ _ _ hc).trans ((set_other _ _ _ _ hc).trans ((set_other _ _ _ _ hc).trans ((set_other _ _ _ _ hc).trans ((set_other _ _ _ _ hc).trans (set_other _ _ _ _ hc)))))
  · exact (((((hb.setCell hB _).setCell hB _).setCell hB _).setCell hB _).setCell hB _).setCell hB _
/-- A ground's value. -/
def gv (d0 d1 : Int) (A : Option Addr) (n ca : Nat) : Value := .agg #[.int .i64 d0, .int .i64 d1, .slice A n ca]
def RulePost' (r : Option Ru) (w : World) (e : Ending) (w' : World) : Prop :=
  ∃ v : Ru, e = .returned (.tuple #[.agg #[.int .i64 v.kind, .int .i64 v.head, .int .i64 v.who, .int .i64 v.a, .int .i64 v.b, .int .i64 v.via], .bool r.isSome]) ∧ (∀ u, r = some u → v = u) ∧ RowKit.Below w.heap.size w w'
def RulePost (P K : Nat) (L : List Ru) (i : Int) (w : World) (e : Ending) (w' : World) : Prop :=
  ∃ v : Ru, e = .returned (.tuple #[.agg #[.int .i64 v.kind, .int .i64 v.head, .int .i64 v.who, .int .i64 v.a, .int .i64 v.b, .int .i64 v.via], .bool (ruleAt P K L i).isSome]) ∧ (∀ u, ruleAt P K L i = some u → v = u) ∧ RowKit.Below w.heap.size w w'
set_option maxHeartbeats 1000000 in
set_option maxRecDepth 100000 in
theorem rule (d0 d1 : Int) (A : Option Addr) (ca : Nat) (L : List Ru) (i : Int) (w : World) (g1 : d0 ≤ 64) (g2 : d1 ≤ 64) (hL : L.length ≤ 1000) (hA : UG w A L) :
    Calls Try.prog 22 #[.agg #[.int .i64 d0, .int .i64 d1, .slice A L.length ca], .int .i64 i] w (RulePost d0.toNat d1.toNat L i w) := by
  have hb0 : RowKit.Below w.heap.size w ((w.alloc (.cells #[.int .i64 d0, .int .i64 d1, .slice A L.length ca] 50)).alloc (.cells #[.int .i64 0, .int .i64 0, .int .i64 0, .int .i64 0, .int .i64 0, .int .i64 0] 44)) := ((Below.refl _ _).alloc (Nat.le_refl _) _).alloc (by simp) _
  have hd1 := heap_alloc2_old w (.cells #[.int .i64 d0, .int .i64 d1, .slice A L.length ca] 50) (.cells #[.int .i64 0, .int .i64 0, .int .i64 0, .int .i64 0, .int .i64 0, .int .i64 0] 44)
  have hd2 := heap_alloc2_new w (.cells #[.int .i64 d0, .int .i64 d1, .slice A L.length ca] 50) (.cells #[.int .i64 0, .int .i64 0, .int .i64 0, .int .i64 0, .int .i64 0, .int .i64 0] 44)
  have e64 : decide ((64 : Int) < d0) = false := by simp; omega
  have e65 : decide ((64 : Int) < d1) = false := by simp; omega
  by_cases h0 : i < 0
  · have e0 : decide (i < 0) = true := decide_eq_true h0
    have hn : ruleAt d0.toNat d1.toNat L i = none := by unfold ruleAt; rw [if_pos h0]
    unfold RulePost
    rw [hn]
    have HB := Lib.hid hb0
    clear hn hA
    go_enter Try.func22, Try.ntmps22
    go_wp2_with fail
    have hl := fun o => Lib.cell_of_heap hd2 o
    exact bodyPost_ret (v := .tuple #[.agg #[.int .i64 0, .int .i64 0, .int .i64 0, .int .i64 0, .int .i64 0, .int .i64 0], .bool false]) (by simp [results, Try.results22, go_sem, hl]) rfl ⟨⟨0, 0, 0, 0, 0, 0⟩, rfl, (fun u hu => nomatch hu), HB.out⟩
  · obtain ⟨j, rfl⟩ : ∃ j : Nat, i = j := ⟨i.toNat, by omega⟩
    have e0 : decide ((j : Int) < 0) = false := decide_eq_false h0
    by_cases h1 : j < L.length
    · have e1 : decide ((L.length : Int) ≤ j) = false := decide_eq_false (by omega)
      obtain ⟨g, o, rfl, hg, hc⟩ := hA (by omega)
      have hcj := hc j h1
      have hLj : L[j]? = some L[j] := List.getElem?_eq_getElem h1
      have hrat := ruleAt_nat (P := d0.toNat) (K := d1.toNat) hLj
      have HR := Lib.hid (fun w' => rightI d0 d1 L[j] w' g1 g2)
      unfold RulePost
      rw [hrat]
      have HC := Lib.hid (fun w' (hb : RowKit.Below w.heap.size w w') (k : Nat) (hk : k < 6) => (hb.cell (p := ⟨g, o + j * 6 + k, none⟩) hg).trans (hcj k hk))
      clear hA hc hcj hLj hrat
      generalize hu : L[j] = u at *
      have e1' : (if rightU d0.toNat d1.toNat u = true then some u else none).isSome = rightU d0.toNat d1.toNat u := by cases rightU d0.toNat d1.toNat u <;> rfl
      rw [e1']
      have HU : Hid (∀ v, (if rightU d0.toNat d1.toNat u = true then some u else none) = some v → u = v) := Lib.hid (fun v hv => by split at hv <;> simp_all)
      generalize (if rightU d0.toNat d1.toNat u = true then some u else none) = uo at *
      generalize rightU d0.toNat d1.toNat u = ans at *
      clear e1'
      obtain ⟨u0, u1, u2, u3, u4, u5⟩ := u
      unfold Ru.val Ru.cells at *
      simp only at HR HC HU ⊢
      have q0 : (0 : Int) ≤ j := by omega
      have q1 : (j : Int) < L.length := by omega
      have HB0 := Lib.hid hb0
      have HD1 := Lib.hid hd1
      have HD2 := Lib.hid hd2
      clear hb0 hd1 hd2 hu
      go_enter Try.func22, Try.ntmps22
      go_upto_region 1 with fail
      obtain ⟨bx, hbx⟩ : ∃ bx, w.heap.size = bx := ⟨_, rfl⟩
      simp only [hbx] at HB0 HD1 HD2 HC ⊢
      generalize (w.alloc (.cells #[.int .i64 d0, .int .i64 d1, .slice (some ⟨g, o, none⟩) L.length ca] 50)).alloc (.cells #[.int .i64 0, .int .i64 0, .int .i64 0, .int .i64 0, .int .i64 0, .int .i64 0] 44) = w2 at *
      have c1 := fun o => Lib.cell_of_heap HD1.out o
      have c2 := fun o => Lib.cell_of_heap HD2.out o
      have hf : ∀ o, w2.frozen? ⟨bx + 1, o, none⟩ = false := fun o => frozen_of_row _ _ _ _ _ HD2.out
      have k0 := HC.out w2 HB0.out 0 (by omega)
      have k1 := HC.out w2 HB0.out 1 (by omega)
      have k2 := HC.out w2 HB0.out 2 (by omega)
      have k3 := HC.out w2 HB0.out 3 (by omega)
      have k4 := HC.out w2 HB0.out 4 (by omega)
      have k5 := HC.out w2 HB0.out 5 (by omega)
      have HSet : Hid (∀ w' w5 : World, RowKit.Below w2.heap.size w2 w' → (∀ b, b ≠ bx + 1 → w5.heap[b]? = w'.heap[b]?) → (∀ k, w5.cell? ⟨bx, k, none⟩ = (#[.int .i64 d0, .int .i64 d1, .slice (some ⟨g, o, none⟩) L.length ca] : Array Value)[k]?) ∧ w5.cell? ⟨g, o + j * 6, none⟩ = some (.int .i64 u0) ∧ w5.cell? ⟨g, o + j * 6 + 1, none⟩ = some (.int .i64 u1) ∧ w5.cell? ⟨g, o + j * 6 + 2, none⟩ = some (.int .i64 u2) ∧ w5.cell? ⟨g, o + j * 6 + 3, none⟩ = some (.int .i64 u3) ∧ w5.cell? ⟨g, o + j * 6 + 4, none⟩ = some (.int .i64 u4) ∧ w5.cell? ⟨g, o + j * 6 + 5, none⟩ = some (.int .i64 u5)) := Lib.hid (fun w' w5 hb h5 => by
        have hbw : RowKit.Below bx w w' := HB0.out.trans (hb.mono (by rw [← hbx]; exact HB0.out.size))
        have y1 := (hb.block _ (lt_of HD1.out)).trans HD1.out
        have hgb : g ≠ bx + 1 := by omega
        have hcg : ∀ k, w5.cell? ⟨g, k, none⟩ = w'.cell? ⟨g, k, none⟩ := fun k => World.cell?_of_block (h5 g hgb)
        exact ⟨fun k => Lib.cell_of_heap ((h5 bx (by omega)).trans y1) k, (hcg _).trans (HC.out w' hbw 0 (by omega)), (hcg _).trans (HC.out w' hbw 1 (by omega)), (hcg _).trans (HC.out w' hbw 2 (by omega)), (hcg _).trans (HC.out w' hbw 3 (by omega)), (hcg _).trans (HC.out w' hbw 4 (by omega)), (hcg _).trans (HC.out w' hbw 5 (by omega))⟩)
      have a0 := HSet.out w2.drew w2.drew ((Below.refl w2.heap.size w2).drew) (fun _ _ => rfl)
      clear k0 k1 k2 k3 k4 k5
      go_wp2_with fail
      clear c1 c2 hf
      refine wp_region_held_drew (S := fun w' => (∀ k, w'.cell? ⟨bx, k, none⟩ = (#[.int .i64 d0, .int .i64 d1, .slice (some ⟨g, o, none⟩) L.length ca] : Array Value)[k]?) ∧ w'.cell? ⟨g, o + j * 6, none⟩ = some (.int .i64 u0) ∧ w'.cell? ⟨g, o + j * 6 + 1, none⟩ = some (.int .i64 u1) ∧ w'.cell? ⟨g, o + j * 6 + 2, none⟩ = some (.int .i64 u2) ∧ w'.cell? ⟨g, o + j * 6 + 3, none⟩ = some (.int .i64 u3) ∧ w'.cell? ⟨g, o + j * 6 + 4, none⟩ = some (.int .i64 u4) ∧ w'.cell? ⟨g, o + j * 6 + 5, none⟩ = some (.int .i64 u5)) (by kernel_rfl) a0 (fun hHeld => ?_)
      refine wpAnyH_take (i := 0) (v := ?_) rfl (by kernel_rfl) (by kernel_rfl) (by kernel_rfl) (fun _ _ _ h => h) (Or.inl ⟨by kernel_rfl, ?_⟩) (by assumption) ?_
      rotate_left
      · intro w hSw; (try dsimp only at hSw); go_simp; try with_reducible rfl
      try simp only [Act.put, List.setIfInBounds_toArray, List.set_cons_zero, List.set_cons_succ]
      refine wpAnyH_take (i := 1) (v := ?_) rfl (by kernel_rfl) (by kernel_rfl) (by kernel_rfl) (fun _ _ _ h => h) (Or.inl ⟨by kernel_rfl, ?_⟩) (by assumption) ?_
      rotate_left
      · intro w hSw; (try dsimp only at hSw); go_simp; try with_reducible rfl
      try simp only [Act.put, List.setIfInBounds_toArray, List.set_cons_zero, List.set_cons_succ]
      refine wpAnyH_take (i := 2) (v := ?_) rfl (by kernel_rfl) (by kernel_rfl) (by kernel_rfl) (fun _ _ _ h => h) (Or.inl ⟨by kernel_rfl, ?_⟩) (by assumption) ?_
      rotate_left
      · intro w hSw; (try dsimp only at hSw); go_simp; try with_reducible rfl
      try simp only [Act.put, List.setIfInBounds_toArray, List.set_cons_zero, List.set_cons_succ]
      refine wpAnyH_take (i := 3) (v := ?_) rfl (by kernel_rfl) (by kernel_rfl) (by kernel_rfl) (fun _ _ _ h => h) (Or.inl ⟨by kernel_rfl, ?_⟩) (by assumption) ?_
      rotate_left
      · intro w hSw; (try dsimp only at hSw); go_simp; try with_reducible rfl
      try simp only [Act.put, List.setIfInBounds_toArray, List.set_cons_zero, List.set_cons_succ]
      refine wpAnyH_take (i := 4) (v := ?_) rfl (by kernel_rfl) (by kernel_rfl) (by kernel_rfl) (fun _ _ _ h => h) (Or.inl ⟨by kernel_rfl, ?_⟩) (by assumption) ?_
      rotate_left
      · intro w hSw; (try dsimp only at hSw); go_simp; try with_reducible rfl
      try simp only [Act.put, List.setIfInBounds_toArray, List.set_cons_zero, List.set_cons_succ]
      refine wpAnyH_take (i := 5) (v := ?_) rfl (by kernel_rfl) (by kernel_rfl) (by kernel_rfl) (fun _ _ _ h => h) (Or.inl ⟨by kernel_rfl, ?_⟩) (by assumption) ?_
      rotate_left
      · intro w hSw; (try dsimp only at hSw); go_simp; try with_reducible rfl
      try simp only [Act.put, List.setIfInBounds_toArray, List.set_cons_zero, List.set_cons_succ]
      refine wpAnyH_take (i := 6) (v := ?_) rfl (by kernel_rfl) (by kernel_rfl) (by kernel_rfl) (fun _ _ _ h => h) (Or.inl ⟨by kernel_rfl, ?_⟩) (by assumption) ?_
      rotate_left
      · intro w hSw; (try dsimp only at hSw); go_simp; try with_reducible rfl
      try simp only [Act.put, List.setIfInBounds_toArray, List.set_cons_zero, List.set_cons_succ]
      refine wpAnyH_take (i := 7) (v := ?_) rfl (by kernel_rfl) (by kernel_rfl) (by kernel_rfl) (fun _ _ _ h => h) (Or.inl ⟨by kernel_rfl, ?_⟩) (by assumption) ?_
      rotate_left
      · intro w hSw; (try dsimp only at hSw); go_simp; try with_reducible rfl
      try simp only [Act.put, List.setIfInBounds_toArray, List.set_cons_zero, List.set_cons_succ]
      refine wpAnyH_take (i := 8) (v := ?_) rfl (by kernel_rfl) (by kernel_rfl) (by kernel_rfl) (fun _ _ _ h => h) (Or.inl ⟨by kernel_rfl, ?_⟩) (by assumption) ?_
      rotate_left
      · intro w hSw; (try dsimp only at hSw); go_simp; try with_reducible rfl
      try simp only [Act.put, List.setIfInBounds_toArray, List.set_cons_zero, List.set_cons_succ]
      refine wpAnyH_take (i := 9) (v := ?_) rfl (by kernel_rfl) (by kernel_rfl) (by kernel_rfl) (fun _ _ _ h => h) (Or.inl ⟨by kernel_rfl, ?_⟩) (by assumption) ?_
      rotate_left
      · intro w hSw; (try dsimp only at hSw); go_simp; try with_reducible rfl
      try simp only [Act.put, List.setIfInBounds_toArray, List.set_cons_zero, List.set_cons_succ]
      refine wpAnyH_take (i := 10) (v := ?_) rfl (by kernel_rfl) (by kernel_rfl) (by kernel_rfl) (fun _ _ _ h => h) (Or.inl ⟨by kernel_rfl, ?_⟩) (by assumption) ?_
      rotate_left
      · intro w hSw; (try dsimp only at hSw); go_simp; try with_reducible rfl
      try simp only [Act.put, List.setIfInBounds_toArray, List.set_cons_zero, List.set_cons_succ]
      refine wpAnyH_take (i := 11) (v := ?_) rfl (by kernel_rfl) (by kernel_rfl) (by kernel_rfl) (fun _ _ _ h => h) (Or.inl ⟨by kernel_rfl, ?_⟩) (by assumption) ?_
      rotate_left
      · intro w hSw; (try dsimp only at hSw); go_simp; try with_reducible rfl
      try simp only [Act.put, List.setIfInBounds_toArray, List.set_cons_zero, List.set_cons_succ]
      refine wpAnyH_take (i := 12) (v := ?_) rfl (by kernel_rfl) (by kernel_rfl) (by kernel_rfl) (fun _ _ _ h => h) (Or.inl ⟨by kernel_rfl, ?_⟩) (by assumption) ?_
      rotate_left
      · intro w hSw; (try dsimp only at hSw); go_simp; try with_reducible rfl
      try simp only [Act.put, List.setIfInBounds_toArray, List.set_cons_zero, List.set_cons_succ]
      refine wpAnyH_take (i := 13) (v := ?_) rfl (by kernel_rfl) (by kernel_rfl) (by kernel_rfl) (fun _ _ _ h => h) (Or.inl ⟨by kernel_rfl, ?_⟩) (by assumption) ?_
      rotate_left
      · intro w hSw; (try dsimp only at hSw); go_simp; try with_reducible rfl
      try simp only [Act.put, List.setIfInBounds_toArray, List.set_cons_zero, List.set_cons_succ]
      refine wpAnyH_ready (rs := [14]) (by kernel_rfl) (by simp) ?_
      refine AllReadyH.cons rfl (fun K hK => ?_) AllReadyH.nil
      go_simp
      refine (HR.out _).mono ?_
      rintro e w3 ⟨rfl, hb3⟩
      have hb4 := TblQ.nx ((Below.refl w2.heap.size w2).drew) hb3
      have b0 := HSet.out w3 w3 hb4 (fun _ _ => rfl)
      have y2 : w3.heap[bx + 1]? = some (.cells #[.int .i64 0, .int .i64 0, .int .i64 0, .int .i64 0, .int .i64 0, .int .i64 0] 44 (0, 0)) := (hb4.block _ (lt_of HD2.out)).trans HD2.out
      refine hK.out _ _ b0 (fun hHeld => ?_)
      clear hK K
      try simp only [Act.put, List.setIfInBounds_toArray, List.set_cons_zero, List.set_cons_succ]
      have c3 := fun o => Lib.cell_of_heap y2 o
      have f3 : ∀ o, w3.frozen? ⟨bx + 1, o, none⟩ = false := fun o => frozen_of_row _ _ _ _ _ y2
      refine wpAnyH_ready (rs := [15]) (by kernel_rfl) (by simp) ?_
      refine AllReadyH.cons rfl (fun K hK => ?_) AllReadyH.nil
      go_simp
      obtain ⟨w5, hw5, s5, o5, l5⟩ := set6 w3 (bx + 1) 44 u0 u1 u2 u3 u4 u5 y2
      rw [hw5]
      refine hK.out _ _ (HSet.out w3 w5 hb4 o5) (fun hHeld => ?_)
      clear hK K
      try simp only [Act.put, List.setIfInBounds_toArray, List.set_cons_zero, List.set_cons_succ]
      refine wpAnyH_ready (rs := [16]) (by kernel_rfl) (by simp) ?_
      refine AllReadyH.cons rfl (fun K hK => ?_) AllReadyH.nil
      go_simp
      refine hK.out _ _ hHeld (fun hHeld => ?_)
      clear hK K
      try simp only [Act.put, List.setIfInBounds_toArray, List.set_cons_zero, List.set_cons_succ]
      refine wpAnyH_done (by kernel_rfl) ?_ _
      clear hHeld
      go_wp2_with fail
      have hl := fun o => Lib.cell_of_heap s5 o
      have HBF := Lib.hid (l5 bx w (HB0.out.trans (hb4.mono (by rw [← hbx]; exact HB0.out.size))) (by omega))
      refine bodyPost_ret (v := .tuple #[.agg #[.int .i64 u0, .int .i64 u1, .int .i64 u2, .int .i64 u3, .int .i64 u4, .int .i64 u5], .bool ans]) (by simp [results, Try.results22, go_sem, hl]) rfl ?_
      exact ⟨⟨u0, u1, u2, u3, u4, u5⟩, rfl, HU.out, by first | exact HBF.out | (rw [hbx]; exact HBF.out)⟩
    · have e1 : decide ((L.length : Int) ≤ j) = true := decide_eq_true (by omega)
      have hn : ruleAt d0.toNat d1.toNat L j = none := by
        unfold ruleAt
        rw [if_neg (by omega), Int.toNat_natCast, List.getElem?_eq_none (by omega)]
        rfl
      have HP : RulePost d0.toNat d1.toNat L j w = RulePost' none w := by
        unfold RulePost RulePost'
        rw [hn]
      rw [HP]
      clear HP
      have HB := Lib.hid hb0
      clear hn hA
      go_enter Try.func22, Try.ntmps22
      go_wp2_with fail
      have hl := fun o => Lib.cell_of_heap hd2 o
      refine bodyPost_ret (v := .tuple #[.agg #[.int .i64 0, .int .i64 0, .int .i64 0, .int .i64 0, .int .i64 0, .int .i64 0], .bool false]) (by simp [results, Try.results22, go_sem, hl]) rfl ?_
      exact (show RulePost' none w _ _ from ⟨⟨0, 0, 0, 0, 0, 0⟩, rfl, (fun u hu => nomatch hu), HB.out⟩)
end Go.Proofs.Ytihhojgnilbfnaa.PfE
/- The search: link, by contract. -/
namespace Go.Proofs.Ytihhojgnilbfnaa.PfF
set_option linter.unusedVariables false
set_option linter.unusedSimpArgs false
open Go.RowKit Go.Lib Go.Proofs Go.Maps Go.Proofs.Ytihhojgnilbfnaa.SetQ Go.Proofs.Ytihhojgnilbfnaa.SetR Go.Proofs.Ytihhojgnilbfnaa.TblC Go.Proofs.Ytihhojgnilbfnaa.TblV Go.Proofs.Ytihhojgnilbfnaa.TblQ Go.Proofs.Ytihhojgnilbfnaa.SemB Go.Proofs.Ytihhojgnilbfnaa.SemC Go.Proofs.Ytihhojgnilbfnaa.SemD Go.Proofs.Ytihhojgnilbfnaa.SemGa Go.Proofs.Ytihhojgnilbfnaa.SemJ Go.Proofs.Ytihhojgnilbfnaa.PfM Go.Proofs.Ytihhojgnilbfnaa.PfN Go.Proofs.Ytihhojgnilbfnaa.PfA Go.Proofs.Ytihhojgnilbfnaa.PfB Go.Proofs.Ytihhojgnilbfnaa.PfC Go.Proofs.Ytihhojgnilbfnaa.PfD
set_option linter.unusedVariables false
set_option linter.unusedSimpArgs false
theorem lk_len (t : Ss) (a i hd mid : Int) (x : Nat) : (lkM t a i hd mid x).known.length ≤ t.known.length + 1 ∧ (lkM t a i hd mid x).nw = t.nw ∧ (lkM t a i hd mid x).watch = t.watch := by
  unfold lkM putM
  split
  · split
    · exact ⟨by omega, rfl, rfl⟩
    · exact ⟨by simp, rfl, rfl⟩
  · exact ⟨by omega, rfl, rfl⟩
theorem lks_len (a i hd mid : Int) : ∀ (l : List Nat) (t : Ss), (l.foldl (lkM · a i hd mid) t).known.length ≤ t.known.length + l.length ∧ (l.foldl (lkM · a i hd mid) t).nw = t.nw ∧ (l.foldl (lkM · a i hd mid) t).watch = t.watch
  | [], t => ⟨by simp, rfl, rfl⟩
  | x :: l, t => by
    obtain ⟨h1, h2, h3⟩ := lk_len t a i hd mid x
    obtain ⟨g1, g2, g3⟩ := lks_len a i hd mid l (lkM t a i hd mid x)
    simp only [List.foldl_cons, List.length_cons]
    exact ⟨by omega, g2.trans h2, g3.trans h3⟩
theorem lk_succ (a i hd mid : Int) (k : Nat) (t : Ss) : (List.range (k + 1)).foldl (lkM · a i hd mid) t = lkM ((List.range k).foldl (lkM · a i hd mid) t) a i hd mid k := by
  rw [List.range_succ, List.foldl_append]; rfl
theorem Wq.cells {W w : World} {a : Ad} {t : Ss} {h : Nat} {F : Frm} (hq : Wq W w a t h F) : ∃ qv, (∀ o, w.cell? ⟨a.ws, o, none⟩ = (#[.int .i64 a.d0, .int .i64 a.d1, .slice a.A a.L.length a.ca, .map (some a.bk), qv, .map (some a.bw)] : Array Value)[o]?) ∧ Below W.heap.size W w ∧ UG w a.A a.L := by
  obtain ⟨_, qv, M, hk, _⟩ := hq
  exact ⟨qv, Wk.cells hk, hk.bel, hk.ug.below hk.bel⟩
theorem mul_small {P K : Nat} (hP : P ≤ 64) (hK : K ≤ 64) : P * K ≤ 4096 := Nat.le_trans (Nat.mul_le_mul hP hK) (by omega)
set_option maxHeartbeats 800000 in
set_option maxRecDepth 100000 in
theorem link (W w : World) (a : Ad) (t : Ss) (h : Nat) (F : Frm) (P K i mid : Nat) (hP : a.d0 = P) (hK : a.d1 = K) (lP : P ≤ 64) (lK : K ≤ 64) (hi : i < a.L.length) (hw : Wq W w a t h F) (hu : rightU P K (ruleD a.L i) = true) (hm : mid < P)
    (hn : t.nw ≤ 1000000) (hl : (t.watch ((mid : Int) * K + (ruleD a.L i).via)).length ≤ 1000000) (hkn : t.known.length ≤ 900000) :
    Calls Try.prog 52 #[.pointer (some ⟨a.ws, 0, none⟩), .int .i64 i, .int .i64 mid] w (WPost W a (linkM P K a.L t i mid) h F) := by
  obtain ⟨hk0, rh, rw_, ra, rb, rv⟩ := right_r hu
  have hLu : ruleD a.L i = a.L[i] := by unfold ruleD; rw [Int.toNat_natCast, List.getD_eq_getElem?_getD, List.getElem?_eq_getElem hi]; rfl
  have hpk := mul_small lP lK
  obtain ⟨v, hv⟩ : ∃ v : Nat, (ruleD a.L i).via = v := ⟨(ruleD a.L i).via.toNat, by omega⟩
  obtain ⟨hd, hhd⟩ : ∃ v : Nat, (ruleD a.L i).head = v := ⟨(ruleD a.L i).head.toNat, by omega⟩
  have hmk : mid * K ≤ 4096 := mul_small (by omega) lK
  have hdb : hd < 4096 := by omega
  obtain ⟨r, hr⟩ : ∃ r : Nat, (mid : Int) * K + (ruleD a.L i).via = r := ⟨mid * K + v, by rw [hv]; simp⟩
  have hr2 : r = mid * K + v := by
    have : (r : Int) = ((mid * K + v : Nat) : Int) := by rw [← hr, hv]; simp
    omega
  have hvK : v < K := by omega
  have HRV : Hid ((mid : Int) * (K : Int) + (v : Int) = (r : Int)) := Lib.hid (by rw [← hr, hv])
  have hw1 : IntKind.i64.wrap ((mid : Int) * (K : Int)) = ((mid * K : Nat) : Int) := wrapN rfl (by omega)
  have hw2 : IntKind.i64.wrap (((mid * K : Nat) : Int) + (v : Int)) = (r : Int) := by rw [IntKind.wrap_i64]; omega
  unfold linkM
  rw [hr, hhd]
  rw [hr] at hl
  have HT : Hid (∀ k, k ≤ P → ((List.range k).foldl (lkM · (r : Int) (i : Int) (hd : Int) (mid : Int)) (watchM t r ((i : Int), (mid : Int)))).known.length ≤ 1000000) := Lib.hid (fun k hk => by
    have := (lks_len (r : Int) (i : Int) (hd : Int) (mid : Int) (List.range k) (watchM t r ((i : Int), (mid : Int)))).1
    have e : (watchM t r ((i : Int), (mid : Int))).known = t.known := rfl
    rw [e, List.length_range] at this
    omega)
  have HSucc := Lib.hid (fun k => lk_succ (r : Int) (i : Int) (hd : Int) (mid : Int) k (watchM t r ((i : Int), (mid : Int))))
  obtain ⟨fT, hfT⟩ : ∃ f : Nat → Ss, f = fun k => (List.range k).foldl (lkM · (r : Int) (i : Int) (hd : Int) (mid : Int)) (watchM t r ((i : Int), (mid : Int))) := ⟨_, rfl⟩
  have HT2 : Hid (∀ k, k ≤ P → (fT k).known.length ≤ 1000000) := Lib.hid (by rw [hfT]; exact HT.out)
  have HSucc2 : Hid (∀ k, fT (k + 1) = lkM (fT k) r i hd mid k) := Lib.hid (by rw [hfT]; exact HSucc.out)
  have HF0 : Hid (fT 0 = watchM t r ((i : Int), (mid : Int))) := Lib.hid (by rw [hfT]; rfl)
  have HFP : Hid ((List.range P).foldl (lkM · (r : Int) (i : Int) (hd : Int) (mid : Int)) (watchM t r ((i : Int), (mid : Int))) = fT P) := Lib.hid (by rw [hfT])
  rw [HFP.out]
  clear HT HSucc HFP hfT
  obtain ⟨F1, hq1, hb1, hc1⟩ := with_box hw #[.int .i64 a.L[i].kind, .int .i64 a.L[i].head, .int .i64 a.L[i].who, .int .i64 a.L[i].a, .int .i64 a.L[i].b, .int .i64 a.L[i].via] 44
  obtain ⟨qv, c0, hbel, hug⟩ := Wq.cells hw
  obtain ⟨g, o, hA, hg, hcell⟩ := hug (by omega)
  have hrow := hcell i hi
  rw [hLu] at hv hhd hu
  clear hLu hcell hug hr
  generalize hel : a.L[i] = u at *
  obtain ⟨u0, u1, u2, u3, u4, u5⟩ := u
  simp only [Ru.cells] at hrow hv hhd hq1 hc1
  subst hv
  subst hhd
  have k0 : w.cell? ⟨g, o + i * 6, none⟩ = some (.int .i64 u0) := hrow 0 (by omega)
  have k1 : w.cell? ⟨g, o + i * 6 + 1, none⟩ = some (.int .i64 (hd : Int)) := hrow 1 (by omega)
  have k2 : w.cell? ⟨g, o + i * 6 + 2, none⟩ = some (.int .i64 u2) := hrow 2 (by omega)
  have k3 : w.cell? ⟨g, o + i * 6 + 3, none⟩ = some (.int .i64 u3) := hrow 3 (by omega)
  have k4 : w.cell? ⟨g, o + i * 6 + 4, none⟩ = some (.int .i64 u4) := hrow 4 (by omega)
  have k5 : w.cell? ⟨g, o + i * 6 + 5, none⟩ = some (.int .i64 (v : Int)) := hrow 5 (by omega)
  obtain ⟨ws, bk, bw, d0, d1, A, ca, L⟩ := a
  simp only at *
  subst hP
  subst hK
  subst hA
  have hi2 : i < L.length := hi
  have q0 : (0 : Int) ≤ i := by omega
  have q1 : (i : Int) < L.length := by omega
  have HQ1 := Lib.hid hq1
  have HC1 := Lib.hid hc1
  have HB1 := Lib.hid (fun w' t' => hb1 w' t' h)
  obtain ⟨qv1, c1, _, _⟩ := Wq.cells hq1
  have r1 := fun o => Lib.cell_of_heap (hc1 _ t h hq1) o
  have HW : Hid (Calls Try.prog 51 #[.pointer (some ⟨ws, 0, none⟩), .int .i64 (r : Int), .agg #[.int .i64 (i : Int), .int .i64 (mid : Int)]] (w.alloc (.cells #[.int .i64 u0, .int .i64 hd, .int .i64 u2, .int .i64 u3, .int .i64 u4, .int .i64 v] 44)).drew (WPost W ⟨ws, bk, bw, P, K, some ⟨g, o, none⟩, ca, L⟩ (watchM t r ((i : Int), (mid : Int))) h F1)) := Lib.hid (PfD.watch W _ ⟨ws, bk, bw, P, K, some ⟨g, o, none⟩, ca, L⟩ t h F1 r i mid (hq1.below ((Below.refl _ _).drew)) (by omega) hn hl)
  have HKn := Lib.hid (fun w' t' (hq : Wq W w' ⟨ws, bk, bw, P, K, some ⟨g, o, none⟩, ca, L⟩ t' h F1) (x : Nat) (hx : x < P) => PfC.knows W w' _ t' h F1 ((r : Int), (x : Int)) hq ⟨by simp only; omega, by simp only; omega⟩)
  have HPu := Lib.hid (fun w' t' (hq : Wq W w' ⟨ws, bk, bw, P, K, some ⟨g, o, none⟩, ca, L⟩ t' h F1) (x : Nat) (hx : x < P) hl => PfC.put W w' _ t' h F1 ⟨i, hd, x, mid⟩ hq ⟨by unfold Sp.fa; simp only; omega, by unfold Sp.fa; simp only; omega⟩ hl)
  dsimp only at HKn HPu
  clear hrow hel hq1 hc1 hb1 hw hu hk0 rw_ ra rb rv hl hn hkn hr2 hpk
  go_enter Try.func52, Try.ntmps52
  go_upto_region 1 with fail
  clear c0 k0 k1 k2 k3 k4 k5
  obtain ⟨bx, hbx⟩ : ∃ bx, w.heap.size = bx := ⟨_, rfl⟩
  simp only [hbx] at HC1 r1 ⊢
  generalize w.alloc (.cells #[.int .i64 u0, .int .i64 hd, .int .i64 u2, .int .i64 u3, .int .i64 u4, .int .i64 v] 44) = w0 at *
  go_region
  go_wp2_with fail
  simp only [HRV.out]
  clear hmk hvK
  refine HW.out.mono ?_
  rintro e w1 ⟨rfl, hq2⟩
  have HQ2 := Lib.hid hq2
  obtain ⟨qv2, c2, _, _⟩ := Wq.cells hq2
  clear HW c1 r1 hq2 HQ1
  rw [← HF0.out] at HQ2
  go_wp2_with fail
  go_loopw [38] (fun x wr => ∃ k : Nat, k ≤ P ∧ x = .int .i64 k ∧ Hid (Wq W wr ⟨ws, bk, bw, P, K, some ⟨g, o, none⟩, ca, L⟩ (fT k) h F1)) (fun x _ => P - (intOf x).toNat)
  case atStart => exact ⟨0, by omega, rfl, HQ2⟩
  case round =>
    clear c2 HQ2
    obtain ⟨k, hk, rfl, HQ⟩ := hrel
    by_cases hlt : k < P
    · have e1 : decide ((k : Int) < P) = true := by simp; omega
      have HA := Lib.hid (HKn.out wr (fT k) HQ.out k hlt)
      have HStep := HSucc2.out k
      unfold lkM at HStep
      cases hb : hasS (fT k).known ((r : Int), (k : Int)) with
      | true =>
        rw [hb, if_pos rfl] at HStep
        rw [hb] at HA
        clear hb
        go_wp2_with fail
        refine HA.out.mono ?_
        rintro e w2 ⟨rfl, hb2⟩
        have hq3 := Wq.below HQ.out hb2
        have r2 := fun o => Lib.cell_of_heap (HC1.out _ _ _ hq3) o
        have HB := Lib.hid (HPu.out w2 (fT k) hq3 k hlt (HT2.out k (by omega)))
        rw [← HStep] at HB
        have HS := Lib.hid HStep
        clear hb2 hq3 HA HQ HStep
        go_wp2_with fail
        refine HB.out.mono ?_
        rintro e w3 ⟨rfl, hq4⟩
        have HQ4 := Lib.hid hq4
        clear hq4 HB r2
        go_wp2_with fail
        go_roundw
        case rel => exact ⟨k + 1, by omega, by go_num, HQ4⟩
        case measure => simp [intOf]; omega
      | false =>
        rw [hb, if_neg (by simp)] at HStep
        rw [hb] at HA
        have HQ3 : Hid (∀ w2, Below wr.heap.size wr w2 → Wq W w2 ⟨ws, bk, bw, P, K, some ⟨g, o, none⟩, ca, L⟩ (fT (k + 1)) h F1) := Lib.hid (fun w2 hb2 => by rw [HStep]; exact Wq.below HQ.out hb2)
        clear hb HStep HQ
        go_wp2_with fail
        refine HA.out.mono ?_
        rintro e w2 ⟨rfl, hb2⟩
        have HQ4 := Lib.hid (HQ3.out w2 hb2)
        clear hb2 HQ3 HA
        go_wp2_with fail
        go_roundw
        case rel => exact ⟨k + 1, by omega, by go_num, HQ4⟩
        case measure => simp [intOf]; omega
    · have e1 : decide ((k : Int) < P) = false := by simp; omega
      obtain rfl : k = P := by omega
      have HE := Lib.hid (HB1.out _ _ HQ.out)
      clear HQ
      go_wp2_with fail
      go_end0
      exact ⟨rfl, HE.out⟩
end Go.Proofs.Ytihhojgnilbfnaa.PfF
/- The search: begin, by contract. -/
namespace Go.Proofs.Ytihhojgnilbfnaa.PfG
set_option linter.unusedVariables false
set_option linter.unusedSimpArgs false
open Go.RowKit Go.Lib Go.Proofs Go.Maps Go.Proofs.Ytihhojgnilbfnaa.SetQ Go.Proofs.Ytihhojgnilbfnaa.SetR Go.Proofs.Ytihhojgnilbfnaa.TblC Go.Proofs.Ytihhojgnilbfnaa.TblV Go.Proofs.Ytihhojgnilbfnaa.TblQ Go.Proofs.Ytihhojgnilbfnaa.SemB Go.Proofs.Ytihhojgnilbfnaa.SemC Go.Proofs.Ytihhojgnilbfnaa.SemD Go.Proofs.Ytihhojgnilbfnaa.SemGa Go.Proofs.Ytihhojgnilbfnaa.SemJ Go.Proofs.Ytihhojgnilbfnaa.PfM Go.Proofs.Ytihhojgnilbfnaa.PfN Go.Proofs.Ytihhojgnilbfnaa.PfA Go.Proofs.Ytihhojgnilbfnaa.PfB Go.Proofs.Ytihhojgnilbfnaa.PfC Go.Proofs.Ytihhojgnilbfnaa.PfD Go.Proofs.Ytihhojgnilbfnaa.PfF
set_option linter.unusedVariables false
set_option linter.unusedSimpArgs false
set_option maxHeartbeats 1000000 in
set_option maxRecDepth 100000 in
theorem begin_ (W w : World) (a : Ad) (t : Ss) (h : Nat) (F : Frm) (P K i : Nat) (lP : P ≤ 64) (lK : K ≤ 64) (u : Ru) (hw : Wq W w a t h F) (hu : rightU P K u = true)
    (hn : t.nw ≤ 900000) (hl : ∀ r, (t.watch r).length ≤ 900000) (hkn : t.known.length ≤ 900000) :
    Calls Try.prog 35 #[.pointer (some ⟨a.ws, 0, none⟩), .int .i64 i, u.val] w (WPost W a (beginM t i u) h F) := by
  obtain ⟨hk0, rh, rw_, ra, rb, rv⟩ := right_r hu
  have hpk := mul_small lP lK
  obtain ⟨u0, u1, u2, u3, u4, u5⟩ := u
  simp only at hk0 rh rw_ ra rb rv
  obtain ⟨F1, hq1, hb1, hc1⟩ := with_box hw #[.int .i64 u0, .int .i64 u1, .int .i64 u2, .int .i64 u3, .int .i64 u4, .int .i64 u5] 44
  have HB1 := Lib.hid (fun w' t' => hb1 w' t' h)
  have HC1 := Lib.hid (fun w' t' (hq : Wq W w' a t' h F1) (k : Nat) => Lib.cell_of_heap (hc1 w' t' h hq) k)
  have r1 := HC1.out _ _ hq1
  have HPu := Lib.hid (PfC.put W _ a t h F1 ⟨i, u1, u2, 0⟩ hq1 ⟨by unfold Sp.fa; simp only; omega, by unfold Sp.fa; simp only; omega⟩ (by omega))
  have HWa := Lib.hid (PfD.watch W _ a t h F1 u3 i (-1) hq1 (by omega) (by omega) (by have := hl u3; omega))
  have HWb := Lib.hid (fun w' (hq : Wq W w' a (watchM t u3 ((i : Int), -1)) h F1) => PfD.watch W w' a (watchM t u3 ((i : Int), -1)) h F1 u4 i (-1) hq (by omega) (by show t.nw + 1 ≤ _; omega) (by have := watch_len t u3 ((i : Int), -1) u4; have := hl u4; omega))
  unfold Ru.val beginM
  simp only at HPu HWa HWb ⊢
  clear hq1 hb1 hc1 hw hu rh rw_ ra rb rv hl hn hkn hpk
  by_cases k1 : u0 = 1
  · subst k1
    rw [if_pos rfl]
    clear HWa HWb
    go_enter Try.func35, Try.ntmps35
    go_wp2_with fail
    refine HPu.out.mono ?_
    rintro e w1 ⟨rfl, hq2⟩
    have HE := Lib.hid (HB1.out _ _ hq2)
    clear hq2 HPu r1
    go_wp2_with fail
    go_end0
    exact ⟨rfl, HE.out⟩
  · rw [if_neg k1]
    have d1 : (u0 == 1) = false := by simp [k1]
    clear HPu
    by_cases k4 : u0 = 4
    · subst k4
      by_cases e5 : u4 = u3
      · subst e5
        rw [if_neg (fun q => q.2 rfl)]
        clear HWb
        go_enter Try.func35, Try.ntmps35
        go_wp2_with fail
        refine HWa.out.mono ?_
        rintro e w1 ⟨rfl, hq2⟩
        have r2 := HC1.out _ _ hq2
        have HE := Lib.hid (HB1.out _ _ hq2)
        clear hq2 HWa r1
        go_wp2_with fail
        go_end0
        exact ⟨rfl, HE.out⟩
      · rw [if_pos ⟨rfl, e5⟩]
        have d5 : (u4 != u3) = true := by simp [e5]
        go_enter Try.func35, Try.ntmps35
        go_wp2_with fail
        refine HWa.out.mono ?_
        rintro e w1 ⟨rfl, hq2⟩
        have r2 := HC1.out _ _ hq2
        have HWc := Lib.hid (HWb.out _ hq2)
        clear hq2 HWa r1 HWb
        go_wp2_with fail
        refine HWc.out.mono ?_
        rintro e w2 ⟨rfl, hq3⟩
        have HE := Lib.hid (HB1.out _ _ hq3)
        clear hq3 HWc r2
        go_wp2_with fail
        go_end0
        exact ⟨rfl, HE.out⟩
    · rw [if_neg (fun q => k4 q.1)]
      have d4 : (u0 == 4) = false := by simp [k4]
      clear HWb
      go_enter Try.func35, Try.ntmps35
      go_wp2_with fail
      refine HWa.out.mono ?_
      rintro e w1 ⟨rfl, hq2⟩
      have r2 := HC1.out _ _ hq2
      have HE := Lib.hid (HB1.out _ _ hq2)
      clear hq2 HWa r1
      go_wp2_with fail
      go_end0
      exact ⟨rfl, HE.out⟩
end Go.Proofs.Ytihhojgnilbfnaa.PfG
/- The search: follow, by contract. -/
namespace Go.Proofs.Ytihhojgnilbfnaa.PfH
set_option linter.unusedVariables false
set_option linter.unusedSimpArgs false
open Go.RowKit Go.Lib Go.Proofs Go.Maps Go.Proofs.Ytihhojgnilbfnaa.SetQ Go.Proofs.Ytihhojgnilbfnaa.SetR Go.Proofs.Ytihhojgnilbfnaa.TblC Go.Proofs.Ytihhojgnilbfnaa.TblV Go.Proofs.Ytihhojgnilbfnaa.TblQ Go.Proofs.Ytihhojgnilbfnaa.SemB Go.Proofs.Ytihhojgnilbfnaa.SemC Go.Proofs.Ytihhojgnilbfnaa.SemD Go.Proofs.Ytihhojgnilbfnaa.SemGa Go.Proofs.Ytihhojgnilbfnaa.SemJ Go.Proofs.Ytihhojgnilbfnaa.PfM Go.Proofs.Ytihhojgnilbfnaa.PfN Go.Proofs.Ytihhojgnilbfnaa.PfO Go.Proofs.Ytihhojgnilbfnaa.PfA Go.Proofs.Ytihhojgnilbfnaa.PfB Go.Proofs.Ytihhojgnilbfnaa.PfC Go.Proofs.Ytihhojgnilbfnaa.PfD Go.Proofs.Ytihhojgnilbfnaa.PfF Go.Proofs.Ytihhojgnilbfnaa.PfP
set_option linter.unusedVariables false
set_option linter.unusedSimpArgs false
/-- A role's row of watches, gone through while others come behind it. -/
theorem with_row {W w : World} {a : Ad} {t : Ss} {h : Nat} {F : Frm} (hq : Wq W w a t h F) (r : Int) (hr : -9223372036854775808 ≤ r ∧ r ≤ 9223372036854775807) : ∃ (A : Option Addr) (ca : Nat) (F' : Frm),
    (∀ X, Below w.heap.size w X → (Instr.lookup 79 (.map (some a.bw)) (.int .i64 r) false).run Try.prog X = .ok (.slice A (t.watch r).length ca) X) ∧ Wq W w a t h F' ∧ (∀ w' t' h', Wq W w' a t' h' F' → Wq W w' a t' h' F) ∧
    ((t.watch r).length = 0 ∨ ∃ g, A = some ⟨g, 0, none⟩ ∧ ∀ w' t' h', Wq W w' a t' h' F' → g < w'.heap.size ∧ ∀ j, (hj : j < (t.watch r).length) → w'.cell? ⟨g, j * 2, none⟩ = some (.int .i64 (t.watch r)[j].1) ∧ w'.cell? ⟨g, j * 2 + 1, none⟩ = some (.int .i64 (t.watch r)[j].2)) := by
  obtain ⟨hle, qv, M, hk, hfr⟩ := hq
  have hkey := keyI (r := r) hr
  obtain ⟨A, c, hv⟩ := own_n (hk.rows r)
  have hrow := hk.rows r
  rw [hv] at hrow
  have LK : ∀ X, Below w.heap.size w X → (Instr.lookup 79 (.map (some a.bw)) (.int .i64 r) false).run Try.prog X = .ok (.slice A (t.watch r).length c) X := fun X hX => by
    have := (hk.below hX).wm.look lawI Try.underlying79 (zeroR X) hkey
    have e : (M r).getD (.slice none 0 0) = .slice A (t.watch r).length c := hv
    rw [e] at this
    exact this
  rcases hrow.2 with ⟨e1, hn⟩ | ⟨g, cap, cur, e1, hB, hg, _⟩
  · exact ⟨A, c, F, LK, ⟨hle, qv, M, hk, hfr⟩, fun _ _ _ q => q, .inl hn⟩
  · injection e1 with e1 e2 e3
    subst e1
    have hob : (rowV M r).ownBlock = some g := by rw [hv]; rfl
    refine ⟨_, c, ⟨F.box, (g, t.watch r) :: F.snap⟩, LK, ⟨hle, qv, M, hk, hfr.b, fun p hp => ?_⟩, ?_, .inr ⟨g, rfl, ?_⟩⟩
    · simp only [List.mem_cons] at hp
      rcases hp with rfl | hp
      · refine ⟨⟨cur, hg⟩, fun j v hj => ?_, fun s hs => ?_⟩
        · have := hrow.cells (g := g) rfl j v hj
          rw [Go.Proofs.Ytihhojgnilbfnaa.SemC.add_off, Nat.zero_add] at this
          exact this
        · by_cases e : s = r
          · subst e; exact List.prefix_refl _
          · exact absurd hob (hk.apart s r e g hs)
      · exact hfr.s p hp
    · rintro w' t' h' ⟨k1, qv', M', k2, k3⟩
      exact ⟨k1, qv', M', k2, k3.b, fun p hp => k3.s p (by simp [hp])⟩
    · rintro w' t' h' ⟨k1, qv', M', k2, k3⟩
      have hs := k3.s (g, t.watch r) (by simp)
      refine ⟨lt_of hs.ty.choose_spec, fun j hj => ?_⟩
      obtain ⟨b1, b2⟩ := encP_at (t.watch r) j hj
      exact ⟨hs.at_ _ _ b1, hs.at_ _ _ b2⟩
theorem step3a {P K : Nat} {L : List Ru} {t : Ss} {x i m : Int} (k : (ruleD L i).kind = 3) (e : m = -1) : stepM P K L t x (i, m) = linkM P K L t i x := by
  unfold stepM; simp only; rw [if_pos k, if_pos e]
theorem step3b {P K : Nat} {L : List Ru} {t : Ss} {x i m : Int} (k : (ruleD L i).kind = 3) (e : m ≠ -1) : stepM P K L t x (i, m) = putM t ⟨i, (ruleD L i).head, x, m⟩ := by
  unfold stepM; simp only; rw [if_pos k, if_neg e]
theorem step2 {P K : Nat} {L : List Ru} {t : Ss} {x i m : Int} (k : (ruleD L i).kind = 2) : stepM P K L t x (i, m) = putM t ⟨i, (ruleD L i).head, x, 0⟩ := by
  unfold stepM; simp only; rw [if_neg (by omega), if_pos k]
theorem step4 {P K : Nat} {L : List Ru} {t : Ss} {x i m : Int} (k : (ruleD L i).kind = 4) : stepM P K L t x (i, m) = if hasS t.known ((ruleD L i).a, x) && hasS t.known ((ruleD L i).b, x) then putM t ⟨i, (ruleD L i).head, x, 0⟩ else t := by
  unfold stepM; simp only; rw [if_neg (by omega), if_neg (by omega)]
set_option maxHeartbeats 2000000 in
set_option maxRecDepth 100000 in
theorem follow (W w : World) (a : Ad) (t : Ss) (h c : Nat) (F : Frm) (P K : Nat) (s : Sp) (hP : a.d0 = P) (hK : a.d1 = K) (lP : P ≤ 10) (lK : K ≤ 6) (lL : a.L.length ≤ 60) (hw : Wq W w a t (h + 1) F)
    (hi : Inv P K a.L a.L.length h [] c t) (hs : t.known[h]? = some s) (hc : c ≤ 100000) :
    Calls Try.prog 36 #[.pointer (some ⟨a.ws, 0, none⟩), .agg #[.int .i64 s.role, .int .i64 s.who]] w (WPost W a (followM P K a.L t s.fa) (h + 1) F) := by
  obtain ⟨⟨hr0, hr1⟩, ⟨hx0, hx1⟩, _⟩ := chk_rng _ _ hi.ck s (List.mem_of_getElem? hs)
  have hpk := mul_small (P := P) (K := K) (by omega) (by omega)
  have hpk2 : P * K * P ≤ 4096 * 10 := Nat.mul_le_mul hpk lP
  have hTl : (t.watch s.role).length ≤ 1000000 := by
    have h1 := hi.len s.role
    have h2 := hi.cnt
    omega
  have HAt := Lib.hid (fun k hk => at_k hi hs k hk)
  have HSu := Lib.hid (fun k hk => foT_succ (P := P) (K := K) (L := a.L) (t.watch s.role) s.who t (k := k) hk)
  have HAll : Hid (followM P K a.L t s.fa = foT P K a.L (t.watch s.role) s.who t (t.watch s.role).length) := Lib.hid (by rw [foT_all]; rfl)
  have H0 : Hid (foT P K a.L (t.watch s.role) s.who t 0 = t) := Lib.hid rfl
  rw [HAll.out]
  obtain ⟨F1, hq1, hb1, hc1⟩ := with_box hw #[.int .i64 s.role, .int .i64 s.who] 53
  obtain ⟨A, ca, F2, hlk, hq2, hb2, hc2⟩ := with_row hq1 s.role (by omega)
  have l1 := hlk _ ((Below.refl _ _).drew)
  obtain ⟨qv, c1, _, _⟩ := Wq.cells hq2
  have f1 := fun o => Lib.cell_of_heap (hc1 _ t _ hq1) o
  have HC1 : Hid (∀ w' t' h', Wq W w' a t' h' F2 → ∀ o, w'.cell? ⟨w.heap.size, o, none⟩ = (#[.int .i64 s.role, .int .i64 s.who] : Array Value)[o]?) := Lib.hid (fun w' t' h' hq o => Lib.cell_of_heap (hc1 w' t' h' (hb2 _ _ _ hq)) o)
  have HB : Hid (∀ w' t' h', Wq W w' a t' h' F2 → Wq W w' a t' h' F) := Lib.hid (fun w' t' h' hq => hb1 _ _ _ (hb2 _ _ _ hq))
  have HQ2 := Lib.hid (hq2.below ((Below.refl _ _).drew))
  have HC2 := Lib.hid hc2
  generalize hfo : foT P K a.L (t.watch s.role) s.who t = fT at *
  clear hfo hq1 hb1 hc1 hlk hq2 hb2 hc2 hi hs HAll hw
  generalize hT : t.watch s.role = T at *
  clear hT
  obtain ⟨s0, s1, s2, s3⟩ := s
  simp only at *
  obtain ⟨r, rfl⟩ : ∃ r : Nat, s1 = r := ⟨s1.toNat, by omega⟩
  obtain ⟨x, rfl⟩ : ∃ x : Nat, s2 = x := ⟨s2.toNat, by omega⟩
  go_enter Try.func36, Try.ntmps36
  go_upto_region 1 with fail
  obtain ⟨bf, hbf⟩ : ∃ bf, w.heap.size = bf := ⟨_, rfl⟩
  simp only [hbf] at HC1 f1 ⊢
  generalize w.alloc (.cells #[.int .i64 (r : Int), .int .i64 (x : Int)] 53) = w0 at *
  go_region
  clear l1 c1 f1
  generalize w0.drew = w1 at *
  go_wp2_with fail
  rw [← H0.out] at HQ2
  go_loopw [16] (fun z wr => ∃ k : Nat, k ≤ T.length ∧ z = .int .i64 k ∧ Hid (Wq W wr a (fT k) (h + 1) F2)) (fun z _ => T.length - (intOf z).toNat)
  case atStart => exact ⟨0, by omega, rfl, HQ2⟩
  case round =>
    obtain ⟨k, hk, rfl, HQ⟩ := hrel
    clear HQ2
    by_cases hlt : k < T.length
    · have e1 : decide ((k : Int) < T.length) = true := by simp; omega
      obtain ⟨hat, hnw, _⟩ := HAt.out k hlt
      rcases HC2.out with hz | ⟨g, rfl, hc3⟩
      · omega
      obtain ⟨hg, hcell⟩ := hc3 _ _ _ HQ.out
      obtain ⟨y0, y1⟩ := hcell k hlt
      have HStep := HSu.out k hlt
      clear hcell hc3
      generalize T[k] = y at *
      obtain ⟨yi, m⟩ := y
      obtain ⟨i0, i1, rt, k1, m3, kn, ln⟩ := hat
      simp only at i0 i1 rt k1 m3 y0 y1
      obtain ⟨i, rfl⟩ : ∃ i : Nat, yi = i := ⟨yi.toNat, by omega⟩
      rw [Int.toNat_natCast] at i1
      obtain ⟨hk0, rh, rw_, ra, rb, rv⟩ := right_r rt
      obtain ⟨qv, c1, hbel, hug⟩ := Wq.cells HQ.out
      have f1 := HC1.out _ _ _ HQ.out
      obtain ⟨ga, oa, hA, hga, hrc⟩ := hug (by omega)
      have hrow := hrc i i1
      have hLu : ruleD a.L i = a.L[i] := by unfold ruleD; rw [Int.toNat_natCast, List.getD_eq_getElem?_getD, List.getElem?_eq_getElem i1]; rfl
      rw [← hLu] at hrow
      have HLk := Lib.hid (fun w' (hq : Wq W w' a (fT k) (h + 1) F2) => PfF.link W w' a (fT k) (h + 1) F2 P K i x hP hK (by omega) (by omega) i1 hq rt (by omega) (by omega) (by have := ln ((x : Int) * K + (ruleD a.L i).via); omega) (by omega))
      have HPu := Lib.hid (fun w' (hq : Wq W w' a (fT k) (h + 1) F2) (mm : Int) => PfC.put W w' a (fT k) (h + 1) F2 ⟨i, (ruleD a.L i).head, x, mm⟩ hq ⟨by unfold Sp.fa; simp only; omega, by unfold Sp.fa; simp only; omega⟩ (by omega))
      have HKa := Lib.hid (fun w' (hq : Wq W w' a (fT k) (h + 1) F2) => PfC.knows W w' a (fT k) (h + 1) F2 ((ruleD a.L i).a, (x : Int)) hq ⟨by simp only; omega, by simp only; omega⟩)
      have HKb := Lib.hid (fun w' (hq : Wq W w' a (fT k) (h + 1) F2) => PfC.knows W w' a (fT k) (h + 1) F2 ((ruleD a.L i).b, (x : Int)) hq ⟨by simp only; omega, by simp only; omega⟩)
      have HS3a := Lib.hid (fun (q : (ruleD a.L i).kind = 3) (e : m = -1) => (HStep.trans (step3a q e)))
      have HS3b := Lib.hid (fun (q : (ruleD a.L i).kind = 3) (e : m ≠ -1) => (HStep.trans (step3b q e)))
      have HS2 := Lib.hid (fun (q : (ruleD a.L i).kind = 2) => (HStep.trans (step2 q)))
      have HS4 := Lib.hid (fun (q : (ruleD a.L i).kind = 4) => (HStep.trans (step4 q)))
      have hrt0 : (ruleD a.L i).kind = 2 ∨ (ruleD a.L i).kind = 3 ∨ (ruleD a.L i).kind = 4 := by omega
      clear hrc hLu hug rt kn ln hnw HStep rh rw_ ra rb rv hk0 k1
      generalize ruleD a.L i = u at *
      obtain ⟨u0, u1, u2, u3, u4, u5⟩ := u
      simp only [Ru.cells] at hrow hrt0 HPu HKa HKb HS3a HS3b HS2 HS4 m3
      have k0 : wr.cell? ⟨ga, oa + i * 6, none⟩ = some (.int .i64 u0) := hrow 0 (by omega)
      have k1 : wr.cell? ⟨ga, oa + i * 6 + 1, none⟩ = some (.int .i64 u1) := hrow 1 (by omega)
      have k2 : wr.cell? ⟨ga, oa + i * 6 + 2, none⟩ = some (.int .i64 u2) := hrow 2 (by omega)
      have k3 : wr.cell? ⟨ga, oa + i * 6 + 3, none⟩ = some (.int .i64 u3) := hrow 3 (by omega)
      have k4 : wr.cell? ⟨ga, oa + i * 6 + 4, none⟩ = some (.int .i64 u4) := hrow 4 (by omega)
      have k5 : wr.cell? ⟨ga, oa + i * 6 + 5, none⟩ = some (.int .i64 u5) := hrow 5 (by omega)
      have p0 : (0 : Int) ≤ k := by omega
      have p1 : (k : Int) < T.length := by omega
      have p2 : (0 : Int) ≤ i := by omega
      have p3 : (i : Int) < a.L.length := by omega
      clear hrow
      have hb1 : Below wr.heap.size wr (wr.alloc (.cells #[.int .i64 (i : Int), .int .i64 m] 100)) := (Below.refl _ _).alloc (Nat.le_refl _) _
      have hq1 := HQ.out.below hb1
      obtain ⟨qv1, c2, _, _⟩ := Wq.cells hq1
      have b1 : ∀ o, (wr.alloc (.cells #[.int .i64 (i : Int), .int .i64 m] 100)).cell? ⟨wr.heap.size, o, none⟩ = (#[.int .i64 (i : Int), .int .i64 m] : Array Value)[o]? := fun o => Lib.cell_of_heap (heap_alloc_new wr _) o
      have hcb := fun (p : Addr) (hp : p.block < wr.heap.size) => hb1.cell (p := p) hp
      have j0 := (hcb ⟨ga, oa + i * 6, none⟩ hga).trans k0
      have j1 := (hcb ⟨ga, oa + i * 6 + 1, none⟩ hga).trans k1
      have j2 := (hcb ⟨ga, oa + i * 6 + 2, none⟩ hga).trans k2
      have j3 := (hcb ⟨ga, oa + i * 6 + 3, none⟩ hga).trans k3
      have j4 := (hcb ⟨ga, oa + i * 6 + 4, none⟩ hga).trans k4
      have j5 := (hcb ⟨ga, oa + i * 6 + 5, none⟩ hga).trans k5
      rw [hA] at c1 c2
      have HQw := Lib.hid (fun w' (hb : Below wr.heap.size wr w') => HQ.out.below hb)
      have hb2 : Below wr.heap.size wr ((wr.alloc (.cells #[.int .i64 (i : Int), .int .i64 m] 100)).alloc (.cells #[.int .i64 0, .int .i64 0, .int .i64 0, .int .i64 0, .int .i64 0, .int .i64 0] 44)) := hb1.alloc (by simp) _
      obtain ⟨qv2, c3, _, _⟩ := Wq.cells (HQ.out.below hb2)
      have b2 : ∀ o, ((wr.alloc (.cells #[.int .i64 (i : Int), .int .i64 m] 100)).alloc (.cells #[.int .i64 0, .int .i64 0, .int .i64 0, .int .i64 0, .int .i64 0, .int .i64 0] 44)).cell? ⟨wr.heap.size, o, none⟩ = (#[.int .i64 (i : Int), .int .i64 m] : Array Value)[o]? := fun o => Lib.cell_of_heap (heap_alloc2_old wr _ _) o
      have hcb2 := fun (p : Addr) (hp : p.block < wr.heap.size) => hb2.cell (p := p) hp
      have l0 := (hcb2 ⟨ga, oa + i * 6, none⟩ hga).trans k0
      have l1 := (hcb2 ⟨ga, oa + i * 6 + 1, none⟩ hga).trans k1
      have l2 := (hcb2 ⟨ga, oa + i * 6 + 2, none⟩ hga).trans k2
      have l3 := (hcb2 ⟨ga, oa + i * 6 + 3, none⟩ hga).trans k3
      have l4 := (hcb2 ⟨ga, oa + i * 6 + 4, none⟩ hga).trans k4
      have l5 := (hcb2 ⟨ga, oa + i * 6 + 5, none⟩ hga).trans k5
      rw [hA] at c3
      -- the two boxes, when both are there
      have hb3 : Below wr.heap.size wr ((wr.alloc (.cells #[.int .i64 (i : Int), .int .i64 m] 100)).alloc (.cells #[.int .i64 u0, .int .i64 u1, .int .i64 u2, .int .i64 u3, .int .i64 u4, .int .i64 u5] 44)).drew := (hb1.alloc (by simp) _).drew
      have hx3 := heap_alloc2_old wr (.cells #[.int .i64 (i : Int), .int .i64 m] 100) (.cells #[.int .i64 u0, .int .i64 u1, .int .i64 u2, .int .i64 u3, .int .i64 u4, .int .i64 u5] 44)
      have hr3 := heap_alloc2_new wr (.cells #[.int .i64 (i : Int), .int .i64 m] 100) (.cells #[.int .i64 u0, .int .i64 u1, .int .i64 u2, .int .i64 u3, .int .i64 u4, .int .i64 u5] 44)
      have HB3 := Lib.hid hb3
      have HX3 : Hid (((wr.alloc (.cells #[.int .i64 (i : Int), .int .i64 m] 100)).alloc (.cells #[.int .i64 u0, .int .i64 u1, .int .i64 u2, .int .i64 u3, .int .i64 u4, .int .i64 u5] 44)).drew.heap[wr.heap.size]? = some (.cells #[.int .i64 (i : Int), .int .i64 m] 100 (0, 0))) := Lib.hid hx3
      have HR3 : Hid (((wr.alloc (.cells #[.int .i64 (i : Int), .int .i64 m] 100)).alloc (.cells #[.int .i64 u0, .int .i64 u1, .int .i64 u2, .int .i64 u3, .int .i64 u4, .int .i64 u5] 44)).drew.heap[wr.heap.size + 1]? = some (.cells #[.int .i64 u0, .int .i64 u1, .int .i64 u2, .int .i64 u3, .int .i64 u4, .int .i64 u5] 44 (0, 0))) := Lib.hid hr3
      have HF3 := Lib.hid (fun w' (hb : Below wr.heap.size wr w') => HC1.out _ _ _ (HQ.out.below hb))
      clear hcb hcb2 hb2 hb3 hx3 hr3 hq1
      go_upto_region 4 with fail
      clear k0 k1 k2 k3 k4 k5 y0 y1 c1 f1
      go_region
      clear l0 l1 l2 l3 l4 l5 j0 j1 j2 j3 j4 j5 b1 b2 c2 c3 hb1
      go_upto_region 5 with fail
      generalize ((wr.alloc (.cells #[.int .i64 (i : Int), .int .i64 m] 100)).alloc (.cells #[.int .i64 u0, .int .i64 u1, .int .i64 u2, .int .i64 u3, .int .i64 u4, .int .i64 u5] 44)).drew = w3 at *
      have hb4 : Below wr.heap.size wr (w3.alloc (.cells #[.int .i64 (i : Int), .int .i64 u1, .int .i64 (x : Int), .int .i64 0] 30)) := HB3.out.alloc HB3.out.size _
      have hs4 := heap_alloc_new w3 (.cells #[.int .i64 (i : Int), .int .i64 u1, .int .i64 (x : Int), .int .i64 0] 30)
      have HX4 := Lib.hid ((heap_alloc_old w3 (.cells #[.int .i64 (i : Int), .int .i64 u1, .int .i64 (x : Int), .int .i64 0] 30) (lt_of HX3.out)).trans HX3.out)
      have HR4 := Lib.hid ((heap_alloc_old w3 (.cells #[.int .i64 (i : Int), .int .i64 u1, .int .i64 (x : Int), .int .i64 0] 30) (lt_of HR3.out)).trans HR3.out)
      have HS4w := Lib.hid hs4
      have HB4 := Lib.hid hb4
      have hsz3 := Lib.hid HB3.out.size
      have cx3 := fun o => Lib.cell_of_heap HX3.out o
      have cr3 := fun o => Lib.cell_of_heap HR3.out o
      have cf3 := HF3.out w3 HB3.out
      clear hb4 hs4
      go_upto_region 6 with fail
      clear cx3 cr3 cf3 HX3 HR3 HB3
      obtain ⟨bs, hbs⟩ : ∃ bs, w3.heap.size = bs := ⟨_, rfl⟩
      simp only [hbs] at HS4w hsz3 ⊢
      generalize w3.alloc (.cells #[.int .i64 (i : Int), .int .i64 u1, .int .i64 (x : Int), .int .i64 0] 30) = w4 at *
      have cx := fun o => Lib.cell_of_heap HX4.out o
      have cr := fun o => Lib.cell_of_heap HR4.out o
      have cf := HF3.out w4 HB4.out
      have cs := fun o => Lib.cell_of_heap HS4w.out o
      rcases hrt0 with q | q | q
      · subst q
        have E2 := Lib.hid (HS2.out rfl)
        have HP2 := Lib.hid (HPu.out _ (HQw.out w4 HB4.out) 0)
        clear HPu HKa HKb HLk
        go_wp2_with fail
        refine HP2.out.mono ?_
        rintro e w5 ⟨rfl, hq5⟩
        rw [← E2.out] at hq5
        have HE := Lib.hid hq5
        clear hq5 HP2 cx cr cf cs HS3a HS3b HS2 HS4
        go_wp2_with fail
        go_roundw
        case rel => exact ⟨k + 1, by omega, by go_num, HE⟩
        case measure => simp [intOf]; omega
      · subst q
        by_cases em : m = -1
        · subst em
          have E3 := Lib.hid (HS3a.out rfl rfl)
          have HL2 := Lib.hid (HLk.out _ (HQw.out w4 HB4.out))
          clear HPu HKa HKb HLk
          go_wp2_with fail
          refine HL2.out.mono ?_
          rintro e w5 ⟨rfl, hq5⟩
          rw [← E3.out] at hq5
          have HE := Lib.hid hq5
          clear hq5 HL2 cx cr cf cs HS3a HS3b HS2 HS4
          go_wp2_with fail
          go_roundw
          case rel => exact ⟨k + 1, by omega, by go_num, HE⟩
          case measure => simp [intOf]; omega
        · have dm : (m == -1) = false := by simp [em]
          have E3 := Lib.hid (HS3b.out rfl em)
          have fs : ∀ o, w4.frozen? ⟨bs, o, none⟩ = false := fun o => frozen_of_row _ _ _ _ _ HS4w.out
          have HB5 : Hid (Below wr.heap.size wr (w4.setCell ⟨bs, 3, none⟩ (.int .i64 m))) := Lib.hid (HB4.out.setCell hsz3.out _)
          have cs5 : ∀ o, (w4.setCell ⟨bs, 3, none⟩ (.int .i64 m)).cell? ⟨bs, o, none⟩ = (#[.int .i64 (i : Int), .int .i64 u1, .int .i64 (x : Int), .int .i64 m] : Array Value)[o]? := by
            have hh := Go.heap_setCell_same w4 bs 3 _ _ (.int .i64 m) HS4w.out
            exact fun o => Lib.cell_of_heap hh o
          have HP2 := Lib.hid (HPu.out _ (HQw.out _ HB5.out) m)
          clear HPu HKa HKb HLk
          go_wp2_with fail
          refine HP2.out.mono ?_
          rintro e w5 ⟨rfl, hq5⟩
          rw [← E3.out] at hq5
          have HE := Lib.hid hq5
          clear hq5 HP2 cx cr cf cs HS3a HS3b HS2 HS4
          go_wp2_with fail
          go_roundw
          case rel => exact ⟨k + 1, by omega, by go_num, HE⟩
          case measure => simp [intOf]; omega
      · subst q
        have E4 := Lib.hid (HS4.out rfl)
        have HA2 := Lib.hid (HKa.out _ (HQw.out w4 HB4.out))
        have HB2' := Lib.hid (fun w' hb => HKb.out w' (HQw.out w' hb))
        have HXs : Hid (∀ w', Below w4.heap.size w4 w' → Below wr.heap.size wr w' ∧ w'.heap[wr.heap.size + 1]? = some (.cells #[.int .i64 4, .int .i64 u1, .int .i64 u2, .int .i64 u3, .int .i64 u4, .int .i64 u5] 44 (0, 0)) ∧ w'.heap[bs]? = some (.cells #[.int .i64 (i : Int), .int .i64 u1, .int .i64 (x : Int), .int .i64 0] 30 (0, 0))) := Lib.hid (fun w' hb => ⟨HB4.out.trans (hb.mono HB4.out.size), (hb.block _ (lt_of HR4.out)).trans HR4.out, (hb.block _ (lt_of HS4w.out)).trans HS4w.out⟩)
        clear HKa HKb HLk HS3a HS3b HS2 HS4
        cases g1 : hasS (fT k).known (u3, (x : Int)) with
        | false =>
          rw [g1] at HA2
          rw [g1] at E4
          have hE4 : fT (k + 1) = fT k := E4.out.trans (by simp)
          have HE4 : Hid (∀ w', Below wr.heap.size wr w' → Wq W w' a (fT (k + 1)) (h + 1) F2) := Lib.hid (fun w' hb => by rw [hE4]; exact HQw.out w' hb)
          clear hE4 g1 HPu HB2' E4
          go_wp2_with fail
          refine HA2.out.mono ?_
          rintro e w5 ⟨rfl, hb5⟩
          have HE := Lib.hid (HE4.out w5 (HXs.out _ hb5).1)
          clear hb5 HA2 cx cr cf cs HE4
          go_wp2_with fail
          go_roundw
          case rel => exact ⟨k + 1, by omega, by go_num, HE⟩
          case measure => simp [intOf]; omega
        | true =>
          rw [g1] at HA2
          rw [g1] at E4
          clear g1
          go_wp2_with fail
          refine HA2.out.mono ?_
          rintro e w5 ⟨rfl, hb5⟩
          obtain ⟨hb6, hr6, hs6⟩ := HXs.out _ hb5
          have HX6 := Lib.hid (fun w' (hb : Below w5.heap.size w5 w') => HXs.out w' (hb5.trans (hb.mono hb5.size)))
          have cr6 := fun o => Lib.cell_of_heap hr6 o
          have cf6 := HF3.out w5 hb6
          have HB7 := Lib.hid (HB2'.out w5 hb6)
          cases g2 : hasS (fT k).known (u4, (x : Int)) with
          | false =>
            rw [g2] at HB7
            rw [g2] at E4
            have hE4 : fT (k + 1) = fT k := E4.out.trans (by simp)
            have HE4 : Hid (∀ w', Below wr.heap.size wr w' → Wq W w' a (fT (k + 1)) (h + 1) F2) := Lib.hid (fun w' hb => by rw [hE4]; exact HQw.out w' hb)
            clear hE4 g2 HPu HB2' E4 hb5 hb6 hr6 hs6 HA2 cx cr cf cs
            go_wp2_with fail
            refine HB7.out.mono ?_
            rintro e w6 ⟨rfl, hb7⟩
            have HE := Lib.hid (HE4.out w6 (HX6.out _ hb7).1)
            clear hb7 HB7 cr6 cf6 HE4
            go_wp2_with fail
            go_roundw
            case rel => exact ⟨k + 1, by omega, by go_num, HE⟩
            case measure => simp [intOf]; omega
          | true =>
            rw [g2] at HB7
            rw [g2] at E4
            have hE4 : fT (k + 1) = putM (fT k) ⟨i, u1, x, 0⟩ := E4.out.trans (by simp)
            have HE4 := Lib.hid hE4
            clear hE4 g2 HB2' E4 hb5 hb6 hr6 hs6 HA2 cx cr cf cs
            go_wp2_with fail
            refine HB7.out.mono ?_
            rintro e w6 ⟨rfl, hb7⟩
            obtain ⟨hb8, hr8, hs8⟩ := HX6.out _ hb7
            have cs8 := fun o => Lib.cell_of_heap hs8 o
            have HP2 := Lib.hid (HPu.out _ (HQw.out w6 hb8) 0)
            clear HPu hb7 hb8 hr8 hs8 HB7 cr6 cf6
            go_wp2_with fail
            refine HP2.out.mono ?_
            rintro e w7 ⟨rfl, hq5⟩
            rw [← HE4.out] at hq5
            have HE := Lib.hid hq5
            clear hq5 HP2 cs8 HE4
            go_wp2_with fail
            go_roundw
            case rel => exact ⟨k + 1, by omega, by go_num, HE⟩
            case measure => simp [intOf]; omega
    · have e1 : decide ((k : Int) < T.length) = false := by simp; omega
      obtain rfl : k = T.length := by omega
      have HE := Lib.hid (HB.out _ _ _ HQ.out)
      clear HQ
      go_wp2_with fail
      go_end0
      exact ⟨rfl, HE.out⟩
end Go.Proofs.Ytihhojgnilbfnaa.PfH
/- The search by contract: all facts, each with a step that stands on those ahead. -/
namespace Go.Proofs.Ytihhojgnilbfnaa.PfI
set_option linter.unusedVariables false
set_option linter.unusedSimpArgs false
open Go.RowKit Go.Lib Go.Proofs Go.Maps Go.Proofs.Ytihhojgnilbfnaa.SetQ Go.Proofs.Ytihhojgnilbfnaa.SetR Go.Proofs.Ytihhojgnilbfnaa.TblC Go.Proofs.Ytihhojgnilbfnaa.TblV Go.Proofs.Ytihhojgnilbfnaa.TblQ Go.Proofs.Ytihhojgnilbfnaa.SemB Go.Proofs.Ytihhojgnilbfnaa.SemC Go.Proofs.Ytihhojgnilbfnaa.SemD Go.Proofs.Ytihhojgnilbfnaa.SemGa Go.Proofs.Ytihhojgnilbfnaa.SemJ Go.Proofs.Ytihhojgnilbfnaa.PfM Go.Proofs.Ytihhojgnilbfnaa.PfN Go.Proofs.Ytihhojgnilbfnaa.PfO Go.Proofs.Ytihhojgnilbfnaa.PfA Go.Proofs.Ytihhojgnilbfnaa.PfB Go.Proofs.Ytihhojgnilbfnaa.PfC Go.Proofs.Ytihhojgnilbfnaa.PfD Go.Proofs.Ytihhojgnilbfnaa.PfE Go.Proofs.Ytihhojgnilbfnaa.PfF Go.Proofs.Ytihhojgnilbfnaa.PfG Go.Proofs.Ytihhojgnilbfnaa.PfP
set_option linter.unusedVariables false
set_option linter.unusedSimpArgs false
/-- The search as it begins. -/
theorem wq_start {w : World} (d0 d1 : Int) (A : Option Addr) (ca : Nat) (L : List Ru) (hA : UG w A L) :
    Wq w ((((w.alloc (.cells #[.int .i64 d0, .int .i64 d1, .slice A L.length ca] 50)).alloc (.map #[] 0)).alloc (.map #[] 0)).alloc (.cells #[.int .i64 d0, .int .i64 d1, .slice A L.length ca, .map (some (w.heap.size + 1)), .slice none 0 0, .map (some (w.heap.size + 1 + 1))] 81))
      ⟨w.heap.size + 1 + 1 + 1, w.heap.size + 1, w.heap.size + 1 + 1, d0, d1, A, ca, L⟩ ss0 0 ⟨[(w.heap.size, #[.int .i64 d0, .int .i64 d1, .slice A L.length ca], 50)], []⟩ := by
  obtain ⟨w0, h0⟩ : ∃ w0, w.alloc (.cells #[.int .i64 d0, .int .i64 d1, .slice A L.length ca] 50) = w0 := ⟨_, rfl⟩
  have z0 : w0.heap.size = w.heap.size + 1 := by rw [← h0]; simp
  have b0 : Below w.heap.size w w0 := by rw [← h0]; exact (Below.refl _ _).alloc (Nat.le_refl _) _
  have g0 : w0.heap[w.heap.size]? = some (.cells #[.int .i64 d0, .int .i64 d1, .slice A L.length ca] 50 (0, 0)) := by rw [← h0]; exact heap_alloc_new w _
  rw [h0]
  obtain ⟨w1, h1⟩ : ∃ w1, w0.alloc (.map #[] 0) = w1 := ⟨_, rfl⟩
  have z1 : w1.heap.size = w.heap.size + 1 + 1 := by rw [← h1]; simp [z0]
  have b1 : Below w0.heap.size w0 w1 := by rw [← h1]; exact (Below.refl _ _).alloc (Nat.le_refl _) _
  have m1 : MapV w1 53 fv (w.heap.size + 1) 0 (kmap []) := by rw [← h1, ← z0]; exact MapV.made w0 _ _
  rw [h1]
  obtain ⟨w2, h2⟩ : ∃ w2, w1.alloc (.map #[] 0) = w2 := ⟨_, rfl⟩
  have z2 : w2.heap.size = w.heap.size + 1 + 1 + 1 := by rw [← h2]; simp [z1]
  have b2 : Below w1.heap.size w1 w2 := by rw [← h2]; exact (Below.refl _ _).alloc (Nat.le_refl _) _
  have m2 : MapV w2 3 iv (w.heap.size + 1 + 1) 0 (fun _ => none) := by rw [← h2, ← z1]; exact MapV.made w1 _ _
  rw [h2]
  obtain ⟨w3, h3⟩ : ∃ w3, w2.alloc (.cells #[.int .i64 d0, .int .i64 d1, .slice A L.length ca, .map (some (w.heap.size + 1)), .slice none 0 0, .map (some (w.heap.size + 1 + 1))] 81) = w3 := ⟨_, rfl⟩
  have b3 : Below w2.heap.size w2 w3 := by rw [← h3]; exact (Below.refl _ _).alloc (Nat.le_refl _) _
  have s3 : w3.heap[w.heap.size + 1 + 1 + 1]? = some (.cells #[.int .i64 d0, .int .i64 d1, .slice A L.length ca, .map (some (w.heap.size + 1)), .slice none 0 0, .map (some (w.heap.size + 1 + 1))] 81 (0, 0)) := by rw [← h3, ← z2]; exact heap_alloc_new w2 _
  rw [h3]
  have b02 : Below w.heap.size w w3 := ((b0.trans (b1.mono (by omega))).trans (b2.mono (by omega))).trans (b3.mono (by omega))
  refine ⟨Nat.zero_le _, .slice none 0 0, fun _ => none, ?_, ?_⟩
  · exact {
      bel := b02
      wb := s3
      ug := hA
      km := (m1.below b2).below b3
      wm := m2.below b3
      ne := by simp only; omega
      qu := .inl ⟨rfl, rfl⟩
      rows := fun r => World.ownsRow_nil _ _ _ _
      apart := fun r s hne g hg => by simp [rowV, nilS, Value.ownBlock] at hg
      up := by simp only; omega }
  · refine ⟨fun p hp => ?_, fun p hp => by cases hp⟩
    simp only [List.mem_cons, List.not_mem_nil, or_false] at hp
    subst hp
    refine ⟨?_, ?_, fun e => by simp [Value.ownBlock] at e, fun r e => by simp [rowV, nilS, Value.ownBlock] at e⟩
    · exact (b3.block _ (by omega)).trans ((b2.block _ (by omega)).trans ((b1.block _ (by omega)).trans g0))
    · show w.heap.size ≠ w.heap.size + 1 + 1 + 1
      omega
/-- Another queue: its head was taken. -/
theorem wq_pop {W w : World} {a : Ad} {t : Ss} {h : Nat} {F : Frm} {s : Sp} (hq : Wq W w a t h F) (hs : t.known[h]? = some s) : ∃ g o cap n, (∀ k, w.cell? ⟨a.ws, k, none⟩ = (#[.int .i64 a.d0, .int .i64 a.d1, .slice a.A a.L.length a.ca, .map (some a.bk), .slice (some ⟨g, o, none⟩) (n + 1) cap, .map (some a.bw)] : Array Value)[k]?) ∧ n + 1 ≤ cap ∧ cap ≤ maxLen ∧
    (∀ w', Below w.heap.size w w' → w'.cell? ⟨g, o, none⟩ = some (.int .i64 s.role) ∧ w'.cell? ⟨g, o + 1, none⟩ = some (.int .i64 s.who) ∧ (∀ k, w'.frozen? ⟨a.ws, k, none⟩ = false) ∧ (cap = 1 → Wq W (w'.setCell ⟨a.ws, 4, none⟩ (.slice (some ⟨g, o, none⟩) 0 0)) a t (h + 1) F) ∧ (cap ≠ 1 → Wq W (w'.setCell ⟨a.ws, 4, none⟩ (.slice (some ⟨g, o + 2, none⟩) n (cap - 1))) a t (h + 1) F)) ∧ (cap = 1 → n = 0) := by
  obtain ⟨hle, qv, M, hk, hfr⟩ := hq
  have hlt : h < t.known.length := (List.getElem?_eq_some_iff.1 hs).1
  have hdr : t.known.drop h = s :: t.known.drop (h + 1) := by
    rw [List.drop_eq_getElem_cons hlt]
    congr 1
    have := List.getElem?_eq_getElem hlt
    rw [hs] at this
    simpa using this.symm
  have hqu := hk.qu
  rw [hdr, List.map_cons] at hqu
  obtain ⟨g, o, cap, rfl, hc, hm, hpop⟩ := qu_pop hqu
  refine ⟨g, o, cap, ((t.known.drop (h + 1)).map Sp.fa).length, Wk.cells hk, hc, hm, fun w' hb => ?_, fun e => by omega⟩
  have hk' := hk.below hb
  have hf' := hfr.below hb
  have hqu' := hk'.qu
  rw [hdr, List.map_cons] at hqu'
  obtain ⟨p1, p2, p3, p4⟩ := hpop w' hqu'
  have hgr : ∀ r, w'.grownBy w' r := fun r => ⟨rfl, rfl, rfl, Nat.le_refl _, fun _ _ _ => rfl⟩
  exact ⟨p1, p2, fun k => frozen_of_row _ _ _ _ _ hk'.wb, fun e => ⟨hlt, _, M, Wk.queue hk' (hgr _) (p3 e), Frm.ok.queue hk' hf' (hgr _) (.inl rfl)⟩, fun e => ⟨hlt, _, M, Wk.queue hk' (hgr _) (p4 e), Frm.ok.queue hk' hf' (hgr _) (.inl rfl)⟩⟩
/-- An empty queue. -/
theorem wq_empty {W w : World} {a : Ad} {t : Ss} {h : Nat} {F : Frm} (hq : Wq W w a t h F) (hs : t.known.length ≤ h) : h = t.known.length ∧ ∃ A0 c0, ∀ k, w.cell? ⟨a.ws, k, none⟩ = (#[.int .i64 a.d0, .int .i64 a.d1, .slice a.A a.L.length a.ca, .map (some a.bk), .slice A0 0 c0, .map (some a.bw)] : Array Value)[k]? := by
  obtain ⟨hle, qv, M, hk, hfr⟩ := hq
  refine ⟨by omega, ?_⟩
  have hqu := hk.qu
  rw [List.drop_eq_nil_of_le hs, List.map_nil] at hqu
  have hqn : ∃ A0 c0, qv = .slice A0 0 c0 := by
    rcases hqu with ⟨rfl, _⟩ | ⟨g, o, cap, cur, rfl, _⟩ <;> exact ⟨_, _, rfl⟩
  obtain ⟨A0, c0, rfl⟩ := hqn
  exact ⟨A0, c0, Wk.cells hk⟩
/-- What the search leaves: a map of all that follows, in an order in which the steps are a proof. -/
def SearchPost (P K : Nat) (L : List Ru) (w : World) (e : Ending) (w' : World) : Prop :=
  ∃ (b : Nat) (kn : List Sp), e = .returned (.map (some b)) ∧ w.heap.size ≤ b ∧ MapV w' 53 fv b kn.length (kmap kn) ∧ Below w.heap.size w w' ∧ chk P K L [] kn = true ∧ ∀ r x, hasS kn (r, x) = derB P K L r x
theorem inv_dims {d0 d1 : Int} {L : List Ru} {T h c : Nat} {t : Ss} {s : Sp} {pend : List (Int × Int)} (hi : Inv d0.toNat d1.toNat L T h pend c t) (hs : t.known[h]? = some s) : d0 = (d0.toNat : Int) ∧ d1 = (d1.toNat : Int) := by
  obtain ⟨_, _, u, hu, _⟩ := chk_rng _ _ hi.ck s (List.mem_of_getElem? hs)
  have := right_dims (ruleAt_some hu).2.2.2
  omega
set_option maxHeartbeats 2000000 in
set_option maxRecDepth 100000 in
theorem search (d0 d1 : Int) (A : Option Addr) (ca : Nat) (L : List Ru) (w : World) (g1 : d0 ≤ 10) (g2 : d1 ≤ 6) (hL : L.length ≤ 60) (hA : UG w A L) :
    Calls Try.prog 28 #[.agg #[.int .i64 d0, .int .i64 d1, .slice A L.length ca]] w (SearchPost d0.toNat d1.toNat L w) := by
  have hst := wq_start d0 d1 A ca L hA
  have hmm := @run_makeMap Try.prog
  have cg : ∀ o, (w.alloc (.cells #[.int .i64 d0, .int .i64 d1, .slice A L.length ca] 50)).cell? ⟨w.heap.size, o, none⟩ = (#[.int .i64 d0, .int .i64 d1, .slice A L.length ca] : Array Value)[o]? := fun o => Lib.cell_of_heap (heap_alloc_new w _) o
  obtain ⟨P, hP⟩ : ∃ P, d0.toNat = P := ⟨_, rfl⟩
  obtain ⟨K, hK⟩ : ∃ K, d1.toNat = K := ⟨_, rfl⟩
  have HDim : Hid (∀ T h c t s, Inv P K L T h [] c t → t.known[h]? = some s → d0 = (P : Int) ∧ d1 = (K : Int)) := Lib.hid (fun T h c t s hi hs => by
    rw [← hP, ← hK] at hi
    have := inv_dims hi hs
    rw [hP, hK] at this
    exact this)
  have lP : P ≤ 10 := by omega
  have lK : K ≤ 6 := by omega
  rw [hP, hK]
  have HRu : Hid (∀ (i : Int) w', UG w' A L → Calls Try.prog 22 #[.agg #[.int .i64 d0, .int .i64 d1, .slice A L.length ca], .int .i64 i] w' (RulePost P K L i w')) := Lib.hid (fun i w' hu => by
    have := PfE.rule d0 d1 A ca L i w' (by omega) (by omega) (by omega) hu
    rw [hP, hK] at this
    exact this)
  clear hP hK hA
  go_enter Try.func28, Try.ntmps28
  go_upto_region 2 with fail
  clear hmm cg
  obtain ⟨bx, hbx⟩ : ∃ bx, w.heap.size = bx := ⟨_, rfl⟩
  simp only [hbx] at hst ⊢
  have HBX := Lib.hid hbx
  clear hbx
  generalize ((((w.alloc (.cells #[.int .i64 d0, .int .i64 d1, .slice A L.length ca] 50)).alloc (.map #[] 0)).alloc (.map #[] 0)).alloc (.cells #[.int .i64 d0, .int .i64 d1, .slice A L.length ca, .map (some (bx + 1)), .slice none 0 0, .map (some (bx + 1 + 1))] 81)) = w4 at *
  obtain ⟨F0, hF0⟩ : ∃ F0 : Frm, F0 = ⟨[(bx, #[.int .i64 d0, .int .i64 d1, .slice A L.length ca], 50)], []⟩ := ⟨_, rfl⟩
  rw [← hF0] at hst
  have HG : Hid (∀ w' t' h', Wq w w' ⟨bx + 1 + 1 + 1, bx + 1, bx + 1 + 1, d0, d1, A, ca, L⟩ t' h' F0 → ∀ o, w'.cell? ⟨bx, o, none⟩ = (#[.int .i64 d0, .int .i64 d1, .slice A L.length ca] : Array Value)[o]?) := Lib.hid (fun w' t' h' hq o => by
    obtain ⟨_, qv, M, _, hf⟩ := hq
    have := (hf.b (bx, #[.int .i64 d0, .int .i64 d1, .slice A L.length ca], 50) (by rw [hF0]; simp)).1
    exact Lib.cell_of_heap this o)
  have HQ := Lib.hid hst
  have HI : Hid (Inv P K L 0 0 [] 0 ss0) := Lib.hid (Inv.start P K L)
  have cg := HG.out _ _ _ hst
  clear hst hF0
  go_wp2_with fail
  go_loopw [16] (fun x wr => ∃ (T : Nat) (t : Ss), T ≤ L.length ∧ x = .int .i64 T ∧ Hid (Wq w wr ⟨bx + 1 + 1 + 1, bx + 1, bx + 1 + 1, d0, d1, A, ca, L⟩ t 0 F0) ∧ Hid (Inv P K L T 0 [] 0 t)) (fun x _ => L.length - (intOf x).toNat)
  case atStart => exact ⟨0, ss0, by omega, rfl, HQ, HI⟩
  case round =>
    clear HQ HI cg
    obtain ⟨T, t, hT, rfl, HQ, HI⟩ := hrel
    by_cases hlt : T < L.length
    · have e1 : decide ((T : Int) < L.length) = true := by simp; omega
      obtain ⟨qv, c1, hbel, hug⟩ := Wq.cells HQ.out
      have cg := HG.out _ _ _ HQ.out
      have HR := Lib.hid (HRu.out (T : Int) wr hug)
      clear hug c1 hbel
      go_wp2_with fail
      refine HR.out.mono ?_
      rintro e w5 ⟨v, rfl, hv, hb5⟩
      have HQ5 := Lib.hid (fun w' (hb : Below w5.heap.size w5 w') => HQ.out.below (hb5.trans (hb.mono hb5.size)))
      have cg5 := HG.out _ _ _ (HQ.out.below hb5)
      have hcnt := HI.out.cnt
      have hln := HI.out.len
      have hkl := chk_len HI.out.ck
      have hpk := mul_small (P := P) (K := K) (by omega) (by omega)
      have hpk2 : P * K * P ≤ 4096 * 10 := Nat.mul_le_mul hpk lP
      cases hra : ruleAt P K L (T : Int) with
      | none =>
        have HI2 := Lib.hid (begin_none HI.out hra)
        have hbA : Below w5.heap.size w5 (w5.alloc (.cells #[.int .i64 v.kind, .int .i64 v.head, .int .i64 v.who, .int .i64 v.a, .int .i64 v.b, .int .i64 v.via] 44)) := (Below.refl _ _).alloc (Nat.le_refl _) _
        have HQ6 := Lib.hid (HQ5.out _ hbA)
        clear hra hv hb5 HQ5 HQ HI hcnt hln hkl hpk hpk2 HR hbA
        go_wp2_with fail
        go_roundw
        case rel => exact ⟨T + 1, t, by omega, by go_num, HQ6, HI2⟩
        case measure => simp [intOf]; omega
      | some u =>
        have HI2 := Lib.hid (begin_some HI.out hra)
        obtain rfl := hv u hra
        have hbA : Below w5.heap.size w5 (w5.alloc (.cells #[.int .i64 v.kind, .int .i64 v.head, .int .i64 v.who, .int .i64 v.a, .int .i64 v.b, .int .i64 v.via] 44)) := (Below.refl _ _).alloc (Nat.le_refl _) _
        have HQ6 := Lib.hid (HQ5.out _ hbA)
        have HBe := Lib.hid (PfG.begin_ w _ ⟨bx + 1 + 1 + 1, bx + 1, bx + 1 + 1, d0, d1, A, ca, L⟩ t 0 F0 P K T (by omega) (by omega) v HQ6.out (ruleAt_some hra).2.2.2 (by omega) (fun r => by have := hln r; omega) (by omega))
        unfold Ru.val at HBe
        clear hra hv hb5 HQ5 HQ HI hcnt hln hkl hpk hpk2 HR hbA HQ6
        go_wp2_with fail
        refine HBe.out.mono ?_
        rintro e w6 ⟨rfl, hq6⟩
        have HQ7 := Lib.hid hq6
        clear hq6 HBe cg cg5
        go_wp2_with fail
        go_roundw
        case rel => exact ⟨T + 1, _, by omega, by go_num, HQ7, HI2⟩
        case measure => simp [intOf]; omega
    · have e1 : decide ((T : Int) < L.length) = false := by simp; omega
      obtain rfl : T = L.length := by omega
      clear HRu
      go_wp2_with fail
      generalize wr = w7 at *
      obtain ⟨N, hN⟩ : ∃ N, P * K * P = N := ⟨_, rfl⟩
      have lN : N ≤ 600 := by
        rw [← hN]
        exact Nat.mul_le_mul (Nat.mul_le_mul lP lK) lP
      have HN := Lib.hid hN
      clear hN
      go_loopg [7] N (fun gh s7 wr => ∃ (t : Ss) (h c : Nat), N - h ≤ gh ∧ c ≤ h * 120 ∧ Hid (Inv P K L L.length h [] c t) ∧ Hid (Wq w wr ⟨bx + 1 + 1 + 1, bx + 1, bx + 1 + 1, d0, d1, A, ca, L⟩ t h F0))
      case atStart => exact ⟨t, 0, 0, by omega, by omega, HI, HQ⟩
      case round =>
        clear HI HQ
        obtain ⟨t, h, c, hgh, hc, HI, HQ⟩ := hrel
        have hkl := chk_len HI.out.ck
        rw [HN.out] at hkl
        by_cases hh : h < t.known.length
        · obtain ⟨s, hs⟩ : ∃ s, t.known[h]? = some s := ⟨_, List.getElem?_eq_getElem hh⟩
          obtain ⟨g, o, cap, n, cw, hcap, hcm, hpop, hc1⟩ := wq_pop HQ.out hs
          have hD := Lib.hid (HDim.out _ _ _ _ _ HI.out hs)
          obtain ⟨x0, x1, fw0, _, _⟩ := hpop wr (Below.refl _ _)
          have HI9 := Lib.hid (Inv.follow HI.out hs).1
          have hbA : Below wr.heap.size wr (wr.alloc (.cells #[.int .i64 s.role, .int .i64 s.who] 53)) := (Below.refl _ _).alloc (Nat.le_refl _) _
          have hxA := heap_alloc_new wr (.cells #[.int .i64 s.role, .int .i64 s.who] 53)
          obtain ⟨_, _, fw, hp1, hp2⟩ := hpop _ hbA
          have hws : bx + 1 + 1 + 1 < wr.heap.size := World.block_lt_of_cell? _ _ (cw 0)
          have cw2 : ∀ k, (wr.alloc (.cells #[.int .i64 s.role, .int .i64 s.who] 53)).cell? ⟨bx + 1 + 1 + 1, k, none⟩ = (#[.int .i64 d0, .int .i64 d1, .slice A L.length ca, .map (some (bx + 1)), .slice (some ⟨g, o, none⟩) (n + 1) cap, .map (some (bx + 1 + 1))] : Array Value)[k]? := fun k => (hbA.cell (p := ⟨bx + 1 + 1 + 1, k, none⟩) hws).trans (cw k)
          have e1 : decide ((0 : Int) < (n : Int) + 1) = true := by first | (simp; done) | (simp; omega)
          have q1 : (0 : Int) < (n : Int) + 1 := by omega
          have hcm2 : cap ≤ 9223372036854775807 := hcm
          have HP1 := Lib.hid hp1
          have HP2 := Lib.hid hp2
          have HXA := Lib.hid hxA
          have hne : wr.heap.size ≠ bx + 1 + 1 + 1 := by omega
          clear hpop hbA hp1 hp2 hxA hcm HQ fw0
          go_upto_region 11 with fail
          clear cw
          obtain ⟨bb, hbb⟩ : ∃ bb, wr.heap.size = bb := ⟨_, rfl⟩
          simp only [hbb] at HXA hne ⊢
          generalize wr.alloc (.cells #[.int .i64 s.role, .int .i64 s.who] 53) = wa at *
          by_cases hcap1 : cap = 1
          · subst hcap1
            obtain rfl := hc1 rfl
            have HW8 := Lib.hid (HP1.out rfl)
            have HBx8 := Lib.hid ((set_other wa (bx + 1 + 1 + 1) 4 (.slice (some ⟨g, o, none⟩) 0 0) hne).trans HXA.out)
            clear HP1 HP2 HXA hc1 e1 q1
            go_upto_region 12 with fail
            generalize wa.setCell ⟨bx + 1 + 1 + 1, 4, none⟩ (.slice (some ⟨g, o, none⟩) 0 0) = w8 at *
            have cb := fun o => Lib.cell_of_heap HBx8.out o
            have HFo := Lib.hid (PfH.follow w w8 ⟨bx + 1 + 1 + 1, bx + 1, bx + 1 + 1, d0, d1, A, ca, L⟩ t h c F0 P K s hD.out.1 hD.out.2 lP lK hL HW8.out HI.out hs (by omega))
            clear HI hs x0 x1 cw2 fw
            go_wp2_with fail
            refine HFo.out.mono ?_
            rintro e w9 ⟨rfl, hq9⟩
            have HQ9 := Lib.hid hq9
            clear hq9 HFo HW8 cb HBx8
            go_wp2_with fail
            go_roundg (N - (h + 1))
            case measure => omega
            case rel => exact ⟨_, h + 1, c + 2 * L.length, Nat.le_refl _, by omega, HI9, HQ9⟩
          · have HW8 := Lib.hid (HP2.out hcap1)
            have HBx8 := Lib.hid ((set_other wa (bx + 1 + 1 + 1) 4 (.slice (some ⟨g, o + 2, none⟩) n (cap - 1)) hne).trans HXA.out)
            clear HP1 HP2 HXA hc1
            go_upto_region 12 with fail
            generalize wa.setCell ⟨bx + 1 + 1 + 1, 4, none⟩ (.slice (some ⟨g, o + 2, none⟩) n (cap - 1)) = w8 at *
            have cb := fun o => Lib.cell_of_heap HBx8.out o
            have HFo := Lib.hid (PfH.follow w w8 ⟨bx + 1 + 1 + 1, bx + 1, bx + 1 + 1, d0, d1, A, ca, L⟩ t h c F0 P K s hD.out.1 hD.out.2 lP lK hL HW8.out HI.out hs (by omega))
            clear HI hs x0 x1 cw2 fw
            go_wp2_with fail
            refine HFo.out.mono ?_
            rintro e w9 ⟨rfl, hq9⟩
            have HQ9 := Lib.hid hq9
            clear hq9 HFo HW8 cb HBx8
            go_wp2_with fail
            go_roundg (N - (h + 1))
            case measure => omega
            case rel => exact ⟨_, h + 1, c + 2 * L.length, Nat.le_refl _, by omega, HI9, HQ9⟩
        · obtain ⟨rfl, A0, c0, cw⟩ := wq_empty HQ.out (by omega)
          have HEND : Hid (SearchPost P K L w (.returned (.map (some (bx + 1)))) wr) := Lib.hid (by
            obtain ⟨_, qv, M, hk, _⟩ := HQ.out
            exact ⟨bx + 1, t.known, rfl, by have := HBX.out; omega, hk.km, hk.bel, HI.out.ck, fun r x => Inv.der HI.out r x⟩)
          clear HI HQ
          go_wp2_with fail
          go_ret
          exact HEND.out
end Go.Proofs.Ytihhojgnilbfnaa.PfI
/- What a step stands on (under), by contract; the telling of a proof in memory. -/
namespace Go.Proofs.Ytihhojgnilbfnaa.PfK
set_option linter.unusedVariables false
set_option linter.unusedSimpArgs false
open Go.RowKit Go.Lib Go.Proofs Go.Maps Go.Proofs.Ytihhojgnilbfnaa.SetQ Go.Proofs.Ytihhojgnilbfnaa.SetR Go.Proofs.Ytihhojgnilbfnaa.TblC Go.Proofs.Ytihhojgnilbfnaa.TblV Go.Proofs.Ytihhojgnilbfnaa.TblQ Go.Proofs.Ytihhojgnilbfnaa.SemB Go.Proofs.Ytihhojgnilbfnaa.SemC Go.Proofs.Ytihhojgnilbfnaa.SemD Go.Proofs.Ytihhojgnilbfnaa.SemGa Go.Proofs.Ytihhojgnilbfnaa.SemJ Go.Proofs.Ytihhojgnilbfnaa.PfM Go.Proofs.Ytihhojgnilbfnaa.PfN Go.Proofs.Ytihhojgnilbfnaa.PfO Go.Proofs.Ytihhojgnilbfnaa.PfA Go.Proofs.Ytihhojgnilbfnaa.PfB Go.Proofs.Ytihhojgnilbfnaa.PfC Go.Proofs.Ytihhojgnilbfnaa.PfJ
set_option linter.unusedVariables false
set_option linter.unusedSimpArgs false
def UnderPost (l : List Fa) (w : World) (e : Ending) (w' : World) : Prop :=
  ∃ A, e = .returned (.slice A l.length l.length) ∧ (0 < l.length → ∃ g, A = some ⟨g, 0, none⟩ ∧ w.heap.size ≤ g ∧ w'.heap[g]? = some (.cells (encP l).toArray 53 (0, 0))) ∧ Below w.heap.size w w'
/-- Three boxes. -/
theorem box3 (w : World) (c1 c2 c3 : Array Value) (t1 t2 t3 : TypeId) : ∃ w3, ((w.alloc (.cells c1 t1)).alloc (.cells c2 t2)).alloc (.cells c3 t3) = w3 ∧ Below w.heap.size w w3 ∧ w3.heap[w.heap.size]? = some (.cells c1 t1 (0, 0)) ∧ w3.heap[w.heap.size + 1]? = some (.cells c2 t2 (0, 0)) ∧ w3.heap[w.heap.size + 1 + 1]? = some (.cells c3 t3 (0, 0)) ∧ w3.heap.size = w.heap.size + 1 + 1 + 1 := by
  refine ⟨_, rfl, (((Below.refl w.heap.size w).alloc (Nat.le_refl _) _).alloc (by simp) _).alloc (by simp <;> omega) _, ?_, ?_, ?_, by simp⟩
  · exact (heap_alloc_old _ _ (by simp <;> omega)).trans (heap_alloc2_old w _ _)
  · exact (heap_alloc_old _ _ (by simp)).trans (heap_alloc2_new w _ _)
  · have e := heap_alloc_new ((w.alloc (.cells c1 t1)).alloc (.cells c2 t2)) (.cells c3 t3)
    have hz : ((w.alloc (.cells c1 t1)).alloc (.cells c2 t2)).heap.size = w.heap.size + 1 + 1 := by simp
    rw [hz] at e
    exact e
set_option maxHeartbeats 1000000 in
set_option maxRecDepth 100000 in
theorem under_ (d0 d1 : Int) (A : Option Addr) (n ca : Nat) (u : Ru) (s : Sp) (K : Nat) (w : World) (h3 : u.kind = 3 → (0 ≤ s.mid ∧ s.mid < 64) ∧ d1 = K ∧ K ≤ 64 ∧ 0 ≤ u.via ∧ u.via < 64) :
    Calls Try.prog 25 #[.agg #[.int .i64 d0, .int .i64 d1, .slice A n ca], .agg #[.int .i64 u.kind, .int .i64 u.head, .int .i64 u.who, .int .i64 u.a, .int .i64 u.b, .int .i64 u.via], .agg #[.int .i64 s.rule, .int .i64 s.role, .int .i64 s.who, .int .i64 s.mid]] w (UnderPost (under K u s) w) := by
  obtain ⟨u0, u1, u2, u3, u4, u5⟩ := u
  obtain ⟨s0, s1, s2, s3⟩ := s
  simp only at h3 ⊢
  obtain ⟨w3, hw3, hb, x1, x2, x3, hsz⟩ := box3 w #[.int .i64 d0, .int .i64 d1, .slice A n ca] #[.int .i64 u0, .int .i64 u1, .int .i64 u2, .int .i64 u3, .int .i64 u4, .int .i64 u5] #[.int .i64 s0, .int .i64 s1, .int .i64 s2, .int .i64 s3] 50 44 30
  have c1 := fun o => Lib.cell_of_heap x1 o
  have c2 := fun o => Lib.cell_of_heap x2 o
  have c3 := fun o => Lib.cell_of_heap x3 o
  have HB := Lib.hid hb
  have HSZ := Lib.hid hsz
  clear hb hsz x1 x2 x3
  have HE : Hid (∀ l : List Fa, 0 < l.length → UnderPost l w (.returned (.slice (some ⟨w3.heap.size, 0, none⟩) l.length l.length)) (w3.alloc (.cells (encP l).toArray 53))) := Lib.hid (fun l hl => ⟨_, rfl, fun _ => ⟨_, rfl, HB.out.size, heap_alloc_new w3 _⟩, HB.out.alloc HB.out.size _⟩)
  by_cases k2 : u0 = 2
  · subst k2
    have hU : under K ⟨2, u1, u2, u3, u4, u5⟩ ⟨s0, s1, s2, s3⟩ = [(u3, s2)] := by unfold under; simp
    rw [hU]
    have HF := Lib.hid (HE.out [(u3, s2)] (by simp))
    clear hU h3 HE
    go_enter Try.func25, Try.ntmps25
    go_upto_region 1 with fail
    go_wp2_with fail
    go_ret
    exact HF.out
  · have d2 : (u0 == 2) = false := by simp [k2]
    by_cases k3 : u0 = 3
    · subst k3
      obtain ⟨⟨m0, m1⟩, hK, lK, v0, v1⟩ := h3 rfl
      obtain ⟨m, rfl⟩ : ∃ m : Nat, s3 = m := ⟨s3.toNat, by omega⟩
      obtain ⟨v, rfl⟩ : ∃ v : Nat, u5 = v := ⟨u5.toNat, by omega⟩
      subst hK
      have hmk : m * K ≤ 4096 := PfF.mul_small (by omega) lK
      have hw1 : IntKind.i64.wrap ((m : Int) * (K : Int)) = ((m * K : Nat) : Int) := wrapN rfl (by omega)
      have hw2 : IntKind.i64.wrap (((m * K : Nat) : Int) + (v : Int)) = ((m * K + v : Nat) : Int) := by rw [IntKind.wrap_i64]; omega
      have hU : under K ⟨3, u1, u2, u3, u4, v⟩ ⟨s0, s1, s2, m⟩ = [(u3, (m : Int)), ((m : Int) * K + v, s2)] := by unfold under; simp
      rw [hU]
      have HF := Lib.hid (HE.out [(u3, (m : Int)), ((m : Int) * K + v, s2)] (by simp))
      clear hU HE
      go_enter Try.func25, Try.ntmps25
      go_upto_region 1 with fail
      go_wp2_with fail
      go_ret
      exact HF.out
    · have d3 : (u0 == 3) = false := by simp [k3]
      by_cases k4 : u0 = 4
      · subst k4
        have hU : under K ⟨4, u1, u2, u3, u4, u5⟩ ⟨s0, s1, s2, s3⟩ = [(u3, s2), (u4, s2)] := by unfold under; simp
        rw [hU]
        have HF := Lib.hid (HE.out [(u3, s2), (u4, s2)] (by simp))
        clear hU h3 HE
        go_enter Try.func25, Try.ntmps25
        go_upto_region 1 with fail
        go_wp2_with fail
        go_ret
        exact HF.out
      · have d4 : (u0 == 4) = false := by simp [k4]
        have hU : under K ⟨u0, u1, u2, u3, u4, u5⟩ ⟨s0, s1, s2, s3⟩ = [] := by
          unfold under
          simp only
          rw [if_neg k2, if_neg k3, if_neg k4]
        rw [hU]
        have HF : Hid (UnderPost [] w (.returned (.slice none 0 0)) w3) := Lib.hid ⟨none, rfl, fun h => by simp at h, HB.out⟩
        clear hU h3 HE
        go_enter Try.func25, Try.ntmps25
        go_upto_region 1 with fail
        go_wp2_with fail
        go_ret
        exact HF.out
end Go.Proofs.Ytihhojgnilbfnaa.PfK
/- The telling of a proof in memory: what was told, the steps, the boxes. -/
namespace Go.Proofs.Ytihhojgnilbfnaa.PfL
set_option linter.unusedVariables false
set_option linter.unusedSimpArgs false
open Go.RowKit Go.Lib Go.Proofs Go.Maps Go.Proofs.Ytihhojgnilbfnaa.SetQ Go.Proofs.Ytihhojgnilbfnaa.SetR Go.Proofs.Ytihhojgnilbfnaa.TblC Go.Proofs.Ytihhojgnilbfnaa.TblV Go.Proofs.Ytihhojgnilbfnaa.TblQ Go.Proofs.Ytihhojgnilbfnaa.SemB Go.Proofs.Ytihhojgnilbfnaa.SemC Go.Proofs.Ytihhojgnilbfnaa.SemD Go.Proofs.Ytihhojgnilbfnaa.SemGa Go.Proofs.Ytihhojgnilbfnaa.SemJ Go.Proofs.Ytihhojgnilbfnaa.PfM Go.Proofs.Ytihhojgnilbfnaa.PfN Go.Proofs.Ytihhojgnilbfnaa.PfO Go.Proofs.Ytihhojgnilbfnaa.PfA Go.Proofs.Ytihhojgnilbfnaa.PfB Go.Proofs.Ytihhojgnilbfnaa.PfC Go.Proofs.Ytihhojgnilbfnaa.PfJ
set_option linter.unusedVariables false
set_option linter.unusedSimpArgs false
/-- Steps as cells. -/
def cellsT (T : List Sp) : List Value := T.flatMap fun s => (Sp.cells s).toList
theorem cellsT_app (T D : List Sp) : cellsT (T ++ D) = cellsT T ++ cellsT D := by unfold cellsT; simp
theorem cellsT_len (T : List Sp) : (cellsT T).length = T.length * 4 := by
  induction T with
  | nil => rfl
  | cons u L ih => unfold cellsT at *; rw [List.flatMap_cons, List.length_append, ih, List.length_cons, Nat.succ_mul]; show 4 + _ = _; omega
theorem cellsT_at : ∀ (T : List Sp) (j k : Nat) (h : j < T.length), k < 4 → (cellsT T)[j * 4 + k]? = ((Sp.cells T[j]))[k]?
  | [], _, _, h, _ => absurd h (Nat.not_lt_zero _)
  | u :: L, 0, k, _, hk => by
    have e : cellsT (u :: L) = (Sp.cells u).toList ++ cellsT L := by unfold cellsT; simp
    rw [e, Nat.zero_mul, Nat.zero_add, List.getElem?_append_left (by show k < 4; exact hk)]
    simp
  | u :: L, j + 1, k, h, hk => by
    have e : cellsT (u :: L) = (Sp.cells u).toList ++ cellsT L := by unfold cellsT; simp
    have h6 : (Sp.cells u).toList.length = 4 := rfl
    rw [e, List.getElem?_append_right (by rw [h6]; omega), h6]
    have : (j + 1) * 4 + k - 4 = j * 4 + k := by omega
    rw [this, cellsT_at L j k (by simpa using h) hk]
    simp
/-- A slice value that reads as steps, wherever it lies. -/
def TG (w : World) (A : Option Addr) (T : List Sp) : Prop :=
  0 < T.length → ∃ g o, A = some ⟨g, o, none⟩ ∧ g < w.heap.size ∧ ∀ j, (h : j < T.length) → ∀ k, k < 4 → w.cell? ⟨g, o + j * 4 + k, none⟩ = (Sp.cells T[j])[k]?
theorem TG.below {w w' : World} {A : Option Addr} {T : List Sp} (h : TG w A T) (hb : Below w.heap.size w w') : TG w' A T := fun hp => by
  obtain ⟨g, o, hA, hg, hc⟩ := h hp
  exact ⟨g, o, hA, Nat.lt_of_lt_of_le hg hb.size, fun j hj k hk => (hb.cell (p := ⟨g, o + j * 4 + k, none⟩) hg).trans (hc j hj k hk)⟩
theorem tg_own {w : World} {B : Nat} {v : Value} {T : List Sp} {t : TypeId} (h : w.ownsRow B t 4 v T.length (cellsT T)) : ∃ A ca, v = .slice A T.length ca ∧ TG w A T := by
  have h0 := h
  rcases h.2 with ⟨rfl, hn⟩ | ⟨g, cap, cur, rfl, hb, hg, _⟩
  · exact ⟨none, 0, by rw [hn], fun hp => by omega⟩
  · refine ⟨_, cap, rfl, fun hp => ⟨g, 0, rfl, (Array.getElem?_eq_some_iff.1 hg).1, fun j hj k hk => ?_⟩⟩
    have hx := cellsT_at T j k hj hk
    have hs : k < (Sp.cells T[j]).size := by show k < 4; exact hk
    rw [Array.getElem?_eq_getElem hs] at hx ⊢
    have := h0.cells (g := g) rfl _ _ hx
    rw [Go.Proofs.Ytihhojgnilbfnaa.SemC.add_off] at this
    rw [Nat.zero_add]
    rw [Nat.zero_add] at this
    exact this
/-- What was told, as a map. -/
def tmap (told : List Fa) (f : Fa) : Option Value := if f ∈ told then some (.agg #[]) else none
theorem tmap_put (told : List Fa) (f : Fa) : putK (tmap told) f (.agg #[]) = tmap (told ++ [f]) := by
  funext g
  unfold putK tmap
  by_cases e : g = f
  · subst e; simp
  · simp [e]
theorem tg_cap {w : World} {B : Nat} {A : Option Addr} {ca n : Nat} {T : List Sp} {t : TypeId} (h : w.ownsRow B t 4 (.slice A n ca) T.length (cellsT T)) : T.length ≤ ca := by
  rcases h.2 with ⟨e, hn⟩ | ⟨g, cap, cur, e, _, _, hc, _⟩
  · omega
  · simp only [Value.slice.injEq] at e
    omega
structure Env where
  bs : Nat
  bm : Nat
  b : Nat
  n : Nat
  A : Option Addr
abbrev Box := Nat × Array Value × TypeId
structure Wt (W w : World) (v : Env) (c : Ctx) (told : List Fa) (T : List Sp) (sv : Value) (F : List Box) : Prop where
  bel : Below W.heap.size W w
  hs : w.heap[v.bs]? = some (.cells #[sv] 24 (0, 0))
  ug : UG W v.A c.L
  km : MapV w 53 fv v.b v.n (kmap c.kn)
  tm : MapV w 53 fv v.bm told.length (tmap told)
  ne : v.bm ≠ v.b
  row : w.ownsRow W.heap.size 30 4 sv T.length (cellsT T)
  up : W.heap.size ≤ v.bs ∧ W.heap.size ≤ v.bm
  F : ∀ p ∈ F, w.heap[p.1]? = some (.cells p.2.1 p.2.2 (0, 0)) ∧ p.1 ≠ v.bs ∧ sv.ownBlock ≠ some p.1
variable {W w : World} {v : Env} {c : Ctx} {told : List Fa} {T : List Sp} {sv : Value} {F : List Box}
theorem Wt.below {w' : World} (h : Wt W w v c told T sv F) (hb : Below w.heap.size w w') : Wt W w' v c told T sv F where
  bel := h.bel.trans (hb.mono h.bel.size)
  hs := (hb.block _ (lt_of h.hs)).trans h.hs
  ug := h.ug
  km := h.km.below hb
  tm := h.tm.below hb
  ne := h.ne
  row := own_keep h.row fun g hg => hb.block _ (lt_of (own_blk h.row hg).2.choose_spec)
  up := h.up
  F := fun p hp => ⟨(hb.block _ (lt_of (h.F p hp).1)).trans (h.F p hp).1, (h.F p hp).2⟩
theorem Wt.less {F' : List Box} (h : Wt W w v c told T sv F) (hF : ∀ p ∈ F', p ∈ F) : Wt W w v c told T sv F' := { h with F := fun p hp => h.F p (hF p hp) }
theorem Wt.old {w' : World} {g : Nat} {cs : Array Value} {t : TypeId} (h : Wt W w v c told T sv F) (hb : Below w.heap.size w w') (hg : w.heap.size ≤ g) (hx : w'.heap[g]? = some (.cells cs t (0, 0))) : Wt W w' v c told T sv ((g, cs, t) :: F) := by
  have h2 := h.below hb
  refine { h2 with F := fun p hp => ?_ }
  rcases List.mem_cons.1 hp with rfl | hp
  · refine ⟨hx, fun e => ?_, fun e => ?_⟩
    · have := lt_of h.hs; simp only at e; omega
    · have := lt_of (own_blk h.row e).2.choose_spec; simp only at this; omega
  · exact h2.F p hp
theorem Wt.box (h : Wt W w v c told T sv F) (cs : Array Value) (t : TypeId) : Wt W (w.alloc (.cells cs t)) v c told T sv ((w.heap.size, cs, t) :: F) :=
  h.old ((Below.refl _ _).alloc (Nat.le_refl _) _) (Nat.le_refl _) (heap_alloc_new w _)
/-- One more is told. -/
theorem Wt.tell {w' : World} {f : Fa} (h : Wt W w v c told T sv F) (hm : MapV w' 53 fv v.bm (told.length + 1) (tmap (told ++ [f]))) (ht : w.mapTurned w' v.bm) : Wt W w' v c (told ++ [f]) T sv F := by
  have hg := ht.grown
  obtain ⟨es, k, e⟩ := h.tm.blk
  have hk : ∀ {b : Nat}, b < w.heap.size → b ≠ v.bm → w'.heap[b]? = w.heap[b]? := fun {b} hb hne => hg.block b hb (fun e => hne (by simpa using e))
  exact {
    bel := h.bel.grown hg h.bel.size (fun k hk => by simp at hk; subst hk; exact h.up.2)
    hs := (hk (lt_of h.hs) (Ne.symm (map_ne e h.hs))).trans h.hs
    ug := h.ug
    km := h.km.heap (hk h.km.lt (Ne.symm h.ne))
    tm := by rw [List.length_append]; exact hm
    ne := h.ne
    row := own_keep h.row fun g hg2 => by
      obtain ⟨h1, cur, h2⟩ := own_blk h.row hg2
      exact hk (lt_of h2) (Ne.symm (map_ne e h2))
    up := h.up
    F := fun p hp => ⟨(hk (lt_of (h.F p hp).1) (Ne.symm (map_ne e (h.F p hp).1))).trans (h.F p hp).1, (h.F p hp).2⟩ }
/-- One step more. -/
theorem Wt.step {w' : World} {sv' : Value} {s : Sp} (h : Wt W w v c told T sv F) (hg : w.grownBy w' sv.ownBlock) (hm : Moves w sv.ownBlock sv'.ownBlock) (ho : w'.ownsRow W.heap.size 30 4 sv' (T.length + 1) (cellsT T ++ (Sp.cells s).toList)) :
    Wt W (w'.setCell ⟨v.bs, 0, none⟩ sv') v c told (T ++ [s]) sv' F := by
  have hk0 : ∀ {g : Nat} {o : Obj}, w.heap[g]? = some o → sv.ownBlock ≠ some g → w'.heap[g]? = some o := fun {g o} hx hne => (hg.block g (lt_of hx) (fun e => hne e.symm)).trans hx
  have hnr : ∀ {g : Nat} {o : Obj}, w.heap[g]? = some o → (∀ cur, o ≠ .cells cur 30 (0, 0)) → sv.ownBlock ≠ some g := fun {g o} hx hne q => by
    obtain ⟨_, cur, hc⟩ := own_blk h.row q
    rw [hc] at hx
    exact hne cur (by simpa using hx.symm)
  have hw := hk0 h.hs (hnr h.hs (fun cur q => by injection q with _ q2 _; exact absurd q2 (by show (_ : Nat) ≠ _; decide)))
  have hk : ∀ {g : Nat} {o : Obj}, w.heap[g]? = some o → sv.ownBlock ≠ some g → g ≠ v.bs → (w'.setCell ⟨v.bs, 0, none⟩ sv').heap[g]? = some o := fun {g o} hx hne hne2 =>
    (set_other w' _ _ _ hne2).trans (hk0 hx hne)
  obtain ⟨es, k1, e1⟩ := h.km.blk
  obtain ⟨es2, k2, e2⟩ := h.tm.blk
  have hcz : cellsT T ++ (Sp.cells s).toList = cellsT (T ++ [s]) := by rw [cellsT_app]; unfold cellsT; simp
  exact {
    bel := (h.bel.grown hg h.bel.size (fun k hk => (own_blk h.row hk).1)).setCell h.up.1 _
    hs := by rw [Go.heap_setCell_same _ _ _ _ _ _ hw]; rfl
    ug := h.ug
    km := h.km.heap ((hk e1 (hnr e1 (fun cur q => by cases q)) (map_ne e1 h.hs)).trans e1.symm)
    tm := h.tm.heap ((hk e2 (hnr e2 (fun cur q => by cases q)) (map_ne e2 h.hs)).trans e2.symm)
    ne := h.ne
    row := by
      rw [List.length_append, ← hcz]
      exact own_keep ho fun g hg2 => set_other w' _ _ _ (by
        obtain ⟨_, cur, hc⟩ := own_blk ho hg2
        exact ne_of_type hc hw (by show (_ : Nat) ≠ _; decide))
    up := h.up
    F := fun p hp => by
      obtain ⟨b1, b2, b3⟩ := h.F p hp
      refine ⟨hk b1 b3 b2, b2, fun e => ?_⟩
      rcases hm with hm | ⟨g', hm, hge⟩
      · exact b3 (hm.symm.trans e)
      · rw [hm] at e
        injection e with e
        have := lt_of b1
        omega }
theorem infoSt : (Try.prog.info? 30).map (fun i => (i.zero, i.size, i.bytes)) = some (some (.agg #[.int .i64 0, .int .i64 0, .int .i64 0, .int .i64 0]), 4, 32) := by kernel_rfl
theorem zeroU (w : World) : (zeroValue 71).run Try.prog w = .ok (.agg #[]) w := by kernel_rfl
/-- The boxes that the closure sees. -/
def consts (bt bk bg br bf bs bm b : Nat) (d0 d1 : Int) (A : Option Addr) (n ca : Nat) : List Box :=
  [(bt, #[.map (some bm)], 69), (bk, #[.map (some b)], 51), (bg, #[.int .i64 d0, .int .i64 d1, .slice A n ca], 50), (br, #[.slice A n ca], 23),
   (bf, #[.func (.func 29) #[] #[.pointer (some ⟨bt, 0, none⟩), .pointer (some ⟨bk, 0, none⟩), .pointer (some ⟨bg, 0, none⟩), .pointer (some ⟨br, 0, none⟩), .pointer (some ⟨bf, 0, none⟩), .pointer (some ⟨bs, 0, none⟩)]], 70)]
end Go.Proofs.Ytihhojgnilbfnaa.PfL
/- Telling a proof, by contract: the closure that calls itself. -/
namespace Go.Proofs.Ytihhojgnilbfnaa.PfQ
set_option linter.unusedVariables false
set_option linter.unusedSimpArgs false
open Go.RowKit Go.Lib Go.Proofs Go.Maps Go.Proofs.Ytihhojgnilbfnaa.SetQ Go.Proofs.Ytihhojgnilbfnaa.SetR Go.Proofs.Ytihhojgnilbfnaa.TblC Go.Proofs.Ytihhojgnilbfnaa.TblV Go.Proofs.Ytihhojgnilbfnaa.TblQ Go.Proofs.Ytihhojgnilbfnaa.SemB Go.Proofs.Ytihhojgnilbfnaa.SemC Go.Proofs.Ytihhojgnilbfnaa.SemD Go.Proofs.Ytihhojgnilbfnaa.SemGa Go.Proofs.Ytihhojgnilbfnaa.SemJ Go.Proofs.Ytihhojgnilbfnaa.PfM Go.Proofs.Ytihhojgnilbfnaa.PfN Go.Proofs.Ytihhojgnilbfnaa.PfO Go.Proofs.Ytihhojgnilbfnaa.PfA Go.Proofs.Ytihhojgnilbfnaa.PfB Go.Proofs.Ytihhojgnilbfnaa.PfC Go.Proofs.Ytihhojgnilbfnaa.PfE Go.Proofs.Ytihhojgnilbfnaa.PfJ Go.Proofs.Ytihhojgnilbfnaa.PfK Go.Proofs.Ytihhojgnilbfnaa.PfL
set_option linter.unusedVariables false
set_option linter.unusedSimpArgs false
def TellPost (W : World) (v : Env) (c : Ctx) (F : List Box) (i : Nat) (f : Fa) (told : List Fa) (T : List Sp) (pend : List Fa) (e : Ending) (w' : World) : Prop :=
  e = .returned (.tuple #[]) ∧ ∃ told' T' sv' D, Wt W w' v c told' T' sv' F ∧ TellTo c i f told T pend told' T' D
/-- What is being told isn't what comes now. -/
def Later (c : Ctx) (i : Nat) (pend : List Fa) : Prop := ∀ g ∈ pend, ∃ j x, i < j ∧ c.kn[j]? = some x ∧ x.fa = g
theorem later_no {c : Ctx} {i : Nat} {s : Sp} {pend : List Fa} (h : Later c i pend) (hs : c.kn[i]? = some s) : s.fa ∉ pend := fun q => by
  obtain ⟨j, x, h1, h2, h3⟩ := h _ q
  have := kn_one hs h2 h3.symm
  omega
theorem later_up {c : Ctx} {i k : Nat} {s : Sp} {pend : List Fa} (h : Later c i pend) (hs : c.kn[i]? = some s) (hk : k < i) : Later c k (s.fa :: pend) := fun g hg => by
  rcases List.mem_cons.1 hg with rfl | hg
  · exact ⟨i, s, hk, hs, rfl⟩
  · obtain ⟨j, x, h1, h2, h3⟩ := h g hg
    exact ⟨j, x, by omega, h2, h3⟩
theorem at_take {c : Ctx} {i : Nat} {f : Fa} (h : hasS (c.kn.take i) f = true) : ∃ k x, k < i ∧ c.kn[k]? = some x ∧ x.fa = f := by
  obtain ⟨x, hx, e⟩ := hasS_iff.1 h
  obtain ⟨j, hj, ej⟩ := List.getElem_of_mem hx
  rw [List.length_take] at hj
  rw [List.getElem_take] at ej
  exact ⟨j, x, by omega, by rw [List.getElem?_eq_getElem (by omega), ej], e⟩
theorem kn_range (c : Ctx) (lP : c.P ≤ 10) (lK : c.K ≤ 6) {i : Nat} {s : Sp} (h : c.kn[i]? = some s) : InR s.fa := by
  obtain ⟨h1, h2, _⟩ := chk_rng _ _ c.ck s (List.mem_of_getElem? h)
  have := PfF.mul_small (P := c.P) (K := c.K) (by omega) (by omega)
  unfold InR Sp.fa
  simp only
  omega
set_option maxHeartbeats 4000000 in
set_option maxRecDepth 100000 in
theorem tell (v : Env) (c : Ctx) (bt bk bg br bf : Nat) (d0 d1 : Int) (ca : Nat) (lP : c.P ≤ 10) (lK : c.K ≤ 6) (hdim : ∀ s ∈ c.kn, d1 = c.K) :
    ∀ (i : Nat) (s : Sp), c.kn[i]? = some s → ∀ (W w : World) (told : List Fa) (T : List Sp) (sv : Value) (F : List Box) (pend : List Fa), Wt W w v c told T sv F → (∀ p ∈ consts bt bk bg br bf v.bs v.bm v.b d0 d1 v.A c.L.length ca, p ∈ F) → TolS c told T pend → Later c i pend →
    Calls Try.prog 29 #[.agg #[.int .i64 s.role, .int .i64 s.who], .pointer (some ⟨bt, 0, none⟩), .pointer (some ⟨bk, 0, none⟩), .pointer (some ⟨bg, 0, none⟩), .pointer (some ⟨br, 0, none⟩), .pointer (some ⟨bf, 0, none⟩), .pointer (some ⟨v.bs, 0, none⟩)] w (TellPost W v c F i s.fa told T pend) := by
  intro i
  induction i using Nat.strongRecOn with
  | _ i ih =>
  intro s hs W w told T sv F pend hw hF hT hL
  have hfr := kn_range c lP lK hs
  obtain ⟨kl, hkl⟩ := keyF hfr.1 hfr.2
  have hnp := later_no hL hs
  have hlen := hT.len
  have hpk := PfF.mul_small (P := c.P) (K := c.K) (by omega) (by omega)
  have hpk2 : c.P * c.K * c.P ≤ 4096 * 10 := Nat.mul_le_mul hpk lP
  have hw1 := hw.box #[.int .i64 s.role, .int .i64 s.who] 53
  have HCN : Hid (∀ w' told' T' sv' F', (∀ p ∈ F, p ∈ F') → Wt W w' v c told' T' sv' F' → w'.heap[bt]? = some (.cells #[.map (some v.bm)] 69 (0, 0)) ∧ w'.heap[bk]? = some (.cells #[.map (some v.b)] 51 (0, 0)) ∧ w'.heap[bg]? = some (.cells #[.int .i64 d0, .int .i64 d1, .slice v.A c.L.length ca] 50 (0, 0)) ∧ w'.heap[br]? = some (.cells #[.slice v.A c.L.length ca] 23 (0, 0)) ∧
      w'.heap[bf]? = some (.cells #[.func (.func 29) #[] #[.pointer (some ⟨bt, 0, none⟩), .pointer (some ⟨bk, 0, none⟩), .pointer (some ⟨bg, 0, none⟩), .pointer (some ⟨br, 0, none⟩), .pointer (some ⟨bf, 0, none⟩), .pointer (some ⟨v.bs, 0, none⟩)]] 70 (0, 0))) := Lib.hid (fun w' told' T' sv' F' hFF hx => by
    have hq : ∀ p ∈ consts bt bk bg br bf v.bs v.bm v.b d0 d1 v.A c.L.length ca, w'.heap[p.1]? = some (.cells p.2.1 p.2.2 (0, 0)) := fun p hp => (hx.F p (hFF p (hF p hp))).1
    simp only [consts, List.forall_mem_cons] at hq
    exact ⟨hq.1, hq.2.1, hq.2.2.1, hq.2.2.2.1, hq.2.2.2.2.1⟩)
  have LT : ∀ X told' T' sv' F', Wt W X v c told' T' sv' F' → (Instr.lookup 69 (.map (some v.bm)) (.agg #[.int .i64 s.role, .int .i64 s.who]) true).run Try.prog X = .ok (.tuple #[.agg #[], .bool (decide (s.fa ∈ told'))]) X := fun X told' T' sv' F' hX => by
    have := hX.tm.look_ok lawF Try.underlying69 (zeroU X) hkl
    unfold fv Sp.fa at this
    simp only at this
    rw [this]
    unfold tmap Sp.fa
    by_cases e : ((s.role, s.who) : Fa) ∈ told'
    · simp [e]
    · simp [e]
  obtain ⟨n1, n2, n3, n4, n5⟩ := HCN.out _ _ _ _ _ (fun p hp => List.mem_cons_of_mem _ hp) hw1
  have ct := fun o => Lib.cell_of_heap n1 o
  have cf : ∀ o, (w.alloc (.cells #[.int .i64 s.role, .int .i64 s.who] 53)).cell? ⟨w.heap.size, o, none⟩ = (#[.int .i64 s.role, .int .i64 s.who] : Array Value)[o]? := fun o => Lib.cell_of_heap (heap_alloc_new w _) o
  have l1 := LT _ _ _ _ _ hw1
  by_cases hin : s.fa ∈ told
  · rw [decide_eq_true hin] at l1
    have HT := Lib.hid (TellTo.already (i := i) hT hin hnp)
    have HW := Lib.hid ((hw1.below ((Below.refl _ _).alloc (Nat.le_refl _) (.cells #[] 71))).less (F' := F) (fun p hp => List.mem_cons_of_mem _ hp))
    clear ih hT hL hw hw1 LT hF HCN n1 n2 n3 n4 n5
    go_enter Try.func29, Try.ntmps29
    go_wp2_with fail
    go_end0
    exact ⟨rfl, told, T, sv, [], HW.out, HT.out⟩
  · rw [decide_eq_false hin] at l1
    have hw2 := (hw1.below ((Below.refl _ _).alloc (Nat.le_refl _) (.cells #[] 71)))
    obtain ⟨w3, hr3, hm3, ht3⟩ := hw2.tm.store lawF Try.underlying69 (by unfold maxLen; omega) fv_inj hkl (.agg #[])
    rw [tmap_put] at hm3
    have hw3 := Wt.tell hw2 hm3 ht3
    unfold fv Sp.fa at hr3
    simp only at hr3
    have HMid := Lib.hid (Mid.start hT hs hin)
    obtain ⟨u, hu, hfit, hund, hok⟩ := ctx_at c hs
    obtain ⟨r0, r1, r2, r3⟩ := ruleAt_some hu
    have hkv : (kmap c.kn s.fa).getD (.agg #[.int .i64 0, .int .i64 0, .int .i64 0, .int .i64 0]) = Sp.val s := by rw [kmap_at (List.mem_of_getElem? hs) (nd_kn c)]; rfl
    have lk := hw3.km.look lawF Try.underlying51 (zeroS w3) hkl
    rw [hkv] at lk
    unfold fv Sp.fa Sp.val at lk
    simp only at lk
    have hmd : d1 = c.K := hdim s (List.mem_of_getElem? hs)
    have h3 : u.kind = 3 → (0 ≤ s.mid ∧ s.mid < 64) ∧ d1 = c.K ∧ c.K ≤ 64 ∧ 0 ≤ u.via ∧ u.via < 64 := fun k3 => by
      unfold fitB at hfit
      simp only [Bool.and_eq_true, decide_eq_true_eq] at hfit
      have q := hfit.2.2.2
      rw [if_pos k3, decide_eq_true_eq] at q
      obtain ⟨_, _, _, _, _, rv⟩ := right_r r3
      exact ⟨⟨q.1, by omega⟩, hmd, by omega, rv.1, by omega⟩
    have HUn := Lib.hid (fun w' => under_ d0 d1 v.A c.L.length ca u s c.K w' h3)
    have hw4 := hw3.box #[.int .i64 s.rule, .int .i64 s.role, .int .i64 s.who, .int .i64 s.mid] 30
    have HDone : Hid (∀ told' T', Mid c i s (under c.K u s) told T pend told' T' → ∃ D, TellTo c i s.fa told T pend told' (T' ++ [s]) D) := Lib.hid (fun told' T' hm => Mid.done hs hu hT hin hm)
    have HIH : Hid (∀ f ∈ under c.K u s, ∃ k x, k < i ∧ c.kn[k]? = some x ∧ x.fa = f) := Lib.hid (fun f hf => at_take (hund f hf))
    have HLt : Hid (∀ k, k < i → Later c k (s.fa :: pend)) := Lib.hid (fun k hk => later_up hL hs hk)
    obtain ⟨l, hl⟩ : ∃ l, under c.K u s = l := ⟨_, rfl⟩
    rw [hl] at HUn HDone HIH
    have HUG : UG w3 v.A c.L := hw3.ug.below hw3.bel
    obtain ⟨ga, oa, hA, hga, hrc⟩ := HUG (by omega)
    obtain ⟨ri, hri⟩ : ∃ ri : Nat, s.rule = ri := ⟨s.rule.toNat, by omega⟩
    have hri2 : s.rule.toNat = ri := by omega
    rw [hri2] at r1 r2
    have hrow := hrc ri r1
    have hLu : c.L[ri] = u := by
      have := List.getElem?_eq_getElem r1
      rw [r2] at this
      simpa using this.symm
    rw [hLu] at hrow
    have HCX := Lib.hid (HCN.out _ _ _ _ _ (fun p hp => by simp [hp]) hw4)
    have HWB4 := Lib.hid (fun w' (hb : Below (w3.alloc (.cells #[.int .i64 s.rule, .int .i64 s.role, .int .i64 s.who, .int .i64 s.mid] 30)).heap.size (w3.alloc (.cells #[.int .i64 s.rule, .int .i64 s.role, .int .i64 s.who, .int .i64 s.mid] 30)) w') => hw4.below hb)
    obtain ⟨n1', n2', n3', n4', n5'⟩ := HCN.out _ _ _ _ _ (fun p hp => by simp [hp]) hw3
    have hx3 : w3.heap[w.heap.size]? = some (.cells #[.int .i64 s.role, .int .i64 s.who] 53 (0, 0)) := (hw3.F (w.heap.size, #[.int .i64 s.role, .int .i64 s.who], 53) (by simp)).1
    have ct2 : ∀ o, ((w.alloc (.cells #[.int .i64 s.role, .int .i64 s.who] 53)).alloc (.cells #[] 71)).cell? ⟨bt, o, none⟩ = (#[.map (some v.bm)] : Array Value)[o]? := fun o => Lib.cell_of_heap (HCN.out _ _ _ _ _ (fun p hp => by simp [hp]) hw2).1 o
    have cf2 : ∀ o, ((w.alloc (.cells #[.int .i64 s.role, .int .i64 s.who] 53)).alloc (.cells #[] 71)).cell? ⟨w.heap.size, o, none⟩ = (#[.int .i64 s.role, .int .i64 s.who] : Array Value)[o]? := fun o => Lib.cell_of_heap (heap_alloc2_old w _ _) o
    have ck3 := fun o => Lib.cell_of_heap n2' o
    have cf3 := fun o => Lib.cell_of_heap hx3 o
    have HIHc := Lib.hid (fun k (hk : k < i) x hx w' told' T' sv' F' hW hF' hT' hL' => ih k hk x hx W w' told' T' sv' F' (s.fa :: pend) hW hF' hT' hL')
    have HF := Lib.hid hF
    have hb4 : Below w3.heap.size w3 (w3.alloc (.cells #[.int .i64 s.rule, .int .i64 s.role, .int .i64 s.who, .int .i64 s.mid] 30)) := (Below.refl _ _).alloc (Nat.le_refl _) _
    have hsb := heap_alloc_new w3 (.cells #[.int .i64 s.rule, .int .i64 s.role, .int .i64 s.who, .int .i64 s.mid] 30)
    have hcb := fun k => (hb4.cell (p := ⟨ga, k, none⟩) hga)
    obtain ⟨i0, hi, hz0, hz1, hz2⟩ := info_parts infoSt
    clear ih hF hT hL hw hw1 hw2 hw3 hw4 LT hm3 ht3 n1 n2 n3 n4 n5 n1' n2' n3' n4' n5' hkv hund hok hfit r3 hrc hLu HUG hri2 r2 hin hnp hkl hfr hs hu hx3 h3 hmd
    obtain ⟨u0, u1, u2, u3, u4, u5⟩ := u
    obtain ⟨s0, s1, s2, s3⟩ := s
    simp only [Ru.cells] at *
    subst hri
    rw [hA] at HCX HUn
    have j0 := (hcb (oa + ri * 6)).trans (hrow 0 (by omega))
    have j1 := (hcb (oa + ri * 6 + 1)).trans (hrow 1 (by omega))
    have j2 := (hcb (oa + ri * 6 + 2)).trans (hrow 2 (by omega))
    have j3 := (hcb (oa + ri * 6 + 3)).trans (hrow 3 (by omega))
    have j4 := (hcb (oa + ri * 6 + 4)).trans (hrow 4 (by omega))
    have j5 := (hcb (oa + ri * 6 + 5)).trans (hrow 5 (by omega))
    clear hcb hrow
    have q0 : (0 : Int) ≤ ri := by omega
    have q1 : (ri : Int) < c.L.length := by omega
    go_enter Try.func29, Try.ntmps29
    go_upto_region 5 with fail
    clear ct cf l1 ct2 cf2 ck3 cf3 lk hr3
    obtain ⟨bb, hbb⟩ : ∃ bb, w3.heap.size = bb := ⟨_, rfl⟩
    obtain ⟨bx, hbx⟩ : ∃ bx, w.heap.size = bx := ⟨_, rfl⟩
    simp only [hbb, hbx] at HCX HWB4 hsb ⊢
    have hgb : ga < bb := by omega
    clear hbb hbx hga hb4
    generalize w3.alloc (.cells #[.int .i64 (ri : Int), .int .i64 s1, .int .i64 s2, .int .i64 s3] 30) = w4 at *
    have hbbl := lt_of hsb
    have HSt : Hid (∀ w', Below w4.heap.size w4 w' → (∀ k, w'.cell? ⟨bg, k, none⟩ = (#[.int .i64 d0, .int .i64 d1, .slice (some ⟨ga, oa, none⟩) c.L.length ca] : Array Value)[k]?) ∧ (∀ k, w'.cell? ⟨br, k, none⟩ = (#[.slice (some ⟨ga, oa, none⟩) c.L.length ca] : Array Value)[k]?) ∧ (∀ k, w'.cell? ⟨bb, k, none⟩ = (#[.int .i64 (ri : Int), .int .i64 s1, .int .i64 s2, .int .i64 s3] : Array Value)[k]?) ∧ w'.cell? ⟨ga, oa + ri * 6, none⟩ = some (.int .i64 u0) ∧ w'.cell? ⟨ga, oa + ri * 6 + 1, none⟩ = some (.int .i64 u1) ∧ w'.cell? ⟨ga, oa + ri * 6 + 2, none⟩ = some (.int .i64 u2) ∧ w'.cell? ⟨ga, oa + ri * 6 + 3, none⟩ = some (.int .i64 u3) ∧ w'.cell? ⟨ga, oa + ri * 6 + 4, none⟩ = some (.int .i64 u4) ∧ w'.cell? ⟨ga, oa + ri * 6 + 5, none⟩ = some (.int .i64 u5)) := Lib.hid (fun w' hb => by
      obtain ⟨_, _, n3, n4, _⟩ := HCX.out
      have hc : ∀ k, w'.cell? ⟨ga, k, none⟩ = w4.cell? ⟨ga, k, none⟩ := fun k => hb.cell (p := ⟨ga, k, none⟩) (by show ga < _; omega)
      exact ⟨fun k => Lib.cell_of_heap ((hb.block _ (lt_of n3)).trans n3) k, fun k => Lib.cell_of_heap ((hb.block _ (lt_of n4)).trans n4) k, fun k => Lib.cell_of_heap ((hb.block _ hbbl).trans hsb) k, (hc _).trans j0, (hc _).trans j1, (hc _).trans j2, (hc _).trans j3, (hc _).trans j4, (hc _).trans j5⟩)
    have a0 := HSt.out w4.drew ((Below.refl w4.heap.size w4).drew)
    clear j0 j1 j2 j3 j4 j5
    refine wp_region_held_drew (S := fun w' => (∀ k, w'.cell? ⟨bg, k, none⟩ = (#[.int .i64 d0, .int .i64 d1, .slice (some ⟨ga, oa, none⟩) c.L.length ca] : Array Value)[k]?) ∧ (∀ k, w'.cell? ⟨br, k, none⟩ = (#[.slice (some ⟨ga, oa, none⟩) c.L.length ca] : Array Value)[k]?) ∧ (∀ k, w'.cell? ⟨bb, k, none⟩ = (#[.int .i64 (ri : Int), .int .i64 s1, .int .i64 s2, .int .i64 s3] : Array Value)[k]?) ∧ w'.cell? ⟨ga, oa + ri * 6, none⟩ = some (.int .i64 u0) ∧ w'.cell? ⟨ga, oa + ri * 6 + 1, none⟩ = some (.int .i64 u1) ∧ w'.cell? ⟨ga, oa + ri * 6 + 2, none⟩ = some (.int .i64 u2) ∧ w'.cell? ⟨ga, oa + ri * 6 + 3, none⟩ = some (.int .i64 u3) ∧ w'.cell? ⟨ga, oa + ri * 6 + 4, none⟩ = some (.int .i64 u4) ∧ w'.cell? ⟨ga, oa + ri * 6 + 5, none⟩ = some (.int .i64 u5)) (by kernel_rfl) a0 (fun hHeld => ?_)
    refine wpAnyH_take (i := 0) (v := ?_) rfl (by kernel_rfl) (by kernel_rfl) (by kernel_rfl) (fun _ _ _ h => h) (Or.inl ⟨by kernel_rfl, ?_⟩) (by assumption) ?_
    rotate_left
    · intro w hSw; (try dsimp only at hSw); go_simp; try with_reducible rfl
    try simp only [Act.put, List.setIfInBounds_toArray, List.set_cons_zero, List.set_cons_succ]
    refine wpAnyH_take (i := 1) (v := ?_) rfl (by kernel_rfl) (by kernel_rfl) (by kernel_rfl) (fun _ _ _ h => h) (Or.inl ⟨by kernel_rfl, ?_⟩) (by assumption) ?_
    rotate_left
    · intro w hSw; (try dsimp only at hSw); go_simp; try with_reducible rfl
    try simp only [Act.put, List.setIfInBounds_toArray, List.set_cons_zero, List.set_cons_succ]
    refine wpAnyH_take (i := 2) (v := ?_) rfl (by kernel_rfl) (by kernel_rfl) (by kernel_rfl) (fun _ _ _ h => h) (Or.inl ⟨by kernel_rfl, ?_⟩) (by assumption) ?_
    rotate_left
    · intro w hSw; (try dsimp only at hSw); go_simp; try with_reducible rfl
    try simp only [Act.put, List.setIfInBounds_toArray, List.set_cons_zero, List.set_cons_succ]
    refine wpAnyH_take (i := 3) (v := ?_) rfl (by kernel_rfl) (by kernel_rfl) (by kernel_rfl) (fun _ _ _ h => h) (Or.inl ⟨by kernel_rfl, ?_⟩) (by assumption) ?_
    rotate_left
    · intro w hSw; (try dsimp only at hSw); go_simp; try with_reducible rfl
    try simp only [Act.put, List.setIfInBounds_toArray, List.set_cons_zero, List.set_cons_succ]
    refine wpAnyH_take (i := 4) (v := ?_) rfl (by kernel_rfl) (by kernel_rfl) (by kernel_rfl) (fun _ _ _ h => h) (Or.inl ⟨by kernel_rfl, ?_⟩) (by assumption) ?_
    rotate_left
    · intro w hSw; (try dsimp only at hSw); go_simp; try with_reducible rfl
    try simp only [Act.put, List.setIfInBounds_toArray, List.set_cons_zero, List.set_cons_succ]
    refine wpAnyH_take (i := 5) (v := ?_) rfl (by kernel_rfl) (by kernel_rfl) (by kernel_rfl) (fun _ _ _ h => h) (Or.inl ⟨by kernel_rfl, ?_⟩) (by assumption) ?_
    rotate_left
    · intro w hSw; (try dsimp only at hSw); go_simp; try with_reducible rfl
    try simp only [Act.put, List.setIfInBounds_toArray, List.set_cons_zero, List.set_cons_succ]
    refine wpAnyH_take (i := 6) (v := ?_) rfl (by kernel_rfl) (by kernel_rfl) (by kernel_rfl) (fun _ _ _ h => h) (Or.inl ⟨by kernel_rfl, ?_⟩) (by assumption) ?_
    rotate_left
    · intro w hSw; (try dsimp only at hSw); go_simp; try with_reducible rfl
    try simp only [Act.put, List.setIfInBounds_toArray, List.set_cons_zero, List.set_cons_succ]
    refine wpAnyH_take (i := 9) (v := ?_) rfl (by kernel_rfl) (by kernel_rfl) (by kernel_rfl) (fun _ _ _ h => h) (Or.inl ⟨by kernel_rfl, ?_⟩) (by assumption) ?_
    rotate_left
    · intro w hSw; (try dsimp only at hSw); go_simp; try with_reducible rfl
    try simp only [Act.put, List.setIfInBounds_toArray, List.set_cons_zero, List.set_cons_succ]
    refine wpAnyH_ready (rs := [7]) (by kernel_rfl) (by simp) ?_
    refine AllReadyH.cons rfl (fun K hK => ?_) AllReadyH.nil
    go_simp
    refine (HUn.out _).mono ?_
    rintro e w5 ⟨A5, rfl, hA5, hb5⟩
    have hb6 := TblQ.nx ((Below.refl w4.heap.size w4).drew) hb5
    have b0 := HSt.out w5 hb6
    refine hK.out _ _ b0 (fun hHeld => ?_)
    clear hK K
    try simp only [Act.put, List.setIfInBounds_toArray, List.set_cons_zero, List.set_cons_succ]
    refine wpAnyH_ready (rs := [8]) (by kernel_rfl) (by simp) ?_
    refine AllReadyH.cons rfl (fun K hK => ?_) AllReadyH.nil
    go_simp
    refine hK.out _ _ b0 (fun hHeld => ?_)
    clear hK K
    try simp only [Act.put, List.setIfInBounds_toArray, List.set_cons_zero, List.set_cons_succ]
    refine wpAnyH_done (by kernel_rfl) ?_ _
    clear hHeld b0 a0 HSt
    obtain ⟨F3, hsub, hw5, hc5⟩ : ∃ F3 : List Box, (∀ p ∈ (bb, #[Value.int .i64 (ri : Int), .int .i64 s1, .int .i64 s2, .int .i64 s3], 30) :: (bx, #[Value.int .i64 s1, .int .i64 s2], 53) :: F, p ∈ F3) ∧ Wt W w5 v c (told ++ [(s1, s2)]) T sv F3 ∧ (0 < l.length → ∃ g, A5 = some ⟨g, 0, none⟩ ∧ ∀ w' told' T' sv', Wt W w' v c told' T' sv' F3 → ∀ j, (hj : j < l.length) → w'.cell? ⟨g, j * 2, none⟩ = some (.int .i64 l[j].1) ∧ w'.cell? ⟨g, j * 2 + 1, none⟩ = some (.int .i64 l[j].2)) := by
      rcases Nat.eq_zero_or_pos l.length with hz | hz
      · exact ⟨_, fun p hp => hp, HWB4.out w5 hb6, fun h => by omega⟩
      · obtain ⟨g, hg1, hg2, hg3⟩ := hA5 hz
        have hq := HWB4.out w4 (Below.refl _ _)
        refine ⟨(g, (encP l).toArray, 53) :: _, fun p hp => List.mem_cons_of_mem _ hp, hq.old hb6 hg2 hg3, fun _ => ⟨g, hg1, fun w' told' T' sv' hx j hj => ?_⟩⟩
        have hh := (hx.F (g, (encP l).toArray, 53) (by simp)).1
        obtain ⟨b1, b2⟩ := encP_at l j hj
        exact ⟨by rw [Lib.cell_of_heap hh]; simpa using b1, by rw [Lib.cell_of_heap hh]; simpa using b2⟩
    have HW5 := Lib.hid hw5
    have HC5 := Lib.hid hc5
    have HSub := Lib.hid hsub
    have HCF : Hid (∀ w' told' T' sv' F', (∀ p ∈ F3, p ∈ F') → Wt W w' v c told' T' sv' F' → (∀ o, w'.cell? ⟨bf, o, none⟩ = (#[.func (.func 29) #[] #[.pointer (some ⟨bt, 0, none⟩), .pointer (some ⟨bk, 0, none⟩), .pointer (some ⟨bg, 0, none⟩), .pointer (some ⟨br, 0, none⟩), .pointer (some ⟨bf, 0, none⟩), .pointer (some ⟨v.bs, 0, none⟩)]] : Array Value)[o]?) ∧ ∀ o, w'.cell? ⟨bb, o, none⟩ = (#[.int .i64 (ri : Int), .int .i64 s1, .int .i64 s2, .int .i64 s3] : Array Value)[o]?) := Lib.hid (fun w' told' T' sv' F' hFF hx => by
      obtain ⟨_, _, _, _, n5⟩ := HCN.out w' told' T' sv' F' (fun p hp => hFF p (HSub.out p (by simp [hp]))) hx
      have hs := (hx.F (bb, #[Value.int .i64 (ri : Int), .int .i64 s1, .int .i64 s2, .int .i64 s3], 30) (hFF _ (HSub.out _ (by simp)))).1
      exact ⟨fun o => Lib.cell_of_heap n5 o, fun o => Lib.cell_of_heap hs o⟩)
    have HMid0 : Hid (Mid c i ⟨ri, s1, s2, s3⟩ (l.take 0) told T pend (told ++ [(s1, s2)]) T) := HMid
    have hll : l.length ≤ 2 := by
      rw [← hl]
      unfold under
      split
      · simp
      · split
        · simp
        · split <;> simp
    clear hw5 hc5 hsub HWB4 HUn HCX hb5 hb6 hA5 HMid hl hsb hbbl
    go_wp2_with fail
    go_loopw [35] (fun z wr => ∃ (k : Nat) (told' : List Fa) (T' : List Sp) (sv' : Value), k ≤ l.length ∧ z = .int .i64 k ∧ Hid (Wt W wr v c told' T' sv' F3) ∧ Hid (Mid c i ⟨ri, s1, s2, s3⟩ (l.take k) told T pend told' T')) (fun z _ => l.length - (intOf z).toNat)
    case atStart => exact ⟨0, _, _, _, by omega, rfl, HW5, HMid0⟩
    case round =>
      clear HW5 HMid0
      obtain ⟨k, told', T', sv', hk, rfl, HW, HM⟩ := hrel
      by_cases hlt : k < l.length
      · have e1 : decide ((k : Int) < l.length) = true := by simp; omega
        obtain ⟨g, rfl, hcell⟩ := HC5.out (by omega)
        obtain ⟨y0, y1⟩ := hcell _ _ _ _ HW.out k hlt
        obtain ⟨kk, x, hk1, hk2, hk3⟩ := HIH.out l[k] (List.getElem_mem hlt)
        have htk : l.take (k + 1) = l.take k ++ [l[k]] := List.take_succ_eq_append_getElem hlt
        have HNx : Hid (∀ told'' T'' D, TellTo c kk l[k] told' T' ((s1, s2) :: pend) told'' T'' D → Mid c i ⟨ri, s1, s2, s3⟩ (l.take (k + 1)) told T pend told'' T'') := Lib.hid (fun told'' T'' D ht => by
          rw [htk]
          exact Mid.next HM.out hk1 ht)
        have hwA := HW.out.box #[.int .i64 l[k].1, .int .i64 l[k].2] 53
        have HCall := HIHc.out kk hk1 x hk2 _ _ _ _ _ hwA (fun p hp => List.mem_cons_of_mem _ (HSub.out p (by simp [HF.out p hp]))) HM.out.td (HLt.out kk hk1)
        unfold TellPost at HCall
        rw [hk3] at HCall
        have e2 : x.role = l[k].1 := by have := congrArg Prod.fst hk3; exact this
        have e3 : x.who = l[k].2 := by have := congrArg Prod.snd hk3; exact this
        rw [e2, e3] at HCall
        have HCa := Lib.hid HCall
        have cbf : ∀ o, (wr.alloc (.cells #[.int .i64 l[k].1, .int .i64 l[k].2] 53)).cell? ⟨bf, o, none⟩ = _ := (HCF.out _ _ _ _ _ (fun p hp => List.mem_cons_of_mem _ hp) hwA).1
        have q2 : (0 : Int) ≤ k := by omega
        have q3 : (k : Int) < l.length := by omega
        clear HCall hwA hcell htk e2 e3 hk3 hk2
        generalize l[k] = lk at *
        obtain ⟨lr, lw⟩ := lk
        simp only at HCa y0 y1 cbf
        go_wp2_with fail
        refine HCa.out.mono ?_
        rintro e w6 ⟨rfl, told'', T'', sv'', D, hW6, hT6⟩
        have HW6 := Lib.hid (hW6.less (F' := F3) (fun p hp => List.mem_cons_of_mem _ hp))
        have HM6 := Lib.hid (HNx.out _ _ _ hT6)
        clear hW6 hT6 HCa HNx cbf y0 y1 HW HM
        go_wp2_with fail
        go_roundw
        case rel => exact ⟨k + 1, _, _, _, by omega, by go_num, HW6, HM6⟩
        case measure => simp [intOf]; omega
      · have e1 : decide ((k : Int) < l.length) = false := by simp; omega
        have htk : l.take k = l := List.take_of_length_le (by omega)
        have hM := HM.out
        rw [htk] at hM
        obtain ⟨D, hD⟩ := HDone.out _ _ hM
        have hTl := hM.td.len.2
        have hw6 := HW.out.below ((Below.refl wr.heap.size wr).alloc (Nat.le_refl _) (.cells #[.int .i64 (ri : Int), .int .i64 s1, .int .i64 s2, .int .i64 s3] 30))
        have hnews : ∀ j x, ([.int .i64 (ri : Int), .int .i64 s1, .int .i64 s2, .int .i64 s3] : List Value)[j]? = some x → (wr.alloc (.cells #[.int .i64 (ri : Int), .int .i64 s1, .int .i64 s2, .int .i64 s3] 30)).cell? ((⟨wr.heap.size, 0, none⟩ : Addr).add j) = some x := fun j x hx => by
          rw [Go.Proofs.Ytihhojgnilbfnaa.SemC.add_off, Lib.cell_of_heap (heap_alloc_new wr _), ← hx]
          simp
        obtain ⟨sv2, w7, hr7, ho7, hg7, hm7, _⟩ := run_append_own_k (P := Try.prog) _ W.heap.size 24 24 30 i0 _ 4 32 Try.underlying24 hi hz0 hz1 hz2 rfl (by decide) sv' T'.length (cellsT T') hw6.row ⟨wr.heap.size, 0, none⟩ 1 1 [.int .i64 (ri : Int), .int .i64 s1, .int .i64 s2, .int .i64 s3] rfl hnews (fun x hx => by simp at hx; rcases hx with rfl | rfl | rfl | rfl <;> rfl) (by unfold maxLen; omega) (by omega) hw6.bel.size
        have hfin := Wt.step (s := ⟨ri, s1, s2, s3⟩) hw6 hg7 hm7 ho7
        have HFin := Lib.hid (hfin.less (F' := F) (fun p hp => HSub.out p (by simp [hp])))
        obtain ⟨A2, n2, c2, rfl⟩ : ∃ A n c, sv2 = Value.slice A n c := by
          rcases ho7.2 with ⟨rfl, _⟩ | ⟨g, cap, cur, rfl, _⟩ <;> exact ⟨_, _, _, rfl⟩
        have hx0 := HW.out.hs
        have cs0 := fun o => Lib.cell_of_heap hx0 o
        have cb0 := (HCF.out _ _ _ _ _ (fun p hp => hp) HW.out).2
        have hx7 : w7.heap[v.bs]? = some (.cells #[sv'] 24 (0, 0)) := (hg7.block _ (lt_of hw6.hs) (fun e => by
          obtain ⟨_, cur, hc⟩ := own_blk hw6.row e.symm
          exact ne_of_type hw6.hs hc (by show (_ : Nat) ≠ _; decide) rfl)).trans hw6.hs
        have cs7 := fun o => Lib.cell_of_heap hx7 o
        have fs7 : ∀ o, w7.frozen? ⟨v.bs, o, none⟩ = false := fun o => frozen_of_row _ _ _ _ _ hx7
        have HD := Lib.hid hD
        have HR7 := Lib.hid hr7
        clear hD hM HM HW hw6 hnews hr7 ho7 hg7 hm7 hfin hx0 hx7 htk HIHc HIH HLt HDone HC5 HCF HCN
        go_wp2_with (at_builtin; refine Lib.wpList_append_run _ rfl _ _ 24 24 rfl _ _ rfl rfl _ _ HR7.out ?_)
        go_wp2_with fail
        go_end0
        exact ⟨rfl, _, _, _, _, HFin.out, HD.out⟩
end Go.Proofs.Ytihhojgnilbfnaa.PfQ
/- Why, by contract: a proof where there is one. -/
namespace Go.Proofs.Ytihhojgnilbfnaa.PfR
set_option linter.unusedVariables false
set_option linter.unusedSimpArgs false
open Go.RowKit Go.Lib Go.Proofs Go.Maps Go.Proofs.Ytihhojgnilbfnaa.SetQ Go.Proofs.Ytihhojgnilbfnaa.SetR Go.Proofs.Ytihhojgnilbfnaa.TblC Go.Proofs.Ytihhojgnilbfnaa.TblV Go.Proofs.Ytihhojgnilbfnaa.TblQ Go.Proofs.Ytihhojgnilbfnaa.SemB Go.Proofs.Ytihhojgnilbfnaa.SemC Go.Proofs.Ytihhojgnilbfnaa.SemD Go.Proofs.Ytihhojgnilbfnaa.SemGa Go.Proofs.Ytihhojgnilbfnaa.SemJ Go.Proofs.Ytihhojgnilbfnaa.PfM Go.Proofs.Ytihhojgnilbfnaa.PfN Go.Proofs.Ytihhojgnilbfnaa.PfO Go.Proofs.Ytihhojgnilbfnaa.PfA Go.Proofs.Ytihhojgnilbfnaa.PfB Go.Proofs.Ytihhojgnilbfnaa.PfC Go.Proofs.Ytihhojgnilbfnaa.PfE Go.Proofs.Ytihhojgnilbfnaa.PfI Go.Proofs.Ytihhojgnilbfnaa.PfJ Go.Proofs.Ytihhojgnilbfnaa.PfK Go.Proofs.Ytihhojgnilbfnaa.PfL Go.Proofs.Ytihhojgnilbfnaa.PfQ
set_option linter.unusedVariables false
set_option linter.unusedSimpArgs false
/-- A proof of a fact: right steps, the last of which tells it, each of the others stood on by a later one. -/
structure Proof (P K : Nat) (L : List Ru) (f : Fa) (T : List Sp) : Prop where
  ck : chk P K L [] T = true
  last : ∃ T' s, T = T' ++ [s] ∧ s.fa = f
  need : Need K L T [f]
def WhyPost (P K : Nat) (L : List Ru) (f : Fa) (w : World) (e : Ending) (w' : World) : Prop :=
  Below w.heap.size w w' ∧ ((derB P K L f.1 f.2 = true ∧ ∃ A ca T, e = .returned (.tuple #[.slice A T.length ca, .bool true]) ∧ TG w' A T ∧ T.length ≤ ca ∧ Proof P K L f T) ∨ (derB P K L f.1 f.2 = false ∧ e = .returned (.tuple #[.slice none 0 0, .bool false])))
set_option maxRecDepth 100000 in
theorem wt_start {w w3 : World} {b n : Nat} {d0 d1 : Int} {A : Option Addr} {ca : Nat} {z : Array Value} (c : Ctx) (hn : n = c.L.length) (hb : Below w.heap.size w w3) (hu : UG w A c.L) (hm : MapV w3 53 fv b c.kn.length (kmap c.kn)) (hlt : w.heap.size + 1 < w3.heap.size)
    (hr : w3.heap[w.heap.size]? = some (.cells #[.slice A n ca] 23 (0, 0))) (hg : w3.heap[w.heap.size + 1]? = some (.cells #[.int .i64 d0, .int .i64 d1, .slice A n ca] 50 (0, 0))) :
    Wt w ((((((w3.alloc (.cells #[.map (some b)] 51)).alloc (.cells z 30)).alloc (.cells #[.slice none 0 0] 24)).alloc (.map #[] 0)).alloc (.cells #[.map (some (w3.heap.size + 1 + 1 + 1))] 69)).alloc
      (.cells #[.func (.func 29) #[] #[.pointer (some ⟨w3.heap.size + 1 + 1 + 1 + 1, 0, none⟩), .pointer (some ⟨w3.heap.size, 0, none⟩), .pointer (some ⟨w.heap.size + 1, 0, none⟩), .pointer (some ⟨w.heap.size, 0, none⟩), .pointer (some ⟨w3.heap.size + 1 + 1 + 1 + 1 + 1, 0, none⟩), .pointer (some ⟨w3.heap.size + 1 + 1, 0, none⟩)]] 70))
      ⟨w3.heap.size + 1 + 1, w3.heap.size + 1 + 1 + 1, b, c.kn.length, A⟩ c [] [] (.slice none 0 0) (consts (w3.heap.size + 1 + 1 + 1 + 1) w3.heap.size (w.heap.size + 1) w.heap.size (w3.heap.size + 1 + 1 + 1 + 1 + 1) (w3.heap.size + 1 + 1) (w3.heap.size + 1 + 1 + 1) b d0 d1 A n ca) := by
  obtain ⟨x0, h0⟩ : ∃ x, w3.alloc (.cells #[.map (some b)] 51) = x := ⟨_, rfl⟩
  have z0 : x0.heap.size = w3.heap.size + 1 := by rw [← h0]; simp
  have b0 : Below w3.heap.size w3 x0 := by rw [← h0]; exact (Below.refl _ _).alloc (Nat.le_refl _) _
  have g0 : x0.heap[w3.heap.size]? = some (.cells #[.map (some b)] 51 (0, 0)) := by rw [← h0]; exact heap_alloc_new w3 _
  rw [h0]
  obtain ⟨x1, h1⟩ : ∃ x, x0.alloc (.cells z 30) = x := ⟨_, rfl⟩
  have z1 : x1.heap.size = w3.heap.size + 1 + 1 := by rw [← h1]; simp [z0]
  have b1 : Below x0.heap.size x0 x1 := by rw [← h1]; exact (Below.refl _ _).alloc (Nat.le_refl _) _
  rw [h1]
  obtain ⟨x2, h2⟩ : ∃ x, x1.alloc (.cells #[.slice none 0 0] 24) = x := ⟨_, rfl⟩
  have z2 : x2.heap.size = w3.heap.size + 1 + 1 + 1 := by rw [← h2]; simp [z1]
  have b2 : Below x1.heap.size x1 x2 := by rw [← h2]; exact (Below.refl _ _).alloc (Nat.le_refl _) _
  have g2 : x2.heap[w3.heap.size + 1 + 1]? = some (.cells #[.slice none 0 0] 24 (0, 0)) := by rw [← h2, ← z1]; exact heap_alloc_new x1 _
  rw [h2]
  obtain ⟨x3, h3⟩ : ∃ x, x2.alloc (.map #[] 0) = x := ⟨_, rfl⟩
  have z3 : x3.heap.size = w3.heap.size + 1 + 1 + 1 + 1 := by rw [← h3]; simp [z2]
  have b3 : Below x2.heap.size x2 x3 := by rw [← h3]; exact (Below.refl _ _).alloc (Nat.le_refl _) _
  have g3 : MapV x3 53 fv (w3.heap.size + 1 + 1 + 1) 0 (tmap []) := by
    have e : tmap [] = fun _ => none := by funext f; simp [tmap]
    rw [e, ← h3, ← z2]; exact MapV.made x2 _ _
  rw [h3]
  obtain ⟨x4, h4⟩ : ∃ x, x3.alloc (.cells #[.map (some (w3.heap.size + 1 + 1 + 1))] 69) = x := ⟨_, rfl⟩
  have z4 : x4.heap.size = w3.heap.size + 1 + 1 + 1 + 1 + 1 := by rw [← h4]; simp [z3]
  have b4 : Below x3.heap.size x3 x4 := by rw [← h4]; exact (Below.refl _ _).alloc (Nat.le_refl _) _
  have g4 : x4.heap[w3.heap.size + 1 + 1 + 1 + 1]? = some (.cells #[.map (some (w3.heap.size + 1 + 1 + 1))] 69 (0, 0)) := by rw [← h4, ← z3]; exact heap_alloc_new x3 _
  rw [h4]
  have g5 := heap_alloc_new x4 (.cells #[.func (.func 29) #[] #[.pointer (some ⟨w3.heap.size + 1 + 1 + 1 + 1, 0, none⟩), .pointer (some ⟨w3.heap.size, 0, none⟩), .pointer (some ⟨w.heap.size + 1, 0, none⟩), .pointer (some ⟨w.heap.size, 0, none⟩), .pointer (some ⟨w3.heap.size + 1 + 1 + 1 + 1 + 1, 0, none⟩), .pointer (some ⟨w3.heap.size + 1 + 1, 0, none⟩)]] 70)
  have b5 := (Below.refl x4.heap.size x4).alloc (Nat.le_refl _) (.cells #[.func (.func 29) #[] #[.pointer (some ⟨w3.heap.size + 1 + 1 + 1 + 1, 0, none⟩), .pointer (some ⟨w3.heap.size, 0, none⟩), .pointer (some ⟨w.heap.size + 1, 0, none⟩), .pointer (some ⟨w.heap.size, 0, none⟩), .pointer (some ⟨w3.heap.size + 1 + 1 + 1 + 1 + 1, 0, none⟩), .pointer (some ⟨w3.heap.size + 1 + 1, 0, none⟩)]] 70)
  rw [z4] at g5
  generalize x4.alloc (.cells #[.func (.func 29) #[] #[.pointer (some ⟨w3.heap.size + 1 + 1 + 1 + 1, 0, none⟩), .pointer (some ⟨w3.heap.size, 0, none⟩), .pointer (some ⟨w.heap.size + 1, 0, none⟩), .pointer (some ⟨w.heap.size, 0, none⟩), .pointer (some ⟨w3.heap.size + 1 + 1 + 1 + 1 + 1, 0, none⟩), .pointer (some ⟨w3.heap.size + 1 + 1, 0, none⟩)]] 70) = x5 at *
  have b45 : Below x4.heap.size x4 x5 := b5
  have b35 : Below x3.heap.size x3 x5 := b4.trans (b45.mono (by omega))
  have b25 : Below x2.heap.size x2 x5 := b3.trans (b35.mono (by omega))
  have b15 : Below x1.heap.size x1 x5 := b2.trans (b25.mono (by omega))
  have b05 : Below x0.heap.size x0 x5 := b1.trans (b15.mono (by omega))
  have bw5 : Below w3.heap.size w3 x5 := b0.trans (b05.mono (by omega))
  exact {
    bel := hb.trans (bw5.mono (by omega))
    hs := (b25.block (w3.heap.size + 1 + 1) (by omega)).trans g2
    ug := hu
    km := hm.below bw5
    tm := g3.below b35
    ne := by have := hm.lt; simp only; omega
    row := World.ownsRow_nil _ _ _ _
    up := by simp only; omega
    F := by
      simp only [consts, List.forall_mem_cons]
      refine ⟨⟨(b45.block _ (by omega)).trans g4, by omega, by simp [Value.ownBlock]⟩, ⟨(b05.block _ (by omega)).trans g0, by omega, by simp [Value.ownBlock]⟩, ⟨(bw5.block _ (by omega)).trans hg, by omega, by simp [Value.ownBlock]⟩, ⟨(bw5.block _ (by omega)).trans hr, by omega, by simp [Value.ownBlock]⟩, ⟨g5, by omega, by simp [Value.ownBlock]⟩, ?_⟩
      intro p hp
      cases hp }
theorem told0 (c : Ctx) : TolS c [] [] [] :=
  ⟨rfl, (fun s hs => by cases hs), (fun f => by simp [hasS]), List.nodup_nil, (fun f hf => by cases hf), (fun f hf => by cases hf)⟩
set_option maxHeartbeats 2000000 in
set_option maxRecDepth 100000 in
theorem why (d0 d1 : Int) (A : Option Addr) (ca : Nat) (L : List Ru) (f : Fa) (w : World) (g1 : d0 ≤ 10) (g2 : d1 ≤ 6) (hL : L.length ≤ 60) (hA : UG w A L) (hf : InR f) :
    Calls Try.prog 14 #[.int .i64 d0, .int .i64 d1, .slice A L.length ca, .int .i64 f.1, .int .i64 f.2] w (WhyPost d0.toNat d1.toNat L f w) := by
  obtain ⟨kl, hkl⟩ := keyF hf.1 hf.2
  have hmm := @run_makeMap Try.prog
  have hmf : ∀ (fn : Fn) (first cap : Array Value) (w : World), (Instr.makeFunc fn first cap).run Try.prog w = .ok (.func fn first cap) w := fun _ _ _ _ => rfl
  have hb2 : Below w.heap.size w ((w.alloc (.cells #[.slice A L.length ca] 23)).alloc (.cells #[.int .i64 d0, .int .i64 d1, .slice A L.length ca] 50)) := ((Below.refl _ _).alloc (Nat.le_refl _) _).alloc (by simp) _
  have hr2 := heap_alloc2_old w (.cells #[.slice A L.length ca] 23) (.cells #[.int .i64 d0, .int .i64 d1, .slice A L.length ca] 50)
  have hg2 := heap_alloc2_new w (.cells #[.slice A L.length ca] 23) (.cells #[.int .i64 d0, .int .i64 d1, .slice A L.length ca] 50)
  have cg := fun o => Lib.cell_of_heap hg2 o
  have HS := Lib.hid (PfI.search d0 d1 A ca L _ g1 g2 hL (hA.below hb2))
  have HB2 := Lib.hid hb2
  have HR2 := Lib.hid hr2
  have HG2 := Lib.hid hg2
  have HUG := Lib.hid hA
  have HKl := Lib.hid hkl
  clear hb2 hr2 hg2 hA hkl
  go_enter Try.func14, Try.ntmps14
  go_wp2_with fail
  refine HS.out.mono ?_
  rintro e w3 ⟨b, kn, rfl, hbge, hmk, hb3, hck, hder⟩
  have hb03 := SemI.nx HB2.out hb3
  have hr3 := (hb3.block _ (lt_of HR2.out)).trans HR2.out
  have hg3 := (hb3.block _ (lt_of HG2.out)).trans HG2.out
  have hk4 := hmk.below ((Below.refl _ _).alloc (Nat.le_refl _) (.cells #[.map (some b)] 51))
  have lk := hk4.look_ok lawF Try.underlying51 (zeroS _) HKl.out
  rw [kmap_some] at lk
  obtain ⟨z, hz⟩ := kmap_val kn f
  rw [hz] at lk
  have hd := hder f.1 f.2
  have ef : ((f.1, f.2) : Fa) = f := rfl
  rw [ef] at hd
  unfold fv at lk
  have HDer := Lib.hid hd
  have HC := Lib.hid hck
  have HD : Hid (∀ s ∈ kn, d1 = (d1.toNat : Int)) := Lib.hid (fun s hs => by
    obtain ⟨_, _, u, hu, _⟩ := chk_rng _ _ hck s hs
    have := right_dims (ruleAt_some hu).2.2.2
    omega)
  have HMK := Lib.hid hmk
  have HB03 := Lib.hid hb03
  have HR3 := Lib.hid hr3
  have HG3 := Lib.hid hg3
  have hlt3 : b < w3.heap.size := hmk.lt
  have HBG := Lib.hid hbge
  clear hb03 hr3 hg3 hk4 hmk hb3 hck hder hd hz HS HB2 HR2 HG2 cg HKl hbge
  cases hans : hasS kn f with
  | false =>
    rw [hans] at lk
    have HF := Lib.hid ((HB03.out.alloc HB03.out.size (.cells #[.map (some b)] 51)).alloc (Nat.le_trans HB03.out.size (by simp)) (.cells #[.int .i64 z.rule, .int .i64 z.role, .int .i64 z.who, .int .i64 z.mid] 30))
    have HN : Hid (derB d0.toNat d1.toNat L f.1 f.2 = false) := Lib.hid (HDer.out.symm.trans hans)
    clear hans HDer
    go_wp2_with fail
    go_ret2
    exact ⟨HF.out, .inr ⟨HN.out, rfl⟩⟩
  | true =>
    rw [hans] at lk
    have HN : Hid (derB d0.toNat d1.toNat L f.1 f.2 = true) := Lib.hid (HDer.out.symm.trans hans)
    obtain ⟨s, hs, es⟩ := hasS_iff.1 hans
    clear HDer
    obtain ⟨i, hi, ei⟩ := List.getElem_of_mem hs
    have hsi : kn[i]? = some s := by rw [List.getElem?_eq_getElem hi, ei]
    obtain ⟨f1, f2⟩ := f
    obtain ⟨s0, s1, s2, s3⟩ := s
    unfold Sp.fa at es
    simp only [Prod.mk.injEq] at es
    obtain ⟨rfl, rfl⟩ := es
    have hlt2 : w.heap.size + 1 < w3.heap.size := lt_of HG3.out
    have hwt := wt_start (z := #[.int .i64 z.rule, .int .i64 z.role, .int .i64 z.who, .int .i64 z.mid]) ⟨d0.toNat, d1.toNat, L, kn, HC.out⟩ rfl HB03.out HUG.out HMK.out hlt2 HR3.out HG3.out
    have hte := tell ⟨w3.heap.size + 1 + 1, w3.heap.size + 1 + 1 + 1, b, kn.length, A⟩ ⟨d0.toNat, d1.toNat, L, kn, HC.out⟩ _ _ _ _ _ d0 d1 ca (by simp only; omega) (by simp only; omega) HD.out i ⟨s0, s1, s2, s3⟩ hsi w _ [] [] _ _ [] hwt (fun p hp => hp) (told0 _) (fun g hg => by cases hg)
    have HTE := Lib.hid hte
    have HWT := Lib.hid hwt
    clear hwt hte HR3 HG3 HMK hs ei hsi hi
    go_upto_region 10 with fail
    have hwf := HWT.out.F
    simp only [consts, List.forall_mem_cons] at hwf
    obtain ⟨_, _, _, _, ⟨h5, _⟩, _⟩ := hwf
    have cf := fun o => Lib.cell_of_heap h5 o
    clear h5
    clear HWT lk
    generalize (((((w3.alloc (.cells #[.map (some b)] 51)).alloc (.cells #[.int .i64 z.rule, .int .i64 z.role, .int .i64 z.who, .int .i64 z.mid] 30)).alloc (.cells #[.slice none 0 0] 24)).alloc (.map #[] 0)).alloc (.cells #[.map (some (w3.heap.size + 1 + 1 + 1))] 69)).alloc
      (.cells #[.func (.func 29) #[] #[.pointer (some ⟨w3.heap.size + 1 + 1 + 1 + 1, 0, none⟩), .pointer (some ⟨w3.heap.size, 0, none⟩), .pointer (some ⟨w.heap.size + 1, 0, none⟩), .pointer (some ⟨w.heap.size, 0, none⟩), .pointer (some ⟨w3.heap.size + 1 + 1 + 1 + 1 + 1, 0, none⟩), .pointer (some ⟨w3.heap.size + 1 + 1, 0, none⟩)]] 70) = x5 at *
    go_wp2_with fail
    refine HTE.out.mono ?_
    rintro e w6 ⟨rfl, told', T', sv', D, hW, hT⟩
    have hrow := hW.row
    obtain ⟨A2, c2, rfl, htg⟩ := tg_own hrow
    have HCap := Lib.hid (tg_cap hrow)
    have hx6 := hW.hs
    have cs6 := fun o => Lib.cell_of_heap hx6 o
    have HF : Hid (WhyPost d0.toNat d1.toNat L (s1, s2) w (.returned (.tuple #[.slice A2 T'.length c2, .bool true])) w6 ∨ True) := Lib.hid (.inr trivial)
    have HPr : Hid (Proof d0.toNat d1.toNat L (s1, s2) T') := Lib.hid (by
      have e1 := hT.eq
      rw [List.nil_append] at e1
      subst e1
      exact ⟨hT.td.ck, hT.last (by simp), hT.need⟩)
    have HTG := Lib.hid htg
    have HB6 := Lib.hid hW.bel
    clear hW hT hrow htg hx6 HTE cf HF
    go_wp2_with fail
    go_ret2
    exact ⟨HB6.out, .inl ⟨HN.out, _, _, T', rfl, HTG.out, HCap.out, HPr.out⟩⟩
end Go.Proofs.Ytihhojgnilbfnaa.PfR
/- The document's has, by contract. -/
namespace Go.Proofs.Ytihhojgnilbfnaa.PfS1
set_option linter.unusedVariables false
set_option linter.unusedSimpArgs false
open Go.RowKit Go.Lib Go.Proofs Go.Maps Go.Proofs.Ytihhojgnilbfnaa.TblC Go.Proofs.Ytihhojgnilbfnaa.TblV Go.Proofs.Ytihhojgnilbfnaa.TblQ Go.Proofs.Ytihhojgnilbfnaa.SemB Go.Proofs.Ytihhojgnilbfnaa.PfM Go.Proofs.Ytihhojgnilbfnaa.PfN Go.Proofs.Ytihhojgnilbfnaa.PfO Go.Proofs.Ytihhojgnilbfnaa.PfB Go.Proofs.Ytihhojgnilbfnaa.PfL
set_option linter.unusedVariables false
set_option linter.unusedSimpArgs false
theorem hasS_take {T : List Sp} {k : Nat} (hk : k < T.length) (f : Fa) : hasS (T.take (k + 1)) f = (hasS (T.take k) f || decide (T[k].fa = f)) := by
  rw [List.take_succ_eq_append_getElem hk, hasS_app, hasS_one]
set_option maxHeartbeats 1000000 in
set_option maxRecDepth 100000 in
theorem hasD (A : Option Addr) (ca : Nat) (T : List Sp) (r x : Int) (w : World) (hT : T.length ≤ 100000) (hA : TG w A T) :
    Calls Try.prog 17 #[.slice A T.length ca, .int .i64 r, .int .i64 x] w fun e w' => e = .returned (.bool (hasS T (r, x))) ∧ Below w.heap.size w w' := by
  have HA := Lib.hid (fun w' (hb : Below w.heap.size w w') => hA.below hb)
  clear hA
  go_enter Try.func17, Try.ntmps17
  go_wp2_with fail
  go_loopw [11] (fun i wr => ∃ k : Nat, k ≤ T.length ∧ i = .int .i64 k ∧ Below w.heap.size w wr ∧ Hid (hasS (T.take k) (r, x) = false)) (fun i _ => T.length - (intOf i).toNat)
  case atStart => exact ⟨0, by omega, rfl, Below.refl _ _, Lib.hid rfl⟩
  case round =>
    obtain ⟨k, hk, rfl, hb, HN⟩ := hrel
    by_cases hlt : k < T.length
    · have e1 : decide ((k : Int) < T.length) = true := by simp; omega
      obtain ⟨g, o, rfl, hg, hc⟩ := HA.out _ hb (by omega)
      have hc2 := hc k hlt
      have HS := Lib.hid (hasS_take hlt (r, x))
      have HB := Lib.hid (fun (cs : Array Value) => hb.alloc hb.size (.cells cs 30))
      have HY : Hid (T[k].fa = (r, x) → hasS T (r, x) = true) := Lib.hid (fun e => hasS_iff.2 ⟨_, List.getElem_mem hlt, e⟩)
      have q0 : (0 : Int) ≤ k := by omega
      have q1 : (k : Int) < T.length := by omega
      clear hc hb
      generalize T[k] = s at *
      obtain ⟨s0, s1, s2, s3⟩ := s
      simp only [Sp.cells] at hc2
      have y0 : wr.cell? ⟨g, o + k * 4, none⟩ = some (.int .i64 s0) := hc2 0 (by omega)
      have y1 : wr.cell? ⟨g, o + k * 4 + 1, none⟩ = some (.int .i64 s1) := hc2 1 (by omega)
      have y2 : wr.cell? ⟨g, o + k * 4 + 2, none⟩ = some (.int .i64 s2) := hc2 2 (by omega)
      have y3 : wr.cell? ⟨g, o + k * 4 + 3, none⟩ = some (.int .i64 s3) := hc2 3 (by omega)
      clear hc2
      by_cases h1 : s1 = r
      · by_cases h2 : s2 = x
        · subst h1
          subst h2
          have HE := Lib.hid (HY.out rfl)
          clear HY HS HN
          go_wp2_with fail
          go_ret
          exact ⟨SetB.ret_bool HE.out.symm, HB.out _⟩
        · subst h1
          have HN2 : Hid (hasS (T.take (k + 1)) (s1, x) = false) := Lib.hid (by rw [HS.out, HN.out]; unfold Sp.fa; simp [h2])
          clear HY HS HN
          have d2 : (s2 == x) = false := by simp [h2]
          go_wp2_with fail
          go_roundw
          case rel => exact ⟨k + 1, by omega, by go_num, HB.out _, HN2⟩
          case measure => simp [intOf]; omega
      · have HN2 : Hid (hasS (T.take (k + 1)) (r, x) = false) := Lib.hid (by rw [HS.out, HN.out]; unfold Sp.fa; simp [h1])
        clear HY HS HN
        have d1 : (s1 == r) = false := by simp [h1]
        go_wp2_with fail
        go_roundw
        case rel => exact ⟨k + 1, by omega, by go_num, HB.out _, HN2⟩
        case measure => simp [intOf]; omega
    · have e1 : decide ((k : Int) < T.length) = false := by simp; omega
      have HE : Hid (hasS T (r, x) = false) := Lib.hid (by
        have := HN.out
        rwa [List.take_of_length_le (by omega)] at this)
      have HB := Lib.hid hb
      clear HN hb
      go_wp2_with fail
      go_ret
      exact ⟨SetB.ret_bool HE.out.symm, HB.out⟩
end Go.Proofs.Ytihhojgnilbfnaa.PfS1
