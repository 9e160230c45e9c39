/- What Add does to the counts, and to what is within what; families that there aren't. -/
import Derived.Test.YtmeiigcjfjapfaaDoorSetG
namespace Go.Proofs.YtmeiigcjfjapfaaDoor.SetH
open Go.RowKit Go.Lib Go.Proofs Go.Proofs.YtmeiigcjfjapfaaDoor.SetPop Go.Proofs.YtmeiigcjfjapfaaDoor.SetA Go.Proofs.YtmeiigcjfjapfaaDoor.SetB Go.Proofs.YtmeiigcjfjapfaaDoor.SetC Go.Proofs.YtmeiigcjfjapfaaDoor.SetD Go.Proofs.YtmeiigcjfjapfaaDoor.SetE Go.Proofs.YtmeiigcjfjapfaaDoor.SetG
set_option linter.unusedVariables false
set_option linter.unusedSimpArgs false
theorem countP_one (p : Nat → Bool) (j : Nat) (hp : p j = false) : ∀ n, (List.range n).countP (fun i => p i || decide (j = i)) = (List.range n).countP p + (if j < n then 1 else 0)
  | 0 => by simp
  | n + 1 => by
    rw [List.range_succ, List.countP_append, List.countP_append, countP_one p j hp n]
    simp only [List.countP_singleton, Bool.or_eq_true, decide_eq_true_eq]
    by_cases h : j = n
    · subst h
      simp [hp]
    · have h3 : (j < n + 1) ↔ j < n := by omega
      simp only [h3, h, or_false]
      omega
theorem pop_or (x j : Nat) (hj : j < 64) (h : x.testBit j = false) : pop (x ||| 2 ^ j) = pop x + 1 := by
  unfold pop
  have := countP_one (fun i => x.testBit i) j h 64
  rw [if_pos hj] at this
  rw [← this]
  apply List.countP_congr
  intro i _
  rw [Nat.testBit_or, Nat.testBit_two_pow]
theorem cnt_set : ∀ (T : List Nat) (q v : Nat), q < T.length → cnt (T.set q v) + pop (T.getD q 0) = cnt T + pop v
  | [], _, _, h => absurd h (by simp)
  | a :: T, 0, v, _ => by simp [cnt]; omega
  | a :: T, q + 1, v, h => by
    have := cnt_set T q v (by simpa using h)
    simp only [cnt, List.set_cons_succ, List.map_cons, List.sum_cons, List.getD_cons_succ] at this ⊢
    omega
theorem rowM_getD (M : List Nat) (r k : Nat) (hk : k < 16) : (rowM M r).getD k 0 = M.getD (r * 16 + k) 0 := by
  rw [List.getD_eq_getElem?_getD, List.getD_eq_getElem?_getD, rowM_get hk]
theorem rowI_nat {n : Nat} (M : List Nat) {r : Nat} (h : r < n) : rowI n M (r : Int) = rowM M r := by
  unfold rowI
  rw [if_pos (by omega)]; rfl
theorem rowM_set_same (M : List Nat) (r q v : Nat) (hq : q < 16) : rowM (M.set (r * 16 + q) v) r = (rowM M r).set q v := by
  apply List.ext_getElem?
  intro i
  rcases Nat.lt_or_ge i 16 with hi | hi
  · rw [rowM_get hi]
    by_cases h : q = i
    · subst h
      rw [List.getElem?_set, if_pos rfl, List.getElem?_set, if_pos rfl]
      by_cases hl : r * 16 + q < M.length
      · rw [if_pos hl, if_pos (by unfold rowM; simp; omega)]
      · rw [if_neg hl, if_neg (by unfold rowM; simp; omega)]
    · rw [List.getElem?_set_ne (by omega), List.getElem?_set_ne h, rowM_get hi]
  · rw [List.getElem?_eq_none (by unfold rowM; simp; omega), List.getElem?_eq_none (by unfold rowM; simp; omega)]
theorem rowM_set_other (M : List Nat) (r r' q v : Nat) (hq : q < 16) (h : r ≠ r') : rowM (M.set (r * 16 + q) v) r' = rowM M r' := by
  apply List.ext_getElem?
  intro i
  rcases Nat.lt_or_ge i 16 with hi | hi
  · rw [rowM_get hi, rowM_get hi, List.getElem?_set_ne (by omega)]
  · rw [List.getElem?_eq_none (by unfold rowM; simp; omega), List.getElem?_eq_none (by unfold rowM; simp; omega)]
theorem cnt_add (n c : Nat) (M : List Nat) (r k : Nat) (hM : M.length = n * 16) (hr : r < n) (hk : k < 1024) (hb : bitAt M r k = false) (r' : Nat) : cnt (rowM (addM M r k) r') = cnt (rowM M r') + (if r = r' then 1 else 0) := by
  unfold addM
  by_cases h : r = r'
  · subst h
    rw [if_pos rfl, rowM_set_same _ _ _ _ (by omega)]
    have h1 := cnt_set (rowM M r) (k / 64) (word M r k ||| 2 ^ (k % 64)) (by rw [rowM_len hM hr]; omega)
    rw [rowM_getD _ _ _ (by omega)] at h1
    have h2 := pop_or (word M r k) (k % 64) (by omega) hb
    have h3 : M.getD (r * 16 + k / 64) 0 = word M r k := rfl
    rw [h3] at h1
    omega
  · rw [if_neg h, rowM_set_other _ _ _ _ _ (by omega) h]; rfl
theorem tot_add (n c : Nat) (M : List Nat) (r k : Int) (hM : M.length = n * 16) (hc : c ≤ 1000) (h : addB n c M r k = true) : tot n (addN n c M r k) n = tot n M n + 1 := by
  unfold addN
  rw [if_pos h]
  unfold addB at h
  rw [Bool.and_eq_true] at h
  obtain ⟨a1, a2, a3, a4⟩ := mayB_iff.1 h.1
  have hb : bitAt M r.toNat k.toNat = false := by simpa using h.2
  have key : ∀ m, m ≤ n → tot n (addM M r.toNat k.toNat) m = tot n M m + (if r.toNat < m then 1 else 0) := by
    intro m
    induction m with
    | zero => intro _; simp [tot]
    | succ m ih =>
      intro hm
      rw [tot_succ, tot_succ, ih (by omega), rowI_nat _ (by omega), rowI_nat _ (by omega), cnt_add n c M r.toNat k.toNat hM (by omega) (by omega) hb]
      have h3 : (if r.toNat < m + 1 then 1 else 0) = (if r.toNat < m then 1 else 0) + (if r.toNat = m then 1 else 0) := by
        by_cases h1 : r.toNat < m
        · rw [if_pos h1, if_pos (show r.toNat < m + 1 by omega), if_neg (show ¬ r.toNat = m by omega)]
        · by_cases h2 : r.toNat = m
          · rw [if_neg h1, if_pos (show r.toNat < m + 1 by omega), if_pos h2]
          · rw [if_neg h1, if_neg (show ¬ r.toNat < m + 1 by omega), if_neg h2]
      omega
  rw [key n (Nat.le_refl _), if_pos (by omega)]
theorem addN_no {n c : Nat} {M : List Nat} {r k : Int} (h : addB n c M r k = false) : addN n c M r k = M := by unfold addN; rw [h]; rfl
theorem getD_set (M : List Nat) (i v j : Nat) : (M.set i v).getD j 0 = if i = j ∧ i < M.length then v else M.getD j 0 := by
  rw [List.getD_eq_getElem?_getD, List.getD_eq_getElem?_getD, List.getElem?_set]
  by_cases h : i = j
  · subst h
    rw [if_pos rfl]
    by_cases hl : i < M.length
    · rw [if_pos hl, if_pos ⟨rfl, hl⟩]; rfl
    · rw [if_neg hl, if_neg (by rintro ⟨_, h⟩; exact hl h), List.getElem?_eq_none (by omega)]
  · rw [if_neg h, if_neg (by rintro ⟨e, _⟩; exact h e)]
theorem within_add (n c : Nat) (M : List Nat) (r k : Int) (hM : M.length = n * 16) (hs : ∀ x ∈ M, x < 18446744073709551616) : withinB n M (addN n c M r k) = true := by
  refine within_yes fun r' hr' => inside_yes fun j hj => ?_
  rw [rowI_nat _ hr', rowI_nat _ hr', rowM_getD _ _ _ hj, rowM_getD _ _ _ hj]
  have hx : M.getD (r' * 16 + j) 0 < 18446744073709551616 := hs _ (getD_mem (by omega))
  refine (andN_zero _ _ hx).2 fun i hi => ?_
  unfold addN
  split
  · unfold addM
    rw [getD_set]
    split
    · rename_i e
      rw [Nat.testBit_or]
      unfold word
      rw [e.1, hi]; rfl
    · exact hi
  · exact hi
theorem within_back (n c : Nat) (M : List Nat) (r k : Int) (hM : M.length = n * 16) (hc : c ≤ 1000) (hs : ∀ x ∈ M, x < 18446744073709551616) : withinB n (addN n c M r k) M = !addB n c M r k := by
  cases h : addB n c M r k with
  | false =>
    rw [addN_no h]
    refine within_yes fun r' hr' => inside_self _ (rowI_len hM _) fun x hx => ?_
    rw [rowI_nat _ hr'] at hx
    exact hs x (List.mem_of_mem_drop (List.mem_of_mem_take hx))
  | true =>
    have hN : addN n c M r k = addM M r.toNat k.toNat := by unfold addN; rw [h]; rfl
    unfold addB at h
    rw [Bool.and_eq_true] at h
    obtain ⟨a1, a2, a3, a4⟩ := mayB_iff.1 h.1
    have hb : bitAt M r.toNat k.toNat = false := by simpa using h.2
    have h1 := bit_addM M r.toNat k.toNat r.toNat k.toNat (by omega) (by omega) (by omega)
    have hr : r.toNat < n := by omega
    refine within_no hr (inside_no (k := k.toNat / 64) (by omega) ?_)
    rw [hN, rowI_nat _ hr, rowI_nat _ hr, rowM_getD _ _ _ (by omega), rowM_getD _ _ _ (by omega)]
    intro e
    have hlt : (addM M r.toNat k.toNat).getD (r.toNat * 16 + k.toNat / 64) 0 < 18446744073709551616 := by
      unfold addM
      rw [getD_set, if_pos ⟨rfl, by omega⟩]
      have e1 : word M r.toNat k.toNat < 18446744073709551616 := hs _ (getD_mem (by omega))
      have e2 := pow_lt (k.toNat % 64) (by omega)
      have := Nat.or_lt_two_pow (n := 64) (x := word M r.toNat k.toNat) (y := 2 ^ (k.toNat % 64)) (by omega) (by omega)
      omega
    have := (andN_zero _ _ hlt).1 e (k.toNat % 64) (by
      have e3 : bitAt (addM M r.toNat k.toNat) r.toNat k.toNat = true := by rw [h1]; simp
      exact e3)
    have e4 : bitAt M r.toNat k.toNat = true := this
    rw [hb] at e4
    cases e4
theorem tot_zero (n m k : Nat) : tot n (List.replicate (n * 16) 0) k = 0 := by
  induction k with
  | zero => simp [tot]
  | succ k ih =>
    rw [tot_succ, ih]
    have h16 := rowI_len (M := List.replicate (n * 16) 0) (n := n) (by simp) (k : Int)
    have hz : ∀ x ∈ rowI n (List.replicate (n * 16) 0) (k : Int), x = 0 := fun x hx => by
      unfold rowI at hx
      split at hx
      · exact List.eq_of_mem_replicate (List.mem_of_mem_drop (List.mem_of_mem_take hx))
      · exact List.eq_of_mem_replicate hx
    have := (cnt_zero _ (fun x hx => by rw [hz x hx]; omega)).2 hz
    omega
theorem has_of_add {n c : Nat} {M : List Nat} {r k : Int} (h : addB n c M r k = true) : hasB n c M r k = false := by
  unfold addB at h
  rw [Bool.and_eq_true] at h
  have hb : bitAt M r.toNat k.toNat = false := by simpa using h.2
  unfold hasB
  rw [hb, Bool.and_false]
section
set_option maxRecDepth 100000
theorem rows0 (w : World) : Calls Tryd.prog 20 #[.pointer none] w fun e w' => e = .returned (.int .i64 0) ∧ w = w' := by
  go_enter Tryd.func20, Tryd.ntmps20
  go_wp2
  go_ret
  exact ⟨rfl, rfl⟩
theorem cols0 (w : World) : Calls Tryd.prog 21 #[.pointer none] w fun e w' => e = .returned (.int .i64 0) ∧ w = w' := by
  go_enter Tryd.func21, Tryd.ntmps21
  go_wp2
  go_ret
  exact ⟨rfl, rfl⟩
theorem may0 (w : World) : Calls Tryd.prog 26 #[.pointer none, .int .i64 0, .int .i64 0] w fun e w' => e = .returned (.bool false) ∧ w = w' := by
  go_enter Tryd.func26, Tryd.ntmps26
  go_wp2_with ((with_reducible refine (rows0 _).mono ?_); rintro e w' ⟨rfl, rfl⟩)
  go_ret
  exact ⟨rfl, rfl⟩
theorem has0 (w : World) : Calls Tryd.prog 9 #[.pointer none, .int .i64 0, .int .i64 0] w fun e w' => e = .returned (.bool false) ∧ ∃ q, w' = w.drewN q := by
  go_enter Tryd.func9, Tryd.ntmps9
  go_wp2_with fail
  go_quiet ((go_at_call 26; exact Calls.quiet_of_same ((may0 _).mono fun e w' h => ⟨h.1, h.2.symm⟩)))
  go_wp2_with fail
  go_ret
  exact ⟨rfl, _, rfl⟩
theorem add0 (w : World) : Calls Tryd.prog 7 #[.pointer none, .int .i64 0, .int .i64 0] w fun e w' => e = .returned (.bool false) ∧ w = w' := by
  go_enter Tryd.func7, Tryd.ntmps7
  go_wp2_with ((with_reducible refine (may0 _).mono ?_); rintro e w' ⟨rfl, rfl⟩)
  go_ret
  exact ⟨rfl, rfl⟩
theorem at0 (r : Nat) (w : World) : Calls Tryd.prog 28 #[.pointer none, .int .i64 r] w fun e w' => e = .returned (.agg (encM (List.replicate 16 0))) ∧ Below w.heap.size w w' := by
  rw [zeros16]
  have h0 : (0 : Int) ≤ r := by omega
  go_enter Tryd.func28, Tryd.ntmps28
  go_wp2_with ((with_reducible refine (rows0 _).mono ?_); rintro e w' ⟨rfl, rfl⟩)
  refine bodyPost_ret (results_cell_row (fn := Tryd.f28) rfl _ _ w.heap.size 46 _ (0, 0) _ rfl (heap_alloc_new w _) Tryd.underlying46 rfl sizeNum) rfl ⟨rfl, (Below.refl _ _).alloc (Nat.le_refl _) _⟩
theorem small0 : ∀ x ∈ List.replicate 16 0, x < 18446744073709551616 := fun x hx => by rw [List.eq_of_mem_replicate hx]; omega
theorem len0 (w : World) : Calls Tryd.prog 12 #[.pointer none, .int .i64 0] w fun e w' => e = .returned (.int .i64 0) ∧ Below w.heap.size w w' := by
  have h := len_at (.pointer none) (List.replicate 16 0) 0 w (by simp) small0 (at0 0 w)
  have e : cnt (List.replicate 16 0) = 0 := by decide +kernel
  rw [e] at h
  exact h
theorem inside0 (w : World) : Calls Tryd.prog 14 #[.pointer none, .int .i64 0, .int .i64 1] w (InsidePost true w) := by
  have h := inside_at (.pointer none) (List.replicate 16 0) (List.replicate 16 0) 0 1 w (by simp) (by simp) small0 (fun wr _ => at0 0 wr) (fun wr _ => at0 1 wr)
  have e : insideB (List.replicate 16 0) (List.replicate 16 0) = true := by decide +kernel
  rw [e] at h
  exact h
theorem meets0 (w : World) : Calls Tryd.prog 16 #[.pointer none, .int .i64 0, .int .i64 0] w (InsidePost false w) := by
  have h := meets_at (.pointer none) (List.replicate 16 0) (List.replicate 16 0) 0 0 w (by simp) (by simp) small0 small0 (fun wr _ => at0 0 wr) (fun wr _ => at0 0 wr)
  have e : meetsB (List.replicate 16 0) (List.replicate 16 0) = false := by decide +kernel
  rw [e] at h
  exact h
theorem total0 (w : World) : Calls Tryd.prog 11 #[.pointer none] w fun e w' => e = .returned (.int .i64 0) ∧ w = w' := by
  go_enter Tryd.func11, Tryd.ntmps11
  go_wp2_with fail
  refine (rows0 _).mono ?_
  rintro e w1 ⟨rfl, rfl⟩
  go_wp2_with fail
  go_loop [3, 7] (fun s i => i = .int .i64 0 ∧ s = .int .i64 0) (fun _ i => (intOf i).toNat)
  case atStart => exact ⟨rfl, rfl⟩
  case round =>
    obtain ⟨rfl, rfl⟩ := hrel
    go_wp2_with fail
    go_ret
    exact ⟨rfl, rfl⟩
theorem within0 (w : World) : Calls Tryd.prog 24 #[.pointer none, .pointer none] w fun e w' => e = .returned (.bool true) ∧ w = w' := by
  go_enter Tryd.func24, Tryd.ntmps24
  go_wp2_with (first | ((with_reducible refine (rows0 _).mono ?_); rintro e w' ⟨rfl, rfl⟩) | ((with_reducible refine (cols0 _).mono ?_); rintro e w' ⟨rfl, rfl⟩))
  go_loop [20] (fun i => i = .int .i64 0) (fun i => (intOf i).toNat)
  case atStart => exact rfl
  case round =>
    obtain rfl := hrel
    go_wp2_with fail
    go_ret
    exact ⟨rfl, rfl⟩
theorem copy0 (w : World) : Calls Tryd.prog 23 #[.pointer none] w (NewPost 0 0 w) := by
  have HN := Lib.hid (new_ 0 0 w)
  go_enter Tryd.func23, Tryd.ntmps23
  go_wp2_with fail
  refine HN.out.mono ?_
  rintro e w1 ⟨B, R, rfl, hq⟩
  have HV := Lib.hid (show NewPost 0 0 w (.returned (.pointer (some ⟨B, 0, none⟩))) w1 from ⟨B, R, rfl, hq⟩)
  clear hq
  go_wp2_with fail
  go_ret
  exact HV.out
theorem list0 (w : World) : Calls Tryd.prog 19 #[.pointer none, .int .i64 0] w fun e w' => e = .returned (.slice none 0 0) ∧ Below w.heap.size w w' := by
  have HA := Lib.hid (at0 0 w)
  have hidx : ∀ (k : Nat) (h : k < 16) (w : World), (Instr.index 46 (.agg (encM (List.replicate 16 0))) (.int .i64 k)).run Tryd.prog w = .ok (.int .u64 0) w := fun k h w => by
    have := idx (List.replicate 16 0) k (by simp) h w
    rw [this, List.getD_eq_getElem?_getD, List.getElem?_replicate, if_pos h]; rfl
  have HI := Lib.hid hidx
  clear hidx
  generalize encM (List.replicate 16 0) = E at *
  go_enter Tryd.func19, Tryd.ntmps19
  go_wp2_with fail
  refine HA.out.mono ?_
  rintro e w1 ⟨rfl, hb⟩
  have HB := Lib.hid hb
  clear hb
  go_wp2_with fail
  go_loop [5, 11] (fun l i => ∃ k : Nat, k ≤ 16 ∧ i = .int .i64 k ∧ l = .slice none 0 0) (fun _ i => 16 - (intOf i).toNat)
  case atStart => exact ⟨0, by omega, rfl, rfl⟩
  case round =>
    obtain ⟨k, hk, rfl, rfl⟩ := hrel
    by_cases hlt : k < 16
    · have hi := HI.out k hlt
      have d1 : decide ((k : Int) < 16) = true := by simp; omega
      go_wp2_with fail
      go_loop [5, 7] (fun l v => v = .int .u64 0 ∧ l = .slice none 0 0) (fun _ v => (intOf v).toNat)
      case atStart => exact ⟨rfl, rfl⟩
      case round =>
        obtain ⟨rfl, rfl⟩ := hrel
        go_wp2_with fail
        go_round
        case rel => exact ⟨k + 1, by omega, by go_num, rfl⟩
        case measure => simp [intOf]; omega
    · have d1 : decide ((k : Int) < 16) = false := by simp; omega
      clear hk hlt
      go_wp2_with fail
      go_ret
      exact ⟨rfl, HB.out⟩
end
end Go.Proofs.YtmeiigcjfjapfaaDoor.SetH
