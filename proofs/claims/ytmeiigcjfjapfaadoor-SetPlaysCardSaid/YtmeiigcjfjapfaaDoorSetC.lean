/- Families of sets of numbers: a set as it is now, Len, Total, by contract. -/
import Derived.Test.YtmeiigcjfjapfaaDoorSetB
import Derived.Deep.WholeRow
namespace Go.Proofs.YtmeiigcjfjapfaaDoor.SetC
open Go.RowKit Go.Lib Go.Proofs Go.Proofs.YtmeiigcjfjapfaaDoor.SetPop Go.Proofs.YtmeiigcjfjapfaaDoor.SetA Go.Proofs.YtmeiigcjfjapfaaDoor.SetB
set_option linter.unusedVariables false
set_option linter.unusedSimpArgs false
/-- The words of a set. -/
def rowM (M : List Nat) (r : Nat) : List Nat := (M.drop (r * 16)).take 16
def rowI (n : Nat) (M : List Nat) (r : Int) : List Nat := if 0 ≤ r ∧ r < n then rowM M r.toNat else List.replicate 16 0
theorem rowM_len {M : List Nat} {n r : Nat} (hl : M.length = n * 16) (hr : r < n) : (rowM M r).length = 16 := by unfold rowM; simp; omega
theorem rowM_get {M : List Nat} {r j : Nat} (hj : j < 16) : (rowM M r)[j]? = M[r * 16 + j]? := by
  unfold rowM
  rw [List.getElem?_take, if_pos hj, List.getElem?_drop]
theorem rowI_len {M : List Nat} {n : Nat} (hl : M.length = n * 16) (r : Int) : (rowI n M r).length = 16 := by
  unfold rowI
  split
  · exact rowM_len (r := r.toNat) hl (by omega)
  · simp
theorem one_all (M : List Nat) : (encM M).all (·.oneCell') = true := by
  rw [Array.all_eq_true_iff_forall_mem]
  intro v hv
  unfold encM at hv
  rw [List.mem_toArray, List.mem_map] at hv
  obtain ⟨x, _, rfl⟩ := hv
  rfl
theorem sizeNum : (Tryd.prog.info? 46).map (·.size) = some 16 := by kernel_rfl
def AtPost (n : Nat) (M : List Nat) (r : Int) (w : World) (e : Ending) (w' : World) : Prop := e = .returned (.agg (encM (rowI n M r))) ∧ Below w.heap.size w w'
set_option maxRecDepth 100000 in
theorem at_yes (B R n c : Nat) (M : List Nat) (r : Nat) (w : World) (h : Fam w B R n c M) (hr : r < n) : Calls Tryd.prog 28 #[.pointer (some ⟨B, 0, none⟩), .int .i64 r] w (AtPost n M r w) := by
  have hlen := rowM_len h.len hr
  have e1 : rowI n M (r : Int) = rowM M r := by unfold rowI; rw [if_pos (by omega)]; rfl
  unfold AtPost
  rw [e1]
  obtain ⟨T, hT⟩ : ∃ T, rowM M r = T := ⟨_, rfl⟩
  have HR : Hid (∀ o, (w.alloc o).rangeAt R (r * 16) (encM T).toList) := Lib.hid (fun o j v hv => by
    have hj : j < 16 := by
      have := (List.getElem?_eq_some_iff.1 hv).1
      rw [Array.length_toList, encM_size, ← hT, hlen] at this
      exact this
    have hb : (w.alloc o).cell? ⟨R, r * 16 + j, none⟩ = w.cell? ⟨R, r * 16 + j, none⟩ := World.cell?_of_block (w := w) (Below.heap_alloc w o R h.lt.2)
    rw [hb, h.at_ _ (by have := h.len; omega), ← rowM_get hj, hT]
    rw [Array.getElem?_toList, encM_get] at hv
    exact hv)
  have HN : Hid (∀ o, Fam (w.alloc o) B R n c M) := Lib.hid (fun o => h.below ((Below.refl _ _).alloc (Nat.le_refl _) o))
  have H1 : Hid (∀ w', Fam w' B R n c M → Calls Tryd.prog 20 #[.pointer (some ⟨B, 0, none⟩)] w' fun e w'' => e = .returned (.int .i64 n) ∧ w' = w'') := Lib.hid (fun w' hw => rows B R n c M w' hw)
  obtain ⟨cp, h0, _⟩ := h.b0
  have h5 := h.n5
  have hBR := h.lt
  rw [hT] at hlen ⊢
  have hs : (encM T).size = 16 := by rw [encM_size, hlen]
  have hs' : (encM T).toList.length = 16 := by rw [Array.length_toList, hs]
  have HS := Lib.hid hs
  have HS' := Lib.hid hs'
  have h1 := one_all T
  have H1c := Lib.hid h1
  clear hT e1 hlen h hs hs' h1
  generalize encM T = E at *
  go_enter Tryd.func28, Tryd.ntmps28
  go_wp2_with fail
  go_wp2_with (first | ((with_reducible refine (H1.out _ (HN.out _)).mono ?_); rintro e w' ⟨rfl, rfl⟩) | (with_reducible refine wpList_load_mid rfl 46 _ rfl R (r * 16) rfl E.toList _ (HR.out _) Tryd.underlying46 rfl (by rw [HS'.out]; exact sizeNum) ?_) | (refine wpList_store_row rfl 46 _ _ rfl w.heap.size E rfl rfl 46 _ (heap_alloc_new w _) (by rw [HS.out]; exact sizeNum) (by rw [HS.out]; rfl) H1c.out ?_; rw [World.setRow_alloc_new]))
  refine bodyPost_ret (v := .agg E) (results_cell_row (fn := Tryd.f28) rfl _ _ w.heap.size 46 E (0, 0) _ rfl (heap_alloc_new w _) Tryd.underlying46 rfl (by rw [HS.out]; exact sizeNum)) rfl ⟨rfl, (Below.refl _ _).alloc (Nat.le_refl _) _⟩
theorem zeros16 : encM (List.replicate 16 0) = #[.int .u64 0, .int .u64 0, .int .u64 0, .int .u64 0, .int .u64 0, .int .u64 0, .int .u64 0, .int .u64 0, .int .u64 0, .int .u64 0, .int .u64 0, .int .u64 0, .int .u64 0, .int .u64 0, .int .u64 0, .int .u64 0] := by rfl
set_option maxRecDepth 100000 in
theorem at_no (B R n c : Nat) (M : List Nat) (r : Int) (w : World) (h : Fam w B R n c M) (hr : ¬ (0 ≤ r ∧ r < n)) : Calls Tryd.prog 28 #[.pointer (some ⟨B, 0, none⟩), .int .i64 r] w (AtPost n M r w) := by
  have e1 : rowI n M r = List.replicate 16 0 := by unfold rowI; rw [if_neg hr]
  unfold AtPost
  rw [e1, zeros16]
  have HN : Hid (∀ o, Fam (w.alloc o) B R n c M) := Lib.hid (fun o => h.below ((Below.refl _ _).alloc (Nat.le_refl _) o))
  have H1 : Hid (∀ w', Fam w' B R n c M → Calls Tryd.prog 20 #[.pointer (some ⟨B, 0, none⟩)] w' fun e w'' => e = .returned (.int .i64 n) ∧ w' = w'') := Lib.hid (fun w' hw => rows B R n c M w' hw)
  have h5 := h.n5
  clear e1 h
  by_cases hneg : r < 0
  · clear hr
    go_enter Tryd.func28, Tryd.ntmps28
    go_wp2_with fail
    refine bodyPost_ret (results_cell_row (fn := Tryd.f28) rfl _ _ w.heap.size 46 _ (0, 0) _ rfl (heap_alloc_new w _) Tryd.underlying46 rfl sizeNum) rfl ⟨rfl, (Below.refl _ _).alloc (Nat.le_refl _) _⟩
  · have hge : (n : Int) ≤ r := by omega
    have h0 : 0 ≤ r := by omega
    clear hr hneg
    go_enter Tryd.func28, Tryd.ntmps28
    go_wp2_with ((with_reducible refine (H1.out _ (HN.out _)).mono ?_); rintro e w' ⟨rfl, rfl⟩)
    refine bodyPost_ret (results_cell_row (fn := Tryd.f28) rfl _ _ w.heap.size 46 _ (0, 0) _ rfl (heap_alloc_new w _) Tryd.underlying46 rfl sizeNum) rfl ⟨rfl, (Below.refl _ _).alloc (Nat.le_refl _) _⟩
theorem at_ (B R n c : Nat) (M : List Nat) (r : Int) (w : World) (h : Fam w B R n c M) : Calls Tryd.prog 28 #[.pointer (some ⟨B, 0, none⟩), .int .i64 r] w (AtPost n M r w) := by
  by_cases hr : 0 ≤ r ∧ r < n
  · obtain ⟨r', rfl⟩ : ∃ q : Nat, r = q := ⟨r.toNat, by omega⟩
    exact at_yes B R n c M r' w h (by omega)
  · exact at_no B R n c M r w h hr
/-- How many numbers a set has. -/
def cnt (T : List Nat) : Nat := (T.map pop).sum
theorem pop_le (x : Nat) : pop x ≤ 64 := by
  unfold pop
  have := List.countP_le_length (p := fun i => x.testBit i) (l := List.range 64)
  simpa using this
theorem cnt_le (T : List Nat) : cnt T ≤ 64 * T.length := by
  unfold cnt
  induction T with
  | nil => simp
  | cons a T ih => have := pop_le a; simp; omega
theorem cnt_succ (T : List Nat) (k : Nat) (h : k < T.length) : cnt (T.take (k + 1)) = cnt (T.take k) + pop T[k] := by
  unfold cnt
  rw [List.take_succ_eq_append_getElem h, List.map_append, List.sum_append]
  simp
/-- The words of a set are below 2 to 64. -/
theorem rowI_small {w : World} {B R n c : Nat} {M : List Nat} (h : Fam w B R n c M) (r : Int) : ∀ x ∈ rowI n M r, x < 18446744073709551616 := by
  intro x hx
  unfold rowI at hx
  split at hx
  · exact h.small x (List.mem_of_mem_drop (List.mem_of_mem_take hx))
  · rw [List.eq_of_mem_replicate hx]; omega
set_option maxRecDepth 100000 in
theorem idx (T : List Nat) (k : Nat) (hT : T.length = 16) (hk : k < 16) (w : World) : (Instr.index 46 (.agg (encM T)) (.int .i64 k)).run Tryd.prog w = .ok (.int .u64 (T.getD k 0)) w := by
  match T, hT with
  | [a0, a1, a2, a3, a4, a5, a6, a7, a8, a9, a10, a11, a12, a13, a14, a15], _ =>
    match k, hk with
    | 0, _ => rfl
    | 1, _ => rfl
    | 2, _ => rfl
    | 3, _ => rfl
    | 4, _ => rfl
    | 5, _ => rfl
    | 6, _ => rfl
    | 7, _ => rfl
    | 8, _ => rfl
    | 9, _ => rfl
    | 10, _ => rfl
    | 11, _ => rfl
    | 12, _ => rfl
    | 13, _ => rfl
    | 14, _ => rfl
    | 15, _ => rfl
    | k + 16, h => exact absurd h (by omega)
set_option maxRecDepth 100000 in
theorem len_at (v : Value) (T : List Nat) (r : Int) (w : World) (hl : T.length = 16) (hs : ∀ x ∈ T, x < 18446744073709551616) (ha : Calls Tryd.prog 28 #[v, .int .i64 r] w fun e w' => e = .returned (.agg (encM T)) ∧ Below w.heap.size w w') : Calls Tryd.prog 12 #[v, .int .i64 r] w fun e w' => e = .returned (.int .i64 (cnt T)) ∧ Below w.heap.size w w' := by
  have HA := Lib.hid ha
  clear ha
  have HI := Lib.hid (fun k hk w => idx T k hl hk w)
  have HO := Lib.hid (fun k (hk : k < 16) => fun w => ones (T.getD k 0) (by
    rw [List.getD_eq_getElem?_getD, List.getElem?_eq_getElem (by omega)]
    exact hs _ (List.getElem_mem _)) w)
  have HC := Lib.hid (fun k (hk : k < 16) => (show cnt (T.take (k + 1)) = cnt (T.take k) + pop (T.getD k 0) from by rw [cnt_succ T k (by omega), List.getD_eq_getElem?_getD, List.getElem?_eq_getElem (by omega)]; rfl))
  have hcl := fun k => cnt_le (T.take k)
  have HL := Lib.hid (fun k => Nat.le_trans (cnt_le (T.take k)) (Nat.mul_le_mul_left 64 (Nat.le_trans (List.length_take_le _ _) (Nat.le_of_eq rfl) : (T.take k).length ≤ k)))
  clear hs hcl
  have HT := Lib.hid hl
  clear hl
  go_enter Tryd.func12, Tryd.ntmps12
  go_wp2_with fail
  refine HA.out.mono ?_
  rintro e w1 ⟨rfl, hb⟩
  have HB := Lib.hid hb
  clear hb
  go_wp2_with fail
  generalize encM T = E at *
  go_loop [5, 11] (fun s i => ∃ k : Nat, k ≤ 16 ∧ i = .int .i64 k ∧ s = .int .i64 (cnt (T.take k))) (fun _ i => 16 - (intOf i).toNat)
  case atStart => exact ⟨0, by omega, rfl, rfl⟩
  case round =>
    obtain ⟨k, hk, rfl, rfl⟩ := hrel
    have hc := HL.out k
    by_cases hlt : k < 16
    · have hi := HI.out k hlt
      have d1 : decide ((k : Int) < 16) = true := by simp; omega
      have p0 := pop_le (T.getD k 0)
      have ho := HO.out k hlt
      have hcs := Lib.hid (HC.out k hlt)
      have HOk := Lib.hid ho
      clear ho
      generalize T.getD k 0 = x at *
      go_wp2_with fail
      refine (HOk.out _).mono ?_
      rintro e w' ⟨rfl, rfl⟩
      go_wp2_with fail
      go_round
      case rel => exact ⟨k + 1, by omega, by go_num, by rw [hcs.out]; go_num⟩
      case measure => simp [intOf]; omega
    · have d1 : decide ((k : Int) < 16) = false := by simp; omega
      have hk16 := Lib.hid (show k = 16 by omega)
      clear hk hlt
      go_wp2_with fail
      go_ret
      exact ⟨ret_int (by rw [hk16.out, List.take_of_length_le (by rw [HT.out]; omega)]), HB.out⟩
theorem len_ (B R n c : Nat) (M : List Nat) (r : Int) (w : World) (h : Fam w B R n c M) : Calls Tryd.prog 12 #[.pointer (some ⟨B, 0, none⟩), .int .i64 r] w fun e w' => e = .returned (.int .i64 (cnt (rowI n M r))) ∧ Below w.heap.size w w' :=
  len_at _ _ r w (rowI_len h.len r) (rowI_small h r) (at_ B R n c M r w h)
end Go.Proofs.YtmeiigcjfjapfaaDoor.SetC
