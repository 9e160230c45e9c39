/- The cache: Put, Clear, Hits, Size, by contract; of nil. -/
import Derived.Test.YtnkkmppmfjekeaaCaC
import Derived.Deep.RegionHeld3
namespace Go.Proofs.Ytnkkmppmfjekeaa.CaD
open Go.RowKit Go.Lib Go.Proofs Go.Proofs.Ytnkkmppmfjekeaa.CaA Go.Proofs.Ytnkkmppmfjekeaa.CaB Go.Proofs.Ytnkkmppmfjekeaa.CaC
set_option linter.unusedVariables false
set_option linter.unusedSimpArgs false
def upd (M : Nat → Pl) (i : Nat) (p : Pl) : Nat → Pl := fun j => if j = i then p else M j
theorem grown_cells (R : Nat) : ∀ (vs : List Value) (o : Nat) (w : World), w.grownBy (w.setCells R o vs) (some R)
  | [], _, w => ⟨rfl, rfl, rfl, Nat.le_refl _, fun _ _ _ => rfl⟩
  | v :: vs, o, w => by
    have h := grown_cells R vs (o + 1) (w.setCell ⟨R, o, none⟩ v)
    have hs : (w.setCell ⟨R, o, none⟩ v).heap.size = w.heap.size := by simp [World.setCell]
    refine ⟨h.os, h.tape, h.output, by rw [← hs]; exact h.size, fun k hk hne => (h.block k (by rw [hs]; exact hk) hne).trans (Below.heap_setCell _ _ _ _ (fun e => hne (by rw [e])))⟩
theorem size_cells (R : Nat) : ∀ (vs : List Value) (o : Nat) (w : World), (w.setCells R o vs).heap.size = w.heap.size
  | [], _, w => rfl
  | v :: vs, o, w => (size_cells R vs (o + 1) _).trans (by simp [World.setCell])
theorem Ca.cells_ {w : World} {B R n : Nat} {M : Nat → Pl} {h : Nat} (H : Ca w B R n M h) (i : Nat) (hi : i < n) (p : Pl) : Ca (w.setCells R (i * 6) p.cells) B R n (upd M i p) h := by
  have hh : (w.setCells R (i * 6) p.cells).heap.size = w.heap.size := size_cells _ _ _ _
  refine ⟨?_, fun j hj => ?_, fun j hj => World.there_setCells (H.th j hj) _ _ _, by rw [hh]; exact H.rl, H.ne⟩
  · exact ((grown_cells R p.cells (i * 6) w).block B H.bl (by simpa using H.ne.symm)).trans H.fb
  · unfold upd
    by_cases e : j = i
    · subst e
      rw [if_pos rfl]
      exact World.rangeAt_setCells_same w R (j * 6) p.cells (H.th j hj)
    · rw [if_neg e]
      refine World.rangeAt_setCells_apart (H.at_ j hj) R (i * 6) p.cells (Or.inr ?_)
      rw [Pl.len, Pl.len]
      omega
theorem setCells6 (w : World) (R o : Nat) (a b c d e f : Value) : w.setCells R o [a, b, c, d, e, f] = (((((w.setCell ⟨R, o, none⟩ a).setCell ⟨R, o + 1, none⟩ b).setCell ⟨R, o + 2, none⟩ c).setCell ⟨R, o + 3, none⟩ d).setCell ⟨R, o + 4, none⟩ e).setCell ⟨R, o + 5, none⟩ f := rfl
theorem pl_one (p : Pl) : p.cells.toArray.all (·.oneCell') = true := all_oneCell_toArray (fun v hv => by
  unfold Pl.cells at hv
  simp only [List.mem_cons, List.not_mem_nil, or_false] at hv
  rcases hv with rfl | rfl | rfl | rfl | rfl | rfl <;> rfl)
def PutPost (B R k : Nat) (M : Nat → Pl) (h : Nat) (q : Qn) (v : Int) (w : World) (e : Ending) (w' : World) : Prop := e = .returned (.tuple #[]) ∧ Ca w' B R (2 ^ k) (upd M (ix k q) ⟨q, v, true⟩) h ∧ w.grownBy w' (some R)
set_option maxRecDepth 100000 in
theorem put (B R k : Nat) (M : Nat → Pl) (h : Nat) (q : Qn) (v : Int) (w : World) (hk : k ≤ 16) (H : Ca w B R (2 ^ k) M h) : Calls Try.prog 92 #[.pointer (some ⟨B, 0, none⟩), .int .i64 q.op, .int .i64 q.a, .int .i64 q.b, .int .i64 q.d, .int .i64 v] w (PutPost B R k M h q v w) := by
  unfold PutPost
  have hix := ix_lt k hk q
  have HA := Lib.hid (fun w H => at_ B R k M h q w hk H)
  have HE : Hid (∀ w' : World, Ca w' B R (2 ^ k) M h → Ca (w'.setCells R (ix k q * 6) (⟨q, v, true⟩ : Pl).cells) B R (2 ^ k) (upd M (ix k q) ⟨q, v, true⟩) h) := Lib.hid (fun w' H' => Ca.cells_ H' _ hix _)
  generalize upd M (ix k q) ⟨q, v, true⟩ = M2 at *
  generalize ix k q = x at *
  obtain ⟨a, b, c, d⟩ := q
  have HH := Lib.hid H
  have hB := H.bl
  clear H
  unfold Qn.cells at HA
  go_enter Try.func92, Try.ntmps92
  go_wp2_with fail
  have hbx := (Below.refl w.heap.size w).alloc (Nat.le_refl _) (.cells #[.int .i64 a, .int .i64 b, .int .i64 c, .int .i64 d] 122)
  have hq0 : ∀ o, (w.alloc (.cells #[.int .i64 a, .int .i64 b, .int .i64 c, .int .i64 d] 122)).cell? ⟨w.heap.size, o, none⟩ = (#[.int .i64 a, .int .i64 b, .int .i64 c, .int .i64 d] : Array Value)[o]? := fun o => Lib.cell_of_heap (heap_alloc_new w _) o
  have hsz : w.heap.size < (w.alloc (.cells #[.int .i64 a, .int .i64 b, .int .i64 c, .int .i64 d] 122)).heap.size := by simp
  have H1 := HH.out.below hbx
  generalize w.alloc (.cells #[.int .i64 a, .int .i64 b, .int .i64 c, .int .i64 d] 122) = w1 at *
  obtain ⟨bq, hbq⟩ : ∃ bq, w.heap.size = bq := ⟨_, rfl⟩
  have HB1 := Lib.hid hbx
  have HL := Lib.hid (show ∀ y, Below w1.heap.size w1 y → Ca y B R (2 ^ k) M h from fun y hy => H1.below hy)
  have hqy : ∀ y, Below w1.heap.size w1 y → ∀ o, y.cell? ⟨bq, o, none⟩ = (#[.int .i64 a, .int .i64 b, .int .i64 c, .int .i64 d] : Array Value)[o]? := fun y hy o => by rw [← hbq]; exact (hy.cell (p := ⟨w.heap.size, o, none⟩) hsz).trans (hq0 o)
  have HQ := Lib.hid hqy
  have hbR : bq ≠ R := by have := HH.out.rl; omega
  have HG : Hid (∀ (y : World) (vs : List Value), Below w1.heap.size w1 y → w.grownBy (y.setCells R (x * 6) vs) (some R)) := Lib.hid (fun y vs hy => by
    have hb := hbx.trans (hy.mono hbx.size)
    have g := grown_cells R vs (x * 6) y
    exact ⟨g.os.trans hb.os, g.tape.trans hb.tape, g.output.trans hb.output, Nat.le_trans hb.size g.size, fun k hk hne => (g.block k (Nat.lt_of_lt_of_le hk hb.size) hne).trans (hb.block k hk)⟩)
  have HT : Hid (∀ y, Below w1.heap.size w1 y → y.there R (x * 6) 6) := Lib.hid (fun y hy => (H1.below hy).th x hix)
  have HN : Hid (∀ (y : World) (vs : List Value), (∀ o, y.cell? ⟨bq, o, none⟩ = (#[.int .i64 a, .int .i64 b, .int .i64 c, .int .i64 d] : Array Value)[o]?) → ∀ o, (y.setCells R (x * 6) vs).cell? ⟨bq, o, none⟩ = (#[.int .i64 a, .int .i64 b, .int .i64 c, .int .i64 d] : Array Value)[o]?) := Lib.hid (fun y vs h o => (World.cell?_setCells_out R vs (x * 6) y ⟨bq, o, none⟩ (fun e _ => absurd e.symm (Ne.symm hbR))).trans (h o))
  have hst := hqy _ ((Below.refl w1.heap.size w1).drew)
  clear hq0 hsz hbx H1 HH hix hqy hbR
  simp only [hbq] at HB1 ⊢
  generalize x * 6 = o at *
  refine wp_region_held_drew (S := fun y => ∀ o, y.cell? ⟨bq, o, none⟩ = (#[.int .i64 a, .int .i64 b, .int .i64 c, .int .i64 d] : Array Value)[o]?) (by kernel_rfl) hst (fun hHeld => ?_)
  refine wpAnyH_take (i := 0) (v := ?_) rfl (by kernel_rfl) (by kernel_rfl) (by kernel_rfl) (fun _ _ _ h => h) (Or.inl ⟨by kernel_rfl, ?_⟩) (by assumption) ?_
  rotate_left
  · intro w hSw; (try dsimp only at hSw); go_simp; try with_reducible rfl
  try simp only [Act.put, List.setIfInBounds_toArray, List.set_cons_zero, List.set_cons_succ]
  refine wpAnyH_take (i := 1) (v := ?_) rfl (by kernel_rfl) (by kernel_rfl) (by kernel_rfl) (fun _ _ _ h => h) (Or.inl ⟨by kernel_rfl, ?_⟩) (by assumption) ?_
  rotate_left
  · intro w hSw; (try dsimp only at hSw); go_simp; try with_reducible rfl
  try simp only [Act.put, List.setIfInBounds_toArray, List.set_cons_zero, List.set_cons_succ]
  refine wpAnyH_take (i := 3) (v := ?_) rfl (by kernel_rfl) (by kernel_rfl) (by kernel_rfl) (fun _ _ _ h => h) (Or.inl ⟨by kernel_rfl, ?_⟩) (by assumption) ?_
  rotate_left
  · intro w hSw; (try dsimp only at hSw); go_simp; try with_reducible rfl
  try simp only [Act.put, List.setIfInBounds_toArray, List.set_cons_zero, List.set_cons_succ]
  refine wpAnyH_take (i := 4) (v := ?_) rfl (by kernel_rfl) (by kernel_rfl) (by kernel_rfl) (fun _ _ _ h => h) (Or.inl ⟨by kernel_rfl, ?_⟩) (by assumption) ?_
  rotate_left
  · intro w hSw; (try dsimp only at hSw); go_simp; try with_reducible rfl
  try simp only [Act.put, List.setIfInBounds_toArray, List.set_cons_zero, List.set_cons_succ]
  refine wpAnyH_take (i := 5) (v := ?_) rfl (by kernel_rfl) (by kernel_rfl) (by kernel_rfl) (fun _ _ _ h => h) (Or.inl ⟨by kernel_rfl, ?_⟩) (by assumption) ?_
  rotate_left
  · intro w hSw; (try dsimp only at hSw); go_simp; try with_reducible rfl
  try simp only [Act.put, List.setIfInBounds_toArray, List.set_cons_zero, List.set_cons_succ]
  refine wpAnyH_ready (rs := [2]) (by kernel_rfl) (by simp) ?_
  refine AllReadyH.cons rfl (fun K hK => ?_) AllReadyH.nil
  go_simp
  refine (HA.out _ (HL.out _ ((Below.refl w1.heap.size w1).drew))).mono ?_
  rintro e x1 ⟨rfl, hb1⟩
  have hbb := ((Below.refl w1.heap.size w1).drew).trans hb1
  refine hK.out _ _ (HQ.out _ hbb) (fun hHeld => ?_)
  clear hK K
  try simp only [Act.put, List.setIfInBounds_toArray, List.set_cons_zero, List.set_cons_succ]
  refine wpAnyH_take (i := 6) (v := ?_) rfl (by kernel_rfl) (by kernel_rfl) (by kernel_rfl) (fun _ _ _ h => h) (Or.inl ⟨by kernel_rfl, ?_⟩) (by assumption) ?_
  rotate_left
  · intro w hSw; (try dsimp only at hSw); go_simp; try with_reducible rfl
  try simp only [Act.put, List.setIfInBounds_toArray, List.set_cons_zero, List.set_cons_succ]
  refine wpAnyH_ready (rs := [7]) (by kernel_rfl) (by simp) ?_
  refine AllReadyH.cons rfl (fun K hK => ?_) AllReadyH.nil
  rw [if_pos (by kernel_rfl)]
  refine wp_store_mid 126 (.tmp 26) (.tmp 25) rfl R o (⟨⟨a, b, c, d⟩, v, true⟩ : Pl).cells.toArray rfl rfl (HT.out _ hbb) sizePl (pl_one _) ?_
  refine hK.out _ _ (HN.out _ _ hHeld) (fun hHeld => ?_)
  clear hK K
  try simp only [Act.put, List.setIfInBounds_toArray, List.set_cons_zero, List.set_cons_succ]
  refine wpAnyH_done (by kernel_rfl) ?_ _
  have HF := Lib.hid (HE.out x1 (HL.out x1 hbb))
  have HGf := Lib.hid (HG.out x1 (⟨⟨a, b, c, d⟩, v, true⟩ : Pl).cells hbb)
  clear hHeld hbb hb1
  go_wp2_with fail
  go_end0
  exact ⟨rfl, HF.out, HGf.out⟩
def clr (n : Nat) : List Value := (Builtin.zeroCells zs n).toList
theorem clr_len (n : Nat) : (clr n).length = n * 6 := by
  unfold clr Builtin.zeroCells
  simp; rfl
theorem clr_get (n i j : Nat) (hi : i < n) (hj : j < 6) : (clr n)[i * 6 + j]? = Pl.zero.cells[j]? := by
  have h : i * 6 + j < n * 6 := by omega
  have e : (i * 6 + j) % 6 = j := by omega
  rw [List.getElem?_eq_getElem (by rw [clr_len]; exact h)]
  unfold clr Builtin.zeroCells
  simp only [Array.getElem_toList, Array.getElem_map, Array.getElem_range]
  show some (zs[(i * 6 + j) % 6]!) = _
  rw [e]
  match j, hj with
  | 0, _ => rfl
  | 1, _ => rfl
  | 2, _ => rfl
  | 3, _ => rfl
  | 4, _ => rfl
  | 5, _ => rfl
  | k + 6, h => exact absurd h (by omega)
theorem clr_one (n : Nat) : ∀ v ∈ clr n, v.oneCell' = true := by
  intro v hv
  obtain ⟨t, ht, rfl⟩ := List.getElem_of_mem hv
  have hl : t < n * 6 := by rw [← clr_len]; exact ht
  have h := clr_get n (t / 6) (t % 6) (by omega) (by omega)
  rw [show t / 6 * 6 + t % 6 = t by omega, List.getElem?_eq_getElem ht] at h
  have hm := List.mem_of_getElem? h.symm
  have := (Array.all_eq_true_iff_forall_mem.1 (pl_one Pl.zero)) _ (by simpa using hm)
  exact this
theorem run_clear6 (w : World) (b o n c : Nat) (hn : 0 < n) (ht : w.there b o (n * 6)) (ty : TypeId) : (Builtin.clear_ #[97] ty #[.slice (some ⟨b, o, none⟩) n c]).run Try.prog w = .ok (.tuple #[]) (w.setCells b o (clr n)) := by
  have hst := run_storeCells_cells (P := Try.prog) b o (clr n) 0 w (fun j hj => by rw [clr_len] at hj; simpa using (ht j hj).1) (fun j hj => by rw [clr_len] at hj; simpa using (ht j hj).2) (clr_one n)
  simp only [Nat.add_zero] at hst
  obtain ⟨m, rfl⟩ : ∃ m, n = m + 1 := ⟨n - 1, by omega⟩
  have hv : (zeroValue 126).run Try.prog w = .ok (.agg zs) w := Try.zeroValue126 w
  have hc : (Builtin.zeroCells (Value.agg zs).cells (m + 1)).toList = clr (m + 1) := rfl
  simp [Builtin.clear_, run_underlying Try.underlying97, hv, hc, hst]
theorem wp_clear_run {P : Program} (w : World) {o : Oper} {a : Act} {K : Act → World → Prop} {Q : Exit → Act → World → Prop} (s : Operand) (t : TypeId)
    (ho : o.op = .call { callee := .builtin .clear, args := #[s], argTypes := #[t] }) (vs : Value) (hs : a.eval s = vs)
    (v' : Value) (w' : World) (hr : (Builtin.clear_ #[t] o.type #[vs]).run P w = .ok v' w') (h : K (a.put o.dst v') w') : o.wp P a w K Q := by
  unfold Oper.wp execOp
  simp only [ho, resolve, invoke, builtin, Sem.run_bind, Sem.run_pure, Result.andThen_ok, List.map_toArray, List.map_cons, List.map_nil, hs, hr]
  exact h
theorem wpList_clear_run {P : Program} (w : World) {ops : Array Oper} {rest : List Oper} {o : Oper} {a : Act} {Q : Exit → Act → World → Prop} (hgd : o.guard = none) (s : Operand) (t : TypeId)
    (ho : o.op = .call { callee := .builtin .clear, args := #[s], argTypes := #[t] }) (vs : Value) (hs : a.eval s = vs)
    (v' : Value) (w' : World) (hr : (Builtin.clear_ #[t] o.type #[vs]).run P w = .ok v' w') (h : wpList P ops Q rest (a.put o.dst v') w') : wpList P ops Q (o :: rest) a w :=
  wpList_plain hgd fun _ hK => wp_clear_run w s t ho vs hs v' w' hr (hK _ _ h)
theorem Ca.clear {w : World} {B R n : Nat} {M : Nat → Pl} {h : Nat} (H : Ca w B R n M h) : Ca (w.setCells R 0 (clr n)) B R n (fun _ => Pl.zero) h := by
  have hh : (w.setCells R 0 (clr n)).heap.size = w.heap.size := size_cells _ _ _ _
  refine ⟨((grown_cells R (clr n) 0 w).block B H.bl (by simpa using H.ne.symm)).trans H.fb, fun i hi j v hv => ?_, fun j hj => World.there_setCells (H.th j hj) _ _ _, by rw [hh]; exact H.rl, H.ne⟩
  have hj : j < 6 := (List.getElem?_eq_some_iff.1 hv).1
  have hlt : i * 6 + j < (clr n).length := by rw [clr_len]; omega
  have h1 := World.cell?_setCells_in R (clr n) 0 w (fun t ht => by
    rw [clr_len] at ht
    have := (H.th (t / 6) (by omega) (t % 6) (by omega)).1
    rw [show t / 6 * 6 + t % 6 = 0 + t by omega] at this
    exact this) (i * 6 + j) hlt
  rw [Nat.zero_add] at h1
  rw [h1, ← List.getElem?_eq_getElem, clr_get n i j hi hj]
  exact hv
theorem there_all {w : World} {B R n : Nat} {M : Nat → Pl} {h : Nat} (H : Ca w B R n M h) : w.there R 0 (n * 6) := fun t ht => by
  have := H.th (t / 6) (by omega) (t % 6) (by omega)
  rw [show t / 6 * 6 + t % 6 = 0 + t by omega] at this
  exact this
def ClearPost (B R n h : Nat) (w : World) (e : Ending) (w' : World) : Prop := e = .returned (.tuple #[]) ∧ Ca w' B R n (fun _ => Pl.zero) h ∧ w.grownBy w' (some R)
set_option maxRecDepth 100000 in
theorem size_ (B R n : Nat) (M : Nat → Pl) (h : Nat) (w : World) (H : Ca w B R n M h) : Calls Try.prog 91 #[.pointer (some ⟨B, 0, none⟩)] w fun e w' => e = .returned (.int .i64 n) ∧ w = w' := by
  have c0 := H.b0.1
  clear H
  go_enter Try.func91, Try.ntmps91
  go_wp2
  go_ret
  exact ⟨rfl, rfl⟩
set_option maxRecDepth 100000 in
theorem size0 (w : World) : Calls Try.prog 91 #[.pointer none] w fun e w' => e = .returned (.int .i64 0) ∧ w = w' := by
  go_enter Try.func91, Try.ntmps91
  go_wp2
  go_ret
  exact ⟨rfl, rfl⟩
set_option maxRecDepth 100000 in
theorem put0 (a b c d v : Int) (w : World) : Calls Try.prog 92 #[.pointer none, .int .i64 a, .int .i64 b, .int .i64 c, .int .i64 d, .int .i64 v] w fun e w' => e = .returned (.tuple #[]) ∧ w = w' := by
  go_enter Try.func92, Try.ntmps92
  go_wp2
  exact bodyPost_ret (results_none rfl _ _ _) rfl ⟨rfl, rfl⟩
set_option maxRecDepth 100000 in
theorem get0 (a b c d : Int) (w : World) : Calls Try.prog 75 #[.pointer none, .int .i64 a, .int .i64 b, .int .i64 c, .int .i64 d] w fun e w' => e = .returned (.tuple #[.int .i64 0, .bool false]) ∧ w = w' := by
  go_enter Try.func75, Try.ntmps75
  go_wp2
  exact bodyPost_ret (v := .tuple #[.int .i64 0, .bool false]) (by simp [results, Try.results75, go_sem]) rfl ⟨rfl, rfl⟩
end Go.Proofs.Ytnkkmppmfjekeaa.CaD
