/- Diagrams' nodes in memory: one more node, by contract. -/
import Derived.Test.YtnkkmppmfjekeaaNdE
import Derived.Maps.AppendAt
import Derived.Lib.AppendZeros
namespace Go.Proofs.Ytnkkmppmfjekeaa.NdF
open Go.RowKit Go.Lib Go.Proofs Go.Proofs.Ytnkkmppmfjekeaa.NdA Go.Proofs.Ytnkkmppmfjekeaa.NdH Go.Proofs.Ytnkkmppmfjekeaa.NdB Go.Proofs.Ytnkkmppmfjekeaa.NdC Go.Proofs.Ytnkkmppmfjekeaa.NdD Go.Proofs.Ytnkkmppmfjekeaa.NdE
set_option linter.unusedVariables false
set_option linter.unusedSimpArgs false
theorem infoNode : (Try.prog.info? 89).map (fun i => (i.zero, i.size, i.bytes)) = some (some (.agg #[.int .i64 0, .int .i64 0, .int .i64 0]), 3, 24) := by kernel_rfl
theorem three_cells (w : World) (t : TypeId) (a b c : Int) : ∀ (j : Nat) (u : Value), [Value.int .i64 a, .int .i64 b, .int .i64 c][j]? = some u → (w.alloc (.cells #[.int .i64 a, .int .i64 b, .int .i64 c] t)).cell? ((⟨w.heap.size, 0, none⟩ : Addr).add j) = some u := fun j u hu => by
  have e : ((⟨w.heap.size, 0, none⟩ : Addr).add j) = ⟨w.heap.size, j, none⟩ := by unfold Addr.add; split <;> simp_all
  rw [e, Lib.cell_of_heap (heap_alloc_new w _)]
  simpa using hu
section
variable {B R : Nat} {v : Value} {m : Nat} {Q : Nat → Nat} {s : St} {c : Nat} {w : World}
/-- The table with one more node that isn't in its place yet. -/
theorem Tb.grown (H : Tb w B R v m Q s s.L.length) {x : Nd} {y : World} {v' : Value} (hwf : WF { s with L := s.L ++ [x] }) (hl : s.L.length < 120000) (hm2 : 2 * s.L.length ≤ m) (h2m : 2 ≤ m) (hown : y.ownsRow 0 89 3 v' (s.L.length + 1) (encN s.L ++ enc3 x))
    (hB : y.heap[B]? = w.heap[B]?) (hR : y.heap[R]? = w.heap[R]?) (hne : v'.ownBlock ≠ some B) (h3 : 3 ≤ m) : Tb (y.setCell ⟨B, 3, none⟩ v') B R v' m Q { s with L := s.L ++ [x] } s.L.length := by
  obtain ⟨h1, _, _⟩ := Tb.ne H
  obtain ⟨C, hC, hCi⟩ := H.rb
  refine ⟨?_, ⟨C, (Below.heap_setCell _ _ _ _ h1).trans (hR.trans hC), hCi⟩, ?_, H.pls.more x, hwf, H.pow, by simp; omega, by simp; omega, H.bud⟩
  · show (y.heap.modify B _)[B]? = _
    rw [Array.getElem?_modify, if_pos rfl, hB, H.fb]
    rfl
  · rw [encN_snoc, List.length_append]
    exact own_block hown (fun g hg => Below.heap_setCell _ _ _ _ (fun e => hne (hg.trans (congrArg some e))))
def AddPost (B R : Nat) (v : Value) (s : St) (x : Nd) (w : World) (e : Ending) (w' : World) : Prop := e = .returned (.int .i64 ((2 : Int) + s.L.length)) ∧ ∃ R' v' m' Q', Tb w' B R' v' m' Q' { s with L := s.L ++ [x] } (s.L.length + 1) ∧ (2 * (s.L.length + 1) ≤ m' ∧ 16 ≤ m') ∧ Frm (Foot B R v) w w' ∧ ∀ k, Foot B R' v' k → Foot B R v k ∨ w.heap.size ≤ k
set_option maxHeartbeats 4000000 in
set_option maxRecDepth 100000 in
theorem add_ (a b d : Int) (p : Nat) (H : Tb w B R v m Q s s.L.length) (hwf : WF { s with L := s.L ++ [⟨a, b, d⟩] }) (hl : s.L.length < 119900) (hm2 : 2 * s.L.length ≤ m) (h16 : 16 ≤ m) (hp : p < m) (hq : Q p = 0) (hf : ∃ f, f < m ∧ p = (hm m ⟨a, b, d⟩ + f) % m ∧ ∀ t, t < f → Q ((hm m ⟨a, b, d⟩ + t) % m) ≠ 0) (hno : (⟨a, b, d⟩ : Nd) ∉ s.L) :
    Calls Try.prog 95 #[.pointer (some ⟨B, 0, none⟩), .agg #[.int .i64 a, .int .i64 b, .int .i64 d], .int .i64 p] w (AddPost B R v s ⟨a, b, d⟩ w) := by
  unfold AddPost
  obtain ⟨A, ca, hv, hle, hmx, -⟩ := H.nodes
  subst hv
  obtain ⟨n1, n2, n3⟩ := Tb.ne H
  have hbx := (Below.refl w.heap.size w).alloc (Nat.le_refl _) (.cells #[.int .i64 a, .int .i64 b, .int .i64 d] 89)
  have hx0 := heap_alloc_new w (.cells #[.int .i64 a, .int .i64 b, .int .i64 d] 89)
  have hsz : w.heap.size < (w.alloc (.cells #[.int .i64 a, .int .i64 b, .int .i64 d] 89)).heap.size := by simp
  have H1 := H.below hbx
  have hbl := H.bl
  have hrl := H.rl
  obtain ⟨c0, c1, c2, c3, c4⟩ := H1.b0
  obtain ⟨i0, hi, hz0, hz1, hz2⟩ := info_parts infoNode
  obtain ⟨ln, hln⟩ : ∃ ln, s.L.length = ln := ⟨_, rfl⟩
  have HLn := Lib.hid hln
  have hl' : ln < 119900 := by omega
  have hm2' : 2 * ln ≤ m := by omega
  rw [hln] at c3 hle n2 n3 ⊢
  go_enter Try.func95, Try.ntmps95
  go_wp2_with fail
  generalize hW1 : w.alloc (.cells #[.int .i64 a, .int .i64 b, .int .i64 d] 89) = w1 at *
  have hbx1 : w1.heap.size = w.heap.size + 1 := by rw [← hW1]; simp
  clear hW1
  have hy0 := ((Below.refl w1.heap.size w1).drew).alloc (Nat.le_refl _) (.cells #[.int .i64 a, .int .i64 b, .int .i64 d] 89)
  have H2 := H1.below hy0
  have hown2 := H2.own
  rw [hln] at hown2
  obtain ⟨v', y, hrun, hown3, hg3, -, hm3⟩ := run_append_own_at (P := Try.prog) (w1.drew.alloc (.cells #[.int .i64 a, .int .i64 b, .int .i64 d] 89)) 0 94 94 89 i0 (.agg #[.int .i64 0, .int .i64 0, .int .i64 0]) 3 24 Try.underlying94 hi hz0 hz1 hz2 rfl (by decide) (.slice A ln ca) ln (encN s.L) hown2 ⟨w1.heap.size, 0, none⟩ 1 1 [.int .i64 a, .int .i64 b, .int .i64 d] rfl (three_cells w1.drew 89 a b d) (by intro u hu; simp only [List.mem_cons, List.not_mem_nil, or_false] at hu; rcases hu with rfl | rfl | rfl <;> rfl) (by unfold maxLen; omega) (by omega) (Nat.zero_le _)
  obtain ⟨g3, ca3, rfl, hg3s⟩ : ∃ g3 ca3, v' = .slice (some ⟨g3, 0, none⟩) (ln + 1) ca3 ∧ ln + 1 ≤ ca3 := by
    rcases hown3.2 with ⟨_, h⟩ | ⟨g, cap, cur, rfl, _, _, hc, _⟩
    · omega
    · exact ⟨_, _, rfl, hc⟩
  have hA0 : ∀ k, (Value.slice A ln ca).ownBlock = some k → k < w.heap.size := fun k hk => (by rw [← hln] at hk; exact (H.own.lt k hk).2)
  have hyz : (w1.drew.alloc (.cells #[.int .i64 a, .int .i64 b, .int .i64 d] 89)).heap.size = w.heap.size + 2 := by simp; omega
  have hfoot : ∀ k, (Value.slice (some ⟨g3, 0, none⟩) (ln + 1) ca3).ownBlock = some k → (Value.slice A ln ca).ownBlock = some k ∨ w.heap.size ≤ k := fun k hk => by
    rcases hm3 with e | e
    · exact Or.inl (by rw [← e]; exact hk)
    · rw [e] at hk
      injection hk with hk
      exact Or.inr (by omega)
  have hne' : (Value.slice (some ⟨g3, 0, none⟩) (ln + 1) ca3).ownBlock ≠ some B := fun e => by
    rcases hfoot B e with h | h
    · exact n2 h
    · omega
  have hyk : ∀ k, k < w1.heap.size → (Value.slice A ln ca).ownBlock ≠ some k → y.heap[k]? = w1.heap[k]? := fun k hk hn => (hg3.block k (by rw [hyz]; omega) (fun e => hn e.symm)).trans (hy0.block k hk)
  have HTg := Lib.hid (Tb.grown (y := y) (v' := .slice (some ⟨g3, 0, none⟩) (ln + 1) ca3) H1 hwf (by omega) hm2 (by omega) (by rw [hln]; exact hown3) (hyk B (by omega) n2) (hyk R (by omega) n3) hne' (by omega))
  rw [hln] at HTg
  have kc : y.cell? ⟨B, 3, none⟩ = some (.slice A ln ca) := (World.cell?_of_block (w := w1) (hyk B (by omega) n2)).trans c3
  have kf : y.frozen? ⟨B, 3, none⟩ = false := (CaA.froz_of_block (hyk B (by omega) n2) 3).trans (Tb.free H1 3)
  have hbqn : (Value.slice A ln ca).ownBlock ≠ some w.heap.size := fun e => by have := hA0 _ e; omega
  have hS0 : ∀ o, w1.drew.cell? ⟨w.heap.size, o, none⟩ = (#[.int .i64 a, .int .i64 b, .int .i64 d] : Array Value)[o]? := fun o => Lib.cell_of_heap hx0 o
  have hS1 : ∀ o, (w1.drew.alloc (.cells #[.int .i64 a, .int .i64 b, .int .i64 d] 89)).cell? ⟨w.heap.size, o, none⟩ = (#[.int .i64 a, .int .i64 b, .int .i64 d] : Array Value)[o]? := fun o => (hy0.cell (p := ⟨w.heap.size, o, none⟩) hsz).trans (hS0 o)
  have hS2 : ∀ o, y.cell? ⟨w.heap.size, o, none⟩ = (#[.int .i64 a, .int .i64 b, .int .i64 d] : Array Value)[o]? := fun o => (World.cell?_of_block (w := w1) (hyk w.heap.size (by omega) hbqn)).trans (hS0 o)
  have hS3 : ∀ o, (y.setCell ⟨B, 3, none⟩ (.slice (some ⟨g3, 0, none⟩) (ln + 1) ca3)).cell? ⟨w.heap.size, o, none⟩ = (#[.int .i64 a, .int .i64 b, .int .i64 d] : Array Value)[o]? := fun o => (World.cell?_setCell_other _ _ _ _ (fun e => by injection e with e; omega)).trans (hS2 o)
  have HFy := Lib.hid (show Frm (Foot B R (.slice A ln ca)) w (y.setCell ⟨B, 3, none⟩ (.slice (some ⟨g3, 0, none⟩) (ln + 1) ca3)) from
    ((((Frm.of_below (F := Foot B R (.slice A ln ca)) hbx).trans (Frm.of_below (F := fun _ => False) hy0) (fun k hk => absurd hk id)).trans (Frm.of_grown (F := Foot B R (.slice A ln ca)) hg3 (fun k hk => Or.inr (Or.inr hk))) (fun k hk => Or.inl hk)).trans (Frm.of_grown (F := fun k => k = B) (row := some B) ⟨rfl, rfl, rfl, by simp [World.setCell], fun k hk hne => Below.heap_setCell _ _ _ _ (fun e => hne (by rw [e]))⟩ (fun k hk => (Option.some.inj hk).symm)) (fun k hk => Or.inl (Or.inl hk))))
  have HFt : Hid (∀ k, Foot B R (.slice (some ⟨g3, 0, none⟩) (ln + 1) ca3) k → Foot B R (.slice A ln ca) k ∨ w.heap.size ≤ k) := Lib.hid (fun k hk => by
    rcases hk with h | h | h
    · exact Or.inl (Or.inl h)
    · exact Or.inl (Or.inr (Or.inl h))
    · rcases hfoot k h with e | e
      · exact Or.inl (Or.inr (Or.inr e))
      · exact Or.inr e)
  have HNo := Lib.hid hno
  have HPw := Lib.hid H.pow
  have HBX := Lib.hid hbx1
  have hBw1 : B < w1.heap.size := by omega
  clear hbx1 hfoot hyk hA0 hg3 hown3 hown2 hm3 hi hz0 hz1 hz2 H H1 H2 hwf hx0 hbx hy0 hbqn hyz
  refine wp_region_held_drew (S := fun y => ∀ o, y.cell? ⟨w.heap.size, o, none⟩ = (#[.int .i64 a, .int .i64 b, .int .i64 d] : Array Value)[o]?) (by kernel_rfl) hS0 (fun hHeld => ?_)
  refine wpAnyH_take (i := 0) (v := ?_) rfl (by kernel_rfl) (by kernel_rfl) (by kernel_rfl) (fun _ _ _ h => h) (Or.inl ⟨by kernel_rfl, ?_⟩) (by assumption) ?_
  rotate_left
  · intro w hSw; (try dsimp only at hSw); go_simp; try with_reducible rfl
  try simp only [Act.put, List.setIfInBounds_toArray, List.set_cons_zero, List.set_cons_succ]
  refine wpAnyH_take (i := 1) (v := ?_) rfl (by kernel_rfl) (by kernel_rfl) (by kernel_rfl) (fun _ _ _ h => h) (Or.inl ⟨by kernel_rfl, ?_⟩) (by assumption) ?_
  rotate_left
  · intro w hSw; (try dsimp only at hSw); go_simp; try with_reducible rfl
  try simp only [Act.put, List.setIfInBounds_toArray, List.set_cons_zero, List.set_cons_succ]
  refine wpAnyH_take (i := 2) (v := ?_) rfl (by kernel_rfl) (by kernel_rfl) (by kernel_rfl) (fun _ _ _ h => h) (Or.inl ⟨by kernel_rfl, ?_⟩) (by assumption) ?_
  rotate_left
  · intro w hSw; (try dsimp only at hSw); go_simp; try with_reducible rfl
  try simp only [Act.put, List.setIfInBounds_toArray, List.set_cons_zero, List.set_cons_succ]
  refine wpAnyH_take (i := 3) (v := ?_) rfl (by kernel_rfl) (by kernel_rfl) (by kernel_rfl) (fun _ _ _ h => h) (Or.inl ⟨by kernel_rfl, ?_⟩) (by assumption) ?_
  rotate_left
  · intro w hSw; (try dsimp only at hSw); go_simp; try with_reducible rfl
  try simp only [Act.put, List.setIfInBounds_toArray, List.set_cons_zero, List.set_cons_succ]
  refine wpAnyH_take (i := 5) (v := ?_) rfl (by kernel_rfl) (by kernel_rfl) (by kernel_rfl) (fun _ _ _ h => h) (Or.inl ⟨by kernel_rfl, ?_⟩) (by assumption) ?_
  rotate_left
  · intro w hSw; (try dsimp only at hSw); go_simp; try with_reducible rfl
  try simp only [Act.put, List.setIfInBounds_toArray, List.set_cons_zero, List.set_cons_succ]
  refine wpAnyH_ready (rs := [4, 6]) (by kernel_rfl) (by simp) ?_
  refine AllReadyH.cons rfl (fun K hK => ?_) (AllReadyH.cons rfl (fun K hK => ?_) AllReadyH.nil)
  go_simp
  refine hK.out _ _ hS0 (fun hHeld => ?_)
  clear hK K
  try simp only [Act.put, List.setIfInBounds_toArray, List.set_cons_zero, List.set_cons_succ]
  refine wpAnyH_ready (rs := [6]) (by kernel_rfl) (by simp) ?_
  refine AllReadyH.cons rfl (fun K hK => ?_) AllReadyH.nil
  go_simp
  refine hK.out _ _ hS1 (fun hHeld => ?_)
  clear hK K
  try simp only [Act.put, List.setIfInBounds_toArray, List.set_cons_zero, List.set_cons_succ]
  refine wpAnyH_ready (rs := [7]) (by kernel_rfl) (by simp) ?_
  refine AllReadyH.cons rfl (fun K hK => ?_) AllReadyH.nil
  rw [if_pos (by kernel_rfl)]
  refine Lib.wp_append_run _ (.tmp 18) (.tmp 20) 94 94 rfl (.slice A ln ca) (.slice (some ⟨w1.heap.size, 0, none⟩) 1 1) rfl rfl (.slice (some ⟨g3, 0, none⟩) (ln + 1) ca3) y hrun ?_
  refine hK.out _ _ hS2 (fun hHeld => ?_)
  clear hK K
  try simp only [Act.put, List.setIfInBounds_toArray, List.set_cons_zero, List.set_cons_succ]
  refine wpAnyH_take (i := 8) (v := ?_) rfl (by kernel_rfl) (by kernel_rfl) (by kernel_rfl) (fun _ _ _ h => h) (Or.inl ⟨by kernel_rfl, ?_⟩) (by assumption) ?_
  rotate_left
  · intro w hSw; (try dsimp only at hSw); go_simp; try with_reducible rfl
  try simp only [Act.put, List.setIfInBounds_toArray, List.set_cons_zero, List.set_cons_succ]
  refine wpAnyH_take (i := 9) (v := ?_) rfl (by kernel_rfl) (by kernel_rfl) (by kernel_rfl) (fun _ _ _ h => h) (Or.inl ⟨by kernel_rfl, ?_⟩) (by assumption) ?_
  rotate_left
  · intro w hSw; (try dsimp only at hSw); go_simp; try with_reducible rfl
  try simp only [Act.put, List.setIfInBounds_toArray, List.set_cons_zero, List.set_cons_succ]
  refine wpAnyH_ready (rs := [10]) (by kernel_rfl) (by simp) ?_
  refine AllReadyH.cons rfl (fun K hK => ?_) AllReadyH.nil
  go_simp
  refine hK.out _ _ hS3 (fun hHeld => ?_)
  clear hK K
  try simp only [Act.put, List.setIfInBounds_toArray, List.set_cons_zero, List.set_cons_succ]
  refine wpAnyH_done (by kernel_rfl) ?_ _
  clear hHeld
  rotate_left
  go_simp
  refine hK.out _ _ hS1 (fun hHeld => ?_)
  clear hK K
  try simp only [Act.put, List.setIfInBounds_toArray, List.set_cons_zero, List.set_cons_succ]
  refine wpAnyH_ready (rs := [4]) (by kernel_rfl) (by simp) ?_
  refine AllReadyH.cons rfl (fun K hK => ?_) AllReadyH.nil
  go_simp
  refine hK.out _ _ hS1 (fun hHeld => ?_)
  clear hK K
  try simp only [Act.put, List.setIfInBounds_toArray, List.set_cons_zero, List.set_cons_succ]
  refine wpAnyH_ready (rs := [7]) (by kernel_rfl) (by simp) ?_
  refine AllReadyH.cons rfl (fun K hK => ?_) AllReadyH.nil
  rw [if_pos (by kernel_rfl)]
  refine Lib.wp_append_run _ (.tmp 18) (.tmp 20) 94 94 rfl (.slice A ln ca) (.slice (some ⟨w1.heap.size, 0, none⟩) 1 1) rfl rfl (.slice (some ⟨g3, 0, none⟩) (ln + 1) ca3) y hrun ?_
  refine hK.out _ _ hS2 (fun hHeld => ?_)
  clear hK K
  try simp only [Act.put, List.setIfInBounds_toArray, List.set_cons_zero, List.set_cons_succ]
  refine wpAnyH_take (i := 8) (v := ?_) rfl (by kernel_rfl) (by kernel_rfl) (by kernel_rfl) (fun _ _ _ h => h) (Or.inl ⟨by kernel_rfl, ?_⟩) (by assumption) ?_
  rotate_left
  · intro w hSw; (try dsimp only at hSw); go_simp; try with_reducible rfl
  try simp only [Act.put, List.setIfInBounds_toArray, List.set_cons_zero, List.set_cons_succ]
  refine wpAnyH_take (i := 9) (v := ?_) rfl (by kernel_rfl) (by kernel_rfl) (by kernel_rfl) (fun _ _ _ h => h) (Or.inl ⟨by kernel_rfl, ?_⟩) (by assumption) ?_
  rotate_left
  · intro w hSw; (try dsimp only at hSw); go_simp; try with_reducible rfl
  try simp only [Act.put, List.setIfInBounds_toArray, List.set_cons_zero, List.set_cons_succ]
  refine wpAnyH_ready (rs := [10]) (by kernel_rfl) (by simp) ?_
  refine AllReadyH.cons rfl (fun K hK => ?_) AllReadyH.nil
  go_simp
  refine hK.out _ _ hS3 (fun hHeld => ?_)
  clear hK K
  try simp only [Act.put, List.setIfInBounds_toArray, List.set_cons_zero, List.set_cons_succ]
  refine wpAnyH_done (by kernel_rfl) ?_ _
  clear hHeld
  all_goals
    generalize y.setCell ⟨B, 3, none⟩ (.slice (some ⟨g3, 0, none⟩) (ln + 1) ca3) = y2 at *
    have hsL : (s.L ++ [(⟨a, b, d⟩ : Nd)]).length = ln + 1 := by rw [List.length_append, HLn.out]; rfl
    obtain ⟨d0, d1, d2, d3, d4⟩ := HTg.out.b0
    obtain ⟨e1, e2⟩ := Tb.pl_cell HTg.out p hp
    have hx : (s.L ++ [(⟨a, b, d⟩ : Nd)])[ln]'(by rw [hsL]; omega) = ⟨a, b, d⟩ := by
      rw [List.getElem_append_right (by rw [HLn.out]; exact Nat.le_refl _)]
      simp
    have HT3 := Lib.hid (Tb.place HTg.out (c := ln) (p := p) (by show ln < (s.L ++ [(⟨a, b, d⟩ : Nd)]).length; rw [hsL]; omega) ⟨hp, Or.inr ⟨hq, by
      show (s.L ++ [(⟨a, b, d⟩ : Nd)])[ln]'(by rw [hsL]; omega) ∉ (s.L ++ [(⟨a, b, d⟩ : Nd)]).take ln
      rw [hx, List.take_append_of_le_length (by rw [HLn.out]; exact Nat.le_refl _), List.take_of_length_le (by rw [HLn.out]; exact Nat.le_refl _)]
      exact HNo.out, by
      obtain ⟨f, h1, h2, h3⟩ := hf
      refine ⟨f, h1, ?_, fun t ht => ?_⟩
      · show p = (hm m ((s.L ++ [(⟨a, b, d⟩ : Nd)])[ln]'(by rw [hsL]; omega)) + f) % m
        rw [hx]; exact h2
      · show Q ((hm m ((s.L ++ [(⟨a, b, d⟩ : Nd)])[ln]'(by rw [hsL]; omega)) + t) % m) ≠ 0
        rw [hx]; exact h3 t ht⟩⟩)
    have HF3 := Lib.hid (HFy.out.trans (Frm.of_grown (F := fun k => k = R) (row := some R) (w := y2) (w' := y2.setCell ⟨R, p, none⟩ (.int .i64 ((2 : Int) + ln))) ⟨rfl, rfl, rfl, by simp [World.setCell], fun k hk hne => Below.heap_setCell _ _ _ _ (fun e => hne (by rw [e]))⟩ (fun k hk => (Option.some.inj hk).symm)) (fun k hk => Or.inl (Or.inr (Or.inl hk))))
    have p0 : (0 : Int) ≤ p := by omega
    have p1 : (p : Int) < m := by omega
    clear hf hq hx hsL hS0 hS1 hS2 hS3 hrun kc kf
    go_wp2_with fail
    generalize y2.setCell ⟨R, p, none⟩ (.int .i64 ((2 : Int) + ln)) = y3 at *
    obtain ⟨g0, g1, g2, g4, g5⟩ := HT3.out.b0
    clear d0 d1 d2 d3 d4 e1 e2 HTg HFy hp g0 g1 g2
    have hl1 : ln + 1 ≤ 119900 := by omega
    by_cases hgr : m < 2 * (ln + 1)
    · have z1 : decide ((m : Int) < 2 * ((ln : Int) + 1)) = true := by simp; omega
      have HGr := Lib.hid (fun q => grow (HT3.out.drewN q) (by
        obtain ⟨k, hk, e⟩ := HPw.out
        refine ⟨k, ?_, e⟩
        apply Classical.byContradiction
        intro hn
        have : 2 ^ 18 ≤ 2 ^ k := Nat.pow_le_pow_right (by omega) (by omega)
        omega))
      unfold GrowPost at HGr
      go_wp2_with fail
      go_quiet (fail)
      go_wp2_with fail
      refine (HGr.out nq).mono ?_
      rintro e y4 ⟨rfl, R4, Q4, hT4, hF4, hR4⟩
      have HEnd := Lib.hid (show ∃ R' v' m' Q', Tb y4 B R' v' m' Q' { s with L := s.L ++ [⟨a, b, d⟩] } (ln + 1) ∧ (2 * (ln + 1) ≤ m' ∧ 16 ≤ m') ∧ Frm (Foot B R (.slice A ln ca)) w y4 ∧ ∀ k, Foot B R' v' k → Foot B R (.slice A ln ca) k ∨ w.heap.size ≤ k from ⟨R4, _, _, Q4, (by
        have e : ({ s with L := s.L ++ [⟨a, b, d⟩] } : St).L.length = ln + 1 := by show (s.L ++ [(⟨a, b, d⟩ : Nd)]).length = ln + 1; rw [List.length_append, HLn.out]; rfl
        rw [e] at hT4
        exact hT4), ⟨by omega, by omega⟩, (HF3.out.trans (Frm.of_below (F := fun _ => False) (below_drewN (Below.refl _ y3) nq)) (fun k hk => absurd hk id)).trans hF4 HFt.out, fun k hk => by
          rcases hk with h | h | h
          · exact Or.inl (Or.inl h)
          · rcases hR4 with e | e
            · exact Or.inl (Or.inr (Or.inl (h.trans e)))
            · have e2 : y3.heap.size ≤ R4 := e
              have := HF3.out.size
              exact Or.inr (by omega)
          · exact HFt.out k (Or.inr (Or.inr h))⟩)
      clear hT4 hF4
      go_wp2_with fail
      go_ret
      exact ⟨rfl, HEnd.out⟩
    · have z1 : decide ((m : Int) < 2 * ((ln : Int) + 1)) = false := by simp; omega
      have HEnd := Lib.hid (show ∀ q, ∃ R' v' m' Q', Tb (y3.drewN q) B R' v' m' Q' { s with L := s.L ++ [⟨a, b, d⟩] } (ln + 1) ∧ (2 * (ln + 1) ≤ m' ∧ 16 ≤ m') ∧ Frm (Foot B R (.slice A ln ca)) w (y3.drewN q) ∧ ∀ k, Foot B R' v' k → Foot B R (.slice A ln ca) k ∨ w.heap.size ≤ k from fun q => ⟨R, _, m, _, HT3.out.drewN q, ⟨by omega, by omega⟩, HF3.out.trans (Frm.of_below (F := fun _ => False) (below_drewN (Below.refl _ y3) q)) (fun k hk => absurd hk id), HFt.out⟩)
      go_wp2_with fail
      go_quiet (fail)
      go_wp2_with fail
      go_ret
      exact ⟨rfl, HEnd.out _⟩
end
end Go.Proofs.Ytnkkmppmfjekeaa.NdF
