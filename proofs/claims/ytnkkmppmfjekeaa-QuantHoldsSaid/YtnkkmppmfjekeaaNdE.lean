/- Diagrams' nodes in memory: more places, by contract. -/
import Derived.Test.YtnkkmppmfjekeaaNdD
namespace Go.Proofs.Ytnkkmppmfjekeaa.NdE
open Go.RowKit Go.Lib Go.Proofs Go.Proofs.Ytnkkmppmfjekeaa.NdA Go.Proofs.Ytnkkmppmfjekeaa.NdH Go.Proofs.Ytnkkmppmfjekeaa.NdB Go.Proofs.Ytnkkmppmfjekeaa.NdC Go.Proofs.Ytnkkmppmfjekeaa.NdD
set_option linter.unusedVariables false
set_option linter.unusedSimpArgs false
/-- What may have changed: the blocks of F alone, and what is new. -/
structure Frm (F : Nat → Prop) (w w' : World) : Prop where
  os : w'.os = w.os
  tape : w'.tape = w.tape
  output : w'.output = w.output
  size : w.heap.size ≤ w'.heap.size
  block : ∀ k, k < w.heap.size → ¬ F k → w'.heap[k]? = w.heap[k]?
theorem Frm.refl (F : Nat → Prop) (w : World) : Frm F w w := ⟨rfl, rfl, rfl, Nat.le_refl _, fun _ _ _ => rfl⟩
theorem Frm.of_below {F : Nat → Prop} {w w' : World} (h : Below w.heap.size w w') : Frm F w w' := ⟨h.os, h.tape, h.output, h.size, fun k hk _ => h.block k hk⟩
theorem Frm.of_grown {F : Nat → Prop} {w w' : World} {row : Option Nat} (h : w.grownBy w' row) (hr : ∀ k, row = some k → F k) : Frm F w w' := ⟨h.os, h.tape, h.output, h.size, fun k hk hn => h.block k hk (fun e => hn (hr k e.symm))⟩
theorem Frm.trans {F G : Nat → Prop} {w w1 w2 : World} (h : Frm F w w1) (h2 : Frm G w1 w2) (hG : ∀ k, G k → F k ∨ w.heap.size ≤ k) : Frm F w w2 :=
  ⟨h2.os.trans h.os, h2.tape.trans h.tape, h2.output.trans h.output, Nat.le_trans h.size h2.size, fun k hk hn => (h2.block k (Nat.lt_of_lt_of_le hk h.size) (fun hg => by
    rcases hG k hg with e | e
    · exact hn e
    · omega)).trans (h.block k hk hn)⟩
theorem Frm.mono {F G : Nat → Prop} {w w' : World} (h : Frm F w w') (hG : ∀ k, F k → G k) : Frm G w w' := ⟨h.os, h.tape, h.output, h.size, fun k hk hn => h.block k hk (fun e => hn (hG k e))⟩
theorem Frm.below {F : Nat → Prop} {W w w' : World} (hb : Below W.heap.size W w) (h : Frm F w w') (hF : ∀ k, F k → W.heap.size ≤ k) : Below W.heap.size W w' := by
  exact hb.trans ⟨h.os, h.tape, h.output, h.size, fun k hk => h.block k (Nat.lt_of_lt_of_le hk hb.size) (fun e => by have := hF k e; omega)⟩
section
variable {B R : Nat} {v : Value} {m : Nat} {Q : Nat → Nat} {s : St} {c : Nat} {w : World}
theorem Tb.ne (H : Tb w B R v m Q s c) : R ≠ B ∧ v.ownBlock ≠ some B ∧ v.ownBlock ≠ some R := by
  obtain ⟨C, hC, _⟩ := H.rb
  refine ⟨fun e => ?_, fun e => ?_, fun e => ?_⟩
  · rw [e, H.fb] at hC
    injection hC with hC
    injection hC with _ h
    exact absurd h (by decide)
  · rcases H.own.2 with ⟨rfl, _⟩ | ⟨g, cap, cur, rfl, _, hg, _⟩
    · cases e
    · injection e with e
      simp only at e
      rw [e, H.fb] at hg
      injection hg with hg
      injection hg with _ h
      exact absurd h (by decide)
  · rcases H.own.2 with ⟨rfl, _⟩ | ⟨g, cap, cur, rfl, _, hg, _⟩
    · cases e
    · injection e with e
      simp only at e
      rw [e, hC] at hg
      injection hg with hg
      injection hg with _ h
      exact absurd h (by decide)
theorem infoInt : (Try.prog.info? 3).map (fun i => (i.zero, i.size, i.bytes)) = some (some (.int .i64 0), 1, 8) := by kernel_rfl
theorem made_get (n i : Nat) (hi : i < n) : (madeCells #[Value.int .i64 0] n)[i]? = some (.int .i64 0) := by
  rw [Array.getElem?_eq_getElem (by rw [size_madeCells]; exact hi)]
  simp [madeCells]
  rw [Nat.mod_one]
  rfl
/-- The table with places of its own that are all open. -/
theorem Tb.made (H : Tb w B R v m Q s c) (hm9 : ∃ k, k ≤ 17 ∧ m = 2 ^ k) : Tb ((w.alloc (.cells (madeCells #[Value.int .i64 0] (2 * m)) 3)).setCell ⟨B, 4, none⟩ (.slice (some ⟨w.heap.size, 0, none⟩) (2 * m) (2 * m))) B w.heap.size v (2 * m) (fun _ => 0) s 0 := by
  have hbl := H.bl
  obtain ⟨h1, h2, h3⟩ := Tb.ne H
  have hk : ∀ k, k < w.heap.size → k ≠ B → ((w.alloc (.cells (madeCells #[Value.int .i64 0] (2 * m)) 3)).setCell ⟨B, 4, none⟩ (.slice (some ⟨w.heap.size, 0, none⟩) (2 * m) (2 * m))).heap[k]? = w.heap[k]? := fun k hk hne => (Below.heap_setCell _ _ _ _ hne).trans (heap_alloc_old w _ hk)
  refine ⟨?_, ⟨madeCells #[Value.int .i64 0] (2 * m), (Below.heap_setCell _ _ _ _ (by show w.heap.size ≠ B; omega)).trans (heap_alloc_new w _), fun i hi => made_get _ i hi⟩, own_block H.own (fun g hg => hk g (H.own.lt g hg).2 (fun e => h2 (e ▸ hg))), Pls.start _ _ _, H.wf, ?_, H.len, by have := H.lm; omega, H.bud⟩
  · show (World.heap _ |>.modify B _)[B]? = _
    rw [Array.getElem?_modify, if_pos rfl, heap_alloc_old w _ hbl, H.fb]
    rfl
  · obtain ⟨k, hk9, rfl⟩ := hm9
    exact ⟨k + 1, by omega, by rw [Nat.pow_succ]; omega⟩
/-- One more number in its place. -/
theorem Tb.place (H : Tb w B R v m Q s c) (hc : c < s.L.length) {p : Nat} (hf : NdH.Found (hm m) m Q s.L c s.L[c] p) : Tb (w.setCell ⟨R, p, none⟩ (.int .i64 ((2 : Int) + c))) B R v m (fun i => if i = p then c + 2 else Q i) s (c + 1) := by
  obtain ⟨h1, h2, h3⟩ := Tb.ne H
  obtain ⟨hp, hf⟩ := hf
  have hno : ¬ ∃ n, ∃ hn : n < s.L.length, n < c ∧ Q p = n + 2 ∧ s.L[n] = s.L[c] := by
    rintro ⟨n, hn, hlt, _, he⟩
    have := nodup_get H.wf.nodup hn hc he
    omega
  obtain ⟨hq, _, d, hd, hpd, hall⟩ : Q p = 0 ∧ s.L[c] ∉ s.L.take c ∧ ∃ d, d < m ∧ p = (hm m s.L[c] + d) % m ∧ ∀ t, t < d → Q ((hm m s.L[c] + t) % m) ≠ 0 := by
    rcases hf with hf | hf
    · exact absurd hf hno
    · exact hf
  obtain ⟨C, hC, hCi⟩ := H.rb
  have hk : ∀ k, k ≠ R → (w.setCell ⟨R, p, none⟩ (.int .i64 ((2 : Int) + c))).heap[k]? = w.heap[k]? := fun k hne => Below.heap_setCell _ _ _ _ hne
  refine ⟨(hk B (Ne.symm h1)).trans H.fb, ⟨C.setIfInBounds p (.int .i64 ((2 : Int) + c)), ?_, fun i hi => ?_⟩, own_block H.own (fun g hg => hk g (fun e => h3 (e ▸ hg))), H.pls.put hc hq hd hpd hall, H.wf, H.pow, H.len, H.lm, H.bud⟩
  · show (w.heap.modify R _)[R]? = _
    rw [Array.getElem?_modify, if_pos rfl, hC]
    rfl
  · rw [Array.getElem?_setIfInBounds]
    have hsz : p < C.size := (Array.getElem?_eq_some_iff.1 (hCi p hp)).1
    by_cases e : p = i
    · subst e
      rw [if_pos rfl, if_pos hsz, if_pos rfl]
      congr 2
      omega
    · rw [if_neg e, if_neg (fun e2 => e e2.symm)]
      exact hCi i hi
theorem Tb.pl_cell (H : Tb w B R v m Q s c) (p : Nat) (hp : p < m) : w.cell? ⟨R, p, none⟩ = some (.int .i64 (Q p)) ∧ w.frozen? ⟨R, p, none⟩ = false := by
  obtain ⟨C, hC, hCi⟩ := H.rb
  refine ⟨by rw [Lib.cell_of_heap hC]; exact hCi p hp, ?_⟩
  unfold World.frozen?
  rw [hC]
  rfl
theorem Tb.free (H : Tb w B R v m Q s c) (o : Nat) : w.frozen? ⟨B, o, none⟩ = false := by
  unfold World.frozen?
  rw [H.fb]
  rfl
def GrowPost (B R : Nat) (v : Value) (m : Nat) (s : St) (w : World) (e : Ending) (w' : World) : Prop := e = .returned (.tuple #[]) ∧ ∃ R' Q', Tb w' B R' v (2 * m) Q' s s.L.length ∧ Frm (Foot B R v) w w' ∧ (R' = R ∨ w.heap.size ≤ R')
set_option maxHeartbeats 2000000 in
set_option maxRecDepth 100000 in
theorem grow (H : Tb w B R v m Q s c) (hm9 : ∃ k, k ≤ 17 ∧ m = 2 ^ k) : Calls Try.prog 103 #[.pointer (some ⟨B, 0, none⟩)] w (GrowPost B R v m s w) := by
  unfold GrowPost
  have hlm := H.lm
  have hlen := H.len
  have HMd := Lib.hid (Tb.made H hm9)
  have hm512 : m ≤ 131072 := by
    obtain ⟨k, hk, rfl⟩ := hm9
    simpa using Nat.pow_le_pow_right (n := 2) (by omega) hk
  obtain ⟨c0, c1, c2, c3, c4⟩ := H.b0
  have hbl := H.bl
  have hfr := Tb.free H 4
  obtain ⟨i0, hi, hz0, hz1, hz2⟩ := info_parts infoInt
  have mk := fun (w : World) => run_make (P := Try.prog) w 24 3 i0 _ Try.underlying24 hi hz0 .i64 .i64 ((2 : Int) * m) ((2 : Int) * m) (by omega) (by omega) (by rw [hz2]; omega) (by omega)
  rw [hz1] at mk
  have e2m : ((2 : Int) * m).toNat = 2 * m := by omega
  simp only [e2m, Nat.mul_one] at mk
  have mk2 : ∀ w, (Instr.makeSlice 24 (.int .i64 ((2 : Int) * m)) (.int .i64 ((2 : Int) * m))).run Try.prog w = .ok (.slice (some ⟨w.heap.size, 0, none⟩) (2 * m) (2 * m)) (w.alloc (.cells (madeCells #[Value.int .i64 0] (2 * m)) 3)) := mk
  have HF0 : Hid (Frm (Foot B R v) w ((w.alloc (.cells (madeCells #[Value.int .i64 0] (2 * m)) 3)).setCell ⟨B, 4, none⟩ (.slice (some ⟨w.heap.size, 0, none⟩) (2 * m) (2 * m)))) := Lib.hid ⟨rfl, rfl, rfl, by simp [World.setCell], (fun k hk hn => (Below.heap_setCell _ _ _ _ (fun e => hn (Or.inl e))).trans (heap_alloc_old w _ hk))⟩
  clear mk hi hz0 hz1 hz2 hm9 e2m
  obtain ⟨A, ca, hv, hle, hmx, -⟩ := H.nodes
  clear H
  subst hv
  obtain ⟨ln, hln⟩ : ∃ ln, s.L.length = ln := ⟨_, rfl⟩
  have HLn := Lib.hid hln
  rw [hln] at hlen hlm hle c3 HMd HF0 ⊢
  clear hln
  rw [World.setCell_alloc_past] at HMd HF0
  rotate_left
  · exact hbl
  · exact hbl
  go_enter Try.func103, Try.ntmps103
  go_wp2_with fail
  generalize ((w.setCell ⟨B, 4, none⟩ (.slice (some ⟨w.heap.size, 0, none⟩) (2 * m) (2 * m))).alloc (.cells (madeCells #[Value.int .i64 0] (2 * m)) 3)) = w1 at *
  obtain ⟨R1, hR1⟩ : ∃ R1, w.heap.size = R1 := ⟨_, rfl⟩
  simp only [hR1] at HMd ⊢
  have HR1 := Lib.hid hR1
  clear hR1 c0 c1 c2 c3 c4 mk2 hfr
  go_loopw [19] (fun i wr => ∃ (j : Nat) (Q1 : Nat → Nat), j ≤ ln ∧ i = .int .i64 j ∧ Hid (Tb wr B R1 (.slice A ln ca) (2 * m) Q1 s j) ∧ Hid (Frm (Foot B R (.slice A ln ca)) w wr)) (fun i _ => ln - (RowKit.intOf i).toNat)
  case atStart => exact ⟨0, _, by omega, rfl, HMd, HF0⟩
  case round =>
    clear HMd HF0
    obtain ⟨j, Q1, hj, rfl, hT, hF⟩ := hrel
    by_cases hlt : j < ln
    · have d1 : decide ((j : Int) < ln) = true := by simp; omega
      have q0 : (0 : Int) ≤ j := by omega
      have q1 : (j : Int) < ln := by omega
      have hjL : j < s.L.length := by rw [HLn.out]; exact hlt
      obtain ⟨A', ca', hv', _, _, hnod⟩ := hT.out.nodes
      rw [HLn.out] at hv'
      injection hv' with hA hn hc
      subst hA
      subst hc
      obtain ⟨g, rfl, hg, hcell⟩ := hnod (by omega)
      obtain ⟨a0, a1, a2⟩ := hcell j hjL
      obtain ⟨x, hx⟩ : ∃ x, s.L[j] = x := ⟨_, rfl⟩
      obtain ⟨x1, x2, x3⟩ := x
      rw [hx] at a0 a1 a2
      simp only at a0 a1 a2
      have HXj := Lib.hid hx
      have hbx := (Below.refl wr.heap.size wr).alloc (Nat.le_refl _) (.cells #[.int .i64 x1, .int .i64 x2, .int .i64 x3] 89)
      have hx0 := heap_alloc_new wr (.cells #[.int .i64 x1, .int .i64 x2, .int .i64 x3] 89)
      have hwr : IntKind.i64.wrap ((2 : Int) + j) = 2 + j := by rw [IntKind.wrap_i64]; omega
      have hsz : wr.heap.size < (wr.alloc (.cells #[.int .i64 x1, .int .i64 x2, .int .i64 x3] 89)).heap.size := by simp
      have HT3 := Lib.hid (hT.out.below hbx)
      have HF3 := Lib.hid (hF.out.trans (Frm.of_below (F := fun _ => False) hbx) (fun k hk => absurd hk id))
      have HRlt := hT.out.rl
      have HBlt := hT.out.bl
      clear hcell hnod hT hF hn hx
      go_wp2_with fail
      generalize wr.alloc (.cells #[.int .i64 x1, .int .i64 x2, .int .i64 x3] 89) = w3 at *
      obtain ⟨bq, hbq⟩ : ∃ bq, wr.heap.size = bq := ⟨_, rfl⟩
      have HFi := Lib.hid (fun y (hy : Below w3.heap.size w3 y) => find_ x1 x2 x3 (HT3.out.below hy) (by omega))
      have hSy : ∀ y, Below w3.heap.size w3 y → (y.cell? ⟨B, 4, none⟩ = some (.slice (some ⟨R1, 0, none⟩) (2 * m) (2 * m)) ∧ ∀ o, y.cell? ⟨bq, o, none⟩ = (#[.int .i64 x1, .int .i64 x2, .int .i64 x3] : Array Value)[o]?) := fun y hy => ⟨(HT3.out.below hy).b0.2.2.2.2, fun o => by rw [← hbq]; exact (hy.cell (p := ⟨wr.heap.size, o, none⟩) hsz).trans (Lib.cell_of_heap hx0 o)⟩
      have HSy := Lib.hid hSy
      have hst := hSy _ ((Below.refl w3.heap.size w3).drew)
      have hbqR : bq ≠ R1 := by omega
      have hBR : B ≠ R1 := Ne.symm (Tb.ne HT3.out).1
      clear hSy hx0 hbx
      simp only [hbq] at hsz ⊢
      refine wp_region_held_drew (S := fun y => y.cell? ⟨B, 4, none⟩ = some (.slice (some ⟨R1, 0, none⟩) (2 * m) (2 * m)) ∧ ∀ o, y.cell? ⟨bq, o, none⟩ = (#[.int .i64 x1, .int .i64 x2, .int .i64 x3] : Array Value)[o]?) (by kernel_rfl) hst (fun hHeld => ?_)
      refine wpAnyH_take (i := 0) (v := ?_) rfl (by kernel_rfl) (by kernel_rfl) (by kernel_rfl) (fun _ _ _ h => h) (Or.inl ⟨by kernel_rfl, ?_⟩) (by assumption) ?_
      rotate_left
      · intro w hSw; (try dsimp only at hSw); go_simp; try with_reducible rfl
      try simp only [Act.put, List.setIfInBounds_toArray, List.set_cons_zero, List.set_cons_succ]
      refine wpAnyH_take (i := 1) (v := ?_) rfl (by kernel_rfl) (by kernel_rfl) (by kernel_rfl) (fun _ _ _ h => h) (Or.inl ⟨by kernel_rfl, ?_⟩) (by assumption) ?_
      rotate_left
      · intro w hSw; (try dsimp only at hSw); go_simp; try with_reducible rfl
      try simp only [Act.put, List.setIfInBounds_toArray, List.set_cons_zero, List.set_cons_succ]
      refine wpAnyH_take (i := 2) (v := ?_) rfl (by kernel_rfl) (by kernel_rfl) (by kernel_rfl) (fun _ _ _ h => h) (Or.inl ⟨by kernel_rfl, ?_⟩) (by assumption) ?_
      rotate_left
      · intro w hSw; (try dsimp only at hSw); go_simp; try with_reducible rfl
      try simp only [Act.put, List.setIfInBounds_toArray, List.set_cons_zero, List.set_cons_succ]
      refine wpAnyH_take (i := 3) (v := ?_) rfl (by kernel_rfl) (by kernel_rfl) (by kernel_rfl) (fun _ _ _ h => h) (Or.inl ⟨by kernel_rfl, ?_⟩) (by assumption) ?_
      rotate_left
      · intro w hSw; (try dsimp only at hSw); go_simp; try with_reducible rfl
      try simp only [Act.put, List.setIfInBounds_toArray, List.set_cons_zero, List.set_cons_succ]
      refine wpAnyH_take (i := 4) (v := ?_) rfl (by kernel_rfl) (by kernel_rfl) (by kernel_rfl) (fun _ _ _ h => h) (Or.inl ⟨by kernel_rfl, ?_⟩) (by assumption) ?_
      rotate_left
      · intro w hSw; (try dsimp only at hSw); go_simp; try with_reducible rfl
      try simp only [Act.put, List.setIfInBounds_toArray, List.set_cons_zero, List.set_cons_succ]
      refine wpAnyH_take (i := 5) (v := ?_) rfl (by kernel_rfl) (by kernel_rfl) (by kernel_rfl) (fun _ _ _ h => h) (Or.inl ⟨by kernel_rfl, ?_⟩) (by assumption) ?_
      rotate_left
      · intro w hSw; (try dsimp only at hSw); go_simp; try with_reducible rfl
      try simp only [Act.put, List.setIfInBounds_toArray, List.set_cons_zero, List.set_cons_succ]
      refine wpAnyH_take (i := 7) (v := ?_) rfl (by kernel_rfl) (by kernel_rfl) (by kernel_rfl) (fun _ _ _ h => h) (Or.inl ⟨by kernel_rfl, ?_⟩) (by assumption) ?_
      rotate_left
      · intro w hSw; (try dsimp only at hSw); go_simp; try with_reducible rfl
      try simp only [Act.put, List.setIfInBounds_toArray, List.set_cons_zero, List.set_cons_succ]
      refine wpAnyH_take (i := 8) (v := ?_) rfl (by kernel_rfl) (by kernel_rfl) (by kernel_rfl) (fun _ _ _ h => h) (Or.inl ⟨by kernel_rfl, ?_⟩) (by assumption) ?_
      rotate_left
      · intro w hSw; (try dsimp only at hSw); go_simp; try with_reducible rfl
      try simp only [Act.put, List.setIfInBounds_toArray, List.set_cons_zero, List.set_cons_succ]
      refine wpAnyH_ready (rs := [6]) (by kernel_rfl) (by simp) ?_
      refine AllReadyH.cons rfl (fun K hK => ?_) AllReadyH.nil
      go_simp
      refine (HFi.out _ ((Below.refl w3.heap.size w3).drew)).mono ?_
      rintro e x4 ⟨p, rfl, hfo, hb4⟩
      have hbb := ((Below.refl w3.heap.size w3).drew).trans hb4
      refine hK.out _ _ (HSy.out _ hbb) (fun hHeld => ?_)
      clear hK K
      try simp only [Act.put, List.setIfInBounds_toArray, List.set_cons_zero, List.set_cons_succ]
      have hpm : p < 2 * m := hfo.1
      have p0 : (0 : Int) ≤ p := by omega
      have p1 : (p : Int) < ((2 * m : Nat) : Int) := by omega
      have p2 : (p : Int) < 2 * (m : Int) := by omega
      refine wpAnyH_take (i := 9) (v := ?_) rfl (by kernel_rfl) (by kernel_rfl) (by kernel_rfl) (fun _ _ _ h => h) (Or.inl ⟨by kernel_rfl, ?_⟩) (by assumption) ?_
      rotate_left
      · intro w hSw; (try dsimp only at hSw); go_simp; try with_reducible rfl
      try simp only [Act.put, List.setIfInBounds_toArray, List.set_cons_zero, List.set_cons_succ]
      have HT4 := HT3.out.below hbb
      obtain ⟨f1, f2⟩ := Tb.pl_cell HT4 p hpm
      have HTn := Lib.hid (Tb.place HT4 hjL (p := p) (by rw [HXj.out]; exact hfo))
      have HFn := Lib.hid ((HF3.out.trans (Frm.of_below (F := fun _ => False) hbb) (fun k hk => absurd hk id)).trans (Frm.of_grown (F := fun k => k = R1) (row := some R1) (w := x4) (w' := x4.setCell ⟨R1, p, none⟩ (.int .i64 ((2 : Int) + j))) ⟨rfl, rfl, rfl, by simp [World.setCell], fun k hk hne => Below.heap_setCell _ _ _ _ (fun e => hne (by rw [e]))⟩ (fun k hk => (Option.some.inj hk).symm)) (fun k hk => Or.inr (by rw [HR1.out, hk]; exact Nat.le_refl _)))
      have hSn : (x4.setCell ⟨R1, p, none⟩ (.int .i64 ((2 : Int) + j))).cell? ⟨B, 4, none⟩ = some (.slice (some ⟨R1, 0, none⟩) (2 * m) (2 * m)) ∧ ∀ o, (x4.setCell ⟨R1, p, none⟩ (.int .i64 ((2 : Int) + j))).cell? ⟨bq, o, none⟩ = (#[.int .i64 x1, .int .i64 x2, .int .i64 x3] : Array Value)[o]? := ⟨(World.cell?_setCell_other _ _ _ _ (fun e => hBR (by injection e with e; exact e.symm))).trans hHeld.1, fun o => (World.cell?_setCell_other _ _ _ _ (fun e => hbqR (by injection e with e; exact e.symm))).trans (hHeld.2 o)⟩
      clear hbb hb4 hfo HT4
      refine wpAnyH_ready (rs := [10]) (by kernel_rfl) (by simp) ?_
      refine AllReadyH.cons rfl (fun K hK => ?_) AllReadyH.nil
      go_simp
      refine hK.out _ _ hSn (fun hHeld => ?_)
      clear hK K
      try simp only [Act.put, List.setIfInBounds_toArray, List.set_cons_zero, List.set_cons_succ]
      refine wpAnyH_done (by kernel_rfl) ?_ _
      clear hHeld hSn f1 f2 hst
      go_wp2_with fail
      go_roundw
      case rel => exact ⟨j + 1, _, by omega, by go_num, HTn, HFn⟩
      case measure => simp [RowKit.intOf]; omega
    · have d1 : decide ((j : Int) < ln) = false := by simp; omega
      have hjn : j = ln := by omega
      subst hjn
      go_wp2_with fail
      go_end0
      exact ⟨rfl, R1, Q1, hT.out, hF.out, Or.inr (by rw [HR1.out]; exact Nat.le_refl _)⟩
end
end Go.Proofs.Ytnkkmppmfjekeaa.NdE
