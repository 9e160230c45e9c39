/- The walk of the law of nodes that are made, beside the document's. -/
import Derived.Test.YtekgegpholcdcaaNdR
import Derived.Test.YtekgegpholcdcaaNdK
namespace Go.Proofs.Ytekgegpholcdcaa.NdS
open Go.RowKit Go.Lib Go.Proofs Go.Proofs.Ytekgegpholcdcaa.NdA Go.Proofs.Ytekgegpholcdcaa.NdH Go.Proofs.Ytekgegpholcdcaa.NdB Go.Proofs.Ytekgegpholcdcaa.NdC Go.Proofs.Ytekgegpholcdcaa.NdD Go.Proofs.Ytekgegpholcdcaa.NdE Go.Proofs.Ytekgegpholcdcaa.NdG Go.Proofs.Ytekgegpholcdcaa.NdI Go.Proofs.Ytekgegpholcdcaa.NdJ Go.Proofs.Ytekgegpholcdcaa.NdK Go.Proofs.Ytekgegpholcdcaa.NdP Go.Proofs.Ytekgegpholcdcaa.NdQ Go.Proofs.Ytekgegpholcdcaa.NdR
set_option linter.unusedVariables false
set_option linter.unusedSimpArgs false
theorem mk_is (s : St) (x lo hi : Int) : isB (mkS s x lo hi) (mkA s x lo hi) = true := by
  refine isB_iff.2 ?_
  unfold mkS mkA
  cases hm : mayB s x lo hi with
  | false => simp; omega
  | true =>
    by_cases he : lo = hi
    · have := isB_iff.1 (mayB_iff.1 hm).2.1
      simp [he]
      subst he
      exact this
    · cases hp : posN s.L ⟨x, lo, hi⟩ with
      | some i =>
        obtain ⟨h1, h2⟩ := posN_some hp
        simp [he, hp]
        omega
      | none =>
        by_cases hb : s.budget ≤ s.L.length
        · simp [he, hp, hb]; omega
        · simp [he, hp, hb]; omega
theorem neN (a b c : Int) (w : World) : (binOp .neq 28 (.agg #[.int .i64 a, .int .i64 b, .int .i64 c]) (.agg #[.int .i64 a, .int .i64 b, .int .i64 c])).run Try.prog w = .ok (.bool false) w := by
  simp only [go_sem]
  go_simp
theorem mk_len (s : St) (x lo hi : Int) : (mkS s x lo hi).L.length ≤ s.L.length + 1 := by
  unfold mkS
  split
  · split
    · omega
    · split
      · omega
      · split
        · simp
        · simp
  · omega
set_option maxHeartbeats 8000000 in
set_option maxRecDepth 100000 in
theorem makes_law (vars budget : Int) (hb0 : budget ≤ 9223372036854775807) (A : Option Addr) (ca : Nat) (L : List Nd) (w : World) (hL : L.length ≤ maxLen) (hca : L.length ≤ ca) (hm : ca ≤ maxLen) (hA : NG w A L) (hI : InN L) : Calls Try.prog 3 #[.int .i64 vars, .int .i64 budget, .slice A L.length ca] w fun e w' => e = .returned (.bool true) ∧ Below w.heap.size w w' := by
  unfold maxLen at hL hm
  obtain ⟨m, hmm⟩ : ∃ m, min L.length 80 = m := ⟨_, rfl⟩
  have hmi : min (L.length : Int) 80 = (m : Int) := by omega
  have hm80 : m ≤ 80 := by omega
  have hmc : m ≤ ca := by omega
  have hTl : (L.take m).length = m := by simp; omega
  have HA := Lib.hid (hA.take m)
  have HI := Lib.hid (hI.take m)
  have HLV := Lib.hid lives
  clear hmm hA hI
  generalize L.take m = T at *
  have HTl := Lib.hid hTl
  clear hTl
  generalize L.length = ln at *
  have HN1 := Lib.hid (fun w => new_ vars budget hb0 w)
  have HN2 := Lib.hid (fun w => newR vars budget hb0 w)
  unfold NdG.NewPost at HN1
  unfold NdP.NewRPost at HN2
  have HL0 : Hid ((NdG.start vars budget).L.length = 0) := Lib.hid rfl
  generalize NdG.start vars budget = s0 at *
  clear hb0
  go_enter Try.func3, Try.ntmps3
  go_wp2_with fail
  refine (HN1.out _).mono ?_
  rintro e w1 ⟨B, R, rfl, hT, hb, hB, hR⟩
  have HT1 := Lib.hid hT
  have HB1 := Lib.hid hb
  have hTl1 : ∀ k, Foot B R (.slice none 0 0) k → k < w1.heap.size := fun k hk => hT.tb.foot hk
  clear hT hb HN1
  go_wp2_with fail
  refine (HN2.out _).mono ?_
  rintro e w2 ⟨C, rfl, hT, hb, hC⟩
  have HT2 := Lib.hid (HT1.out.below hb)
  have HR2 := Lib.hid hT
  have HB2 := Lib.hid (HB1.out.trans (hb.mono HB1.out.size))
  have hs1 := HB1.out.size
  have HD2 := Lib.hid (show ∀ k, Foot B R (.slice none 0 0) k → ¬ FootR C (.slice none 0 0) k from fun k h1 h2 => by
    have := hTl1 k h1
    rcases h2 with rfl | h2
    · omega
    · cases h2)
  have HF2 := Lib.hid (show ∀ k, Foot B R (.slice none 0 0) k ∨ FootR C (.slice none 0 0) k → w.heap.size ≤ k from fun k h => by
    rcases h with (rfl | rfl | h) | (rfl | h)
    · omega
    · omega
    · cases h
    · omega
    · cases h)
  clear hT hb HN2 hTl1 hB hR hC HT1 HB1 hs1
  go_wp2_with fail
  go_loopw [32] (fun i wr => ∃ (j : Nat) (s : St) (R : Nat) (v : Value) (mm : Nat) (Q : Nat → Nat) (u : Value), j ≤ m ∧ i = .int .i64 j ∧ s.L.length ≤ j ∧ Hid (Tk wr B R v mm Q s) ∧ Hid (Rt wr C u s) ∧ Hid (∀ k, Foot B R v k → ¬ FootR C u k) ∧ Hid (∀ k, Foot B R v k ∨ FootR C u k → w.heap.size ≤ k) ∧ Below w.heap.size w wr) (fun i _ => m - (RowKit.intOf i).toNat)
  case atStart => exact ⟨0, s0, _, _, _, _, _, by omega, rfl, by rw [HL0.out]; omega, HT2, HR2, HD2, HF2, HB2.out⟩
  case round =>
    clear HT2 HR2 HD2 HF2 HB2 HL0
    obtain ⟨j, s, R, v, mm, Q, u, hj, rfl, hsj, hT, hR, hD, hF, hb⟩ := hrel
    by_cases hlt : j < m
    · have d1 : decide ((j : Int) < m) = true := by simp; omega
      have q0 : (0 : Int) ≤ j := by omega
      have q1 : (j : Int) < m := by omega
      have hjT : j < T.length := by rw [HTl.out]; exact hlt
      obtain ⟨g, o, rfl, hg, hcell⟩ := (HA.out.below hb) (by omega)
      obtain ⟨a0, a1, a2⟩ := hcell j hjT
      obtain ⟨⟨i1, i2⟩, i3, i4⟩ := HI.out _ (List.getElem_mem hjT)
      generalize T[j] = u' at *
      obtain ⟨x, lo, hi⟩ := u'
      simp only at a0 a1 a2 i1 i2 i3 i4
      have hbx := (Below.refl wr.heap.size wr).alloc (Nat.le_refl _) (.cells #[.int .i64 x, .int .i64 lo, .int .i64 hi] 28)
      have hx0 := heap_alloc_new wr (.cells #[.int .i64 x, .int .i64 lo, .int .i64 hi] 28)
      generalize hW : wr.alloc (.cells #[.int .i64 x, .int .i64 lo, .int .i64 hi] 28) = w3 at *
      have hz3 : w3.heap.size = wr.heap.size + 1 := by rw [← hW]; simp
      have y0 := fun o => Lib.cell_of_heap hx0 o
      have HT3 := Lib.hid (hT.out.below hbx)
      have HR3 := Lib.hid (hR.out.below hbx)
      have HB3 := Lib.hid (hb.trans (hbx.mono hb.size))
      have HX0 := Lib.hid hx0
      have hfa : ∀ k, Foot B R v k → k < wr.heap.size := fun k hk => hT.out.tb.foot hk
      have hfb : ∀ k, FootR C u k → k < wr.heap.size := fun k hk => hR.out.foot hk
      have HMa := Lib.hid (make_ x lo hi i1 i2 i3 i4 (by omega) HT3.out)
      unfold MakePost at HMa
      have HMb := Lib.hid (fun w (h : Rt w C u s) => makeR x lo hi (by omega) h)
      unfold MakeRPost at HMb
      have his := mk_is s x lo hi
      have hlen := mk_len s x lo hi
      generalize mkA s x lo hi = ma at *
      generalize mkE s x lo hi = me at *
      generalize mkS s x lo hi = s2 at *
      have HIs := Lib.hid his
      have hs2 : s2.L.length ≤ j + 1 := by omega
      clear hcell hbx hx0 hb his hlen
      go_wp2_with fail
      refine HMa.out.mono ?_
      rintro e w4 ⟨rfl, R4, v4, m4, Q4, hT4, hF4, hk4⟩
      have hz4 := hF4.size
      have HR4 := Lib.hid (HR3.out.frm hF4 (fun k h1 h2 => hD.out k h2 h1))
      have HX4 := Lib.hid ((hF4.block wr.heap.size (by omega) (fun h => by have := hfa _ h; omega)).trans HX0.out)
      have HB4 := Lib.hid (Frm.below HB3.out hF4 (fun k h => hF.out k (Or.inl h)))
      have y4 := fun o => Lib.cell_of_heap HX4.out o
      clear hW y0
      go_wp2_with fail
      refine (HMb.out _ HR4.out).mono ?_
      rintro e w5 ⟨rfl, u5, hR5, hF5, hk5⟩
      have HT5 := Lib.hid (hT4.frm hF5 (fun k h1 h2 => by
        rcases hk4 k h1 with h | h
        · exact hD.out k h h2
        · have := hfb k h2
          omega))
      have HR5 := Lib.hid hR5
      have HX5 := Lib.hid ((hF5.block wr.heap.size (by omega) (fun h => by have := hfb _ h; omega)).trans HX4.out)
      have HB5 := Lib.hid (Frm.below HB4.out hF5 (fun k h => hF.out k (Or.inr h)))
      have hwr := HB3.out.size
      have HD5 := Lib.hid (show ∀ k, Foot B R4 v4 k → ¬ FootR C u5 k from fun k h1 h2 => by
        have hk4' : k < w4.heap.size := hT4.tb.foot h1
        rcases hk5 k h2 with h | h
        · rcases hk4 k h1 with h' | h'
          · exact hD.out k h' h
          · have := hfb k h
            omega
        · omega)
      have hw3 : w.heap.size ≤ w3.heap.size := HB3.out.size
      have HF5 := Lib.hid (show ∀ k, Foot B R4 v4 k ∨ FootR C u5 k → w.heap.size ≤ k from fun k h => by
        rcases h with h | h
        · rcases hk4 k h with h' | h'
          · exact hF.out k (Or.inl h')
          · omega
        · rcases hk5 k h with h' | h'
          · exact hF.out k (Or.inr h')
          · omega)
      have hxl : wr.heap.size < w5.heap.size := by have := hF5.size; omega
      clear hT4 hF4 hk4 hR5 hF5 hk5 y4 hfa hfb hT hR hD hF HT3 HR3 HB3 HX0 HMa HMb HR4 HX4 HB4 a0 a1 a2 hz4 hz3 hwr hw3
      obtain ⟨bq, hbq⟩ : ∃ bq, wr.heap.size = bq := ⟨_, rfl⟩
      simp only [hbq] at HX5 hxl ⊢
      clear hbq
      have HLa := Lib.hid (fun wx (h : Below w5.heap.size w5 wx) => len_ (HT5.out.below h).tb)
      have HSa := Lib.hid (fun wx (h : Below w5.heap.size w5 wx) => spent_ (HT5.out.below h).tb)
      have HVa := Lib.hid (fun wx (h : Below w5.heap.size w5 wx) => vars_ (HT5.out.below h).tb)
      have HIa := Lib.hid (fun wx (h : Below w5.heap.size w5 wx) => is_ lo i1 i2 (HT5.out.below h).tb)
      have HIb := Lib.hid (fun wx (h : Below w5.heap.size w5 wx) => isR lo (HR5.out.below h))
      have HWa := Lib.hid (fun wx (h : Below w5.heap.size w5 wx) => var_ hi i3 i4 (HT5.out.below h).tb)
      have HWb := Lib.hid (fun wx (h : Below w5.heap.size w5 wx) => varR hi (HR5.out.below h))
      obtain ⟨A5, ca5, hv5, hle5, hmx5, hc5⟩ := HR5.out.nodes
      have HZ : Hid (∀ x', Below w5.heap.size w5 x' → Below w5.heap.size w5 x' ∧ (∀ o, x'.cell? ⟨bq, o, none⟩ = (#[.int .i64 x, .int .i64 lo, .int .i64 hi] : Array Value)[o]?) ∧ ∀ o, x'.cell? ⟨C, o, none⟩ = (#[.int .i64 s2.vars, .int .i64 s2.budget, .slice A5 s2.L.length ca5, .bool s2.spent] : Array Value)[o]?) := Lib.hid (fun x' hb => ⟨hb, fun o => Lib.cell_of_heap ((hb.block bq hxl).trans HX5.out) o, fun o => by rw [← hv5]; exact Lib.cell_of_heap ((hb.block C HR5.out.bl).trans HR5.out.fb) o⟩)
      have hst := HZ.out _ ((Below.refl w5.heap.size w5).drew)
      go_wp2_with fail
      go_region_held3 (fun x' => Below w5.heap.size w5 x' ∧ (∀ o, x'.cell? ⟨bq, o, none⟩ = (#[.int .i64 x, .int .i64 lo, .int .i64 hi] : Array Value)[o]?) ∧ ∀ o, x'.cell? ⟨C, o, none⟩ = (#[.int .i64 s2.vars, .int .i64 s2.budget, .slice A5 s2.L.length ca5, .bool s2.spent] : Array Value)[o]?)
        (first | with_reducible exact hst | with_reducible assumption | exact HZ.out _ (Below.trans (by apply And.left; with_reducible assumption) (Below.mono (by with_reducible assumption) (Below.size (by apply And.left; with_reducible assumption)))))
        (first | ((with_reducible refine (HLa.out _ (by apply And.left; with_reducible assumption)).mono ?_); rintro e x1 ⟨rfl, rfl⟩) | ((with_reducible refine (HSa.out _ (by apply And.left; with_reducible assumption)).mono ?_); rintro e x1 ⟨rfl, rfl⟩) | ((with_reducible refine (HVa.out _ (by apply And.left; with_reducible assumption)).mono ?_); rintro e x1 ⟨rfl, rfl⟩) | ((with_reducible refine (HIa.out _ (by apply And.left; with_reducible assumption)).mono ?_); rintro e x1 ⟨rfl, rfl⟩) | ((with_reducible refine (HIb.out _ (by apply And.left; with_reducible assumption)).mono ?_); rintro e x1 ⟨rfl, rfl⟩) | ((with_reducible refine (HWa.out _ (by apply And.left; with_reducible assumption)).mono ?_); rintro e x1 ⟨rfl, hb1⟩) | ((with_reducible refine (HWb.out _ (by apply And.left; with_reducible assumption)).mono ?_); rintro e x1 ⟨rfl, rfl⟩))
      rename_i hHeld
      have HB6 := Lib.hid (HB5.out.trans (hHeld.1.mono HB5.out.size))
      have HT6 := Lib.hid (HT5.out.below hHeld.1)
      have HR6 := Lib.hid (HR5.out.below hHeld.1)
      obtain ⟨h0a, h0b⟩ := isB_iff.1 HIs.out
      have hm1 : -9223372036854775808 ≤ ma := by omega
      have hm2 : ma ≤ 9223372036854775807 := by omega
      have hwj : IntKind.u64.wrap (j : Int) = j := CaA.wrap_u64 (by omega) (by omega)
      clear hHeld hst hb1 HZ HLa HSa HVa HIa HIb HWa HWb HX5 hxl HT5 HR5 HB5 hle5 hmx5 hc5 hv5
      cases hy : nodeB s2 ma with
      | false =>
        have d2 : decide (2 ≤ ma) = false := decide_eq_false (fun h => by have := nodeB_iff.2 ⟨h, h0b⟩; rw [hy] at this; cases this)
        have HG := Lib.hid (get_no ma hm1 hm2 HT6.out.tb hy)
        clear hy h0a h0b
        go_wp2_with fail
        refine HG.out.mono ?_
        rintro e x2 ⟨rfl, hb2⟩
        have hbx2 := (Below.refl x2.heap.size x2).alloc (Nat.le_refl _) (.cells #[.int .i64 0, .int .i64 0, .int .i64 0] 28)
        have hx2 := heap_alloc_new x2 (.cells #[.int .i64 0, .int .i64 0, .int .i64 0] 28)
        have hz2 : x2.heap.size < (x2.alloc (.cells #[.int .i64 0, .int .i64 0, .int .i64 0] 28)).heap.size := by simp
        have hb3 := hb2.trans (hbx2.mono hb2.size)
        go_wp2_with fail
        generalize hW3 : x2.alloc (.cells #[.int .i64 0, .int .i64 0, .int .i64 0] 28) = x3 at *
        have HT7 := Lib.hid (HT6.out.below hb3)
        have HR7 := Lib.hid (HR6.out.below hb3)
        have HB7 := Lib.hid (HB6.out.trans (hb3.mono HB6.out.size))
        have HAa := Lib.hid (fun wx (h : Below x3.heap.size x3 wx) => at__ ma hm1 hm2 j (by omega) (HT7.out.below h))
        have HAb := Lib.hid (fun wx (h : Below x3.heap.size x3 wx) => atR j (by omega) ma (HR7.out.below h))
        generalize ev s2.L (fun i => j.testBit i) ma = ea at *
        have hst2 := (Below.refl x3.heap.size x3).drew
        clear hb2 hb3 hbx2 hx2 hz2 hW3 HG HT6 HR6 HB6
        refine wp_region_held_drew (S := fun y => Below x3.heap.size x3 y) (by kernel_rfl) hst2 (fun hHeld => ?_)
        refine wpAnyH_take (i := 0) (v := ?_) rfl (by kernel_rfl) (by kernel_rfl) (by kernel_rfl) (fun _ _ _ h => h) (Or.inl ⟨by kernel_rfl, ?_⟩) (by assumption) ?_
        rotate_left
        · intro w hSw; (try dsimp only at hSw); go_simp; try with_reducible rfl
        try simp only [Act.put, List.setIfInBounds_toArray, List.set_cons_zero, List.set_cons_succ]
        refine wpAnyH_take (i := 1) (v := ?_) rfl (by kernel_rfl) (by kernel_rfl) (by kernel_rfl) (fun _ _ _ h => h) (Or.inl ⟨by kernel_rfl, ?_⟩) (by assumption) ?_
        rotate_left
        · intro w hSw; (try dsimp only at hSw); go_simp; try with_reducible rfl
        try simp only [Act.put, List.setIfInBounds_toArray, List.set_cons_zero, List.set_cons_succ]
        refine wpAnyH_take (i := 2) (v := ?_) rfl (by kernel_rfl) (by kernel_rfl) (by kernel_rfl) (fun _ _ _ h => h) (Or.inl ⟨by kernel_rfl, ?_⟩) (by assumption) ?_
        rotate_left
        · intro w hSw; (try dsimp only at hSw); go_simp; try with_reducible rfl
        try simp only [Act.put, List.setIfInBounds_toArray, List.set_cons_zero, List.set_cons_succ]
        refine wpAnyH_take (i := 3) (v := ?_) rfl (by kernel_rfl) (by kernel_rfl) (by kernel_rfl) (fun _ _ _ h => h) (Or.inl ⟨by kernel_rfl, ?_⟩) (by assumption) ?_
        rotate_left
        · intro w hSw; (try dsimp only at hSw); go_simp; try with_reducible rfl
        try simp only [Act.put, List.setIfInBounds_toArray, List.set_cons_zero, List.set_cons_succ]
        refine wpAnyH_take (i := 4) (v := ?_) rfl (by kernel_rfl) (by kernel_rfl) (by kernel_rfl) (fun _ _ _ h => h) (Or.inl ⟨by kernel_rfl, ?_⟩) (by assumption) ?_
        rotate_left
        · intro w hSw; (try dsimp only at hSw); go_simp; try with_reducible rfl
        try simp only [Act.put, List.setIfInBounds_toArray, List.set_cons_zero, List.set_cons_succ]
        refine wpAnyH_take (i := 5) (v := ?_) rfl (by kernel_rfl) (by kernel_rfl) (by kernel_rfl) (fun _ _ _ h => h) (Or.inl ⟨by kernel_rfl, ?_⟩) (by assumption) ?_
        rotate_left
        · intro w hSw; (try dsimp only at hSw); go_simp; try with_reducible rfl
        try simp only [Act.put, List.setIfInBounds_toArray, List.set_cons_zero, List.set_cons_succ]
        refine wpAnyH_take (i := 6) (v := ?_) rfl (by kernel_rfl) (by kernel_rfl) (by kernel_rfl) (fun _ _ _ h => h) (Or.inl ⟨by kernel_rfl, ?_⟩) (by assumption) ?_
        rotate_left
        · intro w hSw; (try dsimp only at hSw); go_simp; try with_reducible rfl
        try simp only [Act.put, List.setIfInBounds_toArray, List.set_cons_zero, List.set_cons_succ]
        refine wpAnyH_take (i := 7) (v := undef) rfl (by kernel_rfl) (by kernel_rfl) (by kernel_rfl) (fun _ _ _ h => h) (Or.inr ⟨by kernel_rfl, rfl⟩) (by assumption) ?_
        try simp only [Act.put, List.setIfInBounds_toArray, List.set_cons_zero, List.set_cons_succ]
        refine wpAnyH_take (i := 8) (v := undef) rfl (by kernel_rfl) (by kernel_rfl) (by kernel_rfl) (fun _ _ _ h => h) (Or.inr ⟨by kernel_rfl, rfl⟩) (by assumption) ?_
        try simp only [Act.put, List.setIfInBounds_toArray, List.set_cons_zero, List.set_cons_succ]
        refine wpAnyH_take (i := 9) (v := undef) rfl (by kernel_rfl) (by kernel_rfl) (by kernel_rfl) (fun _ _ _ h => h) (Or.inr ⟨by kernel_rfl, rfl⟩) (by assumption) ?_
        try simp only [Act.put, List.setIfInBounds_toArray, List.set_cons_zero, List.set_cons_succ]
        refine wpAnyH_take (i := 10) (v := undef) rfl (by kernel_rfl) (by kernel_rfl) (by kernel_rfl) (fun _ _ _ h => h) (Or.inr ⟨by kernel_rfl, rfl⟩) (by assumption) ?_
        try simp only [Act.put, List.setIfInBounds_toArray, List.set_cons_zero, List.set_cons_succ]
        refine wpAnyH_take (i := 11) (v := undef) rfl (by kernel_rfl) (by kernel_rfl) (by kernel_rfl) (fun _ _ _ h => h) (Or.inr ⟨by kernel_rfl, rfl⟩) (by assumption) ?_
        try simp only [Act.put, List.setIfInBounds_toArray, List.set_cons_zero, List.set_cons_succ]
        refine wpAnyH_take (i := 12) (v := undef) rfl (by kernel_rfl) (by kernel_rfl) (by kernel_rfl) (fun _ _ _ h => h) (Or.inr ⟨by kernel_rfl, rfl⟩) (by assumption) ?_
        try simp only [Act.put, List.setIfInBounds_toArray, List.set_cons_zero, List.set_cons_succ]
        refine wpAnyH_take (i := 13) (v := undef) rfl (by kernel_rfl) (by kernel_rfl) (by kernel_rfl) (fun _ _ _ h => h) (Or.inr ⟨by kernel_rfl, rfl⟩) (by assumption) ?_
        try simp only [Act.put, List.setIfInBounds_toArray, List.set_cons_zero, List.set_cons_succ]
        refine wpAnyH_take (i := 14) (v := undef) rfl (by kernel_rfl) (by kernel_rfl) (by kernel_rfl) (fun _ _ _ h => h) (Or.inr ⟨by kernel_rfl, rfl⟩) (by assumption) ?_
        try simp only [Act.put, List.setIfInBounds_toArray, List.set_cons_zero, List.set_cons_succ]
        refine wpAnyH_take (i := 15) (v := undef) rfl (by kernel_rfl) (by kernel_rfl) (by kernel_rfl) (fun _ _ _ h => h) (Or.inr ⟨by kernel_rfl, rfl⟩) (by assumption) ?_
        try simp only [Act.put, List.setIfInBounds_toArray, List.set_cons_zero, List.set_cons_succ]
        refine wpAnyH_take (i := 16) (v := undef) rfl (by kernel_rfl) (by kernel_rfl) (by kernel_rfl) (fun _ _ _ h => h) (Or.inr ⟨by kernel_rfl, rfl⟩) (by assumption) ?_
        try simp only [Act.put, List.setIfInBounds_toArray, List.set_cons_zero, List.set_cons_succ]
        refine wpAnyH_take (i := 17) (v := ?_) rfl (by kernel_rfl) (by kernel_rfl) (by kernel_rfl) (fun _ _ _ h => h) (Or.inl ⟨by kernel_rfl, ?_⟩) (by assumption) ?_
        rotate_left
        · intro w hSw; (try dsimp only at hSw); go_simp; try with_reducible rfl
        try simp only [Act.put, List.setIfInBounds_toArray, List.set_cons_zero, List.set_cons_succ]
        refine wpAnyH_take (i := 18) (v := ?_) rfl (by kernel_rfl) (by kernel_rfl) (by kernel_rfl) (fun _ _ _ h => h) (Or.inl ⟨by kernel_rfl, ?_⟩) (by assumption) ?_
        rotate_left
        · intro w hSw; (try dsimp only at hSw); go_simp; try with_reducible rfl
        try simp only [Act.put, List.setIfInBounds_toArray, List.set_cons_zero, List.set_cons_succ]
        refine wpAnyH_take (i := 19) (v := ?_) rfl (by kernel_rfl) (by kernel_rfl) (by kernel_rfl) (fun _ _ _ h => h) (Or.inl ⟨by kernel_rfl, ?_⟩) (by assumption) ?_
        rotate_left
        · intro w hSw; (try dsimp only at hSw); go_simp; try with_reducible rfl
        try simp only [Act.put, List.setIfInBounds_toArray, List.set_cons_zero, List.set_cons_succ]
        refine wpAnyH_take (i := 20) (v := ?_) rfl (by kernel_rfl) (by kernel_rfl) (by kernel_rfl) (fun _ _ _ h => h) (Or.inl ⟨by kernel_rfl, ?_⟩) (by assumption) ?_
        rotate_left
        · intro w hSw; (try dsimp only at hSw); go_simp; try with_reducible rfl
        try simp only [Act.put, List.setIfInBounds_toArray, List.set_cons_zero, List.set_cons_succ]
        refine wpAnyH_take (i := 21) (v := ?_) rfl (by kernel_rfl) (by kernel_rfl) (by kernel_rfl) (fun _ _ _ h => h) (Or.inl ⟨by kernel_rfl, ?_⟩) (by assumption) ?_
        rotate_left
        · intro w hSw; (try dsimp only at hSw); go_simp; try with_reducible rfl
        try simp only [Act.put, List.setIfInBounds_toArray, List.set_cons_zero, List.set_cons_succ]
        refine wpAnyH_take (i := 22) (v := ?_) rfl (by kernel_rfl) (by kernel_rfl) (by kernel_rfl) (fun _ _ _ h => h) (Or.inl ⟨by kernel_rfl, ?_⟩) (by assumption) ?_
        rotate_left
        · intro w hSw; (try dsimp only at hSw); go_simp; try with_reducible rfl
        try simp only [Act.put, List.setIfInBounds_toArray, List.set_cons_zero, List.set_cons_succ]
        refine wpAnyH_take (i := 23) (v := ?_) rfl (by kernel_rfl) (by kernel_rfl) (by kernel_rfl) (fun _ _ _ h => h) (Or.inl ⟨by kernel_rfl, ?_⟩) (by assumption) ?_
        rotate_left
        · intro w hSw; (try dsimp only at hSw); go_simp; try with_reducible rfl
        try simp only [Act.put, List.setIfInBounds_toArray, List.set_cons_zero, List.set_cons_succ]
        refine wpAnyH_take (i := 25) (v := ?_) rfl (by kernel_rfl) (by kernel_rfl) (by kernel_rfl) (fun _ _ _ h => h) (Or.inl ⟨by kernel_rfl, ?_⟩) (by assumption) ?_
        rotate_left
        · intro w hSw; (try dsimp only at hSw); go_simp; try with_reducible rfl
        try simp only [Act.put, List.setIfInBounds_toArray, List.set_cons_zero, List.set_cons_succ]
        refine wpAnyH_take (i := 26) (v := ?_) rfl (by kernel_rfl) (by kernel_rfl) (by kernel_rfl) (fun _ _ _ h => h) (Or.inl ⟨by kernel_rfl, ?_⟩) (by assumption) ?_
        rotate_left
        · intro w hSw; (try dsimp only at hSw); go_simp; try with_reducible rfl
        try simp only [Act.put, List.setIfInBounds_toArray, List.set_cons_zero, List.set_cons_succ]
        refine wpAnyH_take (i := 27) (v := ?_) rfl (by kernel_rfl) (by kernel_rfl) (by kernel_rfl) (fun _ _ _ h => h) (Or.inl ⟨by kernel_rfl, ?_⟩) (by assumption) ?_
        rotate_left
        · intro w hSw; (try dsimp only at hSw); go_simp; try with_reducible rfl
        try simp only [Act.put, List.setIfInBounds_toArray, List.set_cons_zero, List.set_cons_succ]
        refine wpAnyH_take (i := 28) (v := ?_) rfl (by kernel_rfl) (by kernel_rfl) (by kernel_rfl) (fun _ _ _ h => h) (Or.inl ⟨by kernel_rfl, ?_⟩) (by assumption) ?_
        rotate_left
        · intro w hSw; (try dsimp only at hSw); go_simp; try with_reducible rfl
        try simp only [Act.put, List.setIfInBounds_toArray, List.set_cons_zero, List.set_cons_succ]
        refine wpAnyH_ready (rs := [24]) (by kernel_rfl) (by simp) ?_
        refine AllReadyH.cons rfl (fun K hK => ?_) AllReadyH.nil
        go_simp
        go_wp2_with (((with_reducible refine (HAa.out _ hst2).mono ?_); rintro e x4 ⟨rfl, hb4⟩; have hs4 := hst2.trans (hb4.mono hst2.size)))
        refine hK.out _ _ hs4 (fun hHeld => ?_)
        clear hK K
        try simp only [Act.put, List.setIfInBounds_toArray, List.set_cons_zero, List.set_cons_succ]
        refine wpAnyH_ready (rs := [29]) (by kernel_rfl) (by simp) ?_
        refine AllReadyH.cons rfl (fun K hK => ?_) AllReadyH.nil
        go_simp
        go_wp2_with (((with_reducible refine (HAb.out _ hs4).mono ?_); rintro e x5 ⟨rfl, hb5⟩; have hs5 := hs4.trans (hb5.mono hs4.size)))
        refine hK.out _ _ hs5 (fun hHeld => ?_)
        clear hK K
        try simp only [Act.put, List.setIfInBounds_toArray, List.set_cons_zero, List.set_cons_succ]
        refine wpAnyH_take (i := 30) (v := ?_) rfl (by kernel_rfl) (by kernel_rfl) (by kernel_rfl) (fun _ _ _ h => h) (Or.inl ⟨by kernel_rfl, ?_⟩) (by assumption) ?_
        rotate_left
        · intro w hSw; (try dsimp only at hSw); go_simp; try with_reducible rfl
        try simp only [Act.put, List.setIfInBounds_toArray, List.set_cons_zero, List.set_cons_succ]
        refine wpAnyH_take (i := 31) (v := ?_) rfl (by kernel_rfl) (by kernel_rfl) (by kernel_rfl) (fun _ _ _ h => h) (Or.inl ⟨by kernel_rfl, ?_⟩) (by assumption) ?_
        rotate_left
        · intro w hSw; (try dsimp only at hSw); go_simp; try with_reducible rfl
        try simp only [Act.put, List.setIfInBounds_toArray, List.set_cons_zero, List.set_cons_succ]
        refine wpAnyH_done (by kernel_rfl) ?_ _
        have HT8 := Lib.hid (HT7.out.below hs5)
        have HR8 := Lib.hid (HR7.out.below hs5)
        have HB8 := Lib.hid (HB7.out.trans (hs5.mono HB7.out.size))
        clear hHeld hst2 hs4 hs5 hb4 hb5 HAa HAb HT7 HR7 HB7
        go_wp2_with fail
        go_roundw
        case rel => exact ⟨j + 1, s2, _, _, _, _, _, by omega, by go_num, hs2, HT8, HR8, HD5, HF5, HB8.out⟩
        case measure => simp [RowKit.intOf]; omega
      | true =>
        obtain ⟨n1, n2⟩ := nodeB_iff.1 hy
        obtain ⟨k, hk⟩ : ∃ k : Nat, ma - 2 = (k : Int) := ⟨(ma - 2).toNat, by omega⟩
        have hkl : k < s2.L.length := by omega
        obtain ⟨A5, ca5, hv5, hle5, hmx5, hc5⟩ := HR6.out.nodes
        obtain ⟨g5, rfl, hg5, hcell5⟩ := hc5 (by omega)
        have hcc := hcell5 k hkl
        have d2 : decide (2 ≤ ma) = true := decide_eq_true n1
        have k0 : (0 : Int) ≤ k := by omega
        have k1 : (k : Int) < s2.L.length := by omega
        have hwk : IntKind.i64.wrap (ma - 2) = k := by rw [IntKind.wrap_i64]; omega
        have hwk2 : IntKind.i64.wrap (k : Int) = k := by rw [IntKind.wrap_i64]; omega
        have HG := Lib.hid (get_yes ma hm1 hm2 HT6.out.tb hy)
        rw [at_get hk hkl] at HG
        clear hk
        generalize s2.L[k].v = y1 at *
        generalize s2.L[k].lo = y2 at *
        generalize s2.L[k].hi = y3 at *
        have hne := fun w => neN y1 y2 y3 w
        have HCC := Lib.hid hcc
        have HG5 := Lib.hid hg5
        clear hy h0a h0b n1 n2 hcell5 hc5 hcc hkl hg5
        go_wp2_with fail
        refine HG.out.mono ?_
        rintro e x2 ⟨rfl, hb2⟩
        have hbx2 := (Below.refl x2.heap.size x2).alloc (Nat.le_refl _) (.cells #[.int .i64 y1, .int .i64 y2, .int .i64 y3] 28)
        have hx2 := heap_alloc_new x2 (.cells #[.int .i64 y1, .int .i64 y2, .int .i64 y3] 28)
        have hz2 : x2.heap.size < (x2.alloc (.cells #[.int .i64 y1, .int .i64 y2, .int .i64 y3] 28)).heap.size := by simp
        have hb3 := hb2.trans (hbx2.mono hb2.size)
        go_wp2_with fail
        generalize hW3 : x2.alloc (.cells #[.int .i64 y1, .int .i64 y2, .int .i64 y3] 28) = x3 at *
        have HT7 := Lib.hid (HT6.out.below hb3)
        have HR7 := Lib.hid (HR6.out.below hb3)
        have HB7 := Lib.hid (HB6.out.trans (hb3.mono HB6.out.size))
        have HAa := Lib.hid (fun wx (h : Below x3.heap.size x3 wx) => at__ ma hm1 hm2 j (by omega) (HT7.out.below h))
        have HAb := Lib.hid (fun wx (h : Below x3.heap.size x3 wx) => atR j (by omega) ma (HR7.out.below h))
        generalize ev s2.L (fun i => j.testBit i) ma = ea at *
        obtain ⟨bg, hbg⟩ : ∃ bg, x2.heap.size = bg := ⟨_, rfl⟩
        obtain ⟨n5, hn5⟩ : ∃ n5, s2.L.length = n5 := ⟨_, rfl⟩
        rw [hn5] at k1 hv5 hle5
        have HZ2 : Hid (∀ x', Below x3.heap.size x3 x' → Below x3.heap.size x3 x' ∧ (∀ o, x'.cell? ⟨bg, o, none⟩ = (#[.int .i64 y1, .int .i64 y2, .int .i64 y3] : Array Value)[o]?) ∧ (∀ o, x'.cell? ⟨C, o, none⟩ = (#[.int .i64 s2.vars, .int .i64 s2.budget, .slice (some ⟨g5, 0, none⟩) n5 ca5, .bool s2.spent] : Array Value)[o]?) ∧ x'.cell? ⟨g5, k * 3, none⟩ = some (.int .i64 y1) ∧ x'.cell? ⟨g5, k * 3 + 1, none⟩ = some (.int .i64 y2) ∧ x'.cell? ⟨g5, k * 3 + 2, none⟩ = some (.int .i64 y3)) := Lib.hid (fun x' hb => ⟨hb, fun o => by rw [← hbg]; exact Lib.cell_of_heap ((hb.block _ hz2).trans hx2) o, fun o => by rw [← hv5]; exact Lib.cell_of_heap ((hb.block C HR7.out.bl).trans HR7.out.fb) o, by
          have e2 : ∀ o, x'.cell? ⟨g5, o, none⟩ = x3.cell? ⟨g5, o, none⟩ := fun o => hb.cell (p := ⟨g5, o, none⟩) (Nat.lt_of_lt_of_le HG5.out hb3.size)
          have e1 : ∀ o, x3.cell? ⟨g5, o, none⟩ = _ := fun o => hb3.cell (p := ⟨g5, o, none⟩) HG5.out
          rw [e2, e2, e2, e1, e1, e1]
          exact HCC.out⟩)
        have hst2 := HZ2.out _ ((Below.refl x3.heap.size x3).drew)
        simp only [hbg]
        clear hv5 hb2 hb3 hbx2 hx2 hz2 hW3 hbg HG HT6 HR6 HB6 HCC HG5 hn5
        go_region_held3 (fun x' => Below x3.heap.size x3 x' ∧ (∀ o, x'.cell? ⟨bg, o, none⟩ = (#[.int .i64 y1, .int .i64 y2, .int .i64 y3] : Array Value)[o]?) ∧ (∀ o, x'.cell? ⟨C, o, none⟩ = (#[.int .i64 s2.vars, .int .i64 s2.budget, .slice (some ⟨g5, 0, none⟩) n5 ca5, .bool s2.spent] : Array Value)[o]?) ∧ x'.cell? ⟨g5, k * 3, none⟩ = some (.int .i64 y1) ∧ x'.cell? ⟨g5, k * 3 + 1, none⟩ = some (.int .i64 y2) ∧ x'.cell? ⟨g5, k * 3 + 2, none⟩ = some (.int .i64 y3))
          (first | with_reducible exact hst2 | with_reducible assumption | exact HZ2.out _ (Below.trans (by apply And.left; with_reducible assumption) (Below.mono (by with_reducible assumption) (Below.size (by apply And.left; with_reducible assumption)))))
          (first | ((with_reducible refine (HAa.out _ (by apply And.left; with_reducible assumption)).mono ?_); rintro e x4 ⟨rfl, hb4⟩) | ((with_reducible refine (HAb.out _ (by apply And.left; with_reducible assumption)).mono ?_); rintro e x5 ⟨rfl, hb5⟩))
        all_goals
          rename_i hHeld2
          have HT8 := Lib.hid (HT7.out.below hHeld2.1)
          have HR8 := Lib.hid (HR7.out.below hHeld2.1)
          have HB8 := Lib.hid (HB7.out.trans (hHeld2.1.mono HB7.out.size))
          clear hHeld2 hst2 HZ2 HAa HAb HT7 HR7 HB7
          go_wp2_with fail
          go_roundw
          case rel => exact ⟨j + 1, s2, _, _, _, _, _, by omega, by go_num, hs2, HT8, HR8, HD5, HF5, HB8.out⟩
          case measure => simp [RowKit.intOf]; omega
    · have d1 : decide ((j : Int) < m) = false := by simp; omega
      have HB := Lib.hid hb
      clear hb hT hR hD hF
      go_wp2_with fail
      refine (HLV.out _).mono ?_
      rintro e x6 ⟨rfl, hb6⟩
      have HB6 := Lib.hid (HB.out.trans (hb6.mono HB.out.size))
      clear hb6
      go_wp2_with fail
      go_ret
      exact ⟨rfl, HB6.out⟩
end Go.Proofs.Ytekgegpholcdcaa.NdS
