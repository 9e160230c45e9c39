/- The walk of the law of plays. -/
import Derived.Test.YtmeiigcjfjapfaaDoorSetP
import Derived.Deep.RegionHeld3
import Derived.Deep.CutBlock
import Derived.Deep.LoopGhost
namespace Go.Proofs.YtmeiigcjfjapfaaDoor.SetW
open Go.RowKit Go.Lib Go.Proofs Go.Proofs.YtmeiigcjfjapfaaDoor.SetPop Go.Proofs.YtmeiigcjfjapfaaDoor.SetA Go.Proofs.YtmeiigcjfjapfaaDoor.SetB Go.Proofs.YtmeiigcjfjapfaaDoor.SetC Go.Proofs.YtmeiigcjfjapfaaDoor.SetD Go.Proofs.YtmeiigcjfjapfaaDoor.SetE Go.Proofs.YtmeiigcjfjapfaaDoor.SetF Go.Proofs.YtmeiigcjfjapfaaDoor.SetJ Go.Proofs.YtmeiigcjfjapfaaDoor.SetM Go.Proofs.YtmeiigcjfjapfaaDoor.SetN Go.Proofs.YtmeiigcjfjapfaaDoor.SetQ Go.Proofs.YtmeiigcjfjapfaaDoor.SetR Go.Proofs.YtmeiigcjfjapfaaDoor.SetP
set_option linter.unusedVariables false
set_option linter.unusedSimpArgs false
theorem wpAnyH_switch {P : Program} {md : Region.Mode} {ops : Array Oper} {Q : Exit → Act → World → Prop} {S S2 : World → Prop} (h : ∀ w, S2 w → S w) :
    ∀ (fuel : Nat) (listed : Array Bool) (a : Act) (w : World), wpAnyH P md ops Q S2 fuel listed a w → wpAnyH P md ops Q S fuel listed a w
  | 0, _, _, _, hh => hh
  | fuel + 1, _, _, _, hh => ⟨hh.1, fun i hi => wpOp_mono (fun a' w' h' => ⟨h _ h'.1, wpAnyH_switch h fuel _ a' w' h'.2⟩) (hh.2 i hi)⟩
theorem kept_cell {w w' : World} {X o : Nat} {v : Value} (h : w.cell? ⟨X, o, none⟩ = some v) (hb : Below w.heap.size w w') : w'.cell? ⟨X, o, none⟩ = some v :=
  (hb.cell (p := ⟨X, o, none⟩) (World.block_lt_of_cell? _ _ h)).trans h
theorem Below.next {W w1 w2 : World} (h : Below W.heap.size W w1) (hb : Below w1.heap.size w1 w2) : Below W.heap.size W w2 := h.trans (hb.mono h.size)
set_option maxHeartbeats 2000000 in
set_option maxRecDepth 100000 in
theorem plays (rows cols : Int) (A : Option Addr) (ca : Nat) (L : List (Int × Int)) (w : World) (hTab : Tab w) (hL : L.length ≤ maxLen) (hca : L.length ≤ ca) (hm : ca ≤ maxLen) (hA : PrG w A L) : Calls Tryd.prog 3 #[.int .i64 rows, .int .i64 cols, .slice A L.length ca] w fun e w' => e = .returned (.bool true) ∧ Below w.heap.size w w' := by
  unfold maxLen at hL hm
  obtain ⟨m, hmm⟩ : ∃ m, min L.length 60 = m := ⟨_, rfl⟩
  have HE : Hid ((if (60 : Int) < (L.length : Int) then (60 : Int) else (L.length : Int)) = (m : Int)) := Lib.hid (by split <;> omega)
  have hm60 : m ≤ 60 := by omega
  have hTl : (L.take m).length = m := by simp; omega
  have HA := Lib.hid (hA.take m)
  have HLV := Lib.hid lives
  have HTab := Lib.hid hTab
  clear hmm hA hTab
  generalize L.take m = T at *
  have HTl := Lib.hid hTl
  clear hTl
  go_enter Tryd.func3, Tryd.ntmps3
  go_upto_region 2 with fail
  rw [HE.out]
  generalize L.length = ln at *
  clear HE hL hca
  obtain ⟨n, hn⟩ : ∃ n, (within rows 5000).toNat = n := ⟨_, rfl⟩
  obtain ⟨c, hc⟩ : ∃ n, (within cols 1000).toNat = n := ⟨_, rfl⟩
  have HN := Lib.hid (new_ rows cols w)
  unfold NewPost at HN
  rw [hn, hc] at HN
  have HNR := Lib.hid (fun wx => newRef rows cols n c wx hn hc)
  unfold NewRPost at HNR
  have hc1000 : c ≤ 1000 := by have := within_le cols 1000 (by omega); omega
  clear hn hc
  go_wp2_with fail
  refine HN.out.mono ?_
  rintro e w1 ⟨B, R, rfl, hf, hb, hB, hR⟩
  have HF := Lib.hid hf
  have HB := Lib.hid hb
  have HR := Lib.hid hR
  clear hf hb hR hB
  go_wp2_with fail
  refine (HNR.out _).mono ?_
  rintro e w2 ⟨X, rfl, hrf, hb2⟩
  have HPl := Lib.hid (Pl.mk (W := w) (w := w2) (HB.out.trans (hb2.mono HB.out.size)) (HF.out.below hb2) hrf (Nat.le_refl _) HF.out.lt HR.out)
  have HI2 := Lib.hid (Inv.zero n c hc1000)
  clear hrf hb2 HF HB HNR HN HR
  generalize w1.heap.size = z at *
  go_wp2_with fail
  go_loopw [27] (fun i wr => ∃ (k : Nat) (M : List Nat) (K : List (Int × Int)), k ≤ m ∧ i = .int .i64 k ∧ Hid (Inv n c M K) ∧ Hid (K.length ≤ k) ∧ Hid (Pl w wr B R X z wr.heap.size n c M K)) (fun i _ => m - (intOf i).toNat)
  case atStart => exact ⟨0, _, [], by omega, rfl, HI2, Lib.hid (by simp), HPl⟩
  case round =>
    clear HPl HI2
    obtain ⟨k, M, K, hk, rfl, hinv, hKl, hpl⟩ := hrel
    by_cases hlt : k < m
    · have d1 : decide ((k : Int) < m) = true := by simp; omega
      have p0 : (0 : Int) ≤ k := by omega
      have p1 : (k : Int) < m := by omega
      have hkT : k < T.length := by rw [HTl.out]; exact hlt
      obtain ⟨g, o, rfl, hg, hcell⟩ := (HA.out.below hpl.out.bel) (by omega)
      obtain ⟨a0, a1⟩ := hcell k hkT
      generalize T[k].1 = x at *
      generalize T[k].2 = y at *
      have hbox : Below wr.heap.size wr (wr.alloc (.cells #[.int .i64 x, .int .i64 y] 27)) := (Below.refl _ wr).alloc (Nat.le_refl _) _
      have HP0 : Hid (Pl w (wr.alloc (.cells #[.int .i64 x, .int .i64 y] 27)).drew B R X z wr.heap.size n c M K) := Lib.hid ((hpl.out.below hbox).below (below_drew _ 1))
      have HX0 : Hid (Bx ((wr.alloc (.cells #[.int .i64 x, .int .i64 y] 27)).drew) wr.heap.size x y) := Lib.hid (heap_alloc_new wr _)
      have hu0 := HX0.out.two
      have HU0 := Lib.hid hu0
      have HA1 := Lib.hid (fun wx (h : Pl w wx B R X z wr.heap.size n c M K) h2 => cAdd h hinv.out wr.heap.size x y (Nat.le_refl _) h2)
      have HA2 := Lib.hid (fun wx (h : Pl w wx B R X z wr.heap.size n c (addN n c M x y) K) h2 => cAddR h (by have := hKl.out; omega) wr.heap.size x y (Nat.le_refl _) h2)
      have hinv2 := hinv.out.add x y
      have hKl2 := putL_len n c K x y
      have hKl3 := hKl.out
      generalize putL n c K x y = K2 at *
      generalize addN n c M x y = M2 at *
      have HA3 := Lib.hid (fun wx T (h : Pl w wx B R X z T n c M2 K2) => cHas h hinv2 x y)
      have HA4 := Lib.hid (fun wx T (h : Pl w wx B R X z T n c M2 K2) => cHasR h (by omega) x y)
      have HA5 := Lib.hid (fun wx T (h : Pl w wx B R X z T n c M2 K2) => cTotal h hinv2)
      have HIN := Lib.hid hinv2
      have HKL := Lib.hid (show K2.length ≤ k + 1 by omega)
      unfold PP at HA1 HA2
      unfold BoolPost at HA3 HA4
      unfold IntPost at HA5
      generalize (mayB n c x y && !hasL K x y) = bb at *
      generalize hasL K2 x y = hh at *
      clear hcell hbox hinv2 hinv hKl hKl2 hKl3 hpl hu0
      go_upto_region 8 with fail
      go_cut [71] from 32 to 131 (fun v wx => v = .bool false ∧ Hid (∃ T', Pl w wx B R X z T' n c M2 K2) ∧ Hid (Bx wx wr.heap.size x y))
      case first =>
        generalize wr.alloc (.cells #[.int .i64 x, .int .i64 y] 27) = w3 at *
        refine wp_region_held_drew (S := fun w' => ∀ o, w'.cell? ⟨wr.heap.size, o, none⟩ = (#[.int .i64 x, .int .i64 y] : Array Value)[o]?) (by kernel_rfl) HU0.out (fun hHeld => ?_)
        refine wpAnyH_take (i := 0) (v := ?_) rfl (by kernel_rfl) (by kernel_rfl) (by kernel_rfl) (fun _ _ _ h => h) (Or.inl ⟨by kernel_rfl, ?_⟩) (by assumption) ?_
        rotate_left
        · intro w hSw; (try dsimp only at hSw); go_simp; try with_reducible rfl
        try simp only [Act.put, List.setIfInBounds_toArray, List.set_cons_zero, List.set_cons_succ]
        refine wpAnyH_take (i := 1) (v := ?_) rfl (by kernel_rfl) (by kernel_rfl) (by kernel_rfl) (fun _ _ _ h => h) (Or.inl ⟨by kernel_rfl, ?_⟩) (by assumption) ?_
        rotate_left
        · intro w hSw; (try dsimp only at hSw); go_simp; try with_reducible rfl
        try simp only [Act.put, List.setIfInBounds_toArray, List.set_cons_zero, List.set_cons_succ]
        refine wpAnyH_take (i := 2) (v := ?_) rfl (by kernel_rfl) (by kernel_rfl) (by kernel_rfl) (fun _ _ _ h => h) (Or.inl ⟨by kernel_rfl, ?_⟩) (by assumption) ?_
        rotate_left
        · intro w hSw; (try dsimp only at hSw); go_simp; try with_reducible rfl
        try simp only [Act.put, List.setIfInBounds_toArray, List.set_cons_zero, List.set_cons_succ]
        refine wpAnyH_take (i := 3) (v := ?_) rfl (by kernel_rfl) (by kernel_rfl) (by kernel_rfl) (fun _ _ _ h => h) (Or.inl ⟨by kernel_rfl, ?_⟩) (by assumption) ?_
        rotate_left
        · intro w hSw; (try dsimp only at hSw); go_simp; try with_reducible rfl
        try simp only [Act.put, List.setIfInBounds_toArray, List.set_cons_zero, List.set_cons_succ]
        refine wpAnyH_take (i := 4) (v := ?_) rfl (by kernel_rfl) (by kernel_rfl) (by kernel_rfl) (fun _ _ _ h => h) (Or.inl ⟨by kernel_rfl, ?_⟩) (by assumption) ?_
        rotate_left
        · intro w hSw; (try dsimp only at hSw); go_simp; try with_reducible rfl
        try simp only [Act.put, List.setIfInBounds_toArray, List.set_cons_zero, List.set_cons_succ]
        refine wpAnyH_take (i := 6) (v := ?_) rfl (by kernel_rfl) (by kernel_rfl) (by kernel_rfl) (fun _ _ _ h => h) (Or.inl ⟨by kernel_rfl, ?_⟩) (by assumption) ?_
        rotate_left
        · intro w hSw; (try dsimp only at hSw); go_simp; try with_reducible rfl
        try simp only [Act.put, List.setIfInBounds_toArray, List.set_cons_zero, List.set_cons_succ]
        refine wpAnyH_take (i := 7) (v := ?_) rfl (by kernel_rfl) (by kernel_rfl) (by kernel_rfl) (fun _ _ _ h => h) (Or.inl ⟨by kernel_rfl, ?_⟩) (by assumption) ?_
        rotate_left
        · intro w hSw; (try dsimp only at hSw); go_simp; try with_reducible rfl
        try simp only [Act.put, List.setIfInBounds_toArray, List.set_cons_zero, List.set_cons_succ]
        refine wpAnyH_take (i := 8) (v := ?_) rfl (by kernel_rfl) (by kernel_rfl) (by kernel_rfl) (fun _ _ _ h => h) (Or.inl ⟨by kernel_rfl, ?_⟩) (by assumption) ?_
        rotate_left
        · intro w hSw; (try dsimp only at hSw); go_simp; try with_reducible rfl
        try simp only [Act.put, List.setIfInBounds_toArray, List.set_cons_zero, List.set_cons_succ]
        refine wpAnyH_take (i := 9) (v := ?_) rfl (by kernel_rfl) (by kernel_rfl) (by kernel_rfl) (fun _ _ _ h => h) (Or.inl ⟨by kernel_rfl, ?_⟩) (by assumption) ?_
        rotate_left
        · intro w hSw; (try dsimp only at hSw); go_simp; try with_reducible rfl
        try simp only [Act.put, List.setIfInBounds_toArray, List.set_cons_zero, List.set_cons_succ]
        refine wpAnyH_take (i := 10) (v := ?_) rfl (by kernel_rfl) (by kernel_rfl) (by kernel_rfl) (fun _ _ _ h => h) (Or.inl ⟨by kernel_rfl, ?_⟩) (by assumption) ?_
        rotate_left
        · intro w hSw; (try dsimp only at hSw); go_simp; try with_reducible rfl
        try simp only [Act.put, List.setIfInBounds_toArray, List.set_cons_zero, List.set_cons_succ]
        refine wpAnyH_ready (rs := [5]) (by kernel_rfl) (by simp) ?_
        refine AllReadyH.cons rfl (fun K hK => ?_) AllReadyH.nil
        go_simp
        go_wp2_with (((with_reducible refine (HA1.out _ HP0.out HX0.out).mono ?_); rintro e w4 ⟨rfl, hp1, hx1⟩))
        refine hK.out _ _ hx1.two (fun hHeld => ?_)
        clear hK K
        try simp only [Act.put, List.setIfInBounds_toArray, List.set_cons_zero, List.set_cons_succ]
        refine wpAnyH_ready (rs := [11]) (by kernel_rfl) (by simp) ?_
        refine AllReadyH.cons rfl (fun K hK => ?_) AllReadyH.nil
        go_simp
        go_wp2_with (((with_reducible refine (HA2.out _ hp1 hx1).mono ?_); rintro e w5 ⟨rfl, hp2, hx2⟩))
        refine hK.out _ _ hx2.two (fun hHeld => ?_)
        clear hK K
        try simp only [Act.put, List.setIfInBounds_toArray, List.set_cons_zero, List.set_cons_succ]
        obtain ⟨A4, ca4, k4⟩ := hp2.in_
        have hS2 : (∀ o, w5.cell? ⟨wr.heap.size, o, none⟩ = (#[.int .i64 x, .int .i64 y] : Array Value)[o]?) ∧ w5.cell? ⟨X, 2, none⟩ = some (.slice A4 K2.length ca4) := ⟨hx2.two, k4⟩
        refine wpAnyH_switch (S2 := fun w' => (∀ o, w'.cell? ⟨wr.heap.size, o, none⟩ = (#[.int .i64 x, .int .i64 y] : Array Value)[o]?) ∧ w'.cell? ⟨X, 2, none⟩ = some (.slice A4 K2.length ca4)) (fun w h => h.1) _ _ _ _ ?_
        refine wpAnyH_take (i := 12) (v := ?_) rfl (by kernel_rfl) (by kernel_rfl) (by kernel_rfl) (fun _ _ _ h => h) (Or.inl ⟨by kernel_rfl, ?_⟩) (by assumption) ?_
        rotate_left
        · intro w hSw; (try dsimp only at hSw); go_simp; try with_reducible rfl
        try simp only [Act.put, List.setIfInBounds_toArray, List.set_cons_zero, List.set_cons_succ]
        refine wpAnyH_take (i := 13) (v := ?_) rfl (by kernel_rfl) (by kernel_rfl) (by kernel_rfl) (fun _ _ _ h => h) (Or.inl ⟨by kernel_rfl, ?_⟩) (by assumption) ?_
        rotate_left
        · intro w hSw; (try dsimp only at hSw); go_simp; try with_reducible rfl
        try simp only [Act.put, List.setIfInBounds_toArray, List.set_cons_zero, List.set_cons_succ]
        refine wpAnyH_take (i := 14) (v := ?_) rfl (by kernel_rfl) (by kernel_rfl) (by kernel_rfl) (fun _ _ _ h => h) (Or.inl ⟨by kernel_rfl, ?_⟩) (by assumption) ?_
        rotate_left
        · intro w hSw; (try dsimp only at hSw); go_simp; try with_reducible rfl
        try simp only [Act.put, List.setIfInBounds_toArray, List.set_cons_zero, List.set_cons_succ]
        refine wpAnyH_take (i := 15) (v := ?_) rfl (by kernel_rfl) (by kernel_rfl) (by kernel_rfl) (fun _ _ _ h => h) (Or.inl ⟨by kernel_rfl, ?_⟩) (by assumption) ?_
        rotate_left
        · intro w hSw; (try dsimp only at hSw); go_simp; try with_reducible rfl
        try simp only [Act.put, List.setIfInBounds_toArray, List.set_cons_zero, List.set_cons_succ]
        refine wpAnyH_take (i := 16) (v := ?_) rfl (by kernel_rfl) (by kernel_rfl) (by kernel_rfl) (fun _ _ _ h => h) (Or.inl ⟨by kernel_rfl, ?_⟩) (by assumption) ?_
        rotate_left
        · intro w hSw; (try dsimp only at hSw); go_simp; try with_reducible rfl
        try simp only [Act.put, List.setIfInBounds_toArray, List.set_cons_zero, List.set_cons_succ]
        refine wpAnyH_take (i := 17) (v := ?_) rfl (by kernel_rfl) (by kernel_rfl) (by kernel_rfl) (fun _ _ _ h => h) (Or.inl ⟨by kernel_rfl, ?_⟩) (by assumption) ?_
        rotate_left
        · intro w hSw; (try dsimp only at hSw); go_simp; try with_reducible rfl
        try simp only [Act.put, List.setIfInBounds_toArray, List.set_cons_zero, List.set_cons_succ]
        refine wpAnyH_take (i := 18) (v := ?_) rfl (by kernel_rfl) (by kernel_rfl) (by kernel_rfl) (fun _ _ _ h => h) (Or.inl ⟨by kernel_rfl, ?_⟩) (by assumption) ?_
        rotate_left
        · intro w hSw; (try dsimp only at hSw); go_simp; try with_reducible rfl
        try simp only [Act.put, List.setIfInBounds_toArray, List.set_cons_zero, List.set_cons_succ]
        refine wpAnyH_take (i := 21) (v := ?_) rfl (by kernel_rfl) (by kernel_rfl) (by kernel_rfl) (fun _ _ _ h => h) (Or.inl ⟨by kernel_rfl, ?_⟩) (by assumption) ?_
        rotate_left
        · intro w hSw; (try dsimp only at hSw); go_simp; try with_reducible rfl
        try simp only [Act.put, List.setIfInBounds_toArray, List.set_cons_zero, List.set_cons_succ]
        refine wpAnyH_take (i := 22) (v := ?_) rfl (by kernel_rfl) (by kernel_rfl) (by kernel_rfl) (fun _ _ _ h => h) (Or.inl ⟨by kernel_rfl, ?_⟩) (by assumption) ?_
        rotate_left
        · intro w hSw; (try dsimp only at hSw); go_simp; try with_reducible rfl
        try simp only [Act.put, List.setIfInBounds_toArray, List.set_cons_zero, List.set_cons_succ]
        refine wpAnyH_take (i := 23) (v := ?_) rfl (by kernel_rfl) (by kernel_rfl) (by kernel_rfl) (fun _ _ _ h => h) (Or.inl ⟨by kernel_rfl, ?_⟩) (by assumption) ?_
        rotate_left
        · intro w hSw; (try dsimp only at hSw); go_simp; try with_reducible rfl
        try simp only [Act.put, List.setIfInBounds_toArray, List.set_cons_zero, List.set_cons_succ]
        refine wpAnyH_take (i := 24) (v := ?_) rfl (by kernel_rfl) (by kernel_rfl) (by kernel_rfl) (fun _ _ _ h => h) (Or.inl ⟨by kernel_rfl, ?_⟩) (by assumption) ?_
        rotate_left
        · intro w hSw; (try dsimp only at hSw); go_simp; try with_reducible rfl
        try simp only [Act.put, List.setIfInBounds_toArray, List.set_cons_zero, List.set_cons_succ]
        refine wpAnyH_take (i := 25) (v := ?_) rfl (by kernel_rfl) (by kernel_rfl) (by kernel_rfl) (fun _ _ _ h => h) (Or.inl ⟨by kernel_rfl, ?_⟩) (by assumption) ?_
        rotate_left
        · intro w hSw; (try dsimp only at hSw); go_simp; try with_reducible rfl
        try simp only [Act.put, List.setIfInBounds_toArray, List.set_cons_zero, List.set_cons_succ]
        refine wpAnyH_ready (rs := [19]) (by kernel_rfl) (by simp) ?_
        refine AllReadyH.cons rfl (fun K hK => ?_) AllReadyH.nil
        go_simp
        go_wp2_with (((with_reducible refine (HA3.out _ _ hp2).mono ?_); rintro e w6 ⟨rfl, hb3⟩))
        refine hK.out _ _ ⟨(hx2.below hb3).two, kept_cell k4 hb3⟩ (fun hHeld => ?_)
        clear hK K
        try simp only [Act.put, List.setIfInBounds_toArray, List.set_cons_zero, List.set_cons_succ]
        have hp3 := hp2.below hb3
        have hx3 := hx2.below hb3
        have k5 := kept_cell k4 hb3
        have hS3 : (∀ o, w6.cell? ⟨wr.heap.size, o, none⟩ = (#[.int .i64 x, .int .i64 y] : Array Value)[o]?) ∧ w6.cell? ⟨X, 2, none⟩ = some (.slice A4 K2.length ca4) := ⟨hx3.two, k5⟩
        refine wpAnyH_take (i := 20) (v := ?_) rfl (by kernel_rfl) (by kernel_rfl) (by kernel_rfl) (fun _ _ _ h => h) (Or.inl ⟨by kernel_rfl, ?_⟩) (by assumption) ?_
        rotate_left
        · intro w hSw; (try dsimp only at hSw); go_simp; try with_reducible rfl
        try simp only [Act.put, List.setIfInBounds_toArray, List.set_cons_zero, List.set_cons_succ]
        refine wpAnyH_ready (rs := [26]) (by kernel_rfl) (by simp) ?_
        refine AllReadyH.cons rfl (fun K hK => ?_) AllReadyH.nil
        go_simp
        go_wp2_with (((with_reducible refine (HA4.out _ _ hp3).mono ?_); rintro e w7 ⟨rfl, hb4⟩))
        refine hK.out _ _ ⟨(hx3.below hb4).two, kept_cell k5 hb4⟩ (fun hHeld => ?_)
        clear hK K
        try simp only [Act.put, List.setIfInBounds_toArray, List.set_cons_zero, List.set_cons_succ]
        have hp4 := hp3.below hb4
        have hx4 := hx3.below hb4
        have k6 := kept_cell k5 hb4
        have hS4 : (∀ o, w7.cell? ⟨wr.heap.size, o, none⟩ = (#[.int .i64 x, .int .i64 y] : Array Value)[o]?) ∧ w7.cell? ⟨X, 2, none⟩ = some (.slice A4 K2.length ca4) := ⟨hx4.two, k6⟩
        refine wpAnyH_take (i := 27) (v := ?_) rfl (by kernel_rfl) (by kernel_rfl) (by kernel_rfl) (fun _ _ _ h => h) (Or.inl ⟨by kernel_rfl, ?_⟩) (by assumption) ?_
        rotate_left
        · intro w hSw; (try dsimp only at hSw); go_simp; try with_reducible rfl
        try simp only [Act.put, List.setIfInBounds_toArray, List.set_cons_zero, List.set_cons_succ]
        refine wpAnyH_take (i := 28) (v := ?_) rfl (by kernel_rfl) (by kernel_rfl) (by kernel_rfl) (fun _ _ _ h => h) (Or.inl ⟨by kernel_rfl, ?_⟩) (by assumption) ?_
        rotate_left
        · intro w hSw; (try dsimp only at hSw); go_simp; try with_reducible rfl
        try simp only [Act.put, List.setIfInBounds_toArray, List.set_cons_zero, List.set_cons_succ]
        refine wpAnyH_take (i := 29) (v := ?_) rfl (by kernel_rfl) (by kernel_rfl) (by kernel_rfl) (fun _ _ _ h => h) (Or.inl ⟨by kernel_rfl, ?_⟩) (by assumption) ?_
        rotate_left
        · intro w hSw; (try dsimp only at hSw); go_simp; try with_reducible rfl
        try simp only [Act.put, List.setIfInBounds_toArray, List.set_cons_zero, List.set_cons_succ]
        refine wpAnyH_take (i := 30) (v := ?_) rfl (by kernel_rfl) (by kernel_rfl) (by kernel_rfl) (fun _ _ _ h => h) (Or.inl ⟨by kernel_rfl, ?_⟩) (by assumption) ?_
        rotate_left
        · intro w hSw; (try dsimp only at hSw); go_simp; try with_reducible rfl
        try simp only [Act.put, List.setIfInBounds_toArray, List.set_cons_zero, List.set_cons_succ]
        refine wpAnyH_take (i := 31) (v := ?_) rfl (by kernel_rfl) (by kernel_rfl) (by kernel_rfl) (fun _ _ _ h => h) (Or.inl ⟨by kernel_rfl, ?_⟩) (by assumption) ?_
        rotate_left
        · intro w hSw; (try dsimp only at hSw); go_simp; try with_reducible rfl
        try simp only [Act.put, List.setIfInBounds_toArray, List.set_cons_zero, List.set_cons_succ]
        refine wpAnyH_take (i := 33) (v := ?_) rfl (by kernel_rfl) (by kernel_rfl) (by kernel_rfl) (fun _ _ _ h => h) (Or.inl ⟨by kernel_rfl, ?_⟩) (by assumption) ?_
        rotate_left
        · intro w hSw; (try dsimp only at hSw); go_simp; try with_reducible rfl
        try simp only [Act.put, List.setIfInBounds_toArray, List.set_cons_zero, List.set_cons_succ]
        refine wpAnyH_take (i := 34) (v := ?_) rfl (by kernel_rfl) (by kernel_rfl) (by kernel_rfl) (fun _ _ _ h => h) (Or.inl ⟨by kernel_rfl, ?_⟩) (by assumption) ?_
        rotate_left
        · intro w hSw; (try dsimp only at hSw); go_simp; try with_reducible rfl
        try simp only [Act.put, List.setIfInBounds_toArray, List.set_cons_zero, List.set_cons_succ]
        refine wpAnyH_take (i := 35) (v := ?_) rfl (by kernel_rfl) (by kernel_rfl) (by kernel_rfl) (fun _ _ _ h => h) (Or.inl ⟨by kernel_rfl, ?_⟩) (by assumption) ?_
        rotate_left
        · intro w hSw; (try dsimp only at hSw); go_simp; try with_reducible rfl
        try simp only [Act.put, List.setIfInBounds_toArray, List.set_cons_zero, List.set_cons_succ]
        refine wpAnyH_take (i := 36) (v := ?_) rfl (by kernel_rfl) (by kernel_rfl) (by kernel_rfl) (fun _ _ _ h => h) (Or.inl ⟨by kernel_rfl, ?_⟩) (by assumption) ?_
        rotate_left
        · intro w hSw; (try dsimp only at hSw); go_simp; try with_reducible rfl
        try simp only [Act.put, List.setIfInBounds_toArray, List.set_cons_zero, List.set_cons_succ]
        refine wpAnyH_take (i := 37) (v := ?_) rfl (by kernel_rfl) (by kernel_rfl) (by kernel_rfl) (fun _ _ _ h => h) (Or.inl ⟨by kernel_rfl, ?_⟩) (by assumption) ?_
        rotate_left
        · intro w hSw; (try dsimp only at hSw); go_simp; try with_reducible rfl
        try simp only [Act.put, List.setIfInBounds_toArray, List.set_cons_zero, List.set_cons_succ]
        refine wpAnyH_ready (rs := [32]) (by kernel_rfl) (by simp) ?_
        refine AllReadyH.cons rfl (fun K hK => ?_) AllReadyH.nil
        go_simp
        go_wp2_with (((with_reducible refine (HA5.out _ _ hp4).mono ?_); rintro e w8 ⟨rfl, hb5⟩))
        refine hK.out _ _ ⟨(hx4.below hb5).two, kept_cell k6 hb5⟩ (fun hHeld => ?_)
        clear hK K
        try simp only [Act.put, List.setIfInBounds_toArray, List.set_cons_zero, List.set_cons_succ]
        have hp5 := hp4.below hb5
        have hx5 := hx4.below hb5
        have hS5 : (∀ o, w8.cell? ⟨wr.heap.size, o, none⟩ = (#[.int .i64 x, .int .i64 y] : Array Value)[o]?) ∧ w8.cell? ⟨X, 2, none⟩ = some (.slice A4 K2.length ca4) := ⟨hx5.two, kept_cell k6 hb5⟩
        refine wpAnyH_ready (rs := [38]) (by kernel_rfl) (by simp) ?_
        refine AllReadyH.cons rfl (fun K hK => ?_) AllReadyH.nil
        go_simp
        refine hK.out _ _ hS5 (fun hHeld => ?_)
        clear hK K
        refine wpAnyH_ready (rs := [39]) (by kernel_rfl) (by simp) ?_
        refine AllReadyH.cons rfl (fun K hK => ?_) AllReadyH.nil
        go_simp
        refine hK.out _ _ hS5 (fun hHeld => ?_)
        clear hK K
        refine wpAnyH_done (by kernel_rfl) ?_ _
        all_goals (go_wp2_with fail; go_meet; exact ⟨rfl, Lib.hid ⟨_, hp5⟩, Lib.hid hx5⟩)
      case rest =>
        clear HA1 HA2 HA3 HA4 HA5 HP0 HX0 HU0
        obtain ⟨rfl, hpT, hxT⟩ := hcut
        obtain ⟨q, hq⟩ : ∃ q, (k + 1) % m = q := ⟨_, rfl⟩
        have hqm : q < m := by rw [← hq]; exact Nat.mod_lt _ (by omega)
        have r1 : ((k : Int) + 1).tmod (m : Int) = (q : Int) := by
          rw [Int.tmod_eq_emod_of_nonneg (by omega), ← hq]
          norm_cast
        have r2 : ((m : Int) == 0) = false := by simp; omega
        have q0 : (0 : Int) ≤ q := by omega
        have q1 : (q : Int) < m := by omega
        clear hq
        have hqT : q < T.length := by rw [HTl.out]; exact hqm
        obtain ⟨T2, hp⟩ := hpT.out
        obtain ⟨g', o', e', hg', hcell'⟩ := (HA.out.below hp.bel) (by omega)
        injection e' with e'
        injection e' with e1 e2
        subst e1; subst e2
        obtain ⟨b0, b1⟩ := hcell' q hqT
        generalize T[q].1 = x2 at *
        generalize T[q].2 = y2 at *
        have hbox : Below wc.heap.size wc (wc.alloc (.cells #[.int .i64 x2, .int .i64 y2] 27)) := (Below.refl _ wc).alloc (Nat.le_refl _) _
        have hp11 := hp.below hbox
        have hx11 := hxT.out.below hbox
        have hy11 : Bx (wc.alloc (.cells #[.int .i64 x2, .int .i64 y2] 27)) wc.heap.size x2 y2 := heap_alloc_new wc _
        have HP11 := Lib.hid (fun w' (hb : Below (wc.alloc (.cells #[.int .i64 x2, .int .i64 y2] 27)).heap.size (wc.alloc (.cells #[.int .i64 x2, .int .i64 y2] 27)) w') => hp11.below hb)
        have HS11 : Hid (∀ w', Below (wc.alloc (.cells #[.int .i64 x2, .int .i64 y2] 27)).heap.size (wc.alloc (.cells #[.int .i64 x2, .int .i64 y2] 27)) w' → Below (wc.alloc (.cells #[.int .i64 x2, .int .i64 y2] 27)).heap.size (wc.alloc (.cells #[.int .i64 x2, .int .i64 y2] 27)) w' ∧ (∀ o, w'.cell? ⟨wr.heap.size, o, none⟩ = (#[.int .i64 x, .int .i64 y] : Array Value)[o]?) ∧ (∀ o, w'.cell? ⟨wc.heap.size, o, none⟩ = (#[.int .i64 x2, .int .i64 y2] : Array Value)[o]?)) := Lib.hid (fun w' hb => ⟨hb, (hx11.below hb).two, (hy11.below hb).two⟩)
        have HTb := Lib.hid (fun w' (hb : Below w.heap.size w w') => HTab.out.below hb)
        have hKl := HKL.out
        have hinv := HIN.out
        have HL1 := Lib.hid (fun w' (h : Pl w w' B R X z T2 n c M2 K2) => cLen h hinv x)
        have HL2 := Lib.hid (fun w' (h : Pl w w' B R X z T2 n c M2 K2) => cListR h (by omega) hc1000 x)
        have HL3 := Lib.hid (fun w' (h : Pl w w' B R X z T2 n c M2 K2) => cInside h hinv x x2)
        have HL4 := Lib.hid (fun w' (h : Pl w w' B R X z T2 n c M2 K2) => cInsideR h (by omega) x x2)
        have HL5 := Lib.hid (fun w' (h : Pl w w' B R X z T2 n c M2 K2) => cMeets h hinv x x2)
        have HL6 := Lib.hid (fun w' (h : Pl w w' B R X z T2 n c M2 K2) => cMeetsR h (by omega) x x2)
        have HL7 := Lib.hid (fun w' (h : Pl w w' B R X z T2 n c M2 K2) => cList h hinv (HTb.out _ h.bel) x)
        have hll := listL_len c K2 x
        have HL8 := Lib.hid (fun A1 A2 c1 c2 w' h1 h2 => sameL A1 A2 c1 c2 (listL c K2 x) w' (by omega) h1 h2)
        generalize listL c K2 x = LL at *
        generalize insideL K2 x x2 = ii at *
        generalize meetsL K2 x x2 = mm at *
        unfold IntPost at HL1
        unfold RowPost at HL2 HL7
        unfold BoolPost at HL3 HL4 HL5 HL6 HL8
        clear hcell' hbox hp11 hx11 hy11 hinv hp hKl hg' hxT
        go_upto_region 11 with fail
        generalize wc.alloc (.cells #[.int .i64 x2, .int .i64 y2] 27) = w9 at *
        go_region_held3 (fun w' => Below w9.heap.size w9 w' ∧ (∀ o, w'.cell? ⟨wr.heap.size, o, none⟩ = (#[.int .i64 x, .int .i64 y] : Array Value)[o]?) ∧ (∀ o, w'.cell? ⟨wc.heap.size, o, none⟩ = (#[.int .i64 x2, .int .i64 y2] : Array Value)[o]?))
          (first | with_reducible assumption | exact HS11.out _ ((Below.refl _ _).drew) | exact HS11.out _ (SetW.Below.next (by apply And.left; with_reducible assumption) (by with_reducible assumption)))
          (first | ((with_reducible refine (HL1.out _ (HP11.out _ (by apply And.left; with_reducible assumption))).mono ?_); rintro e w' ⟨rfl, hb1⟩)
                 | ((with_reducible refine (HL2.out _ (HP11.out _ (by apply And.left; with_reducible assumption))).mono ?_); rintro e w' ⟨A2, ca2, rfl, hng2, hb2⟩; have hng1b := hng1.below hb2)
                 | ((with_reducible refine (HL2.out _ (HP11.out _ (by apply And.left; with_reducible assumption))).mono ?_); rintro e w' ⟨A2, ca2, rfl, hng2, hb2⟩)
                 | ((with_reducible refine (HL3.out _ (HP11.out _ (by apply And.left; with_reducible assumption))).mono ?_); rintro e w' ⟨rfl, hb3⟩)
                 | ((with_reducible refine (HL4.out _ (HP11.out _ (by apply And.left; with_reducible assumption))).mono ?_); rintro e w' ⟨rfl, hb4⟩)
                 | ((with_reducible refine (HL5.out _ (HP11.out _ (by apply And.left; with_reducible assumption))).mono ?_); rintro e w' ⟨rfl, hb5⟩)
                 | ((with_reducible refine (HL6.out _ (HP11.out _ (by apply And.left; with_reducible assumption))).mono ?_); rintro e w' ⟨rfl, hb6⟩)
                 | ((with_reducible refine (HL7.out _ (HP11.out _ (by apply And.left; with_reducible assumption))).mono ?_); rintro e w' ⟨A1, ca1, rfl, hng1, hb7⟩)
                 | ((with_reducible refine (HL8.out A1 A2 ca1 ca2 _ hng1b hng2).mono ?_); rintro e w' ⟨rfl, hb8⟩))
        all_goals
          rename_i hHeld
          have hpe := HP11.out _ hHeld.1
          have HPE := Lib.hid (hpe.mono hpe.sz (Nat.le_refl _))
          clear hpe hHeld
          go_wp2_with fail
          go_roundw
          case rel => exact ⟨k + 1, M2, K2, by omega, by go_num, HIN, HKL, HPE⟩
          case measure => simp [intOf]; omega
    · have d1 : decide ((k : Int) < m) = false := by simp; omega
      have h := hpl.out
      obtain ⟨x0, x1⟩ := h.rows
      have HS14 : Hid (∀ w', Below wr.heap.size wr w' → Below wr.heap.size wr w' ∧ Fam w' B R n c M ∧ w'.cell? ⟨X, 0, none⟩ = some (.int .i64 n) ∧ w'.cell? ⟨X, 1, none⟩ = some (.int .i64 c)) := Lib.hid (fun w' hb => ⟨hb, (h.below hb).fam, (h.below hb).rows⟩)
      have HRo := Lib.hid (fun w' (hf : Fam w' B R n c M) => SetB.rows B R n c M w' hf)
      have HCo := Lib.hid (fun w' (hf : Fam w' B R n c M) => SetB.cols B R n c M w' hf)
      have HBe := Lib.hid (fun w' hb => (h.below (w' := w') hb).bel)
      clear h x0 x1 hpl hinv hKl
      go_upto_region 14 with fail
      go_region_held3 (fun w' => Below wr.heap.size wr w' ∧ Fam w' B R n c M ∧ w'.cell? ⟨X, 0, none⟩ = some (.int .i64 n) ∧ w'.cell? ⟨X, 1, none⟩ = some (.int .i64 c))
        (first | with_reducible assumption | exact HS14.out _ ((Below.refl _ _).drew) | exact HS14.out _ (SetW.Below.next (by apply And.left; with_reducible assumption) (by with_reducible assumption)))
        (first | ((with_reducible refine (HRo.out _ (by apply And.left; apply And.right; with_reducible assumption)).mono ?_); rintro e w' ⟨rfl, rfl⟩)
               | ((with_reducible refine (HCo.out _ (by apply And.left; apply And.right; with_reducible assumption)).mono ?_); rintro e w' ⟨rfl, rfl⟩)
               | ((with_reducible refine (HLV.out _).mono ?_); rintro e w' ⟨rfl, hb8⟩))
      all_goals
        rename_i hHeld
        have HE := Lib.hid (HBe.out _ hHeld.1)
        clear hHeld
        go_wp2_with fail
        go_ret
        exact ⟨rfl, HE.out⟩
end Go.Proofs.YtmeiigcjfjapfaaDoor.SetW
