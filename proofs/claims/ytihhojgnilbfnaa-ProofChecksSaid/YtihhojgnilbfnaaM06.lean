/- The document's Check of any steps, by contract. -/
import Derived.Test.YtihhojgnilbfnaaM05
namespace Go.Proofs.Ytihhojgnilbfnaa.PfS8
set_option linter.unusedVariables false
set_option linter.unusedSimpArgs false
open Go.RowKit Go.Lib Go.Proofs Go.Maps Go.Proofs.Ytihhojgnilbfnaa.TblB Go.Proofs.Ytihhojgnilbfnaa.TblC Go.Proofs.Ytihhojgnilbfnaa.TblV Go.Proofs.Ytihhojgnilbfnaa.TblP Go.Proofs.Ytihhojgnilbfnaa.TblQ Go.Proofs.Ytihhojgnilbfnaa.SemB Go.Proofs.Ytihhojgnilbfnaa.PfM Go.Proofs.Ytihhojgnilbfnaa.PfN Go.Proofs.Ytihhojgnilbfnaa.PfO Go.Proofs.Ytihhojgnilbfnaa.PfB Go.Proofs.Ytihhojgnilbfnaa.PfE Go.Proofs.Ytihhojgnilbfnaa.PfJ Go.Proofs.Ytihhojgnilbfnaa.PfL Go.Proofs.Ytihhojgnilbfnaa.PfS1 Go.Proofs.Ytihhojgnilbfnaa.PfS3 Go.Proofs.Ytihhojgnilbfnaa.PfS7 Go.Proofs.Ytihhojgnilbfnaa.PfX
set_option linter.unusedVariables false
set_option linter.unusedSimpArgs false
set_option maxHeartbeats 2000000 in
set_option maxRecDepth 100000 in
theorem checkA (d0 d1 : Int) (A : Option Addr) (ca : Nat) (L : List Ru) (B : Option Addr) (cb : Nat) (T : List Sp) (w : World) (g1 : d0 ≤ 10) (g2 : d1 ≤ 6) (hL : L.length ≤ 60) (hT : T.length ≤ 10000) (hcb : T.length ≤ cb) (hA : UG w A L) (hB : TG w B T) :
    Calls Try.prog 8 #[.int .i64 d0, .int .i64 d1, .slice A L.length ca, .slice B T.length cb] w fun e w' => e = .returned (.bool (chk d0.toNat d1.toNat L [] T)) ∧ Below w.heap.size w w' := by
  have HA := Lib.hid (fun w' (hb : Below w.heap.size w w') => hB.below hb)
  have HK := Lib.hid (fun w' (hb : Below w.heap.size w w') (k : Nat) (hk : k < T.length) => by
    have h1 := hasD B cb (T.take k) T[k].role T[k].who w' (by rw [List.length_take]; omega) (tg_take (hB.below hb) k)
    have h2 := right_all d0 d1 A ca L B cb (T.take k) T[k].rule T[k].role T[k].who T[k].mid w' g1 g2 hL (by rw [List.length_take]; omega) (hA.below hb) (tg_take (hB.below hb) k)
    rw [List.length_take, Nat.min_eq_left (by omega)] at h1
    rw [List.length_take, Nat.min_eq_left (by omega)] at h2
    exact And.intro h1 h2)
  obtain ⟨ans, hans⟩ : ∃ b, chk d0.toNat d1.toNat L [] T = b := ⟨_, rfl⟩
  rw [hans]
  have HAns := Lib.hid hans
  clear hA hB hans
  go_enter Try.func8, Try.ntmps8
  go_wp2_with fail
  go_loopw [13] (fun i wr => ∃ k : Nat, k ≤ T.length ∧ i = .int .i64 k ∧ Below w.heap.size w wr ∧ Hid (chk d0.toNat d1.toNat L [] (T.take k) = true)) (fun i _ => T.length - (intOf i).toNat)
  case atStart => exact ⟨0, by omega, rfl, Below.refl _ _, Lib.hid rfl⟩
  case round =>
    obtain ⟨k, hk, rfl, hb, hch⟩ := hrel
    by_cases hlt : k < T.length
    · have e1 : decide ((k : Int) < T.length) = true := by simp; omega
      obtain ⟨g, o, rfl, hg, hc⟩ := HA.out _ hb (by omega)
      have hc2 := hc k hlt
      have HK2 := Lib.hid (fun w' (hb : Below w.heap.size w w') => HK.out w' hb k hlt)
      have hnx := chk_next hlt hch.out
      have HFail : Hid ((okS d0.toNat d1.toNat L (T.take k) T[k] && !hasS (T.take k) T[k].fa) = false → ans = false) := Lib.hid (fun h => by rw [← HAns.out]; exact chk_stop (k + 1) (by rw [hnx, h]))
      have HGood : Hid ((okS d0.toNat d1.toNat L (T.take k) T[k] && !hasS (T.take k) T[k].fa) = true → chk d0.toNat d1.toNat L [] (T.take (k + 1)) = true) := Lib.hid (fun h => by rw [hnx, h])
      have q0 : (0 : Int) ≤ k := by omega
      have q1 : (k : Int) < T.length := by omega
      have q2 : (k : Int) ≤ cb := by omega
      clear hc HK hnx hch
      generalize T[k] = s at *
      obtain ⟨s0, s1, s2, s3⟩ := s
      simp only [Sp.cells] at hc2
      simp only [Sp.fa] at HK2 HFail HGood
      have y0 : wr.cell? ⟨g, o + k * 4, none⟩ = some (.int .i64 s0) := hc2 0 (by omega)
      have y1 : wr.cell? ⟨g, o + k * 4 + 1, none⟩ = some (.int .i64 s1) := hc2 1 (by omega)
      have y2 : wr.cell? ⟨g, o + k * 4 + 2, none⟩ = some (.int .i64 s2) := hc2 2 (by omega)
      have y3 : wr.cell? ⟨g, o + k * 4 + 3, none⟩ = some (.int .i64 s3) := hc2 3 (by omega)
      clear hc2
      have hn := heap_alloc_new wr (.cells #[.int .i64 s0, .int .i64 s1, .int .i64 s2, .int .i64 s3] 30)
      have hbn := hb.alloc hb.size (.cells #[.int .i64 s0, .int .i64 s1, .int .i64 s2, .int .i64 s3] 30)
      have HS : Hid (∀ wA wB, (Below w.heap.size w wA ∧ wr.heap.size < wA.heap.size ∧ ∀ o, wA.cell? ⟨wr.heap.size, o, none⟩ = (#[.int .i64 s0, .int .i64 s1, .int .i64 s2, .int .i64 s3] : Array Value)[o]?) → Below wA.heap.size wA wB → Below w.heap.size w wB ∧ wr.heap.size < wB.heap.size ∧ ∀ o, wB.cell? ⟨wr.heap.size, o, none⟩ = (#[.int .i64 s0, .int .i64 s1, .int .i64 s2, .int .i64 s3] : Array Value)[o]?) := Lib.hid (fun wA wB h hh => ⟨nx h.1 hh, Nat.lt_of_lt_of_le h.2.1 hh.size, fun o => (hh.cell (p := ⟨wr.heap.size, o, none⟩) h.2.1).trans (h.2.2 o)⟩)
      have H0 := HS.out (wr.alloc (.cells #[.int .i64 s0, .int .i64 s1, .int .i64 s2, .int .i64 s3] 30)) ((wr.alloc (.cells #[.int .i64 s0, .int .i64 s1, .int .i64 s2, .int .i64 s3] 30)).drew) ⟨hbn, lt_of hn, fun o => Lib.cell_of_heap hn o⟩ ((Below.refl _ _).drew)
      have HH := Lib.hid (fun w' hb => (HK2.out w' hb).1)
      have HG := Lib.hid (fun w' hb => (HK2.out w' hb).2)
      clear HK2
      generalize okS d0.toNat d1.toNat L (T.take k) ⟨s0, s1, s2, s3⟩ = rb at *
      generalize hasS (T.take k) (s1, s2) = hh at *
      go_upto_region 4 with fail
      clear y0 y1 y2 y3
      cases hh with
      | true =>
        have HE := Lib.hid (HFail.out (by simp))
        refine wp_region_held_drew (S := fun w' => Below w.heap.size w w' ∧ wr.heap.size < w'.heap.size ∧ ∀ o, w'.cell? ⟨wr.heap.size, o, none⟩ = (#[.int .i64 s0, .int .i64 s1, .int .i64 s2, .int .i64 s3] : Array Value)[o]?) (by kernel_rfl) H0 (fun hHeld => ?_)
        refine wpAnyH_take (i := 0) (v := ?_) rfl (by kernel_rfl) (by kernel_rfl) (by kernel_rfl) (fun _ _ _ h => h) (Or.inl ⟨by kernel_rfl, ?_⟩) (by assumption) ?_
        rotate_left
        · intro w hSw; obtain ⟨_, _, hSw⟩ := hSw; (try dsimp only at hSw); go_simp; try with_reducible rfl
        try simp (config := { maxSteps := 2000000 }) only [Act.put, List.setIfInBounds_toArray, List.set_cons_zero, List.set_cons_succ, List.getElem_toArray, List.getElem_cons_succ, List.getElem_cons_zero]
        refine wpAnyH_take (i := 1) (v := ?_) rfl (by kernel_rfl) (by kernel_rfl) (by kernel_rfl) (fun _ _ _ h => h) (Or.inl ⟨by kernel_rfl, ?_⟩) (by assumption) ?_
        rotate_left
        · intro w hSw; obtain ⟨_, _, hSw⟩ := hSw; (try dsimp only at hSw); go_simp; try with_reducible rfl
        try simp (config := { maxSteps := 2000000 }) only [Act.put, List.setIfInBounds_toArray, List.set_cons_zero, List.set_cons_succ, List.getElem_toArray, List.getElem_cons_succ, List.getElem_cons_zero]
        refine wpAnyH_take (i := 2) (v := ?_) rfl (by kernel_rfl) (by kernel_rfl) (by kernel_rfl) (fun _ _ _ h => h) (Or.inl ⟨by kernel_rfl, ?_⟩) (by assumption) ?_
        rotate_left
        · intro w hSw; obtain ⟨_, _, hSw⟩ := hSw; (try dsimp only at hSw); go_simp; try with_reducible rfl
        try simp (config := { maxSteps := 2000000 }) only [Act.put, List.setIfInBounds_toArray, List.set_cons_zero, List.set_cons_succ, List.getElem_toArray, List.getElem_cons_succ, List.getElem_cons_zero]
        refine wpAnyH_take (i := 3) (v := ?_) rfl (by kernel_rfl) (by kernel_rfl) (by kernel_rfl) (fun _ _ _ h => h) (Or.inl ⟨by kernel_rfl, ?_⟩) (by assumption) ?_
        rotate_left
        · intro w hSw; obtain ⟨_, _, hSw⟩ := hSw; (try dsimp only at hSw); go_simp; try with_reducible rfl
        try simp (config := { maxSteps := 2000000 }) only [Act.put, List.setIfInBounds_toArray, List.set_cons_zero, List.set_cons_succ, List.getElem_toArray, List.getElem_cons_succ, List.getElem_cons_zero]
        refine wpAnyH_take (i := 4) (v := ?_) rfl (by kernel_rfl) (by kernel_rfl) (by kernel_rfl) (fun _ _ _ h => h) (Or.inl ⟨by kernel_rfl, ?_⟩) (by assumption) ?_
        rotate_left
        · intro w hSw; obtain ⟨_, _, hSw⟩ := hSw; (try dsimp only at hSw); go_simp; try with_reducible rfl
        try simp (config := { maxSteps := 2000000 }) only [Act.put, List.setIfInBounds_toArray, List.set_cons_zero, List.set_cons_succ, List.getElem_toArray, List.getElem_cons_succ, List.getElem_cons_zero]
        refine wpAnyH_take (i := 5) (v := ?_) rfl (by kernel_rfl) (by kernel_rfl) (by kernel_rfl) (fun _ _ _ h => h) (Or.inl ⟨by kernel_rfl, ?_⟩) (by assumption) ?_
        rotate_left
        · intro w hSw; obtain ⟨_, _, hSw⟩ := hSw; (try dsimp only at hSw); go_simp; try with_reducible rfl
        try simp (config := { maxSteps := 2000000 }) only [Act.put, List.setIfInBounds_toArray, List.set_cons_zero, List.set_cons_succ, List.getElem_toArray, List.getElem_cons_succ, List.getElem_cons_zero]
        refine wpAnyH_take (i := 6) (v := ?_) rfl (by kernel_rfl) (by kernel_rfl) (by kernel_rfl) (fun _ _ _ h => h) (Or.inl ⟨by kernel_rfl, ?_⟩) (by assumption) ?_
        rotate_left
        · intro w hSw; obtain ⟨_, _, hSw⟩ := hSw; (try dsimp only at hSw); go_simp; try with_reducible rfl
        try simp (config := { maxSteps := 2000000 }) only [Act.put, List.setIfInBounds_toArray, List.set_cons_zero, List.set_cons_succ, List.getElem_toArray, List.getElem_cons_succ, List.getElem_cons_zero]
        refine wpAnyH_ready (rs := [7]) (by kernel_rfl) (by simp) ?_
        refine AllReadyH.cons rfl (fun K hK => ?_) AllReadyH.nil
        go_simp
        go_wp2_with ((with_reducible refine ((HH.out _ hHeld.1)).mono ?_); rintro e wa ⟨rfl, hba⟩)
        refine hK.out _ _ (HS.out _ _ hHeld hba) (fun hHeld => ?_)
        clear hK K
        try simp (config := { maxSteps := 2000000 }) only [Act.put, List.setIfInBounds_toArray, List.set_cons_zero, List.set_cons_succ, List.getElem_toArray, List.getElem_cons_succ, List.getElem_cons_zero]
        refine wpAnyH_take (i := 8) (v := ?_) rfl (by kernel_rfl) (by kernel_rfl) (by kernel_rfl) (fun _ _ _ h => h) (Or.inl ⟨by kernel_rfl, ?_⟩) (by assumption) ?_
        rotate_left
        · intro w hSw; obtain ⟨_, _, hSw⟩ := hSw; (try dsimp only at hSw); go_simp; try with_reducible rfl
        try simp (config := { maxSteps := 2000000 }) only [Act.put, List.setIfInBounds_toArray, List.set_cons_zero, List.set_cons_succ, List.getElem_toArray, List.getElem_cons_succ, List.getElem_cons_zero]
        refine wpAnyH_take (i := 9) (v := undef) rfl (by kernel_rfl) (by kernel_rfl) (by kernel_rfl) (fun _ _ _ h => h) (Or.inr ⟨by kernel_rfl, rfl⟩) (by assumption) ?_
        try simp (config := { maxSteps := 2000000 }) only [Act.put, List.setIfInBounds_toArray, List.set_cons_zero, List.set_cons_succ, List.getElem_toArray, List.getElem_cons_succ, List.getElem_cons_zero]
        refine wpAnyH_take (i := 10) (v := undef) rfl (by kernel_rfl) (by kernel_rfl) (by kernel_rfl) (fun _ _ _ h => h) (Or.inr ⟨by kernel_rfl, rfl⟩) (by assumption) ?_
        try simp (config := { maxSteps := 2000000 }) only [Act.put, List.setIfInBounds_toArray, List.set_cons_zero, List.set_cons_succ, List.getElem_toArray, List.getElem_cons_succ, List.getElem_cons_zero]
        refine wpAnyH_take (i := 11) (v := undef) rfl (by kernel_rfl) (by kernel_rfl) (by kernel_rfl) (fun _ _ _ h => h) (Or.inr ⟨by kernel_rfl, rfl⟩) (by assumption) ?_
        try simp (config := { maxSteps := 2000000 }) only [Act.put, List.setIfInBounds_toArray, List.set_cons_zero, List.set_cons_succ, List.getElem_toArray, List.getElem_cons_succ, List.getElem_cons_zero]
        refine wpAnyH_take (i := 12) (v := undef) rfl (by kernel_rfl) (by kernel_rfl) (by kernel_rfl) (fun _ _ _ h => h) (Or.inr ⟨by kernel_rfl, rfl⟩) (by assumption) ?_
        try simp (config := { maxSteps := 2000000 }) only [Act.put, List.setIfInBounds_toArray, List.set_cons_zero, List.set_cons_succ, List.getElem_toArray, List.getElem_cons_succ, List.getElem_cons_zero]
        refine wpAnyH_take (i := 13) (v := undef) rfl (by kernel_rfl) (by kernel_rfl) (by kernel_rfl) (fun _ _ _ h => h) (Or.inr ⟨by kernel_rfl, rfl⟩) (by assumption) ?_
        try simp (config := { maxSteps := 2000000 }) only [Act.put, List.setIfInBounds_toArray, List.set_cons_zero, List.set_cons_succ, List.getElem_toArray, List.getElem_cons_succ, List.getElem_cons_zero]
        refine wpAnyH_take (i := 14) (v := undef) rfl (by kernel_rfl) (by kernel_rfl) (by kernel_rfl) (fun _ _ _ h => h) (Or.inr ⟨by kernel_rfl, rfl⟩) (by assumption) ?_
        try simp (config := { maxSteps := 2000000 }) only [Act.put, List.setIfInBounds_toArray, List.set_cons_zero, List.set_cons_succ, List.getElem_toArray, List.getElem_cons_succ, List.getElem_cons_zero]
        refine wpAnyH_take (i := 15) (v := undef) rfl (by kernel_rfl) (by kernel_rfl) (by kernel_rfl) (fun _ _ _ h => h) (Or.inr ⟨by kernel_rfl, rfl⟩) (by assumption) ?_
        try simp (config := { maxSteps := 2000000 }) only [Act.put, List.setIfInBounds_toArray, List.set_cons_zero, List.set_cons_succ, List.getElem_toArray, List.getElem_cons_succ, List.getElem_cons_zero]
        refine wpAnyH_take (i := 16) (v := undef) rfl (by kernel_rfl) (by kernel_rfl) (by kernel_rfl) (fun _ _ _ h => h) (Or.inr ⟨by kernel_rfl, rfl⟩) (by assumption) ?_
        try simp (config := { maxSteps := 2000000 }) only [Act.put, List.setIfInBounds_toArray, List.set_cons_zero, List.set_cons_succ, List.getElem_toArray, List.getElem_cons_succ, List.getElem_cons_zero]
        refine wpAnyH_take (i := 17) (v := undef) rfl (by kernel_rfl) (by kernel_rfl) (by kernel_rfl) (fun _ _ _ h => h) (Or.inr ⟨by kernel_rfl, rfl⟩) (by assumption) ?_
        try simp (config := { maxSteps := 2000000 }) only [Act.put, List.setIfInBounds_toArray, List.set_cons_zero, List.set_cons_succ, List.getElem_toArray, List.getElem_cons_succ, List.getElem_cons_zero]
        refine wpAnyH_take (i := 18) (v := ?_) rfl (by kernel_rfl) (by kernel_rfl) (by kernel_rfl) (fun _ _ _ h => h) (Or.inl ⟨by kernel_rfl, ?_⟩) (by assumption) ?_
        rotate_left
        · intro w hSw; obtain ⟨_, _, hSw⟩ := hSw; (try dsimp only at hSw); go_simp; try with_reducible rfl
        try simp (config := { maxSteps := 2000000 }) only [Act.put, List.setIfInBounds_toArray, List.set_cons_zero, List.set_cons_succ, List.getElem_toArray, List.getElem_cons_succ, List.getElem_cons_zero]
        refine wpAnyH_done (by kernel_rfl) ?_ _
        have HB := Lib.hid hHeld.1
        clear hHeld hb hbn hn
        go_wp2_with fail
        go_ret
        exact ⟨SetB.ret_bool HE.out.symm, HB.out⟩
      | false =>
        cases rb with
        | false =>
          have HE := Lib.hid (HFail.out (by simp))
          refine wp_region_held_drew (S := fun w' => Below w.heap.size w w' ∧ wr.heap.size < w'.heap.size ∧ ∀ o, w'.cell? ⟨wr.heap.size, o, none⟩ = (#[.int .i64 s0, .int .i64 s1, .int .i64 s2, .int .i64 s3] : Array Value)[o]?) (by kernel_rfl) H0 (fun hHeld => ?_)
          refine wpAnyH_take (i := 0) (v := ?_) rfl (by kernel_rfl) (by kernel_rfl) (by kernel_rfl) (fun _ _ _ h => h) (Or.inl ⟨by kernel_rfl, ?_⟩) (by assumption) ?_
          rotate_left
          · intro w hSw; obtain ⟨_, _, hSw⟩ := hSw; (try dsimp only at hSw); go_simp; try with_reducible rfl
          try simp (config := { maxSteps := 2000000 }) only [Act.put, List.setIfInBounds_toArray, List.set_cons_zero, List.set_cons_succ, List.getElem_toArray, List.getElem_cons_succ, List.getElem_cons_zero]
          refine wpAnyH_take (i := 1) (v := ?_) rfl (by kernel_rfl) (by kernel_rfl) (by kernel_rfl) (fun _ _ _ h => h) (Or.inl ⟨by kernel_rfl, ?_⟩) (by assumption) ?_
          rotate_left
          · intro w hSw; obtain ⟨_, _, hSw⟩ := hSw; (try dsimp only at hSw); go_simp; try with_reducible rfl
          try simp (config := { maxSteps := 2000000 }) only [Act.put, List.setIfInBounds_toArray, List.set_cons_zero, List.set_cons_succ, List.getElem_toArray, List.getElem_cons_succ, List.getElem_cons_zero]
          refine wpAnyH_take (i := 2) (v := ?_) rfl (by kernel_rfl) (by kernel_rfl) (by kernel_rfl) (fun _ _ _ h => h) (Or.inl ⟨by kernel_rfl, ?_⟩) (by assumption) ?_
          rotate_left
          · intro w hSw; obtain ⟨_, _, hSw⟩ := hSw; (try dsimp only at hSw); go_simp; try with_reducible rfl
          try simp (config := { maxSteps := 2000000 }) only [Act.put, List.setIfInBounds_toArray, List.set_cons_zero, List.set_cons_succ, List.getElem_toArray, List.getElem_cons_succ, List.getElem_cons_zero]
          refine wpAnyH_take (i := 3) (v := ?_) rfl (by kernel_rfl) (by kernel_rfl) (by kernel_rfl) (fun _ _ _ h => h) (Or.inl ⟨by kernel_rfl, ?_⟩) (by assumption) ?_
          rotate_left
          · intro w hSw; obtain ⟨_, _, hSw⟩ := hSw; (try dsimp only at hSw); go_simp; try with_reducible rfl
          try simp (config := { maxSteps := 2000000 }) only [Act.put, List.setIfInBounds_toArray, List.set_cons_zero, List.set_cons_succ, List.getElem_toArray, List.getElem_cons_succ, List.getElem_cons_zero]
          refine wpAnyH_take (i := 4) (v := ?_) rfl (by kernel_rfl) (by kernel_rfl) (by kernel_rfl) (fun _ _ _ h => h) (Or.inl ⟨by kernel_rfl, ?_⟩) (by assumption) ?_
          rotate_left
          · intro w hSw; obtain ⟨_, _, hSw⟩ := hSw; (try dsimp only at hSw); go_simp; try with_reducible rfl
          try simp (config := { maxSteps := 2000000 }) only [Act.put, List.setIfInBounds_toArray, List.set_cons_zero, List.set_cons_succ, List.getElem_toArray, List.getElem_cons_succ, List.getElem_cons_zero]
          refine wpAnyH_take (i := 5) (v := ?_) rfl (by kernel_rfl) (by kernel_rfl) (by kernel_rfl) (fun _ _ _ h => h) (Or.inl ⟨by kernel_rfl, ?_⟩) (by assumption) ?_
          rotate_left
          · intro w hSw; obtain ⟨_, _, hSw⟩ := hSw; (try dsimp only at hSw); go_simp; try with_reducible rfl
          try simp (config := { maxSteps := 2000000 }) only [Act.put, List.setIfInBounds_toArray, List.set_cons_zero, List.set_cons_succ, List.getElem_toArray, List.getElem_cons_succ, List.getElem_cons_zero]
          refine wpAnyH_take (i := 6) (v := ?_) rfl (by kernel_rfl) (by kernel_rfl) (by kernel_rfl) (fun _ _ _ h => h) (Or.inl ⟨by kernel_rfl, ?_⟩) (by assumption) ?_
          rotate_left
          · intro w hSw; obtain ⟨_, _, hSw⟩ := hSw; (try dsimp only at hSw); go_simp; try with_reducible rfl
          try simp (config := { maxSteps := 2000000 }) only [Act.put, List.setIfInBounds_toArray, List.set_cons_zero, List.set_cons_succ, List.getElem_toArray, List.getElem_cons_succ, List.getElem_cons_zero]
          refine wpAnyH_ready (rs := [7]) (by kernel_rfl) (by simp) ?_
          refine AllReadyH.cons rfl (fun K hK => ?_) AllReadyH.nil
          go_simp
          go_wp2_with ((with_reducible refine ((HH.out _ hHeld.1)).mono ?_); rintro e wa ⟨rfl, hba⟩)
          refine hK.out _ _ (HS.out _ _ hHeld hba) (fun hHeld => ?_)
          clear hK K
          try simp (config := { maxSteps := 2000000 }) only [Act.put, List.setIfInBounds_toArray, List.set_cons_zero, List.set_cons_succ, List.getElem_toArray, List.getElem_cons_succ, List.getElem_cons_zero]
          refine wpAnyH_take (i := 8) (v := ?_) rfl (by kernel_rfl) (by kernel_rfl) (by kernel_rfl) (fun _ _ _ h => h) (Or.inl ⟨by kernel_rfl, ?_⟩) (by assumption) ?_
          rotate_left
          · intro w hSw; obtain ⟨_, _, hSw⟩ := hSw; (try dsimp only at hSw); go_simp; try with_reducible rfl
          try simp (config := { maxSteps := 2000000 }) only [Act.put, List.setIfInBounds_toArray, List.set_cons_zero, List.set_cons_succ, List.getElem_toArray, List.getElem_cons_succ, List.getElem_cons_zero]
          refine wpAnyH_take (i := 9) (v := ?_) rfl (by kernel_rfl) (by kernel_rfl) (by kernel_rfl) (fun _ _ _ h => h) (Or.inl ⟨by kernel_rfl, ?_⟩) (by assumption) ?_
          rotate_left
          · intro w hSw; obtain ⟨_, _, hSw⟩ := hSw; (try dsimp only at hSw); go_simp; try with_reducible rfl
          try simp (config := { maxSteps := 2000000 }) only [Act.put, List.setIfInBounds_toArray, List.set_cons_zero, List.set_cons_succ, List.getElem_toArray, List.getElem_cons_succ, List.getElem_cons_zero]
          refine wpAnyH_take (i := 10) (v := ?_) rfl (by kernel_rfl) (by kernel_rfl) (by kernel_rfl) (fun _ _ _ h => h) (Or.inl ⟨by kernel_rfl, ?_⟩) (by assumption) ?_
          rotate_left
          · intro w hSw; obtain ⟨_, _, hSw⟩ := hSw; (try dsimp only at hSw); go_simp; try with_reducible rfl
          try simp (config := { maxSteps := 2000000 }) only [Act.put, List.setIfInBounds_toArray, List.set_cons_zero, List.set_cons_succ, List.getElem_toArray, List.getElem_cons_succ, List.getElem_cons_zero]
          refine wpAnyH_take (i := 11) (v := ?_) rfl (by kernel_rfl) (by kernel_rfl) (by kernel_rfl) (fun _ _ _ h => h) (Or.inl ⟨by kernel_rfl, ?_⟩) (by assumption) ?_
          rotate_left
          · intro w hSw; obtain ⟨_, _, hSw⟩ := hSw; (try dsimp only at hSw); go_simp; try with_reducible rfl
          try simp (config := { maxSteps := 2000000 }) only [Act.put, List.setIfInBounds_toArray, List.set_cons_zero, List.set_cons_succ, List.getElem_toArray, List.getElem_cons_succ, List.getElem_cons_zero]
          refine wpAnyH_take (i := 12) (v := ?_) rfl (by kernel_rfl) (by kernel_rfl) (by kernel_rfl) (fun _ _ _ h => h) (Or.inl ⟨by kernel_rfl, ?_⟩) (by assumption) ?_
          rotate_left
          · intro w hSw; obtain ⟨_, _, hSw⟩ := hSw; (try dsimp only at hSw); go_simp; try with_reducible rfl
          try simp (config := { maxSteps := 2000000 }) only [Act.put, List.setIfInBounds_toArray, List.set_cons_zero, List.set_cons_succ, List.getElem_toArray, List.getElem_cons_succ, List.getElem_cons_zero]
          refine wpAnyH_take (i := 13) (v := ?_) rfl (by kernel_rfl) (by kernel_rfl) (by kernel_rfl) (fun _ _ _ h => h) (Or.inl ⟨by kernel_rfl, ?_⟩) (by assumption) ?_
          rotate_left
          · intro w hSw; obtain ⟨_, _, hSw⟩ := hSw; (try dsimp only at hSw); go_simp; try with_reducible rfl
          try simp (config := { maxSteps := 2000000 }) only [Act.put, List.setIfInBounds_toArray, List.set_cons_zero, List.set_cons_succ, List.getElem_toArray, List.getElem_cons_succ, List.getElem_cons_zero]
          refine wpAnyH_take (i := 14) (v := ?_) rfl (by kernel_rfl) (by kernel_rfl) (by kernel_rfl) (fun _ _ _ h => h) (Or.inl ⟨by kernel_rfl, ?_⟩) (by assumption) ?_
          rotate_left
          · intro w hSw; obtain ⟨_, _, hSw⟩ := hSw; (try dsimp only at hSw); go_simp; try with_reducible rfl
          try simp (config := { maxSteps := 2000000 }) only [Act.put, List.setIfInBounds_toArray, List.set_cons_zero, List.set_cons_succ, List.getElem_toArray, List.getElem_cons_succ, List.getElem_cons_zero]
          refine wpAnyH_take (i := 15) (v := ?_) rfl (by kernel_rfl) (by kernel_rfl) (by kernel_rfl) (fun _ _ _ h => h) (Or.inl ⟨by kernel_rfl, ?_⟩) (by assumption) ?_
          rotate_left
          · intro w hSw; obtain ⟨_, _, hSw⟩ := hSw; (try dsimp only at hSw); go_simp; try with_reducible rfl
          try simp (config := { maxSteps := 2000000 }) only [Act.put, List.setIfInBounds_toArray, List.set_cons_zero, List.set_cons_succ, List.getElem_toArray, List.getElem_cons_succ, List.getElem_cons_zero]
          refine wpAnyH_ready (rs := [16]) (by kernel_rfl) (by simp) ?_
          refine AllReadyH.cons rfl (fun K hK => ?_) AllReadyH.nil
          go_simp
          go_wp2_with ((with_reducible refine ((HG.out _ hHeld.1)).mono ?_); rintro e wb ⟨rfl, hbb⟩)
          refine hK.out _ _ (HS.out _ _ hHeld hbb) (fun hHeld => ?_)
          clear hK K
          try simp (config := { maxSteps := 2000000 }) only [Act.put, List.setIfInBounds_toArray, List.set_cons_zero, List.set_cons_succ, List.getElem_toArray, List.getElem_cons_succ, List.getElem_cons_zero]
          refine wpAnyH_take (i := 17) (v := ?_) rfl (by kernel_rfl) (by kernel_rfl) (by kernel_rfl) (fun _ _ _ h => h) (Or.inl ⟨by kernel_rfl, ?_⟩) (by assumption) ?_
          rotate_left
          · intro w hSw; obtain ⟨_, _, hSw⟩ := hSw; (try dsimp only at hSw); go_simp; try with_reducible rfl
          try simp (config := { maxSteps := 2000000 }) only [Act.put, List.setIfInBounds_toArray, List.set_cons_zero, List.set_cons_succ, List.getElem_toArray, List.getElem_cons_succ, List.getElem_cons_zero]
          refine wpAnyH_take (i := 18) (v := ?_) rfl (by kernel_rfl) (by kernel_rfl) (by kernel_rfl) (fun _ _ _ h => h) (Or.inl ⟨by kernel_rfl, ?_⟩) (by assumption) ?_
          rotate_left
          · intro w hSw; obtain ⟨_, _, hSw⟩ := hSw; (try dsimp only at hSw); go_simp; try with_reducible rfl
          try simp (config := { maxSteps := 2000000 }) only [Act.put, List.setIfInBounds_toArray, List.set_cons_zero, List.set_cons_succ, List.getElem_toArray, List.getElem_cons_succ, List.getElem_cons_zero]
          refine wpAnyH_done (by kernel_rfl) ?_ _
          have HB := Lib.hid hHeld.1
          clear hHeld hb hbn hn
          go_wp2_with fail
          go_ret
          exact ⟨SetB.ret_bool HE.out.symm, HB.out⟩
        | true =>
          have HE := Lib.hid (HGood.out (by simp))
          refine wp_region_held_drew (S := fun w' => Below w.heap.size w w' ∧ wr.heap.size < w'.heap.size ∧ ∀ o, w'.cell? ⟨wr.heap.size, o, none⟩ = (#[.int .i64 s0, .int .i64 s1, .int .i64 s2, .int .i64 s3] : Array Value)[o]?) (by kernel_rfl) H0 (fun hHeld => ?_)
          refine wpAnyH_take (i := 0) (v := ?_) rfl (by kernel_rfl) (by kernel_rfl) (by kernel_rfl) (fun _ _ _ h => h) (Or.inl ⟨by kernel_rfl, ?_⟩) (by assumption) ?_
          rotate_left
          · intro w hSw; obtain ⟨_, _, hSw⟩ := hSw; (try dsimp only at hSw); go_simp; try with_reducible rfl
          try simp (config := { maxSteps := 2000000 }) only [Act.put, List.setIfInBounds_toArray, List.set_cons_zero, List.set_cons_succ, List.getElem_toArray, List.getElem_cons_succ, List.getElem_cons_zero]
          refine wpAnyH_take (i := 1) (v := ?_) rfl (by kernel_rfl) (by kernel_rfl) (by kernel_rfl) (fun _ _ _ h => h) (Or.inl ⟨by kernel_rfl, ?_⟩) (by assumption) ?_
          rotate_left
          · intro w hSw; obtain ⟨_, _, hSw⟩ := hSw; (try dsimp only at hSw); go_simp; try with_reducible rfl
          try simp (config := { maxSteps := 2000000 }) only [Act.put, List.setIfInBounds_toArray, List.set_cons_zero, List.set_cons_succ, List.getElem_toArray, List.getElem_cons_succ, List.getElem_cons_zero]
          refine wpAnyH_take (i := 2) (v := ?_) rfl (by kernel_rfl) (by kernel_rfl) (by kernel_rfl) (fun _ _ _ h => h) (Or.inl ⟨by kernel_rfl, ?_⟩) (by assumption) ?_
          rotate_left
          · intro w hSw; obtain ⟨_, _, hSw⟩ := hSw; (try dsimp only at hSw); go_simp; try with_reducible rfl
          try simp (config := { maxSteps := 2000000 }) only [Act.put, List.setIfInBounds_toArray, List.set_cons_zero, List.set_cons_succ, List.getElem_toArray, List.getElem_cons_succ, List.getElem_cons_zero]
          refine wpAnyH_take (i := 3) (v := ?_) rfl (by kernel_rfl) (by kernel_rfl) (by kernel_rfl) (fun _ _ _ h => h) (Or.inl ⟨by kernel_rfl, ?_⟩) (by assumption) ?_
          rotate_left
          · intro w hSw; obtain ⟨_, _, hSw⟩ := hSw; (try dsimp only at hSw); go_simp; try with_reducible rfl
          try simp (config := { maxSteps := 2000000 }) only [Act.put, List.setIfInBounds_toArray, List.set_cons_zero, List.set_cons_succ, List.getElem_toArray, List.getElem_cons_succ, List.getElem_cons_zero]
          refine wpAnyH_take (i := 4) (v := ?_) rfl (by kernel_rfl) (by kernel_rfl) (by kernel_rfl) (fun _ _ _ h => h) (Or.inl ⟨by kernel_rfl, ?_⟩) (by assumption) ?_
          rotate_left
          · intro w hSw; obtain ⟨_, _, hSw⟩ := hSw; (try dsimp only at hSw); go_simp; try with_reducible rfl
          try simp (config := { maxSteps := 2000000 }) only [Act.put, List.setIfInBounds_toArray, List.set_cons_zero, List.set_cons_succ, List.getElem_toArray, List.getElem_cons_succ, List.getElem_cons_zero]
          refine wpAnyH_take (i := 5) (v := ?_) rfl (by kernel_rfl) (by kernel_rfl) (by kernel_rfl) (fun _ _ _ h => h) (Or.inl ⟨by kernel_rfl, ?_⟩) (by assumption) ?_
          rotate_left
          · intro w hSw; obtain ⟨_, _, hSw⟩ := hSw; (try dsimp only at hSw); go_simp; try with_reducible rfl
          try simp (config := { maxSteps := 2000000 }) only [Act.put, List.setIfInBounds_toArray, List.set_cons_zero, List.set_cons_succ, List.getElem_toArray, List.getElem_cons_succ, List.getElem_cons_zero]
          refine wpAnyH_take (i := 6) (v := ?_) rfl (by kernel_rfl) (by kernel_rfl) (by kernel_rfl) (fun _ _ _ h => h) (Or.inl ⟨by kernel_rfl, ?_⟩) (by assumption) ?_
          rotate_left
          · intro w hSw; obtain ⟨_, _, hSw⟩ := hSw; (try dsimp only at hSw); go_simp; try with_reducible rfl
          try simp (config := { maxSteps := 2000000 }) only [Act.put, List.setIfInBounds_toArray, List.set_cons_zero, List.set_cons_succ, List.getElem_toArray, List.getElem_cons_succ, List.getElem_cons_zero]
          refine wpAnyH_ready (rs := [7]) (by kernel_rfl) (by simp) ?_
          refine AllReadyH.cons rfl (fun K hK => ?_) AllReadyH.nil
          go_simp
          go_wp2_with ((with_reducible refine ((HH.out _ hHeld.1)).mono ?_); rintro e wa ⟨rfl, hba⟩)
          refine hK.out _ _ (HS.out _ _ hHeld hba) (fun hHeld => ?_)
          clear hK K
          try simp (config := { maxSteps := 2000000 }) only [Act.put, List.setIfInBounds_toArray, List.set_cons_zero, List.set_cons_succ, List.getElem_toArray, List.getElem_cons_succ, List.getElem_cons_zero]
          refine wpAnyH_take (i := 8) (v := ?_) rfl (by kernel_rfl) (by kernel_rfl) (by kernel_rfl) (fun _ _ _ h => h) (Or.inl ⟨by kernel_rfl, ?_⟩) (by assumption) ?_
          rotate_left
          · intro w hSw; obtain ⟨_, _, hSw⟩ := hSw; (try dsimp only at hSw); go_simp; try with_reducible rfl
          try simp (config := { maxSteps := 2000000 }) only [Act.put, List.setIfInBounds_toArray, List.set_cons_zero, List.set_cons_succ, List.getElem_toArray, List.getElem_cons_succ, List.getElem_cons_zero]
          refine wpAnyH_take (i := 9) (v := ?_) rfl (by kernel_rfl) (by kernel_rfl) (by kernel_rfl) (fun _ _ _ h => h) (Or.inl ⟨by kernel_rfl, ?_⟩) (by assumption) ?_
          rotate_left
          · intro w hSw; obtain ⟨_, _, hSw⟩ := hSw; (try dsimp only at hSw); go_simp; try with_reducible rfl
          try simp (config := { maxSteps := 2000000 }) only [Act.put, List.setIfInBounds_toArray, List.set_cons_zero, List.set_cons_succ, List.getElem_toArray, List.getElem_cons_succ, List.getElem_cons_zero]
          refine wpAnyH_take (i := 10) (v := ?_) rfl (by kernel_rfl) (by kernel_rfl) (by kernel_rfl) (fun _ _ _ h => h) (Or.inl ⟨by kernel_rfl, ?_⟩) (by assumption) ?_
          rotate_left
          · intro w hSw; obtain ⟨_, _, hSw⟩ := hSw; (try dsimp only at hSw); go_simp; try with_reducible rfl
          try simp (config := { maxSteps := 2000000 }) only [Act.put, List.setIfInBounds_toArray, List.set_cons_zero, List.set_cons_succ, List.getElem_toArray, List.getElem_cons_succ, List.getElem_cons_zero]
          refine wpAnyH_take (i := 11) (v := ?_) rfl (by kernel_rfl) (by kernel_rfl) (by kernel_rfl) (fun _ _ _ h => h) (Or.inl ⟨by kernel_rfl, ?_⟩) (by assumption) ?_
          rotate_left
          · intro w hSw; obtain ⟨_, _, hSw⟩ := hSw; (try dsimp only at hSw); go_simp; try with_reducible rfl
          try simp (config := { maxSteps := 2000000 }) only [Act.put, List.setIfInBounds_toArray, List.set_cons_zero, List.set_cons_succ, List.getElem_toArray, List.getElem_cons_succ, List.getElem_cons_zero]
          refine wpAnyH_take (i := 12) (v := ?_) rfl (by kernel_rfl) (by kernel_rfl) (by kernel_rfl) (fun _ _ _ h => h) (Or.inl ⟨by kernel_rfl, ?_⟩) (by assumption) ?_
          rotate_left
          · intro w hSw; obtain ⟨_, _, hSw⟩ := hSw; (try dsimp only at hSw); go_simp; try with_reducible rfl
          try simp (config := { maxSteps := 2000000 }) only [Act.put, List.setIfInBounds_toArray, List.set_cons_zero, List.set_cons_succ, List.getElem_toArray, List.getElem_cons_succ, List.getElem_cons_zero]
          refine wpAnyH_take (i := 13) (v := ?_) rfl (by kernel_rfl) (by kernel_rfl) (by kernel_rfl) (fun _ _ _ h => h) (Or.inl ⟨by kernel_rfl, ?_⟩) (by assumption) ?_
          rotate_left
          · intro w hSw; obtain ⟨_, _, hSw⟩ := hSw; (try dsimp only at hSw); go_simp; try with_reducible rfl
          try simp (config := { maxSteps := 2000000 }) only [Act.put, List.setIfInBounds_toArray, List.set_cons_zero, List.set_cons_succ, List.getElem_toArray, List.getElem_cons_succ, List.getElem_cons_zero]
          refine wpAnyH_take (i := 14) (v := ?_) rfl (by kernel_rfl) (by kernel_rfl) (by kernel_rfl) (fun _ _ _ h => h) (Or.inl ⟨by kernel_rfl, ?_⟩) (by assumption) ?_
          rotate_left
          · intro w hSw; obtain ⟨_, _, hSw⟩ := hSw; (try dsimp only at hSw); go_simp; try with_reducible rfl
          try simp (config := { maxSteps := 2000000 }) only [Act.put, List.setIfInBounds_toArray, List.set_cons_zero, List.set_cons_succ, List.getElem_toArray, List.getElem_cons_succ, List.getElem_cons_zero]
          refine wpAnyH_take (i := 15) (v := ?_) rfl (by kernel_rfl) (by kernel_rfl) (by kernel_rfl) (fun _ _ _ h => h) (Or.inl ⟨by kernel_rfl, ?_⟩) (by assumption) ?_
          rotate_left
          · intro w hSw; obtain ⟨_, _, hSw⟩ := hSw; (try dsimp only at hSw); go_simp; try with_reducible rfl
          try simp (config := { maxSteps := 2000000 }) only [Act.put, List.setIfInBounds_toArray, List.set_cons_zero, List.set_cons_succ, List.getElem_toArray, List.getElem_cons_succ, List.getElem_cons_zero]
          refine wpAnyH_ready (rs := [16]) (by kernel_rfl) (by simp) ?_
          refine AllReadyH.cons rfl (fun K hK => ?_) AllReadyH.nil
          go_simp
          go_wp2_with ((with_reducible refine ((HG.out _ hHeld.1)).mono ?_); rintro e wb ⟨rfl, hbb⟩)
          refine hK.out _ _ (HS.out _ _ hHeld hbb) (fun hHeld => ?_)
          clear hK K
          try simp (config := { maxSteps := 2000000 }) only [Act.put, List.setIfInBounds_toArray, List.set_cons_zero, List.set_cons_succ, List.getElem_toArray, List.getElem_cons_succ, List.getElem_cons_zero]
          refine wpAnyH_take (i := 17) (v := ?_) rfl (by kernel_rfl) (by kernel_rfl) (by kernel_rfl) (fun _ _ _ h => h) (Or.inl ⟨by kernel_rfl, ?_⟩) (by assumption) ?_
          rotate_left
          · intro w hSw; obtain ⟨_, _, hSw⟩ := hSw; (try dsimp only at hSw); go_simp; try with_reducible rfl
          try simp (config := { maxSteps := 2000000 }) only [Act.put, List.setIfInBounds_toArray, List.set_cons_zero, List.set_cons_succ, List.getElem_toArray, List.getElem_cons_succ, List.getElem_cons_zero]
          refine wpAnyH_take (i := 18) (v := ?_) rfl (by kernel_rfl) (by kernel_rfl) (by kernel_rfl) (fun _ _ _ h => h) (Or.inl ⟨by kernel_rfl, ?_⟩) (by assumption) ?_
          rotate_left
          · intro w hSw; obtain ⟨_, _, hSw⟩ := hSw; (try dsimp only at hSw); go_simp; try with_reducible rfl
          try simp (config := { maxSteps := 2000000 }) only [Act.put, List.setIfInBounds_toArray, List.set_cons_zero, List.set_cons_succ, List.getElem_toArray, List.getElem_cons_succ, List.getElem_cons_zero]
          refine wpAnyH_done (by kernel_rfl) ?_ _
          have HB := Lib.hid hHeld.1
          clear hHeld hb hbn hn
          go_wp2_with fail
          go_roundw
          case rel => exact ⟨k + 1, by omega, by go_num, HB.out, HE⟩
          case measure => simp [intOf]; omega
    · have e1 : decide ((k : Int) < T.length) = false := by simp; omega
      have HE : Hid (true = ans) := Lib.hid (by
        have := hch.out
        rw [List.take_of_length_le (by omega), HAns.out] at this
        exact this.symm)
      have HB := Lib.hid hb
      clear hb hch
      go_wp2_with fail
      go_ret
      exact ⟨SetB.ret_bool HE.out, HB.out⟩
end Go.Proofs.Ytihhojgnilbfnaa.PfS8
