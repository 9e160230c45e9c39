/- The document's Check of a proof that is one, by contract. -/
import Derived.Test.YtddjbchlpfaggaaPfS2
namespace Go.Proofs.Ytddjbchlpfaggaa.PfS3
open Go.RowKit Go.Lib Go.Proofs Go.Maps Go.Proofs.Ytddjbchlpfaggaa.TblB Go.Proofs.Ytddjbchlpfaggaa.TblC Go.Proofs.Ytddjbchlpfaggaa.TblV Go.Proofs.Ytddjbchlpfaggaa.TblP Go.Proofs.Ytddjbchlpfaggaa.TblQ Go.Proofs.Ytddjbchlpfaggaa.SemB Go.Proofs.Ytddjbchlpfaggaa.PfM Go.Proofs.Ytddjbchlpfaggaa.PfN Go.Proofs.Ytddjbchlpfaggaa.PfO Go.Proofs.Ytddjbchlpfaggaa.PfB Go.Proofs.Ytddjbchlpfaggaa.PfE Go.Proofs.Ytddjbchlpfaggaa.PfJ Go.Proofs.Ytddjbchlpfaggaa.PfL Go.Proofs.Ytddjbchlpfaggaa.PfS1 Go.Proofs.Ytddjbchlpfaggaa.PfS2
set_option linter.unusedVariables false
set_option linter.unusedSimpArgs false
theorem tg_take {w : World} {A : Option Addr} {T : List Sp} (h : TG w A T) (k : Nat) : TG w A (T.take k) := fun hp => by
  rw [List.length_take] at hp
  obtain ⟨g, o, hA, hg, hc⟩ := h (by omega)
  refine ⟨g, o, hA, hg, fun j hj i hi => ?_⟩
  rw [List.length_take] at hj
  rw [hc j (by omega) i hi]
  simp
theorem right_ok (P K : Nat) (A : Option Addr) (ca : Nat) (L : List Ru) (B : Option Addr) (cb : Nat) (T : List Sp) (s0 s1 s2 s3 : Int) (w : World) (g1 : P ≤ 10) (g2 : K ≤ 6) (hL : L.length ≤ 60) (hT : T.length ≤ 100000) (hA : UG w A L) (hB : TG w B T) (ok : okS P K L T ⟨s0, s1, s2, s3⟩ = true) :
    Calls Try.prog 18 #[.int .i64 P, .int .i64 K, .slice A L.length ca, .slice B T.length cb, .agg #[.int .i64 s0, .int .i64 s1, .int .i64 s2, .int .i64 s3]] w fun e w' => e = .returned (.bool true) ∧ Below w.heap.size w w' := by
  obtain ⟨u, hu, hf, hn, _⟩ := okS_rng ok
  obtain ⟨r0, r1, r2, r3⟩ := ruleAt_some hu
  simp only at r0 r1 r2
  obtain ⟨j, rfl⟩ : ∃ j : Nat, s0 = j := ⟨s0.toNat, by omega⟩
  rw [Int.toNat_natCast] at r1 r2
  have hLu : L[j] = u := by
    have := List.getElem?_eq_getElem r1
    rw [r2] at this
    simpa using this.symm
  have hr : rightU P K L[j] = true := by rw [hLu]; exact r3
  obtain ⟨hk, _⟩ := right_r r3
  obtain ⟨k, u1, u2, u3, u4, u5⟩ := u
  unfold fitB at hf
  unfold under at hn
  simp only [Bool.and_eq_true, Bool.or_eq_true, Bool.not_eq_true', decide_eq_true_eq, decide_eq_false_iff_not] at hf hn hk
  obtain ⟨rfl, ⟨x0, x1⟩, hw, hm⟩ := hf
  rcases hk with rfl | rfl | rfl | rfl
  · rw [if_neg (by decide), decide_eq_true_eq] at hm
    obtain rfl := hm
    obtain rfl := hw.resolve_left (by simp)
    exact right1 P K A ca L B cb T j _ r1 u1 u3 u4 u5 hLu w g1 g2 hL hT hA hB hr x0 x1
  · rw [if_neg (by decide), decide_eq_true_eq] at hm
    obtain rfl := hm
    rw [if_pos rfl] at hn
    exact right2 P K A ca L B cb T j _ r1 u1 u2 u3 u4 u5 hLu w g1 g2 hL hT hA hB hr x0 x1 (hn _ (by simp))
  · rw [if_pos rfl, decide_eq_true_eq] at hm
    rw [if_neg (by decide), if_pos rfl] at hn
    exact right3 P K A ca L B cb T j _ s3 r1 u1 u2 u3 u4 u5 hLu w g1 g2 hL hT hA hB hr x0 x1 hm.1 hm.2 (hn _ (by simp)) (hn _ (by simp))
  · rw [if_neg (by decide), decide_eq_true_eq] at hm
    obtain rfl := hm
    rw [if_neg (by decide), if_neg (by decide), if_pos rfl] at hn
    exact right4 P K A ca L B cb T j _ r1 u1 u2 u3 u4 u5 hLu w g1 g2 hL hT hA hB hr x0 x1 (hn _ (by simp)) (hn _ (by simp))
theorem chk_no {P K : Nat} {L : List Ru} : ∀ (l A : List Sp) (i : Nat) (s : Sp), chk P K L A l = true → l[i]? = some s → hasS (A ++ l.take i) s.fa = false
  | [], A, i, s, _, h => by simp at h
  | x :: l, A, 0, s, hc, h => by
    simp only [chk, Bool.and_eq_true] at hc
    simp at h
    subst h
    simpa using hc.1.2
  | x :: l, A, i + 1, s, hc, h => by
    simp only [chk, Bool.and_eq_true] at hc
    have := chk_no l (A ++ [x]) i s hc.2 (by simpa using h)
    simpa using this
set_option maxHeartbeats 1000000 in
set_option maxRecDepth 100000 in
theorem check (P K : Nat) (A : Option Addr) (ca : Nat) (L : List Ru) (B : Option Addr) (cb : Nat) (T : List Sp) (w : World) (g1 : P ≤ 10) (g2 : K ≤ 6) (hL : L.length ≤ 60) (hT : T.length ≤ 10000) (hcb : T.length ≤ cb) (hA : UG w A L) (hB : TG w B T) (ok : chk P K L [] T = true) :
    Calls Try.prog 8 #[.int .i64 P, .int .i64 K, .slice A L.length ca, .slice B T.length cb] w fun e w' => e = .returned (.bool true) ∧ Below w.heap.size w w' := by
  have HA := Lib.hid (fun w' (hb : Below w.heap.size w w') => hB.below hb)
  have HK := Lib.hid (fun w' (hb : Below w.heap.size w w') (k : Nat) (hk : k < T.length) => by
    have h1 := hasD B cb (T.take k) T[k].role T[k].who w' (by rw [List.length_take]; omega) (tg_take (hB.below hb) k)
    have h2 := right_ok P K A ca L B cb (T.take k) T[k].rule T[k].role T[k].who T[k].mid w' g1 g2 hL (by rw [List.length_take]; omega) (hA.below hb) (tg_take (hB.below hb) k) (by
      have := chk_at T [] k T[k] ok (List.getElem?_eq_getElem hk)
      rwa [List.nil_append] at this)
    have h3 := chk_no T [] k T[k] ok (List.getElem?_eq_getElem hk)
    rw [List.nil_append] at h3
    have h3 : hasS (T.take k) (T[k].role, T[k].who) = false := h3
    rw [h3, List.length_take, Nat.min_eq_left (by omega)] at h1
    rw [List.length_take, Nat.min_eq_left (by omega)] at h2
    exact And.intro h1 h2)
  clear hA hB ok
  go_enter Try.func8, Try.ntmps8
  go_wp2_with fail
  go_loopw [13] (fun i wr => ∃ k : Nat, k ≤ T.length ∧ i = .int .i64 k ∧ Below w.heap.size w wr) (fun i _ => T.length - (intOf i).toNat)
  case atStart => exact ⟨0, by omega, rfl, Below.refl _ _⟩
  case round =>
    obtain ⟨k, hk, rfl, hb⟩ := hrel
    by_cases hlt : k < T.length
    · have e1 : decide ((k : Int) < T.length) = true := by simp; omega
      obtain ⟨g, o, rfl, hg, hc⟩ := HA.out _ hb (by omega)
      have hc2 := hc k hlt
      have HK2 := Lib.hid (fun w' (hb : Below w.heap.size w w') => HK.out w' hb k hlt)
      have q0 : (0 : Int) ≤ k := by omega
      have q1 : (k : Int) < T.length := by omega
      have q2 : (k : Int) ≤ cb := by omega
      clear hc HK
      generalize T[k] = s at *
      obtain ⟨s0, s1, s2, s3⟩ := s
      simp only [Sp.cells] at hc2
      simp only at HK2
      have y0 : wr.cell? ⟨g, o + k * 4, none⟩ = some (.int .i64 s0) := hc2 0 (by omega)
      have y1 : wr.cell? ⟨g, o + k * 4 + 1, none⟩ = some (.int .i64 s1) := hc2 1 (by omega)
      have y2 : wr.cell? ⟨g, o + k * 4 + 2, none⟩ = some (.int .i64 s2) := hc2 2 (by omega)
      have y3 : wr.cell? ⟨g, o + k * 4 + 3, none⟩ = some (.int .i64 s3) := hc2 3 (by omega)
      clear hc2
      have hn := heap_alloc_new wr (.cells #[.int .i64 s0, .int .i64 s1, .int .i64 s2, .int .i64 s3] 30)
      have hbn := hb.alloc hb.size (.cells #[.int .i64 s0, .int .i64 s1, .int .i64 s2, .int .i64 s3] 30)
      have HS : Hid (∀ wA wB, (Below w.heap.size w wA ∧ wr.heap.size < wA.heap.size ∧ ∀ o, wA.cell? ⟨wr.heap.size, o, none⟩ = (#[.int .i64 s0, .int .i64 s1, .int .i64 s2, .int .i64 s3] : Array Value)[o]?) → Below wA.heap.size wA wB → Below w.heap.size w wB ∧ wr.heap.size < wB.heap.size ∧ ∀ o, wB.cell? ⟨wr.heap.size, o, none⟩ = (#[.int .i64 s0, .int .i64 s1, .int .i64 s2, .int .i64 s3] : Array Value)[o]?) := Lib.hid (fun wA wB h hh => ⟨nx h.1 hh, Nat.lt_of_lt_of_le h.2.1 hh.size, fun o => (hh.cell (p := ⟨wr.heap.size, o, none⟩) h.2.1).trans (h.2.2 o)⟩)
      have H0 := HS.out (wr.alloc (.cells #[.int .i64 s0, .int .i64 s1, .int .i64 s2, .int .i64 s3] 30)) ((wr.alloc (.cells #[.int .i64 s0, .int .i64 s1, .int .i64 s2, .int .i64 s3] 30)).drew) ⟨hbn, lt_of hn, fun o => Lib.cell_of_heap hn o⟩ ((Below.refl _ _).drew)
      go_upto_region 4 with fail
      clear y0 y1 y2 y3
      refine wp_region_held_drew (S := fun w' => Below w.heap.size w w' ∧ wr.heap.size < w'.heap.size ∧ ∀ o, w'.cell? ⟨wr.heap.size, o, none⟩ = (#[.int .i64 s0, .int .i64 s1, .int .i64 s2, .int .i64 s3] : Array Value)[o]?) (by kernel_rfl) H0 (fun hHeld => ?_)
      refine wpAnyH_take (i := 0) (v := ?_) rfl (by kernel_rfl) (by kernel_rfl) (by kernel_rfl) (fun _ _ _ h => h) (Or.inl ⟨by kernel_rfl, ?_⟩) (by assumption) ?_
      rotate_left
      · intro w hSw; obtain ⟨_, _, hSw⟩ := hSw; (try dsimp only at hSw); go_simp; try with_reducible rfl
      try simp only [Act.put, List.setIfInBounds_toArray, List.set_cons_zero, List.set_cons_succ]
      refine wpAnyH_take (i := 1) (v := ?_) rfl (by kernel_rfl) (by kernel_rfl) (by kernel_rfl) (fun _ _ _ h => h) (Or.inl ⟨by kernel_rfl, ?_⟩) (by assumption) ?_
      rotate_left
      · intro w hSw; obtain ⟨_, _, hSw⟩ := hSw; (try dsimp only at hSw); go_simp; try with_reducible rfl
      try simp only [Act.put, List.setIfInBounds_toArray, List.set_cons_zero, List.set_cons_succ]
      refine wpAnyH_take (i := 2) (v := ?_) rfl (by kernel_rfl) (by kernel_rfl) (by kernel_rfl) (fun _ _ _ h => h) (Or.inl ⟨by kernel_rfl, ?_⟩) (by assumption) ?_
      rotate_left
      · intro w hSw; obtain ⟨_, _, hSw⟩ := hSw; (try dsimp only at hSw); go_simp; try with_reducible rfl
      try simp only [Act.put, List.setIfInBounds_toArray, List.set_cons_zero, List.set_cons_succ]
      refine wpAnyH_take (i := 3) (v := ?_) rfl (by kernel_rfl) (by kernel_rfl) (by kernel_rfl) (fun _ _ _ h => h) (Or.inl ⟨by kernel_rfl, ?_⟩) (by assumption) ?_
      rotate_left
      · intro w hSw; obtain ⟨_, _, hSw⟩ := hSw; (try dsimp only at hSw); go_simp; try with_reducible rfl
      try simp only [Act.put, List.setIfInBounds_toArray, List.set_cons_zero, List.set_cons_succ]
      refine wpAnyH_take (i := 4) (v := ?_) rfl (by kernel_rfl) (by kernel_rfl) (by kernel_rfl) (fun _ _ _ h => h) (Or.inl ⟨by kernel_rfl, ?_⟩) (by assumption) ?_
      rotate_left
      · intro w hSw; obtain ⟨_, _, hSw⟩ := hSw; (try dsimp only at hSw); go_simp; try with_reducible rfl
      try simp only [Act.put, List.setIfInBounds_toArray, List.set_cons_zero, List.set_cons_succ]
      refine wpAnyH_take (i := 5) (v := ?_) rfl (by kernel_rfl) (by kernel_rfl) (by kernel_rfl) (fun _ _ _ h => h) (Or.inl ⟨by kernel_rfl, ?_⟩) (by assumption) ?_
      rotate_left
      · intro w hSw; obtain ⟨_, _, hSw⟩ := hSw; (try dsimp only at hSw); go_simp; try with_reducible rfl
      try simp only [Act.put, List.setIfInBounds_toArray, List.set_cons_zero, List.set_cons_succ]
      refine wpAnyH_take (i := 6) (v := ?_) rfl (by kernel_rfl) (by kernel_rfl) (by kernel_rfl) (fun _ _ _ h => h) (Or.inl ⟨by kernel_rfl, ?_⟩) (by assumption) ?_
      rotate_left
      · intro w hSw; obtain ⟨_, _, hSw⟩ := hSw; (try dsimp only at hSw); go_simp; try with_reducible rfl
      try simp only [Act.put, List.setIfInBounds_toArray, List.set_cons_zero, List.set_cons_succ]
      refine wpAnyH_ready (rs := [7]) (by kernel_rfl) (by simp) ?_
      refine AllReadyH.cons rfl (fun K hK => ?_) AllReadyH.nil
      go_simp
      go_wp2_with ((with_reducible refine ((HK2.out _ hHeld.1).1).mono ?_); rintro e wa ⟨rfl, hba⟩)
      refine hK.out _ _ (HS.out _ _ hHeld hba) (fun hHeld => ?_)
      clear hK K
      try simp only [Act.put, List.setIfInBounds_toArray, List.set_cons_zero, List.set_cons_succ]
      refine wpAnyH_take (i := 8) (v := ?_) rfl (by kernel_rfl) (by kernel_rfl) (by kernel_rfl) (fun _ _ _ h => h) (Or.inl ⟨by kernel_rfl, ?_⟩) (by assumption) ?_
      rotate_left
      · intro w hSw; obtain ⟨_, _, hSw⟩ := hSw; (try dsimp only at hSw); go_simp; try with_reducible rfl
      try simp only [Act.put, List.setIfInBounds_toArray, List.set_cons_zero, List.set_cons_succ]
      refine wpAnyH_take (i := 9) (v := ?_) rfl (by kernel_rfl) (by kernel_rfl) (by kernel_rfl) (fun _ _ _ h => h) (Or.inl ⟨by kernel_rfl, ?_⟩) (by assumption) ?_
      rotate_left
      · intro w hSw; obtain ⟨_, _, hSw⟩ := hSw; (try dsimp only at hSw); go_simp; try with_reducible rfl
      try simp only [Act.put, List.setIfInBounds_toArray, List.set_cons_zero, List.set_cons_succ]
      refine wpAnyH_take (i := 10) (v := ?_) rfl (by kernel_rfl) (by kernel_rfl) (by kernel_rfl) (fun _ _ _ h => h) (Or.inl ⟨by kernel_rfl, ?_⟩) (by assumption) ?_
      rotate_left
      · intro w hSw; obtain ⟨_, _, hSw⟩ := hSw; (try dsimp only at hSw); go_simp; try with_reducible rfl
      try simp only [Act.put, List.setIfInBounds_toArray, List.set_cons_zero, List.set_cons_succ]
      refine wpAnyH_take (i := 11) (v := ?_) rfl (by kernel_rfl) (by kernel_rfl) (by kernel_rfl) (fun _ _ _ h => h) (Or.inl ⟨by kernel_rfl, ?_⟩) (by assumption) ?_
      rotate_left
      · intro w hSw; obtain ⟨_, _, hSw⟩ := hSw; (try dsimp only at hSw); go_simp; try with_reducible rfl
      try simp only [Act.put, List.setIfInBounds_toArray, List.set_cons_zero, List.set_cons_succ]
      refine wpAnyH_take (i := 12) (v := ?_) rfl (by kernel_rfl) (by kernel_rfl) (by kernel_rfl) (fun _ _ _ h => h) (Or.inl ⟨by kernel_rfl, ?_⟩) (by assumption) ?_
      rotate_left
      · intro w hSw; obtain ⟨_, _, hSw⟩ := hSw; (try dsimp only at hSw); go_simp; try with_reducible rfl
      try simp only [Act.put, List.setIfInBounds_toArray, List.set_cons_zero, List.set_cons_succ]
      refine wpAnyH_take (i := 13) (v := ?_) rfl (by kernel_rfl) (by kernel_rfl) (by kernel_rfl) (fun _ _ _ h => h) (Or.inl ⟨by kernel_rfl, ?_⟩) (by assumption) ?_
      rotate_left
      · intro w hSw; obtain ⟨_, _, hSw⟩ := hSw; (try dsimp only at hSw); go_simp; try with_reducible rfl
      try simp only [Act.put, List.setIfInBounds_toArray, List.set_cons_zero, List.set_cons_succ]
      refine wpAnyH_take (i := 14) (v := ?_) rfl (by kernel_rfl) (by kernel_rfl) (by kernel_rfl) (fun _ _ _ h => h) (Or.inl ⟨by kernel_rfl, ?_⟩) (by assumption) ?_
      rotate_left
      · intro w hSw; obtain ⟨_, _, hSw⟩ := hSw; (try dsimp only at hSw); go_simp; try with_reducible rfl
      try simp only [Act.put, List.setIfInBounds_toArray, List.set_cons_zero, List.set_cons_succ]
      refine wpAnyH_take (i := 15) (v := ?_) rfl (by kernel_rfl) (by kernel_rfl) (by kernel_rfl) (fun _ _ _ h => h) (Or.inl ⟨by kernel_rfl, ?_⟩) (by assumption) ?_
      rotate_left
      · intro w hSw; obtain ⟨_, _, hSw⟩ := hSw; (try dsimp only at hSw); go_simp; try with_reducible rfl
      try simp only [Act.put, List.setIfInBounds_toArray, List.set_cons_zero, List.set_cons_succ]
      refine wpAnyH_ready (rs := [16]) (by kernel_rfl) (by simp) ?_
      refine AllReadyH.cons rfl (fun K hK => ?_) AllReadyH.nil
      go_simp
      go_wp2_with ((with_reducible refine ((HK2.out _ hHeld.1).2).mono ?_); rintro e wb ⟨rfl, hbb⟩)
      refine hK.out _ _ (HS.out _ _ hHeld hbb) (fun hHeld => ?_)
      clear hK K
      try simp only [Act.put, List.setIfInBounds_toArray, List.set_cons_zero, List.set_cons_succ]
      refine wpAnyH_take (i := 17) (v := ?_) rfl (by kernel_rfl) (by kernel_rfl) (by kernel_rfl) (fun _ _ _ h => h) (Or.inl ⟨by kernel_rfl, ?_⟩) (by assumption) ?_
      rotate_left
      · intro w hSw; obtain ⟨_, _, hSw⟩ := hSw; (try dsimp only at hSw); go_simp; try with_reducible rfl
      try simp only [Act.put, List.setIfInBounds_toArray, List.set_cons_zero, List.set_cons_succ]
      refine wpAnyH_take (i := 18) (v := ?_) rfl (by kernel_rfl) (by kernel_rfl) (by kernel_rfl) (fun _ _ _ h => h) (Or.inl ⟨by kernel_rfl, ?_⟩) (by assumption) ?_
      rotate_left
      · intro w hSw; obtain ⟨_, _, hSw⟩ := hSw; (try dsimp only at hSw); go_simp; try with_reducible rfl
      try simp only [Act.put, List.setIfInBounds_toArray, List.set_cons_zero, List.set_cons_succ]
      refine wpAnyH_done (by kernel_rfl) ?_ _
      have HB := Lib.hid hHeld.1
      clear hHeld hb hbn hn
      go_wp2_with fail
      go_roundw
      case rel => exact ⟨k + 1, by omega, by go_num, HB.out⟩
      case measure => simp [intOf]; omega
    · have e1 : decide ((k : Int) < T.length) = false := by simp; omega
      have HB := Lib.hid hb
      clear hb
      go_wp2_with fail
      go_ret
      exact ⟨rfl, HB.out⟩
end Go.Proofs.Ytddjbchlpfaggaa.PfS3
