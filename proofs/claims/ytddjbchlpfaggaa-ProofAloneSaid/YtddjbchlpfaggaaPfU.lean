/- The walk of the law that proofs are told just where somebody is in a role. -/
import Derived.Test.YtddjbchlpfaggaaPfS5
import Derived.Test.YtddjbchlpfaggaaSemRh
namespace Go.Proofs.Ytddjbchlpfaggaa.PfU
open Go.RowKit Go.Lib Go.Proofs Go.Maps Go.Proofs.Ytddjbchlpfaggaa.TblB Go.Proofs.Ytddjbchlpfaggaa.TblC Go.Proofs.Ytddjbchlpfaggaa.TblV Go.Proofs.Ytddjbchlpfaggaa.TblP Go.Proofs.Ytddjbchlpfaggaa.TblQ Go.Proofs.Ytddjbchlpfaggaa.SemA Go.Proofs.Ytddjbchlpfaggaa.SemB Go.Proofs.Ytddjbchlpfaggaa.SemGa Go.Proofs.Ytddjbchlpfaggaa.SemJ Go.Proofs.Ytddjbchlpfaggaa.SemK Go.Proofs.Ytddjbchlpfaggaa.SemSw Go.Proofs.Ytddjbchlpfaggaa.SemRf Go.Proofs.Ytddjbchlpfaggaa.SemRh Go.Proofs.Ytddjbchlpfaggaa.PfM Go.Proofs.Ytddjbchlpfaggaa.PfN Go.Proofs.Ytddjbchlpfaggaa.PfO Go.Proofs.Ytddjbchlpfaggaa.PfB Go.Proofs.Ytddjbchlpfaggaa.PfC Go.Proofs.Ytddjbchlpfaggaa.PfE Go.Proofs.Ytddjbchlpfaggaa.PfJ Go.Proofs.Ytddjbchlpfaggaa.PfL Go.Proofs.Ytddjbchlpfaggaa.PfR Go.Proofs.Ytddjbchlpfaggaa.PfS1 Go.Proofs.Ytddjbchlpfaggaa.PfS3 Go.Proofs.Ytddjbchlpfaggaa.PfS4 Go.Proofs.Ytddjbchlpfaggaa.PfS5
set_option linter.unusedVariables false
set_option linter.unusedSimpArgs false
/-- Is a fact stood on by one of these steps? -/
def ndB (K : Nat) (L : List Ru) (f : Fa) (l : List Sp) : Bool := l.any fun y => decide (f ∈ under K (ruleD L y.rule) y)
theorem ndB_step (K : Nat) (L : List Ru) (f : Fa) (l : List Sp) (j : Nat) (h : j < l.length) : ndB K L f (l.take (j + 1)) = (ndB K L f (l.take j) || decide (f ∈ under K (ruleD L l[j].rule) l[j])) := by
  unfold ndB
  rw [List.take_succ_eq_append_getElem h, List.any_append]
  simp
theorem nd_all {P K : Nat} {L : List Ru} {f : Fa} {T : List Sp} (h : Proof P K L f T) {i : Nat} (hi : i + 1 < T.length) : ndB K L T[i].fa (T.drop (i + 1)) = true := by
  have hn := h.need i T[i] (List.getElem?_eq_getElem (by omega))
  have hnd := chk_nd _ _ h.ck (by simp)
  rw [List.nil_append] at hnd
  rcases hn with q | ⟨b, y, hb, hy, hu⟩
  · exfalso
    obtain ⟨T', s, rfl, hs⟩ := h.last
    simp only [List.mem_singleton] at q
    rw [← hs] at q
    have hl : T'.length < (T' ++ [s]).length := by simp
    have hi2 : i < T'.length := by simp at hi; omega
    have e2 : (T' ++ [s])[T'.length] = s := by simp
    have := List.getElem_inj (xs := (T' ++ [s]).map Sp.fa) (i := i) (j := T'.length) (h₀ := by rw [List.length_map]; omega) (h₁ := by rw [List.length_map]; omega) hnd
    rw [List.getElem_map, List.getElem_map, e2] at this
    have := this.1 q
    omega
  · unfold ndB
    rw [List.any_eq_true]
    have hbl := (List.getElem?_eq_some_iff.1 hy).1
    refine ⟨y, ?_, by simpa [needs] using hu⟩
    refine List.mem_of_getElem? (i := b - (i + 1)) ?_
    rw [List.getElem?_drop, show i + 1 + (b - (i + 1)) = b by omega]
    exact hy
theorem der_pos {d0 d1 : Int} {L : List Ru} {T : List Sp} {f : Fa} (h : Proof d0.toNat d1.toNat L f T) : 0 ≤ d0 ∧ 0 ≤ d1 := by
  obtain ⟨T', s, rfl, hs⟩ := h.last
  have hc := h.ck
  obtain ⟨_, _, u, hu, _⟩ := chk_rng _ _ hc s (by simp)
  exact right_dims (ruleAt_some hu).2.2.2
theorem len_pf {P K : Nat} {L : List Ru} {f : Fa} {T : List Sp} (h : Proof P K L f T) (hP : P ≤ 10) (hK : K ≤ 6) : T.length ≤ 1000 := by
  have h1 := chk_len h.ck
  have h2 : P * K ≤ 10 * 6 := Nat.mul_le_mul hP hK
  have h3 : P * K * P ≤ 60 * 10 := Nat.mul_le_mul h2 hP
  omega
theorem checkD (d0 d1 : Int) (A : Option Addr) (ca : Nat) (L : List Ru) (B : Option Addr) (cb : Nat) (T : List Sp) (f : Fa) (w : World) (g1 : d0 ≤ 10) (g2 : d1 ≤ 6) (hL : L.length ≤ 60) (hcb : T.length ≤ cb) (hA : UG w A L) (hB : TG w B T) (hp : Proof d0.toNat d1.toNat L f T) :
    Calls Try.prog 8 #[.int .i64 d0, .int .i64 d1, .slice A L.length ca, .slice B T.length cb] w fun e w' => e = .returned (.bool true) ∧ Below w.heap.size w w' := by
  obtain ⟨p0, p1⟩ := der_pos hp
  obtain ⟨P, rfl⟩ : ∃ n : Nat, d0 = n := ⟨d0.toNat, by omega⟩
  obtain ⟨K, rfl⟩ : ∃ n : Nat, d1 = n := ⟨d1.toNat, by omega⟩
  simp only [Int.toNat_natCast] at hp
  have := len_pf hp (by omega) (by omega)
  exact check P K A ca L B cb T w (by omega) (by omega) hL (by omega) hcb hA hB hp.ck
theorem neededD (d0 d1 : Int) (A : Option Addr) (ca : Nat) (L : List Ru) (T : List Sp) (f : Fa) (w : World) (g1 : d0 ≤ 10) (g2 : d1 ≤ 6) (hL : L.length ≤ 60) (hA : UG w A L) (hp : Proof d0.toNat d1.toNat L f T) (j : Nat) (hj : j < T.length) (r y : Int) :
    Calls Try.prog 16 #[.int .i64 d1, .slice A L.length ca, .agg #[.int .i64 T[j].rule, .int .i64 T[j].role, .int .i64 T[j].who, .int .i64 T[j].mid], .int .i64 r, .int .i64 y] w fun e w' => e = .returned (.bool (decide ((r, y) ∈ under d1.toNat (ruleD L T[j].rule) T[j]))) ∧ Below w.heap.size w w' := by
  obtain ⟨p0, p1⟩ := der_pos hp
  obtain ⟨P, rfl⟩ : ∃ n : Nat, d0 = n := ⟨d0.toNat, by omega⟩
  obtain ⟨K, rfl⟩ : ∃ n : Nat, d1 = n := ⟨d1.toNat, by omega⟩
  simp only [Int.toNat_natCast] at hp ⊢
  have h1 := chk_at T [] j T[j] hp.ck (List.getElem?_eq_getElem hj)
  obtain ⟨u, hu, hf, _⟩ := okS_rng h1
  rw [ruleD_of hu]
  exact needed P K A ca L T[j].rule T[j].role T[j].who T[j].mid r y u w (by omega) (by omega) hL hA hu hf
set_option maxHeartbeats 4000000 in
set_option maxRecDepth 100000 in
theorem law (d0 d1 r x : Int) (A : Option Addr) (ca : Nat) (L : List Ru) (w : World) (hL : L.length ≤ maxLen) (hA : UG w A L) (hf : InR (r, x)) :
    Calls Try.prog 4 #[.agg #[.int .i64 d0, .int .i64 d1], .slice A L.length ca, .agg #[.int .i64 r, .int .i64 x]] w fun e w' => e = .returned (.bool true) ∧ Below w.heap.size w w' := by
  have hb0 : Below w.heap.size w ((w.alloc (.cells #[.int .i64 d0, .int .i64 d1] 22)).alloc (.cells #[.int .i64 r, .int .i64 x] 22)) := ((Below.refl _ _).alloc (Nat.le_refl _) _).alloc (by rw [World.size_alloc]; omega) _
  have hd1 := heap_alloc2_old w (.cells #[.int .i64 d0, .int .i64 d1] 22) (.cells #[.int .i64 r, .int .i64 x] 22)
  have hd2 := heap_alloc2_new w (.cells #[.int .i64 d0, .int .i64 d1] 22) (.cells #[.int .i64 r, .int .i64 x] 22)
  have HD1 := Lib.hid hd1
  have HD2 := Lib.hid hd2
  have HSm := Lib.hid (fun w' => small d0 d1 A ca L.length (by unfold maxLen at hL; exact hL) w')
  have HLv := Lib.hid (fun w' => lives w')
  have HB0 := Lib.hid hb0
  have HUA := Lib.hid (hA.below hb0)
  clear hb0 hA hd1 hd2
  cases hs : smallB d0 d1 L.length
  · rw [hs] at HSm
    clear hs HUA
    go_enter Try.func4, Try.ntmps4
    go_upto_region 1 with fail
    obtain ⟨bx, hbx⟩ : ∃ bx, w.heap.size = bx := ⟨_, rfl⟩
    simp only [hbx] at HD1 HD2 ⊢
    generalize (w.alloc (.cells #[.int .i64 d0, .int .i64 d1] 22)).alloc (.cells #[.int .i64 r, .int .i64 x] 22) = w0 at *
    have c0 := fun o => Lib.cell_of_heap HD1.out o
    go_wp2_with fail
    refine (HSm.out _).mono ?_
    rintro e w1 ⟨rfl, rfl⟩
    clear c0 HD1 HD2 HSm
    go_wp2_with fail
    refine (HLv.out _).mono ?_
    rintro e w2 ⟨rfl, hb⟩
    have HF := Lib.hid (SemI.nx HB0.out hb)
    clear hb HLv HB0
    go_wp2_with fail
    go_ret
    exact ⟨rfl, by first | exact HF.out | (rw [← hbx]; exact HF.out)⟩
  · rw [hs] at HSm
    unfold smallB at hs
    simp only [Bool.and_eq_true, decide_eq_true_eq] at hs
    obtain ⟨s1, s2, s3⟩ := hs
    have HEr := Lib.hid (fun w' hu => evalR d0 d1 A ca L w' (by omega) hu d0.toNat d1.toNat (by omega) (by omega))
    have HWy := Lib.hid (fun w' hu => why d0 d1 A ca L (r, x) w' s1 s2 s3 hu hf)
    have HCk := Lib.hid (fun w' hu B cb T hcb hB hp => checkD d0 d1 A ca L B cb T (r, x) w' s1 s2 s3 hcb hu hB hp)
    have HNd := Lib.hid (fun w' hu T hp => neededD d0 d1 A ca L T (r, x) w' s1 s2 s3 hu hp)
    have HLn : Hid (∀ T, Proof d0.toNat d1.toNat L (r, x) T → T.length ≤ 1000) := Lib.hid (fun T hp => len_pf hp (by omega) (by omega))
    unfold WhyPost at HWy
    generalize d0.toNat = P at *
    generalize d1.toNat = K at *
    clear s1 s2 s3 hf
    go_enter Try.func4, Try.ntmps4
    go_upto_region 1 with fail
    obtain ⟨bx, hbx⟩ : ∃ bx, w.heap.size = bx := ⟨_, rfl⟩
    simp only [hbx] at HD1 HD2 ⊢
    generalize (w.alloc (.cells #[.int .i64 d0, .int .i64 d1] 22)).alloc (.cells #[.int .i64 r, .int .i64 x] 22) = w0 at *
    have HC1 := Lib.hid (fun w' (hb : Below w0.heap.size w0 w') (o : Nat) => Lib.cell_of_heap ((hb.block _ (lt_of HD1.out)).trans HD1.out) o)
    have HC2 := Lib.hid (fun w' (hb : Below w0.heap.size w0 w') (o : Nat) => Lib.cell_of_heap ((hb.block _ (lt_of HD2.out)).trans HD2.out) o)
    clear HD1 HD2
    have c0 := HC1.out w0 (Below.refl _ _)
    go_wp2_with fail
    refine (HSm.out _).mono ?_
    rintro e w1 ⟨rfl, rfl⟩
    clear HSm
    go_wp2_with fail
    refine (HEr.out _ HUA.out).mono ?_
    rintro e w3 ⟨mo, rfl, hmo, hb3⟩
    have HB3 := Lib.hid hb3
    have HMo := Lib.hid hmo
    clear hb3 hmo c0 HEr
    have c0 := HC1.out w3 HB3.out
    have c1 := HC2.out w3 HB3.out
    go_wp2_with fail
    refine (HWy.out _ (HUA.out.below HB3.out)).mono ?_
    rintro e w4 ⟨hb4, hwhy⟩
    have HB4 := Lib.hid (SemI.nx HB3.out hb4)
    have HHas := Lib.hid (hasR (HMo.out.below hb4) r x)
    have HW := Lib.hid hwhy
    clear hwhy hb4 c0 c1 HWy HMo HB3
    have c0 := HC1.out w4 HB4.out
    have c1 := HC2.out w4 HB4.out
    rcases HW.out with ⟨hd, A2, c2, T, rfl, htg, hcap, hpr⟩ | ⟨hd, rfl⟩
    · rw [hd] at HHas
      clear hd HW
      have HT := Lib.hid htg
      have HCap := Lib.hid hcap
      have HP := Lib.hid hpr
      clear htg hcap hpr
      go_wp2_with fail
      refine HHas.out.mono ?_
      rintro e w5 ⟨rfl, hb5⟩
      have HB5 := Lib.hid (SemI.nx HB4.out hb5)
      have HT5 := Lib.hid (HT.out.below hb5)
      clear hb5 HHas HB4 HT c0 c1
      obtain ⟨m, hm⟩ : ∃ m, T.length = m + 1 := by
        obtain ⟨T', s, rfl, _⟩ := HP.out.last
        exact ⟨T'.length, by simp⟩
      obtain ⟨g, o, rfl, hg, hc⟩ := HT5.out (by omega)
      have hfa : (T[m].role = r ∧ T[m].who = x) := by
        obtain ⟨T', s, rfl, hs⟩ := HP.out.last
        have : m = T'.length := by simp at hm; omega
        subst this
        simp only [List.getElem_append_right (Nat.le_refl _), Nat.sub_self, List.getElem_cons_zero]
        simpa [Sp.fa] using hs
      have HCk2 := Lib.hid (fun w' (hb : Below w5.heap.size w5 w') => HCk.out w' (HUA.out.below (SemI.nx HB5.out hb)) (some ⟨g, o, none⟩) c2 T HCap.out (HT5.out.below hb) HP.out)
      have hy : ∀ w', Below w5.heap.size w5 w' → w'.cell? ⟨g, o + m * 4 + 1, none⟩ = some (.int .i64 r) ∧ w'.cell? ⟨g, o + m * 4 + 2, none⟩ = some (.int .i64 x) := fun w' hb => by
        have z1 := (hb.cell (p := ⟨g, o + m * 4 + 1, none⟩) hg).trans (hc m (by omega) 1 (by omega))
        have z2 := (hb.cell (p := ⟨g, o + m * 4 + 2, none⟩) hg).trans (hc m (by omega) 2 (by omega))
        rw [← hfa.1, ← hfa.2]
        exact ⟨z1, z2⟩
      rw [hm] at HCk2
      have HLen := Lib.hid (HLn.out T HP.out)
      have hlen := HLen.out
      have HN2 := Lib.hid (fun w' (hb : Below w5.heap.size w5 w') => HNd.out w' (HUA.out.below (SemI.nx HB5.out hb)) T HP.out)
      have HCap2 := Lib.hid (show m + 1 ≤ c2 by rw [← hm]; exact HCap.out)
      have hcap2 := HCap2.out
      simp only [hm]
      have hw1 : IntKind.i64.wrap ((m : Int) + 1 - 1) = m := by rw [IntKind.wrap_i64]; omega
      have hw2 : IntKind.i64.wrap (m : Int) = m := by rw [IntKind.wrap_i64]; omega
      have q0 : (0 : Int) ≤ m := by omega
      have q1 : (m : Int) < ((m + 1 : Nat) : Int) := by omega
      have q2 : (m : Int) < (m : Int) + 1 := by omega
      have HS : Hid (∀ w', Below w5.heap.size w5 w' → Below w5.heap.size w5 w' ∧ (∀ o, w'.cell? ⟨bx, o, none⟩ = (#[.int .i64 d0, .int .i64 d1] : Array Value)[o]?) ∧ (∀ o, w'.cell? ⟨bx + 1, o, none⟩ = (#[.int .i64 r, .int .i64 x] : Array Value)[o]?) ∧ w'.cell? ⟨g, o + m * 4 + 1, none⟩ = some (.int .i64 r) ∧ w'.cell? ⟨g, o + m * 4 + 2, none⟩ = some (.int .i64 x)) := Lib.hid (fun w' hb => ⟨hb, HC1.out w' (SemI.nx HB5.out hb), HC2.out w' (SemI.nx HB5.out hb), hy w' hb⟩)
      clear HCk HNd HLn hfa hc
      go_upto_region 10 with fail
      go_cut [94] from 61 to 93 (fun v wx => v = .bool false ∧ Hid (Below w5.heap.size w5 wx))
      case first =>
        have e0 : (((m : Int) + 1) == 0) = false := by simp; omega
        have H0 := HS.out w5.drew ((Below.refl _ _).drew)
        refine wp_region_held_drew (S := fun w' => Below w5.heap.size w5 w' ∧ (∀ o, w'.cell? ⟨bx, o, none⟩ = (#[.int .i64 d0, .int .i64 d1] : Array Value)[o]?) ∧ (∀ o, w'.cell? ⟨bx + 1, o, none⟩ = (#[.int .i64 r, .int .i64 x] : Array Value)[o]?) ∧ w'.cell? ⟨g, o + m * 4 + 1, none⟩ = some (.int .i64 r) ∧ w'.cell? ⟨g, o + m * 4 + 2, none⟩ = some (.int .i64 x)) (by kernel_rfl) H0 (fun hHeld => ?_)
        refine wpAnyH_take (i := 0) (v := ?_) rfl (by kernel_rfl) (by kernel_rfl) (by kernel_rfl) (fun _ _ _ h => h) (Or.inl ⟨by kernel_rfl, ?_⟩) (by assumption) ?_
        rotate_left
        · intro w hSw; obtain ⟨_, hS1, hS2, hS3, hS4⟩ := hSw; (try dsimp only at hS1 hS2 hS3 hS4); go_simp; try with_reducible rfl
        try simp (config := { maxSteps := 2000000 }) only [Act.put, List.setIfInBounds_toArray, List.set_cons_zero, List.set_cons_succ, List.getElem_toArray, List.getElem_cons_succ, List.getElem_cons_zero]
        refine wpAnyH_take (i := 1) (v := ?_) rfl (by kernel_rfl) (by kernel_rfl) (by kernel_rfl) (fun _ _ _ h => h) (Or.inl ⟨by kernel_rfl, ?_⟩) (by assumption) ?_
        rotate_left
        · intro w hSw; obtain ⟨_, hS1, hS2, hS3, hS4⟩ := hSw; (try dsimp only at hS1 hS2 hS3 hS4); go_simp; try with_reducible rfl
        try simp (config := { maxSteps := 2000000 }) only [Act.put, List.setIfInBounds_toArray, List.set_cons_zero, List.set_cons_succ, List.getElem_toArray, List.getElem_cons_succ, List.getElem_cons_zero]
        refine wpAnyH_take (i := 2) (v := ?_) rfl (by kernel_rfl) (by kernel_rfl) (by kernel_rfl) (fun _ _ _ h => h) (Or.inl ⟨by kernel_rfl, ?_⟩) (by assumption) ?_
        rotate_left
        · intro w hSw; obtain ⟨_, hS1, hS2, hS3, hS4⟩ := hSw; (try dsimp only at hS1 hS2 hS3 hS4); go_simp; try with_reducible rfl
        try simp (config := { maxSteps := 2000000 }) only [Act.put, List.setIfInBounds_toArray, List.set_cons_zero, List.set_cons_succ, List.getElem_toArray, List.getElem_cons_succ, List.getElem_cons_zero]
        refine wpAnyH_take (i := 3) (v := ?_) rfl (by kernel_rfl) (by kernel_rfl) (by kernel_rfl) (fun _ _ _ h => h) (Or.inl ⟨by kernel_rfl, ?_⟩) (by assumption) ?_
        rotate_left
        · intro w hSw; obtain ⟨_, hS1, hS2, hS3, hS4⟩ := hSw; (try dsimp only at hS1 hS2 hS3 hS4); go_simp; try with_reducible rfl
        try simp (config := { maxSteps := 2000000 }) only [Act.put, List.setIfInBounds_toArray, List.set_cons_zero, List.set_cons_succ, List.getElem_toArray, List.getElem_cons_succ, List.getElem_cons_zero]
        refine wpAnyH_take (i := 4) (v := ?_) rfl (by kernel_rfl) (by kernel_rfl) (by kernel_rfl) (fun _ _ _ h => h) (Or.inl ⟨by kernel_rfl, ?_⟩) (by assumption) ?_
        rotate_left
        · intro w hSw; obtain ⟨_, hS1, hS2, hS3, hS4⟩ := hSw; (try dsimp only at hS1 hS2 hS3 hS4); go_simp; try with_reducible rfl
        try simp (config := { maxSteps := 2000000 }) only [Act.put, List.setIfInBounds_toArray, List.set_cons_zero, List.set_cons_succ, List.getElem_toArray, List.getElem_cons_succ, List.getElem_cons_zero]
        refine wpAnyH_take (i := 5) (v := ?_) rfl (by kernel_rfl) (by kernel_rfl) (by kernel_rfl) (fun _ _ _ h => h) (Or.inl ⟨by kernel_rfl, ?_⟩) (by assumption) ?_
        rotate_left
        · intro w hSw; obtain ⟨_, hS1, hS2, hS3, hS4⟩ := hSw; (try dsimp only at hS1 hS2 hS3 hS4); go_simp; try with_reducible rfl
        try simp (config := { maxSteps := 2000000 }) only [Act.put, List.setIfInBounds_toArray, List.set_cons_zero, List.set_cons_succ, List.getElem_toArray, List.getElem_cons_succ, List.getElem_cons_zero]
        refine wpAnyH_take (i := 6) (v := ?_) rfl (by kernel_rfl) (by kernel_rfl) (by kernel_rfl) (fun _ _ _ h => h) (Or.inl ⟨by kernel_rfl, ?_⟩) (by assumption) ?_
        rotate_left
        · intro w hSw; obtain ⟨_, hS1, hS2, hS3, hS4⟩ := hSw; (try dsimp only at hS1 hS2 hS3 hS4); go_simp; try with_reducible rfl
        try simp (config := { maxSteps := 2000000 }) only [Act.put, List.setIfInBounds_toArray, List.set_cons_zero, List.set_cons_succ, List.getElem_toArray, List.getElem_cons_succ, List.getElem_cons_zero]
        refine wpAnyH_take (i := 7) (v := ?_) rfl (by kernel_rfl) (by kernel_rfl) (by kernel_rfl) (fun _ _ _ h => h) (Or.inl ⟨by kernel_rfl, ?_⟩) (by assumption) ?_
        rotate_left
        · intro w hSw; obtain ⟨_, hS1, hS2, hS3, hS4⟩ := hSw; (try dsimp only at hS1 hS2 hS3 hS4); go_simp; try with_reducible rfl
        try simp (config := { maxSteps := 2000000 }) only [Act.put, List.setIfInBounds_toArray, List.set_cons_zero, List.set_cons_succ, List.getElem_toArray, List.getElem_cons_succ, List.getElem_cons_zero]
        refine wpAnyH_take (i := 8) (v := ?_) rfl (by kernel_rfl) (by kernel_rfl) (by kernel_rfl) (fun _ _ _ h => h) (Or.inl ⟨by kernel_rfl, ?_⟩) (by assumption) ?_
        rotate_left
        · intro w hSw; obtain ⟨_, hS1, hS2, hS3, hS4⟩ := hSw; (try dsimp only at hS1 hS2 hS3 hS4); go_simp; try with_reducible rfl
        try simp (config := { maxSteps := 2000000 }) only [Act.put, List.setIfInBounds_toArray, List.set_cons_zero, List.set_cons_succ, List.getElem_toArray, List.getElem_cons_succ, List.getElem_cons_zero]
        refine wpAnyH_ready (rs := [9]) (by kernel_rfl) (by simp) ?_
        refine AllReadyH.cons rfl (fun K hK => ?_) AllReadyH.nil
        go_simp
        go_wp2_with ((with_reducible refine (HCk2.out _ hHeld.1).mono ?_); rintro e wa ⟨rfl, hba⟩)
        refine hK.out _ _ (HS.out _ (nx hHeld.1 hba)) (fun hHeld => ?_)
        clear hK K hba
        try simp (config := { maxSteps := 2000000 }) only [Act.put, List.setIfInBounds_toArray, List.set_cons_zero, List.set_cons_succ, List.getElem_toArray, List.getElem_cons_succ, List.getElem_cons_zero]
        refine wpAnyH_take (i := 10) (v := ?_) rfl (by kernel_rfl) (by kernel_rfl) (by kernel_rfl) (fun _ _ _ h => h) (Or.inl ⟨by kernel_rfl, ?_⟩) (by assumption) ?_
        rotate_left
        · intro w hSw; obtain ⟨_, hS1, hS2, hS3, hS4⟩ := hSw; (try dsimp only at hS1 hS2 hS3 hS4); go_simp; try with_reducible rfl
        try simp (config := { maxSteps := 2000000 }) only [Act.put, List.setIfInBounds_toArray, List.set_cons_zero, List.set_cons_succ, List.getElem_toArray, List.getElem_cons_succ, List.getElem_cons_zero]
        refine wpAnyH_take (i := 11) (v := ?_) rfl (by kernel_rfl) (by kernel_rfl) (by kernel_rfl) (fun _ _ _ h => h) (Or.inl ⟨by kernel_rfl, ?_⟩) (by assumption) ?_
        rotate_left
        · intro w hSw; obtain ⟨_, hS1, hS2, hS3, hS4⟩ := hSw; (try dsimp only at hS1 hS2 hS3 hS4); go_simp; try with_reducible rfl
        try simp (config := { maxSteps := 2000000 }) only [Act.put, List.setIfInBounds_toArray, List.set_cons_zero, List.set_cons_succ, List.getElem_toArray, List.getElem_cons_succ, List.getElem_cons_zero]
        refine wpAnyH_take (i := 12) (v := ?_) rfl (by kernel_rfl) (by kernel_rfl) (by kernel_rfl) (fun _ _ _ h => h) (Or.inl ⟨by kernel_rfl, ?_⟩) (by assumption) ?_
        rotate_left
        · intro w hSw; obtain ⟨_, hS1, hS2, hS3, hS4⟩ := hSw; (try dsimp only at hS1 hS2 hS3 hS4); go_simp; try with_reducible rfl
        try simp (config := { maxSteps := 2000000 }) only [Act.put, List.setIfInBounds_toArray, List.set_cons_zero, List.set_cons_succ, List.getElem_toArray, List.getElem_cons_succ, List.getElem_cons_zero]
        refine wpAnyH_take (i := 13) (v := ?_) rfl (by kernel_rfl) (by kernel_rfl) (by kernel_rfl) (fun _ _ _ h => h) (Or.inl ⟨by kernel_rfl, ?_⟩) (by assumption) ?_
        rotate_left
        · intro w hSw; obtain ⟨_, hS1, hS2, hS3, hS4⟩ := hSw; (try dsimp only at hS1 hS2 hS3 hS4); go_simp; try with_reducible rfl
        try simp (config := { maxSteps := 2000000 }) only [Act.put, List.setIfInBounds_toArray, List.set_cons_zero, List.set_cons_succ, List.getElem_toArray, List.getElem_cons_succ, List.getElem_cons_zero]
        refine wpAnyH_take (i := 14) (v := ?_) rfl (by kernel_rfl) (by kernel_rfl) (by kernel_rfl) (fun _ _ _ h => h) (Or.inl ⟨by kernel_rfl, ?_⟩) (by assumption) ?_
        rotate_left
        · intro w hSw; obtain ⟨_, hS1, hS2, hS3, hS4⟩ := hSw; (try dsimp only at hS1 hS2 hS3 hS4); go_simp; try with_reducible rfl
        try simp (config := { maxSteps := 2000000 }) only [Act.put, List.setIfInBounds_toArray, List.set_cons_zero, List.set_cons_succ, List.getElem_toArray, List.getElem_cons_succ, List.getElem_cons_zero]
        refine wpAnyH_take (i := 15) (v := ?_) rfl (by kernel_rfl) (by kernel_rfl) (by kernel_rfl) (fun _ _ _ h => h) (Or.inl ⟨by kernel_rfl, ?_⟩) (by assumption) ?_
        rotate_left
        · intro w hSw; obtain ⟨_, hS1, hS2, hS3, hS4⟩ := hSw; (try dsimp only at hS1 hS2 hS3 hS4); go_simp; try with_reducible rfl
        try simp (config := { maxSteps := 2000000 }) only [Act.put, List.setIfInBounds_toArray, List.set_cons_zero, List.set_cons_succ, List.getElem_toArray, List.getElem_cons_succ, List.getElem_cons_zero]
        refine wpAnyH_take (i := 16) (v := ?_) rfl (by kernel_rfl) (by kernel_rfl) (by kernel_rfl) (fun _ _ _ h => h) (Or.inl ⟨by kernel_rfl, ?_⟩) (by assumption) ?_
        rotate_left
        · intro w hSw; obtain ⟨_, hS1, hS2, hS3, hS4⟩ := hSw; (try dsimp only at hS1 hS2 hS3 hS4); go_simp; try with_reducible rfl
        try simp (config := { maxSteps := 2000000 }) only [Act.put, List.setIfInBounds_toArray, List.set_cons_zero, List.set_cons_succ, List.getElem_toArray, List.getElem_cons_succ, List.getElem_cons_zero]
        refine wpAnyH_take (i := 17) (v := ?_) rfl (by kernel_rfl) (by kernel_rfl) (by kernel_rfl) (fun _ _ _ h => h) (Or.inl ⟨by kernel_rfl, ?_⟩) (by assumption) ?_
        rotate_left
        · intro w hSw; obtain ⟨_, hS1, hS2, hS3, hS4⟩ := hSw; (try dsimp only at hS1 hS2 hS3 hS4); go_simp; try with_reducible rfl
        try simp (config := { maxSteps := 2000000 }) only [Act.put, List.setIfInBounds_toArray, List.set_cons_zero, List.set_cons_succ, List.getElem_toArray, List.getElem_cons_succ, List.getElem_cons_zero]
        refine wpAnyH_take (i := 18) (v := ?_) rfl (by kernel_rfl) (by kernel_rfl) (by kernel_rfl) (fun _ _ _ h => h) (Or.inl ⟨by kernel_rfl, ?_⟩) (by assumption) ?_
        rotate_left
        · intro w hSw; obtain ⟨_, hS1, hS2, hS3, hS4⟩ := hSw; (try dsimp only at hS1 hS2 hS3 hS4); go_simp; try with_reducible rfl
        try simp (config := { maxSteps := 2000000 }) only [Act.put, List.setIfInBounds_toArray, List.set_cons_zero, List.set_cons_succ, List.getElem_toArray, List.getElem_cons_succ, List.getElem_cons_zero]
        refine wpAnyH_take (i := 19) (v := ?_) rfl (by kernel_rfl) (by kernel_rfl) (by kernel_rfl) (fun _ _ _ h => h) (Or.inl ⟨by kernel_rfl, ?_⟩) (by assumption) ?_
        rotate_left
        · intro w hSw; obtain ⟨_, hS1, hS2, hS3, hS4⟩ := hSw; (try dsimp only at hS1 hS2 hS3 hS4); go_simp; try with_reducible rfl
        try simp (config := { maxSteps := 2000000 }) only [Act.put, List.setIfInBounds_toArray, List.set_cons_zero, List.set_cons_succ, List.getElem_toArray, List.getElem_cons_succ, List.getElem_cons_zero]
        refine wpAnyH_take (i := 20) (v := ?_) rfl (by kernel_rfl) (by kernel_rfl) (by kernel_rfl) (fun _ _ _ h => h) (Or.inl ⟨by kernel_rfl, ?_⟩) (by assumption) ?_
        rotate_left
        · intro w hSw; obtain ⟨_, hS1, hS2, hS3, hS4⟩ := hSw; (try dsimp only at hS1 hS2 hS3 hS4); go_simp; try with_reducible rfl
        try simp (config := { maxSteps := 2000000 }) only [Act.put, List.setIfInBounds_toArray, List.set_cons_zero, List.set_cons_succ, List.getElem_toArray, List.getElem_cons_succ, List.getElem_cons_zero]
        refine wpAnyH_take (i := 21) (v := ?_) rfl (by kernel_rfl) (by kernel_rfl) (by kernel_rfl) (fun _ _ _ h => h) (Or.inl ⟨by kernel_rfl, ?_⟩) (by assumption) ?_
        rotate_left
        · intro w hSw; obtain ⟨_, hS1, hS2, hS3, hS4⟩ := hSw; (try dsimp only at hS1 hS2 hS3 hS4); go_simp; try with_reducible rfl
        try simp (config := { maxSteps := 2000000 }) only [Act.put, List.setIfInBounds_toArray, List.set_cons_zero, List.set_cons_succ, List.getElem_toArray, List.getElem_cons_succ, List.getElem_cons_zero]
        refine wpAnyH_take (i := 22) (v := ?_) rfl (by kernel_rfl) (by kernel_rfl) (by kernel_rfl) (fun _ _ _ h => h) (Or.inl ⟨by kernel_rfl, ?_⟩) (by assumption) ?_
        rotate_left
        · intro w hSw; obtain ⟨_, hS1, hS2, hS3, hS4⟩ := hSw; (try dsimp only at hS1 hS2 hS3 hS4); go_simp; try with_reducible rfl
        try simp (config := { maxSteps := 2000000 }) only [Act.put, List.setIfInBounds_toArray, List.set_cons_zero, List.set_cons_succ, List.getElem_toArray, List.getElem_cons_succ, List.getElem_cons_zero]
        refine wpAnyH_take (i := 23) (v := ?_) rfl (by kernel_rfl) (by kernel_rfl) (by kernel_rfl) (fun _ _ _ h => h) (Or.inl ⟨by kernel_rfl, ?_⟩) (by assumption) ?_
        rotate_left
        · intro w hSw; obtain ⟨_, hS1, hS2, hS3, hS4⟩ := hSw; (try dsimp only at hS1 hS2 hS3 hS4); go_simp; try with_reducible rfl
        try simp (config := { maxSteps := 2000000 }) only [Act.put, List.setIfInBounds_toArray, List.set_cons_zero, List.set_cons_succ, List.getElem_toArray, List.getElem_cons_succ, List.getElem_cons_zero]
        refine wpAnyH_take (i := 24) (v := ?_) rfl (by kernel_rfl) (by kernel_rfl) (by kernel_rfl) (fun _ _ _ h => h) (Or.inl ⟨by kernel_rfl, ?_⟩) (by assumption) ?_
        rotate_left
        · intro w hSw; obtain ⟨_, hS1, hS2, hS3, hS4⟩ := hSw; (try dsimp only at hS1 hS2 hS3 hS4); go_simp; try with_reducible rfl
        try simp (config := { maxSteps := 2000000 }) only [Act.put, List.setIfInBounds_toArray, List.set_cons_zero, List.set_cons_succ, List.getElem_toArray, List.getElem_cons_succ, List.getElem_cons_zero]
        refine wpAnyH_take (i := 25) (v := ?_) rfl (by kernel_rfl) (by kernel_rfl) (by kernel_rfl) (fun _ _ _ h => h) (Or.inl ⟨by kernel_rfl, ?_⟩) (by assumption) ?_
        rotate_left
        · intro w hSw; obtain ⟨_, hS1, hS2, hS3, hS4⟩ := hSw; (try dsimp only at hS1 hS2 hS3 hS4); go_simp; try with_reducible rfl
        try simp (config := { maxSteps := 2000000 }) only [Act.put, List.setIfInBounds_toArray, List.set_cons_zero, List.set_cons_succ, List.getElem_toArray, List.getElem_cons_succ, List.getElem_cons_zero]
        refine wpAnyH_take (i := 26) (v := ?_) rfl (by kernel_rfl) (by kernel_rfl) (by kernel_rfl) (fun _ _ _ h => h) (Or.inl ⟨by kernel_rfl, ?_⟩) (by assumption) ?_
        rotate_left
        · intro w hSw; obtain ⟨_, hS1, hS2, hS3, hS4⟩ := hSw; (try dsimp only at hS1 hS2 hS3 hS4); go_simp; try with_reducible rfl
        try simp (config := { maxSteps := 2000000 }) only [Act.put, List.setIfInBounds_toArray, List.set_cons_zero, List.set_cons_succ, List.getElem_toArray, List.getElem_cons_succ, List.getElem_cons_zero]
        refine wpAnyH_take (i := 27) (v := ?_) rfl (by kernel_rfl) (by kernel_rfl) (by kernel_rfl) (fun _ _ _ h => h) (Or.inl ⟨by kernel_rfl, ?_⟩) (by assumption) ?_
        rotate_left
        · intro w hSw; obtain ⟨_, hS1, hS2, hS3, hS4⟩ := hSw; (try dsimp only at hS1 hS2 hS3 hS4); go_simp; try with_reducible rfl
        try simp (config := { maxSteps := 2000000 }) only [Act.put, List.setIfInBounds_toArray, List.set_cons_zero, List.set_cons_succ, List.getElem_toArray, List.getElem_cons_succ, List.getElem_cons_zero]
        refine wpAnyH_take (i := 28) (v := ?_) rfl (by kernel_rfl) (by kernel_rfl) (by kernel_rfl) (fun _ _ _ h => h) (Or.inl ⟨by kernel_rfl, ?_⟩) (by assumption) ?_
        rotate_left
        · intro w hSw; obtain ⟨_, hS1, hS2, hS3, hS4⟩ := hSw; (try dsimp only at hS1 hS2 hS3 hS4); go_simp; try with_reducible rfl
        try simp (config := { maxSteps := 2000000 }) only [Act.put, List.setIfInBounds_toArray, List.set_cons_zero, List.set_cons_succ, List.getElem_toArray, List.getElem_cons_succ, List.getElem_cons_zero]
        refine wpAnyH_take (i := 29) (v := ?_) rfl (by kernel_rfl) (by kernel_rfl) (by kernel_rfl) (fun _ _ _ h => h) (Or.inl ⟨by kernel_rfl, ?_⟩) (by assumption) ?_
        rotate_left
        · intro w hSw; obtain ⟨_, hS1, hS2, hS3, hS4⟩ := hSw; (try dsimp only at hS1 hS2 hS3 hS4); go_simp; try with_reducible rfl
        try simp (config := { maxSteps := 2000000 }) only [Act.put, List.setIfInBounds_toArray, List.set_cons_zero, List.set_cons_succ, List.getElem_toArray, List.getElem_cons_succ, List.getElem_cons_zero]
        refine wpAnyH_take (i := 30) (v := ?_) rfl (by kernel_rfl) (by kernel_rfl) (by kernel_rfl) (fun _ _ _ h => h) (Or.inl ⟨by kernel_rfl, ?_⟩) (by assumption) ?_
        rotate_left
        · intro w hSw; obtain ⟨_, hS1, hS2, hS3, hS4⟩ := hSw; (try dsimp only at hS1 hS2 hS3 hS4); go_simp; try with_reducible rfl
        try simp (config := { maxSteps := 2000000 }) only [Act.put, List.setIfInBounds_toArray, List.set_cons_zero, List.set_cons_succ, List.getElem_toArray, List.getElem_cons_succ, List.getElem_cons_zero]
        refine wpAnyH_take (i := 31) (v := ?_) rfl (by kernel_rfl) (by kernel_rfl) (by kernel_rfl) (fun _ _ _ h => h) (Or.inl ⟨by kernel_rfl, ?_⟩) (by assumption) ?_
        rotate_left
        · intro w hSw; obtain ⟨_, hS1, hS2, hS3, hS4⟩ := hSw; (try dsimp only at hS1 hS2 hS3 hS4); go_simp; try with_reducible rfl
        try simp (config := { maxSteps := 2000000 }) only [Act.put, List.setIfInBounds_toArray, List.set_cons_zero, List.set_cons_succ, List.getElem_toArray, List.getElem_cons_succ, List.getElem_cons_zero]
        refine wpAnyH_take (i := 32) (v := ?_) rfl (by kernel_rfl) (by kernel_rfl) (by kernel_rfl) (fun _ _ _ h => h) (Or.inl ⟨by kernel_rfl, ?_⟩) (by assumption) ?_
        rotate_left
        · intro w hSw; obtain ⟨_, hS1, hS2, hS3, hS4⟩ := hSw; (try dsimp only at hS1 hS2 hS3 hS4); go_simp; try with_reducible rfl
        try simp (config := { maxSteps := 2000000 }) only [Act.put, List.setIfInBounds_toArray, List.set_cons_zero, List.set_cons_succ, List.getElem_toArray, List.getElem_cons_succ, List.getElem_cons_zero]
        refine wpAnyH_take (i := 33) (v := ?_) rfl (by kernel_rfl) (by kernel_rfl) (by kernel_rfl) (fun _ _ _ h => h) (Or.inl ⟨by kernel_rfl, ?_⟩) (by assumption) ?_
        rotate_left
        · intro w hSw; obtain ⟨_, hS1, hS2, hS3, hS4⟩ := hSw; (try dsimp only at hS1 hS2 hS3 hS4); go_simp; try with_reducible rfl
        try simp (config := { maxSteps := 2000000 }) only [Act.put, List.setIfInBounds_toArray, List.set_cons_zero, List.set_cons_succ, List.getElem_toArray, List.getElem_cons_succ, List.getElem_cons_zero]
        refine wpAnyH_done (by kernel_rfl) ?_ _
        have HBx := Lib.hid hHeld.1
        clear hHeld
        go_wp2_with fail
        go_meet
        case rel => exact ⟨rfl, HBx⟩
      case rest =>
        obtain ⟨rfl, hcut⟩ := hcut
        have HB6 := Lib.hid (SemI.nx HB5.out hcut.out)
        have HTc := Lib.hid (HT5.out.below hcut.out)
        have HN6 := Lib.hid (fun w' (hb : Below wc.heap.size wc w') => HN2.out w' (nx hcut.out hb))
        clear hcut HN2 HCk2 HS hy HT5 HB5
        have hm1 : m ≤ 999 := by omega
        go_wp2_with fail
        go_loopw [100] (fun i wr => ∃ k : Nat, k ≤ m ∧ i = .int .i64 k ∧ Below wc.heap.size wc wr) (fun i _ => m - (intOf i).toNat)
        case atStart => exact ⟨0, by omega, rfl, Below.refl _ _⟩
        case round =>
          obtain ⟨k, hk, rfl, hb⟩ := hrel
          by_cases hlt : k < m
          · have e1 : decide ((k : Int) < m) = true := by simp; omega
            have e1' : decide (k < m) = true := by simp; omega
            have hkT : k < T.length := by omega
            obtain ⟨g', o', hgo, hgw, hc⟩ := HTc.out.below hb (by omega)
            simp only [Option.some.injEq, Addr.mk.injEq, and_true] at hgo
            obtain ⟨rfl, rfl⟩ := hgo
            have hc2 := hc k hkT
            have HAll := Lib.hid (nd_all HP.out (i := k) (by omega))
            generalize T[k] = s at *
            obtain ⟨s0, t1, t2, s3⟩ := s
            simp only [Sp.cells] at hc2
            have y0 : wr.cell? ⟨g, o + k * 4, none⟩ = some (.int .i64 s0) := hc2 0 (by omega)
            have y1 : wr.cell? ⟨g, o + k * 4 + 1, none⟩ = some (.int .i64 t1) := hc2 1 (by omega)
            have y2 : wr.cell? ⟨g, o + k * 4 + 2, none⟩ = some (.int .i64 t2) := hc2 2 (by omega)
            have y3 : wr.cell? ⟨g, o + k * 4 + 3, none⟩ = some (.int .i64 s3) := hc2 3 (by omega)
            clear hc2 hc
            have hn := heap_alloc_new wr (.cells #[.int .i64 s0, .int .i64 t1, .int .i64 t2, .int .i64 s3] 30)
            have hbn := hb.alloc hb.size (.cells #[.int .i64 s0, .int .i64 t1, .int .i64 t2, .int .i64 s3] 30)
            have q0 : (0 : Int) ≤ k := by omega
            have q1 : (k : Int) < m := by omega
            have hw3 : IntKind.i64.wrap ((k : Int) + 1) = (k : Int) + 1 := by rw [IntKind.wrap_i64]; omega
            have q3 : (0 : Int) ≤ (k : Int) + 1 := by omega
            have q4 : (k : Int) + 1 ≤ ((m + 1 : Nat) : Int) := by omega
            have q5 : (k : Int) + 1 ≤ (m : Int) + 1 := by omega
            go_wp2_with fail
            obtain ⟨wn, hwn⟩ : ∃ x, wr.alloc (.cells #[.int .i64 s0, .int .i64 t1, .int .i64 t2, .int .i64 s3] 30) = x := ⟨_, rfl⟩
            rw [hwn] at hn hbn ⊢
            have hbn1 : Below wr.heap.size wr wn := by rw [← hwn]; exact (Below.refl _ _).alloc (Nat.le_refl _) _
            have HBn := Lib.hid hbn
            have hls : wr.heap.size < wn.heap.size := lt_of hn
            clear hwn y0 y1 y2 y3 hbn
            go_loopw [13, 110] (fun v i wr2 => ∃ (b : Bool) (j : Nat), j ≤ m - k ∧ v = .bool b ∧ i = .int .i64 j ∧ Below wn.heap.size wn wr2 ∧ Hid (b = ndB K L (t1, t2) ((T.drop (k + 1)).take j))) (fun _ i _ => m - k - (intOf i).toNat)
            case atStart => exact ⟨false, 0, by omega, rfl, rfl, Below.refl _ _, Lib.hid rfl⟩
            case round =>
              obtain ⟨b, j, hj, rfl, rfl, hb2, HN3⟩ := hrel
              have hBox := (hb2.block _ hls).trans hn
              have hb2' := nx hbn1 hb2
              by_cases hlj : j < m - k
              · have e2 : decide ((j : Int) < ((m - k : Nat) : Int)) = true := by simp; omega
                have e2' : decide (j < m - k) = true := by simp; omega
                have hjT : k + 1 + j < T.length := by omega
                obtain ⟨g2, o2, hgo, hgw2, hc⟩ := HTc.out.below (nx hb hb2') (by omega)
                simp only [Option.some.injEq, Addr.mk.injEq, and_true] at hgo
                obtain ⟨rfl, rfl⟩ := hgo
                have hc2 := hc (k + 1 + j) hjT
                have HN4 := Lib.hid (fun w' (hb : Below wc.heap.size wc w') => HN6.out w' hb (k + 1 + j) hjT t1 t2)
                have hjD : j < (T.drop (k + 1)).length := by rw [List.length_drop]; omega
                have HSt := Lib.hid (ndB_step K L (t1, t2) (T.drop (k + 1)) j hjD)
                rw [List.getElem_drop] at HSt
                generalize T[k + 1 + j] = z at *
                obtain ⟨z0, z1, z2, z3⟩ := z
                simp only [Sp.cells] at hc2
                have eo : ∀ i, o + (k + 1 + j) * 4 + i = o + (k + 1) * 4 + j * 4 + i := fun i => by omega
                have y0 : wr.cell? ⟨g, o + (k + 1) * 4 + j * 4, none⟩ = some (.int .i64 z0) := by have := hc2 0 (by omega); rw [eo] at this; exact this
                have y1 : wr.cell? ⟨g, o + (k + 1) * 4 + j * 4 + 1, none⟩ = some (.int .i64 z1) := by have := hc2 1 (by omega); rw [eo] at this; exact this
                have y2 : wr.cell? ⟨g, o + (k + 1) * 4 + j * 4 + 2, none⟩ = some (.int .i64 z2) := by have := hc2 2 (by omega); rw [eo] at this; exact this
                have y3 : wr.cell? ⟨g, o + (k + 1) * 4 + j * 4 + 3, none⟩ = some (.int .i64 z3) := by have := hc2 3 (by omega); rw [eo] at this; exact this
                clear hc2 hc eo
                have q6 : (0 : Int) ≤ j := by omega
                have q7 : (j : Int) < ((m - k : Nat) : Int) := by omega
                have hwj : IntKind.i64.wrap ((j : Int) + 1) = (j : Int) + 1 := by rw [IntKind.wrap_i64]; omega
                have hba : Below wr.heap.size wr (wr.alloc (.cells #[.int .i64 z0, .int .i64 z1, .int .i64 z2, .int .i64 z3] 30)) := (Below.refl _ _).alloc (Nat.le_refl _) _
                have hzn := heap_alloc_new wr (.cells #[.int .i64 z0, .int .i64 z1, .int .i64 z2, .int .i64 z3] 30)
                have HBA := Lib.hid (nx hb2 hba)
                have HBB := Lib.hid (nx hb (nx hb2' hba))
                have hB2 := (hba.block _ (lt_of hBox)).trans hBox
                have c3 := fun o => Lib.cell_of_heap hB2 o
                have c4 := fun o => Lib.cell_of_heap hzn o
                have c0 := HC1.out _ (nx HB6.out (nx hb (nx hb2' hba)))
                have HUC := Lib.hid (HUA.out.below (nx HB6.out (nx hb (nx hb2' hba))))
                cases b with
                | true =>
                  clear HBB HN4 HUC
                  go_wp2_with fail
                  go_roundw
                  case rel => exact ⟨true, j + 1, by omega, rfl, by go_num, HBA.out, Lib.hid (by rw [HSt.out, ← HN3.out]; rfl)⟩
                  case measure => simp [intOf]; omega
                | false =>
                  have HCall := Lib.hid (HN4.out _ HBB.out)
                  simp only at HCall
                  clear HN4 HUC
                  go_wp2_with fail
                  refine HCall.out.mono ?_
                  rintro e w8 ⟨rfl, hb8⟩
                  have HBD := Lib.hid (nx HBA.out hb8)
                  clear c0 c3 c4 hb8 HCall y0 y1 y2 y3 HBB
                  go_wp2_with fail
                  go_roundw
                  case rel => exact ⟨_, j + 1, by omega, rfl, by go_num, HBD.out, Lib.hid (by rw [HSt.out, ← HN3.out]; rfl)⟩
                  case measure => simp [intOf]; omega
              · have e2 : decide ((j : Int) < ((m - k : Nat) : Int)) = false := by simp; omega
                have e2' : decide (j < m - k) = false := by simp; omega
                have hb1 : b = true := by
                  have h1 := HN3.out
                  rw [List.take_of_length_le (by rw [List.length_drop]; omega)] at h1
                  exact h1.trans HAll.out
                subst hb1
                have HBE := Lib.hid (nx hb hb2')
                clear hb hb2 hb2'
                go_wp2_with fail
                go_roundw
                case rel => exact ⟨k + 1, by omega, by go_num, HBE.out⟩
                case measure => simp [intOf]; omega
          · have e1 : decide ((k : Int) < m) = false := by simp; omega
            have HBk := Lib.hid (nx HB6.out hb)
            clear hb
            go_wp2_with fail
            refine (HLv.out _).mono ?_
            rintro e w7 ⟨rfl, hb7⟩
            have HF := Lib.hid (SemI.nx HB0.out (SemI.nx HBk.out hb7))
            clear hb7 HLv HB0 HBk
            go_wp2_with fail
            go_ret
            exact ⟨rfl, by first | exact HF.out | (rw [← hbx]; exact HF.out)⟩
    · rw [hd] at HHas
      clear hd HW
      go_wp2_with fail
      refine HHas.out.mono ?_
      rintro e w5 ⟨rfl, hb5⟩
      have HB5 := Lib.hid (SemI.nx HB4.out hb5)
      clear hb5 HHas HB4 c0 c1
      go_wp2_with fail
      refine (HLv.out _).mono ?_
      rintro e w6 ⟨rfl, hb6⟩
      have HF := Lib.hid (SemI.nx HB0.out (SemI.nx HB5.out hb6))
      clear hb6 HLv HB0 HB5
      go_wp2_with fail
      go_ret
      exact ⟨rfl, by first | exact HF.out | (rw [← hbx]; exact HF.out)⟩
end Go.Proofs.Ytddjbchlpfaggaa.PfU
