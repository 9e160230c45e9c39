/- What a step of a proof must be (isPrin, fits), what is not known yet (the closure of Check), and whether one of some facts isn't (ContainsFunc), by contract. -/
import Derived.Test.YtddjbchlpfaggaaPfK
namespace Go.Proofs.Ytddjbchlpfaggaa.PfW
open Go.RowKit Go.Lib Go.Proofs Go.Maps Go.Proofs.Ytddjbchlpfaggaa.SetQ Go.Proofs.Ytddjbchlpfaggaa.SetR Go.Proofs.Ytddjbchlpfaggaa.TblC Go.Proofs.Ytddjbchlpfaggaa.TblV Go.Proofs.Ytddjbchlpfaggaa.TblQ Go.Proofs.Ytddjbchlpfaggaa.SemB Go.Proofs.Ytddjbchlpfaggaa.SemC Go.Proofs.Ytddjbchlpfaggaa.SemD Go.Proofs.Ytddjbchlpfaggaa.SemGa Go.Proofs.Ytddjbchlpfaggaa.SemJ Go.Proofs.Ytddjbchlpfaggaa.PfM Go.Proofs.Ytddjbchlpfaggaa.PfN Go.Proofs.Ytddjbchlpfaggaa.PfO Go.Proofs.Ytddjbchlpfaggaa.PfA Go.Proofs.Ytddjbchlpfaggaa.PfB Go.Proofs.Ytddjbchlpfaggaa.PfC Go.Proofs.Ytddjbchlpfaggaa.PfJ Go.Proofs.Ytddjbchlpfaggaa.PfK
set_option linter.unusedVariables false
set_option linter.unusedSimpArgs false
set_option maxHeartbeats 1000000 in
set_option maxRecDepth 100000 in
theorem isPrin (d0 d1 : Int) (v : Value) (x : Int) (w : World) : Calls Try.prog 33 #[.agg #[.int .i64 d0, .int .i64 d1, v], .int .i64 x] w fun e w' => e = .returned (.bool (decide (0 ≤ x ∧ x < d0))) ∧ Below w.heap.size w w' := by
  have hb := (Below.refl w.heap.size w).alloc (Nat.le_refl _) (.cells #[.int .i64 d0, .int .i64 d1, v] 50)
  have c0 := fun o => Lib.cell_of_heap (heap_alloc_new w (.cells #[.int .i64 d0, .int .i64 d1, v] 50)) o
  have HB := Lib.hid hb
  clear hb
  by_cases h1 : 0 ≤ x
  · have e1 : decide (0 ≤ x) = true := decide_eq_true h1
    by_cases h2 : x < d0
    · have e2 : decide (x < d0) = true := decide_eq_true h2
      rw [decide_eq_true (And.intro h1 h2)]
      go_enter Try.func33, Try.ntmps33
      go_wp2_with fail
      go_ret
      exact ⟨rfl, HB.out⟩
    · have e2 : decide (x < d0) = false := decide_eq_false h2
      rw [decide_eq_false (fun h : 0 ≤ x ∧ x < d0 => h2 h.2)]
      go_enter Try.func33, Try.ntmps33
      go_wp2_with fail
      go_ret
      exact ⟨rfl, HB.out⟩
  · have e1 : decide (0 ≤ x) = false := decide_eq_false h1
    rw [decide_eq_false (fun h : 0 ≤ x ∧ x < d0 => h1 h.1)]
    go_enter Try.func33, Try.ntmps33
    go_wp2_with fail
    go_ret
    exact ⟨rfl, HB.out⟩
set_option maxHeartbeats 4000000 in
set_option maxRecDepth 100000 in
theorem fits (d0 d1 : Int) (v : Value) (u : Ru) (s : Sp) (w : World) : Calls Try.prog 23 #[.agg #[.int .i64 d0, .int .i64 d1, v], .agg #[.int .i64 u.kind, .int .i64 u.head, .int .i64 u.who, .int .i64 u.a, .int .i64 u.b, .int .i64 u.via], .agg #[.int .i64 s.rule, .int .i64 s.role, .int .i64 s.who, .int .i64 s.mid]] w fun e w' => e = .returned (.bool (fitB d0 u s)) ∧ Below w.heap.size w w' := by
  unfold fitB
  obtain ⟨u0, u1, u2, u3, u4, u5⟩ := u
  obtain ⟨s0, s1, s2, s3⟩ := s
  simp only
  obtain ⟨w3, hw3, hb, x1, x2, x3, hsz⟩ := box3 w #[.int .i64 d0, .int .i64 d1, v] #[.int .i64 u0, .int .i64 u1, .int .i64 u2, .int .i64 u3, .int .i64 u4, .int .i64 u5] #[.int .i64 s0, .int .i64 s1, .int .i64 s2, .int .i64 s3] 50 44 30
  have HX := Lib.hid (fun w' (hb : Below w3.heap.size w3 w') => And.intro (fun o => Lib.cell_of_heap ((hb.block _ (lt_of x1)).trans x1) o) (And.intro (fun o => Lib.cell_of_heap ((hb.block _ (lt_of x2)).trans x2) o) (fun o => Lib.cell_of_heap ((hb.block _ (lt_of x3)).trans x3) o)))
  obtain ⟨c1, c2, c3⟩ := HX.out w3 (Below.refl _ _)
  have HP := Lib.hid (fun x w' => isPrin d0 d1 v x w')
  have HB := Lib.hid hb
  have HB2 := Lib.hid (fun w' (h : Below w3.heap.size w3 w') => nx hb h)
  clear hb x1 x2 x3 hsz
  obtain ⟨b2, h2⟩ : ∃ b, decide (0 ≤ s2 ∧ s2 < d0) = b := ⟨_, rfl⟩
  obtain ⟨b6, h6⟩ : ∃ b, decide (0 ≤ s3 ∧ s3 < d0) = b := ⟨_, rfl⟩
  have HP2 := Lib.hid (fun w' => HP.out s2 w')
  have HP6 := Lib.hid (fun w' => HP.out s3 w')
  rw [h2] at HP2
  rw [h6] at HP6
  rw [h2, h6]
  clear h2 h6 HP
  by_cases g1 : u1 = s1
  · subst g1
    have eu : decide (u1 = u1) = true := decide_eq_true rfl
    rw [eu]
    clear eu
    cases b2 with
    | false =>
      go_enter Try.func23, Try.ntmps23
      go_upto_region 1 with fail
      go_wp2_with fail
      refine (HP2.out _).mono ?_
      rintro e w4 ⟨rfl, hb4⟩
      have HB4 := Lib.hid (HB2.out _ hb4)
      clear c1 c2 c3 hb4
      go_wp2_with fail
      all_goals go_ret
      all_goals exact ⟨rfl, HB4.out⟩
    | true =>
      by_cases g3 : u0 = 3
      · subst g3
        go_enter Try.func23, Try.ntmps23
        go_upto_region 1 with fail
        go_wp2_with fail
        refine (HP2.out _).mono ?_
        rintro e w4 ⟨rfl, hb4⟩
        obtain ⟨c1, c2, c3⟩ := HX.out _ hb4
        have HB4 := Lib.hid hb4
        clear hb4
        go_wp2_with fail
        refine (HP6.out _).mono ?_
        rintro e w5 ⟨rfl, hb5⟩
        have HB5 := Lib.hid (HB2.out _ (nx HB4.out hb5))
        clear c1 c2 c3 hb5
        go_wp2_with fail
        go_ret
        exact ⟨by simp, HB5.out⟩
      · have d3 : (u0 == 3) = false := by simp [g3]
        rw [if_neg g3]
        by_cases g0 : u0 = 1
        · subst g0
          by_cases g4 : u2 = s2
          · subst g4
            go_enter Try.func23, Try.ntmps23
            go_upto_region 1 with fail
            go_wp2_with fail
            refine (HP2.out _).mono ?_
            rintro e w4 ⟨rfl, hb4⟩
            obtain ⟨c1, c2, c3⟩ := HX.out _ hb4
            have HB4 := Lib.hid (HB2.out _ hb4)
            clear hb4
            go_wp2_with fail
            go_ret
            exact ⟨by first | (simp; done) | (simp; rfl), HB4.out⟩
          · have d4 : (u2 == s2) = false := by simp [g4]
            have d4' : decide (u2 = s2) = false := by simp [g4]
            have d4'' : (u2 != s2) = true := by simp [g4]
            go_enter Try.func23, Try.ntmps23
            go_upto_region 1 with fail
            go_wp2_with fail
            refine (HP2.out _).mono ?_
            rintro e w4 ⟨rfl, hb4⟩
            obtain ⟨c1, c2, c3⟩ := HX.out _ hb4
            have HB4 := Lib.hid (HB2.out _ hb4)
            clear hb4
            go_wp2_with fail
            go_ret
            exact ⟨by first | (simp [g4]; done) | (simp [g4]; rfl), HB4.out⟩
        · have d0' : (u0 == 1) = false := by simp [g0]
          go_enter Try.func23, Try.ntmps23
          go_upto_region 1 with fail
          go_wp2_with fail
          refine (HP2.out _).mono ?_
          rintro e w4 ⟨rfl, hb4⟩
          obtain ⟨c1, c2, c3⟩ := HX.out _ hb4
          have HB4 := Lib.hid (HB2.out _ hb4)
          clear hb4
          go_wp2_with fail
          go_ret
          exact ⟨by first | (simp [g0]; done) | (simp [g0]; rfl), HB4.out⟩
  · have d1' : (u1 == s1) = false := by simp [g1]
    have d1'' : decide (u1 = s1) = false := by simp [g1]
    have d1c : (u1 != s1) = true := by simp [g1]
    rw [decide_eq_false g1]
    go_enter Try.func23, Try.ntmps23
    go_upto_region 1 with fail
    go_wp2_with fail
    all_goals go_ret
    all_goals exact ⟨rfl, HB.out⟩
set_option maxHeartbeats 1000000 in
set_option maxRecDepth 100000 in
theorem unk (w : World) (bp bm n : Nat) (kn : List Sp) (f : Fa) (hf : InR f) (hc : w.cell? ⟨bp, 0, none⟩ = some (.map (some bm))) (hm : MapV w 53 fv bm n (kmap kn)) :
    Calls Try.prog 21 #[.agg #[.int .i64 f.1, .int .i64 f.2], .pointer (some ⟨bp, 0, none⟩)] w fun e w' => e = .returned (.bool (!hasS kn f)) ∧ Below w.heap.size w w' := by
  obtain ⟨kl, hkl⟩ := keyF hf.1 hf.2
  obtain ⟨s, hs⟩ := kmap_val kn f
  have hb := (Below.refl w.heap.size w).alloc (Nat.le_refl _) (.cells #[.int .i64 f.1, .int .i64 f.2] 53)
  have hn := heap_alloc_new w (.cells #[.int .i64 f.1, .int .i64 f.2] 53)
  have l1 := (hm.below hb).look_ok lawF Try.underlying51 (zeroS _) hkl
  rw [hs, kmap_some] at l1
  have c1 := (hb.cell (p := ⟨bp, 0, none⟩) (World.block_lt_of_cell? _ _ hc)).trans hc
  have c2 := fun o => Lib.cell_of_heap hn o
  have HB := Lib.hid hb
  clear hb hn hm hc hs hkl hf
  unfold fv at l1
  generalize hasS kn f = ans at *
  obtain ⟨f1, f2⟩ := f
  simp only at *
  go_enter Try.func21, Try.ntmps21
  go_wp2_with fail
  go_ret
  exact ⟨rfl, HB.out.alloc (by simp) _⟩
/-- The closure as a value. -/
def unkV (bp : Nat) : Value := .func (.func 21) #[] #[.pointer (some ⟨bp, 0, none⟩)]
def Unk (w : World) (bp : Nat) (p : Fa → Bool) (D : List Fa) : Prop := ∀ w', Below w.heap.size w w' → ∀ f ∈ D, Calls Try.prog 21 #[.agg #[.int .i64 f.1, .int .i64 f.2], .pointer (some ⟨bp, 0, none⟩)] w' fun e w'' => e = .returned (.bool (p f)) ∧ Below w'.heap.size w' w''
def FG (w : World) (A : Option Addr) (D : List Fa) : Prop := 0 < D.length → ∃ g, A = some ⟨g, 0, none⟩ ∧ w.heap[g]? = some (.cells (encP D).toArray 53 (0, 0))
set_option maxHeartbeats 1000000 in
set_option maxRecDepth 100000 in
theorem idxF (w : World) (bp : Nat) (p : Fa → Bool) (D : List Fa) (A : Option Addr) (ca : Nat) (hU : Unk w bp p D) (hA : FG w A D) (hl : D.length ≤ 1000) :
    Calls Try.prog 34 #[.slice A D.length ca, unkV bp] w fun e w' => (∃ i : Int, e = .returned (.int .i64 i) ∧ decide (0 ≤ i) = D.any p) ∧ Below w.heap.size w w' := by
  have HF := Lib.hid hU
  have HN := Lib.hid (fun w' (hb : Below w.heap.size w w') (h : 0 < D.length) => by
    obtain ⟨g, e, hg⟩ := hA h
    exact (⟨g, e, (hb.block _ (lt_of hg)).trans hg⟩ : ∃ g, A = some ⟨g, 0, none⟩ ∧ w'.heap[g]? = some (.cells (encP D).toArray 53 (0, 0))))
  clear hU hA
  unfold unkV
  go_enter Try.func34, Try.ntmps34
  go_wp2_with fail
  go_loopw [8] (fun i wr => ∃ k : Nat, k ≤ D.length ∧ i = .int .i64 k ∧ Below w.heap.size w wr ∧ Hid ((D.take k).any p = false)) (fun i _ => D.length - (intOf i).toNat)
  case atStart => exact ⟨0, by omega, rfl, Below.refl _ _, Lib.hid rfl⟩
  case round =>
    obtain ⟨k, hk, rfl, hb, hall⟩ := hrel
    have HB := Lib.hid hb
    by_cases hlt : k < D.length
    · have e1 : decide ((k : Int) < D.length) = true := by simp; omega
      obtain ⟨g, rfl, hg⟩ := HN.out _ hb (by omega)
      obtain ⟨z0, z1⟩ := encP_at D k hlt
      have a0 : wr.cell? ⟨g, k * 2, none⟩ = some (.int .i64 D[k].1) := by rw [Lib.cell_of_heap hg]; simpa using z0
      have a1 : wr.cell? ⟨g, k * 2 + 1, none⟩ = some (.int .i64 D[k].2) := by rw [Lib.cell_of_heap hg]; simpa using z1
      have HFk := Lib.hid (HF.out _ hb D[k] (List.getElem_mem hlt))
      have HNX : Hid (p D[k] = false → (D.take (k + 1)).any p = false) := Lib.hid (fun h => by rw [List.take_succ_eq_append_getElem hlt, List.any_append, hall.out]; simp [h])
      have HST : Hid (p D[k] = true → decide (0 ≤ (k : Int)) = D.any p) := Lib.hid (fun h => by
        have e : D.any p = true := by
          rw [List.any_eq_true]
          exact ⟨D[k], List.getElem_mem hlt, h⟩
        rw [e]; simp)
      have q0 : (0 : Int) ≤ k := by omega
      have q1 : (k : Int) < D.length := by omega
      have hw : IntKind.i64.wrap ((k : Int) + 1) = (k : Int) + 1 := by rw [IntKind.wrap_i64]; omega
      clear hb hall hg z0 z1
      generalize D[k] = x at *
      obtain ⟨x1, x2⟩ := x
      simp only at HFk a0 a1
      cases hpx : p (x1, x2)
      · rw [hpx] at HFk
        have HE := Lib.hid (HNX.out hpx)
        clear hpx HST HNX
        go_wp2_with fail
        refine HFk.out.mono ?_
        rintro e w1 ⟨rfl, hb1⟩
        have HB1 := Lib.hid (SemI.nx HB.out hb1)
        clear hb1 a0 a1
        go_wp2_with fail
        go_roundw
        case rel => exact ⟨k + 1, by omega, by go_num, HB1.out, HE⟩
        case measure => simp [intOf]; omega
      · rw [hpx] at HFk
        have HE := Lib.hid (HST.out hpx)
        clear hpx HST HNX
        go_wp2_with fail
        refine HFk.out.mono ?_
        rintro e w1 ⟨rfl, hb1⟩
        have HB1 := Lib.hid (SemI.nx HB.out hb1)
        clear hb1 a0 a1
        go_wp2_with fail
        go_ret
        exact ⟨⟨_, rfl, HE.out⟩, HB1.out⟩
    · have e1 : decide ((k : Int) < D.length) = false := by simp; omega
      have HE : Hid (decide ((0 : Int) ≤ -1) = D.any p) := Lib.hid (by
        have := hall.out
        rw [List.take_of_length_le (by omega)] at this
        rw [this]; rfl)
      clear hb hall
      go_wp2_with fail
      go_ret
      exact ⟨⟨_, rfl, HE.out⟩, HB.out⟩
set_option maxRecDepth 100000 in
theorem contF (w : World) (bp : Nat) (p : Fa → Bool) (D : List Fa) (A : Option Addr) (ca : Nat) (hU : Unk w bp p D) (hA : FG w A D) (hl : D.length ≤ 1000) :
    Calls Try.prog 24 #[.slice A D.length ca, unkV bp] w fun e w' => e = .returned (.bool (D.any p)) ∧ Below w.heap.size w w' := by
  have HI := Lib.hid (idxF w bp p D A ca hU hA hl)
  clear hU hA
  generalize D.any p = r at *
  generalize unkV bp = fv at *
  go_enter Try.func24, Try.ntmps24
  go_wp2_with fail
  refine HI.out.mono ?_
  rintro e w1 ⟨⟨i, rfl, he⟩, hb1⟩
  have HB1 := Lib.hid hb1
  have HE := Lib.hid he
  clear hb1 HI he
  go_wp2_with fail
  go_ret
  exact ⟨SetB.ret_bool HE.out, HB1.out⟩
end Go.Proofs.Ytddjbchlpfaggaa.PfW
