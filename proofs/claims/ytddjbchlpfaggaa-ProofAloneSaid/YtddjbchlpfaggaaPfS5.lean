/- Needed at any right step; the document's example of proofs. -/
import Derived.Test.YtddjbchlpfaggaaPfS4
namespace Go.Proofs.Ytddjbchlpfaggaa.PfS5
open Go.RowKit Go.Lib Go.Proofs Go.Maps Go.Proofs.Ytddjbchlpfaggaa.TblB Go.Proofs.Ytddjbchlpfaggaa.TblC Go.Proofs.Ytddjbchlpfaggaa.TblV Go.Proofs.Ytddjbchlpfaggaa.TblP Go.Proofs.Ytddjbchlpfaggaa.TblQ Go.Proofs.Ytddjbchlpfaggaa.SemA Go.Proofs.Ytddjbchlpfaggaa.SemB Go.Proofs.Ytddjbchlpfaggaa.SemGa Go.Proofs.Ytddjbchlpfaggaa.SemJ Go.Proofs.Ytddjbchlpfaggaa.SemK Go.Proofs.Ytddjbchlpfaggaa.PfM Go.Proofs.Ytddjbchlpfaggaa.PfN Go.Proofs.Ytddjbchlpfaggaa.PfO Go.Proofs.Ytddjbchlpfaggaa.PfB Go.Proofs.Ytddjbchlpfaggaa.PfC Go.Proofs.Ytddjbchlpfaggaa.PfE Go.Proofs.Ytddjbchlpfaggaa.PfJ Go.Proofs.Ytddjbchlpfaggaa.PfL Go.Proofs.Ytddjbchlpfaggaa.PfR Go.Proofs.Ytddjbchlpfaggaa.PfS1 Go.Proofs.Ytddjbchlpfaggaa.PfS4
set_option linter.unusedVariables false
set_option linter.unusedSimpArgs false
theorem needed (P K : Nat) (A : Option Addr) (ca : Nat) (L : List Ru) (s0 s1 s2 s3 r y : Int) (u : Ru) (w : World) (g1 : P ≤ 10) (g2 : K ≤ 6) (hL : L.length ≤ 60) (hA : UG w A L) (hu : ruleAt P K L s0 = some u) (hf : fitB P u ⟨s0, s1, s2, s3⟩ = true) :
    Calls Try.prog 16 #[.int .i64 K, .slice A L.length ca, .agg #[.int .i64 s0, .int .i64 s1, .int .i64 s2, .int .i64 s3], .int .i64 r, .int .i64 y] w fun e w' => e = .returned (.bool (decide ((r, y) ∈ under K u ⟨s0, s1, s2, s3⟩))) ∧ Below w.heap.size w w' := by
  obtain ⟨r0, r1, r2, r3⟩ := ruleAt_some hu
  obtain ⟨j, rfl⟩ : ∃ j : Nat, s0 = j := ⟨s0.toNat, by omega⟩
  rw [Int.toNat_natCast] at r1 r2
  have hLu : L[j] = u := by
    have := List.getElem?_eq_getElem r1
    rw [r2] at this
    simpa using this.symm
  obtain ⟨hk, _, _, _, _, hv⟩ := right_r r3
  obtain ⟨k, u1, u2, u3, u4, u5⟩ := u
  unfold fitB at hf
  simp only [Bool.and_eq_true, Bool.or_eq_true, Bool.not_eq_true', decide_eq_true_eq, decide_eq_false_iff_not] at hf hk hv
  obtain ⟨rfl, ⟨x0, x1⟩, hw, hm⟩ := hf
  rcases hk with rfl | rfl | rfl | rfl
  · have h := need1 K A ca L j u1 s2 s3 r y r1 u1 u2 u3 u4 u5 hLu w g2 hL hA
    have e : (decide ((r, y) ∈ under K ⟨1, u1, u2, u3, u4, u5⟩ ⟨j, u1, s2, s3⟩)) = false := by unfold under; simp
    rw [e]
    exact h
  · have h := need2 K A ca L j u1 s2 s3 r y r1 u1 u2 u3 u4 u5 hLu w g2 hL hA
    have e : (decide ((r, y) ∈ under K ⟨2, u1, u2, u3, u4, u5⟩ ⟨j, u1, s2, s3⟩)) = ((u3 == r) && (s2 == y)) := by
      unfold under
      rw [Bool.eq_iff_iff]
      simp
      constructor <;> (rintro ⟨rfl, rfl⟩; simp)
    rw [e]
    exact h
  · rw [if_pos rfl, decide_eq_true_eq] at hm
    have h := need3 K A ca L j u1 s2 s3 r y r1 u1 u2 u3 u4 u5 hLu w g2 hL hA (by omega) hv
    have e : (decide ((r, y) ∈ under K ⟨3, u1, u2, u3, u4, u5⟩ ⟨j, u1, s2, s3⟩)) = (((u3 == r) && (s3 == y)) || ((s3 * K + u5 == r) && (s2 == y))) := by
      unfold under
      rw [Bool.eq_iff_iff]
      simp
      constructor <;> (rintro (⟨rfl, rfl⟩ | ⟨rfl, rfl⟩) <;> simp)
    rw [e]
    exact h
  · have h := need4 K A ca L j u1 s2 s3 r y r1 u1 u2 u3 u4 u5 hLu w g2 hL hA
    have e : (decide ((r, y) ∈ under K ⟨4, u1, u2, u3, u4, u5⟩ ⟨j, u1, s2, s3⟩)) = ((s2 == y) && ((u3 == r) || (u4 == r))) := by
      unfold under
      rw [Bool.eq_iff_iff]
      simp
      constructor
      · rintro (⟨rfl, rfl⟩ | ⟨rfl, rfl⟩) <;> simp
      · rintro ⟨rfl, rfl | rfl⟩ <;> simp
    rw [e]
    exact h
theorem ex_ok {A : List Sp} {s : Sp} (h : okS 3 2 [ex1, ex2] A s = true) : s = ⟨1, 3, 2, 0⟩ ∨ ∃ x, s = ⟨0, 0, x, 0⟩ ∧ hasS A (3, x) = true := by
  obtain ⟨u, hu, hf, hn, _⟩ := okS_rng h
  obtain ⟨r0, r1, r2, _⟩ := ruleAt_some hu
  obtain ⟨a, b, c, d⟩ := s
  simp only at r0 r1 r2
  have hr : a = 0 ∨ a = 1 := by simp at r1; omega
  rcases hr with rfl | rfl
  · obtain rfl : ex1 = u := by simpa using r2
    unfold fitB at hf
    simp [ex1] at hf
    unfold under at hn
    simp [ex1] at hn
    obtain ⟨hb, _, hd⟩ := hf
    obtain rfl := of_decide_eq_true hb
    subst hd
    exact .inr ⟨c, rfl, hn⟩
  · obtain rfl : ex2 = u := by simpa using r2
    unfold fitB at hf
    simp [ex2] at hf
    obtain ⟨hb, _, hc, hd⟩ := hf
    obtain rfl := of_decide_eq_true hb
    obtain rfl := of_decide_eq_true hc
    subst hd
    exact .inl rfl
theorem ex_steps {T : List Sp} (h : chk 3 2 [ex1, ex2] [] T = true) : ∀ s ∈ T, s = ⟨1, 3, 2, 0⟩ ∨ s = ⟨0, 0, 2, 0⟩ := by
  have ho : ∀ s ∈ T, s = ⟨1, 3, 2, 0⟩ ∨ ∃ x, s = ⟨0, 0, x, 0⟩ ∧ ∃ t ∈ T, t.fa = (3, x) := fun s hs => by
    obtain ⟨i, hi, e⟩ := List.getElem_of_mem hs
    have h1 := chk_at T [] i s h (by rw [List.getElem?_eq_getElem hi, e])
    rw [List.nil_append] at h1
    rcases ex_ok h1 with h2 | ⟨x, h2, h3⟩
    · exact .inl h2
    · obtain ⟨t, ht, et⟩ := hasS_iff.1 h3
      exact .inr ⟨x, h2, t, List.mem_of_mem_take ht, et⟩
  intro s hs
  rcases ho s hs with h2 | ⟨x, rfl, t, ht, et⟩
  · exact .inl h2
  · rcases ho t ht with rfl | ⟨y, rfl, _⟩
    · simp [Sp.fa] at et
      subst et
      exact .inr rfl
    · simp [Sp.fa] at et
theorem ex_proof {T : List Sp} (h : Proof 3 2 [ex1, ex2] (0, 2) T) : T = [⟨1, 3, 2, 0⟩, ⟨0, 0, 2, 0⟩] := by
  obtain ⟨hc, ⟨T', s, rfl, hs⟩, _⟩ := h
  have hst := ex_steps hc
  have hnd := chk_nd _ _ hc (by simp)
  rw [chk_snoc] at hc
  simp only [Bool.and_eq_true, List.nil_append] at hc
  obtain ⟨h1, h2, h3⟩ := hc
  have es : s = ⟨0, 0, 2, 0⟩ := by
    rcases hst s (by simp) with rfl | rfl
    · simp [Sp.fa] at hs
    · rfl
  subst es
  have hall : ∀ x ∈ T', x = ⟨1, 3, 2, 0⟩ := fun x hx => by
    rcases hst x (by simp [hx]) with e | e
    · exact e
    · subst e
      have : hasS T' (Sp.fa ⟨0, 0, 2, 0⟩) = true := hasS_iff.2 ⟨_, hx, rfl⟩
      rw [this] at h3
      cases h3
  have hne : hasS T' (3, 2) = true := by
    rcases ex_ok h2 with e | ⟨x, e, hx⟩
    · simp at e
    · simp at e
      subst e
      exact hx
  match T', hall, hne, hnd with
  | [], _, hne, _ => simp [hasS] at hne
  | [a], hall, _, _ => rw [hall a (by simp)]; rfl
  | a :: b :: r, hall, _, hnd =>
    rw [hall a (by simp), hall b (by simp)] at hnd
    simp at hnd
set_option maxHeartbeats 1000000 in
set_option maxRecDepth 100000 in
theorem lives (w : World) : Calls Try.prog 7 #[] w fun e w' => e = .returned (.bool true) ∧ Below w.heap.size w w' := by
  have hb0 := (Below.refl w.heap.size w).alloc (Nat.le_refl _) (.cells #[.int .i64 2, .int .i64 0, .int .i64 0, .int .i64 3, .int .i64 0, .int .i64 0, .int .i64 1, .int .i64 3, .int .i64 2, .int .i64 0, .int .i64 0, .int .i64 0] 44)
  have hE := why 3 2 (some ⟨w.heap.size, 0, none⟩) 2 [ex1, ex2] (0, 2) (w.alloc (.cells #[.int .i64 2, .int .i64 0, .int .i64 0, .int .i64 3, .int .i64 0, .int .i64 0, .int .i64 1, .int .i64 3, .int .i64 2, .int .i64 0, .int .i64 0, .int .i64 0] 44)) (by omega) (by omega) (by simp) (ex_ug w) (by unfold InR; simp)
  unfold WhyPost at hE
  have e3 : Int.toNat 3 = 3 := rfl
  have e2 : Int.toNat 2 = 2 := rfl
  rw [e3, e2] at hE
  have HD : derB 3 2 [ex1, ex2] 0 2 = true := by
    rw [derB_iff, ex_right, ex_der]
    simp
  simp only [HD] at hE
  have HE := Lib.hid hE
  have HB0 := Lib.hid hb0
  clear hE hb0 e3 e2
  go_enter Try.func7, Try.ntmps7
  go_wp2_with fail
  refine HE.out.mono ?_
  rintro e w1 ⟨hb, ⟨_, A, ca, T, rfl, htg, hcap, hpr⟩ | ⟨hno, _⟩⟩
  · have hT := ex_proof hpr
    subst hT
    obtain ⟨g, o, rfl, hg, hc⟩ := htg (by simp)
    have HB := Lib.hid (nx HB0.out hb)
    have y0 : w1.cell? ⟨g, o, none⟩ = some (.int .i64 1) := by simpa [Sp.cells] using hc 0 (by simp) 0 (by omega)
    have y1 : w1.cell? ⟨g, o + 1, none⟩ = some (.int .i64 3) := by simpa [Sp.cells] using hc 0 (by simp) 1 (by omega)
    have y2 : w1.cell? ⟨g, o + 2, none⟩ = some (.int .i64 2) := by simpa [Sp.cells] using hc 0 (by simp) 2 (by omega)
    have y3 : w1.cell? ⟨g, o + 3, none⟩ = some (.int .i64 0) := by simpa [Sp.cells] using hc 0 (by simp) 3 (by omega)
    have y4 : w1.cell? ⟨g, o + 4, none⟩ = some (.int .i64 0) := by simpa [Sp.cells] using hc 1 (by simp) 0 (by omega)
    have y5 : w1.cell? ⟨g, o + 4 + 1, none⟩ = some (.int .i64 0) := by simpa [Sp.cells] using hc 1 (by simp) 1 (by omega)
    have y6 : w1.cell? ⟨g, o + 4 + 2, none⟩ = some (.int .i64 2) := by simpa [Sp.cells] using hc 1 (by simp) 2 (by omega)
    have y7 : w1.cell? ⟨g, o + 4 + 3, none⟩ = some (.int .i64 0) := by simpa [Sp.cells] using hc 1 (by simp) 3 (by omega)
    clear hc htg hpr hb
    go_wp2_with fail
    go_ret
    exact ⟨rfl, HB.out⟩
  · cases hno
end Go.Proofs.Ytddjbchlpfaggaa.PfS5
