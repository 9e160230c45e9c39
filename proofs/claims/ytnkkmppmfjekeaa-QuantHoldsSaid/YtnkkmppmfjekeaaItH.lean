/- Where one diagram is true another, else a third: the maths of the step. -/
import Derived.Test.YtnkkmppmfjekeaaItF
namespace Go.Proofs.Ytnkkmppmfjekeaa.ItH
open Go.Proofs.Ytnkkmppmfjekeaa.CaA Go.Proofs.Ytnkkmppmfjekeaa.NdA Go.Proofs.Ytnkkmppmfjekeaa.NdC Go.Proofs.Ytnkkmppmfjekeaa.NdI Go.Proofs.Ytnkkmppmfjekeaa.NdL Go.Proofs.Ytnkkmppmfjekeaa.ItA Go.Proofs.Ytnkkmppmfjekeaa.ItB Go.Proofs.Ytnkkmppmfjekeaa.ItE
set_option linter.unusedVariables false
def iteF (L : List Nd) (f g h : Int) : ItA.Fn := fun b => if ev L b f then ev L b g else ev L b h
def xorF (L : List Nd) (f g : Int) : ItA.Fn := fun b => ev L b f != ev L b g
/-- A diagram of s whose variables aren't ahead of K - n. -/
structure Dg (s : St) (n : Nat) (f : Int) : Prop where
  is : isB s f = true
  var : (s.vars : Int) ≤ varI s f + n
theorem isT {s : St} {f : Int} : isB s f = isB (T s.vars s.L) f := rfl
theorem zero_is (s : St) : isB s 0 = true := isB_iff.2 ⟨by omega, by omega⟩
theorem one_is (s : St) : isB s 1 = true := isB_iff.2 ⟨by omega, by omega⟩
theorem zero_dg (s : St) (n : Nat) : Dg s n 0 := ⟨zero_is s, by have : varI s 0 = s.vars := varI_small (K := s.vars) (L := s.L) (by omega); omega⟩
theorem one_dg (s : St) (n : Nat) : Dg s n 1 := ⟨one_is s, by have : varI s 1 = s.vars := varI_small (K := s.vars) (L := s.L) (by omega); omega⟩
theorem sim_dg {s : St} {n : Nat} {f g h : Int} (hf : Dg s n f) (hg : Dg s n g) (hh : Dg s n h) : Dg s n (simA f g h).1 ∧ Dg s n (simA f g h).2.1 ∧ Dg s n (simA f g h).2.2 := by
  unfold simA
  have h1 : Dg s n (if g = f then 1 else g) := by split <;> first | exact one_dg s n | exact hg
  have h2 : Dg s n (if h = f then 0 else h) := by split <;> first | exact zero_dg s n | exact hh
  simp only
  generalize (if g = f then (1 : Int) else g) = g' at *
  generalize (if h = f then (0 : Int) else h) = h' at *
  split
  · exact ⟨h1, hf, h2⟩
  · split
    · exact ⟨h2, h1, hf⟩
    · exact ⟨hf, h1, h2⟩
theorem sim_ite (L : List Nd) (f g h : Int) : iteF L (simA f g h).1 (simA f g h).2.1 (simA f g h).2.2 = iteF L f g h := by
  funext b
  have h1 : ∀ x : Int, (if ev L b f then ev L b (if g = f then 1 else g) else ev L b x) = if ev L b f then ev L b g else ev L b x := fun x => by
    by_cases e : g = f
    · subst e
      rw [if_pos rfl, ev_one]
      cases ev L b g <;> rfl
    · rw [if_neg e]
  have h2 : ∀ x : Int, (if ev L b f then ev L b x else ev L b (if h = f then 0 else h)) = if ev L b f then ev L b x else ev L b h := fun x => by
    by_cases e : h = f
    · subst e
      rw [if_pos rfl, ev_zero]
      cases ev L b h <;> rfl
    · rw [if_neg e]
  unfold iteF simA
  simp only
  rw [← h1, ← h2]
  generalize (if g = f then (1 : Int) else g) = g'
  generalize (if h = f then (0 : Int) else h) = h'
  split
  · rename_i hc
    rw [hc.1]
    simp only
    rw [ev_zero]
    cases ev L b g' <;> cases ev L b f <;> rfl
  · split
    · rename_i hc
      rw [hc.1]
      simp only
      rw [ev_one]
      cases ev L b h' <;> cases ev L b f <;> rfl
    · rfl
/-- A diagram hangs on its own variable, and greater ones, alone. -/
theorem dep_ev {s : St} (H : WF s) {f : Int} (hf : isB s f = true) {v : Nat} (hv : (v : Int) ≤ varI s f) : Dep s.vars v (fun b => ev s.L b f) := fun b c hbc => by
  obtain ⟨h0, _⟩ := isB_iff.1 hf
  obtain ⟨k, rfl⟩ : ∃ k : Nat, f = k := ⟨f.toNat, by omega⟩
  exact indep H k b c (fun i h1 h2 => hbc i (by omega) (by omega))
theorem dep_ite {s : St} (H : WF s) {f g h : Int} (hf : isB s f = true) (hg : isB s g = true) (hh : isB s h = true) {v : Nat} (vf : (v : Int) ≤ varI s f) (vg : (v : Int) ≤ varI s g) (vh : (v : Int) ≤ varI s h) : Dep s.vars v (iteF s.L f g h) := fun b c hbc => by
  unfold iteF
  have e1 := dep_ev H hf vf b c hbc
  have e2 := dep_ev H hg vg b c hbc
  have e3 := dep_ev H hh vh b c hbc
  simp only at e1 e2 e3
  rw [e1, e2, e3]
theorem dep_xor {s : St} (H : WF s) {f g : Int} (hf : isB s f = true) (hg : isB s g = true) {v : Nat} (vf : (v : Int) ≤ varI s f) (vg : (v : Int) ≤ varI s g) : Dep s.vars v (xorF s.L f g) := fun b c hbc => by
  unfold xorF
  have e1 := dep_ev H hf vf b c hbc
  have e2 := dep_ev H hg vg b c hbc
  simp only at e1 e2
  rw [e1, e2]
theorem part_eq {s : St} (H : WF s) {f : Int} (hf : isB s f = true) {v : Nat} (hv : (v : Int) ≤ varI s f) (c : Bool) : isB s (ItE.part s f v c) = true ∧ (v : Int) + 1 ≤ varI s (ItE.part s f v c) + (if v < s.vars then 0 else 1) ∧ ∀ b, ev s.L b (ItE.part s f v c) = ev s.L (put b v c) f := by
  unfold ItE.part
  by_cases hn : nodeB s f = true ∧ (at_ s f).v = v
  · rw [if_pos hn]
    obtain ⟨h1, h2⟩ := nodeB_iff.1 hn.1
    obtain ⟨i, hi⟩ : ∃ i : Nat, f = ((i + 2 : Nat) : Int) := ⟨(f - 2).toNat, by omega⟩
    have hil : i < s.L.length := by omega
    subst hi
    have hok := H.ok i hil
    have ea : at_ s ((i + 2 : Nat) : Int) = s.L[i] := at_idx hil
    have hv2 : s.L[i].v = v := by rw [← ea]; exact hn.2
    have hvn : s.L[i].v.toNat = v := by omega
    rw [ea]
    have l := low H hil
    have hh := high H hil
    rw [hvn] at l hh
    cases c with
    | false => exact ⟨isB_iff.2 ⟨hok.2.2.1, by simp only [if_neg (show ¬ (false = true) by simp)]; have := hok.2.2.2.1; omega⟩, by simp only [if_neg (show ¬ (false = true) by simp)]; have := hok.2.2.2.2.2.2.2.1; split <;> omega, fun b => (l b).symm⟩
    | true => exact ⟨isB_iff.2 ⟨hok.2.2.2.2.1, by simp only [if_true]; have := hok.2.2.2.2.2.1; omega⟩, by simp only [if_true]; have := hok.2.2.2.2.2.2.2.2; split <;> omega, fun b => (hh b).symm⟩
  · rw [if_neg hn]
    have hgt : (v : Int) < varI s f ∨ ¬ v < s.vars := by
      by_cases h : nodeB s f = true
      · have : varI s f = (at_ s f).v := by unfold varI; rw [if_pos h]
        have h2 : ¬ (at_ s f).v = (v : Int) := fun e => hn ⟨h, e⟩
        omega
      · have : varI s f = s.vars := by unfold varI; rw [if_neg h]
        omega
    refine ⟨hf, by split <;> omega, fun b => ?_⟩
    obtain ⟨h0, _⟩ := isB_iff.1 hf
    obtain ⟨k, rfl⟩ : ∃ k : Nat, f = k := ⟨f.toNat, by omega⟩
    refine (indep H k _ _ (fun i h1 h2 => ?_)).symm
    unfold put
    rw [if_neg (by omega)]
theorem part_dg {s : St} (H : WF s) {f : Int} (hf : isB s f = true) {v m : Nat} (hvm : v + 1 + m = s.vars) (hv : (v : Int) ≤ varI s f) (c : Bool) : Dg s m (ItE.part s f v c) := by
  obtain ⟨h1, h2, _⟩ := part_eq H hf hv c
  exact ⟨h1, by rw [if_pos (by omega)] at h2; omega⟩
theorem cof_ite {s : St} (H : WF s) {f g h : Int} (hf : isB s f = true) (hg : isB s g = true) (hh : isB s h = true) {v : Nat} (vf : (v : Int) ≤ varI s f) (vg : (v : Int) ≤ varI s g) (vh : (v : Int) ≤ varI s h) (c : Bool) : cof (iteF s.L f g h) v c = iteF s.L (ItE.part s f v c) (ItE.part s g v c) (ItE.part s h v c) := by
  funext b
  unfold cof iteF
  rw [(part_eq H hf vf c).2.2, (part_eq H hg vg c).2.2, (part_eq H hh vh c).2.2]
theorem cof_xor {s : St} (H : WF s) {f g : Int} (hf : isB s f = true) (hg : isB s g = true) {v : Nat} (vf : (v : Int) ≤ varI s f) (vg : (v : Int) ≤ varI s g) (c : Bool) : cof (xorF s.L f g) v c = xorF s.L (ItE.part s f v c) (ItE.part s g v c) := by
  funext b
  unfold cof xorF
  rw [(part_eq H hf vf c).2.2, (part_eq H hg vg c).2.2]
/-- What was a diagram is one behind it, and the same. -/
theorem Dg.app {s s1 : St} {n : Nat} {f : Int} (h : Dg s n f) (hp : ∃ X, s1.L = s.L ++ X) (hv : s1.vars = s.vars) : Dg s1 n f := by
  obtain ⟨X, hX⟩ := hp
  have e1 : isB s1 f = isB (T s.vars (s.L ++ X)) f := by show (decide _ && decide (f < 2 + (s1.L.length : Int))) = _; rw [hX]; rfl
  have e2 : varI s1 f = varI (T s.vars (s.L ++ X)) f := by
    show (if (decide (2 ≤ f) && decide (f < 2 + (s1.L.length : Int))) = true then (s1.L.getD (f - 2).toNat ⟨0, 0, 0⟩).v else (s1.vars : Int)) = _
    rw [hX, hv]
    rfl
  exact ⟨e1.trans (is_app h.is), by rw [e2, hv, varI_app (K := s.vars) (L := s.L) h.is]; exact h.var⟩
theorem is_more {s s1 : St} {f : Int} (h : isB s f = true) (hp : ∃ X, s1.L = s.L ++ X) : isB s1 f = true := by
  obtain ⟨X, hX⟩ := hp
  obtain ⟨h1, h2⟩ := isB_iff.1 h
  exact isB_iff.2 ⟨h1, by rw [hX, List.length_append]; omega⟩
theorem ite_app {s s1 : St} {f g h : Int} (hf : isB s f = true) (hg : isB s g = true) (hh : isB s h = true) (hp : ∃ X, s1.L = s.L ++ X) : iteF s1.L f g h = iteF s.L f g h := by
  obtain ⟨X, hX⟩ := hp
  funext b
  unfold iteF
  rw [hX, ev_app (K := s.vars) hf, ev_app (K := s.vars) hg, ev_app (K := s.vars) hh]
theorem xor_app {s s1 : St} {f g : Int} (hf : isB s f = true) (hg : isB s g = true) (hp : ∃ X, s1.L = s.L ++ X) : xorF s1.L f g = xorF s.L f g := by
  obtain ⟨X, hX⟩ := hp
  funext b
  unfold xorF
  rw [hX, ev_app (K := s.vars) hf, ev_app (K := s.vars) hg]
/-- What is there already is answered, and nothing else changes. -/
theorem res_id {s : St} (H : WF s) (hI : Inv s) (hs : s.spent = false) {F : ItA.Fn} {r : Int} (hr : isB s r = true) (he : ∀ b, ev s.L b r = F b) : Res s (top s.vars s.L F).1 (top s.vars s.L F).2 r s := by
  rw [top_id (T_wf H) hr he]
  exact Or.inl ⟨hs, hI.len, rfl, rfl⟩
theorem res_spent {s : St} (hI : Inv s) (hs : s.spent = true) (r : Int) (M : List Nd) : Res s r M 0 s := Or.inr ⟨Or.inl hs, zero_is s, Sp.self hI hs⟩
theorem okq_T {K : Nat} {L : List Nd} {f : Int} : isB (T 0 L) f = isB (T K L) f := rfl
theorem top_pre {s : St} (H : WF s) {F : ItA.Fn} {v n : Nat} (hvn : v + n = s.vars) (hd : Dep s.vars v F) : (∃ X, (top s.vars s.L F).2 = s.L ++ X) ∧ (top s.vars s.L F).2.length + 1 ≤ s.L.length + 2 ^ n ∧ isB (T s.vars (top s.vars s.L F).2) (top s.vars s.L F).1 = true := by
  have := top_good (T_wf H) hvn hd
  exact ⟨this.pre, this.len, this.is⟩
theorem len_le {s s1 : St} {r a : Int} {M : List Nd} (hI : Inv s) (h : Res s r M a s1) (hp : ∃ X, M = s.L ++ X) : s1.L.length ≤ M.length := h.len hI (by obtain ⟨X, hX⟩ := hp; rw [hX, List.length_append]; omega)
end Go.Proofs.Ytnkkmppmfjekeaa.ItH
