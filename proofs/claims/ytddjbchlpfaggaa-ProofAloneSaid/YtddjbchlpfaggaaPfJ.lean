/- Telling a proof: the maths. Steps are told each behind those that it stands on. -/
import Derived.Test.YtddjbchlpfaggaaPfO
namespace Go.Proofs.Ytddjbchlpfaggaa.PfJ
open Go.Proofs.Ytddjbchlpfaggaa.TblB Go.Proofs.Ytddjbchlpfaggaa.TblC Go.Proofs.Ytddjbchlpfaggaa.TblV Go.Proofs.Ytddjbchlpfaggaa.TblP Go.Proofs.Ytddjbchlpfaggaa.TblQ Go.Proofs.Ytddjbchlpfaggaa.SemA Go.Proofs.Ytddjbchlpfaggaa.PfM Go.Proofs.Ytddjbchlpfaggaa.PfN Go.Proofs.Ytddjbchlpfaggaa.PfO
set_option linter.unusedVariables false
set_option linter.unusedSimpArgs false
/-- A step stands on a fact. -/
def needs (K : Nat) (L : List Ru) (x : Sp) (f : Fa) : Prop := f ∈ under K (ruleD L x.rule) x
/-- Each of these steps is asked for, or a later one stands on it. -/
def Need (K : Nat) (L : List Ru) (D : List Sp) (l : List Fa) : Prop := ∀ (a : Nat) (x : Sp), D[a]? = some x → x.fa ∈ l ∨ ∃ b y, a < b ∧ D[b]? = some y ∧ needs K L y x.fa
theorem Need.nil (K : Nat) (L : List Ru) (l : List Fa) : Need K L [] l := fun a x h => by simp at h
theorem Need.mono {K : Nat} {L : List Ru} {D : List Sp} {l l' : List Fa} (h : Need K L D l) (hl : ∀ f ∈ l, f ∈ l') : Need K L D l' := fun a x hx => (h a x hx).imp (hl _) id
theorem Need.app {K : Nat} {L : List Ru} {D E : List Sp} {l : List Fa} (h : Need K L D l) (h2 : Need K L E l) : Need K L (D ++ E) l := fun a x hx => by
  by_cases ha : a < D.length
  · rw [List.getElem?_append_left ha] at hx
    rcases h a x hx with q | ⟨b, y, q1, q2, q3⟩
    · exact .inl q
    · exact .inr ⟨b, y, q1, by rw [List.getElem?_append_left (List.getElem?_eq_some_iff.1 q2).1]; exact q2, q3⟩
  · rw [List.getElem?_append_right (by omega)] at hx
    rcases h2 _ x hx with q | ⟨b, y, q1, q2, q3⟩
    · exact .inl q
    · exact .inr ⟨D.length + b, y, by omega, by rw [List.getElem?_append_right (by omega), Nat.add_sub_cancel_left]; exact q2, q3⟩
/-- The step that stands on all that was asked for comes last. -/
theorem Need.last {K : Nat} {L : List Ru} {D : List Sp} {s : Sp} (h : Need K L D (under K (ruleD L s.rule) s)) : Need K L (D ++ [s]) [s.fa] := fun a x hx => by
  by_cases ha : a < D.length
  · rw [List.getElem?_append_left ha] at hx
    rcases h a x hx with q | ⟨b, y, q1, q2, q3⟩
    · exact .inr ⟨D.length, s, ha, by rw [List.getElem?_append_right (by omega)]; simp, q⟩
    · exact .inr ⟨b, y, q1, by rw [List.getElem?_append_left (List.getElem?_eq_some_iff.1 q2).1]; exact q2, q3⟩
  · rw [List.getElem?_append_right (by omega)] at hx
    have : a - D.length = 0 := by
      rcases Nat.eq_zero_or_pos (a - D.length) with h | h
      · exact h
      · rw [List.getElem?_eq_none (by simp; omega)] at hx; cases hx
    rw [this] at hx
    simp at hx
    subst hx
    exact .inl (by simp)
structure Ctx where
  P : Nat
  K : Nat
  L : List Ru
  kn : List Sp
  ck : chk P K L [] kn = true
/-- What was told: facts that are told, or are being told (pend); the steps. -/
structure TolS (c : Ctx) (told : List Fa) (T : List Sp) (pend : List Fa) : Prop where
  ck : chk c.P c.K c.L [] T = true
  sub : ∀ s ∈ T, s ∈ c.kn
  mem : ∀ f, f ∈ told ↔ hasS T f = true ∨ f ∈ pend
  nd : told.Nodup
  tk : ∀ f ∈ told, hasS c.kn f = true
  pn : ∀ f ∈ pend, hasS T f = false
theorem nodup_len {A B : List Fa} (hn : A.Nodup) (h : ∀ f ∈ A, f ∈ B) : A.length ≤ B.length := by
  have := SemA.sum_sub (fun _ => 1) A B hn h
  have e1 : ∀ (l : List Fa), (l.map fun _ => 1).sum = l.length := fun l => by induction l with
    | nil => rfl
    | cons a l ih => simp [ih]; omega
  rwa [e1, e1] at this
theorem TolS.len {c : Ctx} {told : List Fa} {T : List Sp} {pend : List Fa} (h : TolS c told T pend) : told.length ≤ c.P * c.K * c.P ∧ T.length ≤ c.P * c.K * c.P := by
  refine ⟨?_, chk_len h.ck⟩
  have h1 := nodup_len (B := c.kn.map Sp.fa) h.nd (fun f hf => by
    obtain ⟨s, hs, e⟩ := hasS_iff.1 (h.tk f hf)
    exact List.mem_map.2 ⟨s, hs, e⟩)
  rw [List.length_map] at h1
  exact Nat.le_trans h1 (chk_len c.ck)
/-- What telling one leaves. -/
structure TellTo (c : Ctx) (i : Nat) (f : Fa) (told : List Fa) (T : List Sp) (pend : List Fa) (told' : List Fa) (T' : List Sp) (D : List Sp) : Prop where
  eq : T' = T ++ D
  td : TolS c told' T' pend
  inn : ∀ s ∈ D, s ∈ c.kn.take (i + 1)
  has : hasS T' f = true
  need : Need c.K c.L D [f]
  last : f ∉ told → ∃ D' s, D = D' ++ [s] ∧ s.fa = f
theorem nd_kn (c : Ctx) : (c.kn.map Sp.fa).Nodup := by simpa using chk_nd c.kn [] c.ck (by simp)
theorem kn_one {c : Ctx} {i j : Nat} {s x : Sp} (h : c.kn[i]? = some s) (h' : c.kn[j]? = some x) (e : s.fa = x.fa) : i = j := by
  have hn := nd_kn c
  obtain ⟨l1, e1⟩ := List.getElem?_eq_some_iff.1 h
  obtain ⟨l2, e2⟩ := List.getElem?_eq_some_iff.1 h'
  have := List.getElem_inj (xs := c.kn.map Sp.fa) (i := i) (j := j) (h₀ := by simpa using l1) (h₁ := by simpa using l2) hn
  rw [← this]
  simp [e1, e2, e]
theorem not_take {c : Ctx} {i : Nat} {s : Sp} (h : c.kn[i]? = some s) {A : List Sp} (hA : ∀ x ∈ A, x ∈ c.kn.take i) : hasS A s.fa = false := by
  rw [Bool.eq_false_iff]
  intro q
  obtain ⟨x, hx, e⟩ := hasS_iff.1 q
  obtain ⟨j, hj, ej⟩ := List.getElem_of_mem (hA x hx)
  rw [List.length_take] at hj
  have : c.kn[j]? = some x := by
    rw [List.getElem_take] at ej
    rw [List.getElem?_eq_getElem (by omega), ej]
  have := kn_one h this e.symm
  omega
/-- The steps of what is known stand on those ahead. -/
theorem chk_at {P K : Nat} {L : List Ru} : ∀ (l A : List Sp) (i : Nat) (s : Sp), chk P K L A l = true → l[i]? = some s → okS P K L (A ++ l.take i) s = true
  | [], A, i, s, _, h => by simp at h
  | x :: l, A, 0, s, hc, h => by
    simp only [chk, Bool.and_eq_true] at hc
    simp at h
    subst h
    simpa using hc.1.1
  | x :: l, A, i + 1, s, hc, h => by
    simp only [chk, Bool.and_eq_true] at hc
    have := chk_at l (A ++ [x]) i s hc.2 (by simpa using h)
    simpa using this
theorem ctx_at (c : Ctx) {i : Nat} {s : Sp} (h : c.kn[i]? = some s) : ∃ u, ruleAt c.P c.K c.L s.rule = some u ∧ fitB c.P u s = true ∧ (∀ f ∈ under c.K u s, hasS (c.kn.take i) f = true) ∧ okS c.P c.K c.L (c.kn.take i) s = true := by
  have h1 := chk_at c.kn [] i s c.ck h
  rw [List.nil_append] at h1
  obtain ⟨u, a1, a2, a3, _⟩ := okS_rng h1
  exact ⟨u, a1, a2, a3, h1⟩
/-- It was told already. -/
theorem TellTo.already {c : Ctx} {i : Nat} {f : Fa} {told : List Fa} {T : List Sp} {pend : List Fa} (h : TolS c told T pend) (hf : f ∈ told) (hp : f ∉ pend) : TellTo c i f told T pend told T [] :=
  ⟨by simp, h, (fun s hs => by cases hs), ((h.mem f).1 hf).resolve_right hp, Need.nil _ _ _, fun q => absurd hf q⟩
/-- It is being told. -/
theorem TolS.begin {c : Ctx} {i : Nat} {s : Sp} {told : List Fa} {T : List Sp} {pend : List Fa} (h : TolS c told T pend) (hs : c.kn[i]? = some s) (hn : s.fa ∉ told) : TolS c (told ++ [s.fa]) T (s.fa :: pend) where
  ck := h.ck
  sub := h.sub
  mem := fun f => by
    rw [List.mem_append, h.mem, List.mem_singleton, List.mem_cons]
    constructor
    · rintro ((q | q) | q)
      · exact .inl q
      · exact .inr (.inr q)
      · exact .inr (.inl q)
    · rintro (q | q | q)
      · exact .inl (.inl q)
      · exact .inr q
      · exact .inl (.inr q)
  nd := by
    rw [List.nodup_append]
    refine ⟨h.nd, by simp, fun a ha b hb => ?_⟩
    simp at hb
    subst hb
    rintro rfl
    exact hn ha
  tk := fun f hf => by
    rcases List.mem_append.1 hf with q | q
    · exact h.tk f q
    · simp at q
      subst q
      exact hasS_iff.2 ⟨s, List.mem_of_getElem? hs, rfl⟩
  pn := fun f hf => by
    rcases List.mem_cons.1 hf with rfl | q
    · rw [Bool.eq_false_iff]
      exact fun q => hn ((h.mem _).2 (.inl q))
    · exact h.pn f q
/-- What stands while those that the step stands on are told. -/
structure Mid (c : Ctx) (i : Nat) (s : Sp) (l : List Fa) (told0 : List Fa) (T0 : List Sp) (pend : List Fa) (told : List Fa) (T : List Sp) : Prop where
  ex : ∃ D, T = T0 ++ D ∧ (∀ x ∈ D, x ∈ c.kn.take i) ∧ Need c.K c.L D l ∧ (∀ f ∈ l, hasS T f = true)
  td : TolS c told T (s.fa :: pend)
theorem Mid.start {c : Ctx} {i : Nat} {s : Sp} {told : List Fa} {T : List Sp} {pend : List Fa} (h : TolS c told T pend) (hs : c.kn[i]? = some s) (hn : s.fa ∉ told) : Mid c i s [] told T pend (told ++ [s.fa]) T :=
  ⟨⟨[], by simp, (fun x hx => by cases hx), Need.nil _ _ _, fun f hf => by cases hf⟩, h.begin hs hn⟩
theorem Mid.next {c : Ctx} {i k : Nat} {s : Sp} {l : List Fa} {f : Fa} {told0 : List Fa} {T0 : List Sp} {pend : List Fa} {told told' : List Fa} {T T' D : List Sp} (h : Mid c i s l told0 T0 pend told T) (hk : k < i) (ht : TellTo c k f told T (s.fa :: pend) told' T' D) : Mid c i s (l ++ [f]) told0 T0 pend told' T' := by
  obtain ⟨⟨D0, e0, i0, n0, a0⟩, td⟩ := h
  refine ⟨⟨D0 ++ D, by rw [ht.eq, e0, List.append_assoc], fun x hx => ?_, ?_, fun g hg => ?_⟩, ht.td⟩
  · rcases List.mem_append.1 hx with q | q
    · exact i0 x q
    · have := ht.inn x q
      have e : c.kn.take (k + 1) = (c.kn.take i).take (k + 1) := by rw [List.take_take]; congr 1; omega
      rw [e] at this
      exact List.mem_of_mem_take this
  · exact Need.app (n0.mono (fun g hg => List.mem_append_left _ hg)) (ht.need.mono (fun g hg => List.mem_append_right _ hg))
  · rcases List.mem_append.1 hg with q | q
    · rw [ht.eq]; exact hasS_mono (a0 g q)
    · simp at q; subst q; exact ht.has
theorem Mid.done {c : Ctx} {i : Nat} {s : Sp} {u : Ru} {told0 : List Fa} {T0 : List Sp} {pend : List Fa} {told : List Fa} {T : List Sp} (hs : c.kn[i]? = some s) (hu : ruleAt c.P c.K c.L s.rule = some u) (h0 : TolS c told0 T0 pend) (hn : s.fa ∉ told0) (h : Mid c i s (under c.K u s) told0 T0 pend told T) : ∃ D, TellTo c i s.fa told0 T0 pend told (T ++ [s]) D := by
  obtain ⟨⟨D0, e0, i0, n0, a0⟩, td⟩ := h
  obtain ⟨u', hu', hf, _, hok⟩ := ctx_at c hs
  rw [hu] at hu'
  cases hu'
  have hnT : hasS T s.fa = false := td.pn _ (by simp)
  have hD := ruleD_of hu
  refine ⟨D0 ++ [s], by rw [e0, List.append_assoc], ?_, fun x hx => ?_, by rw [hasS_app, hasS_one]; simp, ?_, fun _ => ⟨D0, s, rfl, rfl⟩⟩
  · exact {
      ck := by
        rw [chk_snoc, td.ck, List.nil_append, hnT]
        have : okS c.P c.K c.L T s = true := by
          unfold okS
          simp only [hu, hf, Bool.true_and, List.all_eq_true]
          exact a0
        rw [this]; rfl
      sub := fun x hx => by
        rcases List.mem_append.1 hx with q | q
        · exact td.sub x q
        · simp at q; subst q; exact List.mem_of_getElem? hs
      mem := fun f => by
        rw [td.mem, hasS_app, hasS_one, Bool.or_eq_true, decide_eq_true_eq, List.mem_cons]
        constructor
        · rintro (q | q | q)
          · exact .inl (.inl q)
          · exact .inl (.inr q.symm)
          · exact .inr q
        · rintro ((q | q) | q)
          · exact .inl q
          · exact .inr (.inl q.symm)
          · exact .inr (.inr q)
      nd := td.nd
      tk := td.tk
      pn := fun f hf2 => by
        rw [hasS_app, td.pn f (by simp [hf2]), hasS_one, Bool.false_or, decide_eq_false_iff_not]
        rintro rfl
        exact hn ((h0.mem _).2 (.inr hf2)) }
  · rcases List.mem_append.1 hx with q | q
    · have := i0 x q
      have e : c.kn.take i = (c.kn.take (i + 1)).take i := by rw [List.take_take]; congr 1; omega
      rw [e] at this
      exact List.mem_of_mem_take this
    · simp at q
      rw [q]
      have : (c.kn.take (i + 1))[i]? = some s := by rw [List.getElem?_take_of_lt (by omega)]; exact hs
      exact List.mem_of_getElem? this
  · refine Need.last ?_
    rw [hD]; exact n0
end Go.Proofs.Ytddjbchlpfaggaa.PfJ
