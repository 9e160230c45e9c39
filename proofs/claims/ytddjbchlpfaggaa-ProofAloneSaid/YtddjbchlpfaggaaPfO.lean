/- The looking for steps: begun, gone through, ended: all that follows is known. -/
import Derived.Test.YtddjbchlpfaggaaPfN
namespace Go.Proofs.Ytddjbchlpfaggaa.PfO
open Go.Proofs.Ytddjbchlpfaggaa.TblB Go.Proofs.Ytddjbchlpfaggaa.TblC Go.Proofs.Ytddjbchlpfaggaa.TblV Go.Proofs.Ytddjbchlpfaggaa.TblP Go.Proofs.Ytddjbchlpfaggaa.TblQ Go.Proofs.Ytddjbchlpfaggaa.SemA Go.Proofs.Ytddjbchlpfaggaa.SemGa Go.Proofs.Ytddjbchlpfaggaa.PfM Go.Proofs.Ytddjbchlpfaggaa.PfN
set_option linter.unusedVariables false
set_option linter.unusedSimpArgs false
variable {P K : Nat} {L : List Ru} {T h c : Nat} {pend : List (Int × Int)} {t : Ss}
def ss0 : Ss := ⟨[], 0, fun _ => []⟩
theorem Inv.start (P K : Nat) (L : List Ru) : Inv P K L 0 0 [] 0 ss0 where
  le := Nat.le_refl _
  ck := rfl
  wok := fun r y hy => by cases hy
  stat := fun i hi => by omega
  cl := fun j hj => by omega
  any := fun r => Nat.le_refl _
  len := fun r => Nat.le_refl _
  cnt := Nat.le_refl _
theorem Inv.up {T' : Nat} (hi : Inv P K L T h pend c t) (hT : T ≤ T') (hs : ∀ i : Nat, i < T' → ∀ u, ruleAt P K L i = some u → (u.kind = 1 → hasS t.known (u.head, u.who) = true) ∧ (u.kind ≠ 1 → ((i : Int), -1) ∈ t.watch u.a) ∧ (u.kind = 4 → ((i : Int), -1) ∈ t.watch u.b)) : Inv P K L T' h pend c t :=
  { hi with stat := hs, any := fun r => Nat.le_trans (hi.any r) (by omega), cnt := Nat.le_trans hi.cnt (by omega) }
theorem begin_none (hi : Inv P K L T 0 [] 0 t) (hn : ruleAt P K L T = none) : Inv P K L (T + 1) 0 [] 0 t :=
  Inv.up hi (Nat.le_succ _) fun i hiT u hu => by
    by_cases e : i = T
    · subst e; rw [hn] at hu; cases hu
    · exact hi.stat i (by omega) u hu
theorem begin_some {u : Ru} (hi : Inv P K L T 0 [] 0 t) (hu : ruleAt P K L T = some u) : Inv P K L (T + 1) 0 [] 0 (beginM t T u) := by
  have hD := ruleD_of hu
  have hr := (ruleAt_some hu).2.2.2
  obtain ⟨hk, rh, rw_, ra, rb, rv⟩ := right_r hr
  unfold beginM
  by_cases k1 : u.kind = 1
  · rw [if_pos k1]
    have ho : okS P K L t.known ⟨(T : Int), u.head, u.who, 0⟩ = true := by
      unfold okS
      simp only [hu]
      unfold fitB under
      simp [k1]
      omega
    have h1 := Inv.put hi ho
    refine Inv.up h1 (Nat.le_succ _) fun i hiT v hv => ?_
    by_cases e : i = T
    · subst e
      rw [hu] at hv
      cases hv
      exact ⟨fun _ => put_has t ⟨(i : Int), u.head, u.who, 0⟩, fun q => absurd k1 q, fun q => by omega⟩
    · exact h1.stat i (by omega) v hv
  · rw [if_neg k1]
    have w1 : WOk P K L t u.a ((T : Int), -1) := ⟨⟨u, hu⟩, by rw [hD]; exact k1, fun _ => by rw [hD]; exact .inl rfl, fun q => absurd rfl q⟩
    have a2 : ∀ i, anyN ((watchM t u.a ((T : Int), -1)).watch i) ≤ 2 * T + 1 := fun i => by
      rw [watch_any]
      have := hi.any i
      split <;> omega
    have a3 : ∀ (t : Ss) r y, (∀ i, (t.watch i).length ≤ t.nw) → ∀ i, ((watchM t r y).watch i).length ≤ (watchM t r y).nw := fun t r y h i => by
      have h1 := watch_len t r y i
      have h2 := h i
      show _ ≤ t.nw + 1
      omega
    have hc := hi.cnt
    have step : ∀ t' : Ss, t'.known = t.known → (∀ r, ∀ z ∈ t'.watch r, WOk P K L t' r z) → (∀ i, ∀ z ∈ t.watch i, z ∈ t'.watch i) → (∀ i, anyN (t'.watch i) ≤ 2 * (T + 1)) → (∀ i, (t'.watch i).length ≤ t'.nw) → t'.nw ≤ 2 * (T + 1) + 0 → (((T : Int), -1) ∈ t'.watch u.a) → (u.kind = 4 → ((T : Int), -1) ∈ t'.watch u.b) → Inv P K L (T + 1) 0 [] 0 t' := fun t' ek hw hs ha hl hn b1 b2 => {
      le := Nat.zero_le _
      ck := by rw [ek]; exact hi.ck
      wok := hw
      stat := fun i hiT v hv => by
        rw [ek]
        by_cases e : i = T
        · subst e
          rw [hu] at hv
          cases hv
          exact ⟨fun q => absurd q k1, fun _ => b1, b2⟩
        · obtain ⟨q1, q2, q3⟩ := hi.stat i (by omega) v hv
          exact ⟨q1, fun q => hs _ _ (q2 q), fun q => hs _ _ (q3 q)⟩
      cl := fun j hj => by omega
      any := ha
      len := hl
      cnt := hn }
    have hin : ∀ (t : Ss) (r : Int) (y : Int × Int) (i : Int), ∀ z ∈ (watchM t r y).watch i, z ∈ t.watch i ∨ (i = r ∧ z = y) := fun t r y i z hz => by
      unfold watchM at hz
      simp only at hz
      split at hz
      · rename_i e
        rcases List.mem_append.1 hz with q | q
        · exact .inl q
        · exact .inr ⟨e, by simpa using q⟩
      · exact .inl hz
    split
    · rename_i h4
      refine step _ rfl (fun r z hz => ?_) (fun i z hz => watch_sub _ _ _ _ _ (watch_sub _ _ _ _ _ hz)) (fun i => ?_) (a3 _ _ _ (a3 _ _ _ hi.len)) (by show t.nw + 1 + 1 ≤ _; omega) (watch_sub _ _ _ _ _ (watch_at _ _ _)) (fun _ => watch_at _ _ _)
      · rcases hin _ _ _ _ z hz with q | ⟨e1, e2⟩
        · rcases hin _ _ _ _ z q with q | ⟨e1, e2⟩
          · exact (hi.wok r z q).mono (fun f hf => hf)
          · subst e1; subst e2; exact w1.mono (fun f hf => hf)
        · subst e1; subst e2
          exact ⟨⟨u, hu⟩, by rw [hD]; exact k1, fun _ => by rw [hD]; exact .inr ⟨h4.1, rfl⟩, fun q => absurd rfl q⟩
      · rw [watch_any]
        have := a2 i
        split <;> omega
    · rename_i h4
      refine step _ rfl (fun r z hz => ?_) (fun i z hz => watch_sub _ _ _ _ _ hz) (fun i => ?_) (a3 _ _ _ hi.len) (by show t.nw + 1 ≤ _; omega) (watch_at _ _ _) (fun k4 => ?_)
      · rcases hin _ _ _ _ z hz with q | ⟨e1, e2⟩
        · exact (hi.wok r z q).mono (fun f hf => hf)
        · subst e1; subst e2; exact w1.mono (fun f hf => hf)
      · have := a2 i; omega
      · have e : u.b = u.a := Classical.byContradiction fun q => h4 ⟨k4, q⟩
        rw [e]
        exact watch_at _ _ _
/-- The next one is followed. -/
theorem Inv.pop {s : Sp} (hi : Inv P K L T h [] c t) (hs : t.known[h]? = some s) : Inv P K L T (h + 1) (t.watch s.role) c t where
  le := (List.getElem?_eq_some_iff.1 hs).1
  ck := hi.ck
  wok := hi.wok
  stat := hi.stat
  cl := fun j hj x hx y hy => by
    by_cases e : j = h
    · subst e
      rw [hs] at hx
      cases hx
      exact .inl ⟨hy, rfl⟩
    · rcases hi.cl j (by omega) x hx y hy with ⟨q, _⟩ | q
      · cases q
      · exact .inr q
  any := hi.any
  len := hi.len
  cnt := hi.cnt
theorem Inv.steps {s : Sp} : ∀ (l : List (Int × Int)) (t : Ss) (c : Nat), Inv P K L T h l c t → 1 ≤ h → t.known[h - 1]? = some s → (∀ y ∈ l, y ∈ t.watch s.role) →
    Inv P K L T h [] (c + anyN l) (l.foldl (stepM P K L · s.who) t) ∧ ∃ k, (l.foldl (stepM P K L · s.who) t).known = t.known ++ k
  | [], t, c, hi, _, _, _ => ⟨hi, [], by simp⟩
  | y :: l, t, c, hi, h1, hs, hy => by
    obtain ⟨r1, ⟨k, r2⟩, r3⟩ := Inv.step hi h1 hs (hy y (by simp))
    have hlt := hi.le
    obtain ⟨q1, k', q2⟩ := Inv.steps l (stepM P K L t s.who y) (c + bump y) r1 h1 (by rw [r2, List.getElem?_append_left (by omega)]; exact hs) (fun z hz => r3 _ _ (hy z (by simp [hz])))
    have e : c + bump y + anyN l = c + anyN (y :: l) := by
      have : anyN (y :: l) = bump y + anyN l := by
        unfold anyN bump
        rw [List.filter_cons]
        by_cases e : y.2 = -1
        · simp [e]; omega
        · simp [e]
      omega
    rw [e] at q1
    exact ⟨q1, k ++ k', by rw [List.foldl_cons, q2, r2, List.append_assoc]⟩
theorem Inv.follow {s : Sp} (hi : Inv P K L T h [] c t) (hs : t.known[h]? = some s) : Inv P K L T (h + 1) [] (c + 2 * T) (followM P K L t s.fa) ∧ ∃ k, (followM P K L t s.fa).known = t.known ++ k := by
  obtain ⟨q1, q2⟩ := Inv.steps (t.watch s.role) t c (Inv.pop hi hs) (by omega) (by simpa using hs) (fun y hy => hy)
  exact ⟨Inv.more q1 (by have := hi.any s.role; omega), q2⟩
theorem chk_nd : ∀ (l A : List Sp), chk P K L A l = true → (A.map Sp.fa).Nodup → ((A ++ l).map Sp.fa).Nodup
  | [], A, _, hn => by simpa using hn
  | s :: l, A, hc, hn => by
    simp only [chk, Bool.and_eq_true, Bool.not_eq_true'] at hc
    have := chk_nd l (A ++ [s]) hc.2 (by
      rw [List.map_append, List.nodup_append]
      refine ⟨hn, by simp, fun a ha b hb => ?_⟩
      simp at hb
      subst hb
      rintro rfl
      obtain ⟨x, hx, e⟩ := List.mem_map.1 ha
      have : hasS A s.fa = true := hasS_iff.2 ⟨x, hx, e⟩
      rw [hc.1.2] at this
      cases this)
    simpa using this
theorem chk_rng : ∀ (l A : List Sp), chk P K L A l = true → ∀ s ∈ l, (0 ≤ s.role ∧ s.role < ((P * K : Nat) : Int)) ∧ (0 ≤ s.who ∧ s.who < P) ∧ ∃ u, ruleAt P K L s.rule = some u ∧ fitB P u s = true
  | [], A, _, s, hs => by cases hs
  | x :: l, A, hc, s, hs => by
    simp only [chk, Bool.and_eq_true, Bool.not_eq_true'] at hc
    rcases List.mem_cons.1 hs with rfl | hs
    · obtain ⟨u, h1, h2, h3, h4, h5, h6, h7⟩ := okS_rng hc.1.1
      exact ⟨h4, ⟨h5, h6⟩, u, h1, h2⟩
    · exact chk_rng l (A ++ [x]) hc.2 s hs
theorem chk_len {l : List Sp} (hc : chk P K L [] l = true) : l.length ≤ P * K * P := by
  have hn := chk_nd l [] hc (by simp)
  have hs := SemA.sum_sub (fun _ => 1) (([] ++ l).map Sp.fa) (SemA.grid (P * K) P) hn (fun f hf => by
    simp only [List.nil_append] at hf
    obtain ⟨s, hs, rfl⟩ := List.mem_map.1 hf
    obtain ⟨h1, h2, _⟩ := chk_rng l [] hc s hs
    unfold SemA.grid
    simp only [List.mem_flatMap, List.mem_map, List.mem_range]
    refine ⟨s.role.toNat, by omega, s.who.toNat, by omega, ?_⟩
    unfold Sp.fa
    rw [Prod.mk.injEq]
    omega)
  have e1 : ∀ (l : List Fa), (l.map fun _ => 1).sum = l.length := fun l => by induction l with
    | nil => rfl
    | cons a l ih => simp [ih]; omega
  rw [e1, e1] at hs
  have e2 : (SemA.grid (P * K) P).length = P * K * P := by
    unfold SemA.grid
    rw [List.length_flatMap]
    have e3 : ∀ n : Nat, ((List.range n).map fun _ => P).sum = n * P := fun n => by
      induction n with
      | zero => simp
      | succ n ih => rw [List.range_succ, List.map_append, List.sum_append_nat, ih, Nat.succ_mul]; simp
    simpa using e3 (P * K)
  rw [e2] at hs
  simpa using hs
/-- When nobody is left to be followed, all that follows is known. -/
theorem Inv.all (hi : Inv P K L L.length t.known.length [] c t) {r x : Int} (d : Der K (L.filter (rightU P K)) r x) : hasS t.known (r, x) = true := by
  have hrule : ∀ u ∈ L.filter (rightU P K), ∃ i : Nat, i < L.length ∧ ruleAt P K L i = some u := fun u hu => by
    obtain ⟨h1, h2⟩ := List.mem_filter.1 hu
    obtain ⟨i, hlt, e⟩ := List.getElem_of_mem h1
    exact ⟨i, hlt, by rw [ruleAt_nat (by rw [List.getElem?_eq_getElem hlt, e]), h2]; rfl⟩
  have hdone : ∀ {f : Fa}, hasS t.known f = true → ∃ j, ∃ s : Sp, t.known[j]? = some s ∧ s.fa = f ∧ j < t.known.length ∧ ∀ y ∈ t.watch f.1, Done P K L t (t.known.take (j + 1)) f.2 y := fun {f} hf => by
    obtain ⟨s, hs, rfl⟩ := hasS_iff.1 hf
    obtain ⟨j, hlt, e⟩ := List.getElem_of_mem hs
    have e2 : t.known[j]? = some s := by rw [List.getElem?_eq_getElem hlt, e]
    refine ⟨j, s, e2, rfl, hlt, fun y hy => ?_⟩
    rcases hi.cl j hlt s e2 y hy with ⟨q, _⟩ | q
    · cases q
    · exact q
  have hin : ∀ {j k : Nat} {s : Sp}, t.known[j]? = some s → j < k → hasS (t.known.take k) s.fa = true := fun {j k s} e hjk => hasS_iff.2 ⟨s, by
    have : (t.known.take k)[j]? = some s := by rw [List.getElem?_take_of_lt hjk]; exact e
    exact List.mem_of_getElem? this, rfl⟩
  induction d with
  | mem u hu k =>
    obtain ⟨i, hlt, e⟩ := hrule u hu
    exact (hi.stat i hlt u e).1 k
  | incl u x hu k _ ih =>
    obtain ⟨i, hlt, e⟩ := hrule u hu
    obtain ⟨j, s, _, _, _, hd⟩ := hdone ih
    have := hd _ ((hi.stat i hlt u e).2.1 (by omega))
    have hD := ruleD_of e
    unfold Done at this
    simp only [hD] at this
    exact this.1 k
  | link u x y hu k _ _ i1 i2 =>
    obtain ⟨i, hlt, e⟩ := hrule u hu
    have hD := ruleD_of e
    obtain ⟨j, s, e1, e2, _, hd⟩ := hdone i1
    have h1 := hd _ ((hi.stat i hlt u e).2.1 (by omega))
    unfold Done at h1
    simp only [hD] at h1
    have h2 := h1.2.2.1 k trivial
    obtain ⟨j2, s2, _, _, _, hd2⟩ := hdone i2
    have h3 := hd2 _ h2
    unfold Done at h3
    simp only [hD] at h3
    refine h3.2.2.2 k ?_
    have := (chk_rng _ _ hi.ck s (List.mem_of_getElem? e1)).2.1
    have e3 : s.who = x := congrArg Prod.snd e2
    omega
  | both u x hu k _ _ i1 i2 =>
    obtain ⟨i, hlt, e⟩ := hrule u hu
    have hD := ruleD_of e
    obtain ⟨j1, s1, a1, a2, a3, hd1⟩ := hdone i1
    obtain ⟨j2, s2, b1, b2, b3, hd2⟩ := hdone i2
    by_cases hj : j1 ≤ j2
    · have h1 := hd2 _ ((hi.stat i hlt u e).2.2 k)
      unfold Done at h1
      simp only [hD] at h1
      exact h1.2.1 k (a2 ▸ hin a1 (by omega)) (b2 ▸ hin b1 (by omega))
    · have h1 := hd1 _ ((hi.stat i hlt u e).2.1 (by omega))
      unfold Done at h1
      simp only [hD] at h1
      exact h1.2.1 k (a2 ▸ hin a1 (by omega)) (b2 ▸ hin b1 (by omega))
theorem Inv.der (hi : Inv P K L L.length t.known.length [] c t) (r x : Int) : hasS t.known (r, x) = derB P K L r x := by
  rw [Bool.eq_iff_iff, derB_iff]
  exact ⟨fun h => chk_sound hi.ck (f := (r, x)) h, fun d => Inv.all hi d⟩
end Go.Proofs.Ytddjbchlpfaggaa.PfO
