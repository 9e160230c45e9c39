/- Diagrams that are made of diagrams: the maths of what is made, without a budget, and with one. -/
import Derived.Test.YtnkkmppmfjekeaaNdL
namespace Go.Proofs.Ytnkkmppmfjekeaa.ItA
open Go.Proofs.Ytnkkmppmfjekeaa.NdA Go.Proofs.Ytnkkmppmfjekeaa.NdC Go.Proofs.Ytnkkmppmfjekeaa.NdI Go.Proofs.Ytnkkmppmfjekeaa.NdL
set_option linter.unusedVariables false
abbrev Fn := (Nat → Bool) → Bool
def T (K : Nat) (L : List Nd) : St := ⟨K, 0, false, L⟩
/-- A node that is made where there is no budget. -/
def ins (L : List Nd) (v lo hi : Int) : Int × List Nd :=
  if lo = hi then (lo, L) else match posN L ⟨v, lo, hi⟩ with
    | some i => ((i : Int) + 2, L)
    | none => ((L.length : Int) + 2, L ++ [⟨v, lo, hi⟩])
def cof (F : Fn) (v : Nat) (c : Bool) : Fn := fun b => F (put b v c)
/-- The diagram of a function, and the nodes behind it. -/
def bld : Nat → List Nd → Nat → Fn → Int × List Nd
  | 0, L, _, F => (if F (fun _ => false) then 1 else 0, L)
  | n + 1, L, v, F => ins (bld n (bld n L (v + 1) (cof F v false)).2 (v + 1) (cof F v true)).2 v (bld n L (v + 1) (cof F v false)).1 (bld n (bld n L (v + 1) (cof F v false)).2 (v + 1) (cof F v true)).1
def Dep (K v : Nat) (F : Fn) : Prop := ∀ b c : Nat → Bool, (∀ i, v ≤ i → i < K → b i = c i) → F b = F c
theorem Dep.cof {K v : Nat} {F : Fn} (h : Dep K v F) (x : Bool) : Dep K (v + 1) (cof F v x) := fun b c hbc => h _ _ (fun i h1 h2 => by
  unfold put
  by_cases e : i = v
  · rw [if_pos e, if_pos e]
  · rw [if_neg e, if_neg e]
    exact hbc i (by omega) h2)
theorem Dep.mono {K v v' : Nat} {F : Fn} (h : Dep K v F) (hv : v' ≤ v) : Dep K v' F := fun b c hbc => h b c (fun i h1 h2 => hbc i (by omega) h2)
theorem Dep.cof_eq {K v v' : Nat} {F : Fn} (h : Dep K v' F) (hv : v < v') (x : Bool) : ItA.cof F v x = F := by
  funext b
  refine h _ _ (fun i h1 h2 => ?_)
  unfold put
  rw [if_neg (by omega)]
theorem cof_self (F : Fn) (v : Nat) (b : Nat → Bool) : cof F v (b v) b = F b := by
  unfold cof
  congr 1
  funext i
  unfold put
  split
  · rename_i e
    rw [e]
  · rfl
theorem cof_if (F : Fn) (v : Nat) (b : Nat → Bool) : F b = if b v then cof F v true b else cof F v false b := by
  have := cof_self F v b
  cases h : b v with
  | true => rw [h] at this; exact this.symm
  | false => rw [h] at this; exact this.symm
theorem is_app {K : Nat} {L X : List Nd} {n : Int} (h : isB (T K L) n = true) : isB (T K (L ++ X)) n = true := by
  obtain ⟨h1, h2⟩ := isB_iff.1 h
  refine isB_iff.2 ⟨h1, ?_⟩
  show n < 2 + ((L ++ X).length : Int)
  have h2' : n < 2 + (L.length : Int) := h2
  rw [List.length_append]
  omega
theorem ev_app {K : Nat} {L X : List Nd} {n : Int} (h : isB (T K L) n = true) (b : Nat → Bool) : ev (L ++ X) b n = ev L b n := by
  obtain ⟨h1, h2⟩ := isB_iff.1 h
  have h2' : n < 2 + (L.length : Int) := h2
  exact evs_more X b L n.toNat (by omega)
theorem varI_app {K : Nat} {L X : List Nd} {n : Int} (h : isB (T K L) n = true) : varI (T K (L ++ X)) n = varI (T K L) n := by
  obtain ⟨h1, h2⟩ := isB_iff.1 h
  have h2' : n < 2 + (L.length : Int) := h2
  unfold varI nodeB at_
  show (if (decide (2 ≤ n) && decide (n < 2 + ((L ++ X).length : Int))) = true then ((L ++ X).getD (n - 2).toNat ⟨0, 0, 0⟩).v else (K : Int)) = if (decide (2 ≤ n) && decide (n < 2 + (L.length : Int))) = true then (L.getD (n - 2).toNat ⟨0, 0, 0⟩).v else (K : Int)
  rw [List.length_append]
  by_cases h3 : 2 ≤ n
  · rw [if_pos (by simp; omega), if_pos (by simp; omega), List.getD_eq_getElem?_getD, List.getD_eq_getElem?_getD, List.getElem?_append_left (by omega)]
  · rw [if_neg (by simp; omega), if_neg (by simp; omega)]
theorem varI_small {K : Nat} {L : List Nd} {n : Int} (h : n < 2) : varI (T K L) n = K := by
  unfold varI nodeB
  rw [if_neg (by simp; omega)]
  rfl
theorem may {K : Nat} {L : List Nd} {v : Nat} {lo hi : Int} (h1 : isB (T K L) lo = true) (h2 : isB (T K L) hi = true) (h3 : (v : Int) + 1 ≤ varI (T K L) lo) (h4 : (v : Int) + 1 ≤ varI (T K L) hi) : mayB (T K L) v lo hi = true :=
  mayB_iff.2 ⟨by omega, h1, h2, by omega, by omega⟩
theorem T_wf {s : St} (h : WF s) : WF (T s.vars s.L) := ⟨h.nodup, h.ok, h.v61⟩
/-- What is made: a diagram of that function; what was there stays. -/
structure Good (K : Nat) (L : List Nd) (v n : Nat) (F : Fn) (r : Int) (L' : List Nd) : Prop where
  pre : ∃ X, L' = L ++ X
  wf : WF (T K L')
  is : isB (T K L') r = true
  ev : ∀ b, ev L' b r = F b
  var : (v : Int) ≤ varI (T K L') r
  len : L'.length + 1 ≤ L.length + 2 ^ n
theorem bld_good (K : Nat) : ∀ (n : Nat) (L : List Nd) (v : Nat) (F : Fn), v + n = K → WF (T K L) → Dep K v F → Good K L v n F (bld n L v F).1 (bld n L v F).2 := fun n => by
  induction n with
  | zero =>
    intro L v F hv hw hd
    have hc : ∀ b, F b = F (fun _ => false) := fun b => hd _ _ (fun i h1 h2 => absurd h2 (by omega))
    unfold bld
    cases h : F (fun _ => false) with
    | true =>
      simp only [if_true]
      exact ⟨⟨[], by simp⟩, hw, isB_iff.2 ⟨by omega, by show (1 : Int) < 2 + (L.length : Int); omega⟩, fun b => by rw [ev_one, hc b, h], by rw [varI_small (by omega)]; omega, by simp⟩
    | false =>
      simp only [if_neg (show ¬ (false = true) by simp)]
      exact ⟨⟨[], by simp⟩, hw, isB_iff.2 ⟨by omega, by show (0 : Int) < 2 + (L.length : Int); omega⟩, fun b => by rw [ev_zero, hc b, h], by rw [varI_small (by omega)]; omega, by simp⟩
  | succ n ih =>
    intro L v F hv hw hd
    have hA := ih L (v + 1) (cof F v false) (by omega) hw (hd.cof false)
    have hB := ih (bld n L (v + 1) (cof F v false)).2 (v + 1) (cof F v true) (by omega) hA.wf (hd.cof true)
    unfold bld
    generalize bld n L (v + 1) (cof F v false) = A at *
    generalize bld n A.2 (v + 1) (cof F v true) = B at *
    obtain ⟨lo, M⟩ := A
    obtain ⟨hi, N⟩ := B
    simp only at hA hB ⊢
    obtain ⟨X, hX⟩ := hA.pre
    obtain ⟨Y, hY⟩ := hB.pre
    have il : isB (T K N) lo = true := by rw [hY]; exact is_app hA.is
    have el : ∀ b, NdI.ev N b lo = cof F v false b := fun b => by rw [hY, ev_app hA.is, hA.ev]
    have vl : ((v + 1 : Nat) : Int) ≤ varI (T K N) lo := by rw [hY, varI_app hA.is]; exact hA.var
    have ih' := hB.is
    have eh := hB.ev
    have vh := hB.var
    have hpre : ∃ Z, N = L ++ Z := ⟨X ++ Y, by rw [hY, hX, List.append_assoc]⟩
    have hlen : N.length + 2 ≤ L.length + 2 ^ (n + 1) := by
      have := hA.len
      have := hB.len
      rw [Nat.pow_succ]
      omega
    have hm := may (v := v) il ih' (by omega) (by omega)
    have hvK : v < K := by omega
    unfold ins
    by_cases hne : lo = hi
    · rw [if_pos hne]
      subst hne
      exact ⟨hpre, hB.wf, il, fun b => by
        have e := cof_if F v b
        rw [← el b, ← eh b] at e
        rw [e]
        split <;> rfl, by show (v : Int) ≤ varI (T K N) lo; omega, by show N.length + 1 ≤ _; omega⟩
    · rw [if_neg hne]
      cases hp : posN N ⟨v, lo, hi⟩ with
      | some i =>
        obtain ⟨hi1, hi2⟩ := posN_some hp
        have hok := hB.wf.ok i hi1
        have hok' : N[i] = (⟨v, lo, hi⟩ : Nd) := hi2
        show Good K L v (n + 1) F ((i : Int) + 2) N
        refine ⟨hpre, hB.wf, isB_iff.2 ⟨by omega, by show (i : Int) + 2 < 2 + (N.length : Int); omega⟩, fun b => ?_, ?_, by omega⟩
        · have := ev_node (L := N) (b := b) hi1 hok.2.2.1 hok.2.2.2.1 hok.2.2.2.2.1 hok.2.2.2.2.2.1
          rw [show ((i : Int) + 2) = ((i + 2 : Nat) : Int) by omega, this, hok']
          show (if b v then NdI.ev N b hi else NdI.ev N b lo) = F b
          rw [el, eh]
          exact (cof_if F v b).symm
        · have := varI_idx (s := T K N) hi1
          rw [show ((i : Int) + 2) = ((i + 2 : Nat) : Int) by omega, this]
          show (v : Int) ≤ N[i].v
          rw [hok']
          exact Int.le_refl _
      | none =>
        have hw2 : WF (T K (N ++ [(⟨v, lo, hi⟩ : Nd)])) := hB.wf.add hm hne (posN_none hp)
        have hl2 : N.length < (N ++ [(⟨v, lo, hi⟩ : Nd)]).length := by simp
        have hx : (N ++ [(⟨v, lo, hi⟩ : Nd)])[N.length]'hl2 = ⟨v, lo, hi⟩ := by simp
        have hok := hw2.ok N.length hl2
        show Good K L v (n + 1) F ((N.length : Int) + 2) (N ++ [⟨v, lo, hi⟩])
        refine ⟨?_, hw2, isB_iff.2 ⟨by omega, by show (N.length : Int) + 2 < 2 + ((N ++ [(⟨v, lo, hi⟩ : Nd)]).length : Int); rw [List.length_append, List.length_singleton]; omega⟩, fun b => ?_, ?_, by rw [List.length_append, List.length_singleton]; omega⟩
        · obtain ⟨Z, hZ⟩ := hpre
          exact ⟨Z ++ [⟨v, lo, hi⟩], by rw [hZ, List.append_assoc]⟩
        · have := ev_node (L := N ++ [(⟨v, lo, hi⟩ : Nd)]) (b := b) hl2 hok.2.2.1 hok.2.2.2.1 hok.2.2.2.2.1 hok.2.2.2.2.2.1
          rw [show ((N.length : Int) + 2) = ((N.length + 2 : Nat) : Int) by omega, this, hx]
          show (if b v then NdI.ev (N ++ [(⟨v, lo, hi⟩ : Nd)]) b hi else NdI.ev (N ++ [(⟨v, lo, hi⟩ : Nd)]) b lo) = F b
          rw [ev_app il, ev_app ih', el, eh]
          exact (cof_if F v b).symm
        · have := varI_idx (s := T K (N ++ [(⟨v, lo, hi⟩ : Nd)])) hl2
          rw [show ((N.length : Int) + 2) = ((N.length + 2 : Nat) : Int) by omega, this]
          show (v : Int) ≤ ((N ++ [(⟨v, lo, hi⟩ : Nd)])[N.length]'hl2).v
          rw [hx]
          exact Int.le_refl _
/-- A diagram that is there already is what comes of its function. -/
theorem bld_id (K : Nat) {L : List Nd} (hw : WF (T K L)) : ∀ (n v : Nat) (F : Fn) (r : Int), v + n = K → isB (T K L) r = true → (v : Int) ≤ varI (T K L) r → (∀ b, ev L b r = F b) → bld n L v F = (r, L) := fun n => by
  induction n with
  | zero =>
    intro v F r hv hi hr he
    obtain ⟨h1, h2⟩ := isB_iff.1 hi
    have h2' : r < 2 + (L.length : Int) := h2
    have hlt : r < 2 := by
      apply Classical.byContradiction
      intro hn
      obtain ⟨i, hi, hir⟩ : ∃ i : Nat, i < L.length ∧ ((i + 2 : Nat) : Int) = r := ⟨(r - 2).toNat, by omega, by omega⟩
      have h3 := varI_idx (s := T K L) hi
      rw [hir] at h3
      have h4 := (hw.ok i hi).2.1
      have h5 : (T K L).L[i].v = varI (T K L) r := h3.symm
      have h6 : ((T K L).vars : Int) = K := rfl
      omega
    unfold bld
    rcases (show r = 0 ∨ r = 1 by omega) with rfl | rfl
    · rw [← he, ev_zero]; rfl
    · rw [← he, ev_one]; rfl
  | succ n ih =>
    intro v F r hv hi hr he
    obtain ⟨h1, h2⟩ := isB_iff.1 hi
    have h2' : r < 2 + (L.length : Int) := h2
    by_cases hgt : (v : Int) < varI (T K L) r
    · have hc : ∀ x b, ev L b r = cof F v x b := fun x b => by
        unfold cof
        rw [← he]
        exact (put_above (s := T K L) hw h1 hgt b x).symm
      have e0 := ih (v + 1) (cof F v false) r (by omega) hi (by omega) (hc false)
      have e1 := ih (v + 1) (cof F v true) r (by omega) hi (by omega) (hc true)
      unfold bld
      rw [e0]
      simp only
      rw [e1]
      unfold ins
      rw [if_pos rfl]
    · have hnode : ∃ i : Nat, i < L.length ∧ ((i + 2 : Nat) : Int) = r := by
        refine ⟨(r - 2).toNat, ?_⟩
        have : ¬ r < 2 := fun h => by
          have := varI_small (K := K) (L := L) h
          omega
        exact ⟨by omega, by omega⟩
      obtain ⟨i, hil, hir⟩ := hnode
      have hv3 := varI_idx (s := T K L) hil
      rw [hir] at hv3
      have hv4 : L[i].v = (v : Int) := by
        have : (T K L).L[i].v = L[i].v := rfl
        omega
      have hok := hw.ok i hil
      have o1 : (0 : Int) ≤ L[i].lo := hok.2.2.1
      have o2 : L[i].lo < (i : Int) + 2 := hok.2.2.2.1
      have o3 : (0 : Int) ≤ L[i].hi := hok.2.2.2.2.1
      have o4 : L[i].hi < (i : Int) + 2 := hok.2.2.2.2.2.1
      have o5 : L[i].lo ≠ L[i].hi := hok.2.2.2.2.2.2.1
      have o6 : L[i].v < varI (T K L) L[i].lo := hok.2.2.2.2.2.2.2.1
      have o7 : L[i].v < varI (T K L) L[i].hi := hok.2.2.2.2.2.2.2.2
      have hvn : L[i].v.toNat = v := by omega
      have f0 : ∀ b, ev L b L[i].lo = cof F v false b := fun b => by
        unfold cof
        rw [← he, ← hir]
        have := low (s := T K L) hw hil b
        have e : (T K L).L[i].v.toNat = v := hvn
        rw [e] at this
        exact this.symm
      have f1 : ∀ b, ev L b L[i].hi = cof F v true b := fun b => by
        unfold cof
        rw [← he, ← hir]
        have := high (s := T K L) hw hil b
        have e : (T K L).L[i].v.toNat = v := hvn
        rw [e] at this
        exact this.symm
      have e0 := ih (v + 1) (cof F v false) L[i].lo (by omega) (isB_iff.2 ⟨o1, by show L[i].lo < 2 + (L.length : Int); omega⟩) (by omega) f0
      have e1 := ih (v + 1) (cof F v true) L[i].hi (by omega) (isB_iff.2 ⟨o3, by show L[i].hi < 2 + (L.length : Int); omega⟩) (by omega) f1
      have hpos : posN L ⟨v, L[i].lo, L[i].hi⟩ = some i := by
        have := posN_at (l := L) hw.nodup hil
        rw [show L[i] = (⟨v, L[i].lo, L[i].hi⟩ : Nd) by cases h : L[i] with | mk a b c => rw [h] at hv4; simp only at hv4; rw [hv4]] at this
        exact this
      unfold bld
      rw [e0]
      simp only
      rw [e1]
      unfold ins
      rw [if_neg o5, hpos, ← hir]
      congr 1
theorem bld_skip (K : Nat) : ∀ (d v n n' : Nat) (L : List Nd) (F : Fn), v + n = K → v + d + n' = K → WF (T K L) → Dep K (v + d) F → bld n L v F = bld n' L (v + d) F := fun d => by
  induction d with
  | zero =>
    intro v n n' L F h1 h2 hw hd
    have : n = n' := by omega
    subst this
    rfl
  | succ d ih =>
    intro v n n' L F h1 h2 hw hd
    obtain ⟨m, rfl⟩ : ∃ m, n = m + 1 := ⟨n - 1, by omega⟩
    have e := ih (v + 1) m n' L F (by omega) (by omega) hw (by rw [show v + 1 + d = v + (d + 1) by omega]; exact hd)
    rw [show v + (d + 1) = v + 1 + d by omega, ← e]
    have hg := bld_good K m L (v + 1) F (by omega) hw (hd.mono (by omega))
    have hi := bld_id K hg.wf m (v + 1) F _ (by omega) hg.is hg.var hg.ev
    rw [show bld (m + 1) L v F = ins (bld m (bld m L (v + 1) (cof F v false)).2 (v + 1) (cof F v true)).2 v (bld m L (v + 1) (cof F v false)).1 (bld m (bld m L (v + 1) (cof F v false)).2 (v + 1) (cof F v true)).1 from rfl]
    rw [hd.cof_eq (show v < v + (d + 1) by omega), hd.cof_eq (show v < v + (d + 1) by omega), hi]
    unfold ins
    rw [if_pos rfl]
/-- The diagram of a function, whatever it hangs on. -/
def top (K : Nat) (L : List Nd) (F : Fn) : Int × List Nd := bld K L 0 F
theorem top_good {K : Nat} {L : List Nd} {F : Fn} (hw : WF (T K L)) {v n : Nat} (hvn : v + n = K) (hd : Dep K v F) : Good K L v n F (top K L F).1 (top K L F).2 := by
  unfold top
  rw [bld_skip K v 0 K n L F (by omega) (by omega) hw (by rw [Nat.zero_add]; exact hd), Nat.zero_add]
  exact bld_good K n L v F hvn hw hd
theorem top_id {K : Nat} {L : List Nd} {F : Fn} (hw : WF (T K L)) {r : Int} (hi : isB (T K L) r = true) (he : ∀ b, ev L b r = F b) : top K L F = (r, L) := by
  refine bld_id K hw K 0 F r (by omega) hi ?_ he
  obtain ⟨h1, h2⟩ := isB_iff.1 hi
  have h2' : r < 2 + (L.length : Int) := h2
  by_cases h : r < 2
  · rw [varI_small h]; omega
  · obtain ⟨i, hil, hir⟩ : ∃ i : Nat, i < L.length ∧ ((i + 2 : Nat) : Int) = r := ⟨(r - 2).toNat, by omega, by omega⟩
    have := varI_idx (s := T K L) hil
    rw [hir] at this
    rw [this]
    exact (hw.ok i hil).1
theorem top_step {K : Nat} {L : List Nd} {F : Fn} (hw : WF (T K L)) {v : Nat} (hv : v < K) (hd : Dep K v F) : top K L F = ins (top K (top K L (cof F v false)).2 (cof F v true)).2 v (top K L (cof F v false)).1 (top K (top K L (cof F v false)).2 (cof F v true)).1 := by
  obtain ⟨n, hn⟩ : ∃ n, v + (n + 1) = K := ⟨K - v - 1, by omega⟩
  have e : top K L F = bld (n + 1) L v F := by
    unfold top
    rw [bld_skip K v 0 K (n + 1) L F (by omega) (by omega) hw (by rw [Nat.zero_add]; exact hd), Nat.zero_add]
  have e0 : top K L (cof F v false) = bld n L (v + 1) (cof F v false) := by
    unfold top
    rw [bld_skip K (v + 1) 0 K n L _ (by omega) (by omega) hw (by rw [Nat.zero_add]; exact hd.cof false), Nat.zero_add]
  have hg := top_good hw (v := v + 1) (n := n) (by omega) (hd.cof false)
  have e1 : top K (top K L (cof F v false)).2 (cof F v true) = bld n (top K L (cof F v false)).2 (v + 1) (cof F v true) := by
    unfold top at hg ⊢
    rw [bld_skip K (v + 1) 0 K n _ _ (by omega) (by omega) hg.wf (by rw [Nat.zero_add]; exact hd.cof true), Nat.zero_add]
  rw [e, e1, e0]
  rfl
theorem ins_len (L : List Nd) (v lo hi : Int) : L.length ≤ (ins L v lo hi).2.length := by
  unfold ins
  split
  · exact Nat.le_refl _
  · split
    · exact Nat.le_refl _
    · show L.length ≤ (L ++ [_]).length
      simp
/-- A state with its budget. -/
structure Inv (s : St) : Prop where
  len : s.L.length ≤ s.budget
  sp : s.spent = true → s.L.length = s.budget
structure Sp (s s' : St) : Prop where
  sp : s'.spent = true
  vars : s'.vars = s.vars
  bud : s'.budget = s.budget
  len : s'.L.length = s.budget
  pre : ∃ X, s'.L = s.L ++ X
/-- What is answered, and left, where r with M would be made without a budget. -/
def Res (s : St) (r : Int) (M : List Nd) (a : Int) (s' : St) : Prop :=
  (s.spent = false ∧ M.length ≤ s.budget ∧ a = r ∧ s' = { s with L := M }) ∨ ((s.spent = true ∨ s.budget < M.length) ∧ isB s' a = true ∧ Sp s s')
theorem Sp.self {s : St} (h : Inv s) (hs : s.spent = true) : Sp s s := ⟨hs, rfl, rfl, h.sp hs, ⟨[], by simp⟩⟩
theorem Sp.trans {s s' s'' : St} (h : Sp s s') (h2 : Sp s' s'') : Sp s s'' := by
  obtain ⟨X, hX⟩ := h.pre
  obtain ⟨Y, hY⟩ := h2.pre
  exact ⟨h2.sp, h2.vars.trans h.vars, h2.bud.trans h.bud, h2.len.trans h.bud, ⟨X ++ Y, by rw [hY, hX, List.append_assoc]⟩⟩
theorem Sp.inv {s s' : St} (h : Sp s s') : Inv s' := ⟨by rw [h.len, h.bud]; exact Nat.le_refl _, fun _ => by rw [h.len, h.bud]⟩
theorem Res.inv {s s' : St} {r a : Int} {M : List Nd} (h : Res s r M a s') : Inv s' := by
  rcases h with ⟨h1, h2, rfl, rfl⟩ | ⟨h1, h2, h3⟩
  · exact ⟨h2, fun h => by rw [show ({ s with L := M } : St).spent = s.spent from rfl, h1] at h; cases h⟩
  · exact h3.inv
theorem Res.vars {s s' : St} {r a : Int} {M : List Nd} (h : Res s r M a s') : s'.vars = s.vars ∧ s'.budget = s.budget := by
  rcases h with ⟨h1, h2, rfl, rfl⟩ | ⟨h1, h2, h3⟩
  · exact ⟨rfl, rfl⟩
  · exact ⟨h3.vars, h3.bud⟩
theorem Res.pre {s s' : St} {r a : Int} {M : List Nd} (h : Res s r M a s') (hM : ∃ X, M = s.L ++ X) : ∃ X, s'.L = s.L ++ X := by
  rcases h with ⟨h1, h2, rfl, rfl⟩ | ⟨h1, h2, h3⟩
  · exact hM
  · exact h3.pre
theorem Res.is {s s' : St} {r a : Int} {M : List Nd} (h : Res s r M a s') (hM : isB (T s.vars M) r = true) : isB s' a = true := by
  rcases h with ⟨h1, h2, rfl, rfl⟩ | ⟨h1, h2, h3⟩
  · exact hM
  · exact h2
theorem Res.len {s s' : St} {r a : Int} {M : List Nd} (hI : Inv s) (h : Res s r M a s') (hM : s.L.length ≤ M.length) : s'.L.length ≤ M.length := by
  rcases h with ⟨h1, h2, rfl, rfl⟩ | ⟨h1, h2, h3⟩
  · exact Nat.le_refl _
  · rw [h3.len]
    rcases h1 with h1 | h1
    · rw [← hI.sp h1]; exact hM
    · omega
theorem mk_spent {s : St} (hI : Inv s) (hs : s.spent = true) (v lo hi : Int) : mkS s v lo hi = s := by
  unfold mkS
  split
  · split
    · rfl
    · split
      · rfl
      · split
        · obtain ⟨a, b, c, d⟩ := s
          simp only at hs
          subst hs
          rfl
        · rename_i h
          exact absurd (Nat.le_of_eq (hI.sp hs).symm) h
  · rfl
theorem mk_res {s : St} (hI : Inv s) {v lo hi : Int} (hm : mayB s v lo hi = true) : Res s (ins s.L v lo hi).1 (ins s.L v lo hi).2 (mkA s v lo hi) (mkS s v lo hi) := by
  have hlo := (mayB_iff.1 hm).2.1
  unfold mkA mkS ins
  rw [if_pos hm, if_pos hm]
  by_cases hne : lo = hi
  · rw [if_pos hne, if_pos hne, if_pos hne]
    cases hs : s.spent with
    | false => exact Or.inl ⟨hs, hI.len, rfl, rfl⟩
    | true => exact Or.inr ⟨Or.inl hs, hlo, Sp.self hI hs⟩
  · rw [if_neg hne, if_neg hne, if_neg hne]
    cases hp : posN s.L ⟨v, lo, hi⟩ with
    | some i =>
      simp only
      cases hs : s.spent with
      | false => exact Or.inl ⟨hs, hI.len, rfl, rfl⟩
      | true => exact Or.inr ⟨Or.inl hs, isB_iff.2 ⟨by omega, by obtain ⟨h1, _⟩ := posN_some hp; omega⟩, Sp.self hI hs⟩
    | none =>
      simp only
      by_cases hb : s.budget ≤ s.L.length
      · rw [if_pos hb, if_pos hb]
        exact Or.inr ⟨Or.inr (by simp; omega), isB_iff.2 ⟨by omega, by show (0 : Int) < 2 + (s.L.length : Int); omega⟩, ⟨rfl, rfl, rfl, by have := hI.len; show s.L.length = s.budget; omega, ⟨[], by simp⟩⟩⟩
      · rw [if_neg hb, if_neg hb]
        have hs : s.spent = false := by
          cases h : s.spent with
          | false => rfl
          | true => exact absurd (Nat.le_of_eq (hI.sp h).symm) hb
        exact Or.inl ⟨hs, by simp; omega, rfl, rfl⟩
/-- Where the parts are made, the whole is. -/
theorem res_step {s s1 s2 : St} {F : Fn} {v : Nat} {a0 a1 : Int} (hw : WF s) (hI : Inv s) (hs : s.spent = false) (hv : v < s.vars) (hd : Dep s.vars v F)
    (h1 : Res s (top s.vars s.L (cof F v false)).1 (top s.vars s.L (cof F v false)).2 a0 s1) (h2 : Res s1 (top s.vars s1.L (cof F v true)).1 (top s.vars s1.L (cof F v true)).2 a1 s2) :
    Res s (top s.vars s.L F).1 (top s.vars s.L F).2 (if (mkS s2 v a0 a1).spent then 0 else mkA s2 v a0 a1) (mkS s2 v a0 a1) := by
  obtain ⟨n, hn⟩ : ∃ n, v + 1 + n = s.vars := ⟨s.vars - v - 1, by omega⟩
  have g0 := top_good (T_wf hw) hn (hd.cof false)
  have g1 := top_good g0.wf hn (hd.cof true)
  have est := top_step (T_wf hw) hv hd
  have i2 := h2.inv
  have hz : ∀ x : St, isB x 0 = true := fun x => isB_iff.2 ⟨by omega, by omega⟩
  have hspent : s2.spent = true → (s1.spent = true ∨ s.budget < (top s.vars s1.L (cof F v true)).2.length) → Sp s s2 → s.budget < (top s.vars s.L F).2.length → Res s (top s.vars s.L F).1 (top s.vars s.L F).2 (if (mkS s2 v a0 a1).spent then 0 else mkA s2 v a0 a1) (mkS s2 v a0 a1) := fun hs2 _ hsp hb => by
    rw [mk_spent i2 hs2, if_pos hs2]
    exact Or.inr ⟨Or.inr hb, hz _, hsp⟩
  rcases h1 with ⟨_, l0, rfl, rfl⟩ | ⟨b0, _, sp1⟩
  · rcases h2 with ⟨_, l1, rfl, rfl⟩ | ⟨b1, _, sp2⟩
    · simp only at g1 est ⊢
      have hm : mayB { s with L := (top s.vars (top s.vars s.L (cof F v false)).2 (cof F v true)).2 } v (top s.vars s.L (cof F v false)).1 (top s.vars (top s.vars s.L (cof F v false)).2 (cof F v true)).1 = true := by
        obtain ⟨Y, hY⟩ := g1.pre
        refine may (K := s.vars) (L := (top s.vars (top s.vars s.L (cof F v false)).2 (cof F v true)).2) ?_ g1.is ?_ (by have := g1.var; omega)
        · have := is_app (X := Y) g0.is
          rw [← hY] at this
          exact this
        · have := varI_app (X := Y) g0.is
          rw [← hY] at this
          rw [this]
          have := g0.var
          omega
      have hmk := mk_res i2 hm
      rw [est]
      rcases hmk with ⟨h1, h2, h3, h4⟩ | ⟨h1, h2, h3⟩
      · refine Or.inl ⟨hs, h2, ?_, ?_⟩
        · rw [h4, if_neg (by show ¬ (s.spent = true); rw [hs]; simp)]
          exact h3
        · rw [h4]
      · rcases h1 with h1 | h1
        · exact absurd (h1.symm.trans hs) (by simp)
        · rw [if_pos h3.sp]
          refine Or.inr ⟨Or.inr h1, hz _, ?_⟩
          obtain ⟨X, hX⟩ := g0.pre
          obtain ⟨Y, hY⟩ := g1.pre
          obtain ⟨Z, hZ⟩ := h3.pre
          exact ⟨h3.sp, h3.vars, h3.bud, h3.len, ⟨X ++ Y ++ Z, by rw [hZ]; show _ ++ Z = _; rw [hY, hX]; simp [List.append_assoc]⟩⟩
    · obtain ⟨X, hX⟩ := g0.pre
      obtain ⟨Y, hY⟩ := sp2.pre
      have hb : s.budget < (top s.vars (top s.vars s.L (cof F v false)).2 (cof F v true)).2.length := by
        rcases b1 with b | b
        · exact absurd (b.symm.trans hs) (by simp)
        · exact b
      refine hspent sp2.sp (Or.inr hb) ⟨sp2.sp, sp2.vars, sp2.bud, sp2.len, ⟨X ++ Y, by rw [hY]; show _ ++ Y = _; rw [hX]; simp [List.append_assoc]⟩⟩ ?_
      rw [est]
      exact Nat.lt_of_lt_of_le hb (ins_len _ _ _ _)
  · have hs2 : Sp s1 s2 := by
      rcases h2 with ⟨h, _⟩ | ⟨_, _, h⟩
      · rw [sp1.sp] at h; cases h
      · exact h
    have hb : s.budget < (top s.vars s.L (cof F v false)).2.length := by
      rcases b0 with b | b
      · rw [hs] at b; cases b
      · exact b
    refine hspent hs2.sp (Or.inl sp1.sp) (sp1.trans hs2) ?_
    rw [est]
    obtain ⟨Y, hY⟩ := g1.pre
    refine Nat.lt_of_lt_of_le hb (Nat.le_trans ?_ (ins_len _ _ _ _))
    rw [hY, List.length_append]
    omega
end Go.Proofs.Ytnkkmppmfjekeaa.ItA
