/- The document's Reaches, by contract; it answers what the program's does. -/
import Derived.Test.YtblapgfilbmdhaaGreatDoorM38
import Derived.Test.YtblapgfilbmdhaaGreatDoorM39
import Derived.Test.YtblapgfilbmdhaaGreatDoorM34
import Derived.Test.YtblapgfilbmdhaaGreatDoorM33
import Derived.Test.YtblapgfilbmdhaaGreatDoorM36
set_option linter.unusedVariables false
set_option linter.unusedSimpArgs false
namespace Go.Proofs.YtblapgfilbmdhaaGreatDoor.StJ
open Go.Shelf Go.RowKit Go.Sort Go.Lib Go.Proofs Plain SynP Grown SynC SynD SynD2 SynD3 QryP PolA PolE StA StB StC StD StE StF StG StH StI
end Go.Proofs.YtblapgfilbmdhaaGreatDoor.StJ
namespace Go.Proofs.YtblapgfilbmdhaaGreatDoor.HiR
open Go.RowKit Go.Sort Go.Lib Go.Proofs Plain SynP SynJ TabP QryP PolE PolG PolH TblR LwA LwH LwM HiA HiL
end Go.Proofs.YtblapgfilbmdhaaGreatDoor.HiR
namespace Go.Proofs.YtblapgfilbmdhaaGreatDoor.HiS
open Go.RowKit Go.Sort Go.Lib Go.Proofs Plain SynP TabP Tab1 Tab5 PolA PolE PolG PolH PolOp PolLi RefPr RefSm TblA TblB TblC TblP TblQ TblR SetJ SetR SemA SemGa StB StR LwA LwD LwE LwG LwH LwM LwT
open HiA HiL
open HiM (Small)
end Go.Proofs.YtblapgfilbmdhaaGreatDoor.HiS
namespace Go.Proofs.YtblapgfilbmdhaaGreatDoor.HiQ
open Go.RowKit Go.Sort Go.Lib Go.Proofs Plain SynP SynJ TabP QryP PolE PolG PolH LwA LwH LwM HiA HiL
def withG (p : Py) (G : List Rl) : Py := ⟨p.stmts, G, p.shrink, p.asks⟩
structure More (p : Py) (G : List Rl) : Prop where
  old : ∀ r ∈ p.grow, r ∈ G
  new : ∀ r ∈ G, r ∈ p.grow ∨ (bt r.owner ∈ PT p ∧ bt r.name ∈ NT p)
theorem mem_rolesP {p : Py} {G : List Rl} (r : Rl) : r ∈ rolesP (withG p G) ↔ r ∈ G ∨ r ∈ p.shrink ∨ r ∈ rolesS p.stmts p.stmts.length ∨ r ∈ rolesA p.asks p.asks.length := by
  unfold rolesP withG
  simp only [List.mem_append, or_assoc]
theorem mem_rolesP0 {p : Py} (r : Rl) : r ∈ rolesP p ↔ r ∈ p.grow ∨ r ∈ p.shrink ∨ r ∈ rolesS p.stmts p.stmts.length ∨ r ∈ rolesA p.asks p.asks.length := by
  unfold rolesP
  simp only [List.mem_append, or_assoc]
theorem mem_pt {p : Py} {x : Str} : x ∈ PT p ↔ (∃ r ∈ rolesP p, bt r.owner = x) ∨ x ∈ whosS p.stmts p.stmts.length ∨ x ∈ whosA p.asks p.asks.length := by
  unfold PT
  rw [mem_tab]
  unfold prinsT ownersR
  rw [List.take_length]
  simp only [List.mem_append, List.mem_map, or_assoc]
theorem mem_nt {p : Py} {x : Str} : x ∈ NT p ↔ (∃ r ∈ rolesP p, bt r.name = x) ∨ x ∈ viasS p.stmts p.stmts.length := by
  unfold NT
  rw [mem_tab]
  unfold namesT namesR
  rw [List.take_length]
  simp only [List.mem_append, List.mem_map]
theorem role_pt {p : Py} {r : Rl} (h : r ∈ rolesP p) : bt r.owner ∈ PT p ∧ bt r.name ∈ NT p := ⟨mem_pt.2 (.inl ⟨r, h, rfl⟩), mem_nt.2 (.inl ⟨r, h, rfl⟩)⟩
theorem roles_sub {p : Py} {G : List Rl} (h : More p G) {r : Rl} (hr : r ∈ rolesP (withG p G)) : bt r.owner ∈ PT p ∧ bt r.name ∈ NT p := by
  rcases (mem_rolesP r).1 hr with hr | hr
  · rcases h.new r hr with hr | hr
    · exact role_pt ((mem_rolesP0 r).2 (.inl hr))
    · exact hr
  · exact role_pt ((mem_rolesP0 r).2 (.inr hr))
theorem roles_sup {p : Py} {G : List Rl} (h : More p G) {r : Rl} (hr : r ∈ rolesP p) : r ∈ rolesP (withG p G) := by
  rcases (mem_rolesP0 r).1 hr with hr | hr
  · exact (mem_rolesP r).2 (.inl (h.old r hr))
  · exact (mem_rolesP r).2 (.inr hr)
theorem pt_more {p : Py} {G : List Rl} (h : More p G) : PT (withG p G) = PT p :=
  eq_of_rising (tab_sorted _) (tab_sorted _) fun x => by
    constructor
    · intro hx
      rcases mem_pt.1 hx with ⟨r, hr, rfl⟩ | hx
      · exact (roles_sub h hr).1
      · exact mem_pt.2 (.inr hx)
    · intro hx
      rcases mem_pt.1 hx with ⟨r, hr, rfl⟩ | hx
      · exact mem_pt.2 (.inl ⟨r, roles_sup h hr, rfl⟩)
      · exact mem_pt.2 (.inr hx)
theorem nt_more {p : Py} {G : List Rl} (h : More p G) : NT (withG p G) = NT p :=
  eq_of_rising (tab_sorted _) (tab_sorted _) fun x => by
    constructor
    · intro hx
      rcases mem_nt.1 hx with ⟨r, hr, rfl⟩ | hx
      · exact (roles_sub h hr).2
      · exact mem_nt.2 (.inr hx)
    · intro hx
      rcases mem_nt.1 hx with ⟨r, hr, rfl⟩ | hx
      · exact mem_nt.2 (.inl ⟨r, roles_sup h hr, rfl⟩)
      · exact mem_nt.2 (.inr hx)
theorem ft_more {p : Py} {G : List Rl} (h : More p G) : FT (withG p G) = FT p := by
  unfold FT
  rw [pt_more h]
theorem et_more {p : Py} {G : List Rl} (h : More p G) : ET (withG p G) = ET p := by
  unfold ET
  rw [pt_more h, ft_more h]
theorem rp_more {p : Py} {G : List Rl} (hr : Rp p) (h : More p G) : Rp (withG p G) := by
  refine ⟨hr.st, fun r hm => ?_, hr.qs, by rw [pt_more h]; exact hr.ps, by rw [nt_more h]; exact hr.ns⟩
  rw [List.mem_append] at hm
  rcases hm with hm | hm
  · rcases h.new r hm with hm | ⟨h1, h2⟩
    · exact hr.gh r (List.mem_append.2 (.inl hm))
    · unfold Rl.ok
      rw [Bool.and_eq_true]
      exact ⟨prin_ok hr _ h1, name_ok hr _ h2⟩
  · exact hr.gh r (List.mem_append.2 (.inr hm))
theorem hr_more {p : Py} {G : List Rl} (h : More p G) {r : Rl} (hm : r ∈ hRoles (withG p G)) : r ∈ hRoles p := by
  rw [mem_hr, et_more h, nt_more h] at hm
  exact mem_hr.2 ⟨hm.1, hm.2.1, fun hg => hm.2.2 (h.old r hg)⟩
theorem max_more {p : Py} {G : List Rl} (h : More p G) {s : St} (hm : s ∈ maxS (withG p G)) : s ∈ maxS p := by
  rcases mem_max.1 hm with hm | hm
  · exact mem_max.2 (.inl hm)
  · obtain ⟨r, hr, x, hx, rfl⟩ := mem_hp.1 hm
    rw [et_more h] at hx
    exact mem_max.2 (.inr (mem_hp.2 ⟨r, hr_more h hr, x, hx, rfl⟩))
theorem mem_more {p : Py} {G : List Rl} (hr : Rp p) (h : More p G) (r : Rl) : ∀ y ∈ memT (ET (withG p G)) (NT (withG p G)) (rulesOf (ET (withG p G)) (NT (withG p G)) (maxS (withG p G))) r, y ∈ memT (ET p) (NT p) (rulesOf (ET p) (NT p) (maxS p)) r := by
  intro y hy
  rw [mem_memT (et_up _) (max_ok (rp_more hr h))] at hy
  rw [mem_memT (et_up p) (max_ok hr)]
  exact hy.mono fun s hs => max_more h hs
theorem max_count (p : Py) : (maxS p).length ≤ p.stmts.length + ((PT p).length + 1) * ((PT p).length + 1) * (NT p).length := by
  refine Nat.le_trans (max_len p) (Nat.add_le_add_left ?_ _)
  unfold hPairs
  rw [flat_len _ (ET p).length _ (fun r _ => by rw [List.length_map])]
  have h1 : (hRoles p).length ≤ (ET p).length * (NT p).length := by
    unfold hRoles
    refine Nat.le_trans (List.length_filter_le _ _) ?_
    rw [all_len]
    exact Nat.le_refl _
  have h2 := et_len p
  calc (hRoles p).length * (ET p).length ≤ ((ET p).length * (NT p).length) * (ET p).length := Nat.mul_le_mul_right _ h1
    _ = ((ET p).length * (ET p).length) * (NT p).length := by rw [Nat.mul_assoc, Nat.mul_comm (NT p).length, ← Nat.mul_assoc]
    _ ≤ _ := Nat.mul_le_mul_right _ (Nat.mul_le_mul h2 h2)
theorem steps_le {st P K T n N : Nat} (h : st ≤ T + P * (P * K + T * (2 + 2 * P))) (hP : P ≤ n) (hT : T ≤ N) : st ≤ SemJ.boundN n K N := by
  have h1 : P * K ≤ n * K := Nat.mul_le_mul_right _ hP
  have h2 : T * (2 + 2 * P) ≤ N * (2 + 2 * n) := Nat.mul_le_mul hT (by omega)
  have h3 : P * (P * K + T * (2 + 2 * P)) ≤ n * (n * K + N * (2 + 2 * n)) := Nat.mul_le_mul hP (by omega)
  have h4 : N + n * (n * K + N * (2 + 2 * n)) ≤ SemJ.boundN n K N := SemA.bound_le n K N
  omega
end Go.Proofs.YtblapgfilbmdhaaGreatDoor.HiQ
namespace Go.Proofs.YtblapgfilbmdhaaGreatDoor.HiT
open Go.RowKit Go.Sort Go.Lib Go.Proofs Plain SynP SynJ TabP QryP PolE PolG PolH LwA LwH LwM HiA HiL SynD HiQ
def namedB (P N : List Str) (r : Rl) : Bool := decide (bt r.owner ∈ P) && decide (bt r.name ∈ N)
def gq (P N : List Str) (G M : List Rl) (j : Nat) : List Rl := G ++ (M.take j).filter (namedB P N)
theorem gq_zero (P N : List Str) (G M : List Rl) : gq P N G M 0 = G := by unfold gq; simp
theorem gq_succ {P N : List Str} {G M : List Rl} {j : Nat} (h : j < M.length) : gq P N G M (j + 1) = if namedB P N M[j] = true then gq P N G M j ++ [M[j]] else gq P N G M j := by
  unfold gq
  rw [List.take_succ_eq_append_getElem h, List.filter_append, List.filter_cons, List.filter_nil, ← List.append_assoc]
  split
  · rfl
  · rw [List.append_nil]
theorem gq_len (P N : List Str) (G M : List Rl) (j : Nat) : (gq P N G M j).length ≤ G.length + M.length := by
  unfold gq
  rw [List.length_append]
  have h1 := List.length_filter_le (namedB P N) (M.take j)
  have h2 : (M.take j).length ≤ M.length := by rw [List.length_take]; omega
  omega
theorem mem_gq {P N : List Str} {G M : List Rl} {j : Nat} {r : Rl} (h : r ∈ gq P N G M j) : r ∈ G ∨ (bt r.owner ∈ P ∧ bt r.name ∈ N) := by
  unfold gq at h
  rcases List.mem_append.1 h with h | h
  · exact Or.inl h
  · have := (List.mem_filter.1 h).2
    unfold namedB at this
    simp only [Bool.and_eq_true, decide_eq_true_eq] at this
    exact Or.inr this
def sortRl (L : List Rl) : List Rl := sortL cmpR [] L
theorem mem_sortRl {L : List Rl} {r : Rl} : r ∈ sortRl L ↔ r ∈ L := by
  unfold sortRl
  rw [sortL_mem]
  simp
theorem more_sorted (p : Py) (M : List Rl) (j : Nat) : More p (sortRl (gq (PT p) (NT p) p.grow M j)) :=
  ⟨fun r hr => mem_sortRl.2 (List.mem_append.2 (Or.inl hr)), fun r hr => mem_gq (mem_sortRl.1 hr)⟩
theorem bt_inj {a b : ByteArray} (h : bt a = bt b) : a = b := by
  obtain ⟨a⟩ := a
  obtain ⟨b⟩ := b
  have h' : a.toList = b.toList := h
  have : a = b := Array.ext' h'
  rw [this]
theorem pigeon : ∀ (n : Nat) (l : List Nat), l.Nodup → (∀ x ∈ l, x < n) → l.length ≤ n
  | 0, [], _, _ => Nat.le_refl _
  | 0, a :: l, _, h => absurd (h a (by simp)) (by omega)
  | n + 1, l, hd, h => by
    by_cases hn : n ∈ l
    · have h1 := pigeon n (l.erase n) (hd.erase n) (fun x hx => by
        have := (hd.mem_erase_iff).1 hx
        have := h x this.2
        omega)
      rw [List.length_erase_of_mem hn] at h1
      omega
    · have := pigeon n l hd (fun x hx => by
        have := h x hx
        have : x ≠ n := fun e => hn (e ▸ hx)
        omega)
      omega
theorem few_roles {P N : List Str} {L : List Rl} (hd : L.Nodup) (hP : ∀ r ∈ L, bt r.owner ∈ P) (hN : ∀ r ∈ L, bt r.name ∈ N) : L.length ≤ P.length * N.length := by
  have hlt : ∀ x ∈ L.map (fun r => P.idxOf (bt r.owner) * N.length + N.idxOf (bt r.name)), x < P.length * N.length := fun x hx => by
    obtain ⟨r, hr, rfl⟩ := List.mem_map.1 hx
    have h1 := List.idxOf_lt_length_of_mem (hP r hr)
    have h2 := List.idxOf_lt_length_of_mem (hN r hr)
    have h3 : (P.idxOf (bt r.owner) + 1) * N.length ≤ P.length * N.length := Nat.mul_le_mul_right _ h1
    rw [Nat.add_mul] at h3
    omega
  have hnd : (L.map (fun r => P.idxOf (bt r.owner) * N.length + N.idxOf (bt r.name))).Nodup := by
    unfold List.Nodup
    rw [List.pairwise_map]
    refine List.Pairwise.imp_of_mem (R := fun a b => a ≠ b) (fun {r s} hr hs hne e => hne ?_) hd
    have h2 := List.idxOf_lt_length_of_mem (hN r hr)
    have h2' := List.idxOf_lt_length_of_mem (hN s hs)
    have e1 : P.idxOf (bt r.owner) = P.idxOf (bt s.owner) := by
      have q1 : (P.idxOf (bt r.owner) * N.length + N.idxOf (bt r.name)) / N.length = P.idxOf (bt r.owner) := by
        rw [Nat.mul_comm, Nat.mul_add_div (by omega), Nat.div_eq_of_lt h2, Nat.add_zero]
      have q2 : (P.idxOf (bt s.owner) * N.length + N.idxOf (bt s.name)) / N.length = P.idxOf (bt s.owner) := by
        rw [Nat.mul_comm, Nat.mul_add_div (by omega), Nat.div_eq_of_lt h2', Nat.add_zero]
      rw [← q1, ← q2, e]
    have e2 : N.idxOf (bt r.name) = N.idxOf (bt s.name) := by rw [e1] at e; omega
    have o : bt r.owner = bt s.owner := by
      have a := List.getElem_idxOf (List.idxOf_lt_length_of_mem (hP r hr))
      have b := List.getElem_idxOf (List.idxOf_lt_length_of_mem (hP s hs))
      rw [← a, ← b]
      simp only [e1]
    have m : bt r.name = bt s.name := by
      have a := List.getElem_idxOf h2
      have b := List.getElem_idxOf h2'
      rw [← a, ← b]
      simp only [e2]
    obtain ⟨ro, rn⟩ := r
    obtain ⟨so, sn⟩ := s
    simp only at o m
    rw [bt_inj o, bt_inj m]
  have := pigeon _ _ hnd hlt
  rw [List.length_map] at this
  exact this
theorem sorted_nodup (L : List Rl) : (sortRl L).Nodup := by
  have h := sortL_strict tri_R (fun x y e => Syn3.cmpR_eq.1 e) L [] List.Pairwise.nil
  exact List.Pairwise.imp (fun {x y} hxy e => by subst e; rw [Syn3.cmpR_eq.2 rfl] at hxy; omega) h
theorem pt_sub {p : Py} {x : Str} (h : x ∈ PT p) : x ∈ ET p := by
  unfold ET
  rw [mem_tab]
  exact List.mem_append.2 (Or.inl h)
theorem few_sorted {p : Py} (he : (ET p).length ≤ 7) (hn : (NT p).length ≤ 4) (M : List Rl) (j : Nat) : (sortRl (gq (PT p) (NT p) p.grow M j)).length ≤ 28 := by
  have hm := more_sorted p M j
  have hb : ∀ r ∈ sortRl (gq (PT p) (NT p) p.grow M j), bt r.owner ∈ PT p ∧ bt r.name ∈ NT p := fun r hr => by
    rcases hm.new r hr with h | h
    · exact role_pt ((mem_rolesP0 r).2 (Or.inl h))
    · exact h
  exact Nat.le_trans (few_roles (sorted_nodup _) (fun r hr => pt_sub (hb r hr).1) (fun r hr => (hb r hr).2)) (Nat.mul_le_mul he hn)
theorem small_more {p : Py} (hs : HiM.Small p) (M : List Rl) (j : Nat) : HiM.Small (withG p (sortRl (gq (PT p) (NT p) p.grow M j))) :=
  ⟨⟨hs.few.n1, by show (sortRl (gq (PT p) (NT p) p.grow M j)).length ≤ 60; have := few_sorted hs.e7 hs.n4 M j; omega, hs.few.n3, hs.few.n4, hs.few.n5⟩, rp_more hs.rp (more_sorted p M j), by rw [et_more (more_sorted p M j)]; exact hs.e7, by rw [nt_more (more_sorted p M j)]; exact hs.n4⟩
end Go.Proofs.YtblapgfilbmdhaaGreatDoor.HiT
