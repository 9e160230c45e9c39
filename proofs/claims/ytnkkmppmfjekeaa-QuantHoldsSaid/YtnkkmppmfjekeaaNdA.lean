/- Diagrams' nodes: the maths of a table of them, each once. -/
import Derived.Test.YtnkkmppmfjekeaaProg
import Derived.Lib.Hide
namespace Go.Proofs.Ytnkkmppmfjekeaa.NdA
set_option linter.unusedVariables false
structure Nd where
  v : Int
  lo : Int
  hi : Int
deriving DecidableEq
/-- What a table says. -/
structure St where
  vars : Nat
  budget : Nat
  spent : Bool
  L : List Nd
def isB (s : St) (n : Int) : Bool := decide (0 ≤ n) && decide (n < 2 + s.L.length)
def nodeB (s : St) (n : Int) : Bool := decide (2 ≤ n) && decide (n < 2 + s.L.length)
def at_ (s : St) (n : Int) : Nd := s.L.getD (n - 2).toNat ⟨0, 0, 0⟩
def varI (s : St) (n : Int) : Int := if nodeB s n then (at_ s n).v else s.vars
def mayB (s : St) (v lo hi : Int) : Bool := decide (0 ≤ v) && isB s lo && isB s hi && decide (v < varI s lo) && decide (v < varI s hi)
def posN : List Nd → Nd → Option Nat
  | [], _ => none
  | y :: l, x => if y = x then some 0 else (posN l x).map (· + 1)
theorem posN_some : ∀ {l : List Nd} {x : Nd} {i : Nat}, posN l x = some i → ∃ h : i < l.length, l[i] = x
  | [], _, _, h => by cases h
  | y :: l, x, i, h => by
    unfold posN at h
    split at h
    · rename_i e
      injection h with h
      subst h
      exact ⟨by simp, by simpa using e⟩
    · cases hp : posN l x with
      | none => rw [hp] at h; cases h
      | some j =>
        rw [hp] at h
        injection h with h
        obtain ⟨h1, h2⟩ := posN_some hp
        subst h
        exact ⟨by simpa using h1, by simpa using h2⟩
theorem posN_none : ∀ {l : List Nd} {x : Nd}, posN l x = none → x ∉ l
  | [], _, _ => by simp
  | y :: l, x, h => by
    unfold posN at h
    split at h
    · cases h
    · rename_i e
      have := posN_none (l := l) (x := x) (by cases hp : posN l x with
        | none => rfl
        | some j => rw [hp] at h; cases h)
      simp only [List.mem_cons, not_or]
      exact ⟨fun e2 => e e2.symm, this⟩
theorem posN_of_mem {l : List Nd} {x : Nd} (h : x ∈ l) : ∃ i, posN l x = some i := by
  cases hp : posN l x with
  | none => exact absurd h (posN_none hp)
  | some i => exact ⟨i, rfl⟩
theorem nodup_get {l : List Nd} (hd : l.Nodup) {i j : Nat} (hi : i < l.length) (hj : j < l.length) (h : l[i] = l[j]) : i = j := by
  have hp := List.pairwise_iff_getElem.1 hd
  rcases Nat.lt_trichotomy i j with e | e | e
  · exact absurd h (hp i j hi hj e)
  · exact e
  · exact absurd h.symm (hp j i hj hi e)
theorem posN_at {l : List Nd} (hd : l.Nodup) {i : Nat} (hi : i < l.length) : posN l l[i] = some i := by
  obtain ⟨j, hj⟩ := posN_of_mem (List.getElem_mem hi)
  obtain ⟨h1, h2⟩ := posN_some hj
  rw [hj]
  rw [nodup_get hd h1 hi h2]
/-- What Make answers, and what there is behind it. -/
def mkA (s : St) (v lo hi : Int) : Int :=
  if mayB s v lo hi then if lo = hi then lo else match posN s.L ⟨v, lo, hi⟩ with
    | some i => i + 2
    | none => if s.budget ≤ s.L.length then 0 else s.L.length + 2
  else 0
def mkE (s : St) (v lo hi : Int) : Int :=
  if mayB s v lo hi then if lo = hi then 0 else match posN s.L ⟨v, lo, hi⟩ with
    | some i => 0
    | none => if s.budget ≤ s.L.length then 8 else 0
  else 6
def mkS (s : St) (v lo hi : Int) : St :=
  if mayB s v lo hi then if lo = hi then s else match posN s.L ⟨v, lo, hi⟩ with
    | some i => s
    | none => if s.budget ≤ s.L.length then { s with spent := true } else { s with L := s.L ++ [⟨v, lo, hi⟩] }
  else s
/-- The nodes are as they may be: each once, with parts that were there before, of greater variables. -/
structure WF (s : St) : Prop where
  nodup : s.L.Nodup
  ok : ∀ i, (h : i < s.L.length) → 0 ≤ s.L[i].v ∧ s.L[i].v < s.vars ∧ 0 ≤ s.L[i].lo ∧ s.L[i].lo < i + 2 ∧ 0 ≤ s.L[i].hi ∧ s.L[i].hi < i + 2 ∧ s.L[i].lo ≠ s.L[i].hi ∧ s.L[i].v < varI s s.L[i].lo ∧ s.L[i].v < varI s s.L[i].hi
  v61 : s.vars ≤ 61
theorem isB_iff {s : St} {n : Int} : isB s n = true ↔ 0 ≤ n ∧ n < 2 + s.L.length := by unfold isB; simp
theorem nodeB_iff {s : St} {n : Int} : nodeB s n = true ↔ 2 ≤ n ∧ n < 2 + s.L.length := by unfold nodeB; simp
theorem mayB_iff {s : St} {v lo hi : Int} : mayB s v lo hi = true ↔ 0 ≤ v ∧ isB s lo = true ∧ isB s hi = true ∧ v < varI s lo ∧ v < varI s hi := by unfold mayB; simp [and_assoc]
/-- A node's variable stays when there are more nodes. -/
theorem varI_more {s : St} {x : Nd} {n : Int} (h : isB s n = true) : varI { s with L := s.L ++ [x] } n = varI s n := by
  obtain ⟨h1, h2⟩ := isB_iff.1 h
  unfold varI nodeB at_
  simp only [List.length_append, List.length_singleton]
  by_cases h3 : 2 ≤ n
  · have e1 : (decide (2 ≤ n) && decide (n < 2 + ((s.L.length + 1 : Nat) : Int))) = true := by simp; omega
    have e2 : (decide (2 ≤ n) && decide (n < 2 + (s.L.length : Int))) = true := by simp; omega
    rw [if_pos e1, if_pos e2]
    have e3 : (n - 2).toNat < s.L.length := by omega
    rw [List.getD_eq_getElem?_getD, List.getD_eq_getElem?_getD, List.getElem?_append_left e3]
  · have e1 : (decide (2 ≤ n) && decide (n < 2 + ((s.L.length + 1 : Nat) : Int))) = false := by simp; omega
    have e2 : (decide (2 ≤ n) && decide (n < 2 + (s.L.length : Int))) = false := by simp; omega
    rw [if_neg (by rw [e1]; simp), if_neg (by rw [e2]; simp)]
theorem varI_le {s : St} (h : WF s) (n : Int) : varI s n ≤ s.vars := by
  unfold varI
  split
  · rename_i hn
    obtain ⟨h1, h2⟩ := nodeB_iff.1 hn
    have hlt : (n - 2).toNat < s.L.length := by omega
    have := (h.ok _ hlt).2.1
    unfold at_
    rw [List.getD_eq_getElem?_getD, List.getElem?_eq_getElem hlt]
    simpa using Int.le_of_lt this
  · exact Int.le_refl _
theorem WF.add {s : St} (h : WF s) {v lo hi : Int} (hm : mayB s v lo hi = true) (hne : lo ≠ hi) (hn : ⟨v, lo, hi⟩ ∉ s.L) : WF { s with L := s.L ++ [⟨v, lo, hi⟩] } := by
  obtain ⟨m1, m2, m3, m4, m5⟩ := mayB_iff.1 hm
  obtain ⟨l1, l2⟩ := isB_iff.1 m2
  obtain ⟨h1, h2⟩ := isB_iff.1 m3
  refine ⟨?_, fun i hi => ?_, h.v61⟩
  · rw [List.nodup_append]
    refine ⟨h.nodup, by simp, fun a ha b hb => ?_⟩
    rw [List.mem_singleton] at hb
    subst hb
    exact fun e => hn (e ▸ ha)
  · simp only [List.length_append, List.length_singleton] at hi
    by_cases e : i < s.L.length
    · have hk := h.ok i e
      simp only [List.getElem_append_left e]
      refine ⟨hk.1, hk.2.1, hk.2.2.1, hk.2.2.2.1, hk.2.2.2.2.1, hk.2.2.2.2.2.1, hk.2.2.2.2.2.2.1, ?_, ?_⟩
      · rw [varI_more (isB_iff.2 ⟨hk.2.2.1, by omega⟩)]; exact hk.2.2.2.2.2.2.2.1
      · rw [varI_more (isB_iff.2 ⟨hk.2.2.2.2.1, by omega⟩)]; exact hk.2.2.2.2.2.2.2.2
    · have e2 : i = s.L.length := by omega
      subst e2
      simp only [List.getElem_append_right (Nat.le_refl _), Nat.sub_self, List.getElem_singleton]
      have hv := varI_le h lo
      refine ⟨m1, by omega, l1, by omega, h1, by omega, hne, ?_, ?_⟩
      · rw [varI_more m2]; exact m4
      · rw [varI_more m3]; exact m5
theorem wf_mk {s : St} (h : WF s) (v lo hi : Int) : WF (mkS s v lo hi) := by
  unfold mkS
  split
  · rename_i hm
    split
    · exact h
    · rename_i hne
      split
      · exact h
      · rename_i hp
        split
        · exact ⟨h.nodup, h.ok, h.v61⟩
        · exact h.add hm hne (posN_none hp)
  · exact h
end Go.Proofs.Ytnkkmppmfjekeaa.NdA
