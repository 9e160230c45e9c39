/- How statements stand: a strict weak order, as the library's sort asks it. -/
import Derived.Test.YtofhiolmaojihaaSynP
import Derived.Sort.Statements
import Derived.Shelf.SlSortCmp.Insertion
namespace Go.Proofs.Ytofhiolmaojihaa.SynD
open Go.Sort Go.Proofs Go.Proofs.Ytofhiolmaojihaa.SynP
variable {α β : Type}
/-- A three-way comparison: it turns its sign with its arguments, goes through, and 0 is a congruence. -/
structure Tri (c : α → α → Int) : Prop where
  same : ∀ x, c x x = 0
  anti : ∀ x y, c y x = - c x y
  thru : ∀ x y z, c x y < 0 → c y z < 0 → c x z < 0
  cong : ∀ x y z, c x y = 0 → c y z = c x z
theorem orL_nil' : orL [] = 0 := rfl
theorem orL_cons' (x : Int) (l : List Int) : orL (x :: l) = if x ≠ 0 then x else orL l := rfl
theorem tri_nil : Tri (fun (_ _ : α) => orL []) :=
  ⟨fun _ => rfl, fun _ _ => rfl, fun _ _ _ h => by rw [orL_nil'] at h; omega, fun _ _ _ _ => rfl⟩
theorem tri_cons {c : α → α → Int} {l : α → α → List Int} (H : Tri c) (K : Tri fun x y => orL (l x y)) : Tri fun x y => orL (c x y :: l x y) := by
  refine ⟨fun x => ?_, fun x y => ?_, fun x y z h1 h2 => ?_, fun x y z h => ?_⟩
  · have h1 := H.same x
    have h2 := K.same x
    rw [orL_cons', h1, h2]; rfl
  · have h1 := H.anti x y
    have h2 := K.anti x y
    simp only [orL_cons']
    rw [h1, h2]
    split <;> split <;> omega
  · simp only [orL_cons'] at *
    by_cases e1 : c x y = 0
    · rw [if_neg (fun h => h e1)] at h1
      rw [← H.cong x y z e1]
      by_cases e2 : c y z = 0
      · rw [if_neg (fun h => h e2)] at *
        exact K.thru x y z h1 h2
      · rw [if_pos e2] at *; exact h2
    · rw [if_pos e1] at h1
      by_cases e2 : c y z = 0
      · have a1 := H.anti y z
        have a2 := H.cong z y x (by omega)
        have a3 := H.anti x y
        have a4 := H.anti z x
        have a5 : c x z = c x y := by omega
        rw [a5, if_pos e1]; exact h1
      · rw [if_pos e2] at h2
        have a1 := H.thru x y z h1 h2
        rw [if_pos (by omega)]; exact a1
  · simp only [orL_cons'] at *
    by_cases e1 : c x y = 0
    · rw [if_neg (fun h => h e1)] at h
      have a2 := K.cong x y z h
      rw [H.cong x y z e1, a2]
    · rw [if_pos e1] at h; exact absurd h e1
theorem tri_by {c : β → β → Int} (f : α → β) (H : Tri c) : Tri fun x y => c (f x) (f y) :=
  ⟨fun _ => H.same _, fun _ _ => H.anti _ _, fun _ _ _ => H.thru _ _ _, fun _ _ _ => H.cong _ _ _⟩
theorem tri_B : Tri cmpB :=
  ⟨fun _ => cmpB_eq.2 rfl, cmpB_anti, fun _ _ _ h1 h2 => cmpB_lt.2 (strLt_trans (cmpB_lt.1 h1) (cmpB_lt.1 h2)), fun _ _ _ h => by rw [cmpB_eq.1 h]⟩
theorem tri_N : Tri cmpN := by
  refine ⟨fun x => ?_, fun x y => ?_, fun x y z h1 h2 => ?_, fun x y z h => ?_⟩ <;> unfold cmpN at *
  · split <;> (try split) <;> omega
  · (repeat' split) <;> omega
  · revert h1 h2; (repeat' split) <;> omega
  · revert h; (repeat' split) <;> omega
theorem tri_R : Tri cmpR := tri_cons (tri_by Rl.owner tri_B) (tri_cons (tri_by Rl.name tri_B) tri_nil)
theorem tri_S : Tri cmpS :=
  tri_cons (tri_by St.head tri_R) (tri_cons (tri_by St.kind tri_N) (tri_cons (tri_by St.who tri_B) (tri_cons (tri_by St.a tri_R) (tri_cons (tri_by St.b tri_R) (tri_cons (tri_by St.via tri_B) tri_nil)))))
theorem swo_of {c : α → α → Int} (H : Tri c) : SWO (ltOf c) := by
  refine ⟨fun x => ?_, fun x y z h1 h2 => ?_, fun x y z h1 h2 => ?_⟩
  · exact decide_eq_false (by rw [H.same]; omega)
  · exact decide_eq_true (H.thru x y z (of_decide_eq_true h1) (of_decide_eq_true h2))
  · have h1 := of_decide_eq_false h1
    have h2 := of_decide_eq_false h2
    refine decide_eq_false fun h => ?_
    have a1 := H.anti x y
    have a2 := H.anti y z
    have a3 := H.anti x z
    by_cases e1 : c x y = 0
    · have := H.cong x y z e1; omega
    · by_cases e2 : c y z = 0
      · have := H.cong z y x (by omega); omega
      · have := H.thru z y x (by omega) (by omega); omega
theorem swo_S : SWO (ltOf cmpS) := swo_of tri_S
/-- What stands strictly in order. -/
def Strict (c : α → α → Int) (l : List α) : Prop := l.Pairwise fun x y => c x y < 0
/-- Two that stand strictly in order and have the same members are one. -/
theorem strict_one {c : α → α → Int} (H : Tri c) : ∀ {l l' : List α}, Strict c l → Strict c l' → (∀ x, x ∈ l ↔ x ∈ l') → l = l'
  | [], [], _, _, _ => rfl
  | [], y :: _, _, _, h => absurd ((h y).2 List.mem_cons_self) List.not_mem_nil
  | x :: _, [], _, _, h => absurd ((h x).1 List.mem_cons_self) List.not_mem_nil
  | x :: t, y :: t', h1, h2, h => by
    obtain ⟨a1, b1⟩ := List.pairwise_cons.1 h1
    obtain ⟨a2, b2⟩ := List.pairwise_cons.1 h2
    have irr : ∀ z, ¬ c z z < 0 := fun z => by rw [H.same]; omega
    have e : x = y := by
      rcases List.mem_cons.1 ((h x).1 List.mem_cons_self) with e | e
      · exact e
      · rcases List.mem_cons.1 ((h y).2 List.mem_cons_self) with e' | e'
        · exact e'.symm
        · exact absurd (H.thru _ _ _ (a2 x e) (a1 y e')) (irr y)
    subst e
    have e : t = t' := strict_one H b1 b2 fun z => by
      constructor
      · intro hz
        rcases List.mem_cons.1 ((h z).1 (List.mem_cons_of_mem _ hz)) with e | e
        · subst e; exact absurd (a1 _ hz) (irr _)
        · exact e
      · intro hz
        rcases List.mem_cons.1 ((h z).2 (List.mem_cons_of_mem _ hz)) with e | e
        · subst e; exact absurd (a2 _ hz) (irr _)
        · exact e
    rw [e]
/-- The first of each run of equals. -/
def compL (c : α → α → Int) : List α → List α
  | [] => []
  | [x] => [x]
  | x :: y :: t => if c x y = 0 then compL c (y :: t) else x :: compL c (y :: t)
theorem compL_mem {c : α → α → Int} (E : ∀ x y, c x y = 0 → x = y) : ∀ (l : List α) (z : α), z ∈ compL c l ↔ z ∈ l
  | [], _ => Iff.rfl
  | [_], _ => Iff.rfl
  | x :: y :: t, z => by
    unfold compL
    have K := compL_mem E (y :: t) z
    split
    · rename_i h
      rw [K, E x y h]; simp
    · rw [List.mem_cons, K, List.mem_cons (a := z) (b := x)]
theorem compL_strict {c : α → α → Int} (H : Tri c) (E : ∀ x y, c x y = 0 → x = y) : ∀ (l : List α), (l.Pairwise fun x y => ¬ c y x < 0) → Strict c (compL c l)
  | [], _ => List.Pairwise.nil
  | [_], _ => List.pairwise_singleton _ _
  | x :: y :: t, h => by
    obtain ⟨a1, b1⟩ := List.pairwise_cons.1 h
    have K := compL_strict H E (y :: t) b1
    unfold compL
    split
    · exact K
    · rename_i hn
      refine List.pairwise_cons.2 ⟨fun z hz => ?_, K⟩
      have hz := (compL_mem E _ _).1 hz
      have q1 : c x y < 0 := by have := a1 y List.mem_cons_self; have := H.anti x y; omega
      rcases List.mem_cons.1 hz with e | e
      · rw [e]; exact q1
      · obtain ⟨a2, _⟩ := List.pairwise_cons.1 b1
        have q2 := a2 z e
        have q3 := H.anti y z
        by_cases e0 : c y z = 0
        · rw [← E y z e0]; exact q1
        · exact H.thru x y z q1 (by omega)
/-- One put in its place. -/
def insL (c : α → α → Int) (s : α) : List α → List α
  | [] => [s]
  | x :: t => if c x s < 0 then x :: insL c s t else s :: x :: t
theorem insL_mem {c : α → α → Int} (s : α) : ∀ (l : List α) (z : α), z ∈ insL c s l ↔ z = s ∨ z ∈ l
  | [], z => by simp [insL]
  | x :: t, z => by
    unfold insL
    split
    · rw [List.mem_cons, insL_mem s t z, List.mem_cons]
      constructor
      · rintro (h | h | h)
        · exact .inr (.inl h)
        · exact .inl h
        · exact .inr (.inr h)
      · rintro (h | h | h)
        · exact .inr (.inl h)
        · exact .inl h
        · exact .inr (.inr h)
    · rw [List.mem_cons]
theorem insL_strict {c : α → α → Int} (H : Tri c) (E : ∀ x y, c x y = 0 → x = y) (s : α) : ∀ (l : List α), s ∉ l → Strict c l → Strict c (insL c s l)
  | [], _, _ => List.pairwise_singleton _ _
  | x :: t, hs, h => by
    obtain ⟨a1, b1⟩ := List.pairwise_cons.1 h
    unfold insL
    split
    · rename_i hx
      refine List.pairwise_cons.2 ⟨fun z hz => ?_, insL_strict H E s t (fun e => hs (List.mem_cons_of_mem _ e)) b1⟩
      rcases (insL_mem s t z).1 hz with e | e
      · rw [e]; exact hx
      · exact a1 z e
    · rename_i hx
      have q := H.anti x s
      have q1 : c s x < 0 := by
        by_cases e0 : c x s = 0
        · exact absurd (by rw [E x s e0]; exact List.mem_cons_self) hs
        · omega
      refine List.pairwise_cons.2 ⟨fun z hz => ?_, h⟩
      rcases List.mem_cons.1 hz with e | e
      · rw [e]; exact q1
      · exact H.thru _ _ _ q1 (a1 z e)
/-- The document's way: each that isn't there yet is put in its place. -/
def sortL (c : α → α → Int) [DecidableEq α] : List α → List α → List α
  | acc, [] => acc
  | acc, s :: t => sortL c (if s ∈ acc then acc else insL c s acc) t
theorem sortL_mem {c : α → α → Int} [DecidableEq α] : ∀ (l acc : List α) (z : α), z ∈ sortL c acc l ↔ z ∈ acc ∨ z ∈ l
  | [], acc, z => by simp [sortL]
  | s :: t, acc, z => by
    unfold sortL
    rw [sortL_mem t]
    split
    · rename_i h
      rw [List.mem_cons]
      constructor
      · rintro (h' | h')
        · exact .inl h'
        · exact .inr (.inr h')
      · rintro (h' | h' | h')
        · exact .inl h'
        · rw [h']; exact .inl h
        · exact .inr h'
    · rw [insL_mem, List.mem_cons, or_comm (a := z = s), or_assoc]
theorem sortL_strict {c : α → α → Int} [DecidableEq α] (H : Tri c) (E : ∀ x y, c x y = 0 → x = y) : ∀ (l acc : List α), Strict c acc → Strict c (sortL c acc l)
  | [], _, h => h
  | s :: t, acc, h => by
    unfold sortL
    refine sortL_strict H E t _ ?_
    split
    · exact h
    · rename_i hs
      exact insL_strict H E s acc hs h
/-- Both ways come out the same: d is the row permuted and sorted. -/
theorem sorts_one {c : α → α → Int} [DecidableEq α] (H : Tri c) (E : ∀ x y, c x y = 0 → x = y) {l d : List α} (hp : d.Perm l) (hs : d.Pairwise fun x y => ¬ c y x < 0) : compL c d = sortL c [] l :=
  strict_one H (compL_strict H E d hs) (sortL_strict H E l [] List.Pairwise.nil) fun x => by
    rw [compL_mem E, sortL_mem, hp.mem_iff]; simp
theorem orL_zero : ∀ {l : List Int}, orL l = 0 → ∀ x ∈ l, x = 0
  | [], _, _, h => absurd h List.not_mem_nil
  | a :: l, h, x, hx => by
    rw [orL_cons'] at h
    by_cases e : a = 0
    · rw [if_neg (fun h => h e)] at h
      rcases List.mem_cons.1 hx with e' | e'
      · rw [e', e]
      · exact orL_zero h x e'
    · rw [if_pos e] at h; exact absurd h e
theorem eqR {r s : Rl} (h : cmpR r s = 0) : r = s := by
  obtain ⟨o1, n1⟩ := r
  obtain ⟨o2, n2⟩ := s
  have q := orL_zero (l := [cmpB o1 o2, cmpB n1 n2]) h
  rw [cmpB_eq.1 (q (cmpB o1 o2) (by simp)), cmpB_eq.1 (q (cmpB n1 n2) (by simp))]
theorem eqN {a b : Int} (h : cmpN a b = 0) : a = b := by
  revert h; unfold cmpN; (repeat' split) <;> omega
theorem eqSt (s t : St) (h : cmpS s t = 0) : s = t := by
  obtain ⟨k1, h1, w1, a1, b1, v1⟩ := s
  obtain ⟨k2, h2, w2, a2, b2, v2⟩ := t
  have q := orL_zero (l := [cmpR h1 h2, cmpN k1 k2, cmpB w1 w2, cmpR a1 a2, cmpR b1 b2, cmpB v1 v2]) h
  rw [eqR (q (cmpR h1 h2) (by simp)), eqN (q (cmpN k1 k2) (by simp)), cmpB_eq.1 (q (cmpB w1 w2) (by simp)), eqR (q (cmpR a1 a2) (by simp)), eqR (q (cmpR b1 b2) (by simp)), cmpB_eq.1 (q (cmpB v1 v2) (by simp))]
instance : Inhabited St := ⟨zeroS⟩
/-- What the library's sort leaves, its equals dropped, is what the document's way makes. -/
theorem sorted_one {d d' : Array St} (hp : PermIn 0 d.size d d') (hs : SortedIn (ltOf cmpS) 0 d.size d') : compL cmpS d'.toList = sortL cmpS [] d.toList := by
  obtain ⟨hz, _, hp⟩ := hp
  refine sorts_one tri_S eqSt ?_ ?_
  · rwa [show d'.extract 0 d.size = d' by rw [← hz]; simp, show d.extract 0 d.size = d by simp] at hp
  · rw [List.pairwise_iff_getElem]
    intro i j hi hj hij
    rw [Array.length_toList] at hi hj
    have q := of_decide_eq_false (hs i j (Nat.zero_le _) hij (by omega))
    rwa [getElem!_pos d' i hi, getElem!_pos d' j hj] at q
end Go.Proofs.Ytofhiolmaojihaa.SynD
