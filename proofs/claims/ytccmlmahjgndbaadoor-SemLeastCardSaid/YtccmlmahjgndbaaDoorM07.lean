/- Roles: which are right, their texts, how two stand. -/
import Derived.Test.YtccmlmahjgndbaaDoorM05
import Derived.Test.YtccmlmahjgndbaaDoorM06
import Derived.Test.YtccmlmahjgndbaaDoorShelf
import Derived.Outline
import Derived.WalkLawsBesides
import Derived.WalkSpells
import Derived.Deep.QuietTactic
import Derived.BigQuiet
import Derived.Sort.Walk0
import Derived.Deep.RegionHeld3
import Derived.Sort.Statements
import Derived.Shelf.SlSortCmp.Insertion
import Derived.Test.YtccmlmahjgndbaaDoorM01
import Derived.Shelf.SlSortCmp.WholeK
namespace Go.Proofs.YtccmlmahjgndbaaDoor.Syn1
set_option linter.unusedVariables false
set_option linter.unusedSimpArgs false
open Go.RowKit Go.Sort Go.Proofs Go.Proofs.YtccmlmahjgndbaaDoor.Plain Go.Proofs.YtccmlmahjgndbaaDoor.SynP Go.Proofs.YtccmlmahjgndbaaDoor.Named Go.Proofs.YtccmlmahjgndbaaDoor.RefN Go.Proofs.YtccmlmahjgndbaaDoor.Grown
theorem less_eq (a b : ByteArray) : Op.bytesLess a.toList b.toList = strLt a b := by
  rw [bytesLess_eq, Go.ByteArray.toList_eq, Go.ByteArray.toList_eq]; rfl
theorem same_eq (a b : ByteArray) : (a.toList == b.toList) = decide (a = b) := by
  rw [Bool.eq_iff_iff, decide_eq_true_iff, beq_iff_eq, Go.ByteArray.toList_eq, Go.ByteArray.toList_eq]
  exact ⟨ba_ext, fun h => by rw [h]⟩
theorem compareN (a b : Int) (w : World) : Calls Tryd.prog 58 #[.int .i64 a, .int .i64 b] w fun e w' => e = .returned (.int .i64 (cmpN a b)) ∧ w = w' :=
  (Tryd.cmp_Compare_int a b w).mono fun _ _ ⟨he, hw⟩ => ⟨he, hw.symm⟩
/-- The first that isn't 0, of a row of numbers. -/
def IRow (w : World) (g : Nat) (l : List Int) : Prop := g < w.heap.size ∧ ∀ k, (h : k < l.length) → w.cell? ⟨g, k, none⟩ = some (.int .i64 l[k])
theorem orL_skip {l : List Int} {k : Nat} (h : k < l.length) (h0 : l[k] = 0) : orL (l.drop k) = orL (l.drop (k + 1)) := by
  rw [List.drop_eq_getElem_cons h]; simp [orL, h0]
theorem orL_stop {l : List Int} {k : Nat} (h : k < l.length) (h0 : l[k] ≠ 0) : orL (l.drop k) = l[k] := by
  rw [List.drop_eq_getElem_cons h]; simp [orL, h0]
theorem or_ (g cap : Nat) (l : List Int) (w : World) (hl : l.length ≤ 1000) (hr : IRow w g l) : Calls Tryd.prog 57 #[.slice (some ⟨g, 0, none⟩) l.length cap] w fun e w' => e = .returned (.int .i64 (orL l)) ∧ w = w' := by
  go_enter Tryd.func57, Tryd.ntmps57
  go_wp2
  go_loop [8] (fun i => ∃ k : Nat, k ≤ l.length ∧ i = .int .i64 k ∧ Hid (orL l = orL (l.drop k))) (fun i => l.length - (intOf i).toNat)
  case atStart => exact ⟨0, by omega, rfl, Lib.hid (by simp)⟩
  case round =>
    obtain ⟨k, hk, rfl, hrun⟩ := hrel
    by_cases hlt : k < l.length
    · have hc := hr.2 k hlt
      by_cases h0 : l[k] = 0
      · have hnext : Hid (orL l = orL (l.drop (k + 1))) := Lib.hid (by rw [hrun.out, orL_skip hlt h0])
        rw [h0] at hc
        clear hrun h0
        go_wp2_with fail
        go_round
        case rel => exact ⟨k + 1, by omega, by go_num, hnext⟩
        case measure => simp [intOf]; omega
      · have hfin : Hid (orL l = l[k]) := Lib.hid (by rw [hrun.out, orL_stop hlt h0])
        have h1 : (l[k] != 0) = true := by simpa using h0
        clear hrun h0
        go_wp2_with fail
        go_ret
        exact ⟨ret_int hfin.out.symm, rfl⟩
    · have hfin : Hid (orL l = 0) := Lib.hid (by rw [hrun.out, List.drop_of_length_le (by omega)]; rfl)
      clear hrun
      go_wp2_with fail
      go_ret
      exact ⟨ret_int hfin.out.symm, rfl⟩
end Go.Proofs.YtccmlmahjgndbaaDoor.Syn1
/- How two roles, and two statements, stand: orderRoles, Less, Order. -/
namespace Go.Proofs.YtccmlmahjgndbaaDoor.Syn2
set_option linter.unusedVariables false
set_option linter.unusedSimpArgs false
open Go.RowKit Go.Sort Go.Proofs Go.Proofs.YtccmlmahjgndbaaDoor.Plain Go.Proofs.YtccmlmahjgndbaaDoor.SynP Go.Proofs.YtccmlmahjgndbaaDoor.Named Go.Proofs.YtccmlmahjgndbaaDoor.RefN Go.Proofs.YtccmlmahjgndbaaDoor.Grown Go.Proofs.YtccmlmahjgndbaaDoor.Syn1
theorem keep2 {W w1 w2 : World} {n : Nat} {f g : Nat → Option Value} (h : Grew W w1 ∧ (∀ o, w1.cell? ⟨n, o, none⟩ = f o) ∧ (∀ o, w1.cell? ⟨n + 1, o, none⟩ = g o)) (hn : n + 1 < W.heap.size) (hg : Grew w1 w2) :
    Grew W w2 ∧ (∀ o, w2.cell? ⟨n, o, none⟩ = f o) ∧ (∀ o, w2.cell? ⟨n + 1, o, none⟩ = g o) := by
  have hs := h.1.size
  exact ⟨h.1.trans hg, fun o => (hg.cell (a := ⟨n, o, none⟩) (by show n < _; omega)).trans (h.2.1 o), fun o => (hg.cell (a := ⟨n + 1, o, none⟩) (by show n + 1 < _; omega)).trans (h.2.2 o)⟩
theorem start2 (w : World) (A B : Array Value) (t : TypeId) : Grew ((w.alloc (.cells A t)).alloc (.cells B t)) ((w.alloc (.cells A t)).alloc (.cells B t)).drew ∧ (∀ o, ((w.alloc (.cells A t)).alloc (.cells B t)).drew.cell? ⟨w.heap.size, o, none⟩ = A[o]?) ∧ (∀ o, ((w.alloc (.cells A t)).alloc (.cells B t)).drew.cell? ⟨w.heap.size + 1, o, none⟩ = B[o]?) := by
  refine ⟨(Grew.refl _).drew, fun o => ?_, fun o => ?_⟩
  · exact (((Grew.refl (w.alloc (.cells A t))).alloc (.cells B t)).drew.cell (a := ⟨w.heap.size, o, none⟩) (by simp)).trans (Lib.cell_of_heap (heap_alloc_new w _) o)
  · have := Lib.cell_of_heap (heap_alloc_new (w.alloc (.cells A t)) (.cells B t)) o
    rw [← this]; simp
theorem irow_new (w : World) (l : List Int) (t : TypeId) {n : Nat} (hn : n = w.heap.size) : IRow (w.alloc (.cells (l.map (Value.int .i64)).toArray t)).drew n l := by
  subst hn
  exact ⟨by simp, fun k hk => by
    have := Lib.cell_of_heap (heap_alloc_new w (.cells (l.map (Value.int .i64)).toArray t)) k
    show (w.alloc _).cell? _ = _
    rw [this]; simp [hk]⟩
theorem irow_new0 (w : World) (l : List Int) (t : TypeId) {n : Nat} (hn : n = w.heap.size) : IRow (w.alloc (.cells (l.map (Value.int .i64)).toArray t)) n l := by
  subst hn
  exact ⟨by simp, fun k hk => by
    rw [Lib.cell_of_heap (heap_alloc_new w (.cells (l.map (Value.int .i64)).toArray t)) k]; simp [hk]⟩
theorem rl_eq {r s : Rl} (h : r.owner = s.owner) (h2 : r.name = s.name) : r = s := by cases r; cases s; simp_all
theorem orL_cons0 (l : List Int) : orL (0 :: l) = orL l := by simp [orL]
theorem orL_cons1 {x : Int} (l : List Int) (h : x ≠ 0) : orL (x :: l) = x := by simp [orL, h]
theorem orL_one (x : Int) : orL [x] = x := by
  by_cases h : x = 0
  · subst h; rfl
  · exact orL_cons1 [] h
theorem cmpR_lt {r s : Rl} : (decide (cmpR r s < 0) : Bool) = if r.owner ≠ s.owner then strLt r.owner s.owner else strLt r.name s.name := by
  unfold cmpR
  by_cases h : r.owner = s.owner
  · rw [if_neg (fun e => e h), h, cmpB_eq.2 rfl, orL_cons0, orL_one, Bool.eq_iff_iff, decide_eq_true_iff, cmpB_lt]
  · rw [orL_cons1 _ (fun e => h (cmpB_eq.1 e)), if_pos h, Bool.eq_iff_iff, decide_eq_true_iff, cmpB_lt]
end Go.Proofs.YtccmlmahjgndbaaDoor.Syn2
/- How statements stand: a strict weak order, as the library's sort asks it. -/
namespace Go.Proofs.YtccmlmahjgndbaaDoor.SynD
set_option linter.unusedVariables false
set_option linter.unusedSimpArgs false
open Go.Sort Go.Proofs Go.Proofs.YtccmlmahjgndbaaDoor.SynP
variable {α β : Type}
/-- A three-way comparison: it turns its sign with its arguments, goes through, and 0 is a congruence. -/
structure Tri (c : α → α → Int) : Prop where
  same : ∀ x, c x x = 0
  anti : ∀ x y, c y x = - c x y
  thru : ∀ x y z, c x y < 0 → c y z < 0 → c x z < 0
  cong : ∀ x y z, c x y = 0 → c y z = c x z
theorem orL_nil' : orL [] = 0 := rfl
theorem orL_cons' (x : Int) (l : List Int) : orL (x :: l) = if x ≠ 0 then x else orL l := rfl
theorem tri_nil : Tri (fun (_ _ : α) => orL []) :=
  ⟨fun _ => rfl, fun _ _ => rfl, fun _ _ _ h => by rw [orL_nil'] at h; omega, fun _ _ _ _ => rfl⟩
theorem tri_cons {c : α → α → Int} {l : α → α → List Int} (H : Tri c) (K : Tri fun x y => orL (l x y)) : Tri fun x y => orL (c x y :: l x y) := by
  refine ⟨fun x => ?_, fun x y => ?_, fun x y z h1 h2 => ?_, fun x y z h => ?_⟩
  · have h1 := H.same x
    have h2 := K.same x
    rw [orL_cons', h1, h2]; rfl
  · have h1 := H.anti x y
    have h2 := K.anti x y
    simp only [orL_cons']
    rw [h1, h2]
    split <;> split <;> omega
  · simp only [orL_cons'] at *
    by_cases e1 : c x y = 0
    · rw [if_neg (fun h => h e1)] at h1
      rw [← H.cong x y z e1]
      by_cases e2 : c y z = 0
      · rw [if_neg (fun h => h e2)] at *
        exact K.thru x y z h1 h2
      · rw [if_pos e2] at *; exact h2
    · rw [if_pos e1] at h1
      by_cases e2 : c y z = 0
      · have a1 := H.anti y z
        have a2 := H.cong z y x (by omega)
        have a3 := H.anti x y
        have a4 := H.anti z x
        have a5 : c x z = c x y := by omega
        rw [a5, if_pos e1]; exact h1
      · rw [if_pos e2] at h2
        have a1 := H.thru x y z h1 h2
        rw [if_pos (by omega)]; exact a1
  · simp only [orL_cons'] at *
    by_cases e1 : c x y = 0
    · rw [if_neg (fun h => h e1)] at h
      have a2 := K.cong x y z h
      rw [H.cong x y z e1, a2]
    · rw [if_pos e1] at h; exact absurd h e1
theorem tri_by {c : β → β → Int} (f : α → β) (H : Tri c) : Tri fun x y => c (f x) (f y) :=
  ⟨fun _ => H.same _, fun _ _ => H.anti _ _, fun _ _ _ => H.thru _ _ _, fun _ _ _ => H.cong _ _ _⟩
theorem tri_B : Tri cmpB :=
  ⟨fun _ => cmpB_eq.2 rfl, cmpB_anti, fun _ _ _ h1 h2 => cmpB_lt.2 (strLt_trans (cmpB_lt.1 h1) (cmpB_lt.1 h2)), fun _ _ _ h => by rw [cmpB_eq.1 h]⟩
theorem tri_N : Tri cmpN := by
  refine ⟨fun x => ?_, fun x y => ?_, fun x y z h1 h2 => ?_, fun x y z h => ?_⟩ <;> unfold cmpN at *
  · split <;> (try split) <;> omega
  · (repeat' split) <;> omega
  · revert h1 h2; (repeat' split) <;> omega
  · revert h; (repeat' split) <;> omega
theorem tri_R : Tri cmpR := tri_cons (tri_by Rl.owner tri_B) (tri_cons (tri_by Rl.name tri_B) tri_nil)
theorem tri_S : Tri cmpS :=
  tri_cons (tri_by St.head tri_R) (tri_cons (tri_by St.kind tri_N) (tri_cons (tri_by St.who tri_B) (tri_cons (tri_by St.a tri_R) (tri_cons (tri_by St.b tri_R) (tri_cons (tri_by St.via tri_B) tri_nil)))))
theorem swo_of {c : α → α → Int} (H : Tri c) : SWO (ltOf c) := by
  refine ⟨fun x => ?_, fun x y z h1 h2 => ?_, fun x y z h1 h2 => ?_⟩
  · exact decide_eq_false (by rw [H.same]; omega)
  · exact decide_eq_true (H.thru x y z (of_decide_eq_true h1) (of_decide_eq_true h2))
  · have h1 := of_decide_eq_false h1
    have h2 := of_decide_eq_false h2
    refine decide_eq_false fun h => ?_
    have a1 := H.anti x y
    have a2 := H.anti y z
    have a3 := H.anti x z
    by_cases e1 : c x y = 0
    · have := H.cong x y z e1; omega
    · by_cases e2 : c y z = 0
      · have := H.cong z y x (by omega); omega
      · have := H.thru z y x (by omega) (by omega); omega
theorem swo_S : SWO (ltOf cmpS) := swo_of tri_S
/-- What stands strictly in order. -/
def Strict (c : α → α → Int) (l : List α) : Prop := l.Pairwise fun x y => c x y < 0
/-- Two that stand strictly in order and have the same members are one. -/
theorem strict_one {c : α → α → Int} (H : Tri c) : ∀ {l l' : List α}, Strict c l → Strict c l' → (∀ x, x ∈ l ↔ x ∈ l') → l = l'
  | [], [], _, _, _ => rfl
  | [], y :: _, _, _, h => absurd ((h y).2 List.mem_cons_self) List.not_mem_nil
  | x :: _, [], _, _, h => absurd ((h x).1 List.mem_cons_self) List.not_mem_nil
  | x :: t, y :: t', h1, h2, h => by
    obtain ⟨a1, b1⟩ := List.pairwise_cons.1 h1
    obtain ⟨a2, b2⟩ := List.pairwise_cons.1 h2
    have irr : ∀ z, ¬ c z z < 0 := fun z => by rw [H.same]; omega
    have e : x = y := by
      rcases List.mem_cons.1 ((h x).1 List.mem_cons_self) with e | e
      · exact e
      · rcases List.mem_cons.1 ((h y).2 List.mem_cons_self) with e' | e'
        · exact e'.symm
        · exact absurd (H.thru _ _ _ (a2 x e) (a1 y e')) (irr y)
    subst e
    have e : t = t' := strict_one H b1 b2 fun z => by
      constructor
      · intro hz
        rcases List.mem_cons.1 ((h z).1 (List.mem_cons_of_mem _ hz)) with e | e
        · subst e; exact absurd (a1 _ hz) (irr _)
        · exact e
      · intro hz
        rcases List.mem_cons.1 ((h z).2 (List.mem_cons_of_mem _ hz)) with e | e
        · subst e; exact absurd (a2 _ hz) (irr _)
        · exact e
    rw [e]
/-- The first of each run of equals. -/
def compL (c : α → α → Int) : List α → List α
  | [] => []
  | [x] => [x]
  | x :: y :: t => if c x y = 0 then compL c (y :: t) else x :: compL c (y :: t)
theorem compL_mem {c : α → α → Int} (E : ∀ x y, c x y = 0 → x = y) : ∀ (l : List α) (z : α), z ∈ compL c l ↔ z ∈ l
  | [], _ => Iff.rfl
  | [_], _ => Iff.rfl
  | x :: y :: t, z => by
    unfold compL
    have K := compL_mem E (y :: t) z
    split
    · rename_i h
      rw [K, E x y h]; simp
    · rw [List.mem_cons, K, List.mem_cons (a := z) (b := x)]
theorem compL_strict {c : α → α → Int} (H : Tri c) (E : ∀ x y, c x y = 0 → x = y) : ∀ (l : List α), (l.Pairwise fun x y => ¬ c y x < 0) → Strict c (compL c l)
  | [], _ => List.Pairwise.nil
  | [_], _ => List.pairwise_singleton _ _
  | x :: y :: t, h => by
    obtain ⟨a1, b1⟩ := List.pairwise_cons.1 h
    have K := compL_strict H E (y :: t) b1
    unfold compL
    split
    · exact K
    · rename_i hn
      refine List.pairwise_cons.2 ⟨fun z hz => ?_, K⟩
      have hz := (compL_mem E _ _).1 hz
      have q1 : c x y < 0 := by have := a1 y List.mem_cons_self; have := H.anti x y; omega
      rcases List.mem_cons.1 hz with e | e
      · rw [e]; exact q1
      · obtain ⟨a2, _⟩ := List.pairwise_cons.1 b1
        have q2 := a2 z e
        have q3 := H.anti y z
        by_cases e0 : c y z = 0
        · rw [← E y z e0]; exact q1
        · exact H.thru x y z q1 (by omega)
/-- One put in its place. -/
def insL (c : α → α → Int) (s : α) : List α → List α
  | [] => [s]
  | x :: t => if c x s < 0 then x :: insL c s t else s :: x :: t
theorem insL_mem {c : α → α → Int} (s : α) : ∀ (l : List α) (z : α), z ∈ insL c s l ↔ z = s ∨ z ∈ l
  | [], z => by simp [insL]
  | x :: t, z => by
    unfold insL
    split
    · rw [List.mem_cons, insL_mem s t z, List.mem_cons]
      constructor
      · rintro (h | h | h)
        · exact .inr (.inl h)
        · exact .inl h
        · exact .inr (.inr h)
      · rintro (h | h | h)
        · exact .inr (.inl h)
        · exact .inl h
        · exact .inr (.inr h)
    · rw [List.mem_cons]
theorem insL_strict {c : α → α → Int} (H : Tri c) (E : ∀ x y, c x y = 0 → x = y) (s : α) : ∀ (l : List α), s ∉ l → Strict c l → Strict c (insL c s l)
  | [], _, _ => List.pairwise_singleton _ _
  | x :: t, hs, h => by
    obtain ⟨a1, b1⟩ := List.pairwise_cons.1 h
    unfold insL
    split
    · rename_i hx
      refine List.pairwise_cons.2 ⟨fun z hz => ?_, insL_strict H E s t (fun e => hs (List.mem_cons_of_mem _ e)) b1⟩
      rcases (insL_mem s t z).1 hz with e | e
      · rw [e]; exact hx
      · exact a1 z e
    · rename_i hx
      have q := H.anti x s
      have q1 : c s x < 0 := by
        by_cases e0 : c x s = 0
        · exact absurd (by rw [E x s e0]; exact List.mem_cons_self) hs
        · omega
      refine List.pairwise_cons.2 ⟨fun z hz => ?_, h⟩
      rcases List.mem_cons.1 hz with e | e
      · rw [e]; exact q1
      · exact H.thru _ _ _ q1 (a1 z e)
/-- The document's way: each that isn't there yet is put in its place. -/
def sortL (c : α → α → Int) [DecidableEq α] : List α → List α → List α
  | acc, [] => acc
  | acc, s :: t => sortL c (if s ∈ acc then acc else insL c s acc) t
theorem sortL_mem {c : α → α → Int} [DecidableEq α] : ∀ (l acc : List α) (z : α), z ∈ sortL c acc l ↔ z ∈ acc ∨ z ∈ l
  | [], acc, z => by simp [sortL]
  | s :: t, acc, z => by
    unfold sortL
    rw [sortL_mem t]
    split
    · rename_i h
      rw [List.mem_cons]
      constructor
      · rintro (h' | h')
        · exact .inl h'
        · exact .inr (.inr h')
      · rintro (h' | h' | h')
        · exact .inl h'
        · rw [h']; exact .inl h
        · exact .inr h'
    · rw [insL_mem, List.mem_cons, or_comm (a := z = s), or_assoc]
theorem sortL_strict {c : α → α → Int} [DecidableEq α] (H : Tri c) (E : ∀ x y, c x y = 0 → x = y) : ∀ (l acc : List α), Strict c acc → Strict c (sortL c acc l)
  | [], _, h => h
  | s :: t, acc, h => by
    unfold sortL
    refine sortL_strict H E t _ ?_
    split
    · exact h
    · rename_i hs
      exact insL_strict H E s acc hs h
/-- Both ways come out the same: d is the row permuted and sorted. -/
theorem sorts_one {c : α → α → Int} [DecidableEq α] (H : Tri c) (E : ∀ x y, c x y = 0 → x = y) {l d : List α} (hp : d.Perm l) (hs : d.Pairwise fun x y => ¬ c y x < 0) : compL c d = sortL c [] l :=
  strict_one H (compL_strict H E d hs) (sortL_strict H E l [] List.Pairwise.nil) fun x => by
    rw [compL_mem E, sortL_mem, hp.mem_iff]; simp
theorem orL_zero : ∀ {l : List Int}, orL l = 0 → ∀ x ∈ l, x = 0
  | [], _, _, h => absurd h List.not_mem_nil
  | a :: l, h, x, hx => by
    rw [orL_cons'] at h
    by_cases e : a = 0
    · rw [if_neg (fun h => h e)] at h
      rcases List.mem_cons.1 hx with e' | e'
      · rw [e', e]
      · exact orL_zero h x e'
    · rw [if_pos e] at h; exact absurd h e
theorem eqR {r s : Rl} (h : cmpR r s = 0) : r = s := by
  obtain ⟨o1, n1⟩ := r
  obtain ⟨o2, n2⟩ := s
  have q := orL_zero (l := [cmpB o1 o2, cmpB n1 n2]) h
  rw [cmpB_eq.1 (q (cmpB o1 o2) (by simp)), cmpB_eq.1 (q (cmpB n1 n2) (by simp))]
theorem eqN {a b : Int} (h : cmpN a b = 0) : a = b := by
  revert h; unfold cmpN; (repeat' split) <;> omega
theorem eqSt (s t : St) (h : cmpS s t = 0) : s = t := by
  obtain ⟨k1, h1, w1, a1, b1, v1⟩ := s
  obtain ⟨k2, h2, w2, a2, b2, v2⟩ := t
  have q := orL_zero (l := [cmpR h1 h2, cmpN k1 k2, cmpB w1 w2, cmpR a1 a2, cmpR b1 b2, cmpB v1 v2]) h
  rw [eqR (q (cmpR h1 h2) (by simp)), eqN (q (cmpN k1 k2) (by simp)), cmpB_eq.1 (q (cmpB w1 w2) (by simp)), eqR (q (cmpR a1 a2) (by simp)), eqR (q (cmpR b1 b2) (by simp)), cmpB_eq.1 (q (cmpB v1 v2) (by simp))]
instance : Inhabited St := ⟨zeroS⟩
/-- What the library's sort leaves, its equals dropped, is what the document's way makes. -/
theorem sorted_one {d d' : Array St} (hp : PermIn 0 d.size d d') (hs : SortedIn (ltOf cmpS) 0 d.size d') : compL cmpS d'.toList = sortL cmpS [] d.toList := by
  obtain ⟨hz, _, hp⟩ := hp
  refine sorts_one tri_S eqSt ?_ ?_
  · rwa [show d'.extract 0 d.size = d' by rw [← hz]; simp, show d.extract 0 d.size = d by simp] at hp
  · rw [List.pairwise_iff_getElem]
    intro i j hi hj hij
    rw [Array.length_toList] at hi hj
    have q := of_decide_eq_false (hs i j (Nat.zero_le _) hij (by omega))
    rwa [getElem!_pos d' i hi, getElem!_pos d' j hj] at q
end Go.Proofs.YtccmlmahjgndbaaDoor.SynD
/- How sem's order of rules stands, by contract; it fits the library's sort. -/
namespace Go.Proofs.YtccmlmahjgndbaaDoor.RuO
set_option linter.unusedVariables false
set_option linter.unusedSimpArgs false
open Go.RowKit Go.Sort Go.Proofs Go.Proofs.YtccmlmahjgndbaaDoor.Plain Go.Proofs.YtccmlmahjgndbaaDoor.SynP Go.Proofs.YtccmlmahjgndbaaDoor.Grown Go.Proofs.YtccmlmahjgndbaaDoor.SynD Go.Proofs.YtccmlmahjgndbaaDoor.Syn1 Go.Proofs.YtccmlmahjgndbaaDoor.Syn2 Go.Proofs.YtccmlmahjgndbaaDoor.TblC
set_option linter.unusedVariables false
set_option linter.unusedSimpArgs false
instance : Inhabited Ru := ⟨zeroU⟩
def cmpU (u v : Ru) : Int := orL [cmpN u.kind v.kind, cmpN u.head v.head, cmpN u.who v.who, cmpN u.a v.a, cmpN u.b v.b, cmpN u.via v.via]
theorem tri_U : Tri cmpU :=
  tri_cons (tri_by Ru.kind tri_N) (tri_cons (tri_by Ru.head tri_N) (tri_cons (tri_by Ru.who tri_N) (tri_cons (tri_by Ru.a tri_N) (tri_cons (tri_by Ru.b tri_N) (tri_cons (tri_by Ru.via tri_N) tri_nil)))))
theorem swo_U : SWO (ltOf cmpU) := swo_of tri_U
set_option maxRecDepth 100000 in
set_option maxHeartbeats 1000000 in
theorem order (s t : Ru) (w : World) : Calls Tryd.prog 40 #[s.val, t.val] w fun e w' => e = .returned (.int .i64 (cmpU s t)) ∧ Grew w w' := by
  obtain ⟨k1, h1, x1, a1, b1, v1⟩ := s
  obtain ⟨k2, h2, x2, a2, b2, v2⟩ := t
  have hor : ∀ (w' : World) (n : Nat), n = w'.heap.size → Calls Tryd.prog 57 #[.slice (some ⟨n, 0, none⟩) 6 6] (w'.alloc (.cells #[.int .i64 (cmpN k1 k2), .int .i64 (cmpN h1 h2), .int .i64 (cmpN x1 x2), .int .i64 (cmpN a1 a2), .int .i64 (cmpN b1 b2), .int .i64 (cmpN v1 v2)] 3)).drew fun e w2 => e = .returned (.int .i64 (cmpU ⟨k1, h1, x1, a1, b1, v1⟩ ⟨k2, h2, x2, a2, b2, v2⟩)) ∧ (w'.alloc (.cells #[.int .i64 (cmpN k1 k2), .int .i64 (cmpN h1 h2), .int .i64 (cmpN x1 x2), .int .i64 (cmpN a1 a2), .int .i64 (cmpN b1 b2), .int .i64 (cmpN v1 v2)] 3)).drew = w2 := fun w' n hn =>
    or_ n 6 [cmpN k1 k2, cmpN h1 h2, cmpN x1 x2, cmpN a1 a2, cmpN b1 b2, cmpN v1 v2] _ (by simp) (irow_new w' [cmpN k1 k2, cmpN h1 h2, cmpN x1 x2, cmpN a1 a2, cmpN b1 b2, cmpN v1 v2] _ hn)
  have Hor := Lib.hid hor
  clear hor
  generalize cmpU ⟨k1, h1, x1, a1, b1, v1⟩ ⟨k2, h2, x2, a2, b2, v2⟩ = res at *
  unfold Ru.val
  go_enter Tryd.func40, Tryd.ntmps40
  go_wp2
  have hst := start2 w #[.int .i64 k1, .int .i64 h1, .int .i64 x1, .int .i64 a1, .int .i64 b1, .int .i64 v1] #[.int .i64 k2, .int .i64 h2, .int .i64 x2, .int .i64 a2, .int .i64 b2, .int .i64 v2] 25
  go_region_held3 (fun w' => Grew ((w.alloc (.cells #[.int .i64 k1, .int .i64 h1, .int .i64 x1, .int .i64 a1, .int .i64 b1, .int .i64 v1] 25)).alloc (.cells #[.int .i64 k2, .int .i64 h2, .int .i64 x2, .int .i64 a2, .int .i64 b2, .int .i64 v2] 25)) w' ∧ (∀ o, w'.cell? ⟨w.heap.size, o, none⟩ = (#[.int .i64 k1, .int .i64 h1, .int .i64 x1, .int .i64 a1, .int .i64 b1, .int .i64 v1] : Array Value)[o]?) ∧ (∀ o, w'.cell? ⟨w.heap.size + 1, o, none⟩ = (#[.int .i64 k2, .int .i64 h2, .int .i64 x2, .int .i64 a2, .int .i64 b2, .int .i64 v2] : Array Value)[o]?))
    (first | exact hst | assumption | exact keep2 (by assumption) (by simp) (Grew.alloc_drew _ _))
    (first | (go_at_call 58; ((with_reducible refine (compareN _ _ _).mono ?_); rintro e w' ⟨rfl, rfl⟩)) | (go_at_call 57; refine (Hor.out _ _ (by simp)).mono ?_; rintro e w' ⟨rfl, rfl⟩))
  rename_i hHeld
  go_wp2
  go_ret
  exact ⟨rfl, (((Grew.refl _).alloc _).alloc _).trans hHeld.1⟩
def Ru.cl (u : Ru) : List Value := [.int .i64 u.kind, .int .i64 u.head, .int .i64 u.who, .int .i64 u.a, .int .i64 u.b, .int .i64 u.via]
theorem len6 (u : Ru) : (Ru.cl u).length = 6 := rfl
theorem cmpLaysU (blk off size : Nat) (w : World) : CmpLays Tryd.prog 40 #[] Ru.cl 6 cmpU blk off size w := fun m os dk _ x y =>
  (order x y (sortWorldK Ru.cl 6 w blk off m dk os)).mono fun _ _ ⟨he, hg⟩ => ⟨he, by
    obtain ⟨⟨q, os'⟩, rfl⟩ := hg
    exact ⟨q, os', rfl⟩⟩
end Go.Proofs.YtccmlmahjgndbaaDoor.RuO
/- Plain mathematics of parsing, of no program: which shape a line's tokens have, and what statement they are. -/
namespace Go.Proofs.YtccmlmahjgndbaaDoor.SynQ
set_option linter.unusedVariables false
set_option linter.unusedSimpArgs false
open Go.RowKit Go.Proofs.YtccmlmahjgndbaaDoor.Plain Go.Proofs.YtccmlmahjgndbaaDoor.SynP
/-- How many numbers two rows begin with alike. -/
def agreeN : List Int → List Int → Nat
  | a :: l, b :: s => if a = b then agreeN l s + 1 else 0
  | _, _ => 0
def kindsOf (L : List Tk) : List Int := L.map Tk.kind
theorem kinds_len (L : List Tk) : (kindsOf L).length = L.length := List.length_map ..
theorem agree_step {a b : List Int} {k : Nat} (h1 : k < a.length) (h2 : k < b.length) (h : a[k] = b[k]) : agreeN (a.drop k) (b.drop k) = agreeN (a.drop (k + 1)) (b.drop (k + 1)) + 1 := by
  rw [List.drop_eq_getElem_cons h1, List.drop_eq_getElem_cons h2]; simp [agreeN, h]
theorem agree_ne {a b : List Int} {k : Nat} (h1 : k < a.length) (h2 : k < b.length) (h : a[k] ≠ b[k]) : agreeN (a.drop k) (b.drop k) = 0 := by
  rw [List.drop_eq_getElem_cons h1, List.drop_eq_getElem_cons h2]; simp [agreeN, h]
theorem agree_end1 {a b : List Int} {k : Nat} (h : a.length ≤ k) : agreeN (a.drop k) (b.drop k) = 0 := by
  rw [List.drop_of_length_le h]; cases b.drop k <;> rfl
theorem agree_end2 {a b : List Int} {k : Nat} (h : b.length ≤ k) : agreeN (a.drop k) (b.drop k) = 0 := by
  rw [List.drop_of_length_le h]; cases a.drop k <;> rfl
theorem agree_le1 : ∀ (a b : List Int), agreeN a b ≤ a.length
  | [], _ => by simp [agreeN]
  | _ :: _, [] => by simp [agreeN]
  | a :: l, b :: s => by
    unfold agreeN
    split
    · have := agree_le1 l s; simp; omega
    · simp
theorem agree_le2 : ∀ (a b : List Int), agreeN a b ≤ b.length
  | [], _ => by simp [agreeN]
  | _ :: _, [] => by simp [agreeN]
  | a :: l, b :: s => by
    unfold agreeN
    split
    · have := agree_le2 l s; simp; omega
    · simp
theorem agree_all : ∀ (a b : List Int), agreeN a b = a.length → agreeN a b = b.length → a = b
  | [], [], _, _ => rfl
  | [], _ :: _, _, h => by simp [agreeN] at h
  | _ :: _, [], h, _ => by simp [agreeN] at h
  | a :: l, b :: s, h1, h2 => by
    unfold agreeN at h1 h2
    split at h1
    · rename_i e
      subst e
      simp at h1 h2
      rw [agree_all l s h1 h2]
    · simp at h1
theorem agree_self : ∀ a : List Int, agreeN a a = a.length
  | [] => rfl
  | a :: l => by unfold agreeN; rw [if_pos rfl, agree_self l]; rfl
/-- The kinds of the tokens of a statement's line. -/
def shapeK : Nat → List Int
  | 1 => [1, 3, 2, 4, 1]
  | 2 => [1, 3, 2, 4, 1, 3, 2]
  | 3 => [1, 3, 2, 4, 1, 3, 2, 3, 2]
  | 4 => [1, 3, 2, 4, 1, 3, 2, 5, 1, 3, 2]
  | _ => []
def textAt (L : List Tk) (k : Nat) : ByteArray := (L[k]?.map Tk.text).getD noText
/-- The statement of a kind whose line has these tokens, ahead of its normal form. -/
def stmtOf (k : Nat) (L : List Tk) : St :=
  ⟨k, ⟨textAt L 0, textAt L 2⟩, if k = 1 then textAt L 4 else noText, if k = 1 then zeroR else ⟨textAt L 4, textAt L 6⟩, if k = 4 then ⟨textAt L 8, textAt L 10⟩ else zeroR, if k = 3 then textAt L 8 else noText⟩
/-- The place behind the last token. -/
def behindOf (L : List Tk) : Nat := match L.getLast? with
  | none => 1
  | some t => t.col + t.text.size
/-- How many tokens one of the first shapes begins with like these. -/
def bestOf (L : List Tk) : Nat → Nat
  | 0 => 0
  | k + 1 => max (bestOf L k) (agreeN (kindsOf L) (shapeK (k + 1)))
def colAt (L : List Tk) (k : Nat) : Nat := (L[k]?.map Tk.col).getD 0
theorem textAt_eq {L : List Tk} {k : Nat} (h : k < L.length) : textAt L k = L[k].text := by unfold textAt; rw [List.getElem?_eq_getElem h]; rfl
theorem colAt_eq {L : List Tk} {k : Nat} (h : k < L.length) : colAt L k = L[k].col := by unfold colAt; rw [List.getElem?_eq_getElem h]; rfl
/-- Which statement tokens are; else the place, and what is wrong. -/
def parseL (L : List Tk) : St × Int × Int :=
  if kindsOf L = shapeK 1 then ((stmtOf 1 L).normal, 0, 0)
  else if kindsOf L = shapeK 2 then ((stmtOf 2 L).normal, 0, 0)
  else if kindsOf L = shapeK 3 then ((stmtOf 3 L).normal, 0, 0)
  else if kindsOf L = shapeK 4 then ((stmtOf 4 L).normal, 0, 0)
  else if bestOf L 4 < L.length then (zeroS, colAt L (bestOf L 4), 2)
  else (zeroS, behindOf L, 3)
end Go.Proofs.YtccmlmahjgndbaaDoor.SynQ
/- The words of a line: inWord, wordSize. -/
namespace Go.Proofs.YtccmlmahjgndbaaDoor.Scan1
set_option linter.unusedVariables false
set_option linter.unusedSimpArgs false
open Go.RowKit Go.Proofs.YtccmlmahjgndbaaDoor.Plain Go.Proofs.YtccmlmahjgndbaaDoor.Leaf Go.Proofs.YtccmlmahjgndbaaDoor.Named
theorem dig_eq (b : UInt8) : ((decide (48 < b.toNat) || (48 : UInt8) == b) && (decide (b.toNat < 57) || b == 57)) = digB b.toNat := by
  rw [u8_eq, u8_eq]
  unfold digB
  rw [Bool.eq_iff_iff]
  have e1 : (48 : UInt8).toNat = 48 := rfl
  have e2 : (57 : UInt8).toNat = 57 := rfl
  simp only [e1, e2, Bool.and_eq_true, Bool.or_eq_true, decide_eq_true_iff]
  omega
theorem dig_no (b : UInt8) (h : ¬ (48 < b.toNat ∨ (48 : UInt8) = b)) : digB b.toNat = false := by
  rw [← dig_eq, u8_eq]
  have e1 : (48 : UInt8).toNat = 48 := rfl
  have : ¬ (48 = b.toNat) := fun e => h (.inr (UInt8.toNat_inj.1 (by rw [e1]; exact e)))
  rw [e1, decide_eq_false this, decide_eq_false (fun e => h (.inl e))]
  rfl
theorem one_byte (s : ByteArray) (k : Nat) (h : k < s.size) : (s.extract k (k + 1)).data.toList = [s[k]] := by
  rw [ByteArray.data_extract, Array.toList_extract, List.extract_eq_take_drop]
  rw [show k + 1 - k = 1 from by omega, drop_cons h]
  rfl
end Go.Proofs.YtccmlmahjgndbaaDoor.Scan1
/- A line without its comment, in the program and in the document's answers; the first token of a line. -/
namespace Go.Proofs.YtccmlmahjgndbaaDoor.Scan2
set_option linter.unusedVariables false
set_option linter.unusedSimpArgs false
open Go.RowKit Go.Proofs.YtccmlmahjgndbaaDoor.Plain Go.Proofs.YtccmlmahjgndbaaDoor.Leaf Go.Proofs.YtccmlmahjgndbaaDoor.Named Go.Proofs.YtccmlmahjgndbaaDoor.Scan1
theorem indexByte_cases (l : List UInt8) (c : UInt8) : (Lib.indexByte l c = -1 ∧ l.takeWhile (fun x => x != c) = l) ∨ ∃ i : Nat, Lib.indexByte l c = i ∧ i < l.length ∧ l.takeWhile (fun x => x != c) = l.take i := by
  induction l with
  | nil => exact .inl ⟨rfl, rfl⟩
  | cons b l ih =>
    unfold Lib.indexByte
    rw [List.takeWhile_cons]
    by_cases h : b = c
    · subst h
      exact .inr ⟨0, by rw [if_pos (by simp)]; rfl, by simp, by simp⟩
    · have hb : (b == c) = false := by simpa using h
      have hn : (b != c) = true := by simpa using h
      rw [if_pos hn]
      simp only [hb, Bool.false_eq_true, if_false]
      rcases ih with ⟨h1, h2⟩ | ⟨i, h1, h2, h3⟩
      · left
        rw [h1, h2]
        simp
      · right
        refine ⟨i + 1, ?_, ?_, ?_⟩
        · rw [h1, if_neg (by simp)]; omega
        · simp; omega
        · rw [h3, List.take_succ_cons]
def CutPost (s : ByteArray) (w : World) (e : Ending) (w' : World) : Prop := (∃ x b, e = .returned (.tuple #[.string (bare s), .string x, .bool b])) ∧ ∃ n, w' = w.drewN n
theorem bare_all {s : ByteArray} (h : s.data.toList.takeWhile (fun x => x != 35) = s.data.toList) : bare s = s := by
  unfold bare
  rw [h]
theorem bare_take {s : ByteArray} {i : Nat} (h : s.data.toList.takeWhile (fun x => x != 35) = s.data.toList.take i) : bare s = s.extract 0 i := by
  unfold bare
  rw [h]
  apply ByteArray.ext
  rw [ByteArray.data_extract]
  apply Array.ext'
  simp
theorem takeWhile_stop {l : List UInt8} {k : Nat} (hk : k < l.length) (hall : ∀ j, (h : j < k) → l[j]'(by omega) ≠ 35) (hc : l[k] = 35) : l.takeWhile (fun x => x != 35) = l.take k := by
  induction k generalizing l with
  | zero =>
    cases l with
    | nil => rfl
    | cons a l =>
      have : a = 35 := hc
      subst this
      rfl
  | succ k ih =>
    cases l with
    | nil => simp at hk
    | cons a l =>
      have ha : a ≠ 35 := hall 0 (by omega)
      rw [List.takeWhile_cons, if_pos (by simpa using ha), List.take_succ_cons, ih (by simpa using hk) (fun j hj => hall (j + 1) (by omega)) hc]
theorem takeWhile_all {l : List UInt8} (hall : ∀ x ∈ l, x ≠ 35) : l.takeWhile (fun x => x != 35) = l := by
  induction l with
  | nil => rfl
  | cons a l ih =>
    rw [List.takeWhile_cons, if_pos (by simpa using hall a (by simp)), ih fun x hx => hall x (by simp [hx])]
theorem bare_stop {s : ByteArray} {k : Nat} (hk : k < s.size) (hall : ∀ j, (h : j < s.size) → j < k → (s[j].toNat : Int) ≠ 35) (hc : (s[k].toNat : Int) = 35) : bare s = s.extract 0 k := by
  apply bare_take
  exact takeWhile_stop (by rw [toList_len]; exact hk) (fun j hj => fun e => hall j (by omega) hj (by have h : s[j] = 35 := e; rw [h]; rfl)) (UInt8.toNat_inj.1 (by have : s[k] = s.data.toList[k] := rfl; rw [← this]; show s[k].toNat = 35; omega))
theorem bare_none {s : ByteArray} (hall : ∀ j, (h : j < s.size) → (s[j].toNat : Int) ≠ 35) : bare s = s := by
  apply bare_all
  refine takeWhile_all fun x hx => ?_
  obtain ⟨j, hj, rfl⟩ := List.getElem_of_mem hx
  rw [toList_len] at hj
  intro e
  exact hall j hj (by have h : s[j] = 35 := e; rw [h]; rfl)
def firstA (s : ByteArray) (h : 0 < s.size) : Int × Int :=
  if capB s[0].toNat then (1, wlen s 0)
  else if smallB s[0].toNat then (2, wlen s 0)
  else if s[0] = 46 then (3, 1)
  else if s[0] = 38 then (5, 1)
  else if Lib.hasPrefix s.data.toList [60, 45] then (4, 2)
  else (0, 0)
end Go.Proofs.YtccmlmahjgndbaaDoor.Scan2
