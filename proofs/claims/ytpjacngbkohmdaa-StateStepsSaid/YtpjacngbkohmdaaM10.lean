/- The statement whose line has these tokens. -/
import Derived.Test.YtpjacngbkohmdaaM09
import Derived.Test.YtpjacngbkohmdaaM02
namespace Go.Proofs.Ytpjacngbkohmdaa.SynV
set_option linter.unusedVariables false
set_option linter.unusedSimpArgs false
open Go.RowKit Go.Sort Go.Proofs Go.Proofs.Ytpjacngbkohmdaa.Plain Go.Proofs.Ytpjacngbkohmdaa.SynP Go.Proofs.Ytpjacngbkohmdaa.SynQ Go.Proofs.Ytpjacngbkohmdaa.Grown Go.Proofs.Ytpjacngbkohmdaa.SynA Go.Proofs.Ytpjacngbkohmdaa.SynC Go.Proofs.Ytpjacngbkohmdaa.SynR Go.Proofs.Ytpjacngbkohmdaa.SynW Go.Proofs.Ytpjacngbkohmdaa.Scan3 Go.Proofs.Ytpjacngbkohmdaa.Scan5 Go.Proofs.Ytpjacngbkohmdaa.Syn1 Go.Proofs.Ytpjacngbkohmdaa.Syn2 Go.Proofs.Ytpjacngbkohmdaa.Syn4 Go.Proofs.Ytpjacngbkohmdaa.SynL Go.Proofs.Ytpjacngbkohmdaa.SynS Go.Proofs.Ytpjacngbkohmdaa.SynT Go.Proofs.Ytpjacngbkohmdaa.SynU
set_option linter.unusedVariables false
set_option linter.unusedSimpArgs false
theorem good1 {t : Tk} (h : goodTk t) (hk : t.kind = 1) : named capB t.text.data.toList = true := by
  rcases h with ⟨_, h⟩ | ⟨h, _⟩ | ⟨h, _⟩ | ⟨h, _⟩ | ⟨h, _⟩
  · exact h
  all_goals (rw [hk] at h; exact absurd h (by decide))
theorem good2 {t : Tk} (h : goodTk t) (hk : t.kind = 2) : named smallB t.text.data.toList = true := by
  rcases h with ⟨h, _⟩ | ⟨_, h⟩ | ⟨h, _⟩ | ⟨h, _⟩ | ⟨h, _⟩
  rotate_left
  · exact h
  all_goals (rw [hk] at h; exact absurd h (by decide))
theorem good3 {t : Tk} (h : goodTk t) (hk : t.kind = 3) : t.text = dot := by
  rcases h with ⟨h, _⟩ | ⟨h, _⟩ | ⟨_, h⟩ | ⟨h, _⟩ | ⟨h, _⟩
  rotate_left 2
  · exact h
  all_goals (rw [hk] at h; exact absurd h (by decide))
/-- Good tokens that are a role's are read as one. -/
theorem readR_good {a b c : Tk} {rest : List Tk} (ha : goodTk a) (hb : goodTk b) (hc : goodTk c) (ka : a.kind = 1) (kb : b.kind = 3) (kc : c.kind = 2) : readR (a :: b :: c :: rest) = (⟨a.text, c.text⟩, rest, true) := by
  refine readR_yes ?_ ?_
  · unfold Rl.ok; rw [Bool.and_eq_true]; exact ⟨good1 ha ka, good2 hc kc⟩
  · unfold kts roleTk
    simp [ka, kb, kc, good3 hb kb]
/-- What ReadRole answers of such tokens. -/
def RolePost (a c : Tk) (rest : List Tk) (w : World) (e : Ending) (w' : World) : Prop := ∃ A cap, e = .returned (.tuple #[.agg #[.string a.text, .string c.text], .slice A rest.length cap, .bool true]) ∧ rest.length ≤ cap ∧ TkAt w' A rest ∧ Below w.heap.size w w' ∧ ∀ g o, A = some ⟨g, o, none⟩ → w.heap.size ≤ g
def StmtPost (s : St) (w : World) (e : Ending) (w' : World) : Prop := e = .returned s.val ∧ Below w.heap.size w w'
theorem blk_set {w : World} {n : Nat} {C : Array Value} {t : TypeId} (h : w.heap[n]? = some (.cells C t (0, 0))) (i : Nat) (v : Value) : (w.setCell ⟨n, i, none⟩ v).heap[n]? = some (.cells (C.setIfInBounds i v) t (0, 0)) := by
  simp [World.setCell, Array.getElem?_modify, h]
theorem blk_frozen {w : World} {n : Nat} {C : Array Value} {t : TypeId} (h : w.heap[n]? = some (.cells C t (0, 0))) (o : Nat) : w.frozen? ⟨n, o, none⟩ = false := by
  simp [World.frozen?, h]
theorem blk_below {w w' : World} {n B : Nat} {x : Option Obj} (h : w.heap[n]? = x) (hb : RowKit.Below B w w') (hn : n < B) : w'.heap[n]? = x := (hb.block n hn).trans h
theorem tk_tail {w : World} {g o : Nat} {a : Tk} {rest : List Tk} (h : TkAt w (some ⟨g, o, none⟩) (a :: rest)) : TkAt w (some ⟨g, o + 3, none⟩) rest := fun _ => by
  obtain ⟨g', o', e, hg, hc⟩ := h (by simp)
  injection e with e
  injection e with e1 e2
  subst e1; subst e2
  refine ⟨g, o + 3, rfl, hg, fun j hj => ?_⟩
  obtain ⟨x, y, z⟩ := hc (j + 1) (by simp; omega)
  simp only [List.getElem_cons_succ] at x y z
  rw [show o + (j + 1) * 3 = o + 3 + j * 3 by omega] at x y z
  exact ⟨x, y, z⟩
theorem tk_set {w : World} {A : Option Addr} {L : List Tk} (h : TkAt w A L) {b : Nat} (hb : ∀ g o, A = some ⟨g, o, none⟩ → b ≠ g) (i : Nat) (v : Value) : TkAt (w.setCell ⟨b, i, none⟩ v) A L := fun hp => by
  obtain ⟨g, o, e, hg, hc⟩ := h hp
  refine ⟨g, o, e, by rw [set_size]; exact hg, fun j hj => ?_⟩
  obtain ⟨x, y, z⟩ := hc j hj
  have hne := hb g o e
  exact ⟨(set_far _ _ _ _ _ _ hne).trans x, (set_far _ _ _ _ _ _ hne).trans y, (set_far _ _ _ _ _ _ hne).trans z⟩
theorem small_drop {L : List Tk} (h : SmallTk L) (n : Nat) : SmallTk (L.drop n) := fun t ht => h t (List.mem_of_mem_drop ht)
end Go.Proofs.Ytpjacngbkohmdaa.SynV
/- Rows of numbers put one behind the other: slices.Grow, slices.Concat; the shapes. -/
namespace Go.Proofs.Ytpjacngbkohmdaa.SynG
set_option linter.unusedVariables false
set_option linter.unusedSimpArgs false
open Go.RowKit Go.Sort Go.Proofs.Ytpjacngbkohmdaa.Plain Go.Proofs.Ytpjacngbkohmdaa.SynP Go.Proofs.Ytpjacngbkohmdaa.SynQ Go.Proofs.Ytpjacngbkohmdaa.Grown Go.Proofs.Ytpjacngbkohmdaa.SynA Go.Proofs.Ytpjacngbkohmdaa.SynC
set_option linter.unusedVariables false
theorem infoInt : (Try.prog.info? 3).map (fun i => (i.zero, i.size, i.bytes)) = some (some (.int .i64 0), 1, 8) := by kernel_rfl
def icells (l : List Int) : List Value := l.map (Value.int .i64)
/-- A row of the call's own that holds numbers. -/
def IPost (l : List Int) (w : World) (e : Ending) (w' : World) : Prop := ∃ v, e = .returned v ∧ w'.ownsRow w.heap.size 3 1 v l.length (icells l) ∧ Below w.heap.size w w'
/-- A slice value, its room, and the numbers as which it reads. -/
structure RowI where
  A : Option Addr
  c : Nat
  l : List Int
/-- The numbers of the first rows. -/
def flatTo (R : List RowI) (k : Nat) : List Int := ((R.take k).map RowI.l).flatten
theorem flatTo_succ {R : List RowI} {k : Nat} (h : k < R.length) : flatTo R (k + 1) = flatTo R k ++ R[k].l := by
  unfold flatTo
  rw [List.take_succ_eq_append_getElem h, List.map_append, List.flatten_append, List.map_singleton, List.flatten_singleton]
theorem flatTo_len {R : List RowI} (h : ∀ r ∈ R, r.l.length ≤ 1000) : ∀ k, (flatTo R k).length ≤ k * 1000 := by
  intro k
  induction k with
  | zero => simp [flatTo]
  | succ k ih =>
    rcases Nat.lt_or_ge k R.length with hk | hk
    · rw [flatTo_succ hk, List.length_append]
      have h1 := h R[k] (List.getElem_mem _)
      rw [Nat.succ_mul]
      exact Nat.add_le_add ih h1
    · have : flatTo R (k + 1) = flatTo R k := by unfold flatTo; rw [List.take_of_length_le (by omega), List.take_of_length_le (by omega)]
      rw [this, Nat.succ_mul]
      exact Nat.le_add_right_of_le ih
theorem icells_append (a b : List Int) : icells (a ++ b) = icells a ++ icells b := by unfold icells; exact List.map_append
theorem icells_len (a : List Int) : (icells a).length = a.length := List.length_map ..
theorem icells_one (l : List Int) : ∀ u ∈ icells l, u.oneCell' = true := by
  intro u hu
  obtain ⟨x, _, rfl⟩ := List.mem_map.1 hu
  rfl
theorem iat_none {w : World} {l : List Int} (h : IAt w none l) : l.length = 0 := by
  rcases Nat.eq_zero_or_pos l.length with h0 | h0
  · exact h0
  · obtain ⟨_, _, e, _⟩ := h h0; cases e
theorem iat_cells {w : World} {A : Option Addr} {l : List Int} (h : IAt w A l) : ∀ ad, A = some ad → ∀ j u, (icells l)[j]? = some u → w.cell? (ad.add j) = some u := by
  rintro ad rfl j u hu
  have hj : j < l.length := by
    rcases Nat.lt_or_ge j l.length with h | h
    · exact h
    · rw [List.getElem?_eq_none (by rw [icells_len]; exact h)] at hu; cases hu
  obtain ⟨g, o, e, _, hc⟩ := h (by omega)
  injection e with e
  subst e
  rw [add_off, hc j hj, ← hu]
  unfold icells
  rw [List.getElem?_map, List.getElem?_eq_getElem hj]; rfl
end Go.Proofs.Ytpjacngbkohmdaa.SynG
/- The kinds of the tokens of a line, in the program and in the document's answers. -/
namespace Go.Proofs.Ytpjacngbkohmdaa.SynH
set_option linter.unusedVariables false
set_option linter.unusedSimpArgs false
open Go.RowKit Go.Sort Go.Proofs.Ytpjacngbkohmdaa.Plain Go.Proofs.Ytpjacngbkohmdaa.SynP Go.Proofs.Ytpjacngbkohmdaa.SynQ Go.Proofs.Ytpjacngbkohmdaa.Grown Go.Proofs.Ytpjacngbkohmdaa.SynA Go.Proofs.Ytpjacngbkohmdaa.SynC Go.Proofs.Ytpjacngbkohmdaa.SynG
set_option linter.unusedVariables false
set_option linter.unusedSimpArgs false
theorem iat_of_own {w : World} {B : Nat} {e : TypeId} {v : Value} {l : List Int} (h : w.ownsRow B e 1 v l.length (icells l)) : ∃ A cap, v = .slice A l.length cap ∧ IAt w A l := by
  rcases h.2 with ⟨rfl, h0⟩ | ⟨g, cap, cur, rfl, hB, hh, hc, hm, hs, ht⟩
  · exact ⟨none, 0, by rw [h0], fun hp => by omega⟩
  · refine ⟨_, _, rfl, fun hp => ⟨g, 0, rfl, (h.lt g rfl).2, fun j hj => ?_⟩⟩
    have a : (icells l)[j]? = some (.int .i64 l[j]) := by unfold icells; rw [List.getElem?_map, List.getElem?_eq_getElem hj]; rfl
    rw [← ht] at a
    rw [List.getElem?_take_of_lt (by omega)] at a
    rw [Lib.cell_of_heap hh, ← Array.getElem?_toList, Nat.zero_add]
    exact a
theorem iat_new (w : World) (l : List Int) (t : TypeId) : IAt (w.alloc (.cells (icells l).toArray t)) (some ⟨w.heap.size, 0, none⟩) l := fun _ =>
  ⟨w.heap.size, 0, rfl, by simp, fun k hk => by
    rw [Lib.cell_of_heap (heap_alloc_new w _), Nat.zero_add]
    unfold icells
    simp [hk]⟩
theorem iat_alloc {w : World} {A : Option Addr} {l : List Int} (h : IAt w A l) (o : Obj) : IAt (w.alloc o) A l := h.below ((Below.refl _ _).alloc (Nat.le_refl _) o)
theorem new_cell (w : World) (c : Array Value) (t : TypeId) (j : Nat) : (w.alloc (.cells c t)).cell? ⟨w.heap.size, j, none⟩ = c[j]? := Lib.cell_of_heap (heap_alloc_new w _) j
theorem own_base {w : World} {B B' : Nat} {e : TypeId} {size n : Nat} {v : Value} {xs : List Value} (h : w.ownsRow B e size v n xs) (hB : B' ≤ B) : w.ownsRow B' e size v n xs := by
  refine ⟨h.1, ?_⟩
  rcases h.2 with h0 | ⟨g, cap, cur, hv, hg, r⟩
  · exact .inl h0
  · exact .inr ⟨g, cap, cur, hv, Nat.le_trans hB hg, r⟩
end Go.Proofs.Ytpjacngbkohmdaa.SynH
