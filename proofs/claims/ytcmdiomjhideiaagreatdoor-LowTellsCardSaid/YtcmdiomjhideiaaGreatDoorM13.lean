/- Principals put in by the library's search and Insert: what a row of texts is behind it. -/
import Derived.Test.YtcmdiomjhideiaaGreatDoorM08
import Derived.Test.YtcmdiomjhideiaaGreatDoorM10
import Derived.Test.YtcmdiomjhideiaaGreatDoorMore
import Derived.Shelf.SlSortFuncK.RowK2
import Derived.Lib.LazyBuf
import Derived.Test.YtcmdiomjhideiaaGreatDoorM11
import Derived.OwnWalk
import Derived.Test.YtcmdiomjhideiaaGreatDoorM12
import Derived.Test.YtcmdiomjhideiaaGreatDoorM07
import Derived.Test.YtcmdiomjhideiaaGreatDoorM01
import Derived.Test.YtcmdiomjhideiaaGreatDoorM03
import Derived.Lib.Join
namespace Go.Proofs.YtcmdiomjhideiaaGreatDoor.Qry8
set_option linter.unusedVariables false
set_option linter.unusedSimpArgs false
open Go.RowKit Go.Sort Go.Proofs Go.Proofs.YtcmdiomjhideiaaGreatDoor.Plain Go.Proofs.YtcmdiomjhideiaaGreatDoor.SynP Go.Proofs.YtcmdiomjhideiaaGreatDoor.TabP Go.Proofs.YtcmdiomjhideiaaGreatDoor.Tab1 Go.Proofs.YtcmdiomjhideiaaGreatDoor.QryP
set_option linter.unusedVariables false
set_option linter.unusedSimpArgs false
theorem enc_one (T : List Str) : ∀ v ∈ T.map encStr, v.oneCell' = true := fun v hv => by
  obtain ⟨x, _, rfl⟩ := List.mem_map.1 hv; rfl
end Go.Proofs.YtcmdiomjhideiaaGreatDoor.Qry8
/- slices.Insert and slices.BinarySearch at a rising row of texts, by contract. -/
namespace Go.Proofs.YtcmdiomjhideiaaGreatDoor.Qry9
set_option linter.unusedVariables false
set_option linter.unusedSimpArgs false
open Go.RowKit Go.Lib Go.Sort Go.Proofs Go.Proofs.YtcmdiomjhideiaaGreatDoor.Plain Go.Proofs.YtcmdiomjhideiaaGreatDoor.SynP Go.Proofs.YtcmdiomjhideiaaGreatDoor.TabP Go.Proofs.YtcmdiomjhideiaaGreatDoor.Tab1 Go.Proofs.YtcmdiomjhideiaaGreatDoor.QryP Go.Proofs.YtcmdiomjhideiaaGreatDoor.Qry8
set_option linter.unusedVariables false
set_option linter.unusedSimpArgs false
/-- What is asked of the row and of the new text's block. -/
structure InsAt (B g c vb : Nat) (T : List Str) (s : Str) (w : World) : Prop where
  own : w.ownsRow B 9 1 (.slice (some ⟨g, 0, none⟩) T.length c) T.length (T.map encStr)
  new : w.heap[vb]? = some (.cells #[.string ⟨s.toArray⟩] 9 (0, 0))
  far : vb ≠ g
theorem InsAt.cur {B g c vb : Nat} {T : List Str} {s : Str} {w : World} (h : InsAt B g c vb T s w) : ∃ cur, B ≤ g ∧ w.heap[g]? = some (.cells cur 9 (0, 0)) ∧ T.length ≤ c ∧ c ≤ maxLen ∧ cur.size = c ∧ ∀ j u, (T.map encStr)[j]? = some u → w.cell? ⟨g, j, none⟩ = some u := by
  have hc := h.own.cells (g := g) rfl
  rcases h.own.2 with ⟨e, _⟩ | ⟨g', cap, cur, e, hB, hh, h1, h2, h3, _⟩
  · cases e
  · injection e with e1 e2 e3
    injection e1 with e1
    injection e1 with e1
    subst e1; subst e3
    refine ⟨cur, hB, hh, h1, h2, by omega, fun j u hu => ?_⟩
    have := hc j u hu
    rwa [SynC.add_off, Nat.zero_add] at this
end Go.Proofs.YtcmdiomjhideiaaGreatDoor.Qry9
/- The principals that stand at a line's end, by contract. -/
namespace Go.Proofs.YtcmdiomjhideiaaGreatDoor.QryA
set_option linter.unusedVariables false
set_option linter.unusedSimpArgs false
open Go.RowKit Go.Sort Go.Proofs Go.Proofs.YtcmdiomjhideiaaGreatDoor.Plain Go.Proofs.YtcmdiomjhideiaaGreatDoor.SynP Go.Proofs.YtcmdiomjhideiaaGreatDoor.TabP Go.Proofs.YtcmdiomjhideiaaGreatDoor.Tab1 Go.Proofs.YtcmdiomjhideiaaGreatDoor.SynA Go.Proofs.YtcmdiomjhideiaaGreatDoor.QryP Go.Proofs.YtcmdiomjhideiaaGreatDoor.Qry8 Go.Proofs.YtcmdiomjhideiaaGreatDoor.Qry9
set_option linter.unusedVariables false
set_option linter.unusedSimpArgs false
def strOf (x : ByteArray) : Str := x.data.toList
def addN (r : List Str × Nat × Bool) (d : Nat) : List Str × Nat × Bool := (r.1, r.2.1 + d, r.2.2)
theorem text_of (x : ByteArray) : x = ⟨(strOf x).toArray⟩ := by unfold strOf; apply ByteArray.ext; simp
end Go.Proofs.YtcmdiomjhideiaaGreatDoor.QryA
/- A line's tokens read as those of one kind, by contract. -/
namespace Go.Proofs.YtcmdiomjhideiaaGreatDoor.QryB
set_option linter.unusedVariables false
set_option linter.unusedSimpArgs false
open Go.RowKit Go.Sort Go.Proofs Go.Proofs.YtcmdiomjhideiaaGreatDoor.Plain Go.Proofs.YtcmdiomjhideiaaGreatDoor.SynP Go.Proofs.YtcmdiomjhideiaaGreatDoor.SynQ Go.Proofs.YtcmdiomjhideiaaGreatDoor.TabP Go.Proofs.YtcmdiomjhideiaaGreatDoor.Tab1 Go.Proofs.YtcmdiomjhideiaaGreatDoor.Grown Go.Proofs.YtcmdiomjhideiaaGreatDoor.SynA Go.Proofs.YtcmdiomjhideiaaGreatDoor.SynC Go.Proofs.YtcmdiomjhideiaaGreatDoor.SynR Go.Proofs.YtcmdiomjhideiaaGreatDoor.SynS Go.Proofs.YtcmdiomjhideiaaGreatDoor.SynV Go.Proofs.YtcmdiomjhideiaaGreatDoor.QryP Go.Proofs.YtcmdiomjhideiaaGreatDoor.Qry4 Go.Proofs.YtcmdiomjhideiaaGreatDoor.Qry5 Go.Proofs.YtcmdiomjhideiaaGreatDoor.Qry6 Go.Proofs.YtcmdiomjhideiaaGreatDoor.Qry7 Go.Proofs.YtcmdiomjhideiaaGreatDoor.QryA
set_option linter.unusedVariables false
set_option linter.unusedSimpArgs false
theorem some_at {X : World} {n : Nat} (h : (X.cell? ⟨n, 5, none⟩).isSome = true) (i : Nat) (hi : i ≤ 5) : ∃ u, X.cell? ⟨n, i, none⟩ = some u := by
  unfold World.cell? at *
  cases hx : X.heap[n]? with
  | none => rw [hx] at h; simp at h
  | some x =>
    rw [hx] at h
    cases x with
    | cells c e f =>
      simp at h ⊢
      exact ⟨_, Array.getElem?_eq_getElem (by omega)⟩
    | _ => simp at h
end Go.Proofs.YtcmdiomjhideiaaGreatDoor.QryB
/- Plain mathematics: what a line's tokens are asked as, kind by kind. -/
namespace Go.Proofs.YtcmdiomjhideiaaGreatDoor.QryC
set_option linter.unusedVariables false
set_option linter.unusedSimpArgs false
open Go.RowKit Go.Sort Go.Proofs.YtcmdiomjhideiaaGreatDoor.Plain Go.Proofs.YtcmdiomjhideiaaGreatDoor.SynP Go.Proofs.YtcmdiomjhideiaaGreatDoor.TabP Go.Proofs.YtcmdiomjhideiaaGreatDoor.SynR Go.Proofs.YtcmdiomjhideiaaGreatDoor.QryP Go.Proofs.YtcmdiomjhideiaaGreatDoor.Qry4 Go.Proofs.YtcmdiomjhideiaaGreatDoor.Qry5 Go.Proofs.YtcmdiomjhideiaaGreatDoor.Qry7 Go.Proofs.YtcmdiomjhideiaaGreatDoor.QryA Go.Proofs.YtcmdiomjhideiaaGreatDoor.QryB
end Go.Proofs.YtcmdiomjhideiaaGreatDoor.QryC
/- A line's tokens read as those of one kind that they go on as, by contract. -/
namespace Go.Proofs.YtcmdiomjhideiaaGreatDoor.QryD
set_option linter.unusedVariables false
set_option linter.unusedSimpArgs false
open Go.RowKit Go.Sort Go.Proofs Go.Proofs.YtcmdiomjhideiaaGreatDoor.Plain Go.Proofs.YtcmdiomjhideiaaGreatDoor.SynP Go.Proofs.YtcmdiomjhideiaaGreatDoor.TabP Go.Proofs.YtcmdiomjhideiaaGreatDoor.Tab1 Go.Proofs.YtcmdiomjhideiaaGreatDoor.Grown Go.Proofs.YtcmdiomjhideiaaGreatDoor.SynA Go.Proofs.YtcmdiomjhideiaaGreatDoor.SynC Go.Proofs.YtcmdiomjhideiaaGreatDoor.SynR Go.Proofs.YtcmdiomjhideiaaGreatDoor.SynS Go.Proofs.YtcmdiomjhideiaaGreatDoor.SynV Go.Proofs.YtcmdiomjhideiaaGreatDoor.QryP Go.Proofs.YtcmdiomjhideiaaGreatDoor.Qry4 Go.Proofs.YtcmdiomjhideiaaGreatDoor.Qry5 Go.Proofs.YtcmdiomjhideiaaGreatDoor.Qry6 Go.Proofs.YtcmdiomjhideiaaGreatDoor.Qry7 Go.Proofs.YtcmdiomjhideiaaGreatDoor.QryA Go.Proofs.YtcmdiomjhideiaaGreatDoor.QryB
set_option linter.unusedVariables false
set_option linter.unusedSimpArgs false
theorem agreeF_cons {L : List Tk} {f : Ft} {F : List Ft} (h : agreeF L (f :: F) = F.length + 1) : ∃ t M, L = t :: M ∧ f.fits t = true ∧ agreeF M F = F.length := by
  cases L with
  | nil => simp [agreeF] at h
  | cons t M =>
    refine ⟨t, M, rfl, ?_⟩
    have h' : (if f.fits t = true then agreeF M F + 1 else 0) = F.length + 1 := h
    by_cases hf : f.fits t = true
    · rw [if_pos hf] at h'; exact ⟨hf, by omega⟩
    · rw [if_neg hf] at h'; omega
theorem fitsK {t : Tk} {n : Int} (h : Ft.fits t (.kind n) = true) : t.kind = n := by simpa [Ft.fits] using h
end Go.Proofs.YtcmdiomjhideiaaGreatDoor.QryD
/- A line as a query, in the program, by contract. -/
namespace Go.Proofs.YtcmdiomjhideiaaGreatDoor.QryE
set_option linter.unusedVariables false
set_option linter.unusedSimpArgs false
open Go.RowKit Go.Sort Go.Proofs Go.Proofs.YtcmdiomjhideiaaGreatDoor.Plain Go.Proofs.YtcmdiomjhideiaaGreatDoor.SynP Go.Proofs.YtcmdiomjhideiaaGreatDoor.SynQ Go.Proofs.YtcmdiomjhideiaaGreatDoor.TabP Go.Proofs.YtcmdiomjhideiaaGreatDoor.Tab1 Go.Proofs.YtcmdiomjhideiaaGreatDoor.Grown Go.Proofs.YtcmdiomjhideiaaGreatDoor.Scan3 Go.Proofs.YtcmdiomjhideiaaGreatDoor.SynA Go.Proofs.YtcmdiomjhideiaaGreatDoor.SynC Go.Proofs.YtcmdiomjhideiaaGreatDoor.SynR Go.Proofs.YtcmdiomjhideiaaGreatDoor.SynS Go.Proofs.YtcmdiomjhideiaaGreatDoor.SynU Go.Proofs.YtcmdiomjhideiaaGreatDoor.SynV Go.Proofs.YtcmdiomjhideiaaGreatDoor.SynX Go.Proofs.YtcmdiomjhideiaaGreatDoor.QryP Go.Proofs.YtcmdiomjhideiaaGreatDoor.Qry4 Go.Proofs.YtcmdiomjhideiaaGreatDoor.Qry5 Go.Proofs.YtcmdiomjhideiaaGreatDoor.Qry6 Go.Proofs.YtcmdiomjhideiaaGreatDoor.Qry7 Go.Proofs.YtcmdiomjhideiaaGreatDoor.QryA Go.Proofs.YtcmdiomjhideiaaGreatDoor.QryB Go.Proofs.YtcmdiomjhideiaaGreatDoor.QryC Go.Proofs.YtcmdiomjhideiaaGreatDoor.QryD
set_option linter.unusedVariables false
set_option linter.unusedSimpArgs false
end Go.Proofs.YtcmdiomjhideiaaGreatDoor.QryE
/- Plain mathematics: the lines of queries. -/
namespace Go.Proofs.YtcmdiomjhideiaaGreatDoor.QryL
set_option linter.unusedVariables false
set_option linter.unusedSimpArgs false
open Go.RowKit Go.Sort Go.Proofs.YtcmdiomjhideiaaGreatDoor.Plain Go.Proofs.YtcmdiomjhideiaaGreatDoor.SynP Go.Proofs.YtcmdiomjhideiaaGreatDoor.TabP Go.Proofs.YtcmdiomjhideiaaGreatDoor.SynW Go.Proofs.YtcmdiomjhideiaaGreatDoor.QryP
def bs (x : ByteArray) : Str := x.data.toList
theorem right_kind {q : Qy} (h : q.right = true) : q.kind = 1 ∨ q.kind = 2 ∨ q.kind = 3 ∨ q.kind = 4 ∨ q.kind = 5 ∨ q.kind = 6 := by
  rcases kinds6 q.kind with h1 | h1 | h1 | h1 | h1 | h1 | h1
  · exact .inl h1
  · exact .inr (.inl h1)
  · exact .inr (.inr (.inl h1))
  · exact .inr (.inr (.inr (.inl h1)))
  · exact .inr (.inr (.inr (.inr (.inl h1))))
  · exact .inr (.inr (.inr (.inr (.inr h1))))
  · unfold Qy.right at h
    rw [if_neg (by omega), if_neg (by omega), if_neg (by omega), if_neg (by omega)] at h
    simp at h
/-- What a query that may be is made of. -/
theorem right_parts {q : Qy} (h : q.right = true) : q.a.ok = true ∧ ((hasWk q.kind = true ∧ hasBk q.kind = false ∧ whoOk q.who = true ∧ q.b = zeroR ∧ (q.kind ≠ 3 → 0 < q.who.length)) ∨ (q.kind = 4 ∧ q.who = [] ∧ q.b = zeroR) ∨ (hasBk q.kind = true ∧ hasWk q.kind = false ∧ q.who = [] ∧ q.b.ok = true)) := by
  obtain ⟨k, a, b, T⟩ := q
  have hk := right_kind h
  unfold Qy.right at h
  rw [Bool.and_eq_true] at h
  refine ⟨h.1, ?_⟩
  have h2 := h.2
  simp only at hk h2 ⊢
  rcases hk with rfl | rfl | rfl | rfl | rfl | rfl
  · simp at h2
    exact .inl ⟨rfl, rfl, h2.1.2, h2.2, fun _ => h2.1.1⟩
  · simp at h2
    exact .inl ⟨rfl, rfl, h2.1.2, h2.2, fun _ => h2.1.1⟩
  · simp at h2
    exact .inl ⟨rfl, rfl, h2.1, h2.2, fun h => absurd rfl h⟩
  · simp at h2
    exact .inr (.inl ⟨rfl, h2.1, h2.2⟩)
  · simp at h2
    exact .inr (.inr ⟨rfl, rfl, h2.1, h2.2⟩)
  · simp at h2
    exact .inr (.inr ⟨rfl, rfl, h2.1, h2.2⟩)
theorem who_parts {T : List Str} (h : whoOk T = true) : T.length ≤ 12 ∧ (∀ s ∈ T, prinS s = true) ∧ T.Pairwise (· < ·) := by
  unfold whoOk at h
  simp only [Bool.and_eq_true, decide_eq_true_eq, List.all_eq_true] at h
  exact ⟨h.1.1, h.1.2, tab_id.1 h.2⟩
end Go.Proofs.YtcmdiomjhideiaaGreatDoor.QryL
