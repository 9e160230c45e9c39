/- What is asked by kind: Universal, Words and the rest, by contract. -/
import Derived.Test.YtpjacngbkohmdaaM14
import Derived.Deep.RegionHeld3
namespace Go.Proofs.Ytpjacngbkohmdaa.Qry6
set_option linter.unusedVariables false
set_option linter.unusedSimpArgs false
open Go.RowKit Go.Sort Go.Proofs Go.Proofs.Ytpjacngbkohmdaa.Plain Go.Proofs.Ytpjacngbkohmdaa.SynP Go.Proofs.Ytpjacngbkohmdaa.TabP Go.Proofs.Ytpjacngbkohmdaa.Tab1 Go.Proofs.Ytpjacngbkohmdaa.Grown Go.Proofs.Ytpjacngbkohmdaa.SynA Go.Proofs.Ytpjacngbkohmdaa.SynC Go.Proofs.Ytpjacngbkohmdaa.QryP Go.Proofs.Ytpjacngbkohmdaa.Qry4 Go.Proofs.Ytpjacngbkohmdaa.Qry5 Go.Proofs.Ytpjacngbkohmdaa.QryG
set_option linter.unusedVariables false
set_option linter.unusedSimpArgs false
theorem srow_new (w : World) (T : List Str) (t : TypeId) : SRow (w.alloc (.cells (T.map encStr).toArray t)) (some ⟨w.heap.size, 0, none⟩) T := fun _ =>
  ⟨w.heap.size, 0, rfl, by simp, fun j hj => by
    rw [Lib.cell_of_heap (heap_alloc_new w _), Nat.zero_add]
    simp [hj]⟩
theorem others {k : Int} (h : k < 1 ∨ 6 < k) : (k == 1) = false ∧ (k == 2) = false ∧ (k == 3) = false ∧ (k == 4) = false ∧ (k == 5) = false ∧ (k == 6) = false := by
  refine ⟨?_, ?_, ?_, ?_, ?_, ?_⟩ <;> (simp; omega)
def WordsPost (k : Int) (w : World) (e : Ending) (w' : World) : Prop := ∃ A c, e = .returned (.slice A (wordsL k).length c) ∧ SRow w' A (wordsL k) ∧ Grew w w'
end Go.Proofs.Ytpjacngbkohmdaa.Qry6
/- What fits the places of the lines of a kind, by contract. -/
namespace Go.Proofs.Ytpjacngbkohmdaa.Qry7
set_option linter.unusedVariables false
set_option linter.unusedSimpArgs false
open Go.RowKit Go.Sort Go.Proofs Go.Proofs.Ytpjacngbkohmdaa.Plain Go.Proofs.Ytpjacngbkohmdaa.SynP Go.Proofs.Ytpjacngbkohmdaa.TabP Go.Proofs.Ytpjacngbkohmdaa.Tab1 Go.Proofs.Ytpjacngbkohmdaa.Grown Go.Proofs.Ytpjacngbkohmdaa.SynA Go.Proofs.Ytpjacngbkohmdaa.SynC Go.Proofs.Ytpjacngbkohmdaa.QryP Go.Proofs.Ytpjacngbkohmdaa.Qry4 Go.Proofs.Ytpjacngbkohmdaa.Qry5 Go.Proofs.Ytpjacngbkohmdaa.QryG Go.Proofs.Ytpjacngbkohmdaa.Qry6
set_option linter.unusedVariables false
set_option linter.unusedSimpArgs false
def leadS (k : Int) : Str := if univ k then [97, 108, 119, 97, 121, 115] else [99, 97, 110]
theorem leadT_S (k : Int) : leadT k = ⟨(leadS k).toArray⟩ := by
  unfold leadT leadS; split <;> rfl
def roleF : List Ft := [.kind 1, .kind 3, .kind 2]
def shapeF (k : Int) : List Ft := [.word (leadS k)] ++ roleF ++ (wordsL k).map .word ++ (if hasBk k then roleF else [])
theorem iat_new (w : World) (l : List Int) (t : TypeId) : IAt (w.alloc (.cells (l.map (Value.int .i64)).toArray t)) (some ⟨w.heap.size, 0, none⟩) l := fun _ =>
  ⟨w.heap.size, 0, rfl, by simp, fun k hk => by
    rw [Lib.cell_of_heap (heap_alloc_new w _), Nat.zero_add]
    simp [hk]⟩
theorem keepQ {W w1 w2 : World} {n : Nat} {f : Nat → Option Value} (h : RowKit.Below W.heap.size W w1 ∧ (∀ o, w1.cell? ⟨n, o, none⟩ = f o)) (hn : n < W.heap.size) (hb : RowKit.Below w1.heap.size w1 w2) : RowKit.Below W.heap.size W w2 ∧ (∀ o, w2.cell? ⟨n, o, none⟩ = f o) := by
  have hs := h.1.size
  exact ⟨h.1.trans (hb.mono hs), fun o => (hb.cell (p := ⟨n, o, none⟩) (by show n < _; omega)).trans (h.2 o)⟩
theorem keepA {W w1 : World} {n : Nat} {f : Nat → Option Value} {o' : Obj} (h : RowKit.Below W.heap.size W w1 ∧ (∀ o, w1.cell? ⟨n, o, none⟩ = f o)) (hn : n < W.heap.size) : RowKit.Below W.heap.size W (w1.alloc o') ∧ (∀ o, (w1.alloc o').cell? ⟨n, o, none⟩ = f o) :=
  keepQ h hn ((Below.refl _ _).alloc (Nat.le_refl _) _)
theorem srow_one (X : World) (s : Str) : SRow (X.alloc (.cells #[.string ⟨s.toArray⟩] 9)) (some ⟨X.heap.size, 0, none⟩) [s] := srow_new X [s] _
theorem own_more {w : World} {B B' : Nat} {e : TypeId} {size n : Nat} {v : Value} {xs : List Value} (h : w.ownsRow B e size v n xs) (hB : B' ≤ B) : w.ownsRow B' e size v n xs := by
  refine ⟨h.1, ?_⟩
  rcases h.2 with hn | ⟨g, cap, cur, rfl, hb, rest⟩
  · exact .inl hn
  · exact .inr ⟨g, cap, cur, rfl, by omega, rest⟩
theorem chain {w1 wz wa wb wc : World} {o : Obj} (hz : RowKit.Below w1.drew.heap.size w1.drew wz) (h1 : RowKit.Below (wz.alloc o).heap.size (wz.alloc o) wa) (h2 : RowKit.Below wa.heap.size wa wb) (h3 : RowKit.Below wb.heap.size wb wc) : RowKit.Below w1.heap.size w1 wc ∧ RowKit.Below wa.heap.size wa wc := by
  have a : RowKit.Below wa.heap.size wa wc := h2.trans (h3.mono h2.size)
  have b : RowKit.Below w1.heap.size w1 wz := ((Below.refl w1.heap.size w1).drew).trans hz
  have c : RowKit.Below w1.heap.size w1 wa := (b.alloc b.size o).trans (h1.mono (by have := b.size; simp; omega))
  exact ⟨c.trans (a.mono c.size), a⟩
end Go.Proofs.Ytpjacngbkohmdaa.Qry7
