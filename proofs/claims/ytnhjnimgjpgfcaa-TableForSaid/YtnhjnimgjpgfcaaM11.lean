/- The role that tokens begin with. -/
import Derived.Test.YtnhjnimgjpgfcaaM10
import Derived.RegionTactic
import Derived.ChangeAlike
namespace Go.Proofs.Ytnhjnimgjpgfcaa.SynU
set_option linter.unusedVariables false
set_option linter.unusedSimpArgs false
open Go.RowKit Go.Sort Go.Proofs Go.Proofs.Ytnhjnimgjpgfcaa.Plain Go.Proofs.Ytnhjnimgjpgfcaa.SynP Go.Proofs.Ytnhjnimgjpgfcaa.SynQ Go.Proofs.Ytnhjnimgjpgfcaa.Grown Go.Proofs.Ytnhjnimgjpgfcaa.SynA Go.Proofs.Ytnhjnimgjpgfcaa.SynC Go.Proofs.Ytnhjnimgjpgfcaa.SynR Go.Proofs.Ytnhjnimgjpgfcaa.SynW Go.Proofs.Ytnhjnimgjpgfcaa.Scan3 Go.Proofs.Ytnhjnimgjpgfcaa.Scan5 Go.Proofs.Ytnhjnimgjpgfcaa.Syn1 Go.Proofs.Ytnhjnimgjpgfcaa.Syn2 Go.Proofs.Ytnhjnimgjpgfcaa.Syn4 Go.Proofs.Ytnhjnimgjpgfcaa.SynL Go.Proofs.Ytnhjnimgjpgfcaa.SynS Go.Proofs.Ytnhjnimgjpgfcaa.SynT Go.Proofs.Ytnhjnimgjpgfcaa.Syn7
set_option linter.unusedVariables false
set_option linter.unusedSimpArgs false
/-- The role that tokens begin with, what is behind it, and whether there is one. -/
def readR : List Tk → Rl × List Tk × Bool
  | a :: b :: c :: rest => if (⟨a.text, c.text⟩ : Rl).ok = true ∧ kts [a, b, c] = kts (roleTk ⟨a.text, c.text⟩ 0) then (⟨a.text, c.text⟩, rest, true) else (zeroR, a :: b :: c :: rest, false)
  | L => (zeroR, L, false)
theorem readR_short {L : List Tk} (h : L.length < 3) : readR L = (zeroR, L, false) := by
  match L, h with
  | [], _ => rfl
  | [_], _ => rfl
  | [_, _], _ => rfl
theorem own_more {w : World} {B B' : Nat} {e : TypeId} {size n : Nat} {v : Value} {xs : List Value} (h : w.ownsRow B e size v n xs) (hB : B' ≤ B) : w.ownsRow B' e size v n xs := by
  refine ⟨h.1, ?_⟩
  rcases h.2 with h0 | ⟨g, cap, cur, hv, hg, r⟩
  · exact .inl h0
  · exact .inr ⟨g, cap, cur, hv, Nat.le_trans hB hg, r⟩
/-- A store into a block ahead of a row's. -/
theorem own_set {w : World} {B : Nat} {e : TypeId} {size n : Nat} {v : Value} {xs : List Value} {p : Addr} (h : w.ownsRow B e size v n xs) (hp : p.block < B) (u : Value) : (w.setCell p u).ownsRow B e size v n xs := by
  refine ⟨h.1, ?_⟩
  rcases h.2 with h0 | ⟨g, cap, cur, hv, hg, hh, r⟩
  · exact .inl h0
  · exact .inr ⟨g, cap, cur, hv, hg, by rw [Below.heap_setCell _ _ _ _ (by omega)]; exact hh, r⟩
theorem readR_no {a b c : Tk} {rest : List Tk} (h : (⟨a.text, c.text⟩ : Rl).ok = false) : readR (a :: b :: c :: rest) = (zeroR, a :: b :: c :: rest, false) :=
  if_neg (fun e => by rw [h] at e; cases e.1)
theorem readR_ne {a b c : Tk} {rest : List Tk} (h : kts [a, b, c] ≠ kts (roleTk ⟨a.text, c.text⟩ 0)) : readR (a :: b :: c :: rest) = (zeroR, a :: b :: c :: rest, false) :=
  if_neg (fun e => h e.2)
theorem readR_yes {a b c : Tk} {rest : List Tk} (h : (⟨a.text, c.text⟩ : Rl).ok = true) (h2 : kts [a, b, c] = kts (roleTk ⟨a.text, c.text⟩ 0)) : readR (a :: b :: c :: rest) = (⟨a.text, c.text⟩, rest, true) :=
  if_pos ⟨h, h2⟩
theorem keepB {W w1 w2 : World} {n k : Nat} {x y : Option Value} (h : RowKit.Below k W w1 ∧ w1.cell? ⟨n, 0, none⟩ = x ∧ w1.cell? ⟨n, 1, none⟩ = y) (hn : n < k) (hk : k ≤ W.heap.size) (hb : RowKit.Below w1.heap.size w1 w2) :
    RowKit.Below k W w2 ∧ w2.cell? ⟨n, 0, none⟩ = x ∧ w2.cell? ⟨n, 1, none⟩ = y := by
  have hs := h.1.size
  exact ⟨h.1.trans (hb.mono (by omega)), (hb.cell (p := ⟨n, 0, none⟩) (by show n < _; omega)).trans h.2.1, (hb.cell (p := ⟨n, 1, none⟩) (by show n < _; omega)).trans h.2.2⟩
theorem keepFar {w : World} {n : Nat} {x y : Option Value} {a b : Value} (h : w.cell? ⟨n + 1, 0, none⟩ = x ∧ w.cell? ⟨n + 1, 1, none⟩ = y) (_ : 0 = 0) : ((w.setCell ⟨n, 0, none⟩ a).setCell ⟨n, 1, none⟩ b).cell? ⟨n + 1, 0, none⟩ = x ∧ ((w.setCell ⟨n, 0, none⟩ a).setCell ⟨n, 1, none⟩ b).cell? ⟨n + 1, 1, none⟩ = y :=
  ⟨by rw [set_far _ _ _ _ _ _ (by omega), set_far _ _ _ _ _ _ (by omega)]; exact h.1, by rw [set_far _ _ _ _ _ _ (by omega), set_far _ _ _ _ _ _ (by omega)]; exact h.2⟩
theorem tk_three {w : World} {A : Option Addr} {a b c : Tk} {rest : List Tk} (h : TkAt w A (a :: b :: c :: rest)) : TkAt w A [a, b, c] := fun _ => by
  obtain ⟨g, o, e, hg, hc⟩ := h (by simp)
  exact ⟨g, o, e, hg, fun j hj => match j, hj with
    | 0, _ => hc 0 (by simp)
    | 1, _ => hc 1 (by simp)
    | 2, _ => hc 2 (by simp)⟩
theorem tk_rest {w : World} {g o : Nat} {a b c : Tk} {rest : List Tk} (h : TkAt w (some ⟨g, o, none⟩) (a :: b :: c :: rest)) : TkAt w (some ⟨g, o + 9, none⟩) rest := fun _ => by
  obtain ⟨g', o', e, hg, hc⟩ := h (by simp)
  injection e with e
  injection e with e1 e2
  subst e1; subst e2
  refine ⟨g, o + 9, rfl, hg, fun j hj => ?_⟩
  obtain ⟨x, y, z⟩ := hc (j + 3) (by simp; omega)
  simp only [List.getElem_cons_succ] at x y z
  rw [show o + (j + 3) * 3 = o + 9 + j * 3 by omega] at x y z
  exact ⟨x, y, z⟩
end Go.Proofs.Ytnhjnimgjpgfcaa.SynU
