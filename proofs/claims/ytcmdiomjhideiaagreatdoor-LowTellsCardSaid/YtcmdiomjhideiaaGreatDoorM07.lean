/- The role that tokens begin with. -/
import Derived.Test.YtcmdiomjhideiaaGreatDoorM06
import Derived.RegionTactic
import Derived.ChangeAlike
import Derived.Test.YtcmdiomjhideiaaGreatDoorM04
namespace Go.Proofs.YtcmdiomjhideiaaGreatDoor.SynU
set_option linter.unusedVariables false
set_option linter.unusedSimpArgs false
open Go.RowKit Go.Sort Go.Proofs Go.Proofs.YtcmdiomjhideiaaGreatDoor.Plain Go.Proofs.YtcmdiomjhideiaaGreatDoor.SynP Go.Proofs.YtcmdiomjhideiaaGreatDoor.SynQ Go.Proofs.YtcmdiomjhideiaaGreatDoor.Grown Go.Proofs.YtcmdiomjhideiaaGreatDoor.SynA Go.Proofs.YtcmdiomjhideiaaGreatDoor.SynC Go.Proofs.YtcmdiomjhideiaaGreatDoor.SynR Go.Proofs.YtcmdiomjhideiaaGreatDoor.SynW Go.Proofs.YtcmdiomjhideiaaGreatDoor.Scan3 Go.Proofs.YtcmdiomjhideiaaGreatDoor.Scan5 Go.Proofs.YtcmdiomjhideiaaGreatDoor.Syn1 Go.Proofs.YtcmdiomjhideiaaGreatDoor.Syn2 Go.Proofs.YtcmdiomjhideiaaGreatDoor.Syn4 Go.Proofs.YtcmdiomjhideiaaGreatDoor.SynL Go.Proofs.YtcmdiomjhideiaaGreatDoor.SynS Go.Proofs.YtcmdiomjhideiaaGreatDoor.SynT Go.Proofs.YtcmdiomjhideiaaGreatDoor.Syn7
set_option linter.unusedVariables false
set_option linter.unusedSimpArgs false
theorem own_more {w : World} {B B' : Nat} {e : TypeId} {size n : Nat} {v : Value} {xs : List Value} (h : w.ownsRow B e size v n xs) (hB : B' ≤ B) : w.ownsRow B' e size v n xs := by
  refine ⟨h.1, ?_⟩
  rcases h.2 with h0 | ⟨g, cap, cur, hv, hg, r⟩
  · exact .inl h0
  · exact .inr ⟨g, cap, cur, hv, Nat.le_trans hB hg, r⟩
theorem keepB {W w1 w2 : World} {n k : Nat} {x y : Option Value} (h : RowKit.Below k W w1 ∧ w1.cell? ⟨n, 0, none⟩ = x ∧ w1.cell? ⟨n, 1, none⟩ = y) (hn : n < k) (hk : k ≤ W.heap.size) (hb : RowKit.Below w1.heap.size w1 w2) :
    RowKit.Below k W w2 ∧ w2.cell? ⟨n, 0, none⟩ = x ∧ w2.cell? ⟨n, 1, none⟩ = y := by
  have hs := h.1.size
  exact ⟨h.1.trans (hb.mono (by omega)), (hb.cell (p := ⟨n, 0, none⟩) (by show n < _; omega)).trans h.2.1, (hb.cell (p := ⟨n, 1, none⟩) (by show n < _; omega)).trans h.2.2⟩
end Go.Proofs.YtcmdiomjhideiaaGreatDoor.SynU
/- The statement whose line has these tokens. -/
namespace Go.Proofs.YtcmdiomjhideiaaGreatDoor.SynV
set_option linter.unusedVariables false
set_option linter.unusedSimpArgs false
open Go.RowKit Go.Sort Go.Proofs Go.Proofs.YtcmdiomjhideiaaGreatDoor.Plain Go.Proofs.YtcmdiomjhideiaaGreatDoor.SynP Go.Proofs.YtcmdiomjhideiaaGreatDoor.SynQ Go.Proofs.YtcmdiomjhideiaaGreatDoor.Grown Go.Proofs.YtcmdiomjhideiaaGreatDoor.SynA Go.Proofs.YtcmdiomjhideiaaGreatDoor.SynC Go.Proofs.YtcmdiomjhideiaaGreatDoor.SynR Go.Proofs.YtcmdiomjhideiaaGreatDoor.SynW Go.Proofs.YtcmdiomjhideiaaGreatDoor.Scan3 Go.Proofs.YtcmdiomjhideiaaGreatDoor.Scan5 Go.Proofs.YtcmdiomjhideiaaGreatDoor.Syn1 Go.Proofs.YtcmdiomjhideiaaGreatDoor.Syn2 Go.Proofs.YtcmdiomjhideiaaGreatDoor.Syn4 Go.Proofs.YtcmdiomjhideiaaGreatDoor.SynL Go.Proofs.YtcmdiomjhideiaaGreatDoor.SynS Go.Proofs.YtcmdiomjhideiaaGreatDoor.SynT Go.Proofs.YtcmdiomjhideiaaGreatDoor.SynU
set_option linter.unusedVariables false
set_option linter.unusedSimpArgs false
end Go.Proofs.YtcmdiomjhideiaaGreatDoor.SynV
/- Rows of numbers put one behind the other: slices.Grow, slices.Concat; the shapes. -/
namespace Go.Proofs.YtcmdiomjhideiaaGreatDoor.SynG
set_option linter.unusedVariables false
set_option linter.unusedSimpArgs false
open Go.RowKit Go.Sort Go.Proofs.YtcmdiomjhideiaaGreatDoor.Plain Go.Proofs.YtcmdiomjhideiaaGreatDoor.SynP Go.Proofs.YtcmdiomjhideiaaGreatDoor.SynQ Go.Proofs.YtcmdiomjhideiaaGreatDoor.Grown Go.Proofs.YtcmdiomjhideiaaGreatDoor.SynA Go.Proofs.YtcmdiomjhideiaaGreatDoor.SynC
set_option linter.unusedVariables false
theorem infoInt : (Tryz.prog.info? 3).map (fun i => (i.zero, i.size, i.bytes)) = some (some (.int .i64 0), 1, 8) := by kernel_rfl
/-- A slice value, its room, and the numbers as which it reads. -/
structure RowI where
  A : Option Addr
  c : Nat
  l : List Int
/-- The numbers of the first rows. -/
def flatTo (R : List RowI) (k : Nat) : List Int := ((R.take k).map RowI.l).flatten
theorem flatTo_succ {R : List RowI} {k : Nat} (h : k < R.length) : flatTo R (k + 1) = flatTo R k ++ R[k].l := by
  unfold flatTo
  rw [List.take_succ_eq_append_getElem h, List.map_append, List.flatten_append, List.map_singleton, List.flatten_singleton]
theorem flatTo_len {R : List RowI} (h : ∀ r ∈ R, r.l.length ≤ 1000) : ∀ k, (flatTo R k).length ≤ k * 1000 := by
  intro k
  induction k with
  | zero => simp [flatTo]
  | succ k ih =>
    rcases Nat.lt_or_ge k R.length with hk | hk
    · rw [flatTo_succ hk, List.length_append]
      have h1 := h R[k] (List.getElem_mem _)
      rw [Nat.succ_mul]
      exact Nat.add_le_add ih h1
    · have : flatTo R (k + 1) = flatTo R k := by unfold flatTo; rw [List.take_of_length_le (by omega), List.take_of_length_le (by omega)]
      rw [this, Nat.succ_mul]
      exact Nat.le_add_right_of_le ih
end Go.Proofs.YtcmdiomjhideiaaGreatDoor.SynG
/- The kinds of the tokens of a line, in the program and in the document's answers. -/
namespace Go.Proofs.YtcmdiomjhideiaaGreatDoor.SynH
set_option linter.unusedVariables false
set_option linter.unusedSimpArgs false
open Go.RowKit Go.Sort Go.Proofs.YtcmdiomjhideiaaGreatDoor.Plain Go.Proofs.YtcmdiomjhideiaaGreatDoor.SynP Go.Proofs.YtcmdiomjhideiaaGreatDoor.SynQ Go.Proofs.YtcmdiomjhideiaaGreatDoor.Grown Go.Proofs.YtcmdiomjhideiaaGreatDoor.SynA Go.Proofs.YtcmdiomjhideiaaGreatDoor.SynC Go.Proofs.YtcmdiomjhideiaaGreatDoor.SynG
set_option linter.unusedVariables false
set_option linter.unusedSimpArgs false
theorem own_base {w : World} {B B' : Nat} {e : TypeId} {size n : Nat} {v : Value} {xs : List Value} (h : w.ownsRow B e size v n xs) (hB : B' ≤ B) : w.ownsRow B' e size v n xs := by
  refine ⟨h.1, ?_⟩
  rcases h.2 with h0 | ⟨g, cap, cur, hv, hg, r⟩
  · exact .inl h0
  · exact .inr ⟨g, cap, cur, hv, Nat.le_trans hB hg, r⟩
end Go.Proofs.YtcmdiomjhideiaaGreatDoor.SynH
