/- The document's example of layer 11, by contract. -/
import Derived.Test.YtblapgfilbmdhaaGreatDoorM34
import Derived.Test.YtblapgfilbmdhaaGreatDoorM12
set_option linter.unusedVariables false
set_option linter.unusedSimpArgs false
namespace Go.Proofs.YtblapgfilbmdhaaGreatDoor.LwL
open Go.RowKit Go.Sort Go.Lib Go.Proofs Plain SynP TabP Tab1 Tab5 PolA PolE PolG PolH PolOp PolLi TblB TblC TblF TblP TblQ TblR SetJ SemA SemGa StB LwA LwG LwH LwM
theorem below_alloc (w : World) (o : Obj) : Below w.heap.size w (w.alloc o) := (Below.refl _ _).alloc (Nat.le_refl _) _
def rR : Rl := ⟨⟨#[65]⟩, ⟨#[114]⟩⟩
def rS : Rl := ⟨⟨#[65]⟩, ⟨#[115]⟩⟩
def z0 : Rl := ⟨⟨#[]⟩, ⟨#[]⟩⟩
def sA : St := ⟨1, rR, ⟨#[66]⟩, z0, z0, ⟨#[]⟩⟩
def sB : St := ⟨1, rS, ⟨#[67]⟩, z0, z0, ⟨#[]⟩⟩
def pL : Py := ⟨[sA, sB], [], [rS], []⟩
theorem ex_min : minS pL = [sB] := by decide +kernel
theorem ex_right : ∀ s ∈ pL.stmts, s.right = true := by decide +kernel
theorem lt1 (c : UInt8) : (⟨#[c]⟩ : ByteArray).size ≤ maxLen := by show 1 ≤ maxLen; unfold maxLen; omega
theorem lt0 : (⟨#[]⟩ : ByteArray).size ≤ maxLen := by show 0 ≤ maxLen; omega
theorem txt_one {y : Str} {c : UInt8} : txt y = ⟨#[c]⟩ ↔ y = [c] := by
  constructor
  · intro h
    have := congrArg bt h
    rw [bt_txt] at this
    exact this
  · rintro rfl
    rfl
theorem pt_up (p : Py) : (PT p).Pairwise (· < ·) := tab_sorted _
def TL : List Ru := rulesOf (PT pL) (NT pL) (minS pL)
theorem rl_ne : TL.filter (rightU (PT pL).length (NT pL).length) ≠ [] := by
  unfold TL
  rw [rules_right (min_ok ex_right), ex_min]
  simp
theorem rg_one {w : World} {g : Nat} (h : w.heap[g]? = some (.cells #[.string ⟨#[65]⟩, .string ⟨#[115]⟩] 28)) : RG w (some ⟨g, 0, none⟩) [rS] := fun _ => by
  refine ⟨g, 0, rfl, (Array.getElem?_eq_some_iff.1 h).1, fun j hj => ?_⟩
  have : j = 0 := by simp at hj; omega
  subst this
  exact ⟨Lib.cell_of_heap h 0, Lib.cell_of_heap h 1⟩
theorem rg_nil (w : World) : RG w none [] := fun h => by simp at h
theorem qg_nil (w : World) : QG w none [] := fun h => by simp at h
end Go.Proofs.YtblapgfilbmdhaaGreatDoor.LwL
