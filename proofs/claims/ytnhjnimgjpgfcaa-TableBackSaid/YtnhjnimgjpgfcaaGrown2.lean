/- What a world with blocks laid behind it holds; stores into it. -/
import Derived.Test.YtnhjnimgjpgfcaaGrown
import Derived.Sort.Walk7
namespace Go.Proofs.Ytnhjnimgjpgfcaa.Grown
open Go.RowKit Go.Sort
/-- A store into a block that was there, in a world with blocks laid behind it. -/
theorem grow_set (n : Nat) (os : Array Obj) : ∀ (X : World) (b i : Nat) (v : Value), b < X.heap.size → (grow (X.drewN n) os).setCell ⟨b, i, none⟩ v = grow ((X.setCell ⟨b, i, none⟩ v).drewN n) os := fun X b i v hb => by
  rw [setCell_grow _ _ _ _ _ (by exact hb)]; rfl
theorem grow_cell (n : Nat) (os : Array Obj) : ∀ (X : World) (b i : Nat), b < X.heap.size → (grow (X.drewN n) os).cell? ⟨b, i, none⟩ = X.cell? ⟨b, i, none⟩ := fun X b i hb => by
  rw [cell?_grow _ _ _ (by exact hb)]; rfl
theorem grow_frozen (n : Nat) (os : Array Obj) : ∀ (X : World) (b i : Nat), b < X.heap.size → (grow (X.drewN n) os).frozen? ⟨b, i, none⟩ = X.frozen? ⟨b, i, none⟩ := fun X b i hb => by
  rw [frozen?_grow _ _ _ (by exact hb)]; rfl
theorem grow_size (n : Nat) (os : Array Obj) : ∀ X : World, (grow (X.drewN n) os).heap.size = X.heap.size + os.size := fun _ => size_grow _ _
theorem grewCall {P : Program} {f : FuncId} {args : Array Value} {w : World} {n : Nat} {os : Array Obj} {v : Value} (h : Calls P f args (grow (w.drewN n) os) fun e w' => e = .returned v ∧ Grew (grow (w.drewN n) os) w') : Calls P f args (grow (w.drewN n) os) fun e w'' => e = .returned v ∧ ∃ p : GrownBy, w'' = grow (w.drewN p.n) p.os :=
  h.mono fun _ _ ⟨he, hg⟩ => ⟨he, (Grew.mk w n os).trans hg⟩
end Go.Proofs.Ytnhjnimgjpgfcaa.Grown
