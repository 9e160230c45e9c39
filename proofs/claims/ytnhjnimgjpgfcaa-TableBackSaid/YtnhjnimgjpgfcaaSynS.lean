/- Stores into a block that a world, known by its cells alone, holds. -/
import Derived.Test.YtnhjnimgjpgfcaaGrown2
namespace Go.Proofs.Ytnhjnimgjpgfcaa.SynS
open Go.RowKit Go.Sort
theorem set_cell (w : World) (b i o : Nat) (v : Value) : (w.setCell ⟨b, i, none⟩ v).cell? ⟨b, o, none⟩ = if o = i then (w.cell? ⟨b, i, none⟩).map (fun _ => v) else w.cell? ⟨b, o, none⟩ := by
  unfold World.setCell World.cell?
  simp only [Array.getElem?_modify, if_true]
  cases h : w.heap[b]? with
  | none => simp
  | some x =>
    cases x <;> simp
    rename_i c e f
    by_cases hi : o = i
    · subst hi
      simp
      by_cases hs : o < c.size
      · simp [hs]
      · simp [hs]
    · simp [hi, Array.getElem?_setIfInBounds, Ne.symm hi]
theorem set_far (w : World) (b b' i o : Nat) (v : Value) (h : b ≠ b') : (w.setCell ⟨b, i, none⟩ v).cell? ⟨b', o, none⟩ = w.cell? ⟨b', o, none⟩ := by
  unfold World.setCell World.cell?
  simp only [Array.getElem?_modify]
  rw [if_neg h]
theorem set_frozen (w : World) (b i b' o : Nat) (v : Value) : (w.setCell ⟨b, i, none⟩ v).frozen? ⟨b', o, none⟩ = w.frozen? ⟨b', o, none⟩ := World.frozen?_setCell ..
theorem set_size (w : World) (b i : Nat) (v : Value) : (w.setCell ⟨b, i, none⟩ v).heap.size = w.heap.size := by simp [World.setCell]
theorem some_below {X : World} {n : Nat} (h : (X.cell? ⟨n, 8, none⟩).isSome = true) (i : Nat) (hi : i ≤ 8) : ∃ u, X.cell? ⟨n, i, none⟩ = some u := by
  unfold World.cell? at *
  cases hx : X.heap[n]? with
  | none => rw [hx] at h; simp at h
  | some x =>
    rw [hx] at h
    cases x with
    | cells c e f =>
      simp at h ⊢
      exact ⟨_, Array.getElem?_eq_getElem (by omega)⟩
    | _ => simp at h
set_option maxHeartbeats 1000000 in
/-- Nine stores into a block of nine cells. -/
theorem set9 (X : World) (n : Nat) (v0 v1 v2 v3 v4 v5 v6 v7 v8 : Value) (o : Nat) (ho : o < 9) (h : (X.cell? ⟨n, 8, none⟩).isSome = true) : (((((((((X.setCell ⟨n, 0, none⟩ v0).setCell ⟨n, 1, none⟩ v1).setCell ⟨n, 2, none⟩ v2).setCell ⟨n, 3, none⟩ v3).setCell ⟨n, 4, none⟩ v4).setCell ⟨n, 5, none⟩ v5).setCell ⟨n, 6, none⟩ v6).setCell ⟨n, 7, none⟩ v7).setCell ⟨n, 8, none⟩ v8).cell? ⟨n, o, none⟩ = (#[v0, v1, v2, v3, v4, v5, v6, v7, v8] : Array Value)[o]? := by
  obtain ⟨u0, h0⟩ := some_below h 0 (by omega)
  obtain ⟨u1, h1⟩ := some_below h 1 (by omega)
  obtain ⟨u2, h2⟩ := some_below h 2 (by omega)
  obtain ⟨u3, h3⟩ := some_below h 3 (by omega)
  obtain ⟨u4, h4⟩ := some_below h 4 (by omega)
  obtain ⟨u5, h5⟩ := some_below h 5 (by omega)
  obtain ⟨u6, h6⟩ := some_below h 6 (by omega)
  obtain ⟨u7, h7⟩ := some_below h 7 (by omega)
  obtain ⟨u8, h8⟩ := some_below h 8 (by omega)
  match o, ho with
  | 0, _ => simp [set_cell, h0, h1, h2, h3, h4, h5, h6, h7, h8]
  | 1, _ => simp [set_cell, h0, h1, h2, h3, h4, h5, h6, h7, h8]
  | 2, _ => simp [set_cell, h0, h1, h2, h3, h4, h5, h6, h7, h8]
  | 3, _ => simp [set_cell, h0, h1, h2, h3, h4, h5, h6, h7, h8]
  | 4, _ => simp [set_cell, h0, h1, h2, h3, h4, h5, h6, h7, h8]
  | 5, _ => simp [set_cell, h0, h1, h2, h3, h4, h5, h6, h7, h8]
  | 6, _ => simp [set_cell, h0, h1, h2, h3, h4, h5, h6, h7, h8]
  | 7, _ => simp [set_cell, h0, h1, h2, h3, h4, h5, h6, h7, h8]
  | 8, _ => simp [set_cell, h0, h1, h2, h3, h4, h5, h6, h7, h8]
open Go.Proofs.Ytnhjnimgjpgfcaa.Grown
theorem grewCall1 {P : Program} {f : FuncId} {args : Array Value} {w : World} {m n : Nat} {os : Array Obj} {v : Value} (h : Calls P f args (grow (w.drewN (m + n)) os) fun e w' => e = .returned v ∧ Grew (grow (w.drewN (m + n)) os) w') : Calls P f args (grow (w.drewN (m + n)) os) fun e w'' => e = .returned v ∧ ∃ p : GrownBy, w'' = grow (w.drewN (m + p.n)) p.os :=
  h.mono fun _ _ ⟨he, ⟨⟨q, os'⟩, hq⟩⟩ => ⟨he, ⟨n + q, os ++ os'⟩, by
    rw [hq]
    show grow (grow ((w.drewN (m + n)).drewN q) os) os' = _
    rw [grow_grow, World.drewN_drewN, Nat.add_assoc]⟩
end Go.Proofs.Ytnhjnimgjpgfcaa.SynS
