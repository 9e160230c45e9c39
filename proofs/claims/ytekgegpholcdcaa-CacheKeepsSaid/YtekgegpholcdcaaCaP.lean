/- A slice of things that are done, that came in, reads as a list of them. -/
import Derived.Test.YtekgegpholcdcaaCaO
import Derived.Test.YtekgegpholcdcaaCaI
namespace Go.Proofs.Ytekgegpholcdcaa.CaP
open Go.ChangeShapes Go.WideShapes Go.ChangeAt Go.RowKit
open Go.Proofs.Ytekgegpholcdcaa.CaA Go.Proofs.Ytekgegpholcdcaa.CaO Go.Proofs.Ytekgegpholcdcaa.CaI
set_option maxRecDepth 1000000
set_option linter.unusedVariables false
theorem cellsK : Try.prog.cellsOf 52 = 4 := by kernel_rfl
theorem cellsO : Try.prog.cellsOf 54 = 6 := by kernel_rfl
theorem cellsU : Try.prog.cellsOf 44 = 1 := by kernel_rfl
section
variable {H : Type} {enc : TypeId × Value → H} {w : World} {base : Nat} {spare : Nat → Bool} {held : Bool} {fuel : Nat} {cs : List Value} {x : DataW H × List MemPlace}
theorem key_cells (h : DataW.trod enc Try.prog w base spare held fuel 52 cs = some x) : ∃ q : Qn, cs = q.cells := by
  obtain ⟨xs, n, _, _, hl, hxl, hf⟩ := DataW.trod_array Try.underlying52 h
  rw [cellsK] at hl
  match cs, hl with
  | [c0, c1, c2, c3], _ =>
    have h0 : DataW.trod enc Try.prog w base spare held n 3 (([c0, c1, c2, c3].drop (0 * Try.prog.cellsOf 3)).take (Try.prog.cellsOf 3)) = xs[0]? := hf 0 (by decide)
    obtain ⟨y0, e0⟩ := some_at (i := 0) hxl (by decide)
    rw [e0] at h0
    rw [CaO.cells3] at h0
    obtain ⟨s0, a0, _, _⟩ := DataW.trod_int Try.underlying3 h0
    have h1 : DataW.trod enc Try.prog w base spare held n 3 (([c0, c1, c2, c3].drop (1 * Try.prog.cellsOf 3)).take (Try.prog.cellsOf 3)) = xs[1]? := hf 1 (by decide)
    obtain ⟨y1, e1⟩ := some_at (i := 1) hxl (by decide)
    rw [e1] at h1
    rw [CaO.cells3] at h1
    obtain ⟨s1, a1, _, _⟩ := DataW.trod_int Try.underlying3 h1
    have h2 : DataW.trod enc Try.prog w base spare held n 3 (([c0, c1, c2, c3].drop (2 * Try.prog.cellsOf 3)).take (Try.prog.cellsOf 3)) = xs[2]? := hf 2 (by decide)
    obtain ⟨y2, e2⟩ := some_at (i := 2) hxl (by decide)
    rw [e2] at h2
    rw [CaO.cells3] at h2
    obtain ⟨s2, a2, _, _⟩ := DataW.trod_int Try.underlying3 h2
    have h3 : DataW.trod enc Try.prog w base spare held n 3 (([c0, c1, c2, c3].drop (3 * Try.prog.cellsOf 3)).take (Try.prog.cellsOf 3)) = xs[3]? := hf 3 (by decide)
    obtain ⟨y3, e3⟩ := some_at (i := 3) hxl (by decide)
    rw [e3] at h3
    rw [CaO.cells3] at h3
    obtain ⟨s3, a3, _, _⟩ := DataW.trod_int Try.underlying3 h3
    simp at a0 a1 a2 a3
    subst a0; subst a1; subst a2; subst a3
    exact ⟨⟨s0, s1, s2, s3⟩, rfl⟩
theorem op_cells (h : DataW.trod enc Try.prog w base spare held fuel 54 cs = some x) : ∃ u : Int × Qn × Int, cs = [.int .u64 u.1, .int .i64 u.2.1.op, .int .i64 u.2.1.a, .int .i64 u.2.1.b, .int .i64 u.2.1.d, .int .i64 u.2.2] := by
  obtain ⟨xs, n, _, _, hl, hxl, hf⟩ := DataW.trod_struct Try.underlying54 h
  rw [cellsO] at hl
  match cs, hl with
  | [c0, c1, c2, c3, c4, c5], _ =>
    have h0 : DataW.trod enc Try.prog w base spare held n 44 (([c0, c1, c2, c3, c4, c5].drop 0).take (Try.prog.cellsOf 44)) = xs[0]? := hf 0 _ rfl
    have h1 : DataW.trod enc Try.prog w base spare held n 52 (([c0, c1, c2, c3, c4, c5].drop 1).take (Try.prog.cellsOf 52)) = xs[1]? := hf 1 _ rfl
    have h2 : DataW.trod enc Try.prog w base spare held n 3 (([c0, c1, c2, c3, c4, c5].drop 5).take (Try.prog.cellsOf 3)) = xs[2]? := hf 2 _ rfl
    obtain ⟨y0, e0⟩ := some_at (i := 0) hxl (by decide)
    obtain ⟨y1, e1⟩ := some_at (i := 1) hxl (by decide)
    obtain ⟨y2, e2⟩ := some_at (i := 2) hxl (by decide)
    rw [e0, CaP.cellsU] at h0
    rw [e1, cellsK] at h1
    rw [e2, CaO.cells3] at h2
    obtain ⟨s0, a0, _, _⟩ := DataW.trod_int Try.underlying44 h0
    obtain ⟨q, a1⟩ := key_cells h1
    obtain ⟨s2, a2, _, _⟩ := DataW.trod_int Try.underlying3 h2
    obtain ⟨k1, k2, k3, k4⟩ := q
    simp [Qn.cells] at a0 a1 a2
    obtain ⟨b1, b2, b3, b4⟩ := a1
    subst a0; subst b1; subst b2; subst b3; subst b4; subst a2
    exact ⟨(s0, ⟨k1, k2, k3, k4⟩, s2), rfl⟩
end
def opCells (u : Int × Qn × Int) : List Value := [.int .u64 u.1, .int .i64 u.2.1.op, .int .i64 u.2.1.a, .int .i64 u.2.1.b, .int .i64 u.2.1.d, .int .i64 u.2.2]
set_option maxRecDepth 1000000 in
theorem open_ops {H : Type} {enc : TypeId × Value → H} {W : World} {base : Nat} {v : Value} {d : DataW H} {p : List MemPlace}
    (hval : Value.okWide Try.prog W .any base 48 v) (h : DataW.Trod enc Try.prog W 0 (fun _ => true) true 48 v d p) :
    ∃ (A : Option Addr) (c : Nat) (L : List (Int × Qn × Int)), v = .slice A L.length c ∧ L.length ≤ c ∧ c ≤ maxLen ∧ OG W A L := by
  obtain ⟨a0, len, cap, rfl⟩ := okWide_slice Try.underlying48 hval
  obtain ⟨fuel, hf⟩ := h
  rcases DataW.trod_slice Try.underlying48 hf with ⟨hcs, hx⟩ | ⟨a, len', cap', elems, rest, n, _, hcs, hx, hb, hl, hm, hlen, hel, _⟩
  · simp [Value.cells] at hcs
    obtain ⟨rfl, rfl, rfl⟩ := hcs
    exact ⟨none, 0, [], rfl, by simp, by simp [maxLen], fun h => by simp at h⟩
  · simp [Value.cells] at hcs
    obtain ⟨rfl, rfl, rfl⟩ := hcs
    have key : ∀ i, i < len → ∃ s : Int × Qn × Int, ∀ k, k < 6 → W.cell? (a.add (i * 6) |>.add k) = (opCells s)[k]? := fun i hi => by
      have q := hel i hi
      rw [cellsO] at q
      have hsome : ∃ y, elems[i]? = some y := some_at hlen hi
      obtain ⟨y, hy⟩ := hsome
      rw [hy, Option.bind_eq_some_iff] at q
      obtain ⟨cs, hc, ht⟩ := q
      obtain ⟨s, rfl⟩ := op_cells ht
      obtain ⟨_, _, hat⟩ := World.cells?_some hc
      exact ⟨s, hat⟩
    obtain ⟨L, hL, hp⟩ := list_of (P := fun i (s : Int × Qn × Int) => ∀ k, k < 6 → W.cell? (a.add (i * 6) |>.add k) = (opCells s)[k]?) len key
    refine ⟨some a, cap, L, by rw [hL], by omega, hm, fun hpos => ?_⟩
    have h1 := hp 0 hpos 0 (by omega)
    obtain ⟨b, off, spot⟩ := a
    have h1' : W.cell? (((⟨b, off, spot⟩ : Addr).add (0 * 6)).add 0) = some (.int .u64 L[0].1) := h1
    have hspot : spot = none := by simpa [Addr.add] using World.cell?_spot h1'
    subst hspot
    have hlt := World.block_lt_of_cell? _ _ h1'
    rw [add_off, add_off] at hlt
    refine ⟨b, off, rfl, hlt, fun j hj => ?_⟩
    have q0 := hp j hj 0 (by omega)
    have q1 := hp j hj 1 (by omega)
    have q2 := hp j hj 2 (by omega)
    have q3 := hp j hj 3 (by omega)
    have q4 := hp j hj 4 (by omega)
    have q5 := hp j hj 5 (by omega)
    rw [add_off, add_off] at q0 q1 q2 q3 q4 q5
    exact ⟨q0, q1, q2, q3, q4, q5⟩
end Go.Proofs.Ytekgegpholcdcaa.CaP
