/- A slice of nodes, and two numbers, that came in. -/
import Derived.Test.YtekgegpholcdcaaCaO
import Derived.Test.YtekgegpholcdcaaNdK
namespace Go.Proofs.Ytekgegpholcdcaa.NdO
open Go.ChangeShapes Go.WideShapes Go.ChangeAt Go.RowKit
open Go.Proofs.Ytekgegpholcdcaa.CaO Go.Proofs.Ytekgegpholcdcaa.NdA Go.Proofs.Ytekgegpholcdcaa.NdK
set_option maxRecDepth 1000000
set_option linter.unusedVariables false
theorem wf_in {n : Int} (h : (Lit.int .i64 n).wf = true) : -9223372036854775808 ≤ n ∧ n ≤ 9223372036854775807 := by
  simp only [Lit.wf, Bool.and_eq_true, decide_eq_true_eq] at h
  have e1 : IntKind.i64.min = -9223372036854775808 := by decide
  have e2 : IntKind.i64.max = 9223372036854775807 := by decide
  rw [e1, e2] at h
  exact h
theorem wf_un {n : Int} (h : (Lit.int .u64 n).wf = true) : 0 ≤ n ∧ n < 18446744073709551616 := by
  simp only [Lit.wf, Bool.and_eq_true, decide_eq_true_eq] at h
  have e1 : IntKind.u64.min = 0 := by decide
  have e2 : IntKind.u64.max = 18446744073709551615 := by decide
  rw [e1, e2] at h
  omega
theorem int_in {k : IntKind} {v : Value} {H : Type} {enc : TypeId × Value → H} {W : World} {t : TypeId} {d : DataW H} {p : List MemPlace} (ht : Try.prog.underlying t = some (.int k)) (h : DataW.Trod enc Try.prog W 0 (fun _ => true) true t v d p) : ∃ n, v.cells.toList = [.int k n] ∧ (Lit.int k n).wf = true := by
  obtain ⟨fuel, hf⟩ := h
  obtain ⟨n, h1, _, h3⟩ := DataW.trod_int ht hf
  exact ⟨n, h1, h3⟩
theorem cellsN : Try.prog.cellsOf 28 = 3 := by kernel_rfl
theorem cellsT : Try.prog.cellsOf 46 = 2 := by kernel_rfl
theorem cellsU : Try.prog.cellsOf 44 = 1 := by kernel_rfl
section
variable {H : Type} {enc : TypeId × Value → H} {w : World} {base : Nat} {spare : Nat → Bool} {held : Bool} {fuel : Nat} {cs : List Value} {x : DataW H × List MemPlace}
theorem node_cells (h : DataW.trod enc Try.prog w base spare held fuel 28 cs = some x) : ∃ u : Nd, cs = [.int .i64 u.v, .int .i64 u.lo, .int .i64 u.hi] ∧ (-9223372036854775808 ≤ u.lo ∧ u.lo ≤ 9223372036854775807) ∧ -9223372036854775808 ≤ u.hi ∧ u.hi ≤ 9223372036854775807 := by
  obtain ⟨xs, n, _, _, hl, hxl, hf⟩ := DataW.trod_struct Try.underlying28 h
  rw [cellsN] at hl
  match cs, hl with
  | [c0, c1, c2], _ =>
    have h0 : DataW.trod enc Try.prog w base spare held n 3 (([c0, c1, c2].drop 0).take (Try.prog.cellsOf 3)) = xs[0]? := hf 0 _ rfl
    obtain ⟨y0, e0⟩ := some_at (i := 0) hxl (by decide)
    rw [e0, CaO.cells3] at h0
    obtain ⟨s0, a0, _, w0⟩ := DataW.trod_int Try.underlying3 h0
    have h1 : DataW.trod enc Try.prog w base spare held n 3 (([c0, c1, c2].drop 1).take (Try.prog.cellsOf 3)) = xs[1]? := hf 1 _ rfl
    obtain ⟨y1, e1⟩ := some_at (i := 1) hxl (by decide)
    rw [e1, CaO.cells3] at h1
    obtain ⟨s1, a1, _, w1⟩ := DataW.trod_int Try.underlying3 h1
    have h2 : DataW.trod enc Try.prog w base spare held n 3 (([c0, c1, c2].drop 2).take (Try.prog.cellsOf 3)) = xs[2]? := hf 2 _ rfl
    obtain ⟨y2, e2⟩ := some_at (i := 2) hxl (by decide)
    rw [e2, CaO.cells3] at h2
    obtain ⟨s2, a2, _, w2⟩ := DataW.trod_int Try.underlying3 h2
    simp at a0 a1 a2
    subst a0; subst a1; subst a2
    exact ⟨⟨s0, s1, s2⟩, rfl, wf_in w1, wf_in w2⟩
theorem two_cells (h : DataW.trod enc Try.prog w base spare held fuel 46 cs = some x) : ∃ r : Int × Int, cs = [.int .u64 r.1, .int .u64 r.2] ∧ 0 ≤ r.1 ∧ 0 ≤ r.2 := by
  obtain ⟨xs, n, _, _, hl, hxl, hf⟩ := DataW.trod_array Try.underlying46 h
  rw [cellsT] at hl
  match cs, hl with
  | [c0, c1], _ =>
    have h0 : DataW.trod enc Try.prog w base spare held n 44 (([c0, c1].drop (0 * Try.prog.cellsOf 44)).take (Try.prog.cellsOf 44)) = xs[0]? := hf 0 (by decide)
    obtain ⟨y0, e0⟩ := some_at (i := 0) hxl (by decide)
    rw [e0] at h0
    rw [cellsU] at h0
    obtain ⟨s0, a0, _, w0⟩ := DataW.trod_int Try.underlying44 h0
    have h1 : DataW.trod enc Try.prog w base spare held n 44 (([c0, c1].drop (1 * Try.prog.cellsOf 44)).take (Try.prog.cellsOf 44)) = xs[1]? := hf 1 (by decide)
    obtain ⟨y1, e1⟩ := some_at (i := 1) hxl (by decide)
    rw [e1] at h1
    rw [cellsU] at h1
    obtain ⟨s1, a1, _, w1⟩ := DataW.trod_int Try.underlying44 h1
    simp at a0 a1
    subst a0; subst a1
    exact ⟨(s0, s1), rfl, (wf_un w0).1, (wf_un w1).1⟩
end
theorem agg_two {v : Value} {a b : Value} (h : v.cells.toList = [a, b]) : v = .agg #[a, b] := by
  cases v with
  | agg cs =>
    simp only [Value.cells] at h
    congr 1
    apply Array.ext'
    simpa using h
  | _ => simp [Value.cells] at h
theorem open_two {H : Type} {enc : TypeId × Value → H} {W : World} {v : Value} {d : DataW H} {p : List MemPlace}
    (h : DataW.Trod enc Try.prog W 0 (fun _ => true) true 46 v d p) : ∃ a b : Int, v = .agg #[.int .u64 a, .int .u64 b] ∧ 0 ≤ a ∧ 0 ≤ b := by
  obtain ⟨fuel, hf⟩ := h
  obtain ⟨r, hr, h1, h2⟩ := two_cells hf
  exact ⟨r.1, r.2, agg_two hr, h1, h2⟩
def ndCells (u : Nd) : List Value := [.int .i64 u.v, .int .i64 u.lo, .int .i64 u.hi]
set_option maxRecDepth 1000000 in
theorem open_nodes {H : Type} {enc : TypeId × Value → H} {W : World} {base : Nat} {v : Value} {d : DataW H} {p : List MemPlace}
    (hval : Value.okWide Try.prog W .any base 22 v) (h : DataW.Trod enc Try.prog W 0 (fun _ => true) true 22 v d p) :
    ∃ (A : Option Addr) (c : Nat) (L : List Nd), v = .slice A L.length c ∧ L.length ≤ c ∧ c ≤ maxLen ∧ NG W A L ∧ InN L := by
  obtain ⟨a0, len, cap, rfl⟩ := okWide_slice Try.underlying22 hval
  obtain ⟨fuel, hf⟩ := h
  rcases DataW.trod_slice Try.underlying22 hf with ⟨hcs, hx⟩ | ⟨a, len', cap', elems, rest, n, _, hcs, hx, hb, hl, hm, hlen, hel, _⟩
  · simp [Value.cells] at hcs
    obtain ⟨rfl, rfl, rfl⟩ := hcs
    exact ⟨none, 0, [], rfl, by simp, by simp [maxLen], fun h => by simp at h, fun x h => by cases h⟩
  · simp [Value.cells] at hcs
    obtain ⟨rfl, rfl, rfl⟩ := hcs
    have key : ∀ i, i < len → ∃ s : Nd, (∀ k, k < 3 → W.cell? (a.add (i * 3) |>.add k) = (ndCells s)[k]?) ∧ (-9223372036854775808 ≤ s.lo ∧ s.lo ≤ 9223372036854775807) ∧ -9223372036854775808 ≤ s.hi ∧ s.hi ≤ 9223372036854775807 := fun i hi => by
      have q := hel i hi
      rw [cellsN] at q
      have hsome : ∃ y, elems[i]? = some y := some_at hlen hi
      obtain ⟨y, hy⟩ := hsome
      rw [hy, Option.bind_eq_some_iff] at q
      obtain ⟨cs, hc, ht⟩ := q
      obtain ⟨s, rfl, hr⟩ := node_cells ht
      obtain ⟨_, _, hat⟩ := World.cells?_some hc
      exact ⟨s, hat, hr⟩
    obtain ⟨L, hL, hp⟩ := list_of (P := fun i (s : Nd) => (∀ k, k < 3 → W.cell? (a.add (i * 3) |>.add k) = (ndCells s)[k]?) ∧ (-9223372036854775808 ≤ s.lo ∧ s.lo ≤ 9223372036854775807) ∧ -9223372036854775808 ≤ s.hi ∧ s.hi ≤ 9223372036854775807) len key
    refine ⟨some a, cap, L, by rw [hL], by omega, hm, fun hpos => ?_, fun y hy => ?_⟩
    · have h1 := (hp 0 hpos).1 0 (by omega)
      obtain ⟨b, off, spot⟩ := a
      have h1' : W.cell? (((⟨b, off, spot⟩ : Addr).add (0 * 3)).add 0) = some (.int .i64 L[0].v) := h1
      have hspot : spot = none := by simpa [Addr.add] using World.cell?_spot h1'
      subst hspot
      have hlt := World.block_lt_of_cell? _ _ h1'
      rw [add_off, add_off] at hlt
      refine ⟨b, off, rfl, hlt, fun j hj => ?_⟩
      have q0 := (hp j hj).1 0 (by omega)
      have q1 := (hp j hj).1 1 (by omega)
      have q2 := (hp j hj).1 2 (by omega)
      rw [add_off, add_off] at q0 q1 q2
      exact ⟨q0, q1, q2⟩
    · obtain ⟨j, hj, rfl⟩ := List.getElem_of_mem hy
      exact (hp j hj).2
end Go.Proofs.Ytekgegpholcdcaa.NdO
