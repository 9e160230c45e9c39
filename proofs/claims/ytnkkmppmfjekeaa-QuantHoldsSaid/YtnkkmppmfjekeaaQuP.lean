/- Two numbers that came in. -/
import Derived.Test.YtnkkmppmfjekeaaItO
namespace Go.Proofs.Ytnkkmppmfjekeaa.QuP
open Go.ChangeShapes Go.WideShapes Go.ChangeAt Go.RowKit
open Go.Proofs.Ytnkkmppmfjekeaa.ItO
set_option maxRecDepth 1000000
set_option linter.unusedVariables false
theorem wf_in {n : Int} (h : (Lit.int .i64 n).wf = true) : -9223372036854775808 ≤ n ∧ n ≤ 9223372036854775807 := by
  simp only [Lit.wf, Bool.and_eq_true, decide_eq_true_eq] at h
  have e1 : IntKind.i64.min = -9223372036854775808 := by decide
  have e2 : IntKind.i64.max = 9223372036854775807 := by decide
  rw [e1, e2] at h
  omega
theorem cellsT : Try.prog.cellsOf 46 = 2 := by kernel_rfl
theorem cellsI : Try.prog.cellsOf 3 = 1 := by kernel_rfl
section
variable {H : Type} {enc : TypeId × Value → H} {w : World} {base : Nat} {spare : Nat → Bool} {held : Bool} {fuel : Nat} {cs : List Value} {x : DataW H × List MemPlace}
theorem two_cells (h : DataW.trod enc Try.prog w base spare held fuel 46 cs = some x) : ∃ r : Int × Int, cs = [.int .i64 r.1, .int .i64 r.2] ∧ (-9223372036854775808 ≤ r.1 ∧ r.1 ≤ 9223372036854775807) ∧ -9223372036854775808 ≤ r.2 ∧ r.2 ≤ 9223372036854775807 := by
  obtain ⟨xs, n, _, _, hl, hxl, hf⟩ := DataW.trod_array Try.underlying46 h
  rw [cellsT] at hl
  match cs, hl with
  | [c0, c1], _ =>
    have h0 : DataW.trod enc Try.prog w base spare held n 3 (([c0, c1].drop (0 * Try.prog.cellsOf 3)).take (Try.prog.cellsOf 3)) = xs[0]? := hf 0 (by decide)
    obtain ⟨y0, e0⟩ := some_at (i := 0) hxl (by decide)
    rw [e0] at h0
    rw [cellsI] at h0
    obtain ⟨s0, a0, _, w0⟩ := DataW.trod_int Try.underlying3 h0
    have h1 : DataW.trod enc Try.prog w base spare held n 3 (([c0, c1].drop (1 * Try.prog.cellsOf 3)).take (Try.prog.cellsOf 3)) = xs[1]? := hf 1 (by decide)
    obtain ⟨y1, e1⟩ := some_at (i := 1) hxl (by decide)
    rw [e1] at h1
    rw [cellsI] at h1
    obtain ⟨s1, a1, _, w1⟩ := DataW.trod_int Try.underlying3 h1
    simp at a0 a1
    subst a0; subst a1
    exact ⟨(s0, s1), rfl, wf_in w0, wf_in w1⟩
end
theorem agg_two {v : Value} {a b : Value} (h : v.cells.toList = [a, b]) : v = .agg #[a, b] := by
  cases v with
  | agg cs =>
    simp only [Value.cells] at h
    congr 1
    apply Array.ext'
    simpa using h
  | _ => simp [Value.cells] at h
theorem open_two {H : Type} {enc : TypeId × Value → H} {W : World} {v : Value} {d : DataW H} {p : List MemPlace}
    (h : DataW.Trod enc Try.prog W 0 (fun _ => true) true 46 v d p) : ∃ a b : Int, v = .agg #[.int .i64 a, .int .i64 b] ∧ (-9223372036854775808 ≤ a ∧ a ≤ 9223372036854775807) ∧ -9223372036854775808 ≤ b ∧ b ≤ 9223372036854775807 := by
  obtain ⟨fuel, hf⟩ := h
  obtain ⟨r, hr, h1, h2⟩ := two_cells hf
  exact ⟨r.1, r.2, agg_two hr, h1, h2⟩
theorem int_in {v : Value} {H : Type} {enc : TypeId × Value → H} {W : World} {base : Nat} {d : DataW H} {p : List MemPlace} (hval : Value.okWide Try.prog W .any base 3 v) (h : DataW.Trod enc Try.prog W 0 (fun _ => true) true 3 v d p) : ∃ n : Int, v = .int .i64 n ∧ -9223372036854775808 ≤ n ∧ n ≤ 9223372036854775807 := by
  obtain ⟨m, rfl⟩ := okWide_int Try.underlying3 hval
  obtain ⟨fuel, hf⟩ := h
  obtain ⟨n, h1, _, h3⟩ := DataW.trod_int Try.underlying3 hf
  have hr := wf_in h3
  have e : m = n := by simpa [Value.cells] using h1
  subst e
  exact ⟨m, rfl, hr⟩
end Go.Proofs.Ytnkkmppmfjekeaa.QuP
