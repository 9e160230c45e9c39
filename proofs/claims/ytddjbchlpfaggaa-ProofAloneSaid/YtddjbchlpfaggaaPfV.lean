/- An argument of two numbers, and that each is an int. -/
import Derived.Test.YtddjbchlpfaggaaSemO
import Derived.Test.YtddjbchlpfaggaaPfC
namespace Go.Proofs.Ytddjbchlpfaggaa.PfV
open Go.ChangeShapes Go.WideShapes Go.ChangeAt Go.RowKit
open Go.Proofs.Ytddjbchlpfaggaa.SetO Go.Proofs.Ytddjbchlpfaggaa.SemO Go.Proofs.Ytddjbchlpfaggaa.PfC
set_option maxRecDepth 1000000
set_option linter.unusedVariables false
theorem wf_in {n : Int} (h : (Lit.int .i64 n).wf = true) : -9223372036854775808 ≤ n ∧ n ≤ 9223372036854775807 := by
  simp only [Lit.wf, Bool.and_eq_true, decide_eq_true_eq] at h
  have e1 : IntKind.i64.min = -9223372036854775808 := by decide
  have e2 : IntKind.i64.max = 9223372036854775807 := by decide
  rw [e1, e2] at h
  exact h
section
variable {H : Type} {enc : TypeId × Value → H} {w : World} {base : Nat} {spare : Nat → Bool} {held : Bool} {fuel : Nat} {cs : List Value} {x : DataW H × List MemPlace}
theorem pair_in (h : DataW.trod enc Try.prog w base spare held fuel 22 cs = some x) : ∃ r : Int × Int, cs = [.int .i64 r.1, .int .i64 r.2] ∧ InR r := by
  obtain ⟨xs, n, _, _, hl, hxl, hf⟩ := DataW.trod_array Try.underlying22 h
  rw [cellsP] at hl
  match cs, hl with
  | [c0, c1], _ =>
    have h0 : DataW.trod enc Try.prog w base spare held n 3 (([c0, c1].drop (0 * Try.prog.cellsOf 3)).take (Try.prog.cellsOf 3)) = xs[0]? := hf 0 (by decide)
    have h1 : DataW.trod enc Try.prog w base spare held n 3 (([c0, c1].drop (1 * Try.prog.cellsOf 3)).take (Try.prog.cellsOf 3)) = xs[1]? := hf 1 (by decide)
    obtain ⟨y0, e0⟩ := some_at (i := 0) hxl (by decide)
    obtain ⟨y1, e1⟩ := some_at (i := 1) hxl (by decide)
    rw [e0] at h0
    rw [e1] at h1
    rw [SetO.cells3] at h0 h1
    obtain ⟨s0, a0, _, w0⟩ := DataW.trod_int Try.underlying3 h0
    obtain ⟨s1, a1, _, w1⟩ := DataW.trod_int Try.underlying3 h1
    simp at a0 a1
    subst a0; subst a1
    exact ⟨(s0, s1), rfl, wf_in w0, wf_in w1⟩
end
theorem open_two {H : Type} {enc : TypeId × Value → H} {W : World} {v : Value} {d : DataW H} {p : List MemPlace}
    (h : DataW.Trod enc Try.prog W 0 (fun _ => true) true 22 v d p) : ∃ a b : Int, v = .agg #[.int .i64 a, .int .i64 b] ∧ InR (a, b) := by
  obtain ⟨fuel, hf⟩ := h
  obtain ⟨r, hr, hi⟩ := pair_in hf
  exact ⟨r.1, r.2, agg_two hr, hi⟩
end Go.Proofs.Ytddjbchlpfaggaa.PfV
