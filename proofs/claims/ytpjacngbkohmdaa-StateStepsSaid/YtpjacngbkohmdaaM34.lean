/- What an argument that is two rows of statements reads as. -/
import Derived.Test.YtpjacngbkohmdaaM26
namespace Go.Proofs.Ytpjacngbkohmdaa.StO2
set_option linter.unusedVariables false
set_option linter.unusedSimpArgs false
open Go.ChangeShapes Go.WideShapes Go.ChangeAt Go.RowKit
open Go.Proofs.Ytpjacngbkohmdaa.SynP Go.Proofs.Ytpjacngbkohmdaa.PolE Go.Proofs.Ytpjacngbkohmdaa.PolOp
set_option linter.unusedVariables false
set_option maxRecDepth 1000000
theorem cellsT : Try.prog.cellsOf 47 = 2 := by kernel_rfl
theorem cells1 : Try.prog.cellsOf 22 = 1 := by kernel_rfl
theorem some_at {α : Type} {xs : List α} {n i : Nat} (h : xs.length = n) (hi : i < n) : ∃ y, xs[i]? = some y := ⟨xs[i]'(by omega), List.getElem?_eq_getElem _⟩
theorem agg_two {v : Value} {a b : Value} (h : v.cells.toList = [a, b]) : v = .agg #[a, b] ∨ False := by
  cases v with
  | agg cs =>
    simp only [Value.cells] at h
    left
    congr 1
    apply Array.ext'
    simpa using h
  | _ => simp [Value.cells] at h
theorem open_two {H : Type} {enc : TypeId × Value → H} {W : World} {base : Nat} {v : Value} {d : DataW H} {p : List MemPlace}
    (hval : Value.okWide Try.prog W .any base 47 v) (h : DataW.Trod enc Try.prog W 0 (fun _ => true) true 47 v d p) :
    ∃ (A : Option Addr) (c : Nat) (L : List St) (A2 : Option Addr) (c2 : Nat) (M : List St), v = .agg #[.slice A L.length c, .slice A2 M.length c2] ∧ L.length ≤ maxLen ∧ (∀ s ∈ L, s.fit) ∧ SG W A L ∧ M.length ≤ maxLen ∧ (∀ s ∈ M, s.fit) ∧ SG W A2 M := by
  obtain ⟨fuel, hfl⟩ := h
  obtain ⟨xs, n, _, _, hl, hxl, hf⟩ := DataW.trod_array Try.underlying47 hfl
  rw [cellsT] at hl
  generalize hcs : v.cells.toList = cs at *
  match cs, hl with
  | [e0, e1], _ =>
    have h0 : DataW.trod enc Try.prog W 0 (fun _ => true) true n 22 (([e0, e1].drop (0 * Try.prog.cellsOf 22)).take (Try.prog.cellsOf 22)) = xs[0]? := hf 0 (by decide)
    have h1 : DataW.trod enc Try.prog W 0 (fun _ => true) true n 22 (([e0, e1].drop (1 * Try.prog.cellsOf 22)).take (Try.prog.cellsOf 22)) = xs[1]? := hf 1 (by decide)
    obtain ⟨y0, x0⟩ := some_at (i := 0) hxl (by decide)
    obtain ⟨y1, x1⟩ := some_at (i := 1) hxl (by decide)
    rw [x0, cells1] at h0
    rw [x1, cells1] at h1
    obtain ⟨A, c, L, q0, hL, hf0, hS⟩ := stmts_cell (c0 := e0) h0
    obtain ⟨A2, c2, M, q1, hM, hf1, hT⟩ := stmts_cell (c0 := e1) h1
    rcases agg_two hcs with hv | hv
    · exact ⟨A, c, L, A2, c2, M, by rw [hv, q0, q1], hL, hf0, hS, hM, hf1, hT⟩
    · exact hv.elim
end Go.Proofs.Ytpjacngbkohmdaa.StO2
