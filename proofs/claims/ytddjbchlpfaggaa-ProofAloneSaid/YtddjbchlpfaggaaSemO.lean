/- What arguments that are two numbers, or a row of rules, or a rule, read as. -/
import Derived.Test.YtddjbchlpfaggaaSetO
import Derived.Test.YtddjbchlpfaggaaRuA
namespace Go.Proofs.Ytddjbchlpfaggaa.SemO
open Go.ChangeShapes Go.WideShapes Go.ChangeAt Go.RowKit
open Go.Proofs.Ytddjbchlpfaggaa.SetO Go.Proofs.Ytddjbchlpfaggaa.TblC Go.Proofs.Ytddjbchlpfaggaa.TblV
set_option maxRecDepth 1000000
set_option linter.unusedVariables false
theorem cells3 : Try.prog.cellsOf 3 = 1 := by kernel_rfl
theorem cellsU : Try.prog.cellsOf 44 = 6 := by kernel_rfl
section
variable {H : Type} {enc : TypeId × Value → H} {w : World} {base : Nat} {spare : Nat → Bool} {held : Bool} {fuel : Nat} {cs : List Value} {x : DataW H × List MemPlace}
theorem rule_cells (h : DataW.trod enc Try.prog w base spare held fuel 44 cs = some x) : ∃ u : Ru, cs = u.cells.toList := by
  obtain ⟨xs, n, _, _, hl, hxl, hf⟩ := DataW.trod_struct Try.underlying44 h
  rw [cellsU] at hl
  match cs, hl with
  | [c0, c1, c2, c3, c4, c5], _ =>
    have h0 : DataW.trod enc Try.prog w base spare held n 3 (([c0, c1, c2, c3, c4, c5].drop 0).take (Try.prog.cellsOf 3)) = xs[0]? := hf 0 _ rfl
    have h1 : DataW.trod enc Try.prog w base spare held n 3 (([c0, c1, c2, c3, c4, c5].drop 1).take (Try.prog.cellsOf 3)) = xs[1]? := hf 1 _ rfl
    have h2 : DataW.trod enc Try.prog w base spare held n 3 (([c0, c1, c2, c3, c4, c5].drop 2).take (Try.prog.cellsOf 3)) = xs[2]? := hf 2 _ rfl
    have h3 : DataW.trod enc Try.prog w base spare held n 3 (([c0, c1, c2, c3, c4, c5].drop 3).take (Try.prog.cellsOf 3)) = xs[3]? := hf 3 _ rfl
    have h4 : DataW.trod enc Try.prog w base spare held n 3 (([c0, c1, c2, c3, c4, c5].drop 4).take (Try.prog.cellsOf 3)) = xs[4]? := hf 4 _ rfl
    have h5 : DataW.trod enc Try.prog w base spare held n 3 (([c0, c1, c2, c3, c4, c5].drop 5).take (Try.prog.cellsOf 3)) = xs[5]? := hf 5 _ rfl
    obtain ⟨y0, e0⟩ := some_at (i := 0) hxl (by decide)
    obtain ⟨y1, e1⟩ := some_at (i := 1) hxl (by decide)
    obtain ⟨y2, e2⟩ := some_at (i := 2) hxl (by decide)
    obtain ⟨y3, e3⟩ := some_at (i := 3) hxl (by decide)
    obtain ⟨y4, e4⟩ := some_at (i := 4) hxl (by decide)
    obtain ⟨y5, e5⟩ := some_at (i := 5) hxl (by decide)
    rw [e0, SemO.cells3] at h0
    rw [e1, SemO.cells3] at h1
    rw [e2, SemO.cells3] at h2
    rw [e3, SemO.cells3] at h3
    rw [e4, SemO.cells3] at h4
    rw [e5, SemO.cells3] at h5
    obtain ⟨s0, a0, _, _⟩ := DataW.trod_int Try.underlying3 h0
    obtain ⟨s1, a1, _, _⟩ := DataW.trod_int Try.underlying3 h1
    obtain ⟨s2, a2, _, _⟩ := DataW.trod_int Try.underlying3 h2
    obtain ⟨s3, a3, _, _⟩ := DataW.trod_int Try.underlying3 h3
    obtain ⟨s4, a4, _, _⟩ := DataW.trod_int Try.underlying3 h4
    obtain ⟨s5, a5, _, _⟩ := DataW.trod_int Try.underlying3 h5
    simp at a0 a1 a2 a3 a4 a5
    subst a0; subst a1; subst a2; subst a3; subst a4; subst a5
    exact ⟨⟨s0, s1, s2, s3, s4, s5⟩, rfl⟩
end
theorem agg_two {v : Value} {a b : Value} (h : v.cells.toList = [a, b]) : v = .agg #[a, b] := by
  cases v with
  | agg cs =>
    simp only [Value.cells] at h
    congr 1
    apply Array.ext'
    simpa using h
  | _ => simp [Value.cells] at h
set_option maxRecDepth 1000000 in
theorem open_dims {H : Type} {enc : TypeId × Value → H} {W : World} {v : Value} {d : DataW H} {p : List MemPlace}
    (h : DataW.Trod enc Try.prog W 0 (fun _ => true) true 22 v d p) : ∃ a b : Int, v = .agg #[.int .i64 a, .int .i64 b] := by
  obtain ⟨fuel, hf⟩ := h
  obtain ⟨r, hr⟩ := pair_cells hf
  exact ⟨r.1, r.2, agg_two hr⟩
set_option maxRecDepth 1000000 in
theorem open_rule {H : Type} {enc : TypeId × Value → H} {W : World} {base : Nat} {v : Value} {d : DataW H} {p : List MemPlace}
    (hval : Value.okWide Try.prog W .any base 44 v) (h : DataW.Trod enc Try.prog W 0 (fun _ => true) true 44 v d p) : ∃ u : Ru, v = u.val := by
  obtain ⟨cs, rfl, hsz⟩ := okWide_struct Try.underlying44 hval
  obtain ⟨fuel, hf⟩ := h
  obtain ⟨u, hu⟩ := rule_cells hf
  refine ⟨u, ?_⟩
  simp only [Value.cells] at hu
  unfold Ru.val
  congr 1
  apply Array.ext'
  rw [hu]
  rfl
set_option maxRecDepth 1000000 in
theorem open_rules {H : Type} {enc : TypeId × Value → H} {W : World} {base : Nat} {v : Value} {d : DataW H} {p : List MemPlace}
    (hval : Value.okWide Try.prog W .any base 23 v) (h : DataW.Trod enc Try.prog W 0 (fun _ => true) true 23 v d p) :
    ∃ (A : Option Addr) (c : Nat) (L : List Ru), v = .slice A L.length c ∧ L.length ≤ c ∧ c ≤ maxLen ∧ UG W A L := by
  obtain ⟨a0, len, cap, rfl⟩ := okWide_slice Try.underlying23 hval
  obtain ⟨fuel, hf⟩ := h
  rcases DataW.trod_slice Try.underlying23 hf with ⟨hcs, hx⟩ | ⟨a, len', cap', elems, rest, n, _, hcs, hx, hb, hl, hm, hlen, hel, _⟩
  · simp [Value.cells] at hcs
    obtain ⟨rfl, rfl, rfl⟩ := hcs
    exact ⟨none, 0, [], rfl, by simp, by simp [maxLen], fun h => by simp at h⟩
  · simp [Value.cells] at hcs
    obtain ⟨rfl, rfl, rfl⟩ := hcs
    have key : ∀ i, i < len → ∃ s : Ru, ∀ k, k < 6 → W.cell? (a.add (i * 6) |>.add k) = (s.cells.toList)[k]? := fun i hi => by
      have q := hel i hi
      rw [cellsU] at q
      have hsome : ∃ y, elems[i]? = some y := some_at hlen hi
      obtain ⟨y, hy⟩ := hsome
      rw [hy, Option.bind_eq_some_iff] at q
      obtain ⟨cs, hc, ht⟩ := q
      obtain ⟨s, rfl⟩ := rule_cells ht
      obtain ⟨_, _, hat⟩ := World.cells?_some hc
      exact ⟨s, hat⟩
    obtain ⟨L, hL, hp⟩ := list_of (P := fun i (s : Ru) => ∀ k, k < 6 → W.cell? (a.add (i * 6) |>.add k) = (s.cells.toList)[k]?) len key
    refine ⟨some a, cap, L, by rw [hL], by omega, hm, fun hpos => ?_⟩
    have h1 := hp 0 hpos 0 (by omega)
    obtain ⟨b, off, spot⟩ := a
    have h1' : W.cell? (((⟨b, off, spot⟩ : Addr).add (0 * 6)).add 0) = some (.int .i64 L[0].kind) := h1
    have hspot : spot = none := by simpa [Addr.add] using World.cell?_spot h1'
    subst hspot
    have hlt := World.block_lt_of_cell? _ _ h1'
    rw [add_off, add_off] at hlt
    refine ⟨b, off, rfl, hlt, fun j hj k hk => ?_⟩
    have q0 := hp j hj k hk
    rw [add_off, add_off] at q0
    rw [q0]
    simp
end Go.Proofs.Ytddjbchlpfaggaa.SemO
