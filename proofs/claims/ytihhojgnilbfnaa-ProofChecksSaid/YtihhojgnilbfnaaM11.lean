/- A slice of pairs of numbers that came in reads as a list of them. -/
import Derived.Test.YtihhojgnilbfnaaM01
import Derived.SliceStrings
import Derived.Deep.DeepHandedRow
import Derived.ProofKit
import Derived.OpenShut
import Derived.ShutString
import Derived.ChangeOld
import Derived.Below
import Derived.Carry
import Derived.Test.YtihhojgnilbfnaaM02
import Derived.Test.YtihhojgnilbfnaaM04
import Derived.Test.YtihhojgnilbfnaaM07
import Derived.Test.YtihhojgnilbfnaaM06
import Derived.Test.YtihhojgnilbfnaaM10
import Derived.Lib.MinMax
namespace Go.Proofs.Ytihhojgnilbfnaa.SetO
set_option linter.unusedVariables false
set_option linter.unusedSimpArgs false
open Go.ChangeShapes Go.WideShapes Go.ChangeAt Go.RowKit
open Go.Proofs.Ytihhojgnilbfnaa.SetF
set_option maxRecDepth 100000
set_option linter.unusedVariables false
theorem list_of {α : Type} {P : Nat → α → Prop} : ∀ n, (∀ i, i < n → ∃ x, P i x) → ∃ L : List α, L.length = n ∧ ∀ i, (h : i < L.length) → P i L[i]
  | 0, _ => ⟨[], rfl, fun i h => absurd h (Nat.not_lt_zero i)⟩
  | n + 1, H => by
    obtain ⟨L, hl, hp⟩ := list_of n fun i hi => H i (by omega)
    obtain ⟨x, hx⟩ := H n (by omega)
    refine ⟨L ++ [x], by simp [hl], fun i h => ?_⟩
    by_cases hi : i < L.length
    · rw [List.getElem_append_left hi]; exact hp i hi
    · have : i = n := by simp at h; omega
      subst this
      rw [List.getElem_append_right (by omega)]
      simpa [hl] using hx
theorem add_off (b off j : Nat) : ((⟨b, off, none⟩ : Addr).add j) = ⟨b, off + j, none⟩ := by
  unfold Addr.add
  split
  · rename_i h; subst h; rfl
  · simp
theorem cells3 : Try.prog.cellsOf 3 = 1 := by kernel_rfl
theorem cellsP : Try.prog.cellsOf 22 = 2 := by kernel_rfl
section
variable {H : Type} {enc : TypeId × Value → H} {w : World} {base : Nat} {spare : Nat → Bool} {held : Bool} {fuel : Nat} {cs : List Value} {x : DataW H × List MemPlace}
theorem some_at {α : Type} {xs : List α} {n i : Nat} (h : xs.length = n) (hi : i < n) : ∃ y, xs[i]? = some y := ⟨xs[i]'(by omega), List.getElem?_eq_getElem _⟩
theorem pair_cells (h : DataW.trod enc Try.prog w base spare held fuel 22 cs = some x) : ∃ r : Int × Int, cs = [.int .i64 r.1, .int .i64 r.2] := by
  obtain ⟨xs, n, _, _, hl, hxl, hf⟩ := DataW.trod_array Try.underlying22 h
  rw [cellsP] at hl
  match cs, hl with
  | [c0, c1], _ =>
    have h0 : DataW.trod enc Try.prog w base spare held n 3 (([c0, c1].drop (0 * Try.prog.cellsOf 3)).take (Try.prog.cellsOf 3)) = xs[0]? := hf 0 (by decide)
    have h1 : DataW.trod enc Try.prog w base spare held n 3 (([c0, c1].drop (1 * Try.prog.cellsOf 3)).take (Try.prog.cellsOf 3)) = xs[1]? := hf 1 (by decide)
    obtain ⟨y0, e0⟩ := some_at (i := 0) hxl (by decide)
    obtain ⟨y1, e1⟩ := some_at (i := 1) hxl (by decide)
    rw [e0] at h0
    rw [e1] at h1
    rw [cells3] at h0 h1
    obtain ⟨s0, a0, _, _⟩ := DataW.trod_int Try.underlying3 h0
    obtain ⟨s1, a1, _, _⟩ := DataW.trod_int Try.underlying3 h1
    simp at a0 a1
    subst a0; subst a1
    exact ⟨(s0, s1), rfl⟩
end
end Go.Proofs.Ytihhojgnilbfnaa.SetO
/- What arguments that are two numbers, or a row of rules, or a rule, read as. -/
namespace Go.Proofs.Ytihhojgnilbfnaa.SemO
set_option linter.unusedVariables false
set_option linter.unusedSimpArgs false
open Go.ChangeShapes Go.WideShapes Go.ChangeAt Go.RowKit
open Go.Proofs.Ytihhojgnilbfnaa.SetO Go.Proofs.Ytihhojgnilbfnaa.TblC Go.Proofs.Ytihhojgnilbfnaa.TblV
set_option maxRecDepth 1000000
set_option linter.unusedVariables false
theorem cells3 : Try.prog.cellsOf 3 = 1 := by kernel_rfl
theorem cellsU : Try.prog.cellsOf 44 = 6 := by kernel_rfl
section
variable {H : Type} {enc : TypeId × Value → H} {w : World} {base : Nat} {spare : Nat → Bool} {held : Bool} {fuel : Nat} {cs : List Value} {x : DataW H × List MemPlace}
theorem rule_cells (h : DataW.trod enc Try.prog w base spare held fuel 44 cs = some x) : ∃ u : Ru, cs = u.cells.toList := by
  obtain ⟨xs, n, _, _, hl, hxl, hf⟩ := DataW.trod_struct Try.underlying44 h
  rw [cellsU] at hl
  match cs, hl with
  | [c0, c1, c2, c3, c4, c5], _ =>
    have h0 : DataW.trod enc Try.prog w base spare held n 3 (([c0, c1, c2, c3, c4, c5].drop 0).take (Try.prog.cellsOf 3)) = xs[0]? := hf 0 _ rfl
    have h1 : DataW.trod enc Try.prog w base spare held n 3 (([c0, c1, c2, c3, c4, c5].drop 1).take (Try.prog.cellsOf 3)) = xs[1]? := hf 1 _ rfl
    have h2 : DataW.trod enc Try.prog w base spare held n 3 (([c0, c1, c2, c3, c4, c5].drop 2).take (Try.prog.cellsOf 3)) = xs[2]? := hf 2 _ rfl
    have h3 : DataW.trod enc Try.prog w base spare held n 3 (([c0, c1, c2, c3, c4, c5].drop 3).take (Try.prog.cellsOf 3)) = xs[3]? := hf 3 _ rfl
    have h4 : DataW.trod enc Try.prog w base spare held n 3 (([c0, c1, c2, c3, c4, c5].drop 4).take (Try.prog.cellsOf 3)) = xs[4]? := hf 4 _ rfl
    have h5 : DataW.trod enc Try.prog w base spare held n 3 (([c0, c1, c2, c3, c4, c5].drop 5).take (Try.prog.cellsOf 3)) = xs[5]? := hf 5 _ rfl
    obtain ⟨y0, e0⟩ := some_at (i := 0) hxl (by decide)
    obtain ⟨y1, e1⟩ := some_at (i := 1) hxl (by decide)
    obtain ⟨y2, e2⟩ := some_at (i := 2) hxl (by decide)
    obtain ⟨y3, e3⟩ := some_at (i := 3) hxl (by decide)
    obtain ⟨y4, e4⟩ := some_at (i := 4) hxl (by decide)
    obtain ⟨y5, e5⟩ := some_at (i := 5) hxl (by decide)
    rw [e0, SemO.cells3] at h0
    rw [e1, SemO.cells3] at h1
    rw [e2, SemO.cells3] at h2
    rw [e3, SemO.cells3] at h3
    rw [e4, SemO.cells3] at h4
    rw [e5, SemO.cells3] at h5
    obtain ⟨s0, a0, _, _⟩ := DataW.trod_int Try.underlying3 h0
    obtain ⟨s1, a1, _, _⟩ := DataW.trod_int Try.underlying3 h1
    obtain ⟨s2, a2, _, _⟩ := DataW.trod_int Try.underlying3 h2
    obtain ⟨s3, a3, _, _⟩ := DataW.trod_int Try.underlying3 h3
    obtain ⟨s4, a4, _, _⟩ := DataW.trod_int Try.underlying3 h4
    obtain ⟨s5, a5, _, _⟩ := DataW.trod_int Try.underlying3 h5
    simp at a0 a1 a2 a3 a4 a5
    subst a0; subst a1; subst a2; subst a3; subst a4; subst a5
    exact ⟨⟨s0, s1, s2, s3, s4, s5⟩, rfl⟩
end
theorem agg_two {v : Value} {a b : Value} (h : v.cells.toList = [a, b]) : v = .agg #[a, b] := by
  cases v with
  | agg cs =>
    simp only [Value.cells] at h
    congr 1
    apply Array.ext'
    simpa using h
  | _ => simp [Value.cells] at h
set_option maxRecDepth 1000000 in
theorem open_dims {H : Type} {enc : TypeId × Value → H} {W : World} {v : Value} {d : DataW H} {p : List MemPlace}
    (h : DataW.Trod enc Try.prog W 0 (fun _ => true) true 22 v d p) : ∃ a b : Int, v = .agg #[.int .i64 a, .int .i64 b] := by
  obtain ⟨fuel, hf⟩ := h
  obtain ⟨r, hr⟩ := pair_cells hf
  exact ⟨r.1, r.2, agg_two hr⟩
set_option maxRecDepth 1000000 in
theorem open_rule {H : Type} {enc : TypeId × Value → H} {W : World} {base : Nat} {v : Value} {d : DataW H} {p : List MemPlace}
    (hval : Value.okWide Try.prog W .any base 44 v) (h : DataW.Trod enc Try.prog W 0 (fun _ => true) true 44 v d p) : ∃ u : Ru, v = u.val := by
  obtain ⟨cs, rfl, hsz⟩ := okWide_struct Try.underlying44 hval
  obtain ⟨fuel, hf⟩ := h
  obtain ⟨u, hu⟩ := rule_cells hf
  refine ⟨u, ?_⟩
  simp only [Value.cells] at hu
  unfold Ru.val
  congr 1
  apply Array.ext'
  rw [hu]
  rfl
set_option maxRecDepth 1000000 in
theorem open_rules {H : Type} {enc : TypeId × Value → H} {W : World} {base : Nat} {v : Value} {d : DataW H} {p : List MemPlace}
    (hval : Value.okWide Try.prog W .any base 23 v) (h : DataW.Trod enc Try.prog W 0 (fun _ => true) true 23 v d p) :
    ∃ (A : Option Addr) (c : Nat) (L : List Ru), v = .slice A L.length c ∧ L.length ≤ c ∧ c ≤ maxLen ∧ UG W A L := by
  obtain ⟨a0, len, cap, rfl⟩ := okWide_slice Try.underlying23 hval
  obtain ⟨fuel, hf⟩ := h
  rcases DataW.trod_slice Try.underlying23 hf with ⟨hcs, hx⟩ | ⟨a, len', cap', elems, rest, n, _, hcs, hx, hb, hl, hm, hlen, hel, _⟩
  · simp [Value.cells] at hcs
    obtain ⟨rfl, rfl, rfl⟩ := hcs
    exact ⟨none, 0, [], rfl, by simp, by simp [maxLen], fun h => by simp at h⟩
  · simp [Value.cells] at hcs
    obtain ⟨rfl, rfl, rfl⟩ := hcs
    have key : ∀ i, i < len → ∃ s : Ru, ∀ k, k < 6 → W.cell? (a.add (i * 6) |>.add k) = (s.cells.toList)[k]? := fun i hi => by
      have q := hel i hi
      rw [cellsU] at q
      have hsome : ∃ y, elems[i]? = some y := some_at hlen hi
      obtain ⟨y, hy⟩ := hsome
      rw [hy, Option.bind_eq_some_iff] at q
      obtain ⟨cs, hc, ht⟩ := q
      obtain ⟨s, rfl⟩ := rule_cells ht
      obtain ⟨_, _, hat⟩ := World.cells?_some hc
      exact ⟨s, hat⟩
    obtain ⟨L, hL, hp⟩ := list_of (P := fun i (s : Ru) => ∀ k, k < 6 → W.cell? (a.add (i * 6) |>.add k) = (s.cells.toList)[k]?) len key
    refine ⟨some a, cap, L, by rw [hL], by omega, hm, fun hpos => ?_⟩
    have h1 := hp 0 hpos 0 (by omega)
    obtain ⟨b, off, spot⟩ := a
    have h1' : W.cell? (((⟨b, off, spot⟩ : Addr).add (0 * 6)).add 0) = some (.int .i64 L[0].kind) := h1
    have hspot : spot = none := by simpa [Addr.add] using World.cell?_spot h1'
    subst hspot
    have hlt := World.block_lt_of_cell? _ _ h1'
    rw [add_off, add_off] at hlt
    refine ⟨b, off, rfl, hlt, fun j hj k hk => ?_⟩
    have q0 := hp j hj k hk
    rw [add_off, add_off] at q0
    rw [q0]
    simp
end Go.Proofs.Ytihhojgnilbfnaa.SemO
/- An argument of two numbers, and that each is an int. -/
namespace Go.Proofs.Ytihhojgnilbfnaa.PfV
set_option linter.unusedVariables false
set_option linter.unusedSimpArgs false
open Go.ChangeShapes Go.WideShapes Go.ChangeAt Go.RowKit
open Go.Proofs.Ytihhojgnilbfnaa.SetO Go.Proofs.Ytihhojgnilbfnaa.SemO Go.Proofs.Ytihhojgnilbfnaa.PfC
set_option maxRecDepth 1000000
set_option linter.unusedVariables false
theorem wf_in {n : Int} (h : (Lit.int .i64 n).wf = true) : -9223372036854775808 ≤ n ∧ n ≤ 9223372036854775807 := by
  simp only [Lit.wf, Bool.and_eq_true, decide_eq_true_eq] at h
  have e1 : IntKind.i64.min = -9223372036854775808 := by decide
  have e2 : IntKind.i64.max = 9223372036854775807 := by decide
  rw [e1, e2] at h
  exact h
section
variable {H : Type} {enc : TypeId × Value → H} {w : World} {base : Nat} {spare : Nat → Bool} {held : Bool} {fuel : Nat} {cs : List Value} {x : DataW H × List MemPlace}
theorem pair_in (h : DataW.trod enc Try.prog w base spare held fuel 22 cs = some x) : ∃ r : Int × Int, cs = [.int .i64 r.1, .int .i64 r.2] ∧ InR r := by
  obtain ⟨xs, n, _, _, hl, hxl, hf⟩ := DataW.trod_array Try.underlying22 h
  rw [cellsP] at hl
  match cs, hl with
  | [c0, c1], _ =>
    have h0 : DataW.trod enc Try.prog w base spare held n 3 (([c0, c1].drop (0 * Try.prog.cellsOf 3)).take (Try.prog.cellsOf 3)) = xs[0]? := hf 0 (by decide)
    have h1 : DataW.trod enc Try.prog w base spare held n 3 (([c0, c1].drop (1 * Try.prog.cellsOf 3)).take (Try.prog.cellsOf 3)) = xs[1]? := hf 1 (by decide)
    obtain ⟨y0, e0⟩ := some_at (i := 0) hxl (by decide)
    obtain ⟨y1, e1⟩ := some_at (i := 1) hxl (by decide)
    rw [e0] at h0
    rw [e1] at h1
    rw [SetO.cells3] at h0 h1
    obtain ⟨s0, a0, _, w0⟩ := DataW.trod_int Try.underlying3 h0
    obtain ⟨s1, a1, _, w1⟩ := DataW.trod_int Try.underlying3 h1
    simp at a0 a1
    subst a0; subst a1
    exact ⟨(s0, s1), rfl, wf_in w0, wf_in w1⟩
end
theorem open_two {H : Type} {enc : TypeId × Value → H} {W : World} {v : Value} {d : DataW H} {p : List MemPlace}
    (h : DataW.Trod enc Try.prog W 0 (fun _ => true) true 22 v d p) : ∃ a b : Int, v = .agg #[.int .i64 a, .int .i64 b] ∧ InR (a, b) := by
  obtain ⟨fuel, hf⟩ := h
  obtain ⟨r, hr, hi⟩ := pair_in hf
  exact ⟨r.1, r.2, agg_two hr, hi⟩
end Go.Proofs.Ytihhojgnilbfnaa.PfV
/- An argument of steps, each number in its range. -/
namespace Go.Proofs.Ytihhojgnilbfnaa.PfV2
set_option linter.unusedVariables false
set_option linter.unusedSimpArgs false
open Go.ChangeShapes Go.WideShapes Go.ChangeAt Go.RowKit
open Go.Proofs.Ytihhojgnilbfnaa.SetO Go.Proofs.Ytihhojgnilbfnaa.SemO Go.Proofs.Ytihhojgnilbfnaa.PfC Go.Proofs.Ytihhojgnilbfnaa.PfV Go.Proofs.Ytihhojgnilbfnaa.PfM Go.Proofs.Ytihhojgnilbfnaa.PfB Go.Proofs.Ytihhojgnilbfnaa.PfL
set_option maxRecDepth 1000000
set_option linter.unusedVariables false
theorem cellsS : Try.prog.cellsOf 30 = 4 := by kernel_rfl
/-- Each number of a step is an int. -/
def InS (s : Sp) : Prop := (-9223372036854775808 ≤ s.rule ∧ s.rule ≤ 9223372036854775807) ∧ InR s.fa ∧ (-9223372036854775808 ≤ s.mid ∧ s.mid ≤ 9223372036854775807)
section
variable {H : Type} {enc : TypeId × Value → H} {w : World} {base : Nat} {spare : Nat → Bool} {held : Bool} {fuel : Nat} {cs : List Value} {x : DataW H × List MemPlace}
theorem step_cells (h : DataW.trod enc Try.prog w base spare held fuel 30 cs = some x) : ∃ s : Sp, cs = (Sp.cells s).toList ∧ InS s := by
  obtain ⟨xs, n, _, _, hl, hxl, hf⟩ := DataW.trod_struct Try.underlying30 h
  rw [cellsS] at hl
  match cs, hl with
  | [c0, c1, c2, c3], _ =>
    have h0 : DataW.trod enc Try.prog w base spare held n 3 (([c0, c1, c2, c3].drop 0).take (Try.prog.cellsOf 3)) = xs[0]? := hf 0 _ rfl
    have h1 : DataW.trod enc Try.prog w base spare held n 3 (([c0, c1, c2, c3].drop 1).take (Try.prog.cellsOf 3)) = xs[1]? := hf 1 _ rfl
    have h2 : DataW.trod enc Try.prog w base spare held n 3 (([c0, c1, c2, c3].drop 2).take (Try.prog.cellsOf 3)) = xs[2]? := hf 2 _ rfl
    have h3 : DataW.trod enc Try.prog w base spare held n 3 (([c0, c1, c2, c3].drop 3).take (Try.prog.cellsOf 3)) = xs[3]? := hf 3 _ rfl
    obtain ⟨y0, e0⟩ := some_at (i := 0) hxl (by decide)
    obtain ⟨y1, e1⟩ := some_at (i := 1) hxl (by decide)
    obtain ⟨y2, e2⟩ := some_at (i := 2) hxl (by decide)
    obtain ⟨y3, e3⟩ := some_at (i := 3) hxl (by decide)
    rw [e0, SemO.cells3] at h0
    rw [e1, SemO.cells3] at h1
    rw [e2, SemO.cells3] at h2
    rw [e3, SemO.cells3] at h3
    obtain ⟨s0, a0, _, w0⟩ := DataW.trod_int Try.underlying3 h0
    obtain ⟨s1, a1, _, w1⟩ := DataW.trod_int Try.underlying3 h1
    obtain ⟨s2, a2, _, w2⟩ := DataW.trod_int Try.underlying3 h2
    obtain ⟨s3, a3, _, w3⟩ := DataW.trod_int Try.underlying3 h3
    simp at a0 a1 a2 a3
    subst a0; subst a1; subst a2; subst a3
    exact ⟨⟨s0, s1, s2, s3⟩, rfl, wf_in w0, ⟨wf_in w1, wf_in w2⟩, wf_in w3⟩
end
set_option maxRecDepth 1000000 in
theorem open_steps {H : Type} {enc : TypeId × Value → H} {W : World} {base : Nat} {v : Value} {d : DataW H} {p : List MemPlace}
    (hval : Value.okWide Try.prog W .any base 24 v) (h : DataW.Trod enc Try.prog W 0 (fun _ => true) true 24 v d p) :
    ∃ (A : Option Addr) (c : Nat) (L : List Sp), v = .slice A L.length c ∧ L.length ≤ c ∧ c ≤ maxLen ∧ TG W A L ∧ ∀ s ∈ L, InS s := by
  obtain ⟨a0, len, cap, rfl⟩ := okWide_slice Try.underlying24 hval
  obtain ⟨fuel, hf⟩ := h
  rcases DataW.trod_slice Try.underlying24 hf with ⟨hcs, hx⟩ | ⟨a, len', cap', elems, rest, n, _, hcs, hx, hb, hl, hm, hlen, hel, _⟩
  · simp [Value.cells] at hcs
    obtain ⟨rfl, rfl, rfl⟩ := hcs
    exact ⟨none, 0, [], rfl, by simp, by simp [maxLen], fun h => by simp at h, fun s hs => by cases hs⟩
  · simp [Value.cells] at hcs
    obtain ⟨rfl, rfl, rfl⟩ := hcs
    have key : ∀ i, i < len → ∃ s : Sp, InS s ∧ ∀ k, k < 4 → W.cell? (a.add (i * 4) |>.add k) = ((Sp.cells s).toList)[k]? := fun i hi => by
      have q := hel i hi
      rw [cellsS] at q
      have hsome : ∃ y, elems[i]? = some y := some_at hlen hi
      obtain ⟨y, hy⟩ := hsome
      rw [hy, Option.bind_eq_some_iff] at q
      obtain ⟨cs, hc, ht⟩ := q
      obtain ⟨s, rfl, hs⟩ := step_cells ht
      obtain ⟨_, _, hat⟩ := World.cells?_some hc
      exact ⟨s, hs, hat⟩
    obtain ⟨L, hL, hp⟩ := list_of (P := fun i (s : Sp) => InS s ∧ ∀ k, k < 4 → W.cell? (a.add (i * 4) |>.add k) = ((Sp.cells s).toList)[k]?) len key
    refine ⟨some a, cap, L, by rw [hL], by omega, hm, fun hpos => ?_, fun s hs => ?_⟩
    · have h1 := (hp 0 hpos).2 0 (by omega)
      obtain ⟨b, off, spot⟩ := a
      have h1' : W.cell? (((⟨b, off, spot⟩ : Addr).add (0 * 4)).add 0) = some (.int .i64 L[0].rule) := h1
      have hspot : spot = none := by simpa [Addr.add] using World.cell?_spot h1'
      subst hspot
      have hlt := World.block_lt_of_cell? _ _ h1'
      rw [add_off, add_off] at hlt
      refine ⟨b, off, rfl, hlt, fun j hj k hk => ?_⟩
      have q0 := (hp j hj).2 k hk
      rw [add_off, add_off] at q0
      rw [q0]
      simp
    · obtain ⟨i, hi, rfl⟩ := List.getElem_of_mem hs
      exact (hp i hi).1
end Go.Proofs.Ytihhojgnilbfnaa.PfV2
/- Uses of no steps, and Proves where there are none, or where the last one tells something else. -/
namespace Go.Proofs.Ytihhojgnilbfnaa.PfY2
set_option linter.unusedVariables false
set_option linter.unusedSimpArgs false
open Go.RowKit Go.Lib Go.Sort Go.Proofs Go.Maps Go.Proofs.Ytihhojgnilbfnaa.TblB Go.Proofs.Ytihhojgnilbfnaa.SetQ Go.Proofs.Ytihhojgnilbfnaa.SetR Go.Proofs.Ytihhojgnilbfnaa.TblC Go.Proofs.Ytihhojgnilbfnaa.TblV Go.Proofs.Ytihhojgnilbfnaa.TblQ Go.Proofs.Ytihhojgnilbfnaa.SetB Go.Proofs.Ytihhojgnilbfnaa.SetF Go.Proofs.Ytihhojgnilbfnaa.SetJ Go.Proofs.Ytihhojgnilbfnaa.SemB Go.Proofs.Ytihhojgnilbfnaa.SemC Go.Proofs.Ytihhojgnilbfnaa.SemD Go.Proofs.Ytihhojgnilbfnaa.SemGa Go.Proofs.Ytihhojgnilbfnaa.SemJ Go.Proofs.Ytihhojgnilbfnaa.PfM Go.Proofs.Ytihhojgnilbfnaa.PfN Go.Proofs.Ytihhojgnilbfnaa.PfO Go.Proofs.Ytihhojgnilbfnaa.PfA Go.Proofs.Ytihhojgnilbfnaa.PfB Go.Proofs.Ytihhojgnilbfnaa.PfC Go.Proofs.Ytihhojgnilbfnaa.PfE Go.Proofs.Ytihhojgnilbfnaa.PfJ Go.Proofs.Ytihhojgnilbfnaa.PfK Go.Proofs.Ytihhojgnilbfnaa.PfL Go.Proofs.Ytihhojgnilbfnaa.PfW Go.Proofs.Ytihhojgnilbfnaa.PfX Go.Proofs.Ytihhojgnilbfnaa.PfY
set_option linter.unusedVariables false
set_option linter.unusedSimpArgs false
set_option maxHeartbeats 1000000 in
set_option maxRecDepth 100000 in
theorem uses0 (B : Option Addr) (cb : Nat) (w : World) : Calls Try.prog 9 #[.slice B 0 cb] w (UsesPost [] w) := by
  unfold UsesPost
  have e0 : usesL [] = [] := by unfold usesL srtI; simp [Lib.compact, Lib.compactUpTo]
  rw [e0]
  have HS := Lib.hid (fun w' => Try.slices_Sort_int_none none 0 w')
  have HC := Lib.hid (fun w' => Try.slices_Compact_int_empty none 0 w')
  clear e0
  go_enter Try.func9, Try.ntmps9
  go_wp2_with fail
  go_loopw [3, 8] (fun v i wr => v = .slice none 0 0 ∧ i = .int .i64 0 ∧ wr = w) (fun _ i _ => 0)
  case atStart => exact ⟨rfl, rfl, rfl⟩
  case round =>
    obtain ⟨rfl, rfl, rfl⟩ := hrel
    go_wp2_with fail
    refine (HS.out _).mono ?_
    rintro e w1 ⟨rfl, rfl⟩
    go_wp2_with fail
    refine (HC.out _).mono ?_
    rintro e w2 ⟨rfl, rfl⟩
    go_wp2_with fail
    go_ret
    exact ⟨.slice none 0 0, rfl, World.ownsRow_nil _ _ _ _, Below.refl _ _⟩
set_option maxHeartbeats 1000000 in
set_option maxRecDepth 100000 in
theorem proves0 (d0 d1 : Int) (v : Value) (r x : Int) (B : Option Addr) (cb : Nat) (w : World) : Calls Try.prog 11 #[.int .i64 d0, .int .i64 d1, v, .int .i64 r, .int .i64 x, .slice B 0 cb] w fun e w' => e = .returned (.bool false) ∧ Below w.heap.size w w' := by
  go_enter Try.func11, Try.ntmps11
  go_wp2_with fail
  go_ret
  exact ⟨rfl, Below.refl _ _⟩
set_option maxHeartbeats 1000000 in
set_option maxRecDepth 100000 in
theorem provesNo (d0 d1 : Int) (v : Value) (r x : Int) (B : Option Addr) (cb : Nat) (T : List Sp) (w : World) (m : Nat) (hm : T.length = m + 1) (hT : m ≤ 1000) (hB : TG w B T) (hl : T[m].role ≠ r ∨ T[m].who ≠ x) :
    Calls Try.prog 11 #[.int .i64 d0, .int .i64 d1, v, .int .i64 r, .int .i64 x, .slice B T.length cb] w fun e w' => e = .returned (.bool false) ∧ Below w.heap.size w w' := by
  obtain ⟨g, o, rfl, hg, hc⟩ := hB (by omega)
  have hc2 := hc m (by omega)
  clear hB hc
  generalize T[m] = s at *
  rw [hm]
  obtain ⟨s0, s1, s2, s3⟩ := s
  simp only [Sp.cells] at hc2
  simp only at hl
  have y0 : w.cell? ⟨g, o + m * 4, none⟩ = some (.int .i64 s0) := hc2 0 (by omega)
  have y1 : w.cell? ⟨g, o + m * 4 + 1, none⟩ = some (.int .i64 s1) := hc2 1 (by omega)
  have y2 : w.cell? ⟨g, o + m * 4 + 2, none⟩ = some (.int .i64 s2) := hc2 2 (by omega)
  have y3 : w.cell? ⟨g, o + m * 4 + 3, none⟩ = some (.int .i64 s3) := hc2 3 (by omega)
  have hn := heap_alloc_new w (.cells #[.int .i64 s0, .int .i64 s1, .int .i64 s2, .int .i64 s3] 30)
  have hb := (Below.refl w.heap.size w).alloc (Nat.le_refl _) (.cells #[.int .i64 s0, .int .i64 s1, .int .i64 s2, .int .i64 s3] 30)
  have cs := fun o => Lib.cell_of_heap hn o
  have HB := Lib.hid hb
  have hw1 : IntKind.i64.wrap ((m : Int) + 1 - 1) = m := by rw [IntKind.wrap_i64]; omega
  have hw2 : IntKind.i64.wrap (m : Int) = m := by rw [IntKind.wrap_i64]; omega
  have e0 : (((m : Int) + 1) == 0) = false := by simp; omega
  have q0 : (0 : Int) ≤ m := by omega
  have q1 : (m : Int) < ((m + 1 : Nat) : Int) := by omega
  have q2 : (m : Int) < (m : Int) + 1 := by omega
  clear hc2 hn hb hm
  by_cases p1 : s1 = r
  · subst p1
    have p2 : s2 ≠ x := hl.resolve_left (by simp)
    have d1' : (s2 == x) = false := by simp [p2]
    have d2' : decide (s2 = x) = false := by simp [p2]
    clear hl p2
    go_enter Try.func11, Try.ntmps11
    go_wp2_with fail
    all_goals go_ret
    all_goals exact ⟨rfl, HB.out⟩
  · have d1' : (s1 == r) = false := by simp [p1]
    have d2' : decide (s1 = r) = false := by simp [p1]
    clear hl p1
    go_enter Try.func11, Try.ntmps11
    go_wp2_with fail
    all_goals go_ret
    all_goals exact ⟨rfl, HB.out⟩
end Go.Proofs.Ytihhojgnilbfnaa.PfY2
/- The rules that steps use: sorted without repeats; the only such list. -/
namespace Go.Proofs.Ytihhojgnilbfnaa.PfMU
set_option linter.unusedVariables false
set_option linter.unusedSimpArgs false
open Go.Lib Go.Proofs Go.Proofs.Ytihhojgnilbfnaa.PfM Go.Proofs.Ytihhojgnilbfnaa.PfY
set_option linter.unusedVariables false
set_option linter.unusedSimpArgs false
theorem strict_ext : ∀ {A B : List Int}, A.Pairwise (· < ·) → B.Pairwise (· < ·) → (∀ x, x ∈ A ↔ x ∈ B) → A = B
  | [], [], _, _, _ => rfl
  | [], b :: B, _, _, h => absurd ((h b).2 (by simp)) (by simp)
  | a :: A, [], _, _, h => absurd ((h a).1 (by simp)) (by simp)
  | a :: A, b :: B, hA, hB, h => by
    rw [List.pairwise_cons] at hA hB
    have e : a = b := by
      have h1 := (h a).1 (by simp)
      have h2 := (h b).2 (by simp)
      rcases List.mem_cons.1 h1 with q | q
      · exact q
      · rcases List.mem_cons.1 h2 with q2 | q2
        · exact q2.symm
        · have := hA.1 b q2
          have := hB.1 a q
          omega
    subst e
    congr 1
    refine strict_ext hA.2 hB.2 fun x => ?_
    have hx := h x
    rw [List.mem_cons, List.mem_cons] at hx
    constructor
    · intro q
      have := hA.1 x q
      rcases hx.1 (.inr q) with e | e
      · omega
      · exact e
    · intro q
      have := hB.1 x q
      rcases hx.2 (.inr q) with e | e
      · omega
      · exact e
theorem compact_strict {zs : List Int} (h : zs.Pairwise (· ≤ ·)) : (Lib.compact zs).Pairwise (· < ·) := by
  have le : ∀ i j, i ≤ j → j < zs.length → zs.toArray[i]! ≤ zs.toArray[j]! := fun i j hij hj => by
    rcases Nat.lt_or_ge i j with q | q
    · have := List.pairwise_iff_getElem.1 h i j (by omega) hj q
      simpa [getElem!_pos, hj, show i < zs.length by omega] using this
    · obtain rfl : i = j := by omega
      exact Int.le_refl _
  have key : ∀ m, m ≤ zs.length → (Lib.compactUpTo zs.toArray m).Pairwise (· < ·) ∧ ∀ x ∈ Lib.compactUpTo zs.toArray m, ∃ i, i < m ∧ x = zs.toArray[i]! := fun m => by
    induction m with
    | zero => intro _; exact ⟨by simp [Lib.compactUpTo], by simp [Lib.compactUpTo]⟩
    | succ m ih =>
      intro hm
      obtain ⟨h1, h2⟩ := ih (by omega)
      rw [Lib.compactUpTo_succ]
      by_cases hk : Lib.keeps zs.toArray m = true
      · rw [if_pos hk]
        refine ⟨List.pairwise_append.2 ⟨h1, by simp, fun x hx y hy => ?_⟩, fun x hx => ?_⟩
        · simp at hy
          obtain ⟨i, hi, rfl⟩ := h2 x hx
          have e1 := le i (m - 1) (by omega) (by omega)
          have e2 := le (m - 1) m (by omega) (by omega)
          have hne : zs.toArray[m]! ≠ zs.toArray[m - 1]! := by
            unfold Lib.keeps at hk
            rw [decide_eq_true_eq] at hk
            exact hk.resolve_left (by omega)
          have hy' : y = zs.toArray[m]! := by simpa using hy
          rw [hy']
          omega
        · rcases List.mem_append.1 hx with q | q
          · obtain ⟨i, hi, e⟩ := h2 x q
            exact ⟨i, by omega, e⟩
          · exact ⟨m, by omega, by simpa using q⟩
      · rw [if_neg hk, List.append_nil]
        exact ⟨h1, fun x hx => by obtain ⟨i, hi, e⟩ := h2 x hx; exact ⟨i, by omega, e⟩⟩
  exact (key zs.length (Nat.le_refl _)).1
theorem srtI_le (l : List Int) : (srtI l).Pairwise (· ≤ ·) := by
  unfold srtI
  have := List.pairwise_mergeSort (le := fun x y : Int => decide (x ≤ y)) (fun a b c h1 h2 => by simp at *; omega) (fun a b => by simp; omega) l
  exact this.imp (fun h => by simpa using h)
theorem uses_strict (T : List Sp) : (usesL T).Pairwise (· < ·) := compact_strict (srtI_le _)
/-- A strictly rising row of just the rules that are used is that row. -/
theorem uses_eq {T : List Sp} {Z : List Int} (h : Z.Pairwise (· < ·)) (hm : ∀ x, x ∈ Z ↔ ∃ s ∈ T, s.rule = x) : Z = usesL T :=
  strict_ext h (uses_strict T) (fun x => (hm x).trans uses_mem.symm)
end Go.Proofs.Ytihhojgnilbfnaa.PfMU
/- The gathering of the rules used, from -1 on: the maths of the law's own two loops. -/
namespace Go.Proofs.Ytihhojgnilbfnaa.PfMV
set_option linter.unusedVariables false
set_option linter.unusedSimpArgs false
open Go.Lib Go.Proofs Go.Proofs.Ytihhojgnilbfnaa.PfM Go.Proofs.Ytihhojgnilbfnaa.PfY Go.Proofs.Ytihhojgnilbfnaa.PfMU
set_option linter.unusedVariables false
set_option linter.unusedSimpArgs false
/-- What was gathered when rule i is looked for, and the first j steps were looked at: it rises strictly. -/
structure UZ (T : List Sp) (i : Int) (j : Nat) (Z : List Int) : Prop where
  up : Z.Pairwise (· < ·)
  mem : ∀ x, x ∈ Z ↔ (-1 ≤ x ∧ x < i ∧ ∃ s ∈ T, s.rule = x) ∨ (x = i ∧ ∃ s ∈ T.take j, s.rule = i)
theorem UZ.start (T : List Sp) : UZ T (-1) 0 [] := ⟨List.Pairwise.nil, fun x => by simp; omega⟩
variable {T : List Sp} {i : Int} {j : Nat} {Z : List Int}
theorem take_ex {q : Sp → Prop} (hj : j < T.length) : (∃ s ∈ T.take (j + 1), q s) ↔ (∃ s ∈ T.take j, q s) ∨ q T[j] := by
  rw [List.take_succ_eq_append_getElem hj]
  simp only [List.mem_append, List.mem_singleton]
  constructor
  · rintro ⟨s, h | h, hq⟩
    · exact .inl ⟨s, h, hq⟩
    · subst h; exact .inr hq
  · rintro (⟨s, h, hq⟩ | hq)
    · exact ⟨s, .inl h, hq⟩
    · exact ⟨_, .inr rfl, hq⟩
theorem UZ.le (h : UZ T i j Z) {x : Int} (hx : x ∈ Z) : x ≤ i := by
  rcases (h.mem x).1 hx with q | q
  · omega
  · omega
/-- It is in just if it is the last. -/
theorem UZ.last (h : UZ T i j Z) {m : Nat} (hm : Z.length = m + 1) : i ∈ Z ↔ Z[m] = i := by
  constructor
  · intro hi
    obtain ⟨k, hk, e⟩ := List.getElem_of_mem hi
    have h2 := h.le (List.getElem_mem (l := Z) (n := m) (by omega))
    rcases Nat.lt_or_ge k m with q | q
    · have := List.pairwise_iff_getElem.1 h.up k m hk (by omega) q
      omega
    · obtain rfl : k = m := by omega
      exact e
  · intro e
    rw [← e]
    exact List.getElem_mem _
theorem UZ.skip (h : UZ T i j Z) (hj : j < T.length) (hne : T[j].rule ≠ i) : UZ T i (j + 1) Z :=
  ⟨h.up, fun x => by rw [h.mem x, take_ex hj]; simp [hne]⟩
theorem UZ.there (h : UZ T i j Z) (hj : j < T.length) (hi : i ∈ Z) (he : T[j].rule = i) : UZ T i (j + 1) Z :=
  ⟨h.up, fun x => by
    rw [h.mem x, take_ex hj]
    have hq := (h.mem i).1 hi
    have hq2 : ∃ s ∈ T.take j, s.rule = i := by
      rcases hq with q | q
      · omega
      · exact q.2
    constructor
    · rintro (q | q)
      · exact .inl q
      · exact .inr ⟨q.1, .inl q.2⟩
    · rintro (q | ⟨q, _⟩)
      · exact .inl q
      · exact .inr ⟨q, hq2⟩⟩
theorem UZ.put (h : UZ T i j Z) (hj : j < T.length) (hi : i ∉ Z) (he : T[j].rule = i) : UZ T i (j + 1) (Z ++ [i]) :=
  ⟨List.pairwise_append.2 ⟨h.up, by simp, fun x hx y hy => by
      simp at hy
      subst hy
      have := h.le hx
      have : x ≠ y := fun e => hi (by rw [← e]; exact hx)
      omega⟩, fun x => by
    rw [List.mem_append, List.mem_singleton, h.mem x, take_ex hj]
    constructor
    · rintro ((q | q) | q)
      · exact .inl q
      · exact .inr ⟨q.1, .inl q.2⟩
      · exact .inr ⟨q, .inr he⟩
    · rintro (q | ⟨q, _⟩)
      · exact .inl (.inl q)
      · exact .inr q⟩
theorem UZ.next (h : UZ T i T.length Z) (h0 : -1 ≤ i) : UZ T (i + 1) 0 Z :=
  ⟨h.up, fun x => by
    rw [h.mem x, List.take_length]
    constructor
    · rintro (⟨q1, q2, q3⟩ | ⟨q1, q2⟩)
      · exact .inl ⟨q1, by omega, q3⟩
      · exact .inl ⟨by omega, by omega, by rw [q1]; exact q2⟩
    · rintro (⟨q1, q2, q3⟩ | ⟨_, q⟩)
      · by_cases e : x = i
        · exact .inr ⟨e, by rw [← e]; exact q3⟩
        · exact .inl ⟨q1, by omega, q3⟩
      · simp at q⟩
theorem UZ.done {n : Int} (h : UZ T (n + 1) 0 Z) (hr : ∀ s ∈ T, -1 ≤ s.rule ∧ s.rule ≤ n) : Z = usesL T :=
  uses_eq h.up fun x => by
    rw [h.mem x]
    constructor
    · rintro (⟨_, _, q⟩ | ⟨_, q⟩)
      · exact q
      · simp at q
    · rintro ⟨s, hs, e⟩
      have := hr s hs
      exact .inl ⟨by omega, by omega, s, hs, e⟩
end Go.Proofs.Ytihhojgnilbfnaa.PfMV
/- The walk of the law that Check, Proves and Uses answer as the document says, of any steps. -/
namespace Go.Proofs.Ytihhojgnilbfnaa.PfCl
set_option linter.unusedVariables false
set_option linter.unusedSimpArgs false
open Go.RowKit Go.Lib Go.Proofs Go.Maps Go.Proofs.Ytihhojgnilbfnaa.TblB Go.Proofs.Ytihhojgnilbfnaa.TblC Go.Proofs.Ytihhojgnilbfnaa.TblV Go.Proofs.Ytihhojgnilbfnaa.TblP Go.Proofs.Ytihhojgnilbfnaa.TblQ Go.Proofs.Ytihhojgnilbfnaa.SetB Go.Proofs.Ytihhojgnilbfnaa.SetF Go.Proofs.Ytihhojgnilbfnaa.SetJ Go.Proofs.Ytihhojgnilbfnaa.SetR Go.Proofs.Ytihhojgnilbfnaa.SemA Go.Proofs.Ytihhojgnilbfnaa.SemB Go.Proofs.Ytihhojgnilbfnaa.SemC Go.Proofs.Ytihhojgnilbfnaa.SemD Go.Proofs.Ytihhojgnilbfnaa.SemGa Go.Proofs.Ytihhojgnilbfnaa.SemJ Go.Proofs.Ytihhojgnilbfnaa.SemK Go.Proofs.Ytihhojgnilbfnaa.SemSw Go.Proofs.Ytihhojgnilbfnaa.PfM Go.Proofs.Ytihhojgnilbfnaa.PfN Go.Proofs.Ytihhojgnilbfnaa.PfO Go.Proofs.Ytihhojgnilbfnaa.PfB Go.Proofs.Ytihhojgnilbfnaa.PfC Go.Proofs.Ytihhojgnilbfnaa.PfE Go.Proofs.Ytihhojgnilbfnaa.PfJ Go.Proofs.Ytihhojgnilbfnaa.PfL Go.Proofs.Ytihhojgnilbfnaa.PfR Go.Proofs.Ytihhojgnilbfnaa.PfS3 Go.Proofs.Ytihhojgnilbfnaa.PfS5 Go.Proofs.Ytihhojgnilbfnaa.PfX Go.Proofs.Ytihhojgnilbfnaa.PfY Go.Proofs.Ytihhojgnilbfnaa.PfY2 Go.Proofs.Ytihhojgnilbfnaa.PfZ Go.Proofs.Ytihhojgnilbfnaa.PfW2 Go.Proofs.Ytihhojgnilbfnaa.PfV2 Go.Proofs.Ytihhojgnilbfnaa.PfMU Go.Proofs.Ytihhojgnilbfnaa.PfMV Go.Proofs.Ytihhojgnilbfnaa.PfS8
set_option linter.unusedVariables false
set_option linter.unusedSimpArgs false
theorem nx {W w1 w2 : World} (h : Below W.heap.size W w1) (hb : Below w1.heap.size w1 w2) : Below W.heap.size W w2 := h.trans (hb.mono h.size)
/-- Steps that are a proof tell of roles that there are. -/
theorem chk_role {P K : Nat} {L : List Ru} {T : List Sp} (h : chk P K L [] T = true) {s : Sp} (hs : s ∈ T) : 0 ≤ s.role := by
  obtain ⟨_, h2, _⟩ := chk_rng _ _ h s hs
  omega
theorem last_at {T : List Sp} {m : Nat} (hm : T.length = m + 1) : T.getLast? = some (T[m]'(by omega)) := by
  rw [List.getLast?_eq_getElem?]
  have : T.length - 1 = m := by omega
  rw [this]
  exact List.getElem?_eq_getElem (by omega)
/-- Proves at what the last step tells, of any steps. -/
theorem provesA (d0 d1 : Int) (A : Option Addr) (ca : Nat) (L : List Ru) (r x : Int) (B : Option Addr) (cb : Nat) (T : List Sp) (w : World) (g1 : d0 ≤ 64) (g2 : d1 ≤ 64) (hL : L.length ≤ 1000) (hT : T.length ≤ 1000) (hA : UG w A L) (hB : TG w B T) (hI : ∀ s ∈ T, InR s.fa) (hl : ∀ s, T.getLast? = some s → s.role = r ∧ s.who = x) :
    Calls Try.prog 11 #[.int .i64 d0, .int .i64 d1, .slice A L.length ca, .int .i64 r, .int .i64 x, .slice B T.length cb] w fun e w' => e = .returned (.bool (chk d0.toNat d1.toNat L [] T && decide (0 < T.length))) ∧ Below w.heap.size w w' := by
  rcases Nat.eq_zero_or_pos T.length with h0 | hp
  · rw [h0]
    simp only [Nat.lt_irrefl, decide_false, Bool.and_false]
    exact proves0 d0 d1 _ r x B cb w
  · obtain ⟨m, hm⟩ : ∃ m, T.length = m + 1 := ⟨T.length - 1, by omega⟩
    rw [decide_eq_true hp, Bool.and_true]
    exact proves d0 d1 A ca L r x B cb T w g1 g2 hL m hm (by omega) hA hB hI (hl _ (last_at hm))
/-- Proves at a role below 0 is false. -/
theorem provesB (d0 d1 : Int) (A : Option Addr) (ca : Nat) (L : List Ru) (x : Int) (B : Option Addr) (cb : Nat) (T : List Sp) (w : World) (g1 : d0 ≤ 64) (g2 : d1 ≤ 64) (hL : L.length ≤ 1000) (hT : T.length ≤ 1000) (hA : UG w A L) (hB : TG w B T) (hI : ∀ s ∈ T, InR s.fa) :
    Calls Try.prog 11 #[.int .i64 d0, .int .i64 d1, .slice A L.length ca, .int .i64 (-1), .int .i64 x, .slice B T.length cb] w fun e w' => e = .returned (.bool false) ∧ Below w.heap.size w w' := by
  rcases Nat.eq_zero_or_pos T.length with h0 | hp
  · rw [h0]
    exact proves0 d0 d1 _ (-1) x B cb w
  · obtain ⟨m, hm⟩ : ∃ m, T.length = m + 1 := ⟨T.length - 1, by omega⟩
    by_cases hq : T[m].role = -1 ∧ T[m].who = x
    · have hf : chk d0.toNat d1.toNat L [] T = false := by
        cases hc : chk d0.toNat d1.toNat L [] T with
        | false => rfl
        | true =>
          have := chk_role hc (List.getElem_mem (l := T) (n := m) (by omega))
          omega
      have := proves d0 d1 A ca L (-1) x B cb T w g1 g2 hL m hm (by omega) hA hB hI hq
      rwa [hf] at this
    · exact provesNo d0 d1 _ (-1) x B cb T w m hm (by omega) hB (by rcases Classical.em (T[m].role = -1) with h | h; exact .inr (fun e => hq ⟨h, e⟩); exact .inl h)
theorem usesA (B : Option Addr) (cb : Nat) (T : List Sp) (w : World) (hT : T.length ≤ 100000) (hB : TG w B T) :
    Calls Try.prog 9 #[.slice B T.length cb] w (UsesPost T w) := by
  rcases Nat.eq_zero_or_pos T.length with h0 | hp
  · obtain rfl : T = [] := List.length_eq_zero_iff.1 h0
    exact uses0 B cb w
  · exact uses B cb T w hT hp hB
set_option maxHeartbeats 4000000 in
set_option maxRecDepth 100000 in
theorem law (d0 d1 : Int) (A : Option Addr) (ca : Nat) (L : List Ru) (B : Option Addr) (cb : Nat) (T : List Sp) (w : World) (hL : L.length ≤ maxLen) (hA : UG w A L) (hcb : T.length ≤ cb) (hcm : cb ≤ maxLen) (hB : TG w B T) (hI : ∀ s ∈ T, InS s) :
    Calls Try.prog 3 #[.agg #[.int .i64 d0, .int .i64 d1], .slice A L.length ca, .slice B T.length cb] w fun e w' => e = .returned (.bool true) ∧ Below w.heap.size w w' := by
  obtain ⟨T2, hT2⟩ : ∃ T2, T.take 30 = T2 := ⟨_, rfl⟩
  have hTG : TG w B T2 := by rw [← hT2]; exact tg_take hB 30
  have hI2 : ∀ s ∈ T2, InS s := fun s hs => hI s (List.mem_of_mem_take (by rw [hT2]; exact hs))
  obtain ⟨n, hn⟩ : ∃ n, T2.length = n := ⟨_, rfl⟩
  have hn2 : n = min 30 T.length := by rw [← hn, ← hT2, List.length_take]
  have hmin : min (T.length : Int) 30 = (n : Int) := by omega
  have hn30 : n ≤ 30 := by omega
  have hncb : n ≤ cb := by omega
  have q1 : (n : Int) ≤ cb := by omega
  have q0 : (0 : Int) ≤ n := by omega
  obtain ⟨t0, ht0⟩ : ∃ t0, T.length = t0 := ⟨_, rfl⟩
  rw [ht0] at hmin ⊢
  clear hT2 hB hI hn2 hcb ht0
  obtain ⟨hb0, hbx0⟩ := dims_box w d0 d1
  have HC0 := Lib.hid hbx0
  have HSm := Lib.hid (fun w' => small d0 d1 A ca L.length (by unfold maxLen at hL; exact hL) w')
  have HLv := Lib.hid (fun w' => lives w')
  have HB0 := Lib.hid hb0
  have HUA := Lib.hid (hA.below hb0)
  have HT0 := Lib.hid (hTG.below hb0)
  have HI := Lib.hid hI2
  have HN := Lib.hid hn
  have hlt0 : w.heap.size < (w.alloc (.cells #[.int .i64 d0, .int .i64 d1] 22)).heap.size := by rw [World.size_alloc]; omega
  clear hb0 hbx0 hA hTG hI2 hn
  cases hs : smallB d0 d1 L.length
  · rw [hs] at HSm
    clear hs HUA HT0 HI HN hlt0
    go_enter Try.func3, Try.ntmps3
    go_upto_region 2 with fail
    obtain ⟨bx, hbx⟩ : ∃ bx, w.heap.size = bx := ⟨_, rfl⟩
    simp only [hbx] at HC0 ⊢
    generalize w.alloc (.cells #[.int .i64 d0, .int .i64 d1] 22) = w0 at *
    have c0 := HC0.out
    go_wp2_with fail
    refine (HSm.out _).mono ?_
    rintro e w1 ⟨rfl, rfl⟩
    clear c0 HC0 HSm
    go_wp2_with fail
    refine (HLv.out _).mono ?_
    rintro e w2 ⟨rfl, hb⟩
    have HF := Lib.hid (SemI.nx HB0.out hb)
    clear hb HLv HB0
    go_wp2_with fail
    go_ret
    exact ⟨rfl, by first | exact HF.out | (rw [← hbx]; exact HF.out)⟩
  · rw [hs] at HSm
    unfold smallB at hs
    simp only [Bool.and_eq_true, decide_eq_true_eq] at hs
    obtain ⟨s1, s2, s3⟩ := hs
    have HCA := Lib.hid (fun w' (hu : UG w' A L) (ht : TG w' B T2) => checkA d0 d1 A ca L B cb T2 w' s1 s2 s3 (by have := HN.out; omega) (by have := HN.out; omega) hu ht)
    have hI3 : ∀ s ∈ T2, InR s.fa := fun s hs => (HI.out s hs).2.1
    have HCP := Lib.hid (fun w' (hu : UG w' A L) (ht : TG w' B T2) => checkP d0 d1 A ca L B cb T2 w' (by omega) (by omega) (by omega) (by have := HN.out; omega) hu ht hI3)
    have HPA := Lib.hid (fun r x w' (hu : UG w' A L) (ht : TG w' B T2) hl => provesA d0 d1 A ca L r x B cb T2 w' (by omega) (by omega) (by omega) (by have := HN.out; omega) hu ht hI3 hl)
    have HPB := Lib.hid (fun x w' (hu : UG w' A L) (ht : TG w' B T2) => provesB d0 d1 A ca L x B cb T2 w' (by omega) (by omega) (by omega) (by have := HN.out; omega) hu ht hI3)
    have HUs0 := Lib.hid (fun w' (ht : TG w' B T2) => usesA B cb T2 w' (by have := HN.out; omega) ht)
    obtain ⟨ok, hok⟩ : ∃ ok, chk d0.toNat d1.toNat L [] T2 = ok := ⟨_, rfl⟩
    rw [hok] at HCA HCP HPA
    rw [HN.out] at HCA HCP HPA HPB HUs0
    clear hok hI3 s1 s2
    go_enter Try.func3, Try.ntmps3
    go_upto_region 2 with fail
    obtain ⟨bx, hbx⟩ : ∃ bx, w.heap.size = bx := ⟨_, rfl⟩
    simp only [hbx] at HC0 hlt0 ⊢
    generalize w.alloc (.cells #[.int .i64 d0, .int .i64 d1] 22) = w0 at *
    have HC1 := Lib.hid (fun w' (hb : Below w0.heap.size w0 w') (o : Nat) => (hb.cell (p := ⟨bx, o, none⟩) hlt0).trans (HC0.out o))
    clear HC0 hlt0
    have c0 := HC1.out w0 (Below.refl _ _)
    go_wp2_with fail
    refine (HSm.out _).mono ?_
    rintro e w1 ⟨rfl, rfl⟩
    clear HSm
    go_wp2_with fail
    refine (HCA.out _ HUA.out HT0.out).mono ?_
    rintro e w5 ⟨rfl, hb5⟩
    have HB5 := Lib.hid hb5
    have HT5 := Lib.hid (HT0.out.below hb5)
    have HU5 := Lib.hid (HUA.out.below hb5)
    have HC5 := Lib.hid (fun w' (hb : Below w5.heap.size w5 w') => HC1.out w' (SemI.nx HB5.out hb))
    clear hb5 HCA HT0 HUA HC1 c0
    obtain ⟨i0, hi, hz0, hz1, hz2⟩ := info_parts infoInt
    go_wp2_with fail
    go_loopw [8, 9] (fun v i wr => ∃ (k : Int) (Z : List Int), -1 ≤ k ∧ k ≤ L.length + 1 ∧ i = .int .i64 k ∧ Hid (UZ T2 k 0 Z) ∧ Hid (Z.length ≤ (k + 1).toNat * 31) ∧ Hid (wr.ownsRow w5.heap.size 3 1 v Z.length (Z.map (Value.int .i64))) ∧ Below w5.heap.size w5 wr) (fun _ i _ => (L.length + 1 - intOf i).toNat)
    case atStart => exact ⟨-1, [], by omega, by omega, rfl, Lib.hid (UZ.start T2), Lib.hid (by simp), Lib.hid (World.ownsRow_nil _ _ _ _), Below.refl _ _⟩
    case round =>
      obtain ⟨k, Z, hk0, hk1, rfl, hz, hzl, hown, hb⟩ := hrel
      by_cases hlt : k ≤ L.length
      · have e1 : decide (k ≤ (L.length : Int)) = true := by simp; omega
        have HBk := Lib.hid hb
        clear hb
        go_wp2_with fail
        go_loopw [8, 44] (fun v i wr => ∃ (j : Nat) (Z2 : List Int), j ≤ n ∧ i = .int .i64 j ∧ Hid (UZ T2 k j Z2) ∧ Hid (Z2.length ≤ (k + 1).toNat * 31 + j) ∧ Hid (wr.ownsRow w5.heap.size 3 1 v Z2.length (Z2.map (Value.int .i64))) ∧ Below w5.heap.size w5 wr) (fun _ i _ => n - (intOf i).toNat)
        case atStart => exact ⟨0, Z, by omega, rfl, hz, Lib.hid (by have := hzl.out; omega), hown, HBk.out⟩
        case round =>
          clear hz hzl hown HBk
          obtain ⟨j, Z2, hj, rfl, hz2, hzl2, hown2, hb2⟩ := hrel
          by_cases hlt2 : j < n
          · have e9 : decide ((j : Int) < n) = true := by simp; omega
            have hjT : j < T2.length := by rw [HN.out]; exact hlt2
            obtain ⟨g, o, rfl, hg, hc⟩ := HT5.out.below hb2 (by omega)
            have hc2 := hc j hjT
            have HSk : Hid (T2[j].rule ≠ k → UZ T2 k (j + 1) Z2) := Lib.hid (hz2.out.skip hjT)
            have HTh : Hid (k ∈ Z2 → T2[j].rule = k → UZ T2 k (j + 1) Z2) := Lib.hid (hz2.out.there hjT)
            have HPt : Hid (k ∉ Z2 → T2[j].rule = k → UZ T2 k (j + 1) (Z2 ++ [k])) := Lib.hid (hz2.out.put hjT)
            have HLa : Hid (∀ m, (hm : Z2.length = m + 1) → (k ∈ Z2 ↔ Z2[m] = k)) := Lib.hid (fun m hm => hz2.out.last hm)
            clear hc hz2
            generalize T2[j] = s at *
            obtain ⟨s0, s1, s2, s3⟩ := s
            simp only [Sp.cells] at hc2
            simp only at HSk HTh HPt
            have y0 : wr.cell? ⟨g, o + j * 4, none⟩ = some (.int .i64 s0) := hc2 0 (by omega)
            have y1 : wr.cell? ⟨g, o + j * 4 + 1, none⟩ = some (.int .i64 s1) := hc2 1 (by omega)
            have y2 : wr.cell? ⟨g, o + j * 4 + 2, none⟩ = some (.int .i64 s2) := hc2 2 (by omega)
            have y3 : wr.cell? ⟨g, o + j * 4 + 3, none⟩ = some (.int .i64 s3) := hc2 3 (by omega)
            have p0 : (0 : Int) ≤ j := by omega
            have p1 : (j : Int) < n := by omega
            have hnw := heap_alloc_new wr (.cells #[.int .i64 s0, .int .i64 s1, .int .i64 s2, .int .i64 s3] 30)
            have hbn := hb2.alloc hb2.size (.cells #[.int .i64 s0, .int .i64 s1, .int .i64 s2, .int .i64 s3] 30)
            have hown3 := own_below hown2.out ((Below.refl wr.heap.size wr).alloc (Nat.le_refl _) (.cells #[.int .i64 s0, .int .i64 s1, .int .i64 s2, .int .i64 s3] 30))
            clear hc2
            go_upto_region 12 with fail
            obtain ⟨w2, hw2⟩ : ∃ x, wr.alloc (.cells #[.int .i64 s0, .int .i64 s1, .int .i64 s2, .int .i64 s3] 30) = x := ⟨_, rfl⟩
            rw [hw2] at hnw hbn hown3 ⊢
            have cs := fun o => Lib.cell_of_heap hnw o
            have HB2 := Lib.hid hbn
            have hz : w5.heap.size ≤ w2.heap.size := HB2.out.size
            clear hw2 y0 y1 y2 y3 hnw hbn hown2 hb2
            by_cases hr : s0 = k
            · have hr2 := hr.symm
              subst hr2
              have e2 : (k == k) = true := by simp
              obtain ⟨A8, c8, rfl, hzg⟩ := zg_own hown3
              rcases Nat.eq_zero_or_pos Z2.length with hz0' | hzp
              · have hzn : Z2 = [] := List.length_eq_zero_iff.1 hz0'
                subst hzn
                have HPt2 := Lib.hid (HPt.out (by simp) rfl)
                clear hzg HPt HTh HSk HLa hz0' hr
                go_upto_region 13 with fail
                go_wp2_with (at_builtin; refine wpList_append_own _ rfl _ _ 28 rfl w5.heap.size 3 i0 (.int .i64 0) 1 8 Try.underlying28 hi hz0 hz1 hz2 rfl (by decide) _ _ _ rfl (hown3.alloc _) ⟨w2.heap.size, 0, none⟩ 1 1 [.int .i64 k] rfl rfl ?c1 ?c2 ?c3 ?c4 ?c5 ?_)
                case c1 => exact new_cell1 _ _ _
                case c2 => intro u hu; simp at hu; subst hu; rfl
                case c3 => simp [maxLen]
                case c4 => simp
                case c5 => simp; omega
                intro v' w3 hown' hgrow _
                have hown4 : w3.ownsRow w5.heap.size 3 1 v' ([] ++ [k]).length (([] ++ [k]).map (Value.int .i64)) := by
                  rw [List.map_append, List.length_append]
                  simpa using hown'
                have hbel3 := below_own HB2.out hown3 hgrow
                have HO4 := Lib.hid hown4
                have HB3 := Lib.hid hbel3
                clear hown' hown3 hgrow hown4 hbel3 cs
                go_wp2_with fail
                go_roundw
                case rel => exact ⟨j + 1, [] ++ [k], by omega, by go_num, HPt2, Lib.hid (by rw [List.length_append]; have := hzl2.out; simp only [List.length_singleton]; omega), HO4, HB3.out⟩
                case measure => simp [intOf]; omega
              · obtain ⟨m, hm⟩ : ∃ m, Z2.length = m + 1 := ⟨Z2.length - 1, by omega⟩
                obtain ⟨g8, rfl, hg8, hc8⟩ := hzg hzp
                have y8 := hc8 m (by omega)
                have hmem := HLa.out m hm
                have hml : m < 100000 := by have := hzl2.out; omega
                have hw1 : IntKind.i64.wrap ((m : Int) + 1 - 1) = m := by rw [IntKind.wrap_i64]; omega
                have hw2 : IntKind.i64.wrap (m : Int) = m := by rw [IntKind.wrap_i64]; omega
                have e0 : (((m : Int) + 1) == 0) = false := by simp; omega
                have r0 : (0 : Int) ≤ m := by omega
                have r1 : (m : Int) < ((m + 1 : Nat) : Int) := by omega
                have r2 : (m : Int) < (m : Int) + 1 := by omega
                generalize Z2[m] = z at *
                by_cases hzk : z = k
                · have HTh2 := Lib.hid (HTh.out (hmem.2 hzk) rfl)
                  subst hzk
                  rw [hm] at hown3
                  have HO3 := Lib.hid hown3
                  have HM := Lib.hid hm
                  simp only [hm]
                  clear hc8 hmem HPt HTh HSk HLa hr hown3 hzp hm
                  go_wp2_with fail
                  go_roundw
                  case rel => exact ⟨j + 1, Z2, by omega, by go_num, HTh2, Lib.hid (by have := hzl2.out; omega), Lib.hid (by rw [HM.out]; exact HO3.out), HB2.out⟩
                  case measure => simp [intOf]; omega
                · have HPt2 := Lib.hid (HPt.out (fun h => hzk (hmem.1 h)) rfl)
                  have e3 : decide (z = k) = false := by simp [hzk]
                  have e4 : (z == k) = false := by simp [hzk]
                  have e5 : (z != k) = true := by simp [hzk]
                  rw [hm] at hown3
                  have HM := Lib.hid hm
                  simp only [hm]
                  clear hc8 hmem HPt HTh HSk HLa hr hzp hm
                  go_upto_region 13 with fail
                  go_wp2_with (at_builtin; refine wpList_append_own _ rfl _ _ 28 rfl w5.heap.size 3 i0 (.int .i64 0) 1 8 Try.underlying28 hi hz0 hz1 hz2 rfl (by decide) _ _ _ rfl (hown3.alloc _) ⟨w2.heap.size, 0, none⟩ 1 1 [.int .i64 k] rfl rfl ?c1 ?c2 ?c3 ?c4 ?c5 ?_)
                  case c1 => exact new_cell1 _ _ _
                  case c2 => intro u hu; simp at hu; subst hu; rfl
                  case c3 => unfold maxLen; omega
                  case c4 => omega
                  case c5 => simp; omega
                  intro v' w3 hown' hgrow _
                  have hown4 : w3.ownsRow w5.heap.size 3 1 v' (Z2 ++ [k]).length ((Z2 ++ [k]).map (Value.int .i64)) := by
                    rw [List.map_append, List.length_append, HM.out]
                    simpa using hown'
                  have hbel3 := below_own HB2.out hown3 hgrow
                  have HO4 := Lib.hid hown4
                  have HB3 := Lib.hid hbel3
                  clear hown' hown3 hgrow hown4 hbel3 cs
                  go_wp2_with fail
                  go_roundw
                  case rel => exact ⟨j + 1, Z2 ++ [k], by omega, by go_num, HPt2, Lib.hid (by rw [List.length_append]; have := hzl2.out; simp only [List.length_singleton]; omega), HO4, HB3.out⟩
                  case measure => simp [intOf]; omega
            · have e2 : (s0 == k) = false := by simp [hr]
              have HSk2 := Lib.hid (HSk.out hr)
              have HO3 := Lib.hid hown3
              clear HPt HTh HSk HLa hown3
              go_wp2_with fail
              go_roundw
              case rel => exact ⟨j + 1, Z2, by omega, by go_num, HSk2, Lib.hid (by have := hzl2.out; omega), HO3, HB2.out⟩
              case measure => simp [intOf]; omega
          · have e9 : decide ((j : Int) < n) = false := by simp; omega
            have hjn : j = n := by omega
            subst hjn
            have HZN : Hid (UZ T2 (k + 1) 0 Z2) := Lib.hid ((show UZ T2 k T2.length Z2 by rw [HN.out]; exact hz2.out).next hk0)
            have HB2 := Lib.hid hb2
            have hw1 : IntKind.i64.wrap (k + 1) = k + 1 := by rw [IntKind.wrap_i64]; omega
            clear hb2 hz2
            go_wp2_with fail
            go_roundw
            case rel => exact ⟨k + 1, Z2, by omega, by omega, by go_num, HZN, Lib.hid (by have := hzl2.out; omega), hown2, HB2.out⟩
            case measure => simp [intOf]; omega
      · have e1 : decide (k ≤ (L.length : Int)) = false := by simp; omega
        have hkn : k = L.length + 1 := by omega
        subst hkn
        obtain ⟨A8, c8, rfl, hzg⟩ := zg_own hown.out
        have HZG := Lib.hid hzg
        have HB7 := Lib.hid hb
        have HZl : Hid (Z.length ≤ 10000) := Lib.hid (by have := hzl.out; omega)
        clear hown hzg hb hzl
        go_wp2_with fail
        go_loopw [8, 74] (fun v i wr => ∃ (j : Nat) (A9 : Option Addr) (c9 : Nat) (Z3 : List Int), j ≤ n ∧ i = .int .i64 j ∧ v = .slice A9 Z3.length c9 ∧ Hid (ZG wr A9 Z3) ∧ Hid (Z3.length ≤ 10000) ∧ Hid (Z3 = usesL T2 ∨ (UZ T2 (L.length + 1) 0 Z3 ∧ ∀ i, (h : i < T2.length) → i < j → -1 ≤ T2[i].rule ∧ T2[i].rule ≤ L.length)) ∧ Below w5.heap.size w5 wr) (fun _ i _ => n - (intOf i).toNat)
        case atStart => exact ⟨0, A8, c8, Z, by omega, rfl, rfl, HZG, HZl, Lib.hid (.inr ⟨hz.out, fun i _ h => by omega⟩), HB7.out⟩
        case round =>
          clear HZG HB7 HZl hz
          obtain ⟨j, A9, c9, Z3, hj, rfl, rfl, hzg, hzl, hor, hb3⟩ := hrel
          by_cases hlt2 : j < n
          · have e9 : decide ((j : Int) < n) = true := by simp; omega
            have hjT : j < T2.length := by rw [HN.out]; exact hlt2
            obtain ⟨g, o, rfl, hg, hc⟩ := HT5.out.below hb3 (by omega)
            have hc2 := hc j hjT
            have HNx : Hid (-1 ≤ T2[j].rule → T2[j].rule ≤ L.length → (Z3 = usesL T2 ∨ (UZ T2 (L.length + 1) 0 Z3 ∧ ∀ i, (h : i < T2.length) → i < j + 1 → -1 ≤ T2[i].rule ∧ T2[i].rule ≤ L.length))) := Lib.hid (fun h1 h2 => by
              rcases hor.out with q | ⟨q1, q2⟩
              · exact .inl q
              · refine .inr ⟨q1, fun i hi hij => ?_⟩
                rcases Nat.lt_or_ge i j with h | h
                · exact q2 i hi h
                · obtain rfl : i = j := by omega
                  exact ⟨h1, h2⟩)
            clear hc hor
            generalize T2[j] = s at *
            obtain ⟨s0, s1, s2, s3⟩ := s
            simp only [Sp.cells] at hc2
            simp only at HNx
            have y0 : wr.cell? ⟨g, o + j * 4, none⟩ = some (.int .i64 s0) := hc2 0 (by omega)
            have y1 : wr.cell? ⟨g, o + j * 4 + 1, none⟩ = some (.int .i64 s1) := hc2 1 (by omega)
            have y2 : wr.cell? ⟨g, o + j * 4 + 2, none⟩ = some (.int .i64 s2) := hc2 2 (by omega)
            have y3 : wr.cell? ⟨g, o + j * 4 + 3, none⟩ = some (.int .i64 s3) := hc2 3 (by omega)
            have p0 : (0 : Int) ≤ j := by omega
            have p1 : (j : Int) < n := by omega
            have hnw := heap_alloc_new wr (.cells #[.int .i64 s0, .int .i64 s1, .int .i64 s2, .int .i64 s3] 30)
            have hbn := hb3.alloc hb3.size (.cells #[.int .i64 s0, .int .i64 s1, .int .i64 s2, .int .i64 s3] 30)
            have hzg2 := hzg.out.below ((Below.refl wr.heap.size wr).alloc (Nat.le_refl _) (.cells #[.int .i64 s0, .int .i64 s1, .int .i64 s2, .int .i64 s3] 30))
            clear hc2
            go_upto_region 18 with fail
            obtain ⟨w2, hw2⟩ : ∃ x, wr.alloc (.cells #[.int .i64 s0, .int .i64 s1, .int .i64 s2, .int .i64 s3] 30) = x := ⟨_, rfl⟩
            rw [hw2] at hnw hbn hzg2 ⊢
            have cs := fun o => Lib.cell_of_heap hnw o
            have HB2 := Lib.hid hbn
            have HZ2 := Lib.hid hzg2
            clear hw2 y0 y1 y2 y3 hnw hbn hzg2 hb3 hzg
            by_cases hs1 : s0 < -1
            · have f1 : decide (s0 < -1) = true := by simp [hs1]
              have HU := HUs0.out w2 (HT5.out.below HB2.out)
              clear HNx
              go_wp2_with fail
              unfold UsesPost at HU
              refine HU.mono ?_
              rintro e w4 ⟨v, rfl, hou, hba⟩
              obtain ⟨A10, c10, rfl, hz10⟩ := zg_own hou
              have HZ10 := Lib.hid hz10
              have HB10 := Lib.hid (nx HB2.out hba)
              clear hou hz10 hba cs
              go_wp2_with fail
              go_roundw
              case rel => exact ⟨j + 1, A10, c10, usesL T2, by omega, by go_num, rfl, HZ10, Lib.hid (by have := uses_len T2; have := HN.out; omega), Lib.hid (.inl rfl), HB10.out⟩
              case measure => simp [intOf]; omega
            · have f1 : decide (s0 < -1) = false := by simp; omega
              by_cases hs2 : (L.length : Int) < s0
              · have f2 : decide ((L.length : Int) < s0) = true := by simp [hs2]
                have HU := HUs0.out w2 (HT5.out.below HB2.out)
                clear HNx
                go_wp2_with fail
                unfold UsesPost at HU
                refine HU.mono ?_
                rintro e w4 ⟨v, rfl, hou, hba⟩
                obtain ⟨A10, c10, rfl, hz10⟩ := zg_own hou
                have HZ10 := Lib.hid hz10
                have HB10 := Lib.hid (nx HB2.out hba)
                clear hou hz10 hba cs
                go_wp2_with fail
                go_roundw
                case rel => exact ⟨j + 1, A10, c10, usesL T2, by omega, by go_num, rfl, HZ10, Lib.hid (by have := uses_len T2; have := HN.out; omega), Lib.hid (.inl rfl), HB10.out⟩
                case measure => simp [intOf]; omega
              · have f2 : decide ((L.length : Int) < s0) = false := by simp; omega
                have HNx2 := Lib.hid (HNx.out (by omega) (by omega))
                clear HNx
                go_wp2_with fail
                go_roundw
                case rel => exact ⟨j + 1, A9, c9, Z3, by omega, by go_num, rfl, HZ2, hzl, HNx2, HB2.out⟩
                case measure => simp [intOf]; omega
          · have e9 : decide ((j : Int) < n) = false := by simp; omega
            have HE : Hid (Z3 = usesL T2) := Lib.hid (by
              rcases hor.out with q | ⟨q1, q2⟩
              · exact q
              · exact q1.done fun s hs => by
                  obtain ⟨i, hi, rfl⟩ := List.getElem_of_mem hs
                  exact q2 i hi (by have := HN.out; omega))
            have HUs : Hid (∀ w', Below wr.heap.size wr w' → Calls Try.prog 9 #[.slice B n cb] w' (UsesPost T2 w')) := Lib.hid (fun w' hb => HUs0.out w' (HT5.out.below (nx hb3 hb)))
            have HSm2 : Hid (∀ A1 c1 w', (hb : Below wr.heap.size wr w') → ZG w' A1 (usesL T2) → Calls Try.prog 12 #[.slice A1 (usesL T2).length c1, .slice A9 Z3.length c9] w' fun e w'' => e = .returned (.bool true) ∧ Below w'.heap.size w' w'') := Lib.hid (fun A1 c1 w' hb hz => by
              have h9 := hzg.out.below hb
              have hl9 := hzl.out
              rw [HE.out] at h9 hl9 ⊢
              exact sameZ A1 A9 c1 c9 (usesL T2) w' hl9 hz h9)
            have HCh : Hid (∀ w', Below wr.heap.size wr w' → Calls Try.prog 10 #[.int .i64 d0, .int .i64 d1, .slice A L.length ca, .slice B n cb] w' fun e w'' => e = .returned (.bool ok) ∧ Below w'.heap.size w' w'') := Lib.hid (fun w' hb => HCP.out w' (HU5.out.below (nx hb3 hb)) (HT5.out.below (nx hb3 hb)))
            have HPn : Hid (∀ x w', Below wr.heap.size wr w' → Calls Try.prog 11 #[.int .i64 d0, .int .i64 d1, .slice A L.length ca, .int .i64 (-1), .int .i64 x, .slice B n cb] w' fun e w'' => e = .returned (.bool false) ∧ Below w'.heap.size w' w'') := Lib.hid (fun x w' hb => HPB.out x w' (HU5.out.below (nx hb3 hb)) (HT5.out.below (nx hb3 hb)))
            have HPv0 : Hid (∀ r x w', (∀ s, T2.getLast? = some s → s.role = r ∧ s.who = x) → Below wr.heap.size wr w' → Calls Try.prog 11 #[.int .i64 d0, .int .i64 d1, .slice A L.length ca, .int .i64 r, .int .i64 x, .slice B n cb] w' fun e w'' => e = .returned (.bool (ok && decide (0 < n))) ∧ Below w'.heap.size w' w'') := Lib.hid (fun r x w' hl hb => HPA.out r x w' (HU5.out.below (nx hb3 hb)) (HT5.out.below (nx hb3 hb)) hl)
            have HSS : Hid (∀ w', Below wr.heap.size wr w' → Below wr.heap.size wr w' ∧ (∀ o, w'.cell? ⟨bx, o, none⟩ = (#[.int .i64 d0, .int .i64 d1] : Array Value)[o]?)) := Lib.hid (fun w' hb => ⟨hb, HC5.out w' (nx hb3 hb)⟩)
            have HBw := Lib.hid hb3
            clear hb3 hor hzl HE HUs0 HCP HPB HPA hzg
            rcases Nat.eq_zero_or_pos n with hn0 | hnp
            · have e6 : decide ((0 : Int) < (n : Int)) = false := by simp; omega
              have e7 : decide (0 < n) = false := by simp; omega
              have HPv := Lib.hid (fun w' hb => HPv0.out 0 0 w' (fun s h => by have := HN.out; rw [hn0] at this; rw [List.length_eq_zero_iff.1 this] at h; cases h) hb)
              rw [e7, Bool.and_false] at HPv
              clear HPv0 hn0
              cases ok
              · skip
                have c0 := HC5.out wr (nx HBw.out (Below.refl _ _))
                go_wp2_with fail
                refine (HCh.out _ (Below.refl _ _)).mono ?_
                rintro e w6 ⟨rfl, hb6⟩
                have HW6 := Lib.hid hb6
                clear hb6 c0
                have c0 := HC5.out w6 (nx HBw.out HW6.out)
                go_wp2_with fail
                refine (HPv.out _ HW6.out).mono ?_
                rintro e w7 ⟨rfl, hb7⟩
                have HW7 := Lib.hid (nx HW6.out hb7)
                clear hb7 c0
                have c0 := HC5.out w7 (nx HBw.out HW7.out)
                go_wp2_with fail
                refine (HPn.out _ _ HW7.out).mono ?_
                rintro e w8 ⟨rfl, hb8⟩
                have HW8 := Lib.hid (nx HW7.out hb8)
                clear hb8 c0
                go_wp2_with fail
                refine (HUs.out _ HW8.out).mono ?_
                rintro e w9 ⟨v, rfl, hou, hb9⟩
                obtain ⟨A10, c10, rfl, hz9⟩ := zg_own hou
                have HZ9 := Lib.hid hz9
                have HW9 := Lib.hid (nx HW8.out hb9)
                clear hou hz9 hb9
                go_wp2_with fail
                refine (HSm2.out A10 c10 _ HW9.out HZ9.out).mono ?_
                rintro e w10 ⟨rfl, hb10⟩
                have HW10 := Lib.hid (nx HW9.out hb10)
                clear hb10
                go_wp2_with fail
                refine (HLv.out _).mono ?_
                rintro e w11 ⟨rfl, hb11⟩
                have HF := Lib.hid (SemI.nx HB0.out (SemI.nx HB5.out (nx HBw.out (nx HW10.out hb11))))
                clear hb11
                go_wp2_with fail
                go_ret
                exact ⟨rfl, by first | exact HF.out | (rw [← hbx]; exact HF.out)⟩
                
              · skip
                have c0 := HC5.out wr (nx HBw.out (Below.refl _ _))
                go_wp2_with fail
                refine (HCh.out _ (Below.refl _ _)).mono ?_
                rintro e w6 ⟨rfl, hb6⟩
                have HW6 := Lib.hid hb6
                clear hb6 c0
                have c0 := HC5.out w6 (nx HBw.out HW6.out)
                go_wp2_with fail
                refine (HPv.out _ HW6.out).mono ?_
                rintro e w7 ⟨rfl, hb7⟩
                have HW7 := Lib.hid (nx HW6.out hb7)
                clear hb7 c0
                have c0 := HC5.out w7 (nx HBw.out HW7.out)
                go_wp2_with fail
                refine (HPn.out _ _ HW7.out).mono ?_
                rintro e w8 ⟨rfl, hb8⟩
                have HW8 := Lib.hid (nx HW7.out hb8)
                clear hb8 c0
                go_wp2_with fail
                refine (HUs.out _ HW8.out).mono ?_
                rintro e w9 ⟨v, rfl, hou, hb9⟩
                obtain ⟨A10, c10, rfl, hz9⟩ := zg_own hou
                have HZ9 := Lib.hid hz9
                have HW9 := Lib.hid (nx HW8.out hb9)
                clear hou hz9 hb9
                go_wp2_with fail
                refine (HSm2.out A10 c10 _ HW9.out HZ9.out).mono ?_
                rintro e w10 ⟨rfl, hb10⟩
                have HW10 := Lib.hid (nx HW9.out hb10)
                clear hb10
                go_wp2_with fail
                refine (HLv.out _).mono ?_
                rintro e w11 ⟨rfl, hb11⟩
                have HF := Lib.hid (SemI.nx HB0.out (SemI.nx HB5.out (nx HBw.out (nx HW10.out hb11))))
                clear hb11
                go_wp2_with fail
                go_ret
                exact ⟨rfl, by first | exact HF.out | (rw [← hbx]; exact HF.out)⟩
                
            · obtain ⟨m, hm⟩ : ∃ m, T2.length = m + 1 := ⟨T2.length - 1, by have := HN.out; omega⟩
              have hnm : n = m + 1 := by have := HN.out; omega
              obtain ⟨g, o, rfl, hg, hc⟩ := HT5.out.below HBw.out (by omega)
              have hc1 := hc m (by omega) 1 (by omega)
              have hc2 := hc m (by omega) 2 (by omega)
              have HPv := Lib.hid (fun w' hb => HPv0.out T2[m].role T2[m].who w' (fun s h => by rw [last_at hm] at h; cases h; exact ⟨rfl, rfl⟩) hb)
              rw [show decide (0 < n) = true by simp; omega, Bool.and_true] at HPv
              clear HPv0 hc
              generalize T2[m] = s at *
              obtain ⟨s0, s1, s2, s3⟩ := s
              simp only [Sp.cells] at hc1 hc2
              have y1 : wr.cell? ⟨g, o + m * 4 + 1, none⟩ = some (.int .i64 s1) := hc1
              have y2 : wr.cell? ⟨g, o + m * 4 + 2, none⟩ = some (.int .i64 s2) := hc2
              have e6 : decide ((0 : Int) < (n : Int)) = true := by simp; omega
              have hw1 : IntKind.i64.wrap ((n : Int) - 1) = m := by rw [IntKind.wrap_i64]; omega
              have hw2 : IntKind.i64.wrap (m : Int) = m := by rw [IntKind.wrap_i64]; omega
              have r0 : (0 : Int) ≤ m := by omega
              have r1 : (m : Int) < n := by omega
              clear hc1 hc2 hm hnm hnp
              cases ok
              · go_wp2_with fail
                go_quiet (fail)
                have c0 := fun q o => HC5.out (wr.drewN q) (nx HBw.out (below_drewN (Below.refl _ wr) q)) o
                go_wp2_with fail
                refine (HCh.out _ (below_drewN (Below.refl _ wr) _)).mono ?_
                rintro e w6 ⟨rfl, hb6⟩
                have HW6 := Lib.hid (nx (below_drewN (Below.refl _ wr) _) hb6)
                clear hb6 c0
                have c0 := HC5.out w6 (nx HBw.out HW6.out)
                go_wp2_with fail
                refine (HPv.out _ HW6.out).mono ?_
                rintro e w7 ⟨rfl, hb7⟩
                have HW7 := Lib.hid (nx HW6.out hb7)
                clear hb7 c0
                have c0 := HC5.out w7 (nx HBw.out HW7.out)
                go_wp2_with fail
                refine (HPn.out _ _ HW7.out).mono ?_
                rintro e w8 ⟨rfl, hb8⟩
                have HW8 := Lib.hid (nx HW7.out hb8)
                clear hb8 c0
                go_wp2_with fail
                refine (HUs.out _ HW8.out).mono ?_
                rintro e w9 ⟨v, rfl, hou, hb9⟩
                obtain ⟨A10, c10, rfl, hz9⟩ := zg_own hou
                have HZ9 := Lib.hid hz9
                have HW9 := Lib.hid (nx HW8.out hb9)
                clear hou hz9 hb9
                go_wp2_with fail
                refine (HSm2.out A10 c10 _ HW9.out HZ9.out).mono ?_
                rintro e w10 ⟨rfl, hb10⟩
                have HW10 := Lib.hid (nx HW9.out hb10)
                clear hb10
                go_wp2_with fail
                refine (HLv.out _).mono ?_
                rintro e w11 ⟨rfl, hb11⟩
                have HF := Lib.hid (SemI.nx HB0.out (SemI.nx HB5.out (nx HBw.out (nx HW10.out hb11))))
                clear hb11
                go_wp2_with fail
                go_ret
                exact ⟨rfl, by first | exact HF.out | (rw [← hbx]; exact HF.out)⟩
                
              · go_wp2_with fail
                go_quiet (fail)
                have c0 := fun q o => HC5.out (wr.drewN q) (nx HBw.out (below_drewN (Below.refl _ wr) q)) o
                go_wp2_with fail
                refine (HCh.out _ (below_drewN (Below.refl _ wr) _)).mono ?_
                rintro e w6 ⟨rfl, hb6⟩
                have HW6 := Lib.hid (nx (below_drewN (Below.refl _ wr) _) hb6)
                clear hb6 c0
                have c0 := HC5.out w6 (nx HBw.out HW6.out)
                go_wp2_with fail
                refine (HPv.out _ HW6.out).mono ?_
                rintro e w7 ⟨rfl, hb7⟩
                have HW7 := Lib.hid (nx HW6.out hb7)
                clear hb7 c0
                have c0 := HC5.out w7 (nx HBw.out HW7.out)
                go_wp2_with fail
                refine (HPn.out _ _ HW7.out).mono ?_
                rintro e w8 ⟨rfl, hb8⟩
                have HW8 := Lib.hid (nx HW7.out hb8)
                clear hb8 c0
                go_wp2_with fail
                refine (HUs.out _ HW8.out).mono ?_
                rintro e w9 ⟨v, rfl, hou, hb9⟩
                obtain ⟨A10, c10, rfl, hz9⟩ := zg_own hou
                have HZ9 := Lib.hid hz9
                have HW9 := Lib.hid (nx HW8.out hb9)
                clear hou hz9 hb9
                go_wp2_with fail
                refine (HSm2.out A10 c10 _ HW9.out HZ9.out).mono ?_
                rintro e w10 ⟨rfl, hb10⟩
                have HW10 := Lib.hid (nx HW9.out hb10)
                clear hb10
                go_wp2_with fail
                refine (HLv.out _).mono ?_
                rintro e w11 ⟨rfl, hb11⟩
                have HF := Lib.hid (SemI.nx HB0.out (SemI.nx HB5.out (nx HBw.out (nx HW10.out hb11))))
                clear hb11
                go_wp2_with fail
                go_ret
                exact ⟨rfl, by first | exact HF.out | (rw [← hbx]; exact HF.out)⟩
                
end Go.Proofs.Ytihhojgnilbfnaa.PfCl
