/- A slice of ops, and natural numbers, that came in. -/
import Derived.Test.YtnkkmppmfjekeaaItQ
import Derived.SliceStrings
import Derived.Deep.DeepHandedRow
import Derived.ProofKit
import Derived.OpenShut
import Derived.ShutString
import Derived.ChangeOld
import Derived.Below
import Derived.Carry
namespace Go.Proofs.Ytnkkmppmfjekeaa.ItO
open Go.ChangeShapes Go.WideShapes Go.ChangeAt Go.RowKit
open Go.Proofs.Ytnkkmppmfjekeaa.ItP Go.Proofs.Ytnkkmppmfjekeaa.ItQ
set_option maxRecDepth 1000000
set_option linter.unusedVariables false
theorem list_of {α : Type} {P : Nat → α → Prop} : ∀ n, (∀ i, i < n → ∃ x, P i x) → ∃ L : List α, L.length = n ∧ ∀ i, (h : i < L.length) → P i L[i]
  | 0, _ => ⟨[], rfl, fun i h => absurd h (Nat.not_lt_zero i)⟩
  | n + 1, H => by
    obtain ⟨L, hl, hp⟩ := list_of n fun i hi => H i (by omega)
    obtain ⟨x, hx⟩ := H n (by omega)
    refine ⟨L ++ [x], by simp [hl], fun i h => ?_⟩
    by_cases hi : i < L.length
    · rw [List.getElem_append_left hi]; exact hp i hi
    · have : i = n := by simp at h; omega
      subst this
      rw [List.getElem_append_right (by omega)]
      simpa [hl] using hx
theorem add_off (b off j : Nat) : ((⟨b, off, none⟩ : Addr).add j) = ⟨b, off + j, none⟩ := by
  unfold Addr.add
  split
  · rename_i h; subst h; rfl
  · simp
theorem some_at {α : Type} {xs : List α} {n i : Nat} (h : xs.length = n) (hi : i < n) : ∃ y, xs[i]? = some y := ⟨xs[i]'(by omega), List.getElem?_eq_getElem _⟩
theorem wf_un {n : Int} (h : (Lit.int .u64 n).wf = true) : 0 ≤ n ∧ n < 18446744073709551616 := by
  simp only [Lit.wf, Bool.and_eq_true, decide_eq_true_eq] at h
  have e1 : IntKind.u64.min = 0 := by decide
  have e2 : IntKind.u64.max = 18446744073709551615 := by decide
  rw [e1, e2] at h
  omega
theorem cellsO : Try.prog.cellsOf 74 = 4 := by kernel_rfl
theorem cellsU : Try.prog.cellsOf 23 = 1 := by kernel_rfl
theorem uint_in {v : Value} {H : Type} {enc : TypeId × Value → H} {W : World} {base : Nat} {d : DataW H} {p : List MemPlace} (hval : Value.okWide Try.prog W .any base 23 v) (h : DataW.Trod enc Try.prog W 0 (fun _ => true) true 23 v d p) : ∃ n : Nat, v = .int .u64 n ∧ n < 18446744073709551616 := by
  obtain ⟨m, rfl⟩ := okWide_int Try.underlying23 hval
  obtain ⟨fuel, hf⟩ := h
  obtain ⟨n, h1, _, h3⟩ := DataW.trod_int Try.underlying23 hf
  obtain ⟨a, b⟩ := wf_un h3
  have e : m = n := by simpa [Value.cells] using h1
  subst e
  refine ⟨m.toNat, ?_, by omega⟩
  have e : ((m.toNat : Nat) : Int) = m := by omega
  rw [e]
section
variable {H : Type} {enc : TypeId × Value → H} {w : World} {base : Nat} {spare : Nat → Bool} {held : Bool} {fuel : Nat} {cs : List Value} {x : DataW H × List MemPlace}
theorem op_cells (h : DataW.trod enc Try.prog w base spare held fuel 74 cs = some x) : ∃ o : Op4, cs = Op4.cells o ∧ o.InR := by
  obtain ⟨xs, n, _, _, hl, hxl, hf⟩ := DataW.trod_struct Try.underlying74 h
  rw [cellsO] at hl
  match cs, hl with
  | [c0, c1, c2, c3], _ =>
    have h0 : DataW.trod enc Try.prog w base spare held n 23 (([c0, c1, c2, c3].drop 0).take (Try.prog.cellsOf 23)) = xs[0]? := hf 0 _ rfl
    obtain ⟨y0, e0⟩ := some_at (i := 0) hxl (by decide)
    rw [e0, cellsU] at h0
    obtain ⟨s0, a0, _, w0⟩ := DataW.trod_int Try.underlying23 h0
    have r0 := wf_un w0
    have h1 : DataW.trod enc Try.prog w base spare held n 23 (([c0, c1, c2, c3].drop 1).take (Try.prog.cellsOf 23)) = xs[1]? := hf 1 _ rfl
    obtain ⟨y1, e1⟩ := some_at (i := 1) hxl (by decide)
    rw [e1, cellsU] at h1
    obtain ⟨s1, a1, _, w1⟩ := DataW.trod_int Try.underlying23 h1
    have r1 := wf_un w1
    have h2 : DataW.trod enc Try.prog w base spare held n 23 (([c0, c1, c2, c3].drop 2).take (Try.prog.cellsOf 23)) = xs[2]? := hf 2 _ rfl
    obtain ⟨y2, e2⟩ := some_at (i := 2) hxl (by decide)
    rw [e2, cellsU] at h2
    obtain ⟨s2, a2, _, w2⟩ := DataW.trod_int Try.underlying23 h2
    have r2 := wf_un w2
    have h3 : DataW.trod enc Try.prog w base spare held n 23 (([c0, c1, c2, c3].drop 3).take (Try.prog.cellsOf 23)) = xs[3]? := hf 3 _ rfl
    obtain ⟨y3, e3⟩ := some_at (i := 3) hxl (by decide)
    rw [e3, cellsU] at h3
    obtain ⟨s3, a3, _, w3⟩ := DataW.trod_int Try.underlying23 h3
    have r3 := wf_un w3
    simp at a0 a1 a2 a3
    subst a0; subst a1; subst a2; subst a3
    refine ⟨⟨s0.toNat, s1.toNat, s2.toNat, s3.toNat⟩, ?_, ⟨by show s0.toNat < _; omega, by show s1.toNat < _; omega, by show s2.toNat < _; omega, by show s3.toNat < _; omega⟩⟩
    unfold Op4.cells
    have e0' : ((s0.toNat : Nat) : Int) = s0 := by omega
    have e1' : ((s1.toNat : Nat) : Int) = s1 := by omega
    have e2' : ((s2.toNat : Nat) : Int) = s2 := by omega
    have e3' : ((s3.toNat : Nat) : Int) = s3 := by omega
    simp only [e0', e1', e2', e3']
end
theorem open_ops {H : Type} {enc : TypeId × Value → H} {W : World} {base : Nat} {v : Value} {d : DataW H} {p : List MemPlace}
    (hval : Value.okWide Try.prog W .any base 22 v) (h : DataW.Trod enc Try.prog W 0 (fun _ => true) true 22 v d p) :
    ∃ (A : Option Addr) (c : Nat) (L : List Op4), v = .slice A L.length c ∧ OpsAt W A L ∧ ∀ o ∈ L, o.InR := by
  obtain ⟨a0, len, cap, rfl⟩ := okWide_slice Try.underlying22 hval
  obtain ⟨fuel, hf⟩ := h
  rcases DataW.trod_slice Try.underlying22 hf with ⟨hcs, hx⟩ | ⟨a, len', cap', elems, rest, n, _, hcs, hx, hb, hl, hm, hlen, hel, _⟩
  · simp [Value.cells] at hcs
    obtain ⟨rfl, rfl, rfl⟩ := hcs
    exact ⟨none, 0, [], rfl, fun h => by simp at h, fun x h => by cases h⟩
  · simp [Value.cells] at hcs
    obtain ⟨rfl, rfl, rfl⟩ := hcs
    have key : ∀ i, i < len → ∃ s : Op4, (∀ k, k < 4 → W.cell? (a.add (i * 4) |>.add k) = (Op4.cells s)[k]?) ∧ s.InR := fun i hi => by
      have q := hel i hi
      rw [cellsO] at q
      have hsome : ∃ y, elems[i]? = some y := some_at hlen hi
      obtain ⟨y, hy⟩ := hsome
      rw [hy, Option.bind_eq_some_iff] at q
      obtain ⟨cs, hc, ht⟩ := q
      obtain ⟨s, rfl, hr⟩ := op_cells ht
      obtain ⟨_, _, hat⟩ := World.cells?_some hc
      exact ⟨s, hat, hr⟩
    obtain ⟨L, hL, hp⟩ := list_of (P := fun i (s : Op4) => (∀ k, k < 4 → W.cell? (a.add (i * 4) |>.add k) = (Op4.cells s)[k]?) ∧ s.InR) len key
    refine ⟨some a, cap, L, by rw [hL], fun hpos => ?_, fun y hy => ?_⟩
    · have h1 := (hp 0 hpos).1 0 (by omega)
      obtain ⟨b, off, spot⟩ := a
      have h1' : W.cell? (((⟨b, off, spot⟩ : Addr).add (0 * 4)).add 0) = some (.int .u64 L[0].kind) := h1
      have hspot : spot = none := by simpa [Addr.add] using World.cell?_spot h1'
      subst hspot
      have hlt := World.block_lt_of_cell? _ _ h1'
      rw [add_off, add_off] at hlt
      refine ⟨b, off, rfl, hlt, fun j hj q u hu => ?_⟩
      have hq : q < 4 := (List.getElem?_eq_some_iff.1 hu).1
      have q0 := (hp j hj).1 q hq
      rw [add_off, add_off] at q0
      exact q0.trans hu
    · obtain ⟨j, hj, rfl⟩ := List.getElem_of_mem hy
      exact (hp j hj).2
end Go.Proofs.Ytnkkmppmfjekeaa.ItO
