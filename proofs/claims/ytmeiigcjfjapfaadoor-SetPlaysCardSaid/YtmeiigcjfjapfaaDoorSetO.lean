/- A slice of pairs of numbers that came in reads as a list of them. -/
import Derived.Test.YtmeiigcjfjapfaaDoorSetF
import Derived.SliceStrings
import Derived.Deep.DeepHandedRow
import Derived.ProofKit
import Derived.OpenShut
import Derived.ShutString
import Derived.ChangeOld
import Derived.Below
import Derived.Carry
namespace Go.Proofs.YtmeiigcjfjapfaaDoor.SetO
open Go.ChangeShapes Go.WideShapes Go.ChangeAt Go.RowKit
open Go.Proofs.YtmeiigcjfjapfaaDoor.SetF
set_option linter.unusedVariables false
theorem list_of {α : Type} {P : Nat → α → Prop} : ∀ n, (∀ i, i < n → ∃ x, P i x) → ∃ L : List α, L.length = n ∧ ∀ i, (h : i < L.length) → P i L[i]
  | 0, _ => ⟨[], rfl, fun i h => absurd h (Nat.not_lt_zero i)⟩
  | n + 1, H => by
    obtain ⟨L, hl, hp⟩ := list_of n fun i hi => H i (by omega)
    obtain ⟨x, hx⟩ := H n (by omega)
    refine ⟨L ++ [x], by simp [hl], fun i h => ?_⟩
    by_cases hi : i < L.length
    · rw [List.getElem_append_left hi]; exact hp i hi
    · have : i = n := by simp at h; omega
      subst this
      rw [List.getElem_append_right (by omega)]
      simpa [hl] using hx
theorem add_off (b off j : Nat) : ((⟨b, off, none⟩ : Addr).add j) = ⟨b, off + j, none⟩ := by
  unfold Addr.add
  split
  · rename_i h; subst h; rfl
  · simp
theorem cells3 : Tryd.prog.cellsOf 3 = 1 := by kernel_rfl
theorem cellsP : Tryd.prog.cellsOf 27 = 2 := by kernel_rfl
section
variable {H : Type} {enc : TypeId × Value → H} {w : World} {base : Nat} {spare : Nat → Bool} {held : Bool} {fuel : Nat} {cs : List Value} {x : DataW H × List MemPlace}
theorem some_at {α : Type} {xs : List α} {n i : Nat} (h : xs.length = n) (hi : i < n) : ∃ y, xs[i]? = some y := ⟨xs[i]'(by omega), List.getElem?_eq_getElem _⟩
theorem pair_cells (h : DataW.trod enc Tryd.prog w base spare held fuel 27 cs = some x) : ∃ r : Int × Int, cs = [.int .i64 r.1, .int .i64 r.2] := by
  obtain ⟨xs, n, _, _, hl, hxl, hf⟩ := DataW.trod_array Tryd.underlying27 h
  rw [cellsP] at hl
  match cs, hl with
  | [c0, c1], _ =>
    have h0 : DataW.trod enc Tryd.prog w base spare held n 3 (([c0, c1].drop (0 * Tryd.prog.cellsOf 3)).take (Tryd.prog.cellsOf 3)) = xs[0]? := hf 0 (by decide)
    have h1 : DataW.trod enc Tryd.prog w base spare held n 3 (([c0, c1].drop (1 * Tryd.prog.cellsOf 3)).take (Tryd.prog.cellsOf 3)) = xs[1]? := hf 1 (by decide)
    obtain ⟨y0, e0⟩ := some_at (i := 0) hxl (by decide)
    obtain ⟨y1, e1⟩ := some_at (i := 1) hxl (by decide)
    rw [e0] at h0
    rw [e1] at h1
    rw [cells3] at h0 h1
    obtain ⟨s0, a0, _, _⟩ := DataW.trod_int Tryd.underlying3 h0
    obtain ⟨s1, a1, _, _⟩ := DataW.trod_int Tryd.underlying3 h1
    simp at a0 a1
    subst a0; subst a1
    exact ⟨(s0, s1), rfl⟩
end
set_option maxRecDepth 1000000 in
theorem open_pairs {H : Type} {enc : TypeId × Value → H} {W : World} {base : Nat} {v : Value} {d : DataW H} {p : List MemPlace}
    (hval : Value.okWide Tryd.prog W .any base 22 v) (h : DataW.Trod enc Tryd.prog W 0 (fun _ => true) true 22 v d p) :
    ∃ (A : Option Addr) (c : Nat) (L : List (Int × Int)), v = .slice A L.length c ∧ L.length ≤ c ∧ c ≤ maxLen ∧ PrG W A L := by
  obtain ⟨a0, len, cap, rfl⟩ := okWide_slice Tryd.underlying22 hval
  obtain ⟨fuel, hf⟩ := h
  rcases DataW.trod_slice Tryd.underlying22 hf with ⟨hcs, hx⟩ | ⟨a, len', cap', elems, rest, n, _, hcs, hx, hb, hl, hm, hlen, hel, _⟩
  · simp [Value.cells] at hcs
    obtain ⟨rfl, rfl, rfl⟩ := hcs
    exact ⟨none, 0, [], rfl, by simp, by simp [maxLen], fun h => by simp at h⟩
  · simp [Value.cells] at hcs
    obtain ⟨rfl, rfl, rfl⟩ := hcs
    have key : ∀ i, i < len → ∃ s : Int × Int, ∀ k, k < 2 → W.cell? (a.add (i * 2) |>.add k) = ([.int .i64 s.1, .int .i64 s.2] : List Value)[k]? := fun i hi => by
      have q := hel i hi
      rw [cellsP] at q
      have hsome : ∃ y, elems[i]? = some y := some_at hlen hi
      obtain ⟨y, hy⟩ := hsome
      rw [hy, Option.bind_eq_some_iff] at q
      obtain ⟨cs, hc, ht⟩ := q
      obtain ⟨s, rfl⟩ := pair_cells ht
      obtain ⟨_, _, hat⟩ := World.cells?_some hc
      exact ⟨s, hat⟩
    obtain ⟨L, hL, hp⟩ := list_of (P := fun i (s : Int × Int) => ∀ k, k < 2 → W.cell? (a.add (i * 2) |>.add k) = ([.int .i64 s.1, .int .i64 s.2] : List Value)[k]?) len key
    refine ⟨some a, cap, L, by rw [hL], by omega, hm, fun hpos => ?_⟩
    have h1 := hp 0 hpos 0 (by omega)
    obtain ⟨b, off, spot⟩ := a
    have h1' : W.cell? (((⟨b, off, spot⟩ : Addr).add (0 * 2)).add 0) = some (.int .i64 L[0].1) := h1
    have hspot : spot = none := by simpa [Addr.add] using World.cell?_spot h1'
    subst hspot
    have hlt := World.block_lt_of_cell? _ _ h1'
    rw [add_off, add_off] at hlt
    refine ⟨b, off, rfl, hlt, fun j hj => ?_⟩
    have q0 := hp j hj 0 (by omega)
    have q1 := hp j hj 1 (by omega)
    rw [add_off, add_off] at q0 q1
    exact ⟨q0, q1⟩
end Go.Proofs.YtmeiigcjfjapfaaDoor.SetO
