/- The walk of the law of sums. -/
import Derived.Test.YtmeiigcjfjapfaaDoorSetE
import Derived.ChangeKeysEq
import Derived.Deep.CutBlock
import Derived.Deep.LoopGhost
namespace Go.Proofs.YtmeiigcjfjapfaaDoor.SetF
open Go.RowKit Go.Lib Go.Proofs Go.Proofs.YtmeiigcjfjapfaaDoor.SetPop Go.Proofs.YtmeiigcjfjapfaaDoor.SetA Go.Proofs.YtmeiigcjfjapfaaDoor.SetB Go.Proofs.YtmeiigcjfjapfaaDoor.SetC Go.Proofs.YtmeiigcjfjapfaaDoor.SetD Go.Proofs.YtmeiigcjfjapfaaDoor.SetE
set_option linter.unusedVariables false
set_option linter.unusedSimpArgs false
/-- A slice value that reads as pairs of numbers, wherever it lies. -/
def PrG (w : World) (A : Option Addr) (L : List (Int × Int)) : Prop :=
  0 < L.length → ∃ g o, A = some ⟨g, o, none⟩ ∧ g < w.heap.size ∧ ∀ j, (h : j < L.length) → w.cell? ⟨g, o + j * 2, none⟩ = some (.int .i64 L[j].1) ∧ w.cell? ⟨g, o + j * 2 + 1, none⟩ = some (.int .i64 L[j].2)
theorem PrG.below {w w' : World} {A : Option Addr} {L : List (Int × Int)} (h : PrG w A L) (hb : Below w.heap.size w w') : PrG w' A L := fun hp => by
  obtain ⟨g, o, hA, hg, hc⟩ := h hp
  refine ⟨g, o, hA, Nat.lt_of_lt_of_le hg hb.size, fun j hj => ?_⟩
  obtain ⟨a, b⟩ := hc j hj
  exact ⟨(hb.cell (p := ⟨g, o + j * 2, none⟩) hg).trans a, (hb.cell (p := ⟨g, o + j * 2 + 1, none⟩) hg).trans b⟩
theorem PrG.take {w : World} {A : Option Addr} {L : List (Int × Int)} (h : PrG w A L) (m : Nat) : PrG w A (L.take m) := fun hp => by
  obtain ⟨g, o, hA, hg, hc⟩ := h (by simp at hp; omega)
  refine ⟨g, o, hA, hg, fun j hj => ?_⟩
  rw [List.getElem_take]
  exact hc j (by simp at hj; omega)
theorem eqI (d : Nat) (a b : Int) (w : World) : (Op.equalIn (d + 1) 3 (.int .i64 a) (.int .i64 b)).run Tryd.prog w = .ok (a == b) w := by
  simp [Op.equalIn, run_underlying Tryd.underlying3]
theorem keyI : (Tryd.prog).plainKey 3 = true := by kernel_rfl
theorem cellsI : (Tryd.prog).cellsOf 3 = 1 := by kernel_rfl
theorem infoI : ∃ i, (Tryd.prog).info? 3 = some i := by
  cases h : (Tryd.prog).info? 3 with
  | none => exact absurd h (by intro h; have : ((Tryd.prog).info? 3).isSome = true := by kernel_rfl
                               rw [h] at this; cases this)
  | some i => exact ⟨i, rfl⟩
theorem eqP (a b a2 b2 : Int) (w : World) : (binOp .eql 27 (.agg #[.int .i64 a, .int .i64 b]) (.agg #[.int .i64 a2, .int .i64 b2])).run Tryd.prog w = .ok (.bool (decide (a = a2 ∧ b = b2))) w := by
  obtain ⟨i, hi⟩ := infoI
  have h := run_equalIn_array (P := Tryd.prog) w 9999 #[.int .i64 a, .int .i64 b] #[.int .i64 a2, .int .i64 b2] Tryd.underlying27 hi
  have h2 : (Op.equalIn 10000 27 (.agg #[.int .i64 a, .int .i64 b]) (.agg #[.int .i64 a2, .int .i64 b2])).run Tryd.prog w = .ok (decide (a = a2 ∧ b = b2)) w := by
    refine h.trans ?_
    rw [cellsI]
    have p0 := run_part_plain (P := Tryd.prog) w keyI (xs := #[.int .i64 a, .int .i64 b]) (off := 0) (v := .int .i64 a) rfl
    have p1 := run_part_plain (P := Tryd.prog) w keyI (xs := #[.int .i64 a, .int .i64 b]) (off := 1) (v := .int .i64 b) rfl
    have q0 := run_part_plain (P := Tryd.prog) w keyI (xs := #[.int .i64 a2, .int .i64 b2]) (off := 0) (v := .int .i64 a2) rfl
    have q1 := run_part_plain (P := Tryd.prog) w keyI (xs := #[.int .i64 a2, .int .i64 b2]) (off := 1) (v := .int .i64 b2) rfl
    have e0 : (Op.equalIn 9999 3 (.int .i64 a) (.int .i64 a2)).run Tryd.prog w = .ok (a == a2) w := eqI 9998 a a2 w
    have e1 : (Op.equalIn 9999 3 (.int .i64 b) (.int .i64 b2)).run Tryd.prog w = .ok (b == b2) w := eqI 9998 b b2 w
    simp only [List.range, List.range.loop, Op.eqItems, Sem.run_bind, Nat.zero_mul, Nat.one_mul, p0, p1, q0, q1, Result.andThen_ok, e0, e1]
    by_cases h0 : a = a2
    rotate_left
    · simp [h0]
    subst h0
    by_cases h1 : b = b2
    · subst h1
      simp [p1, q1, e1]
    · simp [p1, q1, e1, h1]
  clear h
  simp only [go_sem]
  go_simp
end Go.Proofs.YtmeiigcjfjapfaaDoor.SetF
