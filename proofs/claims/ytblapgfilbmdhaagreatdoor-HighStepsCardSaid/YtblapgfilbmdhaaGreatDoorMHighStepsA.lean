/- The frame of HighSteps: the contract. -/
import Derived.Test.YtblapgfilbmdhaaGreatDoorCards
import Derived.Test.YtblapgfilbmdhaaGreatDoorTie
import Derived.Test.YtblapgfilbmdhaaGreatDoorM02
import Derived.Test.YtblapgfilbmdhaaGreatDoorM11
import Derived.Test.YtblapgfilbmdhaaGreatDoorMHiU
set_option linter.unusedVariables false
set_option linter.unusedSimpArgs false
namespace Go.Proofs.YtblapgfilbmdhaaGreatDoor.HighStepsA
open Go.ChangeShapes Go.WideShapes Go.ChangeAt Go.RowKit
open Laid PolE
theorem own : ownKnob Tryz.prog.godebug = none := by kernel_rfl
theorem laidOut : laidOutB Tryz.prog = true := by kernel_rfl
theorem de64_eq : de64 = Lib.deBruijn64tab.map (fun n : Nat => (n : Int)) := by decide +kernel
theorem tabNamed : Tryz.prog.globalNamed "math/bits.deBruijn64tab" = some 0 := by kernel_rfl
theorem tabType : (Tryz.prog.globals[0]?).map (·.type) = some 199 := by kernel_rfl
theorem tabCells : Tryz.prog.cellsOf 199 = 64 := by kernel_rfl
theorem tabCell : Tryz.prog.cellsOf 5 = 1 := by kernel_rfl
theorem tab_met {W : World} (hL : laidMet Tryz.prog Rows.highStepsRow.laid W) : SetJ.Tab W := by
  obtain ⟨ps, hv, _⟩ := hL
  have hT := tab_of_mem (zs := de64) tabNamed tabType Tryz.underlying199 Tryz.underlying5 tabCell tabCells hv (List.mem_of_getElem? (l := Rows.highStepsRow.laid) (i := 1) (by kernel_rfl))
  intro j hj
  have h2 := hT.cell tabNamed j (by show j < 64; exact hj)
  rw [h2, de64_eq]
  congr 2
  rw [List.getD_eq_getElem?_getD, List.getD_eq_getElem?_getD, List.getElem?_map]
  cases Lib.deBruijn64tab[j]? <;> rfl
theorem pow_met {W : World} (hL : laidMet Tryz.prog Rows.highStepsRow.laid W) : Tab3.Pow W :=
  pow_of_laid hL (List.mem_of_getElem? (i := 2) (by kernel_rfl))
set_option maxRecDepth 1000000 in
theorem contract (H : Type) (enc : TypeId × Value → H) (W : World) (base : Nat) (args : Array Value) (ds gs : List (DataW H)) (before : List MemPlace)
    (hval : ∀ (j : Nat) t v, Tryz.f3.params[j]? = some t → args[j]? = some v → Value.okWide Tryz.prog W .any base t v)
    (hW : DataW.Whole enc Tryz.prog Tryz.f3.params.toList Rows.highStepsSpec.vars false W args.toList ds gs before) (hL : laidMet Tryz.prog Rows.highStepsRow.laid W) :
    Calls Tryz.prog 3 args W fun e W' => ∃ v, e = .returned v ∧ Rows.highStepsSpec.post enc Tryz.prog Tryz.f3 false true false false W args v W' := by
  have hW' := hW
  obtain ⟨p, q, hA0, hV, rfl, hfz, hnd⟩ := hW
  have hA : DataW.TrodAll enc Tryz.prog W 0 (fun _ => true) true Tryz.f3.params.toList args.toList ds p := hA0
  rw [Tryz.params3] at hA hval
  obtain ⟨v0, vs0, d0, ds0, p0, q0, hargs, rfl, rfl, h0, r0⟩ := trodAll_cons hA
  obtain ⟨v1, vs1, d1, ds1, p1, q1, rfl, rfl, rfl, h1, r1⟩ := trodAll_cons r0
  obtain ⟨v2, vs2, d2, ds2, p2, q2, rfl, rfl, rfl, h2, r2⟩ := trodAll_cons r1
  obtain ⟨rfl, rfl, rfl⟩ := trodAll_nil r2
  obtain rfl : args = #[v0, v1, v2] := by cases args; simp_all
  obtain ⟨rfl, rfl⟩ := trodVars_none hV
  have k0 := h0
  have lt0 : ∀ x ∈ p0, x.block < W.heap.size := by obtain ⟨m, hm⟩ := k0; exact DataW.trod_lt m _ _ _ hm
  have k1 := h1
  have lt1 : ∀ x ∈ p1, x.block < W.heap.size := by obtain ⟨m, hm⟩ := k1; exact DataW.trod_lt m _ _ _ hm
  have k2 := h2
  have lt2 : ∀ x ∈ p2, x.block < W.heap.size := by obtain ⟨m, hm⟩ := k2; exact DataW.trod_lt m _ _ _ hm
  obtain ⟨y, A1, A2, A3, A4, c1, c2, c3, c4, rfl, hcame, hpg⟩ := PolOp.open_policy (hval 0 26 v0 rfl rfl) h0
  obtain ⟨B1, d1r, L1, rfl, hL1, hS1⟩ := LwO.open_roles (hval 1 23 v1 rfl rfl) h1
  obtain ⟨s2, rfl⟩ := LwO.open_role (hval 2 28 v2 rfl rfl) h2
  clear hA0
  refine (HiU.law y A1 A2 A3 A4 c1 c2 c3 c4 B1 d1r L1 s2 W (tab_met hL) (pow_met hL) hcame hpg hL1 hS1).mono fun e W' ⟨he, bel⟩ => ?_
  subst he
  exact ⟨_, rfl, _, _, _, [], _, [], hW', trodAll_mk1 (shut_bool Tryz.underlying4 _), (trodAll_cons_mk (Below.trod laidOut (by kernel_rfl) (of_decide_eq_true (by kernel_rfl)) k0 bel lt0) (trodAll_cons_mk (Below.trod laidOut (by kernel_rfl) (of_decide_eq_true (by kernel_rfl)) k1 bel lt1) (trodAll_cons_mk (Below.trod laidOut (by kernel_rfl) (of_decide_eq_true (by kernel_rfl)) k2 bel lt2) trodAll_mk0))), rfl, bel.frame _, fun h => by cases h⟩
end Go.Proofs.YtblapgfilbmdhaaGreatDoor.HighStepsA
