/- The frame of HighTells: the contract. -/
import Derived.Test.YteabkbcbmimkgaaGreatDoorCards
import Derived.Test.YteabkbcbmimkgaaGreatDoorTie
import Derived.Test.YteabkbcbmimkgaaGreatDoorM02
import Derived.Test.YteabkbcbmimkgaaGreatDoorM11
import Derived.Test.YteabkbcbmimkgaaGreatDoorMHiP
set_option linter.unusedVariables false
set_option linter.unusedSimpArgs false
namespace Go.Proofs.YteabkbcbmimkgaaGreatDoor.HighTellsA
open Go.ChangeShapes Go.WideShapes Go.ChangeAt Go.RowKit
open Laid PolE
theorem own : ownKnob Tryz.prog.godebug = none := by kernel_rfl
theorem laidOut : laidOutB Tryz.prog = true := by kernel_rfl
theorem de64_eq : de64 = Lib.deBruijn64tab.map (fun n : Nat => (n : Int)) := by decide +kernel
theorem tabNamed : Tryz.prog.globalNamed "math/bits.deBruijn64tab" = some 0 := by kernel_rfl
theorem tabType : (Tryz.prog.globals[0]?).map (·.type) = some 221 := by kernel_rfl
theorem tabCells : Tryz.prog.cellsOf 221 = 64 := by kernel_rfl
theorem tabCell : Tryz.prog.cellsOf 5 = 1 := by kernel_rfl
theorem tab_met {W : World} (hL : laidMet Tryz.prog Rows.highTellsRow.laid W) : SetJ.Tab W := by
  obtain ⟨ps, hv, _⟩ := hL
  have hT := tab_of_mem (zs := de64) tabNamed tabType Tryz.underlying221 Tryz.underlying5 tabCell tabCells hv (List.mem_of_getElem? (l := Rows.highTellsRow.laid) (i := 1) (by kernel_rfl))
  intro j hj
  have h2 := hT.cell tabNamed j (by show j < 64; exact hj)
  rw [h2, de64_eq]
  congr 2
  rw [List.getD_eq_getElem?_getD, List.getD_eq_getElem?_getD, List.getElem?_map]
  cases Lib.deBruijn64tab[j]? <;> rfl
theorem pow_met {W : World} (hL : laidMet Tryz.prog Rows.highTellsRow.laid W) : Tab3.Pow W :=
  pow_of_laid hL (List.mem_of_getElem? (i := 2) (by kernel_rfl))
set_option maxRecDepth 1000000 in
theorem contract (H : Type) (enc : TypeId × Value → H) (W : World) (base : Nat) (args : Array Value) (ds gs : List (DataW H)) (before : List MemPlace)
    (hval : ∀ (j : Nat) t v, Tryz.f3.params[j]? = some t → args[j]? = some v → Value.okWide Tryz.prog W .any base t v)
    (hW : DataW.Whole enc Tryz.prog Tryz.f3.params.toList Rows.highTellsSpec.vars false W args.toList ds gs before) (hL : laidMet Tryz.prog Rows.highTellsRow.laid W) :
    Calls Tryz.prog 3 args W fun e W' => ∃ v, e = .returned v ∧ Rows.highTellsSpec.post enc Tryz.prog Tryz.f3 false true false false W args v W' := by
  have hW' := hW
  obtain ⟨p, q, hA0, hV, rfl, hfz, hnd⟩ := hW
  have hA : DataW.TrodAll enc Tryz.prog W 0 (fun _ => true) true Tryz.f3.params.toList args.toList ds p := hA0
  rw [Tryz.params3] at hA hval
  obtain ⟨v0, vs0, d0, ds0, p0, q0, hargs, rfl, rfl, h0, r0⟩ := trodAll_cons hA
  obtain ⟨v1, vs1, d1, ds1, p1, q1, rfl, rfl, rfl, h1, r1⟩ := trodAll_cons r0
  obtain ⟨rfl, rfl, rfl⟩ := trodAll_nil r1
  obtain rfl : args = #[v0, v1] := by cases args; simp_all
  obtain ⟨rfl, rfl⟩ := trodVars_none hV
  have k0 := h0
  have lt0 : ∀ x ∈ p0, x.block < W.heap.size := by obtain ⟨m, hm⟩ := k0; exact DataW.trod_lt m _ _ _ hm
  have k1 := h1
  have lt1 : ∀ x ∈ p1, x.block < W.heap.size := by obtain ⟨m, hm⟩ := k1; exact DataW.trod_lt m _ _ _ hm
  obtain ⟨y, A1, A2, A3, A4, c1, c2, c3, c4, rfl, hcame, hpg⟩ := PolOp.open_policy (hval 0 26 v0 rfl rfl) h0
  obtain ⟨s1, rfl⟩ := LwO.open_role (hval 1 28 v1 rfl rfl) h1
  clear hA0
  refine (HiP.law y A1 A2 A3 A4 c1 c2 c3 c4 s1 W (tab_met hL) (pow_met hL) hcame hpg).mono fun e W' ⟨he, bel⟩ => ?_
  subst he
  exact ⟨_, rfl, _, _, _, [], _, [], hW', trodAll_mk1 (shut_bool Tryz.underlying4 _), (trodAll_cons_mk (Below.trod laidOut (by kernel_rfl) (of_decide_eq_true (by kernel_rfl)) k0 bel lt0) (trodAll_cons_mk (Below.trod laidOut (by kernel_rfl) (of_decide_eq_true (by kernel_rfl)) k1 bel lt1) trodAll_mk0)), rfl, bel.frame _, fun h => by cases h⟩
end Go.Proofs.YteabkbcbmimkgaaGreatDoor.HighTellsA
