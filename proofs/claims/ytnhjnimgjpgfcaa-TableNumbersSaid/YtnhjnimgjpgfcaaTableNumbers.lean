/- For all rows of texts and every statement: the numbers of roles and the rule of the statement are those that the document says, there are as many roles, principals and names, each number is that of its role, and numbers beyond are of no role (of at most 40 texts each, of at most 40 bytes); and the document's example stands. No condition. -/
import Derived.Test.YtnhjnimgjpgfcaaRows
import Derived.Test.YtnhjnimgjpgfcaaTblJ
import Derived.Test.YtnhjnimgjpgfcaaTblO
namespace Go.Proofs.Ytnhjnimgjpgfcaa.TableNumbers
open Go.ChangeShapes Go.WideShapes Go.ChangeAt Go.RowKit
open Go.Proofs.Ytnhjnimgjpgfcaa.SynP Go.Proofs.Ytnhjnimgjpgfcaa.Tab1 Go.Proofs.Ytnhjnimgjpgfcaa.TabP Go.Proofs.Ytnhjnimgjpgfcaa.Tab6 Go.Proofs.Ytnhjnimgjpgfcaa.TblM Go.Proofs.Ytnhjnimgjpgfcaa.TblO Go.Proofs.Ytnhjnimgjpgfcaa.TblJ
set_option linter.unusedVariables false
theorem own : ownKnob Try.prog.godebug = none := by kernel_rfl
theorem laidOut : laidOutB Try.prog = true := by kernel_rfl
theorem walk (A B : Option Addr) (ca cb : Nat) (P0 L0 : List Str) (s : St) (w : World) (hP : P0.length ≤ maxLen) (hwP : ∀ x ∈ P0, x.length ≤ maxLen) (hA : SRow w A P0) (hL : L0.length ≤ maxLen) (hwL : ∀ x ∈ L0, x.length ≤ maxLen) (hB : SRow w B L0)
    (hf : s.fit) : Calls Try.prog 3 #[.slice A P0.length ca, .slice B L0.length cb, s.val] w fun e w' => e = .returned (.bool true) ∧ RowKit.Below w.heap.size w w' := by
  cases h : (lightB P0 && lightB L0 && lightS s) with
  | false => exact dark A B ca cb P0 L0 s w hP hwP hA hL hwL hB h
  | true =>
    rw [Bool.and_eq_true, Bool.and_eq_true] at h
    exact bright A B ca cb P0 L0 s w hP hwP hA hL hwL hB hf h.1.1 h.1.2 h.2
set_option maxRecDepth 1000000 in
theorem lifted (os : Os) (started : os.Started) (H : Type) (enc : TypeId × Value → H) :
    ReturnsInHanded {} Try.checked os 3 .any (Rows.tableNumbersSpec.pre6 enc Try.prog Try.f3 Rows.tableNumbersRow.domain false) (Rows.tableNumbersSpec.post enc Try.prog Try.f3 false true false false) := by
  refine returnsInHanded_of_change (C := Try.checked) own started (by kernel_rfl) Try.func3
    (ChangeSpec.witness6 (enc := enc) (C := Try.checked) false ⟨#[], #[.slice none 0 0, .slice none 0 0, zeroS.val], []⟩ 8 (by kernel_rfl) (by kernel_rfl) (by kernel_rfl) (by kernel_rfl)) ?_
  intro W base args ds gs before hval0 hW hcnd _
  have hval : ∀ (j : Nat) t v, Try.f3.params[j]? = some t → args[j]? = some v → Value.okWide Try.prog W .any base t v := hval0
  have hW' := hW
  obtain ⟨p, q, hA0, hV, rfl, hfz, hnd⟩ := hW
  have hA : DataW.TrodAll enc Try.prog W 0 (fun _ => true) true Try.f3.params.toList args.toList ds p := hA0
  rw [Try.params3] at hA hval
  obtain ⟨v0, vs0, d0, ds0, p0, q0, hargs, rfl, rfl, h0, r0⟩ := trodAll_cons hA
  obtain ⟨v1, vs1, d1, ds1, p1, q1, rfl, rfl, rfl, h1, r1⟩ := trodAll_cons r0
  obtain ⟨v2, vs2, d2, ds2, p2, q2, rfl, rfl, rfl, h2, r2⟩ := trodAll_cons r1
  obtain ⟨rfl, rfl, rfl⟩ := trodAll_nil r2
  obtain rfl : args = #[v0, v1, v2] := by cases args; simp_all
  obtain ⟨rfl, rfl⟩ := trodVars_none hV
  have k0 := h0
  have lt0 : ∀ x ∈ p0, x.block < W.heap.size := by obtain ⟨m, hm⟩ := k0; exact DataW.trod_lt m _ _ _ hm
  have k1 := h1
  have lt1 : ∀ x ∈ p1, x.block < W.heap.size := by obtain ⟨m, hm⟩ := k1; exact DataW.trod_lt m _ _ _ hm
  have k2 := h2
  have lt2 : ∀ x ∈ p2, x.block < W.heap.size := by obtain ⟨m, hm⟩ := k2; exact DataW.trod_lt m _ _ _ hm
  obtain ⟨A, ca, T0, rfl, hL0, hw0, hr0⟩ := open_row (hval 0 22 v0 rfl rfl) h0
  obtain ⟨B, cb, T1, rfl, hL1, hw1, hr1⟩ := open_row (hval 1 22 v1 rfl rfl) h1
  obtain ⟨s, rfl, hs⟩ := open_stmt (hval 2 26 v2 rfl rfl) h2
  clear hA0 hval0
  refine (walk A B ca cb T0 T1 s W hL0 hw0 hr0 hL1 hw1 hr1 hs).mono fun e W' ⟨he, bel⟩ => ?_
  subst he
  exact ⟨_, rfl, _, _, _, [], _, [], hW', trodAll_mk1 (shut_bool Try.underlying4 _), (trodAll_cons_mk (Below.trod laidOut (by kernel_rfl) (of_decide_eq_true (by kernel_rfl)) k0 bel lt0) (trodAll_cons_mk (Below.trod laidOut (by kernel_rfl) (of_decide_eq_true (by kernel_rfl)) k1 bel lt1) (trodAll_cons_mk (Below.trod laidOut (by kernel_rfl) (of_decide_eq_true (by kernel_rfl)) k2 bel lt2) trodAll_mk0))), rfl, bel.frame _, fun h => by cases h⟩
theorem over : Rows.tableNumbersRow.holds Try.pinned (OpenSpec.ofChange Rows.tableNumbersSpec) :=
  OpenClaim.holds_of_wide 3 Try.f3 rfl rfl rfl rfl rfl rfl rfl ⟨rfl, rfl, rfl, rfl, rfl⟩ rfl rfl rfl rfl rfl (by kernel_rfl) Try.func3 (by kernel_rfl)
    (of_decide_eq_true (by kernel_rfl)) (by unfold Func.isWrapper; first | (rw [if_pos (by decide +kernel)]; kernel_rfl) | (rw [if_neg (by decide +kernel)]; exact ⟨rfl, rfl⟩))
    (fun os started H enc _ => lifted os started H enc)
theorem proved : Rows.TableNumbersSaid := over
end Go.Proofs.Ytnhjnimgjpgfcaa.TableNumbers
