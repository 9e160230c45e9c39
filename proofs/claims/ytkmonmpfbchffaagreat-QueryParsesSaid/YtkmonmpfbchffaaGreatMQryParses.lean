/- For every line (its first 300 bytes): the program's query of it is the document's, or the same error at the same place; whether the line begins like a query is told as the document tells it; and the document's example stands. No condition. -/
import Derived.Test.YtkmonmpfbchffaaGreatRows
import Derived.Test.YtkmonmpfbchffaaGreatM20
import Derived.Test.YtkmonmpfbchffaaGreatM16
import Derived.Test.YtkmonmpfbchffaaGreatM21
import Derived.Test.YtkmonmpfbchffaaGreatM23
import Derived.ProofKit
import Derived.OpenShut
import Derived.ShutString
import Derived.ChangeOld
import Derived.Below
import Derived.Carry
namespace Go.Proofs.YtkmonmpfbchffaaGreat.QryParses
set_option linter.unusedVariables false
set_option linter.unusedSimpArgs false
open Go.ChangeShapes Go.WideShapes Go.ChangeAt Go.RowKit
open Go.ChangeMaps (open_string shut_string)
open Go.Proofs.YtkmonmpfbchffaaGreat.QryE Go.Proofs.YtkmonmpfbchffaaGreat.Scan4 Go.Proofs.YtkmonmpfbchffaaGreat.SynR Go.Proofs.YtkmonmpfbchffaaGreat.SynQ Go.Proofs.YtkmonmpfbchffaaGreat.SynU Go.Proofs.YtkmonmpfbchffaaGreat.SynX Go.Proofs.YtkmonmpfbchffaaGreat.Scan2 Go.Proofs.YtkmonmpfbchffaaGreat.Scan3
theorem own : ownKnob Tryz.prog.godebug = none := by kernel_rfl
theorem parseRef (t : ByteArray) (w : World) (h : t.size ≤ 1000000) : Calls Tryz.prog 10 #[.string t] w (AskPost (askA (ansOf t)) w) := by
  cases e : ansOf t with
  | bad c er => exact QryRp.parseRef_bad t w h c er e
  | ok L => exact QryRs.parseRef_ok QryZ.goes t w h L e
set_option maxRecDepth 1000000 in
theorem lifted (os : Os) (started : os.Started) (H : Type) (enc : TypeId × Value → H) :
    ReturnsInHanded {} Tryz.checked os 3 .any (Rows.queryParsesSpec.pre6 enc Tryz.prog Tryz.f3 Rows.queryParsesRow.domain false) (Rows.queryParsesSpec.post enc Tryz.prog Tryz.f3 false true false false) := by
  refine returnsInHanded_of_change (C := Tryz.checked) own started (by kernel_rfl) Tryz.func3
    (ChangeSpec.witness6 (enc := enc) (C := Tryz.checked) false ⟨#[], #[.string ⟨#[]⟩], []⟩ 8 (by kernel_rfl) (by kernel_rfl) (by kernel_rfl) (by kernel_rfl)) ?_
  intro W base args ds gs before hval0 hW hcnd _
  have hval : ∀ (j : Nat) t v, Tryz.f3.params[j]? = some t → args[j]? = some v → Value.okWide Tryz.prog W .any base t v := hval0
  have hW' := hW
  obtain ⟨p, q, hA0, hV, rfl, hfz, hnd⟩ := hW
  have hA : DataW.TrodAll enc Tryz.prog W 0 (fun _ => true) true Tryz.f3.params.toList args.toList ds p := hA0
  rw [Tryz.params3] at hA hval
  obtain ⟨v0, vs0, d0, ds0, p0, q0, hargs, rfl, rfl, h0, r0⟩ := trodAll_cons hA
  obtain ⟨rfl, rfl, rfl⟩ := trodAll_nil r0
  obtain rfl : args = #[v0] := by cases args; simp_all
  obtain ⟨rfl, rfl⟩ := trodVars_none hV
  obtain ⟨s, rfl, rfl, rfl, hs⟩ := open_string Tryz.underlying9 (hval 0 9 v0 rfl rfl) h0
  clear hA0 hval0
  refine (QryPl.walk parseRef s W hs).mono fun e W' ⟨he, bel⟩ => ?_
  subst he
  exact ⟨_, rfl, _, _, _, [], _, [], hW', trodAll_mk1 (shut_bool Tryz.underlying4 _), (trodAll_cons_mk (shut_string Tryz.underlying9 hs) trodAll_mk0), rfl, bel.frame _, fun h => by cases h⟩
theorem over : Rows.queryParsesRow.holds Tryz.pinned (OpenSpec.ofChange Rows.queryParsesSpec) :=
  OpenClaim.holds_of_wide 3 Tryz.f3 rfl rfl rfl rfl rfl rfl rfl ⟨rfl, rfl, rfl, rfl, rfl⟩ rfl rfl rfl rfl rfl (by kernel_rfl) Tryz.func3 (by kernel_rfl)
    (of_decide_eq_true (by kernel_rfl)) (by unfold Func.isWrapper; first | (rw [if_pos (by decide +kernel)]; kernel_rfl) | (rw [if_neg (by decide +kernel)]; exact ⟨rfl, rfl⟩))
    (fun os started H enc _ => lifted os started H enc)
theorem proved : Rows.QueryParsesSaid := over
end Go.Proofs.YtkmonmpfbchffaaGreat.QryParses
