/- For every line: the program's tokens of it (of its first 300 bytes) are the document's, or the same error at the same place; and the document's example stands. No condition. -/
import Derived.Test.YtpdgjkjbimkmjaaRows
import Derived.Test.YtpdgjkjbimkmjaaLives2
import Derived.ProofKit
import Derived.OpenShut
import Derived.ShutString
import Derived.ChangeOld
import Derived.Below
namespace Go.Proofs.Ytpdgjkjbimkmjaa.ScanTokens
open Go.ChangeShapes Go.WideShapes Go.ChangeAt Go.RowKit
open Go.ChangeMaps (open_string shut_string)
open Go.Proofs.Ytpdgjkjbimkmjaa.Plain Go.Proofs.Ytpdgjkjbimkmjaa.Scan3 Go.Proofs.Ytpdgjkjbimkmjaa.Scan4 Go.Proofs.Ytpdgjkjbimkmjaa.Scan5 Go.Proofs.Ytpdgjkjbimkmjaa.Lives2
set_option linter.unusedVariables false
theorem own : ownKnob Try.prog.godebug = none := by kernel_rfl
theorem laidOut : laidOutB Try.prog = true := by kernel_rfl
theorem tkRun_len (s : ByteArray) : ∀ (n k : Nat) (L : List Tk), s.size - k ≤ n → (okToks (tkRun s k L)).length ≤ L.length + n := by
  intro n
  induction n with
  | zero =>
    intro k L hn
    rw [tkRun_end (by omega)]
    simp [okToks]
  | succ n ih =>
    intro k L hn
    by_cases h : k < s.size
    · cases hs : tkStep s k h with
      | skip =>
        rw [tkRun_skip h hs]
        have := ih (k + 1) L (by omega)
        omega
      | tok kind m =>
        rw [tkRun_tok h hs]
        have := ih (k + m + 1) (L ++ [⟨kind, s.extract k (k + (m + 1)), k + 1⟩]) (by omega)
        rw [List.length_append, List.length_singleton] at this
        omega
      | bad e => rw [tkRun_bad h hs]; simp [okToks]
    · rw [tkRun_end h]; simp [okToks]
theorem toks_len (t : ByteArray) : (okToks (ansOf t)).length ≤ 100000 := by
  unfold ansOf
  split
  · simp [okToks]
  · have h1 := tkRun_len (bare t) (bare t).size 0 [] (by omega)
    have h2 := bare_le t
    simp only [List.length_nil] at h1
    omega
set_option maxRecDepth 100000 in
theorem walk (s : ByteArray) (w : World) (hs : s.size ≤ maxLen) :
    Calls Try.prog 3 #[.string s] w fun e w' => e = .returned (.bool true) ∧ Below w.heap.size w w' := by
  unfold maxLen at hs
  go_enter Try.func3, Try.ntmps3
  go_wp2_with fail
  have hsz : (s.extract 0 (min (s.size : Int) 300).toNat).size ≤ 1000000 := by
    rw [ByteArray.size_extract]; omega
  generalize s.extract 0 (min (s.size : Int) 300).toNat = t at *
  refine (tokens t _ hsz).mono ?_
  rintro e w1 ⟨v1, rfl, hown1, hb1⟩
  obtain ⟨A, ca, rfl, _, hr1⟩ := TkRow.of_own hown1
  clear hown1
  go_wp2_with (go_at_call 5; refine (tokensRef t _ hsz).mono ?_)
  rintro e w2 ⟨v2, rfl, hown2, hb2⟩
  obtain ⟨B, cb, rfl, _, hr2⟩ := TkRow.of_own hown2
  have hr3 := hr1.below hb2
  have hlen := toks_len t
  clear hown2 hr1
  go_wp2_with (go_at_call 6; refine (alike A B ca cb _ _ hlen hr3 hr2).mono ?_)
  rintro e w3 ⟨rfl, n, rfl⟩
  go_wp2_with (go_at_call 7; refine (lives _).mono ?_; rintro e w4 ⟨rfl, hb4⟩)
  go_ret
  exact ⟨rfl, hb1.trans ((hb2.mono hb1.size).trans ((below_drewN (Below.refl _ _) _).trans (hb4.mono (by have := hb1.size; have := hb2.size; simp; omega))))⟩

set_option maxRecDepth 100000 in
theorem lifted (os : Os) (started : os.Started) (H : Type) (enc : TypeId × Value → H) :
    ReturnsInHanded {} Try.checked os 3 .any (Rows.scanTokensSpec.pre6 enc Try.prog Try.f3 Rows.scanTokensRow.domain false) (Rows.scanTokensSpec.post enc Try.prog Try.f3 false true false false) := by
  refine returnsInHanded_of_change (C := Try.checked) own started (by kernel_rfl) Try.func3
    (ChangeSpec.witness6 (enc := enc) (C := Try.checked) false ⟨#[], #[.string ⟨#[]⟩], []⟩ 8 (by kernel_rfl) (by kernel_rfl) (by kernel_rfl) (by kernel_rfl)) ?_
  intro W base args ds gs before hval0 hW hcnd _
  have hval : ∀ (j : Nat) t v, Try.f3.params[j]? = some t → args[j]? = some v → Value.okWide Try.prog W .any base t v := hval0
  have hW' := hW
  obtain ⟨p, q, hA0, hV, rfl, hfz, hnd⟩ := hW
  have hA : DataW.TrodAll enc Try.prog W 0 (fun _ => true) true Try.f3.params.toList args.toList ds p := hA0
  rw [Try.params3] at hA hval
  obtain ⟨v0, vs0, d0, ds0, p0, q0, hargs, rfl, rfl, h0, r0⟩ := trodAll_cons hA
  obtain ⟨rfl, rfl, rfl⟩ := trodAll_nil r0
  obtain rfl : args = #[v0] := by cases args; simp_all
  obtain ⟨rfl, rfl⟩ := trodVars_none hV
  obtain ⟨s, rfl, rfl, rfl, hs⟩ := open_string Try.underlying9 (hval 0 9 v0 rfl rfl) h0
  clear hA0 hval0
  refine (walk s W hs).mono fun e W' ⟨he, bel⟩ => ?_
  subst he
  exact ⟨_, rfl, _, _, _, [], _, [], hW', trodAll_mk1 (shut_bool Try.underlying4 _), (trodAll_cons_mk (shut_string Try.underlying9 hs) trodAll_mk0), rfl, bel.frame _, fun h => by cases h⟩

theorem over : Rows.scanTokensRow.holds Try.pinned (OpenSpec.ofChange Rows.scanTokensSpec) :=
  OpenClaim.holds_of_wide 3 Try.f3 rfl rfl rfl rfl rfl rfl rfl ⟨rfl, rfl, rfl, rfl, rfl⟩ rfl rfl rfl rfl rfl (by kernel_rfl) Try.func3 (by kernel_rfl)
    (of_decide_eq_true (by kernel_rfl)) (by unfold Func.isWrapper; first | (rw [if_pos (by decide +kernel)]; kernel_rfl) | (rw [if_neg (by decide +kernel)]; exact ⟨rfl, rfl⟩))
    (fun os started H enc _ => lifted os started H enc)

theorem proved : Rows.ScanTokensSaid := over
end Go.Proofs.Ytpdgjkjbimkmjaa.ScanTokens
