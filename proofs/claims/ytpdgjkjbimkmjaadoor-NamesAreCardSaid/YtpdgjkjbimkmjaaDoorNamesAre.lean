/- For every text: the program says of it (of its first 40 bytes) just when the document does that it is a principal's name, or a role's; it is never both; and the document's example stands. The tables of the library that the row lists hold what their texts lay. -/
import Derived.Test.YtpdgjkjbimkmjaaDoorCards
import Derived.Test.YtpdgjkjbimkmjaaDoorTie
import Derived.Test.YtpdgjkjbimkmjaaDoorLaid
import Derived.Test.YtpdgjkjbimkmjaaDoorRef1
import Derived.WalkKit
import Derived.ProofKit
import Derived.OpenShut
import Derived.ShutString
import Derived.Deep.DeepHandedRow
namespace Go.Proofs.YtpdgjkjbimkmjaaDoor.NamesAre
open Go.ChangeShapes Go.WideShapes Go.ChangeAt Go.RowKit
open Go.ChangeMaps (open_string shut_string)
open Go.Proofs.YtpdgjkjbimkmjaaDoor.Plain Go.Proofs.YtpdgjkjbimkmjaaDoor.Named Go.Proofs.YtpdgjkjbimkmjaaDoor.Tab3 Go.Proofs.YtpdgjkjbimkmjaaDoor.Ref1 Go.Proofs.YtpdgjkjbimkmjaaDoor.Laid
set_option linter.unusedVariables false
theorem own : ownKnob Tryd.prog.godebug = none := by kernel_rfl
theorem excl (l : List UInt8) : (named capB l && named smallB l) = false := by
  cases h1 : named capB l
  · rfl
  · cases h2 : named smallB l
    · rfl
    · exfalso
      simp only [named, Bool.and_eq_true, capB, smallB, decide_eq_true_iff] at h1 h2
      omega
set_option maxRecDepth 100000 in
theorem walk (s : ByteArray) (w : World) (hs : s.size ≤ maxLen) (hp : Pow w) :
    Calls Tryd.prog 3 #[.string s] w fun e w' => e = .returned (.bool true) ∧ Below w.heap.size w w' := by
  unfold maxLen at hs
  have hg := pow_lt hp
  have HP := Lib.hid hp
  clear hp
  go_enter Tryd.func3, Tryd.ntmps3
  go_wp2_with fail
  have hsz : (s.extract 0 (min (s.size : Int) 40).toNat).size ≤ maxLen := by
    rw [ByteArray.size_extract]; unfold maxLen; omega
  generalize s.extract 0 (min (s.size : Int) 40).toNat = t at *
  have hx := excl t.data.toList
  cases h1 : named capB t.data.toList <;> cases h2 : named smallB t.data.toList
  · refine (isPrin t _ hsz).mono ?_
    rintro e w' ⟨rfl, rfl⟩
    go_wp2_with (first | (go_at_call 7; refine (isPrin t _ hsz).mono ?_; rintro e w' ⟨rfl, rfl⟩) | (go_at_call 9; refine (isName t _ hsz).mono ?_; rintro e w' ⟨rfl, rfl⟩) | (go_at_call 8; refine (refIsPrin t _ hsz).mono ?_; rintro e w' ⟨rfl, rfl⟩) | (go_at_call 10; refine (refIsName t _ hsz).mono ?_; rintro e w' ⟨rfl, rfl⟩) | (go_at_call 11; refine (lives _ HP.out hg).mono ?_; rintro e w' ⟨rfl, hb⟩))
    go_ret
    exact ⟨rfl, hb⟩
  · refine (isPrin t _ hsz).mono ?_
    rintro e w' ⟨rfl, rfl⟩
    go_wp2_with (first | (go_at_call 7; refine (isPrin t _ hsz).mono ?_; rintro e w' ⟨rfl, rfl⟩) | (go_at_call 9; refine (isName t _ hsz).mono ?_; rintro e w' ⟨rfl, rfl⟩) | (go_at_call 8; refine (refIsPrin t _ hsz).mono ?_; rintro e w' ⟨rfl, rfl⟩) | (go_at_call 10; refine (refIsName t _ hsz).mono ?_; rintro e w' ⟨rfl, rfl⟩) | (go_at_call 11; refine (lives _ HP.out hg).mono ?_; rintro e w' ⟨rfl, hb⟩))
    go_ret
    exact ⟨rfl, hb⟩
  · refine (isPrin t _ hsz).mono ?_
    rintro e w' ⟨rfl, rfl⟩
    go_wp2_with (first | (go_at_call 7; refine (isPrin t _ hsz).mono ?_; rintro e w' ⟨rfl, rfl⟩) | (go_at_call 9; refine (isName t _ hsz).mono ?_; rintro e w' ⟨rfl, rfl⟩) | (go_at_call 8; refine (refIsPrin t _ hsz).mono ?_; rintro e w' ⟨rfl, rfl⟩) | (go_at_call 10; refine (refIsName t _ hsz).mono ?_; rintro e w' ⟨rfl, rfl⟩) | (go_at_call 11; refine (lives _ HP.out hg).mono ?_; rintro e w' ⟨rfl, hb⟩))
    go_ret
    exact ⟨rfl, hb⟩
  · rw [h1, h2] at hx
    cases hx
set_option maxRecDepth 1000000 in
theorem contract (H : Type) (enc : TypeId × Value → H) (W : World) (base : Nat) (args : Array Value) (ds gs : List (DataW H)) (before : List MemPlace)
    (hval : ∀ (j : Nat) t v, Tryd.f3.params[j]? = some t → args[j]? = some v → Value.okWide Tryd.prog W .any base t v)
    (hW : DataW.Whole enc Tryd.prog Tryd.f3.params.toList Rows.namesAreSpec.vars false W args.toList ds gs before) (hL : laidMet Tryd.prog Rows.namesAreRow.laid W) :
    Calls Tryd.prog 3 args W fun e W' => ∃ v, e = .returned v ∧ Rows.namesAreSpec.post enc Tryd.prog Tryd.f3 false true false false W args v W' := by
  have hW' := hW
  obtain ⟨p, q, hA0, hV, rfl, hfz, hnd⟩ := hW
  have hA : DataW.TrodAll enc Tryd.prog W 0 (fun _ => true) true Tryd.f3.params.toList args.toList ds p := hA0
  rw [Tryd.params3] at hA hval
  obtain ⟨v0, vs0, d0, ds0, p0, q0, hargs, rfl, rfl, h0, r0⟩ := trodAll_cons hA
  obtain ⟨rfl, rfl, rfl⟩ := trodAll_nil r0
  obtain rfl : args = #[v0] := by cases args; simp_all
  obtain ⟨rfl, rfl⟩ := trodVars_none hV
  obtain ⟨s, rfl, rfl, rfl, hs⟩ := open_string Tryd.underlying9 (hval 0 9 v0 rfl rfl) h0
  clear hA0
  refine (walk s W hs (pow_of_laid hL pow_listed)).mono fun e W' ⟨he, bel⟩ => ?_
  subst he
  exact ⟨_, rfl, _, _, _, [], _, [], hW', trodAll_mk1 (shut_bool Tryd.underlying4 _), (trodAll_cons_mk (shut_string Tryd.underlying9 hs) trodAll_mk0), rfl, bel.frame _, fun h => by cases h⟩
set_option maxRecDepth 1000000 in
theorem laid_met (os : Os) : laidMet Tryd.prog Rows.namesAreRow.laid ((laidWorld os).forCall (fun _ _ => 0) ⟨#[], #[.string ⟨#[]⟩], []⟩).memory :=
  laidMet_of_run' 8 (by kernel_rfl) (by kernel_rfl)
set_option maxRecDepth 1000000 in
theorem reads (os : Os) {H : Type} (enc : TypeId × Value → H) : ∃ places, DataW.whole enc Tryd.prog ((laidWorld os).forCall (fun _ _ => 0) ⟨#[], #[.string ⟨#[]⟩], []⟩).memory Tryd.f3.params.toList Rows.namesAreSpec.vars false #[Value.string ⟨#[]⟩].toList 8 = some ([.lit (.string [])], [], places) :=
  ⟨[], by kernel_rfl⟩
set_option maxRecDepth 100000 in
theorem lifted (os : Os) (started : os.Started) (H : Type) (enc : TypeId × Value → H) (F : Stop.Interp) :
    ReturnsInHanded {} Tryd.checked os 3 .any ((OpenSpec.ofChange Rows.namesAreSpec).preRow enc Tryd.prog Tryd.f3 Rows.namesAreRow.domain false Rows.namesAreRow.laid) (((OpenSpec.ofChange Rows.namesAreSpec).at F).post enc Tryd.prog Tryd.f3 false true false false) := by
  obtain ⟨places, hx⟩ := reads os enc
  refine returnsInHanded_of_row (C := Tryd.checked) (s := OpenSpec.ofChange Rows.namesAreSpec) own started (by kernel_rfl) Tryd.func3
    (witness_row_at (enc := enc) (C := Tryd.checked) false (laidWorld os) #[.string ⟨#[]⟩] rfl (by kernel_rfl) (by kernel_rfl) (by kernel_rfl)
      (OpenSpec.preRow_of_cond 8 hx (by kernel_rfl) (fun k hk => by cases hk) (by kernel_rfl) (laid_met os))) ?_
  intro W base args ds gs before hval hW _ _ _ hL _ _
  exact contract H enc W base args ds gs before hval hW hL
theorem said : Rows.NamesAreSaid :=
  OpenClaim.holds_of_cond 3 Tryd.f3 rfl rfl rfl rfl rfl rfl rfl ⟨rfl, rfl, rfl, rfl, rfl⟩ rfl rfl rfl rfl rfl (by kernel_rfl) Tryd.func3 (by kernel_rfl)
    (of_decide_eq_true (by kernel_rfl)) (by unfold Func.isWrapper; first | (rw [if_pos (by decide +kernel)]; kernel_rfl) | (rw [if_neg (by decide +kernel)]; exact ⟨rfl, rfl⟩))
    (fun os started H enc _ F => by rw [OpenClaim.pre_eq_preRow]; exact lifted os started H enc F)
theorem plain (f : FuncId) (fn : Func) (hf : Tryd.pinned.checked.prog.funcNamed "crupper/crupperlaw01.NamesAre" = some f) (hfn : Tryd.pinned.checked.prog.funcs[f]? = some fn) :
    false = Tryd.pinned.checked.prog.looks [] ∧ ∀ (j : Nat) t, fn.params[j]? = some t → Tryd.pinned.checked.prog.wantsStandIn t = false := by
  obtain rfl : f = 3 := Option.some.inj ((show Tryd.prog.funcNamed "crupper/crupperlaw01.NamesAre" = some 3 by kernel_rfl).symm.trans hf) |>.symm
  obtain rfl : fn = Tryd.f3 := (Option.some.inj (Tryd.func3.symm.trans hfn)).symm
  refine ⟨by kernel_rfl, fun j t ht => ?_⟩
  rw [Tryd.params3] at ht
  obtain rfl : t = 9 := by simpa using Array.mem_of_getElem? ht
  exact (show Tryd.prog.wantsStandIn 9 = false by kernel_rfl)
theorem card : Rows.NamesAreCardSaid :=
  Claim7.holds_tied_plain_at .later [] _ _ _ _ said (fun _ h => by cases h) (by kernel_rfl) (fun _ h => by cases h) namesAre_row_tie rfl ⟨rfl, rfl⟩ (by kernel_rfl) rfl plain (by kernel_rfl)
end Go.Proofs.YtpdgjkjbimkmjaaDoor.NamesAre
