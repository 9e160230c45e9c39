/- For all statements and every line: a statement that may be is parsed from its line, two that may be are one just if their lines are (texts of at most 40 bytes), what is parsed may be (of the line's first 300 bytes), and the document's example stands. No condition. -/
import Derived.Test.YthhofldmieoneaaRows
import Derived.Test.YthhofldmieoneaaSynB
namespace Go.Proofs.Ythhofldmieoneaa.SynBack
open Go.ChangeShapes Go.WideShapes Go.ChangeAt Go.RowKit
open Go.ChangeMaps (open_string shut_string)
open Go.Proofs.Ythhofldmieoneaa.Plain Go.Proofs.Ythhofldmieoneaa.SynP Go.Proofs.Ythhofldmieoneaa.SynM Go.Proofs.Ythhofldmieoneaa.SynF Go.Proofs.Ythhofldmieoneaa.SynB
theorem own : ownKnob Try.prog.godebug = none := by kernel_rfl
theorem laidOut : laidOutB Try.prog = true := by kernel_rfl
theorem walk (a b : St) (s : ByteArray) (w : World) (fA : a.fit) (fB : b.fit) (hs : s.size ≤ maxLen) : Calls Try.prog 6 #[a.val, b.val, .string s] w fun e w' => e = .returned (.bool true) ∧ RowKit.Below w.heap.size w w' := by
  obtain ⟨k1, ⟨ho1, hn1⟩, wh1, ⟨ao1, an1⟩, ⟨bo1, bn1⟩, v1⟩ := a
  obtain ⟨k2, ⟨ho2, hn2⟩, wh2, ⟨ao2, an2⟩, ⟨bo2, bn2⟩, v2⟩ := b
  cases la : lightS ⟨k1, ⟨ho1, hn1⟩, wh1, ⟨ao1, an1⟩, ⟨bo1, bn1⟩, v1⟩
  · exact back1 k1 ho1 hn1 wh1 ao1 an1 bo1 bn1 v1 k2 ho2 hn2 wh2 ao2 an2 bo2 bn2 v2 s w hs la
  cases lb : lightS ⟨k2, ⟨ho2, hn2⟩, wh2, ⟨ao2, an2⟩, ⟨bo2, bn2⟩, v2⟩
  · exact back2 k1 ho1 hn1 wh1 ao1 an1 bo1 bn1 v1 k2 ho2 hn2 wh2 ao2 an2 bo2 bn2 v2 s w hs la lb
  cases ra : St.right ⟨k1, ⟨ho1, hn1⟩, wh1, ⟨ao1, an1⟩, ⟨bo1, bn1⟩, v1⟩
  · exact back3 k1 ho1 hn1 wh1 ao1 an1 bo1 bn1 v1 k2 ho2 hn2 wh2 ao2 an2 bo2 bn2 v2 s w hs fA la lb ra
  cases rb : St.right ⟨k2, ⟨ho2, hn2⟩, wh2, ⟨ao2, an2⟩, ⟨bo2, bn2⟩, v2⟩
  · exact back4 k1 ho1 hn1 wh1 ao1 an1 bo1 bn1 v1 k2 ho2 hn2 wh2 ao2 an2 bo2 bn2 v2 s w hs fA fB la lb ra rb
  · exact back5 k1 ho1 hn1 wh1 ao1 an1 bo1 bn1 v1 k2 ho2 hn2 wh2 ao2 an2 bo2 bn2 v2 s w hs fA fB la lb ra rb
set_option maxRecDepth 1000000 in
theorem lifted (os : Os) (started : os.Started) (H : Type) (enc : TypeId × Value → H) :
    ReturnsInHanded {} Try.checked os 6 .any (Rows.synBackSpec.pre6 enc Try.prog Try.f6 Rows.synBackRow.domain false) (Rows.synBackSpec.post enc Try.prog Try.f6 false true false false) := by
  refine returnsInHanded_of_change (C := Try.checked) own started (by kernel_rfl) Try.func6
    (ChangeSpec.witness6 (enc := enc) (C := Try.checked) false ⟨#[], #[zeroS.val, zeroS.val, .string ⟨#[]⟩], []⟩ 8 (by kernel_rfl) (by kernel_rfl) (by kernel_rfl) (by kernel_rfl)) ?_
  intro W base args ds gs before hval0 hW hcnd _
  have hval : ∀ (j : Nat) t v, Try.f6.params[j]? = some t → args[j]? = some v → Value.okWide Try.prog W .any base t v := hval0
  have hW' := hW
  obtain ⟨p, q, hA0, hV, rfl, hfz, hnd⟩ := hW
  have hA : DataW.TrodAll enc Try.prog W 0 (fun _ => true) true Try.f6.params.toList args.toList ds p := hA0
  rw [Try.params6] at hA hval
  obtain ⟨v0, vs0, d0, ds0, p0, q0, hargs, rfl, rfl, h0, r0⟩ := trodAll_cons hA
  obtain ⟨v1, vs1, d1, ds1, p1, q1, rfl, rfl, rfl, h1, r1⟩ := trodAll_cons r0
  obtain ⟨v2, vs2, d2, ds2, p2, q2, rfl, rfl, rfl, h2, r2⟩ := trodAll_cons r1
  obtain ⟨rfl, rfl, rfl⟩ := trodAll_nil r2
  obtain rfl : args = #[v0, v1, v2] := by cases args; simp_all
  obtain ⟨rfl, rfl⟩ := trodVars_none hV
  have k0 := h0
  have lt0 : ∀ x ∈ p0, x.block < W.heap.size := by obtain ⟨m, hm⟩ := k0; exact DataW.trod_lt m _ _ _ hm
  have k1 := h1
  have lt1 : ∀ x ∈ p1, x.block < W.heap.size := by obtain ⟨m, hm⟩ := k1; exact DataW.trod_lt m _ _ _ hm
  obtain ⟨a, rfl, fA⟩ := open_stmt (hval 0 25 v0 rfl rfl) h0
  obtain ⟨b, rfl, fB⟩ := open_stmt (hval 1 25 v1 rfl rfl) h1
  obtain ⟨s, rfl, rfl, rfl, hs⟩ := open_string Try.underlying9 (hval 2 9 v2 rfl rfl) h2
  clear hA0 hval0
  refine (walk a b s W fA fB hs).mono fun e W' ⟨he, bel⟩ => ?_
  subst he
  exact ⟨_, rfl, _, _, _, [], _, [], hW', trodAll_mk1 (shut_bool Try.underlying4 _), (trodAll_cons_mk (Below.trod laidOut (by kernel_rfl) (of_decide_eq_true (by kernel_rfl)) k0 bel lt0) (trodAll_cons_mk (Below.trod laidOut (by kernel_rfl) (of_decide_eq_true (by kernel_rfl)) k1 bel lt1) (trodAll_cons_mk (shut_string Try.underlying9 hs) trodAll_mk0))), rfl, bel.frame _, fun h => by cases h⟩
theorem over : Rows.synBackRow.holds Try.pinned (OpenSpec.ofChange Rows.synBackSpec) :=
  OpenClaim.holds_of_wide 6 Try.f6 rfl rfl rfl rfl rfl rfl rfl ⟨rfl, rfl, rfl, rfl, rfl⟩ rfl rfl rfl rfl rfl (by kernel_rfl) Try.func6 (by kernel_rfl)
    (of_decide_eq_true (by kernel_rfl)) (by unfold Func.isWrapper; first | (rw [if_pos (by decide +kernel)]; kernel_rfl) | (rw [if_neg (by decide +kernel)]; exact ⟨rfl, rfl⟩))
    (fun os started H enc _ => lifted os started H enc)
theorem proved : Rows.SynBackSaid := over
end Go.Proofs.Ythhofldmieoneaa.SynBack
