/- For every query: the program's Right, Universal, Words, Print, Roles and Prins answer what the document's do (at most 40 principals, texts of at most 40 bytes), and the document's example stands. No condition. -/
import Derived.Test.YtcbbffpalpieaaaGreatRows
import Derived.Test.YtcbbffpalpieaaaGreatM22
import Derived.Test.YtcbbffpalpieaaaGreatM23
namespace Go.Proofs.YtcbbffpalpieaaaGreat.QryRight
set_option linter.unusedVariables false
set_option linter.unusedSimpArgs false
open Go.ChangeShapes Go.WideShapes Go.ChangeAt Go.RowKit
open Go.Proofs.YtcbbffpalpieaaaGreat.Plain Go.Proofs.YtcbbffpalpieaaaGreat.SynP Go.Proofs.YtcbbffpalpieaaaGreat.TabP Go.Proofs.YtcbbffpalpieaaaGreat.Tab1 Go.Proofs.YtcbbffpalpieaaaGreat.Grown Go.Proofs.YtcbbffpalpieaaaGreat.QryP Go.Proofs.YtcbbffpalpieaaaGreat.QryF Go.Proofs.YtcbbffpalpieaaaGreat.QryO Go.Proofs.YtcbbffpalpieaaaGreat.QryQ Go.Proofs.YtcbbffpalpieaaaGreat.QryR
theorem own : ownKnob Tryz.prog.godebug = none := by kernel_rfl
theorem laidOut : laidOutB Tryz.prog = true := by kernel_rfl
set_option maxRecDepth 100000 in
theorem dark (q : Qy) (A : Option Addr) (c : Nat) (w : World) (hf : q.fit) (hA : SRow w A q.who) (h : lightQ q = false) : Calls Tryz.prog 3 #[q.val A c] w fun e w' => e = .returned (.bool true) ∧ RowKit.Below w.heap.size w w' := by
  have hl := fun w' (hr : SRow w' A q.who) => light q A c w' hf hr
  rw [h] at hl
  obtain ⟨k, ⟨ao, an⟩, ⟨bo, bn⟩, T⟩ := q
  unfold Qy.val at *
  have HL := Lib.hid hl
  have HA := Lib.hid hA
  clear hl h hf hA
  go_enter Tryz.func3, Tryz.ntmps3
  go_wp2_with fail
  refine (HL.out _ (HA.out.keep ((Below.refl _ _).alloc (Nat.le_refl _) _))).mono ?_
  rintro e w1 ⟨rfl, hg⟩
  go_wp2_with fail
  refine (lives _).mono ?_
  rintro e w2 ⟨rfl, hb⟩
  go_wp2_with fail
  go_ret
  exact ⟨rfl, ((Below.refl _ _).alloc (Nat.le_refl _) _).trans ((hg.below.mono (by simp)).trans (hb.mono (by have := hg.size; simp at this; omega)))⟩
theorem light_len {q : Qy} (h : lightQ q = true) : q.who.length ≤ 1000000 := by
  unfold lightQ Tab6.lightB at h
  simp only [Bool.and_eq_true, decide_eq_true_eq] at h
  have := h.1.1
  omega
theorem walk (q : Qy) (A : Option Addr) (c : Nat) (w : World) (hf : q.fit) (hA : SRow w A q.who) : Calls Tryz.prog 3 #[q.val A c] w fun e w' => e = .returned (.bool true) ∧ RowKit.Below w.heap.size w w' := by
  cases hl : lightQ q
  · exact dark q A c w hf hA hl
  · have hn := light_len hl
    obtain ⟨k, ⟨ao, an⟩, ⟨bo, bn⟩, T⟩ := q
    cases hb : hasBk k
    · exact walk1 k ao an bo bn A c T w hf hn hl hA hb
    · have hk : k = 5 ∨ k = 6 := by simpa [hasBk] using hb
      rcases hk with rfl | rfl
      · exact walk5 ao an bo bn A c T w hf hn hl hA
      · exact walk6 ao an bo bn A c T w hf hn hl hA
def zeroV : Value := .agg #[.int .i64 0, .string ⟨#[]⟩, .string ⟨#[]⟩, .string ⟨#[]⟩, .string ⟨#[]⟩, .slice none 0 0]
set_option maxRecDepth 1000000 in
theorem lifted (os : Os) (started : os.Started) (H : Type) (enc : TypeId × Value → H) :
    ReturnsInHanded {} Tryz.checked os 3 .any (Rows.queryRightSpec.pre6 enc Tryz.prog Tryz.f3 Rows.queryRightRow.domain false) (Rows.queryRightSpec.post enc Tryz.prog Tryz.f3 false true false false) := by
  refine returnsInHanded_of_change (C := Tryz.checked) own started (by kernel_rfl) Tryz.func3
    (ChangeSpec.witness6 (enc := enc) (C := Tryz.checked) false ⟨#[], #[zeroV], []⟩ 8 (by kernel_rfl) (by kernel_rfl) (by kernel_rfl) (by kernel_rfl)) ?_
  intro W base args ds gs before hval0 hW hcnd _
  have hval : ∀ (j : Nat) t v, Tryz.f3.params[j]? = some t → args[j]? = some v → Value.okWide Tryz.prog W .any base t v := hval0
  have hW' := hW
  obtain ⟨p, q, hA0, hV, rfl, hfz, hnd⟩ := hW
  have hA : DataW.TrodAll enc Tryz.prog W 0 (fun _ => true) true Tryz.f3.params.toList args.toList ds p := hA0
  rw [Tryz.params3] at hA hval
  obtain ⟨v0, vs0, d0, ds0, p0, q0, hargs, rfl, rfl, h0, r0⟩ := trodAll_cons hA
  obtain ⟨rfl, rfl, rfl⟩ := trodAll_nil r0
  obtain rfl : args = #[v0] := by cases args; simp_all
  obtain ⟨rfl, rfl⟩ := trodVars_none hV
  have k0 := h0
  have lt0 : ∀ x ∈ p0, x.block < W.heap.size := by obtain ⟨m, hm⟩ := k0; exact DataW.trod_lt m _ _ _ hm
  obtain ⟨s, A0, c0, rfl, hs, hr⟩ := open_query (hval 0 26 v0 rfl rfl) h0
  clear hA0 hval0
  refine (walk s A0 c0 W hs hr).mono fun e W' ⟨he, bel⟩ => ?_
  subst he
  exact ⟨_, rfl, _, _, _, [], _, [], hW', trodAll_mk1 (shut_bool Tryz.underlying4 _), (trodAll_cons_mk (Below.trod laidOut (by kernel_rfl) (of_decide_eq_true (by kernel_rfl)) k0 bel lt0) trodAll_mk0), rfl, bel.frame _, fun h => by cases h⟩
theorem over : Rows.queryRightRow.holds Tryz.pinned (OpenSpec.ofChange Rows.queryRightSpec) :=
  OpenClaim.holds_of_wide 3 Tryz.f3 rfl rfl rfl rfl rfl rfl rfl ⟨rfl, rfl, rfl, rfl, rfl⟩ rfl rfl rfl rfl rfl (by kernel_rfl) Tryz.func3 (by kernel_rfl)
    (of_decide_eq_true (by kernel_rfl)) (by unfold Func.isWrapper; first | (rw [if_pos (by decide +kernel)]; kernel_rfl) | (rw [if_neg (by decide +kernel)]; exact ⟨rfl, rfl⟩))
    (fun os started H enc _ => lifted os started H enc)
theorem proved : Rows.QueryRightSaid := over
end Go.Proofs.YtcbbffpalpieaaaGreat.QryRight
