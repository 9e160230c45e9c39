/- Which statements are right, and their normal form, in the program and in the document's answers. -/
import Derived.Test.YtnhjnimgjpgfcaaSyn3
namespace Go.Proofs.Ytnhjnimgjpgfcaa.Syn4
open Go.RowKit Go.Sort Go.Proofs Go.Proofs.Ytnhjnimgjpgfcaa.Plain Go.Proofs.Ytnhjnimgjpgfcaa.SynP Go.Proofs.Ytnhjnimgjpgfcaa.Named Go.Proofs.Ytnhjnimgjpgfcaa.RefN Go.Proofs.Ytnhjnimgjpgfcaa.Grown Go.Proofs.Ytnhjnimgjpgfcaa.Syn1 Go.Proofs.Ytnhjnimgjpgfcaa.Syn2 Go.Proofs.Ytnhjnimgjpgfcaa.Syn3
theorem kinds (k : Int) : k = 1 ∨ k = 2 ∨ k = 3 ∨ k = 4 ∨ (k ≠ 1 ∧ k ≠ 2 ∧ k ≠ 3 ∧ k ≠ 4) := by omega
theorem less' (o1 n1 o2 n2 : ByteArray) (w : World) : Calls Try.prog 69 #[.agg #[.string o1, .string n1], .agg #[.string o2, .string n2]] w fun e w' => e = .returned (.bool (decide (cmpR ⟨o1, n1⟩ ⟨o2, n2⟩ < 0))) ∧ Grew w w' := less ⟨o1, n1⟩ ⟨o2, n2⟩ w
theorem isRole' (o n : ByteArray) (w : World) (h1 : o.size ≤ maxLen) (h2 : n.size ≤ maxLen) : Calls Try.prog 57 #[.agg #[.string o, .string n]] w fun e w' => e = .returned (.bool (Rl.ok ⟨o, n⟩)) ∧ Grew w w' := isRole ⟨o, n⟩ w ⟨h1, h2⟩
theorem isRoleRef' (o n : ByteArray) (w : World) (h1 : o.size ≤ maxLen) (h2 : n.size ≤ maxLen) : Calls Try.prog 52 #[.agg #[.string o, .string n]] w fun e w' => e = .returned (.bool (Rl.ok ⟨o, n⟩)) ∧ Grew w w' := isRoleRef ⟨o, n⟩ w ⟨h1, h2⟩
set_option maxRecDepth 100000 in
theorem saysRight (s : St) (w : World) (hf : s.fit) : Calls Try.prog 58 #[s.val] w fun e w' => e = .returned (.bool s.says) ∧ Grew w w' := by
  obtain ⟨k1, ⟨ho, hn⟩, wh, ⟨ao, an⟩, ⟨bo, bn⟩, v⟩ := s
  obtain ⟨⟨f1, f2⟩, f3, ⟨f4, f5⟩, ⟨f6, f7⟩, f8⟩ := hf
  simp only at f1 f2 f3 f4 f5 f6 f7 f8
  unfold St.val
  rcases kinds k1 with rfl | rfl | rfl | rfl | ⟨h1, h2, h3, h4⟩
  · have H : Hid (St.says ⟨1, ⟨ho, hn⟩, wh, ⟨ao, an⟩, ⟨bo, bn⟩, v⟩ = named capB wh.data.toList) := Lib.hid rfl
    go_enter Try.func58, Try.ntmps58
    go_wp2_with (go_at_call 72; refine (isPrin _ _ f3).mono ?_; rintro e w' ⟨rfl, rfl⟩)
    go_ret
    exact ⟨ret_bool H.out.symm, (Grew.refl _).alloc _⟩
  · have H : Hid (St.says ⟨2, ⟨ho, hn⟩, wh, ⟨ao, an⟩, ⟨bo, bn⟩, v⟩ = Rl.ok ⟨ao, an⟩) := Lib.hid rfl
    go_enter Try.func58, Try.ntmps58
    go_wp2_with (go_at_call 57; refine (isRole' _ _ _ f4 f5).mono ?_; rintro e w' ⟨rfl, hg⟩)
    go_ret
    exact ⟨ret_bool H.out.symm, ((Grew.refl _).alloc _).trans hg⟩
  · cases ha : Rl.ok ⟨ao, an⟩
    all_goals
      have H : Hid (St.says ⟨3, ⟨ho, hn⟩, wh, ⟨ao, an⟩, ⟨bo, bn⟩, v⟩ = (_ && named smallB v.data.toList)) := Lib.hid (show (Rl.ok ⟨ao, an⟩ && named smallB v.data.toList) = _ by rw [ha])
      go_enter Try.func58, Try.ntmps58
      go_wp2_with (first | (go_at_call 57; refine (isRole' _ _ _ f4 f5).mono ?_; rintro e w' ⟨rfl, hg⟩; obtain ⟨hc, hz, hs⟩ := hg.use) | (go_at_call 73; refine (isName _ _ f8).mono ?_; rintro e w' ⟨rfl, rfl⟩))
      go_ret
      exact ⟨ret_bool H.out.symm, ((Grew.refl _).alloc _).trans hg⟩
  · cases ha : Rl.ok ⟨ao, an⟩
    · have H : Hid (St.says ⟨4, ⟨ho, hn⟩, wh, ⟨ao, an⟩, ⟨bo, bn⟩, v⟩ = false) := Lib.hid (show (Rl.ok ⟨ao, an⟩ && Rl.ok ⟨bo, bn⟩ && !decide (cmpR ⟨bo, bn⟩ ⟨ao, an⟩ < 0)) = _ by rw [ha]; rfl)
      go_enter Try.func58, Try.ntmps58
      go_wp2_with (go_at_call 57; refine (isRole' _ _ _ f4 f5).mono ?_; rintro e w' ⟨rfl, hg⟩; obtain ⟨hc, hz, hs⟩ := hg.use)
      go_ret
      exact ⟨ret_bool H.out.symm, ((Grew.refl _).alloc _).trans hg⟩
    · cases hb : Rl.ok ⟨bo, bn⟩
      · have H : Hid (St.says ⟨4, ⟨ho, hn⟩, wh, ⟨ao, an⟩, ⟨bo, bn⟩, v⟩ = false) := Lib.hid (show (Rl.ok ⟨ao, an⟩ && Rl.ok ⟨bo, bn⟩ && !decide (cmpR ⟨bo, bn⟩ ⟨ao, an⟩ < 0)) = _ by rw [ha, hb]; rfl)
        go_enter Try.func58, Try.ntmps58
        go_wp2_with fail
        refine (isRole' _ _ _ f4 f5).mono ?_
        rintro e w1 ⟨rfl, hg⟩
        obtain ⟨hc, hz, hs⟩ := hg.use
        simp at hs
        have hs' : w.heap.size < w1.heap.size := hs
        go_wp2_with fail
        refine (isRole' _ _ _ f6 f7).mono ?_
        rintro e w2 ⟨rfl, hg2⟩
        go_wp2_with fail
        go_ret
        exact ⟨ret_bool H.out.symm, (((Grew.refl _).alloc _).trans hg).trans hg2⟩
      · have H : Hid (St.says ⟨4, ⟨ho, hn⟩, wh, ⟨ao, an⟩, ⟨bo, bn⟩, v⟩ = !decide (cmpR ⟨bo, bn⟩ ⟨ao, an⟩ < 0)) := Lib.hid (show (Rl.ok ⟨ao, an⟩ && Rl.ok ⟨bo, bn⟩ && !decide (cmpR ⟨bo, bn⟩ ⟨ao, an⟩ < 0)) = _ by rw [ha, hb]; rfl)
        have HL := Lib.hid (less' bo bn ao an)
        generalize decide (cmpR ⟨bo, bn⟩ ⟨ao, an⟩ < 0) = r at *
        go_enter Try.func58, Try.ntmps58
        go_wp2_with fail
        refine (isRole' _ _ _ f4 f5).mono ?_
        rintro e w1 ⟨rfl, hg⟩
        obtain ⟨hc, hz, hs⟩ := hg.use
        simp at hs
        have hs' : w.heap.size < w1.heap.size := hs
        go_wp2_with fail
        refine (isRole' _ _ _ f6 f7).mono ?_
        rintro e w2 ⟨rfl, hg2⟩
        obtain ⟨hc2, hz2, hs2⟩ := hg2.use
        go_wp2_with fail
        refine (HL.out _).mono ?_
        rintro e w3 ⟨rfl, hg3⟩
        go_wp2_with fail
        go_ret
        exact ⟨ret_bool H.out.symm, ((((Grew.refl _).alloc _).trans hg).trans hg2).trans hg3⟩
  · have H : Hid (St.says ⟨k1, ⟨ho, hn⟩, wh, ⟨ao, an⟩, ⟨bo, bn⟩, v⟩ = false) := Lib.hid (by unfold St.says; rw [if_neg h1, if_neg h2, if_neg h3, if_neg h4])
    have e1 : (k1 == 1) = false := by simpa using h1
    have e2 : (k1 == 2) = false := by simpa using h2
    have e3 : (k1 == 3) = false := by simpa using h3
    have e4 : (k1 == 4) = false := by simpa using h4
    clear h1 h2 h3 h4
    go_enter Try.func58, Try.ntmps58
    go_wp2_with fail
    go_ret
    exact ⟨ret_bool H.out.symm, (Grew.refl _).alloc _⟩
end Go.Proofs.Ytnhjnimgjpgfcaa.Syn4
