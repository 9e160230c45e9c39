/- Which statements are right, in the program and in the document's answers. -/
import Derived.Test.YtnhjnimgjpgfcaaSyn5
import Derived.Test.YtnhjnimgjpgfcaaGrown2
import Derived.Test.YtnhjnimgjpgfcaaSynE
namespace Go.Proofs.Ytnhjnimgjpgfcaa.Syn7
open Go.RowKit Go.Sort Go.Proofs Go.Proofs.Ytnhjnimgjpgfcaa.Plain Go.Proofs.Ytnhjnimgjpgfcaa.SynP Go.Proofs.Ytnhjnimgjpgfcaa.Named Go.Proofs.Ytnhjnimgjpgfcaa.RefN Go.Proofs.Ytnhjnimgjpgfcaa.Grown Go.Proofs.Ytnhjnimgjpgfcaa.Syn1 Go.Proofs.Ytnhjnimgjpgfcaa.Syn2 Go.Proofs.Ytnhjnimgjpgfcaa.Syn3 Go.Proofs.Ytnhjnimgjpgfcaa.Syn4 Go.Proofs.Ytnhjnimgjpgfcaa.Syn5 Go.Proofs.Ytnhjnimgjpgfcaa.SynE
set_option linter.unusedSimpArgs false
set_option linter.unusedVariables false
theorem mixed : Try.prog.follows .mixedOrders = true := by kernel_rfl
set_option maxRecDepth 100000 in
theorem right_head (k : Int) (ho hn wh ao an bo bn v : ByteArray) (w : World) (f1 : ho.size ≤ maxLen) (f2 : hn.size ≤ maxLen) (h : Rl.ok ⟨ho, hn⟩ = false) : Calls Try.prog 35 #[.agg #[.int .i64 k, .string ho, .string hn, .string wh, .string ao, .string an, .string bo, .string bn, .string v]] w fun e w' => e = .returned (.bool false) ∧ Grew w w' := by
  have HR := Lib.hid (isRole' ho hn · f1 f2)
  rw [h] at HR
  clear h
  have hm := mixed
  have gC := grow_cell
  go_enter Try.func35, Try.ntmps35
  go_wp2
  go_quiet_grown ((go_at_call 57; exact grewCall (HR.out _)))
  go_wp2
  go_ret
  exact ⟨rfl, ((Grew.refl _).alloc _).trans (Grew.mk _ _ _)⟩
set_option maxRecDepth 100000 in
theorem right_says (k : Int) (ho hn wh ao an bo bn v : ByteArray) (w : World) (hf : St.fit ⟨k, ⟨ho, hn⟩, wh, ⟨ao, an⟩, ⟨bo, bn⟩, v⟩) (h : Rl.ok ⟨ho, hn⟩ = true) (h2 : St.says ⟨k, ⟨ho, hn⟩, wh, ⟨ao, an⟩, ⟨bo, bn⟩, v⟩ = false) : Calls Try.prog 35 #[.agg #[.int .i64 k, .string ho, .string hn, .string wh, .string ao, .string an, .string bo, .string bn, .string v]] w fun e w' => e = .returned (.bool false) ∧ Grew w w' := by
  have HR := Lib.hid (isRole' ho hn · hf.1.1 hf.1.2)
  have HS := Lib.hid (saysRight ⟨k, ⟨ho, hn⟩, wh, ⟨ao, an⟩, ⟨bo, bn⟩, v⟩ · hf)
  rw [h] at HR
  rw [h2] at HS
  clear h h2 hf
  have hm := mixed
  have gC := grow_cell
  go_enter Try.func35, Try.ntmps35
  go_wp2
  go_quiet_grown (first | (go_at_call 57; exact grewCall (HR.out _)) | (go_at_call 58; exact grewCall (HS.out _)))
  go_wp2
  go_ret
  exact ⟨rfl, ((Grew.refl _).alloc _).trans (Grew.mk _ _ _)⟩
set_option maxRecDepth 100000 in
theorem right_own (k : Int) (ho hn wh ao an bo bn v wh2 ao2 an2 bo2 bn2 v2 : ByteArray) (w : World) (hf : St.fit ⟨k, ⟨ho, hn⟩, wh, ⟨ao, an⟩, ⟨bo, bn⟩, v⟩) (h : Rl.ok ⟨ho, hn⟩ = true) (h2 : St.says ⟨k, ⟨ho, hn⟩, wh, ⟨ao, an⟩, ⟨bo, bn⟩, v⟩ = true) (ho2 : St.own ⟨k, ⟨ho, hn⟩, wh, ⟨ao, an⟩, ⟨bo, bn⟩, v⟩ = ⟨k, ⟨ho, hn⟩, wh2, ⟨ao2, an2⟩, ⟨bo2, bn2⟩, v2⟩) : Calls Try.prog 35 #[.agg #[.int .i64 k, .string ho, .string hn, .string wh, .string ao, .string an, .string bo, .string bn, .string v]] w fun e w' => e = .returned (.bool (decide ((⟨k, ⟨ho, hn⟩, wh, ⟨ao, an⟩, ⟨bo, bn⟩, v⟩ : St) = ⟨k, ⟨ho, hn⟩, wh2, ⟨ao2, an2⟩, ⟨bo2, bn2⟩, v2⟩))) ∧ Grew w w' := by
  have HR := Lib.hid (isRole' ho hn · hf.1.1 hf.1.2)
  have HS := Lib.hid (saysRight ⟨k, ⟨ho, hn⟩, wh, ⟨ao, an⟩, ⟨bo, bn⟩, v⟩ · hf)
  have hb := bare ⟨k, ⟨ho, hn⟩, wh, ⟨ao, an⟩, ⟨bo, bn⟩, v⟩
  rw [ho2] at hb
  unfold St.val at hb
  have HB := Lib.hid hb
  clear hb
  rw [h] at HR
  rw [h2] at HS
  clear h h2 hf ho2
  have hm := mixed
  have gC := grow_cell
  have hq := fun w => eqS k ho hn wh ao an bo bn v k ho hn wh2 ao2 an2 bo2 bn2 v2 w
  generalize hres : decide ((⟨k, ⟨ho, hn⟩, wh, ⟨ao, an⟩, ⟨bo, bn⟩, v⟩ : St) = ⟨k, ⟨ho, hn⟩, wh2, ⟨ao2, an2⟩, ⟨bo2, bn2⟩, v2⟩) = res
  rw [hres] at hq
  clear hres
  go_enter Try.func35, Try.ntmps35
  go_wp2
  go_quiet_grown (first | (go_at_call 57; exact grewCall (HR.out _)) | (go_at_call 58; exact grewCall (HS.out _)) | (go_at_call 59; exact grewCall (HB.out _)))
  go_wp2
  go_ret
  exact ⟨rfl, ((Grew.refl _).alloc _).trans (Grew.mk _ _ _)⟩
theorem own_parts (s : St) : ∃ wh2 ao2 an2 bo2 bn2 v2, s.own = ⟨s.kind, s.head, wh2, ⟨ao2, an2⟩, ⟨bo2, bn2⟩, v2⟩ := by
  obtain ⟨k1, ⟨ho, hn⟩, wh, ⟨ao, an⟩, ⟨bo, bn⟩, v⟩ := s
  unfold St.own zeroR
  split
  · exact ⟨_, _, _, _, _, _, rfl⟩
  split
  · exact ⟨_, _, _, _, _, _, rfl⟩
  split
  · exact ⟨_, _, _, _, _, _, rfl⟩
  split <;> exact ⟨_, _, _, _, _, _, rfl⟩
theorem right (s : St) (w : World) (hf : s.fit) : Calls Try.prog 35 #[s.val] w fun e w' => e = .returned (.bool s.right) ∧ Grew w w' := by
  obtain ⟨wh2, ao2, an2, bo2, bn2, v2, hown⟩ := own_parts s
  obtain ⟨k1, ⟨ho, hn⟩, wh, ⟨ao, an⟩, ⟨bo, bn⟩, v⟩ := s
  cases h1 : Rl.ok ⟨ho, hn⟩
  · refine (right_head k1 ho hn wh ao an bo bn v w hf.1.1 hf.1.2 h1).mono ?_
    rintro e w' ⟨rfl, hg⟩
    exact ⟨ret_bool (by unfold St.right; simp only [h1]; rfl), hg⟩
  cases h2 : St.says ⟨k1, ⟨ho, hn⟩, wh, ⟨ao, an⟩, ⟨bo, bn⟩, v⟩
  · refine (right_says k1 ho hn wh ao an bo bn v w hf h1 h2).mono ?_
    rintro e w' ⟨rfl, hg⟩
    exact ⟨ret_bool (by unfold St.right; simp only [h1, h2]; rfl), hg⟩
  · refine (right_own k1 ho hn wh ao an bo bn v _ _ _ _ _ _ w hf h1 h2 hown).mono ?_
    rintro e w' ⟨rfl, hg⟩
    exact ⟨ret_bool (by unfold St.right; rw [hown]; simp only [h1, h2]; rfl), hg⟩
end Go.Proofs.Ytnhjnimgjpgfcaa.Syn7
