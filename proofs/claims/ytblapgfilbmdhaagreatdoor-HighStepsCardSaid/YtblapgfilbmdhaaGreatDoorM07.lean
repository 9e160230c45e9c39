/- Which statements are right, in the document's answers. -/
import Derived.Test.YtblapgfilbmdhaaGreatDoorM06
set_option linter.unusedVariables false
set_option linter.unusedSimpArgs false
namespace Go.Proofs.YtblapgfilbmdhaaGreatDoor.Syn8
open Go.RowKit Go.Sort Go.Proofs Plain SynP Named RefN Grown Syn1 Syn2 Syn3 Syn4 Syn5 SynE
theorem eqR0 (o n : ByteArray) (w : World) : (binOp .eql 28 (.agg #[.string o, .string n]) (.agg #[.string ⟨#[]⟩, .string ⟨#[]⟩])).run Tryz.prog w = .ok (.bool (decide ((⟨o, n⟩ : Rl) = zeroR))) w := eqR o n ⟨#[]⟩ ⟨#[]⟩ w
theorem empty_eq (a : ByteArray) : a.toList.isEmpty = decide (a = noText) := by
  rw [Bool.eq_iff_iff, decide_eq_true_iff, List.isEmpty_iff, Go.ByteArray.toList_eq]
  exact ⟨fun h => ba_ext h, fun h => by rw [h]; rfl⟩
set_option maxRecDepth 100000 in
theorem ref_head (k : Int) (ho hn wh ao an bo bn v : ByteArray) (w : World) (f1 : ho.size ≤ maxLen) (f2 : hn.size ≤ maxLen) (h : Rl.ok ⟨ho, hn⟩ = false) : Calls Tryz.prog 70 #[.agg #[.int .i64 k, .string ho, .string hn, .string wh, .string ao, .string an, .string bo, .string bn, .string v]] w fun e w' => e = .returned (.bool false) ∧ Grew w w' := by
  have HR := Lib.hid (isRoleRef' ho hn · f1 f2)
  rw [h] at HR
  clear h
  go_enter Tryz.func70, Tryz.ntmps70
  go_wp2_with (go_at_call 68; refine (HR.out _).mono ?_; rintro e w' ⟨rfl, hg⟩)
  go_ret
  exact ⟨rfl, (((Grew.refl _).alloc _).alloc _).trans hg⟩
set_option maxHeartbeats 4000000 in
set_option maxRecDepth 100000 in
theorem ref_1 (ho hn wh ao an bo bn v : ByteArray) (w : World) (hf : St.fit ⟨1, ⟨ho, hn⟩, wh, ⟨ao, an⟩, ⟨bo, bn⟩, v⟩) (h : Rl.ok ⟨ho, hn⟩ = true) : Calls Tryz.prog 70 #[.agg #[.int .i64 1, .string ho, .string hn, .string wh, .string ao, .string an, .string bo, .string bn, .string v]] w fun e w' => e = .returned (.bool (named capB wh.data.toList && decide ((⟨ao, an⟩ : Rl) = zeroR) && decide ((⟨bo, bn⟩ : Rl) = zeroR) && decide (v = noText))) ∧ Grew w w' := by
  have HR := Lib.hid (isRoleRef' ho hn · hf.1.1 hf.1.2)
  rw [h] at HR
  have HP := Lib.hid (refIsPrin wh · hf.2.1)
  have hA := eqR0 ao an
  have hB := eqR0 bo bn
  have hV := empty_eq v
  clear hf h
  generalize decide ((⟨ao, an⟩ : Rl) = zeroR) = pA at *
  generalize decide ((⟨bo, bn⟩ : Rl) = zeroR) = pB at *
  generalize decide (v = noText) = pV at *
  generalize named capB wh.data.toList = p at *
  cases p <;> cases pA <;> cases pB <;> cases pV
  all_goals
    go_enter Tryz.func70, Tryz.ntmps70
    go_wp2_with fail
    refine (HR.out _).mono ?_
    rintro e w1 ⟨rfl, hg⟩
    obtain ⟨⟨n, os⟩, rfl⟩ := hg
    have gC := grow_cell n os
    have gF := grow_frozen n os
    go_wp2_with (go_at_call 69; refine (HP.out _).mono ?_; rintro e w' ⟨rfl, rfl⟩)
    go_ret
    exact ⟨rfl, (((Grew.refl _).alloc _).alloc _).trans (Grew.mk _ _ _)⟩
set_option maxHeartbeats 4000000 in
set_option maxRecDepth 100000 in
theorem ref_2 (ho hn wh ao an bo bn v : ByteArray) (w : World) (hf : St.fit ⟨2, ⟨ho, hn⟩, wh, ⟨ao, an⟩, ⟨bo, bn⟩, v⟩) (h : Rl.ok ⟨ho, hn⟩ = true) : Calls Tryz.prog 70 #[.agg #[.int .i64 2, .string ho, .string hn, .string wh, .string ao, .string an, .string bo, .string bn, .string v]] w fun e w' => e = .returned (.bool (decide (wh = noText) && Rl.ok ⟨ao, an⟩ && decide ((⟨bo, bn⟩ : Rl) = zeroR) && decide (v = noText))) ∧ Grew w w' := by
  have HR := Lib.hid (isRoleRef' ho hn · hf.1.1 hf.1.2)
  rw [h] at HR
  have HA := Lib.hid (isRoleRef' ao an · hf.2.2.1.1 hf.2.2.1.2)
  have hW := empty_eq wh
  have hB := eqR0 bo bn
  have hV := empty_eq v
  clear hf h
  generalize decide (wh = noText) = pW at *
  generalize Rl.ok ⟨ao, an⟩ = pA at *
  generalize decide ((⟨bo, bn⟩ : Rl) = zeroR) = pB at *
  generalize decide (v = noText) = pV at *
  cases pW
  · go_enter Tryz.func70, Tryz.ntmps70
    go_wp2_with fail
    refine (HR.out _).mono ?_
    rintro e w1 ⟨rfl, hg⟩
    obtain ⟨⟨n, os⟩, rfl⟩ := hg
    have gC := grow_cell n os
    have gF := grow_frozen n os
    go_wp2_with fail
    go_ret
    exact ⟨rfl, (((Grew.refl _).alloc _).alloc _).trans (Grew.mk _ _ _)⟩
  cases pA
  · go_enter Tryz.func70, Tryz.ntmps70
    go_wp2_with fail
    refine (HR.out _).mono ?_
    rintro e w1 ⟨rfl, hg⟩
    obtain ⟨⟨n, os⟩, rfl⟩ := hg
    have gC := grow_cell n os
    have gF := grow_frozen n os
    go_wp2_with fail
    refine (HA.out _).mono ?_
    rintro e w1 ⟨rfl, hg⟩
    obtain ⟨⟨n2, os2⟩, rfl⟩ := hg
    have hz := grow_size n os
    have gC2 := grow_cell n2 os2
    have gF2 := grow_frozen n2 os2
    have z1 : w.heap.size < w.heap.size + 1 + 1 + os.size := by omega
    have z2 : w.heap.size + 1 < w.heap.size + 1 + 1 + os.size := by omega
    go_wp2_with fail
    go_ret
    exact ⟨rfl, ((((Grew.refl _).alloc _).alloc _).trans (Grew.mk _ _ _)).trans (Grew.mk _ _ _)⟩
  cases pB <;> cases pV
  all_goals
    go_enter Tryz.func70, Tryz.ntmps70
    go_wp2_with fail
    refine (HR.out _).mono ?_
    rintro e w1 ⟨rfl, hg⟩
    obtain ⟨⟨n, os⟩, rfl⟩ := hg
    have gC := grow_cell n os
    have gF := grow_frozen n os
    go_wp2_with fail
    refine (HA.out _).mono ?_
    rintro e w1 ⟨rfl, hg⟩
    obtain ⟨⟨n2, os2⟩, rfl⟩ := hg
    have hz := grow_size n os
    have gC2 := grow_cell n2 os2
    have gF2 := grow_frozen n2 os2
    have z1 : w.heap.size < w.heap.size + 1 + 1 + os.size := by omega
    have z2 : w.heap.size + 1 < w.heap.size + 1 + 1 + os.size := by omega
    go_wp2_with fail
    go_ret
    exact ⟨rfl, ((((Grew.refl _).alloc _).alloc _).trans (Grew.mk _ _ _)).trans (Grew.mk _ _ _)⟩
set_option maxHeartbeats 4000000 in
set_option maxRecDepth 100000 in
theorem ref_3 (ho hn wh ao an bo bn v : ByteArray) (w : World) (hf : St.fit ⟨3, ⟨ho, hn⟩, wh, ⟨ao, an⟩, ⟨bo, bn⟩, v⟩) (h : Rl.ok ⟨ho, hn⟩ = true) : Calls Tryz.prog 70 #[.agg #[.int .i64 3, .string ho, .string hn, .string wh, .string ao, .string an, .string bo, .string bn, .string v]] w fun e w' => e = .returned (.bool (decide (wh = noText) && Rl.ok ⟨ao, an⟩ && decide ((⟨bo, bn⟩ : Rl) = zeroR) && named smallB v.data.toList)) ∧ Grew w w' := by
  have HR := Lib.hid (isRoleRef' ho hn · hf.1.1 hf.1.2)
  rw [h] at HR
  have HA := Lib.hid (isRoleRef' ao an · hf.2.2.1.1 hf.2.2.1.2)
  have hW := empty_eq wh
  have hB := eqR0 bo bn
  have HN := Lib.hid (refIsName v · hf.2.2.2.2)
  clear hf h
  generalize decide (wh = noText) = pW at *
  generalize Rl.ok ⟨ao, an⟩ = pA at *
  generalize decide ((⟨bo, bn⟩ : Rl) = zeroR) = pB at *
  generalize named smallB v.data.toList = pV at *
  cases pW
  · go_enter Tryz.func70, Tryz.ntmps70
    go_wp2_with fail
    refine (HR.out _).mono ?_
    rintro e w1 ⟨rfl, hg⟩
    obtain ⟨⟨n, os⟩, rfl⟩ := hg
    have gC := grow_cell n os
    have gF := grow_frozen n os
    go_wp2_with (go_at_call 111; refine (HN.out _).mono ?_; rintro e w' ⟨rfl, rfl⟩)
    go_ret
    exact ⟨rfl, (((Grew.refl _).alloc _).alloc _).trans (Grew.mk _ _ _)⟩
  cases pA
  · go_enter Tryz.func70, Tryz.ntmps70
    go_wp2_with fail
    refine (HR.out _).mono ?_
    rintro e w1 ⟨rfl, hg⟩
    obtain ⟨⟨n, os⟩, rfl⟩ := hg
    have gC := grow_cell n os
    have gF := grow_frozen n os
    go_wp2_with fail
    refine (HA.out _).mono ?_
    rintro e w1 ⟨rfl, hg⟩
    obtain ⟨⟨n2, os2⟩, rfl⟩ := hg
    have hz := grow_size n os
    have gC2 := grow_cell n2 os2
    have gF2 := grow_frozen n2 os2
    have z1 : w.heap.size < w.heap.size + 1 + 1 + os.size := by omega
    have z2 : w.heap.size + 1 < w.heap.size + 1 + 1 + os.size := by omega
    go_wp2_with (go_at_call 111; refine (HN.out _).mono ?_; rintro e w' ⟨rfl, rfl⟩)
    go_ret
    exact ⟨rfl, ((((Grew.refl _).alloc _).alloc _).trans (Grew.mk _ _ _)).trans (Grew.mk _ _ _)⟩
  cases pB
  all_goals
    go_enter Tryz.func70, Tryz.ntmps70
    go_wp2_with fail
    refine (HR.out _).mono ?_
    rintro e w1 ⟨rfl, hg⟩
    obtain ⟨⟨n, os⟩, rfl⟩ := hg
    have gC := grow_cell n os
    have gF := grow_frozen n os
    go_wp2_with fail
    refine (HA.out _).mono ?_
    rintro e w1 ⟨rfl, hg⟩
    obtain ⟨⟨n2, os2⟩, rfl⟩ := hg
    have hz := grow_size n os
    have gC2 := grow_cell n2 os2
    have gF2 := grow_frozen n2 os2
    have z1 : w.heap.size < w.heap.size + 1 + 1 + os.size := by omega
    have z2 : w.heap.size + 1 < w.heap.size + 1 + 1 + os.size := by omega
    go_wp2_with (go_at_call 111; refine (HN.out _).mono ?_; rintro e w' ⟨rfl, rfl⟩)
    go_ret
    exact ⟨rfl, ((((Grew.refl _).alloc _).alloc _).trans (Grew.mk _ _ _)).trans (Grew.mk _ _ _)⟩
set_option maxHeartbeats 4000000 in
set_option maxRecDepth 100000 in
theorem ref_4 (ho hn wh ao an bo bn v : ByteArray) (w : World) (hf : St.fit ⟨4, ⟨ho, hn⟩, wh, ⟨ao, an⟩, ⟨bo, bn⟩, v⟩) (h : Rl.ok ⟨ho, hn⟩ = true) : Calls Tryz.prog 70 #[.agg #[.int .i64 4, .string ho, .string hn, .string wh, .string ao, .string an, .string bo, .string bn, .string v]] w fun e w' => e = .returned (.bool (decide (wh = noText) && Rl.ok ⟨ao, an⟩ && Rl.ok ⟨bo, bn⟩ && decide (v = noText) && !decide (cmpR ⟨bo, bn⟩ ⟨ao, an⟩ < 0))) ∧ Grew w w' := by
  have HR := Lib.hid (isRoleRef' ho hn · hf.1.1 hf.1.2)
  rw [h] at HR
  have HA := Lib.hid (isRoleRef' ao an · hf.2.2.1.1 hf.2.2.1.2)
  have hW := empty_eq wh
  have HB := Lib.hid (isRoleRef' bo bn · hf.2.2.2.1.1 hf.2.2.2.1.2)
  have HL := Lib.hid (lessRef' bo bn ao an)
  have hV := empty_eq v
  clear hf h
  generalize decide (wh = noText) = pW at *
  generalize Rl.ok ⟨ao, an⟩ = pA at *
  generalize Rl.ok ⟨bo, bn⟩ = pB at *
  generalize decide (cmpR ⟨bo, bn⟩ ⟨ao, an⟩ < 0) = pL at *
  generalize decide (v = noText) = pV at *
  cases pW
  · go_enter Tryz.func70, Tryz.ntmps70
    go_wp2_with fail
    refine (HR.out _).mono ?_
    rintro e w1 ⟨rfl, hg⟩
    obtain ⟨⟨n, os⟩, rfl⟩ := hg
    have gC := grow_cell n os
    have gF := grow_frozen n os
    go_wp2_with fail
    go_ret
    exact ⟨rfl, (((Grew.refl _).alloc _).alloc _).trans (Grew.mk _ _ _)⟩
  cases pA
  · go_enter Tryz.func70, Tryz.ntmps70
    go_wp2_with fail
    refine (HR.out _).mono ?_
    rintro e w1 ⟨rfl, hg⟩
    obtain ⟨⟨n, os⟩, rfl⟩ := hg
    have gC := grow_cell n os
    have gF := grow_frozen n os
    go_wp2_with fail
    refine (HA.out _).mono ?_
    rintro e w1 ⟨rfl, hg⟩
    obtain ⟨⟨n2, os2⟩, rfl⟩ := hg
    have hz := grow_size n os
    have gC2 := grow_cell n2 os2
    have gF2 := grow_frozen n2 os2
    have z1 : w.heap.size < w.heap.size + 1 + 1 + os.size := by omega
    have z2 : w.heap.size + 1 < w.heap.size + 1 + 1 + os.size := by omega
    go_wp2_with fail
    go_ret
    exact ⟨rfl, ((((Grew.refl _).alloc _).alloc _).trans (Grew.mk _ _ _)).trans (Grew.mk _ _ _)⟩
  cases pB
  · go_enter Tryz.func70, Tryz.ntmps70
    go_wp2_with fail
    refine (HR.out _).mono ?_
    rintro e w1 ⟨rfl, hg⟩
    obtain ⟨⟨n, os⟩, rfl⟩ := hg
    have gC := grow_cell n os
    have gF := grow_frozen n os
    go_wp2_with fail
    refine (HA.out _).mono ?_
    rintro e w1 ⟨rfl, hg⟩
    obtain ⟨⟨n2, os2⟩, rfl⟩ := hg
    have hz := grow_size n os
    have gC2 := grow_cell n2 os2
    have gF2 := grow_frozen n2 os2
    have z1 : w.heap.size < w.heap.size + 1 + 1 + os.size := by omega
    have z2 : w.heap.size + 1 < w.heap.size + 1 + 1 + os.size := by omega
    go_wp2_with fail
    refine (HB.out _).mono ?_
    rintro e w1 ⟨rfl, hg⟩
    obtain ⟨⟨n3, os3⟩, rfl⟩ := hg
    have hz2 := grow_size n2 os2
    have gC3 := grow_cell n3 os3
    have gF3 := grow_frozen n3 os3
    have z3 : w.heap.size < w.heap.size + 1 + 1 + os.size + os2.size := by omega
    have z4 : w.heap.size + 1 < w.heap.size + 1 + 1 + os.size + os2.size := by omega
    go_wp2_with fail
    go_ret
    exact ⟨rfl, (((((Grew.refl _).alloc _).alloc _).trans (Grew.mk _ _ _)).trans (Grew.mk _ _ _)).trans (Grew.mk _ _ _)⟩
  cases pV
  · go_enter Tryz.func70, Tryz.ntmps70
    go_wp2_with fail
    refine (HR.out _).mono ?_
    rintro e w1 ⟨rfl, hg⟩
    obtain ⟨⟨n, os⟩, rfl⟩ := hg
    have gC := grow_cell n os
    have gF := grow_frozen n os
    go_wp2_with fail
    refine (HA.out _).mono ?_
    rintro e w1 ⟨rfl, hg⟩
    obtain ⟨⟨n2, os2⟩, rfl⟩ := hg
    have hz := grow_size n os
    have gC2 := grow_cell n2 os2
    have gF2 := grow_frozen n2 os2
    have z1 : w.heap.size < w.heap.size + 1 + 1 + os.size := by omega
    have z2 : w.heap.size + 1 < w.heap.size + 1 + 1 + os.size := by omega
    go_wp2_with fail
    refine (HB.out _).mono ?_
    rintro e w1 ⟨rfl, hg⟩
    obtain ⟨⟨n3, os3⟩, rfl⟩ := hg
    have hz2 := grow_size n2 os2
    have gC3 := grow_cell n3 os3
    have gF3 := grow_frozen n3 os3
    have z3 : w.heap.size < w.heap.size + 1 + 1 + os.size + os2.size := by omega
    have z4 : w.heap.size + 1 < w.heap.size + 1 + 1 + os.size + os2.size := by omega
    go_wp2_with fail
    go_ret
    exact ⟨rfl, (((((Grew.refl _).alloc _).alloc _).trans (Grew.mk _ _ _)).trans (Grew.mk _ _ _)).trans (Grew.mk _ _ _)⟩
  · go_enter Tryz.func70, Tryz.ntmps70
    go_wp2_with fail
    refine (HR.out _).mono ?_
    rintro e w1 ⟨rfl, hg⟩
    obtain ⟨⟨n, os⟩, rfl⟩ := hg
    have gC := grow_cell n os
    have gF := grow_frozen n os
    go_wp2_with fail
    refine (HA.out _).mono ?_
    rintro e w1 ⟨rfl, hg⟩
    obtain ⟨⟨n2, os2⟩, rfl⟩ := hg
    have hz := grow_size n os
    have gC2 := grow_cell n2 os2
    have gF2 := grow_frozen n2 os2
    have z1 : w.heap.size < w.heap.size + 1 + 1 + os.size := by omega
    have z2 : w.heap.size + 1 < w.heap.size + 1 + 1 + os.size := by omega
    go_wp2_with fail
    refine (HB.out _).mono ?_
    rintro e w1 ⟨rfl, hg⟩
    obtain ⟨⟨n3, os3⟩, rfl⟩ := hg
    have hz2 := grow_size n2 os2
    have gC3 := grow_cell n3 os3
    have gF3 := grow_frozen n3 os3
    have z3 : w.heap.size < w.heap.size + 1 + 1 + os.size + os2.size := by omega
    have z4 : w.heap.size + 1 < w.heap.size + 1 + 1 + os.size + os2.size := by omega
    go_wp2_with fail
    refine (HL.out _).mono ?_
    rintro e w1 ⟨rfl, hg⟩
    obtain ⟨⟨n4, os4⟩, rfl⟩ := hg
    go_wp2_with fail
    go_ret
    exact ⟨rfl, ((((((Grew.refl _).alloc _).alloc _).trans (Grew.mk _ _ _)).trans (Grew.mk _ _ _)).trans (Grew.mk _ _ _)).trans (Grew.mk _ _ _)⟩
set_option maxRecDepth 100000 in
theorem ref_5 (k : Int) (ho hn wh ao an bo bn v : ByteArray) (w : World) (f1 : ho.size ≤ maxLen) (f2 : hn.size ≤ maxLen) (h : Rl.ok ⟨ho, hn⟩ = true) (hk : k < 1 ∨ 4 < k) : Calls Tryz.prog 70 #[.agg #[.int .i64 k, .string ho, .string hn, .string wh, .string ao, .string an, .string bo, .string bn, .string v]] w fun e w' => e = .returned (.bool false) ∧ Grew w w' := by
  have HR := Lib.hid (isRoleRef' ho hn · f1 f2)
  rw [h] at HR
  have e1 : (k == 1) = false := by simp; omega
  clear h
  rcases hk with hk | hk
  all_goals
    go_enter Tryz.func70, Tryz.ntmps70
    go_wp2_with fail
    refine (HR.out _).mono ?_
    rintro e w1 ⟨rfl, hg⟩
    obtain ⟨⟨n, os⟩, rfl⟩ := hg
    have gC := grow_cell n os
    have gF := grow_frozen n os
    go_wp2_with fail
    go_ret
    exact ⟨rfl, (((Grew.refl _).alloc _).alloc _).trans (Grew.mk _ _ _)⟩
end Go.Proofs.YtblapgfilbmdhaaGreatDoor.Syn8
