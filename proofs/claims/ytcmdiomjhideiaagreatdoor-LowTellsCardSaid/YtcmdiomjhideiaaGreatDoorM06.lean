/- Which statements are right, in the document's answers. -/
import Derived.Test.YtcmdiomjhideiaaGreatDoorM05
import Derived.Test.YtcmdiomjhideiaaGreatDoorM04
import Derived.Test.YtcmdiomjhideiaaGreatDoorM03
namespace Go.Proofs.YtcmdiomjhideiaaGreatDoor.Syn8
set_option linter.unusedVariables false
set_option linter.unusedSimpArgs false
open Go.RowKit Go.Sort Go.Proofs Go.Proofs.YtcmdiomjhideiaaGreatDoor.Plain Go.Proofs.YtcmdiomjhideiaaGreatDoor.SynP Go.Proofs.YtcmdiomjhideiaaGreatDoor.Named Go.Proofs.YtcmdiomjhideiaaGreatDoor.RefN Go.Proofs.YtcmdiomjhideiaaGreatDoor.Grown Go.Proofs.YtcmdiomjhideiaaGreatDoor.Syn1 Go.Proofs.YtcmdiomjhideiaaGreatDoor.Syn2 Go.Proofs.YtcmdiomjhideiaaGreatDoor.Syn3 Go.Proofs.YtcmdiomjhideiaaGreatDoor.Syn4 Go.Proofs.YtcmdiomjhideiaaGreatDoor.Syn5 Go.Proofs.YtcmdiomjhideiaaGreatDoor.SynE
set_option linter.unusedSimpArgs false
set_option linter.unusedVariables false
theorem eqR0 (o n : ByteArray) (w : World) : (binOp .eql 28 (.agg #[.string o, .string n]) (.agg #[.string ⟨#[]⟩, .string ⟨#[]⟩])).run Tryz.prog w = .ok (.bool (decide ((⟨o, n⟩ : Rl) = zeroR))) w := eqR o n ⟨#[]⟩ ⟨#[]⟩ w
theorem empty_eq (a : ByteArray) : a.toList.isEmpty = decide (a = noText) := by
  rw [Bool.eq_iff_iff, decide_eq_true_iff, List.isEmpty_iff, Go.ByteArray.toList_eq]
  exact ⟨fun h => ba_ext h, fun h => by rw [h]; rfl⟩
set_option maxRecDepth 100000 in
theorem ref_head (k : Int) (ho hn wh ao an bo bn v : ByteArray) (w : World) (f1 : ho.size ≤ maxLen) (f2 : hn.size ≤ maxLen) (h : Rl.ok ⟨ho, hn⟩ = false) : Calls Tryz.prog 65 #[.agg #[.int .i64 k, .string ho, .string hn, .string wh, .string ao, .string an, .string bo, .string bn, .string v]] w fun e w' => e = .returned (.bool false) ∧ Grew w w' := by
  have HR := Lib.hid (isRoleRef' ho hn · f1 f2)
  rw [h] at HR
  clear h
  go_enter Tryz.func65, Tryz.ntmps65
  go_wp2_with (go_at_call 66; refine (HR.out _).mono ?_; rintro e w' ⟨rfl, hg⟩)
  go_ret
  exact ⟨rfl, (((Grew.refl _).alloc _).alloc _).trans hg⟩
set_option maxHeartbeats 4000000 in
set_option maxRecDepth 100000 in
theorem ref_1 (ho hn wh ao an bo bn v : ByteArray) (w : World) (hf : St.fit ⟨1, ⟨ho, hn⟩, wh, ⟨ao, an⟩, ⟨bo, bn⟩, v⟩) (h : Rl.ok ⟨ho, hn⟩ = true) : Calls Tryz.prog 65 #[.agg #[.int .i64 1, .string ho, .string hn, .string wh, .string ao, .string an, .string bo, .string bn, .string v]] w fun e w' => e = .returned (.bool (named capB wh.data.toList && decide ((⟨ao, an⟩ : Rl) = zeroR) && decide ((⟨bo, bn⟩ : Rl) = zeroR) && decide (v = noText))) ∧ Grew w w' := by
  have HR := Lib.hid (isRoleRef' ho hn · hf.1.1 hf.1.2)
  rw [h] at HR
  have HP := Lib.hid (refIsPrin wh · hf.2.1)
  have hA := eqR0 ao an
  have hB := eqR0 bo bn
  have hV := empty_eq v
  clear hf h
  generalize decide ((⟨ao, an⟩ : Rl) = zeroR) = pA at *
  generalize decide ((⟨bo, bn⟩ : Rl) = zeroR) = pB at *
  generalize decide (v = noText) = pV at *
  generalize named capB wh.data.toList = p at *
  cases p <;> cases pA <;> cases pB <;> cases pV
  all_goals
    go_enter Tryz.func65, Tryz.ntmps65
    go_wp2_with fail
    refine (HR.out _).mono ?_
    rintro e w1 ⟨rfl, hg⟩
    obtain ⟨⟨n, os⟩, rfl⟩ := hg
    have gC := grow_cell n os
    have gF := grow_frozen n os
    go_wp2_with (go_at_call 115; refine (HP.out _).mono ?_; rintro e w' ⟨rfl, rfl⟩)
    go_ret
    exact ⟨rfl, (((Grew.refl _).alloc _).alloc _).trans (Grew.mk _ _ _)⟩
set_option maxHeartbeats 4000000 in
set_option maxRecDepth 100000 in
theorem ref_2 (ho hn wh ao an bo bn v : ByteArray) (w : World) (hf : St.fit ⟨2, ⟨ho, hn⟩, wh, ⟨ao, an⟩, ⟨bo, bn⟩, v⟩) (h : Rl.ok ⟨ho, hn⟩ = true) : Calls Tryz.prog 65 #[.agg #[.int .i64 2, .string ho, .string hn, .string wh, .string ao, .string an, .string bo, .string bn, .string v]] w fun e w' => e = .returned (.bool (decide (wh = noText) && Rl.ok ⟨ao, an⟩ && decide ((⟨bo, bn⟩ : Rl) = zeroR) && decide (v = noText))) ∧ Grew w w' := by
  have HR := Lib.hid (isRoleRef' ho hn · hf.1.1 hf.1.2)
  rw [h] at HR
  have HA := Lib.hid (isRoleRef' ao an · hf.2.2.1.1 hf.2.2.1.2)
  have hW := empty_eq wh
  have hB := eqR0 bo bn
  have hV := empty_eq v
  clear hf h
  generalize decide (wh = noText) = pW at *
  generalize Rl.ok ⟨ao, an⟩ = pA at *
  generalize decide ((⟨bo, bn⟩ : Rl) = zeroR) = pB at *
  generalize decide (v = noText) = pV at *
  cases pW
  · go_enter Tryz.func65, Tryz.ntmps65
    go_wp2_with fail
    refine (HR.out _).mono ?_
    rintro e w1 ⟨rfl, hg⟩
    obtain ⟨⟨n, os⟩, rfl⟩ := hg
    have gC := grow_cell n os
    have gF := grow_frozen n os
    go_wp2_with fail
    go_ret
    exact ⟨rfl, (((Grew.refl _).alloc _).alloc _).trans (Grew.mk _ _ _)⟩
  cases pA
  · go_enter Tryz.func65, Tryz.ntmps65
    go_wp2_with fail
    refine (HR.out _).mono ?_
    rintro e w1 ⟨rfl, hg⟩
    obtain ⟨⟨n, os⟩, rfl⟩ := hg
    have gC := grow_cell n os
    have gF := grow_frozen n os
    go_wp2_with fail
    refine (HA.out _).mono ?_
    rintro e w1 ⟨rfl, hg⟩
    obtain ⟨⟨n2, os2⟩, rfl⟩ := hg
    have hz := grow_size n os
    have gC2 := grow_cell n2 os2
    have gF2 := grow_frozen n2 os2
    have z1 : w.heap.size < w.heap.size + 1 + 1 + os.size := by omega
    have z2 : w.heap.size + 1 < w.heap.size + 1 + 1 + os.size := by omega
    go_wp2_with fail
    go_ret
    exact ⟨rfl, ((((Grew.refl _).alloc _).alloc _).trans (Grew.mk _ _ _)).trans (Grew.mk _ _ _)⟩
  cases pB <;> cases pV
  all_goals
    go_enter Tryz.func65, Tryz.ntmps65
    go_wp2_with fail
    refine (HR.out _).mono ?_
    rintro e w1 ⟨rfl, hg⟩
    obtain ⟨⟨n, os⟩, rfl⟩ := hg
    have gC := grow_cell n os
    have gF := grow_frozen n os
    go_wp2_with fail
    refine (HA.out _).mono ?_
    rintro e w1 ⟨rfl, hg⟩
    obtain ⟨⟨n2, os2⟩, rfl⟩ := hg
    have hz := grow_size n os
    have gC2 := grow_cell n2 os2
    have gF2 := grow_frozen n2 os2
    have z1 : w.heap.size < w.heap.size + 1 + 1 + os.size := by omega
    have z2 : w.heap.size + 1 < w.heap.size + 1 + 1 + os.size := by omega
    go_wp2_with fail
    go_ret
    exact ⟨rfl, ((((Grew.refl _).alloc _).alloc _).trans (Grew.mk _ _ _)).trans (Grew.mk _ _ _)⟩
set_option maxHeartbeats 4000000 in
set_option maxRecDepth 100000 in
theorem ref_3 (ho hn wh ao an bo bn v : ByteArray) (w : World) (hf : St.fit ⟨3, ⟨ho, hn⟩, wh, ⟨ao, an⟩, ⟨bo, bn⟩, v⟩) (h : Rl.ok ⟨ho, hn⟩ = true) : Calls Tryz.prog 65 #[.agg #[.int .i64 3, .string ho, .string hn, .string wh, .string ao, .string an, .string bo, .string bn, .string v]] w fun e w' => e = .returned (.bool (decide (wh = noText) && Rl.ok ⟨ao, an⟩ && decide ((⟨bo, bn⟩ : Rl) = zeroR) && named smallB v.data.toList)) ∧ Grew w w' := by
  have HR := Lib.hid (isRoleRef' ho hn · hf.1.1 hf.1.2)
  rw [h] at HR
  have HA := Lib.hid (isRoleRef' ao an · hf.2.2.1.1 hf.2.2.1.2)
  have hW := empty_eq wh
  have hB := eqR0 bo bn
  have HN := Lib.hid (refIsName v · hf.2.2.2.2)
  clear hf h
  generalize decide (wh = noText) = pW at *
  generalize Rl.ok ⟨ao, an⟩ = pA at *
  generalize decide ((⟨bo, bn⟩ : Rl) = zeroR) = pB at *
  generalize named smallB v.data.toList = pV at *
  cases pW
  · go_enter Tryz.func65, Tryz.ntmps65
    go_wp2_with fail
    refine (HR.out _).mono ?_
    rintro e w1 ⟨rfl, hg⟩
    obtain ⟨⟨n, os⟩, rfl⟩ := hg
    have gC := grow_cell n os
    have gF := grow_frozen n os
    go_wp2_with (go_at_call 120; refine (HN.out _).mono ?_; rintro e w' ⟨rfl, rfl⟩)
    go_ret
    exact ⟨rfl, (((Grew.refl _).alloc _).alloc _).trans (Grew.mk _ _ _)⟩
  cases pA
  · go_enter Tryz.func65, Tryz.ntmps65
    go_wp2_with fail
    refine (HR.out _).mono ?_
    rintro e w1 ⟨rfl, hg⟩
    obtain ⟨⟨n, os⟩, rfl⟩ := hg
    have gC := grow_cell n os
    have gF := grow_frozen n os
    go_wp2_with fail
    refine (HA.out _).mono ?_
    rintro e w1 ⟨rfl, hg⟩
    obtain ⟨⟨n2, os2⟩, rfl⟩ := hg
    have hz := grow_size n os
    have gC2 := grow_cell n2 os2
    have gF2 := grow_frozen n2 os2
    have z1 : w.heap.size < w.heap.size + 1 + 1 + os.size := by omega
    have z2 : w.heap.size + 1 < w.heap.size + 1 + 1 + os.size := by omega
    go_wp2_with (go_at_call 120; refine (HN.out _).mono ?_; rintro e w' ⟨rfl, rfl⟩)
    go_ret
    exact ⟨rfl, ((((Grew.refl _).alloc _).alloc _).trans (Grew.mk _ _ _)).trans (Grew.mk _ _ _)⟩
  cases pB
  all_goals
    go_enter Tryz.func65, Tryz.ntmps65
    go_wp2_with fail
    refine (HR.out _).mono ?_
    rintro e w1 ⟨rfl, hg⟩
    obtain ⟨⟨n, os⟩, rfl⟩ := hg
    have gC := grow_cell n os
    have gF := grow_frozen n os
    go_wp2_with fail
    refine (HA.out _).mono ?_
    rintro e w1 ⟨rfl, hg⟩
    obtain ⟨⟨n2, os2⟩, rfl⟩ := hg
    have hz := grow_size n os
    have gC2 := grow_cell n2 os2
    have gF2 := grow_frozen n2 os2
    have z1 : w.heap.size < w.heap.size + 1 + 1 + os.size := by omega
    have z2 : w.heap.size + 1 < w.heap.size + 1 + 1 + os.size := by omega
    go_wp2_with (go_at_call 120; refine (HN.out _).mono ?_; rintro e w' ⟨rfl, rfl⟩)
    go_ret
    exact ⟨rfl, ((((Grew.refl _).alloc _).alloc _).trans (Grew.mk _ _ _)).trans (Grew.mk _ _ _)⟩
set_option maxHeartbeats 4000000 in
set_option maxRecDepth 100000 in
theorem ref_4 (ho hn wh ao an bo bn v : ByteArray) (w : World) (hf : St.fit ⟨4, ⟨ho, hn⟩, wh, ⟨ao, an⟩, ⟨bo, bn⟩, v⟩) (h : Rl.ok ⟨ho, hn⟩ = true) : Calls Tryz.prog 65 #[.agg #[.int .i64 4, .string ho, .string hn, .string wh, .string ao, .string an, .string bo, .string bn, .string v]] w fun e w' => e = .returned (.bool (decide (wh = noText) && Rl.ok ⟨ao, an⟩ && Rl.ok ⟨bo, bn⟩ && decide (v = noText) && !decide (cmpR ⟨bo, bn⟩ ⟨ao, an⟩ < 0))) ∧ Grew w w' := by
  have HR := Lib.hid (isRoleRef' ho hn · hf.1.1 hf.1.2)
  rw [h] at HR
  have HA := Lib.hid (isRoleRef' ao an · hf.2.2.1.1 hf.2.2.1.2)
  have hW := empty_eq wh
  have HB := Lib.hid (isRoleRef' bo bn · hf.2.2.2.1.1 hf.2.2.2.1.2)
  have HL := Lib.hid (lessRef' bo bn ao an)
  have hV := empty_eq v
  clear hf h
  generalize decide (wh = noText) = pW at *
  generalize Rl.ok ⟨ao, an⟩ = pA at *
  generalize Rl.ok ⟨bo, bn⟩ = pB at *
  generalize decide (cmpR ⟨bo, bn⟩ ⟨ao, an⟩ < 0) = pL at *
  generalize decide (v = noText) = pV at *
  cases pW
  · go_enter Tryz.func65, Tryz.ntmps65
    go_wp2_with fail
    refine (HR.out _).mono ?_
    rintro e w1 ⟨rfl, hg⟩
    obtain ⟨⟨n, os⟩, rfl⟩ := hg
    have gC := grow_cell n os
    have gF := grow_frozen n os
    go_wp2_with fail
    go_ret
    exact ⟨rfl, (((Grew.refl _).alloc _).alloc _).trans (Grew.mk _ _ _)⟩
  cases pA
  · go_enter Tryz.func65, Tryz.ntmps65
    go_wp2_with fail
    refine (HR.out _).mono ?_
    rintro e w1 ⟨rfl, hg⟩
    obtain ⟨⟨n, os⟩, rfl⟩ := hg
    have gC := grow_cell n os
    have gF := grow_frozen n os
    go_wp2_with fail
    refine (HA.out _).mono ?_
    rintro e w1 ⟨rfl, hg⟩
    obtain ⟨⟨n2, os2⟩, rfl⟩ := hg
    have hz := grow_size n os
    have gC2 := grow_cell n2 os2
    have gF2 := grow_frozen n2 os2
    have z1 : w.heap.size < w.heap.size + 1 + 1 + os.size := by omega
    have z2 : w.heap.size + 1 < w.heap.size + 1 + 1 + os.size := by omega
    go_wp2_with fail
    go_ret
    exact ⟨rfl, ((((Grew.refl _).alloc _).alloc _).trans (Grew.mk _ _ _)).trans (Grew.mk _ _ _)⟩
  cases pB
  · go_enter Tryz.func65, Tryz.ntmps65
    go_wp2_with fail
    refine (HR.out _).mono ?_
    rintro e w1 ⟨rfl, hg⟩
    obtain ⟨⟨n, os⟩, rfl⟩ := hg
    have gC := grow_cell n os
    have gF := grow_frozen n os
    go_wp2_with fail
    refine (HA.out _).mono ?_
    rintro e w1 ⟨rfl, hg⟩
    obtain ⟨⟨n2, os2⟩, rfl⟩ := hg
    have hz := grow_size n os
    have gC2 := grow_cell n2 os2
    have gF2 := grow_frozen n2 os2
    have z1 : w.heap.size < w.heap.size + 1 + 1 + os.size := by omega
    have z2 : w.heap.size + 1 < w.heap.size + 1 + 1 + os.size := by omega
    go_wp2_with fail
    refine (HB.out _).mono ?_
    rintro e w1 ⟨rfl, hg⟩
    obtain ⟨⟨n3, os3⟩, rfl⟩ := hg
    have hz2 := grow_size n2 os2
    have gC3 := grow_cell n3 os3
    have gF3 := grow_frozen n3 os3
    have z3 : w.heap.size < w.heap.size + 1 + 1 + os.size + os2.size := by omega
    have z4 : w.heap.size + 1 < w.heap.size + 1 + 1 + os.size + os2.size := by omega
    go_wp2_with fail
    go_ret
    exact ⟨rfl, (((((Grew.refl _).alloc _).alloc _).trans (Grew.mk _ _ _)).trans (Grew.mk _ _ _)).trans (Grew.mk _ _ _)⟩
  cases pV
  · go_enter Tryz.func65, Tryz.ntmps65
    go_wp2_with fail
    refine (HR.out _).mono ?_
    rintro e w1 ⟨rfl, hg⟩
    obtain ⟨⟨n, os⟩, rfl⟩ := hg
    have gC := grow_cell n os
    have gF := grow_frozen n os
    go_wp2_with fail
    refine (HA.out _).mono ?_
    rintro e w1 ⟨rfl, hg⟩
    obtain ⟨⟨n2, os2⟩, rfl⟩ := hg
    have hz := grow_size n os
    have gC2 := grow_cell n2 os2
    have gF2 := grow_frozen n2 os2
    have z1 : w.heap.size < w.heap.size + 1 + 1 + os.size := by omega
    have z2 : w.heap.size + 1 < w.heap.size + 1 + 1 + os.size := by omega
    go_wp2_with fail
    refine (HB.out _).mono ?_
    rintro e w1 ⟨rfl, hg⟩
    obtain ⟨⟨n3, os3⟩, rfl⟩ := hg
    have hz2 := grow_size n2 os2
    have gC3 := grow_cell n3 os3
    have gF3 := grow_frozen n3 os3
    have z3 : w.heap.size < w.heap.size + 1 + 1 + os.size + os2.size := by omega
    have z4 : w.heap.size + 1 < w.heap.size + 1 + 1 + os.size + os2.size := by omega
    go_wp2_with fail
    go_ret
    exact ⟨rfl, (((((Grew.refl _).alloc _).alloc _).trans (Grew.mk _ _ _)).trans (Grew.mk _ _ _)).trans (Grew.mk _ _ _)⟩
  · go_enter Tryz.func65, Tryz.ntmps65
    go_wp2_with fail
    refine (HR.out _).mono ?_
    rintro e w1 ⟨rfl, hg⟩
    obtain ⟨⟨n, os⟩, rfl⟩ := hg
    have gC := grow_cell n os
    have gF := grow_frozen n os
    go_wp2_with fail
    refine (HA.out _).mono ?_
    rintro e w1 ⟨rfl, hg⟩
    obtain ⟨⟨n2, os2⟩, rfl⟩ := hg
    have hz := grow_size n os
    have gC2 := grow_cell n2 os2
    have gF2 := grow_frozen n2 os2
    have z1 : w.heap.size < w.heap.size + 1 + 1 + os.size := by omega
    have z2 : w.heap.size + 1 < w.heap.size + 1 + 1 + os.size := by omega
    go_wp2_with fail
    refine (HB.out _).mono ?_
    rintro e w1 ⟨rfl, hg⟩
    obtain ⟨⟨n3, os3⟩, rfl⟩ := hg
    have hz2 := grow_size n2 os2
    have gC3 := grow_cell n3 os3
    have gF3 := grow_frozen n3 os3
    have z3 : w.heap.size < w.heap.size + 1 + 1 + os.size + os2.size := by omega
    have z4 : w.heap.size + 1 < w.heap.size + 1 + 1 + os.size + os2.size := by omega
    go_wp2_with fail
    refine (HL.out _).mono ?_
    rintro e w1 ⟨rfl, hg⟩
    obtain ⟨⟨n4, os4⟩, rfl⟩ := hg
    go_wp2_with fail
    go_ret
    exact ⟨rfl, ((((((Grew.refl _).alloc _).alloc _).trans (Grew.mk _ _ _)).trans (Grew.mk _ _ _)).trans (Grew.mk _ _ _)).trans (Grew.mk _ _ _)⟩
set_option maxRecDepth 100000 in
theorem ref_5 (k : Int) (ho hn wh ao an bo bn v : ByteArray) (w : World) (f1 : ho.size ≤ maxLen) (f2 : hn.size ≤ maxLen) (h : Rl.ok ⟨ho, hn⟩ = true) (hk : k < 1 ∨ 4 < k) : Calls Tryz.prog 65 #[.agg #[.int .i64 k, .string ho, .string hn, .string wh, .string ao, .string an, .string bo, .string bn, .string v]] w fun e w' => e = .returned (.bool false) ∧ Grew w w' := by
  have HR := Lib.hid (isRoleRef' ho hn · f1 f2)
  rw [h] at HR
  have e1 : (k == 1) = false := by simp; omega
  clear h
  rcases hk with hk | hk
  all_goals
    go_enter Tryz.func65, Tryz.ntmps65
    go_wp2_with fail
    refine (HR.out _).mono ?_
    rintro e w1 ⟨rfl, hg⟩
    obtain ⟨⟨n, os⟩, rfl⟩ := hg
    have gC := grow_cell n os
    have gF := grow_frozen n os
    go_wp2_with fail
    go_ret
    exact ⟨rfl, (((Grew.refl _).alloc _).alloc _).trans (Grew.mk _ _ _)⟩
end Go.Proofs.YtcmdiomjhideiaaGreatDoor.Syn8
/- The lines of statements, in the program and in the document's answers. -/
namespace Go.Proofs.YtcmdiomjhideiaaGreatDoor.Syn9
set_option linter.unusedVariables false
set_option linter.unusedSimpArgs false
open Go.RowKit Go.Sort Go.Proofs Go.Proofs.YtcmdiomjhideiaaGreatDoor.Plain Go.Proofs.YtcmdiomjhideiaaGreatDoor.SynP Go.Proofs.YtcmdiomjhideiaaGreatDoor.Named Go.Proofs.YtcmdiomjhideiaaGreatDoor.RefN Go.Proofs.YtcmdiomjhideiaaGreatDoor.Grown Go.Proofs.YtcmdiomjhideiaaGreatDoor.Syn1 Go.Proofs.YtcmdiomjhideiaaGreatDoor.Syn2 Go.Proofs.YtcmdiomjhideiaaGreatDoor.Syn3 Go.Proofs.YtcmdiomjhideiaaGreatDoor.Syn4 Go.Proofs.YtcmdiomjhideiaaGreatDoor.Syn5 Go.Proofs.YtcmdiomjhideiaaGreatDoor.SynE Go.Proofs.YtcmdiomjhideiaaGreatDoor.Syn7 Go.Proofs.YtcmdiomjhideiaaGreatDoor.Syn8
set_option linter.unusedSimpArgs false
set_option linter.unusedVariables false
theorem right_iff (k : Int) (ho hn wh ao an bo bn v : ByteArray) (h : Rl.ok ⟨ho, hn⟩ = true) : St.right ⟨k, ⟨ho, hn⟩, wh, ⟨ao, an⟩, ⟨bo, bn⟩, v⟩ = (St.says ⟨k, ⟨ho, hn⟩, wh, ⟨ao, an⟩, ⟨bo, bn⟩, v⟩ && decide ((⟨k, ⟨ho, hn⟩, wh, ⟨ao, an⟩, ⟨bo, bn⟩, v⟩ : St) = St.own ⟨k, ⟨ho, hn⟩, wh, ⟨ao, an⟩, ⟨bo, bn⟩, v⟩)) := by
  unfold St.right; simp only [h, Bool.true_and]
theorem rightRef (s : St) (w : World) (hf : s.fit) : Calls Tryz.prog 65 #[s.val] w fun e w' => e = .returned (.bool s.right) ∧ Grew w w' := by
  obtain ⟨k1, ⟨ho, hn⟩, wh, ⟨ao, an⟩, ⟨bo, bn⟩, v⟩ := s
  cases h1 : Rl.ok ⟨ho, hn⟩
  · refine (ref_head k1 ho hn wh ao an bo bn v w hf.1.1 hf.1.2 h1).mono ?_
    rintro e w' ⟨rfl, hg⟩
    exact ⟨ret_bool (by unfold St.right; simp only [h1]; rfl), hg⟩
  rcases kinds k1 with rfl | rfl | rfl | rfl | hk
  · refine (ref_1 ho hn wh ao an bo bn v w hf h1).mono ?_
    rintro e w' ⟨rfl, hg⟩
    refine ⟨ret_bool ?_, hg⟩
    rw [right_iff _ _ _ _ _ _ _ _ _ h1]
    simp only [St.says, St.own, zeroR]
    simp
    try (rw [Bool.eq_iff_iff]; simp; try grind)
  · refine (ref_2 ho hn wh ao an bo bn v w hf h1).mono ?_
    rintro e w' ⟨rfl, hg⟩
    refine ⟨ret_bool ?_, hg⟩
    rw [right_iff _ _ _ _ _ _ _ _ _ h1]
    simp only [St.says, St.own, zeroR]
    simp
    try (rw [Bool.eq_iff_iff]; simp; try grind)
  · refine (ref_3 ho hn wh ao an bo bn v w hf h1).mono ?_
    rintro e w' ⟨rfl, hg⟩
    refine ⟨ret_bool ?_, hg⟩
    rw [right_iff _ _ _ _ _ _ _ _ _ h1]
    simp only [St.says, St.own, zeroR]
    simp
    try (rw [Bool.eq_iff_iff]; simp; try grind)
  · refine (ref_4 ho hn wh ao an bo bn v w hf h1).mono ?_
    rintro e w' ⟨rfl, hg⟩
    refine ⟨ret_bool ?_, hg⟩
    rw [right_iff _ _ _ _ _ _ _ _ _ h1]
    simp only [St.says, St.own, zeroR]
    simp
    try (rw [Bool.eq_iff_iff]; simp; try grind)
  · refine (ref_5 k1 ho hn wh ao an bo bn v w hf.1.1 hf.1.2 h1 (by omega)).mono ?_
    rintro e w' ⟨rfl, hg⟩
    refine ⟨ret_bool ?_, hg⟩
    rw [right_iff _ _ _ _ _ _ _ _ _ h1]
    simp only [St.says, if_neg hk.1, if_neg hk.2.1, if_neg hk.2.2.1, if_neg hk.2.2.2, Bool.false_and]
end Go.Proofs.YtcmdiomjhideiaaGreatDoor.Syn9
/- The lines of statements, in the program and in the document's answers. -/
namespace Go.Proofs.YtcmdiomjhideiaaGreatDoor.SynL
set_option linter.unusedVariables false
set_option linter.unusedSimpArgs false
open Go.RowKit Go.Sort Go.Proofs Go.Proofs.YtcmdiomjhideiaaGreatDoor.Plain Go.Proofs.YtcmdiomjhideiaaGreatDoor.SynP Go.Proofs.YtcmdiomjhideiaaGreatDoor.Named Go.Proofs.YtcmdiomjhideiaaGreatDoor.RefN Go.Proofs.YtcmdiomjhideiaaGreatDoor.Grown Go.Proofs.YtcmdiomjhideiaaGreatDoor.Syn1 Go.Proofs.YtcmdiomjhideiaaGreatDoor.Syn2 Go.Proofs.YtcmdiomjhideiaaGreatDoor.Syn3 Go.Proofs.YtcmdiomjhideiaaGreatDoor.Syn4 Go.Proofs.YtcmdiomjhideiaaGreatDoor.Syn5 Go.Proofs.YtcmdiomjhideiaaGreatDoor.SynE Go.Proofs.YtcmdiomjhideiaaGreatDoor.Syn7 Go.Proofs.YtcmdiomjhideiaaGreatDoor.Syn8 Go.Proofs.YtcmdiomjhideiaaGreatDoor.Syn9
set_option linter.unusedSimpArgs false
set_option linter.unusedVariables false
def text (r : Rl) : ByteArray := r.owner ++ ⟨#[46]⟩ ++ r.name
theorem right_kind {s : St} (h : s.right = true) : s.kind = 1 ∨ s.kind = 2 ∨ s.kind = 3 ∨ s.kind = 4 := by
  rcases kinds s.kind with h1 | h1 | h1 | h1 | ⟨h1, h2, h3, h4⟩
  · exact .inl h1
  · exact .inr (.inl h1)
  · exact .inr (.inr (.inl h1))
  · exact .inr (.inr (.inr h1))
  · unfold St.right St.says at h
    rw [if_neg h1, if_neg h2, if_neg h3, if_neg h4] at h
    simp at h
theorem right_parts {k : Int} {ho hn wh ao an bo bn v : ByteArray} (h : St.right ⟨k, ⟨ho, hn⟩, wh, ⟨ao, an⟩, ⟨bo, bn⟩, v⟩ = true) : Rl.ok ⟨ho, hn⟩ = true ∧ (k = 1 → named capB wh.data.toList = true) ∧ ((k = 2 ∨ k = 3 ∨ k = 4) → Rl.ok ⟨ao, an⟩ = true) ∧ (k = 3 → named smallB v.data.toList = true) ∧ (k = 4 → Rl.ok ⟨bo, bn⟩ = true) := by
  unfold St.right at h
  simp only [Bool.and_eq_true] at h
  obtain ⟨⟨h1, h2⟩, h3⟩ := h
  unfold St.says at h2
  refine ⟨h1, ?_, ?_, ?_, ?_⟩
  · rintro rfl; exact h2
  · rintro (rfl | rfl | rfl)
    · exact h2
    · exact (Bool.and_eq_true _ _ ▸ h2 : _ ∧ _).1
    · have := (Bool.and_eq_true _ _ ▸ h2 : _ ∧ _).1
      exact (Bool.and_eq_true _ _ ▸ this : _ ∧ _).1
  · rintro rfl; exact (Bool.and_eq_true _ _ ▸ h2 : _ ∧ _).2
  · rintro rfl
    have := (Bool.and_eq_true _ _ ▸ h2 : _ ∧ _).1
    exact (Bool.and_eq_true _ _ ▸ this : _ ∧ _).2
end Go.Proofs.YtcmdiomjhideiaaGreatDoor.SynL
/- Stores into a block that a world, known by its cells alone, holds. -/
namespace Go.Proofs.YtcmdiomjhideiaaGreatDoor.SynS
set_option linter.unusedVariables false
set_option linter.unusedSimpArgs false
open Go.RowKit Go.Sort
open Go.Proofs.YtcmdiomjhideiaaGreatDoor.Grown
end Go.Proofs.YtcmdiomjhideiaaGreatDoor.SynS
/- Tokens compared, and the role that tokens begin with. -/
namespace Go.Proofs.YtcmdiomjhideiaaGreatDoor.SynT
set_option linter.unusedVariables false
set_option linter.unusedSimpArgs false
open Go.RowKit Go.Sort Go.Proofs Go.Proofs.YtcmdiomjhideiaaGreatDoor.Plain Go.Proofs.YtcmdiomjhideiaaGreatDoor.SynP Go.Proofs.YtcmdiomjhideiaaGreatDoor.SynQ Go.Proofs.YtcmdiomjhideiaaGreatDoor.Grown Go.Proofs.YtcmdiomjhideiaaGreatDoor.SynA Go.Proofs.YtcmdiomjhideiaaGreatDoor.SynC Go.Proofs.YtcmdiomjhideiaaGreatDoor.SynR Go.Proofs.YtcmdiomjhideiaaGreatDoor.SynW Go.Proofs.YtcmdiomjhideiaaGreatDoor.Scan3 Go.Proofs.YtcmdiomjhideiaaGreatDoor.Scan5 Go.Proofs.YtcmdiomjhideiaaGreatDoor.Syn1 Go.Proofs.YtcmdiomjhideiaaGreatDoor.Syn2 Go.Proofs.YtcmdiomjhideiaaGreatDoor.Syn4 Go.Proofs.YtcmdiomjhideiaaGreatDoor.SynL Go.Proofs.YtcmdiomjhideiaaGreatDoor.SynS
set_option linter.unusedVariables false
set_option linter.unusedSimpArgs false
end Go.Proofs.YtcmdiomjhideiaaGreatDoor.SynT
