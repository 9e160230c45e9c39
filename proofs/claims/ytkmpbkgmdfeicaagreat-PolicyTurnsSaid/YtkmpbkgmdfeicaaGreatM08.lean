/- The lines of statements, in the program and in the document's answers. -/
import Derived.Test.YtkmpbkgmdfeicaaGreatM07
import Derived.Test.YtkmpbkgmdfeicaaGreatM04
import Derived.RegionTactic
import Derived.ChangeAlike
namespace Go.Proofs.YtkmpbkgmdfeicaaGreat.Syn9
set_option linter.unusedVariables false
set_option linter.unusedSimpArgs false
open Go.RowKit Go.Sort Go.Proofs Go.Proofs.YtkmpbkgmdfeicaaGreat.Plain Go.Proofs.YtkmpbkgmdfeicaaGreat.SynP Go.Proofs.YtkmpbkgmdfeicaaGreat.Named Go.Proofs.YtkmpbkgmdfeicaaGreat.RefN Go.Proofs.YtkmpbkgmdfeicaaGreat.Grown Go.Proofs.YtkmpbkgmdfeicaaGreat.Syn1 Go.Proofs.YtkmpbkgmdfeicaaGreat.Syn2 Go.Proofs.YtkmpbkgmdfeicaaGreat.Syn3 Go.Proofs.YtkmpbkgmdfeicaaGreat.Syn4 Go.Proofs.YtkmpbkgmdfeicaaGreat.Syn5 Go.Proofs.YtkmpbkgmdfeicaaGreat.SynE Go.Proofs.YtkmpbkgmdfeicaaGreat.Syn7 Go.Proofs.YtkmpbkgmdfeicaaGreat.Syn8
set_option linter.unusedSimpArgs false
set_option linter.unusedVariables false
theorem right_iff (k : Int) (ho hn wh ao an bo bn v : ByteArray) (h : Rl.ok ⟨ho, hn⟩ = true) : St.right ⟨k, ⟨ho, hn⟩, wh, ⟨ao, an⟩, ⟨bo, bn⟩, v⟩ = (St.says ⟨k, ⟨ho, hn⟩, wh, ⟨ao, an⟩, ⟨bo, bn⟩, v⟩ && decide ((⟨k, ⟨ho, hn⟩, wh, ⟨ao, an⟩, ⟨bo, bn⟩, v⟩ : St) = St.own ⟨k, ⟨ho, hn⟩, wh, ⟨ao, an⟩, ⟨bo, bn⟩, v⟩)) := by
  unfold St.right; simp only [h, Bool.true_and]
theorem rightRef (s : St) (w : World) (hf : s.fit) : Calls Tryz.prog 32 #[s.val] w fun e w' => e = .returned (.bool s.right) ∧ Grew w w' := by
  obtain ⟨k1, ⟨ho, hn⟩, wh, ⟨ao, an⟩, ⟨bo, bn⟩, v⟩ := s
  cases h1 : Rl.ok ⟨ho, hn⟩
  · refine (ref_head k1 ho hn wh ao an bo bn v w hf.1.1 hf.1.2 h1).mono ?_
    rintro e w' ⟨rfl, hg⟩
    exact ⟨ret_bool (by unfold St.right; simp only [h1]; rfl), hg⟩
  rcases kinds k1 with rfl | rfl | rfl | rfl | hk
  · refine (ref_1 ho hn wh ao an bo bn v w hf h1).mono ?_
    rintro e w' ⟨rfl, hg⟩
    refine ⟨ret_bool ?_, hg⟩
    rw [right_iff _ _ _ _ _ _ _ _ _ h1]
    simp only [St.says, St.own, zeroR]
    simp
    try (rw [Bool.eq_iff_iff]; simp; try grind)
  · refine (ref_2 ho hn wh ao an bo bn v w hf h1).mono ?_
    rintro e w' ⟨rfl, hg⟩
    refine ⟨ret_bool ?_, hg⟩
    rw [right_iff _ _ _ _ _ _ _ _ _ h1]
    simp only [St.says, St.own, zeroR]
    simp
    try (rw [Bool.eq_iff_iff]; simp; try grind)
  · refine (ref_3 ho hn wh ao an bo bn v w hf h1).mono ?_
    rintro e w' ⟨rfl, hg⟩
    refine ⟨ret_bool ?_, hg⟩
    rw [right_iff _ _ _ _ _ _ _ _ _ h1]
    simp only [St.says, St.own, zeroR]
    simp
    try (rw [Bool.eq_iff_iff]; simp; try grind)
  · refine (ref_4 ho hn wh ao an bo bn v w hf h1).mono ?_
    rintro e w' ⟨rfl, hg⟩
    refine ⟨ret_bool ?_, hg⟩
    rw [right_iff _ _ _ _ _ _ _ _ _ h1]
    simp only [St.says, St.own, zeroR]
    simp
    try (rw [Bool.eq_iff_iff]; simp; try grind)
  · refine (ref_5 k1 ho hn wh ao an bo bn v w hf.1.1 hf.1.2 h1 (by omega)).mono ?_
    rintro e w' ⟨rfl, hg⟩
    refine ⟨ret_bool ?_, hg⟩
    rw [right_iff _ _ _ _ _ _ _ _ _ h1]
    simp only [St.says, if_neg hk.1, if_neg hk.2.1, if_neg hk.2.2.1, if_neg hk.2.2.2, Bool.false_and]
end Go.Proofs.YtkmpbkgmdfeicaaGreat.Syn9
/- The lines of statements, in the program and in the document's answers. -/
namespace Go.Proofs.YtkmpbkgmdfeicaaGreat.SynL
set_option linter.unusedVariables false
set_option linter.unusedSimpArgs false
open Go.RowKit Go.Sort Go.Proofs Go.Proofs.YtkmpbkgmdfeicaaGreat.Plain Go.Proofs.YtkmpbkgmdfeicaaGreat.SynP Go.Proofs.YtkmpbkgmdfeicaaGreat.Named Go.Proofs.YtkmpbkgmdfeicaaGreat.RefN Go.Proofs.YtkmpbkgmdfeicaaGreat.Grown Go.Proofs.YtkmpbkgmdfeicaaGreat.Syn1 Go.Proofs.YtkmpbkgmdfeicaaGreat.Syn2 Go.Proofs.YtkmpbkgmdfeicaaGreat.Syn3 Go.Proofs.YtkmpbkgmdfeicaaGreat.Syn4 Go.Proofs.YtkmpbkgmdfeicaaGreat.Syn5 Go.Proofs.YtkmpbkgmdfeicaaGreat.SynE Go.Proofs.YtkmpbkgmdfeicaaGreat.Syn7 Go.Proofs.YtkmpbkgmdfeicaaGreat.Syn8 Go.Proofs.YtkmpbkgmdfeicaaGreat.Syn9
set_option linter.unusedSimpArgs false
set_option linter.unusedVariables false
def text (r : Rl) : ByteArray := r.owner ++ ⟨#[46]⟩ ++ r.name
/-- What stands behind the arrow. -/
def body (s : St) : ByteArray := if s.kind = 1 then s.who else if s.kind = 2 then text s.a else if s.kind = 3 then text s.a ++ ⟨#[46]⟩ ++ s.via else text s.a ++ ⟨#[32, 38, 32]⟩ ++ text s.b
/-- A statement's line: nothing, if it isn't right. -/
def line (s : St) : ByteArray := if s.right = true then text s.head ++ ⟨#[32, 60, 45, 32]⟩ ++ body s else noText
theorem right_kind {s : St} (h : s.right = true) : s.kind = 1 ∨ s.kind = 2 ∨ s.kind = 3 ∨ s.kind = 4 := by
  rcases kinds s.kind with h1 | h1 | h1 | h1 | ⟨h1, h2, h3, h4⟩
  · exact .inl h1
  · exact .inr (.inl h1)
  · exact .inr (.inr (.inl h1))
  · exact .inr (.inr (.inr h1))
  · unfold St.right St.says at h
    rw [if_neg h1, if_neg h2, if_neg h3, if_neg h4] at h
    simp at h
theorem addS (a b : ByteArray) (h : a.size + b.size ≤ 100000) (w : World) : (binOp .add 9 (.string a) (.string b)).run Tryz.prog w = .ok (.string (a ++ b)) w := by
  go_simp
  omega
theorem sz46 : (⟨#[46]⟩ : ByteArray).size = 1 := rfl
theorem sz38 : (⟨#[32, 38, 32]⟩ : ByteArray).size = 3 := rfl
theorem szA : (⟨#[32, 60, 45, 32]⟩ : ByteArray).size = 4 := rfl
theorem named_small {f} {s : ByteArray} (h : named f s.data.toList = true) : s.size ≤ 1000 := by
  rcases Nat.lt_or_ge 1000 s.size with hlt | hge
  · rw [named_len (by omega)] at h; cases h
  · exact hge
theorem ok_small {o n : ByteArray} (h : Rl.ok ⟨o, n⟩ = true) : o.size ≤ 1000 ∧ n.size ≤ 1000 := by
  unfold Rl.ok at h
  rw [Bool.and_eq_true] at h
  exact ⟨named_small h.1, named_small h.2⟩
theorem right_parts {k : Int} {ho hn wh ao an bo bn v : ByteArray} (h : St.right ⟨k, ⟨ho, hn⟩, wh, ⟨ao, an⟩, ⟨bo, bn⟩, v⟩ = true) : Rl.ok ⟨ho, hn⟩ = true ∧ (k = 1 → named capB wh.data.toList = true) ∧ ((k = 2 ∨ k = 3 ∨ k = 4) → Rl.ok ⟨ao, an⟩ = true) ∧ (k = 3 → named smallB v.data.toList = true) ∧ (k = 4 → Rl.ok ⟨bo, bn⟩ = true) := by
  unfold St.right at h
  simp only [Bool.and_eq_true] at h
  obtain ⟨⟨h1, h2⟩, h3⟩ := h
  unfold St.says at h2
  refine ⟨h1, ?_, ?_, ?_, ?_⟩
  · rintro rfl; exact h2
  · rintro (rfl | rfl | rfl)
    · exact h2
    · exact (Bool.and_eq_true _ _ ▸ h2 : _ ∧ _).1
    · have := (Bool.and_eq_true _ _ ▸ h2 : _ ∧ _).1
      exact (Bool.and_eq_true _ _ ▸ this : _ ∧ _).1
  · rintro rfl; exact (Bool.and_eq_true _ _ ▸ h2 : _ ∧ _).2
  · rintro rfl
    have := (Bool.and_eq_true _ _ ▸ h2 : _ ∧ _).1
    exact (Bool.and_eq_true _ _ ▸ this : _ ∧ _).2
theorem printRole' (o n : ByteArray) (w : World) (h1 : o.size ≤ 1000) (h2 : n.size ≤ 1000) : Calls Tryz.prog 43 #[.agg #[.string o, .string n]] w fun e w' => e = .returned (.string (o ++ ⟨#[46]⟩ ++ n)) ∧ Grew w w' := printRole ⟨o, n⟩ w ⟨h1, h2⟩
theorem printRoleRef' (o n : ByteArray) (w : World) (h1 : o.size ≤ 1000) (h2 : n.size ≤ 1000) : Calls Tryz.prog 47 #[.agg #[.string o, .string n]] w fun e w' => e = .returned (.string (o ++ ⟨#[46]⟩ ++ n)) ∧ Grew w w' := printRoleRef ⟨o, n⟩ w ⟨h1, h2⟩
set_option maxRecDepth 100000 in
theorem print_no (k : Int) (ho hn wh ao an bo bn v : ByteArray) (w : World) (hf : St.fit ⟨k, ⟨ho, hn⟩, wh, ⟨ao, an⟩, ⟨bo, bn⟩, v⟩) (h : St.right ⟨k, ⟨ho, hn⟩, wh, ⟨ao, an⟩, ⟨bo, bn⟩, v⟩ = false) : Calls Tryz.prog 42 #[.agg #[.int .i64 k, .string ho, .string hn, .string wh, .string ao, .string an, .string bo, .string bn, .string v]] w fun e w' => e = .returned (.string noText) ∧ Grew w w' := by
  have hR := (right ⟨k, ⟨ho, hn⟩, wh, ⟨ao, an⟩, ⟨bo, bn⟩, v⟩ · hf)
  unfold St.val at hR
  rw [h] at hR
  have HR := Lib.hid hR
  clear h hR hf
  go_enter Tryz.func42, Tryz.ntmps42
  go_wp2_with fail
  refine (HR.out _).mono ?_
  rintro e w1 ⟨rfl, hg⟩
  go_wp2_with fail
  go_ret
  exact ⟨rfl, ((Grew.refl _).alloc _).trans hg⟩
set_option maxHeartbeats 1000000 in
set_option maxRecDepth 100000 in
theorem print_1 (ho hn wh ao an bo bn v : ByteArray) (w : World) (hf : St.fit ⟨1, ⟨ho, hn⟩, wh, ⟨ao, an⟩, ⟨bo, bn⟩, v⟩) (h : St.right ⟨1, ⟨ho, hn⟩, wh, ⟨ao, an⟩, ⟨bo, bn⟩, v⟩ = true) : Calls Tryz.prog 42 #[.agg #[.int .i64 1, .string ho, .string hn, .string wh, .string ao, .string an, .string bo, .string bn, .string v]] w fun e w' => e = .returned (.string ((ho ++ ⟨#[46]⟩ ++ hn ++ ⟨#[32, 60, 45, 32]⟩) ++ wh)) ∧ Grew w w' := by
  have hR := (right ⟨1, ⟨ho, hn⟩, wh, ⟨ao, an⟩, ⟨bo, bn⟩, v⟩ · hf)
  unfold St.val at hR
  rw [h] at hR
  have HR := Lib.hid hR
  have hp := right_parts h
  have b0 := ok_small hp.1
  have b1 := named_small (hp.2.1 rfl)
  have HP := Lib.hid printRole'
  have hm := mixed
  clear h hR hf hp
  go_enter Tryz.func42, Tryz.ntmps42
  go_wp2_with fail
  refine (HR.out _).mono ?_
  rintro e w1 ⟨rfl, hg⟩
  obtain ⟨⟨n, os⟩, rfl⟩ := hg
  have gC := grow_cell n os
  have gF := grow_frozen n os
  go_wp2_with fail
  refine (HP.out _ _ _ b0.1 b0.2).mono ?_
  rintro e w1 ⟨rfl, hg⟩
  obtain ⟨⟨n2, os2⟩, rfl⟩ := hg
  have hz := grow_size n os
  have gC2 := grow_cell n2 os2
  have gF2 := grow_frozen n2 os2
  have z1 : w.heap.size < w.heap.size + 1 + os.size := by omega
  go_wp2_with fail
  go_ret
  exact ⟨rfl, (((Grew.refl _).alloc _).trans (Grew.mk _ _ _)).trans (Grew.mk _ _ _)⟩
set_option maxHeartbeats 1000000 in
set_option maxRecDepth 100000 in
theorem print_2 (ho hn wh ao an bo bn v : ByteArray) (w : World) (hf : St.fit ⟨2, ⟨ho, hn⟩, wh, ⟨ao, an⟩, ⟨bo, bn⟩, v⟩) (h : St.right ⟨2, ⟨ho, hn⟩, wh, ⟨ao, an⟩, ⟨bo, bn⟩, v⟩ = true) : Calls Tryz.prog 42 #[.agg #[.int .i64 2, .string ho, .string hn, .string wh, .string ao, .string an, .string bo, .string bn, .string v]] w fun e w' => e = .returned (.string ((ho ++ ⟨#[46]⟩ ++ hn ++ ⟨#[32, 60, 45, 32]⟩) ++ (ao ++ ⟨#[46]⟩ ++ an))) ∧ Grew w w' := by
  have hR := (right ⟨2, ⟨ho, hn⟩, wh, ⟨ao, an⟩, ⟨bo, bn⟩, v⟩ · hf)
  unfold St.val at hR
  rw [h] at hR
  have HR := Lib.hid hR
  have hp := right_parts h
  have b0 := ok_small hp.1
  have bA := ok_small (hp.2.2.1 (by decide))
  have HP := Lib.hid printRole'
  have hm := mixed
  clear h hR hf hp
  go_enter Tryz.func42, Tryz.ntmps42
  go_wp2_with fail
  refine (HR.out _).mono ?_
  rintro e w1 ⟨rfl, hg⟩
  obtain ⟨⟨n, os⟩, rfl⟩ := hg
  have gC := grow_cell n os
  have gF := grow_frozen n os
  go_wp2_with fail
  refine (HP.out _ _ _ b0.1 b0.2).mono ?_
  rintro e w1 ⟨rfl, hg⟩
  obtain ⟨⟨n2, os2⟩, rfl⟩ := hg
  have hz := grow_size n os
  have gC2 := grow_cell n2 os2
  have gF2 := grow_frozen n2 os2
  have z1 : w.heap.size < w.heap.size + 1 + os.size := by omega
  go_wp2_with fail
  refine (HP.out _ _ _ bA.1 bA.2).mono ?_
  rintro e w1 ⟨rfl, hg⟩
  go_wp2_with fail
  go_ret
  exact ⟨rfl, ((((Grew.refl _).alloc _).trans (Grew.mk _ _ _)).trans (Grew.mk _ _ _)).trans hg⟩
set_option maxHeartbeats 1000000 in
set_option maxRecDepth 100000 in
theorem print_3 (ho hn wh ao an bo bn v : ByteArray) (w : World) (hf : St.fit ⟨3, ⟨ho, hn⟩, wh, ⟨ao, an⟩, ⟨bo, bn⟩, v⟩) (h : St.right ⟨3, ⟨ho, hn⟩, wh, ⟨ao, an⟩, ⟨bo, bn⟩, v⟩ = true) : Calls Tryz.prog 42 #[.agg #[.int .i64 3, .string ho, .string hn, .string wh, .string ao, .string an, .string bo, .string bn, .string v]] w fun e w' => e = .returned (.string ((ho ++ ⟨#[46]⟩ ++ hn ++ ⟨#[32, 60, 45, 32]⟩) ++ (ao ++ ⟨#[46]⟩ ++ an ++ ⟨#[46]⟩ ++ v))) ∧ Grew w w' := by
  have hR := (right ⟨3, ⟨ho, hn⟩, wh, ⟨ao, an⟩, ⟨bo, bn⟩, v⟩ · hf)
  unfold St.val at hR
  rw [h] at hR
  have HR := Lib.hid hR
  have hp := right_parts h
  have b0 := ok_small hp.1
  have bA := ok_small (hp.2.2.1 (by decide))
  have b3 := named_small (hp.2.2.2.1 rfl)
  have HP := Lib.hid printRole'
  have hm := mixed
  have q0 : ¬ (9223372036854775807 < ao.size + 1 + an.size + 1) := by omega
  have q1 : ¬ (9223372036854775807 < ao.size + 1 + an.size + 1 + v.size) := by omega
  have q2 : ¬ (9223372036854775807 < ho.size + 1 + hn.size + 4 + (ao.size + 1 + an.size + 1 + v.size)) := by omega
  clear h hR hf hp
  go_enter Tryz.func42, Tryz.ntmps42
  go_wp2_with fail
  refine (HR.out _).mono ?_
  rintro e w1 ⟨rfl, hg⟩
  obtain ⟨⟨n, os⟩, rfl⟩ := hg
  have gC := grow_cell n os
  have gF := grow_frozen n os
  go_wp2_with fail
  refine (HP.out _ _ _ b0.1 b0.2).mono ?_
  rintro e w1 ⟨rfl, hg⟩
  obtain ⟨⟨n2, os2⟩, rfl⟩ := hg
  have hz := grow_size n os
  have gC2 := grow_cell n2 os2
  have gF2 := grow_frozen n2 os2
  have z1 : w.heap.size < w.heap.size + 1 + os.size := by omega
  go_wp2_with fail
  have gC3 := grow_cell
  have hz2 := grow_size n2 os2
  have z2 : w.heap.size < w.heap.size + 1 + os.size + os2.size := by omega
  go_quiet_grown ((go_at_call 43; exact grewCall (HP.out _ _ _ bA.1 bA.2)))
  go_wp2_with fail
  go_ret
  exact ⟨rfl, ((((Grew.refl _).alloc _).trans (Grew.mk _ _ _)).trans (Grew.mk _ _ _)).trans (Grew.mk _ _ _)⟩
set_option maxHeartbeats 1000000 in
set_option maxRecDepth 100000 in
theorem print_4 (ho hn wh ao an bo bn v : ByteArray) (w : World) (hf : St.fit ⟨4, ⟨ho, hn⟩, wh, ⟨ao, an⟩, ⟨bo, bn⟩, v⟩) (h : St.right ⟨4, ⟨ho, hn⟩, wh, ⟨ao, an⟩, ⟨bo, bn⟩, v⟩ = true) : Calls Tryz.prog 42 #[.agg #[.int .i64 4, .string ho, .string hn, .string wh, .string ao, .string an, .string bo, .string bn, .string v]] w fun e w' => e = .returned (.string ((ho ++ ⟨#[46]⟩ ++ hn ++ ⟨#[32, 60, 45, 32]⟩) ++ (ao ++ ⟨#[46]⟩ ++ an ++ ⟨#[32, 38, 32]⟩ ++ (bo ++ ⟨#[46]⟩ ++ bn)))) ∧ Grew w w' := by
  have hR := (right ⟨4, ⟨ho, hn⟩, wh, ⟨ao, an⟩, ⟨bo, bn⟩, v⟩ · hf)
  unfold St.val at hR
  rw [h] at hR
  have HR := Lib.hid hR
  have hp := right_parts h
  have b0 := ok_small hp.1
  have bA := ok_small (hp.2.2.1 (by decide))
  have bB := ok_small (hp.2.2.2.2 rfl)
  have HP := Lib.hid printRole'
  have hm := mixed
  have q0 : ¬ (9223372036854775807 < ao.size + 1 + an.size + 3) := by omega
  have q1 : ¬ (9223372036854775807 < ao.size + 1 + an.size + 3 + (bo.size + 1 + bn.size)) := by omega
  have q2 : ¬ (9223372036854775807 < ho.size + 1 + hn.size + 4 + (ao.size + 1 + an.size + 3 + (bo.size + 1 + bn.size))) := by omega
  clear h hR hf hp
  go_enter Tryz.func42, Tryz.ntmps42
  go_wp2_with fail
  refine (HR.out _).mono ?_
  rintro e w1 ⟨rfl, hg⟩
  obtain ⟨⟨n, os⟩, rfl⟩ := hg
  have gC := grow_cell n os
  have gF := grow_frozen n os
  go_wp2_with fail
  refine (HP.out _ _ _ b0.1 b0.2).mono ?_
  rintro e w1 ⟨rfl, hg⟩
  obtain ⟨⟨n2, os2⟩, rfl⟩ := hg
  have hz := grow_size n os
  have gC2 := grow_cell n2 os2
  have gF2 := grow_frozen n2 os2
  have z1 : w.heap.size < w.heap.size + 1 + os.size := by omega
  go_wp2_with fail
  have gC3 := grow_cell
  have hz2 := grow_size n2 os2
  have z2 : w.heap.size < w.heap.size + 1 + os.size + os2.size := by omega
  go_quiet_grown ((go_at_call 43; exact grewCall (HP.out _ _ _ (by first | exact bA.1 | exact bB.1) (by first | exact bA.2 | exact bB.2))))
  go_wp2_with fail
  go_ret
  exact ⟨rfl, ((((Grew.refl _).alloc _).trans (Grew.mk _ _ _)).trans (Grew.mk _ _ _)).trans (Grew.mk _ _ _)⟩
theorem print (s : St) (w : World) (hf : s.fit) : Calls Tryz.prog 42 #[s.val] w fun e w' => e = .returned (.string (line s)) ∧ Grew w w' := by
  obtain ⟨k1, ⟨ho, hn⟩, wh, ⟨ao, an⟩, ⟨bo, bn⟩, v⟩ := s
  cases h : St.right ⟨k1, ⟨ho, hn⟩, wh, ⟨ao, an⟩, ⟨bo, bn⟩, v⟩
  · refine (print_no k1 ho hn wh ao an bo bn v w hf h).mono ?_
    rintro e w' ⟨rfl, hg⟩
    exact ⟨ret_str (by unfold line; rw [if_neg (by rw [h]; decide)]), hg⟩
  · have hl : line ⟨k1, ⟨ho, hn⟩, wh, ⟨ao, an⟩, ⟨bo, bn⟩, v⟩ = text ⟨ho, hn⟩ ++ ⟨#[32, 60, 45, 32]⟩ ++ body ⟨k1, ⟨ho, hn⟩, wh, ⟨ao, an⟩, ⟨bo, bn⟩, v⟩ := if_pos h
    rcases right_kind h with rfl | rfl | rfl | rfl
    · exact (print_1 ho hn wh ao an bo bn v w hf h).mono fun e w' ⟨he, hg⟩ => ⟨he.trans (ret_str hl.symm), hg⟩
    · exact (print_2 ho hn wh ao an bo bn v w hf h).mono fun e w' ⟨he, hg⟩ => ⟨he.trans (ret_str hl.symm), hg⟩
    · exact (print_3 ho hn wh ao an bo bn v w hf h).mono fun e w' ⟨he, hg⟩ => ⟨he.trans (ret_str hl.symm), hg⟩
    · exact (print_4 ho hn wh ao an bo bn v w hf h).mono fun e w' ⟨he, hg⟩ => ⟨he.trans (ret_str hl.symm), hg⟩
set_option maxRecDepth 100000 in
theorem printRef_no (k : Int) (ho hn wh ao an bo bn v : ByteArray) (w : World) (hf : St.fit ⟨k, ⟨ho, hn⟩, wh, ⟨ao, an⟩, ⟨bo, bn⟩, v⟩) (h : St.right ⟨k, ⟨ho, hn⟩, wh, ⟨ao, an⟩, ⟨bo, bn⟩, v⟩ = false) : Calls Tryz.prog 46 #[.agg #[.int .i64 k, .string ho, .string hn, .string wh, .string ao, .string an, .string bo, .string bn, .string v]] w fun e w' => e = .returned (.string noText) ∧ Grew w w' := by
  have hR := (rightRef ⟨k, ⟨ho, hn⟩, wh, ⟨ao, an⟩, ⟨bo, bn⟩, v⟩ · hf)
  unfold St.val at hR
  rw [h] at hR
  have HR := Lib.hid hR
  clear h hR hf
  go_enter Tryz.func46, Tryz.ntmps46
  go_wp2_with fail
  refine (HR.out _).mono ?_
  rintro e w1 ⟨rfl, hg⟩
  go_wp2_with fail
  go_ret
  exact ⟨rfl, ((Grew.refl _).alloc _).trans hg⟩
set_option maxHeartbeats 1000000 in
set_option maxRecDepth 100000 in
theorem printRef_1 (ho hn wh ao an bo bn v : ByteArray) (w : World) (hf : St.fit ⟨1, ⟨ho, hn⟩, wh, ⟨ao, an⟩, ⟨bo, bn⟩, v⟩) (h : St.right ⟨1, ⟨ho, hn⟩, wh, ⟨ao, an⟩, ⟨bo, bn⟩, v⟩ = true) : Calls Tryz.prog 46 #[.agg #[.int .i64 1, .string ho, .string hn, .string wh, .string ao, .string an, .string bo, .string bn, .string v]] w fun e w' => e = .returned (.string ((ho ++ ⟨#[46]⟩ ++ hn ++ ⟨#[32, 60, 45, 32]⟩) ++ wh)) ∧ Grew w w' := by
  have hR := (rightRef ⟨1, ⟨ho, hn⟩, wh, ⟨ao, an⟩, ⟨bo, bn⟩, v⟩ · hf)
  unfold St.val at hR
  rw [h] at hR
  have HR := Lib.hid hR
  have hp := right_parts h
  have b0 := ok_small hp.1
  have b1 := named_small (hp.2.1 rfl)
  have HP := Lib.hid printRoleRef'
  have hm := mixed
  clear h hR hf hp
  go_enter Tryz.func46, Tryz.ntmps46
  go_wp2_with fail
  refine (HR.out _).mono ?_
  rintro e w1 ⟨rfl, hg⟩
  obtain ⟨⟨n, os⟩, rfl⟩ := hg
  have gC := grow_cell n os
  have gF := grow_frozen n os
  go_wp2_with fail
  refine (HP.out _ _ _ b0.1 b0.2).mono ?_
  rintro e w1 ⟨rfl, hg⟩
  obtain ⟨⟨n2, os2⟩, rfl⟩ := hg
  have hz := grow_size n os
  have gC2 := grow_cell n2 os2
  have gF2 := grow_frozen n2 os2
  have z1 : w.heap.size < w.heap.size + 1 + os.size := by omega
  go_wp2_with fail
  go_ret
  exact ⟨rfl, (((Grew.refl _).alloc _).trans (Grew.mk _ _ _)).trans (Grew.mk _ _ _)⟩
set_option maxHeartbeats 1000000 in
set_option maxRecDepth 100000 in
theorem printRef_2 (ho hn wh ao an bo bn v : ByteArray) (w : World) (hf : St.fit ⟨2, ⟨ho, hn⟩, wh, ⟨ao, an⟩, ⟨bo, bn⟩, v⟩) (h : St.right ⟨2, ⟨ho, hn⟩, wh, ⟨ao, an⟩, ⟨bo, bn⟩, v⟩ = true) : Calls Tryz.prog 46 #[.agg #[.int .i64 2, .string ho, .string hn, .string wh, .string ao, .string an, .string bo, .string bn, .string v]] w fun e w' => e = .returned (.string ((ho ++ ⟨#[46]⟩ ++ hn ++ ⟨#[32, 60, 45, 32]⟩) ++ (ao ++ ⟨#[46]⟩ ++ an))) ∧ Grew w w' := by
  have hR := (rightRef ⟨2, ⟨ho, hn⟩, wh, ⟨ao, an⟩, ⟨bo, bn⟩, v⟩ · hf)
  unfold St.val at hR
  rw [h] at hR
  have HR := Lib.hid hR
  have hp := right_parts h
  have b0 := ok_small hp.1
  have bA := ok_small (hp.2.2.1 (by decide))
  have HP := Lib.hid printRoleRef'
  have hm := mixed
  clear h hR hf hp
  go_enter Tryz.func46, Tryz.ntmps46
  go_wp2_with fail
  refine (HR.out _).mono ?_
  rintro e w1 ⟨rfl, hg⟩
  obtain ⟨⟨n, os⟩, rfl⟩ := hg
  have gC := grow_cell n os
  have gF := grow_frozen n os
  go_wp2_with fail
  refine (HP.out _ _ _ b0.1 b0.2).mono ?_
  rintro e w1 ⟨rfl, hg⟩
  obtain ⟨⟨n2, os2⟩, rfl⟩ := hg
  have hz := grow_size n os
  have gC2 := grow_cell n2 os2
  have gF2 := grow_frozen n2 os2
  have z1 : w.heap.size < w.heap.size + 1 + os.size := by omega
  go_wp2_with fail
  refine (HP.out _ _ _ bA.1 bA.2).mono ?_
  rintro e w1 ⟨rfl, hg⟩
  obtain ⟨⟨n3, os3⟩, rfl⟩ := hg
  have hz2 := grow_size n2 os2
  have gC3 := grow_cell n3 os3
  have gF3 := grow_frozen n3 os3
  have z2 : w.heap.size < w.heap.size + 1 + os.size + os2.size := by omega
  go_wp2_with fail
  go_ret
  exact ⟨rfl, ((((Grew.refl _).alloc _).trans (Grew.mk _ _ _)).trans (Grew.mk _ _ _)).trans (Grew.mk _ _ _)⟩
set_option maxHeartbeats 1000000 in
set_option maxRecDepth 100000 in
theorem printRef_3 (ho hn wh ao an bo bn v : ByteArray) (w : World) (hf : St.fit ⟨3, ⟨ho, hn⟩, wh, ⟨ao, an⟩, ⟨bo, bn⟩, v⟩) (h : St.right ⟨3, ⟨ho, hn⟩, wh, ⟨ao, an⟩, ⟨bo, bn⟩, v⟩ = true) : Calls Tryz.prog 46 #[.agg #[.int .i64 3, .string ho, .string hn, .string wh, .string ao, .string an, .string bo, .string bn, .string v]] w fun e w' => e = .returned (.string ((ho ++ ⟨#[46]⟩ ++ hn ++ ⟨#[32, 60, 45, 32]⟩) ++ (ao ++ ⟨#[46]⟩ ++ an ++ ⟨#[46]⟩ ++ v))) ∧ Grew w w' := by
  have hR := (rightRef ⟨3, ⟨ho, hn⟩, wh, ⟨ao, an⟩, ⟨bo, bn⟩, v⟩ · hf)
  unfold St.val at hR
  rw [h] at hR
  have HR := Lib.hid hR
  have hp := right_parts h
  have b0 := ok_small hp.1
  have bA := ok_small (hp.2.2.1 (by decide))
  have b3 := named_small (hp.2.2.2.1 rfl)
  have HP := Lib.hid printRoleRef'
  have hm := mixed
  clear h hR hf hp
  go_enter Tryz.func46, Tryz.ntmps46
  go_wp2_with fail
  refine (HR.out _).mono ?_
  rintro e w1 ⟨rfl, hg⟩
  obtain ⟨⟨n, os⟩, rfl⟩ := hg
  have gC := grow_cell n os
  have gF := grow_frozen n os
  go_wp2_with fail
  refine (HP.out _ _ _ b0.1 b0.2).mono ?_
  rintro e w1 ⟨rfl, hg⟩
  obtain ⟨⟨n2, os2⟩, rfl⟩ := hg
  have hz := grow_size n os
  have gC2 := grow_cell n2 os2
  have gF2 := grow_frozen n2 os2
  have z1 : w.heap.size < w.heap.size + 1 + os.size := by omega
  go_wp2_with fail
  refine (HP.out _ _ _ bA.1 bA.2).mono ?_
  rintro e w1 ⟨rfl, hg⟩
  obtain ⟨⟨n3, os3⟩, rfl⟩ := hg
  have hz2 := grow_size n2 os2
  have gC3 := grow_cell n3 os3
  have gF3 := grow_frozen n3 os3
  have z2 : w.heap.size < w.heap.size + 1 + os.size + os2.size := by omega
  go_wp2_with fail
  go_ret
  exact ⟨ret_str (by simp only [ByteArray.append_assoc]), ((((Grew.refl _).alloc _).trans (Grew.mk _ _ _)).trans (Grew.mk _ _ _)).trans (Grew.mk _ _ _)⟩
set_option maxHeartbeats 1000000 in
set_option maxRecDepth 100000 in
theorem printRef_4 (ho hn wh ao an bo bn v : ByteArray) (w : World) (hf : St.fit ⟨4, ⟨ho, hn⟩, wh, ⟨ao, an⟩, ⟨bo, bn⟩, v⟩) (h : St.right ⟨4, ⟨ho, hn⟩, wh, ⟨ao, an⟩, ⟨bo, bn⟩, v⟩ = true) : Calls Tryz.prog 46 #[.agg #[.int .i64 4, .string ho, .string hn, .string wh, .string ao, .string an, .string bo, .string bn, .string v]] w fun e w' => e = .returned (.string ((ho ++ ⟨#[46]⟩ ++ hn ++ ⟨#[32, 60, 45, 32]⟩) ++ (ao ++ ⟨#[46]⟩ ++ an ++ ⟨#[32, 38, 32]⟩ ++ (bo ++ ⟨#[46]⟩ ++ bn)))) ∧ Grew w w' := by
  have hR := (rightRef ⟨4, ⟨ho, hn⟩, wh, ⟨ao, an⟩, ⟨bo, bn⟩, v⟩ · hf)
  unfold St.val at hR
  rw [h] at hR
  have HR := Lib.hid hR
  have hp := right_parts h
  have b0 := ok_small hp.1
  have bA := ok_small (hp.2.2.1 (by decide))
  have bB := ok_small (hp.2.2.2.2 rfl)
  have HP := Lib.hid printRoleRef'
  have hm := mixed
  clear h hR hf hp
  go_enter Tryz.func46, Tryz.ntmps46
  go_wp2_with fail
  refine (HR.out _).mono ?_
  rintro e w1 ⟨rfl, hg⟩
  obtain ⟨⟨n, os⟩, rfl⟩ := hg
  have gC := grow_cell n os
  have gF := grow_frozen n os
  go_wp2_with fail
  refine (HP.out _ _ _ b0.1 b0.2).mono ?_
  rintro e w1 ⟨rfl, hg⟩
  obtain ⟨⟨n2, os2⟩, rfl⟩ := hg
  have hz := grow_size n os
  have gC2 := grow_cell n2 os2
  have gF2 := grow_frozen n2 os2
  have z1 : w.heap.size < w.heap.size + 1 + os.size := by omega
  go_wp2_with fail
  refine (HP.out _ _ _ bA.1 bA.2).mono ?_
  rintro e w1 ⟨rfl, hg⟩
  obtain ⟨⟨n3, os3⟩, rfl⟩ := hg
  have hz2 := grow_size n2 os2
  have gC3 := grow_cell n3 os3
  have gF3 := grow_frozen n3 os3
  have z2 : w.heap.size < w.heap.size + 1 + os.size + os2.size := by omega
  go_wp2_with fail
  refine (HP.out _ _ _ bB.1 bB.2).mono ?_
  rintro e w1 ⟨rfl, hg⟩
  go_wp2_with fail
  go_ret
  exact ⟨ret_str (by simp only [ByteArray.append_assoc]), (((((Grew.refl _).alloc _).trans (Grew.mk _ _ _)).trans (Grew.mk _ _ _)).trans (Grew.mk _ _ _)).trans hg⟩
theorem printRef (s : St) (w : World) (hf : s.fit) : Calls Tryz.prog 46 #[s.val] w fun e w' => e = .returned (.string (line s)) ∧ Grew w w' := by
  obtain ⟨k1, ⟨ho, hn⟩, wh, ⟨ao, an⟩, ⟨bo, bn⟩, v⟩ := s
  cases h : St.right ⟨k1, ⟨ho, hn⟩, wh, ⟨ao, an⟩, ⟨bo, bn⟩, v⟩
  · refine (printRef_no k1 ho hn wh ao an bo bn v w hf h).mono ?_
    rintro e w' ⟨rfl, hg⟩
    exact ⟨ret_str (by unfold line; rw [if_neg (by rw [h]; decide)]), hg⟩
  · have hl : line ⟨k1, ⟨ho, hn⟩, wh, ⟨ao, an⟩, ⟨bo, bn⟩, v⟩ = text ⟨ho, hn⟩ ++ ⟨#[32, 60, 45, 32]⟩ ++ body ⟨k1, ⟨ho, hn⟩, wh, ⟨ao, an⟩, ⟨bo, bn⟩, v⟩ := if_pos h
    rcases right_kind h with rfl | rfl | rfl | rfl
    · exact (printRef_1 ho hn wh ao an bo bn v w hf h).mono fun e w' ⟨he, hg⟩ => ⟨he.trans (ret_str hl.symm), hg⟩
    · exact (printRef_2 ho hn wh ao an bo bn v w hf h).mono fun e w' ⟨he, hg⟩ => ⟨he.trans (ret_str hl.symm), hg⟩
    · exact (printRef_3 ho hn wh ao an bo bn v w hf h).mono fun e w' ⟨he, hg⟩ => ⟨he.trans (ret_str hl.symm), hg⟩
    · exact (printRef_4 ho hn wh ao an bo bn v w hf h).mono fun e w' ⟨he, hg⟩ => ⟨he.trans (ret_str hl.symm), hg⟩
end Go.Proofs.YtkmpbkgmdfeicaaGreat.SynL
/- Stores into a block that a world, known by its cells alone, holds. -/
namespace Go.Proofs.YtkmpbkgmdfeicaaGreat.SynS
set_option linter.unusedVariables false
set_option linter.unusedSimpArgs false
open Go.RowKit Go.Sort
theorem set_cell (w : World) (b i o : Nat) (v : Value) : (w.setCell ⟨b, i, none⟩ v).cell? ⟨b, o, none⟩ = if o = i then (w.cell? ⟨b, i, none⟩).map (fun _ => v) else w.cell? ⟨b, o, none⟩ := by
  unfold World.setCell World.cell?
  simp only [Array.getElem?_modify, if_true]
  cases h : w.heap[b]? with
  | none => simp
  | some x =>
    cases x <;> simp
    rename_i c e f
    by_cases hi : o = i
    · subst hi
      simp
      by_cases hs : o < c.size
      · simp [hs]
      · simp [hs]
    · simp [hi, Array.getElem?_setIfInBounds, Ne.symm hi]
theorem set_far (w : World) (b b' i o : Nat) (v : Value) (h : b ≠ b') : (w.setCell ⟨b, i, none⟩ v).cell? ⟨b', o, none⟩ = w.cell? ⟨b', o, none⟩ := by
  unfold World.setCell World.cell?
  simp only [Array.getElem?_modify]
  rw [if_neg h]
theorem set_frozen (w : World) (b i b' o : Nat) (v : Value) : (w.setCell ⟨b, i, none⟩ v).frozen? ⟨b', o, none⟩ = w.frozen? ⟨b', o, none⟩ := World.frozen?_setCell ..
theorem set_size (w : World) (b i : Nat) (v : Value) : (w.setCell ⟨b, i, none⟩ v).heap.size = w.heap.size := by simp [World.setCell]
theorem some_below {X : World} {n : Nat} (h : (X.cell? ⟨n, 8, none⟩).isSome = true) (i : Nat) (hi : i ≤ 8) : ∃ u, X.cell? ⟨n, i, none⟩ = some u := by
  unfold World.cell? at *
  cases hx : X.heap[n]? with
  | none => rw [hx] at h; simp at h
  | some x =>
    rw [hx] at h
    cases x with
    | cells c e f =>
      simp at h ⊢
      exact ⟨_, Array.getElem?_eq_getElem (by omega)⟩
    | _ => simp at h
set_option maxHeartbeats 1000000 in
/-- Nine stores into a block of nine cells. -/
theorem set9 (X : World) (n : Nat) (v0 v1 v2 v3 v4 v5 v6 v7 v8 : Value) (o : Nat) (ho : o < 9) (h : (X.cell? ⟨n, 8, none⟩).isSome = true) : (((((((((X.setCell ⟨n, 0, none⟩ v0).setCell ⟨n, 1, none⟩ v1).setCell ⟨n, 2, none⟩ v2).setCell ⟨n, 3, none⟩ v3).setCell ⟨n, 4, none⟩ v4).setCell ⟨n, 5, none⟩ v5).setCell ⟨n, 6, none⟩ v6).setCell ⟨n, 7, none⟩ v7).setCell ⟨n, 8, none⟩ v8).cell? ⟨n, o, none⟩ = (#[v0, v1, v2, v3, v4, v5, v6, v7, v8] : Array Value)[o]? := by
  obtain ⟨u0, h0⟩ := some_below h 0 (by omega)
  obtain ⟨u1, h1⟩ := some_below h 1 (by omega)
  obtain ⟨u2, h2⟩ := some_below h 2 (by omega)
  obtain ⟨u3, h3⟩ := some_below h 3 (by omega)
  obtain ⟨u4, h4⟩ := some_below h 4 (by omega)
  obtain ⟨u5, h5⟩ := some_below h 5 (by omega)
  obtain ⟨u6, h6⟩ := some_below h 6 (by omega)
  obtain ⟨u7, h7⟩ := some_below h 7 (by omega)
  obtain ⟨u8, h8⟩ := some_below h 8 (by omega)
  match o, ho with
  | 0, _ => simp [set_cell, h0, h1, h2, h3, h4, h5, h6, h7, h8]
  | 1, _ => simp [set_cell, h0, h1, h2, h3, h4, h5, h6, h7, h8]
  | 2, _ => simp [set_cell, h0, h1, h2, h3, h4, h5, h6, h7, h8]
  | 3, _ => simp [set_cell, h0, h1, h2, h3, h4, h5, h6, h7, h8]
  | 4, _ => simp [set_cell, h0, h1, h2, h3, h4, h5, h6, h7, h8]
  | 5, _ => simp [set_cell, h0, h1, h2, h3, h4, h5, h6, h7, h8]
  | 6, _ => simp [set_cell, h0, h1, h2, h3, h4, h5, h6, h7, h8]
  | 7, _ => simp [set_cell, h0, h1, h2, h3, h4, h5, h6, h7, h8]
  | 8, _ => simp [set_cell, h0, h1, h2, h3, h4, h5, h6, h7, h8]
open Go.Proofs.YtkmpbkgmdfeicaaGreat.Grown
theorem grewCall1 {P : Program} {f : FuncId} {args : Array Value} {w : World} {m n : Nat} {os : Array Obj} {v : Value} (h : Calls P f args (grow (w.drewN (m + n)) os) fun e w' => e = .returned v ∧ Grew (grow (w.drewN (m + n)) os) w') : Calls P f args (grow (w.drewN (m + n)) os) fun e w'' => e = .returned v ∧ ∃ p : GrownBy, w'' = grow (w.drewN (m + p.n)) p.os :=
  h.mono fun _ _ ⟨he, ⟨⟨q, os'⟩, hq⟩⟩ => ⟨he, ⟨n + q, os ++ os'⟩, by
    rw [hq]
    show grow (grow ((w.drewN (m + n)).drewN q) os) os' = _
    rw [grow_grow, World.drewN_drewN, Nat.add_assoc]⟩
end Go.Proofs.YtkmpbkgmdfeicaaGreat.SynS
/- Tokens compared, and the role that tokens begin with. -/
namespace Go.Proofs.YtkmpbkgmdfeicaaGreat.SynT
set_option linter.unusedVariables false
set_option linter.unusedSimpArgs false
open Go.RowKit Go.Sort Go.Proofs Go.Proofs.YtkmpbkgmdfeicaaGreat.Plain Go.Proofs.YtkmpbkgmdfeicaaGreat.SynP Go.Proofs.YtkmpbkgmdfeicaaGreat.SynQ Go.Proofs.YtkmpbkgmdfeicaaGreat.Grown Go.Proofs.YtkmpbkgmdfeicaaGreat.SynA Go.Proofs.YtkmpbkgmdfeicaaGreat.SynC Go.Proofs.YtkmpbkgmdfeicaaGreat.SynR Go.Proofs.YtkmpbkgmdfeicaaGreat.SynW Go.Proofs.YtkmpbkgmdfeicaaGreat.Scan3 Go.Proofs.YtkmpbkgmdfeicaaGreat.Scan5 Go.Proofs.YtkmpbkgmdfeicaaGreat.Syn1 Go.Proofs.YtkmpbkgmdfeicaaGreat.Syn2 Go.Proofs.YtkmpbkgmdfeicaaGreat.Syn4 Go.Proofs.YtkmpbkgmdfeicaaGreat.SynL Go.Proofs.YtkmpbkgmdfeicaaGreat.SynS
set_option linter.unusedVariables false
set_option linter.unusedSimpArgs false
def kts (L : List Tk) : List (Int × ByteArray) := L.map fun t => (t.kind, t.text)
theorem same1 (k1 : Int) (t1 : ByteArray) (c1 : Int) (k2 : Int) (t2 : ByteArray) (c2 : Int) (w : World) : Calls Tryz.prog 241 #[.agg #[.int .i64 k1, .string t1, .int .i64 c1], .agg #[.int .i64 k2, .string t2, .int .i64 c2]] w fun e w' => e = .returned (.bool (decide ((k1, t1) = (k2, t2)))) ∧ Grew w w' := by
  by_cases hk : k1 = k2
  · subst hk
    have H : Hid (decide ((k1, t1) = (k1, t2)) = (t1.toList == t2.toList)) := Lib.hid (by rw [same_eq]; simp)
    go_enter Tryz.func241, Tryz.ntmps241
    go_wp2
    go_ret
    exact ⟨ret_bool H.out.symm, ((Grew.refl _).alloc _).alloc _⟩
  · have H : Hid (decide ((k1, t1) = (k2, t2)) = false) := Lib.hid (by simp [hk])
    have h1 : (k1 == k2) = false := by simpa using hk
    clear hk
    go_enter Tryz.func241, Tryz.ntmps241
    go_wp2
    go_ret
    exact ⟨ret_bool H.out.symm, ((Grew.refl _).alloc _).alloc _⟩
theorem kts_len (L : List Tk) : (kts L).length = L.length := List.length_map ..
theorem take_next {α : Type} {a b : List α} {k : Nat} (h1 : k < a.length) (h2 : k < b.length) (h : a.take k = b.take k) (he : a[k] = b[k]) : a.take (k + 1) = b.take (k + 1) := by
  rw [List.take_succ_eq_append_getElem h1, List.take_succ_eq_append_getElem h2, h, he]
set_option maxHeartbeats 800000 in
set_option maxRecDepth 100000 in
theorem equalFunc (A B : Option Addr) (ca cb : Nat) (L M : List Tk) (w : World) (hL : L.length ≤ 100000) (hM : M.length ≤ 100000) (hA : TkAt w A L) (hB : TkAt w B M) :
    Calls Tryz.prog 240 #[.slice A L.length ca, .slice B M.length cb, .func (.func 241) #[] #[]] w fun e w' => e = .returned (.bool (decide (kts L = kts M))) ∧ Below w.heap.size w w' := by
  by_cases hlen : L.length = M.length
  · have HA := Lib.hid hA
    have HB := Lib.hid hB
    have Hlen := Lib.hid hlen
    clear hA hB
    rw [← hlen] at hM
    have hMl : Hid (M.length = L.length) := Lib.hid hlen.symm
    have e0 : (.slice B M.length cb : Value) = .slice B L.length cb := by rw [hlen]
    rw [e0]
    clear hlen e0
    go_enter Tryz.func240, Tryz.ntmps240
    go_wp2_with fail
    go_loopw [17] (fun i wr => ∃ k : Nat, k ≤ L.length ∧ i = .int .i64 k ∧ Hid ((kts L).take k = (kts M).take k) ∧ Below w.heap.size w wr) (fun i _ => L.length - (intOf i).toNat)
    case atStart => exact ⟨0, by omega, rfl, Lib.hid (by simp), Below.refl _ _⟩
    case round =>
      obtain ⟨k, hk, rfl, hrun, hbel⟩ := hrel
      by_cases hlt : k < L.length
      · have hltM : k < M.length := by rw [hMl.out]; exact hlt
        obtain ⟨g1, o1, rfl, hg1, h1⟩ := (HA.out.below hbel) (by omega)
        obtain ⟨g2, o2, rfl, hg2, h2⟩ := (HB.out.below hbel) (by omega)
        obtain ⟨a1, b1, c1⟩ := h1 k hlt
        obtain ⟨a2, b2, c2⟩ := h2 k hltM
        have f1 : (kts L)[k]'(by rw [kts_len]; exact hlt) = (L[k].kind, L[k].text) := List.getElem_map ..
        have f2 : (kts M)[k]'(by rw [kts_len]; exact hltM) = (M[k].kind, M[k].text) := List.getElem_map ..
        clear h1 h2
        have p1 : (0 : Int) ≤ k := by omega
        by_cases he : (L[k].kind, L[k].text) = (M[k].kind, M[k].text)
        · have hnext : Hid ((kts L).take (k + 1) = (kts M).take (k + 1)) := Lib.hid (take_next (by rw [kts_len]; exact hlt) (by rw [kts_len]; exact hltM) hrun.out (by rw [f1, f2, he]))
          have HS := Lib.hid (same1 L[k].kind L[k].text L[k].col M[k].kind M[k].text M[k].col)
          rw [decide_eq_true he] at HS
          clear hrun f1 f2 he
          go_wp2_with (go_at_call 241; refine (HS.out _).mono ?_; rintro e w1 ⟨rfl, hg⟩)
          have hb2 : Below w.heap.size w w1 := ((hbel.alloc hbel.size _).alloc (by have := hbel.size; simp; omega) _).trans (hg.below.mono (by have := hbel.size; simp; omega))
          clear hg
          go_roundw
          case rel => exact ⟨k + 1, by omega, by go_num, hnext, hb2⟩
          case measure => simp [intOf]; omega
        · have hfin : Hid (decide (kts L = kts M) = false) := Lib.hid (decide_eq_false (fun e => he (by rw [← f1, ← f2]; simp only [e])))
          have HS := Lib.hid (same1 L[k].kind L[k].text L[k].col M[k].kind M[k].text M[k].col)
          rw [decide_eq_false he] at HS
          clear hrun f1 f2 he
          go_wp2_with (go_at_call 241; refine (HS.out _).mono ?_; rintro e w1 ⟨rfl, hg⟩)
          have hb2 : Below w.heap.size w w1 := ((hbel.alloc hbel.size _).alloc (by have := hbel.size; simp; omega) _).trans (hg.below.mono (by have := hbel.size; simp; omega))
          go_ret
          exact ⟨ret_bool hfin.out.symm, hb2⟩
      · have hfin : Hid (decide (kts L = kts M) = true) := Lib.hid (decide_eq_true (by
          have := hrun.out
          rw [List.take_of_length_le (by rw [kts_len]; omega), List.take_of_length_le (by rw [kts_len, hMl.out]; omega)] at this
          exact this))
        clear hrun
        go_wp2_with fail
        go_ret
        exact ⟨ret_bool hfin.out.symm, hbel⟩
  · have H : Hid (decide (kts L = kts M) = false) := Lib.hid (decide_eq_false (fun e => hlen (by rw [← kts_len, e, kts_len])))
    have h1 : ((L.length : Int) != M.length) = true := by simp; omega
    clear hlen
    go_enter Tryz.func240, Tryz.ntmps240
    go_wp2_with fail
    go_ret
    exact ⟨ret_bool H.out.symm, Below.refl _ _⟩
theorem same (A B : Option Addr) (ca cb : Nat) (L M : List Tk) (w : World) (hL : L.length ≤ 100000) (hM : M.length ≤ 100000) (hA : TkAt w A L) (hB : TkAt w B M) :
    Calls Tryz.prog 211 #[.slice A L.length ca, .slice B M.length cb] w fun e w' => e = .returned (.bool (decide (kts L = kts M))) ∧ Below w.heap.size w w' := by
  have H := Lib.hid (equalFunc A B ca cb L M w hL hM hA hB)
  clear hA hB
  generalize decide (kts L = kts M) = r at *
  go_enter Tryz.func211, Tryz.ntmps211
  go_wp2_with (go_at_call 240; refine H.out.mono ?_; rintro e w1 ⟨rfl, hb⟩)
  go_ret
  exact ⟨rfl, hb⟩
/-- The tokens of a good role's text. -/
theorem roleTokens (r : Rl) (w : World) (h : r.ok = true) : Calls Tryz.prog 212 #[r.val] w (ClonePost (roleTk r 0) w) := by
  obtain ⟨o, n⟩ := r
  have hs := role_size h
  have H := Lib.hid (tokens (textR ⟨o, n⟩) · (by omega))
  have HA := Lib.hid (role_toks h)
  have b0 := ok_small h
  clear hs h
  unfold Rl.val
  go_enter Tryz.func212, Tryz.ntmps212
  go_wp2_with (first | (go_at_call 43; refine (printRole' _ _ _ b0.1 b0.2).mono ?_; rintro e w1 ⟨rfl, hg⟩) | (go_at_call 111; refine (H.out _).mono ?_; rintro e w2 ⟨v, rfl, hown, hb⟩))
  rw [HA.out] at hown
  have hb2 : Below w.heap.size w w2 := ((Below.refl _ _).alloc (Nat.le_refl _) _).trans ((hg.below.mono (by simp)).trans (hb.mono (by have := hg.size; simp at this; omega)))
  go_wp2_with fail
  go_ret
  exact ⟨_, rfl, by
    have hz := hg.size
    simp at hz
    refine ⟨hown.1, ?_⟩
    rcases hown.2 with h0 | ⟨g, cap, cur, hv, hgg, rr⟩
    · exact .inl h0
    · exact .inr ⟨g, cap, cur, hv, by omega, rr⟩, hb2⟩
end Go.Proofs.YtkmpbkgmdfeicaaGreat.SynT
/- The role that tokens begin with. -/
namespace Go.Proofs.YtkmpbkgmdfeicaaGreat.SynU
set_option linter.unusedVariables false
set_option linter.unusedSimpArgs false
open Go.RowKit Go.Sort Go.Proofs Go.Proofs.YtkmpbkgmdfeicaaGreat.Plain Go.Proofs.YtkmpbkgmdfeicaaGreat.SynP Go.Proofs.YtkmpbkgmdfeicaaGreat.SynQ Go.Proofs.YtkmpbkgmdfeicaaGreat.Grown Go.Proofs.YtkmpbkgmdfeicaaGreat.SynA Go.Proofs.YtkmpbkgmdfeicaaGreat.SynC Go.Proofs.YtkmpbkgmdfeicaaGreat.SynR Go.Proofs.YtkmpbkgmdfeicaaGreat.SynW Go.Proofs.YtkmpbkgmdfeicaaGreat.Scan3 Go.Proofs.YtkmpbkgmdfeicaaGreat.Scan5 Go.Proofs.YtkmpbkgmdfeicaaGreat.Syn1 Go.Proofs.YtkmpbkgmdfeicaaGreat.Syn2 Go.Proofs.YtkmpbkgmdfeicaaGreat.Syn4 Go.Proofs.YtkmpbkgmdfeicaaGreat.SynL Go.Proofs.YtkmpbkgmdfeicaaGreat.SynS Go.Proofs.YtkmpbkgmdfeicaaGreat.SynT Go.Proofs.YtkmpbkgmdfeicaaGreat.Syn7
set_option linter.unusedVariables false
set_option linter.unusedSimpArgs false
/-- The role that tokens begin with, what is behind it, and whether there is one. -/
def readR : List Tk → Rl × List Tk × Bool
  | a :: b :: c :: rest => if (⟨a.text, c.text⟩ : Rl).ok = true ∧ kts [a, b, c] = kts (roleTk ⟨a.text, c.text⟩ 0) then (⟨a.text, c.text⟩, rest, true) else (zeroR, a :: b :: c :: rest, false)
  | L => (zeroR, L, false)
def ReadPost (L : List Tk) (w : World) (e : Ending) (w' : World) : Prop := ∃ v, e = .returned (.tuple #[(readR L).1.val, v, .bool (readR L).2.2]) ∧ w'.ownsRow w.heap.size 127 3 v (readR L).2.1.length (tkCells (readR L).2.1) ∧ Below w.heap.size w w'
theorem readR_short {L : List Tk} (h : L.length < 3) : readR L = (zeroR, L, false) := by
  match L, h with
  | [], _ => rfl
  | [_], _ => rfl
  | [_, _], _ => rfl
theorem own_more {w : World} {B B' : Nat} {e : TypeId} {size n : Nat} {v : Value} {xs : List Value} (h : w.ownsRow B e size v n xs) (hB : B' ≤ B) : w.ownsRow B' e size v n xs := by
  refine ⟨h.1, ?_⟩
  rcases h.2 with h0 | ⟨g, cap, cur, hv, hg, r⟩
  · exact .inl h0
  · exact .inr ⟨g, cap, cur, hv, Nat.le_trans hB hg, r⟩
/-- A store into a block ahead of a row's. -/
theorem own_set {w : World} {B : Nat} {e : TypeId} {size n : Nat} {v : Value} {xs : List Value} {p : Addr} (h : w.ownsRow B e size v n xs) (hp : p.block < B) (u : Value) : (w.setCell p u).ownsRow B e size v n xs := by
  refine ⟨h.1, ?_⟩
  rcases h.2 with h0 | ⟨g, cap, cur, hv, hg, hh, r⟩
  · exact .inl h0
  · exact .inr ⟨g, cap, cur, hv, hg, by rw [Below.heap_setCell _ _ _ _ (by omega)]; exact hh, r⟩
set_option maxRecDepth 100000 in
theorem readRole_short (A : Option Addr) (ca : Nat) (L : List Tk) (w : World) (h : L.length < 3) (hA : TkAt w A L) : Calls Tryz.prog 154 #[.slice A L.length ca] w (ReadPost L w) := by
  have H := Lib.hid (readR_short h)
  have HA := Lib.hid hA
  have d : decide ((3 : Int) ≤ L.length) = false := by simp; omega
  clear hA
  go_enter Tryz.func154, Tryz.ntmps154
  go_wp2_with fail
  refine (cloneTk A ca L _ (by omega) (HA.out.below ((Below.refl _ _).alloc (Nat.le_refl _) _))).mono ?_
  rintro e w1 ⟨v, rfl, hown, hb⟩
  have hc := (hb.cell (p := ⟨w.heap.size, 0, none⟩) (by simp)).trans (Lib.cell_of_heap (heap_alloc_new w _) 0)
  have hc1 := (hb.cell (p := ⟨w.heap.size, 1, none⟩) (by simp)).trans (Lib.cell_of_heap (heap_alloc_new w _) 1)
  simp only [List.getElem?_toArray, List.getElem?_cons_zero, List.getElem?_cons_succ] at hc hc1
  have hf : ∀ o, w1.frozen? ⟨w.heap.size, o, none⟩ = false := fun o => (hb.frozen (p := ⟨w.heap.size, o, none⟩) (by simp)).trans (by simp)
  have gc := set_cell
  have hb0 := ((Below.refl w.heap.size w).alloc (Nat.le_refl _) (.cells #[.string ⟨#[]⟩, .string ⟨#[]⟩] 44)).trans (hb.mono (by simp))
  go_wp2_with fail
  refine bodyPost_ret (v := .tuple #[.agg #[.string ⟨#[]⟩, .string ⟨#[]⟩], v, .bool false]) (by simp [results, Tryz.results154, go_sem, hc, hc1, gc]) rfl ⟨v, by rw [H.out]; rfl, ?_, ?_⟩
  · rw [H.out]
    exact own_more (own_set (own_set hown (by simp) _) (by simp) _) (by simp)
  · exact (hb0.setCell (by simp) _).setCell (by simp) _
theorem readR_no {a b c : Tk} {rest : List Tk} (h : (⟨a.text, c.text⟩ : Rl).ok = false) : readR (a :: b :: c :: rest) = (zeroR, a :: b :: c :: rest, false) :=
  if_neg (fun e => by rw [h] at e; cases e.1)
theorem readR_ne {a b c : Tk} {rest : List Tk} (h : kts [a, b, c] ≠ kts (roleTk ⟨a.text, c.text⟩ 0)) : readR (a :: b :: c :: rest) = (zeroR, a :: b :: c :: rest, false) :=
  if_neg (fun e => h e.2)
theorem readR_yes {a b c : Tk} {rest : List Tk} (h : (⟨a.text, c.text⟩ : Rl).ok = true) (h2 : kts [a, b, c] = kts (roleTk ⟨a.text, c.text⟩ 0)) : readR (a :: b :: c :: rest) = (⟨a.text, c.text⟩, rest, true) :=
  if_pos ⟨h, h2⟩
set_option maxHeartbeats 1000000 in
set_option maxRecDepth 100000 in
theorem readRole_no (A : Option Addr) (ca n : Nat) (a b c : Tk) (rest : List Tk) (w : World) (hn : n = rest.length + 3) (hL : rest.length ≤ 1000) (s1 : a.text.size ≤ maxLen) (s2 : c.text.size ≤ maxLen) (hA : TkAt w A (a :: b :: c :: rest)) (h : (⟨a.text, c.text⟩ : Rl).ok = false) :
    Calls Tryz.prog 154 #[.slice A n ca] w (ReadPost (a :: b :: c :: rest) w) := by
  have H := Lib.hid (readR_no (b := b) (rest := rest) h)
  have HR := Lib.hid (isRole' a.text c.text · s1 s2)
  rw [h] at HR
  have HA := Lib.hid hA
  obtain ⟨g, o, rfl, hg, hc⟩ := hA (by simp)
  obtain ⟨_, t0, _⟩ := hc 0 (by simp)
  obtain ⟨_, t2, _⟩ := hc 2 (by simp)
  simp only [Nat.zero_mul, Nat.add_zero, List.getElem_cons_zero, List.getElem_cons_succ] at t0 t2
  have d : decide ((3 : Int) ≤ n) = true := by simp; omega
  have d0 : (0 : Int) < n := by omega
  have d2 : (2 : Int) < n := by omega
  have hm := mixed
  have Hn := Lib.hid hn
  clear h hc s1 s2 hA hn
  go_enter Tryz.func154, Tryz.ntmps154
  go_wp2_with fail
  go_region
  go_wp2_with fail
  have gC := grow_cell
  go_quiet_grown ((go_at_call 73; exact grewCall1 (HR.out _)))
  clear gC
  have hW : Below w.heap.size w ((w.alloc (.cells #[.string ⟨#[]⟩, .string ⟨#[]⟩] 44)).alloc (.cells #[.string a.text, .string c.text] 44)).drew := (((Below.refl _ _).alloc (Nat.le_refl _) _).alloc (by simp) _).drew
  have hg1 := Grew.mk ((w.alloc (.cells #[.string ⟨#[]⟩, .string ⟨#[]⟩] 44)).alloc (.cells #[.string a.text, .string c.text] 44)).drew nq osq
  generalize grow (((w.alloc (.cells #[.string ⟨#[]⟩, .string ⟨#[]⟩] 44)).alloc (.cells #[.string a.text, .string c.text] 44)).drew.drewN nq) osq = w1 at *
  have hbA : Below w.heap.size w w1 := hW.trans (hg1.below.mono (by simp; omega))
  have hcl := cloneTk (some ⟨g, o, none⟩) ca (a :: b :: c :: rest) w1 (by simp; omega) (HA.out.below hbA)
  rw [show (a :: b :: c :: rest).length = n from Hn.out.symm] at hcl
  have Hcl := Lib.hid hcl
  have z1 := hg1.size
  simp only [World.size_alloc, World.size_drew] at z1
  have hc0 : w1.cell? ⟨w.heap.size, 0, none⟩ = some (.string ⟨#[]⟩) := (hg1.cell (a := ⟨w.heap.size, 0, none⟩) (by simp; omega)).trans (by simp)
  have hc1 : w1.cell? ⟨w.heap.size, 1, none⟩ = some (.string ⟨#[]⟩) := (hg1.cell (a := ⟨w.heap.size, 1, none⟩) (by simp; omega)).trans (by simp)
  have hf0 : ∀ o, w1.frozen? ⟨w.heap.size, o, none⟩ = false := fun o => (hg1.frozen (a := ⟨w.heap.size, o, none⟩) (by simp; omega)).trans (by simp)
  clear hg1 hW hcl t0 t2
  go_wp2_with fail
  refine Hcl.out.mono ?_
  rintro e w2 ⟨v, rfl, hown, hb⟩
  have hd0 := (hb.cell (p := ⟨w.heap.size, 0, none⟩) (by show w.heap.size < _; omega)).trans hc0
  have hd1 := (hb.cell (p := ⟨w.heap.size, 1, none⟩) (by show w.heap.size < _; omega)).trans hc1
  have hf : ∀ o, w2.frozen? ⟨w.heap.size, o, none⟩ = false := fun o => (hb.frozen (p := ⟨w.heap.size, o, none⟩) (by show w.heap.size < _; omega)).trans (hf0 o)
  have gc := set_cell
  have hb0 := hbA.trans (hb.mono (by omega))
  clear hc0 hc1 hf0 hbA
  go_wp2_with fail
  refine bodyPost_ret (v := .tuple #[.agg #[.string ⟨#[]⟩, .string ⟨#[]⟩], v, .bool false]) (by simp [results, Tryz.results154, go_sem, hd0, hd1, gc]) rfl ⟨v, by rw [H.out]; rfl, ?_, ?_⟩
  · rw [H.out]
    refine own_more (own_set (own_set ?_ (by show w.heap.size < _; omega) _) (by show w.heap.size < _; omega) _) (by omega : w.heap.size ≤ w1.heap.size)
    exact hown
  · exact (hb0.setCell (by simp) _).setCell (by simp) _
theorem keepB {W w1 w2 : World} {n k : Nat} {x y : Option Value} (h : RowKit.Below k W w1 ∧ w1.cell? ⟨n, 0, none⟩ = x ∧ w1.cell? ⟨n, 1, none⟩ = y) (hn : n < k) (hk : k ≤ W.heap.size) (hb : RowKit.Below w1.heap.size w1 w2) :
    RowKit.Below k W w2 ∧ w2.cell? ⟨n, 0, none⟩ = x ∧ w2.cell? ⟨n, 1, none⟩ = y := by
  have hs := h.1.size
  exact ⟨h.1.trans (hb.mono (by omega)), (hb.cell (p := ⟨n, 0, none⟩) (by show n < _; omega)).trans h.2.1, (hb.cell (p := ⟨n, 1, none⟩) (by show n < _; omega)).trans h.2.2⟩
theorem keepFar {w : World} {n : Nat} {x y : Option Value} {a b : Value} (h : w.cell? ⟨n + 1, 0, none⟩ = x ∧ w.cell? ⟨n + 1, 1, none⟩ = y) (_ : 0 = 0) : ((w.setCell ⟨n, 0, none⟩ a).setCell ⟨n, 1, none⟩ b).cell? ⟨n + 1, 0, none⟩ = x ∧ ((w.setCell ⟨n, 0, none⟩ a).setCell ⟨n, 1, none⟩ b).cell? ⟨n + 1, 1, none⟩ = y :=
  ⟨by rw [set_far _ _ _ _ _ _ (by omega), set_far _ _ _ _ _ _ (by omega)]; exact h.1, by rw [set_far _ _ _ _ _ _ (by omega), set_far _ _ _ _ _ _ (by omega)]; exact h.2⟩
theorem tk_three {w : World} {A : Option Addr} {a b c : Tk} {rest : List Tk} (h : TkAt w A (a :: b :: c :: rest)) : TkAt w A [a, b, c] := fun _ => by
  obtain ⟨g, o, e, hg, hc⟩ := h (by simp)
  exact ⟨g, o, e, hg, fun j hj => match j, hj with
    | 0, _ => hc 0 (by simp)
    | 1, _ => hc 1 (by simp)
    | 2, _ => hc 2 (by simp)⟩
theorem tk_rest {w : World} {g o : Nat} {a b c : Tk} {rest : List Tk} (h : TkAt w (some ⟨g, o, none⟩) (a :: b :: c :: rest)) : TkAt w (some ⟨g, o + 9, none⟩) rest := fun _ => by
  obtain ⟨g', o', e, hg, hc⟩ := h (by simp)
  injection e with e
  injection e with e1 e2
  subst e1; subst e2
  refine ⟨g, o + 9, rfl, hg, fun j hj => ?_⟩
  obtain ⟨x, y, z⟩ := hc (j + 3) (by simp; omega)
  simp only [List.getElem_cons_succ] at x y z
  rw [show o + (j + 3) * 3 = o + 9 + j * 3 by omega] at x y z
  exact ⟨x, y, z⟩
theorem of_rowTk {w : World} {B : Nat} {v : Value} {L : List Tk} (h : w.ownsRow B 127 3 v L.length (tkCells L)) : ∃ A cap, v = .slice A L.length cap ∧ L.length ≤ cap ∧ TkAt w A L := by
  obtain ⟨A, cap, e, hc, hr⟩ := TkRow.of_own h
  exact ⟨A, cap, e, hc, TkAt.of_row hr⟩
set_option maxHeartbeats 2000000 in
set_option maxRecDepth 100000 in
theorem readRole_ne (A : Option Addr) (ca n : Nat) (a b c : Tk) (rest : List Tk) (w : World) (hn : n = rest.length + 3) (hca : n ≤ ca) (hL : rest.length ≤ 1000) (s1 : a.text.size ≤ maxLen) (s2 : c.text.size ≤ maxLen) (hA : TkAt w A (a :: b :: c :: rest)) (h : (⟨a.text, c.text⟩ : Rl).ok = true) (h2 : kts [a, b, c] ≠ kts (roleTk ⟨a.text, c.text⟩ 0)) :
    Calls Tryz.prog 154 #[.slice A n ca] w (ReadPost (a :: b :: c :: rest) w) := by
  have H := Lib.hid (readR_ne (rest := rest) h2)
  have HR := Lib.hid (isRole' a.text c.text · s1 s2)
  rw [h] at HR
  have ht := fun w => roleTokens ⟨a.text, c.text⟩ w h
  unfold Rl.val at ht
  have HT := Lib.hid ht
  clear ht
  have HA := Lib.hid hA
  obtain ⟨g, o, rfl, hg, hc⟩ := hA (by simp)
  obtain ⟨_, t0, _⟩ := hc 0 (by simp)
  obtain ⟨_, t2, _⟩ := hc 2 (by simp)
  simp only [Nat.zero_mul, Nat.add_zero, List.getElem_cons_zero, List.getElem_cons_succ] at t0 t2
  have d : decide ((3 : Int) ≤ n) = true := by simp; omega
  have d0 : (0 : Int) < n := by omega
  have d2 : (2 : Int) < n := by omega
  have hm := mixed
  have Hn := Lib.hid hn
  have hs := (fun (B : Option Addr) (cb : Nat) (w1 : World) (x : TkAt w1 (some ⟨g, o, none⟩) [a, b, c]) (y : TkAt w1 B (roleTk ⟨a.text, c.text⟩ 0)) => same (some ⟨g, o, none⟩) B ca cb [a, b, c] (roleTk ⟨a.text, c.text⟩ 0) w1 (by simp) (by simp [roleTk]) x y)
  rw [decide_eq_false h2] at hs
  have HS := Lib.hid hs
  clear hs
  have hM : (roleTk ⟨a.text, c.text⟩ 0).length = 3 := rfl
  clear h hc s1 s2 hA hn h2
  have dca : decide ((3 : Int) ≤ ca) = true := by simp; omega
  have dca' : (3 : Int) ≤ ca := by omega
  go_enter Tryz.func154, Tryz.ntmps154
  go_wp2_with fail
  go_region
  go_wp2_with fail
  have hst : RowKit.Below (w.heap.size + 2) ((w.alloc (.cells #[.string ⟨#[]⟩, .string ⟨#[]⟩] 44)).alloc (.cells #[.string a.text, .string c.text] 44)) ((w.alloc (.cells #[.string ⟨#[]⟩, .string ⟨#[]⟩] 44)).alloc (.cells #[.string a.text, .string c.text] 44)).drew.drew ∧ ((w.alloc (.cells #[.string ⟨#[]⟩, .string ⟨#[]⟩] 44)).alloc (.cells #[.string a.text, .string c.text] 44)).drew.drew.cell? ⟨w.heap.size + 1, 0, none⟩ = some (.string a.text) ∧ ((w.alloc (.cells #[.string ⟨#[]⟩, .string ⟨#[]⟩] 44)).alloc (.cells #[.string a.text, .string c.text] 44)).drew.drew.cell? ⟨w.heap.size + 1, 1, none⟩ = some (.string c.text) := ⟨(Below.refl _ _).drew.drew, by simp, by simp⟩
  have hw0 : RowKit.Below w.heap.size w ((w.alloc (.cells #[.string ⟨#[]⟩, .string ⟨#[]⟩] 44)).alloc (.cells #[.string a.text, .string c.text] 44)) := ((Below.refl _ _).alloc (Nat.le_refl _) _).alloc (by simp) _
  have Htk := Lib.hid (fun (w1 : World) (hb : RowKit.Below (w.heap.size + 2) ((w.alloc (.cells #[.string ⟨#[]⟩, .string ⟨#[]⟩] 44)).alloc (.cells #[.string a.text, .string c.text] 44)) w1) => tk_three (HA.out.below (hw0.trans (hb.mono (by omega)))))
  have Htk2 := Lib.hid (fun (w1 : World) (hb : RowKit.Below (w.heap.size + 2) ((w.alloc (.cells #[.string ⟨#[]⟩, .string ⟨#[]⟩] 44)).alloc (.cells #[.string a.text, .string c.text] 44)) w1) => HA.out.below (hw0.trans (hb.mono (by omega))))
  have Hw0 := Lib.hid hw0
  clear hw0 hM
  go_region_held3 (fun w' => RowKit.Below (w.heap.size + 2) ((w.alloc (.cells #[.string ⟨#[]⟩, .string ⟨#[]⟩] 44)).alloc (.cells #[.string a.text, .string c.text] 44)) w' ∧ w'.cell? ⟨w.heap.size + 1, 0, none⟩ = some (.string a.text) ∧ w'.cell? ⟨w.heap.size + 1, 1, none⟩ = some (.string c.text))
    (first | exact hst | assumption | exact keepB (by assumption) (by omega) (by simp) (by assumption))
    (first | (go_at_call 73; refine (HR.out _).mono ?_; rintro e w' ⟨rfl, hg⟩; have hgb := hg.below) | (go_at_call 212; refine (HT.out _).mono ?_; rintro e w' ⟨v, rfl, hown, hgb⟩; obtain ⟨B, cb, rfl, hcb, hr⟩ := of_rowTk hown) | (go_at_call 211; refine (HS.out _ _ _ (Htk.out _ (by apply And.left; assumption)) hr).mono ?_; rintro e w' ⟨rfl, hgb⟩))
  rename_i hHeld
  obtain ⟨hB, hx, hy⟩ := hHeld
  have hbA : RowKit.Below w.heap.size w w' := Hw0.out.trans (hB.mono (by omega))
  have hcl := cloneTk (some ⟨g, o, none⟩) ca (a :: b :: c :: rest) w' (by simp; omega) (HA.out.below hbA)
  rw [show (a :: b :: c :: rest).length = n from Hn.out.symm] at hcl
  have Hcl := Lib.hid hcl
  have z1 := hB.size
  simp only [World.size_alloc] at z1
  have hc0 : w'.cell? ⟨w.heap.size, 0, none⟩ = some (.string ⟨#[]⟩) := (hB.cell (p := ⟨w.heap.size, 0, none⟩) (by show w.heap.size < _; omega)).trans (by simp)
  have hc1 : w'.cell? ⟨w.heap.size, 1, none⟩ = some (.string ⟨#[]⟩) := (hB.cell (p := ⟨w.heap.size, 1, none⟩) (by show w.heap.size < _; omega)).trans (by simp)
  have hf0 : ∀ o, w'.frozen? ⟨w.heap.size, o, none⟩ = false := fun o => (hB.frozen (p := ⟨w.heap.size, o, none⟩) (by show w.heap.size < _; omega)).trans (by simp)
  clear hB hcl t0 t2 hst hx hy hr hown hcb hgb hg
  go_wp2_with fail
  refine Hcl.out.mono ?_
  rintro e w3 ⟨v, rfl, hown, hb⟩
  have hd0 := (hb.cell (p := ⟨w.heap.size, 0, none⟩) (by show w.heap.size < _; omega)).trans hc0
  have hd1 := (hb.cell (p := ⟨w.heap.size, 1, none⟩) (by show w.heap.size < _; omega)).trans hc1
  have hf : ∀ o, w3.frozen? ⟨w.heap.size, o, none⟩ = false := fun o => (hb.frozen (p := ⟨w.heap.size, o, none⟩) (by show w.heap.size < _; omega)).trans (hf0 o)
  have gc := set_cell
  have hb0 := hbA.trans (hb.mono (by omega))
  clear hc0 hc1 hf0 hbA
  go_wp2_with fail
  refine bodyPost_ret (v := .tuple #[.agg #[.string ⟨#[]⟩, .string ⟨#[]⟩], v, .bool false]) (by simp [results, Tryz.results154, go_sem, hd0, hd1, gc]) rfl ⟨v, by rw [H.out]; rfl, ?_, ?_⟩
  · rw [H.out]
    refine own_more (own_set (own_set ?_ (by show w.heap.size < _; omega) _) (by show w.heap.size < _; omega) _) (by omega : w.heap.size ≤ w'.heap.size)
    exact hown
  · exact (hb0.setCell (by simp) _).setCell (by simp) _
set_option maxHeartbeats 2000000 in
set_option maxRecDepth 100000 in
theorem readRole_yes (A : Option Addr) (ca n : Nat) (a b c : Tk) (rest : List Tk) (w : World) (hn : n = rest.length + 3) (hca : n ≤ ca) (h3 : ca ≠ 3) (hL : rest.length ≤ 1000) (s1 : a.text.size ≤ maxLen) (s2 : c.text.size ≤ maxLen) (hA : TkAt w A (a :: b :: c :: rest)) (h : (⟨a.text, c.text⟩ : Rl).ok = true) (h2 : kts [a, b, c] = kts (roleTk ⟨a.text, c.text⟩ 0)) :
    Calls Tryz.prog 154 #[.slice A n ca] w (ReadPost (a :: b :: c :: rest) w) := by
  have e3 : ((ca : Int) == 3) = false := by simp; omega
  have hcp : 0 < ca - 3 := by omega
  have H := Lib.hid (readR_yes (rest := rest) h h2)
  have HR := Lib.hid (isRole' a.text c.text · s1 s2)
  rw [h] at HR
  have ht := fun w => roleTokens ⟨a.text, c.text⟩ w h
  unfold Rl.val at ht
  have HT := Lib.hid ht
  clear ht
  have HA := Lib.hid hA
  obtain ⟨g, o, rfl, hg, hc⟩ := hA (by simp)
  obtain ⟨_, t0, _⟩ := hc 0 (by simp)
  obtain ⟨_, t2, _⟩ := hc 2 (by simp)
  simp only [Nat.zero_mul, Nat.add_zero, List.getElem_cons_zero, List.getElem_cons_succ] at t0 t2
  have d : decide ((3 : Int) ≤ n) = true := by simp; omega
  have d0 : (0 : Int) < n := by omega
  have d2 : (2 : Int) < n := by omega
  have hm := mixed
  have Hn := Lib.hid hn
  have hs := (fun (B : Option Addr) (cb : Nat) (w1 : World) (x : TkAt w1 (some ⟨g, o, none⟩) [a, b, c]) (y : TkAt w1 B (roleTk ⟨a.text, c.text⟩ 0)) => same (some ⟨g, o, none⟩) B ca cb [a, b, c] (roleTk ⟨a.text, c.text⟩ 0) w1 (by simp) (by simp [roleTk]) x y)
  rw [decide_eq_true h2] at hs
  have HS := Lib.hid hs
  clear hs
  have hM : (roleTk ⟨a.text, c.text⟩ 0).length = 3 := rfl
  clear h hc s1 s2 hA hn h2
  have dca : decide ((3 : Int) ≤ ca) = true := by simp; omega
  have dca' : (3 : Int) ≤ ca := by omega
  go_enter Tryz.func154, Tryz.ntmps154
  go_wp2_with fail
  go_region
  go_wp2_with fail
  have hst : RowKit.Below (w.heap.size + 2) ((w.alloc (.cells #[.string ⟨#[]⟩, .string ⟨#[]⟩] 44)).alloc (.cells #[.string a.text, .string c.text] 44)) ((w.alloc (.cells #[.string ⟨#[]⟩, .string ⟨#[]⟩] 44)).alloc (.cells #[.string a.text, .string c.text] 44)).drew.drew ∧ ((w.alloc (.cells #[.string ⟨#[]⟩, .string ⟨#[]⟩] 44)).alloc (.cells #[.string a.text, .string c.text] 44)).drew.drew.cell? ⟨w.heap.size + 1, 0, none⟩ = some (.string a.text) ∧ ((w.alloc (.cells #[.string ⟨#[]⟩, .string ⟨#[]⟩] 44)).alloc (.cells #[.string a.text, .string c.text] 44)).drew.drew.cell? ⟨w.heap.size + 1, 1, none⟩ = some (.string c.text) := ⟨(Below.refl _ _).drew.drew, by simp, by simp⟩
  have hw0 : RowKit.Below w.heap.size w ((w.alloc (.cells #[.string ⟨#[]⟩, .string ⟨#[]⟩] 44)).alloc (.cells #[.string a.text, .string c.text] 44)) := ((Below.refl _ _).alloc (Nat.le_refl _) _).alloc (by simp) _
  have Htk := Lib.hid (fun (w1 : World) (hb : RowKit.Below (w.heap.size + 2) ((w.alloc (.cells #[.string ⟨#[]⟩, .string ⟨#[]⟩] 44)).alloc (.cells #[.string a.text, .string c.text] 44)) w1) => tk_three (HA.out.below (hw0.trans (hb.mono (by omega)))))
  have Htk2 := Lib.hid (fun (w1 : World) (hb : RowKit.Below (w.heap.size + 2) ((w.alloc (.cells #[.string ⟨#[]⟩, .string ⟨#[]⟩] 44)).alloc (.cells #[.string a.text, .string c.text] 44)) w1) => HA.out.below (hw0.trans (hb.mono (by omega))))
  have Hw0 := Lib.hid hw0
  clear hw0 hM
  go_region_held3 (fun w' => RowKit.Below (w.heap.size + 2) ((w.alloc (.cells #[.string ⟨#[]⟩, .string ⟨#[]⟩] 44)).alloc (.cells #[.string a.text, .string c.text] 44)) w' ∧ w'.cell? ⟨w.heap.size + 1, 0, none⟩ = some (.string a.text) ∧ w'.cell? ⟨w.heap.size + 1, 1, none⟩ = some (.string c.text))
    (first | exact hst | assumption | exact keepB (by assumption) (by omega) (by simp) (by assumption))
    (first | (go_at_call 73; refine (HR.out _).mono ?_; rintro e w' ⟨rfl, hg⟩; have hgb := hg.below) | (go_at_call 212; refine (HT.out _).mono ?_; rintro e w' ⟨v, rfl, hown, hgb⟩; obtain ⟨B, cb, rfl, hcb, hr⟩ := of_rowTk hown) | (go_at_call 211; refine (HS.out _ _ _ (Htk.out _ (by apply And.left; assumption)) hr).mono ?_; rintro e w' ⟨rfl, hgb⟩))
  rename_i hHeld
  obtain ⟨hB, hx, hy⟩ := hHeld
  have hbA : RowKit.Below w.heap.size w w' := Hw0.out.trans (hB.mono (by omega))
  have hcl := fun (w1 : World) (cc : Nat) (hb : RowKit.Below w.heap.size w w1) => cloneTk (some ⟨g, o + 9, none⟩) cc rest w1 (by omega) (tk_rest (HA.out.below hb))
  have e4 : rest.length = n - 3 := by have := Hn.out; omega
  rw [e4] at hcl
  have HCl := Lib.hid hcl
  have E4 := Lib.hid e4
  clear hcl e4
  have z1 := hB.size
  simp only [World.size_alloc] at z1
  have hc0 : w'.cell? ⟨w.heap.size, 0, none⟩ = some (.string ⟨#[]⟩) := (hB.cell (p := ⟨w.heap.size, 0, none⟩) (by show w.heap.size < _; omega)).trans (by simp)
  have hc1 : w'.cell? ⟨w.heap.size, 1, none⟩ = some (.string ⟨#[]⟩) := (hB.cell (p := ⟨w.heap.size, 1, none⟩) (by show w.heap.size < _; omega)).trans (by simp)
  have hf0 : ∀ o, w'.frozen? ⟨w.heap.size, o, none⟩ = false := fun o => (hB.frozen (p := ⟨w.heap.size, o, none⟩) (by show w.heap.size < _; omega)).trans (by simp)
  clear hB t0 t2 hst hr hown hcb hgb hg
  go_wp2_with fail
  have d3 : (3 : Int) ≤ (n : Int) := by omega
  have d4 : (n : Int) ≤ (ca : Int) := by omega
  have d5 : 3 ≤ n := by omega
  have d6 : ¬ ca = 3 := h3
  have d7 : ¬ ca ≤ 3 := by omega
  have d8 : ¬ ca - 3 = 0 := by omega
  have hst2 : w'.drew.cell? ⟨w.heap.size + 1, 0, none⟩ = some (.string a.text) ∧ w'.drew.cell? ⟨w.heap.size + 1, 1, none⟩ = some (.string c.text) := ⟨hx, hy⟩
  go_region_held3 (fun x => x.cell? ⟨w.heap.size + 1, 0, none⟩ = some (.string a.text) ∧ x.cell? ⟨w.heap.size + 1, 1, none⟩ = some (.string c.text))
    (first | exact hst2 | assumption | exact ⟨(hgb.cell (p := ⟨w.heap.size + 1, 0, none⟩) (by show w.heap.size + 1 < w'.heap.size; omega)).trans hx, (hgb.cell (p := ⟨w.heap.size + 1, 1, none⟩) (by show w.heap.size + 1 < w'.heap.size; omega)).trans hy⟩ | exact keepFar (by assumption) (by omega))
    ((go_at_call 213; refine (HCl.out _ _ hbA.drew).mono ?_; rintro e w2 ⟨v, rfl, hown, hgb⟩; have hd0 := (hgb.cell (p := ⟨w.heap.size, 0, none⟩) (by show w.heap.size < w'.heap.size; omega)).trans hc0; have hd1 := (hgb.cell (p := ⟨w.heap.size, 1, none⟩) (by show w.heap.size < w'.heap.size; omega)).trans hc1; have hf := fun o => (hgb.frozen (p := ⟨w.heap.size, o, none⟩) (by show w.heap.size < w'.heap.size; omega)).trans (hf0 o)))
  have gc := set_cell
  go_wp2_with fail
  refine bodyPost_ret (v := .tuple #[.agg #[.string a.text, .string c.text], v, .bool true]) (by simp [results, Tryz.results154, go_sem, hd0, hd1, gc]) rfl ⟨v, by rw [H.out]; rfl, ?_, ?_⟩
  · rw [H.out]
    refine own_more (own_set (own_set ?_ (by show w.heap.size < w'.heap.size; omega) _) (by show w.heap.size < w'.heap.size; omega) _) (by show w.heap.size ≤ w'.heap.size; omega)
    exact hown
  · exact ((hbA.drew.trans (hgb.mono (by show w.heap.size ≤ w'.heap.size; omega))).setCell (by simp) _).setCell (by simp) _
set_option maxHeartbeats 2000000 in
set_option maxRecDepth 100000 in
theorem readRole_yes3 (A : Option Addr) (a b c : Tk) (w : World) (s1 : a.text.size ≤ maxLen) (s2 : c.text.size ≤ maxLen) (hA : TkAt w A (a :: b :: c :: [])) (h : (⟨a.text, c.text⟩ : Rl).ok = true) (h2 : kts [a, b, c] = kts (roleTk ⟨a.text, c.text⟩ 0)) :
    Calls Tryz.prog 154 #[.slice A 3 3] w (ReadPost (a :: b :: c :: []) w) := by
  have H := Lib.hid (readR_yes (rest := []) h h2)
  have HR := Lib.hid (isRole' a.text c.text · s1 s2)
  rw [h] at HR
  have ht := fun w => roleTokens ⟨a.text, c.text⟩ w h
  unfold Rl.val at ht
  have HT := Lib.hid ht
  clear ht
  have HA := Lib.hid hA
  obtain ⟨g, o, rfl, hg, hc⟩ := hA (by simp)
  obtain ⟨_, t0, _⟩ := hc 0 (by simp)
  obtain ⟨_, t2, _⟩ := hc 2 (by simp)
  simp only [Nat.zero_mul, Nat.add_zero, List.getElem_cons_zero, List.getElem_cons_succ] at t0 t2
  have hm := mixed
  have hs := (fun (B : Option Addr) (cb : Nat) (w1 : World) (x : TkAt w1 (some ⟨g, o, none⟩) [a, b, c]) (y : TkAt w1 B (roleTk ⟨a.text, c.text⟩ 0)) => same (some ⟨g, o, none⟩) B 3 cb [a, b, c] (roleTk ⟨a.text, c.text⟩ 0) w1 (by simp) (by simp [roleTk]) x y)
  rw [decide_eq_true h2] at hs
  have HS := Lib.hid hs
  clear hs
  have hM : (roleTk ⟨a.text, c.text⟩ 0).length = 3 := rfl
  clear h hc s1 s2 hA h2
  go_enter Tryz.func154, Tryz.ntmps154
  go_wp2_with fail
  go_region
  go_wp2_with fail
  have hst : RowKit.Below (w.heap.size + 2) ((w.alloc (.cells #[.string ⟨#[]⟩, .string ⟨#[]⟩] 44)).alloc (.cells #[.string a.text, .string c.text] 44)) ((w.alloc (.cells #[.string ⟨#[]⟩, .string ⟨#[]⟩] 44)).alloc (.cells #[.string a.text, .string c.text] 44)).drew.drew ∧ ((w.alloc (.cells #[.string ⟨#[]⟩, .string ⟨#[]⟩] 44)).alloc (.cells #[.string a.text, .string c.text] 44)).drew.drew.cell? ⟨w.heap.size + 1, 0, none⟩ = some (.string a.text) ∧ ((w.alloc (.cells #[.string ⟨#[]⟩, .string ⟨#[]⟩] 44)).alloc (.cells #[.string a.text, .string c.text] 44)).drew.drew.cell? ⟨w.heap.size + 1, 1, none⟩ = some (.string c.text) := ⟨(Below.refl _ _).drew.drew, by simp, by simp⟩
  have hw0 : RowKit.Below w.heap.size w ((w.alloc (.cells #[.string ⟨#[]⟩, .string ⟨#[]⟩] 44)).alloc (.cells #[.string a.text, .string c.text] 44)) := ((Below.refl _ _).alloc (Nat.le_refl _) _).alloc (by simp) _
  have Htk := Lib.hid (fun (w1 : World) (hb : RowKit.Below (w.heap.size + 2) ((w.alloc (.cells #[.string ⟨#[]⟩, .string ⟨#[]⟩] 44)).alloc (.cells #[.string a.text, .string c.text] 44)) w1) => tk_three (HA.out.below (hw0.trans (hb.mono (by omega)))))
  have Htk2 := Lib.hid (fun (w1 : World) (hb : RowKit.Below (w.heap.size + 2) ((w.alloc (.cells #[.string ⟨#[]⟩, .string ⟨#[]⟩] 44)).alloc (.cells #[.string a.text, .string c.text] 44)) w1) => HA.out.below (hw0.trans (hb.mono (by omega))))
  have Hw0 := Lib.hid hw0
  clear hw0 hM
  go_region_held3 (fun w' => RowKit.Below (w.heap.size + 2) ((w.alloc (.cells #[.string ⟨#[]⟩, .string ⟨#[]⟩] 44)).alloc (.cells #[.string a.text, .string c.text] 44)) w' ∧ w'.cell? ⟨w.heap.size + 1, 0, none⟩ = some (.string a.text) ∧ w'.cell? ⟨w.heap.size + 1, 1, none⟩ = some (.string c.text))
    (first | exact hst | assumption | exact keepB (by assumption) (by omega) (by simp) (by assumption))
    (first | (go_at_call 73; refine (HR.out _).mono ?_; rintro e w' ⟨rfl, hg⟩; have hgb := hg.below) | (go_at_call 212; refine (HT.out _).mono ?_; rintro e w' ⟨v, rfl, hown, hgb⟩; obtain ⟨B, cb, rfl, hcb, hr⟩ := of_rowTk hown) | (go_at_call 211; refine (HS.out _ _ _ (Htk.out _ (by apply And.left; assumption)) hr).mono ?_; rintro e w' ⟨rfl, hgb⟩))
  rename_i hHeld
  obtain ⟨hB, hx, hy⟩ := hHeld
  have hbA : RowKit.Below w.heap.size w w' := Hw0.out.trans (hB.mono (by omega))
  have HCl := Lib.hid (fun (w1 : World) (cc : Nat) (hb : RowKit.Below w.heap.size w w1) => cloneTk (some ⟨g, o, none⟩) cc [] w1 (by simp) (fun h => by simp at h))
  have z1 := hB.size
  simp only [World.size_alloc] at z1
  have hc0 : w'.cell? ⟨w.heap.size, 0, none⟩ = some (.string ⟨#[]⟩) := (hB.cell (p := ⟨w.heap.size, 0, none⟩) (by show w.heap.size < _; omega)).trans (by simp)
  have hc1 : w'.cell? ⟨w.heap.size, 1, none⟩ = some (.string ⟨#[]⟩) := (hB.cell (p := ⟨w.heap.size, 1, none⟩) (by show w.heap.size < _; omega)).trans (by simp)
  have hf0 : ∀ o, w'.frozen? ⟨w.heap.size, o, none⟩ = false := fun o => (hB.frozen (p := ⟨w.heap.size, o, none⟩) (by show w.heap.size < _; omega)).trans (by simp)
  clear hB t0 t2 hst hr hown hcb hgb hg
  go_wp2_with fail
  have hst2 : w'.drew.cell? ⟨w.heap.size + 1, 0, none⟩ = some (.string a.text) ∧ w'.drew.cell? ⟨w.heap.size + 1, 1, none⟩ = some (.string c.text) := ⟨hx, hy⟩
  go_region_held3 (fun x => x.cell? ⟨w.heap.size + 1, 0, none⟩ = some (.string a.text) ∧ x.cell? ⟨w.heap.size + 1, 1, none⟩ = some (.string c.text))
    (first | exact hst2 | assumption | exact ⟨(hgb.cell (p := ⟨w.heap.size + 1, 0, none⟩) (by show w.heap.size + 1 < w'.heap.size; omega)).trans hx, (hgb.cell (p := ⟨w.heap.size + 1, 1, none⟩) (by show w.heap.size + 1 < w'.heap.size; omega)).trans hy⟩ | exact keepFar (by assumption) (by omega))
    ((go_at_call 213; refine (HCl.out _ _ hbA.drew).mono ?_; rintro e w2 ⟨v, rfl, hown, hgb⟩; have hd0 := (hgb.cell (p := ⟨w.heap.size, 0, none⟩) (by show w.heap.size < w'.heap.size; omega)).trans hc0; have hd1 := (hgb.cell (p := ⟨w.heap.size, 1, none⟩) (by show w.heap.size < w'.heap.size; omega)).trans hc1; have hf := fun o => (hgb.frozen (p := ⟨w.heap.size, o, none⟩) (by show w.heap.size < w'.heap.size; omega)).trans (hf0 o)))
  have gc := set_cell
  go_wp2_with fail
  refine bodyPost_ret (v := .tuple #[.agg #[.string a.text, .string c.text], v, .bool true]) (by simp [results, Tryz.results154, go_sem, hd0, hd1, gc]) rfl ⟨v, by rw [H.out]; rfl, ?_, ?_⟩
  · rw [H.out]
    refine own_more (own_set (own_set ?_ (by show w.heap.size < w'.heap.size; omega) _) (by show w.heap.size < w'.heap.size; omega) _) (by show w.heap.size ≤ w'.heap.size; omega)
    exact hown
  · exact ((hbA.drew.trans (hgb.mono (by show w.heap.size ≤ w'.heap.size; omega))).setCell (by simp) _).setCell (by simp) _
theorem readRole (A : Option Addr) (ca : Nat) (L : List Tk) (w : World) (hL : L.length ≤ 1000) (hca : L.length ≤ ca) (hs : SmallTk L) (hA : TkAt w A L) : Calls Tryz.prog 154 #[.slice A L.length ca] w (ReadPost L w) := by
  match L, hL, hca, hs, hA with
  | [], _, _, _, hA => exact readRole_short A ca [] w (by simp) hA
  | [x], _, _, _, hA => exact readRole_short A ca [x] w (by simp) hA
  | [x, y], _, _, _, hA => exact readRole_short A ca [x, y] w (by simp) hA
  | a :: b :: c :: rest, hL, hca, hs, hA =>
    have s1 : a.text.size ≤ maxLen := by have := (hs a (by simp)).2; unfold maxLen; omega
    have s2 : c.text.size ≤ maxLen := by have := (hs c (by simp)).2; unfold maxLen; omega
    simp only [List.length_cons] at hL hca
    cases h : Rl.ok ⟨a.text, c.text⟩
    · exact readRole_no A ca (rest.length + 3) a b c rest w rfl (by omega) s1 s2 hA h
    · by_cases h2 : kts [a, b, c] = kts (roleTk ⟨a.text, c.text⟩ 0)
      · by_cases h3 : ca = 3
        · have : rest = [] := List.eq_nil_of_length_eq_zero (by omega)
          subst this; subst h3
          exact readRole_yes3 A a b c w s1 s2 hA h h2
        · exact readRole_yes A ca (rest.length + 3) a b c rest w rfl (by omega) h3 (by omega) s1 s2 hA h h2
      · exact readRole_ne A ca (rest.length + 3) a b c rest w rfl (by omega) (by omega) s1 s2 hA h h2
end Go.Proofs.YtkmpbkgmdfeicaaGreat.SynU
