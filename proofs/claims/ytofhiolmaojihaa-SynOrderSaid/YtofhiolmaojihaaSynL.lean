/- The lines of statements, in the program and in the document's answers. -/
import Derived.Test.YtofhiolmaojihaaSyn9
namespace Go.Proofs.Ytofhiolmaojihaa.SynL
open Go.RowKit Go.Sort Go.Proofs Go.Proofs.Ytofhiolmaojihaa.Plain Go.Proofs.Ytofhiolmaojihaa.SynP Go.Proofs.Ytofhiolmaojihaa.Named Go.Proofs.Ytofhiolmaojihaa.RefN Go.Proofs.Ytofhiolmaojihaa.Grown Go.Proofs.Ytofhiolmaojihaa.Syn1 Go.Proofs.Ytofhiolmaojihaa.Syn2 Go.Proofs.Ytofhiolmaojihaa.Syn3 Go.Proofs.Ytofhiolmaojihaa.Syn4 Go.Proofs.Ytofhiolmaojihaa.Syn5 Go.Proofs.Ytofhiolmaojihaa.SynE Go.Proofs.Ytofhiolmaojihaa.Syn7 Go.Proofs.Ytofhiolmaojihaa.Syn8 Go.Proofs.Ytofhiolmaojihaa.Syn9
set_option linter.unusedSimpArgs false
set_option linter.unusedVariables false
def text (r : Rl) : ByteArray := r.owner ++ ⟨#[46]⟩ ++ r.name
/-- What stands behind the arrow. -/
def body (s : St) : ByteArray := if s.kind = 1 then s.who else if s.kind = 2 then text s.a else if s.kind = 3 then text s.a ++ ⟨#[46]⟩ ++ s.via else text s.a ++ ⟨#[32, 38, 32]⟩ ++ text s.b
/-- A statement's line: nothing, if it isn't right. -/
def line (s : St) : ByteArray := if s.right = true then text s.head ++ ⟨#[32, 60, 45, 32]⟩ ++ body s else noText
theorem right_kind {s : St} (h : s.right = true) : s.kind = 1 ∨ s.kind = 2 ∨ s.kind = 3 ∨ s.kind = 4 := by
  rcases kinds s.kind with h1 | h1 | h1 | h1 | ⟨h1, h2, h3, h4⟩
  · exact .inl h1
  · exact .inr (.inl h1)
  · exact .inr (.inr (.inl h1))
  · exact .inr (.inr (.inr h1))
  · unfold St.right St.says at h
    rw [if_neg h1, if_neg h2, if_neg h3, if_neg h4] at h
    simp at h
theorem addS (a b : ByteArray) (h : a.size + b.size ≤ 100000) (w : World) : (binOp .add 9 (.string a) (.string b)).run Try.prog w = .ok (.string (a ++ b)) w := by
  go_simp
  omega
theorem sz46 : (⟨#[46]⟩ : ByteArray).size = 1 := rfl
theorem sz38 : (⟨#[32, 38, 32]⟩ : ByteArray).size = 3 := rfl
theorem szA : (⟨#[32, 60, 45, 32]⟩ : ByteArray).size = 4 := rfl
theorem named_small {f} {s : ByteArray} (h : named f s.data.toList = true) : s.size ≤ 1000 := by
  rcases Nat.lt_or_ge 1000 s.size with hlt | hge
  · rw [named_len (by omega)] at h; cases h
  · exact hge
theorem ok_small {o n : ByteArray} (h : Rl.ok ⟨o, n⟩ = true) : o.size ≤ 1000 ∧ n.size ≤ 1000 := by
  unfold Rl.ok at h
  rw [Bool.and_eq_true] at h
  exact ⟨named_small h.1, named_small h.2⟩
theorem right_parts {k : Int} {ho hn wh ao an bo bn v : ByteArray} (h : St.right ⟨k, ⟨ho, hn⟩, wh, ⟨ao, an⟩, ⟨bo, bn⟩, v⟩ = true) : Rl.ok ⟨ho, hn⟩ = true ∧ (k = 1 → named capB wh.data.toList = true) ∧ ((k = 2 ∨ k = 3 ∨ k = 4) → Rl.ok ⟨ao, an⟩ = true) ∧ (k = 3 → named smallB v.data.toList = true) ∧ (k = 4 → Rl.ok ⟨bo, bn⟩ = true) := by
  unfold St.right at h
  simp only [Bool.and_eq_true] at h
  obtain ⟨⟨h1, h2⟩, h3⟩ := h
  unfold St.says at h2
  refine ⟨h1, ?_, ?_, ?_, ?_⟩
  · rintro rfl; exact h2
  · rintro (rfl | rfl | rfl)
    · exact h2
    · exact (Bool.and_eq_true _ _ ▸ h2 : _ ∧ _).1
    · have := (Bool.and_eq_true _ _ ▸ h2 : _ ∧ _).1
      exact (Bool.and_eq_true _ _ ▸ this : _ ∧ _).1
  · rintro rfl; exact (Bool.and_eq_true _ _ ▸ h2 : _ ∧ _).2
  · rintro rfl
    have := (Bool.and_eq_true _ _ ▸ h2 : _ ∧ _).1
    exact (Bool.and_eq_true _ _ ▸ this : _ ∧ _).2
theorem printRole' (o n : ByteArray) (w : World) (h1 : o.size ≤ 1000) (h2 : n.size ≤ 1000) : Calls Try.prog 19 #[.agg #[.string o, .string n]] w fun e w' => e = .returned (.string (o ++ ⟨#[46]⟩ ++ n)) ∧ Grew w w' := printRole ⟨o, n⟩ w ⟨h1, h2⟩
theorem printRoleRef' (o n : ByteArray) (w : World) (h1 : o.size ≤ 1000) (h2 : n.size ≤ 1000) : Calls Try.prog 20 #[.agg #[.string o, .string n]] w fun e w' => e = .returned (.string (o ++ ⟨#[46]⟩ ++ n)) ∧ Grew w w' := printRoleRef ⟨o, n⟩ w ⟨h1, h2⟩
set_option maxRecDepth 100000 in
theorem print_no (k : Int) (ho hn wh ao an bo bn v : ByteArray) (w : World) (hf : St.fit ⟨k, ⟨ho, hn⟩, wh, ⟨ao, an⟩, ⟨bo, bn⟩, v⟩) (h : St.right ⟨k, ⟨ho, hn⟩, wh, ⟨ao, an⟩, ⟨bo, bn⟩, v⟩ = false) : Calls Try.prog 13 #[.agg #[.int .i64 k, .string ho, .string hn, .string wh, .string ao, .string an, .string bo, .string bn, .string v]] w fun e w' => e = .returned (.string noText) ∧ Grew w w' := by
  have hR := (right ⟨k, ⟨ho, hn⟩, wh, ⟨ao, an⟩, ⟨bo, bn⟩, v⟩ · hf)
  unfold St.val at hR
  rw [h] at hR
  have HR := Lib.hid hR
  clear h hR hf
  go_enter Try.func13, Try.ntmps13
  go_wp2_with fail
  refine (HR.out _).mono ?_
  rintro e w1 ⟨rfl, hg⟩
  go_wp2_with fail
  go_ret
  exact ⟨rfl, ((Grew.refl _).alloc _).trans hg⟩
set_option maxHeartbeats 1000000 in
set_option maxRecDepth 100000 in
theorem print_1 (ho hn wh ao an bo bn v : ByteArray) (w : World) (hf : St.fit ⟨1, ⟨ho, hn⟩, wh, ⟨ao, an⟩, ⟨bo, bn⟩, v⟩) (h : St.right ⟨1, ⟨ho, hn⟩, wh, ⟨ao, an⟩, ⟨bo, bn⟩, v⟩ = true) : Calls Try.prog 13 #[.agg #[.int .i64 1, .string ho, .string hn, .string wh, .string ao, .string an, .string bo, .string bn, .string v]] w fun e w' => e = .returned (.string ((ho ++ ⟨#[46]⟩ ++ hn ++ ⟨#[32, 60, 45, 32]⟩) ++ wh)) ∧ Grew w w' := by
  have hR := (right ⟨1, ⟨ho, hn⟩, wh, ⟨ao, an⟩, ⟨bo, bn⟩, v⟩ · hf)
  unfold St.val at hR
  rw [h] at hR
  have HR := Lib.hid hR
  have hp := right_parts h
  have b0 := ok_small hp.1
  have b1 := named_small (hp.2.1 rfl)
  have HP := Lib.hid printRole'
  have hm := mixed
  clear h hR hf hp
  go_enter Try.func13, Try.ntmps13
  go_wp2_with fail
  refine (HR.out _).mono ?_
  rintro e w1 ⟨rfl, hg⟩
  obtain ⟨⟨n, os⟩, rfl⟩ := hg
  have gC := grow_cell n os
  have gF := grow_frozen n os
  go_wp2_with fail
  refine (HP.out _ _ _ b0.1 b0.2).mono ?_
  rintro e w1 ⟨rfl, hg⟩
  obtain ⟨⟨n2, os2⟩, rfl⟩ := hg
  have hz := grow_size n os
  have gC2 := grow_cell n2 os2
  have gF2 := grow_frozen n2 os2
  have z1 : w.heap.size < w.heap.size + 1 + os.size := by omega
  go_wp2_with fail
  go_ret
  exact ⟨rfl, (((Grew.refl _).alloc _).trans (Grew.mk _ _ _)).trans (Grew.mk _ _ _)⟩
set_option maxHeartbeats 1000000 in
set_option maxRecDepth 100000 in
theorem print_2 (ho hn wh ao an bo bn v : ByteArray) (w : World) (hf : St.fit ⟨2, ⟨ho, hn⟩, wh, ⟨ao, an⟩, ⟨bo, bn⟩, v⟩) (h : St.right ⟨2, ⟨ho, hn⟩, wh, ⟨ao, an⟩, ⟨bo, bn⟩, v⟩ = true) : Calls Try.prog 13 #[.agg #[.int .i64 2, .string ho, .string hn, .string wh, .string ao, .string an, .string bo, .string bn, .string v]] w fun e w' => e = .returned (.string ((ho ++ ⟨#[46]⟩ ++ hn ++ ⟨#[32, 60, 45, 32]⟩) ++ (ao ++ ⟨#[46]⟩ ++ an))) ∧ Grew w w' := by
  have hR := (right ⟨2, ⟨ho, hn⟩, wh, ⟨ao, an⟩, ⟨bo, bn⟩, v⟩ · hf)
  unfold St.val at hR
  rw [h] at hR
  have HR := Lib.hid hR
  have hp := right_parts h
  have b0 := ok_small hp.1
  have bA := ok_small (hp.2.2.1 (by decide))
  have HP := Lib.hid printRole'
  have hm := mixed
  clear h hR hf hp
  go_enter Try.func13, Try.ntmps13
  go_wp2_with fail
  refine (HR.out _).mono ?_
  rintro e w1 ⟨rfl, hg⟩
  obtain ⟨⟨n, os⟩, rfl⟩ := hg
  have gC := grow_cell n os
  have gF := grow_frozen n os
  go_wp2_with fail
  refine (HP.out _ _ _ b0.1 b0.2).mono ?_
  rintro e w1 ⟨rfl, hg⟩
  obtain ⟨⟨n2, os2⟩, rfl⟩ := hg
  have hz := grow_size n os
  have gC2 := grow_cell n2 os2
  have gF2 := grow_frozen n2 os2
  have z1 : w.heap.size < w.heap.size + 1 + os.size := by omega
  go_wp2_with fail
  refine (HP.out _ _ _ bA.1 bA.2).mono ?_
  rintro e w1 ⟨rfl, hg⟩
  go_wp2_with fail
  go_ret
  exact ⟨rfl, ((((Grew.refl _).alloc _).trans (Grew.mk _ _ _)).trans (Grew.mk _ _ _)).trans hg⟩
set_option maxHeartbeats 1000000 in
set_option maxRecDepth 100000 in
theorem print_3 (ho hn wh ao an bo bn v : ByteArray) (w : World) (hf : St.fit ⟨3, ⟨ho, hn⟩, wh, ⟨ao, an⟩, ⟨bo, bn⟩, v⟩) (h : St.right ⟨3, ⟨ho, hn⟩, wh, ⟨ao, an⟩, ⟨bo, bn⟩, v⟩ = true) : Calls Try.prog 13 #[.agg #[.int .i64 3, .string ho, .string hn, .string wh, .string ao, .string an, .string bo, .string bn, .string v]] w fun e w' => e = .returned (.string ((ho ++ ⟨#[46]⟩ ++ hn ++ ⟨#[32, 60, 45, 32]⟩) ++ (ao ++ ⟨#[46]⟩ ++ an ++ ⟨#[46]⟩ ++ v))) ∧ Grew w w' := by
  have hR := (right ⟨3, ⟨ho, hn⟩, wh, ⟨ao, an⟩, ⟨bo, bn⟩, v⟩ · hf)
  unfold St.val at hR
  rw [h] at hR
  have HR := Lib.hid hR
  have hp := right_parts h
  have b0 := ok_small hp.1
  have bA := ok_small (hp.2.2.1 (by decide))
  have b3 := named_small (hp.2.2.2.1 rfl)
  have HP := Lib.hid printRole'
  have hm := mixed
  have q0 : ¬ (9223372036854775807 < ao.size + 1 + an.size + 1) := by omega
  have q1 : ¬ (9223372036854775807 < ao.size + 1 + an.size + 1 + v.size) := by omega
  have q2 : ¬ (9223372036854775807 < ho.size + 1 + hn.size + 4 + (ao.size + 1 + an.size + 1 + v.size)) := by omega
  clear h hR hf hp
  go_enter Try.func13, Try.ntmps13
  go_wp2_with fail
  refine (HR.out _).mono ?_
  rintro e w1 ⟨rfl, hg⟩
  obtain ⟨⟨n, os⟩, rfl⟩ := hg
  have gC := grow_cell n os
  have gF := grow_frozen n os
  go_wp2_with fail
  refine (HP.out _ _ _ b0.1 b0.2).mono ?_
  rintro e w1 ⟨rfl, hg⟩
  obtain ⟨⟨n2, os2⟩, rfl⟩ := hg
  have hz := grow_size n os
  have gC2 := grow_cell n2 os2
  have gF2 := grow_frozen n2 os2
  have z1 : w.heap.size < w.heap.size + 1 + os.size := by omega
  go_wp2_with fail
  have gC3 := grow_cell
  have hz2 := grow_size n2 os2
  have z2 : w.heap.size < w.heap.size + 1 + os.size + os2.size := by omega
  go_quiet_grown ((go_at_call 19; exact grewCall (HP.out _ _ _ bA.1 bA.2)))
  go_wp2_with fail
  go_ret
  exact ⟨rfl, ((((Grew.refl _).alloc _).trans (Grew.mk _ _ _)).trans (Grew.mk _ _ _)).trans (Grew.mk _ _ _)⟩
set_option maxHeartbeats 1000000 in
set_option maxRecDepth 100000 in
theorem print_4 (ho hn wh ao an bo bn v : ByteArray) (w : World) (hf : St.fit ⟨4, ⟨ho, hn⟩, wh, ⟨ao, an⟩, ⟨bo, bn⟩, v⟩) (h : St.right ⟨4, ⟨ho, hn⟩, wh, ⟨ao, an⟩, ⟨bo, bn⟩, v⟩ = true) : Calls Try.prog 13 #[.agg #[.int .i64 4, .string ho, .string hn, .string wh, .string ao, .string an, .string bo, .string bn, .string v]] w fun e w' => e = .returned (.string ((ho ++ ⟨#[46]⟩ ++ hn ++ ⟨#[32, 60, 45, 32]⟩) ++ (ao ++ ⟨#[46]⟩ ++ an ++ ⟨#[32, 38, 32]⟩ ++ (bo ++ ⟨#[46]⟩ ++ bn)))) ∧ Grew w w' := by
  have hR := (right ⟨4, ⟨ho, hn⟩, wh, ⟨ao, an⟩, ⟨bo, bn⟩, v⟩ · hf)
  unfold St.val at hR
  rw [h] at hR
  have HR := Lib.hid hR
  have hp := right_parts h
  have b0 := ok_small hp.1
  have bA := ok_small (hp.2.2.1 (by decide))
  have bB := ok_small (hp.2.2.2.2 rfl)
  have HP := Lib.hid printRole'
  have hm := mixed
  have q0 : ¬ (9223372036854775807 < ao.size + 1 + an.size + 3) := by omega
  have q1 : ¬ (9223372036854775807 < ao.size + 1 + an.size + 3 + (bo.size + 1 + bn.size)) := by omega
  have q2 : ¬ (9223372036854775807 < ho.size + 1 + hn.size + 4 + (ao.size + 1 + an.size + 3 + (bo.size + 1 + bn.size))) := by omega
  clear h hR hf hp
  go_enter Try.func13, Try.ntmps13
  go_wp2_with fail
  refine (HR.out _).mono ?_
  rintro e w1 ⟨rfl, hg⟩
  obtain ⟨⟨n, os⟩, rfl⟩ := hg
  have gC := grow_cell n os
  have gF := grow_frozen n os
  go_wp2_with fail
  refine (HP.out _ _ _ b0.1 b0.2).mono ?_
  rintro e w1 ⟨rfl, hg⟩
  obtain ⟨⟨n2, os2⟩, rfl⟩ := hg
  have hz := grow_size n os
  have gC2 := grow_cell n2 os2
  have gF2 := grow_frozen n2 os2
  have z1 : w.heap.size < w.heap.size + 1 + os.size := by omega
  go_wp2_with fail
  have gC3 := grow_cell
  have hz2 := grow_size n2 os2
  have z2 : w.heap.size < w.heap.size + 1 + os.size + os2.size := by omega
  go_quiet_grown ((go_at_call 19; exact grewCall (HP.out _ _ _ (by first | exact bA.1 | exact bB.1) (by first | exact bA.2 | exact bB.2))))
  go_wp2_with fail
  go_ret
  exact ⟨rfl, ((((Grew.refl _).alloc _).trans (Grew.mk _ _ _)).trans (Grew.mk _ _ _)).trans (Grew.mk _ _ _)⟩
theorem print (s : St) (w : World) (hf : s.fit) : Calls Try.prog 13 #[s.val] w fun e w' => e = .returned (.string (line s)) ∧ Grew w w' := by
  obtain ⟨k1, ⟨ho, hn⟩, wh, ⟨ao, an⟩, ⟨bo, bn⟩, v⟩ := s
  cases h : St.right ⟨k1, ⟨ho, hn⟩, wh, ⟨ao, an⟩, ⟨bo, bn⟩, v⟩
  · refine (print_no k1 ho hn wh ao an bo bn v w hf h).mono ?_
    rintro e w' ⟨rfl, hg⟩
    exact ⟨ret_str (by unfold line; rw [if_neg (by rw [h]; decide)]), hg⟩
  · have hl : line ⟨k1, ⟨ho, hn⟩, wh, ⟨ao, an⟩, ⟨bo, bn⟩, v⟩ = text ⟨ho, hn⟩ ++ ⟨#[32, 60, 45, 32]⟩ ++ body ⟨k1, ⟨ho, hn⟩, wh, ⟨ao, an⟩, ⟨bo, bn⟩, v⟩ := if_pos h
    rcases right_kind h with rfl | rfl | rfl | rfl
    · exact (print_1 ho hn wh ao an bo bn v w hf h).mono fun e w' ⟨he, hg⟩ => ⟨he.trans (ret_str hl.symm), hg⟩
    · exact (print_2 ho hn wh ao an bo bn v w hf h).mono fun e w' ⟨he, hg⟩ => ⟨he.trans (ret_str hl.symm), hg⟩
    · exact (print_3 ho hn wh ao an bo bn v w hf h).mono fun e w' ⟨he, hg⟩ => ⟨he.trans (ret_str hl.symm), hg⟩
    · exact (print_4 ho hn wh ao an bo bn v w hf h).mono fun e w' ⟨he, hg⟩ => ⟨he.trans (ret_str hl.symm), hg⟩
set_option maxRecDepth 100000 in
theorem printRef_no (k : Int) (ho hn wh ao an bo bn v : ByteArray) (w : World) (hf : St.fit ⟨k, ⟨ho, hn⟩, wh, ⟨ao, an⟩, ⟨bo, bn⟩, v⟩) (h : St.right ⟨k, ⟨ho, hn⟩, wh, ⟨ao, an⟩, ⟨bo, bn⟩, v⟩ = false) : Calls Try.prog 14 #[.agg #[.int .i64 k, .string ho, .string hn, .string wh, .string ao, .string an, .string bo, .string bn, .string v]] w fun e w' => e = .returned (.string noText) ∧ Grew w w' := by
  have hR := (rightRef ⟨k, ⟨ho, hn⟩, wh, ⟨ao, an⟩, ⟨bo, bn⟩, v⟩ · hf)
  unfold St.val at hR
  rw [h] at hR
  have HR := Lib.hid hR
  clear h hR hf
  go_enter Try.func14, Try.ntmps14
  go_wp2_with fail
  refine (HR.out _).mono ?_
  rintro e w1 ⟨rfl, hg⟩
  go_wp2_with fail
  go_ret
  exact ⟨rfl, ((Grew.refl _).alloc _).trans hg⟩
set_option maxHeartbeats 1000000 in
set_option maxRecDepth 100000 in
theorem printRef_1 (ho hn wh ao an bo bn v : ByteArray) (w : World) (hf : St.fit ⟨1, ⟨ho, hn⟩, wh, ⟨ao, an⟩, ⟨bo, bn⟩, v⟩) (h : St.right ⟨1, ⟨ho, hn⟩, wh, ⟨ao, an⟩, ⟨bo, bn⟩, v⟩ = true) : Calls Try.prog 14 #[.agg #[.int .i64 1, .string ho, .string hn, .string wh, .string ao, .string an, .string bo, .string bn, .string v]] w fun e w' => e = .returned (.string ((ho ++ ⟨#[46]⟩ ++ hn ++ ⟨#[32, 60, 45, 32]⟩) ++ wh)) ∧ Grew w w' := by
  have hR := (rightRef ⟨1, ⟨ho, hn⟩, wh, ⟨ao, an⟩, ⟨bo, bn⟩, v⟩ · hf)
  unfold St.val at hR
  rw [h] at hR
  have HR := Lib.hid hR
  have hp := right_parts h
  have b0 := ok_small hp.1
  have b1 := named_small (hp.2.1 rfl)
  have HP := Lib.hid printRoleRef'
  have hm := mixed
  clear h hR hf hp
  go_enter Try.func14, Try.ntmps14
  go_wp2_with fail
  refine (HR.out _).mono ?_
  rintro e w1 ⟨rfl, hg⟩
  obtain ⟨⟨n, os⟩, rfl⟩ := hg
  have gC := grow_cell n os
  have gF := grow_frozen n os
  go_wp2_with fail
  refine (HP.out _ _ _ b0.1 b0.2).mono ?_
  rintro e w1 ⟨rfl, hg⟩
  obtain ⟨⟨n2, os2⟩, rfl⟩ := hg
  have hz := grow_size n os
  have gC2 := grow_cell n2 os2
  have gF2 := grow_frozen n2 os2
  have z1 : w.heap.size < w.heap.size + 1 + os.size := by omega
  go_wp2_with fail
  go_ret
  exact ⟨rfl, (((Grew.refl _).alloc _).trans (Grew.mk _ _ _)).trans (Grew.mk _ _ _)⟩
set_option maxHeartbeats 1000000 in
set_option maxRecDepth 100000 in
theorem printRef_2 (ho hn wh ao an bo bn v : ByteArray) (w : World) (hf : St.fit ⟨2, ⟨ho, hn⟩, wh, ⟨ao, an⟩, ⟨bo, bn⟩, v⟩) (h : St.right ⟨2, ⟨ho, hn⟩, wh, ⟨ao, an⟩, ⟨bo, bn⟩, v⟩ = true) : Calls Try.prog 14 #[.agg #[.int .i64 2, .string ho, .string hn, .string wh, .string ao, .string an, .string bo, .string bn, .string v]] w fun e w' => e = .returned (.string ((ho ++ ⟨#[46]⟩ ++ hn ++ ⟨#[32, 60, 45, 32]⟩) ++ (ao ++ ⟨#[46]⟩ ++ an))) ∧ Grew w w' := by
  have hR := (rightRef ⟨2, ⟨ho, hn⟩, wh, ⟨ao, an⟩, ⟨bo, bn⟩, v⟩ · hf)
  unfold St.val at hR
  rw [h] at hR
  have HR := Lib.hid hR
  have hp := right_parts h
  have b0 := ok_small hp.1
  have bA := ok_small (hp.2.2.1 (by decide))
  have HP := Lib.hid printRoleRef'
  have hm := mixed
  clear h hR hf hp
  go_enter Try.func14, Try.ntmps14
  go_wp2_with fail
  refine (HR.out _).mono ?_
  rintro e w1 ⟨rfl, hg⟩
  obtain ⟨⟨n, os⟩, rfl⟩ := hg
  have gC := grow_cell n os
  have gF := grow_frozen n os
  go_wp2_with fail
  refine (HP.out _ _ _ b0.1 b0.2).mono ?_
  rintro e w1 ⟨rfl, hg⟩
  obtain ⟨⟨n2, os2⟩, rfl⟩ := hg
  have hz := grow_size n os
  have gC2 := grow_cell n2 os2
  have gF2 := grow_frozen n2 os2
  have z1 : w.heap.size < w.heap.size + 1 + os.size := by omega
  go_wp2_with fail
  refine (HP.out _ _ _ bA.1 bA.2).mono ?_
  rintro e w1 ⟨rfl, hg⟩
  obtain ⟨⟨n3, os3⟩, rfl⟩ := hg
  have hz2 := grow_size n2 os2
  have gC3 := grow_cell n3 os3
  have gF3 := grow_frozen n3 os3
  have z2 : w.heap.size < w.heap.size + 1 + os.size + os2.size := by omega
  go_wp2_with fail
  go_ret
  exact ⟨rfl, ((((Grew.refl _).alloc _).trans (Grew.mk _ _ _)).trans (Grew.mk _ _ _)).trans (Grew.mk _ _ _)⟩
set_option maxHeartbeats 1000000 in
set_option maxRecDepth 100000 in
theorem printRef_3 (ho hn wh ao an bo bn v : ByteArray) (w : World) (hf : St.fit ⟨3, ⟨ho, hn⟩, wh, ⟨ao, an⟩, ⟨bo, bn⟩, v⟩) (h : St.right ⟨3, ⟨ho, hn⟩, wh, ⟨ao, an⟩, ⟨bo, bn⟩, v⟩ = true) : Calls Try.prog 14 #[.agg #[.int .i64 3, .string ho, .string hn, .string wh, .string ao, .string an, .string bo, .string bn, .string v]] w fun e w' => e = .returned (.string ((ho ++ ⟨#[46]⟩ ++ hn ++ ⟨#[32, 60, 45, 32]⟩) ++ (ao ++ ⟨#[46]⟩ ++ an ++ ⟨#[46]⟩ ++ v))) ∧ Grew w w' := by
  have hR := (rightRef ⟨3, ⟨ho, hn⟩, wh, ⟨ao, an⟩, ⟨bo, bn⟩, v⟩ · hf)
  unfold St.val at hR
  rw [h] at hR
  have HR := Lib.hid hR
  have hp := right_parts h
  have b0 := ok_small hp.1
  have bA := ok_small (hp.2.2.1 (by decide))
  have b3 := named_small (hp.2.2.2.1 rfl)
  have HP := Lib.hid printRoleRef'
  have hm := mixed
  clear h hR hf hp
  go_enter Try.func14, Try.ntmps14
  go_wp2_with fail
  refine (HR.out _).mono ?_
  rintro e w1 ⟨rfl, hg⟩
  obtain ⟨⟨n, os⟩, rfl⟩ := hg
  have gC := grow_cell n os
  have gF := grow_frozen n os
  go_wp2_with fail
  refine (HP.out _ _ _ b0.1 b0.2).mono ?_
  rintro e w1 ⟨rfl, hg⟩
  obtain ⟨⟨n2, os2⟩, rfl⟩ := hg
  have hz := grow_size n os
  have gC2 := grow_cell n2 os2
  have gF2 := grow_frozen n2 os2
  have z1 : w.heap.size < w.heap.size + 1 + os.size := by omega
  go_wp2_with fail
  refine (HP.out _ _ _ bA.1 bA.2).mono ?_
  rintro e w1 ⟨rfl, hg⟩
  obtain ⟨⟨n3, os3⟩, rfl⟩ := hg
  have hz2 := grow_size n2 os2
  have gC3 := grow_cell n3 os3
  have gF3 := grow_frozen n3 os3
  have z2 : w.heap.size < w.heap.size + 1 + os.size + os2.size := by omega
  go_wp2_with fail
  go_ret
  exact ⟨ret_str (by simp only [ByteArray.append_assoc]), ((((Grew.refl _).alloc _).trans (Grew.mk _ _ _)).trans (Grew.mk _ _ _)).trans (Grew.mk _ _ _)⟩
set_option maxHeartbeats 1000000 in
set_option maxRecDepth 100000 in
theorem printRef_4 (ho hn wh ao an bo bn v : ByteArray) (w : World) (hf : St.fit ⟨4, ⟨ho, hn⟩, wh, ⟨ao, an⟩, ⟨bo, bn⟩, v⟩) (h : St.right ⟨4, ⟨ho, hn⟩, wh, ⟨ao, an⟩, ⟨bo, bn⟩, v⟩ = true) : Calls Try.prog 14 #[.agg #[.int .i64 4, .string ho, .string hn, .string wh, .string ao, .string an, .string bo, .string bn, .string v]] w fun e w' => e = .returned (.string ((ho ++ ⟨#[46]⟩ ++ hn ++ ⟨#[32, 60, 45, 32]⟩) ++ (ao ++ ⟨#[46]⟩ ++ an ++ ⟨#[32, 38, 32]⟩ ++ (bo ++ ⟨#[46]⟩ ++ bn)))) ∧ Grew w w' := by
  have hR := (rightRef ⟨4, ⟨ho, hn⟩, wh, ⟨ao, an⟩, ⟨bo, bn⟩, v⟩ · hf)
  unfold St.val at hR
  rw [h] at hR
  have HR := Lib.hid hR
  have hp := right_parts h
  have b0 := ok_small hp.1
  have bA := ok_small (hp.2.2.1 (by decide))
  have bB := ok_small (hp.2.2.2.2 rfl)
  have HP := Lib.hid printRoleRef'
  have hm := mixed
  clear h hR hf hp
  go_enter Try.func14, Try.ntmps14
  go_wp2_with fail
  refine (HR.out _).mono ?_
  rintro e w1 ⟨rfl, hg⟩
  obtain ⟨⟨n, os⟩, rfl⟩ := hg
  have gC := grow_cell n os
  have gF := grow_frozen n os
  go_wp2_with fail
  refine (HP.out _ _ _ b0.1 b0.2).mono ?_
  rintro e w1 ⟨rfl, hg⟩
  obtain ⟨⟨n2, os2⟩, rfl⟩ := hg
  have hz := grow_size n os
  have gC2 := grow_cell n2 os2
  have gF2 := grow_frozen n2 os2
  have z1 : w.heap.size < w.heap.size + 1 + os.size := by omega
  go_wp2_with fail
  refine (HP.out _ _ _ bA.1 bA.2).mono ?_
  rintro e w1 ⟨rfl, hg⟩
  obtain ⟨⟨n3, os3⟩, rfl⟩ := hg
  have hz2 := grow_size n2 os2
  have gC3 := grow_cell n3 os3
  have gF3 := grow_frozen n3 os3
  have z2 : w.heap.size < w.heap.size + 1 + os.size + os2.size := by omega
  go_wp2_with fail
  refine (HP.out _ _ _ bB.1 bB.2).mono ?_
  rintro e w1 ⟨rfl, hg⟩
  go_wp2_with fail
  go_ret
  exact ⟨ret_str (by simp only [ByteArray.append_assoc]), (((((Grew.refl _).alloc _).trans (Grew.mk _ _ _)).trans (Grew.mk _ _ _)).trans (Grew.mk _ _ _)).trans hg⟩
theorem printRef (s : St) (w : World) (hf : s.fit) : Calls Try.prog 14 #[s.val] w fun e w' => e = .returned (.string (line s)) ∧ Grew w w' := by
  obtain ⟨k1, ⟨ho, hn⟩, wh, ⟨ao, an⟩, ⟨bo, bn⟩, v⟩ := s
  cases h : St.right ⟨k1, ⟨ho, hn⟩, wh, ⟨ao, an⟩, ⟨bo, bn⟩, v⟩
  · refine (printRef_no k1 ho hn wh ao an bo bn v w hf h).mono ?_
    rintro e w' ⟨rfl, hg⟩
    exact ⟨ret_str (by unfold line; rw [if_neg (by rw [h]; decide)]), hg⟩
  · have hl : line ⟨k1, ⟨ho, hn⟩, wh, ⟨ao, an⟩, ⟨bo, bn⟩, v⟩ = text ⟨ho, hn⟩ ++ ⟨#[32, 60, 45, 32]⟩ ++ body ⟨k1, ⟨ho, hn⟩, wh, ⟨ao, an⟩, ⟨bo, bn⟩, v⟩ := if_pos h
    rcases right_kind h with rfl | rfl | rfl | rfl
    · exact (printRef_1 ho hn wh ao an bo bn v w hf h).mono fun e w' ⟨he, hg⟩ => ⟨he.trans (ret_str hl.symm), hg⟩
    · exact (printRef_2 ho hn wh ao an bo bn v w hf h).mono fun e w' ⟨he, hg⟩ => ⟨he.trans (ret_str hl.symm), hg⟩
    · exact (printRef_3 ho hn wh ao an bo bn v w hf h).mono fun e w' ⟨he, hg⟩ => ⟨he.trans (ret_str hl.symm), hg⟩
    · exact (printRef_4 ho hn wh ao an bo bn v w hf h).mono fun e w' ⟨he, hg⟩ => ⟨he.trans (ret_str hl.symm), hg⟩
end Go.Proofs.Ytofhiolmaojihaa.SynL
