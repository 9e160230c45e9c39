/- The normal form of a statement, in the program and in the document's answers. -/
import Derived.Test.YtnhjnimgjpgfcaaSyn5
import Derived.Test.YtnhjnimgjpgfcaaGrown2
namespace Go.Proofs.Ytnhjnimgjpgfcaa.Syn6
open Go.RowKit Go.Sort Go.Proofs Go.Proofs.Ytnhjnimgjpgfcaa.Plain Go.Proofs.Ytnhjnimgjpgfcaa.SynP Go.Proofs.Ytnhjnimgjpgfcaa.Named Go.Proofs.Ytnhjnimgjpgfcaa.RefN Go.Proofs.Ytnhjnimgjpgfcaa.Grown Go.Proofs.Ytnhjnimgjpgfcaa.Syn1 Go.Proofs.Ytnhjnimgjpgfcaa.Syn2 Go.Proofs.Ytnhjnimgjpgfcaa.Syn3 Go.Proofs.Ytnhjnimgjpgfcaa.Syn4
set_option linter.unusedSimpArgs false
set_option linter.unusedVariables false
set_option maxRecDepth 100000 in
theorem normal_true (ho hn wh ao an bo bn v : ByteArray) (w : World) (h : decide (cmpR ⟨bo, bn⟩ ⟨ao, an⟩ < 0) = true) : Calls Try.prog 50 #[.agg #[.int .i64 4, .string ho, .string hn, .string wh, .string ao, .string an, .string bo, .string bn, .string v]] w fun e w' => e = .returned (.agg #[.int .i64 4, .string ho, .string hn, .string wh, .string bo, .string bn, .string ao, .string an, .string v]) ∧ Grew w w' := by
  have HL := Lib.hid (less' bo bn ao an)
  rw [h] at HL
  clear h
  go_enter Try.func50, Try.ntmps50
  go_wp2_with fail
  refine (HL.out _).mono ?_
  rintro e w1 ⟨rfl, hg⟩
  obtain ⟨⟨n, os⟩, rfl⟩ := hg
  have gS := grow_set n os
  have gC := grow_cell n os
  have gF := grow_frozen n os
  have gZ := grow_size n os
  have z1 : w.heap.size < w.heap.size + 1 + 1 + os.size := by omega
  have z2 : w.heap.size + 1 < w.heap.size + 1 + 1 + os.size := by omega
  go_wp2_with fail
  refine bodyPost_ret (v := .agg #[.int .i64 4, .string ho, .string hn, .string wh, .string bo, .string bn, .string ao, .string an, .string v]) (by simp [results, Try.results50, go_sem, gS, gC, gF, gZ, z1, z2]) rfl ⟨rfl, ?_⟩
  exact (((Grew.refl _).alloc _).alloc _).trans (Grew.mk _ n os)
set_option maxRecDepth 100000 in
theorem normal_false (ho hn wh ao an bo bn v : ByteArray) (w : World) (h : decide (cmpR ⟨bo, bn⟩ ⟨ao, an⟩ < 0) = false) : Calls Try.prog 50 #[.agg #[.int .i64 4, .string ho, .string hn, .string wh, .string ao, .string an, .string bo, .string bn, .string v]] w fun e w' => e = .returned (.agg #[.int .i64 4, .string ho, .string hn, .string wh, .string ao, .string an, .string bo, .string bn, .string v]) ∧ Grew w w' := by
  have HL := Lib.hid (less' bo bn ao an)
  rw [h] at HL
  clear h
  go_enter Try.func50, Try.ntmps50
  go_wp2_with fail
  refine (HL.out _).mono ?_
  rintro e w1 ⟨rfl, hg⟩
  obtain ⟨⟨n, os⟩, rfl⟩ := hg
  have gS := grow_set n os
  have gC := grow_cell n os
  have gF := grow_frozen n os
  have gZ := grow_size n os
  have z1 : w.heap.size < w.heap.size + 1 + 1 + os.size := by omega
  have z2 : w.heap.size + 1 < w.heap.size + 1 + 1 + os.size := by omega
  go_wp2_with fail
  refine bodyPost_ret (v := .agg #[.int .i64 4, .string ho, .string hn, .string wh, .string ao, .string an, .string bo, .string bn, .string v]) (by simp [results, Try.results50, go_sem, gS, gC, gF, gZ, z1, z2]) rfl ⟨rfl, ?_⟩
  exact (((Grew.refl _).alloc _).alloc _).trans (Grew.mk _ n os)
set_option maxRecDepth 100000 in
theorem normal_other (k : Int) (ho hn wh ao an bo bn v : ByteArray) (w : World) (h : (k == 4) = false) : Calls Try.prog 50 #[.agg #[.int .i64 k, .string ho, .string hn, .string wh, .string ao, .string an, .string bo, .string bn, .string v]] w fun e w' => e = .returned (.agg #[.int .i64 k, .string ho, .string hn, .string wh, .string ao, .string an, .string bo, .string bn, .string v]) ∧ Grew w w' := by
  go_enter Try.func50, Try.ntmps50
  go_wp2_with fail
  exact bodyPost_ret (v := .agg #[.int .i64 k, .string ho, .string hn, .string wh, .string ao, .string an, .string bo, .string bn, .string v]) (by simp [results, Try.results50, go_sem]) rfl ⟨rfl, ((Grew.refl _).alloc _).alloc _⟩
theorem normal (s : St) (w : World) : Calls Try.prog 50 #[s.val] w fun e w' => e = .returned s.normal.val ∧ Grew w w' := by
  obtain ⟨k1, ⟨ho, hn⟩, wh, ⟨ao, an⟩, ⟨bo, bn⟩, v⟩ := s
  by_cases hk : k1 = 4
  · subst hk
    by_cases hc : cmpR ⟨bo, bn⟩ ⟨ao, an⟩ < 0
    · have : St.normal ⟨4, ⟨ho, hn⟩, wh, ⟨ao, an⟩, ⟨bo, bn⟩, v⟩ = ⟨4, ⟨ho, hn⟩, wh, ⟨bo, bn⟩, ⟨ao, an⟩, v⟩ := if_pos ⟨rfl, hc⟩
      rw [this]
      exact normal_true ho hn wh ao an bo bn v w (decide_eq_true hc)
    · have : St.normal ⟨4, ⟨ho, hn⟩, wh, ⟨ao, an⟩, ⟨bo, bn⟩, v⟩ = ⟨4, ⟨ho, hn⟩, wh, ⟨ao, an⟩, ⟨bo, bn⟩, v⟩ := if_neg (fun e => hc e.2)
      rw [this]
      exact normal_false ho hn wh ao an bo bn v w (decide_eq_false hc)
  · have : St.normal ⟨k1, ⟨ho, hn⟩, wh, ⟨ao, an⟩, ⟨bo, bn⟩, v⟩ = ⟨k1, ⟨ho, hn⟩, wh, ⟨ao, an⟩, ⟨bo, bn⟩, v⟩ := if_neg (fun e => hk e.1)
    rw [this]
    exact normal_other k1 ho hn wh ao an bo bn v w (by simpa using hk)
end Go.Proofs.Ytnhjnimgjpgfcaa.Syn6
