/- A statement with nothing but its own, and its normal form, in the program and in the document's answers. -/
import Derived.Test.YtnhjnimgjpgfcaaSyn4
import Derived.RegionTactic
import Derived.ChangeAlike
namespace Go.Proofs.Ytnhjnimgjpgfcaa.Syn5
open Go.RowKit Go.Sort Go.Proofs Go.Proofs.Ytnhjnimgjpgfcaa.Plain Go.Proofs.Ytnhjnimgjpgfcaa.SynP Go.Proofs.Ytnhjnimgjpgfcaa.Named Go.Proofs.Ytnhjnimgjpgfcaa.RefN Go.Proofs.Ytnhjnimgjpgfcaa.Grown Go.Proofs.Ytnhjnimgjpgfcaa.Syn1 Go.Proofs.Ytnhjnimgjpgfcaa.Syn2 Go.Proofs.Ytnhjnimgjpgfcaa.Syn3 Go.Proofs.Ytnhjnimgjpgfcaa.Syn4
set_option maxRecDepth 100000 in
theorem bare1 (ho hn wh ao an bo bn v : ByteArray) (w : World) : Calls Try.prog 59 #[.agg #[.int .i64 1, .string ho, .string hn, .string wh, .string ao, .string an, .string bo, .string bn, .string v]] w fun e w' => e = .returned (.agg #[.int .i64 1, .string ho, .string hn, .string wh, .string noText, .string noText, .string noText, .string noText, .string noText]) ∧ Grew w w' := by
  go_enter Try.func59, Try.ntmps59
  go_wp2
  exact bodyPost_ret (v := .agg #[.int .i64 1, .string ho, .string hn, .string wh, .string noText, .string noText, .string noText, .string noText, .string noText]) (by simp [results, Try.results59, go_sem, noText]) rfl ⟨rfl, ((((Grew.refl _).alloc _).alloc _).alloc _)⟩
set_option maxRecDepth 100000 in
theorem bare2 (ho hn wh ao an bo bn v : ByteArray) (w : World) : Calls Try.prog 59 #[.agg #[.int .i64 2, .string ho, .string hn, .string wh, .string ao, .string an, .string bo, .string bn, .string v]] w fun e w' => e = .returned (.agg #[.int .i64 2, .string ho, .string hn, .string noText, .string ao, .string an, .string noText, .string noText, .string noText]) ∧ Grew w w' := by
  go_enter Try.func59, Try.ntmps59
  go_wp2
  exact bodyPost_ret (v := .agg #[.int .i64 2, .string ho, .string hn, .string noText, .string ao, .string an, .string noText, .string noText, .string noText]) (by simp [results, Try.results59, go_sem, noText]) rfl ⟨rfl, ((((Grew.refl _).alloc _).alloc _).alloc _)⟩
set_option maxRecDepth 100000 in
theorem bare3 (ho hn wh ao an bo bn v : ByteArray) (w : World) : Calls Try.prog 59 #[.agg #[.int .i64 3, .string ho, .string hn, .string wh, .string ao, .string an, .string bo, .string bn, .string v]] w fun e w' => e = .returned (.agg #[.int .i64 3, .string ho, .string hn, .string noText, .string ao, .string an, .string noText, .string noText, .string v]) ∧ Grew w w' := by
  go_enter Try.func59, Try.ntmps59
  go_wp2
  go_region
  all_goals go_wp2
  exact bodyPost_ret (v := .agg #[.int .i64 3, .string ho, .string hn, .string noText, .string ao, .string an, .string noText, .string noText, .string v]) (by simp [results, Try.results59, go_sem, noText]) rfl ⟨rfl, ((((Grew.refl _).alloc _).alloc _).alloc _).drew⟩
set_option maxRecDepth 100000 in
theorem bare4 (ho hn wh ao an bo bn v : ByteArray) (w : World) : Calls Try.prog 59 #[.agg #[.int .i64 4, .string ho, .string hn, .string wh, .string ao, .string an, .string bo, .string bn, .string v]] w fun e w' => e = .returned (.agg #[.int .i64 4, .string ho, .string hn, .string noText, .string ao, .string an, .string bo, .string bn, .string noText]) ∧ Grew w w' := by
  go_enter Try.func59, Try.ntmps59
  go_wp2
  go_region
  all_goals go_wp2
  exact bodyPost_ret (v := .agg #[.int .i64 4, .string ho, .string hn, .string noText, .string ao, .string an, .string bo, .string bn, .string noText]) (by simp [results, Try.results59, go_sem, noText]) rfl ⟨rfl, ((((Grew.refl _).alloc _).alloc _).alloc _).drew⟩
set_option maxRecDepth 100000 in
theorem bare5 (k : Int) (ho hn wh ao an bo bn v : ByteArray) (w : World) (h1 : (k == 1) = false) (h2 : (k == 2) = false) (h3 : (k == 3) = false) (h4 : (k == 4) = false) : Calls Try.prog 59 #[.agg #[.int .i64 k, .string ho, .string hn, .string wh, .string ao, .string an, .string bo, .string bn, .string v]] w fun e w' => e = .returned (.agg #[.int .i64 k, .string ho, .string hn, .string noText, .string noText, .string noText, .string noText, .string noText, .string noText]) ∧ Grew w w' := by
  go_enter Try.func59, Try.ntmps59
  go_wp2
  exact bodyPost_ret (v := .agg #[.int .i64 k, .string ho, .string hn, .string noText, .string noText, .string noText, .string noText, .string noText, .string noText]) (by simp [results, Try.results59, go_sem, noText]) rfl ⟨rfl, ((((Grew.refl _).alloc _).alloc _).alloc _)⟩
theorem bare (s : St) (w : World) : Calls Try.prog 59 #[s.val] w fun e w' => e = .returned s.own.val ∧ Grew w w' := by
  obtain ⟨k1, ⟨ho, hn⟩, wh, ⟨ao, an⟩, ⟨bo, bn⟩, v⟩ := s
  rcases kinds k1 with rfl | rfl | rfl | rfl | ⟨h1, h2, h3, h4⟩
  · exact bare1 ho hn wh ao an bo bn v w
  · exact bare2 ho hn wh ao an bo bn v w
  · exact bare3 ho hn wh ao an bo bn v w
  · exact bare4 ho hn wh ao an bo bn v w
  · have : St.own ⟨k1, ⟨ho, hn⟩, wh, ⟨ao, an⟩, ⟨bo, bn⟩, v⟩ = ⟨k1, ⟨ho, hn⟩, noText, zeroR, zeroR, noText⟩ := by unfold St.own; rw [if_neg h1, if_neg h2, if_neg h3, if_neg h4]
    rw [this]
    exact bare5 k1 ho hn wh ao an bo bn v w (by simpa using h1) (by simpa using h2) (by simpa using h3) (by simpa using h4)
end Go.Proofs.Ytnhjnimgjpgfcaa.Syn5
