/- Equality of two roles, and of two statements, as the program's operators tell it. -/
import Derived.Test.YtnhjnimgjpgfcaaSyn1
namespace Go.Proofs.Ytnhjnimgjpgfcaa.SynE
open Go.RowKit Go.Sort Go.Proofs Go.Proofs.Ytnhjnimgjpgfcaa.Plain Go.Proofs.Ytnhjnimgjpgfcaa.SynP Go.Proofs.Ytnhjnimgjpgfcaa.Syn1
set_option linter.unusedSimpArgs false
theorem text_eq (a b : ByteArray) : (a.toList = b.toList) = (a = b) := by
  rw [Go.ByteArray.toList_eq, Go.ByteArray.toList_eq]; exact propext ⟨ba_ext, fun h => by rw [h]⟩
set_option maxHeartbeats 1000000 in
set_option maxRecDepth 100000 in
theorem eqS (k : Int) (ho hn wh ao an bo bn v : ByteArray) (k2 : Int) (ho2 hn2 wh2 ao2 an2 bo2 bn2 v2 : ByteArray) (w : World) :
    (binOp .eql 26 (.agg #[.int .i64 k, .string ho, .string hn, .string wh, .string ao, .string an, .string bo, .string bn, .string v]) (.agg #[.int .i64 k2, .string ho2, .string hn2, .string wh2, .string ao2, .string an2, .string bo2, .string bn2, .string v2])).run Try.prog w = .ok (.bool (decide ((⟨k, ⟨ho, hn⟩, wh, ⟨ao, an⟩, ⟨bo, bn⟩, v⟩ : St) = ⟨k2, ⟨ho2, hn2⟩, wh2, ⟨ao2, an2⟩, ⟨bo2, bn2⟩, v2⟩))) w := by
  have e := text_eq
  simp only [go_sem, St.mk.injEq, Rl.mk.injEq, same_eq]
  go_simp
  by_cases h0 : k = k2
  rotate_left
  · simp [h0]
  subst h0
  by_cases h1 : ho = ho2
  rotate_left
  · simp [h1]
  subst h1
  by_cases h2 : hn = hn2
  rotate_left
  · simp [h2]
  subst h2
  by_cases h3 : wh = wh2
  rotate_left
  · simp [h3]
  subst h3
  by_cases h4 : ao = ao2
  rotate_left
  · simp [h4]
  subst h4
  by_cases h5 : an = an2
  rotate_left
  · simp [h5]
  subst h5
  by_cases h6 : bo = bo2
  rotate_left
  · simp [h6]
  subst h6
  by_cases h7 : bn = bn2
  rotate_left
  · simp [h7]
  subst h7
  by_cases h8 : v = v2
  rotate_left
  · simp [h8]
  subst h8
  simp
set_option maxHeartbeats 1000000 in
theorem eqR (o n o2 n2 : ByteArray) (w : World) : (binOp .eql 24 (.agg #[.string o, .string n]) (.agg #[.string o2, .string n2])).run Try.prog w = .ok (.bool (decide ((⟨o, n⟩ : Rl) = ⟨o2, n2⟩))) w := by
  have e := text_eq
  simp only [go_sem, Rl.mk.injEq, same_eq]
  go_simp
  by_cases h0 : o = o2
  rotate_left
  · simp [h0]
  subst h0
  by_cases h1 : n = n2
  rotate_left
  · simp [h1]
  subst h1
  simp
set_option maxHeartbeats 1000000 in
set_option maxRecDepth 100000 in
theorem neS (k : Int) (ho hn wh ao an bo bn v : ByteArray) (k2 : Int) (ho2 hn2 wh2 ao2 an2 bo2 bn2 v2 : ByteArray) (w : World) :
    (binOp .neq 26 (.agg #[.int .i64 k, .string ho, .string hn, .string wh, .string ao, .string an, .string bo, .string bn, .string v]) (.agg #[.int .i64 k2, .string ho2, .string hn2, .string wh2, .string ao2, .string an2, .string bo2, .string bn2, .string v2])).run Try.prog w = .ok (.bool (!decide ((⟨k, ⟨ho, hn⟩, wh, ⟨ao, an⟩, ⟨bo, bn⟩, v⟩ : St) = ⟨k2, ⟨ho2, hn2⟩, wh2, ⟨ao2, an2⟩, ⟨bo2, bn2⟩, v2⟩))) w := by
  have e := text_eq
  simp only [go_sem, St.mk.injEq, Rl.mk.injEq, same_eq]
  go_simp
  by_cases h0 : k = k2
  rotate_left
  · simp [h0]
  subst h0
  by_cases h1 : ho = ho2
  rotate_left
  · simp [h1]
  subst h1
  by_cases h2 : hn = hn2
  rotate_left
  · simp [h2]
  subst h2
  by_cases h3 : wh = wh2
  rotate_left
  · simp [h3]
  subst h3
  by_cases h4 : ao = ao2
  rotate_left
  · simp [h4]
  subst h4
  by_cases h5 : an = an2
  rotate_left
  · simp [h5]
  subst h5
  by_cases h6 : bo = bo2
  rotate_left
  · simp [h6]
  subst h6
  by_cases h7 : bn = bn2
  rotate_left
  · simp [h7]
  subst h7
  by_cases h8 : v = v2
  rotate_left
  · simp [h8]
  subst h8
  simp
set_option maxHeartbeats 1000000 in
theorem neR (o n o2 n2 : ByteArray) (w : World) : (binOp .neq 24 (.agg #[.string o, .string n]) (.agg #[.string o2, .string n2])).run Try.prog w = .ok (.bool (!decide ((⟨o, n⟩ : Rl) = ⟨o2, n2⟩))) w := by
  have e := text_eq
  simp only [go_sem, Rl.mk.injEq, same_eq]
  go_simp
  by_cases h0 : o = o2
  rotate_left
  · simp [h0]
  subst h0
  by_cases h1 : n = n2
  rotate_left
  · simp [h1]
  subst h1
  simp
end Go.Proofs.Ytnhjnimgjpgfcaa.SynE
