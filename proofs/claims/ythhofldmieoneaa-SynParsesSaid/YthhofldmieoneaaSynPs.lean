/- For every line (its first 300 bytes): the program's statement of it is the document's, or the same error at the same place; the role that its tokens begin with is the program's too; and the document's example stands. No condition. -/
import Derived.Test.YthhofldmieoneaaRows
import Derived.Test.YthhofldmieoneaaSynO
import Derived.Test.YthhofldmieoneaaSynB
namespace Go.Proofs.Ythhofldmieoneaa.SynPs
open Go.RowKit Go.Sort Go.Proofs Go.Proofs.Ythhofldmieoneaa.Plain Go.Proofs.Ythhofldmieoneaa.SynP Go.Proofs.Ythhofldmieoneaa.SynQ Go.Proofs.Ythhofldmieoneaa.Grown Go.Proofs.Ythhofldmieoneaa.SynA Go.Proofs.Ythhofldmieoneaa.SynE Go.Proofs.Ythhofldmieoneaa.SynR Go.Proofs.Ythhofldmieoneaa.SynW Go.Proofs.Ythhofldmieoneaa.Scan3 Go.Proofs.Ythhofldmieoneaa.Scan4 Go.Proofs.Ythhofldmieoneaa.SynN Go.Proofs.Ythhofldmieoneaa.SynT Go.Proofs.Ythhofldmieoneaa.SynU Go.Proofs.Ythhofldmieoneaa.SynV Go.Proofs.Ythhofldmieoneaa.SynX Go.Proofs.Ythhofldmieoneaa.SynY Go.Proofs.Ythhofldmieoneaa.SynO Go.Proofs.Ythhofldmieoneaa.SynB
set_option linter.unusedVariables false
set_option linter.unusedSimpArgs false
theorem cap_kind {t : Tk} (h : goodTk t) (hn : named capB t.text.data.toList = true) : t.kind = 1 := by
  obtain ⟨c, l, e, hc, _⟩ := named_cons hn
  rcases h with ⟨h, _⟩ | ⟨_, h⟩ | ⟨_, h⟩ | ⟨_, h⟩ | ⟨_, h⟩
  · exact h
  · obtain ⟨c2, l2, e2, hc2, _⟩ := named_cons h
    rw [e] at e2
    injection e2 with e2 _
    subst e2
    rw [cap_not_small hc2] at hc; cases hc
  all_goals (rw [h] at hn; exact absurd hn (by decide))
theorem small_kind {t : Tk} (h : goodTk t) (hn : named smallB t.text.data.toList = true) : t.kind = 2 := by
  obtain ⟨c, l, e, hc, _⟩ := named_cons hn
  rcases h with ⟨_, h⟩ | ⟨h, _⟩ | ⟨_, h⟩ | ⟨_, h⟩ | ⟨_, h⟩
  rotate_left
  · exact h
  rotate_right
  · obtain ⟨c2, l2, e2, hc2, _⟩ := named_cons h
    rw [e] at e2
    injection e2 with e2 _
    subst e2
    rw [cap_not_small hc] at hc2; cases hc2
  all_goals (rw [h] at hn; exact absurd hn (by decide))
theorem toks_good (t : ByteArray) : (∀ x ∈ okToks (ansOf t), goodTk x) ∧ SmallTk (okToks (ansOf t)) ∧ (okToks (ansOf t)).length ≤ 200 := by
  cases h : ansOf t with
  | bad c e => exact ⟨fun x hx => (by cases hx), fun x hx => (by cases hx), by simp [okToks]⟩
  | ok L => exact ⟨fun x hx => (ans_good h x hx).1, fun x hx => ⟨by have := (ans_good h x hx).2.1; omega, by have := (ans_good h x hx).2.2; omega⟩, ans_len h⟩
theorem tok_cases {L : List Tk} (hg : ∀ x ∈ L, goodTk x) : (∃ a b c rest, L = a :: b :: c :: rest ∧ a.kind = 1 ∧ b.kind = 3 ∧ c.kind = 2 ∧ readR L = (⟨a.text, c.text⟩, rest, true)) ∨
    (L.length < 3 ∧ readR L = (zeroR, L, false)) ∨ (∃ a b c rest, L = a :: b :: c :: rest ∧ (a.kind == 1) = false ∧ readR L = (zeroR, L, false)) ∨
    (∃ a b c rest, L = a :: b :: c :: rest ∧ a.kind = 1 ∧ (b.kind == 3) = false ∧ readR L = (zeroR, L, false)) ∨ (∃ a b c rest, L = a :: b :: c :: rest ∧ a.kind = 1 ∧ b.kind = 3 ∧ (c.kind == 2) = false ∧ readR L = (zeroR, L, false)) := by
  match L, hg with
  | [], _ => exact .inr (.inl ⟨by simp, rfl⟩)
  | [_], _ => exact .inr (.inl ⟨by simp, rfl⟩)
  | [_, _], _ => exact .inr (.inl ⟨by simp, rfl⟩)
  | a :: b :: c :: rest, hg =>
    have ga := hg a (by simp)
    have gb := hg b (by simp)
    have gc := hg c (by simp)
    by_cases ka : a.kind = 1
    · by_cases kb : b.kind = 3
      · by_cases kc : c.kind = 2
        · exact .inl ⟨a, b, c, rest, rfl, ka, kb, kc, readR_good ga gb gc ka kb kc⟩
        · refine .inr (.inr (.inr (.inr ⟨a, b, c, rest, rfl, ka, kb, by simpa using kc, readR_no ?_⟩)))
          cases h : Rl.ok ⟨a.text, c.text⟩ with
          | false => rfl
          | true => unfold Rl.ok at h; rw [Bool.and_eq_true] at h; exact absurd (small_kind gc h.2) kc
      · refine .inr (.inr (.inr (.inl ⟨a, b, c, rest, rfl, ka, by simpa using kb, readR_ne ?_⟩)))
        intro e
        unfold kts roleTk at e
        simp at e
        exact kb e.2.1.1
    · refine .inr (.inr (.inl ⟨a, b, c, rest, rfl, by simpa using ka, readR_no ?_⟩))
      cases h : Rl.ok ⟨a.text, c.text⟩ with
      | false => rfl
      | true => unfold Rl.ok at h; rw [Bool.and_eq_true] at h; exact absurd (cap_kind ga h.1) ka
set_option maxHeartbeats 4000000 in
set_option maxRecDepth 100000 in
theorem walk (s : ByteArray) (w : World) (hs : s.size ≤ maxLen) : Calls Try.prog 5 #[.string s] w fun e w' => e = .returned (.bool true) ∧ RowKit.Below w.heap.size w w' := by
  unfold maxLen at hs
  go_enter Try.func5, Try.ntmps5
  go_wp2_with fail
  have hsz : (s.extract 0 (min (s.size : Int) 300).toNat).size ≤ 1000000 := by
    rw [ByteArray.size_extract]; omega
  generalize s.extract 0 (min (s.size : Int) 300).toNat = t at *
  obtain ⟨hgood, hsmall, hlen⟩ := toks_good t
  have hp := fun w => parse t w hsz
  have hpr := fun w => parseRef t w hsz
  have ht := fun w => tokensRef t w hsz
  unfold TokPost at ht
  generalize parseA (ansOf t) = p at *
  generalize okToks (ansOf t) = L at *
  generalize okCol (ansOf t) = col at *
  generalize okErr (ansOf t) = err at *
  obtain ⟨⟨k1, ⟨ho, hn⟩, wh, ⟨ao, an⟩, ⟨bo, bn⟩, v⟩, pi, pe⟩ := p
  unfold ParsePost St.val at hp hpr
  have HP := Lib.hid hp
  have HPR := Lib.hid hpr
  have HT := Lib.hid ht
  have Hs := Lib.hid hsmall
  have hcase := tok_cases hgood
  have hq := fun w => eqS k1 ho hn wh ao an bo bn v k1 ho hn wh ao an bo bn v w
  rw [decide_eq_true rfl] at hq
  clear hp hpr ht hgood hsmall
  refine (HP.out _).mono ?_
  rintro e w1 ⟨rfl, hb1⟩
  have hX1 := Box.new w1 #[.int .i64 k1, .string ho, .string hn, .string wh, .string ao, .string an, .string bo, .string bn, .string v] 25
  have hbw1 := hb1.alloc hb1.size (.cells #[.int .i64 k1, .string ho, .string hn, .string wh, .string ao, .string an, .string bo, .string bn, .string v] 25)
  clear hb1
  go_wp2_with fail
  refine (HPR.out _).mono ?_
  rintro e w2 ⟨rfl, hb2⟩
  have hX2 := (hX1.below hb2).alloc (.cells #[.int .i64 k1, .string ho, .string hn, .string wh, .string ao, .string an, .string bo, .string bn, .string v] 25)
  have hY2 := Box.new w2 #[.int .i64 k1, .string ho, .string hn, .string wh, .string ao, .string an, .string bo, .string bn, .string v] 25
  have hbw2' := hbw1.trans (hb2.mono hbw1.size)
  have hbw2 := hbw2'.alloc hbw2'.size (.cells #[.int .i64 k1, .string ho, .string hn, .string wh, .string ao, .string an, .string bo, .string bn, .string v] 25)
  clear hX1 hbw1 hb2 hbw2'
  go_wp2_with fail
  refine (HT.out _).mono ?_
  rintro e w3 ⟨vv, rfl, hown, hb3⟩
  obtain ⟨A, ca, rfl, hca, hA⟩ := of_rowTk hown
  have hX3 := hX2.below hb3
  have hY3 := hY2.below hb3
  have hbw3 := hbw2.trans (hb3.mono hbw2.size)
  clear hX2 hY2 hbw2 hb3 hown
  have hrr := readRole A ca L w3 (by omega) hca Hs.out hA
  unfold ReadPost at hrr
  have hnn : ∃ n, n = L.length := ⟨_, rfl⟩
  obtain ⟨n, hnn⟩ := hnn
  rw [← hnn] at hrr hca hlen
  simp only [← hnn]
  rcases hcase with ⟨a, b, c, rest, rfl, ka, kb, kc, hr⟩ | ⟨hl3, hr⟩ | ⟨a, b, c, rest, rfl, ka, hr⟩ | ⟨a, b, c, rest, rfl, ka, kb, hr⟩ | ⟨a, b, c, rest, rfl, ka, kb, kc, hr⟩
  · rw [hr] at hrr
    simp only [Rl.val, zeroR, noText] at hrr
    have HRR := Lib.hid hrr
    have HN := Lib.hid hnn
    clear hrr hr
    obtain ⟨g, o, rfl, hg, hc⟩ := hA (by simp)
    obtain ⟨x0, y0, _⟩ := hc 0 (by simp)
    obtain ⟨x1, _, _⟩ := hc 1 (by simp)
    obtain ⟨x2, y2, _⟩ := hc 2 (by simp)
    simp only [Nat.zero_mul, Nat.add_zero, Nat.one_mul, List.getElem_cons_zero, List.getElem_cons_succ] at x0 y0 x1 x2 y2
    have hn3 : n = rest.length + 3 := by rw [hnn]; simp
    have n1 : (0 : Int) < n := by omega
    have n2 : (1 : Int) < n := by omega
    have n3 : (2 : Int) < n := by omega
    have n4 : decide ((2 : Int) < n) = true := decide_eq_true n3
    clear hc hnn
    have n5 : ((rest.length : Int) != (n : Int) - 3) = false := by simp; omega
    rw [ka] at x0
    rw [kb] at x1
    rw [kc] at x2
    have HN3 := Lib.hid hn3
    clear hn3
    go_wp2_with fail
    refine HRR.out.mono ?_
    rintro e w4 ⟨v4, rfl, hown4, hb4⟩
    obtain ⟨A4, ca4, rfl, hca4, hA4⟩ := of_rowTk (L := rest) hown4
    have hX4 := hX3.below hb4
    have hY4 := hY3.below hb4
    have hbw4 := hbw3.trans (hb4.mono hbw3.size)
    have u0 := (hb4.cell (p := ⟨g, o, none⟩) hg).trans x0
    have u0' := (hb4.cell (p := ⟨g, o + 1, none⟩) hg).trans y0
    have u1 := (hb4.cell (p := ⟨g, o + 3, none⟩) hg).trans x1
    have u2 := (hb4.cell (p := ⟨g, o + 6, none⟩) hg).trans x2
    have u2' := (hb4.cell (p := ⟨g, o + 6 + 1, none⟩) hg).trans y2
    have hg4 : g < w4.heap.size := Nat.lt_of_lt_of_le hg hb4.size
    clear x0 y0 x1 x2 y2 hg
    clear hX3 hY3 hbw3 hb4 hown4 hA4 hca4 HRR
    obtain ⟨lx, fx⟩ := hX4
    obtain ⟨ly, fy⟩ := hY4
    have hbw5 := hbw4.alloc hbw4.size (.cells #[.string a.text, .string c.text] 23)
    go_wp2_with fail
    go_quiet (fail)
    go_wp2_with fail
    refine (lives _).mono ?_
    rintro e wz ⟨rfl, hbz⟩
    go_wp2_with fail
    go_ret
    exact ⟨rfl, (below_drewN hbw5 _).trans (hbz.mono (by have := hbw5.size; simpa using this))⟩
  · rw [hr] at hrr
    simp only [Rl.val, zeroR, noText] at hrr
    have HRR := Lib.hid hrr
    have HN := Lib.hid hnn
    clear hrr hr
    have n4 : decide ((2 : Int) < n) = false := decide_eq_false (by omega)
    clear hl3 hnn hA
    go_wp2_with fail
    refine HRR.out.mono ?_
    rintro e w4 ⟨v4, rfl, hown4, hb4⟩
    obtain ⟨A4, ca4, rfl, hca4, hA4⟩ := of_rowTk (L := L) hown4
    have hX4 := hX3.below hb4
    have hY4 := hY3.below hb4
    have hbw4 := hbw3.trans (hb4.mono hbw3.size)
    clear hX3 hY3 hbw3 hb4 hown4 hA4 hca4 HRR
    obtain ⟨lx, fx⟩ := hX4
    obtain ⟨ly, fy⟩ := hY4
    rw [← HN.out]
    have hqr := fun w => neR ⟨#[]⟩ ⟨#[]⟩ ⟨#[]⟩ ⟨#[]⟩ w
    rw [decide_eq_true rfl] at hqr
    have hbw5 := hbw4.alloc hbw4.size (.cells #[.string ⟨#[]⟩, .string ⟨#[]⟩] 23)
    go_wp2_with fail
    go_quiet (fail)
    go_wp2_with fail
    refine (lives _).mono ?_
    rintro e wz ⟨rfl, hbz⟩
    go_wp2_with fail
    go_ret
    exact ⟨rfl, (below_drewN hbw5 _).trans (hbz.mono (by have := hbw5.size; simpa using this))⟩
  · rw [hr] at hrr
    simp only [Rl.val, zeroR, noText] at hrr
    have HRR := Lib.hid hrr
    have HN := Lib.hid hnn
    clear hrr hr
    obtain ⟨g, o, rfl, hg, hc⟩ := hA (by simp)
    obtain ⟨x0, y0, _⟩ := hc 0 (by simp)
    obtain ⟨x1, _, _⟩ := hc 1 (by simp)
    obtain ⟨x2, y2, _⟩ := hc 2 (by simp)
    simp only [Nat.zero_mul, Nat.add_zero, Nat.one_mul, List.getElem_cons_zero, List.getElem_cons_succ] at x0 y0 x1 x2 y2
    have hn3 : n = rest.length + 3 := by rw [hnn]; simp
    have n1 : (0 : Int) < n := by omega
    have n2 : (1 : Int) < n := by omega
    have n3 : (2 : Int) < n := by omega
    have n4 : decide ((2 : Int) < n) = true := decide_eq_true n3
    clear hc hnn
    have HN3 := Lib.hid hn3
    clear hn3
    go_wp2_with fail
    refine HRR.out.mono ?_
    rintro e w4 ⟨v4, rfl, hown4, hb4⟩
    obtain ⟨A4, ca4, rfl, hca4, hA4⟩ := of_rowTk (L := (a :: b :: c :: rest)) hown4
    have hX4 := hX3.below hb4
    have hY4 := hY3.below hb4
    have hbw4 := hbw3.trans (hb4.mono hbw3.size)
    have u0 := (hb4.cell (p := ⟨g, o, none⟩) hg).trans x0
    have u0' := (hb4.cell (p := ⟨g, o + 1, none⟩) hg).trans y0
    have u1 := (hb4.cell (p := ⟨g, o + 3, none⟩) hg).trans x1
    have u2 := (hb4.cell (p := ⟨g, o + 6, none⟩) hg).trans x2
    have u2' := (hb4.cell (p := ⟨g, o + 6 + 1, none⟩) hg).trans y2
    have hg4 : g < w4.heap.size := Nat.lt_of_lt_of_le hg hb4.size
    clear x0 y0 x1 x2 y2 hg
    clear hX3 hY3 hbw3 hb4 hown4 hA4 hca4 HRR
    obtain ⟨lx, fx⟩ := hX4
    obtain ⟨ly, fy⟩ := hY4
    rw [← HN.out]
    have hqr := fun w => neR ⟨#[]⟩ ⟨#[]⟩ ⟨#[]⟩ ⟨#[]⟩ w
    rw [decide_eq_true rfl] at hqr
    have hbw5 := hbw4.alloc hbw4.size (.cells #[.string ⟨#[]⟩, .string ⟨#[]⟩] 23)
    go_wp2_with fail
    go_quiet (fail)
    go_wp2_with fail
    refine (lives _).mono ?_
    rintro e wz ⟨rfl, hbz⟩
    go_wp2_with fail
    go_ret
    exact ⟨rfl, (below_drewN hbw5 _).trans (hbz.mono (by have := hbw5.size; simpa using this))⟩
  · rw [hr] at hrr
    simp only [Rl.val, zeroR, noText] at hrr
    have HRR := Lib.hid hrr
    have HN := Lib.hid hnn
    clear hrr hr
    obtain ⟨g, o, rfl, hg, hc⟩ := hA (by simp)
    obtain ⟨x0, y0, _⟩ := hc 0 (by simp)
    obtain ⟨x1, _, _⟩ := hc 1 (by simp)
    obtain ⟨x2, y2, _⟩ := hc 2 (by simp)
    simp only [Nat.zero_mul, Nat.add_zero, Nat.one_mul, List.getElem_cons_zero, List.getElem_cons_succ] at x0 y0 x1 x2 y2
    have hn3 : n = rest.length + 3 := by rw [hnn]; simp
    have n1 : (0 : Int) < n := by omega
    have n2 : (1 : Int) < n := by omega
    have n3 : (2 : Int) < n := by omega
    have n4 : decide ((2 : Int) < n) = true := decide_eq_true n3
    clear hc hnn
    rw [ka] at x0
    have HN3 := Lib.hid hn3
    clear hn3
    go_wp2_with fail
    refine HRR.out.mono ?_
    rintro e w4 ⟨v4, rfl, hown4, hb4⟩
    obtain ⟨A4, ca4, rfl, hca4, hA4⟩ := of_rowTk (L := (a :: b :: c :: rest)) hown4
    have hX4 := hX3.below hb4
    have hY4 := hY3.below hb4
    have hbw4 := hbw3.trans (hb4.mono hbw3.size)
    have u0 := (hb4.cell (p := ⟨g, o, none⟩) hg).trans x0
    have u0' := (hb4.cell (p := ⟨g, o + 1, none⟩) hg).trans y0
    have u1 := (hb4.cell (p := ⟨g, o + 3, none⟩) hg).trans x1
    have u2 := (hb4.cell (p := ⟨g, o + 6, none⟩) hg).trans x2
    have u2' := (hb4.cell (p := ⟨g, o + 6 + 1, none⟩) hg).trans y2
    have hg4 : g < w4.heap.size := Nat.lt_of_lt_of_le hg hb4.size
    clear x0 y0 x1 x2 y2 hg
    clear hX3 hY3 hbw3 hb4 hown4 hA4 hca4 HRR
    obtain ⟨lx, fx⟩ := hX4
    obtain ⟨ly, fy⟩ := hY4
    rw [← HN.out]
    have hqr := fun w => neR ⟨#[]⟩ ⟨#[]⟩ ⟨#[]⟩ ⟨#[]⟩ w
    rw [decide_eq_true rfl] at hqr
    have hbw5 := hbw4.alloc hbw4.size (.cells #[.string ⟨#[]⟩, .string ⟨#[]⟩] 23)
    go_wp2_with fail
    go_quiet (fail)
    go_wp2_with fail
    refine (lives _).mono ?_
    rintro e wz ⟨rfl, hbz⟩
    go_wp2_with fail
    go_ret
    exact ⟨rfl, (below_drewN hbw5 _).trans (hbz.mono (by have := hbw5.size; simpa using this))⟩
  · rw [hr] at hrr
    simp only [Rl.val, zeroR, noText] at hrr
    have HRR := Lib.hid hrr
    have HN := Lib.hid hnn
    clear hrr hr
    obtain ⟨g, o, rfl, hg, hc⟩ := hA (by simp)
    obtain ⟨x0, y0, _⟩ := hc 0 (by simp)
    obtain ⟨x1, _, _⟩ := hc 1 (by simp)
    obtain ⟨x2, y2, _⟩ := hc 2 (by simp)
    simp only [Nat.zero_mul, Nat.add_zero, Nat.one_mul, List.getElem_cons_zero, List.getElem_cons_succ] at x0 y0 x1 x2 y2
    have hn3 : n = rest.length + 3 := by rw [hnn]; simp
    have n1 : (0 : Int) < n := by omega
    have n2 : (1 : Int) < n := by omega
    have n3 : (2 : Int) < n := by omega
    have n4 : decide ((2 : Int) < n) = true := decide_eq_true n3
    clear hc hnn
    rw [ka] at x0
    rw [kb] at x1
    have HN3 := Lib.hid hn3
    clear hn3
    go_wp2_with fail
    refine HRR.out.mono ?_
    rintro e w4 ⟨v4, rfl, hown4, hb4⟩
    obtain ⟨A4, ca4, rfl, hca4, hA4⟩ := of_rowTk (L := (a :: b :: c :: rest)) hown4
    have hX4 := hX3.below hb4
    have hY4 := hY3.below hb4
    have hbw4 := hbw3.trans (hb4.mono hbw3.size)
    have u0 := (hb4.cell (p := ⟨g, o, none⟩) hg).trans x0
    have u0' := (hb4.cell (p := ⟨g, o + 1, none⟩) hg).trans y0
    have u1 := (hb4.cell (p := ⟨g, o + 3, none⟩) hg).trans x1
    have u2 := (hb4.cell (p := ⟨g, o + 6, none⟩) hg).trans x2
    have u2' := (hb4.cell (p := ⟨g, o + 6 + 1, none⟩) hg).trans y2
    have hg4 : g < w4.heap.size := Nat.lt_of_lt_of_le hg hb4.size
    clear x0 y0 x1 x2 y2 hg
    clear hX3 hY3 hbw3 hb4 hown4 hA4 hca4 HRR
    obtain ⟨lx, fx⟩ := hX4
    obtain ⟨ly, fy⟩ := hY4
    rw [← HN.out]
    have hqr := fun w => neR ⟨#[]⟩ ⟨#[]⟩ ⟨#[]⟩ ⟨#[]⟩ w
    rw [decide_eq_true rfl] at hqr
    have hbw5 := hbw4.alloc hbw4.size (.cells #[.string ⟨#[]⟩, .string ⟨#[]⟩] 23)
    go_wp2_with fail
    go_quiet (fail)
    go_wp2_with fail
    refine (lives _).mono ?_
    rintro e wz ⟨rfl, hbz⟩
    go_wp2_with fail
    go_ret
    exact ⟨rfl, (below_drewN hbw5 _).trans (hbz.mono (by have := hbw5.size; simpa using this))⟩
end Go.Proofs.Ythhofldmieoneaa.SynPs
