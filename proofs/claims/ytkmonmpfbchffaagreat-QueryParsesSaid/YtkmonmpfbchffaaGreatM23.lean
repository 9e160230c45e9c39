/- For every line (its first 300 bytes): the program's query of it is the document's, or the same error at the same place: the walk, given the document's Parse. -/
import Derived.Test.YtkmonmpfbchffaaGreatM22
namespace Go.Proofs.YtkmonmpfbchffaaGreat.QryPl
set_option linter.unusedVariables false
set_option linter.unusedSimpArgs false
open Go.RowKit Go.Sort Go.Proofs Go.Proofs.YtkmonmpfbchffaaGreat.Plain Go.Proofs.YtkmonmpfbchffaaGreat.SynP Go.Proofs.YtkmonmpfbchffaaGreat.SynQ Go.Proofs.YtkmonmpfbchffaaGreat.TabP Go.Proofs.YtkmonmpfbchffaaGreat.Tab1 Go.Proofs.YtkmonmpfbchffaaGreat.Grown Go.Proofs.YtkmonmpfbchffaaGreat.SynA Go.Proofs.YtkmonmpfbchffaaGreat.SynR Go.Proofs.YtkmonmpfbchffaaGreat.Scan2 Go.Proofs.YtkmonmpfbchffaaGreat.Scan3 Go.Proofs.YtkmonmpfbchffaaGreat.Scan4 Go.Proofs.YtkmonmpfbchffaaGreat.SynU Go.Proofs.YtkmonmpfbchffaaGreat.SynV Go.Proofs.YtkmonmpfbchffaaGreat.SynX Go.Proofs.YtkmonmpfbchffaaGreat.SynE Go.Proofs.YtkmonmpfbchffaaGreat.QryP Go.Proofs.YtkmonmpfbchffaaGreat.QryB Go.Proofs.YtkmonmpfbchffaaGreat.QryC Go.Proofs.YtkmonmpfbchffaaGreat.QryE Go.Proofs.YtkmonmpfbchffaaGreat.QryL Go.Proofs.YtkmonmpfbchffaaGreat.QryH Go.Proofs.YtkmonmpfbchffaaGreat.QryO Go.Proofs.YtkmonmpfbchffaaGreat.QryS Go.Proofs.YtkmonmpfbchffaaGreat.QryX
open Go.Proofs.YtkmonmpfbchffaaGreat.QryU (parse_cases AskOpen ask_open)
set_option linter.unusedVariables false
set_option linter.unusedSimpArgs false
theorem eqL (x : ByteArray) (l : List UInt8) (h : (⟨l.toArray⟩ : ByteArray).toList = l) : (x.toList == l) = decide (x = ⟨l.toArray⟩) := by
  rw [Bool.eq_iff_iff, beq_iff_eq, decide_eq_true_eq]
  constructor
  · intro e
    exact (text_eq x _).mp (e.trans h.symm)
  · rintro rfl
    exact h
theorem alwL : (⟨[97, 108, 119, 97, 121, 115].toArray⟩ : ByteArray).toList = [97, 108, 119, 97, 121, 115] := by
  first | rfl | decide | decide +kernel | simp
theorem canL : (⟨[99, 97, 110].toArray⟩ : ByteArray).toList = [99, 97, 110] := by
  first | rfl | decide | decide +kernel | simp
/-- How a line may begin. -/
theorem begins (t : ByteArray) : ((okErr (ansOf t) == 0) = false ∧ isL (okToks (ansOf t)) = false) ∨ (okErr (ansOf t) = 0 ∧ okToks (ansOf t) = [] ∧ isL (okToks (ansOf t)) = false) ∨ (okErr (ansOf t) = 0 ∧ ∃ x M, okToks (ansOf t) = x :: M ∧ isL (okToks (ansOf t)) = (decide (x.text = ⟨#[97, 108, 119, 97, 121, 115]⟩) || decide (x.text = ⟨#[99, 97, 110]⟩))) := by
  cases h : ansOf t with
  | bad c e => exact .inl ⟨by rcases ans_bad h with rfl | rfl <;> rfl, rfl⟩
  | ok L =>
    cases L with
    | nil => exact .inr (.inl ⟨rfl, rfl, rfl⟩)
    | cons x M => exact .inr (.inr ⟨rfl, x, M, rfl, isL_cons (ans_good h x (by simp)).1⟩)
theorem who_len (t : ByteArray) : (askA (ansOf t)).1.who.length ≤ 1000000 := by
  rcases parse_cases t with ⟨c, e, h, _⟩ | ⟨x, h, hr⟩
  · rw [h]; exact Nat.zero_le _
  · rw [h]
    show x.who.length ≤ 1000000
    rcases (right_parts hr).2 with ⟨_, _, hw, _, _⟩ | ⟨_, hw, _⟩ | ⟨_, _, hw, _⟩
    · have := (who_parts hw).1; omega
    · rw [hw]; exact Nat.zero_le _
    · rw [hw]; exact Nat.zero_le _
set_option maxHeartbeats 4000000 in
set_option maxRecDepth 100000 in
theorem walk (href : ∀ (t : ByteArray) (w : World), t.size ≤ 1000000 → Calls Tryz.prog 10 #[.string t] w (AskPost (askA (ansOf t)) w)) (s : ByteArray) (w : World) (hs : s.size ≤ maxLen) : Calls Tryz.prog 3 #[.string s] w fun e w' => e = .returned (.bool true) ∧ RowKit.Below w.heap.size w w' := by
  unfold maxLen at hs
  have HREF := Lib.hid href
  clear href
  go_enter Tryz.func3, Tryz.ntmps3
  go_wp2_with fail
  have hsz : (s.extract 0 (min (s.size : Int) 300).toNat).size ≤ 1000000 := by
    rw [ByteArray.size_extract]; omega
  generalize s.extract 0 (min (s.size : Int) 300).toNat = t at *
  have hp := fun w => parse t w hsz
  have hr := fun w => HREF.out t w hsz
  have ht := fun w => tokensRef t w hsz
  have hi := fun w => isQ t w hsz
  unfold TokPost at ht
  have hlen := who_len t
  have hbeg := begins t
  generalize askA (ansOf t) = p at *
  generalize okToks (ansOf t) = L at *
  generalize okCol (ansOf t) = col at *
  generalize okErr (ansOf t) = err at *
  obtain ⟨⟨k, ⟨ao, an⟩, ⟨bo, bn⟩, T⟩, pi, pe⟩ := p
  simp only at hlen
  have HP : Hid (∀ w, Calls Tryz.prog 9 #[.string t] w (AskOpen k ao an bo bn T pi pe w)) := Lib.hid (fun w => (hp w).mono (fun e w' h => ask_open h))
  have HR : Hid (∀ w, Calls Tryz.prog 10 #[.string t] w (AskOpen k ao an bo bn T pi pe w)) := Lib.hid (fun w => (hr w).mono (fun e w' h => ask_open h))
  have HT := Lib.hid ht
  have HI := Lib.hid hi
  have HBG := Lib.hid hbeg
  have HLEN := Lib.hid hlen
  clear hp hr ht hi hbeg hlen
  refine (HP.out _).mono ?_
  rintro e w1 ⟨Ax, cx, rfl, hrx, hb1⟩
  have b1 := (Below.refl w1.heap.size w1).alloc (Nat.le_refl _) (.cells #[.int .i64 k, .string ao, .string an, .string bo, .string bn, .slice Ax T.length cx] 26)
  have HX1 := Lib.hid (hrx.keep b1)
  have HB1 := Lib.hid (hb1.alloc hb1.size (.cells #[.int .i64 k, .string ao, .string an, .string bo, .string bn, .slice Ax T.length cx] 26))
  have HC1 := Lib.hid (fun o => Lib.cell_of_heap (heap_alloc_new w1 (.cells #[.int .i64 k, .string ao, .string an, .string bo, .string bn, .slice Ax T.length cx] 26)) o)
  clear hrx hb1 b1
  go_wp2_with fail
  refine (HR.out _).mono ?_
  rintro e w2 ⟨Ay, cy, rfl, hry, hb2⟩
  have z2 := hb2.size
  simp only [World.size_alloc] at z2
  have HX2 := Lib.hid ((HX1.out.keep hb2).keep ((Below.refl w2.heap.size w2).alloc (Nat.le_refl _) (.cells #[.int .i64 k, .string ao, .string an, .string bo, .string bn, .slice Ay T.length cy] 26)))
  have HY2 := Lib.hid (hry.keep ((Below.refl w2.heap.size w2).alloc (Nat.le_refl _) (.cells #[.int .i64 k, .string ao, .string an, .string bo, .string bn, .slice Ay T.length cy] 26)))
  have HB2 := Lib.hid ((HB1.out.trans (hb2.mono HB1.out.size)).alloc (HB1.out.trans (hb2.mono HB1.out.size)).size (.cells #[.int .i64 k, .string ao, .string an, .string bo, .string bn, .slice Ay T.length cy] 26))
  have HC2 := Lib.hid (fun o => (((Below.refl w2.heap.size w2).alloc (Nat.le_refl _) (.cells #[.int .i64 k, .string ao, .string an, .string bo, .string bn, .slice Ay T.length cy] 26)).cell (p := ⟨w1.heap.size, o, none⟩) (by show w1.heap.size < _; omega)).trans ((hb2.cell (p := ⟨w1.heap.size, o, none⟩) (by simp)).trans (HC1.out o)))
  have HD2 := Lib.hid (fun o => Lib.cell_of_heap (heap_alloc_new w2 (.cells #[.int .i64 k, .string ao, .string an, .string bo, .string bn, .slice Ay T.length cy] 26)) o)
  clear hry hb2 HX1 HB1 HC1
  go_wp2_with fail
  refine (HT.out _).mono ?_
  rintro e w3 ⟨vv, rfl, hown, hb3⟩
  obtain ⟨A, ca, rfl, hca, hA⟩ := of_rowTk hown
  have z3 := hb3.size
  simp only [World.size_alloc] at z3
  have HX3 := Lib.hid (HX2.out.keep hb3)
  have HY3 := Lib.hid (HY2.out.keep hb3)
  have BW := Lib.hid (HB2.out.trans (hb3.mono HB2.out.size))
  have hc3 := fun o => (hb3.cell (p := ⟨w1.heap.size, o, none⟩) (by simp; omega)).trans (HC2.out o)
  have hd3 := fun o => (hb3.cell (p := ⟨w2.heap.size, o, none⟩) (by simp)).trans (HD2.out o)
  have HS : Hid (Calls Tryz.prog 12 #[.agg #[.int .i64 k, .string ao, .string an, .string bo, .string bn, .slice Ax T.length cx], .agg #[.int .i64 k, .string ao, .string an, .string bo, .string bn, .slice Ay T.length cy]] w3 fun e w' => e = .returned (.bool true) ∧ RowKit.Below w3.heap.size w3 w') := Lib.hid ((sameRefQ ⟨k, ⟨ao, an⟩, ⟨bo, bn⟩, T⟩ ⟨k, ⟨ao, an⟩, ⟨bo, bn⟩, T⟩ Ax Ay cx cy w3 HLEN.out HLEN.out HX3.out HY3.out).mono (fun e w' h => ⟨by rw [h.1, sameB_eq.2 rfl], h.2⟩))
  have hg3 : w1.heap.size < w3.heap.size := by omega
  have hg4 : w2.heap.size < w3.heap.size := by omega
  clear hb3 hown z2 HX2 HY2 HB2 HC2 HD2 HX3 HY3 HLEN HP HR HT
  have hA3 := hA
  clear hA
  rcases HBG.out with ⟨he, hi⟩ | ⟨rfl, rfl, hi⟩ | ⟨rfl, x, M, rfl, hi⟩
  · rw [hi] at HI
    clear hi HBG
    go_wp2_with fail
    refine HS.out.mono ?_
    rintro e v1 ⟨rfl, hg1⟩
    have HB4 := Lib.hid (BW.out.trans (hg1.mono BW.out.size))
    clear hg1 hA3
    go_wp2_with fail
    refine (HI.out _).mono ?_
    rintro e v2 ⟨rfl, hg2⟩
    have HB5 := Lib.hid (HB4.out.trans (hg2.mono HB4.out.size))
    clear hg2
    go_wp2_with fail
    refine (lives _).mono ?_
    rintro e v3 ⟨rfl, hg3⟩
    have HB6 := Lib.hid (HB5.out.trans (hg3.mono HB5.out.size))
    clear hg3
    go_wp2_with fail
    go_ret
    exact ⟨rfl, HB6.out⟩
  · rw [hi] at HI
    clear hi HBG
    go_wp2_with fail
    refine HS.out.mono ?_
    rintro e v1 ⟨rfl, hg1⟩
    have HB4 := Lib.hid (BW.out.trans (hg1.mono BW.out.size))
    clear hg1 hA3
    go_wp2_with fail
    refine (HI.out _).mono ?_
    rintro e v2 ⟨rfl, hg2⟩
    have HB5 := Lib.hid (HB4.out.trans (hg2.mono HB4.out.size))
    clear hg2
    go_wp2_with fail
    refine (lives _).mono ?_
    rintro e v3 ⟨rfl, hg3⟩
    have HB6 := Lib.hid (HB5.out.trans (hg3.mono HB5.out.size))
    clear hg3
    go_wp2_with fail
    go_ret
    exact ⟨rfl, HB6.out⟩
  · obtain ⟨g, o, rfl, hg, hc⟩ := hA3 (by simp)
    obtain ⟨x0, x1, _⟩ := hc 0 (by simp)
    simp only [Nat.zero_mul, Nat.add_zero, List.getElem_cons_zero] at x0 x1
    have q1 : (x.text.toList == [97, 108, 119, 97, 121, 115]) = decide (x.text = ⟨#[97, 108, 119, 97, 121, 115]⟩) := eqL x.text _ alwL
    have q2 : (x.text.toList == [99, 97, 110]) = decide (x.text = ⟨#[99, 97, 110]⟩) := eqL x.text _ canL
    rw [hi] at HI
    clear hc hi HBG x0
    have hA3 := hg
    have hln : ∃ n, n = (x :: M).length ∧ (0 : Int) < n := ⟨_, rfl, by simp⟩
    obtain ⟨n, hn, hn0⟩ := hln
    rw [← hn] at hca
    simp only [← hn]
    clear hn
    generalize decide (x.text = ⟨#[97, 108, 119, 97, 121, 115]⟩) = d1 at *
    generalize decide (x.text = ⟨#[99, 97, 110]⟩) = d2 at *
    cases d1
    · cases d2
      · skip
        replace HI : Hid (∀ w', Calls Tryz.prog 13 #[.string t] w' fun e w'' => e = .returned (.bool false) ∧ RowKit.Below w'.heap.size w' w'') := HI
        go_wp2_with fail
        refine HS.out.mono ?_
        rintro e v1 ⟨rfl, hg1⟩
        have HB4 := Lib.hid (BW.out.trans (hg1.mono BW.out.size))
        clear hg1 hA3
        go_wp2_with fail
        refine (HI.out _).mono ?_
        rintro e v2 ⟨rfl, hg2⟩
        have HB5 := Lib.hid (HB4.out.trans (hg2.mono HB4.out.size))
        clear hg2
        go_wp2_with fail
        refine (lives _).mono ?_
        rintro e v3 ⟨rfl, hg3⟩
        have HB6 := Lib.hid (HB5.out.trans (hg3.mono HB5.out.size))
        clear hg3
        go_wp2_with fail
        go_ret
        exact ⟨rfl, HB6.out⟩
      · skip
        replace HI : Hid (∀ w', Calls Tryz.prog 13 #[.string t] w' fun e w'' => e = .returned (.bool true) ∧ RowKit.Below w'.heap.size w' w'') := HI
        go_wp2_with fail
        refine HS.out.mono ?_
        rintro e v1 ⟨rfl, hg1⟩
        have HB4 := Lib.hid (BW.out.trans (hg1.mono BW.out.size))
        clear hg1 hA3
        go_wp2_with fail
        refine (HI.out _).mono ?_
        rintro e v2 ⟨rfl, hg2⟩
        have HB5 := Lib.hid (HB4.out.trans (hg2.mono HB4.out.size))
        clear hg2
        go_wp2_with fail
        refine (lives _).mono ?_
        rintro e v3 ⟨rfl, hg3⟩
        have HB6 := Lib.hid (HB5.out.trans (hg3.mono HB5.out.size))
        clear hg3
        go_wp2_with fail
        go_ret
        exact ⟨rfl, HB6.out⟩
    · cases d2
      · skip
        replace HI : Hid (∀ w', Calls Tryz.prog 13 #[.string t] w' fun e w'' => e = .returned (.bool true) ∧ RowKit.Below w'.heap.size w' w'') := HI
        go_wp2_with fail
        refine HS.out.mono ?_
        rintro e v1 ⟨rfl, hg1⟩
        have HB4 := Lib.hid (BW.out.trans (hg1.mono BW.out.size))
        clear hg1 hA3
        go_wp2_with fail
        refine (HI.out _).mono ?_
        rintro e v2 ⟨rfl, hg2⟩
        have HB5 := Lib.hid (HB4.out.trans (hg2.mono HB4.out.size))
        clear hg2
        go_wp2_with fail
        refine (lives _).mono ?_
        rintro e v3 ⟨rfl, hg3⟩
        have HB6 := Lib.hid (HB5.out.trans (hg3.mono HB5.out.size))
        clear hg3
        go_wp2_with fail
        go_ret
        exact ⟨rfl, HB6.out⟩
      · skip
        replace HI : Hid (∀ w', Calls Tryz.prog 13 #[.string t] w' fun e w'' => e = .returned (.bool true) ∧ RowKit.Below w'.heap.size w' w'') := HI
        go_wp2_with fail
        refine HS.out.mono ?_
        rintro e v1 ⟨rfl, hg1⟩
        have HB4 := Lib.hid (BW.out.trans (hg1.mono BW.out.size))
        clear hg1 hA3
        go_wp2_with fail
        refine (HI.out _).mono ?_
        rintro e v2 ⟨rfl, hg2⟩
        have HB5 := Lib.hid (HB4.out.trans (hg2.mono HB4.out.size))
        clear hg2
        go_wp2_with fail
        refine (lives _).mono ?_
        rintro e v3 ⟨rfl, hg3⟩
        have HB6 := Lib.hid (HB5.out.trans (hg3.mono HB5.out.size))
        clear hg3
        go_wp2_with fail
        go_ret
        exact ⟨rfl, HB6.out⟩
end Go.Proofs.YtkmonmpfbchffaaGreat.QryPl
