/- The walk of the law of numbers. -/
import Derived.Test.YtnhjnimgjpgfcaaTblI
import Derived.Test.YtnhjnimgjpgfcaaTab6
import Derived.Test.YtnhjnimgjpgfcaaTblM
import Derived.Deep.RegionHeld3
namespace Go.Proofs.Ytnhjnimgjpgfcaa.TblJ
open Go.RowKit Go.Sort Go.Lib Go.Proofs Go.Proofs.Ytnhjnimgjpgfcaa.Plain Go.Proofs.Ytnhjnimgjpgfcaa.SynP Go.Proofs.Ytnhjnimgjpgfcaa.SynE Go.Proofs.Ytnhjnimgjpgfcaa.TblM Go.Proofs.Ytnhjnimgjpgfcaa.Grown Go.Proofs.Ytnhjnimgjpgfcaa.TabP Go.Proofs.Ytnhjnimgjpgfcaa.Tab1 Go.Proofs.Ytnhjnimgjpgfcaa.Tab2 Go.Proofs.Ytnhjnimgjpgfcaa.Tab5 Go.Proofs.Ytnhjnimgjpgfcaa.Tab6 Go.Proofs.Ytnhjnimgjpgfcaa.RolK Go.Proofs.Ytnhjnimgjpgfcaa.TblA Go.Proofs.Ytnhjnimgjpgfcaa.TblB Go.Proofs.Ytnhjnimgjpgfcaa.TblC Go.Proofs.Ytnhjnimgjpgfcaa.TblF Go.Proofs.Ytnhjnimgjpgfcaa.TblG Go.Proofs.Ytnhjnimgjpgfcaa.TblH Go.Proofs.Ytnhjnimgjpgfcaa.TblI
set_option linter.unusedVariables false
set_option linter.unusedSimpArgs false
theorem next {W w1 w2 : World} (h : RowKit.Below W.heap.size W w1) (hb : RowKit.Below w1.heap.size w1 w2) : RowKit.Below W.heap.size W w2 := h.trans (hb.mono h.size)
theorem light40 {T : List Str} (h : lightB T = true) : T.length ≤ 40 := by
  unfold lightB at h
  rw [Bool.and_eq_true, decide_eq_true_iff] at h
  exact h.1
set_option maxRecDepth 100000 in
theorem dark (A B : Option Addr) (ca cb : Nat) (P0 L0 : List Str) (s : St) (w : World) (hP : P0.length ≤ maxLen) (hwP : ∀ x ∈ P0, x.length ≤ maxLen) (hA : SRow w A P0) (hL : L0.length ≤ maxLen) (hwL : ∀ x ∈ L0, x.length ≤ maxLen) (hB : SRow w B L0)
    (h : (lightB P0 && lightB L0 && lightS s) = false) : Calls Try.prog 3 #[.slice A P0.length ca, .slice B L0.length cb, s.val] w fun e w' => e = .returned (.bool true) ∧ RowKit.Below w.heap.size w w' := by
  have hl := TblM.light s
  obtain ⟨k1, ⟨ho, hn⟩, wh, ⟨ao, an⟩, ⟨bo, bn⟩, v⟩ := s
  have hbx : RowKit.Below w.heap.size w (w.alloc (.cells #[.int .i64 k1, .string ho, .string hn, .string wh, .string ao, .string an, .string bo, .string bn, .string v] 26)) := (Below.refl _ w).alloc (Nat.le_refl _) _
  have HB0 := Lib.hid hbx
  have HA := Lib.hid (Tab6.light A ca P0 _ hP hwP (hA.keep hbx))
  have HBl := Lib.hid (Tab6.light B cb L0 _ hL hwL (hB.keep hbx))
  unfold St.val at *
  generalize lightS _ = l3 at *
  have HL := Lib.hid hl
  clear hl hbx hA hB
  generalize lightB P0 = l1 at *
  generalize lightB L0 = l2 at *
  cases l1
  · go_enter Try.func3, Try.ntmps3
    go_wp2_with fail
    refine HA.out.mono ?_
    rintro e w1 ⟨rfl, rfl⟩
    go_wp2_with fail
    refine (lives _).mono ?_
    rintro e w2 ⟨rfl, hb⟩
    have HF := Lib.hid (next HB0.out hb)
    clear hb
    go_wp2_with fail
    go_ret
    exact ⟨rfl, HF.out⟩
  · cases l2
    · go_enter Try.func3, Try.ntmps3
      go_wp2_with fail
      refine HA.out.mono ?_
      rintro e w1 ⟨rfl, rfl⟩
      go_wp2_with fail
      refine HBl.out.mono ?_
      rintro e w1 ⟨rfl, rfl⟩
      go_wp2_with fail
      refine (lives _).mono ?_
      rintro e w2 ⟨rfl, hb⟩
      have HF := Lib.hid (next HB0.out hb)
      clear hb
      go_wp2_with fail
      go_ret
      exact ⟨rfl, HF.out⟩
    · obtain rfl : l3 = false := by simpa using h
      clear h
      go_enter Try.func3, Try.ntmps3
      go_wp2_with fail
      refine HA.out.mono ?_
      rintro e w1 ⟨rfl, rfl⟩
      go_wp2_with fail
      refine HBl.out.mono ?_
      rintro e w1 ⟨rfl, rfl⟩
      go_wp2_with fail
      refine (HL.out _).mono ?_
      rintro e w1 ⟨rfl, hg⟩
      have HF1 := Lib.hid (next HB0.out hg.below)
      clear hg
      go_wp2_with fail
      refine (lives _).mono ?_
      rintro e w2 ⟨rfl, hb⟩
      have HF := Lib.hid (next HF1.out hb)
      clear hb
      go_wp2_with fail
      go_ret
      exact ⟨rfl, HF.out⟩
/-- What stands from the law's second half on. -/
structure Nu (W w : World) (t a b : Nat) (A1 : Option Addr) (c1 : Nat) (A2 : Option Addr) (c2 : Nat) (A3 A4 : Option Addr) (P L : List Str) : Prop where
  bel : RowKit.Below W.heap.size W w
  tab : TblK w t a b A1 c1 A2 c2 P L
  ra : SRow w A3 P
  rb : SRow w A4 L
theorem Nu.below {W w w' : World} {t a b : Nat} {A1 A2 A3 A4 : Option Addr} {c1 c2 : Nat} {P L : List Str} (h : Nu W w t a b A1 c1 A2 c2 A3 A4 P L) (hb : RowKit.Below w.heap.size w w') : Nu W w' t a b A1 c1 A2 c2 A3 A4 P L :=
  ⟨next h.bel hb, h.tab.keep hb, h.ra.keep hb, h.rb.keep hb⟩
set_option maxHeartbeats 2000000 in
set_option maxRecDepth 100000 in
theorem bright (A B : Option Addr) (ca cb : Nat) (P0 L0 : List Str) (s : St) (w : World) (hP : P0.length ≤ maxLen) (hwP : ∀ x ∈ P0, x.length ≤ maxLen) (hA : SRow w A P0) (hL : L0.length ≤ maxLen) (hwL : ∀ x ∈ L0, x.length ≤ maxLen) (hB : SRow w B L0)
    (hf : s.fit) (h1 : lightB P0 = true) (h2 : lightB L0 = true) (h3 : lightS s = true) : Calls Try.prog 3 #[.slice A P0.length ca, .slice B L0.length cb, s.val] w fun e w' => e = .returned (.bool true) ∧ RowKit.Below w.heap.size w w' := by
  have hl := TblM.light s
  have hRule := fun w' t a b A1 c1 A2 c2 (h : TblK w' t a b A1 c1 A2 c2 (tab P0) (tab L0)) => rule w' h s hf
  have l1 := light40 h1
  have l2 := light40 h2
  have p1 : (tab P0).length ≤ 40 := by have := tab_len_le P0; omega
  have p2' : (tab L0).length ≤ 40 := by have := tab_len_le L0; omega
  have hRef := fun A B ca cb w' hA hB => ruleRef (P := tab P0) (L := tab L0) A B ca cb w' (by omega) (by omega) hA hB s hf
  have hNew := fun w' hA hB => newT A B ca cb P0 L0 w' (by omega) (by omega) hA hB
  obtain ⟨k1, ⟨ho, hn⟩, wh, ⟨ao, an⟩, ⟨bo, bn⟩, v⟩ := s
  have hRo := fun w' t a b A1 c1 A2 c2 (h : TblK w' t a b A1 c1 A2 c2 (tab P0) (tab L0)) => role h ⟨ho, hn⟩
  have hRoR := fun A B ca cb w' hA hB => roleRef A B ca cb (tab P0) (tab L0) ⟨ho, hn⟩ w' (by omega) (by omega) hA hB
  have hbx : RowKit.Below w.heap.size w (w.alloc (.cells #[.int .i64 k1, .string ho, .string hn, .string wh, .string ao, .string an, .string bo, .string bn, .string v] 26)) := (Below.refl _ w).alloc (Nat.le_refl _) _
  have HB0 := Lib.hid hbx
  have HX0 : Hid ((w.alloc (.cells #[.int .i64 k1, .string ho, .string hn, .string wh, .string ao, .string an, .string bo, .string bn, .string v] 26)).heap[w.heap.size]? = some (.cells #[.int .i64 k1, .string ho, .string hn, .string wh, .string ao, .string an, .string bo, .string bn, .string v] 26 (0, 0))) := Lib.hid (heap_alloc_new w _)
  have HA := Lib.hid (Tab6.light A ca P0 _ hP hwP (hA.keep hbx))
  have HBl := Lib.hid (Tab6.light B cb L0 _ hL hwL (hB.keep hbx))
  have HRA := Lib.hid (fun w' (hb : RowKit.Below w.heap.size w w') => hA.keep hb)
  have HRB := Lib.hid (fun w' (hb : RowKit.Below w.heap.size w w') => hB.keep hb)
  have HNR1 := Lib.hid (fun w' h => Tab5.newRef A ca P0 w' (by omega) h)
  have HNR2 := Lib.hid (fun w' h => Tab5.newRef B cb L0 w' (by omega) h)
  rw [h1] at HA
  rw [h2] at HBl
  rw [h3] at hl
  unfold St.val at *
  unfold Rl.val at hRo hRoR
  unfold RulePost at hRule hRef
  unfold NewTPost at hNew
  have HL := Lib.hid hl
  have HRU := Lib.hid hRule
  have HRF := Lib.hid hRef
  have HNW := Lib.hid hNew
  have HRO := Lib.hid hRo
  have HRR := Lib.hid hRoR
  have hq : ∃ q : Nat, (tab P0).length * (tab L0).length = q := ⟨_, rfl⟩
  obtain ⟨q, hq⟩ := hq
  have hq2 : q ≤ 1600 := by rw [← hq]; exact Nat.mul_le_mul p1 p2'
  have HRS := Lib.hid (fun w' t a b A1 c1 A2 c2 (h : TblK w' t a b A1 c1 A2 c2 (tab P0) (tab L0)) => roles h)
  have HQ := Lib.hid hq
  rw [hq] at HRS
  generalize ruleA (tab P0) (tab L0) _ = uA at *
  generalize ruleOk (tab P0) (tab L0) _ = ok at *
  generalize roleI (tab P0) (tab L0) _ = rI at *
  obtain ⟨u0, u1, u2, u3, u4, u5⟩ := uA
  simp only [Ru.cells] at HRU HRF
  clear hl hRule hRef hNew hRo hRoR hbx hA hB h1 h2 h3 hf hq
  generalize hP1 : tab P0 = P at *
  generalize hL1 : tab L0 = L at *
  clear hP1 hL1
  go_enter Try.func3, Try.ntmps3
  go_wp2_with fail
  refine HA.out.mono ?_
  rintro e w1 ⟨rfl, rfl⟩
  go_wp2_with fail
  refine HBl.out.mono ?_
  rintro e w1 ⟨rfl, rfl⟩
  have hu0 : ∀ o, (w.alloc (.cells #[.int .i64 k1, .string ho, .string hn, .string wh, .string ao, .string an, .string bo, .string bn, .string v] 26)).cell? ⟨w.heap.size, o, none⟩ = (#[.int .i64 k1, .string ho, .string hn, .string wh, .string ao, .string an, .string bo, .string bn, .string v] : Array Value)[o]? := fun o => Lib.cell_of_heap HX0.out o
  go_wp2_with fail
  refine (HL.out _).mono ?_
  rintro e w1 ⟨rfl, hg⟩
  have HB1 := Lib.hid (next HB0.out hg.below)
  have HX1 := Lib.hid ((hg.below.block w.heap.size (by simp)).trans HX0.out)
  clear hg HB0 HX0 HA HBl HL hu0
  go_wp2_with fail
  refine (HNW.out _ (HRA.out _ HB1.out) (HRB.out _ HB1.out)).mono ?_
  rintro e w2 ⟨t, a, b, A1, c1, A2, c2, rfl, hT, hb⟩
  have HT2 := Lib.hid hT
  have HB2 := Lib.hid (next HB1.out hb)
  have hlt0 : w.heap.size < w1.heap.size := (Array.getElem?_eq_some_iff.1 HX1.out).1
  have HX2 := Lib.hid ((hb.block w.heap.size hlt0).trans HX1.out)
  clear hT hb HB1 HX1 HNW
  go_wp2_with fail
  refine (HNR1.out _ (HRA.out _ HB2.out)).mono ?_
  rintro e w3 ⟨v3, rfl, hown, hb⟩
  obtain ⟨A3, c3, rfl, _, hr3⟩ := SRow.of_own hown
  have HR3 := Lib.hid hr3
  have HT3 := Lib.hid (HT2.out.keep hb)
  have HB3 := Lib.hid (next HB2.out hb)
  have hlt1 : w.heap.size < w2.heap.size := (Array.getElem?_eq_some_iff.1 HX2.out).1
  have HX3 := Lib.hid ((hb.block w.heap.size hlt1).trans HX2.out)
  clear hown hr3 hb HT2 HB2 HX2
  go_wp2_with fail
  refine (HNR2.out _ (HRB.out _ HB3.out)).mono ?_
  rintro e w4 ⟨v4, rfl, hown, hb⟩
  obtain ⟨A4, c4, rfl, _, hr4⟩ := SRow.of_own hown
  have HN4 : Hid (Nu w w4 t a b A1 c1 A2 c2 A3 A4 P L) := Lib.hid ⟨next HB3.out hb, HT3.out.keep hb, HR3.out.keep hb, hr4⟩
  have hlt2 : w.heap.size < w3.heap.size := (Array.getElem?_eq_some_iff.1 HX3.out).1
  have HX4 := Lib.hid ((hb.block w.heap.size hlt2).trans HX3.out)
  clear hown hr4 hb HT3 HB3 HX3 HR3 HNR1 HNR2 HRA HRB
  have hu4 : ∀ o, w4.cell? ⟨w.heap.size, o, none⟩ = (#[.int .i64 k1, .string ho, .string hn, .string wh, .string ao, .string an, .string bo, .string bn, .string v] : Array Value)[o]? := fun o => Lib.cell_of_heap HX4.out o
  go_wp2_with fail
  refine (HRU.out _ _ _ _ _ _ _ _ HN4.out.tab).mono ?_
  rintro e w5 ⟨rfl, hb⟩
  have hb5 : RowKit.Below w5.heap.size w5 (w5.alloc (.cells #[.int .i64 u0, .int .i64 u1, .int .i64 u2, .int .i64 u3, .int .i64 u4, .int .i64 u5] 34)) := (Below.refl _ _).alloc (Nat.le_refl _) _
  have HN5 := Lib.hid ((HN4.out.below hb).below hb5)
  have hlt3 : w.heap.size < w4.heap.size := (Array.getElem?_eq_some_iff.1 HX4.out).1
  have hx5 := (hb.block w.heap.size hlt3).trans HX4.out
  have hlt5 : w.heap.size < w5.heap.size := (Array.getElem?_eq_some_iff.1 hx5).1
  have HX5 := Lib.hid ((hb5.block w.heap.size hlt5).trans hx5)
  have HY5 : Hid ((w5.alloc (.cells #[.int .i64 u0, .int .i64 u1, .int .i64 u2, .int .i64 u3, .int .i64 u4, .int .i64 u5] 34)).heap[w5.heap.size]? = some (.cells #[.int .i64 u0, .int .i64 u1, .int .i64 u2, .int .i64 u3, .int .i64 u4, .int .i64 u5] 34 (0, 0))) := Lib.hid (heap_alloc_new w5 _)
  have hu5 : ∀ o, (w5.alloc (.cells #[.int .i64 u0, .int .i64 u1, .int .i64 u2, .int .i64 u3, .int .i64 u4, .int .i64 u5] 34)).cell? ⟨w.heap.size, o, none⟩ = (#[.int .i64 k1, .string ho, .string hn, .string wh, .string ao, .string an, .string bo, .string bn, .string v] : Array Value)[o]? := fun o => Lib.cell_of_heap HX5.out o
  clear hb hb5 hx5 hu4 HN4 HX4 HRU
  go_wp2_with fail
  refine (HRF.out A3 A4 _ _ _ HN5.out.ra HN5.out.rb).mono ?_
  rintro e w6 ⟨rfl, hb⟩
  have hb6 : RowKit.Below w6.heap.size w6 (w6.alloc (.cells #[.int .i64 u0, .int .i64 u1, .int .i64 u2, .int .i64 u3, .int .i64 u4, .int .i64 u5] 34)) := (Below.refl _ _).alloc (Nat.le_refl _) _
  have HN7 := Lib.hid ((HN5.out.below hb).below hb6)
  have hz6 := hb.size
  simp only [World.size_alloc] at hz6
  have HX7 := Lib.hid ((hb6.block w.heap.size (by omega)).trans ((hb.block w.heap.size (by simp; omega)).trans HX5.out))
  have HY7 := Lib.hid ((hb6.block w5.heap.size (by omega)).trans ((hb.block w5.heap.size (by simp)).trans HY5.out))
  have HZ7 : Hid ((w6.alloc (.cells #[.int .i64 u0, .int .i64 u1, .int .i64 u2, .int .i64 u3, .int .i64 u4, .int .i64 u5] 34)).heap[w6.heap.size]? = some (.cells #[.int .i64 u0, .int .i64 u1, .int .i64 u2, .int .i64 u3, .int .i64 u4, .int .i64 u5] 34 (0, 0))) := Lib.hid (heap_alloc_new w6 _)
  clear hb hb6 hu5 HN5 HX5 HY5 HRF
  go_upto_region 7 with fail
  generalize w6.alloc (.cells #[.int .i64 u0, .int .i64 u1, .int .i64 u2, .int .i64 u3, .int .i64 u4, .int .i64 u5] 34) = w7 at *
  have HS7 : Hid (∀ w', RowKit.Below w7.heap.size w7 w' → RowKit.Below w7.heap.size w7 w' ∧ (∀ o, w'.cell? ⟨w.heap.size, o, none⟩ = (#[.int .i64 k1, .string ho, .string hn, .string wh, .string ao, .string an, .string bo, .string bn, .string v] : Array Value)[o]?) ∧ (∀ o, w'.cell? ⟨w5.heap.size, o, none⟩ = (#[.int .i64 u0, .int .i64 u1, .int .i64 u2, .int .i64 u3, .int .i64 u4, .int .i64 u5] : Array Value)[o]?) ∧ (∀ o, w'.cell? ⟨w6.heap.size, o, none⟩ = (#[.int .i64 u0, .int .i64 u1, .int .i64 u2, .int .i64 u3, .int .i64 u4, .int .i64 u5] : Array Value)[o]?)) := Lib.hid (fun w' hb => ⟨hb, fun o => Lib.cell_of_heap ((hb.block _ (Array.getElem?_eq_some_iff.1 HX7.out).1).trans HX7.out) o, fun o => Lib.cell_of_heap ((hb.block _ (Array.getElem?_eq_some_iff.1 HY7.out).1).trans HY7.out) o, fun o => Lib.cell_of_heap ((hb.block _ (Array.getElem?_eq_some_iff.1 HZ7.out).1).trans HZ7.out) o⟩)
  have HNu := Lib.hid (fun w' (hb : RowKit.Below w7.heap.size w7 w') => HN7.out.below hb)
  have HPr := Lib.hid (fun w' (hb : RowKit.Below w7.heap.size w7 w') => prins (HN7.out.below hb).tab)
  have HLi := Lib.hid (fun w' (hb : RowKit.Below w7.heap.size w7 w') => links (HN7.out.below hb).tab)
  have HRs := Lib.hid (fun w' (hb : RowKit.Below w7.heap.size w7 w') => HRS.out _ _ _ _ _ _ _ _ (HN7.out.below hb).tab)
  have HRo := Lib.hid (fun w' (hb : RowKit.Below w7.heap.size w7 w') => HRO.out _ _ _ _ _ _ _ _ (HN7.out.below hb).tab)
  have HRr := Lib.hid (fun w' (hb : RowKit.Below w7.heap.size w7 w') => HRR.out A3 A4 c3 c4 w' (HN7.out.below hb).ra (HN7.out.below hb).rb)
  have HLa := Lib.hid (fun w' (hb : RowKit.Below w7.heap.size w7 w') => Tab1.len w' a A1 P.length c1 (HN7.out.below hb).tab.a0)
  have HLb := Lib.hid (fun w' (hb : RowKit.Below w7.heap.size w7 w') => Tab1.len w' b A2 L.length c2 (HN7.out.below hb).tab.b0)
  have hmul : IntKind.i64.wrap ((P.length : Int) * (L.length : Int)) = (q : Int) := by
    rw [← Int.natCast_mul, HQ.out, IntKind.wrap_i64]; omega
  have hneU := neU u0 u1 u2 u3 u4 u5
  go_cut [95] from 50 to 143 (fun p wx => p = .bool false ∧ Hid (RowKit.Below w7.heap.size w7 wx))
  case first =>
    clear HX7 HY7 HZ7 HNu HRS HRO HRR
    go_region_held3 (fun w' => RowKit.Below w7.heap.size w7 w' ∧ (∀ o, w'.cell? ⟨w.heap.size, o, none⟩ = (#[.int .i64 k1, .string ho, .string hn, .string wh, .string ao, .string an, .string bo, .string bn, .string v] : Array Value)[o]?) ∧ (∀ o, w'.cell? ⟨w5.heap.size, o, none⟩ = (#[.int .i64 u0, .int .i64 u1, .int .i64 u2, .int .i64 u3, .int .i64 u4, .int .i64 u5] : Array Value)[o]?) ∧ (∀ o, w'.cell? ⟨w6.heap.size, o, none⟩ = (#[.int .i64 u0, .int .i64 u1, .int .i64 u2, .int .i64 u3, .int .i64 u4, .int .i64 u5] : Array Value)[o]?))
      (first | with_reducible assumption | exact HS7.out _ ((Below.refl _ _).drew) | exact HS7.out _ (next (by apply And.left; with_reducible assumption) (by with_reducible assumption)))
      (first | ((with_reducible refine (HPr.out _ (by apply And.left; with_reducible assumption)).mono ?_); rintro e w' ⟨rfl, rfl⟩)
             | ((with_reducible refine (HLi.out _ (by apply And.left; with_reducible assumption)).mono ?_); rintro e w' ⟨rfl, rfl⟩)
             | ((with_reducible refine (HRs.out _ (by apply And.left; with_reducible assumption)).mono ?_); rintro e w' ⟨rfl, rfl⟩)
             | ((with_reducible refine (HLa.out _ (by apply And.left; with_reducible assumption)).mono ?_); rintro e w' ⟨rfl, rfl⟩)
             | ((with_reducible refine (HLb.out _ (by apply And.left; with_reducible assumption)).mono ?_); rintro e w' ⟨rfl, rfl⟩)
             | ((with_reducible refine (HRo.out _ (by apply And.left; with_reducible assumption)).mono ?_); rintro e w' ⟨rfl, hgb⟩)
             | ((with_reducible refine (HRr.out _ (by apply And.left; with_reducible assumption)).mono ?_); rintro e w' ⟨rfl, hgb⟩))
    all_goals (rename_i hHeld; have HF := Lib.hid hHeld.1; clear hHeld; go_wp2_with fail; go_meet; exact ⟨rfl, HF⟩)
  case rest =>
    obtain ⟨rfl, hbc⟩ := hcut
    clear HS7 HPr HLi HRs HRo HRr HLa HLb HX7 HY7 HZ7 hneU HN7 HRS HRO HRR
    go_wp2_with fail
    go_loopw [98] (fun i wr => ∃ k : Nat, k ≤ P.length ∧ i = .int .i64 k ∧ Hid (RowKit.Below w7.heap.size w7 wr)) (fun i _ => P.length - (intOf i).toNat)
    case atStart => exact ⟨0, by omega, rfl, hbc⟩
    case round =>
      clear hbc
      obtain ⟨k, hk, rfl, hb⟩ := hrel
      by_cases hlt : k < P.length
      · have d1 : decide ((k : Int) < P.length) = true := by simp; omega
        go_wp2_with fail
        go_loopw [103] (fun i wr => ∃ y : Nat, y ≤ L.length ∧ i = .int .i64 y ∧ Hid (RowKit.Below w7.heap.size w7 wr)) (fun i _ => L.length - (intOf i).toNat)
        case atStart => exact ⟨0, by omega, rfl, hb⟩
        case round =>
          clear hb
          obtain ⟨y, hy, rfl, hb⟩ := hrel
          by_cases hlty : y < L.length
          · have d2 : decide ((y : Int) < L.length) = true := by simp; omega
            have p0 : (0 : Int) ≤ k := by omega
            have p1 : (k : Int) < P.length := by omega
            have p2 : (0 : Int) ≤ y := by omega
            have p3 : (y : Int) < L.length := by omega
            have nu := HNu.out _ hb.out
            obtain ⟨g3, o3, rfl, hg3, hc3⟩ := nu.ra (by omega)
            obtain ⟨g4, o4, rfl, hg4, hc4⟩ := nu.rb (by omega)
            have a3 := hc3 k hlt
            have a4 := hc4 y hlty
            have hRA := fun w' (hb2 : RowKit.Below wr.heap.size wr w') => roleAt_in (nu.tab.keep hb2) k y hlt hlty
            unfold Rl.val at hRA
            simp only at hRA
            have hkl : k * L.length ≤ 1600 := Nat.mul_le_mul (show k ≤ 40 by omega) p2'
            have m1 : IntKind.i64.wrap ((k : Int) * (L.length : Int)) = ((k * L.length : Nat) : Int) := by
              rw [← Int.natCast_mul, IntKind.wrap_i64]; omega
            have HSx : Hid (∀ w', RowKit.Below wr.heap.size wr w' → w'.cell? ⟨g3, o3 + k, none⟩ = some (.string ⟨P[k].toArray⟩) ∧ w'.cell? ⟨g4, o4 + y, none⟩ = some (.string ⟨L[y].toArray⟩)) := Lib.hid (fun w' hb2 => ⟨(hb2.cell (p := ⟨g3, o3 + k, none⟩) hg3).trans a3, (hb2.cell (p := ⟨g4, o4 + y, none⟩) hg4).trans a4⟩)
            rw [Int.natCast_add] at hRA
            have HRA := Lib.hid hRA
            clear hRA hc3 hc4 nu a3 a4
            generalize k * L.length = kl at *
            generalize (⟨P[k].toArray⟩ : ByteArray) = sx at *
            generalize (⟨L[y].toArray⟩ : ByteArray) = sy at *
            have m2 : IntKind.i64.wrap ((kl : Int) + (y : Int)) = (kl : Int) + (y : Int) := by
              rw [IntKind.wrap_i64]; omega
            have hne := neRs sx sy
            have HS15 : Hid (∀ w', RowKit.Below wr.heap.size wr w' → RowKit.Below wr.heap.size wr w' ∧ w'.cell? ⟨g3, o3 + k, none⟩ = some (.string sx) ∧ w'.cell? ⟨g4, o4 + y, none⟩ = some (.string sy)) := Lib.hid (fun w' hb2 => ⟨hb2, HSx.out w' hb2⟩)
            clear HSx
            go_upto_region 15 with fail
            go_region_held3 (fun w' => RowKit.Below wr.heap.size wr w' ∧ w'.cell? ⟨g3, o3 + k, none⟩ = some (.string sx) ∧ w'.cell? ⟨g4, o4 + y, none⟩ = some (.string sy))
              (first | with_reducible assumption | exact HS15.out _ ((Below.refl _ _).drew) | exact HS15.out _ (next (by apply And.left; with_reducible assumption) (by with_reducible assumption)))
              (first | ((with_reducible refine (HRA.out _ (by apply And.left; with_reducible assumption)).mono ?_); rintro e w' ⟨rfl, hgb⟩))
            all_goals
              rename_i hHeld
              have HBe := Lib.hid (next hb.out hHeld.1)
              clear hHeld
              go_wp2_with fail
              go_roundw
              case rel => exact ⟨y + 1, by omega, by go_num, HBe⟩
              case measure => simp [intOf]; omega
          · have d2 : decide ((y : Int) < L.length) = false := by simp; omega
            go_wp2_with fail
            go_roundw
            case rel => exact ⟨k + 1, by omega, by go_num, hb⟩
            case measure => simp [intOf]; omega
      · have d1 : decide ((k : Int) < P.length) = false := by simp; omega
        have nu := HNu.out _ hb.out
        have ho1 := roleAt_out nu.tab (-1) (Or.inl (by omega))
        have HO1 := Lib.hid ho1
        have HO2 := Lib.hid (fun w' (hb2 : RowKit.Below wr.heap.size wr w') => roleAt_out (nu.tab.keep hb2) (q : Int) (Or.inr (by have := HQ.out; omega)))
        have HBw := Lib.hid nu.bel
        have hz : zeroR.val = .agg #[.string ⟨#[]⟩, .string ⟨#[]⟩] := rfl
        rw [hz] at HO1 HO2
        have heq := eqRs ⟨#[]⟩ ⟨#[]⟩
        clear nu ho1 hb HNu
        go_wp2_with fail
        refine HO1.out.mono ?_
        rintro e w8 ⟨rfl, hb8⟩
        have HB8 := Lib.hid hb8
        clear hb8
        go_wp2_with fail
        refine (HO2.out _ HB8.out).mono ?_
        rintro e w9 ⟨rfl, hb9⟩
        have HB9 := Lib.hid (next HB8.out hb9)
        clear hb9
        go_wp2_with fail
        refine (lives _).mono ?_
        rintro e w10 ⟨rfl, hb10⟩
        have HB10 := Lib.hid (next HBw.out (next HB9.out hb10))
        clear hb10
        go_wp2_with fail
        go_ret
        exact ⟨rfl, HB10.out⟩
end Go.Proofs.Ytnhjnimgjpgfcaa.TblJ
