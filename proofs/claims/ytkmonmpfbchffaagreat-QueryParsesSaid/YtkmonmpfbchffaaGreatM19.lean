/- The line of a query, in the document's answers, by contract. -/
import Derived.Test.YtkmonmpfbchffaaGreatM17
import Derived.Test.YtkmonmpfbchffaaGreatM18
import Derived.Test.YtkmonmpfbchffaaGreatM07
import Derived.Test.YtkmonmpfbchffaaGreatM03
namespace Go.Proofs.YtkmonmpfbchffaaGreat.QryJ
set_option linter.unusedVariables false
set_option linter.unusedSimpArgs false
open Go.RowKit Go.Sort Go.Proofs Go.Proofs.YtkmonmpfbchffaaGreat.Plain Go.Proofs.YtkmonmpfbchffaaGreat.SynP Go.Proofs.YtkmonmpfbchffaaGreat.TabP Go.Proofs.YtkmonmpfbchffaaGreat.Tab1 Go.Proofs.YtkmonmpfbchffaaGreat.Grown Go.Proofs.YtkmonmpfbchffaaGreat.SynC Go.Proofs.YtkmonmpfbchffaaGreat.SynW Go.Proofs.YtkmonmpfbchffaaGreat.QryP Go.Proofs.YtkmonmpfbchffaaGreat.Qry2 Go.Proofs.YtkmonmpfbchffaaGreat.Qry4 Go.Proofs.YtkmonmpfbchffaaGreat.Qry5 Go.Proofs.YtkmonmpfbchffaaGreat.QryG Go.Proofs.YtkmonmpfbchffaaGreat.Qry6 Go.Proofs.YtkmonmpfbchffaaGreat.Qry7 Go.Proofs.YtkmonmpfbchffaaGreat.QryA Go.Proofs.YtkmonmpfbchffaaGreat.QryL Go.Proofs.YtkmonmpfbchffaaGreat.QryH Go.Proofs.YtkmonmpfbchffaaGreat.QryI
set_option linter.unusedVariables false
set_option linter.unusedSimpArgs false
theorem wordsRef (k : Int) (w : World) : Calls Tryz.prog 106 #[.int .i64 k] w fun e w' => e = .returned (.string (wordsT k)) ∧ ∃ n, w' = w.drewN n := by
  rcases kinds6 k with rfl | rfl | rfl | rfl | rfl | rfl | hk
  · go_enter Tryz.func106, Tryz.ntmps106
    go_wp2
    go_ret
    exact ⟨rfl, 0, rfl⟩
  · go_enter Tryz.func106, Tryz.ntmps106
    go_wp2
    go_ret
    exact ⟨rfl, 0, rfl⟩
  · go_enter Tryz.func106, Tryz.ntmps106
    go_wp2
    go_ret
    exact ⟨rfl, 0, rfl⟩
  · go_enter Tryz.func106, Tryz.ntmps106
    go_wp2
    go_ret
    exact ⟨rfl, 0, rfl⟩
  · go_enter Tryz.func106, Tryz.ntmps106
    go_wp2
    go_ret
    exact ⟨rfl, 0, rfl⟩
  · go_enter Tryz.func106, Tryz.ntmps106
    go_wp2
    go_ret
    exact ⟨rfl, 0, rfl⟩
  · have hf : wordsT k = noText := by
      unfold wordsT
      rw [if_neg (by omega), if_neg (by omega), if_neg (by omega), if_neg (by omega), if_neg (by omega), if_neg (by omega)]
    obtain ⟨e1, e2, e3, e4, e5, e6⟩ := Qry6.others hk
    rw [hf]
    clear hf hk
    go_enter Tryz.func106, Tryz.ntmps106
    go_wp2
    go_ret
    exact ⟨rfl, 0, rfl⟩
theorem size_str (s : Str) : (⟨s.toArray⟩ : ByteArray).size = s.length := rfl
set_option maxHeartbeats 1000000 in
set_option maxRecDepth 100000 in
theorem printRef_no (k : Int) (ao an bo bn : ByteArray) (A : Option Addr) (c : Nat) (T : List Str) (w : World) (hf : Qy.fit ⟨k, ⟨ao, an⟩, ⟨bo, bn⟩, T⟩) (h : Qy.right ⟨k, ⟨ao, an⟩, ⟨bo, bn⟩, T⟩ = false) (hA : SRow w A T) :
    Calls Tryz.prog 72 #[.agg #[.int .i64 k, .string ao, .string an, .string bo, .string bn, .slice A T.length c]] w (LinePost ⟨k, ⟨ao, an⟩, ⟨bo, bn⟩, T⟩ w) := by
  have hR := fun w' (hr : SRow w' A T) => Qry3.rightRef k ao an bo bn A c T w' hf hr
  unfold RightPost at hR
  rw [h] at hR
  have HR := Lib.hid hR
  have HA := Lib.hid hA
  have HL : Hid (lineQ ⟨k, ⟨ao, an⟩, ⟨bo, bn⟩, T⟩ = noText) := Lib.hid (by unfold lineQ; rw [if_neg (by rw [h]; decide)])
  clear h hR hf hA
  go_enter Tryz.func72, Tryz.ntmps72
  go_wp2_with fail
  refine (HR.out _ (HA.out.keep ((Below.refl _ _).alloc (Nat.le_refl _) _))).mono ?_
  rintro e w1 ⟨rfl, hb⟩
  go_wp2_with fail
  go_ret
  exact ⟨by rw [HL.out]; rfl, ((Below.refl _ _).alloc (Nat.le_refl _) _).trans (hb.mono (by simp))⟩
theorem bs_app (a b : ByteArray) : bs (a ++ b) = bs a ++ bs b := by
  unfold bs; rw [ByteArray.data_append, Array.toList_append]
theorem bs_str (s : Str) : bs ⟨s.toArray⟩ = s := rfl
theorem wordsT_len (k : Int) : (wordsT k).size ≤ 8 := by unfold wordsT; (repeat' split) <;> decide
theorem ge5 {q : Qy} (h : q.right = true) : decide (5 ≤ q.kind) = hasBk q.kind := by
  rcases right_kind h with e | e | e | e | e | e <;> rw [e] <;> rfl
/-- The text of a line behind k principals. -/
def lineTo (q : Qy) (k : Nat) : Str := bs (leadT q.kind) ++ tailW [bs (textR q.a)] ++ (32 :: bs (wordsT q.kind)) ++ (if hasBk q.kind = true then tailW [bs (textR q.b)] else []) ++ tailW (q.who.take k)
theorem lineTo_succ {q : Qy} {k : Nat} (h : k < q.who.length) : lineTo q (k + 1) = lineTo q k ++ (32 :: q.who[k]) := by
  unfold lineTo
  rw [List.take_succ_eq_append_getElem h, tailW_app, ← List.append_assoc]
  congr 1
  rw [tailW_cons, tailW_nil, List.append_nil]
theorem lineTo_all {q : Qy} (h : q.right = true) : (⟨(lineTo q q.who.length).toArray⟩ : ByteArray) = lineQ q := by
  unfold lineQ lineTo lineL
  rw [if_pos h, List.take_length]
theorem who_small {q : Qy} (h : q.right = true) : ∀ s ∈ q.who, s.length ≤ 8 := by
  intro s hs
  rcases (right_parts h).2 with ⟨_, _, hw, _, _⟩ | ⟨_, hw, _⟩ | ⟨_, _, hw, _⟩
  · exact prin_len ((who_parts hw).2.1 s hs)
  · rw [hw] at hs; simp at hs
  · rw [hw] at hs; simp at hs
set_option maxHeartbeats 4000000 in
set_option maxRecDepth 100000 in
theorem printRef_can (k : Int) (ao an bo bn : ByteArray) (A : Option Addr) (c : Nat) (T : List Str) (w : World) (h : Qy.right ⟨k, ⟨ao, an⟩, ⟨bo, bn⟩, T⟩ = true) (hu : univ k = false) (hA : SRow w A T) :
    Calls Tryz.prog 72 #[.agg #[.int .i64 k, .string ao, .string an, .string bo, .string bn, .slice A T.length c]] w (LinePost ⟨k, ⟨ao, an⟩, ⟨bo, bn⟩, T⟩ w) := by
  have hR := fun w' (hr : SRow w' A T) => Qry3.rightRef k ao an bo bn A c T w' (fit_of_right h) hr
  unfold RightPost at hR
  rw [h] at hR
  have HR := Lib.hid hR
  have HA := Lib.hid hA
  obtain ⟨pa, pc⟩ := right_parts h
  have sa := SynL.ok_small (o := ao) (n := an) pa
  have HP := Lib.hid (fun w' => SynL.printRoleRef' ao an w' sa.1 sa.2)
  have hU := fun w' => universalRef k w'
  rw [hu] at hU
  have HU := Lib.hid hU
  have HW : Hid (∀ w', Calls Tryz.prog 106 #[.int .i64 k] w' fun e w'' => e = .returned (.string (wordsT k)) ∧ RowKit.Below w'.heap.size w' w'') := Lib.hid (fun w' => (wordsRef k w').mono fun e w'' ⟨he, m, hm⟩ => ⟨he, by rw [hm]; exact below_drewN (Below.refl _ _) _⟩)
  have hTl := who_len h
  have hTl' : T.length ≤ 12 := hTl
  have HTs : Hid (∀ s ∈ T, s.length ≤ 8) := Lib.hid (who_small h)
  have h5 : decide (5 ≤ k) = hasBk k := ge5 h
  have hLA := Lib.hid (lineTo_all h)
  have hLS := Lib.hid (fun k' hk' => lineTo_succ (q := ⟨k, ⟨ao, an⟩, ⟨bo, bn⟩, T⟩) (k := k') hk')
  have hL0 : Hid (lineTo ⟨k, ⟨ao, an⟩, ⟨bo, bn⟩, T⟩ 0 = bs ((⟨#[99,97,110,32]⟩ : ByteArray) ++ (ao ++ ⟨#[46]⟩ ++ an ++ ⟨#[32]⟩ ++ wordsT k)) ++ (if hasBk k = true then tailW [bs (textR ⟨bo, bn⟩)] else [])) := Lib.hid (by
    unfold lineTo leadT
    simp only [hu]
    rw [bs_app, bs_app, bs_app]
    simp [tailW, textR, bs])
  have hB2 : Hid (hasBk k = true → Rl.ok ⟨bo, bn⟩ = true) := Lib.hid (fun hb => by
    rcases pc with ⟨_, e, _⟩ | ⟨e, _, _⟩ | ⟨_, _, _, e⟩
    · rw [show hasBk k = false from e] at hb; cases hb
    · have e' : k = 4 := e
      rw [e'] at hb; exact absurd hb (by decide)
    · exact e)
  have hrs : (ao ++ ⟨#[46]⟩ ++ an : ByteArray).size ≤ 17 := by have := role_size (r := ⟨ao, an⟩) pa; exact this
  have hws := wordsT_len k
  generalize hrole : (ao ++ ⟨#[46]⟩ ++ an : ByteArray) = rl at *
  generalize hwk : wordsT k = wk at *
  have s1 : (⟨#[32]⟩ : ByteArray).size = 1 := rfl
  have s2 : (rl ++ ⟨#[32]⟩ : ByteArray).size = rl.size + 1 := by rw [ByteArray.size_append, s1]
  have s3 : (rl ++ ⟨#[32]⟩ ++ wk : ByteArray).size = rl.size + 1 + wk.size := by rw [ByteArray.size_append, s2]
  have s4 : (⟨#[99,97,110,32]⟩ : ByteArray).size ≤ 7 := by decide
  have a1 := fun w => SynL.addS rl ⟨#[32]⟩ (by rw [s1]; omega) w
  have a2 := fun w => SynL.addS (rl ++ ⟨#[32]⟩) wk (by rw [s2]; omega) w
  have a3 := fun w => SynL.addS ⟨#[99,97,110,32]⟩ (rl ++ ⟨#[32]⟩ ++ wk) (by rw [s3]; omega) w
  have hx0 : (⟨#[99,97,110,32]⟩ ++ (rl ++ ⟨#[32]⟩ ++ wk) : ByteArray).size ≤ 40 := by rw [ByteArray.size_append, s3]; omega
  have q0 : ¬ (9223372036854775807 < rl.size + 1) := by omega
  have q1 : ¬ (9223372036854775807 < rl.size + 1 + wk.size) := by omega
  have q2 : ¬ (9223372036854775807 < (⟨#[99,97,110,32]⟩ : ByteArray).size + (rl.size + 1 + wk.size)) := by omega
  have q3 : ¬ (9223372036854775807 < 4 + (rl.size + 1 + wk.size)) := by omega
  clear h hR hA pa pc sa hTl hrole hwk hU hu s1 s2 s3 s4
  go_enter Tryz.func72, Tryz.ntmps72
  go_wp2_with fail
  refine (HR.out _ (HA.out.keep ((Below.refl _ _).alloc (Nat.le_refl _) _))).mono ?_
  rintro e w1 ⟨rfl, hb1⟩
  have hbox : ∀ o, w1.cell? ⟨w.heap.size, o, none⟩ = (#[.int .i64 k, .string ao, .string an, .string bo, .string bn, .slice A T.length c] : Array Value)[o]? := fun o => (hb1.cell (p := ⟨w.heap.size, o, none⟩) (by simp)).trans (Lib.cell_of_heap (heap_alloc_new w _) o)
  have hbw := Lib.hid (((Below.refl w.heap.size w).alloc (Nat.le_refl _) (.cells #[.int .i64 k, .string ao, .string an, .string bo, .string bn, .slice A T.length c] 26)).trans (hb1.mono (by simp)))
  have hz1' := hb1.size
  simp only [World.size_alloc] at hz1'
  have hzz : w.heap.size < w1.heap.size := by omega
  have HA1 := Lib.hid (HA.out.keep hbw.out)
  have HBX := Lib.hid hbox
  have c0 := hbox 0
  simp only [List.getElem?_toArray, List.getElem?_cons_zero] at c0
  clear hbox hb1 HR
  have A1 := Lib.hid a1
  have A2 := Lib.hid a2
  have A3 := Lib.hid a3
  clear a1 a2 a3
  go_wp2_with fail
  refine (HU.out _).mono ?_
  rintro e w2 ⟨rfl, m2, hw2⟩
  have hbw2 := Lib.hid (show RowKit.Below w.heap.size w w2 from by rw [hw2]; exact below_drewN hbw.out m2)
  have HA2 := Lib.hid (HA.out.keep hbw2.out)
  have HBX2 : Hid (∀ o, w2.cell? ⟨w.heap.size, o, none⟩ = (#[.int .i64 k, .string ao, .string an, .string bo, .string bn, .slice A T.length c] : Array Value)[o]?) := Lib.hid (by rw [hw2]; exact HBX.out)
  have hzz2 : w.heap.size < w2.heap.size := by rw [hw2]; exact hzz
  clear hw2 HBX HA1 hbw hzz c0 hz1' HU
  go_wp2_with fail
  have hst : RowKit.Below w2.heap.size w2 w2.drew ∧ (∀ o, w2.drew.cell? ⟨w.heap.size, o, none⟩ = (#[.int .i64 k, .string ao, .string an, .string bo, .string bn, .slice A T.length c] : Array Value)[o]?) := ⟨(Below.refl _ _).drew, HBX2.out⟩
  have a1 := A1.out
  have a2 := A2.out
  have a3 := A3.out
  go_region_held3 (fun w' => RowKit.Below w2.heap.size w2 w' ∧ (∀ o, w'.cell? ⟨w.heap.size, o, none⟩ = (#[.int .i64 k, .string ao, .string an, .string bo, .string bn, .slice A T.length c] : Array Value)[o]?))
    (first | with_reducible exact hst | with_reducible assumption | exact keepQ (by with_reducible assumption) hzz2 (by with_reducible assumption) | exact keepA (by with_reducible assumption) hzz2)
    (first | (go_at_call 71; refine (HP.out _).mono ?_; rintro e wp ⟨rfl, hg⟩; have hgbp := hg.below; clear hg) | (go_at_call 106; refine (HW.out _).mono ?_; rintro e wb ⟨rfl, hgb2⟩))
  rename_i hHeld
  have hbw3 := Lib.hid (hbw2.out.trans (hHeld.1.mono (by omega)))
  have HRv := Lib.hid (HA.out.keep hbw3.out)
  have c0 := hHeld.2 0
  have c3 := hHeld.2 3
  have c4 := hHeld.2 4
  have c5 := hHeld.2 5
  simp only [List.getElem?_toArray, List.getElem?_cons_zero, List.getElem?_cons_succ] at c0 c3 c4 c5
  have hzd : w.heap.size < wb.heap.size := Nat.lt_of_lt_of_le hzz2 hHeld.1.size
  clear a1 a2 a3 A1 A2 A3 hHeld hst HBX2 HA2 hbw2 hgbp hgb2 HP HW q0 q1 q2 q3
  generalize (⟨#[99,97,110,32]⟩ ++ (rl ++ ⟨#[32]⟩ ++ wk) : ByteArray) = x0 at *
  cases hbk : hasBk k
  · rw [hbk] at h5 hL0
    have hLx : Hid (bs x0 = lineTo ⟨k, ⟨ao, an⟩, ⟨bo, bn⟩, T⟩ 0) := Lib.hid (by rw [hL0.out, if_neg (by decide), List.append_nil])
    have HBv := hbw3
    have hxs : x0.size ≤ 100 := by omega
    clear hbk hL0 hbw3 hx0 hB2
    go_wp2_with fail
    go_loop [3, 34] (fun s i => ∃ (j : Nat) (x : ByteArray), j ≤ T.length ∧ i = .int .i64 j ∧ s = .string x ∧ x.size ≤ 100 + j * 9 ∧ Hid (bs x = lineTo ⟨k, ⟨ao, an⟩, ⟨bo, bn⟩, T⟩ j)) (fun _ i => T.length - (intOf i).toNat)
    case atStart => exact ⟨0, x0, by omega, rfl, rfl, by omega, hLx⟩
    case round =>
      obtain ⟨j, x, hj, rfl, rfl, hxl, hx⟩ := hrel
      by_cases hlt : j < T.length
      · obtain ⟨g, off, rfl, hg, hcell⟩ := HRv.out (by omega)
        have hc := hcell j hlt
        have hs8 := HTs.out T[j] (List.getElem_mem _)
        have hy := bs_str T[j]
        have hys := size_str T[j]
        have hn := hLS.out j hlt
        generalize hyy : (⟨T[j].toArray⟩ : ByteArray) = y at *
        have hys' : y.size ≤ 8 := by omega
        have hnext : Hid (bs (x ++ (⟨#[32]⟩ ++ y)) = lineTo ⟨k, ⟨ao, an⟩, ⟨bo, bn⟩, T⟩ (j + 1)) := Lib.hid (by
          rw [hn, bs_app, bs_app, hx.out, hy]; rfl)
        have hsz : Hid ((x ++ (⟨#[32]⟩ ++ y) : ByteArray).size ≤ 100 + (j + 1) * 9) := Lib.hid (by
          rw [ByteArray.size_append, ByteArray.size_append]
          show _ + (1 + _) ≤ _
          omega)
        have p1 : (0 : Int) ≤ j := by omega
        have p2 : (j : Int) < T.length := by omega
        clear hcell hn hy hys hyy hx
        go_wp2_with fail
        go_round
        case rel => exact ⟨j + 1, _, by omega, by go_num, rfl, hsz.out, hnext⟩
        case measure => simp [intOf]; omega
      · obtain rfl : j = T.length := by omega
        have hfin : Hid (x = lineQ ⟨k, ⟨ao, an⟩, ⟨bo, bn⟩, T⟩) := Lib.hid (by rw [← hLA.out, bs_of x, hx.out])
        clear hx hlt
        go_wp2_with fail
        go_ret
        exact ⟨by rw [← hfin.out]; rfl, HBv.out⟩
  · rw [hbk] at h5 hL0
    have hok := hB2.out hbk
    have sb := SynL.ok_small (o := bo) (n := bn) hok
    have HPB := Lib.hid (fun w' => SynL.printRoleRef' bo bn w' sb.1 sb.2)
    have hrs2 : (bo ++ ⟨#[46]⟩ ++ bn : ByteArray).size ≤ 17 := by have := role_size (r := ⟨bo, bn⟩) hok; exact this
    have e8 : textR ⟨bo, bn⟩ = (bo ++ ⟨#[46]⟩ ++ bn : ByteArray) := rfl
    rw [e8] at hL0
    generalize (bo ++ ⟨#[46]⟩ ++ bn : ByteArray) = r2 at *
    have hLx : Hid (bs (x0 ++ (⟨#[32]⟩ ++ r2)) = lineTo ⟨k, ⟨ao, an⟩, ⟨bo, bn⟩, T⟩ 0) := Lib.hid (by
      rw [hL0.out, if_pos rfl, bs_app, bs_app]; simp [tailW, bs])
    have hxs : Hid ((x0 ++ (⟨#[32]⟩ ++ r2) : ByteArray).size ≤ 100) := Lib.hid (by
      rw [ByteArray.size_append, ByteArray.size_append]
      show _ + (1 + _) ≤ _
      omega)
    clear hbk hL0 hB2 hok sb e8
    go_wp2_with fail
    refine (HPB.out _).mono ?_
    rintro e wc ⟨rfl, hg⟩
    obtain ⟨hc2, hf2, hz2⟩ := hg.use
    have HBv := Lib.hid (hbw3.out.trans (hg.below.mono (by omega)))
    have HRv2 := Lib.hid (HRv.out.keep hg.below)
    clear hg hbw3 HRv HPB
    go_wp2_with fail
    go_loop [3, 34] (fun s i => ∃ (j : Nat) (x : ByteArray), j ≤ T.length ∧ i = .int .i64 j ∧ s = .string x ∧ x.size ≤ 100 + j * 9 ∧ Hid (bs x = lineTo ⟨k, ⟨ao, an⟩, ⟨bo, bn⟩, T⟩ j)) (fun _ i => T.length - (intOf i).toNat)
    case atStart => exact ⟨0, _, by omega, rfl, rfl, hxs.out, hLx⟩
    case round =>
      obtain ⟨j, x, hj, rfl, rfl, hxl, hx⟩ := hrel
      by_cases hlt : j < T.length
      · obtain ⟨g, off, rfl, hg, hcell⟩ := HRv2.out (by omega)
        have hc := hcell j hlt
        have hs8 := HTs.out T[j] (List.getElem_mem _)
        have hy := bs_str T[j]
        have hys := size_str T[j]
        have hn := hLS.out j hlt
        generalize hyy : (⟨T[j].toArray⟩ : ByteArray) = y at *
        have hys' : y.size ≤ 8 := by omega
        have hnext : Hid (bs (x ++ (⟨#[32]⟩ ++ y)) = lineTo ⟨k, ⟨ao, an⟩, ⟨bo, bn⟩, T⟩ (j + 1)) := Lib.hid (by
          rw [hn, bs_app, bs_app, hx.out, hy]; rfl)
        have hsz : Hid ((x ++ (⟨#[32]⟩ ++ y) : ByteArray).size ≤ 100 + (j + 1) * 9) := Lib.hid (by
          rw [ByteArray.size_append, ByteArray.size_append]
          show _ + (1 + _) ≤ _
          omega)
        have p1 : (0 : Int) ≤ j := by omega
        have p2 : (j : Int) < T.length := by omega
        clear hcell hn hy hys hyy hx
        go_wp2_with fail
        go_round
        case rel => exact ⟨j + 1, _, by omega, by go_num, rfl, hsz.out, hnext⟩
        case measure => simp [intOf]; omega
      · obtain rfl : j = T.length := by omega
        have hfin : Hid (x = lineQ ⟨k, ⟨ao, an⟩, ⟨bo, bn⟩, T⟩) := Lib.hid (by rw [← hLA.out, bs_of x, hx.out])
        clear hx hlt
        go_wp2_with fail
        go_ret
        exact ⟨by rw [← hfin.out]; rfl, HBv.out⟩
set_option maxHeartbeats 4000000 in
set_option maxRecDepth 100000 in
theorem printRef_alw (k : Int) (ao an bo bn : ByteArray) (A : Option Addr) (c : Nat) (T : List Str) (w : World) (h : Qy.right ⟨k, ⟨ao, an⟩, ⟨bo, bn⟩, T⟩ = true) (hu : univ k = true) (hA : SRow w A T) :
    Calls Tryz.prog 72 #[.agg #[.int .i64 k, .string ao, .string an, .string bo, .string bn, .slice A T.length c]] w (LinePost ⟨k, ⟨ao, an⟩, ⟨bo, bn⟩, T⟩ w) := by
  have hR := fun w' (hr : SRow w' A T) => Qry3.rightRef k ao an bo bn A c T w' (fit_of_right h) hr
  unfold RightPost at hR
  rw [h] at hR
  have HR := Lib.hid hR
  have HA := Lib.hid hA
  obtain ⟨pa, pc⟩ := right_parts h
  have sa := SynL.ok_small (o := ao) (n := an) pa
  have HP := Lib.hid (fun w' => SynL.printRoleRef' ao an w' sa.1 sa.2)
  have hU := fun w' => universalRef k w'
  rw [hu] at hU
  have HU := Lib.hid hU
  have HW : Hid (∀ w', Calls Tryz.prog 106 #[.int .i64 k] w' fun e w'' => e = .returned (.string (wordsT k)) ∧ RowKit.Below w'.heap.size w' w'') := Lib.hid (fun w' => (wordsRef k w').mono fun e w'' ⟨he, m, hm⟩ => ⟨he, by rw [hm]; exact below_drewN (Below.refl _ _) _⟩)
  have hTl := who_len h
  have hTl' : T.length ≤ 12 := hTl
  have HTs : Hid (∀ s ∈ T, s.length ≤ 8) := Lib.hid (who_small h)
  have h5 : decide (5 ≤ k) = hasBk k := ge5 h
  have hLA := Lib.hid (lineTo_all h)
  have hLS := Lib.hid (fun k' hk' => lineTo_succ (q := ⟨k, ⟨ao, an⟩, ⟨bo, bn⟩, T⟩) (k := k') hk')
  have hL0 : Hid (lineTo ⟨k, ⟨ao, an⟩, ⟨bo, bn⟩, T⟩ 0 = bs ((⟨#[97,108,119,97,121,115,32]⟩ : ByteArray) ++ (ao ++ ⟨#[46]⟩ ++ an ++ ⟨#[32]⟩ ++ wordsT k)) ++ (if hasBk k = true then tailW [bs (textR ⟨bo, bn⟩)] else [])) := Lib.hid (by
    unfold lineTo leadT
    simp only [hu]
    rw [bs_app, bs_app, bs_app]
    simp [tailW, textR, bs])
  have hB2 : Hid (hasBk k = true → Rl.ok ⟨bo, bn⟩ = true) := Lib.hid (fun hb => by
    rcases pc with ⟨_, e, _⟩ | ⟨e, _, _⟩ | ⟨_, _, _, e⟩
    · rw [show hasBk k = false from e] at hb; cases hb
    · have e' : k = 4 := e
      rw [e'] at hb; exact absurd hb (by decide)
    · exact e)
  have hrs : (ao ++ ⟨#[46]⟩ ++ an : ByteArray).size ≤ 17 := by have := role_size (r := ⟨ao, an⟩) pa; exact this
  have hws := wordsT_len k
  generalize hrole : (ao ++ ⟨#[46]⟩ ++ an : ByteArray) = rl at *
  generalize hwk : wordsT k = wk at *
  have s1 : (⟨#[32]⟩ : ByteArray).size = 1 := rfl
  have s2 : (rl ++ ⟨#[32]⟩ : ByteArray).size = rl.size + 1 := by rw [ByteArray.size_append, s1]
  have s3 : (rl ++ ⟨#[32]⟩ ++ wk : ByteArray).size = rl.size + 1 + wk.size := by rw [ByteArray.size_append, s2]
  have s4 : (⟨#[97,108,119,97,121,115,32]⟩ : ByteArray).size ≤ 7 := by decide
  have a1 := fun w => SynL.addS rl ⟨#[32]⟩ (by rw [s1]; omega) w
  have a2 := fun w => SynL.addS (rl ++ ⟨#[32]⟩) wk (by rw [s2]; omega) w
  have a3 := fun w => SynL.addS ⟨#[97,108,119,97,121,115,32]⟩ (rl ++ ⟨#[32]⟩ ++ wk) (by rw [s3]; omega) w
  have hx0 : (⟨#[97,108,119,97,121,115,32]⟩ ++ (rl ++ ⟨#[32]⟩ ++ wk) : ByteArray).size ≤ 40 := by rw [ByteArray.size_append, s3]; omega
  have q0 : ¬ (9223372036854775807 < rl.size + 1) := by omega
  have q1 : ¬ (9223372036854775807 < rl.size + 1 + wk.size) := by omega
  have q2 : ¬ (9223372036854775807 < (⟨#[97,108,119,97,121,115,32]⟩ : ByteArray).size + (rl.size + 1 + wk.size)) := by omega
  have q3 : ¬ (9223372036854775807 < 7 + (rl.size + 1 + wk.size)) := by omega
  clear h hR hA pa pc sa hTl hrole hwk hU hu s1 s2 s3 s4
  go_enter Tryz.func72, Tryz.ntmps72
  go_wp2_with fail
  refine (HR.out _ (HA.out.keep ((Below.refl _ _).alloc (Nat.le_refl _) _))).mono ?_
  rintro e w1 ⟨rfl, hb1⟩
  have hbox : ∀ o, w1.cell? ⟨w.heap.size, o, none⟩ = (#[.int .i64 k, .string ao, .string an, .string bo, .string bn, .slice A T.length c] : Array Value)[o]? := fun o => (hb1.cell (p := ⟨w.heap.size, o, none⟩) (by simp)).trans (Lib.cell_of_heap (heap_alloc_new w _) o)
  have hbw := Lib.hid (((Below.refl w.heap.size w).alloc (Nat.le_refl _) (.cells #[.int .i64 k, .string ao, .string an, .string bo, .string bn, .slice A T.length c] 26)).trans (hb1.mono (by simp)))
  have hz1' := hb1.size
  simp only [World.size_alloc] at hz1'
  have hzz : w.heap.size < w1.heap.size := by omega
  have HA1 := Lib.hid (HA.out.keep hbw.out)
  have HBX := Lib.hid hbox
  have c0 := hbox 0
  simp only [List.getElem?_toArray, List.getElem?_cons_zero] at c0
  clear hbox hb1 HR
  have A1 := Lib.hid a1
  have A2 := Lib.hid a2
  have A3 := Lib.hid a3
  clear a1 a2 a3
  go_wp2_with fail
  refine (HU.out _).mono ?_
  rintro e w2 ⟨rfl, m2, hw2⟩
  have hbw2 := Lib.hid (show RowKit.Below w.heap.size w w2 from by rw [hw2]; exact below_drewN hbw.out m2)
  have HA2 := Lib.hid (HA.out.keep hbw2.out)
  have HBX2 : Hid (∀ o, w2.cell? ⟨w.heap.size, o, none⟩ = (#[.int .i64 k, .string ao, .string an, .string bo, .string bn, .slice A T.length c] : Array Value)[o]?) := Lib.hid (by rw [hw2]; exact HBX.out)
  have hzz2 : w.heap.size < w2.heap.size := by rw [hw2]; exact hzz
  clear hw2 HBX HA1 hbw hzz c0 hz1' HU
  go_wp2_with fail
  have hst : RowKit.Below w2.heap.size w2 w2.drew ∧ (∀ o, w2.drew.cell? ⟨w.heap.size, o, none⟩ = (#[.int .i64 k, .string ao, .string an, .string bo, .string bn, .slice A T.length c] : Array Value)[o]?) := ⟨(Below.refl _ _).drew, HBX2.out⟩
  have a1 := A1.out
  have a2 := A2.out
  have a3 := A3.out
  go_region_held3 (fun w' => RowKit.Below w2.heap.size w2 w' ∧ (∀ o, w'.cell? ⟨w.heap.size, o, none⟩ = (#[.int .i64 k, .string ao, .string an, .string bo, .string bn, .slice A T.length c] : Array Value)[o]?))
    (first | with_reducible exact hst | with_reducible assumption | exact keepQ (by with_reducible assumption) hzz2 (by with_reducible assumption) | exact keepA (by with_reducible assumption) hzz2)
    (first | (go_at_call 71; refine (HP.out _).mono ?_; rintro e wp ⟨rfl, hg⟩; have hgbp := hg.below; clear hg) | (go_at_call 106; refine (HW.out _).mono ?_; rintro e wb ⟨rfl, hgb2⟩))
  rename_i hHeld
  have hbw3 := Lib.hid (hbw2.out.trans (hHeld.1.mono (by omega)))
  have HRv := Lib.hid (HA.out.keep hbw3.out)
  have c0 := hHeld.2 0
  have c3 := hHeld.2 3
  have c4 := hHeld.2 4
  have c5 := hHeld.2 5
  simp only [List.getElem?_toArray, List.getElem?_cons_zero, List.getElem?_cons_succ] at c0 c3 c4 c5
  have hzd : w.heap.size < wb.heap.size := Nat.lt_of_lt_of_le hzz2 hHeld.1.size
  clear a1 a2 a3 A1 A2 A3 hHeld hst HBX2 HA2 hbw2 hgbp hgb2 HP HW q0 q1 q2 q3
  generalize (⟨#[97,108,119,97,121,115,32]⟩ ++ (rl ++ ⟨#[32]⟩ ++ wk) : ByteArray) = x0 at *
  cases hbk : hasBk k
  · rw [hbk] at h5 hL0
    have hLx : Hid (bs x0 = lineTo ⟨k, ⟨ao, an⟩, ⟨bo, bn⟩, T⟩ 0) := Lib.hid (by rw [hL0.out, if_neg (by decide), List.append_nil])
    have HBv := hbw3
    have hxs : x0.size ≤ 100 := by omega
    clear hbk hL0 hbw3 hx0 hB2
    go_wp2_with fail
    go_loop [3, 34] (fun s i => ∃ (j : Nat) (x : ByteArray), j ≤ T.length ∧ i = .int .i64 j ∧ s = .string x ∧ x.size ≤ 100 + j * 9 ∧ Hid (bs x = lineTo ⟨k, ⟨ao, an⟩, ⟨bo, bn⟩, T⟩ j)) (fun _ i => T.length - (intOf i).toNat)
    case atStart => exact ⟨0, x0, by omega, rfl, rfl, by omega, hLx⟩
    case round =>
      obtain ⟨j, x, hj, rfl, rfl, hxl, hx⟩ := hrel
      by_cases hlt : j < T.length
      · obtain ⟨g, off, rfl, hg, hcell⟩ := HRv.out (by omega)
        have hc := hcell j hlt
        have hs8 := HTs.out T[j] (List.getElem_mem _)
        have hy := bs_str T[j]
        have hys := size_str T[j]
        have hn := hLS.out j hlt
        generalize hyy : (⟨T[j].toArray⟩ : ByteArray) = y at *
        have hys' : y.size ≤ 8 := by omega
        have hnext : Hid (bs (x ++ (⟨#[32]⟩ ++ y)) = lineTo ⟨k, ⟨ao, an⟩, ⟨bo, bn⟩, T⟩ (j + 1)) := Lib.hid (by
          rw [hn, bs_app, bs_app, hx.out, hy]; rfl)
        have hsz : Hid ((x ++ (⟨#[32]⟩ ++ y) : ByteArray).size ≤ 100 + (j + 1) * 9) := Lib.hid (by
          rw [ByteArray.size_append, ByteArray.size_append]
          show _ + (1 + _) ≤ _
          omega)
        have p1 : (0 : Int) ≤ j := by omega
        have p2 : (j : Int) < T.length := by omega
        clear hcell hn hy hys hyy hx
        go_wp2_with fail
        go_round
        case rel => exact ⟨j + 1, _, by omega, by go_num, rfl, hsz.out, hnext⟩
        case measure => simp [intOf]; omega
      · obtain rfl : j = T.length := by omega
        have hfin : Hid (x = lineQ ⟨k, ⟨ao, an⟩, ⟨bo, bn⟩, T⟩) := Lib.hid (by rw [← hLA.out, bs_of x, hx.out])
        clear hx hlt
        go_wp2_with fail
        go_ret
        exact ⟨by rw [← hfin.out]; rfl, HBv.out⟩
  · rw [hbk] at h5 hL0
    have hok := hB2.out hbk
    have sb := SynL.ok_small (o := bo) (n := bn) hok
    have HPB := Lib.hid (fun w' => SynL.printRoleRef' bo bn w' sb.1 sb.2)
    have hrs2 : (bo ++ ⟨#[46]⟩ ++ bn : ByteArray).size ≤ 17 := by have := role_size (r := ⟨bo, bn⟩) hok; exact this
    have e8 : textR ⟨bo, bn⟩ = (bo ++ ⟨#[46]⟩ ++ bn : ByteArray) := rfl
    rw [e8] at hL0
    generalize (bo ++ ⟨#[46]⟩ ++ bn : ByteArray) = r2 at *
    have hLx : Hid (bs (x0 ++ (⟨#[32]⟩ ++ r2)) = lineTo ⟨k, ⟨ao, an⟩, ⟨bo, bn⟩, T⟩ 0) := Lib.hid (by
      rw [hL0.out, if_pos rfl, bs_app, bs_app]; simp [tailW, bs])
    have hxs : Hid ((x0 ++ (⟨#[32]⟩ ++ r2) : ByteArray).size ≤ 100) := Lib.hid (by
      rw [ByteArray.size_append, ByteArray.size_append]
      show _ + (1 + _) ≤ _
      omega)
    clear hbk hL0 hB2 hok sb e8
    go_wp2_with fail
    refine (HPB.out _).mono ?_
    rintro e wc ⟨rfl, hg⟩
    obtain ⟨hc2, hf2, hz2⟩ := hg.use
    have HBv := Lib.hid (hbw3.out.trans (hg.below.mono (by omega)))
    have HRv2 := Lib.hid (HRv.out.keep hg.below)
    clear hg hbw3 HRv HPB
    go_wp2_with fail
    go_loop [3, 34] (fun s i => ∃ (j : Nat) (x : ByteArray), j ≤ T.length ∧ i = .int .i64 j ∧ s = .string x ∧ x.size ≤ 100 + j * 9 ∧ Hid (bs x = lineTo ⟨k, ⟨ao, an⟩, ⟨bo, bn⟩, T⟩ j)) (fun _ i => T.length - (intOf i).toNat)
    case atStart => exact ⟨0, _, by omega, rfl, rfl, hxs.out, hLx⟩
    case round =>
      obtain ⟨j, x, hj, rfl, rfl, hxl, hx⟩ := hrel
      by_cases hlt : j < T.length
      · obtain ⟨g, off, rfl, hg, hcell⟩ := HRv2.out (by omega)
        have hc := hcell j hlt
        have hs8 := HTs.out T[j] (List.getElem_mem _)
        have hy := bs_str T[j]
        have hys := size_str T[j]
        have hn := hLS.out j hlt
        generalize hyy : (⟨T[j].toArray⟩ : ByteArray) = y at *
        have hys' : y.size ≤ 8 := by omega
        have hnext : Hid (bs (x ++ (⟨#[32]⟩ ++ y)) = lineTo ⟨k, ⟨ao, an⟩, ⟨bo, bn⟩, T⟩ (j + 1)) := Lib.hid (by
          rw [hn, bs_app, bs_app, hx.out, hy]; rfl)
        have hsz : Hid ((x ++ (⟨#[32]⟩ ++ y) : ByteArray).size ≤ 100 + (j + 1) * 9) := Lib.hid (by
          rw [ByteArray.size_append, ByteArray.size_append]
          show _ + (1 + _) ≤ _
          omega)
        have p1 : (0 : Int) ≤ j := by omega
        have p2 : (j : Int) < T.length := by omega
        clear hcell hn hy hys hyy hx
        go_wp2_with fail
        go_round
        case rel => exact ⟨j + 1, _, by omega, by go_num, rfl, hsz.out, hnext⟩
        case measure => simp [intOf]; omega
      · obtain rfl : j = T.length := by omega
        have hfin : Hid (x = lineQ ⟨k, ⟨ao, an⟩, ⟨bo, bn⟩, T⟩) := Lib.hid (by rw [← hLA.out, bs_of x, hx.out])
        clear hx hlt
        go_wp2_with fail
        go_ret
        exact ⟨by rw [← hfin.out]; rfl, HBv.out⟩
theorem printRef (q : Qy) (A : Option Addr) (c : Nat) (w : World) (hf : q.fit) (hA : SRow w A q.who) : Calls Tryz.prog 72 #[q.val A c] w (LinePost q w) := by
  obtain ⟨k, ⟨ao, an⟩, ⟨bo, bn⟩, T⟩ := q
  cases h : Qy.right ⟨k, ⟨ao, an⟩, ⟨bo, bn⟩, T⟩
  · exact printRef_no k ao an bo bn A c T w hf h hA
  · cases hu : univ k
    · exact printRef_can k ao an bo bn A c T w h hu hA
    · exact printRef_alw k ao an bo bn A c T w h hu hA
end Go.Proofs.YtkmonmpfbchffaaGreat.QryJ
/- Which tokens a query's line may have at a place, in the document's answers, by contract. -/
namespace Go.Proofs.YtkmonmpfbchffaaGreat.QryW
set_option linter.unusedVariables false
set_option linter.unusedSimpArgs false
open Go.RowKit Go.Sort Go.Proofs Go.Proofs.YtkmonmpfbchffaaGreat.Plain Go.Proofs.YtkmonmpfbchffaaGreat.SynP Go.Proofs.YtkmonmpfbchffaaGreat.TabP Go.Proofs.YtkmonmpfbchffaaGreat.Grown Go.Proofs.YtkmonmpfbchffaaGreat.SynE Go.Proofs.YtkmonmpfbchffaaGreat.QryP Go.Proofs.YtkmonmpfbchffaaGreat.Qry4 Go.Proofs.YtkmonmpfbchffaaGreat.Qry5 Go.Proofs.YtkmonmpfbchffaaGreat.Qry6 Go.Proofs.YtkmonmpfbchffaaGreat.Qry7 Go.Proofs.YtkmonmpfbchffaaGreat.QryJ
set_option linter.unusedVariables false
set_option linter.unusedSimpArgs false
def nameB (k : Int) (x s : ByteArray) : Bool := decide (k = 2) && decide (x = s)
set_option maxRecDepth 100000 in
theorem nameG (k : Int) (x : ByteArray) (c : Int) (s : ByteArray) (w : World) :
    Calls Tryz.prog 105 #[.agg #[.int .i64 k, .string x, .int .i64 c], .string s] w fun e w' => e = .returned (.bool (nameB k x s)) ∧ Grew w w' := by
  have e := text_eq x s
  unfold nameB
  by_cases h2 : k = 2
  · subst h2
    by_cases hx : x = s
    · subst hx
      clear e
      go_enter Tryz.func105, Tryz.ntmps105
      go_wp2_with fail
      go_ret
      exact ⟨by simp, (Grew.refl _).alloc _⟩
    · have hne : (x.toList == s.toList) = false := by
        rw [beq_eq_false_iff_ne]
        intro h
        exact hx (e ▸ h)
      rw [decide_eq_false hx]
      clear e hx
      go_enter Tryz.func105, Tryz.ntmps105
      go_wp2_with fail
      go_ret
      exact ⟨by simp [hne], (Grew.refl _).alloc _⟩
  · have hk : (k == 2) = false := by simpa using h2
    rw [decide_eq_false h2]
    clear e h2
    go_enter Tryz.func105, Tryz.ntmps105
    go_wp2_with fail
    go_ret
    exact ⟨by simp, (Grew.refl _).alloc _⟩
theorem nameRef (k : Int) (x : ByteArray) (c : Int) (s : ByteArray) (w : World) :
    Calls Tryz.prog 105 #[.agg #[.int .i64 k, .string x, .int .i64 c], .string s] w fun e w' => e = .returned (.bool (nameB k x s)) ∧ RowKit.Below w.heap.size w w' := (nameG k x c s w).mono fun e w' h => ⟨h.1, h.2.below⟩
theorem mixed : Tryz.prog.follows .mixedOrders = true := by kernel_rfl
theorem frontRef (k : Int) (h1 : 1 ≤ k) (h6 : k ≤ 6) (w : World) : Calls Tryz.prog 42 #[.int .i64 k] w fun e w' => e = .returned (.int .i64 (shapeF k).length) ∧ w = w' := by
  have hk : k = 1 ∨ k = 2 ∨ k = 3 ∨ k = 4 ∨ k = 5 ∨ k = 6 := by omega
  rcases hk with rfl | rfl | rfl | rfl | rfl | rfl
  · go_enter Tryz.func42, Tryz.ntmps42
    go_wp2
    go_ret
    exact ⟨rfl, rfl⟩
  · go_enter Tryz.func42, Tryz.ntmps42
    go_wp2
    go_ret
    exact ⟨rfl, rfl⟩
  · go_enter Tryz.func42, Tryz.ntmps42
    go_wp2
    go_ret
    exact ⟨rfl, rfl⟩
  · go_enter Tryz.func42, Tryz.ntmps42
    go_wp2
    go_ret
    exact ⟨rfl, rfl⟩
  · go_enter Tryz.func42, Tryz.ntmps42
    go_wp2
    go_ret
    exact ⟨rfl, rfl⟩
  · go_enter Tryz.func42, Tryz.ntmps42
    go_wp2
    go_ret
    exact ⟨rfl, rfl⟩
def GoesP (b : Bool) (w : World) (e : Ending) (w' : World) : Prop := e = .returned (.bool b) ∧ RowKit.Below w.heap.size w w'
set_option maxRecDepth 100000 in
theorem goes1 (k : Int) (tk : Int) (x : ByteArray) (c : Int) (w : World) : Calls Tryz.prog 43 #[.int .i64 k, .int .i64 1, .agg #[.int .i64 tk, .string x, .int .i64 c]] w (GoesP (decide (tk = 1)) w) := by
  have hb0 := Lib.hid ((Below.refl w.heap.size w).alloc (Nat.le_refl _) (.cells #[.int .i64 tk, .string x, .int .i64 c] 34))
  by_cases h : tk = 1
  · subst h
    go_enter Tryz.func43, Tryz.ntmps43
    go_wp2_with fail
    go_ret
    exact ⟨by simp, hb0.out⟩
  · have hk : (tk == 1) = false := by simpa using h
    rw [decide_eq_false h]
    clear h
    go_enter Tryz.func43, Tryz.ntmps43
    go_wp2_with fail
    go_ret
    exact ⟨rfl, hb0.out⟩
set_option maxRecDepth 100000 in
theorem goes2 (k : Int) (tk : Int) (x : ByteArray) (c : Int) (w : World) : Calls Tryz.prog 43 #[.int .i64 k, .int .i64 2, .agg #[.int .i64 tk, .string x, .int .i64 c]] w (GoesP (decide (tk = 3)) w) := by
  have hb0 := Lib.hid ((Below.refl w.heap.size w).alloc (Nat.le_refl _) (.cells #[.int .i64 tk, .string x, .int .i64 c] 34))
  by_cases h : tk = 3
  · subst h
    go_enter Tryz.func43, Tryz.ntmps43
    go_wp2_with fail
    go_ret
    exact ⟨by simp, hb0.out⟩
  · have hk : (tk == 3) = false := by simpa using h
    rw [decide_eq_false h]
    clear h
    go_enter Tryz.func43, Tryz.ntmps43
    go_wp2_with fail
    go_ret
    exact ⟨rfl, hb0.out⟩
set_option maxRecDepth 100000 in
theorem goes3 (k : Int) (tk : Int) (x : ByteArray) (c : Int) (w : World) : Calls Tryz.prog 43 #[.int .i64 k, .int .i64 3, .agg #[.int .i64 tk, .string x, .int .i64 c]] w (GoesP (decide (tk = 2)) w) := by
  have hb0 := Lib.hid ((Below.refl w.heap.size w).alloc (Nat.le_refl _) (.cells #[.int .i64 tk, .string x, .int .i64 c] 34))
  by_cases h : tk = 2
  · subst h
    go_enter Tryz.func43, Tryz.ntmps43
    go_wp2_with fail
    go_ret
    exact ⟨by simp, hb0.out⟩
  · have hk : (tk == 2) = false := by simpa using h
    rw [decide_eq_false h]
    clear h
    go_enter Tryz.func43, Tryz.ntmps43
    go_wp2_with fail
    go_ret
    exact ⟨rfl, hb0.out⟩
set_option maxRecDepth 100000 in
theorem goes5 (k : Int) (hk : k = 5 ∨ k = 6) (tk : Int) (x : ByteArray) (c : Int) (w : World) : Calls Tryz.prog 43 #[.int .i64 k, .int .i64 5, .agg #[.int .i64 tk, .string x, .int .i64 c]] w (GoesP (decide (tk = 1)) w) := by
  have hb0 := Lib.hid ((Below.refl w.heap.size w).alloc (Nat.le_refl _) (.cells #[.int .i64 tk, .string x, .int .i64 c] 34))
  rcases hk with rfl | rfl
  all_goals
    by_cases h : tk = 1
    · subst h
      go_enter Tryz.func43, Tryz.ntmps43
      go_wp2_with fail
      go_ret
      exact ⟨by simp, hb0.out⟩
    · have hk : (tk == 1) = false := by simpa using h
      rw [decide_eq_false h]
      clear h
      go_enter Tryz.func43, Tryz.ntmps43
      go_wp2_with fail
      go_ret
      exact ⟨rfl, hb0.out⟩
set_option maxRecDepth 100000 in
theorem goes6 (k : Int) (hk : k = 5 ∨ k = 6) (tk : Int) (x : ByteArray) (c : Int) (w : World) : Calls Tryz.prog 43 #[.int .i64 k, .int .i64 6, .agg #[.int .i64 tk, .string x, .int .i64 c]] w (GoesP (decide (tk = 3)) w) := by
  have hb0 := Lib.hid ((Below.refl w.heap.size w).alloc (Nat.le_refl _) (.cells #[.int .i64 tk, .string x, .int .i64 c] 34))
  rcases hk with rfl | rfl
  all_goals
    by_cases h : tk = 3
    · subst h
      go_enter Tryz.func43, Tryz.ntmps43
      go_wp2_with fail
      go_ret
      exact ⟨by simp, hb0.out⟩
    · have hk : (tk == 3) = false := by simpa using h
      rw [decide_eq_false h]
      clear h
      go_enter Tryz.func43, Tryz.ntmps43
      go_wp2_with fail
      go_ret
      exact ⟨rfl, hb0.out⟩
set_option maxRecDepth 100000 in
theorem goes7 (k : Int) (hk : k = 5 ∨ k = 6) (tk : Int) (x : ByteArray) (c : Int) (w : World) : Calls Tryz.prog 43 #[.int .i64 k, .int .i64 7, .agg #[.int .i64 tk, .string x, .int .i64 c]] w (GoesP (decide (tk = 2)) w) := by
  have hb0 := Lib.hid ((Below.refl w.heap.size w).alloc (Nat.le_refl _) (.cells #[.int .i64 tk, .string x, .int .i64 c] 34))
  rcases hk with rfl | rfl
  all_goals
    by_cases h : tk = 2
    · subst h
      go_enter Tryz.func43, Tryz.ntmps43
      go_wp2_with fail
      go_ret
      exact ⟨by simp, hb0.out⟩
    · have hk : (tk == 2) = false := by simpa using h
      rw [decide_eq_false h]
      clear h
      go_enter Tryz.func43, Tryz.ntmps43
      go_wp2_with fail
      go_ret
      exact ⟨rfl, hb0.out⟩
set_option maxRecDepth 100000 in
theorem goes0A (k : Int) (hu : univ k = true) (tk : Int) (x : ByteArray) (c : Int) (w : World) : Calls Tryz.prog 43 #[.int .i64 k, .int .i64 0, .agg #[.int .i64 tk, .string x, .int .i64 c]] w (GoesP (nameB tk x ⟨#[97, 108, 119, 97, 121, 115]⟩) w) := by
  have hb0 := Lib.hid ((Below.refl w.heap.size w).alloc (Nat.le_refl _) (.cells #[.int .i64 tk, .string x, .int .i64 c] 34))
  have hU := fun w' => universalRef k w'
  rw [hu] at hU
  have HU := Lib.hid hU
  have hN := fun w' => nameRef tk x c ⟨#[97, 108, 119, 97, 121, 115]⟩ w'
  generalize nameB tk x ⟨#[97, 108, 119, 97, 121, 115]⟩ = b at *
  have HN := Lib.hid hN
  clear hU hN hu
  cases b
  · skip
    go_enter Tryz.func43, Tryz.ntmps43
    go_wp2_with fail
    refine (HU.out _).mono ?_
    rintro e w1 ⟨rfl, n, rfl⟩
    go_wp2_with fail
    refine (HN.out _).mono ?_
    rintro e w2 ⟨rfl, hb2⟩
    go_wp2_with fail
    refine (HU.out _).mono ?_
    rintro e w3 ⟨rfl, m, rfl⟩
    go_wp2_with fail
    go_ret
    exact ⟨rfl, below_drewN ((below_drewN hb0.out n).trans (hb2.mono (by simp))) m⟩
  · skip
    go_enter Tryz.func43, Tryz.ntmps43
    go_wp2_with fail
    refine (HU.out _).mono ?_
    rintro e w1 ⟨rfl, n, rfl⟩
    go_wp2_with fail
    refine (HN.out _).mono ?_
    rintro e w2 ⟨rfl, hb2⟩
    go_wp2_with fail
    go_ret
    exact ⟨rfl, (below_drewN hb0.out n).trans (hb2.mono (by simp))⟩
set_option maxRecDepth 100000 in
theorem goes0C (k : Int) (hu : univ k = false) (tk : Int) (x : ByteArray) (c : Int) (w : World) : Calls Tryz.prog 43 #[.int .i64 k, .int .i64 0, .agg #[.int .i64 tk, .string x, .int .i64 c]] w (GoesP (nameB tk x ⟨#[99, 97, 110]⟩) w) := by
  have hb0 := Lib.hid ((Below.refl w.heap.size w).alloc (Nat.le_refl _) (.cells #[.int .i64 tk, .string x, .int .i64 c] 34))
  have hU := fun w' => universalRef k w'
  rw [hu] at hU
  have HU := Lib.hid hU
  have hN := fun w' => nameRef tk x c ⟨#[99, 97, 110]⟩ w'
  generalize nameB tk x ⟨#[99, 97, 110]⟩ = b at *
  have HN := Lib.hid hN
  clear hU hN hu
  cases b
  · skip
    go_enter Tryz.func43, Tryz.ntmps43
    go_wp2_with fail
    refine (HU.out _).mono ?_
    rintro e w1 ⟨rfl, n, rfl⟩
    go_wp2_with fail
    refine (HU.out _).mono ?_
    rintro e w1 ⟨rfl, m, rfl⟩
    go_wp2_with fail
    refine (HN.out _).mono ?_
    rintro e w2 ⟨rfl, hb2⟩
    go_wp2_with fail
    go_ret
    exact ⟨rfl, (below_drewN hb0.out (n + m)).trans (hb2.mono (by simp))⟩
  · skip
    go_enter Tryz.func43, Tryz.ntmps43
    go_wp2_with fail
    refine (HU.out _).mono ?_
    rintro e w1 ⟨rfl, n, rfl⟩
    go_wp2_with fail
    refine (HU.out _).mono ?_
    rintro e w1 ⟨rfl, m, rfl⟩
    go_wp2_with fail
    refine (HN.out _).mono ?_
    rintro e w2 ⟨rfl, hb2⟩
    go_wp2_with fail
    go_ret
    exact ⟨rfl, (below_drewN hb0.out (n + m)).trans (hb2.mono (by simp))⟩
set_option maxRecDepth 100000 in
theorem goes5E (tk : Int) (x : ByteArray) (c : Int) (w : World) : Calls Tryz.prog 43 #[.int .i64 4, .int .i64 5, .agg #[.int .i64 tk, .string x, .int .i64 c]] w (GoesP (nameB tk x ⟨#[101, 109, 112, 116, 121]⟩) w) := by
  have hb0 := Lib.hid ((Below.refl w.heap.size w).alloc (Nat.le_refl _) (.cells #[.int .i64 tk, .string x, .int .i64 c] 34))
  have hN := fun w' => nameRef tk x c ⟨#[101, 109, 112, 116, 121]⟩ w'
  generalize nameB tk x ⟨#[101, 109, 112, 116, 121]⟩ = b at *
  have HN := Lib.hid hN
  clear hN
  cases b
  all_goals
    go_enter Tryz.func43, Tryz.ntmps43
    go_wp2_with fail
    refine (HN.out _).mono ?_
    rintro e w2 ⟨rfl, hb2⟩
    go_wp2_with fail
    go_ret
    exact ⟨rfl, hb0.out.trans (hb2.mono (by simp))⟩
end Go.Proofs.YtkmonmpfbchffaaGreat.QryW
