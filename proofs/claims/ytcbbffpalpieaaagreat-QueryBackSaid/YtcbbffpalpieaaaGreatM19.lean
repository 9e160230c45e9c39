/- The line of a query, in the document's answers, by contract. -/
import Derived.Test.YtcbbffpalpieaaaGreatM17
import Derived.Test.YtcbbffpalpieaaaGreatM18
import Derived.Test.YtcbbffpalpieaaaGreatM15
import Derived.Test.YtcbbffpalpieaaaGreatM12
import Derived.Test.YtcbbffpalpieaaaGreatM14
import Derived.Test.YtcbbffpalpieaaaGreatM16
import Derived.Deep.RegionHeld3
import Derived.Test.YtcbbffpalpieaaaGreatM13
namespace Go.Proofs.YtcbbffpalpieaaaGreat.QryJ
set_option linter.unusedVariables false
set_option linter.unusedSimpArgs false
open Go.RowKit Go.Sort Go.Proofs Go.Proofs.YtcbbffpalpieaaaGreat.Plain Go.Proofs.YtcbbffpalpieaaaGreat.SynP Go.Proofs.YtcbbffpalpieaaaGreat.TabP Go.Proofs.YtcbbffpalpieaaaGreat.Tab1 Go.Proofs.YtcbbffpalpieaaaGreat.Grown Go.Proofs.YtcbbffpalpieaaaGreat.SynC Go.Proofs.YtcbbffpalpieaaaGreat.SynW Go.Proofs.YtcbbffpalpieaaaGreat.QryP Go.Proofs.YtcbbffpalpieaaaGreat.Qry2 Go.Proofs.YtcbbffpalpieaaaGreat.Qry4 Go.Proofs.YtcbbffpalpieaaaGreat.Qry5 Go.Proofs.YtcbbffpalpieaaaGreat.QryG Go.Proofs.YtcbbffpalpieaaaGreat.Qry6 Go.Proofs.YtcbbffpalpieaaaGreat.Qry7 Go.Proofs.YtcbbffpalpieaaaGreat.QryA Go.Proofs.YtcbbffpalpieaaaGreat.QryL Go.Proofs.YtcbbffpalpieaaaGreat.QryH Go.Proofs.YtcbbffpalpieaaaGreat.QryI
set_option linter.unusedVariables false
set_option linter.unusedSimpArgs false
theorem wordsRef (k : Int) (w : World) : Calls Tryz.prog 13 #[.int .i64 k] w fun e w' => e = .returned (.string (wordsT k)) ∧ ∃ n, w' = w.drewN n := by
  rcases kinds6 k with rfl | rfl | rfl | rfl | rfl | rfl | hk
  · go_enter Tryz.func13, Tryz.ntmps13
    go_wp2
    go_ret
    exact ⟨rfl, 0, rfl⟩
  · go_enter Tryz.func13, Tryz.ntmps13
    go_wp2
    go_ret
    exact ⟨rfl, 0, rfl⟩
  · go_enter Tryz.func13, Tryz.ntmps13
    go_wp2
    go_ret
    exact ⟨rfl, 0, rfl⟩
  · go_enter Tryz.func13, Tryz.ntmps13
    go_wp2
    go_ret
    exact ⟨rfl, 0, rfl⟩
  · go_enter Tryz.func13, Tryz.ntmps13
    go_wp2
    go_ret
    exact ⟨rfl, 0, rfl⟩
  · go_enter Tryz.func13, Tryz.ntmps13
    go_wp2
    go_ret
    exact ⟨rfl, 0, rfl⟩
  · have hf : wordsT k = noText := by
      unfold wordsT
      rw [if_neg (by omega), if_neg (by omega), if_neg (by omega), if_neg (by omega), if_neg (by omega), if_neg (by omega)]
    obtain ⟨e1, e2, e3, e4, e5, e6⟩ := Qry6.others hk
    rw [hf]
    clear hf hk
    go_enter Tryz.func13, Tryz.ntmps13
    go_wp2
    go_ret
    exact ⟨rfl, 0, rfl⟩
theorem size_str (s : Str) : (⟨s.toArray⟩ : ByteArray).size = s.length := rfl
set_option maxHeartbeats 1000000 in
set_option maxRecDepth 100000 in
theorem printRef_no (k : Int) (ao an bo bn : ByteArray) (A : Option Addr) (c : Nat) (T : List Str) (w : World) (hf : Qy.fit ⟨k, ⟨ao, an⟩, ⟨bo, bn⟩, T⟩) (h : Qy.right ⟨k, ⟨ao, an⟩, ⟨bo, bn⟩, T⟩ = false) (hA : SRow w A T) :
    Calls Tryz.prog 15 #[.agg #[.int .i64 k, .string ao, .string an, .string bo, .string bn, .slice A T.length c]] w (LinePost ⟨k, ⟨ao, an⟩, ⟨bo, bn⟩, T⟩ w) := by
  have hR := fun w' (hr : SRow w' A T) => Qry3.rightRef k ao an bo bn A c T w' hf hr
  unfold RightPost at hR
  rw [h] at hR
  have HR := Lib.hid hR
  have HA := Lib.hid hA
  have HL : Hid (lineQ ⟨k, ⟨ao, an⟩, ⟨bo, bn⟩, T⟩ = noText) := Lib.hid (by unfold lineQ; rw [if_neg (by rw [h]; decide)])
  clear h hR hf hA
  go_enter Tryz.func15, Tryz.ntmps15
  go_wp2_with fail
  refine (HR.out _ (HA.out.keep ((Below.refl _ _).alloc (Nat.le_refl _) _))).mono ?_
  rintro e w1 ⟨rfl, hb⟩
  go_wp2_with fail
  go_ret
  exact ⟨by rw [HL.out]; rfl, ((Below.refl _ _).alloc (Nat.le_refl _) _).trans (hb.mono (by simp))⟩
theorem bs_app (a b : ByteArray) : bs (a ++ b) = bs a ++ bs b := by
  unfold bs; rw [ByteArray.data_append, Array.toList_append]
theorem bs_str (s : Str) : bs ⟨s.toArray⟩ = s := rfl
theorem wordsT_len (k : Int) : (wordsT k).size ≤ 8 := by unfold wordsT; (repeat' split) <;> decide
theorem ge5 {q : Qy} (h : q.right = true) : decide (5 ≤ q.kind) = hasBk q.kind := by
  rcases right_kind h with e | e | e | e | e | e <;> rw [e] <;> rfl
/-- The text of a line behind k principals. -/
def lineTo (q : Qy) (k : Nat) : Str := bs (leadT q.kind) ++ tailW [bs (textR q.a)] ++ (32 :: bs (wordsT q.kind)) ++ (if hasBk q.kind = true then tailW [bs (textR q.b)] else []) ++ tailW (q.who.take k)
theorem lineTo_succ {q : Qy} {k : Nat} (h : k < q.who.length) : lineTo q (k + 1) = lineTo q k ++ (32 :: q.who[k]) := by
  unfold lineTo
  rw [List.take_succ_eq_append_getElem h, tailW_app, ← List.append_assoc]
  congr 1
  rw [tailW_cons, tailW_nil, List.append_nil]
theorem lineTo_all {q : Qy} (h : q.right = true) : (⟨(lineTo q q.who.length).toArray⟩ : ByteArray) = lineQ q := by
  unfold lineQ lineTo lineL
  rw [if_pos h, List.take_length]
theorem who_small {q : Qy} (h : q.right = true) : ∀ s ∈ q.who, s.length ≤ 8 := by
  intro s hs
  rcases (right_parts h).2 with ⟨_, _, hw, _, _⟩ | ⟨_, hw, _⟩ | ⟨_, _, hw, _⟩
  · exact prin_len ((who_parts hw).2.1 s hs)
  · rw [hw] at hs; simp at hs
  · rw [hw] at hs; simp at hs
set_option maxHeartbeats 4000000 in
set_option maxRecDepth 100000 in
theorem printRef_can (k : Int) (ao an bo bn : ByteArray) (A : Option Addr) (c : Nat) (T : List Str) (w : World) (h : Qy.right ⟨k, ⟨ao, an⟩, ⟨bo, bn⟩, T⟩ = true) (hu : univ k = false) (hA : SRow w A T) :
    Calls Tryz.prog 15 #[.agg #[.int .i64 k, .string ao, .string an, .string bo, .string bn, .slice A T.length c]] w (LinePost ⟨k, ⟨ao, an⟩, ⟨bo, bn⟩, T⟩ w) := by
  have hR := fun w' (hr : SRow w' A T) => Qry3.rightRef k ao an bo bn A c T w' (fit_of_right h) hr
  unfold RightPost at hR
  rw [h] at hR
  have HR := Lib.hid hR
  have HA := Lib.hid hA
  obtain ⟨pa, pc⟩ := right_parts h
  have sa := SynL.ok_small (o := ao) (n := an) pa
  have HP := Lib.hid (fun w' => SynL.printRoleRef' ao an w' sa.1 sa.2)
  have hU := fun w' => universalRef k w'
  rw [hu] at hU
  have HU := Lib.hid hU
  have HW : Hid (∀ w', Calls Tryz.prog 13 #[.int .i64 k] w' fun e w'' => e = .returned (.string (wordsT k)) ∧ RowKit.Below w'.heap.size w' w'') := Lib.hid (fun w' => (wordsRef k w').mono fun e w'' ⟨he, m, hm⟩ => ⟨he, by rw [hm]; exact below_drewN (Below.refl _ _) _⟩)
  have hTl := who_len h
  have hTl' : T.length ≤ 12 := hTl
  have HTs : Hid (∀ s ∈ T, s.length ≤ 8) := Lib.hid (who_small h)
  have h5 : decide (5 ≤ k) = hasBk k := ge5 h
  have hLA := Lib.hid (lineTo_all h)
  have hLS := Lib.hid (fun k' hk' => lineTo_succ (q := ⟨k, ⟨ao, an⟩, ⟨bo, bn⟩, T⟩) (k := k') hk')
  have hL0 : Hid (lineTo ⟨k, ⟨ao, an⟩, ⟨bo, bn⟩, T⟩ 0 = bs ((⟨#[99,97,110,32]⟩ : ByteArray) ++ (ao ++ ⟨#[46]⟩ ++ an ++ ⟨#[32]⟩ ++ wordsT k)) ++ (if hasBk k = true then tailW [bs (textR ⟨bo, bn⟩)] else [])) := Lib.hid (by
    unfold lineTo leadT
    simp only [hu]
    rw [bs_app, bs_app, bs_app]
    simp [tailW, textR, bs])
  have hB2 : Hid (hasBk k = true → Rl.ok ⟨bo, bn⟩ = true) := Lib.hid (fun hb => by
    rcases pc with ⟨_, e, _⟩ | ⟨e, _, _⟩ | ⟨_, _, _, e⟩
    · rw [show hasBk k = false from e] at hb; cases hb
    · have e' : k = 4 := e
      rw [e'] at hb; exact absurd hb (by decide)
    · exact e)
  have hrs : (ao ++ ⟨#[46]⟩ ++ an : ByteArray).size ≤ 17 := by have := role_size (r := ⟨ao, an⟩) pa; exact this
  have hws := wordsT_len k
  generalize hrole : (ao ++ ⟨#[46]⟩ ++ an : ByteArray) = rl at *
  generalize hwk : wordsT k = wk at *
  have s1 : (⟨#[32]⟩ : ByteArray).size = 1 := rfl
  have s2 : (rl ++ ⟨#[32]⟩ : ByteArray).size = rl.size + 1 := by rw [ByteArray.size_append, s1]
  have s3 : (rl ++ ⟨#[32]⟩ ++ wk : ByteArray).size = rl.size + 1 + wk.size := by rw [ByteArray.size_append, s2]
  have s4 : (⟨#[99,97,110,32]⟩ : ByteArray).size ≤ 7 := by decide
  have a1 := fun w => SynL.addS rl ⟨#[32]⟩ (by rw [s1]; omega) w
  have a2 := fun w => SynL.addS (rl ++ ⟨#[32]⟩) wk (by rw [s2]; omega) w
  have a3 := fun w => SynL.addS ⟨#[99,97,110,32]⟩ (rl ++ ⟨#[32]⟩ ++ wk) (by rw [s3]; omega) w
  have hx0 : (⟨#[99,97,110,32]⟩ ++ (rl ++ ⟨#[32]⟩ ++ wk) : ByteArray).size ≤ 40 := by rw [ByteArray.size_append, s3]; omega
  have q0 : ¬ (9223372036854775807 < rl.size + 1) := by omega
  have q1 : ¬ (9223372036854775807 < rl.size + 1 + wk.size) := by omega
  have q2 : ¬ (9223372036854775807 < (⟨#[99,97,110,32]⟩ : ByteArray).size + (rl.size + 1 + wk.size)) := by omega
  have q3 : ¬ (9223372036854775807 < 4 + (rl.size + 1 + wk.size)) := by omega
  clear h hR hA pa pc sa hTl hrole hwk hU hu s1 s2 s3 s4
  go_enter Tryz.func15, Tryz.ntmps15
  go_wp2_with fail
  refine (HR.out _ (HA.out.keep ((Below.refl _ _).alloc (Nat.le_refl _) _))).mono ?_
  rintro e w1 ⟨rfl, hb1⟩
  have hbox : ∀ o, w1.cell? ⟨w.heap.size, o, none⟩ = (#[.int .i64 k, .string ao, .string an, .string bo, .string bn, .slice A T.length c] : Array Value)[o]? := fun o => (hb1.cell (p := ⟨w.heap.size, o, none⟩) (by simp)).trans (Lib.cell_of_heap (heap_alloc_new w _) o)
  have hbw := Lib.hid (((Below.refl w.heap.size w).alloc (Nat.le_refl _) (.cells #[.int .i64 k, .string ao, .string an, .string bo, .string bn, .slice A T.length c] 26)).trans (hb1.mono (by simp)))
  have hz1' := hb1.size
  simp only [World.size_alloc] at hz1'
  have hzz : w.heap.size < w1.heap.size := by omega
  have HA1 := Lib.hid (HA.out.keep hbw.out)
  have HBX := Lib.hid hbox
  have c0 := hbox 0
  simp only [List.getElem?_toArray, List.getElem?_cons_zero] at c0
  clear hbox hb1 HR
  have A1 := Lib.hid a1
  have A2 := Lib.hid a2
  have A3 := Lib.hid a3
  clear a1 a2 a3
  go_wp2_with fail
  refine (HU.out _).mono ?_
  rintro e w2 ⟨rfl, m2, hw2⟩
  have hbw2 := Lib.hid (show RowKit.Below w.heap.size w w2 from by rw [hw2]; exact below_drewN hbw.out m2)
  have HA2 := Lib.hid (HA.out.keep hbw2.out)
  have HBX2 : Hid (∀ o, w2.cell? ⟨w.heap.size, o, none⟩ = (#[.int .i64 k, .string ao, .string an, .string bo, .string bn, .slice A T.length c] : Array Value)[o]?) := Lib.hid (by rw [hw2]; exact HBX.out)
  have hzz2 : w.heap.size < w2.heap.size := by rw [hw2]; exact hzz
  clear hw2 HBX HA1 hbw hzz c0 hz1' HU
  go_wp2_with fail
  have hst : RowKit.Below w2.heap.size w2 w2.drew ∧ (∀ o, w2.drew.cell? ⟨w.heap.size, o, none⟩ = (#[.int .i64 k, .string ao, .string an, .string bo, .string bn, .slice A T.length c] : Array Value)[o]?) := ⟨(Below.refl _ _).drew, HBX2.out⟩
  have a1 := A1.out
  have a2 := A2.out
  have a3 := A3.out
  go_region_held3 (fun w' => RowKit.Below w2.heap.size w2 w' ∧ (∀ o, w'.cell? ⟨w.heap.size, o, none⟩ = (#[.int .i64 k, .string ao, .string an, .string bo, .string bn, .slice A T.length c] : Array Value)[o]?))
    (first | with_reducible exact hst | with_reducible assumption | exact keepQ (by with_reducible assumption) hzz2 (by with_reducible assumption) | exact keepA (by with_reducible assumption) hzz2)
    (first | (go_at_call 36; refine (HP.out _).mono ?_; rintro e wp ⟨rfl, hg⟩; have hgbp := hg.below; clear hg) | (go_at_call 13; refine (HW.out _).mono ?_; rintro e wb ⟨rfl, hgb2⟩))
  rename_i hHeld
  have hbw3 := Lib.hid (hbw2.out.trans (hHeld.1.mono (by omega)))
  have HRv := Lib.hid (HA.out.keep hbw3.out)
  have c0 := hHeld.2 0
  have c3 := hHeld.2 3
  have c4 := hHeld.2 4
  have c5 := hHeld.2 5
  simp only [List.getElem?_toArray, List.getElem?_cons_zero, List.getElem?_cons_succ] at c0 c3 c4 c5
  have hzd : w.heap.size < wb.heap.size := Nat.lt_of_lt_of_le hzz2 hHeld.1.size
  clear a1 a2 a3 A1 A2 A3 hHeld hst HBX2 HA2 hbw2 hgbp hgb2 HP HW q0 q1 q2 q3
  generalize (⟨#[99,97,110,32]⟩ ++ (rl ++ ⟨#[32]⟩ ++ wk) : ByteArray) = x0 at *
  cases hbk : hasBk k
  · rw [hbk] at h5 hL0
    have hLx : Hid (bs x0 = lineTo ⟨k, ⟨ao, an⟩, ⟨bo, bn⟩, T⟩ 0) := Lib.hid (by rw [hL0.out, if_neg (by decide), List.append_nil])
    have HBv := hbw3
    have hxs : x0.size ≤ 100 := by omega
    clear hbk hL0 hbw3 hx0 hB2
    go_wp2_with fail
    go_loop [3, 34] (fun s i => ∃ (j : Nat) (x : ByteArray), j ≤ T.length ∧ i = .int .i64 j ∧ s = .string x ∧ x.size ≤ 100 + j * 9 ∧ Hid (bs x = lineTo ⟨k, ⟨ao, an⟩, ⟨bo, bn⟩, T⟩ j)) (fun _ i => T.length - (intOf i).toNat)
    case atStart => exact ⟨0, x0, by omega, rfl, rfl, by omega, hLx⟩
    case round =>
      obtain ⟨j, x, hj, rfl, rfl, hxl, hx⟩ := hrel
      by_cases hlt : j < T.length
      · obtain ⟨g, off, rfl, hg, hcell⟩ := HRv.out (by omega)
        have hc := hcell j hlt
        have hs8 := HTs.out T[j] (List.getElem_mem _)
        have hy := bs_str T[j]
        have hys := size_str T[j]
        have hn := hLS.out j hlt
        generalize hyy : (⟨T[j].toArray⟩ : ByteArray) = y at *
        have hys' : y.size ≤ 8 := by omega
        have hnext : Hid (bs (x ++ (⟨#[32]⟩ ++ y)) = lineTo ⟨k, ⟨ao, an⟩, ⟨bo, bn⟩, T⟩ (j + 1)) := Lib.hid (by
          rw [hn, bs_app, bs_app, hx.out, hy]; rfl)
        have hsz : Hid ((x ++ (⟨#[32]⟩ ++ y) : ByteArray).size ≤ 100 + (j + 1) * 9) := Lib.hid (by
          rw [ByteArray.size_append, ByteArray.size_append]
          show _ + (1 + _) ≤ _
          omega)
        have p1 : (0 : Int) ≤ j := by omega
        have p2 : (j : Int) < T.length := by omega
        clear hcell hn hy hys hyy hx
        go_wp2_with fail
        go_round
        case rel => exact ⟨j + 1, _, by omega, by go_num, rfl, hsz.out, hnext⟩
        case measure => simp [intOf]; omega
      · obtain rfl : j = T.length := by omega
        have hfin : Hid (x = lineQ ⟨k, ⟨ao, an⟩, ⟨bo, bn⟩, T⟩) := Lib.hid (by rw [← hLA.out, bs_of x, hx.out])
        clear hx hlt
        go_wp2_with fail
        go_ret
        exact ⟨by rw [← hfin.out]; rfl, HBv.out⟩
  · rw [hbk] at h5 hL0
    have hok := hB2.out hbk
    have sb := SynL.ok_small (o := bo) (n := bn) hok
    have HPB := Lib.hid (fun w' => SynL.printRoleRef' bo bn w' sb.1 sb.2)
    have hrs2 : (bo ++ ⟨#[46]⟩ ++ bn : ByteArray).size ≤ 17 := by have := role_size (r := ⟨bo, bn⟩) hok; exact this
    have e8 : textR ⟨bo, bn⟩ = (bo ++ ⟨#[46]⟩ ++ bn : ByteArray) := rfl
    rw [e8] at hL0
    generalize (bo ++ ⟨#[46]⟩ ++ bn : ByteArray) = r2 at *
    have hLx : Hid (bs (x0 ++ (⟨#[32]⟩ ++ r2)) = lineTo ⟨k, ⟨ao, an⟩, ⟨bo, bn⟩, T⟩ 0) := Lib.hid (by
      rw [hL0.out, if_pos rfl, bs_app, bs_app]; simp [tailW, bs])
    have hxs : Hid ((x0 ++ (⟨#[32]⟩ ++ r2) : ByteArray).size ≤ 100) := Lib.hid (by
      rw [ByteArray.size_append, ByteArray.size_append]
      show _ + (1 + _) ≤ _
      omega)
    clear hbk hL0 hB2 hok sb e8
    go_wp2_with fail
    refine (HPB.out _).mono ?_
    rintro e wc ⟨rfl, hg⟩
    obtain ⟨hc2, hf2, hz2⟩ := hg.use
    have HBv := Lib.hid (hbw3.out.trans (hg.below.mono (by omega)))
    have HRv2 := Lib.hid (HRv.out.keep hg.below)
    clear hg hbw3 HRv HPB
    go_wp2_with fail
    go_loop [3, 34] (fun s i => ∃ (j : Nat) (x : ByteArray), j ≤ T.length ∧ i = .int .i64 j ∧ s = .string x ∧ x.size ≤ 100 + j * 9 ∧ Hid (bs x = lineTo ⟨k, ⟨ao, an⟩, ⟨bo, bn⟩, T⟩ j)) (fun _ i => T.length - (intOf i).toNat)
    case atStart => exact ⟨0, _, by omega, rfl, rfl, hxs.out, hLx⟩
    case round =>
      obtain ⟨j, x, hj, rfl, rfl, hxl, hx⟩ := hrel
      by_cases hlt : j < T.length
      · obtain ⟨g, off, rfl, hg, hcell⟩ := HRv2.out (by omega)
        have hc := hcell j hlt
        have hs8 := HTs.out T[j] (List.getElem_mem _)
        have hy := bs_str T[j]
        have hys := size_str T[j]
        have hn := hLS.out j hlt
        generalize hyy : (⟨T[j].toArray⟩ : ByteArray) = y at *
        have hys' : y.size ≤ 8 := by omega
        have hnext : Hid (bs (x ++ (⟨#[32]⟩ ++ y)) = lineTo ⟨k, ⟨ao, an⟩, ⟨bo, bn⟩, T⟩ (j + 1)) := Lib.hid (by
          rw [hn, bs_app, bs_app, hx.out, hy]; rfl)
        have hsz : Hid ((x ++ (⟨#[32]⟩ ++ y) : ByteArray).size ≤ 100 + (j + 1) * 9) := Lib.hid (by
          rw [ByteArray.size_append, ByteArray.size_append]
          show _ + (1 + _) ≤ _
          omega)
        have p1 : (0 : Int) ≤ j := by omega
        have p2 : (j : Int) < T.length := by omega
        clear hcell hn hy hys hyy hx
        go_wp2_with fail
        go_round
        case rel => exact ⟨j + 1, _, by omega, by go_num, rfl, hsz.out, hnext⟩
        case measure => simp [intOf]; omega
      · obtain rfl : j = T.length := by omega
        have hfin : Hid (x = lineQ ⟨k, ⟨ao, an⟩, ⟨bo, bn⟩, T⟩) := Lib.hid (by rw [← hLA.out, bs_of x, hx.out])
        clear hx hlt
        go_wp2_with fail
        go_ret
        exact ⟨by rw [← hfin.out]; rfl, HBv.out⟩
set_option maxHeartbeats 4000000 in
set_option maxRecDepth 100000 in
theorem printRef_alw (k : Int) (ao an bo bn : ByteArray) (A : Option Addr) (c : Nat) (T : List Str) (w : World) (h : Qy.right ⟨k, ⟨ao, an⟩, ⟨bo, bn⟩, T⟩ = true) (hu : univ k = true) (hA : SRow w A T) :
    Calls Tryz.prog 15 #[.agg #[.int .i64 k, .string ao, .string an, .string bo, .string bn, .slice A T.length c]] w (LinePost ⟨k, ⟨ao, an⟩, ⟨bo, bn⟩, T⟩ w) := by
  have hR := fun w' (hr : SRow w' A T) => Qry3.rightRef k ao an bo bn A c T w' (fit_of_right h) hr
  unfold RightPost at hR
  rw [h] at hR
  have HR := Lib.hid hR
  have HA := Lib.hid hA
  obtain ⟨pa, pc⟩ := right_parts h
  have sa := SynL.ok_small (o := ao) (n := an) pa
  have HP := Lib.hid (fun w' => SynL.printRoleRef' ao an w' sa.1 sa.2)
  have hU := fun w' => universalRef k w'
  rw [hu] at hU
  have HU := Lib.hid hU
  have HW : Hid (∀ w', Calls Tryz.prog 13 #[.int .i64 k] w' fun e w'' => e = .returned (.string (wordsT k)) ∧ RowKit.Below w'.heap.size w' w'') := Lib.hid (fun w' => (wordsRef k w').mono fun e w'' ⟨he, m, hm⟩ => ⟨he, by rw [hm]; exact below_drewN (Below.refl _ _) _⟩)
  have hTl := who_len h
  have hTl' : T.length ≤ 12 := hTl
  have HTs : Hid (∀ s ∈ T, s.length ≤ 8) := Lib.hid (who_small h)
  have h5 : decide (5 ≤ k) = hasBk k := ge5 h
  have hLA := Lib.hid (lineTo_all h)
  have hLS := Lib.hid (fun k' hk' => lineTo_succ (q := ⟨k, ⟨ao, an⟩, ⟨bo, bn⟩, T⟩) (k := k') hk')
  have hL0 : Hid (lineTo ⟨k, ⟨ao, an⟩, ⟨bo, bn⟩, T⟩ 0 = bs ((⟨#[97,108,119,97,121,115,32]⟩ : ByteArray) ++ (ao ++ ⟨#[46]⟩ ++ an ++ ⟨#[32]⟩ ++ wordsT k)) ++ (if hasBk k = true then tailW [bs (textR ⟨bo, bn⟩)] else [])) := Lib.hid (by
    unfold lineTo leadT
    simp only [hu]
    rw [bs_app, bs_app, bs_app]
    simp [tailW, textR, bs])
  have hB2 : Hid (hasBk k = true → Rl.ok ⟨bo, bn⟩ = true) := Lib.hid (fun hb => by
    rcases pc with ⟨_, e, _⟩ | ⟨e, _, _⟩ | ⟨_, _, _, e⟩
    · rw [show hasBk k = false from e] at hb; cases hb
    · have e' : k = 4 := e
      rw [e'] at hb; exact absurd hb (by decide)
    · exact e)
  have hrs : (ao ++ ⟨#[46]⟩ ++ an : ByteArray).size ≤ 17 := by have := role_size (r := ⟨ao, an⟩) pa; exact this
  have hws := wordsT_len k
  generalize hrole : (ao ++ ⟨#[46]⟩ ++ an : ByteArray) = rl at *
  generalize hwk : wordsT k = wk at *
  have s1 : (⟨#[32]⟩ : ByteArray).size = 1 := rfl
  have s2 : (rl ++ ⟨#[32]⟩ : ByteArray).size = rl.size + 1 := by rw [ByteArray.size_append, s1]
  have s3 : (rl ++ ⟨#[32]⟩ ++ wk : ByteArray).size = rl.size + 1 + wk.size := by rw [ByteArray.size_append, s2]
  have s4 : (⟨#[97,108,119,97,121,115,32]⟩ : ByteArray).size ≤ 7 := by decide
  have a1 := fun w => SynL.addS rl ⟨#[32]⟩ (by rw [s1]; omega) w
  have a2 := fun w => SynL.addS (rl ++ ⟨#[32]⟩) wk (by rw [s2]; omega) w
  have a3 := fun w => SynL.addS ⟨#[97,108,119,97,121,115,32]⟩ (rl ++ ⟨#[32]⟩ ++ wk) (by rw [s3]; omega) w
  have hx0 : (⟨#[97,108,119,97,121,115,32]⟩ ++ (rl ++ ⟨#[32]⟩ ++ wk) : ByteArray).size ≤ 40 := by rw [ByteArray.size_append, s3]; omega
  have q0 : ¬ (9223372036854775807 < rl.size + 1) := by omega
  have q1 : ¬ (9223372036854775807 < rl.size + 1 + wk.size) := by omega
  have q2 : ¬ (9223372036854775807 < (⟨#[97,108,119,97,121,115,32]⟩ : ByteArray).size + (rl.size + 1 + wk.size)) := by omega
  have q3 : ¬ (9223372036854775807 < 7 + (rl.size + 1 + wk.size)) := by omega
  clear h hR hA pa pc sa hTl hrole hwk hU hu s1 s2 s3 s4
  go_enter Tryz.func15, Tryz.ntmps15
  go_wp2_with fail
  refine (HR.out _ (HA.out.keep ((Below.refl _ _).alloc (Nat.le_refl _) _))).mono ?_
  rintro e w1 ⟨rfl, hb1⟩
  have hbox : ∀ o, w1.cell? ⟨w.heap.size, o, none⟩ = (#[.int .i64 k, .string ao, .string an, .string bo, .string bn, .slice A T.length c] : Array Value)[o]? := fun o => (hb1.cell (p := ⟨w.heap.size, o, none⟩) (by simp)).trans (Lib.cell_of_heap (heap_alloc_new w _) o)
  have hbw := Lib.hid (((Below.refl w.heap.size w).alloc (Nat.le_refl _) (.cells #[.int .i64 k, .string ao, .string an, .string bo, .string bn, .slice A T.length c] 26)).trans (hb1.mono (by simp)))
  have hz1' := hb1.size
  simp only [World.size_alloc] at hz1'
  have hzz : w.heap.size < w1.heap.size := by omega
  have HA1 := Lib.hid (HA.out.keep hbw.out)
  have HBX := Lib.hid hbox
  have c0 := hbox 0
  simp only [List.getElem?_toArray, List.getElem?_cons_zero] at c0
  clear hbox hb1 HR
  have A1 := Lib.hid a1
  have A2 := Lib.hid a2
  have A3 := Lib.hid a3
  clear a1 a2 a3
  go_wp2_with fail
  refine (HU.out _).mono ?_
  rintro e w2 ⟨rfl, m2, hw2⟩
  have hbw2 := Lib.hid (show RowKit.Below w.heap.size w w2 from by rw [hw2]; exact below_drewN hbw.out m2)
  have HA2 := Lib.hid (HA.out.keep hbw2.out)
  have HBX2 : Hid (∀ o, w2.cell? ⟨w.heap.size, o, none⟩ = (#[.int .i64 k, .string ao, .string an, .string bo, .string bn, .slice A T.length c] : Array Value)[o]?) := Lib.hid (by rw [hw2]; exact HBX.out)
  have hzz2 : w.heap.size < w2.heap.size := by rw [hw2]; exact hzz
  clear hw2 HBX HA1 hbw hzz c0 hz1' HU
  go_wp2_with fail
  have hst : RowKit.Below w2.heap.size w2 w2.drew ∧ (∀ o, w2.drew.cell? ⟨w.heap.size, o, none⟩ = (#[.int .i64 k, .string ao, .string an, .string bo, .string bn, .slice A T.length c] : Array Value)[o]?) := ⟨(Below.refl _ _).drew, HBX2.out⟩
  have a1 := A1.out
  have a2 := A2.out
  have a3 := A3.out
  go_region_held3 (fun w' => RowKit.Below w2.heap.size w2 w' ∧ (∀ o, w'.cell? ⟨w.heap.size, o, none⟩ = (#[.int .i64 k, .string ao, .string an, .string bo, .string bn, .slice A T.length c] : Array Value)[o]?))
    (first | with_reducible exact hst | with_reducible assumption | exact keepQ (by with_reducible assumption) hzz2 (by with_reducible assumption) | exact keepA (by with_reducible assumption) hzz2)
    (first | (go_at_call 36; refine (HP.out _).mono ?_; rintro e wp ⟨rfl, hg⟩; have hgbp := hg.below; clear hg) | (go_at_call 13; refine (HW.out _).mono ?_; rintro e wb ⟨rfl, hgb2⟩))
  rename_i hHeld
  have hbw3 := Lib.hid (hbw2.out.trans (hHeld.1.mono (by omega)))
  have HRv := Lib.hid (HA.out.keep hbw3.out)
  have c0 := hHeld.2 0
  have c3 := hHeld.2 3
  have c4 := hHeld.2 4
  have c5 := hHeld.2 5
  simp only [List.getElem?_toArray, List.getElem?_cons_zero, List.getElem?_cons_succ] at c0 c3 c4 c5
  have hzd : w.heap.size < wb.heap.size := Nat.lt_of_lt_of_le hzz2 hHeld.1.size
  clear a1 a2 a3 A1 A2 A3 hHeld hst HBX2 HA2 hbw2 hgbp hgb2 HP HW q0 q1 q2 q3
  generalize (⟨#[97,108,119,97,121,115,32]⟩ ++ (rl ++ ⟨#[32]⟩ ++ wk) : ByteArray) = x0 at *
  cases hbk : hasBk k
  · rw [hbk] at h5 hL0
    have hLx : Hid (bs x0 = lineTo ⟨k, ⟨ao, an⟩, ⟨bo, bn⟩, T⟩ 0) := Lib.hid (by rw [hL0.out, if_neg (by decide), List.append_nil])
    have HBv := hbw3
    have hxs : x0.size ≤ 100 := by omega
    clear hbk hL0 hbw3 hx0 hB2
    go_wp2_with fail
    go_loop [3, 34] (fun s i => ∃ (j : Nat) (x : ByteArray), j ≤ T.length ∧ i = .int .i64 j ∧ s = .string x ∧ x.size ≤ 100 + j * 9 ∧ Hid (bs x = lineTo ⟨k, ⟨ao, an⟩, ⟨bo, bn⟩, T⟩ j)) (fun _ i => T.length - (intOf i).toNat)
    case atStart => exact ⟨0, x0, by omega, rfl, rfl, by omega, hLx⟩
    case round =>
      obtain ⟨j, x, hj, rfl, rfl, hxl, hx⟩ := hrel
      by_cases hlt : j < T.length
      · obtain ⟨g, off, rfl, hg, hcell⟩ := HRv.out (by omega)
        have hc := hcell j hlt
        have hs8 := HTs.out T[j] (List.getElem_mem _)
        have hy := bs_str T[j]
        have hys := size_str T[j]
        have hn := hLS.out j hlt
        generalize hyy : (⟨T[j].toArray⟩ : ByteArray) = y at *
        have hys' : y.size ≤ 8 := by omega
        have hnext : Hid (bs (x ++ (⟨#[32]⟩ ++ y)) = lineTo ⟨k, ⟨ao, an⟩, ⟨bo, bn⟩, T⟩ (j + 1)) := Lib.hid (by
          rw [hn, bs_app, bs_app, hx.out, hy]; rfl)
        have hsz : Hid ((x ++ (⟨#[32]⟩ ++ y) : ByteArray).size ≤ 100 + (j + 1) * 9) := Lib.hid (by
          rw [ByteArray.size_append, ByteArray.size_append]
          show _ + (1 + _) ≤ _
          omega)
        have p1 : (0 : Int) ≤ j := by omega
        have p2 : (j : Int) < T.length := by omega
        clear hcell hn hy hys hyy hx
        go_wp2_with fail
        go_round
        case rel => exact ⟨j + 1, _, by omega, by go_num, rfl, hsz.out, hnext⟩
        case measure => simp [intOf]; omega
      · obtain rfl : j = T.length := by omega
        have hfin : Hid (x = lineQ ⟨k, ⟨ao, an⟩, ⟨bo, bn⟩, T⟩) := Lib.hid (by rw [← hLA.out, bs_of x, hx.out])
        clear hx hlt
        go_wp2_with fail
        go_ret
        exact ⟨by rw [← hfin.out]; rfl, HBv.out⟩
  · rw [hbk] at h5 hL0
    have hok := hB2.out hbk
    have sb := SynL.ok_small (o := bo) (n := bn) hok
    have HPB := Lib.hid (fun w' => SynL.printRoleRef' bo bn w' sb.1 sb.2)
    have hrs2 : (bo ++ ⟨#[46]⟩ ++ bn : ByteArray).size ≤ 17 := by have := role_size (r := ⟨bo, bn⟩) hok; exact this
    have e8 : textR ⟨bo, bn⟩ = (bo ++ ⟨#[46]⟩ ++ bn : ByteArray) := rfl
    rw [e8] at hL0
    generalize (bo ++ ⟨#[46]⟩ ++ bn : ByteArray) = r2 at *
    have hLx : Hid (bs (x0 ++ (⟨#[32]⟩ ++ r2)) = lineTo ⟨k, ⟨ao, an⟩, ⟨bo, bn⟩, T⟩ 0) := Lib.hid (by
      rw [hL0.out, if_pos rfl, bs_app, bs_app]; simp [tailW, bs])
    have hxs : Hid ((x0 ++ (⟨#[32]⟩ ++ r2) : ByteArray).size ≤ 100) := Lib.hid (by
      rw [ByteArray.size_append, ByteArray.size_append]
      show _ + (1 + _) ≤ _
      omega)
    clear hbk hL0 hB2 hok sb e8
    go_wp2_with fail
    refine (HPB.out _).mono ?_
    rintro e wc ⟨rfl, hg⟩
    obtain ⟨hc2, hf2, hz2⟩ := hg.use
    have HBv := Lib.hid (hbw3.out.trans (hg.below.mono (by omega)))
    have HRv2 := Lib.hid (HRv.out.keep hg.below)
    clear hg hbw3 HRv HPB
    go_wp2_with fail
    go_loop [3, 34] (fun s i => ∃ (j : Nat) (x : ByteArray), j ≤ T.length ∧ i = .int .i64 j ∧ s = .string x ∧ x.size ≤ 100 + j * 9 ∧ Hid (bs x = lineTo ⟨k, ⟨ao, an⟩, ⟨bo, bn⟩, T⟩ j)) (fun _ i => T.length - (intOf i).toNat)
    case atStart => exact ⟨0, _, by omega, rfl, rfl, hxs.out, hLx⟩
    case round =>
      obtain ⟨j, x, hj, rfl, rfl, hxl, hx⟩ := hrel
      by_cases hlt : j < T.length
      · obtain ⟨g, off, rfl, hg, hcell⟩ := HRv2.out (by omega)
        have hc := hcell j hlt
        have hs8 := HTs.out T[j] (List.getElem_mem _)
        have hy := bs_str T[j]
        have hys := size_str T[j]
        have hn := hLS.out j hlt
        generalize hyy : (⟨T[j].toArray⟩ : ByteArray) = y at *
        have hys' : y.size ≤ 8 := by omega
        have hnext : Hid (bs (x ++ (⟨#[32]⟩ ++ y)) = lineTo ⟨k, ⟨ao, an⟩, ⟨bo, bn⟩, T⟩ (j + 1)) := Lib.hid (by
          rw [hn, bs_app, bs_app, hx.out, hy]; rfl)
        have hsz : Hid ((x ++ (⟨#[32]⟩ ++ y) : ByteArray).size ≤ 100 + (j + 1) * 9) := Lib.hid (by
          rw [ByteArray.size_append, ByteArray.size_append]
          show _ + (1 + _) ≤ _
          omega)
        have p1 : (0 : Int) ≤ j := by omega
        have p2 : (j : Int) < T.length := by omega
        clear hcell hn hy hys hyy hx
        go_wp2_with fail
        go_round
        case rel => exact ⟨j + 1, _, by omega, by go_num, rfl, hsz.out, hnext⟩
        case measure => simp [intOf]; omega
      · obtain rfl : j = T.length := by omega
        have hfin : Hid (x = lineQ ⟨k, ⟨ao, an⟩, ⟨bo, bn⟩, T⟩) := Lib.hid (by rw [← hLA.out, bs_of x, hx.out])
        clear hx hlt
        go_wp2_with fail
        go_ret
        exact ⟨by rw [← hfin.out]; rfl, HBv.out⟩
theorem printRef (q : Qy) (A : Option Addr) (c : Nat) (w : World) (hf : q.fit) (hA : SRow w A q.who) : Calls Tryz.prog 15 #[q.val A c] w (LinePost q w) := by
  obtain ⟨k, ⟨ao, an⟩, ⟨bo, bn⟩, T⟩ := q
  cases h : Qy.right ⟨k, ⟨ao, an⟩, ⟨bo, bn⟩, T⟩
  · exact printRef_no k ao an bo bn A c T w hf h hA
  · cases hu : univ k
    · exact printRef_can k ao an bo bn A c T w h hu hA
    · exact printRef_alw k ao an bo bn A c T w h hu hA
end Go.Proofs.YtcbbffpalpieaaaGreat.QryJ
/- Plain mathematics: the tokens of a statement's line; a statement that is right is parsed from its line; what is parsed is right. -/
namespace Go.Proofs.YtcbbffpalpieaaaGreat.SynZ
set_option linter.unusedVariables false
set_option linter.unusedSimpArgs false
open Go.RowKit Go.Proofs.YtcbbffpalpieaaaGreat.Plain Go.Proofs.YtcbbffpalpieaaaGreat.SynP Go.Proofs.YtcbbffpalpieaaaGreat.SynQ Go.Proofs.YtcbbffpalpieaaaGreat.Scan2 Go.Proofs.YtcbbffpalpieaaaGreat.Scan3 Go.Proofs.YtcbbffpalpieaaaGreat.SynR Go.Proofs.YtcbbffpalpieaaaGreat.SynW Go.Proofs.YtcbbffpalpieaaaGreat.SynV Go.Proofs.YtcbbffpalpieaaaGreat.SynX Go.Proofs.YtcbbffpalpieaaaGreat.SynL Go.Proofs.YtcbbffpalpieaaaGreat.Syn2 Go.Proofs.YtcbbffpalpieaaaGreat.Syn3 Go.Proofs.YtcbbffpalpieaaaGreat.Syn4
def arr : ByteArray := ⟨#[32, 60, 45, 32]⟩
def ampS : ByteArray := ⟨#[32, 38, 32]⟩
theorem app_list (a b : ByteArray) : (a ++ b).data.toList = a.data.toList ++ b.data.toList := by
  rw [ByteArray.data_append, Array.toList_append]
theorem text_eqR (r : Rl) : text r = textR r := rfl
/-- What stands ahead of a statement's body. -/
theorem run_head {h : Rl} {body : ByteArray} (hh : h.ok = true) : ∃ k L, (textR h ++ arr ++ body).data.toList.drop k = body.data.toList ∧ L = roleTk h 0 ++ [⟨4, arrow, (textR h).size + 1 + 1⟩] ∧ tkRun (textR h ++ arr ++ body) 0 [] = tkRun (textR h ++ arr ++ body) k L ∧ k = (textR h).size + 4 := by
  have e : (textR h ++ arr ++ body).data.toList = (textR h).data.toList ++ (32 :: 60 :: 45 :: 32 :: body.data.toList) := by
    rw [app_list, app_list, List.append_assoc]; rfl
  obtain ⟨a1, b1⟩ := run_role (s := textR h ++ arr ++ body) (k := 0) (L := []) (rest := 32 :: 60 :: 45 :: 32 :: body.data.toList) (by rw [List.drop_zero]; exact e) hh (stops_sp _)
  obtain ⟨a2, b2⟩ := run_sp (L := [] ++ roleTk h 0) b1
  obtain ⟨a3, b3⟩ := run_arrow (L := [] ++ roleTk h 0) b2
  obtain ⟨a4, b4⟩ := run_sp (L := [] ++ roleTk h 0 ++ [⟨4, arrow, 0 + (textR h).size + 1 + 1⟩]) b3
  refine ⟨_, _, b4, ?_, by rw [a1, a2, a3, a4], by omega⟩
  simp
theorem body_ne35 {h : Rl} {body : ByteArray} (hh : h.ok = true) (hb : ∀ c ∈ body.data.toList, c ≠ 35) : ∀ c ∈ (textR h ++ arr ++ body).data.toList, c ≠ 35 := by
  intro c hc
  rw [app_list, app_list] at hc
  rcases List.mem_append.1 hc with hc | hc
  · rcases List.mem_append.1 hc with hc | hc
    · exact role_ne35 hh c hc
    · rcases (by simpa [arr] using hc : c = 32 ∨ c = 60 ∨ c = 45 ∨ c = 32) with rfl | rfl | rfl | rfl <;> decide
  · exact hb c hc
/-- The tokens of a line, out of those of its body. -/
theorem line_toks {h : Rl} {body : ByteArray} (hh : h.ok = true) (hb : ∀ c ∈ body.data.toList, c ≠ 35) (hs : body.size ≤ 100) {k : Nat} (hk : k = (textR h).size + 4) {M : List Tk}
    (hM : ∀ (s : ByteArray) (L : List Tk), s.data.toList.drop k = body.data.toList → tkRun s k L = .ok (L ++ M)) : ansOf (textR h ++ arr ++ body) = .ok (roleTk h 0 ++ [⟨4, arrow, (textR h).size + 1 + 1⟩] ++ M) := by
  obtain ⟨k', L, h1, h2, h3, h4⟩ := run_head (body := body) hh
  have hz := role_size hh
  have e : (textR h ++ arr ++ body).size = (textR h).size + 4 + body.size := by rw [ByteArray.size_append, ByteArray.size_append]; rfl
  unfold ansOf
  rw [if_neg (by omega), bare_no35 (body_ne35 hh hb), h3, h4, ← hk, ← h2]
  exact hM _ L (by rw [hk, ← h4]; exact h1)
theorem toks1 {h : Rl} {w : ByteArray} (hh : h.ok = true) (hw : named capB w.data.toList = true) : ansOf (textR h ++ arr ++ w) = .ok (roleTk h 0 ++ [⟨4, arrow, (textR h).size + 1 + 1⟩] ++ [⟨1, w, (textR h).size + 4 + 1⟩]) := by
  obtain ⟨_, _, _, _, _, _, h8, _⟩ := named_cons hw
  refine line_toks hh (named_ne35 hw) (by omega) rfl ?_
  intro s L hd
  obtain ⟨a, b⟩ := run_cap (L := L) (w := w) (rest := []) (by simpa using hd) hw stops_nil
  rw [a]; exact run_done b
theorem toks2 {h a : Rl} (hh : h.ok = true) (ha : a.ok = true) : ansOf (textR h ++ arr ++ textR a) = .ok (roleTk h 0 ++ [⟨4, arrow, (textR h).size + 1 + 1⟩] ++ roleTk a ((textR h).size + 4)) := by
  have := role_size ha
  refine line_toks hh (role_ne35 ha) (by omega) rfl ?_
  intro s L hd
  obtain ⟨x, y⟩ := run_role (L := L) (r := a) (rest := []) (by simpa using hd) ha stops_nil
  rw [x]; exact run_done y
theorem toks3 {h a : Rl} {v : ByteArray} (hh : h.ok = true) (ha : a.ok = true) (hv : named smallB v.data.toList = true) : ∃ c1 c2, ansOf (textR h ++ arr ++ (textR a ++ ⟨#[46]⟩ ++ v)) = .ok (roleTk h 0 ++ [⟨4, arrow, (textR h).size + 1 + 1⟩] ++ (roleTk a ((textR h).size + 4) ++ [⟨3, dot, c1⟩] ++ [⟨2, v, c2⟩])) := by
  have := role_size ha
  obtain ⟨_, _, _, _, _, _, h8, _⟩ := named_cons hv
  refine ⟨(textR h).size + 4 + (textR a).size + 1, (textR h).size + 4 + (textR a).size + 1 + 1, line_toks hh ?_ (by rw [ByteArray.size_append, ByteArray.size_append]; show _ + 1 + _ ≤ _; omega) rfl ?_⟩
  · intro c hc
    rw [app_list, app_list] at hc
    rcases List.mem_append.1 hc with hc | hc
    · rcases List.mem_append.1 hc with hc | hc
      · exact role_ne35 ha c hc
      · rcases (by simpa using hc : c = 46) with rfl; decide
    · exact named_ne35 hv c hc
  · intro s L hd
    have hd' : s.data.toList.drop ((textR h).size + 4) = (textR a).data.toList ++ (46 :: (v.data.toList ++ [])) := by
      rw [hd, app_list, app_list]; simp
    obtain ⟨x1, y1⟩ := run_role (L := L) (r := a) hd' ha (stops_dot _)
    obtain ⟨x2, y2⟩ := run_dot (L := L ++ roleTk a ((textR h).size + 4)) y1
    obtain ⟨x3, y3⟩ := run_small (L := L ++ roleTk a ((textR h).size + 4) ++ [⟨3, dot, (textR h).size + 4 + (textR a).size + 1⟩]) y2 hv stops_nil
    rw [x1, x2, x3, run_done y3]; simp
theorem toks4 {h a b : Rl} (hh : h.ok = true) (ha : a.ok = true) (hb : b.ok = true) : ∃ c1 c2, ansOf (textR h ++ arr ++ (textR a ++ ampS ++ textR b)) = .ok (roleTk h 0 ++ [⟨4, arrow, (textR h).size + 1 + 1⟩] ++ (roleTk a ((textR h).size + 4) ++ [⟨5, amp, c1⟩] ++ roleTk b c2)) := by
  have := role_size ha
  have := role_size hb
  refine ⟨(textR h).size + 4 + (textR a).size + 1 + 1, (textR h).size + 4 + (textR a).size + 1 + 1 + 1, line_toks hh ?_ (by rw [ByteArray.size_append, ByteArray.size_append]; show _ + 3 + _ ≤ _; omega) rfl ?_⟩
  · intro c hc
    rw [app_list, app_list] at hc
    rcases List.mem_append.1 hc with hc | hc
    · rcases List.mem_append.1 hc with hc | hc
      · exact role_ne35 ha c hc
      · rcases (by simpa [ampS] using hc : c = 32 ∨ c = 38 ∨ c = 32) with rfl | rfl | rfl <;> decide
    · exact role_ne35 hb c hc
  · intro s L hd
    have hd' : s.data.toList.drop ((textR h).size + 4) = (textR a).data.toList ++ (32 :: 38 :: 32 :: ((textR b).data.toList ++ [])) := by
      rw [hd, app_list, app_list]; simp [ampS]
    obtain ⟨x1, y1⟩ := run_role (L := L) (r := a) hd' ha (stops_sp _)
    obtain ⟨x2, y2⟩ := run_sp (L := L ++ roleTk a ((textR h).size + 4)) y1
    obtain ⟨x3, y3⟩ := run_amp (L := L ++ roleTk a ((textR h).size + 4)) y2
    obtain ⟨x4, y4⟩ := run_sp (L := L ++ roleTk a ((textR h).size + 4) ++ [⟨5, amp, (textR h).size + 4 + (textR a).size + 1 + 1⟩]) y3
    obtain ⟨x5, y5⟩ := run_role (L := L ++ roleTk a ((textR h).size + 4) ++ [⟨5, amp, (textR h).size + 4 + (textR a).size + 1 + 1⟩]) (r := b) y4 hb stops_nil
    rw [x1, x2, x3, x4, x5, run_done y5]; simp
theorem cmpR_anti (a b : Rl) : cmpR b a = - cmpR a b := by
  unfold cmpR
  rw [cmpB_anti a.owner b.owner, cmpB_anti a.name b.name]
  by_cases h : cmpB a.owner b.owner = 0
  · rw [h, Int.neg_zero, orL_cons0, orL_cons0, orL_one, orL_one]
  · rw [orL_cons1 _ h, orL_cons1 _ (by omega)]
theorem normal_other {s : St} (h : s.kind ≠ 4) : s.normal = s := if_neg (fun e => h e.1)
theorem parsed {t : ByteArray} {L : List Tk} {k : Nat} (h : ansOf t = .ok L) (h1 : 1 ≤ k) (h4 : k ≤ 4) (hk : kindsOf L = shapeK k) : ansOf t = .ok L ∧ parseL L = ((stmtOf k L).normal, 0, 0) := ⟨h, parseL_hit h1 h4 hk⟩
/-- A right statement's parts. -/
theorem right_all {s : St} (h : s.right = true) : s.head.ok = true ∧ ((s.kind = 1 ∧ named capB s.who.data.toList = true ∧ s.a = zeroR ∧ s.b = zeroR ∧ s.via = noText) ∨ (s.kind = 2 ∧ s.who = noText ∧ s.a.ok = true ∧ s.b = zeroR ∧ s.via = noText) ∨
    (s.kind = 3 ∧ s.who = noText ∧ s.a.ok = true ∧ s.b = zeroR ∧ named smallB s.via.data.toList = true) ∨ (s.kind = 4 ∧ s.who = noText ∧ s.a.ok = true ∧ s.b.ok = true ∧ ¬ cmpR s.b s.a < 0 ∧ s.via = noText)) := by
  obtain ⟨k, hd, wh, a, b, v⟩ := s
  unfold St.right at h
  simp only [Bool.and_eq_true, decide_eq_true_eq] at h
  obtain ⟨⟨h1, h2⟩, h3⟩ := h
  refine ⟨h1, ?_⟩
  rcases kinds k with rfl | rfl | rfl | rfl | ⟨n1, n2, n3, n4⟩
  rotate_left 4
  · unfold St.says at h2
    rw [if_neg n1, if_neg n2, if_neg n3, if_neg n4] at h2; cases h2
  · have h3' : (⟨1, hd, wh, a, b, v⟩ : St) = ⟨1, hd, wh, zeroR, zeroR, noText⟩ := h3
    injection h3' with _ _ _ ea eb ev
    exact .inl ⟨rfl, h2, ea, eb, ev⟩
  · have h3' : (⟨2, hd, wh, a, b, v⟩ : St) = ⟨2, hd, noText, a, zeroR, noText⟩ := h3
    injection h3' with _ _ ew _ eb ev
    exact .inr (.inl ⟨rfl, ew, h2, eb, ev⟩)
  · have h3' : (⟨3, hd, wh, a, b, v⟩ : St) = ⟨3, hd, noText, a, zeroR, v⟩ := h3
    injection h3' with _ _ ew _ eb _
    have h2' : (a.ok && named smallB v.data.toList) = true := h2
    rw [Bool.and_eq_true] at h2'
    exact .inr (.inr (.inl ⟨rfl, ew, h2'.1, eb, h2'.2⟩))
  · have h3' : (⟨4, hd, wh, a, b, v⟩ : St) = ⟨4, hd, noText, a, b, noText⟩ := h3
    injection h3' with _ _ ew _ _ ev
    have h2' : (a.ok && b.ok && !decide (cmpR b a < 0)) = true := h2
    simp only [Bool.and_eq_true, Bool.not_eq_true', decide_eq_false_iff_not] at h2'
    exact .inr (.inr (.inr ⟨rfl, ew, h2'.1.1, h2'.1.2, h2'.2, ev⟩))
theorem line_right {s : St} (h : s.right = true) : line s = textR s.head ++ arr ++ body s := if_pos h
/-- A right statement is parsed from its line. -/
theorem parse_line {s : St} (h : s.right = true) : ∃ L, ansOf (line s) = .ok L ∧ parseL L = (s, 0, 0) := by
  obtain ⟨hh, hc⟩ := right_all h
  rw [line_right h]
  obtain ⟨k, hd, wh, a, b, v⟩ := s
  simp only at hh hc
  rcases hc with ⟨rfl, hw, rfl, rfl, rfl⟩ | ⟨rfl, rfl, ha, rfl, rfl⟩ | ⟨rfl, rfl, ha, rfl, hv⟩ | ⟨rfl, rfl, ha, hb, hle, rfl⟩
  · obtain ⟨e1, e2⟩ := parsed (k := 1) (toks1 hh hw) (by omega) (by omega) rfl
    refine ⟨_, e1, ?_⟩
    rw [e2]
    rw [normal_other (show ((1 : Nat) : Int) ≠ 4 by decide)]; rfl
  · obtain ⟨e1, e2⟩ := parsed (k := 2) (toks2 hh ha) (by omega) (by omega) rfl
    refine ⟨_, e1, ?_⟩
    rw [e2]
    rw [normal_other (show ((2 : Nat) : Int) ≠ 4 by decide)]; rfl
  · obtain ⟨c1, c2, ht⟩ := toks3 hh ha hv
    obtain ⟨e1, e2⟩ := parsed (k := 3) ht (by omega) (by omega) rfl
    refine ⟨_, e1, ?_⟩
    rw [e2]
    rw [normal_other (show ((3 : Nat) : Int) ≠ 4 by decide)]; rfl
  · obtain ⟨c1, c2, ht⟩ := toks4 hh ha hb
    obtain ⟨e1, e2⟩ := parsed (k := 4) ht (by omega) (by omega) rfl
    refine ⟨_, e1, ?_⟩
    rw [e2]
    unfold St.normal; rw [if_neg (fun e => hle e.2)]; rfl
theorem role_ok {a c : Tk} (ha : goodTk a) (hc : goodTk c) (ka : a.kind = 1) (kc : c.kind = 2) : Rl.ok ⟨a.text, c.text⟩ = true := by
  unfold Rl.ok; rw [Bool.and_eq_true]; exact ⟨good1 ha ka, good2 hc kc⟩
theorem right_of {s : St} (h1 : s.head.ok = true) (h2 : s.says = true) (h3 : s = s.own) : s.right = true := by
  unfold St.right; rw [h1, h2, decide_eq_true h3]; rfl
/-- What good tokens are parsed as may be. -/
theorem stmt_right {L : List Tk} {k : Nat} (h1 : 1 ≤ k) (h4 : k ≤ 4) (hg : ∀ t ∈ L, goodTk t) (hk : kindsOf L = shapeK k) : (stmtOf k L).normal.right = true := by
  have hl := len_of_kinds hk
  match k, h1, h4, hk, hl with
  | 1, _, _, hk, hl =>
    match L, hl, hk, hg with
    | [t0, t1, t2, t3, t4], _, hk, hg =>
      have e : (stmtOf 1 [t0, t1, t2, t3, t4]).normal = ⟨1, ⟨t0.text, t2.text⟩, t4.text, zeroR, zeroR, noText⟩ := normal_other (show ((1 : Nat) : Int) ≠ 4 by decide)
      rw [e]
      exact right_of (role_ok (hg t0 (by simp)) (hg t2 (by simp)) (kind_at hk 0 (by simp)) (kind_at hk 2 (by simp))) (good1 (hg t4 (by simp)) (kind_at hk 4 (by simp))) rfl
  | 2, _, _, hk, hl =>
    match L, hl, hk, hg with
    | [t0, t1, t2, t3, t4, t5, t6], _, hk, hg =>
      have e : (stmtOf 2 [t0, t1, t2, t3, t4, t5, t6]).normal = ⟨2, ⟨t0.text, t2.text⟩, noText, ⟨t4.text, t6.text⟩, zeroR, noText⟩ := normal_other (show ((2 : Nat) : Int) ≠ 4 by decide)
      rw [e]
      exact right_of (role_ok (hg t0 (by simp)) (hg t2 (by simp)) (kind_at hk 0 (by simp)) (kind_at hk 2 (by simp))) (role_ok (hg t4 (by simp)) (hg t6 (by simp)) (kind_at hk 4 (by simp)) (kind_at hk 6 (by simp))) rfl
  | 3, _, _, hk, hl =>
    match L, hl, hk, hg with
    | [t0, t1, t2, t3, t4, t5, t6, t7, t8], _, hk, hg =>
      have e : (stmtOf 3 [t0, t1, t2, t3, t4, t5, t6, t7, t8]).normal = ⟨3, ⟨t0.text, t2.text⟩, noText, ⟨t4.text, t6.text⟩, zeroR, t8.text⟩ := normal_other (show ((3 : Nat) : Int) ≠ 4 by decide)
      rw [e]
      refine right_of (role_ok (hg t0 (by simp)) (hg t2 (by simp)) (kind_at hk 0 (by simp)) (kind_at hk 2 (by simp))) ?_ rfl
      show (Rl.ok ⟨t4.text, t6.text⟩ && named smallB t8.text.data.toList) = true
      rw [role_ok (hg t4 (by simp)) (hg t6 (by simp)) (kind_at hk 4 (by simp)) (kind_at hk 6 (by simp)), good2 (hg t8 (by simp)) (kind_at hk 8 (by simp))]; rfl
  | 4, _, _, hk, hl =>
    match L, hl, hk, hg with
    | [t0, t1, t2, t3, t4, t5, t6, t7, t8, t9, t10], _, hk, hg =>
      have r1 := role_ok (hg t4 (by simp)) (hg t6 (by simp)) (kind_at hk 4 (by simp)) (kind_at hk 6 (by simp))
      have r2 := role_ok (hg t8 (by simp)) (hg t10 (by simp)) (kind_at hk 8 (by simp)) (kind_at hk 10 (by simp))
      have r0 := role_ok (hg t0 (by simp)) (hg t2 (by simp)) (kind_at hk 0 (by simp)) (kind_at hk 2 (by simp))
      by_cases hc : cmpR ⟨t8.text, t10.text⟩ ⟨t4.text, t6.text⟩ < 0
      · have e : (stmtOf 4 [t0, t1, t2, t3, t4, t5, t6, t7, t8, t9, t10]).normal = ⟨4, ⟨t0.text, t2.text⟩, noText, ⟨t8.text, t10.text⟩, ⟨t4.text, t6.text⟩, noText⟩ := if_pos ⟨rfl, hc⟩
        rw [e]
        refine right_of r0 ?_ rfl
        show (Rl.ok ⟨t8.text, t10.text⟩ && Rl.ok ⟨t4.text, t6.text⟩ && !decide (cmpR ⟨t4.text, t6.text⟩ ⟨t8.text, t10.text⟩ < 0)) = true
        rw [r1, r2, decide_eq_false (by rw [cmpR_anti ⟨t8.text, t10.text⟩ ⟨t4.text, t6.text⟩]; omega)]; rfl
      · have e : (stmtOf 4 [t0, t1, t2, t3, t4, t5, t6, t7, t8, t9, t10]).normal = ⟨4, ⟨t0.text, t2.text⟩, noText, ⟨t4.text, t6.text⟩, ⟨t8.text, t10.text⟩, noText⟩ := if_neg (fun e => hc e.2)
        rw [e]
        refine right_of r0 ?_ rfl
        show (Rl.ok ⟨t4.text, t6.text⟩ && Rl.ok ⟨t8.text, t10.text⟩ && !decide (cmpR ⟨t8.text, t10.text⟩ ⟨t4.text, t6.text⟩ < 0)) = true
        rw [r1, r2, decide_eq_false hc]; rfl
end Go.Proofs.YtcbbffpalpieaaaGreat.SynZ
/- Plain mathematics: the one kind that a line's tokens go on as; the document's way is the program's. -/
namespace Go.Proofs.YtcbbffpalpieaaaGreat.QryM
set_option linter.unusedVariables false
set_option linter.unusedSimpArgs false
open Go.RowKit Go.Sort Go.Proofs.YtcbbffpalpieaaaGreat.Plain Go.Proofs.YtcbbffpalpieaaaGreat.SynP Go.Proofs.YtcbbffpalpieaaaGreat.TabP Go.Proofs.YtcbbffpalpieaaaGreat.SynR Go.Proofs.YtcbbffpalpieaaaGreat.SynV Go.Proofs.YtcbbffpalpieaaaGreat.SynZ Go.Proofs.YtcbbffpalpieaaaGreat.QryP Go.Proofs.YtcbbffpalpieaaaGreat.Qry4 Go.Proofs.YtcbbffpalpieaaaGreat.Qry5 Go.Proofs.YtcbbffpalpieaaaGreat.Qry7 Go.Proofs.YtcbbffpalpieaaaGreat.QryA Go.Proofs.YtcbbffpalpieaaaGreat.QryB Go.Proofs.YtcbbffpalpieaaaGreat.QryC Go.Proofs.YtcbbffpalpieaaaGreat.QryD
/-- Do the tokens go on as a kind's line, to what is behind it? -/
def fullQ (L : List Tk) (k : Int) : Prop := agreeF L (shapeF k) = (shapeF k).length
def errOf (L : List Tk) (f : Nat) : Int := if f < L.length then 2 else 3
theorem errOf_ne (L : List Tk) (f : Nat) : errOf L f ≠ 0 := by unfold errOf; split <;> decide
theorem readQ_no {L : List Tk} {k : Int} (h : ¬ fullQ L k) : readQ k L = (⟨k, zeroR, zeroR, []⟩, agreeF L (shapeF k), errOf L (agreeF L (shapeF k))) := read_no_eq h
/-- How far was read of the kinds behind the k-th. -/
def bestQ (L : List Tk) : Nat → Nat → Nat → Nat
  | 0, _, f => f
  | m + 1, k, f => bestQ L m (k + 1) (max f (agreeF L (shapeF ((k + 1 : Nat) : Int))))
theorem goQ_none (L : List Tk) : ∀ (m k f : Nat) (y : Int), (∀ j : Nat, k < j → j ≤ k + m → ¬ fullQ L (j : Int)) → y = errOf L f → goQ L m k f y = (zeroQ, (placeOf L (bestQ L m k f) : Int), errOf L (bestQ L m k f))
  | 0, k, f, y, h, e => by rw [e]; rfl
  | m + 1, k, f, y, h, e => by
    have hn := readQ_no (h (k + 1) (by omega) (by omega))
    by_cases hf : f ≤ agreeF L (shapeF ((k + 1 : Nat) : Int))
    · rw [goQ_far (by rw [hn]; exact errOf_ne _ _) (by rw [hn]; exact hf), hn]
      have em : max f (agreeF L (shapeF ((k + 1 : Nat) : Int))) = agreeF L (shapeF ((k + 1 : Nat) : Int)) := by omega
      unfold bestQ
      rw [em]
      exact goQ_none L m (k + 1) _ _ (fun j h1 h2 => h j (by omega) (by omega)) rfl
    · rw [goQ_near (by rw [hn]; exact errOf_ne _ _) (by rw [hn]; exact hf)]
      have em : max f (agreeF L (shapeF ((k + 1 : Nat) : Int))) = f := by omega
      unfold bestQ
      rw [em]
      exact goQ_none L m (k + 1) f y (fun j h1 h2 => h j (by omega) (by omega)) e
theorem goQ_after (L : List Tk) : ∀ (m k f : Nat) (y : Int), (∀ j : Nat, k < j → j ≤ k + m → ¬ fullQ L (j : Int) ∧ agreeF L (shapeF (j : Int)) < f) → goQ L m k f y = (zeroQ, (placeOf L f : Int), y)
  | 0, k, f, y, h => rfl
  | m + 1, k, f, y, h => by
    obtain ⟨h1, h2⟩ := h (k + 1) (by omega) (by omega)
    have hn := readQ_no h1
    rw [goQ_near (by rw [hn]; exact errOf_ne _ _) (by rw [hn]; show ¬ f ≤ agreeF L (shapeF ((k + 1 : Nat) : Int)); omega)]
    exact goQ_after L m (k + 1) f y (fun j h1 h2 => h j (by omega) (by omega))
theorem goQ_before (L : List Tk) : ∀ (d m k f : Nat) (y : Int), f ≤ 4 → (∀ j : Nat, k < j → j ≤ k + d → ¬ fullQ L (j : Int) ∧ agreeF L (shapeF (j : Int)) ≤ 4) → ∃ f' y', f' ≤ 4 ∧ goQ L (d + m) k f y = goQ L m (k + d) f' y'
  | 0, m, k, f, y, hf, h => ⟨f, y, hf, by rw [Nat.zero_add]; rfl⟩
  | d + 1, m, k, f, y, hf, h => by
    obtain ⟨h1, h2⟩ := h (k + 1) (by omega) (by omega)
    have hn := readQ_no h1
    rw [show d + 1 + m = (d + m) + 1 by omega, show k + (d + 1) = k + 1 + d by omega]
    by_cases hg : f ≤ agreeF L (shapeF ((k + 1 : Nat) : Int))
    · rw [goQ_far (by rw [hn]; exact errOf_ne _ _) (by rw [hn]; exact hg), hn]
      exact goQ_before L d m (k + 1) _ _ h2 (fun j h1 h2 => h j (by omega) (by omega))
    · rw [goQ_near (by rw [hn]; exact errOf_ne _ _) (by rw [hn]; exact hg)]
      exact goQ_before L d m (k + 1) _ _ hf (fun j h1 h2 => h j (by omega) (by omega))
/-- The answer of a kind that the tokens go on as. -/
def lastQ (L : List Tk) (r : Qy × Nat × Int) : Qy × Int × Int := if r.2.2 = 0 then (r.1, 0, 0) else (zeroQ, (placeOf L r.2.1 : Int), r.2.2)
theorem parseQ_full {L : List Tk} {K : Nat} (h1 : 1 ≤ K) (h6 : K ≤ 6) (hother : ∀ j : Nat, 1 ≤ j → j ≤ 6 → j ≠ K → ¬ fullQ L (j : Int) ∧ agreeF L (shapeF (j : Int)) ≤ 4) (hfar : 5 ≤ (readQ (K : Int) L).2.1) : parseQ L = lastQ L (readQ (K : Int) L) := by
  obtain ⟨k, rfl⟩ : ∃ k, K = k + 1 := ⟨K - 1, by omega⟩
  obtain ⟨f', y', hf', e⟩ := goQ_before L k (5 - k + 1) 0 0 0 (by omega) (fun j h1 h2 => hother j (by omega) (by omega) (by omega))
  unfold parseQ
  rw [show (6 : Nat) = k + (5 - k + 1) by omega, e, Nat.zero_add]
  unfold lastQ
  by_cases h0 : (readQ ((k + 1 : Nat) : Int) L).2.2 = 0
  · rw [goQ_hit h0, if_pos h0]
  · rw [if_neg h0, goQ_far h0 (by omega)]
    exact goQ_after L (5 - k) (k + 1) _ _ (fun j h1 h2 => by
      obtain ⟨a, b⟩ := hother j (by omega) (by omega) (by omega)
      exact ⟨a, by omega⟩)
theorem parseQ_none {L : List Tk} (h : ∀ j : Nat, 1 ≤ j → j ≤ 6 → ¬ fullQ L (j : Int)) : parseQ L = (zeroQ, (placeOf L (bestQ L 6 0 0) : Int), errOf L (bestQ L 6 0 0)) := by
  have hn := readQ_no (h 1 (by omega) (by omega))
  have e : bestQ L 6 0 0 = bestQ L 5 1 (agreeF L (shapeF ((1 : Nat) : Int))) := by
    show bestQ L 5 1 (max 0 _) = _
    rw [Nat.zero_max]
  unfold parseQ
  rw [goQ_far (m := 5) (k := 0) (by show (readQ ((1 : Nat) : Int) L).2.2 ≠ 0; rw [hn]; exact errOf_ne _ _) (Nat.zero_le _), e]
  show goQ L 5 1 (readQ ((1 : Nat) : Int) L).2.1 (readQ ((1 : Nat) : Int) L).2.2 = _
  rw [hn]
  exact goQ_none L 5 1 _ _ (fun j h1 h2 => h j (by omega) (by omega)) rfl
theorem fitsW {t : Tk} {s : Str} (h : Ft.fits t (.word s) = true) : t.kind = 2 ∧ t.text = ⟨s.toArray⟩ := by simpa [Ft.fits] using h
/-- The first five tokens of a kind's line. -/
theorem first5 {L : List Tk} {k : Nat} (h1 : 1 ≤ k) (h6 : k ≤ 6) (h : fullQ L (k : Int)) : ∃ t0 t1 t2 t3 t4 M s, L = t0 :: t1 :: t2 :: t3 :: t4 :: M ∧ t0.kind = 2 ∧ t0.text = ⟨(leadS (k : Int)).toArray⟩ ∧ t1.kind = 1 ∧ t2.kind = 3 ∧ t3.kind = 2 ∧ t4.kind = 2 ∧ t4.text = ⟨s.toArray⟩ ∧ (wordsL (k : Int)).head? = some s := by
  unfold fullQ at h
  have hsh : ∃ s R, (wordsL (k : Int)).head? = some s ∧ shapeF (k : Int) = .word (leadS (k : Int)) :: .kind 1 :: .kind 3 :: .kind 2 :: .word s :: R := by
    match k, h1, h6 with
    | 1, _, _ => exact ⟨_, _, rfl, rfl⟩
    | 2, _, _ => exact ⟨_, _, rfl, rfl⟩
    | 3, _, _ => exact ⟨_, _, rfl, rfl⟩
    | 4, _, _ => exact ⟨_, _, rfl, rfl⟩
    | 5, _, _ => exact ⟨_, _, rfl, rfl⟩
    | 6, _, _ => exact ⟨_, _, rfl, rfl⟩
  obtain ⟨s, R, hs, e⟩ := hsh
  rw [e] at h
  obtain ⟨t0, L1, rfl, a0, h⟩ := agreeF_cons h
  obtain ⟨t1, L2, rfl, a1, h⟩ := agreeF_cons h
  obtain ⟨t2, L3, rfl, a2, h⟩ := agreeF_cons h
  obtain ⟨t3, L4, rfl, a3, h⟩ := agreeF_cons h
  obtain ⟨t4, L5, rfl, a4, h⟩ := agreeF_cons h
  exact ⟨t0, t1, t2, t3, t4, L5, s, rfl, (fitsW a0).1, (fitsW a0).2, fitsK a1, fitsK a2, fitsK a3, (fitsW a4).1, (fitsW a4).2, hs⟩
theorem other5 {t0 t1 t2 t3 t4 : Tk} {M : List Tk} {j : Nat} (h1 : 1 ≤ j) (h6 : j ≤ 6) (h : t0.text ≠ ⟨(leadS (j : Int)).toArray⟩ ∨ ∀ s, (wordsL (j : Int)).head? = some s → t4.text ≠ ⟨s.toArray⟩) : ¬ fullQ (t0 :: t1 :: t2 :: t3 :: t4 :: M) (j : Int) ∧ agreeF (t0 :: t1 :: t2 :: t3 :: t4 :: M) (shapeF (j : Int)) ≤ 4 := by
  have hsh : ∃ s R, (wordsL (j : Int)).head? = some s ∧ shapeF (j : Int) = .word (leadS (j : Int)) :: .kind 1 :: .kind 3 :: .kind 2 :: .word s :: R := by
    match j, h1, h6 with
    | 1, _, _ => exact ⟨_, _, rfl, rfl⟩
    | 2, _, _ => exact ⟨_, _, rfl, rfl⟩
    | 3, _, _ => exact ⟨_, _, rfl, rfl⟩
    | 4, _, _ => exact ⟨_, _, rfl, rfl⟩
    | 5, _, _ => exact ⟨_, _, rfl, rfl⟩
    | 6, _, _ => exact ⟨_, _, rfl, rfl⟩
  obtain ⟨s, R, hs, e⟩ := hsh
  have hle : agreeF (t0 :: t1 :: t2 :: t3 :: t4 :: M) (shapeF (j : Int)) ≤ 4 := by
    rw [e]
    rcases h with h | h
    · have : Ft.fits t0 (.word (leadS (j : Int))) = false := by simp [Ft.fits, h]
      show (if _ then _ else _) ≤ _
      rw [if_neg (by rw [this]; decide)]; omega
    · have : Ft.fits t4 (.word s) = false := by simp [Ft.fits, h s hs]
      have h4 : agreeF (t4 :: M) (.word s :: R) = 0 := by
        show (if _ then _ else _) = _
        rw [if_neg (by rw [this]; decide)]
      have st : ∀ (t : Tk) (L : List Tk) (f : Ft) (F : List Ft), agreeF (t :: L) (f :: F) ≤ agreeF L F + 1 := fun t L f F => by
        show (if f.fits t = true then agreeF L F + 1 else 0) ≤ agreeF L F + 1
        split
        · exact Nat.le_refl _
        · exact Nat.zero_le _
      have a := st t0 (t1 :: t2 :: t3 :: t4 :: M) (.word (leadS (j : Int))) (.kind 1 :: .kind 3 :: .kind 2 :: .word s :: R)
      have b := st t1 (t2 :: t3 :: t4 :: M) (.kind 1) (.kind 3 :: .kind 2 :: .word s :: R)
      have c := st t2 (t3 :: t4 :: M) (.kind 3) (.kind 2 :: .word s :: R)
      have d := st t3 (t4 :: M) (.kind 2) (.word s :: R)
      omega
  refine ⟨fun hf => ?_, hle⟩
  unfold fullQ at hf
  rw [hf, e] at hle
  simp at hle
/-- Tokens that go on as one kind go on as no other one. -/
theorem others {L : List Tk} {K : Nat} (h1 : 1 ≤ K) (h6 : K ≤ 6) (h : fullQ L (K : Int)) : ∀ j : Nat, 1 ≤ j → j ≤ 6 → j ≠ K → ¬ fullQ L (j : Int) ∧ agreeF L (shapeF (j : Int)) ≤ 4 := by
  obtain ⟨t0, t1, t2, t3, t4, M, s, rfl, _, e0, _, _, _, _, e4, hs⟩ := first5 h1 h6 h
  intro j j1 j6 hne
  refine other5 j1 j6 ?_
  rw [e0]
  by_cases hl : leadS (K : Int) = leadS (j : Int)
  · right
    intro u hu
    rw [e4]
    intro hx
    have hsu : s = u := by
      have := congrArg (fun z : ByteArray => z.data.toList) hx
      simpa using this
    subst hsu
    have key : ∀ a b : Nat, 1 ≤ a → a ≤ 6 → 1 ≤ b → b ≤ 6 → (wordsL (a : Int)).head? = (wordsL (b : Int)).head? → a = b := by
      have : ∀ a : Fin 7, ∀ b : Fin 7, 1 ≤ a.1 → 1 ≤ b.1 → (wordsL (a.1 : Int)).head? = (wordsL (b.1 : Int)).head? → a.1 = b.1 := by decide +kernel
      intro a b a1 a6 b1 b6 e
      exact this ⟨a, by omega⟩ ⟨b, by omega⟩ a1 b1 e
    exact hne (key j K j1 j6 h1 h6 (by rw [hu, hs]))
  · left
    intro hx
    apply hl
    have := congrArg (fun z : ByteArray => z.data.toList) hx
    simpa using this
theorem readQ_far {L : List Tk} {K : Nat} (h1 : 1 ≤ K) (h6 : K ≤ 6) (h : fullQ L (K : Int)) : 5 ≤ (readQ (K : Int) L).2.1 := by
  have hl : 5 ≤ (shapeF (K : Int)).length := by
    match K, h1, h6 with
    | 1, _, _ => decide
    | 2, _, _ => decide
    | 3, _, _ => decide
    | 4, _, _ => decide
    | 5, _, _ => decide
    | 6, _, _ => decide
  unfold fullQ at h
  unfold readQ
  simp only []
  rw [if_pos h, h]
  show 5 ≤ (shapeF (K : Int)).length + _
  omega
theorem parseQ_at {L : List Tk} {K : Nat} (h1 : 1 ≤ K) (h6 : K ≤ 6) (h : fullQ L (K : Int)) : parseQ L = lastQ L (readQ (K : Int) L) := parseQ_full h1 h6 (others h1 h6 h) (readQ_far h1 h6 h)
/-- The document's way: the kinds behind the k-th, with how far was read. -/
def docQ (L : List Tk) : Nat → Nat → Nat → Qy × Int × Int
  | 0, _, f => if f = L.length then (zeroQ, (SynQ.behindOf L : Int), 3) else (zeroQ, (SynQ.colAt L f : Int), 2)
  | m + 1, k, f => if agreeF L (shapeF ((k + 1 : Nat) : Int)) < (shapeF ((k + 1 : Nat) : Int)).length then docQ L m (k + 1) (max f (agreeF L (shapeF ((k + 1 : Nat) : Int)))) else lastQ L (readQ ((k + 1 : Nat) : Int) L)
theorem bestQ_le (L : List Tk) : ∀ (m k f : Nat), f ≤ L.length → bestQ L m k f ≤ L.length
  | 0, _, f, h => h
  | m + 1, k, f, h => bestQ_le L m (k + 1) _ (by have := (agreeF_le L (shapeF ((k + 1 : Nat) : Int))).1; omega)
theorem docQ_none (L : List Tk) : ∀ (m k f : Nat), f ≤ L.length → (∀ j : Nat, k < j → j ≤ k + m → ¬ fullQ L (j : Int)) → docQ L m k f = (zeroQ, (placeOf L (bestQ L m k f) : Int), errOf L (bestQ L m k f))
  | 0, k, f, hf, h => by
    show (if _ then _ else _) = _
    unfold bestQ placeOf errOf
    by_cases e : f = L.length
    · rw [if_pos e, if_neg (by omega), if_neg (by omega)]
    · rw [if_neg e, if_pos (by omega), if_pos (by omega)]
  | m + 1, k, f, hf, h => by
    have hn := h (k + 1) (by omega) (by omega)
    have hle := agreeF_le L (shapeF ((k + 1 : Nat) : Int))
    unfold fullQ at hn
    show (if _ then _ else _) = _
    rw [if_pos (by omega)]
    unfold bestQ
    exact docQ_none L m (k + 1) _ (by omega) (fun j h1 h2 => h j (by omega) (by omega))
theorem docQ_full {L : List Tk} {K : Nat} (h : fullQ L (K : Int)) : ∀ (d m k f : Nat), k + d + 1 = K → (∀ j : Nat, k < j → j < K → ¬ fullQ L (j : Int)) → docQ L (d + m + 1) k f = lastQ L (readQ (K : Int) L)
  | 0, m, k, f, e, hn => by
    subst e
    have h' : ¬ (agreeF L (shapeF ((k + 1 : Nat) : Int)) < (shapeF ((k + 1 : Nat) : Int)).length) := by
      have : agreeF L (shapeF ((k + 1 : Nat) : Int)) = (shapeF ((k + 1 : Nat) : Int)).length := h
      omega
    rw [Nat.zero_add]
    show (if _ then _ else _) = _
    rw [if_neg h']
  | d + 1, m, k, f, e, hn => by
    have h1 := hn (k + 1) (by omega) (by omega)
    have hle := agreeF_le L (shapeF ((k + 1 : Nat) : Int))
    unfold fullQ at h1
    rw [show d + 1 + m + 1 = (d + m + 1) + 1 by omega]
    show (if _ then _ else _) = _
    rw [if_pos (by omega)]
    exact docQ_full h d m (k + 1) _ (by omega) (fun j a b => hn j (by omega) b)
/-- The document's way comes to what the program's way comes to. -/
theorem docQ_parseQ (L : List Tk) : docQ L 6 0 0 = parseQ L := by
  by_cases h : ∃ K : Nat, 1 ≤ K ∧ K ≤ 6 ∧ fullQ L (K : Int)
  · obtain ⟨K, h1, h6, hf⟩ := h
    rw [parseQ_at h1 h6 hf]
    have := docQ_full hf (K - 1) (6 - K) 0 0 (by omega) (fun j a b => (others h1 h6 hf j (by omega) (by omega) (by omega)).1)
    rw [show K - 1 + (6 - K) + 1 = 6 by omega] at this
    exact this
  · have hn : ∀ j : Nat, 1 ≤ j → j ≤ 6 → ¬ fullQ L (j : Int) := fun j a b c => h ⟨j, a, b, c⟩
    rw [parseQ_none hn]
    exact docQ_none L 6 0 0 (Nat.zero_le _) (fun j a b => hn j (by omega) (by omega))
end Go.Proofs.YtcbbffpalpieaaaGreat.QryM
/- Plain mathematics: the tokens of a query's line; a query that may be is parsed from its line. -/
namespace Go.Proofs.YtcbbffpalpieaaaGreat.QryN
set_option linter.unusedVariables false
set_option linter.unusedSimpArgs false
open Go.RowKit Go.Sort Go.Proofs.YtcbbffpalpieaaaGreat.Plain Go.Proofs.YtcbbffpalpieaaaGreat.SynP Go.Proofs.YtcbbffpalpieaaaGreat.TabP Go.Proofs.YtcbbffpalpieaaaGreat.Scan2 Go.Proofs.YtcbbffpalpieaaaGreat.Scan3 Go.Proofs.YtcbbffpalpieaaaGreat.SynR Go.Proofs.YtcbbffpalpieaaaGreat.SynV Go.Proofs.YtcbbffpalpieaaaGreat.SynW Go.Proofs.YtcbbffpalpieaaaGreat.QryP Go.Proofs.YtcbbffpalpieaaaGreat.Qry4 Go.Proofs.YtcbbffpalpieaaaGreat.Qry5 Go.Proofs.YtcbbffpalpieaaaGreat.Qry7 Go.Proofs.YtcbbffpalpieaaaGreat.QryA Go.Proofs.YtcbbffpalpieaaaGreat.QryB Go.Proofs.YtcbbffpalpieaaaGreat.QryC Go.Proofs.YtcbbffpalpieaaaGreat.QryD Go.Proofs.YtcbbffpalpieaaaGreat.QryL Go.Proofs.YtcbbffpalpieaaaGreat.QryM
/-- The tokens of texts of a kind, each with a blank ahead, from the k-th byte on. -/
def wordTks (n : Int) : List Str → Nat → List Tk
  | [], _ => []
  | s :: T, k => ⟨n, ⟨s.toArray⟩, k + 1 + 1⟩ :: wordTks n T (k + 1 + s.length)
theorem stops_tail (T : List Str) {rest : List UInt8} (h : Stops rest) : Stops (tailW T ++ rest) := by
  cases T with
  | nil => exact h
  | cons s T => exact stops_sp _
theorem bs_mk (s : Str) : (⟨s.toArray⟩ : ByteArray).data.toList = s := rfl
theorem run_caps {s : ByteArray} : ∀ (T : List Str) {k : Nat} {L : List Tk} {rest : List UInt8}, s.data.toList.drop k = tailW T ++ rest → (∀ x ∈ T, named capB x = true) → Stops rest →
    tkRun s k L = tkRun s (k + (tailW T).length) (L ++ wordTks 1 T k) ∧ s.data.toList.drop (k + (tailW T).length) = rest
  | [], k, L, rest, h, hn, hr => by
    rw [tailW_nil] at *
    exact ⟨by simp [wordTks], h⟩
  | x :: T, k, L, rest, h, hn, hr => by
    have h1 : s.data.toList.drop k = 32 :: (x ++ (tailW T ++ rest)) := by rw [h, tailW_cons]; simp
    obtain ⟨a1, b1⟩ := run_sp (L := L) h1
    have hx := hn x (List.mem_cons_self ..)
    obtain ⟨a2, b2⟩ := run_cap (L := L) (w := ⟨x.toArray⟩) (rest := tailW T ++ rest) b1 hx (stops_tail T hr)
    have hsz : (⟨x.toArray⟩ : ByteArray).size = x.length := rfl
    rw [hsz] at a2 b2
    obtain ⟨a3, b3⟩ := run_caps T (L := L ++ [⟨1, ⟨x.toArray⟩, k + 1 + 1⟩]) b2 (fun y hy => hn y (List.mem_cons_of_mem _ hy)) hr
    have e : k + (tailW (x :: T)).length = k + 1 + x.length + (tailW T).length := by rw [tailW_cons]; simp; omega
    rw [a1, a2, a3, e]
    refine ⟨?_, b3⟩
    congr 1
    simp [wordTks]
theorem run_smalls {s : ByteArray} : ∀ (T : List Str) {k : Nat} {L : List Tk} {rest : List UInt8}, s.data.toList.drop k = tailW T ++ rest → (∀ x ∈ T, named smallB x = true) → Stops rest →
    tkRun s k L = tkRun s (k + (tailW T).length) (L ++ wordTks 2 T k) ∧ s.data.toList.drop (k + (tailW T).length) = rest
  | [], k, L, rest, h, hn, hr => by
    rw [tailW_nil] at *
    exact ⟨by simp [wordTks], h⟩
  | x :: T, k, L, rest, h, hn, hr => by
    have h1 : s.data.toList.drop k = 32 :: (x ++ (tailW T ++ rest)) := by rw [h, tailW_cons]; simp
    obtain ⟨a1, b1⟩ := run_sp (L := L) h1
    have hx := hn x (List.mem_cons_self ..)
    obtain ⟨a2, b2⟩ := run_small (L := L) (w := ⟨x.toArray⟩) (rest := tailW T ++ rest) b1 hx (stops_tail T hr)
    have hsz : (⟨x.toArray⟩ : ByteArray).size = x.length := rfl
    rw [hsz] at a2 b2
    obtain ⟨a3, b3⟩ := run_smalls T (L := L ++ [⟨2, ⟨x.toArray⟩, k + 1 + 1⟩]) b2 (fun y hy => hn y (List.mem_cons_of_mem _ hy)) hr
    have e : k + (tailW (x :: T)).length = k + 1 + x.length + (tailW T).length := by rw [tailW_cons]; simp; omega
    rw [a1, a2, a3, e]
    refine ⟨?_, b3⟩
    congr 1
    simp [wordTks]
theorem words_small {k : Int} (h : k = 1 ∨ k = 2 ∨ k = 3 ∨ k = 4 ∨ k = 5 ∨ k = 6) : ∀ x ∈ wordsL k, named smallB x = true := by
  rcases h with rfl | rfl | rfl | rfl | rfl | rfl <;> decide +kernel
theorem lead_small (k : Int) : named smallB (bs (leadT k)) = true := by
  unfold leadT; split <;> decide +kernel
/-- Where the tokens of a line begin. -/
def linesTk (q : Qy) : List Tk := [⟨2, leadT q.kind, 1⟩] ++ roleTk q.a ((leadT q.kind).size + 1) ++ wordTks 2 (wordsL q.kind) ((leadT q.kind).size + 1 + (textR q.a).size) ++ (if hasBk q.kind = true then roleTk q.b ((leadT q.kind).size + 1 + (textR q.a).size + (tailW (wordsL q.kind)).length + 1) else []) ++ wordTks 1 q.who ((leadT q.kind).size + 1 + (textR q.a).size + (tailW (wordsL q.kind)).length + (if hasBk q.kind = true then (textR q.b).size + 1 else 0))
/-- What a line is made of: a query, its principals in any order. -/
def form (q : Qy) : Prop := (q.kind = 1 ∨ q.kind = 2 ∨ q.kind = 3 ∨ q.kind = 4 ∨ q.kind = 5 ∨ q.kind = 6) ∧ q.a.ok = true ∧ (hasBk q.kind = true → q.b.ok = true) ∧ (∀ s ∈ q.who, prinS s = true) ∧ q.who.length ≤ 12
theorem form_of {q : Qy} (h : q.right = true) : form q := by
  obtain ⟨ha, hc⟩ := right_parts h
  refine ⟨right_kind h, ha, ?_, ?_, ?_⟩
  · intro hb
    rcases hc with ⟨_, e, _⟩ | ⟨e, _, _⟩ | ⟨_, _, _, e⟩
    · rw [e] at hb; cases hb
    · rw [e] at hb; exact absurd hb (by decide)
    · exact e
  · rcases hc with ⟨_, _, hw, _, _⟩ | ⟨_, hw, _⟩ | ⟨_, _, hw, _⟩
    · exact (who_parts hw).2.1
    · rw [hw]; intro s hs; simp at hs
    · rw [hw]; intro s hs; simp at hs
  · rcases hc with ⟨_, _, hw, _, _⟩ | ⟨_, hw, _⟩ | ⟨_, _, hw, _⟩
    · exact (who_parts hw).1
    · rw [hw]; decide
    · rw [hw]; decide
theorem leadT_len (k : Int) : (leadT k).size ≤ 6 := by unfold leadT; split <;> decide
theorem words_len5 {k : Int} (h : k = 1 ∨ k = 2 ∨ k = 3 ∨ k = 4 ∨ k = 5 ∨ k = 6) : (tailW (wordsL k)).length ≤ 9 := by
  rcases h with rfl | rfl | rfl | rfl | rfl | rfl <;> decide
theorem lineL_form {q : Qy} (h : form q) : lineL q = bs (leadT q.kind) ++ (32 :: (bs (textR q.a) ++ (tailW (wordsL q.kind) ++ ((if hasBk q.kind = true then 32 :: bs (textR q.b) else []) ++ (tailW q.who ++ []))))) := by
  unfold lineL
  rw [words_tail h.1]
  split <;> simp [tailW]
theorem stops_if {c : Bool} {x rest : List UInt8} (h : Stops rest) : Stops ((if c = true then 32 :: x else []) ++ rest) := by
  cases c
  · exact h
  · exact stops_sp _
theorem mem_tail {T : List Str} {c : UInt8} (h : c ∈ tailW T) : c = 32 ∨ ∃ s ∈ T, c ∈ s := by
  unfold tailW at h
  obtain ⟨l, hl, hc⟩ := List.mem_flatten.1 h
  obtain ⟨s, hs, rfl⟩ := List.mem_map.1 hl
  rcases List.mem_cons.1 hc with e | e
  · exact .inl e
  · exact .inr ⟨s, hs, e⟩
theorem toks_line {q : Qy} (h : form q) : ansOf ⟨(lineL q).toArray⟩ = .ok (linesTk q) := by
  obtain ⟨hk, ha, hb, hw, h12⟩ := h
  have hf := lineL_form ⟨hk, ha, hb, hw, h12⟩
  have n35 : ∀ c ∈ lineL q, c ≠ 35 := by
    intro c hc
    rw [hf] at hc
    simp only [List.mem_append, List.mem_cons, List.not_mem_nil, or_false] at hc
    rcases hc with hc | rfl | hc | hc | hc | hc
    · exact named_ne35 (w := leadT q.kind) (lead_small _) c hc
    · decide
    · exact role_ne35 ha c hc
    · rcases mem_tail hc with rfl | ⟨s, hs, hc⟩
      · decide
      · exact named_ne35 (w := ⟨s.toArray⟩) (words_small hk s hs) c hc
    · split at hc
      · rename_i hbk
        rcases List.mem_cons.1 hc with rfl | hc
        · decide
        · exact role_ne35 (hb hbk) c hc
      · simp at hc
    · rcases mem_tail hc with rfl | ⟨s, hs, hc⟩
      · decide
      · exact named_ne35 (w := ⟨s.toArray⟩) (hw s hs) c hc
  have hsz : (⟨(lineL q).toArray⟩ : ByteArray).size ≤ 200 := by
    show (lineL q).length ≤ 200
    rw [hf]
    have e1 : (bs (leadT q.kind)).length = (leadT q.kind).size := toList_len _
    have e2 : (bs (textR q.a)).length = (textR q.a).size := toList_len _
    have l1 := leadT_len q.kind
    have l2 := role_size ha
    have l3 := words_len5 hk
    have l4 := tailW_len (T := q.who) (m := 8) fun s hs => prin_len (hw s hs)
    have l5 : (if hasBk q.kind = true then 32 :: bs (textR q.b) else []).length ≤ 18 := by
      split
      · rename_i hbk
        have e3 : (bs (textR q.b)).length = (textR q.b).size := toList_len _
        have := role_size (hb hbk)
        simp; omega
      · simp
    have l6 : q.who.length * 9 ≤ 12 * 9 := Nat.mul_le_mul_right _ h12
    simp only [List.length_append, List.length_cons, List.length_nil]
    omega
  have hbare : bare ⟨(lineL q).toArray⟩ = ⟨(lineL q).toArray⟩ := bare_no35 n35
  unfold ansOf
  rw [if_neg (by omega), hbare]
  have d0 : (⟨(lineL q).toArray⟩ : ByteArray).data.toList.drop 0 = bs (leadT q.kind) ++ (32 :: (bs (textR q.a) ++ (tailW (wordsL q.kind) ++ ((if hasBk q.kind = true then 32 :: bs (textR q.b) else []) ++ (tailW q.who ++ []))))) := hf
  generalize (⟨(lineL q).toArray⟩ : ByteArray) = s at *
  obtain ⟨a1, b1⟩ := run_small (L := []) (w := leadT q.kind) d0 (lead_small _) (stops_sp _)
  obtain ⟨a2, b2⟩ := run_sp (L := [] ++ [⟨2, leadT q.kind, 0 + 1⟩]) b1
  obtain ⟨a3, b3⟩ := run_role (L := [] ++ [⟨2, leadT q.kind, 0 + 1⟩]) (r := q.a) b2 ha (stops_tail _ (stops_if (stops_tail _ stops_nil)))
  obtain ⟨a4, b4⟩ := run_smalls (wordsL q.kind) (L := [] ++ [⟨2, leadT q.kind, 0 + 1⟩] ++ roleTk q.a (0 + (leadT q.kind).size + 1)) b3 (words_small hk) (stops_if (stops_tail _ stops_nil))
  unfold linesTk
  cases hbk : hasBk q.kind
  · rw [hbk] at b4
    simp only [Bool.false_eq_true, if_false, List.nil_append] at b4 ⊢
    obtain ⟨a5, b5⟩ := run_caps q.who (L := [] ++ [⟨2, leadT q.kind, 0 + 1⟩] ++ roleTk q.a (0 + (leadT q.kind).size + 1) ++ wordTks 2 (wordsL q.kind) (0 + (leadT q.kind).size + 1 + (textR q.a).size)) b4 hw stops_nil
    rw [a1, a2, a3, a4, a5, run_done b5]
    simp
  · rw [hbk] at b4
    simp only [if_true, List.cons_append] at b4 ⊢
    obtain ⟨a5, b5⟩ := run_sp (L := [] ++ [⟨2, leadT q.kind, 0 + 1⟩] ++ roleTk q.a (0 + (leadT q.kind).size + 1) ++ wordTks 2 (wordsL q.kind) (0 + (leadT q.kind).size + 1 + (textR q.a).size)) b4
    obtain ⟨a6, b6⟩ := run_role (L := [] ++ [⟨2, leadT q.kind, 0 + 1⟩] ++ roleTk q.a (0 + (leadT q.kind).size + 1) ++ wordTks 2 (wordsL q.kind) (0 + (leadT q.kind).size + 1 + (textR q.a).size)) (r := q.b) b5 (hb hbk) (stops_tail _ stops_nil)
    obtain ⟨a7, b7⟩ := run_caps q.who (L := [] ++ [⟨2, leadT q.kind, 0 + 1⟩] ++ roleTk q.a (0 + (leadT q.kind).size + 1) ++ wordTks 2 (wordsL q.kind) (0 + (leadT q.kind).size + 1 + (textR q.a).size) ++ roleTk q.b (0 + (leadT q.kind).size + 1 + (textR q.a).size + (tailW (wordsL q.kind)).length + 1)) b6 hw stops_nil
    rw [a1, a2, a3, a4, a5, a6, a7, run_done b7]
    have e : (leadT q.kind).size + 1 + (textR q.a).size + (tailW (wordsL q.kind)).length + 1 + (textR q.b).size = (leadT q.kind).size + 1 + (textR q.a).size + (tailW (wordsL q.kind)).length + ((textR q.b).size + 1) := by omega
    simp only [Nat.zero_add, List.nil_append, List.append_assoc, e]
    rfl
/-- Principals in order are read as they stand. -/
theorem readW_rise : ∀ (T T0 : List Str) (c : Nat), (T0 ++ T).Pairwise (· < ·) → (T0 ++ T).length ≤ 12 → readW (wordTks 1 T c) T0 = (T0 ++ T, (wordTks 1 T c).length, false)
  | [], T0, c, h, hl => by simp [wordTks, readW]
  | s :: T, T0, c, h, hl => by
    have e : T0 ++ s :: T = (T0 ++ [s]) ++ T := by simp
    have hp := List.pairwise_append.1 h
    have hs : s ∉ T0 := fun hm => List.lt_irrefl s (hp.2.2 s hm s (List.mem_cons_self ..))
    have h12 : T0.length ≠ 12 := by simp at hl; omega
    have ht : tab (T0 ++ [s]) = T0 ++ [s] := by
      rw [e] at h
      exact (tab_id.2 (List.pairwise_append.1 h).1).symm
    have ih := readW_rise T (T0 ++ [s]) (c + 1 + s.length) (by rw [← e]; exact h) (by rw [← e]; exact hl)
    have hstr : strOf (⟨s.toArray⟩ : ByteArray) = s := rfl
    show (if (1 : Int) = 1 then (if strOf ⟨s.toArray⟩ ∈ T0 then _ else _) else _) = _
    rw [if_pos rfl, hstr, if_neg hs, if_neg h12, ht, ih, e]
    simp [wordTks]
theorem whoOk_of {T : List Str} (h1 : T.length ≤ 12) (h2 : ∀ s ∈ T, prinS s = true) (h3 : T.Pairwise (· < ·)) : whoOk T = true := by
  unfold whoOk
  rw [decide_eq_true h1, decide_eq_true (tab_id.2 h3), List.all_eq_true.2 h2]; rfl
theorem wordTks_len (n : Int) : ∀ (T : List Str) (c : Nat), (wordTks n T c).length = T.length
  | [], c => rfl
  | s :: T, c => by
    show (wordTks n T (c + 1 + s.length)).length + 1 = _
    rw [wordTks_len n T]; rfl
theorem fit_word {s : Str} {c : Nat} : Ft.fits ⟨2, ⟨s.toArray⟩, c⟩ (.word s) = true := by simp [Ft.fits]
theorem fit_lead {k : Int} {c : Nat} : Ft.fits ⟨2, leadT k, c⟩ (.word (leadS k)) = true := by rw [leadT_S]; exact fit_word
theorem fit_kind {n : Int} {x : ByteArray} {c : Nat} : Ft.fits ⟨n, x, c⟩ (.kind n) = true := by simp [Ft.fits]
theorem agreeF_step {t : Tk} {L : List Tk} {f : Ft} {F : List Ft} (h : Ft.fits t f = true) : agreeF (t :: L) (f :: F) = agreeF L F + 1 := by
  show (if f.fits t = true then agreeF L F + 1 else 0) = _
  rw [if_pos h]
theorem agreeF_nil (L : List Tk) : agreeF L [] = 0 := by cases L <;> rfl
theorem kindNat {k : Int} (h1 : 1 ≤ k) : ∃ K : Nat, k = K := ⟨k.toNat, by omega⟩
theorem lastQ_ok {L : List Tk} {r : Qy × Nat × Int} (h : r.2.2 = 0) : lastQ L r = (r.1, 0, 0) := by unfold lastQ; rw [if_pos h]
/-- A line with principals is asked as what they are in order. -/
theorem parse3 {k : Int} (hk : k = 1 ∨ k = 2 ∨ k = 3) {a : Rl} {T T' : List Str} (hr : ∀ c, readW (wordTks 1 T c) [] = (T', T.length, false)) (hright : Qy.right ⟨k, a, zeroR, T'⟩ = true) : parseQ (linesTk ⟨k, a, zeroR, T⟩) = (⟨k, a, zeroR, T'⟩, 0, 0) := by
  obtain ⟨s, hws, hsh, hB, hW⟩ := shape3 hk
  obtain ⟨c1, c2, c3, c4, c5, e⟩ : ∃ c1 c2 c3 c4 c5, linesTk ⟨k, a, zeroR, T⟩ = ⟨2, leadT k, 1⟩ :: ⟨1, a.owner, c1⟩ :: ⟨3, dot, c2⟩ :: ⟨2, a.name, c3⟩ :: ⟨2, ⟨s.toArray⟩, c4⟩ :: wordTks 1 T c5 := by
    refine ⟨(leadT k).size + 1 + 1, (leadT k).size + 1 + a.owner.size + 1, (leadT k).size + 1 + a.owner.size + 1 + 1, (leadT k).size + 1 + (textR a).size + 1 + 1, (leadT k).size + 1 + (textR a).size + (tailW [s]).length, ?_⟩
    unfold linesTk
    simp only [hws, hB, roleTk, wordTks, Bool.false_eq_true, if_false, List.append_nil, List.cons_append, List.nil_append, Nat.add_zero]
  have ha : agreeF (linesTk ⟨k, a, zeroR, T⟩) (shapeF k) = 5 := by
    rw [e, hsh, agreeF_step fit_lead, agreeF_step fit_kind, agreeF_step fit_kind, agreeF_step fit_kind, agreeF_step fit_word, agreeF_nil]
  have hf : fullQ (linesTk ⟨k, a, zeroR, T⟩) k := by unfold fullQ; rw [ha, hsh]; rfl
  obtain ⟨K, rfl⟩ := kindNat (k := k) (by omega)
  rw [parseQ_at (K := K) (by omega) (by omega) hf]
  rw [e] at ha ⊢
  have hrd := read3_eq hk ha
  rw [hr c5] at hrd
  simp only at hrd
  rw [wordTks_len, if_neg (by decide), if_neg (by omega), if_pos hright] at hrd
  rw [hrd]
  exact lastQ_ok rfl
theorem parse4 {a : Rl} (hright : Qy.right ⟨4, a, zeroR, []⟩ = true) : parseQ (linesTk ⟨4, a, zeroR, []⟩) = (⟨4, a, zeroR, []⟩, 0, 0) := by
  obtain ⟨hsh, hB, hW⟩ := shape4
  obtain ⟨c1, c2, c3, c4, c5, e⟩ : ∃ c1 c2 c3 c4 c5, linesTk ⟨4, a, zeroR, []⟩ = [⟨2, leadT 4, 1⟩, ⟨1, a.owner, c1⟩, ⟨3, dot, c2⟩, ⟨2, a.name, c3⟩, ⟨2, ⟨#[98, 101]⟩, c4⟩, ⟨2, ⟨#[101, 109, 112, 116, 121]⟩, c5⟩] := ⟨_, _, _, _, _, rfl⟩
  have ha : agreeF (linesTk ⟨4, a, zeroR, []⟩) (shapeF 4) = 6 := by
    rw [e, hsh, agreeF_step fit_lead, agreeF_step fit_kind, agreeF_step fit_kind, agreeF_step fit_kind, agreeF_step fit_word, agreeF_step fit_word, agreeF_nil]
  have hf : fullQ (linesTk ⟨4, a, zeroR, []⟩) ((4 : Nat) : Int) := by
    show agreeF (linesTk ⟨4, a, zeroR, []⟩) (shapeF 4) = (shapeF 4).length
    rw [ha]; rfl
  rw [parseQ_at (K := 4) (by omega) (by omega) hf]
  rw [e] at ha ⊢
  have hrd := read4_eq ha
  rw [if_neg (by simp), if_pos hright] at hrd
  show lastQ _ (readQ 4 _) = _
  rw [hrd]
  exact lastQ_ok rfl
theorem parse8 {k : Int} (hk : k = 5 ∨ k = 6) {a b : Rl} (hright : Qy.right ⟨k, a, b, []⟩ = true) : parseQ (linesTk ⟨k, a, b, []⟩) = (⟨k, a, b, []⟩, 0, 0) := by
  obtain ⟨s, hws, hsh, hB, hW⟩ := shape8 hk
  obtain ⟨c1, c2, c3, c4, c5, c6, c7, e⟩ : ∃ c1 c2 c3 c4 c5 c6 c7, linesTk ⟨k, a, b, []⟩ = [⟨2, leadT k, 1⟩, ⟨1, a.owner, c1⟩, ⟨3, dot, c2⟩, ⟨2, a.name, c3⟩, ⟨2, ⟨s.toArray⟩, c4⟩, ⟨1, b.owner, c5⟩, ⟨3, dot, c6⟩, ⟨2, b.name, c7⟩] := by
    refine ⟨(leadT k).size + 1 + 1, (leadT k).size + 1 + a.owner.size + 1, (leadT k).size + 1 + a.owner.size + 1 + 1, (leadT k).size + 1 + (textR a).size + 1 + 1, (leadT k).size + 1 + (textR a).size + (tailW [s]).length + 1 + 1, (leadT k).size + 1 + (textR a).size + (tailW [s]).length + 1 + b.owner.size + 1, (leadT k).size + 1 + (textR a).size + (tailW [s]).length + 1 + b.owner.size + 1 + 1, ?_⟩
    unfold linesTk
    simp only [hws, hB, roleTk, wordTks, if_true, List.append_nil, List.cons_append, List.nil_append]
  have ha : agreeF (linesTk ⟨k, a, b, []⟩) (shapeF k) = 8 := by
    rw [e, hsh, agreeF_step fit_lead, agreeF_step fit_kind, agreeF_step fit_kind, agreeF_step fit_kind, agreeF_step fit_word, agreeF_step fit_kind, agreeF_step fit_kind, agreeF_step fit_kind, agreeF_nil]
  have hf : fullQ (linesTk ⟨k, a, b, []⟩) k := by unfold fullQ; rw [ha, hsh]; rfl
  obtain ⟨K, rfl⟩ := kindNat (k := k) (by omega)
  rw [parseQ_at (K := K) (by omega) (by omega) hf]
  rw [e] at ha ⊢
  have hrd := read8_eq hk ha
  rw [if_neg (by simp), if_pos hright] at hrd
  rw [hrd]
  exact lastQ_ok rfl
/-- A query that may be is parsed from its line's tokens. -/
theorem parse_toks {q : Qy} (h : q.right = true) : parseQ (linesTk q) = (q, 0, 0) := by
  have hp := (right_parts h).2
  obtain ⟨k, a, b, T⟩ := q
  rcases hp with ⟨hW, hB, hw, hb, _⟩ | ⟨hk, hw, hb⟩ | ⟨hB, hW, hw, _⟩
  · simp only at hW hB hw hb
    subst hb
    have hk : k = 1 ∨ k = 2 ∨ k = 3 := by simpa [hasWk] using hW
    obtain ⟨w1, w2, w3⟩ := who_parts hw
    exact parse3 hk (fun c => by have := readW_rise T [] c (by simpa using w3) (by simpa using w1); rw [this, wordTks_len]; rfl) h
  · simp only at hk hw hb
    subst hk; subst hw; subst hb
    exact parse4 h
  · simp only at hB hw
    subst hw
    have hk : k = 5 ∨ k = 6 := by simpa [hasBk] using hB
    exact parse8 hk h
/-- The document's example. -/
def exA : Rl := ⟨⟨#[65]⟩, ⟨#[114]⟩⟩
def exQ : Qy := ⟨3, exA, zeroR, [[66], [67]]⟩
def exT : ByteArray := ⟨#[97, 108, 119, 97, 121, 115, 32, 65, 46, 114, 32, 119, 105, 116, 104, 105, 110, 32, 67, 32, 66]⟩
def exL : ByteArray := ⟨#[97, 108, 119, 97, 121, 115, 32, 65, 46, 114, 32, 119, 105, 116, 104, 105, 110, 32, 66, 32, 67]⟩
theorem ex_okA : exA.ok = true := by decide +kernel
theorem ex_who : whoOk [[66], [67]] = true := whoOk_of (by decide) (by decide +kernel) (by decide)
theorem ex_right : exQ.right = true := by
  show (exA.ok && (whoOk [[66], [67]] && decide (zeroR = zeroR))) = true
  rw [ex_okA, ex_who, decide_eq_true rfl]; rfl
theorem ex_form : form ⟨3, exA, zeroR, [[67], [66]]⟩ := ⟨.inr (.inr (.inl rfl)), ex_okA, (fun h => by cases h), by decide +kernel, by decide⟩
theorem ex_text : (⟨(lineL ⟨3, exA, zeroR, [[67], [66]]⟩).toArray⟩ : ByteArray) = exT := by
  apply ba_ext; decide +kernel
theorem ex_line : lineQ exQ = exL := by
  unfold lineQ
  rw [if_pos ex_right]
  apply ba_ext; decide +kernel
theorem ex_read (c : Nat) : readW (wordTks 1 [[67], [66]] c) [] = ([[66], [67]], 2, false) := by
  have t1 : tab ([] ++ [[67]]) = ([[67]] : List Str) := (tab_id.2 (by decide)).symm
  have t2 : tab ([[67]] ++ [[66]]) = ([[66], [67]] : List Str) := eq_of_rising (tab_sorted _) (by decide) (fun x => by rw [mem_tab]; simp; exact Or.comm)
  show (if (1 : Int) = 1 then (if strOf ⟨#[67]⟩ ∈ ([] : List Str) then _ else _) else _) = _
  have s1 : strOf (⟨#[67]⟩ : ByteArray) = [67] := rfl
  have s2 : strOf (⟨#[66]⟩ : ByteArray) = [66] := rfl
  rw [if_pos rfl, s1, if_neg (by simp), if_neg (by simp), t1]
  have h2 : readW (wordTks 1 [[66]] (c + 1 + 1)) [[67]] = ([[66], [67]], 1, false) := by
    show (if (1 : Int) = 1 then (if strOf ⟨#[66]⟩ ∈ ([[67]] : List Str) then _ else _) else _) = _
    rw [if_pos rfl, s2, if_neg (by decide), if_neg (by simp), t2]
    rfl
  have h3 : readW (wordTks 1 [[66]] (c + 1 + ([67] : Str).length)) [[67]] = ([[66], [67]], 1, false) := h2
  rw [h3]
theorem ex_parse : ∃ L, ansOf exT = .ok L ∧ parseQ L = (exQ, 0, 0) := by
  refine ⟨_, ?_, parse3 (.inr (.inr rfl)) ex_read ex_right⟩
  rw [← ex_text]; exact toks_line ex_form
theorem parse_line {q : Qy} (h : q.right = true) : ∃ L, ansOf (lineQ q) = .ok L ∧ parseQ L = (q, 0, 0) := by
  refine ⟨_, ?_, parse_toks h⟩
  unfold lineQ
  rw [if_pos h]; exact toks_line (form_of h)
end Go.Proofs.YtcbbffpalpieaaaGreat.QryN
/- A line as a statement, in the program. -/
namespace Go.Proofs.YtcbbffpalpieaaaGreat.SynY
set_option linter.unusedVariables false
set_option linter.unusedSimpArgs false
open Go.RowKit Go.Sort Go.Proofs Go.Proofs.YtcbbffpalpieaaaGreat.Plain Go.Proofs.YtcbbffpalpieaaaGreat.SynP Go.Proofs.YtcbbffpalpieaaaGreat.SynQ Go.Proofs.YtcbbffpalpieaaaGreat.Grown Go.Proofs.YtcbbffpalpieaaaGreat.SynA Go.Proofs.YtcbbffpalpieaaaGreat.SynC Go.Proofs.YtcbbffpalpieaaaGreat.SynR Go.Proofs.YtcbbffpalpieaaaGreat.SynW Go.Proofs.YtcbbffpalpieaaaGreat.Scan3 Go.Proofs.YtcbbffpalpieaaaGreat.Scan5 Go.Proofs.YtcbbffpalpieaaaGreat.Syn4 Go.Proofs.YtcbbffpalpieaaaGreat.Syn6 Go.Proofs.YtcbbffpalpieaaaGreat.SynS Go.Proofs.YtcbbffpalpieaaaGreat.SynG Go.Proofs.YtcbbffpalpieaaaGreat.SynH Go.Proofs.YtcbbffpalpieaaaGreat.SynU Go.Proofs.YtcbbffpalpieaaaGreat.SynV Go.Proofs.YtcbbffpalpieaaaGreat.SynX
set_option linter.unusedVariables false
set_option linter.unusedSimpArgs false
/-- What a line is parsed as. -/
def parseA : TkAns → St × Int × Int
  | .bad c e => (zeroS, c, e)
  | .ok L => parseL L
def ParsePost (p : St × Int × Int) (w : World) (e : Ending) (w' : World) : Prop := e = .returned (.tuple #[p.1.val, .int .i64 p.2.1, .int .i64 p.2.2]) ∧ Below w.heap.size w w'
theorem set9_far (X : World) (n g i : Nat) (v0 v1 v2 v3 v4 v5 v6 v7 v8 : Value) (h : n ≠ g) : (((((((((X.setCell ⟨n, 0, none⟩ v0).setCell ⟨n, 1, none⟩ v1).setCell ⟨n, 2, none⟩ v2).setCell ⟨n, 3, none⟩ v3).setCell ⟨n, 4, none⟩ v4).setCell ⟨n, 5, none⟩ v5).setCell ⟨n, 6, none⟩ v6).setCell ⟨n, 7, none⟩ v7).setCell ⟨n, 8, none⟩ v8).cell? ⟨g, i, none⟩ = X.cell? ⟨g, i, none⟩ := by
  rw [set_far _ _ _ _ _ _ h, set_far _ _ _ _ _ _ h, set_far _ _ _ _ _ _ h, set_far _ _ _ _ _ _ h, set_far _ _ _ _ _ _ h, set_far _ _ _ _ _ _ h, set_far _ _ _ _ _ _ h, set_far _ _ _ _ _ _ h, set_far _ _ _ _ _ _ h]
theorem drew_cell (Y : World) (a : Addr) : Y.drew.cell? a = Y.cell? a := rfl
theorem set9_fard (X : World) (n g i : Nat) (v0 v1 v2 v3 v4 v5 v6 v7 v8 : Value) (h : n ≠ g) : (((((((((X.setCell ⟨n, 0, none⟩ v0).setCell ⟨n, 1, none⟩ v1).setCell ⟨n, 2, none⟩ v2).setCell ⟨n, 3, none⟩ v3).setCell ⟨n, 4, none⟩ v4).setCell ⟨n, 5, none⟩ v5).setCell ⟨n, 6, none⟩ v6).setCell ⟨n, 7, none⟩ v7).setCell ⟨n, 8, none⟩ v8).drew.cell? ⟨g, i, none⟩ = X.cell? ⟨g, i, none⟩ := by
  rw [drew_cell]; exact set9_far X n g i v0 v1 v2 v3 v4 v5 v6 v7 v8 h
theorem max_cast (a b : Nat) : (max (a : Int) (b : Int)) = ((max a b : Nat) : Int) := by omega
end Go.Proofs.YtcbbffpalpieaaaGreat.SynY
/- The document's example of a statement. -/
namespace Go.Proofs.YtcbbffpalpieaaaGreat.SynN
set_option linter.unusedVariables false
set_option linter.unusedSimpArgs false
open Go.RowKit Go.Sort Go.Proofs Go.Proofs.YtcbbffpalpieaaaGreat.Plain Go.Proofs.YtcbbffpalpieaaaGreat.SynP Go.Proofs.YtcbbffpalpieaaaGreat.SynQ Go.Proofs.YtcbbffpalpieaaaGreat.Grown Go.Proofs.YtcbbffpalpieaaaGreat.SynW Go.Proofs.YtcbbffpalpieaaaGreat.Scan3 Go.Proofs.YtcbbffpalpieaaaGreat.Syn7 Go.Proofs.YtcbbffpalpieaaaGreat.SynL Go.Proofs.YtcbbffpalpieaaaGreat.SynX Go.Proofs.YtcbbffpalpieaaaGreat.SynY Go.Proofs.YtcbbffpalpieaaaGreat.SynZ
set_option linter.unusedVariables false
set_option linter.unusedSimpArgs false
def ex : ByteArray := ⟨#[65, 46, 114, 32, 60, 45, 32, 66, 46, 115, 32, 38, 32, 65, 46, 115]⟩
def exH : Rl := ⟨⟨#[65]⟩, ⟨#[114]⟩⟩
def exA : Rl := ⟨⟨#[65]⟩, ⟨#[115]⟩⟩
def exB : Rl := ⟨⟨#[66]⟩, ⟨#[115]⟩⟩
def exS : St := ⟨4, exH, noText, exA, exB, noText⟩
theorem ex_eq : ex = textR exH ++ arr ++ (textR exB ++ ampS ++ textR exA) := by
  apply ba_ext; decide +kernel
theorem ex_okH : exH.ok = true := by decide +kernel
theorem ex_okA : exA.ok = true := by decide +kernel
theorem ex_okB : exB.ok = true := by decide +kernel
theorem ex_lt : cmpR exA exB < 0 := by decide +kernel
theorem ex_parse : parseA (ansOf ex) = (exS, 0, 0) := by
  obtain ⟨c1, c2, ht⟩ := toks4 ex_okH ex_okB ex_okA
  obtain ⟨e1, e2⟩ := parsed (k := 4) ht (by omega) (by omega) rfl
  rw [ex_eq, e1]
  show parseL _ = _
  rw [e2]
  have : (stmtOf 4 (roleTk exH 0 ++ [⟨4, SynR.arrow, (textR exH).size + 1 + 1⟩] ++ (roleTk exB ((textR exH).size + 4) ++ [⟨5, SynR.amp, c1⟩] ++ roleTk exA c2))) = ⟨4, exH, noText, exB, exA, noText⟩ := rfl
  rw [this]
  have h : St.normal ⟨4, exH, noText, exB, exA, noText⟩ = ⟨4, exH, noText, exA, exB, noText⟩ := if_pos ⟨rfl, ex_lt⟩
  rw [h]; rfl
theorem ex_right : exS.right = true := by
  refine right_of ex_okH ?_ rfl
  show (exA.ok && exB.ok && !decide (cmpR exB exA < 0)) = true
  rw [ex_okA, ex_okB, decide_eq_false (by have := ex_lt; rw [cmpR_anti exA exB]; omega)]; rfl
theorem ex_line : line exS = ⟨#[65, 46, 114, 32, 60, 45, 32, 65, 46, 115, 32, 38, 32, 66, 46, 115]⟩ := by
  rw [line_right ex_right]
  apply ba_ext; decide +kernel
theorem ex_fit : exS.fit := by
  refine ⟨⟨?_, ?_⟩, ?_, ⟨?_, ?_⟩, ⟨?_, ?_⟩, ?_⟩ <;> (show _ ≤ 9223372036854775807; decide)
end Go.Proofs.YtcbbffpalpieaaaGreat.SynN
/- Which statements are light. -/
namespace Go.Proofs.YtcbbffpalpieaaaGreat.SynM
set_option linter.unusedVariables false
set_option linter.unusedSimpArgs false
open Go.RowKit Go.Sort Go.Proofs Go.Proofs.YtcbbffpalpieaaaGreat.Plain Go.Proofs.YtcbbffpalpieaaaGreat.SynP Go.Proofs.YtcbbffpalpieaaaGreat.Grown Go.Proofs.YtcbbffpalpieaaaGreat.Syn1
set_option linter.unusedVariables false
set_option linter.unusedSimpArgs false
def textsOf (s : St) : List ByteArray := [s.who, s.via, s.head.owner, s.head.name, s.a.owner, s.a.name, s.b.owner, s.b.name]
def lightL (l : List ByteArray) : Bool := l.all fun x => decide (x.size ≤ 40)
def lightS (s : St) : Bool := lightL (textsOf s)
theorem light_no {l : List ByteArray} {k : Nat} (h : k < l.length) (hk : ¬ l[k].size ≤ 40) : lightL l = false := by
  unfold lightL
  rw [List.all_eq_false]
  exact ⟨l[k], List.getElem_mem _, by simp; omega⟩
theorem light_yes {l : List ByteArray} (h : ∀ k, (hk : k < l.length) → l[k].size ≤ 40) : lightL l = true := by
  unfold lightL
  rw [List.all_eq_true]
  intro x hx
  obtain ⟨k, hk, rfl⟩ := List.getElem_of_mem hx
  simpa using h k hk
theorem light_size {s : St} (h : lightS s = true) : s.head.owner.size ≤ 1000 ∧ s.head.name.size ≤ 1000 := by
  unfold lightS lightL textsOf at h
  simp at h
  omega
end Go.Proofs.YtcbbffpalpieaaaGreat.SynM
/- A row of roles: those of a statement, and whether two rows are the very same. -/
namespace Go.Proofs.YtcbbffpalpieaaaGreat.SynJ
set_option linter.unusedVariables false
set_option linter.unusedSimpArgs false
open Go.RowKit Go.Sort Go.Proofs Go.Proofs.YtcbbffpalpieaaaGreat.Plain Go.Proofs.YtcbbffpalpieaaaGreat.SynP Go.Proofs.YtcbbffpalpieaaaGreat.Grown Go.Proofs.YtcbbffpalpieaaaGreat.SynE Go.Proofs.YtcbbffpalpieaaaGreat.Syn4
set_option linter.unusedVariables false
set_option linter.unusedSimpArgs false
theorem infoRole : (Tryz.prog.info? 23).map (fun i => (i.zero, i.size, i.bytes)) = some (some (.agg #[.string ⟨#[]⟩, .string ⟨#[]⟩]), 2, 32) := by kernel_rfl
def rcells (l : List Rl) : List Value := (l.map fun r => [Value.string r.owner, Value.string r.name]).flatten
/-- A slice value that reads as roles. -/
def RAt (w : World) (A : Option Addr) (l : List Rl) : Prop := 0 < l.length → ∃ g, A = some ⟨g, 0, none⟩ ∧ g < w.heap.size ∧ ∀ j, (h : j < l.length) → w.cell? ⟨g, j * 2, none⟩ = some (.string l[j].owner) ∧ w.cell? ⟨g, j * 2 + 1, none⟩ = some (.string l[j].name)
theorem RAt.below {w w' : World} {A : Option Addr} {l : List Rl} (h : RAt w A l) (hb : RowKit.Below w.heap.size w w') : RAt w' A l := fun hp => by
  obtain ⟨g, hA, hg, hc⟩ := h hp
  refine ⟨g, hA, Nat.lt_of_lt_of_le hg hb.size, fun j hj => ?_⟩
  obtain ⟨a, b⟩ := hc j hj
  exact ⟨(hb.cell (p := ⟨g, j * 2, none⟩) hg).trans a, (hb.cell (p := ⟨g, j * 2 + 1, none⟩) hg).trans b⟩
theorem rcells_at (L : List Rl) (j : Nat) (h : j < L.length) : (rcells L)[j * 2]? = some (.string L[j].owner) ∧ (rcells L)[j * 2 + 1]? = some (.string L[j].name) := by
  induction L generalizing j with
  | nil => simp at h
  | cons t L ih =>
    have e : rcells (t :: L) = [Value.string t.owner, Value.string t.name] ++ rcells L := by unfold rcells; simp
    rw [e]
    cases j with
    | zero => exact ⟨rfl, rfl⟩
    | succ j =>
      obtain ⟨a, b⟩ := ih j (by simpa using h)
      refine ⟨?_, ?_⟩ <;> rw [List.getElem?_append_right (by simp; omega)]
      · rw [show (j + 1) * 2 - [Value.string t.owner, Value.string t.name].length = j * 2 from by simp; omega]; exact a
      · rw [show (j + 1) * 2 + 1 - [Value.string t.owner, Value.string t.name].length = j * 2 + 1 from by simp; omega]; exact b
theorem rat_own {w : World} {B : Nat} {e : TypeId} {v : Value} {L : List Rl} (h : w.ownsRow B e 2 v L.length (rcells L)) : ∃ A cap, v = .slice A L.length cap ∧ RAt w A L := by
  rcases h.2 with ⟨rfl, h0⟩ | ⟨g, cap, cur, rfl, hB, hh, hc, hm, hs, ht⟩
  · exact ⟨none, 0, by rw [h0], fun hp => by omega⟩
  · refine ⟨_, _, rfl, fun hp => ⟨g, rfl, (h.lt g rfl).2, fun j hj => ?_⟩⟩
    obtain ⟨a, b⟩ := rcells_at L j hj
    rw [← ht] at a b
    rw [List.getElem?_take_of_lt (by omega)] at a b
    refine ⟨?_, ?_⟩ <;> rw [Lib.cell_of_heap hh]
    · rw [← Array.getElem?_toList]; exact a
    · rw [← Array.getElem?_toList]; exact b
theorem rat_new (w : World) (L : List Rl) (t : TypeId) : RAt (w.alloc (.cells (rcells L).toArray t)) (some ⟨w.heap.size, 0, none⟩) L := fun _ =>
  ⟨w.heap.size, rfl, by simp, fun j hj => by
    obtain ⟨a, b⟩ := rcells_at L j hj
    exact ⟨by rw [Lib.cell_of_heap (heap_alloc_new w _), List.getElem?_toArray]; exact a, by rw [Lib.cell_of_heap (heap_alloc_new w _), List.getElem?_toArray]; exact b⟩⟩
set_option maxRecDepth 100000 in
theorem sameRoles (A B : Option Addr) (ca cb : Nat) (L : List Rl) (w : World) (hL : L.length ≤ 1000) (hA : RAt w A L) (hB : RAt w B L) :
    Calls Tryz.prog 16 #[.slice A L.length ca, .slice B L.length cb] w fun e w' => e = .returned (.bool true) ∧ RowKit.Below w.heap.size w w' := by
  go_enter Tryz.func16, Tryz.ntmps16
  go_wp2
  go_loopw [13] (fun i wr => ∃ k : Nat, k ≤ L.length ∧ i = .int .i64 k ∧ ∃ n, wr = w.drewN n) (fun i _ => L.length - (intOf i).toNat)
  case atStart => exact ⟨0, by omega, rfl, 0, rfl⟩
  case round =>
    obtain ⟨k, hk, rfl, n, rfl⟩ := hrel
    by_cases hlt : k < L.length
    · obtain ⟨g1, rfl, _, h1⟩ := hA (by omega)
      obtain ⟨g2, rfl, _, h2⟩ := hB (by omega)
      obtain ⟨a1, b1⟩ := h1 k hlt
      obtain ⟨a2, b2⟩ := h2 k hlt
      have p1 : (0 : Int) ≤ k := by omega
      have p2 : (k : Int) < L.length := by omega
      have hq := fun w => neR L[k].owner L[k].name L[k].owner L[k].name w
      rw [decide_eq_true rfl] at hq
      clear h1 h2 hA hB
      go_wp2_with fail
      go_quiet (fail)
      go_wp2_with fail
      go_roundw
      case rel => exact ⟨k + 1, by omega, by go_num, _, rfl⟩
      case measure => simp [intOf]; omega
    · go_wp2_with fail
      go_ret
      exact ⟨rfl, below_drewN (Below.refl _ _) _⟩
/-- The roles of a statement: its head, and what its body names. -/
def rolesL (s : St) : List Rl := if s.kind = 2 ∨ s.kind = 3 then [s.head, s.a] else if s.kind = 4 then [s.head, s.a, s.b] else [s.head]
def RolesPost (s : St) (w : World) (e : Ending) (w' : World) : Prop := ∃ A, e = .returned (.slice A (rolesL s).length (rolesL s).length) ∧ RAt w' A (rolesL s) ∧ Grew w w'
end Go.Proofs.YtcbbffpalpieaaaGreat.SynJ
