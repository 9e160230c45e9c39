/- For every query: the program's Right, Universal, Words, Print, Roles and Prins answer what the document's do; and the document's example stands. -/
import Derived.Test.YtcbbffpalpieaaaGreatM20
import Derived.Deep.RegionHeld3
namespace Go.Proofs.YtcbbffpalpieaaaGreat.QryQ
set_option linter.unusedVariables false
set_option linter.unusedSimpArgs false
open Go.RowKit Go.Sort Go.Proofs Go.Proofs.YtcbbffpalpieaaaGreat.Plain Go.Proofs.YtcbbffpalpieaaaGreat.SynP Go.Proofs.YtcbbffpalpieaaaGreat.TabP Go.Proofs.YtcbbffpalpieaaaGreat.Tab1 Go.Proofs.YtcbbffpalpieaaaGreat.Grown Go.Proofs.YtcbbffpalpieaaaGreat.SynW Go.Proofs.YtcbbffpalpieaaaGreat.SynJ Go.Proofs.YtcbbffpalpieaaaGreat.QryP Go.Proofs.YtcbbffpalpieaaaGreat.Qry2 Go.Proofs.YtcbbffpalpieaaaGreat.Qry6 Go.Proofs.YtcbbffpalpieaaaGreat.Qry7 Go.Proofs.YtcbbffpalpieaaaGreat.QryL Go.Proofs.YtcbbffpalpieaaaGreat.QryH Go.Proofs.YtcbbffpalpieaaaGreat.QryI Go.Proofs.YtcbbffpalpieaaaGreat.QryJ Go.Proofs.YtcbbffpalpieaaaGreat.QryN Go.Proofs.YtcbbffpalpieaaaGreat.QryO
set_option linter.unusedVariables false
set_option linter.unusedSimpArgs false
/-- The first j words, a blank between. -/
def wt (l : List Str) : Nat → Str
  | 0 => []
  | j + 1 => wt l j ++ (if 0 < j then [32] else []) ++ (l[j]?).getD []
theorem wt_all (k : Int) : (⟨(wt (wordsL k) (wordsL k).length).toArray⟩ : ByteArray) = wordsT k := by
  rcases kinds6 k with rfl | rfl | rfl | rfl | rfl | rfl | hk
  · rfl
  · rfl
  · rfl
  · rfl
  · rfl
  · rfl
  · have a : wordsL k = [] := by
      unfold wordsL
      rw [if_neg (by omega), if_neg (by omega), if_neg (by omega), if_neg (by omega), if_neg (by omega), if_neg (by omega)]
    have b : wordsT k = noText := by
      unfold wordsT
      rw [if_neg (by omega), if_neg (by omega), if_neg (by omega), if_neg (by omega), if_neg (by omega), if_neg (by omega)]
    rw [a, b]; rfl
theorem wt_len {l : List Str} (h : ∀ s ∈ l, s.length ≤ 8) : ∀ j, (wt l j).length ≤ j * 9
  | 0 => by simp [wt]
  | j + 1 => by
    have ih := wt_len h j
    unfold wt
    have h2 : ((l[j]?).getD []).length ≤ 8 := by
      cases e : l[j]? with
      | none => simp
      | some s => exact h s (List.mem_of_getElem? e)
    have h3 : (if 0 < j then ([32] : Str) else []).length ≤ 1 := by split <;> simp
    simp only [List.length_append]
    omega
theorem words_8 (k : Int) : ∀ s ∈ wordsL k, s.length ≤ 8 := by
  intro s hs
  unfold wordsL at hs
  (repeat' split at hs) <;> simp at hs
  · rw [hs]; decide
  · rw [hs]; decide
  · rw [hs]; decide
  · rcases hs with hs | hs <;> rw [hs] <;> decide
  · rw [hs]; decide
  · rw [hs]; decide
theorem wt_0 {l : List Str} (h : 0 < l.length) : (⟨(wt l 0).toArray⟩ : ByteArray) ++ ⟨l[0].toArray⟩ = ⟨(wt l 1).toArray⟩ := by
  apply ba_ext
  rw [SynZ.app_list]
  simp [wt, h]
theorem wt_s {l : List Str} {j : Nat} (h0 : 0 < j) (h : j < l.length) : (⟨(wt l j).toArray⟩ : ByteArray) ++ ⟨#[32]⟩ ++ ⟨l[j].toArray⟩ = ⟨(wt l (j + 1)).toArray⟩ := by
  apply ba_ext
  rw [SynZ.app_list, SynZ.app_list]
  simp [wt, h, h0]
theorem below_of_drew {w w' : World} {n : Nat} (h : w' = w.drewN n) : RowKit.Below w.heap.size w w' := by rw [h]; exact below_drewN (Below.refl _ _) n
set_option maxHeartbeats 4000000 in
set_option maxRecDepth 100000 in
theorem walk1 (k : Int) (ao an bo bn : ByteArray) (A : Option Addr) (c : Nat) (T : List Str) (w : World) (hf : Qy.fit ⟨k, ⟨ao, an⟩, ⟨bo, bn⟩, T⟩) (hT : T.length ≤ 1000000) (hl : lightQ ⟨k, ⟨ao, an⟩, ⟨bo, bn⟩, T⟩ = true) (hA : SRow w A T) (hbk : hasBk k = false) :
    Calls Tryz.prog 3 #[.agg #[.int .i64 k, .string ao, .string an, .string bo, .string bn, .slice A T.length c]] w fun e w' => e = .returned (.bool true) ∧ RowKit.Below w.heap.size w w' := by
  have hlt := fun w' (hr : SRow w' A T) => light ⟨k, ⟨ao, an⟩, ⟨bo, bn⟩, T⟩ A c w' hf hr
  rw [hl] at hlt
  have HL := Lib.hid hlt
  have HWd := Lib.hid (words_ k ao an bo bn A T.length c)
  have H1 := Lib.hid (fun w' (hr : SRow w' A T) => Qry2.right k ao an bo bn A c T w' hf hr)
  have H2 := Lib.hid (fun w' (hr : SRow w' A T) => Qry3.rightRef k ao an bo bn A c T w' hf hr)
  have H3 := Lib.hid (fun w' => universal k w')
  have H4 := Lib.hid (fun w' => universalRef k w')
  have H5 := Lib.hid (fun w' => wordsRef k w')
  have H6 := Lib.hid (fun w' (hr : SRow w' A T) => QryI.print ⟨k, ⟨ao, an⟩, ⟨bo, bn⟩, T⟩ A c w' hf hr)
  have H7 := Lib.hid (fun w' (hr : SRow w' A T) => printRef ⟨k, ⟨ao, an⟩, ⟨bo, bn⟩, T⟩ A c w' hf hr)
  have hro := fun w' => rolesOf ⟨k, ⟨ao, an⟩, ⟨bo, bn⟩, T⟩ A c w'
  have hrq : rolesQ ⟨k, ⟨ao, an⟩, ⟨bo, bn⟩, T⟩ = [⟨ao, an⟩] := by unfold rolesQ; simp only [hbk]; rfl
  unfold RolesPostQ at hro
  rw [hrq] at hro
  have H8 := Lib.hid hro
  have H9 := Lib.hid (fun w' (hr : SRow w' A T) => prins ⟨k, ⟨ao, an⟩, ⟨bo, bn⟩, T⟩ A c w' hT hr)
  have k5 : k ≠ 5 := fun e => by rw [e] at hbk; exact absurd hbk (by decide)
  have k6 : k ≠ 6 := fun e => by rw [e] at hbk; exact absurd hbk (by decide)
  have e5 : (k == 5) = false := by simpa using k5
  have e6 : (k == 6) = false := by simpa using k6
  have HA := Lib.hid hA
  have HWA := Lib.hid (wt_all k)
  have HW8 := Lib.hid (words_8 k)
  have hw2 := words_len k
  unfold RightPost at H1 H2
  unfold LinePost at H6 H7
  generalize Qy.right ⟨k, ⟨ao, an⟩, ⟨bo, bn⟩, T⟩ = r1 at *
  generalize univ k = r2 at *
  generalize lineQ ⟨k, ⟨ao, an⟩, ⟨bo, bn⟩, T⟩ = ln at *
  generalize wordsT k = wk at *
  generalize hWL : wordsL k = WL at *
  have HPW : Hid (∀ w', Calls Tryz.prog 8 #[.agg #[.int .i64 k, .string ao, .string an, .string bo, .string bn, .slice A T.length c]] w' fun e w'' => ∃ A' c', e = .returned (.slice A' WL.length c') ∧ SRow w'' A' WL ∧ Grew w' w'') := Lib.hid (fun w' => by have := HWd.out w'; unfold WordsPost at this; rw [hWL] at this; exact this)
  have hT' := hT
  clear hf hl hA hbk hlt hro hrq k5 k6 HWd hWL hT
  go_enter Tryz.func3, Tryz.ntmps3
  go_wp2_with fail
  refine (HL.out _ (HA.out.keep ((Below.refl _ _).alloc (Nat.le_refl _) _))).mono ?_
  rintro e w1 ⟨rfl, hg⟩
  have hb1 := hg.below
  have hbox1 : ∀ o, w1.cell? ⟨w.heap.size, o, none⟩ = (#[.int .i64 k, .string ao, .string an, .string bo, .string bn, .slice A T.length c] : Array Value)[o]? := fun o => (hb1.cell (p := ⟨w.heap.size, o, none⟩) (by simp)).trans (Lib.cell_of_heap (heap_alloc_new w _) o)
  have hbw1 := Lib.hid (((Below.refl w.heap.size w).alloc (Nat.le_refl _) (.cells #[.int .i64 k, .string ao, .string an, .string bo, .string bn, .slice A T.length c] 26)).trans (hb1.mono (by simp)))
  have z1 := hb1.size
  simp only [World.size_alloc] at z1
  have z2 : w.heap.size < w1.heap.size := by omega
  have HBX1 := Lib.hid hbox1
  clear hg hb1 HL
  go_wp2_with fail
  refine (HPW.out _).mono ?_
  rintro e w2 ⟨Aw, cw, rfl, hrw, hg2⟩
  have hbw2 := Lib.hid (hbw1.out.trans (hg2.below.mono (by omega)))
  have z3 : w.heap.size < w2.heap.size := Nat.lt_of_lt_of_le z2 hg2.size
  have HBX2 : Hid (∀ o, w2.cell? ⟨w.heap.size, o, none⟩ = (#[.int .i64 k, .string ao, .string an, .string bo, .string bn, .slice A T.length c] : Array Value)[o]?) := Lib.hid (fun o => (hg2.cell (a := ⟨w.heap.size, o, none⟩) z2).trans (HBX1.out o))
  have HRw := Lib.hid hrw
  clear hg2 hbox1 HBX1 hbw1 hrw
  go_wp2_with fail
  go_loop [3, 14] (fun s i => ∃ j : Nat, j ≤ WL.length ∧ i = .int .i64 j ∧ s = .string ⟨(wt WL j).toArray⟩) (fun _ i => WL.length - (intOf i).toNat)
  case atStart => exact ⟨0, by omega, rfl, rfl⟩
  case round =>
    obtain ⟨j, hj, rfl, rfl⟩ := hrel
    have hwl := wt_len HW8.out j
    by_cases hlt : j < WL.length
    · obtain ⟨g, off, rfl, hg, hcell⟩ := HRw.out (by omega)
      have hc := hcell j hlt
      have hs8 := HW8.out WL[j] (List.getElem_mem _)
      have p1 : (0 : Int) ≤ j := by omega
      have p2 : (j : Int) < WL.length := by omega
      have sz1 : (⟨WL[j].toArray⟩ : ByteArray).size = WL[j].length := rfl
      have sz2 : (⟨(wt WL j).toArray⟩ : ByteArray).size = (wt WL j).length := rfl
      rcases Nat.eq_zero_or_pos j with h0 | h0
      · subst h0
        have hn := Lib.hid (wt_0 hlt)
        rw [Nat.add_zero] at hc
        clear hcell
        generalize (⟨WL[0].toArray⟩ : ByteArray) = y at *
        generalize (⟨(wt WL 0).toArray⟩ : ByteArray) = x at *
        go_wp2_with fail
        go_round
        case rel => exact ⟨0 + 1, by omega, by go_num, by rw [← hn.out]⟩
        case measure => simp [intOf]; omega
      · have hn := Lib.hid (wt_s h0 hlt)
        have d0 : decide ((0 : Int) < j) = true := by simp; omega
        clear hcell
        generalize (⟨WL[j].toArray⟩ : ByteArray) = y at *
        generalize (⟨(wt WL j).toArray⟩ : ByteArray) = x at *
        go_wp2_with fail
        go_round
        case rel => exact ⟨j + 1, by omega, by go_num, by rw [← hn.out]⟩
        case measure => simp [intOf]; omega
    · obtain rfl : j = WL.length := by omega
      rw [HWA.out]
      clear hlt hwl hj
      have c0 := HBX2.out 0
      have c1 := HBX2.out 1
      have c2 := HBX2.out 2
      simp only [List.getElem?_toArray, List.getElem?_cons_zero, List.getElem?_cons_succ] at c0 c1 c2
      have hbW : RowKit.Below w.heap.size w (w2.alloc (.cells #[.string ao, .string an] 23)) := hbw2.out.alloc hbw2.out.size _
      have hbox : ∀ o, (w2.alloc (.cells #[.string ao, .string an] 23)).cell? ⟨w.heap.size, o, none⟩ = (#[.int .i64 k, .string ao, .string an, .string bo, .string bn, .slice A T.length c] : Array Value)[o]? := fun o => (((Below.refl w2.heap.size w2).alloc (Nat.le_refl _) _).cell (p := ⟨w.heap.size, o, none⟩) z3).trans (HBX2.out o)
      have hrat : RAt (w2.alloc (.cells #[.string ao, .string an] 23)) (some ⟨w2.heap.size, 0, none⟩) [⟨ao, an⟩] := rat_new w2 [⟨ao, an⟩] 23
      have hzW : w.heap.size < (w2.alloc (.cells #[.string ao, .string an] 23)).heap.size := by simp; omega
      have hst : RowKit.Below (w2.alloc (.cells #[.string ao, .string an] 23)).heap.size (w2.alloc (.cells #[.string ao, .string an] 23)) (w2.alloc (.cells #[.string ao, .string an] 23)).drew ∧ (∀ o, (w2.alloc (.cells #[.string ao, .string an] 23)).drew.cell? ⟨w.heap.size, o, none⟩ = (#[.int .i64 k, .string ao, .string an, .string bo, .string bn, .slice A T.length c] : Array Value)[o]?) := ⟨(Below.refl _ _).drew, hbox⟩
      have Hrt := Lib.hid (fun (w' : World) (hb : RowKit.Below (w2.alloc (.cells #[.string ao, .string an] 23)).heap.size (w2.alloc (.cells #[.string ao, .string an] 23)) w') => hrat.below hb)
      have HAr := Lib.hid (fun (w' : World) (hb : RowKit.Below (w2.alloc (.cells #[.string ao, .string an] 23)).heap.size (w2.alloc (.cells #[.string ao, .string an] 23)) w') => HA.out.keep (hbW.trans (hb.mono hbW.size)))
      have HbW := Lib.hid hbW
      clear hbW hbox hrat
      go_wp2_with fail
      go_region_held3 (fun w' => RowKit.Below (w2.alloc (.cells #[.string ao, .string an] 23)).heap.size (w2.alloc (.cells #[.string ao, .string an] 23)) w' ∧ (∀ o, w'.cell? ⟨w.heap.size, o, none⟩ = (#[.int .i64 k, .string ao, .string an, .string bo, .string bn, .slice A T.length c] : Array Value)[o]?))
        (first | with_reducible exact hst | with_reducible assumption | exact keepQ (by with_reducible assumption) hzW (by with_reducible assumption))
        (first | (go_at_call 9; refine (H1.out _ (HAr.out _ (by apply And.left; with_reducible assumption))).mono ?_; rintro e w' ⟨rfl, hgb⟩) | (go_at_call 10; refine (H2.out _ (HAr.out _ (by apply And.left; with_reducible assumption))).mono ?_; rintro e w' ⟨rfl, hgb⟩) | (go_at_call 11; refine (H3.out _).mono ?_; rintro e w' ⟨rfl, n', hw'⟩; have hgb := below_of_drew hw'; clear hw') | (go_at_call 12; refine (H4.out _).mono ?_; rintro e w' ⟨rfl, n', hw'⟩; have hgb := below_of_drew hw'; clear hw') | (go_at_call 13; refine (H5.out _).mono ?_; rintro e w' ⟨rfl, n', hw'⟩; have hgb := below_of_drew hw'; clear hw') | (go_at_call 14; refine (H6.out _ (HAr.out _ (by apply And.left; with_reducible assumption))).mono ?_; rintro e w' ⟨rfl, hgb⟩) | (go_at_call 15; refine (H7.out _ (HAr.out _ (by apply And.left; with_reducible assumption))).mono ?_; rintro e w' ⟨rfl, hgb⟩) | (go_at_call 17; refine (H8.out _).mono ?_; rintro e w' ⟨A9, rfl, hra, hgb⟩) | (go_at_call 16; refine (sameRoles _ _ _ _ [⟨ao, an⟩] _ (by simp) hra (Hrt.out _ (by apply And.left; with_reducible assumption))).mono ?_; rintro e w' ⟨rfl, hgb⟩) | (go_at_call 19; refine (H9.out _ (HAr.out _ (by apply And.left; with_reducible assumption))).mono ?_; rintro e w' ⟨A8, c8, rfl, hrp, hgb⟩) | (go_at_call 18; refine (Tab3.same A8 A c8 c T _ hT' hrp (HAr.out _ (by apply And.left; with_reducible assumption))).mono ?_; rintro e w' ⟨rfl, n', hw'⟩; have hgb := below_of_drew hw'; clear hw') | (go_at_call 7; refine (lives _).mono ?_; rintro e w' ⟨rfl, hgb⟩))
      rename_i hHeld
      go_wp2_with fail
      go_ret
      exact ⟨rfl, HbW.out.trans (hHeld.1.mono HbW.out.size)⟩
end Go.Proofs.YtcbbffpalpieaaaGreat.QryQ
