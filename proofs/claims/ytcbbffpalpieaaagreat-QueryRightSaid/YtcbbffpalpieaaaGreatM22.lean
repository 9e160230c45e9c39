/- For every query between two roles: the program's Right, Universal, Words, Print, Roles and Prins answer what the document's do; and the document's example stands. -/
import Derived.Test.YtcbbffpalpieaaaGreatM21
namespace Go.Proofs.YtcbbffpalpieaaaGreat.QryR
set_option linter.unusedVariables false
set_option linter.unusedSimpArgs false
open Go.RowKit Go.Sort Go.Proofs Go.Proofs.YtcbbffpalpieaaaGreat.Plain Go.Proofs.YtcbbffpalpieaaaGreat.SynP Go.Proofs.YtcbbffpalpieaaaGreat.TabP Go.Proofs.YtcbbffpalpieaaaGreat.Tab1 Go.Proofs.YtcbbffpalpieaaaGreat.Grown Go.Proofs.YtcbbffpalpieaaaGreat.SynW Go.Proofs.YtcbbffpalpieaaaGreat.SynJ Go.Proofs.YtcbbffpalpieaaaGreat.QryP Go.Proofs.YtcbbffpalpieaaaGreat.Qry2 Go.Proofs.YtcbbffpalpieaaaGreat.Qry6 Go.Proofs.YtcbbffpalpieaaaGreat.Qry7 Go.Proofs.YtcbbffpalpieaaaGreat.QryL Go.Proofs.YtcbbffpalpieaaaGreat.QryH Go.Proofs.YtcbbffpalpieaaaGreat.QryI Go.Proofs.YtcbbffpalpieaaaGreat.QryJ Go.Proofs.YtcbbffpalpieaaaGreat.QryN Go.Proofs.YtcbbffpalpieaaaGreat.QryO Go.Proofs.YtcbbffpalpieaaaGreat.QryQ
set_option linter.unusedVariables false
set_option linter.unusedSimpArgs false
theorem new2 (w : World) (a b : Value) (t : TypeId) {n : Nat} (hn : n = w.heap.size) : ∀ j u, [a, b][j]? = some u → (w.alloc (.cells #[a, b] t)).cell? ((⟨n, 0, none⟩ : Addr).add j) = some u := by
  subst hn
  intro j u hu
  rw [SynC.add_off, Nat.zero_add, Lib.cell_of_heap (heap_alloc_new w _), ← hu]
  simp
theorem own_first (w : World) (a b : Value) (t : TypeId) : (w.alloc (.cells #[a, b] t)).ownsRow w.heap.size t 2 (.slice (some ⟨w.heap.size, 0, none⟩) 1 1) 1 [a, b] := by
  refine ⟨by simp, .inr ⟨w.heap.size, 1, #[a, b], rfl, Nat.le_refl _, heap_alloc_new w _, by omega, ?_⟩⟩
  simp [maxLen]
set_option maxHeartbeats 4000000 in
set_option maxRecDepth 100000 in
theorem walk5 (ao an bo bn : ByteArray) (A : Option Addr) (c : Nat) (T : List Str) (w : World) (hf : Qy.fit ⟨5, ⟨ao, an⟩, ⟨bo, bn⟩, T⟩) (hT : T.length ≤ 1000000) (hl : lightQ ⟨5, ⟨ao, an⟩, ⟨bo, bn⟩, T⟩ = true) (hA : SRow w A T) :
    Calls Tryz.prog 3 #[.agg #[.int .i64 5, .string ao, .string an, .string bo, .string bn, .slice A T.length c]] w fun e w' => e = .returned (.bool true) ∧ RowKit.Below w.heap.size w w' := by
  obtain ⟨i0, hi, hz0, hz1, hz2⟩ := info_parts infoRole
  have hlt := fun w' (hr : SRow w' A T) => light ⟨5, ⟨ao, an⟩, ⟨bo, bn⟩, T⟩ A c w' hf hr
  rw [hl] at hlt
  have HL := Lib.hid hlt
  have HWd := Lib.hid (words_ 5 ao an bo bn A T.length c)
  have H1 := Lib.hid (fun w' (hr : SRow w' A T) => Qry2.right 5 ao an bo bn A c T w' hf hr)
  have H2 := Lib.hid (fun w' (hr : SRow w' A T) => Qry3.rightRef 5 ao an bo bn A c T w' hf hr)
  have H3 := Lib.hid (fun w' => universal 5 w')
  have H4 := Lib.hid (fun w' => universalRef 5 w')
  have H5 := Lib.hid (fun w' => wordsRef 5 w')
  have H6 := Lib.hid (fun w' (hr : SRow w' A T) => QryI.print ⟨5, ⟨ao, an⟩, ⟨bo, bn⟩, T⟩ A c w' hf hr)
  have H7 := Lib.hid (fun w' (hr : SRow w' A T) => printRef ⟨5, ⟨ao, an⟩, ⟨bo, bn⟩, T⟩ A c w' hf hr)
  have hro := fun w' => rolesOf ⟨5, ⟨ao, an⟩, ⟨bo, bn⟩, T⟩ A c w'
  have hrq : rolesQ ⟨5, ⟨ao, an⟩, ⟨bo, bn⟩, T⟩ = [⟨ao, an⟩, ⟨bo, bn⟩] := rfl
  unfold RolesPostQ at hro
  rw [hrq] at hro
  have H8 := Lib.hid hro
  have H9 := Lib.hid (fun w' (hr : SRow w' A T) => prins ⟨5, ⟨ao, an⟩, ⟨bo, bn⟩, T⟩ A c w' hT hr)
  have HA := Lib.hid hA
  have HWA := Lib.hid (wt_all 5)
  have HW8 := Lib.hid (words_8 5)
  have hw2 := words_len 5
  unfold RightPost at H1 H2
  unfold LinePost at H6 H7
  generalize Qy.right ⟨5, ⟨ao, an⟩, ⟨bo, bn⟩, T⟩ = r1 at *
  generalize univ 5 = r2 at *
  generalize lineQ ⟨5, ⟨ao, an⟩, ⟨bo, bn⟩, T⟩ = ln at *
  generalize wordsT 5 = wk at *
  generalize hWL : wordsL 5 = WL at *
  have HPW : Hid (∀ w', Calls Tryz.prog 8 #[.agg #[.int .i64 5, .string ao, .string an, .string bo, .string bn, .slice A T.length c]] w' fun e w'' => ∃ A' c', e = .returned (.slice A' WL.length c') ∧ SRow w'' A' WL ∧ Grew w' w'') := Lib.hid (fun w' => by have := HWd.out w'; unfold WordsPost at this; rw [hWL] at this; exact this)
  have hT' := hT
  clear hf hl hA hlt hro hrq HWd hWL hT
  go_enter Tryz.func3, Tryz.ntmps3
  go_wp2_with fail
  refine (HL.out _ (HA.out.keep ((Below.refl _ _).alloc (Nat.le_refl _) _))).mono ?_
  rintro e w1 ⟨rfl, hg⟩
  have hb1 := hg.below
  have hbox1 : ∀ o, w1.cell? ⟨w.heap.size, o, none⟩ = (#[.int .i64 5, .string ao, .string an, .string bo, .string bn, .slice A T.length c] : Array Value)[o]? := fun o => (hb1.cell (p := ⟨w.heap.size, o, none⟩) (by simp)).trans (Lib.cell_of_heap (heap_alloc_new w _) o)
  have hbw1 := Lib.hid (((Below.refl w.heap.size w).alloc (Nat.le_refl _) (.cells #[.int .i64 5, .string ao, .string an, .string bo, .string bn, .slice A T.length c] 26)).trans (hb1.mono (by simp)))
  have z1 := hb1.size
  simp only [World.size_alloc] at z1
  have z2 : w.heap.size < w1.heap.size := by omega
  have HBX1 := Lib.hid hbox1
  clear hg hb1 HL
  go_wp2_with fail
  refine (HPW.out _).mono ?_
  rintro e w2 ⟨Aw, cw, rfl, hrw, hg2⟩
  have hbw2 := Lib.hid (hbw1.out.trans (hg2.below.mono (by omega)))
  have z3 : w.heap.size < w2.heap.size := Nat.lt_of_lt_of_le z2 hg2.size
  have HBX2 : Hid (∀ o, w2.cell? ⟨w.heap.size, o, none⟩ = (#[.int .i64 5, .string ao, .string an, .string bo, .string bn, .slice A T.length c] : Array Value)[o]?) := Lib.hid (fun o => (hg2.cell (a := ⟨w.heap.size, o, none⟩) z2).trans (HBX1.out o))
  have HRw := Lib.hid hrw
  clear hg2 hbox1 HBX1 hbw1 hrw
  go_wp2_with fail
  go_loop [3, 14] (fun s i => ∃ j : Nat, j ≤ WL.length ∧ i = .int .i64 j ∧ s = .string ⟨(wt WL j).toArray⟩) (fun _ i => WL.length - (intOf i).toNat)
  case atStart => exact ⟨0, by omega, rfl, rfl⟩
  case round =>
    obtain ⟨j, hj, rfl, rfl⟩ := hrel
    have hwl := wt_len HW8.out j
    by_cases hlt : j < WL.length
    · obtain ⟨g, off, rfl, hg, hcell⟩ := HRw.out (by omega)
      have hc := hcell j hlt
      have hs8 := HW8.out WL[j] (List.getElem_mem _)
      have p1 : (0 : Int) ≤ j := by omega
      have p2 : (j : Int) < WL.length := by omega
      have sz1 : (⟨WL[j].toArray⟩ : ByteArray).size = WL[j].length := rfl
      have sz2 : (⟨(wt WL j).toArray⟩ : ByteArray).size = (wt WL j).length := rfl
      rcases Nat.eq_zero_or_pos j with h0 | h0
      · subst h0
        have hn := Lib.hid (wt_0 hlt)
        rw [Nat.add_zero] at hc
        clear hcell
        generalize (⟨WL[0].toArray⟩ : ByteArray) = y at *
        generalize (⟨(wt WL 0).toArray⟩ : ByteArray) = x at *
        go_wp2_with fail
        go_round
        case rel => exact ⟨0 + 1, by omega, by go_num, by rw [← hn.out]⟩
        case measure => simp [intOf]; omega
      · have hn := Lib.hid (wt_s h0 hlt)
        have d0 : decide ((0 : Int) < j) = true := by simp; omega
        clear hcell
        generalize (⟨WL[j].toArray⟩ : ByteArray) = y at *
        generalize (⟨(wt WL j).toArray⟩ : ByteArray) = x at *
        go_wp2_with fail
        go_round
        case rel => exact ⟨j + 1, by omega, by go_num, by rw [← hn.out]⟩
        case measure => simp [intOf]; omega
    · obtain rfl : j = WL.length := by omega
      rw [HWA.out]
      clear hlt hwl hj
      have c0 := HBX2.out 0
      have c1 := HBX2.out 1
      have c2 := HBX2.out 2
      have c3 := HBX2.out 3
      have c4 := HBX2.out 4
      simp only [List.getElem?_toArray, List.getElem?_cons_zero, List.getElem?_cons_succ] at c0 c1 c2 c3 c4
      have hown0 : (w2.alloc (.cells #[.string ao, .string an] 23)).ownsRow w2.heap.size 23 2 (.slice (some ⟨w2.heap.size, 0, none⟩) 1 1) 1 [.string ao, .string an] := own_first w2 _ _ 23
      have HO0 := Lib.hid hown0
      clear hown0
      go_wp2_with (at_builtin; refine wpList_append_own _ rfl _ _ 30 rfl w2.heap.size 23 i0 (.agg #[.string ⟨#[]⟩, .string ⟨#[]⟩]) 2 32 Tryz.underlying30 hi hz0 hz1 hz2 rfl (by decide) _ _ _ rfl (HO0.out.alloc _) ⟨w2.heap.size + 1, 0, none⟩ 1 1 [.string bo, .string bn] rfl rfl (new2 (w2.alloc (.cells #[.string ao, .string an] 23)) _ _ _ (by simp)) (by intro u hu; simp at hu; rcases hu with rfl | rfl <;> rfl) (by unfold maxLen; decide) (by decide) (by simp; omega) ?_)
      intro v3 w3 hown3 hgrow3 _
      have hb3 : RowKit.Below w2.heap.size w2 w3 := (((Below.refl w2.heap.size w2).alloc (Nat.le_refl _) _).alloc (by simp) _).grown hgrow3 (by simp; omega) (fun q hq => by have := (HO0.out.lt q hq).1; omega)
      obtain ⟨A3, cap3, rfl, hra3⟩ := rat_own (L := [⟨ao, an⟩, ⟨bo, bn⟩]) hown3
      have hbW : RowKit.Below w.heap.size w w3 := hbw2.out.trans (hb3.mono (by omega))
      have hbox : ∀ o, w3.cell? ⟨w.heap.size, o, none⟩ = (#[.int .i64 5, .string ao, .string an, .string bo, .string bn, .slice A T.length c] : Array Value)[o]? := fun o => (hb3.cell (p := ⟨w.heap.size, o, none⟩) z3).trans (HBX2.out o)
      have hzW : w.heap.size < w3.heap.size := by have := hb3.size; omega
      have hst : RowKit.Below w3.heap.size w3 w3.drew ∧ (∀ o, w3.drew.cell? ⟨w.heap.size, o, none⟩ = (#[.int .i64 5, .string ao, .string an, .string bo, .string bn, .slice A T.length c] : Array Value)[o]?) := ⟨(Below.refl _ _).drew, hbox⟩
      have Hrt := Lib.hid (fun (w' : World) (hb : RowKit.Below w3.heap.size w3 w') => hra3.below hb)
      have HAr := Lib.hid (fun (w' : World) (hb : RowKit.Below w3.heap.size w3 w') => HA.out.keep (hbW.trans (hb.mono hbW.size)))
      have HbW := Lib.hid hbW
      clear hbW hbox hra3 hb3 hown3 hgrow3 HO0 c0 c1 c2 c3 c4
      go_wp2_with fail
      go_region_held3 (fun w' => RowKit.Below w3.heap.size w3 w' ∧ (∀ o, w'.cell? ⟨w.heap.size, o, none⟩ = (#[.int .i64 5, .string ao, .string an, .string bo, .string bn, .slice A T.length c] : Array Value)[o]?))
        (first | with_reducible exact hst | with_reducible assumption | exact keepQ (by with_reducible assumption) hzW (by with_reducible assumption))
        (first | (go_at_call 9; refine (H1.out _ (HAr.out _ (by apply And.left; with_reducible assumption))).mono ?_; rintro e w' ⟨rfl, hgb⟩) | (go_at_call 10; refine (H2.out _ (HAr.out _ (by apply And.left; with_reducible assumption))).mono ?_; rintro e w' ⟨rfl, hgb⟩) | (go_at_call 11; refine (H3.out _).mono ?_; rintro e w' ⟨rfl, n', hw'⟩; have hgb := below_of_drew hw'; clear hw') | (go_at_call 12; refine (H4.out _).mono ?_; rintro e w' ⟨rfl, n', hw'⟩; have hgb := below_of_drew hw'; clear hw') | (go_at_call 13; refine (H5.out _).mono ?_; rintro e w' ⟨rfl, n', hw'⟩; have hgb := below_of_drew hw'; clear hw') | (go_at_call 14; refine (H6.out _ (HAr.out _ (by apply And.left; with_reducible assumption))).mono ?_; rintro e w' ⟨rfl, hgb⟩) | (go_at_call 15; refine (H7.out _ (HAr.out _ (by apply And.left; with_reducible assumption))).mono ?_; rintro e w' ⟨rfl, hgb⟩) | (go_at_call 17; refine (H8.out _).mono ?_; rintro e w' ⟨A9, rfl, hra, hgb⟩) | (go_at_call 16; refine (sameRoles _ _ _ _ [⟨ao, an⟩, ⟨bo, bn⟩] _ (by simp) hra (Hrt.out _ (by apply And.left; with_reducible assumption))).mono ?_; rintro e w' ⟨rfl, hgb⟩) | (go_at_call 19; refine (H9.out _ (HAr.out _ (by apply And.left; with_reducible assumption))).mono ?_; rintro e w' ⟨A8, c8, rfl, hrp, hgb⟩) | (go_at_call 18; refine (Tab3.same A8 A c8 c T _ hT' hrp (HAr.out _ (by apply And.left; with_reducible assumption))).mono ?_; rintro e w' ⟨rfl, n', hw'⟩; have hgb := below_of_drew hw'; clear hw') | (go_at_call 7; refine (lives _).mono ?_; rintro e w' ⟨rfl, hgb⟩))
      rename_i hHeld
      go_wp2_with fail
      go_ret
      exact ⟨rfl, HbW.out.trans (hHeld.1.mono HbW.out.size)⟩
set_option maxHeartbeats 4000000 in
set_option maxRecDepth 100000 in
theorem walk6 (ao an bo bn : ByteArray) (A : Option Addr) (c : Nat) (T : List Str) (w : World) (hf : Qy.fit ⟨6, ⟨ao, an⟩, ⟨bo, bn⟩, T⟩) (hT : T.length ≤ 1000000) (hl : lightQ ⟨6, ⟨ao, an⟩, ⟨bo, bn⟩, T⟩ = true) (hA : SRow w A T) :
    Calls Tryz.prog 3 #[.agg #[.int .i64 6, .string ao, .string an, .string bo, .string bn, .slice A T.length c]] w fun e w' => e = .returned (.bool true) ∧ RowKit.Below w.heap.size w w' := by
  obtain ⟨i0, hi, hz0, hz1, hz2⟩ := info_parts infoRole
  have hlt := fun w' (hr : SRow w' A T) => light ⟨6, ⟨ao, an⟩, ⟨bo, bn⟩, T⟩ A c w' hf hr
  rw [hl] at hlt
  have HL := Lib.hid hlt
  have HWd := Lib.hid (words_ 6 ao an bo bn A T.length c)
  have H1 := Lib.hid (fun w' (hr : SRow w' A T) => Qry2.right 6 ao an bo bn A c T w' hf hr)
  have H2 := Lib.hid (fun w' (hr : SRow w' A T) => Qry3.rightRef 6 ao an bo bn A c T w' hf hr)
  have H3 := Lib.hid (fun w' => universal 6 w')
  have H4 := Lib.hid (fun w' => universalRef 6 w')
  have H5 := Lib.hid (fun w' => wordsRef 6 w')
  have H6 := Lib.hid (fun w' (hr : SRow w' A T) => QryI.print ⟨6, ⟨ao, an⟩, ⟨bo, bn⟩, T⟩ A c w' hf hr)
  have H7 := Lib.hid (fun w' (hr : SRow w' A T) => printRef ⟨6, ⟨ao, an⟩, ⟨bo, bn⟩, T⟩ A c w' hf hr)
  have hro := fun w' => rolesOf ⟨6, ⟨ao, an⟩, ⟨bo, bn⟩, T⟩ A c w'
  have hrq : rolesQ ⟨6, ⟨ao, an⟩, ⟨bo, bn⟩, T⟩ = [⟨ao, an⟩, ⟨bo, bn⟩] := rfl
  unfold RolesPostQ at hro
  rw [hrq] at hro
  have H8 := Lib.hid hro
  have H9 := Lib.hid (fun w' (hr : SRow w' A T) => prins ⟨6, ⟨ao, an⟩, ⟨bo, bn⟩, T⟩ A c w' hT hr)
  have HA := Lib.hid hA
  have HWA := Lib.hid (wt_all 6)
  have HW8 := Lib.hid (words_8 6)
  have hw2 := words_len 6
  unfold RightPost at H1 H2
  unfold LinePost at H6 H7
  generalize Qy.right ⟨6, ⟨ao, an⟩, ⟨bo, bn⟩, T⟩ = r1 at *
  generalize univ 6 = r2 at *
  generalize lineQ ⟨6, ⟨ao, an⟩, ⟨bo, bn⟩, T⟩ = ln at *
  generalize wordsT 6 = wk at *
  generalize hWL : wordsL 6 = WL at *
  have HPW : Hid (∀ w', Calls Tryz.prog 8 #[.agg #[.int .i64 6, .string ao, .string an, .string bo, .string bn, .slice A T.length c]] w' fun e w'' => ∃ A' c', e = .returned (.slice A' WL.length c') ∧ SRow w'' A' WL ∧ Grew w' w'') := Lib.hid (fun w' => by have := HWd.out w'; unfold WordsPost at this; rw [hWL] at this; exact this)
  have hT' := hT
  clear hf hl hA hlt hro hrq HWd hWL hT
  go_enter Tryz.func3, Tryz.ntmps3
  go_wp2_with fail
  refine (HL.out _ (HA.out.keep ((Below.refl _ _).alloc (Nat.le_refl _) _))).mono ?_
  rintro e w1 ⟨rfl, hg⟩
  have hb1 := hg.below
  have hbox1 : ∀ o, w1.cell? ⟨w.heap.size, o, none⟩ = (#[.int .i64 6, .string ao, .string an, .string bo, .string bn, .slice A T.length c] : Array Value)[o]? := fun o => (hb1.cell (p := ⟨w.heap.size, o, none⟩) (by simp)).trans (Lib.cell_of_heap (heap_alloc_new w _) o)
  have hbw1 := Lib.hid (((Below.refl w.heap.size w).alloc (Nat.le_refl _) (.cells #[.int .i64 6, .string ao, .string an, .string bo, .string bn, .slice A T.length c] 26)).trans (hb1.mono (by simp)))
  have z1 := hb1.size
  simp only [World.size_alloc] at z1
  have z2 : w.heap.size < w1.heap.size := by omega
  have HBX1 := Lib.hid hbox1
  clear hg hb1 HL
  go_wp2_with fail
  refine (HPW.out _).mono ?_
  rintro e w2 ⟨Aw, cw, rfl, hrw, hg2⟩
  have hbw2 := Lib.hid (hbw1.out.trans (hg2.below.mono (by omega)))
  have z3 : w.heap.size < w2.heap.size := Nat.lt_of_lt_of_le z2 hg2.size
  have HBX2 : Hid (∀ o, w2.cell? ⟨w.heap.size, o, none⟩ = (#[.int .i64 6, .string ao, .string an, .string bo, .string bn, .slice A T.length c] : Array Value)[o]?) := Lib.hid (fun o => (hg2.cell (a := ⟨w.heap.size, o, none⟩) z2).trans (HBX1.out o))
  have HRw := Lib.hid hrw
  clear hg2 hbox1 HBX1 hbw1 hrw
  go_wp2_with fail
  go_loop [3, 14] (fun s i => ∃ j : Nat, j ≤ WL.length ∧ i = .int .i64 j ∧ s = .string ⟨(wt WL j).toArray⟩) (fun _ i => WL.length - (intOf i).toNat)
  case atStart => exact ⟨0, by omega, rfl, rfl⟩
  case round =>
    obtain ⟨j, hj, rfl, rfl⟩ := hrel
    have hwl := wt_len HW8.out j
    by_cases hlt : j < WL.length
    · obtain ⟨g, off, rfl, hg, hcell⟩ := HRw.out (by omega)
      have hc := hcell j hlt
      have hs8 := HW8.out WL[j] (List.getElem_mem _)
      have p1 : (0 : Int) ≤ j := by omega
      have p2 : (j : Int) < WL.length := by omega
      have sz1 : (⟨WL[j].toArray⟩ : ByteArray).size = WL[j].length := rfl
      have sz2 : (⟨(wt WL j).toArray⟩ : ByteArray).size = (wt WL j).length := rfl
      rcases Nat.eq_zero_or_pos j with h0 | h0
      · subst h0
        have hn := Lib.hid (wt_0 hlt)
        rw [Nat.add_zero] at hc
        clear hcell
        generalize (⟨WL[0].toArray⟩ : ByteArray) = y at *
        generalize (⟨(wt WL 0).toArray⟩ : ByteArray) = x at *
        go_wp2_with fail
        go_round
        case rel => exact ⟨0 + 1, by omega, by go_num, by rw [← hn.out]⟩
        case measure => simp [intOf]; omega
      · have hn := Lib.hid (wt_s h0 hlt)
        have d0 : decide ((0 : Int) < j) = true := by simp; omega
        clear hcell
        generalize (⟨WL[j].toArray⟩ : ByteArray) = y at *
        generalize (⟨(wt WL j).toArray⟩ : ByteArray) = x at *
        go_wp2_with fail
        go_round
        case rel => exact ⟨j + 1, by omega, by go_num, by rw [← hn.out]⟩
        case measure => simp [intOf]; omega
    · obtain rfl : j = WL.length := by omega
      rw [HWA.out]
      clear hlt hwl hj
      have c0 := HBX2.out 0
      have c1 := HBX2.out 1
      have c2 := HBX2.out 2
      have c3 := HBX2.out 3
      have c4 := HBX2.out 4
      simp only [List.getElem?_toArray, List.getElem?_cons_zero, List.getElem?_cons_succ] at c0 c1 c2 c3 c4
      have hown0 : (w2.alloc (.cells #[.string ao, .string an] 23)).ownsRow w2.heap.size 23 2 (.slice (some ⟨w2.heap.size, 0, none⟩) 1 1) 1 [.string ao, .string an] := own_first w2 _ _ 23
      have HO0 := Lib.hid hown0
      clear hown0
      go_wp2_with (at_builtin; refine wpList_append_own _ rfl _ _ 30 rfl w2.heap.size 23 i0 (.agg #[.string ⟨#[]⟩, .string ⟨#[]⟩]) 2 32 Tryz.underlying30 hi hz0 hz1 hz2 rfl (by decide) _ _ _ rfl (HO0.out.alloc _) ⟨w2.heap.size + 1, 0, none⟩ 1 1 [.string bo, .string bn] rfl rfl (new2 (w2.alloc (.cells #[.string ao, .string an] 23)) _ _ _ (by simp)) (by intro u hu; simp at hu; rcases hu with rfl | rfl <;> rfl) (by unfold maxLen; decide) (by decide) (by simp; omega) ?_)
      intro v3 w3 hown3 hgrow3 _
      have hb3 : RowKit.Below w2.heap.size w2 w3 := (((Below.refl w2.heap.size w2).alloc (Nat.le_refl _) _).alloc (by simp) _).grown hgrow3 (by simp; omega) (fun q hq => by have := (HO0.out.lt q hq).1; omega)
      obtain ⟨A3, cap3, rfl, hra3⟩ := rat_own (L := [⟨ao, an⟩, ⟨bo, bn⟩]) hown3
      have hbW : RowKit.Below w.heap.size w w3 := hbw2.out.trans (hb3.mono (by omega))
      have hbox : ∀ o, w3.cell? ⟨w.heap.size, o, none⟩ = (#[.int .i64 6, .string ao, .string an, .string bo, .string bn, .slice A T.length c] : Array Value)[o]? := fun o => (hb3.cell (p := ⟨w.heap.size, o, none⟩) z3).trans (HBX2.out o)
      have hzW : w.heap.size < w3.heap.size := by have := hb3.size; omega
      have hst : RowKit.Below w3.heap.size w3 w3.drew ∧ (∀ o, w3.drew.cell? ⟨w.heap.size, o, none⟩ = (#[.int .i64 6, .string ao, .string an, .string bo, .string bn, .slice A T.length c] : Array Value)[o]?) := ⟨(Below.refl _ _).drew, hbox⟩
      have Hrt := Lib.hid (fun (w' : World) (hb : RowKit.Below w3.heap.size w3 w') => hra3.below hb)
      have HAr := Lib.hid (fun (w' : World) (hb : RowKit.Below w3.heap.size w3 w') => HA.out.keep (hbW.trans (hb.mono hbW.size)))
      have HbW := Lib.hid hbW
      clear hbW hbox hra3 hb3 hown3 hgrow3 HO0 c0 c1 c2 c3 c4
      go_wp2_with fail
      go_region_held3 (fun w' => RowKit.Below w3.heap.size w3 w' ∧ (∀ o, w'.cell? ⟨w.heap.size, o, none⟩ = (#[.int .i64 6, .string ao, .string an, .string bo, .string bn, .slice A T.length c] : Array Value)[o]?))
        (first | with_reducible exact hst | with_reducible assumption | exact keepQ (by with_reducible assumption) hzW (by with_reducible assumption))
        (first | (go_at_call 9; refine (H1.out _ (HAr.out _ (by apply And.left; with_reducible assumption))).mono ?_; rintro e w' ⟨rfl, hgb⟩) | (go_at_call 10; refine (H2.out _ (HAr.out _ (by apply And.left; with_reducible assumption))).mono ?_; rintro e w' ⟨rfl, hgb⟩) | (go_at_call 11; refine (H3.out _).mono ?_; rintro e w' ⟨rfl, n', hw'⟩; have hgb := below_of_drew hw'; clear hw') | (go_at_call 12; refine (H4.out _).mono ?_; rintro e w' ⟨rfl, n', hw'⟩; have hgb := below_of_drew hw'; clear hw') | (go_at_call 13; refine (H5.out _).mono ?_; rintro e w' ⟨rfl, n', hw'⟩; have hgb := below_of_drew hw'; clear hw') | (go_at_call 14; refine (H6.out _ (HAr.out _ (by apply And.left; with_reducible assumption))).mono ?_; rintro e w' ⟨rfl, hgb⟩) | (go_at_call 15; refine (H7.out _ (HAr.out _ (by apply And.left; with_reducible assumption))).mono ?_; rintro e w' ⟨rfl, hgb⟩) | (go_at_call 17; refine (H8.out _).mono ?_; rintro e w' ⟨A9, rfl, hra, hgb⟩) | (go_at_call 16; refine (sameRoles _ _ _ _ [⟨ao, an⟩, ⟨bo, bn⟩] _ (by simp) hra (Hrt.out _ (by apply And.left; with_reducible assumption))).mono ?_; rintro e w' ⟨rfl, hgb⟩) | (go_at_call 19; refine (H9.out _ (HAr.out _ (by apply And.left; with_reducible assumption))).mono ?_; rintro e w' ⟨A8, c8, rfl, hrp, hgb⟩) | (go_at_call 18; refine (Tab3.same A8 A c8 c T _ hT' hrp (HAr.out _ (by apply And.left; with_reducible assumption))).mono ?_; rintro e w' ⟨rfl, n', hw'⟩; have hgb := below_of_drew hw'; clear hw') | (go_at_call 7; refine (lives _).mono ?_; rintro e w' ⟨rfl, hgb⟩))
      rename_i hHeld
      go_wp2_with fail
      go_ret
      exact ⟨rfl, HbW.out.trans (hHeld.1.mono HbW.out.size)⟩
end Go.Proofs.YtcbbffpalpieaaaGreat.QryR
