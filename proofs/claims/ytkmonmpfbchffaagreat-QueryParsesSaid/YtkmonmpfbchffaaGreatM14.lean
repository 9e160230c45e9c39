/- A line's tokens read as those of one kind that they go on as, by contract. -/
import Derived.Test.YtkmonmpfbchffaaGreatM13
import Derived.Test.YtkmonmpfbchffaaGreatM03
namespace Go.Proofs.YtkmonmpfbchffaaGreat.QryD
set_option linter.unusedVariables false
set_option linter.unusedSimpArgs false
open Go.RowKit Go.Sort Go.Proofs Go.Proofs.YtkmonmpfbchffaaGreat.Plain Go.Proofs.YtkmonmpfbchffaaGreat.SynP Go.Proofs.YtkmonmpfbchffaaGreat.TabP Go.Proofs.YtkmonmpfbchffaaGreat.Tab1 Go.Proofs.YtkmonmpfbchffaaGreat.Grown Go.Proofs.YtkmonmpfbchffaaGreat.SynA Go.Proofs.YtkmonmpfbchffaaGreat.SynC Go.Proofs.YtkmonmpfbchffaaGreat.SynR Go.Proofs.YtkmonmpfbchffaaGreat.SynS Go.Proofs.YtkmonmpfbchffaaGreat.SynV Go.Proofs.YtkmonmpfbchffaaGreat.QryP Go.Proofs.YtkmonmpfbchffaaGreat.Qry4 Go.Proofs.YtkmonmpfbchffaaGreat.Qry5 Go.Proofs.YtkmonmpfbchffaaGreat.Qry6 Go.Proofs.YtkmonmpfbchffaaGreat.Qry7 Go.Proofs.YtkmonmpfbchffaaGreat.QryA Go.Proofs.YtkmonmpfbchffaaGreat.QryB
set_option linter.unusedVariables false
set_option linter.unusedSimpArgs false
theorem agreeF_cons {L : List Tk} {f : Ft} {F : List Ft} (h : agreeF L (f :: F) = F.length + 1) : ∃ t M, L = t :: M ∧ f.fits t = true ∧ agreeF M F = F.length := by
  cases L with
  | nil => simp [agreeF] at h
  | cons t M =>
    refine ⟨t, M, rfl, ?_⟩
    have h' : (if f.fits t = true then agreeF M F + 1 else 0) = F.length + 1 := h
    by_cases hf : f.fits t = true
    · rw [if_pos hf] at h'; exact ⟨hf, by omega⟩
    · rw [if_neg hf] at h'; omega
theorem fitsK {t : Tk} {n : Int} (h : Ft.fits t (.kind n) = true) : t.kind = n := by simpa [Ft.fits] using h
theorem shape3 {k : Int} (hk : k = 1 ∨ k = 2 ∨ k = 3) : ∃ s, wordsL k = [s] ∧ shapeF k = [.word (leadS k), .kind 1, .kind 3, .kind 2, .word s] ∧ hasBk k = false ∧ hasWk k = true := by
  rcases hk with rfl | rfl | rfl <;> exact ⟨_, rfl, rfl, rfl, rfl⟩
theorem shape4 : shapeF 4 = [.word (leadS 4), .kind 1, .kind 3, .kind 2, .word [98, 101], .word [101, 109, 112, 116, 121]] ∧ hasBk 4 = false ∧ hasWk 4 = false := ⟨rfl, rfl, rfl⟩
theorem shape8 {k : Int} (hk : k = 5 ∨ k = 6) : ∃ s, wordsL k = [s] ∧ shapeF k = [.word (leadS k), .kind 1, .kind 3, .kind 2, .word s, .kind 1, .kind 3, .kind 2] ∧ hasBk k = true ∧ hasWk k = false := by
  rcases hk with rfl | rfl <;> exact ⟨_, rfl, rfl, rfl, rfl⟩
/-- What is read of principals is rising, in order, and no more than twelve. -/
theorem readW_ok : ∀ (L : List Tk) (T : List Str), T.length ≤ 12 → T.Pairwise (· < ·) → (readW L T).1.length ≤ 12 ∧ (readW L T).1.Pairwise (· < ·) ∧ (readW L T).2.1 ≤ L.length ∧ ∀ s ∈ (readW L T).1, s ∈ T ∨ ∃ t ∈ L, t.kind = 1 ∧ s = strOf t.text
  | [], T, h1, h2 => ⟨h1, h2, Nat.zero_le _, fun s hs => .inl hs⟩
  | t :: L, T, h1, h2 => by
    unfold readW
    by_cases hk : t.kind = 1
    · rw [if_pos hk]
      by_cases hs : strOf t.text ∈ T
      · rw [if_pos hs]
        obtain ⟨a, b, c, d⟩ := readW_ok L T h1 h2
        refine ⟨a, b, by simp; omega, fun s hm => ?_⟩
        rcases d s hm with h | ⟨u, hu, e⟩
        · exact .inl h
        · exact .inr ⟨u, List.mem_cons_of_mem _ hu, e⟩
      · rw [if_neg hs]
        by_cases h12 : T.length = 12
        · rw [if_pos h12]; exact ⟨h1, h2, by simp, fun s hm => .inl hm⟩
        · rw [if_neg h12]
          have hl : (tab (T ++ [strOf t.text])).length ≤ 12 := by
            have := tab_len_le (T ++ [strOf t.text])
            simp at this; omega
          obtain ⟨a, b, c, d⟩ := readW_ok L _ hl (tab_sorted _)
          refine ⟨a, b, by simp; omega, fun s hm => ?_⟩
          rcases d s hm with h | ⟨u, hu, e⟩
          · rw [mem_tab] at h
            rcases List.mem_append.1 h with h | h
            · exact .inl h
            · exact .inr ⟨t, List.mem_cons_self .., hk, by simpa using h⟩
          · exact .inr ⟨u, List.mem_cons_of_mem _ hu, e⟩
    · rw [if_neg hk]; exact ⟨h1, h2, by simp, fun s hm => .inl hm⟩
theorem who_fit {L : List Tk} (hs : SmallTk L) : ∀ s ∈ (readW L []).1, s.length ≤ maxLen := fun s hm => by
  obtain ⟨_, _, _, d⟩ := readW_ok L [] (by simp) List.Pairwise.nil
  rcases d s hm with h | ⟨t, ht, _, rfl⟩
  · simp at h
  · have := (hs t ht).2
    have e : (strOf t.text).length = t.text.size := toList_len _
    rw [e]; unfold maxLen; omega
theorem srow_set6 {X : World} {A : Option Addr} {T : List Str} (h : SRow X A T) {b : Nat} (hb : ∀ g o, A = some ⟨g, o, none⟩ → b ≠ g) (v0 v1 v2 v3 v4 v5 : Value) : SRow ((((((X.setCell ⟨b, 0, none⟩ v0).setCell ⟨b, 1, none⟩ v1).setCell ⟨b, 2, none⟩ v2).setCell ⟨b, 3, none⟩ v3).setCell ⟨b, 4, none⟩ v4).setCell ⟨b, 5, none⟩ v5) A T :=
  srow_set (srow_set (srow_set (srow_set (srow_set (srow_set h hb _ _) hb _ _) hb _ _) hb _ _) hb _ _) hb _ _
theorem below_set6 {w X : World} {B b : Nat} (h : RowKit.Below B w X) (hb : B ≤ b) (v0 v1 v2 v3 v4 v5 : Value) : RowKit.Below B w ((((((X.setCell ⟨b, 0, none⟩ v0).setCell ⟨b, 1, none⟩ v1).setCell ⟨b, 2, none⟩ v2).setCell ⟨b, 3, none⟩ v3).setCell ⟨b, 4, none⟩ v4).setCell ⟨b, 5, none⟩ v5) :=
  (((((h.setCell hb _).setCell hb _).setCell hb _).setCell hb _).setCell hb _).setCell hb _
theorem read3_eq {k : Int} (hk : k = 1 ∨ k = 2 ∨ k = 3) {t0 t1 t2 t3 t4 : Tk} {M : List Tk} (h : agreeF (t0 :: t1 :: t2 :: t3 :: t4 :: M) (shapeF k) = 5) : readQ k (t0 :: t1 :: t2 :: t3 :: t4 :: M) = (⟨k, ⟨t1.text, t3.text⟩, zeroR, (readW M []).1⟩, 5 + (readW M []).2.1, if (readW M []).2.2 = true then 5 else if 5 + (readW M []).2.1 < M.length + 5 then 2 else if Qy.right ⟨k, ⟨t1.text, t3.text⟩, zeroR, (readW M []).1⟩ = true then 0 else 3) := by
  obtain ⟨s, hw, hsh, hB, hW⟩ := shape3 hk
  have hm : (shapeF k).length = 5 := by rw [hsh]; rfl
  have hdr : (t0 :: t1 :: t2 :: t3 :: t4 :: M).drop 5 = M := rfl
  unfold readQ
  simp only []
  rw [h, hm, if_pos rfl, hW, hB]
  rfl
set_option maxHeartbeats 4000000 in
set_option maxRecDepth 100000 in
theorem read3 (k : Int) (hk : k = 1 ∨ k = 2 ∨ k = 3) (A : Option Addr) (ca N : Nat) (t0 t1 t2 t3 t4 : Tk) (M : List Tk) (w : World) (hN : M.length + 5 = N) (hL : N ≤ 1000) (hca : N ≤ ca) (hs : SmallTk (t0 :: t1 :: t2 :: t3 :: t4 :: M)) (g1 : goodTk t1) (g2 : goodTk t2) (g3 : goodTk t3) (k1 : t1.kind = 1) (k2 : t2.kind = 3) (k3 : t3.kind = 2) (hA : TkAt w A (t0 :: t1 :: t2 :: t3 :: t4 :: M)) (h : agreeF (t0 :: t1 :: t2 :: t3 :: t4 :: M) (shapeF k) = 5) :
    Calls Tryz.prog 40 #[.int .i64 k, .slice A N ca] w (ReadPost (readQ k (t0 :: t1 :: t2 :: t3 :: t4 :: M)) w) := by
  obtain ⟨s, hw, hsh, hB, hW⟩ := shape3 hk
  have hm : (shapeF k).length = 5 := by rw [hsh]; rfl
  have hq := read3_eq hk h
  rw [hN] at hq
  obtain ⟨rl, rp, rd, rm⟩ := readW_ok M [] (by simp) List.Pairwise.nil
  have hfit := who_fit (small_drop hs 5)
  have hl : (t0 :: t1 :: t2 :: t3 :: t4 :: M).length = N := by simp; omega
  have hwho := fun (w' : World) (hA' : TkAt w' A (t0 :: t1 :: t2 :: t3 :: t4 :: M)) => readWho A ca (t0 :: t1 :: t2 :: t3 :: t4 :: M) 5 w' (by rw [hl]; exact hL) (by rw [hl]; omega) hA'
  have hfit' : ∀ s ∈ (readW M []).1, s.length ≤ maxLen := hfit
  have hdr : (t0 :: t1 :: t2 :: t3 :: t4 :: M).drop 5 = M := rfl
  rw [hl, hdr] at hwho
  generalize hr : readW M [] = r at *
  obtain ⟨T, d, m⟩ := r
  simp only at hq rl rd hfit'
  obtain ⟨n, hn⟩ : ∃ n, 5 + d = n := ⟨_, rfl⟩
  have hwho' : ∀ w', TkAt w' A (t0 :: t1 :: t2 :: t3 :: t4 :: M) → Calls Tryz.prog 103 #[.slice A N ca, .int .i64 5] w' fun e w'' => ∃ A' c', e = .returned (.tuple #[.slice A' T.length c', .int .i64 ((5 + d : Nat) : Int), .bool m]) ∧ w''.ownsRow w'.heap.size 9 1 (.slice A' T.length c') T.length (T.map encStr) ∧ RowKit.Below w'.heap.size w' w'' := hwho
  rw [hn] at hwho' hq
  have HW := Lib.hid hwho'
  have hnN : n ≤ N := by omega
  have hag := fun (V : Option Addr) (cv : Nat) (vs : List Value) (w' : World) (hb : RowKit.Below w.heap.size w w') (hv : VRow w' V vs) (hf : FnsAt w' vs (shapeF k)) => Qry5.agree A ca (t0 :: t1 :: t2 :: t3 :: t4 :: M) V cv vs (shapeF k) w' (by rw [hl]; exact hL) (by omega) (hA.below hb) hv hf
  rw [hl, hm, h] at hag
  have HG := Lib.hid hag
  have hsp := fun (w' : World) => Qry7.shape k ⟨#[]⟩ ⟨#[]⟩ ⟨#[]⟩ ⟨#[]⟩ none 0 0 w'
  have HS := Lib.hid hsp
  have hHB := fun (w' : World) => hasB k w'
  rw [hB] at hHB
  have HHB := Lib.hid hHB
  have hHW := fun (w' : World) => hasWho k w'
  rw [hW] at hHW
  have HHW := Lib.hid hHW
  have HA := Lib.hid hA
  obtain ⟨g, o, rfl, hg, hc⟩ := hA (by simp)
  have HRR := Lib.hid (fun (w' : World) (hb : RowKit.Below w.heap.size w w') => readGood (some ⟨g, o + 3, none⟩) (ca - 1) (N - 1) t1 t2 t3 (t4 :: M) w' (by simp; omega) (by omega) (by omega) (small_drop hs 1) g1 g2 g3 k1 k2 k3 (tk_tail (HA.out.below hb)))
  have HQ := Lib.hid hq
  have HFit : Hid (Qy.fit ⟨k, ⟨t1.text, t3.text⟩, zeroR, T⟩) := Lib.hid ⟨⟨Nat.le_trans ((hs t1 (by simp)).2) (by unfold maxLen; omega), Nat.le_trans ((hs t3 (by simp)).2) (by unfold maxLen; omega)⟩, ⟨Nat.zero_le _, Nat.zero_le _⟩, Nat.le_trans rl (by unfold maxLen; omega), hfit'⟩
  have hMl := Lib.hid hm
  clear hs hc hq hfit hfit' hwho hwho' hag hsp hHB hHW hB hW hw hsh hr h hdr hl rp rm g1 g2 g3 k1 k2 k3 hk hA hm hn
  go_enter Tryz.func40, Tryz.ntmps40
  go_wp2_with fail
  refine (HS.out _).mono ?_
  rintro e w1 ⟨v1, vs1, rfl, hown, hfn, hb1⟩
  rw [hMl.out] at hown
  obtain ⟨V, cv, rfl, _, hvr⟩ := VRow.of_own hown
  have hbw : RowKit.Below w.heap.size w w1 := (((Below.refl _ _).alloc (Nat.le_refl _) _).alloc (by simp) _).trans (hb1.mono (by simp; omega))
  have HGG := Lib.hid (HG.out V cv vs1 w1 hbw hvr hfn)
  have HB1 := Lib.hid hb1
  clear hown hfn hvr hbw hb1
  go_wp2_with fail
  refine HGG.out.mono ?_
  rintro e w2 ⟨rfl, hg2⟩
  have hbx := boxes (k := k) HB1.out hg2
  clear hg2 HGG HG HS HB1
  have n1 : (1 : Int) ≤ N := by omega
  have n2 : (1 : Int) ≤ ca := by omega
  have n3 : ¬ ca = 1 := by omega
  have n4 : ¬ ca ≤ 1 := by omega
  have n5 : ¬ ca - 1 = 0 := by omega
  have HRR2 := Lib.hid (HRR.out w2 hbx.below)
  have z2 := hbx.size
  clear HRR
  go_wp2_with fail
  refine HRR2.out.mono ?_
  rintro e w3 ⟨B3, cb3, rfl, _, _, hb3, _⟩
  have bR3 := blk_below hbx.res hb3 (by omega)
  have bQ3 := blk_below hbx.box hb3 (by omega)
  have z3 := hb3.size
  have HB3 := Lib.hid (hbx.below.trans (hb3.mono (by omega)))
  have hcQ := fun o => Lib.cell_of_heap bQ3 o
  have hfQ := blk_frozen bQ3
  have z3' : w.heap.size + 1 < w3.heap.size := by omega
  clear hb3 hbx HRR2 z2 z3
  have hA4 := Lib.hid (tk_set (tk_set (HA.out.below HB3.out) (b := w.heap.size + 1) (by intro g' o' e; injection e with e; injection e with e1 e2; omega) 1 (.string t1.text)) (b := w.heap.size + 1) (by intro g' o' e; injection e with e; injection e with e1 e2; omega) 2 (.string t3.text))
  have hw4 : RowKit.Below (w.heap.size + 1) w3 ((w3.setCell ⟨w.heap.size + 1, 1, none⟩ (.string t1.text)).setCell ⟨w.heap.size + 1, 2, none⟩ (.string t3.text)) := ((Below.refl _ _).setCell (by simp) _).setCell (by simp) _
  have bQ4 := Lib.hid (blk_set (blk_set bQ3 1 (.string t1.text)) 2 (.string t3.text))
  have bR4 := Lib.hid (blk_below bR3 hw4 (by omega))
  have HB4 := Lib.hid (HB3.out.trans (hw4.mono (by omega)))
  clear bR3 bQ3 hw4 HB3
  go_wp2_with fail
  refine (HHB.out _).mono ?_
  rintro e w4 ⟨rfl, m4, rfl⟩
  go_wp2_with fail
  refine (HHW.out _).mono ?_
  rintro e w5 ⟨rfl, m5, rfl⟩
  go_wp2_with fail
  refine (HW.out _ ?tk).mono ?_
  case tk => exact hA4.out
  rintro e w6 ⟨Aw, cw, rfl, hown, hb6⟩
  have z6 := hb6.size
  have z6' : w3.heap.size ≤ w6.heap.size := by simpa [set_size] using z6
  have hb7 := (below_drewN (Below.refl w3.heap.size ((w3.setCell ⟨w.heap.size + 1, 1, none⟩ (.string t1.text)).setCell ⟨w.heap.size + 1, 2, none⟩ (.string t3.text))) (m4 + m5)).trans (hb6.mono (by simp [set_size]))
  have bQ6 := blk_below bQ4.out hb7 (by omega)
  have bR6 := blk_below bR4.out hb7 (by omega)
  have HB6 := Lib.hid (HB4.out.trans (hb7.mono (by omega)))
  have hfr : ∀ g o, Aw = some ⟨g, o, none⟩ → w.heap.size + 1 < g := fun g o e => by
    subst e
    have := (hown.lt g rfl).1
    simp [set_size] at this
    omega
  have HFr := Lib.hid hfr
  obtain ⟨A', c', e', _, hrow⟩ := SRow.of_own hown
  injection e' with e1 e2 e3
  subst e1
  have HRow := Lib.hid hrow
  clear hown hb6 hb7 z6 hfr hrow e2 e3 hcQ hfQ bQ4 bR4 HB4 hA4 HHB HHW HW
  have hcQ := fun o => Lib.cell_of_heap bQ6 o
  have hfQ := blk_frozen bQ6
  have hcR := fun o => Lib.cell_of_heap bR6 o
  have hfR := blk_frozen bR6
  have z8 : w.heap.size + 1 < w6.heap.size := by omega
  have gf : ∀ (X : World) (i o : Nat) (v : Value), (X.setCell ⟨w.heap.size + 1, i, none⟩ v).cell? ⟨w.heap.size, o, none⟩ = X.cell? ⟨w.heap.size, o, none⟩ := fun X i o v => set_far X _ _ i o v (by omega)
  cases m
  · have hq := HQ.out
    rw [if_neg (by decide)] at hq
    by_cases hlt : n < N
    · rw [if_pos hlt] at hq
      have HQ2 := Lib.hid hq
      clear hq HQ bQ6 bR6
      go_wp2_with fail
      refine bodyPost_ret (v := .tuple #[.agg #[.int .i64 k, .string t1.text, .string t3.text, .string ⟨#[]⟩, .string ⟨#[]⟩, .slice Aw T.length cw], .int .i64 n, .int .i64 2]) (by simp [results, Tryz.results40, go_sem, set6, gf, hcR]) rfl ⟨Aw, cw, by rw [HQ2.out]; rfl, ?_, (fun g o e => by have := HFr.out g o e; omega), ?_⟩
      · rw [HQ2.out]
        exact srow_set6 (srow_set HRow.out (fun g o e => by have := HFr.out g o e; omega) _ _) (fun g o e => by have := HFr.out g o e; omega) _ _ _ _ _ _
      · exact below_set6 (HB6.out.setCell (by simp) _) (Nat.le_refl _) _ _ _ _ _ _
    · rw [if_neg hlt] at hq
      have HQ2 := Lib.hid hq
      clear hq HQ
      have hR := fun (w' : World) (hr : SRow w' Aw T) => Qry2.right k t1.text t3.text ⟨#[]⟩ ⟨#[]⟩ Aw cw T w' HFit.out hr
      have hz : (⟨k, ⟨t1.text, t3.text⟩, ⟨⟨#[]⟩, ⟨#[]⟩⟩, T⟩ : Qy) = ⟨k, ⟨t1.text, t3.text⟩, zeroR, T⟩ := rfl
      unfold Qry2.RightPost at hR
      rw [hz] at hR
      generalize Qy.right ⟨k, ⟨t1.text, t3.text⟩, zeroR, T⟩ = rt at *
      have HR := Lib.hid hR
      have hrow7 := Lib.hid (srow_set HRow.out (b := w.heap.size + 1) (fun g o e => by have := HFr.out g o e; omega) 5 (.slice Aw T.length cw))
      have bQ7 := Lib.hid (blk_set bQ6 5 (.slice Aw T.length cw))
      have bR7 : Hid ((w6.setCell ⟨w.heap.size + 1, 5, none⟩ (.slice Aw T.length cw)).heap[w.heap.size]? = _) := Lib.hid (blk_below bR6 (((Below.refl (w.heap.size + 1) w6).setCell (by simp) _)) (by omega))
      clear hR hz bQ6 bR6
      go_wp2_with fail
      refine (HR.out _ hrow7.out).mono ?_
      rintro e w7 ⟨rfl, hb7⟩
      have hb8 := hb7.mono (B' := w6.heap.size) (by rw [set_size]; omega)
      have bQ8 := blk_below bQ7.out hb8 (by omega)
      have bR8 := blk_below bR7.out hb8 (by omega)
      have HB8 := Lib.hid ((HB6.out.setCell (p := ⟨w.heap.size + 1, 5, none⟩) (by simp) (.slice Aw T.length cw)).trans (hb8.mono (by omega)))
      have HRow8 := Lib.hid (hrow7.out.keep hb7)
      clear hcQ hfQ hcR hfR hb7 hb8 bQ7 bR7 hrow7
      have hcQ := fun o => Lib.cell_of_heap bQ8 o
      have hfQ := blk_frozen bQ8
      have hcR := fun o => Lib.cell_of_heap bR8 o
      have hfR := blk_frozen bR8
      clear bQ8 bR8
      cases rt
      · have HQ3 := Lib.hid HQ2.out
        go_wp2_with fail
        refine bodyPost_ret (v := .tuple #[.agg #[.int .i64 k, .string t1.text, .string t3.text, .string ⟨#[]⟩, .string ⟨#[]⟩, .slice Aw T.length cw], .int .i64 n, .int .i64 3]) (by simp [results, Tryz.results40, go_sem, set6, gf, hcR]) rfl ⟨Aw, cw, by rw [HQ2.out]; rfl, ?_, (fun g o e => by have := HFr.out g o e; omega), ?_⟩
        · rw [HQ2.out]
          exact srow_set6 HRow8.out (fun g o e => by have := HFr.out g o e; omega) _ _ _ _ _ _
        · exact below_set6 HB8.out (Nat.le_refl _) _ _ _ _ _ _
      · go_wp2_with fail
        refine bodyPost_ret (v := .tuple #[.agg #[.int .i64 k, .string t1.text, .string t3.text, .string ⟨#[]⟩, .string ⟨#[]⟩, .slice Aw T.length cw], .int .i64 n, .int .i64 0]) (by simp [results, Tryz.results40, go_sem, set6, gf, hcR]) rfl ⟨Aw, cw, by rw [HQ2.out]; rfl, ?_, (fun g o e => by have := HFr.out g o e; omega), ?_⟩
        · rw [HQ2.out]
          exact srow_set6 HRow8.out (fun g o e => by have := HFr.out g o e; omega) _ _ _ _ _ _
        · exact below_set6 HB8.out (Nat.le_refl _) _ _ _ _ _ _
  · have hq := HQ.out
    rw [if_pos rfl] at hq
    have HQ2 := Lib.hid hq
    clear hq HQ bQ6 bR6
    go_wp2_with fail
    refine bodyPost_ret (v := .tuple #[.agg #[.int .i64 k, .string t1.text, .string t3.text, .string ⟨#[]⟩, .string ⟨#[]⟩, .slice Aw T.length cw], .int .i64 n, .int .i64 5]) (by simp [results, Tryz.results40, go_sem, set6, gf, hcR]) rfl ⟨Aw, cw, by rw [HQ2.out]; rfl, ?_, (fun g o e => by have := HFr.out g o e; omega), ?_⟩
    · rw [HQ2.out]
      exact srow_set6 (srow_set HRow.out (fun g o e => by have := HFr.out g o e; omega) _ _) (fun g o e => by have := HFr.out g o e; omega) _ _ _ _ _ _
    · exact below_set6 (HB6.out.setCell (by simp) _) (Nat.le_refl _) _ _ _ _ _ _
theorem read4_eq {t0 t1 t2 t3 t4 t5 : Tk} {M : List Tk} (h : agreeF (t0 :: t1 :: t2 :: t3 :: t4 :: t5 :: M) (shapeF 4) = 6) : readQ 4 (t0 :: t1 :: t2 :: t3 :: t4 :: t5 :: M) = ((⟨4, ⟨t1.text, t3.text⟩, zeroR, []⟩ : Qy), 6, if 6 < M.length + 6 then 2 else if Qy.right (⟨4, ⟨t1.text, t3.text⟩, zeroR, []⟩ : Qy) = true then 0 else 3) := by
  obtain ⟨hsh, hB, hW⟩ := shape4
  have hm : (shapeF 4).length = 6 := by rw [hsh]; rfl
  unfold readQ
  simp only []
  rw [h, hm, if_pos rfl, hW, hB]
  rfl
set_option maxHeartbeats 4000000 in
set_option maxRecDepth 100000 in
theorem read4 (A : Option Addr) (ca N : Nat) (t0 t1 t2 t3 t4 t5 : Tk) (M : List Tk) (w : World) (hN : M.length + 6 = N) (hL : N ≤ 1000) (hca : N ≤ ca) (hs : SmallTk (t0 :: t1 :: t2 :: t3 :: t4 :: t5 :: M)) (g1 : goodTk t1) (g2 : goodTk t2) (g3 : goodTk t3) (k1 : t1.kind = 1) (k2 : t2.kind = 3) (k3 : t3.kind = 2) (hA : TkAt w A (t0 :: t1 :: t2 :: t3 :: t4 :: t5 :: M)) (h : agreeF (t0 :: t1 :: t2 :: t3 :: t4 :: t5 :: M) (shapeF 4) = 6) :
    Calls Tryz.prog 40 #[.int .i64 4, .slice A N ca] w (ReadPost (readQ 4 (t0 :: t1 :: t2 :: t3 :: t4 :: t5 :: M)) w) := by
  obtain ⟨hsh, hB, hW⟩ := shape4
  have hm : (shapeF 4).length = 6 := by rw [hsh]; rfl
  have hq := read4_eq h
  rw [hN] at hq
  have hl : (t0 :: t1 :: t2 :: t3 :: t4 :: t5 :: M).length = N := by simp; omega
  have hag := fun (V : Option Addr) (cv : Nat) (vs : List Value) (w' : World) (hb : RowKit.Below w.heap.size w w') (hv : VRow w' V vs) (hf : FnsAt w' vs (shapeF 4)) => Qry5.agree A ca (t0 :: t1 :: t2 :: t3 :: t4 :: t5 :: M) V cv vs (shapeF 4) w' (by rw [hl]; exact hL) (by omega) (hA.below hb) hv hf
  rw [hl, hm, h] at hag
  have HG := Lib.hid hag
  have hsp := fun (w' : World) => Qry7.shape 4 ⟨#[]⟩ ⟨#[]⟩ ⟨#[]⟩ ⟨#[]⟩ none 0 0 w'
  have HS := Lib.hid hsp
  have hHB := fun (w' : World) => hasB 4 w'
  rw [hB] at hHB
  have HHB := Lib.hid hHB
  have hHW := fun (w' : World) => hasWho 4 w'
  rw [hW] at hHW
  have HHW := Lib.hid hHW
  have HA := Lib.hid hA
  obtain ⟨g, o, rfl, hg, hc⟩ := hA (by simp)
  have HRR := Lib.hid (fun (w' : World) (hb : RowKit.Below w.heap.size w w') => readGood (some ⟨g, o + 3, none⟩) (ca - 1) (N - 1) t1 t2 t3 (t4 :: t5 :: M) w' (by simp; omega) (by omega) (by omega) (small_drop hs 1) g1 g2 g3 k1 k2 k3 (tk_tail (HA.out.below hb)))
  have HQ := Lib.hid hq
  have HFit : Hid (Qy.fit (⟨4, ⟨t1.text, t3.text⟩, zeroR, []⟩ : Qy)) := Lib.hid ⟨⟨Nat.le_trans ((hs t1 (by simp)).2) (by unfold maxLen; omega), Nat.le_trans ((hs t3 (by simp)).2) (by unfold maxLen; omega)⟩, ⟨Nat.zero_le _, Nat.zero_le _⟩, Nat.zero_le _, fun s h => by simp at h⟩
  have hMl := Lib.hid hm
  clear hs hc hq hag hsp hHB hHW hB hW hsh h hl g1 g2 g3 k1 k2 k3 hA hm
  go_enter Tryz.func40, Tryz.ntmps40
  go_wp2_with fail
  refine (HS.out _).mono ?_
  rintro e w1 ⟨v1, vs1, rfl, hown, hfn, hb1⟩
  rw [hMl.out] at hown
  obtain ⟨V, cv, rfl, _, hvr⟩ := VRow.of_own hown
  have hbw : RowKit.Below w.heap.size w w1 := (((Below.refl _ _).alloc (Nat.le_refl _) _).alloc (by simp) _).trans (hb1.mono (by simp; omega))
  have HGG := Lib.hid (HG.out V cv vs1 w1 hbw hvr hfn)
  have HB1 := Lib.hid hb1
  clear hown hfn hvr hbw hb1
  go_wp2_with fail
  refine HGG.out.mono ?_
  rintro e w2 ⟨rfl, hg2⟩
  have hbx := boxes (k := 4) HB1.out hg2
  clear hg2 HGG HG HS HB1
  have n1 : (1 : Int) ≤ N := by omega
  have n2 : (1 : Int) ≤ ca := by omega
  have n3 : ¬ ca = 1 := by omega
  have n4 : ¬ ca ≤ 1 := by omega
  have n5 : ¬ ca - 1 = 0 := by omega
  have HRR2 := Lib.hid (HRR.out w2 hbx.below)
  have z2 := hbx.size
  clear HRR
  go_wp2_with fail
  refine HRR2.out.mono ?_
  rintro e w3 ⟨B3, cb3, rfl, _, _, hb3, _⟩
  have bR3 := blk_below hbx.res hb3 (by omega)
  have bQ3 := blk_below hbx.box hb3 (by omega)
  have z3 := hb3.size
  have HB3 := Lib.hid (hbx.below.trans (hb3.mono (by omega)))
  have hcQ := fun o => Lib.cell_of_heap bQ3 o
  have hfQ := blk_frozen bQ3
  have z3' : w.heap.size + 1 < w3.heap.size := by omega
  clear hb3 hbx HRR2 z2 z3
  have hA4 := Lib.hid (tk_set (tk_set (HA.out.below HB3.out) (b := w.heap.size + 1) (by intro g' o' e; injection e with e; injection e with e1 e2; omega) 1 (.string t1.text)) (b := w.heap.size + 1) (by intro g' o' e; injection e with e; injection e with e1 e2; omega) 2 (.string t3.text))
  have hw4 : RowKit.Below (w.heap.size + 1) w3 ((w3.setCell ⟨w.heap.size + 1, 1, none⟩ (.string t1.text)).setCell ⟨w.heap.size + 1, 2, none⟩ (.string t3.text)) := ((Below.refl _ _).setCell (by simp) _).setCell (by simp) _
  have bQ4 := Lib.hid (blk_set (blk_set bQ3 1 (.string t1.text)) 2 (.string t3.text))
  have bR4 := Lib.hid (blk_below bR3 hw4 (by omega))
  have HB4 := Lib.hid (HB3.out.trans (hw4.mono (by omega)))
  clear bR3 bQ3 hw4 HB3
  go_wp2_with fail
  refine (HHB.out _).mono ?_
  rintro e w4 ⟨rfl, m4, rfl⟩
  go_wp2_with fail
  refine (HHW.out _).mono ?_
  rintro e w7 ⟨rfl, m5, rfl⟩
  generalize hY : (((w3.setCell ⟨w.heap.size + 1, 1, none⟩ (.string t1.text)).setCell ⟨w.heap.size + 1, 2, none⟩ (.string t3.text)).drewN m4).drewN m5 = Y at ⊢
  have hYh : ((w3.setCell ⟨w.heap.size + 1, 1, none⟩ (.string t1.text)).setCell ⟨w.heap.size + 1, 2, none⟩ (.string t3.text)).heap = Y.heap := by rw [← hY]; rfl
  have bQ8 := bQ4.out
  have bR8 := bR4.out
  rw [hYh] at bQ8 bR8
  have HB8 : Hid (RowKit.Below w.heap.size w Y) := Lib.hid (by rw [← hY]; exact below_drewN (below_drewN HB4.out m4) m5)
  have z8 : w.heap.size + 1 < Y.heap.size := by rw [← hY]; show _ < ((w3.setCell _ _).setCell _ _).heap.size; rw [set_size, set_size]; omega
  clear hY hYh hcQ hfQ bQ4 bR4 HB4 z3' HHW HHB HA hA4
  have hcQ := fun o => Lib.cell_of_heap bQ8 o
  have hfQ := blk_frozen bQ8
  have hcR := fun o => Lib.cell_of_heap bR8 o
  have hfR := blk_frozen bR8
  have gf : ∀ (X : World) (i o : Nat) (v : Value), (X.setCell ⟨w.heap.size + 1, i, none⟩ v).cell? ⟨w.heap.size, o, none⟩ = X.cell? ⟨w.heap.size, o, none⟩ := fun X i o v => set_far X _ _ i o v (by omega)
  have hq := HQ.out
  have d0 : (6 : Int) ≤ N := by omega
  by_cases hlt : 6 < N
  · rw [if_pos hlt] at hq
    have HQ2 := Lib.hid hq
    have d1 : decide ((6 : Int) < N) = true := by simp; omega
    clear hq HQ bQ8 bR8
    go_wp2_with fail
    refine bodyPost_ret (v := .tuple #[.agg #[.int .i64 4, .string t1.text, .string t3.text, .string ⟨#[]⟩, .string ⟨#[]⟩, .slice none 0 0], .int .i64 6, .int .i64 2]) (by simp [results, Tryz.results40, go_sem, set6, gf, hcR]) rfl ⟨none, 0, by rw [HQ2.out]; rfl, (fun h => by rw [HQ2.out] at h; simp at h), (fun g o e => by cases e), ?_⟩
    exact below_set6 HB8.out (Nat.le_refl _) _ _ _ _ _ _
  · rw [if_neg hlt] at hq
    have HQ2 := Lib.hid hq
    have d1 : decide ((6 : Int) < N) = false := by simp; omega
    clear hq HQ
    have hR := fun (w' : World) => Qry2.right 4 t1.text t3.text ⟨#[]⟩ ⟨#[]⟩ none 0 [] w' HFit.out (fun h => by simp at h)
    have hz : (⟨4, ⟨t1.text, t3.text⟩, ⟨⟨#[]⟩, ⟨#[]⟩⟩, []⟩ : Qy) = (⟨4, ⟨t1.text, t3.text⟩, zeroR, []⟩ : Qy) := rfl
    unfold Qry2.RightPost at hR
    rw [hz] at hR
    generalize Qy.right (⟨4, ⟨t1.text, t3.text⟩, zeroR, []⟩ : Qy) = rt at *
    have HR := Lib.hid hR
    clear hR hz
    go_wp2_with fail
    refine (HR.out _).mono ?_
    rintro e w8 ⟨rfl, hb9⟩
    have bQ9 := blk_below bQ8 hb9 (by omega)
    have bR9 := blk_below bR8 hb9 (by omega)
    have HB9 := Lib.hid (HB8.out.trans (hb9.mono (by omega)))
    clear hcQ hfQ hcR hfR hb9 bQ8 bR8
    have hcQ := fun o => Lib.cell_of_heap bQ9 o
    have hfQ := blk_frozen bQ9
    have hcR := fun o => Lib.cell_of_heap bR9 o
    have hfR := blk_frozen bR9
    clear bQ9 bR9
    cases rt
    · go_wp2_with fail
      refine bodyPost_ret (v := .tuple #[.agg #[.int .i64 4, .string t1.text, .string t3.text, .string ⟨#[]⟩, .string ⟨#[]⟩, .slice none 0 0], .int .i64 6, .int .i64 3]) (by simp [results, Tryz.results40, go_sem, set6, gf, hcR]) rfl ⟨none, 0, by rw [HQ2.out]; rfl, (fun h => by rw [HQ2.out] at h; simp at h), (fun g o e => by cases e), ?_⟩
      exact below_set6 HB9.out (Nat.le_refl _) _ _ _ _ _ _
    · go_wp2_with fail
      refine bodyPost_ret (v := .tuple #[.agg #[.int .i64 4, .string t1.text, .string t3.text, .string ⟨#[]⟩, .string ⟨#[]⟩, .slice none 0 0], .int .i64 6, .int .i64 0]) (by simp [results, Tryz.results40, go_sem, set6, gf, hcR]) rfl ⟨none, 0, by rw [HQ2.out]; rfl, (fun h => by rw [HQ2.out] at h; simp at h), (fun g o e => by cases e), ?_⟩
      exact below_set6 HB9.out (Nat.le_refl _) _ _ _ _ _ _
theorem read8_eq {k : Int} (hk : k = 5 ∨ k = 6) {t0 t1 t2 t3 t4 t5 t6 t7 : Tk} {M : List Tk} (h : agreeF (t0 :: t1 :: t2 :: t3 :: t4 :: t5 :: t6 :: t7 :: M) (shapeF k) = 8) : readQ k (t0 :: t1 :: t2 :: t3 :: t4 :: t5 :: t6 :: t7 :: M) = ((⟨k, ⟨t1.text, t3.text⟩, ⟨t5.text, t7.text⟩, []⟩ : Qy), 8, if 8 < M.length + 8 then 2 else if Qy.right (⟨k, ⟨t1.text, t3.text⟩, ⟨t5.text, t7.text⟩, []⟩ : Qy) = true then 0 else 3) := by
  obtain ⟨s, hw, hsh, hB, hW⟩ := shape8 hk
  have hm : (shapeF k).length = 8 := by rw [hsh]; rfl
  unfold readQ
  simp only []
  rw [h, hm, if_pos rfl, hW, hB]
  rfl
set_option maxHeartbeats 4000000 in
set_option maxRecDepth 100000 in
theorem read8 (k : Int) (hk : k = 5 ∨ k = 6) (A : Option Addr) (ca N : Nat) (t0 t1 t2 t3 t4 t5 t6 t7 : Tk) (M : List Tk) (w : World) (hN : M.length + 8 = N) (hL : N ≤ 1000) (hca : N ≤ ca) (hs : SmallTk (t0 :: t1 :: t2 :: t3 :: t4 :: t5 :: t6 :: t7 :: M)) (g1 : goodTk t1) (g2 : goodTk t2) (g3 : goodTk t3) (g5 : goodTk t5) (g6 : goodTk t6) (g7 : goodTk t7) (k1 : t1.kind = 1) (k2 : t2.kind = 3) (k3 : t3.kind = 2) (k5 : t5.kind = 1) (k6 : t6.kind = 3) (k7 : t7.kind = 2) (hA : TkAt w A (t0 :: t1 :: t2 :: t3 :: t4 :: t5 :: t6 :: t7 :: M)) (h : agreeF (t0 :: t1 :: t2 :: t3 :: t4 :: t5 :: t6 :: t7 :: M) (shapeF k) = 8) :
    Calls Tryz.prog 40 #[.int .i64 k, .slice A N ca] w (ReadPost (readQ k (t0 :: t1 :: t2 :: t3 :: t4 :: t5 :: t6 :: t7 :: M)) w) := by
  obtain ⟨s, hw, hsh, hB, hW⟩ := shape8 hk
  have hm : (shapeF k).length = 8 := by rw [hsh]; rfl
  have hq := read8_eq hk h
  rw [hN] at hq
  have hl : (t0 :: t1 :: t2 :: t3 :: t4 :: t5 :: t6 :: t7 :: M).length = N := by simp; omega
  have hag := fun (V : Option Addr) (cv : Nat) (vs : List Value) (w' : World) (hb : RowKit.Below w.heap.size w w') (hv : VRow w' V vs) (hf : FnsAt w' vs (shapeF k)) => Qry5.agree A ca (t0 :: t1 :: t2 :: t3 :: t4 :: t5 :: t6 :: t7 :: M) V cv vs (shapeF k) w' (by rw [hl]; exact hL) (by omega) (hA.below hb) hv hf
  rw [hl, hm, h] at hag
  have HG := Lib.hid hag
  have hsp := fun (w' : World) => Qry7.shape k ⟨#[]⟩ ⟨#[]⟩ ⟨#[]⟩ ⟨#[]⟩ none 0 0 w'
  have HS := Lib.hid hsp
  have hHB := fun (w' : World) => hasB k w'
  rw [hB] at hHB
  have HHB := Lib.hid hHB
  have hHW := fun (w' : World) => hasWho k w'
  rw [hW] at hHW
  have HHW := Lib.hid hHW
  have HA := Lib.hid hA
  obtain ⟨g, o, rfl, hg, hc⟩ := hA (by simp)
  have HRR := Lib.hid (fun (w' : World) (hb : RowKit.Below w.heap.size w w') => readGood (some ⟨g, o + 3, none⟩) (ca - 1) (N - 1) t1 t2 t3 (t4 :: t5 :: t6 :: t7 :: M) w' (by simp; omega) (by omega) (by omega) (small_drop hs 1) g1 g2 g3 k1 k2 k3 (tk_tail (HA.out.below hb)))
  have HR5 := Lib.hid (fun (w' : World) (hA' : TkAt w' (some ⟨g, o, none⟩) (t0 :: t1 :: t2 :: t3 :: t4 :: t5 :: t6 :: t7 :: M)) => readGood (some ⟨g, o + 15, none⟩) (ca - 5) (N - 5) t5 t6 t7 M w' (by omega) (by omega) (by omega) (small_drop hs 5) g5 g6 g7 k5 k6 k7 (tk_tail (tk_tail (tk_tail (tk_tail (tk_tail hA'))))))
  have HQ := Lib.hid hq
  have HFit : Hid (Qy.fit (⟨k, ⟨t1.text, t3.text⟩, ⟨t5.text, t7.text⟩, []⟩ : Qy)) := Lib.hid ⟨⟨Nat.le_trans ((hs t1 (by simp)).2) (by unfold maxLen; omega), Nat.le_trans ((hs t3 (by simp)).2) (by unfold maxLen; omega)⟩, ⟨Nat.le_trans ((hs t5 (by simp)).2) (by unfold maxLen; omega), Nat.le_trans ((hs t7 (by simp)).2) (by unfold maxLen; omega)⟩, Nat.zero_le _, fun s h => by simp at h⟩
  have hMl := Lib.hid hm
  clear hs hc hq hag hsp hHB hHW hB hW hw hsh h hl g1 g2 g3 k1 k2 k3 g5 g6 g7 k5 k6 k7 hk hA hm
  go_enter Tryz.func40, Tryz.ntmps40
  go_wp2_with fail
  refine (HS.out _).mono ?_
  rintro e w1 ⟨v1, vs1, rfl, hown, hfn, hb1⟩
  rw [hMl.out] at hown
  obtain ⟨V, cv, rfl, _, hvr⟩ := VRow.of_own hown
  have hbw : RowKit.Below w.heap.size w w1 := (((Below.refl _ _).alloc (Nat.le_refl _) _).alloc (by simp) _).trans (hb1.mono (by simp; omega))
  have HGG := Lib.hid (HG.out V cv vs1 w1 hbw hvr hfn)
  have HB1 := Lib.hid hb1
  clear hown hfn hvr hbw hb1
  go_wp2_with fail
  refine HGG.out.mono ?_
  rintro e w2 ⟨rfl, hg2⟩
  have hbx := boxes (k := k) HB1.out hg2
  clear hg2 HGG HG HS HB1
  have n1 : (1 : Int) ≤ N := by omega
  have n2 : (1 : Int) ≤ ca := by omega
  have n3 : ¬ ca = 1 := by omega
  have n4 : ¬ ca ≤ 1 := by omega
  have n5 : ¬ ca - 1 = 0 := by omega
  have p1 : (5 : Int) ≤ N := by omega
  have p2 : (5 : Int) ≤ ca := by omega
  have p3 : ¬ ca = 5 := by omega
  have p4 : ¬ ca ≤ 5 := by omega
  have p5 : ¬ ca - 5 = 0 := by omega
  have HRR2 := Lib.hid (HRR.out w2 hbx.below)
  have z2 := hbx.size
  clear HRR
  go_wp2_with fail
  refine HRR2.out.mono ?_
  rintro e w3 ⟨B3, cb3, rfl, _, _, hb3, _⟩
  have bR3 := blk_below hbx.res hb3 (by omega)
  have bQ3 := blk_below hbx.box hb3 (by omega)
  have z3 := hb3.size
  have HB3 := Lib.hid (hbx.below.trans (hb3.mono (by omega)))
  have hcQ := fun o => Lib.cell_of_heap bQ3 o
  have hfQ := blk_frozen bQ3
  have z3' : w.heap.size + 1 < w3.heap.size := by omega
  clear hb3 hbx HRR2 z2 z3
  have hA4 := Lib.hid (tk_set (tk_set (HA.out.below HB3.out) (b := w.heap.size + 1) (by intro g' o' e; injection e with e; injection e with e1 e2; omega) 1 (.string t1.text)) (b := w.heap.size + 1) (by intro g' o' e; injection e with e; injection e with e1 e2; omega) 2 (.string t3.text))
  have hw4 : RowKit.Below (w.heap.size + 1) w3 ((w3.setCell ⟨w.heap.size + 1, 1, none⟩ (.string t1.text)).setCell ⟨w.heap.size + 1, 2, none⟩ (.string t3.text)) := ((Below.refl _ _).setCell (by simp) _).setCell (by simp) _
  have bQ4 := Lib.hid (blk_set (blk_set bQ3 1 (.string t1.text)) 2 (.string t3.text))
  have bR4 := Lib.hid (blk_below bR3 hw4 (by omega))
  have HB4 := Lib.hid (HB3.out.trans (hw4.mono (by omega)))
  clear bR3 bQ3 hw4 HB3
  go_wp2_with fail
  refine (HHB.out _).mono ?_
  rintro e w4 ⟨rfl, m4, rfl⟩
  go_wp2_with fail
  refine (HR5.out _ ?tk).mono ?_
  case tk => exact hA4.out
  rintro e w6 ⟨B5, cb5, rfl, _, _, hb6, _⟩
  have hb7 := (below_drewN (Below.refl w3.heap.size ((w3.setCell ⟨w.heap.size + 1, 1, none⟩ (.string t1.text)).setCell ⟨w.heap.size + 1, 2, none⟩ (.string t3.text))) m4).trans (hb6.mono (by simp [set_size]))
  have bQ6 := blk_below bQ4.out hb7 (by omega)
  have bR6 := blk_below bR4.out hb7 (by omega)
  have z6 : w3.heap.size ≤ w6.heap.size := by have := hb7.size; simpa [set_size] using this
  have HB6 := Lib.hid (HB4.out.trans (hb7.mono (by omega)))
  have hcQ := fun o => Lib.cell_of_heap bQ6 o
  have hfQ := blk_frozen bQ6
  have hw7 : RowKit.Below (w.heap.size + 1) w6 ((w6.setCell ⟨w.heap.size + 1, 3, none⟩ (.string t5.text)).setCell ⟨w.heap.size + 1, 4, none⟩ (.string t7.text)) := ((Below.refl _ _).setCell (by simp) _).setCell (by simp) _
  have bQ7 := Lib.hid (blk_set (blk_set bQ6 3 (.string t5.text)) 4 (.string t7.text))
  have bR7 := Lib.hid (blk_below bR6 hw7 (by omega))
  have HB7 := Lib.hid (HB6.out.trans (hw7.mono (by omega)))
  clear hb6 hb7 hw7 bQ6 bR6 bQ4 bR4 HB4 HB6 hA4 HR5 HHB
  go_wp2_with fail
  refine (HHW.out _).mono ?_
  rintro e w7 ⟨rfl, m5, rfl⟩
  generalize hY : ((w6.setCell ⟨w.heap.size + 1, 3, none⟩ (.string t5.text)).setCell ⟨w.heap.size + 1, 4, none⟩ (.string t7.text)).drewN m5 = Y at ⊢
  have hYh : ((w6.setCell ⟨w.heap.size + 1, 3, none⟩ (.string t5.text)).setCell ⟨w.heap.size + 1, 4, none⟩ (.string t7.text)).heap = Y.heap := by rw [← hY]; rfl
  have bQ8 := bQ7.out
  have bR8 := bR7.out
  rw [hYh] at bQ8 bR8
  have HB8 : Hid (RowKit.Below w.heap.size w Y) := Lib.hid (by rw [← hY]; exact below_drewN HB7.out m5)
  have z8 : w.heap.size + 1 < Y.heap.size := by rw [← hY]; show _ < ((w6.setCell _ _).setCell _ _).heap.size; rw [set_size, set_size]; omega
  clear hY hYh hcQ hfQ bQ7 bR7 HB7 z6 z3' HHW HA
  have hcQ := fun o => Lib.cell_of_heap bQ8 o
  have hfQ := blk_frozen bQ8
  have hcR := fun o => Lib.cell_of_heap bR8 o
  have hfR := blk_frozen bR8
  have gf : ∀ (X : World) (i o : Nat) (v : Value), (X.setCell ⟨w.heap.size + 1, i, none⟩ v).cell? ⟨w.heap.size, o, none⟩ = X.cell? ⟨w.heap.size, o, none⟩ := fun X i o v => set_far X _ _ i o v (by omega)
  have hq := HQ.out
  have d0 : (8 : Int) ≤ N := by omega
  by_cases hlt : 8 < N
  · rw [if_pos hlt] at hq
    have HQ2 := Lib.hid hq
    have d1 : decide ((8 : Int) < N) = true := by simp; omega
    clear hq HQ bQ8 bR8
    go_wp2_with fail
    refine bodyPost_ret (v := .tuple #[.agg #[.int .i64 k, .string t1.text, .string t3.text, .string t5.text, .string t7.text, .slice none 0 0], .int .i64 8, .int .i64 2]) (by simp [results, Tryz.results40, go_sem, set6, gf, hcR]) rfl ⟨none, 0, by rw [HQ2.out]; rfl, (fun h => by rw [HQ2.out] at h; simp at h), (fun g o e => by cases e), ?_⟩
    exact below_set6 HB8.out (Nat.le_refl _) _ _ _ _ _ _
  · rw [if_neg hlt] at hq
    have HQ2 := Lib.hid hq
    have d1 : decide ((8 : Int) < N) = false := by simp; omega
    clear hq HQ
    have hR := fun (w' : World) => Qry2.right k t1.text t3.text t5.text t7.text none 0 [] w' HFit.out (fun h => by simp at h)
    have hz : (⟨k, ⟨t1.text, t3.text⟩, ⟨t5.text, t7.text⟩, []⟩ : Qy) = (⟨k, ⟨t1.text, t3.text⟩, ⟨t5.text, t7.text⟩, []⟩ : Qy) := rfl
    unfold Qry2.RightPost at hR
    rw [hz] at hR
    generalize Qy.right (⟨k, ⟨t1.text, t3.text⟩, ⟨t5.text, t7.text⟩, []⟩ : Qy) = rt at *
    have HR := Lib.hid hR
    clear hR hz
    go_wp2_with fail
    refine (HR.out _).mono ?_
    rintro e w8 ⟨rfl, hb9⟩
    have bQ9 := blk_below bQ8 hb9 (by omega)
    have bR9 := blk_below bR8 hb9 (by omega)
    have HB9 := Lib.hid (HB8.out.trans (hb9.mono (by omega)))
    clear hcQ hfQ hcR hfR hb9 bQ8 bR8
    have hcQ := fun o => Lib.cell_of_heap bQ9 o
    have hfQ := blk_frozen bQ9
    have hcR := fun o => Lib.cell_of_heap bR9 o
    have hfR := blk_frozen bR9
    clear bQ9 bR9
    cases rt
    · go_wp2_with fail
      refine bodyPost_ret (v := .tuple #[.agg #[.int .i64 k, .string t1.text, .string t3.text, .string t5.text, .string t7.text, .slice none 0 0], .int .i64 8, .int .i64 3]) (by simp [results, Tryz.results40, go_sem, set6, gf, hcR]) rfl ⟨none, 0, by rw [HQ2.out]; rfl, (fun h => by rw [HQ2.out] at h; simp at h), (fun g o e => by cases e), ?_⟩
      exact below_set6 HB9.out (Nat.le_refl _) _ _ _ _ _ _
    · go_wp2_with fail
      refine bodyPost_ret (v := .tuple #[.agg #[.int .i64 k, .string t1.text, .string t3.text, .string t5.text, .string t7.text, .slice none 0 0], .int .i64 8, .int .i64 0]) (by simp [results, Tryz.results40, go_sem, set6, gf, hcR]) rfl ⟨none, 0, by rw [HQ2.out]; rfl, (fun h => by rw [HQ2.out] at h; simp at h), (fun g o e => by cases e), ?_⟩
      exact below_set6 HB9.out (Nat.le_refl _) _ _ _ _ _ _
end Go.Proofs.YtkmonmpfbchffaaGreat.QryD
/- Rows of numbers put one behind the other: slices.Grow, slices.Concat; the shapes. -/
namespace Go.Proofs.YtkmonmpfbchffaaGreat.SynG
set_option linter.unusedVariables false
set_option linter.unusedSimpArgs false
open Go.RowKit Go.Sort Go.Proofs.YtkmonmpfbchffaaGreat.Plain Go.Proofs.YtkmonmpfbchffaaGreat.SynP Go.Proofs.YtkmonmpfbchffaaGreat.SynQ Go.Proofs.YtkmonmpfbchffaaGreat.Grown Go.Proofs.YtkmonmpfbchffaaGreat.SynA Go.Proofs.YtkmonmpfbchffaaGreat.SynC
set_option linter.unusedVariables false
theorem infoInt : (Tryz.prog.info? 3).map (fun i => (i.zero, i.size, i.bytes)) = some (some (.int .i64 0), 1, 8) := by kernel_rfl
def icells (l : List Int) : List Value := l.map (Value.int .i64)
/-- A row of the call's own that holds numbers. -/
def IPost (l : List Int) (w : World) (e : Ending) (w' : World) : Prop := ∃ v, e = .returned v ∧ w'.ownsRow w.heap.size 3 1 v l.length (icells l) ∧ Below w.heap.size w w'
set_option maxRecDepth 100000 in
theorem growI (n : Nat) (w : World) (hn : n ≤ 1000000) : Calls Tryz.prog 267 #[.slice none 0 0, .int .i64 n] w (IPost [] w) := by
  obtain ⟨i0, hi, hz0, hz1, hz2⟩ := info_parts infoInt
  by_cases h0 : 0 < n
  · have hz : 0 < i0.size := by rw [hz1]; omega
    have hby : n * i0.bytes ≤ 281474976710656 := by rw [hz2]; omega
    have hrun := Lib.run_append_nil_zeros (P := Tryz.prog) w 156 3 156 3 i0 (.int .i64 0) .i64 .i64 Tryz.underlying156 Tryz.underlying3 hi hz0 n h0 hz (by omega) hby
    have hg := grownCap_ge w n 0 3
    have hm := grownCap_le_maxLen w n 0 3 (by unfold maxLen; omega)
    have hm' := hm
    have hsz : (Builtin.zeroCells (Value.int .i64 0).cells n ++ Builtin.zeroCells (Value.int .i64 0).cells (grownCap w n 0 3 - n)).size = grownCap w n 0 3 * 1 := by
      rw [Array.size_append, size_zeroCells, size_zeroCells]
      show n * 1 + (grownCap w n 0 3 - n) * 1 = _
      omega
    generalize Builtin.zeroCells (Value.int .i64 0).cells n ++ Builtin.zeroCells (Value.int .i64 0).cells (grownCap w n 0 3 - n) = cells at *
    generalize grownCap w n 0 3 = gc at *
    have Hsz := Lib.hid hsz
    have Hm := Lib.hid hm'
    have Hrun := Lib.hid hrun
    clear hsz hz hby hm' hrun
    unfold maxLen at hm
    go_enter Tryz.func267, Tryz.ntmps267
    go_wp2_with (refine Lib.wpList_append_run (P := Tryz.prog) (o := ⟨some 22, _, _, _, _, _⟩) w rfl (.tmp 20) (.tmp 21) 156 3 rfl (.slice none 0 0) (.int .i64 n) ?hs ?hx (.slice (some ⟨w.heap.size, 0, none⟩) n gc) (w.drew.alloc (.cells cells 3)) (by exact Hrun.out) ?_)
    case hs => rfl
    case hx => rfl
    go_wp2
    go_ret
    exact ⟨_, rfl, World.ownsRow_made w.drew cells gc (Nat.le_refl _) Hm.out Hsz.out, (Below.refl _ _).drew.alloc (Nat.le_refl _) _⟩
  · have : n = 0 := by omega
    subst this
    go_enter Tryz.func267, Tryz.ntmps267
    go_wp2
    go_ret
    exact ⟨_, rfl, World.ownsRow_nil _ _ _ _, Below.refl _ _⟩
/-- A slice value, its room, and the numbers as which it reads. -/
structure RowI where
  A : Option Addr
  c : Nat
  l : List Int
/-- The numbers of the first rows. -/
def flatTo (R : List RowI) (k : Nat) : List Int := ((R.take k).map RowI.l).flatten
theorem flatTo_succ {R : List RowI} {k : Nat} (h : k < R.length) : flatTo R (k + 1) = flatTo R k ++ R[k].l := by
  unfold flatTo
  rw [List.take_succ_eq_append_getElem h, List.map_append, List.flatten_append, List.map_singleton, List.flatten_singleton]
theorem flatTo_len {R : List RowI} (h : ∀ r ∈ R, r.l.length ≤ 1000) : ∀ k, (flatTo R k).length ≤ k * 1000 := by
  intro k
  induction k with
  | zero => simp [flatTo]
  | succ k ih =>
    rcases Nat.lt_or_ge k R.length with hk | hk
    · rw [flatTo_succ hk, List.length_append]
      have h1 := h R[k] (List.getElem_mem _)
      rw [Nat.succ_mul]
      exact Nat.add_le_add ih h1
    · have : flatTo R (k + 1) = flatTo R k := by unfold flatTo; rw [List.take_of_length_le (by omega), List.take_of_length_le (by omega)]
      rw [this, Nat.succ_mul]
      exact Nat.le_add_right_of_le ih
theorem icells_append (a b : List Int) : icells (a ++ b) = icells a ++ icells b := by unfold icells; exact List.map_append
theorem icells_len (a : List Int) : (icells a).length = a.length := List.length_map ..
theorem icells_one (l : List Int) : ∀ u ∈ icells l, u.oneCell' = true := by
  intro u hu
  obtain ⟨x, _, rfl⟩ := List.mem_map.1 hu
  rfl
theorem iat_none {w : World} {l : List Int} (h : IAt w none l) : l.length = 0 := by
  rcases Nat.eq_zero_or_pos l.length with h0 | h0
  · exact h0
  · obtain ⟨_, _, e, _⟩ := h h0; cases e
theorem iat_cells {w : World} {A : Option Addr} {l : List Int} (h : IAt w A l) : ∀ ad, A = some ad → ∀ j u, (icells l)[j]? = some u → w.cell? (ad.add j) = some u := by
  rintro ad rfl j u hu
  have hj : j < l.length := by
    rcases Nat.lt_or_ge j l.length with h | h
    · exact h
    · rw [List.getElem?_eq_none (by rw [icells_len]; exact h)] at hu; cases hu
  obtain ⟨g, o, e, _, hc⟩ := h (by omega)
  injection e with e
  subst e
  rw [add_off, hc j hj, ← hu]
  unfold icells
  rw [List.getElem?_map, List.getElem?_eq_getElem hj]; rfl
set_option maxHeartbeats 800000 in
set_option maxRecDepth 100000 in
theorem concatI (b cap : Nat) (R : List RowI) (w : World) (hR : R.length ≤ 100) (hl : ∀ r ∈ R, r.l.length ≤ 1000) (hb : b < w.heap.size) (hc : ∀ j, (h : j < R.length) → w.cell? ⟨b, j, none⟩ = some (.slice R[j].A R[j].l.length R[j].c)) (hr : ∀ r ∈ R, IAt w r.A r.l) :
    Calls Tryz.prog 259 #[.slice (some ⟨b, 0, none⟩) R.length cap] w (IPost (flatTo R R.length) w) := by
  obtain ⟨i0, hi, hz0, hz1, hz2⟩ := info_parts infoInt
  have HC := Lib.hid hc
  have HR := Lib.hid hr
  have HL := Lib.hid (flatTo_len hl)
  have Hl := Lib.hid hl
  clear hc hr hl
  go_enter Tryz.func259, Tryz.ntmps259
  go_wp2_with fail
  go_loop [3, 11] (fun s i => ∃ k : Nat, k ≤ R.length ∧ i = .int .i64 k ∧ s = .int .i64 ((flatTo R k).length : Nat)) (fun _ i => R.length - (intOf i).toNat)
  case atStart => exact ⟨0, by omega, rfl, by simp [flatTo]⟩
  case round =>
    obtain ⟨k, hk, rfl, rfl⟩ := hrel
    have b1 := HL.out k
    by_cases hlt : k < R.length
    · have hcell := HC.out k hlt
      have b2 := Hl.out R[k] (List.getElem_mem _)
      have hs := flatTo_succ hlt
      have Hs : Hid (((flatTo R k).length : Int) + (R[k].l.length : Int) = ((flatTo R (k + 1)).length : Nat)) := Lib.hid (by rw [hs, List.length_append]; omega)
      clear hs
      go_wp2_with fail
      go_round
      case rel => exact ⟨k + 1, by omega, by go_num, by rw [← Hs.out]⟩
      case measure => simp [intOf]; omega
    · have hkR : k = R.length := by omega
      subst hkR
      go_wp2_with fail
      refine (growI (flatTo R R.length).length w (by omega)).mono ?_
      rintro e w1 ⟨v1, rfl, hown1, hbel1⟩
      go_wp2_with fail
      go_loopw [6, 27] (fun v i wr => ∃ k : Nat, k ≤ R.length ∧ i = .int .i64 k ∧ Below w.heap.size w wr ∧ wr.ownsRow w.heap.size 3 1 v (flatTo R k).length (icells (flatTo R k))) (fun _ i _ => R.length - (intOf i).toNat)
      case atStart => exact ⟨0, by omega, rfl, hbel1, by simpa [flatTo] using hown1⟩
      case round =>
        obtain ⟨k, hk, rfl, hbel, hown⟩ := hrel
        clear hown1 hbel1
        by_cases hlt : k < R.length
        · have d1 := (hbel.cell (p := ⟨b, k, none⟩) hb).trans (HC.out k hlt)
          have hrow := (HR.out R[k] (List.getElem_mem _)).below hbel
          have b2 := Hl.out R[k] (List.getElem_mem _)
          have b3 := HL.out k
          have H0 := Lib.hid (fun h : R[k].A = none => by rw [h] at hrow; exact iat_none hrow)
          have H1 := Lib.hid (iat_cells hrow)
          have Hs := Lib.hid (flatTo_succ hlt)
          clear hrow
          go_wp2_with (at_builtin; refine wpList_append_from _ rfl _ _ 156 rfl w.heap.size 3 i0 (.int .i64 0) 1 8 Tryz.underlying156 hi hz0 hz1 hz2 rfl (by decide) _ _ _ rfl hown R[k].A R[k].l.length R[k].c (icells R[k].l) rfl (by rw [icells_len]; omega) H0.out H1.out (icells_one _) (by unfold maxLen; omega) (by omega) hbel.size ?_)
          intro v2 w2 hown2 hgrow
          have hbel2 := hbel.grown hgrow hbel.size (fun k hk => (hown.lt k hk).1)
          have hown3 : w2.ownsRow w.heap.size 3 1 v2 (flatTo R (k + 1)).length (icells (flatTo R (k + 1))) := by
            rw [Hs.out, List.length_append, icells_append]; exact hown2
          clear hown hbel hgrow hown2
          go_wp2_with fail
          go_roundw
          case rel => exact ⟨k + 1, by omega, by go_num, hbel2, hown3⟩
          case measure => simp [intOf]; omega
        · have hkR : k = R.length := by omega
          subst hkR
          go_wp2_with fail
          go_ret
          exact ⟨_, rfl, hown, hbel⟩
end Go.Proofs.YtkmonmpfbchffaaGreat.SynG
