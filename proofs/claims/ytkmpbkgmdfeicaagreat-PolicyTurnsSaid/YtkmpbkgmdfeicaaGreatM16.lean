/- A line's tokens read as those of one kind that they go on as, by contract. -/
import Derived.Test.YtkmpbkgmdfeicaaGreatM15
import Derived.Test.YtkmpbkgmdfeicaaGreatM10
import Derived.Test.YtkmpbkgmdfeicaaGreatM11
import Derived.Test.YtkmpbkgmdfeicaaGreatM04
import Derived.Lib.Join
namespace Go.Proofs.YtkmpbkgmdfeicaaGreat.QryD
set_option linter.unusedVariables false
set_option linter.unusedSimpArgs false
open Go.RowKit Go.Sort Go.Proofs Go.Proofs.YtkmpbkgmdfeicaaGreat.Plain Go.Proofs.YtkmpbkgmdfeicaaGreat.SynP Go.Proofs.YtkmpbkgmdfeicaaGreat.TabP Go.Proofs.YtkmpbkgmdfeicaaGreat.Tab1 Go.Proofs.YtkmpbkgmdfeicaaGreat.Grown Go.Proofs.YtkmpbkgmdfeicaaGreat.SynA Go.Proofs.YtkmpbkgmdfeicaaGreat.SynC Go.Proofs.YtkmpbkgmdfeicaaGreat.SynR Go.Proofs.YtkmpbkgmdfeicaaGreat.SynS Go.Proofs.YtkmpbkgmdfeicaaGreat.SynV Go.Proofs.YtkmpbkgmdfeicaaGreat.QryP Go.Proofs.YtkmpbkgmdfeicaaGreat.Qry4 Go.Proofs.YtkmpbkgmdfeicaaGreat.Qry5 Go.Proofs.YtkmpbkgmdfeicaaGreat.Qry6 Go.Proofs.YtkmpbkgmdfeicaaGreat.Qry7 Go.Proofs.YtkmpbkgmdfeicaaGreat.QryA Go.Proofs.YtkmpbkgmdfeicaaGreat.QryB
set_option linter.unusedVariables false
set_option linter.unusedSimpArgs false
theorem agreeF_cons {L : List Tk} {f : Ft} {F : List Ft} (h : agreeF L (f :: F) = F.length + 1) : ∃ t M, L = t :: M ∧ f.fits t = true ∧ agreeF M F = F.length := by
  cases L with
  | nil => simp [agreeF] at h
  | cons t M =>
    refine ⟨t, M, rfl, ?_⟩
    have h' : (if f.fits t = true then agreeF M F + 1 else 0) = F.length + 1 := h
    by_cases hf : f.fits t = true
    · rw [if_pos hf] at h'; exact ⟨hf, by omega⟩
    · rw [if_neg hf] at h'; omega
theorem fitsK {t : Tk} {n : Int} (h : Ft.fits t (.kind n) = true) : t.kind = n := by simpa [Ft.fits] using h
theorem shape3 {k : Int} (hk : k = 1 ∨ k = 2 ∨ k = 3) : ∃ s, wordsL k = [s] ∧ shapeF k = [.word (leadS k), .kind 1, .kind 3, .kind 2, .word s] ∧ hasBk k = false ∧ hasWk k = true := by
  rcases hk with rfl | rfl | rfl <;> exact ⟨_, rfl, rfl, rfl, rfl⟩
theorem shape4 : shapeF 4 = [.word (leadS 4), .kind 1, .kind 3, .kind 2, .word [98, 101], .word [101, 109, 112, 116, 121]] ∧ hasBk 4 = false ∧ hasWk 4 = false := ⟨rfl, rfl, rfl⟩
theorem shape8 {k : Int} (hk : k = 5 ∨ k = 6) : ∃ s, wordsL k = [s] ∧ shapeF k = [.word (leadS k), .kind 1, .kind 3, .kind 2, .word s, .kind 1, .kind 3, .kind 2] ∧ hasBk k = true ∧ hasWk k = false := by
  rcases hk with rfl | rfl <;> exact ⟨_, rfl, rfl, rfl, rfl⟩
/-- What is read of principals is rising, in order, and no more than twelve. -/
theorem readW_ok : ∀ (L : List Tk) (T : List Str), T.length ≤ 12 → T.Pairwise (· < ·) → (readW L T).1.length ≤ 12 ∧ (readW L T).1.Pairwise (· < ·) ∧ (readW L T).2.1 ≤ L.length ∧ ∀ s ∈ (readW L T).1, s ∈ T ∨ ∃ t ∈ L, t.kind = 1 ∧ s = strOf t.text
  | [], T, h1, h2 => ⟨h1, h2, Nat.zero_le _, fun s hs => .inl hs⟩
  | t :: L, T, h1, h2 => by
    unfold readW
    by_cases hk : t.kind = 1
    · rw [if_pos hk]
      by_cases hs : strOf t.text ∈ T
      · rw [if_pos hs]
        obtain ⟨a, b, c, d⟩ := readW_ok L T h1 h2
        refine ⟨a, b, by simp; omega, fun s hm => ?_⟩
        rcases d s hm with h | ⟨u, hu, e⟩
        · exact .inl h
        · exact .inr ⟨u, List.mem_cons_of_mem _ hu, e⟩
      · rw [if_neg hs]
        by_cases h12 : T.length = 12
        · rw [if_pos h12]; exact ⟨h1, h2, by simp, fun s hm => .inl hm⟩
        · rw [if_neg h12]
          have hl : (tab (T ++ [strOf t.text])).length ≤ 12 := by
            have := tab_len_le (T ++ [strOf t.text])
            simp at this; omega
          obtain ⟨a, b, c, d⟩ := readW_ok L _ hl (tab_sorted _)
          refine ⟨a, b, by simp; omega, fun s hm => ?_⟩
          rcases d s hm with h | ⟨u, hu, e⟩
          · rw [mem_tab] at h
            rcases List.mem_append.1 h with h | h
            · exact .inl h
            · exact .inr ⟨t, List.mem_cons_self .., hk, by simpa using h⟩
          · exact .inr ⟨u, List.mem_cons_of_mem _ hu, e⟩
    · rw [if_neg hk]; exact ⟨h1, h2, by simp, fun s hm => .inl hm⟩
theorem who_fit {L : List Tk} (hs : SmallTk L) : ∀ s ∈ (readW L []).1, s.length ≤ maxLen := fun s hm => by
  obtain ⟨_, _, _, d⟩ := readW_ok L [] (by simp) List.Pairwise.nil
  rcases d s hm with h | ⟨t, ht, _, rfl⟩
  · simp at h
  · have := (hs t ht).2
    have e : (strOf t.text).length = t.text.size := toList_len _
    rw [e]; unfold maxLen; omega
theorem srow_set6 {X : World} {A : Option Addr} {T : List Str} (h : SRow X A T) {b : Nat} (hb : ∀ g o, A = some ⟨g, o, none⟩ → b ≠ g) (v0 v1 v2 v3 v4 v5 : Value) : SRow ((((((X.setCell ⟨b, 0, none⟩ v0).setCell ⟨b, 1, none⟩ v1).setCell ⟨b, 2, none⟩ v2).setCell ⟨b, 3, none⟩ v3).setCell ⟨b, 4, none⟩ v4).setCell ⟨b, 5, none⟩ v5) A T :=
  srow_set (srow_set (srow_set (srow_set (srow_set (srow_set h hb _ _) hb _ _) hb _ _) hb _ _) hb _ _) hb _ _
theorem below_set6 {w X : World} {B b : Nat} (h : RowKit.Below B w X) (hb : B ≤ b) (v0 v1 v2 v3 v4 v5 : Value) : RowKit.Below B w ((((((X.setCell ⟨b, 0, none⟩ v0).setCell ⟨b, 1, none⟩ v1).setCell ⟨b, 2, none⟩ v2).setCell ⟨b, 3, none⟩ v3).setCell ⟨b, 4, none⟩ v4).setCell ⟨b, 5, none⟩ v5) :=
  (((((h.setCell hb _).setCell hb _).setCell hb _).setCell hb _).setCell hb _).setCell hb _
theorem read3_eq {k : Int} (hk : k = 1 ∨ k = 2 ∨ k = 3) {t0 t1 t2 t3 t4 : Tk} {M : List Tk} (h : agreeF (t0 :: t1 :: t2 :: t3 :: t4 :: M) (shapeF k) = 5) : readQ k (t0 :: t1 :: t2 :: t3 :: t4 :: M) = (⟨k, ⟨t1.text, t3.text⟩, zeroR, (readW M []).1⟩, 5 + (readW M []).2.1, if (readW M []).2.2 = true then 5 else if 5 + (readW M []).2.1 < M.length + 5 then 2 else if Qy.right ⟨k, ⟨t1.text, t3.text⟩, zeroR, (readW M []).1⟩ = true then 0 else 3) := by
  obtain ⟨s, hw, hsh, hB, hW⟩ := shape3 hk
  have hm : (shapeF k).length = 5 := by rw [hsh]; rfl
  have hdr : (t0 :: t1 :: t2 :: t3 :: t4 :: M).drop 5 = M := rfl
  unfold readQ
  simp only []
  rw [h, hm, if_pos rfl, hW, hB]
  rfl
set_option maxHeartbeats 4000000 in
set_option maxRecDepth 100000 in
theorem read3 (k : Int) (hk : k = 1 ∨ k = 2 ∨ k = 3) (A : Option Addr) (ca N : Nat) (t0 t1 t2 t3 t4 : Tk) (M : List Tk) (w : World) (hN : M.length + 5 = N) (hL : N ≤ 1000) (hca : N ≤ ca) (hs : SmallTk (t0 :: t1 :: t2 :: t3 :: t4 :: M)) (g1 : goodTk t1) (g2 : goodTk t2) (g3 : goodTk t3) (k1 : t1.kind = 1) (k2 : t2.kind = 3) (k3 : t3.kind = 2) (hA : TkAt w A (t0 :: t1 :: t2 :: t3 :: t4 :: M)) (h : agreeF (t0 :: t1 :: t2 :: t3 :: t4 :: M) (shapeF k) = 5) :
    Calls Tryz.prog 209 #[.int .i64 k, .slice A N ca] w (ReadPost (readQ k (t0 :: t1 :: t2 :: t3 :: t4 :: M)) w) := by
  obtain ⟨s, hw, hsh, hB, hW⟩ := shape3 hk
  have hm : (shapeF k).length = 5 := by rw [hsh]; rfl
  have hq := read3_eq hk h
  rw [hN] at hq
  obtain ⟨rl, rp, rd, rm⟩ := readW_ok M [] (by simp) List.Pairwise.nil
  have hfit := who_fit (small_drop hs 5)
  have hl : (t0 :: t1 :: t2 :: t3 :: t4 :: M).length = N := by simp; omega
  have hwho := fun (w' : World) (hA' : TkAt w' A (t0 :: t1 :: t2 :: t3 :: t4 :: M)) => readWho A ca (t0 :: t1 :: t2 :: t3 :: t4 :: M) 5 w' (by rw [hl]; exact hL) (by rw [hl]; omega) hA'
  have hfit' : ∀ s ∈ (readW M []).1, s.length ≤ maxLen := hfit
  have hdr : (t0 :: t1 :: t2 :: t3 :: t4 :: M).drop 5 = M := rfl
  rw [hl, hdr] at hwho
  generalize hr : readW M [] = r at *
  obtain ⟨T, d, m⟩ := r
  simp only at hq rl rd hfit'
  obtain ⟨n, hn⟩ : ∃ n, 5 + d = n := ⟨_, rfl⟩
  have hwho' : ∀ w', TkAt w' A (t0 :: t1 :: t2 :: t3 :: t4 :: M) → Calls Tryz.prog 239 #[.slice A N ca, .int .i64 5] w' fun e w'' => ∃ A' c', e = .returned (.tuple #[.slice A' T.length c', .int .i64 ((5 + d : Nat) : Int), .bool m]) ∧ w''.ownsRow w'.heap.size 9 1 (.slice A' T.length c') T.length (T.map encStr) ∧ RowKit.Below w'.heap.size w' w'' := hwho
  rw [hn] at hwho' hq
  have HW := Lib.hid hwho'
  have hnN : n ≤ N := by omega
  have hag := fun (V : Option Addr) (cv : Nat) (vs : List Value) (w' : World) (hb : RowKit.Below w.heap.size w w') (hv : VRow w' V vs) (hf : FnsAt w' vs (shapeF k)) => Qry5.agree A ca (t0 :: t1 :: t2 :: t3 :: t4 :: M) V cv vs (shapeF k) w' (by rw [hl]; exact hL) (by omega) (hA.below hb) hv hf
  rw [hl, hm, h] at hag
  have HG := Lib.hid hag
  have hsp := fun (w' : World) => Qry7.shape k ⟨#[]⟩ ⟨#[]⟩ ⟨#[]⟩ ⟨#[]⟩ none 0 0 w'
  have HS := Lib.hid hsp
  have hHB := fun (w' : World) => hasB k w'
  rw [hB] at hHB
  have HHB := Lib.hid hHB
  have hHW := fun (w' : World) => hasWho k w'
  rw [hW] at hHW
  have HHW := Lib.hid hHW
  have HA := Lib.hid hA
  obtain ⟨g, o, rfl, hg, hc⟩ := hA (by simp)
  have HRR := Lib.hid (fun (w' : World) (hb : RowKit.Below w.heap.size w w') => readGood (some ⟨g, o + 3, none⟩) (ca - 1) (N - 1) t1 t2 t3 (t4 :: M) w' (by simp; omega) (by omega) (by omega) (small_drop hs 1) g1 g2 g3 k1 k2 k3 (tk_tail (HA.out.below hb)))
  have HQ := Lib.hid hq
  have HFit : Hid (Qy.fit ⟨k, ⟨t1.text, t3.text⟩, zeroR, T⟩) := Lib.hid ⟨⟨Nat.le_trans ((hs t1 (by simp)).2) (by unfold maxLen; omega), Nat.le_trans ((hs t3 (by simp)).2) (by unfold maxLen; omega)⟩, ⟨Nat.zero_le _, Nat.zero_le _⟩, Nat.le_trans rl (by unfold maxLen; omega), hfit'⟩
  have hMl := Lib.hid hm
  clear hs hc hq hfit hfit' hwho hwho' hag hsp hHB hHW hB hW hw hsh hr h hdr hl rp rm g1 g2 g3 k1 k2 k3 hk hA hm hn
  go_enter Tryz.func209, Tryz.ntmps209
  go_wp2_with fail
  refine (HS.out _).mono ?_
  rintro e w1 ⟨v1, vs1, rfl, hown, hfn, hb1⟩
  rw [hMl.out] at hown
  obtain ⟨V, cv, rfl, _, hvr⟩ := VRow.of_own hown
  have hbw : RowKit.Below w.heap.size w w1 := (((Below.refl _ _).alloc (Nat.le_refl _) _).alloc (by simp) _).trans (hb1.mono (by simp; omega))
  have HGG := Lib.hid (HG.out V cv vs1 w1 hbw hvr hfn)
  have HB1 := Lib.hid hb1
  clear hown hfn hvr hbw hb1
  go_wp2_with fail
  refine HGG.out.mono ?_
  rintro e w2 ⟨rfl, hg2⟩
  have hbx := boxes (k := k) HB1.out hg2
  clear hg2 HGG HG HS HB1
  have n1 : (1 : Int) ≤ N := by omega
  have n2 : (1 : Int) ≤ ca := by omega
  have n3 : ¬ ca = 1 := by omega
  have n4 : ¬ ca ≤ 1 := by omega
  have n5 : ¬ ca - 1 = 0 := by omega
  have HRR2 := Lib.hid (HRR.out w2 hbx.below)
  have z2 := hbx.size
  clear HRR
  go_wp2_with fail
  refine HRR2.out.mono ?_
  rintro e w3 ⟨B3, cb3, rfl, _, _, hb3, _⟩
  have bR3 := blk_below hbx.res hb3 (by omega)
  have bQ3 := blk_below hbx.box hb3 (by omega)
  have z3 := hb3.size
  have HB3 := Lib.hid (hbx.below.trans (hb3.mono (by omega)))
  have hcQ := fun o => Lib.cell_of_heap bQ3 o
  have hfQ := blk_frozen bQ3
  have z3' : w.heap.size + 1 < w3.heap.size := by omega
  clear hb3 hbx HRR2 z2 z3
  have hA4 := Lib.hid (tk_set (tk_set (HA.out.below HB3.out) (b := w.heap.size + 1) (by intro g' o' e; injection e with e; injection e with e1 e2; omega) 1 (.string t1.text)) (b := w.heap.size + 1) (by intro g' o' e; injection e with e; injection e with e1 e2; omega) 2 (.string t3.text))
  have hw4 : RowKit.Below (w.heap.size + 1) w3 ((w3.setCell ⟨w.heap.size + 1, 1, none⟩ (.string t1.text)).setCell ⟨w.heap.size + 1, 2, none⟩ (.string t3.text)) := ((Below.refl _ _).setCell (by simp) _).setCell (by simp) _
  have bQ4 := Lib.hid (blk_set (blk_set bQ3 1 (.string t1.text)) 2 (.string t3.text))
  have bR4 := Lib.hid (blk_below bR3 hw4 (by omega))
  have HB4 := Lib.hid (HB3.out.trans (hw4.mono (by omega)))
  clear bR3 bQ3 hw4 HB3
  go_wp2_with fail
  refine (HHB.out _).mono ?_
  rintro e w4 ⟨rfl, m4, rfl⟩
  go_wp2_with fail
  refine (HHW.out _).mono ?_
  rintro e w5 ⟨rfl, m5, rfl⟩
  go_wp2_with fail
  refine (HW.out _ ?tk).mono ?_
  case tk => exact hA4.out
  rintro e w6 ⟨Aw, cw, rfl, hown, hb6⟩
  have z6 := hb6.size
  have z6' : w3.heap.size ≤ w6.heap.size := by simpa [set_size] using z6
  have hb7 := (below_drewN (Below.refl w3.heap.size ((w3.setCell ⟨w.heap.size + 1, 1, none⟩ (.string t1.text)).setCell ⟨w.heap.size + 1, 2, none⟩ (.string t3.text))) (m4 + m5)).trans (hb6.mono (by simp [set_size]))
  have bQ6 := blk_below bQ4.out hb7 (by omega)
  have bR6 := blk_below bR4.out hb7 (by omega)
  have HB6 := Lib.hid (HB4.out.trans (hb7.mono (by omega)))
  have hfr : ∀ g o, Aw = some ⟨g, o, none⟩ → w.heap.size + 1 < g := fun g o e => by
    subst e
    have := (hown.lt g rfl).1
    simp [set_size] at this
    omega
  have HFr := Lib.hid hfr
  obtain ⟨A', c', e', _, hrow⟩ := SRow.of_own hown
  injection e' with e1 e2 e3
  subst e1
  have HRow := Lib.hid hrow
  clear hown hb6 hb7 z6 hfr hrow e2 e3 hcQ hfQ bQ4 bR4 HB4 hA4 HHB HHW HW
  have hcQ := fun o => Lib.cell_of_heap bQ6 o
  have hfQ := blk_frozen bQ6
  have hcR := fun o => Lib.cell_of_heap bR6 o
  have hfR := blk_frozen bR6
  have z8 : w.heap.size + 1 < w6.heap.size := by omega
  have gf : ∀ (X : World) (i o : Nat) (v : Value), (X.setCell ⟨w.heap.size + 1, i, none⟩ v).cell? ⟨w.heap.size, o, none⟩ = X.cell? ⟨w.heap.size, o, none⟩ := fun X i o v => set_far X _ _ i o v (by omega)
  cases m
  · have hq := HQ.out
    rw [if_neg (by decide)] at hq
    by_cases hlt : n < N
    · rw [if_pos hlt] at hq
      have HQ2 := Lib.hid hq
      clear hq HQ bQ6 bR6
      go_wp2_with fail
      refine bodyPost_ret (v := .tuple #[.agg #[.int .i64 k, .string t1.text, .string t3.text, .string ⟨#[]⟩, .string ⟨#[]⟩, .slice Aw T.length cw], .int .i64 n, .int .i64 2]) (by simp [results, Tryz.results209, go_sem, set6, gf, hcR]) rfl ⟨Aw, cw, by rw [HQ2.out]; rfl, ?_, (fun g o e => by have := HFr.out g o e; omega), ?_⟩
      · rw [HQ2.out]
        exact srow_set6 (srow_set HRow.out (fun g o e => by have := HFr.out g o e; omega) _ _) (fun g o e => by have := HFr.out g o e; omega) _ _ _ _ _ _
      · exact below_set6 (HB6.out.setCell (by simp) _) (Nat.le_refl _) _ _ _ _ _ _
    · rw [if_neg hlt] at hq
      have HQ2 := Lib.hid hq
      clear hq HQ
      have hR := fun (w' : World) (hr : SRow w' Aw T) => Qry2.right k t1.text t3.text ⟨#[]⟩ ⟨#[]⟩ Aw cw T w' HFit.out hr
      have hz : (⟨k, ⟨t1.text, t3.text⟩, ⟨⟨#[]⟩, ⟨#[]⟩⟩, T⟩ : Qy) = ⟨k, ⟨t1.text, t3.text⟩, zeroR, T⟩ := rfl
      unfold Qry2.RightPost at hR
      rw [hz] at hR
      generalize Qy.right ⟨k, ⟨t1.text, t3.text⟩, zeroR, T⟩ = rt at *
      have HR := Lib.hid hR
      have hrow7 := Lib.hid (srow_set HRow.out (b := w.heap.size + 1) (fun g o e => by have := HFr.out g o e; omega) 5 (.slice Aw T.length cw))
      have bQ7 := Lib.hid (blk_set bQ6 5 (.slice Aw T.length cw))
      have bR7 : Hid ((w6.setCell ⟨w.heap.size + 1, 5, none⟩ (.slice Aw T.length cw)).heap[w.heap.size]? = _) := Lib.hid (blk_below bR6 (((Below.refl (w.heap.size + 1) w6).setCell (by simp) _)) (by omega))
      clear hR hz bQ6 bR6
      go_wp2_with fail
      refine (HR.out _ hrow7.out).mono ?_
      rintro e w7 ⟨rfl, hb7⟩
      have hb8 := hb7.mono (B' := w6.heap.size) (by rw [set_size]; omega)
      have bQ8 := blk_below bQ7.out hb8 (by omega)
      have bR8 := blk_below bR7.out hb8 (by omega)
      have HB8 := Lib.hid ((HB6.out.setCell (p := ⟨w.heap.size + 1, 5, none⟩) (by simp) (.slice Aw T.length cw)).trans (hb8.mono (by omega)))
      have HRow8 := Lib.hid (hrow7.out.keep hb7)
      clear hcQ hfQ hcR hfR hb7 hb8 bQ7 bR7 hrow7
      have hcQ := fun o => Lib.cell_of_heap bQ8 o
      have hfQ := blk_frozen bQ8
      have hcR := fun o => Lib.cell_of_heap bR8 o
      have hfR := blk_frozen bR8
      clear bQ8 bR8
      cases rt
      · have HQ3 := Lib.hid HQ2.out
        go_wp2_with fail
        refine bodyPost_ret (v := .tuple #[.agg #[.int .i64 k, .string t1.text, .string t3.text, .string ⟨#[]⟩, .string ⟨#[]⟩, .slice Aw T.length cw], .int .i64 n, .int .i64 3]) (by simp [results, Tryz.results209, go_sem, set6, gf, hcR]) rfl ⟨Aw, cw, by rw [HQ2.out]; rfl, ?_, (fun g o e => by have := HFr.out g o e; omega), ?_⟩
        · rw [HQ2.out]
          exact srow_set6 HRow8.out (fun g o e => by have := HFr.out g o e; omega) _ _ _ _ _ _
        · exact below_set6 HB8.out (Nat.le_refl _) _ _ _ _ _ _
      · go_wp2_with fail
        refine bodyPost_ret (v := .tuple #[.agg #[.int .i64 k, .string t1.text, .string t3.text, .string ⟨#[]⟩, .string ⟨#[]⟩, .slice Aw T.length cw], .int .i64 n, .int .i64 0]) (by simp [results, Tryz.results209, go_sem, set6, gf, hcR]) rfl ⟨Aw, cw, by rw [HQ2.out]; rfl, ?_, (fun g o e => by have := HFr.out g o e; omega), ?_⟩
        · rw [HQ2.out]
          exact srow_set6 HRow8.out (fun g o e => by have := HFr.out g o e; omega) _ _ _ _ _ _
        · exact below_set6 HB8.out (Nat.le_refl _) _ _ _ _ _ _
  · have hq := HQ.out
    rw [if_pos rfl] at hq
    have HQ2 := Lib.hid hq
    clear hq HQ bQ6 bR6
    go_wp2_with fail
    refine bodyPost_ret (v := .tuple #[.agg #[.int .i64 k, .string t1.text, .string t3.text, .string ⟨#[]⟩, .string ⟨#[]⟩, .slice Aw T.length cw], .int .i64 n, .int .i64 5]) (by simp [results, Tryz.results209, go_sem, set6, gf, hcR]) rfl ⟨Aw, cw, by rw [HQ2.out]; rfl, ?_, (fun g o e => by have := HFr.out g o e; omega), ?_⟩
    · rw [HQ2.out]
      exact srow_set6 (srow_set HRow.out (fun g o e => by have := HFr.out g o e; omega) _ _) (fun g o e => by have := HFr.out g o e; omega) _ _ _ _ _ _
    · exact below_set6 (HB6.out.setCell (by simp) _) (Nat.le_refl _) _ _ _ _ _ _
theorem read4_eq {t0 t1 t2 t3 t4 t5 : Tk} {M : List Tk} (h : agreeF (t0 :: t1 :: t2 :: t3 :: t4 :: t5 :: M) (shapeF 4) = 6) : readQ 4 (t0 :: t1 :: t2 :: t3 :: t4 :: t5 :: M) = ((⟨4, ⟨t1.text, t3.text⟩, zeroR, []⟩ : Qy), 6, if 6 < M.length + 6 then 2 else if Qy.right (⟨4, ⟨t1.text, t3.text⟩, zeroR, []⟩ : Qy) = true then 0 else 3) := by
  obtain ⟨hsh, hB, hW⟩ := shape4
  have hm : (shapeF 4).length = 6 := by rw [hsh]; rfl
  unfold readQ
  simp only []
  rw [h, hm, if_pos rfl, hW, hB]
  rfl
set_option maxHeartbeats 4000000 in
set_option maxRecDepth 100000 in
theorem read4 (A : Option Addr) (ca N : Nat) (t0 t1 t2 t3 t4 t5 : Tk) (M : List Tk) (w : World) (hN : M.length + 6 = N) (hL : N ≤ 1000) (hca : N ≤ ca) (hs : SmallTk (t0 :: t1 :: t2 :: t3 :: t4 :: t5 :: M)) (g1 : goodTk t1) (g2 : goodTk t2) (g3 : goodTk t3) (k1 : t1.kind = 1) (k2 : t2.kind = 3) (k3 : t3.kind = 2) (hA : TkAt w A (t0 :: t1 :: t2 :: t3 :: t4 :: t5 :: M)) (h : agreeF (t0 :: t1 :: t2 :: t3 :: t4 :: t5 :: M) (shapeF 4) = 6) :
    Calls Tryz.prog 209 #[.int .i64 4, .slice A N ca] w (ReadPost (readQ 4 (t0 :: t1 :: t2 :: t3 :: t4 :: t5 :: M)) w) := by
  obtain ⟨hsh, hB, hW⟩ := shape4
  have hm : (shapeF 4).length = 6 := by rw [hsh]; rfl
  have hq := read4_eq h
  rw [hN] at hq
  have hl : (t0 :: t1 :: t2 :: t3 :: t4 :: t5 :: M).length = N := by simp; omega
  have hag := fun (V : Option Addr) (cv : Nat) (vs : List Value) (w' : World) (hb : RowKit.Below w.heap.size w w') (hv : VRow w' V vs) (hf : FnsAt w' vs (shapeF 4)) => Qry5.agree A ca (t0 :: t1 :: t2 :: t3 :: t4 :: t5 :: M) V cv vs (shapeF 4) w' (by rw [hl]; exact hL) (by omega) (hA.below hb) hv hf
  rw [hl, hm, h] at hag
  have HG := Lib.hid hag
  have hsp := fun (w' : World) => Qry7.shape 4 ⟨#[]⟩ ⟨#[]⟩ ⟨#[]⟩ ⟨#[]⟩ none 0 0 w'
  have HS := Lib.hid hsp
  have hHB := fun (w' : World) => hasB 4 w'
  rw [hB] at hHB
  have HHB := Lib.hid hHB
  have hHW := fun (w' : World) => hasWho 4 w'
  rw [hW] at hHW
  have HHW := Lib.hid hHW
  have HA := Lib.hid hA
  obtain ⟨g, o, rfl, hg, hc⟩ := hA (by simp)
  have HRR := Lib.hid (fun (w' : World) (hb : RowKit.Below w.heap.size w w') => readGood (some ⟨g, o + 3, none⟩) (ca - 1) (N - 1) t1 t2 t3 (t4 :: t5 :: M) w' (by simp; omega) (by omega) (by omega) (small_drop hs 1) g1 g2 g3 k1 k2 k3 (tk_tail (HA.out.below hb)))
  have HQ := Lib.hid hq
  have HFit : Hid (Qy.fit (⟨4, ⟨t1.text, t3.text⟩, zeroR, []⟩ : Qy)) := Lib.hid ⟨⟨Nat.le_trans ((hs t1 (by simp)).2) (by unfold maxLen; omega), Nat.le_trans ((hs t3 (by simp)).2) (by unfold maxLen; omega)⟩, ⟨Nat.zero_le _, Nat.zero_le _⟩, Nat.zero_le _, fun s h => by simp at h⟩
  have hMl := Lib.hid hm
  clear hs hc hq hag hsp hHB hHW hB hW hsh h hl g1 g2 g3 k1 k2 k3 hA hm
  go_enter Tryz.func209, Tryz.ntmps209
  go_wp2_with fail
  refine (HS.out _).mono ?_
  rintro e w1 ⟨v1, vs1, rfl, hown, hfn, hb1⟩
  rw [hMl.out] at hown
  obtain ⟨V, cv, rfl, _, hvr⟩ := VRow.of_own hown
  have hbw : RowKit.Below w.heap.size w w1 := (((Below.refl _ _).alloc (Nat.le_refl _) _).alloc (by simp) _).trans (hb1.mono (by simp; omega))
  have HGG := Lib.hid (HG.out V cv vs1 w1 hbw hvr hfn)
  have HB1 := Lib.hid hb1
  clear hown hfn hvr hbw hb1
  go_wp2_with fail
  refine HGG.out.mono ?_
  rintro e w2 ⟨rfl, hg2⟩
  have hbx := boxes (k := 4) HB1.out hg2
  clear hg2 HGG HG HS HB1
  have n1 : (1 : Int) ≤ N := by omega
  have n2 : (1 : Int) ≤ ca := by omega
  have n3 : ¬ ca = 1 := by omega
  have n4 : ¬ ca ≤ 1 := by omega
  have n5 : ¬ ca - 1 = 0 := by omega
  have HRR2 := Lib.hid (HRR.out w2 hbx.below)
  have z2 := hbx.size
  clear HRR
  go_wp2_with fail
  refine HRR2.out.mono ?_
  rintro e w3 ⟨B3, cb3, rfl, _, _, hb3, _⟩
  have bR3 := blk_below hbx.res hb3 (by omega)
  have bQ3 := blk_below hbx.box hb3 (by omega)
  have z3 := hb3.size
  have HB3 := Lib.hid (hbx.below.trans (hb3.mono (by omega)))
  have hcQ := fun o => Lib.cell_of_heap bQ3 o
  have hfQ := blk_frozen bQ3
  have z3' : w.heap.size + 1 < w3.heap.size := by omega
  clear hb3 hbx HRR2 z2 z3
  have hA4 := Lib.hid (tk_set (tk_set (HA.out.below HB3.out) (b := w.heap.size + 1) (by intro g' o' e; injection e with e; injection e with e1 e2; omega) 1 (.string t1.text)) (b := w.heap.size + 1) (by intro g' o' e; injection e with e; injection e with e1 e2; omega) 2 (.string t3.text))
  have hw4 : RowKit.Below (w.heap.size + 1) w3 ((w3.setCell ⟨w.heap.size + 1, 1, none⟩ (.string t1.text)).setCell ⟨w.heap.size + 1, 2, none⟩ (.string t3.text)) := ((Below.refl _ _).setCell (by simp) _).setCell (by simp) _
  have bQ4 := Lib.hid (blk_set (blk_set bQ3 1 (.string t1.text)) 2 (.string t3.text))
  have bR4 := Lib.hid (blk_below bR3 hw4 (by omega))
  have HB4 := Lib.hid (HB3.out.trans (hw4.mono (by omega)))
  clear bR3 bQ3 hw4 HB3
  go_wp2_with fail
  refine (HHB.out _).mono ?_
  rintro e w4 ⟨rfl, m4, rfl⟩
  go_wp2_with fail
  refine (HHW.out _).mono ?_
  rintro e w7 ⟨rfl, m5, rfl⟩
  generalize hY : (((w3.setCell ⟨w.heap.size + 1, 1, none⟩ (.string t1.text)).setCell ⟨w.heap.size + 1, 2, none⟩ (.string t3.text)).drewN m4).drewN m5 = Y at ⊢
  have hYh : ((w3.setCell ⟨w.heap.size + 1, 1, none⟩ (.string t1.text)).setCell ⟨w.heap.size + 1, 2, none⟩ (.string t3.text)).heap = Y.heap := by rw [← hY]; rfl
  have bQ8 := bQ4.out
  have bR8 := bR4.out
  rw [hYh] at bQ8 bR8
  have HB8 : Hid (RowKit.Below w.heap.size w Y) := Lib.hid (by rw [← hY]; exact below_drewN (below_drewN HB4.out m4) m5)
  have z8 : w.heap.size + 1 < Y.heap.size := by rw [← hY]; show _ < ((w3.setCell _ _).setCell _ _).heap.size; rw [set_size, set_size]; omega
  clear hY hYh hcQ hfQ bQ4 bR4 HB4 z3' HHW HHB HA hA4
  have hcQ := fun o => Lib.cell_of_heap bQ8 o
  have hfQ := blk_frozen bQ8
  have hcR := fun o => Lib.cell_of_heap bR8 o
  have hfR := blk_frozen bR8
  have gf : ∀ (X : World) (i o : Nat) (v : Value), (X.setCell ⟨w.heap.size + 1, i, none⟩ v).cell? ⟨w.heap.size, o, none⟩ = X.cell? ⟨w.heap.size, o, none⟩ := fun X i o v => set_far X _ _ i o v (by omega)
  have hq := HQ.out
  have d0 : (6 : Int) ≤ N := by omega
  by_cases hlt : 6 < N
  · rw [if_pos hlt] at hq
    have HQ2 := Lib.hid hq
    have d1 : decide ((6 : Int) < N) = true := by simp; omega
    clear hq HQ bQ8 bR8
    go_wp2_with fail
    refine bodyPost_ret (v := .tuple #[.agg #[.int .i64 4, .string t1.text, .string t3.text, .string ⟨#[]⟩, .string ⟨#[]⟩, .slice none 0 0], .int .i64 6, .int .i64 2]) (by simp [results, Tryz.results209, go_sem, set6, gf, hcR]) rfl ⟨none, 0, by rw [HQ2.out]; rfl, (fun h => by rw [HQ2.out] at h; simp at h), (fun g o e => by cases e), ?_⟩
    exact below_set6 HB8.out (Nat.le_refl _) _ _ _ _ _ _
  · rw [if_neg hlt] at hq
    have HQ2 := Lib.hid hq
    have d1 : decide ((6 : Int) < N) = false := by simp; omega
    clear hq HQ
    have hR := fun (w' : World) => Qry2.right 4 t1.text t3.text ⟨#[]⟩ ⟨#[]⟩ none 0 [] w' HFit.out (fun h => by simp at h)
    have hz : (⟨4, ⟨t1.text, t3.text⟩, ⟨⟨#[]⟩, ⟨#[]⟩⟩, []⟩ : Qy) = (⟨4, ⟨t1.text, t3.text⟩, zeroR, []⟩ : Qy) := rfl
    unfold Qry2.RightPost at hR
    rw [hz] at hR
    generalize Qy.right (⟨4, ⟨t1.text, t3.text⟩, zeroR, []⟩ : Qy) = rt at *
    have HR := Lib.hid hR
    clear hR hz
    go_wp2_with fail
    refine (HR.out _).mono ?_
    rintro e w8 ⟨rfl, hb9⟩
    have bQ9 := blk_below bQ8 hb9 (by omega)
    have bR9 := blk_below bR8 hb9 (by omega)
    have HB9 := Lib.hid (HB8.out.trans (hb9.mono (by omega)))
    clear hcQ hfQ hcR hfR hb9 bQ8 bR8
    have hcQ := fun o => Lib.cell_of_heap bQ9 o
    have hfQ := blk_frozen bQ9
    have hcR := fun o => Lib.cell_of_heap bR9 o
    have hfR := blk_frozen bR9
    clear bQ9 bR9
    cases rt
    · go_wp2_with fail
      refine bodyPost_ret (v := .tuple #[.agg #[.int .i64 4, .string t1.text, .string t3.text, .string ⟨#[]⟩, .string ⟨#[]⟩, .slice none 0 0], .int .i64 6, .int .i64 3]) (by simp [results, Tryz.results209, go_sem, set6, gf, hcR]) rfl ⟨none, 0, by rw [HQ2.out]; rfl, (fun h => by rw [HQ2.out] at h; simp at h), (fun g o e => by cases e), ?_⟩
      exact below_set6 HB9.out (Nat.le_refl _) _ _ _ _ _ _
    · go_wp2_with fail
      refine bodyPost_ret (v := .tuple #[.agg #[.int .i64 4, .string t1.text, .string t3.text, .string ⟨#[]⟩, .string ⟨#[]⟩, .slice none 0 0], .int .i64 6, .int .i64 0]) (by simp [results, Tryz.results209, go_sem, set6, gf, hcR]) rfl ⟨none, 0, by rw [HQ2.out]; rfl, (fun h => by rw [HQ2.out] at h; simp at h), (fun g o e => by cases e), ?_⟩
      exact below_set6 HB9.out (Nat.le_refl _) _ _ _ _ _ _
theorem read8_eq {k : Int} (hk : k = 5 ∨ k = 6) {t0 t1 t2 t3 t4 t5 t6 t7 : Tk} {M : List Tk} (h : agreeF (t0 :: t1 :: t2 :: t3 :: t4 :: t5 :: t6 :: t7 :: M) (shapeF k) = 8) : readQ k (t0 :: t1 :: t2 :: t3 :: t4 :: t5 :: t6 :: t7 :: M) = ((⟨k, ⟨t1.text, t3.text⟩, ⟨t5.text, t7.text⟩, []⟩ : Qy), 8, if 8 < M.length + 8 then 2 else if Qy.right (⟨k, ⟨t1.text, t3.text⟩, ⟨t5.text, t7.text⟩, []⟩ : Qy) = true then 0 else 3) := by
  obtain ⟨s, hw, hsh, hB, hW⟩ := shape8 hk
  have hm : (shapeF k).length = 8 := by rw [hsh]; rfl
  unfold readQ
  simp only []
  rw [h, hm, if_pos rfl, hW, hB]
  rfl
set_option maxHeartbeats 4000000 in
set_option maxRecDepth 100000 in
theorem read8 (k : Int) (hk : k = 5 ∨ k = 6) (A : Option Addr) (ca N : Nat) (t0 t1 t2 t3 t4 t5 t6 t7 : Tk) (M : List Tk) (w : World) (hN : M.length + 8 = N) (hL : N ≤ 1000) (hca : N ≤ ca) (hs : SmallTk (t0 :: t1 :: t2 :: t3 :: t4 :: t5 :: t6 :: t7 :: M)) (g1 : goodTk t1) (g2 : goodTk t2) (g3 : goodTk t3) (g5 : goodTk t5) (g6 : goodTk t6) (g7 : goodTk t7) (k1 : t1.kind = 1) (k2 : t2.kind = 3) (k3 : t3.kind = 2) (k5 : t5.kind = 1) (k6 : t6.kind = 3) (k7 : t7.kind = 2) (hA : TkAt w A (t0 :: t1 :: t2 :: t3 :: t4 :: t5 :: t6 :: t7 :: M)) (h : agreeF (t0 :: t1 :: t2 :: t3 :: t4 :: t5 :: t6 :: t7 :: M) (shapeF k) = 8) :
    Calls Tryz.prog 209 #[.int .i64 k, .slice A N ca] w (ReadPost (readQ k (t0 :: t1 :: t2 :: t3 :: t4 :: t5 :: t6 :: t7 :: M)) w) := by
  obtain ⟨s, hw, hsh, hB, hW⟩ := shape8 hk
  have hm : (shapeF k).length = 8 := by rw [hsh]; rfl
  have hq := read8_eq hk h
  rw [hN] at hq
  have hl : (t0 :: t1 :: t2 :: t3 :: t4 :: t5 :: t6 :: t7 :: M).length = N := by simp; omega
  have hag := fun (V : Option Addr) (cv : Nat) (vs : List Value) (w' : World) (hb : RowKit.Below w.heap.size w w') (hv : VRow w' V vs) (hf : FnsAt w' vs (shapeF k)) => Qry5.agree A ca (t0 :: t1 :: t2 :: t3 :: t4 :: t5 :: t6 :: t7 :: M) V cv vs (shapeF k) w' (by rw [hl]; exact hL) (by omega) (hA.below hb) hv hf
  rw [hl, hm, h] at hag
  have HG := Lib.hid hag
  have hsp := fun (w' : World) => Qry7.shape k ⟨#[]⟩ ⟨#[]⟩ ⟨#[]⟩ ⟨#[]⟩ none 0 0 w'
  have HS := Lib.hid hsp
  have hHB := fun (w' : World) => hasB k w'
  rw [hB] at hHB
  have HHB := Lib.hid hHB
  have hHW := fun (w' : World) => hasWho k w'
  rw [hW] at hHW
  have HHW := Lib.hid hHW
  have HA := Lib.hid hA
  obtain ⟨g, o, rfl, hg, hc⟩ := hA (by simp)
  have HRR := Lib.hid (fun (w' : World) (hb : RowKit.Below w.heap.size w w') => readGood (some ⟨g, o + 3, none⟩) (ca - 1) (N - 1) t1 t2 t3 (t4 :: t5 :: t6 :: t7 :: M) w' (by simp; omega) (by omega) (by omega) (small_drop hs 1) g1 g2 g3 k1 k2 k3 (tk_tail (HA.out.below hb)))
  have HR5 := Lib.hid (fun (w' : World) (hA' : TkAt w' (some ⟨g, o, none⟩) (t0 :: t1 :: t2 :: t3 :: t4 :: t5 :: t6 :: t7 :: M)) => readGood (some ⟨g, o + 15, none⟩) (ca - 5) (N - 5) t5 t6 t7 M w' (by omega) (by omega) (by omega) (small_drop hs 5) g5 g6 g7 k5 k6 k7 (tk_tail (tk_tail (tk_tail (tk_tail (tk_tail hA'))))))
  have HQ := Lib.hid hq
  have HFit : Hid (Qy.fit (⟨k, ⟨t1.text, t3.text⟩, ⟨t5.text, t7.text⟩, []⟩ : Qy)) := Lib.hid ⟨⟨Nat.le_trans ((hs t1 (by simp)).2) (by unfold maxLen; omega), Nat.le_trans ((hs t3 (by simp)).2) (by unfold maxLen; omega)⟩, ⟨Nat.le_trans ((hs t5 (by simp)).2) (by unfold maxLen; omega), Nat.le_trans ((hs t7 (by simp)).2) (by unfold maxLen; omega)⟩, Nat.zero_le _, fun s h => by simp at h⟩
  have hMl := Lib.hid hm
  clear hs hc hq hag hsp hHB hHW hB hW hw hsh h hl g1 g2 g3 k1 k2 k3 g5 g6 g7 k5 k6 k7 hk hA hm
  go_enter Tryz.func209, Tryz.ntmps209
  go_wp2_with fail
  refine (HS.out _).mono ?_
  rintro e w1 ⟨v1, vs1, rfl, hown, hfn, hb1⟩
  rw [hMl.out] at hown
  obtain ⟨V, cv, rfl, _, hvr⟩ := VRow.of_own hown
  have hbw : RowKit.Below w.heap.size w w1 := (((Below.refl _ _).alloc (Nat.le_refl _) _).alloc (by simp) _).trans (hb1.mono (by simp; omega))
  have HGG := Lib.hid (HG.out V cv vs1 w1 hbw hvr hfn)
  have HB1 := Lib.hid hb1
  clear hown hfn hvr hbw hb1
  go_wp2_with fail
  refine HGG.out.mono ?_
  rintro e w2 ⟨rfl, hg2⟩
  have hbx := boxes (k := k) HB1.out hg2
  clear hg2 HGG HG HS HB1
  have n1 : (1 : Int) ≤ N := by omega
  have n2 : (1 : Int) ≤ ca := by omega
  have n3 : ¬ ca = 1 := by omega
  have n4 : ¬ ca ≤ 1 := by omega
  have n5 : ¬ ca - 1 = 0 := by omega
  have p1 : (5 : Int) ≤ N := by omega
  have p2 : (5 : Int) ≤ ca := by omega
  have p3 : ¬ ca = 5 := by omega
  have p4 : ¬ ca ≤ 5 := by omega
  have p5 : ¬ ca - 5 = 0 := by omega
  have HRR2 := Lib.hid (HRR.out w2 hbx.below)
  have z2 := hbx.size
  clear HRR
  go_wp2_with fail
  refine HRR2.out.mono ?_
  rintro e w3 ⟨B3, cb3, rfl, _, _, hb3, _⟩
  have bR3 := blk_below hbx.res hb3 (by omega)
  have bQ3 := blk_below hbx.box hb3 (by omega)
  have z3 := hb3.size
  have HB3 := Lib.hid (hbx.below.trans (hb3.mono (by omega)))
  have hcQ := fun o => Lib.cell_of_heap bQ3 o
  have hfQ := blk_frozen bQ3
  have z3' : w.heap.size + 1 < w3.heap.size := by omega
  clear hb3 hbx HRR2 z2 z3
  have hA4 := Lib.hid (tk_set (tk_set (HA.out.below HB3.out) (b := w.heap.size + 1) (by intro g' o' e; injection e with e; injection e with e1 e2; omega) 1 (.string t1.text)) (b := w.heap.size + 1) (by intro g' o' e; injection e with e; injection e with e1 e2; omega) 2 (.string t3.text))
  have hw4 : RowKit.Below (w.heap.size + 1) w3 ((w3.setCell ⟨w.heap.size + 1, 1, none⟩ (.string t1.text)).setCell ⟨w.heap.size + 1, 2, none⟩ (.string t3.text)) := ((Below.refl _ _).setCell (by simp) _).setCell (by simp) _
  have bQ4 := Lib.hid (blk_set (blk_set bQ3 1 (.string t1.text)) 2 (.string t3.text))
  have bR4 := Lib.hid (blk_below bR3 hw4 (by omega))
  have HB4 := Lib.hid (HB3.out.trans (hw4.mono (by omega)))
  clear bR3 bQ3 hw4 HB3
  go_wp2_with fail
  refine (HHB.out _).mono ?_
  rintro e w4 ⟨rfl, m4, rfl⟩
  go_wp2_with fail
  refine (HR5.out _ ?tk).mono ?_
  case tk => exact hA4.out
  rintro e w6 ⟨B5, cb5, rfl, _, _, hb6, _⟩
  have hb7 := (below_drewN (Below.refl w3.heap.size ((w3.setCell ⟨w.heap.size + 1, 1, none⟩ (.string t1.text)).setCell ⟨w.heap.size + 1, 2, none⟩ (.string t3.text))) m4).trans (hb6.mono (by simp [set_size]))
  have bQ6 := blk_below bQ4.out hb7 (by omega)
  have bR6 := blk_below bR4.out hb7 (by omega)
  have z6 : w3.heap.size ≤ w6.heap.size := by have := hb7.size; simpa [set_size] using this
  have HB6 := Lib.hid (HB4.out.trans (hb7.mono (by omega)))
  have hcQ := fun o => Lib.cell_of_heap bQ6 o
  have hfQ := blk_frozen bQ6
  have hw7 : RowKit.Below (w.heap.size + 1) w6 ((w6.setCell ⟨w.heap.size + 1, 3, none⟩ (.string t5.text)).setCell ⟨w.heap.size + 1, 4, none⟩ (.string t7.text)) := ((Below.refl _ _).setCell (by simp) _).setCell (by simp) _
  have bQ7 := Lib.hid (blk_set (blk_set bQ6 3 (.string t5.text)) 4 (.string t7.text))
  have bR7 := Lib.hid (blk_below bR6 hw7 (by omega))
  have HB7 := Lib.hid (HB6.out.trans (hw7.mono (by omega)))
  clear hb6 hb7 hw7 bQ6 bR6 bQ4 bR4 HB4 HB6 hA4 HR5 HHB
  go_wp2_with fail
  refine (HHW.out _).mono ?_
  rintro e w7 ⟨rfl, m5, rfl⟩
  generalize hY : ((w6.setCell ⟨w.heap.size + 1, 3, none⟩ (.string t5.text)).setCell ⟨w.heap.size + 1, 4, none⟩ (.string t7.text)).drewN m5 = Y at ⊢
  have hYh : ((w6.setCell ⟨w.heap.size + 1, 3, none⟩ (.string t5.text)).setCell ⟨w.heap.size + 1, 4, none⟩ (.string t7.text)).heap = Y.heap := by rw [← hY]; rfl
  have bQ8 := bQ7.out
  have bR8 := bR7.out
  rw [hYh] at bQ8 bR8
  have HB8 : Hid (RowKit.Below w.heap.size w Y) := Lib.hid (by rw [← hY]; exact below_drewN HB7.out m5)
  have z8 : w.heap.size + 1 < Y.heap.size := by rw [← hY]; show _ < ((w6.setCell _ _).setCell _ _).heap.size; rw [set_size, set_size]; omega
  clear hY hYh hcQ hfQ bQ7 bR7 HB7 z6 z3' HHW HA
  have hcQ := fun o => Lib.cell_of_heap bQ8 o
  have hfQ := blk_frozen bQ8
  have hcR := fun o => Lib.cell_of_heap bR8 o
  have hfR := blk_frozen bR8
  have gf : ∀ (X : World) (i o : Nat) (v : Value), (X.setCell ⟨w.heap.size + 1, i, none⟩ v).cell? ⟨w.heap.size, o, none⟩ = X.cell? ⟨w.heap.size, o, none⟩ := fun X i o v => set_far X _ _ i o v (by omega)
  have hq := HQ.out
  have d0 : (8 : Int) ≤ N := by omega
  by_cases hlt : 8 < N
  · rw [if_pos hlt] at hq
    have HQ2 := Lib.hid hq
    have d1 : decide ((8 : Int) < N) = true := by simp; omega
    clear hq HQ bQ8 bR8
    go_wp2_with fail
    refine bodyPost_ret (v := .tuple #[.agg #[.int .i64 k, .string t1.text, .string t3.text, .string t5.text, .string t7.text, .slice none 0 0], .int .i64 8, .int .i64 2]) (by simp [results, Tryz.results209, go_sem, set6, gf, hcR]) rfl ⟨none, 0, by rw [HQ2.out]; rfl, (fun h => by rw [HQ2.out] at h; simp at h), (fun g o e => by cases e), ?_⟩
    exact below_set6 HB8.out (Nat.le_refl _) _ _ _ _ _ _
  · rw [if_neg hlt] at hq
    have HQ2 := Lib.hid hq
    have d1 : decide ((8 : Int) < N) = false := by simp; omega
    clear hq HQ
    have hR := fun (w' : World) => Qry2.right k t1.text t3.text t5.text t7.text none 0 [] w' HFit.out (fun h => by simp at h)
    have hz : (⟨k, ⟨t1.text, t3.text⟩, ⟨t5.text, t7.text⟩, []⟩ : Qy) = (⟨k, ⟨t1.text, t3.text⟩, ⟨t5.text, t7.text⟩, []⟩ : Qy) := rfl
    unfold Qry2.RightPost at hR
    rw [hz] at hR
    generalize Qy.right (⟨k, ⟨t1.text, t3.text⟩, ⟨t5.text, t7.text⟩, []⟩ : Qy) = rt at *
    have HR := Lib.hid hR
    clear hR hz
    go_wp2_with fail
    refine (HR.out _).mono ?_
    rintro e w8 ⟨rfl, hb9⟩
    have bQ9 := blk_below bQ8 hb9 (by omega)
    have bR9 := blk_below bR8 hb9 (by omega)
    have HB9 := Lib.hid (HB8.out.trans (hb9.mono (by omega)))
    clear hcQ hfQ hcR hfR hb9 bQ8 bR8
    have hcQ := fun o => Lib.cell_of_heap bQ9 o
    have hfQ := blk_frozen bQ9
    have hcR := fun o => Lib.cell_of_heap bR9 o
    have hfR := blk_frozen bR9
    clear bQ9 bR9
    cases rt
    · go_wp2_with fail
      refine bodyPost_ret (v := .tuple #[.agg #[.int .i64 k, .string t1.text, .string t3.text, .string t5.text, .string t7.text, .slice none 0 0], .int .i64 8, .int .i64 3]) (by simp [results, Tryz.results209, go_sem, set6, gf, hcR]) rfl ⟨none, 0, by rw [HQ2.out]; rfl, (fun h => by rw [HQ2.out] at h; simp at h), (fun g o e => by cases e), ?_⟩
      exact below_set6 HB9.out (Nat.le_refl _) _ _ _ _ _ _
    · go_wp2_with fail
      refine bodyPost_ret (v := .tuple #[.agg #[.int .i64 k, .string t1.text, .string t3.text, .string t5.text, .string t7.text, .slice none 0 0], .int .i64 8, .int .i64 0]) (by simp [results, Tryz.results209, go_sem, set6, gf, hcR]) rfl ⟨none, 0, by rw [HQ2.out]; rfl, (fun h => by rw [HQ2.out] at h; simp at h), (fun g o e => by cases e), ?_⟩
      exact below_set6 HB9.out (Nat.le_refl _) _ _ _ _ _ _
end Go.Proofs.YtkmpbkgmdfeicaaGreat.QryD
/- A line as a query, in the program, by contract. -/
namespace Go.Proofs.YtkmpbkgmdfeicaaGreat.QryE
set_option linter.unusedVariables false
set_option linter.unusedSimpArgs false
open Go.RowKit Go.Sort Go.Proofs Go.Proofs.YtkmpbkgmdfeicaaGreat.Plain Go.Proofs.YtkmpbkgmdfeicaaGreat.SynP Go.Proofs.YtkmpbkgmdfeicaaGreat.SynQ Go.Proofs.YtkmpbkgmdfeicaaGreat.TabP Go.Proofs.YtkmpbkgmdfeicaaGreat.Tab1 Go.Proofs.YtkmpbkgmdfeicaaGreat.Grown Go.Proofs.YtkmpbkgmdfeicaaGreat.Scan3 Go.Proofs.YtkmpbkgmdfeicaaGreat.SynA Go.Proofs.YtkmpbkgmdfeicaaGreat.SynC Go.Proofs.YtkmpbkgmdfeicaaGreat.SynR Go.Proofs.YtkmpbkgmdfeicaaGreat.SynS Go.Proofs.YtkmpbkgmdfeicaaGreat.SynU Go.Proofs.YtkmpbkgmdfeicaaGreat.SynV Go.Proofs.YtkmpbkgmdfeicaaGreat.SynX Go.Proofs.YtkmpbkgmdfeicaaGreat.QryP Go.Proofs.YtkmpbkgmdfeicaaGreat.Qry4 Go.Proofs.YtkmpbkgmdfeicaaGreat.Qry5 Go.Proofs.YtkmpbkgmdfeicaaGreat.Qry6 Go.Proofs.YtkmpbkgmdfeicaaGreat.Qry7 Go.Proofs.YtkmpbkgmdfeicaaGreat.QryA Go.Proofs.YtkmpbkgmdfeicaaGreat.QryB Go.Proofs.YtkmpbkgmdfeicaaGreat.QryC Go.Proofs.YtkmpbkgmdfeicaaGreat.QryD
set_option linter.unusedVariables false
set_option linter.unusedSimpArgs false
theorem kinds3 {k : Int} (h1 : 1 ≤ k) (h6 : k ≤ 6) : (k = 1 ∨ k = 2 ∨ k = 3) ∨ k = 4 ∨ (k = 5 ∨ k = 6) := by omega
theorem read (k : Int) (h1 : 1 ≤ k) (h6 : k ≤ 6) (A : Option Addr) (ca : Nat) (L : List Tk) (w : World) (hL : L.length ≤ 1000) (hca : L.length ≤ ca) (hs : SmallTk L) (hg : ∀ t ∈ L, goodTk t) (hA : TkAt w A L) :
    Calls Tryz.prog 209 #[.int .i64 k, .slice A L.length ca] w (ReadPost (readQ k L) w) := by
  by_cases h : agreeF L (shapeF k) = (shapeF k).length
  · have h0 := h
    rcases kinds3 h1 h6 with hk | rfl | hk
    · obtain ⟨s, hw, hsh, hB, hW⟩ := shape3 hk
      rw [hsh] at h
      obtain ⟨t0, L1, rfl, a0, h⟩ := agreeF_cons h
      obtain ⟨t1, L2, rfl, a1, h⟩ := agreeF_cons h
      obtain ⟨t2, L3, rfl, a2, h⟩ := agreeF_cons h
      obtain ⟨t3, L4, rfl, a3, h⟩ := agreeF_cons h
      obtain ⟨t4, L5, rfl, a4, h⟩ := agreeF_cons h
      exact read3 k hk A ca _ t0 t1 t2 t3 t4 L5 w (by simp) hL hca hs (hg t1 (by simp)) (hg t2 (by simp)) (hg t3 (by simp)) (fitsK a1) (fitsK a2) (fitsK a3) hA (by rw [h0, hsh]; rfl)
    · obtain ⟨hsh, hB, hW⟩ := shape4
      rw [hsh] at h
      obtain ⟨t0, L1, rfl, a0, h⟩ := agreeF_cons h
      obtain ⟨t1, L2, rfl, a1, h⟩ := agreeF_cons h
      obtain ⟨t2, L3, rfl, a2, h⟩ := agreeF_cons h
      obtain ⟨t3, L4, rfl, a3, h⟩ := agreeF_cons h
      obtain ⟨t4, L5, rfl, a4, h⟩ := agreeF_cons h
      obtain ⟨t5, L6, rfl, a5, h⟩ := agreeF_cons h
      exact read4 A ca _ t0 t1 t2 t3 t4 t5 L6 w (by simp) hL hca hs (hg t1 (by simp)) (hg t2 (by simp)) (hg t3 (by simp)) (fitsK a1) (fitsK a2) (fitsK a3) hA (by rw [h0, hsh]; rfl)
    · obtain ⟨s, hw, hsh, hB, hW⟩ := shape8 hk
      rw [hsh] at h
      obtain ⟨t0, L1, rfl, a0, h⟩ := agreeF_cons h
      obtain ⟨t1, L2, rfl, a1, h⟩ := agreeF_cons h
      obtain ⟨t2, L3, rfl, a2, h⟩ := agreeF_cons h
      obtain ⟨t3, L4, rfl, a3, h⟩ := agreeF_cons h
      obtain ⟨t4, L5, rfl, a4, h⟩ := agreeF_cons h
      obtain ⟨t5, L6, rfl, a5, h⟩ := agreeF_cons h
      obtain ⟨t6, L7, rfl, a6, h⟩ := agreeF_cons h
      obtain ⟨t7, L8, rfl, a7, h⟩ := agreeF_cons h
      exact read8 k hk A ca _ t0 t1 t2 t3 t4 t5 t6 t7 L8 w (by simp) hL hca hs (hg t1 (by simp)) (hg t2 (by simp)) (hg t3 (by simp)) (hg t5 (by simp)) (hg t6 (by simp)) (hg t7 (by simp)) (fitsK a1) (fitsK a2) (fitsK a3) (fitsK a5) (fitsK a6) (fitsK a7) hA (by rw [h0, hsh]; rfl)
  · exact read_no k A ca L w hL hA h
theorem readQ_le (k : Int) (L : List Tk) : (readQ k L).2.1 ≤ L.length := by
  have h1 := agreeF_le L (shapeF k)
  by_cases h : agreeF L (shapeF k) = (shapeF k).length
  · unfold readQ
    simp only []
    rw [if_pos h]
    have h2 := (readW_ok (L.drop (agreeF L (shapeF k))) [] (by simp) List.Pairwise.nil).2.2.1
    rw [List.length_drop] at h2
    show agreeF L (shapeF k) + _ ≤ _
    split
    · omega
    · simp; omega
  · rw [read_no_eq h]; exact h1.1
theorem place (A : Option Addr) (ca : Nat) (L : List Tk) (n : Nat) (w : World) (hL : L.length ≤ 100000) (hn : n ≤ L.length) (hA : TkAt w A L) (hs : SmallTk L) : Calls Tryz.prog 210 #[.slice A L.length ca, .int .i64 n] w fun e w' => e = .returned (.int .i64 (placeOf L n)) ∧ RowKit.Below w.heap.size w w' := by
  by_cases hlt : n < L.length
  · obtain ⟨g, o, rfl, hg, hc⟩ := hA (by omega)
    obtain ⟨_, _, c⟩ := hc n hlt
    have hp : placeOf L n = L[n].col := by unfold placeOf; rw [if_pos hlt, colAt_eq hlt]
    have HP := Lib.hid hp
    have d1 : decide ((n : Int) < L.length) = true := by simp; omega
    have p1 : (0 : Int) ≤ n := by omega
    have p2 : (n : Int) < L.length := by omega
    clear hc hA hs hp
    generalize L[n] = t at *
    go_enter Tryz.func210, Tryz.ntmps210
    go_wp2_with fail
    go_ret
    exact ⟨ret_int (by rw [HP.out]), Below.refl _ _⟩
  · obtain rfl : n = L.length := by omega
    by_cases h0 : 0 < L.length
    · obtain ⟨g, o, rfl, hg, hc⟩ := hA h0
      have hb : placeOf L L.length = L[L.length - 1].col + L[L.length - 1].text.size := by unfold placeOf; rw [if_neg (by omega), behindOf_last h0]
      have HB := Lib.hid hb
      obtain ⟨s1, s2⟩ := hs L[L.length - 1] (List.getElem_mem _)
      obtain ⟨a, b, c⟩ := hc (L.length - 1) (by omega)
      obtain ⟨m, hm⟩ : ∃ m, L.length = m + 1 := ⟨L.length - 1, by omega⟩
      clear hc hA hs hb
      generalize L[L.length - 1] = t at *
      have e1 : (L.length : Int) - 1 = m := by omega
      rw [show L.length - 1 = m by omega] at a b c
      have w1 : ((L.length : Int) == 0) = false := by
        rw [beq_eq_false_iff_ne]; omega
      have w2 : decide ((m : Int) < L.length) = true := decide_eq_true (by omega)
      have w3 : m < L.length := by omega
      have w4 : decide ((L.length : Int) < L.length) = false := by simp
      have HM := Lib.hid hm
      clear hm hlt
      go_enter Tryz.func210, Tryz.ntmps210
      go_wp2_with fail
      go_ret
      exact ⟨ret_int (by rw [HB.out]; simp), (Below.refl _ _).alloc (Nat.le_refl _) _⟩
    · have : L = [] := List.eq_nil_of_length_eq_zero (by omega)
      subst this
      go_enter Tryz.func210, Tryz.ntmps210
      go_wp2_with fail
      go_ret
      exact ⟨rfl, Below.refl _ _⟩
/-- What a line is asked as. -/
def askA : TkAns → Qy × Int × Int
  | .bad c e => (zeroQ, c, e)
  | .ok L => parseQ L
def AskPost (p : Qy × Int × Int) (w : World) (e : Ending) (w' : World) : Prop := ∃ A c, e = .returned (.tuple #[p.1.val A c, .int .i64 p.2.1, .int .i64 p.2.2]) ∧ SRow w' A p.1.who ∧ (∀ g o, A = some ⟨g, o, none⟩ → w.heap.size ≤ g) ∧ RowKit.Below w.heap.size w w'
set_option maxHeartbeats 1000000 in
set_option maxRecDepth 100000 in
theorem parse_bad (s : ByteArray) (w : World) (hs : s.size ≤ 1000000) (c : Nat) (er : Int) (h : ansOf s = .bad c er) : Calls Tryz.prog 153 #[.string s] w (AskPost (askA (.bad c er)) w) := by
  have HT := Lib.hid (tokens s · hs)
  rw [h] at HT
  have he := ans_bad h
  have e1 : (er != 0) = true := by rcases he with rfl | rfl <;> rfl
  have HZ := Lib.hid (show (askA (.bad c er)).1.val none 0 = .agg #[.int .i64 0, .string ⟨#[]⟩, .string ⟨#[]⟩, .string ⟨#[]⟩, .string ⟨#[]⟩, .slice none 0 0] from rfl)
  clear h he
  go_enter Tryz.func153, Tryz.ntmps153
  go_wp2_with fail
  refine (HT.out _).mono ?_
  rintro e w1 ⟨v, rfl, hown, hb1⟩
  have bR := blk_below (heap_alloc_new w zero6) hb1 (by simp)
  unfold zero6 at bR
  have hcR := fun o => Lib.cell_of_heap bR o
  have hfR := blk_frozen bR
  have hb0 := ((Below.refl w.heap.size w).alloc (Nat.le_refl _) zero6).trans (hb1.mono (by simp))
  have gc := set_cell
  simp only [okErr, okCol]
  clear hown bR hb1
  go_wp2_with fail
  refine bodyPost_ret (v := .tuple #[.agg #[.int .i64 0, .string ⟨#[]⟩, .string ⟨#[]⟩, .string ⟨#[]⟩, .string ⟨#[]⟩, .slice none 0 0], .int .i64 c, .int .i64 er]) (by simp [results, Tryz.results153, go_sem, set6, hcR]) rfl ⟨none, 0, by rw [HZ.out]; rfl, (fun h => by simp [askA, zeroQ] at h), (fun g o e => by cases e), ?_⟩
  exact (((((hb0.setCell (by simp) _).setCell (by simp) _).setCell (by simp) _).setCell (by simp) _).setCell (by simp) _).setCell (by simp) _
set_option maxHeartbeats 4000000 in
set_option maxRecDepth 100000 in
theorem parse_ok (s : ByteArray) (w : World) (hs : s.size ≤ 1000000) (L : List Tk) (h : ansOf s = .ok L) : Calls Tryz.prog 153 #[.string s] w (AskPost (parseQ L) w) := by
  have hgood := ans_good h
  have hlen := ans_len h
  have Hg := Lib.hid (fun t ht => (hgood t ht).1)
  have Hs : Hid (SmallTk L) := Lib.hid (fun t ht => ⟨by have := (hgood t ht).2.1; omega, by have := (hgood t ht).2.2; omega⟩)
  have HT := Lib.hid (tokens s · hs)
  rw [h] at HT
  clear h hgood
  go_enter Tryz.func153, Tryz.ntmps153
  go_wp2_with fail
  refine (HT.out _).mono ?_
  rintro e w1 ⟨v, rfl, hown, hb1⟩
  obtain ⟨A, ca, rfl, hca, hA⟩ := of_rowTk hown
  simp only [okErr, okCol, okToks] at hca hA ⊢
  have bR := blk_below (heap_alloc_new w zero6) hb1 (by simp)
  unfold zero6 at bR
  have hb0 := ((Below.refl w.heap.size w).alloc (Nat.le_refl _) zero6).trans (hb1.mono (by simp))
  have z1 := hb1.size
  simp only [World.size_alloc] at z1
  have BR := Lib.hid bR
  have HA := Lib.hid hA
  have HB0 := Lib.hid hb0
  clear hown bR hb1 hA hb0
  go_wp2_with fail
  go_loopw [7, 8, 9] (fun y f kd wr => ∃ (k fn : Nat) (yv : Int), k ≤ 6 ∧ fn ≤ L.length ∧ kd = .int .i64 ((k + 1 : Nat) : Int) ∧ f = .int .i64 fn ∧ y = .int .i64 yv ∧ Hid (parseQ L = goQ L (6 - k) k fn yv) ∧ RowKit.Below w1.heap.size w1 wr) (fun _ _ kd _ => 7 - (intOf kd).toNat)
  case atStart => exact ⟨0, 0, 0, by omega, by omega, rfl, rfl, rfl, Lib.hid rfl, Below.refl _ _⟩
  case round =>
    obtain ⟨k, fn, yv, hk, hfn, rfl, rfl, rfl, hrun, hbel⟩ := hrel
    by_cases hlt : k < 6
    · have z2 := hbel.size
      have HRd := Lib.hid (read ((k + 1 : Nat) : Int) (by omega) (by omega) A ca L wr (by omega) hca Hs.out Hg.out (HA.out.below hbel))
      obtain ⟨m, hm⟩ : ∃ m, 6 - k = m + 1 := ⟨5 - k, by omega⟩
      have hm5 : m = 6 - (k + 1) := by omega
      have hrun' := hrun.out
      rw [hm] at hrun'
      have hrl := readQ_le ((k + 1 : Nat) : Int) L
      have G1 := Lib.hid (fun h => hrun'.trans (goQ_hit (y := yv) h))
      have G2 := Lib.hid (fun h h' => hrun'.trans (goQ_far (y := yv) h h'))
      have G3 := Lib.hid (fun h h' => hrun'.trans (goQ_near (y := yv) h h'))
      rw [hm5] at G2 G3
      generalize readQ ((k + 1 : Nat) : Int) L = r at *
      obtain ⟨q, n, er⟩ := r
      obtain ⟨qk, ⟨ao, an⟩, ⟨bo, bn⟩, T⟩ := q
      simp only at hrl
      clear hm hm5 hrun' hrun
      go_wp2_with fail
      refine HRd.out.mono ?_
      rintro e w2 ⟨Aq, cq, rfl, hrow, hfr, hb2⟩
      have hbw2 := hbel.trans (hb2.mono z2)
      have HRow := Lib.hid hrow
      have HFr : Hid (∀ g o, Aq = some ⟨g, o, none⟩ → w1.heap.size ≤ g) := Lib.hid (fun g o e => by have := hfr g o e; omega)
      have HBW := Lib.hid hbw2
      unfold Qy.val
      simp only at HRow ⊢
      clear hrow hfr hb2 hbel hbw2
      by_cases he : er = 0
      · subst he
        have hfin := Lib.hid (G1.out rfl)
        have z3 := HBW.out.size
        have z4 : w.heap.size < w2.heap.size := by omega
        have bR0 := blk_below BR.out HBW.out (by omega)
        have hcR := fun o => Lib.cell_of_heap bR0 o
        have hfR := blk_frozen bR0
        have hbf := Lib.hid (HB0.out.trans (HBW.out.mono (by omega : w.heap.size ≤ w1.heap.size)))
        have gal : ∀ (X : World) (o : Obj) (i : Nat), w.heap.size < X.heap.size → (X.alloc o).cell? ⟨w.heap.size, i, none⟩ = X.cell? ⟨w.heap.size, i, none⟩ := fun X o i h => World.cell?_alloc_past _ _ _ h
        clear bR0 G1 G2 G3
        go_wp2_with fail
        refine bodyPost_ret (v := .tuple #[.agg #[.int .i64 qk, .string ao, .string an, .string bo, .string bn, .slice Aq T.length cq], .int .i64 0, .int .i64 0]) (by simp [results, Tryz.results153, go_sem, set6, hcR, z4, set_size, gal]) rfl ⟨Aq, cq, by rw [hfin.out]; rfl, ?_, (fun g o e => by have := HFr.out g o e; omega), ?_⟩
        · rw [hfin.out]
          exact (srow_set6 HRow.out (fun g o e => by have := HFr.out g o e; omega) _ _ _ _ _ _).keep ((Below.refl _ _).alloc (Nat.le_refl _) _)
        · exact (below_set6 hbf.out (Nat.le_refl _) _ _ _ _ _ _).alloc (by rw [set_size, set_size, set_size, set_size, set_size, set_size]; omega) _
      · have d0 : (er == 0) = false := by simpa using he
        by_cases hf : fn ≤ n
        · have d1 : decide ((fn : Int) ≤ n) = true := by simp; omega
          have hnext := Lib.hid (G2.out he hf)
          clear G1 G2 G3 he
          go_wp2_with fail
          go_roundw
          case rel => exact ⟨k + 1, n, er, by omega, by omega, by go_num, rfl, rfl, hnext, HBW.out.alloc (by have := HBW.out.size; omega) _⟩
          case measure => simp [intOf]; omega
        · have d1 : decide ((fn : Int) ≤ n) = false := by simp; omega
          have hnext := Lib.hid (G3.out he hf)
          clear G1 G2 G3 he
          go_wp2_with fail
          go_roundw
          case rel => exact ⟨k + 1, fn, yv, by omega, by omega, by go_num, rfl, rfl, hnext, HBW.out.alloc (by have := HBW.out.size; omega) _⟩
          case measure => simp [intOf]; omega
    · obtain rfl : k = 6 := by omega
      have HP := Lib.hid (place A ca L fn wr (by omega) hfn (HA.out.below hbel) Hs.out)
      have hfin : Hid (parseQ L = (zeroQ, (placeOf L fn : Int), yv)) := Lib.hid hrun.out
      go_wp2_with fail
      refine HP.out.mono ?_
      rintro e w3 ⟨rfl, hb3⟩
      have hbw3 := hbel.trans (hb3.mono hbel.size)
      have bR := blk_below BR.out hbw3 (by omega)
      have hcR := fun o => Lib.cell_of_heap bR o
      have hfR := blk_frozen bR
      have hbf := Lib.hid (HB0.out.trans (hbw3.mono (by omega : w.heap.size ≤ w1.heap.size)))
      have gc := set_cell
      clear bR hbw3 hb3 hbel hrun
      go_wp2_with fail
      refine bodyPost_ret (v := .tuple #[.agg #[.int .i64 0, .string ⟨#[]⟩, .string ⟨#[]⟩, .string ⟨#[]⟩, .string ⟨#[]⟩, .slice none 0 0], .int .i64 (placeOf L fn), .int .i64 yv]) (by simp [results, Tryz.results153, go_sem, set6, hcR]) rfl ⟨none, 0, by rw [hfin.out]; rfl, (fun h => by rw [hfin.out] at h; simp [zeroQ] at h), (fun g o e => by cases e), ?_⟩
      exact (((((hbf.out.setCell (by simp) _).setCell (by simp) _).setCell (by simp) _).setCell (by simp) _).setCell (by simp) _).setCell (by simp) _
theorem parse (s : ByteArray) (w : World) (hs : s.size ≤ 1000000) : Calls Tryz.prog 153 #[.string s] w (AskPost (askA (ansOf s)) w) := by
  cases h : ansOf s with
  | bad c e => exact parse_bad s w hs c e h
  | ok L => exact parse_ok s w hs L h
end Go.Proofs.YtkmpbkgmdfeicaaGreat.QryE
/- Plain mathematics: the lines of queries. -/
namespace Go.Proofs.YtkmpbkgmdfeicaaGreat.QryL
set_option linter.unusedVariables false
set_option linter.unusedSimpArgs false
open Go.RowKit Go.Sort Go.Proofs.YtkmpbkgmdfeicaaGreat.Plain Go.Proofs.YtkmpbkgmdfeicaaGreat.SynP Go.Proofs.YtkmpbkgmdfeicaaGreat.TabP Go.Proofs.YtkmpbkgmdfeicaaGreat.SynW Go.Proofs.YtkmpbkgmdfeicaaGreat.QryP
def bs (x : ByteArray) : Str := x.data.toList
/-- Texts, each with a blank ahead. -/
def tailW (T : List Str) : Str := (T.map fun s => 32 :: s).flatten
/-- A query's line, if it may be. -/
def lineL (q : Qy) : Str := bs (leadT q.kind) ++ tailW [bs (textR q.a)] ++ (32 :: bs (wordsT q.kind)) ++ (if hasBk q.kind = true then tailW [bs (textR q.b)] else []) ++ tailW q.who
def lineQ (q : Qy) : ByteArray := if q.right = true then ⟨(lineL q).toArray⟩ else noText
theorem tailW_nil : tailW [] = [] := rfl
theorem tailW_app (S T : List Str) : tailW (S ++ T) = tailW S ++ tailW T := by unfold tailW; rw [List.map_append, List.flatten_append]
theorem tailW_cons (s : Str) (T : List Str) : tailW (s :: T) = 32 :: s ++ tailW T := rfl
theorem join_tail (x : Str) : ∀ T : List Str, Lib.join (x :: T) [32] = x ++ tailW T
  | [] => by rw [Lib.join_one, tailW_nil, List.append_nil]
  | y :: T => by
    have ih := join_tail y T
    have e : Lib.join (x :: y :: T) [32] = x ++ ([32] ++ Lib.join (y :: T) [32]) := by
      unfold Lib.join; rw [List.intercalate_cons_cons]; simp
    rw [e, ih, tailW_cons]; simp
/-- The words of a kind that is one, each with a blank ahead. -/
theorem words_tail {k : Int} (h : k = 1 ∨ k = 2 ∨ k = 3 ∨ k = 4 ∨ k = 5 ∨ k = 6) : tailW (wordsL k) = 32 :: bs (wordsT k) := by
  rcases h with rfl | rfl | rfl | rfl | rfl | rfl <;> rfl
theorem right_kind {q : Qy} (h : q.right = true) : q.kind = 1 ∨ q.kind = 2 ∨ q.kind = 3 ∨ q.kind = 4 ∨ q.kind = 5 ∨ q.kind = 6 := by
  rcases kinds6 q.kind with h1 | h1 | h1 | h1 | h1 | h1 | h1
  · exact .inl h1
  · exact .inr (.inl h1)
  · exact .inr (.inr (.inl h1))
  · exact .inr (.inr (.inr (.inl h1)))
  · exact .inr (.inr (.inr (.inr (.inl h1))))
  · exact .inr (.inr (.inr (.inr (.inr h1))))
  · unfold Qy.right at h
    rw [if_neg (by omega), if_neg (by omega), if_neg (by omega), if_neg (by omega)] at h
    simp at h
/-- What a query that may be is made of. -/
theorem right_parts {q : Qy} (h : q.right = true) : q.a.ok = true ∧ ((hasWk q.kind = true ∧ hasBk q.kind = false ∧ whoOk q.who = true ∧ q.b = zeroR ∧ (q.kind ≠ 3 → 0 < q.who.length)) ∨ (q.kind = 4 ∧ q.who = [] ∧ q.b = zeroR) ∨ (hasBk q.kind = true ∧ hasWk q.kind = false ∧ q.who = [] ∧ q.b.ok = true)) := by
  obtain ⟨k, a, b, T⟩ := q
  have hk := right_kind h
  unfold Qy.right at h
  rw [Bool.and_eq_true] at h
  refine ⟨h.1, ?_⟩
  have h2 := h.2
  simp only at hk h2 ⊢
  rcases hk with rfl | rfl | rfl | rfl | rfl | rfl
  · simp at h2
    exact .inl ⟨rfl, rfl, h2.1.2, h2.2, fun _ => h2.1.1⟩
  · simp at h2
    exact .inl ⟨rfl, rfl, h2.1.2, h2.2, fun _ => h2.1.1⟩
  · simp at h2
    exact .inl ⟨rfl, rfl, h2.1, h2.2, fun h => absurd rfl h⟩
  · simp at h2
    exact .inr (.inl ⟨rfl, h2.1, h2.2⟩)
  · simp at h2
    exact .inr (.inr ⟨rfl, rfl, h2.1, h2.2⟩)
  · simp at h2
    exact .inr (.inr ⟨rfl, rfl, h2.1, h2.2⟩)
theorem who_parts {T : List Str} (h : whoOk T = true) : T.length ≤ 12 ∧ (∀ s ∈ T, prinS s = true) ∧ T.Pairwise (· < ·) := by
  unfold whoOk at h
  simp only [Bool.and_eq_true, decide_eq_true_eq, List.all_eq_true] at h
  exact ⟨h.1.1, h.1.2, tab_id.1 h.2⟩
theorem prin_len {s : Str} (h : prinS s = true) : s.length ≤ 8 := by
  obtain ⟨c, l, e, _, _, _, h8, _⟩ := named_cons (w := ⟨s.toArray⟩) (f := capB) (by simpa [prinS] using h)
  have : (⟨s.toArray⟩ : ByteArray).size = s.length := by simp [ByteArray.size]
  omega
theorem tailW_len {T : List Str} {m : Nat} (h : ∀ s ∈ T, s.length ≤ m) : (tailW T).length ≤ T.length * (m + 1) := by
  induction T with
  | nil => simp [tailW]
  | cons s T ih =>
    rw [tailW_cons]
    have h1 := h s (List.mem_cons_self ..)
    have h2 := ih fun s hs => h s (List.mem_cons_of_mem _ hs)
    simp only [List.length_append, List.length_cons]
    rw [Nat.add_mul]; omega
end Go.Proofs.YtkmpbkgmdfeicaaGreat.QryL
