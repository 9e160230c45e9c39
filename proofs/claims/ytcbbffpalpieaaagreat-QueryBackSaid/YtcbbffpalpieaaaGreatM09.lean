/- What fits the places of the lines of a kind, by contract. -/
import Derived.Test.YtcbbffpalpieaaaGreatM08
import Derived.Deep.RegionHeld3
namespace Go.Proofs.YtcbbffpalpieaaaGreat.Qry7
set_option linter.unusedVariables false
set_option linter.unusedSimpArgs false
open Go.RowKit Go.Sort Go.Proofs Go.Proofs.YtcbbffpalpieaaaGreat.Plain Go.Proofs.YtcbbffpalpieaaaGreat.SynP Go.Proofs.YtcbbffpalpieaaaGreat.TabP Go.Proofs.YtcbbffpalpieaaaGreat.Tab1 Go.Proofs.YtcbbffpalpieaaaGreat.Grown Go.Proofs.YtcbbffpalpieaaaGreat.SynA Go.Proofs.YtcbbffpalpieaaaGreat.SynC Go.Proofs.YtcbbffpalpieaaaGreat.QryP Go.Proofs.YtcbbffpalpieaaaGreat.Qry4 Go.Proofs.YtcbbffpalpieaaaGreat.Qry5 Go.Proofs.YtcbbffpalpieaaaGreat.QryG Go.Proofs.YtcbbffpalpieaaaGreat.Qry6
set_option linter.unusedVariables false
set_option linter.unusedSimpArgs false
def leadS (k : Int) : Str := if univ k then [97, 108, 119, 97, 121, 115] else [99, 97, 110]
theorem leadT_S (k : Int) : leadT k = ⟨(leadS k).toArray⟩ := by
  unfold leadT leadS; split <;> rfl
def roleF : List Ft := [.kind 1, .kind 3, .kind 2]
def shapeF (k : Int) : List Ft := [.word (leadS k)] ++ roleF ++ (wordsL k).map .word ++ (if hasBk k then roleF else [])
theorem iat_new (w : World) (l : List Int) (t : TypeId) : IAt (w.alloc (.cells (l.map (Value.int .i64)).toArray t)) (some ⟨w.heap.size, 0, none⟩) l := fun _ =>
  ⟨w.heap.size, 0, rfl, by simp, fun k hk => by
    rw [Lib.cell_of_heap (heap_alloc_new w _), Nat.zero_add]
    simp [hk]⟩
theorem keepQ {W w1 w2 : World} {n : Nat} {f : Nat → Option Value} (h : RowKit.Below W.heap.size W w1 ∧ (∀ o, w1.cell? ⟨n, o, none⟩ = f o)) (hn : n < W.heap.size) (hb : RowKit.Below w1.heap.size w1 w2) : RowKit.Below W.heap.size W w2 ∧ (∀ o, w2.cell? ⟨n, o, none⟩ = f o) := by
  have hs := h.1.size
  exact ⟨h.1.trans (hb.mono hs), fun o => (hb.cell (p := ⟨n, o, none⟩) (by show n < _; omega)).trans (h.2 o)⟩
theorem keepA {W w1 : World} {n : Nat} {f : Nat → Option Value} {o' : Obj} (h : RowKit.Below W.heap.size W w1 ∧ (∀ o, w1.cell? ⟨n, o, none⟩ = f o)) (hn : n < W.heap.size) : RowKit.Below W.heap.size W (w1.alloc o') ∧ (∀ o, (w1.alloc o').cell? ⟨n, o, none⟩ = f o) :=
  keepQ h hn ((Below.refl _ _).alloc (Nat.le_refl _) _)
theorem srow_one (X : World) (s : Str) : SRow (X.alloc (.cells #[.string ⟨s.toArray⟩] 9)) (some ⟨X.heap.size, 0, none⟩) [s] := srow_new X [s] _
theorem wordsOne (s : Str) (X : World) (n : Nat) (hn : n = X.heap.size) : Calls Tryz.prog 50 #[.slice (some ⟨n, 0, none⟩) 1 1] (X.alloc (.cells #[.string ⟨s.toArray⟩] 9)) (FitsPost [.word s] (X.alloc (.cells #[.string ⟨s.toArray⟩] 9))) := by
  subst hn
  exact words _ 1 [s] _ (by simp) (srow_one X s)
/-- Three rows of functions behind one another. -/
theorem concat3 (X : World) (n : Nat) (hn : n = X.heap.size) (A0 A1 A3 : Option Addr) (c0 c1 c3 : Nat) (m0 m1 m3 : Nat) (v0 v1 v3 : List Value) (F0 F1 F3 : List Ft) (h0 : FnsAt X v0 F0) (h1 : FnsAt X v1 F1) (h3 : FnsAt X v3 F3) (e0 : F0.length = m0) (e1 : F1.length = m1) (e3 : F3.length = m3) (b0 : m0 ≤ 1000) (b1 : m1 ≤ 1000) (b3 : m3 ≤ 1000) (r0 : VRow X A0 v0) (r1 : VRow X A1 v1) (r3 : VRow X A3 v3) :
    Calls Tryz.prog 87 #[.slice (some ⟨n, 0, none⟩) 3 3] (X.alloc (.cells #[.slice A0 m0 c0, .slice A1 m1 c1, .slice A3 m3 c3] 63)) fun e w' => ∃ v, e = .returned v ∧ w'.ownsRow (X.alloc (.cells #[.slice A0 m0 c0, .slice A1 m1 c1, .slice A3 m3 c3] 63)).heap.size 92 1 v (F0 ++ F1 ++ F3).length (v0 ++ v1 ++ v3) ∧ FnsAt w' (v0 ++ v1 ++ v3) (F0 ++ F1 ++ F3) ∧ Below (X.alloc (.cells #[.slice A0 m0 c0, .slice A1 m1 c1, .slice A3 m3 c3] 63)).heap.size (X.alloc (.cells #[.slice A0 m0 c0, .slice A1 m1 c1, .slice A3 m3 c3] 63)) w' := by
  subst hn
  have one : ∀ v F, FnsAt X v F → ∀ u ∈ v, u.oneCell' = true := fun v F h u hu => by
    obtain ⟨j, hj, rfl⟩ := List.getElem_of_mem hu
    have hj2 : j < F.length := by rw [← h.1]; exact hj
    have q := h.2 j v[j] F[j] (List.getElem?_eq_getElem hj) (List.getElem?_eq_getElem hj2)
    generalize F[j] = f at q
    cases f with
    | word s => obtain ⟨b, _, e⟩ := q; rw [e]; rfl
    | kind s => obtain ⟨b, _, e⟩ := q; rw [e]; rfl
  have l0 : v0.length = m0 := h0.1.trans e0
  have l1 : v1.length = m1 := h1.1.trans e1
  have l3 : v3.length = m3 := h3.1.trans e3
  have hq := concatFit X.heap.size 3 [⟨A0, c0, v0⟩, ⟨A1, c1, v1⟩, ⟨A3, c3, v3⟩] (X.alloc (.cells #[.slice A0 m0 c0, .slice A1 m1 c1, .slice A3 m3 c3] 63)) (by simp) (by simp only [List.mem_cons, List.not_mem_nil, or_false]; rintro r (rfl | rfl | rfl) <;> (dsimp only; omega)) (by simp) (fun j hj => by
    rw [Lib.cell_of_heap (heap_alloc_new X _)]
    match j, hj with
    | 0, _ => show some (Value.slice A0 m0 c0) = some (.slice A0 v0.length c0); rw [l0]
    | 1, _ => show some (Value.slice A1 m1 c1) = some (.slice A1 v1.length c1); rw [l1]
    | 2, _ => show some (Value.slice A3 m3 c3) = some (.slice A3 v3.length c3); rw [l3]) (by
    simp only [List.mem_cons, List.not_mem_nil, or_false]
    rintro r (rfl | rfl | rfl)
    · exact QryG.VRow.alloc r0 _
    · exact QryG.VRow.alloc r1 _
    · exact QryG.VRow.alloc r3 _) (by
    simp only [List.mem_cons, List.not_mem_nil, or_false]
    rintro r (rfl | rfl | rfl)
    · exact one _ _ h0
    · exact one _ _ h1
    · exact one _ _ h3)
  refine hq.mono ?_
  rintro e w' ⟨v, rfl, hown, hb⟩
  have hfl : flatTo [⟨A0, c0, v0⟩, ⟨A1, c1, v1⟩, ⟨A3, c3, v3⟩] ([⟨A0, c0, v0⟩, ⟨A1, c1, v1⟩, ⟨A3, c3, v3⟩] : List RowV).length = v0 ++ v1 ++ v3 := by simp [flatTo]
  rw [hfl] at hown
  have hfn : FnsAt X (v0 ++ v1 ++ v3) (F0 ++ F1 ++ F3) := (h0.app h1).app h3
  refine ⟨v, rfl, ?_, ?_, hb⟩
  · rw [← hfn.1]; exact hown
  · exact hfn.keep (keep_below (((Below.refl X.heap.size X).alloc (Nat.le_refl _) _).trans (hb.mono (by simp))))
theorem own_more {w : World} {B B' : Nat} {e : TypeId} {size n : Nat} {v : Value} {xs : List Value} (h : w.ownsRow B e size v n xs) (hB : B' ≤ B) : w.ownsRow B' e size v n xs := by
  refine ⟨h.1, ?_⟩
  rcases h.2 with hn | ⟨g, cap, cur, rfl, hb, rest⟩
  · exact .inl hn
  · exact .inr ⟨g, cap, cur, rfl, by omega, rest⟩
theorem fns_one {X : World} {v : List Value} {F : List Ft} (h : FnsAt X v F) : ∀ u ∈ v, u.oneCell' = true := fun u hu => by
  obtain ⟨j, hj, rfl⟩ := List.getElem_of_mem hu
  have hj2 : j < F.length := by rw [← h.1]; exact hj
  have q := h.2 j v[j] F[j] (List.getElem?_eq_getElem hj) (List.getElem?_eq_getElem hj2)
  generalize F[j] = f at q
  cases f with
  | word s => obtain ⟨b, _, e⟩ := q; rw [e]; rfl
  | kind s => obtain ⟨b, _, e⟩ := q; rw [e]; rfl
theorem chain {w1 wz wa wb wc : World} {o : Obj} (hz : RowKit.Below w1.drew.heap.size w1.drew wz) (h1 : RowKit.Below (wz.alloc o).heap.size (wz.alloc o) wa) (h2 : RowKit.Below wa.heap.size wa wb) (h3 : RowKit.Below wb.heap.size wb wc) : RowKit.Below w1.heap.size w1 wc ∧ RowKit.Below wa.heap.size wa wc := by
  have a : RowKit.Below wa.heap.size wa wc := h2.trans (h3.mono h2.size)
  have b : RowKit.Below w1.heap.size w1 wz := ((Below.refl w1.heap.size w1).drew).trans hz
  have c : RowKit.Below w1.heap.size w1 wa := (b.alloc b.size o).trans (h1.mono (by have := b.size; simp; omega))
  exact ⟨c.trans (a.mono c.size), a⟩
set_option maxHeartbeats 2000000 in
set_option maxRecDepth 100000 in
theorem shape (k : Int) (ao an bo bn : ByteArray) (A : Option Addr) (n c : Nat) (w : World) : Calls Tryz.prog 66 #[.agg #[.int .i64 k, .string ao, .string an, .string bo, .string bn, .slice A n c]] w (FitsPost (shapeF k) w) := by
  obtain ⟨i0, hi0, hz0, hz1, hz2⟩ := info_parts infoFit
  have hk1 := iat_new (w.alloc (.cells #[.int .i64 k, .string ao, .string an, .string bo, .string bn, .slice A n c] 26)) [1, 3, 2] 3
  rw [World.size_alloc] at hk1
  have HK := Lib.hid (kinds _ 3 [1, 3, 2] _ (by simp) hk1)
  have HL := Lib.hid (lead k)
  have HW := Lib.hid (words_ k ao an bo bn A n c)
  have HB := Lib.hid (hasB k)
  clear hk1
  go_enter Tryz.func66, Tryz.ntmps66
  go_wp2_with fail
  refine HK.out.mono ?_
  rintro e w1 ⟨v1, vs1, rfl, hown1, hfn1, hb1⟩
  obtain ⟨A1, c1, rfl, hle1, hr1⟩ := VRow.of_own hown1
  have hbox : ∀ o, w1.cell? ⟨w.heap.size, o, none⟩ = (#[.int .i64 k, .string ao, .string an, .string bo, .string bn, .slice A n c] : Array Value)[o]? := fun o => (hb1.cell (p := ⟨w.heap.size, o, none⟩) (by simp; omega)).trans ((World.cell?_alloc_past _ _ _ (by simp)).trans (Lib.cell_of_heap (heap_alloc_new w _) o))
  have c0 := hbox 0
  have c1' := hbox 1
  have c2 := hbox 2
  have c3 := hbox 3
  have c4 := hbox 4
  have c5 := hbox 5
  simp only [List.getElem?_toArray, List.getElem?_cons_zero, List.getElem?_cons_succ] at c0 c1' c2 c3 c4 c5
  have hbw := Lib.hid ((((Below.refl w.heap.size w).alloc (Nat.le_refl _) (.cells #[.int .i64 k, .string ao, .string an, .string bo, .string bn, .slice A n c] 26)).alloc (by simp) (.cells #[.int .i64 1, .int .i64 3, .int .i64 2] 3)).trans (hb1.mono (by simp; omega)))
  have hz1' := hb1.size
  simp only [World.size_alloc] at hz1'
  have hzz : w.heap.size < w1.heap.size := by omega
  have HO1 := Lib.hid hown1
  have HF1 := Lib.hid hfn1
  have HR1 := Lib.hid hr1
  have HBX := Lib.hid hbox
  clear hbox hown1 hfn1 hr1 hb1
  go_wp2_with fail
  have HL' : Hid (∀ w', Calls Tryz.prog 32 #[.int .i64 k] w' fun e w'' => e = .returned (.string ⟨(leadS k).toArray⟩) ∧ RowKit.Below w'.heap.size w' w'') := Lib.hid (fun w' => (HL.out w').mono fun e w'' ⟨he, m, hm⟩ => ⟨by rw [he, leadT_S], by rw [hm]; exact below_drewN (Below.refl _ _) _⟩)
  have hst : RowKit.Below w1.heap.size w1 w1.drew ∧ (∀ o, w1.drew.cell? ⟨w.heap.size, o, none⟩ = (#[.int .i64 k, .string ao, .string an, .string bo, .string bn, .slice A n c] : Array Value)[o]?) := ⟨(Below.refl _ _).drew, HBX.out⟩
  have hwl : (wordsL k).length ≤ 1000 := by unfold wordsL; (repeat' split) <;> decide
  have HWL := Lib.hid hwl
  clear c0 c1' c2 c3 c4 c5 HL hwl
  go_region_held3 (fun w' => RowKit.Below w1.heap.size w1 w' ∧ (∀ o, w'.cell? ⟨w.heap.size, o, none⟩ = (#[.int .i64 k, .string ao, .string an, .string bo, .string bn, .slice A n c] : Array Value)[o]?))
    (first | with_reducible exact hst | with_reducible assumption | exact keepQ (by with_reducible assumption) hzz (by with_reducible assumption) | exact keepA (by with_reducible assumption) hzz)
    (first | (go_at_call 32; refine (HL'.out _).mono ?_; rintro e wz ⟨rfl, hgbz⟩) | (go_at_call 50; (with_reducible refine (wordsOne (leadS k) _ _ rfl).mono ?_); rintro e wa ⟨v0, vs0, rfl, hown0, hfn0, hgb1⟩; obtain ⟨A0, c0, rfl, _, hr0⟩ := VRow.of_own hown0; clear hown0) | (go_at_call 8; refine (HW.out _).mono ?_; rintro e wb ⟨Ab, cb, rfl, hrb, hg⟩; have hgb2 := hg.below; clear hg) | (go_at_call 50; refine (words Ab cb (wordsL k) _ HWL.out hrb).mono ?_; rintro e wc ⟨v3, vs3, rfl, hown3, hfn3, hgb3⟩; obtain ⟨A3, c3, rfl, _, hr3⟩ := VRow.of_own hown3; clear hown3) | (go_at_call 87; obtain ⟨q1, q2⟩ := chain hgbz hgb1 hgb2 hgb3; refine (concat3 wc _ rfl A0 A1 A3 c0 c1 c3 1 3 (wordsL k).length vs0 vs1 vs3 [.word (leadS k)] roleF ((wordsL k).map .word) (hfn0.keep (keep_below q2)) (HF1.out.keep (keep_below q1)) hfn3 rfl rfl (List.length_map ..) (by decide) (by decide) HWL.out (hr0.below q2) (HR1.out.below q1) hr3).mono ?_; rintro e wd ⟨v4, rfl, hown4, hfn4, hgb4⟩))
  rename_i hHeld
  have hbd := Lib.hid (hbw.out.trans (hHeld.1.mono (by omega)))
  have hsd := Lib.hid hHeld.1
  have c0 := hHeld.2 0
  simp only [List.getElem?_toArray, List.getElem?_cons_zero] at c0
  have hownD := Lib.hid (own_more hown4 (show w.heap.size ≤ _ by
    have a1 := q1.size
    simp; omega))
  have hfnD := Lib.hid hfn4
  have hr1D := Lib.hid (HR1.out.below hsd.out)
  have hf1D := Lib.hid (HF1.out.keep (keep_below hsd.out))
  have hzd : w.heap.size ≤ wd.heap.size := hbd.out.size
  clear hown4 hfn4 hHeld hgbz hgb1 hgb2 hgb3 hgb4 q1 q2 hrb hr0 hr3 hfn0 hfn3 hst HBX HR1 HF1 HO1 HW
  cases hbk : hasBk k
  · rw [hbk] at HB
    have hsh : Hid (shapeF k = [.word (leadS k)] ++ roleF ++ (wordsL k).map .word) := Lib.hid (by unfold shapeF; rw [hbk]; simp)
    clear hbk
    go_wp2_with fail
    refine (HB.out _).mono ?_
    rintro e we ⟨rfl, m, rfl⟩
    go_wp2_with fail
    go_ret
    refine ⟨v4, vs0 ++ vs1 ++ vs3, rfl, ?_, ?_, below_drewN hbd.out _⟩
    · rw [hsh.out]; exact hownD.out
    · rw [hsh.out]; exact hfnD.out
  · rw [hbk] at HB
    have hsh : Hid (shapeF k = ([.word (leadS k)] ++ roleF ++ (wordsL k).map .word) ++ roleF) := Lib.hid (by unfold shapeF; rw [hbk]; simp)
    have hl1 := hf1D.out.1
    have hone := Lib.hid (fns_one hf1D.out)
    have hlen : ([Ft.word (leadS k)] ++ roleF ++ (wordsL k).map Ft.word).length ≤ 1004 := by
      have := HWL.out
      simp [roleF]; omega
    have hvc := Lib.hid (vrow_cells hr1D.out)
    have hvn : Hid (A1 = none → False) := Lib.hid (fun h => by have q := hr1D.out; rw [h] at q; have q2 := vrow_none q; rw [hl1] at q2; exact absurd q2 (by decide))
    clear hbk
    go_wp2_with fail
    refine (HB.out _).mono ?_
    rintro e we ⟨rfl, m, rfl⟩
    go_wp2_with (at_builtin; refine wpList_append_from _ rfl _ _ 63 rfl w.heap.size 92 i0 .nilFunc 1 8 Tryz.underlying63 hi0 hz0 hz1 hz2 rfl (by decide) v4 _ (vs0 ++ vs1 ++ vs3) rfl hownD.out A1 3 c1 vs1 rfl (by rw [hl1]; rfl) (fun h => (hvn.out h).elim) hvc.out hone.out (by unfold maxLen; omega) (by omega) hzd ?_)
    intro v5 w5 hown5 hgrow5
    have hownE : (wd.drewN m).ownsRow w.heap.size 92 1 v4 _ (vs0 ++ vs1 ++ vs3) := hownD.out
    have hfn5 := Lib.hid (((hfnD.out.app hf1D.out).keep (w' := wd.drewN m) (fun b c e h _ => h)).keep (keep_grown hownE hgrow5))
    have hb5 := (below_drewN hbd.out m).grown hgrow5 hzd (fun q hq => (hownD.out.lt q hq).1)
    go_wp2_with fail
    go_ret
    refine ⟨v5, vs0 ++ vs1 ++ vs3 ++ vs1, rfl, ?_, ?_, hb5⟩
    · have e : ([Ft.word (leadS k)] ++ roleF ++ (wordsL k).map Ft.word ++ roleF).length = roleF.length + (wordsL k).length + 1 + 3 := by simp [roleF]; omega
      rw [hsh.out, e]; simp only [List.append_assoc]; exact hown5
    · rw [hsh.out]; exact hfn5.out
end Go.Proofs.YtcbbffpalpieaaaGreat.Qry7
