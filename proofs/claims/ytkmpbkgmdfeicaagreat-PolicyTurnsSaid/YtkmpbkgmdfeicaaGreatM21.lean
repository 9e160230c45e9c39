/- All principals, and all names, that a policy names: policy.Prins and Names, by contract. -/
import Derived.Test.YtkmpbkgmdfeicaaGreatM19
import Derived.Test.YtkmpbkgmdfeicaaGreatM12
import Derived.Test.YtkmpbkgmdfeicaaGreatM16
import Derived.Test.YtkmpbkgmdfeicaaGreatM10
import Derived.Test.YtkmpbkgmdfeicaaGreatM20
namespace Go.Proofs.YtkmpbkgmdfeicaaGreat.PolH
set_option linter.unusedVariables false
set_option linter.unusedSimpArgs false
open Go.RowKit Go.Sort Go.Lib Go.Proofs Go.Proofs.YtkmpbkgmdfeicaaGreat.Plain Go.Proofs.YtkmpbkgmdfeicaaGreat.SynP Go.Proofs.YtkmpbkgmdfeicaaGreat.TabP Go.Proofs.YtkmpbkgmdfeicaaGreat.Tab1 Go.Proofs.YtkmpbkgmdfeicaaGreat.Tab5 Go.Proofs.YtkmpbkgmdfeicaaGreat.Grown Go.Proofs.YtkmpbkgmdfeicaaGreat.SynC Go.Proofs.YtkmpbkgmdfeicaaGreat.SynJ Go.Proofs.YtkmpbkgmdfeicaaGreat.QryP Go.Proofs.YtkmpbkgmdfeicaaGreat.PolA Go.Proofs.YtkmpbkgmdfeicaaGreat.PolE Go.Proofs.YtkmpbkgmdfeicaaGreat.PolG
set_option linter.unusedVariables false
set_option linter.unusedSimpArgs false
def bt (x : ByteArray) : Str := x.data.toList
theorem enc_bt (x : ByteArray) : encStr (bt x) = .string x := by
  show Value.string ⟨(bt x).toArray⟩ = _
  unfold bt; rfl
theorem tab_all {w : World} {B : Nat} {p : Value} {T : List Str} (h : TabAt w B p T) (hT : T.length ≤ 1000000) : Calls Tryz.prog 62 #[p] w (RowPost T w) := by
  obtain ⟨t, v, rfl, _, hh, hown⟩ := h
  obtain ⟨A, c, rfl, _, hr⟩ := SRow.of_own hown
  exact Tab7.all t A T c w (by rw [Lib.cell_of_heap hh]; rfl) hT hr
theorem srow_none_len {w : World} {T : List Str} (h : SRow w none T) : T.length = 0 := by
  rcases Nat.eq_zero_or_pos T.length with h0 | h0
  · exact h0
  · obtain ⟨_, _, e, _⟩ := h h0; cases e
theorem srow_cells {w : World} {A : Option Addr} {T : List Str} (h : SRow w A T) : ∀ ad, A = some ad → ∀ j u, (T.map encStr)[j]? = some u → w.cell? (ad.add j) = some u := by
  rintro ad rfl j u hu
  have hj : j < T.length := by
    rcases Nat.lt_or_ge j T.length with h | h
    · exact h
    · rw [List.getElem?_eq_none (by simpa using h)] at hu; cases hu
  obtain ⟨g, o, e, _, hc⟩ := h (by omega)
  injection e with e
  subst e
  rw [add_off, hc j hj, ← hu, List.getElem?_map, List.getElem?_eq_getElem hj]; rfl
theorem enc_one (T : List Str) : ∀ u ∈ T.map encStr, u.oneCell' = true := by
  intro u hu
  obtain ⟨x, _, rfl⟩ := List.mem_map.1 hu
  rfl
theorem one_src {X : World} {n : Nat} (hn : X.heap.size = n) (x : ByteArray) (t : TypeId) : ∀ ad, some (⟨n, 0, none⟩ : Addr) = some ad → ∀ j u, [Value.string x][j]? = some u → (X.alloc (.cells #[.string x] t)).cell? (ad.add j) = some u := by
  subst hn
  rintro ad e j u hu
  injection e with e
  subst e
  rw [add_off, Nat.zero_add, Lib.cell_of_heap (heap_alloc_new X _)]
  match j, hu with
  | 0, hu => exact hu
def ownersR (R : List Rl) (k : Nat) : List Str := (R.take k).map fun r => bt r.owner
def namesR (R : List Rl) (k : Nat) : List Str := (R.take k).map fun r => bt r.name
theorem ownersR_succ {R : List Rl} {k : Nat} (h : k < R.length) : ownersR R (k + 1) = ownersR R k ++ [bt R[k].owner] := by
  unfold ownersR; rw [List.take_succ_eq_append_getElem h, List.map_append, List.map_singleton]
theorem namesR_succ {R : List Rl} {k : Nat} (h : k < R.length) : namesR R (k + 1) = namesR R k ++ [bt R[k].name] := by
  unfold namesR; rw [List.take_succ_eq_append_getElem h, List.map_append, List.map_singleton]
theorem ownersR_len (R : List Rl) (k : Nat) : (ownersR R k).length ≤ R.length := by unfold ownersR; simp; omega
theorem namesR_len (R : List Rl) (k : Nat) : (namesR R k).length ≤ R.length := by unfold namesR; simp; omega
def whosS (L : List St) (k : Nat) : List Str := ((L.take k).filter fun s => decide (s.kind = 1)).map fun s => bt s.who
def viasS (L : List St) (k : Nat) : List Str := ((L.take k).filter fun s => decide (s.kind = 3)).map fun s => bt s.via
theorem whosS_yes {L : List St} {k : Nat} (h : k < L.length) (hk : L[k].kind = 1) : whosS L (k + 1) = whosS L k ++ [bt L[k].who] := by
  unfold whosS
  have e : List.filter (fun s : St => decide (s.kind = 1)) [L[k]] = [L[k]] := by simp [hk]
  rw [List.take_succ_eq_append_getElem h, List.filter_append, e, List.map_append, List.map_singleton]
theorem whosS_no {L : List St} {k : Nat} (h : k < L.length) (hk : ¬ L[k].kind = 1) : whosS L (k + 1) = whosS L k := by
  unfold whosS
  have e : List.filter (fun s : St => decide (s.kind = 1)) [L[k]] = [] := by simp [hk]
  rw [List.take_succ_eq_append_getElem h, List.filter_append, e, List.append_nil]
theorem viasS_yes {L : List St} {k : Nat} (h : k < L.length) (hk : L[k].kind = 3) : viasS L (k + 1) = viasS L k ++ [bt L[k].via] := by
  unfold viasS
  have e : List.filter (fun s : St => decide (s.kind = 3)) [L[k]] = [L[k]] := by simp [hk]
  rw [List.take_succ_eq_append_getElem h, List.filter_append, e, List.map_append, List.map_singleton]
theorem viasS_no {L : List St} {k : Nat} (h : k < L.length) (hk : ¬ L[k].kind = 3) : viasS L (k + 1) = viasS L k := by
  unfold viasS
  have e : List.filter (fun s : St => decide (s.kind = 3)) [L[k]] = [] := by simp [hk]
  rw [List.take_succ_eq_append_getElem h, List.filter_append, e, List.append_nil]
theorem whosS_len (L : List St) (k : Nat) : (whosS L k).length ≤ L.length := by
  unfold whosS
  have := List.length_filter_le (fun s : St => decide (s.kind = 1)) (L.take k)
  simp at this ⊢; omega
theorem viasS_len (L : List St) (k : Nat) : (viasS L k).length ≤ L.length := by
  unfold viasS
  have := List.length_filter_le (fun s : St => decide (s.kind = 3)) (L.take k)
  simp at this ⊢; omega
def whosA (L : List Qy) (k : Nat) : List Str := ((L.take k).map Qy.who).flatten
theorem whosA_succ {L : List Qy} {k : Nat} (h : k < L.length) : whosA L (k + 1) = whosA L k ++ L[k].who := by
  unfold whosA
  rw [List.take_succ_eq_append_getElem h, List.map_append, List.flatten_append, List.map_singleton, List.flatten_singleton]
theorem whosA_len {L : List Qy} (hq : ∀ q ∈ L, q.who.length ≤ 100) : ∀ k, (whosA L k).length ≤ k * 100
  | 0 => by simp [whosA]
  | k + 1 => by
    have ih := whosA_len hq k
    rcases Nat.lt_or_ge k L.length with h | h
    · have := hq L[k] (List.getElem_mem _)
      rw [whosA_succ h, List.length_append]; omega
    · have : whosA L (k + 1) = whosA L k := by unfold whosA; rw [List.take_of_length_le (by omega), List.take_of_length_le (by omega)]
      rw [this]; omega
theorem rolesP_len {p : Py} (hf : p.fit) : (rolesP p).length ≤ 7000 := by
  have a := rolesS_len p.stmts p.stmts.length
  have b := rolesA_len p.asks p.asks.length
  have := hf.n1
  have := hf.n2
  have := hf.n3
  have := hf.n4
  unfold rolesP; simp; omega
def prinsT (p : Py) : List Str := ownersR (rolesP p) (rolesP p).length ++ whosS p.stmts p.stmts.length ++ whosA p.asks p.asks.length
def namesT (p : Py) : List Str := namesR (rolesP p) (rolesP p).length ++ viasS p.stmts p.stmts.length
set_option maxHeartbeats 2000000 in
set_option maxRecDepth 100000 in
theorem prins (p : Py) (A1 A2 A3 A4 : Option Addr) (c1 c2 c3 c4 : Nat) (w : World) (hf : p.fit) (hp : PG w A1 A2 A3 A4 p) : Calls Tryz.prog 20 #[p.val A1 A2 A3 A4 c1 c2 c3 c4] w (RowPost (tab (prinsT p)) w) := by
  obtain ⟨i0, hi, hz0, hz1, hz2⟩ := info_parts Tab3.infoStr
  have HRO := Lib.hid (fun w' h => PolG.roles p A1 A2 A3 A4 c1 c2 c3 c4 w' hf h)
  have hRl := rolesP_len hf
  have hal := whosA_len hf.f5
  have n1 := hf.n1
  have n4 := hf.n4
  have HP := Lib.hid hp
  obtain ⟨TT, hTT⟩ : ∃ TT, prinsT p = TT := ⟨_, rfl⟩
  rw [hTT]
  unfold prinsT at hTT
  have HT := Lib.hid hTT
  clear hTT
  generalize hRR : rolesP p = R at *
  unfold RolesP at HRO
  rw [hRR] at HRO
  obtain ⟨S, G, H, Q⟩ := p
  simp only at n1 n4 HT hal
  have HAL := Lib.hid hal
  clear hp hf hRR hal
  unfold Py.val at *
  simp only at HRO ⊢
  go_enter Tryz.func20, Tryz.ntmps20
  go_wp2_with fail
  refine (HRO.out _ (HP.out.below ((Below.refl _ _).alloc (Nat.le_refl _) _))).mono ?_
  rintro e w1 ⟨A, cA, rfl, hrat, hb1⟩
  have hcP1 : ∀ o, w1.cell? ⟨w.heap.size, o, none⟩ = (#[.slice A1 S.length c1, .slice A2 G.length c2, .slice A3 H.length c3, .slice A4 Q.length c4] : Array Value)[o]? := fun o => by rw [hb1.cell (by simp), Lib.cell_of_heap (heap_alloc_new w _)]
  have z1 : w.heap.size + 1 ≤ w1.heap.size := by have := hb1.size; simpa using this
  have hb01 : Below w.heap.size w w1 := ((Below.refl w.heap.size w).alloc (Nat.le_refl _) _).trans (hb1.mono (by simp))
  have HPW := Lib.hid (fun (wr : World) (h : Below w1.heap.size w1 wr) => (HP.out.below (hb01.trans (h.mono (by omega)))))
  have HCP := Lib.hid (fun (wr : World) (h : Below w1.heap.size w1 wr) (o : Nat) => (h.cell (p := ⟨w.heap.size, o, none⟩) (by show w.heap.size < _; omega)).trans (hcP1 o))
  have HRT := Lib.hid (RG.of_rat hrat)
  have HB0 := Lib.hid hb01
  clear hrat hb1 hb01 hcP1 HP
  go_wp2_with fail
  go_loopw [3, 13] (fun l i wr => ∃ (k : Nat) (v : Value), k ≤ R.length ∧ l = v ∧ i = .int .i64 k ∧ Hid (wr.ownsRow w1.heap.size 9 1 v (ownersR R k).length ((ownersR R k).map encStr)) ∧ Below w1.heap.size w1 wr) (fun _ i _ => R.length - (intOf i).toNat)
  case atStart => exact ⟨0, _, by omega, rfl, rfl, Lib.hid (World.ownsRow_nil _ _ _ _), Below.refl _ _⟩
  case round =>
    obtain ⟨k, v1, hk, rfl, rfl, hown, hbel⟩ := hrel
    have zr := hbel.size
    have hlk := ownersR_len R k
    by_cases hlt : k < R.length
    · have d1 : decide ((k : Int) < R.length) = true := by simp; omega
      have p1 : (0 : Int) ≤ k := by omega
      have p2 : (k : Int) < R.length := by omega
      obtain ⟨g, o, e1, hg, hc⟩ := (HRT.out.below hbel) (by omega)
      obtain rfl := e1
      obtain ⟨a0, a1⟩ := hc k hlt
      have Hs := Lib.hid (ownersR_succ hlt)
      have hb2 : Below wr.heap.size wr ((wr.alloc (.cells #[.string R[k].owner, .string R[k].name] 44)).alloc (.cells #[.string R[k].owner] 9)) := ((Below.refl _ wr).alloc (Nat.le_refl _) _).alloc (by simp) _
      have hownW := own_at hown.out hb2
      have hbelW := hbel.trans (hb2.mono zr)
      have zW : w1.heap.size ≤ ((wr.alloc (.cells #[.string R[k].owner, .string R[k].name] 44)).alloc (.cells #[.string R[k].owner] 9)).heap.size := by simp; omega
      have H1 := Lib.hid (one_src (X := wr.alloc (.cells #[.string R[k].owner, .string R[k].name] 44)) (n := wr.heap.size + 1) (by simp) R[k].owner 9)
      clear hc hb2 hown hbel
      go_wp2_with (at_builtin; refine wpList_append_from _ rfl _ _ 33 rfl w1.heap.size 9 i0 (.string ⟨#[]⟩) 1 16 Tryz.underlying33 hi hz0 hz1 hz2 rfl (by decide) _ _ _ rfl hownW (some ⟨wr.heap.size + 1, 0, none⟩) 1 1 [Value.string R[k].owner] rfl rfl (fun h => by cases h) H1.out (fun u hu => by simp at hu; subst hu; rfl) (by unfold maxLen; first | omega | (simp only [List.length_append]; omega)) (by first | omega | (simp only [List.length_append]; omega)) zW ?_)
      intro v2 w3 hown3 hgrow
      have hbel3 := hbelW.grown hgrow (by simpa using zW) (fun k hk => (hownW.lt k hk).1)
      have HO4 : Hid (w3.ownsRow w1.heap.size 9 1 v2 (ownersR R (k + 1)).length ((ownersR R (k + 1)).map encStr)) := Lib.hid (by
        rw [Hs.out, List.length_append, List.map_append]; simpa [enc_bt] using hown3)
      clear hownW hbelW hgrow hown3
      go_wp2_with fail
      go_roundw
      case rel => exact ⟨k + 1, v2, by omega, rfl, by go_num, HO4, hbel3⟩
      case measure => simp [intOf]; omega
    · have d1 : decide ((k : Int) < R.length) = false := by simp; omega
      have hkR : k = R.length := by omega
      subst hkR
      have hcP := HCP.out _ hbel
      obtain ⟨T0, hT0⟩ : ∃ T0, ownersR R R.length = T0 := ⟨_, rfl⟩
      rw [hT0] at hown HT hlk
      have HO := hown
      have HB := Lib.hid hbel
      clear hT0 hown hbel
      go_wp2_with fail
      clear hcP
      go_loopw [3, 26] (fun l i wr => ∃ (k : Nat) (v : Value), k ≤ S.length ∧ l = v ∧ i = .int .i64 k ∧ Hid (wr.ownsRow w1.heap.size 9 1 v (T0 ++ whosS S k).length ((T0 ++ whosS S k).map encStr)) ∧ Below w1.heap.size w1 wr) (fun _ i _ => S.length - (intOf i).toNat)
      case atStart => exact ⟨0, _, by omega, rfl, rfl, by simpa [whosS] using HO, HB.out⟩
      case round =>
        obtain ⟨k, v1, hk, rfl, rfl, hown, hbel⟩ := hrel
        have zr := hbel.size
        have hls := whosS_len S k
        by_cases hlt : k < S.length
        · have d1 : decide ((k : Int) < S.length) = true := by simp; omega
          have p1 : (0 : Int) ≤ k := by omega
          have p2 : (k : Int) < S.length := by omega
          obtain ⟨g, o, e1, hg, hc⟩ := (HPW.out _ hbel).s (by show 0 < S.length; omega)
          obtain rfl := e1
          obtain ⟨a0, a1, a2, a3, a4, a5, a6, a7, a8⟩ := hc k hlt
          by_cases hkd : S[k].kind = 1
          · have Hs := Lib.hid (whosS_yes hlt hkd)
            have d2 : (S[k].kind == 1) = true := by simp [hkd]
            have hb2 : Below wr.heap.size wr ((wr.alloc (.cells #[.int .i64 S[k].kind, .string S[k].head.owner, .string S[k].head.name, .string S[k].who, .string S[k].a.owner, .string S[k].a.name, .string S[k].b.owner, .string S[k].b.name, .string S[k].via] 46)).alloc (.cells #[.string S[k].who] 9)) := ((Below.refl _ wr).alloc (Nat.le_refl _) _).alloc (by simp) _
            have hownW := own_at hown.out hb2
            have hbelW := hbel.trans (hb2.mono zr)
            have zW : w1.heap.size ≤ ((wr.alloc (.cells #[.int .i64 S[k].kind, .string S[k].head.owner, .string S[k].head.name, .string S[k].who, .string S[k].a.owner, .string S[k].a.name, .string S[k].b.owner, .string S[k].b.name, .string S[k].via] 46)).alloc (.cells #[.string S[k].who] 9)).heap.size := by simp; omega
            have H1 := Lib.hid (one_src (X := wr.alloc (.cells #[.int .i64 S[k].kind, .string S[k].head.owner, .string S[k].head.name, .string S[k].who, .string S[k].a.owner, .string S[k].a.name, .string S[k].b.owner, .string S[k].b.name, .string S[k].via] 46)) (n := wr.heap.size + 1) (by simp) S[k].who 9)
            clear hc hb2 hown hbel hkd
            go_wp2_with (at_builtin; refine wpList_append_from _ rfl _ _ 33 rfl w1.heap.size 9 i0 (.string ⟨#[]⟩) 1 16 Tryz.underlying33 hi hz0 hz1 hz2 rfl (by decide) _ _ _ rfl hownW (some ⟨wr.heap.size + 1, 0, none⟩) 1 1 [Value.string S[k].who] rfl rfl (fun h => by cases h) H1.out (fun u hu => by simp at hu; subst hu; rfl) (by unfold maxLen; first | omega | (simp only [List.length_append]; omega)) (by first | omega | (simp only [List.length_append]; omega)) zW ?_)
            intro v2 w3 hown3 hgrow
            have hbel3 := hbelW.grown hgrow (by simpa using zW) (fun k hk => (hownW.lt k hk).1)
            have HO4 : Hid (w3.ownsRow w1.heap.size 9 1 v2 (T0 ++ whosS S (k + 1)).length ((T0 ++ whosS S (k + 1)).map encStr)) := Lib.hid (by
              rw [Hs.out, ← List.append_assoc, List.length_append, List.length_append, List.map_append]; simpa [enc_bt] using hown3)
            clear hownW hbelW hgrow hown3
            go_wp2_with fail
            go_roundw
            case rel => exact ⟨k + 1, v2, by omega, rfl, by go_num, HO4, hbel3⟩
            case measure => simp [intOf]; omega
          · have HO4 := hown
            rw [← whosS_no hlt hkd] at HO4
            have d2 : (S[k].kind == 1) = false := by simpa using hkd
            have HOB := Lib.hid (own_at HO4.out ((Below.refl _ wr).alloc (Nat.le_refl _) (.cells #[.int .i64 S[k].kind, .string S[k].head.owner, .string S[k].head.name, .string S[k].who, .string S[k].a.owner, .string S[k].a.name, .string S[k].b.owner, .string S[k].b.name, .string S[k].via] 46)))
            have hbelW := hbel.alloc zr (.cells #[.int .i64 S[k].kind, .string S[k].head.owner, .string S[k].head.name, .string S[k].who, .string S[k].a.owner, .string S[k].a.name, .string S[k].b.owner, .string S[k].b.name, .string S[k].via] 46)
            clear hc hown hbel hkd HO4
            go_wp2_with fail
            go_roundw
            case rel => exact ⟨k + 1, _, by omega, rfl, by go_num, HOB, hbelW⟩
            case measure => simp [intOf]; omega
        · have d1 : decide ((k : Int) < S.length) = false := by simp; omega
          have hkS : k = S.length := by omega
          subst hkS
          have hcP := HCP.out _ hbel
          have hl1 : (T0 ++ whosS S S.length).length ≤ 8000 := by simp; omega
          obtain ⟨T1, hT1⟩ : ∃ T1, T0 ++ whosS S S.length = T1 := ⟨_, rfl⟩
          rw [hT1] at hown HT hl1
          have HO1 := hown
          have HB1 := Lib.hid hbel
          clear hT1 hown hbel HO HB
          go_wp2_with fail
          clear hcP
          go_loopw [3, 42] (fun l i wr => ∃ (k : Nat) (v : Value), k ≤ Q.length ∧ l = v ∧ i = .int .i64 k ∧ Hid (wr.ownsRow w1.heap.size 9 1 v (T1 ++ whosA Q k).length ((T1 ++ whosA Q k).map encStr)) ∧ Below w1.heap.size w1 wr) (fun _ i _ => Q.length - (intOf i).toNat)
          case atStart => exact ⟨0, _, by omega, rfl, rfl, by simpa [whosA] using HO1, HB1.out⟩
          case round =>
            obtain ⟨k, v1, hk, rfl, rfl, hown, hbel⟩ := hrel
            have zr := hbel.size
            have hlq := HAL.out k
            by_cases hlt : k < Q.length
            · have d1 : decide ((k : Int) < Q.length) = true := by simp; omega
              have p1 : (0 : Int) ≤ k := by omega
              have p2 : (k : Int) < Q.length := by omega
              have hlq2 := HAL.out (k + 1)
              rw [whosA_succ hlt, List.length_append] at hlq2
              obtain ⟨g, o, e1, hg, hc⟩ := (HPW.out _ hbel).q (by show 0 < Q.length; omega)
              obtain rfl := e1
              obtain ⟨B, cB, a0, a1, a2, a3, a4, a5, hrow⟩ := hc k hlt
              have HR : Hid (∀ w', SRow w' B Q[k].who → Calls Tryz.prog 60 #[.agg #[.int .i64 Q[k].kind, .string Q[k].a.owner, .string Q[k].a.name, .string Q[k].b.owner, .string Q[k].b.name, .slice B Q[k].who.length cB]] w' (QryO.PrinsPost Q[k].who w')) := Lib.hid (fun w' hr => QryO.prins Q[k] B cB w' (by omega) hr)
              have Hs := Lib.hid (whosA_succ hlt)
              have HRow := Lib.hid (hrow.keep ((Below.refl _ wr).alloc (Nat.le_refl _) (.cells #[.int .i64 Q[k].kind, .string Q[k].a.owner, .string Q[k].a.name, .string Q[k].b.owner, .string Q[k].b.name, .slice B Q[k].who.length cB] 49)))
              clear hc hrow
              go_wp2_with fail
              refine (HR.out _ HRow.out).mono ?_
              rintro e w2 ⟨A5, c5, rfl, hr, hg2⟩
              have hb2 : Below wr.heap.size wr w2 := ((Below.refl _ wr).alloc (Nat.le_refl _) _).trans (hg2.mono (by simp))
              have hownW := own_at hown.out hb2
              have hbelW := hbel.trans (hb2.mono zr)
              have zW : w1.heap.size ≤ w2.heap.size := by have := hb2.size; omega
              have H0 := Lib.hid (fun h : A5 = none => by rw [h] at hr; exact srow_none_len hr)
              have H1 := Lib.hid (srow_cells hr)
              clear hr hg2 hb2 hown hbel a0 a1 a2 a3 a4 a5
              go_wp2_with (at_builtin; refine wpList_append_from _ rfl _ _ 33 rfl w1.heap.size 9 i0 (.string ⟨#[]⟩) 1 16 Tryz.underlying33 hi hz0 hz1 hz2 rfl (by decide) _ _ _ rfl hownW A5 Q[k].who.length c5 (Q[k].who.map encStr) rfl (by simp) H0.out H1.out (enc_one _) (by unfold maxLen; first | omega | (simp only [List.length_append]; omega)) (by first | omega | (simp only [List.length_append]; omega)) zW ?_)
              intro v2 w3 hown3 hgrow
              have hbel3 := hbelW.grown hgrow (by simpa using zW) (fun k hk => (hownW.lt k hk).1)
              have HO4 : Hid (w3.ownsRow w1.heap.size 9 1 v2 (T1 ++ whosA Q (k + 1)).length ((T1 ++ whosA Q (k + 1)).map encStr)) := Lib.hid (by
                rw [Hs.out, ← List.append_assoc, List.length_append, List.length_append, List.map_append, List.map_append]; simpa using hown3)
              clear hownW hbelW hgrow hown3
              go_wp2_with fail
              go_roundw
              case rel => exact ⟨k + 1, v2, by omega, rfl, by go_num, HO4, hbel3⟩
              case measure => simp [intOf]; omega
            · have d1 : decide ((k : Int) < Q.length) = false := by simp; omega
              have hkQ : k = Q.length := by omega
              subst hkQ
              obtain ⟨A', c', rfl, _, hrow⟩ := SRow.of_own hown.out
              have HN := Lib.hid (Tab1.new A' c' (T1 ++ whosA Q Q.length) wr (by simp; omega) hrow)
              have HTT : Hid (T1 ++ whosA Q Q.length = TT) := HT
              have hlen : (T1 ++ whosA Q Q.length).length ≤ 1000000 := by simp; omega
              have HB2 := Lib.hid (HB0.out.trans (hbel.mono (by omega : w.heap.size ≤ w1.heap.size)))
              generalize T1 ++ whosA Q Q.length = TL at *
              obtain rfl := HTT.out
              have zq := HB2.out.size
              clear hrow hown hbel HTT
              go_wp2_with fail
              refine HN.out.mono ?_
              rintro e w4 ⟨q, rfl, htab, hb4⟩
              have HA := Lib.hid (tab_all htab (Nat.le_trans (tab_len_le _) hlen))
              clear htab
              go_wp2_with fail
              refine HA.out.mono ?_
              rintro e w5 ⟨v5, rfl, hown5, hb5⟩
              have hfin : w5.ownsRow w.heap.size 9 1 v5 (tab TL).length ((tab TL).map encStr) := SynH.own_base hown5 (by have := hb4.size; omega)
              have hbf := HB2.out.trans ((hb4.trans (hb5.mono hb4.size)).mono zq)
              clear hown5 hb4 hb5
              go_wp2_with fail
              go_ret
              exact ⟨v5, rfl, hfin, hbf⟩
set_option maxHeartbeats 2000000 in
set_option maxRecDepth 100000 in
theorem names (p : Py) (A1 A2 A3 A4 : Option Addr) (c1 c2 c3 c4 : Nat) (w : World) (hf : p.fit) (hp : PG w A1 A2 A3 A4 p) : Calls Tryz.prog 22 #[p.val A1 A2 A3 A4 c1 c2 c3 c4] w (RowPost (tab (namesT p)) w) := by
  obtain ⟨i0, hi, hz0, hz1, hz2⟩ := info_parts Tab3.infoStr
  have HRO := Lib.hid (fun w' h => PolG.roles p A1 A2 A3 A4 c1 c2 c3 c4 w' hf h)
  have hRl := rolesP_len hf
  have hal := whosA_len hf.f5
  have n1 := hf.n1
  have n4 := hf.n4
  have HP := Lib.hid hp
  obtain ⟨TT, hTT⟩ : ∃ TT, namesT p = TT := ⟨_, rfl⟩
  rw [hTT]
  unfold namesT at hTT
  have HT := Lib.hid hTT
  clear hTT
  generalize hRR : rolesP p = R at *
  unfold RolesP at HRO
  rw [hRR] at HRO
  obtain ⟨S, G, H, Q⟩ := p
  simp only at n1 n4 HT hal
  have HAL := Lib.hid hal
  clear hp hf hRR hal
  unfold Py.val at *
  simp only at HRO ⊢
  go_enter Tryz.func22, Tryz.ntmps22
  go_wp2_with fail
  refine (HRO.out _ (HP.out.below ((Below.refl _ _).alloc (Nat.le_refl _) _))).mono ?_
  rintro e w1 ⟨A, cA, rfl, hrat, hb1⟩
  have hcP1 : ∀ o, w1.cell? ⟨w.heap.size, o, none⟩ = (#[.slice A1 S.length c1, .slice A2 G.length c2, .slice A3 H.length c3, .slice A4 Q.length c4] : Array Value)[o]? := fun o => by rw [hb1.cell (by simp), Lib.cell_of_heap (heap_alloc_new w _)]
  have z1 : w.heap.size + 1 ≤ w1.heap.size := by have := hb1.size; simpa using this
  have hb01 : Below w.heap.size w w1 := ((Below.refl w.heap.size w).alloc (Nat.le_refl _) _).trans (hb1.mono (by simp))
  have HPW := Lib.hid (fun (wr : World) (h : Below w1.heap.size w1 wr) => (HP.out.below (hb01.trans (h.mono (by omega)))))
  have HCP := Lib.hid (fun (wr : World) (h : Below w1.heap.size w1 wr) (o : Nat) => (h.cell (p := ⟨w.heap.size, o, none⟩) (by show w.heap.size < _; omega)).trans (hcP1 o))
  have HRT := Lib.hid (RG.of_rat hrat)
  have HB0 := Lib.hid hb01
  clear hrat hb1 hb01 hcP1 HP
  go_wp2_with fail
  go_loopw [3, 11] (fun l i wr => ∃ (k : Nat) (v : Value), k ≤ R.length ∧ l = v ∧ i = .int .i64 k ∧ Hid (wr.ownsRow w1.heap.size 9 1 v (namesR R k).length ((namesR R k).map encStr)) ∧ Below w1.heap.size w1 wr) (fun _ i _ => R.length - (intOf i).toNat)
  case atStart => exact ⟨0, _, by omega, rfl, rfl, Lib.hid (World.ownsRow_nil _ _ _ _), Below.refl _ _⟩
  case round =>
    obtain ⟨k, v1, hk, rfl, rfl, hown, hbel⟩ := hrel
    have zr := hbel.size
    have hlk := namesR_len R k
    by_cases hlt : k < R.length
    · have d1 : decide ((k : Int) < R.length) = true := by simp; omega
      have p1 : (0 : Int) ≤ k := by omega
      have p2 : (k : Int) < R.length := by omega
      obtain ⟨g, o, e1, hg, hc⟩ := (HRT.out.below hbel) (by omega)
      obtain rfl := e1
      obtain ⟨a0, a1⟩ := hc k hlt
      have Hs := Lib.hid (namesR_succ hlt)
      have hb2 : Below wr.heap.size wr ((wr.alloc (.cells #[.string R[k].owner, .string R[k].name] 44)).alloc (.cells #[.string R[k].name] 9)) := ((Below.refl _ wr).alloc (Nat.le_refl _) _).alloc (by simp) _
      have hownW := own_at hown.out hb2
      have hbelW := hbel.trans (hb2.mono zr)
      have zW : w1.heap.size ≤ ((wr.alloc (.cells #[.string R[k].owner, .string R[k].name] 44)).alloc (.cells #[.string R[k].name] 9)).heap.size := by simp; omega
      have H1 := Lib.hid (one_src (X := wr.alloc (.cells #[.string R[k].owner, .string R[k].name] 44)) (n := wr.heap.size + 1) (by simp) R[k].name 9)
      clear hc hb2 hown hbel
      go_wp2_with (at_builtin; refine wpList_append_from _ rfl _ _ 33 rfl w1.heap.size 9 i0 (.string ⟨#[]⟩) 1 16 Tryz.underlying33 hi hz0 hz1 hz2 rfl (by decide) _ _ _ rfl hownW (some ⟨wr.heap.size + 1, 0, none⟩) 1 1 [Value.string R[k].name] rfl rfl (fun h => by cases h) H1.out (fun u hu => by simp at hu; subst hu; rfl) (by unfold maxLen; first | omega | (simp only [List.length_append]; omega)) (by first | omega | (simp only [List.length_append]; omega)) zW ?_)
      intro v2 w3 hown3 hgrow
      have hbel3 := hbelW.grown hgrow (by simpa using zW) (fun k hk => (hownW.lt k hk).1)
      have HO4 : Hid (w3.ownsRow w1.heap.size 9 1 v2 (namesR R (k + 1)).length ((namesR R (k + 1)).map encStr)) := Lib.hid (by
        rw [Hs.out, List.length_append, List.map_append]; simpa [enc_bt] using hown3)
      clear hownW hbelW hgrow hown3
      go_wp2_with fail
      go_roundw
      case rel => exact ⟨k + 1, v2, by omega, rfl, by go_num, HO4, hbel3⟩
      case measure => simp [intOf]; omega
    · have d1 : decide ((k : Int) < R.length) = false := by simp; omega
      have hkR : k = R.length := by omega
      subst hkR
      have hcP := HCP.out _ hbel
      obtain ⟨T0, hT0⟩ : ∃ T0, namesR R R.length = T0 := ⟨_, rfl⟩
      rw [hT0] at hown HT hlk
      have HO := hown
      have HB := Lib.hid hbel
      clear hT0 hown hbel
      go_wp2_with fail
      clear hcP
      go_loopw [3, 24] (fun l i wr => ∃ (k : Nat) (v : Value), k ≤ S.length ∧ l = v ∧ i = .int .i64 k ∧ Hid (wr.ownsRow w1.heap.size 9 1 v (T0 ++ viasS S k).length ((T0 ++ viasS S k).map encStr)) ∧ Below w1.heap.size w1 wr) (fun _ i _ => S.length - (intOf i).toNat)
      case atStart => exact ⟨0, _, by omega, rfl, rfl, by simpa [viasS] using HO, HB.out⟩
      case round =>
        obtain ⟨k, v1, hk, rfl, rfl, hown, hbel⟩ := hrel
        have zr := hbel.size
        have hls := viasS_len S k
        by_cases hlt : k < S.length
        · have d1 : decide ((k : Int) < S.length) = true := by simp; omega
          have p1 : (0 : Int) ≤ k := by omega
          have p2 : (k : Int) < S.length := by omega
          obtain ⟨g, o, e1, hg, hc⟩ := (HPW.out _ hbel).s (by show 0 < S.length; omega)
          obtain rfl := e1
          obtain ⟨a0, a1, a2, a3, a4, a5, a6, a7, a8⟩ := hc k hlt
          by_cases hkd : S[k].kind = 3
          · have Hs := Lib.hid (viasS_yes hlt hkd)
            have d2 : (S[k].kind == 3) = true := by simp [hkd]
            have hb2 : Below wr.heap.size wr ((wr.alloc (.cells #[.int .i64 S[k].kind, .string S[k].head.owner, .string S[k].head.name, .string S[k].who, .string S[k].a.owner, .string S[k].a.name, .string S[k].b.owner, .string S[k].b.name, .string S[k].via] 46)).alloc (.cells #[.string S[k].via] 9)) := ((Below.refl _ wr).alloc (Nat.le_refl _) _).alloc (by simp) _
            have hownW := own_at hown.out hb2
            have hbelW := hbel.trans (hb2.mono zr)
            have zW : w1.heap.size ≤ ((wr.alloc (.cells #[.int .i64 S[k].kind, .string S[k].head.owner, .string S[k].head.name, .string S[k].who, .string S[k].a.owner, .string S[k].a.name, .string S[k].b.owner, .string S[k].b.name, .string S[k].via] 46)).alloc (.cells #[.string S[k].via] 9)).heap.size := by simp; omega
            have H1 := Lib.hid (one_src (X := wr.alloc (.cells #[.int .i64 S[k].kind, .string S[k].head.owner, .string S[k].head.name, .string S[k].who, .string S[k].a.owner, .string S[k].a.name, .string S[k].b.owner, .string S[k].b.name, .string S[k].via] 46)) (n := wr.heap.size + 1) (by simp) S[k].via 9)
            clear hc hb2 hown hbel hkd
            go_wp2_with (at_builtin; refine wpList_append_from _ rfl _ _ 33 rfl w1.heap.size 9 i0 (.string ⟨#[]⟩) 1 16 Tryz.underlying33 hi hz0 hz1 hz2 rfl (by decide) _ _ _ rfl hownW (some ⟨wr.heap.size + 1, 0, none⟩) 1 1 [Value.string S[k].via] rfl rfl (fun h => by cases h) H1.out (fun u hu => by simp at hu; subst hu; rfl) (by unfold maxLen; first | omega | (simp only [List.length_append]; omega)) (by first | omega | (simp only [List.length_append]; omega)) zW ?_)
            intro v2 w3 hown3 hgrow
            have hbel3 := hbelW.grown hgrow (by simpa using zW) (fun k hk => (hownW.lt k hk).1)
            have HO4 : Hid (w3.ownsRow w1.heap.size 9 1 v2 (T0 ++ viasS S (k + 1)).length ((T0 ++ viasS S (k + 1)).map encStr)) := Lib.hid (by
              rw [Hs.out, ← List.append_assoc, List.length_append, List.length_append, List.map_append]; simpa [enc_bt] using hown3)
            clear hownW hbelW hgrow hown3
            go_wp2_with fail
            go_roundw
            case rel => exact ⟨k + 1, v2, by omega, rfl, by go_num, HO4, hbel3⟩
            case measure => simp [intOf]; omega
          · have HO4 := hown
            rw [← viasS_no hlt hkd] at HO4
            have d2 : (S[k].kind == 3) = false := by simpa using hkd
            have HOB := Lib.hid (own_at HO4.out ((Below.refl _ wr).alloc (Nat.le_refl _) (.cells #[.int .i64 S[k].kind, .string S[k].head.owner, .string S[k].head.name, .string S[k].who, .string S[k].a.owner, .string S[k].a.name, .string S[k].b.owner, .string S[k].b.name, .string S[k].via] 46)))
            have hbelW := hbel.alloc zr (.cells #[.int .i64 S[k].kind, .string S[k].head.owner, .string S[k].head.name, .string S[k].who, .string S[k].a.owner, .string S[k].a.name, .string S[k].b.owner, .string S[k].b.name, .string S[k].via] 46)
            clear hc hown hbel hkd HO4
            go_wp2_with fail
            go_roundw
            case rel => exact ⟨k + 1, _, by omega, rfl, by go_num, HOB, hbelW⟩
            case measure => simp [intOf]; omega
        · have d1 : decide ((k : Int) < S.length) = false := by simp; omega
          have hkS : k = S.length := by omega
          subst hkS
          obtain ⟨A', c', rfl, _, hrow⟩ := SRow.of_own hown.out
          have HN := Lib.hid (Tab1.new A' c' (T0 ++ viasS S S.length) wr (by simp; omega) hrow)
          have HTT : Hid (T0 ++ viasS S S.length = TT) := HT
          have hlen : (T0 ++ viasS S S.length).length ≤ 1000000 := by simp; omega
          have HB2 := Lib.hid (HB0.out.trans (hbel.mono (by omega : w.heap.size ≤ w1.heap.size)))
          generalize T0 ++ viasS S S.length = TL at *
          obtain rfl := HTT.out
          have zq := HB2.out.size
          clear hrow hown hbel HTT
          go_wp2_with fail
          refine HN.out.mono ?_
          rintro e w4 ⟨q, rfl, htab, hb4⟩
          have HA := Lib.hid (tab_all htab (Nat.le_trans (tab_len_le _) hlen))
          clear htab
          go_wp2_with fail
          refine HA.out.mono ?_
          rintro e w5 ⟨v5, rfl, hown5, hb5⟩
          have hfin : w5.ownsRow w.heap.size 9 1 v5 (tab TL).length ((tab TL).map encStr) := SynH.own_base hown5 (by have := hb4.size; omega)
          have hbf := HB2.out.trans ((hb4.trans (hb5.mono hb4.size)).mono zq)
          clear hown5 hb4 hb5
          go_wp2_with fail
          go_ret
          exact ⟨v5, rfl, hfin, hbf⟩
end Go.Proofs.YtkmpbkgmdfeicaaGreat.PolH
/- policy.Fits, by contract. -/
namespace Go.Proofs.YtkmpbkgmdfeicaaGreat.PolI
set_option linter.unusedVariables false
set_option linter.unusedSimpArgs false
open Go.RowKit Go.Sort Go.Lib Go.Proofs Go.Proofs.YtkmpbkgmdfeicaaGreat.Plain Go.Proofs.YtkmpbkgmdfeicaaGreat.SynP Go.Proofs.YtkmpbkgmdfeicaaGreat.TabP Go.Proofs.YtkmpbkgmdfeicaaGreat.Tab1 Go.Proofs.YtkmpbkgmdfeicaaGreat.Tab5 Go.Proofs.YtkmpbkgmdfeicaaGreat.SynJ Go.Proofs.YtkmpbkgmdfeicaaGreat.QryP Go.Proofs.YtkmpbkgmdfeicaaGreat.PolA Go.Proofs.YtkmpbkgmdfeicaaGreat.PolE Go.Proofs.YtkmpbkgmdfeicaaGreat.PolG Go.Proofs.YtkmpbkgmdfeicaaGreat.PolH
set_option linter.unusedVariables false
set_option linter.unusedSimpArgs false
def fitsP (p : Py) : Bool := decide (p.stmts.length ≤ 80) && decide (p.grow.length ≤ 40) && decide (p.shrink.length ≤ 40) && decide (p.asks.length ≤ 16) && decide ((tab (prinsT p)).length ≤ 16) && decide ((tab (namesT p)).length ≤ 12)
set_option maxHeartbeats 1000000 in
set_option maxRecDepth 100000 in
theorem fits (p : Py) (A1 A2 A3 A4 : Option Addr) (c1 c2 c3 c4 : Nat) (w : World) (hf : p.fit) (hp : PG w A1 A2 A3 A4 p) : Calls Tryz.prog 11 #[p.val A1 A2 A3 A4 c1 c2 c3 c4] w fun e w' => e = .returned (.bool (fitsP p)) ∧ Below w.heap.size w w' := by
  have HPr := Lib.hid (fun w' h => prins p A1 A2 A3 A4 c1 c2 c3 c4 w' hf h)
  have HNm := Lib.hid (fun w' h => names p A1 A2 A3 A4 c1 c2 c3 c4 w' hf h)
  have HP := Lib.hid hp
  unfold fitsP
  generalize tab (prinsT p) = T at *
  generalize tab (namesT p) = U at *
  obtain ⟨S, G, H, Q⟩ := p
  clear hf hp
  unfold Py.val at *
  simp only at *
  have hbx := Lib.hid ((Below.refl w.heap.size w).alloc (Nat.le_refl _) (.cells #[.slice A1 S.length c1, .slice A2 G.length c2, .slice A3 H.length c3, .slice A4 Q.length c4] 26))
  by_cases hS : S.length ≤ 80
  rotate_left
  · rw [decide_eq_false hS]
    have d : decide ((S.length : Int) ≤ 80) = false := by simp; omega
    have d' : ¬ (S.length : Int) ≤ 80 := by omega
    simp only [Bool.and_false, Bool.false_and]
    go_enter Tryz.func11, Tryz.ntmps11
    go_wp2_with fail
    go_ret
    exact ⟨rfl, hbx.out⟩
  rw [decide_eq_true hS]
  have dS : decide ((S.length : Int) ≤ 80) = true := by simp; omega
  have eS : (S.length : Int) ≤ 80 := by omega
  by_cases hG : G.length ≤ 40
  rotate_left
  · rw [decide_eq_false hG]
    have d : decide ((G.length : Int) ≤ 40) = false := by simp; omega
    have d' : ¬ (G.length : Int) ≤ 40 := by omega
    simp only [Bool.and_false, Bool.false_and]
    go_enter Tryz.func11, Tryz.ntmps11
    go_wp2_with fail
    go_ret
    exact ⟨rfl, hbx.out⟩
  rw [decide_eq_true hG]
  have dG : decide ((G.length : Int) ≤ 40) = true := by simp; omega
  have eG : (G.length : Int) ≤ 40 := by omega
  by_cases hH : H.length ≤ 40
  rotate_left
  · rw [decide_eq_false hH]
    have d : decide ((H.length : Int) ≤ 40) = false := by simp; omega
    have d' : ¬ (H.length : Int) ≤ 40 := by omega
    simp only [Bool.and_false, Bool.false_and]
    go_enter Tryz.func11, Tryz.ntmps11
    go_wp2_with fail
    go_ret
    exact ⟨rfl, hbx.out⟩
  rw [decide_eq_true hH]
  have dH : decide ((H.length : Int) ≤ 40) = true := by simp; omega
  have eH : (H.length : Int) ≤ 40 := by omega
  by_cases hQ : Q.length ≤ 16
  rotate_left
  · rw [decide_eq_false hQ]
    have d : decide ((Q.length : Int) ≤ 16) = false := by simp; omega
    have d' : ¬ (Q.length : Int) ≤ 16 := by omega
    simp only [Bool.and_false, Bool.false_and]
    go_enter Tryz.func11, Tryz.ntmps11
    go_wp2_with fail
    go_ret
    exact ⟨rfl, hbx.out⟩
  rw [decide_eq_true hQ]
  have dQ : decide ((Q.length : Int) ≤ 16) = true := by simp; omega
  have eQ : (Q.length : Int) ≤ 16 := by omega
  simp only [Bool.true_and]
  by_cases hT : T.length ≤ 16
  rotate_left
  · rw [decide_eq_false hT]
    have d : decide ((T.length : Int) ≤ 16) = false := by simp; omega
    have d' : ¬ (T.length : Int) ≤ 16 := by omega
    simp only [Bool.false_and]
    go_enter Tryz.func11, Tryz.ntmps11
    go_wp2_with fail
    refine (HPr.out _ (HP.out.below hbx.out)).mono ?_
    rintro e w1 ⟨v, rfl, hown, hb1⟩
    obtain ⟨A, c, rfl, _, _⟩ := SRow.of_own hown
    have hb2 := hbx.out.trans (hb1.mono (by simp))
    have HP1 := Lib.hid (HP.out.below hb2)
    have hc : ∀ o, w1.cell? ⟨w.heap.size, o, none⟩ = (#[.slice A1 S.length c1, .slice A2 G.length c2, .slice A3 H.length c3, .slice A4 Q.length c4] : Array Value)[o]? := fun o => by rw [hb1.cell (by simp), Lib.cell_of_heap (heap_alloc_new w _)]
    have HB2 := Lib.hid hb2
    clear hown hb1 hb2
    go_wp2_with fail
    go_ret
    exact ⟨rfl, HB2.out⟩
  rw [decide_eq_true hT]
  have dT : decide ((T.length : Int) ≤ 16) = true := by simp; omega
  have eT : (T.length : Int) ≤ 16 := by omega
  simp only [Bool.true_and]
  by_cases hU : U.length ≤ 12
  · rw [decide_eq_true hU]
    have dU : decide ((U.length : Int) ≤ 12) = true := by simp; omega
    have eU : (U.length : Int) ≤ 12 := by omega
    go_enter Tryz.func11, Tryz.ntmps11
    go_wp2_with fail
    refine (HPr.out _ (HP.out.below hbx.out)).mono ?_
    rintro e w1 ⟨v, rfl, hown, hb1⟩
    obtain ⟨A, c, rfl, _, _⟩ := SRow.of_own hown
    have hb2 := hbx.out.trans (hb1.mono (by simp))
    have HP1 := Lib.hid (HP.out.below hb2)
    have hc : ∀ o, w1.cell? ⟨w.heap.size, o, none⟩ = (#[.slice A1 S.length c1, .slice A2 G.length c2, .slice A3 H.length c3, .slice A4 Q.length c4] : Array Value)[o]? := fun o => by rw [hb1.cell (by simp), Lib.cell_of_heap (heap_alloc_new w _)]
    have HB2 := Lib.hid hb2
    clear hown hb1 hb2
    go_wp2_with fail
    refine (HNm.out _ HP1.out).mono ?_
    rintro e w2 ⟨v, rfl, hown, hb3⟩
    obtain ⟨A', c', rfl, _, _⟩ := SRow.of_own hown
    have HB4 := Lib.hid (HB2.out.trans (hb3.mono HB2.out.size))
    clear hown hb3 hc
    go_wp2_with fail
    go_ret
    exact ⟨rfl, HB4.out⟩
  · rw [decide_eq_false hU]
    have dU : decide ((U.length : Int) ≤ 12) = false := by simp; omega
    have eU : ¬ (U.length : Int) ≤ 12 := by omega
    go_enter Tryz.func11, Tryz.ntmps11
    go_wp2_with fail
    refine (HPr.out _ (HP.out.below hbx.out)).mono ?_
    rintro e w1 ⟨v, rfl, hown, hb1⟩
    obtain ⟨A, c, rfl, _, _⟩ := SRow.of_own hown
    have hb2 := hbx.out.trans (hb1.mono (by simp))
    have HP1 := Lib.hid (HP.out.below hb2)
    have hc : ∀ o, w1.cell? ⟨w.heap.size, o, none⟩ = (#[.slice A1 S.length c1, .slice A2 G.length c2, .slice A3 H.length c3, .slice A4 Q.length c4] : Array Value)[o]? := fun o => by rw [hb1.cell (by simp), Lib.cell_of_heap (heap_alloc_new w _)]
    have HB2 := Lib.hid hb2
    clear hown hb1 hb2
    go_wp2_with fail
    refine (HNm.out _ HP1.out).mono ?_
    rintro e w2 ⟨v, rfl, hown, hb3⟩
    obtain ⟨A', c', rfl, _, _⟩ := SRow.of_own hown
    have HB4 := Lib.hid (HB2.out.trans (hb3.mono HB2.out.size))
    clear hown hb3 hc
    go_wp2_with fail
    go_ret
    exact ⟨rfl, HB4.out⟩
end Go.Proofs.YtkmpbkgmdfeicaaGreat.PolI
/- Whether a line begins like a query, by contract. -/
namespace Go.Proofs.YtkmpbkgmdfeicaaGreat.QryX
set_option linter.unusedVariables false
set_option linter.unusedSimpArgs false
open Go.RowKit Go.Sort Go.Proofs Go.Proofs.YtkmpbkgmdfeicaaGreat.Plain Go.Proofs.YtkmpbkgmdfeicaaGreat.SynP Go.Proofs.YtkmpbkgmdfeicaaGreat.SynQ Go.Proofs.YtkmpbkgmdfeicaaGreat.TabP Go.Proofs.YtkmpbkgmdfeicaaGreat.Grown Go.Proofs.YtkmpbkgmdfeicaaGreat.SynA Go.Proofs.YtkmpbkgmdfeicaaGreat.SynC Go.Proofs.YtkmpbkgmdfeicaaGreat.SynR Go.Proofs.YtkmpbkgmdfeicaaGreat.Scan2 Go.Proofs.YtkmpbkgmdfeicaaGreat.Scan3 Go.Proofs.YtkmpbkgmdfeicaaGreat.SynU Go.Proofs.YtkmpbkgmdfeicaaGreat.SynV Go.Proofs.YtkmpbkgmdfeicaaGreat.SynX Go.Proofs.YtkmpbkgmdfeicaaGreat.QryP Go.Proofs.YtkmpbkgmdfeicaaGreat.Qry4 Go.Proofs.YtkmpbkgmdfeicaaGreat.Qry5 Go.Proofs.YtkmpbkgmdfeicaaGreat.Qry7
set_option linter.unusedVariables false
set_option linter.unusedSimpArgs false
/-- Do tokens begin like a query's line? -/
def isL (L : List Tk) : Bool := decide (agreeF L [.word [97, 108, 119, 97, 121, 115]] = 1) || decide (agreeF L [.word [99, 97, 110]] = 1)
theorem one_word (t : Tk) (M : List Tk) (s : Str) : decide (agreeF (t :: M) [.word s] = 1) = (decide (t.kind = 2) && decide (t.text = ⟨s.toArray⟩)) := by
  have e : agreeF (t :: M) [.word s] = if (decide (t.kind = 2) && decide (t.text = ⟨s.toArray⟩)) = true then 1 else 0 := by
    unfold agreeF
    have e0 : agreeF M [] = 0 := by cases M <;> rfl
    rw [e0]
    rfl
  rw [e]
  cases (decide (t.kind = 2) && decide (t.text = ⟨s.toArray⟩)) <;> rfl
/-- A good token's kind is told by its first byte. -/
theorem small_kind {t : Tk} (h : goodTk t) {c : UInt8} {l : List UInt8} (e : t.text = ⟨(c :: l).toArray⟩) (h1 : named capB (c :: l) = false) (h2 : (⟨(c :: l).toArray⟩ : ByteArray) ≠ dot) (h3 : (⟨(c :: l).toArray⟩ : ByteArray) ≠ arrow) (h4 : (⟨(c :: l).toArray⟩ : ByteArray) ≠ amp) : t.kind = 2 := by
  rcases h with ⟨_, h⟩ | ⟨h, _⟩ | ⟨_, h⟩ | ⟨_, h⟩ | ⟨_, h⟩
  · rw [e] at h
    exact absurd h (by rw [show (⟨(c :: l).toArray⟩ : ByteArray).data.toList = c :: l from rfl, h1]; decide)
  · exact h
  · exact absurd (e.symm.trans h) h2
  · exact absurd (e.symm.trans h) h3
  · exact absurd (e.symm.trans h) h4
theorem isL_cons {t : Tk} {M : List Tk} (h : goodTk t) : isL (t :: M) = (decide (t.text = ⟨#[97, 108, 119, 97, 121, 115]⟩) || decide (t.text = ⟨#[99, 97, 110]⟩)) := by
  unfold isL
  rw [one_word, one_word]
  have k1 : t.text = ⟨#[97, 108, 119, 97, 121, 115]⟩ → t.kind = 2 := fun e => small_kind h (c := 97) (l := [108, 119, 97, 121, 115]) e (by decide) (by decide) (by decide) (by decide)
  have k2 : t.text = ⟨#[99, 97, 110]⟩ → t.kind = 2 := fun e => small_kind h (c := 99) (l := [97, 110]) e (by decide) (by decide) (by decide) (by decide)
  have e1 : (decide (t.kind = 2) && decide (t.text = ⟨#[97, 108, 119, 97, 121, 115]⟩)) = decide (t.text = ⟨#[97, 108, 119, 97, 121, 115]⟩) := by
    by_cases hx : t.text = ⟨#[97, 108, 119, 97, 121, 115]⟩
    · rw [decide_eq_true hx, decide_eq_true (k1 hx)]; rfl
    · rw [decide_eq_false hx, Bool.and_false]
  have e2 : (decide (t.kind = 2) && decide (t.text = ⟨#[99, 97, 110]⟩)) = decide (t.text = ⟨#[99, 97, 110]⟩) := by
    by_cases hx : t.text = ⟨#[99, 97, 110]⟩
    · rw [decide_eq_true hx, decide_eq_true (k2 hx)]; rfl
    · rw [decide_eq_false hx, Bool.and_false]
  exact congr (congrArg or e1) e2
set_option maxHeartbeats 1000000 in
set_option maxRecDepth 100000 in
theorem isQ (s : ByteArray) (w : World) (hs : s.size ≤ 1000000) : Calls Tryz.prog 112 #[.string s] w fun e w' => e = .returned (.bool (isL (okToks (ansOf s)))) ∧ RowKit.Below w.heap.size w w' := by
  have hlen : (okToks (ansOf s)).length ≤ 1000 := by
    cases h : ansOf s with
    | bad c e => show 0 ≤ 1000; omega
    | ok L => have := ans_len h; show L.length ≤ 1000; omega
  have HT := Lib.hid (tokens s · hs)
  have HW1 : Hid (∀ X : World, Calls Tryz.prog 152 #[.slice (some ⟨X.heap.size, 0, none⟩) 1 1] (X.alloc (.cells #[.string ⟨#[97, 108, 119, 97, 121, 115]⟩] 9)) (FitsPost [.word [97, 108, 119, 97, 121, 115]] (X.alloc (.cells #[.string ⟨#[97, 108, 119, 97, 121, 115]⟩] 9)))) := Lib.hid (fun X => wordsOne [97, 108, 119, 97, 121, 115] X _ rfl)
  have HW2 : Hid (∀ X : World, Calls Tryz.prog 152 #[.slice (some ⟨X.heap.size, 0, none⟩) 1 1] (X.alloc (.cells #[.string ⟨#[99, 97, 110]⟩] 9)) (FitsPost [.word [99, 97, 110]] (X.alloc (.cells #[.string ⟨#[99, 97, 110]⟩] 9)))) := Lib.hid (fun X => wordsOne [99, 97, 110] X _ rfl)
  generalize ansOf s = a at *
  generalize hL : okToks a = L at hlen ⊢
  have HL := Lib.hid hL
  clear hL
  go_enter Tryz.func112, Tryz.ntmps112
  go_wp2_with fail
  refine (HT.out _).mono ?_
  rintro e w1 ⟨v, rfl, hown, hb1⟩
  rw [HL.out] at hown
  obtain ⟨A, ca, rfl, hca, hA⟩ := of_rowTk hown
  have HA := Lib.hid hA
  have HB1 := Lib.hid hb1
  clear hA hb1 hown
  have er : isL L = (decide (agreeF L [.word [97, 108, 119, 97, 121, 115]] = 1) || decide (agreeF L [.word [99, 97, 110]] = 1)) := rfl
  have ER := Lib.hid er
  clear er
  go_wp2_with fail
  refine (HW1.out _).mono ?_
  rintro e w2 ⟨v1, vs1, rfl, hown1, hfn1, hb2⟩
  obtain ⟨V, cv, rfl, _, hvr⟩ := VRow.of_own hown1
  have hbw : RowKit.Below w1.heap.size w1 w2 := ((Below.refl _ _).alloc (Nat.le_refl _) _).trans (hb2.mono (by simp))
  have HG := Lib.hid (Qry5.agree A ca L V cv vs1 _ w2 hlen (by decide) (HA.out.below hbw) hvr hfn1)
  have HBW := Lib.hid hbw
  clear hown1 hfn1 hvr hbw hb2
  go_wp2_with fail
  refine HG.out.mono ?_
  rintro e w3 ⟨rfl, hg3⟩
  have HB3 := Lib.hid (HBW.out.trans (hg3.below.mono HBW.out.size))
  clear hg3 HG
  by_cases h1 : agreeF L [.word [97, 108, 119, 97, 121, 115]] = 1
  · have d1 : ((agreeF L [.word [97, 108, 119, 97, 121, 115]] : Int) == 1) = true := by rw [h1]; rfl
    have ET : Hid (isL L = true) := Lib.hid (by rw [ER.out, decide_eq_true h1]; rfl)
    clear ER h1
    generalize agreeF L [.word [97, 108, 119, 97, 121, 115]] = n1 at *
    go_wp2_with fail
    go_ret
    exact ⟨by rw [ET.out]; rfl, HB1.out.trans (HB3.out.mono HB1.out.size)⟩
  · have d1 : ((agreeF L [.word [97, 108, 119, 97, 121, 115]] : Int) == 1) = false := by
      rw [beq_eq_false_iff_ne]; intro h; exact h1 (by exact_mod_cast h)
    have EF : Hid (isL L = decide (agreeF L [.word [99, 97, 110]] = 1)) := Lib.hid (by rw [ER.out, decide_eq_false h1]; rfl)
    clear ER h1
    generalize agreeF L [.word [97, 108, 119, 97, 121, 115]] = n1 at *
    go_wp2_with fail
    refine (HW2.out _).mono ?_
    rintro e w4 ⟨v2, vs2, rfl, hown2, hfn2, hb4⟩
    obtain ⟨V2, cv2, rfl, _, hvr2⟩ := VRow.of_own hown2
    have hbw4 : RowKit.Below w1.heap.size w1 w4 := (HB3.out.alloc HB3.out.size _).trans (hb4.mono (by have := HB3.out.size; simp; omega))
    have HG2 := Lib.hid (Qry5.agree A ca L V2 cv2 vs2 _ w4 hlen (by decide) (HA.out.below hbw4) hvr2 hfn2)
    have HBW4 := Lib.hid hbw4
    clear hown2 hfn2 hvr2 hbw4 hb4
    go_wp2_with fail
    refine HG2.out.mono ?_
    rintro e w5 ⟨rfl, hg5⟩
    have HB5 := Lib.hid (HBW4.out.trans (hg5.below.mono HBW4.out.size))
    clear hg5 HG2
    have d2 : ((agreeF L [.word [99, 97, 110]] : Int) == 1) = decide (agreeF L [.word [99, 97, 110]] = 1) := by
      rw [Bool.eq_iff_iff]; simp; omega
    generalize decide (agreeF L [.word [99, 97, 110]] = 1) = b2 at *
    generalize agreeF L [.word [99, 97, 110]] = n2 at *
    go_wp2_with fail
    go_ret
    exact ⟨by rw [EF.out]; rfl, HB1.out.trans (HB5.out.mono HB1.out.size)⟩
end Go.Proofs.YtkmpbkgmdfeicaaGreat.QryX
/- A line more of a policy that is put together: policy's add, at lines that ask nothing, by contract. -/
namespace Go.Proofs.YtkmpbkgmdfeicaaGreat.PolR
set_option linter.unusedVariables false
set_option linter.unusedSimpArgs false
open Go.RowKit Go.Sort Go.Lib Go.Proofs Go.Proofs.YtkmpbkgmdfeicaaGreat.Plain Go.Proofs.YtkmpbkgmdfeicaaGreat.SynP Go.Proofs.YtkmpbkgmdfeicaaGreat.TabP Go.Proofs.YtkmpbkgmdfeicaaGreat.Tab1 Go.Proofs.YtkmpbkgmdfeicaaGreat.Grown Go.Proofs.YtkmpbkgmdfeicaaGreat.Scan3 Go.Proofs.YtkmpbkgmdfeicaaGreat.SynA Go.Proofs.YtkmpbkgmdfeicaaGreat.SynC Go.Proofs.YtkmpbkgmdfeicaaGreat.SynD2 Go.Proofs.YtkmpbkgmdfeicaaGreat.SynD3 Go.Proofs.YtkmpbkgmdfeicaaGreat.SynR Go.Proofs.YtkmpbkgmdfeicaaGreat.SynS Go.Proofs.YtkmpbkgmdfeicaaGreat.SynU Go.Proofs.YtkmpbkgmdfeicaaGreat.SynV Go.Proofs.YtkmpbkgmdfeicaaGreat.SynX Go.Proofs.YtkmpbkgmdfeicaaGreat.SynY Go.Proofs.YtkmpbkgmdfeicaaGreat.SynJ Go.Proofs.YtkmpbkgmdfeicaaGreat.SynQ Go.Proofs.YtkmpbkgmdfeicaaGreat.QryP Go.Proofs.YtkmpbkgmdfeicaaGreat.QryX Go.Proofs.YtkmpbkgmdfeicaaGreat.PolA Go.Proofs.YtkmpbkgmdfeicaaGreat.PolE Go.Proofs.YtkmpbkgmdfeicaaGreat.PolG Go.Proofs.YtkmpbkgmdfeicaaGreat.PolI Go.Proofs.YtkmpbkgmdfeicaaGreat.PolK Go.Proofs.YtkmpbkgmdfeicaaGreat.PolO Go.Proofs.YtkmpbkgmdfeicaaGreat.PolP Go.Proofs.YtkmpbkgmdfeicaaGreat.PolQ
set_option linter.unusedVariables false
set_option linter.unusedSimpArgs false
structure Dr where
  s : List St
  g : List Rl
  h : List Rl
def Dr.py (d : Dr) : Py := ⟨d.s, d.g, d.h, []⟩
def growT : ByteArray := ⟨#[103, 114, 111, 119]⟩
def shrinkT : ByteArray := ⟨#[115, 104, 114, 105, 110, 107]⟩
/-- What a line adds, and what is wrong with it. -/
def addR (d : Dr) (L : List Tk) : Dr × Int × Int :=
  if leads L growT then (⟨d.s, (restM d.g L).1, d.h⟩, (restM d.g L).2) else if leads L shrinkT then (⟨d.s, d.g, (restM d.h L).1⟩, (restM d.h L).2) else (⟨addL d.s (parseA (.ok L)).1, d.g, d.h⟩, (parseA (.ok L)).2)
def addM (d : Dr) (a : TkAns) : Dr × Int × Int := match a with
  | .bad c e => (d, c, e)
  | .ok [] => (d, 0, 0)
  | .ok L => if (addR d L).2.2 = 0 ∧ fitsP (addR d L).1.py = false then ((addR d L).1, 1, 5) else addR d L
def DrAt (w : World) (B D : Nat) (d : Dr) : Prop := ∃ A1 c1 A2 c2 A3 c3, Draft w B D A1 c1 A2 c2 A3 c3 d.s d.g d.h
def AddPost (r : Dr × Int × Int) (B D : Nat) (w : World) (e : Ending) (w' : World) : Prop :=
  e = .returned (.tuple #[.int .i64 r.2.1, .int .i64 r.2.2]) ∧ (r.2.2 = 0 → DrAt w' B D r.1) ∧ Beside B D w w'
theorem pg_of {w : World} {B D : Nat} {A1 : Option Addr} {c1 : Nat} {A2 : Option Addr} {c2 : Nat} {A3 : Option Addr} {c3 : Nat} {S : List St} {G H : List Rl} (h : Draft w B D A1 c1 A2 c2 A3 c3 S G H) : PG w A1 A2 A3 none ⟨S, G, H, []⟩ :=
  ⟨sg_of_own h.o1, rg_of_own h.o2, rg_of_own h.o3, fun hp => by simp at hp⟩
theorem low_D {w w' : World} {B D : Nat} (h : Below w.heap.size w w') (hD : D ≤ w.heap.size) : Below D w w' := h.mono hD
section
variable (B D : Nat) (d : Dr) (s : ByteArray) (w : World) (hs : s.size ≤ 1000000) (hd : DrAt w B D d)
include hs hd
set_option maxRecDepth 100000 in
theorem add_bad (c : Nat) (er : Int) (h : ansOf s = .bad c er) : Calls Tryz.prog 66 #[.pointer (some ⟨D, 0, none⟩), .string s] w (AddPost (d, (c : Int), er) B D w) := by
  obtain ⟨A1, c1, A2, c2, A3, c3, hd⟩ := hd
  have HT := Lib.hid (tokens s w hs)
  rw [h] at HT
  have he := ans_bad h
  have e1 : (er != 0) = true := by rcases he with rfl | rfl <;> rfl
  have hne : er ≠ 0 := by rcases he with rfl | rfl <;> decide
  have hDw : D ≤ w.heap.size := by have := hd.hD; have := hd.hB; omega
  have hBw := hd.hB
  clear h he hd
  go_enter Tryz.func66, Tryz.ntmps66
  go_wp2_with fail
  refine HT.out.mono ?_
  rintro e w1 ⟨v, rfl, hown, hb1⟩
  simp only [okErr, okCol]
  clear hown
  go_wp2_with fail
  exact bodyPost_ret (v := .tuple #[.int .i64 c, .int .i64 er]) (by simp [results, Tryz.results66, go_sem]) rfl ⟨rfl, fun h => absurd h hne, Beside.of_below hb1 hBw⟩
set_option maxRecDepth 100000 in
theorem add_none (h : ansOf s = .ok []) : Calls Tryz.prog 66 #[.pointer (some ⟨D, 0, none⟩), .string s] w (AddPost (d, 0, 0) B D w) := by
  obtain ⟨A1, c1, A2, c2, A3, c3, hd⟩ := hd
  have HT := Lib.hid (tokens s w hs)
  rw [h] at HT
  have hDw : D ≤ w.heap.size := by have := hd.hD; have := hd.hB; omega
  have HD := Lib.hid hd
  have hBw := hd.hB
  clear h hd
  go_enter Tryz.func66, Tryz.ntmps66
  go_wp2_with fail
  refine HT.out.mono ?_
  rintro e w1 ⟨v, rfl, hown, hb1⟩
  obtain ⟨A, ca, rfl, hca, hA⟩ := of_rowTk hown
  simp only [okErr, okCol, okToks] at hca hA ⊢
  have HD1 : Hid (DrAt w1 B D d) := Lib.hid ⟨A1, c1, A2, c2, A3, c3, HD.out.below hb1⟩
  have e0 : (([] : List Tk).length : Int) = 0 := rfl
  clear hown hA hca
  go_wp2_with fail
  exact bodyPost_ret (v := .tuple #[.int .i64 0, .int .i64 0]) (by simp [results, Tryz.results66, go_sem]) rfl ⟨rfl, fun _ => HD1.out, Beside.of_below hb1 hBw⟩
end
section
variable (B D : Nat) (d : Dr) (s : ByteArray) (w : World) (L : List Tk) (hs : s.size ≤ 1000000) (hd : DrAt w B D d) (hl1 : d.s.length ≤ 9000) (hl2 : d.g.length ≤ 9000) (hl3 : d.h.length ≤ 9000) (hans : ansOf s = .ok L) (h0 : 0 < L.length) (hq : isL L = false)
include hs hd hl1 hl2 hl3 hans h0 hq
set_option maxHeartbeats 1000000 in
set_option maxRecDepth 100000 in
theorem add_grow (hw : leads L growT = true) (hfit : (addR d L).2.2 = 0 → (addR d L).1.py.fit) : Calls Tryz.prog 66 #[.pointer (some ⟨D, 0, none⟩), .string s] w (AddPost (addM d (.ok L)) B D w) := by
  obtain ⟨A1, c1, A2, c2, A3, c3, hd⟩ := hd
  have HT := Lib.hid (tokens s w hs)
  have HI := Lib.hid (fun w' => isQ s w' hs)
  rw [hans] at HT HI
  have hgood := ans_good hans
  have hlen := ans_len hans
  have Hg := Lib.hid (fun t ht => (hgood t ht).1)
  have Hs : Hid (SmallTk L) := Lib.hid (fun t ht => ⟨by have := (hgood t ht).2.1; omega, by have := (hgood t ht).2.2; omega⟩)
  unfold okToks at HI
  simp only at HI
  rw [hq] at HI
  have HD := Lib.hid hd
  have hDw : D ≤ w.heap.size := by have := hd.hD; have := hd.hB; omega
  have hDB := hd.hD
  have hBw := hd.hB
  have hR1 : ∀ A ca w', TkAt w' A L → Calls Tryz.prog 114 #[.slice A L.length ca, .string ⟨#[103, 114, 111, 119]⟩] w' fun e w'' => e = .returned (.bool (leads L growT)) ∧ w' = w'' := fun A ca w' hA => restricts A ca L growT w' h0 hA
  have HR1 := Lib.hid hR1
  clear hR1
  have hR2 : ∀ A ca w', TkAt w' A L → Calls Tryz.prog 114 #[.slice A L.length ca, .string ⟨#[115, 104, 114, 105, 110, 107]⟩] w' fun e w'' => e = .returned (.bool (leads L shrinkT)) ∧ w' = w'' := fun A ca w' hA => restricts A ca L shrinkT w' h0 hA
  have HR2 := Lib.hid hR2
  clear hR2
  have hadd : addM d (.ok L) = if (addR d L).2.2 = 0 ∧ fitsP (addR d L).1.py = false then ((addR d L).1, 1, 5) else addR d L := by
    cases L with
    | nil => simp at h0
    | cons t L => rfl
  rw [hadd]
  have hL0 : ((L.length : Int) == 0) = false := by rw [beq_eq_false_iff_ne]; omega
  have hR : addR d L = (⟨d.s, (restM d.g L).1, d.h⟩, (restM d.g L).2) := by unfold addR; rw [if_pos hw]
  rw [hR] at hfit ⊢
  have HRest := Lib.hid (fun A ca w' hB' hown hA hca => restrict B A2 c2 d.g A ca L w' (by omega) hB' hown h0 (by omega) hca Hs.out Hg.out hA)
  unfold RestPost at HRest
  generalize hrm : restM d.g L = rm at *
  obtain ⟨U, at_, why⟩ := rm
  simp only at hfit HRest ⊢
  rw [hw] at HR1
  obtain ⟨S, G, H⟩ := d
  simp only at *
  clear hrm hR hw hq hans
  obtain ⟨RR, hRR⟩ : ∃ RR : Dr × Int × Int, (if why = 0 ∧ fitsP (Dr.py ⟨S, U, H⟩) = false then ((⟨S, U, H⟩ : Dr), (1 : Int), (5 : Int)) else (⟨S, U, H⟩, at_, why)) = RR := ⟨_, rfl⟩
  rw [hRR]
  have HRR := Lib.hid hRR
  clear hRR
  clear hd hadd hgood
  go_enter Tryz.func66, Tryz.ntmps66
  go_wp2_with fail
  refine HT.out.mono ?_
  rintro e w1 ⟨v, rfl, hown, hb1⟩
  obtain ⟨A, ca, rfl, hca, hA⟩ := of_rowTk hown
  simp only [okErr, okCol, okToks] at hca hA ⊢
  have HA := Lib.hid hA
  have z1 := hb1.size
  have HB1 := Lib.hid hb1
  clear hown hA hb1
  go_wp2_with fail
  refine (HI.out _).mono ?_
  rintro e w2 ⟨rfl, hb2⟩
  have HA2 := Lib.hid (HA.out.below hb2)
  have HB2 := Lib.hid (HB1.out.trans (hb2.mono z1))
  have z2 := HB2.out.size
  clear hb2
  go_wp2_with fail
  refine (HR1.out A ca _ HA2.out).mono ?_
  rintro e w3 ⟨rfl, rfl⟩
  have HDw := Lib.hid (HD.out.below HB2.out)
  have hbx2 := HDw.out.box
  have hcD := fun o => Lib.cell_of_heap hbx2 o
  have HRc := Lib.hid (HRest.out A ca _ HDw.out.hB HDw.out.o2 HA2.out hca)
  clear hbx2
  go_wp2_with fail
  refine HRc.out.mono ?_
  rintro e w4 ⟨v4, rfl, hg4, ⟨An, nn, cn, rfl⟩, hok4⟩
  have hDg : ∀ g, (Value.slice A2 G.length c2).ownBlock = some g → D < g := fun g e => Nat.lt_of_lt_of_le hDB (own_blk HDw.out.o2 e).1
  have hbx4 := grown_box hg4 hDg HDw.out.box
  have hc4 := fun o => Lib.cell_of_heap hbx4 o
  have hf4 := blk_frozen hbx4
  have HB4' := Lib.hid (((Beside.of_below (B := B) (D := D) HB2.out hBw).trans (Beside.grown hg4 (fun g e => (own_blk HDw.out.o2 e).1) (by omega))).trans (Beside.set (B := B) _ 1 (.slice An nn cn)))
  have HG4 := Lib.hid hg4
  have HOK := Lib.hid hok4
  clear hbx4 hg4 hok4 hDg hcD
  by_cases hwhy : why = 0
  · subst hwhy
    obtain ⟨ho4, hm4⟩ := HOK.out rfl
    obtain ⟨Ax, cx, ex, _⟩ := rat_own ho4
    injection ex with ex1 ex2 ex3
    subst ex1; subst ex3
    obtain rfl : nn = U.length := ex2
    have HD4 := Lib.hid (Draft.grow HDw.out HG4.out ho4 hm4)
    have HB4 := HB4'
    have Hfit : Hid (Py.fit ⟨S, U, H, []⟩) := Lib.hid (hfit rfl)
    have HRes : Hid (fitsP ⟨S, U, H, []⟩ = false → RR = (⟨S, U, H⟩, 1, 5)) := Lib.hid (fun h => by rw [← HRR.out]; exact if_pos ⟨rfl, h⟩)
    have HOk : Hid (fitsP ⟨S, U, H, []⟩ = true → RR = (⟨S, U, H⟩, at_, 0)) := Lib.hid (fun h => by rw [← HRR.out]; exact if_neg (fun h' => by have := h'.2; unfold Dr.py at this; simp only at this; rw [h] at this; cases this))
    clear ho4 hm4 hfit
    go_wp2_with fail
    have hbx4 := HD4.out.box
    have hc4 := fun o => Lib.cell_of_heap hbx4 o
    have HF := Lib.hid (fits ⟨S, U, H, []⟩ A1 An A3 none c1 cn c3 0 _ Hfit.out (pg_of HD4.out))
    unfold Py.val at HF
    simp only [List.length_nil] at HF
    clear hbx4
    go_wp2_with fail
    refine HF.out.mono ?_
    rintro e w6 ⟨rfl, hb6⟩
    have HD6 := Lib.hid (HD4.out.below hb6)
    have HB6 := Lib.hid (HB4.out.trans (Beside.of_below hb6 HD4.out.hB))
    clear hb6 hc4
    cases hff : fitsP ⟨S, U, H, []⟩
    · have hres := HRes.out hff
      have HR := Lib.hid hres
      clear hres hff
      go_wp2_with fail
      exact bodyPost_ret (v := .tuple #[.int .i64 1, .int .i64 5]) (by simp [results, Tryz.results66, go_sem]) rfl (by rw [HR.out]; exact ⟨rfl, fun h => by simp at h, HB6.out⟩)
    · have hres := HOk.out hff
      have HR := Lib.hid hres
      clear hres hff
      go_wp2_with fail
      exact bodyPost_ret (v := .tuple #[.int .i64 at_, .int .i64 0]) (by simp [results, Tryz.results66, go_sem]) rfl (by rw [HR.out]; exact ⟨rfl, fun _ => ⟨A1, c1, An, cn, A3, c3, HD6.out⟩, HB6.out⟩)
  · have hres : RR = (⟨S, U, H⟩, at_, why) := by rw [← HRR.out]; exact if_neg (fun h => hwhy h.1)
    have HR := Lib.hid hres
    have HW := Lib.hid hwhy
    have e1 : (why == 0) = false := by simpa using hwhy
    clear hres
    go_wp2_with fail
    exact bodyPost_ret (v := .tuple #[.int .i64 at_, .int .i64 why]) (by simp [results, Tryz.results66, go_sem]) rfl (by rw [HR.out]; exact ⟨rfl, fun h => absurd h HW.out, HB4'.out⟩)
end
section
variable (B D : Nat) (d : Dr) (s : ByteArray) (w : World) (L : List Tk) (hs : s.size ≤ 1000000) (hd : DrAt w B D d) (hl1 : d.s.length ≤ 9000) (hl2 : d.g.length ≤ 9000) (hl3 : d.h.length ≤ 9000) (hans : ansOf s = .ok L) (h0 : 0 < L.length) (hq : isL L = false)
include hs hd hl1 hl2 hl3 hans h0 hq
set_option maxHeartbeats 1000000 in
set_option maxRecDepth 100000 in
theorem add_shrink (hw0 : leads L growT = false) (hw : leads L shrinkT = true) (hfit : (addR d L).2.2 = 0 → (addR d L).1.py.fit) : Calls Tryz.prog 66 #[.pointer (some ⟨D, 0, none⟩), .string s] w (AddPost (addM d (.ok L)) B D w) := by
  obtain ⟨A1, c1, A2, c2, A3, c3, hd⟩ := hd
  have HT := Lib.hid (tokens s w hs)
  have HI := Lib.hid (fun w' => isQ s w' hs)
  rw [hans] at HT HI
  have hgood := ans_good hans
  have hlen := ans_len hans
  have Hg := Lib.hid (fun t ht => (hgood t ht).1)
  have Hs : Hid (SmallTk L) := Lib.hid (fun t ht => ⟨by have := (hgood t ht).2.1; omega, by have := (hgood t ht).2.2; omega⟩)
  unfold okToks at HI
  simp only at HI
  rw [hq] at HI
  have HD := Lib.hid hd
  have hDw : D ≤ w.heap.size := by have := hd.hD; have := hd.hB; omega
  have hDB := hd.hD
  have hBw := hd.hB
  have hR1 : ∀ A ca w', TkAt w' A L → Calls Tryz.prog 114 #[.slice A L.length ca, .string ⟨#[103, 114, 111, 119]⟩] w' fun e w'' => e = .returned (.bool (leads L growT)) ∧ w' = w'' := fun A ca w' hA => restricts A ca L growT w' h0 hA
  have HR1 := Lib.hid hR1
  clear hR1
  have hR2 : ∀ A ca w', TkAt w' A L → Calls Tryz.prog 114 #[.slice A L.length ca, .string ⟨#[115, 104, 114, 105, 110, 107]⟩] w' fun e w'' => e = .returned (.bool (leads L shrinkT)) ∧ w' = w'' := fun A ca w' hA => restricts A ca L shrinkT w' h0 hA
  have HR2 := Lib.hid hR2
  clear hR2
  have hadd : addM d (.ok L) = if (addR d L).2.2 = 0 ∧ fitsP (addR d L).1.py = false then ((addR d L).1, 1, 5) else addR d L := by
    cases L with
    | nil => simp at h0
    | cons t L => rfl
  rw [hadd]
  have hL0 : ((L.length : Int) == 0) = false := by rw [beq_eq_false_iff_ne]; omega
  have hR : addR d L = (⟨d.s, d.g, (restM d.h L).1⟩, (restM d.h L).2) := by unfold addR; rw [if_neg (by rw [hw0]; decide), if_pos hw]
  rw [hR] at hfit ⊢
  have HRest := Lib.hid (fun A ca w' hB' hown hA hca => restrict B A3 c3 d.h A ca L w' (by omega) hB' hown h0 (by omega) hca Hs.out Hg.out hA)
  unfold RestPost at HRest
  generalize hrm : restM d.h L = rm at *
  obtain ⟨U, at_, why⟩ := rm
  simp only at hfit HRest ⊢
  rw [hw0] at HR1
  rw [hw] at HR2
  obtain ⟨S, G, H⟩ := d
  simp only at *
  clear hrm hR hw hw0 hq hans
  obtain ⟨RR, hRR⟩ : ∃ RR : Dr × Int × Int, (if why = 0 ∧ fitsP (Dr.py ⟨S, G, U⟩) = false then ((⟨S, G, U⟩ : Dr), (1 : Int), (5 : Int)) else (⟨S, G, U⟩, at_, why)) = RR := ⟨_, rfl⟩
  rw [hRR]
  have HRR := Lib.hid hRR
  clear hRR
  clear hd hadd hgood
  go_enter Tryz.func66, Tryz.ntmps66
  go_wp2_with fail
  refine HT.out.mono ?_
  rintro e w1 ⟨v, rfl, hown, hb1⟩
  obtain ⟨A, ca, rfl, hca, hA⟩ := of_rowTk hown
  simp only [okErr, okCol, okToks] at hca hA ⊢
  have HA := Lib.hid hA
  have z1 := hb1.size
  have HB1 := Lib.hid hb1
  clear hown hA hb1
  go_wp2_with fail
  refine (HI.out _).mono ?_
  rintro e w2 ⟨rfl, hb2⟩
  have HA2 := Lib.hid (HA.out.below hb2)
  have HB2 := Lib.hid (HB1.out.trans (hb2.mono z1))
  have z2 := HB2.out.size
  clear hb2
  go_wp2_with fail
  refine (HR1.out A ca _ HA2.out).mono ?_
  rintro e w3 ⟨rfl, rfl⟩
  go_wp2_with fail
  refine (HR2.out A ca _ HA2.out).mono ?_
  rintro e w3 ⟨rfl, rfl⟩
  have HDw := Lib.hid (HD.out.below HB2.out)
  have hbx2 := HDw.out.box
  have hcD := fun o => Lib.cell_of_heap hbx2 o
  have HRc := Lib.hid (HRest.out A ca _ HDw.out.hB HDw.out.o3 HA2.out hca)
  clear hbx2
  go_wp2_with fail
  refine HRc.out.mono ?_
  rintro e w4 ⟨v4, rfl, hg4, ⟨An, nn, cn, rfl⟩, hok4⟩
  have hDg : ∀ g, (Value.slice A3 H.length c3).ownBlock = some g → D < g := fun g e => Nat.lt_of_lt_of_le hDB (own_blk HDw.out.o3 e).1
  have hbx4 := grown_box hg4 hDg HDw.out.box
  have hc4 := fun o => Lib.cell_of_heap hbx4 o
  have hf4 := blk_frozen hbx4
  have HB4' := Lib.hid (((Beside.of_below (B := B) (D := D) HB2.out hBw).trans (Beside.grown hg4 (fun g e => (own_blk HDw.out.o3 e).1) (by omega))).trans (Beside.set (B := B) _ 2 (.slice An nn cn)))
  have HG4 := Lib.hid hg4
  have HOK := Lib.hid hok4
  clear hbx4 hg4 hok4 hDg hcD
  by_cases hwhy : why = 0
  · subst hwhy
    obtain ⟨ho4, hm4⟩ := HOK.out rfl
    obtain ⟨Ax, cx, ex, _⟩ := rat_own ho4
    injection ex with ex1 ex2 ex3
    subst ex1; subst ex3
    obtain rfl : nn = U.length := ex2
    have HD4 := Lib.hid (Draft.shrink HDw.out HG4.out ho4 hm4)
    have HB4 := HB4'
    have Hfit : Hid (Py.fit ⟨S, G, U, []⟩) := Lib.hid (hfit rfl)
    have HRes : Hid (fitsP ⟨S, G, U, []⟩ = false → RR = (⟨S, G, U⟩, 1, 5)) := Lib.hid (fun h => by rw [← HRR.out]; exact if_pos ⟨rfl, h⟩)
    have HOk : Hid (fitsP ⟨S, G, U, []⟩ = true → RR = (⟨S, G, U⟩, at_, 0)) := Lib.hid (fun h => by rw [← HRR.out]; exact if_neg (fun h' => by have := h'.2; unfold Dr.py at this; simp only at this; rw [h] at this; cases this))
    clear ho4 hm4 hfit
    go_wp2_with fail
    have hbx4 := HD4.out.box
    have hc4 := fun o => Lib.cell_of_heap hbx4 o
    have HF := Lib.hid (fits ⟨S, G, U, []⟩ A1 A2 An none c1 c2 cn 0 _ Hfit.out (pg_of HD4.out))
    unfold Py.val at HF
    simp only [List.length_nil] at HF
    clear hbx4
    go_wp2_with fail
    refine HF.out.mono ?_
    rintro e w6 ⟨rfl, hb6⟩
    have HD6 := Lib.hid (HD4.out.below hb6)
    have HB6 := Lib.hid (HB4.out.trans (Beside.of_below hb6 HD4.out.hB))
    clear hb6 hc4
    cases hff : fitsP ⟨S, G, U, []⟩
    · have hres := HRes.out hff
      have HR := Lib.hid hres
      clear hres hff
      go_wp2_with fail
      exact bodyPost_ret (v := .tuple #[.int .i64 1, .int .i64 5]) (by simp [results, Tryz.results66, go_sem]) rfl (by rw [HR.out]; exact ⟨rfl, fun h => by simp at h, HB6.out⟩)
    · have hres := HOk.out hff
      have HR := Lib.hid hres
      clear hres hff
      go_wp2_with fail
      exact bodyPost_ret (v := .tuple #[.int .i64 at_, .int .i64 0]) (by simp [results, Tryz.results66, go_sem]) rfl (by rw [HR.out]; exact ⟨rfl, fun _ => ⟨A1, c1, A2, c2, An, cn, HD6.out⟩, HB6.out⟩)
  · have hres : RR = (⟨S, G, U⟩, at_, why) := by rw [← HRR.out]; exact if_neg (fun h => hwhy h.1)
    have HR := Lib.hid hres
    have HW := Lib.hid hwhy
    have e1 : (why == 0) = false := by simpa using hwhy
    clear hres
    go_wp2_with fail
    exact bodyPost_ret (v := .tuple #[.int .i64 at_, .int .i64 why]) (by simp [results, Tryz.results66, go_sem]) rfl (by rw [HR.out]; exact ⟨rfl, fun h => absurd h HW.out, HB4'.out⟩)
end
section
variable (B D : Nat) (d : Dr) (s : ByteArray) (w : World) (L : List Tk) (hs : s.size ≤ 1000000) (hd : DrAt w B D d) (hl1 : d.s.length ≤ 9000) (hl2 : d.g.length ≤ 9000) (hl3 : d.h.length ≤ 9000) (hans : ansOf s = .ok L) (h0 : 0 < L.length) (hq : isL L = false)
include hs hd hl1 hl2 hl3 hans h0 hq
set_option maxHeartbeats 1000000 in
set_option maxRecDepth 100000 in
theorem add_state (hw0 : leads L growT = false) (hw : leads L shrinkT = false) (hfit : (addR d L).2.2 = 0 → (addR d L).1.py.fit) : Calls Tryz.prog 66 #[.pointer (some ⟨D, 0, none⟩), .string s] w (AddPost (addM d (.ok L)) B D w) := by
  obtain ⟨A1, c1, A2, c2, A3, c3, hd⟩ := hd
  have HT := Lib.hid (tokens s w hs)
  have HI := Lib.hid (fun w' => isQ s w' hs)
  rw [hans] at HT HI
  have hgood := ans_good hans
  have hlen := ans_len hans
  have Hg := Lib.hid (fun t ht => (hgood t ht).1)
  have Hs : Hid (SmallTk L) := Lib.hid (fun t ht => ⟨by have := (hgood t ht).2.1; omega, by have := (hgood t ht).2.2; omega⟩)
  unfold okToks at HI
  simp only at HI
  rw [hq] at HI
  have HD := Lib.hid hd
  have hDw : D ≤ w.heap.size := by have := hd.hD; have := hd.hB; omega
  have hDB := hd.hD
  have hBw := hd.hB
  have hR1 : ∀ A ca w', TkAt w' A L → Calls Tryz.prog 114 #[.slice A L.length ca, .string ⟨#[103, 114, 111, 119]⟩] w' fun e w'' => e = .returned (.bool (leads L growT)) ∧ w' = w'' := fun A ca w' hA => restricts A ca L growT w' h0 hA
  have HR1 := Lib.hid hR1
  clear hR1
  have hR2 : ∀ A ca w', TkAt w' A L → Calls Tryz.prog 114 #[.slice A L.length ca, .string ⟨#[115, 104, 114, 105, 110, 107]⟩] w' fun e w'' => e = .returned (.bool (leads L shrinkT)) ∧ w' = w'' := fun A ca w' hA => restricts A ca L shrinkT w' h0 hA
  have HR2 := Lib.hid hR2
  clear hR2
  have hadd : addM d (.ok L) = if (addR d L).2.2 = 0 ∧ fitsP (addR d L).1.py = false then ((addR d L).1, 1, 5) else addR d L := by
    cases L with
    | nil => simp at h0
    | cons t L => rfl
  rw [hadd]
  have hL0 : ((L.length : Int) == 0) = false := by rw [beq_eq_false_iff_ne]; omega
  have hR : addR d L = (⟨addL d.s (parseA (.ok L)).1, d.g, d.h⟩, (parseA (.ok L)).2) := by unfold addR; rw [if_neg (by rw [hw0]; decide), if_neg (by rw [hw]; decide)]
  rw [hR] at hfit ⊢
  have HSt := Lib.hid (fun w' hd' => state B D A1 c1 A2 c2 A3 c3 d.s d.g d.h s w' (by omega) hs hd')
  unfold StatePost at HSt
  rw [hans] at HSt
  generalize hrm : parseA (.ok L) = rm at *
  obtain ⟨x, at_, why⟩ := rm
  simp only at hfit HSt ⊢
  obtain ⟨U, hU⟩ : ∃ U, addL d.s x = U := ⟨_, rfl⟩
  rw [hU] at hfit HSt ⊢
  rw [hw0] at HR1
  rw [hw] at HR2
  obtain ⟨S, G, H⟩ := d
  simp only at *
  clear hrm hR hw hw0 hq hans hU
  obtain ⟨RR, hRR⟩ : ∃ RR : Dr × Int × Int, (if why = 0 ∧ fitsP (Dr.py ⟨U, G, H⟩) = false then ((⟨U, G, H⟩ : Dr), (1 : Int), (5 : Int)) else (⟨U, G, H⟩, at_, why)) = RR := ⟨_, rfl⟩
  rw [hRR]
  have HRR := Lib.hid hRR
  clear hRR
  clear hd hadd hgood
  go_enter Tryz.func66, Tryz.ntmps66
  go_wp2_with fail
  refine HT.out.mono ?_
  rintro e w1 ⟨v, rfl, hown, hb1⟩
  obtain ⟨A, ca, rfl, hca, hA⟩ := of_rowTk hown
  simp only [okErr, okCol, okToks] at hca hA ⊢
  have HA := Lib.hid hA
  have z1 := hb1.size
  have HB1 := Lib.hid hb1
  clear hown hA hb1
  go_wp2_with fail
  refine (HI.out _).mono ?_
  rintro e w2 ⟨rfl, hb2⟩
  have HA2 := Lib.hid (HA.out.below hb2)
  have HB2 := Lib.hid (HB1.out.trans (hb2.mono z1))
  have z2 := HB2.out.size
  clear hb2
  go_wp2_with fail
  refine (HR1.out A ca _ HA2.out).mono ?_
  rintro e w3 ⟨rfl, rfl⟩
  go_wp2_with fail
  refine (HR2.out A ca _ HA2.out).mono ?_
  rintro e w3 ⟨rfl, rfl⟩
  have HSc := Lib.hid (HSt.out _ (HD.out.below HB2.out))
  go_wp2_with fail
  refine HSc.out.mono ?_
  rintro e w4 ⟨rfl, ⟨An, cn, hd4⟩, hb4⟩
  have HD4 := Lib.hid hd4
  have HB4 := Lib.hid ((Beside.of_below (B := B) (D := D) HB2.out hBw).trans hb4)
  clear hd4 hb4
  by_cases hwhy : why = 0
  · subst hwhy
    have Hfit : Hid (Py.fit ⟨U, G, H, []⟩) := Lib.hid (hfit rfl)
    have HRes : Hid (fitsP ⟨U, G, H, []⟩ = false → RR = (⟨U, G, H⟩, 1, 5)) := Lib.hid (fun h => by rw [← HRR.out]; exact if_pos ⟨rfl, h⟩)
    have HOk : Hid (fitsP ⟨U, G, H, []⟩ = true → RR = (⟨U, G, H⟩, at_, 0)) := Lib.hid (fun h => by rw [← HRR.out]; exact if_neg (fun h' => by have := h'.2; unfold Dr.py at this; simp only at this; rw [h] at this; cases this))
    clear hfit
    have hbx4 := HD4.out.box
    have hc4 := fun o => Lib.cell_of_heap hbx4 o
    have HF := Lib.hid (fits ⟨U, G, H, []⟩ An A2 A3 none cn c2 c3 0 _ Hfit.out (pg_of HD4.out))
    unfold Py.val at HF
    simp only [List.length_nil] at HF
    clear hbx4
    go_wp2_with fail
    refine HF.out.mono ?_
    rintro e w6 ⟨rfl, hb6⟩
    have HD6 := Lib.hid (HD4.out.below hb6)
    have HB6 := Lib.hid (HB4.out.trans (Beside.of_below hb6 HD4.out.hB))
    clear hb6 hc4
    cases hff : fitsP ⟨U, G, H, []⟩
    · have hres := HRes.out hff
      have HR := Lib.hid hres
      clear hres hff
      go_wp2_with fail
      exact bodyPost_ret (v := .tuple #[.int .i64 1, .int .i64 5]) (by simp [results, Tryz.results66, go_sem]) rfl (by rw [HR.out]; exact ⟨rfl, fun h => by simp at h, HB6.out⟩)
    · have hres := HOk.out hff
      have HR := Lib.hid hres
      clear hres hff
      go_wp2_with fail
      exact bodyPost_ret (v := .tuple #[.int .i64 at_, .int .i64 0]) (by simp [results, Tryz.results66, go_sem]) rfl (by rw [HR.out]; exact ⟨rfl, fun _ => ⟨An, cn, A2, c2, A3, c3, HD6.out⟩, HB6.out⟩)
  · have hres : RR = (⟨U, G, H⟩, at_, why) := by rw [← HRR.out]; exact if_neg (fun h => hwhy h.1)
    have HR := Lib.hid hres
    have HW := Lib.hid hwhy
    have e1 : (why == 0) = false := by simpa using hwhy
    clear hres
    go_wp2_with fail
    exact bodyPost_ret (v := .tuple #[.int .i64 at_, .int .i64 why]) (by simp [results, Tryz.results66, go_sem]) rfl (by rw [HR.out]; exact ⟨rfl, fun h => absurd h HW.out, HB4.out⟩)
end
end Go.Proofs.YtkmpbkgmdfeicaaGreat.PolR
