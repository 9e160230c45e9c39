/- All principals, and all names, that a policy names: policy.Prins and Names, by contract. -/
import Derived.Test.YtblapgfilbmdhaaGreatDoorM20
import Derived.Test.YtblapgfilbmdhaaGreatDoorM13
import Derived.Test.YtblapgfilbmdhaaGreatDoorM25
import Derived.Test.YtblapgfilbmdhaaGreatDoorM12
import Derived.Test.YtblapgfilbmdhaaGreatDoorM23
import Derived.Test.YtblapgfilbmdhaaGreatDoorM24
import Derived.Deep.RegionHeld3
import Derived.Laws.AppendOwn
set_option linter.unusedVariables false
set_option linter.unusedSimpArgs false
namespace Go.Proofs.YtblapgfilbmdhaaGreatDoor.PolH
open Go.RowKit Go.Sort Go.Lib Go.Proofs Plain SynP TabP Tab1 Tab5 Grown SynC SynJ QryP PolA PolE PolG
def bt (x : ByteArray) : Str := x.data.toList
theorem enc_bt (x : ByteArray) : encStr (bt x) = .string x := by
  show Value.string ⟨(bt x).toArray⟩ = _
  unfold bt; rfl
theorem tab_all {w : World} {B : Nat} {p : Value} {T : List Str} (h : TabAt w B p T) (hT : T.length ≤ 1000000) : Calls Tryz.prog 95 #[p] w (RowPost T w) := by
  obtain ⟨t, v, rfl, _, hh, hown⟩ := h
  obtain ⟨A, c, rfl, _, hr⟩ := SRow.of_own hown
  exact Tab7.all t A T c w (by rw [Lib.cell_of_heap hh]; rfl) hT hr
theorem srow_none_len {w : World} {T : List Str} (h : SRow w none T) : T.length = 0 := by
  rcases Nat.eq_zero_or_pos T.length with h0 | h0
  · exact h0
  · obtain ⟨_, _, e, _⟩ := h h0; cases e
theorem srow_cells {w : World} {A : Option Addr} {T : List Str} (h : SRow w A T) : ∀ ad, A = some ad → ∀ j u, (T.map encStr)[j]? = some u → w.cell? (ad.add j) = some u := by
  rintro ad rfl j u hu
  have hj : j < T.length := by
    rcases Nat.lt_or_ge j T.length with h | h
    · exact h
    · rw [List.getElem?_eq_none (by simpa using h)] at hu; cases hu
  obtain ⟨g, o, e, _, hc⟩ := h (by omega)
  injection e with e
  subst e
  rw [add_off, hc j hj, ← hu, List.getElem?_map, List.getElem?_eq_getElem hj]; rfl
theorem enc_one (T : List Str) : ∀ u ∈ T.map encStr, u.oneCell' = true := by
  intro u hu
  obtain ⟨x, _, rfl⟩ := List.mem_map.1 hu
  rfl
theorem one_src {X : World} {n : Nat} (hn : X.heap.size = n) (x : ByteArray) (t : TypeId) : ∀ ad, some (⟨n, 0, none⟩ : Addr) = some ad → ∀ j u, [Value.string x][j]? = some u → (X.alloc (.cells #[.string x] t)).cell? (ad.add j) = some u := by
  subst hn
  rintro ad e j u hu
  injection e with e
  subst e
  rw [add_off, Nat.zero_add, Lib.cell_of_heap (heap_alloc_new X _)]
  match j, hu with
  | 0, hu => exact hu
def ownersR (R : List Rl) (k : Nat) : List Str := (R.take k).map fun r => bt r.owner
def namesR (R : List Rl) (k : Nat) : List Str := (R.take k).map fun r => bt r.name
theorem ownersR_succ {R : List Rl} {k : Nat} (h : k < R.length) : ownersR R (k + 1) = ownersR R k ++ [bt R[k].owner] := by
  unfold ownersR; rw [List.take_succ_eq_append_getElem h, List.map_append, List.map_singleton]
theorem namesR_succ {R : List Rl} {k : Nat} (h : k < R.length) : namesR R (k + 1) = namesR R k ++ [bt R[k].name] := by
  unfold namesR; rw [List.take_succ_eq_append_getElem h, List.map_append, List.map_singleton]
theorem ownersR_len (R : List Rl) (k : Nat) : (ownersR R k).length ≤ R.length := by unfold ownersR; simp; omega
theorem namesR_len (R : List Rl) (k : Nat) : (namesR R k).length ≤ R.length := by unfold namesR; simp; omega
def whosS (L : List St) (k : Nat) : List Str := ((L.take k).filter fun s => decide (s.kind = 1)).map fun s => bt s.who
def viasS (L : List St) (k : Nat) : List Str := ((L.take k).filter fun s => decide (s.kind = 3)).map fun s => bt s.via
theorem whosS_yes {L : List St} {k : Nat} (h : k < L.length) (hk : L[k].kind = 1) : whosS L (k + 1) = whosS L k ++ [bt L[k].who] := by
  unfold whosS
  have e : List.filter (fun s : St => decide (s.kind = 1)) [L[k]] = [L[k]] := by simp [hk]
  rw [List.take_succ_eq_append_getElem h, List.filter_append, e, List.map_append, List.map_singleton]
theorem whosS_no {L : List St} {k : Nat} (h : k < L.length) (hk : ¬ L[k].kind = 1) : whosS L (k + 1) = whosS L k := by
  unfold whosS
  have e : List.filter (fun s : St => decide (s.kind = 1)) [L[k]] = [] := by simp [hk]
  rw [List.take_succ_eq_append_getElem h, List.filter_append, e, List.append_nil]
theorem viasS_yes {L : List St} {k : Nat} (h : k < L.length) (hk : L[k].kind = 3) : viasS L (k + 1) = viasS L k ++ [bt L[k].via] := by
  unfold viasS
  have e : List.filter (fun s : St => decide (s.kind = 3)) [L[k]] = [L[k]] := by simp [hk]
  rw [List.take_succ_eq_append_getElem h, List.filter_append, e, List.map_append, List.map_singleton]
theorem viasS_no {L : List St} {k : Nat} (h : k < L.length) (hk : ¬ L[k].kind = 3) : viasS L (k + 1) = viasS L k := by
  unfold viasS
  have e : List.filter (fun s : St => decide (s.kind = 3)) [L[k]] = [] := by simp [hk]
  rw [List.take_succ_eq_append_getElem h, List.filter_append, e, List.append_nil]
theorem whosS_len (L : List St) (k : Nat) : (whosS L k).length ≤ L.length := by
  unfold whosS
  have := List.length_filter_le (fun s : St => decide (s.kind = 1)) (L.take k)
  simp at this ⊢; omega
theorem viasS_len (L : List St) (k : Nat) : (viasS L k).length ≤ L.length := by
  unfold viasS
  have := List.length_filter_le (fun s : St => decide (s.kind = 3)) (L.take k)
  simp at this ⊢; omega
def whosA (L : List Qy) (k : Nat) : List Str := ((L.take k).map Qy.who).flatten
theorem whosA_succ {L : List Qy} {k : Nat} (h : k < L.length) : whosA L (k + 1) = whosA L k ++ L[k].who := by
  unfold whosA
  rw [List.take_succ_eq_append_getElem h, List.map_append, List.flatten_append, List.map_singleton, List.flatten_singleton]
theorem whosA_len {L : List Qy} (hq : ∀ q ∈ L, q.who.length ≤ 100) : ∀ k, (whosA L k).length ≤ k * 100
  | 0 => by simp [whosA]
  | k + 1 => by
    have ih := whosA_len hq k
    rcases Nat.lt_or_ge k L.length with h | h
    · have := hq L[k] (List.getElem_mem _)
      rw [whosA_succ h, List.length_append]; omega
    · have : whosA L (k + 1) = whosA L k := by unfold whosA; rw [List.take_of_length_le (by omega), List.take_of_length_le (by omega)]
      rw [this]; omega
theorem rolesP_len {p : Py} (hf : p.fit) : (rolesP p).length ≤ 7000 := by
  have a := rolesS_len p.stmts p.stmts.length
  have b := rolesA_len p.asks p.asks.length
  have := hf.n1
  have := hf.n2
  have := hf.n3
  have := hf.n4
  unfold rolesP; simp; omega
def prinsT (p : Py) : List Str := ownersR (rolesP p) (rolesP p).length ++ whosS p.stmts p.stmts.length ++ whosA p.asks p.asks.length
def namesT (p : Py) : List Str := namesR (rolesP p) (rolesP p).length ++ viasS p.stmts p.stmts.length
set_option maxHeartbeats 2000000 in
set_option maxRecDepth 100000 in
theorem prins (p : Py) (A1 A2 A3 A4 : Option Addr) (c1 c2 c3 c4 : Nat) (w : World) (hf : p.fit) (hp : PG w A1 A2 A3 A4 p) : Calls Tryz.prog 92 #[p.val A1 A2 A3 A4 c1 c2 c3 c4] w (RowPost (tab (prinsT p)) w) := by
  obtain ⟨i0, hi, hz0, hz1, hz2⟩ := info_parts Tab3.infoStr
  have HRO := Lib.hid (fun w' h => PolG.roles p A1 A2 A3 A4 c1 c2 c3 c4 w' hf h)
  have hRl := rolesP_len hf
  have hal := whosA_len hf.f5
  have n1 := hf.n1
  have n4 := hf.n4
  have HP := Lib.hid hp
  obtain ⟨TT, hTT⟩ : ∃ TT, prinsT p = TT := ⟨_, rfl⟩
  rw [hTT]
  unfold prinsT at hTT
  have HT := Lib.hid hTT
  clear hTT
  generalize hRR : rolesP p = R at *
  unfold RolesP at HRO
  rw [hRR] at HRO
  obtain ⟨S, G, H, Q⟩ := p
  simp only at n1 n4 HT hal
  have HAL := Lib.hid hal
  clear hp hf hRR hal
  unfold Py.val at *
  simp only at HRO ⊢
  go_enter Tryz.func92, Tryz.ntmps92
  go_wp2_with fail
  refine (HRO.out _ (HP.out.below ((Below.refl _ _).alloc (Nat.le_refl _) _))).mono ?_
  rintro e w1 ⟨A, cA, rfl, hrat, hb1⟩
  have hcP1 : ∀ o, w1.cell? ⟨w.heap.size, o, none⟩ = (#[.slice A1 S.length c1, .slice A2 G.length c2, .slice A3 H.length c3, .slice A4 Q.length c4] : Array Value)[o]? := fun o => by rw [hb1.cell (by simp), Lib.cell_of_heap (heap_alloc_new w _)]
  have z1 : w.heap.size + 1 ≤ w1.heap.size := by have := hb1.size; simpa using this
  have hb01 : Below w.heap.size w w1 := ((Below.refl w.heap.size w).alloc (Nat.le_refl _) _).trans (hb1.mono (by simp))
  have HPW := Lib.hid (fun (wr : World) (h : Below w1.heap.size w1 wr) => (HP.out.below (hb01.trans (h.mono (by omega)))))
  have HCP := Lib.hid (fun (wr : World) (h : Below w1.heap.size w1 wr) (o : Nat) => (h.cell (p := ⟨w.heap.size, o, none⟩) (by show w.heap.size < _; omega)).trans (hcP1 o))
  have HRT := Lib.hid (RG.of_rat hrat)
  have HB0 := Lib.hid hb01
  clear hrat hb1 hb01 hcP1 HP
  go_wp2_with fail
  go_loopw [3, 13] (fun l i wr => ∃ (k : Nat) (v : Value), k ≤ R.length ∧ l = v ∧ i = .int .i64 k ∧ Hid (wr.ownsRow w1.heap.size 9 1 v (ownersR R k).length ((ownersR R k).map encStr)) ∧ Below w1.heap.size w1 wr) (fun _ i _ => R.length - (intOf i).toNat)
  case atStart => exact ⟨0, _, by omega, rfl, rfl, Lib.hid (World.ownsRow_nil _ _ _ _), Below.refl _ _⟩
  case round =>
    obtain ⟨k, v1, hk, rfl, rfl, hown, hbel⟩ := hrel
    have zr := hbel.size
    have hlk := ownersR_len R k
    by_cases hlt : k < R.length
    · have d1 : decide ((k : Int) < R.length) = true := by simp; omega
      have p1 : (0 : Int) ≤ k := by omega
      have p2 : (k : Int) < R.length := by omega
      obtain ⟨g, o, e1, hg, hc⟩ := (HRT.out.below hbel) (by omega)
      obtain rfl := e1
      obtain ⟨a0, a1⟩ := hc k hlt
      have Hs := Lib.hid (ownersR_succ hlt)
      have hb2 : Below wr.heap.size wr ((wr.alloc (.cells #[.string R[k].owner, .string R[k].name] 28)).alloc (.cells #[.string R[k].owner] 9)) := ((Below.refl _ wr).alloc (Nat.le_refl _) _).alloc (by simp) _
      have hownW := own_at hown.out hb2
      have hbelW := hbel.trans (hb2.mono zr)
      have zW : w1.heap.size ≤ ((wr.alloc (.cells #[.string R[k].owner, .string R[k].name] 28)).alloc (.cells #[.string R[k].owner] 9)).heap.size := by simp; omega
      have H1 := Lib.hid (one_src (X := wr.alloc (.cells #[.string R[k].owner, .string R[k].name] 28)) (n := wr.heap.size + 1) (by simp) R[k].owner 9)
      clear hc hb2 hown hbel
      go_wp2_with (at_builtin; refine wpList_append_from _ rfl _ _ 32 rfl w1.heap.size 9 i0 (.string ⟨#[]⟩) 1 16 Tryz.underlying32 hi hz0 hz1 hz2 rfl (by decide) _ _ _ rfl hownW (some ⟨wr.heap.size + 1, 0, none⟩) 1 1 [Value.string R[k].owner] rfl rfl (fun h => by cases h) H1.out (fun u hu => by simp at hu; subst hu; rfl) (by unfold maxLen; first | omega | (simp only [List.length_append]; omega)) (by first | omega | (simp only [List.length_append]; omega)) zW ?_)
      intro v2 w3 hown3 hgrow
      have hbel3 := hbelW.grown hgrow (by simpa using zW) (fun k hk => (hownW.lt k hk).1)
      have HO4 : Hid (w3.ownsRow w1.heap.size 9 1 v2 (ownersR R (k + 1)).length ((ownersR R (k + 1)).map encStr)) := Lib.hid (by
        rw [Hs.out, List.length_append, List.map_append]; simpa [enc_bt] using hown3)
      clear hownW hbelW hgrow hown3
      go_wp2_with fail
      go_roundw
      case rel => exact ⟨k + 1, v2, by omega, rfl, by go_num, HO4, hbel3⟩
      case measure => simp [intOf]; omega
    · have d1 : decide ((k : Int) < R.length) = false := by simp; omega
      have hkR : k = R.length := by omega
      subst hkR
      have hcP := HCP.out _ hbel
      obtain ⟨T0, hT0⟩ : ∃ T0, ownersR R R.length = T0 := ⟨_, rfl⟩
      rw [hT0] at hown HT hlk
      have HO := hown
      have HB := Lib.hid hbel
      clear hT0 hown hbel
      go_wp2_with fail
      clear hcP
      go_loopw [3, 26] (fun l i wr => ∃ (k : Nat) (v : Value), k ≤ S.length ∧ l = v ∧ i = .int .i64 k ∧ Hid (wr.ownsRow w1.heap.size 9 1 v (T0 ++ whosS S k).length ((T0 ++ whosS S k).map encStr)) ∧ Below w1.heap.size w1 wr) (fun _ i _ => S.length - (intOf i).toNat)
      case atStart => exact ⟨0, _, by omega, rfl, rfl, by simpa [whosS] using HO, HB.out⟩
      case round =>
        obtain ⟨k, v1, hk, rfl, rfl, hown, hbel⟩ := hrel
        have zr := hbel.size
        have hls := whosS_len S k
        by_cases hlt : k < S.length
        · have d1 : decide ((k : Int) < S.length) = true := by simp; omega
          have p1 : (0 : Int) ≤ k := by omega
          have p2 : (k : Int) < S.length := by omega
          obtain ⟨g, o, e1, hg, hc⟩ := (HPW.out _ hbel).s (by show 0 < S.length; omega)
          obtain rfl := e1
          obtain ⟨a0, a1, a2, a3, a4, a5, a6, a7, a8⟩ := hc k hlt
          by_cases hkd : S[k].kind = 1
          · have Hs := Lib.hid (whosS_yes hlt hkd)
            have d2 : (S[k].kind == 1) = true := by simp [hkd]
            have hb2 : Below wr.heap.size wr ((wr.alloc (.cells #[.int .i64 S[k].kind, .string S[k].head.owner, .string S[k].head.name, .string S[k].who, .string S[k].a.owner, .string S[k].a.name, .string S[k].b.owner, .string S[k].b.name, .string S[k].via] 67)).alloc (.cells #[.string S[k].who] 9)) := ((Below.refl _ wr).alloc (Nat.le_refl _) _).alloc (by simp) _
            have hownW := own_at hown.out hb2
            have hbelW := hbel.trans (hb2.mono zr)
            have zW : w1.heap.size ≤ ((wr.alloc (.cells #[.int .i64 S[k].kind, .string S[k].head.owner, .string S[k].head.name, .string S[k].who, .string S[k].a.owner, .string S[k].a.name, .string S[k].b.owner, .string S[k].b.name, .string S[k].via] 67)).alloc (.cells #[.string S[k].who] 9)).heap.size := by simp; omega
            have H1 := Lib.hid (one_src (X := wr.alloc (.cells #[.int .i64 S[k].kind, .string S[k].head.owner, .string S[k].head.name, .string S[k].who, .string S[k].a.owner, .string S[k].a.name, .string S[k].b.owner, .string S[k].b.name, .string S[k].via] 67)) (n := wr.heap.size + 1) (by simp) S[k].who 9)
            clear hc hb2 hown hbel hkd
            go_wp2_with (at_builtin; refine wpList_append_from _ rfl _ _ 32 rfl w1.heap.size 9 i0 (.string ⟨#[]⟩) 1 16 Tryz.underlying32 hi hz0 hz1 hz2 rfl (by decide) _ _ _ rfl hownW (some ⟨wr.heap.size + 1, 0, none⟩) 1 1 [Value.string S[k].who] rfl rfl (fun h => by cases h) H1.out (fun u hu => by simp at hu; subst hu; rfl) (by unfold maxLen; first | omega | (simp only [List.length_append]; omega)) (by first | omega | (simp only [List.length_append]; omega)) zW ?_)
            intro v2 w3 hown3 hgrow
            have hbel3 := hbelW.grown hgrow (by simpa using zW) (fun k hk => (hownW.lt k hk).1)
            have HO4 : Hid (w3.ownsRow w1.heap.size 9 1 v2 (T0 ++ whosS S (k + 1)).length ((T0 ++ whosS S (k + 1)).map encStr)) := Lib.hid (by
              rw [Hs.out, ← List.append_assoc, List.length_append, List.length_append, List.map_append]; simpa [enc_bt] using hown3)
            clear hownW hbelW hgrow hown3
            go_wp2_with fail
            go_roundw
            case rel => exact ⟨k + 1, v2, by omega, rfl, by go_num, HO4, hbel3⟩
            case measure => simp [intOf]; omega
          · have HO4 := hown
            rw [← whosS_no hlt hkd] at HO4
            have d2 : (S[k].kind == 1) = false := by simpa using hkd
            have HOB := Lib.hid (own_at HO4.out ((Below.refl _ wr).alloc (Nat.le_refl _) (.cells #[.int .i64 S[k].kind, .string S[k].head.owner, .string S[k].head.name, .string S[k].who, .string S[k].a.owner, .string S[k].a.name, .string S[k].b.owner, .string S[k].b.name, .string S[k].via] 67)))
            have hbelW := hbel.alloc zr (.cells #[.int .i64 S[k].kind, .string S[k].head.owner, .string S[k].head.name, .string S[k].who, .string S[k].a.owner, .string S[k].a.name, .string S[k].b.owner, .string S[k].b.name, .string S[k].via] 67)
            clear hc hown hbel hkd HO4
            go_wp2_with fail
            go_roundw
            case rel => exact ⟨k + 1, _, by omega, rfl, by go_num, HOB, hbelW⟩
            case measure => simp [intOf]; omega
        · have d1 : decide ((k : Int) < S.length) = false := by simp; omega
          have hkS : k = S.length := by omega
          subst hkS
          have hcP := HCP.out _ hbel
          have hl1 : (T0 ++ whosS S S.length).length ≤ 8000 := by simp; omega
          obtain ⟨T1, hT1⟩ : ∃ T1, T0 ++ whosS S S.length = T1 := ⟨_, rfl⟩
          rw [hT1] at hown HT hl1
          have HO1 := hown
          have HB1 := Lib.hid hbel
          clear hT1 hown hbel HO HB
          go_wp2_with fail
          clear hcP
          go_loopw [3, 42] (fun l i wr => ∃ (k : Nat) (v : Value), k ≤ Q.length ∧ l = v ∧ i = .int .i64 k ∧ Hid (wr.ownsRow w1.heap.size 9 1 v (T1 ++ whosA Q k).length ((T1 ++ whosA Q k).map encStr)) ∧ Below w1.heap.size w1 wr) (fun _ i _ => Q.length - (intOf i).toNat)
          case atStart => exact ⟨0, _, by omega, rfl, rfl, by simpa [whosA] using HO1, HB1.out⟩
          case round =>
            obtain ⟨k, v1, hk, rfl, rfl, hown, hbel⟩ := hrel
            have zr := hbel.size
            have hlq := HAL.out k
            by_cases hlt : k < Q.length
            · have d1 : decide ((k : Int) < Q.length) = true := by simp; omega
              have p1 : (0 : Int) ≤ k := by omega
              have p2 : (k : Int) < Q.length := by omega
              have hlq2 := HAL.out (k + 1)
              rw [whosA_succ hlt, List.length_append] at hlq2
              obtain ⟨g, o, e1, hg, hc⟩ := (HPW.out _ hbel).q (by show 0 < Q.length; omega)
              obtain rfl := e1
              obtain ⟨B, cB, a0, a1, a2, a3, a4, a5, hrow⟩ := hc k hlt
              have HR : Hid (∀ w', SRow w' B Q[k].who → Calls Tryz.prog 128 #[.agg #[.int .i64 Q[k].kind, .string Q[k].a.owner, .string Q[k].a.name, .string Q[k].b.owner, .string Q[k].b.name, .slice B Q[k].who.length cB]] w' (QryO.PrinsPost Q[k].who w')) := Lib.hid (fun w' hr => QryO.prins Q[k] B cB w' (by omega) hr)
              have Hs := Lib.hid (whosA_succ hlt)
              have HRow := Lib.hid (hrow.keep ((Below.refl _ wr).alloc (Nat.le_refl _) (.cells #[.int .i64 Q[k].kind, .string Q[k].a.owner, .string Q[k].a.name, .string Q[k].b.owner, .string Q[k].b.name, .slice B Q[k].who.length cB] 42)))
              clear hc hrow
              go_wp2_with fail
              refine (HR.out _ HRow.out).mono ?_
              rintro e w2 ⟨A5, c5, rfl, hr, hg2⟩
              have hb2 : Below wr.heap.size wr w2 := ((Below.refl _ wr).alloc (Nat.le_refl _) _).trans (hg2.mono (by simp))
              have hownW := own_at hown.out hb2
              have hbelW := hbel.trans (hb2.mono zr)
              have zW : w1.heap.size ≤ w2.heap.size := by have := hb2.size; omega
              have H0 := Lib.hid (fun h : A5 = none => by rw [h] at hr; exact srow_none_len hr)
              have H1 := Lib.hid (srow_cells hr)
              clear hr hg2 hb2 hown hbel a0 a1 a2 a3 a4 a5
              go_wp2_with (at_builtin; refine wpList_append_from _ rfl _ _ 32 rfl w1.heap.size 9 i0 (.string ⟨#[]⟩) 1 16 Tryz.underlying32 hi hz0 hz1 hz2 rfl (by decide) _ _ _ rfl hownW A5 Q[k].who.length c5 (Q[k].who.map encStr) rfl (by simp) H0.out H1.out (enc_one _) (by unfold maxLen; first | omega | (simp only [List.length_append]; omega)) (by first | omega | (simp only [List.length_append]; omega)) zW ?_)
              intro v2 w3 hown3 hgrow
              have hbel3 := hbelW.grown hgrow (by simpa using zW) (fun k hk => (hownW.lt k hk).1)
              have HO4 : Hid (w3.ownsRow w1.heap.size 9 1 v2 (T1 ++ whosA Q (k + 1)).length ((T1 ++ whosA Q (k + 1)).map encStr)) := Lib.hid (by
                rw [Hs.out, ← List.append_assoc, List.length_append, List.length_append, List.map_append, List.map_append]; simpa using hown3)
              clear hownW hbelW hgrow hown3
              go_wp2_with fail
              go_roundw
              case rel => exact ⟨k + 1, v2, by omega, rfl, by go_num, HO4, hbel3⟩
              case measure => simp [intOf]; omega
            · have d1 : decide ((k : Int) < Q.length) = false := by simp; omega
              have hkQ : k = Q.length := by omega
              subst hkQ
              obtain ⟨A', c', rfl, _, hrow⟩ := SRow.of_own hown.out
              have HN := Lib.hid (Tab1.new A' c' (T1 ++ whosA Q Q.length) wr (by simp; omega) hrow)
              have HTT : Hid (T1 ++ whosA Q Q.length = TT) := HT
              have hlen : (T1 ++ whosA Q Q.length).length ≤ 1000000 := by simp; omega
              have HB2 := Lib.hid (HB0.out.trans (hbel.mono (by omega : w.heap.size ≤ w1.heap.size)))
              generalize T1 ++ whosA Q Q.length = TL at *
              obtain rfl := HTT.out
              have zq := HB2.out.size
              clear hrow hown hbel HTT
              go_wp2_with fail
              refine HN.out.mono ?_
              rintro e w4 ⟨q, rfl, htab, hb4⟩
              have HA := Lib.hid (tab_all htab (Nat.le_trans (tab_len_le _) hlen))
              clear htab
              go_wp2_with fail
              refine HA.out.mono ?_
              rintro e w5 ⟨v5, rfl, hown5, hb5⟩
              have hfin : w5.ownsRow w.heap.size 9 1 v5 (tab TL).length ((tab TL).map encStr) := SynH.own_base hown5 (by have := hb4.size; omega)
              have hbf := HB2.out.trans ((hb4.trans (hb5.mono hb4.size)).mono zq)
              clear hown5 hb4 hb5
              go_wp2_with fail
              go_ret
              exact ⟨v5, rfl, hfin, hbf⟩
set_option maxHeartbeats 2000000 in
set_option maxRecDepth 100000 in
theorem names (p : Py) (A1 A2 A3 A4 : Option Addr) (c1 c2 c3 c4 : Nat) (w : World) (hf : p.fit) (hp : PG w A1 A2 A3 A4 p) : Calls Tryz.prog 85 #[p.val A1 A2 A3 A4 c1 c2 c3 c4] w (RowPost (tab (namesT p)) w) := by
  obtain ⟨i0, hi, hz0, hz1, hz2⟩ := info_parts Tab3.infoStr
  have HRO := Lib.hid (fun w' h => PolG.roles p A1 A2 A3 A4 c1 c2 c3 c4 w' hf h)
  have hRl := rolesP_len hf
  have hal := whosA_len hf.f5
  have n1 := hf.n1
  have n4 := hf.n4
  have HP := Lib.hid hp
  obtain ⟨TT, hTT⟩ : ∃ TT, namesT p = TT := ⟨_, rfl⟩
  rw [hTT]
  unfold namesT at hTT
  have HT := Lib.hid hTT
  clear hTT
  generalize hRR : rolesP p = R at *
  unfold RolesP at HRO
  rw [hRR] at HRO
  obtain ⟨S, G, H, Q⟩ := p
  simp only at n1 n4 HT hal
  have HAL := Lib.hid hal
  clear hp hf hRR hal
  unfold Py.val at *
  simp only at HRO ⊢
  go_enter Tryz.func85, Tryz.ntmps85
  go_wp2_with fail
  refine (HRO.out _ (HP.out.below ((Below.refl _ _).alloc (Nat.le_refl _) _))).mono ?_
  rintro e w1 ⟨A, cA, rfl, hrat, hb1⟩
  have hcP1 : ∀ o, w1.cell? ⟨w.heap.size, o, none⟩ = (#[.slice A1 S.length c1, .slice A2 G.length c2, .slice A3 H.length c3, .slice A4 Q.length c4] : Array Value)[o]? := fun o => by rw [hb1.cell (by simp), Lib.cell_of_heap (heap_alloc_new w _)]
  have z1 : w.heap.size + 1 ≤ w1.heap.size := by have := hb1.size; simpa using this
  have hb01 : Below w.heap.size w w1 := ((Below.refl w.heap.size w).alloc (Nat.le_refl _) _).trans (hb1.mono (by simp))
  have HPW := Lib.hid (fun (wr : World) (h : Below w1.heap.size w1 wr) => (HP.out.below (hb01.trans (h.mono (by omega)))))
  have HCP := Lib.hid (fun (wr : World) (h : Below w1.heap.size w1 wr) (o : Nat) => (h.cell (p := ⟨w.heap.size, o, none⟩) (by show w.heap.size < _; omega)).trans (hcP1 o))
  have HRT := Lib.hid (RG.of_rat hrat)
  have HB0 := Lib.hid hb01
  clear hrat hb1 hb01 hcP1 HP
  go_wp2_with fail
  go_loopw [3, 11] (fun l i wr => ∃ (k : Nat) (v : Value), k ≤ R.length ∧ l = v ∧ i = .int .i64 k ∧ Hid (wr.ownsRow w1.heap.size 9 1 v (namesR R k).length ((namesR R k).map encStr)) ∧ Below w1.heap.size w1 wr) (fun _ i _ => R.length - (intOf i).toNat)
  case atStart => exact ⟨0, _, by omega, rfl, rfl, Lib.hid (World.ownsRow_nil _ _ _ _), Below.refl _ _⟩
  case round =>
    obtain ⟨k, v1, hk, rfl, rfl, hown, hbel⟩ := hrel
    have zr := hbel.size
    have hlk := namesR_len R k
    by_cases hlt : k < R.length
    · have d1 : decide ((k : Int) < R.length) = true := by simp; omega
      have p1 : (0 : Int) ≤ k := by omega
      have p2 : (k : Int) < R.length := by omega
      obtain ⟨g, o, e1, hg, hc⟩ := (HRT.out.below hbel) (by omega)
      obtain rfl := e1
      obtain ⟨a0, a1⟩ := hc k hlt
      have Hs := Lib.hid (namesR_succ hlt)
      have hb2 : Below wr.heap.size wr ((wr.alloc (.cells #[.string R[k].owner, .string R[k].name] 28)).alloc (.cells #[.string R[k].name] 9)) := ((Below.refl _ wr).alloc (Nat.le_refl _) _).alloc (by simp) _
      have hownW := own_at hown.out hb2
      have hbelW := hbel.trans (hb2.mono zr)
      have zW : w1.heap.size ≤ ((wr.alloc (.cells #[.string R[k].owner, .string R[k].name] 28)).alloc (.cells #[.string R[k].name] 9)).heap.size := by simp; omega
      have H1 := Lib.hid (one_src (X := wr.alloc (.cells #[.string R[k].owner, .string R[k].name] 28)) (n := wr.heap.size + 1) (by simp) R[k].name 9)
      clear hc hb2 hown hbel
      go_wp2_with (at_builtin; refine wpList_append_from _ rfl _ _ 32 rfl w1.heap.size 9 i0 (.string ⟨#[]⟩) 1 16 Tryz.underlying32 hi hz0 hz1 hz2 rfl (by decide) _ _ _ rfl hownW (some ⟨wr.heap.size + 1, 0, none⟩) 1 1 [Value.string R[k].name] rfl rfl (fun h => by cases h) H1.out (fun u hu => by simp at hu; subst hu; rfl) (by unfold maxLen; first | omega | (simp only [List.length_append]; omega)) (by first | omega | (simp only [List.length_append]; omega)) zW ?_)
      intro v2 w3 hown3 hgrow
      have hbel3 := hbelW.grown hgrow (by simpa using zW) (fun k hk => (hownW.lt k hk).1)
      have HO4 : Hid (w3.ownsRow w1.heap.size 9 1 v2 (namesR R (k + 1)).length ((namesR R (k + 1)).map encStr)) := Lib.hid (by
        rw [Hs.out, List.length_append, List.map_append]; simpa [enc_bt] using hown3)
      clear hownW hbelW hgrow hown3
      go_wp2_with fail
      go_roundw
      case rel => exact ⟨k + 1, v2, by omega, rfl, by go_num, HO4, hbel3⟩
      case measure => simp [intOf]; omega
    · have d1 : decide ((k : Int) < R.length) = false := by simp; omega
      have hkR : k = R.length := by omega
      subst hkR
      have hcP := HCP.out _ hbel
      obtain ⟨T0, hT0⟩ : ∃ T0, namesR R R.length = T0 := ⟨_, rfl⟩
      rw [hT0] at hown HT hlk
      have HO := hown
      have HB := Lib.hid hbel
      clear hT0 hown hbel
      go_wp2_with fail
      clear hcP
      go_loopw [3, 24] (fun l i wr => ∃ (k : Nat) (v : Value), k ≤ S.length ∧ l = v ∧ i = .int .i64 k ∧ Hid (wr.ownsRow w1.heap.size 9 1 v (T0 ++ viasS S k).length ((T0 ++ viasS S k).map encStr)) ∧ Below w1.heap.size w1 wr) (fun _ i _ => S.length - (intOf i).toNat)
      case atStart => exact ⟨0, _, by omega, rfl, rfl, by simpa [viasS] using HO, HB.out⟩
      case round =>
        obtain ⟨k, v1, hk, rfl, rfl, hown, hbel⟩ := hrel
        have zr := hbel.size
        have hls := viasS_len S k
        by_cases hlt : k < S.length
        · have d1 : decide ((k : Int) < S.length) = true := by simp; omega
          have p1 : (0 : Int) ≤ k := by omega
          have p2 : (k : Int) < S.length := by omega
          obtain ⟨g, o, e1, hg, hc⟩ := (HPW.out _ hbel).s (by show 0 < S.length; omega)
          obtain rfl := e1
          obtain ⟨a0, a1, a2, a3, a4, a5, a6, a7, a8⟩ := hc k hlt
          by_cases hkd : S[k].kind = 3
          · have Hs := Lib.hid (viasS_yes hlt hkd)
            have d2 : (S[k].kind == 3) = true := by simp [hkd]
            have hb2 : Below wr.heap.size wr ((wr.alloc (.cells #[.int .i64 S[k].kind, .string S[k].head.owner, .string S[k].head.name, .string S[k].who, .string S[k].a.owner, .string S[k].a.name, .string S[k].b.owner, .string S[k].b.name, .string S[k].via] 67)).alloc (.cells #[.string S[k].via] 9)) := ((Below.refl _ wr).alloc (Nat.le_refl _) _).alloc (by simp) _
            have hownW := own_at hown.out hb2
            have hbelW := hbel.trans (hb2.mono zr)
            have zW : w1.heap.size ≤ ((wr.alloc (.cells #[.int .i64 S[k].kind, .string S[k].head.owner, .string S[k].head.name, .string S[k].who, .string S[k].a.owner, .string S[k].a.name, .string S[k].b.owner, .string S[k].b.name, .string S[k].via] 67)).alloc (.cells #[.string S[k].via] 9)).heap.size := by simp; omega
            have H1 := Lib.hid (one_src (X := wr.alloc (.cells #[.int .i64 S[k].kind, .string S[k].head.owner, .string S[k].head.name, .string S[k].who, .string S[k].a.owner, .string S[k].a.name, .string S[k].b.owner, .string S[k].b.name, .string S[k].via] 67)) (n := wr.heap.size + 1) (by simp) S[k].via 9)
            clear hc hb2 hown hbel hkd
            go_wp2_with (at_builtin; refine wpList_append_from _ rfl _ _ 32 rfl w1.heap.size 9 i0 (.string ⟨#[]⟩) 1 16 Tryz.underlying32 hi hz0 hz1 hz2 rfl (by decide) _ _ _ rfl hownW (some ⟨wr.heap.size + 1, 0, none⟩) 1 1 [Value.string S[k].via] rfl rfl (fun h => by cases h) H1.out (fun u hu => by simp at hu; subst hu; rfl) (by unfold maxLen; first | omega | (simp only [List.length_append]; omega)) (by first | omega | (simp only [List.length_append]; omega)) zW ?_)
            intro v2 w3 hown3 hgrow
            have hbel3 := hbelW.grown hgrow (by simpa using zW) (fun k hk => (hownW.lt k hk).1)
            have HO4 : Hid (w3.ownsRow w1.heap.size 9 1 v2 (T0 ++ viasS S (k + 1)).length ((T0 ++ viasS S (k + 1)).map encStr)) := Lib.hid (by
              rw [Hs.out, ← List.append_assoc, List.length_append, List.length_append, List.map_append]; simpa [enc_bt] using hown3)
            clear hownW hbelW hgrow hown3
            go_wp2_with fail
            go_roundw
            case rel => exact ⟨k + 1, v2, by omega, rfl, by go_num, HO4, hbel3⟩
            case measure => simp [intOf]; omega
          · have HO4 := hown
            rw [← viasS_no hlt hkd] at HO4
            have d2 : (S[k].kind == 3) = false := by simpa using hkd
            have HOB := Lib.hid (own_at HO4.out ((Below.refl _ wr).alloc (Nat.le_refl _) (.cells #[.int .i64 S[k].kind, .string S[k].head.owner, .string S[k].head.name, .string S[k].who, .string S[k].a.owner, .string S[k].a.name, .string S[k].b.owner, .string S[k].b.name, .string S[k].via] 67)))
            have hbelW := hbel.alloc zr (.cells #[.int .i64 S[k].kind, .string S[k].head.owner, .string S[k].head.name, .string S[k].who, .string S[k].a.owner, .string S[k].a.name, .string S[k].b.owner, .string S[k].b.name, .string S[k].via] 67)
            clear hc hown hbel hkd HO4
            go_wp2_with fail
            go_roundw
            case rel => exact ⟨k + 1, _, by omega, rfl, by go_num, HOB, hbelW⟩
            case measure => simp [intOf]; omega
        · have d1 : decide ((k : Int) < S.length) = false := by simp; omega
          have hkS : k = S.length := by omega
          subst hkS
          obtain ⟨A', c', rfl, _, hrow⟩ := SRow.of_own hown.out
          have HN := Lib.hid (Tab1.new A' c' (T0 ++ viasS S S.length) wr (by simp; omega) hrow)
          have HTT : Hid (T0 ++ viasS S S.length = TT) := HT
          have hlen : (T0 ++ viasS S S.length).length ≤ 1000000 := by simp; omega
          have HB2 := Lib.hid (HB0.out.trans (hbel.mono (by omega : w.heap.size ≤ w1.heap.size)))
          generalize T0 ++ viasS S S.length = TL at *
          obtain rfl := HTT.out
          have zq := HB2.out.size
          clear hrow hown hbel HTT
          go_wp2_with fail
          refine HN.out.mono ?_
          rintro e w4 ⟨q, rfl, htab, hb4⟩
          have HA := Lib.hid (tab_all htab (Nat.le_trans (tab_len_le _) hlen))
          clear htab
          go_wp2_with fail
          refine HA.out.mono ?_
          rintro e w5 ⟨v5, rfl, hown5, hb5⟩
          have hfin : w5.ownsRow w.heap.size 9 1 v5 (tab TL).length ((tab TL).map encStr) := SynH.own_base hown5 (by have := hb4.size; omega)
          have hbf := HB2.out.trans ((hb4.trans (hb5.mono hb4.size)).mono zq)
          clear hown5 hb4 hb5
          go_wp2_with fail
          go_ret
          exact ⟨v5, rfl, hfin, hbf⟩
end Go.Proofs.YtblapgfilbmdhaaGreatDoor.PolH
namespace Go.Proofs.YtblapgfilbmdhaaGreatDoor.RefPr
open Go.RowKit Go.Sort Go.Lib Go.Proofs Plain SynP TabP Tab1 Tab4 Tab5 Grown SynC SynJ QryP PolA PolE PolG PolH RefRo
def fold (T : List Str) : List Str := T.foldl putL []
theorem fold_snoc (T : List Str) (s : Str) : fold (T ++ [s]) = putL (fold T) s := by unfold fold; rw [List.foldl_append]; rfl
theorem fold_len (T : List Str) : (fold T).length ≤ T.length := by
  have := newTo_len T T.length (Nat.le_refl _)
  unfold newTo at this
  rwa [List.take_length] at this
theorem fold_tab (T : List Str) : fold T = tab T := by
  have := newTo_tab T
  unfold newTo at this
  rwa [List.take_length] at this
theorem rolesR_len {p : Py} (hf : p.fit) : (rolesR p).length ≤ 7000 := by
  have h := rolesP_len hf
  unfold rolesP at h; unfold rolesR
  simp only [List.length_append] at h ⊢; omega
def viasF (P : List Str) (S : List St) (k : Nat) : List Str := fold (P ++ viasS S k)
def whosF (P : List Str) (S : List St) (k : Nat) : List Str := fold (P ++ whosS S k)
def namesF (R : List Rl) (k : Nat) : List Str := fold (namesR R k)
def ownersF (R : List Rl) (k : Nat) : List Str := fold (ownersR R k)
def namesD (p : Py) : List Str := namesR (rolesR p) (rolesR p).length ++ viasS p.stmts p.stmts.length
theorem bt_list (x : ByteArray) : x.toList = bt x := by rw [Go.ByteArray.toList_eq]; rfl
set_option maxHeartbeats 2000000 in
set_option maxRecDepth 100000 in
theorem namesRef (p : Py) (A1 A2 A3 A4 : Option Addr) (c1 c2 c3 c4 : Nat) (w : World) (hf : p.fit) (hp : PG w A1 A2 A3 A4 p) : Calls Tryz.prog 12 #[p.val A1 A2 A3 A4 c1 c2 c3 c4] w (RowPost (fold (namesD p)) w) := by
  have HRO := Lib.hid (fun w' h => rolesRef p A1 A2 A3 A4 c1 c2 c3 c4 w' hf h)
  have hRl := rolesR_len hf
  have n1 := hf.n1
  have HP := Lib.hid hp
  unfold namesD
  generalize rolesR p = R at *
  obtain ⟨S, G, H, Q⟩ := p
  simp only at n1
  clear hp hf
  unfold Py.val at *
  simp only at HRO ⊢
  obtain ⟨TT, hTT⟩ : ∃ TT, fold (namesR R R.length ++ viasS S S.length) = TT := ⟨_, rfl⟩
  rw [hTT]
  have HT := Lib.hid hTT
  clear hTT
  go_enter Tryz.func12, Tryz.ntmps12
  go_wp2_with fail
  refine (HRO.out _ (HP.out.below ((Below.refl _ _).alloc (Nat.le_refl _) _))).mono ?_
  rintro e w1 ⟨A, cA, rfl, hrat, hb1⟩
  have hcP1 : ∀ o, w1.cell? ⟨w.heap.size, o, none⟩ = (#[.slice A1 S.length c1, .slice A2 G.length c2, .slice A3 H.length c3, .slice A4 Q.length c4] : Array Value)[o]? := fun o => by rw [hb1.cell (by simp), Lib.cell_of_heap (heap_alloc_new w _)]
  have z1 : w.heap.size + 1 ≤ w1.heap.size := by have := hb1.size; simpa using this
  have hb01 : Below w.heap.size w w1 := ((Below.refl w.heap.size w).alloc (Nat.le_refl _) _).trans (hb1.mono (by simp))
  have HPW := Lib.hid (fun (wr : World) (h : Below w1.heap.size w1 wr) => (HP.out.below (hb01.trans (h.mono (by omega)))))
  have HCP := Lib.hid (fun (wr : World) (h : Below w1.heap.size w1 wr) (o : Nat) => (h.cell (p := ⟨w.heap.size, o, none⟩) (by show w.heap.size < w1.heap.size; omega)).trans (hcP1 o))
  have HR := Lib.hid (fun (wr : World) (h : Below w1.heap.size w1 wr) => hrat.below h)
  have HB0 := Lib.hid hb01
  clear hrat hb1 hcP1 hb01
  go_wp2_with fail
  go_loopw [3, 11] (fun l i wr => ∃ (k : Nat) (v : Value), k ≤ R.length ∧ l = v ∧ i = .int .i64 k ∧ Hid (wr.ownsRow w1.heap.size 9 1 v (namesF R k).length ((namesF R k).map encStr)) ∧ Below w1.heap.size w1 wr) (fun _ i _ => R.length - (intOf i).toNat)
  case atStart => exact ⟨0, _, by omega, rfl, rfl, Lib.hid (by simpa [namesF, namesR, fold] using World.ownsRow_nil w1 w1.heap.size 9 1), Below.refl _ _⟩
  case round =>
    obtain ⟨k, v1, hk, rfl, rfl, hown, hbel⟩ := hrel
    have zr := hbel.size
    have hlen : (namesF R k).length ≤ R.length := by unfold namesF; have := fold_len (namesR R k); have := namesR_len R k; omega
    by_cases hlt : k < R.length
    · have d1 : decide ((k : Int) < R.length) = true := by simp; omega
      have p1 : (0 : Int) ≤ k := by omega
      have p2 : (k : Int) < R.length := by omega
      obtain ⟨g, e1, hg, hc⟩ := (HR.out _ hbel) (by omega)
      obtain rfl := e1
      obtain ⟨a0, a1⟩ := hc k hlt
      have HS : Hid (namesF R (k + 1) = putL (namesF R k) (bt R[k].name)) := Lib.hid (by unfold namesF; rw [namesR_succ hlt, fold_snoc])
      have hb2 : Below wr.heap.size wr (wr.alloc (.cells #[.string R[k].owner, .string R[k].name] 28)) := (Below.refl _ wr).alloc (Nat.le_refl _) _
      have hownW := own_at hown.out hb2
      have hbelW := Lib.hid (hbel.trans (hb2.mono zr))
      obtain ⟨A1', k1', rfl, _, _⟩ := SRow.of_own hownW
      have HPut := Lib.hid (put w1.heap.size A1' k1' _ R[k].name _ (by omega) hbelW.out.size hownW)
      clear hc hown hbel hb2 hownW
      go_wp2_with fail
      refine HPut.out.mono ?_
      rintro e w3 ⟨v3, rfl, hown3, hb3⟩
      rw [bt_list, ← HS.out] at hown3
      have HO3 := Lib.hid hown3
      have HB3 := Lib.hid (hbelW.out.trans hb3)
      clear hown3 hb3 a0 a1
      go_wp2_with fail
      go_roundw
      case rel => exact ⟨k + 1, v3, by omega, rfl, by go_num, HO3, HB3.out⟩
      case measure => simp [intOf]; omega
    · have d1 : decide ((k : Int) < R.length) = false := by simp; omega
      have hkR : k = R.length := by omega
      subst hkR
      have hcP := HCP.out _ hbel
      obtain ⟨T0, hT0⟩ : ∃ T0, namesR R R.length = T0 := ⟨_, rfl⟩
      have hl0 : T0.length ≤ R.length := by rw [← hT0]; exact namesR_len R R.length
      have hown0 := hown.out
      unfold namesF at hown0
      have e0 : fold (namesR R R.length) = viasF T0 S 0 := by rw [hT0]; unfold viasF; simp [viasS]
      rw [e0] at hown0
      clear e0
      rw [hT0] at HT
      have HO := Lib.hid hown0
      have HB := Lib.hid hbel
      clear hT0 hown hbel hown0
      go_wp2_with fail
      clear hcP
      go_loopw [3, 23] (fun l i wr => ∃ (k : Nat) (v : Value), k ≤ S.length ∧ l = v ∧ i = .int .i64 k ∧ Hid (wr.ownsRow w1.heap.size 9 1 v (viasF T0 S k).length ((viasF T0 S k).map encStr)) ∧ Below w1.heap.size w1 wr) (fun _ i _ => S.length - (intOf i).toNat)
      case atStart => exact ⟨0, _, by omega, rfl, rfl, HO, HB.out⟩
      case round =>
        clear HO HB hlen
        obtain ⟨k, v1, hk, rfl, rfl, hown, hbel⟩ := hrel
        have zr := hbel.size
        have hlen : (viasF T0 S k).length ≤ T0.length + S.length := by unfold viasF; have h := fold_len (T0 ++ viasS S k); have h2 := viasS_len S k; rw [List.length_append] at h; omega
        by_cases hlt : k < S.length
        · have d1 : decide ((k : Int) < S.length) = true := by simp; omega
          have p1 : (0 : Int) ≤ k := by omega
          have p2 : (k : Int) < S.length := by omega
          obtain ⟨g, o, e1, hg, hc⟩ := (HPW.out _ hbel).s (by show 0 < S.length; omega)
          obtain rfl := e1
          obtain ⟨a0, a1, a2, a3, a4, a5, a6, a7, a8⟩ := hc k hlt
          simp only at a0 a1 a2 a3 a4 a5 a6 a7 a8
          have hb2 : Below wr.heap.size wr (wr.alloc (.cells #[.int .i64 S[k].kind, .string S[k].head.owner, .string S[k].head.name, .string S[k].who, .string S[k].a.owner, .string S[k].a.name, .string S[k].b.owner, .string S[k].b.name, .string S[k].via] 67)) := (Below.refl _ wr).alloc (Nat.le_refl _) _
          have hownW := own_at hown.out hb2
          have hbelW := Lib.hid (hbel.trans (hb2.mono zr))
          clear hc
          by_cases hkd : S[k].kind = 3
          · have HS : Hid (viasF T0 S (k + 1) = putL (viasF T0 S k) (bt S[k].via)) := Lib.hid (by unfold viasF; rw [viasS_yes hlt hkd, ← List.append_assoc, fold_snoc])
            have d2 : (S[k].kind == 3) = true := by simpa using hkd
            obtain ⟨A1', k1', rfl, _, _⟩ := SRow.of_own hownW
            have HPut := Lib.hid (put w1.heap.size A1' k1' _ S[k].via _ (by omega) hbelW.out.size hownW)
            clear hown hbel hb2 hownW hkd
            go_wp2_with fail
            refine HPut.out.mono ?_
            rintro e w3 ⟨v3, rfl, hown3, hb3⟩
            rw [bt_list, ← HS.out] at hown3
            have HO3 := Lib.hid hown3
            have HB3 := Lib.hid (hbelW.out.trans hb3)
            clear hown3 hb3 a0 a1 a2 a3 a4 a5 a6 a7 a8
            go_wp2_with fail
            go_roundw
            case rel => exact ⟨k + 1, v3, by omega, rfl, by go_num, HO3, HB3.out⟩
            case measure => simp [intOf]; omega
          · have HS : Hid (viasF T0 S (k + 1) = viasF T0 S k) := Lib.hid (by unfold viasF; rw [viasS_no hlt hkd])
            have d2 : (S[k].kind == 3) = false := by simpa using hkd
            rw [← HS.out] at hownW
            have HO3 := Lib.hid hownW
            clear hown hbel hb2 hownW hkd
            go_wp2_with fail
            go_roundw
            case rel => exact ⟨k + 1, _, by omega, rfl, by go_num, HO3, hbelW.out⟩
            case measure => simp [intOf]; omega
        · have d1 : decide ((k : Int) < S.length) = false := by simp; omega
          have hkS : k = S.length := by omega
          subst hkS
          have h := hown.out
          unfold viasF at h
          rw [HT.out] at h
          have hfin := Lib.hid (SynH.own_base h (B' := w.heap.size) (by omega))
          have hbf := Lib.hid (HB0.out.trans (hbel.mono (by omega)))
          clear h hown hbel
          go_wp2_with fail
          go_ret
          exact ⟨_, rfl, hfin.out, hbf.out⟩
end Go.Proofs.YtblapgfilbmdhaaGreatDoor.RefPr
namespace Go.Proofs.YtblapgfilbmdhaaGreatDoor.RefPq
open Go.RowKit Go.Sort Go.Lib Go.Proofs Plain SynP TabP Tab1 Tab4 Tab5 Grown SynC SynJ QryP PolA PolE PolG PolH RefRo RefPr
def whosAF (P : List Str) (Q : List Qy) (k : Nat) : List Str := fold (P ++ whosA Q k)
def innF (P : List Str) (Q : List Qy) (k : Nat) (U : List Str) (j : Nat) : List Str := fold (P ++ whosA Q k ++ U.take j)
theorem innF_succ (P : List Str) (Q : List Qy) (k : Nat) (U : List Str) (j : Nat) (h : j < U.length) : innF P Q k U (j + 1) = putL (innF P Q k U j) U[j] := by
  unfold innF; rw [List.take_succ_eq_append_getElem h, ← List.append_assoc, fold_snoc]
theorem innF_len (P : List Str) (Q : List Qy) (k : Nat) (U : List Str) (j : Nat) : (innF P Q k U j).length ≤ P.length + (whosA Q k).length + U.length := by
  unfold innF
  have h := fold_len (P ++ whosA Q k ++ U.take j)
  simp only [List.length_append, List.length_take] at h; omega
def prinsD (p : Py) : List Str := ownersR (rolesR p) (rolesR p).length ++ whosS p.stmts p.stmts.length ++ whosA p.asks p.asks.length
set_option maxHeartbeats 2000000 in
set_option maxRecDepth 100000 in
theorem prinsRef (p : Py) (A1 A2 A3 A4 : Option Addr) (c1 c2 c3 c4 : Nat) (w : World) (hf : p.fit) (h4 : p.asks.length ≤ 500) (hp : PG w A1 A2 A3 A4 p) : Calls Tryz.prog 11 #[p.val A1 A2 A3 A4 c1 c2 c3 c4] w (RowPost (fold (prinsD p)) w) := by
  have HRO := Lib.hid (fun w' h => rolesRef p A1 A2 A3 A4 c1 c2 c3 c4 w' hf h)
  have hRl := rolesR_len hf
  have n1 := hf.n1
  have n4 := hf.n4
  have hal := whosA_len hf.f5
  have hf5 := hf.f5
  have HP := Lib.hid hp
  unfold prinsD
  generalize rolesR p = R at *
  obtain ⟨S, G, H, Q⟩ := p
  simp only at n1 n4 hal hf5 h4
  have HAL := Lib.hid hal
  have HF5 := Lib.hid hf5
  clear hal hf5
  clear hp hf
  unfold Py.val at *
  simp only at HRO ⊢
  obtain ⟨TT, hTT⟩ : ∃ TT, fold (ownersR R R.length ++ whosS S S.length ++ whosA Q Q.length) = TT := ⟨_, rfl⟩
  rw [hTT]
  have HT := Lib.hid hTT
  clear hTT
  go_enter Tryz.func11, Tryz.ntmps11
  go_wp2_with fail
  refine (HRO.out _ (HP.out.below ((Below.refl _ _).alloc (Nat.le_refl _) _))).mono ?_
  rintro e w1 ⟨A, cA, rfl, hrat, hb1⟩
  have hcP1 : ∀ o, w1.cell? ⟨w.heap.size, o, none⟩ = (#[.slice A1 S.length c1, .slice A2 G.length c2, .slice A3 H.length c3, .slice A4 Q.length c4] : Array Value)[o]? := fun o => by rw [hb1.cell (by simp), Lib.cell_of_heap (heap_alloc_new w _)]
  have z1 : w.heap.size + 1 ≤ w1.heap.size := by have := hb1.size; simpa using this
  have hb01 : Below w.heap.size w w1 := ((Below.refl w.heap.size w).alloc (Nat.le_refl _) _).trans (hb1.mono (by simp))
  have HPW := Lib.hid (fun (wr : World) (h : Below w1.heap.size w1 wr) => (HP.out.below (hb01.trans (h.mono (by omega)))))
  have HCP := Lib.hid (fun (wr : World) (h : Below w1.heap.size w1 wr) (o : Nat) => (h.cell (p := ⟨w.heap.size, o, none⟩) (by show w.heap.size < w1.heap.size; omega)).trans (hcP1 o))
  have HR := Lib.hid (fun (wr : World) (h : Below w1.heap.size w1 wr) => hrat.below h)
  have HB0 := Lib.hid hb01
  clear hrat hb1 hcP1 hb01
  go_wp2_with fail
  go_loopw [3, 15] (fun l i wr => ∃ (k : Nat) (v : Value), k ≤ R.length ∧ l = v ∧ i = .int .i64 k ∧ Hid (wr.ownsRow w1.heap.size 9 1 v (ownersF R k).length ((ownersF R k).map encStr)) ∧ Below w1.heap.size w1 wr) (fun _ i _ => R.length - (intOf i).toNat)
  case atStart => exact ⟨0, _, by omega, rfl, rfl, Lib.hid (by simpa [ownersF, ownersR, fold] using World.ownsRow_nil w1 w1.heap.size 9 1), Below.refl _ _⟩
  case round =>
    obtain ⟨k, v1, hk, rfl, rfl, hown, hbel⟩ := hrel
    have zr := hbel.size
    have hlen : (ownersF R k).length ≤ R.length := by unfold ownersF; have := fold_len (ownersR R k); have := ownersR_len R k; omega
    by_cases hlt : k < R.length
    · have d1 : decide ((k : Int) < R.length) = true := by simp; omega
      have p1 : (0 : Int) ≤ k := by omega
      have p2 : (k : Int) < R.length := by omega
      obtain ⟨g, e1, hg, hc⟩ := (HR.out _ hbel) (by omega)
      obtain rfl := e1
      obtain ⟨a0, a1⟩ := hc k hlt
      have HS : Hid (ownersF R (k + 1) = putL (ownersF R k) (bt R[k].owner)) := Lib.hid (by unfold ownersF; rw [ownersR_succ hlt, fold_snoc])
      have hb2 : Below wr.heap.size wr (wr.alloc (.cells #[.string R[k].owner, .string R[k].name] 28)) := (Below.refl _ wr).alloc (Nat.le_refl _) _
      have hownW := own_at hown.out hb2
      have hbelW := Lib.hid (hbel.trans (hb2.mono zr))
      obtain ⟨A1', k1', rfl, _, _⟩ := SRow.of_own hownW
      have HPut := Lib.hid (put w1.heap.size A1' k1' _ R[k].owner _ (by omega) hbelW.out.size hownW)
      clear hc hown hbel hb2 hownW
      go_wp2_with fail
      refine HPut.out.mono ?_
      rintro e w3 ⟨v3, rfl, hown3, hb3⟩
      rw [bt_list, ← HS.out] at hown3
      have HO3 := Lib.hid hown3
      have HB3 := Lib.hid (hbelW.out.trans hb3)
      clear hown3 hb3 a0 a1
      go_wp2_with fail
      go_roundw
      case rel => exact ⟨k + 1, v3, by omega, rfl, by go_num, HO3, HB3.out⟩
      case measure => simp [intOf]; omega
    · have d1 : decide ((k : Int) < R.length) = false := by simp; omega
      have hkR : k = R.length := by omega
      subst hkR
      have hcP := HCP.out _ hbel
      obtain ⟨T0, hT0⟩ : ∃ T0, ownersR R R.length = T0 := ⟨_, rfl⟩
      have hl0 : T0.length ≤ R.length := by rw [← hT0]; exact ownersR_len R R.length
      have hown0 := hown.out
      unfold ownersF at hown0
      have e0 : fold (ownersR R R.length) = whosF T0 S 0 := by rw [hT0]; unfold whosF; simp [whosS]
      rw [e0] at hown0
      clear e0
      rw [hT0] at HT
      have HO := Lib.hid hown0
      have HB := Lib.hid hbel
      clear hT0 hown hbel hown0
      go_wp2_with fail
      clear hcP
      go_loopw [3, 27] (fun l i wr => ∃ (k : Nat) (v : Value), k ≤ S.length ∧ l = v ∧ i = .int .i64 k ∧ Hid (wr.ownsRow w1.heap.size 9 1 v (whosF T0 S k).length ((whosF T0 S k).map encStr)) ∧ Below w1.heap.size w1 wr) (fun _ i _ => S.length - (intOf i).toNat)
      case atStart => exact ⟨0, _, by omega, rfl, rfl, HO, HB.out⟩
      case round =>
        clear HO HB hlen
        obtain ⟨k, v1, hk, rfl, rfl, hown, hbel⟩ := hrel
        have zr := hbel.size
        have hlen : (whosF T0 S k).length ≤ T0.length + S.length := by unfold whosF; have h := fold_len (T0 ++ whosS S k); have h2 := whosS_len S k; rw [List.length_append] at h; omega
        by_cases hlt : k < S.length
        · have d1 : decide ((k : Int) < S.length) = true := by simp; omega
          have p1 : (0 : Int) ≤ k := by omega
          have p2 : (k : Int) < S.length := by omega
          obtain ⟨g, o, e1, hg, hc⟩ := (HPW.out _ hbel).s (by show 0 < S.length; omega)
          obtain rfl := e1
          obtain ⟨a0, a1, a2, a3, a4, a5, a6, a7, a8⟩ := hc k hlt
          simp only at a0 a1 a2 a3 a4 a5 a6 a7 a8
          have hb2 : Below wr.heap.size wr (wr.alloc (.cells #[.int .i64 S[k].kind, .string S[k].head.owner, .string S[k].head.name, .string S[k].who, .string S[k].a.owner, .string S[k].a.name, .string S[k].b.owner, .string S[k].b.name, .string S[k].via] 67)) := (Below.refl _ wr).alloc (Nat.le_refl _) _
          have hownW := own_at hown.out hb2
          have hbelW := Lib.hid (hbel.trans (hb2.mono zr))
          clear hc
          by_cases hkd : S[k].kind = 1
          · have HS : Hid (whosF T0 S (k + 1) = putL (whosF T0 S k) (bt S[k].who)) := Lib.hid (by unfold whosF; rw [whosS_yes hlt hkd, ← List.append_assoc, fold_snoc])
            have d2 : (S[k].kind == 1) = true := by simpa using hkd
            obtain ⟨A1', k1', rfl, _, _⟩ := SRow.of_own hownW
            have HPut := Lib.hid (put w1.heap.size A1' k1' _ S[k].who _ (by omega) hbelW.out.size hownW)
            clear hown hbel hb2 hownW hkd
            go_wp2_with fail
            refine HPut.out.mono ?_
            rintro e w3 ⟨v3, rfl, hown3, hb3⟩
            rw [bt_list, ← HS.out] at hown3
            have HO3 := Lib.hid hown3
            have HB3 := Lib.hid (hbelW.out.trans hb3)
            clear hown3 hb3 a0 a1 a2 a3 a4 a5 a6 a7 a8
            go_wp2_with fail
            go_roundw
            case rel => exact ⟨k + 1, v3, by omega, rfl, by go_num, HO3, HB3.out⟩
            case measure => simp [intOf]; omega
          · have HS : Hid (whosF T0 S (k + 1) = whosF T0 S k) := Lib.hid (by unfold whosF; rw [whosS_no hlt hkd])
            have d2 : (S[k].kind == 1) = false := by simpa using hkd
            rw [← HS.out] at hownW
            have HO3 := Lib.hid hownW
            clear hown hbel hb2 hownW hkd
            go_wp2_with fail
            go_roundw
            case rel => exact ⟨k + 1, _, by omega, rfl, by go_num, HO3, hbelW.out⟩
            case measure => simp [intOf]; omega
        · have d1 : decide ((k : Int) < S.length) = false := by simp; omega
          have hkS : k = S.length := by omega
          subst hkS
          have hcP := HCP.out _ hbel
          obtain ⟨T1, hT1⟩ : ∃ T1, T0 ++ whosS S S.length = T1 := ⟨_, rfl⟩
          have hl1 : T1.length ≤ R.length + S.length := by rw [← hT1, List.length_append]; have := whosS_len S S.length; omega
          have hown0 := hown.out
          unfold whosF at hown0
          have e0 : fold (T0 ++ whosS S S.length) = whosAF T1 Q 0 := by rw [hT1]; unfold whosAF; simp [whosA]
          rw [e0] at hown0
          rw [hT1] at HT
          have HO := Lib.hid hown0
          have HB := Lib.hid hbel
          clear e0 hT1 hown hbel hown0
          go_wp2_with fail
          clear hcP
          go_loopw [3, 42] (fun l i wr => ∃ (k : Nat) (v : Value), k ≤ Q.length ∧ l = v ∧ i = .int .i64 k ∧ Hid (wr.ownsRow w1.heap.size 9 1 v (whosAF T1 Q k).length ((whosAF T1 Q k).map encStr)) ∧ Below w1.heap.size w1 wr) (fun _ i _ => Q.length - (intOf i).toNat)
          case atStart => exact ⟨0, _, by omega, rfl, rfl, HO, HB.out⟩
          case round =>
            clear HO HB hlen
            obtain ⟨k, v1, hk, rfl, rfl, hown, hbel⟩ := hrel
            have zr := hbel.size
            by_cases hlt : k < Q.length
            · have d1 : decide ((k : Int) < Q.length) = true := by simp; omega
              have p1 : (0 : Int) ≤ k := by omega
              have p2 : (k : Int) < Q.length := by omega
              have hq100 := HF5.out Q[k] (List.getElem_mem hlt)
              have hlq := HAL.out k
              obtain ⟨g, o, e1, hg, hc⟩ := (HPW.out w1 (Below.refl _ _)).q (by show 0 < Q.length; omega)
              obtain rfl := e1
              obtain ⟨B, cB, b0, b1, b2, b3, b4, b5, hrow⟩ := hc k hlt
              simp only at b0 b1 b2 b3 b4 b5 hrow
              have kk : ∀ {i : Nat} {u : Value}, w1.cell? ⟨g, i, none⟩ = some u → wr.cell? ⟨g, i, none⟩ = some u := fun {i u} e => (hbel.cell (p := ⟨g, i, none⟩) hg).trans e
              have a0 := kk b0
              have a1 := kk b1
              have a2 := kk b2
              have a3 := kk b3
              have a4 := kk b4
              have a5 := kk b5
              clear kk b0 b1 b2 b3 b4 b5
              have hb2 : Below wr.heap.size wr (wr.alloc (.cells #[.int .i64 Q[k].kind, .string Q[k].a.owner, .string Q[k].a.name, .string Q[k].b.owner, .string Q[k].b.name, .slice B Q[k].who.length cB] 42)) := (Below.refl _ wr).alloc (Nat.le_refl _) _
              have HO := Lib.hid (own_at hown.out hb2)
              have HBW := Lib.hid (hbel.trans (hb2.mono zr))
              have HRW := Lib.hid hrow
              have HS0 : Hid (innF T1 Q k Q[k].who 0 = whosAF T1 Q k) := Lib.hid (by unfold innF whosAF; simp)
              have HS1 : Hid (innF T1 Q k Q[k].who Q[k].who.length = whosAF T1 Q (k + 1)) := Lib.hid (by unfold innF whosAF; rw [whosA_succ hlt, List.take_length, List.append_assoc])
              rw [← HS0.out] at HO
              clear hc hown hbel hb2 hrow HS0
              obtain ⟨W2, hW2⟩ : ∃ W2, wr.alloc (.cells #[.int .i64 Q[k].kind, .string Q[k].a.owner, .string Q[k].a.name, .string Q[k].b.owner, .string Q[k].b.name, .slice B Q[k].who.length cB] 42) = W2 := ⟨_, rfl⟩
              have HW2 := Lib.hid hW2
              rw [hW2] at HO HBW
              clear hW2
              go_wp2_with fail
              rw [HW2.out]
              generalize Q[k].who = U at *
              go_loopw [3, 49] (fun l i wr => ∃ (j : Nat) (v : Value), j ≤ U.length ∧ l = v ∧ i = .int .i64 j ∧ Hid (wr.ownsRow w1.heap.size 9 1 v (innF T1 Q k U j).length ((innF T1 Q k U j).map encStr)) ∧ Below w1.heap.size w1 wr) (fun _ i _ => U.length - (intOf i).toNat)
              case atStart => exact ⟨0, _, by omega, rfl, rfl, HO, HBW.out⟩
              case round =>
                clear HO HBW HW2
                obtain ⟨j, v2, hj, rfl, rfl, hown, hbel⟩ := hrel
                have zr2 := hbel.size
                have hlen := innF_len T1 Q k U j
                by_cases hlu : j < U.length
                · have d2 : decide ((j : Int) < U.length) = true := by simp; omega
                  have p3 : (0 : Int) ≤ j := by omega
                  have p4 : (j : Int) < U.length := by omega
                  obtain ⟨g2, off, rfl, hg2, hcell⟩ := HRW.out (by omega)
                  have hx := (hbel.cell (p := ⟨g2, off + j, none⟩) hg2).trans (hcell j hlu)
                  have HS2 := Lib.hid (innF_succ T1 Q k U j hlu)
                  have he := Lib.hid (show (⟨U[j].toArray⟩ : ByteArray).toList = U[j] from by rw [Go.ByteArray.toList_eq])
                  have hown2 := hown.out
                  obtain ⟨A1', k1', rfl, _, _⟩ := SRow.of_own hown2
                  have HPut := Lib.hid (put w1.heap.size A1' k1' _ ⟨U[j].toArray⟩ _ (by omega) hbel.size hown2)
                  have HBE := Lib.hid hbel
                  clear hcell hown hown2 hbel a0 a1 a2 a3 a4 a5
                  go_wp2_with fail
                  refine HPut.out.mono ?_
                  rintro e w3 ⟨v3, rfl, hown3, hb3⟩
                  rw [he.out, ← HS2.out] at hown3
                  have HO3 := Lib.hid hown3
                  have HB3 := Lib.hid (HBE.out.trans hb3)
                  clear hown3 hb3
                  go_wp2_with fail
                  go_roundw
                  case rel => exact ⟨j + 1, v3, by omega, rfl, by go_num, HO3, HB3.out⟩
                  case measure => simp [intOf]; omega
                · have d2 : decide ((j : Int) < U.length) = false := by simp; omega
                  have hjU : j = U.length := by omega
                  subst hjU
                  have hown2 := hown.out
                  rw [HS1.out] at hown2
                  have HO3 := Lib.hid hown2
                  have HB3 := Lib.hid hbel
                  clear hown hown2 hbel a0 a1 a2 a3 a4 a5
                  go_wp2_with fail
                  go_roundw
                  case rel => exact ⟨k + 1, _, by omega, rfl, by go_num, HO3, HB3.out⟩
                  case measure => simp [intOf]; omega
            · have d1 : decide ((k : Int) < Q.length) = false := by simp; omega
              have hkQ : k = Q.length := by omega
              subst hkQ
              have h := hown.out
              unfold whosAF at h
              rw [HT.out] at h
              have hfin := Lib.hid (SynH.own_base h (B' := w.heap.size) (by omega))
              have hbf := Lib.hid (HB0.out.trans (hbel.mono (by omega)))
              clear h hown hbel
              go_wp2_with fail
              go_ret
              exact ⟨_, rfl, hfin.out, hbf.out⟩
end Go.Proofs.YtblapgfilbmdhaaGreatDoor.RefPq
namespace Go.Proofs.YtblapgfilbmdhaaGreatDoor.PolI
open Go.RowKit Go.Sort Go.Lib Go.Proofs Plain SynP TabP Tab1 Tab5 SynJ QryP PolA PolE PolG PolH
def fitsP (p : Py) : Bool := decide (p.stmts.length ≤ 80) && decide (p.grow.length ≤ 40) && decide (p.shrink.length ≤ 40) && decide (p.asks.length ≤ 16) && decide ((tab (prinsT p)).length ≤ 16) && decide ((tab (namesT p)).length ≤ 12)
end Go.Proofs.YtblapgfilbmdhaaGreatDoor.PolI
namespace Go.Proofs.YtblapgfilbmdhaaGreatDoor.RefFi
open Go.RowKit Go.Sort Go.Lib Go.Proofs Plain SynP TabP Tab1 Tab5 SynJ QryP PolA PolE PolG PolH PolI RefRo RefPr RefPq
theorem roles_mem (p : Py) (r : Rl) : r ∈ rolesR p ↔ r ∈ rolesP p := by
  unfold rolesR rolesP
  simp only [List.mem_append]
  constructor
  · rintro (((h | h) | h) | h) <;> simp [h]
  · rintro (((h | h) | h) | h) <;> simp [h]
theorem mem_owners (R : List Rl) (x : Str) : x ∈ ownersR R R.length ↔ ∃ r, r ∈ R ∧ bt r.owner = x := by
  unfold ownersR; rw [List.take_length, List.mem_map]
theorem mem_names (R : List Rl) (x : Str) : x ∈ namesR R R.length ↔ ∃ r, r ∈ R ∧ bt r.name = x := by
  unfold namesR; rw [List.take_length, List.mem_map]
theorem prins_eq (p : Py) : fold (prinsD p) = tab (prinsT p) := by
  rw [fold_tab]
  refine eq_of_rising (tab_sorted _) (tab_sorted _) fun x => ?_
  rw [mem_tab, mem_tab]
  unfold prinsD prinsT
  simp only [List.mem_append, mem_owners, roles_mem]
theorem names_eq (p : Py) : fold (namesD p) = tab (namesT p) := by
  rw [fold_tab]
  refine eq_of_rising (tab_sorted _) (tab_sorted _) fun x => ?_
  rw [mem_tab, mem_tab]
  unfold namesD namesT
  simp only [List.mem_append, mem_names, roles_mem]
set_option maxHeartbeats 1000000 in
set_option maxRecDepth 100000 in
theorem fitsRef (p : Py) (A1 A2 A3 A4 : Option Addr) (c1 c2 c3 c4 : Nat) (w : World) (hf : p.fit) (hp : PG w A1 A2 A3 A4 p) : Calls Tryz.prog 73 #[p.val A1 A2 A3 A4 c1 c2 c3 c4] w fun e w' => e = .returned (.bool (fitsP p)) ∧ Below w.heap.size w w' := by
  have HPr := Lib.hid (fun h4 w' h => prinsRef p A1 A2 A3 A4 c1 c2 c3 c4 w' hf h4 h)
  have HNm := Lib.hid (fun w' h => namesRef p A1 A2 A3 A4 c1 c2 c3 c4 w' hf h)
  have HP := Lib.hid hp
  rw [prins_eq] at HPr
  rw [names_eq] at HNm
  unfold fitsP
  generalize tab (prinsT p) = T at *
  generalize tab (namesT p) = U at *
  obtain ⟨S, G, H, Q⟩ := p
  clear hf hp
  unfold Py.val at *
  simp only at *
  have hbx := Lib.hid ((Below.refl w.heap.size w).alloc (Nat.le_refl _) (.cells #[.slice A1 S.length c1, .slice A2 G.length c2, .slice A3 H.length c3, .slice A4 Q.length c4] 26))
  by_cases hS : S.length ≤ 80
  rotate_left
  · rw [decide_eq_false hS]
    have d : decide ((80 : Int) < S.length) = true := by simp; omega
    have d' : (80 : Int) < S.length := by omega
    simp only [Bool.and_false, Bool.false_and]
    go_enter Tryz.func73, Tryz.ntmps73
    go_wp2_with fail
    go_ret
    exact ⟨rfl, hbx.out⟩
  rw [decide_eq_true hS]
  have dS : decide ((80 : Int) < S.length) = false := by simp; omega
  have eS : ¬ (80 : Int) < S.length := by omega
  by_cases hG : G.length ≤ 40
  rotate_left
  · rw [decide_eq_false hG]
    have d : decide ((40 : Int) < G.length) = true := by simp; omega
    have d' : (40 : Int) < G.length := by omega
    simp only [Bool.and_false, Bool.false_and]
    go_enter Tryz.func73, Tryz.ntmps73
    go_wp2_with fail
    go_ret
    exact ⟨rfl, hbx.out⟩
  rw [decide_eq_true hG]
  have dG : decide ((40 : Int) < G.length) = false := by simp; omega
  have eG : ¬ (40 : Int) < G.length := by omega
  by_cases hH : H.length ≤ 40
  rotate_left
  · rw [decide_eq_false hH]
    have d : decide ((40 : Int) < H.length) = true := by simp; omega
    have d' : (40 : Int) < H.length := by omega
    simp only [Bool.and_false, Bool.false_and]
    go_enter Tryz.func73, Tryz.ntmps73
    go_wp2_with fail
    go_ret
    exact ⟨rfl, hbx.out⟩
  rw [decide_eq_true hH]
  have dH : decide ((40 : Int) < H.length) = false := by simp; omega
  have eH : ¬ (40 : Int) < H.length := by omega
  by_cases hQ : Q.length ≤ 16
  rotate_left
  · rw [decide_eq_false hQ]
    have d : decide ((16 : Int) < Q.length) = true := by simp; omega
    have d' : (16 : Int) < Q.length := by omega
    simp only [Bool.and_false, Bool.false_and]
    go_enter Tryz.func73, Tryz.ntmps73
    go_wp2_with fail
    go_ret
    exact ⟨rfl, hbx.out⟩
  rw [decide_eq_true hQ]
  have dQ : decide ((16 : Int) < Q.length) = false := by simp; omega
  have eQ : ¬ (16 : Int) < Q.length := by omega
  simp only [Bool.true_and]
  by_cases hT : T.length ≤ 16
  rotate_left
  · rw [decide_eq_false hT]
    have d : decide ((T.length : Int) ≤ 16) = false := by simp; omega
    have d' : ¬ (T.length : Int) ≤ 16 := by omega
    simp only [Bool.false_and]
    go_enter Tryz.func73, Tryz.ntmps73
    go_wp2_with fail
    refine (HPr.out (by omega) _ (HP.out.below hbx.out)).mono ?_
    rintro e w1 ⟨v, rfl, hown, hb1⟩
    obtain ⟨A, c, rfl, _, _⟩ := SRow.of_own hown
    have hb2 := hbx.out.trans (hb1.mono (by simp))
    have HP1 := Lib.hid (HP.out.below hb2)
    have hc : ∀ o, w1.cell? ⟨w.heap.size, o, none⟩ = (#[.slice A1 S.length c1, .slice A2 G.length c2, .slice A3 H.length c3, .slice A4 Q.length c4] : Array Value)[o]? := fun o => by rw [hb1.cell (by simp), Lib.cell_of_heap (heap_alloc_new w _)]
    have HB2 := Lib.hid hb2
    clear hown hb1 hb2
    go_wp2_with fail
    go_ret
    exact ⟨rfl, HB2.out⟩
  rw [decide_eq_true hT]
  have dT : decide ((T.length : Int) ≤ 16) = true := by simp; omega
  have eT : (T.length : Int) ≤ 16 := by omega
  simp only [Bool.true_and]
  by_cases hU : U.length ≤ 12
  · rw [decide_eq_true hU]
    have dU : decide ((U.length : Int) ≤ 12) = true := by simp; omega
    have eU : (U.length : Int) ≤ 12 := by omega
    go_enter Tryz.func73, Tryz.ntmps73
    go_wp2_with fail
    refine (HPr.out (by omega) _ (HP.out.below hbx.out)).mono ?_
    rintro e w1 ⟨v, rfl, hown, hb1⟩
    obtain ⟨A, c, rfl, _, _⟩ := SRow.of_own hown
    have hb2 := hbx.out.trans (hb1.mono (by simp))
    have HP1 := Lib.hid (HP.out.below hb2)
    have hc : ∀ o, w1.cell? ⟨w.heap.size, o, none⟩ = (#[.slice A1 S.length c1, .slice A2 G.length c2, .slice A3 H.length c3, .slice A4 Q.length c4] : Array Value)[o]? := fun o => by rw [hb1.cell (by simp), Lib.cell_of_heap (heap_alloc_new w _)]
    have HB2 := Lib.hid hb2
    clear hown hb1 hb2
    go_wp2_with fail
    refine (HNm.out _ HP1.out).mono ?_
    rintro e w2 ⟨v, rfl, hown, hb3⟩
    obtain ⟨A', c', rfl, _, _⟩ := SRow.of_own hown
    have HB4 := Lib.hid (HB2.out.trans (hb3.mono HB2.out.size))
    clear hown hb3 hc
    go_wp2_with fail
    go_ret
    exact ⟨rfl, HB4.out⟩
  · rw [decide_eq_false hU]
    have dU : decide ((U.length : Int) ≤ 12) = false := by simp; omega
    have eU : ¬ (U.length : Int) ≤ 12 := by omega
    go_enter Tryz.func73, Tryz.ntmps73
    go_wp2_with fail
    refine (HPr.out (by omega) _ (HP.out.below hbx.out)).mono ?_
    rintro e w1 ⟨v, rfl, hown, hb1⟩
    obtain ⟨A, c, rfl, _, _⟩ := SRow.of_own hown
    have hb2 := hbx.out.trans (hb1.mono (by simp))
    have HP1 := Lib.hid (HP.out.below hb2)
    have hc : ∀ o, w1.cell? ⟨w.heap.size, o, none⟩ = (#[.slice A1 S.length c1, .slice A2 G.length c2, .slice A3 H.length c3, .slice A4 Q.length c4] : Array Value)[o]? := fun o => by rw [hb1.cell (by simp), Lib.cell_of_heap (heap_alloc_new w _)]
    have HB2 := Lib.hid hb2
    clear hown hb1 hb2
    go_wp2_with fail
    refine (HNm.out _ HP1.out).mono ?_
    rintro e w2 ⟨v, rfl, hown, hb3⟩
    obtain ⟨A', c', rfl, _, _⟩ := SRow.of_own hown
    have HB4 := Lib.hid (HB2.out.trans (hb3.mono HB2.out.size))
    clear hown hb3 hc
    go_wp2_with fail
    go_ret
    exact ⟨rfl, HB4.out⟩
end Go.Proofs.YtblapgfilbmdhaaGreatDoor.RefFi
namespace Go.Proofs.YtblapgfilbmdhaaGreatDoor.TblV
open Go.RowKit Go.Sort Go.Lib Go.Proofs Plain SynP SynE Grown TabP Tab1 Tab2 Tab5 QryP PolA PolE PolG PolH PolOp PolLi TblA TblB TblC TblF TblI
theorem prinsT_len {p : Py} (h : Few p) (c : Came p) : (prinsT p).length ≤ 20000 := by
  have hf := h.fit c
  have h1 := ownersR_len (rolesP p) (rolesP p).length
  have h2 := rolesP_len hf
  have h3 := whosS_len p.stmts p.stmts.length
  have h4 := whosA_len hf.f5 p.asks.length
  have h5 := h.n4
  have h6 := h.n1
  unfold prinsT
  simp only [List.length_append]
  omega
theorem namesT_len {p : Py} (h : Few p) (c : Came p) : (namesT p).length ≤ 20000 := by
  have hf := h.fit c
  have h1 := namesR_len (rolesP p) (rolesP p).length
  have h2 := rolesP_len hf
  have h3 := viasS_len p.stmts p.stmts.length
  have h6 := h.n1
  unfold namesT
  simp only [List.length_append]
  omega
theorem tab_tab (T : List Str) : tab (tab T) = tab T := eq_of_rising (tab_sorted _) (tab_sorted _) fun x => by simp only [mem_tab]
set_option maxHeartbeats 2000000 in
set_option maxRecDepth 100000 in
theorem forT (p : Py) (A1 A2 A3 A4 : Option Addr) (c1 c2 c3 c4 : Nat) (B : Option Addr) (cb : Nat) (M : List Str) (w : World) (hf : Few p) (hc : Came p) (hp : PG w A1 A2 A3 A4 p) (hM : M.length ≤ 40) (hB : SRow w B M) :
    Calls Tryz.prog 96 #[p.val A1 A2 A3 A4 c1 c2 c3 c4, .slice B M.length cb] w (NewTPost (tab (tab (prinsT p) ++ M)) (tab (namesT p)) w) := by
  have l1 : (tab (prinsT p)).length ≤ 20000 := Nat.le_trans (tab_len_le _) (prinsT_len hf hc)
  have l2 : (tab (namesT p)).length ≤ 20000 := Nat.le_trans (tab_len_le _) (namesT_len hf hc)
  have hfit := hf.fit hc
  have htt : tab (tab (namesT p)) = tab (namesT p) := tab_tab _
  have HPr := Lib.hid (fun w' (hb : Below w.heap.size w w') => PolH.prins p A1 A2 A3 A4 c1 c2 c3 c4 w' hfit (hp.below hb))
  have HNm := Lib.hid (fun w' (hb : Below w.heap.size w w') => PolH.names p A1 A2 A3 A4 c1 c2 c3 c4 w' hfit (hp.below hb))
  have HBr := Lib.hid (fun w' (hb : Below w.heap.size w w') => hB.keep hb)
  have HTT := Lib.hid htt
  clear hfit hp hB htt hf hc
  generalize tab (prinsT p) = PT at *
  generalize tab (namesT p) = NT at *
  unfold RowPost at HPr HNm
  unfold Py.val at *
  obtain ⟨S, G, H, Q⟩ := p
  simp only at *
  have hlit : (PT ++ M).length ≤ 100000 := by simp; omega
  have hcat := fun b A5 c5 w' h1 h2 h3 h4 h5 => Tab7.concat b A5 B c5 cb PT M w' (by omega) (by omega) h1 h2 h3 h4 h5
  obtain ⟨PM, hPM⟩ : ∃ PM, PT ++ M = PM := ⟨_, rfl⟩
  rw [hPM] at hcat hlit ⊢
  have HCat := Lib.hid hcat
  clear hcat hPM
  have hX := heap_alloc_new w (.cells #[.slice A1 S.length c1, .slice A2 G.length c2, .slice A3 H.length c3, .slice A4 Q.length c4] 26)
  have hb0 : Below w.heap.size w (w.alloc (.cells #[.slice A1 S.length c1, .slice A2 G.length c2, .slice A3 H.length c3, .slice A4 Q.length c4] 26)) := (Below.refl _ _).alloc (Nat.le_refl _) _
  go_enter Tryz.func96, Tryz.ntmps96
  go_upto_region 1 with fail
  generalize w.alloc (.cells #[.slice A1 S.length c1, .slice A2 G.length c2, .slice A3 H.length c3, .slice A4 Q.length c4] 26) = w0 at *
  have HS : Hid (∀ w', Below w0.heap.size w0 w' → Below w0.heap.size w0 w' ∧ (∀ o, w'.cell? ⟨w.heap.size, o, none⟩ = (#[.slice A1 S.length c1, .slice A2 G.length c2, .slice A3 H.length c3, .slice A4 Q.length c4] : Array Value)[o]?)) := Lib.hid (fun w' hb => ⟨hb, fun o => Lib.cell_of_heap ((hb.block _ (Array.getElem?_eq_some_iff.1 hX).1).trans hX) o⟩)
  have HB0 := Lib.hid (fun w' (hb : Below w0.heap.size w0 w') => PolLi.nx hb0 hb)
  clear hX hb0
  go_region_held3 (fun w' => Below w0.heap.size w0 w' ∧ (∀ o, w'.cell? ⟨w.heap.size, o, none⟩ = (#[.slice A1 S.length c1, .slice A2 G.length c2, .slice A3 H.length c3, .slice A4 Q.length c4] : Array Value)[o]?))
    (first | with_reducible assumption | exact HS.out _ ((Below.refl _ _).drew) | exact HS.out _ (PolLi.nx (by apply And.left; with_reducible assumption) (by with_reducible assumption)) | exact HS.out _ (PolLi.nx (by apply And.left; with_reducible assumption) ((Below.refl _ _).alloc (Nat.le_refl _) _)))
    (first | ((with_reducible refine (HPr.out _ (HB0.out _ (by apply And.left; with_reducible assumption))).mono ?_); rintro e w1 ⟨v1, rfl, hown1, hb1⟩; obtain ⟨A5, c5, rfl, _, hr5⟩ := SRow.of_own hown1; have hB1 := HBr.out w1 (HB0.out _ (PolLi.nx (by apply And.left; with_reducible assumption) hb1)))
           | (go_at_call 129; refine (HCat.out w1.heap.size A5 c5 _ (by simp) (by rw [Lib.cell_of_heap (heap_alloc_new w1 _)]; rfl) (by rw [Lib.cell_of_heap (heap_alloc_new w1 _)]; rfl) (hr5.keep ((Below.refl _ _).alloc (Nat.le_refl _) _)) (hB1.keep ((Below.refl _ _).alloc (Nat.le_refl _) _))).mono ?_; rintro e w2 ⟨v2, rfl, hown2, hb2⟩; obtain ⟨A6, c6, rfl, _, hr6⟩ := SRow.of_own hown2)
           | ((with_reducible refine (HNm.out _ (HB0.out _ (by apply And.left; with_reducible assumption))).mono ?_); rintro e w3 ⟨v3, rfl, hown3, hb3⟩; obtain ⟨A7, c7, rfl, _, hr7⟩ := SRow.of_own hown3; have hr6b := hr6.keep hb3)
           | (go_at_call 132; refine (newT A6 A7 c6 c7 PM NT _ hlit (by omega) hr6b hr7).mono ?_; rintro e w4 ⟨t, a, b, B1, d1, B2, d2, rfl, hT, hb4⟩))
  rename_i hHeld
  have HF : Hid (NewTPost (tab PM) NT w (.returned (.pointer (some ⟨t, 0, none⟩))) w4) := Lib.hid ⟨t, a, b, B1, d1, B2, d2, rfl, by rw [← HTT.out]; exact hT, HB0.out _ hHeld.1⟩
  clear hHeld hT hb4
  go_wp2_with fail
  go_ret
  exact HF.out
end Go.Proofs.YtblapgfilbmdhaaGreatDoor.TblV
namespace Go.Proofs.YtblapgfilbmdhaaGreatDoor.TblW
open Go.RowKit Go.Sort Go.Lib Go.Proofs Plain SynP SynE Grown TabP Tab1 Tab2 PolE TblA TblB TblC TblF TblI TblV
theorem nx {W w1 w2 : World} (h : Below W.heap.size W w1) (hb : Below w1.heap.size w1 w2) : Below W.heap.size W w2 := h.trans (hb.mono h.size)
theorem infoU : (Tryz.prog.info? 150).map (fun i => (i.zero, i.size, i.bytes)) = some (some (.agg #[.int .i64 0, .int .i64 0, .int .i64 0, .int .i64 0, .int .i64 0, .int .i64 0]), 6, 48) := by kernel_rfl
def rulesT (P L : List Str) (S : List St) (j : Nat) : List Ru := ((S.take j).filter (ruleOk P L)).map (ruleV P L)
theorem rulesT_len (P L : List Str) (S : List St) (j : Nat) : (rulesT P L S j).length ≤ j := by
  unfold rulesT
  rw [List.length_map]
  exact Nat.le_trans (List.length_filter_le _ _) (by simp; omega)
theorem rulesT_yes {P L : List Str} {S : List St} {j : Nat} (h : j < S.length) (hr : ruleOk P L S[j] = true) : rulesT P L S (j + 1) = rulesT P L S j ++ [ruleA P L S[j]] := by
  unfold rulesT
  rw [List.take_succ_eq_append_getElem h, List.filter_append, List.map_append]
  have e : ruleA P L S[j] = ruleV P L S[j] := by unfold ruleA; rw [hr]; rfl
  simp [hr, e]
theorem rulesT_no {P L : List Str} {S : List St} {j : Nat} (h : j < S.length) (hr : ruleOk P L S[j] = false) : rulesT P L S (j + 1) = rulesT P L S j := by
  unfold rulesT
  rw [List.take_succ_eq_append_getElem h, List.filter_append, List.map_append]
  simp [hr]
theorem own_below {w w' : World} {B n : Nat} {e : TypeId} {k : Nat} {v : Value} {xs : List Value} (h : w.ownsRow B e k v n xs) (hb : Below w.heap.size w w') : w'.ownsRow B e k v n xs :=
  h.kept (World.grownBy.mk hb.os hb.tape hb.output hb.size (fun k hk _ => hb.block k hk) : w.grownBy w' none) (by cases hv : v.ownBlock <;> simp)
theorem news (X : World) (f0 f1 f2 f3 f4 f5 : Int) : ∀ i u, ([.int .i64 f0, .int .i64 f1, .int .i64 f2, .int .i64 f3, .int .i64 f4, .int .i64 f5] : List Value)[i]? = some u → (X.alloc (.cells #[.int .i64 f0, .int .i64 f1, .int .i64 f2, .int .i64 f3, .int .i64 f4, .int .i64 f5] 150)).cell? ((⟨X.heap.size, 0, none⟩ : Addr).add i) = some u := fun i u hu => by
  have e : ((⟨X.heap.size, 0, none⟩ : Addr).add i) = ⟨X.heap.size, i, none⟩ := by unfold Addr.add; split <;> simp_all
  rw [e, Lib.cell_of_heap (heap_alloc_new X _), ← hu]
  simp
theorem cell6 (u0 u1 u2 u3 u4 u5 : Int) : ∀ v ∈ ([.int .i64 u0, .int .i64 u1, .int .i64 u2, .int .i64 u3, .int .i64 u4, .int .i64 u5] : List Value), v.oneCell' = true := fun v hv => by
  simp at hv
  rcases hv with rfl | rfl | rfl | rfl | rfl | rfl <;> rfl
theorem app_cells (L : List Ru) (u0 u1 u2 u3 u4 u5 : Int) : cellsR (L ++ [⟨u0, u1, u2, u3, u4, u5⟩]) = cellsR L ++ [.int .i64 u0, .int .i64 u1, .int .i64 u2, .int .i64 u3, .int .i64 u4, .int .i64 u5] := by
  rw [cellsR_app]; rfl
theorem below_own {a w w1 : World} {e : TypeId} {size n B : Nat} {v : Value} {xs : List Value} {o : Obj} (hb : Below a.heap.size a w) (hB : a.heap.size ≤ B) (hown : w.ownsRow B e size v n xs) (hg : (w.alloc o).grownBy w1 v.ownBlock) : Below a.heap.size a w1 :=
  (hb.alloc hb.size o).grown hg (by have := hb.size; simp; omega) (fun k hk => Nat.le_trans hB (hown.lt k hk).1)
section
variable {t a b : Nat} {B1 : Option Addr} {d1 : Nat} {B2 : Option Addr} {d2 : Nat} {P L : List Str}
def RulesPost (R : List Ru) (w : World) (e : Ending) (w' : World) : Prop := ∃ A c, e = .returned (.slice A R.length c) ∧ UG w' A R ∧ Below w.heap.size w w'
set_option maxHeartbeats 2000000 in
set_option maxRecDepth 100000 in
theorem rules (w : World) (hT : TblK w t a b B1 d1 B2 d2 P L) (A : Option Addr) (ca : Nat) (S : List St) (hS : S.length ≤ 1000) (hf : ∀ s ∈ S, s.fit) (hA : SG w A S) :
    Calls Tryz.prog 100 #[.pointer (some ⟨t, 0, none⟩), .slice A S.length ca] w (RulesPost (rulesT P L S S.length) w) := by
  have HT := Lib.hid hT
  have HA := Lib.hid hA
  have HF := Lib.hid hf
  have HY := Lib.hid (fun j h hr => rulesT_yes (P := P) (L := L) (S := S) (j := j) h hr)
  have HN := Lib.hid (fun j h hr => rulesT_no (P := P) (L := L) (S := S) (j := j) h hr)
  have HLn := Lib.hid (fun j => rulesT_len P L S j)
  have H0 : Hid (rulesT P L S 0 = []) := Lib.hid rfl
  clear hT hA hf
  generalize rulesT P L S = R at *
  obtain ⟨i0, hi, hz0, hz1, hz2⟩ := info_parts infoU
  go_enter Tryz.func100, Tryz.ntmps100
  go_wp2_with fail
  go_loopw [5, 12] (fun l i wr => ∃ j : Nat, j ≤ S.length ∧ i = .int .i64 j ∧ Hid (wr.ownsRow w.heap.size 150 6 l (R j).length (cellsR (R j))) ∧ Below w.heap.size w wr) (fun _ i _ => S.length - (intOf i).toNat)
  case atStart => exact ⟨0, by omega, rfl, Lib.hid (by rw [H0.out]; exact World.ownsRow_nil _ _ _ _), Below.refl _ _⟩
  case round =>
    obtain ⟨j, hj, rfl, hown, hb⟩ := hrel
    by_cases hlt : j < S.length
    · have e1 : decide ((j : Int) < S.length) = true := by simp; omega
      have p0 : (0 : Int) ≤ j := by omega
      have p1 : (j : Int) < S.length := by omega
      obtain ⟨g, o, rfl, hg, hcell⟩ := (HA.out.below hb) (by omega)
      obtain ⟨a0, a1, a2, a3, a4, a5, a6, a7, a8⟩ := hcell j hlt
      have HRu := Lib.hid (fun w' (hb2 : Below w.heap.size w w') => rule w' (HT.out.keep hb2) S[j] (HF.out _ (List.getElem_mem hlt)))
      have HYj := Lib.hid (HY.out j hlt)
      have HNj := Lib.hid (HN.out j hlt)
      have hlj := HLn.out j
      have HBk := Lib.hid hb
      unfold RulePost at HRu
      clear hcell hb
      generalize ruleA P L S[j] = u at *
      generalize ruleOk P L S[j] = ok at *
      generalize S[j] = s at *
      obtain ⟨k1, ⟨ho, hn⟩, wh, ⟨ao, an⟩, ⟨bo, bn⟩, v⟩ := s
      obtain ⟨f0, f1, f2, f3, f4, f5⟩ := u
      unfold St.val at HRu
      simp only [Ru.cells] at a0 a1 a2 a3 a4 a5 a6 a7 a8 HRu
      have hbs : Below wr.heap.size wr (wr.alloc (.cells #[.int .i64 k1, .string ho, .string hn, .string wh, .string ao, .string an, .string bo, .string bn, .string v] 67)) := (Below.refl _ _).alloc (Nat.le_refl _) _
      have HBs := Lib.hid (nx HBk.out hbs)
      have HOs := Lib.hid (own_below hown.out hbs)
      have cb : ∀ o, (wr.alloc (.cells #[.int .i64 k1, .string ho, .string hn, .string wh, .string ao, .string an, .string bo, .string bn, .string v] 67)).cell? ⟨wr.heap.size, o, none⟩ = (#[.int .i64 k1, .string ho, .string hn, .string wh, .string ao, .string an, .string bo, .string bn, .string v] : Array Value)[o]? := fun o => Lib.cell_of_heap (heap_alloc_new wr _) o
      clear hbs
      go_wp2_with fail
      refine (HRu.out _ HBs.out).mono ?_
      rintro e w2 ⟨rfl, hb2⟩
      have hbr : Below w2.heap.size w2 (w2.alloc (.cells #[.int .i64 f0, .int .i64 f1, .int .i64 f2, .int .i64 f3, .int .i64 f4, .int .i64 f5] 150)) := (Below.refl _ _).alloc (Nat.le_refl _) _
      have HB3 := Lib.hid (nx (nx HBs.out hb2) hbr)
      have HO3 := Lib.hid (own_below (own_below HOs.out hb2) hbr)
      have hX3 := heap_alloc_new w2 (.cells #[.int .i64 f0, .int .i64 f1, .int .i64 f2, .int .i64 f3, .int .i64 f4, .int .i64 f5] 150)
      clear hb2 hbr cb a0 a1 a2 a3 a4 a5 a6 a7 a8 HBs HOs hown HBk HRu
      go_upto_if 22 with fail
      generalize w2.alloc (.cells #[.int .i64 f0, .int .i64 f1, .int .i64 f2, .int .i64 f3, .int .i64 f4, .int .i64 f5] 150) = w3 at *
      have cx : ∀ o, w3.cell? ⟨w2.heap.size, o, none⟩ = (#[.int .i64 f0, .int .i64 f1, .int .i64 f2, .int .i64 f3, .int .i64 f4, .int .i64 f5] : Array Value)[o]? := fun o => Lib.cell_of_heap hX3 o
      cases ok with
      | false =>
        have HRj := Lib.hid (HNj.out rfl)
        clear HYj HNj cx
        go_wp2_with fail
        go_roundw
        case rel => exact ⟨j + 1, by omega, by go_num, Lib.hid (by rw [HRj.out]; exact HO3.out), HB3.out⟩
        case measure => simp [intOf]; omega
      | true =>
        have HRj := Lib.hid (HYj.out rfl)
        have hz3 : w.heap.size ≤ w3.heap.size := HB3.out.size
        have hown3 := HO3.out
        clear HYj HNj
        go_wp2_with (at_builtin; refine wpList_append_own _ rfl _ _ 117 rfl w.heap.size 150 i0 (.agg #[.int .i64 0, .int .i64 0, .int .i64 0, .int .i64 0, .int .i64 0, .int .i64 0]) 6 48 Tryz.underlying117 hi hz0 hz1 hz2 rfl (by decide) _ _ _ rfl (hown3.alloc _) ⟨w3.heap.size, 0, none⟩ 1 1 [.int .i64 f0, .int .i64 f1, .int .i64 f2, .int .i64 f3, .int .i64 f4, .int .i64 f5] rfl rfl ?c1 ?c2 ?c3 ?c4 ?c5 ?_)
        case c1 => exact news w3 f0 f1 f2 f3 f4 f5
        case c2 => exact cell6 _ _ _ _ _ _
        case c3 => unfold maxLen; omega
        case c4 => omega
        case c5 => simp; omega
        intro v' w7 hown' hgrow _
        have hown4 : w7.ownsRow w.heap.size 150 6 v' (R (j + 1)).length (cellsR (R (j + 1))) := by
          rw [HRj.out, app_cells, List.length_append]
          exact hown'
        have HO4 := Lib.hid hown4
        have HB4 := Lib.hid (below_own HB3.out (Nat.le_refl _) hown3 hgrow)
        clear hown' hown3 hgrow hown4 cx
        go_wp2_with fail
        go_roundw
        case rel => exact ⟨j + 1, by omega, by go_num, HO4, HB4.out⟩
        case measure => simp [intOf]; omega
    · have e1 : decide ((j : Int) < S.length) = false := by simp; omega
      have hjn : j = S.length := by omega
      subst hjn
      have ho := hown.out
      obtain ⟨A5, c5, rfl, hu⟩ := ug_own ho
      have HU := Lib.hid hu
      have HBk := Lib.hid hb
      clear ho hu hb
      go_wp2_with fail
      go_ret
      exact ⟨A5, c5, rfl, HU.out, HBk.out⟩
end
end Go.Proofs.YtblapgfilbmdhaaGreatDoor.TblW
