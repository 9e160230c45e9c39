/- All principals, and all names, that a policy names: policy.Prins and Names, by contract. -/
import Derived.Test.YtpjacngbkohmdaaM20
import Derived.Test.YtpjacngbkohmdaaM13
import Derived.Test.YtpjacngbkohmdaaM29
import Derived.Test.YtpjacngbkohmdaaM12
import Derived.Test.YtpjacngbkohmdaaM21
import Derived.Test.YtpjacngbkohmdaaM05
namespace Go.Proofs.Ytpjacngbkohmdaa.PolH
set_option linter.unusedVariables false
set_option linter.unusedSimpArgs false
open Go.RowKit Go.Sort Go.Lib Go.Proofs Go.Proofs.Ytpjacngbkohmdaa.Plain Go.Proofs.Ytpjacngbkohmdaa.SynP Go.Proofs.Ytpjacngbkohmdaa.TabP Go.Proofs.Ytpjacngbkohmdaa.Tab1 Go.Proofs.Ytpjacngbkohmdaa.Tab5 Go.Proofs.Ytpjacngbkohmdaa.Grown Go.Proofs.Ytpjacngbkohmdaa.SynC Go.Proofs.Ytpjacngbkohmdaa.SynJ Go.Proofs.Ytpjacngbkohmdaa.QryP Go.Proofs.Ytpjacngbkohmdaa.PolA Go.Proofs.Ytpjacngbkohmdaa.PolE Go.Proofs.Ytpjacngbkohmdaa.PolG
set_option linter.unusedVariables false
set_option linter.unusedSimpArgs false
def bt (x : ByteArray) : Str := x.data.toList
theorem enc_bt (x : ByteArray) : encStr (bt x) = .string x := by
  show Value.string ⟨(bt x).toArray⟩ = _
  unfold bt; rfl
theorem srow_none_len {w : World} {T : List Str} (h : SRow w none T) : T.length = 0 := by
  rcases Nat.eq_zero_or_pos T.length with h0 | h0
  · exact h0
  · obtain ⟨_, _, e, _⟩ := h h0; cases e
theorem srow_cells {w : World} {A : Option Addr} {T : List Str} (h : SRow w A T) : ∀ ad, A = some ad → ∀ j u, (T.map encStr)[j]? = some u → w.cell? (ad.add j) = some u := by
  rintro ad rfl j u hu
  have hj : j < T.length := by
    rcases Nat.lt_or_ge j T.length with h | h
    · exact h
    · rw [List.getElem?_eq_none (by simpa using h)] at hu; cases hu
  obtain ⟨g, o, e, _, hc⟩ := h (by omega)
  injection e with e
  subst e
  rw [add_off, hc j hj, ← hu, List.getElem?_map, List.getElem?_eq_getElem hj]; rfl
theorem enc_one (T : List Str) : ∀ u ∈ T.map encStr, u.oneCell' = true := by
  intro u hu
  obtain ⟨x, _, rfl⟩ := List.mem_map.1 hu
  rfl
theorem one_src {X : World} {n : Nat} (hn : X.heap.size = n) (x : ByteArray) (t : TypeId) : ∀ ad, some (⟨n, 0, none⟩ : Addr) = some ad → ∀ j u, [Value.string x][j]? = some u → (X.alloc (.cells #[.string x] t)).cell? (ad.add j) = some u := by
  subst hn
  rintro ad e j u hu
  injection e with e
  subst e
  rw [add_off, Nat.zero_add, Lib.cell_of_heap (heap_alloc_new X _)]
  match j, hu with
  | 0, hu => exact hu
def ownersR (R : List Rl) (k : Nat) : List Str := (R.take k).map fun r => bt r.owner
def namesR (R : List Rl) (k : Nat) : List Str := (R.take k).map fun r => bt r.name
theorem ownersR_succ {R : List Rl} {k : Nat} (h : k < R.length) : ownersR R (k + 1) = ownersR R k ++ [bt R[k].owner] := by
  unfold ownersR; rw [List.take_succ_eq_append_getElem h, List.map_append, List.map_singleton]
theorem namesR_succ {R : List Rl} {k : Nat} (h : k < R.length) : namesR R (k + 1) = namesR R k ++ [bt R[k].name] := by
  unfold namesR; rw [List.take_succ_eq_append_getElem h, List.map_append, List.map_singleton]
theorem ownersR_len (R : List Rl) (k : Nat) : (ownersR R k).length ≤ R.length := by unfold ownersR; simp; omega
theorem namesR_len (R : List Rl) (k : Nat) : (namesR R k).length ≤ R.length := by unfold namesR; simp; omega
def whosS (L : List St) (k : Nat) : List Str := ((L.take k).filter fun s => decide (s.kind = 1)).map fun s => bt s.who
def viasS (L : List St) (k : Nat) : List Str := ((L.take k).filter fun s => decide (s.kind = 3)).map fun s => bt s.via
theorem whosS_yes {L : List St} {k : Nat} (h : k < L.length) (hk : L[k].kind = 1) : whosS L (k + 1) = whosS L k ++ [bt L[k].who] := by
  unfold whosS
  have e : List.filter (fun s : St => decide (s.kind = 1)) [L[k]] = [L[k]] := by simp [hk]
  rw [List.take_succ_eq_append_getElem h, List.filter_append, e, List.map_append, List.map_singleton]
theorem whosS_no {L : List St} {k : Nat} (h : k < L.length) (hk : ¬ L[k].kind = 1) : whosS L (k + 1) = whosS L k := by
  unfold whosS
  have e : List.filter (fun s : St => decide (s.kind = 1)) [L[k]] = [] := by simp [hk]
  rw [List.take_succ_eq_append_getElem h, List.filter_append, e, List.append_nil]
theorem viasS_yes {L : List St} {k : Nat} (h : k < L.length) (hk : L[k].kind = 3) : viasS L (k + 1) = viasS L k ++ [bt L[k].via] := by
  unfold viasS
  have e : List.filter (fun s : St => decide (s.kind = 3)) [L[k]] = [L[k]] := by simp [hk]
  rw [List.take_succ_eq_append_getElem h, List.filter_append, e, List.map_append, List.map_singleton]
theorem viasS_no {L : List St} {k : Nat} (h : k < L.length) (hk : ¬ L[k].kind = 3) : viasS L (k + 1) = viasS L k := by
  unfold viasS
  have e : List.filter (fun s : St => decide (s.kind = 3)) [L[k]] = [] := by simp [hk]
  rw [List.take_succ_eq_append_getElem h, List.filter_append, e, List.append_nil]
theorem whosS_len (L : List St) (k : Nat) : (whosS L k).length ≤ L.length := by
  unfold whosS
  have := List.length_filter_le (fun s : St => decide (s.kind = 1)) (L.take k)
  simp at this ⊢; omega
theorem viasS_len (L : List St) (k : Nat) : (viasS L k).length ≤ L.length := by
  unfold viasS
  have := List.length_filter_le (fun s : St => decide (s.kind = 3)) (L.take k)
  simp at this ⊢; omega
def whosA (L : List Qy) (k : Nat) : List Str := ((L.take k).map Qy.who).flatten
theorem whosA_succ {L : List Qy} {k : Nat} (h : k < L.length) : whosA L (k + 1) = whosA L k ++ L[k].who := by
  unfold whosA
  rw [List.take_succ_eq_append_getElem h, List.map_append, List.flatten_append, List.map_singleton, List.flatten_singleton]
theorem whosA_len {L : List Qy} (hq : ∀ q ∈ L, q.who.length ≤ 100) : ∀ k, (whosA L k).length ≤ k * 100
  | 0 => by simp [whosA]
  | k + 1 => by
    have ih := whosA_len hq k
    rcases Nat.lt_or_ge k L.length with h | h
    · have := hq L[k] (List.getElem_mem _)
      rw [whosA_succ h, List.length_append]; omega
    · have : whosA L (k + 1) = whosA L k := by unfold whosA; rw [List.take_of_length_le (by omega), List.take_of_length_le (by omega)]
      rw [this]; omega
theorem rolesP_len {p : Py} (hf : p.fit) : (rolesP p).length ≤ 7000 := by
  have a := rolesS_len p.stmts p.stmts.length
  have b := rolesA_len p.asks p.asks.length
  have := hf.n1
  have := hf.n2
  have := hf.n3
  have := hf.n4
  unfold rolesP; simp; omega
def prinsT (p : Py) : List Str := ownersR (rolesP p) (rolesP p).length ++ whosS p.stmts p.stmts.length ++ whosA p.asks p.asks.length
def namesT (p : Py) : List Str := namesR (rolesP p) (rolesP p).length ++ viasS p.stmts p.stmts.length
end Go.Proofs.Ytpjacngbkohmdaa.PolH
/- The principals and the names of a policy: the document's Names, by contract. -/
namespace Go.Proofs.Ytpjacngbkohmdaa.RefPr
set_option linter.unusedVariables false
set_option linter.unusedSimpArgs false
open Go.RowKit Go.Sort Go.Lib Go.Proofs Go.Proofs.Ytpjacngbkohmdaa.Plain Go.Proofs.Ytpjacngbkohmdaa.SynP Go.Proofs.Ytpjacngbkohmdaa.TabP Go.Proofs.Ytpjacngbkohmdaa.Tab1 Go.Proofs.Ytpjacngbkohmdaa.Tab4 Go.Proofs.Ytpjacngbkohmdaa.Tab5 Go.Proofs.Ytpjacngbkohmdaa.Grown Go.Proofs.Ytpjacngbkohmdaa.SynC Go.Proofs.Ytpjacngbkohmdaa.SynJ Go.Proofs.Ytpjacngbkohmdaa.QryP Go.Proofs.Ytpjacngbkohmdaa.PolA Go.Proofs.Ytpjacngbkohmdaa.PolE Go.Proofs.Ytpjacngbkohmdaa.PolG Go.Proofs.Ytpjacngbkohmdaa.PolH Go.Proofs.Ytpjacngbkohmdaa.RefRo
set_option linter.unusedVariables false
set_option linter.unusedSimpArgs false
/-- The texts of a list, each put where it belongs. -/
def fold (T : List Str) : List Str := T.foldl putL []
theorem fold_nil : fold [] = [] := rfl
theorem fold_snoc (T : List Str) (s : Str) : fold (T ++ [s]) = putL (fold T) s := by unfold fold; rw [List.foldl_append]; rfl
theorem fold_len (T : List Str) : (fold T).length ≤ T.length := by
  have := newTo_len T T.length (Nat.le_refl _)
  unfold newTo at this
  rwa [List.take_length] at this
theorem fold_tab (T : List Str) : fold T = tab T := by
  have := newTo_tab T
  unfold newTo at this
  rwa [List.take_length] at this
theorem rolesR_len {p : Py} (hf : p.fit) : (rolesR p).length ≤ 7000 := by
  have h := rolesP_len hf
  unfold rolesP at h; unfold rolesR
  simp only [List.length_append] at h ⊢; omega
def viasF (P : List Str) (S : List St) (k : Nat) : List Str := fold (P ++ viasS S k)
def whosF (P : List Str) (S : List St) (k : Nat) : List Str := fold (P ++ whosS S k)
def namesF (R : List Rl) (k : Nat) : List Str := fold (namesR R k)
def ownersF (R : List Rl) (k : Nat) : List Str := fold (ownersR R k)
def namesD (p : Py) : List Str := namesR (rolesR p) (rolesR p).length ++ viasS p.stmts p.stmts.length
theorem bt_list (x : ByteArray) : x.toList = bt x := by rw [Go.ByteArray.toList_eq]; rfl
set_option maxHeartbeats 2000000 in
set_option maxRecDepth 100000 in
theorem namesRef (p : Py) (A1 A2 A3 A4 : Option Addr) (c1 c2 c3 c4 : Nat) (w : World) (hf : p.fit) (hp : PG w A1 A2 A3 A4 p) : Calls Try.prog 71 #[p.val A1 A2 A3 A4 c1 c2 c3 c4] w (RowPost (fold (namesD p)) w) := by
  have HRO := Lib.hid (fun w' h => rolesRef p A1 A2 A3 A4 c1 c2 c3 c4 w' hf h)
  have hRl := rolesR_len hf
  have n1 := hf.n1
  have HP := Lib.hid hp
  unfold namesD
  generalize rolesR p = R at *
  obtain ⟨S, G, H, Q⟩ := p
  simp only at n1
  clear hp hf
  unfold Py.val at *
  simp only at HRO ⊢
  obtain ⟨TT, hTT⟩ : ∃ TT, fold (namesR R R.length ++ viasS S S.length) = TT := ⟨_, rfl⟩
  rw [hTT]
  have HT := Lib.hid hTT
  clear hTT
  go_enter Try.func71, Try.ntmps71
  go_wp2_with fail
  refine (HRO.out _ (HP.out.below ((Below.refl _ _).alloc (Nat.le_refl _) _))).mono ?_
  rintro e w1 ⟨A, cA, rfl, hrat, hb1⟩
  have hcP1 : ∀ o, w1.cell? ⟨w.heap.size, o, none⟩ = (#[.slice A1 S.length c1, .slice A2 G.length c2, .slice A3 H.length c3, .slice A4 Q.length c4] : Array Value)[o]? := fun o => by rw [hb1.cell (by simp), Lib.cell_of_heap (heap_alloc_new w _)]
  have z1 : w.heap.size + 1 ≤ w1.heap.size := by have := hb1.size; simpa using this
  have hb01 : Below w.heap.size w w1 := ((Below.refl w.heap.size w).alloc (Nat.le_refl _) _).trans (hb1.mono (by simp))
  have HPW := Lib.hid (fun (wr : World) (h : Below w1.heap.size w1 wr) => (HP.out.below (hb01.trans (h.mono (by omega)))))
  have HCP := Lib.hid (fun (wr : World) (h : Below w1.heap.size w1 wr) (o : Nat) => (h.cell (p := ⟨w.heap.size, o, none⟩) (by show w.heap.size < w1.heap.size; omega)).trans (hcP1 o))
  have HR := Lib.hid (fun (wr : World) (h : Below w1.heap.size w1 wr) => hrat.below h)
  have HB0 := Lib.hid hb01
  clear hrat hb1 hcP1 hb01
  go_wp2_with fail
  go_loopw [3, 11] (fun l i wr => ∃ (k : Nat) (v : Value), k ≤ R.length ∧ l = v ∧ i = .int .i64 k ∧ Hid (wr.ownsRow w1.heap.size 9 1 v (namesF R k).length ((namesF R k).map encStr)) ∧ Below w1.heap.size w1 wr) (fun _ i _ => R.length - (intOf i).toNat)
  case atStart => exact ⟨0, _, by omega, rfl, rfl, Lib.hid (by simpa [namesF, namesR, fold] using World.ownsRow_nil w1 w1.heap.size 9 1), Below.refl _ _⟩
  case round =>
    obtain ⟨k, v1, hk, rfl, rfl, hown, hbel⟩ := hrel
    have zr := hbel.size
    have hlen : (namesF R k).length ≤ R.length := by unfold namesF; have := fold_len (namesR R k); have := namesR_len R k; omega
    by_cases hlt : k < R.length
    · have d1 : decide ((k : Int) < R.length) = true := by simp; omega
      have p1 : (0 : Int) ≤ k := by omega
      have p2 : (k : Int) < R.length := by omega
      obtain ⟨g, e1, hg, hc⟩ := (HR.out _ hbel) (by omega)
      obtain rfl := e1
      obtain ⟨a0, a1⟩ := hc k hlt
      have HS : Hid (namesF R (k + 1) = putL (namesF R k) (bt R[k].name)) := Lib.hid (by unfold namesF; rw [namesR_succ hlt, fold_snoc])
      have hb2 : Below wr.heap.size wr (wr.alloc (.cells #[.string R[k].owner, .string R[k].name] 24)) := (Below.refl _ wr).alloc (Nat.le_refl _) _
      have hownW := own_at hown.out hb2
      have hbelW := Lib.hid (hbel.trans (hb2.mono zr))
      obtain ⟨A1', k1', rfl, _, _⟩ := SRow.of_own hownW
      have HPut := Lib.hid (put w1.heap.size A1' k1' _ R[k].name _ (by omega) hbelW.out.size hownW)
      clear hc hown hbel hb2 hownW
      go_wp2_with fail
      refine HPut.out.mono ?_
      rintro e w3 ⟨v3, rfl, hown3, hb3⟩
      rw [bt_list, ← HS.out] at hown3
      have HO3 := Lib.hid hown3
      have HB3 := Lib.hid (hbelW.out.trans hb3)
      clear hown3 hb3 a0 a1
      go_wp2_with fail
      go_roundw
      case rel => exact ⟨k + 1, v3, by omega, rfl, by go_num, HO3, HB3.out⟩
      case measure => simp [intOf]; omega
    · have d1 : decide ((k : Int) < R.length) = false := by simp; omega
      have hkR : k = R.length := by omega
      subst hkR
      have hcP := HCP.out _ hbel
      obtain ⟨T0, hT0⟩ : ∃ T0, namesR R R.length = T0 := ⟨_, rfl⟩
      have hl0 : T0.length ≤ R.length := by rw [← hT0]; exact namesR_len R R.length
      have hown0 := hown.out
      unfold namesF at hown0
      have e0 : fold (namesR R R.length) = viasF T0 S 0 := by rw [hT0]; unfold viasF; simp [viasS]
      rw [e0] at hown0
      clear e0
      rw [hT0] at HT
      have HO := Lib.hid hown0
      have HB := Lib.hid hbel
      clear hT0 hown hbel hown0
      go_wp2_with fail
      clear hcP
      go_loopw [3, 23] (fun l i wr => ∃ (k : Nat) (v : Value), k ≤ S.length ∧ l = v ∧ i = .int .i64 k ∧ Hid (wr.ownsRow w1.heap.size 9 1 v (viasF T0 S k).length ((viasF T0 S k).map encStr)) ∧ Below w1.heap.size w1 wr) (fun _ i _ => S.length - (intOf i).toNat)
      case atStart => exact ⟨0, _, by omega, rfl, rfl, HO, HB.out⟩
      case round =>
        clear HO HB hlen
        obtain ⟨k, v1, hk, rfl, rfl, hown, hbel⟩ := hrel
        have zr := hbel.size
        have hlen : (viasF T0 S k).length ≤ T0.length + S.length := by unfold viasF; have h := fold_len (T0 ++ viasS S k); have h2 := viasS_len S k; rw [List.length_append] at h; omega
        by_cases hlt : k < S.length
        · have d1 : decide ((k : Int) < S.length) = true := by simp; omega
          have p1 : (0 : Int) ≤ k := by omega
          have p2 : (k : Int) < S.length := by omega
          obtain ⟨g, o, e1, hg, hc⟩ := (HPW.out _ hbel).s (by show 0 < S.length; omega)
          obtain rfl := e1
          obtain ⟨a0, a1, a2, a3, a4, a5, a6, a7, a8⟩ := hc k hlt
          simp only at a0 a1 a2 a3 a4 a5 a6 a7 a8
          have hb2 : Below wr.heap.size wr (wr.alloc (.cells #[.int .i64 S[k].kind, .string S[k].head.owner, .string S[k].head.name, .string S[k].who, .string S[k].a.owner, .string S[k].a.name, .string S[k].b.owner, .string S[k].b.name, .string S[k].via] 26)) := (Below.refl _ wr).alloc (Nat.le_refl _) _
          have hownW := own_at hown.out hb2
          have hbelW := Lib.hid (hbel.trans (hb2.mono zr))
          clear hc
          by_cases hkd : S[k].kind = 3
          · have HS : Hid (viasF T0 S (k + 1) = putL (viasF T0 S k) (bt S[k].via)) := Lib.hid (by unfold viasF; rw [viasS_yes hlt hkd, ← List.append_assoc, fold_snoc])
            have d2 : (S[k].kind == 3) = true := by simpa using hkd
            obtain ⟨A1', k1', rfl, _, _⟩ := SRow.of_own hownW
            have HPut := Lib.hid (put w1.heap.size A1' k1' _ S[k].via _ (by omega) hbelW.out.size hownW)
            clear hown hbel hb2 hownW hkd
            go_wp2_with fail
            refine HPut.out.mono ?_
            rintro e w3 ⟨v3, rfl, hown3, hb3⟩
            rw [bt_list, ← HS.out] at hown3
            have HO3 := Lib.hid hown3
            have HB3 := Lib.hid (hbelW.out.trans hb3)
            clear hown3 hb3 a0 a1 a2 a3 a4 a5 a6 a7 a8
            go_wp2_with fail
            go_roundw
            case rel => exact ⟨k + 1, v3, by omega, rfl, by go_num, HO3, HB3.out⟩
            case measure => simp [intOf]; omega
          · have HS : Hid (viasF T0 S (k + 1) = viasF T0 S k) := Lib.hid (by unfold viasF; rw [viasS_no hlt hkd])
            have d2 : (S[k].kind == 3) = false := by simpa using hkd
            rw [← HS.out] at hownW
            have HO3 := Lib.hid hownW
            clear hown hbel hb2 hownW hkd
            go_wp2_with fail
            go_roundw
            case rel => exact ⟨k + 1, _, by omega, rfl, by go_num, HO3, hbelW.out⟩
            case measure => simp [intOf]; omega
        · have d1 : decide ((k : Int) < S.length) = false := by simp; omega
          have hkS : k = S.length := by omega
          subst hkS
          have h := hown.out
          unfold viasF at h
          rw [HT.out] at h
          have hfin := Lib.hid (SynH.own_base h (B' := w.heap.size) (by omega))
          have hbf := Lib.hid (HB0.out.trans (hbel.mono (by omega)))
          clear h hown hbel
          go_wp2_with fail
          go_ret
          exact ⟨_, rfl, hfin.out, hbf.out⟩
end Go.Proofs.Ytpjacngbkohmdaa.RefPr
/- The principals and the names of a policy: the document's Prins, by contract. -/
namespace Go.Proofs.Ytpjacngbkohmdaa.RefPq
set_option linter.unusedVariables false
set_option linter.unusedSimpArgs false
open Go.RowKit Go.Sort Go.Lib Go.Proofs Go.Proofs.Ytpjacngbkohmdaa.Plain Go.Proofs.Ytpjacngbkohmdaa.SynP Go.Proofs.Ytpjacngbkohmdaa.TabP Go.Proofs.Ytpjacngbkohmdaa.Tab1 Go.Proofs.Ytpjacngbkohmdaa.Tab4 Go.Proofs.Ytpjacngbkohmdaa.Tab5 Go.Proofs.Ytpjacngbkohmdaa.Grown Go.Proofs.Ytpjacngbkohmdaa.SynC Go.Proofs.Ytpjacngbkohmdaa.SynJ Go.Proofs.Ytpjacngbkohmdaa.QryP Go.Proofs.Ytpjacngbkohmdaa.PolA Go.Proofs.Ytpjacngbkohmdaa.PolE Go.Proofs.Ytpjacngbkohmdaa.PolG Go.Proofs.Ytpjacngbkohmdaa.PolH Go.Proofs.Ytpjacngbkohmdaa.RefRo Go.Proofs.Ytpjacngbkohmdaa.RefPr
set_option linter.unusedVariables false
set_option linter.unusedSimpArgs false
def whosAF (P : List Str) (Q : List Qy) (k : Nat) : List Str := fold (P ++ whosA Q k)
def innF (P : List Str) (Q : List Qy) (k : Nat) (U : List Str) (j : Nat) : List Str := fold (P ++ whosA Q k ++ U.take j)
theorem innF_succ (P : List Str) (Q : List Qy) (k : Nat) (U : List Str) (j : Nat) (h : j < U.length) : innF P Q k U (j + 1) = putL (innF P Q k U j) U[j] := by
  unfold innF; rw [List.take_succ_eq_append_getElem h, ← List.append_assoc, fold_snoc]
theorem innF_len (P : List Str) (Q : List Qy) (k : Nat) (U : List Str) (j : Nat) : (innF P Q k U j).length ≤ P.length + (whosA Q k).length + U.length := by
  unfold innF
  have h := fold_len (P ++ whosA Q k ++ U.take j)
  simp only [List.length_append, List.length_take] at h; omega
def prinsD (p : Py) : List Str := ownersR (rolesR p) (rolesR p).length ++ whosS p.stmts p.stmts.length ++ whosA p.asks p.asks.length
set_option maxHeartbeats 2000000 in
set_option maxRecDepth 100000 in
theorem prinsRef (p : Py) (A1 A2 A3 A4 : Option Addr) (c1 c2 c3 c4 : Nat) (w : World) (hf : p.fit) (h4 : p.asks.length ≤ 500) (hp : PG w A1 A2 A3 A4 p) : Calls Try.prog 70 #[p.val A1 A2 A3 A4 c1 c2 c3 c4] w (RowPost (fold (prinsD p)) w) := by
  have HRO := Lib.hid (fun w' h => rolesRef p A1 A2 A3 A4 c1 c2 c3 c4 w' hf h)
  have hRl := rolesR_len hf
  have n1 := hf.n1
  have n4 := hf.n4
  have hal := whosA_len hf.f5
  have hf5 := hf.f5
  have HP := Lib.hid hp
  unfold prinsD
  generalize rolesR p = R at *
  obtain ⟨S, G, H, Q⟩ := p
  simp only at n1 n4 hal hf5 h4
  have HAL := Lib.hid hal
  have HF5 := Lib.hid hf5
  clear hal hf5
  clear hp hf
  unfold Py.val at *
  simp only at HRO ⊢
  obtain ⟨TT, hTT⟩ : ∃ TT, fold (ownersR R R.length ++ whosS S S.length ++ whosA Q Q.length) = TT := ⟨_, rfl⟩
  rw [hTT]
  have HT := Lib.hid hTT
  clear hTT
  go_enter Try.func70, Try.ntmps70
  go_wp2_with fail
  refine (HRO.out _ (HP.out.below ((Below.refl _ _).alloc (Nat.le_refl _) _))).mono ?_
  rintro e w1 ⟨A, cA, rfl, hrat, hb1⟩
  have hcP1 : ∀ o, w1.cell? ⟨w.heap.size, o, none⟩ = (#[.slice A1 S.length c1, .slice A2 G.length c2, .slice A3 H.length c3, .slice A4 Q.length c4] : Array Value)[o]? := fun o => by rw [hb1.cell (by simp), Lib.cell_of_heap (heap_alloc_new w _)]
  have z1 : w.heap.size + 1 ≤ w1.heap.size := by have := hb1.size; simpa using this
  have hb01 : Below w.heap.size w w1 := ((Below.refl w.heap.size w).alloc (Nat.le_refl _) _).trans (hb1.mono (by simp))
  have HPW := Lib.hid (fun (wr : World) (h : Below w1.heap.size w1 wr) => (HP.out.below (hb01.trans (h.mono (by omega)))))
  have HCP := Lib.hid (fun (wr : World) (h : Below w1.heap.size w1 wr) (o : Nat) => (h.cell (p := ⟨w.heap.size, o, none⟩) (by show w.heap.size < w1.heap.size; omega)).trans (hcP1 o))
  have HR := Lib.hid (fun (wr : World) (h : Below w1.heap.size w1 wr) => hrat.below h)
  have HB0 := Lib.hid hb01
  clear hrat hb1 hcP1 hb01
  go_wp2_with fail
  go_loopw [3, 15] (fun l i wr => ∃ (k : Nat) (v : Value), k ≤ R.length ∧ l = v ∧ i = .int .i64 k ∧ Hid (wr.ownsRow w1.heap.size 9 1 v (ownersF R k).length ((ownersF R k).map encStr)) ∧ Below w1.heap.size w1 wr) (fun _ i _ => R.length - (intOf i).toNat)
  case atStart => exact ⟨0, _, by omega, rfl, rfl, Lib.hid (by simpa [ownersF, ownersR, fold] using World.ownsRow_nil w1 w1.heap.size 9 1), Below.refl _ _⟩
  case round =>
    obtain ⟨k, v1, hk, rfl, rfl, hown, hbel⟩ := hrel
    have zr := hbel.size
    have hlen : (ownersF R k).length ≤ R.length := by unfold ownersF; have := fold_len (ownersR R k); have := ownersR_len R k; omega
    by_cases hlt : k < R.length
    · have d1 : decide ((k : Int) < R.length) = true := by simp; omega
      have p1 : (0 : Int) ≤ k := by omega
      have p2 : (k : Int) < R.length := by omega
      obtain ⟨g, e1, hg, hc⟩ := (HR.out _ hbel) (by omega)
      obtain rfl := e1
      obtain ⟨a0, a1⟩ := hc k hlt
      have HS : Hid (ownersF R (k + 1) = putL (ownersF R k) (bt R[k].owner)) := Lib.hid (by unfold ownersF; rw [ownersR_succ hlt, fold_snoc])
      have hb2 : Below wr.heap.size wr (wr.alloc (.cells #[.string R[k].owner, .string R[k].name] 24)) := (Below.refl _ wr).alloc (Nat.le_refl _) _
      have hownW := own_at hown.out hb2
      have hbelW := Lib.hid (hbel.trans (hb2.mono zr))
      obtain ⟨A1', k1', rfl, _, _⟩ := SRow.of_own hownW
      have HPut := Lib.hid (put w1.heap.size A1' k1' _ R[k].owner _ (by omega) hbelW.out.size hownW)
      clear hc hown hbel hb2 hownW
      go_wp2_with fail
      refine HPut.out.mono ?_
      rintro e w3 ⟨v3, rfl, hown3, hb3⟩
      rw [bt_list, ← HS.out] at hown3
      have HO3 := Lib.hid hown3
      have HB3 := Lib.hid (hbelW.out.trans hb3)
      clear hown3 hb3 a0 a1
      go_wp2_with fail
      go_roundw
      case rel => exact ⟨k + 1, v3, by omega, rfl, by go_num, HO3, HB3.out⟩
      case measure => simp [intOf]; omega
    · have d1 : decide ((k : Int) < R.length) = false := by simp; omega
      have hkR : k = R.length := by omega
      subst hkR
      have hcP := HCP.out _ hbel
      obtain ⟨T0, hT0⟩ : ∃ T0, ownersR R R.length = T0 := ⟨_, rfl⟩
      have hl0 : T0.length ≤ R.length := by rw [← hT0]; exact ownersR_len R R.length
      have hown0 := hown.out
      unfold ownersF at hown0
      have e0 : fold (ownersR R R.length) = whosF T0 S 0 := by rw [hT0]; unfold whosF; simp [whosS]
      rw [e0] at hown0
      clear e0
      rw [hT0] at HT
      have HO := Lib.hid hown0
      have HB := Lib.hid hbel
      clear hT0 hown hbel hown0
      go_wp2_with fail
      clear hcP
      go_loopw [3, 27] (fun l i wr => ∃ (k : Nat) (v : Value), k ≤ S.length ∧ l = v ∧ i = .int .i64 k ∧ Hid (wr.ownsRow w1.heap.size 9 1 v (whosF T0 S k).length ((whosF T0 S k).map encStr)) ∧ Below w1.heap.size w1 wr) (fun _ i _ => S.length - (intOf i).toNat)
      case atStart => exact ⟨0, _, by omega, rfl, rfl, HO, HB.out⟩
      case round =>
        clear HO HB hlen
        obtain ⟨k, v1, hk, rfl, rfl, hown, hbel⟩ := hrel
        have zr := hbel.size
        have hlen : (whosF T0 S k).length ≤ T0.length + S.length := by unfold whosF; have h := fold_len (T0 ++ whosS S k); have h2 := whosS_len S k; rw [List.length_append] at h; omega
        by_cases hlt : k < S.length
        · have d1 : decide ((k : Int) < S.length) = true := by simp; omega
          have p1 : (0 : Int) ≤ k := by omega
          have p2 : (k : Int) < S.length := by omega
          obtain ⟨g, o, e1, hg, hc⟩ := (HPW.out _ hbel).s (by show 0 < S.length; omega)
          obtain rfl := e1
          obtain ⟨a0, a1, a2, a3, a4, a5, a6, a7, a8⟩ := hc k hlt
          simp only at a0 a1 a2 a3 a4 a5 a6 a7 a8
          have hb2 : Below wr.heap.size wr (wr.alloc (.cells #[.int .i64 S[k].kind, .string S[k].head.owner, .string S[k].head.name, .string S[k].who, .string S[k].a.owner, .string S[k].a.name, .string S[k].b.owner, .string S[k].b.name, .string S[k].via] 26)) := (Below.refl _ wr).alloc (Nat.le_refl _) _
          have hownW := own_at hown.out hb2
          have hbelW := Lib.hid (hbel.trans (hb2.mono zr))
          clear hc
          by_cases hkd : S[k].kind = 1
          · have HS : Hid (whosF T0 S (k + 1) = putL (whosF T0 S k) (bt S[k].who)) := Lib.hid (by unfold whosF; rw [whosS_yes hlt hkd, ← List.append_assoc, fold_snoc])
            have d2 : (S[k].kind == 1) = true := by simpa using hkd
            obtain ⟨A1', k1', rfl, _, _⟩ := SRow.of_own hownW
            have HPut := Lib.hid (put w1.heap.size A1' k1' _ S[k].who _ (by omega) hbelW.out.size hownW)
            clear hown hbel hb2 hownW hkd
            go_wp2_with fail
            refine HPut.out.mono ?_
            rintro e w3 ⟨v3, rfl, hown3, hb3⟩
            rw [bt_list, ← HS.out] at hown3
            have HO3 := Lib.hid hown3
            have HB3 := Lib.hid (hbelW.out.trans hb3)
            clear hown3 hb3 a0 a1 a2 a3 a4 a5 a6 a7 a8
            go_wp2_with fail
            go_roundw
            case rel => exact ⟨k + 1, v3, by omega, rfl, by go_num, HO3, HB3.out⟩
            case measure => simp [intOf]; omega
          · have HS : Hid (whosF T0 S (k + 1) = whosF T0 S k) := Lib.hid (by unfold whosF; rw [whosS_no hlt hkd])
            have d2 : (S[k].kind == 1) = false := by simpa using hkd
            rw [← HS.out] at hownW
            have HO3 := Lib.hid hownW
            clear hown hbel hb2 hownW hkd
            go_wp2_with fail
            go_roundw
            case rel => exact ⟨k + 1, _, by omega, rfl, by go_num, HO3, hbelW.out⟩
            case measure => simp [intOf]; omega
        · have d1 : decide ((k : Int) < S.length) = false := by simp; omega
          have hkS : k = S.length := by omega
          subst hkS
          have hcP := HCP.out _ hbel
          obtain ⟨T1, hT1⟩ : ∃ T1, T0 ++ whosS S S.length = T1 := ⟨_, rfl⟩
          have hl1 : T1.length ≤ R.length + S.length := by rw [← hT1, List.length_append]; have := whosS_len S S.length; omega
          have hown0 := hown.out
          unfold whosF at hown0
          have e0 : fold (T0 ++ whosS S S.length) = whosAF T1 Q 0 := by rw [hT1]; unfold whosAF; simp [whosA]
          rw [e0] at hown0
          rw [hT1] at HT
          have HO := Lib.hid hown0
          have HB := Lib.hid hbel
          clear e0 hT1 hown hbel hown0
          go_wp2_with fail
          clear hcP
          go_loopw [3, 42] (fun l i wr => ∃ (k : Nat) (v : Value), k ≤ Q.length ∧ l = v ∧ i = .int .i64 k ∧ Hid (wr.ownsRow w1.heap.size 9 1 v (whosAF T1 Q k).length ((whosAF T1 Q k).map encStr)) ∧ Below w1.heap.size w1 wr) (fun _ i _ => Q.length - (intOf i).toNat)
          case atStart => exact ⟨0, _, by omega, rfl, rfl, HO, HB.out⟩
          case round =>
            clear HO HB hlen
            obtain ⟨k, v1, hk, rfl, rfl, hown, hbel⟩ := hrel
            have zr := hbel.size
            by_cases hlt : k < Q.length
            · have d1 : decide ((k : Int) < Q.length) = true := by simp; omega
              have p1 : (0 : Int) ≤ k := by omega
              have p2 : (k : Int) < Q.length := by omega
              have hq100 := HF5.out Q[k] (List.getElem_mem hlt)
              have hlq := HAL.out k
              obtain ⟨g, o, e1, hg, hc⟩ := (HPW.out w1 (Below.refl _ _)).q (by show 0 < Q.length; omega)
              obtain rfl := e1
              obtain ⟨B, cB, b0, b1, b2, b3, b4, b5, hrow⟩ := hc k hlt
              simp only at b0 b1 b2 b3 b4 b5 hrow
              have kk : ∀ {i : Nat} {u : Value}, w1.cell? ⟨g, i, none⟩ = some u → wr.cell? ⟨g, i, none⟩ = some u := fun {i u} e => (hbel.cell (p := ⟨g, i, none⟩) hg).trans e
              have a0 := kk b0
              have a1 := kk b1
              have a2 := kk b2
              have a3 := kk b3
              have a4 := kk b4
              have a5 := kk b5
              clear kk b0 b1 b2 b3 b4 b5
              have hb2 : Below wr.heap.size wr (wr.alloc (.cells #[.int .i64 Q[k].kind, .string Q[k].a.owner, .string Q[k].a.name, .string Q[k].b.owner, .string Q[k].b.name, .slice B Q[k].who.length cB] 61)) := (Below.refl _ wr).alloc (Nat.le_refl _) _
              have HO := Lib.hid (own_at hown.out hb2)
              have HBW := Lib.hid (hbel.trans (hb2.mono zr))
              have HRW := Lib.hid hrow
              have HS0 : Hid (innF T1 Q k Q[k].who 0 = whosAF T1 Q k) := Lib.hid (by unfold innF whosAF; simp)
              have HS1 : Hid (innF T1 Q k Q[k].who Q[k].who.length = whosAF T1 Q (k + 1)) := Lib.hid (by unfold innF whosAF; rw [whosA_succ hlt, List.take_length, List.append_assoc])
              rw [← HS0.out] at HO
              clear hc hown hbel hb2 hrow HS0
              obtain ⟨W2, hW2⟩ : ∃ W2, wr.alloc (.cells #[.int .i64 Q[k].kind, .string Q[k].a.owner, .string Q[k].a.name, .string Q[k].b.owner, .string Q[k].b.name, .slice B Q[k].who.length cB] 61) = W2 := ⟨_, rfl⟩
              have HW2 := Lib.hid hW2
              rw [hW2] at HO HBW
              clear hW2
              go_wp2_with fail
              rw [HW2.out]
              generalize Q[k].who = U at *
              go_loopw [3, 49] (fun l i wr => ∃ (j : Nat) (v : Value), j ≤ U.length ∧ l = v ∧ i = .int .i64 j ∧ Hid (wr.ownsRow w1.heap.size 9 1 v (innF T1 Q k U j).length ((innF T1 Q k U j).map encStr)) ∧ Below w1.heap.size w1 wr) (fun _ i _ => U.length - (intOf i).toNat)
              case atStart => exact ⟨0, _, by omega, rfl, rfl, HO, HBW.out⟩
              case round =>
                clear HO HBW HW2
                obtain ⟨j, v2, hj, rfl, rfl, hown, hbel⟩ := hrel
                have zr2 := hbel.size
                have hlen := innF_len T1 Q k U j
                by_cases hlu : j < U.length
                · have d2 : decide ((j : Int) < U.length) = true := by simp; omega
                  have p3 : (0 : Int) ≤ j := by omega
                  have p4 : (j : Int) < U.length := by omega
                  obtain ⟨g2, off, rfl, hg2, hcell⟩ := HRW.out (by omega)
                  have hx := (hbel.cell (p := ⟨g2, off + j, none⟩) hg2).trans (hcell j hlu)
                  have HS2 := Lib.hid (innF_succ T1 Q k U j hlu)
                  have he := Lib.hid (show (⟨U[j].toArray⟩ : ByteArray).toList = U[j] from by rw [Go.ByteArray.toList_eq])
                  have hown2 := hown.out
                  obtain ⟨A1', k1', rfl, _, _⟩ := SRow.of_own hown2
                  have HPut := Lib.hid (put w1.heap.size A1' k1' _ ⟨U[j].toArray⟩ _ (by omega) hbel.size hown2)
                  have HBE := Lib.hid hbel
                  clear hcell hown hown2 hbel a0 a1 a2 a3 a4 a5
                  go_wp2_with fail
                  refine HPut.out.mono ?_
                  rintro e w3 ⟨v3, rfl, hown3, hb3⟩
                  rw [he.out, ← HS2.out] at hown3
                  have HO3 := Lib.hid hown3
                  have HB3 := Lib.hid (HBE.out.trans hb3)
                  clear hown3 hb3
                  go_wp2_with fail
                  go_roundw
                  case rel => exact ⟨j + 1, v3, by omega, rfl, by go_num, HO3, HB3.out⟩
                  case measure => simp [intOf]; omega
                · have d2 : decide ((j : Int) < U.length) = false := by simp; omega
                  have hjU : j = U.length := by omega
                  subst hjU
                  have hown2 := hown.out
                  rw [HS1.out] at hown2
                  have HO3 := Lib.hid hown2
                  have HB3 := Lib.hid hbel
                  clear hown hown2 hbel a0 a1 a2 a3 a4 a5
                  go_wp2_with fail
                  go_roundw
                  case rel => exact ⟨k + 1, _, by omega, rfl, by go_num, HO3, HB3.out⟩
                  case measure => simp [intOf]; omega
            · have d1 : decide ((k : Int) < Q.length) = false := by simp; omega
              have hkQ : k = Q.length := by omega
              subst hkQ
              have h := hown.out
              unfold whosAF at h
              rw [HT.out] at h
              have hfin := Lib.hid (SynH.own_base h (B' := w.heap.size) (by omega))
              have hbf := Lib.hid (HB0.out.trans (hbel.mono (by omega)))
              clear h hown hbel
              go_wp2_with fail
              go_ret
              exact ⟨_, rfl, hfin.out, hbf.out⟩
end Go.Proofs.Ytpjacngbkohmdaa.RefPq
/- policy.Fits, by contract. -/
namespace Go.Proofs.Ytpjacngbkohmdaa.PolI
set_option linter.unusedVariables false
set_option linter.unusedSimpArgs false
open Go.RowKit Go.Sort Go.Lib Go.Proofs Go.Proofs.Ytpjacngbkohmdaa.Plain Go.Proofs.Ytpjacngbkohmdaa.SynP Go.Proofs.Ytpjacngbkohmdaa.TabP Go.Proofs.Ytpjacngbkohmdaa.Tab1 Go.Proofs.Ytpjacngbkohmdaa.Tab5 Go.Proofs.Ytpjacngbkohmdaa.SynJ Go.Proofs.Ytpjacngbkohmdaa.QryP Go.Proofs.Ytpjacngbkohmdaa.PolA Go.Proofs.Ytpjacngbkohmdaa.PolE Go.Proofs.Ytpjacngbkohmdaa.PolG Go.Proofs.Ytpjacngbkohmdaa.PolH
set_option linter.unusedVariables false
set_option linter.unusedSimpArgs false
def fitsP (p : Py) : Bool := decide (p.stmts.length ≤ 80) && decide (p.grow.length ≤ 40) && decide (p.shrink.length ≤ 40) && decide (p.asks.length ≤ 16) && decide ((tab (prinsT p)).length ≤ 16) && decide ((tab (namesT p)).length ≤ 12)
end Go.Proofs.Ytpjacngbkohmdaa.PolI
/- The document's Fits, by contract. -/
namespace Go.Proofs.Ytpjacngbkohmdaa.RefFi
set_option linter.unusedVariables false
set_option linter.unusedSimpArgs false
open Go.RowKit Go.Sort Go.Lib Go.Proofs Go.Proofs.Ytpjacngbkohmdaa.Plain Go.Proofs.Ytpjacngbkohmdaa.SynP Go.Proofs.Ytpjacngbkohmdaa.TabP Go.Proofs.Ytpjacngbkohmdaa.Tab1 Go.Proofs.Ytpjacngbkohmdaa.Tab5 Go.Proofs.Ytpjacngbkohmdaa.SynJ Go.Proofs.Ytpjacngbkohmdaa.QryP Go.Proofs.Ytpjacngbkohmdaa.PolA Go.Proofs.Ytpjacngbkohmdaa.PolE Go.Proofs.Ytpjacngbkohmdaa.PolG Go.Proofs.Ytpjacngbkohmdaa.PolH Go.Proofs.Ytpjacngbkohmdaa.PolI Go.Proofs.Ytpjacngbkohmdaa.RefRo Go.Proofs.Ytpjacngbkohmdaa.RefPr Go.Proofs.Ytpjacngbkohmdaa.RefPq
set_option linter.unusedVariables false
set_option linter.unusedSimpArgs false
theorem roles_mem (p : Py) (r : Rl) : r ∈ rolesR p ↔ r ∈ rolesP p := by
  unfold rolesR rolesP
  simp only [List.mem_append]
  constructor
  · rintro (((h | h) | h) | h) <;> simp [h]
  · rintro (((h | h) | h) | h) <;> simp [h]
theorem mem_owners (R : List Rl) (x : Str) : x ∈ ownersR R R.length ↔ ∃ r, r ∈ R ∧ bt r.owner = x := by
  unfold ownersR; rw [List.take_length, List.mem_map]
theorem mem_names (R : List Rl) (x : Str) : x ∈ namesR R R.length ↔ ∃ r, r ∈ R ∧ bt r.name = x := by
  unfold namesR; rw [List.take_length, List.mem_map]
theorem prins_eq (p : Py) : fold (prinsD p) = tab (prinsT p) := by
  rw [fold_tab]
  refine eq_of_rising (tab_sorted _) (tab_sorted _) fun x => ?_
  rw [mem_tab, mem_tab]
  unfold prinsD prinsT
  simp only [List.mem_append, mem_owners, roles_mem]
theorem names_eq (p : Py) : fold (namesD p) = tab (namesT p) := by
  rw [fold_tab]
  refine eq_of_rising (tab_sorted _) (tab_sorted _) fun x => ?_
  rw [mem_tab, mem_tab]
  unfold namesD namesT
  simp only [List.mem_append, mem_names, roles_mem]
set_option maxHeartbeats 1000000 in
set_option maxRecDepth 100000 in
theorem fitsRef (p : Py) (A1 A2 A3 A4 : Option Addr) (c1 c2 c3 c4 : Nat) (w : World) (hf : p.fit) (hp : PG w A1 A2 A3 A4 p) : Calls Try.prog 54 #[p.val A1 A2 A3 A4 c1 c2 c3 c4] w fun e w' => e = .returned (.bool (fitsP p)) ∧ Below w.heap.size w w' := by
  have HPr := Lib.hid (fun h4 w' h => prinsRef p A1 A2 A3 A4 c1 c2 c3 c4 w' hf h4 h)
  have HNm := Lib.hid (fun w' h => namesRef p A1 A2 A3 A4 c1 c2 c3 c4 w' hf h)
  have HP := Lib.hid hp
  rw [prins_eq] at HPr
  rw [names_eq] at HNm
  unfold fitsP
  generalize tab (prinsT p) = T at *
  generalize tab (namesT p) = U at *
  obtain ⟨S, G, H, Q⟩ := p
  clear hf hp
  unfold Py.val at *
  simp only at *
  have hbx := Lib.hid ((Below.refl w.heap.size w).alloc (Nat.le_refl _) (.cells #[.slice A1 S.length c1, .slice A2 G.length c2, .slice A3 H.length c3, .slice A4 Q.length c4] 40))
  by_cases hS : S.length ≤ 80
  rotate_left
  · rw [decide_eq_false hS]
    have d : decide ((80 : Int) < S.length) = true := by simp; omega
    have d' : (80 : Int) < S.length := by omega
    simp only [Bool.and_false, Bool.false_and]
    go_enter Try.func54, Try.ntmps54
    go_wp2_with fail
    go_ret
    exact ⟨rfl, hbx.out⟩
  rw [decide_eq_true hS]
  have dS : decide ((80 : Int) < S.length) = false := by simp; omega
  have eS : ¬ (80 : Int) < S.length := by omega
  by_cases hG : G.length ≤ 40
  rotate_left
  · rw [decide_eq_false hG]
    have d : decide ((40 : Int) < G.length) = true := by simp; omega
    have d' : (40 : Int) < G.length := by omega
    simp only [Bool.and_false, Bool.false_and]
    go_enter Try.func54, Try.ntmps54
    go_wp2_with fail
    go_ret
    exact ⟨rfl, hbx.out⟩
  rw [decide_eq_true hG]
  have dG : decide ((40 : Int) < G.length) = false := by simp; omega
  have eG : ¬ (40 : Int) < G.length := by omega
  by_cases hH : H.length ≤ 40
  rotate_left
  · rw [decide_eq_false hH]
    have d : decide ((40 : Int) < H.length) = true := by simp; omega
    have d' : (40 : Int) < H.length := by omega
    simp only [Bool.and_false, Bool.false_and]
    go_enter Try.func54, Try.ntmps54
    go_wp2_with fail
    go_ret
    exact ⟨rfl, hbx.out⟩
  rw [decide_eq_true hH]
  have dH : decide ((40 : Int) < H.length) = false := by simp; omega
  have eH : ¬ (40 : Int) < H.length := by omega
  by_cases hQ : Q.length ≤ 16
  rotate_left
  · rw [decide_eq_false hQ]
    have d : decide ((16 : Int) < Q.length) = true := by simp; omega
    have d' : (16 : Int) < Q.length := by omega
    simp only [Bool.and_false, Bool.false_and]
    go_enter Try.func54, Try.ntmps54
    go_wp2_with fail
    go_ret
    exact ⟨rfl, hbx.out⟩
  rw [decide_eq_true hQ]
  have dQ : decide ((16 : Int) < Q.length) = false := by simp; omega
  have eQ : ¬ (16 : Int) < Q.length := by omega
  simp only [Bool.true_and]
  by_cases hT : T.length ≤ 16
  rotate_left
  · rw [decide_eq_false hT]
    have d : decide ((T.length : Int) ≤ 16) = false := by simp; omega
    have d' : ¬ (T.length : Int) ≤ 16 := by omega
    simp only [Bool.false_and]
    go_enter Try.func54, Try.ntmps54
    go_wp2_with fail
    refine (HPr.out (by omega) _ (HP.out.below hbx.out)).mono ?_
    rintro e w1 ⟨v, rfl, hown, hb1⟩
    obtain ⟨A, c, rfl, _, _⟩ := SRow.of_own hown
    have hb2 := hbx.out.trans (hb1.mono (by simp))
    have HP1 := Lib.hid (HP.out.below hb2)
    have hc : ∀ o, w1.cell? ⟨w.heap.size, o, none⟩ = (#[.slice A1 S.length c1, .slice A2 G.length c2, .slice A3 H.length c3, .slice A4 Q.length c4] : Array Value)[o]? := fun o => by rw [hb1.cell (by simp), Lib.cell_of_heap (heap_alloc_new w _)]
    have HB2 := Lib.hid hb2
    clear hown hb1 hb2
    go_wp2_with fail
    go_ret
    exact ⟨rfl, HB2.out⟩
  rw [decide_eq_true hT]
  have dT : decide ((T.length : Int) ≤ 16) = true := by simp; omega
  have eT : (T.length : Int) ≤ 16 := by omega
  simp only [Bool.true_and]
  by_cases hU : U.length ≤ 12
  · rw [decide_eq_true hU]
    have dU : decide ((U.length : Int) ≤ 12) = true := by simp; omega
    have eU : (U.length : Int) ≤ 12 := by omega
    go_enter Try.func54, Try.ntmps54
    go_wp2_with fail
    refine (HPr.out (by omega) _ (HP.out.below hbx.out)).mono ?_
    rintro e w1 ⟨v, rfl, hown, hb1⟩
    obtain ⟨A, c, rfl, _, _⟩ := SRow.of_own hown
    have hb2 := hbx.out.trans (hb1.mono (by simp))
    have HP1 := Lib.hid (HP.out.below hb2)
    have hc : ∀ o, w1.cell? ⟨w.heap.size, o, none⟩ = (#[.slice A1 S.length c1, .slice A2 G.length c2, .slice A3 H.length c3, .slice A4 Q.length c4] : Array Value)[o]? := fun o => by rw [hb1.cell (by simp), Lib.cell_of_heap (heap_alloc_new w _)]
    have HB2 := Lib.hid hb2
    clear hown hb1 hb2
    go_wp2_with fail
    refine (HNm.out _ HP1.out).mono ?_
    rintro e w2 ⟨v, rfl, hown, hb3⟩
    obtain ⟨A', c', rfl, _, _⟩ := SRow.of_own hown
    have HB4 := Lib.hid (HB2.out.trans (hb3.mono HB2.out.size))
    clear hown hb3 hc
    go_wp2_with fail
    go_ret
    exact ⟨rfl, HB4.out⟩
  · rw [decide_eq_false hU]
    have dU : decide ((U.length : Int) ≤ 12) = false := by simp; omega
    have eU : ¬ (U.length : Int) ≤ 12 := by omega
    go_enter Try.func54, Try.ntmps54
    go_wp2_with fail
    refine (HPr.out (by omega) _ (HP.out.below hbx.out)).mono ?_
    rintro e w1 ⟨v, rfl, hown, hb1⟩
    obtain ⟨A, c, rfl, _, _⟩ := SRow.of_own hown
    have hb2 := hbx.out.trans (hb1.mono (by simp))
    have HP1 := Lib.hid (HP.out.below hb2)
    have hc : ∀ o, w1.cell? ⟨w.heap.size, o, none⟩ = (#[.slice A1 S.length c1, .slice A2 G.length c2, .slice A3 H.length c3, .slice A4 Q.length c4] : Array Value)[o]? := fun o => by rw [hb1.cell (by simp), Lib.cell_of_heap (heap_alloc_new w _)]
    have HB2 := Lib.hid hb2
    clear hown hb1 hb2
    go_wp2_with fail
    refine (HNm.out _ HP1.out).mono ?_
    rintro e w2 ⟨v, rfl, hown, hb3⟩
    obtain ⟨A', c', rfl, _, _⟩ := SRow.of_own hown
    have HB4 := Lib.hid (HB2.out.trans (hb3.mono HB2.out.size))
    clear hown hb3 hc
    go_wp2_with fail
    go_ret
    exact ⟨rfl, HB4.out⟩
end Go.Proofs.Ytpjacngbkohmdaa.RefFi
/- The document's way to sort roles: what is wanted of its loops; whether a role is in a row. -/
namespace Go.Proofs.Ytpjacngbkohmdaa.RolA
set_option linter.unusedVariables false
set_option linter.unusedSimpArgs false
open Go.RowKit Go.Sort Go.Lib Go.Proofs Go.Proofs.Ytpjacngbkohmdaa.Plain Go.Proofs.Ytpjacngbkohmdaa.SynP Go.Proofs.Ytpjacngbkohmdaa.Grown Go.Proofs.Ytpjacngbkohmdaa.SynC Go.Proofs.Ytpjacngbkohmdaa.SynD Go.Proofs.Ytpjacngbkohmdaa.SynJ Go.Proofs.Ytpjacngbkohmdaa.PolA
open Go.Proofs.Ytpjacngbkohmdaa.SynDA (sortL_snoc insL_len sortL_len insL_at own_keep own_more own_form step_append_from)
set_option linter.unusedVariables false
set_option linter.unusedSimpArgs false
/-- A slice value's place that reads as roles. -/
def RF (w : World) (A : Option Addr) (L : List Rl) : Prop :=
  0 < L.length → ∃ g o, A = some ⟨g, o, none⟩ ∧ g < w.heap.size ∧ ∀ j u, (rcells L)[j]? = some u → w.cell? ⟨g, o + j, none⟩ = some u
theorem RF.below {w w' : World} {A : Option Addr} {L : List Rl} (h : RF w A L) (hb : Below w.heap.size w w') : RF w' A L := fun hp => by
  obtain ⟨g, o, hA, hg, hc⟩ := h hp
  exact ⟨g, o, hA, Nat.lt_of_lt_of_le hg hb.size, fun j u hu => (hb.cell (p := ⟨g, o + j, none⟩) hg).trans (hc j u hu)⟩
theorem RF.of_own {w : World} {B : Nat} {e : TypeId} {v : Value} {L : List Rl} (h : w.ownsRow B e 2 v L.length (rcells L)) : ∃ A cap, v = .slice A L.length cap ∧ L.length ≤ cap ∧ RF w A L := by
  rcases h.2 with ⟨rfl, h0⟩ | ⟨g, cap, cur, rfl, hB, hh, hc, hm, hs, ht⟩
  · exact ⟨none, 0, by rw [h0], by omega, fun hp => by omega⟩
  · refine ⟨_, _, rfl, hc, fun hp => ⟨g, 0, rfl, ?_, fun j u hu => ?_⟩⟩
    · exact (h.lt g rfl).2
    · have hj : j < (rcells L).length := by
        rcases Nat.lt_or_ge j (rcells L).length with h | h
        · exact h
        · rw [List.getElem?_eq_none h] at hu; cases hu
      rw [rcells_len] at hj
      rw [← ht, List.getElem?_take_of_lt (by omega)] at hu
      rw [Nat.zero_add, Lib.cell_of_heap hh, ← Array.getElem?_toList]
      exact hu
/-- Its two cells. -/
theorem RF.nine {w : World} {A : Option Addr} {L : List Rl} (h : RF w A L) (j : Nat) (hj : j < L.length) : ∃ g o, A = some ⟨g, o, none⟩ ∧ g < w.heap.size ∧ ∀ k u, (Rl.cells L[j])[k]? = some u → w.cell? ⟨g, o + (j * 2 + k), none⟩ = some u := by
  obtain ⟨g, o, hA, hg, hc⟩ := h (by omega)
  refine ⟨g, o, hA, hg, fun k u hu => ?_⟩
  have hk : k < 2 := by
    rcases Nat.lt_or_ge k 2 with h | h
    · exact h
    · rw [List.getElem?_eq_none (by show 2 ≤ k; exact h)] at hu; cases hu
  exact hc _ u ((rcells_get L j k hj hk).trans hu)
/-- The row that is left behind a put. -/
theorem own_put {w : World} {B B' k : Nat} {v : Value} {M M' : List Rl} {s : Rl} (h : w.ownsRow B' 24 2 v (k + 1 + (M.length - k)) ((rcells (M.take k) ++ (Rl.cells s)) ++ rcells (M.drop k))) (hk : k ≤ M.length) (hM : M' = M.take k ++ s :: M.drop k) (hB : B ≤ B') : ∃ A c, v = .slice A M'.length c ∧ w.ownsRow B 24 2 (.slice A M'.length c) M'.length (rcells M') := by
  have hl : M'.length = k + 1 + (M.length - k) := by rw [hM]; simp; omega
  have hc : rcells M' = (rcells (M.take k) ++ (Rl.cells s)) ++ rcells (M.drop k) := by rw [hM, rcells_app, rcells_cons, List.append_assoc]
  rw [← hl, ← hc] at h
  obtain ⟨A, c, rfl⟩ := own_form h
  exact ⟨A, c, rfl, own_more h hB⟩
theorem take_cells (M : List Rl) (k : Nat) (hk : k ≤ M.length) : (rcells (M.take k)).length = k * 2 := by rw [rcells_len, List.length_take, Nat.min_eq_left hk]
theorem drop_cells (M : List Rl) (k : Nat) : (rcells (M.drop k)).length = (M.length - k) * 2 := by rw [rcells_len, List.length_drop]
/-- The cells of the rest of a row. -/
theorem drop_at {w : World} {g k : Nat} {M : List Rl} (h : ∀ j u, (rcells M)[j]? = some u → w.cell? ⟨g, j, none⟩ = some u) (hk : k ≤ M.length) : ∀ j u, (rcells (M.drop k))[j]? = some u → w.cell? ⟨g, k * 2 + j, none⟩ = some u := fun j u hu => by
  refine h _ _ ?_
  rw [show rcells M = rcells (M.take k) ++ rcells (M.drop k) by rw [← rcells_app, List.take_append_drop], List.getElem?_append_right (by rw [take_cells M k hk]; omega), take_cells M k hk, show k * 2 + j - k * 2 = j by omega]
  exact hu
theorem take_at {w : World} {g k : Nat} {M : List Rl} (h : ∀ j u, (rcells M)[j]? = some u → w.cell? ⟨g, j, none⟩ = some u) (hk : k ≤ M.length) : ∀ j u, (rcells (M.take k))[j]? = some u → w.cell? ⟨g, j, none⟩ = some u := fun j u hu => by
  refine h _ _ ?_
  have hj : j < (rcells (M.take k)).length := by
    rcases Nat.lt_or_ge j (rcells (M.take k)).length with h | h
    · exact h
    · rw [List.getElem?_eq_none h] at hu; cases hu
  rw [show rcells M = rcells (M.take k) ++ rcells (M.drop k) by rw [← rcells_app, List.take_append_drop], List.getElem?_append_left hj]
  exact hu
theorem at_own {w : World} {B g n c : Nat} {M : List Rl} (h : w.ownsRow B 24 2 (.slice (some ⟨g, 0, none⟩) n c) n (rcells M)) : ∀ j u, (rcells M)[j]? = some u → w.cell? ⟨g, j, none⟩ = some u := fun j u hu => by
  have q := h.cells (g := g) rfl j u hu
  rwa [add_off, Nat.zero_add] at q
theorem stcell_one (x : Rl) : ∀ v ∈ (Rl.cells x), v.oneCell' = true := fun v hv => by
  simp [Rl.cells] at hv
  rcases hv with rfl | rfl <;> rfl
theorem cap_le {w : World} {B n c : Nat} {A : Option Addr} {M : List Rl} (h : w.ownsRow B 24 2 (.slice A n c) n (rcells M)) : n ≤ c := by
  rcases h.2 with ⟨e, h0⟩ | ⟨g, cap, cur, e, hB, hh, hc, _⟩
  · omega
  · injection e with e1 e2 e3
    subst e3; exact hc
theorem own_ways {w : World} {B c : Nat} {A : Option Addr} {M : List Rl} (h : w.ownsRow B 24 2 (.slice A M.length c) M.length (rcells M)) : (A = none ∧ c = 0 ∧ M.length = 0) ∨ ∃ g, A = some ⟨g, 0, none⟩ := by
  rcases h.2 with ⟨e, h0⟩ | ⟨g, cap, cur, e, _⟩
  · injection e with e1 e2 e3
    exact .inl ⟨e1, e3, h0⟩
  · injection e with e1 e2 e3
    exact .inr ⟨g, e1⟩
theorem at_drop {w : World} {B k : Nat} {v : Value} {M : List Rl} (h : w.ownsRow B 24 2 v (M.length - k) (rcells (M.drop k))) : ∃ A c, v = .slice A (M.length - k) c ∧ RF w A (M.drop k) := by
  have hl : (M.drop k).length = M.length - k := List.length_drop
  rw [← hl] at h
  obtain ⟨A, c, e, _, hat⟩ := RF.of_own h
  rw [hl] at e
  exact ⟨A, c, e, hat⟩
theorem drop_new {Z : World} {B g n c k : Nat} {M : List Rl} {ad : Addr} (h : Z.ownsRow B 24 2 (.slice (some ⟨g, 0, none⟩) n c) n (rcells M)) (e : (some ⟨g, k * 2, none⟩ : Option Addr) = some ad) (hk : k ≤ M.length) : ∀ j u, (rcells (M.drop k))[j]? = some u → (Z.alloc (.cells #[] 24)).cell? (ad.add j) = some u := fun j u hu => by
  injection e with e
  subst e
  rw [add_off, World.cell?_alloc_past _ _ _ (h.lt g rfl).2]
  exact drop_at (at_own h) hk j u hu
theorem olds_at {X : World} {B c k : Nat} {A : Option Addr} {M : List Rl} {o : Obj} (h : X.ownsRow B 24 2 (.slice A M.length c) M.length (rcells M)) (hk : k ≤ M.length) : ∀ b, A = some b → ∀ j u, (rcells (M.take k))[j]? = some u → (X.drew.alloc o).cell? (b.add j) = some u := fun b e j u hu => by
  rcases own_ways h with ⟨rfl, _⟩ | ⟨g, rfl⟩
  · cases e
  · injection e with e
    subst e
    have hlt : g < X.drew.heap.size := (h.lt g rfl).2
    rw [add_off, Nat.zero_add, World.cell?_alloc_past _ _ _ hlt]
    exact take_at (at_own h) hk j u hu
theorem olds_none {X : World} {B c k : Nat} {A : Option Addr} {M : List Rl} (h : X.ownsRow B 24 2 (.slice A M.length c) M.length (rcells M)) (hk : k ≤ M.length) : A = none → k = 0 ∧ k = 0 := fun e => by
  rcases own_ways h with ⟨_, _, h0⟩ | ⟨g, rfl⟩
  · omega
  · cases e
theorem new_at (X : World) (s : Rl) : ∀ j u, (Rl.cells s)[j]? = some u → (X.alloc (.cells (Rl.cells s).toArray 24)).cell? ((⟨X.heap.size, 0, none⟩ : Addr).add j) = some u := fun j u hu => by
  rw [add_off, Nat.zero_add, Lib.cell_of_heap (heap_alloc_new X _)]
  simpa using hu
theorem rest_none {w : World} {A : Option Addr} {M : List Rl} {k : Nat} (h : RF w A (M.drop k)) : A = none → M.length - k = 0 := fun e => by
  rcases Nat.eq_zero_or_pos (M.drop k).length with h0 | h0
  · rwa [List.length_drop] at h0
  · obtain ⟨g, o, hA, _⟩ := h h0
    rw [hA] at e; cases e
theorem rest_at {w w4 : World} {A : Option Addr} {M : List Rl} {k : Nat} {o : Obj} (h : RF w A (M.drop k)) (hg : (w.drew.alloc o).grownBy w4 none) : ∀ ad, A = some ad → ∀ j u, (rcells (M.drop k))[j]? = some u → w4.cell? (ad.add j) = some u := fun ad e j u hu => by
  have hp : 0 < (M.drop k).length := by
    rcases Nat.eq_zero_or_pos (M.drop k).length with h0 | h0
    · rw [List.eq_nil_of_length_eq_zero h0] at hu; simp [rcells] at hu
    · exact h0
  have hb : Below w.heap.size w w4 := (((Below.refl _ _).drew).alloc (Nat.le_refl _) _).grown hg (by simp) (fun _ h => by cases h)
  obtain ⟨g, o', hA, hgz, hc⟩ := h hp
  rw [hA] at e
  injection e with e
  subst e
  rw [add_off]
  exact (hb.cell (p := ⟨g, o' + j, none⟩) hgz).trans (hc j u hu)
theorem below_fin {w w3 w4 w5 : World} {o : Obj} {v : Value} {n : Nat} {xs : List Value} (hb : Below w.heap.size w w3) (hs : w.heap.size ≤ w3.heap.size) (hown : w4.ownsRow (w3.drew.alloc o).heap.size 24 2 v n xs) (hg4 : (w3.drew.alloc o).grownBy w4 none) (hg5 : w4.grownBy w5 v.ownBlock) : Below w.heap.size w w5 := by
  have h4 : Below w.heap.size w w4 := ((hb.drew).alloc (by simpa using hs) _).grown hg4 (by simp; omega) (fun _ h => by cases h)
  exact h4.grown hg5 h4.size (fun k hk => by have := (hown.lt k hk).1; simp at this; omega)
set_option maxHeartbeats 1000000 in
set_option maxRecDepth 100000 in
theorem hasRef (A : Option Addr) (ca : Nat) (L : List Rl) (s : Rl) (w : World) (hL : L.length ≤ 1000) (hA : RAt w A L) :
    Calls Try.prog 29 #[.slice A L.length ca, s.val] w fun e w' => e = .returned (.bool (decide (s ∈ L))) ∧ RowKit.Below w.heap.size w w' := by
  obtain ⟨ho, hn⟩ := s
  have hown : ∀ (wr : World), Below (w.heap.size + 1) (w.alloc (.cells #[.string ho, .string hn] 24)) wr → wr.cell? ⟨w.heap.size, 0, none⟩ = some (.string ho) ∧ wr.cell? ⟨w.heap.size, 1, none⟩ = some (.string hn) := fun wr hb => by
    refine ⟨?_, ?_⟩ <;> rw [hb.cell (by simp)] <;> rw [Lib.cell_of_heap (heap_alloc_new w _)] <;> rfl
  have HO := Lib.hid hown
  clear hown
  have HA := Lib.hid hA
  clear hA
  unfold Rl.val
  go_enter Try.func29, Try.ntmps29
  go_wp2_with fail
  go_loopw [9] (fun i wr => ∃ k : Nat, k ≤ L.length ∧ i = .int .i64 k ∧ Hid ((⟨ho, hn⟩ : Rl) ∉ L.take k) ∧ Below (w.heap.size + 1) (w.alloc (.cells #[.string ho, .string hn] 24)) wr) (fun i _ => L.length - (intOf i).toNat)
  case atStart => exact ⟨0, by omega, rfl, Lib.hid (by simp), Below.refl _ _⟩
  case round =>
    obtain ⟨k, hk, rfl, hrun, hbel⟩ := hrel
    have hb0 : Below w.heap.size w wr := ((Below.refl w.heap.size w).alloc (Nat.le_refl _) _).trans (hbel.mono (by omega))
    have hsz : w.heap.size + 1 ≤ wr.heap.size := by have := hbel.size; simpa using this
    by_cases hlt : k < L.length
    · obtain ⟨g1, rfl, hg1, h1⟩ := (HA.out.below hb0) (by omega)
      obtain ⟨a0, a1⟩ := h1 k hlt
      obtain ⟨b0, b1⟩ := HO.out _ (hbel.alloc hsz (.cells #[.string L[k].owner, .string L[k].name] 24))
      have p1 : (0 : Int) ≤ k := by omega
      have p2 : (k : Int) < L.length := by omega
      clear h1
      by_cases he : L[k] = (⟨ho, hn⟩ : Rl)
      · have hfin : Hid (decide ((⟨ho, hn⟩ : Rl) ∈ L) = true) := Lib.hid (decide_eq_true (he ▸ List.getElem_mem hlt))
        have hq := fun w => SynE.eqR L[k].owner L[k].name ho hn w
        rw [decide_eq_true (p := (⟨L[k].owner, L[k].name⟩ : Rl) = ⟨ho, hn⟩) he] at hq
        clear hrun he
        go_wp2_with fail
        go_ret
        exact ⟨ret_bool hfin.out.symm, hb0.alloc hb0.size _⟩
      · have hnext : Hid ((⟨ho, hn⟩ : Rl) ∉ L.take (k + 1)) := Lib.hid (by
          rw [List.take_succ_eq_append_getElem hlt, List.mem_append, List.mem_singleton]
          rintro (h | h)
          · exact hrun.out h
          · exact he h.symm)
        have hq := fun w => SynE.eqR L[k].owner L[k].name ho hn w
        rw [decide_eq_false (p := (⟨L[k].owner, L[k].name⟩ : Rl) = ⟨ho, hn⟩) he] at hq
        clear hrun he
        go_wp2_with fail
        go_roundw
        case rel => exact ⟨k + 1, by omega, by go_num, hnext, hbel.alloc hsz _⟩
        case measure => simp [intOf]; omega
    · have hfin : Hid (decide ((⟨ho, hn⟩ : Rl) ∈ L) = false) := Lib.hid (decide_eq_false (by
        have := hrun.out
        rwa [List.take_of_length_le (by omega)] at this))
      clear hrun
      go_wp2_with fail
      go_ret
      exact ⟨ret_bool hfin.out.symm, hb0⟩
end Go.Proofs.Ytpjacngbkohmdaa.RolA
