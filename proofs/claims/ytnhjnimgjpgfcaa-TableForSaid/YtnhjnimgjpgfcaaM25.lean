/- The principals and the names of a policy: the document's Names, by contract. -/
import Derived.Test.YtnhjnimgjpgfcaaM24
import Derived.Test.YtnhjnimgjpgfcaaM02
import Derived.Test.YtnhjnimgjpgfcaaM08
import Derived.Test.YtnhjnimgjpgfcaaM22
import Derived.Deep.RegionHeld3
import Derived.Laws.AppendOwn
namespace Go.Proofs.Ytnhjnimgjpgfcaa.RefPr
set_option linter.unusedVariables false
set_option linter.unusedSimpArgs false
open Go.RowKit Go.Sort Go.Lib Go.Proofs Go.Proofs.Ytnhjnimgjpgfcaa.Plain Go.Proofs.Ytnhjnimgjpgfcaa.SynP Go.Proofs.Ytnhjnimgjpgfcaa.TabP Go.Proofs.Ytnhjnimgjpgfcaa.Tab1 Go.Proofs.Ytnhjnimgjpgfcaa.Tab4 Go.Proofs.Ytnhjnimgjpgfcaa.Tab5 Go.Proofs.Ytnhjnimgjpgfcaa.Grown Go.Proofs.Ytnhjnimgjpgfcaa.SynC Go.Proofs.Ytnhjnimgjpgfcaa.SynJ Go.Proofs.Ytnhjnimgjpgfcaa.QryP Go.Proofs.Ytnhjnimgjpgfcaa.PolA Go.Proofs.Ytnhjnimgjpgfcaa.PolE Go.Proofs.Ytnhjnimgjpgfcaa.PolG Go.Proofs.Ytnhjnimgjpgfcaa.PolH Go.Proofs.Ytnhjnimgjpgfcaa.RefRo
set_option linter.unusedVariables false
set_option linter.unusedSimpArgs false
/-- The texts of a list, each put where it belongs. -/
def fold (T : List Str) : List Str := T.foldl putL []
theorem fold_nil : fold [] = [] := rfl
theorem fold_snoc (T : List Str) (s : Str) : fold (T ++ [s]) = putL (fold T) s := by unfold fold; rw [List.foldl_append]; rfl
theorem fold_len (T : List Str) : (fold T).length ≤ T.length := by
  have := newTo_len T T.length (Nat.le_refl _)
  unfold newTo at this
  rwa [List.take_length] at this
theorem fold_tab (T : List Str) : fold T = tab T := by
  have := newTo_tab T
  unfold newTo at this
  rwa [List.take_length] at this
theorem rolesR_len {p : Py} (hf : p.fit) : (rolesR p).length ≤ 7000 := by
  have h := rolesP_len hf
  unfold rolesP at h; unfold rolesR
  simp only [List.length_append] at h ⊢; omega
def viasF (P : List Str) (S : List St) (k : Nat) : List Str := fold (P ++ viasS S k)
def whosF (P : List Str) (S : List St) (k : Nat) : List Str := fold (P ++ whosS S k)
def namesF (R : List Rl) (k : Nat) : List Str := fold (namesR R k)
def ownersF (R : List Rl) (k : Nat) : List Str := fold (ownersR R k)
def namesD (p : Py) : List Str := namesR (rolesR p) (rolesR p).length ++ viasS p.stmts p.stmts.length
theorem bt_list (x : ByteArray) : x.toList = bt x := by rw [Go.ByteArray.toList_eq]; rfl
set_option maxHeartbeats 2000000 in
set_option maxRecDepth 100000 in
theorem namesRef (p : Py) (A1 A2 A3 A4 : Option Addr) (c1 c2 c3 c4 : Nat) (w : World) (hf : p.fit) (hp : PG w A1 A2 A3 A4 p) : Calls Try.prog 23 #[p.val A1 A2 A3 A4 c1 c2 c3 c4] w (RowPost (fold (namesD p)) w) := by
  have HRO := Lib.hid (fun w' h => rolesRef p A1 A2 A3 A4 c1 c2 c3 c4 w' hf h)
  have hRl := rolesR_len hf
  have n1 := hf.n1
  have HP := Lib.hid hp
  unfold namesD
  generalize rolesR p = R at *
  obtain ⟨S, G, H, Q⟩ := p
  simp only at n1
  clear hp hf
  unfold Py.val at *
  simp only at HRO ⊢
  obtain ⟨TT, hTT⟩ : ∃ TT, fold (namesR R R.length ++ viasS S S.length) = TT := ⟨_, rfl⟩
  rw [hTT]
  have HT := Lib.hid hTT
  clear hTT
  go_enter Try.func23, Try.ntmps23
  go_wp2_with fail
  refine (HRO.out _ (HP.out.below ((Below.refl _ _).alloc (Nat.le_refl _) _))).mono ?_
  rintro e w1 ⟨A, cA, rfl, hrat, hb1⟩
  have hcP1 : ∀ o, w1.cell? ⟨w.heap.size, o, none⟩ = (#[.slice A1 S.length c1, .slice A2 G.length c2, .slice A3 H.length c3, .slice A4 Q.length c4] : Array Value)[o]? := fun o => by rw [hb1.cell (by simp), Lib.cell_of_heap (heap_alloc_new w _)]
  have z1 : w.heap.size + 1 ≤ w1.heap.size := by have := hb1.size; simpa using this
  have hb01 : Below w.heap.size w w1 := ((Below.refl w.heap.size w).alloc (Nat.le_refl _) _).trans (hb1.mono (by simp))
  have HPW := Lib.hid (fun (wr : World) (h : Below w1.heap.size w1 wr) => (HP.out.below (hb01.trans (h.mono (by omega)))))
  have HCP := Lib.hid (fun (wr : World) (h : Below w1.heap.size w1 wr) (o : Nat) => (h.cell (p := ⟨w.heap.size, o, none⟩) (by show w.heap.size < w1.heap.size; omega)).trans (hcP1 o))
  have HR := Lib.hid (fun (wr : World) (h : Below w1.heap.size w1 wr) => hrat.below h)
  have HB0 := Lib.hid hb01
  clear hrat hb1 hcP1 hb01
  go_wp2_with fail
  go_loopw [3, 11] (fun l i wr => ∃ (k : Nat) (v : Value), k ≤ R.length ∧ l = v ∧ i = .int .i64 k ∧ Hid (wr.ownsRow w1.heap.size 9 1 v (namesF R k).length ((namesF R k).map encStr)) ∧ Below w1.heap.size w1 wr) (fun _ i _ => R.length - (intOf i).toNat)
  case atStart => exact ⟨0, _, by omega, rfl, rfl, Lib.hid (by simpa [namesF, namesR, fold] using World.ownsRow_nil w1 w1.heap.size 9 1), Below.refl _ _⟩
  case round =>
    obtain ⟨k, v1, hk, rfl, rfl, hown, hbel⟩ := hrel
    have zr := hbel.size
    have hlen : (namesF R k).length ≤ R.length := by unfold namesF; have := fold_len (namesR R k); have := namesR_len R k; omega
    by_cases hlt : k < R.length
    · have d1 : decide ((k : Int) < R.length) = true := by simp; omega
      have p1 : (0 : Int) ≤ k := by omega
      have p2 : (k : Int) < R.length := by omega
      obtain ⟨g, e1, hg, hc⟩ := (HR.out _ hbel) (by omega)
      obtain rfl := e1
      obtain ⟨a0, a1⟩ := hc k hlt
      have HS : Hid (namesF R (k + 1) = putL (namesF R k) (bt R[k].name)) := Lib.hid (by unfold namesF; rw [namesR_succ hlt, fold_snoc])
      have hb2 : Below wr.heap.size wr (wr.alloc (.cells #[.string R[k].owner, .string R[k].name] 24)) := (Below.refl _ wr).alloc (Nat.le_refl _) _
      have hownW := own_at hown.out hb2
      have hbelW := Lib.hid (hbel.trans (hb2.mono zr))
      obtain ⟨A1', k1', rfl, _, _⟩ := SRow.of_own hownW
      have HPut := Lib.hid (put w1.heap.size A1' k1' _ R[k].name _ (by omega) hbelW.out.size hownW)
      clear hc hown hbel hb2 hownW
      go_wp2_with fail
      refine HPut.out.mono ?_
      rintro e w3 ⟨v3, rfl, hown3, hb3⟩
      rw [bt_list, ← HS.out] at hown3
      have HO3 := Lib.hid hown3
      have HB3 := Lib.hid (hbelW.out.trans hb3)
      clear hown3 hb3 a0 a1
      go_wp2_with fail
      go_roundw
      case rel => exact ⟨k + 1, v3, by omega, rfl, by go_num, HO3, HB3.out⟩
      case measure => simp [intOf]; omega
    · have d1 : decide ((k : Int) < R.length) = false := by simp; omega
      have hkR : k = R.length := by omega
      subst hkR
      have hcP := HCP.out _ hbel
      obtain ⟨T0, hT0⟩ : ∃ T0, namesR R R.length = T0 := ⟨_, rfl⟩
      have hl0 : T0.length ≤ R.length := by rw [← hT0]; exact namesR_len R R.length
      have hown0 := hown.out
      unfold namesF at hown0
      have e0 : fold (namesR R R.length) = viasF T0 S 0 := by rw [hT0]; unfold viasF; simp [viasS]
      rw [e0] at hown0
      clear e0
      rw [hT0] at HT
      have HO := Lib.hid hown0
      have HB := Lib.hid hbel
      clear hT0 hown hbel hown0
      go_wp2_with fail
      clear hcP
      go_loopw [3, 23] (fun l i wr => ∃ (k : Nat) (v : Value), k ≤ S.length ∧ l = v ∧ i = .int .i64 k ∧ Hid (wr.ownsRow w1.heap.size 9 1 v (viasF T0 S k).length ((viasF T0 S k).map encStr)) ∧ Below w1.heap.size w1 wr) (fun _ i _ => S.length - (intOf i).toNat)
      case atStart => exact ⟨0, _, by omega, rfl, rfl, HO, HB.out⟩
      case round =>
        clear HO HB hlen
        obtain ⟨k, v1, hk, rfl, rfl, hown, hbel⟩ := hrel
        have zr := hbel.size
        have hlen : (viasF T0 S k).length ≤ T0.length + S.length := by unfold viasF; have h := fold_len (T0 ++ viasS S k); have h2 := viasS_len S k; rw [List.length_append] at h; omega
        by_cases hlt : k < S.length
        · have d1 : decide ((k : Int) < S.length) = true := by simp; omega
          have p1 : (0 : Int) ≤ k := by omega
          have p2 : (k : Int) < S.length := by omega
          obtain ⟨g, o, e1, hg, hc⟩ := (HPW.out _ hbel).s (by show 0 < S.length; omega)
          obtain rfl := e1
          obtain ⟨a0, a1, a2, a3, a4, a5, a6, a7, a8⟩ := hc k hlt
          simp only at a0 a1 a2 a3 a4 a5 a6 a7 a8
          have hb2 : Below wr.heap.size wr (wr.alloc (.cells #[.int .i64 S[k].kind, .string S[k].head.owner, .string S[k].head.name, .string S[k].who, .string S[k].a.owner, .string S[k].a.name, .string S[k].b.owner, .string S[k].b.name, .string S[k].via] 26)) := (Below.refl _ wr).alloc (Nat.le_refl _) _
          have hownW := own_at hown.out hb2
          have hbelW := Lib.hid (hbel.trans (hb2.mono zr))
          clear hc
          by_cases hkd : S[k].kind = 3
          · have HS : Hid (viasF T0 S (k + 1) = putL (viasF T0 S k) (bt S[k].via)) := Lib.hid (by unfold viasF; rw [viasS_yes hlt hkd, ← List.append_assoc, fold_snoc])
            have d2 : (S[k].kind == 3) = true := by simpa using hkd
            obtain ⟨A1', k1', rfl, _, _⟩ := SRow.of_own hownW
            have HPut := Lib.hid (put w1.heap.size A1' k1' _ S[k].via _ (by omega) hbelW.out.size hownW)
            clear hown hbel hb2 hownW hkd
            go_wp2_with fail
            refine HPut.out.mono ?_
            rintro e w3 ⟨v3, rfl, hown3, hb3⟩
            rw [bt_list, ← HS.out] at hown3
            have HO3 := Lib.hid hown3
            have HB3 := Lib.hid (hbelW.out.trans hb3)
            clear hown3 hb3 a0 a1 a2 a3 a4 a5 a6 a7 a8
            go_wp2_with fail
            go_roundw
            case rel => exact ⟨k + 1, v3, by omega, rfl, by go_num, HO3, HB3.out⟩
            case measure => simp [intOf]; omega
          · have HS : Hid (viasF T0 S (k + 1) = viasF T0 S k) := Lib.hid (by unfold viasF; rw [viasS_no hlt hkd])
            have d2 : (S[k].kind == 3) = false := by simpa using hkd
            rw [← HS.out] at hownW
            have HO3 := Lib.hid hownW
            clear hown hbel hb2 hownW hkd
            go_wp2_with fail
            go_roundw
            case rel => exact ⟨k + 1, _, by omega, rfl, by go_num, HO3, hbelW.out⟩
            case measure => simp [intOf]; omega
        · have d1 : decide ((k : Int) < S.length) = false := by simp; omega
          have hkS : k = S.length := by omega
          subst hkS
          have h := hown.out
          unfold viasF at h
          rw [HT.out] at h
          have hfin := Lib.hid (SynH.own_base h (B' := w.heap.size) (by omega))
          have hbf := Lib.hid (HB0.out.trans (hbel.mono (by omega)))
          clear h hown hbel
          go_wp2_with fail
          go_ret
          exact ⟨_, rfl, hfin.out, hbf.out⟩
end Go.Proofs.Ytnhjnimgjpgfcaa.RefPr
/- The principals and the names of a policy: the document's Prins, by contract. -/
namespace Go.Proofs.Ytnhjnimgjpgfcaa.RefPq
set_option linter.unusedVariables false
set_option linter.unusedSimpArgs false
open Go.RowKit Go.Sort Go.Lib Go.Proofs Go.Proofs.Ytnhjnimgjpgfcaa.Plain Go.Proofs.Ytnhjnimgjpgfcaa.SynP Go.Proofs.Ytnhjnimgjpgfcaa.TabP Go.Proofs.Ytnhjnimgjpgfcaa.Tab1 Go.Proofs.Ytnhjnimgjpgfcaa.Tab4 Go.Proofs.Ytnhjnimgjpgfcaa.Tab5 Go.Proofs.Ytnhjnimgjpgfcaa.Grown Go.Proofs.Ytnhjnimgjpgfcaa.SynC Go.Proofs.Ytnhjnimgjpgfcaa.SynJ Go.Proofs.Ytnhjnimgjpgfcaa.QryP Go.Proofs.Ytnhjnimgjpgfcaa.PolA Go.Proofs.Ytnhjnimgjpgfcaa.PolE Go.Proofs.Ytnhjnimgjpgfcaa.PolG Go.Proofs.Ytnhjnimgjpgfcaa.PolH Go.Proofs.Ytnhjnimgjpgfcaa.RefRo Go.Proofs.Ytnhjnimgjpgfcaa.RefPr
set_option linter.unusedVariables false
set_option linter.unusedSimpArgs false
def whosAF (P : List Str) (Q : List Qy) (k : Nat) : List Str := fold (P ++ whosA Q k)
def innF (P : List Str) (Q : List Qy) (k : Nat) (U : List Str) (j : Nat) : List Str := fold (P ++ whosA Q k ++ U.take j)
theorem innF_succ (P : List Str) (Q : List Qy) (k : Nat) (U : List Str) (j : Nat) (h : j < U.length) : innF P Q k U (j + 1) = putL (innF P Q k U j) U[j] := by
  unfold innF; rw [List.take_succ_eq_append_getElem h, ← List.append_assoc, fold_snoc]
theorem innF_len (P : List Str) (Q : List Qy) (k : Nat) (U : List Str) (j : Nat) : (innF P Q k U j).length ≤ P.length + (whosA Q k).length + U.length := by
  unfold innF
  have h := fold_len (P ++ whosA Q k ++ U.take j)
  simp only [List.length_append, List.length_take] at h; omega
def prinsD (p : Py) : List Str := ownersR (rolesR p) (rolesR p).length ++ whosS p.stmts p.stmts.length ++ whosA p.asks p.asks.length
set_option maxHeartbeats 2000000 in
set_option maxRecDepth 100000 in
theorem prinsRef (p : Py) (A1 A2 A3 A4 : Option Addr) (c1 c2 c3 c4 : Nat) (w : World) (hf : p.fit) (h4 : p.asks.length ≤ 500) (hp : PG w A1 A2 A3 A4 p) : Calls Try.prog 22 #[p.val A1 A2 A3 A4 c1 c2 c3 c4] w (RowPost (fold (prinsD p)) w) := by
  have HRO := Lib.hid (fun w' h => rolesRef p A1 A2 A3 A4 c1 c2 c3 c4 w' hf h)
  have hRl := rolesR_len hf
  have n1 := hf.n1
  have n4 := hf.n4
  have hal := whosA_len hf.f5
  have hf5 := hf.f5
  have HP := Lib.hid hp
  unfold prinsD
  generalize rolesR p = R at *
  obtain ⟨S, G, H, Q⟩ := p
  simp only at n1 n4 hal hf5 h4
  have HAL := Lib.hid hal
  have HF5 := Lib.hid hf5
  clear hal hf5
  clear hp hf
  unfold Py.val at *
  simp only at HRO ⊢
  obtain ⟨TT, hTT⟩ : ∃ TT, fold (ownersR R R.length ++ whosS S S.length ++ whosA Q Q.length) = TT := ⟨_, rfl⟩
  rw [hTT]
  have HT := Lib.hid hTT
  clear hTT
  go_enter Try.func22, Try.ntmps22
  go_wp2_with fail
  refine (HRO.out _ (HP.out.below ((Below.refl _ _).alloc (Nat.le_refl _) _))).mono ?_
  rintro e w1 ⟨A, cA, rfl, hrat, hb1⟩
  have hcP1 : ∀ o, w1.cell? ⟨w.heap.size, o, none⟩ = (#[.slice A1 S.length c1, .slice A2 G.length c2, .slice A3 H.length c3, .slice A4 Q.length c4] : Array Value)[o]? := fun o => by rw [hb1.cell (by simp), Lib.cell_of_heap (heap_alloc_new w _)]
  have z1 : w.heap.size + 1 ≤ w1.heap.size := by have := hb1.size; simpa using this
  have hb01 : Below w.heap.size w w1 := ((Below.refl w.heap.size w).alloc (Nat.le_refl _) _).trans (hb1.mono (by simp))
  have HPW := Lib.hid (fun (wr : World) (h : Below w1.heap.size w1 wr) => (HP.out.below (hb01.trans (h.mono (by omega)))))
  have HCP := Lib.hid (fun (wr : World) (h : Below w1.heap.size w1 wr) (o : Nat) => (h.cell (p := ⟨w.heap.size, o, none⟩) (by show w.heap.size < w1.heap.size; omega)).trans (hcP1 o))
  have HR := Lib.hid (fun (wr : World) (h : Below w1.heap.size w1 wr) => hrat.below h)
  have HB0 := Lib.hid hb01
  clear hrat hb1 hcP1 hb01
  go_wp2_with fail
  go_loopw [3, 15] (fun l i wr => ∃ (k : Nat) (v : Value), k ≤ R.length ∧ l = v ∧ i = .int .i64 k ∧ Hid (wr.ownsRow w1.heap.size 9 1 v (ownersF R k).length ((ownersF R k).map encStr)) ∧ Below w1.heap.size w1 wr) (fun _ i _ => R.length - (intOf i).toNat)
  case atStart => exact ⟨0, _, by omega, rfl, rfl, Lib.hid (by simpa [ownersF, ownersR, fold] using World.ownsRow_nil w1 w1.heap.size 9 1), Below.refl _ _⟩
  case round =>
    obtain ⟨k, v1, hk, rfl, rfl, hown, hbel⟩ := hrel
    have zr := hbel.size
    have hlen : (ownersF R k).length ≤ R.length := by unfold ownersF; have := fold_len (ownersR R k); have := ownersR_len R k; omega
    by_cases hlt : k < R.length
    · have d1 : decide ((k : Int) < R.length) = true := by simp; omega
      have p1 : (0 : Int) ≤ k := by omega
      have p2 : (k : Int) < R.length := by omega
      obtain ⟨g, e1, hg, hc⟩ := (HR.out _ hbel) (by omega)
      obtain rfl := e1
      obtain ⟨a0, a1⟩ := hc k hlt
      have HS : Hid (ownersF R (k + 1) = putL (ownersF R k) (bt R[k].owner)) := Lib.hid (by unfold ownersF; rw [ownersR_succ hlt, fold_snoc])
      have hb2 : Below wr.heap.size wr (wr.alloc (.cells #[.string R[k].owner, .string R[k].name] 24)) := (Below.refl _ wr).alloc (Nat.le_refl _) _
      have hownW := own_at hown.out hb2
      have hbelW := Lib.hid (hbel.trans (hb2.mono zr))
      obtain ⟨A1', k1', rfl, _, _⟩ := SRow.of_own hownW
      have HPut := Lib.hid (put w1.heap.size A1' k1' _ R[k].owner _ (by omega) hbelW.out.size hownW)
      clear hc hown hbel hb2 hownW
      go_wp2_with fail
      refine HPut.out.mono ?_
      rintro e w3 ⟨v3, rfl, hown3, hb3⟩
      rw [bt_list, ← HS.out] at hown3
      have HO3 := Lib.hid hown3
      have HB3 := Lib.hid (hbelW.out.trans hb3)
      clear hown3 hb3 a0 a1
      go_wp2_with fail
      go_roundw
      case rel => exact ⟨k + 1, v3, by omega, rfl, by go_num, HO3, HB3.out⟩
      case measure => simp [intOf]; omega
    · have d1 : decide ((k : Int) < R.length) = false := by simp; omega
      have hkR : k = R.length := by omega
      subst hkR
      have hcP := HCP.out _ hbel
      obtain ⟨T0, hT0⟩ : ∃ T0, ownersR R R.length = T0 := ⟨_, rfl⟩
      have hl0 : T0.length ≤ R.length := by rw [← hT0]; exact ownersR_len R R.length
      have hown0 := hown.out
      unfold ownersF at hown0
      have e0 : fold (ownersR R R.length) = whosF T0 S 0 := by rw [hT0]; unfold whosF; simp [whosS]
      rw [e0] at hown0
      clear e0
      rw [hT0] at HT
      have HO := Lib.hid hown0
      have HB := Lib.hid hbel
      clear hT0 hown hbel hown0
      go_wp2_with fail
      clear hcP
      go_loopw [3, 27] (fun l i wr => ∃ (k : Nat) (v : Value), k ≤ S.length ∧ l = v ∧ i = .int .i64 k ∧ Hid (wr.ownsRow w1.heap.size 9 1 v (whosF T0 S k).length ((whosF T0 S k).map encStr)) ∧ Below w1.heap.size w1 wr) (fun _ i _ => S.length - (intOf i).toNat)
      case atStart => exact ⟨0, _, by omega, rfl, rfl, HO, HB.out⟩
      case round =>
        clear HO HB hlen
        obtain ⟨k, v1, hk, rfl, rfl, hown, hbel⟩ := hrel
        have zr := hbel.size
        have hlen : (whosF T0 S k).length ≤ T0.length + S.length := by unfold whosF; have h := fold_len (T0 ++ whosS S k); have h2 := whosS_len S k; rw [List.length_append] at h; omega
        by_cases hlt : k < S.length
        · have d1 : decide ((k : Int) < S.length) = true := by simp; omega
          have p1 : (0 : Int) ≤ k := by omega
          have p2 : (k : Int) < S.length := by omega
          obtain ⟨g, o, e1, hg, hc⟩ := (HPW.out _ hbel).s (by show 0 < S.length; omega)
          obtain rfl := e1
          obtain ⟨a0, a1, a2, a3, a4, a5, a6, a7, a8⟩ := hc k hlt
          simp only at a0 a1 a2 a3 a4 a5 a6 a7 a8
          have hb2 : Below wr.heap.size wr (wr.alloc (.cells #[.int .i64 S[k].kind, .string S[k].head.owner, .string S[k].head.name, .string S[k].who, .string S[k].a.owner, .string S[k].a.name, .string S[k].b.owner, .string S[k].b.name, .string S[k].via] 26)) := (Below.refl _ wr).alloc (Nat.le_refl _) _
          have hownW := own_at hown.out hb2
          have hbelW := Lib.hid (hbel.trans (hb2.mono zr))
          clear hc
          by_cases hkd : S[k].kind = 1
          · have HS : Hid (whosF T0 S (k + 1) = putL (whosF T0 S k) (bt S[k].who)) := Lib.hid (by unfold whosF; rw [whosS_yes hlt hkd, ← List.append_assoc, fold_snoc])
            have d2 : (S[k].kind == 1) = true := by simpa using hkd
            obtain ⟨A1', k1', rfl, _, _⟩ := SRow.of_own hownW
            have HPut := Lib.hid (put w1.heap.size A1' k1' _ S[k].who _ (by omega) hbelW.out.size hownW)
            clear hown hbel hb2 hownW hkd
            go_wp2_with fail
            refine HPut.out.mono ?_
            rintro e w3 ⟨v3, rfl, hown3, hb3⟩
            rw [bt_list, ← HS.out] at hown3
            have HO3 := Lib.hid hown3
            have HB3 := Lib.hid (hbelW.out.trans hb3)
            clear hown3 hb3 a0 a1 a2 a3 a4 a5 a6 a7 a8
            go_wp2_with fail
            go_roundw
            case rel => exact ⟨k + 1, v3, by omega, rfl, by go_num, HO3, HB3.out⟩
            case measure => simp [intOf]; omega
          · have HS : Hid (whosF T0 S (k + 1) = whosF T0 S k) := Lib.hid (by unfold whosF; rw [whosS_no hlt hkd])
            have d2 : (S[k].kind == 1) = false := by simpa using hkd
            rw [← HS.out] at hownW
            have HO3 := Lib.hid hownW
            clear hown hbel hb2 hownW hkd
            go_wp2_with fail
            go_roundw
            case rel => exact ⟨k + 1, _, by omega, rfl, by go_num, HO3, hbelW.out⟩
            case measure => simp [intOf]; omega
        · have d1 : decide ((k : Int) < S.length) = false := by simp; omega
          have hkS : k = S.length := by omega
          subst hkS
          have hcP := HCP.out _ hbel
          obtain ⟨T1, hT1⟩ : ∃ T1, T0 ++ whosS S S.length = T1 := ⟨_, rfl⟩
          have hl1 : T1.length ≤ R.length + S.length := by rw [← hT1, List.length_append]; have := whosS_len S S.length; omega
          have hown0 := hown.out
          unfold whosF at hown0
          have e0 : fold (T0 ++ whosS S S.length) = whosAF T1 Q 0 := by rw [hT1]; unfold whosAF; simp [whosA]
          rw [e0] at hown0
          rw [hT1] at HT
          have HO := Lib.hid hown0
          have HB := Lib.hid hbel
          clear e0 hT1 hown hbel hown0
          go_wp2_with fail
          clear hcP
          go_loopw [3, 42] (fun l i wr => ∃ (k : Nat) (v : Value), k ≤ Q.length ∧ l = v ∧ i = .int .i64 k ∧ Hid (wr.ownsRow w1.heap.size 9 1 v (whosAF T1 Q k).length ((whosAF T1 Q k).map encStr)) ∧ Below w1.heap.size w1 wr) (fun _ i _ => Q.length - (intOf i).toNat)
          case atStart => exact ⟨0, _, by omega, rfl, rfl, HO, HB.out⟩
          case round =>
            clear HO HB hlen
            obtain ⟨k, v1, hk, rfl, rfl, hown, hbel⟩ := hrel
            have zr := hbel.size
            by_cases hlt : k < Q.length
            · have d1 : decide ((k : Int) < Q.length) = true := by simp; omega
              have p1 : (0 : Int) ≤ k := by omega
              have p2 : (k : Int) < Q.length := by omega
              have hq100 := HF5.out Q[k] (List.getElem_mem hlt)
              have hlq := HAL.out k
              obtain ⟨g, o, e1, hg, hc⟩ := (HPW.out w1 (Below.refl _ _)).q (by show 0 < Q.length; omega)
              obtain rfl := e1
              obtain ⟨B, cB, b0, b1, b2, b3, b4, b5, hrow⟩ := hc k hlt
              simp only at b0 b1 b2 b3 b4 b5 hrow
              have kk : ∀ {i : Nat} {u : Value}, w1.cell? ⟨g, i, none⟩ = some u → wr.cell? ⟨g, i, none⟩ = some u := fun {i u} e => (hbel.cell (p := ⟨g, i, none⟩) hg).trans e
              have a0 := kk b0
              have a1 := kk b1
              have a2 := kk b2
              have a3 := kk b3
              have a4 := kk b4
              have a5 := kk b5
              clear kk b0 b1 b2 b3 b4 b5
              have hb2 : Below wr.heap.size wr (wr.alloc (.cells #[.int .i64 Q[k].kind, .string Q[k].a.owner, .string Q[k].a.name, .string Q[k].b.owner, .string Q[k].b.name, .slice B Q[k].who.length cB] 78)) := (Below.refl _ wr).alloc (Nat.le_refl _) _
              have HO := Lib.hid (own_at hown.out hb2)
              have HBW := Lib.hid (hbel.trans (hb2.mono zr))
              have HRW := Lib.hid hrow
              have HS0 : Hid (innF T1 Q k Q[k].who 0 = whosAF T1 Q k) := Lib.hid (by unfold innF whosAF; simp)
              have HS1 : Hid (innF T1 Q k Q[k].who Q[k].who.length = whosAF T1 Q (k + 1)) := Lib.hid (by unfold innF whosAF; rw [whosA_succ hlt, List.take_length, List.append_assoc])
              rw [← HS0.out] at HO
              clear hc hown hbel hb2 hrow HS0
              obtain ⟨W2, hW2⟩ : ∃ W2, wr.alloc (.cells #[.int .i64 Q[k].kind, .string Q[k].a.owner, .string Q[k].a.name, .string Q[k].b.owner, .string Q[k].b.name, .slice B Q[k].who.length cB] 78) = W2 := ⟨_, rfl⟩
              have HW2 := Lib.hid hW2
              rw [hW2] at HO HBW
              clear hW2
              go_wp2_with fail
              rw [HW2.out]
              generalize Q[k].who = U at *
              go_loopw [3, 49] (fun l i wr => ∃ (j : Nat) (v : Value), j ≤ U.length ∧ l = v ∧ i = .int .i64 j ∧ Hid (wr.ownsRow w1.heap.size 9 1 v (innF T1 Q k U j).length ((innF T1 Q k U j).map encStr)) ∧ Below w1.heap.size w1 wr) (fun _ i _ => U.length - (intOf i).toNat)
              case atStart => exact ⟨0, _, by omega, rfl, rfl, HO, HBW.out⟩
              case round =>
                clear HO HBW HW2
                obtain ⟨j, v2, hj, rfl, rfl, hown, hbel⟩ := hrel
                have zr2 := hbel.size
                have hlen := innF_len T1 Q k U j
                by_cases hlu : j < U.length
                · have d2 : decide ((j : Int) < U.length) = true := by simp; omega
                  have p3 : (0 : Int) ≤ j := by omega
                  have p4 : (j : Int) < U.length := by omega
                  obtain ⟨g2, off, rfl, hg2, hcell⟩ := HRW.out (by omega)
                  have hx := (hbel.cell (p := ⟨g2, off + j, none⟩) hg2).trans (hcell j hlu)
                  have HS2 := Lib.hid (innF_succ T1 Q k U j hlu)
                  have he := Lib.hid (show (⟨U[j].toArray⟩ : ByteArray).toList = U[j] from by rw [Go.ByteArray.toList_eq])
                  have hown2 := hown.out
                  obtain ⟨A1', k1', rfl, _, _⟩ := SRow.of_own hown2
                  have HPut := Lib.hid (put w1.heap.size A1' k1' _ ⟨U[j].toArray⟩ _ (by omega) hbel.size hown2)
                  have HBE := Lib.hid hbel
                  clear hcell hown hown2 hbel a0 a1 a2 a3 a4 a5
                  go_wp2_with fail
                  refine HPut.out.mono ?_
                  rintro e w3 ⟨v3, rfl, hown3, hb3⟩
                  rw [he.out, ← HS2.out] at hown3
                  have HO3 := Lib.hid hown3
                  have HB3 := Lib.hid (HBE.out.trans hb3)
                  clear hown3 hb3
                  go_wp2_with fail
                  go_roundw
                  case rel => exact ⟨j + 1, v3, by omega, rfl, by go_num, HO3, HB3.out⟩
                  case measure => simp [intOf]; omega
                · have d2 : decide ((j : Int) < U.length) = false := by simp; omega
                  have hjU : j = U.length := by omega
                  subst hjU
                  have hown2 := hown.out
                  rw [HS1.out] at hown2
                  have HO3 := Lib.hid hown2
                  have HB3 := Lib.hid hbel
                  clear hown hown2 hbel a0 a1 a2 a3 a4 a5
                  go_wp2_with fail
                  go_roundw
                  case rel => exact ⟨k + 1, _, by omega, rfl, by go_num, HO3, HB3.out⟩
                  case measure => simp [intOf]; omega
            · have d1 : decide ((k : Int) < Q.length) = false := by simp; omega
              have hkQ : k = Q.length := by omega
              subst hkQ
              have h := hown.out
              unfold whosAF at h
              rw [HT.out] at h
              have hfin := Lib.hid (SynH.own_base h (B' := w.heap.size) (by omega))
              have hbf := Lib.hid (HB0.out.trans (hbel.mono (by omega)))
              clear h hown hbel
              go_wp2_with fail
              go_ret
              exact ⟨_, rfl, hfin.out, hbf.out⟩
end Go.Proofs.Ytnhjnimgjpgfcaa.RefPq
/- policy.Fits, by contract. -/
namespace Go.Proofs.Ytnhjnimgjpgfcaa.PolI
set_option linter.unusedVariables false
set_option linter.unusedSimpArgs false
open Go.RowKit Go.Sort Go.Lib Go.Proofs Go.Proofs.Ytnhjnimgjpgfcaa.Plain Go.Proofs.Ytnhjnimgjpgfcaa.SynP Go.Proofs.Ytnhjnimgjpgfcaa.TabP Go.Proofs.Ytnhjnimgjpgfcaa.Tab1 Go.Proofs.Ytnhjnimgjpgfcaa.Tab5 Go.Proofs.Ytnhjnimgjpgfcaa.SynJ Go.Proofs.Ytnhjnimgjpgfcaa.QryP Go.Proofs.Ytnhjnimgjpgfcaa.PolA Go.Proofs.Ytnhjnimgjpgfcaa.PolE Go.Proofs.Ytnhjnimgjpgfcaa.PolG Go.Proofs.Ytnhjnimgjpgfcaa.PolH
set_option linter.unusedVariables false
set_option linter.unusedSimpArgs false
def fitsP (p : Py) : Bool := decide (p.stmts.length ≤ 80) && decide (p.grow.length ≤ 40) && decide (p.shrink.length ≤ 40) && decide (p.asks.length ≤ 16) && decide ((tab (prinsT p)).length ≤ 16) && decide ((tab (namesT p)).length ≤ 12)
end Go.Proofs.Ytnhjnimgjpgfcaa.PolI
/- The document's Fits, by contract. -/
namespace Go.Proofs.Ytnhjnimgjpgfcaa.RefFi
set_option linter.unusedVariables false
set_option linter.unusedSimpArgs false
open Go.RowKit Go.Sort Go.Lib Go.Proofs Go.Proofs.Ytnhjnimgjpgfcaa.Plain Go.Proofs.Ytnhjnimgjpgfcaa.SynP Go.Proofs.Ytnhjnimgjpgfcaa.TabP Go.Proofs.Ytnhjnimgjpgfcaa.Tab1 Go.Proofs.Ytnhjnimgjpgfcaa.Tab5 Go.Proofs.Ytnhjnimgjpgfcaa.SynJ Go.Proofs.Ytnhjnimgjpgfcaa.QryP Go.Proofs.Ytnhjnimgjpgfcaa.PolA Go.Proofs.Ytnhjnimgjpgfcaa.PolE Go.Proofs.Ytnhjnimgjpgfcaa.PolG Go.Proofs.Ytnhjnimgjpgfcaa.PolH Go.Proofs.Ytnhjnimgjpgfcaa.PolI Go.Proofs.Ytnhjnimgjpgfcaa.RefRo Go.Proofs.Ytnhjnimgjpgfcaa.RefPr Go.Proofs.Ytnhjnimgjpgfcaa.RefPq
set_option linter.unusedVariables false
set_option linter.unusedSimpArgs false
theorem roles_mem (p : Py) (r : Rl) : r ∈ rolesR p ↔ r ∈ rolesP p := by
  unfold rolesR rolesP
  simp only [List.mem_append]
  constructor
  · rintro (((h | h) | h) | h) <;> simp [h]
  · rintro (((h | h) | h) | h) <;> simp [h]
theorem mem_owners (R : List Rl) (x : Str) : x ∈ ownersR R R.length ↔ ∃ r, r ∈ R ∧ bt r.owner = x := by
  unfold ownersR; rw [List.take_length, List.mem_map]
theorem mem_names (R : List Rl) (x : Str) : x ∈ namesR R R.length ↔ ∃ r, r ∈ R ∧ bt r.name = x := by
  unfold namesR; rw [List.take_length, List.mem_map]
theorem prins_eq (p : Py) : fold (prinsD p) = tab (prinsT p) := by
  rw [fold_tab]
  refine eq_of_rising (tab_sorted _) (tab_sorted _) fun x => ?_
  rw [mem_tab, mem_tab]
  unfold prinsD prinsT
  simp only [List.mem_append, mem_owners, roles_mem]
theorem names_eq (p : Py) : fold (namesD p) = tab (namesT p) := by
  rw [fold_tab]
  refine eq_of_rising (tab_sorted _) (tab_sorted _) fun x => ?_
  rw [mem_tab, mem_tab]
  unfold namesD namesT
  simp only [List.mem_append, mem_names, roles_mem]
end Go.Proofs.Ytnhjnimgjpgfcaa.RefFi
/- Tables: For, Rules, and rules held against rules, by contract. -/
namespace Go.Proofs.Ytnhjnimgjpgfcaa.TblV
set_option linter.unusedVariables false
set_option linter.unusedSimpArgs false
open Go.RowKit Go.Sort Go.Lib Go.Proofs Go.Proofs.Ytnhjnimgjpgfcaa.Plain Go.Proofs.Ytnhjnimgjpgfcaa.SynP Go.Proofs.Ytnhjnimgjpgfcaa.SynE Go.Proofs.Ytnhjnimgjpgfcaa.Grown Go.Proofs.Ytnhjnimgjpgfcaa.TabP Go.Proofs.Ytnhjnimgjpgfcaa.Tab1 Go.Proofs.Ytnhjnimgjpgfcaa.Tab2 Go.Proofs.Ytnhjnimgjpgfcaa.Tab5 Go.Proofs.Ytnhjnimgjpgfcaa.QryP Go.Proofs.Ytnhjnimgjpgfcaa.PolA Go.Proofs.Ytnhjnimgjpgfcaa.PolE Go.Proofs.Ytnhjnimgjpgfcaa.PolG Go.Proofs.Ytnhjnimgjpgfcaa.PolH Go.Proofs.Ytnhjnimgjpgfcaa.PolOp Go.Proofs.Ytnhjnimgjpgfcaa.PolLi Go.Proofs.Ytnhjnimgjpgfcaa.TblA Go.Proofs.Ytnhjnimgjpgfcaa.TblB Go.Proofs.Ytnhjnimgjpgfcaa.TblC Go.Proofs.Ytnhjnimgjpgfcaa.TblF Go.Proofs.Ytnhjnimgjpgfcaa.TblI
set_option linter.unusedVariables false
set_option linter.unusedSimpArgs false
theorem prinsT_len {p : Py} (h : Few p) (c : Came p) : (prinsT p).length ≤ 20000 := by
  have hf := h.fit c
  have h1 := ownersR_len (rolesP p) (rolesP p).length
  have h2 := rolesP_len hf
  have h3 := whosS_len p.stmts p.stmts.length
  have h4 := whosA_len hf.f5 p.asks.length
  have h5 := h.n4
  have h6 := h.n1
  unfold prinsT
  simp only [List.length_append]
  omega
theorem namesT_len {p : Py} (h : Few p) (c : Came p) : (namesT p).length ≤ 20000 := by
  have hf := h.fit c
  have h1 := namesR_len (rolesP p) (rolesP p).length
  have h2 := rolesP_len hf
  have h3 := viasS_len p.stmts p.stmts.length
  have h6 := h.n1
  unfold namesT
  simp only [List.length_append]
  omega
theorem tab_tab (T : List Str) : tab (tab T) = tab T := eq_of_rising (tab_sorted _) (tab_sorted _) fun x => by simp only [mem_tab]
set_option maxHeartbeats 2000000 in
set_option maxRecDepth 100000 in
theorem forT (p : Py) (A1 A2 A3 A4 : Option Addr) (c1 c2 c3 c4 : Nat) (B : Option Addr) (cb : Nat) (M : List Str) (w : World) (hf : Few p) (hc : Came p) (hp : PG w A1 A2 A3 A4 p) (hM : M.length ≤ 40) (hB : SRow w B M) :
    Calls Try.prog 21 #[p.val A1 A2 A3 A4 c1 c2 c3 c4, .slice B M.length cb] w (NewTPost (tab (tab (prinsT p) ++ M)) (tab (namesT p)) w) := by
  have l1 : (tab (prinsT p)).length ≤ 20000 := Nat.le_trans (tab_len_le _) (prinsT_len hf hc)
  have l2 : (tab (namesT p)).length ≤ 20000 := Nat.le_trans (tab_len_le _) (namesT_len hf hc)
  have hfit := hf.fit hc
  have htt : tab (tab (namesT p)) = tab (namesT p) := tab_tab _
  have HPr := Lib.hid (fun w' (hb : Below w.heap.size w w') => PolH.prins p A1 A2 A3 A4 c1 c2 c3 c4 w' hfit (hp.below hb))
  have HNm := Lib.hid (fun w' (hb : Below w.heap.size w w') => PolH.names p A1 A2 A3 A4 c1 c2 c3 c4 w' hfit (hp.below hb))
  have HBr := Lib.hid (fun w' (hb : Below w.heap.size w w') => hB.keep hb)
  have HTT := Lib.hid htt
  clear hfit hp hB htt hf hc
  generalize tab (prinsT p) = PT at *
  generalize tab (namesT p) = NT at *
  unfold RowPost at HPr HNm
  unfold Py.val at *
  obtain ⟨S, G, H, Q⟩ := p
  simp only at *
  have hlit : (PT ++ M).length ≤ 100000 := by simp; omega
  have hcat := fun b A5 c5 w' h1 h2 h3 h4 h5 => Tab7.concat b A5 B c5 cb PT M w' (by omega) (by omega) h1 h2 h3 h4 h5
  obtain ⟨PM, hPM⟩ : ∃ PM, PT ++ M = PM := ⟨_, rfl⟩
  rw [hPM] at hcat hlit ⊢
  have HCat := Lib.hid hcat
  clear hcat hPM
  have hX := heap_alloc_new w (.cells #[.slice A1 S.length c1, .slice A2 G.length c2, .slice A3 H.length c3, .slice A4 Q.length c4] 49)
  have hb0 : Below w.heap.size w (w.alloc (.cells #[.slice A1 S.length c1, .slice A2 G.length c2, .slice A3 H.length c3, .slice A4 Q.length c4] 49)) := (Below.refl _ _).alloc (Nat.le_refl _) _
  go_enter Try.func21, Try.ntmps21
  go_upto_region 1 with fail
  generalize w.alloc (.cells #[.slice A1 S.length c1, .slice A2 G.length c2, .slice A3 H.length c3, .slice A4 Q.length c4] 49) = w0 at *
  have HS : Hid (∀ w', Below w0.heap.size w0 w' → Below w0.heap.size w0 w' ∧ (∀ o, w'.cell? ⟨w.heap.size, o, none⟩ = (#[.slice A1 S.length c1, .slice A2 G.length c2, .slice A3 H.length c3, .slice A4 Q.length c4] : Array Value)[o]?)) := Lib.hid (fun w' hb => ⟨hb, fun o => Lib.cell_of_heap ((hb.block _ (Array.getElem?_eq_some_iff.1 hX).1).trans hX) o⟩)
  have HB0 := Lib.hid (fun w' (hb : Below w0.heap.size w0 w') => PolLi.nx hb0 hb)
  clear hX hb0
  go_region_held3 (fun w' => Below w0.heap.size w0 w' ∧ (∀ o, w'.cell? ⟨w.heap.size, o, none⟩ = (#[.slice A1 S.length c1, .slice A2 G.length c2, .slice A3 H.length c3, .slice A4 Q.length c4] : Array Value)[o]?))
    (first | with_reducible assumption | exact HS.out _ ((Below.refl _ _).drew) | exact HS.out _ (PolLi.nx (by apply And.left; with_reducible assumption) (by with_reducible assumption)) | exact HS.out _ (PolLi.nx (by apply And.left; with_reducible assumption) ((Below.refl _ _).alloc (Nat.le_refl _) _)))
    (first | ((with_reducible refine (HPr.out _ (HB0.out _ (by apply And.left; with_reducible assumption))).mono ?_); rintro e w1 ⟨v1, rfl, hown1, hb1⟩; obtain ⟨A5, c5, rfl, _, hr5⟩ := SRow.of_own hown1; have hB1 := HBr.out w1 (HB0.out _ (PolLi.nx (by apply And.left; with_reducible assumption) hb1)))
           | (go_at_call 44; refine (HCat.out w1.heap.size A5 c5 _ (by simp) (by rw [Lib.cell_of_heap (heap_alloc_new w1 _)]; rfl) (by rw [Lib.cell_of_heap (heap_alloc_new w1 _)]; rfl) (hr5.keep ((Below.refl _ _).alloc (Nat.le_refl _) _)) (hB1.keep ((Below.refl _ _).alloc (Nat.le_refl _) _))).mono ?_; rintro e w2 ⟨v2, rfl, hown2, hb2⟩; obtain ⟨A6, c6, rfl, _, hr6⟩ := SRow.of_own hown2)
           | ((with_reducible refine (HNm.out _ (HB0.out _ (by apply And.left; with_reducible assumption))).mono ?_); rintro e w3 ⟨v3, rfl, hown3, hb3⟩; obtain ⟨A7, c7, rfl, _, hr7⟩ := SRow.of_own hown3; have hr6b := hr6.keep hb3)
           | (go_at_call 9; refine (newT A6 A7 c6 c7 PM NT _ hlit (by omega) hr6b hr7).mono ?_; rintro e w4 ⟨t, a, b, B1, d1, B2, d2, rfl, hT, hb4⟩))
  rename_i hHeld
  have HF : Hid (NewTPost (tab PM) NT w (.returned (.pointer (some ⟨t, 0, none⟩))) w4) := Lib.hid ⟨t, a, b, B1, d1, B2, d2, rfl, by rw [← HTT.out]; exact hT, HB0.out _ hHeld.1⟩
  clear hHeld hT hb4
  go_wp2_with fail
  go_ret
  exact HF.out
/-- Rules as cells. -/
def cellsR (L : List Ru) : List Value := L.flatMap fun u => u.cells.toList
theorem cellsR_len (L : List Ru) : (cellsR L).length = L.length * 6 := by
  induction L with
  | nil => rfl
  | cons u L ih => unfold cellsR at *; rw [List.flatMap_cons, List.length_append, ih, List.length_cons, Nat.succ_mul]; show 6 + _ = _; omega
theorem cellsR_app (L K : List Ru) : cellsR (L ++ K) = cellsR L ++ cellsR K := by unfold cellsR; simp
theorem cellsR_at : ∀ (L : List Ru) (j k : Nat) (h : j < L.length), k < 6 → (cellsR L)[j * 6 + k]? = (L[j].cells)[k]?
  | [], _, _, h, _ => absurd h (Nat.not_lt_zero _)
  | u :: L, 0, k, _, hk => by
    have e : cellsR (u :: L) = u.cells.toList ++ cellsR L := by unfold cellsR; simp
    rw [e, Nat.zero_mul, Nat.zero_add, List.getElem?_append_left (by show k < 6; exact hk)]
    simp
  | u :: L, j + 1, k, h, hk => by
    have e : cellsR (u :: L) = u.cells.toList ++ cellsR L := by unfold cellsR; simp
    have h6 : u.cells.toList.length = 6 := rfl
    rw [e, List.getElem?_append_right (by rw [h6]; omega), h6]
    have : (j + 1) * 6 + k - 6 = j * 6 + k := by omega
    rw [this, cellsR_at L j k (by simpa using h) hk]
    simp
/-- A slice value that reads as rules, wherever it lies. -/
def UG (w : World) (A : Option Addr) (L : List Ru) : Prop :=
  0 < L.length → ∃ g o, A = some ⟨g, o, none⟩ ∧ g < w.heap.size ∧ ∀ j, (h : j < L.length) → ∀ k, k < 6 → w.cell? ⟨g, o + j * 6 + k, none⟩ = (L[j].cells)[k]?
theorem UG.below {w w' : World} {A : Option Addr} {L : List Ru} (h : UG w A L) (hb : Below w.heap.size w w') : UG w' A L := fun hp => by
  obtain ⟨g, o, hA, hg, hc⟩ := h hp
  exact ⟨g, o, hA, Nat.lt_of_lt_of_le hg hb.size, fun j hj k hk => (hb.cell (p := ⟨g, o + j * 6 + k, none⟩) hg).trans (hc j hj k hk)⟩
theorem ug_own {w : World} {B : Nat} {v : Value} {L : List Ru} {t : TypeId} (h : w.ownsRow B t 6 v L.length (cellsR L)) : ∃ A ca, v = .slice A L.length ca ∧ UG w A L := by
  have h0 := h
  rcases h.2 with ⟨rfl, hn⟩ | ⟨g, cap, cur, rfl, hb, hg, _⟩
  · exact ⟨none, 0, by rw [hn], fun hp => by omega⟩
  · refine ⟨_, cap, rfl, fun hp => ⟨g, 0, rfl, (Array.getElem?_eq_some_iff.1 hg).1, fun j hj k hk => ?_⟩⟩
    have hx := cellsR_at L j k hj hk
    have hs : k < L[j].cells.size := by show k < 6; exact hk
    rw [Array.getElem?_eq_getElem hs] at hx ⊢
    have := h0.cells (g := g) rfl _ _ hx
    have e : ((⟨g, 0, none⟩ : Addr).add (j * 6 + k)) = ⟨g, j * 6 + k, none⟩ := by unfold Addr.add; split <;> simp_all
    rw [e] at this
    rw [Nat.zero_add]
    exact this
set_option maxHeartbeats 1000000 in
set_option maxRecDepth 100000 in
theorem sameU (A B : Option Addr) (ca cb : Nat) (L : List Ru) (w : World) (hL : L.length ≤ 10000) (hA : UG w A L) (hB : UG w B L) : Calls Try.prog 26 #[.slice A L.length ca, .slice B L.length cb] w fun e w' => e = .returned (.bool true) ∧ Below w.heap.size w w' := by
  have HA := Lib.hid hA
  have HB := Lib.hid hB
  clear hA hB
  go_enter Try.func26, Try.ntmps26
  go_wp2_with fail
  go_loopw [13] (fun i wr => ∃ j : Nat, j ≤ L.length ∧ i = .int .i64 j ∧ Below w.heap.size w wr) (fun i _ => L.length - (intOf i).toNat)
  case atStart => exact ⟨0, by omega, rfl, Below.refl _ _⟩
  case round =>
    obtain ⟨j, hj, rfl, hb⟩ := hrel
    by_cases hlt : j < L.length
    · have d1 : decide ((j : Int) < L.length) = true := by simp; omega
      have p0 : (0 : Int) ≤ j := by omega
      have p1 : (j : Int) < L.length := by omega
      obtain ⟨g, o, rfl, hg, hcell⟩ := (HA.out.below hb) (by omega)
      obtain ⟨g2, o2, rfl, hg2, hcell2⟩ := (HB.out.below hb) (by omega)
      have q1 := hcell j hlt
      have q2 := hcell2 j hlt
      have HBk := Lib.hid hb
      clear hcell hcell2 hb
      generalize L[j] = u at *
      obtain ⟨u0, u1, u2, u3, u4, u5⟩ := u
      have a0 : wr.cell? ⟨g, o + j * 6, none⟩ = some (.int .i64 u0) := q1 0 (by omega)
      have a1 : wr.cell? ⟨g, o + j * 6 + 1, none⟩ = some (.int .i64 u1) := q1 1 (by omega)
      have a2 : wr.cell? ⟨g, o + j * 6 + 2, none⟩ = some (.int .i64 u2) := q1 2 (by omega)
      have a3 : wr.cell? ⟨g, o + j * 6 + 3, none⟩ = some (.int .i64 u3) := q1 3 (by omega)
      have a4 : wr.cell? ⟨g, o + j * 6 + 4, none⟩ = some (.int .i64 u4) := q1 4 (by omega)
      have a5 : wr.cell? ⟨g, o + j * 6 + 5, none⟩ = some (.int .i64 u5) := q1 5 (by omega)
      have b0 : wr.cell? ⟨g2, o2 + j * 6, none⟩ = some (.int .i64 u0) := q2 0 (by omega)
      have b1 : wr.cell? ⟨g2, o2 + j * 6 + 1, none⟩ = some (.int .i64 u1) := q2 1 (by omega)
      have b2 : wr.cell? ⟨g2, o2 + j * 6 + 2, none⟩ = some (.int .i64 u2) := q2 2 (by omega)
      have b3 : wr.cell? ⟨g2, o2 + j * 6 + 3, none⟩ = some (.int .i64 u3) := q2 3 (by omega)
      have b4 : wr.cell? ⟨g2, o2 + j * 6 + 4, none⟩ = some (.int .i64 u4) := q2 4 (by omega)
      have b5 : wr.cell? ⟨g2, o2 + j * 6 + 5, none⟩ = some (.int .i64 u5) := q2 5 (by omega)
      have hne := neU u0 u1 u2 u3 u4 u5
      clear q1 q2
      go_wp2_with fail
      go_quiet (fail)
      go_wp2_with fail
      go_roundw
      case rel => exact ⟨j + 1, by omega, by go_num, below_drewN HBk.out _⟩
      case measure => simp [intOf]; omega
    · have d1 : decide ((j : Int) < L.length) = false := by simp; omega
      have HBk := Lib.hid hb
      clear hb
      go_wp2_with fail
      go_ret
      exact ⟨rfl, HBk.out⟩
end Go.Proofs.Ytnhjnimgjpgfcaa.TblV
/- Tables: Rules, by contract. -/
namespace Go.Proofs.Ytnhjnimgjpgfcaa.TblW
set_option linter.unusedVariables false
set_option linter.unusedSimpArgs false
open Go.RowKit Go.Sort Go.Lib Go.Proofs Go.Proofs.Ytnhjnimgjpgfcaa.Plain Go.Proofs.Ytnhjnimgjpgfcaa.SynP Go.Proofs.Ytnhjnimgjpgfcaa.SynE Go.Proofs.Ytnhjnimgjpgfcaa.Grown Go.Proofs.Ytnhjnimgjpgfcaa.TabP Go.Proofs.Ytnhjnimgjpgfcaa.Tab1 Go.Proofs.Ytnhjnimgjpgfcaa.Tab2 Go.Proofs.Ytnhjnimgjpgfcaa.PolE Go.Proofs.Ytnhjnimgjpgfcaa.TblA Go.Proofs.Ytnhjnimgjpgfcaa.TblB Go.Proofs.Ytnhjnimgjpgfcaa.TblC Go.Proofs.Ytnhjnimgjpgfcaa.TblF Go.Proofs.Ytnhjnimgjpgfcaa.TblI Go.Proofs.Ytnhjnimgjpgfcaa.TblV
set_option linter.unusedVariables false
set_option linter.unusedSimpArgs false
theorem nx {W w1 w2 : World} (h : Below W.heap.size W w1) (hb : Below w1.heap.size w1 w2) : Below W.heap.size W w2 := h.trans (hb.mono h.size)
theorem infoU : (Try.prog.info? 34).map (fun i => (i.zero, i.size, i.bytes)) = some (some (.agg #[.int .i64 0, .int .i64 0, .int .i64 0, .int .i64 0, .int .i64 0, .int .i64 0]), 6, 48) := by kernel_rfl
/-- The rules of the first j statements. -/
def rulesT (P L : List Str) (S : List St) (j : Nat) : List Ru := ((S.take j).filter (ruleOk P L)).map (ruleV P L)
theorem rulesT_len (P L : List Str) (S : List St) (j : Nat) : (rulesT P L S j).length ≤ j := by
  unfold rulesT
  rw [List.length_map]
  exact Nat.le_trans (List.length_filter_le _ _) (by simp; omega)
theorem rulesT_yes {P L : List Str} {S : List St} {j : Nat} (h : j < S.length) (hr : ruleOk P L S[j] = true) : rulesT P L S (j + 1) = rulesT P L S j ++ [ruleA P L S[j]] := by
  unfold rulesT
  rw [List.take_succ_eq_append_getElem h, List.filter_append, List.map_append]
  have e : ruleA P L S[j] = ruleV P L S[j] := by unfold ruleA; rw [hr]; rfl
  simp [hr, e]
theorem rulesT_no {P L : List Str} {S : List St} {j : Nat} (h : j < S.length) (hr : ruleOk P L S[j] = false) : rulesT P L S (j + 1) = rulesT P L S j := by
  unfold rulesT
  rw [List.take_succ_eq_append_getElem h, List.filter_append, List.map_append]
  simp [hr]
theorem own_below {w w' : World} {B n : Nat} {e : TypeId} {k : Nat} {v : Value} {xs : List Value} (h : w.ownsRow B e k v n xs) (hb : Below w.heap.size w w') : w'.ownsRow B e k v n xs :=
  h.kept (World.grownBy.mk hb.os hb.tape hb.output hb.size (fun k hk _ => hb.block k hk) : w.grownBy w' none) (by cases hv : v.ownBlock <;> simp)
theorem news (X : World) (f0 f1 f2 f3 f4 f5 : Int) : ∀ i u, ([.int .i64 f0, .int .i64 f1, .int .i64 f2, .int .i64 f3, .int .i64 f4, .int .i64 f5] : List Value)[i]? = some u → (X.alloc (.cells #[.int .i64 f0, .int .i64 f1, .int .i64 f2, .int .i64 f3, .int .i64 f4, .int .i64 f5] 34)).cell? ((⟨X.heap.size, 0, none⟩ : Addr).add i) = some u := fun i u hu => by
  have e : ((⟨X.heap.size, 0, none⟩ : Addr).add i) = ⟨X.heap.size, i, none⟩ := by unfold Addr.add; split <;> simp_all
  rw [e, Lib.cell_of_heap (heap_alloc_new X _), ← hu]
  simp
theorem cell6 (u0 u1 u2 u3 u4 u5 : Int) : ∀ v ∈ ([.int .i64 u0, .int .i64 u1, .int .i64 u2, .int .i64 u3, .int .i64 u4, .int .i64 u5] : List Value), v.oneCell' = true := fun v hv => by
  simp at hv
  rcases hv with rfl | rfl | rfl | rfl | rfl | rfl <;> rfl
theorem app_cells (L : List Ru) (u0 u1 u2 u3 u4 u5 : Int) : cellsR (L ++ [⟨u0, u1, u2, u3, u4, u5⟩]) = cellsR L ++ [.int .i64 u0, .int .i64 u1, .int .i64 u2, .int .i64 u3, .int .i64 u4, .int .i64 u5] := by
  rw [cellsR_app]; rfl
theorem below_own {a w w1 : World} {e : TypeId} {size n B : Nat} {v : Value} {xs : List Value} {o : Obj} (hb : Below a.heap.size a w) (hB : a.heap.size ≤ B) (hown : w.ownsRow B e size v n xs) (hg : (w.alloc o).grownBy w1 v.ownBlock) : Below a.heap.size a w1 :=
  (hb.alloc hb.size o).grown hg (by have := hb.size; simp; omega) (fun k hk => Nat.le_trans hB (hown.lt k hk).1)
section
variable {t a b : Nat} {B1 : Option Addr} {d1 : Nat} {B2 : Option Addr} {d2 : Nat} {P L : List Str}
def RulesPost (R : List Ru) (w : World) (e : Ending) (w' : World) : Prop := ∃ A c, e = .returned (.slice A R.length c) ∧ UG w' A R ∧ Below w.heap.size w w'
set_option maxHeartbeats 2000000 in
set_option maxRecDepth 100000 in
theorem rules (w : World) (hT : TblK w t a b B1 d1 B2 d2 P L) (A : Option Addr) (ca : Nat) (S : List St) (hS : S.length ≤ 1000) (hf : ∀ s ∈ S, s.fit) (hA : SG w A S) :
    Calls Try.prog 27 #[.pointer (some ⟨t, 0, none⟩), .slice A S.length ca] w (RulesPost (rulesT P L S S.length) w) := by
  have HT := Lib.hid hT
  have HA := Lib.hid hA
  have HF := Lib.hid hf
  have HY := Lib.hid (fun j h hr => rulesT_yes (P := P) (L := L) (S := S) (j := j) h hr)
  have HN := Lib.hid (fun j h hr => rulesT_no (P := P) (L := L) (S := S) (j := j) h hr)
  have HLn := Lib.hid (fun j => rulesT_len P L S j)
  have H0 : Hid (rulesT P L S 0 = []) := Lib.hid rfl
  clear hT hA hf
  generalize rulesT P L S = R at *
  obtain ⟨i0, hi, hz0, hz1, hz2⟩ := info_parts infoU
  go_enter Try.func27, Try.ntmps27
  go_wp2_with fail
  go_loopw [5, 12] (fun l i wr => ∃ j : Nat, j ≤ S.length ∧ i = .int .i64 j ∧ Hid (wr.ownsRow w.heap.size 34 6 l (R j).length (cellsR (R j))) ∧ Below w.heap.size w wr) (fun _ i _ => S.length - (intOf i).toNat)
  case atStart => exact ⟨0, by omega, rfl, Lib.hid (by rw [H0.out]; exact World.ownsRow_nil _ _ _ _), Below.refl _ _⟩
  case round =>
    obtain ⟨j, hj, rfl, hown, hb⟩ := hrel
    by_cases hlt : j < S.length
    · have e1 : decide ((j : Int) < S.length) = true := by simp; omega
      have p0 : (0 : Int) ≤ j := by omega
      have p1 : (j : Int) < S.length := by omega
      obtain ⟨g, o, rfl, hg, hcell⟩ := (HA.out.below hb) (by omega)
      obtain ⟨a0, a1, a2, a3, a4, a5, a6, a7, a8⟩ := hcell j hlt
      have HRu := Lib.hid (fun w' (hb2 : Below w.heap.size w w') => rule w' (HT.out.keep hb2) S[j] (HF.out _ (List.getElem_mem hlt)))
      have HYj := Lib.hid (HY.out j hlt)
      have HNj := Lib.hid (HN.out j hlt)
      have hlj := HLn.out j
      have HBk := Lib.hid hb
      unfold RulePost at HRu
      clear hcell hb
      generalize ruleA P L S[j] = u at *
      generalize ruleOk P L S[j] = ok at *
      generalize S[j] = s at *
      obtain ⟨k1, ⟨ho, hn⟩, wh, ⟨ao, an⟩, ⟨bo, bn⟩, v⟩ := s
      obtain ⟨f0, f1, f2, f3, f4, f5⟩ := u
      unfold St.val at HRu
      simp only [Ru.cells] at a0 a1 a2 a3 a4 a5 a6 a7 a8 HRu
      have hbs : Below wr.heap.size wr (wr.alloc (.cells #[.int .i64 k1, .string ho, .string hn, .string wh, .string ao, .string an, .string bo, .string bn, .string v] 26)) := (Below.refl _ _).alloc (Nat.le_refl _) _
      have HBs := Lib.hid (nx HBk.out hbs)
      have HOs := Lib.hid (own_below hown.out hbs)
      have cb : ∀ o, (wr.alloc (.cells #[.int .i64 k1, .string ho, .string hn, .string wh, .string ao, .string an, .string bo, .string bn, .string v] 26)).cell? ⟨wr.heap.size, o, none⟩ = (#[.int .i64 k1, .string ho, .string hn, .string wh, .string ao, .string an, .string bo, .string bn, .string v] : Array Value)[o]? := fun o => Lib.cell_of_heap (heap_alloc_new wr _) o
      clear hbs
      go_wp2_with fail
      refine (HRu.out _ HBs.out).mono ?_
      rintro e w2 ⟨rfl, hb2⟩
      have hbr : Below w2.heap.size w2 (w2.alloc (.cells #[.int .i64 f0, .int .i64 f1, .int .i64 f2, .int .i64 f3, .int .i64 f4, .int .i64 f5] 34)) := (Below.refl _ _).alloc (Nat.le_refl _) _
      have HB3 := Lib.hid (nx (nx HBs.out hb2) hbr)
      have HO3 := Lib.hid (own_below (own_below HOs.out hb2) hbr)
      have hX3 := heap_alloc_new w2 (.cells #[.int .i64 f0, .int .i64 f1, .int .i64 f2, .int .i64 f3, .int .i64 f4, .int .i64 f5] 34)
      clear hb2 hbr cb a0 a1 a2 a3 a4 a5 a6 a7 a8 HBs HOs hown HBk HRu
      go_upto_if 22 with fail
      generalize w2.alloc (.cells #[.int .i64 f0, .int .i64 f1, .int .i64 f2, .int .i64 f3, .int .i64 f4, .int .i64 f5] 34) = w3 at *
      have cx : ∀ o, w3.cell? ⟨w2.heap.size, o, none⟩ = (#[.int .i64 f0, .int .i64 f1, .int .i64 f2, .int .i64 f3, .int .i64 f4, .int .i64 f5] : Array Value)[o]? := fun o => Lib.cell_of_heap hX3 o
      cases ok with
      | false =>
        have HRj := Lib.hid (HNj.out rfl)
        clear HYj HNj cx
        go_wp2_with fail
        go_roundw
        case rel => exact ⟨j + 1, by omega, by go_num, Lib.hid (by rw [HRj.out]; exact HO3.out), HB3.out⟩
        case measure => simp [intOf]; omega
      | true =>
        have HRj := Lib.hid (HYj.out rfl)
        have hz3 : w.heap.size ≤ w3.heap.size := HB3.out.size
        have hown3 := HO3.out
        clear HYj HNj
        go_wp2_with (at_builtin; refine wpList_append_own _ rfl _ _ 53 rfl w.heap.size 34 i0 (.agg #[.int .i64 0, .int .i64 0, .int .i64 0, .int .i64 0, .int .i64 0, .int .i64 0]) 6 48 Try.underlying53 hi hz0 hz1 hz2 rfl (by decide) _ _ _ rfl (hown3.alloc _) ⟨w3.heap.size, 0, none⟩ 1 1 [.int .i64 f0, .int .i64 f1, .int .i64 f2, .int .i64 f3, .int .i64 f4, .int .i64 f5] rfl rfl ?c1 ?c2 ?c3 ?c4 ?c5 ?_)
        case c1 => exact news w3 f0 f1 f2 f3 f4 f5
        case c2 => exact cell6 _ _ _ _ _ _
        case c3 => unfold maxLen; omega
        case c4 => omega
        case c5 => simp; omega
        intro v' w7 hown' hgrow _
        have hown4 : w7.ownsRow w.heap.size 34 6 v' (R (j + 1)).length (cellsR (R (j + 1))) := by
          rw [HRj.out, app_cells, List.length_append]
          exact hown'
        have HO4 := Lib.hid hown4
        have HB4 := Lib.hid (below_own HB3.out (Nat.le_refl _) hown3 hgrow)
        clear hown' hown3 hgrow hown4 cx
        go_wp2_with fail
        go_roundw
        case rel => exact ⟨j + 1, by omega, by go_num, HO4, HB4.out⟩
        case measure => simp [intOf]; omega
    · have e1 : decide ((j : Int) < S.length) = false := by simp; omega
      have hjn : j = S.length := by omega
      subst hjn
      have ho := hown.out
      obtain ⟨A5, c5, rfl, hu⟩ := ug_own ho
      have HU := Lib.hid hu
      have HBk := Lib.hid hb
      clear ho hu hb
      go_wp2_with fail
      go_ret
      exact ⟨A5, c5, rfl, HU.out, HBk.out⟩
end
end Go.Proofs.Ytnhjnimgjpgfcaa.TblW
/- The walk of the law of For. -/
namespace Go.Proofs.Ytnhjnimgjpgfcaa.TblX
set_option linter.unusedVariables false
set_option linter.unusedSimpArgs false
open Go.RowKit Go.Sort Go.Lib Go.Proofs Go.Proofs.Ytnhjnimgjpgfcaa.Plain Go.Proofs.Ytnhjnimgjpgfcaa.SynP Go.Proofs.Ytnhjnimgjpgfcaa.SynE Go.Proofs.Ytnhjnimgjpgfcaa.Grown Go.Proofs.Ytnhjnimgjpgfcaa.TabP Go.Proofs.Ytnhjnimgjpgfcaa.Tab1 Go.Proofs.Ytnhjnimgjpgfcaa.Tab2 Go.Proofs.Ytnhjnimgjpgfcaa.Tab5 Go.Proofs.Ytnhjnimgjpgfcaa.QryP Go.Proofs.Ytnhjnimgjpgfcaa.PolA Go.Proofs.Ytnhjnimgjpgfcaa.PolE Go.Proofs.Ytnhjnimgjpgfcaa.PolG Go.Proofs.Ytnhjnimgjpgfcaa.PolH Go.Proofs.Ytnhjnimgjpgfcaa.PolOp Go.Proofs.Ytnhjnimgjpgfcaa.PolLi Go.Proofs.Ytnhjnimgjpgfcaa.TblA Go.Proofs.Ytnhjnimgjpgfcaa.TblB Go.Proofs.Ytnhjnimgjpgfcaa.TblC Go.Proofs.Ytnhjnimgjpgfcaa.TblF Go.Proofs.Ytnhjnimgjpgfcaa.TblI Go.Proofs.Ytnhjnimgjpgfcaa.TblV Go.Proofs.Ytnhjnimgjpgfcaa.TblW
set_option linter.unusedVariables false
set_option linter.unusedSimpArgs false
abbrev nx := @TblW.nx
set_option maxHeartbeats 4000000 in
set_option maxRecDepth 100000 in
theorem walk (p : Py) (A1 A2 A3 A4 : Option Addr) (c1 c2 c3 c4 : Nat) (B : Option Addr) (cb : Nat) (M : List Str) (w : World) (hc : Came p) (hp : PG w A1 A2 A3 A4 p) (hM : M.length ≤ maxLen) (hwM : ∀ x ∈ M, x.length ≤ maxLen) (hB : SRow w B M) :
    Calls Try.prog 4 #[p.val A1 A2 A3 A4 c1 c2 c3 c4, .slice B M.length cb] w fun e w' => e = .returned (.bool true) ∧ Below w.heap.size w w' := by
  have HLi := Lib.hid (fun w' (hb : Below w.heap.size w w') => PolLi.light p A1 A2 A3 A4 c1 c2 c3 c4 w' hc (hp.below hb))
  have HLm := Lib.hid (fun w' (hb : Below w.heap.size w w') => Tab6.light B cb M w' hM hwM (hB.keep hb))
  have HFo := Lib.hid (fun w' (hb : Below w.heap.size w w') hf h40 => forT p A1 A2 A3 A4 c1 c2 c3 c4 B cb M w' hf hc (hp.below hb) h40 (hB.keep hb))
  have HPr := Lib.hid (fun w' (hb : Below w.heap.size w w') (hf : Few p) => RefPq.prinsRef p A1 A2 A3 A4 c1 c2 c3 c4 w' (hf.fit hc) (by have := hf.n4; omega) (hp.below hb))
  have HNm := Lib.hid (fun w' (hb : Below w.heap.size w w') (hf : Few p) => RefPr.namesRef p A1 A2 A3 A4 c1 c2 c3 c4 w' (hf.fit hc) (hp.below hb))
  have HPl := Lib.hid (fun (hf : Few p) => prinsT_len hf hc)
  have HNl := Lib.hid (fun (hf : Few p) => namesT_len hf hc)
  have HBr := Lib.hid (fun w' (hb : Below w.heap.size w w') => hB.keep hb)
  have HSg := Lib.hid (fun w' (hb : Below w.heap.size w w') => (hp.below hb).s)
  have HFs := Lib.hid hc.f1
  have hs30 : Hid (Few p → p.stmts.length ≤ 30) := Lib.hid (fun hf => hf.n1)
  unfold LightPost at HLi
  unfold NewTPost at HFo
  simp only [RefFi.prins_eq] at HPr
  simp only [RefFi.names_eq] at HNm
  unfold Tab5.RowPost at HPr HNm
  clear hc hp hB
  generalize prinsT p = PT at *
  generalize namesT p = NT at *
  generalize hFw : Few p = FW at *
  clear hFw
  obtain ⟨S, G, H, Q⟩ := p
  unfold Py.val at *
  simp only at *
  have hX := heap_alloc_new w (.cells #[.slice A1 S.length c1, .slice A2 G.length c2, .slice A3 H.length c3, .slice A4 Q.length c4] 49)
  have hb0 : Below w.heap.size w (w.alloc (.cells #[.slice A1 S.length c1, .slice A2 G.length c2, .slice A3 H.length c3, .slice A4 Q.length c4] 49)) := (Below.refl _ _).alloc (Nat.le_refl _) _
  go_enter Try.func4, Try.ntmps4
  go_upto_region 1 with fail
  generalize w.alloc (.cells #[.slice A1 S.length c1, .slice A2 G.length c2, .slice A3 H.length c3, .slice A4 Q.length c4] 49) = w0 at *
  have HX : Hid (∀ w', Below w0.heap.size w0 w' → Below w.heap.size w w' ∧ ∀ o, w'.cell? ⟨w.heap.size, o, none⟩ = (#[.slice A1 S.length c1, .slice A2 G.length c2, .slice A3 H.length c3, .slice A4 Q.length c4] : Array Value)[o]?) := Lib.hid (fun w' hb => ⟨TblW.nx hb0 hb, fun o => Lib.cell_of_heap ((hb.block _ (Array.getElem?_eq_some_iff.1 hX).1).trans hX) o⟩)
  clear hX hb0
  have k0 := (HX.out w0 (Below.refl _ _)).2
  have hb00 := (HX.out w0 (Below.refl _ _)).1
  go_wp2_with fail
  refine (HLi.out _ hb00).mono ?_
  rintro e w1 ⟨bl, rfl, hfew, hb1⟩
  have HB1 := Lib.hid hb1
  clear hb1 k0 hb00 HLi
  cases bl with
  | false =>
    go_wp2_with fail
    refine (lives _).mono ?_
    rintro e w2 ⟨rfl, hb⟩
    have HG := Lib.hid ((HX.out _ (TblW.nx HB1.out hb)).1)
    clear hb
    go_wp2_with fail
    go_ret
    exact ⟨rfl, HG.out⟩
  | true =>
  have hFW := hfew rfl
  have HLm1 := Lib.hid (HLm.out w1 (HX.out w1 HB1.out).1)
  clear hfew HLm
  cases h1 : Tab6.lightB M with
  | false =>
    rw [h1] at HLm1
    go_wp2_with fail
    refine HLm1.out.mono ?_
    rintro e w2 ⟨rfl, rfl⟩
    go_wp2_with fail
    refine (lives _).mono ?_
    rintro e w2 ⟨rfl, hb⟩
    have HG := Lib.hid ((HX.out _ (TblW.nx HB1.out hb)).1)
    clear hb
    go_wp2_with fail
    go_ret
    exact ⟨rfl, HG.out⟩
  | true =>
  rw [h1] at HLm1
  have hM40 := light40 h1
  have l1 := HPl.out hFW
  have l2 := HNl.out hFW
  have l3 := hs30.out hFW
  have lp1 : (tab PT).length ≤ 20000 := Nat.le_trans (tab_len_le _) l1
  have lp2 : (tab NT).length ≤ 20000 := Nat.le_trans (tab_len_le _) l2
  clear h1
  go_wp2_with fail
  refine HLm1.out.mono ?_
  rintro e w2 ⟨rfl, rfl⟩
  have k1 := (HX.out w1 HB1.out).2
  have HF1 := Lib.hid (HFo.out w1 (HX.out w1 HB1.out).1 hFW hM40)
  clear HLm1 HFo
  go_wp2_with fail
  refine HF1.out.mono ?_
  rintro e w2 ⟨t, a, b, B1, d1, B2, d2, rfl, hT, hb⟩
  have HB2 := Lib.hid (TblW.nx HB1.out hb)
  have HT2 := Lib.hid hT
  clear hT hb k1 HF1 HB1
  -- the document's table
  have hbe : Below w2.heap.size w2 (w2.alloc (.cells #[] 9)) := (Below.refl _ _).alloc (Nat.le_refl _) _
  have HB3 := Lib.hid (TblW.nx HB2.out hbe)
  have k3 := (HX.out _ HB3.out).2
  have HP3 := Lib.hid (HPr.out _ (HX.out _ HB3.out).1 hFW)
  have hown0 : (w2.alloc (.cells #[] 9)).ownsRow w2.heap.size 9 1 (.slice (some ⟨w2.heap.size, 0, none⟩) 0 0) ([] : List Str).length (([] : List Str).map encStr) := World.ownsRow_made w2 #[] 0 (Nat.le_refl _) (by decide) rfl
  have HO0 := Lib.hid hown0
  clear hown0 HPr
  go_wp2_with fail
  refine HP3.out.mono ?_
  rintro e w4 ⟨v4, rfl, hown4, hb⟩
  obtain ⟨A5, c5, rfl, _, hr5⟩ := SRow.of_own hown4
  have hownA := own_below HO0.out hb
  have HBA := Lib.hid (hbe.trans (hb.mono hbe.size))
  have HR5 := Lib.hid hr5
  obtain ⟨i0, hi, hz0, hz1, hz2⟩ := info_parts Tab3.infoStr
  clear hown4 hr5 hb HP3 k3 HO0 HB3 hbe
  go_wp2_with (at_builtin; refine Tab7.wpList_append_src _ rfl _ _ 22 rfl w2.heap.size 9 i0 (.string ⟨#[]⟩) Try.underlying22 hi hz0 hz1 hz2 rfl _ [] rfl hownA A5 c5 (tab PT) rfl HR5.out (by simp; omega) HBA.out.size ?_)
  intro v6 w6 hown6 hgrow6
  have hb6 := HBA.out.grown hgrow6 HBA.out.size (fun k hk => (hownA.lt k hk).1)
  have HB6 := Lib.hid hb6
  have HBm := Lib.hid (HBr.out w6 (HX.out w6 (TblW.nx HB2.out hb6)).1)
  clear hownA hgrow6 HBA HR5 hb6
  go_wp2_with (at_builtin; refine Tab7.wpList_append_src _ rfl _ _ 22 rfl w2.heap.size 9 i0 (.string ⟨#[]⟩) Try.underlying22 hi hz0 hz1 hz2 rfl _ (tab PT) rfl hown6 B cb M rfl HBm.out (by omega) HB6.out.size ?_)
  intro v7 w7 hown7 hgrow7
  have HB7 := Lib.hid (HB6.out.grown hgrow7 HB6.out.size (fun k hk => (hown6.lt k hk).1))
  have hsum : (tab PT ++ M).length = (tab PT).length + M.length := by simp
  obtain ⟨PM, hPM⟩ : ∃ PM, tab PT ++ M = PM := ⟨_, rfl⟩
  have hown7' : w7.ownsRow w2.heap.size 9 1 v7 PM.length (PM.map encStr) := by rw [← hPM, List.length_append, List.map_append]; simpa using hown7
  rw [hPM] at hsum
  obtain ⟨A8, c8, rfl, _, hr8⟩ := SRow.of_own hown7'
  have hlen8 : PM.length ≤ 100000 := by omega
  rw [hPM] at HT2
  clear hPM hown7' hsum
  clear hown6 hown7 hgrow7 HB6 HBm
  have hlp : (tab PM).length ≤ 100000 := Nat.le_trans (tab_len_le _) hlen8
  have HNW := Lib.hid (Tab5.newRef A8 c8 PM w7 hlen8 hr8)
  unfold Tab5.RowPost at HNW
  go_wp2_with fail
  refine HNW.out.mono ?_
  rintro e w8 ⟨v8, rfl, hown8, hb⟩
  obtain ⟨A6, c6, rfl, _, hr6⟩ := SRow.of_own hown8
  have HB8 := Lib.hid (TblW.nx HB7.out hb)
  have HR6 := Lib.hid hr6
  clear hown8 hr6 hb HNW hr8 HB7 hlen8
  generalize tab PM = P at *
  have k8 := (HX.out _ (TblW.nx HB2.out HB8.out)).2
  have HN8 := Lib.hid (HNm.out w8 (HX.out _ (TblW.nx HB2.out HB8.out)).1 hFW)
  go_wp2_with fail
  refine HN8.out.mono ?_
  rintro e w9 ⟨v9, rfl, hown9, hb⟩
  obtain ⟨A7, c7, rfl, _, hr7⟩ := SRow.of_own hown9
  have htt : tab (tab NT) = tab NT := tab_tab NT
  have HC : Hid (∀ w', Below w9.heap.size w9 w' → Below w.heap.size w w' ∧ (∀ o, w'.cell? ⟨w.heap.size, o, none⟩ = (#[.slice A1 S.length c1, .slice A2 G.length c2, .slice A3 H.length c3, .slice A4 Q.length c4] : Array Value)[o]?) ∧ SRow w' A6 P ∧ SRow w' A7 (tab NT) ∧ TblK w' t a b B1 d1 B2 d2 P (tab NT) ∧ SG w' A1 S) := Lib.hid (fun w' hb' => by
    have h8 := TblW.nx hb hb'
    have h2 := TblW.nx HB8.out h8
    have h0 := TblW.nx HB2.out h2
    exact ⟨(HX.out _ h0).1, (HX.out _ h0).2, HR6.out.keep h8, hr7.keep hb', HT2.out.keep h2, HSg.out _ (HX.out _ h0).1⟩)
  clear hown9 hr7 hb HN8 HNm k8 HB8 HR6 HT2 HX HSg HB2 HBr htt
  generalize tab NT = L at *
  have q1 : P.length ≤ 100000 := hlp
  have q2 : L.length ≤ 100000 := by omega
  have HRT := Lib.hid (fun w' t a b B1 d1 B2 d2 (hT : TblK w' t a b B1 d1 B2 d2 P L) (hA : SG w' A1 S) => TblW.rules w' hT A1 c1 S (by omega) HFs.out hA)
  have HY := Lib.hid (fun j h hr => TblW.rulesT_yes (P := P) (L := L) (S := S) (j := j) h hr)
  have HN := Lib.hid (fun j h hr => TblW.rulesT_no (P := P) (L := L) (S := S) (j := j) h hr)
  have HLn := Lib.hid (fun j => TblW.rulesT_len P L S j)
  have H0 : Hid (TblW.rulesT P L S 0 = []) := Lib.hid rfl
  have HF := HFs
  unfold TblW.RulesPost at HRT
  generalize TblW.rulesT P L S = R at *
  obtain ⟨i1, hi1, iz0, iz1, iz2⟩ := info_parts TblW.infoU
  have k9 := (HC.out w9 (Below.refl _ _)).2.1
  go_wp2_with fail
  clear k9
  go_loopw [8, 37] (fun l i wr => ∃ j : Nat, j ≤ S.length ∧ i = .int .i64 j ∧ Hid (wr.ownsRow w9.heap.size 34 6 l (R j).length (cellsR (R j))) ∧ Below w9.heap.size w9 wr) (fun _ i _ => S.length - (intOf i).toNat)
  case atStart => exact ⟨0, by omega, rfl, Lib.hid (by rw [H0.out]; exact World.ownsRow_nil _ _ _ _), Below.refl _ _⟩
  case round =>
    obtain ⟨j, hj, rfl, hown, hb⟩ := hrel
    by_cases hlt : j < S.length
    · have e1 : decide ((j : Int) < S.length) = true := by simp; omega
      have p0 : (0 : Int) ≤ j := by omega
      have p1 : (j : Int) < S.length := by omega
      obtain ⟨g, o, rfl, hg, hcell⟩ := ((HC.out _ hb).2.2.2.2.2) (by omega)
      obtain ⟨a0, a1, a2, a3, a4, a5, a6, a7, a8⟩ := hcell j hlt
      have HRu := Lib.hid (fun w' (hb2 : Below w9.heap.size w9 w') => ruleRef A6 A7 c6 c7 w' q1 q2 (HC.out _ hb2).2.2.1 (HC.out _ hb2).2.2.2.1 S[j] (HF.out _ (List.getElem_mem hlt)))
      have HYj := Lib.hid (HY.out j hlt)
      have HNj := Lib.hid (HN.out j hlt)
      have hlj := HLn.out j
      have HBk := Lib.hid hb
      unfold RulePost at HRu
      clear hcell hb
      generalize ruleA P L S[j] = u at *
      generalize ruleOk P L S[j] = ok at *
      generalize S[j] = s at *
      obtain ⟨k1, ⟨ho, hn⟩, wh, ⟨ao, an⟩, ⟨bo, bn⟩, v⟩ := s
      obtain ⟨f0, f1, f2, f3, f4, f5⟩ := u
      unfold St.val at HRu
      simp only [Ru.cells] at a0 a1 a2 a3 a4 a5 a6 a7 a8 HRu
      have hbs : Below wr.heap.size wr (wr.alloc (.cells #[.int .i64 k1, .string ho, .string hn, .string wh, .string ao, .string an, .string bo, .string bn, .string v] 26)) := (Below.refl _ _).alloc (Nat.le_refl _) _
      have HBs := Lib.hid (nx HBk.out hbs)
      have HOs := Lib.hid (own_below hown.out hbs)
      have cb : ∀ o, (wr.alloc (.cells #[.int .i64 k1, .string ho, .string hn, .string wh, .string ao, .string an, .string bo, .string bn, .string v] 26)).cell? ⟨wr.heap.size, o, none⟩ = (#[.int .i64 k1, .string ho, .string hn, .string wh, .string ao, .string an, .string bo, .string bn, .string v] : Array Value)[o]? := fun o => Lib.cell_of_heap (heap_alloc_new wr _) o
      clear hbs
      go_wp2_with fail
      refine (HRu.out _ HBs.out).mono ?_
      rintro e w2 ⟨rfl, hb2⟩
      have hbr : Below w2.heap.size w2 (w2.alloc (.cells #[.int .i64 f0, .int .i64 f1, .int .i64 f2, .int .i64 f3, .int .i64 f4, .int .i64 f5] 34)) := (Below.refl _ _).alloc (Nat.le_refl _) _
      have HB3 := Lib.hid (nx (nx HBs.out hb2) hbr)
      have HO3 := Lib.hid (own_below (own_below HOs.out hb2) hbr)
      have hX3 := heap_alloc_new w2 (.cells #[.int .i64 f0, .int .i64 f1, .int .i64 f2, .int .i64 f3, .int .i64 f4, .int .i64 f5] 34)
      clear hb2 hbr cb a0 a1 a2 a3 a4 a5 a6 a7 a8 HBs HOs hown HBk HRu
      go_upto_if 48 with fail
      generalize w2.alloc (.cells #[.int .i64 f0, .int .i64 f1, .int .i64 f2, .int .i64 f3, .int .i64 f4, .int .i64 f5] 34) = w3 at *
      have cx : ∀ o, w3.cell? ⟨w2.heap.size, o, none⟩ = (#[.int .i64 f0, .int .i64 f1, .int .i64 f2, .int .i64 f3, .int .i64 f4, .int .i64 f5] : Array Value)[o]? := fun o => Lib.cell_of_heap hX3 o
      cases ok with
      | false =>
        have HRj := Lib.hid (HNj.out rfl)
        clear HYj HNj cx
        go_wp2_with fail
        go_roundw
        case rel => exact ⟨j + 1, by omega, by go_num, Lib.hid (by rw [HRj.out]; exact HO3.out), HB3.out⟩
        case measure => simp [intOf]; omega
      | true =>
        have HRj := Lib.hid (HYj.out rfl)
        have hz3 : w9.heap.size ≤ w3.heap.size := HB3.out.size
        have hown3 := HO3.out
        clear HYj HNj
        go_wp2_with (at_builtin; refine wpList_append_own _ rfl _ _ 53 rfl w9.heap.size 34 i1 (.agg #[.int .i64 0, .int .i64 0, .int .i64 0, .int .i64 0, .int .i64 0, .int .i64 0]) 6 48 Try.underlying53 hi1 iz0 iz1 iz2 rfl (by decide) _ _ _ rfl (hown3.alloc _) ⟨w3.heap.size, 0, none⟩ 1 1 [.int .i64 f0, .int .i64 f1, .int .i64 f2, .int .i64 f3, .int .i64 f4, .int .i64 f5] rfl rfl ?c1 ?c2 ?c3 ?c4 ?c5 ?_)
        case c1 => exact news w3 f0 f1 f2 f3 f4 f5
        case c2 => exact cell6 _ _ _ _ _ _
        case c3 => unfold maxLen; omega
        case c4 => omega
        case c5 => simp; omega
        intro v' w7 hown' hgrow _
        have hown4 : w7.ownsRow w9.heap.size 34 6 v' (R (j + 1)).length (cellsR (R (j + 1))) := by
          rw [HRj.out, app_cells, List.length_append]
          exact hown'
        have HO4 := Lib.hid hown4
        have HB4 := Lib.hid (below_own HB3.out (Nat.le_refl _) hown3 hgrow)
        clear hown' hown3 hgrow hown4 cx
        go_wp2_with fail
        go_roundw
        case rel => exact ⟨j + 1, by omega, by go_num, HO4, HB4.out⟩
        case measure => simp [intOf]; omega
    · have e1 : decide ((j : Int) < S.length) = false := by simp; omega
      have hjn : j = S.length := by omega
      subst hjn
      have ho := hown.out
      obtain ⟨A9, c9, rfl, hu⟩ := ug_own ho
      have HU := Lib.hid hu
      have HBk := Lib.hid hb
      clear ho hu hb
      have hkk := (HC.out _ HBk.out).2.1
      go_wp2_with fail
      have HT := Lib.hid (fun w' (hb : Below w9.heap.size w9 w') => (HC.out w' hb).2.2.2.2.1)
      have HP := Lib.hid (fun w' (hb : Below w9.heap.size w9 w') => (HC.out w' hb).2.2.1)
      have HL := Lib.hid (fun w' (hb : Below w9.heap.size w9 w') => (HC.out w' hb).2.2.2.1)
      have HS := Lib.hid (fun w' (hb : Below w9.heap.size w9 w') => (HC.out w' hb).2.2.2.2.2)
      have HK := Lib.hid (fun w' (hb : Below w9.heap.size w9 w') => (HC.out w' hb).2.1)
      have HW := Lib.hid (fun w' (hb : Below w9.heap.size w9 w') => (HC.out w' hb).1)
      refine (prins (HT.out _ HBk.out)).mono ?_
      rintro e w2 ⟨rfl, rfl⟩
      go_wp2_with fail
      refine (Tab7.all a B1 P d1 _ (HT.out _ HBk.out).a0 (by omega) (HT.out _ HBk.out).ra).mono ?_
      rintro e x1 ⟨y1, rfl, hownx, hbx⟩
      obtain ⟨D1, k1, rfl, _, hd1⟩ := SRow.of_own hownx
      have HX1 := Lib.hid (TblW.nx HBk.out hbx)
      have HU1 := Lib.hid (HU.out.below hbx)
      clear hkk hownx hbx HBk HU
      go_wp2_with fail
      refine (Tab3.same D1 A6 k1 c6 P _ (by omega) hd1 (HP.out _ HX1.out)).mono ?_
      rintro e x2 ⟨rfl, n2, rfl⟩
      have HX2 := Lib.hid (below_drewN HX1.out n2)
      have HU2 := Lib.hid (HU1.out.below (below_drewN (Below.refl _ x1) n2))
      clear HX1 HU1 hd1
      generalize x1.drewN n2 = x2 at *
      go_wp2_with fail
      refine (links (HT.out _ HX2.out)).mono ?_
      rintro e w2 ⟨rfl, rfl⟩
      go_wp2_with fail
      refine (Tab7.all b B2 L d2 _ (HT.out _ HX2.out).b0 (by omega) (HT.out _ HX2.out).rb).mono ?_
      rintro e x3 ⟨y3, rfl, hownx, hbx⟩
      obtain ⟨D2, k2, rfl, _, hd2⟩ := SRow.of_own hownx
      have HX3 := Lib.hid (TblW.nx HX2.out hbx)
      have HU3 := Lib.hid (HU2.out.below hbx)
      clear hownx hbx HX2 HU2
      go_wp2_with fail
      refine (Tab3.same D2 A7 k2 c7 L _ (by omega) hd2 (HL.out _ HX3.out)).mono ?_
      rintro e x4 ⟨rfl, n4, rfl⟩
      have HX4 := Lib.hid (below_drewN HX3.out n4)
      have HU4 := Lib.hid (HU3.out.below (below_drewN (Below.refl _ x3) n4))
      clear HX3 HU3 hd2
      generalize x3.drewN n4 = x4 at *
      have kk := HK.out _ HX4.out
      go_wp2_with fail
      refine (HRT.out _ t a b B1 d1 B2 d2 (HT.out _ HX4.out) (HS.out _ HX4.out)).mono ?_
      rintro e x5 ⟨D3, k3, rfl, hu5, hbx⟩
      have HX5 := Lib.hid (TblW.nx HX4.out hbx)
      have HU5 := Lib.hid (HU4.out.below hbx)
      clear kk hbx HX4 HU4
      go_wp2_with fail
      refine (sameU D3 A9 k3 c9 (R S.length) _ (by have := HLn.out S.length; omega) hu5 HU5.out).mono ?_
      rintro e x6 ⟨rfl, hbx⟩
      have HX6 := Lib.hid (TblW.nx HX5.out hbx)
      clear hbx HX5 HU5 hu5
      go_wp2_with fail
      refine (lives _).mono ?_
      rintro e x7 ⟨rfl, hbx⟩
      have HF7 := Lib.hid (HW.out _ (TblW.nx HX6.out hbx))
      clear hbx HX6
      go_wp2_with fail
      go_ret
      exact ⟨rfl, HF7.out⟩
end Go.Proofs.Ytnhjnimgjpgfcaa.TblX
