/- The document's answers of layer 10, by contract: Has of roles anywhere, Of, MayCome, Reaches. -/
import Derived.Test.YtcmdiomjhideiaaGreatDoorM24
import Derived.Test.YtcmdiomjhideiaaGreatDoorM06
import Derived.Test.YtcmdiomjhideiaaGreatDoorM23
import Derived.Test.YtcmdiomjhideiaaGreatDoorM16
import Derived.Test.YtcmdiomjhideiaaGreatDoorM22
namespace Go.Proofs.YtcmdiomjhideiaaGreatDoor.StI
set_option linter.unusedVariables false
set_option linter.unusedSimpArgs false
open Go.Shelf Go.RowKit Go.Sort Go.Lib Go.Proofs Go.Proofs.YtcmdiomjhideiaaGreatDoor.Plain Go.Proofs.YtcmdiomjhideiaaGreatDoor.SynP Go.Proofs.YtcmdiomjhideiaaGreatDoor.Grown Go.Proofs.YtcmdiomjhideiaaGreatDoor.SynC Go.Proofs.YtcmdiomjhideiaaGreatDoor.SynD Go.Proofs.YtcmdiomjhideiaaGreatDoor.SynD2 Go.Proofs.YtcmdiomjhideiaaGreatDoor.SynD3 Go.Proofs.YtcmdiomjhideiaaGreatDoor.QryP Go.Proofs.YtcmdiomjhideiaaGreatDoor.PolA Go.Proofs.YtcmdiomjhideiaaGreatDoor.PolE Go.Proofs.YtcmdiomjhideiaaGreatDoor.StA Go.Proofs.YtcmdiomjhideiaaGreatDoor.StB Go.Proofs.YtcmdiomjhideiaaGreatDoor.StC Go.Proofs.YtcmdiomjhideiaaGreatDoor.StD Go.Proofs.YtcmdiomjhideiaaGreatDoor.StE Go.Proofs.YtcmdiomjhideiaaGreatDoor.StF Go.Proofs.YtcmdiomjhideiaaGreatDoor.StG Go.Proofs.YtcmdiomjhideiaaGreatDoor.StH
set_option linter.unusedVariables false
set_option linter.unusedSimpArgs false
set_option maxHeartbeats 1000000 in
set_option maxRecDepth 100000 in
theorem hasRefG (A : Option Addr) (ca : Nat) (L : List Rl) (s : Rl) (w : World) (hL : L.length ≤ 1000) (hA : RG w A L) :
    Calls Tryz.prog 71 #[.slice A L.length ca, s.val] w fun e w' => e = .returned (.bool (decide (s ∈ L))) ∧ RowKit.Below w.heap.size w w' := by
  obtain ⟨ho, hn⟩ := s
  have hown : ∀ (wr : World), Below (w.heap.size + 1) (w.alloc (.cells #[.string ho, .string hn] 28)) wr → wr.cell? ⟨w.heap.size, 0, none⟩ = some (.string ho) ∧ wr.cell? ⟨w.heap.size, 1, none⟩ = some (.string hn) := fun wr hb => by
    refine ⟨?_, ?_⟩ <;> rw [hb.cell (by simp)] <;> rw [Lib.cell_of_heap (heap_alloc_new w _)] <;> rfl
  have HO := Lib.hid hown
  clear hown
  have HA := Lib.hid hA
  clear hA
  unfold Rl.val
  go_enter Tryz.func71, Tryz.ntmps71
  go_wp2_with fail
  go_loopw [9] (fun i wr => ∃ k : Nat, k ≤ L.length ∧ i = .int .i64 k ∧ Hid ((⟨ho, hn⟩ : Rl) ∉ L.take k) ∧ Below (w.heap.size + 1) (w.alloc (.cells #[.string ho, .string hn] 28)) wr) (fun i _ => L.length - (intOf i).toNat)
  case atStart => exact ⟨0, by omega, rfl, Lib.hid (by simp), Below.refl _ _⟩
  case round =>
    obtain ⟨k, hk, rfl, hrun, hbel⟩ := hrel
    have hb0 : Below w.heap.size w wr := ((Below.refl w.heap.size w).alloc (Nat.le_refl _) _).trans (hbel.mono (by omega))
    have hsz : w.heap.size + 1 ≤ wr.heap.size := by have := hbel.size; simpa using this
    by_cases hlt : k < L.length
    · obtain ⟨g1, o1, rfl, hg1, h1⟩ := (HA.out.below hb0) (by omega)
      obtain ⟨a0, a1⟩ := h1 k hlt
      obtain ⟨b0, b1⟩ := HO.out _ (hbel.alloc hsz (.cells #[.string L[k].owner, .string L[k].name] 28))
      have p1 : (0 : Int) ≤ k := by omega
      have p2 : (k : Int) < L.length := by omega
      clear h1
      by_cases he : L[k] = (⟨ho, hn⟩ : Rl)
      · have hfin : Hid (decide ((⟨ho, hn⟩ : Rl) ∈ L) = true) := Lib.hid (decide_eq_true (he ▸ List.getElem_mem hlt))
        have hq := fun w => SynE.eqR L[k].owner L[k].name ho hn w
        rw [decide_eq_true (p := (⟨L[k].owner, L[k].name⟩ : Rl) = ⟨ho, hn⟩) he] at hq
        clear hrun he
        go_wp2_with fail
        go_ret
        exact ⟨ret_bool hfin.out.symm, hb0.alloc hb0.size _⟩
      · have hnext : Hid ((⟨ho, hn⟩ : Rl) ∉ L.take (k + 1)) := Lib.hid (by
          rw [List.take_succ_eq_append_getElem hlt, List.mem_append, List.mem_singleton]
          rintro (h | h)
          · exact hrun.out h
          · exact he h.symm)
        have hq := fun w => SynE.eqR L[k].owner L[k].name ho hn w
        rw [decide_eq_false (p := (⟨L[k].owner, L[k].name⟩ : Rl) = ⟨ho, hn⟩) he] at hq
        clear hrun he
        go_wp2_with fail
        go_roundw
        case rel => exact ⟨k + 1, by omega, by go_num, hnext, hbel.alloc hsz _⟩
        case measure => simp [intOf]; omega
    · have hfin : Hid (decide ((⟨ho, hn⟩ : Rl) ∈ L) = false) := Lib.hid (decide_eq_false (by
        have := hrun.out
        rwa [List.take_of_length_le (by omega)] at this))
      clear hrun
      go_wp2_with fail
      go_ret
      exact ⟨ret_bool hfin.out.symm, hb0⟩
def RowPost (R : List St) (w : World) (e : Ending) (w' : World) : Prop := ∃ A c, e = .returned (.slice A R.length c) ∧ SG w' A R ∧ Below w.heap.size w w'
theorem sg_own {w : World} {B : Nat} {v : Value} {T : List St} (h : w.ownsRow B 55 9 v T.length (stCells T)) : ∃ A c, v = .slice A T.length c ∧ SG w A T := by
  obtain ⟨A, c, e, _, hr⟩ := StRow.of_own h
  exact ⟨A, c, e, SG.of_row hr⟩
theorem snoc_cells (T : List St) (x : St) : stCells (T ++ [x]) = stCells T ++ x.cells := by rw [stCells_app]; simp [stCells]
end Go.Proofs.YtcmdiomjhideiaaGreatDoor.StI
/- The least state, the document's, by contract. -/
namespace Go.Proofs.YtcmdiomjhideiaaGreatDoor.LwF
set_option linter.unusedVariables false
set_option linter.unusedSimpArgs false
open Go.RowKit Go.Sort Go.Lib Go.Proofs Go.Proofs.YtcmdiomjhideiaaGreatDoor.Plain Go.Proofs.YtcmdiomjhideiaaGreatDoor.SynP Go.Proofs.YtcmdiomjhideiaaGreatDoor.SynD2 Go.Proofs.YtcmdiomjhideiaaGreatDoor.PolA Go.Proofs.YtcmdiomjhideiaaGreatDoor.PolE Go.Proofs.YtcmdiomjhideiaaGreatDoor.PolG Go.Proofs.YtcmdiomjhideiaaGreatDoor.StI Go.Proofs.YtcmdiomjhideiaaGreatDoor.LwA Go.Proofs.YtcmdiomjhideiaaGreatDoor.LwC Go.Proofs.YtcmdiomjhideiaaGreatDoor.LwG
set_option linter.unusedVariables false
set_option linter.unusedSimpArgs false
theorem new_cells (w : World) (C : Array Value) (t : TypeId) : ∀ j u, C.toList[j]? = some u → (w.alloc (.cells C t)).cell? ((⟨w.heap.size, 0, none⟩ : Addr).add j) = some u := by
  intro j u hu
  rw [LwA.add_off, Nat.zero_add, Lib.cell_of_heap (heap_alloc_new w _) j, ← hu]
  simp
def minTo (p : Py) (k : Nat) : List St := (p.stmts.take k).filter (stays p)
set_option maxHeartbeats 2000000 in
set_option maxRecDepth 100000 in
theorem minRef (p : Py) (A1 A2 A3 A4 : Option Addr) (c1 c2 c3 c4 : Nat) (w : World) (n1 : p.stmts.length ≤ 1000) (n3 : p.shrink.length ≤ 1000) (h1 : SG w A1 p.stmts) (h3 : RG w A3 p.shrink) :
    Calls Tryz.prog 15 #[p.val A1 A2 A3 A4 c1 c2 c3 c4] w (RowPost (minS p) w) := by
  have HD : Hid (minTo p p.stmts.length = minS p) := Lib.hid (by unfold minTo minS; rw [List.take_length])
  have HY : Hid (∀ k, (h : k < p.stmts.length) → decide (p.stmts[k].head ∈ p.shrink) = true → minTo p (k + 1) = minTo p k ++ [p.stmts[k]]) := Lib.hid (fun k h hs => by
    unfold minTo
    rw [List.take_succ_eq_append_getElem h, List.filter_append]
    congr 1
    unfold stays
    simp [of_decide_eq_true hs])
  have HN : Hid (∀ k, (h : k < p.stmts.length) → decide (p.stmts[k].head ∈ p.shrink) = false → minTo p (k + 1) = minTo p k) := Lib.hid (fun k h hs => by
    unfold minTo
    rw [List.take_succ_eq_append_getElem h, List.filter_append]
    unfold stays
    simp [of_decide_eq_false hs])
  have HL : Hid (∀ k, (minTo p k).length ≤ p.stmts.length) := Lib.hid (fun k => by
    unfold minTo
    refine Nat.le_trans (List.length_filter_le _ _) ?_
    rw [List.length_take]; omega)
  have H0 : Hid (minTo p 0 = []) := Lib.hid (by unfold minTo; simp)
  obtain ⟨M, hM⟩ : ∃ M, minTo p = M := ⟨_, rfl⟩
  obtain ⟨R, hR⟩ : ∃ R, minS p = R := ⟨_, rfl⟩
  rw [hM, hR] at HD
  rw [hM] at HY HN HL H0
  rw [hR]
  clear hM hR
  obtain ⟨i0, hi, hz0, hz1, hz2⟩ := info_parts SynD2.infoSt
  unfold RowPost
  obtain ⟨S, G, H, Q⟩ := p
  unfold Py.val at *
  dsimp only at *
  have hb0 : Below w.heap.size w (w.alloc (.cells #[.slice A1 S.length c1, .slice A2 G.length c2, .slice A3 H.length c3, .slice A4 Q.length c4] 26)) := (Below.refl _ _).alloc (Nat.le_refl _) _
  have HS := Lib.hid (fun (wr : World) (hb : Below (w.heap.size + 1) (w.alloc (.cells #[.slice A1 S.length c1, .slice A2 G.length c2, .slice A3 H.length c3, .slice A4 Q.length c4] 26)) wr) (o : Nat) => (hb.cell (p := ⟨w.heap.size, o, none⟩) (by simp)).trans (Lib.cell_of_heap (heap_alloc_new w _) o))
  have HA := Lib.hid (fun (wr : World) (hb : Below (w.heap.size + 1) (w.alloc (.cells #[.slice A1 S.length c1, .slice A2 G.length c2, .slice A3 H.length c3, .slice A4 Q.length c4] 26)) wr) => h1.below (hb0.trans (hb.mono (by omega))))
  have HH := Lib.hid (fun (wr : World) (hb : Below (w.heap.size + 1) (w.alloc (.cells #[.slice A1 S.length c1, .slice A2 G.length c2, .slice A3 H.length c3, .slice A4 Q.length c4] 26)) wr) (r : Rl) => hasRefG A3 c3 H r wr n3 (h3.below (hb0.trans (hb.mono (by omega)))))
  have HB0 := Lib.hid (fun (wr : World) (hb : Below (w.heap.size + 1) (w.alloc (.cells #[.slice A1 S.length c1, .slice A2 G.length c2, .slice A3 H.length c3, .slice A4 Q.length c4] 26)) wr) => hb0.trans (hb.mono (by omega)))
  clear hb0 h1 h3
  go_enter Tryz.func15, Tryz.ntmps15
  go_wp2_with fail
  go_loopw [3, 9] (fun v i wr => ∃ k : Nat, k ≤ S.length ∧ i = .int .i64 k ∧ Hid (wr.ownsRow (w.heap.size + 1) 55 9 v (M k).length (stCells (M k))) ∧ Below (w.heap.size + 1) (w.alloc (.cells #[.slice A1 S.length c1, .slice A2 G.length c2, .slice A3 H.length c3, .slice A4 Q.length c4] 26)) wr) (fun _ i _ => S.length - (intOf i).toNat)
  case atStart => exact ⟨0, by omega, rfl, Lib.hid (by rw [H0.out]; exact World.ownsRow_nil _ _ _ _), Below.refl _ _⟩
  case round =>
    obtain ⟨k, hk, rfl, hown, hbel⟩ := hrel
    have hszr : w.heap.size + 1 ≤ wr.heap.size := by have := hbel.size; simpa using this
    by_cases hlt : k < S.length
    · have d1 : decide ((k : Int) < S.length) = true := by simp; omega
      obtain ⟨g, o, rfl, hg, hc⟩ := (HA.out wr hbel) (by omega)
      obtain ⟨a0, a1, a2, a3, a4, a5, a6, a7, a8⟩ := hc k hlt
      have HYk := Lib.hid (HY.out k hlt)
      have HNk := Lib.hid (HN.out k hlt)
      have hlk := HL.out k
      have p1 : (0 : Int) ≤ k := by omega
      have p2 : (k : Int) < S.length := by omega
      clear hc
      generalize S[k] = s at *
      obtain ⟨kd, ⟨ho, hn⟩, wh, ⟨ao, an⟩, ⟨bo, bn⟩, vi⟩ := s
      simp only at a0 a1 a2 a3 a4 a5 a6 a7 a8 HYk HNk
      have hnw := heap_alloc_new wr (.cells #[.int .i64 kd, .string ho, .string hn, .string wh, .string ao, .string an, .string bo, .string bn, .string vi] 55)
      have hbn := hbel.alloc hszr (.cells #[.int .i64 kd, .string ho, .string hn, .string wh, .string ao, .string an, .string bo, .string bn, .string vi] 55)
      have hown3 := own_at hown.out ((Below.refl wr.heap.size wr).alloc (Nat.le_refl _) (.cells #[.int .i64 kd, .string ho, .string hn, .string wh, .string ao, .string an, .string bo, .string bn, .string vi] 55))
      go_upto_region 5 with fail
      obtain ⟨w2, hw2⟩ : ∃ x, wr.alloc (.cells #[.int .i64 kd, .string ho, .string hn, .string wh, .string ao, .string an, .string bo, .string bn, .string vi] 55) = x := ⟨_, rfl⟩
      obtain ⟨bx, hbx⟩ : ∃ bx, wr.heap.size = bx := ⟨_, rfl⟩
      rw [hw2] at hnw hbn hown3 ⊢
      rw [hbx] at hnw ⊢
      have cs := fun o => Lib.cell_of_heap hnw o
      have cb := HS.out w2 hbn
      have HB2 := Lib.hid hbn
      have hz2' : w.heap.size + 1 ≤ w2.heap.size := by have := hbn.size; simpa using this
      have hbl : bx < w2.heap.size := (Array.getElem?_eq_some_iff.1 hnw).1
      have HC := Lib.hid (HH.out w2 hbn ⟨ho, hn⟩)
      unfold Rl.val at HC
      dsimp only at HC
      have HO2 := Lib.hid hown3
      have HNW := Lib.hid hnw
      clear hw2 hbx a0 a1 a2 a3 a4 a5 a6 a7 a8 hnw hbn hown hbel hown3
      cases hm : decide ((⟨ho, hn⟩ : Rl) ∈ H)
      · rw [hm] at HC
        have HE := Lib.hid (HNk.out hm)
        clear HYk HNk
        go_wp2_with fail
        refine HC.out.mono ?_
        rintro e w3 ⟨rfl, hb3⟩
        have HO3 := Lib.hid (own_at HO2.out hb3)
        have HB3 := Lib.hid (HB2.out.trans (hb3.mono hz2'))
        clear hb3 HC cs cb HO2
        go_wp2_with fail
        go_roundw
        case rel => exact ⟨k + 1, by omega, by go_num, Lib.hid (by rw [HE.out]; exact HO3.out), HB3.out⟩
        case measure => simp [intOf]; omega
      · rw [hm] at HC
        have HE := Lib.hid (HYk.out hm)
        clear HYk HNk
        go_wp2_with fail
        refine HC.out.mono ?_
        rintro e w3 ⟨rfl, hb3⟩
        have hown3 := own_at HO2.out hb3
        have HB3 := Lib.hid (HB2.out.trans (hb3.mono hz2'))
        have hc3 := (hb3.block bx hbl).trans HNW.out
        have cs3 := fun o => Lib.cell_of_heap hc3 o
        have hz3 := hb3.size
        clear hb3 HC cs cb HO2 hc3
        go_wp2_with (at_builtin; refine wpList_append_own _ rfl _ _ 22 rfl (w.heap.size + 1) 55 i0 zeroS.val 9 136 Tryz.underlying22 hi hz0 hz1 hz2 rfl (by decide) _ _ _ rfl (hown3.alloc _) ⟨w3.heap.size, 0, none⟩ 1 1 [.int .i64 kd, .string ho, .string hn, .string wh, .string ao, .string an, .string bo, .string bn, .string vi] rfl rfl ?c1 ?c2 ?c3 ?c4 ?c5 ?_)
        case c1 => exact new_cells _ _ _
        case c2 => intro u hu; simp at hu; rcases hu with rfl | rfl | rfl | rfl | rfl | rfl | rfl | rfl | rfl <;> rfl
        case c3 => unfold maxLen; omega
        case c4 => omega
        case c5 => simp; omega
        intro v' w5 hown' hgrow _
        have HO5 : Hid (w5.ownsRow (w.heap.size + 1) 55 9 v' (M (k + 1)).length (stCells (M (k + 1)))) := Lib.hid (by
          rw [HE.out, snoc_cells, List.length_append]
          exact hown')
        have HB5 := Lib.hid (LwC.below_own HB3.out (Nat.le_refl _) hown3 hgrow (by omega))
        clear hown' hown3 hgrow cs3
        go_wp2_with fail
        go_roundw
        case rel => exact ⟨k + 1, by omega, by go_num, HO5, HB5.out⟩
        case measure => simp [intOf]; omega
    · have d1 : decide ((k : Int) < S.length) = false := by simp; omega
      have hkS : k = S.length := by omega
      subst hkS
      have hown2 := hown.out
      rw [HD.out] at hown2
      obtain ⟨A, c, hv, hsg⟩ := sg_own hown2
      have HSG := Lib.hid hsg
      have HF := Lib.hid (HB0.out wr hbel)
      clear hown hown2 hbel hsg
      subst hv
      go_wp2_with fail
      go_ret
      exact ⟨_, _, rfl, HSG.out, HF.out⟩
end Go.Proofs.YtcmdiomjhideiaaGreatDoor.LwF
/- The document's Reaches, by contract; it answers what the program's does. -/
namespace Go.Proofs.YtcmdiomjhideiaaGreatDoor.StJ
set_option linter.unusedVariables false
set_option linter.unusedSimpArgs false
open Go.Shelf Go.RowKit Go.Sort Go.Lib Go.Proofs Go.Proofs.YtcmdiomjhideiaaGreatDoor.Plain Go.Proofs.YtcmdiomjhideiaaGreatDoor.SynP Go.Proofs.YtcmdiomjhideiaaGreatDoor.Grown Go.Proofs.YtcmdiomjhideiaaGreatDoor.SynC Go.Proofs.YtcmdiomjhideiaaGreatDoor.SynD Go.Proofs.YtcmdiomjhideiaaGreatDoor.SynD2 Go.Proofs.YtcmdiomjhideiaaGreatDoor.SynD3 Go.Proofs.YtcmdiomjhideiaaGreatDoor.QryP Go.Proofs.YtcmdiomjhideiaaGreatDoor.PolA Go.Proofs.YtcmdiomjhideiaaGreatDoor.PolE Go.Proofs.YtcmdiomjhideiaaGreatDoor.StA Go.Proofs.YtcmdiomjhideiaaGreatDoor.StB Go.Proofs.YtcmdiomjhideiaaGreatDoor.StC Go.Proofs.YtcmdiomjhideiaaGreatDoor.StD Go.Proofs.YtcmdiomjhideiaaGreatDoor.StE Go.Proofs.YtcmdiomjhideiaaGreatDoor.StF Go.Proofs.YtcmdiomjhideiaaGreatDoor.StG Go.Proofs.YtcmdiomjhideiaaGreatDoor.StH Go.Proofs.YtcmdiomjhideiaaGreatDoor.StI
set_option linter.unusedVariables false
set_option linter.unusedSimpArgs false
def ok1 (S : List St) (G : List Rl) (s : St) : Bool := s.right && (decide (s ∈ S) || !decide (s.head ∈ G))
def ok2 (C : List St) (H : List Rl) (s : St) : Bool := !decide (s.head ∈ H) || decide (s ∈ C)
theorem reach_ref (p : Py) (C : List St) : reach p C = (C.all (ok1 p.stmts p.grow) && p.stmts.all (ok2 C p.shrink)) := by
  unfold reach
  congr 1
  · congr 1
    funext s
    unfold ok1 come
    cases s.right <;> simp
  · rw [Bool.eq_iff_iff, List.all_eq_true, List.all_eq_true]
    constructor
    · intro h s hs
      unfold ok2
      by_cases hc : s ∈ C
      · simp [hc]
      · have := h s (List.mem_filter.2 ⟨sort_mem.2 hs, by simp [hc]⟩)
        unfold go_ at this
        simp [this]
    · intro h s hs
      obtain ⟨h1, h2⟩ := List.mem_filter.1 hs
      have := h s (sort_mem.1 h1)
      unfold ok2 at this
      unfold go_
      simp at h2
      simpa [h2] using this
theorem all_false {α : Type} {T : List α} {q : α → Bool} {j : Nat} (h : j < T.length) (hq : q T[j] = false) : T.all q = false := by
  rw [Bool.eq_false_iff]
  intro ha
  rw [List.all_eq_true] at ha
  rw [ha _ (List.getElem_mem h)] at hq
  cases hq
theorem all_true {α : Type} {T : List α} {q : α → Bool} {j : Nat} (hj : T.length ≤ j) (h : ∀ k, k < j → ∀ hk : k < T.length, q T[k] = true) : T.all q = true := by
  rw [List.all_eq_true]
  intro x hx
  obtain ⟨k, hk, rfl⟩ := List.getElem_of_mem hx
  exact h k (by omega) hk
set_option maxHeartbeats 2000000 in
set_option maxRecDepth 100000 in
theorem refReaches (p : Py) (A1 A2 A3 A4 B : Option Addr) (c1 c2 c3 c4 cb : Nat) (C : List St) (w : World) (n1 : p.stmts.length ≤ 1000) (n2 : p.grow.length ≤ 1000) (n3 : p.shrink.length ≤ 1000) (n4 : C.length ≤ 1000) (h1 : SG w A1 p.stmts) (h2 : RG w A2 p.grow) (h3 : RG w A3 p.shrink) (hB : SG w B C) (f2 : ∀ s ∈ C, s.fit) :
    Calls Tryz.prog 30 #[p.val A1 A2 A3 A4 c1 c2 c3 c4, .slice B C.length cb] w fun e w' => e = .returned (.bool (reach p C)) ∧ Below w.heap.size w w' := by
  rw [reach_ref]
  obtain ⟨S, G, H, Q⟩ := p
  dsimp only at n1 n2 n3 h1 h2 h3 ⊢
  obtain ⟨ans, hans⟩ : ∃ ans, (C.all (ok1 S G) && S.all (ok2 C H)) = ans := ⟨_, rfl⟩
  rw [hans]
  have HN1 : Hid (∀ j, (h : j < C.length) → ok1 S G C[j] = false → ans = false) := Lib.hid (fun j h hq => by rw [← hans, all_false h hq]; rfl)
  have HN2 : Hid (∀ j, (h : j < S.length) → ok2 C H S[j] = false → ans = false) := Lib.hid (fun j h hq => by rw [← hans, all_false h hq, Bool.and_false])
  have HY : Hid ((∀ k, k < C.length → ∀ hk : k < C.length, ok1 S G C[k] = true) → (∀ k, k < S.length → ∀ hk : k < S.length, ok2 C H S[k] = true) → ans = true) := Lib.hid (fun a b => by rw [← hans, all_true (Nat.le_refl _) a, all_true (Nat.le_refl _) b]; rfl)
  obtain ⟨hbX, d0⟩ := StG.one w A1 A2 A3 A4 c1 c2 c3 c4 S G H Q
  have hX := heap_alloc_new w (.cells #[.slice A1 S.length c1, .slice A2 G.length c2, .slice A3 H.length c3, .slice A4 Q.length c4] 26)
  have HB0 := Lib.hid hbX
  have HX := Lib.hid hX
  have H1 := Lib.hid (fun w' (hb : Below w.heap.size w w') => h1.below hb)
  have H2 := Lib.hid (fun w' (hb : Below w.heap.size w w') => h2.below hb)
  have H3 := Lib.hid (fun w' (hb : Below w.heap.size w w') => h3.below hb)
  have H4 := Lib.hid (fun w' (hb : Below w.heap.size w w') => hB.below hb)
  have HF := Lib.hid f2
  clear hbX hX h1 h2 h3 hB f2 hans
  show Calls _ _ #[.agg #[.slice A1 S.length c1, .slice A2 G.length c2, .slice A3 H.length c3, .slice A4 Q.length c4], _] _ _
  go_enter Tryz.func30, Tryz.ntmps30
  go_upto_region 1 with fail
  obtain ⟨b0, hb0⟩ : ∃ b0, w.heap.size = b0 := ⟨_, rfl⟩
  rw [hb0] at HX d0
  simp only [hb0] at ⊢
  generalize w.alloc (.cells #[.slice A1 S.length c1, .slice A2 G.length c2, .slice A3 H.length c3, .slice A4 Q.length c4] 26) = w0 at *
  have HD := Lib.hid (fun w' (hb : Below w0.heap.size w0 w') (o : Nat) => Lib.cell_of_heap ((hb.block b0 (Array.getElem?_eq_some_iff.1 HX.out).1).trans HX.out) o)
  clear hb0 HX
  go_wp2_with fail
  clear d0
  go_loopw [11] (fun i wr => ∃ j : Nat, j ≤ C.length ∧ i = .int .i64 j ∧ Below w0.heap.size w0 wr ∧ Hid (∀ k, k < j → ∀ hk : k < C.length, ok1 S G C[k] = true)) (fun i _ => C.length - (intOf i).toNat)
  case atStart => exact ⟨0, by omega, rfl, Below.refl _ _, Lib.hid (fun k hk => by omega)⟩
  case round =>
    obtain ⟨j, hj, rfl, hb, hall⟩ := hrel
    by_cases hlt : j < C.length
    · have e1 : decide ((j : Int) < C.length) = true := by simp; omega
      obtain ⟨g, o, rfl, hg, hc⟩ := H4.out _ (nx HB0.out hb) (by omega)
      obtain ⟨a0, a1, a2, a3, a4, a5, a6, a7, a8⟩ := hc j hlt
      have p1 : (0 : Int) ≤ j := by omega
      have p2 : (j : Int) < C.length := by omega
      have HNo := Lib.hid (HN1.out j hlt)
      have HNx : Hid (ok1 S G C[j] = true → ∀ k, k < j + 1 → ∀ hk : k < C.length, ok1 S G C[k] = true) := Lib.hid (fun h k hk hk2 => by
        by_cases e : k = j
        · subst e; exact h
        · exact hall.out k (by omega) hk2)
      have hfx := HF.out C[j] (List.getElem_mem hlt)
      have HR := Lib.hid (fun w' => Syn9.rightRef C[j] w' hfx)
      have HH := Lib.hid (fun w' (h : SG w' A1 S) => hasG A1 c1 S C[j] w' n1 h)
      have HG := Lib.hid (fun w' (h : RG w' A2 G) => hasRefG A2 c2 G C[j].head w' n2 h)
      have HB := Lib.hid hb
      clear hc hb hg hall hfx
      unfold ok1 at HNo
      have HNx2 : Hid ((C[j].right && (decide (C[j] ∈ S) || !decide (C[j].head ∈ G))) = true → ∀ k, k < j + 1 → ∀ hk : k < C.length, ok1 S G C[k] = true) := HNx
      clear HNx
      generalize C[j] = x at *
      generalize x.right = r at *
      obtain ⟨k1, ⟨ho, hn⟩, wh, ⟨ao, an⟩, ⟨bo, bn⟩, v1⟩ := x
      unfold St.val at HH HR
      unfold Rl.val at HG
      dsimp only at HH HR HG HNo HNx2 a0 a1 a2 a3 a4 a5 a6 a7 a8
      generalize decide ((⟨k1, ⟨ho, hn⟩, wh, ⟨ao, an⟩, ⟨bo, bn⟩, v1⟩ : St) ∈ S) = d at *
      generalize decide ((⟨ho, hn⟩ : Rl) ∈ G) = m at *
      have hbX := below_alloc wr (.cells #[.int .i64 k1, .string ho, .string hn, .string wh, .string ao, .string an, .string bo, .string bn, .string v1] 55)
      have HX := Lib.hid (heap_alloc_new wr (.cells #[.int .i64 k1, .string ho, .string hn, .string wh, .string ao, .string an, .string bo, .string bn, .string v1] 55))
      have HBX := Lib.hid (nx HB.out hbX)
      have hz : (wr.alloc (.cells #[.int .i64 k1, .string ho, .string hn, .string wh, .string ao, .string an, .string bo, .string bn, .string v1] 55)).heap.size = wr.heap.size + 1 := by simp
      clear hbX
      go_upto_region 4 with fail
      obtain ⟨bx, hbx⟩ : ∃ bx, wr.heap.size = bx := ⟨_, rfl⟩
      rw [hbx] at HX hz
      simp only [hbx] at ⊢
      generalize wr.alloc (.cells #[.int .i64 k1, .string ho, .string hn, .string wh, .string ao, .string an, .string bo, .string bn, .string v1] 55) = w1 at *
      have HC := Lib.hid (fun w' (hb : Below w1.heap.size w1 w') (o : Nat) => Lib.cell_of_heap ((hb.block bx (by omega)).trans HX.out) o)
      have cx := HC.out w1 (Below.refl _ _)
      clear a0 a1 a2 a3 a4 a5 a6 a7 a8 hbx hz HX
      cases r with
      | false =>
        have hno := HNo.out (by simp)
        go_wp2_with fail
        refine (HR.out _).mono ?_
        rintro e w2 ⟨rfl, hg2⟩
        have HB2 := Lib.hid (nx HB0.out (nx HBX.out hg2.below))
        clear hg2 cx HR HH HG
        go_wp2_with fail
        go_ret
        exact ⟨ret_bool hno.symm, HB2.out⟩
      | true =>
        go_wp2_with fail
        refine (HR.out _).mono ?_
        rintro e w2 ⟨rfl, hg2⟩
        have HB2 := Lib.hid (nx HBX.out hg2.below)
        have cx2 := HC.out w2 hg2.below
        have d2 := HD.out w2 HB2.out
        have HH2 := Lib.hid (HH.out w2 (H1.out _ (nx HB0.out HB2.out)))
        have HC2 := Lib.hid (fun w' (hb : Below w2.heap.size w2 w') => HC.out w' (nx hg2.below hb))
        clear hg2 cx HR HH HC
        cases d with
        | true =>
          have hnx := HNx2.out (by simp)
          go_wp2_with fail
          refine HH2.out.mono ?_
          rintro e w3 ⟨rfl, hb3⟩
          have HB3 := Lib.hid (nx HB2.out hb3)
          clear hb3 cx2 d2 HH2 HG
          go_wp2_with fail
          go_roundw
          case rel => exact ⟨j + 1, by omega, by go_num, HB3.out, Lib.hid hnx⟩
          case measure => simp [intOf]; omega
        | false =>
          go_wp2_with fail
          refine HH2.out.mono ?_
          rintro e w3 ⟨rfl, hb3⟩
          have HB3 := Lib.hid (nx HB2.out hb3)
          have cx3 := HC2.out w3 hb3
          have d3 := HD.out w3 HB3.out
          have HG3 := Lib.hid (HG.out w3 (H2.out _ (nx HB0.out HB3.out)))
          clear hb3 cx2 d2 HH2 HG
          cases m with
          | true =>
            have hno := HNo.out (by simp)
            go_wp2_with fail
            refine HG3.out.mono ?_
            rintro e w4 ⟨rfl, hb4⟩
            have HB4 := Lib.hid (nx HB0.out (nx HB3.out hb4))
            clear hb4 cx3 d3 HG3
            go_wp2_with fail
            go_ret
            exact ⟨ret_bool hno.symm, HB4.out⟩
          | false =>
            have hnx := HNx2.out (by simp)
            go_wp2_with fail
            refine HG3.out.mono ?_
            rintro e w4 ⟨rfl, hb4⟩
            have HB4 := Lib.hid (nx HB3.out hb4)
            clear hb4 cx3 d3 HG3
            go_wp2_with fail
            go_roundw
            case rel => exact ⟨j + 1, by omega, by go_num, HB4.out, Lib.hid hnx⟩
            case measure => simp [intOf]; omega
    · have e1 : decide ((j : Int) < C.length) = false := by simp; omega
      have HY2 : Hid ((∀ k, k < S.length → ∀ hk : k < S.length, ok2 C H S[k] = true) → ans = true) := Lib.hid (HY.out (fun k hk hk2 => hall.out k (by omega) hk2))
      have HBj := Lib.hid hb
      have d1 := HD.out _ hb
      clear hall hb HY HN1 H2
      go_wp2_with fail
      clear d1
      go_loopw [34] (fun i wr => ∃ j : Nat, j ≤ S.length ∧ i = .int .i64 j ∧ Below w0.heap.size w0 wr ∧ Hid (∀ k, k < j → ∀ hk : k < S.length, ok2 C H S[k] = true)) (fun i _ => S.length - (intOf i).toNat)
      case atStart => exact ⟨0, by omega, rfl, HBj.out, Lib.hid (fun k hk => by omega)⟩
      case round =>
        obtain ⟨j2, hj2, rfl, hb, hall⟩ := hrel
        by_cases hlt2 : j2 < S.length
        · have e2 : decide ((j2 : Int) < S.length) = true := by simp; omega
          obtain ⟨g, o, rfl, hg, hc⟩ := H1.out _ (nx HB0.out hb) (by omega)
          obtain ⟨a0, a1, a2, a3, a4, a5, a6, a7, a8⟩ := hc j2 hlt2
          have p1 : (0 : Int) ≤ j2 := by omega
          have p2 : (j2 : Int) < S.length := by omega
          have HNo := Lib.hid (HN2.out j2 hlt2)
          have HNx : Hid (ok2 C H S[j2] = true → ∀ k, k < j2 + 1 → ∀ hk : k < S.length, ok2 C H S[k] = true) := Lib.hid (fun h k hk hk2 => by
            by_cases e : k = j2
            · subst e; exact h
            · exact hall.out k (by omega) hk2)
          have HG := Lib.hid (fun w' (h : RG w' A3 H) => hasRefG A3 c3 H S[j2].head w' n3 h)
          have HH := Lib.hid (fun w' (h : SG w' B C) => hasG B cb C S[j2] w' n4 h)
          have HB := Lib.hid hb
          clear hc hb hg hall
          unfold ok2 at HNo
          have HNx2 : Hid ((!decide (S[j2].head ∈ H) || decide (S[j2] ∈ C)) = true → ∀ k, k < j2 + 1 → ∀ hk : k < S.length, ok2 C H S[k] = true) := HNx
          clear HNx
          generalize S[j2] = x at *
          obtain ⟨k1, ⟨ho, hn⟩, wh, ⟨ao, an⟩, ⟨bo, bn⟩, v1⟩ := x
          unfold St.val at HH
          unfold Rl.val at HG
          dsimp only at HH HG HNo HNx2 a0 a1 a2 a3 a4 a5 a6 a7 a8
          generalize decide ((⟨k1, ⟨ho, hn⟩, wh, ⟨ao, an⟩, ⟨bo, bn⟩, v1⟩ : St) ∈ C) = d at *
          generalize decide ((⟨ho, hn⟩ : Rl) ∈ H) = m at *
          have hbX := below_alloc wr (.cells #[.int .i64 k1, .string ho, .string hn, .string wh, .string ao, .string an, .string bo, .string bn, .string v1] 55)
          have HX := Lib.hid (heap_alloc_new wr (.cells #[.int .i64 k1, .string ho, .string hn, .string wh, .string ao, .string an, .string bo, .string bn, .string v1] 55))
          have HBX := Lib.hid (nx HB.out hbX)
          have hz : (wr.alloc (.cells #[.int .i64 k1, .string ho, .string hn, .string wh, .string ao, .string an, .string bo, .string bn, .string v1] 55)).heap.size = wr.heap.size + 1 := by simp
          clear hbX
          go_upto_region 12 with fail
          obtain ⟨bx, hbx⟩ : ∃ bx, wr.heap.size = bx := ⟨_, rfl⟩
          rw [hbx] at HX hz
          simp only [hbx] at ⊢
          generalize wr.alloc (.cells #[.int .i64 k1, .string ho, .string hn, .string wh, .string ao, .string an, .string bo, .string bn, .string v1] 55) = w1 at *
          have HC := Lib.hid (fun w' (hb : Below w1.heap.size w1 w') (o : Nat) => Lib.cell_of_heap ((hb.block bx (by omega)).trans HX.out) o)
          have cx := HC.out w1 (Below.refl _ _)
          have dx := HD.out w1 HBX.out
          have HG2 := Lib.hid (HG.out w1 (H3.out _ (nx HB0.out HBX.out)))
          clear a0 a1 a2 a3 a4 a5 a6 a7 a8 hbx hz HX HG
          cases m with
          | false =>
            have hnx := HNx2.out (by simp)
            go_wp2_with fail
            refine HG2.out.mono ?_
            rintro e w2 ⟨rfl, hb2⟩
            have HB2 := Lib.hid (nx HBX.out hb2)
            clear hb2 cx dx HG2 HH
            go_wp2_with fail
            go_roundw
            case rel => exact ⟨j2 + 1, by omega, by go_num, HB2.out, Lib.hid hnx⟩
            case measure => simp [intOf]; omega
          | true =>
            go_wp2_with fail
            refine HG2.out.mono ?_
            rintro e w2 ⟨rfl, hb2⟩
            have HB2 := Lib.hid (nx HBX.out hb2)
            have cx2 := HC.out w2 hb2
            have HH2 := Lib.hid (HH.out w2 (H4.out _ (nx HB0.out HB2.out)))
            clear hb2 cx dx HG2 HH
            cases d with
            | true =>
              have hnx := HNx2.out (by simp)
              go_wp2_with fail
              refine HH2.out.mono ?_
              rintro e w3 ⟨rfl, hb3⟩
              have HB3 := Lib.hid (nx HB2.out hb3)
              clear hb3 cx2 HH2
              go_wp2_with fail
              go_roundw
              case rel => exact ⟨j2 + 1, by omega, by go_num, HB3.out, Lib.hid hnx⟩
              case measure => simp [intOf]; omega
            | false =>
              have hno := HNo.out (by simp)
              go_wp2_with fail
              refine HH2.out.mono ?_
              rintro e w3 ⟨rfl, hb3⟩
              have HB3 := Lib.hid (nx HB0.out (nx HB2.out hb3))
              clear hb3 cx2 HH2
              go_wp2_with fail
              go_ret
              exact ⟨ret_bool hno.symm, HB3.out⟩
        · have e2 : decide ((j2 : Int) < S.length) = false := by simp; omega
          have hy := HY2.out (fun k hk hk2 => hall.out k (by omega) hk2)
          have HB := Lib.hid (nx HB0.out hb)
          clear hall hb
          go_wp2_with fail
          go_ret
          exact ⟨ret_bool hy.symm, HB.out⟩
end Go.Proofs.YtcmdiomjhideiaaGreatDoor.StJ
