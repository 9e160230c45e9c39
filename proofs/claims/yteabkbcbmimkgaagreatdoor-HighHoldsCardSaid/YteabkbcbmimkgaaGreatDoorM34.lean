/- Who follows by a statement to be in its head, of what was found, by contract. -/
import Derived.Test.YteabkbcbmimkgaaGreatDoorM33
import Derived.Test.YteabkbcbmimkgaaGreatDoorM12
import Derived.Test.YteabkbcbmimkgaaGreatDoorM20
import Derived.Test.YteabkbcbmimkgaaGreatDoorM26
import Derived.Test.YteabkbcbmimkgaaGreatDoorM27
set_option linter.unusedVariables false
set_option linter.unusedSimpArgs false
namespace Go.Proofs.YteabkbcbmimkgaaGreatDoor.LwC
open Go.RowKit Go.Sort Go.Lib Go.Proofs Plain SynP Tab3 Tab4 PolG LwA LwB
def FolPost (F : List ByteArray) (w : World) (e : Ending) (w' : World) : Prop := ∃ v, e = .returned v ∧ w'.ownsRow w.heap.size 9 1 v F.length (F.map Value.string) ∧ Below w.heap.size w w'
theorem nx {W w1 w2 : World} (h : Below W.heap.size W w1) (hb : Below w1.heap.size w1 w2) : Below W.heap.size W w2 := h.trans (hb.mono h.size)
theorem below_own {a w w1 : World} {e : TypeId} {size n B C : Nat} {v : Value} {xs : List Value} {o : Obj} (hb : Below C a w) (hB : C ≤ B) (hown : w.ownsRow B e size v n xs) (hg : (w.alloc o).grownBy w1 v.ownBlock) (hC : C ≤ w.heap.size) : Below C a w1 :=
  (hb.alloc hC o).grown hg (by simp; omega) (fun k hk => by have := (hown.lt k hk).1; omega)
theorem new_cell1 (w : World) (v : Value) (t : TypeId) : ∀ j u, [v][j]? = some u → (w.alloc (.cells #[v] t)).cell? ((⟨w.heap.size, 0, none⟩ : Addr).add j) = some u := by
  intro j u hu
  rw [LwA.add_off, Nat.zero_add, Lib.cell_of_heap (heap_alloc_new w _) j, ← hu]
  simp
theorem keep_block {w w5 : World} {o : Obj} {B k n : Nat} {e t : TypeId} {v : Value} {xs : List Value} {c : Array Value} {px : Nat} (hown : w.ownsRow B e k v n xs) (hp : w.heap[px]? = some (.cells c t)) (ht : t ≠ e) (hg : (w.alloc o).grownBy w5 v.ownBlock) : w5.heap[px]? = some (.cells c t) := by
  have hlt : px < w.heap.size := (Array.getElem?_eq_some_iff.1 hp).1
  refine (hg.block px (by simp; omega) ?_).trans ((((Below.refl w.heap.size w).alloc (Nat.le_refl _) o).block px hlt).trans hp)
  intro e'
  rcases hown.2 with ⟨rfl, _⟩ | ⟨g, cap, cur, rfl, _, hg2, _⟩
  · simp [Value.ownBlock] at e'
  · simp only [Value.ownBlock, Option.some.injEq] at e'
    subst e'
    rw [hp] at hg2
    injection hg2 with hg2
    injection hg2 with _ h2 _
    exact ht h2
set_option maxHeartbeats 1000000 in
set_option maxRecDepth 100000 in
theorem fol1 (A : Option Addr) (ca n : Nat) (kd : Int) (ho hn wh ao an bo bn vi : ByteArray) (w : World) (hk : kd = 1) :
    Calls Tryz.prog 53 #[.slice A n ca, .agg #[.int .i64 kd, .string ho, .string hn, .string wh, .string ao, .string an, .string bo, .string bn, .string vi]] w (FolPost [wh] w) := by
  subst hk
  unfold FolPost
  go_enter Tryz.func53, Tryz.ntmps53
  go_wp2_with fail
  go_ret
  refine ⟨_, rfl, ⟨rfl, .inr ⟨w.heap.size + 1, 1, #[.string wh], rfl, by omega, ?_, by omega, by unfold maxLen; omega, rfl, rfl⟩⟩, ((Below.refl _ _).alloc (Nat.le_refl _) _).alloc (by simp) _⟩
  exact heap_alloc2_new w _ _
set_option maxHeartbeats 2000000 in
set_option maxRecDepth 100000 in
theorem fol0 (A : Option Addr) (ca : Nat) (L : List Pa) (kd : Int) (ho hn wh ao an bo bn vi : ByteArray) (w : World) (hL : L.length ≤ 100000) (hA : PaG w A L) (hk : kd ≠ 1 ∧ kd ≠ 2 ∧ kd ≠ 3 ∧ kd ≠ 4) :
    Calls Tryz.prog 53 #[.slice A L.length ca, .agg #[.int .i64 kd, .string ho, .string hn, .string wh, .string ao, .string an, .string bo, .string bn, .string vi]] w (FolPost (folL L L (⟨kd, ⟨ho, hn⟩, wh, ⟨ao, an⟩, ⟨bo, bn⟩, vi⟩ : St)) w) := by
  unfold FolPost
  have k1 : (kd == 1) = false := by simp; omega
  have k2 : (kd == 2) = false := by simp; omega
  have k3 : (kd == 3) = false := by simp; omega
  have k4 : (kd == 4) = false := by simp; omega
  have HK := Lib.hid hk
  have hb0 : Below w.heap.size w (w.alloc (.cells #[.int .i64 kd, .string ho, .string hn, .string wh, .string ao, .string an, .string bo, .string bn, .string vi] 78)) := (Below.refl _ _).alloc (Nat.le_refl _) _
  have hsz0 : (w.alloc (.cells #[.int .i64 kd, .string ho, .string hn, .string wh, .string ao, .string an, .string bo, .string bn, .string vi] 78)).heap.size = w.heap.size + 1 := by simp
  have HS := Lib.hid (fun (wr : World) (hb : Below (w.heap.size + 1) (w.alloc (.cells #[.int .i64 kd, .string ho, .string hn, .string wh, .string ao, .string an, .string bo, .string bn, .string vi] 78)) wr) (o : Nat) => (hb.cell (p := ⟨w.heap.size, o, none⟩) (by show w.heap.size < _; omega)).trans (Lib.cell_of_heap (heap_alloc_new w _) o))
  have HA := Lib.hid (fun (wr : World) (hb : Below (w.heap.size + 1) (w.alloc (.cells #[.int .i64 kd, .string ho, .string hn, .string wh, .string ao, .string an, .string bo, .string bn, .string vi] 78)) wr) => hA.below (hb0.trans (hb.mono (by omega))))
  have HB0 := Lib.hid (fun (wr : World) (hb : Below (w.heap.size + 1) (w.alloc (.cells #[.int .i64 kd, .string ho, .string hn, .string wh, .string ao, .string an, .string bo, .string bn, .string vi] 78)) wr) => hb0.trans (hb.mono (by omega)))
  have HIn : Hid (∀ (wr : World) (x : ByteArray), PaG wr A L → Calls Tryz.prog 54 #[.slice A L.length ca, .agg #[.string bo, .string bn], .string x] wr fun e w' => e = .returned (.bool (decide ((⟨⟨bo, bn⟩, x⟩ : Pa) ∈ L))) ∧ Below wr.heap.size wr w') := Lib.hid (fun wr x h => inR A ca L ⟨bo, bn⟩ x wr (by omega) h)
  have HFl := Lib.hid (fun j (hj : j ≤ L.length) => (show (folL L (L.take j) (⟨kd, ⟨ho, hn⟩, wh, ⟨ao, an⟩, ⟨bo, bn⟩, vi⟩ : St)).length ≤ 100000 * 100001 from Nat.le_trans (fol_len L (⟨kd, ⟨ho, hn⟩, wh, ⟨ao, an⟩, ⟨bo, bn⟩, vi⟩ : St) (L.take j)) (Nat.mul_le_mul (by rw [List.length_take]; omega) (by omega))))
  obtain ⟨i0, hi, hz0, hz1, hz2⟩ := info_parts infoStr
  clear hA hb0 hsz0 hk
  go_enter Tryz.func53, Tryz.ntmps53
  go_wp2_with fail
  go_loopw [5, 18] (fun v i wr => ∃ j : Nat, j ≤ L.length ∧ i = .int .i64 j ∧ Hid (wr.ownsRow (w.heap.size + 1) 9 1 v (folL L (L.take j) (⟨kd, ⟨ho, hn⟩, wh, ⟨ao, an⟩, ⟨bo, bn⟩, vi⟩ : St)).length ((folL L (L.take j) (⟨kd, ⟨ho, hn⟩, wh, ⟨ao, an⟩, ⟨bo, bn⟩, vi⟩ : St)).map Value.string)) ∧ Below (w.heap.size + 1) (w.alloc (.cells #[.int .i64 kd, .string ho, .string hn, .string wh, .string ao, .string an, .string bo, .string bn, .string vi] 78)) wr) (fun _ i _ => L.length - (intOf i).toNat)
  case atStart => exact ⟨0, by omega, rfl, Lib.hid (by simpa [folL] using World.ownsRow_nil _ _ _ _), Below.refl _ _⟩
  case round =>
    obtain ⟨j, hj, rfl, hown, hbel⟩ := hrel
    have hszr : w.heap.size + 1 ≤ wr.heap.size := by have := hbel.size; simpa using this
    by_cases hlt : j < L.length
    · have d1 : decide ((j : Int) < L.length) = true := by simp; omega
      obtain ⟨g, o, rfl, hg, hc⟩ := (HA.out wr hbel) (by omega)
      obtain ⟨a0, a1, a2⟩ := hc j hlt
      have HNx := Lib.hid (fol_succ L (⟨kd, ⟨ho, hn⟩, wh, ⟨ao, an⟩, ⟨bo, bn⟩, vi⟩ : St) hlt)
      have hfl := HFl.out j hj
      have p1 : (0 : Int) ≤ j := by omega
      have p2 : (j : Int) < L.length := by omega
      clear hc
      generalize L[j] = p at *
      obtain ⟨⟨xo, xn⟩, xw⟩ := p
      simp only at a0 a1 a2
      have hnw := heap_alloc_new wr (.cells #[.string xo, .string xn, .string xw] 83)
      have hbn := hbel.alloc hszr (.cells #[.string xo, .string xn, .string xw] 83)
      have hown3 := own_at hown.out ((Below.refl wr.heap.size wr).alloc (Nat.le_refl _) (.cells #[.string xo, .string xn, .string xw] 83))
      go_upto_region 7 with fail
      obtain ⟨w2, hw2⟩ : ∃ x, wr.alloc (.cells #[.string xo, .string xn, .string xw] 83) = x := ⟨_, rfl⟩
      rw [hw2] at hnw hbn hown3 ⊢
      have cs := fun o => Lib.cell_of_heap hnw o
      have cb := HS.out w2 hbn
      have HB2 := Lib.hid hbn
      have hz : w.heap.size + 1 ≤ w2.heap.size := by have := hbn.size; simpa using this
      have hltw : wr.heap.size < w2.heap.size := (Array.getElem?_eq_some_iff.1 hnw).1
      have hnw2 := hnw
      clear hw2 a0 a1 a2 hnw hbn hown hbel
      have hq := fun w => SynE.neR xo xn ao an w
      by_cases hr : (⟨xo, xn⟩ : Rl) = ⟨ao, an⟩
      · rw [decide_eq_true hr] at hq
        have HF : Hid (folL L (L.take (j + 1)) (⟨kd, ⟨ho, hn⟩, wh, ⟨ao, an⟩, ⟨bo, bn⟩, vi⟩ : St) = folL L (L.take j) (⟨kd, ⟨ho, hn⟩, wh, ⟨ao, an⟩, ⟨bo, bn⟩, vi⟩ : St)) := Lib.hid (by rw [HNx.out]; unfold oneL; rw [if_pos hr]; simp only; rw [if_neg HK.out.2.1, if_neg HK.out.2.2.2, if_neg HK.out.2.2.1, List.append_nil])
        have HO3 := Lib.hid hown3
        clear hr HNx hown3
        go_wp2_with fail
        go_roundw
        case rel => exact ⟨j + 1, by omega, by go_num, Lib.hid (by rw [HF.out]; exact HO3.out), HB2.out⟩
        case measure => simp [intOf]; omega
      · rw [decide_eq_false hr] at hq
        have HF : Hid (folL L (L.take (j + 1)) (⟨kd, ⟨ho, hn⟩, wh, ⟨ao, an⟩, ⟨bo, bn⟩, vi⟩ : St) = folL L (L.take j) (⟨kd, ⟨ho, hn⟩, wh, ⟨ao, an⟩, ⟨bo, bn⟩, vi⟩ : St)) := Lib.hid (by rw [HNx.out]; unfold oneL; rw [if_neg hr, List.append_nil])
        have HO3 := Lib.hid hown3
        clear hr HNx hown3
        go_wp2_with fail
        go_roundw
        case rel => exact ⟨j + 1, by omega, by go_num, Lib.hid (by rw [HF.out]; exact HO3.out), HB2.out⟩
        case measure => simp [intOf]; omega
    · have d1 : decide ((j : Int) < L.length) = false := by simp; omega
      have hjL : j = L.length := by omega
      subst hjL
      have hown2 := hown.out
      rw [List.take_length] at hown2
      have HO3 := Lib.hid (own_base hown2 (show w.heap.size ≤ w.heap.size + 1 by omega))
      have HF := Lib.hid (HB0.out wr hbel)
      clear hown hown2
      go_wp2_with fail
      go_ret
      exact ⟨_, rfl, HO3.out, HF.out⟩
set_option maxHeartbeats 2000000 in
set_option maxRecDepth 100000 in
theorem fol2 (A : Option Addr) (ca : Nat) (L : List Pa) (kd : Int) (ho hn wh ao an bo bn vi : ByteArray) (w : World) (hL : L.length ≤ 100000) (hA : PaG w A L) (hk : kd = 2) :
    Calls Tryz.prog 53 #[.slice A L.length ca, .agg #[.int .i64 kd, .string ho, .string hn, .string wh, .string ao, .string an, .string bo, .string bn, .string vi]] w (FolPost (folL L L (⟨kd, ⟨ho, hn⟩, wh, ⟨ao, an⟩, ⟨bo, bn⟩, vi⟩ : St)) w) := by
  unfold FolPost
  have k1 : (kd == 1) = false := by simp; omega
  have k2 : (kd == 2) = true := by simp; omega
  have k3 : (kd == 3) = false := by simp; omega
  have k4 : (kd == 4) = false := by simp; omega
  have HK := Lib.hid hk
  have hb0 : Below w.heap.size w (w.alloc (.cells #[.int .i64 kd, .string ho, .string hn, .string wh, .string ao, .string an, .string bo, .string bn, .string vi] 78)) := (Below.refl _ _).alloc (Nat.le_refl _) _
  have hsz0 : (w.alloc (.cells #[.int .i64 kd, .string ho, .string hn, .string wh, .string ao, .string an, .string bo, .string bn, .string vi] 78)).heap.size = w.heap.size + 1 := by simp
  have HS := Lib.hid (fun (wr : World) (hb : Below (w.heap.size + 1) (w.alloc (.cells #[.int .i64 kd, .string ho, .string hn, .string wh, .string ao, .string an, .string bo, .string bn, .string vi] 78)) wr) (o : Nat) => (hb.cell (p := ⟨w.heap.size, o, none⟩) (by show w.heap.size < _; omega)).trans (Lib.cell_of_heap (heap_alloc_new w _) o))
  have HA := Lib.hid (fun (wr : World) (hb : Below (w.heap.size + 1) (w.alloc (.cells #[.int .i64 kd, .string ho, .string hn, .string wh, .string ao, .string an, .string bo, .string bn, .string vi] 78)) wr) => hA.below (hb0.trans (hb.mono (by omega))))
  have HB0 := Lib.hid (fun (wr : World) (hb : Below (w.heap.size + 1) (w.alloc (.cells #[.int .i64 kd, .string ho, .string hn, .string wh, .string ao, .string an, .string bo, .string bn, .string vi] 78)) wr) => hb0.trans (hb.mono (by omega)))
  have HIn : Hid (∀ (wr : World) (x : ByteArray), PaG wr A L → Calls Tryz.prog 54 #[.slice A L.length ca, .agg #[.string bo, .string bn], .string x] wr fun e w' => e = .returned (.bool (decide ((⟨⟨bo, bn⟩, x⟩ : Pa) ∈ L))) ∧ Below wr.heap.size wr w') := Lib.hid (fun wr x h => inR A ca L ⟨bo, bn⟩ x wr (by omega) h)
  have HFl := Lib.hid (fun j (hj : j ≤ L.length) => (show (folL L (L.take j) (⟨kd, ⟨ho, hn⟩, wh, ⟨ao, an⟩, ⟨bo, bn⟩, vi⟩ : St)).length ≤ 100000 * 100001 from Nat.le_trans (fol_len L (⟨kd, ⟨ho, hn⟩, wh, ⟨ao, an⟩, ⟨bo, bn⟩, vi⟩ : St) (L.take j)) (Nat.mul_le_mul (by rw [List.length_take]; omega) (by omega))))
  obtain ⟨i0, hi, hz0, hz1, hz2⟩ := info_parts infoStr
  clear hA hb0 hsz0 hk
  go_enter Tryz.func53, Tryz.ntmps53
  go_wp2_with fail
  go_loopw [5, 18] (fun v i wr => ∃ j : Nat, j ≤ L.length ∧ i = .int .i64 j ∧ Hid (wr.ownsRow (w.heap.size + 1) 9 1 v (folL L (L.take j) (⟨kd, ⟨ho, hn⟩, wh, ⟨ao, an⟩, ⟨bo, bn⟩, vi⟩ : St)).length ((folL L (L.take j) (⟨kd, ⟨ho, hn⟩, wh, ⟨ao, an⟩, ⟨bo, bn⟩, vi⟩ : St)).map Value.string)) ∧ Below (w.heap.size + 1) (w.alloc (.cells #[.int .i64 kd, .string ho, .string hn, .string wh, .string ao, .string an, .string bo, .string bn, .string vi] 78)) wr) (fun _ i _ => L.length - (intOf i).toNat)
  case atStart => exact ⟨0, by omega, rfl, Lib.hid (by simpa [folL] using World.ownsRow_nil _ _ _ _), Below.refl _ _⟩
  case round =>
    obtain ⟨j, hj, rfl, hown, hbel⟩ := hrel
    have hszr : w.heap.size + 1 ≤ wr.heap.size := by have := hbel.size; simpa using this
    by_cases hlt : j < L.length
    · have d1 : decide ((j : Int) < L.length) = true := by simp; omega
      obtain ⟨g, o, rfl, hg, hc⟩ := (HA.out wr hbel) (by omega)
      obtain ⟨a0, a1, a2⟩ := hc j hlt
      have HNx := Lib.hid (fol_succ L (⟨kd, ⟨ho, hn⟩, wh, ⟨ao, an⟩, ⟨bo, bn⟩, vi⟩ : St) hlt)
      have hfl := HFl.out j hj
      have p1 : (0 : Int) ≤ j := by omega
      have p2 : (j : Int) < L.length := by omega
      clear hc
      generalize L[j] = p at *
      obtain ⟨⟨xo, xn⟩, xw⟩ := p
      simp only at a0 a1 a2
      have hnw := heap_alloc_new wr (.cells #[.string xo, .string xn, .string xw] 83)
      have hbn := hbel.alloc hszr (.cells #[.string xo, .string xn, .string xw] 83)
      have hown3 := own_at hown.out ((Below.refl wr.heap.size wr).alloc (Nat.le_refl _) (.cells #[.string xo, .string xn, .string xw] 83))
      go_upto_region 7 with fail
      obtain ⟨w2, hw2⟩ : ∃ x, wr.alloc (.cells #[.string xo, .string xn, .string xw] 83) = x := ⟨_, rfl⟩
      rw [hw2] at hnw hbn hown3 ⊢
      have cs := fun o => Lib.cell_of_heap hnw o
      have cb := HS.out w2 hbn
      have HB2 := Lib.hid hbn
      have hz : w.heap.size + 1 ≤ w2.heap.size := by have := hbn.size; simpa using this
      have hltw : wr.heap.size < w2.heap.size := (Array.getElem?_eq_some_iff.1 hnw).1
      have hnw2 := hnw
      clear hw2 a0 a1 a2 hnw hbn hown hbel
      have hq := fun w => SynE.neR xo xn ao an w
      by_cases hr : (⟨xo, xn⟩ : Rl) = ⟨ao, an⟩
      · rw [decide_eq_true hr] at hq
        have HF : Hid (folL L (L.take (j + 1)) (⟨kd, ⟨ho, hn⟩, wh, ⟨ao, an⟩, ⟨bo, bn⟩, vi⟩ : St) = folL L (L.take j) (⟨kd, ⟨ho, hn⟩, wh, ⟨ao, an⟩, ⟨bo, bn⟩, vi⟩ : St) ++ [xw]) := Lib.hid (by rw [HNx.out]; unfold oneL; rw [if_pos hr]; simp only; rw [if_pos HK.out])
        clear hr HNx
        go_wp2_with (at_builtin; refine wpList_append_own _ rfl _ _ 43 rfl (w.heap.size + 1) 9 i0 (.string ⟨#[]⟩) 1 16 Tryz.underlying43 hi hz0 hz1 hz2 rfl (by decide) _ _ _ rfl (hown3.alloc _) ⟨w2.heap.size, 0, none⟩ 1 1 [.string xw] rfl rfl ?c1 ?c2 ?c3 ?c4 ?c5 ?_)
        case c1 => exact new_cell1 _ _ _
        case c2 => intro u hu; simp at hu; subst hu; rfl
        case c3 => unfold maxLen; omega
        case c4 => omega
        case c5 => simp; omega
        intro v' w5 hown' hgrow _
        have HO5 : Hid (w5.ownsRow (w.heap.size + 1) 9 1 v' (folL L (L.take j) (⟨kd, ⟨ho, hn⟩, wh, ⟨ao, an⟩, ⟨bo, bn⟩, vi⟩ : St) ++ [xw]).length ((folL L (L.take j) (⟨kd, ⟨ho, hn⟩, wh, ⟨ao, an⟩, ⟨bo, bn⟩, vi⟩ : St) ++ [xw]).map Value.string)) := Lib.hid (by
          rw [List.map_append, List.length_append]
          simpa using hown')
        have HB5 := Lib.hid (below_own HB2.out (Nat.le_refl _) hown3 hgrow (by have := HB2.out.size; simpa using this))
        clear hown' hown3 hgrow
        have cb5 := HS.out w5 HB5.out
        clear cs cb
        go_wp2_with fail
        go_roundw
        case rel => exact ⟨j + 1, by omega, by go_num, Lib.hid (by rw [HF.out]; exact HO5.out), HB5.out⟩
        case measure => simp [intOf]; omega
      · rw [decide_eq_false hr] at hq
        have HF : Hid (folL L (L.take (j + 1)) (⟨kd, ⟨ho, hn⟩, wh, ⟨ao, an⟩, ⟨bo, bn⟩, vi⟩ : St) = folL L (L.take j) (⟨kd, ⟨ho, hn⟩, wh, ⟨ao, an⟩, ⟨bo, bn⟩, vi⟩ : St)) := Lib.hid (by rw [HNx.out]; unfold oneL; rw [if_neg hr, List.append_nil])
        have HO3 := Lib.hid hown3
        clear hr HNx hown3
        go_wp2_with fail
        go_roundw
        case rel => exact ⟨j + 1, by omega, by go_num, Lib.hid (by rw [HF.out]; exact HO3.out), HB2.out⟩
        case measure => simp [intOf]; omega
    · have d1 : decide ((j : Int) < L.length) = false := by simp; omega
      have hjL : j = L.length := by omega
      subst hjL
      have hown2 := hown.out
      rw [List.take_length] at hown2
      have HO3 := Lib.hid (own_base hown2 (show w.heap.size ≤ w.heap.size + 1 by omega))
      have HF := Lib.hid (HB0.out wr hbel)
      clear hown hown2
      go_wp2_with fail
      go_ret
      exact ⟨_, rfl, HO3.out, HF.out⟩
set_option maxHeartbeats 2000000 in
set_option maxRecDepth 100000 in
theorem fol3 (A : Option Addr) (ca : Nat) (L : List Pa) (kd : Int) (ho hn wh ao an bo bn vi : ByteArray) (w : World) (hL : L.length ≤ 100000) (hA : PaG w A L) (hk : kd = 3) :
    Calls Tryz.prog 53 #[.slice A L.length ca, .agg #[.int .i64 kd, .string ho, .string hn, .string wh, .string ao, .string an, .string bo, .string bn, .string vi]] w (FolPost (folL L L (⟨kd, ⟨ho, hn⟩, wh, ⟨ao, an⟩, ⟨bo, bn⟩, vi⟩ : St)) w) := by
  unfold FolPost
  have k1 : (kd == 1) = false := by simp; omega
  have k2 : (kd == 2) = false := by simp; omega
  have k3 : (kd == 3) = true := by simp; omega
  have k4 : (kd == 4) = false := by simp; omega
  have HK := Lib.hid hk
  have hb0 : Below w.heap.size w (w.alloc (.cells #[.int .i64 kd, .string ho, .string hn, .string wh, .string ao, .string an, .string bo, .string bn, .string vi] 78)) := (Below.refl _ _).alloc (Nat.le_refl _) _
  have hsz0 : (w.alloc (.cells #[.int .i64 kd, .string ho, .string hn, .string wh, .string ao, .string an, .string bo, .string bn, .string vi] 78)).heap.size = w.heap.size + 1 := by simp
  have HS := Lib.hid (fun (wr : World) (hb : Below (w.heap.size + 1) (w.alloc (.cells #[.int .i64 kd, .string ho, .string hn, .string wh, .string ao, .string an, .string bo, .string bn, .string vi] 78)) wr) (o : Nat) => (hb.cell (p := ⟨w.heap.size, o, none⟩) (by show w.heap.size < _; omega)).trans (Lib.cell_of_heap (heap_alloc_new w _) o))
  have HA := Lib.hid (fun (wr : World) (hb : Below (w.heap.size + 1) (w.alloc (.cells #[.int .i64 kd, .string ho, .string hn, .string wh, .string ao, .string an, .string bo, .string bn, .string vi] 78)) wr) => hA.below (hb0.trans (hb.mono (by omega))))
  have HB0 := Lib.hid (fun (wr : World) (hb : Below (w.heap.size + 1) (w.alloc (.cells #[.int .i64 kd, .string ho, .string hn, .string wh, .string ao, .string an, .string bo, .string bn, .string vi] 78)) wr) => hb0.trans (hb.mono (by omega)))
  have HIn : Hid (∀ (wr : World) (x : ByteArray), PaG wr A L → Calls Tryz.prog 54 #[.slice A L.length ca, .agg #[.string bo, .string bn], .string x] wr fun e w' => e = .returned (.bool (decide ((⟨⟨bo, bn⟩, x⟩ : Pa) ∈ L))) ∧ Below wr.heap.size wr w') := Lib.hid (fun wr x h => inR A ca L ⟨bo, bn⟩ x wr (by omega) h)
  have HFl := Lib.hid (fun j (hj : j ≤ L.length) => (show (folL L (L.take j) (⟨kd, ⟨ho, hn⟩, wh, ⟨ao, an⟩, ⟨bo, bn⟩, vi⟩ : St)).length ≤ 100000 * 100001 from Nat.le_trans (fol_len L (⟨kd, ⟨ho, hn⟩, wh, ⟨ao, an⟩, ⟨bo, bn⟩, vi⟩ : St) (L.take j)) (Nat.mul_le_mul (by rw [List.length_take]; omega) (by omega))))
  obtain ⟨i0, hi, hz0, hz1, hz2⟩ := info_parts infoStr
  clear hA hb0 hsz0 hk
  go_enter Tryz.func53, Tryz.ntmps53
  go_wp2_with fail
  go_loopw [5, 18] (fun v i wr => ∃ j : Nat, j ≤ L.length ∧ i = .int .i64 j ∧ Hid (wr.ownsRow (w.heap.size + 1) 9 1 v (folL L (L.take j) (⟨kd, ⟨ho, hn⟩, wh, ⟨ao, an⟩, ⟨bo, bn⟩, vi⟩ : St)).length ((folL L (L.take j) (⟨kd, ⟨ho, hn⟩, wh, ⟨ao, an⟩, ⟨bo, bn⟩, vi⟩ : St)).map Value.string)) ∧ Below (w.heap.size + 1) (w.alloc (.cells #[.int .i64 kd, .string ho, .string hn, .string wh, .string ao, .string an, .string bo, .string bn, .string vi] 78)) wr) (fun _ i _ => L.length - (intOf i).toNat)
  case atStart => exact ⟨0, by omega, rfl, Lib.hid (by simpa [folL] using World.ownsRow_nil _ _ _ _), Below.refl _ _⟩
  case round =>
    obtain ⟨j, hj, rfl, hown, hbel⟩ := hrel
    have hszr : w.heap.size + 1 ≤ wr.heap.size := by have := hbel.size; simpa using this
    by_cases hlt : j < L.length
    · have d1 : decide ((j : Int) < L.length) = true := by simp; omega
      obtain ⟨g, o, rfl, hg, hc⟩ := (HA.out wr hbel) (by omega)
      obtain ⟨a0, a1, a2⟩ := hc j hlt
      have HNx := Lib.hid (fol_succ L (⟨kd, ⟨ho, hn⟩, wh, ⟨ao, an⟩, ⟨bo, bn⟩, vi⟩ : St) hlt)
      have hfl := HFl.out j hj
      have p1 : (0 : Int) ≤ j := by omega
      have p2 : (j : Int) < L.length := by omega
      clear hc
      generalize L[j] = p at *
      obtain ⟨⟨xo, xn⟩, xw⟩ := p
      simp only at a0 a1 a2
      have hnw := heap_alloc_new wr (.cells #[.string xo, .string xn, .string xw] 83)
      have hbn := hbel.alloc hszr (.cells #[.string xo, .string xn, .string xw] 83)
      have hown3 := own_at hown.out ((Below.refl wr.heap.size wr).alloc (Nat.le_refl _) (.cells #[.string xo, .string xn, .string xw] 83))
      go_upto_region 7 with fail
      obtain ⟨w2, hw2⟩ : ∃ x, wr.alloc (.cells #[.string xo, .string xn, .string xw] 83) = x := ⟨_, rfl⟩
      rw [hw2] at hnw hbn hown3 ⊢
      have cs := fun o => Lib.cell_of_heap hnw o
      have cb := HS.out w2 hbn
      have HB2 := Lib.hid hbn
      have hz : w.heap.size + 1 ≤ w2.heap.size := by have := hbn.size; simpa using this
      have hltw : wr.heap.size < w2.heap.size := (Array.getElem?_eq_some_iff.1 hnw).1
      have hnw2 := hnw
      clear hw2 a0 a1 a2 hnw hbn hown hbel
      have hq := fun w => SynE.neR xo xn ao an w
      by_cases hr : (⟨xo, xn⟩ : Rl) = ⟨ao, an⟩
      · rw [decide_eq_true hr] at hq
        have HF : Hid (folL L (L.take (j + 1)) (⟨kd, ⟨ho, hn⟩, wh, ⟨ao, an⟩, ⟨bo, bn⟩, vi⟩ : St) = folL L (L.take j) (⟨kd, ⟨ho, hn⟩, wh, ⟨ao, an⟩, ⟨bo, bn⟩, vi⟩ : St) ++ viaL (L.take L.length) ⟨xw, vi⟩) := Lib.hid (by rw [HNx.out, List.take_length]; unfold oneL; rw [if_pos hr]; simp only; rw [if_neg (by have := HK.out; omega), if_neg (by have := HK.out; omega), if_pos HK.out])
        have HO3 := Lib.hid hown3
        obtain ⟨px, hpx⟩ : ∃ px, wr.heap.size = px := ⟨_, rfl⟩
        rw [hpx] at cs hnw2 ⊢
        obtain ⟨F0, hF0⟩ : ∃ F0, folL L (L.take j) (⟨kd, ⟨ho, hn⟩, wh, ⟨ao, an⟩, ⟨bo, bn⟩, vi⟩ : St) = F0 := ⟨_, rfl⟩
        rw [hF0] at HO3 HF hfl
        have HPX := Lib.hid hnw2
        clear hr HNx hown3 hF0 hpx hszr hltw
        go_wp2_with fail
        clear cs cb
        go_loopw [5, 53] (fun v i wr2 => ∃ k : Nat, k ≤ L.length ∧ i = .int .i64 k ∧ Hid (wr2.ownsRow (w.heap.size + 1) 9 1 v (F0 ++ viaL (L.take k) ⟨xw, vi⟩).length ((F0 ++ viaL (L.take k) ⟨xw, vi⟩).map Value.string)) ∧ Hid (Below (w.heap.size + 1) (w.alloc (.cells #[.int .i64 kd, .string ho, .string hn, .string wh, .string ao, .string an, .string bo, .string bn, .string vi] 78)) wr2) ∧ Hid (wr2.heap[px]? = some (.cells #[.string xo, .string xn, .string xw] 83))) (fun _ i _ => L.length - (intOf i).toNat)
        case atStart => exact ⟨0, by omega, rfl, Lib.hid (by simpa [viaL] using HO3.out), HB2, HPX⟩
        case round =>
          clear HO3 HB2 HPX hz hq hnw2
          obtain ⟨k, hk2, rfl, hown, hbel, hpc⟩ := hrel
          have hszr : w.heap.size + 1 ≤ wr.heap.size := by have := hbel.out.size; simpa using this
          by_cases hlt2 : k < L.length
          · have d2 : decide ((k : Int) < L.length) = true := by simp; omega
            obtain ⟨g2, o2, e, hg2, hc⟩ := (HA.out wr hbel.out) (by omega)
            simp only [Option.some.injEq, Addr.mk.injEq, and_true] at e
            obtain ⟨rfl, rfl⟩ := e
            obtain ⟨a0, a1, a2⟩ := hc k hlt2
            have HN2 : Hid (viaL (L.take (k + 1)) ⟨xw, vi⟩ = viaL (L.take k) ⟨xw, vi⟩ ++ (if L[k].role = ⟨xw, vi⟩ then [L[k].who] else [])) := Lib.hid (by rw [List.take_succ_eq_append_getElem hlt2, via_snoc])
            have hvl : (viaL (L.take k) ⟨xw, vi⟩).length ≤ 100000 := Nat.le_trans (via_len _ _) (by rw [List.length_take]; omega)
            have r1 : (0 : Int) ≤ k := by omega
            have r2 : (k : Int) < L.length := by omega
            clear hc
            generalize L[k] = p at *
            obtain ⟨⟨yo, yn⟩, yw⟩ := p
            simp only at a0 a1 a2 HN2
            have hnw := heap_alloc_new wr (.cells #[.string yo, .string yn, .string yw] 83)
            have hbn := hbel.out.alloc hszr (.cells #[.string yo, .string yn, .string yw] 83)
            have hb1 := (Below.refl wr.heap.size wr).alloc (Nat.le_refl _) (.cells #[.string yo, .string yn, .string yw] 83)
            have hown3 := own_at hown.out hb1
            have hps : px < wr.heap.size := (Array.getElem?_eq_some_iff.1 hpc.out).1
            have hpb := (hb1.block px hps).trans hpc.out
            have hpn := fun o => (hb1.cell (p := ⟨px, o, none⟩) hps).trans (Lib.cell_of_heap hpc.out o)
            go_upto_region 14 with fail
            obtain ⟨w6, hw6⟩ : ∃ x, wr.alloc (.cells #[.string yo, .string yn, .string yw] 83) = x := ⟨_, rfl⟩
            rw [hw6] at hnw hbn hown3 hpn hpb ⊢
            have cs := fun o => Lib.cell_of_heap hnw o
            have cb := HS.out w6 hbn
            have HB6 := Lib.hid hbn
            have HP6 := Lib.hid hpb
            have hz6 : wr.heap.size < w6.heap.size := (Array.getElem?_eq_some_iff.1 hnw).1
            obtain ⟨G0, hG0⟩ : ∃ G0, F0 ++ viaL (L.take k) ⟨xw, vi⟩ = G0 := ⟨_, rfl⟩
            have hgl : G0.length ≤ 100000 * 100001 + 100000 := by rw [← hG0, List.length_append]; omega
            have HG := Lib.hid hG0
            rw [hG0] at hown3
            clear hw6 a0 a1 a2 hnw hbn hown hbel hb1 hpc hvl hG0
            have hq := fun w => SynE.eqR yo yn xw vi w
            by_cases hr : (⟨yo, yn⟩ : Rl) = ⟨xw, vi⟩
            · rw [decide_eq_true hr] at hq
              have HF2 : Hid (F0 ++ viaL (L.take (k + 1)) ⟨xw, vi⟩ = G0 ++ [yw]) := Lib.hid (by rw [HN2.out, if_pos hr, ← HG.out, List.append_assoc])
              clear hr HN2
              go_wp2_with (at_builtin; refine wpList_append_own _ rfl _ _ 43 rfl (w.heap.size + 1) 9 i0 (.string ⟨#[]⟩) 1 16 Tryz.underlying43 hi hz0 hz1 hz2 rfl (by decide) _ _ _ rfl (hown3.alloc _) ⟨w6.heap.size, 0, none⟩ 1 1 [.string yw] rfl rfl ?c1 ?c2 ?c3 ?c4 ?c5 ?_)
              case c1 => exact new_cell1 _ _ _
              case c2 => intro u hu; simp at hu; subst hu; rfl
              case c3 => unfold maxLen; omega
              case c4 => omega
              case c5 => simp; omega
              intro v' w5 hown' hgrow _
              have HO5 : Hid (w5.ownsRow (w.heap.size + 1) 9 1 v' (G0 ++ [yw]).length ((G0 ++ [yw]).map Value.string)) := Lib.hid (by
                rw [List.map_append, List.length_append]
                simpa using hown')
              have HB5 := Lib.hid (below_own HB6.out (Nat.le_refl _) hown3 hgrow (by have := HB6.out.size; simpa using this))
              have hpx5 := Lib.hid (keep_block hown3 HP6.out (by decide) hgrow)
              clear hown' hown3 hgrow
              have cb5 := HS.out w5 HB5.out
              clear cs cb hpn hpb
              go_wp2_with fail
              go_roundw
              case rel => exact ⟨k + 1, by omega, by go_num, Lib.hid (by rw [HF2.out]; exact HO5.out), HB5, hpx5⟩
              case measure => simp [intOf]; omega
            · rw [decide_eq_false hr] at hq
              have HF2 : Hid (F0 ++ viaL (L.take (k + 1)) ⟨xw, vi⟩ = G0) := Lib.hid (by rw [HN2.out, if_neg hr, ← HG.out, List.append_nil])
              have HO3 := Lib.hid hown3
              clear hr HN2 hown3
              go_wp2_with fail
              go_roundw
              case rel => exact ⟨k + 1, by omega, by go_num, Lib.hid (by rw [HF2.out]; exact HO3.out), HB6, HP6⟩
              case measure => simp [intOf]; omega
          · have d2 : decide ((k : Int) < L.length) = false := by simp; omega
            have hkL : k = L.length := by omega
            subst hkL
            clear hpc
            go_wp2_with fail
            go_roundw
            case rel => exact ⟨j + 1, by omega, by go_num, Lib.hid (by rw [HF.out]; exact hown.out), hbel.out⟩
            case measure => simp [intOf]; omega
      · rw [decide_eq_false hr] at hq
        have HF : Hid (folL L (L.take (j + 1)) (⟨kd, ⟨ho, hn⟩, wh, ⟨ao, an⟩, ⟨bo, bn⟩, vi⟩ : St) = folL L (L.take j) (⟨kd, ⟨ho, hn⟩, wh, ⟨ao, an⟩, ⟨bo, bn⟩, vi⟩ : St)) := Lib.hid (by rw [HNx.out]; unfold oneL; rw [if_neg hr, List.append_nil])
        have HO3 := Lib.hid hown3
        clear hr HNx hown3
        go_wp2_with fail
        go_roundw
        case rel => exact ⟨j + 1, by omega, by go_num, Lib.hid (by rw [HF.out]; exact HO3.out), HB2.out⟩
        case measure => simp [intOf]; omega
    · have d1 : decide ((j : Int) < L.length) = false := by simp; omega
      have hjL : j = L.length := by omega
      subst hjL
      have hown2 := hown.out
      rw [List.take_length] at hown2
      have HO3 := Lib.hid (own_base hown2 (show w.heap.size ≤ w.heap.size + 1 by omega))
      have HF := Lib.hid (HB0.out wr hbel)
      clear hown hown2
      go_wp2_with fail
      go_ret
      exact ⟨_, rfl, HO3.out, HF.out⟩
set_option maxHeartbeats 2000000 in
set_option maxRecDepth 100000 in
theorem fol4 (A : Option Addr) (ca : Nat) (L : List Pa) (kd : Int) (ho hn wh ao an bo bn vi : ByteArray) (w : World) (hL : L.length ≤ 100000) (hA : PaG w A L) (hk : kd = 4) :
    Calls Tryz.prog 53 #[.slice A L.length ca, .agg #[.int .i64 kd, .string ho, .string hn, .string wh, .string ao, .string an, .string bo, .string bn, .string vi]] w (FolPost (folL L L (⟨kd, ⟨ho, hn⟩, wh, ⟨ao, an⟩, ⟨bo, bn⟩, vi⟩ : St)) w) := by
  unfold FolPost
  have k1 : (kd == 1) = false := by simp; omega
  have k2 : (kd == 2) = false := by simp; omega
  have k3 : (kd == 3) = false := by simp; omega
  have k4 : (kd == 4) = true := by simp; omega
  have HK := Lib.hid hk
  have hb0 : Below w.heap.size w (w.alloc (.cells #[.int .i64 kd, .string ho, .string hn, .string wh, .string ao, .string an, .string bo, .string bn, .string vi] 78)) := (Below.refl _ _).alloc (Nat.le_refl _) _
  have hsz0 : (w.alloc (.cells #[.int .i64 kd, .string ho, .string hn, .string wh, .string ao, .string an, .string bo, .string bn, .string vi] 78)).heap.size = w.heap.size + 1 := by simp
  have HS := Lib.hid (fun (wr : World) (hb : Below (w.heap.size + 1) (w.alloc (.cells #[.int .i64 kd, .string ho, .string hn, .string wh, .string ao, .string an, .string bo, .string bn, .string vi] 78)) wr) (o : Nat) => (hb.cell (p := ⟨w.heap.size, o, none⟩) (by show w.heap.size < _; omega)).trans (Lib.cell_of_heap (heap_alloc_new w _) o))
  have HA := Lib.hid (fun (wr : World) (hb : Below (w.heap.size + 1) (w.alloc (.cells #[.int .i64 kd, .string ho, .string hn, .string wh, .string ao, .string an, .string bo, .string bn, .string vi] 78)) wr) => hA.below (hb0.trans (hb.mono (by omega))))
  have HB0 := Lib.hid (fun (wr : World) (hb : Below (w.heap.size + 1) (w.alloc (.cells #[.int .i64 kd, .string ho, .string hn, .string wh, .string ao, .string an, .string bo, .string bn, .string vi] 78)) wr) => hb0.trans (hb.mono (by omega)))
  have HIn : Hid (∀ (wr : World) (x : ByteArray), PaG wr A L → Calls Tryz.prog 54 #[.slice A L.length ca, .agg #[.string bo, .string bn], .string x] wr fun e w' => e = .returned (.bool (decide ((⟨⟨bo, bn⟩, x⟩ : Pa) ∈ L))) ∧ Below wr.heap.size wr w') := Lib.hid (fun wr x h => inR A ca L ⟨bo, bn⟩ x wr (by omega) h)
  have HFl := Lib.hid (fun j (hj : j ≤ L.length) => (show (folL L (L.take j) (⟨kd, ⟨ho, hn⟩, wh, ⟨ao, an⟩, ⟨bo, bn⟩, vi⟩ : St)).length ≤ 100000 * 100001 from Nat.le_trans (fol_len L (⟨kd, ⟨ho, hn⟩, wh, ⟨ao, an⟩, ⟨bo, bn⟩, vi⟩ : St) (L.take j)) (Nat.mul_le_mul (by rw [List.length_take]; omega) (by omega))))
  obtain ⟨i0, hi, hz0, hz1, hz2⟩ := info_parts infoStr
  clear hA hb0 hsz0 hk
  go_enter Tryz.func53, Tryz.ntmps53
  go_wp2_with fail
  go_loopw [5, 18] (fun v i wr => ∃ j : Nat, j ≤ L.length ∧ i = .int .i64 j ∧ Hid (wr.ownsRow (w.heap.size + 1) 9 1 v (folL L (L.take j) (⟨kd, ⟨ho, hn⟩, wh, ⟨ao, an⟩, ⟨bo, bn⟩, vi⟩ : St)).length ((folL L (L.take j) (⟨kd, ⟨ho, hn⟩, wh, ⟨ao, an⟩, ⟨bo, bn⟩, vi⟩ : St)).map Value.string)) ∧ Below (w.heap.size + 1) (w.alloc (.cells #[.int .i64 kd, .string ho, .string hn, .string wh, .string ao, .string an, .string bo, .string bn, .string vi] 78)) wr) (fun _ i _ => L.length - (intOf i).toNat)
  case atStart => exact ⟨0, by omega, rfl, Lib.hid (by simpa [folL] using World.ownsRow_nil _ _ _ _), Below.refl _ _⟩
  case round =>
    obtain ⟨j, hj, rfl, hown, hbel⟩ := hrel
    have hszr : w.heap.size + 1 ≤ wr.heap.size := by have := hbel.size; simpa using this
    by_cases hlt : j < L.length
    · have d1 : decide ((j : Int) < L.length) = true := by simp; omega
      obtain ⟨g, o, rfl, hg, hc⟩ := (HA.out wr hbel) (by omega)
      obtain ⟨a0, a1, a2⟩ := hc j hlt
      have HNx := Lib.hid (fol_succ L (⟨kd, ⟨ho, hn⟩, wh, ⟨ao, an⟩, ⟨bo, bn⟩, vi⟩ : St) hlt)
      have hfl := HFl.out j hj
      have p1 : (0 : Int) ≤ j := by omega
      have p2 : (j : Int) < L.length := by omega
      clear hc
      generalize L[j] = p at *
      obtain ⟨⟨xo, xn⟩, xw⟩ := p
      simp only at a0 a1 a2
      have hnw := heap_alloc_new wr (.cells #[.string xo, .string xn, .string xw] 83)
      have hbn := hbel.alloc hszr (.cells #[.string xo, .string xn, .string xw] 83)
      have hown3 := own_at hown.out ((Below.refl wr.heap.size wr).alloc (Nat.le_refl _) (.cells #[.string xo, .string xn, .string xw] 83))
      go_upto_region 7 with fail
      obtain ⟨w2, hw2⟩ : ∃ x, wr.alloc (.cells #[.string xo, .string xn, .string xw] 83) = x := ⟨_, rfl⟩
      rw [hw2] at hnw hbn hown3 ⊢
      have cs := fun o => Lib.cell_of_heap hnw o
      have cb := HS.out w2 hbn
      have HB2 := Lib.hid hbn
      have hz : w.heap.size + 1 ≤ w2.heap.size := by have := hbn.size; simpa using this
      have hltw : wr.heap.size < w2.heap.size := (Array.getElem?_eq_some_iff.1 hnw).1
      have hnw2 := hnw
      clear hw2 a0 a1 a2 hnw hbn hown hbel
      have hq := fun w => SynE.neR xo xn ao an w
      by_cases hr : (⟨xo, xn⟩ : Rl) = ⟨ao, an⟩
      · rw [decide_eq_true hr] at hq
        have HI2 := Lib.hid (HIn.out w2 xw (HA.out w2 HB2.out))
        by_cases hm : (⟨⟨bo, bn⟩, xw⟩ : Pa) ∈ L
        · rw [decide_eq_true hm] at HI2
          have HF : Hid (folL L (L.take (j + 1)) (⟨kd, ⟨ho, hn⟩, wh, ⟨ao, an⟩, ⟨bo, bn⟩, vi⟩ : St) = folL L (L.take j) (⟨kd, ⟨ho, hn⟩, wh, ⟨ao, an⟩, ⟨bo, bn⟩, vi⟩ : St) ++ [xw]) := Lib.hid (by rw [HNx.out]; unfold oneL; rw [if_pos hr]; simp only; rw [if_neg (by have := HK.out; omega), if_pos HK.out, if_pos hm])
          have HO3 := Lib.hid hown3
          clear hr HNx hm hown3
          go_wp2_with fail
          refine HI2.out.mono ?_
          rintro e w4 ⟨rfl, hb4⟩
          have hown4 := own_at HO3.out hb4
          have cs4 := fun o => (hb4.cell (p := ⟨wr.heap.size, o, none⟩) hltw).trans (cs o)
          have HB4 := Lib.hid (HB2.out.trans (hb4.mono hz))
          have hz4 : w.heap.size + 1 ≤ w4.heap.size := by have := hb4.size; omega
          clear cs cb hb4 HI2 HO3
          go_wp2_with (at_builtin; refine wpList_append_own _ rfl _ _ 43 rfl (w.heap.size + 1) 9 i0 (.string ⟨#[]⟩) 1 16 Tryz.underlying43 hi hz0 hz1 hz2 rfl (by decide) _ _ _ rfl (hown4.alloc _) ⟨w4.heap.size, 0, none⟩ 1 1 [.string xw] rfl rfl ?c1 ?c2 ?c3 ?c4 ?c5 ?_)
          case c1 => exact new_cell1 _ _ _
          case c2 => intro u hu; simp at hu; subst hu; rfl
          case c3 => unfold maxLen; omega
          case c4 => omega
          case c5 => simp; omega
          intro v' w5 hown' hgrow _
          have HO5 : Hid (w5.ownsRow (w.heap.size + 1) 9 1 v' (folL L (L.take j) (⟨kd, ⟨ho, hn⟩, wh, ⟨ao, an⟩, ⟨bo, bn⟩, vi⟩ : St) ++ [xw]).length ((folL L (L.take j) (⟨kd, ⟨ho, hn⟩, wh, ⟨ao, an⟩, ⟨bo, bn⟩, vi⟩ : St) ++ [xw]).map Value.string)) := Lib.hid (by
            rw [List.map_append, List.length_append]
            simpa using hown')
          have HB5 := Lib.hid (below_own HB4.out (Nat.le_refl _) hown4 hgrow (by have := HB4.out.size; simpa using this))
          clear hown' hown4 hgrow
          have cb5 := HS.out w5 HB5.out
          clear cs4
          go_wp2_with fail
          go_roundw
          case rel => exact ⟨j + 1, by omega, by go_num, Lib.hid (by rw [HF.out]; exact HO5.out), HB5.out⟩
          case measure => simp [intOf]; omega
        · rw [decide_eq_false hm] at HI2
          have HF : Hid (folL L (L.take (j + 1)) (⟨kd, ⟨ho, hn⟩, wh, ⟨ao, an⟩, ⟨bo, bn⟩, vi⟩ : St) = folL L (L.take j) (⟨kd, ⟨ho, hn⟩, wh, ⟨ao, an⟩, ⟨bo, bn⟩, vi⟩ : St)) := Lib.hid (by rw [HNx.out]; unfold oneL; rw [if_pos hr]; simp only; rw [if_neg (by have := HK.out; omega), if_pos HK.out, if_neg hm, List.append_nil])
          have HO3 := Lib.hid hown3
          clear hr HNx hm hown3
          go_wp2_with fail
          refine HI2.out.mono ?_
          rintro e w4 ⟨rfl, hb4⟩
          have HO4 := Lib.hid (own_at HO3.out hb4)
          have cb4 := fun o => (hb4.cell (p := ⟨w.heap.size, o, none⟩) (by show w.heap.size < _; omega)).trans (cb o)
          have HB4 := Lib.hid (HB2.out.trans (hb4.mono hz))
          clear cs cb hb4 HI2 HO3
          go_wp2_with fail
          go_roundw
          case rel => exact ⟨j + 1, by omega, by go_num, Lib.hid (by rw [HF.out]; exact HO4.out), HB4.out⟩
          case measure => simp [intOf]; omega
      · rw [decide_eq_false hr] at hq
        have HF : Hid (folL L (L.take (j + 1)) (⟨kd, ⟨ho, hn⟩, wh, ⟨ao, an⟩, ⟨bo, bn⟩, vi⟩ : St) = folL L (L.take j) (⟨kd, ⟨ho, hn⟩, wh, ⟨ao, an⟩, ⟨bo, bn⟩, vi⟩ : St)) := Lib.hid (by rw [HNx.out]; unfold oneL; rw [if_neg hr, List.append_nil])
        have HO3 := Lib.hid hown3
        clear hr HNx hown3
        go_wp2_with fail
        go_roundw
        case rel => exact ⟨j + 1, by omega, by go_num, Lib.hid (by rw [HF.out]; exact HO3.out), HB2.out⟩
        case measure => simp [intOf]; omega
    · have d1 : decide ((j : Int) < L.length) = false := by simp; omega
      have hjL : j = L.length := by omega
      subst hjL
      have hown2 := hown.out
      rw [List.take_length] at hown2
      have HO3 := Lib.hid (own_base hown2 (show w.heap.size ≤ w.heap.size + 1 by omega))
      have HF := Lib.hid (HB0.out wr hbel)
      clear hown hown2
      go_wp2_with fail
      go_ret
      exact ⟨_, rfl, HO3.out, HF.out⟩
end Go.Proofs.YteabkbcbmimkgaaGreatDoor.LwC
namespace Go.Proofs.YteabkbcbmimkgaaGreatDoor.LwD
open Go.RowKit Go.Sort Go.Lib Go.Proofs Plain SynP Tab3 Tab4 PolE PolG LwA LwB LwC
theorem followsR (A : Option Addr) (ca : Nat) (L : List Pa) (s : St) (w : World) (hL : L.length ≤ 100000) (hA : PaG w A L) :
    Calls Tryz.prog 53 #[.slice A L.length ca, s.val] w (FolPost (follows L s) w) := by
  obtain ⟨kd, ⟨ho, hn⟩, wh, ⟨ao, an⟩, ⟨bo, bn⟩, vi⟩ := s
  unfold follows
  by_cases h1 : kd = 1
  · rw [if_pos h1]
    exact fol1 A ca L.length kd ho hn wh ao an bo bn vi w h1
  · rw [if_neg h1]
    by_cases h2 : kd = 2
    · exact fol2 A ca L kd ho hn wh ao an bo bn vi w hL hA h2
    · by_cases h3 : kd = 3
      · exact fol3 A ca L kd ho hn wh ao an bo bn vi w hL hA h3
      · by_cases h4 : kd = 4
        · exact fol4 A ca L kd ho hn wh ao an bo bn vi w hL hA h4
        · exact fol0 A ca L kd ho hn wh ao an bo bn vi w hL hA ⟨h1, h2, h3, h4⟩
def boolOf : Value → Bool
  | .bool b => b
  | _ => false
def lenOf : Value → Nat
  | .slice _ n _ => n
  | _ => 0
def bN (b : Bool) : Nat := if b then 1 else 0
def mes (N : Nat) (v b : Value) : Nat := if boolOf b then N * N - lenOf v + 1 else 0
theorem fols_len (L : List Pa) (s : St) : (follows L s).length ≤ L.length * (L.length + 1) + 1 := by
  unfold follows
  split
  · simp
  · have := fol_len L s L
    omega
structure Ev (S : List St) (L : List Pa) : Prop where
  nd : L.Nodup
  snd : ∀ p ∈ L, DerN S p.role p.who
  grd : ∀ p ∈ L, p ∈ gridN S
theorem Ev.nil (S : List St) : Ev S [] := ⟨List.nodup_nil, fun p h => absurd h (by simp), fun p h => absurd h (by simp)⟩
theorem Ev.len {S : List St} {L : List Pa} (h : Ev S L) : L.length ≤ S.length * S.length := by
  rw [← grid_len]
  exact len_sub h.nd h.grd
theorem Ev.put {S : List St} {L : List Pa} (h : Ev S L) {p : Pa} (hp : p ∉ L) (hd : DerN S p.role p.who) (hg : p ∈ gridN S) : Ev S (L ++ [p]) :=
  ⟨List.nodup_append.2 ⟨h.nd, by simp, fun a ha b hb => by
      simp at hb
      subst hb
      rintro rfl
      exact hp ha⟩,
    fun q hq => by
      rcases List.mem_append.1 hq with h1 | h1
      · exact h.snd q h1
      · simp at h1; subst h1; exact hd,
    fun q hq => by
      rcases List.mem_append.1 hq with h1 | h1
      · exact h.grd q h1
      · simp at h1; subst h1; exact hg⟩
theorem Ev.fol {S : List St} {L : List Pa} (h : Ev S L) {s : St} (hs : s ∈ S) {x : ByteArray} (hx : x ∈ follows L s) : DerN S s.head x ∧ (⟨s.head, x⟩ : Pa) ∈ gridN S := by
  refine ⟨fol_sound hs h.snd hx, mem_grid.2 ⟨⟨s, hs, rfl⟩, ?_⟩⟩
  have := fol_who (grid_who h.grd) (List.mem_map.2 ⟨s, hs, rfl⟩) hx
  obtain ⟨t, ht, e⟩ := List.mem_map.1 this
  exact ⟨t, ht, e⟩
def Cl (S : List St) (L : List Pa) : Prop := ∀ s ∈ S, ∀ x ∈ follows L s, (⟨s.head, x⟩ : Pa) ∈ L
theorem Ev.all {S : List St} {L : List Pa} (h : Ev S L) (hc : Cl S L) (r : Rl) (x : ByteArray) : (⟨r, x⟩ : Pa) ∈ L ↔ DerN S r x := ⟨fun hm => h.snd _ hm, fun d => closed hc d⟩
theorem keep_own {w w5 : World} {o : Obj} {B k n B2 k2 n2 : Nat} {e e2 : TypeId} {v v2 : Value} {xs xs2 : List Value} (hown : w.ownsRow B e k v n xs) (hf : w.ownsRow B2 e2 k2 v2 n2 xs2) (ht : e2 ≠ e) (hg : (w.alloc o).grownBy w5 v.ownBlock) : w5.ownsRow B2 e2 k2 v2 n2 xs2 := by
  refine ⟨hf.1, ?_⟩
  rcases hf.2 with h | ⟨g, cap, cur, e1, hb, hg2, hr⟩
  · exact .inl h
  · exact .inr ⟨g, cap, cur, e1, hb, keep_block hown hg2 ht hg, hr⟩
theorem new_cell3 (w : World) (a b c : Value) (t : TypeId) : ∀ j u, [a, b, c][j]? = some u → (w.alloc (.cells #[a, b, c] t)).cell? ((⟨w.heap.size, 0, none⟩ : Addr).add j) = some u := by
  intro j u hu
  rw [LwA.add_off, Nat.zero_add, Lib.cell_of_heap (heap_alloc_new w _) j, ← hu]
  simp
theorem infoPa : (Tryz.prog.info? 83).map (fun i => (i.zero, i.size, i.bytes)) = some (some (.agg #[.string ⟨#[]⟩, .string ⟨#[]⟩, .string ⟨#[]⟩]), 3, 48) := by kernel_rfl
def EvPost (S : List St) (w : World) (e : Ending) (w' : World) : Prop := ∃ v L, e = .returned v ∧ w'.ownsRow w.heap.size 83 3 v L.length (cellsP L) ∧ L.Nodup ∧ (∀ r x, (⟨r, x⟩ : Pa) ∈ L ↔ DerN S r x) ∧ L.length ≤ S.length * S.length ∧ Below w.heap.size w w'
set_option maxHeartbeats 4000000 in
set_option maxRecDepth 100000 in
theorem evalN (A : Option Addr) (ca : Nat) (S : List St) (w : World) (hS : S.length ≤ 300) (hA : SG w A S) : Calls Tryz.prog 12 #[.slice A S.length ca] w (EvPost S w) := by
  unfold EvPost
  have HA := Lib.hid (fun (wr : World) (hb : Below w.heap.size w wr) => hA.below hb)
  have HFol := Lib.hid (fun (A : Option Addr) (ca : Nat) (L : List Pa) (s : St) (w : World) (hL : L.length ≤ 100000) (hA : PaG w A L) => followsR A ca L s w hL hA)
  have hSS : S.length * S.length ≤ 300 * 300 := Nat.mul_le_mul hS hS
  obtain ⟨i0, hi, hz0, hz1, hz2⟩ := info_parts infoPa
  unfold FolPost at HFol
  clear hA
  go_enter Tryz.func12, Tryz.ntmps12
  go_wp2_with fail
  go_loopw [3, 4] (fun v b wr => ∃ (L : List Pa) (ag : Bool), b = .bool ag ∧ Hid (Ev S L) ∧ Hid (ag = false → Cl S L) ∧ Hid (wr.ownsRow w.heap.size 83 3 v L.length (cellsP L)) ∧ Hid (Below w.heap.size w wr)) (fun v b _ => mes S.length v b)
  case atStart => exact ⟨[], true, rfl, Lib.hid (Ev.nil S), Lib.hid (fun h => absurd h (by simp)), Lib.hid (World.ownsRow_nil _ _ _ _), Lib.hid (Below.refl _ _)⟩
  case round =>
    obtain ⟨L0, ag0, rfl, hev, hcl, hown, hbel⟩ := hrel
    cases ag0
    · have HO := Lib.hid hown.out
      have hall := Lib.hid (hev.out.all (hcl.out rfl))
      have hlen := Lib.hid hev.out.len
      have hnd := Lib.hid hev.out.nd
      clear hown hev hcl
      go_wp2_with fail
      go_ret
      exact ⟨_, L0, rfl, HO.out, hnd.out, hall.out, hlen.out, hbel.out⟩
    · clear hcl
      obtain ⟨Am, cm, hv0, _, _⟩ := pa_own hown.out
      have HM0 : Hid (mes S.length u3 (.bool true) = S.length * S.length - L0.length + 1) := Lib.hid (by rw [hv0]; simp [mes, boolOf, lenOf])
      clear hv0
      obtain ⟨M0, hmz⟩ : ∃ M0, mes S.length u3 (.bool true) = M0 := ⟨_, rfl⟩
      rw [hmz] at HM0
      have HMz := Lib.hid hmz
      clear hmz
      go_wp2_with fail
      go_loopw [3, 4, 12] (fun v b i wr => ∃ (L : List Pa) (ag : Bool) (k : Nat), k ≤ S.length ∧ b = .bool ag ∧ i = .int .i64 k ∧ Hid (Ev S L) ∧ Hid (L0.length + bN ag ≤ L.length) ∧ Hid (ag = false → ∀ s ∈ S.take k, ∀ x ∈ follows L s, (⟨s.head, x⟩ : Pa) ∈ L) ∧ Hid (wr.ownsRow w.heap.size 83 3 v L.length (cellsP L)) ∧ Hid (Below w.heap.size w wr)) (fun _ _ i _ => S.length - (intOf i).toNat)
      case atStart => exact ⟨L0, false, 0, by omega, rfl, rfl, hev, Lib.hid (by simp [bN]), Lib.hid (by simp), hown, hbel⟩
      case round =>
        clear hev hown hbel
        obtain ⟨L1, ag1, k, hk, rfl, rfl, hev, hl1, hdn, hown, hbel⟩ := hrel
        by_cases hlt : k < S.length
        · have d1 : decide ((k : Int) < S.length) = true := by simp; omega
          obtain ⟨g, o, rfl, hg, hc⟩ := (HA.out wr hbel.out) (by omega)
          obtain ⟨a0, a1, a2, a3, a4, a5, a6, a7, a8⟩ := hc k hlt
          have HSm := Lib.hid (List.getElem_mem (l := S) (n := k) hlt)
          have HTk : Hid (S.take (k + 1) = S.take k ++ [S[k]]) := Lib.hid (List.take_succ_eq_append_getElem hlt)
          have hll := hev.out.len
          have p1 : (0 : Int) ≤ k := by omega
          have p2 : (k : Int) < S.length := by omega
          clear hc
          generalize S[k] = s at *
          obtain ⟨kd, ⟨ho, hn⟩, wh, ⟨ao, an⟩, ⟨bo, bn⟩, vi⟩ := s
          simp only at a0 a1 a2 a3 a4 a5 a6 a7 a8
          have hnw := heap_alloc_new wr (.cells #[.int .i64 kd, .string ho, .string hn, .string wh, .string ao, .string an, .string bo, .string bn, .string vi] 78)
          have hbn := hbel.out.alloc hbel.out.size (.cells #[.int .i64 kd, .string ho, .string hn, .string wh, .string ao, .string an, .string bo, .string bn, .string vi] 78)
          have hb1 := (Below.refl wr.heap.size wr).alloc (Nat.le_refl _) (.cells #[.int .i64 kd, .string ho, .string hn, .string wh, .string ao, .string an, .string bo, .string bn, .string vi] 78)
          have hown3 := own_at hown.out hb1
          go_upto_region 8 with fail
          obtain ⟨w2, hw2⟩ : ∃ x, wr.alloc (.cells #[.int .i64 kd, .string ho, .string hn, .string wh, .string ao, .string an, .string bo, .string bn, .string vi] 78) = x := ⟨_, rfl⟩
          obtain ⟨bx, hbx⟩ : ∃ bx, wr.heap.size = bx := ⟨_, rfl⟩
          rw [hw2] at hnw hbn hown3 ⊢
          rw [hbx] at hnw ⊢
          have cs := fun o => Lib.cell_of_heap hnw o
          have HB2 := Lib.hid hbn
          have HBX := Lib.hid hnw
          obtain ⟨Al, cl, rfl, hcl, hpg⟩ := pa_own hown3
          have HF := Lib.hid (HFol.out Al cl L1 ⟨kd, ⟨ho, hn⟩, wh, ⟨ao, an⟩, ⟨bo, bn⟩, vi⟩ w2 (by omega) hpg)
          have HFe := Lib.hid (fun x hx => hev.out.fol HSm.out (x := x) hx)
          have HO2 := Lib.hid hown3
          have hFl : (follows L1 ⟨kd, ⟨ho, hn⟩, wh, ⟨ao, an⟩, ⟨bo, bn⟩, vi⟩).length ≤ 90000 * 90001 + 1 := Nat.le_trans (fols_len _ _) (Nat.add_le_add_right (Nat.mul_le_mul (by omega) (by omega)) 1)
          obtain ⟨F, hF⟩ : ∃ F, follows L1 ⟨kd, ⟨ho, hn⟩, wh, ⟨ao, an⟩, ⟨bo, bn⟩, vi⟩ = F := ⟨_, rfl⟩
          rw [hF] at HF HFe hFl
          have HFF := Lib.hid hF
          unfold St.val at HF
          clear hw2 hbx a0 a1 a2 a3 a4 a5 a6 a7 a8 hnw hbn hb1 hown3 hown hbel hpg hF
          go_wp2_with fail
          refine HF.out.mono ?_
          rintro e w3 ⟨vF, rfl, hownF, hb3⟩
          obtain ⟨Af, cf, rfl, hfc, _⟩ := bg_own hownF
          have HOF := Lib.hid hownF
          have HO3 := Lib.hid (own_at HO2.out hb3)
          have hbxl : bx < w2.heap.size := (Array.getElem?_eq_some_iff.1 HBX.out).1
          have HBX3 := Lib.hid ((hb3.block bx hbxl).trans HBX.out)
          have HB3 := Lib.hid (nx HB2.out hb3)
          clear hownF hb3 HF HO2 HBX cs hbxl
          go_wp2_with fail
          go_loopw [3, 4, 20] (fun v b i wr => ∃ (L : List Pa) (ag : Bool) (j : Nat), j ≤ F.length ∧ b = .bool ag ∧ i = .int .i64 j ∧ Hid (Ev S L) ∧ Hid (L0.length + bN ag ≤ L.length) ∧ Hid (ag = false → L = L1 ∧ ag1 = false ∧ ∀ x ∈ F.take j, (⟨⟨ho, hn⟩, x⟩ : Pa) ∈ L) ∧ Hid (wr.ownsRow w.heap.size 83 3 v L.length (cellsP L)) ∧ Hid (wr.ownsRow w2.heap.size 9 1 (.slice Af F.length cf) F.length (F.map Value.string)) ∧ Hid (wr.heap[bx]? = some (.cells #[.int .i64 kd, .string ho, .string hn, .string wh, .string ao, .string an, .string bo, .string bn, .string vi] 78)) ∧ Hid (Below w.heap.size w wr)) (fun _ _ i _ => F.length - (intOf i).toNat)
          case atStart => exact ⟨L1, ag1, 0, by omega, rfl, rfl, hev, hl1, Lib.hid (fun h => ⟨rfl, h, by simp⟩), HO3, HOF, HBX3, HB3⟩
          case round =>
            clear HO3 HOF HBX3 HB3
            have HL1 := hl1
            clear hl1 hev hll
            obtain ⟨L2, ag2, j, hj, rfl, rfl, hev, hl2, hdj, hown, hownF, hbx, hbel⟩ := hrel
            by_cases hlt2 : j < F.length
            · have d2 : decide ((j : Int) < F.length) = true := by simp; omega
              obtain ⟨Ag, cg, eg, _, hbg⟩ := bg_own hownF.out
              simp only [Value.slice.injEq] at eg
              obtain ⟨rfl, _, rfl⟩ := eg
              obtain ⟨gf, rfl, hgf, hcf⟩ := hbg (by omega)
              have yf := hcf j hlt2
              have HX := Lib.hid (HFe.out F[j] (List.getElem_mem hlt2))
              have HTj : Hid (F.take (j + 1) = F.take j ++ [F[j]]) := Lib.hid (List.take_succ_eq_append_getElem hlt2)
              have r1 : (0 : Int) ≤ j := by omega
              have r2 : (j : Int) < F.length := by omega
              clear hcf hbg
              generalize F[j] = x at *
              obtain ⟨A2, c2, rfl, hc2, hpg⟩ := pa_own hown.out
              have HIn := Lib.hid (inR A2 c2 L2 ⟨ho, hn⟩ x wr (by have := hev.out.len; omega) hpg)
              have cs := fun o => Lib.cell_of_heap hbx.out o
              have hbl : bx < wr.heap.size := (Array.getElem?_eq_some_iff.1 hbx.out).1
              unfold Rl.val at HIn
              clear hpg
              by_cases hm : (⟨⟨ho, hn⟩, x⟩ : Pa) ∈ L2
              · rw [decide_eq_true hm] at HIn
                have HDJ : Hid (ag2 = false → L2 = L1 ∧ ag1 = false ∧ ∀ x ∈ F.take (j + 1), (⟨⟨ho, hn⟩, x⟩ : Pa) ∈ L2) := Lib.hid (fun h => by
                  obtain ⟨h1, h2, h3⟩ := hdj.out h
                  refine ⟨h1, h2, fun y hy => ?_⟩
                  rw [HTj.out, List.mem_append, List.mem_singleton] at hy
                  rcases hy with hy | rfl
                  · exact h3 y hy
                  · exact hm)
                clear hm hdj HTj HX
                go_wp2_with fail
                refine HIn.out.mono ?_
                rintro e w4 ⟨rfl, hb4⟩
                have HO4 := Lib.hid (own_at hown.out hb4)
                have HF4 := Lib.hid (own_at hownF.out hb4)
                have HX4 := Lib.hid ((hb4.block bx hbl).trans hbx.out)
                have HB4 := Lib.hid (nx hbel.out hb4)
                clear hb4 hown hownF hbx hbel yf cs HIn
                go_wp2_with fail
                go_roundw
                case rel => exact ⟨L2, ag2, j + 1, by omega, rfl, by go_num, hev, hl2, HDJ, HO4, HF4, HX4, HB4⟩
                case measure => simp [intOf]; omega
              · rw [decide_eq_false hm] at HIn
                have HEV : Hid (Ev S (L2 ++ [⟨⟨ho, hn⟩, x⟩])) := Lib.hid (hev.out.put hm HX.out.1 HX.out.2)
                have HL2 : Hid (L0.length + bN true ≤ (L2 ++ [(⟨⟨ho, hn⟩, x⟩ : Pa)]).length) := Lib.hid (by rw [List.length_append]; have := hl2.out; unfold bN; simp; omega)
                have hll2 := hev.out.len
                clear hm hdj HTj HX hl2
                go_wp2_with fail
                refine HIn.out.mono ?_
                rintro e w4 ⟨rfl, hb4⟩
                have hown4 := own_at hown.out hb4
                have HF4 := Lib.hid (own_at hownF.out hb4)
                have HX4 := Lib.hid ((hb4.block bx hbl).trans hbx.out)
                have HB4 := Lib.hid (nx hbel.out hb4)
                clear cs
                have cs := fun o => Lib.cell_of_heap HX4.out o
                clear hb4 hown hownF hbx hbel yf HIn hev
                go_wp2_with (at_builtin; refine wpList_append_own _ rfl _ _ 32 rfl w.heap.size 83 i0 (.agg #[.string ⟨#[]⟩, .string ⟨#[]⟩, .string ⟨#[]⟩]) 3 48 Tryz.underlying32 hi hz0 hz1 hz2 rfl (by decide) _ _ _ rfl (hown4.alloc _) ⟨w4.heap.size, 0, none⟩ 1 1 [.string ho, .string hn, .string x] rfl rfl ?c1 ?c2 ?c3 ?c4 ?c5 ?_)
                case c1 => exact new_cell3 _ _ _ _ _
                case c2 => intro u hu; simp at hu; rcases hu with rfl | rfl | rfl <;> rfl
                case c3 => unfold maxLen; omega
                case c4 => omega
                case c5 => simp; have := HB4.out.size; omega
                intro v' w5 hown' hgrow _
                have HO5 : Hid (w5.ownsRow w.heap.size 83 3 v' (L2 ++ [(⟨⟨ho, hn⟩, x⟩ : Pa)]).length (cellsP (L2 ++ [⟨⟨ho, hn⟩, x⟩]))) := Lib.hid (by
                  rw [cellsP_snoc, List.length_append]
                  exact hown')
                have HF5 := Lib.hid (keep_own hown4 HF4.out (by decide) hgrow)
                have HX5 := Lib.hid (keep_block hown4 HX4.out (by decide) hgrow)
                have HB5 := Lib.hid (below_own HB4.out (Nat.le_refl _) hown4 hgrow HB4.out.size)
                clear hown' hown4 hgrow cs HF4 HX4 HB4
                go_wp2_with fail
                go_roundw
                case rel => exact ⟨_, true, j + 1, by omega, rfl, by go_num, HEV, HL2, Lib.hid (fun h => absurd h (by simp)), HO5, HF5, HX5, HB5⟩
                case measure => simp [intOf]; omega
            · have d2 : decide ((j : Int) < F.length) = false := by simp; omega
              have hjF : j = F.length := by omega
              subst hjF
              have HDK : Hid (ag2 = false → ∀ s ∈ S.take (k + 1), ∀ x ∈ follows L2 s, (⟨s.head, x⟩ : Pa) ∈ L2) := Lib.hid (fun h => by
                obtain ⟨h1, h2, h3⟩ := hdj.out h
                intro s hs x hx
                rw [HTk.out, List.mem_append, List.mem_singleton] at hs
                rcases hs with hs | rfl
                · rw [h1] at hx ⊢
                  exact hdn.out h2 s hs x hx
                · rw [h1, HFF.out] at hx
                  exact h3 x (by rw [List.take_length]; exact hx))
              clear hdj hownF hbx
              go_wp2_with fail
              go_roundw
              case rel => exact ⟨L2, ag2, k + 1, by omega, rfl, by go_num, hev, hl2, HDK, hown, hbel⟩
              case measure => simp [intOf]; omega
        · have d1 : decide ((k : Int) < S.length) = false := by simp; omega
          have hkS : k = S.length := by omega
          subst hkS
          have HC : Hid (ag1 = false → Cl S L1) := Lib.hid (fun h s hs x hx => hdn.out h s (by rw [List.take_length]; exact hs) x hx)
          obtain ⟨A2, c2, rfl, hc2, _⟩ := pa_own hown.out
          have HMs : Hid (mes S.length (.slice A2 L1.length c2) (.bool ag1) < M0) := Lib.hid (by
            rw [HM0.out]
            have h1 := hl1.out
            have h2 := hev.out.len
            cases ag1
            · simp [mes, boolOf]
            · unfold bN at h1
              simp [mes, boolOf, lenOf] at h1 ⊢
              omega)
          clear hdn hl1
          go_wp2_with fail
          go_roundw
          case rel => exact ⟨L1, ag1, rfl, hev, HC, hown, hbel⟩
          case measure => rw [HMz.out]; exact HMs.out
end Go.Proofs.YteabkbcbmimkgaaGreatDoor.LwD
namespace Go.Proofs.YteabkbcbmimkgaaGreatDoor.LwE
open Go.RowKit Go.Sort Go.Lib Go.Proofs Plain SynP TabP Tab1 Tab3 Tab4 Tab5 PolG PolH RefPr LwA LwB LwC
def memF (L : List Pa) (r : Rl) : List Str := fold ((viaL L r).map bt)
theorem memF_len (L : List Pa) (r : Rl) : (memF L r).length ≤ L.length := by
  unfold memF
  refine Nat.le_trans (fold_len _) ?_
  rw [List.length_map]
  exact via_len L r
theorem memF_tab (L : List Pa) (r : Rl) : memF L r = tab ((viaL L r).map bt) := fold_tab _
theorem memF_yes {L : List Pa} {r : Rl} {j : Nat} (h : j < L.length) (hr : L[j].role = r) : memF (L.take (j + 1)) r = putL (memF (L.take j) r) (bt L[j].who) := by
  unfold memF
  rw [List.take_succ_eq_append_getElem h, via_snoc, if_pos hr, List.map_append]
  exact fold_snoc _ _
theorem memF_no {L : List Pa} {r : Rl} {j : Nat} (h : j < L.length) (hr : L[j].role ≠ r) : memF (L.take (j + 1)) r = memF (L.take j) r := by
  unfold memF
  rw [List.take_succ_eq_append_getElem h, via_snoc, if_neg hr, List.append_nil]
set_option maxHeartbeats 1000000 in
set_option maxRecDepth 100000 in
theorem membersN (A : Option Addr) (ca : Nat) (L : List Pa) (s : Rl) (w : World) (hL : L.length ≤ 100000) (hA : PaG w A L) :
    Calls Tryz.prog 23 #[.slice A L.length ca, s.val] w (RowPost (memF L s) w) := by
  obtain ⟨ho, hn⟩ := s
  have hown : ∀ (wr : World), Below (w.heap.size + 1) (w.alloc (.cells #[.string ho, .string hn] 28)) wr → wr.cell? ⟨w.heap.size, 0, none⟩ = some (.string ho) ∧ wr.cell? ⟨w.heap.size, 1, none⟩ = some (.string hn) := fun wr hb => by
    refine ⟨?_, ?_⟩ <;> rw [hb.cell (by simp)] <;> rw [Lib.cell_of_heap (heap_alloc_new w _)] <;> rfl
  have HO := Lib.hid hown
  clear hown
  have HA := Lib.hid hA
  clear hA
  unfold Rl.val RowPost
  go_enter Tryz.func23, Tryz.ntmps23
  go_wp2_with fail
  go_loopw [5, 10] (fun v i wr => ∃ k : Nat, k ≤ L.length ∧ i = .int .i64 k ∧ Hid (wr.ownsRow (w.heap.size + 1) 9 1 v (memF (L.take k) ⟨ho, hn⟩).length ((memF (L.take k) ⟨ho, hn⟩).map encStr)) ∧ Below (w.heap.size + 1) (w.alloc (.cells #[.string ho, .string hn] 28)) wr) (fun _ i _ => L.length - (intOf i).toNat)
  case atStart => exact ⟨0, by omega, rfl, Lib.hid (by simpa [memF, viaL, fold] using World.ownsRow_nil _ _ _ _), Below.refl _ _⟩
  case round =>
    obtain ⟨k, hk, rfl, hown, hbel⟩ := hrel
    have hb0 : Below w.heap.size w wr := ((Below.refl w.heap.size w).alloc (Nat.le_refl _) _).trans (hbel.mono (by omega))
    have hsz : w.heap.size + 1 ≤ wr.heap.size := by have := hbel.size; simpa using this
    by_cases hlt : k < L.length
    · have d1 : decide ((k : Int) < L.length) = true := by simp; omega
      obtain ⟨g1, o1, rfl, hg1, h1⟩ := (HA.out.below hb0) (by omega)
      obtain ⟨a0, a1, a2⟩ := h1 k hlt
      have HY : Hid (L[k].role = ⟨ho, hn⟩ → memF (L.take (k + 1)) ⟨ho, hn⟩ = putL (memF (L.take k) ⟨ho, hn⟩) (bt L[k].who)) := Lib.hid (fun h => memF_yes hlt h)
      have HN : Hid (L[k].role ≠ ⟨ho, hn⟩ → memF (L.take (k + 1)) ⟨ho, hn⟩ = memF (L.take k) ⟨ho, hn⟩) := Lib.hid (fun h => memF_no hlt h)
      have hml := memF_len (L.take k) ⟨ho, hn⟩
      rw [List.length_take] at hml
      have p1 : (0 : Int) ≤ k := by omega
      have p2 : (k : Int) < L.length := by omega
      clear h1
      generalize L[k] = p at *
      obtain ⟨⟨po, pn⟩, px⟩ := p
      simp only at a0 a1 a2 HY HN
      have hnw := heap_alloc_new wr (.cells #[.string po, .string pn, .string px] 83)
      have hbn := hbel.alloc hsz (.cells #[.string po, .string pn, .string px] 83)
      obtain ⟨b0, b1⟩ := HO.out _ hbn
      have hown3 := own_at hown.out ((Below.refl wr.heap.size wr).alloc (Nat.le_refl _) (.cells #[.string po, .string pn, .string px] 83))
      go_upto_region 5 with fail
      obtain ⟨w2, hw2⟩ : ∃ x, wr.alloc (.cells #[.string po, .string pn, .string px] 83) = x := ⟨_, rfl⟩
      rw [hw2] at hnw hbn hown3 b0 b1 ⊢
      have cs := fun o => Lib.cell_of_heap hnw o
      have HB2 := Lib.hid hbn
      have hz2 : w.heap.size + 1 ≤ w2.heap.size := by have := hbn.size; simpa using this
      obtain ⟨T0, hT0⟩ : ∃ T0, memF (L.take k) ⟨ho, hn⟩ = T0 := ⟨_, rfl⟩
      rw [hT0] at HY HN hown3 hml
      clear hw2 a0 a1 a2 hnw hbn hown hbel hT0
      have hq := fun w => SynE.eqR po pn ho hn w
      by_cases he : (⟨po, pn⟩ : Rl) = (⟨ho, hn⟩ : Rl)
      · rw [decide_eq_true (p := (⟨po, pn⟩ : Rl) = ⟨ho, hn⟩) he] at hq
        obtain ⟨A1, c1, rfl, _, _⟩ := SRow.of_own hown3
        have HP := Lib.hid (Tab4.put (w.heap.size + 1) A1 c1 T0 px w2 (by omega) hz2 hown3)
        have HF := Lib.hid (HY.out he)
        clear HY HN he hown3
        go_wp2_with fail
        refine HP.out.mono ?_
        rintro e w3 ⟨v3, rfl, hown5, hb3⟩
        have HO5 := Lib.hid hown5
        have HB5 := Lib.hid (HB2.out.trans hb3)
        have hbt := Lib.hid (bt_list px)
        clear hown5 hb3 cs b0 b1 HP
        go_wp2_with fail
        go_roundw
        case rel => exact ⟨k + 1, by omega, by go_num, Lib.hid (by rw [HF.out, ← hbt.out]; exact HO5.out), HB5.out⟩
        case measure => simp [intOf]; omega
      · rw [decide_eq_false (p := (⟨po, pn⟩ : Rl) = ⟨ho, hn⟩) he] at hq
        have HF := Lib.hid (HN.out he)
        have HO3 := Lib.hid hown3
        clear HY HN he hown3
        go_wp2_with fail
        go_roundw
        case rel => exact ⟨k + 1, by omega, by go_num, Lib.hid (by rw [HF.out]; exact HO3.out), HB2.out⟩
        case measure => simp [intOf]; omega
    · have d1 : decide ((k : Int) < L.length) = false := by simp; omega
      have hkL : k = L.length := by omega
      subst hkL
      have hown2 := hown.out
      rw [List.take_length] at hown2
      have HO3 := Lib.hid (own_base hown2 (show w.heap.size ≤ w.heap.size + 1 by omega))
      have HF := Lib.hid hb0
      clear hown hown2 hb0
      go_wp2_with fail
      go_ret
      exact ⟨_, rfl, HO3.out, HF.out⟩
end Go.Proofs.YteabkbcbmimkgaaGreatDoor.LwE
namespace Go.Proofs.YteabkbcbmimkgaaGreatDoor.TblT
open Go.RowKit Go.Sort Go.Lib Go.Proofs Plain SynP TabP Tab1 Tab2 TblA TblB TblC TblF TblP TblQ TblR
theorem txt_toList (l : Str) : (txt l).toList = l := by unfold txt; rw [Go.ByteArray.toList_eq]
theorem txt_data (l : Str) : (txt l).data.toList = l := by unfold txt; simp
theorem txt_of (s : ByteArray) : txt s.toList = s := by unfold txt; rw [Go.ByteArray.toList_eq]
theorem findI_get {T : List Str} {s : Str} (h : 0 ≤ findI T s) : (findI T s).toNat < T.length ∧ T.getD (findI T s).toNat [] = s := by
  unfold findI at *
  by_cases hm : s ∈ T
  · rw [if_pos hm] at h ⊢
    have hlt := List.idxOf_lt_length_iff.2 hm
    rw [Int.toNat_natCast, List.getD_eq_getElem?_getD, List.getElem?_eq_getElem hlt]
    exact ⟨hlt, List.getElem_idxOf hlt⟩
  · rw [if_neg hm] at h; omega
theorem role_get {P L : List Str} {r : Rl} (h : 0 ≤ roleI P L r) : roleI P L r < ((P.length * L.length : Nat) : Int) ∧ rolI P L (roleI P L r) = r := by
  have hbd := roleI_bd P L r
  have hlt : roleI P L r < ((P.length * L.length : Nat) : Int) := by rw [Int.natCast_mul]; omega
  refine ⟨hlt, ?_⟩
  unfold rolI
  rw [if_pos ⟨h, hlt⟩]
  unfold roleI at *
  by_cases hh : findI P r.owner.toList < 0 ∨ findI L r.name.toList < 0
  · rw [if_pos hh] at h; omega
  · rw [if_neg hh] at h hlt ⊢
    obtain ⟨a1, a2⟩ := findI_get (T := P) (s := r.owner.toList) (by omega)
    obtain ⟨b1, b2⟩ := findI_get (T := L) (s := r.name.toList) (by omega)
    have hx : 0 ≤ findI P r.owner.toList := by omega
    have hy : 0 ≤ findI L r.name.toList := by omega
    generalize findI P r.owner.toList = x at *
    generalize findI L r.name.toList = y at *
    obtain ⟨i, rfl⟩ : ∃ i : Nat, x = i := ⟨x.toNat, by omega⟩
    obtain ⟨j, rfl⟩ : ∃ i : Nat, y = i := ⟨y.toNat, by omega⟩
    rw [Int.toNat_natCast] at a1 a2 b1 b2
    have e : ((i : Int) * (L.length : Int) + (j : Int)).toNat = i * L.length + j := by
      rw [← Int.natCast_mul, ← Int.natCast_add, Int.toNat_natCast]
    rw [e]
    have hdiv : (i * L.length + j) / L.length = i := by
      rw [Nat.mul_comm, Nat.mul_add_div (by omega), Nat.div_eq_of_lt b1, Nat.add_zero]
    have hmod : (i * L.length + j) % L.length = j := by
      rw [Nat.mul_comm, Nat.mul_add_mod, Nat.mod_eq_of_lt b1]
    rw [hdiv, hmod, a2, b2, txt_of, txt_of]
theorem own_of_right {s : St} (h : s.right = true) : s.head.ok = true ∧ s.says = true ∧ s = s.own := by
  unfold St.right at h
  rw [Bool.and_eq_true, Bool.and_eq_true] at h
  exact ⟨h.1.1, h.1.2, of_decide_eq_true h.2⟩
theorem inB_of {n x : Int} (h : 0 ≤ x) (h2 : x < n) : inB n x = true := by unfold inB; exact decide_eq_true ⟨h, h2⟩
theorem one_in {n x : Int} : allB n [x] = inB n x := by simp [allB]
theorem three_in {n x y z : Int} : allB n [x, y, z] = (inB n x && (inB n y && inB n z)) := by simp [allB]
theorem decb {a : Int} (h : decide (0 ≤ a) = true) : 0 ≤ a := of_decide_eq_true h
theorem there {P L : List Str} {s : St} (h : ruleOk P L s = true) : rightU P.length L.length (ruleV P L s) = true ∧ stA P L (ruleV P L s) = s := by
  unfold ruleOk at h
  rw [Bool.and_eq_true, Bool.and_eq_true] at h
  obtain ⟨⟨hr, hh⟩, hrest⟩ := h
  obtain ⟨h1, h2, h3⟩ := own_of_right hr
  have hh := decb hh
  obtain ⟨a1, a2⟩ := role_get hh
  have hk := kind_of_right hr
  obtain ⟨k, hd, wh, ra, rb, v⟩ := s
  simp only at hh a1 a2 hk h1
  have hn : 0 < P.length ∧ 0 < L.length := by
    constructor
    · rcases Nat.eq_zero_or_pos P.length with h0 | h0
      · rw [h0, Nat.zero_mul] at a1; omega
      · exact h0
    · rcases Nat.eq_zero_or_pos L.length with h0 | h0
      · rw [h0, Nat.mul_zero] at a1; omega
      · exact h0
  have hz : inB ((P.length * L.length : Nat) : Int) 0 = true := inB_of (by omega) (by have := Nat.mul_pos hn.1 hn.2; omega)
  have hzP : inB (P.length : Int) 0 = true := inB_of (by omega) (by omega)
  have hzL : inB (L.length : Int) 0 = true := inB_of (by omega) (by omega)
  have hH := inB_of hh a1
  rcases hk with rfl | rfl | rfl | rfl
  · have hw : 0 ≤ findI P wh.toList := decb hrest
    obtain ⟨b1, b2⟩ := findI_get hw
    have hv : ruleV P L ⟨1, hd, wh, ra, rb, v⟩ = ⟨1, roleI P L hd, findI P wh.toList, 0, 0, 0⟩ := rfl
    have hR : rightU P.length L.length ⟨1, roleI P L hd, findI P wh.toList, 0, 0, 0⟩ = true := by
      unfold rightU
      rw [three_in, one_in, one_in]
      simp only
      rw [hH, hz, hzL, inB_of hw (by omega)]
      simp [bareK, bareU]
    rw [hv]
    refine ⟨hR, ?_⟩
    unfold stA
    rw [hR, if_pos rfl]
    have hs : stU P L ⟨1, roleI P L hd, findI P wh.toList, 0, 0, 0⟩ = ⟨1, rolI P L (roleI P L hd), txt (P.getD (findI P wh.toList).toNat []), zeroR, zeroR, noText⟩ := rfl
    rw [hs, a2, b2, txt_of, h3]
    rfl
  · have ha : 0 ≤ roleI P L ra := decb hrest
    obtain ⟨b1, b2⟩ := role_get ha
    have hv : ruleV P L ⟨2, hd, wh, ra, rb, v⟩ = ⟨2, roleI P L hd, 0, roleI P L ra, 0, 0⟩ := rfl
    have hR : rightU P.length L.length ⟨2, roleI P L hd, 0, roleI P L ra, 0, 0⟩ = true := by
      unfold rightU
      rw [three_in, one_in, one_in]
      simp only
      rw [hH, hz, hzL, hzP, inB_of ha b1]
      simp [bareK, bareU]
    rw [hv]
    refine ⟨hR, ?_⟩
    unfold stA
    rw [hR, if_pos rfl]
    have hs : stU P L ⟨2, roleI P L hd, 0, roleI P L ra, 0, 0⟩ = ⟨2, rolI P L (roleI P L hd), noText, rolI P L (roleI P L ra), zeroR, noText⟩ := rfl
    rw [hs, a2, b2, h3]
    rfl
  · have hrest2 : (decide (0 ≤ findI L v.toList) && decide (0 ≤ roleI P L ra)) = true := hrest
    rw [Bool.and_eq_true] at hrest2
    have hw : 0 ≤ findI L v.toList := decb hrest2.1
    have ha : 0 ≤ roleI P L ra := decb hrest2.2
    obtain ⟨b1, b2⟩ := role_get ha
    obtain ⟨c1, c2⟩ := findI_get hw
    have hv : ruleV P L ⟨3, hd, wh, ra, rb, v⟩ = ⟨3, roleI P L hd, 0, roleI P L ra, 0, findI L v.toList⟩ := rfl
    have hR : rightU P.length L.length ⟨3, roleI P L hd, 0, roleI P L ra, 0, findI L v.toList⟩ = true := by
      unfold rightU
      rw [three_in, one_in, one_in]
      simp only
      rw [hH, hz, hzP, inB_of ha b1, inB_of hw (by omega)]
      simp [bareK, bareU]
    rw [hv]
    refine ⟨hR, ?_⟩
    unfold stA
    rw [hR, if_pos rfl]
    have hs : stU P L ⟨3, roleI P L hd, 0, roleI P L ra, 0, findI L v.toList⟩ = ⟨3, rolI P L (roleI P L hd), noText, rolI P L (roleI P L ra), zeroR, txt (L.getD (findI L v.toList).toNat [])⟩ := rfl
    rw [hs, a2, b2, c2, txt_of, h3]
    rfl
  · have hrest2 : (decide (0 ≤ roleI P L ra) && decide (0 ≤ roleI P L rb)) = true := hrest
    rw [Bool.and_eq_true] at hrest2
    have ha : 0 ≤ roleI P L ra := decb hrest2.1
    have hb : 0 ≤ roleI P L rb := decb hrest2.2
    obtain ⟨b1, b2⟩ := role_get ha
    obtain ⟨c1, c2⟩ := role_get hb
    have hv : ruleV P L ⟨4, hd, wh, ra, rb, v⟩ = ⟨4, roleI P L hd, 0, roleI P L ra, roleI P L rb, 0⟩ := rfl
    have hR : rightU P.length L.length ⟨4, roleI P L hd, 0, roleI P L ra, roleI P L rb, 0⟩ = true := by
      unfold rightU
      rw [three_in, one_in, one_in]
      simp only
      rw [hH, hzL, hzP, inB_of ha b1, inB_of hb c1]
      simp [bareK, bareU]
    rw [hv]
    refine ⟨hR, ?_⟩
    unfold stA
    rw [hR, if_pos rfl]
    have hs : stU P L ⟨4, roleI P L hd, 0, roleI P L ra, roleI P L rb, 0⟩ = ⟨4, rolI P L (roleI P L hd), noText, rolI P L (roleI P L ra), rolI P L (roleI P L rb), noText⟩ := rfl
    have h2' : (ra.ok && rb.ok && !decide (cmpR rb ra < 0)) = true := h2
    rw [Bool.and_eq_true] at h2'
    have hcmp : ¬ cmpR rb ra < 0 := by simpa using h2'.2
    rw [hs, a2, b2, c2, h3]
    show St.normal ⟨4, hd, noText, ra, rb, noText⟩ = ⟨4, hd, noText, ra, rb, noText⟩
    unfold St.normal
    rw [if_neg (by rintro ⟨_, h⟩; exact hcmp h)]
end Go.Proofs.YteabkbcbmimkgaaGreatDoor.TblT
namespace Go.Proofs.YteabkbcbmimkgaaGreatDoor.LwM
open Go.RowKit Go.Sort Go.Lib Go.Proofs Plain SynP SynJ TabP Tab2 PolA PolE PolG PolH RefPr TblA TblC TblF TblP TblQ TblR TblT TblW SemA SemGa LwA LwE LwG LwH
theorem findI_nn {T : List Str} {s : Str} (h : s ∈ T) : 0 ≤ findI T s := by
  unfold findI
  rw [if_pos h]; omega
theorem roleI_nn {P L : List Str} {r : Rl} (h1 : r.owner.toList ∈ P) (h2 : r.name.toList ∈ L) : 0 ≤ roleI P L r := by
  have a := findI_nn h1
  have b := findI_nn h2
  unfold roleI
  rw [if_neg (by omega)]
  exact Int.add_nonneg (Int.mul_nonneg a (by omega)) b
theorem roleI_eq {P L : List Str} {r : Rl} (h : 0 ≤ roleI P L r) : roleI P L r = findI P r.owner.toList * L.length + findI L r.name.toList ∧ 0 ≤ findI P r.owner.toList ∧ 0 ≤ findI L r.name.toList := by
  unfold roleI at *
  by_cases hh : findI P r.owner.toList < 0 ∨ findI L r.name.toList < 0
  · rw [if_pos hh] at h; omega
  · rw [if_neg hh] at h ⊢
    exact ⟨rfl, by omega, by omega⟩
def AllOk (P L : List Str) (S : List St) : Prop := ∀ s ∈ S, ruleOk P L s = true
theorem ok_parts {P L : List Str} {s : St} (h : ruleOk P L s = true) : 0 ≤ roleI P L s.head ∧ (s.kind = 1 → 0 ≤ findI P s.who.toList) ∧ (s.kind ≠ 1 → 0 ≤ roleI P L s.a) ∧ (s.kind = 4 → 0 ≤ roleI P L s.b) ∧ (s.kind = 3 → 0 ≤ findI L s.via.toList) := by
  unfold ruleOk at h
  simp only [Bool.and_eq_true, decide_eq_true_eq] at h
  obtain ⟨⟨_, h1⟩, h2⟩ := h
  refine ⟨h1, ?_⟩
  unfold restOk at h2
  by_cases k1 : s.kind = 1
  · simp only [k1, if_true, decide_eq_true_eq] at h2
    exact ⟨fun _ => h2, fun h => absurd k1 h, fun h => by omega, fun h => by omega⟩
  · rw [if_neg k1] at h2
    by_cases k3 : s.kind = 3
    · rw [if_pos k3] at h2
      simp only [Bool.and_eq_true, decide_eq_true_eq] at h2
      exact ⟨fun h => absurd h k1, fun _ => h2.2, fun h => by omega, fun _ => h2.1⟩
    · rw [if_neg k3] at h2
      by_cases k4 : s.kind = 4
      · rw [if_pos k4] at h2
        simp only [Bool.and_eq_true, decide_eq_true_eq] at h2
        exact ⟨fun h => absurd h k1, fun _ => h2.1, fun _ => h2.2, fun h => absurd h k3⟩
      · rw [if_neg k4] at h2
        exact ⟨fun h => absurd h k1, fun _ => of_decide_eq_true h2, fun h => absurd h k4, fun h => absurd h k3⟩
theorem rulesOf_eq {P L : List Str} {S : List St} (h : AllOk P L S) : rulesOf P L S = S.map (ruleV P L) := by
  unfold rulesOf rulesT
  rw [List.take_length, List.filter_eq_self.2 h]
theorem rules_right {P L : List Str} {S : List St} (h : AllOk P L S) : (rulesOf P L S).filter (rightU P.length L.length) = S.map (ruleV P L) := by
  rw [rulesOf_eq h]
  refine List.filter_eq_self.2 fun u hu => ?_
  obtain ⟨s, hs, rfl⟩ := List.mem_map.1 hu
  exact (there (h s hs)).1
theorem to_num {P L : List Str} {S : List St} (h : AllOk P L S) {r : Rl} {x : ByteArray} (d : DerN S r x) : 0 ≤ roleI P L r ∧ 0 ≤ findI P x.toList ∧ Der L.length (S.map (ruleV P L)) (roleI P L r) (findI P x.toList) := by
  induction d with
  | mem s hs hk =>
    obtain ⟨h0, h1, _, _, _⟩ := ok_parts (h s hs)
    have hd : Der L.length (S.map (ruleV P L)) (ruleV P L s).head (ruleV P L s).who := Der.mem (ruleV P L s) (List.mem_map.2 ⟨s, hs, rfl⟩) hk
    have e : (ruleV P L s).who = findI P s.who.toList := by unfold ruleV; simp [hk]
    rw [e] at hd
    exact ⟨h0, h1 hk, hd⟩
  | incl s x hs hk _ ih =>
    obtain ⟨h0, _, _, _, _⟩ := ok_parts (h s hs)
    refine ⟨h0, ih.2.1, Der.incl (ruleV P L s) _ (List.mem_map.2 ⟨s, hs, rfl⟩) hk ?_⟩
    have e : (ruleV P L s).a = roleI P L s.a := by unfold ruleV; simp [hk]
    rw [e]; exact ih.2.2
  | link s x y hs hk _ _ i1 i2 =>
    obtain ⟨h0, _, _, _, h4⟩ := ok_parts (h s hs)
    refine ⟨h0, i2.2.1, Der.link (ruleV P L s) (findI P x.toList) _ (List.mem_map.2 ⟨s, hs, rfl⟩) hk ?_ ?_⟩
    · have e : (ruleV P L s).a = roleI P L s.a := by unfold ruleV; simp [hk]
      rw [e]; exact i1.2.2
    · have e : (ruleV P L s).via = findI L s.via.toList := by unfold ruleV; simp [hk]
      rw [e, ← (roleI_eq i2.1).1]
      exact i2.2.2
  | both s x hs hk _ _ i1 i2 =>
    obtain ⟨h0, _, _, _, _⟩ := ok_parts (h s hs)
    refine ⟨h0, i1.2.1, Der.both (ruleV P L s) _ (List.mem_map.2 ⟨s, hs, rfl⟩) hk ?_ ?_⟩
    · have e : (ruleV P L s).a = roleI P L s.a := by unfold ruleV; simp [hk]
      rw [e]; exact i1.2.2
    · have e : (ruleV P L s).b = roleI P L s.b := by unfold ruleV; simp [hk]
      rw [e]; exact i2.2.2
theorem rolI_at {P L : List Str} {x y : Nat} (hx : x < P.length) (hy : y < L.length) : rolI P L ((x : Int) * L.length + y) = ⟨txt (P.getD x []), txt (L.getD y [])⟩ := by
  have hlt : x * L.length + y < P.length * L.length := by
    have : (x + 1) * L.length ≤ P.length * L.length := Nat.mul_le_mul_right _ hx
    rw [Nat.add_mul, Nat.one_mul] at this
    omega
  have e : ((x : Int) * L.length + y) = ((x * L.length + y : Nat) : Int) := by rw [Int.natCast_add, Int.natCast_mul]
  unfold rolI
  rw [e, if_pos ⟨by omega, by omega⟩, Int.toNat_natCast]
  have hdiv : (x * L.length + y) / L.length = x := by
    rw [Nat.mul_comm, Nat.mul_add_div (by omega), Nat.div_eq_of_lt hy, Nat.add_zero]
  have hmod : (x * L.length + y) % L.length = y := by
    rw [Nat.mul_comm, Nat.mul_add_mod, Nat.mod_eq_of_lt hy]
  rw [hdiv, hmod]
theorem to_name {P L : List Str} {S : List St} (h : AllOk P L S) {i j : Int} (d : Der L.length (S.map (ruleV P L)) i j) : 0 ≤ i ∧ (∃ n : Nat, j = n ∧ n < P.length) ∧ DerN S (rolI P L i) (txt (P.getD j.toNat [])) := by
  induction d with
  | mem u hu hk =>
    obtain ⟨s, hs, rfl⟩ := List.mem_map.1 hu
    have hk' : s.kind = 1 := hk
    obtain ⟨h0, h1, _, _, _⟩ := ok_parts (h s hs)
    have e : (ruleV P L s).who = findI P s.who.toList := by unfold ruleV; simp [hk']
    obtain ⟨g1, g2⟩ := findI_get (h1 hk')
    have e2 : (ruleV P L s).head = roleI P L s.head := rfl
    rw [e, e2, (role_get h0).2, g2, txt_of]
    exact ⟨h0, ⟨_, by have := h1 hk'; omega, g1⟩, .mem s hs hk'⟩
  | incl u x hu hk _ ih =>
    obtain ⟨s, hs, rfl⟩ := List.mem_map.1 hu
    have hk' : s.kind = 2 := hk
    obtain ⟨h0, _, h2, _, _⟩ := ok_parts (h s hs)
    have e : (ruleV P L s).a = roleI P L s.a := by unfold ruleV; simp [hk']
    have e2 : (ruleV P L s).head = roleI P L s.head := rfl
    rw [e, (role_get (h2 (by omega))).2] at ih
    rw [e2, (role_get h0).2]
    exact ⟨h0, ih.2.1, .incl s _ hs hk' ih.2.2⟩
  | link u x y hu hk _ _ i1 i2 =>
    obtain ⟨s, hs, rfl⟩ := List.mem_map.1 hu
    have hk' : s.kind = 3 := hk
    obtain ⟨h0, _, h2, _, h4⟩ := ok_parts (h s hs)
    have e : (ruleV P L s).a = roleI P L s.a := by unfold ruleV; simp [hk']
    have ev : (ruleV P L s).via = findI L s.via.toList := by unfold ruleV; simp [hk']
    have e2 : (ruleV P L s).head = roleI P L s.head := rfl
    obtain ⟨g1, g2⟩ := findI_get (h4 hk')
    rw [e, (role_get (h2 (by omega))).2] at i1
    obtain ⟨_, ⟨n, rfl, hn⟩, d1⟩ := i1
    rw [ev] at i2
    have ef : findI L s.via.toList = (((findI L s.via.toList).toNat : Nat) : Int) := by have := h4 hk'; omega
    rw [ef, rolI_at hn g1, g2, txt_of] at i2
    rw [Int.toNat_natCast] at d1
    rw [e2, (role_get h0).2]
    exact ⟨h0, i2.2.1, .link s _ _ hs hk' d1 i2.2.2⟩
  | both u x hu hk _ _ i1 i2 =>
    obtain ⟨s, hs, rfl⟩ := List.mem_map.1 hu
    have hk' : s.kind = 4 := hk
    obtain ⟨h0, _, h2, h3, _⟩ := ok_parts (h s hs)
    have e : (ruleV P L s).a = roleI P L s.a := by unfold ruleV; simp [hk']
    have eb : (ruleV P L s).b = roleI P L s.b := by unfold ruleV; simp [hk']
    have e2 : (ruleV P L s).head = roleI P L s.head := rfl
    rw [e, (role_get (h2 (by omega))).2] at i1
    rw [eb, (role_get (h3 hk')).2] at i2
    rw [e2, (role_get h0).2]
    exact ⟨h0, i1.2.1, .both s _ hs hk' i1.2.2 i2.2.2⟩
theorem der_iff {P L : List Str} {S : List St} (hP : P.Pairwise (· < ·)) (h : AllOk P L S) {r : Rl} (hr : 0 ≤ roleI P L r) {k : Nat} (hk : k < P.length) : Der L.length (S.map (ruleV P L)) (roleI P L r) k ↔ DerN S r (txt (P.getD k [])) := by
  constructor
  · intro d
    have := (to_name h d).2.2
    rwa [(role_get hr).2, Int.toNat_natCast] at this
  · intro d
    obtain ⟨_, _, d2⟩ := to_num h d
    have e : (txt (P.getD k [])).toList = P[k] := by rw [txt_toList, List.getD_eq_getElem?_getD, List.getElem?_eq_getElem hk]; rfl
    rw [e, findI_hit hP hk rfl] at d2
    exact d2
theorem mem_memT {P L : List Str} {S : List St} (hP : P.Pairwise (· < ·)) (h : AllOk P L S) (r : Rl) (y : Str) : y ∈ memT P L (rulesOf P L S) r ↔ DerN S r (txt y) := by
  unfold memT
  rw [List.mem_map]
  constructor
  · rintro ⟨k, hk, rfl⟩
    obtain ⟨h1, h2⟩ := mem_memD.1 hk
    rw [rules_right h] at h2
    have hr : 0 ≤ roleI P L r := (to_name h h2).1
    exact (der_iff hP h hr h1).1 h2
  · intro d
    obtain ⟨h1, h2, h3⟩ := to_num h d
    rw [txt_toList] at h2 h3
    obtain ⟨g1, g2⟩ := findI_get h2
    refine ⟨(findI P y).toNat, mem_memD.2 ⟨g1, ?_⟩, g2⟩
    rw [rules_right h]
    have e : (((findI P y).toNat : Nat) : Int) = findI P y := by omega
    rw [e]; exact h3
theorem memT_rising {P L : List Str} (hP : P.Pairwise (· < ·)) (T : List Ru) (r : Rl) : (memT P L T r).Pairwise (· < ·) := by
  unfold memT
  rw [List.pairwise_map]
  have h1 : (memD P.length L.length T (roleI P L r)).Pairwise (· < ·) := by
    unfold memD
    exact List.Pairwise.filter _ List.pairwise_lt_range
  refine List.Pairwise.imp_of_mem (fun {a b} ha hb hab => ?_) h1
  have hla := (mem_memD.1 ha).1
  have hlb := (mem_memD.1 hb).1
  rw [List.getD_eq_getElem?_getD, List.getD_eq_getElem?_getD, List.getElem?_eq_getElem hla, List.getElem?_eq_getElem hlb]
  exact List.pairwise_iff_getElem.1 hP a b hla hlb hab
theorem memF_rising (L : List Pa) (r : Rl) : (memF L r).Pairwise (· < ·) := by rw [memF_tab]; exact tab_sorted _
theorem txt_bt (x : ByteArray) : txt (bt x) = x := by unfold txt bt; rfl
theorem bt_txt (y : Str) : bt (txt y) = y := by unfold txt bt; simp
theorem mem_memF {L : List Pa} {S : List St} (h : ∀ r x, (⟨r, x⟩ : Pa) ∈ L ↔ DerN S r x) (r : Rl) (y : Str) : y ∈ memF L r ↔ DerN S r (txt y) := by
  rw [memF_tab, mem_tab, List.mem_map]
  constructor
  · rintro ⟨x, hx, rfl⟩
    rw [txt_bt]
    exact (h r x).1 (mem_via.1 hx)
  · intro d
    exact ⟨txt y, mem_via.2 ((h r _).2 d), bt_txt y⟩
theorem mem_same {P L : List Str} {S : List St} {X : List Pa} (hP : P.Pairwise (· < ·)) (h : AllOk P L S) (hX : ∀ r x, (⟨r, x⟩ : Pa) ∈ X ↔ DerN S r x) (r : Rl) : memT P L (rulesOf P L S) r = memF X r :=
  eq_of_rising (memT_rising hP _ r) (memF_rising X r) fun y => by rw [mem_memT hP h, mem_memF hX]
theorem role_in {p : Py} {r : Rl} (h : r ∈ rolesP p) : r.owner.toList ∈ PT p ∧ r.name.toList ∈ NT p := by
  unfold PT NT
  rw [mem_tab, mem_tab]
  unfold prinsT namesT ownersR namesR
  rw [List.take_length]
  refine ⟨?_, ?_⟩
  · rw [List.mem_append, List.mem_append]
    exact .inl (.inl (List.mem_map.2 ⟨r, h, (bt_list _).symm⟩))
  · rw [List.mem_append]
    exact .inl (List.mem_map.2 ⟨r, h, (bt_list _).symm⟩)
theorem stmt_role {p : Py} {s : St} (hs : s ∈ p.stmts) {r : Rl} (hr : r ∈ rolesL s) : r ∈ rolesP p := by
  unfold rolesP rolesS
  rw [List.mem_append, List.mem_append, List.take_length]
  exact .inl (.inr (List.mem_flatten.2 ⟨_, List.mem_map.2 ⟨s, hs, rfl⟩, hr⟩))
theorem ok_of {p : Py} {s : St} (hs : s ∈ p.stmts) (hr : s.right = true) : ruleOk (PT p) (NT p) s = true := by
  have hrol : ∀ r ∈ rolesL s, 0 ≤ roleI (PT p) (NT p) r := fun r h => by
    obtain ⟨a, b⟩ := role_in (stmt_role hs h)
    exact roleI_nn a b
  have hh : 0 ≤ roleI (PT p) (NT p) s.head := hrol _ (by
    unfold rolesL
    split
    · simp
    · split <;> simp)
  unfold ruleOk
  rw [hr, decide_eq_true hh, Bool.true_and, Bool.true_and]
  unfold restOk
  have hk := kind_of_right hr
  by_cases k1 : s.kind = 1
  · rw [if_pos k1]
    refine decide_eq_true (findI_nn ?_)
    unfold PT
    rw [mem_tab]
    unfold prinsT whosS
    rw [List.mem_append, List.mem_append, List.take_length (l := p.stmts)]
    exact .inl (.inr (List.mem_map.2 ⟨s, List.mem_filter.2 ⟨hs, by simp [k1]⟩, (bt_list _).symm⟩))
  · rw [if_neg k1]
    have ha : 0 ≤ roleI (PT p) (NT p) s.a := hrol _ (by
      unfold rolesL
      split
      · simp
      · split
        · simp
        · exfalso; omega)
    by_cases k3 : s.kind = 3
    · rw [if_pos k3, decide_eq_true ha, Bool.and_true]
      refine decide_eq_true (findI_nn ?_)
      unfold NT
      rw [mem_tab]
      unfold namesT viasS
      rw [List.mem_append, List.take_length (l := p.stmts)]
      exact .inr (List.mem_map.2 ⟨s, List.mem_filter.2 ⟨hs, by simp [k3]⟩, (bt_list _).symm⟩)
    · rw [if_neg k3]
      by_cases k4 : s.kind = 4
      · rw [if_pos k4, decide_eq_true ha, Bool.true_and]
        exact decide_eq_true (hrol _ (by unfold rolesL; rw [if_neg (by omega), if_pos k4]; simp))
      · rw [if_neg k4]
        exact decide_eq_true ha
theorem min_ok {p : Py} (h : ∀ s ∈ p.stmts, s.right = true) : AllOk (PT p) (NT p) (minS p) := fun s hs => by
  unfold minS at hs
  have := (List.mem_filter.1 hs).1
  exact ok_of this (h s this)
end Go.Proofs.YteabkbcbmimkgaaGreatDoor.LwM
