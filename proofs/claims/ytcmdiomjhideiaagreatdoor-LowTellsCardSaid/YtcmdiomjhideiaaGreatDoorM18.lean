/- policy.Fits, by contract. -/
import Derived.Test.YtcmdiomjhideiaaGreatDoorM17
import Derived.Test.YtcmdiomjhideiaaGreatDoorM16
import Derived.Deep.RegionHeld3
import Derived.Laws.AppendOwn
import Derived.RegionTactic
import Derived.Deep.CutBlock
import Derived.Deep.RegionHeld
import Derived.Deep.LoopGhost
import Derived.Test.YtcmdiomjhideiaaGreatDoorM08
import Derived.Test.YtcmdiomjhideiaaGreatDoorM01
import Derived.Lib.TrailingZeros
import Derived.OwnWalk
import Derived.Shelf.Spec.TrailingZeros
import Derived.Laws.OwnMore
import Derived.Maps.AppendAt
import Derived.Lib.AppendZeros
namespace Go.Proofs.YtcmdiomjhideiaaGreatDoor.PolI
set_option linter.unusedVariables false
set_option linter.unusedSimpArgs false
open Go.RowKit Go.Sort Go.Lib Go.Proofs Go.Proofs.YtcmdiomjhideiaaGreatDoor.Plain Go.Proofs.YtcmdiomjhideiaaGreatDoor.SynP Go.Proofs.YtcmdiomjhideiaaGreatDoor.TabP Go.Proofs.YtcmdiomjhideiaaGreatDoor.Tab1 Go.Proofs.YtcmdiomjhideiaaGreatDoor.Tab5 Go.Proofs.YtcmdiomjhideiaaGreatDoor.SynJ Go.Proofs.YtcmdiomjhideiaaGreatDoor.QryP Go.Proofs.YtcmdiomjhideiaaGreatDoor.PolA Go.Proofs.YtcmdiomjhideiaaGreatDoor.PolE Go.Proofs.YtcmdiomjhideiaaGreatDoor.PolG Go.Proofs.YtcmdiomjhideiaaGreatDoor.PolH
set_option linter.unusedVariables false
set_option linter.unusedSimpArgs false
def fitsP (p : Py) : Bool := decide (p.stmts.length ≤ 80) && decide (p.grow.length ≤ 40) && decide (p.shrink.length ≤ 40) && decide (p.asks.length ≤ 16) && decide ((tab (prinsT p)).length ≤ 16) && decide ((tab (namesT p)).length ≤ 12)
set_option maxHeartbeats 1000000 in
set_option maxRecDepth 100000 in
theorem fits (p : Py) (A1 A2 A3 A4 : Option Addr) (c1 c2 c3 c4 : Nat) (w : World) (hf : p.fit) (hp : PG w A1 A2 A3 A4 p) : Calls Tryz.prog 150 #[p.val A1 A2 A3 A4 c1 c2 c3 c4] w fun e w' => e = .returned (.bool (fitsP p)) ∧ Below w.heap.size w w' := by
  have HPr := Lib.hid (fun w' h => prins p A1 A2 A3 A4 c1 c2 c3 c4 w' hf h)
  have HNm := Lib.hid (fun w' h => names p A1 A2 A3 A4 c1 c2 c3 c4 w' hf h)
  have HP := Lib.hid hp
  unfold fitsP
  generalize tab (prinsT p) = T at *
  generalize tab (namesT p) = U at *
  obtain ⟨S, G, H, Q⟩ := p
  clear hf hp
  unfold Py.val at *
  simp only at *
  have hbx := Lib.hid ((Below.refl w.heap.size w).alloc (Nat.le_refl _) (.cells #[.slice A1 S.length c1, .slice A2 G.length c2, .slice A3 H.length c3, .slice A4 Q.length c4] 26))
  by_cases hS : S.length ≤ 80
  rotate_left
  · rw [decide_eq_false hS]
    have d : decide ((S.length : Int) ≤ 80) = false := by simp; omega
    have d' : ¬ (S.length : Int) ≤ 80 := by omega
    simp only [Bool.and_false, Bool.false_and]
    go_enter Tryz.func150, Tryz.ntmps150
    go_wp2_with fail
    go_ret
    exact ⟨rfl, hbx.out⟩
  rw [decide_eq_true hS]
  have dS : decide ((S.length : Int) ≤ 80) = true := by simp; omega
  have eS : (S.length : Int) ≤ 80 := by omega
  by_cases hG : G.length ≤ 40
  rotate_left
  · rw [decide_eq_false hG]
    have d : decide ((G.length : Int) ≤ 40) = false := by simp; omega
    have d' : ¬ (G.length : Int) ≤ 40 := by omega
    simp only [Bool.and_false, Bool.false_and]
    go_enter Tryz.func150, Tryz.ntmps150
    go_wp2_with fail
    go_ret
    exact ⟨rfl, hbx.out⟩
  rw [decide_eq_true hG]
  have dG : decide ((G.length : Int) ≤ 40) = true := by simp; omega
  have eG : (G.length : Int) ≤ 40 := by omega
  by_cases hH : H.length ≤ 40
  rotate_left
  · rw [decide_eq_false hH]
    have d : decide ((H.length : Int) ≤ 40) = false := by simp; omega
    have d' : ¬ (H.length : Int) ≤ 40 := by omega
    simp only [Bool.and_false, Bool.false_and]
    go_enter Tryz.func150, Tryz.ntmps150
    go_wp2_with fail
    go_ret
    exact ⟨rfl, hbx.out⟩
  rw [decide_eq_true hH]
  have dH : decide ((H.length : Int) ≤ 40) = true := by simp; omega
  have eH : (H.length : Int) ≤ 40 := by omega
  by_cases hQ : Q.length ≤ 16
  rotate_left
  · rw [decide_eq_false hQ]
    have d : decide ((Q.length : Int) ≤ 16) = false := by simp; omega
    have d' : ¬ (Q.length : Int) ≤ 16 := by omega
    simp only [Bool.and_false, Bool.false_and]
    go_enter Tryz.func150, Tryz.ntmps150
    go_wp2_with fail
    go_ret
    exact ⟨rfl, hbx.out⟩
  rw [decide_eq_true hQ]
  have dQ : decide ((Q.length : Int) ≤ 16) = true := by simp; omega
  have eQ : (Q.length : Int) ≤ 16 := by omega
  simp only [Bool.true_and]
  by_cases hT : T.length ≤ 16
  rotate_left
  · rw [decide_eq_false hT]
    have d : decide ((T.length : Int) ≤ 16) = false := by simp; omega
    have d' : ¬ (T.length : Int) ≤ 16 := by omega
    simp only [Bool.false_and]
    go_enter Tryz.func150, Tryz.ntmps150
    go_wp2_with fail
    refine (HPr.out _ (HP.out.below hbx.out)).mono ?_
    rintro e w1 ⟨v, rfl, hown, hb1⟩
    obtain ⟨A, c, rfl, _, _⟩ := SRow.of_own hown
    have hb2 := hbx.out.trans (hb1.mono (by simp))
    have HP1 := Lib.hid (HP.out.below hb2)
    have hc : ∀ o, w1.cell? ⟨w.heap.size, o, none⟩ = (#[.slice A1 S.length c1, .slice A2 G.length c2, .slice A3 H.length c3, .slice A4 Q.length c4] : Array Value)[o]? := fun o => by rw [hb1.cell (by simp), Lib.cell_of_heap (heap_alloc_new w _)]
    have HB2 := Lib.hid hb2
    clear hown hb1 hb2
    go_wp2_with fail
    go_ret
    exact ⟨rfl, HB2.out⟩
  rw [decide_eq_true hT]
  have dT : decide ((T.length : Int) ≤ 16) = true := by simp; omega
  have eT : (T.length : Int) ≤ 16 := by omega
  simp only [Bool.true_and]
  by_cases hU : U.length ≤ 12
  · rw [decide_eq_true hU]
    have dU : decide ((U.length : Int) ≤ 12) = true := by simp; omega
    have eU : (U.length : Int) ≤ 12 := by omega
    go_enter Tryz.func150, Tryz.ntmps150
    go_wp2_with fail
    refine (HPr.out _ (HP.out.below hbx.out)).mono ?_
    rintro e w1 ⟨v, rfl, hown, hb1⟩
    obtain ⟨A, c, rfl, _, _⟩ := SRow.of_own hown
    have hb2 := hbx.out.trans (hb1.mono (by simp))
    have HP1 := Lib.hid (HP.out.below hb2)
    have hc : ∀ o, w1.cell? ⟨w.heap.size, o, none⟩ = (#[.slice A1 S.length c1, .slice A2 G.length c2, .slice A3 H.length c3, .slice A4 Q.length c4] : Array Value)[o]? := fun o => by rw [hb1.cell (by simp), Lib.cell_of_heap (heap_alloc_new w _)]
    have HB2 := Lib.hid hb2
    clear hown hb1 hb2
    go_wp2_with fail
    refine (HNm.out _ HP1.out).mono ?_
    rintro e w2 ⟨v, rfl, hown, hb3⟩
    obtain ⟨A', c', rfl, _, _⟩ := SRow.of_own hown
    have HB4 := Lib.hid (HB2.out.trans (hb3.mono HB2.out.size))
    clear hown hb3 hc
    go_wp2_with fail
    go_ret
    exact ⟨rfl, HB4.out⟩
  · rw [decide_eq_false hU]
    have dU : decide ((U.length : Int) ≤ 12) = false := by simp; omega
    have eU : ¬ (U.length : Int) ≤ 12 := by omega
    go_enter Tryz.func150, Tryz.ntmps150
    go_wp2_with fail
    refine (HPr.out _ (HP.out.below hbx.out)).mono ?_
    rintro e w1 ⟨v, rfl, hown, hb1⟩
    obtain ⟨A, c, rfl, _, _⟩ := SRow.of_own hown
    have hb2 := hbx.out.trans (hb1.mono (by simp))
    have HP1 := Lib.hid (HP.out.below hb2)
    have hc : ∀ o, w1.cell? ⟨w.heap.size, o, none⟩ = (#[.slice A1 S.length c1, .slice A2 G.length c2, .slice A3 H.length c3, .slice A4 Q.length c4] : Array Value)[o]? := fun o => by rw [hb1.cell (by simp), Lib.cell_of_heap (heap_alloc_new w _)]
    have HB2 := Lib.hid hb2
    clear hown hb1 hb2
    go_wp2_with fail
    refine (HNm.out _ HP1.out).mono ?_
    rintro e w2 ⟨v, rfl, hown, hb3⟩
    obtain ⟨A', c', rfl, _, _⟩ := SRow.of_own hown
    have HB4 := Lib.hid (HB2.out.trans (hb3.mono HB2.out.size))
    clear hown hb3 hc
    go_wp2_with fail
    go_ret
    exact ⟨rfl, HB4.out⟩
end Go.Proofs.YtcmdiomjhideiaaGreatDoor.PolI
/- The document's Fits, by contract. -/
namespace Go.Proofs.YtcmdiomjhideiaaGreatDoor.RefFi
set_option linter.unusedVariables false
set_option linter.unusedSimpArgs false
open Go.RowKit Go.Sort Go.Lib Go.Proofs Go.Proofs.YtcmdiomjhideiaaGreatDoor.Plain Go.Proofs.YtcmdiomjhideiaaGreatDoor.SynP Go.Proofs.YtcmdiomjhideiaaGreatDoor.TabP Go.Proofs.YtcmdiomjhideiaaGreatDoor.Tab1 Go.Proofs.YtcmdiomjhideiaaGreatDoor.Tab5 Go.Proofs.YtcmdiomjhideiaaGreatDoor.SynJ Go.Proofs.YtcmdiomjhideiaaGreatDoor.QryP Go.Proofs.YtcmdiomjhideiaaGreatDoor.PolA Go.Proofs.YtcmdiomjhideiaaGreatDoor.PolE Go.Proofs.YtcmdiomjhideiaaGreatDoor.PolG Go.Proofs.YtcmdiomjhideiaaGreatDoor.PolH Go.Proofs.YtcmdiomjhideiaaGreatDoor.PolI Go.Proofs.YtcmdiomjhideiaaGreatDoor.RefRo Go.Proofs.YtcmdiomjhideiaaGreatDoor.RefPr Go.Proofs.YtcmdiomjhideiaaGreatDoor.RefPq
set_option linter.unusedVariables false
set_option linter.unusedSimpArgs false
theorem roles_mem (p : Py) (r : Rl) : r ∈ rolesR p ↔ r ∈ rolesP p := by
  unfold rolesR rolesP
  simp only [List.mem_append]
  constructor
  · rintro (((h | h) | h) | h) <;> simp [h]
  · rintro (((h | h) | h) | h) <;> simp [h]
theorem mem_owners (R : List Rl) (x : Str) : x ∈ ownersR R R.length ↔ ∃ r, r ∈ R ∧ bt r.owner = x := by
  unfold ownersR; rw [List.take_length, List.mem_map]
theorem mem_names (R : List Rl) (x : Str) : x ∈ namesR R R.length ↔ ∃ r, r ∈ R ∧ bt r.name = x := by
  unfold namesR; rw [List.take_length, List.mem_map]
theorem prins_eq (p : Py) : fold (prinsD p) = tab (prinsT p) := by
  rw [fold_tab]
  refine eq_of_rising (tab_sorted _) (tab_sorted _) fun x => ?_
  rw [mem_tab, mem_tab]
  unfold prinsD prinsT
  simp only [List.mem_append, mem_owners, roles_mem]
theorem names_eq (p : Py) : fold (namesD p) = tab (namesT p) := by
  rw [fold_tab]
  refine eq_of_rising (tab_sorted _) (tab_sorted _) fun x => ?_
  rw [mem_tab, mem_tab]
  unfold namesD namesT
  simp only [List.mem_append, mem_names, roles_mem]
set_option maxHeartbeats 1000000 in
set_option maxRecDepth 100000 in
theorem fitsRef (p : Py) (A1 A2 A3 A4 : Option Addr) (c1 c2 c3 c4 : Nat) (w : World) (hf : p.fit) (hp : PG w A1 A2 A3 A4 p) : Calls Tryz.prog 68 #[p.val A1 A2 A3 A4 c1 c2 c3 c4] w fun e w' => e = .returned (.bool (fitsP p)) ∧ Below w.heap.size w w' := by
  have HPr := Lib.hid (fun h4 w' h => prinsRef p A1 A2 A3 A4 c1 c2 c3 c4 w' hf h4 h)
  have HNm := Lib.hid (fun w' h => namesRef p A1 A2 A3 A4 c1 c2 c3 c4 w' hf h)
  have HP := Lib.hid hp
  rw [prins_eq] at HPr
  rw [names_eq] at HNm
  unfold fitsP
  generalize tab (prinsT p) = T at *
  generalize tab (namesT p) = U at *
  obtain ⟨S, G, H, Q⟩ := p
  clear hf hp
  unfold Py.val at *
  simp only at *
  have hbx := Lib.hid ((Below.refl w.heap.size w).alloc (Nat.le_refl _) (.cells #[.slice A1 S.length c1, .slice A2 G.length c2, .slice A3 H.length c3, .slice A4 Q.length c4] 26))
  by_cases hS : S.length ≤ 80
  rotate_left
  · rw [decide_eq_false hS]
    have d : decide ((80 : Int) < S.length) = true := by simp; omega
    have d' : (80 : Int) < S.length := by omega
    simp only [Bool.and_false, Bool.false_and]
    go_enter Tryz.func68, Tryz.ntmps68
    go_wp2_with fail
    go_ret
    exact ⟨rfl, hbx.out⟩
  rw [decide_eq_true hS]
  have dS : decide ((80 : Int) < S.length) = false := by simp; omega
  have eS : ¬ (80 : Int) < S.length := by omega
  by_cases hG : G.length ≤ 40
  rotate_left
  · rw [decide_eq_false hG]
    have d : decide ((40 : Int) < G.length) = true := by simp; omega
    have d' : (40 : Int) < G.length := by omega
    simp only [Bool.and_false, Bool.false_and]
    go_enter Tryz.func68, Tryz.ntmps68
    go_wp2_with fail
    go_ret
    exact ⟨rfl, hbx.out⟩
  rw [decide_eq_true hG]
  have dG : decide ((40 : Int) < G.length) = false := by simp; omega
  have eG : ¬ (40 : Int) < G.length := by omega
  by_cases hH : H.length ≤ 40
  rotate_left
  · rw [decide_eq_false hH]
    have d : decide ((40 : Int) < H.length) = true := by simp; omega
    have d' : (40 : Int) < H.length := by omega
    simp only [Bool.and_false, Bool.false_and]
    go_enter Tryz.func68, Tryz.ntmps68
    go_wp2_with fail
    go_ret
    exact ⟨rfl, hbx.out⟩
  rw [decide_eq_true hH]
  have dH : decide ((40 : Int) < H.length) = false := by simp; omega
  have eH : ¬ (40 : Int) < H.length := by omega
  by_cases hQ : Q.length ≤ 16
  rotate_left
  · rw [decide_eq_false hQ]
    have d : decide ((16 : Int) < Q.length) = true := by simp; omega
    have d' : (16 : Int) < Q.length := by omega
    simp only [Bool.and_false, Bool.false_and]
    go_enter Tryz.func68, Tryz.ntmps68
    go_wp2_with fail
    go_ret
    exact ⟨rfl, hbx.out⟩
  rw [decide_eq_true hQ]
  have dQ : decide ((16 : Int) < Q.length) = false := by simp; omega
  have eQ : ¬ (16 : Int) < Q.length := by omega
  simp only [Bool.true_and]
  by_cases hT : T.length ≤ 16
  rotate_left
  · rw [decide_eq_false hT]
    have d : decide ((T.length : Int) ≤ 16) = false := by simp; omega
    have d' : ¬ (T.length : Int) ≤ 16 := by omega
    simp only [Bool.false_and]
    go_enter Tryz.func68, Tryz.ntmps68
    go_wp2_with fail
    refine (HPr.out (by omega) _ (HP.out.below hbx.out)).mono ?_
    rintro e w1 ⟨v, rfl, hown, hb1⟩
    obtain ⟨A, c, rfl, _, _⟩ := SRow.of_own hown
    have hb2 := hbx.out.trans (hb1.mono (by simp))
    have HP1 := Lib.hid (HP.out.below hb2)
    have hc : ∀ o, w1.cell? ⟨w.heap.size, o, none⟩ = (#[.slice A1 S.length c1, .slice A2 G.length c2, .slice A3 H.length c3, .slice A4 Q.length c4] : Array Value)[o]? := fun o => by rw [hb1.cell (by simp), Lib.cell_of_heap (heap_alloc_new w _)]
    have HB2 := Lib.hid hb2
    clear hown hb1 hb2
    go_wp2_with fail
    go_ret
    exact ⟨rfl, HB2.out⟩
  rw [decide_eq_true hT]
  have dT : decide ((T.length : Int) ≤ 16) = true := by simp; omega
  have eT : (T.length : Int) ≤ 16 := by omega
  simp only [Bool.true_and]
  by_cases hU : U.length ≤ 12
  · rw [decide_eq_true hU]
    have dU : decide ((U.length : Int) ≤ 12) = true := by simp; omega
    have eU : (U.length : Int) ≤ 12 := by omega
    go_enter Tryz.func68, Tryz.ntmps68
    go_wp2_with fail
    refine (HPr.out (by omega) _ (HP.out.below hbx.out)).mono ?_
    rintro e w1 ⟨v, rfl, hown, hb1⟩
    obtain ⟨A, c, rfl, _, _⟩ := SRow.of_own hown
    have hb2 := hbx.out.trans (hb1.mono (by simp))
    have HP1 := Lib.hid (HP.out.below hb2)
    have hc : ∀ o, w1.cell? ⟨w.heap.size, o, none⟩ = (#[.slice A1 S.length c1, .slice A2 G.length c2, .slice A3 H.length c3, .slice A4 Q.length c4] : Array Value)[o]? := fun o => by rw [hb1.cell (by simp), Lib.cell_of_heap (heap_alloc_new w _)]
    have HB2 := Lib.hid hb2
    clear hown hb1 hb2
    go_wp2_with fail
    refine (HNm.out _ HP1.out).mono ?_
    rintro e w2 ⟨v, rfl, hown, hb3⟩
    obtain ⟨A', c', rfl, _, _⟩ := SRow.of_own hown
    have HB4 := Lib.hid (HB2.out.trans (hb3.mono HB2.out.size))
    clear hown hb3 hc
    go_wp2_with fail
    go_ret
    exact ⟨rfl, HB4.out⟩
  · rw [decide_eq_false hU]
    have dU : decide ((U.length : Int) ≤ 12) = false := by simp; omega
    have eU : ¬ (U.length : Int) ≤ 12 := by omega
    go_enter Tryz.func68, Tryz.ntmps68
    go_wp2_with fail
    refine (HPr.out (by omega) _ (HP.out.below hbx.out)).mono ?_
    rintro e w1 ⟨v, rfl, hown, hb1⟩
    obtain ⟨A, c, rfl, _, _⟩ := SRow.of_own hown
    have hb2 := hbx.out.trans (hb1.mono (by simp))
    have HP1 := Lib.hid (HP.out.below hb2)
    have hc : ∀ o, w1.cell? ⟨w.heap.size, o, none⟩ = (#[.slice A1 S.length c1, .slice A2 G.length c2, .slice A3 H.length c3, .slice A4 Q.length c4] : Array Value)[o]? := fun o => by rw [hb1.cell (by simp), Lib.cell_of_heap (heap_alloc_new w _)]
    have HB2 := Lib.hid hb2
    clear hown hb1 hb2
    go_wp2_with fail
    refine (HNm.out _ HP1.out).mono ?_
    rintro e w2 ⟨v, rfl, hown, hb3⟩
    obtain ⟨A', c', rfl, _, _⟩ := SRow.of_own hown
    have HB4 := Lib.hid (HB2.out.trans (hb3.mono HB2.out.size))
    clear hown hb3 hc
    go_wp2_with fail
    go_ret
    exact ⟨rfl, HB4.out⟩
end Go.Proofs.YtcmdiomjhideiaaGreatDoor.RefFi
/- Tables: For, Rules, and rules held against rules, by contract. -/
namespace Go.Proofs.YtcmdiomjhideiaaGreatDoor.TblV
set_option linter.unusedVariables false
set_option linter.unusedSimpArgs false
open Go.RowKit Go.Sort Go.Lib Go.Proofs Go.Proofs.YtcmdiomjhideiaaGreatDoor.Plain Go.Proofs.YtcmdiomjhideiaaGreatDoor.SynP Go.Proofs.YtcmdiomjhideiaaGreatDoor.SynE Go.Proofs.YtcmdiomjhideiaaGreatDoor.Grown Go.Proofs.YtcmdiomjhideiaaGreatDoor.TabP Go.Proofs.YtcmdiomjhideiaaGreatDoor.Tab1 Go.Proofs.YtcmdiomjhideiaaGreatDoor.Tab2 Go.Proofs.YtcmdiomjhideiaaGreatDoor.Tab5 Go.Proofs.YtcmdiomjhideiaaGreatDoor.QryP Go.Proofs.YtcmdiomjhideiaaGreatDoor.PolA Go.Proofs.YtcmdiomjhideiaaGreatDoor.PolE Go.Proofs.YtcmdiomjhideiaaGreatDoor.PolG Go.Proofs.YtcmdiomjhideiaaGreatDoor.PolH Go.Proofs.YtcmdiomjhideiaaGreatDoor.PolOp Go.Proofs.YtcmdiomjhideiaaGreatDoor.PolLi Go.Proofs.YtcmdiomjhideiaaGreatDoor.TblA Go.Proofs.YtcmdiomjhideiaaGreatDoor.TblB Go.Proofs.YtcmdiomjhideiaaGreatDoor.TblC Go.Proofs.YtcmdiomjhideiaaGreatDoor.TblF Go.Proofs.YtcmdiomjhideiaaGreatDoor.TblI
set_option linter.unusedVariables false
set_option linter.unusedSimpArgs false
theorem prinsT_len {p : Py} (h : Few p) (c : Came p) : (prinsT p).length ≤ 20000 := by
  have hf := h.fit c
  have h1 := ownersR_len (rolesP p) (rolesP p).length
  have h2 := rolesP_len hf
  have h3 := whosS_len p.stmts p.stmts.length
  have h4 := whosA_len hf.f5 p.asks.length
  have h5 := h.n4
  have h6 := h.n1
  unfold prinsT
  simp only [List.length_append]
  omega
theorem namesT_len {p : Py} (h : Few p) (c : Came p) : (namesT p).length ≤ 20000 := by
  have hf := h.fit c
  have h1 := namesR_len (rolesP p) (rolesP p).length
  have h2 := rolesP_len hf
  have h3 := viasS_len p.stmts p.stmts.length
  have h6 := h.n1
  unfold namesT
  simp only [List.length_append]
  omega
theorem tab_tab (T : List Str) : tab (tab T) = tab T := eq_of_rising (tab_sorted _) (tab_sorted _) fun x => by simp only [mem_tab]
set_option maxHeartbeats 2000000 in
set_option maxRecDepth 100000 in
theorem forT (p : Py) (A1 A2 A3 A4 : Option Addr) (c1 c2 c3 c4 : Nat) (B : Option Addr) (cb : Nat) (M : List Str) (w : World) (hf : Few p) (hc : Came p) (hp : PG w A1 A2 A3 A4 p) (hM : M.length ≤ 40) (hB : SRow w B M) :
    Calls Tryz.prog 74 #[p.val A1 A2 A3 A4 c1 c2 c3 c4, .slice B M.length cb] w (NewTPost (tab (tab (prinsT p) ++ M)) (tab (namesT p)) w) := by
  have l1 : (tab (prinsT p)).length ≤ 20000 := Nat.le_trans (tab_len_le _) (prinsT_len hf hc)
  have l2 : (tab (namesT p)).length ≤ 20000 := Nat.le_trans (tab_len_le _) (namesT_len hf hc)
  have hfit := hf.fit hc
  have htt : tab (tab (namesT p)) = tab (namesT p) := tab_tab _
  have HPr := Lib.hid (fun w' (hb : Below w.heap.size w w') => PolH.prins p A1 A2 A3 A4 c1 c2 c3 c4 w' hfit (hp.below hb))
  have HNm := Lib.hid (fun w' (hb : Below w.heap.size w w') => PolH.names p A1 A2 A3 A4 c1 c2 c3 c4 w' hfit (hp.below hb))
  have HBr := Lib.hid (fun w' (hb : Below w.heap.size w w') => hB.keep hb)
  have HTT := Lib.hid htt
  clear hfit hp hB htt hf hc
  generalize tab (prinsT p) = PT at *
  generalize tab (namesT p) = NT at *
  unfold RowPost at HPr HNm
  unfold Py.val at *
  obtain ⟨S, G, H, Q⟩ := p
  simp only at *
  have hlit : (PT ++ M).length ≤ 100000 := by simp; omega
  have hcat := fun b A5 c5 w' h1 h2 h3 h4 h5 => Tab7.concat b A5 B c5 cb PT M w' (by omega) (by omega) h1 h2 h3 h4 h5
  obtain ⟨PM, hPM⟩ : ∃ PM, PT ++ M = PM := ⟨_, rfl⟩
  rw [hPM] at hcat hlit ⊢
  have HCat := Lib.hid hcat
  clear hcat hPM
  have hX := heap_alloc_new w (.cells #[.slice A1 S.length c1, .slice A2 G.length c2, .slice A3 H.length c3, .slice A4 Q.length c4] 26)
  have hb0 : Below w.heap.size w (w.alloc (.cells #[.slice A1 S.length c1, .slice A2 G.length c2, .slice A3 H.length c3, .slice A4 Q.length c4] 26)) := (Below.refl _ _).alloc (Nat.le_refl _) _
  go_enter Tryz.func74, Tryz.ntmps74
  go_upto_region 1 with fail
  generalize w.alloc (.cells #[.slice A1 S.length c1, .slice A2 G.length c2, .slice A3 H.length c3, .slice A4 Q.length c4] 26) = w0 at *
  have HS : Hid (∀ w', Below w0.heap.size w0 w' → Below w0.heap.size w0 w' ∧ (∀ o, w'.cell? ⟨w.heap.size, o, none⟩ = (#[.slice A1 S.length c1, .slice A2 G.length c2, .slice A3 H.length c3, .slice A4 Q.length c4] : Array Value)[o]?)) := Lib.hid (fun w' hb => ⟨hb, fun o => Lib.cell_of_heap ((hb.block _ (Array.getElem?_eq_some_iff.1 hX).1).trans hX) o⟩)
  have HB0 := Lib.hid (fun w' (hb : Below w0.heap.size w0 w') => PolLi.nx hb0 hb)
  clear hX hb0
  go_region_held3 (fun w' => Below w0.heap.size w0 w' ∧ (∀ o, w'.cell? ⟨w.heap.size, o, none⟩ = (#[.slice A1 S.length c1, .slice A2 G.length c2, .slice A3 H.length c3, .slice A4 Q.length c4] : Array Value)[o]?))
    (first | with_reducible assumption | exact HS.out _ ((Below.refl _ _).drew) | exact HS.out _ (PolLi.nx (by apply And.left; with_reducible assumption) (by with_reducible assumption)) | exact HS.out _ (PolLi.nx (by apply And.left; with_reducible assumption) ((Below.refl _ _).alloc (Nat.le_refl _) _)))
    (first | ((with_reducible refine (HPr.out _ (HB0.out _ (by apply And.left; with_reducible assumption))).mono ?_); rintro e w1 ⟨v1, rfl, hown1, hb1⟩; obtain ⟨A5, c5, rfl, _, hr5⟩ := SRow.of_own hown1; have hB1 := HBr.out w1 (HB0.out _ (PolLi.nx (by apply And.left; with_reducible assumption) hb1)))
           | (go_at_call 123; refine (HCat.out w1.heap.size A5 c5 _ (by simp) (by rw [Lib.cell_of_heap (heap_alloc_new w1 _)]; rfl) (by rw [Lib.cell_of_heap (heap_alloc_new w1 _)]; rfl) (hr5.keep ((Below.refl _ _).alloc (Nat.le_refl _) _)) (hB1.keep ((Below.refl _ _).alloc (Nat.le_refl _) _))).mono ?_; rintro e w2 ⟨v2, rfl, hown2, hb2⟩; obtain ⟨A6, c6, rfl, _, hr6⟩ := SRow.of_own hown2)
           | ((with_reducible refine (HNm.out _ (HB0.out _ (by apply And.left; with_reducible assumption))).mono ?_); rintro e w3 ⟨v3, rfl, hown3, hb3⟩; obtain ⟨A7, c7, rfl, _, hr7⟩ := SRow.of_own hown3; have hr6b := hr6.keep hb3)
           | (go_at_call 122; refine (newT A6 A7 c6 c7 PM NT _ hlit (by omega) hr6b hr7).mono ?_; rintro e w4 ⟨t, a, b, B1, d1, B2, d2, rfl, hT, hb4⟩))
  rename_i hHeld
  have HF : Hid (NewTPost (tab PM) NT w (.returned (.pointer (some ⟨t, 0, none⟩))) w4) := Lib.hid ⟨t, a, b, B1, d1, B2, d2, rfl, by rw [← HTT.out]; exact hT, HB0.out _ hHeld.1⟩
  clear hHeld hT hb4
  go_wp2_with fail
  go_ret
  exact HF.out
end Go.Proofs.YtcmdiomjhideiaaGreatDoor.TblV
/- Tables: Rules, by contract. -/
namespace Go.Proofs.YtcmdiomjhideiaaGreatDoor.TblW
set_option linter.unusedVariables false
set_option linter.unusedSimpArgs false
open Go.RowKit Go.Sort Go.Lib Go.Proofs Go.Proofs.YtcmdiomjhideiaaGreatDoor.Plain Go.Proofs.YtcmdiomjhideiaaGreatDoor.SynP Go.Proofs.YtcmdiomjhideiaaGreatDoor.SynE Go.Proofs.YtcmdiomjhideiaaGreatDoor.Grown Go.Proofs.YtcmdiomjhideiaaGreatDoor.TabP Go.Proofs.YtcmdiomjhideiaaGreatDoor.Tab1 Go.Proofs.YtcmdiomjhideiaaGreatDoor.Tab2 Go.Proofs.YtcmdiomjhideiaaGreatDoor.PolE Go.Proofs.YtcmdiomjhideiaaGreatDoor.TblA Go.Proofs.YtcmdiomjhideiaaGreatDoor.TblB Go.Proofs.YtcmdiomjhideiaaGreatDoor.TblC Go.Proofs.YtcmdiomjhideiaaGreatDoor.TblF Go.Proofs.YtcmdiomjhideiaaGreatDoor.TblI Go.Proofs.YtcmdiomjhideiaaGreatDoor.TblV
set_option linter.unusedVariables false
set_option linter.unusedSimpArgs false
theorem nx {W w1 w2 : World} (h : Below W.heap.size W w1) (hb : Below w1.heap.size w1 w2) : Below W.heap.size W w2 := h.trans (hb.mono h.size)
theorem infoU : (Tryz.prog.info? 143).map (fun i => (i.zero, i.size, i.bytes)) = some (some (.agg #[.int .i64 0, .int .i64 0, .int .i64 0, .int .i64 0, .int .i64 0, .int .i64 0]), 6, 48) := by kernel_rfl
/-- The rules of the first j statements. -/
def rulesT (P L : List Str) (S : List St) (j : Nat) : List Ru := ((S.take j).filter (ruleOk P L)).map (ruleV P L)
theorem rulesT_len (P L : List Str) (S : List St) (j : Nat) : (rulesT P L S j).length ≤ j := by
  unfold rulesT
  rw [List.length_map]
  exact Nat.le_trans (List.length_filter_le _ _) (by simp; omega)
theorem rulesT_yes {P L : List Str} {S : List St} {j : Nat} (h : j < S.length) (hr : ruleOk P L S[j] = true) : rulesT P L S (j + 1) = rulesT P L S j ++ [ruleA P L S[j]] := by
  unfold rulesT
  rw [List.take_succ_eq_append_getElem h, List.filter_append, List.map_append]
  have e : ruleA P L S[j] = ruleV P L S[j] := by unfold ruleA; rw [hr]; rfl
  simp [hr, e]
theorem rulesT_no {P L : List Str} {S : List St} {j : Nat} (h : j < S.length) (hr : ruleOk P L S[j] = false) : rulesT P L S (j + 1) = rulesT P L S j := by
  unfold rulesT
  rw [List.take_succ_eq_append_getElem h, List.filter_append, List.map_append]
  simp [hr]
theorem own_below {w w' : World} {B n : Nat} {e : TypeId} {k : Nat} {v : Value} {xs : List Value} (h : w.ownsRow B e k v n xs) (hb : Below w.heap.size w w') : w'.ownsRow B e k v n xs :=
  h.kept (World.grownBy.mk hb.os hb.tape hb.output hb.size (fun k hk _ => hb.block k hk) : w.grownBy w' none) (by cases hv : v.ownBlock <;> simp)
theorem news (X : World) (f0 f1 f2 f3 f4 f5 : Int) : ∀ i u, ([.int .i64 f0, .int .i64 f1, .int .i64 f2, .int .i64 f3, .int .i64 f4, .int .i64 f5] : List Value)[i]? = some u → (X.alloc (.cells #[.int .i64 f0, .int .i64 f1, .int .i64 f2, .int .i64 f3, .int .i64 f4, .int .i64 f5] 143)).cell? ((⟨X.heap.size, 0, none⟩ : Addr).add i) = some u := fun i u hu => by
  have e : ((⟨X.heap.size, 0, none⟩ : Addr).add i) = ⟨X.heap.size, i, none⟩ := by unfold Addr.add; split <;> simp_all
  rw [e, Lib.cell_of_heap (heap_alloc_new X _), ← hu]
  simp
theorem cell6 (u0 u1 u2 u3 u4 u5 : Int) : ∀ v ∈ ([.int .i64 u0, .int .i64 u1, .int .i64 u2, .int .i64 u3, .int .i64 u4, .int .i64 u5] : List Value), v.oneCell' = true := fun v hv => by
  simp at hv
  rcases hv with rfl | rfl | rfl | rfl | rfl | rfl <;> rfl
theorem app_cells (L : List Ru) (u0 u1 u2 u3 u4 u5 : Int) : cellsR (L ++ [⟨u0, u1, u2, u3, u4, u5⟩]) = cellsR L ++ [.int .i64 u0, .int .i64 u1, .int .i64 u2, .int .i64 u3, .int .i64 u4, .int .i64 u5] := by
  rw [cellsR_app]; rfl
theorem below_own {a w w1 : World} {e : TypeId} {size n B : Nat} {v : Value} {xs : List Value} {o : Obj} (hb : Below a.heap.size a w) (hB : a.heap.size ≤ B) (hown : w.ownsRow B e size v n xs) (hg : (w.alloc o).grownBy w1 v.ownBlock) : Below a.heap.size a w1 :=
  (hb.alloc hb.size o).grown hg (by have := hb.size; simp; omega) (fun k hk => Nat.le_trans hB (hown.lt k hk).1)
section
variable {t a b : Nat} {B1 : Option Addr} {d1 : Nat} {B2 : Option Addr} {d2 : Nat} {P L : List Str}
def RulesPost (R : List Ru) (w : World) (e : Ending) (w' : World) : Prop := ∃ A c, e = .returned (.slice A R.length c) ∧ UG w' A R ∧ Below w.heap.size w w'
set_option maxHeartbeats 2000000 in
set_option maxRecDepth 100000 in
theorem rules (w : World) (hT : TblK w t a b B1 d1 B2 d2 P L) (A : Option Addr) (ca : Nat) (S : List St) (hS : S.length ≤ 1000) (hf : ∀ s ∈ S, s.fit) (hA : SG w A S) :
    Calls Tryz.prog 78 #[.pointer (some ⟨t, 0, none⟩), .slice A S.length ca] w (RulesPost (rulesT P L S S.length) w) := by
  have HT := Lib.hid hT
  have HA := Lib.hid hA
  have HF := Lib.hid hf
  have HY := Lib.hid (fun j h hr => rulesT_yes (P := P) (L := L) (S := S) (j := j) h hr)
  have HN := Lib.hid (fun j h hr => rulesT_no (P := P) (L := L) (S := S) (j := j) h hr)
  have HLn := Lib.hid (fun j => rulesT_len P L S j)
  have H0 : Hid (rulesT P L S 0 = []) := Lib.hid rfl
  clear hT hA hf
  generalize rulesT P L S = R at *
  obtain ⟨i0, hi, hz0, hz1, hz2⟩ := info_parts infoU
  go_enter Tryz.func78, Tryz.ntmps78
  go_wp2_with fail
  go_loopw [5, 12] (fun l i wr => ∃ j : Nat, j ≤ S.length ∧ i = .int .i64 j ∧ Hid (wr.ownsRow w.heap.size 143 6 l (R j).length (cellsR (R j))) ∧ Below w.heap.size w wr) (fun _ i _ => S.length - (intOf i).toNat)
  case atStart => exact ⟨0, by omega, rfl, Lib.hid (by rw [H0.out]; exact World.ownsRow_nil _ _ _ _), Below.refl _ _⟩
  case round =>
    obtain ⟨j, hj, rfl, hown, hb⟩ := hrel
    by_cases hlt : j < S.length
    · have e1 : decide ((j : Int) < S.length) = true := by simp; omega
      have p0 : (0 : Int) ≤ j := by omega
      have p1 : (j : Int) < S.length := by omega
      obtain ⟨g, o, rfl, hg, hcell⟩ := (HA.out.below hb) (by omega)
      obtain ⟨a0, a1, a2, a3, a4, a5, a6, a7, a8⟩ := hcell j hlt
      have HRu := Lib.hid (fun w' (hb2 : Below w.heap.size w w') => rule w' (HT.out.keep hb2) S[j] (HF.out _ (List.getElem_mem hlt)))
      have HYj := Lib.hid (HY.out j hlt)
      have HNj := Lib.hid (HN.out j hlt)
      have hlj := HLn.out j
      have HBk := Lib.hid hb
      unfold RulePost at HRu
      clear hcell hb
      generalize ruleA P L S[j] = u at *
      generalize ruleOk P L S[j] = ok at *
      generalize S[j] = s at *
      obtain ⟨k1, ⟨ho, hn⟩, wh, ⟨ao, an⟩, ⟨bo, bn⟩, v⟩ := s
      obtain ⟨f0, f1, f2, f3, f4, f5⟩ := u
      unfold St.val at HRu
      simp only [Ru.cells] at a0 a1 a2 a3 a4 a5 a6 a7 a8 HRu
      have hbs : Below wr.heap.size wr (wr.alloc (.cells #[.int .i64 k1, .string ho, .string hn, .string wh, .string ao, .string an, .string bo, .string bn, .string v] 55)) := (Below.refl _ _).alloc (Nat.le_refl _) _
      have HBs := Lib.hid (nx HBk.out hbs)
      have HOs := Lib.hid (own_below hown.out hbs)
      have cb : ∀ o, (wr.alloc (.cells #[.int .i64 k1, .string ho, .string hn, .string wh, .string ao, .string an, .string bo, .string bn, .string v] 55)).cell? ⟨wr.heap.size, o, none⟩ = (#[.int .i64 k1, .string ho, .string hn, .string wh, .string ao, .string an, .string bo, .string bn, .string v] : Array Value)[o]? := fun o => Lib.cell_of_heap (heap_alloc_new wr _) o
      clear hbs
      go_wp2_with fail
      refine (HRu.out _ HBs.out).mono ?_
      rintro e w2 ⟨rfl, hb2⟩
      have hbr : Below w2.heap.size w2 (w2.alloc (.cells #[.int .i64 f0, .int .i64 f1, .int .i64 f2, .int .i64 f3, .int .i64 f4, .int .i64 f5] 143)) := (Below.refl _ _).alloc (Nat.le_refl _) _
      have HB3 := Lib.hid (nx (nx HBs.out hb2) hbr)
      have HO3 := Lib.hid (own_below (own_below HOs.out hb2) hbr)
      have hX3 := heap_alloc_new w2 (.cells #[.int .i64 f0, .int .i64 f1, .int .i64 f2, .int .i64 f3, .int .i64 f4, .int .i64 f5] 143)
      clear hb2 hbr cb a0 a1 a2 a3 a4 a5 a6 a7 a8 HBs HOs hown HBk HRu
      go_upto_if 22 with fail
      generalize w2.alloc (.cells #[.int .i64 f0, .int .i64 f1, .int .i64 f2, .int .i64 f3, .int .i64 f4, .int .i64 f5] 143) = w3 at *
      have cx : ∀ o, w3.cell? ⟨w2.heap.size, o, none⟩ = (#[.int .i64 f0, .int .i64 f1, .int .i64 f2, .int .i64 f3, .int .i64 f4, .int .i64 f5] : Array Value)[o]? := fun o => Lib.cell_of_heap hX3 o
      cases ok with
      | false =>
        have HRj := Lib.hid (HNj.out rfl)
        clear HYj HNj cx
        go_wp2_with fail
        go_roundw
        case rel => exact ⟨j + 1, by omega, by go_num, Lib.hid (by rw [HRj.out]; exact HO3.out), HB3.out⟩
        case measure => simp [intOf]; omega
      | true =>
        have HRj := Lib.hid (HYj.out rfl)
        have hz3 : w.heap.size ≤ w3.heap.size := HB3.out.size
        have hown3 := HO3.out
        clear HYj HNj
        go_wp2_with (at_builtin; refine wpList_append_own _ rfl _ _ 96 rfl w.heap.size 143 i0 (.agg #[.int .i64 0, .int .i64 0, .int .i64 0, .int .i64 0, .int .i64 0, .int .i64 0]) 6 48 Tryz.underlying96 hi hz0 hz1 hz2 rfl (by decide) _ _ _ rfl (hown3.alloc _) ⟨w3.heap.size, 0, none⟩ 1 1 [.int .i64 f0, .int .i64 f1, .int .i64 f2, .int .i64 f3, .int .i64 f4, .int .i64 f5] rfl rfl ?c1 ?c2 ?c3 ?c4 ?c5 ?_)
        case c1 => exact news w3 f0 f1 f2 f3 f4 f5
        case c2 => exact cell6 _ _ _ _ _ _
        case c3 => unfold maxLen; omega
        case c4 => omega
        case c5 => simp; omega
        intro v' w7 hown' hgrow _
        have hown4 : w7.ownsRow w.heap.size 143 6 v' (R (j + 1)).length (cellsR (R (j + 1))) := by
          rw [HRj.out, app_cells, List.length_append]
          exact hown'
        have HO4 := Lib.hid hown4
        have HB4 := Lib.hid (below_own HB3.out (Nat.le_refl _) hown3 hgrow)
        clear hown' hown3 hgrow hown4 cx
        go_wp2_with fail
        go_roundw
        case rel => exact ⟨j + 1, by omega, by go_num, HO4, HB4.out⟩
        case measure => simp [intOf]; omega
    · have e1 : decide ((j : Int) < S.length) = false := by simp; omega
      have hjn : j = S.length := by omega
      subst hjn
      have ho := hown.out
      obtain ⟨A5, c5, rfl, hu⟩ := ug_own ho
      have HU := Lib.hid hu
      have HBk := Lib.hid hb
      clear ho hu hb
      go_wp2_with fail
      go_ret
      exact ⟨A5, c5, rfl, HU.out, HBk.out⟩
end
end Go.Proofs.YtcmdiomjhideiaaGreatDoor.TblW
/- Which rules may be: bare and Right, by contract. -/
namespace Go.Proofs.YtcmdiomjhideiaaGreatDoor.TblP
set_option linter.unusedVariables false
set_option linter.unusedSimpArgs false
open Go.RowKit Go.Lib Go.Proofs Go.Proofs.YtcmdiomjhideiaaGreatDoor.Plain Go.Proofs.YtcmdiomjhideiaaGreatDoor.TblB Go.Proofs.YtcmdiomjhideiaaGreatDoor.TblC Go.Proofs.YtcmdiomjhideiaaGreatDoor.TblF
set_option linter.unusedVariables false
set_option linter.unusedSimpArgs false
instance (x y : Ru) : Decidable (x = y) := decidable_of_iff (x.kind = y.kind ∧ x.head = y.head ∧ x.who = y.who ∧ x.a = y.a ∧ x.b = y.b ∧ x.via = y.via) (by cases x; cases y; simp)
def bareK (u : Ru) : Bool := decide (u.kind = 1) || decide (u.kind = 2) || decide (u.kind = 3) || decide (u.kind = 4)
def bareU (u : Ru) : Ru := if u.kind = 1 then ⟨1, u.head, u.who, 0, 0, 0⟩ else if u.kind = 4 then ⟨4, u.head, 0, u.a, u.b, 0⟩ else if u.kind = 3 then ⟨3, u.head, 0, u.a, 0, u.via⟩ else if u.kind = 2 then ⟨2, u.head, 0, u.a, 0, 0⟩ else zeroU
def BarePost (u : Ru) (w : World) (e : Ending) (w' : World) : Prop := e = .returned (.tuple #[.agg (bareU u).cells, .bool (bareK u)]) ∧ RowKit.Below w.heap.size w w'
theorem three (w : World) (k h x a b v : Int) : RowKit.Below w.heap.size w (((w.alloc (.cells #[.int .i64 k, .int .i64 h, .int .i64 x, .int .i64 a, .int .i64 b, .int .i64 v] 143)).alloc (.cells #[.int .i64 0, .int .i64 0, .int .i64 0, .int .i64 0, .int .i64 0, .int .i64 0] 143)).alloc (.cells #[.int .i64 k, .int .i64 h, .int .i64 0, .int .i64 0, .int .i64 0, .int .i64 0] 143)) ∧
    (((w.alloc (.cells #[.int .i64 k, .int .i64 h, .int .i64 x, .int .i64 a, .int .i64 b, .int .i64 v] 143)).alloc (.cells #[.int .i64 0, .int .i64 0, .int .i64 0, .int .i64 0, .int .i64 0, .int .i64 0] 143)).alloc (.cells #[.int .i64 k, .int .i64 h, .int .i64 0, .int .i64 0, .int .i64 0, .int .i64 0] 143)).heap[w.heap.size]? = some (.cells #[.int .i64 k, .int .i64 h, .int .i64 x, .int .i64 a, .int .i64 b, .int .i64 v] 143 (0, 0)) ∧
    (((w.alloc (.cells #[.int .i64 k, .int .i64 h, .int .i64 x, .int .i64 a, .int .i64 b, .int .i64 v] 143)).alloc (.cells #[.int .i64 0, .int .i64 0, .int .i64 0, .int .i64 0, .int .i64 0, .int .i64 0] 143)).alloc (.cells #[.int .i64 k, .int .i64 h, .int .i64 0, .int .i64 0, .int .i64 0, .int .i64 0] 143)).heap[w.heap.size + 1]? = some (.cells zeroU.cells 143 (0, 0)) ∧
    RuAt (((w.alloc (.cells #[.int .i64 k, .int .i64 h, .int .i64 x, .int .i64 a, .int .i64 b, .int .i64 v] 143)).alloc (.cells #[.int .i64 0, .int .i64 0, .int .i64 0, .int .i64 0, .int .i64 0, .int .i64 0] 143)).alloc (.cells #[.int .i64 k, .int .i64 h, .int .i64 0, .int .i64 0, .int .i64 0, .int .i64 0] 143)) (w.heap.size + 2) ⟨k, h, 0, 0, 0, 0⟩ := by
  refine ⟨(((Below.refl w.heap.size w).alloc (Nat.le_refl _) _).alloc (by simp) _).alloc (by simp <;> omega) _, (Below.heap_alloc _ _ _ (by simp <;> omega)).trans (heap_alloc2_old w _ _), (Below.heap_alloc _ _ _ (by simp)).trans (heap_alloc2_new w _ _), ?_⟩
  have e := heap_alloc_new ((w.alloc (.cells #[.int .i64 k, .int .i64 h, .int .i64 x, .int .i64 a, .int .i64 b, .int .i64 v] 143)).alloc (.cells #[.int .i64 0, .int .i64 0, .int .i64 0, .int .i64 0, .int .i64 0, .int .i64 0] 143)) (.cells #[.int .i64 k, .int .i64 h, .int .i64 0, .int .i64 0, .int .i64 0, .int .i64 0] 143)
  have hz : ((w.alloc (.cells #[.int .i64 k, .int .i64 h, .int .i64 x, .int .i64 a, .int .i64 b, .int .i64 v] 143)).alloc (.cells #[.int .i64 0, .int .i64 0, .int .i64 0, .int .i64 0, .int .i64 0, .int .i64 0] 143)).heap.size = w.heap.size + 2 := by simp
  rw [hz] at e
  exact e
set_option maxHeartbeats 1000000 in
set_option maxRecDepth 100000 in
theorem bare1 (h x a b v : Int) (w : World) : Calls Tryz.prog 206 #[.agg #[.int .i64 1, .int .i64 h, .int .i64 x, .int .i64 a, .int .i64 b, .int .i64 v]] w fun e w' => e = .returned (.tuple #[.agg (⟨1, h, x, 0, 0, 0⟩ : Ru).cells, .bool true]) ∧ RowKit.Below w.heap.size w w' := by
  obtain ⟨k1, k2, k3, k4⟩ := three w 1 h x a b v
  have H1 := Lib.hid k1
  have H2 := Lib.hid k2
  have H3 := Lib.hid k3
  have H4 := Lib.hid k4
  clear k1 k2 k3 k4
  go_enter Tryz.func206, Tryz.ntmps206
  go_upto_region 2 with fail
  generalize ((w.alloc (.cells #[.int .i64 1, .int .i64 h, .int .i64 x, .int .i64 a, .int .i64 b, .int .i64 v] 143)).alloc (.cells #[.int .i64 0, .int .i64 0, .int .i64 0, .int .i64 0, .int .i64 0, .int .i64 0] 143)).alloc (.cells #[.int .i64 1, .int .i64 h, .int .i64 0, .int .i64 0, .int .i64 0, .int .i64 0] 143) = w3 at *
  have c := fun o => Lib.cell_of_heap H2.out o
  have r := fun o => RuAt.cell H4.out o
  simp only [Ru.cells] at r
  have f := fun o => RuAt.free H4.out o
  have HP : Hid (RuAt (w3.setCell ⟨w.heap.size + 2, 2, none⟩ (.int .i64 x)) (w.heap.size + 2) ⟨1, h, x, 0, 0, 0⟩) := Lib.hid (RuAt.put H4.out 2 (by omega) (by omega) x)
  have HO : Hid ((w3.setCell ⟨w.heap.size + 2, 2, none⟩ (.int .i64 x)).heap[w.heap.size + 1]? = some (.cells zeroU.cells 143 (0, 0))) := Lib.hid ((Below.heap_setCell _ _ _ _ (by show w.heap.size + 1 ≠ w.heap.size + 2; omega)).trans H3.out)
  have HB : Hid (RowKit.Below w.heap.size w (w3.setCell ⟨w.heap.size + 2, 2, none⟩ (.int .i64 x))) := Lib.hid (H1.out.setCell (by show w.heap.size ≤ w.heap.size + 2; omega) _)
  clear H1 H2 H3 H4
  go_wp2_with (first | (refine wpList_load_row rfl 143 _ rfl (w.heap.size + 2) rfl 143 (⟨1, h, x, 0, 0, 0⟩ : Ru).cells (0, 0) _ HP.out Tryz.underlying143 rfl infoRule ?_) | (refine wpList_store_row rfl 143 _ _ rfl (w.heap.size + 1) (⟨1, h, x, 0, 0, 0⟩ : Ru).cells rfl rfl 143 _ HO.out infoRule rfl (one6 _) ?_))
  have hl := cell_rule (u := ⟨1, h, x, 0, 0, 0⟩) HO.out
  have hz := below_setRow HB.out (show w.heap.size ≤ w.heap.size + 1 by omega) (⟨1, h, x, 0, 0, 0⟩ : Ru).cells
  generalize World.setRow _ (w.heap.size + 1) (⟨1, h, x, 0, 0, 0⟩ : Ru).cells = wz at hl hz ⊢
  refine bodyPost_ret (v := .tuple #[.agg (⟨1, h, x, 0, 0, 0⟩ : Ru).cells, .bool true]) (by simp [results, Tryz.results206, go_sem, hl, Ru.cells]) rfl ⟨rfl, hz⟩
set_option maxHeartbeats 1000000 in
set_option maxRecDepth 100000 in
theorem bare4 (h x a b v : Int) (w : World) : Calls Tryz.prog 206 #[.agg #[.int .i64 4, .int .i64 h, .int .i64 x, .int .i64 a, .int .i64 b, .int .i64 v]] w fun e w' => e = .returned (.tuple #[.agg (⟨4, h, 0, a, b, 0⟩ : Ru).cells, .bool true]) ∧ RowKit.Below w.heap.size w w' := by
  obtain ⟨k1, k2, k3, k4⟩ := three w 4 h x a b v
  have H1 := Lib.hid k1
  have H2 := Lib.hid k2
  have H3 := Lib.hid k3
  have H4 := Lib.hid k4
  clear k1 k2 k3 k4
  go_enter Tryz.func206, Tryz.ntmps206
  go_upto_region 2 with fail
  generalize ((w.alloc (.cells #[.int .i64 4, .int .i64 h, .int .i64 x, .int .i64 a, .int .i64 b, .int .i64 v] 143)).alloc (.cells #[.int .i64 0, .int .i64 0, .int .i64 0, .int .i64 0, .int .i64 0, .int .i64 0] 143)).alloc (.cells #[.int .i64 4, .int .i64 h, .int .i64 0, .int .i64 0, .int .i64 0, .int .i64 0] 143) = w3 at *
  have c := fun o => Lib.cell_of_heap H2.out o
  have r := fun o => RuAt.cell H4.out o
  simp only [Ru.cells] at r
  have f := fun o => RuAt.free H4.out o
  go_wp2_with fail
  go_region
  have HP : Hid (RuAt (((w3.setCell ⟨w.heap.size + 1 + 1, 3, none⟩ (.int .i64 a)).setCell ⟨w.heap.size + 1 + 1, 4, none⟩ (.int .i64 b)).drew) (w.heap.size + 1 + 1) ⟨4, h, 0, a, b, 0⟩) := Lib.hid (RuAt.put (RuAt.put H4.out 3 (by omega) (by omega) a) 4 (by omega) (by omega) b)
  have HO : Hid ((((w3.setCell ⟨w.heap.size + 1 + 1, 3, none⟩ (.int .i64 a)).setCell ⟨w.heap.size + 1 + 1, 4, none⟩ (.int .i64 b)).drew).heap[w.heap.size + 1]? = some (.cells zeroU.cells 143 (0, 0))) := Lib.hid ((Below.heap_setCell _ _ _ _ (by show w.heap.size + 1 ≠ w.heap.size + 2; omega)).trans ((Below.heap_setCell _ _ _ _ (by show w.heap.size + 1 ≠ w.heap.size + 2; omega)).trans H3.out))
  have HB : Hid (RowKit.Below w.heap.size w (((w3.setCell ⟨w.heap.size + 1 + 1, 3, none⟩ (.int .i64 a)).setCell ⟨w.heap.size + 1 + 1, 4, none⟩ (.int .i64 b)).drew)) := Lib.hid (((H1.out.setCell (by show w.heap.size ≤ w.heap.size + 2; omega) _).setCell (by show w.heap.size ≤ w.heap.size + 2; omega) _).drew)
  clear H1 H2 H3 H4
  go_wp2_with (first | (refine wpList_load_row rfl 143 _ rfl (w.heap.size + 1 + 1) rfl 143 (⟨4, h, 0, a, b, 0⟩ : Ru).cells (0, 0) _ HP.out Tryz.underlying143 rfl infoRule ?_) | (refine wpList_store_row rfl 143 _ _ rfl (w.heap.size + 1) (⟨4, h, 0, a, b, 0⟩ : Ru).cells rfl rfl 143 _ HO.out infoRule rfl (one6 _) ?_))
  have hl := cell_rule (u := ⟨4, h, 0, a, b, 0⟩) HO.out
  have hz := below_setRow HB.out (show w.heap.size ≤ w.heap.size + 1 by omega) (⟨4, h, 0, a, b, 0⟩ : Ru).cells
  generalize World.setRow _ (w.heap.size + 1) (⟨4, h, 0, a, b, 0⟩ : Ru).cells = wz at hl hz ⊢
  refine bodyPost_ret (v := .tuple #[.agg (⟨4, h, 0, a, b, 0⟩ : Ru).cells, .bool true]) (by simp [results, Tryz.results206, go_sem, hl, Ru.cells]) rfl ⟨rfl, hz⟩
set_option maxHeartbeats 1000000 in
set_option maxRecDepth 100000 in
theorem bare3 (h x a b v : Int) (w : World) : Calls Tryz.prog 206 #[.agg #[.int .i64 3, .int .i64 h, .int .i64 x, .int .i64 a, .int .i64 b, .int .i64 v]] w fun e w' => e = .returned (.tuple #[.agg (⟨3, h, 0, a, 0, v⟩ : Ru).cells, .bool true]) ∧ RowKit.Below w.heap.size w w' := by
  obtain ⟨k1, k2, k3, k4⟩ := three w 3 h x a b v
  have H1 := Lib.hid k1
  have H2 := Lib.hid k2
  have H3 := Lib.hid k3
  have H4 := Lib.hid k4
  clear k1 k2 k3 k4
  go_enter Tryz.func206, Tryz.ntmps206
  go_upto_region 2 with fail
  generalize ((w.alloc (.cells #[.int .i64 3, .int .i64 h, .int .i64 x, .int .i64 a, .int .i64 b, .int .i64 v] 143)).alloc (.cells #[.int .i64 0, .int .i64 0, .int .i64 0, .int .i64 0, .int .i64 0, .int .i64 0] 143)).alloc (.cells #[.int .i64 3, .int .i64 h, .int .i64 0, .int .i64 0, .int .i64 0, .int .i64 0] 143) = w3 at *
  have c := fun o => Lib.cell_of_heap H2.out o
  have r := fun o => RuAt.cell H4.out o
  simp only [Ru.cells] at r
  have f := fun o => RuAt.free H4.out o
  have HP : Hid (RuAt ((w3.setCell ⟨w.heap.size + 2, 5, none⟩ (.int .i64 v)).setCell ⟨w.heap.size + 2, 3, none⟩ (.int .i64 a)) (w.heap.size + 2) ⟨3, h, 0, a, 0, v⟩) := Lib.hid (RuAt.put (RuAt.put H4.out 5 (by omega) (by omega) v) 3 (by omega) (by omega) a)
  have HO : Hid (((w3.setCell ⟨w.heap.size + 2, 5, none⟩ (.int .i64 v)).setCell ⟨w.heap.size + 2, 3, none⟩ (.int .i64 a)).heap[w.heap.size + 1]? = some (.cells zeroU.cells 143 (0, 0))) := Lib.hid ((Below.heap_setCell _ _ _ _ (by show w.heap.size + 1 ≠ w.heap.size + 2; omega)).trans ((Below.heap_setCell _ _ _ _ (by show w.heap.size + 1 ≠ w.heap.size + 2; omega)).trans H3.out))
  have HB : Hid (RowKit.Below w.heap.size w ((w3.setCell ⟨w.heap.size + 2, 5, none⟩ (.int .i64 v)).setCell ⟨w.heap.size + 2, 3, none⟩ (.int .i64 a))) := Lib.hid ((H1.out.setCell (by show w.heap.size ≤ w.heap.size + 2; omega) _).setCell (by show w.heap.size ≤ w.heap.size + 2; omega) _)
  clear H1 H2 H3 H4
  go_wp2_with (first | (refine wpList_load_row rfl 143 _ rfl (w.heap.size + 2) rfl 143 (⟨3, h, 0, a, 0, v⟩ : Ru).cells (0, 0) _ HP.out Tryz.underlying143 rfl infoRule ?_) | (refine wpList_store_row rfl 143 _ _ rfl (w.heap.size + 1) (⟨3, h, 0, a, 0, v⟩ : Ru).cells rfl rfl 143 _ HO.out infoRule rfl (one6 _) ?_))
  have hl := cell_rule (u := ⟨3, h, 0, a, 0, v⟩) HO.out
  have hz := below_setRow HB.out (show w.heap.size ≤ w.heap.size + 1 by omega) (⟨3, h, 0, a, 0, v⟩ : Ru).cells
  generalize World.setRow _ (w.heap.size + 1) (⟨3, h, 0, a, 0, v⟩ : Ru).cells = wz at hl hz ⊢
  refine bodyPost_ret (v := .tuple #[.agg (⟨3, h, 0, a, 0, v⟩ : Ru).cells, .bool true]) (by simp [results, Tryz.results206, go_sem, hl, Ru.cells]) rfl ⟨rfl, hz⟩
set_option maxHeartbeats 1000000 in
set_option maxRecDepth 100000 in
theorem bare2 (h x a b v : Int) (w : World) : Calls Tryz.prog 206 #[.agg #[.int .i64 2, .int .i64 h, .int .i64 x, .int .i64 a, .int .i64 b, .int .i64 v]] w fun e w' => e = .returned (.tuple #[.agg (⟨2, h, 0, a, 0, 0⟩ : Ru).cells, .bool true]) ∧ RowKit.Below w.heap.size w w' := by
  obtain ⟨k1, k2, k3, k4⟩ := three w 2 h x a b v
  have H1 := Lib.hid k1
  have H2 := Lib.hid k2
  have H3 := Lib.hid k3
  have H4 := Lib.hid k4
  clear k1 k2 k3 k4
  go_enter Tryz.func206, Tryz.ntmps206
  go_upto_region 2 with fail
  generalize ((w.alloc (.cells #[.int .i64 2, .int .i64 h, .int .i64 x, .int .i64 a, .int .i64 b, .int .i64 v] 143)).alloc (.cells #[.int .i64 0, .int .i64 0, .int .i64 0, .int .i64 0, .int .i64 0, .int .i64 0] 143)).alloc (.cells #[.int .i64 2, .int .i64 h, .int .i64 0, .int .i64 0, .int .i64 0, .int .i64 0] 143) = w3 at *
  have c := fun o => Lib.cell_of_heap H2.out o
  have r := fun o => RuAt.cell H4.out o
  simp only [Ru.cells] at r
  have f := fun o => RuAt.free H4.out o
  have HP : Hid (RuAt (w3.setCell ⟨w.heap.size + 2, 3, none⟩ (.int .i64 a)) (w.heap.size + 2) ⟨2, h, 0, a, 0, 0⟩) := Lib.hid (RuAt.put H4.out 3 (by omega) (by omega) a)
  have HO : Hid ((w3.setCell ⟨w.heap.size + 2, 3, none⟩ (.int .i64 a)).heap[w.heap.size + 1]? = some (.cells zeroU.cells 143 (0, 0))) := Lib.hid ((Below.heap_setCell _ _ _ _ (by show w.heap.size + 1 ≠ w.heap.size + 2; omega)).trans H3.out)
  have HB : Hid (RowKit.Below w.heap.size w (w3.setCell ⟨w.heap.size + 2, 3, none⟩ (.int .i64 a))) := Lib.hid (H1.out.setCell (by show w.heap.size ≤ w.heap.size + 2; omega) _)
  clear H1 H2 H3 H4
  go_wp2_with (first | (refine wpList_load_row rfl 143 _ rfl (w.heap.size + 2) rfl 143 (⟨2, h, 0, a, 0, 0⟩ : Ru).cells (0, 0) _ HP.out Tryz.underlying143 rfl infoRule ?_) | (refine wpList_store_row rfl 143 _ _ rfl (w.heap.size + 1) (⟨2, h, 0, a, 0, 0⟩ : Ru).cells rfl rfl 143 _ HO.out infoRule rfl (one6 _) ?_))
  have hl := cell_rule (u := ⟨2, h, 0, a, 0, 0⟩) HO.out
  have hz := below_setRow HB.out (show w.heap.size ≤ w.heap.size + 1 by omega) (⟨2, h, 0, a, 0, 0⟩ : Ru).cells
  generalize World.setRow _ (w.heap.size + 1) (⟨2, h, 0, a, 0, 0⟩ : Ru).cells = wz at hl hz ⊢
  refine bodyPost_ret (v := .tuple #[.agg (⟨2, h, 0, a, 0, 0⟩ : Ru).cells, .bool true]) (by simp [results, Tryz.results206, go_sem, hl, Ru.cells]) rfl ⟨rfl, hz⟩
set_option maxRecDepth 100000 in
theorem bare0 (k h x a b v : Int) (h1 : k ≠ 1) (h2 : k ≠ 2) (h3 : k ≠ 3) (h4 : k ≠ 4) (w : World) : Calls Tryz.prog 206 #[.agg #[.int .i64 k, .int .i64 h, .int .i64 x, .int .i64 a, .int .i64 b, .int .i64 v]] w fun e w' => e = .returned (.tuple #[.agg zeroU.cells, .bool false]) ∧ RowKit.Below w.heap.size w w' := by
  obtain ⟨k1, k2, k3, k4⟩ := three w k h x a b v
  have H1 := Lib.hid k1
  have H2 := Lib.hid k2
  have H3 := Lib.hid k3
  clear k1 k2 k3 k4
  have e1 : (k == 1) = false := by simp [h1]
  have e2 : (k == 2) = false := by simp [h2]
  have e3 : (k == 3) = false := by simp [h3]
  have e4 : (k == 4) = false := by simp [h4]
  clear h1 h2 h3 h4
  go_enter Tryz.func206, Tryz.ntmps206
  go_upto_region 2 with fail
  generalize ((w.alloc (.cells #[.int .i64 k, .int .i64 h, .int .i64 x, .int .i64 a, .int .i64 b, .int .i64 v] 143)).alloc (.cells #[.int .i64 0, .int .i64 0, .int .i64 0, .int .i64 0, .int .i64 0, .int .i64 0] 143)).alloc (.cells #[.int .i64 k, .int .i64 h, .int .i64 0, .int .i64 0, .int .i64 0, .int .i64 0] 143) = w3 at *
  have c := fun o => Lib.cell_of_heap H2.out o
  go_wp2_with (refine wpList_store_row rfl 143 _ _ rfl (w.heap.size + 1) zeroU.cells rfl rfl 143 _ H3.out infoRule rfl (one6 _) ?_)
  have hl := cell_rule (u := zeroU) H3.out
  have hz := below_setRow H1.out (show w.heap.size ≤ w.heap.size + 1 by omega) zeroU.cells
  generalize World.setRow _ (w.heap.size + 1) zeroU.cells = wz at hl hz ⊢
  refine bodyPost_ret (v := .tuple #[.agg zeroU.cells, .bool false]) (by simp [results, Tryz.results206, go_sem, hl, Ru.cells]) rfl ⟨rfl, hz⟩
theorem bare_ (u : Ru) (w : World) : Calls Tryz.prog 206 #[u.val] w (BarePost u w) := by
  obtain ⟨k, h, x, a, b, v⟩ := u
  unfold BarePost bareU bareK Ru.val
  simp only
  by_cases h1 : k = 1
  · subst h1; exact bare1 h x a b v w
  · by_cases h4 : k = 4
    · subst h4; exact bare4 h x a b v w
    · by_cases h3 : k = 3
      · subst h3; exact bare3 h x a b v w
      · by_cases h2 : k = 2
        · subst h2; exact bare2 h x a b v w
        · simp only [h1, h2, h3, h4, if_false, decide_false, Bool.false_or]
          exact bare0 k h x a b v h1 h2 h3 h4 w
theorem neG (k h x a b v k2 h2 x2 a2 b2 v2 : Int) (w : World) : (binOp .neq 143 (.agg #[.int .i64 k, .int .i64 h, .int .i64 x, .int .i64 a, .int .i64 b, .int .i64 v]) (.agg #[.int .i64 k2, .int .i64 h2, .int .i64 x2, .int .i64 a2, .int .i64 b2, .int .i64 v2])).run Tryz.prog w = .ok (.bool (!decide ((⟨k, h, x, a, b, v⟩ : Ru) = ⟨k2, h2, x2, a2, b2, v2⟩))) w := by
  simp only [go_sem, Ru.mk.injEq]
  go_simp
  by_cases e0 : k = k2
  rotate_left
  · simp [e0]
  subst e0
  by_cases e1 : h = h2
  rotate_left
  · simp [e1]
  subst e1
  by_cases e2 : x = x2
  rotate_left
  · simp [e2]
  subst e2
  by_cases e3 : a = a2
  rotate_left
  · simp [e3]
  subst e3
  by_cases e4 : b = b2
  rotate_left
  · simp [e4]
  subst e4
  by_cases e5 : v = v2
  rotate_left
  · simp [e5]
  subst e5
  simp
end Go.Proofs.YtcmdiomjhideiaaGreatDoor.TblP
namespace Go.Proofs.YtcmdiomjhideiaaGreatDoor.TblQ
open Go.RowKit Go.Lib Go.Proofs Go.Proofs.YtcmdiomjhideiaaGreatDoor.Plain Go.Proofs.YtcmdiomjhideiaaGreatDoor.TblB Go.Proofs.YtcmdiomjhideiaaGreatDoor.TblC Go.Proofs.YtcmdiomjhideiaaGreatDoor.TblP Go.Proofs.YtcmdiomjhideiaaGreatDoor.TblF
set_option linter.unusedVariables false
set_option linter.unusedSimpArgs false
def rightU (n1 n2 : Nat) (u : Ru) : Bool := bareK u && (decide (bareU u = u) && (allB ((n1 * n2 : Nat) : Int) [u.head, u.a, u.b] && (allB n1 [u.who] && allB n2 [u.via])))
theorem nx {W w1 w2 : World} (h : RowKit.Below W.heap.size W w1) (hb : RowKit.Below w1.heap.size w1 w2) : RowKit.Below W.heap.size W w2 := h.trans (hb.mono h.size)
theorem belowL (w : World) (zs : List Int) (n : Int) (hT : zs.length ≤ 10000) : Calls Tryz.prog 81 #[.int .i64 n, .slice (some ⟨w.heap.size, 0, none⟩) zs.length zs.length] (w.alloc (.cells (zs.map fun z => Value.int .i64 z).toArray 3)) fun e w' => e = .returned (.bool (allB n zs)) ∧ RowKit.Below w.heap.size w w' := by
  refine (below (some ⟨w.heap.size, 0, none⟩) zs.length zs n (w.alloc (.cells (zs.map fun z => Value.int .i64 z).toArray 3)) hT (IG.lit _ w.heap.size zs 3 (heap_alloc_new w _))).mono ?_
  rintro e w' ⟨rfl, hb⟩
  exact ⟨rfl, nx ((Below.refl _ w).alloc (Nat.le_refl _) _) hb⟩
set_option maxHeartbeats 1000000 in
set_option maxRecDepth 100000 in
theorem right_ (n1 n2 : Nat) (u : Ru) (w : World) (g1 : n1 ≤ 1000) (g2 : n2 ≤ 1000) : Calls Tryz.prog 166 #[.int .i64 n1, .int .i64 n2, u.val] w fun e w' => e = .returned (.bool (rightU n1 n2 u)) ∧ RowKit.Below w.heap.size w w' := by
  have HB := Lib.hid (fun w' => bare_ u w')
  unfold BarePost at HB
  unfold rightU
  obtain ⟨k, h, x, a, b, v⟩ := u
  have hU : ∃ u2, bareU ⟨k, h, x, a, b, v⟩ = u2 := ⟨_, rfl⟩
  obtain ⟨⟨k', h', x', a', b', v'⟩, hU⟩ := hU
  rw [hU] at HB ⊢
  have hne := neG k' h' x' a' b' v' k h x a b v
  generalize bareK _ = bk at *
  generalize decide ((⟨k', h', x', a', b', v'⟩ : Ru) = ⟨k, h, x, a, b, v⟩) = dd at *
  unfold Ru.val at *
  simp only [Ru.cells] at HB ⊢
  have hb0 : allB 1001 [(n1 : Int), (n2 : Int)] = true := by simp [allB, inB]; omega
  have HL0 := Lib.hid (fun w' => belowL w' [(n1 : Int), (n2 : Int)] 1001 (by simp))
  have HL1 := Lib.hid (fun w' => belowL w' [h, a, b] ((n1 * n2 : Nat) : Int) (by simp))
  have HL2 := Lib.hid (fun w' => belowL w' [x] (n1 : Int) (by simp))
  have HL3 := Lib.hid (fun w' => belowL w' [v] (n2 : Int) (by simp))
  rw [hb0] at HL0
  have hq : n1 * n2 ≤ 1000000 := Nat.mul_le_mul g1 g2
  have hmul : IntKind.i64.wrap ((n1 : Int) * (n2 : Int)) = ((n1 * n2 : Nat) : Int) := by
    rw [← Int.natCast_mul, IntKind.wrap_i64]; omega
  generalize allB _ [h, a, b] = b1 at *
  generalize allB _ [x] = b2 at *
  generalize allB _ [v] = b3 at *
  generalize n1 * n2 = q at *
  simp only [List.length_cons, List.length_nil, Nat.zero_add, Nat.reduceAdd, List.map_cons, List.map_nil] at HL0 HL1 HL2 HL3
  clear hU hb0 hq g1 g2
  go_enter Tryz.func166, Tryz.ntmps166
  go_wp2_with fail
  refine (HB.out _).mono ?_
  rintro e w1 ⟨rfl, hb⟩
  have hx1 : w1.heap[w.heap.size]? = some (.cells #[.int .i64 k, .int .i64 h, .int .i64 x, .int .i64 a, .int .i64 b, .int .i64 v] 143 (0, 0)) := (hb.block _ (by simp)).trans (heap_alloc_new w _)
  have hlt1 : w.heap.size < w1.heap.size := (Array.getElem?_eq_some_iff.1 hx1).1
  have hz1 : RowKit.Below w1.heap.size w1 (w1.alloc (.cells #[.int .i64 k', .int .i64 h', .int .i64 x', .int .i64 a', .int .i64 b', .int .i64 v'] 143)) := (Below.refl _ _).alloc (Nat.le_refl _) _
  have HX2 := Lib.hid ((hz1.block w.heap.size hlt1).trans hx1)
  have HY2 := Lib.hid (heap_alloc_new w1 (.cells #[.int .i64 k', .int .i64 h', .int .i64 x', .int .i64 a', .int .i64 b', .int .i64 v'] 143))
  have HB2 := Lib.hid (nx (nx ((Below.refl w.heap.size w).alloc (Nat.le_refl _) (.cells #[.int .i64 k, .int .i64 h, .int .i64 x, .int .i64 a, .int .i64 b, .int .i64 v] 143)) hb) hz1)
  clear hx1 hz1 hb HB
  go_upto_region 2 with fail
  generalize w1.alloc (.cells #[.int .i64 k', .int .i64 h', .int .i64 x', .int .i64 a', .int .i64 b', .int .i64 v'] 143) = w2 at *
  have c2 := fun o => Lib.cell_of_heap HX2.out o
  have d2 := fun o => Lib.cell_of_heap HY2.out o
  cases bk
  · clear HL0 HL1 HL2 HL3 c2 d2
    go_wp2_with fail
    go_ret
    exact ⟨rfl, HB2.out⟩
  cases dd
  · go_wp2_with fail
    go_ret
    exact ⟨rfl, HB2.out⟩
  go_wp2_with fail
  refine (HL0.out w2).mono ?_
  rintro e w3 ⟨rfl, hb⟩
  have HB3 := Lib.hid (nx HB2.out hb)
  have HX3 := Lib.hid ((hb.block w.heap.size (Array.getElem?_eq_some_iff.1 HX2.out).1).trans HX2.out)
  have c3 := fun o => Lib.cell_of_heap HX3.out o
  clear hb HB2 HX2 HY2 c2 d2 HL0 hne
  go_wp2_with fail
  refine (HL1.out w3).mono ?_
  rintro e w4 ⟨rfl, hb⟩
  have HB4 := Lib.hid (nx HB3.out hb)
  have HX4 := Lib.hid ((hb.block w.heap.size (Array.getElem?_eq_some_iff.1 HX3.out).1).trans HX3.out)
  have c4 := fun o => Lib.cell_of_heap HX4.out o
  clear hb HB3 HX3 c3 HL1
  cases b1
  · go_wp2_with fail
    go_ret
    exact ⟨rfl, HB4.out⟩
  go_wp2_with fail
  refine (HL2.out w4).mono ?_
  rintro e w5 ⟨rfl, hb⟩
  have HB5 := Lib.hid (nx HB4.out hb)
  have HX5 := Lib.hid ((hb.block w.heap.size (Array.getElem?_eq_some_iff.1 HX4.out).1).trans HX4.out)
  have c5 := fun o => Lib.cell_of_heap HX5.out o
  clear hb HB4 HX4 c4 HL2
  cases b2
  · go_wp2_with fail
    go_ret
    exact ⟨rfl, HB5.out⟩
  go_wp2_with fail
  refine (HL3.out w5).mono ?_
  rintro e w6 ⟨rfl, hb⟩
  have HB6 := Lib.hid (nx HB5.out hb)
  clear hb HB5 HX5 c5 HL3
  go_wp2_with fail
  go_ret
  exact ⟨rfl, HB6.out⟩
end Go.Proofs.YtcmdiomjhideiaaGreatDoor.TblQ
/- Tables: which rules may be: bare and Right, by contract (they stand in RuC). -/

/- Tables: which rules may be: Right, by contract (it stands in RuC). -/

/- Tables: the statement of a rule, by contract. -/
namespace Go.Proofs.YtcmdiomjhideiaaGreatDoor.TblR
set_option linter.unusedVariables false
set_option linter.unusedSimpArgs false
open Go.RowKit Go.Sort Go.Lib Go.Proofs Go.Proofs.YtcmdiomjhideiaaGreatDoor.Plain Go.Proofs.YtcmdiomjhideiaaGreatDoor.SynP Go.Proofs.YtcmdiomjhideiaaGreatDoor.SynE Go.Proofs.YtcmdiomjhideiaaGreatDoor.Grown Go.Proofs.YtcmdiomjhideiaaGreatDoor.TabP Go.Proofs.YtcmdiomjhideiaaGreatDoor.Tab1 Go.Proofs.YtcmdiomjhideiaaGreatDoor.Tab2 Go.Proofs.YtcmdiomjhideiaaGreatDoor.RolK Go.Proofs.YtcmdiomjhideiaaGreatDoor.TblA Go.Proofs.YtcmdiomjhideiaaGreatDoor.TblB Go.Proofs.YtcmdiomjhideiaaGreatDoor.TblC Go.Proofs.YtcmdiomjhideiaaGreatDoor.TblF Go.Proofs.YtcmdiomjhideiaaGreatDoor.TblI Go.Proofs.YtcmdiomjhideiaaGreatDoor.TblP Go.Proofs.YtcmdiomjhideiaaGreatDoor.TblQ
set_option linter.unusedVariables false
set_option linter.unusedSimpArgs false
def txt (l : Str) : ByteArray := ⟨l.toArray⟩
/-- The role with that number. -/
def rolI (P L : List Str) (i : Int) : Rl := if 0 ≤ i ∧ i < ((P.length * L.length : Nat) : Int) then ⟨txt (P.getD (i.toNat / L.length) []), txt (L.getD (i.toNat % L.length) [])⟩ else zeroR
/-- The statement of a rule, before its roles are put in order. -/
def stU (P L : List Str) (u : Ru) : St := ⟨u.kind, rolI P L u.head, if u.kind = 1 then txt (P.getD u.who.toNat []) else noText, if u.kind = 1 then zeroR else rolI P L u.a, if u.kind = 4 then rolI P L u.b else zeroR, if u.kind = 3 then txt (L.getD u.via.toNat []) else noText⟩
def stA (P L : List Str) (u : Ru) : St := if rightU P.length L.length u then (stU P L u).normal else zeroS
section
variable {w : World} {t a b : Nat} {A1 : Option Addr} {c1 : Nat} {A2 : Option Addr} {c2 : Nat} {P L : List Str}
theorem roleAt (h : TblK w t a b A1 c1 A2 c2 P L) (i : Int) : Calls Tryz.prog 21 #[.pointer (some ⟨t, 0, none⟩), .int .i64 i] w fun e w' => e = .returned (rolI P L i).val ∧ RowKit.Below w.heap.size w w' := by
  unfold rolI
  by_cases hi : 0 ≤ i ∧ i < ((P.length * L.length : Nat) : Int)
  · rw [if_pos hi]
    have h0 : 0 < L.length := by
      rcases Nat.eq_zero_or_pos L.length with h0 | h0
      · rw [h0, Nat.mul_zero] at hi; omega
      · exact h0
    have hj : i.toNat < P.length * L.length := by omega
    have hx : i.toNat / L.length < P.length := Nat.div_lt_of_lt_mul (by rw [Nat.mul_comm]; exact hj)
    have hy : i.toNat % L.length < L.length := Nat.mod_lt _ h0
    have := roleAt_in h (i.toNat / L.length) (i.toNat % L.length) hx hy
    have e : ((i.toNat / L.length * L.length + i.toNat % L.length : Nat) : Int) = i := by
      rw [Nat.mul_comm, Nat.div_add_mod]; omega
    rw [e] at this
    rw [List.getD_eq_getElem?_getD, List.getD_eq_getElem?_getD, List.getElem?_eq_getElem hx, List.getElem?_eq_getElem hy]
    exact this
  · rw [if_neg hi]
    exact roleAt_out h i (by omega)
end
def St.arr (s : St) : Array Value := #[.int .i64 s.kind, .string s.head.owner, .string s.head.name, .string s.who, .string s.a.owner, .string s.a.name, .string s.b.owner, .string s.b.name, .string s.via]
theorem infoSt : (Tryz.prog.info? 55).map (·.size) = some 9 := by kernel_rfl
/-- What the rest of Stmt starts from. -/
structure Mid (w wx : World) (N : Nat) (u : Ru) (s : St) : Prop where
  below : RowKit.Below w.heap.size w wx
  box : wx.heap[w.heap.size]? = some (.cells u.cells 143 (0, 0))
  out : wx.heap[w.heap.size + 1]? = some (.cells (St.arr zeroS) 55 (0, 0))
  at_ : wx.heap[N]? = some (.cells (St.arr s) 55 (0, 0))
  far : w.heap.size + 2 ≤ N
theorem Mid.keep {w wx w' : World} {N : Nat} {u : Ru} {s : St} (h : Mid w wx N u s) (hb : RowKit.Below wx.heap.size wx w') : Mid w w' N u s :=
  ⟨nx h.below hb, (hb.block _ (Array.getElem?_eq_some_iff.1 h.box).1).trans h.box, (hb.block _ (Array.getElem?_eq_some_iff.1 h.out).1).trans h.out, (hb.block _ (Array.getElem?_eq_some_iff.1 h.at_).1).trans h.at_, h.far⟩
theorem Mid.set {w wx : World} {N : Nat} {u : Ru} {s : St} (h : Mid w wx N u s) (o : Nat) (v : Value) (s2 : St) (hs : (St.arr s).setIfInBounds o v = St.arr s2) : Mid w (wx.setCell ⟨N, o, none⟩ v) N u s2 := by
  have hf := h.far
  refine ⟨h.below.setCell (by show w.heap.size ≤ N; omega) _, (Below.heap_setCell _ _ _ _ (by show w.heap.size ≠ N; omega)).trans h.box, (Below.heap_setCell _ _ _ _ (by show w.heap.size + 1 ≠ N; omega)).trans h.out, ?_, h.far⟩
  rw [heap_setCell_same _ _ _ _ _ _ h.at_, hs]
theorem Mid.cat {w wx : World} {N : Nat} {u : Ru} {s : St} (h : Mid w wx N u s) : ∀ o, wx.cell? ⟨N, o, none⟩ = (#[.int .i64 s.kind, .string s.head.owner, .string s.head.name, .string s.who, .string s.a.owner, .string s.a.name, .string s.b.owner, .string s.b.name, .string s.via] : Array Value)[o]? := fun o => Lib.cell_of_heap h.at_ o
theorem Mid.free {w wx : World} {N : Nat} {u : Ru} {s : St} (h : Mid w wx N u s) : ∀ o, wx.frozen? ⟨N, o, none⟩ = false := fun o => frozen_of_row _ _ _ _ _ h.at_
theorem still_tail {P : Program} {id : Nat} {Q : Exit → Act → World → Prop} {a : Act} {w : World} {l : List Oper} (n : Nat) (hm : P.follows .mixedOrders = true) (hB : Region.lexTailB .any l.toArray n = true)
    (h : wpStill P l.toArray w.drew (fun a' => wpList P l.toArray Q (l.drop n) a' w.drew) (l.take n) a) : (Code.region id l.toArray true).wp P Q a w := wp_region_still_tail n hm hB h
section
variable {t a b : Nat} {A1 : Option Addr} {c1 : Nat} {A2 : Option Addr} {c2 : Nat} {P L : List Str}
end
end Go.Proofs.YtcmdiomjhideiaaGreatDoor.TblR
/- Families of sets of numbers: Copy and Within, by contract; what Add does to the counts. -/
namespace Go.Proofs.YtcmdiomjhideiaaGreatDoor.SetG
set_option linter.unusedVariables false
set_option linter.unusedSimpArgs false
open Go.RowKit Go.Lib Go.Proofs Go.Proofs.YtcmdiomjhideiaaGreatDoor.SetPop Go.Proofs.YtcmdiomjhideiaaGreatDoor.SetA Go.Proofs.YtcmdiomjhideiaaGreatDoor.SetB Go.Proofs.YtcmdiomjhideiaaGreatDoor.SetC Go.Proofs.YtcmdiomjhideiaaGreatDoor.SetD Go.Proofs.YtcmdiomjhideiaaGreatDoor.SetE
set_option linter.unusedVariables false
set_option linter.unusedSimpArgs false
def ClonePost (n : Nat) (M : List Nat) (w : World) (e : Ending) (w' : World) : Prop := ∃ g cp Z, e = .returned (.slice (some ⟨g, 0, none⟩) n cp) ∧ w.heap.size ≤ g ∧ w'.heap[g]? = some (.cells (encM M ++ Z) 152 (0, 0)) ∧ Below w.heap.size w w'
end Go.Proofs.YtcmdiomjhideiaaGreatDoor.SetG
/- What Add does to the counts, and to what is within what; families that there aren't. -/
namespace Go.Proofs.YtcmdiomjhideiaaGreatDoor.SetH
set_option linter.unusedVariables false
set_option linter.unusedSimpArgs false
open Go.RowKit Go.Lib Go.Proofs Go.Proofs.YtcmdiomjhideiaaGreatDoor.SetPop Go.Proofs.YtcmdiomjhideiaaGreatDoor.SetA Go.Proofs.YtcmdiomjhideiaaGreatDoor.SetB Go.Proofs.YtcmdiomjhideiaaGreatDoor.SetC Go.Proofs.YtcmdiomjhideiaaGreatDoor.SetD Go.Proofs.YtcmdiomjhideiaaGreatDoor.SetE Go.Proofs.YtcmdiomjhideiaaGreatDoor.SetG
set_option linter.unusedVariables false
set_option linter.unusedSimpArgs false
theorem countP_one (p : Nat → Bool) (j : Nat) (hp : p j = false) : ∀ n, (List.range n).countP (fun i => p i || decide (j = i)) = (List.range n).countP p + (if j < n then 1 else 0)
  | 0 => by simp
  | n + 1 => by
    rw [List.range_succ, List.countP_append, List.countP_append, countP_one p j hp n]
    simp only [List.countP_singleton, Bool.or_eq_true, decide_eq_true_eq]
    by_cases h : j = n
    · subst h
      simp [hp]
    · have h3 : (j < n + 1) ↔ j < n := by omega
      simp only [h3, h, or_false]
      omega
theorem pop_or (x j : Nat) (hj : j < 64) (h : x.testBit j = false) : pop (x ||| 2 ^ j) = pop x + 1 := by
  unfold pop
  have := countP_one (fun i => x.testBit i) j h 64
  rw [if_pos hj] at this
  rw [← this]
  apply List.countP_congr
  intro i _
  rw [Nat.testBit_or, Nat.testBit_two_pow]
theorem cnt_set : ∀ (T : List Nat) (q v : Nat), q < T.length → cnt (T.set q v) + pop (T.getD q 0) = cnt T + pop v
  | [], _, _, h => absurd h (by simp)
  | a :: T, 0, v, _ => by simp [cnt]; omega
  | a :: T, q + 1, v, h => by
    have := cnt_set T q v (by simpa using h)
    simp only [cnt, List.set_cons_succ, List.map_cons, List.sum_cons, List.getD_cons_succ] at this ⊢
    omega
theorem rowM_getD (M : List Nat) (r k : Nat) (hk : k < 16) : (rowM M r).getD k 0 = M.getD (r * 16 + k) 0 := by
  rw [List.getD_eq_getElem?_getD, List.getD_eq_getElem?_getD, rowM_get hk]
theorem rowI_nat {n : Nat} (M : List Nat) {r : Nat} (h : r < n) : rowI n M (r : Int) = rowM M r := by
  unfold rowI
  rw [if_pos (by omega)]; rfl
theorem rowM_set_same (M : List Nat) (r q v : Nat) (hq : q < 16) : rowM (M.set (r * 16 + q) v) r = (rowM M r).set q v := by
  apply List.ext_getElem?
  intro i
  rcases Nat.lt_or_ge i 16 with hi | hi
  · rw [rowM_get hi]
    by_cases h : q = i
    · subst h
      rw [List.getElem?_set, if_pos rfl, List.getElem?_set, if_pos rfl]
      by_cases hl : r * 16 + q < M.length
      · rw [if_pos hl, if_pos (by unfold rowM; simp; omega)]
      · rw [if_neg hl, if_neg (by unfold rowM; simp; omega)]
    · rw [List.getElem?_set_ne (by omega), List.getElem?_set_ne h, rowM_get hi]
  · rw [List.getElem?_eq_none (by unfold rowM; simp; omega), List.getElem?_eq_none (by unfold rowM; simp; omega)]
theorem rowM_set_other (M : List Nat) (r r' q v : Nat) (hq : q < 16) (h : r ≠ r') : rowM (M.set (r * 16 + q) v) r' = rowM M r' := by
  apply List.ext_getElem?
  intro i
  rcases Nat.lt_or_ge i 16 with hi | hi
  · rw [rowM_get hi, rowM_get hi, List.getElem?_set_ne (by omega)]
  · rw [List.getElem?_eq_none (by unfold rowM; simp; omega), List.getElem?_eq_none (by unfold rowM; simp; omega)]
theorem cnt_add (n c : Nat) (M : List Nat) (r k : Nat) (hM : M.length = n * 16) (hr : r < n) (hk : k < 1024) (hb : bitAt M r k = false) (r' : Nat) : cnt (rowM (addM M r k) r') = cnt (rowM M r') + (if r = r' then 1 else 0) := by
  unfold addM
  by_cases h : r = r'
  · subst h
    rw [if_pos rfl, rowM_set_same _ _ _ _ (by omega)]
    have h1 := cnt_set (rowM M r) (k / 64) (word M r k ||| 2 ^ (k % 64)) (by rw [rowM_len hM hr]; omega)
    rw [rowM_getD _ _ _ (by omega)] at h1
    have h2 := pop_or (word M r k) (k % 64) (by omega) hb
    have h3 : M.getD (r * 16 + k / 64) 0 = word M r k := rfl
    rw [h3] at h1
    omega
  · rw [if_neg h, rowM_set_other _ _ _ _ _ (by omega) h]; rfl
theorem tot_add (n c : Nat) (M : List Nat) (r k : Int) (hM : M.length = n * 16) (hc : c ≤ 1000) (h : addB n c M r k = true) : tot n (addN n c M r k) n = tot n M n + 1 := by
  unfold addN
  rw [if_pos h]
  unfold addB at h
  rw [Bool.and_eq_true] at h
  obtain ⟨a1, a2, a3, a4⟩ := mayB_iff.1 h.1
  have hb : bitAt M r.toNat k.toNat = false := by simpa using h.2
  have key : ∀ m, m ≤ n → tot n (addM M r.toNat k.toNat) m = tot n M m + (if r.toNat < m then 1 else 0) := by
    intro m
    induction m with
    | zero => intro _; simp [tot]
    | succ m ih =>
      intro hm
      rw [tot_succ, tot_succ, ih (by omega), rowI_nat _ (by omega), rowI_nat _ (by omega), cnt_add n c M r.toNat k.toNat hM (by omega) (by omega) hb]
      have h3 : (if r.toNat < m + 1 then 1 else 0) = (if r.toNat < m then 1 else 0) + (if r.toNat = m then 1 else 0) := by
        by_cases h1 : r.toNat < m
        · rw [if_pos h1, if_pos (show r.toNat < m + 1 by omega), if_neg (show ¬ r.toNat = m by omega)]
        · by_cases h2 : r.toNat = m
          · rw [if_neg h1, if_pos (show r.toNat < m + 1 by omega), if_pos h2]
          · rw [if_neg h1, if_neg (show ¬ r.toNat < m + 1 by omega), if_neg h2]
      omega
  rw [key n (Nat.le_refl _), if_pos (by omega)]
theorem addN_no {n c : Nat} {M : List Nat} {r k : Int} (h : addB n c M r k = false) : addN n c M r k = M := by unfold addN; rw [h]; rfl
theorem tot_zero (n m k : Nat) : tot n (List.replicate (n * 16) 0) k = 0 := by
  induction k with
  | zero => simp [tot]
  | succ k ih =>
    rw [tot_succ, ih]
    have h16 := rowI_len (M := List.replicate (n * 16) 0) (n := n) (by simp) (k : Int)
    have hz : ∀ x ∈ rowI n (List.replicate (n * 16) 0) (k : Int), x = 0 := fun x hx => by
      unfold rowI at hx
      split at hx
      · exact List.eq_of_mem_replicate (List.mem_of_mem_drop (List.mem_of_mem_take hx))
      · exact List.eq_of_mem_replicate hx
    have := (cnt_zero _ (fun x hx => by rw [hz x hx]; omega)).2 hz
    omega
section
set_option maxRecDepth 100000
end
end Go.Proofs.YtcmdiomjhideiaaGreatDoor.SetH
/- The bits of words as numbers that rise: maths of plain numbers alone. -/
namespace Go.Proofs.YtcmdiomjhideiaaGreatDoor.SetM
set_option linter.unusedVariables false
set_option linter.unusedSimpArgs false
open Go.Lib Go.Proofs.YtcmdiomjhideiaaGreatDoor.SetPop
set_option linter.unusedVariables false
set_option linter.unusedSimpArgs false
/-- The places of a word's bits, rising. -/
def bitsOf (x : Nat) : List Nat := (List.range 64).filter fun i => x.testBit i
theorem bitsOf_len (x : Nat) : (bitsOf x).length = pop x := by unfold bitsOf pop; rw [List.countP_eq_length_filter]
theorem bitsOf_zero : bitsOf 0 = [] := by decide +kernel
theorem filter_first (p q : Nat → Bool) (j d : Nat) (hj : p j = true) (hlt : ∀ i, i < j → p i = false) (hq : ∀ i, q i = (p i && decide (i ≠ j))) :
    (List.range (j + (1 + d))).filter p = j :: (List.range (j + (1 + d))).filter q := by
  rw [List.range_add, List.range_add]
  simp only [List.filter_append, List.map_append]
  have e1 : (List.range j).filter p = [] := by
    rw [List.filter_eq_nil_iff]
    intro i hi
    rw [hlt i (List.mem_range.1 hi)]; simp
  have e2 : (List.range j).filter q = [] := by
    rw [List.filter_eq_nil_iff]
    intro i hi
    rw [hq, hlt i (List.mem_range.1 hi)]; simp
  rw [e1, e2]
  have e3 : q j = false := by rw [hq]; simp
  have e4 : (((List.range d).map (1 + ·)).map (j + ·)).filter p = (((List.range d).map (1 + ·)).map (j + ·)).filter q := by
    refine List.filter_congr fun i hi => ?_
    simp only [List.mem_map] at hi
    obtain ⟨_, ⟨x, hx, rfl⟩, rfl⟩ := hi
    rw [hq]
    have : decide (j + (1 + x) ≠ j) = true := by simp
    rw [this, Bool.and_true]
  simp [hj, e3]
  simpa using e4
theorem low (x : Nat) (h0 : x ≠ 0) (h : x < 18446744073709551616) : ctz 64 x < 64 ∧ x.testBit (ctz 64 x) = true ∧ (∀ i, i < ctz 64 x → x.testBit i = false) ∧ (∀ i, (x &&& (x - 1)).testBit i = (x.testBit i && decide (i ≠ ctz 64 x))) := by
  obtain ⟨m, hm, hk⟩ := ctzFrom_spec 64 x (by omega) h
  have e : ctz 64 x = ctzFrom 64 x := by simp [ctz, h0]
  rw [e]
  generalize ctzFrom 64 x = j at *
  have hx : ∀ i, x.testBit i = (decide (i = j) || (decide (j < i) && m.testBit (i - (j + 1)))) := by
    intro i
    rw [hm, Nat.mul_comm, Nat.testBit_mul_two_pow]
    rcases Nat.lt_trichotomy i j with hi | hi | hi
    · have b1 : decide (i ≥ j) = false := by simp; omega
      have b2 : decide (i = j) = false := by simp; omega
      have b3 : decide (j < i) = false := by simp; omega
      rw [b1, b2, b3]; rfl
    · subst hi; simp [Nat.testBit_zero]
    · obtain ⟨t, rfl⟩ : ∃ t, i = j + (t + 1) := ⟨i - j - 1, by omega⟩
      have e3 : j + (t + 1) - j = t + 1 := by omega
      have e4 : j + (t + 1) - (j + 1) = t := by omega
      rw [e3, e4, Nat.testBit_succ]
      have d1 : (2 * m + 1) / 2 = m := by omega
      rw [d1]
      simp
  have hy : ∀ i, (x - 1).testBit i = (decide (i < j) || (decide (j < i) && m.testBit (i - (j + 1)))) := by
    intro i
    have e5 : x - 1 = 2 ^ (j + 1) * m + (2 ^ j - 1) := by
      have := Nat.two_pow_pos j
      rw [hm, Nat.pow_succ, Nat.mul_add, Nat.mul_one, Nat.mul_assoc]
      omega
    have lt : 2 ^ j - 1 < 2 ^ (j + 1) := by
      have := Nat.two_pow_pos j
      rw [Nat.pow_succ]; omega
    rw [e5, Nat.testBit_two_pow_mul_add _ lt, Nat.testBit_two_pow_sub_one]
    by_cases hi : i < j + 1
    · have b3 : decide (j < i) = false := by simp; omega
      rw [if_pos hi, b3]; simp
    · have b3 : decide (j < i) = true := by simp; omega
      have b1 : decide (i < j) = false := by simp; omega
      rw [if_neg hi, b3, b1]; simp
  refine ⟨hk, ?_, ?_, ?_⟩
  · rw [hx]; simp
  · intro i hi
    have b2 : decide (i = j) = false := by simp; omega
    have b3 : decide (j < i) = false := by simp; omega
    rw [hx, b2, b3]; rfl
  · intro i
    rw [Nat.testBit_and, hx, hy]
    rcases Nat.lt_trichotomy i j with hi | hi | hi
    · have b2 : decide (i = j) = false := by simp; omega
      have b3 : decide (j < i) = false := by simp; omega
      rw [b2, b3]; rfl
    · subst hi; simp
    · have b2 : decide (i = j) = false := by simp; omega
      have b3 : decide (j < i) = true := by simp; omega
      have b4 : decide (i < j) = false := by simp; omega
      have b5 : decide (i ≠ j) = true := by simp; omega
      rw [b2, b3, b4, b5]; simp
theorem bitsOf_step (x : Nat) (h0 : x ≠ 0) (h : x < 18446744073709551616) : bitsOf x = ctz 64 x :: bitsOf (x &&& (x - 1)) := by
  obtain ⟨hk, h1, h2, h3⟩ := low x h0 h
  have := filter_first (fun i => x.testBit i) (fun i => (x &&& (x - 1)).testBit i) (ctz 64 x) (63 - ctz 64 x) h1 h2 h3
  have e : ctz 64 x + (1 + (63 - ctz 64 x)) = 64 := by omega
  rw [e] at this
  exact this
theorem and_less (x : Nat) (h0 : x ≠ 0) : (x &&& (x - 1)) < x := by
  have := Nat.and_le_right (n := x) (m := x - 1)
  omega
theorem and_small (x : Nat) (h : x < 18446744073709551616) : (x &&& (x - 1)) < 18446744073709551616 := Nat.lt_of_le_of_lt Nat.and_le_left h
/-- The numbers of the first k words. -/
def numsOf (T : List Nat) (k : Nat) : List Nat := (List.range k).flatMap fun i => (bitsOf (T.getD i 0)).map (i * 64 + ·)
theorem numsOf_succ (T : List Nat) (k : Nat) : numsOf T (k + 1) = numsOf T k ++ (bitsOf (T.getD k 0)).map (k * 64 + ·) := by
  unfold numsOf
  rw [List.range_succ, List.flatMap_append]
  simp
/-- Has a set, told by its words, that number? -/
def bitT (T : List Nat) (k : Nat) : Bool := (T.getD (k / 64) 0).testBit (k % 64)
theorem numsOf_eq (T : List Nat) : ∀ k, numsOf T k = (List.range (k * 64)).filter (bitT T)
  | 0 => by simp [numsOf]
  | k + 1 => by
    rw [numsOf_succ, numsOf_eq T k, Nat.add_mul, Nat.one_mul, List.range_add, List.filter_append, List.filter_map]
    congr 1
    unfold bitsOf
    congr 1
    refine List.filter_congr fun i hi => ?_
    have hi := List.mem_range.1 hi
    have a1 : (k * 64 + i) / 64 = k := by omega
    have a2 : (k * 64 + i) % 64 = i := by omega
    simp only [Function.comp_apply, bitT, a1, a2]
theorem numsOf_len (T : List Nat) : ∀ k, (numsOf T k).length = ((List.range k).map fun i => pop (T.getD i 0)).sum
  | 0 => by simp [numsOf]
  | k + 1 => by
    rw [numsOf_succ, List.length_append, numsOf_len T k, List.length_map, bitsOf_len, List.range_succ, List.map_append, List.sum_append]
    simp
/-- Numbers that are in, below c, are those below 1024 if none other is. -/
theorem below_c (p : Nat → Bool) (c : Nat) (hc : c ≤ 1024) (h : ∀ k, p k = true → k < c) : (List.range 1024).filter p = (List.range c).filter p := by
  obtain ⟨d, hd⟩ : ∃ d, 1024 = c + d := ⟨1024 - c, by omega⟩
  rw [hd, List.range_add, List.filter_append]
  have : ((List.range d).map (c + ·)).filter p = [] := by
    rw [List.filter_eq_nil_iff]
    intro i hi hp
    rw [List.mem_map] at hi
    obtain ⟨x, _, rfl⟩ := hi
    have := h _ hp
    omega
  rw [this, List.append_nil]
end Go.Proofs.YtcmdiomjhideiaaGreatDoor.SetM
/- What the words of a family and a row of pairs say of one another: plain maths. -/
namespace Go.Proofs.YtcmdiomjhideiaaGreatDoor.SetN
set_option linter.unusedVariables false
set_option linter.unusedSimpArgs false
open Go.RowKit Go.Lib Go.Proofs Go.Proofs.YtcmdiomjhideiaaGreatDoor.SetPop Go.Proofs.YtcmdiomjhideiaaGreatDoor.SetA Go.Proofs.YtcmdiomjhideiaaGreatDoor.SetB Go.Proofs.YtcmdiomjhideiaaGreatDoor.SetC Go.Proofs.YtcmdiomjhideiaaGreatDoor.SetD Go.Proofs.YtcmdiomjhideiaaGreatDoor.SetE Go.Proofs.YtcmdiomjhideiaaGreatDoor.SetG Go.Proofs.YtcmdiomjhideiaaGreatDoor.SetH Go.Proofs.YtcmdiomjhideiaaGreatDoor.SetM
set_option linter.unusedVariables false
set_option linter.unusedSimpArgs false
/-- The pairs that are in, told by words and by a row of pairs. -/
structure Inv (n c : Nat) (M : List Nat) (L : List (Int × Int)) : Prop where
  len : M.length = n * 16
  c1 : c ≤ 1000
  rng : ∀ p ∈ L, mayB n c p.1 p.2 = true
  bit : ∀ r k : Nat, r < n → k < 1024 → bitAt M r k = decide (((r : Int), (k : Int)) ∈ L)
  tot : tot n M n = L.length
theorem Inv.zero (n c : Nat) (hc : c ≤ 1000) : Inv n c (List.replicate (n * 16) 0) [] where
  len := by simp
  c1 := hc
  rng := fun p h => by cases h
  bit := fun r k _ _ => by rw [bit_zero]; simp
  tot := tot_zero n n n
variable {n c : Nat} {M : List Nat} {L : List (Int × Int)}
def hasL (L : List (Int × Int)) (r k : Int) : Bool := L.any fun x => decide (x.1 = r) && decide (x.2 = k)
theorem hasL_iff {r k : Int} : hasL L r k = true ↔ (r, k) ∈ L := by
  unfold hasL
  rw [List.any_eq_true]
  constructor
  · rintro ⟨⟨a, b⟩, h, e⟩
    simp at e
    obtain ⟨rfl, rfl⟩ := e
    exact h
  · intro h
    exact ⟨_, h, by simp⟩
theorem hasL_dec (r k : Int) : hasL L r k = decide ((r, k) ∈ L) := by
  rw [Bool.eq_iff_iff, hasL_iff, decide_eq_true_eq]
theorem Inv.has (h : Inv n c M L) (r k : Int) : hasB n c M r k = hasL L r k := by
  rw [Bool.eq_iff_iff, hasL_iff]
  unfold hasB
  rw [Bool.and_eq_true]
  constructor
  · rintro ⟨h1, h2⟩
    obtain ⟨a1, a2, a3, a4⟩ := mayB_iff.1 h1
    have := h.c1
    rw [h.bit _ _ (by omega) (by omega), decide_eq_true_eq] at h2
    rw [Int.toNat_of_nonneg a1, Int.toNat_of_nonneg a3] at h2
    exact h2
  · intro hm
    have h1 := h.rng _ hm
    obtain ⟨a1, a2, a3, a4⟩ := mayB_iff.1 h1
    have := h.c1
    simp only at a1 a2 a3 a4
    refine ⟨h1, ?_⟩
    rw [h.bit _ _ (by omega) (by omega), decide_eq_true_eq, Int.toNat_of_nonneg a1, Int.toNat_of_nonneg a3]
    exact hm
theorem Inv.addB (h : Inv n c M L) (r k : Int) : addB n c M r k = (mayB n c r k && !hasL L r k) := by
  rw [← h.has]
  unfold SetB.addB hasB
  cases mayB n c r k <;> simp
def putL (n c : Nat) (L : List (Int × Int)) (r k : Int) : List (Int × Int) := if mayB n c r k && !hasL L r k then L ++ [(r, k)] else L
theorem putL_len (n c : Nat) (L : List (Int × Int)) (r k : Int) : (putL n c L r k).length ≤ L.length + 1 := by
  unfold putL
  split <;> simp
theorem Inv.add (h : Inv n c M L) (r k : Int) : Inv n c (addN n c M r k) (putL n c L r k) := by
  unfold putL
  rw [← h.addB]
  cases hb : SetB.addB n c M r k with
  | false => rw [addN_no hb]; exact h
  | true =>
    have hN : addN n c M r k = addM M r.toNat k.toNat := by unfold addN; rw [hb]; rfl
    have ht := tot_add n c M r k h.len h.c1 hb
    have hb2 := hb
    unfold SetB.addB at hb2
    rw [Bool.and_eq_true] at hb2
    obtain ⟨a1, a2, a3, a4⟩ := mayB_iff.1 hb2.1
    have hc := h.c1
    have hl := h.len
    refine ⟨by rw [addN_len]; exact h.len, h.c1, ?_, ?_, ?_⟩
    · intro p hp
      rw [if_pos rfl, List.mem_append, List.mem_singleton] at hp
      rcases hp with hp | rfl
      · exact h.rng p hp
      · exact hb2.1
    · intro r' k' hr hk
      rw [hN, bit_addM _ _ _ _ _ (by omega) (by omega) hk, h.bit r' k' hr hk, if_pos rfl, Bool.eq_iff_iff]
      simp only [Bool.or_eq_true, decide_eq_true_eq, List.mem_append, List.mem_singleton, Prod.mk.injEq]
      refine or_congr Iff.rfl ?_
      omega
    · rw [ht, h.tot]; simp
theorem Inv.row (h : Inv n c M L) (r : Int) (k : Nat) (hk : k < 1024) : bitT (rowI n M r) k = hasL L r k := by
  by_cases hr : 0 ≤ r ∧ r < n
  · obtain ⟨j, rfl⟩ : ∃ j : Nat, r = j := ⟨r.toNat, by omega⟩
    have hj : j < n := by omega
    rw [rowI_nat M hj]
    unfold bitT
    rw [rowM_getD _ _ _ (by omega), hasL_dec, ← h.bit j k hj hk]
    rfl
  · unfold bitT rowI
    rw [if_neg hr]
    have e : hasL L r k = false := by
      cases hh : hasL L r k with
      | false => rfl
      | true =>
        have := h.rng _ (hasL_iff.1 hh)
        obtain ⟨a1, a2, _, _⟩ := mayB_iff.1 this
        exact absurd ⟨a1, a2⟩ hr
    rw [e, List.getD_eq_getElem?_getD, List.getElem?_replicate]
    split <;> simp
def listL (c : Nat) (L : List (Int × Int)) (r : Int) : List Nat := (List.range c).filter fun k : Nat => hasL L r k
theorem Inv.list (h : Inv n c M L) (r : Int) : numsOf (rowI n M r) 16 = listL c L r := by
  rw [numsOf_eq]
  have e : (List.range (16 * 64)).filter (bitT (rowI n M r)) = (List.range 1024).filter (fun k : Nat => hasL L r k) := by
    refine List.filter_congr fun k hk => ?_
    exact h.row r k (List.mem_range.1 hk)
  rw [e]
  have hc := h.c1
  exact below_c _ _ (by omega) fun k hk => by
    have := h.rng _ (hasL_iff.1 hk)
    obtain ⟨_, _, _, a4⟩ := mayB_iff.1 this
    simp only at a4
    omega
theorem cnt_nums (T : List Nat) (h : T.length = 16) : cnt T = (numsOf T 16).length := by
  rw [numsOf_len]
  unfold cnt
  congr 1
  apply List.ext_getElem
  · simp [h]
  · intro i h1 h2
    simp at h1 h2
    simp [List.getElem?_eq_getElem h1]
theorem Inv.cnt (h : Inv n c M L) (r : Int) : cnt (rowI n M r) = (listL c L r).length := by
  rw [cnt_nums _ (rowI_len h.len r), h.list]
theorem listL_len (c : Nat) (L : List (Int × Int)) (r : Int) : (listL c L r).length ≤ c := by
  unfold listL
  exact Nat.le_trans (List.length_filter_le _ _) (by simp)
theorem Inv.col (h : Inv n c M L) {r k : Int} (hm : (r, k) ∈ L) : 0 ≤ k ∧ k < 1024 := by
  obtain ⟨_, _, a3, a4⟩ := mayB_iff.1 (h.rng _ hm)
  have := h.c1
  simp only at a3 a4
  omega
end Go.Proofs.YtcmdiomjhideiaaGreatDoor.SetN
/- Who is in which role: the worklist's maths. What was put in follows from the rules; when nobody is left to be followed all that follows is in; how often the loops went round, at most. -/
namespace Go.Proofs.YtcmdiomjhideiaaGreatDoor.SemA
set_option linter.unusedVariables false
set_option linter.unusedSimpArgs false
open Go.Proofs.YtcmdiomjhideiaaGreatDoor.SetB Go.Proofs.YtcmdiomjhideiaaGreatDoor.SetN Go.Proofs.YtcmdiomjhideiaaGreatDoor.TblC
set_option linter.unusedVariables false
set_option linter.unusedSimpArgs false
abbrev Pr := Int × Int
/-- Who is in which role, by rules. -/
inductive Der (K : Nat) (L : List Ru) : Int → Int → Prop
  | mem (u : Ru) : u ∈ L → u.kind = 1 → Der K L u.head u.who
  | incl (u : Ru) (x : Int) : u ∈ L → u.kind = 2 → Der K L u.a x → Der K L u.head x
  | link (u : Ru) (x y : Int) : u ∈ L → u.kind = 3 → Der K L u.a x → Der K L (x * K + u.via) y → Der K L u.head y
  | both (u : Ru) (x : Int) : u ∈ L → u.kind = 4 → Der K L u.a x → Der K L u.b x → Der K L u.head x
theorem Der.mono {K : Nat} {L L' : List Ru} (h : ∀ u ∈ L, u ∈ L') {r x : Int} (d : Der K L r x) : Der K L' r x := by
  induction d with
  | mem u hu hk => exact .mem u (h u hu) hk
  | incl u x hu hk _ ih => exact .incl u x (h u hu) hk ih
  | link u x y hu hk _ _ i1 i2 => exact .link u x y (h u hu) hk i1 i2
  | both u x hu hk _ _ i1 i2 => exact .both u x (h u hu) hk i1 i2
/-- What the worklist holds: who came in, in order; the rules that look at each role; how often loops went round. -/
structure Sm where
  all : List Pr
  look : List (List Ru)
  steps : Nat
def Sm.at (s : Sm) (i : Int) : List Ru := s.look.getD i.toNat []
def inclU (h a : Int) : Ru := ⟨2, h, 0, a, 0, 0⟩
def putM (n P : Nat) (s : Sm) (r x : Int) : Sm := { s with all := putL n P s.all r x }
def lookM (s : Sm) (i : Int) (u : Ru) : Sm := { s with look := s.look.modify i.toNat (· ++ [u]) }
def tick (s : Sm) : Sm := { s with steps := s.steps + 1 }
def incM (n P : Nat) (s : Sm) (h : Int) (l : List Nat) : Sm := l.foldl (fun s (x : Nat) => putM n P (tick s) h x) s
def includeM (n P : Nat) (s : Sm) (h a : Int) : Sm := incM n P (lookM s a (inclU h a)) h (listL P s.all a)
def stepM (n P K : Nat) (s : Sm) (y : Int) (u : Ru) : Sm :=
  if u.kind = 2 then putM n P (tick s) u.head y
  else if u.kind = 3 then includeM n P (tick s) u.head (y * K + u.via)
  else if u.kind = 4 then (if hasL s.all u.a y && hasL s.all u.b y then putM n P (tick s) u.head y else tick s)
  else tick s
def followM (n P K : Nat) (s : Sm) (y : Int) (l : List Ru) : Sm := l.foldl (fun s u => stepM n P K s y u) s
def takeM (n P : Nat) (s : Sm) (u : Ru) : Sm :=
  if u.kind = 1 then putM n P s u.head u.who
  else if u.kind = 4 ∧ u.b ≠ u.a then lookM (lookM s u.a u) u.b u
  else lookM s u.a u
/-- A rule of roles, principals and names that there are. -/
structure Ok (n P K : Nat) (u : Ru) : Prop where
  k : u.kind = 1 ∨ u.kind = 2 ∨ u.kind = 3 ∨ u.kind = 4
  h : 0 ≤ u.head ∧ u.head < n
  a : 0 ≤ u.a ∧ u.a < n
  b : 0 ≤ u.b ∧ u.b < n
  w : 0 ≤ u.who ∧ u.who < P
  v : 0 ≤ u.via ∧ u.via < K
theorem mem_put {n P : Nat} {L : List Pr} {r x : Int} (hm : mayB n P r x = true) (p : Pr) : p ∈ putL n P L r x ↔ p ∈ L ∨ p = (r, x) := by
  unfold putL
  rw [hm]
  cases hh : hasL L r x with
  | true =>
    simp
    rintro rfl
    exact hasL_iff.1 hh
  | false => simp
theorem put_pre (n P : Nat) (L : List Pr) (r x : Int) : L <+: putL n P L r x := by
  unfold putL
  split
  · exact List.prefix_append _ _
  · exact List.prefix_refl _
theorem put_nd {n P : Nat} {L : List Pr} {r x : Int} (h : L.Nodup) : (putL n P L r x).Nodup := by
  unfold putL
  split
  · rename_i hc
    rw [List.nodup_append]
    refine ⟨h, by simp, ?_⟩
    intro a ha b hb
    simp at hb
    subst hb
    rintro rfl
    have := hasL_iff.2 ha
    simp [this] at hc
  · exact h
theorem mem_list {P : Nat} {L : List Pr} {r : Int} {k : Nat} : k ∈ listL P L r ↔ k < P ∧ (r, (k : Int)) ∈ L := by
  unfold listL
  rw [List.mem_filter, List.mem_range, hasL_iff]
theorem getD_modify (l : List (List Ru)) (i j : Nat) (f : List Ru → List Ru) : (l.modify i f).getD j [] = if i = j ∧ j < l.length then f (l.getD j []) else l.getD j [] := by
  simp only [List.getD_eq_getElem?_getD, List.getElem?_modify]
  by_cases hj : j < l.length
  · rw [List.getElem?_eq_getElem hj]
    by_cases hi : i = j
    · subst hi; simp [hj]
    · simp [hi]
  · rw [List.getElem?_eq_none (by omega)]
    simp [hj]
theorem sum_modify (g : List Ru → Nat) : ∀ (l : List (List Ru)) (i : Nat) (f : List Ru → List Ru), i < l.length → ((l.modify i f).map g).sum + g (l.getD i []) = (l.map g).sum + g (f (l.getD i []))
  | [], i, f, h => by simp at h
  | x :: l, 0, f, h => by simp; omega
  | x :: l, i + 1, f, h => by
    have := sum_modify g l i f (by simpa using h)
    simp only [List.modify_succ_cons, List.map_cons, List.sum_cons, List.getD_cons_succ]
    omega
def wt (P : Nat) (u : Ru) : Nat := if u.kind = 3 then 1 + P else 1
def lw (u : Ru) : Nat := if u.kind = 3 then 1 else 0
def ws (P : Nat) (l : List Ru) : Nat := (l.map (wt P)).sum
def links (l : List Ru) : Nat := (l.map lw).sum
theorem ws_app (P : Nat) (l : List Ru) (u : Ru) : ws P (l ++ [u]) = ws P l + wt P u := by unfold ws; simp
theorem links_app (l : List Ru) (u : Ru) : links (l ++ [u]) = links l + lw u := by unfold links; simp
def Sound (K : Nat) (L : List Ru) (u : Ru) : Prop :=
  (u.kind = 2 → ∀ x, Der K L u.a x → Der K L u.head x) ∧ (u.kind = 3 → ∀ x y, Der K L u.a x → Der K L (x * K + u.via) y → Der K L u.head y) ∧ (u.kind = 4 → ∀ x, Der K L u.a x → Der K L u.b x → Der K L u.head x)
theorem sound_mem {K : Nat} {L : List Ru} {u : Ru} (h : u ∈ L) : Sound K L u :=
  ⟨fun hk x => .incl u x h hk, fun hk x y => .link u x y h hk, fun hk x => .both u x h hk⟩
/-- What a rule that looks at a role brings for one who was followed is in. -/
def Closed (K : Nat) (s : Sm) (hist : List Pr) (u : Ru) (x : Int) : Prop :=
  (u.kind = 2 → (u.head, x) ∈ s.all) ∧ (u.kind = 3 → ∃ v ∈ s.at (x * K + u.via), v.kind = 2 ∧ v.head = u.head ∧ v.a = x * K + u.via) ∧ (u.kind = 4 → (u.a, x) ∈ hist → (u.b, x) ∈ hist → (u.head, x) ∈ s.all)
structure Inv (n P K : Nat) (L T : List Ru) (hist : List Pr) (pend cp : List Ru) (y : Int) (s : Sm) : Prop where
  pre : hist <+: s.all
  nd : s.all.Nodup
  rng : ∀ p ∈ s.all, mayB n P p.1 p.2 = true
  snd : ∀ p ∈ s.all, Der K L p.1 p.2
  len : s.look.length = n
  lok : ∀ i : Nat, ∀ u ∈ s.look.getD i [], Ok n P K u ∧ u.kind ≠ 1 ∧ (u.a = i ∨ u.kind = 4 ∧ u.b = i) ∧ Sound K L u ∧ (u.kind = 4 → u ∈ s.at u.a ∧ u ∈ s.at u.b)
  stat : ∀ u ∈ T, (u.kind = 1 → (u.head, u.who) ∈ s.all) ∧ (u.kind ≠ 1 → u ∈ s.at u.a)
  pd : ∀ u ∈ pend, ∃ i : Nat, u ∈ s.look.getD i []
  cl : ∀ p ∈ hist, ∀ u ∈ s.at p.1, (u ∈ pend ∧ p.2 = y) ∨ Closed K s hist u p.2
  st : s.steps + ws P cp ≤ T.length + (hist.map fun p => 1 + ws P (s.at p.1)).sum
  lk : (s.look.map (ws P)).sum + links cp ≤ T.length * (2 + P) + (hist.map fun p => links (s.at p.1)).sum
  ll : (s.look.map links).sum ≤ T.length
  lo : T.length ≤ s.steps
theorem sum_le {α : Type} (f g : α → Nat) : ∀ (l : List α), (∀ x ∈ l, f x ≤ g x) → (l.map f).sum ≤ (l.map g).sum
  | [], _ => by simp
  | x :: l, h => by
    have := sum_le f g l (fun y hy => h y (by simp [hy]))
    have := h x (by simp)
    simp only [List.map_cons, List.sum_cons]
    omega
theorem Closed.mono {K : Nat} {s s' : Sm} {hist : List Pr} {u : Ru} {x : Int} (h : Closed K s hist u x) (ha : ∀ p ∈ s.all, p ∈ s'.all) (hl : ∀ i, ∀ v ∈ s.at i, v ∈ s'.at i) : Closed K s' hist u x := by
  obtain ⟨h1, h2, h3⟩ := h
  refine ⟨fun e => ha _ (h1 e), fun e => ?_, fun e a b => ha _ (h3 e a b)⟩
  obtain ⟨v, hv, r⟩ := h2 e
  exact ⟨v, hl _ v hv, r⟩
theorem pre_mem {α : Type} {l m : List α} (h : l <+: m) {x : α} (hx : x ∈ l) : x ∈ m := h.subset hx
/-- One more is in: what stands, stands. -/
theorem Inv.put {n P K : Nat} {L T : List Ru} {hist : List Pr} {pend cp : List Ru} {y : Int} {s : Sm} (h : Inv n P K L T hist pend cp y s) {r x : Int} (hm : mayB n P r x = true) (hd : Der K L r x) : Inv n P K L T hist pend cp y (putM n P s r x) := by
  have hp := put_pre n P s.all r x
  exact {
    pre := List.IsPrefix.trans h.pre hp
    nd := put_nd h.nd
    rng := fun p h2 => by
      rcases (mem_put hm p).1 h2 with h3 | rfl
      · exact h.rng p h3
      · exact hm
    snd := fun p h2 => by
      rcases (mem_put hm p).1 h2 with h3 | rfl
      · exact h.snd p h3
      · exact hd
    len := h.len
    lok := h.lok
    stat := fun u hu => ⟨fun e => pre_mem hp ((h.stat u hu).1 e), (h.stat u hu).2⟩
    pd := h.pd
    cl := fun p h2 u hu => (h.cl p h2 u hu).imp id fun c => c.mono (fun q hq => pre_mem hp hq) fun i v hv => hv
    st := h.st
    lk := h.lk
    ll := h.ll
    lo := h.lo }
theorem at_look {s : Sm} {n : Nat} (hl : s.look.length = n) {i : Int} (hi : 0 ≤ i ∧ i < n) (u : Ru) {j : Int} (hj : 0 ≤ j) : (lookM s i u).at j = if j = i then s.at i ++ [u] else s.at j := by
  unfold Sm.at lookM
  simp only [getD_modify]
  by_cases e : j = i
  · subst e
    rw [if_pos ⟨rfl, by omega⟩, if_pos rfl]
  · rw [if_neg (by omega), if_neg e]
theorem at_look_mem {s : Sm} {i : Int} {u v : Ru} {j : Nat} (h : v ∈ s.look.getD j []) : v ∈ (lookM s i u).look.getD j [] := by
  unfold lookM
  simp only [getD_modify]
  split
  · rw [List.mem_append]; exact .inl h
  · exact h
theorem mem_look {s : Sm} {i : Int} {u v : Ru} {j : Nat} (h : v ∈ (lookM s i u).look.getD j []) : v ∈ s.look.getD j [] ∨ v = u ∧ i.toNat = j := by
  unfold lookM at h
  simp only [getD_modify] at h
  split at h
  · rename_i hc
    simp at h
    rcases h with h | h
    · left; simpa using h
    · exact .inr ⟨h, hc.1⟩
  · exact .inl h
/-- A row of puts in one role. -/
theorem inc_all {n P : Nat} (h : Int) : ∀ (l : List Nat) (s : Sm), (∀ x ∈ l, mayB n P h x = true) → (incM n P s h l).look = s.look ∧ (incM n P s h l).steps = s.steps + l.length ∧ ∀ p, p ∈ (incM n P s h l).all ↔ p ∈ s.all ∨ ∃ x ∈ l, p = (h, (x : Int))
  | [], s, _ => by simp [incM]
  | x :: l, s, hm => by
    have ih := inc_all (n := n) (P := P) h l (putM n P (tick s) h x) (fun z hz => hm z (by simp [hz]))
    have e : incM n P s h (x :: l) = incM n P (putM n P (tick s) h x) h l := rfl
    rw [e]
    obtain ⟨i1, i2, i3⟩ := ih
    refine ⟨i1.trans rfl, ?_, fun p => ?_⟩
    · rw [i2]
      show s.steps + 1 + l.length = _
      simp only [List.length_cons]; omega
    · rw [i3]
      have := mem_put (L := s.all) (hm x (by simp)) p
      show p ∈ putL n P s.all h x ∨ _ ↔ _
      rw [this]
      constructor
      · rintro ((a | a) | ⟨z, hz, a⟩)
        · exact .inl a
        · exact .inr ⟨x, by simp, a⟩
        · exact .inr ⟨z, by simp [hz], a⟩
      · rintro (a | ⟨z, hz, a⟩)
        · exact .inl (.inl a)
        · simp at hz
          rcases hz with rfl | hz
          · exact .inl (.inr a)
          · exact .inr ⟨z, hz, a⟩
theorem of_range {P K : Nat} {x v : Int} (hx : 0 ≤ x ∧ x < P) (hv : 0 ≤ v ∧ v < K) : 0 ≤ x * K + v ∧ x * K + v < ((P * K : Nat) : Int) := by
  obtain ⟨a, rfl⟩ := Int.eq_ofNat_of_zero_le hx.1
  obtain ⟨b, rfl⟩ := Int.eq_ofNat_of_zero_le hv.1
  have ha : a < P := by omega
  have hb : b < K := by omega
  have : (a + 1) * K ≤ P * K := Nat.mul_le_mul_right _ ha
  rw [Nat.add_mul, Nat.one_mul] at this
  constructor
  · have := Int.natCast_nonneg (a * K + b)
    simpa using this
  · have h2 : a * K + b < P * K := by omega
    exact_mod_cast h2
/-- An inclusion of the worklist's own begins to look. -/
theorem Inv.include {n P K : Nat} {L T : List Ru} {hist : List Pr} {pend cp : List Ru} {y : Int} {s : Sm} (h : Inv n P K L T hist pend cp y s) {hd a : Int} (h1 : 0 ≤ hd ∧ hd < n) (h2 : 0 ≤ a ∧ a < n) (hz : 0 < P ∧ 0 < K) (hn : n = P * K)
    (hs : ∀ x, Der K L a x → Der K L hd x) (hB : s.steps + P + ws P cp ≤ T.length + (hist.map fun p => 1 + ws P (s.at p.1)).sum)
    (hC : (s.look.map (ws P)).sum + 1 + links cp ≤ T.length * (2 + P) + (hist.map fun p => links (s.at p.1)).sum) :
    Inv n P K L T hist pend cp y (includeM n P s hd a) ∧ (∀ p ∈ s.all, p ∈ (includeM n P s hd a).all) ∧ (∀ i, ∀ v ∈ s.at i, v ∈ (includeM n P s hd a).at i) ∧ inclU hd a ∈ (includeM n P s hd a).at a := by
  have hml : ∀ x ∈ listL P s.all a, mayB n P hd x = true ∧ Der K L hd x := fun x hx => by
    obtain ⟨hx1, hx2⟩ := mem_list.1 hx
    exact ⟨mayB_iff.2 ⟨h1.1, h1.2, by omega, by omega⟩, hs _ (h.snd _ hx2)⟩
  obtain ⟨i1, i2, i3⟩ := inc_all hd (listL P s.all a) (lookM s a (inclU hd a)) (fun x hx => (hml x hx).1)
  have hall : ∀ p ∈ s.all, p ∈ (includeM n P s hd a).all := fun p hp => (i3 p).2 (.inl hp)
  have hat : ∀ i : Int, (includeM n P s hd a).at i = (lookM s a (inclU hd a)).at i := fun i => by
    show (includeM n P s hd a).look.getD _ _ = _
    unfold includeM
    rw [i1]
    rfl
  have hlk : ∀ i, ∀ v ∈ s.at i, v ∈ (includeM n P s hd a).at i := fun i v hv => by
    rw [hat]
    exact at_look_mem hv
  have hin : inclU hd a ∈ (includeM n P s hd a).at a := by
    rw [hat, at_look h.len h2 _ h2.1, if_pos rfl]
    simp
  refine ⟨?_, hall, hlk, hin⟩
  have hwt : wt P (inclU hd a) = 1 := by unfold wt inclU; simp
  have hlw : lw (inclU hd a) = 0 := by unfold lw inclU; simp
  have hsm : ∀ g : List Ru → Nat, ((lookM s a (inclU hd a)).look.map g).sum + g (s.at a) = (s.look.map g).sum + g (s.at a ++ [inclU hd a]) := fun g => sum_modify g s.look a.toNat _ (by rw [h.len]; omega)
  have hll : (listL P s.all a).length ≤ P := listL_len _ _ _
  have mono1 : ∀ p ∈ hist, ws P (s.at p.1) ≤ ws P ((lookM s a (inclU hd a)).at p.1) := fun p hp => by
    have hr := mayB_iff.1 (h.rng p (pre_mem h.pre hp))
    rw [at_look h.len h2 _ hr.1]
    split
    · rename_i e; rw [e, ws_app]; omega
    · exact Nat.le_refl _
  have mono2 : ∀ p ∈ hist, links (s.at p.1) ≤ links ((lookM s a (inclU hd a)).at p.1) := fun p hp => by
    have hr := mayB_iff.1 (h.rng p (pre_mem h.pre hp))
    rw [at_look h.len h2 _ hr.1]
    split
    · rename_i e; rw [e, links_app]; omega
    · exact Nat.le_refl _
  have hpre : s.all <+: (includeM n P s hd a).all := by
    unfold includeM
    generalize listL P s.all a = l
    have : ∀ (l : List Nat) (s : Sm), s.all <+: (incM n P s hd l).all := by
      intro l
      induction l with
      | nil => intro s; exact List.prefix_refl _
      | cons x l ih => intro s; exact List.IsPrefix.trans (put_pre n P s.all hd x) (ih (putM n P (tick s) hd x))
    exact this l (lookM s a (inclU hd a))
  have hnd : (includeM n P s hd a).all.Nodup := by
    unfold includeM
    generalize listL P s.all a = l
    have : ∀ (l : List Nat) (s : Sm), s.all.Nodup → (incM n P s hd l).all.Nodup := by
      intro l
      induction l with
      | nil => intro s h; exact h
      | cons x l ih => intro s h; exact ih _ (put_nd (L := (tick s).all) h)
    exact this l (lookM s a (inclU hd a)) h.nd
  exact {
    pre := List.IsPrefix.trans h.pre hpre
    nd := hnd
    rng := fun p hp => by
      rcases (i3 p).1 hp with hp | ⟨x, hx, rfl⟩
      · exact h.rng p hp
      · exact (hml x hx).1
    snd := fun p hp => by
      rcases (i3 p).1 hp with hp | ⟨x, hx, rfl⟩
      · exact h.snd p hp
      · exact (hml x hx).2
    len := by
      show (includeM n P s hd a).look.length = n
      unfold includeM
      rw [i1]
      simp [lookM, h.len]
    lok := fun i u hu => by
      have hu2 : u ∈ (lookM s a (inclU hd a)).look.getD i [] := by rw [← i1]; exact hu
      rcases mem_look hu2 with hu3 | ⟨rfl, e⟩
      · obtain ⟨a1, a2, a3, a4, a5⟩ := h.lok i u hu3
        exact ⟨a1, a2, a3, a4, fun e => ⟨hlk _ _ (a5 e).1, hlk _ _ (a5 e).2⟩⟩
      · have h1a : (0 : Int) ≤ 0 ∧ (0 : Int) < n := by
          have : 0 < n := by rw [hn]; exact Nat.mul_pos hz.1 hz.2
          omega
        refine ⟨⟨.inr (.inl rfl), h1, h2, h1a, by show (0 : Int) ≤ 0 ∧ (0 : Int) < P; omega, by show (0 : Int) ≤ 0 ∧ (0 : Int) < K; omega⟩, by show (2 : Int) ≠ 1; omega, .inl (by show a = i; omega), ⟨fun _ => hs, fun e => ?_, fun e => ?_⟩, fun e => ?_⟩
        · exact absurd (show (2 : Int) = 3 from e) (by omega)
        · exact absurd (show (2 : Int) = 4 from e) (by omega)
        · exact absurd (show (2 : Int) = 4 from e) (by omega)
    stat := fun u hu => ⟨fun e => hall _ ((h.stat u hu).1 e), fun e => hlk _ _ ((h.stat u hu).2 e)⟩
    pd := fun u hu => by
      obtain ⟨i, hi⟩ := h.pd u hu
      have : u ∈ s.at (i : Int) := by unfold Sm.at; simpa using hi
      exact ⟨_, hlk i u this⟩
    cl := fun p hp u hu => by
      have hr := mayB_iff.1 (h.rng p (pre_mem h.pre hp))
      have hu2 := hu
      rw [hat, at_look h.len h2 _ hr.1] at hu2
      have old : u ∈ s.at p.1 → (u ∈ pend ∧ p.2 = y) ∨ Closed K (includeM n P s hd a) hist u p.2 := fun h3 => (h.cl p hp u h3).imp id fun c => c.mono hall hlk
      split at hu2
      · rename_i e
        rw [List.mem_append, List.mem_singleton] at hu2
        rcases hu2 with hu2 | rfl
        · exact old (by rw [e]; exact hu2)
        · right
          refine ⟨fun _ => ?_, fun e => absurd (show (2 : Int) = 3 from e) (by omega), fun e => absurd (show (2 : Int) = 4 from e) (by omega)⟩
          refine (i3 _).2 (.inr ⟨p.2.toNat, mem_list.2 ⟨by omega, ?_⟩, ?_⟩)
          · have := pre_mem h.pre hp
            rw [Int.toNat_of_nonneg hr.2.2.1, ← e]
            exact this
          · rw [Int.toNat_of_nonneg hr.2.2.1]
            rfl
      · exact old hu2
    st := by
      show (includeM n P s hd a).steps + _ ≤ _
      have e1 : (includeM n P s hd a).steps = s.steps + (listL P s.all a).length := by unfold includeM; rw [i2]; rfl
      rw [e1]
      have := sum_le (fun p : Pr => 1 + ws P (s.at p.1)) (fun p : Pr => 1 + ws P ((includeM n P s hd a).at p.1)) hist (fun p hp => by
        have := mono1 p hp
        rw [← hat] at this
        omega)
      omega
    lk := by
      show ((includeM n P s hd a).look.map (ws P)).sum + _ ≤ _
      have e1 : (includeM n P s hd a).look = (lookM s a (inclU hd a)).look := by unfold includeM; rw [i1]
      rw [e1]
      have e2 := hsm (ws P)
      rw [ws_app, hwt] at e2
      have := sum_le (fun p : Pr => links (s.at p.1)) (fun p : Pr => links ((includeM n P s hd a).at p.1)) hist (fun p hp => by
        have := mono2 p hp
        rw [← hat] at this
        exact this)
      omega
    ll := by
      show ((includeM n P s hd a).look.map links).sum ≤ _
      have e1 : (includeM n P s hd a).look = (lookM s a (inclU hd a)).look := by unfold includeM; rw [i1]
      rw [e1]
      have e2 := hsm links
      rw [links_app, hlw] at e2
      have := h.ll
      omega
    lo := by
      show T.length ≤ (includeM n P s hd a).steps
      have e1 : (includeM n P s hd a).steps = s.steps + (listL P s.all a).length := by unfold includeM; rw [i2]; rfl
      have := h.lo
      omega }
/-- What may be pending is less by one that is closed. -/
theorem Inv.less {n P K : Nat} {L T : List Ru} {hist : List Pr} {u : Ru} {pend cp : List Ru} {y : Int} {s : Sm} (h : Inv n P K L T hist (u :: pend) cp y s) (hc : Closed K s hist u y) : Inv n P K L T hist pend cp y s :=
  { h with
    pd := fun v hv => h.pd v (by simp [hv])
    cl := fun p hp v hv => by
      rcases h.cl p hp v hv with ⟨h1, h2⟩ | h1
      · simp at h1
        rcases h1 with rfl | h1
        · exact .inr (by rw [h2]; exact hc)
        · exact .inl ⟨h1, h2⟩
      · exact .inr h1 }
/-- One rule that looks at a role is asked for one who came into it. -/
theorem Inv.step {n P K : Nat} {L T : List Ru} {hist : List Pr} {u : Ru} {pend : List Ru} {c y : Int} {s : Sm} (hn : n = P * K) (h : Inv n P K L T hist (u :: pend) (u :: pend) y s) (hcur : (c, y) ∈ hist) (hu : u ∈ s.at c) : Inv n P K L T hist pend pend y (stepM n P K s y u) ∧ (∀ i, ∀ v ∈ s.at i, v ∈ (stepM n P K s y u).at i) := by
  obtain ⟨ok, k1, hab, hs, h4⟩ := h.lok _ u hu
  have hin : (c, y) ∈ s.all := pre_mem h.pre hcur
  have hr := mayB_iff.1 (h.rng _ hin)
  simp only at hr
  have hz : 0 < P ∧ 0 < K := by have := ok.v; have := ok.w; omega
  have hst := h.st
  have hlk := h.lk
  have ew : ws P (u :: pend) = wt P u + ws P pend := by unfold ws; simp
  have el : links (u :: pend) = lw u + links pend := by unfold links; simp
  rw [ew] at hst
  rw [el] at hlk
  have hc1 : (c.toNat : Int) = c := Int.toNat_of_nonneg hr.1
  rw [hc1] at hab
  have hwt : 1 ≤ wt P u := by unfold wt; split <;> omega
  have hT : Inv n P K L T hist (u :: pend) pend y (tick s) := { h with
    st := by show s.steps + 1 + _ ≤ _; exact Nat.le_trans (by omega) hst
    lk := by show (s.look.map (ws P)).sum + _ ≤ _; exact Nat.le_trans (by omega) hlk
    lo := by show T.length ≤ s.steps + 1; have := h.lo; omega }
  unfold stepM
  by_cases e2 : u.kind = 2
  · rw [if_pos e2]
    have ha : u.a = c := by rcases hab with h | ⟨h, _⟩ <;> omega
    have hm : mayB n P u.head y = true := mayB_iff.2 ⟨ok.h.1, ok.h.2, hr.2.2.1, hr.2.2.2⟩
    have := hT.put hm (hs.1 e2 y (by rw [ha]; exact h.snd _ hin))
    exact ⟨this.less ⟨fun _ => (mem_put hm _).2 (.inr rfl), fun e => by omega, fun e => by omega⟩, fun i v hv => hv⟩
  · rw [if_neg e2]
    by_cases e3 : u.kind = 3
    · rw [if_pos e3]
      have ha : u.a = c := by rcases hab with h | ⟨h, _⟩ <;> omega
      have hw3 : wt P u = 1 + P := by unfold wt; rw [if_pos e3]
      have hl3 : lw u = 1 := by unfold lw; rw [if_pos e3]
      have hof := of_range ⟨hr.2.2.1, hr.2.2.2⟩ ok.v
      rw [← hn] at hof
      obtain ⟨g1, g2, g3, g4⟩ := hT.include (hd := u.head) (a := y * K + u.via) ok.h hof hz hn
        (fun x hx => hs.2.1 e3 y x (by rw [ha]; exact h.snd _ hin) hx) (by show s.steps + 1 + P + _ ≤ _; exact Nat.le_trans (by omega) hst) (by show (s.look.map (ws P)).sum + 1 + _ ≤ _; exact Nat.le_trans (by omega) hlk)
      exact ⟨g1.less ⟨fun e => by omega, fun _ => ⟨_, g4, rfl, rfl, rfl⟩, fun e => by omega⟩, g3⟩
    · rw [if_neg e3]
      have e4 : u.kind = 4 := by have := ok.k; omega
      rw [if_pos e4]
      by_cases hb : (hasL s.all u.a y && hasL s.all u.b y) = true
      · rw [if_pos hb]
        rw [Bool.and_eq_true, hasL_iff, hasL_iff] at hb
        have hm : mayB n P u.head y = true := mayB_iff.2 ⟨ok.h.1, ok.h.2, hr.2.2.1, hr.2.2.2⟩
        have := hT.put hm (hs.2.2 e4 y (h.snd _ hb.1) (h.snd _ hb.2))
        exact ⟨this.less ⟨fun e => by omega, fun e => by omega, fun _ _ _ => (mem_put hm _).2 (.inr rfl)⟩, fun i v hv => hv⟩
      · rw [if_neg hb]
        refine ⟨hT.less ⟨fun e => by omega, fun e => by omega, fun _ h1 h2 => ?_⟩, fun i v hv => hv⟩
        exfalso
        apply hb
        rw [Bool.and_eq_true, hasL_iff, hasL_iff]
        exact ⟨pre_mem h.pre h1, pre_mem h.pre h2⟩
theorem Inv.follow {n P K : Nat} {L T : List Ru} {hist : List Pr} {c y : Int} (hn : n = P * K) (hcur : (c, y) ∈ hist) : ∀ (l : List Ru) (s : Sm), Inv n P K L T hist l l y s → (∀ u ∈ l, u ∈ s.at c) → Inv n P K L T hist [] [] y (followM n P K s y l)
  | [], s, h, _ => h
  | u :: l, s, h, hu => by
    obtain ⟨h1, h2⟩ := h.step hn hcur (hu u (by simp))
    exact Inv.follow hn hcur l _ h1 fun v hv => h2 _ _ (hu v (by simp [hv]))
theorem Inv.follow_part {n P K : Nat} {L T : List Ru} {hist : List Pr} {c y : Int} (hn : n = P * K) (hcur : (c, y) ∈ hist) : ∀ (l l' : List Ru) (s : Sm), Inv n P K L T hist (l ++ l') (l ++ l') y s → (∀ u ∈ l, u ∈ s.at c) → Inv n P K L T hist l' l' y (followM n P K s y l)
  | [], l', s, h, _ => h
  | u :: l, l', s, h, hu => by
    obtain ⟨h1, h2⟩ := h.step (pend := l ++ l') hn hcur (hu u (by simp))
    exact Inv.follow_part hn hcur l l' _ h1 fun v hv => h2 _ _ (hu v (by simp [hv]))
/-- The next one who came in is taken from the queue. -/
theorem Inv.pop {n P K : Nat} {L T : List Ru} {hist rest : List Pr} {cur : Pr} {y : Int} {s : Sm} (h : Inv n P K L T hist [] [] y s) (hq : s.all = hist ++ cur :: rest) : Inv n P K L T (hist ++ [cur]) (s.at cur.1) (s.at cur.1) cur.2 (tick s) :=
  { h with
    pre := by show hist ++ [cur] <+: s.all; rw [hq]; exact ⟨rest, by simp⟩
    pd := fun u hu => ⟨_, hu⟩
    cl := fun p hp u hu => by
      rw [List.mem_append, List.mem_singleton] at hp
      rcases hp with hp | rfl
      · rcases h.cl p hp u hu with ⟨h1, _⟩ | ⟨c1, c2, c3⟩
        · simp at h1
        · obtain ⟨ok, k1, hab, hs, h4⟩ := h.lok _ u hu
          by_cases e4 : u.kind = 4
          · by_cases hx : (u.a, p.2) = cur ∨ (u.b, p.2) = cur
            · left
              obtain ⟨i1, i2⟩ := h4 e4
              rcases hx with rfl | rfl
              · exact ⟨i1, rfl⟩
              · exact ⟨i2, rfl⟩
            · right
              refine ⟨c1, c2, fun e a b => ?_⟩
              rw [List.mem_append, List.mem_singleton] at a b
              rcases a with a | a
              · rcases b with b | b
                · exact c3 e a b
                · exact absurd (.inr b) hx
              · exact absurd (.inl a) hx
          · exact .inr ⟨c1, c2, fun e => absurd e e4⟩
      · exact .inl ⟨hu, rfl⟩
    st := by
      have := h.st
      have e0 : ws P [] = 0 := rfl
      rw [e0] at this
      show s.steps + 1 + _ ≤ T.length + ((hist ++ [cur]).map fun p => 1 + ws P (s.at p.1)).sum
      rw [List.map_append, List.sum_append]
      simp only [List.map_cons, List.map_nil, List.sum_cons, List.sum_nil]
      omega
    lk := by
      have := h.lk
      have e0 : links [] = 0 := rfl
      rw [e0] at this
      show (s.look.map (ws P)).sum + _ ≤ T.length * (2 + P) + ((hist ++ [cur]).map fun p => links (s.at p.1)).sum
      rw [List.map_append, List.sum_append]
      simp only [List.map_cons, List.map_nil, List.sum_cons, List.sum_nil]
      omega
    lo := by show T.length ≤ s.steps + 1; have := h.lo; omega }
/-- When nobody is left to be followed, all that follows is in, and nothing else. -/
theorem Inv.all {n P K : Nat} {L : List Ru} {hist : List Pr} {y : Int} {s : Sm} (h : Inv n P K L L hist [] [] y s) (hq : s.all = hist) (hok : ∀ u ∈ L, Ok n P K u) (r x : Int) : (r, x) ∈ s.all ↔ Der K L r x := by
  refine ⟨fun hm => h.snd _ hm, fun d => ?_⟩
  have cl : ∀ p ∈ s.all, ∀ u ∈ s.at p.1, Closed K s hist u p.2 := fun p hp u hu => by
    rcases h.cl p (hq ▸ hp) u hu with ⟨h1, _⟩ | h1
    · simp at h1
    · exact h1
  induction d with
  | mem u hu hk => exact (h.stat u hu).1 hk
  | incl u x hu hk _ ih => exact (cl _ ih u ((h.stat u hu).2 (by omega))).1 hk
  | link u x y hu hk _ _ i1 i2 =>
    obtain ⟨v, hv, k, e1, e2⟩ := (cl _ i1 u ((h.stat u hu).2 (by omega))).2.1 hk
    have := (cl _ i2 v hv).1 k
    rw [e1] at this
    exact this
  | both u x hu hk _ _ i1 i2 => exact (cl _ i1 u ((h.stat u hu).2 (by omega))).2.2 hk (hq ▸ i1) (hq ▸ i2)
def start (n : Nat) : Sm := ⟨[], List.replicate n [], 0⟩
theorem getD_rep (n i : Nat) : (List.replicate n ([] : List Ru)).getD i [] = [] := by
  rw [List.getD_eq_getElem?_getD, List.getElem?_replicate]
  split <;> rfl
theorem Inv.start (n P K : Nat) (L : List Ru) : Inv n P K L [] [] [] [] 0 (start n) where
  pre := List.prefix_refl _
  nd := List.nodup_nil
  rng := fun p hp => by cases hp
  snd := fun p hp => by cases hp
  len := by simp [SemA.start]
  lok := fun i u hu => by
    have : u ∈ (List.replicate n ([] : List Ru)).getD i [] := hu
    rw [getD_rep] at this
    cases this
  stat := fun u hu => by cases hu
  pd := fun u hu => by cases hu
  cl := fun p hp => by cases hp
  st := by simp [SemA.start, ws]
  lk := by
    have : ws P [] = 0 := rfl
    simp [SemA.start, links, this]
  ll := by
    have : links [] = 0 := rfl
    simp [SemA.start, this]
  lo := by simp [SemA.start]
/-- A rule is begun with. -/
theorem Inv.take {n P K : Nat} {L T : List Ru} {y : Int} {s : Sm} (h : Inv n P K L T [] [] [] y s) {u : Ru} (hu : u ∈ L) (ok : Ok n P K u) : Inv n P K L (T ++ [u]) [] [] [] y (takeM n P (tick s) u) := by
  have hst := h.st
  have hlk := h.lk
  have hll := h.ll
  have e0 : ws P [] = 0 := rfl
  have e1 : links [] = 0 := rfl
  simp only [List.map_nil, List.sum_nil, e0, e1] at hst hlk
  have hlen : (T ++ [u]).length = T.length + 1 := by simp
  have hmul : (T ++ [u]).length * (2 + P) = T.length * (2 + P) + (2 + P) := by rw [hlen, Nat.add_mul, Nat.one_mul]
  have hw : wt P u ≤ 1 + P := by unfold wt; split <;> omega
  have hlw : lw u ≤ 1 := by unfold lw; split <;> omega
  unfold takeM
  by_cases k1 : u.kind = 1
  · rw [if_pos k1]
    have hm : mayB n P u.head u.who = true := mayB_iff.2 ⟨ok.h.1, ok.h.2, ok.w.1, ok.w.2⟩
    have hp := put_pre n P s.all u.head u.who
    exact {
      pre := ⟨_, rfl⟩
      nd := put_nd h.nd
      rng := fun p h2 => by
        rcases (mem_put hm p).1 h2 with h3 | rfl
        · exact h.rng p h3
        · exact hm
      snd := fun p h2 => by
        rcases (mem_put hm p).1 h2 with h3 | rfl
        · exact h.snd p h3
        · exact .mem u hu k1
      len := h.len
      lok := h.lok
      stat := fun v hv => by
        rw [List.mem_append, List.mem_singleton] at hv
        rcases hv with hv | rfl
        · exact ⟨fun e => pre_mem hp ((h.stat v hv).1 e), (h.stat v hv).2⟩
        · exact ⟨fun _ => (mem_put hm _).2 (.inr rfl), fun e => absurd k1 e⟩
      pd := fun v hv => by cases hv
      cl := fun p hp => by cases hp
      st := by show s.steps + 1 + ws P [] ≤ _; rw [e0, hlen]; simp only [List.map_nil, List.sum_nil]; omega
      lk := by show (s.look.map (ws P)).sum + links [] ≤ _; rw [e1, hmul]; simp only [List.map_nil, List.sum_nil]; omega
      ll := by show (s.look.map links).sum ≤ _; rw [hlen]; omega
      lo := by show _ ≤ s.steps + 1; rw [hlen]; have := h.lo; omega }
  · rw [if_neg k1]
    have ha := ok.a
    have hb := ok.b
    have hs1 : ∀ g : List Ru → Nat, ((lookM (tick s) u.a u).look.map g).sum + g (s.at u.a) = (s.look.map g).sum + g (s.at u.a ++ [u]) := fun g => sum_modify g s.look u.a.toNat _ (by rw [h.len]; omega)
    have hl1 : (lookM (tick s) u.a u).look.length = n := by simp [lookM, tick, h.len]
    by_cases k4 : u.kind = 4 ∧ u.b ≠ u.a
    · rw [if_pos k4]
      have hs2 : ∀ g : List Ru → Nat, ((lookM (lookM (tick s) u.a u) u.b u).look.map g).sum + g ((lookM (tick s) u.a u).at u.b) = ((lookM (tick s) u.a u).look.map g).sum + g ((lookM (tick s) u.a u).at u.b ++ [u]) := fun g => sum_modify g (lookM (tick s) u.a u).look u.b.toNat _ (by rw [hl1]; omega)
      have hw4 : wt P u = 1 := by unfold wt; rw [if_neg (by omega)]
      have hl4 : lw u = 0 := by unfold lw; rw [if_neg (by omega)]
      have at1 : ∀ j : Int, ∀ v ∈ s.at j, v ∈ (lookM (lookM (tick s) u.a u) u.b u).at j := fun j v hv => at_look_mem (at_look_mem hv)
      have ia : u ∈ (lookM (lookM (tick s) u.a u) u.b u).at u.a := at_look_mem (by
        show u ∈ (lookM (tick s) u.a u).at u.a
        rw [at_look (s := tick s) h.len ha u ha.1, if_pos rfl]; simp)
      have ib : u ∈ (lookM (lookM (tick s) u.a u) u.b u).at u.b := by
        rw [at_look hl1 hb u hb.1, if_pos rfl]; simp
      exact {
        pre := ⟨_, rfl⟩
        nd := h.nd
        rng := h.rng
        snd := h.snd
        len := by simp [lookM, tick, h.len]
        lok := fun i v hv => by
          have : v ∈ s.look.getD i [] ∨ v = u ∧ (u.a.toNat = i ∨ u.b.toNat = i) := by
            rcases mem_look hv with hv | ⟨rfl, e⟩
            · rcases mem_look hv with hv | ⟨rfl, e⟩
              · exact .inl hv
              · exact .inr ⟨rfl, .inl e⟩
            · exact .inr ⟨rfl, .inr e⟩
          rcases this with hv | ⟨rfl, e⟩
          · obtain ⟨a1, a2, a3, a4, a5⟩ := h.lok i v hv
            exact ⟨a1, a2, a3, a4, fun e => ⟨at1 _ _ (a5 e).1, at1 _ _ (a5 e).2⟩⟩
          · refine ⟨ok, k1, ?_, sound_mem hu, fun _ => ⟨ia, ib⟩⟩
            rcases e with e | e
            · exact .inl (by omega)
            · exact .inr ⟨k4.1, by omega⟩
        stat := fun v hv => by
          rw [List.mem_append, List.mem_singleton] at hv
          rcases hv with hv | rfl
          · exact ⟨(h.stat v hv).1, fun e => at1 _ _ ((h.stat v hv).2 e)⟩
          · exact ⟨fun e => absurd e k1, fun _ => ia⟩
        pd := fun v hv => by cases hv
        cl := fun p hp => by cases hp
        st := by show s.steps + 1 + ws P [] ≤ _; rw [e0, hlen]; simp only [List.map_nil, List.sum_nil]; omega
        lk := by
          have a1 := hs1 (ws P)
          have a2 := hs2 (ws P)
          rw [ws_app, hw4] at a1 a2
          rw [e1, hmul]; simp only [List.map_nil, List.sum_nil]; omega
        ll := by
          have a1 := hs1 links
          have a2 := hs2 links
          rw [links_app, hl4] at a1 a2
          rw [hlen]; omega
        lo := by show _ ≤ s.steps + 1; rw [hlen]; have := h.lo; omega }
    · rw [if_neg k4]
      have at1 : ∀ j : Int, ∀ v ∈ s.at j, v ∈ (lookM (tick s) u.a u).at j := fun j v hv => at_look_mem hv
      have ia : u ∈ (lookM (tick s) u.a u).at u.a := by
        rw [at_look (s := tick s) h.len ha u ha.1, if_pos rfl]; simp
      exact {
        pre := ⟨_, rfl⟩
        nd := h.nd
        rng := h.rng
        snd := h.snd
        len := hl1
        lok := fun i v hv => by
          rcases mem_look hv with hv | ⟨rfl, e⟩
          · obtain ⟨a1, a2, a3, a4, a5⟩ := h.lok i v hv
            exact ⟨a1, a2, a3, a4, fun e => ⟨at1 _ _ (a5 e).1, at1 _ _ (a5 e).2⟩⟩
          · refine ⟨ok, k1, .inl (by omega), sound_mem hu, fun e4 => ⟨ia, ?_⟩⟩
            have : v.b = v.a := Classical.byContradiction fun hne => k4 ⟨e4, hne⟩
            rw [this]
            exact ia
        stat := fun v hv => by
          rw [List.mem_append, List.mem_singleton] at hv
          rcases hv with hv | rfl
          · exact ⟨(h.stat v hv).1, fun e => at1 _ _ ((h.stat v hv).2 e)⟩
          · exact ⟨fun e => absurd e k1, fun _ => ia⟩
        pd := fun v hv => by cases hv
        cl := fun p hp => by cases hp
        st := by show s.steps + 1 + ws P [] ≤ _; rw [e0, hlen]; simp only [List.map_nil, List.sum_nil]; omega
        lk := by
          have a1 := hs1 (ws P)
          rw [ws_app] at a1
          rw [e1, hmul]; simp only [List.map_nil, List.sum_nil]; omega
        ll := by
          have a1 := hs1 links
          rw [links_app] at a1
          rw [hlen]; omega
        lo := by show _ ≤ s.steps + 1; rw [hlen]; have := h.lo; omega }
def takesM (n P : Nat) (s : Sm) (l : List Ru) : Sm := l.foldl (fun s u => takeM n P (tick s) u) s
theorem Inv.takes {n P K : Nat} {L : List Ru} {y : Int} : ∀ (l T : List Ru) (s : Sm), Inv n P K L T [] [] [] y s → (∀ u ∈ l, u ∈ L ∧ Ok n P K u) → Inv n P K L (T ++ l) [] [] [] y (takesM n P s l)
  | [], T, s, h, _ => by rw [List.append_nil]; exact h
  | u :: l, T, s, h, hl => by
    have := Inv.takes l (T ++ [u]) _ (h.take (hl u (by simp)).1 (hl u (by simp)).2) fun v hv => hl v (by simp [hv])
    rw [List.append_assoc] at this
    exact this
theorem sum_sub {α : Type} [DecidableEq α] (f : α → Nat) : ∀ (l m : List α), l.Nodup → (∀ x ∈ l, x ∈ m) → (l.map f).sum ≤ (m.map f).sum
  | [], m, _, _ => by simp
  | x :: l, m, hn, hs => by
    have hx := hs x (by simp)
    rw [List.nodup_cons] at hn
    have := sum_sub f l (m.erase x) hn.2 fun y hy => by
      have hne : y ≠ x := fun e => hn.1 (e ▸ hy)
      exact (List.mem_erase_of_ne hne).2 (hs y (by simp [hy]))
    have hp := ((List.perm_cons_erase hx).map f).sum_nat
    rw [hp, List.map_cons, List.map_cons, List.sum_cons, List.sum_cons]
    omega
def grid (n P : Nat) : List Pr := (List.range n).flatMap fun r : Nat => (List.range P).map fun x : Nat => ((r : Int), (x : Int))
theorem mem_grid {n P : Nat} {p : Pr} (h : mayB n P p.1 p.2 = true) : p ∈ grid n P := by
  obtain ⟨a, b, c, d⟩ := mayB_iff.1 h
  unfold grid
  rw [List.mem_flatMap]
  refine ⟨p.1.toNat, List.mem_range.2 (by omega), List.mem_map.2 ⟨p.2.toNat, List.mem_range.2 (by omega), ?_⟩⟩
  obtain ⟨x, y⟩ := p
  simp only at a c
  rw [Int.toNat_of_nonneg a, Int.toNat_of_nonneg c]
theorem grid_sum (g : Nat → Nat) (P : Nat) : ∀ n, ((grid n P).map fun p => g p.1.toNat).sum = P * ((List.range n).map g).sum
  | 0 => by simp [grid]
  | n + 1 => by
    have ih := grid_sum g P n
    have e : grid (n + 1) P = grid n P ++ (List.range P).map fun x : Nat => ((n : Int), (x : Int)) := by unfold grid; rw [List.range_succ, List.flatMap_append]; simp
    rw [e, List.map_append, List.sum_append, ih, List.range_succ, List.map_append, List.sum_append, Nat.mul_add, List.map_map]
    congr 1
    have : ((fun p : Pr => g p.1.toNat) ∘ fun x : Nat => ((n : Int), (x : Int))) = fun _ => g n := by funext x; simp
    rw [this]
    have h2 : ∀ P, ((List.range P).map fun _ => g n).sum = P * g n := fun P => by
      induction P with
      | zero => simp
      | succ k ih => rw [List.range_succ, List.map_append, List.sum_append, ih, Nat.add_mul]; simp
    rw [h2]
    simp
theorem range_look (g : List Ru → Nat) : ∀ (l : List (List Ru)), ((List.range l.length).map fun i => g (l.getD i [])).sum = (l.map g).sum
  | [] => by simp
  | x :: l => by
    have := range_look g l
    rw [List.length_cons, List.range_succ_eq_map, List.map_cons, List.sum_cons, List.map_map]
    simp only [List.getD_cons_zero, List.map_cons, List.sum_cons]
    have e : ((fun i => g ((x :: l).getD i [])) ∘ Nat.succ) = fun i => g (l.getD i []) := by funext i; simp
    rw [e, this]
theorem hist_sum {n P K : Nat} {L T : List Ru} {hist : List Pr} {pend cp : List Ru} {y : Int} {s : Sm} (h : Inv n P K L T hist pend cp y s) (g : List Ru → Nat) : (hist.map fun p => g (s.at p.1)).sum ≤ P * (s.look.map g).sum := by
  have hnd : hist.Nodup := h.pre.sublist.nodup h.nd
  have h1 := sum_sub (fun p : Pr => g (s.at p.1)) hist (grid n P) hnd fun p hp => mem_grid (h.rng p (pre_mem h.pre hp))
  have h2 := grid_sum (fun i => g (s.look.getD i [])) P n
  have h3 := range_look g s.look
  rw [h.len] at h3
  rw [h3] at h2
  exact Nat.le_trans h1 (Nat.le_of_eq h2)
theorem grid_len (n P : Nat) : (grid n P).length = P * n := by
  have := grid_sum (fun _ => 1) P n
  have e1 : ∀ {α : Type} (l : List α), (l.map fun _ => 1).sum = l.length := fun l => by
    induction l with
    | nil => rfl
    | cons x l ih => simp only [List.map_cons, List.sum_cons, List.length_cons, ih]; omega
  rw [e1, e1, List.length_range] at this
  exact this
theorem all_len {n P K : Nat} {L T : List Ru} {hist : List Pr} {pend cp : List Ru} {y : Int} {s : Sm} (h : Inv n P K L T hist pend cp y s) : s.all.length ≤ P * n := by
  have h1 := sum_sub (fun _ : Pr => 1) s.all (grid n P) h.nd fun p hp => mem_grid (h.rng p hp)
  have e1 : ∀ {α : Type} (l : List α), (l.map fun _ => 1).sum = l.length := fun l => by
    induction l with
    | nil => rfl
    | cons x l ih => simp only [List.map_cons, List.sum_cons, List.length_cons, ih]; omega
  rw [e1, e1, grid_len] at h1
  exact h1
/-- How often the loops went round, at most. -/
theorem Inv.bound {n P K : Nat} {L T : List Ru} {hist : List Pr} {pend cp : List Ru} {y : Int} {s : Sm} (hn : n = P * K) (h : Inv n P K L T hist pend cp y s) : s.steps ≤ T.length + P * (P * K + T.length * (2 + 2 * P)) := by
  have h1 := h.st
  have h2 := h.lk
  have h3 := h.ll
  have s1 : (hist.map fun p => 1 + ws P (s.at p.1)).sum ≤ P * (s.look.map fun l => 1 + ws P l).sum := hist_sum h (fun l => 1 + ws P l)
  have s2 := hist_sum h links
  have s3 : ∀ l : List (List Ru), (l.map fun l => 1 + ws P l).sum = l.length + (l.map (ws P)).sum := fun l => by
    induction l with
    | nil => rfl
    | cons x l ih => simp only [List.map_cons, List.sum_cons, List.length_cons, ih]; omega
  rw [s3, h.len] at s1
  have m1 : P * (s.look.map links).sum ≤ P * T.length := Nat.mul_le_mul_left _ h3
  have m2 : (s.look.map (ws P)).sum ≤ T.length * (2 + P) + P * T.length := by omega
  have m3 : T.length * (2 + 2 * P) = T.length * (2 + P) + P * T.length := by
    rw [Nat.mul_comm P T.length, ← Nat.mul_add]
    congr 1
    omega
  have m4 : P * (n + (s.look.map (ws P)).sum) ≤ P * (P * K + T.length * (2 + 2 * P)) := Nat.mul_le_mul_left _ (by rw [m3, hn]; omega)
  omega
theorem len_ws (P : Nat) (l : List Ru) : l.length ≤ ws P l := by
  induction l with
  | nil => simp [ws]
  | cons u l ih =>
    have : ws P (u :: l) = wt P u + ws P l := by unfold ws; simp
    rw [this, List.length_cons]
    have : 1 ≤ wt P u := by unfold wt; split <;> omega
    omega
theorem getD_sum (g : List Ru → Nat) (h0 : g [] = 0) : ∀ (l : List (List Ru)) (i : Nat), g (l.getD i []) ≤ (l.map g).sum
  | [], i => by simp [h0]
  | x :: l, 0 => by simp
  | x :: l, i + 1 => by
    have := getD_sum g h0 l i
    simp only [List.getD_cons_succ, List.map_cons, List.sum_cons]
    omega
theorem Inv.look_len {n P K : Nat} {L T : List Ru} {hist : List Pr} {pend cp : List Ru} {y : Int} {s : Sm} (h : Inv n P K L T hist pend cp y s) (i : Nat) : (s.look.getD i []).length ≤ T.length * (2 + 2 * P) := by
  have h2 := h.lk
  have h3 := h.ll
  have s2 := hist_sum h links
  have m1 : P * (s.look.map links).sum ≤ P * T.length := Nat.mul_le_mul_left _ h3
  have m3 : T.length * (2 + 2 * P) = T.length * (2 + P) + P * T.length := by
    rw [Nat.mul_comm P T.length, ← Nat.mul_add]
    congr 1
    omega
  have a1 := len_ws P (s.look.getD i [])
  have a2 := getD_sum (ws P) rfl s.look i
  omega
end Go.Proofs.YtcmdiomjhideiaaGreatDoor.SemA
/- The document's family of pairs: New, Has, Inside, Meets, by contract. -/
namespace Go.Proofs.YtcmdiomjhideiaaGreatDoor.SetQ
set_option linter.unusedVariables false
set_option linter.unusedSimpArgs false
open Go.RowKit Go.Lib Go.Proofs Go.Proofs.YtcmdiomjhideiaaGreatDoor.SetPop Go.Proofs.YtcmdiomjhideiaaGreatDoor.SetA Go.Proofs.YtcmdiomjhideiaaGreatDoor.SetB Go.Proofs.YtcmdiomjhideiaaGreatDoor.SetF Go.Proofs.YtcmdiomjhideiaaGreatDoor.SetN
set_option linter.unusedVariables false
set_option linter.unusedSimpArgs false
/-- Pairs as cells. -/
def encP : List (Int × Int) → List Value
  | [] => []
  | p :: l => .int .i64 p.1 :: .int .i64 p.2 :: encP l
theorem encP_len : ∀ l, (encP l).length = l.length * 2
  | [] => rfl
  | p :: l => by simp [encP, encP_len l]; omega
theorem encP_app : ∀ l k, encP (l ++ k) = encP l ++ encP k
  | [], _ => rfl
  | p :: l, k => by simp [encP, encP_app l k]
theorem encP_at : ∀ (l : List (Int × Int)) (j : Nat) (h : j < l.length), (encP l)[j * 2]? = some (.int .i64 l[j].1) ∧ (encP l)[j * 2 + 1]? = some (.int .i64 l[j].2)
  | [], _, h => absurd h (Nat.not_lt_zero _)
  | p :: l, 0, _ => ⟨rfl, rfl⟩
  | p :: l, j + 1, h => by
    have := encP_at l j (by simpa using h)
    have e : (j + 1) * 2 = j * 2 + 1 + 1 := by omega
    rw [e]
    simpa [encP] using this
end Go.Proofs.YtcmdiomjhideiaaGreatDoor.SetQ
/- The list of a set, by contract. -/
namespace Go.Proofs.YtcmdiomjhideiaaGreatDoor.SetJ
set_option linter.unusedVariables false
set_option linter.unusedSimpArgs false
open Go.RowKit Go.Lib Go.Proofs Go.Proofs.YtcmdiomjhideiaaGreatDoor.SetPop Go.Proofs.YtcmdiomjhideiaaGreatDoor.SetA Go.Proofs.YtcmdiomjhideiaaGreatDoor.SetB Go.Proofs.YtcmdiomjhideiaaGreatDoor.SetC Go.Proofs.YtcmdiomjhideiaaGreatDoor.SetD Go.Proofs.YtcmdiomjhideiaaGreatDoor.SetM
set_option linter.unusedVariables false
set_option linter.unusedSimpArgs false
/-- Numbers as cells. -/
def encK (l : List Nat) : List Value := l.map fun n : Nat => Value.int .i64 n
theorem encK_snoc (l : List Nat) (n : Nat) : encK (l ++ [n]) = encK l ++ [.int .i64 n] := by unfold encK; simp
/-- The library's table stands as it is laid. -/
def Tab (w : World) : Prop := ∀ j, j < 64 → w.cell? ⟨0, j, none⟩ = some (.int .u8 (deBruijn64tab.getD j 0 : Nat))
theorem Tab.below {w w' : World} (h : Tab w) (hb : Below w.heap.size w w') : Tab w' := fun j hj =>
  (hb.cell (World.block_lt_of_cell? _ _ (h j hj))).trans (h j hj)
set_option maxRecDepth 100000 in
theorem tz_core (x k idx : Nat) (w : World) (hx0 : ((x : Int) == 0) = false)
    (key : IntKind.u64.wrap (bits BinOp.and IntKind.u64 (x : Int) (IntKind.u64.wrap (-(x : Int))) * 285870213051353865) / 288230376151711744 = (idx : Int))
    (hi : idx < 64) (hk : k < 64) (hcell : w.cell? ⟨0, idx, none⟩ = some (.int .u8 k)) :
    Calls Tryz.prog 131 #[.int .u64 x] w fun e w' => e = .returned (.int .i64 k) ∧ w = w' := by
  go_enter Tryz.func131, Tryz.ntmps131
  go_wp2_with (simp only [key])
  go_ret
  exact ⟨rfl, rfl⟩
theorem tz (x : Nat) (h0 : x ≠ 0) (h : x < 18446744073709551616) (w : World) (hT : Tab w) : Calls Tryz.prog 131 #[.int .u64 x] w fun e w' => e = .returned (.int .i64 (ctz 64 x)) ∧ w = w' := by
  obtain ⟨hlow, hk⟩ := lowest_bit 64 x h0 h
  obtain ⟨hi, htab⟩ := deBruijn64_at _ hk
  have hcell := hT _ hi
  rw [htab] at hcell
  exact tz_core x _ _ w (by simp; omega) (tz64_key x _ h h0 hlow) hi hk hcell
theorem infoInt : (Tryz.prog.info? 3).map (fun i => (i.zero, i.size, i.bytes)) = some (some (.int .i64 0), 1, 8) := by kernel_rfl
theorem new_cell1 (w : World) (a : Value) (t : TypeId) : ∀ j u, [a][j]? = some u → (w.alloc (.cells #[a] t)).cell? ((⟨w.heap.size, 0, none⟩ : Addr).add j) = some u := by
  intro j u hu
  have h : (w.alloc (.cells #[a] t)).cell? ⟨w.heap.size, j, none⟩ = #[a][j]? := Lib.cell_of_heap (heap_alloc_new w _) j
  have e : ((⟨w.heap.size, 0, none⟩ : Addr).add j) = ⟨w.heap.size, j, none⟩ := by
    unfold Addr.add
    split
    · rename_i h0; rw [h0]
    · simp
  rw [e, h, ← hu]
  simp
theorem below_own {a w w1 : World} {e : TypeId} {size n : Nat} {v : Value} {xs : List Value} {o : Obj} (hb : Below a.heap.size a w) (hown : w.ownsRow a.heap.size e size v n xs) (hg : (w.alloc o).grownBy w1 v.ownBlock) : Below a.heap.size a w1 :=
  (hb.alloc hb.size o).grown hg (by have := hb.size; simp; omega) (fun k hk => (hown.lt k hk).1)
theorem and_key (x : Nat) (h0 : x ≠ 0) (h : x < 18446744073709551616) : bits BinOp.and IntKind.u64 (x : Int) ((x : Int) - 1) = ((x &&& (x - 1) : Nat) : Int) := by
  have e1 : ((x : Int) - 1) = ((x - 1 : Nat) : Int) := by omega
  rw [e1]
  exact bits_and_u64_nat x (x - 1) h (by omega)
def ListPost (L : List Nat) (w : World) (e : Ending) (w' : World) : Prop := ∃ v, e = .returned v ∧ w'.ownsRow w.heap.size 3 1 v L.length (encK L) ∧ Below w.heap.size w w'
theorem nums_le {T L R : List Nat} {k : Nat} (h : L ++ R = numsOf T k) : L.length + R.length ≤ k * 64 := by
  have e : (numsOf T k).length ≤ k * 64 := by
    rw [numsOf_eq]
    refine Nat.le_trans (List.length_filter_le _ _) ?_
    simp
  rw [← h, List.length_append] at e
  exact e
set_option maxHeartbeats 1000000 in
set_option maxRecDepth 100000 in
theorem list_at (v : Value) (T : List Nat) (r : Int) (w : World) (hl : T.length = 16) (hs : ∀ x ∈ T, x < 18446744073709551616) (hT : Tab w) (ha : Calls Tryz.prog 130 #[v, .int .i64 r] w fun e w' => e = .returned (.agg (encM T)) ∧ Below w.heap.size w w') : Calls Tryz.prog 79 #[v, .int .i64 r] w (ListPost (numsOf T 16) w) := by
  have HA := Lib.hid ha
  clear ha
  have HI := Lib.hid (fun k hk w => idx T k hl hk w)
  have HS := Lib.hid (fun k (hk : k < 16) => (show T.getD k 0 < 18446744073709551616 from by
    rw [List.getD_eq_getElem?_getD, List.getElem?_eq_getElem (by omega)]
    exact hs _ (List.getElem_mem _)))
  have HN := Lib.hid (numsOf_succ T)
  have HT := Lib.hid (fun (wr : World) (hb : Below w.heap.size w wr) => hT.below hb)
  have HLE := Lib.hid (fun k (L R : List Nat) (h : L ++ R = numsOf T k) => nums_le h)
  have H0 : Hid (numsOf T 0 = []) := Lib.hid rfl
  have HTZ := Lib.hid tz
  have HLW := Lib.hid low
  clear hs hl hT
  obtain ⟨i0, hi, hz0, hz1, hz2⟩ := info_parts infoInt
  go_enter Tryz.func79, Tryz.ntmps79
  go_wp2_with fail
  refine HA.out.mono ?_
  rintro e w1 ⟨rfl, hb⟩
  have HB := Lib.hid hb
  clear hb
  go_wp2_with fail
  generalize encM T = E at *
  generalize hF : numsOf T = F at *
  go_loopw [5, 11] (fun l i wr => ∃ (k : Nat) (L : List Nat), k ≤ 16 ∧ i = .int .i64 k ∧ Hid (L = F k) ∧ wr.ownsRow w.heap.size 3 1 l L.length (encK L) ∧ Below w.heap.size w wr) (fun _ i _ => 16 - (intOf i).toNat)
  case atStart => exact ⟨0, [], by omega, rfl, Lib.hid H0.out.symm, World.ownsRow_nil _ _ _ _, HB.out⟩
  case round =>
    obtain ⟨k, L, hk, rfl, hLF, hown, hbel⟩ := hrel
    by_cases hlt : k < 16
    · have hi1 := HI.out k hlt
      have d1 : decide ((k : Int) < 16) = true := by simp; omega
      have hx := HS.out k hlt
      have hN := HN.out k
      generalize T.getD k 0 = x0 at *
      have HX := Lib.hid (And.intro hLF.out hN)
      have HO := Lib.hid hown
      have HB1 := Lib.hid hbel
      clear hLF hN hown hbel
      go_wp2_with fail
      go_loopw [5, 7] (fun l y wr => ∃ (L : List Nat) (x : Nat), y = .int .u64 x ∧ x < 18446744073709551616 ∧ Hid (L ++ (bitsOf x).map (k * 64 + ·) = F (k + 1)) ∧ wr.ownsRow w.heap.size 3 1 l L.length (encK L) ∧ Below w.heap.size w wr) (fun _ y _ => (intOf y).toNat)
      case atStart => exact ⟨L, x0, rfl, hx, Lib.hid (by rw [HX.out.2, HX.out.1]), HO.out, HB1.out⟩
      case round =>
        clear HO HB1 HX
        obtain ⟨L1, x, rfl, hx1, hLF, hown, hbel⟩ := hrel
        by_cases hx0 : x = 0
        · subst hx0
          have hF1 : Hid (L1 = F (k + 1)) := Lib.hid (by rw [← hLF.out, bitsOf_zero]; simp)
          clear hLF
          have HO := Lib.hid hown
          have HB1 := Lib.hid hbel
          clear hown hbel
          go_wp2_with fail
          go_roundw
          case rel => exact ⟨k + 1, L1, by omega, by go_num, hF1, HO.out, HB1.out⟩
          case measure => simp [intOf]; omega
        · have HZ := Lib.hid (HTZ.out x hx0 hx1 _ (HT.out _ hbel))
          obtain ⟨hj, _, _, _⟩ := HLW.out x hx0 hx1
          have hkey := and_key x hx0 hx1
          have hst := bitsOf_step x hx0 hx1
          have hlt2 := and_less x hx0
          have hle : Hid (L1.length + (bitsOf x).length ≤ (k + 1) * 64) := Lib.hid (by have := HLE.out (k + 1) L1 _ hLF.out; simpa using this)
          have hln : L1.length ≤ 1024 := by have := hle.out; omega
          have hn0 : ((x : Int) != 0) = true := by simp; omega
          rw [hst] at hLF
          have HLF := Lib.hid hLF.out
          have HLT := Lib.hid (And.intro hlt2 (and_small x hx1))
          clear hLF hst hle hlt2
          generalize ctz 64 x = j at *
          generalize hy : (x &&& (x - 1)) = y at *
          clear hy
          go_wp2_with (first | ((with_reducible refine HZ.out.mono ?_); rintro e w' ⟨rfl, rfl⟩) | (at_builtin; refine wpList_append_own _ rfl _ _ 39 rfl w.heap.size 3 i0 (.int .i64 0) 1 8 Tryz.underlying39 hi hz0 hz1 hz2 rfl (by decide) _ _ _ rfl (hown.alloc _) ⟨wr.heap.size, 0, none⟩ 1 1 [.int .i64 ((k : Int) * 64 + (j : Int))] rfl rfl ?c1 ?c2 ?c3 ?c4 ?c5 ?_) | (simp only [hkey]))
          case c1 => exact new_cell1 _ _ _
          case c2 => intro u hu; simp at hu; subst hu; rfl
          case c3 => unfold maxLen; omega
          case c4 => omega
          case c5 => have := hbel.size; simp; omega
          intro v' w2 hown' hgrow _
          have hown2 : w2.ownsRow w.heap.size 3 1 v' (L1 ++ [k * 64 + j]).length (encK (L1 ++ [k * 64 + j])) := by
            rw [encK_snoc, List.length_append]
            have e1 : (((k * 64 + j : Nat)) : Int) = (k : Int) * 64 + j := by simp
            rw [e1]
            simpa using hown'
          have hbel2 := below_own hbel hown hgrow
          clear hown' hown hbel hgrow HZ
          go_wp2_with fail
          try rw [hkey]
          go_roundw
          case rel => exact ⟨L1 ++ [k * 64 + j], y, rfl, HLT.out.2, Lib.hid (by rw [← HLF.out]; simp), hown2, hbel2⟩
          case measure => have := HLT.out.1; simp [intOf]; omega
    · have hk16 : k = 16 := by omega
      subst hk16
      have hL : L = F 16 := hLF.out
      subst hL
      have HO := Lib.hid hown
      have HB1 := Lib.hid hbel
      clear hown hbel hLF
      go_wp2_with fail
      go_ret
      exact ⟨_, rfl, HO.out, HB1.out⟩
end Go.Proofs.YtcmdiomjhideiaaGreatDoor.SetJ
/- The document's family of pairs: List, Add and the comparison of two lists, by contract. -/
namespace Go.Proofs.YtcmdiomjhideiaaGreatDoor.SetR
set_option linter.unusedVariables false
set_option linter.unusedSimpArgs false
open Go.RowKit Go.Lib Go.Proofs Go.Proofs.YtcmdiomjhideiaaGreatDoor.SetPop Go.Proofs.YtcmdiomjhideiaaGreatDoor.SetA Go.Proofs.YtcmdiomjhideiaaGreatDoor.SetB Go.Proofs.YtcmdiomjhideiaaGreatDoor.SetF Go.Proofs.YtcmdiomjhideiaaGreatDoor.SetJ Go.Proofs.YtcmdiomjhideiaaGreatDoor.SetN Go.Proofs.YtcmdiomjhideiaaGreatDoor.SetQ
set_option linter.unusedVariables false
set_option linter.unusedSimpArgs false
theorem own_below {w w' : World} {B n : Nat} {e : TypeId} {k : Nat} {v : Value} {xs : List Value} (h : w.ownsRow B e k v n xs) (hb : Below w.heap.size w w') : w'.ownsRow B e k v n xs :=
  h.kept (World.grownBy.mk hb.os hb.tape hb.output hb.size (fun k hk _ => hb.block k hk) : w.grownBy w' none) (by cases hv : v.ownBlock <;> simp)
/-- A slice value that reads as numbers, wherever it lies. -/
def NG (w : World) (A : Option Addr) (L : List Nat) : Prop :=
  0 < L.length → ∃ g o, A = some ⟨g, o, none⟩ ∧ g < w.heap.size ∧ ∀ j, (h : j < L.length) → w.cell? ⟨g, o + j, none⟩ = some (.int .i64 L[j])
theorem NG.below {w w' : World} {A : Option Addr} {L : List Nat} (h : NG w A L) (hb : Below w.heap.size w w') : NG w' A L := fun hp => by
  obtain ⟨g, o, hA, hg, hc⟩ := h hp
  exact ⟨g, o, hA, Nat.lt_of_lt_of_le hg hb.size, fun j hj => (hb.cell (p := ⟨g, o + j, none⟩) hg).trans (hc j hj)⟩
theorem ng_own {w : World} {B : Nat} {v : Value} {L : List Nat} {t : TypeId} (h : w.ownsRow B t 1 v L.length (encK L)) : ∃ A ca, v = .slice A L.length ca ∧ NG w A L := by
  have h0 := h
  rcases h.2 with ⟨rfl, hn⟩ | ⟨g, cap, cur, rfl, hb, hg, _⟩
  · exact ⟨none, 0, by rw [hn], fun hp => by omega⟩
  · refine ⟨_, cap, rfl, fun hp => ⟨g, 0, rfl, (Array.getElem?_eq_some_iff.1 hg).1, fun j hj => ?_⟩⟩
    have k := h0.cells (g := g) rfl j (.int .i64 L[j]) (by unfold encK; simp [List.getElem?_eq_getElem hj])
    have e : ((⟨g, 0, none⟩ : Addr).add j) = ⟨g, j, none⟩ := by unfold Addr.add; split <;> simp_all
    rw [e] at k
    rw [Nat.zero_add]
    exact k
/-- The block of a row that was appended to: the old one, or one that is new. -/
def Moves (w : World) (b b' : Option Nat) : Prop := b' = b ∨ ∃ g, b' = some g ∧ w.heap.size ≤ g
section
variable {P : Program} (w : World)
theorem wpList_append_at {ops : Array Oper} {rest : List Oper} {o : Oper} {a : Act} {Q : Exit → Act → World → Prop} (hgd : o.guard = none) (s x : Operand) (t : TypeId)
    (ho : o.op = .call { callee := .builtin .append, args := #[s, x], argTypes := #[t, t] })
    (base : Nat) (e : TypeId) (i : TypeInfo) (z : Value) (size bytes : Nat) (ht : P.underlying t = some (.slice e)) (hi : P.info? e = some i) (hz : i.zero = some z)
    (hsize : i.size = size) (hby : i.bytes = bytes) (hzs : z.cells.size = size) (hsz : 0 < size) (v : Value) (n : Nat) (xs : List Value) (hs : a.eval s = v) (hown : w.ownsRow base e size v n xs)
    (ad : Addr) (m c : Nat) (news : List Value) (hx : a.eval x = .slice (some ad) m c) (hlen : news.length = m * size) (hA : ∀ ad', some ad = some ad' → ∀ j u, news[j]? = some u → w.cell? (ad'.add j) = some u) (h1 : ∀ u ∈ news, u.oneCell' = true)
    (h63 : n + m ≤ maxLen) (hbytes : (n + m) * bytes ≤ 140737488355328) (hbase : base ≤ w.heap.size)
    (h : ∀ v' w', w'.ownsRow base e size v' (n + m) (xs ++ news) → w.grownBy w' v.ownBlock → Moves w v.ownBlock v'.ownBlock → wpList P ops Q rest (a.put o.dst v') w') : wpList P ops Q (o :: rest) a w := by
  obtain ⟨v', w', hrun, h2, h3, _, h5⟩ := run_append_own_at (P := P) w base t o.type e i z size bytes ht hi hz hsize hby hzs hsz v n xs hown ad m c news hlen (hA ad rfl) h1 h63 hbytes hbase
  refine Lib.wpList_append_run w hgd s x t t ho v _ hs hx v' w' hrun (h v' w' h2 h3 ?_)
  rcases h5 with h | h
  · exact .inl h
  · exact .inr ⟨_, h, Nat.le_refl _⟩
end
end Go.Proofs.YtcmdiomjhideiaaGreatDoor.SetR
