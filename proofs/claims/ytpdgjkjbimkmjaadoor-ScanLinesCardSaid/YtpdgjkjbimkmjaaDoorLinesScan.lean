/- A text's lines, in the program. -/
import Derived.Test.YtpdgjkjbimkmjaaDoorLinesIter
import Derived.Maps.AppendAt
import Derived.Test.YtpdgjkjbimkmjaaDoorOrders
namespace Go.Proofs.YtpdgjkjbimkmjaaDoor.LinesScan
open Go.RowKit Go.Shelf Go.Sort Go.Proofs Go.Proofs.YtpdgjkjbimkmjaaDoor.Plain Go.Proofs.YtpdgjkjbimkmjaaDoor.Leaf Go.Proofs.YtpdgjkjbimkmjaaDoor.Named Go.Proofs.YtpdgjkjbimkmjaaDoor.Trim Go.Proofs.YtpdgjkjbimkmjaaDoor.TabP Go.Proofs.YtpdgjkjbimkmjaaDoor.Tab1 Go.Proofs.YtpdgjkjbimkmjaaDoor.Tab2 Go.Proofs.YtpdgjkjbimkmjaaDoor.Tab3 Go.Proofs.YtpdgjkjbimkmjaaDoor.Tab4 Go.Proofs.YtpdgjkjbimkmjaaDoor.Tab5 Go.Proofs.YtpdgjkjbimkmjaaDoor.Lines1 Go.Proofs.YtpdgjkjbimkmjaaDoor.Range Go.Proofs.YtpdgjkjbimkmjaaDoor.LinesIter Go.Proofs.YtpdgjkjbimkmjaaDoor.Orders
attribute [local go_sem] Oper.semAt_some
theorem linesMk (n : Nat) (s : ByteArray) (w : World) : CallsIn Fence.wide n Tryd.prog 43 #[.string s] w fun e w' => e = .returned (.func (.func 56) #[] #[.pointer (some ⟨w.heap.size, 0, none⟩)]) ∧ w' = w.alloc (.cells #[.string s] 9) := by
  refine callsIn_of_wp Tryd.func43 rfl trivial ?_ rfl
  simp only [Tryd.ntmps43, List.size_toArray, List.length_cons, List.length_nil, Nat.reduceAdd, Nat.reduceSub, Array.replicate_succ, Array.replicate_zero, List.push_toArray, List.append_toArray, List.nil_append, List.cons_append]
  gi_wp2
  go_ret
  exact ⟨rfl, rfl⟩
/-- What the loop's own cells hold when the lines pre have come. -/
def Inv (b : Nat) (w : World) (pre : List ByteArray) (W : World) : Prop :=
  (∃ v, Boxed W b 24 v ∧ W.ownsRow (b + 2) 9 1 v (pre.map strip).length ((pre.map strip).map encStr) ∧ True) ∧ Below b w W
theorem inv_own (b : Nat) (w : World) (h : w.heap.size = b + 2) : OwnFrom w.heap.size (Inv b w) :=
  OwnFrom.and (Own.from (holdsRow_own (b + 2) b 24 9 1 (fun pre : List ByteArray => (pre.map strip).length) (fun pre : List ByteArray => (pre.map strip).map encStr) (fun _ _ => True)) _) (ownFrom_below (by omega) (by omega))
theorem inv_set {b : Nat} {w : World} {pre : List ByteArray} {W : World} (v' : Value) (h : Inv b w pre W) : Inv b w pre (W.setCell ⟨b + 1, 0, none⟩ v') := by
  obtain ⟨⟨v, hv, hrow, _⟩, hB⟩ := h
  refine ⟨⟨v, hv.other (by omega) _, hrow.kept (grownBy_setCell' W (b + 1) v') (.inr ?_), trivial⟩, hB.setCell (p := ⟨b + 1, 0, none⟩) (Nat.le_succ _) v'⟩
  intro e
  have := (hrow.lt _ e).1
  omega
theorem inv_drew {b : Nat} {w : World} {pre : List ByteArray} {W : World} (h : Inv b w pre W) : Inv b w pre W.drew := by
  obtain ⟨⟨v, hv, hrow, _⟩, hB⟩ := h
  exact ⟨⟨v, hv, hrow, trivial⟩, hB.drew⟩
set_option maxRecDepth 100000 in
set_option maxHeartbeats 2000000 in
theorem linesScan (s : ByteArray) (w : World) (hs : s.size ≤ 100000) : Calls Tryd.prog 23 #[.string s] w (RowPost (linesOf s) w) := by
  obtain ⟨i0, hi, hz0, hz1, hz2⟩ := info_parts infoStr
  refine (callsIn_wide (n := 3)).1 ?_
  refine callsIn_of_wp_marks Tryd.func23 rfl trivial ?_ rfl
  simp only [Tryd.ntmps23, List.size_toArray, List.length_cons, List.length_nil, Nat.reduceAdd, Nat.reduceSub, Array.replicate_succ, Array.replicate_zero, List.push_toArray, List.append_toArray, List.nil_append, List.cons_append]
  gi_wp2_with fail
  refine ⟨trivial, (linesMk _ s _).mono ?_⟩
  rintro e w' ⟨rfl, rfl⟩
  have bO := Boxed.new w 24 (.slice none 0 0)
  have bS := Boxed.new (w.alloc (.cells #[.slice none 0 0] 24)) 9 (.string s)
  rw [World.size_alloc] at bS
  have hB0 : Below w.heap.size w ((w.alloc (.cells #[.slice none 0 0] 24)).alloc (.cells #[.string s] 9)) := ((Below.refl _ w).alloc (Nat.le_refl _) _).alloc (by simp) _
  have hsz : ((w.alloc (.cells #[.slice none 0 0] 24)).alloc (.cells #[.string s] 9)).heap.size = w.heap.size + 2 := by simp
  gi_wp2_with fail
  refine rangeAll (n := 3) (by omega) (gf := 56) (lb := #[.pointer (some ⟨w.heap.size + 1, 0, none⟩)]) (by simp [Act.eval]) (enters_of Tryd.func56 (by kernel_rfl) rfl) (encs := fun x : ByteArray => #[Value.string x]) (fun _ => rfl)
    (S := fun xs => xs.map strip = linesOf s) (N := s.size) (Ok := fun x => x.size ≤ 100000) (Kp := fun A B => ∀ v, Boxed A (w.heap.size + 1) 9 v → Boxed B (w.heap.size + 1) 9 v) (fun h k v hv => k v (h v hv))
    (fun W l o o' hl ho hc v hv => (World.putObj_heap_other (by rw [hsz] at hl; omega)).trans hv)
    (Inv w.heap.size ((w.alloc (.cells #[.slice none 0 0] 24)).alloc (.cells #[.string s] 9))) (inv_own _ _ hsz) ⟨⟨_, bO.alloc _, World.ownsRow_nil _ _ _ _, trivial⟩, Below.refl _ _⟩
    (fun x => { tmps := #[.string s, undef, .slice none 0 0, .pointer (some ⟨w.heap.size, 0, none⟩), .string x, .string s, .func (.func 56) #[] #[.pointer (some ⟨w.heap.size + 1, 0, none⟩)], .string x, undef, undef, undef, undef, undef, undef], defers := [] }) ?assign ?body ?seq ?done
  case assign =>
    intro l x W K hK
    gi_wp2
    exact hK
  case body =>
    rintro l pre x W ⟨⟨v, hv, hrow, _⟩, hB⟩ hlt hx
    have hc := hv.cell
    have hk : (pre.map strip).length + 1 ≤ 100000 := by rw [List.length_map]; omega
    have hLx := Lib.hid (show (pre ++ [x]).map strip = pre.map strip ++ [strip x] by simp)
    generalize pre.map strip = L at *
    gi_wp2_with fail
    obtain ⟨sv, hsv⟩ : ∃ sv : ByteArray, Value.string sv = encStr (strip x) := ⟨⟨(strip x).toArray⟩, rfl⟩
    have htrim := Lib.hid (show Calls Tryd.prog 44 #[.string x, .string ⟨#[10]⟩] W.drew fun e w' => e = .returned (.string sv) ∧ w' = W.drew from by
      rw [hsv]; exact Tryd.strings_TrimSuffix x ⟨#[10]⟩ W.drew (by omega))
    have HV := Lib.hid hsv
    have hrow2 : ((W.alloc (.cells #[.string sv] 9)).drew).ownsRow (w.heap.size + 2) 9 1 v L.length (L.map encStr) := hrow.alloc _
    have hcell2 : ∀ (j : Nat) u, [Value.string sv][j]? = some u → ((W.alloc (.cells #[.string sv] 9)).drew).cell? ((⟨W.heap.size, 0, none⟩ : Addr).add j) = some u := cell_one_new _ _ _
    have hc2 : ((W.alloc (.cells #[.string sv] 9)).drew).cell? ⟨w.heap.size, 0, none⟩ = some v := (hv.alloc _).cell
    have hc3 : (W.alloc (.cells #[.string sv] 9)).cell? ⟨w.heap.size, 0, none⟩ = some v := (hv.alloc _).cell
    have hsize := hB.size
    rw [hsz] at hsize
    clear hsv bO bS hB0 hsz
    refine wpIn_region_orders (by kernel_rfl) [[0, 1, 2, 3, 4, 5], [1, 0, 2, 3, 4, 5], [1, 2, 0, 3, 4, 5], [1, 2, 3, 0, 4, 5]] (by kernel_rfl) ?_
    intro o ho
    simp only [List.mem_cons, List.not_mem_nil, or_false] at ho
    rcases ho with rfl | rfl | rfl | rfl
    · simp only [List.filterMap_cons, List.filterMap_nil, List.getElem?_toArray, List.getElem?_cons_zero, List.getElem?_cons_succ]
      gi_wp2_with fail
      refine ⟨trivial, (CallsIn.inRound l (callsIn_wide.2 htrim.out)).mono ?_⟩
      rintro e w' ⟨rfl, rfl⟩
      iterate 4 (first | go_values | gi_step | go_simp)
      refine wpListIn_append_own _ rfl _ _ 24 rfl (w.heap.size + 2) 9 i0 (.string ⟨#[]⟩) 1 16 Tryd.underlying24 hi hz0 hz1 hz2 rfl (by decide) v L.length (L.map encStr) rfl hrow2 ⟨W.heap.size, 0, none⟩ 1 1 [.string sv] rfl rfl hcell2 (by simp [Value.oneCell']) (by unfold maxLen; omega) (by omega) (by simp; omega) ?_
      intro v' w1 hown' hgrow _
      obtain ⟨g', cap', rfl⟩ := ownsRow_succ hown'
      have hgrow2 : (W.alloc (.cells #[.string sv] 9)).grownBy w1 v.ownBlock := ⟨hgrow.1, hgrow.2, hgrow.3, hgrow.4, hgrow.5⟩
      obtain ⟨hv1, hv2, _, hk2, hb2⟩ := hv.appended (by decide) (own_base hrow (Nat.le_add_right _ 2)) (by omega) (Nat.le_refl _) (own_base hown' (Nat.le_add_right _ 2)) hgrow2
      have hr2 := hown'.kept (grownBy_setCell' w1 w.heap.size (.slice (some ⟨g', 0, none⟩) (L.length + 1) cap')) (.inr (hv1.not_row (by decide) hown').symm)
      have hc1 := hv1.cell
      have hf1 := hv1.frozen
      have hne : some (w.heap.size + 1) ≠ v.ownBlock := fun e => by have := (hrow.lt _ e.symm).1; omega
      have hBk := Lib.hid (hB.trans hb2)
      rw [HV.out] at hr2
      have hr3 := own_app hr2 hLx.out
      have hkp : Hid (∀ u, Boxed W (w.heap.size + 1) 9 u → Boxed (w1.setCell ⟨w.heap.size, 0, none⟩ (.slice (some ⟨g', 0, none⟩) (L.length + 1) cap')) (w.heap.size + 1) 9 u) := Lib.hid fun u hu => ((hu.alloc _).kept hgrow2 hne).other (by omega) _
      clear hc2 hc3 hrow hrow2 hcell2 hown' hgrow hgrow2 hr2 hne hb2
      gi_wp2_with fail
      exact ⟨hk2, hkp.out, ⟨_, hv2, hr3, trivial⟩, hBk.out⟩
    · simp only [List.filterMap_cons, List.filterMap_nil, List.getElem?_toArray, List.getElem?_cons_zero, List.getElem?_cons_succ]
      gi_wp2_with fail
      refine ⟨trivial, (CallsIn.inRound l (callsIn_wide.2 htrim.out)).mono ?_⟩
      rintro e w' ⟨rfl, rfl⟩
      iterate 4 (first | go_values | gi_step | go_simp)
      refine wpListIn_append_own _ rfl _ _ 24 rfl (w.heap.size + 2) 9 i0 (.string ⟨#[]⟩) 1 16 Tryd.underlying24 hi hz0 hz1 hz2 rfl (by decide) v L.length (L.map encStr) rfl hrow2 ⟨W.heap.size, 0, none⟩ 1 1 [.string sv] rfl rfl hcell2 (by simp [Value.oneCell']) (by unfold maxLen; omega) (by omega) (by simp; omega) ?_
      intro v' w1 hown' hgrow _
      obtain ⟨g', cap', rfl⟩ := ownsRow_succ hown'
      have hgrow2 : (W.alloc (.cells #[.string sv] 9)).grownBy w1 v.ownBlock := ⟨hgrow.1, hgrow.2, hgrow.3, hgrow.4, hgrow.5⟩
      obtain ⟨hv1, hv2, _, hk2, hb2⟩ := hv.appended (by decide) (own_base hrow (Nat.le_add_right _ 2)) (by omega) (Nat.le_refl _) (own_base hown' (Nat.le_add_right _ 2)) hgrow2
      have hr2 := hown'.kept (grownBy_setCell' w1 w.heap.size (.slice (some ⟨g', 0, none⟩) (L.length + 1) cap')) (.inr (hv1.not_row (by decide) hown').symm)
      have hc1 := hv1.cell
      have hf1 := hv1.frozen
      have hne : some (w.heap.size + 1) ≠ v.ownBlock := fun e => by have := (hrow.lt _ e.symm).1; omega
      have hBk := Lib.hid (hB.trans hb2)
      rw [HV.out] at hr2
      have hr3 := own_app hr2 hLx.out
      have hkp : Hid (∀ u, Boxed W (w.heap.size + 1) 9 u → Boxed (w1.setCell ⟨w.heap.size, 0, none⟩ (.slice (some ⟨g', 0, none⟩) (L.length + 1) cap')) (w.heap.size + 1) 9 u) := Lib.hid fun u hu => ((hu.alloc _).kept hgrow2 hne).other (by omega) _
      clear hc2 hc3 hrow hrow2 hcell2 hown' hgrow hgrow2 hr2 hne hb2
      gi_wp2_with fail
      exact ⟨hk2, hkp.out, ⟨_, hv2, hr3, trivial⟩, hBk.out⟩
    · simp only [List.filterMap_cons, List.filterMap_nil, List.getElem?_toArray, List.getElem?_cons_zero, List.getElem?_cons_succ]
      gi_wp2_with fail
      refine ⟨trivial, (CallsIn.inRound l (callsIn_wide.2 htrim.out)).mono ?_⟩
      rintro e w' ⟨rfl, rfl⟩
      iterate 6 (first | go_values | gi_step | go_simp)
      refine wpListIn_append_own _ rfl _ _ 24 rfl (w.heap.size + 2) 9 i0 (.string ⟨#[]⟩) 1 16 Tryd.underlying24 hi hz0 hz1 hz2 rfl (by decide) v L.length (L.map encStr) rfl hrow2 ⟨W.heap.size, 0, none⟩ 1 1 [.string sv] rfl rfl hcell2 (by simp [Value.oneCell']) (by unfold maxLen; omega) (by omega) (by simp; omega) ?_
      intro v' w1 hown' hgrow _
      obtain ⟨g', cap', rfl⟩ := ownsRow_succ hown'
      have hgrow2 : (W.alloc (.cells #[.string sv] 9)).grownBy w1 v.ownBlock := ⟨hgrow.1, hgrow.2, hgrow.3, hgrow.4, hgrow.5⟩
      obtain ⟨hv1, hv2, _, hk2, hb2⟩ := hv.appended (by decide) (own_base hrow (Nat.le_add_right _ 2)) (by omega) (Nat.le_refl _) (own_base hown' (Nat.le_add_right _ 2)) hgrow2
      have hr2 := hown'.kept (grownBy_setCell' w1 w.heap.size (.slice (some ⟨g', 0, none⟩) (L.length + 1) cap')) (.inr (hv1.not_row (by decide) hown').symm)
      have hc1 := hv1.cell
      have hf1 := hv1.frozen
      have hne : some (w.heap.size + 1) ≠ v.ownBlock := fun e => by have := (hrow.lt _ e.symm).1; omega
      have hBk := Lib.hid (hB.trans hb2)
      rw [HV.out] at hr2
      have hr3 := own_app hr2 hLx.out
      have hkp : Hid (∀ u, Boxed W (w.heap.size + 1) 9 u → Boxed (w1.setCell ⟨w.heap.size, 0, none⟩ (.slice (some ⟨g', 0, none⟩) (L.length + 1) cap')) (w.heap.size + 1) 9 u) := Lib.hid fun u hu => ((hu.alloc _).kept hgrow2 hne).other (by omega) _
      clear hc2 hc3 hrow hrow2 hcell2 hown' hgrow hgrow2 hr2 hne hb2
      gi_wp2_with fail
      exact ⟨hk2, hkp.out, ⟨_, hv2, hr3, trivial⟩, hBk.out⟩
    · simp only [List.filterMap_cons, List.filterMap_nil, List.getElem?_toArray, List.getElem?_cons_zero, List.getElem?_cons_succ]
      gi_wp2_with fail
      refine ⟨trivial, (CallsIn.inRound l (callsIn_wide.2 htrim.out)).mono ?_⟩
      rintro e w' ⟨rfl, rfl⟩
      iterate 6 (first | go_values | gi_step | go_simp)
      refine wpListIn_append_own _ rfl _ _ 24 rfl (w.heap.size + 2) 9 i0 (.string ⟨#[]⟩) 1 16 Tryd.underlying24 hi hz0 hz1 hz2 rfl (by decide) v L.length (L.map encStr) rfl hrow2 ⟨W.heap.size, 0, none⟩ 1 1 [.string sv] rfl rfl hcell2 (by simp [Value.oneCell']) (by unfold maxLen; omega) (by omega) (by simp; omega) ?_
      intro v' w1 hown' hgrow _
      obtain ⟨g', cap', rfl⟩ := ownsRow_succ hown'
      have hgrow2 : (W.alloc (.cells #[.string sv] 9)).grownBy w1 v.ownBlock := ⟨hgrow.1, hgrow.2, hgrow.3, hgrow.4, hgrow.5⟩
      obtain ⟨hv1, hv2, _, hk2, hb2⟩ := hv.appended (by decide) (own_base hrow (Nat.le_add_right _ 2)) (by omega) (Nat.le_refl _) (own_base hown' (Nat.le_add_right _ 2)) hgrow2
      have hr2 := hown'.kept (grownBy_setCell' w1 w.heap.size (.slice (some ⟨g', 0, none⟩) (L.length + 1) cap')) (.inr (hv1.not_row (by decide) hown').symm)
      have hc1 := hv1.cell
      have hf1 := hv1.frozen
      have hne : some (w.heap.size + 1) ≠ v.ownBlock := fun e => by have := (hrow.lt _ e.symm).1; omega
      have hBk := Lib.hid (hB.trans hb2)
      rw [HV.out] at hr2
      have hr3 := own_app hr2 hLx.out
      have hkp : Hid (∀ u, Boxed W (w.heap.size + 1) 9 u → Boxed (w1.setCell ⟨w.heap.size, 0, none⟩ (.slice (some ⟨g', 0, none⟩) (L.length + 1) cap')) (w.heap.size + 1) 9 u) := Lib.hid fun u hu => ((hu.alloc _).kept hgrow2 hne).other (by omega) _
      clear hc2 hc3 hrow hrow2 hcell2 hown' hgrow hgrow2 hr2 hne hb2
      gi_wp2_with fail
      exact ⟨hk2, hkp.out, ⟨_, hv2, hr3, trivial⟩, hBk.out⟩
  case seq =>
    intro l J W hW hJI hJk hY h0
    exact linesIter s hs 2 l (w.heap.size + 1) _ J hJI hJk (fun _ _ v h => inv_set v h) (fun _ _ h => inv_drew h) hY W ((hW.block (w.heap.size + 1) (by rw [hsz]; omega)).trans bS) h0
  case done =>
    rintro D xs W hD hS ⟨⟨v, hv, hrow, _⟩, hB⟩ hK
    have hc := hv.cell
    rw [show xs.map strip = linesOf s from hS] at hrow
    gi_wp2
    refine ⟨by simp, .inl ⟨_, _, rfl, run_takeDeferred hK, ?_⟩⟩
    rw [hsz] at hD
    exact ⟨_, results_tmp rfl _ _ _, v, rfl, own_base (ownsRow_putObj hrow _ hK rfl) (Nat.le_add_right _ 2), hB0.trans (hB.trans (belowK_b (w := w) (Nat.le_refl _) W D _ _ (by omega) hK rfl rfl))⟩
end Go.Proofs.YtpdgjkjbimkmjaaDoor.LinesScan
