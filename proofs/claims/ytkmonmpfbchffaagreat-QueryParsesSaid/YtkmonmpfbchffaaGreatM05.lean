/- Rows of one-cell values put one behind the other: slices.Grow, slices.Concat, at texts and at functions. -/
import Derived.Test.YtkmonmpfbchffaaGreatM04
import Derived.Test.YtkmonmpfbchffaaGreatM01
import Derived.Test.YtkmonmpfbchffaaGreatM02
import Derived.Test.YtkmonmpfbchffaaGreatM03
import Derived.Deep.RegionHeld3
namespace Go.Proofs.YtkmonmpfbchffaaGreat.QryG
set_option linter.unusedVariables false
set_option linter.unusedSimpArgs false
open Go.RowKit Go.Sort Go.Proofs.YtkmonmpfbchffaaGreat.Plain Go.Proofs.YtkmonmpfbchffaaGreat.SynP Go.Proofs.YtkmonmpfbchffaaGreat.Grown Go.Proofs.YtkmonmpfbchffaaGreat.SynA Go.Proofs.YtkmonmpfbchffaaGreat.SynC Go.Proofs.YtkmonmpfbchffaaGreat.Qry4 Go.Proofs.YtkmonmpfbchffaaGreat.Qry5
set_option linter.unusedVariables false
theorem infoStr1 : (Tryz.prog.info? 9).map (fun i => (i.zero, i.size, i.bytes)) = some (some (.string ⟨#[]⟩), 1, 16) := by kernel_rfl
/-- A slice value, its room, and the values as which it reads. -/
structure RowV where
  A : Option Addr
  c : Nat
  l : List Value
/-- The values of the first rows. -/
def flatTo (R : List RowV) (k : Nat) : List Value := ((R.take k).map RowV.l).flatten
theorem flatTo_succ {R : List RowV} {k : Nat} (h : k < R.length) : flatTo R (k + 1) = flatTo R k ++ R[k].l := by
  unfold flatTo
  rw [List.take_succ_eq_append_getElem h, List.map_append, List.flatten_append, List.map_singleton, List.flatten_singleton]
theorem flatTo_len {R : List RowV} (h : ∀ r ∈ R, r.l.length ≤ 1000) : ∀ k, (flatTo R k).length ≤ k * 1000 := by
  intro k
  induction k with
  | zero => simp [flatTo]
  | succ k ih =>
    rcases Nat.lt_or_ge k R.length with hk | hk
    · rw [flatTo_succ hk, List.length_append]
      have h1 := h R[k] (List.getElem_mem _)
      rw [Nat.succ_mul]
      exact Nat.add_le_add ih h1
    · have : flatTo R (k + 1) = flatTo R k := by unfold flatTo; rw [List.take_of_length_le (by omega), List.take_of_length_le (by omega)]
      rw [this, Nat.succ_mul]
      exact Nat.le_add_right_of_le ih
theorem vrow_none {w : World} {l : List Value} (h : VRow w none l) : l.length = 0 := by
  rcases Nat.eq_zero_or_pos l.length with h0 | h0
  · exact h0
  · obtain ⟨_, _, e, _⟩ := h h0; cases e
theorem vrow_cells {w : World} {A : Option Addr} {l : List Value} (h : VRow w A l) : ∀ ad, A = some ad → ∀ j u, l[j]? = some u → w.cell? (ad.add j) = some u := by
  rintro ad rfl j u hu
  have hj : j < l.length := (List.getElem?_eq_some_iff.1 hu).1
  obtain ⟨g, o, e, _, hc⟩ := h (by omega)
  injection e with e
  subst e
  rw [add_off, hc j hj, ← hu, List.getElem?_eq_getElem hj]
theorem vrow_new (w : World) (l : List Value) (t : TypeId) : VRow (w.alloc (.cells l.toArray t)) (some ⟨w.heap.size, 0, none⟩) l := fun _ =>
  ⟨w.heap.size, 0, rfl, by simp, fun k hk => by
    rw [Lib.cell_of_heap (heap_alloc_new w _), Nat.zero_add]
    simp [hk]⟩
theorem VRow.alloc {w : World} {A : Option Addr} {l : List Value} (h : VRow w A l) (o : Obj) : VRow (w.alloc o) A l := h.below ((Below.refl _ _).alloc (Nat.le_refl _) o)
/-- A row of the call's own that holds these. -/
def VPostFit (l : List Value) (w : World) (e : Ending) (w' : World) : Prop := ∃ v, e = .returned v ∧ w'.ownsRow w.heap.size 125 1 v l.length l ∧ Below w.heap.size w w'
set_option maxRecDepth 100000 in
theorem growFit (n : Nat) (w : World) (hn : n ≤ 1000000) : Calls Tryz.prog 206 #[.slice none 0 0, .int .i64 n] w (VPostFit [] w) := by
  obtain ⟨i0, hi, hz0, hz1, hz2⟩ := info_parts infoFit
  by_cases h0 : 0 < n
  · have hz : 0 < i0.size := by rw [hz1]; omega
    have hby : n * i0.bytes ≤ 281474976710656 := by rw [hz2]; omega
    have hrun := Lib.run_append_nil_zeros (P := Tryz.prog) w 68 3 68 125 i0 .nilFunc .i64 .i64 Tryz.underlying68 Tryz.underlying3 hi hz0 n h0 hz (by omega) hby
    have hg := grownCap_ge w n 0 125
    have hm := grownCap_le_maxLen w n 0 125 (by unfold maxLen; omega)
    have hm' := hm
    have hsz : (Builtin.zeroCells (.nilFunc : Value).cells n ++ Builtin.zeroCells (.nilFunc : Value).cells (grownCap w n 0 125 - n)).size = grownCap w n 0 125 * 1 := by
      rw [Array.size_append, size_zeroCells, size_zeroCells]
      show n * 1 + (grownCap w n 0 125 - n) * 1 = _
      omega
    generalize Builtin.zeroCells (.nilFunc : Value).cells n ++ Builtin.zeroCells (.nilFunc : Value).cells (grownCap w n 0 125 - n) = cells at *
    generalize grownCap w n 0 125 = gc at *
    have Hsz := Lib.hid hsz
    have Hm := Lib.hid hm'
    have Hrun := Lib.hid hrun
    clear hsz hz hby hm' hrun
    unfold maxLen at hm
    go_enter Tryz.func206, Tryz.ntmps206
    go_wp2_with (refine Lib.wpList_append_run (P := Tryz.prog) (o := ⟨some 22, _, _, _, _, _⟩) w rfl (.tmp 20) (.tmp 21) 68 3 rfl (.slice none 0 0) (.int .i64 n) ?hs ?hx (.slice (some ⟨w.heap.size, 0, none⟩) n gc) (w.drew.alloc (.cells cells 125)) (by exact Hrun.out) ?_)
    case hs => rfl
    case hx => rfl
    go_wp2
    go_ret
    exact ⟨_, rfl, World.ownsRow_made w.drew cells gc (Nat.le_refl _) Hm.out Hsz.out, (Below.refl _ _).drew.alloc (Nat.le_refl _) _⟩
  · have : n = 0 := by omega
    subst this
    go_enter Tryz.func206, Tryz.ntmps206
    go_wp2
    go_ret
    exact ⟨_, rfl, World.ownsRow_nil _ _ _ _, Below.refl _ _⟩
set_option maxHeartbeats 800000 in
set_option maxRecDepth 100000 in
theorem concatFit (b cap : Nat) (R : List RowV) (w : World) (hR : R.length ≤ 100) (hl : ∀ r ∈ R, r.l.length ≤ 1000) (hb : b < w.heap.size) (hc : ∀ j, (h : j < R.length) → w.cell? ⟨b, j, none⟩ = some (.slice R[j].A R[j].l.length R[j].c)) (hr : ∀ r ∈ R, VRow w r.A r.l) (ho : ∀ r ∈ R, ∀ u ∈ r.l, u.oneCell' = true) :
    Calls Tryz.prog 154 #[.slice (some ⟨b, 0, none⟩) R.length cap] w (VPostFit (flatTo R R.length) w) := by
  obtain ⟨i0, hi, hz0, hz1, hz2⟩ := info_parts infoFit
  have HC := Lib.hid hc
  have HR := Lib.hid hr
  have HL := Lib.hid (flatTo_len hl)
  have Hl := Lib.hid hl
  have HO := Lib.hid ho
  clear hc hr hl ho
  go_enter Tryz.func154, Tryz.ntmps154
  go_wp2_with fail
  go_loop [3, 11] (fun s i => ∃ k : Nat, k ≤ R.length ∧ i = .int .i64 k ∧ s = .int .i64 ((flatTo R k).length : Nat)) (fun _ i => R.length - (intOf i).toNat)
  case atStart => exact ⟨0, by omega, rfl, by simp [flatTo]⟩
  case round =>
    obtain ⟨k, hk, rfl, rfl⟩ := hrel
    have b1 := HL.out k
    by_cases hlt : k < R.length
    · have hcell := HC.out k hlt
      have b2 := Hl.out R[k] (List.getElem_mem _)
      have hs := flatTo_succ hlt
      have Hs : Hid (((flatTo R k).length : Int) + (R[k].l.length : Int) = ((flatTo R (k + 1)).length : Nat)) := Lib.hid (by rw [hs, List.length_append]; omega)
      clear hs
      go_wp2_with fail
      go_round
      case rel => exact ⟨k + 1, by omega, by go_num, by rw [← Hs.out]⟩
      case measure => simp [intOf]; omega
    · have hkR : k = R.length := by omega
      subst hkR
      go_wp2_with fail
      refine (growFit (flatTo R R.length).length w (by omega)).mono ?_
      rintro e w1 ⟨v1, rfl, hown1, hbel1⟩
      go_wp2_with fail
      go_loopw [6, 27] (fun v i wr => ∃ k : Nat, k ≤ R.length ∧ i = .int .i64 k ∧ Below w.heap.size w wr ∧ wr.ownsRow w.heap.size 125 1 v (flatTo R k).length (flatTo R k)) (fun _ i _ => R.length - (intOf i).toNat)
      case atStart => exact ⟨0, by omega, rfl, hbel1, by simpa [flatTo] using hown1⟩
      case round =>
        obtain ⟨k, hk, rfl, hbel, hown⟩ := hrel
        clear hown1 hbel1
        by_cases hlt : k < R.length
        · have d1 := (hbel.cell (p := ⟨b, k, none⟩) hb).trans (HC.out k hlt)
          have hrow := (HR.out R[k] (List.getElem_mem _)).below hbel
          have b2 := Hl.out R[k] (List.getElem_mem _)
          have b3 := HL.out k
          have H0 := Lib.hid (fun h : R[k].A = none => by rw [h] at hrow; exact vrow_none hrow)
          have H1 := Lib.hid (vrow_cells hrow)
          have Hs := Lib.hid (flatTo_succ hlt)
          clear hrow
          go_wp2_with (at_builtin; refine wpList_append_from _ rfl _ _ 68 rfl w.heap.size 125 i0 .nilFunc 1 8 Tryz.underlying68 hi hz0 hz1 hz2 rfl (by decide) _ _ _ rfl hown R[k].A R[k].l.length R[k].c R[k].l rfl (by omega) H0.out H1.out (HO.out R[k] (List.getElem_mem _)) (by unfold maxLen; omega) (by omega) hbel.size ?_)
          intro v2 w2 hown2 hgrow
          have hbel2 := hbel.grown hgrow hbel.size (fun k hk => (hown.lt k hk).1)
          have hown3 : w2.ownsRow w.heap.size 125 1 v2 (flatTo R (k + 1)).length (flatTo R (k + 1)) := by
            rw [Hs.out, List.length_append]; exact hown2
          clear hown hbel hgrow hown2
          go_wp2_with fail
          go_roundw
          case rel => exact ⟨k + 1, by omega, by go_num, hbel2, hown3⟩
          case measure => simp [intOf]; omega
        · have hkR : k = R.length := by omega
          subst hkR
          go_wp2_with fail
          go_ret
          exact ⟨_, rfl, hown, hbel⟩
/-- A row of the call's own that holds these. -/
def VPostStr (l : List Value) (w : World) (e : Ending) (w' : World) : Prop := ∃ v, e = .returned v ∧ w'.ownsRow w.heap.size 9 1 v l.length l ∧ Below w.heap.size w w'
set_option maxRecDepth 100000 in
theorem growStr (n : Nat) (w : World) (hn : n ≤ 1000000) : Calls Tryz.prog 160 #[.slice none 0 0, .int .i64 n] w (VPostStr [] w) := by
  obtain ⟨i0, hi, hz0, hz1, hz2⟩ := info_parts infoStr1
  by_cases h0 : 0 < n
  · have hz : 0 < i0.size := by rw [hz1]; omega
    have hby : n * i0.bytes ≤ 281474976710656 := by rw [hz2]; omega
    have hrun := Lib.run_append_nil_zeros (P := Tryz.prog) w 24 3 24 9 i0 (.string ⟨#[]⟩) .i64 .i64 Tryz.underlying24 Tryz.underlying3 hi hz0 n h0 hz (by omega) hby
    have hg := grownCap_ge w n 0 9
    have hm := grownCap_le_maxLen w n 0 9 (by unfold maxLen; omega)
    have hm' := hm
    have hsz : (Builtin.zeroCells ((.string ⟨#[]⟩) : Value).cells n ++ Builtin.zeroCells ((.string ⟨#[]⟩) : Value).cells (grownCap w n 0 9 - n)).size = grownCap w n 0 9 * 1 := by
      rw [Array.size_append, size_zeroCells, size_zeroCells]
      show n * 1 + (grownCap w n 0 9 - n) * 1 = _
      omega
    generalize Builtin.zeroCells ((.string ⟨#[]⟩) : Value).cells n ++ Builtin.zeroCells ((.string ⟨#[]⟩) : Value).cells (grownCap w n 0 9 - n) = cells at *
    generalize grownCap w n 0 9 = gc at *
    have Hsz := Lib.hid hsz
    have Hm := Lib.hid hm'
    have Hrun := Lib.hid hrun
    clear hsz hz hby hm' hrun
    unfold maxLen at hm
    go_enter Tryz.func160, Tryz.ntmps160
    go_wp2_with (refine Lib.wpList_append_run (P := Tryz.prog) (o := ⟨some 22, _, _, _, _, _⟩) w rfl (.tmp 20) (.tmp 21) 24 3 rfl (.slice none 0 0) (.int .i64 n) ?hs ?hx (.slice (some ⟨w.heap.size, 0, none⟩) n gc) (w.drew.alloc (.cells cells 9)) (by exact Hrun.out) ?_)
    case hs => rfl
    case hx => rfl
    go_wp2
    go_ret
    exact ⟨_, rfl, World.ownsRow_made w.drew cells gc (Nat.le_refl _) Hm.out Hsz.out, (Below.refl _ _).drew.alloc (Nat.le_refl _) _⟩
  · have : n = 0 := by omega
    subst this
    go_enter Tryz.func160, Tryz.ntmps160
    go_wp2
    go_ret
    exact ⟨_, rfl, World.ownsRow_nil _ _ _ _, Below.refl _ _⟩
set_option maxHeartbeats 800000 in
set_option maxRecDepth 100000 in
theorem concatStr (b cap : Nat) (R : List RowV) (w : World) (hR : R.length ≤ 100) (hl : ∀ r ∈ R, r.l.length ≤ 1000) (hb : b < w.heap.size) (hc : ∀ j, (h : j < R.length) → w.cell? ⟨b, j, none⟩ = some (.slice R[j].A R[j].l.length R[j].c)) (hr : ∀ r ∈ R, VRow w r.A r.l) (ho : ∀ r ∈ R, ∀ u ∈ r.l, u.oneCell' = true) :
    Calls Tryz.prog 109 #[.slice (some ⟨b, 0, none⟩) R.length cap] w (VPostStr (flatTo R R.length) w) := by
  obtain ⟨i0, hi, hz0, hz1, hz2⟩ := info_parts infoStr1
  have HC := Lib.hid hc
  have HR := Lib.hid hr
  have HL := Lib.hid (flatTo_len hl)
  have Hl := Lib.hid hl
  have HO := Lib.hid ho
  clear hc hr hl ho
  go_enter Tryz.func109, Tryz.ntmps109
  go_wp2_with fail
  go_loop [3, 11] (fun s i => ∃ k : Nat, k ≤ R.length ∧ i = .int .i64 k ∧ s = .int .i64 ((flatTo R k).length : Nat)) (fun _ i => R.length - (intOf i).toNat)
  case atStart => exact ⟨0, by omega, rfl, by simp [flatTo]⟩
  case round =>
    obtain ⟨k, hk, rfl, rfl⟩ := hrel
    have b1 := HL.out k
    by_cases hlt : k < R.length
    · have hcell := HC.out k hlt
      have b2 := Hl.out R[k] (List.getElem_mem _)
      have hs := flatTo_succ hlt
      have Hs : Hid (((flatTo R k).length : Int) + (R[k].l.length : Int) = ((flatTo R (k + 1)).length : Nat)) := Lib.hid (by rw [hs, List.length_append]; omega)
      clear hs
      go_wp2_with fail
      go_round
      case rel => exact ⟨k + 1, by omega, by go_num, by rw [← Hs.out]⟩
      case measure => simp [intOf]; omega
    · have hkR : k = R.length := by omega
      subst hkR
      go_wp2_with fail
      refine (growStr (flatTo R R.length).length w (by omega)).mono ?_
      rintro e w1 ⟨v1, rfl, hown1, hbel1⟩
      go_wp2_with fail
      go_loopw [6, 27] (fun v i wr => ∃ k : Nat, k ≤ R.length ∧ i = .int .i64 k ∧ Below w.heap.size w wr ∧ wr.ownsRow w.heap.size 9 1 v (flatTo R k).length (flatTo R k)) (fun _ i _ => R.length - (intOf i).toNat)
      case atStart => exact ⟨0, by omega, rfl, hbel1, by simpa [flatTo] using hown1⟩
      case round =>
        obtain ⟨k, hk, rfl, hbel, hown⟩ := hrel
        clear hown1 hbel1
        by_cases hlt : k < R.length
        · have d1 := (hbel.cell (p := ⟨b, k, none⟩) hb).trans (HC.out k hlt)
          have hrow := (HR.out R[k] (List.getElem_mem _)).below hbel
          have b2 := Hl.out R[k] (List.getElem_mem _)
          have b3 := HL.out k
          have H0 := Lib.hid (fun h : R[k].A = none => by rw [h] at hrow; exact vrow_none hrow)
          have H1 := Lib.hid (vrow_cells hrow)
          have Hs := Lib.hid (flatTo_succ hlt)
          clear hrow
          go_wp2_with (at_builtin; refine wpList_append_from _ rfl _ _ 24 rfl w.heap.size 9 i0 (.string ⟨#[]⟩) 1 16 Tryz.underlying24 hi hz0 hz1 hz2 rfl (by decide) _ _ _ rfl hown R[k].A R[k].l.length R[k].c R[k].l rfl (by omega) H0.out H1.out (HO.out R[k] (List.getElem_mem _)) (by unfold maxLen; omega) (by omega) hbel.size ?_)
          intro v2 w2 hown2 hgrow
          have hbel2 := hbel.grown hgrow hbel.size (fun k hk => (hown.lt k hk).1)
          have hown3 : w2.ownsRow w.heap.size 9 1 v2 (flatTo R (k + 1)).length (flatTo R (k + 1)) := by
            rw [Hs.out, List.length_append]; exact hown2
          clear hown hbel hgrow hown2
          go_wp2_with fail
          go_roundw
          case rel => exact ⟨k + 1, by omega, by go_num, hbel2, hown3⟩
          case measure => simp [intOf]; omega
        · have hkR : k = R.length := by omega
          subst hkR
          go_wp2_with fail
          go_ret
          exact ⟨_, rfl, hown, hbel⟩
end Go.Proofs.YtkmonmpfbchffaaGreat.QryG
/- Which principals may be asked about, by contract. -/
namespace Go.Proofs.YtkmonmpfbchffaaGreat.Qry1
set_option linter.unusedVariables false
set_option linter.unusedSimpArgs false
open Go.RowKit Go.Sort Go.Proofs Go.Proofs.YtkmonmpfbchffaaGreat.Plain Go.Proofs.YtkmonmpfbchffaaGreat.Named Go.Proofs.YtkmonmpfbchffaaGreat.SynP Go.Proofs.YtkmonmpfbchffaaGreat.TabP Go.Proofs.YtkmonmpfbchffaaGreat.Tab1 Go.Proofs.YtkmonmpfbchffaaGreat.Tab3 Go.Proofs.YtkmonmpfbchffaaGreat.Tab7 Go.Proofs.YtkmonmpfbchffaaGreat.Grown Go.Proofs.YtkmonmpfbchffaaGreat.QryP
set_option linter.unusedVariables false
set_option linter.unusedSimpArgs false
theorem whoFn (s : Str) (w : World) (hs : s.length ≤ maxLen) : Calls Tryz.prog 169 #[.string ⟨s.toArray⟩] w fun e w' => e = .returned (.bool (!prinS s)) ∧ w = w' := by
  have H := Lib.hid (isPrin ⟨s.toArray⟩ w (by simpa [ByteArray.size] using hs))
  go_enter Tryz.func169, Tryz.ntmps169
  go_wp2_with (go_at_call 149; refine H.out.mono ?_; rintro e w' ⟨rfl, rfl⟩)
  go_ret
  exact ⟨rfl, rfl⟩
def IdxPost (T : List Str) (w : World) (e : Ending) (w' : World) : Prop := ∃ r : Int, e = .returned (.int .i64 r) ∧ decide (0 ≤ r) = !T.all prinS ∧ w = w'
set_option maxHeartbeats 1000000 in
theorem indexFn (A : Option Addr) (c : Nat) (T : List Str) (w : World) (hL : T.length ≤ 1000000) (hs : ∀ s ∈ T, s.length ≤ maxLen) (hA : SRow w A T) :
    Calls Tryz.prog 215 #[.slice A T.length c, .func (.func 169) #[] #[]] w (IdxPost T w) := by
  go_enter Tryz.func215, Tryz.ntmps215
  go_wp2_with fail
  go_loop [8] (fun i => ∃ k : Nat, k ≤ T.length ∧ i = .int .i64 k ∧ Hid (∀ j, j < k → (h : j < T.length) → prinS T[j] = true)) (fun i => T.length - (intOf i).toNat)
  case atStart => exact ⟨0, by omega, rfl, Lib.hid fun j hj => by omega⟩
  case round =>
    obtain ⟨k, hk, rfl, hall⟩ := hrel
    by_cases hlt : k < T.length
    · obtain ⟨g, off, rfl, hg, hcell⟩ := hA (by omega)
      have hx := hcell k hlt
      have p1 : (0 : Int) ≤ k := by omega
      have p2 : (k : Int) < T.length := by omega
      have H := Lib.hid (whoFn T[k] w (hs _ (List.getElem_mem _)))
      clear hcell
      cases hp : prinS T[k]
      · rw [hp] at H
        have hfin := Lib.hid ((who_bad hlt hp : _) |> fun _ => (show decide ((0 : Int) ≤ k) = !T.all prinS by
          rw [decide_eq_true p1, List.all_eq_false.2 ⟨T[k], List.getElem_mem _, by simp [hp]⟩]; rfl))
        clear hp hall
        go_wp2_with (go_at_call 169; refine H.out.mono ?_; rintro e w' ⟨rfl, rfl⟩)
        go_ret
        exact ⟨k, rfl, hfin.out, rfl⟩
      · rw [hp] at H
        have hnext : Hid (∀ j, j < k + 1 → (h : j < T.length) → prinS T[j] = true) := Lib.hid fun j hj h => by
          by_cases e : j = k
          · subst e; exact hp
          · exact hall.out j (by omega) h
        clear hp hall
        go_wp2_with (go_at_call 169; refine H.out.mono ?_; rintro e w' ⟨rfl, rfl⟩)
        go_round
        case rel => exact ⟨k + 1, by omega, by go_num, hnext⟩
        case measure => simp [intOf]; omega
    · have hfin := Lib.hid (show decide ((0 : Int) ≤ -1) = !T.all prinS by
        have : T.all prinS = true := List.all_eq_true.2 fun x hx => by
          obtain ⟨j, hj, rfl⟩ := List.getElem_of_mem hx
          exact hall.out j (by omega) hj
        rw [this]; rfl)
      clear hall
      go_wp2_with fail
      go_ret
      exact ⟨-1, rfl, hfin.out, rfl⟩
theorem containsFn (A : Option Addr) (c : Nat) (T : List Str) (w : World) (hL : T.length ≤ 1000000) (hs : ∀ s ∈ T, s.length ≤ maxLen) (hA : SRow w A T) :
    Calls Tryz.prog 170 #[.slice A T.length c, .func (.func 169) #[] #[]] w fun e w' => e = .returned (.bool (!T.all prinS)) ∧ w = w' := by
  have H := Lib.hid (indexFn A c T w hL hs hA)
  go_enter Tryz.func170, Tryz.ntmps170
  go_wp2_with (go_at_call 215; refine H.out.mono ?_; rintro e w' ⟨r, rfl, hr, rfl⟩)
  go_ret
  exact ⟨rfl, rfl⟩
/-- slices.Equal at rows of texts. -/
theorem equalS (A B : Option Addr) (c d : Nat) (T U : List Str) (w : World) (hT : T.length ≤ 1000000) (hU : U.length ≤ 1000000) (hA : SRow w A T) (hB : SRow w B U) :
    Calls Tryz.prog 126 #[.slice A T.length c, .slice B U.length d] w fun e w' => e = .returned (.bool (decide (T = U))) ∧ ∃ q, w' = w.drewN q := by
  by_cases hl : T.length = U.length
  · rcases Nat.eq_zero_or_pos T.length with h0 | h0
    · have e1 : T = [] := List.eq_nil_of_length_eq_zero h0
      have e2 : U = [] := List.eq_nil_of_length_eq_zero (by omega)
      subst e1; subst e2
      refine (Tryz.slices_Equal_string_empty A B c 0 d w (by decide)).mono ?_
      rintro e w' ⟨rfl, rfl⟩
      exact ⟨by simp, 0, rfl⟩
    · obtain ⟨b1, o1, rfl, _, hc1⟩ := hA h0
      obtain ⟨b2, o2, rfl, _, hc2⟩ := hB (by omega)
      have := Tryz.slices_Equal_string b1 o1 T.length c b2 o2 U.length d (T.map enB) (U.map enB) w (by simp) (by simp) (by omega) (by omega) (fun j hj => by
        rw [List.length_map] at hj
        rw [hc1 j hj, List.getD_eq_getElem?_getD, List.getElem?_map, List.getElem?_eq_getElem hj]; rfl) (fun j hj => by
        rw [List.length_map] at hj
        rw [hc2 j hj, List.getD_eq_getElem?_getD, List.getElem?_map, List.getElem?_eq_getElem hj]; rfl)
      refine this.mono ?_
      rintro e w' ⟨rfl, hq⟩
      refine ⟨ret_bool ?_, hq⟩
      rw [List.take_of_length_le (by simp), List.take_of_length_le (by simp)]
      have inj : ∀ x y : Str, enB x = enB y → x = y := fun x y h => by
        have := congrArg (fun z : ByteArray => z.data.toList) h
        simpa [enB] using this
      exact decide_eq_decide.2 ⟨fun h => List.map_inj_right (fun x y => inj x y) |>.1 h, fun h => by rw [h]⟩
  · refine (Tryz.slices_Equal_string_lens A B T.length c U.length d w hl).mono ?_
    rintro e w' ⟨rfl, rfl⟩
    exact ⟨ret_bool (decide_eq_false (fun h => hl (by rw [h]))).symm, 0, rfl⟩
theorem all_len {T : List Str} {n : Nat} (h : T.length ≤ n) : (tab T).length ≤ n := Nat.le_trans (tab_len_le T) h
set_option maxHeartbeats 1000000 in
set_option maxRecDepth 100000 in
theorem rightWho (A : Option Addr) (c : Nat) (T : List Str) (w : World) (hL : T.length ≤ maxLen) (hs : ∀ s ∈ T, s.length ≤ maxLen) (hA : SRow w A T) :
    Calls Tryz.prog 119 #[.slice A T.length c] w fun e w' => e = .returned (.bool (whoOk T)) ∧ Below w.heap.size w w' := by
  have hL' : T.length ≤ 9223372036854775807 := hL
  unfold whoOk
  by_cases h12 : T.length ≤ 12
  · have H := Lib.hid (containsFn A c T w (by omega) hs hA)
    have HA := Lib.hid hA
    have d0 : decide ((T.length : Int) ≤ 12) = true := by simp; omega
    rw [decide_eq_true h12, Bool.true_and]
    clear hA
    cases hp : T.all prinS
    · rw [hp] at H
      clear hp
      go_enter Tryz.func119, Tryz.ntmps119
      go_wp2_with (go_at_call 170; refine H.out.mono ?_; rintro e w' ⟨rfl, rfl⟩)
      go_ret
      exact ⟨rfl, Below.refl _ _⟩
    · rw [hp] at H
      have HN := Lib.hid (new A c T w (by omega) HA.out)
      have HT := Lib.hid (tab_len_le T)
      clear hp
      go_enter Tryz.func119, Tryz.ntmps119
      go_wp2_with (first | (go_at_call 170; refine H.out.mono ?_; rintro e w' ⟨rfl, rfl⟩) | (go_at_call 84; refine HN.out.mono ?_))
      rintro e w1 ⟨p, rfl, ⟨t, v, rfl, ht, hh, hown⟩, hb1⟩
      obtain ⟨A1, c1, rfl, _, hr1⟩ := SRow.of_own hown
      have hcell : w1.cell? ⟨t, 0, none⟩ = some (.slice A1 (tab T).length c1) := by rw [Lib.cell_of_heap hh]; rfl
      have HAL := Lib.hid (all t A1 (tab T) c1 w1 hcell (by have := HT.out; omega) hr1)
      clear hown hr1 hh hcell
      go_wp2_with (go_at_call 85; refine HAL.out.mono ?_)
      rintro e w2 ⟨v2, rfl, hown2, hb2⟩
      obtain ⟨A2, c2, rfl, _, hr2⟩ := SRow.of_own hown2
      have hb := hb1.trans (hb2.mono hb1.size)
      have HE := Lib.hid (equalS A A2 c c2 T (tab T) w2 (by omega) (by have := HT.out; omega) (HA.out.keep hb) hr2)
      generalize hd : decide (T = tab T) = dd at *
      have HD := Lib.hid hd
      clear hown2 hr2 hd
      go_wp2_with (go_at_call 126; refine HE.out.mono ?_)
      rintro e w3 ⟨rfl, n, rfl⟩
      go_wp2_with fail
      go_ret
      exact ⟨ret_bool (by rw [Bool.true_and]; exact HD.out.symm), below_drewN hb _⟩
  · have d0 : decide ((T.length : Int) ≤ 12) = false := by simp; omega
    rw [decide_eq_false h12, Bool.false_and]
    clear hA
    go_enter Tryz.func119, Tryz.ntmps119
    go_wp2_with fail
    go_ret
    exact ⟨rfl, Below.refl _ _⟩
end Go.Proofs.YtkmonmpfbchffaaGreat.Qry1
/- Stores into a block that a world, known by its cells alone, holds. -/
namespace Go.Proofs.YtkmonmpfbchffaaGreat.SynS
set_option linter.unusedVariables false
set_option linter.unusedSimpArgs false
open Go.RowKit Go.Sort
theorem set_cell (w : World) (b i o : Nat) (v : Value) : (w.setCell ⟨b, i, none⟩ v).cell? ⟨b, o, none⟩ = if o = i then (w.cell? ⟨b, i, none⟩).map (fun _ => v) else w.cell? ⟨b, o, none⟩ := by
  unfold World.setCell World.cell?
  simp only [Array.getElem?_modify, if_true]
  cases h : w.heap[b]? with
  | none => simp
  | some x =>
    cases x <;> simp
    rename_i c e f
    by_cases hi : o = i
    · subst hi
      simp
      by_cases hs : o < c.size
      · simp [hs]
      · simp [hs]
    · simp [hi, Array.getElem?_setIfInBounds, Ne.symm hi]
theorem set_far (w : World) (b b' i o : Nat) (v : Value) (h : b ≠ b') : (w.setCell ⟨b, i, none⟩ v).cell? ⟨b', o, none⟩ = w.cell? ⟨b', o, none⟩ := by
  unfold World.setCell World.cell?
  simp only [Array.getElem?_modify]
  rw [if_neg h]
theorem set_frozen (w : World) (b i b' o : Nat) (v : Value) : (w.setCell ⟨b, i, none⟩ v).frozen? ⟨b', o, none⟩ = w.frozen? ⟨b', o, none⟩ := World.frozen?_setCell ..
theorem set_size (w : World) (b i : Nat) (v : Value) : (w.setCell ⟨b, i, none⟩ v).heap.size = w.heap.size := by simp [World.setCell]
theorem some_below {X : World} {n : Nat} (h : (X.cell? ⟨n, 8, none⟩).isSome = true) (i : Nat) (hi : i ≤ 8) : ∃ u, X.cell? ⟨n, i, none⟩ = some u := by
  unfold World.cell? at *
  cases hx : X.heap[n]? with
  | none => rw [hx] at h; simp at h
  | some x =>
    rw [hx] at h
    cases x with
    | cells c e f =>
      simp at h ⊢
      exact ⟨_, Array.getElem?_eq_getElem (by omega)⟩
    | _ => simp at h
set_option maxHeartbeats 1000000 in
/-- Nine stores into a block of nine cells. -/
theorem set9 (X : World) (n : Nat) (v0 v1 v2 v3 v4 v5 v6 v7 v8 : Value) (o : Nat) (ho : o < 9) (h : (X.cell? ⟨n, 8, none⟩).isSome = true) : (((((((((X.setCell ⟨n, 0, none⟩ v0).setCell ⟨n, 1, none⟩ v1).setCell ⟨n, 2, none⟩ v2).setCell ⟨n, 3, none⟩ v3).setCell ⟨n, 4, none⟩ v4).setCell ⟨n, 5, none⟩ v5).setCell ⟨n, 6, none⟩ v6).setCell ⟨n, 7, none⟩ v7).setCell ⟨n, 8, none⟩ v8).cell? ⟨n, o, none⟩ = (#[v0, v1, v2, v3, v4, v5, v6, v7, v8] : Array Value)[o]? := by
  obtain ⟨u0, h0⟩ := some_below h 0 (by omega)
  obtain ⟨u1, h1⟩ := some_below h 1 (by omega)
  obtain ⟨u2, h2⟩ := some_below h 2 (by omega)
  obtain ⟨u3, h3⟩ := some_below h 3 (by omega)
  obtain ⟨u4, h4⟩ := some_below h 4 (by omega)
  obtain ⟨u5, h5⟩ := some_below h 5 (by omega)
  obtain ⟨u6, h6⟩ := some_below h 6 (by omega)
  obtain ⟨u7, h7⟩ := some_below h 7 (by omega)
  obtain ⟨u8, h8⟩ := some_below h 8 (by omega)
  match o, ho with
  | 0, _ => simp [set_cell, h0, h1, h2, h3, h4, h5, h6, h7, h8]
  | 1, _ => simp [set_cell, h0, h1, h2, h3, h4, h5, h6, h7, h8]
  | 2, _ => simp [set_cell, h0, h1, h2, h3, h4, h5, h6, h7, h8]
  | 3, _ => simp [set_cell, h0, h1, h2, h3, h4, h5, h6, h7, h8]
  | 4, _ => simp [set_cell, h0, h1, h2, h3, h4, h5, h6, h7, h8]
  | 5, _ => simp [set_cell, h0, h1, h2, h3, h4, h5, h6, h7, h8]
  | 6, _ => simp [set_cell, h0, h1, h2, h3, h4, h5, h6, h7, h8]
  | 7, _ => simp [set_cell, h0, h1, h2, h3, h4, h5, h6, h7, h8]
  | 8, _ => simp [set_cell, h0, h1, h2, h3, h4, h5, h6, h7, h8]
open Go.Proofs.YtkmonmpfbchffaaGreat.Grown
theorem grewCall1 {P : Program} {f : FuncId} {args : Array Value} {w : World} {m n : Nat} {os : Array Obj} {v : Value} (h : Calls P f args (grow (w.drewN (m + n)) os) fun e w' => e = .returned v ∧ Grew (grow (w.drewN (m + n)) os) w') : Calls P f args (grow (w.drewN (m + n)) os) fun e w'' => e = .returned v ∧ ∃ p : GrownBy, w'' = grow (w.drewN (m + p.n)) p.os :=
  h.mono fun _ _ ⟨he, ⟨⟨q, os'⟩, hq⟩⟩ => ⟨he, ⟨n + q, os ++ os'⟩, by
    rw [hq]
    show grow (grow ((w.drewN (m + n)).drewN q) os) os' = _
    rw [grow_grow, World.drewN_drewN, Nat.add_assoc]⟩
end Go.Proofs.YtkmonmpfbchffaaGreat.SynS
/- How two roles, and two statements, stand: orderRoles, Less, Order. -/
namespace Go.Proofs.YtkmonmpfbchffaaGreat.Syn2
set_option linter.unusedVariables false
set_option linter.unusedSimpArgs false
open Go.RowKit Go.Sort Go.Proofs Go.Proofs.YtkmonmpfbchffaaGreat.Plain Go.Proofs.YtkmonmpfbchffaaGreat.SynP Go.Proofs.YtkmonmpfbchffaaGreat.Named Go.Proofs.YtkmonmpfbchffaaGreat.RefN Go.Proofs.YtkmonmpfbchffaaGreat.Grown Go.Proofs.YtkmonmpfbchffaaGreat.Syn1
theorem keep2 {W w1 w2 : World} {n : Nat} {f g : Nat → Option Value} (h : Grew W w1 ∧ (∀ o, w1.cell? ⟨n, o, none⟩ = f o) ∧ (∀ o, w1.cell? ⟨n + 1, o, none⟩ = g o)) (hn : n + 1 < W.heap.size) (hg : Grew w1 w2) :
    Grew W w2 ∧ (∀ o, w2.cell? ⟨n, o, none⟩ = f o) ∧ (∀ o, w2.cell? ⟨n + 1, o, none⟩ = g o) := by
  have hs := h.1.size
  exact ⟨h.1.trans hg, fun o => (hg.cell (a := ⟨n, o, none⟩) (by show n < _; omega)).trans (h.2.1 o), fun o => (hg.cell (a := ⟨n + 1, o, none⟩) (by show n + 1 < _; omega)).trans (h.2.2 o)⟩
theorem start2 (w : World) (A B : Array Value) (t : TypeId) : Grew ((w.alloc (.cells A t)).alloc (.cells B t)) ((w.alloc (.cells A t)).alloc (.cells B t)).drew ∧ (∀ o, ((w.alloc (.cells A t)).alloc (.cells B t)).drew.cell? ⟨w.heap.size, o, none⟩ = A[o]?) ∧ (∀ o, ((w.alloc (.cells A t)).alloc (.cells B t)).drew.cell? ⟨w.heap.size + 1, o, none⟩ = B[o]?) := by
  refine ⟨(Grew.refl _).drew, fun o => ?_, fun o => ?_⟩
  · exact (((Grew.refl (w.alloc (.cells A t))).alloc (.cells B t)).drew.cell (a := ⟨w.heap.size, o, none⟩) (by simp)).trans (Lib.cell_of_heap (heap_alloc_new w _) o)
  · have := Lib.cell_of_heap (heap_alloc_new (w.alloc (.cells A t)) (.cells B t)) o
    rw [← this]; simp
theorem irow_new (w : World) (l : List Int) (t : TypeId) {n : Nat} (hn : n = w.heap.size) : IRow (w.alloc (.cells (l.map (Value.int .i64)).toArray t)).drew n l := by
  subst hn
  exact ⟨by simp, fun k hk => by
    have := Lib.cell_of_heap (heap_alloc_new w (.cells (l.map (Value.int .i64)).toArray t)) k
    show (w.alloc _).cell? _ = _
    rw [this]; simp [hk]⟩
theorem irow_new0 (w : World) (l : List Int) (t : TypeId) {n : Nat} (hn : n = w.heap.size) : IRow (w.alloc (.cells (l.map (Value.int .i64)).toArray t)) n l := by
  subst hn
  exact ⟨by simp, fun k hk => by
    rw [Lib.cell_of_heap (heap_alloc_new w (.cells (l.map (Value.int .i64)).toArray t)) k]; simp [hk]⟩
set_option maxRecDepth 100000 in
theorem orderRoles (r s : Rl) (w : World) : Calls Tryz.prog 174 #[r.val, s.val] w fun e w' => e = .returned (.int .i64 (cmpR r s)) ∧ Grew w w' := by
  obtain ⟨o1, n1⟩ := r
  obtain ⟨o2, n2⟩ := s
  have hor : ∀ (w' : World) (n : Nat), n = w'.heap.size → Calls Tryz.prog 176 #[.slice (some ⟨n, 0, none⟩) 2 2] (w'.alloc (.cells #[.int .i64 (cmpB o1 o2), .int .i64 (cmpB n1 n2)] 3)).drew fun e w2 => e = .returned (.int .i64 (cmpR ⟨o1, n1⟩ ⟨o2, n2⟩)) ∧ (w'.alloc (.cells #[.int .i64 (cmpB o1 o2), .int .i64 (cmpB n1 n2)] 3)).drew = w2 := fun w' n hn =>
    or_ n 2 [cmpB o1 o2, cmpB n1 n2] _ (by simp) (irow_new w' [cmpB o1 o2, cmpB n1 n2] _ hn)
  have Hor := Lib.hid hor
  clear hor
  generalize cmpR ⟨o1, n1⟩ ⟨o2, n2⟩ = res at *
  unfold Rl.val
  go_enter Tryz.func174, Tryz.ntmps174
  go_wp2
  have hst := start2 w #[.string o1, .string n1] #[.string o2, .string n2] 23
  go_region_held3 (fun w' => Grew ((w.alloc (.cells #[.string o1, .string n1] 23)).alloc (.cells #[.string o2, .string n2] 23)) w' ∧ (∀ o, w'.cell? ⟨w.heap.size, o, none⟩ = (#[.string o1, .string n1] : Array Value)[o]?) ∧ (∀ o, w'.cell? ⟨w.heap.size + 1, o, none⟩ = (#[.string o2, .string n2] : Array Value)[o]?))
    (first | exact hst | assumption | exact keep2 (by assumption) (by simp) (Grew.alloc_drew _ _))
    (first | (go_at_call 178; refine (compareS _ _ _).mono ?_; rintro e w' ⟨rfl, rfl⟩) | (go_at_call 176; refine (Hor.out _ _ (by simp)).mono ?_; rintro e w' ⟨rfl, rfl⟩))
  rename_i hHeld
  go_wp2
  go_ret
  exact ⟨rfl, (((Grew.refl _).alloc _).alloc _).trans hHeld.1⟩
theorem less (r s : Rl) (w : World) : Calls Tryz.prog 127 #[r.val, s.val] w fun e w' => e = .returned (.bool (decide (cmpR r s < 0))) ∧ Grew w w' := by
  obtain ⟨o1, n1⟩ := r
  obtain ⟨o2, n2⟩ := s
  have H := Lib.hid (orderRoles ⟨o1, n1⟩ ⟨o2, n2⟩)
  generalize cmpR ⟨o1, n1⟩ ⟨o2, n2⟩ = res at *
  unfold Rl.val at *
  go_enter Tryz.func127, Tryz.ntmps127
  go_wp2_with (go_at_call 174; refine (H.out _).mono ?_; rintro e w' ⟨rfl, hg⟩)
  go_ret
  exact ⟨rfl, (((Grew.refl _).alloc _).alloc _).trans hg⟩
theorem rl_eq {r s : Rl} (h : r.owner = s.owner) (h2 : r.name = s.name) : r = s := by cases r; cases s; simp_all
theorem orL_cons0 (l : List Int) : orL (0 :: l) = orL l := by simp [orL]
theorem orL_cons1 {x : Int} (l : List Int) (h : x ≠ 0) : orL (x :: l) = x := by simp [orL, h]
theorem orL_one (x : Int) : orL [x] = x := by
  by_cases h : x = 0
  · subst h; rfl
  · exact orL_cons1 [] h
theorem cmpR_lt {r s : Rl} : (decide (cmpR r s < 0) : Bool) = if r.owner ≠ s.owner then strLt r.owner s.owner else strLt r.name s.name := by
  unfold cmpR
  by_cases h : r.owner = s.owner
  · rw [if_neg (fun e => e h), h, cmpB_eq.2 rfl, orL_cons0, orL_one, Bool.eq_iff_iff, decide_eq_true_iff, cmpB_lt]
  · rw [orL_cons1 _ (fun e => h (cmpB_eq.1 e)), if_pos h, Bool.eq_iff_iff, decide_eq_true_iff, cmpB_lt]
theorem lessRef (r s : Rl) (w : World) : Calls Tryz.prog 91 #[r.val, s.val] w fun e w' => e = .returned (.bool (decide (cmpR r s < 0))) ∧ Grew w w' := by
  obtain ⟨o1, n1⟩ := r
  obtain ⟨o2, n2⟩ := s
  have H := Lib.hid (cmpR_lt (r := ⟨o1, n1⟩) (s := ⟨o2, n2⟩))
  by_cases h : o1 = o2
  · have e1 : (o1.toList == o2.toList) = true := by rw [same_eq]; exact decide_eq_true h
    have H2 := Lib.hid (H.out.trans (if_neg (by simpa using h)))
    clear h
    unfold Rl.val at *
    go_enter Tryz.func91, Tryz.ntmps91
    go_wp2
    go_ret
    exact ⟨ret_bool (by rw [H2.out]; exact less_eq _ _), ((Grew.refl _).alloc _).alloc _⟩
  · have e1 : (o1.toList == o2.toList) = false := by rw [same_eq]; exact decide_eq_false h
    have H2 := Lib.hid (H.out.trans (if_pos h))
    clear h
    unfold Rl.val at *
    go_enter Tryz.func91, Tryz.ntmps91
    go_wp2
    go_ret
    exact ⟨ret_bool (by rw [H2.out]; exact less_eq _ _), ((Grew.refl _).alloc _).alloc _⟩
end Go.Proofs.YtkmonmpfbchffaaGreat.Syn2
