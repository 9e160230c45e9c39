/- Rows of numbers put one behind the other: slices.Grow, slices.Concat; the shapes. -/
import Derived.Test.YtofhiolmaojihaaSynC
namespace Go.Proofs.Ytofhiolmaojihaa.SynG
open Go.RowKit Go.Sort Go.Proofs.Ytofhiolmaojihaa.Plain Go.Proofs.Ytofhiolmaojihaa.SynP Go.Proofs.Ytofhiolmaojihaa.SynQ Go.Proofs.Ytofhiolmaojihaa.Grown Go.Proofs.Ytofhiolmaojihaa.SynA Go.Proofs.Ytofhiolmaojihaa.SynC
set_option linter.unusedVariables false
theorem infoInt : (Try.prog.info? 3).map (fun i => (i.zero, i.size, i.bytes)) = some (some (.int .i64 0), 1, 8) := by kernel_rfl
def icells (l : List Int) : List Value := l.map (Value.int .i64)
/-- A row of the call's own that holds numbers. -/
def IPost (l : List Int) (w : World) (e : Ending) (w' : World) : Prop := ∃ v, e = .returned v ∧ w'.ownsRow w.heap.size 3 1 v l.length (icells l) ∧ Below w.heap.size w w'
set_option maxRecDepth 100000 in
theorem growI (n : Nat) (w : World) (hn : n ≤ 1000000) : Calls Try.prog 89 #[.slice none 0 0, .int .i64 n] w (IPost [] w) := by
  obtain ⟨i0, hi, hz0, hz1, hz2⟩ := info_parts infoInt
  by_cases h0 : 0 < n
  · have hz : 0 < i0.size := by rw [hz1]; omega
    have hby : n * i0.bytes ≤ 281474976710656 := by rw [hz2]; omega
    have hrun := Lib.run_append_nil_zeros (P := Try.prog) w 62 3 62 3 i0 (.int .i64 0) .i64 .i64 Try.underlying62 Try.underlying3 hi hz0 n h0 hz (by omega) hby
    have hg := grownCap_ge w n 0 3
    have hm := grownCap_le_maxLen w n 0 3 (by unfold maxLen; omega)
    have hm' := hm
    have hsz : (Builtin.zeroCells (Value.int .i64 0).cells n ++ Builtin.zeroCells (Value.int .i64 0).cells (grownCap w n 0 3 - n)).size = grownCap w n 0 3 * 1 := by
      rw [Array.size_append, size_zeroCells, size_zeroCells]
      show n * 1 + (grownCap w n 0 3 - n) * 1 = _
      omega
    generalize Builtin.zeroCells (Value.int .i64 0).cells n ++ Builtin.zeroCells (Value.int .i64 0).cells (grownCap w n 0 3 - n) = cells at *
    generalize grownCap w n 0 3 = gc at *
    have Hsz := Lib.hid hsz
    have Hm := Lib.hid hm'
    have Hrun := Lib.hid hrun
    clear hsz hz hby hm' hrun
    unfold maxLen at hm
    go_enter Try.func89, Try.ntmps89
    go_wp2_with (refine Lib.wpList_append_run (P := Try.prog) (o := ⟨some 22, _, _, _, _, _⟩) w rfl (.tmp 20) (.tmp 21) 62 3 rfl (.slice none 0 0) (.int .i64 n) ?hs ?hx (.slice (some ⟨w.heap.size, 0, none⟩) n gc) (w.drew.alloc (.cells cells 3)) (by exact Hrun.out) ?_)
    case hs => rfl
    case hx => rfl
    go_wp2
    go_ret
    exact ⟨_, rfl, World.ownsRow_made w.drew cells gc (Nat.le_refl _) Hm.out Hsz.out, (Below.refl _ _).drew.alloc (Nat.le_refl _) _⟩
  · have : n = 0 := by omega
    subst this
    go_enter Try.func89, Try.ntmps89
    go_wp2
    go_ret
    exact ⟨_, rfl, World.ownsRow_nil _ _ _ _, Below.refl _ _⟩
/-- A slice value, its room, and the numbers as which it reads. -/
structure RowI where
  A : Option Addr
  c : Nat
  l : List Int
/-- The numbers of the first rows. -/
def flatTo (R : List RowI) (k : Nat) : List Int := ((R.take k).map RowI.l).flatten
theorem flatTo_succ {R : List RowI} {k : Nat} (h : k < R.length) : flatTo R (k + 1) = flatTo R k ++ R[k].l := by
  unfold flatTo
  rw [List.take_succ_eq_append_getElem h, List.map_append, List.flatten_append, List.map_singleton, List.flatten_singleton]
theorem flatTo_len {R : List RowI} (h : ∀ r ∈ R, r.l.length ≤ 1000) : ∀ k, (flatTo R k).length ≤ k * 1000 := by
  intro k
  induction k with
  | zero => simp [flatTo]
  | succ k ih =>
    rcases Nat.lt_or_ge k R.length with hk | hk
    · rw [flatTo_succ hk, List.length_append]
      have h1 := h R[k] (List.getElem_mem _)
      rw [Nat.succ_mul]
      exact Nat.add_le_add ih h1
    · have : flatTo R (k + 1) = flatTo R k := by unfold flatTo; rw [List.take_of_length_le (by omega), List.take_of_length_le (by omega)]
      rw [this, Nat.succ_mul]
      exact Nat.le_add_right_of_le ih
theorem icells_append (a b : List Int) : icells (a ++ b) = icells a ++ icells b := by unfold icells; exact List.map_append
theorem icells_len (a : List Int) : (icells a).length = a.length := List.length_map ..
theorem icells_one (l : List Int) : ∀ u ∈ icells l, u.oneCell' = true := by
  intro u hu
  obtain ⟨x, _, rfl⟩ := List.mem_map.1 hu
  rfl
theorem iat_none {w : World} {l : List Int} (h : IAt w none l) : l.length = 0 := by
  rcases Nat.eq_zero_or_pos l.length with h0 | h0
  · exact h0
  · obtain ⟨_, _, e, _⟩ := h h0; cases e
theorem iat_cells {w : World} {A : Option Addr} {l : List Int} (h : IAt w A l) : ∀ ad, A = some ad → ∀ j u, (icells l)[j]? = some u → w.cell? (ad.add j) = some u := by
  rintro ad rfl j u hu
  have hj : j < l.length := by
    rcases Nat.lt_or_ge j l.length with h | h
    · exact h
    · rw [List.getElem?_eq_none (by rw [icells_len]; exact h)] at hu; cases hu
  obtain ⟨g, o, e, _, hc⟩ := h (by omega)
  injection e with e
  subst e
  rw [add_off, hc j hj, ← hu]
  unfold icells
  rw [List.getElem?_map, List.getElem?_eq_getElem hj]; rfl
set_option maxHeartbeats 800000 in
set_option maxRecDepth 100000 in
theorem concatI (b cap : Nat) (R : List RowI) (w : World) (hR : R.length ≤ 100) (hl : ∀ r ∈ R, r.l.length ≤ 1000) (hb : b < w.heap.size) (hc : ∀ j, (h : j < R.length) → w.cell? ⟨b, j, none⟩ = some (.slice R[j].A R[j].l.length R[j].c)) (hr : ∀ r ∈ R, IAt w r.A r.l) :
    Calls Try.prog 71 #[.slice (some ⟨b, 0, none⟩) R.length cap] w (IPost (flatTo R R.length) w) := by
  obtain ⟨i0, hi, hz0, hz1, hz2⟩ := info_parts infoInt
  have HC := Lib.hid hc
  have HR := Lib.hid hr
  have HL := Lib.hid (flatTo_len hl)
  have Hl := Lib.hid hl
  clear hc hr hl
  go_enter Try.func71, Try.ntmps71
  go_wp2_with fail
  go_loop [3, 11] (fun s i => ∃ k : Nat, k ≤ R.length ∧ i = .int .i64 k ∧ s = .int .i64 ((flatTo R k).length : Nat)) (fun _ i => R.length - (intOf i).toNat)
  case atStart => exact ⟨0, by omega, rfl, by simp [flatTo]⟩
  case round =>
    obtain ⟨k, hk, rfl, rfl⟩ := hrel
    have b1 := HL.out k
    by_cases hlt : k < R.length
    · have hcell := HC.out k hlt
      have b2 := Hl.out R[k] (List.getElem_mem _)
      have hs := flatTo_succ hlt
      have Hs : Hid (((flatTo R k).length : Int) + (R[k].l.length : Int) = ((flatTo R (k + 1)).length : Nat)) := Lib.hid (by rw [hs, List.length_append]; omega)
      clear hs
      go_wp2_with fail
      go_round
      case rel => exact ⟨k + 1, by omega, by go_num, by rw [← Hs.out]⟩
      case measure => simp [intOf]; omega
    · have hkR : k = R.length := by omega
      subst hkR
      go_wp2_with fail
      refine (growI (flatTo R R.length).length w (by omega)).mono ?_
      rintro e w1 ⟨v1, rfl, hown1, hbel1⟩
      go_wp2_with fail
      go_loopw [6, 27] (fun v i wr => ∃ k : Nat, k ≤ R.length ∧ i = .int .i64 k ∧ Below w.heap.size w wr ∧ wr.ownsRow w.heap.size 3 1 v (flatTo R k).length (icells (flatTo R k))) (fun _ i _ => R.length - (intOf i).toNat)
      case atStart => exact ⟨0, by omega, rfl, hbel1, by simpa [flatTo] using hown1⟩
      case round =>
        obtain ⟨k, hk, rfl, hbel, hown⟩ := hrel
        clear hown1 hbel1
        by_cases hlt : k < R.length
        · have d1 := (hbel.cell (p := ⟨b, k, none⟩) hb).trans (HC.out k hlt)
          have hrow := (HR.out R[k] (List.getElem_mem _)).below hbel
          have b2 := Hl.out R[k] (List.getElem_mem _)
          have b3 := HL.out k
          have H0 := Lib.hid (fun h : R[k].A = none => by rw [h] at hrow; exact iat_none hrow)
          have H1 := Lib.hid (iat_cells hrow)
          have Hs := Lib.hid (flatTo_succ hlt)
          clear hrow
          go_wp2_with (at_builtin; refine wpList_append_from _ rfl _ _ 62 rfl w.heap.size 3 i0 (.int .i64 0) 1 8 Try.underlying62 hi hz0 hz1 hz2 rfl (by decide) _ _ _ rfl hown R[k].A R[k].l.length R[k].c (icells R[k].l) rfl (by rw [icells_len]; omega) H0.out H1.out (icells_one _) (by unfold maxLen; omega) (by omega) hbel.size ?_)
          intro v2 w2 hown2 hgrow
          have hbel2 := hbel.grown hgrow hbel.size (fun k hk => (hown.lt k hk).1)
          have hown3 : w2.ownsRow w.heap.size 3 1 v2 (flatTo R (k + 1)).length (icells (flatTo R (k + 1))) := by
            rw [Hs.out, List.length_append, icells_append]; exact hown2
          clear hown hbel hgrow hown2
          go_wp2_with fail
          go_roundw
          case rel => exact ⟨k + 1, by omega, by go_num, hbel2, hown3⟩
          case measure => simp [intOf]; omega
        · have hkR : k = R.length := by omega
          subst hkR
          go_wp2_with fail
          go_ret
          exact ⟨_, rfl, hown, hbel⟩
end Go.Proofs.Ytofhiolmaojihaa.SynG
