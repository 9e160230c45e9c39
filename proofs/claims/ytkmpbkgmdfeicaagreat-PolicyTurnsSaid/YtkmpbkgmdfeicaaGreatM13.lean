/- How many tokens fit, by contract. -/
import Derived.Test.YtkmpbkgmdfeicaaGreatM12
import Derived.Test.YtkmpbkgmdfeicaaGreatM06
import Derived.Deep.QuietTactic
import Derived.BigQuiet
namespace Go.Proofs.YtkmpbkgmdfeicaaGreat.Qry5
set_option linter.unusedVariables false
set_option linter.unusedSimpArgs false
open Go.RowKit Go.Sort Go.Proofs Go.Proofs.YtkmpbkgmdfeicaaGreat.Plain Go.Proofs.YtkmpbkgmdfeicaaGreat.SynP Go.Proofs.YtkmpbkgmdfeicaaGreat.TabP Go.Proofs.YtkmpbkgmdfeicaaGreat.Tab1 Go.Proofs.YtkmpbkgmdfeicaaGreat.Grown Go.Proofs.YtkmpbkgmdfeicaaGreat.SynA Go.Proofs.YtkmpbkgmdfeicaaGreat.SynE Go.Proofs.YtkmpbkgmdfeicaaGreat.QryP Go.Proofs.YtkmpbkgmdfeicaaGreat.Qry4
set_option linter.unusedVariables false
set_option linter.unusedSimpArgs false
theorem cell_block {w : World} {b : Nat} {v : Value} {t : TypeId} (h : w.heap[b]? = some (.cells #[v] t (0, 0))) : w.cell? ⟨b, 0, none⟩ = some v := by rw [Lib.cell_of_heap h]; rfl
set_option maxRecDepth 100000 in
theorem wordFn (s : Str) (b : Nat) (k : Int) (x : ByteArray) (c : Int) (w : World) (h : w.heap[b]? = some (.cells #[.string ⟨s.toArray⟩] 9 (0, 0))) :
    Calls Tryz.prog 208 #[.agg #[.int .i64 k, .string x, .int .i64 c], .pointer (some ⟨b, 0, none⟩)] w fun e w' => e = .returned (.bool (decide (k = 2) && decide (x = ⟨s.toArray⟩))) ∧ Grew w w' := by
  have hc := cell_block h
  have hlt := heap_lt h
  have e := text_eq x ⟨s.toArray⟩
  clear h
  by_cases h2 : k = 2
  · subst h2
    by_cases hx : x = ⟨s.toArray⟩
    · subst hx
      clear e
      go_enter Tryz.func208, Tryz.ntmps208
      go_wp2_with fail
      go_ret
      exact ⟨by simp, (Grew.refl _).alloc _⟩
    · have hne : (x.toList == s) = false := by
        rw [beq_eq_false_iff_ne]
        intro h
        rw [Go.ByteArray.toList_eq] at h
        exact hx (by apply ByteArray.ext; apply Array.ext'; simpa using h)
      rw [decide_eq_false hx]
      clear e hx
      go_enter Tryz.func208, Tryz.ntmps208
      go_wp2_with fail
      go_ret
      exact ⟨by simp [hne], (Grew.refl _).alloc _⟩
  · have hk : (k == 2) = false := by simpa using h2
    rw [decide_eq_false h2]
    clear e h2
    go_enter Tryz.func208, Tryz.ntmps208
    go_wp2_with fail
    go_ret
    exact ⟨by simp, (Grew.refl _).alloc _⟩
set_option maxRecDepth 100000 in
theorem kindFn (q : Int) (b : Nat) (k : Int) (x : ByteArray) (c : Int) (w : World) (h : w.heap[b]? = some (.cells #[.int .i64 q] 3 (0, 0))) :
    Calls Tryz.prog 257 #[.agg #[.int .i64 k, .string x, .int .i64 c], .pointer (some ⟨b, 0, none⟩)] w fun e w' => e = .returned (.bool (decide (k = q))) ∧ Grew w w' := by
  have hc := cell_block h
  have hlt := heap_lt h
  clear h
  by_cases hk : k = q
  · subst hk
    go_enter Tryz.func257, Tryz.ntmps257
    go_wp2_with fail
    go_ret
    exact ⟨by simp, (Grew.refl _).alloc _⟩
  · have hne : (k == q) = false := by simpa using hk
    rw [decide_eq_false hk]
    clear hk
    go_enter Tryz.func257, Tryz.ntmps257
    go_wp2_with fail
    go_ret
    exact ⟨by simp, (Grew.refl _).alloc _⟩
/-- How many tokens, from the first one on, fit. -/
def agreeF : List Tk → List Ft → Nat
  | t :: L, f :: F => if f.fits t then agreeF L F + 1 else 0
  | _, _ => 0
theorem agreeF_le : ∀ (L : List Tk) (F : List Ft), agreeF L F ≤ L.length ∧ agreeF L F ≤ F.length
  | [], _ => by simp [agreeF]
  | _ :: _, [] => by simp [agreeF]
  | t :: L, f :: F => by
    have := agreeF_le L F
    unfold agreeF
    split <;> simp <;> omega
theorem agreeF_yes {L : List Tk} {F : List Ft} {k : Nat} (h1 : k < L.length) (h2 : k < F.length) (h : F[k].fits L[k] = true) : agreeF (L.drop k) (F.drop k) = agreeF (L.drop (k + 1)) (F.drop (k + 1)) + 1 := by
  rw [List.drop_eq_getElem_cons h1, List.drop_eq_getElem_cons h2]
  show (if _ then _ else _) = _
  rw [if_pos h]
theorem agreeF_no {L : List Tk} {F : List Ft} {k : Nat} (h1 : k < L.length) (h2 : k < F.length) (h : F[k].fits L[k] = false) : agreeF (L.drop k) (F.drop k) = 0 := by
  rw [List.drop_eq_getElem_cons h1, List.drop_eq_getElem_cons h2]
  show (if _ then _ else _) = _
  rw [if_neg (by rw [h]; simp)]
theorem agreeF_end {L : List Tk} {F : List Ft} {k : Nat} (h : ¬ (k < L.length ∧ k < F.length)) : agreeF (L.drop k) (F.drop k) = 0 := by
  by_cases h1 : k < L.length
  · have : F.drop k = [] := List.drop_of_length_le (by omega)
    rw [this]
    cases L.drop k <;> rfl
  · have : L.drop k = [] := List.drop_of_length_le (by omega)
    rw [this]; rfl
/-- A slice value that reads as these values. -/
def VRow (w : World) (A : Option Addr) (vs : List Value) : Prop :=
  0 < vs.length → ∃ g o, A = some ⟨g, o, none⟩ ∧ g < w.heap.size ∧ ∀ j, (h : j < vs.length) → w.cell? ⟨g, o + j, none⟩ = some vs[j]
theorem VRow.of_own {w : World} {B : Nat} {e : TypeId} {v : Value} {n : Nat} {vs : List Value} (h : w.ownsRow B e 1 v n vs) : ∃ A cap, v = .slice A n cap ∧ n ≤ cap ∧ VRow w A vs := by
  have hl : vs.length = n := by have := h.1; omega
  rcases h.2 with ⟨rfl, h0⟩ | ⟨g, cap, cur, rfl, hB, hh, hc, hm, hs, ht⟩
  · exact ⟨none, 0, by rw [h0], by omega, fun hp => by omega⟩
  · refine ⟨_, _, rfl, hc, fun hp => ⟨g, 0, rfl, (h.lt g rfl).2, fun j hj => ?_⟩⟩
    have e1 : (cur.toList.take (n * 1))[j]? = some vs[j] := by rw [ht]; exact List.getElem?_eq_getElem hj
    rw [List.getElem?_take_of_lt (by omega)] at e1
    rw [Lib.cell_of_heap hh, Nat.zero_add, ← Array.getElem?_toList]
    exact e1
theorem VRow.below {w w' : World} {A : Option Addr} {vs : List Value} (h : VRow w A vs) (hb : Below w.heap.size w w') : VRow w' A vs := fun hp => by
  obtain ⟨g, o, hA, hg, hc⟩ := h hp
  exact ⟨g, o, hA, Nat.lt_of_lt_of_le hg hb.size, fun j hj => (hb.cell (p := ⟨g, o + j, none⟩) hg).trans (hc j hj)⟩
/-- What follows where the k-th token fits, and where it doesn't. -/
theorem fits_word {t : Tk} {s : Str} : Ft.fits t (.word s) = (decide (t.kind = 2) && decide (t.text = ⟨s.toArray⟩)) := rfl
set_option maxHeartbeats 2000000 in
set_option maxRecDepth 100000 in
theorem agree (A : Option Addr) (ca : Nat) (L : List Tk) (V : Option Addr) (cv : Nat) (vs : List Value) (F : List Ft) (w : World) (hL : L.length ≤ 1000) (hF : F.length ≤ 1000) (hA : TkAt w A L) (hV : VRow w V vs) (hfn : FnsAt w vs F) :
    Calls Tryz.prog 151 #[.slice A L.length ca, .slice V F.length cv] w fun e w' => e = .returned (.int .i64 (agreeF L F)) ∧ Grew w w' := by
  have hm : Tryz.prog.follows .mixedOrders = true := by kernel_rfl
  have HA := Lib.hid hA
  have HV := Lib.hid hV
  have HF := Lib.hid hfn
  have hvl := hfn.1
  have HFL := Lib.hid hvl
  clear hA hV hfn hvl
  go_enter Tryz.func151, Tryz.ntmps151
  go_wp2_with fail
  go_loopw [5] (fun i wr => ∃ (k m : Nat) (os : Array Obj), k ≤ L.length ∧ k ≤ F.length ∧ i = .int .i64 k ∧ Hid (agreeF L F = agreeF (L.drop k) (F.drop k) + k) ∧ wr = grow (w.drewN m) os) (fun i _ => L.length - (intOf i).toNat)
  case atStart => exact ⟨0, 0, #[], by omega, by omega, rfl, Lib.hid (by simp), by rw [grow_empty]; rfl⟩
  case round =>
    obtain ⟨k, m, os, hk, hk2, rfl, hrun, rfl⟩ := hrel
    have hG := Grew.mk w m os
    have HGm := Lib.hid (⟨m, os, rfl⟩ : ∃ m' os', grow (w.drewN m) os = grow (w.drewN m') os')
    have HGG := Lib.hid hG
    have hbW := hG.below
    clear hG
    generalize grow (w.drewN m) os = W at *
    by_cases hlt : k < L.length
    · have d1 : decide ((k : Int) < L.length) = true := by simp; omega
      by_cases hlt2 : k < F.length
      · have d2 : decide ((k : Int) < F.length) = true := by simp; omega
        have hkv : k < vs.length := by rw [HFL.out]; exact hlt2
        obtain ⟨g1, o1, rfl, hg1, h1⟩ := (HA.out.below hbW) (by omega)
        obtain ⟨g2, o2, rfl, hg2, h2⟩ := (HV.out.below hbW) (by omega)
        obtain ⟨a0, a1, a2⟩ := h1 k hlt
        have b0 := h2 k hkv
        have hfk := (HF.out.keep (keep_below hbW)).2 k (vs[k]'hkv) F[k] (List.getElem?_eq_getElem hkv) (List.getElem?_eq_getElem hlt2)
        have p1 : (0 : Int) ≤ k := by omega
        have p2 : (k : Int) < L.length := by omega
        have p3 : (k : Int) < F.length := by omega
        have HY := Lib.hid (fun h => agreeF_yes hlt hlt2 h)
        have HN := Lib.hid (fun h => agreeF_no hlt hlt2 h)
        clear h1 h2
        generalize F[k] = f at hfk HY HN
        generalize vs[k]'hkv = u at b0 hfk
        clear hkv
        cases f with
        | word s =>
          obtain ⟨b, hb, rfl⟩ := hfk
          have hbl := heap_lt hb
          have H := Lib.hid (fun (n : Nat) (os : Array Obj) => wordFn s b L[k].kind L[k].text L[k].col (grow (W.drewN n) os) (by rw [heap_grow_old _ _ (by exact hbl)]; exact hb))
          cases hv : Ft.fits L[k] (.word s)
          · have hv' := hv
            rw [fits_word] at hv'
            rw [hv'] at H
            have hfin : Hid (agreeF L F = k) := Lib.hid (by rw [hrun.out, HN.out hv]; omega)
            clear hv hv' hrun HY HN hb
            go_wp2_with fail
            have gC := grow_cell
            go_quiet_grown ((go_at_call 208; exact grewCall (H.out _ _)))
            clear gC
            go_wp2_with fail
            go_ret
            obtain ⟨m', os', hGm⟩ := HGm.out
            exact ⟨by rw [hfin.out]; rfl, HGG.out.trans (Grew.mk W nq osq)⟩
          · have hv' := hv
            rw [fits_word] at hv'
            rw [hv'] at H
            have hnext : Hid (agreeF L F = agreeF (L.drop (k + 1)) (F.drop (k + 1)) + (k + 1)) := Lib.hid (by rw [hrun.out, HY.out hv]; omega)
            clear hv hv' hrun HY HN hb
            go_wp2_with fail
            have gC := grow_cell
            go_quiet_grown ((go_at_call 208; exact grewCall (H.out _ _)))
            clear gC
            go_wp2_with fail
            go_roundw
            case rel =>
              obtain ⟨m', os', hGm⟩ := HGm.out
              exact ⟨k + 1, m' + nq, os' ++ osq, by omega, by omega, by go_num, hnext, by rw [hGm]; show grow (grow ((w.drewN m').drewN nq) os') osq = _; rw [grow_grow, World.drewN_drewN]⟩
            case measure => simp [intOf]; omega
        | kind q =>
          obtain ⟨b, hb, rfl⟩ := hfk
          have hbl := heap_lt hb
          have H := Lib.hid (fun (n : Nat) (os : Array Obj) => kindFn q b L[k].kind L[k].text L[k].col (grow (W.drewN n) os) (by rw [heap_grow_old _ _ (by exact hbl)]; exact hb))
          cases hv : Ft.fits L[k] (.kind q)
          · have hv' : decide (L[k].kind = q) = false := hv
            rw [hv'] at H
            have hfin : Hid (agreeF L F = k) := Lib.hid (by rw [hrun.out, HN.out hv]; omega)
            clear hv hv' hrun HY HN hb
            go_wp2_with fail
            have gC := grow_cell
            go_quiet_grown ((go_at_call 257; exact grewCall (H.out _ _)))
            clear gC
            go_wp2_with fail
            go_ret
            exact ⟨by rw [hfin.out]; rfl, HGG.out.trans (Grew.mk W nq osq)⟩
          · have hv' : decide (L[k].kind = q) = true := hv
            rw [hv'] at H
            have hnext : Hid (agreeF L F = agreeF (L.drop (k + 1)) (F.drop (k + 1)) + (k + 1)) := Lib.hid (by rw [hrun.out, HY.out hv]; omega)
            clear hv hv' hrun HY HN hb
            go_wp2_with fail
            have gC := grow_cell
            go_quiet_grown ((go_at_call 257; exact grewCall (H.out _ _)))
            clear gC
            go_wp2_with fail
            go_roundw
            case rel =>
              obtain ⟨m', os', hGm⟩ := HGm.out
              exact ⟨k + 1, m' + nq, os' ++ osq, by omega, by omega, by go_num, hnext, by rw [hGm]; show grow (grow ((w.drewN m').drewN nq) os') osq = _; rw [grow_grow, World.drewN_drewN]⟩
            case measure => simp [intOf]; omega
      · have d2 : decide ((k : Int) < F.length) = false := by simp; omega
        have hfin : Hid (agreeF L F = k) := Lib.hid (by rw [hrun.out, agreeF_end (fun h => hlt2 h.2)]; omega)
        clear hrun
        go_wp2_with fail
        go_quiet (fail)
        go_wp2_with fail
        go_ret
        exact ⟨by rw [hfin.out]; rfl, HGG.out.drewN _⟩
    · have d1 : decide ((k : Int) < L.length) = false := by simp; omega
      have hfin : Hid (agreeF L F = k) := Lib.hid (by rw [hrun.out, agreeF_end (fun h => hlt h.1)]; omega)
      clear hrun
      go_wp2_with fail
      go_quiet (fail)
      go_wp2_with fail
      go_ret
      exact ⟨by rw [hfin.out]; rfl, HGG.out.drewN _⟩
end Go.Proofs.YtkmpbkgmdfeicaaGreat.Qry5
/- Rows of one-cell values put one behind the other: slices.Grow, slices.Concat, at texts and at functions. -/
namespace Go.Proofs.YtkmpbkgmdfeicaaGreat.QryG
set_option linter.unusedVariables false
set_option linter.unusedSimpArgs false
open Go.RowKit Go.Sort Go.Proofs.YtkmpbkgmdfeicaaGreat.Plain Go.Proofs.YtkmpbkgmdfeicaaGreat.SynP Go.Proofs.YtkmpbkgmdfeicaaGreat.Grown Go.Proofs.YtkmpbkgmdfeicaaGreat.SynA Go.Proofs.YtkmpbkgmdfeicaaGreat.SynC Go.Proofs.YtkmpbkgmdfeicaaGreat.Qry4 Go.Proofs.YtkmpbkgmdfeicaaGreat.Qry5
set_option linter.unusedVariables false
theorem infoStr1 : (Tryz.prog.info? 9).map (fun i => (i.zero, i.size, i.bytes)) = some (some (.string ⟨#[]⟩), 1, 16) := by kernel_rfl
/-- A slice value, its room, and the values as which it reads. -/
structure RowV where
  A : Option Addr
  c : Nat
  l : List Value
/-- The values of the first rows. -/
def flatTo (R : List RowV) (k : Nat) : List Value := ((R.take k).map RowV.l).flatten
theorem flatTo_succ {R : List RowV} {k : Nat} (h : k < R.length) : flatTo R (k + 1) = flatTo R k ++ R[k].l := by
  unfold flatTo
  rw [List.take_succ_eq_append_getElem h, List.map_append, List.flatten_append, List.map_singleton, List.flatten_singleton]
theorem flatTo_len {R : List RowV} (h : ∀ r ∈ R, r.l.length ≤ 1000) : ∀ k, (flatTo R k).length ≤ k * 1000 := by
  intro k
  induction k with
  | zero => simp [flatTo]
  | succ k ih =>
    rcases Nat.lt_or_ge k R.length with hk | hk
    · rw [flatTo_succ hk, List.length_append]
      have h1 := h R[k] (List.getElem_mem _)
      rw [Nat.succ_mul]
      exact Nat.add_le_add ih h1
    · have : flatTo R (k + 1) = flatTo R k := by unfold flatTo; rw [List.take_of_length_le (by omega), List.take_of_length_le (by omega)]
      rw [this, Nat.succ_mul]
      exact Nat.le_add_right_of_le ih
theorem vrow_none {w : World} {l : List Value} (h : VRow w none l) : l.length = 0 := by
  rcases Nat.eq_zero_or_pos l.length with h0 | h0
  · exact h0
  · obtain ⟨_, _, e, _⟩ := h h0; cases e
theorem vrow_cells {w : World} {A : Option Addr} {l : List Value} (h : VRow w A l) : ∀ ad, A = some ad → ∀ j u, l[j]? = some u → w.cell? (ad.add j) = some u := by
  rintro ad rfl j u hu
  have hj : j < l.length := (List.getElem?_eq_some_iff.1 hu).1
  obtain ⟨g, o, e, _, hc⟩ := h (by omega)
  injection e with e
  subst e
  rw [add_off, hc j hj, ← hu, List.getElem?_eq_getElem hj]
theorem vrow_new (w : World) (l : List Value) (t : TypeId) : VRow (w.alloc (.cells l.toArray t)) (some ⟨w.heap.size, 0, none⟩) l := fun _ =>
  ⟨w.heap.size, 0, rfl, by simp, fun k hk => by
    rw [Lib.cell_of_heap (heap_alloc_new w _), Nat.zero_add]
    simp [hk]⟩
theorem VRow.alloc {w : World} {A : Option Addr} {l : List Value} (h : VRow w A l) (o : Obj) : VRow (w.alloc o) A l := h.below ((Below.refl _ _).alloc (Nat.le_refl _) o)
/-- A row of the call's own that holds these. -/
def VPostFit (l : List Value) (w : World) (e : Ending) (w' : World) : Prop := ∃ v, e = .returned v ∧ w'.ownsRow w.heap.size 199 1 v l.length l ∧ Below w.heap.size w w'
set_option maxRecDepth 100000 in
theorem growFit (n : Nat) (w : World) (hn : n ≤ 1000000) : Calls Tryz.prog 258 #[.slice none 0 0, .int .i64 n] w (VPostFit [] w) := by
  obtain ⟨i0, hi, hz0, hz1, hz2⟩ := info_parts infoFit
  by_cases h0 : 0 < n
  · have hz : 0 < i0.size := by rw [hz1]; omega
    have hby : n * i0.bytes ≤ 281474976710656 := by rw [hz2]; omega
    have hrun := Lib.run_append_nil_zeros (P := Tryz.prog) w 156 3 156 199 i0 .nilFunc .i64 .i64 Tryz.underlying156 Tryz.underlying3 hi hz0 n h0 hz (by omega) hby
    have hg := grownCap_ge w n 0 199
    have hm := grownCap_le_maxLen w n 0 199 (by unfold maxLen; omega)
    have hm' := hm
    have hsz : (Builtin.zeroCells (.nilFunc : Value).cells n ++ Builtin.zeroCells (.nilFunc : Value).cells (grownCap w n 0 199 - n)).size = grownCap w n 0 199 * 1 := by
      rw [Array.size_append, size_zeroCells, size_zeroCells]
      show n * 1 + (grownCap w n 0 199 - n) * 1 = _
      omega
    generalize Builtin.zeroCells (.nilFunc : Value).cells n ++ Builtin.zeroCells (.nilFunc : Value).cells (grownCap w n 0 199 - n) = cells at *
    generalize grownCap w n 0 199 = gc at *
    have Hsz := Lib.hid hsz
    have Hm := Lib.hid hm'
    have Hrun := Lib.hid hrun
    clear hsz hz hby hm' hrun
    unfold maxLen at hm
    go_enter Tryz.func258, Tryz.ntmps258
    go_wp2_with (refine Lib.wpList_append_run (P := Tryz.prog) (o := ⟨some 22, _, _, _, _, _⟩) w rfl (.tmp 20) (.tmp 21) 156 3 rfl (.slice none 0 0) (.int .i64 n) ?hs ?hx (.slice (some ⟨w.heap.size, 0, none⟩) n gc) (w.drew.alloc (.cells cells 199)) (by exact Hrun.out) ?_)
    case hs => rfl
    case hx => rfl
    go_wp2
    go_ret
    exact ⟨_, rfl, World.ownsRow_made w.drew cells gc (Nat.le_refl _) Hm.out Hsz.out, (Below.refl _ _).drew.alloc (Nat.le_refl _) _⟩
  · have : n = 0 := by omega
    subst this
    go_enter Tryz.func258, Tryz.ntmps258
    go_wp2
    go_ret
    exact ⟨_, rfl, World.ownsRow_nil _ _ _ _, Below.refl _ _⟩
set_option maxHeartbeats 800000 in
set_option maxRecDepth 100000 in
theorem concatFit (b cap : Nat) (R : List RowV) (w : World) (hR : R.length ≤ 100) (hl : ∀ r ∈ R, r.l.length ≤ 1000) (hb : b < w.heap.size) (hc : ∀ j, (h : j < R.length) → w.cell? ⟨b, j, none⟩ = some (.slice R[j].A R[j].l.length R[j].c)) (hr : ∀ r ∈ R, VRow w r.A r.l) (ho : ∀ r ∈ R, ∀ u ∈ r.l, u.oneCell' = true) :
    Calls Tryz.prog 250 #[.slice (some ⟨b, 0, none⟩) R.length cap] w (VPostFit (flatTo R R.length) w) := by
  obtain ⟨i0, hi, hz0, hz1, hz2⟩ := info_parts infoFit
  have HC := Lib.hid hc
  have HR := Lib.hid hr
  have HL := Lib.hid (flatTo_len hl)
  have Hl := Lib.hid hl
  have HO := Lib.hid ho
  clear hc hr hl ho
  go_enter Tryz.func250, Tryz.ntmps250
  go_wp2_with fail
  go_loop [3, 11] (fun s i => ∃ k : Nat, k ≤ R.length ∧ i = .int .i64 k ∧ s = .int .i64 ((flatTo R k).length : Nat)) (fun _ i => R.length - (intOf i).toNat)
  case atStart => exact ⟨0, by omega, rfl, by simp [flatTo]⟩
  case round =>
    obtain ⟨k, hk, rfl, rfl⟩ := hrel
    have b1 := HL.out k
    by_cases hlt : k < R.length
    · have hcell := HC.out k hlt
      have b2 := Hl.out R[k] (List.getElem_mem _)
      have hs := flatTo_succ hlt
      have Hs : Hid (((flatTo R k).length : Int) + (R[k].l.length : Int) = ((flatTo R (k + 1)).length : Nat)) := Lib.hid (by rw [hs, List.length_append]; omega)
      clear hs
      go_wp2_with fail
      go_round
      case rel => exact ⟨k + 1, by omega, by go_num, by rw [← Hs.out]⟩
      case measure => simp [intOf]; omega
    · have hkR : k = R.length := by omega
      subst hkR
      go_wp2_with fail
      refine (growFit (flatTo R R.length).length w (by omega)).mono ?_
      rintro e w1 ⟨v1, rfl, hown1, hbel1⟩
      go_wp2_with fail
      go_loopw [6, 27] (fun v i wr => ∃ k : Nat, k ≤ R.length ∧ i = .int .i64 k ∧ Below w.heap.size w wr ∧ wr.ownsRow w.heap.size 199 1 v (flatTo R k).length (flatTo R k)) (fun _ i _ => R.length - (intOf i).toNat)
      case atStart => exact ⟨0, by omega, rfl, hbel1, by simpa [flatTo] using hown1⟩
      case round =>
        obtain ⟨k, hk, rfl, hbel, hown⟩ := hrel
        clear hown1 hbel1
        by_cases hlt : k < R.length
        · have d1 := (hbel.cell (p := ⟨b, k, none⟩) hb).trans (HC.out k hlt)
          have hrow := (HR.out R[k] (List.getElem_mem _)).below hbel
          have b2 := Hl.out R[k] (List.getElem_mem _)
          have b3 := HL.out k
          have H0 := Lib.hid (fun h : R[k].A = none => by rw [h] at hrow; exact vrow_none hrow)
          have H1 := Lib.hid (vrow_cells hrow)
          have Hs := Lib.hid (flatTo_succ hlt)
          clear hrow
          go_wp2_with (at_builtin; refine wpList_append_from _ rfl _ _ 156 rfl w.heap.size 199 i0 .nilFunc 1 8 Tryz.underlying156 hi hz0 hz1 hz2 rfl (by decide) _ _ _ rfl hown R[k].A R[k].l.length R[k].c R[k].l rfl (by omega) H0.out H1.out (HO.out R[k] (List.getElem_mem _)) (by unfold maxLen; omega) (by omega) hbel.size ?_)
          intro v2 w2 hown2 hgrow
          have hbel2 := hbel.grown hgrow hbel.size (fun k hk => (hown.lt k hk).1)
          have hown3 : w2.ownsRow w.heap.size 199 1 v2 (flatTo R (k + 1)).length (flatTo R (k + 1)) := by
            rw [Hs.out, List.length_append]; exact hown2
          clear hown hbel hgrow hown2
          go_wp2_with fail
          go_roundw
          case rel => exact ⟨k + 1, by omega, by go_num, hbel2, hown3⟩
          case measure => simp [intOf]; omega
        · have hkR : k = R.length := by omega
          subst hkR
          go_wp2_with fail
          go_ret
          exact ⟨_, rfl, hown, hbel⟩
/-- A row of the call's own that holds these. -/
def VPostStr (l : List Value) (w : World) (e : Ending) (w' : World) : Prop := ∃ v, e = .returned v ∧ w'.ownsRow w.heap.size 9 1 v l.length l ∧ Below w.heap.size w w'
set_option maxRecDepth 100000 in
theorem growStr (n : Nat) (w : World) (hn : n ≤ 1000000) : Calls Tryz.prog 135 #[.slice none 0 0, .int .i64 n] w (VPostStr [] w) := by
  obtain ⟨i0, hi, hz0, hz1, hz2⟩ := info_parts infoStr1
  by_cases h0 : 0 < n
  · have hz : 0 < i0.size := by rw [hz1]; omega
    have hby : n * i0.bytes ≤ 281474976710656 := by rw [hz2]; omega
    have hrun := Lib.run_append_nil_zeros (P := Tryz.prog) w 33 3 33 9 i0 (.string ⟨#[]⟩) .i64 .i64 Tryz.underlying33 Tryz.underlying3 hi hz0 n h0 hz (by omega) hby
    have hg := grownCap_ge w n 0 9
    have hm := grownCap_le_maxLen w n 0 9 (by unfold maxLen; omega)
    have hm' := hm
    have hsz : (Builtin.zeroCells ((.string ⟨#[]⟩) : Value).cells n ++ Builtin.zeroCells ((.string ⟨#[]⟩) : Value).cells (grownCap w n 0 9 - n)).size = grownCap w n 0 9 * 1 := by
      rw [Array.size_append, size_zeroCells, size_zeroCells]
      show n * 1 + (grownCap w n 0 9 - n) * 1 = _
      omega
    generalize Builtin.zeroCells ((.string ⟨#[]⟩) : Value).cells n ++ Builtin.zeroCells ((.string ⟨#[]⟩) : Value).cells (grownCap w n 0 9 - n) = cells at *
    generalize grownCap w n 0 9 = gc at *
    have Hsz := Lib.hid hsz
    have Hm := Lib.hid hm'
    have Hrun := Lib.hid hrun
    clear hsz hz hby hm' hrun
    unfold maxLen at hm
    go_enter Tryz.func135, Tryz.ntmps135
    go_wp2_with (refine Lib.wpList_append_run (P := Tryz.prog) (o := ⟨some 22, _, _, _, _, _⟩) w rfl (.tmp 20) (.tmp 21) 33 3 rfl (.slice none 0 0) (.int .i64 n) ?hs ?hx (.slice (some ⟨w.heap.size, 0, none⟩) n gc) (w.drew.alloc (.cells cells 9)) (by exact Hrun.out) ?_)
    case hs => rfl
    case hx => rfl
    go_wp2
    go_ret
    exact ⟨_, rfl, World.ownsRow_made w.drew cells gc (Nat.le_refl _) Hm.out Hsz.out, (Below.refl _ _).drew.alloc (Nat.le_refl _) _⟩
  · have : n = 0 := by omega
    subst this
    go_enter Tryz.func135, Tryz.ntmps135
    go_wp2
    go_ret
    exact ⟨_, rfl, World.ownsRow_nil _ _ _ _, Below.refl _ _⟩
set_option maxHeartbeats 800000 in
set_option maxRecDepth 100000 in
theorem concatStr (b cap : Nat) (R : List RowV) (w : World) (hR : R.length ≤ 100) (hl : ∀ r ∈ R, r.l.length ≤ 1000) (hb : b < w.heap.size) (hc : ∀ j, (h : j < R.length) → w.cell? ⟨b, j, none⟩ = some (.slice R[j].A R[j].l.length R[j].c)) (hr : ∀ r ∈ R, VRow w r.A r.l) (ho : ∀ r ∈ R, ∀ u ∈ r.l, u.oneCell' = true) :
    Calls Tryz.prog 85 #[.slice (some ⟨b, 0, none⟩) R.length cap] w (VPostStr (flatTo R R.length) w) := by
  obtain ⟨i0, hi, hz0, hz1, hz2⟩ := info_parts infoStr1
  have HC := Lib.hid hc
  have HR := Lib.hid hr
  have HL := Lib.hid (flatTo_len hl)
  have Hl := Lib.hid hl
  have HO := Lib.hid ho
  clear hc hr hl ho
  go_enter Tryz.func85, Tryz.ntmps85
  go_wp2_with fail
  go_loop [3, 11] (fun s i => ∃ k : Nat, k ≤ R.length ∧ i = .int .i64 k ∧ s = .int .i64 ((flatTo R k).length : Nat)) (fun _ i => R.length - (intOf i).toNat)
  case atStart => exact ⟨0, by omega, rfl, by simp [flatTo]⟩
  case round =>
    obtain ⟨k, hk, rfl, rfl⟩ := hrel
    have b1 := HL.out k
    by_cases hlt : k < R.length
    · have hcell := HC.out k hlt
      have b2 := Hl.out R[k] (List.getElem_mem _)
      have hs := flatTo_succ hlt
      have Hs : Hid (((flatTo R k).length : Int) + (R[k].l.length : Int) = ((flatTo R (k + 1)).length : Nat)) := Lib.hid (by rw [hs, List.length_append]; omega)
      clear hs
      go_wp2_with fail
      go_round
      case rel => exact ⟨k + 1, by omega, by go_num, by rw [← Hs.out]⟩
      case measure => simp [intOf]; omega
    · have hkR : k = R.length := by omega
      subst hkR
      go_wp2_with fail
      refine (growStr (flatTo R R.length).length w (by omega)).mono ?_
      rintro e w1 ⟨v1, rfl, hown1, hbel1⟩
      go_wp2_with fail
      go_loopw [6, 27] (fun v i wr => ∃ k : Nat, k ≤ R.length ∧ i = .int .i64 k ∧ Below w.heap.size w wr ∧ wr.ownsRow w.heap.size 9 1 v (flatTo R k).length (flatTo R k)) (fun _ i _ => R.length - (intOf i).toNat)
      case atStart => exact ⟨0, by omega, rfl, hbel1, by simpa [flatTo] using hown1⟩
      case round =>
        obtain ⟨k, hk, rfl, hbel, hown⟩ := hrel
        clear hown1 hbel1
        by_cases hlt : k < R.length
        · have d1 := (hbel.cell (p := ⟨b, k, none⟩) hb).trans (HC.out k hlt)
          have hrow := (HR.out R[k] (List.getElem_mem _)).below hbel
          have b2 := Hl.out R[k] (List.getElem_mem _)
          have b3 := HL.out k
          have H0 := Lib.hid (fun h : R[k].A = none => by rw [h] at hrow; exact vrow_none hrow)
          have H1 := Lib.hid (vrow_cells hrow)
          have Hs := Lib.hid (flatTo_succ hlt)
          clear hrow
          go_wp2_with (at_builtin; refine wpList_append_from _ rfl _ _ 33 rfl w.heap.size 9 i0 (.string ⟨#[]⟩) 1 16 Tryz.underlying33 hi hz0 hz1 hz2 rfl (by decide) _ _ _ rfl hown R[k].A R[k].l.length R[k].c R[k].l rfl (by omega) H0.out H1.out (HO.out R[k] (List.getElem_mem _)) (by unfold maxLen; omega) (by omega) hbel.size ?_)
          intro v2 w2 hown2 hgrow
          have hbel2 := hbel.grown hgrow hbel.size (fun k hk => (hown.lt k hk).1)
          have hown3 : w2.ownsRow w.heap.size 9 1 v2 (flatTo R (k + 1)).length (flatTo R (k + 1)) := by
            rw [Hs.out, List.length_append]; exact hown2
          clear hown hbel hgrow hown2
          go_wp2_with fail
          go_roundw
          case rel => exact ⟨k + 1, by omega, by go_num, hbel2, hown3⟩
          case measure => simp [intOf]; omega
        · have hkR : k = R.length := by omega
          subst hkR
          go_wp2_with fail
          go_ret
          exact ⟨_, rfl, hown, hbel⟩
end Go.Proofs.YtkmpbkgmdfeicaaGreat.QryG
