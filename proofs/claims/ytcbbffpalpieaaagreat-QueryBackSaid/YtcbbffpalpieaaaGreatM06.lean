/- How many tokens fit, by contract. -/
import Derived.Test.YtcbbffpalpieaaaGreatM04
import Derived.Test.YtcbbffpalpieaaaGreatM05
import Derived.Deep.QuietTactic
import Derived.BigQuiet
namespace Go.Proofs.YtcbbffpalpieaaaGreat.Qry5
set_option linter.unusedVariables false
set_option linter.unusedSimpArgs false
open Go.RowKit Go.Sort Go.Proofs Go.Proofs.YtcbbffpalpieaaaGreat.Plain Go.Proofs.YtcbbffpalpieaaaGreat.SynP Go.Proofs.YtcbbffpalpieaaaGreat.TabP Go.Proofs.YtcbbffpalpieaaaGreat.Tab1 Go.Proofs.YtcbbffpalpieaaaGreat.Grown Go.Proofs.YtcbbffpalpieaaaGreat.SynA Go.Proofs.YtcbbffpalpieaaaGreat.SynE Go.Proofs.YtcbbffpalpieaaaGreat.QryP Go.Proofs.YtcbbffpalpieaaaGreat.Qry4
set_option linter.unusedVariables false
set_option linter.unusedSimpArgs false
theorem cell_block {w : World} {b : Nat} {v : Value} {t : TypeId} (h : w.heap[b]? = some (.cells #[v] t (0, 0))) : w.cell? ⟨b, 0, none⟩ = some v := by rw [Lib.cell_of_heap h]; rfl
set_option maxRecDepth 100000 in
theorem wordFn (s : Str) (b : Nat) (k : Int) (x : ByteArray) (c : Int) (w : World) (h : w.heap[b]? = some (.cells #[.string ⟨s.toArray⟩] 9 (0, 0))) :
    Calls Tryz.prog 72 #[.agg #[.int .i64 k, .string x, .int .i64 c], .pointer (some ⟨b, 0, none⟩)] w fun e w' => e = .returned (.bool (decide (k = 2) && decide (x = ⟨s.toArray⟩))) ∧ Grew w w' := by
  have hc := cell_block h
  have hlt := heap_lt h
  have e := text_eq x ⟨s.toArray⟩
  clear h
  by_cases h2 : k = 2
  · subst h2
    by_cases hx : x = ⟨s.toArray⟩
    · subst hx
      clear e
      go_enter Tryz.func72, Tryz.ntmps72
      go_wp2_with fail
      go_ret
      exact ⟨by simp, (Grew.refl _).alloc _⟩
    · have hne : (x.toList == s) = false := by
        rw [beq_eq_false_iff_ne]
        intro h
        rw [Go.ByteArray.toList_eq] at h
        exact hx (by apply ByteArray.ext; apply Array.ext'; simpa using h)
      rw [decide_eq_false hx]
      clear e hx
      go_enter Tryz.func72, Tryz.ntmps72
      go_wp2_with fail
      go_ret
      exact ⟨by simp [hne], (Grew.refl _).alloc _⟩
  · have hk : (k == 2) = false := by simpa using h2
    rw [decide_eq_false h2]
    clear e h2
    go_enter Tryz.func72, Tryz.ntmps72
    go_wp2_with fail
    go_ret
    exact ⟨by simp, (Grew.refl _).alloc _⟩
set_option maxRecDepth 100000 in
theorem kindFn (q : Int) (b : Nat) (k : Int) (x : ByteArray) (c : Int) (w : World) (h : w.heap[b]? = some (.cells #[.int .i64 q] 3 (0, 0))) :
    Calls Tryz.prog 101 #[.agg #[.int .i64 k, .string x, .int .i64 c], .pointer (some ⟨b, 0, none⟩)] w fun e w' => e = .returned (.bool (decide (k = q))) ∧ Grew w w' := by
  have hc := cell_block h
  have hlt := heap_lt h
  clear h
  by_cases hk : k = q
  · subst hk
    go_enter Tryz.func101, Tryz.ntmps101
    go_wp2_with fail
    go_ret
    exact ⟨by simp, (Grew.refl _).alloc _⟩
  · have hne : (k == q) = false := by simpa using hk
    rw [decide_eq_false hk]
    clear hk
    go_enter Tryz.func101, Tryz.ntmps101
    go_wp2_with fail
    go_ret
    exact ⟨by simp, (Grew.refl _).alloc _⟩
/-- How many tokens, from the first one on, fit. -/
def agreeF : List Tk → List Ft → Nat
  | t :: L, f :: F => if f.fits t then agreeF L F + 1 else 0
  | _, _ => 0
theorem agreeF_le : ∀ (L : List Tk) (F : List Ft), agreeF L F ≤ L.length ∧ agreeF L F ≤ F.length
  | [], _ => by simp [agreeF]
  | _ :: _, [] => by simp [agreeF]
  | t :: L, f :: F => by
    have := agreeF_le L F
    unfold agreeF
    split <;> simp <;> omega
theorem agreeF_yes {L : List Tk} {F : List Ft} {k : Nat} (h1 : k < L.length) (h2 : k < F.length) (h : F[k].fits L[k] = true) : agreeF (L.drop k) (F.drop k) = agreeF (L.drop (k + 1)) (F.drop (k + 1)) + 1 := by
  rw [List.drop_eq_getElem_cons h1, List.drop_eq_getElem_cons h2]
  show (if _ then _ else _) = _
  rw [if_pos h]
theorem agreeF_no {L : List Tk} {F : List Ft} {k : Nat} (h1 : k < L.length) (h2 : k < F.length) (h : F[k].fits L[k] = false) : agreeF (L.drop k) (F.drop k) = 0 := by
  rw [List.drop_eq_getElem_cons h1, List.drop_eq_getElem_cons h2]
  show (if _ then _ else _) = _
  rw [if_neg (by rw [h]; simp)]
theorem agreeF_end {L : List Tk} {F : List Ft} {k : Nat} (h : ¬ (k < L.length ∧ k < F.length)) : agreeF (L.drop k) (F.drop k) = 0 := by
  by_cases h1 : k < L.length
  · have : F.drop k = [] := List.drop_of_length_le (by omega)
    rw [this]
    cases L.drop k <;> rfl
  · have : L.drop k = [] := List.drop_of_length_le (by omega)
    rw [this]; rfl
/-- A slice value that reads as these values. -/
def VRow (w : World) (A : Option Addr) (vs : List Value) : Prop :=
  0 < vs.length → ∃ g o, A = some ⟨g, o, none⟩ ∧ g < w.heap.size ∧ ∀ j, (h : j < vs.length) → w.cell? ⟨g, o + j, none⟩ = some vs[j]
theorem VRow.of_own {w : World} {B : Nat} {e : TypeId} {v : Value} {n : Nat} {vs : List Value} (h : w.ownsRow B e 1 v n vs) : ∃ A cap, v = .slice A n cap ∧ n ≤ cap ∧ VRow w A vs := by
  have hl : vs.length = n := by have := h.1; omega
  rcases h.2 with ⟨rfl, h0⟩ | ⟨g, cap, cur, rfl, hB, hh, hc, hm, hs, ht⟩
  · exact ⟨none, 0, by rw [h0], by omega, fun hp => by omega⟩
  · refine ⟨_, _, rfl, hc, fun hp => ⟨g, 0, rfl, (h.lt g rfl).2, fun j hj => ?_⟩⟩
    have e1 : (cur.toList.take (n * 1))[j]? = some vs[j] := by rw [ht]; exact List.getElem?_eq_getElem hj
    rw [List.getElem?_take_of_lt (by omega)] at e1
    rw [Lib.cell_of_heap hh, Nat.zero_add, ← Array.getElem?_toList]
    exact e1
theorem VRow.below {w w' : World} {A : Option Addr} {vs : List Value} (h : VRow w A vs) (hb : Below w.heap.size w w') : VRow w' A vs := fun hp => by
  obtain ⟨g, o, hA, hg, hc⟩ := h hp
  exact ⟨g, o, hA, Nat.lt_of_lt_of_le hg hb.size, fun j hj => (hb.cell (p := ⟨g, o + j, none⟩) hg).trans (hc j hj)⟩
/-- What follows where the k-th token fits, and where it doesn't. -/
theorem fits_word {t : Tk} {s : Str} : Ft.fits t (.word s) = (decide (t.kind = 2) && decide (t.text = ⟨s.toArray⟩)) := rfl
set_option maxHeartbeats 2000000 in
set_option maxRecDepth 100000 in
theorem agree (A : Option Addr) (ca : Nat) (L : List Tk) (V : Option Addr) (cv : Nat) (vs : List Value) (F : List Ft) (w : World) (hL : L.length ≤ 1000) (hF : F.length ≤ 1000) (hA : TkAt w A L) (hV : VRow w V vs) (hfn : FnsAt w vs F) :
    Calls Tryz.prog 49 #[.slice A L.length ca, .slice V F.length cv] w fun e w' => e = .returned (.int .i64 (agreeF L F)) ∧ Grew w w' := by
  have hm : Tryz.prog.follows .mixedOrders = true := by kernel_rfl
  have HA := Lib.hid hA
  have HV := Lib.hid hV
  have HF := Lib.hid hfn
  have hvl := hfn.1
  have HFL := Lib.hid hvl
  clear hA hV hfn hvl
  go_enter Tryz.func49, Tryz.ntmps49
  go_wp2_with fail
  go_loopw [5] (fun i wr => ∃ (k m : Nat) (os : Array Obj), k ≤ L.length ∧ k ≤ F.length ∧ i = .int .i64 k ∧ Hid (agreeF L F = agreeF (L.drop k) (F.drop k) + k) ∧ wr = grow (w.drewN m) os) (fun i _ => L.length - (intOf i).toNat)
  case atStart => exact ⟨0, 0, #[], by omega, by omega, rfl, Lib.hid (by simp), by rw [grow_empty]; rfl⟩
  case round =>
    obtain ⟨k, m, os, hk, hk2, rfl, hrun, rfl⟩ := hrel
    have hG := Grew.mk w m os
    have HGm := Lib.hid (⟨m, os, rfl⟩ : ∃ m' os', grow (w.drewN m) os = grow (w.drewN m') os')
    have HGG := Lib.hid hG
    have hbW := hG.below
    clear hG
    generalize grow (w.drewN m) os = W at *
    by_cases hlt : k < L.length
    · have d1 : decide ((k : Int) < L.length) = true := by simp; omega
      by_cases hlt2 : k < F.length
      · have d2 : decide ((k : Int) < F.length) = true := by simp; omega
        have hkv : k < vs.length := by rw [HFL.out]; exact hlt2
        obtain ⟨g1, o1, rfl, hg1, h1⟩ := (HA.out.below hbW) (by omega)
        obtain ⟨g2, o2, rfl, hg2, h2⟩ := (HV.out.below hbW) (by omega)
        obtain ⟨a0, a1, a2⟩ := h1 k hlt
        have b0 := h2 k hkv
        have hfk := (HF.out.keep (keep_below hbW)).2 k (vs[k]'hkv) F[k] (List.getElem?_eq_getElem hkv) (List.getElem?_eq_getElem hlt2)
        have p1 : (0 : Int) ≤ k := by omega
        have p2 : (k : Int) < L.length := by omega
        have p3 : (k : Int) < F.length := by omega
        have HY := Lib.hid (fun h => agreeF_yes hlt hlt2 h)
        have HN := Lib.hid (fun h => agreeF_no hlt hlt2 h)
        clear h1 h2
        generalize F[k] = f at hfk HY HN
        generalize vs[k]'hkv = u at b0 hfk
        clear hkv
        cases f with
        | word s =>
          obtain ⟨b, hb, rfl⟩ := hfk
          have hbl := heap_lt hb
          have H := Lib.hid (fun (n : Nat) (os : Array Obj) => wordFn s b L[k].kind L[k].text L[k].col (grow (W.drewN n) os) (by rw [heap_grow_old _ _ (by exact hbl)]; exact hb))
          cases hv : Ft.fits L[k] (.word s)
          · have hv' := hv
            rw [fits_word] at hv'
            rw [hv'] at H
            have hfin : Hid (agreeF L F = k) := Lib.hid (by rw [hrun.out, HN.out hv]; omega)
            clear hv hv' hrun HY HN hb
            go_wp2_with fail
            have gC := grow_cell
            go_quiet_grown ((go_at_call 72; exact grewCall (H.out _ _)))
            clear gC
            go_wp2_with fail
            go_ret
            obtain ⟨m', os', hGm⟩ := HGm.out
            exact ⟨by rw [hfin.out]; rfl, HGG.out.trans (Grew.mk W nq osq)⟩
          · have hv' := hv
            rw [fits_word] at hv'
            rw [hv'] at H
            have hnext : Hid (agreeF L F = agreeF (L.drop (k + 1)) (F.drop (k + 1)) + (k + 1)) := Lib.hid (by rw [hrun.out, HY.out hv]; omega)
            clear hv hv' hrun HY HN hb
            go_wp2_with fail
            have gC := grow_cell
            go_quiet_grown ((go_at_call 72; exact grewCall (H.out _ _)))
            clear gC
            go_wp2_with fail
            go_roundw
            case rel =>
              obtain ⟨m', os', hGm⟩ := HGm.out
              exact ⟨k + 1, m' + nq, os' ++ osq, by omega, by omega, by go_num, hnext, by rw [hGm]; show grow (grow ((w.drewN m').drewN nq) os') osq = _; rw [grow_grow, World.drewN_drewN]⟩
            case measure => simp [intOf]; omega
        | kind q =>
          obtain ⟨b, hb, rfl⟩ := hfk
          have hbl := heap_lt hb
          have H := Lib.hid (fun (n : Nat) (os : Array Obj) => kindFn q b L[k].kind L[k].text L[k].col (grow (W.drewN n) os) (by rw [heap_grow_old _ _ (by exact hbl)]; exact hb))
          cases hv : Ft.fits L[k] (.kind q)
          · have hv' : decide (L[k].kind = q) = false := hv
            rw [hv'] at H
            have hfin : Hid (agreeF L F = k) := Lib.hid (by rw [hrun.out, HN.out hv]; omega)
            clear hv hv' hrun HY HN hb
            go_wp2_with fail
            have gC := grow_cell
            go_quiet_grown ((go_at_call 101; exact grewCall (H.out _ _)))
            clear gC
            go_wp2_with fail
            go_ret
            exact ⟨by rw [hfin.out]; rfl, HGG.out.trans (Grew.mk W nq osq)⟩
          · have hv' : decide (L[k].kind = q) = true := hv
            rw [hv'] at H
            have hnext : Hid (agreeF L F = agreeF (L.drop (k + 1)) (F.drop (k + 1)) + (k + 1)) := Lib.hid (by rw [hrun.out, HY.out hv]; omega)
            clear hv hv' hrun HY HN hb
            go_wp2_with fail
            have gC := grow_cell
            go_quiet_grown ((go_at_call 101; exact grewCall (H.out _ _)))
            clear gC
            go_wp2_with fail
            go_roundw
            case rel =>
              obtain ⟨m', os', hGm⟩ := HGm.out
              exact ⟨k + 1, m' + nq, os' ++ osq, by omega, by omega, by go_num, hnext, by rw [hGm]; show grow (grow ((w.drewN m').drewN nq) os') osq = _; rw [grow_grow, World.drewN_drewN]⟩
            case measure => simp [intOf]; omega
      · have d2 : decide ((k : Int) < F.length) = false := by simp; omega
        have hfin : Hid (agreeF L F = k) := Lib.hid (by rw [hrun.out, agreeF_end (fun h => hlt2 h.2)]; omega)
        clear hrun
        go_wp2_with fail
        go_quiet (fail)
        go_wp2_with fail
        go_ret
        exact ⟨by rw [hfin.out]; rfl, HGG.out.drewN _⟩
    · have d1 : decide ((k : Int) < L.length) = false := by simp; omega
      have hfin : Hid (agreeF L F = k) := Lib.hid (by rw [hrun.out, agreeF_end (fun h => hlt h.1)]; omega)
      clear hrun
      go_wp2_with fail
      go_quiet (fail)
      go_wp2_with fail
      go_ret
      exact ⟨by rw [hfin.out]; rfl, HGG.out.drewN _⟩
end Go.Proofs.YtcbbffpalpieaaaGreat.Qry5
