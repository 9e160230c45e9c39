/- Roles: which are right, their texts, how two stand. -/
import Derived.Test.YtkmonmpfbchffaaGreatM01
import Derived.Test.YtkmonmpfbchffaaGreatM03
import Derived.Test.YtkmonmpfbchffaaGreatShelf
import Derived.Outline
import Derived.WalkLawsBesides
import Derived.WalkSpells
import Derived.Deep.QuietTactic
import Derived.BigQuiet
import Derived.Sort.Walk0
namespace Go.Proofs.YtkmonmpfbchffaaGreat.Syn1
set_option linter.unusedVariables false
set_option linter.unusedSimpArgs false
open Go.RowKit Go.Sort Go.Proofs Go.Proofs.YtkmonmpfbchffaaGreat.Plain Go.Proofs.YtkmonmpfbchffaaGreat.SynP Go.Proofs.YtkmonmpfbchffaaGreat.Named Go.Proofs.YtkmonmpfbchffaaGreat.RefN Go.Proofs.YtkmonmpfbchffaaGreat.Grown
theorem isRole (r : Rl) (w : World) (h : r.light) : Calls Tryz.prog 116 #[r.val] w fun e w' => e = .returned (.bool r.ok) ∧ Grew w w' := by
  obtain ⟨o, n⟩ := r
  obtain ⟨h1, h2⟩ := h
  simp only at h1 h2
  cases e1 : named capB o.data.toList
  all_goals
    have He := Lib.hid e1
    clear e1
    unfold Rl.val
    go_enter Tryz.func116, Tryz.ntmps116
    go_wp2_with (first | (go_at_call 149; refine (isPrin _ _ h1).mono ?_; rintro e w' ⟨rfl, rfl⟩; rw [He.out]) | (go_at_call 150; refine (isName _ _ h2).mono ?_; rintro e w' ⟨rfl, rfl⟩))
    go_ret
    exact ⟨ret_bool (by unfold Rl.ok; simp only [He.out]; rfl), (Grew.refl _).alloc _⟩
theorem isRoleRef (r : Rl) (w : World) (h : r.light) : Calls Tryz.prog 60 #[r.val] w fun e w' => e = .returned (.bool r.ok) ∧ Grew w w' := by
  obtain ⟨o, n⟩ := r
  obtain ⟨h1, h2⟩ := h
  simp only at h1 h2
  cases e1 : named capB o.data.toList
  all_goals
    have He := Lib.hid e1
    clear e1
    unfold Rl.val
    go_enter Tryz.func60, Tryz.ntmps60
    go_wp2_with (first | (go_at_call 120; refine (refIsPrin _ _ h1).mono ?_; rintro e w' ⟨rfl, rfl⟩; rw [He.out]) | (go_at_call 121; refine (refIsName _ _ h2).mono ?_; rintro e w' ⟨rfl, rfl⟩))
    go_ret
    exact ⟨ret_bool (by unfold Rl.ok; simp only [He.out]; rfl), (Grew.refl _).alloc _⟩
theorem printRole (r : Rl) (w : World) (h : r.owner.size ≤ 1000 ∧ r.name.size ≤ 1000) : Calls Tryz.prog 68 #[r.val] w fun e w' => e = .returned (.string (r.owner ++ ⟨#[46]⟩ ++ r.name)) ∧ Grew w w' := by
  obtain ⟨o, n⟩ := r
  obtain ⟨h1, h2⟩ := h
  simp only at h1 h2
  unfold Rl.val
  go_enter Tryz.func68, Tryz.ntmps68
  go_wp2
  go_ret
  exact ⟨rfl, (Grew.refl _).alloc _⟩
theorem printRoleRef (r : Rl) (w : World) (h : r.owner.size ≤ 1000 ∧ r.name.size ≤ 1000) : Calls Tryz.prog 71 #[r.val] w fun e w' => e = .returned (.string (r.owner ++ ⟨#[46]⟩ ++ r.name)) ∧ Grew w w' := by
  obtain ⟨o, n⟩ := r
  obtain ⟨h1, h2⟩ := h
  simp only at h1 h2
  unfold Rl.val
  go_enter Tryz.func71, Tryz.ntmps71
  go_wp2
  go_ret
  exact ⟨rfl, (Grew.refl _).alloc _⟩
theorem isNaN (a : ByteArray) (w : World) : Calls Tryz.prog 227 #[.string a] w fun e w' => e = .returned (.bool false) ∧ w = w' := by
  go_enter Tryz.func227, Tryz.ntmps227
  go_wp2
  go_ret
  exact ⟨rfl, rfl⟩
theorem less_eq (a b : ByteArray) : Op.bytesLess a.toList b.toList = strLt a b := by
  rw [bytesLess_eq, Go.ByteArray.toList_eq, Go.ByteArray.toList_eq]; rfl
theorem same_eq (a b : ByteArray) : (a.toList == b.toList) = decide (a = b) := by
  rw [Bool.eq_iff_iff, decide_eq_true_iff, beq_iff_eq, Go.ByteArray.toList_eq, Go.ByteArray.toList_eq]
  exact ⟨ba_ext, fun h => by rw [h]⟩
theorem compareS (a b : ByteArray) (w : World) : Calls Tryz.prog 178 #[.string a, .string b] w fun e w' => e = .returned (.int .i64 (cmpB a b)) ∧ w = w' := by
  cases h1 : strLt a b
  · cases h2 : strLt b a
    · have H : Hid (cmpB a b = 0) := Lib.hid (by unfold cmpB; rw [h1, h2]; rfl)
      have h3 : (a.toList == b.toList) = true := by rw [same_eq]; exact decide_eq_true (strLt_total h1 h2)
      rw [← less_eq] at h1 h2
      go_enter Tryz.func178, Tryz.ntmps178
      go_wp2_with (go_at_call 227; refine (isNaN _ _).mono ?_; rintro e w' ⟨rfl, rfl⟩)
      go_ret
      exact ⟨ret_int H.out.symm, rfl⟩
    · have H : Hid (cmpB a b = 1) := Lib.hid (by unfold cmpB; rw [h1, h2]; rfl)
      have h3 : (a.toList == b.toList) = false := by rw [same_eq]; exact decide_eq_false (by rintro rfl; rw [strLt_irrefl] at h2; cases h2)
      rw [← less_eq] at h1 h2
      go_enter Tryz.func178, Tryz.ntmps178
      go_wp2_with (go_at_call 227; refine (isNaN _ _).mono ?_; rintro e w' ⟨rfl, rfl⟩)
      go_ret
      exact ⟨ret_int H.out.symm, rfl⟩
  · have H : Hid (cmpB a b = -1) := Lib.hid (by unfold cmpB; rw [h1]; rfl)
    rw [← less_eq] at h1
    go_enter Tryz.func178, Tryz.ntmps178
    go_wp2_with (go_at_call 227; refine (isNaN _ _).mono ?_; rintro e w' ⟨rfl, rfl⟩)
    go_ret
    exact ⟨ret_int H.out.symm, rfl⟩
theorem compareN (a b : Int) (w : World) : Calls Tryz.prog 177 #[.int .i64 a, .int .i64 b] w fun e w' => e = .returned (.int .i64 (cmpN a b)) ∧ w = w' :=
  (Tryz.cmp_Compare_int a b w).mono fun _ _ ⟨he, hw⟩ => ⟨he, hw.symm⟩
/-- The first that isn't 0, of a row of numbers. -/
def IRow (w : World) (g : Nat) (l : List Int) : Prop := g < w.heap.size ∧ ∀ k, (h : k < l.length) → w.cell? ⟨g, k, none⟩ = some (.int .i64 l[k])
theorem orL_skip {l : List Int} {k : Nat} (h : k < l.length) (h0 : l[k] = 0) : orL (l.drop k) = orL (l.drop (k + 1)) := by
  rw [List.drop_eq_getElem_cons h]; simp [orL, h0]
theorem orL_stop {l : List Int} {k : Nat} (h : k < l.length) (h0 : l[k] ≠ 0) : orL (l.drop k) = l[k] := by
  rw [List.drop_eq_getElem_cons h]; simp [orL, h0]
theorem or_ (g cap : Nat) (l : List Int) (w : World) (hl : l.length ≤ 1000) (hr : IRow w g l) : Calls Tryz.prog 176 #[.slice (some ⟨g, 0, none⟩) l.length cap] w fun e w' => e = .returned (.int .i64 (orL l)) ∧ w = w' := by
  go_enter Tryz.func176, Tryz.ntmps176
  go_wp2
  go_loop [8] (fun i => ∃ k : Nat, k ≤ l.length ∧ i = .int .i64 k ∧ Hid (orL l = orL (l.drop k))) (fun i => l.length - (intOf i).toNat)
  case atStart => exact ⟨0, by omega, rfl, Lib.hid (by simp)⟩
  case round =>
    obtain ⟨k, hk, rfl, hrun⟩ := hrel
    by_cases hlt : k < l.length
    · have hc := hr.2 k hlt
      by_cases h0 : l[k] = 0
      · have hnext : Hid (orL l = orL (l.drop (k + 1))) := Lib.hid (by rw [hrun.out, orL_skip hlt h0])
        rw [h0] at hc
        clear hrun h0
        go_wp2_with fail
        go_round
        case rel => exact ⟨k + 1, by omega, by go_num, hnext⟩
        case measure => simp [intOf]; omega
      · have hfin : Hid (orL l = l[k]) := Lib.hid (by rw [hrun.out, orL_stop hlt h0])
        have h1 : (l[k] != 0) = true := by simpa using h0
        clear hrun h0
        go_wp2_with fail
        go_ret
        exact ⟨ret_int hfin.out.symm, rfl⟩
    · have hfin : Hid (orL l = 0) := Lib.hid (by rw [hrun.out, List.drop_of_length_le (by omega)]; rfl)
      clear hrun
      go_wp2_with fail
      go_ret
      exact ⟨ret_int hfin.out.symm, rfl⟩
end Go.Proofs.YtkmonmpfbchffaaGreat.Syn1
/- Equality of two roles, and of two statements, as the program's operators tell it. -/
namespace Go.Proofs.YtkmonmpfbchffaaGreat.SynE
set_option linter.unusedVariables false
set_option linter.unusedSimpArgs false
open Go.RowKit Go.Sort Go.Proofs Go.Proofs.YtkmonmpfbchffaaGreat.Plain Go.Proofs.YtkmonmpfbchffaaGreat.SynP Go.Proofs.YtkmonmpfbchffaaGreat.Syn1
set_option linter.unusedSimpArgs false
theorem text_eq (a b : ByteArray) : (a.toList = b.toList) = (a = b) := by
  rw [Go.ByteArray.toList_eq, Go.ByteArray.toList_eq]; exact propext ⟨ba_ext, fun h => by rw [h]⟩
set_option maxHeartbeats 1000000 in
set_option maxRecDepth 100000 in
theorem eqS (k : Int) (ho hn wh ao an bo bn v : ByteArray) (k2 : Int) (ho2 hn2 wh2 ao2 an2 bo2 bn2 v2 : ByteArray) (w : World) :
    (binOp .eql 72 (.agg #[.int .i64 k, .string ho, .string hn, .string wh, .string ao, .string an, .string bo, .string bn, .string v]) (.agg #[.int .i64 k2, .string ho2, .string hn2, .string wh2, .string ao2, .string an2, .string bo2, .string bn2, .string v2])).run Tryz.prog w = .ok (.bool (decide ((⟨k, ⟨ho, hn⟩, wh, ⟨ao, an⟩, ⟨bo, bn⟩, v⟩ : St) = ⟨k2, ⟨ho2, hn2⟩, wh2, ⟨ao2, an2⟩, ⟨bo2, bn2⟩, v2⟩))) w := by
  have e := text_eq
  simp only [go_sem, St.mk.injEq, Rl.mk.injEq, same_eq]
  go_simp
  by_cases h0 : k = k2
  rotate_left
  · simp [h0]
  subst h0
  by_cases h1 : ho = ho2
  rotate_left
  · simp [h1]
  subst h1
  by_cases h2 : hn = hn2
  rotate_left
  · simp [h2]
  subst h2
  by_cases h3 : wh = wh2
  rotate_left
  · simp [h3]
  subst h3
  by_cases h4 : ao = ao2
  rotate_left
  · simp [h4]
  subst h4
  by_cases h5 : an = an2
  rotate_left
  · simp [h5]
  subst h5
  by_cases h6 : bo = bo2
  rotate_left
  · simp [h6]
  subst h6
  by_cases h7 : bn = bn2
  rotate_left
  · simp [h7]
  subst h7
  by_cases h8 : v = v2
  rotate_left
  · simp [h8]
  subst h8
  simp
set_option maxHeartbeats 1000000 in
theorem eqR (o n o2 n2 : ByteArray) (w : World) : (binOp .eql 23 (.agg #[.string o, .string n]) (.agg #[.string o2, .string n2])).run Tryz.prog w = .ok (.bool (decide ((⟨o, n⟩ : Rl) = ⟨o2, n2⟩))) w := by
  have e := text_eq
  simp only [go_sem, Rl.mk.injEq, same_eq]
  go_simp
  by_cases h0 : o = o2
  rotate_left
  · simp [h0]
  subst h0
  by_cases h1 : n = n2
  rotate_left
  · simp [h1]
  subst h1
  simp
set_option maxHeartbeats 1000000 in
set_option maxRecDepth 100000 in
theorem neS (k : Int) (ho hn wh ao an bo bn v : ByteArray) (k2 : Int) (ho2 hn2 wh2 ao2 an2 bo2 bn2 v2 : ByteArray) (w : World) :
    (binOp .neq 72 (.agg #[.int .i64 k, .string ho, .string hn, .string wh, .string ao, .string an, .string bo, .string bn, .string v]) (.agg #[.int .i64 k2, .string ho2, .string hn2, .string wh2, .string ao2, .string an2, .string bo2, .string bn2, .string v2])).run Tryz.prog w = .ok (.bool (!decide ((⟨k, ⟨ho, hn⟩, wh, ⟨ao, an⟩, ⟨bo, bn⟩, v⟩ : St) = ⟨k2, ⟨ho2, hn2⟩, wh2, ⟨ao2, an2⟩, ⟨bo2, bn2⟩, v2⟩))) w := by
  have e := text_eq
  simp only [go_sem, St.mk.injEq, Rl.mk.injEq, same_eq]
  go_simp
  by_cases h0 : k = k2
  rotate_left
  · simp [h0]
  subst h0
  by_cases h1 : ho = ho2
  rotate_left
  · simp [h1]
  subst h1
  by_cases h2 : hn = hn2
  rotate_left
  · simp [h2]
  subst h2
  by_cases h3 : wh = wh2
  rotate_left
  · simp [h3]
  subst h3
  by_cases h4 : ao = ao2
  rotate_left
  · simp [h4]
  subst h4
  by_cases h5 : an = an2
  rotate_left
  · simp [h5]
  subst h5
  by_cases h6 : bo = bo2
  rotate_left
  · simp [h6]
  subst h6
  by_cases h7 : bn = bn2
  rotate_left
  · simp [h7]
  subst h7
  by_cases h8 : v = v2
  rotate_left
  · simp [h8]
  subst h8
  simp
set_option maxHeartbeats 1000000 in
theorem neR (o n o2 n2 : ByteArray) (w : World) : (binOp .neq 23 (.agg #[.string o, .string n]) (.agg #[.string o2, .string n2])).run Tryz.prog w = .ok (.bool (!decide ((⟨o, n⟩ : Rl) = ⟨o2, n2⟩))) w := by
  have e := text_eq
  simp only [go_sem, Rl.mk.injEq, same_eq]
  go_simp
  by_cases h0 : o = o2
  rotate_left
  · simp [h0]
  subst h0
  by_cases h1 : n = n2
  rotate_left
  · simp [h1]
  subst h1
  simp
end Go.Proofs.YtkmonmpfbchffaaGreat.SynE
/- How many tokens fit, by contract. -/
namespace Go.Proofs.YtkmonmpfbchffaaGreat.Qry5
set_option linter.unusedVariables false
set_option linter.unusedSimpArgs false
open Go.RowKit Go.Sort Go.Proofs Go.Proofs.YtkmonmpfbchffaaGreat.Plain Go.Proofs.YtkmonmpfbchffaaGreat.SynP Go.Proofs.YtkmonmpfbchffaaGreat.TabP Go.Proofs.YtkmonmpfbchffaaGreat.Tab1 Go.Proofs.YtkmonmpfbchffaaGreat.Grown Go.Proofs.YtkmonmpfbchffaaGreat.SynA Go.Proofs.YtkmonmpfbchffaaGreat.SynE Go.Proofs.YtkmonmpfbchffaaGreat.QryP Go.Proofs.YtkmonmpfbchffaaGreat.Qry4
set_option linter.unusedVariables false
set_option linter.unusedSimpArgs false
theorem cell_block {w : World} {b : Nat} {v : Value} {t : TypeId} (h : w.heap[b]? = some (.cells #[v] t (0, 0))) : w.cell? ⟨b, 0, none⟩ = some v := by rw [Lib.cell_of_heap h]; rfl
set_option maxRecDepth 100000 in
theorem wordFn (s : Str) (b : Nat) (k : Int) (x : ByteArray) (c : Int) (w : World) (h : w.heap[b]? = some (.cells #[.string ⟨s.toArray⟩] 9 (0, 0))) :
    Calls Tryz.prog 108 #[.agg #[.int .i64 k, .string x, .int .i64 c], .pointer (some ⟨b, 0, none⟩)] w fun e w' => e = .returned (.bool (decide (k = 2) && decide (x = ⟨s.toArray⟩))) ∧ Grew w w' := by
  have hc := cell_block h
  have hlt := heap_lt h
  have e := text_eq x ⟨s.toArray⟩
  clear h
  by_cases h2 : k = 2
  · subst h2
    by_cases hx : x = ⟨s.toArray⟩
    · subst hx
      clear e
      go_enter Tryz.func108, Tryz.ntmps108
      go_wp2_with fail
      go_ret
      exact ⟨by simp, (Grew.refl _).alloc _⟩
    · have hne : (x.toList == s) = false := by
        rw [beq_eq_false_iff_ne]
        intro h
        rw [Go.ByteArray.toList_eq] at h
        exact hx (by apply ByteArray.ext; apply Array.ext'; simpa using h)
      rw [decide_eq_false hx]
      clear e hx
      go_enter Tryz.func108, Tryz.ntmps108
      go_wp2_with fail
      go_ret
      exact ⟨by simp [hne], (Grew.refl _).alloc _⟩
  · have hk : (k == 2) = false := by simpa using h2
    rw [decide_eq_false h2]
    clear e h2
    go_enter Tryz.func108, Tryz.ntmps108
    go_wp2_with fail
    go_ret
    exact ⟨by simp, (Grew.refl _).alloc _⟩
set_option maxRecDepth 100000 in
theorem kindFn (q : Int) (b : Nat) (k : Int) (x : ByteArray) (c : Int) (w : World) (h : w.heap[b]? = some (.cells #[.int .i64 q] 3 (0, 0))) :
    Calls Tryz.prog 205 #[.agg #[.int .i64 k, .string x, .int .i64 c], .pointer (some ⟨b, 0, none⟩)] w fun e w' => e = .returned (.bool (decide (k = q))) ∧ Grew w w' := by
  have hc := cell_block h
  have hlt := heap_lt h
  clear h
  by_cases hk : k = q
  · subst hk
    go_enter Tryz.func205, Tryz.ntmps205
    go_wp2_with fail
    go_ret
    exact ⟨by simp, (Grew.refl _).alloc _⟩
  · have hne : (k == q) = false := by simpa using hk
    rw [decide_eq_false hk]
    clear hk
    go_enter Tryz.func205, Tryz.ntmps205
    go_wp2_with fail
    go_ret
    exact ⟨by simp, (Grew.refl _).alloc _⟩
/-- How many tokens, from the first one on, fit. -/
def agreeF : List Tk → List Ft → Nat
  | t :: L, f :: F => if f.fits t then agreeF L F + 1 else 0
  | _, _ => 0
theorem agreeF_le : ∀ (L : List Tk) (F : List Ft), agreeF L F ≤ L.length ∧ agreeF L F ≤ F.length
  | [], _ => by simp [agreeF]
  | _ :: _, [] => by simp [agreeF]
  | t :: L, f :: F => by
    have := agreeF_le L F
    unfold agreeF
    split <;> simp <;> omega
theorem agreeF_yes {L : List Tk} {F : List Ft} {k : Nat} (h1 : k < L.length) (h2 : k < F.length) (h : F[k].fits L[k] = true) : agreeF (L.drop k) (F.drop k) = agreeF (L.drop (k + 1)) (F.drop (k + 1)) + 1 := by
  rw [List.drop_eq_getElem_cons h1, List.drop_eq_getElem_cons h2]
  show (if _ then _ else _) = _
  rw [if_pos h]
theorem agreeF_no {L : List Tk} {F : List Ft} {k : Nat} (h1 : k < L.length) (h2 : k < F.length) (h : F[k].fits L[k] = false) : agreeF (L.drop k) (F.drop k) = 0 := by
  rw [List.drop_eq_getElem_cons h1, List.drop_eq_getElem_cons h2]
  show (if _ then _ else _) = _
  rw [if_neg (by rw [h]; simp)]
theorem agreeF_end {L : List Tk} {F : List Ft} {k : Nat} (h : ¬ (k < L.length ∧ k < F.length)) : agreeF (L.drop k) (F.drop k) = 0 := by
  by_cases h1 : k < L.length
  · have : F.drop k = [] := List.drop_of_length_le (by omega)
    rw [this]
    cases L.drop k <;> rfl
  · have : L.drop k = [] := List.drop_of_length_le (by omega)
    rw [this]; rfl
/-- A slice value that reads as these values. -/
def VRow (w : World) (A : Option Addr) (vs : List Value) : Prop :=
  0 < vs.length → ∃ g o, A = some ⟨g, o, none⟩ ∧ g < w.heap.size ∧ ∀ j, (h : j < vs.length) → w.cell? ⟨g, o + j, none⟩ = some vs[j]
theorem VRow.of_own {w : World} {B : Nat} {e : TypeId} {v : Value} {n : Nat} {vs : List Value} (h : w.ownsRow B e 1 v n vs) : ∃ A cap, v = .slice A n cap ∧ n ≤ cap ∧ VRow w A vs := by
  have hl : vs.length = n := by have := h.1; omega
  rcases h.2 with ⟨rfl, h0⟩ | ⟨g, cap, cur, rfl, hB, hh, hc, hm, hs, ht⟩
  · exact ⟨none, 0, by rw [h0], by omega, fun hp => by omega⟩
  · refine ⟨_, _, rfl, hc, fun hp => ⟨g, 0, rfl, (h.lt g rfl).2, fun j hj => ?_⟩⟩
    have e1 : (cur.toList.take (n * 1))[j]? = some vs[j] := by rw [ht]; exact List.getElem?_eq_getElem hj
    rw [List.getElem?_take_of_lt (by omega)] at e1
    rw [Lib.cell_of_heap hh, Nat.zero_add, ← Array.getElem?_toList]
    exact e1
theorem VRow.below {w w' : World} {A : Option Addr} {vs : List Value} (h : VRow w A vs) (hb : Below w.heap.size w w') : VRow w' A vs := fun hp => by
  obtain ⟨g, o, hA, hg, hc⟩ := h hp
  exact ⟨g, o, hA, Nat.lt_of_lt_of_le hg hb.size, fun j hj => (hb.cell (p := ⟨g, o + j, none⟩) hg).trans (hc j hj)⟩
/-- What follows where the k-th token fits, and where it doesn't. -/
theorem fits_word {t : Tk} {s : Str} : Ft.fits t (.word s) = (decide (t.kind = 2) && decide (t.text = ⟨s.toArray⟩)) := rfl
set_option maxHeartbeats 2000000 in
set_option maxRecDepth 100000 in
theorem agree (A : Option Addr) (ca : Nat) (L : List Tk) (V : Option Addr) (cv : Nat) (vs : List Value) (F : List Ft) (w : World) (hL : L.length ≤ 1000) (hF : F.length ≤ 1000) (hA : TkAt w A L) (hV : VRow w V vs) (hfn : FnsAt w vs F) :
    Calls Tryz.prog 50 #[.slice A L.length ca, .slice V F.length cv] w fun e w' => e = .returned (.int .i64 (agreeF L F)) ∧ Grew w w' := by
  have hm : Tryz.prog.follows .mixedOrders = true := by kernel_rfl
  have HA := Lib.hid hA
  have HV := Lib.hid hV
  have HF := Lib.hid hfn
  have hvl := hfn.1
  have HFL := Lib.hid hvl
  clear hA hV hfn hvl
  go_enter Tryz.func50, Tryz.ntmps50
  go_wp2_with fail
  go_loopw [5] (fun i wr => ∃ (k m : Nat) (os : Array Obj), k ≤ L.length ∧ k ≤ F.length ∧ i = .int .i64 k ∧ Hid (agreeF L F = agreeF (L.drop k) (F.drop k) + k) ∧ wr = grow (w.drewN m) os) (fun i _ => L.length - (intOf i).toNat)
  case atStart => exact ⟨0, 0, #[], by omega, by omega, rfl, Lib.hid (by simp), by rw [grow_empty]; rfl⟩
  case round =>
    obtain ⟨k, m, os, hk, hk2, rfl, hrun, rfl⟩ := hrel
    have hG := Grew.mk w m os
    have HGm := Lib.hid (⟨m, os, rfl⟩ : ∃ m' os', grow (w.drewN m) os = grow (w.drewN m') os')
    have HGG := Lib.hid hG
    have hbW := hG.below
    clear hG
    generalize grow (w.drewN m) os = W at *
    by_cases hlt : k < L.length
    · have d1 : decide ((k : Int) < L.length) = true := by simp; omega
      by_cases hlt2 : k < F.length
      · have d2 : decide ((k : Int) < F.length) = true := by simp; omega
        have hkv : k < vs.length := by rw [HFL.out]; exact hlt2
        obtain ⟨g1, o1, rfl, hg1, h1⟩ := (HA.out.below hbW) (by omega)
        obtain ⟨g2, o2, rfl, hg2, h2⟩ := (HV.out.below hbW) (by omega)
        obtain ⟨a0, a1, a2⟩ := h1 k hlt
        have b0 := h2 k hkv
        have hfk := (HF.out.keep (keep_below hbW)).2 k (vs[k]'hkv) F[k] (List.getElem?_eq_getElem hkv) (List.getElem?_eq_getElem hlt2)
        have p1 : (0 : Int) ≤ k := by omega
        have p2 : (k : Int) < L.length := by omega
        have p3 : (k : Int) < F.length := by omega
        have HY := Lib.hid (fun h => agreeF_yes hlt hlt2 h)
        have HN := Lib.hid (fun h => agreeF_no hlt hlt2 h)
        clear h1 h2
        generalize F[k] = f at hfk HY HN
        generalize vs[k]'hkv = u at b0 hfk
        clear hkv
        cases f with
        | word s =>
          obtain ⟨b, hb, rfl⟩ := hfk
          have hbl := heap_lt hb
          have H := Lib.hid (fun (n : Nat) (os : Array Obj) => wordFn s b L[k].kind L[k].text L[k].col (grow (W.drewN n) os) (by rw [heap_grow_old _ _ (by exact hbl)]; exact hb))
          cases hv : Ft.fits L[k] (.word s)
          · have hv' := hv
            rw [fits_word] at hv'
            rw [hv'] at H
            have hfin : Hid (agreeF L F = k) := Lib.hid (by rw [hrun.out, HN.out hv]; omega)
            clear hv hv' hrun HY HN hb
            go_wp2_with fail
            have gC := grow_cell
            go_quiet_grown ((go_at_call 108; exact grewCall (H.out _ _)))
            clear gC
            go_wp2_with fail
            go_ret
            obtain ⟨m', os', hGm⟩ := HGm.out
            exact ⟨by rw [hfin.out]; rfl, HGG.out.trans (Grew.mk W nq osq)⟩
          · have hv' := hv
            rw [fits_word] at hv'
            rw [hv'] at H
            have hnext : Hid (agreeF L F = agreeF (L.drop (k + 1)) (F.drop (k + 1)) + (k + 1)) := Lib.hid (by rw [hrun.out, HY.out hv]; omega)
            clear hv hv' hrun HY HN hb
            go_wp2_with fail
            have gC := grow_cell
            go_quiet_grown ((go_at_call 108; exact grewCall (H.out _ _)))
            clear gC
            go_wp2_with fail
            go_roundw
            case rel =>
              obtain ⟨m', os', hGm⟩ := HGm.out
              exact ⟨k + 1, m' + nq, os' ++ osq, by omega, by omega, by go_num, hnext, by rw [hGm]; show grow (grow ((w.drewN m').drewN nq) os') osq = _; rw [grow_grow, World.drewN_drewN]⟩
            case measure => simp [intOf]; omega
        | kind q =>
          obtain ⟨b, hb, rfl⟩ := hfk
          have hbl := heap_lt hb
          have H := Lib.hid (fun (n : Nat) (os : Array Obj) => kindFn q b L[k].kind L[k].text L[k].col (grow (W.drewN n) os) (by rw [heap_grow_old _ _ (by exact hbl)]; exact hb))
          cases hv : Ft.fits L[k] (.kind q)
          · have hv' : decide (L[k].kind = q) = false := hv
            rw [hv'] at H
            have hfin : Hid (agreeF L F = k) := Lib.hid (by rw [hrun.out, HN.out hv]; omega)
            clear hv hv' hrun HY HN hb
            go_wp2_with fail
            have gC := grow_cell
            go_quiet_grown ((go_at_call 205; exact grewCall (H.out _ _)))
            clear gC
            go_wp2_with fail
            go_ret
            exact ⟨by rw [hfin.out]; rfl, HGG.out.trans (Grew.mk W nq osq)⟩
          · have hv' : decide (L[k].kind = q) = true := hv
            rw [hv'] at H
            have hnext : Hid (agreeF L F = agreeF (L.drop (k + 1)) (F.drop (k + 1)) + (k + 1)) := Lib.hid (by rw [hrun.out, HY.out hv]; omega)
            clear hv hv' hrun HY HN hb
            go_wp2_with fail
            have gC := grow_cell
            go_quiet_grown ((go_at_call 205; exact grewCall (H.out _ _)))
            clear gC
            go_wp2_with fail
            go_roundw
            case rel =>
              obtain ⟨m', os', hGm⟩ := HGm.out
              exact ⟨k + 1, m' + nq, os' ++ osq, by omega, by omega, by go_num, hnext, by rw [hGm]; show grow (grow ((w.drewN m').drewN nq) os') osq = _; rw [grow_grow, World.drewN_drewN]⟩
            case measure => simp [intOf]; omega
      · have d2 : decide ((k : Int) < F.length) = false := by simp; omega
        have hfin : Hid (agreeF L F = k) := Lib.hid (by rw [hrun.out, agreeF_end (fun h => hlt2 h.2)]; omega)
        clear hrun
        go_wp2_with fail
        go_quiet (fail)
        go_wp2_with fail
        go_ret
        exact ⟨by rw [hfin.out]; rfl, HGG.out.drewN _⟩
    · have d1 : decide ((k : Int) < L.length) = false := by simp; omega
      have hfin : Hid (agreeF L F = k) := Lib.hid (by rw [hrun.out, agreeF_end (fun h => hlt h.1)]; omega)
      clear hrun
      go_wp2_with fail
      go_quiet (fail)
      go_wp2_with fail
      go_ret
      exact ⟨by rw [hfin.out]; rfl, HGG.out.drewN _⟩
end Go.Proofs.YtkmonmpfbchffaaGreat.Qry5
