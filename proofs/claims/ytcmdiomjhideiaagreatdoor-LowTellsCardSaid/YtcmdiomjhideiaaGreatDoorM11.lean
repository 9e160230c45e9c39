/- How many tokens fit, by contract. -/
import Derived.Test.YtcmdiomjhideiaaGreatDoorM10
import Derived.Test.YtcmdiomjhideiaaGreatDoorM05
import Derived.Deep.QuietTactic
import Derived.BigQuiet
import Derived.Test.YtcmdiomjhideiaaGreatDoorM08
import Derived.Test.YtcmdiomjhideiaaGreatDoorM04
import Derived.Test.YtcmdiomjhideiaaGreatDoorM06
namespace Go.Proofs.YtcmdiomjhideiaaGreatDoor.Qry5
set_option linter.unusedVariables false
set_option linter.unusedSimpArgs false
open Go.RowKit Go.Sort Go.Proofs Go.Proofs.YtcmdiomjhideiaaGreatDoor.Plain Go.Proofs.YtcmdiomjhideiaaGreatDoor.SynP Go.Proofs.YtcmdiomjhideiaaGreatDoor.TabP Go.Proofs.YtcmdiomjhideiaaGreatDoor.Tab1 Go.Proofs.YtcmdiomjhideiaaGreatDoor.Grown Go.Proofs.YtcmdiomjhideiaaGreatDoor.SynA Go.Proofs.YtcmdiomjhideiaaGreatDoor.SynE Go.Proofs.YtcmdiomjhideiaaGreatDoor.QryP Go.Proofs.YtcmdiomjhideiaaGreatDoor.Qry4
set_option linter.unusedVariables false
set_option linter.unusedSimpArgs false
/-- How many tokens, from the first one on, fit. -/
def agreeF : List Tk → List Ft → Nat
  | t :: L, f :: F => if f.fits t then agreeF L F + 1 else 0
  | _, _ => 0
/-- A slice value that reads as these values. -/
def VRow (w : World) (A : Option Addr) (vs : List Value) : Prop :=
  0 < vs.length → ∃ g o, A = some ⟨g, o, none⟩ ∧ g < w.heap.size ∧ ∀ j, (h : j < vs.length) → w.cell? ⟨g, o + j, none⟩ = some vs[j]
theorem VRow.of_own {w : World} {B : Nat} {e : TypeId} {v : Value} {n : Nat} {vs : List Value} (h : w.ownsRow B e 1 v n vs) : ∃ A cap, v = .slice A n cap ∧ n ≤ cap ∧ VRow w A vs := by
  have hl : vs.length = n := by have := h.1; omega
  rcases h.2 with ⟨rfl, h0⟩ | ⟨g, cap, cur, rfl, hB, hh, hc, hm, hs, ht⟩
  · exact ⟨none, 0, by rw [h0], by omega, fun hp => by omega⟩
  · refine ⟨_, _, rfl, hc, fun hp => ⟨g, 0, rfl, (h.lt g rfl).2, fun j hj => ?_⟩⟩
    have e1 : (cur.toList.take (n * 1))[j]? = some vs[j] := by rw [ht]; exact List.getElem?_eq_getElem hj
    rw [List.getElem?_take_of_lt (by omega)] at e1
    rw [Lib.cell_of_heap hh, Nat.zero_add, ← Array.getElem?_toList]
    exact e1
theorem VRow.below {w w' : World} {A : Option Addr} {vs : List Value} (h : VRow w A vs) (hb : Below w.heap.size w w') : VRow w' A vs := fun hp => by
  obtain ⟨g, o, hA, hg, hc⟩ := h hp
  exact ⟨g, o, hA, Nat.lt_of_lt_of_le hg hb.size, fun j hj => (hb.cell (p := ⟨g, o + j, none⟩) hg).trans (hc j hj)⟩
end Go.Proofs.YtcmdiomjhideiaaGreatDoor.Qry5
/- Rows of one-cell values put one behind the other: slices.Grow, slices.Concat, at texts and at functions. -/
namespace Go.Proofs.YtcmdiomjhideiaaGreatDoor.QryG
set_option linter.unusedVariables false
set_option linter.unusedSimpArgs false
open Go.RowKit Go.Sort Go.Proofs.YtcmdiomjhideiaaGreatDoor.Plain Go.Proofs.YtcmdiomjhideiaaGreatDoor.SynP Go.Proofs.YtcmdiomjhideiaaGreatDoor.Grown Go.Proofs.YtcmdiomjhideiaaGreatDoor.SynA Go.Proofs.YtcmdiomjhideiaaGreatDoor.SynC Go.Proofs.YtcmdiomjhideiaaGreatDoor.Qry4 Go.Proofs.YtcmdiomjhideiaaGreatDoor.Qry5
set_option linter.unusedVariables false
/-- A slice value, its room, and the values as which it reads. -/
structure RowV where
  A : Option Addr
  c : Nat
  l : List Value
/-- The values of the first rows. -/
def flatTo (R : List RowV) (k : Nat) : List Value := ((R.take k).map RowV.l).flatten
theorem flatTo_succ {R : List RowV} {k : Nat} (h : k < R.length) : flatTo R (k + 1) = flatTo R k ++ R[k].l := by
  unfold flatTo
  rw [List.take_succ_eq_append_getElem h, List.map_append, List.flatten_append, List.map_singleton, List.flatten_singleton]
theorem flatTo_len {R : List RowV} (h : ∀ r ∈ R, r.l.length ≤ 1000) : ∀ k, (flatTo R k).length ≤ k * 1000 := by
  intro k
  induction k with
  | zero => simp [flatTo]
  | succ k ih =>
    rcases Nat.lt_or_ge k R.length with hk | hk
    · rw [flatTo_succ hk, List.length_append]
      have h1 := h R[k] (List.getElem_mem _)
      rw [Nat.succ_mul]
      exact Nat.add_le_add ih h1
    · have : flatTo R (k + 1) = flatTo R k := by unfold flatTo; rw [List.take_of_length_le (by omega), List.take_of_length_le (by omega)]
      rw [this, Nat.succ_mul]
      exact Nat.le_add_right_of_le ih
theorem VRow.alloc {w : World} {A : Option Addr} {l : List Value} (h : VRow w A l) (o : Obj) : VRow (w.alloc o) A l := h.below ((Below.refl _ _).alloc (Nat.le_refl _) o)
end Go.Proofs.YtcmdiomjhideiaaGreatDoor.QryG
/- Which principals may be asked about, by contract. -/
namespace Go.Proofs.YtcmdiomjhideiaaGreatDoor.Qry1
set_option linter.unusedVariables false
set_option linter.unusedSimpArgs false
open Go.RowKit Go.Sort Go.Proofs Go.Proofs.YtcmdiomjhideiaaGreatDoor.Plain Go.Proofs.YtcmdiomjhideiaaGreatDoor.Named Go.Proofs.YtcmdiomjhideiaaGreatDoor.SynP Go.Proofs.YtcmdiomjhideiaaGreatDoor.TabP Go.Proofs.YtcmdiomjhideiaaGreatDoor.Tab1 Go.Proofs.YtcmdiomjhideiaaGreatDoor.Tab3 Go.Proofs.YtcmdiomjhideiaaGreatDoor.Tab7 Go.Proofs.YtcmdiomjhideiaaGreatDoor.Grown Go.Proofs.YtcmdiomjhideiaaGreatDoor.QryP
set_option linter.unusedVariables false
set_option linter.unusedSimpArgs false
theorem whoFn (s : Str) (w : World) (hs : s.length ≤ maxLen) : Calls Tryz.prog 200 #[.string ⟨s.toArray⟩] w fun e w' => e = .returned (.bool (!prinS s)) ∧ w = w' := by
  have H := Lib.hid (isPrin ⟨s.toArray⟩ w (by simpa [ByteArray.size] using hs))
  go_enter Tryz.func200, Tryz.ntmps200
  go_wp2_with (go_at_call 198; refine H.out.mono ?_; rintro e w' ⟨rfl, rfl⟩)
  go_ret
  exact ⟨rfl, rfl⟩
def IdxPost (T : List Str) (w : World) (e : Ending) (w' : World) : Prop := ∃ r : Int, e = .returned (.int .i64 r) ∧ decide (0 ≤ r) = !T.all prinS ∧ w = w'
set_option maxHeartbeats 1000000 in
theorem indexFn (A : Option Addr) (c : Nat) (T : List Str) (w : World) (hL : T.length ≤ 1000000) (hs : ∀ s ∈ T, s.length ≤ maxLen) (hA : SRow w A T) :
    Calls Tryz.prog 203 #[.slice A T.length c, .func (.func 200) #[] #[]] w (IdxPost T w) := by
  go_enter Tryz.func203, Tryz.ntmps203
  go_wp2_with fail
  go_loop [8] (fun i => ∃ k : Nat, k ≤ T.length ∧ i = .int .i64 k ∧ Hid (∀ j, j < k → (h : j < T.length) → prinS T[j] = true)) (fun i => T.length - (intOf i).toNat)
  case atStart => exact ⟨0, by omega, rfl, Lib.hid fun j hj => by omega⟩
  case round =>
    obtain ⟨k, hk, rfl, hall⟩ := hrel
    by_cases hlt : k < T.length
    · obtain ⟨g, off, rfl, hg, hcell⟩ := hA (by omega)
      have hx := hcell k hlt
      have p1 : (0 : Int) ≤ k := by omega
      have p2 : (k : Int) < T.length := by omega
      have H := Lib.hid (whoFn T[k] w (hs _ (List.getElem_mem _)))
      clear hcell
      cases hp : prinS T[k]
      · rw [hp] at H
        have hfin := Lib.hid ((who_bad hlt hp : _) |> fun _ => (show decide ((0 : Int) ≤ k) = !T.all prinS by
          rw [decide_eq_true p1, List.all_eq_false.2 ⟨T[k], List.getElem_mem _, by simp [hp]⟩]; rfl))
        clear hp hall
        go_wp2_with (go_at_call 200; refine H.out.mono ?_; rintro e w' ⟨rfl, rfl⟩)
        go_ret
        exact ⟨k, rfl, hfin.out, rfl⟩
      · rw [hp] at H
        have hnext : Hid (∀ j, j < k + 1 → (h : j < T.length) → prinS T[j] = true) := Lib.hid fun j hj h => by
          by_cases e : j = k
          · subst e; exact hp
          · exact hall.out j (by omega) h
        clear hp hall
        go_wp2_with (go_at_call 200; refine H.out.mono ?_; rintro e w' ⟨rfl, rfl⟩)
        go_round
        case rel => exact ⟨k + 1, by omega, by go_num, hnext⟩
        case measure => simp [intOf]; omega
    · have hfin := Lib.hid (show decide ((0 : Int) ≤ -1) = !T.all prinS by
        have : T.all prinS = true := List.all_eq_true.2 fun x hx => by
          obtain ⟨j, hj, rfl⟩ := List.getElem_of_mem hx
          exact hall.out j (by omega) hj
        rw [this]; rfl)
      clear hall
      go_wp2_with fail
      go_ret
      exact ⟨-1, rfl, hfin.out, rfl⟩
theorem containsFn (A : Option Addr) (c : Nat) (T : List Str) (w : World) (hL : T.length ≤ 1000000) (hs : ∀ s ∈ T, s.length ≤ maxLen) (hA : SRow w A T) :
    Calls Tryz.prog 157 #[.slice A T.length c, .func (.func 200) #[] #[]] w fun e w' => e = .returned (.bool (!T.all prinS)) ∧ w = w' := by
  have H := Lib.hid (indexFn A c T w hL hs hA)
  go_enter Tryz.func157, Tryz.ntmps157
  go_wp2_with (go_at_call 203; refine H.out.mono ?_; rintro e w' ⟨r, rfl, hr, rfl⟩)
  go_ret
  exact ⟨rfl, rfl⟩
/-- slices.Equal at rows of texts. -/
theorem equalS (A B : Option Addr) (c d : Nat) (T U : List Str) (w : World) (hT : T.length ≤ 1000000) (hU : U.length ≤ 1000000) (hA : SRow w A T) (hB : SRow w B U) :
    Calls Tryz.prog 201 #[.slice A T.length c, .slice B U.length d] w fun e w' => e = .returned (.bool (decide (T = U))) ∧ ∃ q, w' = w.drewN q := by
  by_cases hl : T.length = U.length
  · rcases Nat.eq_zero_or_pos T.length with h0 | h0
    · have e1 : T = [] := List.eq_nil_of_length_eq_zero h0
      have e2 : U = [] := List.eq_nil_of_length_eq_zero (by omega)
      subst e1; subst e2
      refine (Tryz.slices_Equal_string_empty A B c 0 d w (by decide)).mono ?_
      rintro e w' ⟨rfl, rfl⟩
      exact ⟨by simp, 0, rfl⟩
    · obtain ⟨b1, o1, rfl, _, hc1⟩ := hA h0
      obtain ⟨b2, o2, rfl, _, hc2⟩ := hB (by omega)
      have := Tryz.slices_Equal_string b1 o1 T.length c b2 o2 U.length d (T.map enB) (U.map enB) w (by simp) (by simp) (by omega) (by omega) (fun j hj => by
        rw [List.length_map] at hj
        rw [hc1 j hj, List.getD_eq_getElem?_getD, List.getElem?_map, List.getElem?_eq_getElem hj]; rfl) (fun j hj => by
        rw [List.length_map] at hj
        rw [hc2 j hj, List.getD_eq_getElem?_getD, List.getElem?_map, List.getElem?_eq_getElem hj]; rfl)
      refine this.mono ?_
      rintro e w' ⟨rfl, hq⟩
      refine ⟨ret_bool ?_, hq⟩
      rw [List.take_of_length_le (by simp), List.take_of_length_le (by simp)]
      have inj : ∀ x y : Str, enB x = enB y → x = y := fun x y h => by
        have := congrArg (fun z : ByteArray => z.data.toList) h
        simpa [enB] using this
      exact decide_eq_decide.2 ⟨fun h => List.map_inj_right (fun x y => inj x y) |>.1 h, fun h => by rw [h]⟩
  · refine (Tryz.slices_Equal_string_lens A B T.length c U.length d w hl).mono ?_
    rintro e w' ⟨rfl, rfl⟩
    exact ⟨ret_bool (decide_eq_false (fun h => hl (by rw [h]))).symm, 0, rfl⟩
theorem all_len {T : List Str} {n : Nat} (h : T.length ≤ n) : (tab T).length ≤ n := Nat.le_trans (tab_len_le T) h
set_option maxHeartbeats 1000000 in
set_option maxRecDepth 100000 in
theorem rightWho (A : Option Addr) (c : Nat) (T : List Str) (w : World) (hL : T.length ≤ maxLen) (hs : ∀ s ∈ T, s.length ≤ maxLen) (hA : SRow w A T) :
    Calls Tryz.prog 155 #[.slice A T.length c] w fun e w' => e = .returned (.bool (whoOk T)) ∧ Below w.heap.size w w' := by
  have hL' : T.length ≤ 9223372036854775807 := hL
  unfold whoOk
  by_cases h12 : T.length ≤ 12
  · have H := Lib.hid (containsFn A c T w (by omega) hs hA)
    have HA := Lib.hid hA
    have d0 : decide ((T.length : Int) ≤ 12) = true := by simp; omega
    rw [decide_eq_true h12, Bool.true_and]
    clear hA
    cases hp : T.all prinS
    · rw [hp] at H
      clear hp
      go_enter Tryz.func155, Tryz.ntmps155
      go_wp2_with (go_at_call 157; refine H.out.mono ?_; rintro e w' ⟨rfl, rfl⟩)
      go_ret
      exact ⟨rfl, Below.refl _ _⟩
    · rw [hp] at H
      have HN := Lib.hid (new A c T w (by omega) HA.out)
      have HT := Lib.hid (tab_len_le T)
      clear hp
      go_enter Tryz.func155, Tryz.ntmps155
      go_wp2_with (first | (go_at_call 157; refine H.out.mono ?_; rintro e w' ⟨rfl, rfl⟩) | (go_at_call 86; refine HN.out.mono ?_))
      rintro e w1 ⟨p, rfl, ⟨t, v, rfl, ht, hh, hown⟩, hb1⟩
      obtain ⟨A1, c1, rfl, _, hr1⟩ := SRow.of_own hown
      have hcell : w1.cell? ⟨t, 0, none⟩ = some (.slice A1 (tab T).length c1) := by rw [Lib.cell_of_heap hh]; rfl
      have HAL := Lib.hid (all t A1 (tab T) c1 w1 hcell (by have := HT.out; omega) hr1)
      clear hown hr1 hh hcell
      go_wp2_with (go_at_call 27; refine HAL.out.mono ?_)
      rintro e w2 ⟨v2, rfl, hown2, hb2⟩
      obtain ⟨A2, c2, rfl, _, hr2⟩ := SRow.of_own hown2
      have hb := hb1.trans (hb2.mono hb1.size)
      have HE := Lib.hid (equalS A A2 c c2 T (tab T) w2 (by omega) (by have := HT.out; omega) (HA.out.keep hb) hr2)
      generalize hd : decide (T = tab T) = dd at *
      have HD := Lib.hid hd
      clear hown2 hr2 hd
      go_wp2_with (go_at_call 201; refine HE.out.mono ?_)
      rintro e w3 ⟨rfl, n, rfl⟩
      go_wp2_with fail
      go_ret
      exact ⟨ret_bool (by rw [Bool.true_and]; exact HD.out.symm), below_drewN hb _⟩
  · have d0 : decide ((T.length : Int) ≤ 12) = false := by simp; omega
    rw [decide_eq_false h12, Bool.false_and]
    clear hA
    go_enter Tryz.func155, Tryz.ntmps155
    go_wp2_with fail
    go_ret
    exact ⟨rfl, Below.refl _ _⟩
end Go.Proofs.YtcmdiomjhideiaaGreatDoor.Qry1
/- Which queries are right, as the program tells it, by contract. -/
namespace Go.Proofs.YtcmdiomjhideiaaGreatDoor.Qry2
set_option linter.unusedVariables false
set_option linter.unusedSimpArgs false
open Go.RowKit Go.Sort Go.Proofs Go.Proofs.YtcmdiomjhideiaaGreatDoor.Plain Go.Proofs.YtcmdiomjhideiaaGreatDoor.SynP Go.Proofs.YtcmdiomjhideiaaGreatDoor.TabP Go.Proofs.YtcmdiomjhideiaaGreatDoor.Tab1 Go.Proofs.YtcmdiomjhideiaaGreatDoor.Grown Go.Proofs.YtcmdiomjhideiaaGreatDoor.SynE Go.Proofs.YtcmdiomjhideiaaGreatDoor.Syn1 Go.Proofs.YtcmdiomjhideiaaGreatDoor.QryP Go.Proofs.YtcmdiomjhideiaaGreatDoor.Qry1
set_option linter.unusedVariables false
set_option linter.unusedSimpArgs false
theorem isRole' (o n : ByteArray) (w : World) (h1 : o.size ≤ maxLen) (h2 : n.size ≤ maxLen) : Calls Tryz.prog 154 #[.agg #[.string o, .string n]] w fun e w' => e = .returned (.bool (Rl.ok ⟨o, n⟩)) ∧ Grew w w' := isRole ⟨o, n⟩ w ⟨h1, h2⟩
theorem isRoleRef' (o n : ByteArray) (w : World) (h1 : o.size ≤ maxLen) (h2 : n.size ≤ maxLen) : Calls Tryz.prog 66 #[.agg #[.string o, .string n]] w fun e w' => e = .returned (.bool (Rl.ok ⟨o, n⟩)) ∧ Grew w w' := isRoleRef ⟨o, n⟩ w ⟨h1, h2⟩
theorem bcell {W w1 : World} (hb : Below W.heap.size W w1) : (∀ b o, b < W.heap.size → w1.cell? ⟨b, o, none⟩ = W.cell? ⟨b, o, none⟩) ∧ (∀ b o, b < W.heap.size → w1.frozen? ⟨b, o, none⟩ = W.frozen? ⟨b, o, none⟩) :=
  ⟨fun b o h => hb.cell (p := ⟨b, o, none⟩) h, fun b o h => hb.frozen (p := ⟨b, o, none⟩) h⟩
def RightPost (q : Qy) (w : World) (e : Ending) (w' : World) : Prop := e = .returned (.bool q.right) ∧ Below w.heap.size w w'
theorem right_k {k : Int} {a b : Rl} {T : List Str} {r : Bool} (h : Qy.right ⟨k, a, b, T⟩ = r) : Ending.returned (.bool r) = .returned (.bool (Qy.right ⟨k, a, b, T⟩)) := by rw [h]
set_option maxHeartbeats 1000000 in
set_option maxRecDepth 100000 in
theorem right (k : Int) (ao an bo bn : ByteArray) (A : Option Addr) (c : Nat) (T : List Str) (w : World) (hf : Qy.fit ⟨k, ⟨ao, an⟩, ⟨bo, bn⟩, T⟩) (hA : SRow w A T) :
    Calls Tryz.prog 114 #[.agg #[.int .i64 k, .string ao, .string an, .string bo, .string bn, .slice A T.length c]] w (RightPost ⟨k, ⟨ao, an⟩, ⟨bo, bn⟩, T⟩ w) := by
  obtain ⟨fa, fb, fT, fs⟩ := hf
  have HR := Lib.hid (fun w => isRole' ao an w fa.1 fa.2)
  have HB := Lib.hid (fun w => isRole' bo bn w fb.1 fb.2)
  have HW := Lib.hid (fun (w' : World) (hb : Below w.heap.size w w') => rightWho A c T w' fT fs (hA.keep hb))
  have fT' : T.length ≤ 9223372036854775807 := fT
  have hq := eqR bo bn ⟨#[]⟩ ⟨#[]⟩
  have hz : decide ((⟨bo, bn⟩ : Rl) = ⟨⟨#[]⟩, ⟨#[]⟩⟩) = decide ((⟨bo, bn⟩ : Rl) = zeroR) := rfl
  rw [hz] at hq
  cases ha : Rl.ok ⟨ao, an⟩
  · rw [ha] at HR
    have hr : Qy.right ⟨k, ⟨ao, an⟩, ⟨bo, bn⟩, T⟩ = false := by unfold Qy.right; rw [ha]; rfl
    have HF := Lib.hid hr
    clear ha hr hq hz hA fa fb fT fs
    go_enter Tryz.func114, Tryz.ntmps114
    go_wp2_with (go_at_call 154; refine (HR.out _).mono ?_; rintro e w1 ⟨rfl, hg⟩)
    go_ret
    exact ⟨right_k HF.out, ((Below.refl _ _).alloc (Nat.le_refl _) _).trans (hg.below.mono (by simp))⟩
  · rw [ha] at HR
    have hwk : ∃ b, whoOk T = b := ⟨_, rfl⟩
    obtain ⟨wk, hwk⟩ := hwk
    rw [hwk] at HW
    obtain ⟨bz, hbz⟩ : ∃ b, decide ((⟨bo, bn⟩ : Rl) = zeroR) = b := ⟨_, rfl⟩
    rw [hbz] at hq
    obtain ⟨br, hbr⟩ : ∃ b, Rl.ok ⟨bo, bn⟩ = b := ⟨_, rfl⟩
    rw [hbr] at HB
    have HQ := Lib.hid hq
    clear hz hA fa fb fT fs hq
    rcases kinds6 k with rfl | rfl | rfl | rfl | rfl | rfl | hk
    · rcases Nat.eq_zero_or_pos T.length with h0 | h0
      · obtain rfl : T = [] := List.eq_nil_of_length_eq_zero h0
        clear h0
        have HF : Hid (Qy.right ⟨1, ⟨ao, an⟩, ⟨bo, bn⟩, []⟩ = false) := Lib.hid (by unfold Qy.right; simp [ha, hwk, hbz, hbr])
        clear ha hwk hbz hbr
        go_enter Tryz.func114, Tryz.ntmps114
        go_wp2_with fail
        refine (HR.out _).mono ?_
        rintro e w1 ⟨rfl, hg⟩
        obtain ⟨hc1, hf1, hz1⟩ := hg.use
        have hz2 : w.heap.size < w1.heap.size := by rw [World.size_alloc] at hz1; omega
        have hb1 : Below w.heap.size w w1 := ((Below.refl _ _).alloc (Nat.le_refl _) _).trans (hg.below.mono (by simp))
        clear hg
        have hq := HQ.out
        go_wp2_with fail
        go_ret
        exact ⟨right_k HF.out, hb1⟩
      · cases wk
        · have HF : Hid (Qy.right ⟨1, ⟨ao, an⟩, ⟨bo, bn⟩, T⟩ = false) := Lib.hid (by unfold Qy.right; simp [ha, hwk, hbz, hbr, h0])
          clear ha hwk hbz hbr
          go_enter Tryz.func114, Tryz.ntmps114
          go_wp2_with fail
          refine (HR.out _).mono ?_
          rintro e w1 ⟨rfl, hg⟩
          obtain ⟨hc1, hf1, hz1⟩ := hg.use
          have hz2 : w.heap.size < w1.heap.size := by rw [World.size_alloc] at hz1; omega
          have hb1 : Below w.heap.size w w1 := ((Below.refl _ _).alloc (Nat.le_refl _) _).trans (hg.below.mono (by simp))
          clear hg
          have hq := HQ.out
          go_wp2_with fail
          refine (HW.out _ hb1).mono ?_
          rintro e w2 ⟨rfl, hb2⟩
          obtain ⟨hc2, hf2⟩ := bcell hb2
          have hbb := hb1.trans (hb2.mono hb1.size)
          clear hb2
          go_wp2_with fail
          go_ret
          exact ⟨right_k HF.out, hbb⟩
        · have HF : Hid (Qy.right ⟨1, ⟨ao, an⟩, ⟨bo, bn⟩, T⟩ = bz) := Lib.hid (by unfold Qy.right; simp [ha, hwk, hbz, hbr, h0])
          clear ha hwk hbz hbr
          go_enter Tryz.func114, Tryz.ntmps114
          go_wp2_with fail
          refine (HR.out _).mono ?_
          rintro e w1 ⟨rfl, hg⟩
          obtain ⟨hc1, hf1, hz1⟩ := hg.use
          have hz2 : w.heap.size < w1.heap.size := by rw [World.size_alloc] at hz1; omega
          have hb1 : Below w.heap.size w w1 := ((Below.refl _ _).alloc (Nat.le_refl _) _).trans (hg.below.mono (by simp))
          clear hg
          have hq := HQ.out
          go_wp2_with fail
          refine (HW.out _ hb1).mono ?_
          rintro e w2 ⟨rfl, hb2⟩
          obtain ⟨hc2, hf2⟩ := bcell hb2
          have hbb := hb1.trans (hb2.mono hb1.size)
          clear hb2
          go_wp2_with fail
          go_ret
          exact ⟨right_k HF.out, hbb⟩
    · rcases Nat.eq_zero_or_pos T.length with h0 | h0
      · obtain rfl : T = [] := List.eq_nil_of_length_eq_zero h0
        clear h0
        have HF : Hid (Qy.right ⟨2, ⟨ao, an⟩, ⟨bo, bn⟩, []⟩ = false) := Lib.hid (by unfold Qy.right; simp [ha, hwk, hbz, hbr])
        clear ha hwk hbz hbr
        go_enter Tryz.func114, Tryz.ntmps114
        go_wp2_with fail
        refine (HR.out _).mono ?_
        rintro e w1 ⟨rfl, hg⟩
        obtain ⟨hc1, hf1, hz1⟩ := hg.use
        have hz2 : w.heap.size < w1.heap.size := by rw [World.size_alloc] at hz1; omega
        have hb1 : Below w.heap.size w w1 := ((Below.refl _ _).alloc (Nat.le_refl _) _).trans (hg.below.mono (by simp))
        clear hg
        have hq := HQ.out
        go_wp2_with fail
        go_ret
        exact ⟨right_k HF.out, hb1⟩
      · cases wk
        · have HF : Hid (Qy.right ⟨2, ⟨ao, an⟩, ⟨bo, bn⟩, T⟩ = false) := Lib.hid (by unfold Qy.right; simp [ha, hwk, hbz, hbr, h0])
          clear ha hwk hbz hbr
          go_enter Tryz.func114, Tryz.ntmps114
          go_wp2_with fail
          refine (HR.out _).mono ?_
          rintro e w1 ⟨rfl, hg⟩
          obtain ⟨hc1, hf1, hz1⟩ := hg.use
          have hz2 : w.heap.size < w1.heap.size := by rw [World.size_alloc] at hz1; omega
          have hb1 : Below w.heap.size w w1 := ((Below.refl _ _).alloc (Nat.le_refl _) _).trans (hg.below.mono (by simp))
          clear hg
          have hq := HQ.out
          go_wp2_with fail
          refine (HW.out _ hb1).mono ?_
          rintro e w2 ⟨rfl, hb2⟩
          obtain ⟨hc2, hf2⟩ := bcell hb2
          have hbb := hb1.trans (hb2.mono hb1.size)
          clear hb2
          go_wp2_with fail
          go_ret
          exact ⟨right_k HF.out, hbb⟩
        · have HF : Hid (Qy.right ⟨2, ⟨ao, an⟩, ⟨bo, bn⟩, T⟩ = bz) := Lib.hid (by unfold Qy.right; simp [ha, hwk, hbz, hbr, h0])
          clear ha hwk hbz hbr
          go_enter Tryz.func114, Tryz.ntmps114
          go_wp2_with fail
          refine (HR.out _).mono ?_
          rintro e w1 ⟨rfl, hg⟩
          obtain ⟨hc1, hf1, hz1⟩ := hg.use
          have hz2 : w.heap.size < w1.heap.size := by rw [World.size_alloc] at hz1; omega
          have hb1 : Below w.heap.size w w1 := ((Below.refl _ _).alloc (Nat.le_refl _) _).trans (hg.below.mono (by simp))
          clear hg
          have hq := HQ.out
          go_wp2_with fail
          refine (HW.out _ hb1).mono ?_
          rintro e w2 ⟨rfl, hb2⟩
          obtain ⟨hc2, hf2⟩ := bcell hb2
          have hbb := hb1.trans (hb2.mono hb1.size)
          clear hb2
          go_wp2_with fail
          go_ret
          exact ⟨right_k HF.out, hbb⟩
    · cases wk
      · have HF : Hid (Qy.right ⟨3, ⟨ao, an⟩, ⟨bo, bn⟩, T⟩ = false) := Lib.hid (by unfold Qy.right; simp [ha, hwk, hbz, hbr])
        clear ha hwk hbz hbr
        go_enter Tryz.func114, Tryz.ntmps114
        go_wp2_with fail
        refine (HR.out _).mono ?_
        rintro e w1 ⟨rfl, hg⟩
        obtain ⟨hc1, hf1, hz1⟩ := hg.use
        have hz2 : w.heap.size < w1.heap.size := by rw [World.size_alloc] at hz1; omega
        have hb1 : Below w.heap.size w w1 := ((Below.refl _ _).alloc (Nat.le_refl _) _).trans (hg.below.mono (by simp))
        clear hg
        have hq := HQ.out
        go_wp2_with fail
        refine (HW.out _ hb1).mono ?_
        rintro e w2 ⟨rfl, hb2⟩
        obtain ⟨hc2, hf2⟩ := bcell hb2
        have hbb := hb1.trans (hb2.mono hb1.size)
        clear hb2
        go_wp2_with fail
        go_ret
        exact ⟨right_k HF.out, hbb⟩
      · have HF : Hid (Qy.right ⟨3, ⟨ao, an⟩, ⟨bo, bn⟩, T⟩ = bz) := Lib.hid (by unfold Qy.right; simp [ha, hwk, hbz, hbr])
        clear ha hwk hbz hbr
        go_enter Tryz.func114, Tryz.ntmps114
        go_wp2_with fail
        refine (HR.out _).mono ?_
        rintro e w1 ⟨rfl, hg⟩
        obtain ⟨hc1, hf1, hz1⟩ := hg.use
        have hz2 : w.heap.size < w1.heap.size := by rw [World.size_alloc] at hz1; omega
        have hb1 : Below w.heap.size w w1 := ((Below.refl _ _).alloc (Nat.le_refl _) _).trans (hg.below.mono (by simp))
        clear hg
        have hq := HQ.out
        go_wp2_with fail
        refine (HW.out _ hb1).mono ?_
        rintro e w2 ⟨rfl, hb2⟩
        obtain ⟨hc2, hf2⟩ := bcell hb2
        have hbb := hb1.trans (hb2.mono hb1.size)
        clear hb2
        go_wp2_with fail
        go_ret
        exact ⟨right_k HF.out, hbb⟩
    · rcases Nat.eq_zero_or_pos T.length with h0 | h0
      · obtain rfl : T = [] := List.eq_nil_of_length_eq_zero h0
        clear h0
        have HF : Hid (Qy.right ⟨4, ⟨ao, an⟩, ⟨bo, bn⟩, []⟩ = bz) := Lib.hid (by unfold Qy.right; simp [ha, hwk, hbz, hbr])
        clear ha hwk hbz hbr
        go_enter Tryz.func114, Tryz.ntmps114
        go_wp2_with fail
        refine (HR.out _).mono ?_
        rintro e w1 ⟨rfl, hg⟩
        obtain ⟨hc1, hf1, hz1⟩ := hg.use
        have hz2 : w.heap.size < w1.heap.size := by rw [World.size_alloc] at hz1; omega
        have hb1 : Below w.heap.size w w1 := ((Below.refl _ _).alloc (Nat.le_refl _) _).trans (hg.below.mono (by simp))
        clear hg
        have hq := HQ.out
        go_wp2_with fail
        go_ret
        exact ⟨right_k HF.out, hb1⟩
      · have hn : (T.length : Int) ≠ 0 := by omega
        have d0 : ((T.length : Int) == 0) = false := by simpa using hn
        have d1 : T.length ≠ 0 := by omega
        have HN := Lib.hid d1
        clear hn d1
        have HF : Hid (Qy.right ⟨4, ⟨ao, an⟩, ⟨bo, bn⟩, T⟩ = false) := Lib.hid (by unfold Qy.right; simp [ha, hwk, hbz, hbr, HN.out])
        clear ha hwk hbz hbr
        go_enter Tryz.func114, Tryz.ntmps114
        go_wp2_with fail
        refine (HR.out _).mono ?_
        rintro e w1 ⟨rfl, hg⟩
        obtain ⟨hc1, hf1, hz1⟩ := hg.use
        have hz2 : w.heap.size < w1.heap.size := by rw [World.size_alloc] at hz1; omega
        have hb1 : Below w.heap.size w w1 := ((Below.refl _ _).alloc (Nat.le_refl _) _).trans (hg.below.mono (by simp))
        clear hg
        have hq := HQ.out
        go_wp2_with fail
        go_ret
        exact ⟨right_k HF.out, hb1⟩
    · rcases Nat.eq_zero_or_pos T.length with h0 | h0
      · obtain rfl : T = [] := List.eq_nil_of_length_eq_zero h0
        clear h0
        have HF : Hid (Qy.right ⟨5, ⟨ao, an⟩, ⟨bo, bn⟩, []⟩ = br) := Lib.hid (by unfold Qy.right; simp [ha, hwk, hbz, hbr])
        clear ha hwk hbz hbr
        go_enter Tryz.func114, Tryz.ntmps114
        go_wp2_with fail
        refine (HR.out _).mono ?_
        rintro e w1 ⟨rfl, hg⟩
        obtain ⟨hc1, hf1, hz1⟩ := hg.use
        have hz2 : w.heap.size < w1.heap.size := by rw [World.size_alloc] at hz1; omega
        have hb1 : Below w.heap.size w w1 := ((Below.refl _ _).alloc (Nat.le_refl _) _).trans (hg.below.mono (by simp))
        clear hg
        have hq := HQ.out
        go_wp2_with fail
        refine (HB.out _).mono ?_
        rintro e w2 ⟨rfl, hg2⟩
        have hbb := hb1.trans (hg2.below.mono hb1.size)
        clear hg2
        go_wp2_with fail
        go_ret
        exact ⟨right_k HF.out, hbb⟩
      · have hn : (T.length : Int) ≠ 0 := by omega
        have d0 : ((T.length : Int) == 0) = false := by simpa using hn
        have d1 : T.length ≠ 0 := by omega
        have HN := Lib.hid d1
        clear hn d1
        have HF : Hid (Qy.right ⟨5, ⟨ao, an⟩, ⟨bo, bn⟩, T⟩ = false) := Lib.hid (by unfold Qy.right; simp [ha, hwk, hbz, hbr, HN.out])
        clear ha hwk hbz hbr
        go_enter Tryz.func114, Tryz.ntmps114
        go_wp2_with fail
        refine (HR.out _).mono ?_
        rintro e w1 ⟨rfl, hg⟩
        obtain ⟨hc1, hf1, hz1⟩ := hg.use
        have hz2 : w.heap.size < w1.heap.size := by rw [World.size_alloc] at hz1; omega
        have hb1 : Below w.heap.size w w1 := ((Below.refl _ _).alloc (Nat.le_refl _) _).trans (hg.below.mono (by simp))
        clear hg
        have hq := HQ.out
        go_wp2_with fail
        go_ret
        exact ⟨right_k HF.out, hb1⟩
    · rcases Nat.eq_zero_or_pos T.length with h0 | h0
      · obtain rfl : T = [] := List.eq_nil_of_length_eq_zero h0
        clear h0
        have HF : Hid (Qy.right ⟨6, ⟨ao, an⟩, ⟨bo, bn⟩, []⟩ = br) := Lib.hid (by unfold Qy.right; simp [ha, hwk, hbz, hbr])
        clear ha hwk hbz hbr
        go_enter Tryz.func114, Tryz.ntmps114
        go_wp2_with fail
        refine (HR.out _).mono ?_
        rintro e w1 ⟨rfl, hg⟩
        obtain ⟨hc1, hf1, hz1⟩ := hg.use
        have hz2 : w.heap.size < w1.heap.size := by rw [World.size_alloc] at hz1; omega
        have hb1 : Below w.heap.size w w1 := ((Below.refl _ _).alloc (Nat.le_refl _) _).trans (hg.below.mono (by simp))
        clear hg
        have hq := HQ.out
        go_wp2_with fail
        refine (HB.out _).mono ?_
        rintro e w2 ⟨rfl, hg2⟩
        have hbb := hb1.trans (hg2.below.mono hb1.size)
        clear hg2
        go_wp2_with fail
        go_ret
        exact ⟨right_k HF.out, hbb⟩
      · have hn : (T.length : Int) ≠ 0 := by omega
        have d0 : ((T.length : Int) == 0) = false := by simpa using hn
        have d1 : T.length ≠ 0 := by omega
        have HN := Lib.hid d1
        clear hn d1
        have HF : Hid (Qy.right ⟨6, ⟨ao, an⟩, ⟨bo, bn⟩, T⟩ = false) := Lib.hid (by unfold Qy.right; simp [ha, hwk, hbz, hbr, HN.out])
        clear ha hwk hbz hbr
        go_enter Tryz.func114, Tryz.ntmps114
        go_wp2_with fail
        refine (HR.out _).mono ?_
        rintro e w1 ⟨rfl, hg⟩
        obtain ⟨hc1, hf1, hz1⟩ := hg.use
        have hz2 : w.heap.size < w1.heap.size := by rw [World.size_alloc] at hz1; omega
        have hb1 : Below w.heap.size w w1 := ((Below.refl _ _).alloc (Nat.le_refl _) _).trans (hg.below.mono (by simp))
        clear hg
        have hq := HQ.out
        go_wp2_with fail
        go_ret
        exact ⟨right_k HF.out, hb1⟩
    · have e1 : (k == 1) = false := by simp; omega
      have e2 : (k == 2) = false := by simp; omega
      have e3 : (k == 3) = false := by simp; omega
      have e4 : (k == 4) = false := by simp; omega
      have e5 : (k == 5) = false := by simp; omega
      have e6 : (k == 6) = false := by simp; omega
      have HF : Hid (Qy.right ⟨k, ⟨ao, an⟩, ⟨bo, bn⟩, T⟩ = false) := Lib.hid (by
        unfold Qy.right
        rw [ha]
        simp only [Bool.true_and]
        rw [if_neg (show ¬ (k = 1 ∨ k = 2) by omega), if_neg (show ¬ k = 3 by omega), if_neg (show ¬ k = 4 by omega), if_neg (show ¬ (k = 5 ∨ k = 6) by omega)])
      clear ha hwk hbz hbr hk
      go_enter Tryz.func114, Tryz.ntmps114
      go_wp2_with fail
      refine (HR.out _).mono ?_
      rintro e w1 ⟨rfl, hg⟩
      obtain ⟨hc1, hf1, hz1⟩ := hg.use
      have hz2 : w.heap.size < w1.heap.size := by rw [World.size_alloc] at hz1; omega
      have hb1 : Below w.heap.size w w1 := ((Below.refl _ _).alloc (Nat.le_refl _) _).trans (hg.below.mono (by simp))
      clear hg
      have hq := HQ.out
      go_wp2_with fail
      go_ret
      exact ⟨right_k HF.out, hb1⟩
end Go.Proofs.YtcmdiomjhideiaaGreatDoor.Qry2
/- What is asked by kind: Universal, Words and the rest, by contract. -/
namespace Go.Proofs.YtcmdiomjhideiaaGreatDoor.Qry6
set_option linter.unusedVariables false
set_option linter.unusedSimpArgs false
open Go.RowKit Go.Sort Go.Proofs Go.Proofs.YtcmdiomjhideiaaGreatDoor.Plain Go.Proofs.YtcmdiomjhideiaaGreatDoor.SynP Go.Proofs.YtcmdiomjhideiaaGreatDoor.TabP Go.Proofs.YtcmdiomjhideiaaGreatDoor.Tab1 Go.Proofs.YtcmdiomjhideiaaGreatDoor.Grown Go.Proofs.YtcmdiomjhideiaaGreatDoor.SynA Go.Proofs.YtcmdiomjhideiaaGreatDoor.SynC Go.Proofs.YtcmdiomjhideiaaGreatDoor.QryP Go.Proofs.YtcmdiomjhideiaaGreatDoor.Qry4 Go.Proofs.YtcmdiomjhideiaaGreatDoor.Qry5 Go.Proofs.YtcmdiomjhideiaaGreatDoor.QryG
set_option linter.unusedVariables false
set_option linter.unusedSimpArgs false
theorem srow_new (w : World) (T : List Str) (t : TypeId) : SRow (w.alloc (.cells (T.map encStr).toArray t)) (some ⟨w.heap.size, 0, none⟩) T := fun _ =>
  ⟨w.heap.size, 0, rfl, by simp, fun j hj => by
    rw [Lib.cell_of_heap (heap_alloc_new w _), Nat.zero_add]
    simp [hj]⟩
theorem others {k : Int} (h : k < 1 ∨ 6 < k) : (k == 1) = false ∧ (k == 2) = false ∧ (k == 3) = false ∧ (k == 4) = false ∧ (k == 5) = false ∧ (k == 6) = false := by
  refine ⟨?_, ?_, ?_, ?_, ?_, ?_⟩ <;> (simp; omega)
theorem hasB (k : Int) (w : World) : Calls Tryz.prog 230 #[.int .i64 k] w fun e w' => e = .returned (.bool (hasBk k)) ∧ ∃ n, w' = w.drewN n := by
  rcases kinds6 k with rfl | rfl | rfl | rfl | rfl | rfl | hk
  · go_enter Tryz.func230, Tryz.ntmps230
    go_wp2
    go_ret
    exact ⟨rfl, 0, rfl⟩
  · go_enter Tryz.func230, Tryz.ntmps230
    go_wp2
    go_ret
    exact ⟨rfl, 0, rfl⟩
  · go_enter Tryz.func230, Tryz.ntmps230
    go_wp2
    go_ret
    exact ⟨rfl, 0, rfl⟩
  · go_enter Tryz.func230, Tryz.ntmps230
    go_wp2
    go_ret
    exact ⟨rfl, 0, rfl⟩
  · go_enter Tryz.func230, Tryz.ntmps230
    go_wp2
    go_ret
    exact ⟨rfl, 0, rfl⟩
  · go_enter Tryz.func230, Tryz.ntmps230
    go_wp2
    go_ret
    exact ⟨rfl, 0, rfl⟩
  · have hf : hasBk k = false := by unfold hasBk; exact decide_eq_false (by omega)
    obtain ⟨e1, e2, e3, e4, e5, e6⟩ := others hk
    rw [hf]
    clear hf hk
    go_enter Tryz.func230, Tryz.ntmps230
    go_wp2
    go_ret
    exact ⟨rfl, 0, rfl⟩
end Go.Proofs.YtcmdiomjhideiaaGreatDoor.Qry6
