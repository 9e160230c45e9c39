/- The line of a query, in the program, by contract. -/
import Derived.Test.YtcmdiomjhideiaaGreatDoorM13
import Derived.Test.YtcmdiomjhideiaaGreatDoorM12
import Derived.Test.YtcmdiomjhideiaaGreatDoorJoin
import Derived.Test.YtcmdiomjhideiaaGreatDoorM11
import Derived.Test.YtcmdiomjhideiaaGreatDoorM06
import Derived.Test.YtcmdiomjhideiaaGreatDoorM04
import Derived.Test.YtcmdiomjhideiaaGreatDoorM08
namespace Go.Proofs.YtcmdiomjhideiaaGreatDoor.QryH
set_option linter.unusedVariables false
set_option linter.unusedSimpArgs false
open Go.RowKit Go.Sort Go.Proofs Go.Proofs.YtcmdiomjhideiaaGreatDoor.Plain Go.Proofs.YtcmdiomjhideiaaGreatDoor.SynP Go.Proofs.YtcmdiomjhideiaaGreatDoor.TabP Go.Proofs.YtcmdiomjhideiaaGreatDoor.Tab1 Go.Proofs.YtcmdiomjhideiaaGreatDoor.Grown Go.Proofs.YtcmdiomjhideiaaGreatDoor.SynC Go.Proofs.YtcmdiomjhideiaaGreatDoor.SynW Go.Proofs.YtcmdiomjhideiaaGreatDoor.QryP Go.Proofs.YtcmdiomjhideiaaGreatDoor.Qry2 Go.Proofs.YtcmdiomjhideiaaGreatDoor.Qry4 Go.Proofs.YtcmdiomjhideiaaGreatDoor.Qry5 Go.Proofs.YtcmdiomjhideiaaGreatDoor.QryG Go.Proofs.YtcmdiomjhideiaaGreatDoor.Qry6 Go.Proofs.YtcmdiomjhideiaaGreatDoor.Qry7 Go.Proofs.YtcmdiomjhideiaaGreatDoor.QryA Go.Proofs.YtcmdiomjhideiaaGreatDoor.QryL
set_option linter.unusedVariables false
set_option linter.unusedSimpArgs false
theorem bs_of (x : ByteArray) : x = ⟨(bs x).toArray⟩ := text_of x
end Go.Proofs.YtcmdiomjhideiaaGreatDoor.QryH
/- The line of a query that may be, in the program, by contract. -/
namespace Go.Proofs.YtcmdiomjhideiaaGreatDoor.QryI
set_option linter.unusedVariables false
set_option linter.unusedSimpArgs false
open Go.RowKit Go.Sort Go.Proofs Go.Proofs.YtcmdiomjhideiaaGreatDoor.Plain Go.Proofs.YtcmdiomjhideiaaGreatDoor.SynP Go.Proofs.YtcmdiomjhideiaaGreatDoor.TabP Go.Proofs.YtcmdiomjhideiaaGreatDoor.Tab1 Go.Proofs.YtcmdiomjhideiaaGreatDoor.Grown Go.Proofs.YtcmdiomjhideiaaGreatDoor.SynC Go.Proofs.YtcmdiomjhideiaaGreatDoor.SynW Go.Proofs.YtcmdiomjhideiaaGreatDoor.QryP Go.Proofs.YtcmdiomjhideiaaGreatDoor.Qry2 Go.Proofs.YtcmdiomjhideiaaGreatDoor.Qry4 Go.Proofs.YtcmdiomjhideiaaGreatDoor.Qry5 Go.Proofs.YtcmdiomjhideiaaGreatDoor.QryG Go.Proofs.YtcmdiomjhideiaaGreatDoor.Qry6 Go.Proofs.YtcmdiomjhideiaaGreatDoor.Qry7 Go.Proofs.YtcmdiomjhideiaaGreatDoor.QryA Go.Proofs.YtcmdiomjhideiaaGreatDoor.QryL Go.Proofs.YtcmdiomjhideiaaGreatDoor.QryH
set_option linter.unusedVariables false
set_option linter.unusedSimpArgs false
theorem who_len {q : Qy} (h : q.right = true) : q.who.length ≤ 12 := by
  rcases (right_parts h).2 with ⟨_, _, hw, _, _⟩ | ⟨_, hw, _⟩ | ⟨_, _, hw, _⟩
  · exact (who_parts hw).1
  · rw [hw]; decide
  · rw [hw]; decide
end Go.Proofs.YtcmdiomjhideiaaGreatDoor.QryI
/- Which queries are right, as the document tells it, by contract. -/
namespace Go.Proofs.YtcmdiomjhideiaaGreatDoor.Qry3
set_option linter.unusedVariables false
set_option linter.unusedSimpArgs false
open Go.RowKit Go.Sort Go.Proofs Go.Proofs.YtcmdiomjhideiaaGreatDoor.Plain Go.Proofs.YtcmdiomjhideiaaGreatDoor.SynP Go.Proofs.YtcmdiomjhideiaaGreatDoor.TabP Go.Proofs.YtcmdiomjhideiaaGreatDoor.Tab1 Go.Proofs.YtcmdiomjhideiaaGreatDoor.Grown Go.Proofs.YtcmdiomjhideiaaGreatDoor.SynE Go.Proofs.YtcmdiomjhideiaaGreatDoor.Syn1 Go.Proofs.YtcmdiomjhideiaaGreatDoor.RefN Go.Proofs.YtcmdiomjhideiaaGreatDoor.QryP Go.Proofs.YtcmdiomjhideiaaGreatDoor.Qry1 Go.Proofs.YtcmdiomjhideiaaGreatDoor.Qry2
set_option linter.unusedVariables false
set_option linter.unusedSimpArgs false
theorem bytesLess_eq (x y : Str) : Op.bytesLess x y = decide (x < y) := by
  have := less_eq ⟨x.toArray⟩ ⟨y.toArray⟩
  unfold strLt at this
  simpa [Go.ByteArray.toList_eq] using this
theorem right_who {k : Int} {a b : Rl} {T : List Str} {i : Nat} (hi : i < T.length) (h : (T.all prinS && decide (T = tab T)) = false) : Qy.right ⟨k, a, b, T⟩ = false := by
  have h0 : T.length ≠ 0 := by omega
  have e : whoOk T = false := by unfold whoOk; rw [Bool.and_assoc, h, Bool.and_false]
  unfold Qy.right
  simp only [e, decide_eq_false h0, Bool.and_false, Bool.false_and]
  have : (if k = 1 ∨ k = 2 then false else if k = 3 then false else if k = 4 then false else if k = 5 ∨ k = 6 then false else false) = false := by split <;> (try split) <;> (try split) <;> (try split) <;> rfl
  rw [this, Bool.and_false]
theorem who_len {T : List Str} (h : risesTo T T.length) : whoOk T = decide (T.length ≤ 12) := by
  unfold whoOk; rw [Bool.and_assoc, who_of h, Bool.and_true]
set_option maxHeartbeats 2000000 in
set_option maxRecDepth 100000 in
theorem rightRef (k : Int) (ao an bo bn : ByteArray) (A : Option Addr) (c : Nat) (T : List Str) (w : World) (hf : Qy.fit ⟨k, ⟨ao, an⟩, ⟨bo, bn⟩, T⟩) (hA : SRow w A T) :
    Calls Tryz.prog 56 #[.agg #[.int .i64 k, .string ao, .string an, .string bo, .string bn, .slice A T.length c]] w (RightPost ⟨k, ⟨ao, an⟩, ⟨bo, bn⟩, T⟩ w) := by
  obtain ⟨fa, fb, fT, fs⟩ := hf
  have fT' : T.length ≤ 9223372036854775807 := fT
  by_cases hk : k < 1 ∨ 6 < k
  · have HF : Hid (Qy.right ⟨k, ⟨ao, an⟩, ⟨bo, bn⟩, T⟩ = false) := Lib.hid (by
      unfold Qy.right
      rw [if_neg (show ¬ (k = 1 ∨ k = 2) by omega), if_neg (show ¬ k = 3 by omega), if_neg (show ¬ k = 4 by omega), if_neg (show ¬ (k = 5 ∨ k = 6) by omega), Bool.and_false])
    clear hA fa fb fs fT
    rcases hk with hk | hk
    · go_enter Tryz.func56, Tryz.ntmps56
      go_wp2_with fail
      go_ret
      exact ⟨right_k HF.out, (Below.refl _ _).alloc (Nat.le_refl _) _⟩
    · have hk' : ¬ k < 1 := by omega
      go_enter Tryz.func56, Tryz.ntmps56
      go_wp2_with fail
      go_ret
      exact ⟨right_k HF.out, (Below.refl _ _).alloc (Nat.le_refl _) _⟩
  have k1 : 1 ≤ k := by omega
  have k6 : k ≤ 6 := by omega
  clear hk
  have HR := Lib.hid (fun w => isRoleRef' ao an w fa.1 fa.2)
  have HB := Lib.hid (fun w => isRoleRef' bo bn w fb.1 fb.2)
  have hq := neR bo bn ⟨#[]⟩ ⟨#[]⟩
  have hz : decide ((⟨bo, bn⟩ : Rl) = ⟨⟨#[]⟩, ⟨#[]⟩⟩) = decide ((⟨bo, bn⟩ : Rl) = zeroR) := rfl
  rw [hz] at hq
  cases ha : Rl.ok ⟨ao, an⟩
  · rw [ha] at HR
    have HF : Hid (Qy.right ⟨k, ⟨ao, an⟩, ⟨bo, bn⟩, T⟩ = false) := Lib.hid (by unfold Qy.right; rw [ha]; rfl)
    clear ha hq hz hA fa fb fT fs
    go_enter Tryz.func56, Tryz.ntmps56
    go_wp2_with (go_at_call 66; refine (HR.out _).mono ?_; rintro e w1 ⟨rfl, hg⟩)
    go_ret
    exact ⟨right_k HF.out, ((Below.refl _ _).alloc (Nat.le_refl _) _).trans (hg.below.mono (by simp))⟩
  · rw [ha] at HR
    obtain ⟨bz, hbz⟩ : ∃ b, decide ((⟨bo, bn⟩ : Rl) = zeroR) = b := ⟨_, rfl⟩
    rw [hbz] at hq
    obtain ⟨br, hbr⟩ : ∃ b, Rl.ok ⟨bo, bn⟩ = b := ⟨_, rfl⟩
    rw [hbr] at HB
    have HQ := Lib.hid hq
    have HA := Lib.hid hA
    have HS := Lib.hid fs
    have Ha := Lib.hid ha
    have Hbz := Lib.hid hbz
    have Hbr := Lib.hid hbr
    clear hz hA fa fb fT fs hq ha hbz hbr
    go_enter Tryz.func56, Tryz.ntmps56
    go_wp2_with fail
    refine (HR.out _).mono ?_
    rintro e w1 ⟨rfl, hg⟩
    have hb1 : Below w.heap.size w w1 := ((Below.refl _ _).alloc (Nat.le_refl _) _).trans (hg.below.mono (by simp))
    have hz2 : w.heap.size < w1.heap.size := by have := hg.size; rw [World.size_alloc] at this; omega
    have hbox : ∀ o, w1.cell? ⟨w.heap.size, o, none⟩ = (#[.int .i64 k, .string ao, .string an, .string bo, .string bn, .slice A T.length c] : Array Value)[o]? := fun o => (hg.cell (a := ⟨w.heap.size, o, none⟩) (by simp)).trans (Lib.cell_of_heap (heap_alloc_new w _) o)
    have c0 := hbox 0
    have c3 := hbox 3
    have c4 := hbox 4
    have c5 := hbox 5
    simp only [List.getElem?_toArray, List.getElem?_cons_zero, List.getElem?_cons_succ] at c0 c3 c4 c5
    clear hbox hg
    go_wp2_with fail
    go_loop [22] (fun i => ∃ n : Nat, n ≤ T.length ∧ i = .int .i64 n ∧ Hid (risesTo T n)) (fun i => T.length - (intOf i).toNat)
    case atStart => exact ⟨0, by omega, rfl, Lib.hid fun j hj => by omega⟩
    case round =>
      obtain ⟨n, hn, rfl, hall⟩ := hrel
      by_cases hlt : n < T.length
      · obtain ⟨g, off, rfl, hg0, hcell⟩ := (HA.out.keep hb1) (by omega)
        have hx := hcell n hlt
        have p1 : (0 : Int) ≤ n := by omega
        have p2 : (n : Int) < T.length := by omega
        have H := Lib.hid (refIsPrin ⟨T[n].toArray⟩ w1 (by simpa [ByteArray.size] using HS.out _ (List.getElem_mem _)))
        cases hp : prinS T[n]
        · have hp' : named capB (⟨T[n].toArray⟩ : ByteArray).data.toList = false := hp
          rw [hp'] at H
          have HF : Hid (Qy.right ⟨k, ⟨ao, an⟩, ⟨bo, bn⟩, T⟩ = false) := Lib.hid (right_who hlt (who_bad hlt hp))
          clear hp hp' hall hcell
          go_wp2_with (go_at_call 115; refine H.out.mono ?_; rintro e w' ⟨rfl, rfl⟩)
          go_ret
          exact ⟨right_k HF.out, hb1⟩
        · have hp' : named capB (⟨T[n].toArray⟩ : ByteArray).data.toList = true := hp
          rw [hp'] at H
          clear hp'
          rcases Nat.eq_zero_or_pos n with h0 | h0
          · subst h0
            simp only [Nat.add_zero] at hx
            have hnext : Hid (risesTo T (0 + 1)) := Lib.hid fun j hj h => by
              have : j = 0 := by omega
              subst this
              exact ⟨hp, fun h => by omega⟩
            clear hp hall hcell
            go_wp2_with (go_at_call 115; refine H.out.mono ?_; rintro e w' ⟨rfl, rfl⟩)
            go_round
            case rel => exact ⟨0 + 1, by omega, rfl, hnext⟩
            case measure => simp [intOf]; omega
          · have hy := hcell (n - 1) (by omega)
            have q0 : (0 : Int) < n := by omega
            have q1 : (0 : Int) ≤ (n : Int) - 1 := by omega
            have q2 : (n : Int) - 1 < T.length := by omega
            have q3 : ((n : Int) - 1).toNat = n - 1 := by omega
            have hge := bytesLess_eq T[n - 1] T[n]
            by_cases hl : T[n - 1] < T[n]
            · rw [decide_eq_true hl] at hge
              have hnext : Hid (risesTo T (n + 1)) := Lib.hid fun j hj h => by
                by_cases e : j = n
                · subst e; exact ⟨hp, fun _ => hl⟩
                · exact hall.out j (by omega) h
              clear hp hl hall hcell
              go_wp2_with (go_at_call 115; refine H.out.mono ?_; rintro e w' ⟨rfl, rfl⟩)
              go_round
              case rel => exact ⟨n + 1, by omega, by go_num, hnext⟩
              case measure => simp [intOf]; omega
            · rw [decide_eq_false hl] at hge
              have HF : Hid (Qy.right ⟨k, ⟨ao, an⟩, ⟨bo, bn⟩, T⟩ = false) := Lib.hid (right_who hlt (who_down hlt h0 hl))
              clear hp hl hall hcell
              go_wp2_with (go_at_call 115; refine H.out.mono ?_; rintro e w' ⟨rfl, rfl⟩)
              go_ret
              exact ⟨right_k HF.out, hb1⟩
      · obtain rfl : n = T.length := by omega
        have hwk := Lib.hid (who_len hall.out)
        clear hall
        have hq := HQ.out
        clear hn
        rcases kinds6 k with rfl | rfl | rfl | rfl | rfl | rfl | hk
        · rcases Nat.eq_zero_or_pos T.length with h0 | h0
          · obtain rfl : T = [] := List.eq_nil_of_length_eq_zero h0
            have HF : Hid (Qy.right ⟨1, ⟨ao, an⟩, ⟨bo, bn⟩, []⟩ = false) := Lib.hid (by unfold Qy.right; simp)
            clear h0
            cases bz
            all_goals
              go_wp2_with fail
              go_ret
              exact ⟨right_k HF.out, hb1⟩
          · by_cases h12 : T.length ≤ 12
            · have HF : Hid (Qy.right ⟨1, ⟨ao, an⟩, ⟨bo, bn⟩, T⟩ = bz) := Lib.hid (by unfold Qy.right; simp [Ha.out, Hbz.out, hwk.out, h0, h12])
              have d12 : decide ((12 : Int) < T.length) = false := by simp; omega
              cases bz
              all_goals
                go_wp2_with fail
                go_ret
                exact ⟨right_k HF.out, hb1⟩
            · have HF : Hid (Qy.right ⟨1, ⟨ao, an⟩, ⟨bo, bn⟩, T⟩ = false) := Lib.hid (by unfold Qy.right; simp [hwk.out, h12])
              have d12 : decide ((12 : Int) < T.length) = true := by simp; omega
              cases bz
              all_goals
                go_wp2_with fail
                go_ret
                exact ⟨right_k HF.out, hb1⟩
        · rcases Nat.eq_zero_or_pos T.length with h0 | h0
          · obtain rfl : T = [] := List.eq_nil_of_length_eq_zero h0
            have HF : Hid (Qy.right ⟨2, ⟨ao, an⟩, ⟨bo, bn⟩, []⟩ = false) := Lib.hid (by unfold Qy.right; simp)
            clear h0
            cases bz
            all_goals
              go_wp2_with fail
              go_ret
              exact ⟨right_k HF.out, hb1⟩
          · by_cases h12 : T.length ≤ 12
            · have HF : Hid (Qy.right ⟨2, ⟨ao, an⟩, ⟨bo, bn⟩, T⟩ = bz) := Lib.hid (by unfold Qy.right; simp [Ha.out, Hbz.out, hwk.out, h0, h12])
              have d12 : decide ((12 : Int) < T.length) = false := by simp; omega
              cases bz
              all_goals
                go_wp2_with fail
                go_ret
                exact ⟨right_k HF.out, hb1⟩
            · have HF : Hid (Qy.right ⟨2, ⟨ao, an⟩, ⟨bo, bn⟩, T⟩ = false) := Lib.hid (by unfold Qy.right; simp [hwk.out, h12])
              have d12 : decide ((12 : Int) < T.length) = true := by simp; omega
              cases bz
              all_goals
                go_wp2_with fail
                go_ret
                exact ⟨right_k HF.out, hb1⟩
        · by_cases h12 : T.length ≤ 12
          · have HF : Hid (Qy.right ⟨3, ⟨ao, an⟩, ⟨bo, bn⟩, T⟩ = bz) := Lib.hid (by unfold Qy.right; simp [Ha.out, Hbz.out, hwk.out, h12])
            have d12 : decide ((12 : Int) < T.length) = false := by simp; omega
            cases bz
            all_goals
              go_wp2_with fail
              go_ret
              exact ⟨right_k HF.out, hb1⟩
          · have HF : Hid (Qy.right ⟨3, ⟨ao, an⟩, ⟨bo, bn⟩, T⟩ = false) := Lib.hid (by unfold Qy.right; simp [hwk.out, h12])
            have d12 : decide ((12 : Int) < T.length) = true := by simp; omega
            cases bz
            all_goals
              go_wp2_with fail
              go_ret
              exact ⟨right_k HF.out, hb1⟩
        · rcases Nat.eq_zero_or_pos T.length with h0 | h0
          · obtain rfl : T = [] := List.eq_nil_of_length_eq_zero h0
            have HF : Hid (Qy.right ⟨4, ⟨ao, an⟩, ⟨bo, bn⟩, []⟩ = bz) := Lib.hid (by unfold Qy.right; simp [Ha.out, Hbz.out])
            clear h0
            cases bz
            all_goals
              go_wp2_with fail
              go_ret
              exact ⟨right_k HF.out, hb1⟩
          · have hn : (T.length : Int) ≠ 0 := by omega
            have d0 : ((T.length : Int) == 0) = false := by simpa using hn
            have d1 : T.length ≠ 0 := by omega
            have HF : Hid (Qy.right ⟨4, ⟨ao, an⟩, ⟨bo, bn⟩, T⟩ = false) := Lib.hid (by unfold Qy.right; simp [d1])
            clear hn d1
            by_cases h12 : T.length ≤ 12
            · have d12 : decide ((12 : Int) < T.length) = false := by simp; omega
              cases bz
              all_goals
                go_wp2_with fail
                go_ret
                exact ⟨right_k HF.out, hb1⟩
            · have d12 : decide ((12 : Int) < T.length) = true := by simp; omega
              cases bz
              all_goals
                go_wp2_with fail
                go_ret
                exact ⟨right_k HF.out, hb1⟩
        · rcases Nat.eq_zero_or_pos T.length with h0 | h0
          · obtain rfl : T = [] := List.eq_nil_of_length_eq_zero h0
            have HF : Hid (Qy.right ⟨5, ⟨ao, an⟩, ⟨bo, bn⟩, []⟩ = br) := Lib.hid (by unfold Qy.right; simp [Ha.out, Hbr.out])
            clear h0
            go_wp2_with fail
            refine (HB.out _).mono ?_
            rintro e w2 ⟨rfl, hg2⟩
            have hc5 := (hg2.cell (a := ⟨w.heap.size, 5, none⟩) hz2).trans c5
            have hbb := hb1.trans (hg2.below.mono hb1.size)
            clear hg2
            cases br
            all_goals
              go_wp2_with fail
              go_ret
              exact ⟨right_k HF.out, hbb⟩
          · have hn : (T.length : Int) ≠ 0 := by omega
            have d0 : ((T.length : Int) == 0) = false := by simpa using hn
            have d1 : T.length ≠ 0 := by omega
            have HF : Hid (Qy.right ⟨5, ⟨ao, an⟩, ⟨bo, bn⟩, T⟩ = false) := Lib.hid (by unfold Qy.right; simp [d1])
            clear hn d1
            go_wp2_with fail
            refine (HB.out _).mono ?_
            rintro e w2 ⟨rfl, hg2⟩
            have hc5 := (hg2.cell (a := ⟨w.heap.size, 5, none⟩) hz2).trans c5
            have hbb := hb1.trans (hg2.below.mono hb1.size)
            clear hg2
            cases br
            all_goals
              go_wp2_with fail
              go_ret
              exact ⟨right_k HF.out, hbb⟩
        · rcases Nat.eq_zero_or_pos T.length with h0 | h0
          · obtain rfl : T = [] := List.eq_nil_of_length_eq_zero h0
            have HF : Hid (Qy.right ⟨6, ⟨ao, an⟩, ⟨bo, bn⟩, []⟩ = br) := Lib.hid (by unfold Qy.right; simp [Ha.out, Hbr.out])
            clear h0
            go_wp2_with fail
            refine (HB.out _).mono ?_
            rintro e w2 ⟨rfl, hg2⟩
            have hc5 := (hg2.cell (a := ⟨w.heap.size, 5, none⟩) hz2).trans c5
            have hbb := hb1.trans (hg2.below.mono hb1.size)
            clear hg2
            cases br
            all_goals
              go_wp2_with fail
              go_ret
              exact ⟨right_k HF.out, hbb⟩
          · have hn : (T.length : Int) ≠ 0 := by omega
            have d0 : ((T.length : Int) == 0) = false := by simpa using hn
            have d1 : T.length ≠ 0 := by omega
            have HF : Hid (Qy.right ⟨6, ⟨ao, an⟩, ⟨bo, bn⟩, T⟩ = false) := Lib.hid (by unfold Qy.right; simp [d1])
            clear hn d1
            go_wp2_with fail
            refine (HB.out _).mono ?_
            rintro e w2 ⟨rfl, hg2⟩
            have hc5 := (hg2.cell (a := ⟨w.heap.size, 5, none⟩) hz2).trans c5
            have hbb := hb1.trans (hg2.below.mono hb1.size)
            clear hg2
            cases br
            all_goals
              go_wp2_with fail
              go_ret
              exact ⟨right_k HF.out, hbb⟩
        · omega
end Go.Proofs.YtcmdiomjhideiaaGreatDoor.Qry3
/- The line of a query, in the document's answers, by contract. -/
namespace Go.Proofs.YtcmdiomjhideiaaGreatDoor.QryJ
set_option linter.unusedVariables false
set_option linter.unusedSimpArgs false
open Go.RowKit Go.Sort Go.Proofs Go.Proofs.YtcmdiomjhideiaaGreatDoor.Plain Go.Proofs.YtcmdiomjhideiaaGreatDoor.SynP Go.Proofs.YtcmdiomjhideiaaGreatDoor.TabP Go.Proofs.YtcmdiomjhideiaaGreatDoor.Tab1 Go.Proofs.YtcmdiomjhideiaaGreatDoor.Grown Go.Proofs.YtcmdiomjhideiaaGreatDoor.SynC Go.Proofs.YtcmdiomjhideiaaGreatDoor.SynW Go.Proofs.YtcmdiomjhideiaaGreatDoor.QryP Go.Proofs.YtcmdiomjhideiaaGreatDoor.Qry2 Go.Proofs.YtcmdiomjhideiaaGreatDoor.Qry4 Go.Proofs.YtcmdiomjhideiaaGreatDoor.Qry5 Go.Proofs.YtcmdiomjhideiaaGreatDoor.QryG Go.Proofs.YtcmdiomjhideiaaGreatDoor.Qry6 Go.Proofs.YtcmdiomjhideiaaGreatDoor.Qry7 Go.Proofs.YtcmdiomjhideiaaGreatDoor.QryA Go.Proofs.YtcmdiomjhideiaaGreatDoor.QryL Go.Proofs.YtcmdiomjhideiaaGreatDoor.QryH Go.Proofs.YtcmdiomjhideiaaGreatDoor.QryI
set_option linter.unusedVariables false
set_option linter.unusedSimpArgs false
end Go.Proofs.YtcmdiomjhideiaaGreatDoor.QryJ
/- Plain mathematics: the one kind that a line's tokens go on as; the document's way is the program's. -/
namespace Go.Proofs.YtcmdiomjhideiaaGreatDoor.QryM
set_option linter.unusedVariables false
set_option linter.unusedSimpArgs false
open Go.RowKit Go.Sort Go.Proofs.YtcmdiomjhideiaaGreatDoor.Plain Go.Proofs.YtcmdiomjhideiaaGreatDoor.SynP Go.Proofs.YtcmdiomjhideiaaGreatDoor.TabP Go.Proofs.YtcmdiomjhideiaaGreatDoor.SynR Go.Proofs.YtcmdiomjhideiaaGreatDoor.SynV Go.Proofs.YtcmdiomjhideiaaGreatDoor.SynZ Go.Proofs.YtcmdiomjhideiaaGreatDoor.QryP Go.Proofs.YtcmdiomjhideiaaGreatDoor.Qry4 Go.Proofs.YtcmdiomjhideiaaGreatDoor.Qry5 Go.Proofs.YtcmdiomjhideiaaGreatDoor.Qry7 Go.Proofs.YtcmdiomjhideiaaGreatDoor.QryA Go.Proofs.YtcmdiomjhideiaaGreatDoor.QryB Go.Proofs.YtcmdiomjhideiaaGreatDoor.QryC Go.Proofs.YtcmdiomjhideiaaGreatDoor.QryD
/-- Do the tokens go on as a kind's line, to what is behind it? -/
def fullQ (L : List Tk) (k : Int) : Prop := agreeF L (shapeF k) = (shapeF k).length
theorem fitsW {t : Tk} {s : Str} (h : Ft.fits t (.word s) = true) : t.kind = 2 ∧ t.text = ⟨s.toArray⟩ := by simpa [Ft.fits] using h
/-- The first five tokens of a kind's line. -/
theorem first5 {L : List Tk} {k : Nat} (h1 : 1 ≤ k) (h6 : k ≤ 6) (h : fullQ L (k : Int)) : ∃ t0 t1 t2 t3 t4 M s, L = t0 :: t1 :: t2 :: t3 :: t4 :: M ∧ t0.kind = 2 ∧ t0.text = ⟨(leadS (k : Int)).toArray⟩ ∧ t1.kind = 1 ∧ t2.kind = 3 ∧ t3.kind = 2 ∧ t4.kind = 2 ∧ t4.text = ⟨s.toArray⟩ ∧ (wordsL (k : Int)).head? = some s := by
  unfold fullQ at h
  have hsh : ∃ s R, (wordsL (k : Int)).head? = some s ∧ shapeF (k : Int) = .word (leadS (k : Int)) :: .kind 1 :: .kind 3 :: .kind 2 :: .word s :: R := by
    match k, h1, h6 with
    | 1, _, _ => exact ⟨_, _, rfl, rfl⟩
    | 2, _, _ => exact ⟨_, _, rfl, rfl⟩
    | 3, _, _ => exact ⟨_, _, rfl, rfl⟩
    | 4, _, _ => exact ⟨_, _, rfl, rfl⟩
    | 5, _, _ => exact ⟨_, _, rfl, rfl⟩
    | 6, _, _ => exact ⟨_, _, rfl, rfl⟩
  obtain ⟨s, R, hs, e⟩ := hsh
  rw [e] at h
  obtain ⟨t0, L1, rfl, a0, h⟩ := agreeF_cons h
  obtain ⟨t1, L2, rfl, a1, h⟩ := agreeF_cons h
  obtain ⟨t2, L3, rfl, a2, h⟩ := agreeF_cons h
  obtain ⟨t3, L4, rfl, a3, h⟩ := agreeF_cons h
  obtain ⟨t4, L5, rfl, a4, h⟩ := agreeF_cons h
  exact ⟨t0, t1, t2, t3, t4, L5, s, rfl, (fitsW a0).1, (fitsW a0).2, fitsK a1, fitsK a2, fitsK a3, (fitsW a4).1, (fitsW a4).2, hs⟩
theorem other5 {t0 t1 t2 t3 t4 : Tk} {M : List Tk} {j : Nat} (h1 : 1 ≤ j) (h6 : j ≤ 6) (h : t0.text ≠ ⟨(leadS (j : Int)).toArray⟩ ∨ ∀ s, (wordsL (j : Int)).head? = some s → t4.text ≠ ⟨s.toArray⟩) : ¬ fullQ (t0 :: t1 :: t2 :: t3 :: t4 :: M) (j : Int) ∧ agreeF (t0 :: t1 :: t2 :: t3 :: t4 :: M) (shapeF (j : Int)) ≤ 4 := by
  have hsh : ∃ s R, (wordsL (j : Int)).head? = some s ∧ shapeF (j : Int) = .word (leadS (j : Int)) :: .kind 1 :: .kind 3 :: .kind 2 :: .word s :: R := by
    match j, h1, h6 with
    | 1, _, _ => exact ⟨_, _, rfl, rfl⟩
    | 2, _, _ => exact ⟨_, _, rfl, rfl⟩
    | 3, _, _ => exact ⟨_, _, rfl, rfl⟩
    | 4, _, _ => exact ⟨_, _, rfl, rfl⟩
    | 5, _, _ => exact ⟨_, _, rfl, rfl⟩
    | 6, _, _ => exact ⟨_, _, rfl, rfl⟩
  obtain ⟨s, R, hs, e⟩ := hsh
  have hle : agreeF (t0 :: t1 :: t2 :: t3 :: t4 :: M) (shapeF (j : Int)) ≤ 4 := by
    rw [e]
    rcases h with h | h
    · have : Ft.fits t0 (.word (leadS (j : Int))) = false := by simp [Ft.fits, h]
      show (if _ then _ else _) ≤ _
      rw [if_neg (by rw [this]; decide)]; omega
    · have : Ft.fits t4 (.word s) = false := by simp [Ft.fits, h s hs]
      have h4 : agreeF (t4 :: M) (.word s :: R) = 0 := by
        show (if _ then _ else _) = _
        rw [if_neg (by rw [this]; decide)]
      have st : ∀ (t : Tk) (L : List Tk) (f : Ft) (F : List Ft), agreeF (t :: L) (f :: F) ≤ agreeF L F + 1 := fun t L f F => by
        show (if f.fits t = true then agreeF L F + 1 else 0) ≤ agreeF L F + 1
        split
        · exact Nat.le_refl _
        · exact Nat.zero_le _
      have a := st t0 (t1 :: t2 :: t3 :: t4 :: M) (.word (leadS (j : Int))) (.kind 1 :: .kind 3 :: .kind 2 :: .word s :: R)
      have b := st t1 (t2 :: t3 :: t4 :: M) (.kind 1) (.kind 3 :: .kind 2 :: .word s :: R)
      have c := st t2 (t3 :: t4 :: M) (.kind 3) (.kind 2 :: .word s :: R)
      have d := st t3 (t4 :: M) (.kind 2) (.word s :: R)
      omega
  refine ⟨fun hf => ?_, hle⟩
  unfold fullQ at hf
  rw [hf, e] at hle
  simp at hle
/-- Tokens that go on as one kind go on as no other one. -/
theorem others {L : List Tk} {K : Nat} (h1 : 1 ≤ K) (h6 : K ≤ 6) (h : fullQ L (K : Int)) : ∀ j : Nat, 1 ≤ j → j ≤ 6 → j ≠ K → ¬ fullQ L (j : Int) ∧ agreeF L (shapeF (j : Int)) ≤ 4 := by
  obtain ⟨t0, t1, t2, t3, t4, M, s, rfl, _, e0, _, _, _, _, e4, hs⟩ := first5 h1 h6 h
  intro j j1 j6 hne
  refine other5 j1 j6 ?_
  rw [e0]
  by_cases hl : leadS (K : Int) = leadS (j : Int)
  · right
    intro u hu
    rw [e4]
    intro hx
    have hsu : s = u := by
      have := congrArg (fun z : ByteArray => z.data.toList) hx
      simpa using this
    subst hsu
    have key : ∀ a b : Nat, 1 ≤ a → a ≤ 6 → 1 ≤ b → b ≤ 6 → (wordsL (a : Int)).head? = (wordsL (b : Int)).head? → a = b := by
      have : ∀ a : Fin 7, ∀ b : Fin 7, 1 ≤ a.1 → 1 ≤ b.1 → (wordsL (a.1 : Int)).head? = (wordsL (b.1 : Int)).head? → a.1 = b.1 := by decide +kernel
      intro a b a1 a6 b1 b6 e
      exact this ⟨a, by omega⟩ ⟨b, by omega⟩ a1 b1 e
    exact hne (key j K j1 j6 h1 h6 (by rw [hu, hs]))
  · left
    intro hx
    apply hl
    have := congrArg (fun z : ByteArray => z.data.toList) hx
    simpa using this
end Go.Proofs.YtcmdiomjhideiaaGreatDoor.QryM
/- Plain mathematics: the tokens of a query's line; a query that may be is parsed from its line. -/
namespace Go.Proofs.YtcmdiomjhideiaaGreatDoor.QryN
set_option linter.unusedVariables false
set_option linter.unusedSimpArgs false
open Go.RowKit Go.Sort Go.Proofs.YtcmdiomjhideiaaGreatDoor.Plain Go.Proofs.YtcmdiomjhideiaaGreatDoor.SynP Go.Proofs.YtcmdiomjhideiaaGreatDoor.TabP Go.Proofs.YtcmdiomjhideiaaGreatDoor.Scan2 Go.Proofs.YtcmdiomjhideiaaGreatDoor.Scan3 Go.Proofs.YtcmdiomjhideiaaGreatDoor.SynR Go.Proofs.YtcmdiomjhideiaaGreatDoor.SynV Go.Proofs.YtcmdiomjhideiaaGreatDoor.SynW Go.Proofs.YtcmdiomjhideiaaGreatDoor.QryP Go.Proofs.YtcmdiomjhideiaaGreatDoor.Qry4 Go.Proofs.YtcmdiomjhideiaaGreatDoor.Qry5 Go.Proofs.YtcmdiomjhideiaaGreatDoor.Qry7 Go.Proofs.YtcmdiomjhideiaaGreatDoor.QryA Go.Proofs.YtcmdiomjhideiaaGreatDoor.QryB Go.Proofs.YtcmdiomjhideiaaGreatDoor.QryC Go.Proofs.YtcmdiomjhideiaaGreatDoor.QryD Go.Proofs.YtcmdiomjhideiaaGreatDoor.QryL Go.Proofs.YtcmdiomjhideiaaGreatDoor.QryM
/-- What a line is made of: a query, its principals in any order. -/
def form (q : Qy) : Prop := (q.kind = 1 ∨ q.kind = 2 ∨ q.kind = 3 ∨ q.kind = 4 ∨ q.kind = 5 ∨ q.kind = 6) ∧ q.a.ok = true ∧ (hasBk q.kind = true → q.b.ok = true) ∧ (∀ s ∈ q.who, prinS s = true) ∧ q.who.length ≤ 12
theorem whoOk_of {T : List Str} (h1 : T.length ≤ 12) (h2 : ∀ s ∈ T, prinS s = true) (h3 : T.Pairwise (· < ·)) : whoOk T = true := by
  unfold whoOk
  rw [decide_eq_true h1, decide_eq_true (tab_id.2 h3), List.all_eq_true.2 h2]; rfl
/-- The document's example. -/
def exA : Rl := ⟨⟨#[65]⟩, ⟨#[114]⟩⟩
def exQ : Qy := ⟨3, exA, zeroR, [[66], [67]]⟩
theorem ex_okA : exA.ok = true := by decide +kernel
theorem ex_who : whoOk [[66], [67]] = true := whoOk_of (by decide) (by decide +kernel) (by decide)
theorem ex_right : exQ.right = true := by
  show (exA.ok && (whoOk [[66], [67]] && decide (zeroR = zeroR))) = true
  rw [ex_okA, ex_who, decide_eq_true rfl]; rfl
end Go.Proofs.YtcmdiomjhideiaaGreatDoor.QryN
/- The document's example of a query; which queries are light; a query's roles and principals. -/
namespace Go.Proofs.YtcmdiomjhideiaaGreatDoor.QryO
set_option linter.unusedVariables false
set_option linter.unusedSimpArgs false
open Go.RowKit Go.Sort Go.Proofs Go.Proofs.YtcmdiomjhideiaaGreatDoor.Plain Go.Proofs.YtcmdiomjhideiaaGreatDoor.SynP Go.Proofs.YtcmdiomjhideiaaGreatDoor.TabP Go.Proofs.YtcmdiomjhideiaaGreatDoor.Tab1 Go.Proofs.YtcmdiomjhideiaaGreatDoor.Grown Go.Proofs.YtcmdiomjhideiaaGreatDoor.Scan3 Go.Proofs.YtcmdiomjhideiaaGreatDoor.SynS Go.Proofs.YtcmdiomjhideiaaGreatDoor.SynW Go.Proofs.YtcmdiomjhideiaaGreatDoor.SynJ Go.Proofs.YtcmdiomjhideiaaGreatDoor.QryP Go.Proofs.YtcmdiomjhideiaaGreatDoor.Qry6 Go.Proofs.YtcmdiomjhideiaaGreatDoor.QryC Go.Proofs.YtcmdiomjhideiaaGreatDoor.QryE Go.Proofs.YtcmdiomjhideiaaGreatDoor.QryL Go.Proofs.YtcmdiomjhideiaaGreatDoor.QryH Go.Proofs.YtcmdiomjhideiaaGreatDoor.QryI Go.Proofs.YtcmdiomjhideiaaGreatDoor.QryN
set_option linter.unusedVariables false
set_option linter.unusedSimpArgs false
def lightQ (q : Qy) : Bool := Tab6.lightB q.who && Tab6.lightB [bs q.a.owner, bs q.a.name, bs q.b.owner, bs q.b.name]
theorem srow_four (X : World) (x y z u : ByteArray) : SRow (X.alloc (.cells #[.string x, .string y, .string z, .string u] 9)) (some ⟨X.heap.size, 0, none⟩) [bs x, bs y, bs z, bs u] := by
  have h := srow_new X [bs x, bs y, bs z, bs u] 9
  have e : ((([bs x, bs y, bs z, bs u] : List Str).map encStr).toArray : Array Value) = #[.string x, .string y, .string z, .string u] := by
    have a := bs_of x
    have b := bs_of y
    have c := bs_of z
    have d := bs_of u
    show #[Value.string ⟨(bs x).toArray⟩, Value.string ⟨(bs y).toArray⟩, Value.string ⟨(bs z).toArray⟩, Value.string ⟨(bs u).toArray⟩] = _
    rw [← a, ← b, ← c, ← d]
  rw [e] at h
  exact h
set_option maxHeartbeats 1000000 in
set_option maxRecDepth 100000 in
theorem light (q : Qy) (A : Option Addr) (c : Nat) (w : World) (hf : q.fit) (hA : SRow w A q.who) : Calls Tryz.prog 50 #[q.val A c] w fun e w' => e = .returned (.bool (lightQ q)) ∧ Grew w w' := by
  obtain ⟨k, ⟨ao, an⟩, ⟨bo, bn⟩, T⟩ := q
  obtain ⟨fa, fb, fT, fs⟩ := hf
  unfold lightQ
  have H1 := Lib.hid (fun (w' : World) (hr : SRow w' A T) => Tab6.light A c T w' fT fs hr)
  have hl4 : ∀ s ∈ [bs ao, bs an, bs bo, bs bn], s.length ≤ maxLen := by
    intro s hs
    rcases (by simpa using hs : s = bs ao ∨ s = bs an ∨ s = bs bo ∨ s = bs bn) with rfl | rfl | rfl | rfl
    · exact fa.1
    · exact fa.2
    · exact fb.1
    · exact fb.2
  have H2 := Lib.hid (fun (B : Option Addr) (w' : World) (hr : SRow w' B [bs ao, bs an, bs bo, bs bn]) => Tab6.light B 4 [bs ao, bs an, bs bo, bs bn] w' (by simp; unfold maxLen; decide) hl4 hr)
  have HA := Lib.hid (hA.keep ((Below.refl _ _).alloc (Nat.le_refl _) (.cells #[.int .i64 k, .string ao, .string an, .string bo, .string bn, .slice A T.length c] 67)))
  have hn4 := srow_four (w.alloc (.cells #[.int .i64 k, .string ao, .string an, .string bo, .string bn, .slice A T.length c] 67)) ao an bo bn
  rw [World.size_alloc] at hn4
  have HN := Lib.hid hn4
  show Calls _ _ #[.agg #[.int .i64 k, .string ao, .string an, .string bo, .string bn, .slice A T.length c]] _ _
  simp only
  generalize Tab6.lightB T = l1 at *
  generalize Tab6.lightB [bs ao, bs an, bs bo, bs bn] = l2 at *
  clear fa fb fT fs hA hl4 hn4
  cases l1
  · go_enter Tryz.func50, Tryz.ntmps50
    go_wp2_with fail
    refine (H1.out _ HA.out).mono ?_
    rintro e w1 ⟨rfl, rfl⟩
    go_wp2_with fail
    go_ret
    exact ⟨rfl, (Grew.refl _).alloc _⟩
  · go_enter Tryz.func50, Tryz.ntmps50
    go_wp2_with fail
    refine (H1.out _ HA.out).mono ?_
    rintro e w1 ⟨rfl, rfl⟩
    go_wp2_with fail
    refine (H2.out _ _ HN.out).mono ?_
    rintro e w1 ⟨rfl, rfl⟩
    go_wp2_with fail
    go_ret
    exact ⟨rfl, ((Grew.refl _).alloc _).alloc _⟩
def rolesQ (q : Qy) : List Rl := if hasBk q.kind = true then [q.a, q.b] else [q.a]
def RolesPostQ (q : Qy) (w : World) (e : Ending) (w' : World) : Prop := ∃ A, e = .returned (.slice A (rolesQ q).length (rolesQ q).length) ∧ RAt w' A (rolesQ q) ∧ RowKit.Below w.heap.size w w'
set_option maxRecDepth 100000 in
theorem rolesOf (q : Qy) (A : Option Addr) (c : Nat) (w : World) : Calls Tryz.prog 187 #[q.val A c] w (RolesPostQ q w) := by
  obtain ⟨k, ⟨ao, an⟩, ⟨bo, bn⟩, T⟩ := q
  have HB := Lib.hid (fun w' => hasB k w')
  show Calls _ _ #[.agg #[.int .i64 k, .string ao, .string an, .string bo, .string bn, .slice A T.length c]] _ _
  have hn2 : ∀ n, RAt (((w.alloc (.cells #[.int .i64 k, .string ao, .string an, .string bo, .string bn, .slice A T.length c] 67)).drewN n).alloc (.cells #[.string ao, .string an, .string bo, .string bn] 28)) (some ⟨w.heap.size + 1, 0, none⟩) [⟨ao, an⟩, ⟨bo, bn⟩] := fun n => by
    have h := rat_new ((w.alloc (.cells #[.int .i64 k, .string ao, .string an, .string bo, .string bn, .slice A T.length c] 67)).drewN n) [⟨ao, an⟩, ⟨bo, bn⟩] 28
    have e : ((w.alloc (.cells #[.int .i64 k, .string ao, .string an, .string bo, .string bn, .slice A T.length c] 67)).drewN n).heap.size = w.heap.size + 1 := World.size_alloc _ _
    rw [e] at h
    exact h
  have hn1 : ∀ n, RAt (((w.alloc (.cells #[.int .i64 k, .string ao, .string an, .string bo, .string bn, .slice A T.length c] 67)).drewN n).alloc (.cells #[.string ao, .string an] 28)) (some ⟨w.heap.size + 1, 0, none⟩) [⟨ao, an⟩] := fun n => by
    have h := rat_new ((w.alloc (.cells #[.int .i64 k, .string ao, .string an, .string bo, .string bn, .slice A T.length c] 67)).drewN n) [⟨ao, an⟩] 28
    have e : ((w.alloc (.cells #[.int .i64 k, .string ao, .string an, .string bo, .string bn, .slice A T.length c] 67)).drewN n).heap.size = w.heap.size + 1 := World.size_alloc _ _
    rw [e] at h
    exact h
  have H2 := Lib.hid hn2
  have H1 := Lib.hid hn1
  have hb0 := Lib.hid (fun n => below_drewN ((Below.refl w.heap.size w).alloc (Nat.le_refl _) (.cells #[.int .i64 k, .string ao, .string an, .string bo, .string bn, .slice A T.length c] 67)) n)
  unfold RolesPostQ rolesQ
  simp only
  clear hn1 hn2
  cases hbk : hasBk k
  · rw [hbk] at HB
    simp only [Bool.false_eq_true, if_false]
    clear hbk
    go_enter Tryz.func187, Tryz.ntmps187
    go_wp2_with fail
    refine (HB.out _).mono ?_
    rintro e w1 ⟨rfl, n, rfl⟩
    go_wp2_with fail
    go_ret
    exact ⟨_, rfl, H1.out n, (hb0.out n).alloc (hb0.out n).size _⟩
  · rw [hbk] at HB
    simp only [if_true]
    clear hbk
    go_enter Tryz.func187, Tryz.ntmps187
    go_wp2_with fail
    refine (HB.out _).mono ?_
    rintro e w1 ⟨rfl, n, rfl⟩
    go_wp2_with fail
    go_ret
    exact ⟨_, rfl, H2.out n, (hb0.out n).alloc (hb0.out n).size _⟩
def PrinsPost (T : List Str) (w : World) (e : Ending) (w' : World) : Prop := ∃ A c, e = .returned (.slice A T.length c) ∧ SRow w' A T ∧ RowKit.Below w.heap.size w w'
set_option maxRecDepth 100000 in
theorem prins (q : Qy) (A : Option Addr) (c : Nat) (w : World) (hT : q.who.length ≤ 1000000) (hA : SRow w A q.who) : Calls Tryz.prog 144 #[q.val A c] w (PrinsPost q.who w) := by
  obtain ⟨k, ⟨ao, an⟩, ⟨bo, bn⟩, T⟩ := q
  show Calls _ _ #[.agg #[.int .i64 k, .string ao, .string an, .string bo, .string bn, .slice A T.length c]] _ _
  have HC := Lib.hid (Tab7.cloneC A c T _ hT (hA.keep ((Below.refl _ _).alloc (Nat.le_refl _) (.cells #[.int .i64 k, .string ao, .string an, .string bo, .string bn, .slice A T.length c] 67))))
  clear hA
  go_enter Tryz.func144, Tryz.ntmps144
  go_wp2_with fail
  refine HC.out.mono ?_
  rintro e w1 ⟨v, rfl, hown, hb⟩
  obtain ⟨A', c', rfl, _, hr⟩ := SRow.of_own hown
  clear hown
  go_wp2_with fail
  go_ret
  exact ⟨A', c', rfl, hr, ((Below.refl _ _).alloc (Nat.le_refl _) _).trans (hb.mono (by simp))⟩
end Go.Proofs.YtcmdiomjhideiaaGreatDoor.QryO
