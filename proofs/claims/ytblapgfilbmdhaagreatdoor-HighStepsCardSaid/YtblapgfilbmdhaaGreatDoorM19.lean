/- Which queries are right, as the document tells it, by contract. -/
import Derived.Test.YtblapgfilbmdhaaGreatDoorM14
import Derived.Test.YtblapgfilbmdhaaGreatDoorM04
set_option linter.unusedVariables false
set_option linter.unusedSimpArgs false
namespace Go.Proofs.YtblapgfilbmdhaaGreatDoor.Qry3
open Go.RowKit Go.Sort Go.Proofs Plain SynP TabP Tab1 Grown SynE Syn1 RefN QryP Qry1 Qry2
theorem bytesLess_eq (x y : Str) : Op.bytesLess x y = decide (x < y) := by
  have := less_eq ⟨x.toArray⟩ ⟨y.toArray⟩
  unfold strLt at this
  simpa [Go.ByteArray.toList_eq] using this
theorem right_who {k : Int} {a b : Rl} {T : List Str} {i : Nat} (hi : i < T.length) (h : (T.all prinS && decide (T = tab T)) = false) : Qy.right ⟨k, a, b, T⟩ = false := by
  have h0 : T.length ≠ 0 := by omega
  have e : whoOk T = false := by unfold whoOk; rw [Bool.and_assoc, h, Bool.and_false]
  unfold Qy.right
  simp only [e, decide_eq_false h0, Bool.and_false, Bool.false_and]
  have : (if k = 1 ∨ k = 2 then false else if k = 3 then false else if k = 4 then false else if k = 5 ∨ k = 6 then false else false) = false := by split <;> (try split) <;> (try split) <;> (try split) <;> rfl
  rw [this, Bool.and_false]
theorem who_len {T : List Str} (h : risesTo T T.length) : whoOk T = decide (T.length ≤ 12) := by
  unfold whoOk; rw [Bool.and_assoc, who_of h, Bool.and_true]
set_option maxHeartbeats 2000000 in
set_option maxRecDepth 100000 in
theorem rightRef (k : Int) (ao an bo bn : ByteArray) (A : Option Addr) (c : Nat) (T : List Str) (w : World) (hf : Qy.fit ⟨k, ⟨ao, an⟩, ⟨bo, bn⟩, T⟩) (hA : SRow w A T) :
    Calls Tryz.prog 26 #[.agg #[.int .i64 k, .string ao, .string an, .string bo, .string bn, .slice A T.length c]] w (RightPost ⟨k, ⟨ao, an⟩, ⟨bo, bn⟩, T⟩ w) := by
  obtain ⟨fa, fb, fT, fs⟩ := hf
  have fT' : T.length ≤ 9223372036854775807 := fT
  by_cases hk : k < 1 ∨ 6 < k
  · have HF : Hid (Qy.right ⟨k, ⟨ao, an⟩, ⟨bo, bn⟩, T⟩ = false) := Lib.hid (by
      unfold Qy.right
      rw [if_neg (show ¬ (k = 1 ∨ k = 2) by omega), if_neg (show ¬ k = 3 by omega), if_neg (show ¬ k = 4 by omega), if_neg (show ¬ (k = 5 ∨ k = 6) by omega), Bool.and_false])
    clear hA fa fb fs fT
    rcases hk with hk | hk
    · go_enter Tryz.func26, Tryz.ntmps26
      go_wp2_with fail
      go_ret
      exact ⟨right_k HF.out, (Below.refl _ _).alloc (Nat.le_refl _) _⟩
    · have hk' : ¬ k < 1 := by omega
      go_enter Tryz.func26, Tryz.ntmps26
      go_wp2_with fail
      go_ret
      exact ⟨right_k HF.out, (Below.refl _ _).alloc (Nat.le_refl _) _⟩
  have k1 : 1 ≤ k := by omega
  have k6 : k ≤ 6 := by omega
  clear hk
  have HR := Lib.hid (fun w => isRoleRef' ao an w fa.1 fa.2)
  have HB := Lib.hid (fun w => isRoleRef' bo bn w fb.1 fb.2)
  have hq := neR bo bn ⟨#[]⟩ ⟨#[]⟩
  have hz : decide ((⟨bo, bn⟩ : Rl) = ⟨⟨#[]⟩, ⟨#[]⟩⟩) = decide ((⟨bo, bn⟩ : Rl) = zeroR) := rfl
  rw [hz] at hq
  cases ha : Rl.ok ⟨ao, an⟩
  · rw [ha] at HR
    have HF : Hid (Qy.right ⟨k, ⟨ao, an⟩, ⟨bo, bn⟩, T⟩ = false) := Lib.hid (by unfold Qy.right; rw [ha]; rfl)
    clear ha hq hz hA fa fb fT fs
    go_enter Tryz.func26, Tryz.ntmps26
    go_wp2_with (go_at_call 68; refine (HR.out _).mono ?_; rintro e w1 ⟨rfl, hg⟩)
    go_ret
    exact ⟨right_k HF.out, ((Below.refl _ _).alloc (Nat.le_refl _) _).trans (hg.below.mono (by simp))⟩
  · rw [ha] at HR
    obtain ⟨bz, hbz⟩ : ∃ b, decide ((⟨bo, bn⟩ : Rl) = zeroR) = b := ⟨_, rfl⟩
    rw [hbz] at hq
    obtain ⟨br, hbr⟩ : ∃ b, Rl.ok ⟨bo, bn⟩ = b := ⟨_, rfl⟩
    rw [hbr] at HB
    have HQ := Lib.hid hq
    have HA := Lib.hid hA
    have HS := Lib.hid fs
    have Ha := Lib.hid ha
    have Hbz := Lib.hid hbz
    have Hbr := Lib.hid hbr
    clear hz hA fa fb fT fs hq ha hbz hbr
    go_enter Tryz.func26, Tryz.ntmps26
    go_wp2_with fail
    refine (HR.out _).mono ?_
    rintro e w1 ⟨rfl, hg⟩
    have hb1 : Below w.heap.size w w1 := ((Below.refl _ _).alloc (Nat.le_refl _) _).trans (hg.below.mono (by simp))
    have hz2 : w.heap.size < w1.heap.size := by have := hg.size; rw [World.size_alloc] at this; omega
    have hbox : ∀ o, w1.cell? ⟨w.heap.size, o, none⟩ = (#[.int .i64 k, .string ao, .string an, .string bo, .string bn, .slice A T.length c] : Array Value)[o]? := fun o => (hg.cell (a := ⟨w.heap.size, o, none⟩) (by simp)).trans (Lib.cell_of_heap (heap_alloc_new w _) o)
    have c0 := hbox 0
    have c3 := hbox 3
    have c4 := hbox 4
    have c5 := hbox 5
    simp only [List.getElem?_toArray, List.getElem?_cons_zero, List.getElem?_cons_succ] at c0 c3 c4 c5
    clear hbox hg
    go_wp2_with fail
    go_loop [22] (fun i => ∃ n : Nat, n ≤ T.length ∧ i = .int .i64 n ∧ Hid (risesTo T n)) (fun i => T.length - (intOf i).toNat)
    case atStart => exact ⟨0, by omega, rfl, Lib.hid fun j hj => by omega⟩
    case round =>
      obtain ⟨n, hn, rfl, hall⟩ := hrel
      by_cases hlt : n < T.length
      · obtain ⟨g, off, rfl, hg0, hcell⟩ := (HA.out.keep hb1) (by omega)
        have hx := hcell n hlt
        have p1 : (0 : Int) ≤ n := by omega
        have p2 : (n : Int) < T.length := by omega
        have H := Lib.hid (refIsPrin ⟨T[n].toArray⟩ w1 (by simpa [ByteArray.size] using HS.out _ (List.getElem_mem _)))
        cases hp : prinS T[n]
        · have hp' : named capB (⟨T[n].toArray⟩ : ByteArray).data.toList = false := hp
          rw [hp'] at H
          have HF : Hid (Qy.right ⟨k, ⟨ao, an⟩, ⟨bo, bn⟩, T⟩ = false) := Lib.hid (right_who hlt (who_bad hlt hp))
          clear hp hp' hall hcell
          go_wp2_with (go_at_call 69; refine H.out.mono ?_; rintro e w' ⟨rfl, rfl⟩)
          go_ret
          exact ⟨right_k HF.out, hb1⟩
        · have hp' : named capB (⟨T[n].toArray⟩ : ByteArray).data.toList = true := hp
          rw [hp'] at H
          clear hp'
          rcases Nat.eq_zero_or_pos n with h0 | h0
          · subst h0
            simp only [Nat.add_zero] at hx
            have hnext : Hid (risesTo T (0 + 1)) := Lib.hid fun j hj h => by
              have : j = 0 := by omega
              subst this
              exact ⟨hp, fun h => by omega⟩
            clear hp hall hcell
            go_wp2_with (go_at_call 69; refine H.out.mono ?_; rintro e w' ⟨rfl, rfl⟩)
            go_round
            case rel => exact ⟨0 + 1, by omega, rfl, hnext⟩
            case measure => simp [intOf]; omega
          · have hy := hcell (n - 1) (by omega)
            have q0 : (0 : Int) < n := by omega
            have q1 : (0 : Int) ≤ (n : Int) - 1 := by omega
            have q2 : (n : Int) - 1 < T.length := by omega
            have q3 : ((n : Int) - 1).toNat = n - 1 := by omega
            have hge := bytesLess_eq T[n - 1] T[n]
            by_cases hl : T[n - 1] < T[n]
            · rw [decide_eq_true hl] at hge
              have hnext : Hid (risesTo T (n + 1)) := Lib.hid fun j hj h => by
                by_cases e : j = n
                · subst e; exact ⟨hp, fun _ => hl⟩
                · exact hall.out j (by omega) h
              clear hp hl hall hcell
              go_wp2_with (go_at_call 69; refine H.out.mono ?_; rintro e w' ⟨rfl, rfl⟩)
              go_round
              case rel => exact ⟨n + 1, by omega, by go_num, hnext⟩
              case measure => simp [intOf]; omega
            · rw [decide_eq_false hl] at hge
              have HF : Hid (Qy.right ⟨k, ⟨ao, an⟩, ⟨bo, bn⟩, T⟩ = false) := Lib.hid (right_who hlt (who_down hlt h0 hl))
              clear hp hl hall hcell
              go_wp2_with (go_at_call 69; refine H.out.mono ?_; rintro e w' ⟨rfl, rfl⟩)
              go_ret
              exact ⟨right_k HF.out, hb1⟩
      · obtain rfl : n = T.length := by omega
        have hwk := Lib.hid (who_len hall.out)
        clear hall
        have hq := HQ.out
        clear hn
        rcases kinds6 k with rfl | rfl | rfl | rfl | rfl | rfl | hk
        · rcases Nat.eq_zero_or_pos T.length with h0 | h0
          · obtain rfl : T = [] := List.eq_nil_of_length_eq_zero h0
            have HF : Hid (Qy.right ⟨1, ⟨ao, an⟩, ⟨bo, bn⟩, []⟩ = false) := Lib.hid (by unfold Qy.right; simp)
            clear h0
            cases bz
            all_goals
              go_wp2_with fail
              go_ret
              exact ⟨right_k HF.out, hb1⟩
          · by_cases h12 : T.length ≤ 12
            · have HF : Hid (Qy.right ⟨1, ⟨ao, an⟩, ⟨bo, bn⟩, T⟩ = bz) := Lib.hid (by unfold Qy.right; simp [Ha.out, Hbz.out, hwk.out, h0, h12])
              have d12 : decide ((12 : Int) < T.length) = false := by simp; omega
              cases bz
              all_goals
                go_wp2_with fail
                go_ret
                exact ⟨right_k HF.out, hb1⟩
            · have HF : Hid (Qy.right ⟨1, ⟨ao, an⟩, ⟨bo, bn⟩, T⟩ = false) := Lib.hid (by unfold Qy.right; simp [hwk.out, h12])
              have d12 : decide ((12 : Int) < T.length) = true := by simp; omega
              cases bz
              all_goals
                go_wp2_with fail
                go_ret
                exact ⟨right_k HF.out, hb1⟩
        · rcases Nat.eq_zero_or_pos T.length with h0 | h0
          · obtain rfl : T = [] := List.eq_nil_of_length_eq_zero h0
            have HF : Hid (Qy.right ⟨2, ⟨ao, an⟩, ⟨bo, bn⟩, []⟩ = false) := Lib.hid (by unfold Qy.right; simp)
            clear h0
            cases bz
            all_goals
              go_wp2_with fail
              go_ret
              exact ⟨right_k HF.out, hb1⟩
          · by_cases h12 : T.length ≤ 12
            · have HF : Hid (Qy.right ⟨2, ⟨ao, an⟩, ⟨bo, bn⟩, T⟩ = bz) := Lib.hid (by unfold Qy.right; simp [Ha.out, Hbz.out, hwk.out, h0, h12])
              have d12 : decide ((12 : Int) < T.length) = false := by simp; omega
              cases bz
              all_goals
                go_wp2_with fail
                go_ret
                exact ⟨right_k HF.out, hb1⟩
            · have HF : Hid (Qy.right ⟨2, ⟨ao, an⟩, ⟨bo, bn⟩, T⟩ = false) := Lib.hid (by unfold Qy.right; simp [hwk.out, h12])
              have d12 : decide ((12 : Int) < T.length) = true := by simp; omega
              cases bz
              all_goals
                go_wp2_with fail
                go_ret
                exact ⟨right_k HF.out, hb1⟩
        · by_cases h12 : T.length ≤ 12
          · have HF : Hid (Qy.right ⟨3, ⟨ao, an⟩, ⟨bo, bn⟩, T⟩ = bz) := Lib.hid (by unfold Qy.right; simp [Ha.out, Hbz.out, hwk.out, h12])
            have d12 : decide ((12 : Int) < T.length) = false := by simp; omega
            cases bz
            all_goals
              go_wp2_with fail
              go_ret
              exact ⟨right_k HF.out, hb1⟩
          · have HF : Hid (Qy.right ⟨3, ⟨ao, an⟩, ⟨bo, bn⟩, T⟩ = false) := Lib.hid (by unfold Qy.right; simp [hwk.out, h12])
            have d12 : decide ((12 : Int) < T.length) = true := by simp; omega
            cases bz
            all_goals
              go_wp2_with fail
              go_ret
              exact ⟨right_k HF.out, hb1⟩
        · rcases Nat.eq_zero_or_pos T.length with h0 | h0
          · obtain rfl : T = [] := List.eq_nil_of_length_eq_zero h0
            have HF : Hid (Qy.right ⟨4, ⟨ao, an⟩, ⟨bo, bn⟩, []⟩ = bz) := Lib.hid (by unfold Qy.right; simp [Ha.out, Hbz.out])
            clear h0
            cases bz
            all_goals
              go_wp2_with fail
              go_ret
              exact ⟨right_k HF.out, hb1⟩
          · have hn : (T.length : Int) ≠ 0 := by omega
            have d0 : ((T.length : Int) == 0) = false := by simpa using hn
            have d1 : T.length ≠ 0 := by omega
            have HF : Hid (Qy.right ⟨4, ⟨ao, an⟩, ⟨bo, bn⟩, T⟩ = false) := Lib.hid (by unfold Qy.right; simp [d1])
            clear hn d1
            by_cases h12 : T.length ≤ 12
            · have d12 : decide ((12 : Int) < T.length) = false := by simp; omega
              cases bz
              all_goals
                go_wp2_with fail
                go_ret
                exact ⟨right_k HF.out, hb1⟩
            · have d12 : decide ((12 : Int) < T.length) = true := by simp; omega
              cases bz
              all_goals
                go_wp2_with fail
                go_ret
                exact ⟨right_k HF.out, hb1⟩
        · rcases Nat.eq_zero_or_pos T.length with h0 | h0
          · obtain rfl : T = [] := List.eq_nil_of_length_eq_zero h0
            have HF : Hid (Qy.right ⟨5, ⟨ao, an⟩, ⟨bo, bn⟩, []⟩ = br) := Lib.hid (by unfold Qy.right; simp [Ha.out, Hbr.out])
            clear h0
            go_wp2_with fail
            refine (HB.out _).mono ?_
            rintro e w2 ⟨rfl, hg2⟩
            have hc5 := (hg2.cell (a := ⟨w.heap.size, 5, none⟩) hz2).trans c5
            have hbb := hb1.trans (hg2.below.mono hb1.size)
            clear hg2
            cases br
            all_goals
              go_wp2_with fail
              go_ret
              exact ⟨right_k HF.out, hbb⟩
          · have hn : (T.length : Int) ≠ 0 := by omega
            have d0 : ((T.length : Int) == 0) = false := by simpa using hn
            have d1 : T.length ≠ 0 := by omega
            have HF : Hid (Qy.right ⟨5, ⟨ao, an⟩, ⟨bo, bn⟩, T⟩ = false) := Lib.hid (by unfold Qy.right; simp [d1])
            clear hn d1
            go_wp2_with fail
            refine (HB.out _).mono ?_
            rintro e w2 ⟨rfl, hg2⟩
            have hc5 := (hg2.cell (a := ⟨w.heap.size, 5, none⟩) hz2).trans c5
            have hbb := hb1.trans (hg2.below.mono hb1.size)
            clear hg2
            cases br
            all_goals
              go_wp2_with fail
              go_ret
              exact ⟨right_k HF.out, hbb⟩
        · rcases Nat.eq_zero_or_pos T.length with h0 | h0
          · obtain rfl : T = [] := List.eq_nil_of_length_eq_zero h0
            have HF : Hid (Qy.right ⟨6, ⟨ao, an⟩, ⟨bo, bn⟩, []⟩ = br) := Lib.hid (by unfold Qy.right; simp [Ha.out, Hbr.out])
            clear h0
            go_wp2_with fail
            refine (HB.out _).mono ?_
            rintro e w2 ⟨rfl, hg2⟩
            have hc5 := (hg2.cell (a := ⟨w.heap.size, 5, none⟩) hz2).trans c5
            have hbb := hb1.trans (hg2.below.mono hb1.size)
            clear hg2
            cases br
            all_goals
              go_wp2_with fail
              go_ret
              exact ⟨right_k HF.out, hbb⟩
          · have hn : (T.length : Int) ≠ 0 := by omega
            have d0 : ((T.length : Int) == 0) = false := by simpa using hn
            have d1 : T.length ≠ 0 := by omega
            have HF : Hid (Qy.right ⟨6, ⟨ao, an⟩, ⟨bo, bn⟩, T⟩ = false) := Lib.hid (by unfold Qy.right; simp [d1])
            clear hn d1
            go_wp2_with fail
            refine (HB.out _).mono ?_
            rintro e w2 ⟨rfl, hg2⟩
            have hc5 := (hg2.cell (a := ⟨w.heap.size, 5, none⟩) hz2).trans c5
            have hbb := hb1.trans (hg2.below.mono hb1.size)
            clear hg2
            cases br
            all_goals
              go_wp2_with fail
              go_ret
              exact ⟨right_k HF.out, hbb⟩
        · omega
end Go.Proofs.YtblapgfilbmdhaaGreatDoor.Qry3
