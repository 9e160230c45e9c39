/- Which texts are names, by the document's answers; the document's example of names. -/
import Derived.Test.YtpdgjkjbimkmjaaDoorTab3
namespace Go.Proofs.YtpdgjkjbimkmjaaDoor.Ref1
open Go.RowKit Go.Sort Go.Proofs Go.Proofs.YtpdgjkjbimkmjaaDoor.Plain Go.Proofs.YtpdgjkjbimkmjaaDoor.Leaf Go.Proofs.YtpdgjkjbimkmjaaDoor.Named Go.Proofs.YtpdgjkjbimkmjaaDoor.Tab1 Go.Proofs.YtpdgjkjbimkmjaaDoor.Tab2 Go.Proofs.YtpdgjkjbimkmjaaDoor.Tab3 Go.Proofs.YtpdgjkjbimkmjaaDoor.TabP
theorem letter (n : Int) (w : World) : Calls Tryd.prog 51 #[.int .u8 n] w fun e w' => e = .returned (.bool (wordB n)) ∧ w = w' := by
  go_enter Tryd.func51, Tryd.ntmps51
  go_wp2
  all_goals go_ret
  all_goals refine ⟨ret_bool ?_, rfl⟩
  all_goals
    unfold wordB capB smallB digB
    rw [Bool.eq_iff_iff]
    simp
    omega
def between (lo hi n : Int) : Bool := decide (lo ≤ n ∧ n ≤ hi)
theorem is_ (s : ByteArray) (lo hi : Int) (w : World) (hs : s.size ≤ maxLen) :
    Calls Tryd.prog 30 #[.string s, .int .u8 lo, .int .u8 hi] w fun e w' => e = .returned (.bool (named (between lo hi) s.data.toList)) ∧ w = w' := by
  unfold maxLen at hs
  by_cases h1 : 0 < s.size
  · by_cases h8 : s.size ≤ 8
    · by_cases hlo : lo ≤ s[0].toNat
      · by_cases hhi : s[0].toNat ≤ hi
        · have Hc := Lib.hid (show between lo hi s[0].toNat = true from decide_eq_true ⟨hlo, hhi⟩)
          go_enter Tryd.func30, Tryd.ntmps30
          go_wp2_with fail
          go_loop [7] (fun i => ∃ k : Nat, k ≤ s.size ∧ i = .int .i64 k ∧ Hid (∀ j, (h : j < s.size) → j < k → wordB s[j].toNat = true)) (fun i => s.size - (intOf i).toNat)
          case atStart => exact ⟨0, by omega, rfl, Lib.hid fun j _ hj => by omega⟩
          case round =>
            obtain ⟨k, hk, rfl, hall⟩ := hrel
            by_cases hlt : k < s.size
            · cases hw : wordB s[k].toNat
              · have Hw := Lib.hid (named_bad (f := between lo hi) k hlt hw)
                clear hall
                go_wp2_with (go_at_call 51; refine (letter _ _).mono ?_; rintro e w' ⟨rfl, rfl⟩)
                go_ret
                exact ⟨ret_bool Hw.out.symm, rfl⟩
              · have hnext : Hid (∀ j, (h : j < s.size) → j < k + 1 → wordB s[j].toNat = true) := Lib.hid fun j h hj => by
                  by_cases e : j = k
                  · subst e; exact hw
                  · exact hall.out j h (by omega)
                clear hall
                go_wp2_with (go_at_call 51; refine (letter _ _).mono ?_; rintro e w' ⟨rfl, rfl⟩)
                go_round
                case rel => exact ⟨k + 1, by omega, by go_num, hnext⟩
                case measure => simp [intOf]; omega
            · go_wp2_with fail
              go_ret
              exact ⟨ret_bool (named_ok h1 h8 Hc.out (fun j h => hall.out j h (by omega))).symm, rfl⟩
        · have Hc := Lib.hid (named_head (f := between lo hi) h1 (decide_eq_false (fun h => hhi h.2)))
          go_enter Tryd.func30, Tryd.ntmps30
          go_wp2_with fail
          go_ret
          exact ⟨ret_bool Hc.out.symm, rfl⟩
      · have Hc := Lib.hid (named_head (f := between lo hi) h1 (decide_eq_false (fun h => hlo h.1)))
        go_enter Tryd.func30, Tryd.ntmps30
        go_wp2_with fail
        go_ret
        exact ⟨ret_bool Hc.out.symm, rfl⟩
    · go_enter Tryd.func30, Tryd.ntmps30
      go_wp2_with fail
      go_ret
      exact ⟨ret_bool (named_len (by omega)).symm, rfl⟩
  · go_enter Tryd.func30, Tryd.ntmps30
    go_wp2_with fail
    go_ret
    exact ⟨ret_bool (named_len (by omega)).symm, rfl⟩
theorem refIsPrin (s : ByteArray) (w : World) (hs : s.size ≤ maxLen) : Calls Tryd.prog 8 #[.string s] w fun e w' => e = .returned (.bool (named capB s.data.toList)) ∧ w = w' := by
  go_enter Tryd.func8, Tryd.ntmps8
  go_wp2_with (go_at_call 30; refine (is_ _ _ _ _ hs).mono ?_; rintro e w' ⟨rfl, rfl⟩)
  go_ret
  exact ⟨ret_bool (show named (between 65 90) _ = named capB _ from rfl), rfl⟩
theorem refIsName (s : ByteArray) (w : World) (hs : s.size ≤ maxLen) : Calls Tryd.prog 10 #[.string s] w fun e w' => e = .returned (.bool (named smallB s.data.toList)) ∧ w = w' := by
  go_enter Tryd.func10, Tryd.ntmps10
  go_wp2_with (go_at_call 30; refine (is_ _ _ _ _ hs).mono ?_; rintro e w' ⟨rfl, rfl⟩)
  go_ret
  exact ⟨ret_bool (show named (between 97 122) _ = named smallB _ from rfl), rfl⟩
def exT : List Str := [[66], [88, 49]]
theorem exT_rising : exT.Pairwise (· < ·) := by unfold exT; decide
theorem ex_tab : tab [[88, 49], [66]] = exT := eq_of_rising (tab_sorted _) exT_rising fun x => by
  rw [mem_tab]; unfold exT; simp [or_comm]
theorem xs_small (k : Nat) (h : k < 10) : xs k = [88, UInt8.ofNat (48 + k)] := by unfold xs; rw [Lib.decDigits_one h]
theorem ex_fr : fr exT 2 (1000 + exT.length) = [[88, 50], [88, 51]] := by
  have e1 : fr exT 2 1 = [] := fr_not (m := 0) (by rw [xs_small 1 (by omega)]; unfold exT; decide)
  have e2 : fr exT 2 2 = [[88, 50]] := by
    rw [fr_add (m := 1) (by rw [e1]; decide) (by rw [e1]; decide) (by rw [xs_small 2 (by omega)]; unfold exT; decide), e1, xs_small 2 (by omega)]; rfl
  have e3 : fr exT 2 3 = [[88, 50], [88, 51]] := by
    rw [fr_add (m := 2) (by rw [e2]; decide) (by rw [e2]; decide) (by rw [xs_small 3 (by omega)]; unfold exT; decide), e2, xs_small 3 (by omega)]; rfl
  have := fr_done (T := exT) (n := 2) (m := 3) (by rw [e3]; decide) 999
  rw [e3] at this
  exact this
theorem ex_find : findI exT [88, 49] = 1 := findI_hit exT_rising (a := 1) (by decide) rfl
set_option maxHeartbeats 800000 in
set_option maxRecDepth 100000 in
theorem lives (w : World) (hpow : Pow w) (hg : 0 < w.heap.size) : Calls Tryd.prog 11 #[] w fun e w' => e = .returned (.bool true) ∧ Below w.heap.size w w' := by
  have HP := Lib.hid hpow
  clear hpow
  go_enter Tryd.func11, Tryd.ntmps11
  go_wp2_with fail
  have hrow0 : SRow (w.alloc (.cells #[.string ⟨#[88, 49]⟩, .string ⟨#[66]⟩] 9)) (some ⟨w.heap.size, 0, none⟩) [[88, 49], [66]] := fun _ =>
    ⟨w.heap.size, 0, rfl, by simp, fun j hj => by
      rw [Lib.cell_of_heap (heap_alloc_new w _), Nat.zero_add]
      match j, hj with
      | 0, _ => rfl
      | 1, _ => rfl⟩
  refine (new _ _ _ _ (by decide) hrow0).mono ?_
  rintro e w1 ⟨p, rfl, ⟨t, v, rfl, ht, htb, hown⟩, hb1⟩
  rw [ex_tab] at hown
  have hbel1 : Below w.heap.size w w1 := ((Below.refl _ _).alloc (Nat.le_refl _) _).trans (hb1.mono (by simp))
  obtain ⟨A, c, rfl, hc, hrow⟩ := SRow.of_own hown
  have htl : t < w1.heap.size := (Array.getElem?_eq_some_iff.1 htb).1
  have hcell : w1.cell? ⟨t, 0, none⟩ = some (.slice A exT.length c) := by rw [Lib.cell_of_heap htb]; rfl
  have Hfind : Hid (∀ (s : ByteArray) w', Below w1.heap.size w1 w' → Calls Tryd.prog 16 #[.pointer (some ⟨t, 0, none⟩), .string s] w' (FindPost exT s.toList w')) := Lib.hid fun s w' hb =>
    find t exT A c s w' (by decide) exT_rising (hrow.keep hb) (Nat.lt_of_lt_of_le htl hb.size) ((hb.cell (p := ⟨t, 0, none⟩) htl).trans hcell)
  have Hlen : Hid (∀ w', Below w1.heap.size w1 w' → Calls Tryd.prog 20 #[.pointer (some ⟨t, 0, none⟩)] w' fun e w'' => e = .returned (.int .i64 2) ∧ w' = w'') := Lib.hid fun w' hb =>
    len w' t A 2 c ((hb.cell (p := ⟨t, 0, none⟩) htl).trans hcell)
  clear hown hrow hcell htb ht
  go_wp2_with fail
  refine (fresh _ exT 2 w1 (by decide) (by decide) (by decide) (HP.out.keep hg hbel1) (Nat.lt_of_lt_of_le hg hbel1.size) Hfind.out).mono ?_
  rintro e w2 ⟨v2, rfl, hown2, hb2⟩
  rw [ex_fr] at hown2
  obtain ⟨A2, c2, rfl, hc2, hrow2⟩ := SRow.of_own hown2
  clear hown2
  go_wp2_with fail
  have hb3 : Below w1.heap.size w1 (w2.alloc (.cells #[.string ⟨#[88, 50]⟩, .string ⟨#[88, 51]⟩] 9)) := hb2.alloc hb2.size _
  have hrow3 : SRow (w2.alloc (.cells #[.string ⟨#[88, 50]⟩, .string ⟨#[88, 51]⟩] 9)) (some ⟨w2.heap.size, 0, none⟩) [[88, 50], [88, 51]] := fun _ =>
    ⟨w2.heap.size, 0, rfl, by simp, fun j hj => by
      rw [Lib.cell_of_heap (heap_alloc_new w2 _), Nat.zero_add]
      match j, hj with
      | 0, _ => rfl
      | 1, _ => rfl⟩
  have hrow4 := hrow2.keep ((Below.refl _ _).alloc (Nat.le_refl _) (.cells #[.string ⟨#[88, 50]⟩, .string ⟨#[88, 51]⟩] 9))
  refine (same A2 _ c2 _ _ _ (by decide) hrow4 hrow3).mono ?_
  rintro e w3 ⟨rfl, n, rfl⟩
  have hb5 := below_drewN hb3 n
  clear hrow2 hrow3 hrow4 hb2 hb3
  generalize (w2.alloc (.cells #[.string ⟨#[88, 50]⟩, .string ⟨#[88, 51]⟩] 9)).drewN n = w3 at *
  have e1 : named capB [66, 111, 98] = true := by decide
  have e2 : named smallB [102, 114, 105, 101, 110, 100] = true := by decide
  go_wp2_with (go_at_call 20; refine (Hlen.out _ hb5).mono ?_; rintro e w' ⟨rfl, rfl⟩)
  refine (Hfind.out _ _ hb5).mono ?_
  rintro e w4 ⟨rfl, hb6⟩
  have e3 : findI exT (⟨#[88, 49]⟩ : ByteArray).toList = 1 := by
    rw [show (⟨#[88, 49]⟩ : ByteArray).toList = [88, 49] from by rw [Go.ByteArray.toList_eq]]; exact ex_find
  rw [e3]
  have hb7 := hbel1.trans ((hb5.trans (hb6.mono hb5.size)).mono hbel1.size)
  clear hb5 hb6 hb1 hbel1 Hfind Hlen HP
  go_wp2_with (first | (go_at_call 7; refine (isPrin _ _ (by decide)).mono ?_; rintro e w' ⟨rfl, rfl⟩) | (go_at_call 9; refine (isName _ _ (by decide)).mono ?_; rintro e w' ⟨rfl, rfl⟩))
  go_ret
  exact ⟨rfl, hb7⟩
end Go.Proofs.YtpdgjkjbimkmjaaDoor.Ref1
