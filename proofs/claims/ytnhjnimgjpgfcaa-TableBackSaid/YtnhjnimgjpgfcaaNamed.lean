/- Which texts are names: isNamed, IsPrin, IsName. -/
import Derived.Test.YtnhjnimgjpgfcaaLeaf
import Derived.Lib.Hide
import Derived.Outline
import Derived.IntWalk
namespace Go.Proofs.Ytnhjnimgjpgfcaa.Named
open Go.RowKit Go.Proofs.Ytnhjnimgjpgfcaa.Plain Go.Proofs.Ytnhjnimgjpgfcaa.Leaf
theorem isNamed_cap (s : ByteArray) (w : World) (hs : s.size ≤ maxLen) :
    Calls Try.prog 90 #[.string s, .func (.func 91) #[] #[]] w fun e w' => e = .returned (.bool (named capB s.data.toList)) ∧ w = w' := by
  unfold maxLen at hs
  by_cases h1 : 0 < s.size
  · have e1 : s.toList.isEmpty = false := toList_isEmpty h1
    by_cases h8 : s.size ≤ 8
    · have e2 : decide (8 < (s.size : Int)) = false := by simp; omega
      cases hc : capB s[0].toNat
      · go_enter Try.func90, Try.ntmps90
        go_wp2_with (go_at_call 91; refine (isCapital _ _).mono ?_; rintro e w' ⟨rfl, rfl⟩)
        go_ret
        exact ⟨ret_bool (named_head h1 hc).symm, rfl⟩
      · go_enter Try.func90, Try.ntmps90
        go_wp2_with (go_at_call 91; refine (isCapital _ _).mono ?_; rintro e w' ⟨rfl, rfl⟩)
        have Hc := Lib.hid hc
        clear hc e2 e1
        go_loop [22] (fun i => ∃ k : Nat, k ≤ s.size ∧ i = .int .i64 k ∧ Hid (∀ j, (h : j < s.size) → j < k → wordB s[j].toNat = true)) (fun i => s.size - (intOf i).toNat)
        case atStart => exact ⟨0, by omega, rfl, Lib.hid fun j _ hj => by omega⟩
        case round =>
          obtain ⟨k, hk, rfl, hall⟩ := hrel
          by_cases hlt : k < s.size
          · by_cases hw : wordB s[k].toNat = true
            · have hnext : Hid (∀ j, (h : j < s.size) → j < k + 1 → wordB s[j].toNat = true) := Lib.hid fun j h hj => by
                by_cases e : j = k
                · subst e; exact hw
                · exact hall.out j h (by omega)
              clear hall
              cases h1 : capB s[k].toNat <;> cases h2 : smallB s[k].toNat <;> cases h3 : digB s[k].toNat <;> first | (simp [wordB, h1, h2, h3] at hw; done) | skip
              all_goals
                clear hw
                go_wp2_with (first | (go_at_call 91; refine (isCapital _ _).mono ?_; rintro e w' ⟨rfl, rfl⟩) | (go_at_call 92; refine (isSmall _ _).mono ?_; rintro e w' ⟨rfl, rfl⟩) | (go_at_call 103; refine (isDigit _ _).mono ?_; rintro e w' ⟨rfl, rfl⟩))
                go_round
                case rel => exact ⟨k + 1, by omega, by go_num, hnext⟩
                case measure => simp [intOf]; omega
            · have hw' : wordB s[k].toNat = false := by simpa using hw
              have Hw := Lib.hid (named_bad (f := capB) k hlt hw')
              simp only [wordB, Bool.or_eq_false_iff] at hw'
              obtain ⟨⟨h1, h2⟩, h3⟩ := hw'
              clear hw
              go_wp2_with (first | (go_at_call 91; refine (isCapital _ _).mono ?_; rintro e w' ⟨rfl, rfl⟩) | (go_at_call 92; refine (isSmall _ _).mono ?_; rintro e w' ⟨rfl, rfl⟩) | (go_at_call 103; refine (isDigit _ _).mono ?_; rintro e w' ⟨rfl, rfl⟩))
              go_ret
              exact ⟨ret_bool Hw.out.symm, rfl⟩
          · go_wp2_with fail
            go_ret
            exact ⟨ret_bool (named_ok h1 h8 Hc.out (fun j h => hall.out j h (by omega))).symm, rfl⟩
    · have e2 : decide (8 < (s.size : Int)) = true := by simp; omega
      go_enter Try.func90, Try.ntmps90
      go_wp2
      go_ret
      exact ⟨ret_bool (named_len (by omega)).symm, rfl⟩
  · have e1 : s.toList.isEmpty = true := toList_isEmpty0 h1
    go_enter Try.func90, Try.ntmps90
    go_wp2
    go_ret
    exact ⟨ret_bool (named_len (by omega)).symm, rfl⟩
theorem isNamed_small (s : ByteArray) (w : World) (hs : s.size ≤ maxLen) :
    Calls Try.prog 90 #[.string s, .func (.func 92) #[] #[]] w fun e w' => e = .returned (.bool (named smallB s.data.toList)) ∧ w = w' := by
  unfold maxLen at hs
  by_cases h1 : 0 < s.size
  · have e1 : s.toList.isEmpty = false := toList_isEmpty h1
    by_cases h8 : s.size ≤ 8
    · have e2 : decide (8 < (s.size : Int)) = false := by simp; omega
      cases hc : smallB s[0].toNat
      · go_enter Try.func90, Try.ntmps90
        go_wp2_with (go_at_call 92; refine (isSmall _ _).mono ?_; rintro e w' ⟨rfl, rfl⟩)
        go_ret
        exact ⟨ret_bool (named_head h1 hc).symm, rfl⟩
      · go_enter Try.func90, Try.ntmps90
        go_wp2_with (go_at_call 92; refine (isSmall _ _).mono ?_; rintro e w' ⟨rfl, rfl⟩)
        have Hc := Lib.hid hc
        clear hc e2 e1
        go_loop [22] (fun i => ∃ k : Nat, k ≤ s.size ∧ i = .int .i64 k ∧ Hid (∀ j, (h : j < s.size) → j < k → wordB s[j].toNat = true)) (fun i => s.size - (intOf i).toNat)
        case atStart => exact ⟨0, by omega, rfl, Lib.hid fun j _ hj => by omega⟩
        case round =>
          obtain ⟨k, hk, rfl, hall⟩ := hrel
          by_cases hlt : k < s.size
          · by_cases hw : wordB s[k].toNat = true
            · have hnext : Hid (∀ j, (h : j < s.size) → j < k + 1 → wordB s[j].toNat = true) := Lib.hid fun j h hj => by
                by_cases e : j = k
                · subst e; exact hw
                · exact hall.out j h (by omega)
              clear hall
              cases h1 : capB s[k].toNat <;> cases h2 : smallB s[k].toNat <;> cases h3 : digB s[k].toNat <;> first | (simp [wordB, h1, h2, h3] at hw; done) | skip
              all_goals
                clear hw
                go_wp2_with (first | (go_at_call 91; refine (isCapital _ _).mono ?_; rintro e w' ⟨rfl, rfl⟩) | (go_at_call 92; refine (isSmall _ _).mono ?_; rintro e w' ⟨rfl, rfl⟩) | (go_at_call 103; refine (isDigit _ _).mono ?_; rintro e w' ⟨rfl, rfl⟩))
                go_round
                case rel => exact ⟨k + 1, by omega, by go_num, hnext⟩
                case measure => simp [intOf]; omega
            · have hw' : wordB s[k].toNat = false := by simpa using hw
              have Hw := Lib.hid (named_bad (f := smallB) k hlt hw')
              simp only [wordB, Bool.or_eq_false_iff] at hw'
              obtain ⟨⟨h1, h2⟩, h3⟩ := hw'
              clear hw
              go_wp2_with (first | (go_at_call 91; refine (isCapital _ _).mono ?_; rintro e w' ⟨rfl, rfl⟩) | (go_at_call 92; refine (isSmall _ _).mono ?_; rintro e w' ⟨rfl, rfl⟩) | (go_at_call 103; refine (isDigit _ _).mono ?_; rintro e w' ⟨rfl, rfl⟩))
              go_ret
              exact ⟨ret_bool Hw.out.symm, rfl⟩
          · go_wp2_with fail
            go_ret
            exact ⟨ret_bool (named_ok h1 h8 Hc.out (fun j h => hall.out j h (by omega))).symm, rfl⟩
    · have e2 : decide (8 < (s.size : Int)) = true := by simp; omega
      go_enter Try.func90, Try.ntmps90
      go_wp2
      go_ret
      exact ⟨ret_bool (named_len (by omega)).symm, rfl⟩
  · have e1 : s.toList.isEmpty = true := toList_isEmpty0 h1
    go_enter Try.func90, Try.ntmps90
    go_wp2
    go_ret
    exact ⟨ret_bool (named_len (by omega)).symm, rfl⟩
theorem isPrin (s : ByteArray) (w : World) (hs : s.size ≤ maxLen) : Calls Try.prog 72 #[.string s] w fun e w' => e = .returned (.bool (named capB s.data.toList)) ∧ w = w' := by
  go_enter Try.func72, Try.ntmps72
  go_wp2_with (go_at_call 90; refine (isNamed_cap _ _ hs).mono ?_; rintro e w' ⟨rfl, rfl⟩)
  go_ret
  exact ⟨rfl, rfl⟩
theorem isName (s : ByteArray) (w : World) (hs : s.size ≤ maxLen) : Calls Try.prog 73 #[.string s] w fun e w' => e = .returned (.bool (named smallB s.data.toList)) ∧ w = w' := by
  go_enter Try.func73, Try.ntmps73
  go_wp2_with (go_at_call 90; refine (isNamed_small _ _ hs).mono ?_; rintro e w' ⟨rfl, rfl⟩)
  go_ret
  exact ⟨rfl, rfl⟩
theorem isPrin1 (c : ByteArray) (b : UInt8) (hb : c.data.toList = [b]) (w : World) : Calls Try.prog 72 #[.string c] w fun e w' => e = .returned (.bool (capB b.toNat)) ∧ w = w' := by
  have hs : c.size ≤ maxLen := by rw [← toList_len, hb]; show 1 ≤ maxLen; decide
  refine (isPrin c w hs).mono ?_
  rintro e w' ⟨rfl, rfl⟩
  exact ⟨ret_bool (by rw [hb]; exact named_one_cap b), rfl⟩
theorem isName1 (c : ByteArray) (b : UInt8) (hb : c.data.toList = [b]) (w : World) : Calls Try.prog 73 #[.string c] w fun e w' => e = .returned (.bool (smallB b.toNat)) ∧ w = w' := by
  have hs : c.size ≤ maxLen := by rw [← toList_len, hb]; show 1 ≤ maxLen; decide
  refine (isName c w hs).mono ?_
  rintro e w' ⟨rfl, rfl⟩
  exact ⟨ret_bool (by rw [hb]; exact named_one_small b), rfl⟩
end Go.Proofs.Ytnhjnimgjpgfcaa.Named
