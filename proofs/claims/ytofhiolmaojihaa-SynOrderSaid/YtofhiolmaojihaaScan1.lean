/- The words of a line: inWord, wordSize. -/
import Derived.Test.YtofhiolmaojihaaNamed
import Derived.WalkLawsBesides
import Derived.WalkSpells
namespace Go.Proofs.Ytofhiolmaojihaa.Scan1
open Go.RowKit Go.Proofs.Ytofhiolmaojihaa.Plain Go.Proofs.Ytofhiolmaojihaa.Leaf Go.Proofs.Ytofhiolmaojihaa.Named
theorem dig_eq (b : UInt8) : ((decide (48 < b.toNat) || (48 : UInt8) == b) && (decide (b.toNat < 57) || b == 57)) = digB b.toNat := by
  rw [u8_eq, u8_eq]
  unfold digB
  rw [Bool.eq_iff_iff]
  have e1 : (48 : UInt8).toNat = 48 := rfl
  have e2 : (57 : UInt8).toNat = 57 := rfl
  simp only [e1, e2, Bool.and_eq_true, Bool.or_eq_true, decide_eq_true_iff]
  omega
theorem dig_no (b : UInt8) (h : ¬ (48 < b.toNat ∨ (48 : UInt8) = b)) : digB b.toNat = false := by
  rw [← dig_eq, u8_eq]
  have e1 : (48 : UInt8).toNat = 48 := rfl
  have : ¬ (48 = b.toNat) := fun e => h (.inr (UInt8.toNat_inj.1 (by rw [e1]; exact e)))
  rw [e1, decide_eq_false this, decide_eq_false (fun e => h (.inl e))]
  rfl
theorem inWord (c : ByteArray) (b : UInt8) (hb : c.data.toList = [b]) (w : World) : Calls Try.prog 96 #[.string c] w fun e w' => e = .returned (.bool (wordB b.toNat)) ∧ w = w' := by
  have hs : c.size ≤ maxLen := by
    rw [← toList_len, hb]; show 1 ≤ maxLen; decide
  have hcap : named capB c.data.toList = capB b.toNat := by rw [hb]; exact named_one_cap b
  have hsmall : named smallB c.data.toList = smallB b.toNat := by rw [hb]; exact named_one_small b
  have he : c.toList = [b] := by rw [Go.ByteArray.toList_eq, hb]
  have lo : Op.bytesLess [48] [b] = decide (48 < b.toNat) := by simp [Op.bytesLess, UInt8.lt_iff_toNat_lt]
  have hi : Op.bytesLess [b] [57] = decide (b.toNat < 57) := by simp [Op.bytesLess, UInt8.lt_iff_toNat_lt]
  clear hb
  cases h1 : capB b.toNat <;> cases h2 : smallB b.toNat
  all_goals
    have hw : Hid (wordB b.toNat = (capB b.toNat || smallB b.toNat || digB b.toNat)) := Lib.hid rfl
    go_enter Try.func96, Try.ntmps96
    go_wp2_with (first | (go_at_call 36; refine (isPrin _ _ hs).mono ?_; rintro e w' ⟨rfl, rfl⟩) | (go_at_call 37; refine (isName _ _ hs).mono ?_; rintro e w' ⟨rfl, rfl⟩))
    all_goals go_ret
    all_goals refine ⟨ret_bool ?_, rfl⟩
    all_goals rw [hw.out, h1, h2]
    all_goals first | rfl | exact dig_eq b | exact (dig_no b (by assumption)).symm
theorem one_byte (s : ByteArray) (k : Nat) (h : k < s.size) : (s.extract k (k + 1)).data.toList = [s[k]] := by
  rw [ByteArray.data_extract, Array.toList_extract, List.extract_eq_take_drop]
  rw [show k + 1 - k = 1 from by omega, drop_cons h]
  rfl
theorem wordSize (s : ByteArray) (w : World) (hs : s.size ≤ maxLen) : Calls Try.prog 87 #[.string s] w fun e w' => e = .returned (.int .i64 (wlen s 0)) ∧ w = w' := by
  unfold maxLen at hs
  go_enter Try.func87, Try.ntmps87
  go_wp2
  go_loop [3] (fun i => ∃ k : Nat, k ≤ s.size ∧ i = .int .i64 k ∧ Hid (wlen s 0 = wlen s k + k)) (fun i => s.size - (intOf i).toNat)
  case atStart => exact ⟨0, by omega, rfl, Lib.hid rfl⟩
  case round =>
    obtain ⟨k, hk, rfl, hrun⟩ := hrel
    by_cases hlt : k < s.size
    · cases hw : wordB s[k].toNat
      · have hfin : Hid (wlen s 0 = k) := Lib.hid (by rw [hrun.out, wlen_stop hlt hw]; omega)
        clear hrun
        go_wp2_with (go_at_call 96; refine (inWord _ _ (one_byte s k hlt) _).mono ?_; rintro e w' ⟨rfl, rfl⟩)
        go_ret
        exact ⟨ret_int (by rw [hfin.out]), rfl⟩
      · have hnext : Hid (wlen s 0 = wlen s (k + 1) + (k + 1)) := Lib.hid (by rw [hrun.out, wlen_succ hlt hw]; omega)
        clear hrun
        go_wp2_with (go_at_call 96; refine (inWord _ _ (one_byte s k hlt) _).mono ?_; rintro e w' ⟨rfl, rfl⟩)
        go_round
        case rel => exact ⟨k + 1, by omega, by go_num, hnext⟩
        case measure => simp [intOf]; omega
    · have hfin : Hid (wlen s 0 = k) := Lib.hid (by rw [hrun.out, wlen_end hlt]; omega)
      clear hrun
      go_wp2_with fail
      go_ret
      exact ⟨ret_int (by rw [hfin.out]), rfl⟩
end Go.Proofs.Ytofhiolmaojihaa.Scan1
