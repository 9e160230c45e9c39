/- A line without its comment, in the program and in the document's answers; the first token of a line. -/
import Derived.Test.YtkmpbkgmdfeicaaGreatM01
import Derived.Test.YtkmpbkgmdfeicaaGreatShelf
import Derived.Deep.QuietTactic
import Derived.BigQuiet
import Derived.Laws.AppendOwn
import Derived.OwnWalk
import Derived.Lib.Builder
import Derived.WalkSmall
namespace Go.Proofs.YtkmpbkgmdfeicaaGreat.Scan2
set_option linter.unusedVariables false
set_option linter.unusedSimpArgs false
open Go.RowKit Go.Proofs.YtkmpbkgmdfeicaaGreat.Plain Go.Proofs.YtkmpbkgmdfeicaaGreat.Leaf Go.Proofs.YtkmpbkgmdfeicaaGreat.Named Go.Proofs.YtkmpbkgmdfeicaaGreat.Scan1
theorem indexByte_cases (l : List UInt8) (c : UInt8) : (Lib.indexByte l c = -1 ∧ l.takeWhile (fun x => x != c) = l) ∨ ∃ i : Nat, Lib.indexByte l c = i ∧ i < l.length ∧ l.takeWhile (fun x => x != c) = l.take i := by
  induction l with
  | nil => exact .inl ⟨rfl, rfl⟩
  | cons b l ih =>
    unfold Lib.indexByte
    rw [List.takeWhile_cons]
    by_cases h : b = c
    · subst h
      exact .inr ⟨0, by rw [if_pos (by simp)]; rfl, by simp, by simp⟩
    · have hb : (b == c) = false := by simpa using h
      have hn : (b != c) = true := by simpa using h
      rw [if_pos hn]
      simp only [hb, Bool.false_eq_true, if_false]
      rcases ih with ⟨h1, h2⟩ | ⟨i, h1, h2, h3⟩
      · left
        rw [h1, h2]
        simp
      · right
        refine ⟨i + 1, ?_, ?_, ?_⟩
        · rw [h1, if_neg (by simp)]; omega
        · simp; omega
        · rw [h3, List.take_succ_cons]
def CutPost (s : ByteArray) (w : World) (e : Ending) (w' : World) : Prop := (∃ x b, e = .returned (.tuple #[.string (bare s), .string x, .bool b])) ∧ ∃ n, w' = w.drewN n
theorem bare_all {s : ByteArray} (h : s.data.toList.takeWhile (fun x => x != 35) = s.data.toList) : bare s = s := by
  unfold bare
  rw [h]
theorem bare_take {s : ByteArray} {i : Nat} (h : s.data.toList.takeWhile (fun x => x != 35) = s.data.toList.take i) : bare s = s.extract 0 i := by
  unfold bare
  rw [h]
  apply ByteArray.ext
  rw [ByteArray.data_extract]
  apply Array.ext'
  simp
theorem cut35 (s : ByteArray) (w : World) (hs : s.size ≤ maxLen) : Calls Tryz.prog 234 #[.string s, .string ⟨#[35]⟩] w (CutPost s w) := by
  unfold maxLen at hs
  rcases indexByte_cases s.data.toList 35 with ⟨h1, h2⟩ | ⟨i, h1, h2, h3⟩
  · have hb := Lib.hid (bare_all h2)
    clear h2
    go_enter Tryz.func234, Tryz.ntmps234
    go_wp2_with (go_at_call 248; refine (Tryz.stringslite_Index_one _ _ _).mono ?_; rintro e w' ⟨rfl, rfl⟩)
    go_ret3
    exact ⟨⟨_, _, by rw [hb.out]; rfl⟩, 0, rfl⟩
  · have hb := Lib.hid (bare_take h3)
    rw [toList_len] at h2
    clear h3
    have e1 : decide ((0 : Int) ≤ i) = true := by simp
    go_enter Tryz.func234, Tryz.ntmps234
    go_wp2_with (go_at_call 248; refine (Tryz.stringslite_Index_one _ _ _).mono ?_; rintro e w' ⟨rfl, rfl⟩)
    go_quiet (fail)
    go_wp2
    go_ret3
    exact ⟨⟨_, _, by rw [hb.out]; rfl⟩, _, rfl⟩
theorem cutS35 (s : ByteArray) (w : World) (hs : s.size ≤ maxLen) : Calls Tryz.prog 205 #[.string s, .string ⟨#[35]⟩] w (CutPost s w) := by
  go_enter Tryz.func205, Tryz.ntmps205
  go_wp2_with (go_at_call 234; refine (cut35 _ _ hs).mono ?_; rintro e w' ⟨⟨x, b, rfl⟩, n, rfl⟩)
  go_ret3
  exact ⟨⟨_, _, rfl⟩, _, rfl⟩
theorem uncommented (s : ByteArray) (w : World) (hs : s.size ≤ maxLen) : Calls Tryz.prog 149 #[.string s] w fun e w' => e = .returned (.string (bare s)) ∧ ∃ n, w' = w.drewN n := by
  go_enter Tryz.func149, Tryz.ntmps149
  go_wp2_with (go_at_call 205; refine (cutS35 _ _ hs).mono ?_; rintro e w' ⟨⟨x, b, rfl⟩, n, rfl⟩)
  go_ret
  exact ⟨rfl, _, rfl⟩
theorem takeWhile_stop {l : List UInt8} {k : Nat} (hk : k < l.length) (hall : ∀ j, (h : j < k) → l[j]'(by omega) ≠ 35) (hc : l[k] = 35) : l.takeWhile (fun x => x != 35) = l.take k := by
  induction k generalizing l with
  | zero =>
    cases l with
    | nil => rfl
    | cons a l =>
      have : a = 35 := hc
      subst this
      rfl
  | succ k ih =>
    cases l with
    | nil => simp at hk
    | cons a l =>
      have ha : a ≠ 35 := hall 0 (by omega)
      rw [List.takeWhile_cons, if_pos (by simpa using ha), List.take_succ_cons, ih (by simpa using hk) (fun j hj => hall (j + 1) (by omega)) hc]
theorem takeWhile_all {l : List UInt8} (hall : ∀ x ∈ l, x ≠ 35) : l.takeWhile (fun x => x != 35) = l := by
  induction l with
  | nil => rfl
  | cons a l ih =>
    rw [List.takeWhile_cons, if_pos (by simpa using hall a (by simp)), ih fun x hx => hall x (by simp [hx])]
theorem bare_stop {s : ByteArray} {k : Nat} (hk : k < s.size) (hall : ∀ j, (h : j < s.size) → j < k → (s[j].toNat : Int) ≠ 35) (hc : (s[k].toNat : Int) = 35) : bare s = s.extract 0 k := by
  apply bare_take
  exact takeWhile_stop (by rw [toList_len]; exact hk) (fun j hj => fun e => hall j (by omega) hj (by have h : s[j] = 35 := e; rw [h]; rfl)) (UInt8.toNat_inj.1 (by have : s[k] = s.data.toList[k] := rfl; rw [← this]; show s[k].toNat = 35; omega))
theorem bare_none {s : ByteArray} (hall : ∀ j, (h : j < s.size) → (s[j].toNat : Int) ≠ 35) : bare s = s := by
  apply bare_all
  refine takeWhile_all fun x hx => ?_
  obtain ⟨j, hj, rfl⟩ := List.getElem_of_mem hx
  rw [toList_len] at hj
  intro e
  exact hall j hj (by have h : s[j] = 35 := e; rw [h]; rfl)
theorem bareRef (s : ByteArray) (w : World) (hs : s.size ≤ maxLen) : Calls Tryz.prog 158 #[.string s] w fun e w' => e = .returned (.string (bare s)) ∧ w = w' := by
  unfold maxLen at hs
  go_enter Tryz.func158, Tryz.ntmps158
  go_wp2
  go_loop [3] (fun i => ∃ k : Nat, k ≤ s.size ∧ i = .int .i64 k ∧ Hid (∀ j, (h : j < s.size) → j < k → (s[j].toNat : Int) ≠ 35)) (fun i => s.size - (intOf i).toNat)
  case atStart => exact ⟨0, by omega, rfl, Lib.hid fun j _ h => by omega⟩
  case round =>
    obtain ⟨k, hk, rfl, hall⟩ := hrel
    by_cases hlt : k < s.size
    · by_cases hc : (s[k].toNat : Int) = 35
      · have hb := Lib.hid (bare_stop hlt hall.out hc)
        have hc' : ((s[k].toNat : Int) == 35) = true := by simpa using hc
        clear hall hc
        go_wp2_with fail
        go_ret
        exact ⟨ret_str hb.out.symm, rfl⟩
      · have hc' : ((s[k].toNat : Int) == 35) = false := by simpa using hc
        have hnext : Hid (∀ j, (h : j < s.size) → j < k + 1 → (s[j].toNat : Int) ≠ 35) := Lib.hid fun j h hj => by
          by_cases e : j = k
          · subst e; exact hc
          · exact hall.out j h (by omega)
        clear hall hc
        go_wp2_with fail
        go_round
        case rel => exact ⟨k + 1, by omega, by go_num, hnext⟩
        case measure => simp [intOf]; omega
    · have hb := Lib.hid (bare_none (s := s) (fun j h => hall.out j h (by omega)))
      clear hall
      go_wp2_with fail
      go_ret
      exact ⟨ret_str hb.out.symm, rfl⟩
def firstA (s : ByteArray) (h : 0 < s.size) : Int × Int :=
  if capB s[0].toNat then (1, wlen s 0)
  else if smallB s[0].toNat then (2, wlen s 0)
  else if s[0] = 46 then (3, 1)
  else if s[0] = 38 then (5, 1)
  else if Lib.hasPrefix s.data.toList [60, 45] then (4, 2)
  else (0, 0)
theorem first_46 (s : ByteArray) (w : World) (hs : s.size ≤ maxLen) (h : 0 < s.size) (h1 : capB s[0].toNat = false) (h2 : smallB s[0].toNat = false) (h3 : s[0] = 46) : Calls Tryz.prog 150 #[.string s] w fun e w' => e = .returned (.tuple #[.int .i64 3, .int .i64 1]) ∧ w = w' := by
  have hs' := hs
  unfold maxLen at hs
  have hone := one_byte s 0 h
  have he : (s.extract 0 1).toList = [s[0]] := by rw [Go.ByteArray.toList_eq, hone]
  have e3 : (s[0] == 46) = true := by simpa using h3
  clear hone h3
  go_enter Tryz.func150, Tryz.ntmps150
  go_wp2_with (first | (go_at_call 127; refine (isPrin1 _ _ (one_byte s 0 h) _).mono ?_; rintro e w' ⟨rfl, rfl⟩) | (go_at_call 128; refine (isName1 _ _ (one_byte s 0 h) _).mono ?_; rintro e w' ⟨rfl, rfl⟩))
  go_ret2
  exact ⟨rfl, rfl⟩
theorem first_38 (s : ByteArray) (w : World) (hs : s.size ≤ maxLen) (h : 0 < s.size) (h1 : capB s[0].toNat = false) (h2 : smallB s[0].toNat = false) (h3 : s[0] ≠ 46) (h4 : s[0] = 38) : Calls Tryz.prog 150 #[.string s] w fun e w' => e = .returned (.tuple #[.int .i64 5, .int .i64 1]) ∧ w = w' := by
  have hs' := hs
  unfold maxLen at hs
  have hone := one_byte s 0 h
  have he : (s.extract 0 1).toList = [s[0]] := by rw [Go.ByteArray.toList_eq, hone]
  have e3 : (s[0] == 46) = false := u8_ne h3
  have e4 : (s[0] == 38) = true := by simpa using h4
  clear hone h3 h4
  go_enter Tryz.func150, Tryz.ntmps150
  go_wp2_with (first | (go_at_call 127; refine (isPrin1 _ _ (one_byte s 0 h) _).mono ?_; rintro e w' ⟨rfl, rfl⟩) | (go_at_call 128; refine (isName1 _ _ (one_byte s 0 h) _).mono ?_; rintro e w' ⟨rfl, rfl⟩))
  go_ret2
  exact ⟨rfl, rfl⟩
theorem first_60 (s : ByteArray) (w : World) (hs : s.size ≤ maxLen) (h : 0 < s.size) (h1 : capB s[0].toNat = false) (h2 : smallB s[0].toNat = false) (h3 : s[0] ≠ 46) (h4 : s[0] ≠ 38) (h5 : Lib.hasPrefix s.data.toList [60, 45] = true) : Calls Tryz.prog 150 #[.string s] w fun e w' => e = .returned (.tuple #[.int .i64 4, .int .i64 2]) ∧ w = w' := by
  have hs' := hs
  unfold maxLen at hs
  have hone := one_byte s 0 h
  have he : (s.extract 0 1).toList = [s[0]] := by rw [Go.ByteArray.toList_eq, hone]
  have e3 : (s[0] == 46) = false := u8_ne h3
  have e4 : (s[0] == 38) = false := u8_ne h4
  clear hone h3 h4
  go_enter Tryz.func150, Tryz.ntmps150
  go_wp2_with (first | (go_at_call 127; refine (isPrin1 _ _ (one_byte s 0 h) _).mono ?_; rintro e w' ⟨rfl, rfl⟩) | (go_at_call 128; refine (isName1 _ _ (one_byte s 0 h) _).mono ?_; rintro e w' ⟨rfl, rfl⟩) | (go_at_call 207; refine (Tryz.strings_HasPrefix _ _ _).mono ?_; rintro e w' ⟨rfl, rfl⟩))
  go_ret2
  exact ⟨rfl, rfl⟩
theorem first_no (s : ByteArray) (w : World) (hs : s.size ≤ maxLen) (h : 0 < s.size) (h1 : capB s[0].toNat = false) (h2 : smallB s[0].toNat = false) (h3 : s[0] ≠ 46) (h4 : s[0] ≠ 38) (h5 : Lib.hasPrefix s.data.toList [60, 45] = false) : Calls Tryz.prog 150 #[.string s] w fun e w' => e = .returned (.tuple #[.int .i64 0, .int .i64 0]) ∧ w = w' := by
  have hs' := hs
  unfold maxLen at hs
  have hone := one_byte s 0 h
  have he : (s.extract 0 1).toList = [s[0]] := by rw [Go.ByteArray.toList_eq, hone]
  have e3 : (s[0] == 46) = false := u8_ne h3
  have e4 : (s[0] == 38) = false := u8_ne h4
  clear hone h3 h4
  go_enter Tryz.func150, Tryz.ntmps150
  go_wp2_with (first | (go_at_call 127; refine (isPrin1 _ _ (one_byte s 0 h) _).mono ?_; rintro e w' ⟨rfl, rfl⟩) | (go_at_call 128; refine (isName1 _ _ (one_byte s 0 h) _).mono ?_; rintro e w' ⟨rfl, rfl⟩) | (go_at_call 207; refine (Tryz.strings_HasPrefix _ _ _).mono ?_; rintro e w' ⟨rfl, rfl⟩))
  go_ret2
  exact ⟨rfl, rfl⟩
theorem first_small (s : ByteArray) (w : World) (hs : s.size ≤ maxLen) (h : 0 < s.size) (h1 : capB s[0].toNat = false) (h2 : smallB s[0].toNat = true) : Calls Tryz.prog 150 #[.string s] w fun e w' => e = .returned (.tuple #[.int .i64 2, .int .i64 (wlen s 0)]) ∧ w = w' := by
  have hs' := hs
  unfold maxLen at hs
  have hone := one_byte s 0 h
  have he : (s.extract 0 1).toList = [s[0]] := by rw [Go.ByteArray.toList_eq, hone]
  clear hone
  go_enter Tryz.func150, Tryz.ntmps150
  go_wp2_with (first | (go_at_call 127; refine (isPrin1 _ _ (one_byte s 0 h) _).mono ?_; rintro e w' ⟨rfl, rfl⟩) | (go_at_call 128; refine (isName1 _ _ (one_byte s 0 h) _).mono ?_; rintro e w' ⟨rfl, rfl⟩) | (go_at_call 206; refine (wordSize _ _ hs').mono ?_; rintro e w' ⟨rfl, rfl⟩))
  go_ret2
  exact ⟨rfl, rfl⟩
theorem first_cap (s : ByteArray) (w : World) (hs : s.size ≤ maxLen) (h : 0 < s.size) (h1 : capB s[0].toNat = true) : Calls Tryz.prog 150 #[.string s] w fun e w' => e = .returned (.tuple #[.int .i64 1, .int .i64 (wlen s 0)]) ∧ w = w' := by
  have hs' := hs
  unfold maxLen at hs
  have hone := one_byte s 0 h
  have he : (s.extract 0 1).toList = [s[0]] := by rw [Go.ByteArray.toList_eq, hone]
  clear hone
  go_enter Tryz.func150, Tryz.ntmps150
  go_wp2_with (first | (go_at_call 127; refine (isPrin1 _ _ (one_byte s 0 h) _).mono ?_; rintro e w' ⟨rfl, rfl⟩) | (go_at_call 128; refine (isName1 _ _ (one_byte s 0 h) _).mono ?_; rintro e w' ⟨rfl, rfl⟩) | (go_at_call 206; refine (wordSize _ _ hs').mono ?_; rintro e w' ⟨rfl, rfl⟩))
  go_ret2
  exact ⟨rfl, rfl⟩
theorem first (s : ByteArray) (w : World) (hs : s.size ≤ maxLen) (h : 0 < s.size) : Calls Tryz.prog 150 #[.string s] w fun e w' => e = .returned (.tuple #[.int .i64 (firstA s h).1, .int .i64 (firstA s h).2]) ∧ w = w' := by
  cases h1 : capB s[0].toNat
  · cases h2 : smallB s[0].toNat
    · by_cases h3 : s[0] = 46
      · rw [show firstA s h = (3, 1) by unfold firstA; rw [if_neg (by rw [h1]; decide), if_neg (by rw [h2]; decide), if_pos h3]]
        exact first_46 s w hs h h1 h2 h3
      · by_cases h4 : s[0] = 38
        · rw [show firstA s h = (5, 1) by unfold firstA; rw [if_neg (by rw [h1]; decide), if_neg (by rw [h2]; decide), if_neg h3, if_pos h4]]
          exact first_38 s w hs h h1 h2 h3 h4
        · cases h5 : Lib.hasPrefix s.data.toList [60, 45]
          · rw [show firstA s h = (0, 0) by unfold firstA; rw [if_neg (by rw [h1]; decide), if_neg (by rw [h2]; decide), if_neg h3, if_neg h4, if_neg (by rw [h5]; decide)]]
            exact first_no s w hs h h1 h2 h3 h4 h5
          · rw [show firstA s h = (4, 2) by unfold firstA; rw [if_neg (by rw [h1]; decide), if_neg (by rw [h2]; decide), if_neg h3, if_neg h4, if_pos h5]]
            exact first_60 s w hs h h1 h2 h3 h4 h5
    · rw [show firstA s h = (2, (wlen s 0 : Int)) by unfold firstA; rw [if_neg (by rw [h1]; decide), if_pos h2]]
      exact first_small s w hs h h1 h2
  · rw [show firstA s h = (1, (wlen s 0 : Int)) by unfold firstA; rw [if_pos h1]]
    exact first_cap s w hs h h1
end Go.Proofs.YtkmpbkgmdfeicaaGreat.Scan2
/- The tokens of a line, in the program. -/
namespace Go.Proofs.YtkmpbkgmdfeicaaGreat.Scan3
set_option linter.unusedVariables false
set_option linter.unusedSimpArgs false
open Go.RowKit Go.Proofs.YtkmpbkgmdfeicaaGreat.Plain Go.Proofs.YtkmpbkgmdfeicaaGreat.Leaf Go.Proofs.YtkmpbkgmdfeicaaGreat.Named Go.Proofs.YtkmpbkgmdfeicaaGreat.Scan1 Go.Proofs.YtkmpbkgmdfeicaaGreat.Scan2
theorem rest_list (t : ByteArray) (k : Nat) : (t.extract k t.size).data.toList = t.data.toList.drop k := by
  rw [ByteArray.data_extract, Array.toList_extract, List.extract_eq_take_drop]
  apply List.take_of_length_le
  rw [List.length_drop, toList_len]
  exact Nat.le_refl _
theorem rest_size (t : ByteArray) (k : Nat) : (t.extract k t.size).size = t.size - k := by
  rw [← toList_len, rest_list, List.length_drop, toList_len]
theorem rest_head (t : ByteArray) (k : Nat) (h : k < t.size) (h0 : 0 < (t.extract k t.size).size) : (t.extract k t.size)[0] = t[k] := by
  have e := headD_eq h0
  rw [rest_list, drop_cons h] at e
  exact e.symm
theorem rest_wlen (t : ByteArray) (k : Nat) : wlen (t.extract k t.size) 0 = wlen t k := by
  unfold wlen
  rw [rest_list]; rfl
theorem word_of_cap {n : Int} (h : capB n = true) : wordB n = true := by unfold wordB; rw [h]; rfl
theorem word_of_small {n : Int} (h : smallB n = true) : wordB n = true := by unfold wordB; rw [h]; simp
theorem prefix_len (t : ByteArray) (k : Nat) (h5 : Lib.hasPrefix (t.data.toList.drop k) [60, 45] = true) : k + 2 ≤ t.size := by
  have h : [60, 45] <+: t.data.toList.drop k := by
    unfold Lib.hasPrefix at h5
    exact List.isPrefixOf_iff_prefix.1 h5
  have := h.length_le
  rw [List.length_drop, toList_len] at this
  simp at this
  omega
inductive Cases (t : ByteArray) (k : Nat) (h : k < t.size) (F : Int × Int) : Prop where
  | tok (kind : Int) (m : Nat) (hs : tkStep t k h = .tok kind m) (hF : F = (kind, ((m + 1 : Nat) : Int))) (h8 : m + 1 ≤ 8) (hk : k + (m + 1) ≤ t.size)
  | none_ (hs : tkStep t k h = .bad 1) (hF : F = (0, 0))
  | long (kind : Int) (n : Nat) (hs : tkStep t k h = .bad 4) (hF : F = (kind, (n : Int))) (h8 : 8 < n)
theorem step_cases (t : ByteArray) (k : Nat) (h : k < t.size) (h32 : t[k] ≠ 32) (h0 : 0 < (t.extract k t.size).size) : Cases t k h (firstA (t.extract k t.size) h0) := by
  have hh := rest_head t k h h0
  have hw := rest_wlen t k
  have hle := wlen_le t k
  unfold firstA
  rw [hh, hw, rest_list]
  cases h1 : capB t[k].toNat
  · rw [if_neg (by decide)]
    cases h2 : smallB t[k].toNat
    · rw [if_neg (by decide)]
      by_cases h3 : t[k] = 46
      · rw [if_pos h3]
        exact .tok 3 0 (by unfold tkStep; rw [if_neg h32, if_neg (by rw [h1]; decide), if_neg (by rw [h2]; decide), if_pos h3]) rfl (by omega) (by omega)
      · rw [if_neg h3]
        by_cases h4 : t[k] = 38
        · rw [if_pos h4]
          exact .tok 5 0 (by unfold tkStep; rw [if_neg h32, if_neg (by rw [h1]; decide), if_neg (by rw [h2]; decide), if_neg h3, if_pos h4]) rfl (by omega) (by omega)
        · rw [if_neg h4]
          cases h5 : Lib.hasPrefix (t.data.toList.drop k) [60, 45]
          · rw [if_neg (by decide)]
            exact .none_ (by unfold tkStep; rw [if_neg h32, if_neg (by rw [h1]; decide), if_neg (by rw [h2]; decide), if_neg h3, if_neg h4, if_neg (by rw [h5]; decide)]) rfl
          · rw [if_pos rfl]
            exact .tok 4 1 (by unfold tkStep; rw [if_neg h32, if_neg (by rw [h1]; decide), if_neg (by rw [h2]; decide), if_neg h3, if_neg h4, if_pos h5]) rfl (by omega) (by have := prefix_len t k h5; omega)
    · rw [if_pos rfl]
      have hs := wlen_succ h (word_of_small h2)
      by_cases h8 : wlen t (k + 1) + 1 > 8
      · exact .long 2 (wlen t k) (by unfold tkStep; rw [if_neg h32, if_neg (by rw [h1]; decide), if_pos h2, if_pos h8]) rfl (by omega)
      · exact .tok 2 (wlen t (k + 1)) (by unfold tkStep; rw [if_neg h32, if_neg (by rw [h1]; decide), if_pos h2, if_neg h8]) (by rw [hs]) (by omega) (by omega)
  · rw [if_pos rfl]
    have hs := wlen_succ h (word_of_cap h1)
    by_cases h8 : wlen t (k + 1) + 1 > 8
    · exact .long 1 (wlen t k) (by unfold tkStep; rw [if_neg h32, if_pos h1, if_pos h8]) rfl (by omega)
    · exact .tok 1 (wlen t (k + 1)) (by unfold tkStep; rw [if_neg h32, if_pos h1, if_neg h8]) (by rw [hs]) (by omega) (by omega)
theorem bare_le (s : ByteArray) : (bare s).size ≤ s.size := by
  rw [← toList_len, ← toList_len s]
  unfold bare
  exact (List.takeWhile_sublist _).length_le
theorem infoTok : (Tryz.prog.info? 127).map (fun i => (i.zero, i.size, i.bytes)) = some (some (.agg #[.int .i64 0, .string ⟨#[]⟩, .int .i64 0]), 3, 32) := by kernel_rfl

def okCol : TkAns → Int
  | .ok _ => 0
  | .bad c _ => c
def okErr : TkAns → Int
  | .ok _ => 0
  | .bad _ e => e
def okToks : TkAns → List Tk
  | .ok l => l
  | .bad _ _ => []
/-- What Tokens answers of a line. -/
def ansOf (s : ByteArray) : TkAns := if s.size > 200 then .bad 201 4 else tkRun (bare s) 0 []
def TokPost (a : TkAns) (w : World) (e : Ending) (w' : World) : Prop := ∃ v, e = .returned (.tuple #[v, .int .i64 (okCol a), .int .i64 (okErr a)]) ∧ w'.ownsRow w.heap.size 127 3 v (okToks a).length (tkCells (okToks a)) ∧ Below w.heap.size w w'
theorem new_cells3 (w : World) (a b c : Value) (t : TypeId) : ∀ j u, [a, b, c][j]? = some u → (w.alloc (.cells #[a, b, c] t)).cell? ((⟨w.heap.size, 0, none⟩ : Addr).add j) = some u := by
  intro j u hu
  have h : (w.alloc (.cells #[a, b, c] t)).cell? ⟨w.heap.size, j, none⟩ = #[a, b, c][j]? := Lib.cell_of_heap (heap_alloc_new w _) j
  have e : ((⟨w.heap.size, 0, none⟩ : Addr).add j) = ⟨w.heap.size, j, none⟩ := by
    unfold Addr.add
    split
    · rename_i h0; rw [h0]
    · simp
  rw [e, h, ← hu]
  simp
theorem own_snoc {w : World} {B : Nat} {e : TypeId} {v : Value} {L : List Tk} {t : Tk} (h : w.ownsRow B e 3 v (L.length + 1) (tkCells L ++ [.int .i64 t.kind, .string t.text, .int .i64 ((t.col : Nat) : Int)])) : w.ownsRow B e 3 v (L ++ [t]).length (tkCells (L ++ [t])) := by
  have e1 : tkCells (L ++ [t]) = tkCells L ++ [.int .i64 t.kind, .string t.text, .int .i64 ((t.col : Nat) : Int)] := by
    unfold tkCells; simp [Tk.cells]
  rw [e1, List.length_append]
  exact h
theorem below_own {a w w1 : World} {e : TypeId} {size n : Nat} {v : Value} {xs : List Value} {o : Obj} (hb : Below a.heap.size a w) (hown : w.ownsRow a.heap.size e size v n xs) (hg : (w.alloc o).grownBy w1 v.ownBlock) : Below a.heap.size a w1 :=
  (hb.alloc hb.size o).grown hg (by have := hb.size; simp; omega) (fun k hk => (hown.lt k hk).1)
set_option maxRecDepth 100000 in
theorem tokens (s : ByteArray) (w : World) (hs : s.size ≤ 1000000) : Calls Tryz.prog 111 #[.string s] w (TokPost (ansOf s) w) := by
  obtain ⟨i0, hi, hz0, hz1, hz2⟩ := info_parts infoTok
  have hsm : s.size ≤ maxLen := by unfold maxLen; omega
  by_cases h2 : 200 < s.size
  · have ha : Hid (ansOf s = .bad 201 4) := Lib.hid (by unfold ansOf; rw [if_pos h2])
    go_enter Tryz.func111, Tryz.ntmps111
    go_wp2
    go_ret3
    exact ⟨_, by rw [ha.out]; rfl, by rw [ha.out]; exact World.ownsRow_nil _ _ _ _, Below.refl _ _⟩
  · have ha : Hid (ansOf s = tkRun (bare s) 0 []) := Lib.hid (by unfold ansOf; rw [if_neg h2])
    have hle := bare_le s
    go_enter Tryz.func111, Tryz.ntmps111
    go_wp2_with (go_at_call 149; refine (uncommented _ _ hsm).mono ?_; rintro e w' ⟨rfl, n, rfl⟩)
    generalize bare s = t at *
    go_loopw [5, 6] (fun v i wr => ∃ (k : Nat) (L : List Tk), k ≤ t.size ∧ i = .int .i64 k ∧ L.length ≤ k ∧ Hid (tkRun t 0 [] = tkRun t k L) ∧ wr.ownsRow w.heap.size 127 3 v L.length (tkCells L) ∧ Below w.heap.size w wr) (fun _ i _ => t.size - (intOf i).toNat)
    case atStart => exact ⟨0, [], by omega, rfl, by simp, Lib.hid rfl, World.ownsRow_nil _ _ _ _, below_drewN (Below.refl _ _) _⟩
    case round =>
      obtain ⟨k, L, hk, rfl, hL, hrun, hown, hbel⟩ := hrel
      by_cases hlt : k < t.size
      · by_cases h32 : t[k] = 32
        · have hnext : Hid (tkRun t 0 [] = tkRun t (k + 1) L) := Lib.hid (by rw [hrun.out, tkRun_skip hlt (by unfold tkStep; rw [if_pos h32])])
          have e32 : ((t[k].toNat : Int) == 32) = true := i8_eq (n := 32) rfl h32
          clear hrun h32
          go_wp2_with fail
          go_roundw
          case rel => exact ⟨k + 1, L, by omega, by go_num, by omega, hnext, hown, hbel⟩
          case measure => simp [intOf]; omega
        · have e32 : ((t[k].toNat : Int) == 32) = false := i8_ne (n := 32) rfl h32
          have h0 : 0 < (t.extract k t.size).size := by rw [rest_size]; omega
          have hrm : (t.extract k t.size).size ≤ maxLen := by rw [rest_size]; omega
          rcases step_cases t k hlt h32 h0 with ⟨kind, m, hst, hF, h8, hkm⟩ | ⟨hst, hF⟩ | ⟨kind, n', hst, hF, h8⟩
          · have hcall : Hid (∀ w, Calls Tryz.prog 150 #[.string (t.extract k t.size)] w fun e w' => e = .returned (.tuple #[.int .i64 kind, .int .i64 ((m + 1 : Nat) : Int)]) ∧ w = w') := Lib.hid (fun w => by have := first (t.extract k t.size) w hrm h0; rw [hF] at this; exact this)
            have hnext : Hid (tkRun t 0 [] = tkRun t (k + m + 1) (L ++ [⟨kind, t.extract k (k + (m + 1)), k + 1⟩])) := Lib.hid (by rw [hrun.out, tkRun_tok hlt hst])
            clear hrun hst hF h32 h0 hrm
            go_wp2_with (first | (at_builtin; refine wpList_append_own _ rfl _ _ 120 rfl w.heap.size 127 i0 (.agg #[.int .i64 0, .string ⟨#[]⟩, .int .i64 0]) 3 32 Tryz.underlying120 hi hz0 hz1 hz2 rfl (by decide) _ _ _ rfl (hown.alloc _) ⟨wr.heap.size, 0, none⟩ 1 1 [.int .i64 kind, .string (t.extract k (k + (m + 1))), .int .i64 (k + 1)] rfl rfl ?c1 ?c2 ?c3 ?c4 ?c5 ?_) | (go_at_call 150; refine (hcall.out _).mono ?_; rintro e w' ⟨rfl, rfl⟩))
            case c1 => exact new_cells3 _ _ _ _ _
            case c2 => intro u hu; simp at hu; rcases hu with rfl | rfl | rfl <;> rfl
            case c3 => unfold maxLen; omega
            case c4 => omega
            case c5 => have := hbel.size; simp; omega
            intro v' w1 hown' hgrow _
            have hown2 := own_snoc (t := ⟨kind, t.extract k (k + (m + 1)), k + 1⟩) (by simpa using hown')
            have hbel2 := below_own hbel hown hgrow
            clear hown' hown hbel hgrow hcall
            go_wp2_with fail
            go_roundw
            case rel => exact ⟨k + m + 1, L ++ [⟨kind, t.extract k (k + (m + 1)), k + 1⟩], by omega, by go_num, by simp; omega, hnext, hown2, hbel2⟩
            case measure => simp [intOf]; omega
          · have hcall : Hid (∀ w, Calls Tryz.prog 150 #[.string (t.extract k t.size)] w fun e w' => e = .returned (.tuple #[.int .i64 0, .int .i64 0]) ∧ w = w') := Lib.hid (fun w => by have := first (t.extract k t.size) w hrm h0; rw [hF] at this; exact this)
            have hfin : Hid (tkRun t 0 [] = .bad (k + 1) 1) := Lib.hid (by rw [hrun.out, tkRun_bad hlt hst])
            clear hrun hst hF h32 h0 hrm hown
            go_wp2_with (go_at_call 150; refine (hcall.out _).mono ?_; rintro e w' ⟨rfl, rfl⟩)
            go_ret3
            exact ⟨_, by rw [ha.out, hfin.out]; rfl, by rw [ha.out, hfin.out]; exact World.ownsRow_nil _ _ _ _, hbel⟩
          · have hcall : Hid (∀ w, Calls Tryz.prog 150 #[.string (t.extract k t.size)] w fun e w' => e = .returned (.tuple #[.int .i64 kind, .int .i64 (n' : Int)]) ∧ w = w') := Lib.hid (fun w => by have := first (t.extract k t.size) w hrm h0; rw [hF] at this; exact this)
            have hfin : Hid (tkRun t 0 [] = .bad (k + 1) 4) := Lib.hid (by rw [hrun.out, tkRun_bad hlt hst])
            have hn0 : ((n' : Int) == 0) = false := by simp; omega
            clear hrun hst hF h32 h0 hrm hown
            go_wp2_with (go_at_call 150; refine (hcall.out _).mono ?_; rintro e w' ⟨rfl, rfl⟩)
            go_ret3
            exact ⟨_, by rw [ha.out, hfin.out]; rfl, by rw [ha.out, hfin.out]; exact World.ownsRow_nil _ _ _ _, hbel⟩
      · have hfin : Hid (tkRun t 0 [] = .ok L) := Lib.hid (by rw [hrun.out, tkRun_end hlt])
        clear hrun
        go_wp2_with fail
        go_ret3
        exact ⟨_, by rw [ha.out, hfin.out]; rfl, by rw [ha.out, hfin.out]; exact hown, hbel⟩
end Go.Proofs.YtkmpbkgmdfeicaaGreat.Scan3
