/- A line without its comment, in the program and in the document's answers; the first token of a line. -/
import Derived.Test.YtofhiolmaojihaaScan1
import Derived.Test.YtofhiolmaojihaaShelf
import Derived.Deep.QuietTactic
import Derived.BigQuiet
namespace Go.Proofs.Ytofhiolmaojihaa.Scan2
open Go.RowKit Go.Proofs.Ytofhiolmaojihaa.Plain Go.Proofs.Ytofhiolmaojihaa.Leaf Go.Proofs.Ytofhiolmaojihaa.Named Go.Proofs.Ytofhiolmaojihaa.Scan1
theorem indexByte_cases (l : List UInt8) (c : UInt8) : (Lib.indexByte l c = -1 ∧ l.takeWhile (fun x => x != c) = l) ∨ ∃ i : Nat, Lib.indexByte l c = i ∧ i < l.length ∧ l.takeWhile (fun x => x != c) = l.take i := by
  induction l with
  | nil => exact .inl ⟨rfl, rfl⟩
  | cons b l ih =>
    unfold Lib.indexByte
    rw [List.takeWhile_cons]
    by_cases h : b = c
    · subst h
      exact .inr ⟨0, by rw [if_pos (by simp)]; rfl, by simp, by simp⟩
    · have hb : (b == c) = false := by simpa using h
      have hn : (b != c) = true := by simpa using h
      rw [if_pos hn]
      simp only [hb, Bool.false_eq_true, if_false]
      rcases ih with ⟨h1, h2⟩ | ⟨i, h1, h2, h3⟩
      · left
        rw [h1, h2]
        simp
      · right
        refine ⟨i + 1, ?_, ?_, ?_⟩
        · rw [h1, if_neg (by simp)]; omega
        · simp; omega
        · rw [h3, List.take_succ_cons]
def CutPost (s : ByteArray) (w : World) (e : Ending) (w' : World) : Prop := (∃ x b, e = .returned (.tuple #[.string (bare s), .string x, .bool b])) ∧ ∃ n, w' = w.drewN n
theorem bare_all {s : ByteArray} (h : s.data.toList.takeWhile (fun x => x != 35) = s.data.toList) : bare s = s := by
  unfold bare
  rw [h]
theorem bare_take {s : ByteArray} {i : Nat} (h : s.data.toList.takeWhile (fun x => x != 35) = s.data.toList.take i) : bare s = s.extract 0 i := by
  unfold bare
  rw [h]
  apply ByteArray.ext
  rw [ByteArray.data_extract]
  apply Array.ext'
  simp
theorem cut35 (s : ByteArray) (w : World) (hs : s.size ≤ maxLen) : Calls Try.prog 95 #[.string s, .string ⟨#[35]⟩] w (CutPost s w) := by
  unfold maxLen at hs
  rcases indexByte_cases s.data.toList 35 with ⟨h1, h2⟩ | ⟨i, h1, h2, h3⟩
  · have hb := Lib.hid (bare_all h2)
    clear h2
    go_enter Try.func95, Try.ntmps95
    go_wp2_with (go_at_call 99; refine (Try.stringslite_Index_one _ _ _).mono ?_; rintro e w' ⟨rfl, rfl⟩)
    go_ret3
    exact ⟨⟨_, _, by rw [hb.out]; rfl⟩, 0, rfl⟩
  · have hb := Lib.hid (bare_take h3)
    rw [toList_len] at h2
    clear h3
    have e1 : decide ((0 : Int) ≤ i) = true := by simp
    go_enter Try.func95, Try.ntmps95
    go_wp2_with (go_at_call 99; refine (Try.stringslite_Index_one _ _ _).mono ?_; rintro e w' ⟨rfl, rfl⟩)
    go_quiet (fail)
    go_wp2
    go_ret3
    exact ⟨⟨_, _, by rw [hb.out]; rfl⟩, _, rfl⟩
theorem cutS35 (s : ByteArray) (w : World) (hs : s.size ≤ maxLen) : Calls Try.prog 86 #[.string s, .string ⟨#[35]⟩] w (CutPost s w) := by
  go_enter Try.func86, Try.ntmps86
  go_wp2_with (go_at_call 95; refine (cut35 _ _ hs).mono ?_; rintro e w' ⟨⟨x, b, rfl⟩, n, rfl⟩)
  go_ret3
  exact ⟨⟨_, _, rfl⟩, _, rfl⟩
theorem uncommented (s : ByteArray) (w : World) (hs : s.size ≤ maxLen) : Calls Try.prog 69 #[.string s] w fun e w' => e = .returned (.string (bare s)) ∧ ∃ n, w' = w.drewN n := by
  go_enter Try.func69, Try.ntmps69
  go_wp2_with (go_at_call 86; refine (cutS35 _ _ hs).mono ?_; rintro e w' ⟨⟨x, b, rfl⟩, n, rfl⟩)
  go_ret
  exact ⟨rfl, _, rfl⟩
theorem takeWhile_stop {l : List UInt8} {k : Nat} (hk : k < l.length) (hall : ∀ j, (h : j < k) → l[j]'(by omega) ≠ 35) (hc : l[k] = 35) : l.takeWhile (fun x => x != 35) = l.take k := by
  induction k generalizing l with
  | zero =>
    cases l with
    | nil => rfl
    | cons a l =>
      have : a = 35 := hc
      subst this
      rfl
  | succ k ih =>
    cases l with
    | nil => simp at hk
    | cons a l =>
      have ha : a ≠ 35 := hall 0 (by omega)
      rw [List.takeWhile_cons, if_pos (by simpa using ha), List.take_succ_cons, ih (by simpa using hk) (fun j hj => hall (j + 1) (by omega)) hc]
theorem takeWhile_all {l : List UInt8} (hall : ∀ x ∈ l, x ≠ 35) : l.takeWhile (fun x => x != 35) = l := by
  induction l with
  | nil => rfl
  | cons a l ih =>
    rw [List.takeWhile_cons, if_pos (by simpa using hall a (by simp)), ih fun x hx => hall x (by simp [hx])]
theorem bare_stop {s : ByteArray} {k : Nat} (hk : k < s.size) (hall : ∀ j, (h : j < s.size) → j < k → (s[j].toNat : Int) ≠ 35) (hc : (s[k].toNat : Int) = 35) : bare s = s.extract 0 k := by
  apply bare_take
  exact takeWhile_stop (by rw [toList_len]; exact hk) (fun j hj => fun e => hall j (by omega) hj (by have h : s[j] = 35 := e; rw [h]; rfl)) (UInt8.toNat_inj.1 (by have : s[k] = s.data.toList[k] := rfl; rw [← this]; show s[k].toNat = 35; omega))
theorem bare_none {s : ByteArray} (hall : ∀ j, (h : j < s.size) → (s[j].toNat : Int) ≠ 35) : bare s = s := by
  apply bare_all
  refine takeWhile_all fun x hx => ?_
  obtain ⟨j, hj, rfl⟩ := List.getElem_of_mem hx
  rw [toList_len] at hj
  intro e
  exact hall j hj (by have h : s[j] = 35 := e; rw [h]; rfl)
theorem bareRef (s : ByteArray) (w : World) (hs : s.size ≤ maxLen) : Calls Try.prog 54 #[.string s] w fun e w' => e = .returned (.string (bare s)) ∧ w = w' := by
  unfold maxLen at hs
  go_enter Try.func54, Try.ntmps54
  go_wp2
  go_loop [3] (fun i => ∃ k : Nat, k ≤ s.size ∧ i = .int .i64 k ∧ Hid (∀ j, (h : j < s.size) → j < k → (s[j].toNat : Int) ≠ 35)) (fun i => s.size - (intOf i).toNat)
  case atStart => exact ⟨0, by omega, rfl, Lib.hid fun j _ h => by omega⟩
  case round =>
    obtain ⟨k, hk, rfl, hall⟩ := hrel
    by_cases hlt : k < s.size
    · by_cases hc : (s[k].toNat : Int) = 35
      · have hb := Lib.hid (bare_stop hlt hall.out hc)
        have hc' : ((s[k].toNat : Int) == 35) = true := by simpa using hc
        clear hall hc
        go_wp2_with fail
        go_ret
        exact ⟨ret_str hb.out.symm, rfl⟩
      · have hc' : ((s[k].toNat : Int) == 35) = false := by simpa using hc
        have hnext : Hid (∀ j, (h : j < s.size) → j < k + 1 → (s[j].toNat : Int) ≠ 35) := Lib.hid fun j h hj => by
          by_cases e : j = k
          · subst e; exact hc
          · exact hall.out j h (by omega)
        clear hall hc
        go_wp2_with fail
        go_round
        case rel => exact ⟨k + 1, by omega, by go_num, hnext⟩
        case measure => simp [intOf]; omega
    · have hb := Lib.hid (bare_none (s := s) (fun j h => hall.out j h (by omega)))
      clear hall
      go_wp2_with fail
      go_ret
      exact ⟨ret_str hb.out.symm, rfl⟩
def firstA (s : ByteArray) (h : 0 < s.size) : Int × Int :=
  if capB s[0].toNat then (1, wlen s 0)
  else if smallB s[0].toNat then (2, wlen s 0)
  else if s[0] = 46 then (3, 1)
  else if s[0] = 38 then (5, 1)
  else if Lib.hasPrefix s.data.toList [60, 45] then (4, 2)
  else (0, 0)
theorem first_46 (s : ByteArray) (w : World) (hs : s.size ≤ maxLen) (h : 0 < s.size) (h1 : capB s[0].toNat = false) (h2 : smallB s[0].toNat = false) (h3 : s[0] = 46) : Calls Try.prog 70 #[.string s] w fun e w' => e = .returned (.tuple #[.int .i64 3, .int .i64 1]) ∧ w = w' := by
  have hs' := hs
  unfold maxLen at hs
  have hone := one_byte s 0 h
  have he : (s.extract 0 1).toList = [s[0]] := by rw [Go.ByteArray.toList_eq, hone]
  have e3 : (s[0] == 46) = true := by simpa using h3
  clear hone h3
  go_enter Try.func70, Try.ntmps70
  go_wp2_with (first | (go_at_call 36; refine (isPrin1 _ _ (one_byte s 0 h) _).mono ?_; rintro e w' ⟨rfl, rfl⟩) | (go_at_call 37; refine (isName1 _ _ (one_byte s 0 h) _).mono ?_; rintro e w' ⟨rfl, rfl⟩))
  go_ret2
  exact ⟨rfl, rfl⟩
theorem first_38 (s : ByteArray) (w : World) (hs : s.size ≤ maxLen) (h : 0 < s.size) (h1 : capB s[0].toNat = false) (h2 : smallB s[0].toNat = false) (h3 : s[0] ≠ 46) (h4 : s[0] = 38) : Calls Try.prog 70 #[.string s] w fun e w' => e = .returned (.tuple #[.int .i64 5, .int .i64 1]) ∧ w = w' := by
  have hs' := hs
  unfold maxLen at hs
  have hone := one_byte s 0 h
  have he : (s.extract 0 1).toList = [s[0]] := by rw [Go.ByteArray.toList_eq, hone]
  have e3 : (s[0] == 46) = false := u8_ne h3
  have e4 : (s[0] == 38) = true := by simpa using h4
  clear hone h3 h4
  go_enter Try.func70, Try.ntmps70
  go_wp2_with (first | (go_at_call 36; refine (isPrin1 _ _ (one_byte s 0 h) _).mono ?_; rintro e w' ⟨rfl, rfl⟩) | (go_at_call 37; refine (isName1 _ _ (one_byte s 0 h) _).mono ?_; rintro e w' ⟨rfl, rfl⟩))
  go_ret2
  exact ⟨rfl, rfl⟩
theorem first_60 (s : ByteArray) (w : World) (hs : s.size ≤ maxLen) (h : 0 < s.size) (h1 : capB s[0].toNat = false) (h2 : smallB s[0].toNat = false) (h3 : s[0] ≠ 46) (h4 : s[0] ≠ 38) (h5 : Lib.hasPrefix s.data.toList [60, 45] = true) : Calls Try.prog 70 #[.string s] w fun e w' => e = .returned (.tuple #[.int .i64 4, .int .i64 2]) ∧ w = w' := by
  have hs' := hs
  unfold maxLen at hs
  have hone := one_byte s 0 h
  have he : (s.extract 0 1).toList = [s[0]] := by rw [Go.ByteArray.toList_eq, hone]
  have e3 : (s[0] == 46) = false := u8_ne h3
  have e4 : (s[0] == 38) = false := u8_ne h4
  clear hone h3 h4
  go_enter Try.func70, Try.ntmps70
  go_wp2_with (first | (go_at_call 36; refine (isPrin1 _ _ (one_byte s 0 h) _).mono ?_; rintro e w' ⟨rfl, rfl⟩) | (go_at_call 37; refine (isName1 _ _ (one_byte s 0 h) _).mono ?_; rintro e w' ⟨rfl, rfl⟩) | (go_at_call 88; refine (Try.strings_HasPrefix _ _ _).mono ?_; rintro e w' ⟨rfl, rfl⟩))
  go_ret2
  exact ⟨rfl, rfl⟩
theorem first_no (s : ByteArray) (w : World) (hs : s.size ≤ maxLen) (h : 0 < s.size) (h1 : capB s[0].toNat = false) (h2 : smallB s[0].toNat = false) (h3 : s[0] ≠ 46) (h4 : s[0] ≠ 38) (h5 : Lib.hasPrefix s.data.toList [60, 45] = false) : Calls Try.prog 70 #[.string s] w fun e w' => e = .returned (.tuple #[.int .i64 0, .int .i64 0]) ∧ w = w' := by
  have hs' := hs
  unfold maxLen at hs
  have hone := one_byte s 0 h
  have he : (s.extract 0 1).toList = [s[0]] := by rw [Go.ByteArray.toList_eq, hone]
  have e3 : (s[0] == 46) = false := u8_ne h3
  have e4 : (s[0] == 38) = false := u8_ne h4
  clear hone h3 h4
  go_enter Try.func70, Try.ntmps70
  go_wp2_with (first | (go_at_call 36; refine (isPrin1 _ _ (one_byte s 0 h) _).mono ?_; rintro e w' ⟨rfl, rfl⟩) | (go_at_call 37; refine (isName1 _ _ (one_byte s 0 h) _).mono ?_; rintro e w' ⟨rfl, rfl⟩) | (go_at_call 88; refine (Try.strings_HasPrefix _ _ _).mono ?_; rintro e w' ⟨rfl, rfl⟩))
  go_ret2
  exact ⟨rfl, rfl⟩
theorem first_small (s : ByteArray) (w : World) (hs : s.size ≤ maxLen) (h : 0 < s.size) (h1 : capB s[0].toNat = false) (h2 : smallB s[0].toNat = true) : Calls Try.prog 70 #[.string s] w fun e w' => e = .returned (.tuple #[.int .i64 2, .int .i64 (wlen s 0)]) ∧ w = w' := by
  have hs' := hs
  unfold maxLen at hs
  have hone := one_byte s 0 h
  have he : (s.extract 0 1).toList = [s[0]] := by rw [Go.ByteArray.toList_eq, hone]
  clear hone
  go_enter Try.func70, Try.ntmps70
  go_wp2_with (first | (go_at_call 36; refine (isPrin1 _ _ (one_byte s 0 h) _).mono ?_; rintro e w' ⟨rfl, rfl⟩) | (go_at_call 37; refine (isName1 _ _ (one_byte s 0 h) _).mono ?_; rintro e w' ⟨rfl, rfl⟩) | (go_at_call 87; refine (wordSize _ _ hs').mono ?_; rintro e w' ⟨rfl, rfl⟩))
  go_ret2
  exact ⟨rfl, rfl⟩
theorem first_cap (s : ByteArray) (w : World) (hs : s.size ≤ maxLen) (h : 0 < s.size) (h1 : capB s[0].toNat = true) : Calls Try.prog 70 #[.string s] w fun e w' => e = .returned (.tuple #[.int .i64 1, .int .i64 (wlen s 0)]) ∧ w = w' := by
  have hs' := hs
  unfold maxLen at hs
  have hone := one_byte s 0 h
  have he : (s.extract 0 1).toList = [s[0]] := by rw [Go.ByteArray.toList_eq, hone]
  clear hone
  go_enter Try.func70, Try.ntmps70
  go_wp2_with (first | (go_at_call 36; refine (isPrin1 _ _ (one_byte s 0 h) _).mono ?_; rintro e w' ⟨rfl, rfl⟩) | (go_at_call 37; refine (isName1 _ _ (one_byte s 0 h) _).mono ?_; rintro e w' ⟨rfl, rfl⟩) | (go_at_call 87; refine (wordSize _ _ hs').mono ?_; rintro e w' ⟨rfl, rfl⟩))
  go_ret2
  exact ⟨rfl, rfl⟩
theorem first (s : ByteArray) (w : World) (hs : s.size ≤ maxLen) (h : 0 < s.size) : Calls Try.prog 70 #[.string s] w fun e w' => e = .returned (.tuple #[.int .i64 (firstA s h).1, .int .i64 (firstA s h).2]) ∧ w = w' := by
  cases h1 : capB s[0].toNat
  · cases h2 : smallB s[0].toNat
    · by_cases h3 : s[0] = 46
      · rw [show firstA s h = (3, 1) by unfold firstA; rw [if_neg (by rw [h1]; decide), if_neg (by rw [h2]; decide), if_pos h3]]
        exact first_46 s w hs h h1 h2 h3
      · by_cases h4 : s[0] = 38
        · rw [show firstA s h = (5, 1) by unfold firstA; rw [if_neg (by rw [h1]; decide), if_neg (by rw [h2]; decide), if_neg h3, if_pos h4]]
          exact first_38 s w hs h h1 h2 h3 h4
        · cases h5 : Lib.hasPrefix s.data.toList [60, 45]
          · rw [show firstA s h = (0, 0) by unfold firstA; rw [if_neg (by rw [h1]; decide), if_neg (by rw [h2]; decide), if_neg h3, if_neg h4, if_neg (by rw [h5]; decide)]]
            exact first_no s w hs h h1 h2 h3 h4 h5
          · rw [show firstA s h = (4, 2) by unfold firstA; rw [if_neg (by rw [h1]; decide), if_neg (by rw [h2]; decide), if_neg h3, if_neg h4, if_pos h5]]
            exact first_60 s w hs h h1 h2 h3 h4 h5
    · rw [show firstA s h = (2, (wlen s 0 : Int)) by unfold firstA; rw [if_neg (by rw [h1]; decide), if_pos h2]]
      exact first_small s w hs h h1 h2
  · rw [show firstA s h = (1, (wlen s 0 : Int)) by unfold firstA; rw [if_pos h1]]
    exact first_cap s w hs h h1
end Go.Proofs.Ytofhiolmaojihaa.Scan2
