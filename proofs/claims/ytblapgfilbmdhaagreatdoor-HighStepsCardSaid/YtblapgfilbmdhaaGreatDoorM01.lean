/- Plain mathematics, of no program: which bytes are letters and digits; names; the tokens of a line. -/
import Derived.WalkKit
import Derived.Lib.Hide
import Derived.Lib.IndexBytes
import Derived.Lib.Strings
import Derived.Test.YtblapgfilbmdhaaGreatDoorProg
import Derived.ProofKit
import Derived.Outline
import Derived.IntWalk
import Derived.Lib.SlicesCompact
import Derived.Lib.RowBridge
import Derived.Lib.ItoaNum
set_option linter.unusedVariables false
set_option linter.unusedSimpArgs false
namespace Go.Proofs.YtblapgfilbmdhaaGreatDoor.Plain
open Go.RowKit
def capB (n : Int) : Bool := decide (65 ≤ n ∧ n ≤ 90)
def smallB (n : Int) : Bool := decide (97 ≤ n ∧ n ≤ 122)
def digB (n : Int) : Bool := decide (48 ≤ n ∧ n ≤ 57)
def wordB (n : Int) : Bool := capB n || smallB n || digB n
theorem ret_bool {a b : Bool} (h : a = b) : Ending.returned (.bool a) = .returned (.bool b) := by rw [h]
theorem ret_int {k : IntKind} {a b : Int} (h : a = b) : Ending.returned (.int k a) = .returned (.int k b) := by rw [h]
def named (f : Int → Bool) (l : List UInt8) : Bool := decide (0 < l.length ∧ l.length ≤ 8) && f (l.headD 0).toNat && l.all fun c => wordB c.toNat
theorem toList_len (s : ByteArray) : s.data.toList.length = s.size := rfl
theorem toList_isEmpty {s : ByteArray} (h : 0 < s.size) : s.toList.isEmpty = false := by
  have : s.toList = s.data.toList := Go.ByteArray.toList_eq s
  rw [this]
  cases e : s.data.toList with
  | nil => have := toList_len s; rw [e] at this; simp at this; omega
  | cons => rfl
theorem toList_isEmpty0 {s : ByteArray} (h : ¬ 0 < s.size) : s.toList.isEmpty = true := by
  have : s.toList = s.data.toList := Go.ByteArray.toList_eq s
  rw [this]
  cases e : s.data.toList with
  | nil => rfl
  | cons a l => have := toList_len s; rw [e] at this; simp at this; omega
theorem named_len {f} {s : ByteArray} (h : ¬ (0 < s.size ∧ s.size ≤ 8)) : named f s.data.toList = false := by
  unfold named
  rw [toList_len, decide_eq_false h]
  rfl
theorem headD_eq {s : ByteArray} (h : 0 < s.size) : s.data.toList.headD 0 = s[0] := by
  have e : s.data.toList[0]? = some s[0] := by
    rw [List.getElem?_eq_getElem (by rw [toList_len]; exact h)]; rfl
  cases hl : s.data.toList with
  | nil => rw [hl] at e; simp at e
  | cons a l => rw [hl] at e; simpa using e
theorem named_head {f} {s : ByteArray} (h : 0 < s.size) (hc : f s[0].toNat = false) : named f s.data.toList = false := by
  unfold named
  rw [headD_eq h, hc]
  simp
theorem named_bad {f} {s : ByteArray} (k : Nat) (h : k < s.size) (hc : wordB s[k].toNat = false) : named f s.data.toList = false := by
  unfold named
  have : (s.data.toList.all fun c => wordB c.toNat) = false := by
    rw [List.all_eq_false]
    exact ⟨s[k], by
      have : s[k] = s.data.toList[k]'(by rw [toList_len]; exact h) := rfl
      rw [this]; exact List.getElem_mem _, by simp [hc]⟩
  rw [this]
  simp
theorem named_ok {f} {s : ByteArray} (h : 0 < s.size) (h8 : s.size ≤ 8) (hf : f s[0].toNat = true) (hc : ∀ k, (h : k < s.size) → wordB s[k].toNat = true) : named f s.data.toList = true := by
  unfold named
  have : (s.data.toList.all fun c => wordB c.toNat) = true := by
    rw [List.all_eq_true]
    intro x hx
    obtain ⟨k, hk, rfl⟩ := List.getElem_of_mem hx
    exact hc k (by rw [toList_len] at hk; exact hk)
  rw [this, headD_eq h, hf, toList_len, decide_eq_true ⟨h, h8⟩]
  rfl
structure Tk where
  kind : Int
  text : ByteArray
  col : Nat
def Tk.cells (t : Tk) : List Value := [.int .i64 t.kind, .string t.text, .int .i64 t.col]
def tkCells (l : List Tk) : List Value := (l.map Tk.cells).flatten
def bare (s : ByteArray) : ByteArray := ⟨(s.data.toList.takeWhile (fun c => c != 35)).toArray⟩
end Go.Proofs.YtblapgfilbmdhaaGreatDoor.Plain
namespace Go.Proofs.YtblapgfilbmdhaaGreatDoor.Leaf
open Go.RowKit Plain
theorem isCapital (n : Int) (w : World) : Calls Tryz.prog 201 #[.int .u8 n] w fun e w' => e = .returned (.bool (capB n)) ∧ w = w' := by
  by_cases h : 65 ≤ n <;> by_cases h2 : n ≤ 90 <;>
  · go_enter Tryz.func201, Tryz.ntmps201
    go_wp2
    go_ret
    exact ⟨ret_bool (by simp [capB, h, h2]), rfl⟩
theorem isSmall (n : Int) (w : World) : Calls Tryz.prog 202 #[.int .u8 n] w fun e w' => e = .returned (.bool (smallB n)) ∧ w = w' := by
  by_cases h : 97 ≤ n <;> by_cases h2 : n ≤ 122 <;>
  · go_enter Tryz.func202, Tryz.ntmps202
    go_wp2
    go_ret
    exact ⟨ret_bool (by simp [smallB, h, h2]), rfl⟩
theorem isDigit (n : Int) (w : World) : Calls Tryz.prog 233 #[.int .u8 n] w fun e w' => e = .returned (.bool (digB n)) ∧ w = w' := by
  by_cases h : 48 ≤ n <;> by_cases h2 : n ≤ 57 <;>
  · go_enter Tryz.func233, Tryz.ntmps233
    go_wp2
    go_ret
    exact ⟨ret_bool (by simp [digB, h, h2]), rfl⟩
end Go.Proofs.YtblapgfilbmdhaaGreatDoor.Leaf
namespace Go.Proofs.YtblapgfilbmdhaaGreatDoor.Named
open Go.RowKit Plain Leaf
theorem isNamed_cap (s : ByteArray) (w : World) (hs : s.size ≤ maxLen) :
    Calls Tryz.prog 200 #[.string s, .func (.func 201) #[] #[]] w fun e w' => e = .returned (.bool (named capB s.data.toList)) ∧ w = w' := by
  unfold maxLen at hs
  by_cases h1 : 0 < s.size
  · have e1 : s.toList.isEmpty = false := toList_isEmpty h1
    by_cases h8 : s.size ≤ 8
    · have e2 : decide (8 < (s.size : Int)) = false := by simp; omega
      cases hc : capB s[0].toNat
      · go_enter Tryz.func200, Tryz.ntmps200
        go_wp2_with (go_at_call 201; refine (isCapital _ _).mono ?_; rintro e w' ⟨rfl, rfl⟩)
        go_ret
        exact ⟨ret_bool (named_head h1 hc).symm, rfl⟩
      · go_enter Tryz.func200, Tryz.ntmps200
        go_wp2_with (go_at_call 201; refine (isCapital _ _).mono ?_; rintro e w' ⟨rfl, rfl⟩)
        have Hc := Lib.hid hc
        clear hc e2 e1
        go_loop [22] (fun i => ∃ k : Nat, k ≤ s.size ∧ i = .int .i64 k ∧ Hid (∀ j, (h : j < s.size) → j < k → wordB s[j].toNat = true)) (fun i => s.size - (intOf i).toNat)
        case atStart => exact ⟨0, by omega, rfl, Lib.hid fun j _ hj => by omega⟩
        case round =>
          obtain ⟨k, hk, rfl, hall⟩ := hrel
          by_cases hlt : k < s.size
          · by_cases hw : wordB s[k].toNat = true
            · have hnext : Hid (∀ j, (h : j < s.size) → j < k + 1 → wordB s[j].toNat = true) := Lib.hid fun j h hj => by
                by_cases e : j = k
                · subst e; exact hw
                · exact hall.out j h (by omega)
              clear hall
              cases h1 : capB s[k].toNat <;> cases h2 : smallB s[k].toNat <;> cases h3 : digB s[k].toNat <;> first | (simp [wordB, h1, h2, h3] at hw; done) | skip
              all_goals
                clear hw
                go_wp2_with (first | (go_at_call 201; refine (isCapital _ _).mono ?_; rintro e w' ⟨rfl, rfl⟩) | (go_at_call 202; refine (isSmall _ _).mono ?_; rintro e w' ⟨rfl, rfl⟩) | (go_at_call 233; refine (isDigit _ _).mono ?_; rintro e w' ⟨rfl, rfl⟩))
                go_round
                case rel => exact ⟨k + 1, by omega, by go_num, hnext⟩
                case measure => simp [intOf]; omega
            · have hw' : wordB s[k].toNat = false := by simpa using hw
              have Hw := Lib.hid (named_bad (f := capB) k hlt hw')
              simp only [wordB, Bool.or_eq_false_iff] at hw'
              obtain ⟨⟨h1, h2⟩, h3⟩ := hw'
              clear hw
              go_wp2_with (first | (go_at_call 201; refine (isCapital _ _).mono ?_; rintro e w' ⟨rfl, rfl⟩) | (go_at_call 202; refine (isSmall _ _).mono ?_; rintro e w' ⟨rfl, rfl⟩) | (go_at_call 233; refine (isDigit _ _).mono ?_; rintro e w' ⟨rfl, rfl⟩))
              go_ret
              exact ⟨ret_bool Hw.out.symm, rfl⟩
          · go_wp2_with fail
            go_ret
            exact ⟨ret_bool (named_ok h1 h8 Hc.out (fun j h => hall.out j h (by omega))).symm, rfl⟩
    · have e2 : decide (8 < (s.size : Int)) = true := by simp; omega
      go_enter Tryz.func200, Tryz.ntmps200
      go_wp2
      go_ret
      exact ⟨ret_bool (named_len (by omega)).symm, rfl⟩
  · have e1 : s.toList.isEmpty = true := toList_isEmpty0 h1
    go_enter Tryz.func200, Tryz.ntmps200
    go_wp2
    go_ret
    exact ⟨ret_bool (named_len (by omega)).symm, rfl⟩
theorem isNamed_small (s : ByteArray) (w : World) (hs : s.size ≤ maxLen) :
    Calls Tryz.prog 200 #[.string s, .func (.func 202) #[] #[]] w fun e w' => e = .returned (.bool (named smallB s.data.toList)) ∧ w = w' := by
  unfold maxLen at hs
  by_cases h1 : 0 < s.size
  · have e1 : s.toList.isEmpty = false := toList_isEmpty h1
    by_cases h8 : s.size ≤ 8
    · have e2 : decide (8 < (s.size : Int)) = false := by simp; omega
      cases hc : smallB s[0].toNat
      · go_enter Tryz.func200, Tryz.ntmps200
        go_wp2_with (go_at_call 202; refine (isSmall _ _).mono ?_; rintro e w' ⟨rfl, rfl⟩)
        go_ret
        exact ⟨ret_bool (named_head h1 hc).symm, rfl⟩
      · go_enter Tryz.func200, Tryz.ntmps200
        go_wp2_with (go_at_call 202; refine (isSmall _ _).mono ?_; rintro e w' ⟨rfl, rfl⟩)
        have Hc := Lib.hid hc
        clear hc e2 e1
        go_loop [22] (fun i => ∃ k : Nat, k ≤ s.size ∧ i = .int .i64 k ∧ Hid (∀ j, (h : j < s.size) → j < k → wordB s[j].toNat = true)) (fun i => s.size - (intOf i).toNat)
        case atStart => exact ⟨0, by omega, rfl, Lib.hid fun j _ hj => by omega⟩
        case round =>
          obtain ⟨k, hk, rfl, hall⟩ := hrel
          by_cases hlt : k < s.size
          · by_cases hw : wordB s[k].toNat = true
            · have hnext : Hid (∀ j, (h : j < s.size) → j < k + 1 → wordB s[j].toNat = true) := Lib.hid fun j h hj => by
                by_cases e : j = k
                · subst e; exact hw
                · exact hall.out j h (by omega)
              clear hall
              cases h1 : capB s[k].toNat <;> cases h2 : smallB s[k].toNat <;> cases h3 : digB s[k].toNat <;> first | (simp [wordB, h1, h2, h3] at hw; done) | skip
              all_goals
                clear hw
                go_wp2_with (first | (go_at_call 201; refine (isCapital _ _).mono ?_; rintro e w' ⟨rfl, rfl⟩) | (go_at_call 202; refine (isSmall _ _).mono ?_; rintro e w' ⟨rfl, rfl⟩) | (go_at_call 233; refine (isDigit _ _).mono ?_; rintro e w' ⟨rfl, rfl⟩))
                go_round
                case rel => exact ⟨k + 1, by omega, by go_num, hnext⟩
                case measure => simp [intOf]; omega
            · have hw' : wordB s[k].toNat = false := by simpa using hw
              have Hw := Lib.hid (named_bad (f := smallB) k hlt hw')
              simp only [wordB, Bool.or_eq_false_iff] at hw'
              obtain ⟨⟨h1, h2⟩, h3⟩ := hw'
              clear hw
              go_wp2_with (first | (go_at_call 201; refine (isCapital _ _).mono ?_; rintro e w' ⟨rfl, rfl⟩) | (go_at_call 202; refine (isSmall _ _).mono ?_; rintro e w' ⟨rfl, rfl⟩) | (go_at_call 233; refine (isDigit _ _).mono ?_; rintro e w' ⟨rfl, rfl⟩))
              go_ret
              exact ⟨ret_bool Hw.out.symm, rfl⟩
          · go_wp2_with fail
            go_ret
            exact ⟨ret_bool (named_ok h1 h8 Hc.out (fun j h => hall.out j h (by omega))).symm, rfl⟩
    · have e2 : decide (8 < (s.size : Int)) = true := by simp; omega
      go_enter Tryz.func200, Tryz.ntmps200
      go_wp2
      go_ret
      exact ⟨ret_bool (named_len (by omega)).symm, rfl⟩
  · have e1 : s.toList.isEmpty = true := toList_isEmpty0 h1
    go_enter Tryz.func200, Tryz.ntmps200
    go_wp2
    go_ret
    exact ⟨ret_bool (named_len (by omega)).symm, rfl⟩
theorem isPrin (s : ByteArray) (w : World) (hs : s.size ≤ maxLen) : Calls Tryz.prog 153 #[.string s] w fun e w' => e = .returned (.bool (named capB s.data.toList)) ∧ w = w' := by
  go_enter Tryz.func153, Tryz.ntmps153
  go_wp2_with (go_at_call 200; refine (isNamed_cap _ _ hs).mono ?_; rintro e w' ⟨rfl, rfl⟩)
  go_ret
  exact ⟨rfl, rfl⟩
theorem isName (s : ByteArray) (w : World) (hs : s.size ≤ maxLen) : Calls Tryz.prog 154 #[.string s] w fun e w' => e = .returned (.bool (named smallB s.data.toList)) ∧ w = w' := by
  go_enter Tryz.func154, Tryz.ntmps154
  go_wp2_with (go_at_call 200; refine (isNamed_small _ _ hs).mono ?_; rintro e w' ⟨rfl, rfl⟩)
  go_ret
  exact ⟨rfl, rfl⟩
end Go.Proofs.YtblapgfilbmdhaaGreatDoor.Named
namespace Go.Proofs.YtblapgfilbmdhaaGreatDoor.TabP
abbrev Str := List UInt8
def srt (ls : List Str) : List Str := ls.mergeSort fun x y => decide (x ≤ y)
def tab (ls : List Str) : List Str := Lib.compact (srt ls)
theorem srt_sorted (ls : List Str) : (srt ls).Pairwise (· ≤ ·) := by
  have h := List.pairwise_mergeSort (le := fun x y : Str => decide (x ≤ y)) (fun a b c h1 h2 => by
    simp only [decide_eq_true_iff] at *
    exact List.le_trans h1 h2) (fun a b => by
    simp only [Bool.or_eq_true, decide_eq_true_iff]
    exact List.le_total a b) ls
  exact h.imp (fun h => by simpa using h)
theorem compact_facts (d : Array Str) (hs : ∀ i j, i ≤ j → j < d.size → d[i]! ≤ d[j]!) : ∀ m, m ≤ d.size →
    (Lib.compactUpTo d m).Pairwise (· < ·) ∧ (∀ x, x ∈ Lib.compactUpTo d m ↔ ∃ j, j < m ∧ d[j]! = x) := by
  intro m
  induction m with
  | zero => intro _; simp [Lib.compactUpTo]
  | succ m ih =>
    intro hm
    obtain ⟨h1, h2⟩ := ih (by omega)
    rw [Lib.compactUpTo_succ]
    cases hk : Lib.keeps d m
    · rw [if_neg (by decide), List.append_nil]
      refine ⟨h1, fun x => ?_⟩
      rw [h2]
      have hk' : ¬ (m = 0 ∨ d[m]! ≠ d[m - 1]!) := by simpa [Lib.keeps] using hk
      constructor
      · rintro ⟨j, hj, e⟩; exact ⟨j, by omega, e⟩
      · rintro ⟨j, hj, e⟩
        by_cases hjm : j = m
        · subst hjm
          have he : d[j]! = d[j - 1]! := by
            rcases Classical.em (d[j]! = d[j - 1]!) with h | h
            · exact h
            · exact absurd (Or.inr h) hk'
          exact ⟨j - 1, by omega, by rw [← he]; exact e⟩
        · exact ⟨j, by omega, e⟩
    · rw [if_pos rfl]
      have hk' : m = 0 ∨ d[m]! ≠ d[m - 1]! := by simpa [Lib.keeps] using hk
      refine ⟨?_, fun x => ?_⟩
      · rw [List.pairwise_append]
        refine ⟨h1, by simp, fun x hx y hy => ?_⟩
        obtain ⟨j, hj, rfl⟩ := (h2 x).1 hx
        have : y = d[m]! := by simpa using hy
        subst this
        have hne : d[m]! ≠ d[m - 1]! := by
          rcases hk' with h | h
          · omega
          · exact h
        exact Std.lt_of_le_of_lt (hs j (m - 1) (by omega) (by omega)) (Std.lt_of_le_of_ne (hs (m - 1) m (by omega) (by omega)) (Ne.symm hne))
      · rw [List.mem_append, h2, List.mem_singleton]
        constructor
        · rintro (⟨j, hj, e⟩ | e)
          · exact ⟨j, by omega, e⟩
          · exact ⟨m, by omega, e.symm⟩
        · rintro ⟨j, hj, e⟩
          by_cases hjm : j = m
          · subst hjm; exact .inr e.symm
          · exact .inl ⟨j, by omega, e⟩
theorem get_srt (ls : List Str) : ∀ i j, i ≤ j → j < (srt ls).toArray.size → (srt ls).toArray[i]! ≤ (srt ls).toArray[j]! := by
  intro i j hij hj
  have hj' : j < (srt ls).length := by simpa using hj
  have hi' : i < (srt ls).length := by omega
  have e1 : (srt ls).toArray[i]! = (srt ls)[i] := by simp [hi']
  have e2 : (srt ls).toArray[j]! = (srt ls)[j] := by simp [hj']
  rw [e1, e2]
  rcases Nat.lt_or_ge i j with h | h
  · exact List.pairwise_iff_getElem.1 (srt_sorted ls) i j hi' hj' h
  · have : i = j := by omega
    subst this
    exact List.le_refl _
theorem tab_sorted (ls : List Str) : (tab ls).Pairwise (· < ·) := (compact_facts _ (get_srt ls) _ (by simp)).1
theorem mem_tab (ls : List Str) (x : Str) : x ∈ tab ls ↔ x ∈ ls := by
  have h := (compact_facts _ (get_srt ls) (srt ls).length (by simp)).2 x
  have h2 : x ∈ srt ls ↔ x ∈ ls := (List.mergeSort_perm ls _).mem_iff
  show x ∈ Lib.compactUpTo (srt ls).toArray (srt ls).length ↔ _
  rw [h, ← h2]
  constructor
  · rintro ⟨j, hj, e⟩
    rw [← e]
    have e1 : (srt ls).toArray[j]! = (srt ls)[j] := by simp [hj]
    rw [e1]
    exact List.getElem_mem _
  · intro hx
    obtain ⟨j, hj, e⟩ := List.getElem_of_mem hx
    exact ⟨j, hj, by rw [← e]; simp [hj]⟩
theorem eq_of_rising : ∀ {a b : List Str}, a.Pairwise (· < ·) → b.Pairwise (· < ·) → (∀ x, x ∈ a ↔ x ∈ b) → a = b
  | [], [], _, _, _ => rfl
  | [], y :: b, _, _, h => by have := (h y).2 (by simp); simp at this
  | x :: a, [], _, _, h => by have := (h x).1 (by simp); simp at this
  | x :: a, y :: b, ha, hb, h => by
    rw [List.pairwise_cons] at ha hb
    have e : x = y := by
      have h1 := (h x).1 (by simp)
      have h2 := (h y).2 (by simp)
      rw [List.mem_cons] at h1 h2
      rcases h1 with h1 | h1
      · exact h1
      · rcases h2 with h2 | h2
        · exact h2.symm
        · exact absurd (List.lt_trans (hb.1 x h1) (ha.1 y h2)) (List.lt_irrefl _)
    subst e
    rw [eq_of_rising ha.2 hb.2 fun z => ?_]
    have hz := h z
    rw [List.mem_cons, List.mem_cons] at hz
    constructor
    · intro hm
      rcases hz.1 (.inr hm) with e | e
      · subst e; exact absurd (ha.1 z hm) (List.lt_irrefl _)
      · exact e
    · intro hm
      rcases hz.2 (.inr hm) with e | e
      · subst e; exact absurd (hb.1 z hm) (List.lt_irrefl _)
      · exact e
theorem tab_len_le (ls : List Str) : (tab ls).length ≤ ls.length := by
  have h := Lib.compact_length_le (srt ls)
  have h2 : (srt ls).length = ls.length := List.length_mergeSort ..
  unfold tab
  omega
def xs (k : Nat) : Str := 88 :: Lib.decDigits k
def numOf : Str → Nat := List.foldl (fun a c => a * 10 + (c.toNat - 48)) 0
theorem numOf_snoc (l : Str) (c : UInt8) : numOf (l ++ [c]) = numOf l * 10 + (c.toNat - 48) := by unfold numOf; rw [List.foldl_append]; rfl
theorem digit_toNat (u : Nat) (h : u < 10) : (UInt8.ofNat (48 + u)).toNat = 48 + u := by
  rw [UInt8.toNat_ofNat']
  omega
theorem numOf_dec (u : Nat) : numOf (Lib.decDigits u) = u := by
  induction u using Nat.strongRecOn with
  | ind u ih =>
    rw [Lib.decDigits]
    split
    · rename_i h
      show 0 * 10 + ((UInt8.ofNat (48 + u)).toNat - 48) = u
      rw [digit_toNat u h]; omega
    · rename_i h
      rw [numOf_snoc, ih (u / 10) (by omega), digit_toNat _ (Nat.mod_lt _ (by omega))]
      omega
theorem xs_inj {a b : Nat} (h : xs a = xs b) : a = b := by
  unfold xs at h
  injection h with _ h
  have := congrArg numOf h
  rwa [numOf_dec, numOf_dec] at this
def fr (T : List Str) (n : Int) : Nat → List Str
  | 0 => []
  | m + 1 => let out := fr T n m; if (out.length : Int) < n ∧ out.length < 1000 ∧ xs (m + 1) ∉ T then out ++ [xs (m + 1)] else out
theorem fr_add {T : List Str} {n : Int} {m : Nat} (h1 : ((fr T n m).length : Int) < n) (h2 : (fr T n m).length < 1000) (h3 : xs (m + 1) ∉ T) : fr T n (m + 1) = fr T n m ++ [xs (m + 1)] := by
  show (if _ then _ else _) = _
  rw [if_pos ⟨h1, h2, h3⟩]
theorem fr_not {T : List Str} {n : Int} {m : Nat} (h : ¬ (((fr T n m).length : Int) < n ∧ (fr T n m).length < 1000 ∧ xs (m + 1) ∉ T)) : fr T n (m + 1) = fr T n m := by
  show (if _ then _ else _) = _
  rw [if_neg h]
theorem fr_done {T : List Str} {n : Int} {m : Nat} (h : ¬ (((fr T n m).length : Int) < n ∧ (fr T n m).length < 1000)) : ∀ j, fr T n (m + j) = fr T n m
  | 0 => rfl
  | j + 1 => by
    rw [show m + (j + 1) = (m + j) + 1 from rfl, fr_not (by rw [fr_done h j]; exact fun h2 => h ⟨h2.1, h2.2.1⟩), fr_done h j]
theorem fr_len (T : List Str) (n : Int) (m : Nat) : (fr T n m).length ≤ m ∧ (fr T n m).length ≤ 1000 ∧ ((fr T n m).length : Int) ≤ max n 0 := by
  induction m with
  | zero => simp [fr]; omega
  | succ m ih =>
    by_cases h : ((fr T n m).length : Int) < n ∧ (fr T n m).length < 1000 ∧ xs (m + 1) ∉ T
    · rw [fr_add h.1 h.2.1 h.2.2, List.length_append, List.length_singleton]; omega
    · rw [fr_not h]; omega
theorem mem_fr (T : List Str) (n : Int) (m : Nat) (x : Str) (h : x ∈ fr T n m) : x ∉ T ∧ ∃ k, 1 ≤ k ∧ k ≤ m ∧ x = xs k := by
  induction m with
  | zero => simp [fr] at h
  | succ m ih =>
    by_cases hc : ((fr T n m).length : Int) < n ∧ (fr T n m).length < 1000 ∧ xs (m + 1) ∉ T
    · rw [fr_add hc.1 hc.2.1 hc.2.2, List.mem_append, List.mem_singleton] at h
      rcases h with h | h
      · obtain ⟨h1, k, h2, h3, h4⟩ := ih h
        exact ⟨h1, k, h2, by omega, h4⟩
      · subst h
        exact ⟨hc.2.2, m + 1, by omega, by omega, rfl⟩
    · rw [fr_not hc] at h
      obtain ⟨h1, k, h2, h3, h4⟩ := ih h
      exact ⟨h1, k, h2, by omega, h4⟩
theorem length_le_of_subset {α : Type} [BEq α] [LawfulBEq α] : ∀ {a b : List α}, a.Nodup → (∀ x ∈ a, x ∈ b) → a.length ≤ b.length
  | [], _, _, _ => Nat.zero_le _
  | x :: a, b, hn, h => by
    rw [List.nodup_cons] at hn
    have hx := h x (by simp)
    have h1 := length_le_of_subset (a := a) (b := b.erase x) hn.2 fun y hy => (List.mem_erase_of_ne (fun e => hn.1 (by rw [← e]; exact hy))).2 (h y (by simp [hy]))
    rw [List.length_erase_of_mem hx] at h1
    have : 0 < b.length := List.length_pos_of_mem hx
    rw [List.length_cons]
    omega
def taken (T : List Str) (m : Nat) : List Str := ((List.range m).map fun k => xs (k + 1)).filter fun x => decide (x ∈ T)
theorem taken_le (T : List Str) (m : Nat) : (taken T m).length ≤ T.length := by
  apply length_le_of_subset
  · refine List.Pairwise.filter _ ?_
    rw [List.pairwise_map]
    exact (List.nodup_range (n := m)).imp fun hne e => hne (by have := xs_inj e; omega)
  · intro x hx
    have := List.mem_filter.1 hx
    simpa using this.2
theorem taken_succ (T : List Str) (m : Nat) : (taken T (m + 1)).length = (taken T m).length + if xs (m + 1) ∈ T then 1 else 0 := by
  unfold taken
  rw [List.range_succ, List.map_append, List.filter_append, List.length_append]
  by_cases h : xs (m + 1) ∈ T <;> simp [h]
theorem fr_taken (T : List Str) (n : Int) : ∀ m, ((fr T n m).length : Int) < n → (fr T n m).length < 1000 → (fr T n m).length + (taken T m).length = m := by
  intro m
  induction m with
  | zero => intro _ _; simp [fr, taken]
  | succ m ih =>
    intro h1 h2
    rw [taken_succ]
    by_cases hc : ((fr T n m).length : Int) < n ∧ (fr T n m).length < 1000 ∧ xs (m + 1) ∉ T
    · have e := fr_add hc.1 hc.2.1 hc.2.2
      rw [e, List.length_append, List.length_singleton, if_neg hc.2.2]
      have := ih hc.1 hc.2.1
      omega
    · have e := fr_not hc
      rw [e] at h1 h2
      have hm : xs (m + 1) ∈ T := by
        rcases Classical.em (xs (m + 1) ∈ T) with h | h
        · exact h
        · exact absurd ⟨h1, h2, h⟩ hc
      rw [e, if_pos hm]
      have := ih h1 h2
      omega
theorem fr_enough (T : List Str) (n : Int) (m : Nat) (h1 : ((fr T n m).length : Int) < n) (h2 : (fr T n m).length < 1000) : m < 1000 + T.length := by
  have h3 := fr_taken T n m h1 h2
  have h4 := taken_le T m
  omega
end Go.Proofs.YtblapgfilbmdhaaGreatDoor.TabP
