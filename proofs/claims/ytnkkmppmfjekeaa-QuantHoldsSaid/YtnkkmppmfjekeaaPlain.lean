/- Plain mathematics, of no program: which bytes are letters and digits; names; the tokens of a line. -/
import Derived.WalkKit
import Derived.Lib.Hide
import Derived.Lib.IndexBytes
import Derived.Lib.Strings
namespace Go.Proofs.Ytnkkmppmfjekeaa.Plain
open Go.RowKit
def capB (n : Int) : Bool := decide (65 ≤ n ∧ n ≤ 90)
def smallB (n : Int) : Bool := decide (97 ≤ n ∧ n ≤ 122)
def digB (n : Int) : Bool := decide (48 ≤ n ∧ n ≤ 57)
def wordB (n : Int) : Bool := capB n || smallB n || digB n
theorem ret_bool {a b : Bool} (h : a = b) : Ending.returned (.bool a) = .returned (.bool b) := by rw [h]
theorem ret_int {k : IntKind} {a b : Int} (h : a = b) : Ending.returned (.int k a) = .returned (.int k b) := by rw [h]
theorem ret_str {a b : ByteArray} (h : a = b) : Ending.returned (.string a) = .returned (.string b) := by rw [h]
def named (f : Int → Bool) (l : List UInt8) : Bool := decide (0 < l.length ∧ l.length ≤ 8) && f (l.headD 0).toNat && l.all fun c => wordB c.toNat
theorem toList_len (s : ByteArray) : s.data.toList.length = s.size := rfl
theorem toList_isEmpty {s : ByteArray} (h : 0 < s.size) : s.toList.isEmpty = false := by
  have : s.toList = s.data.toList := Go.ByteArray.toList_eq s
  rw [this]
  cases e : s.data.toList with
  | nil => have := toList_len s; rw [e] at this; simp at this; omega
  | cons => rfl
theorem toList_isEmpty0 {s : ByteArray} (h : ¬ 0 < s.size) : s.toList.isEmpty = true := by
  have : s.toList = s.data.toList := Go.ByteArray.toList_eq s
  rw [this]
  cases e : s.data.toList with
  | nil => rfl
  | cons a l => have := toList_len s; rw [e] at this; simp at this; omega
theorem named_len {f} {s : ByteArray} (h : ¬ (0 < s.size ∧ s.size ≤ 8)) : named f s.data.toList = false := by
  unfold named
  rw [toList_len, decide_eq_false h]
  rfl
theorem headD_eq {s : ByteArray} (h : 0 < s.size) : s.data.toList.headD 0 = s[0] := by
  have e : s.data.toList[0]? = some s[0] := by
    rw [List.getElem?_eq_getElem (by rw [toList_len]; exact h)]; rfl
  cases hl : s.data.toList with
  | nil => rw [hl] at e; simp at e
  | cons a l => rw [hl] at e; simpa using e
theorem named_head {f} {s : ByteArray} (h : 0 < s.size) (hc : f s[0].toNat = false) : named f s.data.toList = false := by
  unfold named
  rw [headD_eq h, hc]
  simp
theorem named_bad {f} {s : ByteArray} (k : Nat) (h : k < s.size) (hc : wordB s[k].toNat = false) : named f s.data.toList = false := by
  unfold named
  have : (s.data.toList.all fun c => wordB c.toNat) = false := by
    rw [List.all_eq_false]
    exact ⟨s[k], by
      have : s[k] = s.data.toList[k]'(by rw [toList_len]; exact h) := rfl
      rw [this]; exact List.getElem_mem _, by simp [hc]⟩
  rw [this]
  simp
theorem named_ok {f} {s : ByteArray} (h : 0 < s.size) (h8 : s.size ≤ 8) (hf : f s[0].toNat = true) (hc : ∀ k, (h : k < s.size) → wordB s[k].toNat = true) : named f s.data.toList = true := by
  unfold named
  have : (s.data.toList.all fun c => wordB c.toNat) = true := by
    rw [List.all_eq_true]
    intro x hx
    obtain ⟨k, hk, rfl⟩ := List.getElem_of_mem hx
    exact hc k (by rw [toList_len] at hk; exact hk)
  rw [this, headD_eq h, hf, toList_len, decide_eq_true ⟨h, h8⟩]
  rfl
theorem named_one_cap (c : UInt8) : named capB [c] = capB c.toNat := by
  unfold named wordB
  cases h : capB c.toNat <;> simp [h]
theorem named_one_small (c : UInt8) : named smallB [c] = smallB c.toNat := by
  unfold named wordB
  cases h : smallB c.toNat <;> simp [h]

theorem u8_eq {a b : UInt8} : (a == b) = decide (a.toNat = b.toNat) := by
  rw [Bool.eq_iff_iff, beq_iff_eq, decide_eq_true_iff]
  exact ⟨fun h => by rw [h], fun h => UInt8.toNat_inj.1 h⟩
theorem u8_ne {a b : UInt8} (h : a ≠ b) : (a == b) = false := by simpa using h
theorem i8_eq {a : UInt8} {n : Nat} {b : UInt8} (hb : b.toNat = n) (h : a = b) : ((a.toNat : Int) == (n : Int)) = true := by subst h; rw [hb]; simp
theorem i8_ne {a : UInt8} {n : Nat} {b : UInt8} (hb : b.toNat = n) (h : a ≠ b) : ((a.toNat : Int) == (n : Int)) = false := by
  have : a.toNat ≠ n := fun e => h (UInt8.toNat_inj.1 (by rw [hb, e]))
  simp; omega

/-- How many letters and digits a line has from a place on. -/
def wlen (s : ByteArray) (k : Nat) : Nat := ((s.data.toList.drop k).takeWhile fun c => wordB c.toNat).length
theorem drop_cons {s : ByteArray} {k : Nat} (h : k < s.size) : s.data.toList.drop k = s[k] :: s.data.toList.drop (k + 1) := by
  rw [List.drop_eq_getElem_cons (by rw [toList_len]; exact h)]; rfl
theorem wlen_succ {s : ByteArray} {k : Nat} (h : k < s.size) (hw : wordB s[k].toNat = true) : wlen s k = wlen s (k + 1) + 1 := by
  unfold wlen
  rw [drop_cons h, List.takeWhile_cons, if_pos hw]; rfl
theorem wlen_stop {s : ByteArray} {k : Nat} (h : k < s.size) (hw : wordB s[k].toNat = false) : wlen s k = 0 := by
  unfold wlen
  rw [drop_cons h, List.takeWhile_cons, if_neg (by simp [hw])]; rfl
theorem wlen_end {s : ByteArray} {k : Nat} (h : ¬ k < s.size) : wlen s k = 0 := by
  unfold wlen
  rw [List.drop_of_length_le (by rw [toList_len]; omega)]; rfl
theorem wlen_le (s : ByteArray) (k : Nat) : wlen s k ≤ s.size - k := by
  unfold wlen
  have := (List.takeWhile_sublist (fun c : UInt8 => wordB c.toNat) (l := s.data.toList.drop k)).length_le
  rw [List.length_drop, toList_len] at this
  exact this

structure Tk where
  kind : Int
  text : ByteArray
  col : Nat
def Tk.cells (t : Tk) : List Value := [.int .i64 t.kind, .string t.text, .int .i64 t.col]
def tkCells (l : List Tk) : List Value := (l.map Tk.cells).flatten
inductive TkStep where
  | skip
  | tok (kind : Int) (m : Nat)
  | bad (e : Int)
inductive TkAns where
  | ok (l : List Tk)
  | bad (col : Nat) (e : Int)
def tkStep (s : ByteArray) (k : Nat) (h : k < s.size) : TkStep :=
  if s[k] = 32 then .skip
  else if capB s[k].toNat then (if wlen s (k + 1) + 1 > 8 then .bad 4 else .tok 1 (wlen s (k + 1)))
  else if smallB s[k].toNat then (if wlen s (k + 1) + 1 > 8 then .bad 4 else .tok 2 (wlen s (k + 1)))
  else if s[k] = 46 then .tok 3 0
  else if s[k] = 38 then .tok 5 0
  else if Lib.hasPrefix (s.data.toList.drop k) [60, 45] then .tok 4 1
  else .bad 1
def tkRun (s : ByteArray) (k : Nat) (L : List Tk) : TkAns :=
  if h : k < s.size then
    match tkStep s k h with
    | .skip => tkRun s (k + 1) L
    | .tok kind m => tkRun s (k + m + 1) (L ++ [⟨kind, s.extract k (k + (m + 1)), k + 1⟩])
    | .bad e => .bad (k + 1) e
  else .ok L
termination_by s.size - k
theorem tkRun_end {s : ByteArray} {k : Nat} {L : List Tk} (h : ¬ k < s.size) : tkRun s k L = .ok L := by rw [tkRun, dif_neg h]
theorem tkRun_skip {s : ByteArray} {k : Nat} {L : List Tk} (h : k < s.size) (hs : tkStep s k h = .skip) : tkRun s k L = tkRun s (k + 1) L := by rw [tkRun, dif_pos h, hs]
theorem tkRun_tok {s : ByteArray} {k : Nat} {L : List Tk} {kind : Int} {m : Nat} (h : k < s.size) (hs : tkStep s k h = .tok kind m) : tkRun s k L = tkRun s (k + m + 1) (L ++ [⟨kind, s.extract k (k + (m + 1)), k + 1⟩]) := by rw [tkRun, dif_pos h, hs]
theorem tkRun_bad {s : ByteArray} {k : Nat} {L : List Tk} {e : Int} (h : k < s.size) (hs : tkStep s k h = .bad e) : tkRun s k L = .bad (k + 1) e := by rw [tkRun, dif_pos h, hs]

/-- A line without its comment. -/
def bare (s : ByteArray) : ByteArray := ⟨(s.data.toList.takeWhile (fun c => c != 35)).toArray⟩
end Go.Proofs.Ytnkkmppmfjekeaa.Plain
