/- Plain mathematics, of no program: which bytes are letters and digits; names; the tokens of a line. -/
import Derived.WalkKit
import Derived.Lib.Hide
import Derived.Lib.IndexBytes
import Derived.Lib.Strings
import Derived.Test.YtpjacngbkohmdaaProg
import Derived.ProofKit
import Derived.Outline
import Derived.IntWalk
import Derived.WalkLawsBesides
import Derived.WalkSpells
namespace Go.Proofs.Ytpjacngbkohmdaa.Plain
set_option linter.unusedVariables false
set_option linter.unusedSimpArgs false
open Go.RowKit
def capB (n : Int) : Bool := decide (65 ≤ n ∧ n ≤ 90)
def smallB (n : Int) : Bool := decide (97 ≤ n ∧ n ≤ 122)
def digB (n : Int) : Bool := decide (48 ≤ n ∧ n ≤ 57)
def wordB (n : Int) : Bool := capB n || smallB n || digB n
theorem ret_bool {a b : Bool} (h : a = b) : Ending.returned (.bool a) = .returned (.bool b) := by rw [h]
theorem ret_int {k : IntKind} {a b : Int} (h : a = b) : Ending.returned (.int k a) = .returned (.int k b) := by rw [h]
theorem ret_str {a b : ByteArray} (h : a = b) : Ending.returned (.string a) = .returned (.string b) := by rw [h]
def named (f : Int → Bool) (l : List UInt8) : Bool := decide (0 < l.length ∧ l.length ≤ 8) && f (l.headD 0).toNat && l.all fun c => wordB c.toNat
theorem toList_len (s : ByteArray) : s.data.toList.length = s.size := rfl
theorem toList_isEmpty {s : ByteArray} (h : 0 < s.size) : s.toList.isEmpty = false := by
  have : s.toList = s.data.toList := Go.ByteArray.toList_eq s
  rw [this]
  cases e : s.data.toList with
  | nil => have := toList_len s; rw [e] at this; simp at this; omega
  | cons => rfl
theorem toList_isEmpty0 {s : ByteArray} (h : ¬ 0 < s.size) : s.toList.isEmpty = true := by
  have : s.toList = s.data.toList := Go.ByteArray.toList_eq s
  rw [this]
  cases e : s.data.toList with
  | nil => rfl
  | cons a l => have := toList_len s; rw [e] at this; simp at this; omega
theorem named_len {f} {s : ByteArray} (h : ¬ (0 < s.size ∧ s.size ≤ 8)) : named f s.data.toList = false := by
  unfold named
  rw [toList_len, decide_eq_false h]
  rfl
theorem headD_eq {s : ByteArray} (h : 0 < s.size) : s.data.toList.headD 0 = s[0] := by
  have e : s.data.toList[0]? = some s[0] := by
    rw [List.getElem?_eq_getElem (by rw [toList_len]; exact h)]; rfl
  cases hl : s.data.toList with
  | nil => rw [hl] at e; simp at e
  | cons a l => rw [hl] at e; simpa using e
theorem named_head {f} {s : ByteArray} (h : 0 < s.size) (hc : f s[0].toNat = false) : named f s.data.toList = false := by
  unfold named
  rw [headD_eq h, hc]
  simp
theorem named_bad {f} {s : ByteArray} (k : Nat) (h : k < s.size) (hc : wordB s[k].toNat = false) : named f s.data.toList = false := by
  unfold named
  have : (s.data.toList.all fun c => wordB c.toNat) = false := by
    rw [List.all_eq_false]
    exact ⟨s[k], by
      have : s[k] = s.data.toList[k]'(by rw [toList_len]; exact h) := rfl
      rw [this]; exact List.getElem_mem _, by simp [hc]⟩
  rw [this]
  simp
theorem named_ok {f} {s : ByteArray} (h : 0 < s.size) (h8 : s.size ≤ 8) (hf : f s[0].toNat = true) (hc : ∀ k, (h : k < s.size) → wordB s[k].toNat = true) : named f s.data.toList = true := by
  unfold named
  have : (s.data.toList.all fun c => wordB c.toNat) = true := by
    rw [List.all_eq_true]
    intro x hx
    obtain ⟨k, hk, rfl⟩ := List.getElem_of_mem hx
    exact hc k (by rw [toList_len] at hk; exact hk)
  rw [this, headD_eq h, hf, toList_len, decide_eq_true ⟨h, h8⟩]
  rfl
theorem named_one_cap (c : UInt8) : named capB [c] = capB c.toNat := by
  unfold named wordB
  cases h : capB c.toNat <;> simp [h]
theorem named_one_small (c : UInt8) : named smallB [c] = smallB c.toNat := by
  unfold named wordB
  cases h : smallB c.toNat <;> simp [h]

theorem u8_eq {a b : UInt8} : (a == b) = decide (a.toNat = b.toNat) := by
  rw [Bool.eq_iff_iff, beq_iff_eq, decide_eq_true_iff]
  exact ⟨fun h => by rw [h], fun h => UInt8.toNat_inj.1 h⟩
theorem u8_ne {a b : UInt8} (h : a ≠ b) : (a == b) = false := by simpa using h
theorem i8_eq {a : UInt8} {n : Nat} {b : UInt8} (hb : b.toNat = n) (h : a = b) : ((a.toNat : Int) == (n : Int)) = true := by subst h; rw [hb]; simp
theorem i8_ne {a : UInt8} {n : Nat} {b : UInt8} (hb : b.toNat = n) (h : a ≠ b) : ((a.toNat : Int) == (n : Int)) = false := by
  have : a.toNat ≠ n := fun e => h (UInt8.toNat_inj.1 (by rw [hb, e]))
  simp; omega

/-- How many letters and digits a line has from a place on. -/
def wlen (s : ByteArray) (k : Nat) : Nat := ((s.data.toList.drop k).takeWhile fun c => wordB c.toNat).length
theorem drop_cons {s : ByteArray} {k : Nat} (h : k < s.size) : s.data.toList.drop k = s[k] :: s.data.toList.drop (k + 1) := by
  rw [List.drop_eq_getElem_cons (by rw [toList_len]; exact h)]; rfl
theorem wlen_succ {s : ByteArray} {k : Nat} (h : k < s.size) (hw : wordB s[k].toNat = true) : wlen s k = wlen s (k + 1) + 1 := by
  unfold wlen
  rw [drop_cons h, List.takeWhile_cons, if_pos hw]; rfl
theorem wlen_stop {s : ByteArray} {k : Nat} (h : k < s.size) (hw : wordB s[k].toNat = false) : wlen s k = 0 := by
  unfold wlen
  rw [drop_cons h, List.takeWhile_cons, if_neg (by simp [hw])]; rfl
theorem wlen_end {s : ByteArray} {k : Nat} (h : ¬ k < s.size) : wlen s k = 0 := by
  unfold wlen
  rw [List.drop_of_length_le (by rw [toList_len]; omega)]; rfl
theorem wlen_le (s : ByteArray) (k : Nat) : wlen s k ≤ s.size - k := by
  unfold wlen
  have := (List.takeWhile_sublist (fun c : UInt8 => wordB c.toNat) (l := s.data.toList.drop k)).length_le
  rw [List.length_drop, toList_len] at this
  exact this

structure Tk where
  kind : Int
  text : ByteArray
  col : Nat
def Tk.cells (t : Tk) : List Value := [.int .i64 t.kind, .string t.text, .int .i64 t.col]
def tkCells (l : List Tk) : List Value := (l.map Tk.cells).flatten
inductive TkStep where
  | skip
  | tok (kind : Int) (m : Nat)
  | bad (e : Int)
inductive TkAns where
  | ok (l : List Tk)
  | bad (col : Nat) (e : Int)
def tkStep (s : ByteArray) (k : Nat) (h : k < s.size) : TkStep :=
  if s[k] = 32 then .skip
  else if capB s[k].toNat then (if wlen s (k + 1) + 1 > 8 then .bad 4 else .tok 1 (wlen s (k + 1)))
  else if smallB s[k].toNat then (if wlen s (k + 1) + 1 > 8 then .bad 4 else .tok 2 (wlen s (k + 1)))
  else if s[k] = 46 then .tok 3 0
  else if s[k] = 38 then .tok 5 0
  else if Lib.hasPrefix (s.data.toList.drop k) [60, 45] then .tok 4 1
  else .bad 1
def tkRun (s : ByteArray) (k : Nat) (L : List Tk) : TkAns :=
  if h : k < s.size then
    match tkStep s k h with
    | .skip => tkRun s (k + 1) L
    | .tok kind m => tkRun s (k + m + 1) (L ++ [⟨kind, s.extract k (k + (m + 1)), k + 1⟩])
    | .bad e => .bad (k + 1) e
  else .ok L
termination_by s.size - k
theorem tkRun_end {s : ByteArray} {k : Nat} {L : List Tk} (h : ¬ k < s.size) : tkRun s k L = .ok L := by rw [tkRun, dif_neg h]
theorem tkRun_skip {s : ByteArray} {k : Nat} {L : List Tk} (h : k < s.size) (hs : tkStep s k h = .skip) : tkRun s k L = tkRun s (k + 1) L := by rw [tkRun, dif_pos h, hs]
theorem tkRun_tok {s : ByteArray} {k : Nat} {L : List Tk} {kind : Int} {m : Nat} (h : k < s.size) (hs : tkStep s k h = .tok kind m) : tkRun s k L = tkRun s (k + m + 1) (L ++ [⟨kind, s.extract k (k + (m + 1)), k + 1⟩]) := by rw [tkRun, dif_pos h, hs]
theorem tkRun_bad {s : ByteArray} {k : Nat} {L : List Tk} {e : Int} (h : k < s.size) (hs : tkStep s k h = .bad e) : tkRun s k L = .bad (k + 1) e := by rw [tkRun, dif_pos h, hs]

/-- A line without its comment. -/
def bare (s : ByteArray) : ByteArray := ⟨(s.data.toList.takeWhile (fun c => c != 35)).toArray⟩
end Go.Proofs.Ytpjacngbkohmdaa.Plain
/- Plain mathematics of roles and statements, of no program: which are right, how they stand. -/
namespace Go.Proofs.Ytpjacngbkohmdaa.SynP
set_option linter.unusedVariables false
set_option linter.unusedSimpArgs false
open Go.RowKit Go.Proofs.Ytpjacngbkohmdaa.Plain
structure Rl where
  owner : ByteArray
  name : ByteArray
  deriving DecidableEq
structure St where
  kind : Int
  head : Rl
  who : ByteArray
  a : Rl
  b : Rl
  via : ByteArray
  deriving DecidableEq
def Rl.vals (r : Rl) : Array Value := #[.string r.owner, .string r.name]
def Rl.val (r : Rl) : Value := .agg #[.string r.owner, .string r.name]
def St.cells (s : St) : List Value := [.int .i64 s.kind, .string s.head.owner, .string s.head.name, .string s.who, .string s.a.owner, .string s.a.name, .string s.b.owner, .string s.b.name, .string s.via]
def St.val (s : St) : Value := .agg #[.int .i64 s.kind, .string s.head.owner, .string s.head.name, .string s.who, .string s.a.owner, .string s.a.name, .string s.b.owner, .string s.b.name, .string s.via]
/-- A role's texts are a principal's, and a role's name. -/
def Rl.ok (r : Rl) : Bool := named capB r.owner.data.toList && named smallB r.name.data.toList
/-- All texts are short. -/
def Rl.light (r : Rl) : Prop := r.owner.size ≤ maxLen ∧ r.name.size ≤ maxLen
def St.fit (s : St) : Prop := s.head.light ∧ s.who.size ≤ maxLen ∧ s.a.light ∧ s.b.light ∧ s.via.size ≤ maxLen
/-- How two texts stand, by their bytes. -/
def strLt (a b : ByteArray) : Bool := decide (a.data.toList < b.data.toList)
def cmpB (a b : ByteArray) : Int := if strLt a b then -1 else if strLt b a then 1 else 0
/-- The first number that isn't 0. -/
def orL : List Int → Int
  | [] => 0
  | x :: l => if x ≠ 0 then x else orL l
def cmpR (r s : Rl) : Int := orL [cmpB r.owner s.owner, cmpB r.name s.name]
def cmpN (a b : Int) : Int := if a < b then -1 else if a > b then 1 else 0
def cmpS (s t : St) : Int := orL [cmpR s.head t.head, cmpN s.kind t.kind, cmpB s.who t.who, cmpR s.a t.a, cmpR s.b t.b, cmpB s.via t.via]
theorem ba_ext {a b : ByteArray} (h : a.data.toList = b.data.toList) : a = b := by
  apply ByteArray.ext; apply Array.ext'; exact h
theorem strLt_irrefl (a : ByteArray) : strLt a a = false := by unfold strLt; exact decide_eq_false (List.lt_irrefl _)
theorem strLt_asymm {a b : ByteArray} (h : strLt a b = true) : strLt b a = false := by
  unfold strLt at *
  exact decide_eq_false (List.lt_asymm (of_decide_eq_true h))
theorem strLt_trans {a b c : ByteArray} (h : strLt a b = true) (h2 : strLt b c = true) : strLt a c = true := by
  unfold strLt at *
  exact decide_eq_true (List.lt_trans (of_decide_eq_true h) (of_decide_eq_true h2))
theorem strLt_total {a b : ByteArray} (h : strLt a b = false) (h2 : strLt b a = false) : a = b := by
  unfold strLt at *
  exact ba_ext (List.le_antisymm (of_decide_eq_false h2) (of_decide_eq_false h))
theorem cmpB_eq {a b : ByteArray} : cmpB a b = 0 ↔ a = b := by
  unfold cmpB
  constructor
  · intro h
    cases h1 : strLt a b <;> cases h2 : strLt b a <;> simp [h1, h2] at h
    exact strLt_total h1 h2
  · rintro rfl; simp [strLt_irrefl]
theorem cmpB_anti (a b : ByteArray) : cmpB b a = - cmpB a b := by
  unfold cmpB
  cases h1 : strLt a b <;> cases h2 : strLt b a <;> simp
  rw [strLt_asymm h1] at h2; cases h2
theorem cmpB_lt {a b : ByteArray} : cmpB a b < 0 ↔ strLt a b = true := by
  unfold cmpB
  cases h1 : strLt a b <;> cases h2 : strLt b a <;> simp
def noText : ByteArray := ⟨#[]⟩
def zeroR : Rl := ⟨noText, noText⟩
def zeroS : St := ⟨0, zeroR, noText, zeroR, zeroR, noText⟩
/-- What a statement of this kind has beside its head is such as it may be. -/
def St.says (s : St) : Bool := if s.kind = 1 then named capB s.who.data.toList else if s.kind = 2 then s.a.ok else if s.kind = 3 then s.a.ok && named smallB s.via.data.toList else if s.kind = 4 then s.a.ok && s.b.ok && !decide (cmpR s.b s.a < 0) else false
/-- A statement with nothing but what one of its kind has. -/
def St.own (s : St) : St := if s.kind = 1 then ⟨s.kind, s.head, s.who, zeroR, zeroR, noText⟩ else if s.kind = 2 then ⟨s.kind, s.head, noText, s.a, zeroR, noText⟩ else if s.kind = 3 then ⟨s.kind, s.head, noText, s.a, zeroR, s.via⟩ else if s.kind = 4 then ⟨s.kind, s.head, noText, s.a, s.b, noText⟩ else ⟨s.kind, s.head, noText, zeroR, zeroR, noText⟩
def St.right (s : St) : Bool := s.head.ok && s.says && decide (s = s.own)
def St.normal (s : St) : St := if s.kind = 4 ∧ cmpR s.b s.a < 0 then ⟨s.kind, s.head, s.who, s.b, s.a, s.via⟩ else s
end Go.Proofs.Ytpjacngbkohmdaa.SynP
/- Plain mathematics of parsing, of no program: which shape a line's tokens have, and what statement they are. -/
namespace Go.Proofs.Ytpjacngbkohmdaa.SynQ
set_option linter.unusedVariables false
set_option linter.unusedSimpArgs false
open Go.RowKit Go.Proofs.Ytpjacngbkohmdaa.Plain Go.Proofs.Ytpjacngbkohmdaa.SynP
/-- How many numbers two rows begin with alike. -/
def agreeN : List Int → List Int → Nat
  | a :: l, b :: s => if a = b then agreeN l s + 1 else 0
  | _, _ => 0
def kindsOf (L : List Tk) : List Int := L.map Tk.kind
theorem kinds_len (L : List Tk) : (kindsOf L).length = L.length := List.length_map ..
theorem agree_step {a b : List Int} {k : Nat} (h1 : k < a.length) (h2 : k < b.length) (h : a[k] = b[k]) : agreeN (a.drop k) (b.drop k) = agreeN (a.drop (k + 1)) (b.drop (k + 1)) + 1 := by
  rw [List.drop_eq_getElem_cons h1, List.drop_eq_getElem_cons h2]; simp [agreeN, h]
theorem agree_ne {a b : List Int} {k : Nat} (h1 : k < a.length) (h2 : k < b.length) (h : a[k] ≠ b[k]) : agreeN (a.drop k) (b.drop k) = 0 := by
  rw [List.drop_eq_getElem_cons h1, List.drop_eq_getElem_cons h2]; simp [agreeN, h]
theorem agree_end1 {a b : List Int} {k : Nat} (h : a.length ≤ k) : agreeN (a.drop k) (b.drop k) = 0 := by
  rw [List.drop_of_length_le h]; cases b.drop k <;> rfl
theorem agree_end2 {a b : List Int} {k : Nat} (h : b.length ≤ k) : agreeN (a.drop k) (b.drop k) = 0 := by
  rw [List.drop_of_length_le h]; cases a.drop k <;> rfl
theorem agree_le1 : ∀ (a b : List Int), agreeN a b ≤ a.length
  | [], _ => by simp [agreeN]
  | _ :: _, [] => by simp [agreeN]
  | a :: l, b :: s => by
    unfold agreeN
    split
    · have := agree_le1 l s; simp; omega
    · simp
theorem agree_le2 : ∀ (a b : List Int), agreeN a b ≤ b.length
  | [], _ => by simp [agreeN]
  | _ :: _, [] => by simp [agreeN]
  | a :: l, b :: s => by
    unfold agreeN
    split
    · have := agree_le2 l s; simp; omega
    · simp
theorem agree_all : ∀ (a b : List Int), agreeN a b = a.length → agreeN a b = b.length → a = b
  | [], [], _, _ => rfl
  | [], _ :: _, _, h => by simp [agreeN] at h
  | _ :: _, [], h, _ => by simp [agreeN] at h
  | a :: l, b :: s, h1, h2 => by
    unfold agreeN at h1 h2
    split at h1
    · rename_i e
      subst e
      simp at h1 h2
      rw [agree_all l s h1 h2]
    · simp at h1
theorem agree_self : ∀ a : List Int, agreeN a a = a.length
  | [] => rfl
  | a :: l => by unfold agreeN; rw [if_pos rfl, agree_self l]; rfl
/-- The kinds of the tokens of a statement's line. -/
def shapeK : Nat → List Int
  | 1 => [1, 3, 2, 4, 1]
  | 2 => [1, 3, 2, 4, 1, 3, 2]
  | 3 => [1, 3, 2, 4, 1, 3, 2, 3, 2]
  | 4 => [1, 3, 2, 4, 1, 3, 2, 5, 1, 3, 2]
  | _ => []
def textAt (L : List Tk) (k : Nat) : ByteArray := (L[k]?.map Tk.text).getD noText
/-- The statement of a kind whose line has these tokens, ahead of its normal form. -/
def stmtOf (k : Nat) (L : List Tk) : St :=
  ⟨k, ⟨textAt L 0, textAt L 2⟩, if k = 1 then textAt L 4 else noText, if k = 1 then zeroR else ⟨textAt L 4, textAt L 6⟩, if k = 4 then ⟨textAt L 8, textAt L 10⟩ else zeroR, if k = 3 then textAt L 8 else noText⟩
/-- The place behind the last token. -/
def behindOf (L : List Tk) : Nat := match L.getLast? with
  | none => 1
  | some t => t.col + t.text.size
/-- How many tokens one of the first shapes begins with like these. -/
def bestOf (L : List Tk) : Nat → Nat
  | 0 => 0
  | k + 1 => max (bestOf L k) (agreeN (kindsOf L) (shapeK (k + 1)))
def colAt (L : List Tk) (k : Nat) : Nat := (L[k]?.map Tk.col).getD 0
theorem textAt_eq {L : List Tk} {k : Nat} (h : k < L.length) : textAt L k = L[k].text := by unfold textAt; rw [List.getElem?_eq_getElem h]; rfl
theorem colAt_eq {L : List Tk} {k : Nat} (h : k < L.length) : colAt L k = L[k].col := by unfold colAt; rw [List.getElem?_eq_getElem h]; rfl
/-- Which statement tokens are; else the place, and what is wrong. -/
def parseL (L : List Tk) : St × Int × Int :=
  if kindsOf L = shapeK 1 then ((stmtOf 1 L).normal, 0, 0)
  else if kindsOf L = shapeK 2 then ((stmtOf 2 L).normal, 0, 0)
  else if kindsOf L = shapeK 3 then ((stmtOf 3 L).normal, 0, 0)
  else if kindsOf L = shapeK 4 then ((stmtOf 4 L).normal, 0, 0)
  else if bestOf L 4 < L.length then (zeroS, colAt L (bestOf L 4), 2)
  else (zeroS, behindOf L, 3)
end Go.Proofs.Ytpjacngbkohmdaa.SynQ
/- Leaf contracts: which bytes are letters and digits, in the program and in the document's answers. -/
namespace Go.Proofs.Ytpjacngbkohmdaa.Leaf
set_option linter.unusedVariables false
set_option linter.unusedSimpArgs false
open Go.RowKit Go.Proofs.Ytpjacngbkohmdaa.Plain

theorem isCapital (n : Int) (w : World) : Calls Try.prog 89 #[.int .u8 n] w fun e w' => e = .returned (.bool (capB n)) ∧ w = w' := by
  by_cases h : 65 ≤ n <;> by_cases h2 : n ≤ 90 <;>
  · go_enter Try.func89, Try.ntmps89
    go_wp2
    go_ret
    exact ⟨ret_bool (by simp [capB, h, h2]), rfl⟩
theorem isSmall (n : Int) (w : World) : Calls Try.prog 90 #[.int .u8 n] w fun e w' => e = .returned (.bool (smallB n)) ∧ w = w' := by
  by_cases h : 97 ≤ n <;> by_cases h2 : n ≤ 122 <;>
  · go_enter Try.func90, Try.ntmps90
    go_wp2
    go_ret
    exact ⟨ret_bool (by simp [smallB, h, h2]), rfl⟩
theorem isDigit (n : Int) (w : World) : Calls Try.prog 96 #[.int .u8 n] w fun e w' => e = .returned (.bool (digB n)) ∧ w = w' := by
  by_cases h : 48 ≤ n <;> by_cases h2 : n ≤ 57 <;>
  · go_enter Try.func96, Try.ntmps96
    go_wp2
    go_ret
    exact ⟨ret_bool (by simp [digB, h, h2]), rfl⟩
end Go.Proofs.Ytpjacngbkohmdaa.Leaf
/- Which texts are names: isNamed, IsPrin, IsName. -/
namespace Go.Proofs.Ytpjacngbkohmdaa.Named
set_option linter.unusedVariables false
set_option linter.unusedSimpArgs false
open Go.RowKit Go.Proofs.Ytpjacngbkohmdaa.Plain Go.Proofs.Ytpjacngbkohmdaa.Leaf
theorem isNamed_cap (s : ByteArray) (w : World) (hs : s.size ≤ maxLen) :
    Calls Try.prog 88 #[.string s, .func (.func 89) #[] #[]] w fun e w' => e = .returned (.bool (named capB s.data.toList)) ∧ w = w' := by
  unfold maxLen at hs
  by_cases h1 : 0 < s.size
  · have e1 : s.toList.isEmpty = false := toList_isEmpty h1
    by_cases h8 : s.size ≤ 8
    · have e2 : decide (8 < (s.size : Int)) = false := by simp; omega
      cases hc : capB s[0].toNat
      · go_enter Try.func88, Try.ntmps88
        go_wp2_with (go_at_call 89; refine (isCapital _ _).mono ?_; rintro e w' ⟨rfl, rfl⟩)
        go_ret
        exact ⟨ret_bool (named_head h1 hc).symm, rfl⟩
      · go_enter Try.func88, Try.ntmps88
        go_wp2_with (go_at_call 89; refine (isCapital _ _).mono ?_; rintro e w' ⟨rfl, rfl⟩)
        have Hc := Lib.hid hc
        clear hc e2 e1
        go_loop [22] (fun i => ∃ k : Nat, k ≤ s.size ∧ i = .int .i64 k ∧ Hid (∀ j, (h : j < s.size) → j < k → wordB s[j].toNat = true)) (fun i => s.size - (intOf i).toNat)
        case atStart => exact ⟨0, by omega, rfl, Lib.hid fun j _ hj => by omega⟩
        case round =>
          obtain ⟨k, hk, rfl, hall⟩ := hrel
          by_cases hlt : k < s.size
          · by_cases hw : wordB s[k].toNat = true
            · have hnext : Hid (∀ j, (h : j < s.size) → j < k + 1 → wordB s[j].toNat = true) := Lib.hid fun j h hj => by
                by_cases e : j = k
                · subst e; exact hw
                · exact hall.out j h (by omega)
              clear hall
              cases h1 : capB s[k].toNat <;> cases h2 : smallB s[k].toNat <;> cases h3 : digB s[k].toNat <;> first | (simp [wordB, h1, h2, h3] at hw; done) | skip
              all_goals
                clear hw
                go_wp2_with (first | (go_at_call 89; refine (isCapital _ _).mono ?_; rintro e w' ⟨rfl, rfl⟩) | (go_at_call 90; refine (isSmall _ _).mono ?_; rintro e w' ⟨rfl, rfl⟩) | (go_at_call 96; refine (isDigit _ _).mono ?_; rintro e w' ⟨rfl, rfl⟩))
                go_round
                case rel => exact ⟨k + 1, by omega, by go_num, hnext⟩
                case measure => simp [intOf]; omega
            · have hw' : wordB s[k].toNat = false := by simpa using hw
              have Hw := Lib.hid (named_bad (f := capB) k hlt hw')
              simp only [wordB, Bool.or_eq_false_iff] at hw'
              obtain ⟨⟨h1, h2⟩, h3⟩ := hw'
              clear hw
              go_wp2_with (first | (go_at_call 89; refine (isCapital _ _).mono ?_; rintro e w' ⟨rfl, rfl⟩) | (go_at_call 90; refine (isSmall _ _).mono ?_; rintro e w' ⟨rfl, rfl⟩) | (go_at_call 96; refine (isDigit _ _).mono ?_; rintro e w' ⟨rfl, rfl⟩))
              go_ret
              exact ⟨ret_bool Hw.out.symm, rfl⟩
          · go_wp2_with fail
            go_ret
            exact ⟨ret_bool (named_ok h1 h8 Hc.out (fun j h => hall.out j h (by omega))).symm, rfl⟩
    · have e2 : decide (8 < (s.size : Int)) = true := by simp; omega
      go_enter Try.func88, Try.ntmps88
      go_wp2
      go_ret
      exact ⟨ret_bool (named_len (by omega)).symm, rfl⟩
  · have e1 : s.toList.isEmpty = true := toList_isEmpty0 h1
    go_enter Try.func88, Try.ntmps88
    go_wp2
    go_ret
    exact ⟨ret_bool (named_len (by omega)).symm, rfl⟩
theorem isNamed_small (s : ByteArray) (w : World) (hs : s.size ≤ maxLen) :
    Calls Try.prog 88 #[.string s, .func (.func 90) #[] #[]] w fun e w' => e = .returned (.bool (named smallB s.data.toList)) ∧ w = w' := by
  unfold maxLen at hs
  by_cases h1 : 0 < s.size
  · have e1 : s.toList.isEmpty = false := toList_isEmpty h1
    by_cases h8 : s.size ≤ 8
    · have e2 : decide (8 < (s.size : Int)) = false := by simp; omega
      cases hc : smallB s[0].toNat
      · go_enter Try.func88, Try.ntmps88
        go_wp2_with (go_at_call 90; refine (isSmall _ _).mono ?_; rintro e w' ⟨rfl, rfl⟩)
        go_ret
        exact ⟨ret_bool (named_head h1 hc).symm, rfl⟩
      · go_enter Try.func88, Try.ntmps88
        go_wp2_with (go_at_call 90; refine (isSmall _ _).mono ?_; rintro e w' ⟨rfl, rfl⟩)
        have Hc := Lib.hid hc
        clear hc e2 e1
        go_loop [22] (fun i => ∃ k : Nat, k ≤ s.size ∧ i = .int .i64 k ∧ Hid (∀ j, (h : j < s.size) → j < k → wordB s[j].toNat = true)) (fun i => s.size - (intOf i).toNat)
        case atStart => exact ⟨0, by omega, rfl, Lib.hid fun j _ hj => by omega⟩
        case round =>
          obtain ⟨k, hk, rfl, hall⟩ := hrel
          by_cases hlt : k < s.size
          · by_cases hw : wordB s[k].toNat = true
            · have hnext : Hid (∀ j, (h : j < s.size) → j < k + 1 → wordB s[j].toNat = true) := Lib.hid fun j h hj => by
                by_cases e : j = k
                · subst e; exact hw
                · exact hall.out j h (by omega)
              clear hall
              cases h1 : capB s[k].toNat <;> cases h2 : smallB s[k].toNat <;> cases h3 : digB s[k].toNat <;> first | (simp [wordB, h1, h2, h3] at hw; done) | skip
              all_goals
                clear hw
                go_wp2_with (first | (go_at_call 89; refine (isCapital _ _).mono ?_; rintro e w' ⟨rfl, rfl⟩) | (go_at_call 90; refine (isSmall _ _).mono ?_; rintro e w' ⟨rfl, rfl⟩) | (go_at_call 96; refine (isDigit _ _).mono ?_; rintro e w' ⟨rfl, rfl⟩))
                go_round
                case rel => exact ⟨k + 1, by omega, by go_num, hnext⟩
                case measure => simp [intOf]; omega
            · have hw' : wordB s[k].toNat = false := by simpa using hw
              have Hw := Lib.hid (named_bad (f := smallB) k hlt hw')
              simp only [wordB, Bool.or_eq_false_iff] at hw'
              obtain ⟨⟨h1, h2⟩, h3⟩ := hw'
              clear hw
              go_wp2_with (first | (go_at_call 89; refine (isCapital _ _).mono ?_; rintro e w' ⟨rfl, rfl⟩) | (go_at_call 90; refine (isSmall _ _).mono ?_; rintro e w' ⟨rfl, rfl⟩) | (go_at_call 96; refine (isDigit _ _).mono ?_; rintro e w' ⟨rfl, rfl⟩))
              go_ret
              exact ⟨ret_bool Hw.out.symm, rfl⟩
          · go_wp2_with fail
            go_ret
            exact ⟨ret_bool (named_ok h1 h8 Hc.out (fun j h => hall.out j h (by omega))).symm, rfl⟩
    · have e2 : decide (8 < (s.size : Int)) = true := by simp; omega
      go_enter Try.func88, Try.ntmps88
      go_wp2
      go_ret
      exact ⟨ret_bool (named_len (by omega)).symm, rfl⟩
  · have e1 : s.toList.isEmpty = true := toList_isEmpty0 h1
    go_enter Try.func88, Try.ntmps88
    go_wp2
    go_ret
    exact ⟨ret_bool (named_len (by omega)).symm, rfl⟩
theorem isPrin (s : ByteArray) (w : World) (hs : s.size ≤ maxLen) : Calls Try.prog 74 #[.string s] w fun e w' => e = .returned (.bool (named capB s.data.toList)) ∧ w = w' := by
  go_enter Try.func74, Try.ntmps74
  go_wp2_with (go_at_call 88; refine (isNamed_cap _ _ hs).mono ?_; rintro e w' ⟨rfl, rfl⟩)
  go_ret
  exact ⟨rfl, rfl⟩
theorem isName (s : ByteArray) (w : World) (hs : s.size ≤ maxLen) : Calls Try.prog 75 #[.string s] w fun e w' => e = .returned (.bool (named smallB s.data.toList)) ∧ w = w' := by
  go_enter Try.func75, Try.ntmps75
  go_wp2_with (go_at_call 88; refine (isNamed_small _ _ hs).mono ?_; rintro e w' ⟨rfl, rfl⟩)
  go_ret
  exact ⟨rfl, rfl⟩
theorem isPrin1 (c : ByteArray) (b : UInt8) (hb : c.data.toList = [b]) (w : World) : Calls Try.prog 74 #[.string c] w fun e w' => e = .returned (.bool (capB b.toNat)) ∧ w = w' := by
  have hs : c.size ≤ maxLen := by rw [← toList_len, hb]; show 1 ≤ maxLen; decide
  refine (isPrin c w hs).mono ?_
  rintro e w' ⟨rfl, rfl⟩
  exact ⟨ret_bool (by rw [hb]; exact named_one_cap b), rfl⟩
theorem isName1 (c : ByteArray) (b : UInt8) (hb : c.data.toList = [b]) (w : World) : Calls Try.prog 75 #[.string c] w fun e w' => e = .returned (.bool (smallB b.toNat)) ∧ w = w' := by
  have hs : c.size ≤ maxLen := by rw [← toList_len, hb]; show 1 ≤ maxLen; decide
  refine (isName c w hs).mono ?_
  rintro e w' ⟨rfl, rfl⟩
  exact ⟨ret_bool (by rw [hb]; exact named_one_small b), rfl⟩
end Go.Proofs.Ytpjacngbkohmdaa.Named
/- The words of a line: inWord, wordSize. -/
namespace Go.Proofs.Ytpjacngbkohmdaa.Scan1
set_option linter.unusedVariables false
set_option linter.unusedSimpArgs false
open Go.RowKit Go.Proofs.Ytpjacngbkohmdaa.Plain Go.Proofs.Ytpjacngbkohmdaa.Leaf Go.Proofs.Ytpjacngbkohmdaa.Named
theorem dig_eq (b : UInt8) : ((decide (48 < b.toNat) || (48 : UInt8) == b) && (decide (b.toNat < 57) || b == 57)) = digB b.toNat := by
  rw [u8_eq, u8_eq]
  unfold digB
  rw [Bool.eq_iff_iff]
  have e1 : (48 : UInt8).toNat = 48 := rfl
  have e2 : (57 : UInt8).toNat = 57 := rfl
  simp only [e1, e2, Bool.and_eq_true, Bool.or_eq_true, decide_eq_true_iff]
  omega
theorem dig_no (b : UInt8) (h : ¬ (48 < b.toNat ∨ (48 : UInt8) = b)) : digB b.toNat = false := by
  rw [← dig_eq, u8_eq]
  have e1 : (48 : UInt8).toNat = 48 := rfl
  have : ¬ (48 = b.toNat) := fun e => h (.inr (UInt8.toNat_inj.1 (by rw [e1]; exact e)))
  rw [e1, decide_eq_false this, decide_eq_false (fun e => h (.inl e))]
  rfl
theorem one_byte (s : ByteArray) (k : Nat) (h : k < s.size) : (s.extract k (k + 1)).data.toList = [s[k]] := by
  rw [ByteArray.data_extract, Array.toList_extract, List.extract_eq_take_drop]
  rw [show k + 1 - k = 1 from by omega, drop_cons h]
  rfl
end Go.Proofs.Ytpjacngbkohmdaa.Scan1
