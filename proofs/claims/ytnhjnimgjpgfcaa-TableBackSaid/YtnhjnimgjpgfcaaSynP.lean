/- Plain mathematics of roles and statements, of no program: which are right, how they stand. -/
import Derived.Test.YtnhjnimgjpgfcaaPlain
namespace Go.Proofs.Ytnhjnimgjpgfcaa.SynP
open Go.RowKit Go.Proofs.Ytnhjnimgjpgfcaa.Plain
structure Rl where
  owner : ByteArray
  name : ByteArray
  deriving DecidableEq
structure St where
  kind : Int
  head : Rl
  who : ByteArray
  a : Rl
  b : Rl
  via : ByteArray
  deriving DecidableEq
def Rl.vals (r : Rl) : Array Value := #[.string r.owner, .string r.name]
def Rl.val (r : Rl) : Value := .agg #[.string r.owner, .string r.name]
def St.cells (s : St) : List Value := [.int .i64 s.kind, .string s.head.owner, .string s.head.name, .string s.who, .string s.a.owner, .string s.a.name, .string s.b.owner, .string s.b.name, .string s.via]
def St.val (s : St) : Value := .agg #[.int .i64 s.kind, .string s.head.owner, .string s.head.name, .string s.who, .string s.a.owner, .string s.a.name, .string s.b.owner, .string s.b.name, .string s.via]
/-- A role's texts are a principal's, and a role's name. -/
def Rl.ok (r : Rl) : Bool := named capB r.owner.data.toList && named smallB r.name.data.toList
/-- All texts are short. -/
def Rl.light (r : Rl) : Prop := r.owner.size ≤ maxLen ∧ r.name.size ≤ maxLen
def St.fit (s : St) : Prop := s.head.light ∧ s.who.size ≤ maxLen ∧ s.a.light ∧ s.b.light ∧ s.via.size ≤ maxLen
/-- How two texts stand, by their bytes. -/
def strLt (a b : ByteArray) : Bool := decide (a.data.toList < b.data.toList)
def cmpB (a b : ByteArray) : Int := if strLt a b then -1 else if strLt b a then 1 else 0
/-- The first number that isn't 0. -/
def orL : List Int → Int
  | [] => 0
  | x :: l => if x ≠ 0 then x else orL l
def cmpR (r s : Rl) : Int := orL [cmpB r.owner s.owner, cmpB r.name s.name]
def cmpN (a b : Int) : Int := if a < b then -1 else if a > b then 1 else 0
def cmpS (s t : St) : Int := orL [cmpR s.head t.head, cmpN s.kind t.kind, cmpB s.who t.who, cmpR s.a t.a, cmpR s.b t.b, cmpB s.via t.via]
theorem ba_ext {a b : ByteArray} (h : a.data.toList = b.data.toList) : a = b := by
  apply ByteArray.ext; apply Array.ext'; exact h
theorem strLt_irrefl (a : ByteArray) : strLt a a = false := by unfold strLt; exact decide_eq_false (List.lt_irrefl _)
theorem strLt_asymm {a b : ByteArray} (h : strLt a b = true) : strLt b a = false := by
  unfold strLt at *
  exact decide_eq_false (List.lt_asymm (of_decide_eq_true h))
theorem strLt_trans {a b c : ByteArray} (h : strLt a b = true) (h2 : strLt b c = true) : strLt a c = true := by
  unfold strLt at *
  exact decide_eq_true (List.lt_trans (of_decide_eq_true h) (of_decide_eq_true h2))
theorem strLt_total {a b : ByteArray} (h : strLt a b = false) (h2 : strLt b a = false) : a = b := by
  unfold strLt at *
  exact ba_ext (List.le_antisymm (of_decide_eq_false h2) (of_decide_eq_false h))
theorem cmpB_eq {a b : ByteArray} : cmpB a b = 0 ↔ a = b := by
  unfold cmpB
  constructor
  · intro h
    cases h1 : strLt a b <;> cases h2 : strLt b a <;> simp [h1, h2] at h
    exact strLt_total h1 h2
  · rintro rfl; simp [strLt_irrefl]
theorem cmpB_anti (a b : ByteArray) : cmpB b a = - cmpB a b := by
  unfold cmpB
  cases h1 : strLt a b <;> cases h2 : strLt b a <;> simp
  rw [strLt_asymm h1] at h2; cases h2
theorem cmpB_lt {a b : ByteArray} : cmpB a b < 0 ↔ strLt a b = true := by
  unfold cmpB
  cases h1 : strLt a b <;> cases h2 : strLt b a <;> simp
def noText : ByteArray := ⟨#[]⟩
def zeroR : Rl := ⟨noText, noText⟩
def zeroS : St := ⟨0, zeroR, noText, zeroR, zeroR, noText⟩
/-- What a statement of this kind has beside its head is such as it may be. -/
def St.says (s : St) : Bool := if s.kind = 1 then named capB s.who.data.toList else if s.kind = 2 then s.a.ok else if s.kind = 3 then s.a.ok && named smallB s.via.data.toList else if s.kind = 4 then s.a.ok && s.b.ok && !decide (cmpR s.b s.a < 0) else false
/-- A statement with nothing but what one of its kind has. -/
def St.own (s : St) : St := if s.kind = 1 then ⟨s.kind, s.head, s.who, zeroR, zeroR, noText⟩ else if s.kind = 2 then ⟨s.kind, s.head, noText, s.a, zeroR, noText⟩ else if s.kind = 3 then ⟨s.kind, s.head, noText, s.a, zeroR, s.via⟩ else if s.kind = 4 then ⟨s.kind, s.head, noText, s.a, s.b, noText⟩ else ⟨s.kind, s.head, noText, zeroR, zeroR, noText⟩
def St.right (s : St) : Bool := s.head.ok && s.says && decide (s = s.own)
def St.normal (s : St) : St := if s.kind = 4 ∧ cmpR s.b s.a < 0 then ⟨s.kind, s.head, s.who, s.b, s.a, s.via⟩ else s
end Go.Proofs.Ytnhjnimgjpgfcaa.SynP
