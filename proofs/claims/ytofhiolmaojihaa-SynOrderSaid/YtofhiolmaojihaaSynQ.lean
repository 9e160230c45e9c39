/- Plain mathematics of parsing, of no program: which shape a line's tokens have, and what statement they are. -/
import Derived.Test.YtofhiolmaojihaaSynP
namespace Go.Proofs.Ytofhiolmaojihaa.SynQ
open Go.RowKit Go.Proofs.Ytofhiolmaojihaa.Plain Go.Proofs.Ytofhiolmaojihaa.SynP
/-- How many numbers two rows begin with alike. -/
def agreeN : List Int → List Int → Nat
  | a :: l, b :: s => if a = b then agreeN l s + 1 else 0
  | _, _ => 0
def kindsOf (L : List Tk) : List Int := L.map Tk.kind
theorem kinds_len (L : List Tk) : (kindsOf L).length = L.length := List.length_map ..
theorem agree_step {a b : List Int} {k : Nat} (h1 : k < a.length) (h2 : k < b.length) (h : a[k] = b[k]) : agreeN (a.drop k) (b.drop k) = agreeN (a.drop (k + 1)) (b.drop (k + 1)) + 1 := by
  rw [List.drop_eq_getElem_cons h1, List.drop_eq_getElem_cons h2]; simp [agreeN, h]
theorem agree_ne {a b : List Int} {k : Nat} (h1 : k < a.length) (h2 : k < b.length) (h : a[k] ≠ b[k]) : agreeN (a.drop k) (b.drop k) = 0 := by
  rw [List.drop_eq_getElem_cons h1, List.drop_eq_getElem_cons h2]; simp [agreeN, h]
theorem agree_end1 {a b : List Int} {k : Nat} (h : a.length ≤ k) : agreeN (a.drop k) (b.drop k) = 0 := by
  rw [List.drop_of_length_le h]; cases b.drop k <;> rfl
theorem agree_end2 {a b : List Int} {k : Nat} (h : b.length ≤ k) : agreeN (a.drop k) (b.drop k) = 0 := by
  rw [List.drop_of_length_le h]; cases a.drop k <;> rfl
theorem agree_le1 : ∀ (a b : List Int), agreeN a b ≤ a.length
  | [], _ => by simp [agreeN]
  | _ :: _, [] => by simp [agreeN]
  | a :: l, b :: s => by
    unfold agreeN
    split
    · have := agree_le1 l s; simp; omega
    · simp
theorem agree_le2 : ∀ (a b : List Int), agreeN a b ≤ b.length
  | [], _ => by simp [agreeN]
  | _ :: _, [] => by simp [agreeN]
  | a :: l, b :: s => by
    unfold agreeN
    split
    · have := agree_le2 l s; simp; omega
    · simp
theorem agree_all : ∀ (a b : List Int), agreeN a b = a.length → agreeN a b = b.length → a = b
  | [], [], _, _ => rfl
  | [], _ :: _, _, h => by simp [agreeN] at h
  | _ :: _, [], h, _ => by simp [agreeN] at h
  | a :: l, b :: s, h1, h2 => by
    unfold agreeN at h1 h2
    split at h1
    · rename_i e
      subst e
      simp at h1 h2
      rw [agree_all l s h1 h2]
    · simp at h1
theorem agree_self : ∀ a : List Int, agreeN a a = a.length
  | [] => rfl
  | a :: l => by unfold agreeN; rw [if_pos rfl, agree_self l]; rfl
/-- The kinds of the tokens of a statement's line. -/
def shapeK : Nat → List Int
  | 1 => [1, 3, 2, 4, 1]
  | 2 => [1, 3, 2, 4, 1, 3, 2]
  | 3 => [1, 3, 2, 4, 1, 3, 2, 3, 2]
  | 4 => [1, 3, 2, 4, 1, 3, 2, 5, 1, 3, 2]
  | _ => []
def textAt (L : List Tk) (k : Nat) : ByteArray := (L[k]?.map Tk.text).getD noText
/-- The statement of a kind whose line has these tokens, ahead of its normal form. -/
def stmtOf (k : Nat) (L : List Tk) : St :=
  ⟨k, ⟨textAt L 0, textAt L 2⟩, if k = 1 then textAt L 4 else noText, if k = 1 then zeroR else ⟨textAt L 4, textAt L 6⟩, if k = 4 then ⟨textAt L 8, textAt L 10⟩ else zeroR, if k = 3 then textAt L 8 else noText⟩
/-- The place behind the last token. -/
def behindOf (L : List Tk) : Nat := match L.getLast? with
  | none => 1
  | some t => t.col + t.text.size
/-- How many tokens one of the first shapes begins with like these. -/
def bestOf (L : List Tk) : Nat → Nat
  | 0 => 0
  | k + 1 => max (bestOf L k) (agreeN (kindsOf L) (shapeK (k + 1)))
def colAt (L : List Tk) (k : Nat) : Nat := (L[k]?.map Tk.col).getD 0
theorem textAt_eq {L : List Tk} {k : Nat} (h : k < L.length) : textAt L k = L[k].text := by unfold textAt; rw [List.getElem?_eq_getElem h]; rfl
theorem colAt_eq {L : List Tk} {k : Nat} (h : k < L.length) : colAt L k = L[k].col := by unfold colAt; rw [List.getElem?_eq_getElem h]; rfl
/-- Which statement tokens are; else the place, and what is wrong. -/
def parseL (L : List Tk) : St × Int × Int :=
  if kindsOf L = shapeK 1 then ((stmtOf 1 L).normal, 0, 0)
  else if kindsOf L = shapeK 2 then ((stmtOf 2 L).normal, 0, 0)
  else if kindsOf L = shapeK 3 then ((stmtOf 3 L).normal, 0, 0)
  else if kindsOf L = shapeK 4 then ((stmtOf 4 L).normal, 0, 0)
  else if bestOf L 4 < L.length then (zeroS, colAt L (bestOf L 4), 2)
  else (zeroS, behindOf L, 3)
end Go.Proofs.Ytofhiolmaojihaa.SynQ
