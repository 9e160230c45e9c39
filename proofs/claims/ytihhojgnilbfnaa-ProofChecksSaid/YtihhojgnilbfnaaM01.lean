/- Plain mathematics, of no program: which bytes are letters and digits; names; the tokens of a line. -/
import Derived.WalkKit
import Derived.Lib.Hide
import Derived.Lib.IndexBytes
import Derived.Lib.Strings
import Derived.Test.YtihhojgnilbfnaaProg
import Derived.Below
import Derived.Lib.Builder
import Derived.Outline
import Derived.Laws.Bits64b
import Derived.Deep.MidRow
import Derived.Laws.MakeOwn
import Derived.RegionTactic
import Derived.Deep.RegionWith
import Derived.Deep.QuietTactic
import Derived.BigQuiet
import Derived.ProofKit
import Derived.IntWalk
import Derived.WalkLawsBesides
import Derived.WalkSpells
import Derived.StillTailTactics
import Derived.Laws.Rows
import Derived.Deep.CutBlock
import Derived.Deep.RegionHeld
import Derived.Deep.LoopGhost
import Derived.Deep.RegionHeld3
import Derived.Maps.AppendAt
import Derived.Lib.AppendZeros
import Derived.ChangeKeysEq
import Derived.Laws.AppendOwn
import Derived.Laws.OwnMore
import Derived.OwnWalk
import Derived.Deep.AppendSrc
import Derived.Deep.RegionLaw
import Derived.Deep.AppendLies
namespace Go.Proofs.Ytihhojgnilbfnaa.Plain
set_option linter.unusedVariables false
set_option linter.unusedSimpArgs false
open Go.RowKit
def capB (n : Int) : Bool := decide (65 ≤ n ∧ n ≤ 90)
def smallB (n : Int) : Bool := decide (97 ≤ n ∧ n ≤ 122)
def digB (n : Int) : Bool := decide (48 ≤ n ∧ n ≤ 57)
def wordB (n : Int) : Bool := capB n || smallB n || digB n
theorem ret_bool {a b : Bool} (h : a = b) : Ending.returned (.bool a) = .returned (.bool b) := by rw [h]
theorem ret_int {k : IntKind} {a b : Int} (h : a = b) : Ending.returned (.int k a) = .returned (.int k b) := by rw [h]
theorem ret_str {a b : ByteArray} (h : a = b) : Ending.returned (.string a) = .returned (.string b) := by rw [h]
def named (f : Int → Bool) (l : List UInt8) : Bool := decide (0 < l.length ∧ l.length ≤ 8) && f (l.headD 0).toNat && l.all fun c => wordB c.toNat
theorem toList_len (s : ByteArray) : s.data.toList.length = s.size := rfl
theorem toList_isEmpty {s : ByteArray} (h : 0 < s.size) : s.toList.isEmpty = false := by
  have : s.toList = s.data.toList := Go.ByteArray.toList_eq s
  rw [this]
  cases e : s.data.toList with
  | nil => have := toList_len s; rw [e] at this; simp at this; omega
  | cons => rfl
theorem toList_isEmpty0 {s : ByteArray} (h : ¬ 0 < s.size) : s.toList.isEmpty = true := by
  have : s.toList = s.data.toList := Go.ByteArray.toList_eq s
  rw [this]
  cases e : s.data.toList with
  | nil => rfl
  | cons a l => have := toList_len s; rw [e] at this; simp at this; omega
theorem named_len {f} {s : ByteArray} (h : ¬ (0 < s.size ∧ s.size ≤ 8)) : named f s.data.toList = false := by
  unfold named
  rw [toList_len, decide_eq_false h]
  rfl
theorem headD_eq {s : ByteArray} (h : 0 < s.size) : s.data.toList.headD 0 = s[0] := by
  have e : s.data.toList[0]? = some s[0] := by
    rw [List.getElem?_eq_getElem (by rw [toList_len]; exact h)]; rfl
  cases hl : s.data.toList with
  | nil => rw [hl] at e; simp at e
  | cons a l => rw [hl] at e; simpa using e
theorem named_head {f} {s : ByteArray} (h : 0 < s.size) (hc : f s[0].toNat = false) : named f s.data.toList = false := by
  unfold named
  rw [headD_eq h, hc]
  simp
theorem named_bad {f} {s : ByteArray} (k : Nat) (h : k < s.size) (hc : wordB s[k].toNat = false) : named f s.data.toList = false := by
  unfold named
  have : (s.data.toList.all fun c => wordB c.toNat) = false := by
    rw [List.all_eq_false]
    exact ⟨s[k], by
      have : s[k] = s.data.toList[k]'(by rw [toList_len]; exact h) := rfl
      rw [this]; exact List.getElem_mem _, by simp [hc]⟩
  rw [this]
  simp
theorem named_ok {f} {s : ByteArray} (h : 0 < s.size) (h8 : s.size ≤ 8) (hf : f s[0].toNat = true) (hc : ∀ k, (h : k < s.size) → wordB s[k].toNat = true) : named f s.data.toList = true := by
  unfold named
  have : (s.data.toList.all fun c => wordB c.toNat) = true := by
    rw [List.all_eq_true]
    intro x hx
    obtain ⟨k, hk, rfl⟩ := List.getElem_of_mem hx
    exact hc k (by rw [toList_len] at hk; exact hk)
  rw [this, headD_eq h, hf, toList_len, decide_eq_true ⟨h, h8⟩]
  rfl
theorem named_one_cap (c : UInt8) : named capB [c] = capB c.toNat := by
  unfold named wordB
  cases h : capB c.toNat <;> simp [h]
theorem named_one_small (c : UInt8) : named smallB [c] = smallB c.toNat := by
  unfold named wordB
  cases h : smallB c.toNat <;> simp [h]

theorem u8_eq {a b : UInt8} : (a == b) = decide (a.toNat = b.toNat) := by
  rw [Bool.eq_iff_iff, beq_iff_eq, decide_eq_true_iff]
  exact ⟨fun h => by rw [h], fun h => UInt8.toNat_inj.1 h⟩
theorem u8_ne {a b : UInt8} (h : a ≠ b) : (a == b) = false := by simpa using h
theorem i8_eq {a : UInt8} {n : Nat} {b : UInt8} (hb : b.toNat = n) (h : a = b) : ((a.toNat : Int) == (n : Int)) = true := by subst h; rw [hb]; simp
theorem i8_ne {a : UInt8} {n : Nat} {b : UInt8} (hb : b.toNat = n) (h : a ≠ b) : ((a.toNat : Int) == (n : Int)) = false := by
  have : a.toNat ≠ n := fun e => h (UInt8.toNat_inj.1 (by rw [hb, e]))
  simp; omega

/-- How many letters and digits a line has from a place on. -/
def wlen (s : ByteArray) (k : Nat) : Nat := ((s.data.toList.drop k).takeWhile fun c => wordB c.toNat).length
theorem drop_cons {s : ByteArray} {k : Nat} (h : k < s.size) : s.data.toList.drop k = s[k] :: s.data.toList.drop (k + 1) := by
  rw [List.drop_eq_getElem_cons (by rw [toList_len]; exact h)]; rfl
theorem wlen_succ {s : ByteArray} {k : Nat} (h : k < s.size) (hw : wordB s[k].toNat = true) : wlen s k = wlen s (k + 1) + 1 := by
  unfold wlen
  rw [drop_cons h, List.takeWhile_cons, if_pos hw]; rfl
theorem wlen_stop {s : ByteArray} {k : Nat} (h : k < s.size) (hw : wordB s[k].toNat = false) : wlen s k = 0 := by
  unfold wlen
  rw [drop_cons h, List.takeWhile_cons, if_neg (by simp [hw])]; rfl
theorem wlen_end {s : ByteArray} {k : Nat} (h : ¬ k < s.size) : wlen s k = 0 := by
  unfold wlen
  rw [List.drop_of_length_le (by rw [toList_len]; omega)]; rfl
theorem wlen_le (s : ByteArray) (k : Nat) : wlen s k ≤ s.size - k := by
  unfold wlen
  have := (List.takeWhile_sublist (fun c : UInt8 => wordB c.toNat) (l := s.data.toList.drop k)).length_le
  rw [List.length_drop, toList_len] at this
  exact this

structure Tk where
  kind : Int
  text : ByteArray
  col : Nat
def Tk.cells (t : Tk) : List Value := [.int .i64 t.kind, .string t.text, .int .i64 t.col]
def tkCells (l : List Tk) : List Value := (l.map Tk.cells).flatten
inductive TkStep where
  | skip
  | tok (kind : Int) (m : Nat)
  | bad (e : Int)
inductive TkAns where
  | ok (l : List Tk)
  | bad (col : Nat) (e : Int)
def tkStep (s : ByteArray) (k : Nat) (h : k < s.size) : TkStep :=
  if s[k] = 32 then .skip
  else if capB s[k].toNat then (if wlen s (k + 1) + 1 > 8 then .bad 4 else .tok 1 (wlen s (k + 1)))
  else if smallB s[k].toNat then (if wlen s (k + 1) + 1 > 8 then .bad 4 else .tok 2 (wlen s (k + 1)))
  else if s[k] = 46 then .tok 3 0
  else if s[k] = 38 then .tok 5 0
  else if Lib.hasPrefix (s.data.toList.drop k) [60, 45] then .tok 4 1
  else .bad 1
def tkRun (s : ByteArray) (k : Nat) (L : List Tk) : TkAns :=
  if h : k < s.size then
    match tkStep s k h with
    | .skip => tkRun s (k + 1) L
    | .tok kind m => tkRun s (k + m + 1) (L ++ [⟨kind, s.extract k (k + (m + 1)), k + 1⟩])
    | .bad e => .bad (k + 1) e
  else .ok L
termination_by s.size - k
theorem tkRun_end {s : ByteArray} {k : Nat} {L : List Tk} (h : ¬ k < s.size) : tkRun s k L = .ok L := by rw [tkRun, dif_neg h]
theorem tkRun_skip {s : ByteArray} {k : Nat} {L : List Tk} (h : k < s.size) (hs : tkStep s k h = .skip) : tkRun s k L = tkRun s (k + 1) L := by rw [tkRun, dif_pos h, hs]
theorem tkRun_tok {s : ByteArray} {k : Nat} {L : List Tk} {kind : Int} {m : Nat} (h : k < s.size) (hs : tkStep s k h = .tok kind m) : tkRun s k L = tkRun s (k + m + 1) (L ++ [⟨kind, s.extract k (k + (m + 1)), k + 1⟩]) := by rw [tkRun, dif_pos h, hs]
theorem tkRun_bad {s : ByteArray} {k : Nat} {L : List Tk} {e : Int} (h : k < s.size) (hs : tkStep s k h = .bad e) : tkRun s k L = .bad (k + 1) e := by rw [tkRun, dif_pos h, hs]

/-- A line without its comment. -/
def bare (s : ByteArray) : ByteArray := ⟨(s.data.toList.takeWhile (fun c => c != 35)).toArray⟩
end Go.Proofs.Ytihhojgnilbfnaa.Plain
/- Rules: their numbers, and a block that holds one. -/
namespace Go.Proofs.Ytihhojgnilbfnaa.TblC
set_option linter.unusedVariables false
set_option linter.unusedSimpArgs false
open Go.RowKit Go.Lib Go.Proofs Go.Proofs.Ytihhojgnilbfnaa.Plain
set_option linter.unusedVariables false
set_option linter.unusedSimpArgs false
/-- A rule's numbers. -/
structure Ru where
  kind : Int
  head : Int
  who : Int
  a : Int
  b : Int
  via : Int
deriving DecidableEq
def Ru.cells (r : Ru) : Array Value := #[.int .i64 r.kind, .int .i64 r.head, .int .i64 r.who, .int .i64 r.a, .int .i64 r.b, .int .i64 r.via]
def Ru.val (r : Ru) : Value := .agg #[.int .i64 r.kind, .int .i64 r.head, .int .i64 r.who, .int .i64 r.a, .int .i64 r.b, .int .i64 r.via]
def zeroU : Ru := ⟨0, 0, 0, 0, 0, 0⟩
/-- The rule lies in block r, and block r alone was written. -/
def RuAt (w : World) (r : Nat) (u : Ru) : Prop := w.heap[r]? = some (.cells u.cells 44 (0, 0))
def Ru.set (u : Ru) (o : Nat) (v : Int) : Ru :=
  if o = 1 then { u with head := v } else if o = 2 then { u with who := v } else if o = 3 then { u with a := v } else if o = 4 then { u with b := v } else if o = 5 then { u with via := v } else u
theorem RuAt.lt {w : World} {r : Nat} {u : Ru} (h : RuAt w r u) : r < w.heap.size := (Array.getElem?_eq_some_iff.1 h).1
theorem RuAt.cell {w : World} {r : Nat} {u : Ru} (h : RuAt w r u) (o : Nat) : w.cell? ⟨r, o, none⟩ = u.cells[o]? := Lib.cell_of_heap h o
theorem RuAt.free {w : World} {r : Nat} {u : Ru} (h : RuAt w r u) (o : Nat) : w.frozen? ⟨r, o, none⟩ = false := frozen_of_row _ _ _ _ _ h
theorem RuAt.put {w : World} {r : Nat} {u : Ru} (h : RuAt w r u) (o : Nat) (h1 : 1 ≤ o) (h5 : o ≤ 5) (v : Int) : RuAt (w.setCell ⟨r, o, none⟩ (.int .i64 v)) r (u.set o v) := by
  unfold RuAt
  rw [heap_setCell_same _ _ _ _ _ _ h]
  congr 2
  match o, h1, h5 with
  | 1, _, _ => rfl
  | 2, _, _ => rfl
  | 3, _, _ => rfl
  | 4, _, _ => rfl
  | 5, _, _ => rfl
theorem RuAt.below {w w' : World} {r : Nat} {u : Ru} (h : RuAt w r u) (hb : RowKit.Below w.heap.size w w') : RuAt w' r u := (hb.block r h.lt).trans h
theorem grew_set (w : World) (a : Addr) (v : Value) : w.grownBy (w.setCell a v) (some a.block) := ⟨rfl, rfl, rfl, by simp [World.setCell], fun k hk hne => Below.heap_setCell _ _ _ _ (fun e => hne (by rw [e]))⟩
theorem below_set {w w1 : World} {a : Addr} {v : Value} (hb : RowKit.Below w.heap.size w w1) : w.grownBy (w1.setCell a v) (some a.block) :=
  ⟨hb.os, hb.tape, hb.output, by simpa [World.setCell] using hb.size, fun k hk hne => (Below.heap_setCell _ _ _ _ (fun e => hne (by rw [e]))).trans (hb.block k hk)⟩
theorem grew_trans {w w1 w2 : World} {r : Nat} (h : w.grownBy w1 (some r)) (h2 : w1.grownBy w2 (some r)) : w.grownBy w2 (some r) :=
  ⟨h2.os.trans h.os, h2.tape.trans h.tape, h2.output.trans h.output, Nat.le_trans h.size h2.size, fun k hk hne => (h2.block k (Nat.lt_of_lt_of_le hk h.size) hne).trans (h.block k hk hne)⟩
theorem grew_below {w w1 w2 : World} {r : Nat} (h : w.grownBy w1 (some r)) (h2 : RowKit.Below w1.heap.size w1 w2) : w.grownBy w2 (some r) :=
  ⟨h2.os.trans h.os, h2.tape.trans h.tape, h2.output.trans h.output, Nat.le_trans h.size h2.size, fun k hk hne => (h2.block k (Nat.lt_of_lt_of_le hk h.size)).trans (h.block k hk hne)⟩
theorem below_grew {w w1 w2 : World} {r : Nat} (h2 : RowKit.Below w.heap.size w w1) (h : w1.grownBy w2 (some r)) : w.grownBy w2 (some r) :=
  ⟨h.os.trans h2.os, h.tape.trans h2.tape, h.output.trans h2.output, Nat.le_trans h2.size h.size, fun k hk hne => (h.block k (Nat.lt_of_lt_of_le hk h2.size) hne).trans (h2.block k hk)⟩
def PutPost (v : Int) (u : Ru) (o r : Nat) (w : World) (e : Ending) (w' : World) : Prop := e = .returned (.bool (decide (0 ≤ v))) ∧ RuAt w' r (u.set o v) ∧ w.grownBy w' (some r)
end Go.Proofs.Ytihhojgnilbfnaa.TblC
namespace Go.Proofs.Ytihhojgnilbfnaa.TblB
open Go.RowKit Go.Lib Go.Proofs
set_option linter.unusedVariables false
set_option linter.unusedSimpArgs false
theorem below_setRow {B : Nat} {a w : World} (h : RowKit.Below B a w) {g : Nat} (hg : B ≤ g) (cs : Array Value) : RowKit.Below B a (w.setRow g cs) :=
  ⟨h.os, h.tape, h.output, by simpa using h.size, fun k hk => (setRow_other _ _ _ _ (by omega)).trans (h.block k hk)⟩
end Go.Proofs.Ytihhojgnilbfnaa.TblB
namespace Go.Proofs.Ytihhojgnilbfnaa.TblF
open Go.RowKit Go.Lib Go.Proofs Go.Proofs.Ytihhojgnilbfnaa.TblC
set_option linter.unusedVariables false
set_option linter.unusedSimpArgs false
theorem infoRule : (Try.prog.info? 44).map (·.size) = some 6 := by kernel_rfl
theorem cell_rule {w : World} {n : Nat} {old : Array Value} {u : Ru} (h : w.heap[n]? = some (.cells old 44 (0, 0))) (o : Nat) : (w.setRow n u.cells).cell? ⟨n, o, none⟩ = (#[.int .i64 u.kind, .int .i64 u.head, .int .i64 u.who, .int .i64 u.a, .int .i64 u.b, .int .i64 u.via] : Array Value)[o]? := cell_setRow_same w n o old u.cells _ _ h
theorem one6 (u : Ru) : u.cells.all (·.oneCell') = true :=
  all_oneCell_toArray (cs := [.int .i64 u.kind, .int .i64 u.head, .int .i64 u.who, .int .i64 u.a, .int .i64 u.b, .int .i64 u.via]) (fun v hv => by simp at hv; rcases hv with rfl | rfl | rfl | rfl | rfl | rfl <;> rfl)
end Go.Proofs.Ytihhojgnilbfnaa.TblF
namespace Go.Proofs.Ytihhojgnilbfnaa.TblV
open Go.RowKit Go.Lib Go.Proofs Go.Proofs.Ytihhojgnilbfnaa.TblC
set_option linter.unusedVariables false
set_option linter.unusedSimpArgs false
/-- Rules as cells. -/
def cellsR (L : List Ru) : List Value := L.flatMap fun u => u.cells.toList
theorem cellsR_len (L : List Ru) : (cellsR L).length = L.length * 6 := by
  induction L with
  | nil => rfl
  | cons u L ih => unfold cellsR at *; rw [List.flatMap_cons, List.length_append, ih, List.length_cons, Nat.succ_mul]; show 6 + _ = _; omega
theorem cellsR_app (L K : List Ru) : cellsR (L ++ K) = cellsR L ++ cellsR K := by unfold cellsR; simp
theorem cellsR_at : ∀ (L : List Ru) (j k : Nat) (h : j < L.length), k < 6 → (cellsR L)[j * 6 + k]? = (L[j].cells)[k]?
  | [], _, _, h, _ => absurd h (Nat.not_lt_zero _)
  | u :: L, 0, k, _, hk => by
    have e : cellsR (u :: L) = u.cells.toList ++ cellsR L := by unfold cellsR; simp
    rw [e, Nat.zero_mul, Nat.zero_add, List.getElem?_append_left (by show k < 6; exact hk)]
    simp
  | u :: L, j + 1, k, h, hk => by
    have e : cellsR (u :: L) = u.cells.toList ++ cellsR L := by unfold cellsR; simp
    have h6 : u.cells.toList.length = 6 := rfl
    rw [e, List.getElem?_append_right (by rw [h6]; omega), h6]
    have : (j + 1) * 6 + k - 6 = j * 6 + k := by omega
    rw [this, cellsR_at L j k (by simpa using h) hk]
    simp
/-- A slice value that reads as rules, wherever it lies. -/
def UG (w : World) (A : Option Addr) (L : List Ru) : Prop :=
  0 < L.length → ∃ g o, A = some ⟨g, o, none⟩ ∧ g < w.heap.size ∧ ∀ j, (h : j < L.length) → ∀ k, k < 6 → w.cell? ⟨g, o + j * 6 + k, none⟩ = (L[j].cells)[k]?
theorem UG.below {w w' : World} {A : Option Addr} {L : List Ru} (h : UG w A L) (hb : Below w.heap.size w w') : UG w' A L := fun hp => by
  obtain ⟨g, o, hA, hg, hc⟩ := h hp
  exact ⟨g, o, hA, Nat.lt_of_lt_of_le hg hb.size, fun j hj k hk => (hb.cell (p := ⟨g, o + j * 6 + k, none⟩) hg).trans (hc j hj k hk)⟩
theorem ug_own {w : World} {B : Nat} {v : Value} {L : List Ru} {t : TypeId} (h : w.ownsRow B t 6 v L.length (cellsR L)) : ∃ A ca, v = .slice A L.length ca ∧ UG w A L := by
  have h0 := h
  rcases h.2 with ⟨rfl, hn⟩ | ⟨g, cap, cur, rfl, hb, hg, _⟩
  · exact ⟨none, 0, by rw [hn], fun hp => by omega⟩
  · refine ⟨_, cap, rfl, fun hp => ⟨g, 0, rfl, (Array.getElem?_eq_some_iff.1 hg).1, fun j hj k hk => ?_⟩⟩
    have hx := cellsR_at L j k hj hk
    have hs : k < L[j].cells.size := by show k < 6; exact hk
    rw [Array.getElem?_eq_getElem hs] at hx ⊢
    have := h0.cells (g := g) rfl _ _ hx
    have e : ((⟨g, 0, none⟩ : Addr).add (j * 6 + k)) = ⟨g, j * 6 + k, none⟩ := by unfold Addr.add; split <;> simp_all
    rw [e] at this
    rw [Nat.zero_add]
    exact this
end Go.Proofs.Ytihhojgnilbfnaa.TblV
/- Whether numbers are within a bound (below), by contract. -/
namespace Go.Proofs.Ytihhojgnilbfnaa.TblB
set_option linter.unusedVariables false
set_option linter.unusedSimpArgs false
open Go.RowKit Go.Lib Go.Proofs Go.Proofs.Ytihhojgnilbfnaa.Plain
set_option linter.unusedVariables false
set_option linter.unusedSimpArgs false
/-- A slice value that reads as numbers, wherever it lies. -/
def IG (w : World) (A : Option Addr) (zs : List Int) : Prop :=
  0 < zs.length → ∃ g o, A = some ⟨g, o, none⟩ ∧ g < w.heap.size ∧ ∀ j, (h : j < zs.length) → w.cell? ⟨g, o + j, none⟩ = some (.int .i64 zs[j])
theorem IG.below {w w' : World} {A : Option Addr} {zs : List Int} (h : IG w A zs) (hb : RowKit.Below w.heap.size w w') : IG w' A zs := fun hp => by
  obtain ⟨g, o, hA, hg, hc⟩ := h hp
  exact ⟨g, o, hA, Nat.lt_of_lt_of_le hg hb.size, fun j hj => (hb.cell (p := ⟨g, o + j, none⟩) hg).trans (hc j hj)⟩
theorem IG.lit (X : World) (g : Nat) (zs : List Int) (t : TypeId) (hg : X.heap[g]? = some (.cells (zs.map fun z => Value.int .i64 z).toArray t (0, 0))) : IG X (some ⟨g, 0, none⟩) zs := fun _ => by
  refine ⟨g, 0, rfl, (Array.getElem?_eq_some_iff.1 hg).1, fun j hj => ?_⟩
  rw [Lib.cell_of_heap hg, Nat.zero_add]
  simp [hj]
def inB (n z : Int) : Bool := decide (0 ≤ z ∧ z < n)
def allB (n : Int) (zs : List Int) : Bool := zs.all (inB n)
section
set_option maxRecDepth 100000
theorem fnB (z n : Int) (b : Nat) (w : World) (hb : w.cell? ⟨b, 0, none⟩ = some (.int .i64 n)) :
    Calls Try.prog 61 #[.int .i64 z, .pointer (some ⟨b, 0, none⟩)] w fun e w' => e = .returned (.bool (!inB n z)) ∧ w = w' := by
  by_cases h0 : z < 0
  · have hf : inB n z = false := decide_eq_false (by omega)
    rw [hf]
    clear hf
    go_enter Try.func61, Try.ntmps61
    go_wp2
    go_ret
    exact ⟨rfl, rfl⟩
  · by_cases h1 : n ≤ z
    · have hf : inB n z = false := decide_eq_false (by omega)
      rw [hf]
      clear hf
      go_enter Try.func61, Try.ntmps61
      go_wp2
      go_ret
      exact ⟨rfl, rfl⟩
    · have hf : inB n z = true := decide_eq_true (by omega)
      rw [hf]
      clear hf
      go_enter Try.func61, Try.ntmps61
      go_wp2
      go_ret
      exact ⟨rfl, rfl⟩
theorem all_no {n : Int} {zs : List Int} {k : Nat} (h : k < zs.length) (hk : inB n zs[k] = false) : allB n zs = false := by
  unfold allB
  rw [List.all_eq_false]
  exact ⟨zs[k], List.getElem_mem _, by simp [hk]⟩
theorem all_yes {n : Int} {zs : List Int} (h : ∀ k, (hk : k < zs.length) → inB n zs[k] = true) : allB n zs = true := by
  unfold allB
  rw [List.all_eq_true]
  intro x hx
  obtain ⟨k, hk, rfl⟩ := List.getElem_of_mem hx
  exact h k hk
theorem idxB (A : Option Addr) (ca : Nat) (zs : List Int) (n : Int) (b : Nat) (w : World) (hT : zs.length ≤ 10000) (hA : IG w A zs) (hb : w.cell? ⟨b, 0, none⟩ = some (.int .i64 n)) :
    Calls Try.prog 63 #[.slice A zs.length ca, .func (.func 61) #[] #[.pointer (some ⟨b, 0, none⟩)]] w fun e w' => ∃ r : Int, e = .returned (.int .i64 r) ∧ decide (0 ≤ r) = !allB n zs ∧ w = w' := by
  have HA := Lib.hid hA
  have HB := Lib.hid hb
  clear hA hb
  go_enter Try.func63, Try.ntmps63
  go_wp2_with fail
  go_loop [8] (fun i => ∃ k : Nat, k ≤ zs.length ∧ i = .int .i64 k ∧ Hid (∀ j, j < k → (h : j < zs.length) → inB n zs[j] = true)) (fun i => zs.length - (intOf i).toNat)
  case atStart => exact ⟨0, by omega, rfl, Lib.hid (fun j hj => by omega)⟩
  case round =>
    obtain ⟨k, hk, rfl, hall⟩ := hrel
    by_cases hlt : k < zs.length
    · obtain ⟨g, o, rfl, hg, hc⟩ := HA.out (by omega)
      have a0 := hc k hlt
      have H := Lib.hid (fnB zs[k] n b w HB.out)
      have p1 : (0 : Int) ≤ k := by omega
      have p2 : (k : Int) < zs.length := by omega
      clear hc
      cases hp : inB n zs[k]
      · rw [hp] at H
        have hfin := Lib.hid (show decide ((0 : Int) ≤ k) = !allB n zs by rw [decide_eq_true p1, all_no hlt hp]; rfl)
        clear hp hall
        go_wp2_with fail
        refine H.out.mono ?_
        rintro e w1 ⟨rfl, rfl⟩
        go_wp2_with fail
        go_ret
        exact ⟨k, rfl, hfin.out, rfl⟩
      · rw [hp] at H
        have hnext : Hid (∀ j, j < k + 1 → (h : j < zs.length) → inB n zs[j] = true) := Lib.hid fun j hj h => by
          by_cases e : j = k
          · subst e; exact hp
          · exact hall.out j (by omega) h
        clear hp hall
        go_wp2_with fail
        refine H.out.mono ?_
        rintro e w1 ⟨rfl, rfl⟩
        go_wp2_with fail
        go_round
        case rel => exact ⟨k + 1, by omega, by go_num, hnext⟩
        case measure => simp [intOf]; omega
    · have hfin := Lib.hid (show decide ((0 : Int) ≤ -1) = !allB n zs by rw [all_yes fun j hj => hall.out j (by omega) hj]; rfl)
      clear hall
      go_wp2_with fail
      go_ret
      exact ⟨-1, rfl, hfin.out, rfl⟩
theorem conB (A : Option Addr) (ca : Nat) (zs : List Int) (n : Int) (b : Nat) (w : World) (hT : zs.length ≤ 10000) (hA : IG w A zs) (hb : w.cell? ⟨b, 0, none⟩ = some (.int .i64 n)) :
    Calls Try.prog 60 #[.slice A zs.length ca, .func (.func 61) #[] #[.pointer (some ⟨b, 0, none⟩)]] w fun e w' => e = .returned (.bool (!allB n zs)) ∧ w = w' := by
  have H := Lib.hid (idxB A ca zs n b w hT hA hb)
  generalize (!allB n zs) = r at *
  clear hA hb
  go_enter Try.func60, Try.ntmps60
  go_wp2_with fail
  refine H.out.mono ?_
  rintro e w1 ⟨i, rfl, hi, rfl⟩
  have HI := Lib.hid hi
  clear hi
  go_wp2_with fail
  go_ret
  exact ⟨ret_bool HI.out, rfl⟩
theorem below (A : Option Addr) (ca : Nat) (zs : List Int) (n : Int) (w : World) (hT : zs.length ≤ 10000) (hA : IG w A zs) :
    Calls Try.prog 49 #[.int .i64 n, .slice A zs.length ca] w fun e w' => e = .returned (.bool (allB n zs)) ∧ RowKit.Below w.heap.size w w' := by
  have hmf : ∀ (fn : Fn) (first cap : Array Value) (w : World), (Instr.makeFunc fn first cap).run Try.prog w = .ok (.func fn first cap) w := fun _ _ _ _ => rfl
  have H := Lib.hid (conB A ca zs n w.heap.size (w.alloc (.cells #[.int .i64 n] 3)) hT (hA.below ((Below.refl _ _).alloc (Nat.le_refl _) _)) (by rw [Lib.cell_of_heap (heap_alloc_new w _)]; rfl))
  generalize allB n zs = r at *
  clear hA
  go_enter Try.func49, Try.ntmps49
  go_wp2_with fail
  refine H.out.mono ?_
  rintro e w1 ⟨rfl, rfl⟩
  go_wp2_with fail
  go_ret
  exact ⟨by simp, (Below.refl _ _).alloc (Nat.le_refl _) _⟩
end
end Go.Proofs.Ytihhojgnilbfnaa.TblB
/- Which rules may be: bare and Right, by contract. -/
namespace Go.Proofs.Ytihhojgnilbfnaa.TblP
set_option linter.unusedVariables false
set_option linter.unusedSimpArgs false
open Go.RowKit Go.Lib Go.Proofs Go.Proofs.Ytihhojgnilbfnaa.Plain Go.Proofs.Ytihhojgnilbfnaa.TblB Go.Proofs.Ytihhojgnilbfnaa.TblC Go.Proofs.Ytihhojgnilbfnaa.TblF
set_option linter.unusedVariables false
set_option linter.unusedSimpArgs false
instance (x y : Ru) : Decidable (x = y) := decidable_of_iff (x.kind = y.kind ∧ x.head = y.head ∧ x.who = y.who ∧ x.a = y.a ∧ x.b = y.b ∧ x.via = y.via) (by cases x; cases y; simp)
def bareK (u : Ru) : Bool := decide (u.kind = 1) || decide (u.kind = 2) || decide (u.kind = 3) || decide (u.kind = 4)
def bareU (u : Ru) : Ru := if u.kind = 1 then ⟨1, u.head, u.who, 0, 0, 0⟩ else if u.kind = 4 then ⟨4, u.head, 0, u.a, u.b, 0⟩ else if u.kind = 3 then ⟨3, u.head, 0, u.a, 0, u.via⟩ else if u.kind = 2 then ⟨2, u.head, 0, u.a, 0, 0⟩ else zeroU
def BarePost (u : Ru) (w : World) (e : Ending) (w' : World) : Prop := e = .returned (.tuple #[.agg (bareU u).cells, .bool (bareK u)]) ∧ RowKit.Below w.heap.size w w'
theorem three (w : World) (k h x a b v : Int) : RowKit.Below w.heap.size w (((w.alloc (.cells #[.int .i64 k, .int .i64 h, .int .i64 x, .int .i64 a, .int .i64 b, .int .i64 v] 44)).alloc (.cells #[.int .i64 0, .int .i64 0, .int .i64 0, .int .i64 0, .int .i64 0, .int .i64 0] 44)).alloc (.cells #[.int .i64 k, .int .i64 h, .int .i64 0, .int .i64 0, .int .i64 0, .int .i64 0] 44)) ∧
    (((w.alloc (.cells #[.int .i64 k, .int .i64 h, .int .i64 x, .int .i64 a, .int .i64 b, .int .i64 v] 44)).alloc (.cells #[.int .i64 0, .int .i64 0, .int .i64 0, .int .i64 0, .int .i64 0, .int .i64 0] 44)).alloc (.cells #[.int .i64 k, .int .i64 h, .int .i64 0, .int .i64 0, .int .i64 0, .int .i64 0] 44)).heap[w.heap.size]? = some (.cells #[.int .i64 k, .int .i64 h, .int .i64 x, .int .i64 a, .int .i64 b, .int .i64 v] 44 (0, 0)) ∧
    (((w.alloc (.cells #[.int .i64 k, .int .i64 h, .int .i64 x, .int .i64 a, .int .i64 b, .int .i64 v] 44)).alloc (.cells #[.int .i64 0, .int .i64 0, .int .i64 0, .int .i64 0, .int .i64 0, .int .i64 0] 44)).alloc (.cells #[.int .i64 k, .int .i64 h, .int .i64 0, .int .i64 0, .int .i64 0, .int .i64 0] 44)).heap[w.heap.size + 1]? = some (.cells zeroU.cells 44 (0, 0)) ∧
    RuAt (((w.alloc (.cells #[.int .i64 k, .int .i64 h, .int .i64 x, .int .i64 a, .int .i64 b, .int .i64 v] 44)).alloc (.cells #[.int .i64 0, .int .i64 0, .int .i64 0, .int .i64 0, .int .i64 0, .int .i64 0] 44)).alloc (.cells #[.int .i64 k, .int .i64 h, .int .i64 0, .int .i64 0, .int .i64 0, .int .i64 0] 44)) (w.heap.size + 2) ⟨k, h, 0, 0, 0, 0⟩ := by
  refine ⟨(((Below.refl w.heap.size w).alloc (Nat.le_refl _) _).alloc (by simp) _).alloc (by simp <;> omega) _, (Below.heap_alloc _ _ _ (by simp <;> omega)).trans (heap_alloc2_old w _ _), (Below.heap_alloc _ _ _ (by simp)).trans (heap_alloc2_new w _ _), ?_⟩
  have e := heap_alloc_new ((w.alloc (.cells #[.int .i64 k, .int .i64 h, .int .i64 x, .int .i64 a, .int .i64 b, .int .i64 v] 44)).alloc (.cells #[.int .i64 0, .int .i64 0, .int .i64 0, .int .i64 0, .int .i64 0, .int .i64 0] 44)) (.cells #[.int .i64 k, .int .i64 h, .int .i64 0, .int .i64 0, .int .i64 0, .int .i64 0] 44)
  have hz : ((w.alloc (.cells #[.int .i64 k, .int .i64 h, .int .i64 x, .int .i64 a, .int .i64 b, .int .i64 v] 44)).alloc (.cells #[.int .i64 0, .int .i64 0, .int .i64 0, .int .i64 0, .int .i64 0, .int .i64 0] 44)).heap.size = w.heap.size + 2 := by simp
  rw [hz] at e
  exact e
set_option maxHeartbeats 1000000 in
set_option maxRecDepth 100000 in
theorem bare1 (h x a b v : Int) (w : World) : Calls Try.prog 48 #[.agg #[.int .i64 1, .int .i64 h, .int .i64 x, .int .i64 a, .int .i64 b, .int .i64 v]] w fun e w' => e = .returned (.tuple #[.agg (⟨1, h, x, 0, 0, 0⟩ : Ru).cells, .bool true]) ∧ RowKit.Below w.heap.size w w' := by
  obtain ⟨k1, k2, k3, k4⟩ := three w 1 h x a b v
  have H1 := Lib.hid k1
  have H2 := Lib.hid k2
  have H3 := Lib.hid k3
  have H4 := Lib.hid k4
  clear k1 k2 k3 k4
  go_enter Try.func48, Try.ntmps48
  go_upto_region 2 with fail
  generalize ((w.alloc (.cells #[.int .i64 1, .int .i64 h, .int .i64 x, .int .i64 a, .int .i64 b, .int .i64 v] 44)).alloc (.cells #[.int .i64 0, .int .i64 0, .int .i64 0, .int .i64 0, .int .i64 0, .int .i64 0] 44)).alloc (.cells #[.int .i64 1, .int .i64 h, .int .i64 0, .int .i64 0, .int .i64 0, .int .i64 0] 44) = w3 at *
  have c := fun o => Lib.cell_of_heap H2.out o
  have r := fun o => RuAt.cell H4.out o
  simp only [Ru.cells] at r
  have f := fun o => RuAt.free H4.out o
  have HP : Hid (RuAt (w3.setCell ⟨w.heap.size + 2, 2, none⟩ (.int .i64 x)) (w.heap.size + 2) ⟨1, h, x, 0, 0, 0⟩) := Lib.hid (RuAt.put H4.out 2 (by omega) (by omega) x)
  have HO : Hid ((w3.setCell ⟨w.heap.size + 2, 2, none⟩ (.int .i64 x)).heap[w.heap.size + 1]? = some (.cells zeroU.cells 44 (0, 0))) := Lib.hid ((Below.heap_setCell _ _ _ _ (by show w.heap.size + 1 ≠ w.heap.size + 2; omega)).trans H3.out)
  have HB : Hid (RowKit.Below w.heap.size w (w3.setCell ⟨w.heap.size + 2, 2, none⟩ (.int .i64 x))) := Lib.hid (H1.out.setCell (by show w.heap.size ≤ w.heap.size + 2; omega) _)
  clear H1 H2 H3 H4
  go_wp2_with (first | (refine wpList_load_row rfl 44 _ rfl (w.heap.size + 2) rfl 44 (⟨1, h, x, 0, 0, 0⟩ : Ru).cells (0, 0) _ HP.out Try.underlying44 rfl infoRule ?_) | (refine wpList_store_row rfl 44 _ _ rfl (w.heap.size + 1) (⟨1, h, x, 0, 0, 0⟩ : Ru).cells rfl rfl 44 _ HO.out infoRule rfl (one6 _) ?_))
  have hl := cell_rule (u := ⟨1, h, x, 0, 0, 0⟩) HO.out
  have hz := below_setRow HB.out (show w.heap.size ≤ w.heap.size + 1 by omega) (⟨1, h, x, 0, 0, 0⟩ : Ru).cells
  generalize World.setRow _ (w.heap.size + 1) (⟨1, h, x, 0, 0, 0⟩ : Ru).cells = wz at hl hz ⊢
  refine bodyPost_ret (v := .tuple #[.agg (⟨1, h, x, 0, 0, 0⟩ : Ru).cells, .bool true]) (by simp [results, Try.results48, go_sem, hl, Ru.cells]) rfl ⟨rfl, hz⟩
set_option maxHeartbeats 1000000 in
set_option maxRecDepth 100000 in
theorem bare4 (h x a b v : Int) (w : World) : Calls Try.prog 48 #[.agg #[.int .i64 4, .int .i64 h, .int .i64 x, .int .i64 a, .int .i64 b, .int .i64 v]] w fun e w' => e = .returned (.tuple #[.agg (⟨4, h, 0, a, b, 0⟩ : Ru).cells, .bool true]) ∧ RowKit.Below w.heap.size w w' := by
  obtain ⟨k1, k2, k3, k4⟩ := three w 4 h x a b v
  have H1 := Lib.hid k1
  have H2 := Lib.hid k2
  have H3 := Lib.hid k3
  have H4 := Lib.hid k4
  clear k1 k2 k3 k4
  go_enter Try.func48, Try.ntmps48
  go_upto_region 2 with fail
  generalize ((w.alloc (.cells #[.int .i64 4, .int .i64 h, .int .i64 x, .int .i64 a, .int .i64 b, .int .i64 v] 44)).alloc (.cells #[.int .i64 0, .int .i64 0, .int .i64 0, .int .i64 0, .int .i64 0, .int .i64 0] 44)).alloc (.cells #[.int .i64 4, .int .i64 h, .int .i64 0, .int .i64 0, .int .i64 0, .int .i64 0] 44) = w3 at *
  have c := fun o => Lib.cell_of_heap H2.out o
  have r := fun o => RuAt.cell H4.out o
  simp only [Ru.cells] at r
  have f := fun o => RuAt.free H4.out o
  go_wp2_with fail
  go_region
  have HP : Hid (RuAt (((w3.setCell ⟨w.heap.size + 1 + 1, 3, none⟩ (.int .i64 a)).setCell ⟨w.heap.size + 1 + 1, 4, none⟩ (.int .i64 b)).drew) (w.heap.size + 1 + 1) ⟨4, h, 0, a, b, 0⟩) := Lib.hid (RuAt.put (RuAt.put H4.out 3 (by omega) (by omega) a) 4 (by omega) (by omega) b)
  have HO : Hid ((((w3.setCell ⟨w.heap.size + 1 + 1, 3, none⟩ (.int .i64 a)).setCell ⟨w.heap.size + 1 + 1, 4, none⟩ (.int .i64 b)).drew).heap[w.heap.size + 1]? = some (.cells zeroU.cells 44 (0, 0))) := Lib.hid ((Below.heap_setCell _ _ _ _ (by show w.heap.size + 1 ≠ w.heap.size + 2; omega)).trans ((Below.heap_setCell _ _ _ _ (by show w.heap.size + 1 ≠ w.heap.size + 2; omega)).trans H3.out))
  have HB : Hid (RowKit.Below w.heap.size w (((w3.setCell ⟨w.heap.size + 1 + 1, 3, none⟩ (.int .i64 a)).setCell ⟨w.heap.size + 1 + 1, 4, none⟩ (.int .i64 b)).drew)) := Lib.hid (((H1.out.setCell (by show w.heap.size ≤ w.heap.size + 2; omega) _).setCell (by show w.heap.size ≤ w.heap.size + 2; omega) _).drew)
  clear H1 H2 H3 H4
  go_wp2_with (first | (refine wpList_load_row rfl 44 _ rfl (w.heap.size + 1 + 1) rfl 44 (⟨4, h, 0, a, b, 0⟩ : Ru).cells (0, 0) _ HP.out Try.underlying44 rfl infoRule ?_) | (refine wpList_store_row rfl 44 _ _ rfl (w.heap.size + 1) (⟨4, h, 0, a, b, 0⟩ : Ru).cells rfl rfl 44 _ HO.out infoRule rfl (one6 _) ?_))
  have hl := cell_rule (u := ⟨4, h, 0, a, b, 0⟩) HO.out
  have hz := below_setRow HB.out (show w.heap.size ≤ w.heap.size + 1 by omega) (⟨4, h, 0, a, b, 0⟩ : Ru).cells
  generalize World.setRow _ (w.heap.size + 1) (⟨4, h, 0, a, b, 0⟩ : Ru).cells = wz at hl hz ⊢
  refine bodyPost_ret (v := .tuple #[.agg (⟨4, h, 0, a, b, 0⟩ : Ru).cells, .bool true]) (by simp [results, Try.results48, go_sem, hl, Ru.cells]) rfl ⟨rfl, hz⟩
set_option maxHeartbeats 1000000 in
set_option maxRecDepth 100000 in
theorem bare3 (h x a b v : Int) (w : World) : Calls Try.prog 48 #[.agg #[.int .i64 3, .int .i64 h, .int .i64 x, .int .i64 a, .int .i64 b, .int .i64 v]] w fun e w' => e = .returned (.tuple #[.agg (⟨3, h, 0, a, 0, v⟩ : Ru).cells, .bool true]) ∧ RowKit.Below w.heap.size w w' := by
  obtain ⟨k1, k2, k3, k4⟩ := three w 3 h x a b v
  have H1 := Lib.hid k1
  have H2 := Lib.hid k2
  have H3 := Lib.hid k3
  have H4 := Lib.hid k4
  clear k1 k2 k3 k4
  go_enter Try.func48, Try.ntmps48
  go_upto_region 2 with fail
  generalize ((w.alloc (.cells #[.int .i64 3, .int .i64 h, .int .i64 x, .int .i64 a, .int .i64 b, .int .i64 v] 44)).alloc (.cells #[.int .i64 0, .int .i64 0, .int .i64 0, .int .i64 0, .int .i64 0, .int .i64 0] 44)).alloc (.cells #[.int .i64 3, .int .i64 h, .int .i64 0, .int .i64 0, .int .i64 0, .int .i64 0] 44) = w3 at *
  have c := fun o => Lib.cell_of_heap H2.out o
  have r := fun o => RuAt.cell H4.out o
  simp only [Ru.cells] at r
  have f := fun o => RuAt.free H4.out o
  have HP : Hid (RuAt ((w3.setCell ⟨w.heap.size + 2, 5, none⟩ (.int .i64 v)).setCell ⟨w.heap.size + 2, 3, none⟩ (.int .i64 a)) (w.heap.size + 2) ⟨3, h, 0, a, 0, v⟩) := Lib.hid (RuAt.put (RuAt.put H4.out 5 (by omega) (by omega) v) 3 (by omega) (by omega) a)
  have HO : Hid (((w3.setCell ⟨w.heap.size + 2, 5, none⟩ (.int .i64 v)).setCell ⟨w.heap.size + 2, 3, none⟩ (.int .i64 a)).heap[w.heap.size + 1]? = some (.cells zeroU.cells 44 (0, 0))) := Lib.hid ((Below.heap_setCell _ _ _ _ (by show w.heap.size + 1 ≠ w.heap.size + 2; omega)).trans ((Below.heap_setCell _ _ _ _ (by show w.heap.size + 1 ≠ w.heap.size + 2; omega)).trans H3.out))
  have HB : Hid (RowKit.Below w.heap.size w ((w3.setCell ⟨w.heap.size + 2, 5, none⟩ (.int .i64 v)).setCell ⟨w.heap.size + 2, 3, none⟩ (.int .i64 a))) := Lib.hid ((H1.out.setCell (by show w.heap.size ≤ w.heap.size + 2; omega) _).setCell (by show w.heap.size ≤ w.heap.size + 2; omega) _)
  clear H1 H2 H3 H4
  go_wp2_with (first | (refine wpList_load_row rfl 44 _ rfl (w.heap.size + 2) rfl 44 (⟨3, h, 0, a, 0, v⟩ : Ru).cells (0, 0) _ HP.out Try.underlying44 rfl infoRule ?_) | (refine wpList_store_row rfl 44 _ _ rfl (w.heap.size + 1) (⟨3, h, 0, a, 0, v⟩ : Ru).cells rfl rfl 44 _ HO.out infoRule rfl (one6 _) ?_))
  have hl := cell_rule (u := ⟨3, h, 0, a, 0, v⟩) HO.out
  have hz := below_setRow HB.out (show w.heap.size ≤ w.heap.size + 1 by omega) (⟨3, h, 0, a, 0, v⟩ : Ru).cells
  generalize World.setRow _ (w.heap.size + 1) (⟨3, h, 0, a, 0, v⟩ : Ru).cells = wz at hl hz ⊢
  refine bodyPost_ret (v := .tuple #[.agg (⟨3, h, 0, a, 0, v⟩ : Ru).cells, .bool true]) (by simp [results, Try.results48, go_sem, hl, Ru.cells]) rfl ⟨rfl, hz⟩
set_option maxHeartbeats 1000000 in
set_option maxRecDepth 100000 in
theorem bare2 (h x a b v : Int) (w : World) : Calls Try.prog 48 #[.agg #[.int .i64 2, .int .i64 h, .int .i64 x, .int .i64 a, .int .i64 b, .int .i64 v]] w fun e w' => e = .returned (.tuple #[.agg (⟨2, h, 0, a, 0, 0⟩ : Ru).cells, .bool true]) ∧ RowKit.Below w.heap.size w w' := by
  obtain ⟨k1, k2, k3, k4⟩ := three w 2 h x a b v
  have H1 := Lib.hid k1
  have H2 := Lib.hid k2
  have H3 := Lib.hid k3
  have H4 := Lib.hid k4
  clear k1 k2 k3 k4
  go_enter Try.func48, Try.ntmps48
  go_upto_region 2 with fail
  generalize ((w.alloc (.cells #[.int .i64 2, .int .i64 h, .int .i64 x, .int .i64 a, .int .i64 b, .int .i64 v] 44)).alloc (.cells #[.int .i64 0, .int .i64 0, .int .i64 0, .int .i64 0, .int .i64 0, .int .i64 0] 44)).alloc (.cells #[.int .i64 2, .int .i64 h, .int .i64 0, .int .i64 0, .int .i64 0, .int .i64 0] 44) = w3 at *
  have c := fun o => Lib.cell_of_heap H2.out o
  have r := fun o => RuAt.cell H4.out o
  simp only [Ru.cells] at r
  have f := fun o => RuAt.free H4.out o
  have HP : Hid (RuAt (w3.setCell ⟨w.heap.size + 2, 3, none⟩ (.int .i64 a)) (w.heap.size + 2) ⟨2, h, 0, a, 0, 0⟩) := Lib.hid (RuAt.put H4.out 3 (by omega) (by omega) a)
  have HO : Hid ((w3.setCell ⟨w.heap.size + 2, 3, none⟩ (.int .i64 a)).heap[w.heap.size + 1]? = some (.cells zeroU.cells 44 (0, 0))) := Lib.hid ((Below.heap_setCell _ _ _ _ (by show w.heap.size + 1 ≠ w.heap.size + 2; omega)).trans H3.out)
  have HB : Hid (RowKit.Below w.heap.size w (w3.setCell ⟨w.heap.size + 2, 3, none⟩ (.int .i64 a))) := Lib.hid (H1.out.setCell (by show w.heap.size ≤ w.heap.size + 2; omega) _)
  clear H1 H2 H3 H4
  go_wp2_with (first | (refine wpList_load_row rfl 44 _ rfl (w.heap.size + 2) rfl 44 (⟨2, h, 0, a, 0, 0⟩ : Ru).cells (0, 0) _ HP.out Try.underlying44 rfl infoRule ?_) | (refine wpList_store_row rfl 44 _ _ rfl (w.heap.size + 1) (⟨2, h, 0, a, 0, 0⟩ : Ru).cells rfl rfl 44 _ HO.out infoRule rfl (one6 _) ?_))
  have hl := cell_rule (u := ⟨2, h, 0, a, 0, 0⟩) HO.out
  have hz := below_setRow HB.out (show w.heap.size ≤ w.heap.size + 1 by omega) (⟨2, h, 0, a, 0, 0⟩ : Ru).cells
  generalize World.setRow _ (w.heap.size + 1) (⟨2, h, 0, a, 0, 0⟩ : Ru).cells = wz at hl hz ⊢
  refine bodyPost_ret (v := .tuple #[.agg (⟨2, h, 0, a, 0, 0⟩ : Ru).cells, .bool true]) (by simp [results, Try.results48, go_sem, hl, Ru.cells]) rfl ⟨rfl, hz⟩
set_option maxRecDepth 100000 in
theorem bare0 (k h x a b v : Int) (h1 : k ≠ 1) (h2 : k ≠ 2) (h3 : k ≠ 3) (h4 : k ≠ 4) (w : World) : Calls Try.prog 48 #[.agg #[.int .i64 k, .int .i64 h, .int .i64 x, .int .i64 a, .int .i64 b, .int .i64 v]] w fun e w' => e = .returned (.tuple #[.agg zeroU.cells, .bool false]) ∧ RowKit.Below w.heap.size w w' := by
  obtain ⟨k1, k2, k3, k4⟩ := three w k h x a b v
  have H1 := Lib.hid k1
  have H2 := Lib.hid k2
  have H3 := Lib.hid k3
  clear k1 k2 k3 k4
  have e1 : (k == 1) = false := by simp [h1]
  have e2 : (k == 2) = false := by simp [h2]
  have e3 : (k == 3) = false := by simp [h3]
  have e4 : (k == 4) = false := by simp [h4]
  clear h1 h2 h3 h4
  go_enter Try.func48, Try.ntmps48
  go_upto_region 2 with fail
  generalize ((w.alloc (.cells #[.int .i64 k, .int .i64 h, .int .i64 x, .int .i64 a, .int .i64 b, .int .i64 v] 44)).alloc (.cells #[.int .i64 0, .int .i64 0, .int .i64 0, .int .i64 0, .int .i64 0, .int .i64 0] 44)).alloc (.cells #[.int .i64 k, .int .i64 h, .int .i64 0, .int .i64 0, .int .i64 0, .int .i64 0] 44) = w3 at *
  have c := fun o => Lib.cell_of_heap H2.out o
  go_wp2_with (refine wpList_store_row rfl 44 _ _ rfl (w.heap.size + 1) zeroU.cells rfl rfl 44 _ H3.out infoRule rfl (one6 _) ?_)
  have hl := cell_rule (u := zeroU) H3.out
  have hz := below_setRow H1.out (show w.heap.size ≤ w.heap.size + 1 by omega) zeroU.cells
  generalize World.setRow _ (w.heap.size + 1) zeroU.cells = wz at hl hz ⊢
  refine bodyPost_ret (v := .tuple #[.agg zeroU.cells, .bool false]) (by simp [results, Try.results48, go_sem, hl, Ru.cells]) rfl ⟨rfl, hz⟩
theorem bare_ (u : Ru) (w : World) : Calls Try.prog 48 #[u.val] w (BarePost u w) := by
  obtain ⟨k, h, x, a, b, v⟩ := u
  unfold BarePost bareU bareK Ru.val
  simp only
  by_cases h1 : k = 1
  · subst h1; exact bare1 h x a b v w
  · by_cases h4 : k = 4
    · subst h4; exact bare4 h x a b v w
    · by_cases h3 : k = 3
      · subst h3; exact bare3 h x a b v w
      · by_cases h2 : k = 2
        · subst h2; exact bare2 h x a b v w
        · simp only [h1, h2, h3, h4, if_false, decide_false, Bool.false_or]
          exact bare0 k h x a b v h1 h2 h3 h4 w
theorem neG (k h x a b v k2 h2 x2 a2 b2 v2 : Int) (w : World) : (binOp .neq 44 (.agg #[.int .i64 k, .int .i64 h, .int .i64 x, .int .i64 a, .int .i64 b, .int .i64 v]) (.agg #[.int .i64 k2, .int .i64 h2, .int .i64 x2, .int .i64 a2, .int .i64 b2, .int .i64 v2])).run Try.prog w = .ok (.bool (!decide ((⟨k, h, x, a, b, v⟩ : Ru) = ⟨k2, h2, x2, a2, b2, v2⟩))) w := by
  simp only [go_sem, Ru.mk.injEq]
  go_simp
  by_cases e0 : k = k2
  rotate_left
  · simp [e0]
  subst e0
  by_cases e1 : h = h2
  rotate_left
  · simp [e1]
  subst e1
  by_cases e2 : x = x2
  rotate_left
  · simp [e2]
  subst e2
  by_cases e3 : a = a2
  rotate_left
  · simp [e3]
  subst e3
  by_cases e4 : b = b2
  rotate_left
  · simp [e4]
  subst e4
  by_cases e5 : v = v2
  rotate_left
  · simp [e5]
  subst e5
  simp
end Go.Proofs.Ytihhojgnilbfnaa.TblP
namespace Go.Proofs.Ytihhojgnilbfnaa.TblQ
open Go.RowKit Go.Lib Go.Proofs Go.Proofs.Ytihhojgnilbfnaa.Plain Go.Proofs.Ytihhojgnilbfnaa.TblB Go.Proofs.Ytihhojgnilbfnaa.TblC Go.Proofs.Ytihhojgnilbfnaa.TblP Go.Proofs.Ytihhojgnilbfnaa.TblF
set_option linter.unusedVariables false
set_option linter.unusedSimpArgs false
def rightU (n1 n2 : Nat) (u : Ru) : Bool := bareK u && (decide (bareU u = u) && (allB ((n1 * n2 : Nat) : Int) [u.head, u.a, u.b] && (allB n1 [u.who] && allB n2 [u.via])))
theorem nx {W w1 w2 : World} (h : RowKit.Below W.heap.size W w1) (hb : RowKit.Below w1.heap.size w1 w2) : RowKit.Below W.heap.size W w2 := h.trans (hb.mono h.size)
theorem belowL (w : World) (zs : List Int) (n : Int) (hT : zs.length ≤ 10000) : Calls Try.prog 49 #[.int .i64 n, .slice (some ⟨w.heap.size, 0, none⟩) zs.length zs.length] (w.alloc (.cells (zs.map fun z => Value.int .i64 z).toArray 3)) fun e w' => e = .returned (.bool (allB n zs)) ∧ RowKit.Below w.heap.size w w' := by
  refine (below (some ⟨w.heap.size, 0, none⟩) zs.length zs n (w.alloc (.cells (zs.map fun z => Value.int .i64 z).toArray 3)) hT (IG.lit _ w.heap.size zs 3 (heap_alloc_new w _))).mono ?_
  rintro e w' ⟨rfl, hb⟩
  exact ⟨rfl, nx ((Below.refl _ w).alloc (Nat.le_refl _) _) hb⟩
set_option maxHeartbeats 1000000 in
set_option maxRecDepth 100000 in
theorem right_ (n1 n2 : Nat) (u : Ru) (w : World) (g1 : n1 ≤ 1000) (g2 : n2 ≤ 1000) : Calls Try.prog 32 #[.int .i64 n1, .int .i64 n2, u.val] w fun e w' => e = .returned (.bool (rightU n1 n2 u)) ∧ RowKit.Below w.heap.size w w' := by
  have HB := Lib.hid (fun w' => bare_ u w')
  unfold BarePost at HB
  unfold rightU
  obtain ⟨k, h, x, a, b, v⟩ := u
  have hU : ∃ u2, bareU ⟨k, h, x, a, b, v⟩ = u2 := ⟨_, rfl⟩
  obtain ⟨⟨k', h', x', a', b', v'⟩, hU⟩ := hU
  rw [hU] at HB ⊢
  have hne := neG k' h' x' a' b' v' k h x a b v
  generalize bareK _ = bk at *
  generalize decide ((⟨k', h', x', a', b', v'⟩ : Ru) = ⟨k, h, x, a, b, v⟩) = dd at *
  unfold Ru.val at *
  simp only [Ru.cells] at HB ⊢
  have hb0 : allB 1001 [(n1 : Int), (n2 : Int)] = true := by simp [allB, inB]; omega
  have HL0 := Lib.hid (fun w' => belowL w' [(n1 : Int), (n2 : Int)] 1001 (by simp))
  have HL1 := Lib.hid (fun w' => belowL w' [h, a, b] ((n1 * n2 : Nat) : Int) (by simp))
  have HL2 := Lib.hid (fun w' => belowL w' [x] (n1 : Int) (by simp))
  have HL3 := Lib.hid (fun w' => belowL w' [v] (n2 : Int) (by simp))
  rw [hb0] at HL0
  have hq : n1 * n2 ≤ 1000000 := Nat.mul_le_mul g1 g2
  have hmul : IntKind.i64.wrap ((n1 : Int) * (n2 : Int)) = ((n1 * n2 : Nat) : Int) := by
    rw [← Int.natCast_mul, IntKind.wrap_i64]; omega
  generalize allB _ [h, a, b] = b1 at *
  generalize allB _ [x] = b2 at *
  generalize allB _ [v] = b3 at *
  generalize n1 * n2 = q at *
  simp only [List.length_cons, List.length_nil, Nat.zero_add, Nat.reduceAdd, List.map_cons, List.map_nil] at HL0 HL1 HL2 HL3
  clear hU hb0 hq g1 g2
  go_enter Try.func32, Try.ntmps32
  go_wp2_with fail
  refine (HB.out _).mono ?_
  rintro e w1 ⟨rfl, hb⟩
  have hx1 : w1.heap[w.heap.size]? = some (.cells #[.int .i64 k, .int .i64 h, .int .i64 x, .int .i64 a, .int .i64 b, .int .i64 v] 44 (0, 0)) := (hb.block _ (by simp)).trans (heap_alloc_new w _)
  have hlt1 : w.heap.size < w1.heap.size := (Array.getElem?_eq_some_iff.1 hx1).1
  have hz1 : RowKit.Below w1.heap.size w1 (w1.alloc (.cells #[.int .i64 k', .int .i64 h', .int .i64 x', .int .i64 a', .int .i64 b', .int .i64 v'] 44)) := (Below.refl _ _).alloc (Nat.le_refl _) _
  have HX2 := Lib.hid ((hz1.block w.heap.size hlt1).trans hx1)
  have HY2 := Lib.hid (heap_alloc_new w1 (.cells #[.int .i64 k', .int .i64 h', .int .i64 x', .int .i64 a', .int .i64 b', .int .i64 v'] 44))
  have HB2 := Lib.hid (nx (nx ((Below.refl w.heap.size w).alloc (Nat.le_refl _) (.cells #[.int .i64 k, .int .i64 h, .int .i64 x, .int .i64 a, .int .i64 b, .int .i64 v] 44)) hb) hz1)
  clear hx1 hz1 hb HB
  go_upto_region 2 with fail
  generalize w1.alloc (.cells #[.int .i64 k', .int .i64 h', .int .i64 x', .int .i64 a', .int .i64 b', .int .i64 v'] 44) = w2 at *
  have c2 := fun o => Lib.cell_of_heap HX2.out o
  have d2 := fun o => Lib.cell_of_heap HY2.out o
  cases bk
  · clear HL0 HL1 HL2 HL3 c2 d2
    go_wp2_with fail
    go_ret
    exact ⟨rfl, HB2.out⟩
  cases dd
  · go_wp2_with fail
    go_ret
    exact ⟨rfl, HB2.out⟩
  go_wp2_with fail
  refine (HL0.out w2).mono ?_
  rintro e w3 ⟨rfl, hb⟩
  have HB3 := Lib.hid (nx HB2.out hb)
  have HX3 := Lib.hid ((hb.block w.heap.size (Array.getElem?_eq_some_iff.1 HX2.out).1).trans HX2.out)
  have c3 := fun o => Lib.cell_of_heap HX3.out o
  clear hb HB2 HX2 HY2 c2 d2 HL0 hne
  go_wp2_with fail
  refine (HL1.out w3).mono ?_
  rintro e w4 ⟨rfl, hb⟩
  have HB4 := Lib.hid (nx HB3.out hb)
  have HX4 := Lib.hid ((hb.block w.heap.size (Array.getElem?_eq_some_iff.1 HX3.out).1).trans HX3.out)
  have c4 := fun o => Lib.cell_of_heap HX4.out o
  clear hb HB3 HX3 c3 HL1
  cases b1
  · go_wp2_with fail
    go_ret
    exact ⟨rfl, HB4.out⟩
  go_wp2_with fail
  refine (HL2.out w4).mono ?_
  rintro e w5 ⟨rfl, hb⟩
  have HB5 := Lib.hid (nx HB4.out hb)
  have HX5 := Lib.hid ((hb.block w.heap.size (Array.getElem?_eq_some_iff.1 HX4.out).1).trans HX4.out)
  have c5 := fun o => Lib.cell_of_heap HX5.out o
  clear hb HB4 HX4 c4 HL2
  cases b2
  · go_wp2_with fail
    go_ret
    exact ⟨rfl, HB5.out⟩
  go_wp2_with fail
  refine (HL3.out w5).mono ?_
  rintro e w6 ⟨rfl, hb⟩
  have HB6 := Lib.hid (nx HB5.out hb)
  clear hb HB5 HX5 c5 HL3
  go_wp2_with fail
  go_ret
  exact ⟨rfl, HB6.out⟩
end Go.Proofs.Ytihhojgnilbfnaa.TblQ
/- Small laws that the texts on rules and models share, for a seat without sets. -/
namespace Go.Proofs.Ytihhojgnilbfnaa.TblP
set_option linter.unusedVariables false
set_option linter.unusedSimpArgs false
end Go.Proofs.Ytihhojgnilbfnaa.TblP
namespace Go.Proofs.Ytihhojgnilbfnaa.TblQ
end Go.Proofs.Ytihhojgnilbfnaa.TblQ
namespace Go.Proofs.Ytihhojgnilbfnaa.SetA
end Go.Proofs.Ytihhojgnilbfnaa.SetA
namespace Go.Proofs.Ytihhojgnilbfnaa.SetC
end Go.Proofs.Ytihhojgnilbfnaa.SetC
namespace Go.Proofs.Ytihhojgnilbfnaa.SetD
end Go.Proofs.Ytihhojgnilbfnaa.SetD
namespace Go.Proofs.Ytihhojgnilbfnaa.SetF
end Go.Proofs.Ytihhojgnilbfnaa.SetF
namespace Go.Proofs.Ytihhojgnilbfnaa.SetN
end Go.Proofs.Ytihhojgnilbfnaa.SetN
namespace Go.Proofs.Ytihhojgnilbfnaa.SetQ
open Go.RowKit Go.Lib Go.Proofs Go.Proofs.Ytihhojgnilbfnaa.Plain Go.Proofs.Ytihhojgnilbfnaa.TblB Go.Proofs.Ytihhojgnilbfnaa.TblC Go.Proofs.Ytihhojgnilbfnaa.TblF Go.Proofs.Ytihhojgnilbfnaa.TblV Go.Proofs.Ytihhojgnilbfnaa.TblP Go.Proofs.Ytihhojgnilbfnaa.TblQ Go.Proofs.Ytihhojgnilbfnaa.SetA Go.Proofs.Ytihhojgnilbfnaa.SetC Go.Proofs.Ytihhojgnilbfnaa.SetD Go.Proofs.Ytihhojgnilbfnaa.SetF Go.Proofs.Ytihhojgnilbfnaa.SetN
set_option linter.unusedVariables false
set_option linter.unusedSimpArgs false
def BoolPost (b : Bool) (w : World) (e : Ending) (w' : World) : Prop := e = .returned (.bool b) ∧ Below w.heap.size w w'
end Go.Proofs.Ytihhojgnilbfnaa.SetQ
namespace Go.Proofs.Ytihhojgnilbfnaa.SynC
open Go.RowKit Go.Lib Go.Proofs Go.Proofs.Ytihhojgnilbfnaa.Plain Go.Proofs.Ytihhojgnilbfnaa.TblB Go.Proofs.Ytihhojgnilbfnaa.TblC Go.Proofs.Ytihhojgnilbfnaa.TblF Go.Proofs.Ytihhojgnilbfnaa.TblV Go.Proofs.Ytihhojgnilbfnaa.TblP Go.Proofs.Ytihhojgnilbfnaa.TblQ Go.Proofs.Ytihhojgnilbfnaa.SetA Go.Proofs.Ytihhojgnilbfnaa.SetC Go.Proofs.Ytihhojgnilbfnaa.SetD Go.Proofs.Ytihhojgnilbfnaa.SetF Go.Proofs.Ytihhojgnilbfnaa.SetN Go.Proofs.Ytihhojgnilbfnaa.SetQ
set_option linter.unusedVariables false
set_option linter.unusedSimpArgs false
section
variable {P : Program} (w : World)
theorem run_append_from (base : Nat) (t ty e : TypeId) (i : TypeInfo) (z : Value) (size bytes : Nat) (ht : P.underlying t = some (.slice e)) (hi : P.info? e = some i) (hz : i.zero = some z)
    (hsize : i.size = size) (hby : i.bytes = bytes) (hzs : z.cells.size = size) (hsz : 0 < size) (v : Value) (n : Nat) (xs : List Value) (hown : w.ownsRow base e size v n xs)
    (A : Option Addr) (m c : Nat) (news : List Value) (hlen : news.length = m * size) (h0 : A = none → m = 0) (hA : ∀ ad, A = some ad → ∀ j u, news[j]? = some u → w.cell? (ad.add j) = some u) (h1 : ∀ u ∈ news, u.oneCell' = true)
    (h63 : n + m ≤ maxLen) (hbytes : (n + m) * bytes ≤ 140737488355328) (hbase : base ≤ w.heap.size) :
    ∃ v' w', (Builtin.append_ #[t, t] ty #[v, .slice A m c]).run P w = .ok v' w' ∧ w'.ownsRow base e size v' (n + m) (xs ++ news) ∧ w.grownBy w' v.ownBlock := by
  cases A with
  | none =>
    have hm := h0 rfl
    subst hm
    have hn : news = [] := List.eq_nil_of_length_eq_zero (by omega)
    subst hn
    refine ⟨v, w, ?_, by simpa using hown, World.grownBy.refl w _⟩
    rcases hown.2 with ⟨rfl, rfl⟩ | ⟨g, cap, cur, rfl, _, _, hnc, _⟩
    · simp [Builtin.append_, run_underlying ht, sizeOf, typeInfo, hi, Builtin.lenOf, Builtin.firstCells]
    · simp [Builtin.append_, run_underlying ht, sizeOf, typeInfo, hi, Builtin.lenOf, Builtin.firstCells, hnc, storeCells]
  | some ad =>
    obtain ⟨v', w', hrun, h2, h3, _⟩ := run_append_own (P := P) w base t ty e i z size bytes ht hi hz hsize hby hzs hsz v n xs hown ad m c news hlen (hA ad rfl) h1 h63 hbytes hbase
    exact ⟨v', w', hrun, h2, h3⟩
end
end Go.Proofs.Ytihhojgnilbfnaa.SynC
namespace Go.Proofs.Ytihhojgnilbfnaa.SetB
open Go.RowKit Go.Lib Go.Proofs Go.Proofs.Ytihhojgnilbfnaa.Plain Go.Proofs.Ytihhojgnilbfnaa.TblB Go.Proofs.Ytihhojgnilbfnaa.TblC Go.Proofs.Ytihhojgnilbfnaa.TblF Go.Proofs.Ytihhojgnilbfnaa.TblV Go.Proofs.Ytihhojgnilbfnaa.TblP Go.Proofs.Ytihhojgnilbfnaa.TblQ Go.Proofs.Ytihhojgnilbfnaa.SetA Go.Proofs.Ytihhojgnilbfnaa.SetC Go.Proofs.Ytihhojgnilbfnaa.SetD Go.Proofs.Ytihhojgnilbfnaa.SetF Go.Proofs.Ytihhojgnilbfnaa.SetN Go.Proofs.Ytihhojgnilbfnaa.SetQ Go.Proofs.Ytihhojgnilbfnaa.SynC
set_option linter.unusedVariables false
set_option linter.unusedSimpArgs false
theorem ret_bool {a b : Bool} (h : a = b) : Ending.returned (.bool a) = .returned (.bool b) := by rw [h]
theorem grew_set (w : World) (a : Addr) (v : Value) : w.grownBy (w.setCell a v) (some a.block) := ⟨rfl, rfl, rfl, by simp [World.setCell], fun k hk hne => Below.heap_setCell _ _ _ _ (fun e => hne (by rw [e]))⟩
theorem still_tail {P : Program} {id : Nat} {Q : Exit → Act → World → Prop} {a : Act} {w : World} {l : List Oper} (n : Nat) (hm : P.follows .mixedOrders = true) (hB : Region.lexTailB .any l.toArray n = true)
    (h : wpStill P l.toArray w.drew (fun a' => wpList P l.toArray Q (l.drop n) a' w.drew) (l.take n) a) : (Code.region id l.toArray true).wp P Q a w := wp_region_still_tail n hm hB h
theorem grew_drewN (w : World) (q : Nat) (row : Option Nat) : w.grownBy (w.drewN q) row := ⟨rfl, rfl, rfl, Nat.le_refl _, fun _ _ _ => rfl⟩
end Go.Proofs.Ytihhojgnilbfnaa.SetB
namespace Go.Proofs.Ytihhojgnilbfnaa.SetJ
open Go.RowKit Go.Lib Go.Proofs Go.Proofs.Ytihhojgnilbfnaa.Plain Go.Proofs.Ytihhojgnilbfnaa.TblB Go.Proofs.Ytihhojgnilbfnaa.TblC Go.Proofs.Ytihhojgnilbfnaa.TblF Go.Proofs.Ytihhojgnilbfnaa.TblV Go.Proofs.Ytihhojgnilbfnaa.TblP Go.Proofs.Ytihhojgnilbfnaa.TblQ Go.Proofs.Ytihhojgnilbfnaa.SetA Go.Proofs.Ytihhojgnilbfnaa.SetC Go.Proofs.Ytihhojgnilbfnaa.SetD Go.Proofs.Ytihhojgnilbfnaa.SetF Go.Proofs.Ytihhojgnilbfnaa.SetN Go.Proofs.Ytihhojgnilbfnaa.SetQ Go.Proofs.Ytihhojgnilbfnaa.SynC Go.Proofs.Ytihhojgnilbfnaa.SetB
set_option linter.unusedVariables false
set_option linter.unusedSimpArgs false
/-- Numbers as cells. -/
def encK (l : List Nat) : List Value := l.map fun n : Nat => Value.int .i64 n
theorem encK_snoc (l : List Nat) (n : Nat) : encK (l ++ [n]) = encK l ++ [.int .i64 n] := by unfold encK; simp
theorem encK_len (l : List Nat) : (encK l).length = l.length := by unfold encK; simp
theorem infoInt : (Try.prog.info? 3).map (fun i => (i.zero, i.size, i.bytes)) = some (some (.int .i64 0), 1, 8) := by kernel_rfl
theorem new_cell1 (w : World) (a : Value) (t : TypeId) : ∀ j u, [a][j]? = some u → (w.alloc (.cells #[a] t)).cell? ((⟨w.heap.size, 0, none⟩ : Addr).add j) = some u := by
  intro j u hu
  have h : (w.alloc (.cells #[a] t)).cell? ⟨w.heap.size, j, none⟩ = #[a][j]? := Lib.cell_of_heap (heap_alloc_new w _) j
  have e : ((⟨w.heap.size, 0, none⟩ : Addr).add j) = ⟨w.heap.size, j, none⟩ := by
    unfold Addr.add
    split
    · rename_i h0; rw [h0]
    · simp
  rw [e, h, ← hu]
  simp
theorem below_own {a w w1 : World} {e : TypeId} {size n : Nat} {v : Value} {xs : List Value} {o : Obj} (hb : Below a.heap.size a w) (hown : w.ownsRow a.heap.size e size v n xs) (hg : (w.alloc o).grownBy w1 v.ownBlock) : Below a.heap.size a w1 :=
  (hb.alloc hb.size o).grown hg (by have := hb.size; simp; omega) (fun k hk => (hown.lt k hk).1)
def ListPost (L : List Nat) (w : World) (e : Ending) (w' : World) : Prop := ∃ v, e = .returned v ∧ w'.ownsRow w.heap.size 3 1 v L.length (encK L) ∧ Below w.heap.size w w'
end Go.Proofs.Ytihhojgnilbfnaa.SetJ
namespace Go.Proofs.Ytihhojgnilbfnaa.SetR
open Go.RowKit Go.Lib Go.Proofs Go.Proofs.Ytihhojgnilbfnaa.Plain Go.Proofs.Ytihhojgnilbfnaa.TblB Go.Proofs.Ytihhojgnilbfnaa.TblC Go.Proofs.Ytihhojgnilbfnaa.TblF Go.Proofs.Ytihhojgnilbfnaa.TblV Go.Proofs.Ytihhojgnilbfnaa.TblP Go.Proofs.Ytihhojgnilbfnaa.TblQ Go.Proofs.Ytihhojgnilbfnaa.SetA Go.Proofs.Ytihhojgnilbfnaa.SetC Go.Proofs.Ytihhojgnilbfnaa.SetD Go.Proofs.Ytihhojgnilbfnaa.SetF Go.Proofs.Ytihhojgnilbfnaa.SetN Go.Proofs.Ytihhojgnilbfnaa.SetQ Go.Proofs.Ytihhojgnilbfnaa.SynC Go.Proofs.Ytihhojgnilbfnaa.SetB Go.Proofs.Ytihhojgnilbfnaa.SetJ
set_option linter.unusedVariables false
set_option linter.unusedSimpArgs false
theorem own_below {w w' : World} {B n : Nat} {e : TypeId} {k : Nat} {v : Value} {xs : List Value} (h : w.ownsRow B e k v n xs) (hb : Below w.heap.size w w') : w'.ownsRow B e k v n xs :=
  h.kept (World.grownBy.mk hb.os hb.tape hb.output hb.size (fun k hk _ => hb.block k hk) : w.grownBy w' none) (by cases hv : v.ownBlock <;> simp)
/-- A slice value that reads as numbers, wherever it lies. -/
def NG (w : World) (A : Option Addr) (L : List Nat) : Prop :=
  0 < L.length → ∃ g o, A = some ⟨g, o, none⟩ ∧ g < w.heap.size ∧ ∀ j, (h : j < L.length) → w.cell? ⟨g, o + j, none⟩ = some (.int .i64 L[j])
theorem NG.below {w w' : World} {A : Option Addr} {L : List Nat} (h : NG w A L) (hb : Below w.heap.size w w') : NG w' A L := fun hp => by
  obtain ⟨g, o, hA, hg, hc⟩ := h hp
  exact ⟨g, o, hA, Nat.lt_of_lt_of_le hg hb.size, fun j hj => (hb.cell (p := ⟨g, o + j, none⟩) hg).trans (hc j hj)⟩
theorem ng_own {w : World} {B : Nat} {v : Value} {L : List Nat} {t : TypeId} (h : w.ownsRow B t 1 v L.length (encK L)) : ∃ A ca, v = .slice A L.length ca ∧ NG w A L := by
  have h0 := h
  rcases h.2 with ⟨rfl, hn⟩ | ⟨g, cap, cur, rfl, hb, hg, _⟩
  · exact ⟨none, 0, by rw [hn], fun hp => by omega⟩
  · refine ⟨_, cap, rfl, fun hp => ⟨g, 0, rfl, (Array.getElem?_eq_some_iff.1 hg).1, fun j hj => ?_⟩⟩
    have k := h0.cells (g := g) rfl j (.int .i64 L[j]) (by unfold encK; simp [List.getElem?_eq_getElem hj])
    have e : ((⟨g, 0, none⟩ : Addr).add j) = ⟨g, j, none⟩ := by unfold Addr.add; split <;> simp_all
    rw [e] at k
    rw [Nat.zero_add]
    exact k
set_option maxHeartbeats 1000000 in
set_option maxRecDepth 100000 in
theorem sameL (A B : Option Addr) (ca cb : Nat) (L : List Nat) (w : World) (hL : L.length ≤ 10000) (hA : NG w A L) (hB : NG w B L) : Calls Try.prog 12 #[.slice A L.length ca, .slice B L.length cb] w (BoolPost true w) := by
  unfold BoolPost
  have HA := Lib.hid hA
  have HB := Lib.hid hB
  clear hA hB
  go_enter Try.func12, Try.ntmps12
  go_wp2_with fail
  go_loopw [13] (fun i wr => ∃ j : Nat, j ≤ L.length ∧ i = .int .i64 j ∧ Below w.heap.size w wr) (fun i _ => L.length - (intOf i).toNat)
  case atStart => exact ⟨0, by omega, rfl, Below.refl _ _⟩
  case round =>
    obtain ⟨j, hj, rfl, hb⟩ := hrel
    by_cases hlt : j < L.length
    · have d1 : decide ((j : Int) < L.length) = true := by simp; omega
      have p0 : (0 : Int) ≤ j := by omega
      have p1 : (j : Int) < L.length := by omega
      obtain ⟨g, o, rfl, hg, hcell⟩ := (HA.out.below hb) (by omega)
      obtain ⟨g2, o2, rfl, hg2, hcell2⟩ := (HB.out.below hb) (by omega)
      have a1 := hcell j hlt
      have a2 := hcell2 j hlt
      have HBk := Lib.hid hb
      clear hcell hcell2 hb
      generalize L[j] = x at *
      have e1 : ((x : Int) != (x : Int)) = false := by simp
      go_wp2_with fail
      go_quiet (fail)
      go_wp2_with fail
      go_roundw
      case rel => exact ⟨j + 1, by omega, by go_num, below_drewN HBk.out _⟩
      case measure => simp [intOf]; omega
    · have d1 : decide ((j : Int) < L.length) = false := by simp; omega
      have HBk := Lib.hid hb
      clear hb
      go_wp2_with fail
      go_ret
      exact ⟨rfl, HBk.out⟩
/-- The block of a row that was appended to: the old one, or one that is new. -/
def Moves (w : World) (b b' : Option Nat) : Prop := b' = b ∨ ∃ g, b' = some g ∧ w.heap.size ≤ g
section
variable {P : Program} (w : World)
theorem wpList_append_at {ops : Array Oper} {rest : List Oper} {o : Oper} {a : Act} {Q : Exit → Act → World → Prop} (hgd : o.guard = none) (s x : Operand) (t : TypeId)
    (ho : o.op = .call { callee := .builtin .append, args := #[s, x], argTypes := #[t, t] })
    (base : Nat) (e : TypeId) (i : TypeInfo) (z : Value) (size bytes : Nat) (ht : P.underlying t = some (.slice e)) (hi : P.info? e = some i) (hz : i.zero = some z)
    (hsize : i.size = size) (hby : i.bytes = bytes) (hzs : z.cells.size = size) (hsz : 0 < size) (v : Value) (n : Nat) (xs : List Value) (hs : a.eval s = v) (hown : w.ownsRow base e size v n xs)
    (ad : Addr) (m c : Nat) (news : List Value) (hx : a.eval x = .slice (some ad) m c) (hlen : news.length = m * size) (hA : ∀ ad', some ad = some ad' → ∀ j u, news[j]? = some u → w.cell? (ad'.add j) = some u) (h1 : ∀ u ∈ news, u.oneCell' = true)
    (h63 : n + m ≤ maxLen) (hbytes : (n + m) * bytes ≤ 140737488355328) (hbase : base ≤ w.heap.size)
    (h : ∀ v' w', w'.ownsRow base e size v' (n + m) (xs ++ news) → w.grownBy w' v.ownBlock → Moves w v.ownBlock v'.ownBlock → wpList P ops Q rest (a.put o.dst v') w') : wpList P ops Q (o :: rest) a w := by
  obtain ⟨v', w', hrun, h2, h3, _, h5⟩ := run_append_own_at (P := P) w base t o.type e i z size bytes ht hi hz hsize hby hzs hsz v n xs hown ad m c news hlen (hA ad rfl) h1 h63 hbytes hbase
  refine Lib.wpList_append_run w hgd s x t t ho v _ hs hx v' w' hrun (h v' w' h2 h3 ?_)
  rcases h5 with h | h
  · exact .inl h
  · exact .inr ⟨_, h, Nat.le_refl _⟩
end
end Go.Proofs.Ytihhojgnilbfnaa.SetR
namespace Go.Proofs.Ytihhojgnilbfnaa.SemA
open Go.RowKit Go.Lib Go.Proofs Go.Proofs.Ytihhojgnilbfnaa.Plain Go.Proofs.Ytihhojgnilbfnaa.TblB Go.Proofs.Ytihhojgnilbfnaa.TblC Go.Proofs.Ytihhojgnilbfnaa.TblF Go.Proofs.Ytihhojgnilbfnaa.TblV Go.Proofs.Ytihhojgnilbfnaa.TblP Go.Proofs.Ytihhojgnilbfnaa.TblQ Go.Proofs.Ytihhojgnilbfnaa.SetA Go.Proofs.Ytihhojgnilbfnaa.SetC Go.Proofs.Ytihhojgnilbfnaa.SetD Go.Proofs.Ytihhojgnilbfnaa.SetF Go.Proofs.Ytihhojgnilbfnaa.SetN Go.Proofs.Ytihhojgnilbfnaa.SetQ Go.Proofs.Ytihhojgnilbfnaa.SynC Go.Proofs.Ytihhojgnilbfnaa.SetB Go.Proofs.Ytihhojgnilbfnaa.SetJ Go.Proofs.Ytihhojgnilbfnaa.SetR
set_option linter.unusedVariables false
set_option linter.unusedSimpArgs false
abbrev Pr := Int × Int
/-- Who is in which role, by rules. -/
inductive Der (K : Nat) (L : List Ru) : Int → Int → Prop
  | mem (u : Ru) : u ∈ L → u.kind = 1 → Der K L u.head u.who
  | incl (u : Ru) (x : Int) : u ∈ L → u.kind = 2 → Der K L u.a x → Der K L u.head x
  | link (u : Ru) (x y : Int) : u ∈ L → u.kind = 3 → Der K L u.a x → Der K L (x * K + u.via) y → Der K L u.head y
  | both (u : Ru) (x : Int) : u ∈ L → u.kind = 4 → Der K L u.a x → Der K L u.b x → Der K L u.head x
theorem Der.mono {K : Nat} {L L' : List Ru} (h : ∀ u ∈ L, u ∈ L') {r x : Int} (d : Der K L r x) : Der K L' r x := by
  induction d with
  | mem u hu hk => exact .mem u (h u hu) hk
  | incl u x hu hk _ ih => exact .incl u x (h u hu) hk ih
  | link u x y hu hk _ _ i1 i2 => exact .link u x y (h u hu) hk i1 i2
  | both u x hu hk _ _ i1 i2 => exact .both u x (h u hu) hk i1 i2
theorem sum_sub {α : Type} [DecidableEq α] (f : α → Nat) : ∀ (l m : List α), l.Nodup → (∀ x ∈ l, x ∈ m) → (l.map f).sum ≤ (m.map f).sum
  | [], m, _, _ => by simp
  | x :: l, m, hn, hs => by
    have hx := hs x (by simp)
    rw [List.nodup_cons] at hn
    have := sum_sub f l (m.erase x) hn.2 fun y hy => by
      have hne : y ≠ x := fun e => hn.1 (e ▸ hy)
      exact (List.mem_erase_of_ne hne).2 (hs y (by simp [hy]))
    have hp := ((List.perm_cons_erase hx).map f).sum_nat
    rw [hp, List.map_cons, List.map_cons, List.sum_cons, List.sum_cons]
    omega
def grid (n P : Nat) : List Pr := (List.range n).flatMap fun r : Nat => (List.range P).map fun x : Nat => ((r : Int), (x : Int))
end Go.Proofs.Ytihhojgnilbfnaa.SemA
namespace Go.Proofs.Ytihhojgnilbfnaa.SemB
open Go.RowKit Go.Lib Go.Proofs Go.Proofs.Ytihhojgnilbfnaa.Plain Go.Proofs.Ytihhojgnilbfnaa.TblB Go.Proofs.Ytihhojgnilbfnaa.TblC Go.Proofs.Ytihhojgnilbfnaa.TblF Go.Proofs.Ytihhojgnilbfnaa.TblV Go.Proofs.Ytihhojgnilbfnaa.TblP Go.Proofs.Ytihhojgnilbfnaa.TblQ Go.Proofs.Ytihhojgnilbfnaa.SetA Go.Proofs.Ytihhojgnilbfnaa.SetC Go.Proofs.Ytihhojgnilbfnaa.SetD Go.Proofs.Ytihhojgnilbfnaa.SetF Go.Proofs.Ytihhojgnilbfnaa.SetN Go.Proofs.Ytihhojgnilbfnaa.SetQ Go.Proofs.Ytihhojgnilbfnaa.SynC Go.Proofs.Ytihhojgnilbfnaa.SetB Go.Proofs.Ytihhojgnilbfnaa.SetJ Go.Proofs.Ytihhojgnilbfnaa.SetR Go.Proofs.Ytihhojgnilbfnaa.SemA
set_option linter.unusedVariables false
set_option linter.unusedSimpArgs false
theorem lt_of {w : World} {g : Nat} {o : Obj} (h : w.heap[g]? = some o) : g < w.heap.size := (Array.getElem?_eq_some_iff.1 h).1
theorem ne_of_type {w : World} {a b : Nat} {x y : Array Value} {t t' : TypeId} {f f' : Nat × Nat} (h : w.heap[a]? = some (.cells x t f)) (h' : w.heap[b]? = some (.cells y t' f')) (hne : t ≠ t') : a ≠ b := by
  rintro rfl
  rw [h] at h'
  injection h' with h'
  injection h' with _ h2
  exact hne h2
theorem own_blk {w : World} {B : Nat} {e : TypeId} {size n : Nat} {v : Value} {xs : List Value} (h : w.ownsRow B e size v n xs) {g : Nat} (hg : v.ownBlock = some g) : B ≤ g ∧ ∃ cur, w.heap[g]? = some (.cells cur e (0, 0)) := by
  rcases h.2 with ⟨rfl, _⟩ | ⟨g', cap, cur, rfl, hB, hh, _⟩
  · simp [Value.ownBlock] at hg
  · simp [Value.ownBlock] at hg
    subst hg
    exact ⟨hB, cur, hh⟩
theorem own_keep {w w' : World} {B : Nat} {e : TypeId} {size n : Nat} {v : Value} {xs : List Value} (h : w.ownsRow B e size v n xs) (hk : ∀ g, v.ownBlock = some g → w'.heap[g]? = w.heap[g]?) : w'.ownsRow B e size v n xs := by
  refine ⟨h.1, ?_⟩
  rcases h.2 with h0 | ⟨g, cap, cur, rfl, hB, hh, hc⟩
  · exact .inl h0
  · exact .inr ⟨g, cap, cur, rfl, hB, (hk g rfl).trans hh, hc⟩
/-- One block was stored into. -/
theorem set_other (w : World) (b i : Nat) (v : Value) {g : Nat} (h : g ≠ b) : (w.setCell ⟨b, i, none⟩ v).heap[g]? = w.heap[g]? := Below.heap_setCell _ _ _ _ (fun e => h (by rw [e]))
end Go.Proofs.Ytihhojgnilbfnaa.SemB
namespace Go.Proofs.Ytihhojgnilbfnaa.SemC
open Go.RowKit Go.Lib Go.Proofs Go.Proofs.Ytihhojgnilbfnaa.Plain Go.Proofs.Ytihhojgnilbfnaa.TblB Go.Proofs.Ytihhojgnilbfnaa.TblC Go.Proofs.Ytihhojgnilbfnaa.TblF Go.Proofs.Ytihhojgnilbfnaa.TblV Go.Proofs.Ytihhojgnilbfnaa.TblP Go.Proofs.Ytihhojgnilbfnaa.TblQ Go.Proofs.Ytihhojgnilbfnaa.SetA Go.Proofs.Ytihhojgnilbfnaa.SetC Go.Proofs.Ytihhojgnilbfnaa.SetD Go.Proofs.Ytihhojgnilbfnaa.SetF Go.Proofs.Ytihhojgnilbfnaa.SetN Go.Proofs.Ytihhojgnilbfnaa.SetQ Go.Proofs.Ytihhojgnilbfnaa.SynC Go.Proofs.Ytihhojgnilbfnaa.SetB Go.Proofs.Ytihhojgnilbfnaa.SetJ Go.Proofs.Ytihhojgnilbfnaa.SetR Go.Proofs.Ytihhojgnilbfnaa.SemA Go.Proofs.Ytihhojgnilbfnaa.SemB
set_option linter.unusedVariables false
set_option linter.unusedSimpArgs false
section
variable {P : Program} (w : World)
/-- append where there is room, to a slice that begins within its block. -/
theorem run_append_room_off (t ty e : TypeId) (i : TypeInfo) (ht : P.underlying t = some (.slice e)) (hi : P.info? e = some i)
    (g o sLen sCap : Nat) (cur : Array Value) (hg : w.heap[g]? = some (.cells cur e (0, 0)))
    (a : Addr) (m c : Nat) (news : List Value) (hl : news.length = m * i.size) (hnews : ∀ j u, news[j]? = some u → w.cell? (a.add j) = some u) (h1 : ∀ u ∈ news, u.oneCell' = true)
    (hroom : sLen + m ≤ sCap) (hfit : o + sLen * i.size + news.length ≤ cur.size) :
    (Builtin.append_ #[t, t] ty #[.slice (some ⟨g, o, none⟩) sLen sCap, .slice (some a) m c]).run P w =
      .ok (.slice (some ⟨g, o, none⟩) (sLen + m) sCap) (w.setRow g (cur.toList.take (o + sLen * i.size) ++ news ++ cur.toList.drop (o + sLen * i.size + news.length)).toArray) := by
  have hf := run_firstCells_some (P := P) w i.size m a m c news hl hnews
  have hst := run_storeCells_at P g (o + sLen * i.size) e news 0 cur w hg (by simpa using hfit) h1
  simp only [Nat.add_zero] at hst
  simp [Builtin.append_, run_underlying ht, sizeOf, typeInfo, hi, Builtin.lenOf, hroom, hf, Addr.add_lit, hst]
end
theorem infoRu : (Try.prog.info? 44).map (fun i => (i.zero, i.size, i.bytes)) = some (some zeroU.val, 6, 48) := by kernel_rfl
theorem add_off (g o j : Nat) : (⟨g, o, none⟩ : Addr).add j = ⟨g, o + j, none⟩ := by
  unfold Addr.add
  split <;> simp_all
theorem mid_two (A B : List Value) (x y : Value) {i : Nat} (h : A.length = i) : (A ++ ([x, y] ++ B))[i]? = some x ∧ (A ++ ([x, y] ++ B))[i + 1]? = some y := by
  subst h
  constructor
  · rw [List.getElem?_append_right (Nat.le_refl _)]; simp
  · rw [List.getElem?_append_right (by omega)]; simp
/-- Blocks of other types stay as they were. -/
def Chg (w w' : World) (ts : List TypeId) : Prop := w.heap.size ≤ w'.heap.size ∧ ∀ (b : Nat) (x : Array Value) (t : TypeId) (f : Nat × Nat), w.heap[b]? = some (.cells x t f) → t ∉ ts → w'.heap[b]? = some (.cells x t f)
theorem Chg.below {w w' : World} (h : Below w.heap.size w w') (ts : List TypeId) : Chg w w' ts := ⟨h.size, fun b x t f hx _ => (h.block b (lt_of hx)).trans hx⟩
theorem Chg.trans {a b c : World} {ts : List TypeId} (h : Chg a b ts) (k : Chg b c ts) : Chg a c ts := ⟨Nat.le_trans h.1 k.1, fun b x t f hx hn => k.2 b x t f (h.2 b x t f hx hn) hn⟩
theorem Chg.more {a b : World} {ts us : List TypeId} (h : Chg a b ts) (hs : ∀ t ∈ ts, t ∈ us) : Chg a b us := ⟨h.1, fun b x t f hx hn => h.2 b x t f hx fun hm => hn (hs t hm)⟩
theorem Chg.set {w : World} {ts : List TypeId} {b i : Nat} {v : Value} {y : Array Value} {t : TypeId} {f : Nat × Nat} (h : w.heap[b]? = some (.cells y t f)) (ht : t ∈ ts) : Chg w (w.setCell ⟨b, i, none⟩ v) ts :=
  ⟨by simp [World.setCell], fun c x t2 f2 hx hn => (set_other w _ _ _ (ne_of_type hx h (fun e => hn (e ▸ ht)))).trans hx⟩
theorem Chg.grown {w w' : World} {ts : List TypeId} {r : Option Nat} (hg : w.grownBy w' r) (h : ∀ g, r = some g → ∃ y t f, w.heap[g]? = some (.cells y t f) ∧ t ∈ ts) : Chg w w' ts :=
  ⟨hg.size, fun b x t f hx hn => (hg.block b (lt_of hx) (fun e => by
    obtain ⟨y, t2, f2, hy, ht⟩ := h b e.symm
    exact ne_of_type hy hx (fun e => hn (e ▸ ht)) rfl)).trans hx⟩
end Go.Proofs.Ytihhojgnilbfnaa.SemC
namespace Go.Proofs.Ytihhojgnilbfnaa.SemD
open Go.RowKit Go.Lib Go.Proofs Go.Proofs.Ytihhojgnilbfnaa.Plain Go.Proofs.Ytihhojgnilbfnaa.TblB Go.Proofs.Ytihhojgnilbfnaa.TblC Go.Proofs.Ytihhojgnilbfnaa.TblF Go.Proofs.Ytihhojgnilbfnaa.TblV Go.Proofs.Ytihhojgnilbfnaa.TblP Go.Proofs.Ytihhojgnilbfnaa.TblQ Go.Proofs.Ytihhojgnilbfnaa.SetA Go.Proofs.Ytihhojgnilbfnaa.SetC Go.Proofs.Ytihhojgnilbfnaa.SetD Go.Proofs.Ytihhojgnilbfnaa.SetF Go.Proofs.Ytihhojgnilbfnaa.SetN Go.Proofs.Ytihhojgnilbfnaa.SetQ Go.Proofs.Ytihhojgnilbfnaa.SynC Go.Proofs.Ytihhojgnilbfnaa.SetB Go.Proofs.Ytihhojgnilbfnaa.SetJ Go.Proofs.Ytihhojgnilbfnaa.SetR Go.Proofs.Ytihhojgnilbfnaa.SemA Go.Proofs.Ytihhojgnilbfnaa.SemB Go.Proofs.Ytihhojgnilbfnaa.SemC
set_option linter.unusedVariables false
set_option linter.unusedSimpArgs false
/-- What a row that was appended to leaves of its old block. -/
def Old (w w' : World) (v : Value) (m : Nat) (e : TypeId) : Prop := ∀ g, v.ownBlock = some g → (∃ cur, w'.heap[g]? = some (.cells cur e (0, 0))) ∧ ∀ j, j < m → w'.cell? ⟨g, j, none⟩ = w.cell? ⟨g, j, none⟩
section
variable {P : Program} (w : World)
theorem run_append_own_k (base : Nat) (t ty e : TypeId) (i : TypeInfo) (z : Value) (size bytes : Nat) (ht : P.underlying t = some (.slice e)) (hi : P.info? e = some i) (hz : i.zero = some z)
    (hsize : i.size = size) (hby : i.bytes = bytes) (hzs : z.cells.size = size) (hsz : 0 < size) (v : Value) (n : Nat) (xs : List Value) (hown : w.ownsRow base e size v n xs)
    (ad : Addr) (m c : Nat) (news : List Value) (hl : news.length = m * size) (hnews : ∀ j u, news[j]? = some u → w.cell? (ad.add j) = some u) (h1 : ∀ u ∈ news, u.oneCell' = true)
    (h63 : n + m ≤ maxLen) (hbytes : (n + m) * bytes ≤ 140737488355328) (hbase : base ≤ w.heap.size) :
    ∃ v' w', (Builtin.append_ #[t, t] ty #[v, .slice (some ad) m c]).run P w = .ok v' w' ∧ w'.ownsRow base e size v' (n + m) (xs ++ news) ∧ w.grownBy w' v.ownBlock ∧ Moves w v.ownBlock v'.ownBlock ∧ Old w w' v (n * size) e := by
  obtain ⟨v', w', hr, h2, h3, _, h5⟩ := run_append_own_at (P := P) w base t ty e i z size bytes ht hi hz hsize hby hzs hsz v n xs hown ad m c news hl hnews h1 h63 hbytes hbase
  have hm : Moves w v.ownBlock v'.ownBlock := by
    rcases h5 with h | h
    · exact .inl h
    · exact .inr ⟨_, h, Nat.le_refl _⟩
  refine ⟨v', w', hr, h2, h3, hm, fun g hg => ?_⟩
  have hx := hown.1
  have hold := hown.cells hg
  rcases hown.2 with ⟨rfl, _⟩ | ⟨g', cap, cur, rfl, hbg, hgg, hnc, hcm, hcs, htake⟩
  · simp [Value.ownBlock] at hg
  simp [Value.ownBlock] at hg
  subst hg
  have hfit : n * i.size + news.length ≤ cur.size ∨ cap < n + m := by
    by_cases hroom : n + m ≤ cap
    · left; rw [hsize, hl, hcs, ← Nat.add_mul]; exact Nat.mul_le_mul_right _ hroom
    · exact .inr (by omega)
  by_cases hroom : n + m ≤ cap
  · have hr2 := run_append_room (P := P) w t ty e i ht hi g' n cap cur hgg ad m c news (by rw [hsize]; exact hl) hnews h1 hroom (by rcases hfit with h | h; exact h; omega)
    rw [hr] at hr2
    injection hr2 with e1 e2
    subst e1
    refine ⟨(own_blk h2 rfl).2, fun j hj => ?_⟩
    have hj2 : j < xs.length := by rw [hx]; exact hj
    have hc2 := h2.cells (g := g') rfl j xs[j] (by rw [List.getElem?_append_left hj2]; exact List.getElem?_eq_getElem hj2)
    have hc1 := hold j xs[j] (List.getElem?_eq_getElem hj2)
    rw [add_off, Nat.zero_add] at hc1 hc2
    rw [hc1, hc2]
  · have holds : ∀ j u, xs[j]? = some u → w.cell? ((⟨g', 0, none⟩ : Addr).add j) = some u := hold
    have hr2 := run_append_grow (P := P) w t ty e i z ht hi hz ⟨g', 0, none⟩ n cap xs (by rw [hsize]; exact hx) holds ad m c news (by rw [hsize]; exact hl) hnews (by omega) (by simp only [maxLen] at h63; omega) (growslice_fits (by omega) (by rw [hby]; exact hbytes))
    rw [hr] at hr2
    injection hr2 with e1 e2
    have hlt := lt_of hgg
    have hh : w'.heap[g']? = w.heap[g']? := by rw [e2]; exact heap_alloc_old w.drew _ hlt
    exact ⟨⟨cur, hh.trans hgg⟩, fun j hj => by rw [Lib.cell_of_heap (hh.trans hgg), Lib.cell_of_heap hgg]⟩
/-- append in a region that draws its order, where the row went, and what it leaves of its old block. -/
theorem step_append_at {ops : Array Oper} {o : Oper} {a : Act} {K : Act → World → Prop} {Q : Exit → Act → World → Prop} {E : Prop} (hgd : o.guard = none) (s x : Operand) (t : TypeId)
    (ho : o.op = .call { callee := .builtin .append, args := #[s, x], argTypes := #[t, t] })
    (base : Nat) (e : TypeId) (i : TypeInfo) (z : Value) (size bytes : Nat) (ht : P.underlying t = some (.slice e)) (hi : P.info? e = some i) (hz : i.zero = some z)
    (hsize : i.size = size) (hby : i.bytes = bytes) (hzs : z.cells.size = size) (hsz : 0 < size) (v : Value) (n : Nat) (xs : List Value) (hs : a.eval s = v) (hown : w.ownsRow base e size v n xs)
    (ad : Addr) (m c : Nat) (news : List Value) (hx : a.eval x = .slice (some ad) m c) (hlen : news.length = m * size) (hA : ∀ j u, news[j]? = some u → w.cell? (ad.add j) = some u) (h1 : ∀ u ∈ news, u.oneCell' = true)
    (h63 : n + m ≤ maxLen) (hbytes : (n + m) * bytes ≤ 140737488355328) (hbase : base ≤ w.heap.size)
    (h : ∀ v' w', w'.ownsRow base e size v' (n + m) (xs ++ news) → w.grownBy w' v.ownBlock → Moves w v.ownBlock v'.ownBlock → Old w w' v (n * size) e → K (a.put o.dst v') w') :
    if Region.wanted o (yielded ops a.tmps) = true then Oper.wp P o a w K Q else E := by
  have hw : Region.wanted o (yielded ops a.tmps) = true := by simp [Region.wanted, hgd]
  rw [if_pos hw]
  obtain ⟨v', w', hr, h2, h3, h4, h5⟩ := run_append_own_k (P := P) w base t o.type e i z size bytes ht hi hz hsize hby hzs hsz v n xs hown ad m c news hlen hA h1 h63 hbytes hbase
  unfold Oper.wp execOp
  simp only [ho, resolve, invoke, builtin, Sem.run_bind, Sem.run_pure, Result.andThen_ok, List.map_toArray, List.map_cons, List.map_nil, hs, hx, hr]
  exact h v' w' h2 h3 h4 h5
end
theorem one6 (u : Ru) : ∀ x ∈ u.cells.toList, x.oneCell' = true := fun x hx => by
  simp [Ru.cells] at hx
  rcases hx with rfl | rfl | rfl | rfl | rfl | rfl <;> rfl
theorem own_drew {w : World} {B : Nat} {e : TypeId} {size n : Nat} {v : Value} {xs : List Value} (h : w.ownsRow B e size v n xs) : w.drew.ownsRow B e size v n xs := h
end Go.Proofs.Ytihhojgnilbfnaa.SemD
namespace Go.Proofs.Ytihhojgnilbfnaa.SemH
end Go.Proofs.Ytihhojgnilbfnaa.SemH
namespace Go.Proofs.Ytihhojgnilbfnaa.SemI
open Go.RowKit Go.Lib Go.Proofs Go.Proofs.Ytihhojgnilbfnaa.Plain Go.Proofs.Ytihhojgnilbfnaa.TblB Go.Proofs.Ytihhojgnilbfnaa.TblC Go.Proofs.Ytihhojgnilbfnaa.TblF Go.Proofs.Ytihhojgnilbfnaa.TblV Go.Proofs.Ytihhojgnilbfnaa.TblP Go.Proofs.Ytihhojgnilbfnaa.TblQ Go.Proofs.Ytihhojgnilbfnaa.SetA Go.Proofs.Ytihhojgnilbfnaa.SetC Go.Proofs.Ytihhojgnilbfnaa.SetD Go.Proofs.Ytihhojgnilbfnaa.SetF Go.Proofs.Ytihhojgnilbfnaa.SetN Go.Proofs.Ytihhojgnilbfnaa.SetQ Go.Proofs.Ytihhojgnilbfnaa.SynC Go.Proofs.Ytihhojgnilbfnaa.SetB Go.Proofs.Ytihhojgnilbfnaa.SetJ Go.Proofs.Ytihhojgnilbfnaa.SetR Go.Proofs.Ytihhojgnilbfnaa.SemA Go.Proofs.Ytihhojgnilbfnaa.SemB Go.Proofs.Ytihhojgnilbfnaa.SemC Go.Proofs.Ytihhojgnilbfnaa.SemD Go.Proofs.Ytihhojgnilbfnaa.SemH
set_option linter.unusedVariables false
set_option linter.unusedSimpArgs false
theorem nx {W w1 w2 : World} (h : Below W.heap.size W w1) (hb : Below w1.heap.size w1 w2) : Below W.heap.size W w2 := h.trans (hb.mono h.size)
end Go.Proofs.Ytihhojgnilbfnaa.SemI
namespace Go.Proofs.Ytihhojgnilbfnaa.SemJ
open Go.RowKit Go.Lib Go.Proofs Go.Proofs.Ytihhojgnilbfnaa.Plain Go.Proofs.Ytihhojgnilbfnaa.TblB Go.Proofs.Ytihhojgnilbfnaa.TblC Go.Proofs.Ytihhojgnilbfnaa.TblF Go.Proofs.Ytihhojgnilbfnaa.TblV Go.Proofs.Ytihhojgnilbfnaa.TblP Go.Proofs.Ytihhojgnilbfnaa.TblQ Go.Proofs.Ytihhojgnilbfnaa.SetA Go.Proofs.Ytihhojgnilbfnaa.SetC Go.Proofs.Ytihhojgnilbfnaa.SetD Go.Proofs.Ytihhojgnilbfnaa.SetF Go.Proofs.Ytihhojgnilbfnaa.SetN Go.Proofs.Ytihhojgnilbfnaa.SetQ Go.Proofs.Ytihhojgnilbfnaa.SynC Go.Proofs.Ytihhojgnilbfnaa.SetB Go.Proofs.Ytihhojgnilbfnaa.SetJ Go.Proofs.Ytihhojgnilbfnaa.SetR Go.Proofs.Ytihhojgnilbfnaa.SemA Go.Proofs.Ytihhojgnilbfnaa.SemB Go.Proofs.Ytihhojgnilbfnaa.SemC Go.Proofs.Ytihhojgnilbfnaa.SemD Go.Proofs.Ytihhojgnilbfnaa.SemH Go.Proofs.Ytihhojgnilbfnaa.SemI
set_option linter.unusedVariables false
set_option linter.unusedSimpArgs false
theorem wrapN {a b c : Nat} (h : a * b = c) (hc : c < 9223372036854775808) : IntKind.i64.wrap ((a : Int) * (b : Int)) = (c : Int) := by
  rw [← Int.natCast_mul, h, IntKind.wrap_i64]
  omega
/-- The document's example: rules, and who is in which role. -/
def ex1 : Ru := ⟨2, 0, 0, 3, 0, 0⟩
def ex2 : Ru := ⟨1, 3, 2, 0, 0, 0⟩
theorem ex_right : [ex1, ex2].filter (rightU 3 2) = [ex1, ex2] := by decide +kernel
theorem ex_der {r x : Int} : Der 2 [ex1, ex2] r x ↔ (r = 0 ∧ x = 2) ∨ (r = 3 ∧ x = 2) := by
  have h3 : Der 2 [ex1, ex2] 3 2 := Der.mem ex2 (by simp) rfl
  constructor
  · intro d
    induction d with
    | mem u hu hk =>
      simp at hu
      rcases hu with rfl | rfl
      · exact absurd hk (by decide)
      · exact .inr ⟨rfl, rfl⟩
    | incl u x hu hk _ ih =>
      simp at hu
      rcases hu with rfl | rfl
      · rcases ih with ⟨h, _⟩ | ⟨_, h⟩
        · exact absurd h (by decide)
        · exact .inl ⟨rfl, h⟩
      · exact absurd hk (by decide)
    | link u x y hu hk _ _ _ _ =>
      simp at hu
      rcases hu with rfl | rfl <;> exact absurd hk (by decide)
    | both u x hu hk _ _ _ _ =>
      simp at hu
      rcases hu with rfl | rfl <;> exact absurd hk (by decide)
  · rintro (⟨rfl, rfl⟩ | ⟨rfl, rfl⟩)
    · exact Der.incl ex1 2 (by simp) rfl h3
    · exact h3
end Go.Proofs.Ytihhojgnilbfnaa.SemJ
namespace Go.Proofs.Ytihhojgnilbfnaa.SemK
open Go.RowKit Go.Lib Go.Proofs Go.Proofs.Ytihhojgnilbfnaa.Plain Go.Proofs.Ytihhojgnilbfnaa.TblB Go.Proofs.Ytihhojgnilbfnaa.TblC Go.Proofs.Ytihhojgnilbfnaa.TblF Go.Proofs.Ytihhojgnilbfnaa.TblV Go.Proofs.Ytihhojgnilbfnaa.TblP Go.Proofs.Ytihhojgnilbfnaa.TblQ Go.Proofs.Ytihhojgnilbfnaa.SetA Go.Proofs.Ytihhojgnilbfnaa.SetC Go.Proofs.Ytihhojgnilbfnaa.SetD Go.Proofs.Ytihhojgnilbfnaa.SetF Go.Proofs.Ytihhojgnilbfnaa.SetN Go.Proofs.Ytihhojgnilbfnaa.SetQ Go.Proofs.Ytihhojgnilbfnaa.SynC Go.Proofs.Ytihhojgnilbfnaa.SetB Go.Proofs.Ytihhojgnilbfnaa.SetJ Go.Proofs.Ytihhojgnilbfnaa.SetR Go.Proofs.Ytihhojgnilbfnaa.SemA Go.Proofs.Ytihhojgnilbfnaa.SemB Go.Proofs.Ytihhojgnilbfnaa.SemC Go.Proofs.Ytihhojgnilbfnaa.SemD Go.Proofs.Ytihhojgnilbfnaa.SemH Go.Proofs.Ytihhojgnilbfnaa.SemI Go.Proofs.Ytihhojgnilbfnaa.SemJ
set_option linter.unusedVariables false
set_option linter.unusedSimpArgs false
theorem ex_ug (w : World) : UG (w.alloc (.cells #[.int .i64 2, .int .i64 0, .int .i64 0, .int .i64 3, .int .i64 0, .int .i64 0, .int .i64 1, .int .i64 3, .int .i64 2, .int .i64 0, .int .i64 0, .int .i64 0] 44)) (some ⟨w.heap.size, 0, none⟩) [ex1, ex2] := fun _ => by
  have hb := heap_alloc_new w (.cells #[.int .i64 2, .int .i64 0, .int .i64 0, .int .i64 3, .int .i64 0, .int .i64 0, .int .i64 1, .int .i64 3, .int .i64 2, .int .i64 0, .int .i64 0, .int .i64 0] 44)
  refine ⟨w.heap.size, 0, rfl, lt_of hb, fun j hj k hk => ?_⟩
  rw [Lib.cell_of_heap hb]
  have hj2 : j = 0 ∨ j = 1 := by simp at hj; omega
  rcases hj2 with rfl | rfl
  · match k, hk with
    | 0, _ => rfl
    | 1, _ => rfl
    | 2, _ => rfl
    | 3, _ => rfl
    | 4, _ => rfl
    | 5, _ => rfl
  · match k, hk with
    | 0, _ => rfl
    | 1, _ => rfl
    | 2, _ => rfl
    | 3, _ => rfl
    | 4, _ => rfl
    | 5, _ => rfl
theorem bw (w : World) (q : Nat) : Below w.heap.size w (w.drewN q) := below_drewN (Below.refl _ w) q
end Go.Proofs.Ytihhojgnilbfnaa.SemK
namespace Go.Proofs.Ytihhojgnilbfnaa.SemSw
open Go.RowKit Go.Lib Go.Proofs Go.Proofs.Ytihhojgnilbfnaa.Plain Go.Proofs.Ytihhojgnilbfnaa.TblB Go.Proofs.Ytihhojgnilbfnaa.TblC Go.Proofs.Ytihhojgnilbfnaa.TblF Go.Proofs.Ytihhojgnilbfnaa.TblV Go.Proofs.Ytihhojgnilbfnaa.TblP Go.Proofs.Ytihhojgnilbfnaa.TblQ Go.Proofs.Ytihhojgnilbfnaa.SetA Go.Proofs.Ytihhojgnilbfnaa.SetC Go.Proofs.Ytihhojgnilbfnaa.SetD Go.Proofs.Ytihhojgnilbfnaa.SetF Go.Proofs.Ytihhojgnilbfnaa.SetN Go.Proofs.Ytihhojgnilbfnaa.SetQ Go.Proofs.Ytihhojgnilbfnaa.SynC Go.Proofs.Ytihhojgnilbfnaa.SetB Go.Proofs.Ytihhojgnilbfnaa.SetJ Go.Proofs.Ytihhojgnilbfnaa.SetR Go.Proofs.Ytihhojgnilbfnaa.SemA Go.Proofs.Ytihhojgnilbfnaa.SemB Go.Proofs.Ytihhojgnilbfnaa.SemC Go.Proofs.Ytihhojgnilbfnaa.SemD Go.Proofs.Ytihhojgnilbfnaa.SemH Go.Proofs.Ytihhojgnilbfnaa.SemI Go.Proofs.Ytihhojgnilbfnaa.SemJ Go.Proofs.Ytihhojgnilbfnaa.SemK
set_option linter.unusedVariables false
set_option linter.unusedSimpArgs false
def smallB (p k : Int) (n : Nat) : Bool := decide (p ≤ 10) && (decide (k ≤ 6) && decide (n ≤ 60))
set_option maxRecDepth 100000 in
theorem small (p k : Int) (A : Option Addr) (ca : Nat) (n : Nat) (hn : n ≤ 9223372036854775807) (w : World) : Calls Try.prog 6 #[.int .i64 p, .int .i64 k, .slice A n ca] w fun e w' => e = .returned (.bool (smallB p k n)) ∧ w = w' := by
  unfold smallB
  by_cases h1 : p ≤ 10
  · rw [decide_eq_true h1, Bool.true_and]
    by_cases h2 : k ≤ 6
    · rw [decide_eq_true h2, Bool.true_and]
      by_cases h3 : n ≤ 60
      · rw [decide_eq_true h3]
        have e3 : decide ((n : Int) ≤ 60) = true := by simp; omega
        go_enter Try.func6, Try.ntmps6
        go_wp2_with fail
        go_ret
        exact ⟨rfl, rfl⟩
      · rw [decide_eq_false h3]
        have e3 : decide ((n : Int) ≤ 60) = false := by simp; omega
        go_enter Try.func6, Try.ntmps6
        go_wp2_with fail
        go_ret
        exact ⟨rfl, rfl⟩
    · rw [decide_eq_false h2, Bool.false_and]
      have e2 : decide (k ≤ 6) = false := decide_eq_false h2
      go_enter Try.func6, Try.ntmps6
      go_wp2_with fail
      go_ret
      exact ⟨rfl, rfl⟩
  · rw [decide_eq_false h1, Bool.false_and]
    have e1 : decide (p ≤ 10) = false := decide_eq_false h1
    go_enter Try.func6, Try.ntmps6
    go_wp2_with fail
    go_ret
    exact ⟨rfl, rfl⟩
theorem dims_box (w : World) (d0 d1 : Int) : Below w.heap.size w (w.alloc (.cells #[.int .i64 d0, .int .i64 d1] 22)) ∧ ∀ o, (w.alloc (.cells #[.int .i64 d0, .int .i64 d1] 22)).cell? ⟨w.heap.size, o, none⟩ = (#[.int .i64 d0, .int .i64 d1] : Array Value)[o]? :=
  ⟨(Below.refl _ _).alloc (Nat.le_refl _) _, fun o => Lib.cell_of_heap (heap_alloc_new w _) o⟩
end Go.Proofs.Ytihhojgnilbfnaa.SemSw
namespace Go.Proofs.Ytihhojgnilbfnaa.SemGa
open Go.RowKit Go.Lib Go.Proofs Go.Proofs.Ytihhojgnilbfnaa.Plain Go.Proofs.Ytihhojgnilbfnaa.TblB Go.Proofs.Ytihhojgnilbfnaa.TblC Go.Proofs.Ytihhojgnilbfnaa.TblF Go.Proofs.Ytihhojgnilbfnaa.TblV Go.Proofs.Ytihhojgnilbfnaa.TblP Go.Proofs.Ytihhojgnilbfnaa.TblQ Go.Proofs.Ytihhojgnilbfnaa.SetA Go.Proofs.Ytihhojgnilbfnaa.SetC Go.Proofs.Ytihhojgnilbfnaa.SetD Go.Proofs.Ytihhojgnilbfnaa.SetF Go.Proofs.Ytihhojgnilbfnaa.SetN Go.Proofs.Ytihhojgnilbfnaa.SetQ Go.Proofs.Ytihhojgnilbfnaa.SynC Go.Proofs.Ytihhojgnilbfnaa.SetB Go.Proofs.Ytihhojgnilbfnaa.SetJ Go.Proofs.Ytihhojgnilbfnaa.SetR Go.Proofs.Ytihhojgnilbfnaa.SemA Go.Proofs.Ytihhojgnilbfnaa.SemB Go.Proofs.Ytihhojgnilbfnaa.SemC Go.Proofs.Ytihhojgnilbfnaa.SemD Go.Proofs.Ytihhojgnilbfnaa.SemH Go.Proofs.Ytihhojgnilbfnaa.SemI Go.Proofs.Ytihhojgnilbfnaa.SemJ Go.Proofs.Ytihhojgnilbfnaa.SemK Go.Proofs.Ytihhojgnilbfnaa.SemSw
set_option linter.unusedVariables false
set_option linter.unusedSimpArgs false
section
variable {P : Program} (w : World)
theorem step_append_from {ops : Array Oper} {o : Oper} {a : Act} {K : Act → World → Prop} {Q : Exit → Act → World → Prop} {E : Prop} (hgd : o.guard = none) (s x : Operand) (t : TypeId)
    (ho : o.op = .call { callee := .builtin .append, args := #[s, x], argTypes := #[t, t] })
    (base : Nat) (e : TypeId) (i : TypeInfo) (z : Value) (size bytes : Nat) (ht : P.underlying t = some (.slice e)) (hi : P.info? e = some i) (hz : i.zero = some z)
    (hsize : i.size = size) (hby : i.bytes = bytes) (hzs : z.cells.size = size) (hsz : 0 < size) (v : Value) (n : Nat) (xs : List Value) (hs : a.eval s = v) (hown : w.ownsRow base e size v n xs)
    (A : Option Addr) (m c : Nat) (news : List Value) (hx : a.eval x = .slice A m c) (hlen : news.length = m * size) (h0 : A = none → m = 0) (hA : ∀ ad, A = some ad → ∀ j u, news[j]? = some u → w.cell? (ad.add j) = some u) (h1 : ∀ u ∈ news, u.oneCell' = true)
    (h63 : n + m ≤ maxLen) (hbytes : (n + m) * bytes ≤ 140737488355328) (hbase : base ≤ w.heap.size)
    (h : ∀ v' w', w'.ownsRow base e size v' (n + m) (xs ++ news) → w.grownBy w' v.ownBlock → K (a.put o.dst v') w') :
    if Region.wanted o (yielded ops a.tmps) = true then Oper.wp P o a w K Q else E := by
  have hw : Region.wanted o (yielded ops a.tmps) = true := by simp [Region.wanted, hgd]
  rw [if_pos hw]
  obtain ⟨v', w', hr, h2, h3⟩ := SynC.run_append_from (P := P) w base t o.type e i z size bytes ht hi hz hsize hby hzs hsz v n xs hown A m c news hlen h0 hA h1 h63 hbytes hbase
  unfold Oper.wp execOp
  simp only [ho, resolve, invoke, builtin, Sem.run_bind, Sem.run_pure, Result.andThen_ok, List.map_toArray, List.map_cons, List.map_nil, hs, hx, hr]
  exact h v' w' h2 h3
end
theorem own_n {w : World} {B n k : Nat} {e : TypeId} {v : Value} {xs : List Value} (h : w.ownsRow B e k v n xs) : ∃ A c, v = .slice A n c := by
  rcases h.2 with ⟨rfl, rfl⟩ | ⟨g, cap, cur, rfl, _⟩
  · exact ⟨none, 0, rfl⟩
  · exact ⟨_, cap, rfl⟩
theorem below_grown {W w w1 : World} {B n k : Nat} {e : TypeId} {v : Value} {xs : List Value} (hb : Below W.heap.size W w) (ho : w.ownsRow B e k v n xs) (hg : w.grownBy w1 v.ownBlock) (hB : W.heap.size ≤ B) (hBw : B ≤ w.heap.size) : Below W.heap.size W w1 :=
  hb.grown hg (by omega) (fun j hj => Nat.le_trans hB (ho.lt j hj).1)
noncomputable def derB (P K : Nat) (T : List Ru) (r x : Int) : Bool := @decide (Der K (T.filter (rightU P K)) r x) (Classical.propDecidable _)
theorem derB_iff {P K : Nat} {T : List Ru} {r x : Int} : derB P K T r x = true ↔ Der K (T.filter (rightU P K)) r x := @decide_eq_true_iff _ (Classical.propDecidable _)
noncomputable def memD (P K : Nat) (T : List Ru) (r : Int) : List Nat := (List.range P).filter fun x : Nat => derB P K T r (x : Int)
theorem mem_memD {P K : Nat} {T : List Ru} {r : Int} {x : Nat} : x ∈ memD P K T r ↔ x < P ∧ Der K (T.filter (rightU P K)) r (x : Int) := by
  unfold memD
  rw [List.mem_filter, List.mem_range, derB_iff]
theorem memD_len (P K : Nat) (T : List Ru) (r : Int) : (memD P K T r).length ≤ P := by
  unfold memD
  exact Nat.le_trans (List.length_filter_le _ _) (Nat.le_of_eq (List.length_range))
end Go.Proofs.Ytihhojgnilbfnaa.SemGa
/- Steps of proofs, and the looking for them: the maths. -/
namespace Go.Proofs.Ytihhojgnilbfnaa.PfM
set_option linter.unusedVariables false
set_option linter.unusedSimpArgs false
open Go.Proofs.Ytihhojgnilbfnaa.TblB Go.Proofs.Ytihhojgnilbfnaa.TblC Go.Proofs.Ytihhojgnilbfnaa.TblV Go.Proofs.Ytihhojgnilbfnaa.TblP Go.Proofs.Ytihhojgnilbfnaa.TblQ Go.Proofs.Ytihhojgnilbfnaa.SemA
set_option linter.unusedVariables false
set_option linter.unusedSimpArgs false
/-- A step. -/
structure Sp where
  rule : Int
  role : Int
  who : Int
  mid : Int
/-- A fact: a role, and who is in it. -/
abbrev Fa := Int × Int
def Sp.fa (s : Sp) : Fa := (s.role, s.who)
/-- What a step by a rule stands on. -/
def under (K : Int) (u : Ru) (s : Sp) : List Fa :=
  if u.kind = 2 then [(u.a, s.who)] else if u.kind = 3 then [(u.a, s.mid), (s.mid * K + u.via, s.who)] else if u.kind = 4 then [(u.a, s.who), (u.b, s.who)] else []
/-- The rule at a place, if it may be. -/
def ruleAt (P K : Nat) (L : List Ru) (i : Int) : Option Ru := if i < 0 then none else (L[i.toNat]?).filter (rightU P K)
/-- A step such as its rule asks for. -/
def fitB (P : Int) (u : Ru) (s : Sp) : Bool :=
  decide (u.head = s.role) && (decide (0 ≤ s.who ∧ s.who < P) && ((!decide (u.kind = 1) || decide (u.who = s.who)) && (if u.kind = 3 then decide (0 ≤ s.mid ∧ s.mid < P) else decide (s.mid = 0))))
def hasS (A : List Sp) (f : Fa) : Bool := A.any fun s => decide (s.fa = f)
def okS (P K : Nat) (L : List Ru) (A : List Sp) (s : Sp) : Bool :=
  match ruleAt P K L s.rule with
  | none => false
  | some u => fitB P u s && (under K u s).all (hasS A)
/-- Are these steps right, each behind those ahead, and none twice? -/
def chk (P K : Nat) (L : List Ru) : List Sp → List Sp → Bool
  | _, [] => true
  | A, s :: r => (okS P K L A s && !hasS A s.fa) && chk P K L (A ++ [s]) r
theorem hasS_iff {A : List Sp} {f : Fa} : hasS A f = true ↔ ∃ s ∈ A, s.fa = f := by unfold hasS; simp
theorem hasS_app {A B : List Sp} {f : Fa} : hasS (A ++ B) f = (hasS A f || hasS B f) := by unfold hasS; simp
theorem hasS_mono {A B : List Sp} {f : Fa} (h : hasS A f = true) : hasS (A ++ B) f = true := by rw [hasS_app, h]; rfl
theorem hasS_one {s : Sp} {f : Fa} : hasS [s] f = decide (s.fa = f) := by unfold hasS; simp
theorem ruleAt_some {P K : Nat} {L : List Ru} {i : Int} {u : Ru} (h : ruleAt P K L i = some u) : 0 ≤ i ∧ i.toNat < L.length ∧ L[i.toNat]? = some u ∧ rightU P K u = true := by
  unfold ruleAt at h
  split at h
  · cases h
  · rw [Option.filter_eq_some_iff] at h
    exact ⟨by omega, (List.getElem?_eq_some_iff.1 h.1).1, h.1, h.2⟩
theorem ruleAt_nat {P K : Nat} {L : List Ru} {i : Nat} {u : Ru} (h : L[i]? = some u) : ruleAt P K L (i : Int) = if rightU P K u then some u else none := by
  unfold ruleAt
  rw [if_neg (by omega), Int.toNat_natCast, h]
  simp [Option.filter]
theorem chk_snoc (P K : Nat) (L : List Ru) (s : Sp) : ∀ (l A : List Sp), chk P K L A (l ++ [s]) = (chk P K L A l && (okS P K L (A ++ l) s && !hasS (A ++ l) s.fa))
  | [], A => by simp [chk]
  | x :: l, A => by
    have := chk_snoc P K L s l (A ++ [x])
    simp only [List.cons_append, chk, this, List.append_assoc, List.nil_append, Bool.and_assoc, List.singleton_append]
theorem okS_mono {P K : Nat} {L : List Ru} {A B : List Sp} {s : Sp} (hs : ∀ f, hasS A f = true → hasS B f = true) (h : okS P K L A s = true) : okS P K L B s = true := by
  unfold okS at *
  split at h
  · cases h
  · rename_i u hu
    simp only [Bool.and_eq_true, List.all_eq_true] at h ⊢
    exact ⟨h.1, fun f hf => hs f (h.2 f hf)⟩
/-- Right rules are of their ranges. -/
theorem right_r {P K : Nat} {u : Ru} (h : rightU P K u = true) : (u.kind = 1 ∨ u.kind = 2 ∨ u.kind = 3 ∨ u.kind = 4) ∧ (0 ≤ u.head ∧ u.head < ((P * K : Nat) : Int)) ∧ (0 ≤ u.who ∧ u.who < P) ∧ (0 ≤ u.a ∧ u.a < ((P * K : Nat) : Int)) ∧ (0 ≤ u.b ∧ u.b < ((P * K : Nat) : Int)) ∧ (0 ≤ u.via ∧ u.via < K) := by
  unfold rightU at h
  simp only [Bool.and_eq_true, decide_eq_true_eq] at h
  obtain ⟨h1, h2, h3, h4, h5⟩ := h
  have a3 := List.all_eq_true.1 h3
  have a4 := List.all_eq_true.1 h4
  have a5 := List.all_eq_true.1 h5
  have k1 : inB _ u.head = true := a3 _ (by simp)
  have k2 : inB _ u.a = true := a3 _ (by simp)
  have k3 : inB _ u.b = true := a3 _ (by simp)
  have k4 : inB _ u.who = true := a4 _ (by simp)
  have k5 : inB _ u.via = true := a5 _ (by simp)
  unfold inB at k1 k2 k3 k4 k5
  simp only [decide_eq_true_eq] at k1 k2 k3 k4 k5
  unfold bareK at h1
  simp only [Bool.or_eq_true, decide_eq_true_eq] at h1
  refine ⟨by omega, k1, k4, k2, k3, k5⟩
theorem okS_rng {P K : Nat} {L : List Ru} {A : List Sp} {s : Sp} (h : okS P K L A s = true) : ∃ u, ruleAt P K L s.rule = some u ∧ fitB P u s = true ∧ (∀ f ∈ under K u s, hasS A f = true) ∧ (0 ≤ s.role ∧ s.role < ((P * K : Nat) : Int)) ∧ 0 ≤ s.who ∧ s.who < P ∧ u.head = s.role := by
  unfold okS at h
  split at h
  · cases h
  · rename_i u hu
    simp only [Bool.and_eq_true, List.all_eq_true] at h
    have hr := (right_r (ruleAt_some hu).2.2.2).2.1
    have hf := h.1
    unfold fitB at hf
    simp only [Bool.and_eq_true, decide_eq_true_eq] at hf
    exact ⟨u, hu, h.1, h.2, by rw [← hf.1]; exact hr, hf.2.1.1, hf.2.1.2, hf.1⟩
/-- What right steps tell follows from the rules that they use. -/
theorem ok_der {P K : Nat} {L L' : List Ru} {A : List Sp} {s : Sp} (h : okS P K L A s = true) (hA : ∀ f : Fa, hasS A f = true → Der K L' f.1 f.2) (hu : ∀ u, ruleAt P K L s.rule = some u → u ∈ L') : Der K L' s.role s.who := by
  obtain ⟨u, h1, h2, h3, _, _, _, h4⟩ := okS_rng h
  have hm := hu u h1
  have hk := (right_r (ruleAt_some h1).2.2.2).1
  unfold fitB at h2
  simp only [Bool.and_eq_true, Bool.or_eq_true, Bool.not_eq_true', decide_eq_true_eq, decide_eq_false_iff_not] at h2
  rw [← h4]
  rcases hk with k | k | k | k
  · rcases h2.2.2.1 with q | q
    · exact absurd k q
    · rw [← q]; exact .mem u hm k
  · unfold under at h3
    rw [if_pos k] at h3
    exact .incl u _ hm k (hA (u.a, s.who) (h3 _ (by simp)))
  · unfold under at h3
    rw [if_neg (by omega), if_pos k] at h3
    exact .link u s.mid _ hm k (hA (u.a, s.mid) (h3 _ (by simp))) (hA (s.mid * K + u.via, s.who) (h3 _ (by simp)))
  · unfold under at h3
    rw [if_neg (by omega), if_neg (by omega), if_pos k] at h3
    exact .both u _ hm k (hA (u.a, s.who) (h3 _ (by simp))) (hA (u.b, s.who) (h3 _ (by simp)))
theorem chk_der {P K : Nat} {L L' : List Ru} : ∀ (l A : List Sp), chk P K L A l = true → (∀ f : Fa, hasS A f = true → Der K L' f.1 f.2) → (∀ s ∈ l, ∀ u, ruleAt P K L s.rule = some u → u ∈ L') → ∀ f : Fa, hasS (A ++ l) f = true → Der K L' f.1 f.2
  | [], A, _, hA, _ => by simpa using hA
  | s :: l, A, h, hA, hu => by
    simp only [chk, Bool.and_eq_true] at h
    have hs := ok_der h.1.1 hA (hu s (by simp))
    have := chk_der l (A ++ [s]) h.2 (fun f hf => by
      rw [hasS_app, Bool.or_eq_true, hasS_one, decide_eq_true_eq] at hf
      rcases hf with hf | rfl
      · exact hA f hf
      · exact hs) (fun x hx => hu x (by simp [hx]))
    intro f hf
    exact this f (by simpa using hf)
theorem chk_sound {P K : Nat} {L : List Ru} {l : List Sp} (h : chk P K L [] l = true) {f : Fa} (hf : hasS l f = true) : Der K (L.filter (rightU P K)) f.1 f.2 :=
  chk_der l [] h (fun f hf => by simp [hasS] at hf) (fun s hs u hu => by
    obtain ⟨_, _, h1, h2⟩ := ruleAt_some hu
    exact List.mem_filter.2 ⟨List.mem_of_getElem? h1, h2⟩) f (by simpa using hf)
/-! ### the state of the looking -/
structure Ss where
  known : List Sp
  nw : Nat
  watch : Int → List (Int × Int)
def putM (t : Ss) (s : Sp) : Ss := if hasS t.known s.fa then t else { t with known := t.known ++ [s] }
def watchM (t : Ss) (r : Int) (x : Int × Int) : Ss := { t with nw := t.nw + 1, watch := fun i => if i = r then t.watch i ++ [x] else t.watch i }
def ruleD (L : List Ru) (i : Int) : Ru := L.getD i.toNat zeroU
def lkM (t : Ss) (r i h mid : Int) (who : Nat) : Ss := if hasS t.known (r, (who : Int)) then putM t ⟨i, h, who, mid⟩ else t
def linkM (P K : Nat) (L : List Ru) (t : Ss) (i mid : Int) : Ss :=
  (List.range P).foldl (lkM · (mid * K + (ruleD L i).via) i (ruleD L i).head mid) (watchM t (mid * K + (ruleD L i).via) (i, mid))
def stepM (P K : Nat) (L : List Ru) (t : Ss) (x : Int) (y : Int × Int) : Ss :=
  let u := ruleD L y.1
  if u.kind = 3 then (if y.2 = -1 then linkM P K L t y.1 x else putM t ⟨y.1, u.head, x, y.2⟩)
  else if u.kind = 2 then putM t ⟨y.1, u.head, x, 0⟩
  else if hasS t.known (u.a, x) && hasS t.known (u.b, x) then putM t ⟨y.1, u.head, x, 0⟩ else t
def followM (P K : Nat) (L : List Ru) (t : Ss) (f : Fa) : Ss := (t.watch f.1).foldl (stepM P K L · f.2) t
def beginM (t : Ss) (i : Int) (u : Ru) : Ss :=
  if u.kind = 1 then putM t ⟨i, u.head, u.who, 0⟩ else
  if u.kind = 4 ∧ u.b ≠ u.a then watchM (watchM t u.a (i, -1)) u.b (i, -1) else watchM t u.a (i, -1)
/-- What a watch brings for one who was followed into its role; hist: what was followed. -/
def Done (P K : Nat) (L : List Ru) (t : Ss) (hist : List Sp) (x : Int) (y : Int × Int) : Prop :=
  ((ruleD L y.1).kind = 2 → hasS t.known ((ruleD L y.1).head, x) = true) ∧
  ((ruleD L y.1).kind = 4 → hasS hist ((ruleD L y.1).a, x) = true → hasS hist ((ruleD L y.1).b, x) = true → hasS t.known ((ruleD L y.1).head, x) = true) ∧
  ((ruleD L y.1).kind = 3 → y.2 = -1 → (y.1, x) ∈ t.watch (x * K + (ruleD L y.1).via)) ∧
  ((ruleD L y.1).kind = 3 → y.2 ≠ -1 → hasS t.known ((ruleD L y.1).head, x) = true)
/-- A watch that may be, at a role. -/
structure WOk (P K : Nat) (L : List Ru) (t : Ss) (r : Int) (y : Int × Int) : Prop where
  at_ : ∃ u, ruleAt P K L y.1 = some u
  k1 : (ruleD L y.1).kind ≠ 1
  any : y.2 = -1 → (ruleD L y.1).a = r ∨ ((ruleD L y.1).kind = 4 ∧ (ruleD L y.1).b = r)
  mid : y.2 ≠ -1 → (ruleD L y.1).kind = 3 ∧ 0 ≤ y.2 ∧ y.2 < P ∧ r = y.2 * K + (ruleD L y.1).via ∧ hasS t.known ((ruleD L y.1).a, y.2) = true
def anyN (l : List (Int × Int)) : Nat := (l.filter fun y => decide (y.2 = -1)).length
structure Inv (P K : Nat) (L : List Ru) (T : Nat) (h : Nat) (pend : List (Int × Int)) (c : Nat) (t : Ss) : Prop where
  le : h ≤ t.known.length
  ck : chk P K L [] t.known = true
  wok : ∀ r, ∀ y ∈ t.watch r, WOk P K L t r y
  stat : ∀ i : Nat, i < T → ∀ u, ruleAt P K L i = some u → (u.kind = 1 → hasS t.known (u.head, u.who) = true) ∧ (u.kind ≠ 1 → ((i : Int), -1) ∈ t.watch u.a) ∧ (u.kind = 4 → ((i : Int), -1) ∈ t.watch u.b)
  cl : ∀ j, j < h → ∀ s, t.known[j]? = some s → ∀ y ∈ t.watch s.role, (y ∈ pend ∧ j + 1 = h) ∨ Done P K L t (t.known.take (j + 1)) s.who y
  any : ∀ r, anyN (t.watch r) ≤ 2 * T
  len : ∀ r, (t.watch r).length ≤ t.nw
  cnt : t.nw ≤ 2 * T + c
theorem Done.mono {P K : Nat} {L : List Ru} {t t' : Ss} {hist : List Sp} {x : Int} {y : Int × Int} (h : Done P K L t hist x y) (hk : ∀ f, hasS t.known f = true → hasS t'.known f = true) (hw : ∀ r, ∀ z ∈ t.watch r, z ∈ t'.watch r) : Done P K L t' hist x y :=
  ⟨fun k => hk _ (h.1 k), fun k a b => hk _ (h.2.1 k a b), fun k e => hw _ _ (h.2.2.1 k e), fun k e => hk _ (h.2.2.2 k e)⟩
theorem WOk.mono {P K : Nat} {L : List Ru} {t t' : Ss} {r : Int} {y : Int × Int} (h : WOk P K L t r y) (hk : ∀ f, hasS t.known f = true → hasS t'.known f = true) : WOk P K L t' r y :=
  ⟨h.at_, h.k1, h.any, fun e => by obtain ⟨a, b, c, d, f⟩ := h.mid e; exact ⟨a, b, c, d, hk _ f⟩⟩
end Go.Proofs.Ytihhojgnilbfnaa.PfM
