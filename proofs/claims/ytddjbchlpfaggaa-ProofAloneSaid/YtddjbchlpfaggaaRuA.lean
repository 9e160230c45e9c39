/- Rules: their numbers, and a block that holds one. -/
import Derived.Test.YtddjbchlpfaggaaPlain
import Derived.Test.YtddjbchlpfaggaaProg
import Derived.WalkKit
import Derived.Below
import Derived.Lib.Hide
import Derived.Lib.Builder
import Derived.Outline
import Derived.Laws.Bits64b
import Derived.Deep.MidRow
import Derived.Laws.MakeOwn
import Derived.RegionTactic
import Derived.Deep.RegionWith
import Derived.Deep.QuietTactic
import Derived.BigQuiet
import Derived.ProofKit
import Derived.IntWalk
import Derived.WalkLawsBesides
import Derived.WalkSpells
namespace Go.Proofs.Ytddjbchlpfaggaa.TblC
open Go.RowKit Go.Lib Go.Proofs Go.Proofs.Ytddjbchlpfaggaa.Plain
set_option linter.unusedVariables false
set_option linter.unusedSimpArgs false
/-- A rule's numbers. -/
structure Ru where
  kind : Int
  head : Int
  who : Int
  a : Int
  b : Int
  via : Int
deriving DecidableEq
def Ru.cells (r : Ru) : Array Value := #[.int .i64 r.kind, .int .i64 r.head, .int .i64 r.who, .int .i64 r.a, .int .i64 r.b, .int .i64 r.via]
def Ru.val (r : Ru) : Value := .agg #[.int .i64 r.kind, .int .i64 r.head, .int .i64 r.who, .int .i64 r.a, .int .i64 r.b, .int .i64 r.via]
def zeroU : Ru := ⟨0, 0, 0, 0, 0, 0⟩
/-- The rule lies in block r, and block r alone was written. -/
def RuAt (w : World) (r : Nat) (u : Ru) : Prop := w.heap[r]? = some (.cells u.cells 44 (0, 0))
def Ru.set (u : Ru) (o : Nat) (v : Int) : Ru :=
  if o = 1 then { u with head := v } else if o = 2 then { u with who := v } else if o = 3 then { u with a := v } else if o = 4 then { u with b := v } else if o = 5 then { u with via := v } else u
theorem RuAt.lt {w : World} {r : Nat} {u : Ru} (h : RuAt w r u) : r < w.heap.size := (Array.getElem?_eq_some_iff.1 h).1
theorem RuAt.cell {w : World} {r : Nat} {u : Ru} (h : RuAt w r u) (o : Nat) : w.cell? ⟨r, o, none⟩ = u.cells[o]? := Lib.cell_of_heap h o
theorem RuAt.free {w : World} {r : Nat} {u : Ru} (h : RuAt w r u) (o : Nat) : w.frozen? ⟨r, o, none⟩ = false := frozen_of_row _ _ _ _ _ h
theorem RuAt.put {w : World} {r : Nat} {u : Ru} (h : RuAt w r u) (o : Nat) (h1 : 1 ≤ o) (h5 : o ≤ 5) (v : Int) : RuAt (w.setCell ⟨r, o, none⟩ (.int .i64 v)) r (u.set o v) := by
  unfold RuAt
  rw [heap_setCell_same _ _ _ _ _ _ h]
  congr 2
  match o, h1, h5 with
  | 1, _, _ => rfl
  | 2, _, _ => rfl
  | 3, _, _ => rfl
  | 4, _, _ => rfl
  | 5, _, _ => rfl
theorem RuAt.below {w w' : World} {r : Nat} {u : Ru} (h : RuAt w r u) (hb : RowKit.Below w.heap.size w w') : RuAt w' r u := (hb.block r h.lt).trans h
theorem grew_set (w : World) (a : Addr) (v : Value) : w.grownBy (w.setCell a v) (some a.block) := ⟨rfl, rfl, rfl, by simp [World.setCell], fun k hk hne => Below.heap_setCell _ _ _ _ (fun e => hne (by rw [e]))⟩
theorem below_set {w w1 : World} {a : Addr} {v : Value} (hb : RowKit.Below w.heap.size w w1) : w.grownBy (w1.setCell a v) (some a.block) :=
  ⟨hb.os, hb.tape, hb.output, by simpa [World.setCell] using hb.size, fun k hk hne => (Below.heap_setCell _ _ _ _ (fun e => hne (by rw [e]))).trans (hb.block k hk)⟩
theorem grew_trans {w w1 w2 : World} {r : Nat} (h : w.grownBy w1 (some r)) (h2 : w1.grownBy w2 (some r)) : w.grownBy w2 (some r) :=
  ⟨h2.os.trans h.os, h2.tape.trans h.tape, h2.output.trans h.output, Nat.le_trans h.size h2.size, fun k hk hne => (h2.block k (Nat.lt_of_lt_of_le hk h.size) hne).trans (h.block k hk hne)⟩
theorem grew_below {w w1 w2 : World} {r : Nat} (h : w.grownBy w1 (some r)) (h2 : RowKit.Below w1.heap.size w1 w2) : w.grownBy w2 (some r) :=
  ⟨h2.os.trans h.os, h2.tape.trans h.tape, h2.output.trans h.output, Nat.le_trans h.size h2.size, fun k hk hne => (h2.block k (Nat.lt_of_lt_of_le hk h.size)).trans (h.block k hk hne)⟩
theorem below_grew {w w1 w2 : World} {r : Nat} (h2 : RowKit.Below w.heap.size w w1) (h : w1.grownBy w2 (some r)) : w.grownBy w2 (some r) :=
  ⟨h.os.trans h2.os, h.tape.trans h2.tape, h.output.trans h2.output, Nat.le_trans h2.size h.size, fun k hk hne => (h.block k (Nat.lt_of_lt_of_le hk h2.size) hne).trans (h2.block k hk)⟩
def PutPost (v : Int) (u : Ru) (o r : Nat) (w : World) (e : Ending) (w' : World) : Prop := e = .returned (.bool (decide (0 ≤ v))) ∧ RuAt w' r (u.set o v) ∧ w.grownBy w' (some r)
end Go.Proofs.Ytddjbchlpfaggaa.TblC
namespace Go.Proofs.Ytddjbchlpfaggaa.TblB
open Go.RowKit Go.Lib Go.Proofs
set_option linter.unusedVariables false
set_option linter.unusedSimpArgs false
theorem below_setRow {B : Nat} {a w : World} (h : RowKit.Below B a w) {g : Nat} (hg : B ≤ g) (cs : Array Value) : RowKit.Below B a (w.setRow g cs) :=
  ⟨h.os, h.tape, h.output, by simpa using h.size, fun k hk => (setRow_other _ _ _ _ (by omega)).trans (h.block k hk)⟩
end Go.Proofs.Ytddjbchlpfaggaa.TblB
namespace Go.Proofs.Ytddjbchlpfaggaa.TblF
open Go.RowKit Go.Lib Go.Proofs Go.Proofs.Ytddjbchlpfaggaa.TblC
set_option linter.unusedVariables false
set_option linter.unusedSimpArgs false
theorem infoRule : (Try.prog.info? 44).map (·.size) = some 6 := by kernel_rfl
theorem cell_rule {w : World} {n : Nat} {old : Array Value} {u : Ru} (h : w.heap[n]? = some (.cells old 44 (0, 0))) (o : Nat) : (w.setRow n u.cells).cell? ⟨n, o, none⟩ = (#[.int .i64 u.kind, .int .i64 u.head, .int .i64 u.who, .int .i64 u.a, .int .i64 u.b, .int .i64 u.via] : Array Value)[o]? := cell_setRow_same w n o old u.cells _ _ h
theorem one6 (u : Ru) : u.cells.all (·.oneCell') = true :=
  all_oneCell_toArray (cs := [.int .i64 u.kind, .int .i64 u.head, .int .i64 u.who, .int .i64 u.a, .int .i64 u.b, .int .i64 u.via]) (fun v hv => by simp at hv; rcases hv with rfl | rfl | rfl | rfl | rfl | rfl <;> rfl)
end Go.Proofs.Ytddjbchlpfaggaa.TblF
namespace Go.Proofs.Ytddjbchlpfaggaa.TblV
open Go.RowKit Go.Lib Go.Proofs Go.Proofs.Ytddjbchlpfaggaa.TblC
set_option linter.unusedVariables false
set_option linter.unusedSimpArgs false
/-- Rules as cells. -/
def cellsR (L : List Ru) : List Value := L.flatMap fun u => u.cells.toList
theorem cellsR_len (L : List Ru) : (cellsR L).length = L.length * 6 := by
  induction L with
  | nil => rfl
  | cons u L ih => unfold cellsR at *; rw [List.flatMap_cons, List.length_append, ih, List.length_cons, Nat.succ_mul]; show 6 + _ = _; omega
theorem cellsR_app (L K : List Ru) : cellsR (L ++ K) = cellsR L ++ cellsR K := by unfold cellsR; simp
theorem cellsR_at : ∀ (L : List Ru) (j k : Nat) (h : j < L.length), k < 6 → (cellsR L)[j * 6 + k]? = (L[j].cells)[k]?
  | [], _, _, h, _ => absurd h (Nat.not_lt_zero _)
  | u :: L, 0, k, _, hk => by
    have e : cellsR (u :: L) = u.cells.toList ++ cellsR L := by unfold cellsR; simp
    rw [e, Nat.zero_mul, Nat.zero_add, List.getElem?_append_left (by show k < 6; exact hk)]
    simp
  | u :: L, j + 1, k, h, hk => by
    have e : cellsR (u :: L) = u.cells.toList ++ cellsR L := by unfold cellsR; simp
    have h6 : u.cells.toList.length = 6 := rfl
    rw [e, List.getElem?_append_right (by rw [h6]; omega), h6]
    have : (j + 1) * 6 + k - 6 = j * 6 + k := by omega
    rw [this, cellsR_at L j k (by simpa using h) hk]
    simp
/-- A slice value that reads as rules, wherever it lies. -/
def UG (w : World) (A : Option Addr) (L : List Ru) : Prop :=
  0 < L.length → ∃ g o, A = some ⟨g, o, none⟩ ∧ g < w.heap.size ∧ ∀ j, (h : j < L.length) → ∀ k, k < 6 → w.cell? ⟨g, o + j * 6 + k, none⟩ = (L[j].cells)[k]?
theorem UG.below {w w' : World} {A : Option Addr} {L : List Ru} (h : UG w A L) (hb : Below w.heap.size w w') : UG w' A L := fun hp => by
  obtain ⟨g, o, hA, hg, hc⟩ := h hp
  exact ⟨g, o, hA, Nat.lt_of_lt_of_le hg hb.size, fun j hj k hk => (hb.cell (p := ⟨g, o + j * 6 + k, none⟩) hg).trans (hc j hj k hk)⟩
theorem ug_own {w : World} {B : Nat} {v : Value} {L : List Ru} {t : TypeId} (h : w.ownsRow B t 6 v L.length (cellsR L)) : ∃ A ca, v = .slice A L.length ca ∧ UG w A L := by
  have h0 := h
  rcases h.2 with ⟨rfl, hn⟩ | ⟨g, cap, cur, rfl, hb, hg, _⟩
  · exact ⟨none, 0, by rw [hn], fun hp => by omega⟩
  · refine ⟨_, cap, rfl, fun hp => ⟨g, 0, rfl, (Array.getElem?_eq_some_iff.1 hg).1, fun j hj k hk => ?_⟩⟩
    have hx := cellsR_at L j k hj hk
    have hs : k < L[j].cells.size := by show k < 6; exact hk
    rw [Array.getElem?_eq_getElem hs] at hx ⊢
    have := h0.cells (g := g) rfl _ _ hx
    have e : ((⟨g, 0, none⟩ : Addr).add (j * 6 + k)) = ⟨g, j * 6 + k, none⟩ := by unfold Addr.add; split <;> simp_all
    rw [e] at this
    rw [Nat.zero_add]
    exact this
end Go.Proofs.Ytddjbchlpfaggaa.TblV
