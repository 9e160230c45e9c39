/- Tables: put and say, by contract. -/
import Derived.Test.YtnhjnimgjpgfcaaTblB
namespace Go.Proofs.Ytnhjnimgjpgfcaa.TblC
open Go.RowKit Go.Sort Go.Lib Go.Proofs Go.Proofs.Ytnhjnimgjpgfcaa.Plain Go.Proofs.Ytnhjnimgjpgfcaa.SynP Go.Proofs.Ytnhjnimgjpgfcaa.TabP Go.Proofs.Ytnhjnimgjpgfcaa.Tab1 Go.Proofs.Ytnhjnimgjpgfcaa.Tab2 Go.Proofs.Ytnhjnimgjpgfcaa.RolK Go.Proofs.Ytnhjnimgjpgfcaa.TblA Go.Proofs.Ytnhjnimgjpgfcaa.TblB
set_option linter.unusedVariables false
set_option linter.unusedSimpArgs false
/-- A rule's numbers. -/
structure Ru where
  kind : Int
  head : Int
  who : Int
  a : Int
  b : Int
  via : Int
deriving DecidableEq
def Ru.cells (r : Ru) : Array Value := #[.int .i64 r.kind, .int .i64 r.head, .int .i64 r.who, .int .i64 r.a, .int .i64 r.b, .int .i64 r.via]
def Ru.val (r : Ru) : Value := .agg #[.int .i64 r.kind, .int .i64 r.head, .int .i64 r.who, .int .i64 r.a, .int .i64 r.b, .int .i64 r.via]
def zeroU : Ru := ⟨0, 0, 0, 0, 0, 0⟩
/-- The rule lies in block r, and block r alone was written. -/
def RuAt (w : World) (r : Nat) (u : Ru) : Prop := w.heap[r]? = some (.cells u.cells 34 (0, 0))
def Ru.set (u : Ru) (o : Nat) (v : Int) : Ru :=
  if o = 1 then { u with head := v } else if o = 2 then { u with who := v } else if o = 3 then { u with a := v } else if o = 4 then { u with b := v } else if o = 5 then { u with via := v } else u
theorem RuAt.lt {w : World} {r : Nat} {u : Ru} (h : RuAt w r u) : r < w.heap.size := (Array.getElem?_eq_some_iff.1 h).1
theorem RuAt.cell {w : World} {r : Nat} {u : Ru} (h : RuAt w r u) (o : Nat) : w.cell? ⟨r, o, none⟩ = u.cells[o]? := Lib.cell_of_heap h o
theorem RuAt.free {w : World} {r : Nat} {u : Ru} (h : RuAt w r u) (o : Nat) : w.frozen? ⟨r, o, none⟩ = false := frozen_of_row _ _ _ _ _ h
theorem RuAt.put {w : World} {r : Nat} {u : Ru} (h : RuAt w r u) (o : Nat) (h1 : 1 ≤ o) (h5 : o ≤ 5) (v : Int) : RuAt (w.setCell ⟨r, o, none⟩ (.int .i64 v)) r (u.set o v) := by
  unfold RuAt
  rw [heap_setCell_same _ _ _ _ _ _ h]
  congr 2
  match o, h1, h5 with
  | 1, _, _ => rfl
  | 2, _, _ => rfl
  | 3, _, _ => rfl
  | 4, _, _ => rfl
  | 5, _, _ => rfl
theorem RuAt.below {w w' : World} {r : Nat} {u : Ru} (h : RuAt w r u) (hb : RowKit.Below w.heap.size w w') : RuAt w' r u := (hb.block r h.lt).trans h
theorem grew_set (w : World) (a : Addr) (v : Value) : w.grownBy (w.setCell a v) (some a.block) := ⟨rfl, rfl, rfl, by simp [World.setCell], fun k hk hne => Below.heap_setCell _ _ _ _ (fun e => hne (by rw [e]))⟩
theorem below_set {w w1 : World} {a : Addr} {v : Value} (hb : RowKit.Below w.heap.size w w1) : w.grownBy (w1.setCell a v) (some a.block) :=
  ⟨hb.os, hb.tape, hb.output, by simpa [World.setCell] using hb.size, fun k hk hne => (Below.heap_setCell _ _ _ _ (fun e => hne (by rw [e]))).trans (hb.block k hk)⟩
theorem grew_trans {w w1 w2 : World} {r : Nat} (h : w.grownBy w1 (some r)) (h2 : w1.grownBy w2 (some r)) : w.grownBy w2 (some r) :=
  ⟨h2.os.trans h.os, h2.tape.trans h.tape, h2.output.trans h.output, Nat.le_trans h.size h2.size, fun k hk hne => (h2.block k (Nat.lt_of_lt_of_le hk h.size) hne).trans (h.block k hk hne)⟩
theorem grew_below {w w1 w2 : World} {r : Nat} (h : w.grownBy w1 (some r)) (h2 : RowKit.Below w1.heap.size w1 w2) : w.grownBy w2 (some r) :=
  ⟨h2.os.trans h.os, h2.tape.trans h.tape, h2.output.trans h.output, Nat.le_trans h.size h2.size, fun k hk hne => (h2.block k (Nat.lt_of_lt_of_le hk h.size)).trans (h.block k hk hne)⟩
theorem below_grew {w w1 w2 : World} {r : Nat} (h2 : RowKit.Below w.heap.size w w1) (h : w1.grownBy w2 (some r)) : w.grownBy w2 (some r) :=
  ⟨h.os.trans h2.os, h.tape.trans h2.tape, h.output.trans h2.output, Nat.le_trans h2.size h.size, fun k hk hne => (h.block k (Nat.lt_of_lt_of_le hk h2.size) hne).trans (h2.block k hk)⟩
def PutPost (v : Int) (u : Ru) (o r : Nat) (w : World) (e : Ending) (w' : World) : Prop := e = .returned (.bool (decide (0 ≤ v))) ∧ RuAt w' r (u.set o v) ∧ w.grownBy w' (some r)
section
variable {t a b : Nat} {A1 : Option Addr} {c1 : Nat} {A2 : Option Addr} {c2 : Nat} {P L : List Str}
set_option maxRecDepth 100000
theorem putR (w : World) (h : TblK w t a b A1 c1 A2 c2 P L) (x : Rl) (u : Ru) (r o : Nat) (hr : RuAt w r u) (h1 : 1 ≤ o) (h5 : o ≤ 5) :
    Calls Try.prog 36 #[.pointer (some ⟨r, o, none⟩), .func (.func 13) #[.pointer (some ⟨t, 0, none⟩)] #[], x.val] w (PutPost (roleI P L x) u o r w) := by
  have HR := Lib.hid (fun w' hb => role (w := w') (h.keep hb) x)
  have HS : Hid (∀ w1, RowKit.Below w.heap.size w w1 → RuAt w1 r u) := Lib.hid (fun w1 hb => hr.below hb)
  obtain ⟨xo, xn⟩ := x
  generalize roleI P L ⟨xo, xn⟩ = v at *
  unfold Rl.val at *
  simp only at *
  clear h hr
  obtain ⟨z, hz⟩ : ∃ z : Value, u.cells[o]? = some z := by
    have : o < u.cells.size := by show o < 6; omega
    exact ⟨_, Array.getElem?_eq_getElem this⟩
  have HZ := Lib.hid hz
  clear hz
  go_enter Try.func36, Try.ntmps36
  go_wp2_with fail
  refine (HR.out _ ((Below.refl _ _).alloc (Nat.le_refl _) _)).mono ?_
  rintro e w1 ⟨rfl, hb⟩
  have hb1 : RowKit.Below w.heap.size w w1 := ((Below.refl w.heap.size w).alloc (Nat.le_refl _) _).trans (hb.mono (by simp))
  have hru := HS.out w1 hb1
  have hc := (hru.cell o).trans HZ.out
  have hfz := hru.free o
  have hfin : PutPost v u o r w (.returned (.bool (decide (0 ≤ v)))) (w1.setCell ⟨r, o, none⟩ (.int .i64 v)) := ⟨rfl, hru.put o h1 h5 v, below_set hb1⟩
  have HFin := Lib.hid hfin
  clear hb hb1 hru hfin
  go_wp2_with fail
  go_ret
  exact HFin.out
theorem putS (w : World) (tt : Nat) (T : List Str) (A : Option Addr) (c : Nat) (hn : T.length ≤ 1000000) (hs : T.Pairwise (· < ·)) (hT : SRow w A T) (htt : tt < w.heap.size) (h0 : w.cell? ⟨tt, 0, none⟩ = some (.slice A T.length c)) (x : ByteArray) (u : Ru) (r o : Nat) (hr : RuAt w r u) (h1 : 1 ≤ o) (h5 : o ≤ 5) :
    Calls Try.prog 60 #[.pointer (some ⟨r, o, none⟩), .func (.func 39) #[.pointer (some ⟨tt, 0, none⟩)] #[], .string x] w (PutPost (findI T x.toList) u o r w) := by
  have HR := Lib.hid (Tab2.find tt T A c x w hn hs hT htt h0)
  have HS : Hid (∀ w1, RowKit.Below w.heap.size w w1 → RuAt w1 r u) := Lib.hid (fun w1 hb => hr.below hb)
  unfold FindPost at HR
  generalize findI T x.toList = v at *
  clear hr hT h0 hs htt
  obtain ⟨z, hz⟩ : ∃ z : Value, u.cells[o]? = some z := by
    have : o < u.cells.size := by show o < 6; omega
    exact ⟨_, Array.getElem?_eq_getElem this⟩
  have HZ := Lib.hid hz
  clear hz
  go_enter Try.func60, Try.ntmps60
  go_wp2_with fail
  refine HR.out.mono ?_
  rintro e w1 ⟨rfl, hb1⟩
  have hru := HS.out w1 hb1
  have hc := (hru.cell o).trans HZ.out
  have hfz := hru.free o
  have hfin : PutPost v u o r w (.returned (.bool (decide (0 ≤ v)))) (w1.setCell ⟨r, o, none⟩ (.int .i64 v)) := ⟨rfl, hru.put o h1 h5 v, below_set hb1⟩
  have HFin := Lib.hid hfin
  clear hb1 hru hfin
  go_wp2_with fail
  go_ret
  exact HFin.out
end
end Go.Proofs.Ytnhjnimgjpgfcaa.TblC
