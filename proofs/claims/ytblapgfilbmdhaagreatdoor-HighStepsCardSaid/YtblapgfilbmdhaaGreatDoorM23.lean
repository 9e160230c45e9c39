/- state: About, MayCome, MayGo, Added, Gone, Reaches, by contract. -/
import Derived.Test.YtblapgfilbmdhaaGreatDoorM22
import Derived.Test.YtblapgfilbmdhaaGreatDoorM21
import Derived.Test.YtblapgfilbmdhaaGreatDoorM01
import Derived.Test.YtblapgfilbmdhaaGreatDoorProg
import Derived.WalkKit
import Derived.Below
import Derived.Lib.Hide
import Derived.Lib.Builder
import Derived.Outline
import Derived.Laws.Bits64b
import Derived.Deep.MidRow
import Derived.Laws.MakeOwn
import Derived.RegionTactic
import Derived.Deep.RegionWith
import Derived.Deep.QuietTactic
import Derived.BigQuiet
import Derived.ProofKit
import Derived.IntWalk
import Derived.WalkLawsBesides
import Derived.WalkSpells
import Derived.Deep.RegionHeld3
import Derived.Test.YtblapgfilbmdhaaGreatDoorM13
import Derived.Test.YtblapgfilbmdhaaGreatDoorM06
import Derived.Test.YtblapgfilbmdhaaGreatDoorM08
import Derived.Test.YtblapgfilbmdhaaGreatDoorM12
import Derived.StillTailTactics
import Derived.Laws.Rows
set_option linter.unusedVariables false
set_option linter.unusedSimpArgs false
namespace Go.Proofs.YtblapgfilbmdhaaGreatDoor.StG
open Go.Shelf Go.RowKit Go.Sort Go.Lib Go.Proofs Plain SynP Grown SynC SynD SynD2 SynD3 QryP PolA PolE StA StB StC StD StE StF
def PBox (w : World) (b : Nat) (p : Py) : Prop := ∃ A1 A2 A3 A4 c1 c2 c3 c4, w.heap[b]? = some (.cells #[.slice A1 p.stmts.length c1, .slice A2 p.grow.length c2, .slice A3 p.shrink.length c3, .slice A4 p.asks.length c4] 26 (0, 0)) ∧ RG w A2 p.grow ∧ RG w A3 p.shrink
theorem PBox.below {w w' : World} {b : Nat} {p : Py} (h : PBox w b p) (hb : Below w.heap.size w w') : PBox w' b p := by
  obtain ⟨A1, A2, A3, A4, c1, c2, c3, c4, h1, h2, h3⟩ := h
  exact ⟨A1, A2, A3, A4, c1, c2, c3, c4, (hb.block b (Array.getElem?_eq_some_iff.1 h1).1).trans h1, h2.below hb, h3.below hb⟩
end Go.Proofs.YtblapgfilbmdhaaGreatDoor.StG
namespace Go.Proofs.YtblapgfilbmdhaaGreatDoor.LwG
open Go.Shelf Go.RowKit Go.Sort Go.Lib Go.Proofs Plain SynP Grown SynC SynD SynD2 SynD3 SynD7 SynD8 PolA PolE StA StB StC StD StG
def stays (p : Py) (s : St) : Bool := decide (s.head ∈ p.shrink)
def minS (p : Py) : List St := p.stmts.filter (stays p)
end Go.Proofs.YtblapgfilbmdhaaGreatDoor.LwG
namespace Go.Proofs.YtblapgfilbmdhaaGreatDoor.TblC
open Go.RowKit Go.Lib Go.Proofs Plain
structure Ru where
  kind : Int
  head : Int
  who : Int
  a : Int
  b : Int
  via : Int
deriving DecidableEq
def Ru.cells (r : Ru) : Array Value := #[.int .i64 r.kind, .int .i64 r.head, .int .i64 r.who, .int .i64 r.a, .int .i64 r.b, .int .i64 r.via]
def Ru.val (r : Ru) : Value := .agg #[.int .i64 r.kind, .int .i64 r.head, .int .i64 r.who, .int .i64 r.a, .int .i64 r.b, .int .i64 r.via]
def zeroU : Ru := ⟨0, 0, 0, 0, 0, 0⟩
def RuAt (w : World) (r : Nat) (u : Ru) : Prop := w.heap[r]? = some (.cells u.cells 150 (0, 0))
def Ru.set (u : Ru) (o : Nat) (v : Int) : Ru :=
  if o = 1 then { u with head := v } else if o = 2 then { u with who := v } else if o = 3 then { u with a := v } else if o = 4 then { u with b := v } else if o = 5 then { u with via := v } else u
theorem RuAt.lt {w : World} {r : Nat} {u : Ru} (h : RuAt w r u) : r < w.heap.size := (Array.getElem?_eq_some_iff.1 h).1
theorem RuAt.cell {w : World} {r : Nat} {u : Ru} (h : RuAt w r u) (o : Nat) : w.cell? ⟨r, o, none⟩ = u.cells[o]? := Lib.cell_of_heap h o
theorem RuAt.free {w : World} {r : Nat} {u : Ru} (h : RuAt w r u) (o : Nat) : w.frozen? ⟨r, o, none⟩ = false := frozen_of_row _ _ _ _ _ h
theorem RuAt.put {w : World} {r : Nat} {u : Ru} (h : RuAt w r u) (o : Nat) (h1 : 1 ≤ o) (h5 : o ≤ 5) (v : Int) : RuAt (w.setCell ⟨r, o, none⟩ (.int .i64 v)) r (u.set o v) := by
  unfold RuAt
  rw [heap_setCell_same _ _ _ _ _ _ h]
  congr 2
  match o, h1, h5 with
  | 1, _, _ => rfl
  | 2, _, _ => rfl
  | 3, _, _ => rfl
  | 4, _, _ => rfl
  | 5, _, _ => rfl
theorem RuAt.below {w w' : World} {r : Nat} {u : Ru} (h : RuAt w r u) (hb : RowKit.Below w.heap.size w w') : RuAt w' r u := (hb.block r h.lt).trans h
theorem below_set {w w1 : World} {a : Addr} {v : Value} (hb : RowKit.Below w.heap.size w w1) : w.grownBy (w1.setCell a v) (some a.block) :=
  ⟨hb.os, hb.tape, hb.output, by simpa [World.setCell] using hb.size, fun k hk hne => (Below.heap_setCell _ _ _ _ (fun e => hne (by rw [e]))).trans (hb.block k hk)⟩
theorem grew_trans {w w1 w2 : World} {r : Nat} (h : w.grownBy w1 (some r)) (h2 : w1.grownBy w2 (some r)) : w.grownBy w2 (some r) :=
  ⟨h2.os.trans h.os, h2.tape.trans h.tape, h2.output.trans h.output, Nat.le_trans h.size h2.size, fun k hk hne => (h2.block k (Nat.lt_of_lt_of_le hk h.size) hne).trans (h.block k hk hne)⟩
theorem below_grew {w w1 w2 : World} {r : Nat} (h2 : RowKit.Below w.heap.size w w1) (h : w1.grownBy w2 (some r)) : w.grownBy w2 (some r) :=
  ⟨h.os.trans h2.os, h.tape.trans h2.tape, h.output.trans h2.output, Nat.le_trans h2.size h.size, fun k hk hne => (h.block k (Nat.lt_of_lt_of_le hk h2.size) hne).trans (h2.block k hk)⟩
def PutPost (v : Int) (u : Ru) (o r : Nat) (w : World) (e : Ending) (w' : World) : Prop := e = .returned (.bool (decide (0 ≤ v))) ∧ RuAt w' r (u.set o v) ∧ w.grownBy w' (some r)
end Go.Proofs.YtblapgfilbmdhaaGreatDoor.TblC
namespace Go.Proofs.YtblapgfilbmdhaaGreatDoor.TblB
open Go.RowKit Go.Lib Go.Proofs
theorem below_setRow {B : Nat} {a w : World} (h : RowKit.Below B a w) {g : Nat} (hg : B ≤ g) (cs : Array Value) : RowKit.Below B a (w.setRow g cs) :=
  ⟨h.os, h.tape, h.output, by simpa using h.size, fun k hk => (setRow_other _ _ _ _ (by omega)).trans (h.block k hk)⟩
end Go.Proofs.YtblapgfilbmdhaaGreatDoor.TblB
namespace Go.Proofs.YtblapgfilbmdhaaGreatDoor.TblF
open Go.RowKit Go.Lib Go.Proofs TblC
theorem infoRule : (Tryz.prog.info? 150).map (·.size) = some 6 := by kernel_rfl
theorem cell_rule {w : World} {n : Nat} {old : Array Value} {u : Ru} (h : w.heap[n]? = some (.cells old 150 (0, 0))) (o : Nat) : (w.setRow n u.cells).cell? ⟨n, o, none⟩ = (#[.int .i64 u.kind, .int .i64 u.head, .int .i64 u.who, .int .i64 u.a, .int .i64 u.b, .int .i64 u.via] : Array Value)[o]? := cell_setRow_same w n o old u.cells _ _ h
theorem one6 (u : Ru) : u.cells.all (·.oneCell') = true :=
  all_oneCell_toArray (cs := [.int .i64 u.kind, .int .i64 u.head, .int .i64 u.who, .int .i64 u.a, .int .i64 u.b, .int .i64 u.via]) (fun v hv => by simp at hv; rcases hv with rfl | rfl | rfl | rfl | rfl | rfl <;> rfl)
end Go.Proofs.YtblapgfilbmdhaaGreatDoor.TblF
namespace Go.Proofs.YtblapgfilbmdhaaGreatDoor.TblV
open Go.RowKit Go.Lib Go.Proofs TblC
def cellsR (L : List Ru) : List Value := L.flatMap fun u => u.cells.toList
theorem cellsR_len (L : List Ru) : (cellsR L).length = L.length * 6 := by
  induction L with
  | nil => rfl
  | cons u L ih => unfold cellsR at *; rw [List.flatMap_cons, List.length_append, ih, List.length_cons, Nat.succ_mul]; show 6 + _ = _; omega
theorem cellsR_app (L K : List Ru) : cellsR (L ++ K) = cellsR L ++ cellsR K := by unfold cellsR; simp
theorem cellsR_at : ∀ (L : List Ru) (j k : Nat) (h : j < L.length), k < 6 → (cellsR L)[j * 6 + k]? = (L[j].cells)[k]?
  | [], _, _, h, _ => absurd h (Nat.not_lt_zero _)
  | u :: L, 0, k, _, hk => by
    have e : cellsR (u :: L) = u.cells.toList ++ cellsR L := by unfold cellsR; simp
    rw [e, Nat.zero_mul, Nat.zero_add, List.getElem?_append_left (by show k < 6; exact hk)]
    simp
  | u :: L, j + 1, k, h, hk => by
    have e : cellsR (u :: L) = u.cells.toList ++ cellsR L := by unfold cellsR; simp
    have h6 : u.cells.toList.length = 6 := rfl
    rw [e, List.getElem?_append_right (by rw [h6]; omega), h6]
    have : (j + 1) * 6 + k - 6 = j * 6 + k := by omega
    rw [this, cellsR_at L j k (by simpa using h) hk]
    simp
def UG (w : World) (A : Option Addr) (L : List Ru) : Prop :=
  0 < L.length → ∃ g o, A = some ⟨g, o, none⟩ ∧ g < w.heap.size ∧ ∀ j, (h : j < L.length) → ∀ k, k < 6 → w.cell? ⟨g, o + j * 6 + k, none⟩ = (L[j].cells)[k]?
theorem UG.below {w w' : World} {A : Option Addr} {L : List Ru} (h : UG w A L) (hb : Below w.heap.size w w') : UG w' A L := fun hp => by
  obtain ⟨g, o, hA, hg, hc⟩ := h hp
  exact ⟨g, o, hA, Nat.lt_of_lt_of_le hg hb.size, fun j hj k hk => (hb.cell (p := ⟨g, o + j * 6 + k, none⟩) hg).trans (hc j hj k hk)⟩
theorem ug_own {w : World} {B : Nat} {v : Value} {L : List Ru} {t : TypeId} (h : w.ownsRow B t 6 v L.length (cellsR L)) : ∃ A ca, v = .slice A L.length ca ∧ UG w A L := by
  have h0 := h
  rcases h.2 with ⟨rfl, hn⟩ | ⟨g, cap, cur, rfl, hb, hg, _⟩
  · exact ⟨none, 0, by rw [hn], fun hp => by omega⟩
  · refine ⟨_, cap, rfl, fun hp => ⟨g, 0, rfl, (Array.getElem?_eq_some_iff.1 hg).1, fun j hj k hk => ?_⟩⟩
    have hx := cellsR_at L j k hj hk
    have hs : k < L[j].cells.size := by show k < 6; exact hk
    rw [Array.getElem?_eq_getElem hs] at hx ⊢
    have := h0.cells (g := g) rfl _ _ hx
    have e : ((⟨g, 0, none⟩ : Addr).add (j * 6 + k)) = ⟨g, j * 6 + k, none⟩ := by unfold Addr.add; split <;> simp_all
    rw [e] at this
    rw [Nat.zero_add]
    exact this
end Go.Proofs.YtblapgfilbmdhaaGreatDoor.TblV
namespace Go.Proofs.YtblapgfilbmdhaaGreatDoor.RolK
open Go.RowKit
theorem keepB {W w1 w2 : World} {n : Nat} {f : Nat → Option Value} (h : RowKit.Below W.heap.size W w1 ∧ (∀ o, w1.cell? ⟨n, o, none⟩ = f o)) (hn : n < W.heap.size) (hb : RowKit.Below w1.heap.size w1 w2) : RowKit.Below W.heap.size W w2 ∧ (∀ o, w2.cell? ⟨n, o, none⟩ = f o) := by
  have hs := h.1.size
  exact ⟨h.1.trans (hb.mono hs), fun o => (hb.cell (p := ⟨n, o, none⟩) (by show n < _; omega)).trans (h.2 o)⟩
end Go.Proofs.YtblapgfilbmdhaaGreatDoor.RolK
namespace Go.Proofs.YtblapgfilbmdhaaGreatDoor.TblA
open Go.RowKit Go.Sort Go.Lib Go.Proofs Plain SynP TabP Tab1 Tab2 RolK
structure TblK (w : World) (t a b : Nat) (A1 : Option Addr) (c1 : Nat) (A2 : Option Addr) (c2 : Nat) (P L : List Str) : Prop where
  t0 : w.cell? ⟨t, 0, none⟩ = some (.pointer (some ⟨a, 0, none⟩))
  t1 : w.cell? ⟨t, 1, none⟩ = some (.pointer (some ⟨b, 0, none⟩))
  a0 : w.cell? ⟨a, 0, none⟩ = some (.slice A1 P.length c1)
  b0 : w.cell? ⟨b, 0, none⟩ = some (.slice A2 L.length c2)
  ra : SRow w A1 P
  rb : SRow w A2 L
  lt : t < w.heap.size ∧ a < w.heap.size ∧ b < w.heap.size
  sp : P.Pairwise (· < ·)
  sl : L.Pairwise (· < ·)
  pl : P.length ≤ 100000
  ll : L.length ≤ 100000
theorem TblK.keep {w w' : World} {t a b : Nat} {A1 : Option Addr} {c1 : Nat} {A2 : Option Addr} {c2 : Nat} {P L : List Str} (h : TblK w t a b A1 c1 A2 c2 P L) (hb : RowKit.Below w.heap.size w w') : TblK w' t a b A1 c1 A2 c2 P L :=
  ⟨(hb.cell (p := ⟨t, 0, none⟩) h.lt.1).trans h.t0, (hb.cell (p := ⟨t, 1, none⟩) h.lt.1).trans h.t1, (hb.cell (p := ⟨a, 0, none⟩) h.lt.2.1).trans h.a0, (hb.cell (p := ⟨b, 0, none⟩) h.lt.2.2).trans h.b0, h.ra.keep hb, h.rb.keep hb, ⟨Nat.lt_of_lt_of_le h.lt.1 hb.size, Nat.lt_of_lt_of_le h.lt.2.1 hb.size, Nat.lt_of_lt_of_le h.lt.2.2 hb.size⟩, h.sp, h.sl, h.pl, h.ll⟩
section
variable {w : World} {t a b : Nat} {A1 : Option Addr} {c1 : Nat} {A2 : Option Addr} {c2 : Nat} {P L : List Str}
set_option maxRecDepth 100000
theorem prins (h : TblK w t a b A1 c1 A2 c2 P L) : Calls Tryz.prog 55 #[.pointer (some ⟨t, 0, none⟩)] w fun e w' => e = .returned (.pointer (some ⟨a, 0, none⟩)) ∧ w = w' := by
  have h0 := h.t0
  clear h
  go_enter Tryz.func55, Tryz.ntmps55
  go_wp2
  go_ret
  exact ⟨rfl, rfl⟩
theorem links (h : TblK w t a b A1 c1 A2 c2 P L) : Calls Tryz.prog 99 #[.pointer (some ⟨t, 0, none⟩)] w fun e w' => e = .returned (.pointer (some ⟨b, 0, none⟩)) ∧ w = w' := by
  have h0 := h.t1
  clear h
  go_enter Tryz.func99, Tryz.ntmps99
  go_wp2
  go_ret
  exact ⟨rfl, rfl⟩
theorem findI_bd (T : List Str) (s : Str) : -1 ≤ findI T s ∧ findI T s < T.length := by
  unfold findI
  split
  · rename_i h
    have := List.idxOf_lt_length_of_mem h
    omega
  · omega
def roleI (P L : List Str) (r : Rl) : Int := if findI P r.owner.toList < 0 ∨ findI L r.name.toList < 0 then -1 else findI P r.owner.toList * L.length + findI L r.name.toList
theorem roleI_bd (P L : List Str) (r : Rl) : -1 ≤ roleI P L r ∧ roleI P L r < P.length * L.length ∨ roleI P L r = -1 := by
  unfold roleI
  split
  · exact Or.inr rfl
  · rename_i h
    have h1 := findI_bd P r.owner.toList
    have h2 := findI_bd L r.name.toList
    generalize findI P r.owner.toList = x at *
    generalize findI L r.name.toList = y at *
    have h3 : (x + 1) * (L.length : Int) ≤ P.length * L.length := Int.mul_le_mul_of_nonneg_right (by omega) (by omega)
    have h4 : (x + 1) * (L.length : Int) = x * L.length + L.length := by rw [Int.add_mul, Int.one_mul]
    have h5 : 0 ≤ x * (L.length : Int) := Int.mul_nonneg (by omega) (by omega)
    left; omega
set_option maxHeartbeats 1000000 in
theorem role (h : TblK w t a b A1 c1 A2 c2 P L) (r : Rl) : Calls Tryz.prog 54 #[.pointer (some ⟨t, 0, none⟩), r.val] w fun e w' => e = .returned (.int .i64 (roleI P L r)) ∧ RowKit.Below w.heap.size w w' := by
  have hp := h.pl
  have hl := h.ll
  have b1 := findI_bd P r.owner.toList
  have b2 := findI_bd L r.name.toList
  have H1 : Hid (∀ w', RowKit.Below w.heap.size w w' → Calls Tryz.prog 55 #[.pointer (some ⟨t, 0, none⟩)] w' fun e w'' => e = .returned (.pointer (some ⟨a, 0, none⟩)) ∧ w' = w'') := Lib.hid (fun w' hb => prins (h.keep hb))
  have H2 : Hid (∀ w', RowKit.Below w.heap.size w w' → Calls Tryz.prog 99 #[.pointer (some ⟨t, 0, none⟩)] w' fun e w'' => e = .returned (.pointer (some ⟨b, 0, none⟩)) ∧ w' = w'') := Lib.hid (fun w' hb => links (h.keep hb))
  have H3 : Hid (∀ w', RowKit.Below w.heap.size w w' → Calls Tryz.prog 102 #[.pointer (some ⟨a, 0, none⟩), .string r.owner] w' fun e w'' => e = .returned (.int .i64 (findI P r.owner.toList)) ∧ RowKit.Below w'.heap.size w' w'') := Lib.hid (fun w' hb => Tab2.find a P A1 c1 r.owner w' (by omega) h.sp (h.keep hb).ra (h.keep hb).lt.2.1 (h.keep hb).a0)
  have H4 : Hid (∀ w', RowKit.Below w.heap.size w w' → Calls Tryz.prog 102 #[.pointer (some ⟨b, 0, none⟩), .string r.name] w' fun e w'' => e = .returned (.int .i64 (findI L r.name.toList)) ∧ RowKit.Below w'.heap.size w' w'') := Lib.hid (fun w' hb => Tab2.find b L A2 c2 r.name w' (by omega) h.sl (h.keep hb).rb (h.keep hb).lt.2.2 (h.keep hb).b0)
  have H5 : Hid (∀ w', RowKit.Below w.heap.size w w' → Calls Tryz.prog 98 #[.pointer (some ⟨b, 0, none⟩)] w' fun e w'' => e = .returned (.int .i64 L.length) ∧ w' = w'') := Lib.hid (fun w' hb => Tab1.len w' b A2 L.length c2 (h.keep hb).b0)
  obtain ⟨ro, rn⟩ := r
  have hR : ∃ v, roleI P L ⟨ro, rn⟩ = v := ⟨_, rfl⟩
  obtain ⟨v, hv⟩ := hR
  rw [hv]
  unfold roleI at hv
  unfold Rl.val
  simp only at *
  generalize findI P ro.toList = x at *
  generalize findI L rn.toList = y at *
  generalize P.length = n1 at *
  generalize L.length = n2 at *
  have HV := Lib.hid hv
  clear h hv
  have hX := (Below.refl w.heap.size w).alloc (Nat.le_refl _) (.cells #[.string ro, .string rn] 28)
  generalize hW6 : w.alloc (.cells #[.string ro, .string rn] 28) = w6 at hX
  have hz6 : w6.heap.size = w.heap.size + 1 := by rw [← hW6]; simp
  have u1 : ∀ o, w6.drew.cell? ⟨w.heap.size, o, none⟩ = (#[.string ro, .string rn] : Array Value)[o]? := fun o => by
    show w6.cell? _ = _
    rw [← hW6]; exact Lib.cell_of_heap (heap_alloc_new w _) o
  have hz7 : w.heap.size < w6.heap.size := by omega
  have hst : RowKit.Below w6.heap.size w6 w6.drew ∧ (∀ o, w6.drew.cell? ⟨w.heap.size, o, none⟩ = (#[.string ro, .string rn] : Array Value)[o]?) := ⟨(Below.refl _ _).drew, u1⟩
  have HX := Lib.hid (fun w' (hb : RowKit.Below w6.heap.size w6 w') => hX.trans (hb.mono (by omega)))
  clear u1 hX
  go_enter Tryz.func54, Tryz.ntmps54
  go_wp2_with fail
  try rw [hW6]
  go_region_held3 (fun w' => RowKit.Below w6.heap.size w6 w' ∧ (∀ o, w'.cell? ⟨w.heap.size, o, none⟩ = (#[.string ro, .string rn] : Array Value)[o]?))
    (first | with_reducible exact hst | with_reducible assumption | exact keepB (by with_reducible assumption) hz7 (by with_reducible assumption))
    (first | (go_at_call 55; refine (H1.out _ (HX.out _ (by apply And.left; with_reducible assumption))).mono ?_; rintro e w' ⟨rfl, rfl⟩) | (go_at_call 99; refine (H2.out _ (HX.out _ (by apply And.left; with_reducible assumption))).mono ?_; rintro e w' ⟨rfl, rfl⟩) | ((with_reducible refine (H3.out _ (HX.out _ (by apply And.left; with_reducible assumption))).mono ?_); rintro e w' ⟨rfl, hgb⟩) | ((with_reducible refine (H4.out _ (HX.out _ (by apply And.left; with_reducible assumption))).mono ?_); rintro e w' ⟨rfl, hgb⟩))
  rename_i hHeld
  have HH := Lib.hid hHeld
  have hBel := Lib.hid (HX.out _ hHeld.1)
  clear hHeld hst
  by_cases hx : x < 0
  · have hv := HV.out
    rw [if_pos (Or.inl hx)] at hv
    subst hv
    go_wp2_with fail
    go_ret
    exact ⟨rfl, hBel.out⟩
  · by_cases hy : y < 0
    · have hv := HV.out
      rw [if_pos (Or.inr hy)] at hv
      subst hv
      go_wp2_with fail
      go_ret
      exact ⟨rfl, hBel.out⟩
    · have hv := HV.out
      rw [if_neg (by omega)] at hv
      have H5' := Lib.hid (H5.out _ hBel.out)
      obtain ⟨x', rfl⟩ : ∃ q : Nat, x = q := ⟨x.toNat, by omega⟩
      obtain ⟨y', rfl⟩ : ∃ q : Nat, y = q := ⟨y.toNat, by omega⟩
      have hq : x' * n2 ≤ 10000000000 := Nat.mul_le_mul (show x' ≤ 100000 by omega) hl
      have hw : wrap64 (wrap64 ((x' : Int) * (n2 : Int)) + (y' : Int)) = v := by
        rw [← hv, ← Int.natCast_mul]; unfold wrap64; omega
      have HW := Lib.hid hw
      clear hv hw hq
      go_wp2_with (first | ((with_reducible refine (H2.out _ hBel.out).mono ?_); rintro e w' ⟨rfl, rfl⟩) | ((with_reducible refine H5'.out.mono ?_); rintro e w' ⟨rfl, rfl⟩))
      go_ret
      exact ⟨ret_int HW.out, hBel.out⟩
end
end Go.Proofs.YtblapgfilbmdhaaGreatDoor.TblA
namespace Go.Proofs.YtblapgfilbmdhaaGreatDoor.TblB
open Go.RowKit Go.Lib Go.Proofs Plain
def IG (w : World) (A : Option Addr) (zs : List Int) : Prop :=
  0 < zs.length → ∃ g o, A = some ⟨g, o, none⟩ ∧ g < w.heap.size ∧ ∀ j, (h : j < zs.length) → w.cell? ⟨g, o + j, none⟩ = some (.int .i64 zs[j])
theorem IG.below {w w' : World} {A : Option Addr} {zs : List Int} (h : IG w A zs) (hb : RowKit.Below w.heap.size w w') : IG w' A zs := fun hp => by
  obtain ⟨g, o, hA, hg, hc⟩ := h hp
  exact ⟨g, o, hA, Nat.lt_of_lt_of_le hg hb.size, fun j hj => (hb.cell (p := ⟨g, o + j, none⟩) hg).trans (hc j hj)⟩
theorem IG.lit (X : World) (g : Nat) (zs : List Int) (t : TypeId) (hg : X.heap[g]? = some (.cells (zs.map fun z => Value.int .i64 z).toArray t (0, 0))) : IG X (some ⟨g, 0, none⟩) zs := fun _ => by
  refine ⟨g, 0, rfl, (Array.getElem?_eq_some_iff.1 hg).1, fun j hj => ?_⟩
  rw [Lib.cell_of_heap hg, Nat.zero_add]
  simp [hj]
def inB (n z : Int) : Bool := decide (0 ≤ z ∧ z < n)
def allB (n : Int) (zs : List Int) : Bool := zs.all (inB n)
section
set_option maxRecDepth 100000
theorem fnB (z n : Int) (b : Nat) (w : World) (hb : w.cell? ⟨b, 0, none⟩ = some (.int .i64 n)) :
    Calls Tryz.prog 252 #[.int .i64 z, .pointer (some ⟨b, 0, none⟩)] w fun e w' => e = .returned (.bool (!inB n z)) ∧ w = w' := by
  by_cases h0 : z < 0
  · have hf : inB n z = false := decide_eq_false (by omega)
    rw [hf]
    clear hf
    go_enter Tryz.func252, Tryz.ntmps252
    go_wp2
    go_ret
    exact ⟨rfl, rfl⟩
  · by_cases h1 : n ≤ z
    · have hf : inB n z = false := decide_eq_false (by omega)
      rw [hf]
      clear hf
      go_enter Tryz.func252, Tryz.ntmps252
      go_wp2
      go_ret
      exact ⟨rfl, rfl⟩
    · have hf : inB n z = true := decide_eq_true (by omega)
      rw [hf]
      clear hf
      go_enter Tryz.func252, Tryz.ntmps252
      go_wp2
      go_ret
      exact ⟨rfl, rfl⟩
theorem all_no {n : Int} {zs : List Int} {k : Nat} (h : k < zs.length) (hk : inB n zs[k] = false) : allB n zs = false := by
  unfold allB
  rw [List.all_eq_false]
  exact ⟨zs[k], List.getElem_mem _, by simp [hk]⟩
theorem all_yes {n : Int} {zs : List Int} (h : ∀ k, (hk : k < zs.length) → inB n zs[k] = true) : allB n zs = true := by
  unfold allB
  rw [List.all_eq_true]
  intro x hx
  obtain ⟨k, hk, rfl⟩ := List.getElem_of_mem hx
  exact h k hk
theorem idxB (A : Option Addr) (ca : Nat) (zs : List Int) (n : Int) (b : Nat) (w : World) (hT : zs.length ≤ 10000) (hA : IG w A zs) (hb : w.cell? ⟨b, 0, none⟩ = some (.int .i64 n)) :
    Calls Tryz.prog 278 #[.slice A zs.length ca, .func (.func 252) #[] #[.pointer (some ⟨b, 0, none⟩)]] w fun e w' => ∃ r : Int, e = .returned (.int .i64 r) ∧ decide (0 ≤ r) = !allB n zs ∧ w = w' := by
  have HA := Lib.hid hA
  have HB := Lib.hid hb
  clear hA hb
  go_enter Tryz.func278, Tryz.ntmps278
  go_wp2_with fail
  go_loop [8] (fun i => ∃ k : Nat, k ≤ zs.length ∧ i = .int .i64 k ∧ Hid (∀ j, j < k → (h : j < zs.length) → inB n zs[j] = true)) (fun i => zs.length - (intOf i).toNat)
  case atStart => exact ⟨0, by omega, rfl, Lib.hid (fun j hj => by omega)⟩
  case round =>
    obtain ⟨k, hk, rfl, hall⟩ := hrel
    by_cases hlt : k < zs.length
    · obtain ⟨g, o, rfl, hg, hc⟩ := HA.out (by omega)
      have a0 := hc k hlt
      have H := Lib.hid (fnB zs[k] n b w HB.out)
      have p1 : (0 : Int) ≤ k := by omega
      have p2 : (k : Int) < zs.length := by omega
      clear hc
      cases hp : inB n zs[k]
      · rw [hp] at H
        have hfin := Lib.hid (show decide ((0 : Int) ≤ k) = !allB n zs by rw [decide_eq_true p1, all_no hlt hp]; rfl)
        clear hp hall
        go_wp2_with fail
        refine H.out.mono ?_
        rintro e w1 ⟨rfl, rfl⟩
        go_wp2_with fail
        go_ret
        exact ⟨k, rfl, hfin.out, rfl⟩
      · rw [hp] at H
        have hnext : Hid (∀ j, j < k + 1 → (h : j < zs.length) → inB n zs[j] = true) := Lib.hid fun j hj h => by
          by_cases e : j = k
          · subst e; exact hp
          · exact hall.out j (by omega) h
        clear hp hall
        go_wp2_with fail
        refine H.out.mono ?_
        rintro e w1 ⟨rfl, rfl⟩
        go_wp2_with fail
        go_round
        case rel => exact ⟨k + 1, by omega, by go_num, hnext⟩
        case measure => simp [intOf]; omega
    · have hfin := Lib.hid (show decide ((0 : Int) ≤ -1) = !allB n zs by rw [all_yes fun j hj => hall.out j (by omega) hj]; rfl)
      clear hall
      go_wp2_with fail
      go_ret
      exact ⟨-1, rfl, hfin.out, rfl⟩
theorem conB (A : Option Addr) (ca : Nat) (zs : List Int) (n : Int) (b : Nat) (w : World) (hT : zs.length ≤ 10000) (hA : IG w A zs) (hb : w.cell? ⟨b, 0, none⟩ = some (.int .i64 n)) :
    Calls Tryz.prog 251 #[.slice A zs.length ca, .func (.func 252) #[] #[.pointer (some ⟨b, 0, none⟩)]] w fun e w' => e = .returned (.bool (!allB n zs)) ∧ w = w' := by
  have H := Lib.hid (idxB A ca zs n b w hT hA hb)
  generalize (!allB n zs) = r at *
  clear hA hb
  go_enter Tryz.func251, Tryz.ntmps251
  go_wp2_with fail
  refine H.out.mono ?_
  rintro e w1 ⟨i, rfl, hi, rfl⟩
  have HI := Lib.hid hi
  clear hi
  go_wp2_with fail
  go_ret
  exact ⟨ret_bool HI.out, rfl⟩
theorem below (A : Option Addr) (ca : Nat) (zs : List Int) (n : Int) (w : World) (hT : zs.length ≤ 10000) (hA : IG w A zs) :
    Calls Tryz.prog 224 #[.int .i64 n, .slice A zs.length ca] w fun e w' => e = .returned (.bool (allB n zs)) ∧ RowKit.Below w.heap.size w w' := by
  have hmf : ∀ (fn : Fn) (first cap : Array Value) (w : World), (Instr.makeFunc fn first cap).run Tryz.prog w = .ok (.func fn first cap) w := fun _ _ _ _ => rfl
  have H := Lib.hid (conB A ca zs n w.heap.size (w.alloc (.cells #[.int .i64 n] 3)) hT (hA.below ((Below.refl _ _).alloc (Nat.le_refl _) _)) (by rw [Lib.cell_of_heap (heap_alloc_new w _)]; rfl))
  generalize allB n zs = r at *
  clear hA
  go_enter Tryz.func224, Tryz.ntmps224
  go_wp2_with fail
  refine H.out.mono ?_
  rintro e w1 ⟨rfl, rfl⟩
  go_wp2_with fail
  go_ret
  exact ⟨by simp, (Below.refl _ _).alloc (Nat.le_refl _) _⟩
end
end Go.Proofs.YtblapgfilbmdhaaGreatDoor.TblB
