/- Tables: whether numbers are within a bound (below), and RoleAt, by contract. -/
import Derived.Test.YtblapgfilbmdhaaGreatDoorM23
import Derived.StillTailTactics
import Derived.Laws.Rows
import Derived.Deep.MidRow
import Derived.Test.YtblapgfilbmdhaaGreatDoorM06
import Derived.Test.YtblapgfilbmdhaaGreatDoorM08
import Derived.Deep.QuietTactic
import Derived.BigQuiet
import Derived.Deep.CutBlock
import Derived.Deep.LoopGhost
import Derived.Test.YtblapgfilbmdhaaGreatDoorM04
import Derived.Test.YtblapgfilbmdhaaGreatDoorM11
import Derived.Test.YtblapgfilbmdhaaGreatDoorM20
import Derived.Test.YtblapgfilbmdhaaGreatDoorM21
import Derived.Deep.RegionHeld3
import Derived.Deep.Cut
import Derived.Maps.AppendAt
set_option linter.unusedVariables false
set_option linter.unusedSimpArgs false
namespace Go.Proofs.YtblapgfilbmdhaaGreatDoor.TblB
open Go.RowKit Go.Sort Go.Lib Go.Proofs Plain SynP TabP Tab1 Tab2 RolK TblA
section
variable {w : World} {t a b : Nat} {A1 : Option Addr} {c1 : Nat} {A2 : Option Addr} {c2 : Nat} {P L : List Str}
set_option maxRecDepth 100000
theorem infoRole2 : (Tryz.prog.info? 28).map (·.size) = some 2 := by kernel_rfl
end
end Go.Proofs.YtblapgfilbmdhaaGreatDoor.TblB
namespace Go.Proofs.YtblapgfilbmdhaaGreatDoor.TblC
open Go.RowKit Go.Sort Go.Lib Go.Proofs Plain SynP TabP Tab1 Tab2 RolK TblA TblB
section
variable {t a b : Nat} {A1 : Option Addr} {c1 : Nat} {A2 : Option Addr} {c2 : Nat} {P L : List Str}
set_option maxRecDepth 100000
theorem putR (w : World) (h : TblK w t a b A1 c1 A2 c2 P L) (x : Rl) (u : Ru) (r o : Nat) (hr : RuAt w r u) (h1 : 1 ≤ o) (h5 : o ≤ 5) :
    Calls Tryz.prog 185 #[.pointer (some ⟨r, o, none⟩), .func (.func 54) #[.pointer (some ⟨t, 0, none⟩)] #[], x.val] w (PutPost (roleI P L x) u o r w) := by
  have HR := Lib.hid (fun w' hb => role (w := w') (h.keep hb) x)
  have HS : Hid (∀ w1, RowKit.Below w.heap.size w w1 → RuAt w1 r u) := Lib.hid (fun w1 hb => hr.below hb)
  obtain ⟨xo, xn⟩ := x
  generalize roleI P L ⟨xo, xn⟩ = v at *
  unfold Rl.val at *
  simp only at *
  clear h hr
  obtain ⟨z, hz⟩ : ∃ z : Value, u.cells[o]? = some z := by
    have : o < u.cells.size := by show o < 6; omega
    exact ⟨_, Array.getElem?_eq_getElem this⟩
  have HZ := Lib.hid hz
  clear hz
  go_enter Tryz.func185, Tryz.ntmps185
  go_wp2_with fail
  refine (HR.out _ ((Below.refl _ _).alloc (Nat.le_refl _) _)).mono ?_
  rintro e w1 ⟨rfl, hb⟩
  have hb1 : RowKit.Below w.heap.size w w1 := ((Below.refl w.heap.size w).alloc (Nat.le_refl _) _).trans (hb.mono (by simp))
  have hru := HS.out w1 hb1
  have hc := (hru.cell o).trans HZ.out
  have hfz := hru.free o
  have hfin : PutPost v u o r w (.returned (.bool (decide (0 ≤ v)))) (w1.setCell ⟨r, o, none⟩ (.int .i64 v)) := ⟨rfl, hru.put o h1 h5 v, below_set hb1⟩
  have HFin := Lib.hid hfin
  clear hb hb1 hru hfin
  go_wp2_with fail
  go_ret
  exact HFin.out
theorem putS (w : World) (tt : Nat) (T : List Str) (A : Option Addr) (c : Nat) (hn : T.length ≤ 1000000) (hs : T.Pairwise (· < ·)) (hT : SRow w A T) (htt : tt < w.heap.size) (h0 : w.cell? ⟨tt, 0, none⟩ = some (.slice A T.length c)) (x : ByteArray) (u : Ru) (r o : Nat) (hr : RuAt w r u) (h1 : 1 ≤ o) (h5 : o ≤ 5) :
    Calls Tryz.prog 229 #[.pointer (some ⟨r, o, none⟩), .func (.func 102) #[.pointer (some ⟨tt, 0, none⟩)] #[], .string x] w (PutPost (findI T x.toList) u o r w) := by
  have HR := Lib.hid (Tab2.find tt T A c x w hn hs hT htt h0)
  have HS : Hid (∀ w1, RowKit.Below w.heap.size w w1 → RuAt w1 r u) := Lib.hid (fun w1 hb => hr.below hb)
  unfold FindPost at HR
  generalize findI T x.toList = v at *
  clear hr hT h0 hs htt
  obtain ⟨z, hz⟩ : ∃ z : Value, u.cells[o]? = some z := by
    have : o < u.cells.size := by show o < 6; omega
    exact ⟨_, Array.getElem?_eq_getElem this⟩
  have HZ := Lib.hid hz
  clear hz
  go_enter Tryz.func229, Tryz.ntmps229
  go_wp2_with fail
  refine HR.out.mono ?_
  rintro e w1 ⟨rfl, hb1⟩
  have hru := HS.out w1 hb1
  have hc := (hru.cell o).trans HZ.out
  have hfz := hru.free o
  have hfin : PutPost v u o r w (.returned (.bool (decide (0 ≤ v)))) (w1.setCell ⟨r, o, none⟩ (.int .i64 v)) := ⟨rfl, hru.put o h1 h5 v, below_set hb1⟩
  have HFin := Lib.hid hfin
  clear hb1 hru hfin
  go_wp2_with fail
  go_ret
  exact HFin.out
end
end Go.Proofs.YtblapgfilbmdhaaGreatDoor.TblC
namespace Go.Proofs.YtblapgfilbmdhaaGreatDoor.TblD
open Go.RowKit Go.Sort Go.Lib Go.Proofs Plain SynP TabP Tab1 Tab2 RolK TblA TblB TblC
def SayPost (ok : Bool) (uf : Ru) (r : Nat) (w : World) (e : Ending) (w' : World) : Prop := e = .returned (.bool ok) ∧ (∃ u', RuAt w' r u' ∧ (ok = true → u' = uf)) ∧ w.grownBy w' (some r)
section
variable {t a b : Nat} {A1 : Option Addr} {c1 : Nat} {A2 : Option Addr} {c2 : Nat} {P L : List Str}
set_option maxRecDepth 100000
set_option maxHeartbeats 1000000 in
theorem say1 (w : World) (h : TblK w t a b A1 c1 A2 c2 P L) (ho hn wh ao an bo bn v : ByteArray) (u : Ru) (r : Nat) (hr : RuAt w r u) :
    Calls Tryz.prog 186 #[.pointer (some ⟨t, 0, none⟩), .pointer (some ⟨r, 0, none⟩), .agg #[.int .i64 1, .string ho, .string hn, .string wh, .string ao, .string an, .string bo, .string bn, .string v]] w (SayPost (decide (0 ≤ findI P wh.toList)) (u.set 2 (findI P wh.toList)) r w) := by
  have hmf : ∀ (fn : Fn) (first cap : Array Value) (w : World), (Instr.makeFunc fn first cap).run Tryz.prog w = .ok (.func fn first cap) w := fun _ _ _ _ => rfl
  have HP := Lib.hid (fun w' hb => prins (w := w') (h.keep hb))
  have HPut := Lib.hid (fun w' (hb : RowKit.Below w.heap.size w w') => putS w' a P A1 c1 (by have := h.pl; omega) h.sp (h.keep hb).ra (h.keep hb).lt.2.1 (h.keep hb).a0 wh u r 2 (hr.below hb) (by omega) (by omega))
  have HFin : Hid (∀ w1 w2, RowKit.Below w.heap.size w w1 → RuAt w2 r (u.set 2 (findI P wh.toList)) → w1.grownBy w2 (some r) → SayPost (decide (0 ≤ findI P wh.toList)) (u.set 2 (findI P wh.toList)) r w (.returned (.bool (decide (0 ≤ findI P wh.toList)))) w2) := Lib.hid (fun w1 w2 hb h1 h2 => ⟨rfl, ⟨_, h1, fun _ => rfl⟩, below_grew hb h2⟩)
  unfold PutPost at HPut
  generalize findI P wh.toList = x at *
  clear h hr
  have hB : RowKit.Below w.heap.size w (w.alloc (.cells #[.int .i64 1, .string ho, .string hn, .string wh, .string ao, .string an, .string bo, .string bn, .string v] 67)).drew := ((Below.refl _ _).alloc (Nat.le_refl _) _).drew
  have HB := Lib.hid hB
  clear hB
  go_enter Tryz.func186, Tryz.ntmps186
  go_wp2_with fail
  go_region_with (first | ((with_reducible refine (HP.out _ HB.out).mono ?_); rintro e w' ⟨rfl, rfl⟩) | ((with_reducible refine (HPut.out _ HB.out).mono ?_); rintro e w' ⟨rfl, hru, hg⟩))
  all_goals
    have HF := Lib.hid (HFin.out _ _ HB.out hru hg)
    clear hru hg
    go_wp2_with fail
    go_ret
    exact HF.out
set_option maxHeartbeats 1000000 in
theorem say2 (w : World) (h : TblK w t a b A1 c1 A2 c2 P L) (ho hn wh ao an bo bn v : ByteArray) (u : Ru) (r : Nat) (hr : RuAt w r u) :
    Calls Tryz.prog 186 #[.pointer (some ⟨t, 0, none⟩), .pointer (some ⟨r, 0, none⟩), .agg #[.int .i64 2, .string ho, .string hn, .string wh, .string ao, .string an, .string bo, .string bn, .string v]] w (SayPost (decide (0 ≤ roleI P L ⟨ao, an⟩)) (u.set 3 (roleI P L ⟨ao, an⟩)) r w) := by
  have hmf : ∀ (fn : Fn) (first cap : Array Value) (w : World), (Instr.makeFunc fn first cap).run Tryz.prog w = .ok (.func fn first cap) w := fun _ _ _ _ => rfl
  have HPut := Lib.hid (fun w' (hb : RowKit.Below w.heap.size w w') => putR w' (h.keep hb) ⟨ao, an⟩ u r 3 (hr.below hb) (by omega) (by omega))
  have HFin : Hid (∀ w1 w2, RowKit.Below w.heap.size w w1 → RuAt w2 r (u.set 3 (roleI P L ⟨ao, an⟩)) → w1.grownBy w2 (some r) → SayPost (decide (0 ≤ roleI P L ⟨ao, an⟩)) (u.set 3 (roleI P L ⟨ao, an⟩)) r w (.returned (.bool (decide (0 ≤ roleI P L ⟨ao, an⟩)))) w2) := Lib.hid (fun w1 w2 hb h1 h2 => ⟨rfl, ⟨_, h1, fun _ => rfl⟩, below_grew hb h2⟩)
  unfold PutPost Rl.val at HPut
  generalize roleI P L ⟨ao, an⟩ = x at *
  simp only at *
  clear h hr
  have hB : RowKit.Below w.heap.size w (w.alloc (.cells #[.int .i64 2, .string ho, .string hn, .string wh, .string ao, .string an, .string bo, .string bn, .string v] 67)).drew := ((Below.refl _ _).alloc (Nat.le_refl _) _).drew
  have HB := Lib.hid hB
  have hbx : (w.alloc (.cells #[.int .i64 2, .string ho, .string hn, .string wh, .string ao, .string an, .string bo, .string bn, .string v] 67)).drew.heap[w.heap.size]? = some (.cells #[.int .i64 2, .string ho, .string hn, .string wh, .string ao, .string an, .string bo, .string bn, .string v] 67 (0, 0)) := heap_alloc_new w _
  have HBX := Lib.hid hbx
  have HC : Hid (∀ (w' : World), w'.heap[w.heap.size]? = some (.cells #[.int .i64 2, .string ho, .string hn, .string wh, .string ao, .string an, .string bo, .string bn, .string v] 67 (0, 0)) → ∀ o, w'.cell? ⟨w.heap.size, o, none⟩ = (#[.int .i64 2, .string ho, .string hn, .string wh, .string ao, .string an, .string bo, .string bn, .string v] : Array Value)[o]?) := Lib.hid (fun w' e o => Lib.cell_of_heap e o)
  clear hB hbx
  go_enter Tryz.func186, Tryz.ntmps186
  go_wp2_with fail
  go_region_with ((with_reducible refine (HPut.out _ HB.out).mono ?_); rintro e w' ⟨rfl, hru, hg⟩)
  all_goals
    have HF := Lib.hid (HFin.out _ _ HB.out hru hg)
    clear hru hg
    go_wp2_with fail
    go_ret
    exact HF.out
set_option maxHeartbeats 2000000 in
theorem say3 (w0 w : World) (h : TblK w0 t a b A1 c1 A2 c2 P L) (hb0 : RowKit.Below w0.heap.size w0 w) (ho hn wh ao an bo bn v : ByteArray) (u : Ru) (r : Nat) (hr : RuAt w r u) (hr0 : w0.heap.size ≤ r) :
    Calls Tryz.prog 186 #[.pointer (some ⟨t, 0, none⟩), .pointer (some ⟨r, 0, none⟩), .agg #[.int .i64 3, .string ho, .string hn, .string wh, .string ao, .string an, .string bo, .string bn, .string v]] w (SayPost (decide (0 ≤ findI L v.toList) && decide (0 ≤ roleI P L ⟨ao, an⟩)) ((u.set 5 (findI L v.toList)).set 3 (roleI P L ⟨ao, an⟩)) r w) := by
  have hmf : ∀ (fn : Fn) (first cap : Array Value) (w : World), (Instr.makeFunc fn first cap).run Tryz.prog w = .ok (.func fn first cap) w := fun _ _ _ _ => rfl
  have hrlt := hr.lt
  have hB : RowKit.Below w.heap.size w (w.alloc (.cells #[.int .i64 3, .string ho, .string hn, .string wh, .string ao, .string an, .string bo, .string bn, .string v] 67)).drew := ((Below.refl _ _).alloc (Nat.le_refl _) _).drew
  have hbx : (w.alloc (.cells #[.int .i64 3, .string ho, .string hn, .string wh, .string ao, .string an, .string bo, .string bn, .string v] 67)).drew.heap[w.heap.size]? = some (.cells #[.int .i64 3, .string ho, .string hn, .string wh, .string ao, .string an, .string bo, .string bn, .string v] 67 (0, 0)) := heap_alloc_new w _
  have HC : Hid (∀ (w' : World), w'.heap[w.heap.size]? = some (.cells #[.int .i64 3, .string ho, .string hn, .string wh, .string ao, .string an, .string bo, .string bn, .string v] 67 (0, 0)) → ∀ o, w'.cell? ⟨w.heap.size, o, none⟩ = (#[.int .i64 3, .string ho, .string hn, .string wh, .string ao, .string an, .string bo, .string bn, .string v] : Array Value)[o]?) := Lib.hid (fun w' e o => Lib.cell_of_heap e o)
  have HR2 := Lib.hid (hr.below hB)
  have HB0 := Lib.hid (hb0.trans (hB.mono hb0.size))
  have hz : w.heap.size < (w.alloc (.cells #[.int .i64 3, .string ho, .string hn, .string wh, .string ao, .string an, .string bo, .string bn, .string v] 67)).drew.heap.size := by show w.heap.size < (w.alloc _).heap.size; simp
  have HG : Hid (∀ w1 : World, (w.alloc (.cells #[.int .i64 3, .string ho, .string hn, .string wh, .string ao, .string an, .string bo, .string bn, .string v] 67)).drew.grownBy w1 (some r) → RowKit.Below w0.heap.size w0 w1 ∧ w1.heap[w.heap.size]? = some (.cells #[.int .i64 3, .string ho, .string hn, .string wh, .string ao, .string an, .string bo, .string bn, .string v] 67 (0, 0)) ∧ w.grownBy w1 (some r)) := Lib.hid (fun w1 hg => ⟨HB0.out.grown hg HB0.out.size (fun k hk => by injection hk with hk; omega), (hg.block _ hz (by simp; omega)).trans hbx, below_grew hB hg⟩)
  have HBX := Lib.hid hbx
  have HB := Lib.hid hB
  clear hB hbx hz
  have HK := Lib.hid (fun w' hb => links (w := w') (h.keep hb))
  have HV := Lib.hid (fun w' hb (hu : RuAt w' r u) => putS w' b L A2 c2 (by have := h.ll; omega) h.sl (h.keep hb).rb (h.keep hb).lt.2.2 (h.keep hb).b0 v u r 5 hu (by omega) (by omega))
  have HPut := Lib.hid (fun w' hb (hu : RuAt w' r (u.set 5 (findI L v.toList))) => putR w' (h.keep hb) ⟨ao, an⟩ (u.set 5 (findI L v.toList)) r 3 hu (by omega) (by omega))
  unfold PutPost at HV HPut
  unfold Rl.val at HPut
  simp only at HPut
  generalize roleI P L ⟨ao, an⟩ = x at *
  generalize findI L v.toList = y at *
  clear h hr hb0
  by_cases hy : 0 ≤ y
  · have hd : decide (0 ≤ y) = true := decide_eq_true hy
    rw [hd, Bool.true_and]
    rw [hd] at HV
    clear hy hd
    go_enter Tryz.func186, Tryz.ntmps186
    go_wp2_with fail
    go_region_with (first | ((with_reducible refine (HK.out _ HB0.out).mono ?_); rintro e w' ⟨rfl, rfl⟩) | ((with_reducible refine (HV.out _ HB0.out HR2.out).mono ?_); rintro e w1 ⟨rfl, hru, hg⟩))
    all_goals
      obtain ⟨g1, g2, g3⟩ := HG.out _ hg
      have hcx := HC.out _ g2
      have HRU := Lib.hid hru
      have HG1 := Lib.hid g1
      have HG3 := Lib.hid g3
      clear hru hg g1 g2 g3
      have hcx' := fun o => (show w1.drew.cell? ⟨w.heap.size, o, none⟩ = _ from hcx o)
      have HRU2 : Hid (RuAt w1.drew r (u.set 5 y)) := HRU
      have HG12 := Lib.hid HG1.out.drew
      have HFin : Hid (∀ w2, RuAt w2 r ((u.set 5 y).set 3 x) → w1.drew.grownBy w2 (some r) → SayPost (decide (0 ≤ x)) ((u.set 5 y).set 3 x) r w (.returned (.bool (decide (0 ≤ x)))) w2) := Lib.hid (fun w2 h1 h2 => ⟨rfl, ⟨_, h1, fun _ => rfl⟩, grew_trans HG3.out ⟨h2.os, h2.tape, h2.output, h2.size, h2.block⟩⟩)
      go_wp2_with fail
      go_region_with ((with_reducible refine (HPut.out _ HG12.out HRU2.out).mono ?_); rintro e w2 ⟨rfl, hru2, hg2⟩)
      all_goals
        have HF := Lib.hid (HFin.out _ hru2 hg2)
        clear hru2 hg2
        go_wp2_with fail
        go_ret
        exact HF.out
  · have hd : decide (0 ≤ y) = false := decide_eq_false hy
    rw [hd, Bool.false_and]
    rw [hd] at HV
    clear hy hd
    go_enter Tryz.func186, Tryz.ntmps186
    go_wp2_with fail
    go_region_with (first | ((with_reducible refine (HK.out _ HB0.out).mono ?_); rintro e w' ⟨rfl, rfl⟩) | ((with_reducible refine (HV.out _ HB0.out HR2.out).mono ?_); rintro e w1 ⟨rfl, hru, hg⟩))
    all_goals
      obtain ⟨g1, g2, g3⟩ := HG.out _ hg
      have HF := Lib.hid (show SayPost false ((u.set 5 y).set 3 x) r w (.returned (.bool false)) w1 from ⟨rfl, ⟨_, hru, fun h => by cases h⟩, g3⟩)
      clear hru hg g1 g2 g3
      go_wp2_with fail
      go_ret
      exact HF.out
end
end Go.Proofs.YtblapgfilbmdhaaGreatDoor.TblD
namespace Go.Proofs.YtblapgfilbmdhaaGreatDoor.TblE
open Go.RowKit Go.Sort Go.Lib Go.Proofs Plain SynP TabP Tab1 Tab2 RolK TblA TblB TblC TblD
section
variable {t a b : Nat} {A1 : Option Addr} {c1 : Nat} {A2 : Option Addr} {c2 : Nat} {P L : List Str}
set_option maxRecDepth 100000
set_option maxHeartbeats 2000000 in
theorem say4 (w0 w : World) (h : TblK w0 t a b A1 c1 A2 c2 P L) (hb0 : RowKit.Below w0.heap.size w0 w) (ho hn wh ao an bo bn v : ByteArray) (u : Ru) (r : Nat) (hr : RuAt w r u) (hr0 : w0.heap.size ≤ r) :
    Calls Tryz.prog 186 #[.pointer (some ⟨t, 0, none⟩), .pointer (some ⟨r, 0, none⟩), .agg #[.int .i64 4, .string ho, .string hn, .string wh, .string ao, .string an, .string bo, .string bn, .string v]] w (SayPost (decide (0 ≤ roleI P L ⟨ao, an⟩) && decide (0 ≤ roleI P L ⟨bo, bn⟩)) ((u.set 3 (roleI P L ⟨ao, an⟩)).set 4 (roleI P L ⟨bo, bn⟩)) r w) := by
  have hmf : ∀ (fn : Fn) (first cap : Array Value) (w : World), (Instr.makeFunc fn first cap).run Tryz.prog w = .ok (.func fn first cap) w := fun _ _ _ _ => rfl
  have hrlt := hr.lt
  have hB : RowKit.Below w.heap.size w (w.alloc (.cells #[.int .i64 4, .string ho, .string hn, .string wh, .string ao, .string an, .string bo, .string bn, .string v] 67)).drew := ((Below.refl _ _).alloc (Nat.le_refl _) _).drew
  have hbx : (w.alloc (.cells #[.int .i64 4, .string ho, .string hn, .string wh, .string ao, .string an, .string bo, .string bn, .string v] 67)).drew.heap[w.heap.size]? = some (.cells #[.int .i64 4, .string ho, .string hn, .string wh, .string ao, .string an, .string bo, .string bn, .string v] 67 (0, 0)) := heap_alloc_new w _
  have HC : Hid (∀ (w' : World), w'.heap[w.heap.size]? = some (.cells #[.int .i64 4, .string ho, .string hn, .string wh, .string ao, .string an, .string bo, .string bn, .string v] 67 (0, 0)) → ∀ o, w'.cell? ⟨w.heap.size, o, none⟩ = (#[.int .i64 4, .string ho, .string hn, .string wh, .string ao, .string an, .string bo, .string bn, .string v] : Array Value)[o]?) := Lib.hid (fun w' e o => Lib.cell_of_heap e o)
  have HR2 := Lib.hid (hr.below hB)
  have HB0 := Lib.hid (hb0.trans (hB.mono hb0.size))
  have hz : w.heap.size < (w.alloc (.cells #[.int .i64 4, .string ho, .string hn, .string wh, .string ao, .string an, .string bo, .string bn, .string v] 67)).drew.heap.size := by show w.heap.size < (w.alloc _).heap.size; simp
  have HG : Hid (∀ w1 : World, (w.alloc (.cells #[.int .i64 4, .string ho, .string hn, .string wh, .string ao, .string an, .string bo, .string bn, .string v] 67)).drew.grownBy w1 (some r) → RowKit.Below w0.heap.size w0 w1 ∧ w1.heap[w.heap.size]? = some (.cells #[.int .i64 4, .string ho, .string hn, .string wh, .string ao, .string an, .string bo, .string bn, .string v] 67 (0, 0)) ∧ w.grownBy w1 (some r)) := Lib.hid (fun w1 hg => ⟨HB0.out.grown hg HB0.out.size (fun k hk => by injection hk with hk; omega), (hg.block _ hz (by simp; omega)).trans hbx, below_grew hB hg⟩)
  have HBX := Lib.hid hbx
  have HB := Lib.hid hB
  clear hB hbx hz
  have HV := Lib.hid (fun w' hb (hu : RuAt w' r u) => putR w' (h.keep hb) ⟨ao, an⟩ u r 3 hu (by omega) (by omega))
  have HPut := Lib.hid (fun w' hb (hu : RuAt w' r (u.set 3 (roleI P L ⟨ao, an⟩))) => putR w' (h.keep hb) ⟨bo, bn⟩ (u.set 3 (roleI P L ⟨ao, an⟩)) r 4 hu (by omega) (by omega))
  unfold PutPost Rl.val at HV HPut
  simp only at HPut HV
  generalize roleI P L ⟨ao, an⟩ = y at *
  generalize roleI P L ⟨bo, bn⟩ = x at *
  clear h hr hb0
  by_cases hy : 0 ≤ y
  · have hd : decide (0 ≤ y) = true := decide_eq_true hy
    rw [hd, Bool.true_and]
    rw [hd] at HV
    clear hy hd
    go_enter Tryz.func186, Tryz.ntmps186
    go_wp2_with fail
    go_region_with (first | ((with_reducible refine (HV.out _ HB0.out HR2.out).mono ?_); rintro e w1 ⟨rfl, hru, hg⟩; obtain ⟨g1, g2, g3⟩ := HG.out _ hg; have hcx := HC.out _ g2) | ((with_reducible refine (HPut.out _ g1 hru).mono ?_); rintro e w2 ⟨rfl, hru2, hg2⟩))
    all_goals
      have HF := Lib.hid (show SayPost (decide (0 ≤ x)) ((u.set 3 y).set 4 x) r w (.returned (.bool (decide (0 ≤ x)))) w2 from ⟨rfl, ⟨_, hru2, fun _ => rfl⟩, grew_trans g3 hg2⟩)
      clear hru hg g1 g2 g3 hcx hru2 hg2
      go_wp2_with fail
      go_ret
      exact HF.out
  · have hd : decide (0 ≤ y) = false := decide_eq_false hy
    rw [hd, Bool.false_and]
    rw [hd] at HV
    clear hy hd
    go_enter Tryz.func186, Tryz.ntmps186
    go_wp2_with fail
    refine wp_region_any (by kernel_rfl) ?_
    try (change wpAny _ _ _ _ _ _ _ (World.drew _))
    refine wpAny_take (i := 0) (v := ?_) rfl (by kernel_rfl) (by kernel_rfl) (by kernel_rfl) (fun _ _ _ h => h) (Or.inl ⟨by kernel_rfl, ?_⟩) ?_
    rotate_left
    · intro w; go_simp; try with_reducible rfl
    refine wpAny_take (i := 1) (v := ?_) rfl (by kernel_rfl) (by kernel_rfl) (by kernel_rfl) (fun _ _ _ h => h) (Or.inl ⟨by kernel_rfl, ?_⟩) ?_
    rotate_left
    · intro w; go_simp; try with_reducible rfl
    refine wpAny_take (i := 2) (v := ?_) rfl (by kernel_rfl) (by kernel_rfl) (by kernel_rfl) (fun _ _ _ h => h) (Or.inl ⟨by kernel_rfl, ?_⟩) ?_
    rotate_left
    · intro w; go_simp; try with_reducible rfl
    refine wpAny_take (i := 3) (v := ?_) rfl (by kernel_rfl) (by kernel_rfl) (by kernel_rfl) (fun _ _ _ h => h) (Or.inl ⟨by kernel_rfl, ?_⟩) ?_
    rotate_left
    · intro w; go_simp; try with_reducible rfl
    refine wpAny_take (i := 4) (v := ?_) rfl (by kernel_rfl) (by kernel_rfl) (by kernel_rfl) (fun _ _ _ h => h) (Or.inl ⟨by kernel_rfl, ?_⟩) ?_
    rotate_left
    · intro w; go_simp; try with_reducible rfl
    refine wpAny_take (i := 5) (v := ?_) rfl (by kernel_rfl) (by kernel_rfl) (by kernel_rfl) (fun _ _ _ h => h) (Or.inl ⟨by kernel_rfl, ?_⟩) ?_
    rotate_left
    · intro w; go_simp; try with_reducible rfl
    refine wpAny_ready (rs := [6]) (by kernel_rfl) (by simp) ?_
    refine AllReady.cons rfl (fun K hK => ?_) AllReady.nil
    go_simp
    refine hK _ _ ?_
    clear hK K
    refine wpAny_ready (rs := [7]) (by kernel_rfl) (by simp) ?_
    refine AllReady.cons rfl (fun K hK => ?_) AllReady.nil
    go_simp
    go_wp2_with ((with_reducible refine (HV.out _ HB0.out HR2.out).mono ?_); rintro e w1 ⟨rfl, hru, hg⟩)
    refine wpAny_take (i := 8) (v := ?_) rfl (by kernel_rfl) (by kernel_rfl) (by kernel_rfl) (fun _ _ _ h => h) (Or.inl ⟨by kernel_rfl, ?_⟩) ?_
    rotate_left
    · intro w; go_simp; try with_reducible rfl
    refine wpAny_take (i := 9) (v := undef) rfl (by kernel_rfl) (by kernel_rfl) (by kernel_rfl) (fun _ _ _ h => h) (Or.inr ⟨by kernel_rfl, rfl⟩) ?_
    refine wpAny_take (i := 10) (v := undef) rfl (by kernel_rfl) (by kernel_rfl) (by kernel_rfl) (fun _ _ _ h => h) (Or.inr ⟨by kernel_rfl, rfl⟩) ?_
    refine wpAny_take (i := 11) (v := undef) rfl (by kernel_rfl) (by kernel_rfl) (by kernel_rfl) (fun _ _ _ h => h) (Or.inr ⟨by kernel_rfl, rfl⟩) ?_
    refine wpAny_take (i := 12) (v := undef) rfl (by kernel_rfl) (by kernel_rfl) (by kernel_rfl) (fun _ _ _ h => h) (Or.inr ⟨by kernel_rfl, rfl⟩) ?_
    refine wpAny_take (i := 13) (v := undef) rfl (by kernel_rfl) (by kernel_rfl) (by kernel_rfl) (fun _ _ _ h => h) (Or.inr ⟨by kernel_rfl, rfl⟩) ?_
    refine wpAny_take (i := 14) (v := undef) rfl (by kernel_rfl) (by kernel_rfl) (by kernel_rfl) (fun _ _ _ h => h) (Or.inr ⟨by kernel_rfl, rfl⟩) ?_
    refine wpAny_take (i := 15) (v := undef) rfl (by kernel_rfl) (by kernel_rfl) (by kernel_rfl) (fun _ _ _ h => h) (Or.inr ⟨by kernel_rfl, rfl⟩) ?_
    refine wpAny_take (i := 16) (v := undef) rfl (by kernel_rfl) (by kernel_rfl) (by kernel_rfl) (fun _ _ _ h => h) (Or.inr ⟨by kernel_rfl, rfl⟩) ?_
    refine wpAny_take (i := 17) (v := ?_) rfl (by kernel_rfl) (by kernel_rfl) (by kernel_rfl) (fun _ _ _ h => h) (Or.inl ⟨by kernel_rfl, ?_⟩) ?_
    rotate_left
    · intro w; go_simp; try with_reducible rfl
    refine wpAny_take (i := 18) (v := ?_) rfl (by kernel_rfl) (by kernel_rfl) (by kernel_rfl) (fun _ _ _ h => h) (Or.inl ⟨by kernel_rfl, ?_⟩) ?_
    rotate_left
    · intro w; go_simp; try with_reducible rfl
    refine wpAny_done (by kernel_rfl) ?_ _
    · obtain ⟨g1, g2, g3⟩ := HG.out _ hg
      have HF := Lib.hid (show SayPost false ((u.set 3 y).set 4 x) r w (.returned (.bool false)) w1 from ⟨rfl, ⟨_, hru, fun h => by cases h⟩, g3⟩)
      clear hru hg g1 g2 g3
      go_wp2_with fail
      go_ret
      refine cast (congrArg (fun z => SayPost false ((u.set 3 y).set 4 x) r w (Ending.returned z) w1) ?_) HF.out
      kernel_rfl
end
end Go.Proofs.YtblapgfilbmdhaaGreatDoor.TblE
namespace Go.Proofs.YtblapgfilbmdhaaGreatDoor.TblF
open Go.RowKit Go.Sort Go.Lib Go.Proofs Plain SynP Grown TabP Tab1 Tab2 RolK TblA TblB TblC TblD TblE
def ruleV (P L : List Str) (s : St) : Ru :=
  ⟨s.kind, roleI P L s.head, if s.kind = 1 then findI P s.who.toList else 0, if s.kind = 1 then 0 else roleI P L s.a, if s.kind = 4 then roleI P L s.b else 0, if s.kind = 3 then findI L s.via.toList else 0⟩
def restOk (P L : List Str) (s : St) : Bool :=
  if s.kind = 1 then decide (0 ≤ findI P s.who.toList) else if s.kind = 3 then decide (0 ≤ findI L s.via.toList) && decide (0 ≤ roleI P L s.a) else if s.kind = 4 then decide (0 ≤ roleI P L s.a) && decide (0 ≤ roleI P L s.b) else decide (0 ≤ roleI P L s.a)
def ruleOk (P L : List Str) (s : St) : Bool := s.right && decide (0 ≤ roleI P L s.head) && restOk P L s
def ruleA (P L : List Str) (s : St) : Ru := if ruleOk P L s then ruleV P L s else zeroU
theorem kind_of_right {s : St} (h : s.right = true) : s.kind = 1 ∨ s.kind = 2 ∨ s.kind = 3 ∨ s.kind = 4 := by
  unfold St.right at h
  rw [Bool.and_eq_true, Bool.and_eq_true] at h
  have h2 := h.1.2
  unfold St.says at h2
  by_cases a : s.kind = 1
  · exact Or.inl a
  · rw [if_neg a] at h2
    by_cases b : s.kind = 2
    · exact Or.inr (Or.inl b)
    · rw [if_neg b] at h2
      by_cases c : s.kind = 3
      · exact Or.inr (Or.inr (Or.inl c))
      · rw [if_neg c] at h2
        by_cases d : s.kind = 4
        · exact Or.inr (Or.inr (Or.inr d))
        · rw [if_neg d] at h2; cases h2
section
variable {t a b : Nat} {A1 : Option Addr} {c1 : Nat} {A2 : Option Addr} {c2 : Nat} {P L : List Str}
set_option maxRecDepth 100000
theorem say (w0 w : World) (h : TblK w0 t a b A1 c1 A2 c2 P L) (hb0 : RowKit.Below w0.heap.size w0 w) (s : St) (hs : s.right = true) (r : Nat) (hr : RuAt w r ⟨s.kind, roleI P L s.head, 0, 0, 0, 0⟩) (hr0 : w0.heap.size ≤ r) :
    Calls Tryz.prog 186 #[.pointer (some ⟨t, 0, none⟩), .pointer (some ⟨r, 0, none⟩), s.val] w (SayPost (restOk P L s) (ruleV P L s) r w) := by
  obtain ⟨k, ⟨ho, hn⟩, wh, ⟨ao, an⟩, ⟨bo, bn⟩, v⟩ := s
  rcases kind_of_right hs with hk | hk | hk | hk
  all_goals (simp only at hk; subst hk)
  · exact say1 w (h.keep hb0) ho hn wh ao an bo bn v _ r hr
  · exact say2 w (h.keep hb0) ho hn wh ao an bo bn v _ r hr
  · exact say3 w0 w h hb0 ho hn wh ao an bo bn v _ r hr hr0
  · exact say4 w0 w h hb0 ho hn wh ao an bo bn v _ r hr hr0
def RulePost (ok : Bool) (u : Ru) (w : World) (e : Ending) (w' : World) : Prop := e = .returned (.tuple #[.agg u.cells, .bool ok]) ∧ RowKit.Below w.heap.size w w'
set_option maxHeartbeats 1000000 in
theorem rule_no (w : World) (h : TblK w t a b A1 c1 A2 c2 P L) (s : St) (hf : s.fit) (hs : s.right = false) :
    Calls Tryz.prog 138 #[.pointer (some ⟨t, 0, none⟩), s.val] w (RulePost (ruleOk P L s) (ruleA P L s) w) := by
  have ho : ruleOk P L s = false := by unfold ruleOk; rw [hs]; rfl
  have hu : ruleA P L s = zeroU := by unfold ruleA; rw [ho]; rfl
  rw [ho, hu]
  have HR : Hid (∀ w', Calls Tryz.prog 144 #[s.val] w' fun e w'' => e = .returned (.bool false) ∧ RowKit.Below w'.heap.size w' w'') := Lib.hid (fun w' => (Syn7.right s w' hf).mono fun e w'' h => ⟨by rw [h.1, hs], h.2.below⟩)
  obtain ⟨k, ⟨ho', hn⟩, wh, ⟨ao, an⟩, ⟨bo, bn⟩, v⟩ := s
  unfold St.val at *
  simp only at *
  clear h hf hs ho hu
  go_enter Tryz.func138, Tryz.ntmps138
  go_wp2_with fail
  refine (HR.out _).mono ?_
  rintro e w1 ⟨rfl, hb⟩
  have h4 : w1.heap[w.heap.size + 1]? = some (.cells zeroU.cells 150 (0, 0)) := (hb.block _ (by simp <;> omega)).trans ((Below.heap_alloc _ _ _ (by simp)).trans (heap_alloc2_new w _ _))
  have hbel : RowKit.Below w.heap.size w w1 := ((((Below.refl w.heap.size w).alloc (Nat.le_refl _) _).alloc (by simp) _).alloc (by simp <;> omega) _).trans (hb.mono (by simp <;> omega))
  have H4 := Lib.hid h4
  have HB := Lib.hid hbel
  clear h4 hbel hb
  go_wp2_with (refine wpList_store_row rfl 150 _ _ rfl (w.heap.size + 1) zeroU.cells rfl rfl 150 _ H4.out infoRule rfl (one6 _) ?_)
  have hl := cell_rule (u := zeroU) H4.out
  have hz := below_setRow HB.out (show w.heap.size ≤ w.heap.size + 1 by omega) (zeroU).cells
  generalize World.setRow _ (w.heap.size + 1) (zeroU).cells = wz at hl hz ⊢
  refine bodyPost_ret (v := .tuple #[.agg zeroU.cells, .bool false]) (by simp [results, Tryz.results138, go_sem, hl, Ru.cells]) rfl ⟨rfl, hz⟩
set_option maxHeartbeats 2000000 in
theorem rule_yes (w : World) (h : TblK w t a b A1 c1 A2 c2 P L) (s : St) (hf : s.fit) (hs : s.right = true) :
    Calls Tryz.prog 138 #[.pointer (some ⟨t, 0, none⟩), s.val] w (RulePost (ruleOk P L s) (ruleA P L s) w) := by
  have HR : Hid (∀ w', Calls Tryz.prog 144 #[s.val] w' fun e w'' => e = .returned (.bool true) ∧ RowKit.Below w'.heap.size w' w'') := Lib.hid (fun w' => (Syn7.right s w' hf).mono fun e w'' h => ⟨by rw [h.1, hs], h.2.below⟩)
  have HPut := Lib.hid (fun w' hb r hr => putR w' (h.keep hb) s.head ⟨s.kind, 0, 0, 0, 0, 0⟩ r 1 hr (by omega) (by omega))
  have HSay := Lib.hid (fun w' hb r hr hr0 => say w w' h hb s hs r hr hr0)
  have hru : ruleOk P L s = (decide (0 ≤ roleI P L s.head) && restOk P L s) := by unfold ruleOk; rw [hs, Bool.true_and]
  have hua : ∀ o, ruleOk P L s = o → ruleA P L s = if o then ruleV P L s else zeroU := fun o e => by unfold ruleA; rw [e]
  have HU := Lib.hid hua
  have HO := Lib.hid hru
  unfold PutPost at HPut
  unfold SayPost at HSay
  obtain ⟨k, ⟨ho', hn⟩, wh, ⟨ao, an⟩, ⟨bo, bn⟩, v⟩ := s
  have hset : (⟨k, 0, 0, 0, 0, 0⟩ : Ru).set 1 (roleI P L ⟨ho', hn⟩) = ⟨k, roleI P L ⟨ho', hn⟩, 0, 0, 0, 0⟩ := rfl
  unfold St.val Rl.val at *
  simp only [hset] at *
  generalize ruleV P L _ = uV at *
  generalize ruleA P L _ = uA at *
  generalize ruleOk P L _ = ok at *
  generalize restOk P L _ = rest at *
  generalize roleI P L _ = x at *
  clear h hf hs hru hua hset
  have hmf : ∀ (fn : Fn) (first cap : Array Value) (w : World), (Instr.makeFunc fn first cap).run Tryz.prog w = .ok (.func fn first cap) w := fun _ _ _ _ => rfl
  have key : ∀ w1 : World, RowKit.Below (((w.alloc (.cells #[.int .i64 k, .string ho', .string hn, .string wh, .string ao, .string an, .string bo, .string bn, .string v] 67)).alloc (.cells #[.int .i64 0, .int .i64 0, .int .i64 0, .int .i64 0, .int .i64 0, .int .i64 0] 150)).alloc (.cells #[.int .i64 k, .int .i64 0, .int .i64 0, .int .i64 0, .int .i64 0, .int .i64 0] 150)).heap.size (((w.alloc (.cells #[.int .i64 k, .string ho', .string hn, .string wh, .string ao, .string an, .string bo, .string bn, .string v] 67)).alloc (.cells #[.int .i64 0, .int .i64 0, .int .i64 0, .int .i64 0, .int .i64 0, .int .i64 0] 150)).alloc (.cells #[.int .i64 k, .int .i64 0, .int .i64 0, .int .i64 0, .int .i64 0, .int .i64 0] 150)) w1 →
      RowKit.Below w.heap.size w w1 ∧ w1.heap[w.heap.size]? = some (.cells #[.int .i64 k, .string ho', .string hn, .string wh, .string ao, .string an, .string bo, .string bn, .string v] 67 (0, 0)) ∧ w1.heap[w.heap.size + 1]? = some (.cells zeroU.cells 150 (0, 0)) ∧ RuAt w1 (w.heap.size + 2) ⟨k, 0, 0, 0, 0, 0⟩ := fun w1 hb => by
    refine ⟨((((Below.refl w.heap.size w).alloc (Nat.le_refl _) _).alloc (by simp) _).alloc (by simp <;> omega) _).trans (hb.mono (by simp <;> omega)), ?_, ?_, ?_⟩
    · exact (hb.block _ (by simp <;> omega)).trans ((Below.heap_alloc _ _ _ (by simp <;> omega)).trans (heap_alloc2_old w _ _))
    · exact (hb.block _ (by simp <;> omega)).trans ((Below.heap_alloc _ _ _ (by simp)).trans (heap_alloc2_new w _ _))
    · have e := heap_alloc_new ((w.alloc (.cells #[.int .i64 k, .string ho', .string hn, .string wh, .string ao, .string an, .string bo, .string bn, .string v] 67)).alloc (.cells #[.int .i64 0, .int .i64 0, .int .i64 0, .int .i64 0, .int .i64 0, .int .i64 0] 150)) (.cells #[.int .i64 k, .int .i64 0, .int .i64 0, .int .i64 0, .int .i64 0, .int .i64 0] 150)
      have hz : ((w.alloc (.cells #[.int .i64 k, .string ho', .string hn, .string wh, .string ao, .string an, .string bo, .string bn, .string v] 67)).alloc (.cells #[.int .i64 0, .int .i64 0, .int .i64 0, .int .i64 0, .int .i64 0, .int .i64 0] 150)).heap.size = w.heap.size + 2 := by simp
      rw [hz] at e
      exact (hb.block _ (by simp)).trans e
  have HK := Lib.hid key
  clear key
  have HC : Hid (∀ (w' : World), w'.heap[w.heap.size]? = some (.cells #[.int .i64 k, .string ho', .string hn, .string wh, .string ao, .string an, .string bo, .string bn, .string v] 67 (0, 0)) → ∀ o, w'.cell? ⟨w.heap.size, o, none⟩ = (#[.int .i64 k, .string ho', .string hn, .string wh, .string ao, .string an, .string bo, .string bn, .string v] : Array Value)[o]?) := Lib.hid (fun w' e o => Lib.cell_of_heap e o)
  go_enter Tryz.func138, Tryz.ntmps138
  go_wp2_with fail
  refine (HR.out _).mono ?_
  rintro e w1 ⟨rfl, hb⟩
  obtain ⟨k1, k2, k3, k4⟩ := HK.out w1 hb
  have hc1 := HC.out w1 k2
  have H1 := Lib.hid k1
  have H2 := Lib.hid k2
  have H3 := Lib.hid k3
  have H4 := Lib.hid k4
  clear k1 k2 k3 k4 hb
  go_wp2_with fail
  refine (HPut.out _ H1.out (w.heap.size + 2) H4.out).mono ?_
  rintro e w2 ⟨rfl, hru, hg⟩
  have h1 := H1.out.grown hg H1.out.size (fun k hk => by injection hk with hk; omega)
  have hlt3 : w.heap.size + 2 < w1.heap.size := RuAt.lt H4.out
  have hg2 := (hg.block w.heap.size (by omega) (by simp)).trans H2.out
  have hg3 := (hg.block (w.heap.size + 1) (by omega) (by simp)).trans H3.out
  have G1 := Lib.hid h1
  have G2 := Lib.hid hg2
  have G3 := Lib.hid hg3
  have G4 := Lib.hid hru
  have hc2 := HC.out w2 hg2
  clear hc1 H1 H2 H3 H4 hru hg h1 hg2 hg3 hlt3
  by_cases hx : 0 ≤ x
  · have hd : decide (0 ≤ x) = true := decide_eq_true hx
    have ho := HO.out
    rw [hd, Bool.true_and] at ho
    subst ho
    clear hx
    go_wp2_with fail
    refine (HSay.out _ G1.out (w.heap.size + 2) G4.out (by omega)).mono ?_
    rintro e w3 ⟨rfl, ⟨u', hu', hq⟩, hg⟩
    have hlt3 : w.heap.size + 2 < w2.heap.size := RuAt.lt G4.out
    have h3 := (hg.block (w.heap.size + 1) (by omega) (by simp)).trans G3.out
    have h1 := G1.out.grown hg G1.out.size (fun k hk => by injection hk with hk; omega)
    have K1 := Lib.hid h1
    have K3 := Lib.hid h3
    have K4 := Lib.hid hu'
    have KQ := Lib.hid hq
    clear hc2 G1 G2 G3 G4 hu' hq hg h1 h3 hlt3
    have hfin := HU.out
    cases ok
    · have e2 := HU.out false rfl
      simp only [Bool.false_eq_true, if_false] at e2
      subst e2
      clear hfin
      go_wp2_with (refine wpList_store_row rfl 150 _ _ rfl (w.heap.size + 1) zeroU.cells rfl rfl 150 _ K3.out infoRule rfl (one6 _) ?_)
      have hl := cell_rule (u := zeroU) K3.out
      have hz := below_setRow K1.out (show w.heap.size ≤ w.heap.size + 1 by omega) (zeroU).cells
      generalize World.setRow _ (w.heap.size + 1) (zeroU).cells = wz at hl hz ⊢
      refine bodyPost_ret (v := .tuple #[.agg zeroU.cells, .bool false]) (by simp [results, Tryz.results138, go_sem, hl, Ru.cells]) rfl ⟨rfl, hz⟩
    · have e2 := HU.out true rfl
      simp only [if_true] at e2
      obtain rfl := KQ.out rfl
      subst e2
      clear hfin
      go_wp2_with (first | (refine wpList_load_row rfl 150 _ rfl (w.heap.size + 1 + 1) rfl 150 uA.cells (0, 0) _ K4.out Tryz.underlying150 rfl infoRule ?_) | (refine wpList_store_row rfl 150 _ _ rfl (w.heap.size + 1) uA.cells rfl rfl 150 _ K3.out infoRule rfl (one6 _) ?_))
      have hl := cell_rule (u := uA) K3.out
      have hz := below_setRow K1.out (show w.heap.size ≤ w.heap.size + 1 by omega) uA.cells
      generalize World.setRow _ (w.heap.size + 1) uA.cells = wz at hl hz ⊢
      refine bodyPost_ret (v := .tuple #[.agg uA.cells, .bool true]) (by simp [results, Tryz.results138, go_sem, hl, Ru.cells]) rfl ⟨rfl, hz⟩
  · have hd : decide (0 ≤ x) = false := decide_eq_false hx
    have ho := HO.out
    rw [hd, Bool.false_and] at ho
    subst ho
    have e2 := HU.out false rfl
    simp only [Bool.false_eq_true, if_false] at e2
    subst e2
    clear hx
    go_wp2_with (refine wpList_store_row rfl 150 _ _ rfl (w.heap.size + 1) zeroU.cells rfl rfl 150 _ G3.out infoRule rfl (one6 _) ?_)
    have hl := cell_rule (u := zeroU) G3.out
    have hz := below_setRow G1.out (show w.heap.size ≤ w.heap.size + 1 by omega) (zeroU).cells
    generalize World.setRow _ (w.heap.size + 1) (zeroU).cells = wz at hl hz ⊢
    refine bodyPost_ret (v := .tuple #[.agg zeroU.cells, .bool false]) (by simp [results, Tryz.results138, go_sem, hl, Ru.cells]) rfl ⟨rfl, hz⟩
theorem rule (w : World) (h : TblK w t a b A1 c1 A2 c2 P L) (s : St) (hf : s.fit) :
    Calls Tryz.prog 138 #[.pointer (some ⟨t, 0, none⟩), s.val] w (RulePost (ruleOk P L s) (ruleA P L s) w) := by
  cases hs : s.right with
  | true => exact rule_yes w h s hf hs
  | false => exact rule_no w h s hf hs
end
end Go.Proofs.YtblapgfilbmdhaaGreatDoor.TblF
namespace Go.Proofs.YtblapgfilbmdhaaGreatDoor.TblG
open Go.RowKit Go.Sort Go.Lib Go.Proofs Plain SynP TabP Tab1 Tab2 RolK TblA TblB TblC
section
set_option maxRecDepth 100000
end
end Go.Proofs.YtblapgfilbmdhaaGreatDoor.TblG
namespace Go.Proofs.YtblapgfilbmdhaaGreatDoor.TblH
open Go.RowKit Go.Sort Go.Lib Go.Proofs Plain SynP Grown TabP Tab1 Tab2 RolK TblA TblB TblC TblF TblG
section
variable {P L : List Str}
set_option maxRecDepth 100000
structure Mid (w wx : World) (N : Nat) (k : Int) (ho' hn wh ao an bo bn v : ByteArray) (u : Ru) : Prop where
  below : RowKit.Below w.heap.size w wx
  box : wx.heap[w.heap.size]? = some (.cells #[.int .i64 k, .string ho', .string hn, .string wh, .string ao, .string an, .string bo, .string bn, .string v] 67 (0, 0))
  out : wx.heap[w.heap.size + 1]? = some (.cells zeroU.cells 150 (0, 0))
  at_ : RuAt wx N u
  far : w.heap.size + 2 ≤ N
theorem Mid.keep {w wx w' : World} {N : Nat} {k : Int} {ho' hn wh ao an bo bn v : ByteArray} {u : Ru} (h : Mid w wx N k ho' hn wh ao an bo bn v u) (hb : RowKit.Below wx.heap.size wx w') : Mid w w' N k ho' hn wh ao an bo bn v u :=
  ⟨h.below.trans (hb.mono h.below.size), (hb.block _ (Array.getElem?_eq_some_iff.1 h.box).1).trans h.box, (hb.block _ (Array.getElem?_eq_some_iff.1 h.out).1).trans h.out, h.at_.below hb, h.far⟩
theorem Mid.put {w wx : World} {N : Nat} {k : Int} {ho' hn wh ao an bo bn v : ByteArray} {u : Ru} (h : Mid w wx N k ho' hn wh ao an bo bn v u) (o : Nat) (h1 : 1 ≤ o) (h5 : o ≤ 5) (x : Int) : Mid w (wx.setCell ⟨N, o, none⟩ (.int .i64 x)) N k ho' hn wh ao an bo bn v (u.set o x) := by
  have hf := h.far
  exact ⟨h.below.setCell (by show w.heap.size ≤ N; omega) _, (Below.heap_setCell _ _ _ _ (by show w.heap.size ≠ N; omega)).trans h.box, (Below.heap_setCell _ _ _ _ (by show w.heap.size + 1 ≠ N; omega)).trans h.out, h.at_.put o h1 h5 x, h.far⟩
end
end Go.Proofs.YtblapgfilbmdhaaGreatDoor.TblH
namespace Go.Proofs.YtblapgfilbmdhaaGreatDoor.TblI
open Go.RowKit Go.Sort Go.Lib Go.Proofs Plain SynP SynE Grown TabP Tab1 Tab2 Tab5 RolK TblA TblB TblC TblF TblG TblH
def NewTPost (P L : List Str) (w : World) (e : Ending) (w' : World) : Prop := ∃ t a b A1 c1 A2 c2, e = .returned (.pointer (some ⟨t, 0, none⟩)) ∧ TblK w' t a b A1 c1 A2 c2 P L ∧ RowKit.Below w.heap.size w w'
set_option maxRecDepth 100000 in
theorem newT (A B : Option Addr) (ca cb : Nat) (P L : List Str) (w : World) (hP : P.length ≤ 100000) (hL : L.length ≤ 100000) (hA : SRow w A P) (hB : SRow w B L) :
    Calls Tryz.prog 132 #[.slice A P.length ca, .slice B L.length cb] w (NewTPost (tab P) (tab L) w) := by
  have HB := Lib.hid hB
  have H1 := Lib.hid (Tab1.new A ca P w (by omega) hA)
  have H2 := Lib.hid (fun w' (hb : RowKit.Below w.heap.size w w') => Tab1.new B cb L w' (by omega) (HB.out.keep hb))
  clear hA hB
  go_enter Tryz.func132, Tryz.ntmps132
  go_wp2_with fail
  refine H1.out.mono ?_
  rintro e w1 ⟨p, rfl, ⟨t1, v1, rfl, hB1, hh1, ho1⟩, hb1⟩
  obtain ⟨A1, c1, rfl, _, hr1⟩ := SRow.of_own ho1
  have K1 := Lib.hid hh1
  have R1 := Lib.hid hr1
  have B1 := Lib.hid hb1
  clear hh1 ho1 hr1 hb1 hB1
  go_wp2_with fail
  refine (H2.out _ B1.out).mono ?_
  rintro e w2 ⟨p, rfl, ⟨t2, v2, rfl, hB2, hh2, ho2⟩, hb2⟩
  obtain ⟨A2, c2, rfl, _, hr2⟩ := SRow.of_own ho2
  have l1 : t1 < w1.heap.size := (Array.getElem?_eq_some_iff.1 K1.out).1
  have l2 : t2 < w2.heap.size := (Array.getElem?_eq_some_iff.1 hh2).1
  have hz := hb2.size
  have hbx : RowKit.Below w2.heap.size w2 (w2.alloc (.cells #[.pointer (some ⟨t1, 0, none⟩), .pointer (some ⟨t2, 0, none⟩)] 124)) := (Below.refl _ _).alloc (Nat.le_refl _) _
  have hk1 := (hbx.block t1 (by omega)).trans ((hb2.block t1 l1).trans K1.out)
  have hk2 := (hbx.block t2 l2).trans hh2
  have hnew := heap_alloc_new w2 (.cells #[.pointer (some ⟨t1, 0, none⟩), .pointer (some ⟨t2, 0, none⟩)] 124)
  have HK : Hid (TblK (w2.alloc (.cells #[.pointer (some ⟨t1, 0, none⟩), .pointer (some ⟨t2, 0, none⟩)] 124)) w2.heap.size t1 t2 A1 c1 A2 c2 (tab P) (tab L)) := Lib.hid {
    t0 := by rw [Lib.cell_of_heap hnew]; rfl
    t1 := by rw [Lib.cell_of_heap hnew]; rfl
    a0 := by rw [Lib.cell_of_heap hk1]; rfl
    b0 := by rw [Lib.cell_of_heap hk2]; rfl
    ra := (R1.out.keep hb2).keep hbx
    rb := hr2.keep hbx
    lt := ⟨by simp, by simp; omega, by simp; omega⟩
    sp := tab_sorted P
    sl := tab_sorted L
    pl := by have := tab_len_le P; omega
    ll := by have := tab_len_le L; omega }
  have HBB := Lib.hid ((B1.out.trans (hb2.mono B1.out.size)).trans (hbx.mono (by have := B1.out.size; omega)))
  clear hh2 ho2 hr2 hb2 hB2 hbx hk1 hk2 hnew
  go_wp2_with fail
  go_ret
  exact ⟨_, t1, t2, A1, c1, A2, c2, rfl, HK.out, HBB.out⟩
end Go.Proofs.YtblapgfilbmdhaaGreatDoor.TblI
namespace Go.Proofs.YtblapgfilbmdhaaGreatDoor.TblM
open Go.RowKit Go.Sort Go.Proofs Plain SynP Grown Syn1
def textsOf (s : St) : List ByteArray := [s.who, s.via, s.head.owner, s.head.name, s.a.owner, s.a.name, s.b.owner, s.b.name]
def lightL (l : List ByteArray) : Bool := l.all fun x => decide (x.size ≤ 40)
def lightS (s : St) : Bool := lightL (textsOf s)
theorem light_no {l : List ByteArray} {k : Nat} (h : k < l.length) (hk : ¬ l[k].size ≤ 40) : lightL l = false := by
  unfold lightL
  rw [List.all_eq_false]
  exact ⟨l[k], List.getElem_mem _, by simp; omega⟩
theorem light_yes {l : List ByteArray} (h : ∀ k, (hk : k < l.length) → l[k].size ≤ 40) : lightL l = true := by
  unfold lightL
  rw [List.all_eq_true]
  intro x hx
  obtain ⟨k, hk, rfl⟩ := List.getElem_of_mem hx
  simpa using h k hk
set_option maxRecDepth 100000 in
theorem light (s : St) (w : World) : Calls Tryz.prog 57 #[s.val] w fun e w' => e = .returned (.bool (lightS s)) ∧ Grew w w' := by
  have hl : (textsOf s).length = 8 := rfl
  obtain ⟨k1, ⟨ho, hn⟩, wh, ⟨ao, an⟩, ⟨bo, bn⟩, v⟩ := s
  have hT : textsOf ⟨k1, ⟨ho, hn⟩, wh, ⟨ao, an⟩, ⟨bo, bn⟩, v⟩ = [wh, v, ho, hn, ao, an, bo, bn] := rfl
  unfold lightS
  unfold St.val
  go_enter Tryz.func57, Tryz.ntmps57
  go_wp2
  have hrow : ∀ k, (h : k < (textsOf ⟨k1, ⟨ho, hn⟩, wh, ⟨ao, an⟩, ⟨bo, bn⟩, v⟩).length) → ((w.alloc (.cells #[.int .i64 k1, .string ho, .string hn, .string wh, .string ao, .string an, .string bo, .string bn, .string v] 67)).alloc (.cells #[.string wh, .string v, .string ho, .string hn, .string ao, .string an, .string bo, .string bn] 9)).cell? ⟨w.heap.size + 1, k, none⟩ = some (.string (textsOf ⟨k1, ⟨ho, hn⟩, wh, ⟨ao, an⟩, ⟨bo, bn⟩, v⟩)[k]) := fun k h => by
    have := Lib.cell_of_heap (heap_alloc_new (w.alloc (.cells #[.int .i64 k1, .string ho, .string hn, .string wh, .string ao, .string an, .string bo, .string bn, .string v] 67)) (.cells #[.string wh, .string v, .string ho, .string hn, .string ao, .string an, .string bo, .string bn] 9)) k
    rw [World.size_alloc] at this
    rw [this]
    match k, h with
    | 0, _ => rfl
    | 1, _ => rfl
    | 2, _ => rfl
    | 3, _ => rfl
    | 4, _ => rfl
    | 5, _ => rfl
    | 6, _ => rfl
    | 7, _ => rfl
  clear hT
  have Hrow := Lib.hid hrow
  have Hl := Lib.hid hl
  clear hrow hl
  generalize hE : textsOf ⟨k1, ⟨ho, hn⟩, wh, ⟨ao, an⟩, ⟨bo, bn⟩, v⟩ = l at *
  have HE := Lib.hid hE
  clear hE
  go_loop [29] (fun i => ∃ k : Nat, k ≤ 8 ∧ i = .int .i64 k ∧ Hid (∀ j, (h : j < l.length) → j < k → l[j].size ≤ 40)) (fun i => 8 - (intOf i).toNat)
  case atStart => exact ⟨0, by omega, rfl, Lib.hid fun j _ hj => by omega⟩
  case round =>
    obtain ⟨k, hk, rfl, hall⟩ := hrel
    by_cases hlt : k < 8
    · have hkl : k < l.length := by rw [Hl.out]; exact hlt
      have hc := Hrow.out k hkl
      have p1 : (0 : Int) ≤ k := by omega
      have p2 : (k : Int) < 8 := by omega
      by_cases h40 : l[k].size ≤ 40
      · have hnext : Hid (∀ j, (h : j < l.length) → j < k + 1 → l[j].size ≤ 40) := Lib.hid fun j h hj => by
          by_cases e : j = k
          · subst e; exact h40
          · exact hall.out j h (by omega)
        clear hall
        go_wp2_with fail
        go_round
        case rel => exact ⟨k + 1, by omega, by go_num, hnext⟩
        case measure => simp [intOf]; omega
      · have hf := Lib.hid (light_no hkl h40)
        have h41 : 40 < l[k].size := by omega
        clear hall h40
        go_wp2_with fail
        go_ret
        exact ⟨ret_bool (by rw [HE.out]; exact hf.out.symm), ((Grew.refl _).alloc _).alloc _⟩
    · have hf := Lib.hid (light_yes (fun j h => hall.out j h (by rw [Hl.out] at h; omega)))
      clear hall
      go_wp2_with fail
      go_ret
      exact ⟨ret_bool (by rw [HE.out]; exact hf.out.symm), ((Grew.refl _).alloc _).alloc _⟩
end Go.Proofs.YtblapgfilbmdhaaGreatDoor.TblM
namespace Go.Proofs.YtblapgfilbmdhaaGreatDoor.PolLi
open Go.RowKit Go.Sort Go.Lib Go.Proofs Plain SynP TabP Tab1 Grown QryP SynJ PolA PolE PolOp
section
variable {P : Program} (w : World)
theorem step_append_from {ops : Array Oper} {o : Oper} {a : Act} {K : Act → World → Prop} {Q : Exit → Act → World → Prop} {E : Prop} (hgd : o.guard = none) (s x : Operand) (t : TypeId)
    (ho : o.op = .call { callee := .builtin .append, args := #[s, x], argTypes := #[t, t] })
    (base : Nat) (e : TypeId) (i : TypeInfo) (z : Value) (size bytes : Nat) (ht : P.underlying t = some (.slice e)) (hi : P.info? e = some i) (hz : i.zero = some z)
    (hsize : i.size = size) (hby : i.bytes = bytes) (hzs : z.cells.size = size) (hsz : 0 < size) (v : Value) (n : Nat) (xs : List Value) (hs : a.eval s = v) (hown : w.ownsRow base e size v n xs)
    (A : Option Addr) (m c : Nat) (news : List Value) (hx : a.eval x = .slice A m c) (hlen : news.length = m * size) (h0 : A = none → m = 0) (hA : ∀ ad, A = some ad → ∀ j u, news[j]? = some u → w.cell? (ad.add j) = some u) (h1 : ∀ u ∈ news, u.oneCell' = true)
    (h63 : n + m ≤ maxLen) (hbytes : (n + m) * bytes ≤ 140737488355328) (hbase : base ≤ w.heap.size)
    (h : ∀ v' w', w'.ownsRow base e size v' (n + m) (xs ++ news) → w.grownBy w' v.ownBlock → K (a.put o.dst v') w') :
    if Region.wanted o (yielded ops a.tmps) = true then Oper.wp P o a w K Q else E := by
  have hw : Region.wanted o (yielded ops a.tmps) = true := by simp [Region.wanted, hgd]
  rw [if_pos hw]
  obtain ⟨v', w', hr, h2, h3⟩ := SynC.run_append_from (P := P) w base t o.type e i z size bytes ht hi hz hsize hby hzs hsz v n xs hown A m c news hlen h0 hA h1 h63 hbytes hbase
  unfold Oper.wp execOp
  simp only [ho, resolve, invoke, builtin, Sem.run_bind, Sem.run_pure, Result.andThen_ok, List.map_toArray, List.map_cons, List.map_nil, hs, hx, hr]
  exact h v' w' h2 h3
end
theorem nx {W w1 w2 : World} (h : Below W.heap.size W w1) (hb : Below w1.heap.size w1 w2) : Below W.heap.size W w2 := h.trans (hb.mono h.size)
theorem light40 {T : List Str} (h : Tab6.lightB T = true) : T.length ≤ 40 := by
  unfold Tab6.lightB at h
  rw [Bool.and_eq_true, decide_eq_true_iff] at h
  exact h.1
theorem own_n {w : World} {B n k : Nat} {e : TypeId} {v : Value} {xs : List Value} (h : w.ownsRow B e k v n xs) : ∃ A c, v = .slice A n c := by
  rcases h.2 with ⟨rfl, rfl⟩ | ⟨g, cap, cur, rfl, _⟩
  · exact ⟨none, 0, rfl⟩
  · exact ⟨_, cap, rfl⟩
theorem rg_none {w : World} {A : Option Addr} {L : List Rl} (h : RG w A L) : A = none → L.length = 0 := fun e => by
  rcases Nat.eq_zero_or_pos L.length with h0 | h0
  · exact h0
  · obtain ⟨g, o, hA, _⟩ := h h0
    rw [e] at hA; cases hA
theorem below_grown {W w w1 : World} {B n k : Nat} {e : TypeId} {v : Value} {xs : List Value} (hb : Below W.heap.size W w) (ho : w.ownsRow B e k v n xs) (hg : w.grownBy w1 v.ownBlock) (hB : W.heap.size ≤ B) (hBw : B ≤ w.heap.size) : Below W.heap.size W w1 :=
  hb.grown hg (by omega) (fun j hj => Nat.le_trans hB (ho.lt j hj).1)
structure Few (p : Py) : Prop where
  n1 : p.stmts.length ≤ 30
  n2 : p.grow.length ≤ 60
  n3 : p.shrink.length ≤ 30
  n4 : p.asks.length ≤ 30
  n5 : ∀ q ∈ p.asks, q.who.length ≤ 40
theorem Few.fit {p : Py} (h : Few p) (c : Came p) : p.fit := ⟨by have := h.n1; omega, by have := h.n2; omega, by have := h.n3; omega, by have := h.n4; omega, c.f1, c.f2, c.f3, c.f4, fun q hq => by have := h.n5 q hq; omega⟩
def LightPost (p : Py) (w : World) (e : Ending) (w' : World) : Prop := ∃ b, e = .returned (.bool b) ∧ (b = true → Few p) ∧ Below w.heap.size w w'
set_option maxHeartbeats 2000000 in
set_option maxRecDepth 100000 in
theorem light (p : Py) (A1 A2 A3 A4 : Option Addr) (c1 c2 c3 c4 : Nat) (w : World) (hc : Came p) (hp : PG w A1 A2 A3 A4 p) : Calls Tryz.prog 19 #[p.val A1 A2 A3 A4 c1 c2 c3 c4] w (LightPost p w) := by
  obtain ⟨S, G, H, Q⟩ := p
  have HP := Lib.hid hp
  have HC := Lib.hid hc
  have m1 := hc.n1
  have m2 := hc.n2
  have m3 := hc.n3
  have m4 := hc.n4
  unfold maxLen at m1 m2 m3 m4
  simp only at m1 m2 m3 m4
  clear hp hc
  have HZ : Hid (∀ w', Below w.heap.size w w' → LightPost ⟨S, G, H, Q⟩ w (.returned (.bool false)) w') := Lib.hid (fun w' hb => ⟨false, rfl, (fun h => by cases h), hb⟩)
  show Calls _ _ #[.agg #[.slice A1 S.length c1, .slice A2 G.length c2, .slice A3 H.length c3, .slice A4 Q.length c4]] _ _
  have hbx : Below w.heap.size w (w.alloc (.cells #[.slice A1 S.length c1, .slice A2 G.length c2, .slice A3 H.length c3, .slice A4 Q.length c4] 26)) := (Below.refl _ _).alloc (Nat.le_refl _) _
  have HB0 := Lib.hid hbx
  have HX : Hid (∀ w', Below (w.alloc (.cells #[.slice A1 S.length c1, .slice A2 G.length c2, .slice A3 H.length c3, .slice A4 Q.length c4] 26)).heap.size (w.alloc (.cells #[.slice A1 S.length c1, .slice A2 G.length c2, .slice A3 H.length c3, .slice A4 Q.length c4] 26)) w' → ∀ o, w'.cell? ⟨w.heap.size, o, none⟩ = (#[.slice A1 S.length c1, .slice A2 G.length c2, .slice A3 H.length c3, .slice A4 Q.length c4] : Array Value)[o]?) := Lib.hid (fun w' hb o => Lib.cell_of_heap ((hb.block _ (by simp)).trans (heap_alloc_new w _)) o)
  clear hbx
  go_enter Tryz.func19, Tryz.ntmps19
  go_upto_region 1 with fail
  generalize w.alloc (.cells #[.slice A1 S.length c1, .slice A2 G.length c2, .slice A3 H.length c3, .slice A4 Q.length c4] 26) = w0 at *
  have c0 := HX.out w0 (Below.refl _ _)
  by_cases g1 : 30 < S.length
  · have d1 : decide ((30 : Int) < (S.length : Int)) = true := by simp; omega
    go_wp2_with fail
    go_ret
    exact HZ.out _ HB0.out
  have d1 : decide ((30 : Int) < (S.length : Int)) = false := by simp; omega
  by_cases g2 : 30 < G.length
  · have d2 : decide ((30 : Int) < (G.length : Int)) = true := by simp; omega
    go_wp2_with fail
    go_ret
    exact HZ.out _ HB0.out
  have d2 : decide ((30 : Int) < (G.length : Int)) = false := by simp; omega
  by_cases g3 : 30 < H.length
  · have d3 : decide ((30 : Int) < (H.length : Int)) = true := by simp; omega
    go_wp2_with fail
    go_ret
    exact HZ.out _ HB0.out
  have d3 : decide ((30 : Int) < (H.length : Int)) = false := by simp; omega
  by_cases g4 : 30 < Q.length
  · have d4 : decide ((30 : Int) < (Q.length : Int)) = true := by simp; omega
    go_wp2_with fail
    go_ret
    exact HZ.out _ HB0.out
  have d4 : decide ((30 : Int) < (Q.length : Int)) = false := by simp; omega
  go_wp2_with fail
  clear d1 d2 d3 d4 c0
  go_loopw [34] (fun i wr => ∃ j : Nat, j ≤ S.length ∧ i = .int .i64 j ∧ Below w0.heap.size w0 wr) (fun i _ => S.length - (intOf i).toNat)
  case atStart => exact ⟨0, by omega, rfl, Below.refl _ _⟩
  case round =>
    obtain ⟨j, hj, rfl, hb⟩ := hrel
    by_cases hlt : j < S.length
    · have e1 : decide ((j : Int) < S.length) = true := by simp; omega
      have p0 : (0 : Int) ≤ j := by omega
      have p1 : (j : Int) < S.length := by omega
      obtain ⟨g, o, rfl, hg, hcell⟩ := (HP.out.s.below (nx HB0.out hb)) (by show 0 < S.length; omega)
      obtain ⟨a0, a1, a2, a3, a4, a5, a6, a7, a8⟩ := hcell j hlt
      have HL := Lib.hid (fun w' => TblM.light S[j] w')
      simp only at a0 a1 a2 a3 a4 a5 a6 a7 a8
      have HBk := Lib.hid hb
      clear hcell hb
      generalize S[j] = s at *
      obtain ⟨k1, ⟨ho, hn⟩, wh, ⟨ao, an⟩, ⟨bo, bn⟩, v⟩ := s
      unfold St.val at HL
      simp only at a0 a1 a2 a3 a4 a5 a6 a7 a8 HL
      generalize TblM.lightS _ = l1 at *
      have cb : ∀ o, (wr.alloc (.cells #[.int .i64 k1, .string ho, .string hn, .string wh, .string ao, .string an, .string bo, .string bn, .string v] 67)).cell? ⟨wr.heap.size, o, none⟩ = (#[.int .i64 k1, .string ho, .string hn, .string wh, .string ao, .string an, .string bo, .string bn, .string v] : Array Value)[o]? := fun o => Lib.cell_of_heap (heap_alloc_new wr _) o
      have HBb := Lib.hid (nx HBk.out ((Below.refl wr.heap.size wr).alloc (Nat.le_refl _) (.cells #[.int .i64 k1, .string ho, .string hn, .string wh, .string ao, .string an, .string bo, .string bn, .string v] 67)))
      go_wp2_with fail
      refine (HL.out _).mono ?_
      rintro e w2 ⟨rfl, hg2⟩
      have HB2 := Lib.hid (nx HBb.out hg2.below)
      clear hg2 cb a0 a1 a2 a3 a4 a5 a6 a7 a8
      cases l1
      · go_wp2_with fail
        go_ret
        exact HZ.out _ (nx HB0.out HB2.out)
      · go_wp2_with fail
        go_roundw
        case rel => exact ⟨j + 1, by omega, by go_num, HB2.out⟩
        case measure => simp [intOf]; omega
    · have e1 : decide ((j : Int) < S.length) = false := by simp; omega
      have HBk := Lib.hid hb
      have c5 := HX.out wr hb
      clear hb
      go_wp2_with fail
      clear c5
      generalize wr = w5 at *
      go_loopw [45] (fun i wr => ∃ j : Nat, j ≤ Q.length ∧ i = .int .i64 j ∧ Hid (∀ q ∈ Q.take j, q.who.length ≤ 40) ∧ Below w0.heap.size w0 wr) (fun i _ => Q.length - (intOf i).toNat)
      case atStart => exact ⟨0, by omega, rfl, Lib.hid (by simp), HBk.out⟩
      case round =>
        clear HBk
        obtain ⟨j, hj, rfl, hw, hb⟩ := hrel
        by_cases hlt : j < Q.length
        · have e1 : decide ((j : Int) < Q.length) = true := by simp; omega
          have p0 : (0 : Int) ≤ j := by omega
          have p1 : (j : Int) < Q.length := by omega
          obtain ⟨g, o, rfl, hg, hcell⟩ := (HP.out.q.below (nx HB0.out hb)) (by show 0 < Q.length; omega)
          obtain ⟨B, cB, a0, a1, a2, a3, a4, a5, hrow⟩ := hcell j hlt
          simp only at a0 a1 a2 a3 a4 a5 hrow
          have HFq := Lib.hid (HC.out.f4 Q[j] (List.getElem_mem hlt))
          have HBk := Lib.hid hb
          have HW1 : Hid (Q[j].who.length ≤ 40 → ∀ q ∈ Q.take (j + 1), q.who.length ≤ 40) := Lib.hid (fun h q hq => by
            rw [List.take_succ_eq_append_getElem hlt, List.mem_append, List.mem_singleton] at hq
            rcases hq with hq | rfl
            · exact hw.out q hq
            · exact h)
          clear hcell hb hw
          generalize Q[j] = q at *
          have HBb := Lib.hid ((Below.refl wr.heap.size wr).alloc (Nat.le_refl _) (.cells #[.int .i64 q.kind, .string q.a.owner, .string q.a.name, .string q.b.owner, .string q.b.name, .slice B q.who.length cB] 42))
          have HL := Lib.hid (QryO.light q B cB (wr.alloc (.cells #[.int .i64 q.kind, .string q.a.owner, .string q.a.name, .string q.b.owner, .string q.b.name, .slice B q.who.length cB] 42)) HFq.out (hrow.keep HBb.out))
          have HQ1 : Hid (QryO.lightQ q = true → q.who.length ≤ 40) := Lib.hid (fun h => by
            unfold QryO.lightQ at h
            rw [Bool.and_eq_true] at h
            exact light40 h.1)
          obtain ⟨k1, ⟨ao, an⟩, ⟨bo, bn⟩, T⟩ := q
          unfold Qy.val at HL
          simp only at a0 a1 a2 a3 a4 a5 HL HBb HQ1 HW1
          generalize QryO.lightQ _ = l1 at *
          have cb : ∀ o, (wr.alloc (.cells #[.int .i64 k1, .string ao, .string an, .string bo, .string bn, .slice B T.length cB] 42)).cell? ⟨wr.heap.size, o, none⟩ = (#[.int .i64 k1, .string ao, .string an, .string bo, .string bn, .slice B T.length cB] : Array Value)[o]? := fun o => Lib.cell_of_heap (heap_alloc_new wr _) o
          clear hrow HFq
          go_wp2_with fail
          refine HL.out.mono ?_
          rintro e w2 ⟨rfl, hg2⟩
          have HB2 := Lib.hid (nx HBk.out (nx HBb.out hg2.below))
          clear hg2 cb a0 a1 a2 a3 a4 a5 HL
          cases l1
          · go_wp2_with fail
            go_ret
            exact HZ.out _ (nx HB0.out HB2.out)
          · have HW2 := Lib.hid (HW1.out (HQ1.out rfl))
            go_wp2_with fail
            go_roundw
            case rel => exact ⟨j + 1, by omega, by go_num, HW2, HB2.out⟩
            case measure => simp [intOf]; omega
        · have e1 : decide ((j : Int) < Q.length) = false := by simp; omega
          have HFew : Hid (Few ⟨S, G, H, Q⟩) := Lib.hid ⟨by show S.length ≤ 30; omega, by show G.length ≤ 60; omega, by show H.length ≤ 30; omega, by show Q.length ≤ 30; omega, fun q hq => hw.out q (by rw [List.take_of_length_le (by omega)]; exact hq)⟩
          have HBk := Lib.hid hb
          have c6 := HX.out wr hb
          clear hb hw
          go_upto_region 15 with fail
          have hbA : Below w0.heap.size w0 (wr.alloc (.cells #[] 28)).drew := (HBk.out.alloc HBk.out.size _).drew
          have hd0 : ∀ o, wr.drew.cell? ⟨w.heap.size, o, none⟩ = (#[.slice A1 S.length c1, .slice A2 G.length c2, .slice A3 H.length c3, .slice A4 Q.length c4] : Array Value)[o]? := c6
          have hd1 : ∀ o, ((wr.alloc (.cells #[] 28)).drew).cell? ⟨w.heap.size, o, none⟩ = (#[.slice A1 S.length c1, .slice A2 G.length c2, .slice A3 H.length c3, .slice A4 Q.length c4] : Array Value)[o]? := HX.out _ hbA
          have hown0 : ((wr.alloc (.cells #[] 28)).drew).ownsRow wr.heap.size 28 2 (.slice (some ⟨wr.heap.size, 0, none⟩) 0 0) 0 [] := SynC.own_empty wr _ 2
          have HO0 := Lib.hid hown0
          have hG := HP.out.g.below (nx HB0.out hbA)
          have hH := HP.out.h.below (nx HB0.out hbA)
          simp only at hG hH
          have HG := Lib.hid hG
          have HH := Lib.hid hH
          have hwl : w.heap.size < wr.heap.size := by
            have := HBk.out.size
            have h2 := (HX.out w0 (Below.refl _ _) 0)
            have h3 : w0.cell? ⟨w.heap.size, 0, none⟩ = some (.slice A1 S.length c1) := h2
            have := World.block_lt_of_cell? _ _ h3
            simp only at this
            omega
          have HSz : Hid (wr.heap.size ≤ ((wr.alloc (.cells #[] 28)).drew).heap.size) := Lib.hid (by show wr.heap.size ≤ (wr.alloc _).heap.size; simp)
          have HN2 := Lib.hid (rg_none hG)
          have HN3 := Lib.hid (rg_none hH)
          have HBA := Lib.hid hbA
          obtain ⟨i0, hi, hz0, hz1, hz2⟩ := info_parts SynJ.infoRole
          clear hown0 hG hH hbA
          go_region_held3 (fun w' => ∀ o, w'.cell? ⟨w.heap.size, o, none⟩ = (#[.slice A1 S.length c1, .slice A2 G.length c2, .slice A3 H.length c3, .slice A4 Q.length c4] : Array Value)[o]?)
            (first | with_reducible assumption)
            (first | (refine step_append_from _ rfl (.tmp 53) (.tmp 55) 23 rfl wr.heap.size 28 i0 (.agg #[.string ⟨#[]⟩, .string ⟨#[]⟩]) 2 32 Tryz.underlying23 hi hz0 hz1 hz2 rfl (by decide) (.slice (some ⟨wr.heap.size, 0, none⟩) 0 0) 0 [] (by simp [Act.eval]) HO0.out A2 G.length c2 (rcells G) (by simp [Act.eval]) (rcells_len G) HN2.out (rg_cells HG.out) (rcells_one G) (by unfold maxLen; omega) (by omega) (by show wr.heap.size ≤ (wr.alloc _).heap.size; simp) ?_; intro v1 w1 hown1 hg1; have hs1 := Nat.le_trans HSz.out hg1.size; have hb1 := Lib.hid (below_grown HBA.out HO0.out hg1 HBk.out.size (by show wr.heap.size ≤ (wr.alloc _).heap.size; simp)); have hd2 := HX.out _ hb1.out)
                   | (refine step_append_from _ rfl (.tmp 56) (.tmp 58) 23 rfl wr.heap.size 28 i0 (.agg #[.string ⟨#[]⟩, .string ⟨#[]⟩]) 2 32 Tryz.underlying23 hi hz0 hz1 hz2 rfl (by decide) v1 (0 + G.length) ([] ++ rcells G) (by simp [Act.eval]) hown1 A3 H.length c3 (rcells H) (by simp [Act.eval]) (rcells_len H) HN3.out (rg_cells (HP.out.h.below (nx HB0.out hb1.out))) (rcells_one H) (by unfold maxLen; omega) (by omega) hs1 ?_; intro v2 w2 hown2 hg2; obtain ⟨A5, c5, rfl⟩ := own_n hown2; have hb2 := Lib.hid (below_grown hb1.out hown1 hg2 HBk.out.size hs1); have hd3 := HX.out _ hb2.out))
          obtain ⟨T, hT⟩ : ∃ T, T = G ++ H := ⟨_, rfl⟩
          have hTl : T.length = 0 + G.length + H.length := by rw [hT]; simp
          have hTr : rcells T = [] ++ rcells G ++ rcells H := by rw [hT, rcells_app]; simp
          rw [← hTl, ← hTr] at hown2
          rw [← hTl]
          have hRT := PolK.rg_of_own hown2
          have HRT := Lib.hid hRT
          have HB2 := hb2
          have hT60 : T.length ≤ 60 := by omega
          clear hb1 hb2 hd0 hd1 hd2 hd3 hown1 hg1 hown2 hg2 hTr hT hRT c6 hs1
          go_wp2_with fail
          go_loopw [61] (fun i wr => ∃ j : Nat, j ≤ T.length ∧ i = .int .i64 j ∧ Below w2.heap.size w2 wr) (fun i _ => T.length - (intOf i).toNat)
          case atStart => exact ⟨0, by omega, rfl, Below.refl _ _⟩
          case round =>
            obtain ⟨j, hj, rfl, hb⟩ := hrel
            have HBF := Lib.hid (nx (nx HB0.out HB2.out) hb)
            by_cases hlt : j < T.length
            · have e1 : decide ((j : Int) < T.length) = true := by simp; omega
              have e2 : decide ((j : Int) < (G.length : Int) + (H.length : Int)) = true := by simp; omega
              have p2 : (j : Int) < (G.length : Int) + (H.length : Int) := by omega
              have p0 : (0 : Int) ≤ j := by omega
              have p1 : (j : Int) < T.length := by omega
              obtain ⟨g, o, rfl, hg, hcell⟩ := (HRT.out.below hb) (by omega)
              obtain ⟨a0, a1⟩ := hcell j hlt
              have HBk := Lib.hid (nx hb ((Below.refl wr.heap.size wr).alloc (Nat.le_refl _) (.cells #[.string T[j].owner, .string T[j].name] 28)))
              have HBG := Lib.hid (nx HBF.out ((Below.refl wr.heap.size wr).alloc (Nat.le_refl _) (.cells #[.string T[j].owner, .string T[j].name] 28)))
              clear hcell hb
              generalize T[j].owner = x at *
              generalize T[j].name = y at *
              by_cases q1 : 40 < x.size
              · have f1 : decide ((40 : Int) < (x.size : Int)) = true := by simp; omega
                go_wp2_with fail
                go_ret
                exact HZ.out _ HBG.out
              · have f1 : decide ((40 : Int) < (x.size : Int)) = false := by simp; omega
                by_cases q2 : 40 < y.size
                · have f2 : decide ((40 : Int) < (y.size : Int)) = true := by simp; omega
                  go_wp2_with fail
                  go_ret
                  exact HZ.out _ HBG.out
                · have f2 : decide ((40 : Int) < (y.size : Int)) = false := by simp; omega
                  go_wp2_with fail
                  go_roundw
                  case rel => exact ⟨j + 1, by omega, by go_num, HBk.out⟩
                  case measure => simp [intOf]; omega
            · have e1 : decide ((j : Int) < T.length) = false := by simp; omega
              have e2 : decide ((j : Int) < (G.length : Int) + (H.length : Int)) = false := by simp; omega
              clear hb
              go_wp2_with fail
              go_ret
              exact ⟨true, rfl, fun _ => HFew.out, HBF.out⟩
end Go.Proofs.YtblapgfilbmdhaaGreatDoor.PolLi
namespace Go.Proofs.YtblapgfilbmdhaaGreatDoor.PolO
open Go.RowKit Go.Sort Go.Lib Go.Proofs Plain SynP TabP Tab1 Grown SynC SynD2 SynJ QryP PolA PolE PolG PolK
def Moves (w : World) (b b' : Option Nat) : Prop := b' = b ∨ ∃ g, b' = some g ∧ w.heap.size ≤ g
section
variable {P : Program} (w : World)
theorem wpList_append_at {ops : Array Oper} {rest : List Oper} {o : Oper} {a : Act} {Q : Exit → Act → World → Prop} (hgd : o.guard = none) (s x : Operand) (t : TypeId)
    (ho : o.op = .call { callee := .builtin .append, args := #[s, x], argTypes := #[t, t] })
    (base : Nat) (e : TypeId) (i : TypeInfo) (z : Value) (size bytes : Nat) (ht : P.underlying t = some (.slice e)) (hi : P.info? e = some i) (hz : i.zero = some z)
    (hsize : i.size = size) (hby : i.bytes = bytes) (hzs : z.cells.size = size) (hsz : 0 < size) (v : Value) (n : Nat) (xs : List Value) (hs : a.eval s = v) (hown : w.ownsRow base e size v n xs)
    (ad : Addr) (m c : Nat) (news : List Value) (hx : a.eval x = .slice (some ad) m c) (hlen : news.length = m * size) (hA : ∀ ad', some ad = some ad' → ∀ j u, news[j]? = some u → w.cell? (ad'.add j) = some u) (h1 : ∀ u ∈ news, u.oneCell' = true)
    (h63 : n + m ≤ maxLen) (hbytes : (n + m) * bytes ≤ 140737488355328) (hbase : base ≤ w.heap.size)
    (h : ∀ v' w', w'.ownsRow base e size v' (n + m) (xs ++ news) → w.grownBy w' v.ownBlock → Moves w v.ownBlock v'.ownBlock → wpList P ops Q rest (a.put o.dst v') w') : wpList P ops Q (o :: rest) a w := by
  obtain ⟨v', w', hrun, h2, h3, _, h5⟩ := run_append_own_at (P := P) w base t o.type e i z size bytes ht hi hz hsize hby hzs hsz v n xs hown ad m c news hlen (hA ad rfl) h1 h63 hbytes hbase
  refine Lib.wpList_append_run w hgd s x t t ho v _ hs hx v' w' hrun (h v' w' h2 h3 ?_)
  rcases h5 with h | h
  · exact .inl h
  · exact .inr ⟨_, h, Nat.le_refl _⟩
end
end Go.Proofs.YtblapgfilbmdhaaGreatDoor.PolO
