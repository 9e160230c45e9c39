/- Tables: say, by contract. -/
import Derived.Test.YtnhjnimgjpgfcaaTblC
namespace Go.Proofs.Ytnhjnimgjpgfcaa.TblD
open Go.RowKit Go.Sort Go.Lib Go.Proofs Go.Proofs.Ytnhjnimgjpgfcaa.Plain Go.Proofs.Ytnhjnimgjpgfcaa.SynP Go.Proofs.Ytnhjnimgjpgfcaa.TabP Go.Proofs.Ytnhjnimgjpgfcaa.Tab1 Go.Proofs.Ytnhjnimgjpgfcaa.Tab2 Go.Proofs.Ytnhjnimgjpgfcaa.RolK Go.Proofs.Ytnhjnimgjpgfcaa.TblA Go.Proofs.Ytnhjnimgjpgfcaa.TblB Go.Proofs.Ytnhjnimgjpgfcaa.TblC
set_option linter.unusedVariables false
set_option linter.unusedSimpArgs false
def SayPost (ok : Bool) (uf : Ru) (r : Nat) (w : World) (e : Ending) (w' : World) : Prop := e = .returned (.bool ok) ∧ (∃ u', RuAt w' r u' ∧ (ok = true → u' = uf)) ∧ w.grownBy w' (some r)
section
variable {t a b : Nat} {A1 : Option Addr} {c1 : Nat} {A2 : Option Addr} {c2 : Nat} {P L : List Str}
set_option maxRecDepth 100000
set_option maxHeartbeats 1000000 in
theorem say1 (w : World) (h : TblK w t a b A1 c1 A2 c2 P L) (ho hn wh ao an bo bn v : ByteArray) (u : Ru) (r : Nat) (hr : RuAt w r u) :
    Calls Try.prog 37 #[.pointer (some ⟨t, 0, none⟩), .pointer (some ⟨r, 0, none⟩), .agg #[.int .i64 1, .string ho, .string hn, .string wh, .string ao, .string an, .string bo, .string bn, .string v]] w (SayPost (decide (0 ≤ findI P wh.toList)) (u.set 2 (findI P wh.toList)) r w) := by
  have hmf : ∀ (fn : Fn) (first cap : Array Value) (w : World), (Instr.makeFunc fn first cap).run Try.prog w = .ok (.func fn first cap) w := fun _ _ _ _ => rfl
  have HP := Lib.hid (fun w' hb => prins (w := w') (h.keep hb))
  have HPut := Lib.hid (fun w' (hb : RowKit.Below w.heap.size w w') => putS w' a P A1 c1 (by have := h.pl; omega) h.sp (h.keep hb).ra (h.keep hb).lt.2.1 (h.keep hb).a0 wh u r 2 (hr.below hb) (by omega) (by omega))
  have HFin : Hid (∀ w1 w2, RowKit.Below w.heap.size w w1 → RuAt w2 r (u.set 2 (findI P wh.toList)) → w1.grownBy w2 (some r) → SayPost (decide (0 ≤ findI P wh.toList)) (u.set 2 (findI P wh.toList)) r w (.returned (.bool (decide (0 ≤ findI P wh.toList)))) w2) := Lib.hid (fun w1 w2 hb h1 h2 => ⟨rfl, ⟨_, h1, fun _ => rfl⟩, below_grew hb h2⟩)
  unfold PutPost at HPut
  generalize findI P wh.toList = x at *
  clear h hr
  have hB : RowKit.Below w.heap.size w (w.alloc (.cells #[.int .i64 1, .string ho, .string hn, .string wh, .string ao, .string an, .string bo, .string bn, .string v] 26)).drew := ((Below.refl _ _).alloc (Nat.le_refl _) _).drew
  have HB := Lib.hid hB
  clear hB
  go_enter Try.func37, Try.ntmps37
  go_wp2_with fail
  go_region_with (first | ((with_reducible refine (HP.out _ HB.out).mono ?_); rintro e w' ⟨rfl, rfl⟩) | ((with_reducible refine (HPut.out _ HB.out).mono ?_); rintro e w' ⟨rfl, hru, hg⟩))
  all_goals
    have HF := Lib.hid (HFin.out _ _ HB.out hru hg)
    clear hru hg
    go_wp2_with fail
    go_ret
    exact HF.out
set_option maxHeartbeats 1000000 in
theorem say2 (w : World) (h : TblK w t a b A1 c1 A2 c2 P L) (ho hn wh ao an bo bn v : ByteArray) (u : Ru) (r : Nat) (hr : RuAt w r u) :
    Calls Try.prog 37 #[.pointer (some ⟨t, 0, none⟩), .pointer (some ⟨r, 0, none⟩), .agg #[.int .i64 2, .string ho, .string hn, .string wh, .string ao, .string an, .string bo, .string bn, .string v]] w (SayPost (decide (0 ≤ roleI P L ⟨ao, an⟩)) (u.set 3 (roleI P L ⟨ao, an⟩)) r w) := by
  have hmf : ∀ (fn : Fn) (first cap : Array Value) (w : World), (Instr.makeFunc fn first cap).run Try.prog w = .ok (.func fn first cap) w := fun _ _ _ _ => rfl
  have HPut := Lib.hid (fun w' (hb : RowKit.Below w.heap.size w w') => putR w' (h.keep hb) ⟨ao, an⟩ u r 3 (hr.below hb) (by omega) (by omega))
  have HFin : Hid (∀ w1 w2, RowKit.Below w.heap.size w w1 → RuAt w2 r (u.set 3 (roleI P L ⟨ao, an⟩)) → w1.grownBy w2 (some r) → SayPost (decide (0 ≤ roleI P L ⟨ao, an⟩)) (u.set 3 (roleI P L ⟨ao, an⟩)) r w (.returned (.bool (decide (0 ≤ roleI P L ⟨ao, an⟩)))) w2) := Lib.hid (fun w1 w2 hb h1 h2 => ⟨rfl, ⟨_, h1, fun _ => rfl⟩, below_grew hb h2⟩)
  unfold PutPost Rl.val at HPut
  generalize roleI P L ⟨ao, an⟩ = x at *
  simp only at *
  clear h hr
  have hB : RowKit.Below w.heap.size w (w.alloc (.cells #[.int .i64 2, .string ho, .string hn, .string wh, .string ao, .string an, .string bo, .string bn, .string v] 26)).drew := ((Below.refl _ _).alloc (Nat.le_refl _) _).drew
  have HB := Lib.hid hB
  have hbx : (w.alloc (.cells #[.int .i64 2, .string ho, .string hn, .string wh, .string ao, .string an, .string bo, .string bn, .string v] 26)).drew.heap[w.heap.size]? = some (.cells #[.int .i64 2, .string ho, .string hn, .string wh, .string ao, .string an, .string bo, .string bn, .string v] 26 (0, 0)) := heap_alloc_new w _
  have HBX := Lib.hid hbx
  have HC : Hid (∀ (w' : World), w'.heap[w.heap.size]? = some (.cells #[.int .i64 2, .string ho, .string hn, .string wh, .string ao, .string an, .string bo, .string bn, .string v] 26 (0, 0)) → ∀ o, w'.cell? ⟨w.heap.size, o, none⟩ = (#[.int .i64 2, .string ho, .string hn, .string wh, .string ao, .string an, .string bo, .string bn, .string v] : Array Value)[o]?) := Lib.hid (fun w' e o => Lib.cell_of_heap e o)
  clear hB hbx
  go_enter Try.func37, Try.ntmps37
  go_wp2_with fail
  go_region_with ((with_reducible refine (HPut.out _ HB.out).mono ?_); rintro e w' ⟨rfl, hru, hg⟩)
  all_goals
    have HF := Lib.hid (HFin.out _ _ HB.out hru hg)
    clear hru hg
    go_wp2_with fail
    go_ret
    exact HF.out
set_option maxHeartbeats 2000000 in
theorem say3 (w0 w : World) (h : TblK w0 t a b A1 c1 A2 c2 P L) (hb0 : RowKit.Below w0.heap.size w0 w) (ho hn wh ao an bo bn v : ByteArray) (u : Ru) (r : Nat) (hr : RuAt w r u) (hr0 : w0.heap.size ≤ r) :
    Calls Try.prog 37 #[.pointer (some ⟨t, 0, none⟩), .pointer (some ⟨r, 0, none⟩), .agg #[.int .i64 3, .string ho, .string hn, .string wh, .string ao, .string an, .string bo, .string bn, .string v]] w (SayPost (decide (0 ≤ findI L v.toList) && decide (0 ≤ roleI P L ⟨ao, an⟩)) ((u.set 5 (findI L v.toList)).set 3 (roleI P L ⟨ao, an⟩)) r w) := by
  have hmf : ∀ (fn : Fn) (first cap : Array Value) (w : World), (Instr.makeFunc fn first cap).run Try.prog w = .ok (.func fn first cap) w := fun _ _ _ _ => rfl
  have hrlt := hr.lt
  have hB : RowKit.Below w.heap.size w (w.alloc (.cells #[.int .i64 3, .string ho, .string hn, .string wh, .string ao, .string an, .string bo, .string bn, .string v] 26)).drew := ((Below.refl _ _).alloc (Nat.le_refl _) _).drew
  have hbx : (w.alloc (.cells #[.int .i64 3, .string ho, .string hn, .string wh, .string ao, .string an, .string bo, .string bn, .string v] 26)).drew.heap[w.heap.size]? = some (.cells #[.int .i64 3, .string ho, .string hn, .string wh, .string ao, .string an, .string bo, .string bn, .string v] 26 (0, 0)) := heap_alloc_new w _
  have HC : Hid (∀ (w' : World), w'.heap[w.heap.size]? = some (.cells #[.int .i64 3, .string ho, .string hn, .string wh, .string ao, .string an, .string bo, .string bn, .string v] 26 (0, 0)) → ∀ o, w'.cell? ⟨w.heap.size, o, none⟩ = (#[.int .i64 3, .string ho, .string hn, .string wh, .string ao, .string an, .string bo, .string bn, .string v] : Array Value)[o]?) := Lib.hid (fun w' e o => Lib.cell_of_heap e o)
  have HR2 := Lib.hid (hr.below hB)
  have HB0 := Lib.hid (hb0.trans (hB.mono hb0.size))
  have hz : w.heap.size < (w.alloc (.cells #[.int .i64 3, .string ho, .string hn, .string wh, .string ao, .string an, .string bo, .string bn, .string v] 26)).drew.heap.size := by show w.heap.size < (w.alloc _).heap.size; simp
  have HG : Hid (∀ w1 : World, (w.alloc (.cells #[.int .i64 3, .string ho, .string hn, .string wh, .string ao, .string an, .string bo, .string bn, .string v] 26)).drew.grownBy w1 (some r) → RowKit.Below w0.heap.size w0 w1 ∧ w1.heap[w.heap.size]? = some (.cells #[.int .i64 3, .string ho, .string hn, .string wh, .string ao, .string an, .string bo, .string bn, .string v] 26 (0, 0)) ∧ w.grownBy w1 (some r)) := Lib.hid (fun w1 hg => ⟨HB0.out.grown hg HB0.out.size (fun k hk => by injection hk with hk; omega), (hg.block _ hz (by simp; omega)).trans hbx, below_grew hB hg⟩)
  have HBX := Lib.hid hbx
  have HB := Lib.hid hB
  clear hB hbx hz
  have HK := Lib.hid (fun w' hb => links (w := w') (h.keep hb))
  have HV := Lib.hid (fun w' hb (hu : RuAt w' r u) => putS w' b L A2 c2 (by have := h.ll; omega) h.sl (h.keep hb).rb (h.keep hb).lt.2.2 (h.keep hb).b0 v u r 5 hu (by omega) (by omega))
  have HPut := Lib.hid (fun w' hb (hu : RuAt w' r (u.set 5 (findI L v.toList))) => putR w' (h.keep hb) ⟨ao, an⟩ (u.set 5 (findI L v.toList)) r 3 hu (by omega) (by omega))
  unfold PutPost at HV HPut
  unfold Rl.val at HPut
  simp only at HPut
  generalize roleI P L ⟨ao, an⟩ = x at *
  generalize findI L v.toList = y at *
  clear h hr hb0
  by_cases hy : 0 ≤ y
  · have hd : decide (0 ≤ y) = true := decide_eq_true hy
    rw [hd, Bool.true_and]
    rw [hd] at HV
    clear hy hd
    go_enter Try.func37, Try.ntmps37
    go_wp2_with fail
    go_region_with (first | ((with_reducible refine (HK.out _ HB0.out).mono ?_); rintro e w' ⟨rfl, rfl⟩) | ((with_reducible refine (HV.out _ HB0.out HR2.out).mono ?_); rintro e w1 ⟨rfl, hru, hg⟩))
    all_goals
      obtain ⟨g1, g2, g3⟩ := HG.out _ hg
      have hcx := HC.out _ g2
      have HRU := Lib.hid hru
      have HG1 := Lib.hid g1
      have HG3 := Lib.hid g3
      clear hru hg g1 g2 g3
      have hcx' := fun o => (show w1.drew.cell? ⟨w.heap.size, o, none⟩ = _ from hcx o)
      have HRU2 : Hid (RuAt w1.drew r (u.set 5 y)) := HRU
      have HG12 := Lib.hid HG1.out.drew
      have HFin : Hid (∀ w2, RuAt w2 r ((u.set 5 y).set 3 x) → w1.drew.grownBy w2 (some r) → SayPost (decide (0 ≤ x)) ((u.set 5 y).set 3 x) r w (.returned (.bool (decide (0 ≤ x)))) w2) := Lib.hid (fun w2 h1 h2 => ⟨rfl, ⟨_, h1, fun _ => rfl⟩, grew_trans HG3.out ⟨h2.os, h2.tape, h2.output, h2.size, h2.block⟩⟩)
      go_wp2_with fail
      go_region_with ((with_reducible refine (HPut.out _ HG12.out HRU2.out).mono ?_); rintro e w2 ⟨rfl, hru2, hg2⟩)
      all_goals
        have HF := Lib.hid (HFin.out _ hru2 hg2)
        clear hru2 hg2
        go_wp2_with fail
        go_ret
        exact HF.out
  · have hd : decide (0 ≤ y) = false := decide_eq_false hy
    rw [hd, Bool.false_and]
    rw [hd] at HV
    clear hy hd
    go_enter Try.func37, Try.ntmps37
    go_wp2_with fail
    go_region_with (first | ((with_reducible refine (HK.out _ HB0.out).mono ?_); rintro e w' ⟨rfl, rfl⟩) | ((with_reducible refine (HV.out _ HB0.out HR2.out).mono ?_); rintro e w1 ⟨rfl, hru, hg⟩))
    all_goals
      obtain ⟨g1, g2, g3⟩ := HG.out _ hg
      have HF := Lib.hid (show SayPost false ((u.set 5 y).set 3 x) r w (.returned (.bool false)) w1 from ⟨rfl, ⟨_, hru, fun h => by cases h⟩, g3⟩)
      clear hru hg g1 g2 g3
      go_wp2_with fail
      go_ret
      exact HF.out
end
end Go.Proofs.Ytnhjnimgjpgfcaa.TblD
