/- The document's Rule, by contract. -/
import Derived.Test.YtnhjnimgjpgfcaaTblF
import Derived.Test.YtnhjnimgjpgfcaaTblG
import Derived.Deep.CutBlock
import Derived.Deep.LoopGhost
namespace Go.Proofs.Ytnhjnimgjpgfcaa.TblH
open Go.RowKit Go.Sort Go.Lib Go.Proofs Go.Proofs.Ytnhjnimgjpgfcaa.Plain Go.Proofs.Ytnhjnimgjpgfcaa.SynP Go.Proofs.Ytnhjnimgjpgfcaa.Grown Go.Proofs.Ytnhjnimgjpgfcaa.TabP Go.Proofs.Ytnhjnimgjpgfcaa.Tab1 Go.Proofs.Ytnhjnimgjpgfcaa.Tab2 Go.Proofs.Ytnhjnimgjpgfcaa.RolK Go.Proofs.Ytnhjnimgjpgfcaa.TblA Go.Proofs.Ytnhjnimgjpgfcaa.TblB Go.Proofs.Ytnhjnimgjpgfcaa.TblC Go.Proofs.Ytnhjnimgjpgfcaa.TblF Go.Proofs.Ytnhjnimgjpgfcaa.TblG
set_option linter.unusedVariables false
set_option linter.unusedSimpArgs false
section
variable {P L : List Str}
set_option maxRecDepth 100000
set_option maxHeartbeats 1000000 in
theorem ref_no (A B : Option Addr) (ca cb n1 n2 : Nat) (w : World) (s : St) (hf : s.fit) (hs : s.right = false) :
    Calls Try.prog 12 #[.slice A n1 ca, .slice B n2 cb, s.val] w (RulePost false zeroU w) := by
  have HR : Hid (∀ w', Calls Try.prog 32 #[s.val] w' fun e w'' => e = .returned (.bool false) ∧ RowKit.Below w'.heap.size w' w'') := Lib.hid (fun w' => (Syn9.rightRef s w' hf).mono fun e w'' h => ⟨by rw [h.1, hs], h.2.below⟩)
  obtain ⟨k, ⟨ho', hn⟩, wh, ⟨ao, an⟩, ⟨bo, bn⟩, v⟩ := s
  unfold St.val at *
  simp only at *
  clear hf hs
  go_enter Try.func12, Try.ntmps12
  go_wp2_with fail
  refine (HR.out _).mono ?_
  rintro e w1 ⟨rfl, hb⟩
  have h4 : w1.heap[w.heap.size + 1]? = some (.cells zeroU.cells 34 (0, 0)) := (hb.block _ (by simp <;> omega)).trans (heap_alloc2_new w _ _)
  have hbel : RowKit.Below w.heap.size w w1 := (((Below.refl w.heap.size w).alloc (Nat.le_refl _) _).alloc (by simp) _).trans (hb.mono (by simp <;> omega))
  have H4 := Lib.hid h4
  have HB := Lib.hid hbel
  clear h4 hbel hb
  go_wp2_with (refine wpList_store_row rfl 34 _ _ rfl (w.heap.size + 1) zeroU.cells rfl rfl 34 _ H4.out infoRule rfl (one6 _) ?_)
  have hl := cell_rule (u := zeroU) H4.out
  have hz := below_setRow HB.out (show w.heap.size ≤ w.heap.size + 1 by omega) zeroU.cells
  generalize World.setRow _ (w.heap.size + 1) zeroU.cells = wz at hl hz ⊢
  refine bodyPost_ret (v := .tuple #[.agg zeroU.cells, .bool false]) (by simp [results, Try.results12, go_sem, hl, Ru.cells]) rfl ⟨rfl, hz⟩
/-- What the rest of the document's Rule starts from. -/
structure Mid (w wx : World) (N : Nat) (k : Int) (ho' hn wh ao an bo bn v : ByteArray) (u : Ru) : Prop where
  below : RowKit.Below w.heap.size w wx
  box : wx.heap[w.heap.size]? = some (.cells #[.int .i64 k, .string ho', .string hn, .string wh, .string ao, .string an, .string bo, .string bn, .string v] 26 (0, 0))
  out : wx.heap[w.heap.size + 1]? = some (.cells zeroU.cells 34 (0, 0))
  at_ : RuAt wx N u
  far : w.heap.size + 2 ≤ N
theorem Mid.keep {w wx w' : World} {N : Nat} {k : Int} {ho' hn wh ao an bo bn v : ByteArray} {u : Ru} (h : Mid w wx N k ho' hn wh ao an bo bn v u) (hb : RowKit.Below wx.heap.size wx w') : Mid w w' N k ho' hn wh ao an bo bn v u :=
  ⟨h.below.trans (hb.mono h.below.size), (hb.block _ (Array.getElem?_eq_some_iff.1 h.box).1).trans h.box, (hb.block _ (Array.getElem?_eq_some_iff.1 h.out).1).trans h.out, h.at_.below hb, h.far⟩
theorem Mid.put {w wx : World} {N : Nat} {k : Int} {ho' hn wh ao an bo bn v : ByteArray} {u : Ru} (h : Mid w wx N k ho' hn wh ao an bo bn v u) (o : Nat) (h1 : 1 ≤ o) (h5 : o ≤ 5) (x : Int) : Mid w (wx.setCell ⟨N, o, none⟩ (.int .i64 x)) N k ho' hn wh ao an bo bn v (u.set o x) := by
  have hf := h.far
  exact ⟨h.below.setCell (by show w.heap.size ≤ N; omega) _, (Below.heap_setCell _ _ _ _ (by show w.heap.size ≠ N; omega)).trans h.box, (Below.heap_setCell _ _ _ _ (by show w.heap.size + 1 ≠ N; omega)).trans h.out, h.at_.put o h1 h5 x, h.far⟩
theorem Mid.put0 {w wx : World} {N : Nat} {k : Int} {ho' hn wh ao an bo bn v : ByteArray} {u : Ru} (h : Mid w wx N k ho' hn wh ao an bo bn v u) (x : Int) : Mid w (wx.setCell ⟨N, 0, none⟩ (.int .i64 x)) N k ho' hn wh ao an bo bn v { u with kind := x } := by
  have hf := h.far
  refine ⟨h.below.setCell (by show w.heap.size ≤ N; omega) _, (Below.heap_setCell _ _ _ _ (by show w.heap.size ≠ N; omega)).trans h.box, (Below.heap_setCell _ _ _ _ (by show w.heap.size + 1 ≠ N; omega)).trans h.out, ?_, h.far⟩
  unfold RuAt
  rw [heap_setCell_same _ _ _ _ _ _ h.at_]
  rfl
theorem mid_a {w w1 w2 : World} {k x : Int} {ho' hn wh ao an bo bn v : ByteArray} (HB : RowKit.Below w.heap.size w w1)
    (HX : w1.heap[w.heap.size]? = some (.cells #[.int .i64 k, .string ho', .string hn, .string wh, .string ao, .string an, .string bo, .string bn, .string v] 26 (0, 0)))
    (H4 : w1.heap[w.heap.size + 1]? = some (.cells zeroU.cells 34 (0, 0))) (hlt : w.heap.size + 2 ≤ w1.heap.size) (hb : RowKit.Below w1.drew.heap.size w1.drew w2) :
    Mid w (w2.alloc (.cells #[.int .i64 k, .int .i64 x, .int .i64 0, .int .i64 0, .int .i64 0, .int .i64 0] 34)) w2.heap.size k ho' hn wh ao an bo bn v ⟨k, x, 0, 0, 0, 0⟩ := by
  have hb' : RowKit.Below w1.heap.size w1 w2 := ⟨hb.os, hb.tape, hb.output, hb.size, fun k hk => hb.block k hk⟩
  have hz := hb'.size
  refine ⟨(HB.trans (hb'.mono HB.size)).alloc (by omega) _, ?_, ?_, heap_alloc_new w2 _, by omega⟩
  · exact (Below.heap_alloc _ _ _ (by omega)).trans ((hb'.block _ (by omega)).trans HX)
  · exact (Below.heap_alloc _ _ _ (by omega)).trans ((hb'.block _ (by omega)).trans H4)
theorem mid_b {w w1 w2 : World} {k x : Int} {ho' hn wh ao an bo bn v : ByteArray} (HB : RowKit.Below w.heap.size w w1)
    (HX : w1.heap[w.heap.size]? = some (.cells #[.int .i64 k, .string ho', .string hn, .string wh, .string ao, .string an, .string bo, .string bn, .string v] 26 (0, 0)))
    (H4 : w1.heap[w.heap.size + 1]? = some (.cells zeroU.cells 34 (0, 0))) (hlt : w.heap.size + 2 ≤ w1.heap.size)
    (hb : RowKit.Below (w1.alloc (.cells #[.int .i64 0, .int .i64 0, .int .i64 0, .int .i64 0, .int .i64 0, .int .i64 0] 34)).drew.heap.size (w1.alloc (.cells #[.int .i64 0, .int .i64 0, .int .i64 0, .int .i64 0, .int .i64 0, .int .i64 0] 34)).drew w2) :
    Mid w ((((((w2.setCell ⟨w1.heap.size, 0, none⟩ (.int .i64 k)).setCell ⟨w1.heap.size, 1, none⟩ (.int .i64 x)).setCell ⟨w1.heap.size, 2, none⟩ (.int .i64 0)).setCell ⟨w1.heap.size, 3, none⟩ (.int .i64 0)).setCell ⟨w1.heap.size, 4, none⟩ (.int .i64 0)).setCell ⟨w1.heap.size, 5, none⟩ (.int .i64 0)) w1.heap.size k ho' hn wh ao an bo bn v ⟨k, x, 0, 0, 0, 0⟩ := by
  have hb' : RowKit.Below (w1.alloc (.cells #[.int .i64 0, .int .i64 0, .int .i64 0, .int .i64 0, .int .i64 0, .int .i64 0] 34)).heap.size (w1.alloc (.cells #[.int .i64 0, .int .i64 0, .int .i64 0, .int .i64 0, .int .i64 0, .int .i64 0] 34)) w2 := ⟨hb.os, hb.tape, hb.output, hb.size, fun k hk => hb.block k hk⟩
  have hz := hb'.size
  simp only [World.size_alloc] at hz
  have h0 : Mid w w2 w1.heap.size k ho' hn wh ao an bo bn v zeroU :=
    ⟨(HB.alloc HB.size _).trans (hb'.mono (by simp; omega)), (hb'.block _ (by simp; omega)).trans ((Below.heap_alloc _ _ _ (by omega)).trans HX), (hb'.block _ (by simp; omega)).trans ((Below.heap_alloc _ _ _ (by omega)).trans H4), (hb'.block _ (by simp)).trans (heap_alloc_new w1 _), by omega⟩
  exact (((((h0.put0 k).put 1 (by omega) (by omega) x).put 2 (by omega) (by omega) 0).put 3 (by omega) (by omega) 0).put 4 (by omega) (by omega) 0).put 5 (by omega) (by omega) 0
set_option maxHeartbeats 4000000 in
theorem ref_yes (A B : Option Addr) (ca cb : Nat) (w : World) (hP : P.length ≤ 100000) (hL : L.length ≤ 100000) (hA : SRow w A P) (hB : SRow w B L) (s : St) (hf : s.fit) (hs : s.right = true) :
    Calls Try.prog 12 #[.slice A P.length ca, .slice B L.length cb, s.val] w (RulePost (ruleOk P L s) (ruleA P L s) w) := by
  have HR : Hid (∀ w', Calls Try.prog 32 #[s.val] w' fun e w'' => e = .returned (.bool true) ∧ RowKit.Below w'.heap.size w' w'') := Lib.hid (fun w' => (Syn9.rightRef s w' hf).mono fun e w'' h => ⟨by rw [h.1, hs], h.2.below⟩)
  have HRo := Lib.hid (fun w' (hb : RowKit.Below w.heap.size w w') (r : Rl) => roleRef A B ca cb P L r w' hP hL (hA.keep hb) (hB.keep hb))
  have HPl := Lib.hid (fun w' (hb : RowKit.Below w.heap.size w w') (x : ByteArray) => place A ca P x w' (by omega) (hA.keep hb))
  have HPk := Lib.hid (fun w' (hb : RowKit.Below w.heap.size w w') (x : ByteArray) => place B cb L x w' (by omega) (hB.keep hb))
  have HK := Lib.hid (kind_of_right hs)
  obtain ⟨k, ⟨ho', hn⟩, wh, ⟨ao, an⟩, ⟨bo, bn⟩, v⟩ := s
  have HRH := Lib.hid (fun w' hb => HRo.out w' hb ⟨ho', hn⟩)
  have HRA := Lib.hid (fun w' hb => HRo.out w' hb ⟨ao, an⟩)
  have HRB := Lib.hid (fun w' hb => HRo.out w' hb ⟨bo, bn⟩)
  have HPW := Lib.hid (fun w' hb => HPl.out w' hb wh)
  have HPV := Lib.hid (fun w' hb => HPk.out w' hb v)
  have hres : ∃ ok u, ruleOk P L ⟨k, ⟨ho', hn⟩, wh, ⟨ao, an⟩, ⟨bo, bn⟩, v⟩ = ok ∧ ruleA P L ⟨k, ⟨ho', hn⟩, wh, ⟨ao, an⟩, ⟨bo, bn⟩, v⟩ = u := ⟨_, _, rfl, rfl⟩
  obtain ⟨ok, uA, hok, huA⟩ := hres
  rw [hok, huA]
  unfold ruleA ruleV at huA
  rw [hok] at huA
  unfold ruleOk restOk at hok
  rw [hs, Bool.true_and] at hok
  unfold St.val Rl.val at *
  simp only at *
  generalize roleI P L ⟨ho', hn⟩ = x0 at *
  generalize roleI P L ⟨ao, an⟩ = x1 at *
  generalize roleI P L ⟨bo, bn⟩ = x2 at *
  generalize findI P wh.toList = x3 at *
  generalize findI L v.toList = x4 at *
  have HOK := Lib.hid hok
  have HUA := Lib.hid huA
  clear hok huA hf hs HRo HPl HPk hA hB
  go_enter Try.func12, Try.ntmps12
  go_wp2_with fail
  refine (HR.out _).mono ?_
  rintro e w1 ⟨rfl, hb⟩
  have hbx : w1.heap[w.heap.size]? = some (.cells #[.int .i64 k, .string ho', .string hn, .string wh, .string ao, .string an, .string bo, .string bn, .string v] 26 (0, 0)) := (hb.block _ (by simp <;> omega)).trans (heap_alloc2_old w _ _)
  have h4 : w1.heap[w.heap.size + 1]? = some (.cells zeroU.cells 34 (0, 0)) := (hb.block _ (by simp <;> omega)).trans (heap_alloc2_new w _ _)
  have hbel : RowKit.Below w.heap.size w w1 := (((Below.refl w.heap.size w).alloc (Nat.le_refl _) _).alloc (by simp) _).trans (hb.mono (by simp <;> omega))
  have hlt1 : w.heap.size + 2 ≤ w1.heap.size := by have := hb.size; simp at this; omega
  have H4 := Lib.hid h4
  have HBX := Lib.hid hbx
  have HB := Lib.hid hbel
  have hc : ∀ o, w1.cell? ⟨w.heap.size, o, none⟩ = (#[.int .i64 k, .string ho', .string hn, .string wh, .string ao, .string an, .string bo, .string bn, .string v] : Array Value)[o]? := fun o => Lib.cell_of_heap hbx o
  clear h4 hbel hb hbx
  go_upto_region 3 with fail
  go_cut [8] from 14 to 83 (fun p wx => ∃ N, p = .pointer (some ⟨N, 0, none⟩) ∧ Mid w wx N k ho' hn wh ao an bo bn v ⟨k, x0, 0, 0, 0, 0⟩)
  case first =>
    have hlt2 : w.heap.size < w1.heap.size := by omega
    have B1 := Lib.hid HB.out.drew
    have B2 := Lib.hid (fun o => (HB.out.alloc HB.out.size o).drew)
    have HZ : Hid (∀ w2 : World, RowKit.Below (w1.alloc (.cells #[.int .i64 0, .int .i64 0, .int .i64 0, .int .i64 0, .int .i64 0, .int .i64 0] 34)).drew.heap.size (w1.alloc (.cells #[.int .i64 0, .int .i64 0, .int .i64 0, .int .i64 0, .int .i64 0, .int .i64 0] 34)).drew w2 → w2.heap[w1.heap.size]? = some (.cells zeroU.cells 34 (0, 0)) ∧ (∀ o, w2.cell? ⟨w1.heap.size, o, none⟩ = (#[.int .i64 0, .int .i64 0, .int .i64 0, .int .i64 0, .int .i64 0, .int .i64 0] : Array Value)[o]?) ∧ (∀ o, w2.frozen? ⟨w1.heap.size, o, none⟩ = false)) := Lib.hid (fun w2 hb => by
      have e : w2.heap[w1.heap.size]? = some (.cells zeroU.cells 34 (0, 0)) := (hb.block w1.heap.size (by show w1.heap.size < (w1.alloc _).heap.size; simp)).trans (heap_alloc_new w1 _)
      exact ⟨e, fun o => Lib.cell_of_heap e o, fun o => frozen_of_row _ _ _ _ _ e⟩)
    have hlt5 : Hid (w.heap.size < (w1.alloc (.cells #[.int .i64 0, .int .i64 0, .int .i64 0, .int .i64 0, .int .i64 0, .int .i64 0] 34)).drew.heap.size) := Lib.hid (by show w.heap.size < (w1.alloc _).heap.size; simp; omega)
    have C1 : Hid (∀ w2 : World, RowKit.Below w1.drew.heap.size w1.drew w2 → ∀ o, w2.cell? ⟨w.heap.size, o, none⟩ = (#[.int .i64 k, .string ho', .string hn, .string wh, .string ao, .string an, .string bo, .string bn, .string v] : Array Value)[o]?) := Lib.hid (fun w2 hb o => (hb.cell (p := ⟨w.heap.size, o, none⟩) hlt2).trans (Lib.cell_of_heap HBX.out o))
    have C2 : Hid (∀ w2 : World, RowKit.Below (w1.alloc (.cells #[.int .i64 0, .int .i64 0, .int .i64 0, .int .i64 0, .int .i64 0, .int .i64 0] 34)).drew.heap.size (w1.alloc (.cells #[.int .i64 0, .int .i64 0, .int .i64 0, .int .i64 0, .int .i64 0, .int .i64 0] 34)).drew w2 → ∀ o, w2.cell? ⟨w.heap.size, o, none⟩ = (#[.int .i64 k, .string ho', .string hn, .string wh, .string ao, .string an, .string bo, .string bn, .string v] : Array Value)[o]?) := Lib.hid (fun w2 hb o => (hb.cell (p := ⟨w.heap.size, o, none⟩) (by show w.heap.size < (w1.alloc _).heap.size; simp; omega)).trans (Lib.cell_of_heap ((Below.heap_alloc w1 _ _ hlt2).trans HBX.out) o))
    go_region_with (first | ((with_reducible refine (HRH.out _ B1.out).mono ?_); rintro e w2 ⟨rfl, hb2⟩; have hc2 := C1.out w2 hb2; have hlt4 := Nat.lt_of_lt_of_le hlt2 hb2.size) | ((with_reducible refine (HRH.out _ (B2.out _)).mono ?_); rintro e w2 ⟨rfl, hb2⟩; obtain ⟨z0, z1, z2⟩ := HZ.out w2 hb2; have hc2 := C2.out w2 hb2; have hlt4 := Nat.lt_of_lt_of_le hlt5.out hb2.size))
    all_goals (go_wp2_with fail; go_meet)
    all_goals (case rel => refine ⟨_, rfl, ?_⟩; first | with_reducible exact mid_a HB.out HBX.out H4.out hlt1 hb2 | with_reducible exact mid_b HB.out HBX.out H4.out hlt1 hb2)
  case rest =>
    obtain ⟨N, rfl, hmid⟩ := hcut
    have HM0 := Lib.hid hmid
    clear hmid HBX H4 HB hc hlt1 HRH HR
    rcases HK.out with rfl | rfl | rfl | rfl
    · have HO : Hid (ok = (decide (0 ≤ x0) && decide (0 ≤ x3))) := Lib.hid (by rw [← HOK.out]; rfl)
      have HU : Hid (uA = if ok then ⟨1, x0, x3, 0, 0, 0⟩ else zeroU) := Lib.hid (by rw [← HUA.out]; rfl)
      clear HK HOK HUA
      have c0 : ∀ o, wc.cell? ⟨w.heap.size, o, none⟩ = (#[.int .i64 1, .string ho', .string hn, .string wh, .string ao, .string an, .string bo, .string bn, .string v] : Array Value)[o]? := fun o => Lib.cell_of_heap HM0.out.box o
      have r0 : ∀ o, wc.cell? ⟨N, o, none⟩ = (#[.int .i64 1, .int .i64 x0, .int .i64 0, .int .i64 0, .int .i64 0, .int .i64 0] : Array Value)[o]? := fun o => RuAt.cell HM0.out.at_ o
      have f0 : ∀ o, wc.frozen? ⟨N, o, none⟩ = false := fun o => RuAt.free HM0.out.at_ o
      by_cases gx0 : 0 ≤ x0
      · have hx0 : decide (0 ≤ x0) = true := decide_eq_true gx0
        go_wp2_with fail
        refine (HPW.out _ HM0.out.below).mono ?_
        rintro e v1 ⟨rfl, hb1⟩
        have HN1 := Lib.hid (HM0.out.keep (w' := v1) (by rw [← hb1]; exact Below.refl _ _))
        clear hb1 c0 r0 f0
        have c10 : ∀ o, v1.cell? ⟨w.heap.size, o, none⟩ = (#[.int .i64 1, .string ho', .string hn, .string wh, .string ao, .string an, .string bo, .string bn, .string v] : Array Value)[o]? := fun o => Lib.cell_of_heap HN1.out.box o
        have r10 : ∀ o, v1.cell? ⟨N, o, none⟩ = (#[.int .i64 1, .int .i64 x0, .int .i64 0, .int .i64 0, .int .i64 0, .int .i64 0] : Array Value)[o]? := fun o => RuAt.cell HN1.out.at_ o
        have f10 : ∀ o, v1.frozen? ⟨N, o, none⟩ = false := fun o => RuAt.free HN1.out.at_ o
        go_upto_region 7 with fail
        have HM1 : Hid (Mid w (v1.setCell ⟨N, 2, none⟩ (.int .i64 x3)) N 1 ho' hn wh ao an bo bn v ⟨1, x0, x3, 0, 0, 0⟩) := Lib.hid (HN1.out.put 2 (by omega) (by omega) x3)
        generalize v1.setCell ⟨N, 2, none⟩ (.int .i64 x3) = z1 at HM1 ⊢
        clear c10 r10 f10
        have c1 : ∀ o, z1.cell? ⟨w.heap.size, o, none⟩ = (#[.int .i64 1, .string ho', .string hn, .string wh, .string ao, .string an, .string bo, .string bn, .string v] : Array Value)[o]? := fun o => Lib.cell_of_heap HM1.out.box o
        have r1 : ∀ o, z1.cell? ⟨N, o, none⟩ = (#[.int .i64 1, .int .i64 x0, .int .i64 x3, .int .i64 0, .int .i64 0, .int .i64 0] : Array Value)[o]? := fun o => RuAt.cell HM1.out.at_ o
        have f1 : ∀ o, z1.frozen? ⟨N, o, none⟩ = false := fun o => RuAt.free HM1.out.at_ o
        by_cases gx3 : 0 ≤ x3
        · have hx3 : decide (0 ≤ x3) = true := decide_eq_true gx3
          obtain rfl : ok = true := by rw [HO.out]; simp only [hx0, hx3]; rfl
          obtain rfl : uA = ⟨1, x0, x3, 0, 0, 0⟩ := by rw [HU.out]; rfl
          clear HO HU
          go_wp2_with (first | (refine wpList_load_row rfl 34 _ rfl N rfl 34 (⟨1, x0, x3, 0, 0, 0⟩ : Ru).cells (0, 0) _ HM1.out.at_ Try.underlying34 rfl infoRule ?_) | (refine wpList_store_row rfl 34 _ _ rfl (w.heap.size + 1) (⟨1, x0, x3, 0, 0, 0⟩ : Ru).cells rfl rfl 34 _ HM1.out.out infoRule rfl (one6 _) ?_))
          have hl := cell_rule (u := (⟨1, x0, x3, 0, 0, 0⟩ : Ru)) HM1.out.out
          have hz := below_setRow HM1.out.below (show w.heap.size ≤ w.heap.size + 1 by omega) (⟨1, x0, x3, 0, 0, 0⟩ : Ru).cells
          generalize World.setRow _ (w.heap.size + 1) (⟨1, x0, x3, 0, 0, 0⟩ : Ru).cells = wz at hl hz ⊢
          refine bodyPost_ret (v := .tuple #[.agg (⟨1, x0, x3, 0, 0, 0⟩ : Ru).cells, .bool true]) (by simp [results, Try.results12, go_sem, hl, Ru.cells]) rfl ⟨rfl, hz⟩
        · have hx3 : decide (0 ≤ x3) = false := decide_eq_false gx3
          obtain rfl : ok = false := by rw [HO.out]; simp [hx0, hx3]
          obtain rfl : uA = zeroU := by rw [HU.out]; rfl
          clear HO HU
          go_wp2_with (refine wpList_store_row rfl 34 _ _ rfl (w.heap.size + 1) zeroU.cells rfl rfl 34 _ HM1.out.out infoRule rfl (one6 _) ?_)
          have hl := cell_rule (u := zeroU) HM1.out.out
          have hz := below_setRow HM1.out.below (show w.heap.size ≤ w.heap.size + 1 by omega) zeroU.cells
          generalize World.setRow _ (w.heap.size + 1) zeroU.cells = wz at hl hz ⊢
          refine bodyPost_ret (v := .tuple #[.agg zeroU.cells, .bool false]) (by simp [results, Try.results12, go_sem, hl, Ru.cells]) rfl ⟨rfl, hz⟩
      · have hx0 : decide (0 ≤ x0) = false := decide_eq_false gx0
        go_wp2_with fail
        refine (HPW.out _ HM0.out.below).mono ?_
        rintro e v1 ⟨rfl, hb1⟩
        have HN1 := Lib.hid (HM0.out.keep (w' := v1) (by rw [← hb1]; exact Below.refl _ _))
        clear hb1 c0 r0 f0
        have c10 : ∀ o, v1.cell? ⟨w.heap.size, o, none⟩ = (#[.int .i64 1, .string ho', .string hn, .string wh, .string ao, .string an, .string bo, .string bn, .string v] : Array Value)[o]? := fun o => Lib.cell_of_heap HN1.out.box o
        have r10 : ∀ o, v1.cell? ⟨N, o, none⟩ = (#[.int .i64 1, .int .i64 x0, .int .i64 0, .int .i64 0, .int .i64 0, .int .i64 0] : Array Value)[o]? := fun o => RuAt.cell HN1.out.at_ o
        have f10 : ∀ o, v1.frozen? ⟨N, o, none⟩ = false := fun o => RuAt.free HN1.out.at_ o
        go_upto_region 7 with fail
        have HM1 : Hid (Mid w (v1.setCell ⟨N, 2, none⟩ (.int .i64 x3)) N 1 ho' hn wh ao an bo bn v ⟨1, x0, x3, 0, 0, 0⟩) := Lib.hid (HN1.out.put 2 (by omega) (by omega) x3)
        generalize v1.setCell ⟨N, 2, none⟩ (.int .i64 x3) = z1 at HM1 ⊢
        clear c10 r10 f10
        have c1 : ∀ o, z1.cell? ⟨w.heap.size, o, none⟩ = (#[.int .i64 1, .string ho', .string hn, .string wh, .string ao, .string an, .string bo, .string bn, .string v] : Array Value)[o]? := fun o => Lib.cell_of_heap HM1.out.box o
        have r1 : ∀ o, z1.cell? ⟨N, o, none⟩ = (#[.int .i64 1, .int .i64 x0, .int .i64 x3, .int .i64 0, .int .i64 0, .int .i64 0] : Array Value)[o]? := fun o => RuAt.cell HM1.out.at_ o
        have f1 : ∀ o, z1.frozen? ⟨N, o, none⟩ = false := fun o => RuAt.free HM1.out.at_ o
        obtain rfl : ok = false := by rw [HO.out]; simp [hx0]
        obtain rfl : uA = zeroU := by rw [HU.out]; rfl
        clear HO HU
        go_wp2_with (refine wpList_store_row rfl 34 _ _ rfl (w.heap.size + 1) zeroU.cells rfl rfl 34 _ HM1.out.out infoRule rfl (one6 _) ?_)
        have hl := cell_rule (u := zeroU) HM1.out.out
        have hz := below_setRow HM1.out.below (show w.heap.size ≤ w.heap.size + 1 by omega) zeroU.cells
        generalize World.setRow _ (w.heap.size + 1) zeroU.cells = wz at hl hz ⊢
        refine bodyPost_ret (v := .tuple #[.agg zeroU.cells, .bool false]) (by simp [results, Try.results12, go_sem, hl, Ru.cells]) rfl ⟨rfl, hz⟩
    · have HO : Hid (ok = (decide (0 ≤ x0) && decide (0 ≤ x1))) := Lib.hid (by rw [← HOK.out]; rfl)
      have HU : Hid (uA = if ok then ⟨2, x0, 0, x1, 0, 0⟩ else zeroU) := Lib.hid (by rw [← HUA.out]; rfl)
      clear HK HOK HUA
      have c0 : ∀ o, wc.cell? ⟨w.heap.size, o, none⟩ = (#[.int .i64 2, .string ho', .string hn, .string wh, .string ao, .string an, .string bo, .string bn, .string v] : Array Value)[o]? := fun o => Lib.cell_of_heap HM0.out.box o
      have r0 : ∀ o, wc.cell? ⟨N, o, none⟩ = (#[.int .i64 2, .int .i64 x0, .int .i64 0, .int .i64 0, .int .i64 0, .int .i64 0] : Array Value)[o]? := fun o => RuAt.cell HM0.out.at_ o
      have f0 : ∀ o, wc.frozen? ⟨N, o, none⟩ = false := fun o => RuAt.free HM0.out.at_ o
      by_cases gx0 : 0 ≤ x0
      · have hx0 : decide (0 ≤ x0) = true := decide_eq_true gx0
        go_wp2_with fail
        refine (HRA.out _ HM0.out.below).mono ?_
        rintro e v1 ⟨rfl, hb1⟩
        have HN1 := Lib.hid (HM0.out.keep (w' := v1) hb1)
        clear hb1 c0 r0 f0
        have c10 : ∀ o, v1.cell? ⟨w.heap.size, o, none⟩ = (#[.int .i64 2, .string ho', .string hn, .string wh, .string ao, .string an, .string bo, .string bn, .string v] : Array Value)[o]? := fun o => Lib.cell_of_heap HN1.out.box o
        have r10 : ∀ o, v1.cell? ⟨N, o, none⟩ = (#[.int .i64 2, .int .i64 x0, .int .i64 0, .int .i64 0, .int .i64 0, .int .i64 0] : Array Value)[o]? := fun o => RuAt.cell HN1.out.at_ o
        have f10 : ∀ o, v1.frozen? ⟨N, o, none⟩ = false := fun o => RuAt.free HN1.out.at_ o
        go_upto_region 9 with fail
        have HM1 : Hid (Mid w (v1.setCell ⟨N, 3, none⟩ (.int .i64 x1)) N 2 ho' hn wh ao an bo bn v ⟨2, x0, 0, x1, 0, 0⟩) := Lib.hid (HN1.out.put 3 (by omega) (by omega) x1)
        generalize v1.setCell ⟨N, 3, none⟩ (.int .i64 x1) = z1 at HM1 ⊢
        clear c10 r10 f10
        have c1 : ∀ o, z1.cell? ⟨w.heap.size, o, none⟩ = (#[.int .i64 2, .string ho', .string hn, .string wh, .string ao, .string an, .string bo, .string bn, .string v] : Array Value)[o]? := fun o => Lib.cell_of_heap HM1.out.box o
        have r1 : ∀ o, z1.cell? ⟨N, o, none⟩ = (#[.int .i64 2, .int .i64 x0, .int .i64 0, .int .i64 x1, .int .i64 0, .int .i64 0] : Array Value)[o]? := fun o => RuAt.cell HM1.out.at_ o
        have f1 : ∀ o, z1.frozen? ⟨N, o, none⟩ = false := fun o => RuAt.free HM1.out.at_ o
        by_cases gx1 : 0 ≤ x1
        · have hx1 : decide (0 ≤ x1) = true := decide_eq_true gx1
          obtain rfl : ok = true := by rw [HO.out]; simp only [hx0, hx1]; rfl
          obtain rfl : uA = ⟨2, x0, 0, x1, 0, 0⟩ := by rw [HU.out]; rfl
          clear HO HU
          go_wp2_with (first | (refine wpList_load_row rfl 34 _ rfl N rfl 34 (⟨2, x0, 0, x1, 0, 0⟩ : Ru).cells (0, 0) _ HM1.out.at_ Try.underlying34 rfl infoRule ?_) | (refine wpList_store_row rfl 34 _ _ rfl (w.heap.size + 1) (⟨2, x0, 0, x1, 0, 0⟩ : Ru).cells rfl rfl 34 _ HM1.out.out infoRule rfl (one6 _) ?_))
          have hl := cell_rule (u := (⟨2, x0, 0, x1, 0, 0⟩ : Ru)) HM1.out.out
          have hz := below_setRow HM1.out.below (show w.heap.size ≤ w.heap.size + 1 by omega) (⟨2, x0, 0, x1, 0, 0⟩ : Ru).cells
          generalize World.setRow _ (w.heap.size + 1) (⟨2, x0, 0, x1, 0, 0⟩ : Ru).cells = wz at hl hz ⊢
          refine bodyPost_ret (v := .tuple #[.agg (⟨2, x0, 0, x1, 0, 0⟩ : Ru).cells, .bool true]) (by simp [results, Try.results12, go_sem, hl, Ru.cells]) rfl ⟨rfl, hz⟩
        · have hx1 : decide (0 ≤ x1) = false := decide_eq_false gx1
          obtain rfl : ok = false := by rw [HO.out]; simp [hx0, hx1]
          obtain rfl : uA = zeroU := by rw [HU.out]; rfl
          clear HO HU
          go_wp2_with (refine wpList_store_row rfl 34 _ _ rfl (w.heap.size + 1) zeroU.cells rfl rfl 34 _ HM1.out.out infoRule rfl (one6 _) ?_)
          have hl := cell_rule (u := zeroU) HM1.out.out
          have hz := below_setRow HM1.out.below (show w.heap.size ≤ w.heap.size + 1 by omega) zeroU.cells
          generalize World.setRow _ (w.heap.size + 1) zeroU.cells = wz at hl hz ⊢
          refine bodyPost_ret (v := .tuple #[.agg zeroU.cells, .bool false]) (by simp [results, Try.results12, go_sem, hl, Ru.cells]) rfl ⟨rfl, hz⟩
      · have hx0 : decide (0 ≤ x0) = false := decide_eq_false gx0
        go_wp2_with fail
        refine (HRA.out _ HM0.out.below).mono ?_
        rintro e v1 ⟨rfl, hb1⟩
        have HN1 := Lib.hid (HM0.out.keep (w' := v1) hb1)
        clear hb1 c0 r0 f0
        have c10 : ∀ o, v1.cell? ⟨w.heap.size, o, none⟩ = (#[.int .i64 2, .string ho', .string hn, .string wh, .string ao, .string an, .string bo, .string bn, .string v] : Array Value)[o]? := fun o => Lib.cell_of_heap HN1.out.box o
        have r10 : ∀ o, v1.cell? ⟨N, o, none⟩ = (#[.int .i64 2, .int .i64 x0, .int .i64 0, .int .i64 0, .int .i64 0, .int .i64 0] : Array Value)[o]? := fun o => RuAt.cell HN1.out.at_ o
        have f10 : ∀ o, v1.frozen? ⟨N, o, none⟩ = false := fun o => RuAt.free HN1.out.at_ o
        go_upto_region 9 with fail
        have HM1 : Hid (Mid w (v1.setCell ⟨N, 3, none⟩ (.int .i64 x1)) N 2 ho' hn wh ao an bo bn v ⟨2, x0, 0, x1, 0, 0⟩) := Lib.hid (HN1.out.put 3 (by omega) (by omega) x1)
        generalize v1.setCell ⟨N, 3, none⟩ (.int .i64 x1) = z1 at HM1 ⊢
        clear c10 r10 f10
        have c1 : ∀ o, z1.cell? ⟨w.heap.size, o, none⟩ = (#[.int .i64 2, .string ho', .string hn, .string wh, .string ao, .string an, .string bo, .string bn, .string v] : Array Value)[o]? := fun o => Lib.cell_of_heap HM1.out.box o
        have r1 : ∀ o, z1.cell? ⟨N, o, none⟩ = (#[.int .i64 2, .int .i64 x0, .int .i64 0, .int .i64 x1, .int .i64 0, .int .i64 0] : Array Value)[o]? := fun o => RuAt.cell HM1.out.at_ o
        have f1 : ∀ o, z1.frozen? ⟨N, o, none⟩ = false := fun o => RuAt.free HM1.out.at_ o
        obtain rfl : ok = false := by rw [HO.out]; simp [hx0]
        obtain rfl : uA = zeroU := by rw [HU.out]; rfl
        clear HO HU
        go_wp2_with (refine wpList_store_row rfl 34 _ _ rfl (w.heap.size + 1) zeroU.cells rfl rfl 34 _ HM1.out.out infoRule rfl (one6 _) ?_)
        have hl := cell_rule (u := zeroU) HM1.out.out
        have hz := below_setRow HM1.out.below (show w.heap.size ≤ w.heap.size + 1 by omega) zeroU.cells
        generalize World.setRow _ (w.heap.size + 1) zeroU.cells = wz at hl hz ⊢
        refine bodyPost_ret (v := .tuple #[.agg zeroU.cells, .bool false]) (by simp [results, Try.results12, go_sem, hl, Ru.cells]) rfl ⟨rfl, hz⟩
    · have HO : Hid (ok = (decide (0 ≤ x0) && (decide (0 ≤ x4) && decide (0 ≤ x1)))) := Lib.hid (by rw [← HOK.out]; rfl)
      have HU : Hid (uA = if ok then ⟨3, x0, 0, x1, 0, x4⟩ else zeroU) := Lib.hid (by rw [← HUA.out]; rfl)
      clear HK HOK HUA
      have c0 : ∀ o, wc.cell? ⟨w.heap.size, o, none⟩ = (#[.int .i64 3, .string ho', .string hn, .string wh, .string ao, .string an, .string bo, .string bn, .string v] : Array Value)[o]? := fun o => Lib.cell_of_heap HM0.out.box o
      have r0 : ∀ o, wc.cell? ⟨N, o, none⟩ = (#[.int .i64 3, .int .i64 x0, .int .i64 0, .int .i64 0, .int .i64 0, .int .i64 0] : Array Value)[o]? := fun o => RuAt.cell HM0.out.at_ o
      have f0 : ∀ o, wc.frozen? ⟨N, o, none⟩ = false := fun o => RuAt.free HM0.out.at_ o
      by_cases gx0 : 0 ≤ x0
      · have hx0 : decide (0 ≤ x0) = true := decide_eq_true gx0
        go_wp2_with fail
        refine (HRA.out _ HM0.out.below).mono ?_
        rintro e v1 ⟨rfl, hb1⟩
        have HN1 := Lib.hid (HM0.out.keep (w' := v1) hb1)
        clear hb1 c0 r0 f0
        have c10 : ∀ o, v1.cell? ⟨w.heap.size, o, none⟩ = (#[.int .i64 3, .string ho', .string hn, .string wh, .string ao, .string an, .string bo, .string bn, .string v] : Array Value)[o]? := fun o => Lib.cell_of_heap HN1.out.box o
        have r10 : ∀ o, v1.cell? ⟨N, o, none⟩ = (#[.int .i64 3, .int .i64 x0, .int .i64 0, .int .i64 0, .int .i64 0, .int .i64 0] : Array Value)[o]? := fun o => RuAt.cell HN1.out.at_ o
        have f10 : ∀ o, v1.frozen? ⟨N, o, none⟩ = false := fun o => RuAt.free HN1.out.at_ o
        go_upto_region 9 with fail
        have HM1 : Hid (Mid w (v1.setCell ⟨N, 3, none⟩ (.int .i64 x1)) N 3 ho' hn wh ao an bo bn v ⟨3, x0, 0, x1, 0, 0⟩) := Lib.hid (HN1.out.put 3 (by omega) (by omega) x1)
        generalize v1.setCell ⟨N, 3, none⟩ (.int .i64 x1) = z1 at HM1 ⊢
        clear c10 r10 f10
        have c1 : ∀ o, z1.cell? ⟨w.heap.size, o, none⟩ = (#[.int .i64 3, .string ho', .string hn, .string wh, .string ao, .string an, .string bo, .string bn, .string v] : Array Value)[o]? := fun o => Lib.cell_of_heap HM1.out.box o
        have r1 : ∀ o, z1.cell? ⟨N, o, none⟩ = (#[.int .i64 3, .int .i64 x0, .int .i64 0, .int .i64 x1, .int .i64 0, .int .i64 0] : Array Value)[o]? := fun o => RuAt.cell HM1.out.at_ o
        have f1 : ∀ o, z1.frozen? ⟨N, o, none⟩ = false := fun o => RuAt.free HM1.out.at_ o
        by_cases gx1 : 0 ≤ x1
        · have hx1 : decide (0 ≤ x1) = true := decide_eq_true gx1
          go_wp2_with fail
          refine (HPV.out _ HM1.out.below).mono ?_
          rintro e v2 ⟨rfl, hb2⟩
          have HN2 := Lib.hid (HM1.out.keep (w' := v2) (by rw [← hb2]; exact Below.refl _ _))
          clear hb2 c1 r1 f1
          have c20 : ∀ o, v2.cell? ⟨w.heap.size, o, none⟩ = (#[.int .i64 3, .string ho', .string hn, .string wh, .string ao, .string an, .string bo, .string bn, .string v] : Array Value)[o]? := fun o => Lib.cell_of_heap HN2.out.box o
          have r20 : ∀ o, v2.cell? ⟨N, o, none⟩ = (#[.int .i64 3, .int .i64 x0, .int .i64 0, .int .i64 x1, .int .i64 0, .int .i64 0] : Array Value)[o]? := fun o => RuAt.cell HN2.out.at_ o
          have f20 : ∀ o, v2.frozen? ⟨N, o, none⟩ = false := fun o => RuAt.free HN2.out.at_ o
          go_upto_region 12 with fail
          have HM2 : Hid (Mid w (v2.setCell ⟨N, 5, none⟩ (.int .i64 x4)) N 3 ho' hn wh ao an bo bn v ⟨3, x0, 0, x1, 0, x4⟩) := Lib.hid (HN2.out.put 5 (by omega) (by omega) x4)
          generalize v2.setCell ⟨N, 5, none⟩ (.int .i64 x4) = z2 at HM2 ⊢
          clear c20 r20 f20
          have c2 : ∀ o, z2.cell? ⟨w.heap.size, o, none⟩ = (#[.int .i64 3, .string ho', .string hn, .string wh, .string ao, .string an, .string bo, .string bn, .string v] : Array Value)[o]? := fun o => Lib.cell_of_heap HM2.out.box o
          have r2 : ∀ o, z2.cell? ⟨N, o, none⟩ = (#[.int .i64 3, .int .i64 x0, .int .i64 0, .int .i64 x1, .int .i64 0, .int .i64 x4] : Array Value)[o]? := fun o => RuAt.cell HM2.out.at_ o
          have f2 : ∀ o, z2.frozen? ⟨N, o, none⟩ = false := fun o => RuAt.free HM2.out.at_ o
          by_cases gx4 : 0 ≤ x4
          · have hx4 : decide (0 ≤ x4) = true := decide_eq_true gx4
            obtain rfl : ok = true := by rw [HO.out]; simp only [hx0, hx1, hx4]; rfl
            obtain rfl : uA = ⟨3, x0, 0, x1, 0, x4⟩ := by rw [HU.out]; rfl
            clear HO HU
            go_wp2_with (first | (refine wpList_load_row rfl 34 _ rfl N rfl 34 (⟨3, x0, 0, x1, 0, x4⟩ : Ru).cells (0, 0) _ HM2.out.at_ Try.underlying34 rfl infoRule ?_) | (refine wpList_store_row rfl 34 _ _ rfl (w.heap.size + 1) (⟨3, x0, 0, x1, 0, x4⟩ : Ru).cells rfl rfl 34 _ HM2.out.out infoRule rfl (one6 _) ?_))
            have hl := cell_rule (u := (⟨3, x0, 0, x1, 0, x4⟩ : Ru)) HM2.out.out
            have hz := below_setRow HM2.out.below (show w.heap.size ≤ w.heap.size + 1 by omega) (⟨3, x0, 0, x1, 0, x4⟩ : Ru).cells
            generalize World.setRow _ (w.heap.size + 1) (⟨3, x0, 0, x1, 0, x4⟩ : Ru).cells = wz at hl hz ⊢
            refine bodyPost_ret (v := .tuple #[.agg (⟨3, x0, 0, x1, 0, x4⟩ : Ru).cells, .bool true]) (by simp [results, Try.results12, go_sem, hl, Ru.cells]) rfl ⟨rfl, hz⟩
          · have hx4 : decide (0 ≤ x4) = false := decide_eq_false gx4
            obtain rfl : ok = false := by rw [HO.out]; simp [hx0, hx1, hx4]
            obtain rfl : uA = zeroU := by rw [HU.out]; rfl
            clear HO HU
            go_wp2_with (refine wpList_store_row rfl 34 _ _ rfl (w.heap.size + 1) zeroU.cells rfl rfl 34 _ HM2.out.out infoRule rfl (one6 _) ?_)
            have hl := cell_rule (u := zeroU) HM2.out.out
            have hz := below_setRow HM2.out.below (show w.heap.size ≤ w.heap.size + 1 by omega) zeroU.cells
            generalize World.setRow _ (w.heap.size + 1) zeroU.cells = wz at hl hz ⊢
            refine bodyPost_ret (v := .tuple #[.agg zeroU.cells, .bool false]) (by simp [results, Try.results12, go_sem, hl, Ru.cells]) rfl ⟨rfl, hz⟩
        · have hx1 : decide (0 ≤ x1) = false := decide_eq_false gx1
          go_wp2_with fail
          refine (HPV.out _ HM1.out.below).mono ?_
          rintro e v2 ⟨rfl, hb2⟩
          have HN2 := Lib.hid (HM1.out.keep (w' := v2) (by rw [← hb2]; exact Below.refl _ _))
          clear hb2 c1 r1 f1
          have c20 : ∀ o, v2.cell? ⟨w.heap.size, o, none⟩ = (#[.int .i64 3, .string ho', .string hn, .string wh, .string ao, .string an, .string bo, .string bn, .string v] : Array Value)[o]? := fun o => Lib.cell_of_heap HN2.out.box o
          have r20 : ∀ o, v2.cell? ⟨N, o, none⟩ = (#[.int .i64 3, .int .i64 x0, .int .i64 0, .int .i64 x1, .int .i64 0, .int .i64 0] : Array Value)[o]? := fun o => RuAt.cell HN2.out.at_ o
          have f20 : ∀ o, v2.frozen? ⟨N, o, none⟩ = false := fun o => RuAt.free HN2.out.at_ o
          go_upto_region 12 with fail
          have HM2 : Hid (Mid w (v2.setCell ⟨N, 5, none⟩ (.int .i64 x4)) N 3 ho' hn wh ao an bo bn v ⟨3, x0, 0, x1, 0, x4⟩) := Lib.hid (HN2.out.put 5 (by omega) (by omega) x4)
          generalize v2.setCell ⟨N, 5, none⟩ (.int .i64 x4) = z2 at HM2 ⊢
          clear c20 r20 f20
          have c2 : ∀ o, z2.cell? ⟨w.heap.size, o, none⟩ = (#[.int .i64 3, .string ho', .string hn, .string wh, .string ao, .string an, .string bo, .string bn, .string v] : Array Value)[o]? := fun o => Lib.cell_of_heap HM2.out.box o
          have r2 : ∀ o, z2.cell? ⟨N, o, none⟩ = (#[.int .i64 3, .int .i64 x0, .int .i64 0, .int .i64 x1, .int .i64 0, .int .i64 x4] : Array Value)[o]? := fun o => RuAt.cell HM2.out.at_ o
          have f2 : ∀ o, z2.frozen? ⟨N, o, none⟩ = false := fun o => RuAt.free HM2.out.at_ o
          obtain rfl : ok = false := by rw [HO.out]; simp [hx0, hx1]
          obtain rfl : uA = zeroU := by rw [HU.out]; rfl
          clear HO HU
          go_wp2_with (refine wpList_store_row rfl 34 _ _ rfl (w.heap.size + 1) zeroU.cells rfl rfl 34 _ HM2.out.out infoRule rfl (one6 _) ?_)
          have hl := cell_rule (u := zeroU) HM2.out.out
          have hz := below_setRow HM2.out.below (show w.heap.size ≤ w.heap.size + 1 by omega) zeroU.cells
          generalize World.setRow _ (w.heap.size + 1) zeroU.cells = wz at hl hz ⊢
          refine bodyPost_ret (v := .tuple #[.agg zeroU.cells, .bool false]) (by simp [results, Try.results12, go_sem, hl, Ru.cells]) rfl ⟨rfl, hz⟩
      · have hx0 : decide (0 ≤ x0) = false := decide_eq_false gx0
        go_wp2_with fail
        refine (HRA.out _ HM0.out.below).mono ?_
        rintro e v1 ⟨rfl, hb1⟩
        have HN1 := Lib.hid (HM0.out.keep (w' := v1) hb1)
        clear hb1 c0 r0 f0
        have c10 : ∀ o, v1.cell? ⟨w.heap.size, o, none⟩ = (#[.int .i64 3, .string ho', .string hn, .string wh, .string ao, .string an, .string bo, .string bn, .string v] : Array Value)[o]? := fun o => Lib.cell_of_heap HN1.out.box o
        have r10 : ∀ o, v1.cell? ⟨N, o, none⟩ = (#[.int .i64 3, .int .i64 x0, .int .i64 0, .int .i64 0, .int .i64 0, .int .i64 0] : Array Value)[o]? := fun o => RuAt.cell HN1.out.at_ o
        have f10 : ∀ o, v1.frozen? ⟨N, o, none⟩ = false := fun o => RuAt.free HN1.out.at_ o
        go_upto_region 9 with fail
        have HM1 : Hid (Mid w (v1.setCell ⟨N, 3, none⟩ (.int .i64 x1)) N 3 ho' hn wh ao an bo bn v ⟨3, x0, 0, x1, 0, 0⟩) := Lib.hid (HN1.out.put 3 (by omega) (by omega) x1)
        generalize v1.setCell ⟨N, 3, none⟩ (.int .i64 x1) = z1 at HM1 ⊢
        clear c10 r10 f10
        have c1 : ∀ o, z1.cell? ⟨w.heap.size, o, none⟩ = (#[.int .i64 3, .string ho', .string hn, .string wh, .string ao, .string an, .string bo, .string bn, .string v] : Array Value)[o]? := fun o => Lib.cell_of_heap HM1.out.box o
        have r1 : ∀ o, z1.cell? ⟨N, o, none⟩ = (#[.int .i64 3, .int .i64 x0, .int .i64 0, .int .i64 x1, .int .i64 0, .int .i64 0] : Array Value)[o]? := fun o => RuAt.cell HM1.out.at_ o
        have f1 : ∀ o, z1.frozen? ⟨N, o, none⟩ = false := fun o => RuAt.free HM1.out.at_ o
        go_wp2_with fail
        refine (HPV.out _ HM1.out.below).mono ?_
        rintro e v2 ⟨rfl, hb2⟩
        have HN2 := Lib.hid (HM1.out.keep (w' := v2) (by rw [← hb2]; exact Below.refl _ _))
        clear hb2 c1 r1 f1
        have c20 : ∀ o, v2.cell? ⟨w.heap.size, o, none⟩ = (#[.int .i64 3, .string ho', .string hn, .string wh, .string ao, .string an, .string bo, .string bn, .string v] : Array Value)[o]? := fun o => Lib.cell_of_heap HN2.out.box o
        have r20 : ∀ o, v2.cell? ⟨N, o, none⟩ = (#[.int .i64 3, .int .i64 x0, .int .i64 0, .int .i64 x1, .int .i64 0, .int .i64 0] : Array Value)[o]? := fun o => RuAt.cell HN2.out.at_ o
        have f20 : ∀ o, v2.frozen? ⟨N, o, none⟩ = false := fun o => RuAt.free HN2.out.at_ o
        go_upto_region 12 with fail
        have HM2 : Hid (Mid w (v2.setCell ⟨N, 5, none⟩ (.int .i64 x4)) N 3 ho' hn wh ao an bo bn v ⟨3, x0, 0, x1, 0, x4⟩) := Lib.hid (HN2.out.put 5 (by omega) (by omega) x4)
        generalize v2.setCell ⟨N, 5, none⟩ (.int .i64 x4) = z2 at HM2 ⊢
        clear c20 r20 f20
        have c2 : ∀ o, z2.cell? ⟨w.heap.size, o, none⟩ = (#[.int .i64 3, .string ho', .string hn, .string wh, .string ao, .string an, .string bo, .string bn, .string v] : Array Value)[o]? := fun o => Lib.cell_of_heap HM2.out.box o
        have r2 : ∀ o, z2.cell? ⟨N, o, none⟩ = (#[.int .i64 3, .int .i64 x0, .int .i64 0, .int .i64 x1, .int .i64 0, .int .i64 x4] : Array Value)[o]? := fun o => RuAt.cell HM2.out.at_ o
        have f2 : ∀ o, z2.frozen? ⟨N, o, none⟩ = false := fun o => RuAt.free HM2.out.at_ o
        obtain rfl : ok = false := by rw [HO.out]; simp [hx0]
        obtain rfl : uA = zeroU := by rw [HU.out]; rfl
        clear HO HU
        go_wp2_with (refine wpList_store_row rfl 34 _ _ rfl (w.heap.size + 1) zeroU.cells rfl rfl 34 _ HM2.out.out infoRule rfl (one6 _) ?_)
        have hl := cell_rule (u := zeroU) HM2.out.out
        have hz := below_setRow HM2.out.below (show w.heap.size ≤ w.heap.size + 1 by omega) zeroU.cells
        generalize World.setRow _ (w.heap.size + 1) zeroU.cells = wz at hl hz ⊢
        refine bodyPost_ret (v := .tuple #[.agg zeroU.cells, .bool false]) (by simp [results, Try.results12, go_sem, hl, Ru.cells]) rfl ⟨rfl, hz⟩
    · have HO : Hid (ok = (decide (0 ≤ x0) && (decide (0 ≤ x1) && decide (0 ≤ x2)))) := Lib.hid (by rw [← HOK.out]; rfl)
      have HU : Hid (uA = if ok then ⟨4, x0, 0, x1, x2, 0⟩ else zeroU) := Lib.hid (by rw [← HUA.out]; rfl)
      clear HK HOK HUA
      have c0 : ∀ o, wc.cell? ⟨w.heap.size, o, none⟩ = (#[.int .i64 4, .string ho', .string hn, .string wh, .string ao, .string an, .string bo, .string bn, .string v] : Array Value)[o]? := fun o => Lib.cell_of_heap HM0.out.box o
      have r0 : ∀ o, wc.cell? ⟨N, o, none⟩ = (#[.int .i64 4, .int .i64 x0, .int .i64 0, .int .i64 0, .int .i64 0, .int .i64 0] : Array Value)[o]? := fun o => RuAt.cell HM0.out.at_ o
      have f0 : ∀ o, wc.frozen? ⟨N, o, none⟩ = false := fun o => RuAt.free HM0.out.at_ o
      by_cases gx0 : 0 ≤ x0
      · have hx0 : decide (0 ≤ x0) = true := decide_eq_true gx0
        go_wp2_with fail
        refine (HRA.out _ HM0.out.below).mono ?_
        rintro e v1 ⟨rfl, hb1⟩
        have HN1 := Lib.hid (HM0.out.keep (w' := v1) hb1)
        clear hb1 c0 r0 f0
        have c10 : ∀ o, v1.cell? ⟨w.heap.size, o, none⟩ = (#[.int .i64 4, .string ho', .string hn, .string wh, .string ao, .string an, .string bo, .string bn, .string v] : Array Value)[o]? := fun o => Lib.cell_of_heap HN1.out.box o
        have r10 : ∀ o, v1.cell? ⟨N, o, none⟩ = (#[.int .i64 4, .int .i64 x0, .int .i64 0, .int .i64 0, .int .i64 0, .int .i64 0] : Array Value)[o]? := fun o => RuAt.cell HN1.out.at_ o
        have f10 : ∀ o, v1.frozen? ⟨N, o, none⟩ = false := fun o => RuAt.free HN1.out.at_ o
        go_upto_region 9 with fail
        have HM1 : Hid (Mid w (v1.setCell ⟨N, 3, none⟩ (.int .i64 x1)) N 4 ho' hn wh ao an bo bn v ⟨4, x0, 0, x1, 0, 0⟩) := Lib.hid (HN1.out.put 3 (by omega) (by omega) x1)
        generalize v1.setCell ⟨N, 3, none⟩ (.int .i64 x1) = z1 at HM1 ⊢
        clear c10 r10 f10
        have c1 : ∀ o, z1.cell? ⟨w.heap.size, o, none⟩ = (#[.int .i64 4, .string ho', .string hn, .string wh, .string ao, .string an, .string bo, .string bn, .string v] : Array Value)[o]? := fun o => Lib.cell_of_heap HM1.out.box o
        have r1 : ∀ o, z1.cell? ⟨N, o, none⟩ = (#[.int .i64 4, .int .i64 x0, .int .i64 0, .int .i64 x1, .int .i64 0, .int .i64 0] : Array Value)[o]? := fun o => RuAt.cell HM1.out.at_ o
        have f1 : ∀ o, z1.frozen? ⟨N, o, none⟩ = false := fun o => RuAt.free HM1.out.at_ o
        by_cases gx1 : 0 ≤ x1
        · have hx1 : decide (0 ≤ x1) = true := decide_eq_true gx1
          go_wp2_with fail
          refine (HRB.out _ HM1.out.below).mono ?_
          rintro e v2 ⟨rfl, hb2⟩
          have HN2 := Lib.hid (HM1.out.keep (w' := v2) hb2)
          clear hb2 c1 r1 f1
          have c20 : ∀ o, v2.cell? ⟨w.heap.size, o, none⟩ = (#[.int .i64 4, .string ho', .string hn, .string wh, .string ao, .string an, .string bo, .string bn, .string v] : Array Value)[o]? := fun o => Lib.cell_of_heap HN2.out.box o
          have r20 : ∀ o, v2.cell? ⟨N, o, none⟩ = (#[.int .i64 4, .int .i64 x0, .int .i64 0, .int .i64 x1, .int .i64 0, .int .i64 0] : Array Value)[o]? := fun o => RuAt.cell HN2.out.at_ o
          have f20 : ∀ o, v2.frozen? ⟨N, o, none⟩ = false := fun o => RuAt.free HN2.out.at_ o
          go_upto_region 15 with fail
          have HM2 : Hid (Mid w (v2.setCell ⟨N, 4, none⟩ (.int .i64 x2)) N 4 ho' hn wh ao an bo bn v ⟨4, x0, 0, x1, x2, 0⟩) := Lib.hid (HN2.out.put 4 (by omega) (by omega) x2)
          generalize v2.setCell ⟨N, 4, none⟩ (.int .i64 x2) = z2 at HM2 ⊢
          clear c20 r20 f20
          have c2 : ∀ o, z2.cell? ⟨w.heap.size, o, none⟩ = (#[.int .i64 4, .string ho', .string hn, .string wh, .string ao, .string an, .string bo, .string bn, .string v] : Array Value)[o]? := fun o => Lib.cell_of_heap HM2.out.box o
          have r2 : ∀ o, z2.cell? ⟨N, o, none⟩ = (#[.int .i64 4, .int .i64 x0, .int .i64 0, .int .i64 x1, .int .i64 x2, .int .i64 0] : Array Value)[o]? := fun o => RuAt.cell HM2.out.at_ o
          have f2 : ∀ o, z2.frozen? ⟨N, o, none⟩ = false := fun o => RuAt.free HM2.out.at_ o
          by_cases gx2 : 0 ≤ x2
          · have hx2 : decide (0 ≤ x2) = true := decide_eq_true gx2
            obtain rfl : ok = true := by rw [HO.out]; simp only [hx0, hx1, hx2]; rfl
            obtain rfl : uA = ⟨4, x0, 0, x1, x2, 0⟩ := by rw [HU.out]; rfl
            clear HO HU
            go_wp2_with (first | (refine wpList_load_row rfl 34 _ rfl N rfl 34 (⟨4, x0, 0, x1, x2, 0⟩ : Ru).cells (0, 0) _ HM2.out.at_ Try.underlying34 rfl infoRule ?_) | (refine wpList_store_row rfl 34 _ _ rfl (w.heap.size + 1) (⟨4, x0, 0, x1, x2, 0⟩ : Ru).cells rfl rfl 34 _ HM2.out.out infoRule rfl (one6 _) ?_))
            have hl := cell_rule (u := (⟨4, x0, 0, x1, x2, 0⟩ : Ru)) HM2.out.out
            have hz := below_setRow HM2.out.below (show w.heap.size ≤ w.heap.size + 1 by omega) (⟨4, x0, 0, x1, x2, 0⟩ : Ru).cells
            generalize World.setRow _ (w.heap.size + 1) (⟨4, x0, 0, x1, x2, 0⟩ : Ru).cells = wz at hl hz ⊢
            refine bodyPost_ret (v := .tuple #[.agg (⟨4, x0, 0, x1, x2, 0⟩ : Ru).cells, .bool true]) (by simp [results, Try.results12, go_sem, hl, Ru.cells]) rfl ⟨rfl, hz⟩
          · have hx2 : decide (0 ≤ x2) = false := decide_eq_false gx2
            obtain rfl : ok = false := by rw [HO.out]; simp [hx0, hx1, hx2]
            obtain rfl : uA = zeroU := by rw [HU.out]; rfl
            clear HO HU
            go_wp2_with (refine wpList_store_row rfl 34 _ _ rfl (w.heap.size + 1) zeroU.cells rfl rfl 34 _ HM2.out.out infoRule rfl (one6 _) ?_)
            have hl := cell_rule (u := zeroU) HM2.out.out
            have hz := below_setRow HM2.out.below (show w.heap.size ≤ w.heap.size + 1 by omega) zeroU.cells
            generalize World.setRow _ (w.heap.size + 1) zeroU.cells = wz at hl hz ⊢
            refine bodyPost_ret (v := .tuple #[.agg zeroU.cells, .bool false]) (by simp [results, Try.results12, go_sem, hl, Ru.cells]) rfl ⟨rfl, hz⟩
        · have hx1 : decide (0 ≤ x1) = false := decide_eq_false gx1
          go_wp2_with fail
          refine (HRB.out _ HM1.out.below).mono ?_
          rintro e v2 ⟨rfl, hb2⟩
          have HN2 := Lib.hid (HM1.out.keep (w' := v2) hb2)
          clear hb2 c1 r1 f1
          have c20 : ∀ o, v2.cell? ⟨w.heap.size, o, none⟩ = (#[.int .i64 4, .string ho', .string hn, .string wh, .string ao, .string an, .string bo, .string bn, .string v] : Array Value)[o]? := fun o => Lib.cell_of_heap HN2.out.box o
          have r20 : ∀ o, v2.cell? ⟨N, o, none⟩ = (#[.int .i64 4, .int .i64 x0, .int .i64 0, .int .i64 x1, .int .i64 0, .int .i64 0] : Array Value)[o]? := fun o => RuAt.cell HN2.out.at_ o
          have f20 : ∀ o, v2.frozen? ⟨N, o, none⟩ = false := fun o => RuAt.free HN2.out.at_ o
          go_upto_region 15 with fail
          have HM2 : Hid (Mid w (v2.setCell ⟨N, 4, none⟩ (.int .i64 x2)) N 4 ho' hn wh ao an bo bn v ⟨4, x0, 0, x1, x2, 0⟩) := Lib.hid (HN2.out.put 4 (by omega) (by omega) x2)
          generalize v2.setCell ⟨N, 4, none⟩ (.int .i64 x2) = z2 at HM2 ⊢
          clear c20 r20 f20
          have c2 : ∀ o, z2.cell? ⟨w.heap.size, o, none⟩ = (#[.int .i64 4, .string ho', .string hn, .string wh, .string ao, .string an, .string bo, .string bn, .string v] : Array Value)[o]? := fun o => Lib.cell_of_heap HM2.out.box o
          have r2 : ∀ o, z2.cell? ⟨N, o, none⟩ = (#[.int .i64 4, .int .i64 x0, .int .i64 0, .int .i64 x1, .int .i64 x2, .int .i64 0] : Array Value)[o]? := fun o => RuAt.cell HM2.out.at_ o
          have f2 : ∀ o, z2.frozen? ⟨N, o, none⟩ = false := fun o => RuAt.free HM2.out.at_ o
          obtain rfl : ok = false := by rw [HO.out]; simp [hx0, hx1]
          obtain rfl : uA = zeroU := by rw [HU.out]; rfl
          clear HO HU
          go_wp2_with (refine wpList_store_row rfl 34 _ _ rfl (w.heap.size + 1) zeroU.cells rfl rfl 34 _ HM2.out.out infoRule rfl (one6 _) ?_)
          have hl := cell_rule (u := zeroU) HM2.out.out
          have hz := below_setRow HM2.out.below (show w.heap.size ≤ w.heap.size + 1 by omega) zeroU.cells
          generalize World.setRow _ (w.heap.size + 1) zeroU.cells = wz at hl hz ⊢
          refine bodyPost_ret (v := .tuple #[.agg zeroU.cells, .bool false]) (by simp [results, Try.results12, go_sem, hl, Ru.cells]) rfl ⟨rfl, hz⟩
      · have hx0 : decide (0 ≤ x0) = false := decide_eq_false gx0
        go_wp2_with fail
        refine (HRA.out _ HM0.out.below).mono ?_
        rintro e v1 ⟨rfl, hb1⟩
        have HN1 := Lib.hid (HM0.out.keep (w' := v1) hb1)
        clear hb1 c0 r0 f0
        have c10 : ∀ o, v1.cell? ⟨w.heap.size, o, none⟩ = (#[.int .i64 4, .string ho', .string hn, .string wh, .string ao, .string an, .string bo, .string bn, .string v] : Array Value)[o]? := fun o => Lib.cell_of_heap HN1.out.box o
        have r10 : ∀ o, v1.cell? ⟨N, o, none⟩ = (#[.int .i64 4, .int .i64 x0, .int .i64 0, .int .i64 0, .int .i64 0, .int .i64 0] : Array Value)[o]? := fun o => RuAt.cell HN1.out.at_ o
        have f10 : ∀ o, v1.frozen? ⟨N, o, none⟩ = false := fun o => RuAt.free HN1.out.at_ o
        go_upto_region 9 with fail
        have HM1 : Hid (Mid w (v1.setCell ⟨N, 3, none⟩ (.int .i64 x1)) N 4 ho' hn wh ao an bo bn v ⟨4, x0, 0, x1, 0, 0⟩) := Lib.hid (HN1.out.put 3 (by omega) (by omega) x1)
        generalize v1.setCell ⟨N, 3, none⟩ (.int .i64 x1) = z1 at HM1 ⊢
        clear c10 r10 f10
        have c1 : ∀ o, z1.cell? ⟨w.heap.size, o, none⟩ = (#[.int .i64 4, .string ho', .string hn, .string wh, .string ao, .string an, .string bo, .string bn, .string v] : Array Value)[o]? := fun o => Lib.cell_of_heap HM1.out.box o
        have r1 : ∀ o, z1.cell? ⟨N, o, none⟩ = (#[.int .i64 4, .int .i64 x0, .int .i64 0, .int .i64 x1, .int .i64 0, .int .i64 0] : Array Value)[o]? := fun o => RuAt.cell HM1.out.at_ o
        have f1 : ∀ o, z1.frozen? ⟨N, o, none⟩ = false := fun o => RuAt.free HM1.out.at_ o
        go_wp2_with fail
        refine (HRB.out _ HM1.out.below).mono ?_
        rintro e v2 ⟨rfl, hb2⟩
        have HN2 := Lib.hid (HM1.out.keep (w' := v2) hb2)
        clear hb2 c1 r1 f1
        have c20 : ∀ o, v2.cell? ⟨w.heap.size, o, none⟩ = (#[.int .i64 4, .string ho', .string hn, .string wh, .string ao, .string an, .string bo, .string bn, .string v] : Array Value)[o]? := fun o => Lib.cell_of_heap HN2.out.box o
        have r20 : ∀ o, v2.cell? ⟨N, o, none⟩ = (#[.int .i64 4, .int .i64 x0, .int .i64 0, .int .i64 x1, .int .i64 0, .int .i64 0] : Array Value)[o]? := fun o => RuAt.cell HN2.out.at_ o
        have f20 : ∀ o, v2.frozen? ⟨N, o, none⟩ = false := fun o => RuAt.free HN2.out.at_ o
        go_upto_region 15 with fail
        have HM2 : Hid (Mid w (v2.setCell ⟨N, 4, none⟩ (.int .i64 x2)) N 4 ho' hn wh ao an bo bn v ⟨4, x0, 0, x1, x2, 0⟩) := Lib.hid (HN2.out.put 4 (by omega) (by omega) x2)
        generalize v2.setCell ⟨N, 4, none⟩ (.int .i64 x2) = z2 at HM2 ⊢
        clear c20 r20 f20
        have c2 : ∀ o, z2.cell? ⟨w.heap.size, o, none⟩ = (#[.int .i64 4, .string ho', .string hn, .string wh, .string ao, .string an, .string bo, .string bn, .string v] : Array Value)[o]? := fun o => Lib.cell_of_heap HM2.out.box o
        have r2 : ∀ o, z2.cell? ⟨N, o, none⟩ = (#[.int .i64 4, .int .i64 x0, .int .i64 0, .int .i64 x1, .int .i64 x2, .int .i64 0] : Array Value)[o]? := fun o => RuAt.cell HM2.out.at_ o
        have f2 : ∀ o, z2.frozen? ⟨N, o, none⟩ = false := fun o => RuAt.free HM2.out.at_ o
        obtain rfl : ok = false := by rw [HO.out]; simp [hx0]
        obtain rfl : uA = zeroU := by rw [HU.out]; rfl
        clear HO HU
        go_wp2_with (refine wpList_store_row rfl 34 _ _ rfl (w.heap.size + 1) zeroU.cells rfl rfl 34 _ HM2.out.out infoRule rfl (one6 _) ?_)
        have hl := cell_rule (u := zeroU) HM2.out.out
        have hz := below_setRow HM2.out.below (show w.heap.size ≤ w.heap.size + 1 by omega) zeroU.cells
        generalize World.setRow _ (w.heap.size + 1) zeroU.cells = wz at hl hz ⊢
        refine bodyPost_ret (v := .tuple #[.agg zeroU.cells, .bool false]) (by simp [results, Try.results12, go_sem, hl, Ru.cells]) rfl ⟨rfl, hz⟩
end
end Go.Proofs.Ytnhjnimgjpgfcaa.TblH
