/- Tables: which rules may be: Right, by contract. -/
import Derived.Test.YtnhjnimgjpgfcaaTblP
namespace Go.Proofs.Ytnhjnimgjpgfcaa.TblQ
open Go.RowKit Go.Sort Go.Lib Go.Proofs Go.Proofs.Ytnhjnimgjpgfcaa.Plain Go.Proofs.Ytnhjnimgjpgfcaa.SynP Go.Proofs.Ytnhjnimgjpgfcaa.SynE Go.Proofs.Ytnhjnimgjpgfcaa.Grown Go.Proofs.Ytnhjnimgjpgfcaa.TabP Go.Proofs.Ytnhjnimgjpgfcaa.Tab1 Go.Proofs.Ytnhjnimgjpgfcaa.Tab2 Go.Proofs.Ytnhjnimgjpgfcaa.RolK Go.Proofs.Ytnhjnimgjpgfcaa.TblA Go.Proofs.Ytnhjnimgjpgfcaa.TblB Go.Proofs.Ytnhjnimgjpgfcaa.TblC Go.Proofs.Ytnhjnimgjpgfcaa.TblF Go.Proofs.Ytnhjnimgjpgfcaa.TblI Go.Proofs.Ytnhjnimgjpgfcaa.TblP
set_option linter.unusedVariables false
set_option linter.unusedSimpArgs false
def rightU (n1 n2 : Nat) (u : Ru) : Bool := bareK u && (decide (bareU u = u) && (allB ((n1 * n2 : Nat) : Int) [u.head, u.a, u.b] && (allB n1 [u.who] && allB n2 [u.via])))
theorem nx {W w1 w2 : World} (h : RowKit.Below W.heap.size W w1) (hb : RowKit.Below w1.heap.size w1 w2) : RowKit.Below W.heap.size W w2 := h.trans (hb.mono h.size)
theorem belowL (w : World) (zs : List Int) (n : Int) (hT : zs.length ≤ 10000) : Calls Try.prog 41 #[.int .i64 n, .slice (some ⟨w.heap.size, 0, none⟩) zs.length zs.length] (w.alloc (.cells (zs.map fun z => Value.int .i64 z).toArray 3)) fun e w' => e = .returned (.bool (allB n zs)) ∧ RowKit.Below w.heap.size w w' := by
  refine (below (some ⟨w.heap.size, 0, none⟩) zs.length zs n (w.alloc (.cells (zs.map fun z => Value.int .i64 z).toArray 3)) hT (IG.lit _ w.heap.size zs 3 (heap_alloc_new w _))).mono ?_
  rintro e w' ⟨rfl, hb⟩
  exact ⟨rfl, nx ((Below.refl _ w).alloc (Nat.le_refl _) _) hb⟩
set_option maxHeartbeats 1000000 in
set_option maxRecDepth 100000 in
theorem right_ (n1 n2 : Nat) (u : Ru) (w : World) (g1 : n1 ≤ 1000) (g2 : n2 ≤ 1000) : Calls Try.prog 31 #[.int .i64 n1, .int .i64 n2, u.val] w fun e w' => e = .returned (.bool (rightU n1 n2 u)) ∧ RowKit.Below w.heap.size w w' := by
  have HB := Lib.hid (fun w' => bare_ u w')
  unfold BarePost at HB
  unfold rightU
  obtain ⟨k, h, x, a, b, v⟩ := u
  have hU : ∃ u2, bareU ⟨k, h, x, a, b, v⟩ = u2 := ⟨_, rfl⟩
  obtain ⟨⟨k', h', x', a', b', v'⟩, hU⟩ := hU
  rw [hU] at HB ⊢
  have hne := neG k' h' x' a' b' v' k h x a b v
  generalize bareK _ = bk at *
  generalize decide ((⟨k', h', x', a', b', v'⟩ : Ru) = ⟨k, h, x, a, b, v⟩) = dd at *
  unfold Ru.val at *
  simp only [Ru.cells] at HB ⊢
  have hb0 : allB 1001 [(n1 : Int), (n2 : Int)] = true := by simp [allB, inB]; omega
  have HL0 := Lib.hid (fun w' => belowL w' [(n1 : Int), (n2 : Int)] 1001 (by simp))
  have HL1 := Lib.hid (fun w' => belowL w' [h, a, b] ((n1 * n2 : Nat) : Int) (by simp))
  have HL2 := Lib.hid (fun w' => belowL w' [x] (n1 : Int) (by simp))
  have HL3 := Lib.hid (fun w' => belowL w' [v] (n2 : Int) (by simp))
  rw [hb0] at HL0
  have hq : n1 * n2 ≤ 1000000 := Nat.mul_le_mul g1 g2
  have hmul : IntKind.i64.wrap ((n1 : Int) * (n2 : Int)) = ((n1 * n2 : Nat) : Int) := by
    rw [← Int.natCast_mul, IntKind.wrap_i64]; omega
  generalize allB _ [h, a, b] = b1 at *
  generalize allB _ [x] = b2 at *
  generalize allB _ [v] = b3 at *
  generalize n1 * n2 = q at *
  simp only [List.length_cons, List.length_nil, Nat.zero_add, Nat.reduceAdd, List.map_cons, List.map_nil] at HL0 HL1 HL2 HL3
  clear hU hb0 hq g1 g2
  go_enter Try.func31, Try.ntmps31
  go_wp2_with fail
  refine (HB.out _).mono ?_
  rintro e w1 ⟨rfl, hb⟩
  have hx1 : w1.heap[w.heap.size]? = some (.cells #[.int .i64 k, .int .i64 h, .int .i64 x, .int .i64 a, .int .i64 b, .int .i64 v] 34 (0, 0)) := (hb.block _ (by simp)).trans (heap_alloc_new w _)
  have hlt1 : w.heap.size < w1.heap.size := (Array.getElem?_eq_some_iff.1 hx1).1
  have hz1 : RowKit.Below w1.heap.size w1 (w1.alloc (.cells #[.int .i64 k', .int .i64 h', .int .i64 x', .int .i64 a', .int .i64 b', .int .i64 v'] 34)) := (Below.refl _ _).alloc (Nat.le_refl _) _
  have HX2 := Lib.hid ((hz1.block w.heap.size hlt1).trans hx1)
  have HY2 := Lib.hid (heap_alloc_new w1 (.cells #[.int .i64 k', .int .i64 h', .int .i64 x', .int .i64 a', .int .i64 b', .int .i64 v'] 34))
  have HB2 := Lib.hid (nx (nx ((Below.refl w.heap.size w).alloc (Nat.le_refl _) (.cells #[.int .i64 k, .int .i64 h, .int .i64 x, .int .i64 a, .int .i64 b, .int .i64 v] 34)) hb) hz1)
  clear hx1 hz1 hb HB
  go_upto_region 2 with fail
  generalize w1.alloc (.cells #[.int .i64 k', .int .i64 h', .int .i64 x', .int .i64 a', .int .i64 b', .int .i64 v'] 34) = w2 at *
  have c2 := fun o => Lib.cell_of_heap HX2.out o
  have d2 := fun o => Lib.cell_of_heap HY2.out o
  cases bk
  · clear HL0 HL1 HL2 HL3 c2 d2
    go_wp2_with fail
    go_ret
    exact ⟨rfl, HB2.out⟩
  cases dd
  · go_wp2_with fail
    go_ret
    exact ⟨rfl, HB2.out⟩
  go_wp2_with fail
  refine (HL0.out w2).mono ?_
  rintro e w3 ⟨rfl, hb⟩
  have HB3 := Lib.hid (nx HB2.out hb)
  have HX3 := Lib.hid ((hb.block w.heap.size (Array.getElem?_eq_some_iff.1 HX2.out).1).trans HX2.out)
  have c3 := fun o => Lib.cell_of_heap HX3.out o
  clear hb HB2 HX2 HY2 c2 d2 HL0 hne
  go_wp2_with fail
  refine (HL1.out w3).mono ?_
  rintro e w4 ⟨rfl, hb⟩
  have HB4 := Lib.hid (nx HB3.out hb)
  have HX4 := Lib.hid ((hb.block w.heap.size (Array.getElem?_eq_some_iff.1 HX3.out).1).trans HX3.out)
  have c4 := fun o => Lib.cell_of_heap HX4.out o
  clear hb HB3 HX3 c3 HL1
  cases b1
  · go_wp2_with fail
    go_ret
    exact ⟨rfl, HB4.out⟩
  go_wp2_with fail
  refine (HL2.out w4).mono ?_
  rintro e w5 ⟨rfl, hb⟩
  have HB5 := Lib.hid (nx HB4.out hb)
  have HX5 := Lib.hid ((hb.block w.heap.size (Array.getElem?_eq_some_iff.1 HX4.out).1).trans HX4.out)
  have c5 := fun o => Lib.cell_of_heap HX5.out o
  clear hb HB4 HX4 c4 HL2
  cases b2
  · go_wp2_with fail
    go_ret
    exact ⟨rfl, HB5.out⟩
  go_wp2_with fail
  refine (HL3.out w5).mono ?_
  rintro e w6 ⟨rfl, hb⟩
  have HB6 := Lib.hid (nx HB5.out hb)
  clear hb HB5 HX5 c5 HL3
  go_wp2_with fail
  go_ret
  exact ⟨rfl, HB6.out⟩
end Go.Proofs.Ytnhjnimgjpgfcaa.TblQ
