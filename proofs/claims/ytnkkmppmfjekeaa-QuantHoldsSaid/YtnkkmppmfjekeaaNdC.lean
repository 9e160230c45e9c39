/- Diagrams' nodes in memory: Get, Var, whether parts may be, by contract. -/
import Derived.Test.YtnkkmppmfjekeaaNdB
namespace Go.Proofs.Ytnkkmppmfjekeaa.NdC
open Go.RowKit Go.Lib Go.Proofs Go.Proofs.Ytnkkmppmfjekeaa.NdA Go.Proofs.Ytnkkmppmfjekeaa.NdH Go.Proofs.Ytnkkmppmfjekeaa.NdB
set_option linter.unusedVariables false
set_option linter.unusedSimpArgs false
section
variable {B R : Nat} {v : Value} {m : Nat} {Q : Nat → Nat} {s : St} {c : Nat} {w : World}
theorem nodeB_no {n : Int} (h : nodeB s n = false) (h2 : ¬ n < 2) : isB s n = false := by
  unfold nodeB at h
  unfold isB
  simp only [Bool.and_eq_false_iff, decide_eq_false_iff_not] at h ⊢
  omega
theorem nodeB_yes {n : Int} (h : nodeB s n = true) : isB s n = true := by
  obtain ⟨h1, h2⟩ := nodeB_iff.1 h
  exact isB_iff.2 ⟨by omega, h2⟩
set_option maxRecDepth 100000 in
theorem get_no (n : Int) (hn : -9223372036854775808 ≤ n) (hn2 : n ≤ 9223372036854775807) (H : Tb w B R v m Q s c) (hno : nodeB s n = false) : Calls Try.prog 80 #[.pointer (some ⟨B, 0, none⟩), .int .i64 n] w fun e w' => e = .returned (.tuple #[.agg #[.int .i64 0, .int .i64 0, .int .i64 0], .bool false]) ∧ Below w.heap.size w w' := by
  have hb := (Below.refl w.heap.size w).alloc (Nat.le_refl _) (.cells #[.int .i64 0, .int .i64 0, .int .i64 0] 89)
  have HI := Lib.hid (is_ n hn hn2 (H.below hb))
  have HB := Lib.hid hb
  have hl := fun o => Lib.cell_of_heap (heap_alloc_new w (.cells #[.int .i64 0, .int .i64 0, .int .i64 0] 89)) o
  clear H hb
  by_cases h2 : n < 2
  · have d0 : decide (n < 2) = true := decide_eq_true h2
    clear hno
    go_enter Try.func80, Try.ntmps80
    go_wp2_with ((with_reducible refine HI.out.mono ?_); rintro e w' ⟨rfl, rfl⟩)
    refine bodyPost_ret (v := .tuple #[.agg #[.int .i64 0, .int .i64 0, .int .i64 0], .bool false]) (by simp [results, Try.results80, go_sem, hl]) rfl ⟨rfl, HB.out⟩
  · have d0 : decide (n < 2) = false := decide_eq_false h2
    rw [nodeB_no hno h2] at HI
    clear hno
    go_enter Try.func80, Try.ntmps80
    go_wp2_with ((with_reducible refine HI.out.mono ?_); rintro e w' ⟨rfl, rfl⟩)
    refine bodyPost_ret (v := .tuple #[.agg #[.int .i64 0, .int .i64 0, .int .i64 0], .bool false]) (by simp [results, Try.results80, go_sem, hl]) rfl ⟨rfl, HB.out⟩
theorem at_get {n : Int} {i : Nat} (hi : n - 2 = (i : Int)) (h : i < s.L.length) : at_ s n = s.L[i] := by
  unfold at_
  rw [hi, Int.toNat_natCast, List.getD_eq_getElem?_getD, List.getElem?_eq_getElem h]
  rfl
set_option maxRecDepth 100000 in
theorem get_yes (n : Int) (hn : -9223372036854775808 ≤ n) (hn2 : n ≤ 9223372036854775807) (H : Tb w B R v m Q s c) (hy : nodeB s n = true) : Calls Try.prog 80 #[.pointer (some ⟨B, 0, none⟩), .int .i64 n] w fun e w' => e = .returned (.tuple #[.agg #[.int .i64 (at_ s n).v, .int .i64 (at_ s n).lo, .int .i64 (at_ s n).hi], .bool true]) ∧ Below w.heap.size w w' := by
  have hb := (Below.refl w.heap.size w).alloc (Nat.le_refl _) (.cells #[.int .i64 0, .int .i64 0, .int .i64 0] 89)
  have HI := Lib.hid (is_ n hn hn2 (H.below hb))
  rw [nodeB_yes hy] at HI
  obtain ⟨h1, h2⟩ := nodeB_iff.1 hy
  obtain ⟨i, hi⟩ : ∃ i : Nat, n - 2 = (i : Int) := ⟨(n - 2).toNat, by omega⟩
  have hil : i < s.L.length := by omega
  rw [at_get hi hil]
  obtain ⟨A, ca, rfl, hle, hmx, hc⟩ := H.nodes
  obtain ⟨g, rfl, hg, hcell⟩ := hc (by omega)
  obtain ⟨a0, a1, a2⟩ := hcell i hil
  have c3 := H.b0.2.2.2.1
  have hbl := H.bl
  have d0 : decide (n < 2) = false := decide_eq_false (by omega)
  have i1 : (i : Int) < s.L.length := by omega
  have i0 : (0 : Int) ≤ i := by omega
  have hlen := H.len
  clear hcell hc H hy h2
  generalize s.L[i].v = x at *
  generalize s.L[i].lo = y at *
  generalize s.L[i].hi = z at *
  generalize s.L.length = k at *
  have HB := Lib.hid (show ∀ o, Below w.heap.size w (w.alloc o) from fun o => (Below.refl w.heap.size w).alloc (Nat.le_refl _) o)
  clear hb
  go_enter Try.func80, Try.ntmps80
  go_wp2_with ((with_reducible refine HI.out.mono ?_); rintro e w' ⟨rfl, rfl⟩)
  have hl := fun o => Lib.cell_of_heap (heap_alloc_new w (.cells #[.int .i64 x, .int .i64 y, .int .i64 z] 89)) o
  refine bodyPost_ret (v := .tuple #[.agg #[.int .i64 x, .int .i64 y, .int .i64 z], .bool true]) (by simp [results, Try.results80, go_sem, hl]) rfl ⟨rfl, HB.out _⟩
set_option maxRecDepth 100000 in
theorem var_ (n : Int) (hn : -9223372036854775808 ≤ n) (hn2 : n ≤ 9223372036854775807) (H : Tb w B R v m Q s c) : Calls Try.prog 76 #[.pointer (some ⟨B, 0, none⟩), .int .i64 n] w fun e w' => e = .returned (.int .i64 (varI s n)) ∧ Below w.heap.size w w' := by
  unfold varI
  have HV := Lib.hid (show ∀ w', Below w.heap.size w w' → Calls Try.prog 69 #[.pointer (some ⟨B, 0, none⟩)] w' fun e w'' => e = .returned (.int .i64 s.vars) ∧ w' = w'' from fun w' hb => vars_ (H.below hb))
  cases hy : nodeB s n with
  | true =>
    have HG := Lib.hid (get_yes n hn hn2 H hy)
    clear H hy
    rw [if_pos rfl]
    generalize at_ s n = x at *
    obtain ⟨x, y, z⟩ := x
    go_enter Try.func76, Try.ntmps76
    go_wp2_with fail
    refine HG.out.mono ?_
    rintro e w1 ⟨rfl, hb⟩
    have HB := Lib.hid (show ∀ o, Below w.heap.size w (w1.alloc o) from fun o => hb.alloc hb.size o)
    clear hb
    go_wp2_with fail
    go_ret
    exact ⟨rfl, HB.out _⟩
  | false =>
    have HG := Lib.hid (get_no n hn hn2 H hy)
    clear H hy
    rw [if_neg (by simp)]
    go_enter Try.func76, Try.ntmps76
    go_wp2_with fail
    refine HG.out.mono ?_
    rintro e w1 ⟨rfl, hb⟩
    have HB := Lib.hid (show ∀ o, Below w.heap.size w (w1.alloc o) from fun o => hb.alloc hb.size o)
    clear hb
    go_wp2_with fail
    refine (HV.out _ (HB.out _)).mono ?_
    rintro e w2 ⟨rfl, rfl⟩
    go_wp2_with fail
    go_ret
    exact ⟨rfl, HB.out _⟩
set_option maxRecDepth 100000 in
theorem may_ (x lo hi : Int) (l1 : -9223372036854775808 ≤ lo) (l2 : lo ≤ 9223372036854775807) (h1 : -9223372036854775808 ≤ hi) (h2 : hi ≤ 9223372036854775807) (H : Tb w B R v m Q s c) : Calls Try.prog 93 #[.pointer (some ⟨B, 0, none⟩), .int .i64 x, .int .i64 lo, .int .i64 hi] w fun e w' => e = .returned (.bool (mayB s x lo hi)) ∧ Below w.heap.size w w' := by
  have HI := Lib.hid (show ∀ (n : Int), -9223372036854775808 ≤ n → n ≤ 9223372036854775807 → Calls Try.prog 58 #[.pointer (some ⟨B, 0, none⟩), .int .i64 n] w fun e w'' => e = .returned (.bool (isB s n)) ∧ w = w'' from fun n a b => is_ n a b H)
  have HV := Lib.hid (show ∀ (n : Int) w', -9223372036854775808 ≤ n → n ≤ 9223372036854775807 → Below w.heap.size w w' → Calls Try.prog 76 #[.pointer (some ⟨B, 0, none⟩), .int .i64 n] w' fun e w'' => e = .returned (.int .i64 (varI s n)) ∧ Below w'.heap.size w' w'' from fun n w' a b hb => var_ n a b (H.below hb))
  clear H
  have HIl := Lib.hid (HI.out lo l1 l2)
  have HIh := Lib.hid (HI.out hi h1 h2)
  have HVl := Lib.hid (fun w' hb => HV.out lo w' l1 l2 hb)
  have HVh := Lib.hid (fun w' hb => HV.out hi w' h1 h2 hb)
  clear HI HV
  have HM : Hid (mayB s x lo hi = (decide (0 ≤ x) && isB s lo && isB s hi && decide (x < varI s lo) && decide (x < varI s hi))) := Lib.hid rfl
  rw [HM.out]
  clear HM
  have HB0 := Lib.hid (Below.refl w.heap.size w)
  generalize varI s lo = vl at *
  generalize varI s hi = vh at *
  generalize isB s lo = bl at *
  generalize isB s hi = bh at *
  by_cases hx : 0 ≤ x
  rotate_left
  · have d0 : decide (0 ≤ x) = false := decide_eq_false hx
    rw [d0]
    go_enter Try.func93, Try.ntmps93
    go_wp2_with fail
    go_ret
    exact ⟨rfl, HB0.out⟩
  have d0 : decide (0 ≤ x) = true := decide_eq_true hx
  rw [d0]
  cases bl
  · go_enter Try.func93, Try.ntmps93
    go_wp2_with fail
    refine HIl.out.mono ?_
    rintro e w' ⟨rfl, rfl⟩
    go_wp2_with fail
    go_ret
    exact ⟨rfl, HB0.out⟩
  cases bh
  · go_enter Try.func93, Try.ntmps93
    go_wp2_with fail
    refine HIl.out.mono ?_
    rintro e w' ⟨rfl, rfl⟩
    go_wp2_with fail
    refine HIh.out.mono ?_
    rintro e w' ⟨rfl, rfl⟩
    go_wp2_with fail
    go_ret
    exact ⟨rfl, HB0.out⟩
  by_cases g1 : x < vl
  rotate_left
  · have d1 : decide (x < vl) = false := decide_eq_false g1
    rw [d1]
    go_enter Try.func93, Try.ntmps93
    go_wp2_with fail
    refine HIl.out.mono ?_
    rintro e w' ⟨rfl, rfl⟩
    go_wp2_with fail
    refine HIh.out.mono ?_
    rintro e w' ⟨rfl, rfl⟩
    go_wp2_with fail
    refine (HVl.out _ HB0.out).mono ?_
    rintro e w1 ⟨rfl, hb⟩
    have HB1 := Lib.hid hb
    clear hb
    go_wp2_with fail
    go_ret
    exact ⟨rfl, HB1.out⟩
  have d1 : decide (x < vl) = true := decide_eq_true g1
  rw [d1]
  go_enter Try.func93, Try.ntmps93
  go_wp2_with fail
  refine HIl.out.mono ?_
  rintro e w' ⟨rfl, rfl⟩
  go_wp2_with fail
  refine HIh.out.mono ?_
  rintro e w' ⟨rfl, rfl⟩
  go_wp2_with fail
  refine (HVl.out _ HB0.out).mono ?_
  rintro e w1 ⟨rfl, hb⟩
  have HB1 := Lib.hid hb
  clear hb
  go_wp2_with fail
  refine (HVh.out _ HB1.out).mono ?_
  rintro e w2 ⟨rfl, hb⟩
  have HB2 := Lib.hid (HB1.out.trans (hb.mono HB1.out.size))
  clear hb
  go_wp2_with fail
  go_ret
  exact ⟨by simp, HB2.out⟩
end
end Go.Proofs.Ytnkkmppmfjekeaa.NdC
