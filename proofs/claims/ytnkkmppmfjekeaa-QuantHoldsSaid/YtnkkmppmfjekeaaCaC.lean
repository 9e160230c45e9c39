/- The cache: Get, by contract. -/
import Derived.Test.YtnkkmppmfjekeaaCaB
namespace Go.Proofs.Ytnkkmppmfjekeaa.CaC
open Go.BigFrame Go.RowKit Go.Lib Go.Proofs Go.Proofs.Ytnkkmppmfjekeaa.CaA Go.Proofs.Ytnkkmppmfjekeaa.CaB
set_option linter.unusedVariables false
set_option linter.unusedSimpArgs false
set_option maxRecDepth 100000 in
theorem fa (R o : Nat) (w : World) : (Instr.fieldAt 126 (.pointer (some ⟨R, o, none⟩)) 0).run Try.prog w = .ok (.pointer (some ⟨R, o, none⟩)) w := by
  go_simp
/-- The step of a quiet walk at the address of a struct's first field. -/
theorem q_fa {C : World → Prop} {K : Act → Prop} {a : Act} (o : Oper) (x : Operand) (R off : Nat) (ho : o.op = .fieldAddr 126 x 0) (hx : a.eval x = .pointer (some ⟨R, off, none⟩)) (h : K (a.put o.dst (.pointer (some ⟨R, off, none⟩)))) : o.quiet Try.prog a C K := by
  refine ⟨_, fun w hw => ?_, h⟩
  unfold Oper.quietAt execOp
  simp only [ho, hx, Sem.run_bind, fa, Result.andThen_ok, Sem.run_pure, Oper.quietUpon, and_self]
set_option maxRecDepth 100000 in
theorem get_hit (B R k : Nat) (M : Nat → Pl) (h : Nat) (q : Qn) (w : World) (hk : k ≤ 16) (hh : h < 1000000) (H : Ca w B R (2 ^ k) M h) (h1 : (M (ix k q)).kept = true) (h2 : (M (ix k q)).q = q) : Calls Try.prog 75 #[.pointer (some ⟨B, 0, none⟩), .int .i64 q.op, .int .i64 q.a, .int .i64 q.b, .int .i64 q.d] w fun e w' => e = .returned (.tuple #[.int .i64 (M (ix k q)).ans, .bool true]) ∧ Ca w' B R (2 ^ k) M (h + 1) ∧ w.grownBy w' (some B) := by
  have hix := ix_lt k hk q
  have HA := Lib.hid (fun w H => at_ B R k M h q w hk H)
  generalize ix k q = x at *
  obtain ⟨a, b, c, d⟩ := q
  have HH := Lib.hid H
  have hB := H.bl
  clear H
  obtain ⟨v, hv⟩ : ∃ v, (M x).ans = v := ⟨_, rfl⟩
  rw [hv]
  unfold Qn.cells at HA
  go_enter Try.func75, Try.ntmps75
  go_wp2_with fail
  have hbx := (Below.refl w.heap.size w).alloc (Nat.le_refl _) (.cells #[.int .i64 a, .int .i64 b, .int .i64 c, .int .i64 d] 122)
  refine (HA.out _ (HH.out.below hbx)).mono ?_
  rintro e w1 ⟨rfl, hb1⟩
  have hq0 : ∀ o, w1.cell? ⟨w.heap.size, o, none⟩ = (#[.int .i64 a, .int .i64 b, .int .i64 c, .int .i64 d] : Array Value)[o]? := fun o => (hb1.cell (p := ⟨w.heap.size, o, none⟩) (by simp)).trans (Lib.cell_of_heap (heap_alloc_new w _) o)
  have hb := hbx.trans (hb1.mono hbx.size)
  have H1 := HH.out.below hb
  have hs1 := hb1.size
  simp only [World.size_alloc] at hs1
  have HB1 := Lib.hid hb
  obtain ⟨c0, c1, c2, c3, c4, c5⟩ := Ca.cells H1 x hix
  obtain ⟨z0, z1⟩ := H1.b0
  have hbl := H1.bl
  have HF : Hid (∀ q, Ca ((w1.drewN q).setCell ⟨B, 1, none⟩ (.int .i64 ((h : Int) + 1))) B R (2 ^ k) M (h + 1)) := Lib.hid (fun q => (H1.drewN q).hit)
  have HC4 : Hid (∀ q, ((w1.drewN q).setCell ⟨B, 1, none⟩ (.int .i64 ((h : Int) + 1))).cell? ⟨R, x * 6 + 4, none⟩ = some (.int .i64 (M x).ans)) := Lib.hid (fun q => (Ca.cells (HF.out q) x hix).2.2.2.2.1)
  rw [hv] at HC4
  have HG : Hid (∀ q, w.grownBy ((w1.drewN q).setCell ⟨B, 1, none⟩ (.int .i64 ((h : Int) + 1))) (some B)) := Lib.hid (fun q => ⟨hb.os, hb.tape, hb.output, by simp [World.setCell]; exact hb.size, fun k hk hne => (Below.heap_setCell _ _ _ _ (fun e => hne (by rw [e]))).trans (hb.block k hk)⟩)
  rw [h2] at c0 c1 c2 c3
  rw [h1] at c5
  rw [hv] at c4
  have hfr := H1.free 1
  have hneq := fun w => neQ a b c d a b c d w
  simp only [decide_true, Bool.not_true] at hneq
  have hne := H1.ne
  clear hb hb1 hbx H1 HH HA h1 h2 hix hv
  generalize x * 6 = o at *
  go_wp2_with fail
  refine wp_region_quiet_lit (by kernel_rfl) (by kernel_rfl) ?_
  iterate 8 (go_big_quiet_step (fail))
  go_big_quiet_want
  refine q_fa _ _ R o rfl rfl ?_
  go_big_quiet_on
  simp only [Act.put, List.setIfInBounds_toArray, List.set_cons_zero, List.set_cons_succ]
  iterate 4 (go_big_quiet_step (fail))
  refine wpQuiet_nil ?_
  rintro _ ⟨nq, rfl⟩
  go_wp2_with fail
  exact bodyPost_ret (v := .tuple #[.int .i64 v, .bool true]) (by simp [results, Try.results75, go_sem]) rfl ⟨rfl, HF.out _, HG.out _⟩
set_option maxRecDepth 100000 in
theorem get_open (B R k : Nat) (M : Nat → Pl) (h : Nat) (q : Qn) (w : World) (hk : k ≤ 16) (H : Ca w B R (2 ^ k) M h) (h2 : (M (ix k q)).kept = false) : Calls Try.prog 75 #[.pointer (some ⟨B, 0, none⟩), .int .i64 q.op, .int .i64 q.a, .int .i64 q.b, .int .i64 q.d] w fun e w' => e = .returned (.tuple #[.int .i64 0, .bool false]) ∧ Below w.heap.size w w' := by
  have hix := ix_lt k hk q
  have HA := Lib.hid (fun w H => at_ B R k M h q w hk H)
  generalize ix k q = x at *
  obtain ⟨a, b, c, d⟩ := q
  have HH := Lib.hid H
  have hB := H.bl
  clear H
  unfold Qn.cells at HA
  go_enter Try.func75, Try.ntmps75
  go_wp2_with fail
  have hbx := (Below.refl w.heap.size w).alloc (Nat.le_refl _) (.cells #[.int .i64 a, .int .i64 b, .int .i64 c, .int .i64 d] 122)
  refine (HA.out _ (HH.out.below hbx)).mono ?_
  rintro e w1 ⟨rfl, hb1⟩
  have hq0 : ∀ o, w1.cell? ⟨w.heap.size, o, none⟩ = (#[.int .i64 a, .int .i64 b, .int .i64 c, .int .i64 d] : Array Value)[o]? := fun o => (hb1.cell (p := ⟨w.heap.size, o, none⟩) (by simp)).trans (Lib.cell_of_heap (heap_alloc_new w _) o)
  have hb := hbx.trans (hb1.mono hbx.size)
  have H1 := HH.out.below hb
  have hs1 := hb1.size
  simp only [World.size_alloc] at hs1
  have HB1 := Lib.hid (fun q => below_drewN hb q)
  obtain ⟨c0, c1, c2, c3, c4, c5⟩ := Ca.cells H1 x hix
  rw [h2] at c5
  clear hb hb1 hbx H1 HH HA h2 hix c4
  generalize x * 6 = o at *
  generalize (M x).q.op = a2 at *
  generalize (M x).q.a = b2 at *
  generalize (M x).q.b = c2 at *
  generalize (M x).q.d = d2 at *
  go_wp2_with fail
  go_quiet (fail)
  go_wp2_with fail
  exact bodyPost_ret (v := .tuple #[.int .i64 0, .bool false]) (by simp [results, Try.results75, go_sem]) rfl ⟨rfl, HB1.out _⟩
set_option maxRecDepth 100000 in
theorem get_else (B R k : Nat) (M : Nat → Pl) (h : Nat) (q : Qn) (w : World) (hk : k ≤ 16) (H : Ca w B R (2 ^ k) M h) (h2 : (M (ix k q)).kept = true) (h3 : (M (ix k q)).q ≠ q) : Calls Try.prog 75 #[.pointer (some ⟨B, 0, none⟩), .int .i64 q.op, .int .i64 q.a, .int .i64 q.b, .int .i64 q.d] w fun e w' => e = .returned (.tuple #[.int .i64 0, .bool false]) ∧ Below w.heap.size w w' := by
  have hix := ix_lt k hk q
  have HA := Lib.hid (fun w H => at_ B R k M h q w hk H)
  generalize ix k q = x at *
  obtain ⟨a, b, c, d⟩ := q
  have HH := Lib.hid H
  have hB := H.bl
  clear H
  unfold Qn.cells at HA
  have h4 : decide ((⟨(M x).q.op, (M x).q.a, (M x).q.b, (M x).q.d⟩ : Qn) = ⟨a, b, c, d⟩) = false := decide_eq_false h3
  go_enter Try.func75, Try.ntmps75
  go_wp2_with fail
  have hbx := (Below.refl w.heap.size w).alloc (Nat.le_refl _) (.cells #[.int .i64 a, .int .i64 b, .int .i64 c, .int .i64 d] 122)
  refine (HA.out _ (HH.out.below hbx)).mono ?_
  rintro e w1 ⟨rfl, hb1⟩
  have hq0 : ∀ o, w1.cell? ⟨w.heap.size, o, none⟩ = (#[.int .i64 a, .int .i64 b, .int .i64 c, .int .i64 d] : Array Value)[o]? := fun o => (hb1.cell (p := ⟨w.heap.size, o, none⟩) (by simp)).trans (Lib.cell_of_heap (heap_alloc_new w _) o)
  have hb := hbx.trans (hb1.mono hbx.size)
  have H1 := HH.out.below hb
  have hs1 := hb1.size
  simp only [World.size_alloc] at hs1
  have HB1 := Lib.hid (fun q => below_drewN hb q)
  obtain ⟨c0, c1, c2, c3, c4, c5⟩ := Ca.cells H1 x hix
  rw [h2] at c5
  have hneq := fun w => neQ (M x).q.op (M x).q.a (M x).q.b (M x).q.d a b c d w
  rw [h4] at hneq
  simp only [Bool.not_false] at hneq
  clear hb hb1 hbx H1 HH HA h2 h3 h4 hix c4
  generalize x * 6 = o at *
  generalize (M x).q.op = a2 at *
  generalize (M x).q.a = b2 at *
  generalize (M x).q.b = c2 at *
  generalize (M x).q.d = d2 at *
  go_wp2_with fail
  refine wp_region_quiet_lit (by kernel_rfl) (by kernel_rfl) ?_
  iterate 8 (go_big_quiet_step (fail))
  go_big_quiet_want
  refine q_fa _ _ R o rfl rfl ?_
  go_big_quiet_on
  simp only [Act.put, List.setIfInBounds_toArray, List.set_cons_zero, List.set_cons_succ]
  iterate 4 (go_big_quiet_step (fail))
  refine wpQuiet_nil ?_
  rintro _ ⟨nq, rfl⟩
  go_wp2_with fail
  exact bodyPost_ret (v := .tuple #[.int .i64 0, .bool false]) (by simp [results, Try.results75, go_sem]) rfl ⟨rfl, HB1.out _⟩
theorem get (B R k : Nat) (M : Nat → Pl) (h : Nat) (q : Qn) (w : World) (hk : k ≤ 16) (hh : h < 1000000) (H : Ca w B R (2 ^ k) M h) : Calls Try.prog 75 #[.pointer (some ⟨B, 0, none⟩), .int .i64 q.op, .int .i64 q.a, .int .i64 q.b, .int .i64 q.d] w (GetPost B R k M h q w) := by
  unfold GetPost
  by_cases hc : (M (ix k q)).kept = true ∧ (M (ix k q)).q = q
  · simp only [hc, and_self, if_true]
    exact get_hit B R k M h q w hk hh H hc.1 hc.2
  · simp only [hc, if_false]
    cases hkk : (M (ix k q)).kept with
    | false => exact get_open B R k M h q w hk H hkk
    | true => exact get_else B R k M h q w hk H hkk (fun e => hc ⟨hkk, e⟩)
end Go.Proofs.Ytnkkmppmfjekeaa.CaC
