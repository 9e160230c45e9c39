/- The document's table of nodes: New, Is, Var, by contract. -/
import Derived.Test.YtekgegpholcdcaaNdN
namespace Go.Proofs.Ytekgegpholcdcaa.NdP
open Go.RowKit Go.Lib Go.Proofs Go.Proofs.Ytekgegpholcdcaa.NdA Go.Proofs.Ytekgegpholcdcaa.NdH Go.Proofs.Ytekgegpholcdcaa.NdB Go.Proofs.Ytekgegpholcdcaa.NdC Go.Proofs.Ytekgegpholcdcaa.NdD Go.Proofs.Ytekgegpholcdcaa.NdE Go.Proofs.Ytekgegpholcdcaa.NdF Go.Proofs.Ytekgegpholcdcaa.NdG Go.Proofs.Ytekgegpholcdcaa.NdI
set_option linter.unusedVariables false
set_option linter.unusedSimpArgs false
/-- The document's table in memory. -/
structure Rt (w : World) (B : Nat) (v : Value) (s : St) : Prop where
  fb : w.heap[B]? = some (.cells #[.int .i64 s.vars, .int .i64 s.budget, v, .bool s.spent] 34 (0, 0))
  own : w.ownsRow 0 28 3 v s.L.length (encN s.L)
  wf : WF s
  len : s.L.length ≤ 100
  bud : s.budget ≤ 9223372036854775807
def FootR (B : Nat) (v : Value) (k : Nat) : Prop := k = B ∨ v.ownBlock = some k
section
variable {B : Nat} {v : Value} {s : St} {w : World}
theorem Rt.bl (H : Rt w B v s) : B < w.heap.size := (Array.getElem?_eq_some_iff.1 H.fb).1
theorem Rt.foot (H : Rt w B v s) {k : Nat} (hk : FootR B v k) : k < w.heap.size := by
  rcases hk with rfl | h
  · exact H.bl
  · exact (H.own.lt k h).2
theorem Rt.keep {w' : World} (H : Rt w B v s) (h : ∀ k, FootR B v k → w'.heap[k]? = w.heap[k]?) : Rt w' B v s :=
  ⟨(h B (Or.inl rfl)).trans H.fb, own_block H.own (fun g hg => h g (Or.inr hg)), H.wf, H.len, H.bud⟩
theorem Rt.below {w' : World} (H : Rt w B v s) (hb : Below w.heap.size w w') : Rt w' B v s := H.keep (fun k hk => hb.block k (H.foot hk))
theorem Rt.drewN (H : Rt w B v s) (q : Nat) : Rt (w.drewN q) B v s := ⟨H.fb, H.own, H.wf, H.len, H.bud⟩
theorem Rt.frm {w' : World} {F : Nat → Prop} (H : Rt w B v s) (hf : Frm F w w') (hd : ∀ k, FootR B v k → ¬ F k) : Rt w' B v s := H.keep (fun k hk => hf.block k (H.foot hk) (hd k hk))
theorem Rt.b0 (H : Rt w B v s) : w.cell? ⟨B, 0, none⟩ = some (.int .i64 s.vars) ∧ w.cell? ⟨B, 1, none⟩ = some (.int .i64 s.budget) ∧ w.cell? ⟨B, 2, none⟩ = some v ∧ w.cell? ⟨B, 3, none⟩ = some (.bool s.spent) := by
  refine ⟨?_, ?_, ?_, ?_⟩ <;> (rw [Lib.cell_of_heap H.fb]; rfl)
theorem Rt.free (H : Rt w B v s) (o : Nat) : w.frozen? ⟨B, o, none⟩ = false := by
  unfold World.frozen?
  rw [H.fb]
  rfl
theorem Rt.ne (H : Rt w B v s) : v.ownBlock ≠ some B := fun e => by
  rcases H.own.2 with ⟨rfl, _⟩ | ⟨g, cap, cur, rfl, _, hg, _⟩
  · cases e
  · injection e with e
    simp only at e
    rw [e, H.fb] at hg
    injection hg with hg
    injection hg with _ h
    exact absurd h (by decide)
theorem Rt.nodes (H : Rt w B v s) : ∃ A ca, v = .slice A s.L.length ca ∧ s.L.length ≤ ca ∧ ca ≤ maxLen ∧ (0 < s.L.length → ∃ g, A = some ⟨g, 0, none⟩ ∧ g < w.heap.size ∧ ∀ j, (h : j < s.L.length) → w.cell? ⟨g, j * 3, none⟩ = some (.int .i64 s.L[j].v) ∧ w.cell? ⟨g, j * 3 + 1, none⟩ = some (.int .i64 s.L[j].lo) ∧ w.cell? ⟨g, j * 3 + 2, none⟩ = some (.int .i64 s.L[j].hi)) := by
  have h0 := H.own
  rcases H.own.2 with ⟨rfl, hn⟩ | ⟨g, cap, cur, rfl, hb, hg, hle, hmx, _⟩
  · exact ⟨none, 0, by rw [hn], by omega, by simp [maxLen], fun hp => by omega⟩
  · refine ⟨_, cap, rfl, hle, hmx, fun hp => ⟨g, rfl, (Array.getElem?_eq_some_iff.1 hg).1, fun j hj => ?_⟩⟩
    have key : ∀ c, c < 3 → ∀ u, (enc3 s.L[j])[c]? = some u → w.cell? ⟨g, j * 3 + c, none⟩ = some u := fun c hc u hu => by
      have k := h0.cells (g := g) rfl (j * 3 + c) u (by rw [encN_get s.L j c hj hc]; exact hu)
      have e : ((⟨g, 0, none⟩ : Addr).add (j * 3 + c)) = ⟨g, j * 3 + c, none⟩ := by unfold Addr.add; split <;> simp_all
      rw [e] at k
      exact k
    exact ⟨key 0 (by omega) _ rfl, key 1 (by omega) _ rfl, key 2 (by omega) _ rfl⟩
def NewRPost (vars budget : Int) (w : World) (e : Ending) (w' : World) : Prop := ∃ B, e = .returned (.pointer (some ⟨B, 0, none⟩)) ∧ Rt w' B (.slice none 0 0) (NdG.start vars budget) ∧ Below w.heap.size w w' ∧ w.heap.size ≤ B
set_option maxRecDepth 100000 in
theorem newR (vars budget : Int) (hb2 : budget ≤ 9223372036854775807) (w : World) : Calls Try.prog 9 #[.int .i64 vars, .int .i64 budget] w (NewRPost vars budget w) := by
  unfold NewRPost NdG.start
  obtain ⟨a, ha⟩ : ∃ a : Nat, max 0 (min vars 61) = (a : Int) := ⟨(max 0 (min vars 61)).toNat, by omega⟩
  obtain ⟨b, hb⟩ : ∃ b : Nat, max 0 budget = (b : Int) := ⟨(max 0 budget).toNat, by omega⟩
  have ha61 : a ≤ 61 := by omega
  have hb63 : b ≤ 9223372036854775807 := by omega
  rw [ha, hb]
  simp only [Int.toNat_natCast]
  have HM : Hid (Rt (w.alloc (.cells #[.int .i64 a, .int .i64 b, .slice none 0 0, .bool false] 34)) w.heap.size (.slice none 0 0) ⟨a, b, false, []⟩) := Lib.hid ⟨heap_alloc_new w _, World.ownsRow_nil _ _ _ _, ⟨List.nodup_nil, fun i h => absurd h (Nat.not_lt_zero i), ha61⟩, by simp, hb63⟩
  have HB := Lib.hid (show ∀ o1, Below w.heap.size w (w.alloc o1) from fun o1 => (Below.refl _ w).alloc (Nat.le_refl _) o1)
  go_enter Try.func9, Try.ntmps9
  go_wp2_with fail
  go_ret
  exact ⟨w.heap.size, rfl, HM.out, HB.out _, Nat.le_refl _⟩
set_option maxRecDepth 100000 in
theorem isR (n : Int) (H : Rt w B v s) : Calls Try.prog 16 #[.pointer (some ⟨B, 0, none⟩), .int .i64 n] w fun e w' => e = .returned (.bool (isB s n)) ∧ w = w' := by
  obtain ⟨A, ca, rfl, -, -, -⟩ := H.nodes
  have c2 := H.b0.2.2.1
  have hl := H.len
  clear H
  unfold isB
  generalize s.L.length = k at *
  by_cases h0 : 0 ≤ n
  · have d0 : decide (0 ≤ n) = true := decide_eq_true h0
    have hc : decide (n < 2 + (k : Int)) = decide (n < (k : Int) + 2) := decide_eq_decide.2 (by omega)
    rw [d0, hc]
    go_enter Try.func16, Try.ntmps16
    go_wp2_with fail
    go_ret
    exact ⟨by simp, rfl⟩
  · have d0 : decide (0 ≤ n) = false := decide_eq_false h0
    rw [d0]
    go_enter Try.func16, Try.ntmps16
    go_wp2_with fail
    go_ret
    exact ⟨by simp, rfl⟩
set_option maxRecDepth 100000 in
theorem varR (n : Int) (H : Rt w B v s) : Calls Try.prog 18 #[.pointer (some ⟨B, 0, none⟩), .int .i64 n] w fun e w' => e = .returned (.int .i64 (varI s n)) ∧ w = w' := by
  have HI := Lib.hid (isR n H)
  obtain ⟨A, ca, rfl, hle, hmx, hc⟩ := H.nodes
  obtain ⟨c0, c1, c2, c3⟩ := H.b0
  have hl := H.len
  unfold varI
  cases hy : nodeB s n with
  | false =>
    rw [if_neg (by simp)]
    clear H hc
    by_cases h2 : n < 2
    · have d0 : decide (n < 2) = true := decide_eq_true h2
      clear hy
      go_enter Try.func18, Try.ntmps18
      go_wp2_with ((with_reducible refine HI.out.mono ?_); rintro e w' ⟨rfl, rfl⟩)
      go_ret
      exact ⟨rfl, rfl⟩
    · have d0 : decide (n < 2) = false := decide_eq_false h2
      rw [nodeB_no hy h2] at HI
      clear hy
      go_enter Try.func18, Try.ntmps18
      go_wp2_with ((with_reducible refine HI.out.mono ?_); rintro e w' ⟨rfl, rfl⟩)
      go_ret
      exact ⟨rfl, rfl⟩
  | true =>
    rw [if_pos rfl]
    rw [nodeB_yes hy] at HI
    obtain ⟨h1, h2⟩ := nodeB_iff.1 hy
    obtain ⟨i, hi⟩ : ∃ i : Nat, n - 2 = (i : Int) := ⟨(n - 2).toNat, by omega⟩
    have hil : i < s.L.length := by omega
    rw [at_get hi hil]
    obtain ⟨g, rfl, hg, hcell⟩ := hc (by omega)
    obtain ⟨a0, a1, a2⟩ := hcell i hil
    have d0 : decide (n < 2) = false := decide_eq_false (by omega)
    have i1 : (i : Int) < s.L.length := by omega
    have i0 : (0 : Int) ≤ i := by omega
    clear hcell hc H hy h2
    generalize s.L[i].v = x at *
    generalize s.L[i].lo = y at *
    generalize s.L[i].hi = z at *
    generalize s.L.length = k at *
    go_enter Try.func18, Try.ntmps18
    go_wp2_with ((with_reducible refine HI.out.mono ?_); rintro e w' ⟨rfl, rfl⟩)
    go_ret
    exact ⟨rfl, rfl⟩
end
end Go.Proofs.Ytekgegpholcdcaa.NdP
