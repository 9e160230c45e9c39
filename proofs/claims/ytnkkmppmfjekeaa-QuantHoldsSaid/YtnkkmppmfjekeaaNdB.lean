/- Diagrams' nodes in memory: the small calls, by contract. -/
import Derived.Test.YtnkkmppmfjekeaaCaA
import Derived.Test.YtnkkmppmfjekeaaNdH
import Derived.Deep.Cut
import Derived.Deep.CutBlock
import Derived.Deep.LoopGhost
namespace Go.Proofs.Ytnkkmppmfjekeaa.NdB
open Go.RowKit Go.Lib Go.Proofs Go.Proofs.Ytnkkmppmfjekeaa.NdA Go.Proofs.Ytnkkmppmfjekeaa.NdH
set_option linter.unusedVariables false
set_option linter.unusedSimpArgs false
theorem bits_range (op : BinOp) (a b : Int) (h : op = .xor) : 0 ≤ bits op .u64 a b ∧ bits op .u64 a b < 18446744073709551616 := by
  subst h
  exact CaA.wrap_range _
/-- The number that is mixed of k of the three. -/
def mixS (h n : Int) : Int := bits .xor .u64 (IntKind.u64.wrap (bits .xor .u64 h (IntKind.u64.wrap n) * 11400714819323198485)) (IntKind.u64.wrap (bits .xor .u64 h (IntKind.u64.wrap n) * 11400714819323198485) / 4294967296)
def nth (x : Nd) (k : Nat) : Int := if k = 0 then x.v else if k = 1 then x.lo else x.hi
def mixK (x : Nd) : Nat → Int
  | 0 => 0
  | k + 1 => mixS (mixK x k) (nth x k)
theorem mixK_range (x : Nd) (k : Nat) : 0 ≤ mixK x k ∧ mixK x k < 18446744073709551616 := by
  cases k with
  | zero => exact ⟨by unfold mixK; omega, by unfold mixK; omega⟩
  | succ k => exact bits_range .xor _ _ rfl
def mixN (x : Nd) : Nat := (mixK x 3).toNat
theorem mixN_lt (x : Nd) : mixN x < 18446744073709551616 := by have := mixK_range x 3; unfold mixN; omega
def hm (m : Nat) (x : Nd) : Nat := mixN x % m
set_option maxRecDepth 100000 in
theorem idx3 (a b c : Int) (k : Nat) (hk : k < 3) (w : World) : (Instr.index 150 (.agg #[.int .i64 a, .int .i64 b, .int .i64 c]) (.int .i64 k)).run Try.prog w = .ok (.int .i64 (nth ⟨a, b, c⟩ k)) w := by
  match k, hk with
  | 0, _ => rfl
  | 1, _ => rfl
  | 2, _ => rfl
  | k + 3, h => exact absurd h (by omega)
set_option maxRecDepth 100000 in
theorem mixed (a b c : Int) (w : World) : Calls Try.prog 102 #[.agg #[.int .i64 a, .int .i64 b, .int .i64 c]] w fun e w' => e = .returned (.int .u64 (mixN ⟨a, b, c⟩)) ∧ Below w.heap.size w w' := by
  have HI := Lib.hid (fun k hk w => idx3 a b c k hk w)
  have HR := Lib.hid (mixK_range ⟨a, b, c⟩)
  have HS : Hid (∀ k, mixK ⟨a, b, c⟩ (k + 1) = mixS (mixK ⟨a, b, c⟩ k) (nth ⟨a, b, c⟩ k)) := Lib.hid (fun k => rfl)
  have HB := Lib.hid ((Below.refl w.heap.size w).alloc (Nat.le_refl _) (.cells #[.int .i64 a, .int .i64 b, .int .i64 c] 89))
  have HQ : Hid (((mixN ⟨a, b, c⟩ : Nat) : Int) = mixK ⟨a, b, c⟩ 3) := Lib.hid (by have := mixK_range ⟨a, b, c⟩ 3; unfold mixN; omega)
  go_enter Try.func102, Try.ntmps102
  go_wp2_with fail
  go_loop [3, 13] (fun s i => ∃ k : Nat, k ≤ 3 ∧ i = .int .i64 k ∧ s = .int .u64 (mixK ⟨a, b, c⟩ k)) (fun _ i => 3 - (RowKit.intOf i).toNat)
  case atStart => exact ⟨0, by omega, rfl, rfl⟩
  case round =>
    obtain ⟨k, hk, rfl, rfl⟩ := hrel
    have hr := HR.out k
    by_cases hlt : k < 3
    · have hi := HI.out k hlt
      have d1 : decide ((k : Int) < 3) = true := by simp; omega
      have hs := Lib.hid (HS.out k)
      generalize nth ⟨a, b, c⟩ k = x at *
      generalize mixK ⟨a, b, c⟩ k = h at *
      go_wp2_with fail
      go_round
      case rel => exact ⟨k + 1, by omega, by go_num, by rw [hs.out]; rfl⟩
      case measure => simp [RowKit.intOf]; omega
    · have d1 : decide ((k : Int) < 3) = false := by simp; omega
      have hk4 := Lib.hid (show k = 3 by omega)
      clear hk hlt
      go_wp2_with fail
      go_ret
      exact ⟨by rw [HQ.out, hk4.out]; rfl, HB.out⟩
def enc3 (x : Nd) : List Value := [.int .i64 x.v, .int .i64 x.lo, .int .i64 x.hi]
def encN (L : List Nd) : List Value := L.flatMap enc3
theorem encN_snoc (L : List Nd) (x : Nd) : encN (L ++ [x]) = encN L ++ enc3 x := by unfold encN; simp
theorem encN_get : ∀ (L : List Nd) (j c : Nat) (h : j < L.length), c < 3 → (encN L)[j * 3 + c]? = (enc3 L[j])[c]?
  | [], _, _, h, _ => absurd h (by simp)
  | u :: l, 0, c, _, hc => by
    show (enc3 u ++ encN l)[0 * 3 + c]? = _
    rw [List.getElem?_append_left (by show 0 * 3 + c < 3; omega)]
    simp
  | u :: l, j + 1, c, h, hc => by
    show (enc3 u ++ encN l)[(j + 1) * 3 + c]? = _
    rw [List.getElem?_append_right (by show 3 ≤ _; omega), show (j + 1) * 3 + c - (enc3 u).length = j * 3 + c by show _ - 3 = _; omega]
    exact encN_get l j c (by simpa using h) hc
/-- A table in memory; c of its nodes are in their places. -/
structure Tb (w : World) (B R : Nat) (v : Value) (m : Nat) (Q : Nat → Nat) (s : St) (c : Nat) : Prop where
  fb : w.heap[B]? = some (.cells #[.int .i64 s.vars, .int .i64 s.budget, .bool s.spent, v, .slice (some ⟨R, 0, none⟩) m m] 96 (0, 0))
  rb : ∃ C, w.heap[R]? = some (.cells C 3 (0, 0)) ∧ ∀ i, i < m → C[i]? = some (.int .i64 (Q i))
  own : w.ownsRow 0 89 3 v s.L.length (encN s.L)
  pls : Pls (hm m) m Q s.L c
  wf : WF s
  pow : ∃ k, k ≤ 18 ∧ m = 2 ^ k
  len : s.L.length ≤ 120000
  lm : s.L.length < m
  bud : s.budget ≤ 9223372036854775807
theorem Tb.drewN {w : World} {B R : Nat} {v : Value} {m : Nat} {Q : Nat → Nat} {s : St} {c : Nat} (H : Tb w B R v m Q s c) (q : Nat) : Tb (w.drewN q) B R v m Q s c := ⟨H.fb, H.rb, H.own, H.pls, H.wf, H.pow, H.len, H.lm, H.bud⟩
theorem Tb.bl {w : World} {B R : Nat} {v : Value} {m : Nat} {Q : Nat → Nat} {s : St} {c : Nat} (H : Tb w B R v m Q s c) : B < w.heap.size := (Array.getElem?_eq_some_iff.1 H.fb).1
theorem Tb.rl {w : World} {B R : Nat} {v : Value} {m : Nat} {Q : Nat → Nat} {s : St} {c : Nat} (H : Tb w B R v m Q s c) : R < w.heap.size := by
  obtain ⟨C, h, _⟩ := H.rb
  exact (Array.getElem?_eq_some_iff.1 h).1
def Foot (B R : Nat) (v : Value) (k : Nat) : Prop := k = B ∨ k = R ∨ v.ownBlock = some k
theorem Tb.foot {w : World} {B R : Nat} {v : Value} {m : Nat} {Q : Nat → Nat} {s : St} {c : Nat} (H : Tb w B R v m Q s c) {k : Nat} (hk : Foot B R v k) : k < w.heap.size := by
  rcases hk with rfl | rfl | h
  · exact H.bl
  · exact H.rl
  · exact (H.own.lt k h).2
theorem own_block {w w' : World} {b n k : Nat} {e : TypeId} {v : Value} {xs : List Value} (h : w.ownsRow b e k v n xs) (hk : ∀ g, v.ownBlock = some g → w'.heap[g]? = w.heap[g]?) : w'.ownsRow b e k v n xs := by
  refine ⟨h.1, ?_⟩
  rcases h.2 with hn | ⟨g, cap, cur, rfl, hb, hgg, rest⟩
  · exact .inl hn
  · exact .inr ⟨g, cap, cur, rfl, hb, (hk g rfl).trans hgg, rest⟩
theorem Tb.keep {w w' : World} {B R : Nat} {v : Value} {m : Nat} {Q : Nat → Nat} {s : St} {c : Nat} (H : Tb w B R v m Q s c) (h : ∀ k, Foot B R v k → w'.heap[k]? = w.heap[k]?) : Tb w' B R v m Q s c := by
  obtain ⟨C, h1, h2⟩ := H.rb
  exact ⟨(h B (Or.inl rfl)).trans H.fb, ⟨C, (h R (Or.inr (Or.inl rfl))).trans h1, h2⟩, own_block H.own (fun g hg => h g (Or.inr (Or.inr hg))), H.pls, H.wf, H.pow, H.len, H.lm, H.bud⟩
theorem Tb.below {w w' : World} {B R : Nat} {v : Value} {m : Nat} {Q : Nat → Nat} {s : St} {c : Nat} (H : Tb w B R v m Q s c) (hb : Below w.heap.size w w') : Tb w' B R v m Q s c := H.keep (fun k hk => hb.block k (H.foot hk))
theorem Tb.b0 {w : World} {B R : Nat} {v : Value} {m : Nat} {Q : Nat → Nat} {s : St} {c : Nat} (H : Tb w B R v m Q s c) : w.cell? ⟨B, 0, none⟩ = some (.int .i64 s.vars) ∧ w.cell? ⟨B, 1, none⟩ = some (.int .i64 s.budget) ∧ w.cell? ⟨B, 2, none⟩ = some (.bool s.spent) ∧ w.cell? ⟨B, 3, none⟩ = some v ∧ w.cell? ⟨B, 4, none⟩ = some (.slice (some ⟨R, 0, none⟩) m m) := by
  refine ⟨?_, ?_, ?_, ?_, ?_⟩ <;> (rw [Lib.cell_of_heap H.fb]; rfl)
/-- The nodes, where they are. -/
theorem Tb.nodes {w : World} {B R : Nat} {v : Value} {m : Nat} {Q : Nat → Nat} {s : St} {c : Nat} (H : Tb w B R v m Q s c) : ∃ A ca, v = .slice A s.L.length ca ∧ s.L.length ≤ ca ∧ ca ≤ maxLen ∧ (0 < s.L.length → ∃ g, A = some ⟨g, 0, none⟩ ∧ g < w.heap.size ∧ ∀ j, (h : j < s.L.length) → w.cell? ⟨g, j * 3, none⟩ = some (.int .i64 s.L[j].v) ∧ w.cell? ⟨g, j * 3 + 1, none⟩ = some (.int .i64 s.L[j].lo) ∧ w.cell? ⟨g, j * 3 + 2, none⟩ = some (.int .i64 s.L[j].hi)) := by
  have h0 := H.own
  rcases H.own.2 with ⟨rfl, hn⟩ | ⟨g, cap, cur, rfl, hb, hg, hle, hmx, _⟩
  · exact ⟨none, 0, by rw [hn], by omega, by simp [maxLen], fun hp => by omega⟩
  · refine ⟨_, cap, rfl, hle, hmx, fun hp => ⟨g, rfl, (Array.getElem?_eq_some_iff.1 hg).1, fun j hj => ?_⟩⟩
    have key : ∀ c, c < 3 → ∀ u, (enc3 s.L[j])[c]? = some u → w.cell? ⟨g, j * 3 + c, none⟩ = some u := fun c hc u hu => by
      have k := h0.cells (g := g) rfl (j * 3 + c) u (by rw [encN_get s.L j c hj hc]; exact hu)
      have e : ((⟨g, 0, none⟩ : Addr).add (j * 3 + c)) = ⟨g, j * 3 + c, none⟩ := by unfold Addr.add; split <;> simp_all
      rw [e] at k
      exact k
    exact ⟨key 0 (by omega) _ rfl, key 1 (by omega) _ rfl, key 2 (by omega) _ rfl⟩
section
variable {B R : Nat} {v : Value} {m : Nat} {Q : Nat → Nat} {s : St} {c : Nat} {w : World}
set_option maxRecDepth 100000 in
theorem len_ (H : Tb w B R v m Q s c) : Calls Try.prog 57 #[.pointer (some ⟨B, 0, none⟩)] w fun e w' => e = .returned (.int .i64 s.L.length) ∧ w = w' := by
  obtain ⟨A, ca, rfl, -, -, -⟩ := H.nodes
  have c3 := H.b0.2.2.2.1
  have hl := H.len
  clear H
  generalize s.L.length = n at *
  go_enter Try.func57, Try.ntmps57
  go_wp2
  go_ret
  exact ⟨rfl, rfl⟩
set_option maxRecDepth 100000 in
theorem vars_ (H : Tb w B R v m Q s c) : Calls Try.prog 69 #[.pointer (some ⟨B, 0, none⟩)] w fun e w' => e = .returned (.int .i64 s.vars) ∧ w = w' := by
  have c0 := H.b0.1
  clear H
  go_enter Try.func69, Try.ntmps69
  go_wp2
  go_ret
  exact ⟨rfl, rfl⟩
set_option maxRecDepth 100000 in
theorem spent_ (H : Tb w B R v m Q s c) : Calls Try.prog 89 #[.pointer (some ⟨B, 0, none⟩)] w fun e w' => e = .returned (.bool s.spent) ∧ w = w' := by
  have c0 := H.b0.2.2.1
  clear H
  go_enter Try.func89, Try.ntmps89
  go_wp2
  go_ret
  exact ⟨rfl, rfl⟩
set_option maxRecDepth 100000 in
theorem is_ (n : Int) (hn : -9223372036854775808 ≤ n) (hn2 : n ≤ 9223372036854775807) (H : Tb w B R v m Q s c) : Calls Try.prog 58 #[.pointer (some ⟨B, 0, none⟩), .int .i64 n] w fun e w' => e = .returned (.bool (isB s n)) ∧ w = w' := by
  have HL := Lib.hid (len_ H)
  have hl := H.len
  clear H
  unfold isB
  generalize s.L.length = k at *
  by_cases h0 : 0 ≤ n
  · have d0 : decide (0 ≤ n) = true := decide_eq_true h0
    go_enter Try.func58, Try.ntmps58
    go_wp2_with ((with_reducible refine HL.out.mono ?_); rintro e w' ⟨rfl, rfl⟩)
    go_ret
    exact ⟨by simp [h0], rfl⟩
  · have d0 : decide (0 ≤ n) = false := decide_eq_false h0
    go_enter Try.func58, Try.ntmps58
    go_wp2_with ((with_reducible refine HL.out.mono ?_); rintro e w' ⟨rfl, rfl⟩)
    go_ret
    exact ⟨by simp [h0], rfl⟩
end
end Go.Proofs.Ytnkkmppmfjekeaa.NdB
