/- Variables that go, as bits; what a restricting join answers; what is no node. -/
import Derived.Test.YtnkkmppmfjekeaaQuB
import Derived.Laws.Bits64b
namespace Go.Proofs.Ytnkkmppmfjekeaa.QuC
open Go.RowKit Go.Lib Go.Proofs Go.Proofs.Ytnkkmppmfjekeaa.CaA Go.Proofs.Ytnkkmppmfjekeaa.NdA Go.Proofs.Ytnkkmppmfjekeaa.NdB Go.Proofs.Ytnkkmppmfjekeaa.NdC Go.Proofs.Ytnkkmppmfjekeaa.NdE Go.Proofs.Ytnkkmppmfjekeaa.NdG Go.Proofs.Ytnkkmppmfjekeaa.NdI Go.Proofs.Ytnkkmppmfjekeaa.ItA Go.Proofs.Ytnkkmppmfjekeaa.ItB Go.Proofs.Ytnkkmppmfjekeaa.ItD Go.Proofs.Ytnkkmppmfjekeaa.ItH Go.Proofs.Ytnkkmppmfjekeaa.QuA Go.Proofs.Ytnkkmppmfjekeaa.QuB
set_option linter.unusedVariables false
set_option linter.unusedSimpArgs false
/-- A row of numbers, wherever it begins. -/
def RowJ (w : World) (A : Option Addr) (l : List Int) : Prop := 0 < l.length → ∃ b o, A = some ⟨b, o, none⟩ ∧ b < w.heap.size ∧ ∀ j, (h : j < l.length) → w.cell? ⟨b, o + j, none⟩ = some (.int .i64 l[j])
theorem RowJ.below {w w' : World} {A : Option Addr} {l : List Int} (h : RowJ w A l) (hb : Below w.heap.size w w') : RowJ w' A l := fun h0 => by
  obtain ⟨b, o, e, hl, hc⟩ := h h0
  exact ⟨b, o, e, Nat.lt_of_lt_of_le hl hb.size, fun j hj => (hb.cell (p := ⟨b, o + j, none⟩) hl).trans (hc j hj)⟩
def goneS (K : Nat) (g : Nat) (v : Int) : Nat := if 0 ≤ v ∧ v < K then g ||| 2 ^ v.toNat else g
/-- The bits of the variables that go, of K. -/
def gone (l : List Int) (K : Nat) : Nat := l.foldl (goneS K) 0
theorem gone_succ {l : List Int} {K k : Nat} (h : k < l.length) : gone (l.take (k + 1)) K = goneS K (gone (l.take k) K) l[k] := by
  unfold gone
  rw [List.take_succ_eq_append_getElem h, List.foldl_append]
  rfl
theorem goneS_lt {K g : Nat} {v : Int} (h : g < 2 ^ K) : goneS K g v < 2 ^ K := by
  unfold goneS
  split
  · rename_i hv
    exact Nat.or_lt_two_pow h (Nat.pow_lt_pow_right (by omega) (by omega))
  · exact h
theorem gone_lt' (K : Nat) : ∀ (l : List Int) (g : Nat), g < 2 ^ K → l.foldl (goneS K) g < 2 ^ K
  | [], g, h => h
  | v :: l, g, h => gone_lt' K l _ (goneS_lt h)
theorem gone_lt (l : List Int) (K : Nat) : gone l K < 2 ^ K := gone_lt' K l 0 (Nat.two_pow_pos K)
theorem goneS_bit {K g i : Nat} {v : Int} : (goneS K g v).testBit i = (g.testBit i || decide (v = (i : Int) ∧ i < K)) := by
  unfold goneS
  by_cases hv : 0 ≤ v ∧ v < K
  · rw [if_pos hv, Nat.testBit_or, Nat.testBit_two_pow]
    congr 1
    rw [decide_eq_decide]
    omega
  · rw [if_neg hv, decide_eq_false (by omega), Bool.or_false]
theorem gone_bit' (K i : Nat) : ∀ (l : List Int) (g : Nat), (l.foldl (goneS K) g).testBit i = (g.testBit i || l.any fun v => decide (v = (i : Int) ∧ i < K))
  | [], g => by simp
  | v :: l, g => by
    rw [List.foldl_cons, gone_bit' K i l, goneS_bit, List.any_cons, Bool.or_assoc]
theorem gone_bit (l : List Int) (K i : Nat) : (gone l K).testBit i = l.any fun v => decide (v = (i : Int) ∧ i < K) := by
  unfold gone
  rw [gone_bit']
  simp
theorem pow61 {K : Nat} (h : K ≤ 61) : 2 ^ K ≤ 2305843009213693952 := by
  have := Nat.pow_le_pow_right (n := 2) (by omega) h
  omega
set_option maxHeartbeats 2000000 in
set_option maxRecDepth 100000 in
theorem among_ (A : Option Addr) (ca : Nat) (l : List Int) (K : Nat) (w : World) (hK : K ≤ 61) (hl : l.length ≤ 1000000) (hA : RowJ w A l) : Calls Try.prog 67 #[.slice A l.length ca, .int .i64 K] w fun e w' => e = .returned (.int .u64 (gone l K)) ∧ w = w' := by
  go_enter Try.func67, Try.ntmps67
  go_wp2_with fail
  go_loop [5, 10] (fun g i => ∃ k : Nat, k ≤ l.length ∧ i = .int .i64 k ∧ g = .int .u64 (gone (l.take k) K)) (fun _ i => l.length - (intOf i).toNat)
  case atStart => exact ⟨0, by omega, rfl, rfl⟩
  case round =>
    obtain ⟨k, hk, rfl, rfl⟩ := hrel
    by_cases hlt : k < l.length
    · have e1 : decide ((k : Int) < l.length) = true := by simp; omega
      obtain ⟨b, o, rfl, hb, hcc⟩ := hA (by omega)
      have a0 := hcc k hlt
      have q0 : (0 : Int) ≤ k := by omega
      have q1 : (k : Int) < l.length := by omega
      have hw : IntKind.i64.wrap ((k : Int) + 1) = (k : Int) + 1 := by rw [IntKind.wrap_i64]; omega
      have hg := gone_lt (l.take k) K
      have hp := pow61 hK
      have hs := gone_succ (K := K) hlt
      generalize l[k] = v at *
      generalize gone (l.take k) K = g at *
      unfold goneS at hs
      clear hA hcc
      by_cases h0 : 0 ≤ v
      · have f0 : decide ((0 : Int) ≤ v) = true := decide_eq_true h0
        by_cases h1 : v < K
        · have f1 : decide (v < (K : Int)) = true := decide_eq_true h1
          rw [if_pos ⟨h0, h1⟩] at hs
          obtain ⟨n, rfl⟩ : ∃ n : Nat, v = n := ⟨v.toNat, by omega⟩
          rw [Int.toNat_natCast] at hs
          have hn : 2 ^ n ≤ 2 ^ K := Nat.pow_le_pow_right (by omega) (by omega)
          have h64 : (n : Int) ≤ 64 := by omega
          have hpw : (2 : Int) ^ n = ((2 ^ n : Nat) : Int) := by simp
          have hwr : IntKind.u64.wrap ((2 : Int) ^ n) = ((2 ^ n : Nat) : Int) := by
            rw [hpw]
            exact (show ∀ P : Nat, P ≤ 2305843009213693952 → IntKind.u64.wrap (P : Int) = (P : Int) from fun P h => by rw [IntKind.wrap_u64]; omega) _ (Nat.le_trans hn hp)
          have hor : bits .or .u64 (g : Int) (IntKind.u64.wrap ((2 : Int) ^ n)) = ((g ||| 2 ^ n : Nat) : Int) := by
            rw [hwr]
            exact bits_or_u64_nat g (2 ^ n) (by omega) (by omega)
          rw [← hs] at hor
          clear hpw hwr
          clear hs hg hn
          go_wp2_with fail
          go_round
          case rel => exact ⟨k + 1, by omega, by go_num, by first | rfl | rw [hor]⟩
          case measure => simp [intOf]; omega
        · have f1 : decide (v < (K : Int)) = false := decide_eq_false h1
          rw [if_neg (fun h => h1 h.2)] at hs
          clear hg
          rw [← hs]
          go_wp2_with fail
          go_round
          case rel => exact ⟨k + 1, by omega, by go_num, rfl⟩
          case measure => simp [intOf]; omega
      · have f0 : decide ((0 : Int) ≤ v) = false := decide_eq_false h0
        rw [if_neg (fun h => h0 h.1)] at hs
        clear hg
        rw [← hs]
        go_wp2_with fail
        go_round
        case rel => exact ⟨k + 1, by omega, by go_num, rfl⟩
        case measure => simp [intOf]; omega
    · have e1 : decide ((k : Int) < l.length) = false := by simp; omega
      have hkl : k = l.length := by omega
      rw [List.take_of_length_le (by omega)]
      clear hA
      go_wp2_with fail
      go_ret
      exact ⟨rfl, rfl⟩
set_option maxRecDepth 100000 in
theorem pick_ (g bx : Nat) (lo hi : Int) (so : Bool) (w : World) (h0 : w.cell? ⟨g, 0, none⟩ = some (.int .i64 lo)) (h1 : w.cell? ⟨g, 1, none⟩ = some (.int .i64 hi)) (hx : w.cell? ⟨bx, 0, none⟩ = some (.bool so)) : Calls Try.prog 51 #[.slice (some ⟨g, 0, none⟩) 2 2, .pointer (some ⟨bx, 0, none⟩)] w fun e w' => e = .returned (.int .i64 (if so then hi else lo)) ∧ w = w' := by
  cases so <;>
  · go_enter Try.func51, Try.ntmps51
    go_wp2_with fail
    go_ret
    exact ⟨rfl, rfl⟩
section
variable {D : Nat} {x : Bx} {c : Nat} {s : St} {N : Nat} {w : World}
set_option maxHeartbeats 2000000 in
set_option maxRecDepth 100000 in
theorem made_no (f : Int) (hn : -9223372036854775808 ≤ f) (hn2 : f ≤ 9223372036854775807) (H : Bd w D x c s N) (hy : nodeB s f = false) : Calls Try.prog 61 #[.pointer (some ⟨D, 0, none⟩), .int .i64 f] w fun e w' => e = .returned (.tuple #[.agg #[.int .i64 0, .int .i64 0, .int .i64 0], .bool false]) ∧ Below w.heap.size w w' := by
  have hb := (Below.refl w.heap.size w).alloc (Nat.le_refl _) (.cells #[.int .i64 0, .int .i64 0, .int .i64 0] 89)
  have HT := Lib.hid (fun w' (hb : Below w.heap.size w w') => table_ (H.below hb))
  have HG := Lib.hid (fun w' (hb : Below w.heap.size w w') => get_no f hn hn2 (H.below hb).tk.tb hy)
  have HB := Lib.hid hb
  clear H hb hy
  have h0 := heap_alloc_new w (.cells #[.int .i64 0, .int .i64 0, .int .i64 0] 89)
  have hsz : (w.alloc (.cells #[.int .i64 0, .int .i64 0, .int .i64 0] 89)).heap.size = w.heap.size + 1 := by simp
  go_enter Try.func61, Try.ntmps61
  go_wp2_with fail
  generalize w.alloc (.cells #[.int .i64 0, .int .i64 0, .int .i64 0] 89) = wa at *
  refine (HT.out _ HB.out).mono ?_
  rintro e w1 ⟨rfl, rfl⟩
  go_wp2_with fail
  refine (HG.out _ HB.out).mono ?_
  rintro e w1 ⟨rfl, hb1⟩
  have c0 := fun o => (hb1.cell (p := ⟨w.heap.size, o, none⟩) (by show w.heap.size < wa.heap.size; omega)).trans (Lib.cell_of_heap h0 o)
  have HFr : w1.frozen? ⟨w.heap.size, 0, none⟩ = false ∧ w1.frozen? ⟨w.heap.size, 1, none⟩ = false ∧ w1.frozen? ⟨w.heap.size, 2, none⟩ = false := by
    have e : w1.heap[w.heap.size]? = wa.heap[w.heap.size]? := hb1.block _ (by omega)
    refine ⟨?_, ?_, ?_⟩ <;> (unfold World.frozen?; rw [e, h0]; rfl)
  obtain ⟨fr0, fr1, fr2⟩ := HFr
  have HB1 := Lib.hid (HB.out.trans (hb1.mono HB.out.size))
  have HE : Hid (∀ (a b d : Value), Below w.heap.size w (((w1.setCell ⟨w.heap.size, 0, none⟩ a).setCell ⟨w.heap.size, 1, none⟩ b).setCell ⟨w.heap.size, 2, none⟩ d)) := Lib.hid (fun a b d => by
    have k0 : ∀ (y : World) (o : Nat) (u : Value), Below w.heap.size w y → Below w.heap.size w (y.setCell ⟨w.heap.size, o, none⟩ u) := fun y o u h => h.setCell (p := ⟨w.heap.size, o, none⟩) (Nat.le_refl _) u
    exact k0 _ _ _ (k0 _ _ _ (k0 _ _ _ HB1.out)))
  have HC := Lib.hid (show ∀ (a b d : Value), ((((w1.setCell ⟨w.heap.size, 0, none⟩ a).setCell ⟨w.heap.size, 1, none⟩ b).setCell ⟨w.heap.size, 2, none⟩ d)).heap[w.heap.size]? = some (.cells #[a, b, d] 89 (0, 0)) from fun a b d => by
    have e : w1.heap[w.heap.size]? = some (.cells #[.int .i64 0, .int .i64 0, .int .i64 0] 89 (0, 0)) := (hb1.block _ (by omega)).trans h0
    exact set3 w1 w.heap.size _ _ _ _ a b d e)
  clear hb1 h0 hsz
  go_wp2_with fail
  have hl := fun o => Lib.cell_of_heap (HC.out (.int .i64 0) (.int .i64 0) (.int .i64 0)) o
  refine bodyPost_ret (v := .tuple #[.agg #[.int .i64 0, .int .i64 0, .int .i64 0], .bool false]) (by simp [results, Try.results61, go_sem, hl]) rfl ⟨rfl, HE.out _ _ _⟩
end
end Go.Proofs.Ytnkkmppmfjekeaa.QuC
