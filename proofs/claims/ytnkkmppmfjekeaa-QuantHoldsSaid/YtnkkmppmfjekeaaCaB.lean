/- The cache: the place of a question, Get, Put, Clear, Hits, Size, by contract. -/
import Derived.Test.YtnkkmppmfjekeaaCaA
import Derived.Test.YtnkkmppmfjekeaaShelf
import Derived.Deep.RegionHeld3
namespace Go.Proofs.Ytnkkmppmfjekeaa.CaB
open Go.RowKit Go.Lib Go.Proofs Go.Proofs.Ytnkkmppmfjekeaa.CaA
set_option linter.unusedVariables false
set_option linter.unusedSimpArgs false
theorem bl_two : ∀ k : Fin 17, Lib.bitLen (2 ^ k.val - 1) = k.val := by decide +kernel
/-- Where the answer to a question may be, of 2 to k places. -/
def ix (k : Nat) (q : Qn) : Nat := mixQ q / 2 ^ (64 - k)
theorem ix_lt (k : Nat) (hk : k ≤ 16) (q : Qn) : ix k q < 2 ^ k := by
  unfold ix
  rw [Nat.div_lt_iff_lt_mul (Nat.two_pow_pos _), ← Nat.pow_add, show k + (64 - k) = 64 by omega]
  exact mixQ_lt q
theorem lz (k p : Nat) (hk : k ≤ 16) (hp : p = 2 ^ k) (w : World) : Calls Try.prog 100 #[.int .u64 ((p : Int) - 1)] w fun e w' => e = .returned (.int .i64 (64 - (k : Int))) ∧ w' = w := by
  have h1 := two_le hk
  have h := Try.bits_LeadingZeros64 ((p : Int) - 1) w (by omega) (by omega)
  have e : ((p : Int) - 1).toNat = 2 ^ k - 1 := by omega
  have hb := bl_two ⟨k, by omega⟩
  rw [e] at h
  rw [show Lib.bitLen (2 ^ k - 1) = k from hb] at h
  exact h
set_option maxRecDepth 100000 in
theorem at_ (B R k : Nat) (M : Nat → Pl) (h : Nat) (q : Qn) (w : World) (hk : k ≤ 16) (H : Ca w B R (2 ^ k) M h) : Calls Try.prog 90 #[.pointer (some ⟨B, 0, none⟩), .agg q.cells.toArray] w fun e w' => e = .returned (.pointer (some ⟨R, ix k q * 6, none⟩)) ∧ Below w.heap.size w w' := by
  have hi := ix_lt k hk q
  have hpp := two_le hk
  obtain ⟨p, hp⟩ : ∃ p, p = 2 ^ k := ⟨_, rfl⟩
  rw [← hp] at H hi hpp
  have HL := Lib.hid (fun w => lz k p hk hp w)
  have HM := Lib.hid (fun w => mixed q w)
  have hm := mixQ_lt q
  obtain ⟨s, hs⟩ : ∃ s : Nat, 64 - (k : Int) = s := ⟨64 - k, by omega⟩
  have hs64 : s ≤ 64 := by omega
  have hsh : ((mixQ q : Nat) : Int) / 2 ^ s = ((ix k q : Nat) : Int) := by
    unfold ix
    rw [show s = 64 - k by omega]
    simp
  have x0 : (0 : Int) ≤ ((ix k q : Nat) : Int) := by omega
  have x1 : ((ix k q : Nat) : Int) < p := by omega
  have x2 : 0 ≤ (64 - (k : Int)) := by omega
  simp only [hs] at HL
  clear hs x2
  obtain ⟨p1, p2⟩ := hpp
  obtain ⟨a, b, c, d⟩ := q
  have hb0 : ∀ w', Below w.heap.size w w' → w'.cell? ⟨B, 0, none⟩ = some (.slice (some ⟨R, 0, none⟩) p p) := fun w' hb => ((H.below hb).b0).1
  have HB0 := Lib.hid hb0
  have c0 := (H.below ((Below.refl w.heap.size w).alloc (Nat.le_refl _) (.cells #[.int .i64 a, .int .i64 b, .int .i64 c, .int .i64 d] 122))).b0.1
  have HB := Lib.hid ((Below.refl w.heap.size w).alloc (Nat.le_refl _) (.cells #[.int .i64 a, .int .i64 b, .int .i64 c, .int .i64 d] 122))
  clear H hb0 hp
  show Calls Try.prog 90 #[.pointer (some ⟨B, 0, none⟩), .agg #[.int .i64 a, .int .i64 b, .int .i64 c, .int .i64 d]] w _
  unfold Qn.cells at HM
  generalize mixQ ⟨a, b, c, d⟩ = m at *
  generalize ix k ⟨a, b, c, d⟩ = x at *
  go_enter Try.func90, Try.ntmps90
  go_wp2_with fail
  refine (HL.out _).mono ?_
  rintro e w1 ⟨rfl, rfl⟩
  go_wp2_with fail
  have hq0 : ∀ o, (w.alloc (.cells #[.int .i64 a, .int .i64 b, .int .i64 c, .int .i64 d] 122)).cell? ⟨w.heap.size, o, none⟩ = (#[.int .i64 a, .int .i64 b, .int .i64 c, .int .i64 d] : Array Value)[o]? := fun o => Lib.cell_of_heap (heap_alloc_new w _) o
  have hsz : w.heap.size < (w.alloc (.cells #[.int .i64 a, .int .i64 b, .int .i64 c, .int .i64 d] 122)).heap.size := by simp
  generalize w.alloc (.cells #[.int .i64 a, .int .i64 b, .int .i64 c, .int .i64 d] 122) = w1 at *
  obtain ⟨bq, hbq⟩ : ∃ bq, w.heap.size = bq := ⟨_, rfl⟩
  have HZ : Hid (∀ x, Below w1.heap.size w1 x → (Below w1.heap.size w1 x ∧ x.cell? ⟨B, 0, none⟩ = some (.slice (some ⟨R, 0, none⟩) p p) ∧ ∀ o, x.cell? ⟨bq, o, none⟩ = (#[.int .i64 a, .int .i64 b, .int .i64 c, .int .i64 d] : Array Value)[o]?)) := Lib.hid (fun x hb => ⟨hb, HB0.out x (HB.out.trans (hb.mono HB.out.size)), fun o => by rw [← hbq]; exact (hb.cell (p := ⟨w.heap.size, o, none⟩) hsz).trans (hq0 o)⟩)
  simp only [hbq] at hq0 hsz ⊢
  have hst := HZ.out _ ((Below.refl w1.heap.size w1).drew)
  clear hq0 hsz
  go_region_held3 (fun x => Below w1.heap.size w1 x ∧ x.cell? ⟨B, 0, none⟩ = some (.slice (some ⟨R, 0, none⟩) p p) ∧ ∀ o, x.cell? ⟨bq, o, none⟩ = (#[.int .i64 a, .int .i64 b, .int .i64 c, .int .i64 d] : Array Value)[o]?)
    (first | with_reducible exact hst | with_reducible assumption | exact HZ.out _ (Below.trans (by apply And.left; with_reducible assumption) (Below.mono (by with_reducible assumption) (Below.size (by apply And.left; with_reducible assumption)))))
    (((with_reducible refine (HM.out _).mono ?_); rintro e x1 ⟨rfl, hb1⟩))
  all_goals rename_i hHeld
  have HF := Lib.hid (HB.out.trans (hHeld.1.mono HB.out.size))
  clear hHeld
  go_wp2_with fail
  go_ret
  exact ⟨rfl, HF.out⟩
theorem neQ (a b c d a2 b2 c2 d2 : Int) (w : World) : (binOp .neq 122 (.agg #[.int .i64 a, .int .i64 b, .int .i64 c, .int .i64 d]) (.agg #[.int .i64 a2, .int .i64 b2, .int .i64 c2, .int .i64 d2])).run Try.prog w = .ok (.bool (!decide ((⟨a, b, c, d⟩ : Qn) = ⟨a2, b2, c2, d2⟩))) w := by
  simp only [go_sem, Qn.mk.injEq]
  go_simp
  by_cases e0 : a = a2
  rotate_left
  · simp [e0]
  subst e0
  by_cases e1 : b = b2
  rotate_left
  · simp [e1]
  subst e1
  by_cases e2 : c = c2
  rotate_left
  · simp [e2]
  subst e2
  by_cases e3 : d = d2
  rotate_left
  · simp [e3]
  subst e3
  simp
def GetPost (B R k : Nat) (M : Nat → Pl) (h : Nat) (q : Qn) (w : World) (e : Ending) (w' : World) : Prop :=
  if (M (ix k q)).kept = true ∧ (M (ix k q)).q = q then e = .returned (.tuple #[.int .i64 (M (ix k q)).ans, .bool true]) ∧ Ca w' B R (2 ^ k) M (h + 1) ∧ w.grownBy w' (some B) else e = .returned (.tuple #[.int .i64 0, .bool false]) ∧ Below w.heap.size w w'
end Go.Proofs.Ytnkkmppmfjekeaa.CaB
