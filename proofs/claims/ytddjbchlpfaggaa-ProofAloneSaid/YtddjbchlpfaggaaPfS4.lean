/- The document's Needed, by contract. -/
import Derived.Test.YtddjbchlpfaggaaPfS3
namespace Go.Proofs.Ytddjbchlpfaggaa.PfS4
open Go.RowKit Go.Lib Go.Proofs Go.Maps Go.Proofs.Ytddjbchlpfaggaa.TblB Go.Proofs.Ytddjbchlpfaggaa.TblC Go.Proofs.Ytddjbchlpfaggaa.TblV Go.Proofs.Ytddjbchlpfaggaa.TblP Go.Proofs.Ytddjbchlpfaggaa.TblQ Go.Proofs.Ytddjbchlpfaggaa.SemB Go.Proofs.Ytddjbchlpfaggaa.PfM Go.Proofs.Ytddjbchlpfaggaa.PfN Go.Proofs.Ytddjbchlpfaggaa.PfO Go.Proofs.Ytddjbchlpfaggaa.PfB Go.Proofs.Ytddjbchlpfaggaa.PfE Go.Proofs.Ytddjbchlpfaggaa.PfJ Go.Proofs.Ytddjbchlpfaggaa.PfL Go.Proofs.Ytddjbchlpfaggaa.PfS1
set_option linter.unusedVariables false
set_option linter.unusedSimpArgs false
set_option maxHeartbeats 2000000 in
set_option maxRecDepth 100000 in
theorem need1 (K : Nat) (A : Option Addr) (ca : Nat) (L : List Ru) (j : Nat) (s1 x m r y : Int) (hj : j < L.length) (u1 u2 u3 u4 u5 : Int) (hu : L[j] = ⟨1, u1, u2, u3, u4, u5⟩) (w : World) (g2 : K ≤ 6) (hL : L.length ≤ 60) (hA : UG w A L) :
    Calls Try.prog 16 #[.int .i64 K, .slice A L.length ca, .agg #[.int .i64 j, .int .i64 s1, .int .i64 x, .int .i64 m], .int .i64 r, .int .i64 y] w fun e w' => e = .returned (.bool false) ∧ Below w.heap.size w w' := by
  have q0 : (0 : Int) ≤ j := by omega
  have q1 : (j : Int) < L.length := by omega
  obtain ⟨g, o, rfl, hg, hc⟩ := hA (by omega)
  have HC := fun w' (hb : Below w.heap.size w w') (k : Nat) (hk : k < 6) => (hb.cell (p := ⟨g, o + j * 6 + k, none⟩) hg).trans (hc j hj k hk)
  rw [hu] at HC
  unfold Ru.cells at HC
  simp only at HC
  have hb0 : Below w.heap.size w ((w.alloc (.cells #[.int .i64 j, .int .i64 s1, .int .i64 x, .int .i64 m] 30)).alloc (.cells #[.int .i64 1, .int .i64 u1, .int .i64 u2, .int .i64 u3, .int .i64 u4, .int .i64 u5] 44)) := ((Below.refl _ _).alloc (Nat.le_refl _) _).alloc (by rw [World.size_alloc]; omega) _
  have HB := Lib.hid hb0
  have hd1 := heap_alloc2_old w (.cells #[.int .i64 j, .int .i64 s1, .int .i64 x, .int .i64 m] 30) (.cells #[.int .i64 1, .int .i64 u1, .int .i64 u2, .int .i64 u3, .int .i64 u4, .int .i64 u5] 44)
  have hd2 := heap_alloc2_new w (.cells #[.int .i64 j, .int .i64 s1, .int .i64 x, .int .i64 m] 30) (.cells #[.int .i64 1, .int .i64 u1, .int .i64 u2, .int .i64 u3, .int .i64 u4, .int .i64 u5] 44)
  have c1 := fun o => Lib.cell_of_heap hd1 o
  have c2 := fun o => Lib.cell_of_heap hd2 o
  have hba : Below w.heap.size w (w.alloc (.cells #[.int .i64 j, .int .i64 s1, .int .i64 x, .int .i64 m] 30)) := (Below.refl _ _).alloc (Nat.le_refl _) _
  have k0 : (w.alloc (.cells #[.int .i64 j, .int .i64 s1, .int .i64 x, .int .i64 m] 30)).cell? ⟨g, o + j * 6, none⟩ = some (.int .i64 1) := HC _ hba 0 (by omega)
  have k1 : (w.alloc (.cells #[.int .i64 j, .int .i64 s1, .int .i64 x, .int .i64 m] 30)).cell? ⟨g, o + j * 6 + 1, none⟩ = some (.int .i64 u1) := HC _ hba 1 (by omega)
  have k2 : (w.alloc (.cells #[.int .i64 j, .int .i64 s1, .int .i64 x, .int .i64 m] 30)).cell? ⟨g, o + j * 6 + 2, none⟩ = some (.int .i64 u2) := HC _ hba 2 (by omega)
  have k3 : (w.alloc (.cells #[.int .i64 j, .int .i64 s1, .int .i64 x, .int .i64 m] 30)).cell? ⟨g, o + j * 6 + 3, none⟩ = some (.int .i64 u3) := HC _ hba 3 (by omega)
  have k4 : (w.alloc (.cells #[.int .i64 j, .int .i64 s1, .int .i64 x, .int .i64 m] 30)).cell? ⟨g, o + j * 6 + 4, none⟩ = some (.int .i64 u4) := HC _ hba 4 (by omega)
  have k5 : (w.alloc (.cells #[.int .i64 j, .int .i64 s1, .int .i64 x, .int .i64 m] 30)).cell? ⟨g, o + j * 6 + 5, none⟩ = some (.int .i64 u5) := HC _ hba 5 (by omega)
  clear hA hc hu HC hb0 hba hd1 hd2
  all_goals
    go_enter Try.func16, Try.ntmps16
    go_wp2_with fail
    go_ret
    exact ⟨rfl, HB.out⟩
set_option maxHeartbeats 2000000 in
set_option maxRecDepth 100000 in
theorem need2 (K : Nat) (A : Option Addr) (ca : Nat) (L : List Ru) (j : Nat) (s1 x m r y : Int) (hj : j < L.length) (u1 u2 u3 u4 u5 : Int) (hu : L[j] = ⟨2, u1, u2, u3, u4, u5⟩) (w : World) (g2 : K ≤ 6) (hL : L.length ≤ 60) (hA : UG w A L) :
    Calls Try.prog 16 #[.int .i64 K, .slice A L.length ca, .agg #[.int .i64 j, .int .i64 s1, .int .i64 x, .int .i64 m], .int .i64 r, .int .i64 y] w fun e w' => e = .returned (.bool ((u3 == r) && (x == y))) ∧ Below w.heap.size w w' := by
  have q0 : (0 : Int) ≤ j := by omega
  have q1 : (j : Int) < L.length := by omega
  obtain ⟨g, o, rfl, hg, hc⟩ := hA (by omega)
  have HC := fun w' (hb : Below w.heap.size w w') (k : Nat) (hk : k < 6) => (hb.cell (p := ⟨g, o + j * 6 + k, none⟩) hg).trans (hc j hj k hk)
  rw [hu] at HC
  unfold Ru.cells at HC
  simp only at HC
  have hb0 : Below w.heap.size w ((w.alloc (.cells #[.int .i64 j, .int .i64 s1, .int .i64 x, .int .i64 m] 30)).alloc (.cells #[.int .i64 2, .int .i64 u1, .int .i64 u2, .int .i64 u3, .int .i64 u4, .int .i64 u5] 44)) := ((Below.refl _ _).alloc (Nat.le_refl _) _).alloc (by rw [World.size_alloc]; omega) _
  have HB := Lib.hid hb0
  have hd1 := heap_alloc2_old w (.cells #[.int .i64 j, .int .i64 s1, .int .i64 x, .int .i64 m] 30) (.cells #[.int .i64 2, .int .i64 u1, .int .i64 u2, .int .i64 u3, .int .i64 u4, .int .i64 u5] 44)
  have hd2 := heap_alloc2_new w (.cells #[.int .i64 j, .int .i64 s1, .int .i64 x, .int .i64 m] 30) (.cells #[.int .i64 2, .int .i64 u1, .int .i64 u2, .int .i64 u3, .int .i64 u4, .int .i64 u5] 44)
  have c1 := fun o => Lib.cell_of_heap hd1 o
  have c2 := fun o => Lib.cell_of_heap hd2 o
  have hba : Below w.heap.size w (w.alloc (.cells #[.int .i64 j, .int .i64 s1, .int .i64 x, .int .i64 m] 30)) := (Below.refl _ _).alloc (Nat.le_refl _) _
  have k0 : (w.alloc (.cells #[.int .i64 j, .int .i64 s1, .int .i64 x, .int .i64 m] 30)).cell? ⟨g, o + j * 6, none⟩ = some (.int .i64 2) := HC _ hba 0 (by omega)
  have k1 : (w.alloc (.cells #[.int .i64 j, .int .i64 s1, .int .i64 x, .int .i64 m] 30)).cell? ⟨g, o + j * 6 + 1, none⟩ = some (.int .i64 u1) := HC _ hba 1 (by omega)
  have k2 : (w.alloc (.cells #[.int .i64 j, .int .i64 s1, .int .i64 x, .int .i64 m] 30)).cell? ⟨g, o + j * 6 + 2, none⟩ = some (.int .i64 u2) := HC _ hba 2 (by omega)
  have k3 : (w.alloc (.cells #[.int .i64 j, .int .i64 s1, .int .i64 x, .int .i64 m] 30)).cell? ⟨g, o + j * 6 + 3, none⟩ = some (.int .i64 u3) := HC _ hba 3 (by omega)
  have k4 : (w.alloc (.cells #[.int .i64 j, .int .i64 s1, .int .i64 x, .int .i64 m] 30)).cell? ⟨g, o + j * 6 + 4, none⟩ = some (.int .i64 u4) := HC _ hba 4 (by omega)
  have k5 : (w.alloc (.cells #[.int .i64 j, .int .i64 s1, .int .i64 x, .int .i64 m] 30)).cell? ⟨g, o + j * 6 + 5, none⟩ = some (.int .i64 u5) := HC _ hba 5 (by omega)
  clear hA hc hu HC hb0 hba hd1 hd2
  obtain ⟨b1, d1⟩ : ∃ b, (u3 == r) = b := ⟨_, rfl⟩
  rw [d1]
  obtain ⟨b2, d2⟩ : ∃ b, (x == y) = b := ⟨_, rfl⟩
  rw [d2]
  cases b1 <;> cases b2
  all_goals
    go_enter Try.func16, Try.ntmps16
    go_wp2_with fail
    go_ret
    exact ⟨rfl, HB.out⟩
set_option maxHeartbeats 2000000 in
set_option maxRecDepth 100000 in
theorem need3 (K : Nat) (A : Option Addr) (ca : Nat) (L : List Ru) (j : Nat) (s1 x m r y : Int) (hj : j < L.length) (u1 u2 u3 u4 u5 : Int) (hu : L[j] = ⟨3, u1, u2, u3, u4, u5⟩) (w : World) (g2 : K ≤ 6) (hL : L.length ≤ 60) (hA : UG w A L) (m0 : 0 ≤ m ∧ m < 10) (b5 : 0 ≤ u5 ∧ u5 < K) :
    Calls Try.prog 16 #[.int .i64 K, .slice A L.length ca, .agg #[.int .i64 j, .int .i64 s1, .int .i64 x, .int .i64 m], .int .i64 r, .int .i64 y] w fun e w' => e = .returned (.bool (((u3 == r) && (m == y)) || ((m * K + u5 == r) && (x == y)))) ∧ Below w.heap.size w w' := by
  have q0 : (0 : Int) ≤ j := by omega
  have q1 : (j : Int) < L.length := by omega
  obtain ⟨g, o, rfl, hg, hc⟩ := hA (by omega)
  have HC := fun w' (hb : Below w.heap.size w w') (k : Nat) (hk : k < 6) => (hb.cell (p := ⟨g, o + j * 6 + k, none⟩) hg).trans (hc j hj k hk)
  rw [hu] at HC
  unfold Ru.cells at HC
  simp only at HC
  have b6 : 0 ≤ m * K ∧ m * K ≤ 60 := by
    obtain ⟨m', rfl⟩ : ∃ n : Nat, m = n := ⟨m.toNat, by omega⟩
    have : m' * K ≤ 10 * 6 := Nat.mul_le_mul (by omega) g2
    constructor
    · exact_mod_cast Nat.zero_le _
    · exact_mod_cast this
  have v1 : IntKind.i64.wrap (m * K) = m * K := by rw [IntKind.wrap_i64]; omega
  have v2 : IntKind.i64.wrap (m * K + u5) = m * K + u5 := by rw [IntKind.wrap_i64]; omega
  have hb0 : Below w.heap.size w ((w.alloc (.cells #[.int .i64 j, .int .i64 s1, .int .i64 x, .int .i64 m] 30)).alloc (.cells #[.int .i64 3, .int .i64 u1, .int .i64 u2, .int .i64 u3, .int .i64 u4, .int .i64 u5] 44)) := ((Below.refl _ _).alloc (Nat.le_refl _) _).alloc (by rw [World.size_alloc]; omega) _
  have HB := Lib.hid hb0
  have hd1 := heap_alloc2_old w (.cells #[.int .i64 j, .int .i64 s1, .int .i64 x, .int .i64 m] 30) (.cells #[.int .i64 3, .int .i64 u1, .int .i64 u2, .int .i64 u3, .int .i64 u4, .int .i64 u5] 44)
  have hd2 := heap_alloc2_new w (.cells #[.int .i64 j, .int .i64 s1, .int .i64 x, .int .i64 m] 30) (.cells #[.int .i64 3, .int .i64 u1, .int .i64 u2, .int .i64 u3, .int .i64 u4, .int .i64 u5] 44)
  have c1 := fun o => Lib.cell_of_heap hd1 o
  have c2 := fun o => Lib.cell_of_heap hd2 o
  have hba : Below w.heap.size w (w.alloc (.cells #[.int .i64 j, .int .i64 s1, .int .i64 x, .int .i64 m] 30)) := (Below.refl _ _).alloc (Nat.le_refl _) _
  have k0 : (w.alloc (.cells #[.int .i64 j, .int .i64 s1, .int .i64 x, .int .i64 m] 30)).cell? ⟨g, o + j * 6, none⟩ = some (.int .i64 3) := HC _ hba 0 (by omega)
  have k1 : (w.alloc (.cells #[.int .i64 j, .int .i64 s1, .int .i64 x, .int .i64 m] 30)).cell? ⟨g, o + j * 6 + 1, none⟩ = some (.int .i64 u1) := HC _ hba 1 (by omega)
  have k2 : (w.alloc (.cells #[.int .i64 j, .int .i64 s1, .int .i64 x, .int .i64 m] 30)).cell? ⟨g, o + j * 6 + 2, none⟩ = some (.int .i64 u2) := HC _ hba 2 (by omega)
  have k3 : (w.alloc (.cells #[.int .i64 j, .int .i64 s1, .int .i64 x, .int .i64 m] 30)).cell? ⟨g, o + j * 6 + 3, none⟩ = some (.int .i64 u3) := HC _ hba 3 (by omega)
  have k4 : (w.alloc (.cells #[.int .i64 j, .int .i64 s1, .int .i64 x, .int .i64 m] 30)).cell? ⟨g, o + j * 6 + 4, none⟩ = some (.int .i64 u4) := HC _ hba 4 (by omega)
  have k5 : (w.alloc (.cells #[.int .i64 j, .int .i64 s1, .int .i64 x, .int .i64 m] 30)).cell? ⟨g, o + j * 6 + 5, none⟩ = some (.int .i64 u5) := HC _ hba 5 (by omega)
  clear hA hc hu HC hb0 hba hd1 hd2
  obtain ⟨b1, d1⟩ : ∃ b, (u3 == r) = b := ⟨_, rfl⟩
  rw [d1]
  obtain ⟨b2, d2⟩ : ∃ b, (m == y) = b := ⟨_, rfl⟩
  rw [d2]
  obtain ⟨b3, d3⟩ : ∃ b, (m * K + u5 == r) = b := ⟨_, rfl⟩
  rw [d3]
  obtain ⟨b4, d4⟩ : ∃ b, (x == y) = b := ⟨_, rfl⟩
  rw [d4]
  cases b1 <;> cases b2 <;> cases b3 <;> cases b4
  all_goals
    go_enter Try.func16, Try.ntmps16
    go_wp2_with fail
    go_ret
    exact ⟨rfl, HB.out⟩
set_option maxHeartbeats 2000000 in
set_option maxRecDepth 100000 in
theorem need4 (K : Nat) (A : Option Addr) (ca : Nat) (L : List Ru) (j : Nat) (s1 x m r y : Int) (hj : j < L.length) (u1 u2 u3 u4 u5 : Int) (hu : L[j] = ⟨4, u1, u2, u3, u4, u5⟩) (w : World) (g2 : K ≤ 6) (hL : L.length ≤ 60) (hA : UG w A L) :
    Calls Try.prog 16 #[.int .i64 K, .slice A L.length ca, .agg #[.int .i64 j, .int .i64 s1, .int .i64 x, .int .i64 m], .int .i64 r, .int .i64 y] w fun e w' => e = .returned (.bool ((x == y) && ((u3 == r) || (u4 == r)))) ∧ Below w.heap.size w w' := by
  have q0 : (0 : Int) ≤ j := by omega
  have q1 : (j : Int) < L.length := by omega
  obtain ⟨g, o, rfl, hg, hc⟩ := hA (by omega)
  have HC := fun w' (hb : Below w.heap.size w w') (k : Nat) (hk : k < 6) => (hb.cell (p := ⟨g, o + j * 6 + k, none⟩) hg).trans (hc j hj k hk)
  rw [hu] at HC
  unfold Ru.cells at HC
  simp only at HC
  have hb0 : Below w.heap.size w ((w.alloc (.cells #[.int .i64 j, .int .i64 s1, .int .i64 x, .int .i64 m] 30)).alloc (.cells #[.int .i64 4, .int .i64 u1, .int .i64 u2, .int .i64 u3, .int .i64 u4, .int .i64 u5] 44)) := ((Below.refl _ _).alloc (Nat.le_refl _) _).alloc (by rw [World.size_alloc]; omega) _
  have HB := Lib.hid hb0
  have hd1 := heap_alloc2_old w (.cells #[.int .i64 j, .int .i64 s1, .int .i64 x, .int .i64 m] 30) (.cells #[.int .i64 4, .int .i64 u1, .int .i64 u2, .int .i64 u3, .int .i64 u4, .int .i64 u5] 44)
  have hd2 := heap_alloc2_new w (.cells #[.int .i64 j, .int .i64 s1, .int .i64 x, .int .i64 m] 30) (.cells #[.int .i64 4, .int .i64 u1, .int .i64 u2, .int .i64 u3, .int .i64 u4, .int .i64 u5] 44)
  have c1 := fun o => Lib.cell_of_heap hd1 o
  have c2 := fun o => Lib.cell_of_heap hd2 o
  have hba : Below w.heap.size w (w.alloc (.cells #[.int .i64 j, .int .i64 s1, .int .i64 x, .int .i64 m] 30)) := (Below.refl _ _).alloc (Nat.le_refl _) _
  have k0 : (w.alloc (.cells #[.int .i64 j, .int .i64 s1, .int .i64 x, .int .i64 m] 30)).cell? ⟨g, o + j * 6, none⟩ = some (.int .i64 4) := HC _ hba 0 (by omega)
  have k1 : (w.alloc (.cells #[.int .i64 j, .int .i64 s1, .int .i64 x, .int .i64 m] 30)).cell? ⟨g, o + j * 6 + 1, none⟩ = some (.int .i64 u1) := HC _ hba 1 (by omega)
  have k2 : (w.alloc (.cells #[.int .i64 j, .int .i64 s1, .int .i64 x, .int .i64 m] 30)).cell? ⟨g, o + j * 6 + 2, none⟩ = some (.int .i64 u2) := HC _ hba 2 (by omega)
  have k3 : (w.alloc (.cells #[.int .i64 j, .int .i64 s1, .int .i64 x, .int .i64 m] 30)).cell? ⟨g, o + j * 6 + 3, none⟩ = some (.int .i64 u3) := HC _ hba 3 (by omega)
  have k4 : (w.alloc (.cells #[.int .i64 j, .int .i64 s1, .int .i64 x, .int .i64 m] 30)).cell? ⟨g, o + j * 6 + 4, none⟩ = some (.int .i64 u4) := HC _ hba 4 (by omega)
  have k5 : (w.alloc (.cells #[.int .i64 j, .int .i64 s1, .int .i64 x, .int .i64 m] 30)).cell? ⟨g, o + j * 6 + 5, none⟩ = some (.int .i64 u5) := HC _ hba 5 (by omega)
  clear hA hc hu HC hb0 hba hd1 hd2
  obtain ⟨b1, d1⟩ : ∃ b, (x == y) = b := ⟨_, rfl⟩
  rw [d1]
  obtain ⟨b2, d2⟩ : ∃ b, (u3 == r) = b := ⟨_, rfl⟩
  rw [d2]
  obtain ⟨b3, d3⟩ : ∃ b, (u4 == r) = b := ⟨_, rfl⟩
  rw [d3]
  cases b1 <;> cases b2 <;> cases b3
  all_goals
    go_enter Try.func16, Try.ntmps16
    go_wp2_with fail
    go_ret
    exact ⟨rfl, HB.out⟩
end Go.Proofs.Ytddjbchlpfaggaa.PfS4
