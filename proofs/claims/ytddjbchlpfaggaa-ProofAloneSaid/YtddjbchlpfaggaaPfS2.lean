/- The document's Right at a step that is right, by contract. -/
import Derived.Test.YtddjbchlpfaggaaPfS1
import Derived.Test.YtddjbchlpfaggaaPfE
namespace Go.Proofs.Ytddjbchlpfaggaa.PfS2
open Go.RowKit Go.Lib Go.Proofs Go.Maps Go.Proofs.Ytddjbchlpfaggaa.TblB Go.Proofs.Ytddjbchlpfaggaa.TblC Go.Proofs.Ytddjbchlpfaggaa.TblV Go.Proofs.Ytddjbchlpfaggaa.TblP Go.Proofs.Ytddjbchlpfaggaa.TblQ Go.Proofs.Ytddjbchlpfaggaa.SemB Go.Proofs.Ytddjbchlpfaggaa.PfM Go.Proofs.Ytddjbchlpfaggaa.PfN Go.Proofs.Ytddjbchlpfaggaa.PfO Go.Proofs.Ytddjbchlpfaggaa.PfB Go.Proofs.Ytddjbchlpfaggaa.PfE Go.Proofs.Ytddjbchlpfaggaa.PfL Go.Proofs.Ytddjbchlpfaggaa.PfS1
set_option linter.unusedVariables false
set_option linter.unusedSimpArgs false
set_option maxHeartbeats 1000000 in
set_option maxRecDepth 100000 in
theorem right1 (P K : Nat) (A : Option Addr) (ca : Nat) (L : List Ru) (B : Option Addr) (cb : Nat) (T : List Sp) (j : Nat) (x : Int) (hj : j < L.length) (u1 u3 u4 u5 : Int) (hu : L[j] = ⟨1, u1, x, u3, u4, u5⟩) (w : World) (g1 : P ≤ 10) (g2 : K ≤ 6) (hL : L.length ≤ 60) (hT : T.length ≤ 100000) (hA : UG w A L) (hB : TG w B T) (hr : rightU P K L[j] = true) (x0 : 0 ≤ x) (x1 : x < P) :
    Calls Try.prog 18 #[.int .i64 P, .int .i64 K, .slice A L.length ca, .slice B T.length cb, .agg #[.int .i64 j, .int .i64 u1, .int .i64 x, .int .i64 0]] w fun e w' => e = .returned (.bool true) ∧ Below w.heap.size w w' := by
  have e1 : decide ((j : Int) < 0) = false := by simp
  have e2 : decide ((L.length : Int) ≤ j) = false := by simp; omega
  have e7 : decide (L.length ≤ j) = false := by simp; omega
  have e3 : decide (x < 0) = false := by simp; omega
  have e4 : decide ((P : Int) ≤ x) = false := by simp; omega
  have e5 : decide ((64 : Int) < P) = false := by simp; omega
  have e6 : decide ((64 : Int) < K) = false := by simp; omega
  have q0 : (0 : Int) ≤ j := by omega
  have q1 : (j : Int) < L.length := by omega
  have HR := Lib.hid (fun w' => rightD P K L[j] w' (by omega) (by omega))
  simp only [Int.toNat_natCast, hr] at HR
  obtain ⟨g, o, rfl, hg, hc⟩ := hA (by omega)
  have HC := Lib.hid (fun w' (hb : Below w.heap.size w w') (k : Nat) (hk : k < 6) => (hb.cell (p := ⟨g, o + j * 6 + k, none⟩) hg).trans (hc j hj k hk))
  rw [hu] at HC HR
  clear hA hB hr hc hu 
  unfold Ru.val Ru.cells at *
  simp only at HR HC
  have hb0 : Below w.heap.size w ((w.alloc (.cells #[.int .i64 j, .int .i64 u1, .int .i64 x, .int .i64 0] 30)).alloc (.cells #[.int .i64 1, .int .i64 u1, .int .i64 x, .int .i64 u3, .int .i64 u4, .int .i64 u5] 44)) := ((Below.refl _ _).alloc (Nat.le_refl _) _).alloc (by rw [World.size_alloc]; omega) _
  have hd1 := heap_alloc2_old w (.cells #[.int .i64 j, .int .i64 u1, .int .i64 x, .int .i64 0] 30) (.cells #[.int .i64 1, .int .i64 u1, .int .i64 x, .int .i64 u3, .int .i64 u4, .int .i64 u5] 44)
  have hd2 := heap_alloc2_new w (.cells #[.int .i64 j, .int .i64 u1, .int .i64 x, .int .i64 0] 30) (.cells #[.int .i64 1, .int .i64 u1, .int .i64 x, .int .i64 u3, .int .i64 u4, .int .i64 u5] 44)
  have hba : Below w.heap.size w (w.alloc (.cells #[.int .i64 j, .int .i64 u1, .int .i64 x, .int .i64 0] 30)) := (Below.refl _ _).alloc (Nat.le_refl _) _
  have k0 : (w.alloc (.cells #[.int .i64 j, .int .i64 u1, .int .i64 x, .int .i64 0] 30)).cell? ⟨g, o + j * 6, none⟩ = some (.int .i64 1) := HC.out _ hba 0 (by omega)
  have k1 : (w.alloc (.cells #[.int .i64 j, .int .i64 u1, .int .i64 x, .int .i64 0] 30)).cell? ⟨g, o + j * 6 + 1, none⟩ = some (.int .i64 u1) := HC.out _ hba 1 (by omega)
  have k2 : (w.alloc (.cells #[.int .i64 j, .int .i64 u1, .int .i64 x, .int .i64 0] 30)).cell? ⟨g, o + j * 6 + 2, none⟩ = some (.int .i64 x) := HC.out _ hba 2 (by omega)
  have k3 : (w.alloc (.cells #[.int .i64 j, .int .i64 u1, .int .i64 x, .int .i64 0] 30)).cell? ⟨g, o + j * 6 + 3, none⟩ = some (.int .i64 u3) := HC.out _ hba 3 (by omega)
  have k4 : (w.alloc (.cells #[.int .i64 j, .int .i64 u1, .int .i64 x, .int .i64 0] 30)).cell? ⟨g, o + j * 6 + 4, none⟩ = some (.int .i64 u4) := HC.out _ hba 4 (by omega)
  have k5 : (w.alloc (.cells #[.int .i64 j, .int .i64 u1, .int .i64 x, .int .i64 0] 30)).cell? ⟨g, o + j * 6 + 5, none⟩ = some (.int .i64 u5) := HC.out _ hba 5 (by omega)
  clear hba
  go_enter Try.func18, Try.ntmps18
  go_upto_region 4 with fail
  clear k0 k1 k2 k3 k4 k5
  obtain ⟨bx, hbx⟩ : ∃ bx, w.heap.size = bx := ⟨_, rfl⟩
  simp only [hbx] at hb0 hd1 hd2 HC ⊢
  generalize (w.alloc (.cells #[.int .i64 j, .int .i64 u1, .int .i64 x, .int .i64 0] 30)).alloc (.cells #[.int .i64 1, .int .i64 u1, .int .i64 x, .int .i64 u3, .int .i64 u4, .int .i64 u5] 44) = w3 at *
  have hb3 := hb0
  have t3 := hd1
  have s3 := hd2
  clear hd1 hd2 hb0
  have c1 := fun o => Lib.cell_of_heap t3 o
  have c2 := fun o => Lib.cell_of_heap s3 o
  have z1 := (show (#[.int .i64 j, .int .i64 u1, .int .i64 x, .int .i64 0] : Array Value).size = 4 from rfl)
  go_wp2_with fail
  refine (HR.out _).mono ?_
  rintro e w4 ⟨rfl, hb4⟩
  have t4 := (hb4.block _ (lt_of t3)).trans t3
  have s4 := (hb4.block _ (lt_of s3)).trans s3
  have hb5 := hb3.trans (hb4.mono (by rw [← hbx]; exact hb3.size))
  clear c1 c2 hb3 hb4 t3 s3
  have c1 := fun o => Lib.cell_of_heap t4 o
  have c2 := fun o => Lib.cell_of_heap s4 o
  dsimp only
  go_wp2_with fail
  go_ret
  exact ⟨rfl, by rw [hbx]; exact hb5⟩
set_option maxHeartbeats 1000000 in
set_option maxRecDepth 100000 in
theorem right2 (P K : Nat) (A : Option Addr) (ca : Nat) (L : List Ru) (B : Option Addr) (cb : Nat) (T : List Sp) (j : Nat) (x : Int) (hj : j < L.length) (u1 u2 u3 u4 u5 : Int) (hu : L[j] = ⟨2, u1, u2, u3, u4, u5⟩) (w : World) (g1 : P ≤ 10) (g2 : K ≤ 6) (hL : L.length ≤ 60) (hT : T.length ≤ 100000) (hA : UG w A L) (hB : TG w B T) (hr : rightU P K L[j] = true) (x0 : 0 ≤ x) (x1 : x < P) (h0 : hasS T (u3, x) = true) :
    Calls Try.prog 18 #[.int .i64 P, .int .i64 K, .slice A L.length ca, .slice B T.length cb, .agg #[.int .i64 j, .int .i64 u1, .int .i64 x, .int .i64 0]] w fun e w' => e = .returned (.bool true) ∧ Below w.heap.size w w' := by
  have e1 : decide ((j : Int) < 0) = false := by simp
  have e2 : decide ((L.length : Int) ≤ j) = false := by simp; omega
  have e7 : decide (L.length ≤ j) = false := by simp; omega
  have e3 : decide (x < 0) = false := by simp; omega
  have e4 : decide ((P : Int) ≤ x) = false := by simp; omega
  have e5 : decide ((64 : Int) < P) = false := by simp; omega
  have e6 : decide ((64 : Int) < K) = false := by simp; omega
  have q0 : (0 : Int) ≤ j := by omega
  have q1 : (j : Int) < L.length := by omega
  have HR := Lib.hid (fun w' => rightD P K L[j] w' (by omega) (by omega))
  simp only [Int.toNat_natCast, hr] at HR
  obtain ⟨g, o, rfl, hg, hc⟩ := hA (by omega)
  have HC := Lib.hid (fun w' (hb : Below w.heap.size w w') (k : Nat) (hk : k < 6) => (hb.cell (p := ⟨g, o + j * 6 + k, none⟩) hg).trans (hc j hj k hk))
  rw [hu] at HC HR
  have HH0 := Lib.hid (fun w' (hb : Below w.heap.size w w') => hasD B cb T (u3) (x) w' hT (hB.below hb))
  rw [h0] at HH0
  clear hA hB hr hc hu h0
  unfold Ru.val Ru.cells at *
  simp only at HR HC
  have hb0 : Below w.heap.size w ((w.alloc (.cells #[.int .i64 j, .int .i64 u1, .int .i64 x, .int .i64 0] 30)).alloc (.cells #[.int .i64 2, .int .i64 u1, .int .i64 u2, .int .i64 u3, .int .i64 u4, .int .i64 u5] 44)) := ((Below.refl _ _).alloc (Nat.le_refl _) _).alloc (by rw [World.size_alloc]; omega) _
  have hd1 := heap_alloc2_old w (.cells #[.int .i64 j, .int .i64 u1, .int .i64 x, .int .i64 0] 30) (.cells #[.int .i64 2, .int .i64 u1, .int .i64 u2, .int .i64 u3, .int .i64 u4, .int .i64 u5] 44)
  have hd2 := heap_alloc2_new w (.cells #[.int .i64 j, .int .i64 u1, .int .i64 x, .int .i64 0] 30) (.cells #[.int .i64 2, .int .i64 u1, .int .i64 u2, .int .i64 u3, .int .i64 u4, .int .i64 u5] 44)
  have hba : Below w.heap.size w (w.alloc (.cells #[.int .i64 j, .int .i64 u1, .int .i64 x, .int .i64 0] 30)) := (Below.refl _ _).alloc (Nat.le_refl _) _
  have k0 : (w.alloc (.cells #[.int .i64 j, .int .i64 u1, .int .i64 x, .int .i64 0] 30)).cell? ⟨g, o + j * 6, none⟩ = some (.int .i64 2) := HC.out _ hba 0 (by omega)
  have k1 : (w.alloc (.cells #[.int .i64 j, .int .i64 u1, .int .i64 x, .int .i64 0] 30)).cell? ⟨g, o + j * 6 + 1, none⟩ = some (.int .i64 u1) := HC.out _ hba 1 (by omega)
  have k2 : (w.alloc (.cells #[.int .i64 j, .int .i64 u1, .int .i64 x, .int .i64 0] 30)).cell? ⟨g, o + j * 6 + 2, none⟩ = some (.int .i64 u2) := HC.out _ hba 2 (by omega)
  have k3 : (w.alloc (.cells #[.int .i64 j, .int .i64 u1, .int .i64 x, .int .i64 0] 30)).cell? ⟨g, o + j * 6 + 3, none⟩ = some (.int .i64 u3) := HC.out _ hba 3 (by omega)
  have k4 : (w.alloc (.cells #[.int .i64 j, .int .i64 u1, .int .i64 x, .int .i64 0] 30)).cell? ⟨g, o + j * 6 + 4, none⟩ = some (.int .i64 u4) := HC.out _ hba 4 (by omega)
  have k5 : (w.alloc (.cells #[.int .i64 j, .int .i64 u1, .int .i64 x, .int .i64 0] 30)).cell? ⟨g, o + j * 6 + 5, none⟩ = some (.int .i64 u5) := HC.out _ hba 5 (by omega)
  clear hba
  go_enter Try.func18, Try.ntmps18
  go_upto_region 4 with fail
  clear k0 k1 k2 k3 k4 k5
  obtain ⟨bx, hbx⟩ : ∃ bx, w.heap.size = bx := ⟨_, rfl⟩
  simp only [hbx] at hb0 hd1 hd2 HC ⊢
  simp only [hbx] at HH0
  generalize (w.alloc (.cells #[.int .i64 j, .int .i64 u1, .int .i64 x, .int .i64 0] 30)).alloc (.cells #[.int .i64 2, .int .i64 u1, .int .i64 u2, .int .i64 u3, .int .i64 u4, .int .i64 u5] 44) = w3 at *
  have hb3 := hb0
  have t3 := hd1
  have s3 := hd2
  clear hd1 hd2 hb0
  have c1 := fun o => Lib.cell_of_heap t3 o
  have c2 := fun o => Lib.cell_of_heap s3 o
  have z1 := (show (#[.int .i64 j, .int .i64 u1, .int .i64 x, .int .i64 0] : Array Value).size = 4 from rfl)
  go_wp2_with fail
  refine (HR.out _).mono ?_
  rintro e w4 ⟨rfl, hb4⟩
  have t4 := (hb4.block _ (lt_of t3)).trans t3
  have s4 := (hb4.block _ (lt_of s3)).trans s3
  have hb5 := hb3.trans (hb4.mono (by rw [← hbx]; exact hb3.size))
  clear c1 c2 hb3 hb4 t3 s3
  have c1 := fun o => Lib.cell_of_heap t4 o
  have c2 := fun o => Lib.cell_of_heap s4 o
  dsimp only
  go_wp2_with fail
  refine (HH0.out _ hb5).mono ?_
  rintro e w5 ⟨rfl, hc5⟩
  have t5 := (hc5.block _ (lt_of t4)).trans t4
  have s5 := (hc5.block _ (lt_of s4)).trans s4
  have hb6 := hb5.trans (hc5.mono (by rw [← hbx]; exact hb5.size))
  clear c1 c2 t4 s4 hb5 hc5
  have c1 := fun o => Lib.cell_of_heap t5 o
  have c2 := fun o => Lib.cell_of_heap s5 o
  dsimp only
  go_wp2_with fail
  go_ret
  exact ⟨rfl, by rw [hbx]; exact hb6⟩
set_option maxHeartbeats 1000000 in
set_option maxRecDepth 100000 in
theorem right3 (P K : Nat) (A : Option Addr) (ca : Nat) (L : List Ru) (B : Option Addr) (cb : Nat) (T : List Sp) (j : Nat) (x : Int) (m : Int) (hj : j < L.length) (u1 u2 u3 u4 u5 : Int) (hu : L[j] = ⟨3, u1, u2, u3, u4, u5⟩) (w : World) (g1 : P ≤ 10) (g2 : K ≤ 6) (hL : L.length ≤ 60) (hT : T.length ≤ 100000) (hA : UG w A L) (hB : TG w B T) (hr : rightU P K L[j] = true) (x0 : 0 ≤ x) (x1 : x < P) (m0 : 0 ≤ m) (m1 : m < P) (h0 : hasS T (u3, m) = true) (h1 : hasS T (m * K + u5, x) = true) :
    Calls Try.prog 18 #[.int .i64 P, .int .i64 K, .slice A L.length ca, .slice B T.length cb, .agg #[.int .i64 j, .int .i64 u1, .int .i64 x, .int .i64 m]] w fun e w' => e = .returned (.bool true) ∧ Below w.heap.size w w' := by
  have e1 : decide ((j : Int) < 0) = false := by simp
  have e2 : decide ((L.length : Int) ≤ j) = false := by simp; omega
  have e7 : decide (L.length ≤ j) = false := by simp; omega
  have e3 : decide (x < 0) = false := by simp; omega
  have e4 : decide ((P : Int) ≤ x) = false := by simp; omega
  have e5 : decide ((64 : Int) < P) = false := by simp; omega
  have e6 : decide ((64 : Int) < K) = false := by simp; omega
  have q0 : (0 : Int) ≤ j := by omega
  have q1 : (j : Int) < L.length := by omega
  have HR := Lib.hid (fun w' => rightD P K L[j] w' (by omega) (by omega))
  simp only [Int.toNat_natCast, hr] at HR
  obtain ⟨g, o, rfl, hg, hc⟩ := hA (by omega)
  have HC := Lib.hid (fun w' (hb : Below w.heap.size w w') (k : Nat) (hk : k < 6) => (hb.cell (p := ⟨g, o + j * 6 + k, none⟩) hg).trans (hc j hj k hk))
  rw [hu] at HC HR
  have HH0 := Lib.hid (fun w' (hb : Below w.heap.size w w') => hasD B cb T (u3) (m) w' hT (hB.below hb))
  rw [h0] at HH0
  have HH1 := Lib.hid (fun w' (hb : Below w.heap.size w w') => hasD B cb T (m * K + u5) (x) w' hT (hB.below hb))
  rw [h1] at HH1
  have m5 : decide (0 ≤ m) = true := by simp; omega
  have m6 : decide (m < P) = true := by simp; omega
  have b5 : 0 ≤ u5 ∧ u5 < K := by
    have := (right_r hr).2.2.2.2.2
    rw [hu] at this
    exact this
  have b6 : 0 ≤ m * K ∧ m * K ≤ 60 := by
    obtain ⟨m', rfl⟩ : ∃ n : Nat, m = n := ⟨m.toNat, by omega⟩
    have : m' * K ≤ 10 * 6 := Nat.mul_le_mul (by omega) g2
    constructor
    · exact_mod_cast Nat.zero_le _
    · exact_mod_cast this
  have v1 : IntKind.i64.wrap (m * K) = m * K := by rw [IntKind.wrap_i64]; omega
  have v2 : IntKind.i64.wrap (m * K + u5) = m * K + u5 := by rw [IntKind.wrap_i64]; omega
  clear hA hB hr hc hu h0 h1
  unfold Ru.val Ru.cells at *
  simp only at HR HC
  have hb0 : Below w.heap.size w ((w.alloc (.cells #[.int .i64 j, .int .i64 u1, .int .i64 x, .int .i64 m] 30)).alloc (.cells #[.int .i64 3, .int .i64 u1, .int .i64 u2, .int .i64 u3, .int .i64 u4, .int .i64 u5] 44)) := ((Below.refl _ _).alloc (Nat.le_refl _) _).alloc (by rw [World.size_alloc]; omega) _
  have hd1 := heap_alloc2_old w (.cells #[.int .i64 j, .int .i64 u1, .int .i64 x, .int .i64 m] 30) (.cells #[.int .i64 3, .int .i64 u1, .int .i64 u2, .int .i64 u3, .int .i64 u4, .int .i64 u5] 44)
  have hd2 := heap_alloc2_new w (.cells #[.int .i64 j, .int .i64 u1, .int .i64 x, .int .i64 m] 30) (.cells #[.int .i64 3, .int .i64 u1, .int .i64 u2, .int .i64 u3, .int .i64 u4, .int .i64 u5] 44)
  have hba : Below w.heap.size w (w.alloc (.cells #[.int .i64 j, .int .i64 u1, .int .i64 x, .int .i64 m] 30)) := (Below.refl _ _).alloc (Nat.le_refl _) _
  have k0 : (w.alloc (.cells #[.int .i64 j, .int .i64 u1, .int .i64 x, .int .i64 m] 30)).cell? ⟨g, o + j * 6, none⟩ = some (.int .i64 3) := HC.out _ hba 0 (by omega)
  have k1 : (w.alloc (.cells #[.int .i64 j, .int .i64 u1, .int .i64 x, .int .i64 m] 30)).cell? ⟨g, o + j * 6 + 1, none⟩ = some (.int .i64 u1) := HC.out _ hba 1 (by omega)
  have k2 : (w.alloc (.cells #[.int .i64 j, .int .i64 u1, .int .i64 x, .int .i64 m] 30)).cell? ⟨g, o + j * 6 + 2, none⟩ = some (.int .i64 u2) := HC.out _ hba 2 (by omega)
  have k3 : (w.alloc (.cells #[.int .i64 j, .int .i64 u1, .int .i64 x, .int .i64 m] 30)).cell? ⟨g, o + j * 6 + 3, none⟩ = some (.int .i64 u3) := HC.out _ hba 3 (by omega)
  have k4 : (w.alloc (.cells #[.int .i64 j, .int .i64 u1, .int .i64 x, .int .i64 m] 30)).cell? ⟨g, o + j * 6 + 4, none⟩ = some (.int .i64 u4) := HC.out _ hba 4 (by omega)
  have k5 : (w.alloc (.cells #[.int .i64 j, .int .i64 u1, .int .i64 x, .int .i64 m] 30)).cell? ⟨g, o + j * 6 + 5, none⟩ = some (.int .i64 u5) := HC.out _ hba 5 (by omega)
  clear hba
  go_enter Try.func18, Try.ntmps18
  go_upto_region 4 with fail
  clear k0 k1 k2 k3 k4 k5
  obtain ⟨bx, hbx⟩ : ∃ bx, w.heap.size = bx := ⟨_, rfl⟩
  simp only [hbx] at hb0 hd1 hd2 HC ⊢
  simp only [hbx] at HH0
  simp only [hbx] at HH1
  generalize (w.alloc (.cells #[.int .i64 j, .int .i64 u1, .int .i64 x, .int .i64 m] 30)).alloc (.cells #[.int .i64 3, .int .i64 u1, .int .i64 u2, .int .i64 u3, .int .i64 u4, .int .i64 u5] 44) = w3 at *
  have hb3 := hb0
  have t3 := hd1
  have s3 := hd2
  clear hd1 hd2 hb0
  have c1 := fun o => Lib.cell_of_heap t3 o
  have c2 := fun o => Lib.cell_of_heap s3 o
  have z1 := (show (#[.int .i64 j, .int .i64 u1, .int .i64 x, .int .i64 m] : Array Value).size = 4 from rfl)
  go_wp2_with fail
  refine (HR.out _).mono ?_
  rintro e w4 ⟨rfl, hb4⟩
  have t4 := (hb4.block _ (lt_of t3)).trans t3
  have s4 := (hb4.block _ (lt_of s3)).trans s3
  have hb5 := hb3.trans (hb4.mono (by rw [← hbx]; exact hb3.size))
  clear c1 c2 hb3 hb4 t3 s3
  have c1 := fun o => Lib.cell_of_heap t4 o
  have c2 := fun o => Lib.cell_of_heap s4 o
  dsimp only
  go_wp2_with fail
  refine (HH0.out _ hb5).mono ?_
  rintro e w5 ⟨rfl, hc5⟩
  have t5 := (hc5.block _ (lt_of t4)).trans t4
  have s5 := (hc5.block _ (lt_of s4)).trans s4
  have hb6 := hb5.trans (hc5.mono (by rw [← hbx]; exact hb5.size))
  clear c1 c2 t4 s4 hb5 hc5
  have c1 := fun o => Lib.cell_of_heap t5 o
  have c2 := fun o => Lib.cell_of_heap s5 o
  dsimp only
  go_wp2_with fail
  refine (HH1.out _ hb6).mono ?_
  rintro e w6 ⟨rfl, hc6⟩
  have t6 := (hc6.block _ (lt_of t5)).trans t5
  have s6 := (hc6.block _ (lt_of s5)).trans s5
  have hb7 := hb6.trans (hc6.mono (by rw [← hbx]; exact hb6.size))
  clear c1 c2 t5 s5 hb6 hc6
  have c1 := fun o => Lib.cell_of_heap t6 o
  have c2 := fun o => Lib.cell_of_heap s6 o
  dsimp only
  go_wp2_with fail
  go_ret
  exact ⟨rfl, by rw [hbx]; exact hb7⟩
set_option maxHeartbeats 1000000 in
set_option maxRecDepth 100000 in
theorem right4 (P K : Nat) (A : Option Addr) (ca : Nat) (L : List Ru) (B : Option Addr) (cb : Nat) (T : List Sp) (j : Nat) (x : Int) (hj : j < L.length) (u1 u2 u3 u4 u5 : Int) (hu : L[j] = ⟨4, u1, u2, u3, u4, u5⟩) (w : World) (g1 : P ≤ 10) (g2 : K ≤ 6) (hL : L.length ≤ 60) (hT : T.length ≤ 100000) (hA : UG w A L) (hB : TG w B T) (hr : rightU P K L[j] = true) (x0 : 0 ≤ x) (x1 : x < P) (h0 : hasS T (u3, x) = true) (h1 : hasS T (u4, x) = true) :
    Calls Try.prog 18 #[.int .i64 P, .int .i64 K, .slice A L.length ca, .slice B T.length cb, .agg #[.int .i64 j, .int .i64 u1, .int .i64 x, .int .i64 0]] w fun e w' => e = .returned (.bool true) ∧ Below w.heap.size w w' := by
  have e1 : decide ((j : Int) < 0) = false := by simp
  have e2 : decide ((L.length : Int) ≤ j) = false := by simp; omega
  have e7 : decide (L.length ≤ j) = false := by simp; omega
  have e3 : decide (x < 0) = false := by simp; omega
  have e4 : decide ((P : Int) ≤ x) = false := by simp; omega
  have e5 : decide ((64 : Int) < P) = false := by simp; omega
  have e6 : decide ((64 : Int) < K) = false := by simp; omega
  have q0 : (0 : Int) ≤ j := by omega
  have q1 : (j : Int) < L.length := by omega
  have HR := Lib.hid (fun w' => rightD P K L[j] w' (by omega) (by omega))
  simp only [Int.toNat_natCast, hr] at HR
  obtain ⟨g, o, rfl, hg, hc⟩ := hA (by omega)
  have HC := Lib.hid (fun w' (hb : Below w.heap.size w w') (k : Nat) (hk : k < 6) => (hb.cell (p := ⟨g, o + j * 6 + k, none⟩) hg).trans (hc j hj k hk))
  rw [hu] at HC HR
  have HH0 := Lib.hid (fun w' (hb : Below w.heap.size w w') => hasD B cb T (u3) (x) w' hT (hB.below hb))
  rw [h0] at HH0
  have HH1 := Lib.hid (fun w' (hb : Below w.heap.size w w') => hasD B cb T (u4) (x) w' hT (hB.below hb))
  rw [h1] at HH1
  clear hA hB hr hc hu h0 h1
  unfold Ru.val Ru.cells at *
  simp only at HR HC
  have hb0 : Below w.heap.size w ((w.alloc (.cells #[.int .i64 j, .int .i64 u1, .int .i64 x, .int .i64 0] 30)).alloc (.cells #[.int .i64 4, .int .i64 u1, .int .i64 u2, .int .i64 u3, .int .i64 u4, .int .i64 u5] 44)) := ((Below.refl _ _).alloc (Nat.le_refl _) _).alloc (by rw [World.size_alloc]; omega) _
  have hd1 := heap_alloc2_old w (.cells #[.int .i64 j, .int .i64 u1, .int .i64 x, .int .i64 0] 30) (.cells #[.int .i64 4, .int .i64 u1, .int .i64 u2, .int .i64 u3, .int .i64 u4, .int .i64 u5] 44)
  have hd2 := heap_alloc2_new w (.cells #[.int .i64 j, .int .i64 u1, .int .i64 x, .int .i64 0] 30) (.cells #[.int .i64 4, .int .i64 u1, .int .i64 u2, .int .i64 u3, .int .i64 u4, .int .i64 u5] 44)
  have hba : Below w.heap.size w (w.alloc (.cells #[.int .i64 j, .int .i64 u1, .int .i64 x, .int .i64 0] 30)) := (Below.refl _ _).alloc (Nat.le_refl _) _
  have k0 : (w.alloc (.cells #[.int .i64 j, .int .i64 u1, .int .i64 x, .int .i64 0] 30)).cell? ⟨g, o + j * 6, none⟩ = some (.int .i64 4) := HC.out _ hba 0 (by omega)
  have k1 : (w.alloc (.cells #[.int .i64 j, .int .i64 u1, .int .i64 x, .int .i64 0] 30)).cell? ⟨g, o + j * 6 + 1, none⟩ = some (.int .i64 u1) := HC.out _ hba 1 (by omega)
  have k2 : (w.alloc (.cells #[.int .i64 j, .int .i64 u1, .int .i64 x, .int .i64 0] 30)).cell? ⟨g, o + j * 6 + 2, none⟩ = some (.int .i64 u2) := HC.out _ hba 2 (by omega)
  have k3 : (w.alloc (.cells #[.int .i64 j, .int .i64 u1, .int .i64 x, .int .i64 0] 30)).cell? ⟨g, o + j * 6 + 3, none⟩ = some (.int .i64 u3) := HC.out _ hba 3 (by omega)
  have k4 : (w.alloc (.cells #[.int .i64 j, .int .i64 u1, .int .i64 x, .int .i64 0] 30)).cell? ⟨g, o + j * 6 + 4, none⟩ = some (.int .i64 u4) := HC.out _ hba 4 (by omega)
  have k5 : (w.alloc (.cells #[.int .i64 j, .int .i64 u1, .int .i64 x, .int .i64 0] 30)).cell? ⟨g, o + j * 6 + 5, none⟩ = some (.int .i64 u5) := HC.out _ hba 5 (by omega)
  clear hba
  go_enter Try.func18, Try.ntmps18
  go_upto_region 4 with fail
  clear k0 k1 k2 k3 k4 k5
  obtain ⟨bx, hbx⟩ : ∃ bx, w.heap.size = bx := ⟨_, rfl⟩
  simp only [hbx] at hb0 hd1 hd2 HC ⊢
  simp only [hbx] at HH0
  simp only [hbx] at HH1
  generalize (w.alloc (.cells #[.int .i64 j, .int .i64 u1, .int .i64 x, .int .i64 0] 30)).alloc (.cells #[.int .i64 4, .int .i64 u1, .int .i64 u2, .int .i64 u3, .int .i64 u4, .int .i64 u5] 44) = w3 at *
  have hb3 := hb0
  have t3 := hd1
  have s3 := hd2
  clear hd1 hd2 hb0
  have c1 := fun o => Lib.cell_of_heap t3 o
  have c2 := fun o => Lib.cell_of_heap s3 o
  have z1 := (show (#[.int .i64 j, .int .i64 u1, .int .i64 x, .int .i64 0] : Array Value).size = 4 from rfl)
  go_wp2_with fail
  refine (HR.out _).mono ?_
  rintro e w4 ⟨rfl, hb4⟩
  have t4 := (hb4.block _ (lt_of t3)).trans t3
  have s4 := (hb4.block _ (lt_of s3)).trans s3
  have hb5 := hb3.trans (hb4.mono (by rw [← hbx]; exact hb3.size))
  clear c1 c2 hb3 hb4 t3 s3
  have c1 := fun o => Lib.cell_of_heap t4 o
  have c2 := fun o => Lib.cell_of_heap s4 o
  dsimp only
  go_wp2_with fail
  refine (HH0.out _ hb5).mono ?_
  rintro e w5 ⟨rfl, hc5⟩
  have t5 := (hc5.block _ (lt_of t4)).trans t4
  have s5 := (hc5.block _ (lt_of s4)).trans s4
  have hb6 := hb5.trans (hc5.mono (by rw [← hbx]; exact hb5.size))
  clear c1 c2 t4 s4 hb5 hc5
  have c1 := fun o => Lib.cell_of_heap t5 o
  have c2 := fun o => Lib.cell_of_heap s5 o
  dsimp only
  go_wp2_with fail
  refine (HH1.out _ hb6).mono ?_
  rintro e w6 ⟨rfl, hc6⟩
  have t6 := (hc6.block _ (lt_of t5)).trans t5
  have s6 := (hc6.block _ (lt_of s5)).trans s5
  have hb7 := hb6.trans (hc6.mono (by rw [← hbx]; exact hb6.size))
  clear c1 c2 t5 s5 hb6 hc6
  have c1 := fun o => Lib.cell_of_heap t6 o
  have c2 := fun o => Lib.cell_of_heap s6 o
  dsimp only
  go_wp2_with fail
  go_ret
  exact ⟨rfl, by rw [hbx]; exact hb7⟩
end Go.Proofs.Ytddjbchlpfaggaa.PfS2
