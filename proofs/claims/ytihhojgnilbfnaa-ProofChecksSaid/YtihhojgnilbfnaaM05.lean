/- The document's Right at a step that is right, by contract. -/
import Derived.Test.YtihhojgnilbfnaaM04
namespace Go.Proofs.Ytihhojgnilbfnaa.PfS2
set_option linter.unusedVariables false
set_option linter.unusedSimpArgs false
open Go.RowKit Go.Lib Go.Proofs Go.Maps Go.Proofs.Ytihhojgnilbfnaa.TblB Go.Proofs.Ytihhojgnilbfnaa.TblC Go.Proofs.Ytihhojgnilbfnaa.TblV Go.Proofs.Ytihhojgnilbfnaa.TblP Go.Proofs.Ytihhojgnilbfnaa.TblQ Go.Proofs.Ytihhojgnilbfnaa.SemB Go.Proofs.Ytihhojgnilbfnaa.PfM Go.Proofs.Ytihhojgnilbfnaa.PfN Go.Proofs.Ytihhojgnilbfnaa.PfO Go.Proofs.Ytihhojgnilbfnaa.PfB Go.Proofs.Ytihhojgnilbfnaa.PfE Go.Proofs.Ytihhojgnilbfnaa.PfL Go.Proofs.Ytihhojgnilbfnaa.PfS1
set_option linter.unusedVariables false
set_option linter.unusedSimpArgs false
set_option maxHeartbeats 1000000 in
set_option maxRecDepth 100000 in
theorem right1 (P K : Nat) (A : Option Addr) (ca : Nat) (L : List Ru) (B : Option Addr) (cb : Nat) (T : List Sp) (j : Nat) (x : Int) (hj : j < L.length) (u1 u3 u4 u5 : Int) (hu : L[j] = ⟨1, u1, x, u3, u4, u5⟩) (w : World) (g1 : P ≤ 10) (g2 : K ≤ 6) (hL : L.length ≤ 60) (hT : T.length ≤ 100000) (hA : UG w A L) (hB : TG w B T) (hr : rightU P K L[j] = true) (x0 : 0 ≤ x) (x1 : x < P) :
    Calls Try.prog 18 #[.int .i64 P, .int .i64 K, .slice A L.length ca, .slice B T.length cb, .agg #[.int .i64 j, .int .i64 u1, .int .i64 x, .int .i64 0]] w fun e w' => e = .returned (.bool true) ∧ Below w.heap.size w w' := by
  have e1 : decide ((j : Int) < 0) = false := by simp
  have e2 : decide ((L.length : Int) ≤ j) = false := by simp; omega
  have e7 : decide (L.length ≤ j) = false := by simp; omega
  have e3 : decide (x < 0) = false := by simp; omega
  have e4 : decide ((P : Int) ≤ x) = false := by simp; omega
  have e5 : decide ((64 : Int) < P) = false := by simp; omega
  have e6 : decide ((64 : Int) < K) = false := by simp; omega
  have q0 : (0 : Int) ≤ j := by omega
  have q1 : (j : Int) < L.length := by omega
  have HR := Lib.hid (fun w' => rightD P K L[j] w' (by omega) (by omega))
  simp only [Int.toNat_natCast, hr] at HR
  obtain ⟨g, o, rfl, hg, hc⟩ := hA (by omega)
  have HC := Lib.hid (fun w' (hb : Below w.heap.size w w') (k : Nat) (hk : k < 6) => (hb.cell (p := ⟨g, o + j * 6 + k, none⟩) hg).trans (hc j hj k hk))
  rw [hu] at HC HR
  clear hA hB hr hc hu 
  unfold Ru.val Ru.cells at *
  simp only at HR HC
  have hb0 : Below w.heap.size w ((w.alloc (.cells #[.int .i64 j, .int .i64 u1, .int .i64 x, .int .i64 0] 30)).alloc (.cells #[.int .i64 1, .int .i64 u1, .int .i64 x, .int .i64 u3, .int .i64 u4, .int .i64 u5] 44)) := ((Below.refl _ _).alloc (Nat.le_refl _) _).alloc (by rw [World.size_alloc]; omega) _
  have hd1 := heap_alloc2_old w (.cells #[.int .i64 j, .int .i64 u1, .int .i64 x, .int .i64 0] 30) (.cells #[.int .i64 1, .int .i64 u1, .int .i64 x, .int .i64 u3, .int .i64 u4, .int .i64 u5] 44)
  have hd2 := heap_alloc2_new w (.cells #[.int .i64 j, .int .i64 u1, .int .i64 x, .int .i64 0] 30) (.cells #[.int .i64 1, .int .i64 u1, .int .i64 x, .int .i64 u3, .int .i64 u4, .int .i64 u5] 44)
  have hba : Below w.heap.size w (w.alloc (.cells #[.int .i64 j, .int .i64 u1, .int .i64 x, .int .i64 0] 30)) := (Below.refl _ _).alloc (Nat.le_refl _) _
  have k0 : (w.alloc (.cells #[.int .i64 j, .int .i64 u1, .int .i64 x, .int .i64 0] 30)).cell? ⟨g, o + j * 6, none⟩ = some (.int .i64 1) := HC.out _ hba 0 (by omega)
  have k1 : (w.alloc (.cells #[.int .i64 j, .int .i64 u1, .int .i64 x, .int .i64 0] 30)).cell? ⟨g, o + j * 6 + 1, none⟩ = some (.int .i64 u1) := HC.out _ hba 1 (by omega)
  have k2 : (w.alloc (.cells #[.int .i64 j, .int .i64 u1, .int .i64 x, .int .i64 0] 30)).cell? ⟨g, o + j * 6 + 2, none⟩ = some (.int .i64 x) := HC.out _ hba 2 (by omega)
  have k3 : (w.alloc (.cells #[.int .i64 j, .int .i64 u1, .int .i64 x, .int .i64 0] 30)).cell? ⟨g, o + j * 6 + 3, none⟩ = some (.int .i64 u3) := HC.out _ hba 3 (by omega)
  have k4 : (w.alloc (.cells #[.int .i64 j, .int .i64 u1, .int .i64 x, .int .i64 0] 30)).cell? ⟨g, o + j * 6 + 4, none⟩ = some (.int .i64 u4) := HC.out _ hba 4 (by omega)
  have k5 : (w.alloc (.cells #[.int .i64 j, .int .i64 u1, .int .i64 x, .int .i64 0] 30)).cell? ⟨g, o + j * 6 + 5, none⟩ = some (.int .i64 u5) := HC.out _ hba 5 (by omega)
  clear hba
  go_enter Try.func18, Try.ntmps18
  go_upto_region 4 with fail
  clear k0 k1 k2 k3 k4 k5
  obtain ⟨bx, hbx⟩ : ∃ bx, w.heap.size = bx := ⟨_, rfl⟩
  simp only [hbx] at hb0 hd1 hd2 HC ⊢
  generalize (w.alloc (.cells #[.int .i64 j, .int .i64 u1, .int .i64 x, .int .i64 0] 30)).alloc (.cells #[.int .i64 1, .int .i64 u1, .int .i64 x, .int .i64 u3, .int .i64 u4, .int .i64 u5] 44) = w3 at *
  have hb3 := hb0
  have t3 := hd1
  have s3 := hd2
  clear hd1 hd2 hb0
  have c1 := fun o => Lib.cell_of_heap t3 o
  have c2 := fun o => Lib.cell_of_heap s3 o
  have z1 := (show (#[.int .i64 j, .int .i64 u1, .int .i64 x, .int .i64 0] : Array Value).size = 4 from rfl)
  go_wp2_with fail
  refine (HR.out _).mono ?_
  rintro e w4 ⟨rfl, hb4⟩
  have t4 := (hb4.block _ (lt_of t3)).trans t3
  have s4 := (hb4.block _ (lt_of s3)).trans s3
  have hb5 := hb3.trans (hb4.mono (by rw [← hbx]; exact hb3.size))
  clear c1 c2 hb3 hb4 t3 s3
  have c1 := fun o => Lib.cell_of_heap t4 o
  have c2 := fun o => Lib.cell_of_heap s4 o
  dsimp only
  go_wp2_with fail
  go_ret
  exact ⟨rfl, by rw [hbx]; exact hb5⟩
set_option maxHeartbeats 1000000 in
set_option maxRecDepth 100000 in
theorem right2 (P K : Nat) (A : Option Addr) (ca : Nat) (L : List Ru) (B : Option Addr) (cb : Nat) (T : List Sp) (j : Nat) (x : Int) (hj : j < L.length) (u1 u2 u3 u4 u5 : Int) (hu : L[j] = ⟨2, u1, u2, u3, u4, u5⟩) (w : World) (g1 : P ≤ 10) (g2 : K ≤ 6) (hL : L.length ≤ 60) (hT : T.length ≤ 100000) (hA : UG w A L) (hB : TG w B T) (hr : rightU P K L[j] = true) (x0 : 0 ≤ x) (x1 : x < P) (h0 : hasS T (u3, x) = true) :
    Calls Try.prog 18 #[.int .i64 P, .int .i64 K, .slice A L.length ca, .slice B T.length cb, .agg #[.int .i64 j, .int .i64 u1, .int .i64 x, .int .i64 0]] w fun e w' => e = .returned (.bool true) ∧ Below w.heap.size w w' := by
  have e1 : decide ((j : Int) < 0) = false := by simp
  have e2 : decide ((L.length : Int) ≤ j) = false := by simp; omega
  have e7 : decide (L.length ≤ j) = false := by simp; omega
  have e3 : decide (x < 0) = false := by simp; omega
  have e4 : decide ((P : Int) ≤ x) = false := by simp; omega
  have e5 : decide ((64 : Int) < P) = false := by simp; omega
  have e6 : decide ((64 : Int) < K) = false := by simp; omega
  have q0 : (0 : Int) ≤ j := by omega
  have q1 : (j : Int) < L.length := by omega
  have HR := Lib.hid (fun w' => rightD P K L[j] w' (by omega) (by omega))
  simp only [Int.toNat_natCast, hr] at HR
  obtain ⟨g, o, rfl, hg, hc⟩ := hA (by omega)
  have HC := Lib.hid (fun w' (hb : Below w.heap.size w w') (k : Nat) (hk : k < 6) => (hb.cell (p := ⟨g, o + j * 6 + k, none⟩) hg).trans (hc j hj k hk))
  rw [hu] at HC HR
  have HH0 := Lib.hid (fun w' (hb : Below w.heap.size w w') => hasD B cb T (u3) (x) w' hT (hB.below hb))
  rw [h0] at HH0
  clear hA hB hr hc hu h0
  unfold Ru.val Ru.cells at *
  simp only at HR HC
  have hb0 : Below w.heap.size w ((w.alloc (.cells #[.int .i64 j, .int .i64 u1, .int .i64 x, .int .i64 0] 30)).alloc (.cells #[.int .i64 2, .int .i64 u1, .int .i64 u2, .int .i64 u3, .int .i64 u4, .int .i64 u5] 44)) := ((Below.refl _ _).alloc (Nat.le_refl _) _).alloc (by rw [World.size_alloc]; omega) _
  have hd1 := heap_alloc2_old w (.cells #[.int .i64 j, .int .i64 u1, .int .i64 x, .int .i64 0] 30) (.cells #[.int .i64 2, .int .i64 u1, .int .i64 u2, .int .i64 u3, .int .i64 u4, .int .i64 u5] 44)
  have hd2 := heap_alloc2_new w (.cells #[.int .i64 j, .int .i64 u1, .int .i64 x, .int .i64 0] 30) (.cells #[.int .i64 2, .int .i64 u1, .int .i64 u2, .int .i64 u3, .int .i64 u4, .int .i64 u5] 44)
  have hba : Below w.heap.size w (w.alloc (.cells #[.int .i64 j, .int .i64 u1, .int .i64 x, .int .i64 0] 30)) := (Below.refl _ _).alloc (Nat.le_refl _) _
  have k0 : (w.alloc (.cells #[.int .i64 j, .int .i64 u1, .int .i64 x, .int .i64 0] 30)).cell? ⟨g, o + j * 6, none⟩ = some (.int .i64 2) := HC.out _ hba 0 (by omega)
  have k1 : (w.alloc (.cells #[.int .i64 j, .int .i64 u1, .int .i64 x, .int .i64 0] 30)).cell? ⟨g, o + j * 6 + 1, none⟩ = some (.int .i64 u1) := HC.out _ hba 1 (by omega)
  have k2 : (w.alloc (.cells #[.int .i64 j, .int .i64 u1, .int .i64 x, .int .i64 0] 30)).cell? ⟨g, o + j * 6 + 2, none⟩ = some (.int .i64 u2) := HC.out _ hba 2 (by omega)
  have k3 : (w.alloc (.cells #[.int .i64 j, .int .i64 u1, .int .i64 x, .int .i64 0] 30)).cell? ⟨g, o + j * 6 + 3, none⟩ = some (.int .i64 u3) := HC.out _ hba 3 (by omega)
  have k4 : (w.alloc (.cells #[.int .i64 j, .int .i64 u1, .int .i64 x, .int .i64 0] 30)).cell? ⟨g, o + j * 6 + 4, none⟩ = some (.int .i64 u4) := HC.out _ hba 4 (by omega)
  have k5 : (w.alloc (.cells #[.int .i64 j, .int .i64 u1, .int .i64 x, .int .i64 0] 30)).cell? ⟨g, o + j * 6 + 5, none⟩ = some (.int .i64 u5) := HC.out _ hba 5 (by omega)
  clear hba
  go_enter Try.func18, Try.ntmps18
  go_upto_region 4 with fail
  clear k0 k1 k2 k3 k4 k5
  obtain ⟨bx, hbx⟩ : ∃ bx, w.heap.size = bx := ⟨_, rfl⟩
  simp only [hbx] at hb0 hd1 hd2 HC ⊢
  simp only [hbx] at HH0
  generalize (w.alloc (.cells #[.int .i64 j, .int .i64 u1, .int .i64 x, .int .i64 0] 30)).alloc (.cells #[.int .i64 2, .int .i64 u1, .int .i64 u2, .int .i64 u3, .int .i64 u4, .int .i64 u5] 44) = w3 at *
  have hb3 := hb0
  have t3 := hd1
  have s3 := hd2
  clear hd1 hd2 hb0
  have c1 := fun o => Lib.cell_of_heap t3 o
  have c2 := fun o => Lib.cell_of_heap s3 o
  have z1 := (show (#[.int .i64 j, .int .i64 u1, .int .i64 x, .int .i64 0] : Array Value).size = 4 from rfl)
  go_wp2_with fail
  refine (HR.out _).mono ?_
  rintro e w4 ⟨rfl, hb4⟩
  have t4 := (hb4.block _ (lt_of t3)).trans t3
  have s4 := (hb4.block _ (lt_of s3)).trans s3
  have hb5 := hb3.trans (hb4.mono (by rw [← hbx]; exact hb3.size))
  clear c1 c2 hb3 hb4 t3 s3
  have c1 := fun o => Lib.cell_of_heap t4 o
  have c2 := fun o => Lib.cell_of_heap s4 o
  dsimp only
  go_wp2_with fail
  refine (HH0.out _ hb5).mono ?_
  rintro e w5 ⟨rfl, hc5⟩
  have t5 := (hc5.block _ (lt_of t4)).trans t4
  have s5 := (hc5.block _ (lt_of s4)).trans s4
  have hb6 := hb5.trans (hc5.mono (by rw [← hbx]; exact hb5.size))
  clear c1 c2 t4 s4 hb5 hc5
  have c1 := fun o => Lib.cell_of_heap t5 o
  have c2 := fun o => Lib.cell_of_heap s5 o
  dsimp only
  go_wp2_with fail
  go_ret
  exact ⟨rfl, by rw [hbx]; exact hb6⟩
set_option maxHeartbeats 1000000 in
set_option maxRecDepth 100000 in
theorem right3 (P K : Nat) (A : Option Addr) (ca : Nat) (L : List Ru) (B : Option Addr) (cb : Nat) (T : List Sp) (j : Nat) (x : Int) (m : Int) (hj : j < L.length) (u1 u2 u3 u4 u5 : Int) (hu : L[j] = ⟨3, u1, u2, u3, u4, u5⟩) (w : World) (g1 : P ≤ 10) (g2 : K ≤ 6) (hL : L.length ≤ 60) (hT : T.length ≤ 100000) (hA : UG w A L) (hB : TG w B T) (hr : rightU P K L[j] = true) (x0 : 0 ≤ x) (x1 : x < P) (m0 : 0 ≤ m) (m1 : m < P) (h0 : hasS T (u3, m) = true) (h1 : hasS T (m * K + u5, x) = true) :
    Calls Try.prog 18 #[.int .i64 P, .int .i64 K, .slice A L.length ca, .slice B T.length cb, .agg #[.int .i64 j, .int .i64 u1, .int .i64 x, .int .i64 m]] w fun e w' => e = .returned (.bool true) ∧ Below w.heap.size w w' := by
  have e1 : decide ((j : Int) < 0) = false := by simp
  have e2 : decide ((L.length : Int) ≤ j) = false := by simp; omega
  have e7 : decide (L.length ≤ j) = false := by simp; omega
  have e3 : decide (x < 0) = false := by simp; omega
  have e4 : decide ((P : Int) ≤ x) = false := by simp; omega
  have e5 : decide ((64 : Int) < P) = false := by simp; omega
  have e6 : decide ((64 : Int) < K) = false := by simp; omega
  have q0 : (0 : Int) ≤ j := by omega
  have q1 : (j : Int) < L.length := by omega
  have HR := Lib.hid (fun w' => rightD P K L[j] w' (by omega) (by omega))
  simp only [Int.toNat_natCast, hr] at HR
  obtain ⟨g, o, rfl, hg, hc⟩ := hA (by omega)
  have HC := Lib.hid (fun w' (hb : Below w.heap.size w w') (k : Nat) (hk : k < 6) => (hb.cell (p := ⟨g, o + j * 6 + k, none⟩) hg).trans (hc j hj k hk))
  rw [hu] at HC HR
  have HH0 := Lib.hid (fun w' (hb : Below w.heap.size w w') => hasD B cb T (u3) (m) w' hT (hB.below hb))
  rw [h0] at HH0
  have HH1 := Lib.hid (fun w' (hb : Below w.heap.size w w') => hasD B cb T (m * K + u5) (x) w' hT (hB.below hb))
  rw [h1] at HH1
  have m5 : decide (0 ≤ m) = true := by simp; omega
  have m6 : decide (m < P) = true := by simp; omega
  have b5 : 0 ≤ u5 ∧ u5 < K := by
    have := (right_r hr).2.2.2.2.2
    rw [hu] at this
    exact this
  have b6 : 0 ≤ m * K ∧ m * K ≤ 60 := by
    obtain ⟨m', rfl⟩ : ∃ n : Nat, m = n := ⟨m.toNat, by omega⟩
    have : m' * K ≤ 10 * 6 := Nat.mul_le_mul (by omega) g2
    constructor
    · exact_mod_cast Nat.zero_le _
    · exact_mod_cast this
  have v1 : IntKind.i64.wrap (m * K) = m * K := by rw [IntKind.wrap_i64]; omega
  have v2 : IntKind.i64.wrap (m * K + u5) = m * K + u5 := by rw [IntKind.wrap_i64]; omega
  clear hA hB hr hc hu h0 h1
  unfold Ru.val Ru.cells at *
  simp only at HR HC
  have hb0 : Below w.heap.size w ((w.alloc (.cells #[.int .i64 j, .int .i64 u1, .int .i64 x, .int .i64 m] 30)).alloc (.cells #[.int .i64 3, .int .i64 u1, .int .i64 u2, .int .i64 u3, .int .i64 u4, .int .i64 u5] 44)) := ((Below.refl _ _).alloc (Nat.le_refl _) _).alloc (by rw [World.size_alloc]; omega) _
  have hd1 := heap_alloc2_old w (.cells #[.int .i64 j, .int .i64 u1, .int .i64 x, .int .i64 m] 30) (.cells #[.int .i64 3, .int .i64 u1, .int .i64 u2, .int .i64 u3, .int .i64 u4, .int .i64 u5] 44)
  have hd2 := heap_alloc2_new w (.cells #[.int .i64 j, .int .i64 u1, .int .i64 x, .int .i64 m] 30) (.cells #[.int .i64 3, .int .i64 u1, .int .i64 u2, .int .i64 u3, .int .i64 u4, .int .i64 u5] 44)
  have hba : Below w.heap.size w (w.alloc (.cells #[.int .i64 j, .int .i64 u1, .int .i64 x, .int .i64 m] 30)) := (Below.refl _ _).alloc (Nat.le_refl _) _
  have k0 : (w.alloc (.cells #[.int .i64 j, .int .i64 u1, .int .i64 x, .int .i64 m] 30)).cell? ⟨g, o + j * 6, none⟩ = some (.int .i64 3) := HC.out _ hba 0 (by omega)
  have k1 : (w.alloc (.cells #[.int .i64 j, .int .i64 u1, .int .i64 x, .int .i64 m] 30)).cell? ⟨g, o + j * 6 + 1, none⟩ = some (.int .i64 u1) := HC.out _ hba 1 (by omega)
  have k2 : (w.alloc (.cells #[.int .i64 j, .int .i64 u1, .int .i64 x, .int .i64 m] 30)).cell? ⟨g, o + j * 6 + 2, none⟩ = some (.int .i64 u2) := HC.out _ hba 2 (by omega)
  have k3 : (w.alloc (.cells #[.int .i64 j, .int .i64 u1, .int .i64 x, .int .i64 m] 30)).cell? ⟨g, o + j * 6 + 3, none⟩ = some (.int .i64 u3) := HC.out _ hba 3 (by omega)
  have k4 : (w.alloc (.cells #[.int .i64 j, .int .i64 u1, .int .i64 x, .int .i64 m] 30)).cell? ⟨g, o + j * 6 + 4, none⟩ = some (.int .i64 u4) := HC.out _ hba 4 (by omega)
  have k5 : (w.alloc (.cells #[.int .i64 j, .int .i64 u1, .int .i64 x, .int .i64 m] 30)).cell? ⟨g, o + j * 6 + 5, none⟩ = some (.int .i64 u5) := HC.out _ hba 5 (by omega)
  clear hba
  go_enter Try.func18, Try.ntmps18
  go_upto_region 4 with fail
  clear k0 k1 k2 k3 k4 k5
  obtain ⟨bx, hbx⟩ : ∃ bx, w.heap.size = bx := ⟨_, rfl⟩
  simp only [hbx] at hb0 hd1 hd2 HC ⊢
  simp only [hbx] at HH0
  simp only [hbx] at HH1
  generalize (w.alloc (.cells #[.int .i64 j, .int .i64 u1, .int .i64 x, .int .i64 m] 30)).alloc (.cells #[.int .i64 3, .int .i64 u1, .int .i64 u2, .int .i64 u3, .int .i64 u4, .int .i64 u5] 44) = w3 at *
  have hb3 := hb0
  have t3 := hd1
  have s3 := hd2
  clear hd1 hd2 hb0
  have c1 := fun o => Lib.cell_of_heap t3 o
  have c2 := fun o => Lib.cell_of_heap s3 o
  have z1 := (show (#[.int .i64 j, .int .i64 u1, .int .i64 x, .int .i64 m] : Array Value).size = 4 from rfl)
  go_wp2_with fail
  refine (HR.out _).mono ?_
  rintro e w4 ⟨rfl, hb4⟩
  have t4 := (hb4.block _ (lt_of t3)).trans t3
  have s4 := (hb4.block _ (lt_of s3)).trans s3
  have hb5 := hb3.trans (hb4.mono (by rw [← hbx]; exact hb3.size))
  clear c1 c2 hb3 hb4 t3 s3
  have c1 := fun o => Lib.cell_of_heap t4 o
  have c2 := fun o => Lib.cell_of_heap s4 o
  dsimp only
  go_wp2_with fail
  refine (HH0.out _ hb5).mono ?_
  rintro e w5 ⟨rfl, hc5⟩
  have t5 := (hc5.block _ (lt_of t4)).trans t4
  have s5 := (hc5.block _ (lt_of s4)).trans s4
  have hb6 := hb5.trans (hc5.mono (by rw [← hbx]; exact hb5.size))
  clear c1 c2 t4 s4 hb5 hc5
  have c1 := fun o => Lib.cell_of_heap t5 o
  have c2 := fun o => Lib.cell_of_heap s5 o
  dsimp only
  go_wp2_with fail
  refine (HH1.out _ hb6).mono ?_
  rintro e w6 ⟨rfl, hc6⟩
  have t6 := (hc6.block _ (lt_of t5)).trans t5
  have s6 := (hc6.block _ (lt_of s5)).trans s5
  have hb7 := hb6.trans (hc6.mono (by rw [← hbx]; exact hb6.size))
  clear c1 c2 t5 s5 hb6 hc6
  have c1 := fun o => Lib.cell_of_heap t6 o
  have c2 := fun o => Lib.cell_of_heap s6 o
  dsimp only
  go_wp2_with fail
  go_ret
  exact ⟨rfl, by rw [hbx]; exact hb7⟩
set_option maxHeartbeats 1000000 in
set_option maxRecDepth 100000 in
theorem right4 (P K : Nat) (A : Option Addr) (ca : Nat) (L : List Ru) (B : Option Addr) (cb : Nat) (T : List Sp) (j : Nat) (x : Int) (hj : j < L.length) (u1 u2 u3 u4 u5 : Int) (hu : L[j] = ⟨4, u1, u2, u3, u4, u5⟩) (w : World) (g1 : P ≤ 10) (g2 : K ≤ 6) (hL : L.length ≤ 60) (hT : T.length ≤ 100000) (hA : UG w A L) (hB : TG w B T) (hr : rightU P K L[j] = true) (x0 : 0 ≤ x) (x1 : x < P) (h0 : hasS T (u3, x) = true) (h1 : hasS T (u4, x) = true) :
    Calls Try.prog 18 #[.int .i64 P, .int .i64 K, .slice A L.length ca, .slice B T.length cb, .agg #[.int .i64 j, .int .i64 u1, .int .i64 x, .int .i64 0]] w fun e w' => e = .returned (.bool true) ∧ Below w.heap.size w w' := by
  have e1 : decide ((j : Int) < 0) = false := by simp
  have e2 : decide ((L.length : Int) ≤ j) = false := by simp; omega
  have e7 : decide (L.length ≤ j) = false := by simp; omega
  have e3 : decide (x < 0) = false := by simp; omega
  have e4 : decide ((P : Int) ≤ x) = false := by simp; omega
  have e5 : decide ((64 : Int) < P) = false := by simp; omega
  have e6 : decide ((64 : Int) < K) = false := by simp; omega
  have q0 : (0 : Int) ≤ j := by omega
  have q1 : (j : Int) < L.length := by omega
  have HR := Lib.hid (fun w' => rightD P K L[j] w' (by omega) (by omega))
  simp only [Int.toNat_natCast, hr] at HR
  obtain ⟨g, o, rfl, hg, hc⟩ := hA (by omega)
  have HC := Lib.hid (fun w' (hb : Below w.heap.size w w') (k : Nat) (hk : k < 6) => (hb.cell (p := ⟨g, o + j * 6 + k, none⟩) hg).trans (hc j hj k hk))
  rw [hu] at HC HR
  have HH0 := Lib.hid (fun w' (hb : Below w.heap.size w w') => hasD B cb T (u3) (x) w' hT (hB.below hb))
  rw [h0] at HH0
  have HH1 := Lib.hid (fun w' (hb : Below w.heap.size w w') => hasD B cb T (u4) (x) w' hT (hB.below hb))
  rw [h1] at HH1
  clear hA hB hr hc hu h0 h1
  unfold Ru.val Ru.cells at *
  simp only at HR HC
  have hb0 : Below w.heap.size w ((w.alloc (.cells #[.int .i64 j, .int .i64 u1, .int .i64 x, .int .i64 0] 30)).alloc (.cells #[.int .i64 4, .int .i64 u1, .int .i64 u2, .int .i64 u3, .int .i64 u4, .int .i64 u5] 44)) := ((Below.refl _ _).alloc (Nat.le_refl _) _).alloc (by rw [World.size_alloc]; omega) _
  have hd1 := heap_alloc2_old w (.cells #[.int .i64 j, .int .i64 u1, .int .i64 x, .int .i64 0] 30) (.cells #[.int .i64 4, .int .i64 u1, .int .i64 u2, .int .i64 u3, .int .i64 u4, .int .i64 u5] 44)
  have hd2 := heap_alloc2_new w (.cells #[.int .i64 j, .int .i64 u1, .int .i64 x, .int .i64 0] 30) (.cells #[.int .i64 4, .int .i64 u1, .int .i64 u2, .int .i64 u3, .int .i64 u4, .int .i64 u5] 44)
  have hba : Below w.heap.size w (w.alloc (.cells #[.int .i64 j, .int .i64 u1, .int .i64 x, .int .i64 0] 30)) := (Below.refl _ _).alloc (Nat.le_refl _) _
  have k0 : (w.alloc (.cells #[.int .i64 j, .int .i64 u1, .int .i64 x, .int .i64 0] 30)).cell? ⟨g, o + j * 6, none⟩ = some (.int .i64 4) := HC.out _ hba 0 (by omega)
  have k1 : (w.alloc (.cells #[.int .i64 j, .int .i64 u1, .int .i64 x, .int .i64 0] 30)).cell? ⟨g, o + j * 6 + 1, none⟩ = some (.int .i64 u1) := HC.out _ hba 1 (by omega)
  have k2 : (w.alloc (.cells #[.int .i64 j, .int .i64 u1, .int .i64 x, .int .i64 0] 30)).cell? ⟨g, o + j * 6 + 2, none⟩ = some (.int .i64 u2) := HC.out _ hba 2 (by omega)
  have k3 : (w.alloc (.cells #[.int .i64 j, .int .i64 u1, .int .i64 x, .int .i64 0] 30)).cell? ⟨g, o + j * 6 + 3, none⟩ = some (.int .i64 u3) := HC.out _ hba 3 (by omega)
  have k4 : (w.alloc (.cells #[.int .i64 j, .int .i64 u1, .int .i64 x, .int .i64 0] 30)).cell? ⟨g, o + j * 6 + 4, none⟩ = some (.int .i64 u4) := HC.out _ hba 4 (by omega)
  have k5 : (w.alloc (.cells #[.int .i64 j, .int .i64 u1, .int .i64 x, .int .i64 0] 30)).cell? ⟨g, o + j * 6 + 5, none⟩ = some (.int .i64 u5) := HC.out _ hba 5 (by omega)
  clear hba
  go_enter Try.func18, Try.ntmps18
  go_upto_region 4 with fail
  clear k0 k1 k2 k3 k4 k5
  obtain ⟨bx, hbx⟩ : ∃ bx, w.heap.size = bx := ⟨_, rfl⟩
  simp only [hbx] at hb0 hd1 hd2 HC ⊢
  simp only [hbx] at HH0
  simp only [hbx] at HH1
  generalize (w.alloc (.cells #[.int .i64 j, .int .i64 u1, .int .i64 x, .int .i64 0] 30)).alloc (.cells #[.int .i64 4, .int .i64 u1, .int .i64 u2, .int .i64 u3, .int .i64 u4, .int .i64 u5] 44) = w3 at *
  have hb3 := hb0
  have t3 := hd1
  have s3 := hd2
  clear hd1 hd2 hb0
  have c1 := fun o => Lib.cell_of_heap t3 o
  have c2 := fun o => Lib.cell_of_heap s3 o
  have z1 := (show (#[.int .i64 j, .int .i64 u1, .int .i64 x, .int .i64 0] : Array Value).size = 4 from rfl)
  go_wp2_with fail
  refine (HR.out _).mono ?_
  rintro e w4 ⟨rfl, hb4⟩
  have t4 := (hb4.block _ (lt_of t3)).trans t3
  have s4 := (hb4.block _ (lt_of s3)).trans s3
  have hb5 := hb3.trans (hb4.mono (by rw [← hbx]; exact hb3.size))
  clear c1 c2 hb3 hb4 t3 s3
  have c1 := fun o => Lib.cell_of_heap t4 o
  have c2 := fun o => Lib.cell_of_heap s4 o
  dsimp only
  go_wp2_with fail
  refine (HH0.out _ hb5).mono ?_
  rintro e w5 ⟨rfl, hc5⟩
  have t5 := (hc5.block _ (lt_of t4)).trans t4
  have s5 := (hc5.block _ (lt_of s4)).trans s4
  have hb6 := hb5.trans (hc5.mono (by rw [← hbx]; exact hb5.size))
  clear c1 c2 t4 s4 hb5 hc5
  have c1 := fun o => Lib.cell_of_heap t5 o
  have c2 := fun o => Lib.cell_of_heap s5 o
  dsimp only
  go_wp2_with fail
  refine (HH1.out _ hb6).mono ?_
  rintro e w6 ⟨rfl, hc6⟩
  have t6 := (hc6.block _ (lt_of t5)).trans t5
  have s6 := (hc6.block _ (lt_of s5)).trans s5
  have hb7 := hb6.trans (hc6.mono (by rw [← hbx]; exact hb6.size))
  clear c1 c2 t5 s5 hb6 hc6
  have c1 := fun o => Lib.cell_of_heap t6 o
  have c2 := fun o => Lib.cell_of_heap s6 o
  dsimp only
  go_wp2_with fail
  go_ret
  exact ⟨rfl, by rw [hbx]; exact hb7⟩
end Go.Proofs.Ytihhojgnilbfnaa.PfS2
/- What a step of a proof must be (isPrin, fits), what is not known yet (the closure of Check), and whether one of some facts isn't (ContainsFunc), by contract. -/
namespace Go.Proofs.Ytihhojgnilbfnaa.PfW
set_option linter.unusedVariables false
set_option linter.unusedSimpArgs false
open Go.RowKit Go.Lib Go.Proofs Go.Maps Go.Proofs.Ytihhojgnilbfnaa.SetQ Go.Proofs.Ytihhojgnilbfnaa.SetR Go.Proofs.Ytihhojgnilbfnaa.TblC Go.Proofs.Ytihhojgnilbfnaa.TblV Go.Proofs.Ytihhojgnilbfnaa.TblQ Go.Proofs.Ytihhojgnilbfnaa.SemB Go.Proofs.Ytihhojgnilbfnaa.SemC Go.Proofs.Ytihhojgnilbfnaa.SemD Go.Proofs.Ytihhojgnilbfnaa.SemGa Go.Proofs.Ytihhojgnilbfnaa.SemJ Go.Proofs.Ytihhojgnilbfnaa.PfM Go.Proofs.Ytihhojgnilbfnaa.PfN Go.Proofs.Ytihhojgnilbfnaa.PfO Go.Proofs.Ytihhojgnilbfnaa.PfA Go.Proofs.Ytihhojgnilbfnaa.PfB Go.Proofs.Ytihhojgnilbfnaa.PfC Go.Proofs.Ytihhojgnilbfnaa.PfJ Go.Proofs.Ytihhojgnilbfnaa.PfK
set_option linter.unusedVariables false
set_option linter.unusedSimpArgs false
set_option maxHeartbeats 1000000 in
set_option maxRecDepth 100000 in
theorem isPrin (d0 d1 : Int) (v : Value) (x : Int) (w : World) : Calls Try.prog 33 #[.agg #[.int .i64 d0, .int .i64 d1, v], .int .i64 x] w fun e w' => e = .returned (.bool (decide (0 ≤ x ∧ x < d0))) ∧ Below w.heap.size w w' := by
  have hb := (Below.refl w.heap.size w).alloc (Nat.le_refl _) (.cells #[.int .i64 d0, .int .i64 d1, v] 50)
  have c0 := fun o => Lib.cell_of_heap (heap_alloc_new w (.cells #[.int .i64 d0, .int .i64 d1, v] 50)) o
  have HB := Lib.hid hb
  clear hb
  by_cases h1 : 0 ≤ x
  · have e1 : decide (0 ≤ x) = true := decide_eq_true h1
    by_cases h2 : x < d0
    · have e2 : decide (x < d0) = true := decide_eq_true h2
      rw [decide_eq_true (And.intro h1 h2)]
      go_enter Try.func33, Try.ntmps33
      go_wp2_with fail
      go_ret
      exact ⟨rfl, HB.out⟩
    · have e2 : decide (x < d0) = false := decide_eq_false h2
      rw [decide_eq_false (fun h : 0 ≤ x ∧ x < d0 => h2 h.2)]
      go_enter Try.func33, Try.ntmps33
      go_wp2_with fail
      go_ret
      exact ⟨rfl, HB.out⟩
  · have e1 : decide (0 ≤ x) = false := decide_eq_false h1
    rw [decide_eq_false (fun h : 0 ≤ x ∧ x < d0 => h1 h.1)]
    go_enter Try.func33, Try.ntmps33
    go_wp2_with fail
    go_ret
    exact ⟨rfl, HB.out⟩
set_option maxHeartbeats 4000000 in
set_option maxRecDepth 100000 in
theorem fits (d0 d1 : Int) (v : Value) (u : Ru) (s : Sp) (w : World) : Calls Try.prog 23 #[.agg #[.int .i64 d0, .int .i64 d1, v], .agg #[.int .i64 u.kind, .int .i64 u.head, .int .i64 u.who, .int .i64 u.a, .int .i64 u.b, .int .i64 u.via], .agg #[.int .i64 s.rule, .int .i64 s.role, .int .i64 s.who, .int .i64 s.mid]] w fun e w' => e = .returned (.bool (fitB d0 u s)) ∧ Below w.heap.size w w' := by
  unfold fitB
  obtain ⟨u0, u1, u2, u3, u4, u5⟩ := u
  obtain ⟨s0, s1, s2, s3⟩ := s
  simp only
  obtain ⟨w3, hw3, hb, x1, x2, x3, hsz⟩ := box3 w #[.int .i64 d0, .int .i64 d1, v] #[.int .i64 u0, .int .i64 u1, .int .i64 u2, .int .i64 u3, .int .i64 u4, .int .i64 u5] #[.int .i64 s0, .int .i64 s1, .int .i64 s2, .int .i64 s3] 50 44 30
  have HX := Lib.hid (fun w' (hb : Below w3.heap.size w3 w') => And.intro (fun o => Lib.cell_of_heap ((hb.block _ (lt_of x1)).trans x1) o) (And.intro (fun o => Lib.cell_of_heap ((hb.block _ (lt_of x2)).trans x2) o) (fun o => Lib.cell_of_heap ((hb.block _ (lt_of x3)).trans x3) o)))
  obtain ⟨c1, c2, c3⟩ := HX.out w3 (Below.refl _ _)
  have HP := Lib.hid (fun x w' => isPrin d0 d1 v x w')
  have HB := Lib.hid hb
  have HB2 := Lib.hid (fun w' (h : Below w3.heap.size w3 w') => nx hb h)
  clear hb x1 x2 x3 hsz
  obtain ⟨b2, h2⟩ : ∃ b, decide (0 ≤ s2 ∧ s2 < d0) = b := ⟨_, rfl⟩
  obtain ⟨b6, h6⟩ : ∃ b, decide (0 ≤ s3 ∧ s3 < d0) = b := ⟨_, rfl⟩
  have HP2 := Lib.hid (fun w' => HP.out s2 w')
  have HP6 := Lib.hid (fun w' => HP.out s3 w')
  rw [h2] at HP2
  rw [h6] at HP6
  rw [h2, h6]
  clear h2 h6 HP
  by_cases g1 : u1 = s1
  · subst g1
    have eu : decide (u1 = u1) = true := decide_eq_true rfl
    rw [eu]
    clear eu
    cases b2 with
    | false =>
      go_enter Try.func23, Try.ntmps23
      go_upto_region 1 with fail
      go_wp2_with fail
      refine (HP2.out _).mono ?_
      rintro e w4 ⟨rfl, hb4⟩
      have HB4 := Lib.hid (HB2.out _ hb4)
      clear c1 c2 c3 hb4
      go_wp2_with fail
      all_goals go_ret
      all_goals exact ⟨rfl, HB4.out⟩
    | true =>
      by_cases g3 : u0 = 3
      · subst g3
        go_enter Try.func23, Try.ntmps23
        go_upto_region 1 with fail
        go_wp2_with fail
        refine (HP2.out _).mono ?_
        rintro e w4 ⟨rfl, hb4⟩
        obtain ⟨c1, c2, c3⟩ := HX.out _ hb4
        have HB4 := Lib.hid hb4
        clear hb4
        go_wp2_with fail
        refine (HP6.out _).mono ?_
        rintro e w5 ⟨rfl, hb5⟩
        have HB5 := Lib.hid (HB2.out _ (nx HB4.out hb5))
        clear c1 c2 c3 hb5
        go_wp2_with fail
        go_ret
        exact ⟨by simp, HB5.out⟩
      · have d3 : (u0 == 3) = false := by simp [g3]
        rw [if_neg g3]
        by_cases g0 : u0 = 1
        · subst g0
          by_cases g4 : u2 = s2
          · subst g4
            go_enter Try.func23, Try.ntmps23
            go_upto_region 1 with fail
            go_wp2_with fail
            refine (HP2.out _).mono ?_
            rintro e w4 ⟨rfl, hb4⟩
            obtain ⟨c1, c2, c3⟩ := HX.out _ hb4
            have HB4 := Lib.hid (HB2.out _ hb4)
            clear hb4
            go_wp2_with fail
            go_ret
            exact ⟨by first | (simp; done) | (simp; rfl), HB4.out⟩
          · have d4 : (u2 == s2) = false := by simp [g4]
            have d4' : decide (u2 = s2) = false := by simp [g4]
            have d4'' : (u2 != s2) = true := by simp [g4]
            go_enter Try.func23, Try.ntmps23
            go_upto_region 1 with fail
            go_wp2_with fail
            refine (HP2.out _).mono ?_
            rintro e w4 ⟨rfl, hb4⟩
            obtain ⟨c1, c2, c3⟩ := HX.out _ hb4
            have HB4 := Lib.hid (HB2.out _ hb4)
            clear hb4
            go_wp2_with fail
            go_ret
            exact ⟨by first | (simp [g4]; done) | (simp [g4]; rfl), HB4.out⟩
        · have d0' : (u0 == 1) = false := by simp [g0]
          go_enter Try.func23, Try.ntmps23
          go_upto_region 1 with fail
          go_wp2_with fail
          refine (HP2.out _).mono ?_
          rintro e w4 ⟨rfl, hb4⟩
          obtain ⟨c1, c2, c3⟩ := HX.out _ hb4
          have HB4 := Lib.hid (HB2.out _ hb4)
          clear hb4
          go_wp2_with fail
          go_ret
          exact ⟨by first | (simp [g0]; done) | (simp [g0]; rfl), HB4.out⟩
  · have d1' : (u1 == s1) = false := by simp [g1]
    have d1'' : decide (u1 = s1) = false := by simp [g1]
    have d1c : (u1 != s1) = true := by simp [g1]
    rw [decide_eq_false g1]
    go_enter Try.func23, Try.ntmps23
    go_upto_region 1 with fail
    go_wp2_with fail
    all_goals go_ret
    all_goals exact ⟨rfl, HB.out⟩
set_option maxHeartbeats 1000000 in
set_option maxRecDepth 100000 in
theorem unk (w : World) (bp bm n : Nat) (kn : List Sp) (f : Fa) (hf : InR f) (hc : w.cell? ⟨bp, 0, none⟩ = some (.map (some bm))) (hm : MapV w 53 fv bm n (kmap kn)) :
    Calls Try.prog 21 #[.agg #[.int .i64 f.1, .int .i64 f.2], .pointer (some ⟨bp, 0, none⟩)] w fun e w' => e = .returned (.bool (!hasS kn f)) ∧ Below w.heap.size w w' := by
  obtain ⟨kl, hkl⟩ := keyF hf.1 hf.2
  obtain ⟨s, hs⟩ := kmap_val kn f
  have hb := (Below.refl w.heap.size w).alloc (Nat.le_refl _) (.cells #[.int .i64 f.1, .int .i64 f.2] 53)
  have hn := heap_alloc_new w (.cells #[.int .i64 f.1, .int .i64 f.2] 53)
  have l1 := (hm.below hb).look_ok lawF Try.underlying51 (zeroS _) hkl
  rw [hs, kmap_some] at l1
  have c1 := (hb.cell (p := ⟨bp, 0, none⟩) (World.block_lt_of_cell? _ _ hc)).trans hc
  have c2 := fun o => Lib.cell_of_heap hn o
  have HB := Lib.hid hb
  clear hb hn hm hc hs hkl hf
  unfold fv at l1
  generalize hasS kn f = ans at *
  obtain ⟨f1, f2⟩ := f
  simp only at *
  go_enter Try.func21, Try.ntmps21
  go_wp2_with fail
  go_ret
  exact ⟨rfl, HB.out.alloc (by simp) _⟩
/-- The closure as a value. -/
def unkV (bp : Nat) : Value := .func (.func 21) #[] #[.pointer (some ⟨bp, 0, none⟩)]
def Unk (w : World) (bp : Nat) (p : Fa → Bool) (D : List Fa) : Prop := ∀ w', Below w.heap.size w w' → ∀ f ∈ D, Calls Try.prog 21 #[.agg #[.int .i64 f.1, .int .i64 f.2], .pointer (some ⟨bp, 0, none⟩)] w' fun e w'' => e = .returned (.bool (p f)) ∧ Below w'.heap.size w' w''
def FG (w : World) (A : Option Addr) (D : List Fa) : Prop := 0 < D.length → ∃ g, A = some ⟨g, 0, none⟩ ∧ w.heap[g]? = some (.cells (encP D).toArray 53 (0, 0))
set_option maxHeartbeats 1000000 in
set_option maxRecDepth 100000 in
theorem idxF (w : World) (bp : Nat) (p : Fa → Bool) (D : List Fa) (A : Option Addr) (ca : Nat) (hU : Unk w bp p D) (hA : FG w A D) (hl : D.length ≤ 1000) :
    Calls Try.prog 34 #[.slice A D.length ca, unkV bp] w fun e w' => (∃ i : Int, e = .returned (.int .i64 i) ∧ decide (0 ≤ i) = D.any p) ∧ Below w.heap.size w w' := by
  have HF := Lib.hid hU
  have HN := Lib.hid (fun w' (hb : Below w.heap.size w w') (h : 0 < D.length) => by
    obtain ⟨g, e, hg⟩ := hA h
    exact (⟨g, e, (hb.block _ (lt_of hg)).trans hg⟩ : ∃ g, A = some ⟨g, 0, none⟩ ∧ w'.heap[g]? = some (.cells (encP D).toArray 53 (0, 0))))
  clear hU hA
  unfold unkV
  go_enter Try.func34, Try.ntmps34
  go_wp2_with fail
  go_loopw [8] (fun i wr => ∃ k : Nat, k ≤ D.length ∧ i = .int .i64 k ∧ Below w.heap.size w wr ∧ Hid ((D.take k).any p = false)) (fun i _ => D.length - (intOf i).toNat)
  case atStart => exact ⟨0, by omega, rfl, Below.refl _ _, Lib.hid rfl⟩
  case round =>
    obtain ⟨k, hk, rfl, hb, hall⟩ := hrel
    have HB := Lib.hid hb
    by_cases hlt : k < D.length
    · have e1 : decide ((k : Int) < D.length) = true := by simp; omega
      obtain ⟨g, rfl, hg⟩ := HN.out _ hb (by omega)
      obtain ⟨z0, z1⟩ := encP_at D k hlt
      have a0 : wr.cell? ⟨g, k * 2, none⟩ = some (.int .i64 D[k].1) := by rw [Lib.cell_of_heap hg]; simpa using z0
      have a1 : wr.cell? ⟨g, k * 2 + 1, none⟩ = some (.int .i64 D[k].2) := by rw [Lib.cell_of_heap hg]; simpa using z1
      have HFk := Lib.hid (HF.out _ hb D[k] (List.getElem_mem hlt))
      have HNX : Hid (p D[k] = false → (D.take (k + 1)).any p = false) := Lib.hid (fun h => by rw [List.take_succ_eq_append_getElem hlt, List.any_append, hall.out]; simp [h])
      have HST : Hid (p D[k] = true → decide (0 ≤ (k : Int)) = D.any p) := Lib.hid (fun h => by
        have e : D.any p = true := by
          rw [List.any_eq_true]
          exact ⟨D[k], List.getElem_mem hlt, h⟩
        rw [e]; simp)
      have q0 : (0 : Int) ≤ k := by omega
      have q1 : (k : Int) < D.length := by omega
      have hw : IntKind.i64.wrap ((k : Int) + 1) = (k : Int) + 1 := by rw [IntKind.wrap_i64]; omega
      clear hb hall hg z0 z1
      generalize D[k] = x at *
      obtain ⟨x1, x2⟩ := x
      simp only at HFk a0 a1
      cases hpx : p (x1, x2)
      · rw [hpx] at HFk
        have HE := Lib.hid (HNX.out hpx)
        clear hpx HST HNX
        go_wp2_with fail
        refine HFk.out.mono ?_
        rintro e w1 ⟨rfl, hb1⟩
        have HB1 := Lib.hid (SemI.nx HB.out hb1)
        clear hb1 a0 a1
        go_wp2_with fail
        go_roundw
        case rel => exact ⟨k + 1, by omega, by go_num, HB1.out, HE⟩
        case measure => simp [intOf]; omega
      · rw [hpx] at HFk
        have HE := Lib.hid (HST.out hpx)
        clear hpx HST HNX
        go_wp2_with fail
        refine HFk.out.mono ?_
        rintro e w1 ⟨rfl, hb1⟩
        have HB1 := Lib.hid (SemI.nx HB.out hb1)
        clear hb1 a0 a1
        go_wp2_with fail
        go_ret
        exact ⟨⟨_, rfl, HE.out⟩, HB1.out⟩
    · have e1 : decide ((k : Int) < D.length) = false := by simp; omega
      have HE : Hid (decide ((0 : Int) ≤ -1) = D.any p) := Lib.hid (by
        have := hall.out
        rw [List.take_of_length_le (by omega)] at this
        rw [this]; rfl)
      clear hb hall
      go_wp2_with fail
      go_ret
      exact ⟨⟨_, rfl, HE.out⟩, HB.out⟩
set_option maxRecDepth 100000 in
theorem contF (w : World) (bp : Nat) (p : Fa → Bool) (D : List Fa) (A : Option Addr) (ca : Nat) (hU : Unk w bp p D) (hA : FG w A D) (hl : D.length ≤ 1000) :
    Calls Try.prog 24 #[.slice A D.length ca, unkV bp] w fun e w' => e = .returned (.bool (D.any p)) ∧ Below w.heap.size w w' := by
  have HI := Lib.hid (idxF w bp p D A ca hU hA hl)
  clear hU hA
  generalize D.any p = r at *
  generalize unkV bp = fv at *
  go_enter Try.func24, Try.ntmps24
  go_wp2_with fail
  refine HI.out.mono ?_
  rintro e w1 ⟨⟨i, rfl, he⟩, hb1⟩
  have HB1 := Lib.hid hb1
  have HE := Lib.hid he
  clear hb1 HI he
  go_wp2_with fail
  go_ret
  exact ⟨SetB.ret_bool HE.out, HB1.out⟩
end Go.Proofs.Ytihhojgnilbfnaa.PfW
/- Check of any steps, by contract. -/
namespace Go.Proofs.Ytihhojgnilbfnaa.PfX
set_option linter.unusedVariables false
set_option linter.unusedSimpArgs false
open Go.RowKit Go.Lib Go.Proofs Go.Maps Go.Proofs.Ytihhojgnilbfnaa.TblB Go.Proofs.Ytihhojgnilbfnaa.SetQ Go.Proofs.Ytihhojgnilbfnaa.SetR Go.Proofs.Ytihhojgnilbfnaa.TblC Go.Proofs.Ytihhojgnilbfnaa.TblV Go.Proofs.Ytihhojgnilbfnaa.TblQ Go.Proofs.Ytihhojgnilbfnaa.SemB Go.Proofs.Ytihhojgnilbfnaa.SemC Go.Proofs.Ytihhojgnilbfnaa.SemD Go.Proofs.Ytihhojgnilbfnaa.SemGa Go.Proofs.Ytihhojgnilbfnaa.SemJ Go.Proofs.Ytihhojgnilbfnaa.PfM Go.Proofs.Ytihhojgnilbfnaa.PfN Go.Proofs.Ytihhojgnilbfnaa.PfO Go.Proofs.Ytihhojgnilbfnaa.PfA Go.Proofs.Ytihhojgnilbfnaa.PfB Go.Proofs.Ytihhojgnilbfnaa.PfC Go.Proofs.Ytihhojgnilbfnaa.PfE Go.Proofs.Ytihhojgnilbfnaa.PfJ Go.Proofs.Ytihhojgnilbfnaa.PfK Go.Proofs.Ytihhojgnilbfnaa.PfL Go.Proofs.Ytihhojgnilbfnaa.PfW
set_option linter.unusedVariables false
set_option linter.unusedSimpArgs false
theorem chk_app (P K : Nat) (L : List Ru) : ∀ (l A r : List Sp), chk P K L A (l ++ r) = (chk P K L A l && chk P K L (A ++ l) r)
  | [], A, r => by simp [chk]
  | x :: l, A, r => by
    have := chk_app P K L l (A ++ [x]) r
    simp only [List.cons_append, chk, this, List.append_assoc, List.nil_append, Bool.and_assoc, List.singleton_append]
theorem chk_stop {P K : Nat} {L : List Ru} {T : List Sp} (k : Nat) (h : chk P K L [] (T.take k) = false) : chk P K L [] T = false := by
  rw [← List.take_append_drop k T, chk_app, h, Bool.false_and]
theorem chk_next {P K : Nat} {L : List Ru} {T : List Sp} {k : Nat} (hk : k < T.length) (h : chk P K L [] (T.take k) = true) : chk P K L [] (T.take (k + 1)) = (okS P K L (T.take k) T[k] && !hasS (T.take k) T[k].fa) := by
  rw [List.take_succ_eq_append_getElem hk, chk_snoc, h, Bool.true_and, List.nil_append]
theorem okS_none {P K : Nat} {L : List Ru} {A : List Sp} {s : Sp} (h : ruleAt P K L s.rule = none) : okS P K L A s = false := by unfold okS; rw [h]
theorem okS_some {P K : Nat} {L : List Ru} {A : List Sp} {s : Sp} {u : Ru} (h : ruleAt P K L s.rule = some u) : okS P K L A s = (fitB P u s && (under K u s).all (hasS A)) := by unfold okS; rw [h]
theorem any_not (l : List Fa) (p : Fa → Bool) : (l.any fun f => !p f) = !(l.all p) := by
  induction l with
  | nil => rfl
  | cons a l ih => simp [ih]
theorem under_in {P K : Nat} {u : Ru} {s : Sp} (hP : P ≤ 64) (hK : K ≤ 64) (hr : rightU P K u = true) (hf : fitB P u s = true) : ∀ f ∈ under K u s, InR f := by
  obtain ⟨_, _, hw, ha, hb, hv⟩ := right_r hr
  have h1 : P * K ≤ 64 * 64 := Nat.mul_le_mul hP hK
  unfold fitB at hf
  simp only [Bool.and_eq_true, decide_eq_true_eq] at hf
  obtain ⟨_, hx, _, hm⟩ := hf
  unfold under
  split
  · intro f hf
    simp at hf
    subst hf
    unfold InR
    simp only
    omega
  · split
    · rename_i h3
      rw [if_pos h3, decide_eq_true_eq] at hm
      obtain ⟨m, hm'⟩ : ∃ m : Nat, s.mid = m := ⟨s.mid.toNat, by omega⟩
      have h2 : m * K ≤ 64 * 64 := Nat.mul_le_mul (by omega) hK
      have h4 : 0 ≤ s.mid * (K : Int) ∧ s.mid * (K : Int) ≤ 4096 := by
        rw [hm', ← Int.natCast_mul]
        omega
      intro f hf
      simp at hf
      rcases hf with rfl | rfl
      · unfold InR
        simp only
        omega
      · unfold InR
        simp only
        omega
    · split
      · intro f hf
        simp at hf
        rcases hf with rfl | rfl
        · unfold InR
          simp only
          omega
        · unfold InR
          simp only
          omega
      · intro f hf
        cases hf
theorem box2 (w : World) (c1 c2 : Array Value) (t1 t2 : TypeId) : ∃ w3, (w.alloc (.cells c1 t1)).alloc (.cells c2 t2) = w3 ∧ Below w.heap.size w w3 ∧ w3.heap[w.heap.size]? = some (.cells c1 t1 (0, 0)) ∧ w3.heap[w.heap.size + 1]? = some (.cells c2 t2 (0, 0)) ∧ w3.heap.size = w.heap.size + 1 + 1 :=
  ⟨_, rfl, ((Below.refl w.heap.size w).alloc (Nat.le_refl _) _).alloc (by simp) _, heap_alloc2_old w _ _, heap_alloc2_new w _ _, by simp⟩
/-- What Check holds in memory. -/
structure Ck (W w : World) (d0 d1 : Int) (A : Option Addr) (n ca b : Nat) (kn : List Sp) : Prop where
  bel : Below W.heap.size W w
  hg : w.heap[b]? = some (.cells #[.int .i64 d0, .int .i64 d1, .slice A n ca] 50 (0, 0))
  hm : w.heap[b + 1 + 1]? = some (.cells #[.map (some (b + 1))] 51 (0, 0))
  km : MapV w 53 fv (b + 1) kn.length (kmap kn)
  up : W.heap.size ≤ b
theorem Ck.below {W w w' : World} {d0 d1 : Int} {A : Option Addr} {n ca b : Nat} {kn : List Sp} (h : Ck W w d0 d1 A n ca b kn) (hb : Below w.heap.size w w') : Ck W w' d0 d1 A n ca b kn :=
  ⟨nx h.bel hb, (hb.block _ (lt_of h.hg)).trans h.hg, (hb.block _ (lt_of h.hm)).trans h.hm, h.km.below hb, h.up⟩
theorem Ck.turned {W w w' : World} {d0 d1 : Int} {A : Option Addr} {n ca b : Nat} {kn kn' : List Sp} (h : Ck W w d0 d1 A n ca b kn) (hm : MapV w' 53 fv (b + 1) kn'.length (kmap kn')) (ht : w.mapTurned w' (b + 1)) : Ck W w' d0 d1 A n ca b kn' := by
  have hg := ht.grown
  have hk : ∀ {c : Nat}, c < w.heap.size → c ≠ b + 1 → w'.heap[c]? = w.heap[c]? := fun {c} hc hne => hg.block c hc (fun e => hne (by simpa using e))
  exact {
    bel := h.bel.grown hg h.bel.size (fun k hk => by simp at hk; subst hk; have := h.up; omega)
    hg := (hk (lt_of h.hg) (by omega)).trans h.hg
    hm := (hk (lt_of h.hm) (by omega)).trans h.hm
    km := hm
    up := h.up }
theorem ck_start (w : World) (d0 d1 : Int) (A : Option Addr) (n ca : Nat) : Ck w (((w.alloc (.cells #[.int .i64 d0, .int .i64 d1, .slice A n ca] 50)).alloc (.map #[] 0)).alloc (.cells #[.map (some (w.heap.size + 1))] 51)) d0 d1 A n ca w.heap.size [] := by
  have g0 := heap_alloc_new w (.cells #[.int .i64 d0, .int .i64 d1, .slice A n ca] 50)
  have b0 := (Below.refl w.heap.size w).alloc (Nat.le_refl _) (.cells #[.int .i64 d0, .int .i64 d1, .slice A n ca] 50)
  obtain ⟨w1, h1⟩ : ∃ x, w.alloc (.cells #[.int .i64 d0, .int .i64 d1, .slice A n ca] 50) = x := ⟨_, rfl⟩
  have z1 : w1.heap.size = w.heap.size + 1 := by rw [← h1]; simp
  rw [h1] at g0 b0 ⊢
  have m1 := MapV.made (key := fv) w1 53
  have b1 := (Below.refl w1.heap.size w1).alloc (Nat.le_refl _) (.map #[] 0)
  obtain ⟨w2, h2⟩ : ∃ x, w1.alloc (.map #[] 0) = x := ⟨_, rfl⟩
  have z2 : w2.heap.size = w.heap.size + 1 + 1 := by rw [← h2]; simp [z1]
  rw [h2] at m1 b1 ⊢
  rw [z1] at m1
  have g2 := heap_alloc_new w2 (.cells #[.map (some (w.heap.size + 1))] 51)
  have b2 := (Below.refl w2.heap.size w2).alloc (Nat.le_refl _) (.cells #[.map (some (w.heap.size + 1))] 51)
  rw [z2] at g2
  exact ⟨nx (nx b0 b1) b2, (b2.block _ (by omega)).trans ((b1.block _ (by omega)).trans g0), g2, (by simpa using (m1.below b2) : MapV _ _ _ _ _ (fun _ => none)), Nat.le_refl _⟩
set_option maxHeartbeats 4000000 in
set_option maxRecDepth 100000 in
theorem checkP (d0 d1 : Int) (A : Option Addr) (ca : Nat) (L : List Ru) (B : Option Addr) (cb : Nat) (T : List Sp) (w : World) (g1 : d0 ≤ 64) (g2 : d1 ≤ 64) (hL : L.length ≤ 1000) (hT : T.length ≤ 100000) (hA : UG w A L) (hB : TG w B T) (hI : ∀ s ∈ T, InR s.fa) :
    Calls Try.prog 10 #[.int .i64 d0, .int .i64 d1, .slice A L.length ca, .slice B T.length cb] w fun e w' => e = .returned (.bool (chk d0.toNat d1.toNat L [] T)) ∧ Below w.heap.size w w' := by
  have hmm := @run_makeMap Try.prog
  have hmf : ∀ (fn : Fn) (first cap : Array Value) (w : World), (Instr.makeFunc fn first cap).run Try.prog w = .ok (.func fn first cap) w := fun _ _ _ _ => rfl
  have HC0 := Lib.hid (ck_start w d0 d1 A L.length ca)
  have HR := Lib.hid (fun w' (hb : Below w.heap.size w w') (i : Int) => rule d0 d1 A ca L i w' g1 g2 hL (hA.below hb))
  have HB := Lib.hid (fun w' (hb : Below w.heap.size w w') => hB.below hb)
  clear hA hB
  obtain ⟨ans, hans⟩ : ∃ b, chk d0.toNat d1.toNat L [] T = b := ⟨_, rfl⟩
  rw [hans]
  have HAns := Lib.hid hans
  clear hans
  go_enter Try.func10, Try.ntmps10
  go_wp2_with fail
  clear hmm hmf
  go_loopw [25] (fun i wr => ∃ k : Nat, k ≤ T.length ∧ i = .int .i64 k ∧ Hid (Ck w wr d0 d1 A L.length ca w.heap.size (T.take k)) ∧ Hid (chk d0.toNat d1.toNat L [] (T.take k) = true)) (fun i _ => T.length - (intOf i).toNat)
  case atStart => exact ⟨0, by omega, rfl, Lib.hid HC0.out, Lib.hid rfl⟩
  case round =>
    obtain ⟨k, hk, rfl, hck, hch⟩ := hrel
    by_cases hlt : k < T.length
    · have e1 : decide ((k : Int) < T.length) = true := by simp; omega
      obtain ⟨g, o, rfl, hg, hc⟩ := HB.out _ hck.out.bel (by omega)
      have hc2 := hc k hlt
      have hin := hI T[k] (List.getElem_mem hlt)
      have hnx := chk_next hlt hch.out
      have HFail : Hid ((okS d0.toNat d1.toNat L (T.take k) T[k] && !hasS (T.take k) T[k].fa) = false → ans = false) := Lib.hid (fun h => by rw [← HAns.out]; exact chk_stop (k + 1) (by rw [hnx, h]))
      have HGood : Hid ((okS d0.toNat d1.toNat L (T.take k) T[k] && !hasS (T.take k) T[k].fa) = true → chk d0.toNat d1.toNat L [] (T.take (k + 1)) = true) := Lib.hid (fun h => by rw [hnx, h])
      have HPut : Hid (hasS (T.take k) T[k].fa = false → putK (kmap (T.take k)) T[k].fa (Sp.val T[k]) = kmap (T.take (k + 1))) := Lib.hid (fun h => by rw [List.take_succ_eq_append_getElem hlt]; exact kmap_put h)
      have HLt : Hid ((T.take (k + 1)).length = (T.take k).length + 1) := Lib.hid (by rw [List.length_take, List.length_take]; omega)
      have HLk : Hid ((T.take k).length ≤ 100000) := Lib.hid (by rw [List.length_take]; omega)
      clear hc hnx
      have q0 : (0 : Int) ≤ k := by omega
      have q1 : (k : Int) < T.length := by omega
      have hwk : IntKind.i64.wrap ((k : Int) + 1) = (k : Int) + 1 := by rw [IntKind.wrap_i64]; omega
      generalize T[k] = s at *
      obtain ⟨s0, s1, s2, s3⟩ := s
      simp only [Sp.cells] at hc2
      have y0 : wr.cell? ⟨g, o + k * 4, none⟩ = some (.int .i64 s0) := hc2 0 (by omega)
      have y1 : wr.cell? ⟨g, o + k * 4 + 1, none⟩ = some (.int .i64 s1) := hc2 1 (by omega)
      have y2 : wr.cell? ⟨g, o + k * 4 + 2, none⟩ = some (.int .i64 s2) := hc2 2 (by omega)
      have y3 : wr.cell? ⟨g, o + k * 4 + 3, none⟩ = some (.int .i64 s3) := hc2 3 (by omega)
      clear hc2
      have hn := heap_alloc_new wr (.cells #[.int .i64 s0, .int .i64 s1, .int .i64 s2, .int .i64 s3] 30)
      have hba := (Below.refl wr.heap.size wr).alloc (Nat.le_refl _) (.cells #[.int .i64 s0, .int .i64 s1, .int .i64 s2, .int .i64 s3] 30)
      have hk1 := hck.out.below hba
      have HK1 := Lib.hid hk1
      have HRk := Lib.hid (HR.out _ hk1.bel s0)
      have HN := Lib.hid hn
      have cg := fun o => Lib.cell_of_heap hk1.hg o
      have cs := fun o => Lib.cell_of_heap hn o
      unfold RulePost at HRk
      obtain ⟨b0, hb0⟩ : ∃ b, w.heap.size = b := ⟨_, rfl⟩
      obtain ⟨bs, hbs⟩ : ∃ b, wr.heap.size = b := ⟨_, rfl⟩
      simp only [hb0, hbs] at cg cs HN HK1 ⊢
      clear hn hba hk1
      go_wp2_with fail
      refine HRk.out.mono ?_
      rintro e w4 ⟨v, rfl, hv, hb4⟩
      obtain ⟨v0, v1, v2, v3, v4, v5⟩ := v
      have hk4 := HK1.out.below hb4
      have hs4 := (hb4.block _ (lt_of HN.out)).trans HN.out
      obtain ⟨w6, hw6, hb6, x1, x2, hsz⟩ := box2 w4 #[.int .i64 v0, .int .i64 v1, .int .i64 v2, .int .i64 v3, .int .i64 v4, .int .i64 v5] #[.int .i64 s1, .int .i64 s2] 44 53
      have hk6 := hk4.below hb6
      have hs6 := (hb6.block _ (lt_of hs4)).trans hs4
      have HX := Lib.hid (fun w' (hb : Below w6.heap.size w6 w') => And.intro (hk6.below hb) (And.intro ((hb.block _ (lt_of hs6)).trans hs6) (And.intro ((hb.block _ (lt_of x1)).trans x1) ((hb.block _ (lt_of x2)).trans x2))))
      have hs5 := (((Below.refl w4.heap.size w4).alloc (Nat.le_refl _) (.cells #[.int .i64 v0, .int .i64 v1, .int .i64 v2, .int .i64 v3, .int .i64 v4, .int .i64 v5] 44)).block _ (lt_of hs4)).trans hs4
      have cs5 := fun o => Lib.cell_of_heap hs5 o
      have z4 : (w4.alloc (.cells #[.int .i64 v0, .int .i64 v1, .int .i64 v2, .int .i64 v3, .int .i64 v4, .int .i64 v5] 44)).heap.size = w4.heap.size + 1 := by simp
      clear hs5 hs4
      clear hk4 hb4 hk6 hs6 x1 x2 HK1 HN HRk cs cg
      simp only
      cases hr : ruleAt d0.toNat d1.toNat L s0 with
      | none =>
        have HE := Lib.hid (HFail.out (by rw [okS_none hr, Bool.false_and]))
        have HBn := Lib.hid (HX.out w6 (Below.refl _ _)).1.bel
        clear hr hv HFail HGood HPut HX hck hch
        simp only [Option.isSome]
        go_wp2_with fail
        go_ret
        exact ⟨SetB.ret_bool HE.out.symm, by first | exact HBn.out | (rw [hb0]; exact HBn.out)⟩
      | some u =>
        obtain rfl := hv u hr
        simp only [Option.isSome]
        go_upto_region 9 with fail
        clear cs5 z4
        obtain ⟨r0, r1, r2, r3⟩ := ruleAt_some hr
        obtain ⟨p0, p1⟩ := right_dims r3
        have e0 : ((d0.toNat : Nat) : Int) = d0 := by omega
        have eK : d1 = ((d1.toNat : Nat) : Int) := by omega
        have hok := okS_some (A := T.take k) (s := ⟨s0, s1, s2, s3⟩) hr
        rw [e0] at hok
        rw [hok] at HFail HGood
        have HFt := Lib.hid (fun w' => fits d0 d1 (.slice A L.length ca) ⟨v0, v1, v2, v3, v4, v5⟩ ⟨s0, s1, s2, s3⟩ w')
        have HIn : Hid (fitB d0 ⟨v0, v1, v2, v3, v4, v5⟩ ⟨s0, s1, s2, s3⟩ = true → ∀ f ∈ under d1.toNat ⟨v0, v1, v2, v3, v4, v5⟩ ⟨s0, s1, s2, s3⟩, InR f) := Lib.hid (fun h => under_in (P := d0.toNat) (by omega) (by omega) r3 (by rw [e0]; exact h))
        have HUn : Hid (fitB d0 ⟨v0, v1, v2, v3, v4, v5⟩ ⟨s0, s1, s2, s3⟩ = true → ∀ w', Calls Try.prog 25 #[.agg #[.int .i64 d0, .int .i64 d1, .slice A L.length ca], .agg #[.int .i64 v0, .int .i64 v1, .int .i64 v2, .int .i64 v3, .int .i64 v4, .int .i64 v5], .agg #[.int .i64 s0, .int .i64 s1, .int .i64 s2, .int .i64 s3]] w' (UnderPost (under d1.toNat ⟨v0, v1, v2, v3, v4, v5⟩ ⟨s0, s1, s2, s3⟩) w')) := Lib.hid (fun h w' => under_ d0 d1 A L.length ca ⟨v0, v1, v2, v3, v4, v5⟩ ⟨s0, s1, s2, s3⟩ d1.toNat w' (fun k3 => by
          simp only at k3
          have q := h
          unfold fitB at q
          simp only [Bool.and_eq_true, decide_eq_true_eq] at q
          have q := q.2.2.2
          rw [if_pos k3, decide_eq_true_eq] at q
          obtain ⟨_, _, _, _, _, rv⟩ := right_r r3
          simp only at rv ⊢
          omega))
        simp only [Sp.fa] at HFail HGood HPut hin
        have HUk := Lib.hid (fun w' (hb : Below w6.heap.size w6 w') (f : Fa) (hf : InR f) => unk w' (b0 + 1 + 1) (b0 + 1) _ (T.take k) f hf (Lib.cell_of_heap (HX.out w' hb).1.hm 0) (HX.out w' hb).1.km)
        have hlen : (under (d1.toNat : Int) ⟨v0, v1, v2, v3, v4, v5⟩ ⟨s0, s1, s2, s3⟩).length ≤ 2 := by unfold under; split <;> (try split) <;> (try split) <;> simp
        generalize under (d1.toNat : Int) ⟨v0, v1, v2, v3, v4, v5⟩ ⟨s0, s1, s2, s3⟩ = D at *
        clear hok hr hv r0 r1 r2 r3 p0 p1 e0 eK
        have hb66 := Below.refl w6.heap.size w6
        obtain ⟨hk_, zs_, zr_, zf_⟩ := HX.out w6 hb66
        have cg := fun o => Lib.cell_of_heap hk_.hg o
        have cm := fun o => Lib.cell_of_heap hk_.hm o
        have cs := fun o => Lib.cell_of_heap zs_ o
        have cr := fun o => Lib.cell_of_heap zr_ o
        have cf := fun o => Lib.cell_of_heap zf_ o
        clear hk_ zs_ zr_ zf_
        cases hfit : fitB d0 ⟨v0, v1, v2, v3, v4, v5⟩ ⟨s0, s1, s2, s3⟩ with
        | false =>
          rw [hfit] at HFt HFail
          have HE := Lib.hid (HFail.out rfl)
          have HBn := Lib.hid (fun w' hb => (HX.out w' hb).1.bel)
          clear HFail HGood HPut hck hch HIn HUn HUk hb66 HX
          go_wp2_with fail
          refine (HFt.out _).mono ?_
          rintro e w7 ⟨rfl, hb7⟩
          have HBm := Lib.hid (HBn.out _ hb7)
          clear HBn hb7 cg cm cs cr cf
          go_wp2_with fail
          go_ret
          exact ⟨SetB.ret_bool HE.out.symm, by first | exact HBm.out | (rw [hb0]; exact HBm.out)⟩
        | true =>
          rw [hfit] at HFt HFail HGood
          have HIn2 := Lib.hid (HIn.out hfit)
          have HUn2 := Lib.hid (HUn.out hfit)
          have HUo := Lib.hid (fun w' hb => HUk.out w' hb (s1, s2) hin)
          simp only at HUo
          clear HIn HUn hfit
          cases hown : hasS (T.take k) (s1, s2) with
          | true =>
            rw [hown] at HUo HFail
            have HE := Lib.hid (HFail.out (by simp))
            have HBn := Lib.hid (fun w' hb => (HX.out w' hb).1.bel)
            clear HFail HGood HPut hck hch HIn2 HUn2 HUk
            go_wp2_with fail
            refine (HFt.out _).mono ?_
            rintro e w7 ⟨rfl, hb7⟩
            have HB7 := Lib.hid hb7
            clear cg cm cs cr cf hb66 hb7
            obtain ⟨hk_, zs_, zr_, zf_⟩ := HX.out _ HB7.out
            have cg := fun o => Lib.cell_of_heap hk_.hg o
            have cm := fun o => Lib.cell_of_heap hk_.hm o
            have cs := fun o => Lib.cell_of_heap zs_ o
            have cr := fun o => Lib.cell_of_heap zr_ o
            have cf := fun o => Lib.cell_of_heap zf_ o
            clear hk_ zs_ zr_ zf_
            go_wp2_with fail
            refine (HUo.out _ HB7.out).mono ?_
            rintro e w8 ⟨rfl, hb8⟩
            have HBm := Lib.hid (HBn.out _ (nx HB7.out hb8))
            clear HBn hb8 cg cm cs cr cf HX
            go_wp2_with fail
            go_ret
            exact ⟨SetB.ret_bool HE.out.symm, by first | exact HBm.out | (rw [hb0]; exact HBm.out)⟩
          | false =>
            rw [hown] at HUo HFail HGood
            have HPut2 := Lib.hid (HPut.out hown)
            clear HPut hown
            go_wp2_with fail
            refine (HFt.out _).mono ?_
            rintro e w7 ⟨rfl, hb7⟩
            have HB7 := Lib.hid hb7
            clear cg cm cs cr cf hb66 hb7
            obtain ⟨hk_, zs_, zr_, zf_⟩ := HX.out _ HB7.out
            have cg := fun o => Lib.cell_of_heap hk_.hg o
            have cm := fun o => Lib.cell_of_heap hk_.hm o
            have cs := fun o => Lib.cell_of_heap zs_ o
            have cr := fun o => Lib.cell_of_heap zr_ o
            have cf := fun o => Lib.cell_of_heap zf_ o
            clear hk_ zs_ zr_ zf_
            go_wp2_with fail
            refine (HUo.out _ HB7.out).mono ?_
            rintro e w8 ⟨rfl, hb8⟩
            have HB8 := Lib.hid (nx HB7.out hb8)
            clear cg cm cs cr cf hb8 HUo HFt
            obtain ⟨hk_, zs_, zr_, zf_⟩ := HX.out _ HB8.out
            have cg := fun o => Lib.cell_of_heap hk_.hg o
            have cm := fun o => Lib.cell_of_heap hk_.hm o
            have cs := fun o => Lib.cell_of_heap zs_ o
            have cr := fun o => Lib.cell_of_heap zr_ o
            have cf := fun o => Lib.cell_of_heap zf_ o
            clear hk_ zs_ zr_ zf_
            go_wp2_with fail
            refine (HUn2.out _).mono ?_
            rintro e w9 ⟨A9, rfl, hA9, hb9⟩
            have HB9 := Lib.hid (nx HB8.out hb9)
            have HCo := Lib.hid (contF w9 (b0 + 1 + 1) (fun f => !hasS (T.take k) f) D A9 D.length (fun w' hb f hf => HUk.out w' (nx HB9.out hb) f (HIn2.out f hf)) (fun hp => by obtain ⟨g, e, _, hg⟩ := hA9 hp; exact ⟨g, e, hg⟩) (by omega))
            rw [any_not] at HCo
            unfold unkV at HCo
            clear cg cm cs cr cf hb9 HUn2 HUk HIn2 hA9
            obtain ⟨hk_, zs_, zr_, zf_⟩ := HX.out _ HB9.out
            have cg := fun o => Lib.cell_of_heap hk_.hg o
            have cm := fun o => Lib.cell_of_heap hk_.hm o
            have cs := fun o => Lib.cell_of_heap zs_ o
            have cr := fun o => Lib.cell_of_heap zr_ o
            have cf := fun o => Lib.cell_of_heap zf_ o
            clear hk_ zs_ zr_ zf_
            go_wp2_with fail
            refine HCo.out.mono ?_
            rintro e w10 ⟨rfl, hb10⟩
            have HB10 := Lib.hid (nx HB9.out hb10)
            clear cg cm cs cr cf hb10 HCo
            obtain ⟨hk_, zs_, zr_, zf_⟩ := HX.out _ HB10.out
            have cg := fun o => Lib.cell_of_heap hk_.hg o
            have cm := fun o => Lib.cell_of_heap hk_.hm o
            have cs := fun o => Lib.cell_of_heap zs_ o
            have cr := fun o => Lib.cell_of_heap zr_ o
            have cf := fun o => Lib.cell_of_heap zf_ o
            clear hk_ zs_ zr_ zf_
            cases hall : D.all (hasS (T.take k)) with
            | false =>
              rw [hall] at HFail
              have HE := Lib.hid (HFail.out rfl)
              have HBm := Lib.hid (HX.out _ HB10.out).1.bel
              clear cg cm cs cr cf HX HGood HPut2 hck hch
              simp only [hall]
              go_wp2_with fail
              go_ret
              exact ⟨SetB.ret_bool HE.out.symm, by first | exact HBm.out | (rw [hb0]; exact HBm.out)⟩
            | true =>
              rw [hall] at HGood
              have HG := Lib.hid (HGood.out rfl)
              obtain ⟨kl, hkl⟩ := keyF hin.1 hin.2
              have hk10 := (HX.out _ HB10.out).1
              obtain ⟨w11, hr11, hm11, ht11⟩ := hk10.km.store lawF Try.underlying51 (by have := HLk.out; unfold maxLen; omega) fv_inj hkl (Sp.val ⟨s0, s1, s2, s3⟩)
              rw [HPut2.out, ← HLt.out] at hm11
              have HK11 := Lib.hid (hk10.turned hm11 ht11)
              unfold fv Sp.val at hr11
              simp only at hr11
              clear hk10 hm11 ht11 HX HFail HGood HPut2 hck hch
              simp only [hall]
              go_wp2_with fail
              go_roundw
              case rel => exact ⟨k + 1, by omega, by go_num, Lib.hid (by first | exact HK11.out | (rw [hb0]; exact HK11.out)), HG⟩
              case measure => simp [intOf]; omega
    · have e1 : decide ((k : Int) < T.length) = false := by simp; omega
      have HE : Hid (true = ans) := Lib.hid (by
        have := hch.out
        rw [List.take_of_length_le (by omega), HAns.out] at this
        exact this.symm)
      have HBe := Lib.hid hck.out.bel
      clear hck hch
      go_wp2_with fail
      go_ret
      exact ⟨SetB.ret_bool HE.out, HBe.out⟩
end Go.Proofs.Ytihhojgnilbfnaa.PfX
/- The document's Right at any step, by contract. -/
namespace Go.Proofs.Ytihhojgnilbfnaa.PfS6
set_option linter.unusedVariables false
set_option linter.unusedSimpArgs false
open Go.RowKit Go.Lib Go.Proofs Go.Maps Go.Proofs.Ytihhojgnilbfnaa.TblB Go.Proofs.Ytihhojgnilbfnaa.TblC Go.Proofs.Ytihhojgnilbfnaa.TblV Go.Proofs.Ytihhojgnilbfnaa.TblP Go.Proofs.Ytihhojgnilbfnaa.TblQ Go.Proofs.Ytihhojgnilbfnaa.SemB Go.Proofs.Ytihhojgnilbfnaa.PfM Go.Proofs.Ytihhojgnilbfnaa.PfN Go.Proofs.Ytihhojgnilbfnaa.PfO Go.Proofs.Ytihhojgnilbfnaa.PfB Go.Proofs.Ytihhojgnilbfnaa.PfE Go.Proofs.Ytihhojgnilbfnaa.PfL Go.Proofs.Ytihhojgnilbfnaa.PfS1 Go.Proofs.Ytihhojgnilbfnaa.PfX
set_option linter.unusedVariables false
set_option linter.unusedSimpArgs false
set_option maxHeartbeats 4000000 in
set_option maxRecDepth 100000 in
theorem any1 (P K : Nat) (A : Option Addr) (ca : Nat) (L : List Ru) (B : Option Addr) (cb : Nat) (T : List Sp) (j : Nat) (x m : Int) (hj : j < L.length) (u1 u2 u3 u4 u5 : Int) (hu : L[j] = ⟨1, u1, u2, u3, u4, u5⟩) (w : World) (g1 : P ≤ 10) (g2 : K ≤ 6) (hL : L.length ≤ 60) (hT : T.length ≤ 100000) (hA : UG w A L) (hB : TG w B T) (hr : rightU P K L[j] = true) (x0 : 0 ≤ x) (x1 : x < P) :
    Calls Try.prog 18 #[.int .i64 P, .int .i64 K, .slice A L.length ca, .slice B T.length cb, .agg #[.int .i64 j, .int .i64 u1, .int .i64 x, .int .i64 m]] w fun e w' => e = .returned (.bool (decide (m = 0) && decide (u2 = x))) ∧ Below w.heap.size w w' := by
  have e1 : decide ((j : Int) < 0) = false := by simp
  have e2 : decide ((L.length : Int) ≤ j) = false := by simp; omega
  have e7 : decide (L.length ≤ j) = false := by simp; omega
  have e3 : decide (x < 0) = false := by simp; omega
  have e4 : decide ((P : Int) ≤ x) = false := by simp; omega
  have e5 : decide ((64 : Int) < P) = false := by simp; omega
  have e6 : decide ((64 : Int) < K) = false := by simp; omega
  have q0 : (0 : Int) ≤ j := by omega
  have q1 : (j : Int) < L.length := by omega
  have HR := Lib.hid (fun w' => rightD P K L[j] w' (by omega) (by omega))
  simp only [Int.toNat_natCast, hr] at HR
  obtain ⟨g, o, rfl, hg, hc⟩ := hA (by omega)
  have HC := Lib.hid (fun w' (hb : Below w.heap.size w w') (k : Nat) (hk : k < 6) => (hb.cell (p := ⟨g, o + j * 6 + k, none⟩) hg).trans (hc j hj k hk))
  rw [hu] at HC HR
  clear hA hB hr hc hu 
  unfold Ru.val Ru.cells at *
  simp only at HR HC
  have hb3 : Below w.heap.size w ((w.alloc (.cells #[.int .i64 j, .int .i64 u1, .int .i64 x, .int .i64 m] 30)).alloc (.cells #[.int .i64 1, .int .i64 u1, .int .i64 u2, .int .i64 u3, .int .i64 u4, .int .i64 u5] 44)) := ((Below.refl _ _).alloc (Nat.le_refl _) _).alloc (by rw [World.size_alloc]; omega) _
  have t3 := heap_alloc2_old w (.cells #[.int .i64 j, .int .i64 u1, .int .i64 x, .int .i64 m] 30) (.cells #[.int .i64 1, .int .i64 u1, .int .i64 u2, .int .i64 u3, .int .i64 u4, .int .i64 u5] 44)
  have s3 := heap_alloc2_new w (.cells #[.int .i64 j, .int .i64 u1, .int .i64 x, .int .i64 m] 30) (.cells #[.int .i64 1, .int .i64 u1, .int .i64 u2, .int .i64 u3, .int .i64 u4, .int .i64 u5] 44)
  have hba : Below w.heap.size w (w.alloc (.cells #[.int .i64 j, .int .i64 u1, .int .i64 x, .int .i64 m] 30)) := (Below.refl _ _).alloc (Nat.le_refl _) _
  have k0 : (w.alloc (.cells #[.int .i64 j, .int .i64 u1, .int .i64 x, .int .i64 m] 30)).cell? ⟨g, o + j * 6, none⟩ = some (.int .i64 1) := HC.out _ hba 0 (by omega)
  have k1 : (w.alloc (.cells #[.int .i64 j, .int .i64 u1, .int .i64 x, .int .i64 m] 30)).cell? ⟨g, o + j * 6 + 1, none⟩ = some (.int .i64 u1) := HC.out _ hba 1 (by omega)
  have k2 : (w.alloc (.cells #[.int .i64 j, .int .i64 u1, .int .i64 x, .int .i64 m] 30)).cell? ⟨g, o + j * 6 + 2, none⟩ = some (.int .i64 u2) := HC.out _ hba 2 (by omega)
  have k3 : (w.alloc (.cells #[.int .i64 j, .int .i64 u1, .int .i64 x, .int .i64 m] 30)).cell? ⟨g, o + j * 6 + 3, none⟩ = some (.int .i64 u3) := HC.out _ hba 3 (by omega)
  have k4 : (w.alloc (.cells #[.int .i64 j, .int .i64 u1, .int .i64 x, .int .i64 m] 30)).cell? ⟨g, o + j * 6 + 4, none⟩ = some (.int .i64 u4) := HC.out _ hba 4 (by omega)
  have k5 : (w.alloc (.cells #[.int .i64 j, .int .i64 u1, .int .i64 x, .int .i64 m] 30)).cell? ⟨g, o + j * 6 + 5, none⟩ = some (.int .i64 u5) := HC.out _ hba 5 (by omega)
  clear hba
  go_enter Try.func18, Try.ntmps18
  go_upto_region 4 with fail
  clear k0 k1 k2 k3 k4 k5
  obtain ⟨bx, hbx⟩ : ∃ bx, w.heap.size = bx := ⟨_, rfl⟩
  simp only [hbx] at hb3 t3 s3 HC ⊢
  generalize (w.alloc (.cells #[.int .i64 j, .int .i64 u1, .int .i64 x, .int .i64 m] 30)).alloc (.cells #[.int .i64 1, .int .i64 u1, .int .i64 u2, .int .i64 u3, .int .i64 u4, .int .i64 u5] 44) = w3 at *
  have c1 := fun o => Lib.cell_of_heap t3 o
  have c2 := fun o => Lib.cell_of_heap s3 o
  go_wp2_with fail
  refine (HR.out _).mono ?_
  rintro e w4 ⟨rfl, hb4⟩
  have t4 := (hb4.block _ (lt_of t3)).trans t3
  have s4 := (hb4.block _ (lt_of s3)).trans s3
  have hb5 := hb3.trans (hb4.mono (by rw [← hbx]; exact hb3.size))
  clear c1 c2 hb3 hb4 t3 s3
  have c1 := fun o => Lib.cell_of_heap t4 o
  have c2 := fun o => Lib.cell_of_heap s4 o
  dsimp only
  by_cases p0 : m = 0
  · subst p0
    by_cases p1 : u2 = x
    · subst p1
      go_wp2_with fail
      all_goals go_ret
      all_goals exact ⟨by first | rfl | (simp [*]; done) | (simp_all; done), by first | exact hb5 | (rw [hbx]; exact hb5)⟩
    · have d1 : (u2 == x) = false := by simp [p1]
      have d1x : decide (u2 = x) = false := by simp [p1]
      go_wp2_with fail
      all_goals go_ret
      all_goals exact ⟨by first | rfl | (simp [*]; done) | (simp_all; done), by first | exact hb5 | (rw [hbx]; exact hb5)⟩
  · have d0 : (m == 0) = false := by simp [p0]
    have d0x : decide (m = 0) = false := by simp [p0]
    go_wp2_with fail
    all_goals go_ret
    all_goals exact ⟨by first | rfl | (simp [*]; done) | (simp_all; done), by first | exact hb5 | (rw [hbx]; exact hb5)⟩
set_option maxHeartbeats 4000000 in
set_option maxRecDepth 100000 in
theorem any2 (P K : Nat) (A : Option Addr) (ca : Nat) (L : List Ru) (B : Option Addr) (cb : Nat) (T : List Sp) (j : Nat) (x m : Int) (hj : j < L.length) (u1 u2 u3 u4 u5 : Int) (hu : L[j] = ⟨2, u1, u2, u3, u4, u5⟩) (w : World) (g1 : P ≤ 10) (g2 : K ≤ 6) (hL : L.length ≤ 60) (hT : T.length ≤ 100000) (hA : UG w A L) (hB : TG w B T) (hr : rightU P K L[j] = true) (x0 : 0 ≤ x) (x1 : x < P) (b0 : Bool) (h0 : hasS T (u3, x) = b0) :
    Calls Try.prog 18 #[.int .i64 P, .int .i64 K, .slice A L.length ca, .slice B T.length cb, .agg #[.int .i64 j, .int .i64 u1, .int .i64 x, .int .i64 m]] w fun e w' => e = .returned (.bool (decide (m = 0) && b0)) ∧ Below w.heap.size w w' := by
  have e1 : decide ((j : Int) < 0) = false := by simp
  have e2 : decide ((L.length : Int) ≤ j) = false := by simp; omega
  have e7 : decide (L.length ≤ j) = false := by simp; omega
  have e3 : decide (x < 0) = false := by simp; omega
  have e4 : decide ((P : Int) ≤ x) = false := by simp; omega
  have e5 : decide ((64 : Int) < P) = false := by simp; omega
  have e6 : decide ((64 : Int) < K) = false := by simp; omega
  have q0 : (0 : Int) ≤ j := by omega
  have q1 : (j : Int) < L.length := by omega
  have HR := Lib.hid (fun w' => rightD P K L[j] w' (by omega) (by omega))
  simp only [Int.toNat_natCast, hr] at HR
  obtain ⟨g, o, rfl, hg, hc⟩ := hA (by omega)
  have HC := Lib.hid (fun w' (hb : Below w.heap.size w w') (k : Nat) (hk : k < 6) => (hb.cell (p := ⟨g, o + j * 6 + k, none⟩) hg).trans (hc j hj k hk))
  rw [hu] at HC HR
  have HH0 := Lib.hid (fun w' (hb : Below w.heap.size w w') => hasD B cb T (u3) (x) w' hT (hB.below hb))
  rw [h0] at HH0
  clear hA hB hr hc hu h0
  unfold Ru.val Ru.cells at *
  simp only at HR HC
  have hb3 : Below w.heap.size w ((w.alloc (.cells #[.int .i64 j, .int .i64 u1, .int .i64 x, .int .i64 m] 30)).alloc (.cells #[.int .i64 2, .int .i64 u1, .int .i64 u2, .int .i64 u3, .int .i64 u4, .int .i64 u5] 44)) := ((Below.refl _ _).alloc (Nat.le_refl _) _).alloc (by rw [World.size_alloc]; omega) _
  have t3 := heap_alloc2_old w (.cells #[.int .i64 j, .int .i64 u1, .int .i64 x, .int .i64 m] 30) (.cells #[.int .i64 2, .int .i64 u1, .int .i64 u2, .int .i64 u3, .int .i64 u4, .int .i64 u5] 44)
  have s3 := heap_alloc2_new w (.cells #[.int .i64 j, .int .i64 u1, .int .i64 x, .int .i64 m] 30) (.cells #[.int .i64 2, .int .i64 u1, .int .i64 u2, .int .i64 u3, .int .i64 u4, .int .i64 u5] 44)
  have hba : Below w.heap.size w (w.alloc (.cells #[.int .i64 j, .int .i64 u1, .int .i64 x, .int .i64 m] 30)) := (Below.refl _ _).alloc (Nat.le_refl _) _
  have k0 : (w.alloc (.cells #[.int .i64 j, .int .i64 u1, .int .i64 x, .int .i64 m] 30)).cell? ⟨g, o + j * 6, none⟩ = some (.int .i64 2) := HC.out _ hba 0 (by omega)
  have k1 : (w.alloc (.cells #[.int .i64 j, .int .i64 u1, .int .i64 x, .int .i64 m] 30)).cell? ⟨g, o + j * 6 + 1, none⟩ = some (.int .i64 u1) := HC.out _ hba 1 (by omega)
  have k2 : (w.alloc (.cells #[.int .i64 j, .int .i64 u1, .int .i64 x, .int .i64 m] 30)).cell? ⟨g, o + j * 6 + 2, none⟩ = some (.int .i64 u2) := HC.out _ hba 2 (by omega)
  have k3 : (w.alloc (.cells #[.int .i64 j, .int .i64 u1, .int .i64 x, .int .i64 m] 30)).cell? ⟨g, o + j * 6 + 3, none⟩ = some (.int .i64 u3) := HC.out _ hba 3 (by omega)
  have k4 : (w.alloc (.cells #[.int .i64 j, .int .i64 u1, .int .i64 x, .int .i64 m] 30)).cell? ⟨g, o + j * 6 + 4, none⟩ = some (.int .i64 u4) := HC.out _ hba 4 (by omega)
  have k5 : (w.alloc (.cells #[.int .i64 j, .int .i64 u1, .int .i64 x, .int .i64 m] 30)).cell? ⟨g, o + j * 6 + 5, none⟩ = some (.int .i64 u5) := HC.out _ hba 5 (by omega)
  clear hba
  go_enter Try.func18, Try.ntmps18
  go_upto_region 4 with fail
  clear k0 k1 k2 k3 k4 k5
  obtain ⟨bx, hbx⟩ : ∃ bx, w.heap.size = bx := ⟨_, rfl⟩
  simp only [hbx] at hb3 t3 s3 HC ⊢
  simp only [hbx] at HH0
  generalize (w.alloc (.cells #[.int .i64 j, .int .i64 u1, .int .i64 x, .int .i64 m] 30)).alloc (.cells #[.int .i64 2, .int .i64 u1, .int .i64 u2, .int .i64 u3, .int .i64 u4, .int .i64 u5] 44) = w3 at *
  have c1 := fun o => Lib.cell_of_heap t3 o
  have c2 := fun o => Lib.cell_of_heap s3 o
  go_wp2_with fail
  refine (HR.out _).mono ?_
  rintro e w4 ⟨rfl, hb4⟩
  have t4 := (hb4.block _ (lt_of t3)).trans t3
  have s4 := (hb4.block _ (lt_of s3)).trans s3
  have hb5 := hb3.trans (hb4.mono (by rw [← hbx]; exact hb3.size))
  clear c1 c2 hb3 hb4 t3 s3
  have c1 := fun o => Lib.cell_of_heap t4 o
  have c2 := fun o => Lib.cell_of_heap s4 o
  dsimp only
  by_cases p0 : m = 0
  · subst p0
    cases b0 with
    | true =>
      go_wp2_with fail
      refine (HH0.out _ hb5).mono ?_
      rintro e w5 ⟨rfl, hc5⟩
      have t5 := (hc5.block _ (lt_of t4)).trans t4
      have s5 := (hc5.block _ (lt_of s4)).trans s4
      have hb6 := hb5.trans (hc5.mono (by rw [← hbx]; exact hb5.size))
      clear c1 c2 t4 s4 hb5 hc5
      have c1 := fun o => Lib.cell_of_heap t5 o
      have c2 := fun o => Lib.cell_of_heap s5 o
      dsimp only
      go_wp2_with fail
      all_goals go_ret
      all_goals exact ⟨by first | rfl | (simp [*]; done) | (simp_all; done), by first | exact hb6 | (rw [hbx]; exact hb6)⟩
    | false =>
      go_wp2_with fail
      refine (HH0.out _ hb5).mono ?_
      rintro e w5 ⟨rfl, hc5⟩
      have t5 := (hc5.block _ (lt_of t4)).trans t4
      have s5 := (hc5.block _ (lt_of s4)).trans s4
      have hb6 := hb5.trans (hc5.mono (by rw [← hbx]; exact hb5.size))
      clear c1 c2 t4 s4 hb5 hc5
      have c1 := fun o => Lib.cell_of_heap t5 o
      have c2 := fun o => Lib.cell_of_heap s5 o
      dsimp only
      go_wp2_with fail
      all_goals go_ret
      all_goals exact ⟨by first | rfl | (simp [*]; done) | (simp_all; done), by first | exact hb6 | (rw [hbx]; exact hb6)⟩
  · have d0 : (m == 0) = false := by simp [p0]
    have d0x : decide (m = 0) = false := by simp [p0]
    go_wp2_with fail
    all_goals go_ret
    all_goals exact ⟨by first | rfl | (simp [*]; done) | (simp_all; done), by first | exact hb5 | (rw [hbx]; exact hb5)⟩
set_option maxHeartbeats 4000000 in
set_option maxRecDepth 100000 in
theorem any3 (P K : Nat) (A : Option Addr) (ca : Nat) (L : List Ru) (B : Option Addr) (cb : Nat) (T : List Sp) (j : Nat) (x m : Int) (hj : j < L.length) (u1 u2 u3 u4 u5 : Int) (hu : L[j] = ⟨3, u1, u2, u3, u4, u5⟩) (w : World) (g1 : P ≤ 10) (g2 : K ≤ 6) (hL : L.length ≤ 60) (hT : T.length ≤ 100000) (hA : UG w A L) (hB : TG w B T) (hr : rightU P K L[j] = true) (x0 : 0 ≤ x) (x1 : x < P) (b0 : Bool) (h0 : hasS T (u3, m) = b0) (b1 : Bool) (h1 : hasS T (m * K + u5, x) = b1) :
    Calls Try.prog 18 #[.int .i64 P, .int .i64 K, .slice A L.length ca, .slice B T.length cb, .agg #[.int .i64 j, .int .i64 u1, .int .i64 x, .int .i64 m]] w fun e w' => e = .returned (.bool (decide (0 ≤ m) && (decide (m < P) && (b0 && b1)))) ∧ Below w.heap.size w w' := by
  have e1 : decide ((j : Int) < 0) = false := by simp
  have e2 : decide ((L.length : Int) ≤ j) = false := by simp; omega
  have e7 : decide (L.length ≤ j) = false := by simp; omega
  have e3 : decide (x < 0) = false := by simp; omega
  have e4 : decide ((P : Int) ≤ x) = false := by simp; omega
  have e5 : decide ((64 : Int) < P) = false := by simp; omega
  have e6 : decide ((64 : Int) < K) = false := by simp; omega
  have q0 : (0 : Int) ≤ j := by omega
  have q1 : (j : Int) < L.length := by omega
  have HR := Lib.hid (fun w' => rightD P K L[j] w' (by omega) (by omega))
  simp only [Int.toNat_natCast, hr] at HR
  obtain ⟨g, o, rfl, hg, hc⟩ := hA (by omega)
  have HC := Lib.hid (fun w' (hb : Below w.heap.size w w') (k : Nat) (hk : k < 6) => (hb.cell (p := ⟨g, o + j * 6 + k, none⟩) hg).trans (hc j hj k hk))
  rw [hu] at HC HR
  have b5 : 0 ≤ u5 ∧ u5 < K := by
    have := (right_r hr).2.2.2.2.2
    rw [hu] at this
    exact this
  have HV : Hid (0 ≤ m → m < P → IntKind.i64.wrap (m * K) = m * K ∧ IntKind.i64.wrap (m * K + u5) = m * K + u5) := Lib.hid (fun m0 m1 => by
    have b6 : 0 ≤ m * K ∧ m * K ≤ 60 := by
      obtain ⟨m', rfl⟩ : ∃ n : Nat, m = n := ⟨m.toNat, by omega⟩
      have : m' * K ≤ 10 * 6 := Nat.mul_le_mul (by omega) g2
      constructor
      · exact_mod_cast Nat.zero_le _
      · exact_mod_cast this
    exact ⟨by rw [IntKind.wrap_i64]; omega, by rw [IntKind.wrap_i64]; omega⟩)
  have HH0 := Lib.hid (fun w' (hb : Below w.heap.size w w') => hasD B cb T (u3) (m) w' hT (hB.below hb))
  rw [h0] at HH0
  have HH1 := Lib.hid (fun w' (hb : Below w.heap.size w w') => hasD B cb T (m * K + u5) (x) w' hT (hB.below hb))
  rw [h1] at HH1
  clear hA hB hr hc hu h0 h1
  unfold Ru.val Ru.cells at *
  simp only at HR HC
  have hb3 : Below w.heap.size w ((w.alloc (.cells #[.int .i64 j, .int .i64 u1, .int .i64 x, .int .i64 m] 30)).alloc (.cells #[.int .i64 3, .int .i64 u1, .int .i64 u2, .int .i64 u3, .int .i64 u4, .int .i64 u5] 44)) := ((Below.refl _ _).alloc (Nat.le_refl _) _).alloc (by rw [World.size_alloc]; omega) _
  have t3 := heap_alloc2_old w (.cells #[.int .i64 j, .int .i64 u1, .int .i64 x, .int .i64 m] 30) (.cells #[.int .i64 3, .int .i64 u1, .int .i64 u2, .int .i64 u3, .int .i64 u4, .int .i64 u5] 44)
  have s3 := heap_alloc2_new w (.cells #[.int .i64 j, .int .i64 u1, .int .i64 x, .int .i64 m] 30) (.cells #[.int .i64 3, .int .i64 u1, .int .i64 u2, .int .i64 u3, .int .i64 u4, .int .i64 u5] 44)
  have hba : Below w.heap.size w (w.alloc (.cells #[.int .i64 j, .int .i64 u1, .int .i64 x, .int .i64 m] 30)) := (Below.refl _ _).alloc (Nat.le_refl _) _
  have k0 : (w.alloc (.cells #[.int .i64 j, .int .i64 u1, .int .i64 x, .int .i64 m] 30)).cell? ⟨g, o + j * 6, none⟩ = some (.int .i64 3) := HC.out _ hba 0 (by omega)
  have k1 : (w.alloc (.cells #[.int .i64 j, .int .i64 u1, .int .i64 x, .int .i64 m] 30)).cell? ⟨g, o + j * 6 + 1, none⟩ = some (.int .i64 u1) := HC.out _ hba 1 (by omega)
  have k2 : (w.alloc (.cells #[.int .i64 j, .int .i64 u1, .int .i64 x, .int .i64 m] 30)).cell? ⟨g, o + j * 6 + 2, none⟩ = some (.int .i64 u2) := HC.out _ hba 2 (by omega)
  have k3 : (w.alloc (.cells #[.int .i64 j, .int .i64 u1, .int .i64 x, .int .i64 m] 30)).cell? ⟨g, o + j * 6 + 3, none⟩ = some (.int .i64 u3) := HC.out _ hba 3 (by omega)
  have k4 : (w.alloc (.cells #[.int .i64 j, .int .i64 u1, .int .i64 x, .int .i64 m] 30)).cell? ⟨g, o + j * 6 + 4, none⟩ = some (.int .i64 u4) := HC.out _ hba 4 (by omega)
  have k5 : (w.alloc (.cells #[.int .i64 j, .int .i64 u1, .int .i64 x, .int .i64 m] 30)).cell? ⟨g, o + j * 6 + 5, none⟩ = some (.int .i64 u5) := HC.out _ hba 5 (by omega)
  clear hba
  go_enter Try.func18, Try.ntmps18
  go_upto_region 4 with fail
  clear k0 k1 k2 k3 k4 k5
  obtain ⟨bx, hbx⟩ : ∃ bx, w.heap.size = bx := ⟨_, rfl⟩
  simp only [hbx] at hb3 t3 s3 HC ⊢
  simp only [hbx] at HH0
  simp only [hbx] at HH1
  generalize (w.alloc (.cells #[.int .i64 j, .int .i64 u1, .int .i64 x, .int .i64 m] 30)).alloc (.cells #[.int .i64 3, .int .i64 u1, .int .i64 u2, .int .i64 u3, .int .i64 u4, .int .i64 u5] 44) = w3 at *
  have c1 := fun o => Lib.cell_of_heap t3 o
  have c2 := fun o => Lib.cell_of_heap s3 o
  go_wp2_with fail
  refine (HR.out _).mono ?_
  rintro e w4 ⟨rfl, hb4⟩
  have t4 := (hb4.block _ (lt_of t3)).trans t3
  have s4 := (hb4.block _ (lt_of s3)).trans s3
  have hb5 := hb3.trans (hb4.mono (by rw [← hbx]; exact hb3.size))
  clear c1 c2 hb3 hb4 t3 s3
  have c1 := fun o => Lib.cell_of_heap t4 o
  have c2 := fun o => Lib.cell_of_heap s4 o
  dsimp only
  by_cases p0 : 0 ≤ m
  · have d0 : decide (0 ≤ m) = true := decide_eq_true p0
    by_cases p1 : m < P
    · have d1 : decide (m < P) = true := decide_eq_true p1
      obtain ⟨v1, v2⟩ := HV.out p0 p1
      cases b0 with
      | true =>
        cases b1 with
        | true =>
          go_wp2_with fail
          refine (HH0.out _ hb5).mono ?_
          rintro e w5 ⟨rfl, hc5⟩
          have t5 := (hc5.block _ (lt_of t4)).trans t4
          have s5 := (hc5.block _ (lt_of s4)).trans s4
          have hb6 := hb5.trans (hc5.mono (by rw [← hbx]; exact hb5.size))
          clear c1 c2 t4 s4 hb5 hc5
          have c1 := fun o => Lib.cell_of_heap t5 o
          have c2 := fun o => Lib.cell_of_heap s5 o
          dsimp only
          go_wp2_with fail
          refine (HH1.out _ hb6).mono ?_
          rintro e w6 ⟨rfl, hc6⟩
          have t6 := (hc6.block _ (lt_of t5)).trans t5
          have s6 := (hc6.block _ (lt_of s5)).trans s5
          have hb7 := hb6.trans (hc6.mono (by rw [← hbx]; exact hb6.size))
          clear c1 c2 t5 s5 hb6 hc6
          have c1 := fun o => Lib.cell_of_heap t6 o
          have c2 := fun o => Lib.cell_of_heap s6 o
          dsimp only
          go_wp2_with fail
          all_goals go_ret
          all_goals exact ⟨by first | rfl | (simp [*]; done) | (simp_all; done), by first | exact hb7 | (rw [hbx]; exact hb7)⟩
        | false =>
          go_wp2_with fail
          refine (HH0.out _ hb5).mono ?_
          rintro e w5 ⟨rfl, hc5⟩
          have t5 := (hc5.block _ (lt_of t4)).trans t4
          have s5 := (hc5.block _ (lt_of s4)).trans s4
          have hb6 := hb5.trans (hc5.mono (by rw [← hbx]; exact hb5.size))
          clear c1 c2 t4 s4 hb5 hc5
          have c1 := fun o => Lib.cell_of_heap t5 o
          have c2 := fun o => Lib.cell_of_heap s5 o
          dsimp only
          go_wp2_with fail
          refine (HH1.out _ hb6).mono ?_
          rintro e w6 ⟨rfl, hc6⟩
          have t6 := (hc6.block _ (lt_of t5)).trans t5
          have s6 := (hc6.block _ (lt_of s5)).trans s5
          have hb7 := hb6.trans (hc6.mono (by rw [← hbx]; exact hb6.size))
          clear c1 c2 t5 s5 hb6 hc6
          have c1 := fun o => Lib.cell_of_heap t6 o
          have c2 := fun o => Lib.cell_of_heap s6 o
          dsimp only
          go_wp2_with fail
          all_goals go_ret
          all_goals exact ⟨by first | rfl | (simp [*]; done) | (simp_all; done), by first | exact hb7 | (rw [hbx]; exact hb7)⟩
      | false =>
        go_wp2_with fail
        refine (HH0.out _ hb5).mono ?_
        rintro e w5 ⟨rfl, hc5⟩
        have t5 := (hc5.block _ (lt_of t4)).trans t4
        have s5 := (hc5.block _ (lt_of s4)).trans s4
        have hb6 := hb5.trans (hc5.mono (by rw [← hbx]; exact hb5.size))
        clear c1 c2 t4 s4 hb5 hc5
        have c1 := fun o => Lib.cell_of_heap t5 o
        have c2 := fun o => Lib.cell_of_heap s5 o
        dsimp only
        go_wp2_with fail
        all_goals go_ret
        all_goals exact ⟨by first | rfl | (simp [*]; done) | (simp_all; done), by first | exact hb6 | (rw [hbx]; exact hb6)⟩
    · have d1 : decide (m < P) = false := decide_eq_false p1
      go_wp2_with fail
      all_goals go_ret
      all_goals exact ⟨by first | rfl | (simp [*]; done) | (simp_all; done), by first | exact hb5 | (rw [hbx]; exact hb5)⟩
  · have d0 : decide (0 ≤ m) = false := decide_eq_false p0
    go_wp2_with fail
    all_goals go_ret
    all_goals exact ⟨by first | rfl | (simp [*]; done) | (simp_all; done), by first | exact hb5 | (rw [hbx]; exact hb5)⟩
set_option maxHeartbeats 4000000 in
set_option maxRecDepth 100000 in
theorem any4 (P K : Nat) (A : Option Addr) (ca : Nat) (L : List Ru) (B : Option Addr) (cb : Nat) (T : List Sp) (j : Nat) (x m : Int) (hj : j < L.length) (u1 u2 u3 u4 u5 : Int) (hu : L[j] = ⟨4, u1, u2, u3, u4, u5⟩) (w : World) (g1 : P ≤ 10) (g2 : K ≤ 6) (hL : L.length ≤ 60) (hT : T.length ≤ 100000) (hA : UG w A L) (hB : TG w B T) (hr : rightU P K L[j] = true) (x0 : 0 ≤ x) (x1 : x < P) (b0 : Bool) (h0 : hasS T (u3, x) = b0) (b1 : Bool) (h1 : hasS T (u4, x) = b1) :
    Calls Try.prog 18 #[.int .i64 P, .int .i64 K, .slice A L.length ca, .slice B T.length cb, .agg #[.int .i64 j, .int .i64 u1, .int .i64 x, .int .i64 m]] w fun e w' => e = .returned (.bool (decide (m = 0) && (b0 && b1))) ∧ Below w.heap.size w w' := by
  have e1 : decide ((j : Int) < 0) = false := by simp
  have e2 : decide ((L.length : Int) ≤ j) = false := by simp; omega
  have e7 : decide (L.length ≤ j) = false := by simp; omega
  have e3 : decide (x < 0) = false := by simp; omega
  have e4 : decide ((P : Int) ≤ x) = false := by simp; omega
  have e5 : decide ((64 : Int) < P) = false := by simp; omega
  have e6 : decide ((64 : Int) < K) = false := by simp; omega
  have q0 : (0 : Int) ≤ j := by omega
  have q1 : (j : Int) < L.length := by omega
  have HR := Lib.hid (fun w' => rightD P K L[j] w' (by omega) (by omega))
  simp only [Int.toNat_natCast, hr] at HR
  obtain ⟨g, o, rfl, hg, hc⟩ := hA (by omega)
  have HC := Lib.hid (fun w' (hb : Below w.heap.size w w') (k : Nat) (hk : k < 6) => (hb.cell (p := ⟨g, o + j * 6 + k, none⟩) hg).trans (hc j hj k hk))
  rw [hu] at HC HR
  have HH0 := Lib.hid (fun w' (hb : Below w.heap.size w w') => hasD B cb T (u3) (x) w' hT (hB.below hb))
  rw [h0] at HH0
  have HH1 := Lib.hid (fun w' (hb : Below w.heap.size w w') => hasD B cb T (u4) (x) w' hT (hB.below hb))
  rw [h1] at HH1
  clear hA hB hr hc hu h0 h1
  unfold Ru.val Ru.cells at *
  simp only at HR HC
  have hb3 : Below w.heap.size w ((w.alloc (.cells #[.int .i64 j, .int .i64 u1, .int .i64 x, .int .i64 m] 30)).alloc (.cells #[.int .i64 4, .int .i64 u1, .int .i64 u2, .int .i64 u3, .int .i64 u4, .int .i64 u5] 44)) := ((Below.refl _ _).alloc (Nat.le_refl _) _).alloc (by rw [World.size_alloc]; omega) _
  have t3 := heap_alloc2_old w (.cells #[.int .i64 j, .int .i64 u1, .int .i64 x, .int .i64 m] 30) (.cells #[.int .i64 4, .int .i64 u1, .int .i64 u2, .int .i64 u3, .int .i64 u4, .int .i64 u5] 44)
  have s3 := heap_alloc2_new w (.cells #[.int .i64 j, .int .i64 u1, .int .i64 x, .int .i64 m] 30) (.cells #[.int .i64 4, .int .i64 u1, .int .i64 u2, .int .i64 u3, .int .i64 u4, .int .i64 u5] 44)
  have hba : Below w.heap.size w (w.alloc (.cells #[.int .i64 j, .int .i64 u1, .int .i64 x, .int .i64 m] 30)) := (Below.refl _ _).alloc (Nat.le_refl _) _
  have k0 : (w.alloc (.cells #[.int .i64 j, .int .i64 u1, .int .i64 x, .int .i64 m] 30)).cell? ⟨g, o + j * 6, none⟩ = some (.int .i64 4) := HC.out _ hba 0 (by omega)
  have k1 : (w.alloc (.cells #[.int .i64 j, .int .i64 u1, .int .i64 x, .int .i64 m] 30)).cell? ⟨g, o + j * 6 + 1, none⟩ = some (.int .i64 u1) := HC.out _ hba 1 (by omega)
  have k2 : (w.alloc (.cells #[.int .i64 j, .int .i64 u1, .int .i64 x, .int .i64 m] 30)).cell? ⟨g, o + j * 6 + 2, none⟩ = some (.int .i64 u2) := HC.out _ hba 2 (by omega)
  have k3 : (w.alloc (.cells #[.int .i64 j, .int .i64 u1, .int .i64 x, .int .i64 m] 30)).cell? ⟨g, o + j * 6 + 3, none⟩ = some (.int .i64 u3) := HC.out _ hba 3 (by omega)
  have k4 : (w.alloc (.cells #[.int .i64 j, .int .i64 u1, .int .i64 x, .int .i64 m] 30)).cell? ⟨g, o + j * 6 + 4, none⟩ = some (.int .i64 u4) := HC.out _ hba 4 (by omega)
  have k5 : (w.alloc (.cells #[.int .i64 j, .int .i64 u1, .int .i64 x, .int .i64 m] 30)).cell? ⟨g, o + j * 6 + 5, none⟩ = some (.int .i64 u5) := HC.out _ hba 5 (by omega)
  clear hba
  go_enter Try.func18, Try.ntmps18
  go_upto_region 4 with fail
  clear k0 k1 k2 k3 k4 k5
  obtain ⟨bx, hbx⟩ : ∃ bx, w.heap.size = bx := ⟨_, rfl⟩
  simp only [hbx] at hb3 t3 s3 HC ⊢
  simp only [hbx] at HH0
  simp only [hbx] at HH1
  generalize (w.alloc (.cells #[.int .i64 j, .int .i64 u1, .int .i64 x, .int .i64 m] 30)).alloc (.cells #[.int .i64 4, .int .i64 u1, .int .i64 u2, .int .i64 u3, .int .i64 u4, .int .i64 u5] 44) = w3 at *
  have c1 := fun o => Lib.cell_of_heap t3 o
  have c2 := fun o => Lib.cell_of_heap s3 o
  go_wp2_with fail
  refine (HR.out _).mono ?_
  rintro e w4 ⟨rfl, hb4⟩
  have t4 := (hb4.block _ (lt_of t3)).trans t3
  have s4 := (hb4.block _ (lt_of s3)).trans s3
  have hb5 := hb3.trans (hb4.mono (by rw [← hbx]; exact hb3.size))
  clear c1 c2 hb3 hb4 t3 s3
  have c1 := fun o => Lib.cell_of_heap t4 o
  have c2 := fun o => Lib.cell_of_heap s4 o
  dsimp only
  by_cases p0 : m = 0
  · subst p0
    cases b0 with
    | true =>
      cases b1 with
      | true =>
        go_wp2_with fail
        refine (HH0.out _ hb5).mono ?_
        rintro e w5 ⟨rfl, hc5⟩
        have t5 := (hc5.block _ (lt_of t4)).trans t4
        have s5 := (hc5.block _ (lt_of s4)).trans s4
        have hb6 := hb5.trans (hc5.mono (by rw [← hbx]; exact hb5.size))
        clear c1 c2 t4 s4 hb5 hc5
        have c1 := fun o => Lib.cell_of_heap t5 o
        have c2 := fun o => Lib.cell_of_heap s5 o
        dsimp only
        go_wp2_with fail
        refine (HH1.out _ hb6).mono ?_
        rintro e w6 ⟨rfl, hc6⟩
        have t6 := (hc6.block _ (lt_of t5)).trans t5
        have s6 := (hc6.block _ (lt_of s5)).trans s5
        have hb7 := hb6.trans (hc6.mono (by rw [← hbx]; exact hb6.size))
        clear c1 c2 t5 s5 hb6 hc6
        have c1 := fun o => Lib.cell_of_heap t6 o
        have c2 := fun o => Lib.cell_of_heap s6 o
        dsimp only
        go_wp2_with fail
        all_goals go_ret
        all_goals exact ⟨by first | rfl | (simp [*]; done) | (simp_all; done), by first | exact hb7 | (rw [hbx]; exact hb7)⟩
      | false =>
        go_wp2_with fail
        refine (HH0.out _ hb5).mono ?_
        rintro e w5 ⟨rfl, hc5⟩
        have t5 := (hc5.block _ (lt_of t4)).trans t4
        have s5 := (hc5.block _ (lt_of s4)).trans s4
        have hb6 := hb5.trans (hc5.mono (by rw [← hbx]; exact hb5.size))
        clear c1 c2 t4 s4 hb5 hc5
        have c1 := fun o => Lib.cell_of_heap t5 o
        have c2 := fun o => Lib.cell_of_heap s5 o
        dsimp only
        go_wp2_with fail
        refine (HH1.out _ hb6).mono ?_
        rintro e w6 ⟨rfl, hc6⟩
        have t6 := (hc6.block _ (lt_of t5)).trans t5
        have s6 := (hc6.block _ (lt_of s5)).trans s5
        have hb7 := hb6.trans (hc6.mono (by rw [← hbx]; exact hb6.size))
        clear c1 c2 t5 s5 hb6 hc6
        have c1 := fun o => Lib.cell_of_heap t6 o
        have c2 := fun o => Lib.cell_of_heap s6 o
        dsimp only
        go_wp2_with fail
        all_goals go_ret
        all_goals exact ⟨by first | rfl | (simp [*]; done) | (simp_all; done), by first | exact hb7 | (rw [hbx]; exact hb7)⟩
    | false =>
      go_wp2_with fail
      refine (HH0.out _ hb5).mono ?_
      rintro e w5 ⟨rfl, hc5⟩
      have t5 := (hc5.block _ (lt_of t4)).trans t4
      have s5 := (hc5.block _ (lt_of s4)).trans s4
      have hb6 := hb5.trans (hc5.mono (by rw [← hbx]; exact hb5.size))
      clear c1 c2 t4 s4 hb5 hc5
      have c1 := fun o => Lib.cell_of_heap t5 o
      have c2 := fun o => Lib.cell_of_heap s5 o
      dsimp only
      go_wp2_with fail
      all_goals go_ret
      all_goals exact ⟨by first | rfl | (simp [*]; done) | (simp_all; done), by first | exact hb6 | (rw [hbx]; exact hb6)⟩
  · have d0 : (m == 0) = false := by simp [p0]
    have d0x : decide (m = 0) = false := by simp [p0]
    go_wp2_with fail
    all_goals go_ret
    all_goals exact ⟨by first | rfl | (simp [*]; done) | (simp_all; done), by first | exact hb5 | (rw [hbx]; exact hb5)⟩
end Go.Proofs.Ytihhojgnilbfnaa.PfS6
/- The document's Right at any step, whole. -/
namespace Go.Proofs.Ytihhojgnilbfnaa.PfS7
set_option linter.unusedVariables false
set_option linter.unusedSimpArgs false
open Go.RowKit Go.Lib Go.Proofs Go.Maps Go.Proofs.Ytihhojgnilbfnaa.TblB Go.Proofs.Ytihhojgnilbfnaa.TblC Go.Proofs.Ytihhojgnilbfnaa.TblV Go.Proofs.Ytihhojgnilbfnaa.TblP Go.Proofs.Ytihhojgnilbfnaa.TblQ Go.Proofs.Ytihhojgnilbfnaa.SemB Go.Proofs.Ytihhojgnilbfnaa.PfM Go.Proofs.Ytihhojgnilbfnaa.PfN Go.Proofs.Ytihhojgnilbfnaa.PfO Go.Proofs.Ytihhojgnilbfnaa.PfB Go.Proofs.Ytihhojgnilbfnaa.PfE Go.Proofs.Ytihhojgnilbfnaa.PfL Go.Proofs.Ytihhojgnilbfnaa.PfS1 Go.Proofs.Ytihhojgnilbfnaa.PfS6 Go.Proofs.Ytihhojgnilbfnaa.PfX
set_option linter.unusedVariables false
set_option linter.unusedSimpArgs false
set_option maxHeartbeats 1000000 in
set_option maxRecDepth 100000 in
theorem out1 (d0 d1 : Int) (v bv : Value) (A : Option Addr) (n ca : Nat) (s0 s1 s2 s3 : Int) (w : World) (hv : v = .slice A n ca) (h : s0 < 0 ∨ (n : Int) ≤ s0 ∨ s2 < 0 ∨ d0 ≤ s2) :
    Calls Try.prog 18 #[.int .i64 d0, .int .i64 d1, v, bv, .agg #[.int .i64 s0, .int .i64 s1, .int .i64 s2, .int .i64 s3]] w fun e w' => e = .returned (.bool false) ∧ Below w.heap.size w w' := by
  subst hv
  have hb := (Below.refl w.heap.size w).alloc (Nat.le_refl _) (.cells #[.int .i64 s0, .int .i64 s1, .int .i64 s2, .int .i64 s3] 30)
  have c0 := fun o => Lib.cell_of_heap (heap_alloc_new w (.cells #[.int .i64 s0, .int .i64 s1, .int .i64 s2, .int .i64 s3] 30)) o
  have HB := Lib.hid hb
  clear hb
  by_cases p1 : s0 < 0
  · have e1 : decide (s0 < 0) = true := decide_eq_true p1
    clear h
    go_enter Try.func18, Try.ntmps18
    go_wp2_with fail
    all_goals go_ret
    all_goals exact ⟨rfl, HB.out⟩
  · have e1 : decide (s0 < 0) = false := decide_eq_false p1
    by_cases p2 : (n : Int) ≤ s0
    · have e2 : decide ((n : Int) ≤ s0) = true := decide_eq_true p2
      clear h
      go_enter Try.func18, Try.ntmps18
      go_wp2_with fail
      all_goals go_ret
      all_goals exact ⟨rfl, HB.out⟩
    · have e2 : decide ((n : Int) ≤ s0) = false := decide_eq_false p2
      by_cases p3 : s2 < 0
      · have e3 : decide (s2 < 0) = true := decide_eq_true p3
        clear h
        go_enter Try.func18, Try.ntmps18
        go_wp2_with fail
        all_goals go_ret
        all_goals exact ⟨rfl, HB.out⟩
      · have e3 : decide (s2 < 0) = false := decide_eq_false p3
        have p4 : d0 ≤ s2 := by omega
        have e4 : decide (d0 ≤ s2) = true := decide_eq_true p4
        clear h
        go_enter Try.func18, Try.ntmps18
        go_wp2_with fail
        all_goals go_ret
        all_goals exact ⟨rfl, HB.out⟩
set_option maxHeartbeats 1000000 in
set_option maxRecDepth 100000 in
theorem out2 (d0 d1 : Int) (A : Option Addr) (ca : Nat) (L : List Ru) (bv : Value) (j : Nat) (s1 x s3 : Int) (hj : j < L.length) (u0 u1 u2 u3 u4 u5 : Int) (hu : L[j] = ⟨u0, u1, u2, u3, u4, u5⟩) (w : World) (g1 : d0 ≤ 10) (g2 : d1 ≤ 6) (hA : UG w A L) (x0 : 0 ≤ x) (x1 : x < d0) (h : rightU d0.toNat d1.toNat L[j] = false ∨ u1 ≠ s1) :
    Calls Try.prog 18 #[.int .i64 d0, .int .i64 d1, .slice A L.length ca, bv, .agg #[.int .i64 j, .int .i64 s1, .int .i64 x, .int .i64 s3]] w fun e w' => e = .returned (.bool false) ∧ Below w.heap.size w w' := by
  have e1 : decide ((j : Int) < 0) = false := by simp
  have e2 : decide ((L.length : Int) ≤ j) = false := by simp; omega
  have e7 : decide (L.length ≤ j) = false := by simp; omega
  have e3 : decide (x < 0) = false := by simp; omega
  have e4 : decide (d0 ≤ x) = false := by simp; omega
  have e5 : decide (64 < d0) = false := by simp; omega
  have e6 : decide (64 < d1) = false := by simp; omega
  have q0 : (0 : Int) ≤ j := by omega
  have q1 : (j : Int) < L.length := by omega
  have HR := Lib.hid (fun w' => rightD d0 d1 L[j] w' (by omega) (by omega))
  obtain ⟨rb, hrb⟩ : ∃ b, rightU d0.toNat d1.toNat L[j] = b := ⟨_, rfl⟩
  rw [hrb] at HR h
  obtain ⟨g, o, rfl, hg, hc⟩ := hA (by omega)
  have HC := Lib.hid (fun w' (hb : Below w.heap.size w w') (k : Nat) (hk : k < 6) => (hb.cell (p := ⟨g, o + j * 6 + k, none⟩) hg).trans (hc j hj k hk))
  rw [hu] at HC HR
  clear hA hc hu hrb
  unfold Ru.val Ru.cells at *
  simp only at HR HC
  have hb3 : Below w.heap.size w ((w.alloc (.cells #[.int .i64 j, .int .i64 s1, .int .i64 x, .int .i64 s3] 30)).alloc (.cells #[.int .i64 u0, .int .i64 u1, .int .i64 u2, .int .i64 u3, .int .i64 u4, .int .i64 u5] 44)) := ((Below.refl _ _).alloc (Nat.le_refl _) _).alloc (by rw [World.size_alloc]; omega) _
  have t3 := heap_alloc2_old w (.cells #[.int .i64 j, .int .i64 s1, .int .i64 x, .int .i64 s3] 30) (.cells #[.int .i64 u0, .int .i64 u1, .int .i64 u2, .int .i64 u3, .int .i64 u4, .int .i64 u5] 44)
  have s3' := heap_alloc2_new w (.cells #[.int .i64 j, .int .i64 s1, .int .i64 x, .int .i64 s3] 30) (.cells #[.int .i64 u0, .int .i64 u1, .int .i64 u2, .int .i64 u3, .int .i64 u4, .int .i64 u5] 44)
  have hba : Below w.heap.size w (w.alloc (.cells #[.int .i64 j, .int .i64 s1, .int .i64 x, .int .i64 s3] 30)) := (Below.refl _ _).alloc (Nat.le_refl _) _
  have k0 : (w.alloc (.cells #[.int .i64 j, .int .i64 s1, .int .i64 x, .int .i64 s3] 30)).cell? ⟨g, o + j * 6, none⟩ = some (.int .i64 u0) := HC.out _ hba 0 (by omega)
  have k1 : (w.alloc (.cells #[.int .i64 j, .int .i64 s1, .int .i64 x, .int .i64 s3] 30)).cell? ⟨g, o + j * 6 + 1, none⟩ = some (.int .i64 u1) := HC.out _ hba 1 (by omega)
  have k2 : (w.alloc (.cells #[.int .i64 j, .int .i64 s1, .int .i64 x, .int .i64 s3] 30)).cell? ⟨g, o + j * 6 + 2, none⟩ = some (.int .i64 u2) := HC.out _ hba 2 (by omega)
  have k3 : (w.alloc (.cells #[.int .i64 j, .int .i64 s1, .int .i64 x, .int .i64 s3] 30)).cell? ⟨g, o + j * 6 + 3, none⟩ = some (.int .i64 u3) := HC.out _ hba 3 (by omega)
  have k4 : (w.alloc (.cells #[.int .i64 j, .int .i64 s1, .int .i64 x, .int .i64 s3] 30)).cell? ⟨g, o + j * 6 + 4, none⟩ = some (.int .i64 u4) := HC.out _ hba 4 (by omega)
  have k5 : (w.alloc (.cells #[.int .i64 j, .int .i64 s1, .int .i64 x, .int .i64 s3] 30)).cell? ⟨g, o + j * 6 + 5, none⟩ = some (.int .i64 u5) := HC.out _ hba 5 (by omega)
  clear hba
  go_enter Try.func18, Try.ntmps18
  go_upto_region 4 with fail
  clear k0 k1 k2 k3 k4 k5
  obtain ⟨bx, hbx⟩ : ∃ bx, w.heap.size = bx := ⟨_, rfl⟩
  simp only [hbx] at hb3 t3 s3' HC ⊢
  generalize (w.alloc (.cells #[.int .i64 j, .int .i64 s1, .int .i64 x, .int .i64 s3] 30)).alloc (.cells #[.int .i64 u0, .int .i64 u1, .int .i64 u2, .int .i64 u3, .int .i64 u4, .int .i64 u5] 44) = w3 at *
  have c1 := fun o => Lib.cell_of_heap t3 o
  have c2 := fun o => Lib.cell_of_heap s3' o
  go_wp2_with fail
  refine (HR.out _).mono ?_
  rintro e w4 ⟨rfl, hb4⟩
  have t4 := (hb4.block _ (lt_of t3)).trans t3
  have s4 := (hb4.block _ (lt_of s3')).trans s3'
  have hb5 := hb3.trans (hb4.mono (by rw [← hbx]; exact hb3.size))
  clear c1 c2 hb3 hb4 t3 s3'
  have c1 := fun o => Lib.cell_of_heap t4 o
  have c2 := fun o => Lib.cell_of_heap s4 o
  dsimp only
  cases rb with
  | false =>
    clear h
    go_wp2_with fail
    all_goals go_ret
    all_goals exact ⟨rfl, by first | exact hb5 | (rw [hbx]; exact hb5)⟩
  | true =>
    have h1 : u1 ≠ s1 := h.resolve_left (by simp)
    have d1 : (u1 == s1) = false := by simp [h1]
    have d2 : decide (u1 = s1) = false := by simp [h1]
    have d3 : (u1 != s1) = true := by simp [h1]
    clear h
    go_wp2_with fail
    all_goals go_ret
    all_goals exact ⟨rfl, by first | exact hb5 | (rw [hbx]; exact hb5)⟩
theorem right_all (d0 d1 : Int) (A : Option Addr) (ca : Nat) (L : List Ru) (B : Option Addr) (cb : Nat) (T : List Sp) (s0 s1 s2 s3 : Int) (w : World) (g1 : d0 ≤ 10) (g2 : d1 ≤ 6) (hL : L.length ≤ 60) (hT : T.length ≤ 100000) (hA : UG w A L) (hB : TG w B T) :
    Calls Try.prog 18 #[.int .i64 d0, .int .i64 d1, .slice A L.length ca, .slice B T.length cb, .agg #[.int .i64 s0, .int .i64 s1, .int .i64 s2, .int .i64 s3]] w fun e w' => e = .returned (.bool (okS d0.toNat d1.toNat L T ⟨s0, s1, s2, s3⟩)) ∧ Below w.heap.size w w' := by
  by_cases ho : s0 < 0 ∨ (L.length : Int) ≤ s0 ∨ s2 < 0 ∨ d0 ≤ s2
  · have hno : okS d0.toNat d1.toNat L T ⟨s0, s1, s2, s3⟩ = false := by
      cases h : okS d0.toNat d1.toNat L T ⟨s0, s1, s2, s3⟩ with
      | false => rfl
      | true =>
        obtain ⟨u, hu, _, _, _, x0, x1, _⟩ := okS_rng h
        obtain ⟨r0, r1, _⟩ := ruleAt_some hu
        simp only at x0 x1 r0 r1
        omega
    rw [hno]
    exact out1 d0 d1 _ _ A L.length ca s0 s1 s2 s3 w rfl ho
  · obtain ⟨j, rfl⟩ : ∃ j : Nat, s0 = j := ⟨s0.toNat, by omega⟩
    have hj : j < L.length := by omega
    have x0 : 0 ≤ s2 := by omega
    have x1 : s2 < d0 := by omega
    have hLj : L[j]? = some L[j] := List.getElem?_eq_getElem hj
    have hrat := ruleAt_nat (P := d0.toNat) (K := d1.toNat) hLj
    obtain ⟨u, hu⟩ : ∃ u, L[j] = u := ⟨_, rfl⟩
    by_cases hbad : rightU d0.toNat d1.toNat L[j] = false ∨ L[j].head ≠ s1
    · have hno : okS d0.toNat d1.toNat L T ⟨j, s1, s2, s3⟩ = false := by
        cases h : okS d0.toNat d1.toNat L T ⟨j, s1, s2, s3⟩ with
        | false => rfl
        | true =>
          obtain ⟨u', hu', _, _, _, _, _, hh⟩ := okS_rng h
          simp only at hu' hh
          rw [hrat] at hu'
          split at hu'
          · cases hu'
            rcases hbad with q | q
            · simp_all
            · exact absurd hh q
          · cases hu'
      rw [hno]
      obtain ⟨u0, u1, u2, u3, u4, u5⟩ := u
      rw [show L[j].head = u1 by rw [hu]] at hbad
      exact out2 d0 d1 A ca L _ j s1 s2 s3 hj u0 u1 u2 u3 u4 u5 hu w g1 g2 hA x0 x1 hbad
    · have hr : rightU d0.toNat d1.toNat L[j] = true := by
        cases h : rightU d0.toNat d1.toNat L[j] with
        | true => rfl
        | false => exact absurd (.inl h) hbad
      have hh : L[j].head = s1 := Classical.byContradiction fun q => hbad (.inr q)
      obtain ⟨p0, p1⟩ := right_dims hr
      obtain ⟨P, rfl⟩ : ∃ n : Nat, d0 = n := ⟨d0.toNat, by omega⟩
      obtain ⟨K, rfl⟩ : ∃ n : Nat, d1 = n := ⟨d1.toNat, by omega⟩
      simp only [Int.toNat_natCast] at hrat hr ⊢
      rw [if_pos hr] at hrat
      rw [okS_some (s := ⟨j, s1, s2, s3⟩) hrat]
      obtain ⟨hk, _⟩ := right_r hr
      rw [hu] at hk hh ⊢
      obtain ⟨k, u1, u2, u3, u4, u5⟩ := u
      simp only at hk hh
      subst hh
      have hx : decide (0 ≤ s2 ∧ s2 < (P : Int)) = true := decide_eq_true ⟨x0, x1⟩
      unfold fitB under
      simp only [hx, decide_true, Bool.true_and]
      rcases hk with rfl | rfl | rfl | rfl
      · have h := any1 P K A ca L B cb T j s2 s3 hj u1 u2 u3 u4 u5 hu w (by omega) (by omega) hL hT hA hB hr x0 x1
        refine h.mono ?_
        rintro e w' ⟨rfl, hb⟩
        exact ⟨by simp [Bool.and_comm], hb⟩
      · have h := any2 P K A ca L B cb T j s2 s3 hj u1 u2 u3 u4 u5 hu w (by omega) (by omega) hL hT hA hB hr x0 x1 _ rfl
        refine h.mono ?_
        rintro e w' ⟨rfl, hb⟩
        exact ⟨by simp, hb⟩
      · have h := any3 P K A ca L B cb T j s2 s3 hj u1 u2 u3 u4 u5 hu w (by omega) (by omega) hL hT hA hB hr x0 x1 _ rfl _ rfl
        refine h.mono ?_
        rintro e w' ⟨rfl, hb⟩
        exact ⟨by simp [Bool.and_assoc], hb⟩
      · have h := any4 P K A ca L B cb T j s2 s3 hj u1 u2 u3 u4 u5 hu w (by omega) (by omega) hL hT hA hB hr x0 x1 _ rfl _ rfl
        refine h.mono ?_
        rintro e w' ⟨rfl, hb⟩
        exact ⟨by simp, hb⟩
end Go.Proofs.Ytihhojgnilbfnaa.PfS7
/- The document's Check of a proof that is one, by contract. -/
namespace Go.Proofs.Ytihhojgnilbfnaa.PfS3
set_option linter.unusedVariables false
set_option linter.unusedSimpArgs false
open Go.RowKit Go.Lib Go.Proofs Go.Maps Go.Proofs.Ytihhojgnilbfnaa.TblB Go.Proofs.Ytihhojgnilbfnaa.TblC Go.Proofs.Ytihhojgnilbfnaa.TblV Go.Proofs.Ytihhojgnilbfnaa.TblP Go.Proofs.Ytihhojgnilbfnaa.TblQ Go.Proofs.Ytihhojgnilbfnaa.SemB Go.Proofs.Ytihhojgnilbfnaa.PfM Go.Proofs.Ytihhojgnilbfnaa.PfN Go.Proofs.Ytihhojgnilbfnaa.PfO Go.Proofs.Ytihhojgnilbfnaa.PfB Go.Proofs.Ytihhojgnilbfnaa.PfE Go.Proofs.Ytihhojgnilbfnaa.PfJ Go.Proofs.Ytihhojgnilbfnaa.PfL Go.Proofs.Ytihhojgnilbfnaa.PfS1 Go.Proofs.Ytihhojgnilbfnaa.PfS2
set_option linter.unusedVariables false
set_option linter.unusedSimpArgs false
theorem tg_take {w : World} {A : Option Addr} {T : List Sp} (h : TG w A T) (k : Nat) : TG w A (T.take k) := fun hp => by
  rw [List.length_take] at hp
  obtain ⟨g, o, hA, hg, hc⟩ := h (by omega)
  refine ⟨g, o, hA, hg, fun j hj i hi => ?_⟩
  rw [List.length_take] at hj
  rw [hc j (by omega) i hi]
  simp
theorem right_ok (P K : Nat) (A : Option Addr) (ca : Nat) (L : List Ru) (B : Option Addr) (cb : Nat) (T : List Sp) (s0 s1 s2 s3 : Int) (w : World) (g1 : P ≤ 10) (g2 : K ≤ 6) (hL : L.length ≤ 60) (hT : T.length ≤ 100000) (hA : UG w A L) (hB : TG w B T) (ok : okS P K L T ⟨s0, s1, s2, s3⟩ = true) :
    Calls Try.prog 18 #[.int .i64 P, .int .i64 K, .slice A L.length ca, .slice B T.length cb, .agg #[.int .i64 s0, .int .i64 s1, .int .i64 s2, .int .i64 s3]] w fun e w' => e = .returned (.bool true) ∧ Below w.heap.size w w' := by
  obtain ⟨u, hu, hf, hn, _⟩ := okS_rng ok
  obtain ⟨r0, r1, r2, r3⟩ := ruleAt_some hu
  simp only at r0 r1 r2
  obtain ⟨j, rfl⟩ : ∃ j : Nat, s0 = j := ⟨s0.toNat, by omega⟩
  rw [Int.toNat_natCast] at r1 r2
  have hLu : L[j] = u := by
    have := List.getElem?_eq_getElem r1
    rw [r2] at this
    simpa using this.symm
  have hr : rightU P K L[j] = true := by rw [hLu]; exact r3
  obtain ⟨hk, _⟩ := right_r r3
  obtain ⟨k, u1, u2, u3, u4, u5⟩ := u
  unfold fitB at hf
  unfold under at hn
  simp only [Bool.and_eq_true, Bool.or_eq_true, Bool.not_eq_true', decide_eq_true_eq, decide_eq_false_iff_not] at hf hn hk
  obtain ⟨rfl, ⟨x0, x1⟩, hw, hm⟩ := hf
  rcases hk with rfl | rfl | rfl | rfl
  · rw [if_neg (by decide), decide_eq_true_eq] at hm
    obtain rfl := hm
    obtain rfl := hw.resolve_left (by simp)
    exact right1 P K A ca L B cb T j _ r1 u1 u3 u4 u5 hLu w g1 g2 hL hT hA hB hr x0 x1
  · rw [if_neg (by decide), decide_eq_true_eq] at hm
    obtain rfl := hm
    rw [if_pos rfl] at hn
    exact right2 P K A ca L B cb T j _ r1 u1 u2 u3 u4 u5 hLu w g1 g2 hL hT hA hB hr x0 x1 (hn _ (by simp))
  · rw [if_pos rfl, decide_eq_true_eq] at hm
    rw [if_neg (by decide), if_pos rfl] at hn
    exact right3 P K A ca L B cb T j _ s3 r1 u1 u2 u3 u4 u5 hLu w g1 g2 hL hT hA hB hr x0 x1 hm.1 hm.2 (hn _ (by simp)) (hn _ (by simp))
  · rw [if_neg (by decide), decide_eq_true_eq] at hm
    obtain rfl := hm
    rw [if_neg (by decide), if_neg (by decide), if_pos rfl] at hn
    exact right4 P K A ca L B cb T j _ r1 u1 u2 u3 u4 u5 hLu w g1 g2 hL hT hA hB hr x0 x1 (hn _ (by simp)) (hn _ (by simp))
theorem chk_no {P K : Nat} {L : List Ru} : ∀ (l A : List Sp) (i : Nat) (s : Sp), chk P K L A l = true → l[i]? = some s → hasS (A ++ l.take i) s.fa = false
  | [], A, i, s, _, h => by simp at h
  | x :: l, A, 0, s, hc, h => by
    simp only [chk, Bool.and_eq_true] at hc
    simp at h
    subst h
    simpa using hc.1.2
  | x :: l, A, i + 1, s, hc, h => by
    simp only [chk, Bool.and_eq_true] at hc
    have := chk_no l (A ++ [x]) i s hc.2 (by simpa using h)
    simpa using this
set_option maxHeartbeats 1000000 in
set_option maxRecDepth 100000 in
theorem check (P K : Nat) (A : Option Addr) (ca : Nat) (L : List Ru) (B : Option Addr) (cb : Nat) (T : List Sp) (w : World) (g1 : P ≤ 10) (g2 : K ≤ 6) (hL : L.length ≤ 60) (hT : T.length ≤ 10000) (hcb : T.length ≤ cb) (hA : UG w A L) (hB : TG w B T) (ok : chk P K L [] T = true) :
    Calls Try.prog 8 #[.int .i64 P, .int .i64 K, .slice A L.length ca, .slice B T.length cb] w fun e w' => e = .returned (.bool true) ∧ Below w.heap.size w w' := by
  have HA := Lib.hid (fun w' (hb : Below w.heap.size w w') => hB.below hb)
  have HK := Lib.hid (fun w' (hb : Below w.heap.size w w') (k : Nat) (hk : k < T.length) => by
    have h1 := hasD B cb (T.take k) T[k].role T[k].who w' (by rw [List.length_take]; omega) (tg_take (hB.below hb) k)
    have h2 := right_ok P K A ca L B cb (T.take k) T[k].rule T[k].role T[k].who T[k].mid w' g1 g2 hL (by rw [List.length_take]; omega) (hA.below hb) (tg_take (hB.below hb) k) (by
      have := chk_at T [] k T[k] ok (List.getElem?_eq_getElem hk)
      rwa [List.nil_append] at this)
    have h3 := chk_no T [] k T[k] ok (List.getElem?_eq_getElem hk)
    rw [List.nil_append] at h3
    have h3 : hasS (T.take k) (T[k].role, T[k].who) = false := h3
    rw [h3, List.length_take, Nat.min_eq_left (by omega)] at h1
    rw [List.length_take, Nat.min_eq_left (by omega)] at h2
    exact And.intro h1 h2)
  clear hA hB ok
  go_enter Try.func8, Try.ntmps8
  go_wp2_with fail
  go_loopw [13] (fun i wr => ∃ k : Nat, k ≤ T.length ∧ i = .int .i64 k ∧ Below w.heap.size w wr) (fun i _ => T.length - (intOf i).toNat)
  case atStart => exact ⟨0, by omega, rfl, Below.refl _ _⟩
  case round =>
    obtain ⟨k, hk, rfl, hb⟩ := hrel
    by_cases hlt : k < T.length
    · have e1 : decide ((k : Int) < T.length) = true := by simp; omega
      obtain ⟨g, o, rfl, hg, hc⟩ := HA.out _ hb (by omega)
      have hc2 := hc k hlt
      have HK2 := Lib.hid (fun w' (hb : Below w.heap.size w w') => HK.out w' hb k hlt)
      have q0 : (0 : Int) ≤ k := by omega
      have q1 : (k : Int) < T.length := by omega
      have q2 : (k : Int) ≤ cb := by omega
      clear hc HK
      generalize T[k] = s at *
      obtain ⟨s0, s1, s2, s3⟩ := s
      simp only [Sp.cells] at hc2
      simp only at HK2
      have y0 : wr.cell? ⟨g, o + k * 4, none⟩ = some (.int .i64 s0) := hc2 0 (by omega)
      have y1 : wr.cell? ⟨g, o + k * 4 + 1, none⟩ = some (.int .i64 s1) := hc2 1 (by omega)
      have y2 : wr.cell? ⟨g, o + k * 4 + 2, none⟩ = some (.int .i64 s2) := hc2 2 (by omega)
      have y3 : wr.cell? ⟨g, o + k * 4 + 3, none⟩ = some (.int .i64 s3) := hc2 3 (by omega)
      clear hc2
      have hn := heap_alloc_new wr (.cells #[.int .i64 s0, .int .i64 s1, .int .i64 s2, .int .i64 s3] 30)
      have hbn := hb.alloc hb.size (.cells #[.int .i64 s0, .int .i64 s1, .int .i64 s2, .int .i64 s3] 30)
      have HS : Hid (∀ wA wB, (Below w.heap.size w wA ∧ wr.heap.size < wA.heap.size ∧ ∀ o, wA.cell? ⟨wr.heap.size, o, none⟩ = (#[.int .i64 s0, .int .i64 s1, .int .i64 s2, .int .i64 s3] : Array Value)[o]?) → Below wA.heap.size wA wB → Below w.heap.size w wB ∧ wr.heap.size < wB.heap.size ∧ ∀ o, wB.cell? ⟨wr.heap.size, o, none⟩ = (#[.int .i64 s0, .int .i64 s1, .int .i64 s2, .int .i64 s3] : Array Value)[o]?) := Lib.hid (fun wA wB h hh => ⟨nx h.1 hh, Nat.lt_of_lt_of_le h.2.1 hh.size, fun o => (hh.cell (p := ⟨wr.heap.size, o, none⟩) h.2.1).trans (h.2.2 o)⟩)
      have H0 := HS.out (wr.alloc (.cells #[.int .i64 s0, .int .i64 s1, .int .i64 s2, .int .i64 s3] 30)) ((wr.alloc (.cells #[.int .i64 s0, .int .i64 s1, .int .i64 s2, .int .i64 s3] 30)).drew) ⟨hbn, lt_of hn, fun o => Lib.cell_of_heap hn o⟩ ((Below.refl _ _).drew)
      go_upto_region 4 with fail
      clear y0 y1 y2 y3
      refine wp_region_held_drew (S := fun w' => Below w.heap.size w w' ∧ wr.heap.size < w'.heap.size ∧ ∀ o, w'.cell? ⟨wr.heap.size, o, none⟩ = (#[.int .i64 s0, .int .i64 s1, .int .i64 s2, .int .i64 s3] : Array Value)[o]?) (by kernel_rfl) H0 (fun hHeld => ?_)
      refine wpAnyH_take (i := 0) (v := ?_) rfl (by kernel_rfl) (by kernel_rfl) (by kernel_rfl) (fun _ _ _ h => h) (Or.inl ⟨by kernel_rfl, ?_⟩) (by assumption) ?_
      rotate_left
      · intro w hSw; obtain ⟨_, _, hSw⟩ := hSw; (try dsimp only at hSw); go_simp; try with_reducible rfl
      try simp only [Act.put, List.setIfInBounds_toArray, List.set_cons_zero, List.set_cons_succ]
      refine wpAnyH_take (i := 1) (v := ?_) rfl (by kernel_rfl) (by kernel_rfl) (by kernel_rfl) (fun _ _ _ h => h) (Or.inl ⟨by kernel_rfl, ?_⟩) (by assumption) ?_
      rotate_left
      · intro w hSw; obtain ⟨_, _, hSw⟩ := hSw; (try dsimp only at hSw); go_simp; try with_reducible rfl
      try simp only [Act.put, List.setIfInBounds_toArray, List.set_cons_zero, List.set_cons_succ]
      refine wpAnyH_take (i := 2) (v := ?_) rfl (by kernel_rfl) (by kernel_rfl) (by kernel_rfl) (fun _ _ _ h => h) (Or.inl ⟨by kernel_rfl, ?_⟩) (by assumption) ?_
      rotate_left
      · intro w hSw; obtain ⟨_, _, hSw⟩ := hSw; (try dsimp only at hSw); go_simp; try with_reducible rfl
      try simp only [Act.put, List.setIfInBounds_toArray, List.set_cons_zero, List.set_cons_succ]
      refine wpAnyH_take (i := 3) (v := ?_) rfl (by kernel_rfl) (by kernel_rfl) (by kernel_rfl) (fun _ _ _ h => h) (Or.inl ⟨by kernel_rfl, ?_⟩) (by assumption) ?_
      rotate_left
      · intro w hSw; obtain ⟨_, _, hSw⟩ := hSw; (try dsimp only at hSw); go_simp; try with_reducible rfl
      try simp only [Act.put, List.setIfInBounds_toArray, List.set_cons_zero, List.set_cons_succ]
      refine wpAnyH_take (i := 4) (v := ?_) rfl (by kernel_rfl) (by kernel_rfl) (by kernel_rfl) (fun _ _ _ h => h) (Or.inl ⟨by kernel_rfl, ?_⟩) (by assumption) ?_
      rotate_left
      · intro w hSw; obtain ⟨_, _, hSw⟩ := hSw; (try dsimp only at hSw); go_simp; try with_reducible rfl
      try simp only [Act.put, List.setIfInBounds_toArray, List.set_cons_zero, List.set_cons_succ]
      refine wpAnyH_take (i := 5) (v := ?_) rfl (by kernel_rfl) (by kernel_rfl) (by kernel_rfl) (fun _ _ _ h => h) (Or.inl ⟨by kernel_rfl, ?_⟩) (by assumption) ?_
      rotate_left
      · intro w hSw; obtain ⟨_, _, hSw⟩ := hSw; (try dsimp only at hSw); go_simp; try with_reducible rfl
      try simp only [Act.put, List.setIfInBounds_toArray, List.set_cons_zero, List.set_cons_succ]
      refine wpAnyH_take (i := 6) (v := ?_) rfl (by kernel_rfl) (by kernel_rfl) (by kernel_rfl) (fun _ _ _ h => h) (Or.inl ⟨by kernel_rfl, ?_⟩) (by assumption) ?_
      rotate_left
      · intro w hSw; obtain ⟨_, _, hSw⟩ := hSw; (try dsimp only at hSw); go_simp; try with_reducible rfl
      try simp only [Act.put, List.setIfInBounds_toArray, List.set_cons_zero, List.set_cons_succ]
      refine wpAnyH_ready (rs := [7]) (by kernel_rfl) (by simp) ?_
      refine AllReadyH.cons rfl (fun K hK => ?_) AllReadyH.nil
      go_simp
      go_wp2_with ((with_reducible refine ((HK2.out _ hHeld.1).1).mono ?_); rintro e wa ⟨rfl, hba⟩)
      refine hK.out _ _ (HS.out _ _ hHeld hba) (fun hHeld => ?_)
      clear hK K
      try simp only [Act.put, List.setIfInBounds_toArray, List.set_cons_zero, List.set_cons_succ]
      refine wpAnyH_take (i := 8) (v := ?_) rfl (by kernel_rfl) (by kernel_rfl) (by kernel_rfl) (fun _ _ _ h => h) (Or.inl ⟨by kernel_rfl, ?_⟩) (by assumption) ?_
      rotate_left
      · intro w hSw; obtain ⟨_, _, hSw⟩ := hSw; (try dsimp only at hSw); go_simp; try with_reducible rfl
      try simp only [Act.put, List.setIfInBounds_toArray, List.set_cons_zero, List.set_cons_succ]
      refine wpAnyH_take (i := 9) (v := ?_) rfl (by kernel_rfl) (by kernel_rfl) (by kernel_rfl) (fun _ _ _ h => h) (Or.inl ⟨by kernel_rfl, ?_⟩) (by assumption) ?_
      rotate_left
      · intro w hSw; obtain ⟨_, _, hSw⟩ := hSw; (try dsimp only at hSw); go_simp; try with_reducible rfl
      try simp only [Act.put, List.setIfInBounds_toArray, List.set_cons_zero, List.set_cons_succ]
      refine wpAnyH_take (i := 10) (v := ?_) rfl (by kernel_rfl) (by kernel_rfl) (by kernel_rfl) (fun _ _ _ h => h) (Or.inl ⟨by kernel_rfl, ?_⟩) (by assumption) ?_
      rotate_left
      · intro w hSw; obtain ⟨_, _, hSw⟩ := hSw; (try dsimp only at hSw); go_simp; try with_reducible rfl
      try simp only [Act.put, List.setIfInBounds_toArray, List.set_cons_zero, List.set_cons_succ]
      refine wpAnyH_take (i := 11) (v := ?_) rfl (by kernel_rfl) (by kernel_rfl) (by kernel_rfl) (fun _ _ _ h => h) (Or.inl ⟨by kernel_rfl, ?_⟩) (by assumption) ?_
      rotate_left
      · intro w hSw; obtain ⟨_, _, hSw⟩ := hSw; (try dsimp only at hSw); go_simp; try with_reducible rfl
      try simp only [Act.put, List.setIfInBounds_toArray, List.set_cons_zero, List.set_cons_succ]
      refine wpAnyH_take (i := 12) (v := ?_) rfl (by kernel_rfl) (by kernel_rfl) (by kernel_rfl) (fun _ _ _ h => h) (Or.inl ⟨by kernel_rfl, ?_⟩) (by assumption) ?_
      rotate_left
      · intro w hSw; obtain ⟨_, _, hSw⟩ := hSw; (try dsimp only at hSw); go_simp; try with_reducible rfl
      try simp only [Act.put, List.setIfInBounds_toArray, List.set_cons_zero, List.set_cons_succ]
      refine wpAnyH_take (i := 13) (v := ?_) rfl (by kernel_rfl) (by kernel_rfl) (by kernel_rfl) (fun _ _ _ h => h) (Or.inl ⟨by kernel_rfl, ?_⟩) (by assumption) ?_
      rotate_left
      · intro w hSw; obtain ⟨_, _, hSw⟩ := hSw; (try dsimp only at hSw); go_simp; try with_reducible rfl
      try simp only [Act.put, List.setIfInBounds_toArray, List.set_cons_zero, List.set_cons_succ]
      refine wpAnyH_take (i := 14) (v := ?_) rfl (by kernel_rfl) (by kernel_rfl) (by kernel_rfl) (fun _ _ _ h => h) (Or.inl ⟨by kernel_rfl, ?_⟩) (by assumption) ?_
      rotate_left
      · intro w hSw; obtain ⟨_, _, hSw⟩ := hSw; (try dsimp only at hSw); go_simp; try with_reducible rfl
      try simp only [Act.put, List.setIfInBounds_toArray, List.set_cons_zero, List.set_cons_succ]
      refine wpAnyH_take (i := 15) (v := ?_) rfl (by kernel_rfl) (by kernel_rfl) (by kernel_rfl) (fun _ _ _ h => h) (Or.inl ⟨by kernel_rfl, ?_⟩) (by assumption) ?_
      rotate_left
      · intro w hSw; obtain ⟨_, _, hSw⟩ := hSw; (try dsimp only at hSw); go_simp; try with_reducible rfl
      try simp only [Act.put, List.setIfInBounds_toArray, List.set_cons_zero, List.set_cons_succ]
      refine wpAnyH_ready (rs := [16]) (by kernel_rfl) (by simp) ?_
      refine AllReadyH.cons rfl (fun K hK => ?_) AllReadyH.nil
      go_simp
      go_wp2_with ((with_reducible refine ((HK2.out _ hHeld.1).2).mono ?_); rintro e wb ⟨rfl, hbb⟩)
      refine hK.out _ _ (HS.out _ _ hHeld hbb) (fun hHeld => ?_)
      clear hK K
      try simp only [Act.put, List.setIfInBounds_toArray, List.set_cons_zero, List.set_cons_succ]
      refine wpAnyH_take (i := 17) (v := ?_) rfl (by kernel_rfl) (by kernel_rfl) (by kernel_rfl) (fun _ _ _ h => h) (Or.inl ⟨by kernel_rfl, ?_⟩) (by assumption) ?_
      rotate_left
      · intro w hSw; obtain ⟨_, _, hSw⟩ := hSw; (try dsimp only at hSw); go_simp; try with_reducible rfl
      try simp only [Act.put, List.setIfInBounds_toArray, List.set_cons_zero, List.set_cons_succ]
      refine wpAnyH_take (i := 18) (v := ?_) rfl (by kernel_rfl) (by kernel_rfl) (by kernel_rfl) (fun _ _ _ h => h) (Or.inl ⟨by kernel_rfl, ?_⟩) (by assumption) ?_
      rotate_left
      · intro w hSw; obtain ⟨_, _, hSw⟩ := hSw; (try dsimp only at hSw); go_simp; try with_reducible rfl
      try simp only [Act.put, List.setIfInBounds_toArray, List.set_cons_zero, List.set_cons_succ]
      refine wpAnyH_done (by kernel_rfl) ?_ _
      have HB := Lib.hid hHeld.1
      clear hHeld hb hbn hn
      go_wp2_with fail
      go_roundw
      case rel => exact ⟨k + 1, by omega, by go_num, HB.out⟩
      case measure => simp [intOf]; omega
    · have e1 : decide ((k : Int) < T.length) = false := by simp; omega
      have HB := Lib.hid hb
      clear hb
      go_wp2_with fail
      go_ret
      exact ⟨rfl, HB.out⟩
end Go.Proofs.Ytihhojgnilbfnaa.PfS3
