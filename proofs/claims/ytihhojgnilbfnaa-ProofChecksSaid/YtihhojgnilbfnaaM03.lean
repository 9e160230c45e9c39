/- The document's Right of rules (layer 6), by contract: the same as the program's. -/
import Derived.Test.YtihhojgnilbfnaaM01
namespace Go.Proofs.Ytihhojgnilbfnaa.SemR
set_option linter.unusedVariables false
set_option linter.unusedSimpArgs false
open Go.RowKit Go.Lib Go.Proofs Go.Proofs.Ytihhojgnilbfnaa.TblB Go.Proofs.Ytihhojgnilbfnaa.TblC Go.Proofs.Ytihhojgnilbfnaa.TblV Go.Proofs.Ytihhojgnilbfnaa.TblP Go.Proofs.Ytihhojgnilbfnaa.TblQ Go.Proofs.Ytihhojgnilbfnaa.SemJ
set_option linter.unusedVariables false
set_option linter.unusedSimpArgs false
/-- The document's words. -/
def RR (n P K : Int) (u : Ru) : Prop := (0 ≤ u.head ∧ u.head < n) ∧ ((u.kind = 1 ∧ 0 ≤ u.who ∧ u.who < P ∧ u.a = 0 ∧ u.b = 0 ∧ u.via = 0) ∨ (u.kind = 2 ∧ u.who = 0 ∧ (0 ≤ u.a ∧ u.a < n) ∧ u.b = 0 ∧ u.via = 0) ∨ (u.kind = 3 ∧ u.who = 0 ∧ (0 ≤ u.a ∧ u.a < n) ∧ u.b = 0 ∧ 0 ≤ u.via ∧ u.via < K) ∨ (u.kind = 4 ∧ u.who = 0 ∧ (0 ≤ u.a ∧ u.a < n) ∧ u.via = 0 ∧ 0 ≤ u.b ∧ u.b < n))
theorem allB1 {n z : Int} : allB n [z] = true ↔ 0 ≤ z ∧ z < n := by simp [allB, inB]
theorem allB3 {n x y z : Int} : allB n [x, y, z] = true ↔ (0 ≤ x ∧ x < n) ∧ (0 ≤ y ∧ y < n) ∧ (0 ≤ z ∧ z < n) := by simp [allB, inB]
theorem right_n (n P K : Int) (u : Ru) (hz : 0 < n → 0 < P ∧ 0 < K) : (bareK u && (decide (bareU u = u) && (allB n [u.head, u.a, u.b] && (allB P [u.who] && allB K [u.via])))) = true ↔ RR n P K u := by
  obtain ⟨k, h, x, a, b, v⟩ := u
  simp only [Bool.and_eq_true, allB1, allB3, decide_eq_true_eq]
  unfold RR bareK bareU
  simp only [Bool.or_eq_true, decide_eq_true_eq]
  by_cases k1 : k = 1
  · subst k1
    rw [if_pos rfl, Ru.mk.injEq]
    omega
  · rw [if_neg k1]
    by_cases k4 : k = 4
    · subst k4
      rw [if_pos rfl, Ru.mk.injEq]
      omega
    · rw [if_neg k4]
      by_cases k3 : k = 3
      · subst k3
        rw [if_pos rfl, Ru.mk.injEq]
        omega
      · rw [if_neg k3]
        by_cases k2 : k = 2
        · subst k2
          rw [if_pos rfl, Ru.mk.injEq]
          omega
        · rw [if_neg k2]
          omega
theorem right_iff (P K : Nat) (u : Ru) : rightU P K u = true ↔ RR ((P * K : Nat) : Int) P K u := by
  refine right_n _ _ _ u fun h => ?_
  have h2 : 0 < P * K := by omega
  have h3 := Nat.pos_of_mul_pos_right h2
  have h4 := Nat.pos_of_mul_pos_left h2
  omega
set_option maxHeartbeats 2000000 in
set_option maxRecDepth 100000 in
theorem rightR (P K : Nat) (u : Ru) (w : World) (g1 : P ≤ 1000) (g2 : K ≤ 1000) : Calls Try.prog 26 #[.int .i64 P, .int .i64 K, u.val] w fun e w' => e = .returned (.bool (rightU P K u)) ∧ Below w.heap.size w w' := by
  obtain ⟨k, h, x, a, b, v⟩ := u
  have HR := Lib.hid (right_iff P K ⟨k, h, x, a, b, v⟩)
  obtain ⟨n, hn⟩ : ∃ n, P * K = n := ⟨_, rfl⟩
  have hn2 : P * K ≤ 1000 * 1000 := Nat.mul_le_mul g1 g2
  have hmul : IntKind.i64.wrap ((P : Int) * (K : Int)) = (n : Int) := wrapN hn (by omega)
  rw [hn] at HR hn2
  clear hn
  show Calls _ _ #[_, _, .agg #[.int .i64 k, .int .i64 h, .int .i64 x, .int .i64 a, .int .i64 b, .int .i64 v]] _ _
  generalize rightU P K ⟨k, h, x, a, b, v⟩ = ans at *
  have d0 : decide ((P : Int) < 0) = false := by simp <;> omega
  have d1 : decide ((K : Int) < 0) = false := by simp <;> omega
  have d2 : decide ((1000 : Int) < (P : Int)) = false := by simp <;> omega
  have d3 : decide ((1000 : Int) < (K : Int)) = false := by simp <;> omega
  have HB := Lib.hid ((Below.refl w.heap.size w).alloc (Nat.le_refl _) (.cells #[.int .i64 k, .int .i64 h, .int .i64 x, .int .i64 a, .int .i64 b, .int .i64 v] 44))
  have hbx := heap_alloc_new w (.cells #[.int .i64 k, .int .i64 h, .int .i64 x, .int .i64 a, .int .i64 b, .int .i64 v] 44)
  go_enter Try.func26, Try.ntmps26
  go_upto_region 1 with fail
  generalize w.alloc (.cells #[.int .i64 k, .int .i64 h, .int .i64 x, .int .i64 a, .int .i64 b, .int .i64 v] 44) = w0 at *
  have c0 : ∀ o, w0.cell? ⟨w.heap.size, o, none⟩ = (#[.int .i64 k, .int .i64 h, .int .i64 x, .int .i64 a, .int .i64 b, .int .i64 v] : Array Value)[o]? := fun o => Lib.cell_of_heap hbx o
  clear hbx
  by_cases o0 : k < 1
  · have d0 : decide (k < 1) = true := by first | (simp; done) | (simp; omega) | (simp <;> omega)
    have HE : Hid (ans = false) := Lib.hid (by rw [Bool.eq_false_iff]; intro hh; have := HR.out.1 hh; unfold RR at this; simp only at this; omega)
    clear HR
    go_wp2_with fail
    go_ret
    exact ⟨SetB.ret_bool HE.out.symm, HB.out⟩
  have d0 : decide (k < 1) = false := by first | (simp; done) | (simp; omega) | (simp <;> omega)
  by_cases o8 : (4 : Int) < k
  · have d8 : decide ((4 : Int) < k) = true := by first | (simp; done) | (simp; omega) | (simp <;> omega)
    have HE : Hid (ans = false) := Lib.hid (by rw [Bool.eq_false_iff]; intro hh; have := HR.out.1 hh; unfold RR at this; simp only at this; omega)
    clear HR
    go_wp2_with fail
    go_ret
    exact ⟨SetB.ret_bool HE.out.symm, HB.out⟩
  have d8 : decide ((4 : Int) < k) = false := by first | (simp; done) | (simp; omega) | (simp <;> omega)
  by_cases o16 : h < 0
  · have d16 : decide (h < 0) = true := by first | (simp; done) | (simp; omega) | (simp <;> omega)
    have HE : Hid (ans = false) := Lib.hid (by rw [Bool.eq_false_iff]; intro hh; have := HR.out.1 hh; unfold RR at this; simp only at this; omega)
    clear HR
    go_wp2_with fail
    go_ret
    exact ⟨SetB.ret_bool HE.out.symm, HB.out⟩
  have d16 : decide (h < 0) = false := by first | (simp; done) | (simp; omega) | (simp <;> omega)
  by_cases o24 : (n : Int) ≤ h
  · have d24 : decide ((n : Int) ≤ h) = true := by first | (simp; done) | (simp; omega) | (simp <;> omega)
    have HE : Hid (ans = false) := Lib.hid (by rw [Bool.eq_false_iff]; intro hh; have := HR.out.1 hh; unfold RR at this; simp only at this; omega)
    clear HR
    go_wp2_with fail
    go_ret
    exact ⟨SetB.ret_bool HE.out.symm, HB.out⟩
  have d24 : decide ((n : Int) ≤ h) = false := by first | (simp; done) | (simp; omega) | (simp <;> omega)
  by_cases k1 : k = 1
  · subst k1
    by_cases o34 : 0 ≤ x
    case neg =>
      have d34 : decide (0 ≤ x) = false := by first | (simp; done) | (simp; omega) | (simp <;> omega)
      have HE : Hid (ans = false) := Lib.hid (by rw [Bool.eq_false_iff]; intro hh; have := HR.out.1 hh; unfold RR at this; simp only at this; omega)
      clear HR
      go_wp2_with fail
      go_ret
      exact ⟨SetB.ret_bool HE.out.symm, HB.out⟩
    have d34 : decide (0 ≤ x) = true := by first | (simp; done) | (simp; omega) | (simp <;> omega)
    by_cases o43 : x < (P : Int)
    case neg =>
      have d43 : decide (x < (P : Int)) = false := by first | (simp; done) | (simp; omega) | (simp <;> omega)
      have HE : Hid (ans = false) := Lib.hid (by rw [Bool.eq_false_iff]; intro hh; have := HR.out.1 hh; unfold RR at this; simp only at this; omega)
      clear HR
      go_wp2_with fail
      go_ret
      exact ⟨SetB.ret_bool HE.out.symm, HB.out⟩
    have d43 : decide (x < (P : Int)) = true := by first | (simp; done) | (simp; omega) | (simp <;> omega)
    by_cases o52 : a = 0
    case neg =>
      have d52 : (a == (0 : Int)) = false := by first | (simp; done) | (simp; omega) | (simp <;> omega)
      have HE : Hid (ans = false) := Lib.hid (by rw [Bool.eq_false_iff]; intro hh; have := HR.out.1 hh; unfold RR at this; simp only at this; omega)
      clear HR
      go_wp2_with fail
      go_ret
      exact ⟨SetB.ret_bool HE.out.symm, HB.out⟩
    have d52 : (a == (0 : Int)) = true := by first | (simp; done) | (simp; omega) | (simp <;> omega)
    by_cases o61 : b = 0
    case neg =>
      have d61 : (b == (0 : Int)) = false := by first | (simp; done) | (simp; omega) | (simp <;> omega)
      have HE : Hid (ans = false) := Lib.hid (by rw [Bool.eq_false_iff]; intro hh; have := HR.out.1 hh; unfold RR at this; simp only at this; omega)
      clear HR
      go_wp2_with fail
      go_ret
      exact ⟨SetB.ret_bool HE.out.symm, HB.out⟩
    have d61 : (b == (0 : Int)) = true := by first | (simp; done) | (simp; omega) | (simp <;> omega)
    by_cases o70 : v = 0
    case neg =>
      have d70 : (v == (0 : Int)) = false := by first | (simp; done) | (simp; omega) | (simp <;> omega)
      have HE : Hid (ans = false) := Lib.hid (by rw [Bool.eq_false_iff]; intro hh; have := HR.out.1 hh; unfold RR at this; simp only at this; omega)
      clear HR
      go_wp2_with fail
      go_ret
      exact ⟨SetB.ret_bool HE.out.symm, HB.out⟩
    have d70 : (v == (0 : Int)) = true := by first | (simp; done) | (simp; omega) | (simp <;> omega)
    have HE : Hid (ans = true) := Lib.hid (by refine HR.out.2 ?_; unfold RR; dsimp only; exact ⟨⟨by omega, by omega⟩, .inl ⟨rfl, by omega, by omega, by omega, by omega, by omega⟩⟩)
    clear HR
    go_wp2_with fail
    go_ret
    exact ⟨SetB.ret_bool HE.out.symm, HB.out⟩
  · have e1 : (k == (1 : Int)) = false := by simp; omega
    by_cases o85 : x ≠ 0
    · have d85 : (x != (0 : Int)) = true := by first | (simp; done) | (simp; omega) | (simp <;> omega)
      have HE : Hid (ans = false) := Lib.hid (by rw [Bool.eq_false_iff]; intro hh; have := HR.out.1 hh; unfold RR at this; simp only at this; omega)
      clear HR
      go_wp2_with fail
      go_ret
      exact ⟨SetB.ret_bool HE.out.symm, HB.out⟩
    have d85 : (x != (0 : Int)) = false := by first | (simp; done) | (simp; omega) | (simp <;> omega)
    by_cases o93 : a < 0
    · have d93 : decide (a < 0) = true := by first | (simp; done) | (simp; omega) | (simp <;> omega)
      have HE : Hid (ans = false) := Lib.hid (by rw [Bool.eq_false_iff]; intro hh; have := HR.out.1 hh; unfold RR at this; simp only at this; omega)
      clear HR
      go_wp2_with fail
      go_ret
      exact ⟨SetB.ret_bool HE.out.symm, HB.out⟩
    have d93 : decide (a < 0) = false := by first | (simp; done) | (simp; omega) | (simp <;> omega)
    by_cases o101 : (n : Int) ≤ a
    · have d101 : decide ((n : Int) ≤ a) = true := by first | (simp; done) | (simp; omega) | (simp <;> omega)
      have HE : Hid (ans = false) := Lib.hid (by rw [Bool.eq_false_iff]; intro hh; have := HR.out.1 hh; unfold RR at this; simp only at this; omega)
      clear HR
      go_wp2_with fail
      go_ret
      exact ⟨SetB.ret_bool HE.out.symm, HB.out⟩
    have d101 : decide ((n : Int) ≤ a) = false := by first | (simp; done) | (simp; omega) | (simp <;> omega)
    obtain k2 | k3 | k4 : k = 2 ∨ k = 3 ∨ k = 4 := by omega
    · subst k2
      by_cases o111 : b = 0
      case neg =>
        have d111 : (b == (0 : Int)) = false := by first | (simp; done) | (simp; omega) | (simp <;> omega)
        have HE : Hid (ans = false) := Lib.hid (by rw [Bool.eq_false_iff]; intro hh; have := HR.out.1 hh; unfold RR at this; simp only at this; omega)
        clear HR
        go_wp2_with fail
        go_ret
        exact ⟨SetB.ret_bool HE.out.symm, HB.out⟩
      have d111 : (b == (0 : Int)) = true := by first | (simp; done) | (simp; omega) | (simp <;> omega)
      by_cases o120 : v = 0
      case neg =>
        have d120 : (v == (0 : Int)) = false := by first | (simp; done) | (simp; omega) | (simp <;> omega)
        have HE : Hid (ans = false) := Lib.hid (by rw [Bool.eq_false_iff]; intro hh; have := HR.out.1 hh; unfold RR at this; simp only at this; omega)
        clear HR
        go_wp2_with fail
        go_ret
        exact ⟨SetB.ret_bool HE.out.symm, HB.out⟩
      have d120 : (v == (0 : Int)) = true := by first | (simp; done) | (simp; omega) | (simp <;> omega)
      have HE : Hid (ans = true) := Lib.hid (by refine HR.out.2 ?_; unfold RR; dsimp only; exact ⟨⟨by omega, by omega⟩, .inr (.inl ⟨rfl, by omega, ⟨by omega, by omega⟩, by omega, by omega⟩)⟩)
      clear HR
      go_wp2_with fail
      go_ret
      exact ⟨SetB.ret_bool HE.out.symm, HB.out⟩
    · subst k3
      by_cases o135 : b = 0
      case neg =>
        have d135 : (b == (0 : Int)) = false := by first | (simp; done) | (simp; omega) | (simp <;> omega)
        have HE : Hid (ans = false) := Lib.hid (by rw [Bool.eq_false_iff]; intro hh; have := HR.out.1 hh; unfold RR at this; simp only at this; omega)
        clear HR
        go_wp2_with fail
        go_ret
        exact ⟨SetB.ret_bool HE.out.symm, HB.out⟩
      have d135 : (b == (0 : Int)) = true := by first | (simp; done) | (simp; omega) | (simp <;> omega)
      by_cases o144 : 0 ≤ v
      case neg =>
        have d144 : decide (0 ≤ v) = false := by first | (simp; done) | (simp; omega) | (simp <;> omega)
        have HE : Hid (ans = false) := Lib.hid (by rw [Bool.eq_false_iff]; intro hh; have := HR.out.1 hh; unfold RR at this; simp only at this; omega)
        clear HR
        go_wp2_with fail
        go_ret
        exact ⟨SetB.ret_bool HE.out.symm, HB.out⟩
      have d144 : decide (0 ≤ v) = true := by first | (simp; done) | (simp; omega) | (simp <;> omega)
      by_cases o153 : v < (K : Int)
      case neg =>
        have d153 : decide (v < (K : Int)) = false := by first | (simp; done) | (simp; omega) | (simp <;> omega)
        have HE : Hid (ans = false) := Lib.hid (by rw [Bool.eq_false_iff]; intro hh; have := HR.out.1 hh; unfold RR at this; simp only at this; omega)
        clear HR
        go_wp2_with fail
        go_ret
        exact ⟨SetB.ret_bool HE.out.symm, HB.out⟩
      have d153 : decide (v < (K : Int)) = true := by first | (simp; done) | (simp; omega) | (simp <;> omega)
      have HE : Hid (ans = true) := Lib.hid (by refine HR.out.2 ?_; unfold RR; dsimp only; exact ⟨⟨by omega, by omega⟩, .inr (.inr (.inl ⟨rfl, by omega, ⟨by omega, by omega⟩, by omega, by omega, by omega⟩))⟩)
      clear HR
      go_wp2_with fail
      go_ret
      exact ⟨SetB.ret_bool HE.out.symm, HB.out⟩
    · subst k4
      by_cases o168 : v = 0
      case neg =>
        have d168 : (v == (0 : Int)) = false := by first | (simp; done) | (simp; omega) | (simp <;> omega)
        have HE : Hid (ans = false) := Lib.hid (by rw [Bool.eq_false_iff]; intro hh; have := HR.out.1 hh; unfold RR at this; simp only at this; omega)
        clear HR
        go_wp2_with fail
        go_ret
        exact ⟨SetB.ret_bool HE.out.symm, HB.out⟩
      have d168 : (v == (0 : Int)) = true := by first | (simp; done) | (simp; omega) | (simp <;> omega)
      by_cases o177 : 0 ≤ b
      case neg =>
        have d177 : decide (0 ≤ b) = false := by first | (simp; done) | (simp; omega) | (simp <;> omega)
        have HE : Hid (ans = false) := Lib.hid (by rw [Bool.eq_false_iff]; intro hh; have := HR.out.1 hh; unfold RR at this; simp only at this; omega)
        clear HR
        go_wp2_with fail
        go_ret
        exact ⟨SetB.ret_bool HE.out.symm, HB.out⟩
      have d177 : decide (0 ≤ b) = true := by first | (simp; done) | (simp; omega) | (simp <;> omega)
      by_cases o186 : b < (n : Int)
      case neg =>
        have d186 : decide (b < (n : Int)) = false := by first | (simp; done) | (simp; omega) | (simp <;> omega)
        have HE : Hid (ans = false) := Lib.hid (by rw [Bool.eq_false_iff]; intro hh; have := HR.out.1 hh; unfold RR at this; simp only at this; omega)
        clear HR
        go_wp2_with fail
        go_ret
        exact ⟨SetB.ret_bool HE.out.symm, HB.out⟩
      have d186 : decide (b < (n : Int)) = true := by first | (simp; done) | (simp; omega) | (simp <;> omega)
      have HE : Hid (ans = true) := Lib.hid (by refine HR.out.2 ?_; unfold RR; dsimp only; exact ⟨⟨by omega, by omega⟩, .inr (.inr (.inr ⟨rfl, by omega, ⟨by omega, by omega⟩, by omega, by omega, by omega⟩))⟩)
      clear HR
      go_wp2_with fail
      go_ret
      exact ⟨SetB.ret_bool HE.out.symm, HB.out⟩
end Go.Proofs.Ytihhojgnilbfnaa.SemR
