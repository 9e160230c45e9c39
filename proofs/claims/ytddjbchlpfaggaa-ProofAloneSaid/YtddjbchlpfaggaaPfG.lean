/- The search: begin, by contract. -/
import Derived.Test.YtddjbchlpfaggaaPfF
namespace Go.Proofs.Ytddjbchlpfaggaa.PfG
open Go.RowKit Go.Lib Go.Proofs Go.Maps Go.Proofs.Ytddjbchlpfaggaa.SetQ Go.Proofs.Ytddjbchlpfaggaa.SetR Go.Proofs.Ytddjbchlpfaggaa.TblC Go.Proofs.Ytddjbchlpfaggaa.TblV Go.Proofs.Ytddjbchlpfaggaa.TblQ Go.Proofs.Ytddjbchlpfaggaa.SemB Go.Proofs.Ytddjbchlpfaggaa.SemC Go.Proofs.Ytddjbchlpfaggaa.SemD Go.Proofs.Ytddjbchlpfaggaa.SemGa Go.Proofs.Ytddjbchlpfaggaa.SemJ Go.Proofs.Ytddjbchlpfaggaa.PfM Go.Proofs.Ytddjbchlpfaggaa.PfN Go.Proofs.Ytddjbchlpfaggaa.PfA Go.Proofs.Ytddjbchlpfaggaa.PfB Go.Proofs.Ytddjbchlpfaggaa.PfC Go.Proofs.Ytddjbchlpfaggaa.PfD Go.Proofs.Ytddjbchlpfaggaa.PfF
set_option linter.unusedVariables false
set_option linter.unusedSimpArgs false
set_option maxHeartbeats 1000000 in
set_option maxRecDepth 100000 in
theorem begin_ (W w : World) (a : Ad) (t : Ss) (h : Nat) (F : Frm) (P K i : Nat) (lP : P ≤ 64) (lK : K ≤ 64) (u : Ru) (hw : Wq W w a t h F) (hu : rightU P K u = true)
    (hn : t.nw ≤ 900000) (hl : ∀ r, (t.watch r).length ≤ 900000) (hkn : t.known.length ≤ 900000) :
    Calls Try.prog 35 #[.pointer (some ⟨a.ws, 0, none⟩), .int .i64 i, u.val] w (WPost W a (beginM t i u) h F) := by
  obtain ⟨hk0, rh, rw_, ra, rb, rv⟩ := right_r hu
  have hpk := mul_small lP lK
  obtain ⟨u0, u1, u2, u3, u4, u5⟩ := u
  simp only at hk0 rh rw_ ra rb rv
  obtain ⟨F1, hq1, hb1, hc1⟩ := with_box hw #[.int .i64 u0, .int .i64 u1, .int .i64 u2, .int .i64 u3, .int .i64 u4, .int .i64 u5] 44
  have HB1 := Lib.hid (fun w' t' => hb1 w' t' h)
  have HC1 := Lib.hid (fun w' t' (hq : Wq W w' a t' h F1) (k : Nat) => Lib.cell_of_heap (hc1 w' t' h hq) k)
  have r1 := HC1.out _ _ hq1
  have HPu := Lib.hid (PfC.put W _ a t h F1 ⟨i, u1, u2, 0⟩ hq1 ⟨by unfold Sp.fa; simp only; omega, by unfold Sp.fa; simp only; omega⟩ (by omega))
  have HWa := Lib.hid (PfD.watch W _ a t h F1 u3 i (-1) hq1 (by omega) (by omega) (by have := hl u3; omega))
  have HWb := Lib.hid (fun w' (hq : Wq W w' a (watchM t u3 ((i : Int), -1)) h F1) => PfD.watch W w' a (watchM t u3 ((i : Int), -1)) h F1 u4 i (-1) hq (by omega) (by show t.nw + 1 ≤ _; omega) (by have := watch_len t u3 ((i : Int), -1) u4; have := hl u4; omega))
  unfold Ru.val beginM
  simp only at HPu HWa HWb ⊢
  clear hq1 hb1 hc1 hw hu rh rw_ ra rb rv hl hn hkn hpk
  by_cases k1 : u0 = 1
  · subst k1
    rw [if_pos rfl]
    clear HWa HWb
    go_enter Try.func35, Try.ntmps35
    go_wp2_with fail
    refine HPu.out.mono ?_
    rintro e w1 ⟨rfl, hq2⟩
    have HE := Lib.hid (HB1.out _ _ hq2)
    clear hq2 HPu r1
    go_wp2_with fail
    go_end0
    exact ⟨rfl, HE.out⟩
  · rw [if_neg k1]
    have d1 : (u0 == 1) = false := by simp [k1]
    clear HPu
    by_cases k4 : u0 = 4
    · subst k4
      by_cases e5 : u4 = u3
      · subst e5
        rw [if_neg (fun q => q.2 rfl)]
        clear HWb
        go_enter Try.func35, Try.ntmps35
        go_wp2_with fail
        refine HWa.out.mono ?_
        rintro e w1 ⟨rfl, hq2⟩
        have r2 := HC1.out _ _ hq2
        have HE := Lib.hid (HB1.out _ _ hq2)
        clear hq2 HWa r1
        go_wp2_with fail
        go_end0
        exact ⟨rfl, HE.out⟩
      · rw [if_pos ⟨rfl, e5⟩]
        have d5 : (u4 != u3) = true := by simp [e5]
        go_enter Try.func35, Try.ntmps35
        go_wp2_with fail
        refine HWa.out.mono ?_
        rintro e w1 ⟨rfl, hq2⟩
        have r2 := HC1.out _ _ hq2
        have HWc := Lib.hid (HWb.out _ hq2)
        clear hq2 HWa r1 HWb
        go_wp2_with fail
        refine HWc.out.mono ?_
        rintro e w2 ⟨rfl, hq3⟩
        have HE := Lib.hid (HB1.out _ _ hq3)
        clear hq3 HWc r2
        go_wp2_with fail
        go_end0
        exact ⟨rfl, HE.out⟩
    · rw [if_neg (fun q => k4 q.1)]
      have d4 : (u0 == 4) = false := by simp [k4]
      clear HWb
      go_enter Try.func35, Try.ntmps35
      go_wp2_with fail
      refine HWa.out.mono ?_
      rintro e w1 ⟨rfl, hq2⟩
      have r2 := HC1.out _ _ hq2
      have HE := Lib.hid (HB1.out _ _ hq2)
      clear hq2 HWa r1
      go_wp2_with fail
      go_end0
      exact ⟨rfl, HE.out⟩
end Go.Proofs.Ytddjbchlpfaggaa.PfG
