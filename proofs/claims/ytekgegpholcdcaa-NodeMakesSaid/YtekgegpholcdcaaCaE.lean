/- The cache: the document's example; what was put last; two rows of four numbers that are equal. -/
import Derived.Test.YtekgegpholcdcaaCaD
namespace Go.Proofs.Ytekgegpholcdcaa.CaE
open Go.RowKit Go.Lib Go.Proofs Go.Proofs.Ytekgegpholcdcaa.CaA Go.Proofs.Ytekgegpholcdcaa.CaB Go.Proofs.Ytekgegpholcdcaa.CaC Go.Proofs.Ytekgegpholcdcaa.CaD
set_option linter.unusedVariables false
set_option linter.unusedSimpArgs false
theorem grown_from {W w w' : World} {R : Nat} (hb : Below W.heap.size W w) (hg : w.grownBy w' (some R)) (hR : W.heap.size ≤ R) : Below W.heap.size W w' :=
  hb.grown hg hb.size (fun k hk => by injection hk with hk; omega)
theorem upd_self (M : Nat → Pl) (i : Nat) (p : Pl) : upd M i p i = p := by unfold upd; rw [if_pos rfl]
set_option maxRecDepth 100000 in
theorem lives (w : World) : Calls Try.prog 30 #[] w fun e w' => e = .returned (.bool true) ∧ Below w.heap.size w w' := by
  have HN := Lib.hid (new_ 5 w)
  unfold NewPost at HN
  have h5 : min (5 : Int) 65536 = 5 := by omega
  rw [h5] at HN
  have HP := Lib.hid (fun B R k M w hk H => put B R k M 0 ⟨1, 2, 3, 4⟩ 9 w hk H)
  unfold PutPost at HP
  have HGt := Lib.hid (fun B R k M w hk h1 h2 H => get_hit B R k M 0 ⟨1, 2, 3, 4⟩ w hk (by omega) H h1 h2)
  have HS := Lib.hid (fun B R n M w H => size_ B R n M 1 w H)
  have HH := Lib.hid (fun B R n M w H => hits_ B R n M 1 w H)
  clear h5
  go_enter Try.func30, Try.ntmps30
  go_wp2_with fail
  refine HN.out.mono ?_
  rintro e w1 ⟨B, R, k, rfl, hk, hl, hu, hc, hb, hB, hR⟩
  have hk3 : k = 3 := by
    have h1 : ¬ k ≤ 2 := fun h => by
      have : 2 ^ k ≤ 2 ^ 2 := Nat.pow_le_pow_right (by omega) h
      omega
    have h2 : ¬ 4 ≤ k := fun h => by
      have : 2 ^ 3 ≤ 2 ^ (k - 1) := Nat.pow_le_pow_right (by omega) (by omega)
      rcases hl with rfl | hl <;> omega
    omega
  subst hk3
  have HF := Lib.hid hc
  have HB := Lib.hid hb
  have HR := Lib.hid (And.intro hB hR)
  clear hc hb hB hR hl hu hk
  go_wp2_with fail
  refine (HP.out B R 3 _ _ (by omega) HF.out).mono ?_
  rintro e w2 ⟨rfl, hc, hg⟩
  have HF2 := Lib.hid hc
  have HB2 := Lib.hid (grown_from HB.out hg HR.out.2)
  clear hc hg HF HB
  have HG2 := Lib.hid (HGt.out B R 3 _ w2 (by omega) (by rw [upd_self]) (by rw [upd_self]) HF2.out)
  rw [upd_self] at HG2
  go_wp2_with fail
  refine HG2.out.mono ?_
  rintro e w3 ⟨rfl, hc, hg⟩
  have HF3 := Lib.hid hc
  have HB3 := Lib.hid (grown_from HB2.out hg HR.out.1)
  clear hc hg HF2 HB2 HG2
  go_wp2_with fail
  refine (HS.out B R _ _ _ HF3.out).mono ?_
  rintro e w4 ⟨rfl, rfl⟩
  go_wp2_with fail
  refine (HH.out B R _ _ _ HF3.out).mono ?_
  rintro e w4 ⟨rfl, rfl⟩
  go_wp2_with fail
  go_ret
  exact ⟨rfl, HB3.out⟩
end Go.Proofs.Ytekgegpholcdcaa.CaE
