/- The looking for steps: each watch of the one who is followed, in turn. -/
import Derived.Test.YtddjbchlpfaggaaPfO
namespace Go.Proofs.Ytddjbchlpfaggaa.PfP
open Go.Proofs.Ytddjbchlpfaggaa.TblB Go.Proofs.Ytddjbchlpfaggaa.TblC Go.Proofs.Ytddjbchlpfaggaa.TblV Go.Proofs.Ytddjbchlpfaggaa.TblP Go.Proofs.Ytddjbchlpfaggaa.TblQ Go.Proofs.Ytddjbchlpfaggaa.SemA Go.Proofs.Ytddjbchlpfaggaa.PfM Go.Proofs.Ytddjbchlpfaggaa.PfN Go.Proofs.Ytddjbchlpfaggaa.PfO
set_option linter.unusedVariables false
set_option linter.unusedSimpArgs false
variable {P K : Nat} {L : List Ru} {T h c : Nat} {t : Ss}
def foT (P K : Nat) (L : List Ru) (l : List (Int × Int)) (x : Int) (t : Ss) (k : Nat) : Ss := (l.take k).foldl (stepM P K L · x) t
theorem foT_succ (l : List (Int × Int)) (x : Int) (t : Ss) {k : Nat} (hk : k < l.length) : foT P K L l x t (k + 1) = stepM P K L (foT P K L l x t k) x l[k] := by
  unfold foT
  rw [List.take_succ_eq_append_getElem hk, List.foldl_append]
  rfl
theorem foT_all (l : List (Int × Int)) (x : Int) (t : Ss) : foT P K L l x t l.length = l.foldl (stepM P K L · x) t := by
  unfold foT
  rw [List.take_length]
theorem anyN_cons (y : Int × Int) (l : List (Int × Int)) : anyN (y :: l) = bump y + anyN l := by
  unfold anyN bump
  rw [List.filter_cons]
  by_cases e : y.2 = -1
  · simp [e]; omega
  · simp [e]
theorem anyN_append (l m : List (Int × Int)) : anyN (l ++ m) = anyN l + anyN m := by unfold anyN; simp
theorem follow_at {s : Sp} (hi : Inv P K L T h [] c t) (hs : t.known[h]? = some s) : ∀ k, k ≤ (t.watch s.role).length →
    Inv P K L T (h + 1) ((t.watch s.role).drop k) (c + anyN ((t.watch s.role).take k)) (foT P K L (t.watch s.role) s.who t k) ∧ (foT P K L (t.watch s.role) s.who t k).known[h]? = some s ∧ ∀ z ∈ t.watch s.role, z ∈ (foT P K L (t.watch s.role) s.who t k).watch s.role
  | 0, _ => ⟨by simpa [foT, anyN] using Inv.pop hi hs, by simpa [foT] using hs, fun z hz => by simpa [foT] using hz⟩
  | k + 1, hk => by
    obtain ⟨h1, h2, h3⟩ := follow_at hi hs k (by omega)
    rw [foT_succ _ _ _ (by omega)]
    have hd : (t.watch s.role).drop k = (t.watch s.role)[k] :: (t.watch s.role).drop (k + 1) := List.drop_eq_getElem_cons (by omega)
    rw [hd] at h1
    obtain ⟨g1, ⟨l, g2⟩, g3⟩ := Inv.step h1 (by omega) (by simpa using h2) (h3 _ (List.getElem_mem _))
    have he : anyN ((t.watch s.role).take (k + 1)) = anyN ((t.watch s.role).take k) + bump (t.watch s.role)[k] := by
      rw [List.take_succ_eq_append_getElem (by omega), anyN_append, anyN_cons]
      simp [anyN]
    rw [he, ← Nat.add_assoc]
    have hlt := h1.le
    exact ⟨g1, by rw [g2, List.getElem?_append_left (by omega)]; exact h2, fun z hz => g3 _ _ (h3 z hz)⟩
theorem anyN_take (l : List (Int × Int)) (k : Nat) : anyN (l.take k) ≤ anyN l := by
  have := anyN_append (l.take k) (l.drop k)
  rw [List.take_append_drop] at this
  omega
/-- What the walk wants of a watch that comes up. -/
structure AtK (P K : Nat) (L : List Ru) (t : Ss) (y : Int × Int) : Prop where
  i0 : 0 ≤ y.1
  i1 : y.1.toNat < L.length
  rt : rightU P K (ruleD L y.1) = true
  k1 : (ruleD L y.1).kind ≠ 1
  m3 : (ruleD L y.1).kind ≠ 3 → y.2 = -1
  kn : t.known.length ≤ P * K * P
  ln : ∀ r, (t.watch r).length ≤ t.nw
theorem at_k {s : Sp} (hi : Inv P K L T h [] c t) (hs : t.known[h]? = some s) (k : Nat) (hk : k < (t.watch s.role).length) :
    AtK P K L (foT P K L (t.watch s.role) s.who t k) (t.watch s.role)[k] ∧ (foT P K L (t.watch s.role) s.who t k).nw ≤ 2 * T + c + 2 * T ∧ (0 ≤ s.who ∧ s.who < P) := by
  obtain ⟨h1, h2, h3⟩ := follow_at hi hs k (by omega)
  have hw := h1.wok _ _ (h3 _ (List.getElem_mem hk))
  obtain ⟨⟨u, hu⟩, k1, hany, hmid⟩ := hw
  have hD := ruleD_of hu
  obtain ⟨r1, r2, r3, r4⟩ := ruleAt_some hu
  have ha := anyN_take (t.watch s.role) k
  have hb := hi.any s.role
  have hc := h1.cnt
  exact ⟨⟨r1, r2, by rw [hD]; exact r4, k1, fun q => Classical.byContradiction fun e => q (hmid e).1, chk_len h1.ck, h1.len⟩, by omega, (chk_rng _ _ h1.ck s (List.mem_of_getElem? h2)).2.1⟩
end Go.Proofs.Ytddjbchlpfaggaa.PfP
