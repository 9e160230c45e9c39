/- Roles: which are right, their texts, how two stand. -/
import Derived.Test.YtnhjnimgjpgfcaaSynP
import Derived.Test.YtnhjnimgjpgfcaaRefN
import Derived.Test.YtnhjnimgjpgfcaaGrown
import Derived.Test.YtnhjnimgjpgfcaaShelf
import Derived.Outline
import Derived.WalkLawsBesides
import Derived.WalkSpells
import Derived.Deep.QuietTactic
import Derived.BigQuiet
import Derived.Sort.Walk0
namespace Go.Proofs.Ytnhjnimgjpgfcaa.Syn1
open Go.RowKit Go.Sort Go.Proofs Go.Proofs.Ytnhjnimgjpgfcaa.Plain Go.Proofs.Ytnhjnimgjpgfcaa.SynP Go.Proofs.Ytnhjnimgjpgfcaa.Named Go.Proofs.Ytnhjnimgjpgfcaa.RefN Go.Proofs.Ytnhjnimgjpgfcaa.Grown
theorem isRole (r : Rl) (w : World) (h : r.light) : Calls Try.prog 57 #[r.val] w fun e w' => e = .returned (.bool r.ok) ∧ Grew w w' := by
  obtain ⟨o, n⟩ := r
  obtain ⟨h1, h2⟩ := h
  simp only at h1 h2
  cases e1 : named capB o.data.toList
  all_goals
    have He := Lib.hid e1
    clear e1
    unfold Rl.val
    go_enter Try.func57, Try.ntmps57
    go_wp2_with (first | (go_at_call 72; refine (isPrin _ _ h1).mono ?_; rintro e w' ⟨rfl, rfl⟩; rw [He.out]) | (go_at_call 73; refine (isName _ _ h2).mono ?_; rintro e w' ⟨rfl, rfl⟩))
    go_ret
    exact ⟨ret_bool (by unfold Rl.ok; simp only [He.out]; rfl), (Grew.refl _).alloc _⟩
theorem isRoleRef (r : Rl) (w : World) (h : r.light) : Calls Try.prog 52 #[r.val] w fun e w' => e = .returned (.bool r.ok) ∧ Grew w w' := by
  obtain ⟨o, n⟩ := r
  obtain ⟨h1, h2⟩ := h
  simp only at h1 h2
  cases e1 : named capB o.data.toList
  all_goals
    have He := Lib.hid e1
    clear e1
    unfold Rl.val
    go_enter Try.func52, Try.ntmps52
    go_wp2_with (first | (go_at_call 28; refine (refIsPrin _ _ h1).mono ?_; rintro e w' ⟨rfl, rfl⟩; rw [He.out]) | (go_at_call 29; refine (refIsName _ _ h2).mono ?_; rintro e w' ⟨rfl, rfl⟩))
    go_ret
    exact ⟨ret_bool (by unfold Rl.ok; simp only [He.out]; rfl), (Grew.refl _).alloc _⟩
theorem isNaN (a : ByteArray) (w : World) : Calls Try.prog 102 #[.string a] w fun e w' => e = .returned (.bool false) ∧ w = w' := by
  go_enter Try.func102, Try.ntmps102
  go_wp2
  go_ret
  exact ⟨rfl, rfl⟩
theorem less_eq (a b : ByteArray) : Op.bytesLess a.toList b.toList = strLt a b := by
  rw [bytesLess_eq, Go.ByteArray.toList_eq, Go.ByteArray.toList_eq]; rfl
theorem same_eq (a b : ByteArray) : (a.toList == b.toList) = decide (a = b) := by
  rw [Bool.eq_iff_iff, decide_eq_true_iff, beq_iff_eq, Go.ByteArray.toList_eq, Go.ByteArray.toList_eq]
  exact ⟨ba_ext, fun h => by rw [h]⟩
theorem compareS (a b : ByteArray) (w : World) : Calls Try.prog 96 #[.string a, .string b] w fun e w' => e = .returned (.int .i64 (cmpB a b)) ∧ w = w' := by
  cases h1 : strLt a b
  · cases h2 : strLt b a
    · have H : Hid (cmpB a b = 0) := Lib.hid (by unfold cmpB; rw [h1, h2]; rfl)
      have h3 : (a.toList == b.toList) = true := by rw [same_eq]; exact decide_eq_true (strLt_total h1 h2)
      rw [← less_eq] at h1 h2
      go_enter Try.func96, Try.ntmps96
      go_wp2_with (go_at_call 102; refine (isNaN _ _).mono ?_; rintro e w' ⟨rfl, rfl⟩)
      go_ret
      exact ⟨ret_int H.out.symm, rfl⟩
    · have H : Hid (cmpB a b = 1) := Lib.hid (by unfold cmpB; rw [h1, h2]; rfl)
      have h3 : (a.toList == b.toList) = false := by rw [same_eq]; exact decide_eq_false (by rintro rfl; rw [strLt_irrefl] at h2; cases h2)
      rw [← less_eq] at h1 h2
      go_enter Try.func96, Try.ntmps96
      go_wp2_with (go_at_call 102; refine (isNaN _ _).mono ?_; rintro e w' ⟨rfl, rfl⟩)
      go_ret
      exact ⟨ret_int H.out.symm, rfl⟩
  · have H : Hid (cmpB a b = -1) := Lib.hid (by unfold cmpB; rw [h1]; rfl)
    rw [← less_eq] at h1
    go_enter Try.func96, Try.ntmps96
    go_wp2_with (go_at_call 102; refine (isNaN _ _).mono ?_; rintro e w' ⟨rfl, rfl⟩)
    go_ret
    exact ⟨ret_int H.out.symm, rfl⟩
/-- The first that isn't 0, of a row of numbers. -/
def IRow (w : World) (g : Nat) (l : List Int) : Prop := g < w.heap.size ∧ ∀ k, (h : k < l.length) → w.cell? ⟨g, k, none⟩ = some (.int .i64 l[k])
theorem orL_skip {l : List Int} {k : Nat} (h : k < l.length) (h0 : l[k] = 0) : orL (l.drop k) = orL (l.drop (k + 1)) := by
  rw [List.drop_eq_getElem_cons h]; simp [orL, h0]
theorem orL_stop {l : List Int} {k : Nat} (h : k < l.length) (h0 : l[k] ≠ 0) : orL (l.drop k) = l[k] := by
  rw [List.drop_eq_getElem_cons h]; simp [orL, h0]
theorem or_ (g cap : Nat) (l : List Int) (w : World) (hl : l.length ≤ 1000) (hr : IRow w g l) : Calls Try.prog 95 #[.slice (some ⟨g, 0, none⟩) l.length cap] w fun e w' => e = .returned (.int .i64 (orL l)) ∧ w = w' := by
  go_enter Try.func95, Try.ntmps95
  go_wp2
  go_loop [8] (fun i => ∃ k : Nat, k ≤ l.length ∧ i = .int .i64 k ∧ Hid (orL l = orL (l.drop k))) (fun i => l.length - (intOf i).toNat)
  case atStart => exact ⟨0, by omega, rfl, Lib.hid (by simp)⟩
  case round =>
    obtain ⟨k, hk, rfl, hrun⟩ := hrel
    by_cases hlt : k < l.length
    · have hc := hr.2 k hlt
      by_cases h0 : l[k] = 0
      · have hnext : Hid (orL l = orL (l.drop (k + 1))) := Lib.hid (by rw [hrun.out, orL_skip hlt h0])
        rw [h0] at hc
        clear hrun h0
        go_wp2_with fail
        go_round
        case rel => exact ⟨k + 1, by omega, by go_num, hnext⟩
        case measure => simp [intOf]; omega
      · have hfin : Hid (orL l = l[k]) := Lib.hid (by rw [hrun.out, orL_stop hlt h0])
        have h1 : (l[k] != 0) = true := by simpa using h0
        clear hrun h0
        go_wp2_with fail
        go_ret
        exact ⟨ret_int hfin.out.symm, rfl⟩
    · have hfin : Hid (orL l = 0) := Lib.hid (by rw [hrun.out, List.drop_of_length_le (by omega)]; rfl)
      clear hrun
      go_wp2_with fail
      go_ret
      exact ⟨ret_int hfin.out.symm, rfl⟩
end Go.Proofs.Ytnhjnimgjpgfcaa.Syn1
