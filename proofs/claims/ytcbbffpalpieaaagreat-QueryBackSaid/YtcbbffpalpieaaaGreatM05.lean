/- Which texts are names, by the document's answers. -/
import Derived.Test.YtcbbffpalpieaaaGreatM01
import Derived.Test.YtcbbffpalpieaaaGreatM04
import Derived.Test.YtcbbffpalpieaaaGreatShelf
import Derived.Outline
import Derived.WalkLawsBesides
import Derived.WalkSpells
import Derived.Deep.QuietTactic
import Derived.BigQuiet
import Derived.Sort.Walk0
namespace Go.Proofs.YtcbbffpalpieaaaGreat.RefN
set_option linter.unusedVariables false
set_option linter.unusedSimpArgs false
open Go.RowKit Go.Proofs.YtcbbffpalpieaaaGreat.Plain Go.Proofs.YtcbbffpalpieaaaGreat.Leaf Go.Proofs.YtcbbffpalpieaaaGreat.Named
theorem letter (n : Int) (w : World) : Calls Tryz.prog 80 #[.int .u8 n] w fun e w' => e = .returned (.bool (wordB n)) ∧ w = w' := by
  go_enter Tryz.func80, Tryz.ntmps80
  go_wp2
  all_goals go_ret
  all_goals refine ⟨ret_bool ?_, rfl⟩
  all_goals
    unfold wordB capB smallB digB
    rw [Bool.eq_iff_iff]
    simp
    omega
def between (lo hi n : Int) : Bool := decide (lo ≤ n ∧ n ≤ hi)
theorem is_ (s : ByteArray) (lo hi : Int) (w : World) (hs : s.size ≤ maxLen) :
    Calls Tryz.prog 59 #[.string s, .int .u8 lo, .int .u8 hi] w fun e w' => e = .returned (.bool (named (between lo hi) s.data.toList)) ∧ w = w' := by
  unfold maxLen at hs
  by_cases h1 : 0 < s.size
  · by_cases h8 : s.size ≤ 8
    · by_cases hlo : lo ≤ s[0].toNat
      · by_cases hhi : s[0].toNat ≤ hi
        · have Hc := Lib.hid (show between lo hi s[0].toNat = true from decide_eq_true ⟨hlo, hhi⟩)
          go_enter Tryz.func59, Tryz.ntmps59
          go_wp2_with fail
          go_loop [7] (fun i => ∃ k : Nat, k ≤ s.size ∧ i = .int .i64 k ∧ Hid (∀ j, (h : j < s.size) → j < k → wordB s[j].toNat = true)) (fun i => s.size - (intOf i).toNat)
          case atStart => exact ⟨0, by omega, rfl, Lib.hid fun j _ hj => by omega⟩
          case round =>
            obtain ⟨k, hk, rfl, hall⟩ := hrel
            by_cases hlt : k < s.size
            · cases hw : wordB s[k].toNat
              · have Hw := Lib.hid (named_bad (f := between lo hi) k hlt hw)
                clear hall
                go_wp2_with (go_at_call 80; refine (letter _ _).mono ?_; rintro e w' ⟨rfl, rfl⟩)
                go_ret
                exact ⟨ret_bool Hw.out.symm, rfl⟩
              · have hnext : Hid (∀ j, (h : j < s.size) → j < k + 1 → wordB s[j].toNat = true) := Lib.hid fun j h hj => by
                  by_cases e : j = k
                  · subst e; exact hw
                  · exact hall.out j h (by omega)
                clear hall
                go_wp2_with (go_at_call 80; refine (letter _ _).mono ?_; rintro e w' ⟨rfl, rfl⟩)
                go_round
                case rel => exact ⟨k + 1, by omega, by go_num, hnext⟩
                case measure => simp [intOf]; omega
            · go_wp2_with fail
              go_ret
              exact ⟨ret_bool (named_ok h1 h8 Hc.out (fun j h => hall.out j h (by omega))).symm, rfl⟩
        · have Hc := Lib.hid (named_head (f := between lo hi) h1 (decide_eq_false (fun h => hhi h.2)))
          go_enter Tryz.func59, Tryz.ntmps59
          go_wp2_with fail
          go_ret
          exact ⟨ret_bool Hc.out.symm, rfl⟩
      · have Hc := Lib.hid (named_head (f := between lo hi) h1 (decide_eq_false (fun h => hlo h.1)))
        go_enter Tryz.func59, Tryz.ntmps59
        go_wp2_with fail
        go_ret
        exact ⟨ret_bool Hc.out.symm, rfl⟩
    · go_enter Tryz.func59, Tryz.ntmps59
      go_wp2_with fail
      go_ret
      exact ⟨ret_bool (named_len (by omega)).symm, rfl⟩
  · go_enter Tryz.func59, Tryz.ntmps59
    go_wp2_with fail
    go_ret
    exact ⟨ret_bool (named_len (by omega)).symm, rfl⟩
theorem refIsPrin (s : ByteArray) (w : World) (hs : s.size ≤ maxLen) : Calls Tryz.prog 30 #[.string s] w fun e w' => e = .returned (.bool (named capB s.data.toList)) ∧ w = w' := by
  go_enter Tryz.func30, Tryz.ntmps30
  go_wp2_with (go_at_call 59; refine (is_ _ _ _ _ hs).mono ?_; rintro e w' ⟨rfl, rfl⟩)
  go_ret
  exact ⟨ret_bool (show named (between 65 90) _ = named capB _ from rfl), rfl⟩
theorem refIsName (s : ByteArray) (w : World) (hs : s.size ≤ maxLen) : Calls Tryz.prog 58 #[.string s] w fun e w' => e = .returned (.bool (named smallB s.data.toList)) ∧ w = w' := by
  go_enter Tryz.func58, Tryz.ntmps58
  go_wp2_with (go_at_call 59; refine (is_ _ _ _ _ hs).mono ?_; rintro e w' ⟨rfl, rfl⟩)
  go_ret
  exact ⟨ret_bool (show named (between 97 122) _ = named smallB _ from rfl), rfl⟩
end Go.Proofs.YtcbbffpalpieaaaGreat.RefN
/- Roles: which are right, their texts, how two stand. -/
namespace Go.Proofs.YtcbbffpalpieaaaGreat.Syn1
set_option linter.unusedVariables false
set_option linter.unusedSimpArgs false
open Go.RowKit Go.Sort Go.Proofs Go.Proofs.YtcbbffpalpieaaaGreat.Plain Go.Proofs.YtcbbffpalpieaaaGreat.SynP Go.Proofs.YtcbbffpalpieaaaGreat.Named Go.Proofs.YtcbbffpalpieaaaGreat.RefN Go.Proofs.YtcbbffpalpieaaaGreat.Grown
theorem isRole (r : Rl) (w : World) (h : r.light) : Calls Tryz.prog 27 #[r.val] w fun e w' => e = .returned (.bool r.ok) ∧ Grew w w' := by
  obtain ⟨o, n⟩ := r
  obtain ⟨h1, h2⟩ := h
  simp only at h1 h2
  cases e1 : named capB o.data.toList
  all_goals
    have He := Lib.hid e1
    clear e1
    unfold Rl.val
    go_enter Tryz.func27, Tryz.ntmps27
    go_wp2_with (first | (go_at_call 52; refine (isPrin _ _ h1).mono ?_; rintro e w' ⟨rfl, rfl⟩; rw [He.out]) | (go_at_call 53; refine (isName _ _ h2).mono ?_; rintro e w' ⟨rfl, rfl⟩))
    go_ret
    exact ⟨ret_bool (by unfold Rl.ok; simp only [He.out]; rfl), (Grew.refl _).alloc _⟩
theorem isRoleRef (r : Rl) (w : World) (h : r.light) : Calls Tryz.prog 29 #[r.val] w fun e w' => e = .returned (.bool r.ok) ∧ Grew w w' := by
  obtain ⟨o, n⟩ := r
  obtain ⟨h1, h2⟩ := h
  simp only at h1 h2
  cases e1 : named capB o.data.toList
  all_goals
    have He := Lib.hid e1
    clear e1
    unfold Rl.val
    go_enter Tryz.func29, Tryz.ntmps29
    go_wp2_with (first | (go_at_call 30; refine (refIsPrin _ _ h1).mono ?_; rintro e w' ⟨rfl, rfl⟩; rw [He.out]) | (go_at_call 58; refine (refIsName _ _ h2).mono ?_; rintro e w' ⟨rfl, rfl⟩))
    go_ret
    exact ⟨ret_bool (by unfold Rl.ok; simp only [He.out]; rfl), (Grew.refl _).alloc _⟩
theorem printRole (r : Rl) (w : World) (h : r.owner.size ≤ 1000 ∧ r.name.size ≤ 1000) : Calls Tryz.prog 33 #[r.val] w fun e w' => e = .returned (.string (r.owner ++ ⟨#[46]⟩ ++ r.name)) ∧ Grew w w' := by
  obtain ⟨o, n⟩ := r
  obtain ⟨h1, h2⟩ := h
  simp only at h1 h2
  unfold Rl.val
  go_enter Tryz.func33, Tryz.ntmps33
  go_wp2
  go_ret
  exact ⟨rfl, (Grew.refl _).alloc _⟩
theorem printRoleRef (r : Rl) (w : World) (h : r.owner.size ≤ 1000 ∧ r.name.size ≤ 1000) : Calls Tryz.prog 36 #[r.val] w fun e w' => e = .returned (.string (r.owner ++ ⟨#[46]⟩ ++ r.name)) ∧ Grew w w' := by
  obtain ⟨o, n⟩ := r
  obtain ⟨h1, h2⟩ := h
  simp only at h1 h2
  unfold Rl.val
  go_enter Tryz.func36, Tryz.ntmps36
  go_wp2
  go_ret
  exact ⟨rfl, (Grew.refl _).alloc _⟩
theorem isNaN (a : ByteArray) (w : World) : Calls Tryz.prog 120 #[.string a] w fun e w' => e = .returned (.bool false) ∧ w = w' := by
  go_enter Tryz.func120, Tryz.ntmps120
  go_wp2
  go_ret
  exact ⟨rfl, rfl⟩
theorem less_eq (a b : ByteArray) : Op.bytesLess a.toList b.toList = strLt a b := by
  rw [bytesLess_eq, Go.ByteArray.toList_eq, Go.ByteArray.toList_eq]; rfl
theorem same_eq (a b : ByteArray) : (a.toList == b.toList) = decide (a = b) := by
  rw [Bool.eq_iff_iff, decide_eq_true_iff, beq_iff_eq, Go.ByteArray.toList_eq, Go.ByteArray.toList_eq]
  exact ⟨ba_ext, fun h => by rw [h]⟩
/-- The first that isn't 0, of a row of numbers. -/
def IRow (w : World) (g : Nat) (l : List Int) : Prop := g < w.heap.size ∧ ∀ k, (h : k < l.length) → w.cell? ⟨g, k, none⟩ = some (.int .i64 l[k])
theorem orL_skip {l : List Int} {k : Nat} (h : k < l.length) (h0 : l[k] = 0) : orL (l.drop k) = orL (l.drop (k + 1)) := by
  rw [List.drop_eq_getElem_cons h]; simp [orL, h0]
theorem orL_stop {l : List Int} {k : Nat} (h : k < l.length) (h0 : l[k] ≠ 0) : orL (l.drop k) = l[k] := by
  rw [List.drop_eq_getElem_cons h]; simp [orL, h0]
end Go.Proofs.YtcbbffpalpieaaaGreat.Syn1
/- Equality of two roles, and of two statements, as the program's operators tell it. -/
namespace Go.Proofs.YtcbbffpalpieaaaGreat.SynE
set_option linter.unusedVariables false
set_option linter.unusedSimpArgs false
open Go.RowKit Go.Sort Go.Proofs Go.Proofs.YtcbbffpalpieaaaGreat.Plain Go.Proofs.YtcbbffpalpieaaaGreat.SynP Go.Proofs.YtcbbffpalpieaaaGreat.Syn1
set_option linter.unusedSimpArgs false
theorem text_eq (a b : ByteArray) : (a.toList = b.toList) = (a = b) := by
  rw [Go.ByteArray.toList_eq, Go.ByteArray.toList_eq]; exact propext ⟨ba_ext, fun h => by rw [h]⟩
set_option maxHeartbeats 1000000 in
theorem eqR (o n o2 n2 : ByteArray) (w : World) : (binOp .eql 23 (.agg #[.string o, .string n]) (.agg #[.string o2, .string n2])).run Tryz.prog w = .ok (.bool (decide ((⟨o, n⟩ : Rl) = ⟨o2, n2⟩))) w := by
  have e := text_eq
  simp only [go_sem, Rl.mk.injEq, same_eq]
  go_simp
  by_cases h0 : o = o2
  rotate_left
  · simp [h0]
  subst h0
  by_cases h1 : n = n2
  rotate_left
  · simp [h1]
  subst h1
  simp
set_option maxHeartbeats 1000000 in
theorem neR (o n o2 n2 : ByteArray) (w : World) : (binOp .neq 23 (.agg #[.string o, .string n]) (.agg #[.string o2, .string n2])).run Tryz.prog w = .ok (.bool (!decide ((⟨o, n⟩ : Rl) = ⟨o2, n2⟩))) w := by
  have e := text_eq
  simp only [go_sem, Rl.mk.injEq, same_eq]
  go_simp
  by_cases h0 : o = o2
  rotate_left
  · simp [h0]
  subst h0
  by_cases h1 : n = n2
  rotate_left
  · simp [h1]
  subst h1
  simp
end Go.Proofs.YtcbbffpalpieaaaGreat.SynE
