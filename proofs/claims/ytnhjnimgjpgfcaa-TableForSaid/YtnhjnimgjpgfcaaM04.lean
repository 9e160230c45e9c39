/- How two statements stand: Order, and the document's Before. -/
import Derived.Test.YtnhjnimgjpgfcaaM03
namespace Go.Proofs.Ytnhjnimgjpgfcaa.Syn3
set_option linter.unusedVariables false
set_option linter.unusedSimpArgs false
open Go.RowKit Go.Sort Go.Proofs Go.Proofs.Ytnhjnimgjpgfcaa.Plain Go.Proofs.Ytnhjnimgjpgfcaa.SynP Go.Proofs.Ytnhjnimgjpgfcaa.Grown Go.Proofs.Ytnhjnimgjpgfcaa.Syn1 Go.Proofs.Ytnhjnimgjpgfcaa.Syn2
theorem orderRoles' (o1 n1 o2 n2 : ByteArray) (w : World) : Calls Try.prog 78 #[.agg #[.string o1, .string n1], .agg #[.string o2, .string n2]] w fun e w' => e = .returned (.int .i64 (cmpR ⟨o1, n1⟩ ⟨o2, n2⟩)) ∧ Grew w w' := orderRoles ⟨o1, n1⟩ ⟨o2, n2⟩ w
/-- Two roles: of other owners, of one owner and other names, or one. -/
theorem rl_cases (o1 n1 o2 n2 : ByteArray) : (o1 ≠ o2) ∨ (o1 = o2 ∧ n1 ≠ n2) ∨ (o1 = o2 ∧ n1 = n2) := by
  by_cases h : o1 = o2
  · by_cases h2 : n1 = n2
    · exact .inr (.inr ⟨h, h2⟩)
    · exact .inr (.inl ⟨h, h2⟩)
  · exact .inl h
theorem toList_ne {a b : ByteArray} (h : a ≠ b) : ¬ a.toList = b.toList := by
  rw [Go.ByteArray.toList_eq, Go.ByteArray.toList_eq]; exact fun e => h (ba_ext e)
theorem toList_neb {a b : ByteArray} (h : a ≠ b) : (a.toList == b.toList) = false := by rw [same_eq]; exact decide_eq_false h
theorem cmpR_eq {r s : Rl} : cmpR r s = 0 ↔ r = s := by
  unfold cmpR
  constructor
  · intro h
    by_cases h1 : cmpB r.owner s.owner = 0
    · rw [h1, orL_cons0, orL_one] at h
      exact rl_eq (cmpB_eq.1 h1) (cmpB_eq.1 h)
    · rw [orL_cons1 _ h1] at h; exact absurd h h1
  · rintro rfl; rw [cmpB_eq.2 rfl, orL_cons0, orL_one, cmpB_eq.2 rfl]
theorem cmpR_ne {r s : Rl} (h : r ≠ s) : cmpR r s ≠ 0 := fun e => h (cmpR_eq.1 e)
theorem cmpN_eq {a b : Int} : cmpN a b = 0 ↔ a = b := by
  unfold cmpN
  split
  · constructor <;> intro h <;> omega
  · split <;> (constructor <;> intro h <;> omega)
theorem cmpN_lt {a b : Int} : cmpN a b < 0 ↔ a < b := by
  unfold cmpN
  split
  · constructor <;> intro h <;> omega
  · split <;> (constructor <;> intro h <;> omega)
theorem cmpN_same (a : Int) : cmpN a a = 0 := cmpN_eq.2 rfl
theorem cmpB_same (a : ByteArray) : cmpB a a = 0 := cmpB_eq.2 rfl
theorem cmpR_same (a : Rl) : cmpR a a = 0 := cmpR_eq.2 rfl
theorem lessRef' (o1 n1 o2 n2 : ByteArray) (w : World) : Calls Try.prog 53 #[.agg #[.string o1, .string n1], .agg #[.string o2, .string n2]] w fun e w' => e = .returned (.bool (decide (cmpR ⟨o1, n1⟩ ⟨o2, n2⟩ < 0))) ∧ Grew w w' := lessRef ⟨o1, n1⟩ ⟨o2, n2⟩ w
theorem dec_lt {a b : Int} {p : Bool} (h : a = b) (h2 : b < 0 ↔ p = true) : decide (a < 0) = p := by
  rw [h, Bool.eq_iff_iff, decide_eq_true_iff]; exact h2
end Go.Proofs.Ytnhjnimgjpgfcaa.Syn3
