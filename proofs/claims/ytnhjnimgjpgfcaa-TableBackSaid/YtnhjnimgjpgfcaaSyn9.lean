/- The lines of statements, in the program and in the document's answers. -/
import Derived.Test.YtnhjnimgjpgfcaaSyn8
namespace Go.Proofs.Ytnhjnimgjpgfcaa.Syn9
open Go.RowKit Go.Sort Go.Proofs Go.Proofs.Ytnhjnimgjpgfcaa.Plain Go.Proofs.Ytnhjnimgjpgfcaa.SynP Go.Proofs.Ytnhjnimgjpgfcaa.Named Go.Proofs.Ytnhjnimgjpgfcaa.RefN Go.Proofs.Ytnhjnimgjpgfcaa.Grown Go.Proofs.Ytnhjnimgjpgfcaa.Syn1 Go.Proofs.Ytnhjnimgjpgfcaa.Syn2 Go.Proofs.Ytnhjnimgjpgfcaa.Syn3 Go.Proofs.Ytnhjnimgjpgfcaa.Syn4 Go.Proofs.Ytnhjnimgjpgfcaa.Syn5 Go.Proofs.Ytnhjnimgjpgfcaa.SynE Go.Proofs.Ytnhjnimgjpgfcaa.Syn7 Go.Proofs.Ytnhjnimgjpgfcaa.Syn8
set_option linter.unusedSimpArgs false
set_option linter.unusedVariables false
theorem right_iff (k : Int) (ho hn wh ao an bo bn v : ByteArray) (h : Rl.ok ⟨ho, hn⟩ = true) : St.right ⟨k, ⟨ho, hn⟩, wh, ⟨ao, an⟩, ⟨bo, bn⟩, v⟩ = (St.says ⟨k, ⟨ho, hn⟩, wh, ⟨ao, an⟩, ⟨bo, bn⟩, v⟩ && decide ((⟨k, ⟨ho, hn⟩, wh, ⟨ao, an⟩, ⟨bo, bn⟩, v⟩ : St) = St.own ⟨k, ⟨ho, hn⟩, wh, ⟨ao, an⟩, ⟨bo, bn⟩, v⟩)) := by
  unfold St.right; simp only [h, Bool.true_and]
theorem rightRef (s : St) (w : World) (hf : s.fit) : Calls Try.prog 32 #[s.val] w fun e w' => e = .returned (.bool s.right) ∧ Grew w w' := by
  obtain ⟨k1, ⟨ho, hn⟩, wh, ⟨ao, an⟩, ⟨bo, bn⟩, v⟩ := s
  cases h1 : Rl.ok ⟨ho, hn⟩
  · refine (ref_head k1 ho hn wh ao an bo bn v w hf.1.1 hf.1.2 h1).mono ?_
    rintro e w' ⟨rfl, hg⟩
    exact ⟨ret_bool (by unfold St.right; simp only [h1]; rfl), hg⟩
  rcases kinds k1 with rfl | rfl | rfl | rfl | hk
  · refine (ref_1 ho hn wh ao an bo bn v w hf h1).mono ?_
    rintro e w' ⟨rfl, hg⟩
    refine ⟨ret_bool ?_, hg⟩
    rw [right_iff _ _ _ _ _ _ _ _ _ h1]
    simp only [St.says, St.own, zeroR]
    simp
    try (rw [Bool.eq_iff_iff]; simp; try grind)
  · refine (ref_2 ho hn wh ao an bo bn v w hf h1).mono ?_
    rintro e w' ⟨rfl, hg⟩
    refine ⟨ret_bool ?_, hg⟩
    rw [right_iff _ _ _ _ _ _ _ _ _ h1]
    simp only [St.says, St.own, zeroR]
    simp
    try (rw [Bool.eq_iff_iff]; simp; try grind)
  · refine (ref_3 ho hn wh ao an bo bn v w hf h1).mono ?_
    rintro e w' ⟨rfl, hg⟩
    refine ⟨ret_bool ?_, hg⟩
    rw [right_iff _ _ _ _ _ _ _ _ _ h1]
    simp only [St.says, St.own, zeroR]
    simp
    try (rw [Bool.eq_iff_iff]; simp; try grind)
  · refine (ref_4 ho hn wh ao an bo bn v w hf h1).mono ?_
    rintro e w' ⟨rfl, hg⟩
    refine ⟨ret_bool ?_, hg⟩
    rw [right_iff _ _ _ _ _ _ _ _ _ h1]
    simp only [St.says, St.own, zeroR]
    simp
    try (rw [Bool.eq_iff_iff]; simp; try grind)
  · refine (ref_5 k1 ho hn wh ao an bo bn v w hf.1.1 hf.1.2 h1 (by omega)).mono ?_
    rintro e w' ⟨rfl, hg⟩
    refine ⟨ret_bool ?_, hg⟩
    rw [right_iff _ _ _ _ _ _ _ _ _ h1]
    simp only [St.says, if_neg hk.1, if_neg hk.2.1, if_neg hk.2.2.1, if_neg hk.2.2.2, Bool.false_and]
end Go.Proofs.Ytnhjnimgjpgfcaa.Syn9
