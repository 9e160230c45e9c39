/- The lines of statements, in the program and in the document's answers. -/
import Derived.Test.YtblapgfilbmdhaaGreatDoorM07
import Derived.Test.YtblapgfilbmdhaaGreatDoorM04
import Derived.RegionTactic
import Derived.ChangeAlike
set_option linter.unusedVariables false
set_option linter.unusedSimpArgs false
namespace Go.Proofs.YtblapgfilbmdhaaGreatDoor.Syn9
open Go.RowKit Go.Sort Go.Proofs Plain SynP Named RefN Grown Syn1 Syn2 Syn3 Syn4 Syn5 SynE Syn7 Syn8
theorem right_iff (k : Int) (ho hn wh ao an bo bn v : ByteArray) (h : Rl.ok ⟨ho, hn⟩ = true) : St.right ⟨k, ⟨ho, hn⟩, wh, ⟨ao, an⟩, ⟨bo, bn⟩, v⟩ = (St.says ⟨k, ⟨ho, hn⟩, wh, ⟨ao, an⟩, ⟨bo, bn⟩, v⟩ && decide ((⟨k, ⟨ho, hn⟩, wh, ⟨ao, an⟩, ⟨bo, bn⟩, v⟩ : St) = St.own ⟨k, ⟨ho, hn⟩, wh, ⟨ao, an⟩, ⟨bo, bn⟩, v⟩)) := by
  unfold St.right; simp only [h, Bool.true_and]
theorem rightRef (s : St) (w : World) (hf : s.fit) : Calls Tryz.prog 70 #[s.val] w fun e w' => e = .returned (.bool s.right) ∧ Grew w w' := by
  obtain ⟨k1, ⟨ho, hn⟩, wh, ⟨ao, an⟩, ⟨bo, bn⟩, v⟩ := s
  cases h1 : Rl.ok ⟨ho, hn⟩
  · refine (ref_head k1 ho hn wh ao an bo bn v w hf.1.1 hf.1.2 h1).mono ?_
    rintro e w' ⟨rfl, hg⟩
    exact ⟨ret_bool (by unfold St.right; simp only [h1]; rfl), hg⟩
  rcases kinds k1 with rfl | rfl | rfl | rfl | hk
  · refine (ref_1 ho hn wh ao an bo bn v w hf h1).mono ?_
    rintro e w' ⟨rfl, hg⟩
    refine ⟨ret_bool ?_, hg⟩
    rw [right_iff _ _ _ _ _ _ _ _ _ h1]
    simp only [St.says, St.own, zeroR]
    simp
    try (rw [Bool.eq_iff_iff]; simp; try grind)
  · refine (ref_2 ho hn wh ao an bo bn v w hf h1).mono ?_
    rintro e w' ⟨rfl, hg⟩
    refine ⟨ret_bool ?_, hg⟩
    rw [right_iff _ _ _ _ _ _ _ _ _ h1]
    simp only [St.says, St.own, zeroR]
    simp
    try (rw [Bool.eq_iff_iff]; simp; try grind)
  · refine (ref_3 ho hn wh ao an bo bn v w hf h1).mono ?_
    rintro e w' ⟨rfl, hg⟩
    refine ⟨ret_bool ?_, hg⟩
    rw [right_iff _ _ _ _ _ _ _ _ _ h1]
    simp only [St.says, St.own, zeroR]
    simp
    try (rw [Bool.eq_iff_iff]; simp; try grind)
  · refine (ref_4 ho hn wh ao an bo bn v w hf h1).mono ?_
    rintro e w' ⟨rfl, hg⟩
    refine ⟨ret_bool ?_, hg⟩
    rw [right_iff _ _ _ _ _ _ _ _ _ h1]
    simp only [St.says, St.own, zeroR]
    simp
    try (rw [Bool.eq_iff_iff]; simp; try grind)
  · refine (ref_5 k1 ho hn wh ao an bo bn v w hf.1.1 hf.1.2 h1 (by omega)).mono ?_
    rintro e w' ⟨rfl, hg⟩
    refine ⟨ret_bool ?_, hg⟩
    rw [right_iff _ _ _ _ _ _ _ _ _ h1]
    simp only [St.says, if_neg hk.1, if_neg hk.2.1, if_neg hk.2.2.1, if_neg hk.2.2.2, Bool.false_and]
end Go.Proofs.YtblapgfilbmdhaaGreatDoor.Syn9
namespace Go.Proofs.YtblapgfilbmdhaaGreatDoor.SynL
open Go.RowKit Go.Sort Go.Proofs Plain SynP Named RefN Grown Syn1 Syn2 Syn3 Syn4 Syn5 SynE Syn7 Syn8 Syn9
end Go.Proofs.YtblapgfilbmdhaaGreatDoor.SynL
namespace Go.Proofs.YtblapgfilbmdhaaGreatDoor.SynS
open Go.RowKit Go.Sort
open Grown
end Go.Proofs.YtblapgfilbmdhaaGreatDoor.SynS
namespace Go.Proofs.YtblapgfilbmdhaaGreatDoor.SynT
open Go.RowKit Go.Sort Go.Proofs Plain SynP SynQ Grown SynA SynC SynR SynW Scan3 Scan5 Syn1 Syn2 Syn4 SynL SynS
end Go.Proofs.YtblapgfilbmdhaaGreatDoor.SynT
namespace Go.Proofs.YtblapgfilbmdhaaGreatDoor.SynU
open Go.RowKit Go.Sort Go.Proofs Plain SynP SynQ Grown SynA SynC SynR SynW Scan3 Scan5 Syn1 Syn2 Syn4 SynL SynS SynT Syn7
end Go.Proofs.YtblapgfilbmdhaaGreatDoor.SynU
