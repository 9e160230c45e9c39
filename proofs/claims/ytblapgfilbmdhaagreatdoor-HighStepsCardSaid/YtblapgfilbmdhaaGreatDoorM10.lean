/- The normal form of a statement, in the program and in the document's answers. -/
import Derived.Test.YtblapgfilbmdhaaGreatDoorM06
import Derived.Test.YtblapgfilbmdhaaGreatDoorM04
import Derived.Test.YtblapgfilbmdhaaGreatDoorM09
import Derived.RegionTactic
import Derived.Deep.RegionHeld3
import Derived.Test.YtblapgfilbmdhaaGreatDoorM08
import Derived.ProofKit
import Derived.OpenShut
import Derived.ShutString
import Derived.ChangeOld
import Derived.Below
import Derived.Carry
set_option linter.unusedVariables false
set_option linter.unusedSimpArgs false
namespace Go.Proofs.YtblapgfilbmdhaaGreatDoor.Syn6
open Go.RowKit Go.Sort Go.Proofs Plain SynP Named RefN Grown Syn1 Syn2 Syn3 Syn4
end Go.Proofs.YtblapgfilbmdhaaGreatDoor.Syn6
namespace Go.Proofs.YtblapgfilbmdhaaGreatDoor.SynX
open Go.RowKit Go.Sort Go.Proofs Plain SynP SynQ Grown SynA SynC SynR SynW Scan3 Scan5 Syn4 SynS SynG SynU SynV
end Go.Proofs.YtblapgfilbmdhaaGreatDoor.SynX
namespace Go.Proofs.YtblapgfilbmdhaaGreatDoor.SynY
open Go.RowKit Go.Sort Go.Proofs Plain SynP SynQ Grown SynA SynC SynR SynW Scan3 Scan5 Syn4 Syn6 SynS SynG SynH SynU SynV SynX
end Go.Proofs.YtblapgfilbmdhaaGreatDoor.SynY
namespace Go.Proofs.YtblapgfilbmdhaaGreatDoor.SynZ
open Go.RowKit Plain SynP SynQ Scan2 Scan3 SynR SynW SynV SynX SynL Syn2 Syn3 Syn4
end Go.Proofs.YtblapgfilbmdhaaGreatDoor.SynZ
namespace Go.Proofs.YtblapgfilbmdhaaGreatDoor.SynN
open Go.RowKit Go.Sort Go.Proofs Plain SynP SynQ Grown SynW Scan3 Syn7 SynL SynX SynY SynZ
end Go.Proofs.YtblapgfilbmdhaaGreatDoor.SynN
namespace Go.Proofs.YtblapgfilbmdhaaGreatDoor.SynF
open Go.ChangeShapes Go.WideShapes Go.ChangeAt Go.RowKit
open Go.ChangeMaps (open_string shut_string)
open Plain SynP
set_option maxRecDepth 1000000
theorem cells9 : Tryz.prog.cellsOf 9 = 1 := by kernel_rfl
theorem cellsR : Tryz.prog.cellsOf 28 = 2 := by kernel_rfl
section
variable {H : Type} {enc : TypeId × Value → H} {w : World} {base : Nat} {spare : Nat → Bool} {held : Bool} {fuel : Nat} {cs : List Value} {x : DataW H × List MemPlace}
theorem some_at {α : Type} {xs : List α} {n i : Nat} (h : xs.length = n) (hi : i < n) : ∃ y, xs[i]? = some y := ⟨xs[i]'(by omega), List.getElem?_eq_getElem _⟩
theorem role_cells (h : DataW.trod enc Tryz.prog w base spare held fuel 28 cs = some x) : ∃ r : Rl, cs = [.string r.owner, .string r.name] ∧ r.light := by
  obtain ⟨xs, n, _, _, hl, hxl, hf⟩ := DataW.trod_struct Tryz.underlying28 h
  rw [cellsR] at hl
  match cs, hl with
  | [c0, c1], _ =>
    have h0 : DataW.trod enc Tryz.prog w base spare held n 9 (([c0, c1].drop 0).take (Tryz.prog.cellsOf 9)) = xs[0]? := hf 0 _ rfl
    have h1 : DataW.trod enc Tryz.prog w base spare held n 9 (([c0, c1].drop 1).take (Tryz.prog.cellsOf 9)) = xs[1]? := hf 1 _ rfl
    obtain ⟨y0, e0⟩ := some_at (i := 0) hxl (by decide)
    obtain ⟨y1, e1⟩ := some_at (i := 1) hxl (by decide)
    rw [e0] at h0
    rw [e1] at h1
    rw [cells9] at h0 h1
    obtain ⟨s0, a0, _, b0⟩ := DataW.trod_string Tryz.underlying9 h0
    obtain ⟨s1, a1, _, b1⟩ := DataW.trod_string Tryz.underlying9 h1
    simp at a0 a1
    subst a0; subst a1
    exact ⟨⟨s0, s1⟩, rfl, b0, b1⟩
end
end Go.Proofs.YtblapgfilbmdhaaGreatDoor.SynF
namespace Go.Proofs.YtblapgfilbmdhaaGreatDoor.SynM
open Go.RowKit Go.Sort Go.Proofs Plain SynP Grown Syn1
end Go.Proofs.YtblapgfilbmdhaaGreatDoor.SynM
