/- The document's example of a line's tokens. -/
import Derived.Test.YtpdgjkjbimkmjaaDoorPrint
namespace Go.Proofs.YtpdgjkjbimkmjaaDoor.Lives2
open Go.RowKit Go.Proofs.YtpdgjkjbimkmjaaDoor.Plain Go.Proofs.YtpdgjkjbimkmjaaDoor.Scan3 Go.Proofs.YtpdgjkjbimkmjaaDoor.Scan5 Go.Proofs.YtpdgjkjbimkmjaaDoor.Print
def ex : ByteArray := ⟨#[65, 46, 114, 32, 60, 45, 32, 66, 32, 35, 32, 120]⟩
def exB : ByteArray := ⟨#[65, 46, 114, 32, 60, 45, 32, 66, 32]⟩
theorem ex_bare : bare ex = exB := by
  apply ByteArray.ext
  apply Array.ext'
  decide +kernel
def exL : List Tk := [⟨1, exB.extract 0 1, 1⟩, ⟨3, exB.extract 1 2, 2⟩, ⟨2, exB.extract 2 3, 3⟩, ⟨4, exB.extract 4 6, 5⟩, ⟨1, exB.extract 7 8, 8⟩]
theorem ex_run : tkRun exB 0 [] = .ok exL := by
  rw [tkRun_tok (kind := 1) (m := 0) (by decide) (by rfl), tkRun_tok (kind := 3) (m := 0) (by decide) (by rfl), tkRun_tok (kind := 2) (m := 0) (by decide) (by rfl), tkRun_skip (by decide) (by rfl),
    tkRun_tok (kind := 4) (m := 1) (by decide) (by rfl), tkRun_skip (by decide) (by rfl), tkRun_tok (kind := 1) (m := 0) (by decide) (by rfl), tkRun_skip (by decide) (by rfl), tkRun_end (by decide)]
  rfl
theorem ex_ans : ansOf ex = .ok exL := by
  unfold ansOf
  rw [if_neg (by decide), ex_bare, ex_run]
theorem ex_pr : (⟨(pr exL 5).toArray⟩ : ByteArray) = ⟨#[65, 46, 114, 32, 60, 45, 32, 66]⟩ := by
  apply ByteArray.ext
  apply Array.ext'
  decide +kernel
set_option maxRecDepth 100000 in
theorem lives (w : World) : Calls Tryd.prog 27 #[] w fun e w' => e = .returned (.bool true) ∧ Below w.heap.size w w' := by
  have hex : ex.size ≤ 1000000 := by decide
  have hpost : ∀ w, Hid (Calls Tryd.prog 48 #[.string ⟨#[65, 46, 114, 32, 60, 45, 32, 66, 32, 35, 32, 120]⟩] w fun e w' => ∃ A cap, e = .returned (.tuple #[.slice A 5 cap, .int .i64 0, .int .i64 0]) ∧ TkRow w' A exL ∧ Below w.heap.size w w') := fun w => by
    refine (tokens ex w hex).mono ?_
    rintro e w' ⟨v, rfl, hown, hb⟩
    rw [ex_ans] at *
    obtain ⟨A, cap, rfl, _, hr⟩ := TkRow.of_own hown
    exact ⟨A, cap, rfl, hr, hb⟩
  have H := Lib.hid hpost
  clear hpost
  have hprint : Hid (∀ A cap w, TkRow w A exL → Calls Tryd.prog 49 #[.slice A 5 cap] w fun e w' => e = .returned (.string ⟨#[65, 46, 114, 32, 60, 45, 32, 66]⟩) ∧ Below w.heap.size w w') := Lib.hid fun A cap w hr => by
    have h := print A cap exL w (by decide) (by decide) hr
    have e : (⟨(pr exL exL.length).toArray⟩ : ByteArray) = ⟨#[65, 46, 114, 32, 60, 45, 32, 66]⟩ := ex_pr
    rw [e] at h
    exact h
  go_enter Tryd.func27, Tryd.ntmps27
  go_wp2_with (go_at_call 48; refine (H.out _).out.mono ?_)
  rintro e w1 ⟨A, cap, rfl, hr, hb⟩
  obtain ⟨g, rfl, hg, hc⟩ := hr (by decide)
  have a3 : w1.cell? ⟨g, 9, none⟩ = some (.int .i64 4) := (hc 3 (by decide)).1
  have c3 : w1.cell? ⟨g, 11, none⟩ = some (.int .i64 5) := (hc 3 (by decide)).2.2
  have c4 : w1.cell? ⟨g, 14, none⟩ = some (.int .i64 8) := (hc 4 (by decide)).2.2
  have hr : TkRow w1 (some ⟨g, 0, none⟩) exL := fun _ => ⟨g, rfl, hg, hc⟩
  have Hr := Lib.hid hr
  clear hc hr
  go_wp2_with (go_at_call 49; refine (hprint.out _ _ _ Hr.out).mono ?_; rintro e w2 ⟨rfl, hb2⟩)
  go_ret
  exact ⟨rfl, hb.trans (hb2.mono hb.size)⟩
end Go.Proofs.YtpdgjkjbimkmjaaDoor.Lives2
