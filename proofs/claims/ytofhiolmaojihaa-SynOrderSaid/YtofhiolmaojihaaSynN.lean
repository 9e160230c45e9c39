/- The document's example of a statement. -/
import Derived.Test.YtofhiolmaojihaaSynY
import Derived.Test.YtofhiolmaojihaaSynZ
import Derived.Test.YtofhiolmaojihaaSynL
namespace Go.Proofs.Ytofhiolmaojihaa.SynN
open Go.RowKit Go.Sort Go.Proofs Go.Proofs.Ytofhiolmaojihaa.Plain Go.Proofs.Ytofhiolmaojihaa.SynP Go.Proofs.Ytofhiolmaojihaa.SynQ Go.Proofs.Ytofhiolmaojihaa.Grown Go.Proofs.Ytofhiolmaojihaa.SynW Go.Proofs.Ytofhiolmaojihaa.Scan3 Go.Proofs.Ytofhiolmaojihaa.Syn7 Go.Proofs.Ytofhiolmaojihaa.SynL Go.Proofs.Ytofhiolmaojihaa.SynX Go.Proofs.Ytofhiolmaojihaa.SynY Go.Proofs.Ytofhiolmaojihaa.SynZ
set_option linter.unusedVariables false
set_option linter.unusedSimpArgs false
def ex : ByteArray := ⟨#[65, 46, 114, 32, 60, 45, 32, 66, 46, 115, 32, 38, 32, 65, 46, 115]⟩
def exH : Rl := ⟨⟨#[65]⟩, ⟨#[114]⟩⟩
def exA : Rl := ⟨⟨#[65]⟩, ⟨#[115]⟩⟩
def exB : Rl := ⟨⟨#[66]⟩, ⟨#[115]⟩⟩
def exS : St := ⟨4, exH, noText, exA, exB, noText⟩
theorem ex_eq : ex = textR exH ++ arr ++ (textR exB ++ ampS ++ textR exA) := by
  apply ba_ext; decide +kernel
theorem ex_okH : exH.ok = true := by decide +kernel
theorem ex_okA : exA.ok = true := by decide +kernel
theorem ex_okB : exB.ok = true := by decide +kernel
theorem ex_lt : cmpR exA exB < 0 := by decide +kernel
theorem ex_parse : parseA (ansOf ex) = (exS, 0, 0) := by
  obtain ⟨c1, c2, ht⟩ := toks4 ex_okH ex_okB ex_okA
  obtain ⟨e1, e2⟩ := parsed (k := 4) ht (by omega) (by omega) rfl
  rw [ex_eq, e1]
  show parseL _ = _
  rw [e2]
  have : (stmtOf 4 (roleTk exH 0 ++ [⟨4, SynR.arrow, (textR exH).size + 1 + 1⟩] ++ (roleTk exB ((textR exH).size + 4) ++ [⟨5, SynR.amp, c1⟩] ++ roleTk exA c2))) = ⟨4, exH, noText, exB, exA, noText⟩ := rfl
  rw [this]
  have h : St.normal ⟨4, exH, noText, exB, exA, noText⟩ = ⟨4, exH, noText, exA, exB, noText⟩ := if_pos ⟨rfl, ex_lt⟩
  rw [h]; rfl
theorem ex_right : exS.right = true := by
  refine right_of ex_okH ?_ rfl
  show (exA.ok && exB.ok && !decide (cmpR exB exA < 0)) = true
  rw [ex_okA, ex_okB, decide_eq_false (by have := ex_lt; rw [cmpR_anti exA exB]; omega)]; rfl
theorem ex_line : line exS = ⟨#[65, 46, 114, 32, 60, 45, 32, 65, 46, 115, 32, 38, 32, 66, 46, 115]⟩ := by
  rw [line_right ex_right]
  apply ba_ext; decide +kernel
theorem ex_fit : exS.fit := by
  refine ⟨⟨?_, ?_⟩, ?_, ⟨?_, ?_⟩, ⟨?_, ?_⟩, ?_⟩ <;> (show _ ≤ 9223372036854775807; decide)
set_option maxRecDepth 100000 in
theorem lives (w : World) : Calls Try.prog 8 #[] w fun e w' => e = .returned (.bool true) ∧ Below w.heap.size w w' := by
  have hp : ∀ w, Calls Try.prog 28 #[.string ⟨#[65, 46, 114, 32, 60, 45, 32, 66, 46, 115, 32, 38, 32, 65, 46, 115]⟩] w fun e w' => e = .returned (.tuple #[.agg #[.int .i64 4, .string ⟨#[65]⟩, .string ⟨#[114]⟩, .string ⟨#[]⟩, .string ⟨#[65]⟩, .string ⟨#[115]⟩, .string ⟨#[66]⟩, .string ⟨#[115]⟩, .string ⟨#[]⟩], .int .i64 0, .int .i64 0]) ∧ Below w.heap.size w w' := fun w => by
    have := parse ex w (by decide)
    rw [ex_parse] at this
    exact this
  have hpr : ∀ w, Calls Try.prog 13 #[.agg #[.int .i64 4, .string ⟨#[65]⟩, .string ⟨#[114]⟩, .string ⟨#[]⟩, .string ⟨#[65]⟩, .string ⟨#[115]⟩, .string ⟨#[66]⟩, .string ⟨#[115]⟩, .string ⟨#[]⟩]] w fun e w' => e = .returned (.string ⟨#[65, 46, 114, 32, 60, 45, 32, 65, 46, 115, 32, 38, 32, 66, 46, 115]⟩) ∧ Grew w w' := fun w => by
    have := print exS w ex_fit
    rw [ex_line] at this
    exact this
  have hri : ∀ w, Calls Try.prog 9 #[.agg #[.int .i64 4, .string ⟨#[65]⟩, .string ⟨#[114]⟩, .string ⟨#[]⟩, .string ⟨#[65]⟩, .string ⟨#[115]⟩, .string ⟨#[66]⟩, .string ⟨#[115]⟩, .string ⟨#[]⟩]] w fun e w' => e = .returned (.bool true) ∧ Grew w w' := fun w => by
    have := right exS w ex_fit
    rw [ex_right] at this
    exact this
  have HP := Lib.hid hp
  have HPr := Lib.hid hpr
  have HR := Lib.hid hri
  clear hp hpr hri
  go_enter Try.func8, Try.ntmps8
  go_wp2_with fail
  refine (HP.out _).mono ?_
  rintro e w1 ⟨rfl, hb1⟩
  go_wp2_with fail
  refine (HPr.out _).mono ?_
  rintro e w2 ⟨rfl, hg2⟩
  obtain ⟨hc2, hf2, hz2⟩ := hg2.use
  go_wp2_with fail
  refine (HR.out _).mono ?_
  rintro e w3 ⟨rfl, hg3⟩
  go_wp2_with fail
  go_ret
  exact ⟨rfl, (hb1.alloc hb1.size _).trans ((hg2.trans hg3).below.mono (by have := hb1.size; simp; omega))⟩
end Go.Proofs.Ytofhiolmaojihaa.SynN
