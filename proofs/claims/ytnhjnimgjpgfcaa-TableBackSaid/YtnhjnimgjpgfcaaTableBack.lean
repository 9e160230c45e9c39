/- For two rows of texts, every statement and every rule: the rule of a statement is that statement's; the statement of a rule has that rule, but that the two roles of a Both stand in order, and it is there just if the rule may be; a table that there isn't has nothing (of at most 40 texts each, of at most 40 bytes); and the document's example stands. No condition. -/
import Derived.Test.YtnhjnimgjpgfcaaRows
import Derived.Test.YtnhjnimgjpgfcaaTblU
import Derived.Test.YtnhjnimgjpgfcaaTblO
namespace Go.Proofs.Ytnhjnimgjpgfcaa.TableBack
open Go.ChangeShapes Go.WideShapes Go.ChangeAt Go.RowKit
open Go.Proofs.Ytnhjnimgjpgfcaa.SynP Go.Proofs.Ytnhjnimgjpgfcaa.Tab1 Go.Proofs.Ytnhjnimgjpgfcaa.TabP Go.Proofs.Ytnhjnimgjpgfcaa.Tab6 Go.Proofs.Ytnhjnimgjpgfcaa.TblM Go.Proofs.Ytnhjnimgjpgfcaa.TblO Go.Proofs.Ytnhjnimgjpgfcaa.TblQ Go.Proofs.Ytnhjnimgjpgfcaa.TblC
set_option linter.unusedVariables false
set_option maxRecDepth 1000000
theorem own : ownKnob Try.prog.godebug = none := by kernel_rfl
theorem laidOut : laidOutB Try.prog = true := by kernel_rfl
section
variable {H : Type} {enc : TypeId × Value → H} {w : World} {base : Nat} {spare : Nat → Bool} {held : Bool} {fuel : Nat} {cs : List Value} {x : DataW H × List MemPlace} {d : DataW H} {p : List MemPlace}
theorem cellsU : Try.prog.cellsOf 34 = 6 := by kernel_rfl
theorem rule_cells (h : DataW.trod enc Try.prog w base spare held fuel 34 cs = some x) : ∃ u : Ru, cs = u.cells.toList := by
  obtain ⟨xs, n, _, _, hl, hxl, hf⟩ := DataW.trod_struct Try.underlying34 h
  rw [cellsU] at hl
  match cs, hl with
  | [c0, c1, c2, c3, c4, c5], _ =>
    have h0 : DataW.trod enc Try.prog w base spare held n 3 (([c0, c1, c2, c3, c4, c5].drop 0).take (Try.prog.cellsOf 3)) = xs[0]? := hf 0 _ rfl
    have h1 : DataW.trod enc Try.prog w base spare held n 3 (([c0, c1, c2, c3, c4, c5].drop 1).take (Try.prog.cellsOf 3)) = xs[1]? := hf 1 _ rfl
    have h2 : DataW.trod enc Try.prog w base spare held n 3 (([c0, c1, c2, c3, c4, c5].drop 2).take (Try.prog.cellsOf 3)) = xs[2]? := hf 2 _ rfl
    have h3 : DataW.trod enc Try.prog w base spare held n 3 (([c0, c1, c2, c3, c4, c5].drop 3).take (Try.prog.cellsOf 3)) = xs[3]? := hf 3 _ rfl
    have h4 : DataW.trod enc Try.prog w base spare held n 3 (([c0, c1, c2, c3, c4, c5].drop 4).take (Try.prog.cellsOf 3)) = xs[4]? := hf 4 _ rfl
    have h5 : DataW.trod enc Try.prog w base spare held n 3 (([c0, c1, c2, c3, c4, c5].drop 5).take (Try.prog.cellsOf 3)) = xs[5]? := hf 5 _ rfl
    obtain ⟨y0, e0⟩ := some_at (i := 0) hxl (by decide)
    obtain ⟨y1, e1⟩ := some_at (i := 1) hxl (by decide)
    obtain ⟨y2, e2⟩ := some_at (i := 2) hxl (by decide)
    obtain ⟨y3, e3⟩ := some_at (i := 3) hxl (by decide)
    obtain ⟨y4, e4⟩ := some_at (i := 4) hxl (by decide)
    obtain ⟨y5, e5⟩ := some_at (i := 5) hxl (by decide)
    rw [e0] at h0
    rw [e1] at h1
    rw [e2] at h2
    rw [e3] at h3
    rw [e4] at h4
    rw [e5] at h5
    rw [cells3] at h0 h1 h2 h3 h4 h5
    obtain ⟨s0, a0, _, _⟩ := DataW.trod_int Try.underlying3 h0
    obtain ⟨s1, a1, _, _⟩ := DataW.trod_int Try.underlying3 h1
    obtain ⟨s2, a2, _, _⟩ := DataW.trod_int Try.underlying3 h2
    obtain ⟨s3, a3, _, _⟩ := DataW.trod_int Try.underlying3 h3
    obtain ⟨s4, a4, _, _⟩ := DataW.trod_int Try.underlying3 h4
    obtain ⟨s5, a5, _, _⟩ := DataW.trod_int Try.underlying3 h5
    simp at a0 a1 a2 a3 a4 a5
    subst a0; subst a1; subst a2; subst a3; subst a4; subst a5
    exact ⟨⟨s0, s1, s2, s3, s4, s5⟩, rfl⟩
theorem open_rule {r : Reach} {b0 : Nat} {v : Value} (hv : Value.okWide Try.prog w r b0 34 v) (h : DataW.Trod enc Try.prog w base spare held 34 v d p) : ∃ u : Ru, v = u.val := by
  obtain ⟨cs, rfl, hsz⟩ := okWide_struct Try.underlying34 hv
  obtain ⟨fuel, hf⟩ := h
  obtain ⟨u, hs⟩ := rule_cells hf
  refine ⟨u, ?_⟩
  have : cs.toList = u.cells.toList := by simpa [Value.cells] using hs
  obtain ⟨l⟩ := cs
  simp at this
  subst this
  rfl
end
/-- A row of texts, by its cell alone. -/
theorem row_cell {H : Type} {enc : TypeId × Value → H} {W : World} {fuel : Nat} {c0 : Value} {x : DataW H × List MemPlace}
    (hf : DataW.trod enc Try.prog W 0 (fun _ => true) true fuel 22 [c0] = some x) :
    ∃ (A : Option Addr) (c : Nat) (T : List Str), c0 = .slice A T.length c ∧ T.length ≤ maxLen ∧ (∀ s ∈ T, s.length ≤ maxLen) ∧ SRow W A T := by
  rcases open_strings Try.underlying22 Try.underlying9 cells9 hf with ⟨hcs, hx⟩ | ⟨a, len', cap', ss, hcs, _, hl, hm, hz, hx, hcell, hws⟩
  · simp at hcs
    subst hcs
    exact ⟨none, 0, [], rfl, by simp, by simp, fun h => by simp at h⟩
  · simp at hcs
    subst hcs
    have hzl : ss.length = cap' := by simpa using hz
    have hl2 : ((ss.take len').map (·.data.toList)).length = len' := by simp; omega
    refine ⟨some a, cap', (ss.take len').map (·.data.toList), by rw [hl2], by rw [hl2]; omega, ?_, ?_⟩
    · intro s hs
      obtain ⟨x, hx, rfl⟩ := List.mem_map.1 hs
      exact hws x (List.mem_of_mem_take hx)
    · by_cases h0 : 0 < len'
      · have h1 := hcell 0 (by omega)
        obtain ⟨b, off, spot⟩ := a
        have hspot : spot = none := by simpa [Addr.add] using World.cell?_spot h1
        subst hspot
        have hadd : ∀ i, ((⟨b, off, none⟩ : Addr).add i) = ⟨b, off + i, none⟩ := fun i => by
          unfold Addr.add
          split
          · rename_i h; subst h; rfl
          · simp
        refine row_of_strings hl hzl (fun _ => ?_) (fun i hi => by rw [← hadd]; exact hcell i hi)
        exact World.block_lt_of_cell? _ _ h1
      · intro hp
        rw [hl2] at hp
        omega
theorem okWide_array {P : Program} {w : World} {r : Reach} {base : Nat} {t e : TypeId} {n : Nat} {v : Value} (ht : P.underlying t = some (.array n e)) (h : Value.okWide P w r base t v) : ∃ cs, v = .agg cs ∧ cs.size = P.cellsOf t := by
  simp only [Value.okWide, ht] at h
  obtain ⟨cs, h1, h2, _⟩ := h
  exact ⟨cs, h1, h2⟩
theorem cellsR1 : Try.prog.cellsOf 22 = 1 := by kernel_rfl
theorem cellsR2 : Try.prog.cellsOf 59 = 2 := by kernel_rfl
theorem open_two {H : Type} {enc : TypeId × Value → H} {W : World} {base : Nat} {v : Value} {d : DataW H} {p : List MemPlace}
    (hval : Value.okWide Try.prog W .any base 59 v) (h : DataW.Trod enc Try.prog W 0 (fun _ => true) true 59 v d p) :
    ∃ (A B : Option Addr) (ca cb : Nat) (T0 T1 : List Str), v = .agg #[.slice A T0.length ca, .slice B T1.length cb] ∧ T0.length ≤ maxLen ∧ (∀ s ∈ T0, s.length ≤ maxLen) ∧ SRow W A T0 ∧ T1.length ≤ maxLen ∧ (∀ s ∈ T1, s.length ≤ maxLen) ∧ SRow W B T1 := by
  obtain ⟨cs, rfl, hsz⟩ := okWide_array Try.underlying59 hval
  obtain ⟨fuel, hf⟩ := h
  obtain ⟨xs, n, _, _, hl, hxl, hfa⟩ := DataW.trod_array Try.underlying59 hf
  rw [cellsR2] at hl
  obtain ⟨l⟩ := cs
  simp only [Value.cells, List.toList_toArray] at hl hfa
  match l, hl with
  | [c0, c1], _ =>
    have h0 : DataW.trod enc Try.prog W 0 (fun _ => true) true n 22 (([c0, c1].drop (0 * Try.prog.cellsOf 22)).take (Try.prog.cellsOf 22)) = xs[0]? := hfa 0 (by decide)
    have h1 : DataW.trod enc Try.prog W 0 (fun _ => true) true n 22 (([c0, c1].drop (1 * Try.prog.cellsOf 22)).take (Try.prog.cellsOf 22)) = xs[1]? := hfa 1 (by decide)
    obtain ⟨y0, e0⟩ := some_at (i := 0) hxl (by decide)
    obtain ⟨y1, e1⟩ := some_at (i := 1) hxl (by decide)
    rw [e0, cellsR1] at h0
    rw [e1, cellsR1] at h1
    obtain ⟨A, ca, T0, r1, r2, r3, r4⟩ := row_cell h0
    obtain ⟨B, cb, T1, t1, t2, t3, t4⟩ := row_cell h1
    subst r1; subst t1
    exact ⟨A, B, ca, cb, T0, T1, rfl, r2, r3, r4, t2, t3, t4⟩
set_option maxRecDepth 1000000 in
theorem lifted (os : Os) (started : os.Started) (H : Type) (enc : TypeId × Value → H) :
    ReturnsInHanded {} Try.checked os 5 .any (Rows.tableBackSpec.pre6 enc Try.prog Try.f5 Rows.tableBackRow.domain false) (Rows.tableBackSpec.post enc Try.prog Try.f5 false true false false) := by
  refine returnsInHanded_of_change (C := Try.checked) own started (by kernel_rfl) Try.func5
    (ChangeSpec.witness6 (enc := enc) (C := Try.checked) false ⟨#[], #[.agg #[.slice none 0 0, .slice none 0 0], zeroS.val, (⟨0, 0, 0, 0, 0, 0⟩ : Ru).val], []⟩ 8 (by kernel_rfl) (by kernel_rfl) (by kernel_rfl) (by kernel_rfl)) ?_
  intro W base args ds gs before hval0 hW hcnd _
  have hval : ∀ (j : Nat) t v, Try.f5.params[j]? = some t → args[j]? = some v → Value.okWide Try.prog W .any base t v := hval0
  have hW' := hW
  obtain ⟨p, q, hA0, hV, rfl, hfz, hnd⟩ := hW
  have hA : DataW.TrodAll enc Try.prog W 0 (fun _ => true) true Try.f5.params.toList args.toList ds p := hA0
  rw [Try.params5] at hA hval
  obtain ⟨v0, vs0, d0, ds0, p0, q0, hargs, rfl, rfl, h0, r0⟩ := trodAll_cons hA
  obtain ⟨v1, vs1, d1, ds1, p1, q1, rfl, rfl, rfl, h1, r1⟩ := trodAll_cons r0
  obtain ⟨v2, vs2, d2, ds2, p2, q2, rfl, rfl, rfl, h2, r2⟩ := trodAll_cons r1
  obtain ⟨rfl, rfl, rfl⟩ := trodAll_nil r2
  obtain rfl : args = #[v0, v1, v2] := by cases args; simp_all
  obtain ⟨rfl, rfl⟩ := trodVars_none hV
  have k0 := h0
  have lt0 : ∀ x ∈ p0, x.block < W.heap.size := by obtain ⟨m, hm⟩ := k0; exact DataW.trod_lt m _ _ _ hm
  have k1 := h1
  have lt1 : ∀ x ∈ p1, x.block < W.heap.size := by obtain ⟨m, hm⟩ := k1; exact DataW.trod_lt m _ _ _ hm
  have k2 := h2
  have lt2 : ∀ x ∈ p2, x.block < W.heap.size := by obtain ⟨m, hm⟩ := k2; exact DataW.trod_lt m _ _ _ hm
  obtain ⟨A, B, ca, cb, T0, T1, rfl, hL0, hw0, hr0, hL1, hw1, hr1⟩ := open_two (hval 0 59 v0 rfl rfl) h0
  obtain ⟨s, rfl, hs⟩ := open_stmt (hval 1 26 v1 rfl rfl) h1
  obtain ⟨u, rfl⟩ := open_rule (hval 2 34 v2 rfl rfl) h2
  clear hA0 hval0
  refine (TblU.walk A B ca cb T0 T1 s u W hL0 hw0 hr0 hL1 hw1 hr1 hs).mono fun e W' ⟨he, bel⟩ => ?_
  subst he
  exact ⟨_, rfl, _, _, _, [], _, [], hW', trodAll_mk1 (shut_bool Try.underlying4 _), (trodAll_cons_mk (Below.trod laidOut (by kernel_rfl) (of_decide_eq_true (by kernel_rfl)) k0 bel lt0) (trodAll_cons_mk (Below.trod laidOut (by kernel_rfl) (of_decide_eq_true (by kernel_rfl)) k1 bel lt1) (trodAll_cons_mk (Below.trod laidOut (by kernel_rfl) (of_decide_eq_true (by kernel_rfl)) k2 bel lt2) trodAll_mk0))), rfl, bel.frame _, fun h => by cases h⟩
theorem over : Rows.tableBackRow.holds Try.pinned (OpenSpec.ofChange Rows.tableBackSpec) :=
  OpenClaim.holds_of_wide 5 Try.f5 rfl rfl rfl rfl rfl rfl rfl ⟨rfl, rfl, rfl, rfl, rfl⟩ rfl rfl rfl rfl rfl (by kernel_rfl) Try.func5 (by kernel_rfl)
    (of_decide_eq_true (by kernel_rfl)) (by unfold Func.isWrapper; first | (rw [if_pos (by decide +kernel)]; kernel_rfl) | (rw [if_neg (by decide +kernel)]; exact ⟨rfl, rfl⟩))
    (fun os started H enc _ => lifted os started H enc)
theorem proved : Rows.TableBackSaid := over
end Go.Proofs.Ytnhjnimgjpgfcaa.TableBack
