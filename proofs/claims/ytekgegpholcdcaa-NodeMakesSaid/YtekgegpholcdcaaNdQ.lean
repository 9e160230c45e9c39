/- The document's table of nodes: Make, by contract. -/
import Derived.Test.YtekgegpholcdcaaNdP
namespace Go.Proofs.Ytekgegpholcdcaa.NdQ
open Go.RowKit Go.Lib Go.Proofs Go.Proofs.Ytekgegpholcdcaa.NdA Go.Proofs.Ytekgegpholcdcaa.NdH Go.Proofs.Ytekgegpholcdcaa.NdB Go.Proofs.Ytekgegpholcdcaa.NdC Go.Proofs.Ytekgegpholcdcaa.NdD Go.Proofs.Ytekgegpholcdcaa.NdE Go.Proofs.Ytekgegpholcdcaa.NdF Go.Proofs.Ytekgegpholcdcaa.NdG Go.Proofs.Ytekgegpholcdcaa.NdI Go.Proofs.Ytekgegpholcdcaa.NdP
set_option linter.unusedVariables false
set_option linter.unusedSimpArgs false
def MakeRPost (B : Nat) (v : Value) (s : St) (x lo hi : Int) (w : World) (e : Ending) (w' : World) : Prop := e = .returned (.tuple #[.int .i64 (mkA s x lo hi), .int .i64 (mkE s x lo hi)]) ∧ ∃ v', Rt w' B v' (mkS s x lo hi) ∧ Frm (FootR B v) w w' ∧ ∀ k, FootR B v' k → FootR B v k ∨ w.heap.size ≤ k
section
variable {B : Nat} {v : Value} {s : St} {w : World}
theorem Rt.spend (H : Rt w B v s) : Rt (w.setCell ⟨B, 3, none⟩ (.bool true)) B v { s with spent := true } := by
  have h2 := Rt.ne H
  refine ⟨?_, own_block H.own (fun g hg => Below.heap_setCell _ _ _ _ (fun e => h2 (hg.trans (congrArg some e)))), ⟨H.wf.nodup, H.wf.ok, H.wf.v61⟩, H.len, H.bud⟩
  show (w.heap.modify B _)[B]? = _
  rw [Array.getElem?_modify, if_pos rfl, H.fb]
  rfl
theorem Rt.grown (H : Rt w B v s) {x : Nd} {y : World} {v' : Value} (hwf : WF { s with L := s.L ++ [x] }) (hl : s.L.length < 100) (hown : y.ownsRow 0 28 3 v' (s.L.length + 1) (encN s.L ++ enc3 x))
    (hB : y.heap[B]? = w.heap[B]?) (hne : v'.ownBlock ≠ some B) : Rt (y.setCell ⟨B, 2, none⟩ v') B v' { s with L := s.L ++ [x] } := by
  refine ⟨?_, ?_, hwf, by simp; omega, H.bud⟩
  · show (y.heap.modify B _)[B]? = _
    rw [Array.getElem?_modify, if_pos rfl, hB, H.fb]
    rfl
  · rw [encN_snoc, List.length_append]
    exact own_block hown (fun g hg => Below.heap_setCell _ _ _ _ (fun e => hne (hg.trans (congrArg some e))))
set_option maxHeartbeats 4000000 in
set_option maxRecDepth 100000 in
theorem makeR_no (x lo hi : Int) (H : Rt w B v s) (hm : mayB s x lo hi = false) : Calls Try.prog 11 #[.pointer (some ⟨B, 0, none⟩), .int .i64 x, .int .i64 lo, .int .i64 hi] w (MakeRPost B v s x lo hi w) := by
  have ea : mkA s x lo hi = 0 := by unfold mkA; rw [hm]; rfl
  have ee : mkE s x lo hi = 6 := by unfold mkE; rw [hm]; rfl
  have es : mkS s x lo hi = s := by unfold mkS; rw [hm]; rfl
  unfold MakeRPost
  rw [ea, ee, es]
  have HE := Lib.hid (show ∃ v', Rt w B v' s ∧ Frm (FootR B v) w w ∧ ∀ k, FootR B v' k → FootR B v k ∨ w.heap.size ≤ k from ⟨v, H, Frm.refl _ _, fun k hk => Or.inl hk⟩)
  have HIl := Lib.hid (isR lo H)
  have HIh := Lib.hid (isR hi H)
  have HVl := Lib.hid (varR lo H)
  have HVh := Lib.hid (varR hi H)
  obtain ⟨c0, -, -, -⟩ := H.b0
  have hcase : x < 0 ∨ (¬ x < 0 ∧ (s.vars : Int) ≤ x) ∨ (¬ x < 0 ∧ ¬ (s.vars : Int) ≤ x ∧ isB s lo = false) ∨ (¬ x < 0 ∧ ¬ (s.vars : Int) ≤ x ∧ isB s lo = true ∧ isB s hi = false) ∨ (¬ x < 0 ∧ ¬ (s.vars : Int) ≤ x ∧ isB s lo = true ∧ isB s hi = true ∧ varI s lo ≤ x) ∨ (¬ x < 0 ∧ ¬ (s.vars : Int) ≤ x ∧ isB s lo = true ∧ isB s hi = true ∧ ¬ varI s lo ≤ x ∧ varI s hi ≤ x) := by
    by_cases h1 : x < 0
    · exact Or.inl h1
    by_cases h2 : (s.vars : Int) ≤ x
    · exact Or.inr (Or.inl ⟨h1, h2⟩)
    cases h3 : isB s lo with
    | false => exact Or.inr (Or.inr (Or.inl ⟨h1, h2, rfl⟩))
    | true =>
      cases h4 : isB s hi with
      | false => exact Or.inr (Or.inr (Or.inr (Or.inl ⟨h1, h2, rfl, rfl⟩)))
      | true =>
        by_cases h5 : varI s lo ≤ x
        · exact Or.inr (Or.inr (Or.inr (Or.inr (Or.inl ⟨h1, h2, rfl, rfl, h5⟩))))
        · by_cases h6 : varI s hi ≤ x
          · exact Or.inr (Or.inr (Or.inr (Or.inr (Or.inr ⟨h1, h2, rfl, rfl, h5, h6⟩))))
          · have := mayB_iff.2 ⟨(by omega : 0 ≤ x), h3, h4, (by omega : x < varI s lo), (by omega : x < varI s hi)⟩
            rw [hm] at this
            cases this
  clear H hm ea ee es
  generalize varI s lo = vl at *
  generalize varI s hi = vh at *
  generalize isB s lo = bl at *
  generalize isB s hi = bh at *
  generalize s.vars = vs at *
  rcases hcase with h1 | ⟨h1, h2⟩ | ⟨h1, h2, rfl⟩ | ⟨h1, h2, rfl, rfl⟩ | ⟨h1, h2, rfl, rfl, h5⟩ | ⟨h1, h2, rfl, rfl, h5, h6⟩
  · have d1 : decide (x < 0) = true := decide_eq_true h1
    go_enter Try.func11, Try.ntmps11
    go_wp2_with (first | ((with_reducible refine HIl.out.mono ?_); rintro e w' ⟨rfl, rfl⟩) | ((with_reducible refine HIh.out.mono ?_); rintro e w' ⟨rfl, rfl⟩) | ((with_reducible refine HVl.out.mono ?_); rintro e w' ⟨rfl, rfl⟩) | ((with_reducible refine HVh.out.mono ?_); rintro e w' ⟨rfl, rfl⟩))
    go_ret2
    exact ⟨rfl, HE.out⟩
  all_goals have d1 : decide (x < 0) = false := decide_eq_false h1
  · have d2 : decide ((vs : Int) ≤ x) = true := decide_eq_true h2
    go_enter Try.func11, Try.ntmps11
    go_wp2_with (first | ((with_reducible refine HIl.out.mono ?_); rintro e w' ⟨rfl, rfl⟩) | ((with_reducible refine HIh.out.mono ?_); rintro e w' ⟨rfl, rfl⟩) | ((with_reducible refine HVl.out.mono ?_); rintro e w' ⟨rfl, rfl⟩) | ((with_reducible refine HVh.out.mono ?_); rintro e w' ⟨rfl, rfl⟩))
    go_ret2
    exact ⟨rfl, HE.out⟩
  all_goals have d2 : decide ((vs : Int) ≤ x) = false := decide_eq_false h2
  · go_enter Try.func11, Try.ntmps11
    go_wp2_with (first | ((with_reducible refine HIl.out.mono ?_); rintro e w' ⟨rfl, rfl⟩) | ((with_reducible refine HIh.out.mono ?_); rintro e w' ⟨rfl, rfl⟩) | ((with_reducible refine HVl.out.mono ?_); rintro e w' ⟨rfl, rfl⟩) | ((with_reducible refine HVh.out.mono ?_); rintro e w' ⟨rfl, rfl⟩))
    go_ret2
    exact ⟨rfl, HE.out⟩
  · go_enter Try.func11, Try.ntmps11
    go_wp2_with (first | ((with_reducible refine HIl.out.mono ?_); rintro e w' ⟨rfl, rfl⟩) | ((with_reducible refine HIh.out.mono ?_); rintro e w' ⟨rfl, rfl⟩) | ((with_reducible refine HVl.out.mono ?_); rintro e w' ⟨rfl, rfl⟩) | ((with_reducible refine HVh.out.mono ?_); rintro e w' ⟨rfl, rfl⟩))
    go_ret2
    exact ⟨rfl, HE.out⟩
  · have d3 : decide (vl ≤ x) = true := decide_eq_true h5
    go_enter Try.func11, Try.ntmps11
    go_wp2_with (first | ((with_reducible refine HIl.out.mono ?_); rintro e w' ⟨rfl, rfl⟩) | ((with_reducible refine HIh.out.mono ?_); rintro e w' ⟨rfl, rfl⟩) | ((with_reducible refine HVl.out.mono ?_); rintro e w' ⟨rfl, rfl⟩) | ((with_reducible refine HVh.out.mono ?_); rintro e w' ⟨rfl, rfl⟩))
    go_ret2
    exact ⟨rfl, HE.out⟩
  · have d3 : decide (vl ≤ x) = false := decide_eq_false h5
    have d4 : decide (vh ≤ x) = true := decide_eq_true h6
    go_enter Try.func11, Try.ntmps11
    go_wp2_with (first | ((with_reducible refine HIl.out.mono ?_); rintro e w' ⟨rfl, rfl⟩) | ((with_reducible refine HIh.out.mono ?_); rintro e w' ⟨rfl, rfl⟩) | ((with_reducible refine HVl.out.mono ?_); rintro e w' ⟨rfl, rfl⟩) | ((with_reducible refine HVh.out.mono ?_); rintro e w' ⟨rfl, rfl⟩))
    go_ret2
    exact ⟨rfl, HE.out⟩
set_option maxHeartbeats 8000000 in
set_option maxRecDepth 100000 in
theorem makeR_may (x lo hi : Int) (hl : s.L.length < 90) (H : Rt w B v s) (hm : mayB s x lo hi = true) : Calls Try.prog 11 #[.pointer (some ⟨B, 0, none⟩), .int .i64 x, .int .i64 lo, .int .i64 hi] w (MakeRPost B v s x lo hi w) := by
  unfold MakeRPost
  have HIl := Lib.hid (isR lo H)
  have HIh := Lib.hid (isR hi H)
  have HVl := Lib.hid (varR lo H)
  have HVh := Lib.hid (varR hi H)
  obtain ⟨c0, c1, c2, c3⟩ := H.b0
  obtain ⟨m1, m2, m3, m4, m5⟩ := mayB_iff.1 hm
  have hvl := varI_le H.wf lo
  rw [m2] at HIl
  rw [m3] at HIh
  have d1 : decide (x < 0) = false := decide_eq_false (by omega)
  have d2 : decide ((s.vars : Int) ≤ x) = false := decide_eq_false (by omega)
  have d3 : decide (varI s lo ≤ x) = false := decide_eq_false (by omega)
  have d4 : decide (varI s hi ≤ x) = false := decide_eq_false (by omega)
  clear m1 m2 m3 m4 m5 hvl
  by_cases hne : lo = hi
  · subst hne
    have ea : mkA s x lo lo = lo := by unfold mkA; rw [hm, if_pos rfl, if_pos rfl]
    have ee : mkE s x lo lo = 0 := by unfold mkE; rw [hm, if_pos rfl, if_pos rfl]
    have es : mkS s x lo lo = s := by unfold mkS; rw [hm, if_pos rfl, if_pos rfl]
    rw [ea, ee, es]
    have HE := Lib.hid (show ∃ v', Rt w B v' s ∧ Frm (FootR B v) w w ∧ ∀ k, FootR B v' k → FootR B v k ∨ w.heap.size ≤ k from ⟨v, H, Frm.refl _ _, fun k hk => Or.inl hk⟩)
    clear H hm ea ee es
    generalize varI s lo = vl at *
    go_enter Try.func11, Try.ntmps11
    go_wp2_with (first | ((with_reducible refine HIl.out.mono ?_); rintro e w' ⟨rfl, rfl⟩) | ((with_reducible refine HVl.out.mono ?_); rintro e w' ⟨rfl, rfl⟩))
    go_ret2
    exact ⟨rfl, HE.out⟩
  · have ea : mkA s x lo hi = match posN s.L ⟨x, lo, hi⟩ with
      | some i => (i : Int) + 2
      | none => if s.budget ≤ s.L.length then 0 else (s.L.length : Int) + 2 := by unfold mkA; rw [hm, if_pos rfl, if_neg hne]; cases posN s.L ⟨x, lo, hi⟩ <;> rfl
    have ee : mkE s x lo hi = match posN s.L ⟨x, lo, hi⟩ with
      | some i => 0
      | none => if s.budget ≤ s.L.length then 8 else 0 := by unfold mkE; rw [hm, if_pos rfl, if_neg hne]; cases posN s.L ⟨x, lo, hi⟩ <;> rfl
    have es : mkS s x lo hi = match posN s.L ⟨x, lo, hi⟩ with
      | some i => s
      | none => if s.budget ≤ s.L.length then { s with spent := true } else { s with L := s.L ++ [⟨x, lo, hi⟩] } := by unfold mkS; rw [hm, if_pos rfl, if_neg hne]; cases posN s.L ⟨x, lo, hi⟩ <;> rfl
    have hwf : ⟨x, lo, hi⟩ ∉ s.L → WF { s with L := s.L ++ [⟨x, lo, hi⟩] } := fun hno => H.wf.add hm hne hno
    have heq : (lo == hi) = false := by simpa using hne
    have HEa := Lib.hid ea
    have HEe := Lib.hid ee
    have HEs := Lib.hid es
    have HWf := Lib.hid hwf
    have HT := Lib.hid H
    have hbx := (Below.refl w.heap.size w).alloc (Nat.le_refl _) (.cells #[.int .i64 x, .int .i64 lo, .int .i64 hi] 28)
    have hx0 := heap_alloc_new w (.cells #[.int .i64 x, .int .i64 lo, .int .i64 hi] 28)
    have HBx := Lib.hid hbx
    have HX0 := Lib.hid hx0
    obtain ⟨A, ca, hv, hle, hmx, hnod⟩ := H.nodes
    have HNod := Lib.hid hnod
    have hbl := H.bl
    have hbud := H.bud
    subst hv
    clear ea ee es hwf hne hm H hbx hx0 hnod
    obtain ⟨ln, hln⟩ : ∃ ln, s.L.length = ln := ⟨_, rfl⟩
    have HLn := Lib.hid hln
    rw [hln] at hl c2 hle
    rw [hln]
    clear hln
    generalize varI s lo = vl at *
    generalize varI s hi = vh at *
    go_enter Try.func11, Try.ntmps11
    go_wp2_with (first | ((with_reducible refine HIl.out.mono ?_); rintro e w' ⟨rfl, rfl⟩) | ((with_reducible refine HIh.out.mono ?_); rintro e w' ⟨rfl, rfl⟩) | ((with_reducible refine HVl.out.mono ?_); rintro e w' ⟨rfl, rfl⟩) | ((with_reducible refine HVh.out.mono ?_); rintro e w' ⟨rfl, rfl⟩))
    generalize hW1 : w.alloc (.cells #[.int .i64 x, .int .i64 lo, .int .i64 hi] 28) = w1 at *
    have hz1 : w1.heap.size = w.heap.size + 1 := by rw [← hW1]; simp
    clear hW1 c0 c1 c2 c3 d1 d2 d3 d4 HIl HIh HVl HVh heq
    go_loopw [62] (fun i wr => ∃ j : Nat, j ≤ ln ∧ i = .int .i64 j ∧ Hid (∀ t, t < j → ∀ h : t < s.L.length, s.L[t] ≠ ⟨x, lo, hi⟩) ∧ Below w1.heap.size w1 wr) (fun i _ => ln - (RowKit.intOf i).toNat)
    case atStart => exact ⟨0, by omega, rfl, Lib.hid (fun t ht => absurd ht (Nat.not_lt_zero t)), Below.refl _ _⟩
    case round =>
      obtain ⟨j, hj, rfl, hno, hb⟩ := hrel
      have hbw : Below w.heap.size w wr := HBx.out.trans (hb.mono HBx.out.size)
      have y0 : ∀ o, wr.cell? ⟨w.heap.size, o, none⟩ = (#[.int .i64 x, .int .i64 lo, .int .i64 hi] : Array Value)[o]? := fun o => Lib.cell_of_heap ((hb.block w.heap.size (by omega)).trans HX0.out) o
      have hzr := hb.size
      by_cases hlt : j < ln
      · have d1 : decide ((j : Int) < ln) = true := by simp; omega
        have q0 : (0 : Int) ≤ j := by omega
        have q1 : (j : Int) < ln := by omega
        have hjL : j < s.L.length := by rw [HLn.out]; exact hlt
        obtain ⟨g, rfl, hg, hcell⟩ := HNod.out (by omega)
        obtain ⟨a0, a1, a2⟩ := hcell j hjL
        have ec : ∀ o, wr.cell? ⟨g, o, none⟩ = w.cell? ⟨g, o, none⟩ := fun o => hbw.cell (p := ⟨g, o, none⟩) hg
        rw [← ec] at a0 a1 a2
        obtain ⟨u, hu⟩ : ∃ u, s.L[j] = u := ⟨_, rfl⟩
        rw [hu] at a0 a1 a2
        obtain ⟨u1, u2, u3⟩ := u
        simp only at a0 a1 a2
        have hq := fun w => eqN x lo hi u1 u2 u3 w
        have hbq : w.heap.size < wr.heap.size := by omega
        have HB1 := Lib.hid hb
        have HBw := Lib.hid hbw
        clear hcell hb hbw ec
        by_cases he : (⟨x, lo, hi⟩ : Nd) = ⟨u1, u2, u3⟩
        · rw [decide_eq_true he] at hq
          have hp : posN s.L ⟨x, lo, hi⟩ = some j := by
            rw [he, ← hu]
            exact posN_at HT.out.wf.nodup hjL
          rw [hp] at HEa HEe HEs
          simp only at HEa HEe HEs
          have HE := Lib.hid (show ∀ o, ∃ v', Rt (wr.alloc o) B v' s ∧ Frm (FootR B (.slice (some ⟨g, 0, none⟩) ln ca)) w (wr.alloc o) ∧ ∀ k, FootR B v' k → FootR B (.slice (some ⟨g, 0, none⟩) ln ca) k ∨ w.heap.size ≤ k from fun o => ⟨_, HT.out.below (HBw.out.alloc HBw.out.size o), Frm.of_below (HBw.out.alloc HBw.out.size o), fun k hk => Or.inl (by rw [HLn.out] at hk; exact hk)⟩)
          clear he hp hu
          go_wp2_with fail
          go_ret2
          refine ⟨by rw [HEa.out, HEe.out]; rfl, ?_⟩
          rw [HEs.out]
          exact HE.out _
        · rw [decide_eq_false he] at hq
          have hno2 : Hid (∀ t, t < j + 1 → ∀ h : t < s.L.length, s.L[t] ≠ ⟨x, lo, hi⟩) := Lib.hid (fun t ht h => by
            rcases Nat.lt_or_ge t j with h2 | h2
            · exact hno.out t h2 h
            · have : t = j := by omega
              subst this
              rw [hu]
              exact fun e => he e.symm)
          have HB2 := Lib.hid (show ∀ o, Below w1.heap.size w1 (wr.alloc o) from fun o => HB1.out.alloc HB1.out.size o)
          clear he hno hu
          go_wp2_with fail
          go_roundw
          case rel => exact ⟨j + 1, by omega, by go_num, hno2, HB2.out _⟩
          case measure => simp [RowKit.intOf]; omega
      · have d1 : decide ((j : Int) < ln) = false := by simp; omega
        have hnm : (⟨x, lo, hi⟩ : Nd) ∉ s.L := fun hmem => by
          obtain ⟨t, ht, e⟩ := List.getElem_of_mem hmem
          exact hno.out t (by have := HLn.out; omega) ht e
        have hp : posN s.L ⟨x, lo, hi⟩ = none := by
          cases h : posN s.L ⟨x, lo, hi⟩ with
          | none => rfl
          | some i =>
            obtain ⟨h1, h2⟩ := posN_some h
            exact absurd (h2 ▸ List.getElem_mem h1) hnm
        rw [hp] at HEa HEe HEs
        simp only [HLn.out] at HEa HEe HEs
        have H1 := HT.out.below hbw
        have HTw := Lib.hid H1
        obtain ⟨c0, c1, c2, c3⟩ := H1.b0
        rw [HLn.out] at c2
        have hfr := Rt.free H1 3
        have hfr2 := Rt.free H1 2
        have HBw := Lib.hid hbw
        have HB1 := Lib.hid hb
        have hwf' := HWf.out hnm
        clear hno hp hb hbw H1 hnm c0
        by_cases hbd : s.budget ≤ ln
        · have z1 : decide ((s.budget : Int) ≤ ln) = true := by simp; omega
          have z2 : decide (s.budget ≤ ln) = true := by simp; omega
          rw [if_pos hbd] at HEa HEe HEs
          have HSp := Lib.hid (show ∀ q, ∃ v', Rt ((wr.drewN q).setCell ⟨B, 3, none⟩ (.bool true)) B v' { s with spent := true } ∧ Frm (FootR B (.slice A ln ca)) w ((wr.drewN q).setCell ⟨B, 3, none⟩ (.bool true)) ∧ ∀ k, FootR B v' k → FootR B (.slice A ln ca) k ∨ w.heap.size ≤ k from fun q => ⟨_, Rt.spend (HTw.out.drewN q), (Frm.of_below (F := FootR B (.slice A ln ca)) (below_drewN HBw.out q)).trans (Frm.of_grown (F := fun k => k = B) (row := some B) ⟨rfl, rfl, rfl, by simp [World.setCell], fun k hk hne => Below.heap_setCell _ _ _ _ (fun e => hne (by rw [e]))⟩ (fun k hk => (Option.some.inj hk).symm)) (fun k hk => Or.inl (Or.inl hk)), fun k hk => Or.inl (by rw [HLn.out] at hk; exact hk)⟩)
          clear hbd
          go_wp2_with fail
          go_quiet (fail)
          go_wp2_with fail
          go_ret2
          refine ⟨by rw [HEa.out, HEe.out]; rfl, ?_⟩
          rw [HEs.out]
          exact HSp.out _
        · have z1 : decide ((s.budget : Int) ≤ ln) = false := by simp; omega
          have z2 : decide (s.budget ≤ ln) = false := by simp; omega
          rw [if_neg hbd] at HEa HEe HEs
          clear hbd
          go_wp2_with fail
          go_quiet (fail)
          go_wp2_with fail
          have H2 := HTw.out.drewN nq
          have hbq := below_drewN HBw.out nq
          have hq0 : ∀ o, (wr.drewN nq).cell? ⟨w.heap.size, o, none⟩ = (#[.int .i64 x, .int .i64 lo, .int .i64 hi] : Array Value)[o]? := y0
          have hzq : w.heap.size < (wr.drewN nq).heap.size := by show w.heap.size < wr.heap.size; omega
          clear c1 c2 c3 y0 hfr hfr2 hzr
          generalize wr.drewN nq = wq at *
          have hown0 := HT.out.own
          rw [HLn.out] at hown0
          have hne0 := Rt.ne HT.out
          rw [HLn.out] at hne0
          have hy0 := ((Below.refl wq.heap.size wq).drew).alloc (Nat.le_refl _) (.cells #[.int .i64 x, .int .i64 lo, .int .i64 hi] 28)
          have hown2 := (H2.below hy0).own
          rw [HLn.out] at hown2
          obtain ⟨i0, hi0, hz0, hz1, hz2⟩ := info_parts infoNode
          obtain ⟨v', y, hrun, hown3, hg3, -, hm3⟩ := run_append_own_at (P := Try.prog) (wq.drew.alloc (.cells #[.int .i64 x, .int .i64 lo, .int .i64 hi] 28)) 0 22 22 28 i0 (.agg #[.int .i64 0, .int .i64 0, .int .i64 0]) 3 24 Try.underlying22 hi0 hz0 hz1 hz2 rfl (by decide) (.slice A ln ca) ln (encN s.L) hown2 ⟨wq.heap.size, 0, none⟩ 1 1 [.int .i64 x, .int .i64 lo, .int .i64 hi] rfl (three_cells wq.drew 28 x lo hi) (by intro u hu; simp only [List.mem_cons, List.not_mem_nil, or_false] at hu; rcases hu with rfl | rfl | rfl <;> rfl) (by unfold maxLen; omega) (by omega) (Nat.zero_le _)
          obtain ⟨g3, ca3, rfl, hg3s⟩ : ∃ g3 ca3, v' = .slice (some ⟨g3, 0, none⟩) (ln + 1) ca3 ∧ ln + 1 ≤ ca3 := by
            rcases hown3.2 with ⟨_, h⟩ | ⟨g, cap, cur, rfl, _, _, hc, _⟩
            · omega
            · exact ⟨_, _, rfl, hc⟩
          have hA0 : ∀ k, (Value.slice A ln ca).ownBlock = some k → k < w.heap.size := fun k hk => (hown0.lt k hk).2
          have hyz : (wq.drew.alloc (.cells #[.int .i64 x, .int .i64 lo, .int .i64 hi] 28)).heap.size = wq.heap.size + 1 := by simp
          have hfoot : ∀ k, (Value.slice (some ⟨g3, 0, none⟩) (ln + 1) ca3).ownBlock = some k → (Value.slice A ln ca).ownBlock = some k ∨ w.heap.size ≤ k := fun k hk => by
            rcases hm3 with e | e
            · exact Or.inl (by rw [← e]; exact hk)
            · rw [e] at hk
              injection hk with hk
              exact Or.inr (by omega)
          have hne' : (Value.slice (some ⟨g3, 0, none⟩) (ln + 1) ca3).ownBlock ≠ some B := fun e => by
            rcases hfoot B e with h | h
            · exact hne0 h
            · omega
          have hyk : ∀ k, k < wq.heap.size → (Value.slice A ln ca).ownBlock ≠ some k → y.heap[k]? = wq.heap[k]? := fun k hk hn => (hg3.block k (by rw [hyz]; omega) (fun e => hn e.symm)).trans (hy0.block k hk)
          have HTg := Lib.hid (Rt.grown (y := y) (v' := .slice (some ⟨g3, 0, none⟩) (ln + 1) ca3) H2 hwf' (by rw [HLn.out]; omega) (by rw [HLn.out]; exact hown3) (hyk B (by omega) hne0) hne')
          have c2 := H2.b0.2.2.1
          rw [HLn.out] at c2
          have kc : y.cell? ⟨B, 2, none⟩ = some (.slice A ln ca) := (World.cell?_of_block (w := wq) (hyk B (by omega) hne0)).trans c2
          have kf : y.frozen? ⟨B, 2, none⟩ = false := (CaA.froz_of_block (hyk B (by omega) hne0) 2).trans (Rt.free H2 2)
          have hfr2 := Rt.free H2 2
          have hbqn : (Value.slice A ln ca).ownBlock ≠ some w.heap.size := fun e => by have := hA0 _ e; omega
          have hS0 : ∀ o, wq.drew.cell? ⟨w.heap.size, o, none⟩ = (#[.int .i64 x, .int .i64 lo, .int .i64 hi] : Array Value)[o]? := hq0
          have hS1 : ∀ o, (wq.drew.alloc (.cells #[.int .i64 x, .int .i64 lo, .int .i64 hi] 28)).cell? ⟨w.heap.size, o, none⟩ = (#[.int .i64 x, .int .i64 lo, .int .i64 hi] : Array Value)[o]? := fun o => (hy0.cell (p := ⟨w.heap.size, o, none⟩) hzq).trans (hS0 o)
          have hS2 : ∀ o, y.cell? ⟨w.heap.size, o, none⟩ = (#[.int .i64 x, .int .i64 lo, .int .i64 hi] : Array Value)[o]? := fun o => (World.cell?_of_block (w := wq) (hyk w.heap.size (by omega) hbqn)).trans (hS0 o)
          have hS3 : ∀ o, (y.setCell ⟨B, 2, none⟩ (.slice (some ⟨g3, 0, none⟩) (ln + 1) ca3)).cell? ⟨w.heap.size, o, none⟩ = (#[.int .i64 x, .int .i64 lo, .int .i64 hi] : Array Value)[o]? := fun o => (World.cell?_setCell_other _ _ _ _ (fun e => by injection e with e; omega)).trans (hS2 o)
          have HFy := Lib.hid (show Frm (FootR B (.slice A ln ca)) w (y.setCell ⟨B, 2, none⟩ (.slice (some ⟨g3, 0, none⟩) (ln + 1) ca3)) from
            ((((Frm.of_below (F := FootR B (.slice A ln ca)) hbq).trans (Frm.of_below (F := fun _ => False) hy0) (fun k hk => absurd hk id)).trans (Frm.of_grown (F := FootR B (.slice A ln ca)) hg3 (fun k hk => Or.inr hk)) (fun k hk => Or.inl hk)).trans (Frm.of_grown (F := fun k => k = B) (row := some B) ⟨rfl, rfl, rfl, by simp [World.setCell], fun k hk hne => Below.heap_setCell _ _ _ _ (fun e => hne (by rw [e]))⟩ (fun k hk => (Option.some.inj hk).symm)) (fun k hk => Or.inl (Or.inl hk))))
          have HFt : Hid (∀ k, FootR B (.slice (some ⟨g3, 0, none⟩) (ln + 1) ca3) k → FootR B (.slice A ln ca) k ∨ w.heap.size ≤ k) := Lib.hid (fun k hk => by
            rcases hk with h | h
            · exact Or.inl (Or.inl h)
            · rcases hfoot k h with e | e
              · exact Or.inl (Or.inr e)
              · exact Or.inr e)
          have hBw1 : B < wq.heap.size := by omega
          clear hfoot hyk hA0 hg3 hown3 hown2 hown0 hne0 hm3 hi0 hz0 hz1 hz2 H2 hwf' hq0 hbq hy0 hbqn hyz
          refine wp_region_held_drew (S := fun y => ∀ o, y.cell? ⟨w.heap.size, o, none⟩ = (#[.int .i64 x, .int .i64 lo, .int .i64 hi] : Array Value)[o]?) (by kernel_rfl) hS0 (fun hHeld => ?_)
          refine wpAnyH_take (i := 0) (v := ?_) rfl (by kernel_rfl) (by kernel_rfl) (by kernel_rfl) (fun _ _ _ h => h) (Or.inl ⟨by kernel_rfl, ?_⟩) (by assumption) ?_
          rotate_left
          · intro w hSw; (try dsimp only at hSw); go_simp; try with_reducible rfl
          try simp only [Act.put, List.setIfInBounds_toArray, List.set_cons_zero, List.set_cons_succ]
          refine wpAnyH_take (i := 1) (v := ?_) rfl (by kernel_rfl) (by kernel_rfl) (by kernel_rfl) (fun _ _ _ h => h) (Or.inl ⟨by kernel_rfl, ?_⟩) (by assumption) ?_
          rotate_left
          · intro w hSw; (try dsimp only at hSw); go_simp; try with_reducible rfl
          try simp only [Act.put, List.setIfInBounds_toArray, List.set_cons_zero, List.set_cons_succ]
          refine wpAnyH_take (i := 2) (v := ?_) rfl (by kernel_rfl) (by kernel_rfl) (by kernel_rfl) (fun _ _ _ h => h) (Or.inl ⟨by kernel_rfl, ?_⟩) (by assumption) ?_
          rotate_left
          · intro w hSw; (try dsimp only at hSw); go_simp; try with_reducible rfl
          try simp only [Act.put, List.setIfInBounds_toArray, List.set_cons_zero, List.set_cons_succ]
          refine wpAnyH_take (i := 3) (v := ?_) rfl (by kernel_rfl) (by kernel_rfl) (by kernel_rfl) (fun _ _ _ h => h) (Or.inl ⟨by kernel_rfl, ?_⟩) (by assumption) ?_
          rotate_left
          · intro w hSw; (try dsimp only at hSw); go_simp; try with_reducible rfl
          try simp only [Act.put, List.setIfInBounds_toArray, List.set_cons_zero, List.set_cons_succ]
          refine wpAnyH_take (i := 5) (v := ?_) rfl (by kernel_rfl) (by kernel_rfl) (by kernel_rfl) (fun _ _ _ h => h) (Or.inl ⟨by kernel_rfl, ?_⟩) (by assumption) ?_
          rotate_left
          · intro w hSw; (try dsimp only at hSw); go_simp; try with_reducible rfl
          try simp only [Act.put, List.setIfInBounds_toArray, List.set_cons_zero, List.set_cons_succ]
          refine wpAnyH_ready (rs := [4, 6]) (by kernel_rfl) (by simp) ?_
          refine AllReadyH.cons rfl (fun K hK => ?_) (AllReadyH.cons rfl (fun K hK => ?_) AllReadyH.nil)
          go_simp
          refine hK.out _ _ hS0 (fun hHeld => ?_)
          clear hK K
          try simp only [Act.put, List.setIfInBounds_toArray, List.set_cons_zero, List.set_cons_succ]
          refine wpAnyH_ready (rs := [6]) (by kernel_rfl) (by simp) ?_
          refine AllReadyH.cons rfl (fun K hK => ?_) AllReadyH.nil
          go_simp
          refine hK.out _ _ hS1 (fun hHeld => ?_)
          clear hK K
          try simp only [Act.put, List.setIfInBounds_toArray, List.set_cons_zero, List.set_cons_succ]
          refine wpAnyH_ready (rs := [7]) (by kernel_rfl) (by simp) ?_
          refine AllReadyH.cons rfl (fun K hK => ?_) AllReadyH.nil
          rw [if_pos (by kernel_rfl)]
          refine Lib.wp_append_run _ (.tmp 90) (.tmp 92) 22 22 rfl (.slice A ln ca) (.slice (some ⟨wq.heap.size, 0, none⟩) 1 1) rfl rfl (.slice (some ⟨g3, 0, none⟩) (ln + 1) ca3) y hrun ?_
          refine hK.out _ _ hS2 (fun hHeld => ?_)
          clear hK K
          try simp only [Act.put, List.setIfInBounds_toArray, List.set_cons_zero, List.set_cons_succ]
          refine wpAnyH_take (i := 8) (v := ?_) rfl (by kernel_rfl) (by kernel_rfl) (by kernel_rfl) (fun _ _ _ h => h) (Or.inl ⟨by kernel_rfl, ?_⟩) (by assumption) ?_
          rotate_left
          · intro w hSw; (try dsimp only at hSw); go_simp; try with_reducible rfl
          try simp only [Act.put, List.setIfInBounds_toArray, List.set_cons_zero, List.set_cons_succ]
          refine wpAnyH_take (i := 9) (v := ?_) rfl (by kernel_rfl) (by kernel_rfl) (by kernel_rfl) (fun _ _ _ h => h) (Or.inl ⟨by kernel_rfl, ?_⟩) (by assumption) ?_
          rotate_left
          · intro w hSw; (try dsimp only at hSw); go_simp; try with_reducible rfl
          try simp only [Act.put, List.setIfInBounds_toArray, List.set_cons_zero, List.set_cons_succ]
          refine wpAnyH_ready (rs := [10]) (by kernel_rfl) (by simp) ?_
          refine AllReadyH.cons rfl (fun K hK => ?_) AllReadyH.nil
          go_simp
          refine hK.out _ _ hS3 (fun hHeld => ?_)
          clear hK K
          try simp only [Act.put, List.setIfInBounds_toArray, List.set_cons_zero, List.set_cons_succ]
          refine wpAnyH_done (by kernel_rfl) ?_ _
          clear hHeld
          rotate_left
          go_simp
          refine hK.out _ _ hS1 (fun hHeld => ?_)
          clear hK K
          try simp only [Act.put, List.setIfInBounds_toArray, List.set_cons_zero, List.set_cons_succ]
          refine wpAnyH_ready (rs := [4]) (by kernel_rfl) (by simp) ?_
          refine AllReadyH.cons rfl (fun K hK => ?_) AllReadyH.nil
          go_simp
          refine hK.out _ _ hS1 (fun hHeld => ?_)
          clear hK K
          try simp only [Act.put, List.setIfInBounds_toArray, List.set_cons_zero, List.set_cons_succ]
          refine wpAnyH_ready (rs := [7]) (by kernel_rfl) (by simp) ?_
          refine AllReadyH.cons rfl (fun K hK => ?_) AllReadyH.nil
          rw [if_pos (by kernel_rfl)]
          refine Lib.wp_append_run _ (.tmp 90) (.tmp 92) 22 22 rfl (.slice A ln ca) (.slice (some ⟨wq.heap.size, 0, none⟩) 1 1) rfl rfl (.slice (some ⟨g3, 0, none⟩) (ln + 1) ca3) y hrun ?_
          refine hK.out _ _ hS2 (fun hHeld => ?_)
          clear hK K
          try simp only [Act.put, List.setIfInBounds_toArray, List.set_cons_zero, List.set_cons_succ]
          refine wpAnyH_take (i := 8) (v := ?_) rfl (by kernel_rfl) (by kernel_rfl) (by kernel_rfl) (fun _ _ _ h => h) (Or.inl ⟨by kernel_rfl, ?_⟩) (by assumption) ?_
          rotate_left
          · intro w hSw; (try dsimp only at hSw); go_simp; try with_reducible rfl
          try simp only [Act.put, List.setIfInBounds_toArray, List.set_cons_zero, List.set_cons_succ]
          refine wpAnyH_take (i := 9) (v := ?_) rfl (by kernel_rfl) (by kernel_rfl) (by kernel_rfl) (fun _ _ _ h => h) (Or.inl ⟨by kernel_rfl, ?_⟩) (by assumption) ?_
          rotate_left
          · intro w hSw; (try dsimp only at hSw); go_simp; try with_reducible rfl
          try simp only [Act.put, List.setIfInBounds_toArray, List.set_cons_zero, List.set_cons_succ]
          refine wpAnyH_ready (rs := [10]) (by kernel_rfl) (by simp) ?_
          refine AllReadyH.cons rfl (fun K hK => ?_) AllReadyH.nil
          go_simp
          refine hK.out _ _ hS3 (fun hHeld => ?_)
          clear hK K
          try simp only [Act.put, List.setIfInBounds_toArray, List.set_cons_zero, List.set_cons_succ]
          refine wpAnyH_done (by kernel_rfl) ?_ _
          clear hHeld
          all_goals
            generalize y.setCell ⟨B, 2, none⟩ (.slice (some ⟨g3, 0, none⟩) (ln + 1) ca3) = y2 at *
            obtain ⟨-, -, d2, -⟩ := HTg.out.b0
            clear hrun hS0 hS1 hS2 hS3 kc kf c2 hfr2
            go_wp2_with fail
            go_ret2
            refine ⟨by rw [HEa.out, HEe.out]; first | rfl | (congr 3 <;> simp <;> omega), ?_⟩
            rw [HEs.out]
            exact ⟨_, HTg.out, HFy.out, HFt.out⟩
theorem makeR (x lo hi : Int) (hl : s.L.length < 90) (H : Rt w B v s) : Calls Try.prog 11 #[.pointer (some ⟨B, 0, none⟩), .int .i64 x, .int .i64 lo, .int .i64 hi] w (MakeRPost B v s x lo hi w) := by
  cases hm : mayB s x lo hi with
  | false => exact makeR_no x lo hi H hm
  | true => exact makeR_may x lo hi hl H hm
end
end Go.Proofs.Ytekgegpholcdcaa.NdQ
