/- The parts of a diagram, and how a question is asked otherwise, by contract. -/
import Derived.Test.YtnkkmppmfjekeaaItD
namespace Go.Proofs.Ytnkkmppmfjekeaa.ItE
open Go.RowKit Go.Lib Go.Proofs Go.Proofs.Ytnkkmppmfjekeaa.NdA Go.Proofs.Ytnkkmppmfjekeaa.NdB Go.Proofs.Ytnkkmppmfjekeaa.NdC Go.Proofs.Ytnkkmppmfjekeaa.NdE Go.Proofs.Ytnkkmppmfjekeaa.NdG Go.Proofs.Ytnkkmppmfjekeaa.ItA Go.Proofs.Ytnkkmppmfjekeaa.ItB Go.Proofs.Ytnkkmppmfjekeaa.ItD
set_option linter.unusedVariables false
set_option linter.unusedSimpArgs false
section
variable {D : Nat} {x : Bx} {c : Nat} {s : St} {N : Nat} {w : World}
set_option maxHeartbeats 2000000 in
set_option maxRecDepth 100000 in
theorem made_no (f : Int) (hn : -9223372036854775808 ≤ f) (hn2 : f ≤ 9223372036854775807) (H : Bd w D x c s N) (hy : nodeB s f = false) : Calls Try.prog 61 #[.pointer (some ⟨D, 0, none⟩), .int .i64 f] w fun e w' => e = .returned (.tuple #[.agg #[.int .i64 0, .int .i64 0, .int .i64 0], .bool false]) ∧ Below w.heap.size w w' := by
  have hb := (Below.refl w.heap.size w).alloc (Nat.le_refl _) (.cells #[.int .i64 0, .int .i64 0, .int .i64 0] 89)
  have HT := Lib.hid (fun w' (hb : Below w.heap.size w w') => table_ (H.below hb))
  have HG := Lib.hid (fun w' (hb : Below w.heap.size w w') => get_no f hn hn2 (H.below hb).tk.tb hy)
  have HB := Lib.hid hb
  clear H hb hy
  have h0 := heap_alloc_new w (.cells #[.int .i64 0, .int .i64 0, .int .i64 0] 89)
  have hsz : (w.alloc (.cells #[.int .i64 0, .int .i64 0, .int .i64 0] 89)).heap.size = w.heap.size + 1 := by simp
  go_enter Try.func61, Try.ntmps61
  go_wp2_with fail
  generalize w.alloc (.cells #[.int .i64 0, .int .i64 0, .int .i64 0] 89) = wa at *
  refine (HT.out _ HB.out).mono ?_
  rintro e w1 ⟨rfl, rfl⟩
  go_wp2_with fail
  refine (HG.out _ HB.out).mono ?_
  rintro e w1 ⟨rfl, hb1⟩
  have c0 := fun o => (hb1.cell (p := ⟨w.heap.size, o, none⟩) (by show w.heap.size < wa.heap.size; omega)).trans (Lib.cell_of_heap h0 o)
  have HFr : w1.frozen? ⟨w.heap.size, 0, none⟩ = false ∧ w1.frozen? ⟨w.heap.size, 1, none⟩ = false ∧ w1.frozen? ⟨w.heap.size, 2, none⟩ = false := by
    have e : w1.heap[w.heap.size]? = wa.heap[w.heap.size]? := hb1.block _ (by omega)
    refine ⟨?_, ?_, ?_⟩ <;> (unfold World.frozen?; rw [e, h0]; rfl)
  obtain ⟨fr0, fr1, fr2⟩ := HFr
  have HB1 := Lib.hid (HB.out.trans (hb1.mono HB.out.size))
  have HE : Hid (∀ (a b d : Value), Below w.heap.size w (((w1.setCell ⟨w.heap.size, 0, none⟩ a).setCell ⟨w.heap.size, 1, none⟩ b).setCell ⟨w.heap.size, 2, none⟩ d)) := Lib.hid (fun a b d => by
    have k0 : ∀ (y : World) (o : Nat) (u : Value), Below w.heap.size w y → Below w.heap.size w (y.setCell ⟨w.heap.size, o, none⟩ u) := fun y o u h => h.setCell (p := ⟨w.heap.size, o, none⟩) (Nat.le_refl _) u
    exact k0 _ _ _ (k0 _ _ _ (k0 _ _ _ HB1.out)))
  have HC := Lib.hid (show ∀ (a b d : Value), ((((w1.setCell ⟨w.heap.size, 0, none⟩ a).setCell ⟨w.heap.size, 1, none⟩ b).setCell ⟨w.heap.size, 2, none⟩ d)).heap[w.heap.size]? = some (.cells #[a, b, d] 89 (0, 0)) from fun a b d => by
    have e : w1.heap[w.heap.size]? = some (.cells #[.int .i64 0, .int .i64 0, .int .i64 0] 89 (0, 0)) := (hb1.block _ (by omega)).trans h0
    exact set3 w1 w.heap.size _ _ _ _ a b d e)
  clear hb1 h0 hsz
  go_wp2_with fail
  have hl := fun o => Lib.cell_of_heap (HC.out (.int .i64 0) (.int .i64 0) (.int .i64 0)) o
  refine bodyPost_ret (v := .tuple #[.agg #[.int .i64 0, .int .i64 0, .int .i64 0], .bool false]) (by simp [results, Try.results61, go_sem, hl]) rfl ⟨rfl, HE.out _ _ _⟩
/-- What a diagram goes on with where a variable is false, and where it is true. -/
def part (s : St) (f v : Int) (b : Bool) : Int := if nodeB s f = true ∧ (at_ s f).v = v then (if b then (at_ s f).hi else (at_ s f).lo) else f
def PartsPost (s : St) (f v : Int) (w : World) (e : Ending) (w' : World) : Prop := e = .returned (.tuple #[.int .i64 (part s f v false), .int .i64 (part s f v true)]) ∧ Below w.heap.size w w'
theorem below3 {w w1 : World} {g : Nat} (hg : w.heap.size ≤ g) (h : Below w.heap.size w w1) (a b d : Value) : Below w.heap.size w (((w1.setCell ⟨g, 0, none⟩ a).setCell ⟨g, 1, none⟩ b).setCell ⟨g, 2, none⟩ d) := by
  have k0 : ∀ (y : World) (o : Nat) (u : Value), Below w.heap.size w y → Below w.heap.size w (y.setCell ⟨g, o, none⟩ u) := fun y o u h => h.setCell (p := ⟨g, o, none⟩) hg u
  exact k0 _ _ _ (k0 _ _ _ (k0 _ _ _ h))
set_option maxHeartbeats 2000000 in
set_option maxRecDepth 100000 in
theorem parts_ (f v : Int) (hn : -9223372036854775808 ≤ f) (hn2 : f ≤ 9223372036854775807) (H : Bd w D x c s N) : Calls Try.prog 77 #[.pointer (some ⟨D, 0, none⟩), .int .i64 f, .int .i64 v] w (PartsPost s f v w) := by
  unfold PartsPost
  cases hy : nodeB s f with
  | false =>
    have HM := Lib.hid (made_no f hn hn2 H hy)
    have e0 : ∀ b, part s f v b = f := fun b => by unfold part; rw [hy]; simp
    rw [e0, e0]
    clear H hy e0
    go_enter Try.func77, Try.ntmps77
    go_wp2_with fail
    refine HM.out.mono ?_
    rintro e w1 ⟨rfl, hb1⟩
    have HB := Lib.hid (fun a b d => below3 hb1.size (hb1.alloc hb1.size (.cells #[.int .i64 0, .int .i64 0, .int .i64 0] 89)) a b d)
    have HB2 := Lib.hid (fun o => hb1.alloc hb1.size o)
    clear hb1 HM
    go_wp2_with fail
    go_ret2
    exact ⟨rfl, by first | exact HB.out _ _ _ | exact HB2.out _⟩
  | true =>
    have HM := Lib.hid (made_yes f hn hn2 H hy)
    have e0 : ∀ b, part s f v b = if (at_ s f).v = v then (if b then (at_ s f).hi else (at_ s f).lo) else f := fun b => by unfold part; rw [hy]; simp
    rw [e0, e0]
    clear H hy e0
    generalize (at_ s f).v = y0 at *
    generalize (at_ s f).lo = y1 at *
    generalize (at_ s f).hi = y2 at *
    by_cases he : y0 = v
    · subst he
      rw [if_pos rfl, if_pos rfl]
      go_enter Try.func77, Try.ntmps77
      go_wp2_with fail
      refine HM.out.mono ?_
      rintro e w1 ⟨rfl, hb1⟩
      have HB := Lib.hid (fun a b d => below3 hb1.size (hb1.alloc hb1.size (.cells #[.int .i64 0, .int .i64 0, .int .i64 0] 89)) a b d)
      have HB2 := Lib.hid (fun o => hb1.alloc hb1.size o)
      clear hb1 HM
      go_wp2_with fail
      go_quiet (fail)
      go_wp2_with fail
      go_ret2
      exact ⟨by simp, by first | exact Below.drewN (HB.out _ _ _) _ | exact below_drewN (HB2.out _) _ | exact below_drewN (HB.out _ _ _) _⟩
    · have d0 : (y0 != v) = true := by simp [he]
      rw [if_neg he, if_neg he]
      go_enter Try.func77, Try.ntmps77
      go_wp2_with fail
      refine HM.out.mono ?_
      rintro e w1 ⟨rfl, hb1⟩
      have HB := Lib.hid (fun a b d => below3 hb1.size (hb1.alloc hb1.size (.cells #[.int .i64 0, .int .i64 0, .int .i64 0] 89)) a b d)
      have HB2 := Lib.hid (fun o => hb1.alloc hb1.size o)
      clear hb1 HM
      go_wp2_with fail
      go_ret2
      exact ⟨rfl, by first | exact HB.out _ _ _ | exact HB2.out _⟩
end
/-- The same question, asked otherwise. -/
def simA (f g h : Int) : Int × Int × Int :=
  let g' := if g = f then 1 else g
  let h' := if h = f then 0 else h
  if h' = 0 ∧ g' < f then (g', f, h') else if g' = 1 ∧ h' < f then (h', g', f) else (f, g', h')
set_option maxHeartbeats 2000000 in
set_option maxRecDepth 100000 in
theorem simplest_ (d : Value) (f g h : Int) (w : World) : Calls Try.prog 73 #[d, .int .i64 f, .int .i64 g, .int .i64 h] w fun e w' => e = .returned (.tuple #[.int .i64 (simA f g h).1, .int .i64 (simA f g h).2.1, .int .i64 (simA f g h).2.2]) ∧ w = w' := by
  have key : ∀ g' h' : Int, (g' = if g = f then 1 else g) → (h' = if h = f then 0 else h) → Calls Try.prog 73 #[d, .int .i64 f, .int .i64 g, .int .i64 h] w fun e w' => e = .returned (.tuple #[.int .i64 (if h' = 0 ∧ g' < f then (g', f, h') else if g' = 1 ∧ h' < f then (h', g', f) else (f, g', h')).1, .int .i64 (if h' = 0 ∧ g' < f then (g', f, h') else if g' = 1 ∧ h' < f then (h', g', f) else (f, g', h')).2.1, .int .i64 (if h' = 0 ∧ g' < f then (g', f, h') else if g' = 1 ∧ h' < f then (h', g', f) else (f, g', h')).2.2]) ∧ w = w' := by
    intro g' h' hg hh
    by_cases e1 : g = f
    · rw [if_pos e1] at hg
      subst hg
      have b1 : (g == f) = true := by simp [e1]
      by_cases e2 : h = f
      · rw [if_pos e2] at hh
        subst hh
        have b2 : (h == f) = true := by simp [e2]
        have e3 : g = h := by rw [e1, e2]
        by_cases e4 : (1 : Int) < f
        · have b4 : decide ((1 : Int) < f) = true := decide_eq_true e4
          rw [if_pos ⟨rfl, e4⟩]
          go_enter Try.func73, Try.ntmps73
          go_wp2_with fail
          all_goals go_ret3
          all_goals exact ⟨rfl, rfl⟩
        · have b4 : decide ((1 : Int) < f) = false := decide_eq_false e4
          rw [if_neg (fun h => e4 h.2)]
          by_cases e5 : (0 : Int) < f
          · have b5 : decide ((0 : Int) < f) = true := decide_eq_true e5
            rw [if_pos ⟨rfl, e5⟩]
            go_enter Try.func73, Try.ntmps73
            go_wp2_with fail
            all_goals go_ret3
            all_goals exact ⟨rfl, rfl⟩
          · have b5 : decide ((0 : Int) < f) = false := decide_eq_false e5
            rw [if_neg (fun h => e5 h.2)]
            go_enter Try.func73, Try.ntmps73
            go_wp2_with fail
            all_goals go_ret3
            all_goals exact ⟨rfl, rfl⟩
      · rw [if_neg e2] at hh
        subst hh
        have b2 : (h' == f) = false := by simp [e2]
        by_cases e3 : h' = 0
        · have b3 : (h' == 0) = true := by simp [e3]
          by_cases e4 : (1 : Int) < f
          · have b4 : decide ((1 : Int) < f) = true := decide_eq_true e4
            rw [if_pos ⟨e3, e4⟩]
            go_enter Try.func73, Try.ntmps73
            go_wp2_with fail
            all_goals go_ret3
            all_goals exact ⟨rfl, rfl⟩
          · have b4 : decide ((1 : Int) < f) = false := decide_eq_false e4
            rw [if_neg (fun h => e4 h.2)]
            by_cases e5 : h' < f
            · have b5 : decide (h' < f) = true := decide_eq_true e5
              rw [if_pos ⟨rfl, e5⟩]
              go_enter Try.func73, Try.ntmps73
              go_wp2_with fail
              all_goals go_ret3
              all_goals exact ⟨rfl, rfl⟩
            · have b5 : decide (h' < f) = false := decide_eq_false e5
              rw [if_neg (fun h => e5 h.2)]
              go_enter Try.func73, Try.ntmps73
              go_wp2_with fail
              all_goals go_ret3
              all_goals exact ⟨rfl, rfl⟩
        · have b3 : (h' == 0) = false := by simp [e3]
          rw [if_neg (fun h => e3 h.1)]
          by_cases e5 : h' < f
          · have b5 : decide (h' < f) = true := decide_eq_true e5
            rw [if_pos ⟨rfl, e5⟩]
            go_enter Try.func73, Try.ntmps73
            go_wp2_with fail
            all_goals go_ret3
            all_goals exact ⟨rfl, rfl⟩
          · have b5 : decide (h' < f) = false := decide_eq_false e5
            rw [if_neg (fun h => e5 h.2)]
            go_enter Try.func73, Try.ntmps73
            go_wp2_with fail
            all_goals go_ret3
            all_goals exact ⟨rfl, rfl⟩
    · rw [if_neg e1] at hg
      subst hg
      have b1 : (g' == f) = false := by simp [e1]
      by_cases e2 : h = f
      · rw [if_pos e2] at hh
        subst hh
        have b2 : (h == f) = true := by simp [e2]
        by_cases e4 : g' < f
        · have b4 : decide (g' < f) = true := decide_eq_true e4
          rw [if_pos ⟨rfl, e4⟩]
          go_enter Try.func73, Try.ntmps73
          go_wp2_with fail
          all_goals go_ret3
          all_goals exact ⟨rfl, rfl⟩
        · have b4 : decide (g' < f) = false := decide_eq_false e4
          rw [if_neg (fun h => e4 h.2)]
          by_cases e6 : g' = 1
          · have b6 : (g' == 1) = true := by simp [e6]
            by_cases e5 : (0 : Int) < f
            · have b5 : decide ((0 : Int) < f) = true := decide_eq_true e5
              rw [if_pos ⟨e6, e5⟩]
              go_enter Try.func73, Try.ntmps73
              go_wp2_with fail
              all_goals go_ret3
              all_goals exact ⟨rfl, rfl⟩
            · have b5 : decide ((0 : Int) < f) = false := decide_eq_false e5
              rw [if_neg (fun h => e5 h.2)]
              go_enter Try.func73, Try.ntmps73
              go_wp2_with fail
              all_goals go_ret3
              all_goals exact ⟨rfl, rfl⟩
          · have b6 : (g' == 1) = false := by simp [e6]
            rw [if_neg (fun h => e6 h.1)]
            go_enter Try.func73, Try.ntmps73
            go_wp2_with fail
            all_goals go_ret3
            all_goals exact ⟨rfl, rfl⟩
      · rw [if_neg e2] at hh
        subst hh
        have b2 : (h' == f) = false := by simp [e2]
        by_cases e3 : h' = 0
        · have b3 : (h' == 0) = true := by simp [e3]
          by_cases e4 : g' < f
          · have b4 : decide (g' < f) = true := decide_eq_true e4
            rw [if_pos ⟨e3, e4⟩]
            go_enter Try.func73, Try.ntmps73
            go_wp2_with fail
            all_goals go_ret3
            all_goals exact ⟨rfl, rfl⟩
          · have b4 : decide (g' < f) = false := decide_eq_false e4
            rw [if_neg (fun h => e4 h.2)]
            by_cases e6 : g' = 1
            · have b6 : (g' == 1) = true := by simp [e6]
              by_cases e5 : h' < f
              · have b5 : decide (h' < f) = true := decide_eq_true e5
                rw [if_pos ⟨e6, e5⟩]
                go_enter Try.func73, Try.ntmps73
                go_wp2_with fail
                all_goals go_ret3
                all_goals exact ⟨rfl, rfl⟩
              · have b5 : decide (h' < f) = false := decide_eq_false e5
                rw [if_neg (fun h => e5 h.2)]
                go_enter Try.func73, Try.ntmps73
                go_wp2_with fail
                all_goals go_ret3
                all_goals exact ⟨rfl, rfl⟩
            · have b6 : (g' == 1) = false := by simp [e6]
              rw [if_neg (fun h => e6 h.1)]
              go_enter Try.func73, Try.ntmps73
              go_wp2_with fail
              all_goals go_ret3
              all_goals exact ⟨rfl, rfl⟩
        · have b3 : (h' == 0) = false := by simp [e3]
          rw [if_neg (fun h => e3 h.1)]
          by_cases e6 : g' = 1
          · have b6 : (g' == 1) = true := by simp [e6]
            by_cases e5 : h' < f
            · have b5 : decide (h' < f) = true := decide_eq_true e5
              rw [if_pos ⟨e6, e5⟩]
              go_enter Try.func73, Try.ntmps73
              go_wp2_with fail
              all_goals go_ret3
              all_goals exact ⟨rfl, rfl⟩
            · have b5 : decide (h' < f) = false := decide_eq_false e5
              rw [if_neg (fun h => e5 h.2)]
              go_enter Try.func73, Try.ntmps73
              go_wp2_with fail
              all_goals go_ret3
              all_goals exact ⟨rfl, rfl⟩
          · have b6 : (g' == 1) = false := by simp [e6]
            rw [if_neg (fun h => e6 h.1)]
            go_enter Try.func73, Try.ntmps73
            go_wp2_with fail
            all_goals go_ret3
            all_goals exact ⟨rfl, rfl⟩
  exact key _ _ rfl rfl
end Go.Proofs.Ytnkkmppmfjekeaa.ItE
