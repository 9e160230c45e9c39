/- The document's rows of truth: Row, All, Lit, Ite, Same, by contract. -/
import Derived.Test.YtnkkmppmfjekeaaItM
namespace Go.Proofs.Ytnkkmppmfjekeaa.ItN
open Go.RowKit Go.Lib Go.Proofs
set_option linter.unusedVariables false
set_option linter.unusedSimpArgs false
def rowC (n : Nat) (G : Nat → Bool) : Array Value := ((List.range n).map fun i => Value.bool (G i)).toArray
/-- A row of truth at the head of a block that is nothing else. -/
def RB (w : World) (g n : Nat) (G : Nat → Bool) : Prop := w.heap[g]? = some (.cells (rowC n G) 4 (0, 0))
theorem rowC_get {n : Nat} {G : Nat → Bool} {i : Nat} (h : i < n) : (rowC n G)[i]? = some (.bool (G i)) := by
  unfold rowC
  rw [List.getElem?_toArray, List.getElem?_map, List.getElem?_range h]
  rfl
theorem rowC_size (n : Nat) (G : Nat → Bool) : (rowC n G).size = n := by unfold rowC; simp
theorem rowC_congr {n : Nat} {F G : Nat → Bool} (h : ∀ i, i < n → F i = G i) : rowC n F = rowC n G := by
  unfold rowC
  congr 1
  exact List.map_congr_left (fun i hi => by rw [h i (List.mem_range.1 hi)])
section
variable {w w' : World} {g n : Nat} {F G : Nat → Bool}
theorem RB.lt (h : RB w g n G) : g < w.heap.size := (Array.getElem?_eq_some_iff.1 h).1
theorem RB.cell (h : RB w g n G) {i : Nat} (hi : i < n) : w.cell? ⟨g, i, none⟩ = some (.bool (G i)) := by
  rw [Lib.cell_of_heap h]
  exact rowC_get hi
theorem RB.free (h : RB w g n G) (o : Nat) : w.frozen? ⟨g, o, none⟩ = false := by
  unfold World.frozen?
  rw [h]
  rfl
theorem RB.keep (h : RB w g n G) (hk : w'.heap[g]? = w.heap[g]?) : RB w' g n G := hk.trans h
theorem RB.below (h : RB w g n G) (hb : Below w.heap.size w w') : RB w' g n G := h.keep (hb.block g h.lt)
theorem RB.congr (h : RB w g n F) (he : ∀ i, i < n → F i = G i) : RB w g n G := by
  unfold RB at *
  rw [← rowC_congr he]
  exact h
theorem RB.set (h : RB w g n G) {i : Nat} (hi : i < n) (b : Bool) : RB (w.setCell ⟨g, i, none⟩ (.bool b)) g n (fun j => if j = i then b else G j) := by
  have h2 := ItB.set1 (o := i) (.bool b) h
  unfold RB
  rw [h2]
  congr 2
  apply Array.ext_getElem?
  intro j
  rw [Array.set!_eq_setIfInBounds, Array.getElem?_setIfInBounds, rowC_size]
  by_cases hj : j < n
  · rw [rowC_get (G := fun j => if j = i then b else G j) hj]
    by_cases e : i = j
    · subst e
      rw [if_pos rfl, if_pos hi, if_pos rfl]
    · rw [if_neg e, if_neg (fun e2 : j = i => e e2.symm)]
      exact rowC_get hj
  · have e : ¬ i = j := by omega
    rw [if_neg e]
    rw [Array.getElem?_eq_none (by rw [rowC_size]; omega), Array.getElem?_eq_none (by rw [rowC_size]; omega)]
end
theorem infoBool : (Try.prog.info? 4).map (fun i => (i.zero, i.size, i.bytes)) = some (some (.bool false), 1, 1) := by kernel_rfl
theorem made_row (n : Nat) : madeCells #[Value.bool false] n = rowC n (fun _ => false) := by
  apply Array.ext_getElem?
  intro j
  by_cases hj : j < n
  · rw [rowC_get hj, Array.getElem?_eq_getElem (by rw [size_madeCells]; exact hj)]
    simp [madeCells]
    rw [Nat.mod_one]
    rfl
  · rw [Array.getElem?_eq_none (by rw [size_madeCells]; omega), Array.getElem?_eq_none (by rw [rowC_size]; omega)]
def FreshRow (n : Nat) (G : Nat → Bool) (w : World) (e : Ending) (w' : World) : Prop := ∃ g, e = .returned (.slice (some ⟨g, 0, none⟩) n n) ∧ RB w' g n G ∧ Below w.heap.size w w' ∧ w.heap.size ≤ g
theorem fresh_made (w : World) (n : Nat) : RB (w.alloc (.cells (rowC n (fun _ => false)) 4)) w.heap.size n (fun _ => false) ∧ Below w.heap.size w (w.alloc (.cells (rowC n (fun _ => false)) 4)) := ⟨heap_alloc_new w _, (Below.refl _ w).alloc (Nat.le_refl _) _⟩
theorem make_run : ∀ (w : World) (p : Nat), p ≤ 65536 → (Instr.makeSlice 33 (.int .i64 p) (.int .i64 p)).run Try.prog w = .ok (.slice (some ⟨w.heap.size, 0, none⟩) p p) (w.alloc (.cells (rowC p (fun _ => false)) 4)) := by
  intro w p hp
  obtain ⟨i0, hi, hz0, hz1, hz2⟩ := info_parts infoBool
  have mk := run_make (P := Try.prog) w 33 4 i0 _ Try.underlying33 hi hz0 .i64 .i64 p p (by omega) (by omega) (by rw [hz2]; omega) (by omega)
  rw [hz1] at mk
  simp only [Int.toNat_natCast, Nat.mul_one] at mk
  rw [← made_row]
  exact mk
set_option maxHeartbeats 1000000 in
set_option maxRecDepth 100000 in
theorem row_ (k : Nat) (hk : k ≤ 6) (w : World) : Calls Try.prog 63 #[.int .i64 k] w (FreshRow (2 ^ k) (fun _ => false) w) := by
  unfold FreshRow
  have HP := Lib.hid (fun j (hj : j ≤ k) => (Nat.pow_le_pow_right (by omega) (show j ≤ 6 by omega) : 2 ^ j ≤ 2 ^ 6))
  have hMk := make_run
  have HF := Lib.hid (fresh_made w (2 ^ k))
  obtain ⟨n, hn⟩ : ∃ n, 2 ^ k = n := ⟨_, rfl⟩
  have HN := Lib.hid hn
  rw [hn] at HF ⊢
  have hn64 : n ≤ 64 := by have := HP.out k (Nat.le_refl _); omega
  have hMn := hMk w n (by omega)
  have HMn := Lib.hid hn64
  clear hMk hn hn64
  go_enter Try.func63, Try.ntmps63
  go_wp2_with fail
  go_loop [3, 4] (fun p i => ∃ j q : Nat, j ≤ k ∧ i = .int .i64 j ∧ p = .int .i64 q ∧ Hid (q = 2 ^ j)) (fun _ i => k - (intOf i).toNat)
  case atStart => exact ⟨0, 1, by omega, rfl, rfl, Lib.hid rfl⟩
  case round =>
    obtain ⟨j, q, hj, rfl, rfl, hq⟩ := hrel
    have hq64 : q ≤ 64 := by have := HP.out j hj; rw [hq.out]; omega
    by_cases hlt : j < k
    · have e1 : decide (j < k) = true := decide_eq_true hlt
      have e1' : decide ((j : Int) < k) = true := by simp; omega
      have hw1 : IntKind.i64.wrap ((j : Int) + 1) = (j : Int) + 1 := by rw [IntKind.wrap_i64]; omega
      have hw2 : IntKind.i64.wrap ((q : Int) * 2) = (q : Int) * 2 := by rw [IntKind.wrap_i64]; omega
      have hnx : Hid (q * 2 = 2 ^ (j + 1)) := Lib.hid (by rw [hq.out, Nat.pow_succ])
      clear hq hMn
      go_wp2_with fail
      go_round
      case rel => exact ⟨j + 1, q * 2, by omega, by go_num, by go_num, Lib.hid hnx.out⟩
      case measure => simp [intOf]; omega
    · have e1 : decide (j < k) = false := decide_eq_false hlt
      have e1' : decide ((j : Int) < k) = false := by simp; omega
      have hjk : j = k := by omega
      have hqn : q = n := by rw [hq.out, hjk]; exact HN.out
      subst hqn
      clear hq hlt hjk hj HN HP
      go_wp2_with fail
      go_ret
      exact ⟨_, rfl, HF.out.1, HF.out.2, Nat.le_refl _⟩
theorem below_set {w0 w : World} {g o : Nat} {v : Value} (h : Below w0.heap.size w0 w) (hg : w0.heap.size ≤ g) : Below w0.heap.size w0 (w.setCell ⟨g, o, none⟩ v) := h.setCell (p := ⟨g, o, none⟩) hg v
set_option maxHeartbeats 2000000 in
set_option maxRecDepth 100000 in
theorem all_ (k : Nat) (hk : k ≤ 6) (so : Bool) (w : World) : Calls Try.prog 41 #[.int .i64 k, .bool so] w (FreshRow (2 ^ k) (fun _ => so) w) := by
  unfold FreshRow
  have hR := row_ k hk w
  unfold FreshRow at hR
  have HR := Lib.hid hR
  have hn64 : 2 ^ k ≤ 64 := Nat.pow_le_pow_right (n := 2) (by omega) (by omega)
  generalize 2 ^ k = n at *
  clear hR
  go_enter Try.func41, Try.ntmps41
  go_wp2_with fail
  refine HR.out.mono ?_
  rintro e w1 ⟨g, rfl, hB, hb, hg⟩
  have HB := Lib.hid hB
  have Hb := Lib.hid hb
  clear hB hb HR
  go_wp2_with fail
  go_loopw [11] (fun i wr => ∃ j : Nat, j ≤ n ∧ i = .int .i64 j ∧ Hid (RB wr g n (fun q => decide (q < j) && so)) ∧ Hid (Below w.heap.size w wr)) (fun i _ => n - (intOf i).toNat)
  case atStart => exact ⟨0, by omega, rfl, Lib.hid (HB.out.congr (fun i hi => by simp)), Hb⟩
  case round =>
    obtain ⟨j, hj, rfl, hRB, hbw⟩ := hrel
    by_cases hlt : j < n
    · have e1 : decide (j < n) = true := decide_eq_true hlt
      have e1' : decide ((j : Int) < n) = true := by simp; omega
      have hw1 : IntKind.i64.wrap ((j : Int) + 1) = (j : Int) + 1 := by rw [IntKind.wrap_i64]; omega
      have q0 : (0 : Int) ≤ j := by omega
      have q1 : (j : Int) < n := by omega
      have c0 := hRB.out.cell hlt
      have f0 := hRB.out.free j
      have HNX := Lib.hid ((hRB.out.set hlt so).congr (G := fun q => decide (q < j + 1) && so) (fun i hi => by
        by_cases e : i = j
        · subst e; simp
        · rw [if_neg e]
          have : decide (i < j) = decide (i < j + 1) := by simp; omega
          rw [this]))
      have HNB := Lib.hid (below_set (o := j) (v := .bool so) hbw.out hg)
      clear hRB hbw HB Hb
      go_wp2_with fail
      go_roundw
      case rel => exact ⟨j + 1, by omega, by go_num, Lib.hid HNX.out, Lib.hid HNB.out⟩
      case measure => simp [intOf]; omega
    · have e1 : decide (j < n) = false := decide_eq_false hlt
      have e1' : decide ((j : Int) < n) = false := by simp; omega
      have HE := Lib.hid (hRB.out.congr (G := fun _ => so) (fun i hi => by simp; omega))
      clear hRB HB Hb hlt
      go_wp2_with fail
      go_ret
      exact ⟨_, rfl, HE.out, hbw.out, hg⟩
def litB (k v q : Nat) : Bool := decide (v < k) && q.testBit v
theorem quo_bit (q v : Nat) : ((((q : Int).tdiv ((2 ^ v : Nat) : Int)).tmod 2 == 1) : Bool) = q.testBit v := by
  rw [← Int.ofNat_tdiv, show (2 : Int) = ((2 : Nat) : Int) from rfl, ← Int.ofNat_tmod, Nat.testBit_eq_decide_div_mod_eq]
  by_cases h : q / 2 ^ v % 2 = 1
  · rw [h]; rfl
  · have h2 : q / 2 ^ v % 2 = 0 := by omega
    rw [h2]; rfl
set_option maxHeartbeats 2000000 in
set_option maxRecDepth 100000 in
theorem ite_ (n : Nat) (hn : n ≤ 64) (gf gg gh cf cg ch : Nat) (F G H : Nat → Bool) (w : World) (hF : RB w gf n F) (hG : RB w gg n G) (hH : RB w gh n H) : Calls Try.prog 15 #[.slice (some ⟨gf, 0, none⟩) n cf, .slice (some ⟨gg, 0, none⟩) n cg, .slice (some ⟨gh, 0, none⟩) n ch] w (FreshRow n (fun q => if F q then G q else H q) w) := by
  unfold FreshRow
  have hMn := make_run w n (by omega)
  have hFr := fresh_made w n
  have HFr := Lib.hid hFr
  have HI := Lib.hid (fun wr (hb : Below w.heap.size w wr) => And.intro (hF.below hb) (And.intro (hG.below hb) (hH.below hb)))
  have lF := hF.lt
  have lG := hG.lt
  have lH := hH.lt
  clear hF hG hH hFr
  go_enter Try.func15, Try.ntmps15
  go_wp2_with fail
  go_loopw [14] (fun i wr => ∃ j : Nat, j ≤ n ∧ i = .int .i64 j ∧ Hid (RB wr w.heap.size n (fun q => decide (q < j) && if F q then G q else H q)) ∧ Hid (Below w.heap.size w wr)) (fun i _ => n - (intOf i).toNat)
  case atStart => exact ⟨0, by omega, rfl, Lib.hid (HFr.out.1.congr (fun i hi => by simp)), Lib.hid HFr.out.2⟩
  case round =>
    obtain ⟨j, hj, rfl, hRB, hbw⟩ := hrel
    by_cases hlt : j < n
    · have e1 : decide (j < n) = true := decide_eq_true hlt
      have e1' : decide ((j : Int) < n) = true := by simp; omega
      have hw1 : IntKind.i64.wrap ((j : Int) + 1) = (j : Int) + 1 := by rw [IntKind.wrap_i64]; omega
      have q0 : (0 : Int) ≤ j := by omega
      have q1 : (j : Int) < n := by omega
      have c0 := hRB.out.cell hlt
      have f0 := hRB.out.free j
      obtain ⟨rF, rG, rH⟩ := HI.out wr hbw.out
      have cF := rF.cell hlt
      have cG := rG.cell hlt
      have cH := rH.cell hlt
      have hb1 := below_set (o := j) (v := .bool (H j)) hbw.out (Nat.le_refl _)
      have hr1 := hRB.out.set hlt (H j)
      have c1 := hr1.cell hlt
      have f1 := hr1.free j
      obtain ⟨rF1, rG1, rH1⟩ := HI.out _ hb1
      have cF1 := rF1.cell hlt
      have cG1 := rG1.cell hlt
      have HN1 := Lib.hid (And.intro hr1 hb1)
      have HN2 := Lib.hid (And.intro (hr1.set hlt (G j)) (below_set (o := j) (v := .bool (G j)) hb1 (Nat.le_refl _)))
      have hcg : Hid (∀ i, i < n → (if i = j then (if F j then G j else H j) else (decide (i < j) && if F i then G i else H i)) = (decide (i < j + 1) && if F i then G i else H i)) := Lib.hid (fun i hi => by
        by_cases e : i = j
        · subst e; simp
        · rw [if_neg e]
          have : decide (i < j) = decide (i < j + 1) := by simp; omega
          rw [this])
      clear hRB hbw HI HFr rF rG rH rF1 rG1 rH1 hr1 hb1 hMn
      cases hf : F j with
      | false =>
        rw [hf] at cF cF1
        have HE := Lib.hid (HN1.out.1.congr (G := fun q => decide (q < j + 1) && if F q then G q else H q) (fun i hi => by
          rw [← hcg.out i hi, hf]
          by_cases e : i = j
          · rw [if_pos e, if_pos e]; rfl
          · rw [if_neg e, if_neg e]))
        have HEb := Lib.hid HN1.out.2
        clear hcg HN1 HN2
        go_wp2_with fail
        go_roundw
        case rel => exact ⟨j + 1, by omega, by go_num, Lib.hid HE.out, Lib.hid HEb.out⟩
        case measure => simp [intOf]; omega
      | true =>
        rw [hf] at cF cF1
        have HE := Lib.hid (HN2.out.1.congr (G := fun q => decide (q < j + 1) && if F q then G q else H q) (fun i hi => by
          rw [← hcg.out i hi, hf]
          by_cases e : i = j
          · rw [if_pos e, if_pos e]; rfl
          · rw [if_neg e, if_neg e, if_neg e]))
        have HEb := Lib.hid HN2.out.2
        clear hcg HN1 HN2
        go_wp2_with fail
        go_roundw
        case rel => exact ⟨j + 1, by omega, by go_num, Lib.hid HE.out, Lib.hid HEb.out⟩
        case measure => simp [intOf]; omega
    · have e1 : decide (j < n) = false := decide_eq_false hlt
      have e1' : decide ((j : Int) < n) = false := by simp; omega
      have HE := Lib.hid (hRB.out.congr (G := fun q => if F q then G q else H q) (fun i hi => by
        have : decide (i < j) = true := by simp; omega
        rw [this]; rfl))
      clear hRB HI HFr hlt hMn
      go_wp2_with fail
      go_ret
      exact ⟨_, rfl, HE.out, hbw.out, Nat.le_refl _⟩
def sameR (n : Nat) (F G : Nat → Bool) : Bool := (List.range n).all fun q => F q == G q
theorem sameR_iff {n : Nat} {F G : Nat → Bool} : sameR n F G = true ↔ ∀ q, q < n → F q = G q := by
  unfold sameR
  simp
set_option maxHeartbeats 2000000 in
set_option maxRecDepth 100000 in
theorem lit_ (k v : Nat) (hk : k ≤ 6) (hv : v < 8) (w : World) : Calls Try.prog 42 #[.int .i64 k, .int .i64 v] w (FreshRow (2 ^ k) (litB k v) w) := by
  unfold FreshRow
  have hR := row_ k hk w
  unfold FreshRow at hR
  have HR := Lib.hid hR
  have hn64 : 2 ^ k ≤ 64 := Nat.pow_le_pow_right (n := 2) (by omega) (by omega)
  have HP := Lib.hid (fun j (hj : j ≤ v) => (Nat.pow_le_pow_right (by omega) (show j ≤ 7 by omega) : 2 ^ j ≤ 2 ^ 7))
  generalize 2 ^ k = n at *
  clear hR
  go_enter Try.func42, Try.ntmps42
  go_wp2_with fail
  refine HR.out.mono ?_
  rintro e w1 ⟨g, rfl, hB, hb, hg⟩
  have HB := Lib.hid hB
  have Hb := Lib.hid hb
  clear hB hb HR
  go_wp2_with fail
  go_loop [6, 7] (fun p i => ∃ j q : Nat, j ≤ v ∧ i = .int .i64 j ∧ p = .int .i64 q ∧ Hid (q = 2 ^ j)) (fun _ i => v - (intOf i).toNat)
  case atStart => exact ⟨0, 1, by omega, rfl, rfl, Lib.hid rfl⟩
  case round =>
    obtain ⟨j, q, hj, rfl, rfl, hq⟩ := hrel
    have hq64 : q ≤ 128 := by have := HP.out j hj; rw [hq.out]; omega
    by_cases hlt : j < v
    · have e1 : decide (j < v) = true := decide_eq_true hlt
      have e1' : decide ((j : Int) < v) = true := by simp; omega
      have hw1 : IntKind.i64.wrap ((j : Int) + 1) = (j : Int) + 1 := by rw [IntKind.wrap_i64]; omega
      have hw2 : IntKind.i64.wrap ((q : Int) * 2) = (q : Int) * 2 := by rw [IntKind.wrap_i64]; omega
      have hnx : Hid (q * 2 = 2 ^ (j + 1)) := Lib.hid (by rw [hq.out, Nat.pow_succ])
      clear hq
      go_wp2_with fail
      go_round
      case rel => exact ⟨j + 1, q * 2, by omega, by go_num, by go_num, Lib.hid hnx.out⟩
      case measure => simp [intOf]; omega
    · have e1 : decide (j < v) = false := decide_eq_false hlt
      have e1' : decide ((j : Int) < v) = false := by simp; omega
      have hjk : j = v := by omega
      have HQ : Hid (q = 2 ^ v) := Lib.hid (by rw [hq.out, hjk])
      have hq1 : Hid (1 ≤ q) := Lib.hid (by rw [hq.out]; exact Nat.one_le_two_pow)
      clear hq hlt hjk hj HP
      go_wp2_with fail
      go_loopw [20] (fun i wr => ∃ j : Nat, j ≤ n ∧ i = .int .i64 j ∧ Hid (RB wr g n (fun y => decide (y < j) && litB k v y)) ∧ Hid (Below w.heap.size w wr)) (fun i _ => n - (intOf i).toNat)
      case atStart => exact ⟨0, by omega, rfl, Lib.hid (HB.out.congr (fun i hi => by simp)), Hb⟩
      case round =>
        obtain ⟨j, hj, rfl, hRB, hbw⟩ := hrel
        by_cases hlt : j < n
        · have e1 : decide (j < n) = true := decide_eq_true hlt
          have e1' : decide ((j : Int) < n) = true := by simp; omega
          have hw1 : IntKind.i64.wrap ((j : Int) + 1) = (j : Int) + 1 := by rw [IntKind.wrap_i64]; omega
          have q0 : (0 : Int) ≤ j := by omega
          have q1 : (j : Int) < n := by omega
          have c0 := hRB.out.cell hlt
          have f0 := hRB.out.free j
          have HNX := Lib.hid ((hRB.out.set hlt (litB k v j)).congr (G := fun y => decide (y < j + 1) && litB k v y) (fun i hi => by
            by_cases e : i = j
            · subst e; simp
            · rw [if_neg e]
              have : decide (i < j) = decide (i < j + 1) := by simp; omega
              rw [this]))
          have HNB := Lib.hid (below_set (o := j) (v := .bool (litB k v j)) hbw.out hg)
          have HLB : Hid (v < k → litB k v j = ((wrap64 ((j : Int) / (q : Int))).tmod 2 == 1)) := Lib.hid (fun h => by
            unfold litB
            rw [decide_eq_true h, ← quo_bit, ← HQ.out, Bool.true_and, ← Int.ofNat_tdiv, ← Int.natCast_ediv]
            have : j / q ≤ j := Nat.div_le_self _ _
            generalize j / q = z at *
            congr 2
            unfold wrap64
            omega)
          have hq1' := hq1.out
          have g0 : decide ((v : Int) ≥ 0) = true := by simp
          have g0' : decide ((0 : Int) ≤ v) = true := by simp
          clear hRB hbw HB Hb hq1
          by_cases hvk : v < k
          · have e3 : decide (v < k) = true := decide_eq_true hvk
            have e3' : decide ((v : Int) < k) = true := by simp; omega
            rw [HLB.out hvk] at HNX HNB
            go_wp2_with fail
            go_roundw
            case rel => exact ⟨j + 1, by omega, by go_num, Lib.hid HNX.out, Lib.hid HNB.out⟩
            case measure => simp [intOf]; omega
          · have e3 : decide (v < k) = false := decide_eq_false hvk
            have e3' : decide ((v : Int) < k) = false := by simp; omega
            have e4 : litB k v j = false := by unfold litB; rw [e3]; rfl
            rw [e4] at HNX HNB
            go_wp2_with fail
            go_roundw
            case rel => exact ⟨j + 1, by omega, by go_num, Lib.hid HNX.out, Lib.hid HNB.out⟩
            case measure => simp [intOf]; omega
        · have e1 : decide (j < n) = false := decide_eq_false hlt
          have e1' : decide ((j : Int) < n) = false := by simp; omega
          have HE := Lib.hid (hRB.out.congr (G := litB k v) (fun i hi => by
            have : decide (i < j) = true := by simp; omega
            rw [this]; rfl))
          clear hRB HB Hb hlt
          go_wp2_with fail
          go_ret
          exact ⟨_, rfl, HE.out, hbw.out, hg⟩
end Go.Proofs.Ytnkkmppmfjekeaa.ItN
