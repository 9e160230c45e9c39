/- How diagrams stand by their variables, and rows of them in that order, by contract. -/
import Derived.Test.YtnkkmppmfjekeaaItB
import Derived.Test.YtnkkmppmfjekeaaGrown
import Derived.Test.YtnkkmppmfjekeaaShelf
import Derived.Deep.RegionHeld3
import Derived.Shelf.SlSortCmp.Kit1
import Derived.Sort.LotA
namespace Go.Proofs.Ytnkkmppmfjekeaa.ItC
open Go.Shelf Go.RowKit Go.Sort Go.Lib Go.Proofs Go.Proofs.Ytnkkmppmfjekeaa.Grown Go.Proofs.Ytnkkmppmfjekeaa.NdA Go.Proofs.Ytnkkmppmfjekeaa.NdB Go.Proofs.Ytnkkmppmfjekeaa.NdC Go.Proofs.Ytnkkmppmfjekeaa.NdG Go.Proofs.Ytnkkmppmfjekeaa.ItA Go.Proofs.Ytnkkmppmfjekeaa.ItB
set_option linter.unusedVariables false
set_option linter.unusedSimpArgs false
section
variable {B R : Nat} {v : Value} {m : Nat} {Q : Nat → Nat} {s : St} {c : Nat} {w : World}
set_option maxRecDepth 100000 in
theorem get_noG (n : Int) (hn : -9223372036854775808 ≤ n) (hn2 : n ≤ 9223372036854775807) (H : Tb w B R v m Q s c) (hno : nodeB s n = false) : Calls Try.prog 80 #[.pointer (some ⟨B, 0, none⟩), .int .i64 n] w fun e w' => e = .returned (.tuple #[.agg #[.int .i64 0, .int .i64 0, .int .i64 0], .bool false]) ∧ Grew w w' := by
  have hb := (Below.refl w.heap.size w).alloc (Nat.le_refl _) (.cells #[.int .i64 0, .int .i64 0, .int .i64 0] 89)
  have HI := Lib.hid (is_ n hn hn2 (H.below hb))
  have HB := Lib.hid ((Grew.refl w).alloc (.cells #[.int .i64 0, .int .i64 0, .int .i64 0] 89))
  have hl := fun o => Lib.cell_of_heap (heap_alloc_new w (.cells #[.int .i64 0, .int .i64 0, .int .i64 0] 89)) o
  clear H hb
  by_cases h2 : n < 2
  · have d0 : decide (n < 2) = true := decide_eq_true h2
    clear hno
    go_enter Try.func80, Try.ntmps80
    go_wp2_with ((with_reducible refine HI.out.mono ?_); rintro e w' ⟨rfl, rfl⟩)
    refine bodyPost_ret (v := .tuple #[.agg #[.int .i64 0, .int .i64 0, .int .i64 0], .bool false]) (by simp [results, Try.results80, go_sem, hl]) rfl ⟨rfl, HB.out⟩
  · have d0 : decide (n < 2) = false := decide_eq_false h2
    rw [nodeB_no hno h2] at HI
    clear hno
    go_enter Try.func80, Try.ntmps80
    go_wp2_with ((with_reducible refine HI.out.mono ?_); rintro e w' ⟨rfl, rfl⟩)
    refine bodyPost_ret (v := .tuple #[.agg #[.int .i64 0, .int .i64 0, .int .i64 0], .bool false]) (by simp [results, Try.results80, go_sem, hl]) rfl ⟨rfl, HB.out⟩
set_option maxRecDepth 100000 in
theorem get_yesG (n : Int) (hn : -9223372036854775808 ≤ n) (hn2 : n ≤ 9223372036854775807) (H : Tb w B R v m Q s c) (hy : nodeB s n = true) : Calls Try.prog 80 #[.pointer (some ⟨B, 0, none⟩), .int .i64 n] w fun e w' => e = .returned (.tuple #[.agg #[.int .i64 (at_ s n).v, .int .i64 (at_ s n).lo, .int .i64 (at_ s n).hi], .bool true]) ∧ Grew w w' := by
  have hb := (Below.refl w.heap.size w).alloc (Nat.le_refl _) (.cells #[.int .i64 0, .int .i64 0, .int .i64 0] 89)
  have HI := Lib.hid (is_ n hn hn2 (H.below hb))
  rw [nodeB_yes hy] at HI
  obtain ⟨h1, h2⟩ := nodeB_iff.1 hy
  obtain ⟨i, hi⟩ : ∃ i : Nat, n - 2 = (i : Int) := ⟨(n - 2).toNat, by omega⟩
  have hil : i < s.L.length := by omega
  rw [at_get hi hil]
  obtain ⟨A, ca, rfl, hle, hmx, hc⟩ := H.nodes
  obtain ⟨g, rfl, hg, hcell⟩ := hc (by omega)
  obtain ⟨a0, a1, a2⟩ := hcell i hil
  have c3 := H.b0.2.2.2.1
  have hbl := H.bl
  have d0 : decide (n < 2) = false := decide_eq_false (by omega)
  have i1 : (i : Int) < s.L.length := by omega
  have i0 : (0 : Int) ≤ i := by omega
  have hlen := H.len
  clear hcell hc H hy h2
  generalize s.L[i].v = x at *
  generalize s.L[i].lo = y at *
  generalize s.L[i].hi = z at *
  generalize s.L.length = k at *
  have HB := Lib.hid (show ∀ o, Grew w (w.alloc o) from fun o => (Grew.refl w).alloc o)
  clear hb
  go_enter Try.func80, Try.ntmps80
  go_wp2_with ((with_reducible refine HI.out.mono ?_); rintro e w' ⟨rfl, rfl⟩)
  have hl := fun o => Lib.cell_of_heap (heap_alloc_new w (.cells #[.int .i64 x, .int .i64 y, .int .i64 z] 89)) o
  refine bodyPost_ret (v := .tuple #[.agg #[.int .i64 x, .int .i64 y, .int .i64 z], .bool true]) (by simp [results, Try.results80, go_sem, hl]) rfl ⟨rfl, HB.out _⟩
set_option maxRecDepth 100000 in
theorem var_G (n : Int) (hn : -9223372036854775808 ≤ n) (hn2 : n ≤ 9223372036854775807) (H : Tb w B R v m Q s c) : Calls Try.prog 76 #[.pointer (some ⟨B, 0, none⟩), .int .i64 n] w fun e w' => e = .returned (.int .i64 (varI s n)) ∧ Grew w w' := by
  unfold varI
  have HV := Lib.hid (show ∀ w', Below w.heap.size w w' → Calls Try.prog 69 #[.pointer (some ⟨B, 0, none⟩)] w' fun e w'' => e = .returned (.int .i64 s.vars) ∧ w' = w'' from fun w' hb => vars_ (H.below hb))
  cases hy : nodeB s n with
  | true =>
    have HG := Lib.hid (get_yesG n hn hn2 H hy)
    clear H hy
    rw [if_pos rfl]
    generalize at_ s n = x at *
    obtain ⟨x, y, z⟩ := x
    go_enter Try.func76, Try.ntmps76
    go_wp2_with fail
    refine HG.out.mono ?_
    rintro e w1 ⟨rfl, hb⟩
    have HB := Lib.hid (show ∀ o, Grew w (w1.alloc o) from fun o => hb.alloc o)
    clear hb
    go_wp2_with fail
    go_ret
    exact ⟨rfl, HB.out _⟩
  | false =>
    have HG := Lib.hid (get_noG n hn hn2 H hy)
    clear H hy
    rw [if_neg (by simp)]
    go_enter Try.func76, Try.ntmps76
    go_wp2_with fail
    refine HG.out.mono ?_
    rintro e w1 ⟨rfl, hb⟩
    have HB := Lib.hid (show ∀ o, Grew w (w1.alloc o) from fun o => hb.alloc o)
    clear hb
    go_wp2_with fail
    refine (HV.out _ (HB.out _).below).mono ?_
    rintro e w2 ⟨rfl, rfl⟩
    go_wp2_with fail
    go_ret
    exact ⟨rfl, HB.out _⟩
end
def orL : List Int → Int
  | [] => 0
  | x :: l => if x ≠ 0 then x else orL l
def cmpN (a b : Int) : Int := if a < b then -1 else if a > b then 1 else 0
theorem ret_int {k : IntKind} {a b : Int} (h : a = b) : Ending.returned (.int k a) = .returned (.int k b) := by rw [h]
set_option maxRecDepth 100000 in
theorem compareN (a b : Int) (w : World) : Calls Try.prog 87 #[.int .i64 a, .int .i64 b] w fun e w' => e = .returned (.int .i64 (cmpN a b)) ∧ w = w' := by
  have HN := Lib.hid (fun x w => Try.cmp_isNaN_int2 x w)
  by_cases h1 : a < b
  · have H : Hid (cmpN a b = -1) := Lib.hid (by unfold cmpN; rw [if_pos h1])
    have d1 : decide (a < b) = true := decide_eq_true h1
    clear h1
    go_enter Try.func87, Try.ntmps87
    go_wp2_with (refine (HN.out _ _).mono ?_; rintro e w' ⟨rfl, rfl⟩)
    go_ret
    exact ⟨ret_int H.out.symm, rfl⟩
  · have d1 : decide (a < b) = false := decide_eq_false h1
    by_cases h2 : b < a
    · have H : Hid (cmpN a b = 1) := Lib.hid (by unfold cmpN; rw [if_neg h1, if_pos h2])
      have d2 : decide (b < a) = true := decide_eq_true h2
      have d3 : decide (a > b) = true := d2
      clear h1 h2
      go_enter Try.func87, Try.ntmps87
      go_wp2_with (refine (HN.out _ _).mono ?_; rintro e w' ⟨rfl, rfl⟩)
      go_ret
      exact ⟨ret_int H.out.symm, rfl⟩
    · have H : Hid (cmpN a b = 0) := Lib.hid (by unfold cmpN; rw [if_neg h1, if_neg h2])
      have d2 : decide (b < a) = false := decide_eq_false h2
      have d3 : decide (a > b) = false := d2
      clear h1 h2
      go_enter Try.func87, Try.ntmps87
      go_wp2_with (refine (HN.out _ _).mono ?_; rintro e w' ⟨rfl, rfl⟩)
      go_ret
      exact ⟨ret_int H.out.symm, rfl⟩
/-- The first that isn't 0, of a row of numbers. -/
def IRow (w : World) (g : Nat) (l : List Int) : Prop := g < w.heap.size ∧ ∀ k, (h : k < l.length) → w.cell? ⟨g, k, none⟩ = some (.int .i64 l[k])
theorem orL_skip {l : List Int} {k : Nat} (h : k < l.length) (h0 : l[k] = 0) : orL (l.drop k) = orL (l.drop (k + 1)) := by
  rw [List.drop_eq_getElem_cons h]; simp [orL, h0]
theorem orL_stop {l : List Int} {k : Nat} (h : k < l.length) (h0 : l[k] ≠ 0) : orL (l.drop k) = l[k] := by
  rw [List.drop_eq_getElem_cons h]; simp [orL, h0]
set_option maxRecDepth 100000 in
theorem or_ (g cap : Nat) (l : List Int) (w : World) (hl : l.length ≤ 1000) (hr : IRow w g l) : Calls Try.prog 86 #[.slice (some ⟨g, 0, none⟩) l.length cap] w fun e w' => e = .returned (.int .i64 (orL l)) ∧ w = w' := by
  go_enter Try.func86, Try.ntmps86
  go_wp2
  go_loop [8] (fun i => ∃ k : Nat, k ≤ l.length ∧ i = .int .i64 k ∧ Hid (orL l = orL (l.drop k))) (fun i => l.length - (intOf i).toNat)
  case atStart => exact ⟨0, by omega, rfl, Lib.hid (by simp)⟩
  case round =>
    obtain ⟨k, hk, rfl, hrun⟩ := hrel
    by_cases hlt : k < l.length
    · have hc := hr.2 k hlt
      by_cases h0 : l[k] = 0
      · have hnext : Hid (orL l = orL (l.drop (k + 1))) := Lib.hid (by rw [hrun.out, orL_skip hlt h0])
        rw [h0] at hc
        clear hrun h0
        go_wp2_with fail
        go_round
        case rel => exact ⟨k + 1, by omega, by go_num, hnext⟩
        case measure => simp [intOf]; omega
      · have hfin : Hid (orL l = l[k]) := Lib.hid (by rw [hrun.out, orL_stop hlt h0])
        have h1 : (l[k] != 0) = true := by simpa using h0
        clear hrun h0
        go_wp2_with fail
        go_ret
        exact ⟨ret_int hfin.out.symm, rfl⟩
    · have hfin : Hid (orL l = 0) := Lib.hid (by rw [hrun.out, List.drop_of_length_le (by omega)]; rfl)
      clear hrun
      go_wp2_with fail
      go_ret
      exact ⟨ret_int hfin.out.symm, rfl⟩
theorem irow_new (w : World) (l : List Int) (t : TypeId) {n : Nat} (hn : n = w.heap.size) : IRow (w.alloc (.cells (l.map (Value.int .i64)).toArray t)).drew n l := by
  subst hn
  exact ⟨by simp, fun k hk => by
    have := Lib.cell_of_heap (heap_alloc_new w (.cells (l.map (Value.int .i64)).toArray t)) k
    show (w.alloc _).cell? _ = _
    rw [this]; simp [hk]⟩
theorem irow_new0 (w : World) (l : List Int) (t : TypeId) {n : Nat} (hn : n = w.heap.size) : IRow (w.alloc (.cells (l.map (Value.int .i64)).toArray t)) n l := by
  subst hn
  exact ⟨by simp, fun k hk => by
    rw [Lib.cell_of_heap (heap_alloc_new w (.cells (l.map (Value.int .i64)).toArray t)) k]; simp [hk]⟩
/-- How two diagrams stand: the greater variable first, then the lesser number. -/
def cmpV (s : St) (a b : Int) : Int := orL [cmpN (varI s b) (varI s a), cmpN a b]
def HeldW (w0 : World) (bx D B : Nat) (w' : World) : Prop := Grew w0 w' ∧ w'.cell? ⟨bx, 0, none⟩ = some (.pointer (some ⟨D, 0, none⟩)) ∧ w'.cell? ⟨D, 0, none⟩ = some (.pointer (some ⟨B, 0, none⟩))
set_option maxHeartbeats 2000000 in
set_option maxRecDepth 100000 in
theorem upw1 {B R : Nat} {v : Value} {m : Nat} {Q : Nat → Nat} {s : St} {c : Nat} {w : World} (bx D : Nat) (a b : Int) (a1 : -9223372036854775808 ≤ a) (a2 : a ≤ 9223372036854775807) (b1 : -9223372036854775808 ≤ b) (b2 : b ≤ 9223372036854775807)
    (hx : w.cell? ⟨bx, 0, none⟩ = some (.pointer (some ⟨D, 0, none⟩))) (hd : w.cell? ⟨D, 0, none⟩ = some (.pointer (some ⟨B, 0, none⟩))) (H : Tb w B R v m Q s c) :
    Calls Try.prog 85 #[.int .i64 a, .int .i64 b, .pointer (some ⟨bx, 0, none⟩)] w fun e w' => e = .returned (.int .i64 (cmpV s a b)) ∧ Grew w w' := by
  have HVa := Lib.hid (fun w' (h : Grew w w') => var_G a a1 a2 (H.below h.below))
  have HVb := Lib.hid (fun w' (h : Grew w w') => var_G b b1 b2 (H.below h.below))
  have hbx := World.block_lt_of_cell? _ _ hx
  have hbd := World.block_lt_of_cell? _ _ hd
  have hor : ∀ (w' : World) (n : Nat), n = w'.heap.size → Calls Try.prog 86 #[.slice (some ⟨n, 0, none⟩) 2 2] (w'.alloc (.cells #[.int .i64 (cmpN (varI s b) (varI s a)), .int .i64 (cmpN a b)] 3)) fun e w2 => e = .returned (.int .i64 (cmpV s a b)) ∧ w'.alloc (.cells #[.int .i64 (cmpN (varI s b) (varI s a)), .int .i64 (cmpN a b)] 3) = w2 := fun w' n hn =>
    or_ n 2 [cmpN (varI s b) (varI s a), cmpN a b] _ (by simp) (irow_new0 w' [cmpN (varI s b) (varI s a), cmpN a b] _ hn)
  have Hor := Lib.hid hor
  have HZ : Hid (∀ w', Grew w w' → Grew w w' ∧ w'.cell? ⟨bx, 0, none⟩ = some (.pointer (some ⟨D, 0, none⟩)) ∧ w'.cell? ⟨D, 0, none⟩ = some (.pointer (some ⟨B, 0, none⟩))) := Lib.hid (fun w' h => ⟨h, (h.cell hbx).trans hx, (h.cell hbd).trans hd⟩)
  clear hor H
  generalize cmpV s a b = res at *
  generalize varI s a = va at *
  generalize varI s b = vb at *
  go_enter Try.func85, Try.ntmps85
  go_wp2_with fail
  have hst := HZ.out _ (Grew.refl w).drew
  go_region_held3 (fun w' => Grew w w' ∧ w'.cell? ⟨bx, 0, none⟩ = some (.pointer (some ⟨D, 0, none⟩)) ∧ w'.cell? ⟨D, 0, none⟩ = some (.pointer (some ⟨B, 0, none⟩)))
    (first | with_reducible exact hst | with_reducible assumption | exact HZ.out _ (Grew.trans (by apply And.left; with_reducible assumption) (by with_reducible assumption)) | exact HZ.out _ (Grew.alloc (by apply And.left; with_reducible assumption) _) | exact HZ.out _ (Grew.drew (Grew.alloc (by apply And.left; with_reducible assumption) _)))
    (first | (go_at_call 87; ((with_reducible refine (compareN _ _ _).mono ?_); rintro e w' ⟨rfl, rfl⟩)) | (go_at_call 86; refine (Hor.out _ _ (by simp)).mono ?_; rintro e w' ⟨rfl, rfl⟩) | ((with_reducible refine (HVa.out _ (by apply And.left; with_reducible assumption)).mono ?_); rintro e w' ⟨rfl, hg⟩) | ((with_reducible refine (HVb.out _ (by apply And.left; with_reducible assumption)).mono ?_); rintro e w' ⟨rfl, hg⟩))
  rename_i hHeld
  have HG := Lib.hid hHeld.1
  clear hHeld
  go_wp2_with fail
  go_ret
  exact ⟨rfl, HG.out⟩
end Go.Proofs.Ytnkkmppmfjekeaa.ItC
