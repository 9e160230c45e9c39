/- Families of sets of numbers: Rows, Cols, may, Has, Add, by contract. -/
import Derived.Test.YtmeiigcjfjapfaaDoorSetA
import Derived.StillTailTactics
namespace Go.Proofs.YtmeiigcjfjapfaaDoor.SetB
open Go.RowKit Go.Lib Go.Proofs Go.Proofs.YtmeiigcjfjapfaaDoor.SetPop Go.Proofs.YtmeiigcjfjapfaaDoor.SetA
set_option linter.unusedVariables false
set_option linter.unusedSimpArgs false
theorem ret_bool {a b : Bool} (h : a = b) : Ending.returned (.bool a) = .returned (.bool b) := by rw [h]
set_option maxRecDepth 100000 in
theorem rows (B R n c : Nat) (M : List Nat) (w : World) (h : Fam w B R n c M) : Calls Tryd.prog 20 #[.pointer (some ⟨B, 0, none⟩)] w fun e w' => e = .returned (.int .i64 n) ∧ w = w' := by
  obtain ⟨cp, h0, _⟩ := h.b0
  have h5 := h.n5
  clear h
  go_enter Tryd.func20, Tryd.ntmps20
  go_wp2
  go_ret
  exact ⟨rfl, rfl⟩
set_option maxRecDepth 100000 in
theorem cols (B R n c : Nat) (M : List Nat) (w : World) (h : Fam w B R n c M) : Calls Tryd.prog 21 #[.pointer (some ⟨B, 0, none⟩)] w fun e w' => e = .returned (.int .i64 c) ∧ w = w' := by
  obtain ⟨cp, _, h0⟩ := h.b0
  have h5 := h.c1
  clear h
  go_enter Tryd.func21, Tryd.ntmps21
  go_wp2
  go_ret
  exact ⟨rfl, rfl⟩
def mayB (n c : Nat) (r k : Int) : Bool := decide (0 ≤ r ∧ r < n ∧ 0 ≤ k ∧ k < c)
set_option maxRecDepth 100000 in
theorem may (B R n c : Nat) (M : List Nat) (r k : Int) (w : World) (h : Fam w B R n c M) : Calls Tryd.prog 26 #[.pointer (some ⟨B, 0, none⟩), .int .i64 r, .int .i64 k] w fun e w' => e = .returned (.bool (mayB n c r k)) ∧ w = w' := by
  have H1 := Lib.hid (rows B R n c M w h)
  have H2 := Lib.hid (cols B R n c M w h)
  clear h
  go_enter Tryd.func26, Tryd.ntmps26
  go_wp2_with (first | ((with_reducible refine H1.out.mono ?_); rintro e w' ⟨rfl, rfl⟩) | ((with_reducible refine H2.out.mono ?_); rintro e w' ⟨rfl, rfl⟩))
  all_goals
    go_ret
    refine ⟨ret_bool ?_, rfl⟩
    unfold mayB
    first | (symm; apply decide_eq_false; omega) | (apply decide_eq_decide.2; omega)
/-- The word where that number of that set is. -/
def word (M : List Nat) (r k : Nat) : Nat := M.getD (r * 16 + k / 64) 0
def bitAt (M : List Nat) (r k : Nat) : Bool := (word M r k).testBit (k % 64)
def hasB (n c : Nat) (M : List Nat) (r k : Int) : Bool := mayB n c r k && bitAt M r.toNat k.toNat
theorem and_bit (x j : Nat) : (((x &&& 2 ^ j : Nat) : Int) != 0) = x.testBit j := by
  cases h : x.testBit j with
  | true =>
    have : x &&& 2 ^ j ≠ 0 := fun e => by
      have h2 : (x &&& 2 ^ j).testBit j = true := by rw [Nat.testBit_and, h, Nat.testBit_two_pow_self]; rfl
      rw [e, Nat.zero_testBit] at h2
      cases h2
    simp only [bne_iff_ne, ne_eq]; omega
  | false =>
    have : x &&& 2 ^ j = 0 := by
      apply Nat.eq_of_testBit_eq
      intro i
      rw [Nat.testBit_and, Nat.zero_testBit, Nat.testBit_two_pow]
      by_cases e : j = i
      · subst e; rw [h]; rfl
      · simp [e]
    rw [this]; rfl
theorem word_small {w : World} {B R n c : Nat} {M : List Nat} (h : Fam w B R n c M) (r k : Nat) : word M r k < 18446744073709551616 := by
  unfold word
  rw [List.getD_eq_getElem?_getD]
  cases e : M[r * 16 + k / 64]? with
  | none => simp
  | some x => exact h.small x (List.mem_of_getElem? e)
theorem word_cell {w : World} {B R n c : Nat} {M : List Nat} (h : Fam w B R n c M) (r k : Nat) (hr : r < n) (hk : k < c) : w.cell? ⟨R, r * 16 + k / 64, none⟩ = some (.int .u64 (word M r k)) := by
  have h1 := h.c1
  have hl := h.len
  have : r * 16 + k / 64 < M.length := by omega
  rw [h.at_ _ this]
  unfold word
  rw [List.getD_eq_getElem?_getD, List.getElem?_eq_getElem this]; rfl
set_option maxRecDepth 100000 in
theorem has_yes (B R n c : Nat) (M : List Nat) (r k : Nat) (w : World) (h : Fam w B R n c M) (hr : r < n) (hk : k < c) : Calls Tryd.prog 9 #[.pointer (some ⟨B, 0, none⟩), .int .i64 r, .int .i64 k] w fun e w' => e = .returned (.bool (bitAt M r k)) ∧ ∃ q, w' = w.drewN q := by
  have hm : mayB n c r k = true := decide_eq_true (by omega)
  have H1 := fun w h => may B R n c M r k w h
  rw [hm] at H1
  have H2 := Lib.hid (fun w => bit_ k (by have := h.c1; omega) w)
  have HF : Hid (∀ q, Fam (w.drewN q) B R n c M) := Lib.hid (fun q => h.drewN q)
  have H1 := Lib.hid H1
  obtain ⟨cp, h0, _⟩ := h.b0
  have hw := word_cell h r k hr hk
  have hs := word_small h r k
  have h5 := h.n5
  have h6 := h.c1
  have hp := pow_lt (k % 64) (by omega)
  have hand := bits_and_u64_nat (word M r k) (2 ^ (k % 64)) hs hp
  have HB : Hid ((((word M r k &&& 2 ^ (k % 64) : Nat) : Int) != 0) = bitAt M r k) := Lib.hid (and_bit _ _)
  have hj16 : k / 64 < 16 := by omega
  have e1 : (k : Int) / 64 = ((k / 64 : Nat) : Int) := by omega
  generalize k / 64 = j at e1 hw hj16
  generalize word M r k = x at *
  generalize 2 ^ (k % 64) = p at *
  clear h hm hs
  go_enter Tryd.func9, Tryd.ntmps9
  go_wp2_with fail
  go_quiet ((first | (go_at_call 26; exact Calls.quiet_of_same ((H1.out _ (HF.out _)).mono fun e w' h => ⟨h.1, h.2.symm⟩)) | (go_at_call 27; exact Calls.quiet_of_same ((H2.out _).mono fun e w' h => ⟨h.1, h.2.symm⟩))))
  go_wp2_with fail
  go_ret
  exact ⟨ret_bool HB.out, _, rfl⟩
set_option maxRecDepth 100000 in
theorem has_no (B R n c : Nat) (M : List Nat) (r k : Int) (w : World) (h : Fam w B R n c M) (hm : mayB n c r k = false) : Calls Tryd.prog 9 #[.pointer (some ⟨B, 0, none⟩), .int .i64 r, .int .i64 k] w fun e w' => e = .returned (.bool false) ∧ ∃ q, w' = w.drewN q := by
  have H1 := fun w h => may B R n c M r k w h
  rw [hm] at H1
  have HF : Hid (∀ q, Fam (w.drewN q) B R n c M) := Lib.hid (fun q => h.drewN q)
  have HH := Lib.hid H1
  clear hm h H1
  go_enter Tryd.func9, Tryd.ntmps9
  go_wp2_with fail
  go_quiet ((first | (go_at_call 26; exact Calls.quiet_of_same ((HH.out _ (HF.out _)).mono fun e w' h => ⟨h.1, h.2.symm⟩))))
  go_wp2_with fail
  go_ret
  exact ⟨rfl, _, rfl⟩
theorem mayB_iff {n c : Nat} {r k : Int} : mayB n c r k = true ↔ 0 ≤ r ∧ r < n ∧ 0 ≤ k ∧ k < c := by unfold mayB; simp
theorem has_ (B R n c : Nat) (M : List Nat) (r k : Int) (w : World) (h : Fam w B R n c M) : Calls Tryd.prog 9 #[.pointer (some ⟨B, 0, none⟩), .int .i64 r, .int .i64 k] w fun e w' => e = .returned (.bool (hasB n c M r k)) ∧ ∃ q, w' = w.drewN q := by
  unfold hasB
  cases hm : mayB n c r k with
  | false => exact has_no B R n c M r k w h hm
  | true =>
    obtain ⟨a1, a2, a3, a4⟩ := mayB_iff.1 hm
    obtain ⟨r', rfl⟩ : ∃ q : Nat, r = q := ⟨r.toNat, by omega⟩
    obtain ⟨k', rfl⟩ : ∃ q : Nat, k = q := ⟨k.toNat, by omega⟩
    exact has_yes B R n c M r' k' w h (by omega) (by omega)
/-- The words behind an Add. -/
def addM (M : List Nat) (r k : Nat) : List Nat := M.set (r * 16 + k / 64) (word M r k ||| 2 ^ (k % 64))
def AddYes (B R n c : Nat) (M : List Nat) (w : World) (e : Ending) (w' : World) : Prop := e = .returned (.bool true) ∧ Fam w' B R n c M ∧ w.grownBy w' (some R)
theorem fam_add {w : World} {B R n c : Nat} {M : List Nat} (h : Fam w B R n c M) (i x : Nat) (hi : i < M.length) (hx : x < 18446744073709551616) : Fam (w.setCell ⟨R, i, none⟩ (.int .u64 x)) B R n c (M.set i x) := by
  obtain ⟨cp, hfb⟩ := h.fb
  obtain ⟨Z, hb⟩ := h.rb
  refine ⟨⟨cp, ?_⟩, ⟨Z, ?_⟩, ?_, ?_, h.n5, h.c1, h.ne⟩
  · rw [Below.heap_setCell _ _ _ _ (Ne.symm h.ne)]; exact hfb
  · show (w.heap.modify R _)[R]? = _
    rw [Array.getElem?_modify, if_pos rfl, hb]
    simp only [Option.map_some, Option.some.injEq]
    show Obj.cells ((encM M ++ Z).setIfInBounds i (.int .u64 x)) _ _ = _
    congr 1
    have e : encM (M.set i x) = (encM M).setIfInBounds i (.int .u64 x) := by
      unfold encM
      simp [List.map_set]
    rw [e]
    exact Array.setIfInBounds_append_left (by rw [encM_size]; exact hi)
  · simp [h.len]
  · intro y hy
    rcases List.mem_or_eq_of_mem_set hy with hy | rfl
    · exact h.small y hy
    · exact hx
theorem grew_set (w : World) (a : Addr) (v : Value) : w.grownBy (w.setCell a v) (some a.block) := ⟨rfl, rfl, rfl, by simp [World.setCell], fun k hk hne => Below.heap_setCell _ _ _ _ (fun e => hne (by rw [e]))⟩
theorem Fam.free {w : World} {B R n c : Nat} {M : List Nat} (h : Fam w B R n c M) (i : Nat) : w.frozen? ⟨R, i, none⟩ = false := by
  obtain ⟨Z, hb⟩ := h.rb
  unfold World.frozen?
  rw [hb]
  rfl
theorem still_tail {P : Program} {id : Nat} {Q : Exit → Act → World → Prop} {a : Act} {w : World} {l : List Oper} (n : Nat) (hm : P.follows .mixedOrders = true) (hB : Region.lexTailB .any l.toArray n = true)
    (h : wpStill P l.toArray w.drew (fun a' => wpList P l.toArray Q (l.drop n) a' w.drew) (l.take n) a) : (Code.region id l.toArray true).wp P Q a w := wp_region_still_tail n hm hB h
set_option maxRecDepth 100000 in
theorem add_yes (B R n c : Nat) (M : List Nat) (r k : Nat) (w : World) (h : Fam w B R n c M) (hr : r < n) (hk : k < c) (hb : bitAt M r k = false) : Calls Tryd.prog 7 #[.pointer (some ⟨B, 0, none⟩), .int .i64 r, .int .i64 k] w (AddYes B R n c (addM M r k) w) := by
  have hm : mayB n c r k = true := decide_eq_true (by omega)
  have H1 := may B R n c M r k w h
  rw [hm] at H1
  have H3 := has_ B R n c M r k w h
  unfold hasB at H3
  rw [hm, Int.toNat_natCast, Int.toNat_natCast, hb] at H3
  simp only [Bool.true_and] at H3
  have H2 := Lib.hid (fun w => bit_ k (by have := h.c1; omega) w)
  have hw := word_cell h r k hr hk
  have hs := word_small h r k
  have hfree := Fam.free h (r * 16 + k / 64)
  have h5 := h.n5
  have h6 := h.c1
  have hp := pow_lt (k % 64) (by omega)
  have hand := bits_or_u64_nat (word M r k) (2 ^ (k % 64)) hs hp
  have hlt : word M r k ||| 2 ^ (k % 64) < 18446744073709551616 := by
    have := Nat.or_lt_two_pow (n := 64) (x := word M r k) (y := 2 ^ (k % 64)) (by omega) (by omega)
    omega
  have hilt : r * 16 + k / 64 < M.length := by have := h.len; have := h.c1; omega
  have HFin : Hid (∀ q, Fam ((w.drewN q).setCell ⟨R, r * 16 + k / 64, none⟩ (.int .u64 ((word M r k ||| 2 ^ (k % 64) : Nat) : Int))) B R n c (addM M r k)) := Lib.hid (fun q => fam_add (h.drewN q) _ _ hilt hlt)
  obtain ⟨cp, h0, _⟩ := h.b0
  generalize word M r k = x at *
  have hj16 : k / 64 < 16 := by omega
  have e1 : (k : Int) / 64 = ((k / 64 : Nat) : Int) := by omega
  generalize k / 64 = j at e1 hw hj16 HFin hfree
  have ew : IntKind.i64.wrap (j : Int) = j := by rw [IntKind.wrap_i64]; omega
  have p0 : (0 : Int) ≤ j := by omega
  have p1 : (j : Int) < 16 := by omega
  generalize 2 ^ (k % 64) = p at *
  generalize x ||| p = y at *
  generalize addM M r k = M' at *
  have HL := h.lt
  have HH1 := Lib.hid H1
  have HH3 := Lib.hid H3
  clear h hm hs hb H1 H3 hilt
  go_enter Tryd.func7, Tryd.ntmps7
  go_wp2_with (first | ((with_reducible refine HH1.out.mono ?_); rintro e w' ⟨rfl, rfl⟩) | ((with_reducible refine HH3.out.mono ?_); rintro e w' ⟨rfl, q, rfl⟩))
  refine still_tail 15 (by kernel_rfl) (by kernel_rfl) ?_
  simp only [List.take_succ_cons, List.take_zero, List.drop_succ_cons, List.drop_zero]
  repeat still_step
  still_call ((H2.out _).mono fun e w' h => ⟨h.1, h.2.symm⟩)
  repeat still_step
  refine wpStill_nil ?_
  go_wp2
  go_ret
  have g := grew_set (w.drewN (q + 1)) ⟨R, r * 16 + j, none⟩ (.int .u64 y)
  exact ⟨rfl, HFin.out (q + 1), g.os, g.tape, g.output, g.size, g.block⟩
theorem grew_drewN (w : World) (q : Nat) (row : Option Nat) : w.grownBy (w.drewN q) row := ⟨rfl, rfl, rfl, Nat.le_refl _, fun _ _ _ => rfl⟩
def addB (n c : Nat) (M : List Nat) (r k : Int) : Bool := mayB n c r k && !bitAt M r.toNat k.toNat
def addN (n c : Nat) (M : List Nat) (r k : Int) : List Nat := if addB n c M r k then addM M r.toNat k.toNat else M
def AddPost (B R n c : Nat) (M : List Nat) (r k : Int) (w : World) (e : Ending) (w' : World) : Prop := e = .returned (.bool (addB n c M r k)) ∧ Fam w' B R n c (addN n c M r k) ∧ w.grownBy w' (some R)
set_option maxRecDepth 100000 in
theorem add_no (B R n c : Nat) (M : List Nat) (r k : Int) (w : World) (h : Fam w B R n c M) (hb : addB n c M r k = false) : Calls Tryd.prog 7 #[.pointer (some ⟨B, 0, none⟩), .int .i64 r, .int .i64 k] w (AddPost B R n c M r k w) := by
  have e1 : addN n c M r k = M := by unfold addN; rw [hb]; rfl
  unfold AddPost
  rw [e1, hb]
  have HF : Hid (∀ q, Fam (w.drewN q) B R n c M ∧ w.grownBy (w.drewN q) (some R)) := Lib.hid (fun q => ⟨h.drewN q, grew_drewN _ _ _⟩)
  have H1 := Lib.hid (may B R n c M r k w h)
  have H2 := has_ B R n c M r k w h
  unfold hasB at H2
  unfold addB at hb
  clear e1 h
  cases hm : mayB n c r k with
  | false =>
    rw [hm] at H1
    clear H2 hb hm
    go_enter Tryd.func7, Tryd.ntmps7
    go_wp2_with ((with_reducible refine H1.out.mono ?_); rintro e w' ⟨rfl, rfl⟩)
    go_ret
    exact ⟨rfl, HF.out 0⟩
  | true =>
    rw [hm] at H1 H2 hb
    have hbit : bitAt M r.toNat k.toNat = true := by simpa using hb
    rw [hbit] at H2
    have HH2 := Lib.hid H2
    clear hb hm hbit H2
    go_enter Tryd.func7, Tryd.ntmps7
    go_wp2_with (first | ((with_reducible refine H1.out.mono ?_); rintro e w' ⟨rfl, rfl⟩) | ((with_reducible refine HH2.out.mono ?_); rintro e w' ⟨rfl, q, rfl⟩))
    go_ret
    exact ⟨rfl, HF.out q⟩
theorem add_ (B R n c : Nat) (M : List Nat) (r k : Int) (w : World) (h : Fam w B R n c M) : Calls Tryd.prog 7 #[.pointer (some ⟨B, 0, none⟩), .int .i64 r, .int .i64 k] w (AddPost B R n c M r k w) := by
  cases hb : addB n c M r k with
  | false => exact add_no B R n c M r k w h hb
  | true =>
    have hb' := hb
    unfold addB at hb
    rw [Bool.and_eq_true] at hb
    obtain ⟨hm, hbit⟩ := hb
    obtain ⟨a1, a2, a3, a4⟩ := mayB_iff.1 hm
    obtain ⟨r', rfl⟩ : ∃ q : Nat, r = q := ⟨r.toNat, by omega⟩
    obtain ⟨k', rfl⟩ : ∃ q : Nat, k = q := ⟨k.toNat, by omega⟩
    unfold AddPost addN
    rw [hb', if_pos rfl, Int.toNat_natCast, Int.toNat_natCast]
    exact add_yes B R n c M r' k' w h (by omega) (by omega) (by simpa using hbit)
end Go.Proofs.YtmeiigcjfjapfaaDoor.SetB
