/- Families of sets of numbers: Total, inside, Inside, Meets, by contract. -/
import Derived.Test.YtmeiigcjfjapfaaDoorSetC
namespace Go.Proofs.YtmeiigcjfjapfaaDoor.SetD
open Go.RowKit Go.Lib Go.Proofs Go.Proofs.YtmeiigcjfjapfaaDoor.SetPop Go.Proofs.YtmeiigcjfjapfaaDoor.SetA Go.Proofs.YtmeiigcjfjapfaaDoor.SetB Go.Proofs.YtmeiigcjfjapfaaDoor.SetC
set_option linter.unusedVariables false
set_option linter.unusedSimpArgs false
/-- How many numbers the first k sets have together. -/
def tot (n : Nat) (M : List Nat) (k : Nat) : Nat := ((List.range k).map fun r : Nat => cnt (rowI n M r)).sum
theorem tot_succ (n : Nat) (M : List Nat) (k : Nat) : tot n M (k + 1) = tot n M k + cnt (rowI n M k) := by
  unfold tot
  rw [List.range_succ, List.map_append, List.sum_append]
  simp
theorem cntI_le {n : Nat} {M : List Nat} (hl : M.length = n * 16) (r : Int) : cnt (rowI n M r) ≤ 1024 := by
  have := cnt_le (rowI n M r)
  rw [rowI_len hl] at this
  exact this
theorem tot_le {n : Nat} {M : List Nat} (hl : M.length = n * 16) (k : Nat) : tot n M k ≤ k * 1024 := by
  induction k with
  | zero => simp [tot]
  | succ k ih => have := cntI_le hl (k : Int); rw [tot_succ]; omega
set_option maxRecDepth 100000 in
theorem total (B R n c : Nat) (M : List Nat) (w : World) (h : Fam w B R n c M) : Calls Tryd.prog 11 #[.pointer (some ⟨B, 0, none⟩)] w fun e w' => e = .returned (.int .i64 (tot n M n)) ∧ Below w.heap.size w w' := by
  have HR := Lib.hid (rows B R n c M w h)
  have HL := Lib.hid (fun (k : Nat) (wr : World) (hb : Below w.heap.size w wr) => len_ B R n c M k wr (h.below hb))
  have HT := Lib.hid (fun k => tot_le h.len k)
  have HC := Lib.hid (fun r => cntI_le h.len r)
  have HS := Lib.hid (fun k => tot_succ n M k)
  have h5 := h.n5
  clear h
  go_enter Tryd.func11, Tryd.ntmps11
  go_wp2_with fail
  refine HR.out.mono ?_
  rintro e w1 ⟨rfl, rfl⟩
  go_wp2_with fail
  go_loopw [3, 7] (fun s i wr => ∃ k : Nat, k ≤ n ∧ i = .int .i64 k ∧ s = .int .i64 (tot n M k) ∧ Below w.heap.size w wr) (fun _ i _ => n - (intOf i).toNat)
  case atStart => exact ⟨0, by omega, rfl, rfl, Below.refl _ _⟩
  case round =>
    obtain ⟨k, hk, rfl, rfl, hb⟩ := hrel
    have h1 := HT.out k
    by_cases hlt : k < n
    · have d1 : decide ((k : Int) < n) = true := by simp; omega
      have h2 := HC.out k
      have HLk := Lib.hid (HL.out k wr hb)
      have HSk := Lib.hid (HS.out k)
      have HB := Lib.hid hb
      clear hb
      generalize cnt (rowI n M k) = x at *
      go_wp2_with fail
      refine HLk.out.mono ?_
      rintro e w2 ⟨rfl, hb2⟩
      have HB2 := Lib.hid (HB.out.trans (hb2.mono HB.out.size))
      clear hb2
      go_wp2_with fail
      go_roundw
      case rel => exact ⟨k + 1, by omega, by go_num, by rw [HSk.out]; go_num, HB2.out⟩
      case measure => simp [intOf]; omega
    · have d1 : decide ((k : Int) < n) = false := by simp; omega
      have hkn := Lib.hid (show k = n by omega)
      have HB := Lib.hid hb
      clear hb
      go_wp2_with fail
      go_ret
      exact ⟨ret_int (by rw [hkn.out]), HB.out⟩
/-- The bits of x that y hasn't. -/
def andN (x y : Nat) : Nat := (BitVec.ofNat 64 x &&& ~~~ BitVec.ofNat 64 y).toNat
theorem bits_andN (x y : Nat) : bits .andNot .u64 (x : Int) (y : Int) = (andN x y : Int) := by
  show IntKind.u64.wrap ((BitVec.ofInt 64 (x : Int) &&& ~~~ BitVec.ofInt 64 (y : Int)).toNat : Int) = _
  rw [BitVec.ofInt_natCast, BitVec.ofInt_natCast]
  unfold andN
  have := (BitVec.ofNat 64 x &&& ~~~ BitVec.ofNat 64 y).isLt
  exact wrap_n _ (by simpa using this)
theorem andN_testBit (x y i : Nat) (hx : x < 18446744073709551616) : (andN x y).testBit i = (decide (i < 64) && x.testBit i && !y.testBit i) := by
  unfold andN
  rw [BitVec.testBit_toNat, BitVec.getLsbD_and, BitVec.getLsbD_not, BitVec.getLsbD_ofNat, BitVec.getLsbD_ofNat]
  by_cases h : i < 64 <;> simp [h]
theorem andN_zero (x y : Nat) (hx : x < 18446744073709551616) : andN x y = 0 ↔ ∀ i, x.testBit i = true → y.testBit i = true := by
  constructor
  · intro h i hi
    have := andN_testBit x y i hx
    rw [h, Nat.zero_testBit, hi] at this
    have h64 : i < 64 := by
      rcases Nat.lt_or_ge i 64 with h | h
      · exact h
      · rw [Nat.testBit_lt_two_pow (Nat.lt_of_lt_of_le hx (by simpa using Nat.pow_le_pow_right (n := 2) (by omega) h))] at hi
        cases hi
    simpa [h64] using this.symm
  · intro h
    apply Nat.eq_of_testBit_eq
    intro i
    rw [andN_testBit x y i hx, Nat.zero_testBit]
    cases hi : x.testBit i
    · simp
    · simp [h i hi]
def insideB (A B : List Nat) : Bool := (List.range 16).all fun k => andN (A.getD k 0) (B.getD k 0) == 0
def meetsB (A B : List Nat) : Bool := (List.range 16).any fun k => (A.getD k 0 &&& B.getD k 0) != 0
theorem inside_yes {A B : List Nat} (h : ∀ k, k < 16 → andN (A.getD k 0) (B.getD k 0) = 0) : insideB A B = true := by
  unfold insideB
  rw [List.all_eq_true]
  intro k hk
  simpa using h k (by simpa using hk)
theorem inside_no {A B : List Nat} {k : Nat} (hk : k < 16) (h : andN (A.getD k 0) (B.getD k 0) ≠ 0) : insideB A B = false := by
  unfold insideB
  rw [List.all_eq_false]
  exact ⟨k, by simpa using hk, by simpa using h⟩
theorem meets_no {A B : List Nat} (h : ∀ k, k < 16 → (A.getD k 0 &&& B.getD k 0) = 0) : meetsB A B = false := by
  unfold meetsB
  rw [List.any_eq_false]
  intro k hk
  simpa using h k (by simpa using hk)
theorem meets_yes {A B : List Nat} {k : Nat} (hk : k < 16) (h : (A.getD k 0 &&& B.getD k 0) ≠ 0) : meetsB A B = true := by
  unfold meetsB
  rw [List.any_eq_true]
  exact ⟨k, by simpa using hk, by simpa using h⟩
theorem enc_cell (X : World) (T : List Nat) (t : TypeId) (k : Nat) (hT : T.length = 16) (hk : k < 16) {W : World} (hW : W.heap[X.heap.size]? = some (.cells (encM T) t (0, 0))) : W.cell? ⟨X.heap.size, k, none⟩ = some (.int .u64 (T.getD k 0)) := by
  rw [Lib.cell_of_heap hW, encM_get, List.getD_eq_getElem?_getD, List.getElem?_eq_getElem (by omega)]
  rfl
set_option maxRecDepth 100000 in
theorem inside (A B : List Nat) (w : World) (hA : A.length = 16) (hB : B.length = 16) (sA : ∀ x ∈ A, x < 18446744073709551616) : Calls Tryd.prog 30 #[.agg (encM A), .agg (encM B)] w fun e w' => e = .returned (.bool (insideB A B)) ∧ Below w.heap.size w w' := by
  have HX : Hid (∀ k, k < 16 → ((w.alloc (.cells (encM A) 46)).alloc (.cells (encM B) 46)).cell? ⟨w.heap.size, k, none⟩ = some (.int .u64 (A.getD k 0)) ∧ ((w.alloc (.cells (encM A) 46)).alloc (.cells (encM B) 46)).cell? ⟨w.heap.size + 1, k, none⟩ = some (.int .u64 (B.getD k 0))) := Lib.hid (fun k hk => ⟨enc_cell w A 46 k hA hk (heap_alloc2_old w _ _), by
    have := enc_cell (w.alloc (.cells (encM A) 46)) B 46 k hB hk (W := (w.alloc (.cells (encM A) 46)).alloc (.cells (encM B) 46)) (heap_alloc_new _ _)
    simpa using this⟩)
  have HN := Lib.hid (fun k (hk : k < 16) h => inside_no (A := A) (B := B) hk h)
  have HY := Lib.hid (fun h => inside_yes (A := A) (B := B) h)
  have HBd := Lib.hid (fun q => below_drewN (((Below.refl w.heap.size w).alloc (Nat.le_refl _) (.cells (encM A) 46)).alloc (by simp) (.cells (encM B) 46)) q)
  clear hA hB sA
  generalize encM A = EA at *
  generalize encM B = EB at *
  go_enter Tryd.func30, Tryd.ntmps30
  go_wp2_with fail
  generalize hW : ((w.alloc (.cells EA 46)).alloc (.cells EB 46)) = w2 at *
  clear hW
  go_loopw [6] (fun i wr => ∃ k : Nat, k ≤ 16 ∧ i = .int .i64 k ∧ Hid (∀ j, j < k → andN (A.getD j 0) (B.getD j 0) = 0) ∧ ∃ q, wr = w2.drewN q) (fun i _ => 16 - (intOf i).toNat)
  case atStart => exact ⟨0, by omega, rfl, Lib.hid (fun j hj => absurd hj (by omega)), 0, rfl⟩
  case round =>
    obtain ⟨k, hk, rfl, hz, q, rfl⟩ := hrel
    by_cases hlt : k < 16
    · have d1 : decide ((k : Int) < 16) = true := by simp; omega
      have p0 : (0 : Int) ≤ k := by omega
      have p1 : (k : Int) < 16 := by omega
      have hx := HX.out k hlt
      obtain ⟨x1, x2⟩ := hx
      have hand := bits_andN (A.getD k 0) (B.getD k 0)
      by_cases hzero : andN (A.getD k 0) (B.getD k 0) = 0
      · have hz2 : Hid (∀ j, j < k + 1 → andN (A.getD j 0) (B.getD j 0) = 0) := Lib.hid (fun j hj => by
          rcases Nat.lt_or_ge j k with h | h
          · exact hz.out j h
          · obtain rfl : j = k := by omega
            exact hzero)
        rw [hzero] at hand
        clear hz hzero
        generalize A.getD k 0 = x at *
        generalize B.getD k 0 = y at *
        go_wp2_with fail
        go_quiet (fail)
        go_wp2_with fail
        go_roundw
        case rel => exact ⟨k + 1, by omega, by go_num, hz2, _, rfl⟩
        case measure => simp [intOf]; omega
      · have hn := HN.out k hlt hzero
        have HNk := Lib.hid hn
        have hne : ((andN (A.getD k 0) (B.getD k 0) : Int) != 0) = true := by simp; exact hzero
        clear hz hzero hn
        generalize andN (A.getD k 0) (B.getD k 0) = z at *
        generalize A.getD k 0 = x at *
        generalize B.getD k 0 = y at *
        go_wp2_with fail
        go_quiet (fail)
        go_wp2_with fail
        go_ret
        exact ⟨ret_bool HNk.out.symm, by rw [World.drewN_drewN]; exact HBd.out _⟩
    · have d1 : decide ((k : Int) < 16) = false := by simp; omega
      have hk16 := Lib.hid (show k = 16 by omega)
      have HYk := Lib.hid (HY.out (by rw [← hk16.out]; exact hz.out))
      clear hz
      go_wp2_with fail
      go_ret
      exact ⟨ret_bool HYk.out.symm, HBd.out _⟩
def InsidePost (b : Bool) (w : World) (e : Ending) (w' : World) : Prop := e = .returned (.bool b) ∧ Below w.heap.size w w'
set_option maxRecDepth 100000 in
theorem inside_at (v : Value) (A C : List Nat) (r k : Int) (w : World) (hA : A.length = 16) (hC : C.length = 16) (sA : ∀ x ∈ A, x < 18446744073709551616)
    (h1 : ∀ wr, Below w.heap.size w wr → Calls Tryd.prog 28 #[v, .int .i64 r] wr fun e w' => e = .returned (.agg (encM A)) ∧ Below wr.heap.size wr w')
    (h2 : ∀ wr, Below w.heap.size w wr → Calls Tryd.prog 28 #[v, .int .i64 k] wr fun e w' => e = .returned (.agg (encM C)) ∧ Below wr.heap.size wr w') : Calls Tryd.prog 14 #[v, .int .i64 r, .int .i64 k] w (InsidePost (insideB A C) w) := by
  have H1 := Lib.hid h1
  have H2 := Lib.hid h2
  have H3 := Lib.hid (fun wr => inside A C wr hA hC sA)
  unfold InsidePost
  clear h1 h2 hA hC sA
  generalize insideB A C = b at *
  generalize encM A = E1 at *
  generalize encM C = E2 at *
  go_enter Tryd.func14, Tryd.ntmps14
  go_wp2_with fail
  refine (H1.out _ (Below.refl _ _)).mono ?_
  rintro e w1 ⟨rfl, hb1⟩
  have HB1 := Lib.hid hb1
  clear hb1
  go_wp2_with fail
  refine (H2.out _ HB1.out).mono ?_
  rintro e w2 ⟨rfl, hb2⟩
  have HB2 := Lib.hid (HB1.out.trans (hb2.mono HB1.out.size))
  clear hb2
  go_wp2_with fail
  refine (H3.out _).mono ?_
  rintro e w3 ⟨rfl, hb3⟩
  have HB3 := Lib.hid (HB2.out.trans (hb3.mono HB2.out.size))
  clear hb3
  go_wp2_with fail
  go_ret
  exact ⟨rfl, HB3.out⟩
theorem setRow2 (X : World) (z1 z2 a b : Array Value) (t : TypeId) : (((X.alloc (.cells z1 t)).alloc (.cells z2 t)).setRow X.heap.size a).setRow (X.heap.size + 1) b = (X.alloc (.cells a t)).alloc (.cells b t) := by
  have h1 : ((X.alloc (.cells z1 t)).alloc (.cells z2 t)).setRow X.heap.size a = (X.alloc (.cells a t)).alloc (.cells z2 t) := by
    simp only [World.setRow, World.alloc]
    congr 1
    apply Array.ext_getElem?
    intro i
    rw [Array.getElem?_modify]
    by_cases h : X.heap.size = i
    · subst h
      simp [Array.getElem?_push]
    · have h' : ¬ i = X.heap.size := fun e => h e.symm
      simp [h, h', Array.getElem?_push]
  rw [h1]
  have := World.setRow_alloc_new (X.alloc (.cells a t)) z2 b t
  simpa using this
set_option maxRecDepth 100000 in
theorem meets_at (v : Value) (A C : List Nat) (r j : Int) (w : World) (hA : A.length = 16) (hB : C.length = 16) (sA : ∀ x ∈ A, x < 18446744073709551616) (sB : ∀ x ∈ C, x < 18446744073709551616)
    (h1 : ∀ wr, Below w.heap.size w wr → Calls Tryd.prog 28 #[v, .int .i64 r] wr fun e w' => e = .returned (.agg (encM A)) ∧ Below wr.heap.size wr w')
    (h2 : ∀ wr, Below w.heap.size w wr → Calls Tryd.prog 28 #[v, .int .i64 j] wr fun e w' => e = .returned (.agg (encM C)) ∧ Below wr.heap.size wr w') : Calls Tryd.prog 16 #[v, .int .i64 r, .int .i64 j] w (InsidePost (meetsB A C) w) := by
  have H1 := Lib.hid h1
  have H2 := Lib.hid h2
  unfold InsidePost
  clear h1 h2
  have HX : Hid (∀ k, k < 16 → ∀ (X : World) , ((X.alloc (.cells (encM A) 46)).alloc (.cells (encM C) 46)).cell? ⟨X.heap.size, k, none⟩ = some (.int .u64 (A.getD k 0)) ∧ ((X.alloc (.cells (encM A) 46)).alloc (.cells (encM C) 46)).cell? ⟨X.heap.size + 1, k, none⟩ = some (.int .u64 (C.getD k 0))) := Lib.hid (fun k hk X => ⟨enc_cell X A 46 k hA hk (heap_alloc2_old X _ _), by
    have := enc_cell (X.alloc (.cells (encM A) 46)) C 46 k hB hk (W := (X.alloc (.cells (encM A) 46)).alloc (.cells (encM C) 46)) (heap_alloc_new _ _)
    simpa using this⟩)
  have HN := Lib.hid (fun h => meets_no (A := A) (B := C) h)
  have HY := Lib.hid (fun k (hk : k < 16) h => meets_yes (A := A) (B := C) hk h)
  have HBd := Lib.hid (fun (X : World) (hb : Below w.heap.size w X) q => below_drewN (((hb).alloc hb.size (.cells (encM A) 46)).alloc (by have := hb.size; simp; omega) (.cells (encM C) 46)) q)
  have HS1 : Hid ((encM A).size = 16) := Lib.hid (by rw [encM_size, hA])
  have HS2 : Hid ((encM C).size = 16) := Lib.hid (by rw [encM_size, hB])
  have HO1 := Lib.hid (one_all A)
  have HO2 := Lib.hid (one_all C)
  have HAnd : Hid (∀ k, k < 16 → bits .and .u64 (A.getD k 0 : Int) (C.getD k 0 : Int) = ((A.getD k 0 &&& C.getD k 0 : Nat) : Int)) := Lib.hid (fun k hk => bits_and_u64_nat _ _ (sA _ (by rw [List.getD_eq_getElem?_getD, List.getElem?_eq_getElem (by omega)]; exact List.getElem_mem _)) (sB _ (by rw [List.getD_eq_getElem?_getD, List.getElem?_eq_getElem (by omega)]; exact List.getElem_mem _)))
  clear hA hB sA sB
  generalize encM A = E1 at *
  generalize encM C = E2 at *
  go_enter Tryd.func16, Tryd.ntmps16
  go_wp2_with fail
  refine (H1.out _ (Below.refl _ _)).mono ?_
  rintro e w1 ⟨rfl, hb1⟩
  have HB1 := Lib.hid hb1
  clear hb1
  go_wp2_with fail
  refine (H2.out _ HB1.out).mono ?_
  rintro e w2 ⟨rfl, hb2⟩
  have HB2 := Lib.hid (HB1.out.trans (hb2.mono HB1.out.size))
  clear hb2
  go_wp2_with (first | (refine wpList_store_row rfl 46 _ _ rfl w2.heap.size E1 rfl rfl 46 _ (heap_alloc2_old w2 _ _) (by rw [HS1.out]; exact sizeNum) (by rw [HS1.out]; rfl) HO1.out ?_) | (refine wpList_store_row rfl 46 _ _ rfl (w2.heap.size + 1) E2 rfl rfl 46 _ ((setRow_other _ _ _ _ (by omega)).trans (heap_alloc2_new w2 _ _)) (by rw [HS2.out]; exact sizeNum) (by rw [HS2.out]; rfl) HO2.out ?_; rw [setRow2]))
  have HX2 := Lib.hid (fun k hk => HX.out k hk w2)
  have HBd2 := Lib.hid (fun q => HBd.out w2 HB2.out q)
  clear HX HBd
  generalize hW : ((w2.alloc (.cells E1 46)).alloc (.cells E2 46)) = w3 at *
  clear hW
  go_loopw [16] (fun i wr => ∃ k : Nat, k ≤ 16 ∧ i = .int .i64 k ∧ Hid (∀ j, j < k → (A.getD j 0 &&& C.getD j 0) = 0) ∧ ∃ q, wr = w3.drewN q) (fun i _ => 16 - (intOf i).toNat)
  case atStart => exact ⟨0, by omega, rfl, Lib.hid (fun j hj => absurd hj (by omega)), 0, rfl⟩
  case round =>
    obtain ⟨k, hk, rfl, hz, q, rfl⟩ := hrel
    by_cases hlt : k < 16
    · have d1 : decide ((k : Int) < 16) = true := by simp; omega
      have p0 : (0 : Int) ≤ k := by omega
      have p1 : (k : Int) < 16 := by omega
      obtain ⟨x1, x2⟩ := HX2.out k hlt
      have hand := HAnd.out k hlt
      by_cases hzero : (A.getD k 0 &&& C.getD k 0) = 0
      · have hz2 : Hid (∀ j, j < k + 1 → (A.getD j 0 &&& C.getD j 0) = 0) := Lib.hid (fun j hj => by
          rcases Nat.lt_or_ge j k with h | h
          · exact hz.out j h
          · obtain rfl : j = k := by omega
            exact hzero)
        rw [hzero] at hand
        clear hz hzero
        generalize A.getD k 0 = x at *
        generalize C.getD k 0 = y at *
        go_wp2_with fail
        go_quiet (fail)
        go_wp2_with fail
        go_roundw
        case rel => exact ⟨k + 1, by omega, by go_num, hz2, _, rfl⟩
        case measure => simp [intOf]; omega
      · have HNk := Lib.hid (HY.out k hlt hzero)
        have hne : (((A.getD k 0 &&& C.getD k 0 : Nat) : Int) != 0) = true := by simp; exact hzero
        clear hz hzero
        generalize (A.getD k 0 &&& C.getD k 0) = z at *
        generalize A.getD k 0 = x at *
        generalize C.getD k 0 = y at *
        go_wp2_with fail
        go_quiet (fail)
        go_wp2_with fail
        go_ret
        exact ⟨ret_bool HNk.out.symm, by rw [World.drewN_drewN]; exact HBd2.out _⟩
    · have d1 : decide ((k : Int) < 16) = false := by simp; omega
      have hk16 := Lib.hid (show k = 16 by omega)
      have HYk := Lib.hid (HN.out (by rw [← hk16.out]; exact hz.out))
      clear hz
      go_wp2_with fail
      go_ret
      exact ⟨ret_bool HYk.out.symm, HBd2.out _⟩
theorem inside_ (B R n c : Nat) (M : List Nat) (r k : Int) (w : World) (h : Fam w B R n c M) : Calls Tryd.prog 14 #[.pointer (some ⟨B, 0, none⟩), .int .i64 r, .int .i64 k] w (InsidePost (insideB (rowI n M r) (rowI n M k)) w) :=
  inside_at _ _ _ r k w (rowI_len h.len r) (rowI_len h.len k) (rowI_small h r) (fun wr hb => at_ B R n c M r wr (h.below hb)) (fun wr hb => at_ B R n c M k wr (h.below hb))
theorem meets_ (B R n c : Nat) (M : List Nat) (r k : Int) (w : World) (h : Fam w B R n c M) : Calls Tryd.prog 16 #[.pointer (some ⟨B, 0, none⟩), .int .i64 r, .int .i64 k] w (InsidePost (meetsB (rowI n M r) (rowI n M k)) w) :=
  meets_at _ _ _ r k w (rowI_len h.len r) (rowI_len h.len k) (rowI_small h r) (rowI_small h k) (fun wr hb => at_ B R n c M r wr (h.below hb)) (fun wr hb => at_ B R n c M k wr (h.below hb))
end Go.Proofs.YtmeiigcjfjapfaaDoor.SetD
