/- Families of sets of numbers: small calls, by contract. -/
import Derived.Test.YtmeiigcjfjapfaaDoorSetPop
import Derived.Test.YtmeiigcjfjapfaaDoorProg
import Derived.WalkKit
import Derived.Below
import Derived.Lib.Hide
import Derived.Outline
import Derived.Laws.Bits64b
import Derived.Deep.MidRow
import Derived.Laws.MakeOwn
import Derived.RegionTactic
import Derived.Deep.RegionWith
import Derived.Deep.QuietTactic
import Derived.BigQuiet
import Derived.ProofKit
import Derived.IntWalk
import Derived.WalkLawsBesides
import Derived.WalkSpells
namespace Go.Proofs.YtmeiigcjfjapfaaDoor.SetA
open Go.RowKit Go.Lib Go.Proofs Go.Proofs.YtmeiigcjfjapfaaDoor.SetPop
set_option linter.unusedVariables false
set_option linter.unusedSimpArgs false
theorem ret_int {k : IntKind} {a b : Int} (h : a = b) : Ending.returned (.int k a) = .returned (.int k b) := by rw [h]
def within (n : Int) (most : Int) : Int := max 0 (min n most)
set_option maxRecDepth 100000 in
theorem within_ (n most : Int) (w : World) : Calls Tryd.prog 25 #[.int .i64 n, .int .i64 most] w fun e w' => e = .returned (.int .i64 (within n most)) ∧ w = w' := by
  go_enter Tryd.func25, Tryd.ntmps25
  go_wp2
  all_goals
    rename_i hh
    go_ret
    refine ⟨ret_int ?_, rfl⟩
    unfold within
    split at hh <;> omega
theorem wrap_u64 {x : Int} (h0 : 0 ≤ x) (h : x < 18446744073709551616) : IntKind.u64.wrap x = x := by rw [IntKind.wrap_u64]; omega
theorem wrap_n (x : Nat) (h : x < 18446744073709551616) : IntKind.u64.wrap (x : Int) = x := wrap_u64 (by omega) (by omega)
theorem ret_u64 {a b : Int} (h : a = b) : Ending.returned (.int .u64 a) = .returned (.int .u64 b) := by rw [h]
theorem pow_lt (k : Nat) (h : k < 64) : 2 ^ k < 18446744073709551616 := by
  have := Nat.pow_lt_pow_right (a := 2) (by omega) h
  simpa using this
set_option maxRecDepth 100000 in
theorem bit_ (n : Nat) (h : n < 1000) (w : World) : Calls Tryd.prog 27 #[.int .i64 n] w fun e w' => e = .returned (.int .u64 ((2 ^ (n % 64) : Nat) : Int)) ∧ w = w' := by
  have : (0 : Int) ≤ n := by omega
  have : (n : Int) < 1000 := by omega
  go_enter Tryd.func27, Tryd.ntmps27
  go_wp2
  go_ret
  refine ⟨ret_u64 ?_, rfl⟩
  have := pow_lt (n % 64) (by omega)
  have e : ((2 : Int) ^ (n % 64)) = ((2 ^ (n % 64) : Nat) : Int) := by simp
  rw [e, wrap_n _ this]
theorem land_le (a b : Nat) : a &&& b ≤ b := Nat.and_le_right
theorem o1 (x : Nat) (h : x < 18446744073709551616) : IntKind.u64.wrap (bits .and .u64 (↑x / 2) 6148914691236517205 + bits .and .u64 ↑x 6148914691236517205) = (((x / 2 &&& 6148914691236517205) + (x &&& 6148914691236517205) : Nat) : Int) := by
  have e1 := bits_and_u64_nat (x / 2) 6148914691236517205 (by omega) (by omega)
  have e2 := bits_and_u64_nat x 6148914691236517205 (by omega) (by omega)
  have l1 := land_le (x / 2) 6148914691236517205
  have l2 := land_le x 6148914691236517205
  have e3 : ((x : Int) / 2) = ((x / 2 : Nat) : Int) := by omega
  rw [e3]
  refine (congrArg IntKind.u64.wrap (congr (congrArg _ e1) e2)).trans ?_
  rw [wrap_u64 (by omega) (by omega)]; omega
theorem o2 (x : Nat) (h : x < 18446744073709551616) : IntKind.u64.wrap (bits .and .u64 (↑x / 4) 3689348814741910323 + bits .and .u64 ↑x 3689348814741910323) = (((x / 4 &&& 3689348814741910323) + (x &&& 3689348814741910323) : Nat) : Int) := by
  have e1 := bits_and_u64_nat (x / 4) 3689348814741910323 (by omega) (by omega)
  have e2 := bits_and_u64_nat x 3689348814741910323 (by omega) (by omega)
  have l1 := land_le (x / 4) 3689348814741910323
  have l2 := land_le x 3689348814741910323
  have e3 : ((x : Int) / 4) = ((x / 4 : Nat) : Int) := by omega
  rw [e3]
  refine (congrArg IntKind.u64.wrap (congr (congrArg _ e1) e2)).trans ?_
  rw [wrap_u64 (by omega) (by omega)]; omega
theorem o3 (x : Nat) (h : x ≤ 7378697629483820646) : bits .and .u64 (IntKind.u64.wrap (↑x / 16 + ↑x)) 1085102592571150095 = ((x / 16 + x &&& 1085102592571150095 : Nat) : Int) := by
  have e1 := bits_and_u64_nat (x / 16 + x) 1085102592571150095 (by omega) (by omega)
  have e3 : ((x : Int) / 16 + x) = ((x / 16 + x : Nat) : Int) := by omega
  rw [e3, wrap_u64 (by omega) (by omega)]
  exact e1
theorem o4 (x d : Nat) (h : x ≤ 2000000000000000000) (hd : 2 ≤ d) : IntKind.u64.wrap (↑x + ↑x / (d : Int)) = ((x + x / d : Nat) : Int) := by
  have e3 : ((x : Int) + x / (d : Int)) = ((x + x / d : Nat) : Int) := by simp
  have := Nat.div_le_self x d
  rw [e3, wrap_n _ (by omega)]
theorem o5 (x : Nat) (h : x < 9223372036854775808) : bits .and .i64 (wrap64 x) 127 = ((x % 128 : Nat) : Int) := by
  have hw : wrap64 (x : Int) = x := by unfold wrap64; omega
  have h1 : (BitVec.ofInt 64 (x : Int)).toNat = x := by
    rw [BitVec.ofInt_natCast, BitVec.toNat_ofNat]; exact Nat.mod_eq_of_lt (by omega)
  have h2 : (BitVec.ofInt 64 (127 : Int)).toNat = 127 := by rfl
  rw [hw]
  show IntKind.i64.wrap ((BitVec.ofInt 64 (x : Int) &&& BitVec.ofInt 64 (127 : Int)).toNat : Int) = _
  rw [BitVec.toNat_and, h1, h2, show (127 : Nat) = 2 ^ 7 - 1 from rfl, Nat.and_two_pow_sub_one_eq_mod, IntKind.wrap_i64]
  omega
set_option maxRecDepth 100000 in
theorem ones (x : Nat) (h : x < 18446744073709551616) (w : World) : Calls Tryd.prog 29 #[.int .u64 x] w fun e w' => e = .returned (.int .i64 (pop x)) ∧ w = w' := by
  have h0 : (0 : Int) ≤ x := by omega
  have h1 : (x : Int) < 18446744073709551616 := by omega
  have HP := Lib.hid (swar_pop x h)
  go_enter Tryd.func29, Tryd.ntmps29
  go_wp2
  go_ret
  refine ⟨ret_int ?_, rfl⟩
  have H := HP.out
  simp only [swar] at H
  rw [← H, o1 x h]
  have l1 := land_le (x / 2) 6148914691236517205
  have l2 := land_le x 6148914691236517205
  have b1 : (x / 2 &&& 6148914691236517205) + (x &&& 6148914691236517205) ≤ 12297829382473034410 := by omega
  clear H HP
  generalize (x / 2 &&& 6148914691236517205) + (x &&& 6148914691236517205) = x1 at *
  rw [o2 x1 (by omega)]
  have l3 := land_le (x1 / 4) 3689348814741910323
  have l4 := land_le x1 3689348814741910323
  have b2 : (x1 / 4 &&& 3689348814741910323) + (x1 &&& 3689348814741910323) ≤ 7378697629483820646 := by omega
  generalize (x1 / 4 &&& 3689348814741910323) + (x1 &&& 3689348814741910323) = x2 at *
  rw [o3 x2 (by omega)]
  have l5 := land_le (x2 / 16 + x2) 1085102592571150095
  generalize (x2 / 16 + x2 &&& 1085102592571150095) = x3 at *
  have q4 := o4 x3 256 (by omega) (by omega)
  have l6 : x3 + x3 / 256 ≤ 1100000000000000000 := by omega
  rw [show ((256 : Nat) : Int) = 256 from rfl] at q4
  rw [q4]
  generalize x3 + x3 / 256 = x4 at *
  have q5 := o4 x4 65536 (by omega) (by omega)
  have l7 : x4 + x4 / 65536 ≤ 1200000000000000000 := by omega
  rw [show ((65536 : Nat) : Int) = 65536 from rfl] at q5
  rw [q5]
  generalize x4 + x4 / 65536 = x5 at *
  have q6 := o4 x5 4294967296 (by omega) (by omega)
  rw [show ((4294967296 : Nat) : Int) = 4294967296 from rfl] at q6
  rw [q6, o5 _ (by omega)]
def encM (M : List Nat) : Array Value := (M.map fun x : Nat => Value.int .u64 x).toArray
theorem encM_get (M : List Nat) (i : Nat) : (encM M)[i]? = M[i]?.map fun x : Nat => Value.int .u64 x := by unfold encM; simp
theorem encM_size (M : List Nat) : (encM M).size = M.length := by unfold encM; simp
structure Fam (w : World) (B R n c : Nat) (M : List Nat) : Prop where
  fb : ∃ cp, w.heap[B]? = some (.cells #[.slice (some ⟨R, 0, none⟩) n cp, .int .i64 c] 43 (0, 0))
  rb : ∃ Z, w.heap[R]? = some (.cells (encM M ++ Z) 46 (0, 0))
  len : M.length = n * 16
  small : ∀ x ∈ M, x < 18446744073709551616
  n5 : n ≤ 5000
  c1 : c ≤ 1000
  ne : R ≠ B
theorem Fam.drewN {w : World} {B R n c : Nat} {M : List Nat} (h : Fam w B R n c M) (q : Nat) : Fam (w.drewN q) B R n c M := ⟨h.fb, h.rb, h.len, h.small, h.n5, h.c1, h.ne⟩
theorem Fam.b0 {w : World} {B R n c : Nat} {M : List Nat} (h : Fam w B R n c M) : ∃ cp, w.cell? ⟨B, 0, none⟩ = some (.slice (some ⟨R, 0, none⟩) n cp) ∧ w.cell? ⟨B, 1, none⟩ = some (.int .i64 c) := by
  obtain ⟨cp, hb⟩ := h.fb
  refine ⟨cp, ?_⟩
  constructor <;> (rw [Lib.cell_of_heap hb]; rfl)
theorem Fam.at_ {w : World} {B R n c : Nat} {M : List Nat} (h : Fam w B R n c M) (i : Nat) (hi : i < M.length) : w.cell? ⟨R, i, none⟩ = M[i]?.map fun x : Nat => Value.int .u64 x := by
  obtain ⟨Z, hb⟩ := h.rb
  rw [Lib.cell_of_heap hb, Array.getElem?_append_left (by rw [encM_size]; exact hi), encM_get]
theorem Fam.lt {w : World} {B R n c : Nat} {M : List Nat} (h : Fam w B R n c M) : B < w.heap.size ∧ R < w.heap.size := by
  obtain ⟨cp, hb⟩ := h.fb
  obtain ⟨Z, hr⟩ := h.rb
  exact ⟨(Array.getElem?_eq_some_iff.1 hb).1, (Array.getElem?_eq_some_iff.1 hr).1⟩
theorem Fam.keep {w w' : World} {B R n c : Nat} {M : List Nat} (h : Fam w B R n c M) (hB : w'.heap[B]? = w.heap[B]?) (hR : w'.heap[R]? = w.heap[R]?) : Fam w' B R n c M := by
  obtain ⟨cp, hb⟩ := h.fb
  obtain ⟨Z, hr⟩ := h.rb
  exact ⟨⟨cp, hB.trans hb⟩, ⟨Z, hR.trans hr⟩, h.len, h.small, h.n5, h.c1, h.ne⟩
theorem Fam.below {w w' : World} {B R n c : Nat} {M : List Nat} (h : Fam w B R n c M) (hb : Below w.heap.size w w') : Fam w' B R n c M := h.keep (hb.block _ h.lt.1) (hb.block _ h.lt.2)
theorem infoNum : (Tryd.prog.info? 46).map (fun i => (i.zero, i.size, i.bytes)) = some (some (.agg #[.int .u64 0, .int .u64 0, .int .u64 0, .int .u64 0, .int .u64 0, .int .u64 0, .int .u64 0, .int .u64 0, .int .u64 0, .int .u64 0, .int .u64 0, .int .u64 0, .int .u64 0, .int .u64 0, .int .u64 0, .int .u64 0]), 16, 128) := by kernel_rfl
theorem made (n : Nat) : madeCells (Value.agg #[.int .u64 0, .int .u64 0, .int .u64 0, .int .u64 0, .int .u64 0, .int .u64 0, .int .u64 0, .int .u64 0, .int .u64 0, .int .u64 0, .int .u64 0, .int .u64 0, .int .u64 0, .int .u64 0, .int .u64 0, .int .u64 0]).cells n = encM (List.replicate n 0) := by
  unfold encM
  apply Array.ext
  · simp [size_madeCells]
  · intro i h1 h2
    have h16 : i % 16 < 16 := Nat.mod_lt _ (by omega)
    simp only [madeCells, Array.getElem_map, Array.getElem_range, List.map_replicate, List.getElem_toArray, List.getElem_replicate]
    show (#[Value.int .u64 0, .int .u64 0, .int .u64 0, .int .u64 0, .int .u64 0, .int .u64 0, .int .u64 0, .int .u64 0, .int .u64 0, .int .u64 0, .int .u64 0, .int .u64 0, .int .u64 0, .int .u64 0, .int .u64 0, .int .u64 0] : Array Value)[i % 16]! = _
    generalize i % 16 = k at h16
    match k, h16 with
    | 0, _ => rfl
    | 1, _ => rfl
    | 2, _ => rfl
    | 3, _ => rfl
    | 4, _ => rfl
    | 5, _ => rfl
    | 6, _ => rfl
    | 7, _ => rfl
    | 8, _ => rfl
    | 9, _ => rfl
    | 10, _ => rfl
    | 11, _ => rfl
    | 12, _ => rfl
    | 13, _ => rfl
    | 14, _ => rfl
    | 15, _ => rfl
    | k + 16, h => exact absurd h (by omega)
theorem fam_made (X : World) (k j : Nat) (h : k ≤ 5000) (h2 : j ≤ 1000) : Fam ((X.alloc (.cells (encM (List.replicate (k * 16) 0)) 46)).alloc (.cells #[.slice (some ⟨X.heap.size, 0, none⟩) k k, .int .i64 j] 43)) (X.heap.size + 1) X.heap.size k j (List.replicate (k * 16) 0) := by
  refine ⟨?_, ?_, by simp, fun x hx => ?_, h, h2, by omega⟩
  · refine ⟨k, ?_⟩
    have := heap_alloc_new (X.alloc (.cells (encM (List.replicate (k * 16) 0)) 46)) (.cells #[.slice (some ⟨X.heap.size, 0, none⟩) k k, .int .i64 j] 43)
    simpa using this
  · refine ⟨#[], ?_⟩
    rw [Array.append_empty]
    exact (Below.heap_alloc _ _ _ (by simp)).trans (heap_alloc_new X _)
  · rw [List.eq_of_mem_replicate hx]; omega
def NewPost (n c : Int) (w : World) (e : Ending) (w' : World) : Prop := ∃ B R, e = .returned (.pointer (some ⟨B, 0, none⟩)) ∧ Fam w' B R (within n 5000).toNat (within c 1000).toNat (List.replicate ((within n 5000).toNat * 16) 0) ∧ Below w.heap.size w w' ∧ w.heap.size ≤ B ∧ w.heap.size ≤ R
theorem within_le (n most : Int) (h : 0 ≤ most) : 0 ≤ within n most ∧ within n most ≤ most := by unfold within; omega
set_option maxRecDepth 100000 in
theorem new_ (n c : Int) (w : World) : Calls Tryd.prog 5 #[.int .i64 n, .int .i64 c] w (NewPost n c w) := by
  obtain ⟨i0, hi, hz0, hz1, hz2⟩ := info_parts infoNum
  have hn := within_le n 5000 (by omega)
  have hc := within_le c 1000 (by omega)
  unfold NewPost
  have HW1 := Lib.hid (within_ n 5000)
  have HW2 := Lib.hid (within_ c 1000)
  generalize within n 5000 = N at *
  generalize within c 1000 = C at *
  obtain ⟨k, rfl⟩ : ∃ k : Nat, N = k := ⟨N.toNat, by omega⟩
  obtain ⟨j, rfl⟩ : ∃ k : Nat, C = k := ⟨C.toNat, by omega⟩
  have mk := fun (w : World) => run_make (P := Tryd.prog) w 40 46 i0 _ Tryd.underlying40 hi hz0 .i64 .i64 k k (by omega) (by omega) (by rw [hz2]; omega) (by omega)
  rw [hz1] at mk
  simp only [Int.toNat_natCast, made] at mk ⊢
  clear hi hz0 hz1 hz2
  go_enter Tryd.func5, Tryd.ntmps5
  go_wp2_with fail
  go_region_with (first | ((with_reducible refine (HW1.out _).mono ?_); rintro e w' ⟨rfl, rfl⟩) | ((with_reducible refine (HW2.out _).mono ?_); rintro e w' ⟨rfl, rfl⟩))
  all_goals
    go_wp2_with fail
    go_ret
    exact ⟨w.heap.size + 1, w.heap.size, rfl, (fam_made w k j (by omega) (by omega)).drewN 1, (((Below.refl _ w).alloc (Nat.le_refl _) _).alloc (by simp) _).drew, by omega, by omega⟩
end Go.Proofs.YtmeiigcjfjapfaaDoor.SetA
