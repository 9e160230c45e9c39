/- Plain mathematics, of no program: how many bits of a word of 64 are 1, the library's way and by definition. -/
import Derived.WalkKit
import Derived.Test.YtcmdiomjhideiaaGreatDoorProg
import Derived.Below
import Derived.Lib.Hide
import Derived.Outline
import Derived.Laws.Bits64b
import Derived.Deep.MidRow
import Derived.Laws.MakeOwn
import Derived.RegionTactic
import Derived.Deep.RegionWith
import Derived.Deep.QuietTactic
import Derived.BigQuiet
import Derived.ProofKit
import Derived.IntWalk
import Derived.WalkLawsBesides
import Derived.WalkSpells
import Derived.StillTailTactics
import Derived.Deep.WholeRow
import Derived.ChangeKeysEq
import Derived.Deep.CutBlock
import Derived.Deep.LoopGhost
import Derived.SliceStrings
import Derived.Deep.DeepHandedRow
import Derived.OpenShut
import Derived.ShutString
import Derived.ChangeOld
import Derived.Carry
import Derived.Test.YtcmdiomjhideiaaGreatDoorRows
import Derived.Lib.LaidTab
import Derived.Lib.Tables
import Derived.Lib.IndexBytes
import Derived.Lib.Strings
namespace Go.Proofs.YtcmdiomjhideiaaGreatDoor.SetPop
set_option linter.unusedVariables false
set_option linter.unusedSimpArgs false
/-- How many of the 64 bits are 1. -/
def pop (x : Nat) : Nat := (List.range 64).countP (fun i => x.testBit i)

def val : List Nat → Nat
  | [] => 0
  | b :: l => b + 256 * val l

def small (l : List Nat) : Prop := ∀ b ∈ l, b < 256

def s (b : Nat) : Nat := ((b / 2) &&& 0x55) + (b &&& 0x55)
def t (b : Nat) : Nat := ((b / 4) &&& 0x33) + (b &&& 0x33)
def c8 (b : Nat) : Nat := (t (s b) / 16 + t (s b)) &&& 15

theorem bytes (x : Nat) (h : x < 18446744073709551616) : ∃ l : List Nat, l.length = 8 ∧ small l ∧ val l = x := by
  refine ⟨[x % 256, x / 256 % 256, x / 65536 % 256, x / 16777216 % 256, x / 4294967296 % 256, x / 1099511627776 % 256, x / 281474976710656 % 256, x / 72057594037927936 % 256], rfl, ?_, ?_⟩
  · intro b hb; simp at hb; omega
  · simp only [val]; omega

end Go.Proofs.YtcmdiomjhideiaaGreatDoor.SetPop
/- Families of sets of numbers: small calls, by contract. -/
namespace Go.Proofs.YtcmdiomjhideiaaGreatDoor.SetA
set_option linter.unusedVariables false
set_option linter.unusedSimpArgs false
open Go.RowKit Go.Lib Go.Proofs Go.Proofs.YtcmdiomjhideiaaGreatDoor.SetPop
set_option linter.unusedVariables false
set_option linter.unusedSimpArgs false
theorem ret_int {k : IntKind} {a b : Int} (h : a = b) : Ending.returned (.int k a) = .returned (.int k b) := by rw [h]
def within (n : Int) (most : Int) : Int := max 0 (min n most)
set_option maxRecDepth 100000 in
theorem within_ (n most : Int) (w : World) : Calls Tryz.prog 162 #[.int .i64 n, .int .i64 most] w fun e w' => e = .returned (.int .i64 (within n most)) ∧ w = w' := by
  go_enter Tryz.func162, Tryz.ntmps162
  go_wp2
  all_goals
    rename_i hh
    go_ret
    refine ⟨ret_int ?_, rfl⟩
    unfold within
    split at hh <;> omega
theorem wrap_u64 {x : Int} (h0 : 0 ≤ x) (h : x < 18446744073709551616) : IntKind.u64.wrap x = x := by rw [IntKind.wrap_u64]; omega
theorem wrap_n (x : Nat) (h : x < 18446744073709551616) : IntKind.u64.wrap (x : Int) = x := wrap_u64 (by omega) (by omega)
theorem ret_u64 {a b : Int} (h : a = b) : Ending.returned (.int .u64 a) = .returned (.int .u64 b) := by rw [h]
theorem pow_lt (k : Nat) (h : k < 64) : 2 ^ k < 18446744073709551616 := by
  have := Nat.pow_lt_pow_right (a := 2) (by omega) h
  simpa using this
set_option maxRecDepth 100000 in
theorem bit_ (n : Nat) (h : n < 1000) (w : World) : Calls Tryz.prog 212 #[.int .i64 n] w fun e w' => e = .returned (.int .u64 ((2 ^ (n % 64) : Nat) : Int)) ∧ w = w' := by
  have : (0 : Int) ≤ n := by omega
  have : (n : Int) < 1000 := by omega
  go_enter Tryz.func212, Tryz.ntmps212
  go_wp2
  go_ret
  refine ⟨ret_u64 ?_, rfl⟩
  have := pow_lt (n % 64) (by omega)
  have e : ((2 : Int) ^ (n % 64)) = ((2 ^ (n % 64) : Nat) : Int) := by simp
  rw [e, wrap_n _ this]
theorem land_le (a b : Nat) : a &&& b ≤ b := Nat.and_le_right
theorem o1 (x : Nat) (h : x < 18446744073709551616) : IntKind.u64.wrap (bits .and .u64 (↑x / 2) 6148914691236517205 + bits .and .u64 ↑x 6148914691236517205) = (((x / 2 &&& 6148914691236517205) + (x &&& 6148914691236517205) : Nat) : Int) := by
  have e1 := bits_and_u64_nat (x / 2) 6148914691236517205 (by omega) (by omega)
  have e2 := bits_and_u64_nat x 6148914691236517205 (by omega) (by omega)
  have l1 := land_le (x / 2) 6148914691236517205
  have l2 := land_le x 6148914691236517205
  have e3 : ((x : Int) / 2) = ((x / 2 : Nat) : Int) := by omega
  rw [e3]
  refine (congrArg IntKind.u64.wrap (congr (congrArg _ e1) e2)).trans ?_
  rw [wrap_u64 (by omega) (by omega)]; omega
theorem o2 (x : Nat) (h : x < 18446744073709551616) : IntKind.u64.wrap (bits .and .u64 (↑x / 4) 3689348814741910323 + bits .and .u64 ↑x 3689348814741910323) = (((x / 4 &&& 3689348814741910323) + (x &&& 3689348814741910323) : Nat) : Int) := by
  have e1 := bits_and_u64_nat (x / 4) 3689348814741910323 (by omega) (by omega)
  have e2 := bits_and_u64_nat x 3689348814741910323 (by omega) (by omega)
  have l1 := land_le (x / 4) 3689348814741910323
  have l2 := land_le x 3689348814741910323
  have e3 : ((x : Int) / 4) = ((x / 4 : Nat) : Int) := by omega
  rw [e3]
  refine (congrArg IntKind.u64.wrap (congr (congrArg _ e1) e2)).trans ?_
  rw [wrap_u64 (by omega) (by omega)]; omega
def encM (M : List Nat) : Array Value := (M.map fun x : Nat => Value.int .u64 x).toArray
theorem encM_get (M : List Nat) (i : Nat) : (encM M)[i]? = M[i]?.map fun x : Nat => Value.int .u64 x := by unfold encM; simp
theorem encM_size (M : List Nat) : (encM M).size = M.length := by unfold encM; simp
structure Fam (w : World) (B R n c : Nat) (M : List Nat) : Prop where
  fb : ∃ cp, w.heap[B]? = some (.cells #[.slice (some ⟨R, 0, none⟩) n cp, .int .i64 c] 174 (0, 0))
  rb : ∃ Z, w.heap[R]? = some (.cells (encM M ++ Z) 152 (0, 0))
  len : M.length = n * 16
  small : ∀ x ∈ M, x < 18446744073709551616
  n5 : n ≤ 5000
  c1 : c ≤ 1000
  ne : R ≠ B
theorem Fam.drewN {w : World} {B R n c : Nat} {M : List Nat} (h : Fam w B R n c M) (q : Nat) : Fam (w.drewN q) B R n c M := ⟨h.fb, h.rb, h.len, h.small, h.n5, h.c1, h.ne⟩
theorem Fam.b0 {w : World} {B R n c : Nat} {M : List Nat} (h : Fam w B R n c M) : ∃ cp, w.cell? ⟨B, 0, none⟩ = some (.slice (some ⟨R, 0, none⟩) n cp) ∧ w.cell? ⟨B, 1, none⟩ = some (.int .i64 c) := by
  obtain ⟨cp, hb⟩ := h.fb
  refine ⟨cp, ?_⟩
  constructor <;> (rw [Lib.cell_of_heap hb]; rfl)
theorem Fam.at_ {w : World} {B R n c : Nat} {M : List Nat} (h : Fam w B R n c M) (i : Nat) (hi : i < M.length) : w.cell? ⟨R, i, none⟩ = M[i]?.map fun x : Nat => Value.int .u64 x := by
  obtain ⟨Z, hb⟩ := h.rb
  rw [Lib.cell_of_heap hb, Array.getElem?_append_left (by rw [encM_size]; exact hi), encM_get]
theorem Fam.lt {w : World} {B R n c : Nat} {M : List Nat} (h : Fam w B R n c M) : B < w.heap.size ∧ R < w.heap.size := by
  obtain ⟨cp, hb⟩ := h.fb
  obtain ⟨Z, hr⟩ := h.rb
  exact ⟨(Array.getElem?_eq_some_iff.1 hb).1, (Array.getElem?_eq_some_iff.1 hr).1⟩
theorem Fam.keep {w w' : World} {B R n c : Nat} {M : List Nat} (h : Fam w B R n c M) (hB : w'.heap[B]? = w.heap[B]?) (hR : w'.heap[R]? = w.heap[R]?) : Fam w' B R n c M := by
  obtain ⟨cp, hb⟩ := h.fb
  obtain ⟨Z, hr⟩ := h.rb
  exact ⟨⟨cp, hB.trans hb⟩, ⟨Z, hR.trans hr⟩, h.len, h.small, h.n5, h.c1, h.ne⟩
theorem Fam.below {w w' : World} {B R n c : Nat} {M : List Nat} (h : Fam w B R n c M) (hb : Below w.heap.size w w') : Fam w' B R n c M := h.keep (hb.block _ h.lt.1) (hb.block _ h.lt.2)
theorem infoNum : (Tryz.prog.info? 152).map (fun i => (i.zero, i.size, i.bytes)) = some (some (.agg #[.int .u64 0, .int .u64 0, .int .u64 0, .int .u64 0, .int .u64 0, .int .u64 0, .int .u64 0, .int .u64 0, .int .u64 0, .int .u64 0, .int .u64 0, .int .u64 0, .int .u64 0, .int .u64 0, .int .u64 0, .int .u64 0]), 16, 128) := by kernel_rfl
theorem made (n : Nat) : madeCells (Value.agg #[.int .u64 0, .int .u64 0, .int .u64 0, .int .u64 0, .int .u64 0, .int .u64 0, .int .u64 0, .int .u64 0, .int .u64 0, .int .u64 0, .int .u64 0, .int .u64 0, .int .u64 0, .int .u64 0, .int .u64 0, .int .u64 0]).cells n = encM (List.replicate n 0) := by
  unfold encM
  apply Array.ext
  · simp [size_madeCells]
  · intro i h1 h2
    have h16 : i % 16 < 16 := Nat.mod_lt _ (by omega)
    simp only [madeCells, Array.getElem_map, Array.getElem_range, List.map_replicate, List.getElem_toArray, List.getElem_replicate]
    show (#[Value.int .u64 0, .int .u64 0, .int .u64 0, .int .u64 0, .int .u64 0, .int .u64 0, .int .u64 0, .int .u64 0, .int .u64 0, .int .u64 0, .int .u64 0, .int .u64 0, .int .u64 0, .int .u64 0, .int .u64 0, .int .u64 0] : Array Value)[i % 16]! = _
    generalize i % 16 = k at h16
    match k, h16 with
    | 0, _ => rfl
    | 1, _ => rfl
    | 2, _ => rfl
    | 3, _ => rfl
    | 4, _ => rfl
    | 5, _ => rfl
    | 6, _ => rfl
    | 7, _ => rfl
    | 8, _ => rfl
    | 9, _ => rfl
    | 10, _ => rfl
    | 11, _ => rfl
    | 12, _ => rfl
    | 13, _ => rfl
    | 14, _ => rfl
    | 15, _ => rfl
    | k + 16, h => exact absurd h (by omega)
theorem fam_made (X : World) (k j : Nat) (h : k ≤ 5000) (h2 : j ≤ 1000) : Fam ((X.alloc (.cells (encM (List.replicate (k * 16) 0)) 152)).alloc (.cells #[.slice (some ⟨X.heap.size, 0, none⟩) k k, .int .i64 j] 174)) (X.heap.size + 1) X.heap.size k j (List.replicate (k * 16) 0) := by
  refine ⟨?_, ?_, by simp, fun x hx => ?_, h, h2, by omega⟩
  · refine ⟨k, ?_⟩
    have := heap_alloc_new (X.alloc (.cells (encM (List.replicate (k * 16) 0)) 152)) (.cells #[.slice (some ⟨X.heap.size, 0, none⟩) k k, .int .i64 j] 174)
    simpa using this
  · refine ⟨#[], ?_⟩
    rw [Array.append_empty]
    exact (Below.heap_alloc _ _ _ (by simp)).trans (heap_alloc_new X _)
  · rw [List.eq_of_mem_replicate hx]; omega
def NewPost (n c : Int) (w : World) (e : Ending) (w' : World) : Prop := ∃ B R, e = .returned (.pointer (some ⟨B, 0, none⟩)) ∧ Fam w' B R (within n 5000).toNat (within c 1000).toNat (List.replicate ((within n 5000).toNat * 16) 0) ∧ Below w.heap.size w w' ∧ w.heap.size ≤ B ∧ w.heap.size ≤ R
theorem within_le (n most : Int) (h : 0 ≤ most) : 0 ≤ within n most ∧ within n most ≤ most := by unfold within; omega
set_option maxRecDepth 100000 in
theorem new_ (n c : Int) (w : World) : Calls Tryz.prog 124 #[.int .i64 n, .int .i64 c] w (NewPost n c w) := by
  obtain ⟨i0, hi, hz0, hz1, hz2⟩ := info_parts infoNum
  have hn := within_le n 5000 (by omega)
  have hc := within_le c 1000 (by omega)
  unfold NewPost
  have HW1 := Lib.hid (within_ n 5000)
  have HW2 := Lib.hid (within_ c 1000)
  generalize within n 5000 = N at *
  generalize within c 1000 = C at *
  obtain ⟨k, rfl⟩ : ∃ k : Nat, N = k := ⟨N.toNat, by omega⟩
  obtain ⟨j, rfl⟩ : ∃ k : Nat, C = k := ⟨C.toNat, by omega⟩
  have mk := fun (w : World) => run_make (P := Tryz.prog) w 172 152 i0 _ Tryz.underlying172 hi hz0 .i64 .i64 k k (by omega) (by omega) (by rw [hz2]; omega) (by omega)
  rw [hz1] at mk
  simp only [Int.toNat_natCast, made] at mk ⊢
  clear hi hz0 hz1 hz2
  go_enter Tryz.func124, Tryz.ntmps124
  go_wp2_with fail
  go_region_with (first | ((with_reducible refine (HW1.out _).mono ?_); rintro e w' ⟨rfl, rfl⟩) | ((with_reducible refine (HW2.out _).mono ?_); rintro e w' ⟨rfl, rfl⟩))
  all_goals
    go_wp2_with fail
    go_ret
    exact ⟨w.heap.size + 1, w.heap.size, rfl, (fam_made w k j (by omega) (by omega)).drewN 1, (((Below.refl _ w).alloc (Nat.le_refl _) _).alloc (by simp) _).drew, by omega, by omega⟩
end Go.Proofs.YtcmdiomjhideiaaGreatDoor.SetA
/- Families of sets of numbers: Rows, Cols, may, Has, Add, by contract. -/
namespace Go.Proofs.YtcmdiomjhideiaaGreatDoor.SetB
set_option linter.unusedVariables false
set_option linter.unusedSimpArgs false
open Go.RowKit Go.Lib Go.Proofs Go.Proofs.YtcmdiomjhideiaaGreatDoor.SetPop Go.Proofs.YtcmdiomjhideiaaGreatDoor.SetA
set_option linter.unusedVariables false
set_option linter.unusedSimpArgs false
theorem ret_bool {a b : Bool} (h : a = b) : Ending.returned (.bool a) = .returned (.bool b) := by rw [h]
set_option maxRecDepth 100000 in
theorem rows (B R n c : Nat) (M : List Nat) (w : World) (h : Fam w B R n c M) : Calls Tryz.prog 125 #[.pointer (some ⟨B, 0, none⟩)] w fun e w' => e = .returned (.int .i64 n) ∧ w = w' := by
  obtain ⟨cp, h0, _⟩ := h.b0
  have h5 := h.n5
  clear h
  go_enter Tryz.func125, Tryz.ntmps125
  go_wp2
  go_ret
  exact ⟨rfl, rfl⟩
set_option maxRecDepth 100000 in
theorem cols (B R n c : Nat) (M : List Nat) (w : World) (h : Fam w B R n c M) : Calls Tryz.prog 252 #[.pointer (some ⟨B, 0, none⟩)] w fun e w' => e = .returned (.int .i64 c) ∧ w = w' := by
  obtain ⟨cp, _, h0⟩ := h.b0
  have h5 := h.c1
  clear h
  go_enter Tryz.func252, Tryz.ntmps252
  go_wp2
  go_ret
  exact ⟨rfl, rfl⟩
def mayB (n c : Nat) (r k : Int) : Bool := decide (0 ≤ r ∧ r < n ∧ 0 ≤ k ∧ k < c)
set_option maxRecDepth 100000 in
theorem may (B R n c : Nat) (M : List Nat) (r k : Int) (w : World) (h : Fam w B R n c M) : Calls Tryz.prog 211 #[.pointer (some ⟨B, 0, none⟩), .int .i64 r, .int .i64 k] w fun e w' => e = .returned (.bool (mayB n c r k)) ∧ w = w' := by
  have H1 := Lib.hid (rows B R n c M w h)
  have H2 := Lib.hid (cols B R n c M w h)
  clear h
  go_enter Tryz.func211, Tryz.ntmps211
  go_wp2_with (first | ((with_reducible refine H1.out.mono ?_); rintro e w' ⟨rfl, rfl⟩) | ((with_reducible refine H2.out.mono ?_); rintro e w' ⟨rfl, rfl⟩))
  all_goals
    go_ret
    refine ⟨ret_bool ?_, rfl⟩
    unfold mayB
    first | (symm; apply decide_eq_false; omega) | (apply decide_eq_decide.2; omega)
/-- The word where that number of that set is. -/
def word (M : List Nat) (r k : Nat) : Nat := M.getD (r * 16 + k / 64) 0
def bitAt (M : List Nat) (r k : Nat) : Bool := (word M r k).testBit (k % 64)
def hasB (n c : Nat) (M : List Nat) (r k : Int) : Bool := mayB n c r k && bitAt M r.toNat k.toNat
theorem and_bit (x j : Nat) : (((x &&& 2 ^ j : Nat) : Int) != 0) = x.testBit j := by
  cases h : x.testBit j with
  | true =>
    have : x &&& 2 ^ j ≠ 0 := fun e => by
      have h2 : (x &&& 2 ^ j).testBit j = true := by rw [Nat.testBit_and, h, Nat.testBit_two_pow_self]; rfl
      rw [e, Nat.zero_testBit] at h2
      cases h2
    simp only [bne_iff_ne, ne_eq]; omega
  | false =>
    have : x &&& 2 ^ j = 0 := by
      apply Nat.eq_of_testBit_eq
      intro i
      rw [Nat.testBit_and, Nat.zero_testBit, Nat.testBit_two_pow]
      by_cases e : j = i
      · subst e; rw [h]; rfl
      · simp [e]
    rw [this]; rfl
theorem word_small {w : World} {B R n c : Nat} {M : List Nat} (h : Fam w B R n c M) (r k : Nat) : word M r k < 18446744073709551616 := by
  unfold word
  rw [List.getD_eq_getElem?_getD]
  cases e : M[r * 16 + k / 64]? with
  | none => simp
  | some x => exact h.small x (List.mem_of_getElem? e)
theorem word_cell {w : World} {B R n c : Nat} {M : List Nat} (h : Fam w B R n c M) (r k : Nat) (hr : r < n) (hk : k < c) : w.cell? ⟨R, r * 16 + k / 64, none⟩ = some (.int .u64 (word M r k)) := by
  have h1 := h.c1
  have hl := h.len
  have : r * 16 + k / 64 < M.length := by omega
  rw [h.at_ _ this]
  unfold word
  rw [List.getD_eq_getElem?_getD, List.getElem?_eq_getElem this]; rfl
set_option maxRecDepth 100000 in
theorem has_yes (B R n c : Nat) (M : List Nat) (r k : Nat) (w : World) (h : Fam w B R n c M) (hr : r < n) (hk : k < c) : Calls Tryz.prog 174 #[.pointer (some ⟨B, 0, none⟩), .int .i64 r, .int .i64 k] w fun e w' => e = .returned (.bool (bitAt M r k)) ∧ ∃ q, w' = w.drewN q := by
  have hm : mayB n c r k = true := decide_eq_true (by omega)
  have H1 := fun w h => may B R n c M r k w h
  rw [hm] at H1
  have H2 := Lib.hid (fun w => bit_ k (by have := h.c1; omega) w)
  have HF : Hid (∀ q, Fam (w.drewN q) B R n c M) := Lib.hid (fun q => h.drewN q)
  have H1 := Lib.hid H1
  obtain ⟨cp, h0, _⟩ := h.b0
  have hw := word_cell h r k hr hk
  have hs := word_small h r k
  have h5 := h.n5
  have h6 := h.c1
  have hp := pow_lt (k % 64) (by omega)
  have hand := bits_and_u64_nat (word M r k) (2 ^ (k % 64)) hs hp
  have HB : Hid ((((word M r k &&& 2 ^ (k % 64) : Nat) : Int) != 0) = bitAt M r k) := Lib.hid (and_bit _ _)
  have hj16 : k / 64 < 16 := by omega
  have e1 : (k : Int) / 64 = ((k / 64 : Nat) : Int) := by omega
  generalize k / 64 = j at e1 hw hj16
  generalize word M r k = x at *
  generalize 2 ^ (k % 64) = p at *
  clear h hm hs
  go_enter Tryz.func174, Tryz.ntmps174
  go_wp2_with fail
  go_quiet ((first | (go_at_call 211; exact Calls.quiet_of_same ((H1.out _ (HF.out _)).mono fun e w' h => ⟨h.1, h.2.symm⟩)) | (go_at_call 212; exact Calls.quiet_of_same ((H2.out _).mono fun e w' h => ⟨h.1, h.2.symm⟩))))
  go_wp2_with fail
  go_ret
  exact ⟨ret_bool HB.out, _, rfl⟩
set_option maxRecDepth 100000 in
theorem has_no (B R n c : Nat) (M : List Nat) (r k : Int) (w : World) (h : Fam w B R n c M) (hm : mayB n c r k = false) : Calls Tryz.prog 174 #[.pointer (some ⟨B, 0, none⟩), .int .i64 r, .int .i64 k] w fun e w' => e = .returned (.bool false) ∧ ∃ q, w' = w.drewN q := by
  have H1 := fun w h => may B R n c M r k w h
  rw [hm] at H1
  have HF : Hid (∀ q, Fam (w.drewN q) B R n c M) := Lib.hid (fun q => h.drewN q)
  have HH := Lib.hid H1
  clear hm h H1
  go_enter Tryz.func174, Tryz.ntmps174
  go_wp2_with fail
  go_quiet ((first | (go_at_call 211; exact Calls.quiet_of_same ((HH.out _ (HF.out _)).mono fun e w' h => ⟨h.1, h.2.symm⟩))))
  go_wp2_with fail
  go_ret
  exact ⟨rfl, _, rfl⟩
theorem mayB_iff {n c : Nat} {r k : Int} : mayB n c r k = true ↔ 0 ≤ r ∧ r < n ∧ 0 ≤ k ∧ k < c := by unfold mayB; simp
theorem has_ (B R n c : Nat) (M : List Nat) (r k : Int) (w : World) (h : Fam w B R n c M) : Calls Tryz.prog 174 #[.pointer (some ⟨B, 0, none⟩), .int .i64 r, .int .i64 k] w fun e w' => e = .returned (.bool (hasB n c M r k)) ∧ ∃ q, w' = w.drewN q := by
  unfold hasB
  cases hm : mayB n c r k with
  | false => exact has_no B R n c M r k w h hm
  | true =>
    obtain ⟨a1, a2, a3, a4⟩ := mayB_iff.1 hm
    obtain ⟨r', rfl⟩ : ∃ q : Nat, r = q := ⟨r.toNat, by omega⟩
    obtain ⟨k', rfl⟩ : ∃ q : Nat, k = q := ⟨k.toNat, by omega⟩
    exact has_yes B R n c M r' k' w h (by omega) (by omega)
/-- The words behind an Add. -/
def addM (M : List Nat) (r k : Nat) : List Nat := M.set (r * 16 + k / 64) (word M r k ||| 2 ^ (k % 64))
def AddYes (B R n c : Nat) (M : List Nat) (w : World) (e : Ending) (w' : World) : Prop := e = .returned (.bool true) ∧ Fam w' B R n c M ∧ w.grownBy w' (some R)
theorem fam_add {w : World} {B R n c : Nat} {M : List Nat} (h : Fam w B R n c M) (i x : Nat) (hi : i < M.length) (hx : x < 18446744073709551616) : Fam (w.setCell ⟨R, i, none⟩ (.int .u64 x)) B R n c (M.set i x) := by
  obtain ⟨cp, hfb⟩ := h.fb
  obtain ⟨Z, hb⟩ := h.rb
  refine ⟨⟨cp, ?_⟩, ⟨Z, ?_⟩, ?_, ?_, h.n5, h.c1, h.ne⟩
  · rw [Below.heap_setCell _ _ _ _ (Ne.symm h.ne)]; exact hfb
  · show (w.heap.modify R _)[R]? = _
    rw [Array.getElem?_modify, if_pos rfl, hb]
    simp only [Option.map_some, Option.some.injEq]
    show Obj.cells ((encM M ++ Z).setIfInBounds i (.int .u64 x)) _ _ = _
    congr 1
    have e : encM (M.set i x) = (encM M).setIfInBounds i (.int .u64 x) := by
      unfold encM
      simp [List.map_set]
    rw [e]
    exact Array.setIfInBounds_append_left (by rw [encM_size]; exact hi)
  · simp [h.len]
  · intro y hy
    rcases List.mem_or_eq_of_mem_set hy with hy | rfl
    · exact h.small y hy
    · exact hx
theorem grew_set (w : World) (a : Addr) (v : Value) : w.grownBy (w.setCell a v) (some a.block) := ⟨rfl, rfl, rfl, by simp [World.setCell], fun k hk hne => Below.heap_setCell _ _ _ _ (fun e => hne (by rw [e]))⟩
theorem Fam.free {w : World} {B R n c : Nat} {M : List Nat} (h : Fam w B R n c M) (i : Nat) : w.frozen? ⟨R, i, none⟩ = false := by
  obtain ⟨Z, hb⟩ := h.rb
  unfold World.frozen?
  rw [hb]
  rfl
theorem still_tail {P : Program} {id : Nat} {Q : Exit → Act → World → Prop} {a : Act} {w : World} {l : List Oper} (n : Nat) (hm : P.follows .mixedOrders = true) (hB : Region.lexTailB .any l.toArray n = true)
    (h : wpStill P l.toArray w.drew (fun a' => wpList P l.toArray Q (l.drop n) a' w.drew) (l.take n) a) : (Code.region id l.toArray true).wp P Q a w := wp_region_still_tail n hm hB h
set_option maxRecDepth 100000 in
theorem add_yes (B R n c : Nat) (M : List Nat) (r k : Nat) (w : World) (h : Fam w B R n c M) (hr : r < n) (hk : k < c) (hb : bitAt M r k = false) : Calls Tryz.prog 210 #[.pointer (some ⟨B, 0, none⟩), .int .i64 r, .int .i64 k] w (AddYes B R n c (addM M r k) w) := by
  have hm : mayB n c r k = true := decide_eq_true (by omega)
  have H1 := may B R n c M r k w h
  rw [hm] at H1
  have H3 := has_ B R n c M r k w h
  unfold hasB at H3
  rw [hm, Int.toNat_natCast, Int.toNat_natCast, hb] at H3
  simp only [Bool.true_and] at H3
  have H2 := Lib.hid (fun w => bit_ k (by have := h.c1; omega) w)
  have hw := word_cell h r k hr hk
  have hs := word_small h r k
  have hfree := Fam.free h (r * 16 + k / 64)
  have h5 := h.n5
  have h6 := h.c1
  have hp := pow_lt (k % 64) (by omega)
  have hand := bits_or_u64_nat (word M r k) (2 ^ (k % 64)) hs hp
  have hlt : word M r k ||| 2 ^ (k % 64) < 18446744073709551616 := by
    have := Nat.or_lt_two_pow (n := 64) (x := word M r k) (y := 2 ^ (k % 64)) (by omega) (by omega)
    omega
  have hilt : r * 16 + k / 64 < M.length := by have := h.len; have := h.c1; omega
  have HFin : Hid (∀ q, Fam ((w.drewN q).setCell ⟨R, r * 16 + k / 64, none⟩ (.int .u64 ((word M r k ||| 2 ^ (k % 64) : Nat) : Int))) B R n c (addM M r k)) := Lib.hid (fun q => fam_add (h.drewN q) _ _ hilt hlt)
  obtain ⟨cp, h0, _⟩ := h.b0
  generalize word M r k = x at *
  have hj16 : k / 64 < 16 := by omega
  have e1 : (k : Int) / 64 = ((k / 64 : Nat) : Int) := by omega
  generalize k / 64 = j at e1 hw hj16 HFin hfree
  have ew : IntKind.i64.wrap (j : Int) = j := by rw [IntKind.wrap_i64]; omega
  have p0 : (0 : Int) ≤ j := by omega
  have p1 : (j : Int) < 16 := by omega
  generalize 2 ^ (k % 64) = p at *
  generalize x ||| p = y at *
  generalize addM M r k = M' at *
  have HL := h.lt
  have HH1 := Lib.hid H1
  have HH3 := Lib.hid H3
  clear h hm hs hb H1 H3 hilt
  go_enter Tryz.func210, Tryz.ntmps210
  go_wp2_with (first | ((with_reducible refine HH1.out.mono ?_); rintro e w' ⟨rfl, rfl⟩) | ((with_reducible refine HH3.out.mono ?_); rintro e w' ⟨rfl, q, rfl⟩))
  refine still_tail 15 (by kernel_rfl) (by kernel_rfl) ?_
  simp only [List.take_succ_cons, List.take_zero, List.drop_succ_cons, List.drop_zero]
  repeat still_step
  still_call ((H2.out _).mono fun e w' h => ⟨h.1, h.2.symm⟩)
  repeat still_step
  refine wpStill_nil ?_
  go_wp2
  go_ret
  have g := grew_set (w.drewN (q + 1)) ⟨R, r * 16 + j, none⟩ (.int .u64 y)
  exact ⟨rfl, HFin.out (q + 1), g.os, g.tape, g.output, g.size, g.block⟩
theorem grew_drewN (w : World) (q : Nat) (row : Option Nat) : w.grownBy (w.drewN q) row := ⟨rfl, rfl, rfl, Nat.le_refl _, fun _ _ _ => rfl⟩
def addB (n c : Nat) (M : List Nat) (r k : Int) : Bool := mayB n c r k && !bitAt M r.toNat k.toNat
def addN (n c : Nat) (M : List Nat) (r k : Int) : List Nat := if addB n c M r k then addM M r.toNat k.toNat else M
def AddPost (B R n c : Nat) (M : List Nat) (r k : Int) (w : World) (e : Ending) (w' : World) : Prop := e = .returned (.bool (addB n c M r k)) ∧ Fam w' B R n c (addN n c M r k) ∧ w.grownBy w' (some R)
set_option maxRecDepth 100000 in
theorem add_no (B R n c : Nat) (M : List Nat) (r k : Int) (w : World) (h : Fam w B R n c M) (hb : addB n c M r k = false) : Calls Tryz.prog 210 #[.pointer (some ⟨B, 0, none⟩), .int .i64 r, .int .i64 k] w (AddPost B R n c M r k w) := by
  have e1 : addN n c M r k = M := by unfold addN; rw [hb]; rfl
  unfold AddPost
  rw [e1, hb]
  have HF : Hid (∀ q, Fam (w.drewN q) B R n c M ∧ w.grownBy (w.drewN q) (some R)) := Lib.hid (fun q => ⟨h.drewN q, grew_drewN _ _ _⟩)
  have H1 := Lib.hid (may B R n c M r k w h)
  have H2 := has_ B R n c M r k w h
  unfold hasB at H2
  unfold addB at hb
  clear e1 h
  cases hm : mayB n c r k with
  | false =>
    rw [hm] at H1
    clear H2 hb hm
    go_enter Tryz.func210, Tryz.ntmps210
    go_wp2_with ((with_reducible refine H1.out.mono ?_); rintro e w' ⟨rfl, rfl⟩)
    go_ret
    exact ⟨rfl, HF.out 0⟩
  | true =>
    rw [hm] at H1 H2 hb
    have hbit : bitAt M r.toNat k.toNat = true := by simpa using hb
    rw [hbit] at H2
    have HH2 := Lib.hid H2
    clear hb hm hbit H2
    go_enter Tryz.func210, Tryz.ntmps210
    go_wp2_with (first | ((with_reducible refine H1.out.mono ?_); rintro e w' ⟨rfl, rfl⟩) | ((with_reducible refine HH2.out.mono ?_); rintro e w' ⟨rfl, q, rfl⟩))
    go_ret
    exact ⟨rfl, HF.out q⟩
theorem add_ (B R n c : Nat) (M : List Nat) (r k : Int) (w : World) (h : Fam w B R n c M) : Calls Tryz.prog 210 #[.pointer (some ⟨B, 0, none⟩), .int .i64 r, .int .i64 k] w (AddPost B R n c M r k w) := by
  cases hb : addB n c M r k with
  | false => exact add_no B R n c M r k w h hb
  | true =>
    have hb' := hb
    unfold addB at hb
    rw [Bool.and_eq_true] at hb
    obtain ⟨hm, hbit⟩ := hb
    obtain ⟨a1, a2, a3, a4⟩ := mayB_iff.1 hm
    obtain ⟨r', rfl⟩ : ∃ q : Nat, r = q := ⟨r.toNat, by omega⟩
    obtain ⟨k', rfl⟩ : ∃ q : Nat, k = q := ⟨k.toNat, by omega⟩
    unfold AddPost addN
    rw [hb', if_pos rfl, Int.toNat_natCast, Int.toNat_natCast]
    exact add_yes B R n c M r' k' w h (by omega) (by omega) (by simpa using hbit)
end Go.Proofs.YtcmdiomjhideiaaGreatDoor.SetB
/- Families of sets of numbers: a set as it is now, Len, Total, by contract. -/
namespace Go.Proofs.YtcmdiomjhideiaaGreatDoor.SetC
set_option linter.unusedVariables false
set_option linter.unusedSimpArgs false
open Go.RowKit Go.Lib Go.Proofs Go.Proofs.YtcmdiomjhideiaaGreatDoor.SetPop Go.Proofs.YtcmdiomjhideiaaGreatDoor.SetA Go.Proofs.YtcmdiomjhideiaaGreatDoor.SetB
set_option linter.unusedVariables false
set_option linter.unusedSimpArgs false
/-- The words of a set. -/
def rowM (M : List Nat) (r : Nat) : List Nat := (M.drop (r * 16)).take 16
def rowI (n : Nat) (M : List Nat) (r : Int) : List Nat := if 0 ≤ r ∧ r < n then rowM M r.toNat else List.replicate 16 0
theorem rowM_len {M : List Nat} {n r : Nat} (hl : M.length = n * 16) (hr : r < n) : (rowM M r).length = 16 := by unfold rowM; simp; omega
theorem rowM_get {M : List Nat} {r j : Nat} (hj : j < 16) : (rowM M r)[j]? = M[r * 16 + j]? := by
  unfold rowM
  rw [List.getElem?_take, if_pos hj, List.getElem?_drop]
theorem rowI_len {M : List Nat} {n : Nat} (hl : M.length = n * 16) (r : Int) : (rowI n M r).length = 16 := by
  unfold rowI
  split
  · exact rowM_len (r := r.toNat) hl (by omega)
  · simp
theorem one_all (M : List Nat) : (encM M).all (·.oneCell') = true := by
  rw [Array.all_eq_true_iff_forall_mem]
  intro v hv
  unfold encM at hv
  rw [List.mem_toArray, List.mem_map] at hv
  obtain ⟨x, _, rfl⟩ := hv
  rfl
theorem sizeNum : (Tryz.prog.info? 152).map (·.size) = some 16 := by kernel_rfl
def AtPost (n : Nat) (M : List Nat) (r : Int) (w : World) (e : Ending) (w' : World) : Prop := e = .returned (.agg (encM (rowI n M r))) ∧ Below w.heap.size w w'
set_option maxRecDepth 100000 in
theorem at_yes (B R n c : Nat) (M : List Nat) (r : Nat) (w : World) (h : Fam w B R n c M) (hr : r < n) : Calls Tryz.prog 130 #[.pointer (some ⟨B, 0, none⟩), .int .i64 r] w (AtPost n M r w) := by
  have hlen := rowM_len h.len hr
  have e1 : rowI n M (r : Int) = rowM M r := by unfold rowI; rw [if_pos (by omega)]; rfl
  unfold AtPost
  rw [e1]
  obtain ⟨T, hT⟩ : ∃ T, rowM M r = T := ⟨_, rfl⟩
  have HR : Hid (∀ o, (w.alloc o).rangeAt R (r * 16) (encM T).toList) := Lib.hid (fun o j v hv => by
    have hj : j < 16 := by
      have := (List.getElem?_eq_some_iff.1 hv).1
      rw [Array.length_toList, encM_size, ← hT, hlen] at this
      exact this
    have hb : (w.alloc o).cell? ⟨R, r * 16 + j, none⟩ = w.cell? ⟨R, r * 16 + j, none⟩ := World.cell?_of_block (w := w) (Below.heap_alloc w o R h.lt.2)
    rw [hb, h.at_ _ (by have := h.len; omega), ← rowM_get hj, hT]
    rw [Array.getElem?_toList, encM_get] at hv
    exact hv)
  have HN : Hid (∀ o, Fam (w.alloc o) B R n c M) := Lib.hid (fun o => h.below ((Below.refl _ _).alloc (Nat.le_refl _) o))
  have H1 : Hid (∀ w', Fam w' B R n c M → Calls Tryz.prog 125 #[.pointer (some ⟨B, 0, none⟩)] w' fun e w'' => e = .returned (.int .i64 n) ∧ w' = w'') := Lib.hid (fun w' hw => rows B R n c M w' hw)
  obtain ⟨cp, h0, _⟩ := h.b0
  have h5 := h.n5
  have hBR := h.lt
  rw [hT] at hlen ⊢
  have hs : (encM T).size = 16 := by rw [encM_size, hlen]
  have hs' : (encM T).toList.length = 16 := by rw [Array.length_toList, hs]
  have HS := Lib.hid hs
  have HS' := Lib.hid hs'
  have h1 := one_all T
  have H1c := Lib.hid h1
  clear hT e1 hlen h hs hs' h1
  generalize encM T = E at *
  go_enter Tryz.func130, Tryz.ntmps130
  go_wp2_with fail
  go_wp2_with (first | ((with_reducible refine (H1.out _ (HN.out _)).mono ?_); rintro e w' ⟨rfl, rfl⟩) | (with_reducible refine wpList_load_mid rfl 152 _ rfl R (r * 16) rfl E.toList _ (HR.out _) Tryz.underlying152 rfl (by rw [HS'.out]; exact sizeNum) ?_) | (refine wpList_store_row rfl 152 _ _ rfl w.heap.size E rfl rfl 152 _ (heap_alloc_new w _) (by rw [HS.out]; exact sizeNum) (by rw [HS.out]; rfl) H1c.out ?_; rw [World.setRow_alloc_new]))
  refine bodyPost_ret (v := .agg E) (results_cell_row (fn := Tryz.f130) rfl _ _ w.heap.size 152 E (0, 0) _ rfl (heap_alloc_new w _) Tryz.underlying152 rfl (by rw [HS.out]; exact sizeNum)) rfl ⟨rfl, (Below.refl _ _).alloc (Nat.le_refl _) _⟩
theorem zeros16 : encM (List.replicate 16 0) = #[.int .u64 0, .int .u64 0, .int .u64 0, .int .u64 0, .int .u64 0, .int .u64 0, .int .u64 0, .int .u64 0, .int .u64 0, .int .u64 0, .int .u64 0, .int .u64 0, .int .u64 0, .int .u64 0, .int .u64 0, .int .u64 0] := by rfl
set_option maxRecDepth 100000 in
theorem at_no (B R n c : Nat) (M : List Nat) (r : Int) (w : World) (h : Fam w B R n c M) (hr : ¬ (0 ≤ r ∧ r < n)) : Calls Tryz.prog 130 #[.pointer (some ⟨B, 0, none⟩), .int .i64 r] w (AtPost n M r w) := by
  have e1 : rowI n M r = List.replicate 16 0 := by unfold rowI; rw [if_neg hr]
  unfold AtPost
  rw [e1, zeros16]
  have HN : Hid (∀ o, Fam (w.alloc o) B R n c M) := Lib.hid (fun o => h.below ((Below.refl _ _).alloc (Nat.le_refl _) o))
  have H1 : Hid (∀ w', Fam w' B R n c M → Calls Tryz.prog 125 #[.pointer (some ⟨B, 0, none⟩)] w' fun e w'' => e = .returned (.int .i64 n) ∧ w' = w'') := Lib.hid (fun w' hw => rows B R n c M w' hw)
  have h5 := h.n5
  clear e1 h
  by_cases hneg : r < 0
  · clear hr
    go_enter Tryz.func130, Tryz.ntmps130
    go_wp2_with fail
    refine bodyPost_ret (results_cell_row (fn := Tryz.f130) rfl _ _ w.heap.size 152 _ (0, 0) _ rfl (heap_alloc_new w _) Tryz.underlying152 rfl sizeNum) rfl ⟨rfl, (Below.refl _ _).alloc (Nat.le_refl _) _⟩
  · have hge : (n : Int) ≤ r := by omega
    have h0 : 0 ≤ r := by omega
    clear hr hneg
    go_enter Tryz.func130, Tryz.ntmps130
    go_wp2_with ((with_reducible refine (H1.out _ (HN.out _)).mono ?_); rintro e w' ⟨rfl, rfl⟩)
    refine bodyPost_ret (results_cell_row (fn := Tryz.f130) rfl _ _ w.heap.size 152 _ (0, 0) _ rfl (heap_alloc_new w _) Tryz.underlying152 rfl sizeNum) rfl ⟨rfl, (Below.refl _ _).alloc (Nat.le_refl _) _⟩
theorem at_ (B R n c : Nat) (M : List Nat) (r : Int) (w : World) (h : Fam w B R n c M) : Calls Tryz.prog 130 #[.pointer (some ⟨B, 0, none⟩), .int .i64 r] w (AtPost n M r w) := by
  by_cases hr : 0 ≤ r ∧ r < n
  · obtain ⟨r', rfl⟩ : ∃ q : Nat, r = q := ⟨r.toNat, by omega⟩
    exact at_yes B R n c M r' w h (by omega)
  · exact at_no B R n c M r w h hr
/-- How many numbers a set has. -/
def cnt (T : List Nat) : Nat := (T.map pop).sum
theorem pop_le (x : Nat) : pop x ≤ 64 := by
  unfold pop
  have := List.countP_le_length (p := fun i => x.testBit i) (l := List.range 64)
  simpa using this
theorem cnt_le (T : List Nat) : cnt T ≤ 64 * T.length := by
  unfold cnt
  induction T with
  | nil => simp
  | cons a T ih => have := pop_le a; simp; omega
/-- The words of a set are below 2 to 64. -/
theorem rowI_small {w : World} {B R n c : Nat} {M : List Nat} (h : Fam w B R n c M) (r : Int) : ∀ x ∈ rowI n M r, x < 18446744073709551616 := by
  intro x hx
  unfold rowI at hx
  split at hx
  · exact h.small x (List.mem_of_mem_drop (List.mem_of_mem_take hx))
  · rw [List.eq_of_mem_replicate hx]; omega
set_option maxRecDepth 100000 in
theorem idx (T : List Nat) (k : Nat) (hT : T.length = 16) (hk : k < 16) (w : World) : (Instr.index 152 (.agg (encM T)) (.int .i64 k)).run Tryz.prog w = .ok (.int .u64 (T.getD k 0)) w := by
  match T, hT with
  | [a0, a1, a2, a3, a4, a5, a6, a7, a8, a9, a10, a11, a12, a13, a14, a15], _ =>
    match k, hk with
    | 0, _ => rfl
    | 1, _ => rfl
    | 2, _ => rfl
    | 3, _ => rfl
    | 4, _ => rfl
    | 5, _ => rfl
    | 6, _ => rfl
    | 7, _ => rfl
    | 8, _ => rfl
    | 9, _ => rfl
    | 10, _ => rfl
    | 11, _ => rfl
    | 12, _ => rfl
    | 13, _ => rfl
    | 14, _ => rfl
    | 15, _ => rfl
    | k + 16, h => exact absurd h (by omega)
end Go.Proofs.YtcmdiomjhideiaaGreatDoor.SetC
/- Families of sets of numbers: Total, inside, Inside, Meets, by contract. -/
namespace Go.Proofs.YtcmdiomjhideiaaGreatDoor.SetD
set_option linter.unusedVariables false
set_option linter.unusedSimpArgs false
open Go.RowKit Go.Lib Go.Proofs Go.Proofs.YtcmdiomjhideiaaGreatDoor.SetPop Go.Proofs.YtcmdiomjhideiaaGreatDoor.SetA Go.Proofs.YtcmdiomjhideiaaGreatDoor.SetB Go.Proofs.YtcmdiomjhideiaaGreatDoor.SetC
set_option linter.unusedVariables false
set_option linter.unusedSimpArgs false
/-- How many numbers the first k sets have together. -/
def tot (n : Nat) (M : List Nat) (k : Nat) : Nat := ((List.range k).map fun r : Nat => cnt (rowI n M r)).sum
theorem tot_succ (n : Nat) (M : List Nat) (k : Nat) : tot n M (k + 1) = tot n M k + cnt (rowI n M k) := by
  unfold tot
  rw [List.range_succ, List.map_append, List.sum_append]
  simp
theorem cntI_le {n : Nat} {M : List Nat} (hl : M.length = n * 16) (r : Int) : cnt (rowI n M r) ≤ 1024 := by
  have := cnt_le (rowI n M r)
  rw [rowI_len hl] at this
  exact this
theorem tot_le {n : Nat} {M : List Nat} (hl : M.length = n * 16) (k : Nat) : tot n M k ≤ k * 1024 := by
  induction k with
  | zero => simp [tot]
  | succ k ih => have := cntI_le hl (k : Int); rw [tot_succ]; omega
/-- The bits of x that y hasn't. -/
def andN (x y : Nat) : Nat := (BitVec.ofNat 64 x &&& ~~~ BitVec.ofNat 64 y).toNat
def insideB (A B : List Nat) : Bool := (List.range 16).all fun k => andN (A.getD k 0) (B.getD k 0) == 0
def meetsB (A B : List Nat) : Bool := (List.range 16).any fun k => (A.getD k 0 &&& B.getD k 0) != 0
end Go.Proofs.YtcmdiomjhideiaaGreatDoor.SetD
/- Families of sets of numbers: what was added is in; the document's example. -/
namespace Go.Proofs.YtcmdiomjhideiaaGreatDoor.SetE
set_option linter.unusedVariables false
set_option linter.unusedSimpArgs false
open Go.RowKit Go.Lib Go.Proofs Go.Proofs.YtcmdiomjhideiaaGreatDoor.SetPop Go.Proofs.YtcmdiomjhideiaaGreatDoor.SetA Go.Proofs.YtcmdiomjhideiaaGreatDoor.SetB Go.Proofs.YtcmdiomjhideiaaGreatDoor.SetC Go.Proofs.YtcmdiomjhideiaaGreatDoor.SetD
set_option linter.unusedVariables false
set_option linter.unusedSimpArgs false
theorem addM_len (M : List Nat) (r k : Nat) : (addM M r k).length = M.length := by unfold addM; simp
theorem addN_len (n c : Nat) (M : List Nat) (r k : Int) : (addN n c M r k).length = M.length := by unfold addN; split <;> simp [addM_len]
theorem bit_addM (M : List Nat) (r k r' k' : Nat) (h : r * 16 + k / 64 < M.length) (hk : k < 1024) (hk' : k' < 1024) : bitAt (addM M r k) r' k' = (bitAt M r' k' || decide (r' = r ∧ k' = k)) := by
  unfold bitAt addM
  by_cases hi : r * 16 + k / 64 = r' * 16 + k' / 64
  · have hr : r = r' := by omega
    have hq : k / 64 = k' / 64 := by omega
    subst hr
    have e : word (M.set (r * 16 + k / 64) (word M r k ||| 2 ^ (k % 64))) r k' = word M r k ||| 2 ^ (k % 64) := by
      unfold word
      rw [← hq, List.getD_eq_getElem?_getD, List.getElem?_set_self h]; rfl
    have e2 : word M r k' = word M r k := by unfold word; rw [hq]
    rw [e, e2, Nat.testBit_or, Nat.testBit_two_pow]
    congr 1
    apply decide_eq_decide.2
    omega
  · have e : word (M.set (r * 16 + k / 64) (word M r k ||| 2 ^ (k % 64))) r' k' = word M r' k' := by
      unfold word
      rw [List.getD_eq_getElem?_getD, List.getElem?_set_ne hi, List.getD_eq_getElem?_getD]
    rw [e]
    have : decide (r' = r ∧ k' = k) = false := decide_eq_false (by rintro ⟨rfl, rfl⟩; exact hi rfl)
    rw [this, Bool.or_false]
theorem bit_zero (m r k : Nat) : bitAt (List.replicate m 0) r k = false := by
  unfold bitAt word
  rw [List.getD_eq_getElem?_getD, List.getElem?_replicate]
  split <;> simp
theorem pop_zero (x : Nat) (hx : x < 18446744073709551616) : pop x = 0 ↔ x = 0 := by
  constructor
  · intro h
    unfold pop at h
    rw [List.countP_eq_zero] at h
    apply Nat.eq_of_testBit_eq
    intro i
    rw [Nat.zero_testBit]
    rcases Nat.lt_or_ge i 64 with hi | hi
    · have := h i (by simpa using hi)
      simpa using this
    · exact Nat.testBit_lt_two_pow (Nat.lt_of_lt_of_le hx (by simpa using Nat.pow_le_pow_right (n := 2) (by omega) hi))
  · rintro rfl
    unfold pop
    simp
theorem cnt_zero (T : List Nat) (hT : ∀ x ∈ T, x < 18446744073709551616) : cnt T = 0 ↔ ∀ x ∈ T, x = 0 := by
  unfold cnt
  induction T with
  | nil => simp
  | cons a T ih =>
    have := pop_zero a (hT a (by simp))
    have ih := ih (fun x hx => hT x (by simp [hx]))
    simp only [List.map_cons, List.sum_cons, List.mem_cons, forall_eq_or_imp]
    rw [← this, ← ih]
    omega
theorem Fam.grown {w w' : World} {R : Nat} {W : World} (hb : Below W.heap.size W w) (hg : w.grownBy w' (some R)) (hR : W.heap.size ≤ R) : Below W.heap.size W w' :=
  hb.grown hg hb.size (fun k hk => by injection hk with hk; omega)
def E0 : List Nat := List.replicate 32 0
def E1 : List Nat := addN 2 100 E0 0 70
def E2 : List Nat := addN 2 100 E1 1 70
theorem e1 : addB 2 100 E0 0 70 = true := by decide +kernel
theorem e2 : addB 2 100 E1 1 70 = true := by decide +kernel
theorem e3 : meetsB (rowI 2 E2 0) (rowI 2 E2 1) = true := by decide +kernel
theorem e4 : addB 2 100 E2 1 70 = false := by decide +kernel
theorem e5 : tot 2 E2 2 = 2 := by decide +kernel
theorem e6 : addN 2 100 E2 1 70 = E2 := by unfold addN; rw [e4]; rfl
theorem w2 : (within 2 5000).toNat = 2 := by decide
end Go.Proofs.YtcmdiomjhideiaaGreatDoor.SetE
/- The walk of the law of sums. -/
namespace Go.Proofs.YtcmdiomjhideiaaGreatDoor.SetF
set_option linter.unusedVariables false
set_option linter.unusedSimpArgs false
open Go.RowKit Go.Lib Go.Proofs Go.Proofs.YtcmdiomjhideiaaGreatDoor.SetPop Go.Proofs.YtcmdiomjhideiaaGreatDoor.SetA Go.Proofs.YtcmdiomjhideiaaGreatDoor.SetB Go.Proofs.YtcmdiomjhideiaaGreatDoor.SetC Go.Proofs.YtcmdiomjhideiaaGreatDoor.SetD Go.Proofs.YtcmdiomjhideiaaGreatDoor.SetE
set_option linter.unusedVariables false
set_option linter.unusedSimpArgs false
/-- A slice value that reads as pairs of numbers, wherever it lies. -/
def PrG (w : World) (A : Option Addr) (L : List (Int × Int)) : Prop :=
  0 < L.length → ∃ g o, A = some ⟨g, o, none⟩ ∧ g < w.heap.size ∧ ∀ j, (h : j < L.length) → w.cell? ⟨g, o + j * 2, none⟩ = some (.int .i64 L[j].1) ∧ w.cell? ⟨g, o + j * 2 + 1, none⟩ = some (.int .i64 L[j].2)
theorem PrG.below {w w' : World} {A : Option Addr} {L : List (Int × Int)} (h : PrG w A L) (hb : Below w.heap.size w w') : PrG w' A L := fun hp => by
  obtain ⟨g, o, hA, hg, hc⟩ := h hp
  refine ⟨g, o, hA, Nat.lt_of_lt_of_le hg hb.size, fun j hj => ?_⟩
  obtain ⟨a, b⟩ := hc j hj
  exact ⟨(hb.cell (p := ⟨g, o + j * 2, none⟩) hg).trans a, (hb.cell (p := ⟨g, o + j * 2 + 1, none⟩) hg).trans b⟩
theorem PrG.take {w : World} {A : Option Addr} {L : List (Int × Int)} (h : PrG w A L) (m : Nat) : PrG w A (L.take m) := fun hp => by
  obtain ⟨g, o, hA, hg, hc⟩ := h (by simp at hp; omega)
  refine ⟨g, o, hA, hg, fun j hj => ?_⟩
  rw [List.getElem_take]
  exact hc j (by simp at hj; omega)
end Go.Proofs.YtcmdiomjhideiaaGreatDoor.SetF
/- A slice of pairs of numbers that came in reads as a list of them. -/
namespace Go.Proofs.YtcmdiomjhideiaaGreatDoor.SetO
set_option linter.unusedVariables false
set_option linter.unusedSimpArgs false
open Go.ChangeShapes Go.WideShapes Go.ChangeAt Go.RowKit
open Go.Proofs.YtcmdiomjhideiaaGreatDoor.SetF
set_option maxRecDepth 100000
set_option linter.unusedVariables false
theorem list_of {α : Type} {P : Nat → α → Prop} : ∀ n, (∀ i, i < n → ∃ x, P i x) → ∃ L : List α, L.length = n ∧ ∀ i, (h : i < L.length) → P i L[i]
  | 0, _ => ⟨[], rfl, fun i h => absurd h (Nat.not_lt_zero i)⟩
  | n + 1, H => by
    obtain ⟨L, hl, hp⟩ := list_of n fun i hi => H i (by omega)
    obtain ⟨x, hx⟩ := H n (by omega)
    refine ⟨L ++ [x], by simp [hl], fun i h => ?_⟩
    by_cases hi : i < L.length
    · rw [List.getElem_append_left hi]; exact hp i hi
    · have : i = n := by simp at h; omega
      subst this
      rw [List.getElem_append_right (by omega)]
      simpa [hl] using hx
theorem add_off (b off j : Nat) : ((⟨b, off, none⟩ : Addr).add j) = ⟨b, off + j, none⟩ := by
  unfold Addr.add
  split
  · rename_i h; subst h; rfl
  · simp
theorem cells3 : Tryz.prog.cellsOf 3 = 1 := by kernel_rfl
section
variable {H : Type} {enc : TypeId × Value → H} {w : World} {base : Nat} {spare : Nat → Bool} {held : Bool} {fuel : Nat} {cs : List Value} {x : DataW H × List MemPlace}
theorem some_at {α : Type} {xs : List α} {n i : Nat} (h : xs.length = n) (hi : i < n) : ∃ y, xs[i]? = some y := ⟨xs[i]'(by omega), List.getElem?_eq_getElem _⟩
end
end Go.Proofs.YtcmdiomjhideiaaGreatDoor.SetO
/- What the row's list of laid tables gives, and a start that holds the table. -/
namespace Go.Proofs.YtcmdiomjhideiaaGreatDoor.SetLaid
set_option linter.unusedVariables false
set_option linter.unusedSimpArgs false
open Go.RowKit
/-- A world with the numbers zs of kind k in the block g. -/
def putTab (w : World) (g : Nat) (k : IntKind) (zs : List Int) : World :=
  { w with heap := w.heap.modify g fun
      | .cells _ t frozen => .cells (zs.map fun z => Value.int k z).toArray t frozen
      | o => o }
def de64 : List Int := [0, 1, 56, 2, 57, 49, 28, 3, 61, 58, 42, 50, 38, 29, 17, 4, 62, 47, 59, 36, 45, 43, 51, 22, 53, 39, 33, 30, 24, 18, 12, 5, 63, 55, 48, 27, 60, 41, 37, 16, 46, 35, 44, 21, 52, 32, 23, 11, 54, 26, 40, 15, 34, 20, 31, 10, 25, 14, 19, 9, 13, 8, 7, 6]
noncomputable def laidWorld (os : Os) : World := putTab (World.holding Tryz.prog os ⟨#[], #[], []⟩) 0 .u8 de64
end Go.Proofs.YtcmdiomjhideiaaGreatDoor.SetLaid
/- Plain mathematics, of no program: which bytes are letters and digits; names; the tokens of a line. -/
namespace Go.Proofs.YtcmdiomjhideiaaGreatDoor.Plain
set_option linter.unusedVariables false
set_option linter.unusedSimpArgs false
open Go.RowKit
def capB (n : Int) : Bool := decide (65 ≤ n ∧ n ≤ 90)
def smallB (n : Int) : Bool := decide (97 ≤ n ∧ n ≤ 122)
def digB (n : Int) : Bool := decide (48 ≤ n ∧ n ≤ 57)
def wordB (n : Int) : Bool := capB n || smallB n || digB n
theorem ret_bool {a b : Bool} (h : a = b) : Ending.returned (.bool a) = .returned (.bool b) := by rw [h]
theorem ret_int {k : IntKind} {a b : Int} (h : a = b) : Ending.returned (.int k a) = .returned (.int k b) := by rw [h]
def named (f : Int → Bool) (l : List UInt8) : Bool := decide (0 < l.length ∧ l.length ≤ 8) && f (l.headD 0).toNat && l.all fun c => wordB c.toNat
theorem toList_len (s : ByteArray) : s.data.toList.length = s.size := rfl
theorem toList_isEmpty {s : ByteArray} (h : 0 < s.size) : s.toList.isEmpty = false := by
  have : s.toList = s.data.toList := Go.ByteArray.toList_eq s
  rw [this]
  cases e : s.data.toList with
  | nil => have := toList_len s; rw [e] at this; simp at this; omega
  | cons => rfl
theorem toList_isEmpty0 {s : ByteArray} (h : ¬ 0 < s.size) : s.toList.isEmpty = true := by
  have : s.toList = s.data.toList := Go.ByteArray.toList_eq s
  rw [this]
  cases e : s.data.toList with
  | nil => rfl
  | cons a l => have := toList_len s; rw [e] at this; simp at this; omega
theorem named_len {f} {s : ByteArray} (h : ¬ (0 < s.size ∧ s.size ≤ 8)) : named f s.data.toList = false := by
  unfold named
  rw [toList_len, decide_eq_false h]
  rfl
theorem headD_eq {s : ByteArray} (h : 0 < s.size) : s.data.toList.headD 0 = s[0] := by
  have e : s.data.toList[0]? = some s[0] := by
    rw [List.getElem?_eq_getElem (by rw [toList_len]; exact h)]; rfl
  cases hl : s.data.toList with
  | nil => rw [hl] at e; simp at e
  | cons a l => rw [hl] at e; simpa using e
theorem named_head {f} {s : ByteArray} (h : 0 < s.size) (hc : f s[0].toNat = false) : named f s.data.toList = false := by
  unfold named
  rw [headD_eq h, hc]
  simp
theorem named_bad {f} {s : ByteArray} (k : Nat) (h : k < s.size) (hc : wordB s[k].toNat = false) : named f s.data.toList = false := by
  unfold named
  have : (s.data.toList.all fun c => wordB c.toNat) = false := by
    rw [List.all_eq_false]
    exact ⟨s[k], by
      have : s[k] = s.data.toList[k]'(by rw [toList_len]; exact h) := rfl
      rw [this]; exact List.getElem_mem _, by simp [hc]⟩
  rw [this]
  simp
theorem named_ok {f} {s : ByteArray} (h : 0 < s.size) (h8 : s.size ≤ 8) (hf : f s[0].toNat = true) (hc : ∀ k, (h : k < s.size) → wordB s[k].toNat = true) : named f s.data.toList = true := by
  unfold named
  have : (s.data.toList.all fun c => wordB c.toNat) = true := by
    rw [List.all_eq_true]
    intro x hx
    obtain ⟨k, hk, rfl⟩ := List.getElem_of_mem hx
    exact hc k (by rw [toList_len] at hk; exact hk)
  rw [this, headD_eq h, hf, toList_len, decide_eq_true ⟨h, h8⟩]
  rfl
theorem drop_cons {s : ByteArray} {k : Nat} (h : k < s.size) : s.data.toList.drop k = s[k] :: s.data.toList.drop (k + 1) := by
  rw [List.drop_eq_getElem_cons (by rw [toList_len]; exact h)]; rfl
structure Tk where
  kind : Int
  text : ByteArray
  col : Nat
def Tk.cells (t : Tk) : List Value := [.int .i64 t.kind, .string t.text, .int .i64 t.col]
def tkCells (l : List Tk) : List Value := (l.map Tk.cells).flatten
/-- A line without its comment. -/
def bare (s : ByteArray) : ByteArray := ⟨(s.data.toList.takeWhile (fun c => c != 35)).toArray⟩
end Go.Proofs.YtcmdiomjhideiaaGreatDoor.Plain
/- Plain mathematics of roles and statements, of no program: which are right, how they stand. -/
namespace Go.Proofs.YtcmdiomjhideiaaGreatDoor.SynP
set_option linter.unusedVariables false
set_option linter.unusedSimpArgs false
open Go.RowKit Go.Proofs.YtcmdiomjhideiaaGreatDoor.Plain
structure Rl where
  owner : ByteArray
  name : ByteArray
  deriving DecidableEq
structure St where
  kind : Int
  head : Rl
  who : ByteArray
  a : Rl
  b : Rl
  via : ByteArray
  deriving DecidableEq
def Rl.val (r : Rl) : Value := .agg #[.string r.owner, .string r.name]
def St.cells (s : St) : List Value := [.int .i64 s.kind, .string s.head.owner, .string s.head.name, .string s.who, .string s.a.owner, .string s.a.name, .string s.b.owner, .string s.b.name, .string s.via]
def St.val (s : St) : Value := .agg #[.int .i64 s.kind, .string s.head.owner, .string s.head.name, .string s.who, .string s.a.owner, .string s.a.name, .string s.b.owner, .string s.b.name, .string s.via]
/-- A role's texts are a principal's, and a role's name. -/
def Rl.ok (r : Rl) : Bool := named capB r.owner.data.toList && named smallB r.name.data.toList
/-- All texts are short. -/
def Rl.light (r : Rl) : Prop := r.owner.size ≤ maxLen ∧ r.name.size ≤ maxLen
def St.fit (s : St) : Prop := s.head.light ∧ s.who.size ≤ maxLen ∧ s.a.light ∧ s.b.light ∧ s.via.size ≤ maxLen
/-- How two texts stand, by their bytes. -/
def strLt (a b : ByteArray) : Bool := decide (a.data.toList < b.data.toList)
def cmpB (a b : ByteArray) : Int := if strLt a b then -1 else if strLt b a then 1 else 0
/-- The first number that isn't 0. -/
def orL : List Int → Int
  | [] => 0
  | x :: l => if x ≠ 0 then x else orL l
def cmpR (r s : Rl) : Int := orL [cmpB r.owner s.owner, cmpB r.name s.name]
def cmpN (a b : Int) : Int := if a < b then -1 else if a > b then 1 else 0
def cmpS (s t : St) : Int := orL [cmpR s.head t.head, cmpN s.kind t.kind, cmpB s.who t.who, cmpR s.a t.a, cmpR s.b t.b, cmpB s.via t.via]
theorem ba_ext {a b : ByteArray} (h : a.data.toList = b.data.toList) : a = b := by
  apply ByteArray.ext; apply Array.ext'; exact h
theorem strLt_irrefl (a : ByteArray) : strLt a a = false := by unfold strLt; exact decide_eq_false (List.lt_irrefl _)
theorem strLt_asymm {a b : ByteArray} (h : strLt a b = true) : strLt b a = false := by
  unfold strLt at *
  exact decide_eq_false (List.lt_asymm (of_decide_eq_true h))
theorem strLt_trans {a b c : ByteArray} (h : strLt a b = true) (h2 : strLt b c = true) : strLt a c = true := by
  unfold strLt at *
  exact decide_eq_true (List.lt_trans (of_decide_eq_true h) (of_decide_eq_true h2))
theorem strLt_total {a b : ByteArray} (h : strLt a b = false) (h2 : strLt b a = false) : a = b := by
  unfold strLt at *
  exact ba_ext (List.le_antisymm (of_decide_eq_false h2) (of_decide_eq_false h))
theorem cmpB_eq {a b : ByteArray} : cmpB a b = 0 ↔ a = b := by
  unfold cmpB
  constructor
  · intro h
    cases h1 : strLt a b <;> cases h2 : strLt b a <;> simp [h1, h2] at h
    exact strLt_total h1 h2
  · rintro rfl; simp [strLt_irrefl]
theorem cmpB_anti (a b : ByteArray) : cmpB b a = - cmpB a b := by
  unfold cmpB
  cases h1 : strLt a b <;> cases h2 : strLt b a <;> simp
  rw [strLt_asymm h1] at h2; cases h2
theorem cmpB_lt {a b : ByteArray} : cmpB a b < 0 ↔ strLt a b = true := by
  unfold cmpB
  cases h1 : strLt a b <;> cases h2 : strLt b a <;> simp
def noText : ByteArray := ⟨#[]⟩
def zeroR : Rl := ⟨noText, noText⟩
def zeroS : St := ⟨0, zeroR, noText, zeroR, zeroR, noText⟩
/-- What a statement of this kind has beside its head is such as it may be. -/
def St.says (s : St) : Bool := if s.kind = 1 then named capB s.who.data.toList else if s.kind = 2 then s.a.ok else if s.kind = 3 then s.a.ok && named smallB s.via.data.toList else if s.kind = 4 then s.a.ok && s.b.ok && !decide (cmpR s.b s.a < 0) else false
/-- A statement with nothing but what one of its kind has. -/
def St.own (s : St) : St := if s.kind = 1 then ⟨s.kind, s.head, s.who, zeroR, zeroR, noText⟩ else if s.kind = 2 then ⟨s.kind, s.head, noText, s.a, zeroR, noText⟩ else if s.kind = 3 then ⟨s.kind, s.head, noText, s.a, zeroR, s.via⟩ else if s.kind = 4 then ⟨s.kind, s.head, noText, s.a, s.b, noText⟩ else ⟨s.kind, s.head, noText, zeroR, zeroR, noText⟩
def St.right (s : St) : Bool := s.head.ok && s.says && decide (s = s.own)
def St.normal (s : St) : St := if s.kind = 4 ∧ cmpR s.b s.a < 0 then ⟨s.kind, s.head, s.who, s.b, s.a, s.via⟩ else s
end Go.Proofs.YtcmdiomjhideiaaGreatDoor.SynP
/- Plain mathematics of parsing, of no program: which shape a line's tokens have, and what statement they are. -/
namespace Go.Proofs.YtcmdiomjhideiaaGreatDoor.SynQ
set_option linter.unusedVariables false
set_option linter.unusedSimpArgs false
open Go.RowKit Go.Proofs.YtcmdiomjhideiaaGreatDoor.Plain Go.Proofs.YtcmdiomjhideiaaGreatDoor.SynP
end Go.Proofs.YtcmdiomjhideiaaGreatDoor.SynQ
/- Leaf contracts: which bytes are letters and digits, in the program and in the document's answers. -/
namespace Go.Proofs.YtcmdiomjhideiaaGreatDoor.Leaf
set_option linter.unusedVariables false
set_option linter.unusedSimpArgs false
open Go.RowKit Go.Proofs.YtcmdiomjhideiaaGreatDoor.Plain

theorem isCapital (n : Int) (w : World) : Calls Tryz.prog 241 #[.int .u8 n] w fun e w' => e = .returned (.bool (capB n)) ∧ w = w' := by
  by_cases h : 65 ≤ n <;> by_cases h2 : n ≤ 90 <;>
  · go_enter Tryz.func241, Tryz.ntmps241
    go_wp2
    go_ret
    exact ⟨ret_bool (by simp [capB, h, h2]), rfl⟩
theorem isSmall (n : Int) (w : World) : Calls Tryz.prog 242 #[.int .u8 n] w fun e w' => e = .returned (.bool (smallB n)) ∧ w = w' := by
  by_cases h : 97 ≤ n <;> by_cases h2 : n ≤ 122 <;>
  · go_enter Tryz.func242, Tryz.ntmps242
    go_wp2
    go_ret
    exact ⟨ret_bool (by simp [smallB, h, h2]), rfl⟩
theorem isDigit (n : Int) (w : World) : Calls Tryz.prog 268 #[.int .u8 n] w fun e w' => e = .returned (.bool (digB n)) ∧ w = w' := by
  by_cases h : 48 ≤ n <;> by_cases h2 : n ≤ 57 <;>
  · go_enter Tryz.func268, Tryz.ntmps268
    go_wp2
    go_ret
    exact ⟨ret_bool (by simp [digB, h, h2]), rfl⟩
end Go.Proofs.YtcmdiomjhideiaaGreatDoor.Leaf
/- Which texts are names: isNamed, IsPrin, IsName. -/
namespace Go.Proofs.YtcmdiomjhideiaaGreatDoor.Named
set_option linter.unusedVariables false
set_option linter.unusedSimpArgs false
open Go.RowKit Go.Proofs.YtcmdiomjhideiaaGreatDoor.Plain Go.Proofs.YtcmdiomjhideiaaGreatDoor.Leaf
theorem isNamed_cap (s : ByteArray) (w : World) (hs : s.size ≤ maxLen) :
    Calls Tryz.prog 240 #[.string s, .func (.func 241) #[] #[]] w fun e w' => e = .returned (.bool (named capB s.data.toList)) ∧ w = w' := by
  unfold maxLen at hs
  by_cases h1 : 0 < s.size
  · have e1 : s.toList.isEmpty = false := toList_isEmpty h1
    by_cases h8 : s.size ≤ 8
    · have e2 : decide (8 < (s.size : Int)) = false := by simp; omega
      cases hc : capB s[0].toNat
      · go_enter Tryz.func240, Tryz.ntmps240
        go_wp2_with (go_at_call 241; refine (isCapital _ _).mono ?_; rintro e w' ⟨rfl, rfl⟩)
        go_ret
        exact ⟨ret_bool (named_head h1 hc).symm, rfl⟩
      · go_enter Tryz.func240, Tryz.ntmps240
        go_wp2_with (go_at_call 241; refine (isCapital _ _).mono ?_; rintro e w' ⟨rfl, rfl⟩)
        have Hc := Lib.hid hc
        clear hc e2 e1
        go_loop [22] (fun i => ∃ k : Nat, k ≤ s.size ∧ i = .int .i64 k ∧ Hid (∀ j, (h : j < s.size) → j < k → wordB s[j].toNat = true)) (fun i => s.size - (intOf i).toNat)
        case atStart => exact ⟨0, by omega, rfl, Lib.hid fun j _ hj => by omega⟩
        case round =>
          obtain ⟨k, hk, rfl, hall⟩ := hrel
          by_cases hlt : k < s.size
          · by_cases hw : wordB s[k].toNat = true
            · have hnext : Hid (∀ j, (h : j < s.size) → j < k + 1 → wordB s[j].toNat = true) := Lib.hid fun j h hj => by
                by_cases e : j = k
                · subst e; exact hw
                · exact hall.out j h (by omega)
              clear hall
              cases h1 : capB s[k].toNat <;> cases h2 : smallB s[k].toNat <;> cases h3 : digB s[k].toNat <;> first | (simp [wordB, h1, h2, h3] at hw; done) | skip
              all_goals
                clear hw
                go_wp2_with (first | (go_at_call 241; refine (isCapital _ _).mono ?_; rintro e w' ⟨rfl, rfl⟩) | (go_at_call 242; refine (isSmall _ _).mono ?_; rintro e w' ⟨rfl, rfl⟩) | (go_at_call 268; refine (isDigit _ _).mono ?_; rintro e w' ⟨rfl, rfl⟩))
                go_round
                case rel => exact ⟨k + 1, by omega, by go_num, hnext⟩
                case measure => simp [intOf]; omega
            · have hw' : wordB s[k].toNat = false := by simpa using hw
              have Hw := Lib.hid (named_bad (f := capB) k hlt hw')
              simp only [wordB, Bool.or_eq_false_iff] at hw'
              obtain ⟨⟨h1, h2⟩, h3⟩ := hw'
              clear hw
              go_wp2_with (first | (go_at_call 241; refine (isCapital _ _).mono ?_; rintro e w' ⟨rfl, rfl⟩) | (go_at_call 242; refine (isSmall _ _).mono ?_; rintro e w' ⟨rfl, rfl⟩) | (go_at_call 268; refine (isDigit _ _).mono ?_; rintro e w' ⟨rfl, rfl⟩))
              go_ret
              exact ⟨ret_bool Hw.out.symm, rfl⟩
          · go_wp2_with fail
            go_ret
            exact ⟨ret_bool (named_ok h1 h8 Hc.out (fun j h => hall.out j h (by omega))).symm, rfl⟩
    · have e2 : decide (8 < (s.size : Int)) = true := by simp; omega
      go_enter Tryz.func240, Tryz.ntmps240
      go_wp2
      go_ret
      exact ⟨ret_bool (named_len (by omega)).symm, rfl⟩
  · have e1 : s.toList.isEmpty = true := toList_isEmpty0 h1
    go_enter Tryz.func240, Tryz.ntmps240
    go_wp2
    go_ret
    exact ⟨ret_bool (named_len (by omega)).symm, rfl⟩
theorem isNamed_small (s : ByteArray) (w : World) (hs : s.size ≤ maxLen) :
    Calls Tryz.prog 240 #[.string s, .func (.func 242) #[] #[]] w fun e w' => e = .returned (.bool (named smallB s.data.toList)) ∧ w = w' := by
  unfold maxLen at hs
  by_cases h1 : 0 < s.size
  · have e1 : s.toList.isEmpty = false := toList_isEmpty h1
    by_cases h8 : s.size ≤ 8
    · have e2 : decide (8 < (s.size : Int)) = false := by simp; omega
      cases hc : smallB s[0].toNat
      · go_enter Tryz.func240, Tryz.ntmps240
        go_wp2_with (go_at_call 242; refine (isSmall _ _).mono ?_; rintro e w' ⟨rfl, rfl⟩)
        go_ret
        exact ⟨ret_bool (named_head h1 hc).symm, rfl⟩
      · go_enter Tryz.func240, Tryz.ntmps240
        go_wp2_with (go_at_call 242; refine (isSmall _ _).mono ?_; rintro e w' ⟨rfl, rfl⟩)
        have Hc := Lib.hid hc
        clear hc e2 e1
        go_loop [22] (fun i => ∃ k : Nat, k ≤ s.size ∧ i = .int .i64 k ∧ Hid (∀ j, (h : j < s.size) → j < k → wordB s[j].toNat = true)) (fun i => s.size - (intOf i).toNat)
        case atStart => exact ⟨0, by omega, rfl, Lib.hid fun j _ hj => by omega⟩
        case round =>
          obtain ⟨k, hk, rfl, hall⟩ := hrel
          by_cases hlt : k < s.size
          · by_cases hw : wordB s[k].toNat = true
            · have hnext : Hid (∀ j, (h : j < s.size) → j < k + 1 → wordB s[j].toNat = true) := Lib.hid fun j h hj => by
                by_cases e : j = k
                · subst e; exact hw
                · exact hall.out j h (by omega)
              clear hall
              cases h1 : capB s[k].toNat <;> cases h2 : smallB s[k].toNat <;> cases h3 : digB s[k].toNat <;> first | (simp [wordB, h1, h2, h3] at hw; done) | skip
              all_goals
                clear hw
                go_wp2_with (first | (go_at_call 241; refine (isCapital _ _).mono ?_; rintro e w' ⟨rfl, rfl⟩) | (go_at_call 242; refine (isSmall _ _).mono ?_; rintro e w' ⟨rfl, rfl⟩) | (go_at_call 268; refine (isDigit _ _).mono ?_; rintro e w' ⟨rfl, rfl⟩))
                go_round
                case rel => exact ⟨k + 1, by omega, by go_num, hnext⟩
                case measure => simp [intOf]; omega
            · have hw' : wordB s[k].toNat = false := by simpa using hw
              have Hw := Lib.hid (named_bad (f := smallB) k hlt hw')
              simp only [wordB, Bool.or_eq_false_iff] at hw'
              obtain ⟨⟨h1, h2⟩, h3⟩ := hw'
              clear hw
              go_wp2_with (first | (go_at_call 241; refine (isCapital _ _).mono ?_; rintro e w' ⟨rfl, rfl⟩) | (go_at_call 242; refine (isSmall _ _).mono ?_; rintro e w' ⟨rfl, rfl⟩) | (go_at_call 268; refine (isDigit _ _).mono ?_; rintro e w' ⟨rfl, rfl⟩))
              go_ret
              exact ⟨ret_bool Hw.out.symm, rfl⟩
          · go_wp2_with fail
            go_ret
            exact ⟨ret_bool (named_ok h1 h8 Hc.out (fun j h => hall.out j h (by omega))).symm, rfl⟩
    · have e2 : decide (8 < (s.size : Int)) = true := by simp; omega
      go_enter Tryz.func240, Tryz.ntmps240
      go_wp2
      go_ret
      exact ⟨ret_bool (named_len (by omega)).symm, rfl⟩
  · have e1 : s.toList.isEmpty = true := toList_isEmpty0 h1
    go_enter Tryz.func240, Tryz.ntmps240
    go_wp2
    go_ret
    exact ⟨ret_bool (named_len (by omega)).symm, rfl⟩
theorem isPrin (s : ByteArray) (w : World) (hs : s.size ≤ maxLen) : Calls Tryz.prog 198 #[.string s] w fun e w' => e = .returned (.bool (named capB s.data.toList)) ∧ w = w' := by
  go_enter Tryz.func198, Tryz.ntmps198
  go_wp2_with (go_at_call 240; refine (isNamed_cap _ _ hs).mono ?_; rintro e w' ⟨rfl, rfl⟩)
  go_ret
  exact ⟨rfl, rfl⟩
theorem isName (s : ByteArray) (w : World) (hs : s.size ≤ maxLen) : Calls Tryz.prog 199 #[.string s] w fun e w' => e = .returned (.bool (named smallB s.data.toList)) ∧ w = w' := by
  go_enter Tryz.func199, Tryz.ntmps199
  go_wp2_with (go_at_call 240; refine (isNamed_small _ _ hs).mono ?_; rintro e w' ⟨rfl, rfl⟩)
  go_ret
  exact ⟨rfl, rfl⟩
end Go.Proofs.YtcmdiomjhideiaaGreatDoor.Named
/- The words of a line: inWord, wordSize. -/
namespace Go.Proofs.YtcmdiomjhideiaaGreatDoor.Scan1
set_option linter.unusedVariables false
set_option linter.unusedSimpArgs false
open Go.RowKit Go.Proofs.YtcmdiomjhideiaaGreatDoor.Plain Go.Proofs.YtcmdiomjhideiaaGreatDoor.Leaf Go.Proofs.YtcmdiomjhideiaaGreatDoor.Named
end Go.Proofs.YtcmdiomjhideiaaGreatDoor.Scan1
