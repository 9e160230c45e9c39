/- Plain mathematics, of no program: how many bits of a word of 64 are 1, the library's way and by definition. -/
import Derived.WalkKit
import Derived.Test.YtccmlmahjgndbaaDoorProg
import Derived.Below
import Derived.Lib.Hide
import Derived.Outline
import Derived.Laws.Bits64b
import Derived.Deep.MidRow
import Derived.Laws.MakeOwn
import Derived.RegionTactic
import Derived.Deep.RegionWith
import Derived.Deep.QuietTactic
import Derived.BigQuiet
import Derived.ProofKit
import Derived.IntWalk
import Derived.WalkLawsBesides
import Derived.WalkSpells
import Derived.StillTailTactics
import Derived.Deep.WholeRow
import Derived.ChangeKeysEq
import Derived.Deep.CutBlock
import Derived.Deep.LoopGhost
import Derived.SliceStrings
import Derived.Deep.DeepHandedRow
import Derived.OpenShut
import Derived.ShutString
import Derived.ChangeOld
import Derived.Carry
import Derived.Test.YtccmlmahjgndbaaDoorRows
import Derived.Lib.LaidTab
import Derived.Lib.Tables
import Derived.Laws.AppendOwn
import Derived.Lib.TrailingZeros
import Derived.Lib.IndexBytes
import Derived.Lib.Strings
import Derived.Lib.Builder
namespace Go.Proofs.YtccmlmahjgndbaaDoor.SetPop
set_option linter.unusedVariables false
set_option linter.unusedSimpArgs false
/-- How many of the 64 bits are 1. -/
def pop (x : Nat) : Nat := (List.range 64).countP (fun i => x.testBit i)

def val : List Nat → Nat
  | [] => 0
  | b :: l => b + 256 * val l

theorem and_split (a b c d : Nat) (ha : a < 256) (hc : c < 256) : (a + 256 * b) &&& (c + 256 * d) = (a &&& c) + 256 * (b &&& d) := by
  have hac : a &&& c < 2 ^ 8 := Nat.and_lt_two_pow _ (by omega)
  apply Nat.eq_of_testBit_eq
  intro i
  rw [Nat.testBit_and, Nat.add_comm a, Nat.add_comm c, Nat.add_comm (a &&& c), show (256 : Nat) = 2 ^ 8 from rfl, Nat.testBit_two_pow_mul_add _ ha, Nat.testBit_two_pow_mul_add _ hc, Nat.testBit_two_pow_mul_add _ hac]
  split <;> simp [Nat.testBit_and]

def small (l : List Nat) : Prop := ∀ b ∈ l, b < 256

theorem val_and : ∀ (l m : List Nat), l.length = m.length → small l → small m → val l &&& val m = val (l.zipWith (· &&& ·) m)
  | [], [], _, _, _ => rfl
  | a :: l, c :: m, h, hl, hm => by
    simp only [val, List.zipWith_cons_cons]
    rw [and_split _ _ _ _ (hl a (by simp)) (hm c (by simp)), val_and l m (by simpa using h) (fun b hb => hl b (by simp [hb])) (fun b hb => hm b (by simp [hb]))]

def s (b : Nat) : Nat := ((b / 2) &&& 0x55) + (b &&& 0x55)
def t (b : Nat) : Nat := ((b / 4) &&& 0x33) + (b &&& 0x33)
def c8 (b : Nat) : Nat := (t (s b) / 16 + t (s b)) &&& 15

theorem s_lt : ∀ b : Fin 256, s b.val < 256 := by decide +kernel
theorem t_lt : ∀ b : Fin 256, t b.val < 256 := by decide +kernel
theorem s_hi : ∀ (b : Fin 256) (e : Fin 2), ((b.val / 2 + 128 * e.val) &&& 0x55) + (b.val &&& 0x55) = s b.val := by decide +kernel
theorem t_hi : ∀ (b : Fin 256) (e : Fin 4), ((b.val / 4 + 64 * e.val) &&& 0x33) + (b.val &&& 0x33) = t b.val := by decide +kernel
theorem u_hi : ∀ (b : Fin 256) (e : Fin 5), (t (s b.val) / 16 + 16 * e.val + t (s b.val)) &&& 15 = c8 b.val ∧ t (s b.val) / 16 + 16 * e.val + t (s b.val) < 256 := by decide +kernel
theorem ts_nib : ∀ b : Fin 256, t (s b.val) % 16 ≤ 4 := by decide +kernel
theorem c8_le : ∀ b : Fin 256, c8 b.val ≤ 8 := by decide +kernel
theorem c8_pop : ∀ b : Fin 256, c8 b.val = (List.range 8).countP (fun i => b.val.testBit i) := by decide +kernel

theorem step1 : ∀ (l : List Nat), small l → (val l / 2 &&& val (l.map fun _ => 0x55)) + (val l &&& val (l.map fun _ => 0x55)) = val (l.map s)
  | [], _ => rfl
  | a :: l, h => by
    have ha := h a (by simp)
    have ih := step1 l (fun b hb => h b (by simp [hb]))
    simp only [val, List.map_cons]
    have e : (a + 256 * val l) / 2 = (a / 2 + 128 * (val l % 2)) + 256 * (val l / 2) := by omega
    have k := s_hi ⟨a, ha⟩ ⟨val l % 2, by omega⟩
    simp only at k
    rw [e, and_split _ _ _ _ (by omega) (by omega), and_split _ _ _ _ ha (by omega)]
    omega

theorem step2 : ∀ (l : List Nat), small l → (val l / 4 &&& val (l.map fun _ => 0x33)) + (val l &&& val (l.map fun _ => 0x33)) = val (l.map t)
  | [], _ => rfl
  | a :: l, h => by
    have ha := h a (by simp)
    have ih := step2 l (fun b hb => h b (by simp [hb]))
    simp only [val, List.map_cons]
    have e : (a + 256 * val l) / 4 = (a / 4 + 64 * (val l % 4)) + 256 * (val l / 4) := by omega
    have k := t_hi ⟨a, ha⟩ ⟨val l % 4, by omega⟩
    simp only at k
    rw [e, and_split _ _ _ _ (by omega) (by omega), and_split _ _ _ _ ha (by omega)]
    omega

theorem nib : ∀ (l : List Nat), small l → val ((l.map s).map t) % 16 ≤ 4
  | [], _ => by decide
  | a :: l, h => by
    have := ts_nib ⟨a, h a (by simp)⟩
    simp only at this
    simp only [val, List.map_cons]; omega

theorem step3 : ∀ (l : List Nat), small l → (val ((l.map s).map t) / 16 + val ((l.map s).map t)) &&& val (l.map fun _ => 15) = val (l.map c8)
  | [], _ => rfl
  | a :: l, h => by
    have ha := h a (by simp)
    have hl : small l := fun b hb => h b (by simp [hb])
    have ih := step3 l hl
    have n := nib l hl
    simp only [val, List.map_cons]
    generalize hv : val ((l.map s).map t) = v at *
    obtain ⟨k, k'⟩ := u_hi ⟨a, ha⟩ ⟨v % 16, by omega⟩
    simp only at k k'
    have e : (t (s a) + 256 * v) / 16 + (t (s a) + 256 * v) = (t (s a) / 16 + 16 * (v % 16) + t (s a)) + 256 * (v / 16 + v) := by omega
    rw [e, and_split _ _ _ _ k' (by omega), k, ih]

/-- The library's way. -/
def swar (x : Nat) : Nat :=
  let x1 := (x / 2 &&& 0x5555555555555555) + (x &&& 0x5555555555555555)
  let x2 := (x1 / 4 &&& 0x3333333333333333) + (x1 &&& 0x3333333333333333)
  let x3 := (x2 / 16 + x2) &&& 0x0f0f0f0f0f0f0f0f
  let x4 := x3 + x3 / 256
  let x5 := x4 + x4 / 65536
  let x6 := x5 + x5 / 4294967296
  x6 % 128

theorem bytes (x : Nat) (h : x < 18446744073709551616) : ∃ l : List Nat, l.length = 8 ∧ small l ∧ val l = x := by
  refine ⟨[x % 256, x / 256 % 256, x / 65536 % 256, x / 16777216 % 256, x / 4294967296 % 256, x / 1099511627776 % 256, x / 281474976710656 % 256, x / 72057594037927936 % 256], rfl, ?_, ?_⟩
  · intro b hb; simp at hb; omega
  · simp only [val]; omega

theorem sum8 (a b c d e f g h : Nat) (ha : a ≤ 8) (hb : b ≤ 8) (hc : c ≤ 8) (hd : d ≤ 8) (he : e ≤ 8) (hf : f ≤ 8) (hg : g ≤ 8) (hh : h ≤ 8) :
    (let x3 := val [a, b, c, d, e, f, g, h]; let x4 := x3 + x3 / 256; let x5 := x4 + x4 / 65536; let x6 := x5 + x5 / 4294967296; x6 % 128) = a + b + c + d + e + f + g + h := by
  simp only [val]
  have e4 : (a + 256 * (b + 256 * (c + 256 * (d + 256 * (e + 256 * (f + 256 * (g + 256 * (h + 256 * 0))))))) ) + (a + 256 * (b + 256 * (c + 256 * (d + 256 * (e + 256 * (f + 256 * (g + 256 * (h + 256 * 0))))))) ) / 256
    = (a + b) + 256 * (b + c) + 65536 * ((c + d) + 256 * (d + e) + 65536 * ((e + f) + 256 * (f + g) + 65536 * ((g + h) + 256 * h))) := by omega
  rw [e4]
  generalize hp : (a + b) + 256 * (b + c) = p
  generalize hq : (c + d) + 256 * (d + e) = q
  generalize hr : (e + f) + 256 * (f + g) = r
  generalize hs : (g + h) + 256 * h = s
  have : p < 65536 := by omega
  have : q < 65536 := by omega
  have : r < 65536 := by omega
  have : s < 65536 := by omega
  have e5 : p + 65536 * (q + 65536 * (r + 65536 * s)) + (p + 65536 * (q + 65536 * (r + 65536 * s))) / 65536 = (p + q) + 65536 * (q + r) + 4294967296 * ((r + s) + 65536 * s) := by omega
  rw [e5]
  have e6 : ((p + q) + 65536 * (q + r) + 4294967296 * ((r + s) + 65536 * s)) + ((p + q) + 65536 * (q + r) + 4294967296 * ((r + s) + 65536 * s)) / 4294967296 = (p + q + r + s) + 65536 * (q + r + s) + 4294967296 * ((r + s) + 65536 * s) := by omega
  rw [e6]; omega

theorem testBit_val (a v i : Nat) (ha : a < 256) : (a + 256 * v).testBit i = if i < 8 then a.testBit i else v.testBit (i - 8) := by
  rw [Nat.add_comm, show (256 : Nat) = 2 ^ 8 from rfl, Nat.testBit_two_pow_mul_add _ ha]

theorem countP_shift (p : Nat → Bool) (n : Nat) : (List.range (8 + n)).countP p = (List.range 8).countP p + (List.range n).countP (fun i => p (8 + i)) := by
  rw [List.range_add, List.countP_append, List.countP_map]; rfl

theorem pop_bytes : ∀ (l : List Nat), small l → (List.range (8 * l.length)).countP (fun i => (val l).testBit i) = (l.map c8).sum
  | [], _ => rfl
  | a :: l, h => by
    have ha := h a (by simp)
    have ih := pop_bytes l (fun b hb => h b (by simp [hb]))
    have k := c8_pop ⟨a, ha⟩
    simp only at k
    rw [show 8 * (a :: l).length = 8 + 8 * l.length by simp; omega, countP_shift, List.map_cons, List.sum_cons, ← ih, k]
    congr 1
    · apply List.countP_congr; intro i hi
      simp only [val]; rw [testBit_val _ _ _ ha, if_pos (by simpa using hi)]
    · apply List.countP_congr; intro i _
      simp only [val]; rw [testBit_val _ _ _ ha, if_neg (by omega)]; simp

theorem pop_of (a b c d e f g h : Nat) (hs : small [a, b, c, d, e, f, g, h]) : pop (val [a, b, c, d, e, f, g, h]) = c8 a + c8 b + c8 c + c8 d + c8 e + c8 f + c8 g + c8 h := by
  have p := pop_bytes [a, b, c, d, e, f, g, h] hs
  unfold pop
  refine Eq.trans p ?_
  simp only [List.map_cons, List.map_nil, List.sum_cons, List.sum_nil]
  omega

theorem swar_of (a b c d e f g h : Nat) (hs : small [a, b, c, d, e, f, g, h]) : swar (val [a, b, c, d, e, f, g, h]) = c8 a + c8 b + c8 c + c8 d + c8 e + c8 f + c8 g + c8 h := by
  have s1 := step1 _ hs
  have hs1 : small ([a, b, c, d, e, f, g, h].map s) := by intro b hb; obtain ⟨a, ha, rfl⟩ := List.mem_map.mp hb; exact s_lt ⟨a, hs a ha⟩
  have s2 := step2 _ hs1
  have s3 := step3 _ hs
  have hc : ∀ x ∈ [a, b, c, d, e, f, g, h], c8 x ≤ 8 := fun b hb => c8_le ⟨b, hs b hb⟩
  have q := sum8 (c8 a) (c8 b) (c8 c) (c8 d) (c8 e) (c8 f) (c8 g) (c8 h) (hc _ (by simp)) (hc _ (by simp)) (hc _ (by simp)) (hc _ (by simp)) (hc _ (by simp)) (hc _ (by simp)) (hc _ (by simp)) (hc _ (by simp))
  have m5 : val ([a, b, c, d, e, f, g, h].map fun _ => 0x55) = 0x5555555555555555 := by simp only [List.map_cons, List.map_nil, val]
  have m3 : val (([a, b, c, d, e, f, g, h].map s).map fun _ => 0x33) = 0x3333333333333333 := by simp only [List.map_cons, List.map_nil, val]
  have mf : val ([a, b, c, d, e, f, g, h].map fun _ => 15) = 0x0f0f0f0f0f0f0f0f := by simp only [List.map_cons, List.map_nil, val]
  rw [m5] at s1; rw [m3] at s2; rw [mf] at s3
  have hl : [a, b, c, d, e, f, g, h].map c8 = [c8 a, c8 b, c8 c, c8 d, c8 e, c8 f, c8 g, c8 h] := rfl
  rw [hl] at s3
  generalize val [a, b, c, d, e, f, g, h] = x at *
  generalize val ([a, b, c, d, e, f, g, h].map s) = x1 at *
  generalize val (([a, b, c, d, e, f, g, h].map s).map t) = x2 at *
  generalize val [c8 a, c8 b, c8 c, c8 d, c8 e, c8 f, c8 g, c8 h] = x3 at *
  simp only [swar]
  rw [s1, s2, s3]
  exact q

theorem swar_pop (x : Nat) (h : x < 18446744073709551616) : swar x = pop x := by
  obtain ⟨l, hl, hs, rfl⟩ := bytes x h
  clear h
  match l, hl, hs with
  | [a, b, c, d, e, f, g, h], _, hs => rw [swar_of _ _ _ _ _ _ _ _ hs, pop_of _ _ _ _ _ _ _ _ hs]
end Go.Proofs.YtccmlmahjgndbaaDoor.SetPop
/- Families of sets of numbers: small calls, by contract. -/
namespace Go.Proofs.YtccmlmahjgndbaaDoor.SetA
set_option linter.unusedVariables false
set_option linter.unusedSimpArgs false
open Go.RowKit Go.Lib Go.Proofs Go.Proofs.YtccmlmahjgndbaaDoor.SetPop
set_option linter.unusedVariables false
set_option linter.unusedSimpArgs false
theorem ret_int {k : IntKind} {a b : Int} (h : a = b) : Ending.returned (.int k a) = .returned (.int k b) := by rw [h]
def within (n : Int) (most : Int) : Int := max 0 (min n most)
set_option maxRecDepth 100000 in
theorem within_ (n most : Int) (w : World) : Calls Tryd.prog 35 #[.int .i64 n, .int .i64 most] w fun e w' => e = .returned (.int .i64 (within n most)) ∧ w = w' := by
  go_enter Tryd.func35, Tryd.ntmps35
  go_wp2
  all_goals
    rename_i hh
    go_ret
    refine ⟨ret_int ?_, rfl⟩
    unfold within
    split at hh <;> omega
theorem wrap_u64 {x : Int} (h0 : 0 ≤ x) (h : x < 18446744073709551616) : IntKind.u64.wrap x = x := by rw [IntKind.wrap_u64]; omega
theorem wrap_n (x : Nat) (h : x < 18446744073709551616) : IntKind.u64.wrap (x : Int) = x := wrap_u64 (by omega) (by omega)
theorem ret_u64 {a b : Int} (h : a = b) : Ending.returned (.int .u64 a) = .returned (.int .u64 b) := by rw [h]
theorem pow_lt (k : Nat) (h : k < 64) : 2 ^ k < 18446744073709551616 := by
  have := Nat.pow_lt_pow_right (a := 2) (by omega) h
  simpa using this
set_option maxRecDepth 100000 in
theorem bit_ (n : Nat) (h : n < 1000) (w : World) : Calls Tryd.prog 46 #[.int .i64 n] w fun e w' => e = .returned (.int .u64 ((2 ^ (n % 64) : Nat) : Int)) ∧ w = w' := by
  have : (0 : Int) ≤ n := by omega
  have : (n : Int) < 1000 := by omega
  go_enter Tryd.func46, Tryd.ntmps46
  go_wp2
  go_ret
  refine ⟨ret_u64 ?_, rfl⟩
  have := pow_lt (n % 64) (by omega)
  have e : ((2 : Int) ^ (n % 64)) = ((2 ^ (n % 64) : Nat) : Int) := by simp
  rw [e, wrap_n _ this]
theorem land_le (a b : Nat) : a &&& b ≤ b := Nat.and_le_right
theorem o1 (x : Nat) (h : x < 18446744073709551616) : IntKind.u64.wrap (bits .and .u64 (↑x / 2) 6148914691236517205 + bits .and .u64 ↑x 6148914691236517205) = (((x / 2 &&& 6148914691236517205) + (x &&& 6148914691236517205) : Nat) : Int) := by
  have e1 := bits_and_u64_nat (x / 2) 6148914691236517205 (by omega) (by omega)
  have e2 := bits_and_u64_nat x 6148914691236517205 (by omega) (by omega)
  have l1 := land_le (x / 2) 6148914691236517205
  have l2 := land_le x 6148914691236517205
  have e3 : ((x : Int) / 2) = ((x / 2 : Nat) : Int) := by omega
  rw [e3]
  refine (congrArg IntKind.u64.wrap (congr (congrArg _ e1) e2)).trans ?_
  rw [wrap_u64 (by omega) (by omega)]; omega
theorem o2 (x : Nat) (h : x < 18446744073709551616) : IntKind.u64.wrap (bits .and .u64 (↑x / 4) 3689348814741910323 + bits .and .u64 ↑x 3689348814741910323) = (((x / 4 &&& 3689348814741910323) + (x &&& 3689348814741910323) : Nat) : Int) := by
  have e1 := bits_and_u64_nat (x / 4) 3689348814741910323 (by omega) (by omega)
  have e2 := bits_and_u64_nat x 3689348814741910323 (by omega) (by omega)
  have l1 := land_le (x / 4) 3689348814741910323
  have l2 := land_le x 3689348814741910323
  have e3 : ((x : Int) / 4) = ((x / 4 : Nat) : Int) := by omega
  rw [e3]
  refine (congrArg IntKind.u64.wrap (congr (congrArg _ e1) e2)).trans ?_
  rw [wrap_u64 (by omega) (by omega)]; omega
theorem o3 (x : Nat) (h : x ≤ 7378697629483820646) : bits .and .u64 (IntKind.u64.wrap (↑x / 16 + ↑x)) 1085102592571150095 = ((x / 16 + x &&& 1085102592571150095 : Nat) : Int) := by
  have e1 := bits_and_u64_nat (x / 16 + x) 1085102592571150095 (by omega) (by omega)
  have e3 : ((x : Int) / 16 + x) = ((x / 16 + x : Nat) : Int) := by omega
  rw [e3, wrap_u64 (by omega) (by omega)]
  exact e1
theorem o4 (x d : Nat) (h : x ≤ 2000000000000000000) (hd : 2 ≤ d) : IntKind.u64.wrap (↑x + ↑x / (d : Int)) = ((x + x / d : Nat) : Int) := by
  have e3 : ((x : Int) + x / (d : Int)) = ((x + x / d : Nat) : Int) := by simp
  have := Nat.div_le_self x d
  rw [e3, wrap_n _ (by omega)]
theorem o5 (x : Nat) (h : x < 9223372036854775808) : bits .and .i64 (wrap64 x) 127 = ((x % 128 : Nat) : Int) := by
  have hw : wrap64 (x : Int) = x := by unfold wrap64; omega
  have h1 : (BitVec.ofInt 64 (x : Int)).toNat = x := by
    rw [BitVec.ofInt_natCast, BitVec.toNat_ofNat]; exact Nat.mod_eq_of_lt (by omega)
  have h2 : (BitVec.ofInt 64 (127 : Int)).toNat = 127 := by rfl
  rw [hw]
  show IntKind.i64.wrap ((BitVec.ofInt 64 (x : Int) &&& BitVec.ofInt 64 (127 : Int)).toNat : Int) = _
  rw [BitVec.toNat_and, h1, h2, show (127 : Nat) = 2 ^ 7 - 1 from rfl, Nat.and_two_pow_sub_one_eq_mod, IntKind.wrap_i64]
  omega
def encM (M : List Nat) : Array Value := (M.map fun x : Nat => Value.int .u64 x).toArray
theorem encM_get (M : List Nat) (i : Nat) : (encM M)[i]? = M[i]?.map fun x : Nat => Value.int .u64 x := by unfold encM; simp
theorem encM_size (M : List Nat) : (encM M).size = M.length := by unfold encM; simp
structure Fam (w : World) (B R n c : Nat) (M : List Nat) : Prop where
  fb : ∃ cp, w.heap[B]? = some (.cells #[.slice (some ⟨R, 0, none⟩) n cp, .int .i64 c] 66 (0, 0))
  rb : ∃ Z, w.heap[R]? = some (.cells (encM M ++ Z) 75 (0, 0))
  len : M.length = n * 16
  small : ∀ x ∈ M, x < 18446744073709551616
  n5 : n ≤ 5000
  c1 : c ≤ 1000
  ne : R ≠ B
theorem Fam.drewN {w : World} {B R n c : Nat} {M : List Nat} (h : Fam w B R n c M) (q : Nat) : Fam (w.drewN q) B R n c M := ⟨h.fb, h.rb, h.len, h.small, h.n5, h.c1, h.ne⟩
theorem Fam.b0 {w : World} {B R n c : Nat} {M : List Nat} (h : Fam w B R n c M) : ∃ cp, w.cell? ⟨B, 0, none⟩ = some (.slice (some ⟨R, 0, none⟩) n cp) ∧ w.cell? ⟨B, 1, none⟩ = some (.int .i64 c) := by
  obtain ⟨cp, hb⟩ := h.fb
  refine ⟨cp, ?_⟩
  constructor <;> (rw [Lib.cell_of_heap hb]; rfl)
theorem Fam.at_ {w : World} {B R n c : Nat} {M : List Nat} (h : Fam w B R n c M) (i : Nat) (hi : i < M.length) : w.cell? ⟨R, i, none⟩ = M[i]?.map fun x : Nat => Value.int .u64 x := by
  obtain ⟨Z, hb⟩ := h.rb
  rw [Lib.cell_of_heap hb, Array.getElem?_append_left (by rw [encM_size]; exact hi), encM_get]
theorem Fam.lt {w : World} {B R n c : Nat} {M : List Nat} (h : Fam w B R n c M) : B < w.heap.size ∧ R < w.heap.size := by
  obtain ⟨cp, hb⟩ := h.fb
  obtain ⟨Z, hr⟩ := h.rb
  exact ⟨(Array.getElem?_eq_some_iff.1 hb).1, (Array.getElem?_eq_some_iff.1 hr).1⟩
theorem Fam.keep {w w' : World} {B R n c : Nat} {M : List Nat} (h : Fam w B R n c M) (hB : w'.heap[B]? = w.heap[B]?) (hR : w'.heap[R]? = w.heap[R]?) : Fam w' B R n c M := by
  obtain ⟨cp, hb⟩ := h.fb
  obtain ⟨Z, hr⟩ := h.rb
  exact ⟨⟨cp, hB.trans hb⟩, ⟨Z, hR.trans hr⟩, h.len, h.small, h.n5, h.c1, h.ne⟩
theorem Fam.below {w w' : World} {B R n c : Nat} {M : List Nat} (h : Fam w B R n c M) (hb : Below w.heap.size w w') : Fam w' B R n c M := h.keep (hb.block _ h.lt.1) (hb.block _ h.lt.2)
theorem infoNum : (Tryd.prog.info? 75).map (fun i => (i.zero, i.size, i.bytes)) = some (some (.agg #[.int .u64 0, .int .u64 0, .int .u64 0, .int .u64 0, .int .u64 0, .int .u64 0, .int .u64 0, .int .u64 0, .int .u64 0, .int .u64 0, .int .u64 0, .int .u64 0, .int .u64 0, .int .u64 0, .int .u64 0, .int .u64 0]), 16, 128) := by kernel_rfl
theorem made (n : Nat) : madeCells (Value.agg #[.int .u64 0, .int .u64 0, .int .u64 0, .int .u64 0, .int .u64 0, .int .u64 0, .int .u64 0, .int .u64 0, .int .u64 0, .int .u64 0, .int .u64 0, .int .u64 0, .int .u64 0, .int .u64 0, .int .u64 0, .int .u64 0]).cells n = encM (List.replicate n 0) := by
  unfold encM
  apply Array.ext
  · simp [size_madeCells]
  · intro i h1 h2
    have h16 : i % 16 < 16 := Nat.mod_lt _ (by omega)
    simp only [madeCells, Array.getElem_map, Array.getElem_range, List.map_replicate, List.getElem_toArray, List.getElem_replicate]
    show (#[Value.int .u64 0, .int .u64 0, .int .u64 0, .int .u64 0, .int .u64 0, .int .u64 0, .int .u64 0, .int .u64 0, .int .u64 0, .int .u64 0, .int .u64 0, .int .u64 0, .int .u64 0, .int .u64 0, .int .u64 0, .int .u64 0] : Array Value)[i % 16]! = _
    generalize i % 16 = k at h16
    match k, h16 with
    | 0, _ => rfl
    | 1, _ => rfl
    | 2, _ => rfl
    | 3, _ => rfl
    | 4, _ => rfl
    | 5, _ => rfl
    | 6, _ => rfl
    | 7, _ => rfl
    | 8, _ => rfl
    | 9, _ => rfl
    | 10, _ => rfl
    | 11, _ => rfl
    | 12, _ => rfl
    | 13, _ => rfl
    | 14, _ => rfl
    | 15, _ => rfl
    | k + 16, h => exact absurd h (by omega)
theorem fam_made (X : World) (k j : Nat) (h : k ≤ 5000) (h2 : j ≤ 1000) : Fam ((X.alloc (.cells (encM (List.replicate (k * 16) 0)) 75)).alloc (.cells #[.slice (some ⟨X.heap.size, 0, none⟩) k k, .int .i64 j] 66)) (X.heap.size + 1) X.heap.size k j (List.replicate (k * 16) 0) := by
  refine ⟨?_, ?_, by simp, fun x hx => ?_, h, h2, by omega⟩
  · refine ⟨k, ?_⟩
    have := heap_alloc_new (X.alloc (.cells (encM (List.replicate (k * 16) 0)) 75)) (.cells #[.slice (some ⟨X.heap.size, 0, none⟩) k k, .int .i64 j] 66)
    simpa using this
  · refine ⟨#[], ?_⟩
    rw [Array.append_empty]
    exact (Below.heap_alloc _ _ _ (by simp)).trans (heap_alloc_new X _)
  · rw [List.eq_of_mem_replicate hx]; omega
def NewPost (n c : Int) (w : World) (e : Ending) (w' : World) : Prop := ∃ B R, e = .returned (.pointer (some ⟨B, 0, none⟩)) ∧ Fam w' B R (within n 5000).toNat (within c 1000).toNat (List.replicate ((within n 5000).toNat * 16) 0) ∧ Below w.heap.size w w' ∧ w.heap.size ≤ B ∧ w.heap.size ≤ R
theorem within_le (n most : Int) (h : 0 ≤ most) : 0 ≤ within n most ∧ within n most ≤ most := by unfold within; omega
set_option maxRecDepth 100000 in
theorem new_ (n c : Int) (w : World) : Calls Tryd.prog 20 #[.int .i64 n, .int .i64 c] w (NewPost n c w) := by
  obtain ⟨i0, hi, hz0, hz1, hz2⟩ := info_parts infoNum
  have hn := within_le n 5000 (by omega)
  have hc := within_le c 1000 (by omega)
  unfold NewPost
  have HW1 := Lib.hid (within_ n 5000)
  have HW2 := Lib.hid (within_ c 1000)
  generalize within n 5000 = N at *
  generalize within c 1000 = C at *
  obtain ⟨k, rfl⟩ : ∃ k : Nat, N = k := ⟨N.toNat, by omega⟩
  obtain ⟨j, rfl⟩ : ∃ k : Nat, C = k := ⟨C.toNat, by omega⟩
  have mk := fun (w : World) => run_make (P := Tryd.prog) w 64 75 i0 _ Tryd.underlying64 hi hz0 .i64 .i64 k k (by omega) (by omega) (by rw [hz2]; omega) (by omega)
  rw [hz1] at mk
  simp only [Int.toNat_natCast, made] at mk ⊢
  clear hi hz0 hz1 hz2
  go_enter Tryd.func20, Tryd.ntmps20
  go_wp2_with fail
  go_region_with (first | ((with_reducible refine (HW1.out _).mono ?_); rintro e w' ⟨rfl, rfl⟩) | ((with_reducible refine (HW2.out _).mono ?_); rintro e w' ⟨rfl, rfl⟩))
  all_goals
    go_wp2_with fail
    go_ret
    exact ⟨w.heap.size + 1, w.heap.size, rfl, (fam_made w k j (by omega) (by omega)).drewN 1, (((Below.refl _ w).alloc (Nat.le_refl _) _).alloc (by simp) _).drew, by omega, by omega⟩
end Go.Proofs.YtccmlmahjgndbaaDoor.SetA
/- Families of sets of numbers: Rows, Cols, may, Has, Add, by contract. -/
namespace Go.Proofs.YtccmlmahjgndbaaDoor.SetB
set_option linter.unusedVariables false
set_option linter.unusedSimpArgs false
open Go.RowKit Go.Lib Go.Proofs Go.Proofs.YtccmlmahjgndbaaDoor.SetPop Go.Proofs.YtccmlmahjgndbaaDoor.SetA
set_option linter.unusedVariables false
set_option linter.unusedSimpArgs false
theorem ret_bool {a b : Bool} (h : a = b) : Ending.returned (.bool a) = .returned (.bool b) := by rw [h]
set_option maxRecDepth 100000 in
theorem rows (B R n c : Nat) (M : List Nat) (w : World) (h : Fam w B R n c M) : Calls Tryd.prog 21 #[.pointer (some ⟨B, 0, none⟩)] w fun e w' => e = .returned (.int .i64 n) ∧ w = w' := by
  obtain ⟨cp, h0, _⟩ := h.b0
  have h5 := h.n5
  clear h
  go_enter Tryd.func21, Tryd.ntmps21
  go_wp2
  go_ret
  exact ⟨rfl, rfl⟩
set_option maxRecDepth 100000 in
theorem cols (B R n c : Nat) (M : List Nat) (w : World) (h : Fam w B R n c M) : Calls Tryd.prog 29 #[.pointer (some ⟨B, 0, none⟩)] w fun e w' => e = .returned (.int .i64 c) ∧ w = w' := by
  obtain ⟨cp, _, h0⟩ := h.b0
  have h5 := h.c1
  clear h
  go_enter Tryd.func29, Tryd.ntmps29
  go_wp2
  go_ret
  exact ⟨rfl, rfl⟩
def mayB (n c : Nat) (r k : Int) : Bool := decide (0 ≤ r ∧ r < n ∧ 0 ≤ k ∧ k < c)
set_option maxRecDepth 100000 in
theorem may (B R n c : Nat) (M : List Nat) (r k : Int) (w : World) (h : Fam w B R n c M) : Calls Tryd.prog 45 #[.pointer (some ⟨B, 0, none⟩), .int .i64 r, .int .i64 k] w fun e w' => e = .returned (.bool (mayB n c r k)) ∧ w = w' := by
  have H1 := Lib.hid (rows B R n c M w h)
  have H2 := Lib.hid (cols B R n c M w h)
  clear h
  go_enter Tryd.func45, Tryd.ntmps45
  go_wp2_with (first | ((with_reducible refine H1.out.mono ?_); rintro e w' ⟨rfl, rfl⟩) | ((with_reducible refine H2.out.mono ?_); rintro e w' ⟨rfl, rfl⟩))
  all_goals
    go_ret
    refine ⟨ret_bool ?_, rfl⟩
    unfold mayB
    first | (symm; apply decide_eq_false; omega) | (apply decide_eq_decide.2; omega)
/-- The word where that number of that set is. -/
def word (M : List Nat) (r k : Nat) : Nat := M.getD (r * 16 + k / 64) 0
def bitAt (M : List Nat) (r k : Nat) : Bool := (word M r k).testBit (k % 64)
def hasB (n c : Nat) (M : List Nat) (r k : Int) : Bool := mayB n c r k && bitAt M r.toNat k.toNat
theorem and_bit (x j : Nat) : (((x &&& 2 ^ j : Nat) : Int) != 0) = x.testBit j := by
  cases h : x.testBit j with
  | true =>
    have : x &&& 2 ^ j ≠ 0 := fun e => by
      have h2 : (x &&& 2 ^ j).testBit j = true := by rw [Nat.testBit_and, h, Nat.testBit_two_pow_self]; rfl
      rw [e, Nat.zero_testBit] at h2
      cases h2
    simp only [bne_iff_ne, ne_eq]; omega
  | false =>
    have : x &&& 2 ^ j = 0 := by
      apply Nat.eq_of_testBit_eq
      intro i
      rw [Nat.testBit_and, Nat.zero_testBit, Nat.testBit_two_pow]
      by_cases e : j = i
      · subst e; rw [h]; rfl
      · simp [e]
    rw [this]; rfl
theorem word_small {w : World} {B R n c : Nat} {M : List Nat} (h : Fam w B R n c M) (r k : Nat) : word M r k < 18446744073709551616 := by
  unfold word
  rw [List.getD_eq_getElem?_getD]
  cases e : M[r * 16 + k / 64]? with
  | none => simp
  | some x => exact h.small x (List.mem_of_getElem? e)
theorem word_cell {w : World} {B R n c : Nat} {M : List Nat} (h : Fam w B R n c M) (r k : Nat) (hr : r < n) (hk : k < c) : w.cell? ⟨R, r * 16 + k / 64, none⟩ = some (.int .u64 (word M r k)) := by
  have h1 := h.c1
  have hl := h.len
  have : r * 16 + k / 64 < M.length := by omega
  rw [h.at_ _ this]
  unfold word
  rw [List.getD_eq_getElem?_getD, List.getElem?_eq_getElem this]; rfl
set_option maxRecDepth 100000 in
theorem has_yes (B R n c : Nat) (M : List Nat) (r k : Nat) (w : World) (h : Fam w B R n c M) (hr : r < n) (hk : k < c) : Calls Tryd.prog 26 #[.pointer (some ⟨B, 0, none⟩), .int .i64 r, .int .i64 k] w fun e w' => e = .returned (.bool (bitAt M r k)) ∧ ∃ q, w' = w.drewN q := by
  have hm : mayB n c r k = true := decide_eq_true (by omega)
  have H1 := fun w h => may B R n c M r k w h
  rw [hm] at H1
  have H2 := Lib.hid (fun w => bit_ k (by have := h.c1; omega) w)
  have HF : Hid (∀ q, Fam (w.drewN q) B R n c M) := Lib.hid (fun q => h.drewN q)
  have H1 := Lib.hid H1
  obtain ⟨cp, h0, _⟩ := h.b0
  have hw := word_cell h r k hr hk
  have hs := word_small h r k
  have h5 := h.n5
  have h6 := h.c1
  have hp := pow_lt (k % 64) (by omega)
  have hand := bits_and_u64_nat (word M r k) (2 ^ (k % 64)) hs hp
  have HB : Hid ((((word M r k &&& 2 ^ (k % 64) : Nat) : Int) != 0) = bitAt M r k) := Lib.hid (and_bit _ _)
  have hj16 : k / 64 < 16 := by omega
  have e1 : (k : Int) / 64 = ((k / 64 : Nat) : Int) := by omega
  generalize k / 64 = j at e1 hw hj16
  generalize word M r k = x at *
  generalize 2 ^ (k % 64) = p at *
  clear h hm hs
  go_enter Tryd.func26, Tryd.ntmps26
  go_wp2_with fail
  go_quiet ((first | (go_at_call 45; exact Calls.quiet_of_same ((H1.out _ (HF.out _)).mono fun e w' h => ⟨h.1, h.2.symm⟩)) | (go_at_call 46; exact Calls.quiet_of_same ((H2.out _).mono fun e w' h => ⟨h.1, h.2.symm⟩))))
  go_wp2_with fail
  go_ret
  exact ⟨ret_bool HB.out, _, rfl⟩
set_option maxRecDepth 100000 in
theorem has_no (B R n c : Nat) (M : List Nat) (r k : Int) (w : World) (h : Fam w B R n c M) (hm : mayB n c r k = false) : Calls Tryd.prog 26 #[.pointer (some ⟨B, 0, none⟩), .int .i64 r, .int .i64 k] w fun e w' => e = .returned (.bool false) ∧ ∃ q, w' = w.drewN q := by
  have H1 := fun w h => may B R n c M r k w h
  rw [hm] at H1
  have HF : Hid (∀ q, Fam (w.drewN q) B R n c M) := Lib.hid (fun q => h.drewN q)
  have HH := Lib.hid H1
  clear hm h H1
  go_enter Tryd.func26, Tryd.ntmps26
  go_wp2_with fail
  go_quiet ((first | (go_at_call 45; exact Calls.quiet_of_same ((HH.out _ (HF.out _)).mono fun e w' h => ⟨h.1, h.2.symm⟩))))
  go_wp2_with fail
  go_ret
  exact ⟨rfl, _, rfl⟩
theorem mayB_iff {n c : Nat} {r k : Int} : mayB n c r k = true ↔ 0 ≤ r ∧ r < n ∧ 0 ≤ k ∧ k < c := by unfold mayB; simp
theorem has_ (B R n c : Nat) (M : List Nat) (r k : Int) (w : World) (h : Fam w B R n c M) : Calls Tryd.prog 26 #[.pointer (some ⟨B, 0, none⟩), .int .i64 r, .int .i64 k] w fun e w' => e = .returned (.bool (hasB n c M r k)) ∧ ∃ q, w' = w.drewN q := by
  unfold hasB
  cases hm : mayB n c r k with
  | false => exact has_no B R n c M r k w h hm
  | true =>
    obtain ⟨a1, a2, a3, a4⟩ := mayB_iff.1 hm
    obtain ⟨r', rfl⟩ : ∃ q : Nat, r = q := ⟨r.toNat, by omega⟩
    obtain ⟨k', rfl⟩ : ∃ q : Nat, k = q := ⟨k.toNat, by omega⟩
    exact has_yes B R n c M r' k' w h (by omega) (by omega)
/-- The words behind an Add. -/
def addM (M : List Nat) (r k : Nat) : List Nat := M.set (r * 16 + k / 64) (word M r k ||| 2 ^ (k % 64))
def AddYes (B R n c : Nat) (M : List Nat) (w : World) (e : Ending) (w' : World) : Prop := e = .returned (.bool true) ∧ Fam w' B R n c M ∧ w.grownBy w' (some R)
theorem fam_add {w : World} {B R n c : Nat} {M : List Nat} (h : Fam w B R n c M) (i x : Nat) (hi : i < M.length) (hx : x < 18446744073709551616) : Fam (w.setCell ⟨R, i, none⟩ (.int .u64 x)) B R n c (M.set i x) := by
  obtain ⟨cp, hfb⟩ := h.fb
  obtain ⟨Z, hb⟩ := h.rb
  refine ⟨⟨cp, ?_⟩, ⟨Z, ?_⟩, ?_, ?_, h.n5, h.c1, h.ne⟩
  · rw [Below.heap_setCell _ _ _ _ (Ne.symm h.ne)]; exact hfb
  · show (w.heap.modify R _)[R]? = _
    rw [Array.getElem?_modify, if_pos rfl, hb]
    simp only [Option.map_some, Option.some.injEq]
    show Obj.cells ((encM M ++ Z).setIfInBounds i (.int .u64 x)) _ _ = _
    congr 1
    have e : encM (M.set i x) = (encM M).setIfInBounds i (.int .u64 x) := by
      unfold encM
      simp [List.map_set]
    rw [e]
    exact Array.setIfInBounds_append_left (by rw [encM_size]; exact hi)
  · simp [h.len]
  · intro y hy
    rcases List.mem_or_eq_of_mem_set hy with hy | rfl
    · exact h.small y hy
    · exact hx
theorem grew_set (w : World) (a : Addr) (v : Value) : w.grownBy (w.setCell a v) (some a.block) := ⟨rfl, rfl, rfl, by simp [World.setCell], fun k hk hne => Below.heap_setCell _ _ _ _ (fun e => hne (by rw [e]))⟩
theorem Fam.free {w : World} {B R n c : Nat} {M : List Nat} (h : Fam w B R n c M) (i : Nat) : w.frozen? ⟨R, i, none⟩ = false := by
  obtain ⟨Z, hb⟩ := h.rb
  unfold World.frozen?
  rw [hb]
  rfl
theorem still_tail {P : Program} {id : Nat} {Q : Exit → Act → World → Prop} {a : Act} {w : World} {l : List Oper} (n : Nat) (hm : P.follows .mixedOrders = true) (hB : Region.lexTailB .any l.toArray n = true)
    (h : wpStill P l.toArray w.drew (fun a' => wpList P l.toArray Q (l.drop n) a' w.drew) (l.take n) a) : (Code.region id l.toArray true).wp P Q a w := wp_region_still_tail n hm hB h
set_option maxRecDepth 100000 in
theorem add_yes (B R n c : Nat) (M : List Nat) (r k : Nat) (w : World) (h : Fam w B R n c M) (hr : r < n) (hk : k < c) (hb : bitAt M r k = false) : Calls Tryd.prog 59 #[.pointer (some ⟨B, 0, none⟩), .int .i64 r, .int .i64 k] w (AddYes B R n c (addM M r k) w) := by
  have hm : mayB n c r k = true := decide_eq_true (by omega)
  have H1 := may B R n c M r k w h
  rw [hm] at H1
  have H3 := has_ B R n c M r k w h
  unfold hasB at H3
  rw [hm, Int.toNat_natCast, Int.toNat_natCast, hb] at H3
  simp only [Bool.true_and] at H3
  have H2 := Lib.hid (fun w => bit_ k (by have := h.c1; omega) w)
  have hw := word_cell h r k hr hk
  have hs := word_small h r k
  have hfree := Fam.free h (r * 16 + k / 64)
  have h5 := h.n5
  have h6 := h.c1
  have hp := pow_lt (k % 64) (by omega)
  have hand := bits_or_u64_nat (word M r k) (2 ^ (k % 64)) hs hp
  have hlt : word M r k ||| 2 ^ (k % 64) < 18446744073709551616 := by
    have := Nat.or_lt_two_pow (n := 64) (x := word M r k) (y := 2 ^ (k % 64)) (by omega) (by omega)
    omega
  have hilt : r * 16 + k / 64 < M.length := by have := h.len; have := h.c1; omega
  have HFin : Hid (∀ q, Fam ((w.drewN q).setCell ⟨R, r * 16 + k / 64, none⟩ (.int .u64 ((word M r k ||| 2 ^ (k % 64) : Nat) : Int))) B R n c (addM M r k)) := Lib.hid (fun q => fam_add (h.drewN q) _ _ hilt hlt)
  obtain ⟨cp, h0, _⟩ := h.b0
  generalize word M r k = x at *
  have hj16 : k / 64 < 16 := by omega
  have e1 : (k : Int) / 64 = ((k / 64 : Nat) : Int) := by omega
  generalize k / 64 = j at e1 hw hj16 HFin hfree
  have ew : IntKind.i64.wrap (j : Int) = j := by rw [IntKind.wrap_i64]; omega
  have p0 : (0 : Int) ≤ j := by omega
  have p1 : (j : Int) < 16 := by omega
  generalize 2 ^ (k % 64) = p at *
  generalize x ||| p = y at *
  generalize addM M r k = M' at *
  have HL := h.lt
  have HH1 := Lib.hid H1
  have HH3 := Lib.hid H3
  clear h hm hs hb H1 H3 hilt
  go_enter Tryd.func59, Tryd.ntmps59
  go_wp2_with (first | ((with_reducible refine HH1.out.mono ?_); rintro e w' ⟨rfl, rfl⟩) | ((with_reducible refine HH3.out.mono ?_); rintro e w' ⟨rfl, q, rfl⟩))
  refine still_tail 15 (by kernel_rfl) (by kernel_rfl) ?_
  simp only [List.take_succ_cons, List.take_zero, List.drop_succ_cons, List.drop_zero]
  repeat still_step
  still_call ((H2.out _).mono fun e w' h => ⟨h.1, h.2.symm⟩)
  repeat still_step
  refine wpStill_nil ?_
  go_wp2
  go_ret
  have g := grew_set (w.drewN (q + 1)) ⟨R, r * 16 + j, none⟩ (.int .u64 y)
  exact ⟨rfl, HFin.out (q + 1), g.os, g.tape, g.output, g.size, g.block⟩
theorem grew_drewN (w : World) (q : Nat) (row : Option Nat) : w.grownBy (w.drewN q) row := ⟨rfl, rfl, rfl, Nat.le_refl _, fun _ _ _ => rfl⟩
def addB (n c : Nat) (M : List Nat) (r k : Int) : Bool := mayB n c r k && !bitAt M r.toNat k.toNat
def addN (n c : Nat) (M : List Nat) (r k : Int) : List Nat := if addB n c M r k then addM M r.toNat k.toNat else M
def AddPost (B R n c : Nat) (M : List Nat) (r k : Int) (w : World) (e : Ending) (w' : World) : Prop := e = .returned (.bool (addB n c M r k)) ∧ Fam w' B R n c (addN n c M r k) ∧ w.grownBy w' (some R)
set_option maxRecDepth 100000 in
theorem add_no (B R n c : Nat) (M : List Nat) (r k : Int) (w : World) (h : Fam w B R n c M) (hb : addB n c M r k = false) : Calls Tryd.prog 59 #[.pointer (some ⟨B, 0, none⟩), .int .i64 r, .int .i64 k] w (AddPost B R n c M r k w) := by
  have e1 : addN n c M r k = M := by unfold addN; rw [hb]; rfl
  unfold AddPost
  rw [e1, hb]
  have HF : Hid (∀ q, Fam (w.drewN q) B R n c M ∧ w.grownBy (w.drewN q) (some R)) := Lib.hid (fun q => ⟨h.drewN q, grew_drewN _ _ _⟩)
  have H1 := Lib.hid (may B R n c M r k w h)
  have H2 := has_ B R n c M r k w h
  unfold hasB at H2
  unfold addB at hb
  clear e1 h
  cases hm : mayB n c r k with
  | false =>
    rw [hm] at H1
    clear H2 hb hm
    go_enter Tryd.func59, Tryd.ntmps59
    go_wp2_with ((with_reducible refine H1.out.mono ?_); rintro e w' ⟨rfl, rfl⟩)
    go_ret
    exact ⟨rfl, HF.out 0⟩
  | true =>
    rw [hm] at H1 H2 hb
    have hbit : bitAt M r.toNat k.toNat = true := by simpa using hb
    rw [hbit] at H2
    have HH2 := Lib.hid H2
    clear hb hm hbit H2
    go_enter Tryd.func59, Tryd.ntmps59
    go_wp2_with (first | ((with_reducible refine H1.out.mono ?_); rintro e w' ⟨rfl, rfl⟩) | ((with_reducible refine HH2.out.mono ?_); rintro e w' ⟨rfl, q, rfl⟩))
    go_ret
    exact ⟨rfl, HF.out q⟩
theorem add_ (B R n c : Nat) (M : List Nat) (r k : Int) (w : World) (h : Fam w B R n c M) : Calls Tryd.prog 59 #[.pointer (some ⟨B, 0, none⟩), .int .i64 r, .int .i64 k] w (AddPost B R n c M r k w) := by
  cases hb : addB n c M r k with
  | false => exact add_no B R n c M r k w h hb
  | true =>
    have hb' := hb
    unfold addB at hb
    rw [Bool.and_eq_true] at hb
    obtain ⟨hm, hbit⟩ := hb
    obtain ⟨a1, a2, a3, a4⟩ := mayB_iff.1 hm
    obtain ⟨r', rfl⟩ : ∃ q : Nat, r = q := ⟨r.toNat, by omega⟩
    obtain ⟨k', rfl⟩ : ∃ q : Nat, k = q := ⟨k.toNat, by omega⟩
    unfold AddPost addN
    rw [hb', if_pos rfl, Int.toNat_natCast, Int.toNat_natCast]
    exact add_yes B R n c M r' k' w h (by omega) (by omega) (by simpa using hbit)
end Go.Proofs.YtccmlmahjgndbaaDoor.SetB
/- Families of sets of numbers: a set as it is now, Len, Total, by contract. -/
namespace Go.Proofs.YtccmlmahjgndbaaDoor.SetC
set_option linter.unusedVariables false
set_option linter.unusedSimpArgs false
open Go.RowKit Go.Lib Go.Proofs Go.Proofs.YtccmlmahjgndbaaDoor.SetPop Go.Proofs.YtccmlmahjgndbaaDoor.SetA Go.Proofs.YtccmlmahjgndbaaDoor.SetB
set_option linter.unusedVariables false
set_option linter.unusedSimpArgs false
/-- The words of a set. -/
def rowM (M : List Nat) (r : Nat) : List Nat := (M.drop (r * 16)).take 16
def rowI (n : Nat) (M : List Nat) (r : Int) : List Nat := if 0 ≤ r ∧ r < n then rowM M r.toNat else List.replicate 16 0
theorem rowM_len {M : List Nat} {n r : Nat} (hl : M.length = n * 16) (hr : r < n) : (rowM M r).length = 16 := by unfold rowM; simp; omega
theorem rowM_get {M : List Nat} {r j : Nat} (hj : j < 16) : (rowM M r)[j]? = M[r * 16 + j]? := by
  unfold rowM
  rw [List.getElem?_take, if_pos hj, List.getElem?_drop]
theorem rowI_len {M : List Nat} {n : Nat} (hl : M.length = n * 16) (r : Int) : (rowI n M r).length = 16 := by
  unfold rowI
  split
  · exact rowM_len (r := r.toNat) hl (by omega)
  · simp
theorem one_all (M : List Nat) : (encM M).all (·.oneCell') = true := by
  rw [Array.all_eq_true_iff_forall_mem]
  intro v hv
  unfold encM at hv
  rw [List.mem_toArray, List.mem_map] at hv
  obtain ⟨x, _, rfl⟩ := hv
  rfl
theorem sizeNum : (Tryd.prog.info? 75).map (·.size) = some 16 := by kernel_rfl
def AtPost (n : Nat) (M : List Nat) (r : Int) (w : World) (e : Ending) (w' : World) : Prop := e = .returned (.agg (encM (rowI n M r))) ∧ Below w.heap.size w w'
set_option maxRecDepth 100000 in
theorem at_yes (B R n c : Nat) (M : List Nat) (r : Nat) (w : World) (h : Fam w B R n c M) (hr : r < n) : Calls Tryd.prog 47 #[.pointer (some ⟨B, 0, none⟩), .int .i64 r] w (AtPost n M r w) := by
  have hlen := rowM_len h.len hr
  have e1 : rowI n M (r : Int) = rowM M r := by unfold rowI; rw [if_pos (by omega)]; rfl
  unfold AtPost
  rw [e1]
  obtain ⟨T, hT⟩ : ∃ T, rowM M r = T := ⟨_, rfl⟩
  have HR : Hid (∀ o, (w.alloc o).rangeAt R (r * 16) (encM T).toList) := Lib.hid (fun o j v hv => by
    have hj : j < 16 := by
      have := (List.getElem?_eq_some_iff.1 hv).1
      rw [Array.length_toList, encM_size, ← hT, hlen] at this
      exact this
    have hb : (w.alloc o).cell? ⟨R, r * 16 + j, none⟩ = w.cell? ⟨R, r * 16 + j, none⟩ := World.cell?_of_block (w := w) (Below.heap_alloc w o R h.lt.2)
    rw [hb, h.at_ _ (by have := h.len; omega), ← rowM_get hj, hT]
    rw [Array.getElem?_toList, encM_get] at hv
    exact hv)
  have HN : Hid (∀ o, Fam (w.alloc o) B R n c M) := Lib.hid (fun o => h.below ((Below.refl _ _).alloc (Nat.le_refl _) o))
  have H1 : Hid (∀ w', Fam w' B R n c M → Calls Tryd.prog 21 #[.pointer (some ⟨B, 0, none⟩)] w' fun e w'' => e = .returned (.int .i64 n) ∧ w' = w'') := Lib.hid (fun w' hw => rows B R n c M w' hw)
  obtain ⟨cp, h0, _⟩ := h.b0
  have h5 := h.n5
  have hBR := h.lt
  rw [hT] at hlen ⊢
  have hs : (encM T).size = 16 := by rw [encM_size, hlen]
  have hs' : (encM T).toList.length = 16 := by rw [Array.length_toList, hs]
  have HS := Lib.hid hs
  have HS' := Lib.hid hs'
  have h1 := one_all T
  have H1c := Lib.hid h1
  clear hT e1 hlen h hs hs' h1
  generalize encM T = E at *
  go_enter Tryd.func47, Tryd.ntmps47
  go_wp2_with fail
  go_wp2_with (first | ((with_reducible refine (H1.out _ (HN.out _)).mono ?_); rintro e w' ⟨rfl, rfl⟩) | (with_reducible refine wpList_load_mid rfl 75 _ rfl R (r * 16) rfl E.toList _ (HR.out _) Tryd.underlying75 rfl (by rw [HS'.out]; exact sizeNum) ?_) | (refine wpList_store_row rfl 75 _ _ rfl w.heap.size E rfl rfl 75 _ (heap_alloc_new w _) (by rw [HS.out]; exact sizeNum) (by rw [HS.out]; rfl) H1c.out ?_; rw [World.setRow_alloc_new]))
  refine bodyPost_ret (v := .agg E) (results_cell_row (fn := Tryd.f47) rfl _ _ w.heap.size 75 E (0, 0) _ rfl (heap_alloc_new w _) Tryd.underlying75 rfl (by rw [HS.out]; exact sizeNum)) rfl ⟨rfl, (Below.refl _ _).alloc (Nat.le_refl _) _⟩
theorem zeros16 : encM (List.replicate 16 0) = #[.int .u64 0, .int .u64 0, .int .u64 0, .int .u64 0, .int .u64 0, .int .u64 0, .int .u64 0, .int .u64 0, .int .u64 0, .int .u64 0, .int .u64 0, .int .u64 0, .int .u64 0, .int .u64 0, .int .u64 0, .int .u64 0] := by rfl
set_option maxRecDepth 100000 in
theorem at_no (B R n c : Nat) (M : List Nat) (r : Int) (w : World) (h : Fam w B R n c M) (hr : ¬ (0 ≤ r ∧ r < n)) : Calls Tryd.prog 47 #[.pointer (some ⟨B, 0, none⟩), .int .i64 r] w (AtPost n M r w) := by
  have e1 : rowI n M r = List.replicate 16 0 := by unfold rowI; rw [if_neg hr]
  unfold AtPost
  rw [e1, zeros16]
  have HN : Hid (∀ o, Fam (w.alloc o) B R n c M) := Lib.hid (fun o => h.below ((Below.refl _ _).alloc (Nat.le_refl _) o))
  have H1 : Hid (∀ w', Fam w' B R n c M → Calls Tryd.prog 21 #[.pointer (some ⟨B, 0, none⟩)] w' fun e w'' => e = .returned (.int .i64 n) ∧ w' = w'') := Lib.hid (fun w' hw => rows B R n c M w' hw)
  have h5 := h.n5
  clear e1 h
  by_cases hneg : r < 0
  · clear hr
    go_enter Tryd.func47, Tryd.ntmps47
    go_wp2_with fail
    refine bodyPost_ret (results_cell_row (fn := Tryd.f47) rfl _ _ w.heap.size 75 _ (0, 0) _ rfl (heap_alloc_new w _) Tryd.underlying75 rfl sizeNum) rfl ⟨rfl, (Below.refl _ _).alloc (Nat.le_refl _) _⟩
  · have hge : (n : Int) ≤ r := by omega
    have h0 : 0 ≤ r := by omega
    clear hr hneg
    go_enter Tryd.func47, Tryd.ntmps47
    go_wp2_with ((with_reducible refine (H1.out _ (HN.out _)).mono ?_); rintro e w' ⟨rfl, rfl⟩)
    refine bodyPost_ret (results_cell_row (fn := Tryd.f47) rfl _ _ w.heap.size 75 _ (0, 0) _ rfl (heap_alloc_new w _) Tryd.underlying75 rfl sizeNum) rfl ⟨rfl, (Below.refl _ _).alloc (Nat.le_refl _) _⟩
theorem at_ (B R n c : Nat) (M : List Nat) (r : Int) (w : World) (h : Fam w B R n c M) : Calls Tryd.prog 47 #[.pointer (some ⟨B, 0, none⟩), .int .i64 r] w (AtPost n M r w) := by
  by_cases hr : 0 ≤ r ∧ r < n
  · obtain ⟨r', rfl⟩ : ∃ q : Nat, r = q := ⟨r.toNat, by omega⟩
    exact at_yes B R n c M r' w h (by omega)
  · exact at_no B R n c M r w h hr
/-- How many numbers a set has. -/
def cnt (T : List Nat) : Nat := (T.map pop).sum
theorem pop_le (x : Nat) : pop x ≤ 64 := by
  unfold pop
  have := List.countP_le_length (p := fun i => x.testBit i) (l := List.range 64)
  simpa using this
theorem cnt_le (T : List Nat) : cnt T ≤ 64 * T.length := by
  unfold cnt
  induction T with
  | nil => simp
  | cons a T ih => have := pop_le a; simp; omega
theorem cnt_succ (T : List Nat) (k : Nat) (h : k < T.length) : cnt (T.take (k + 1)) = cnt (T.take k) + pop T[k] := by
  unfold cnt
  rw [List.take_succ_eq_append_getElem h, List.map_append, List.sum_append]
  simp
/-- The words of a set are below 2 to 64. -/
theorem rowI_small {w : World} {B R n c : Nat} {M : List Nat} (h : Fam w B R n c M) (r : Int) : ∀ x ∈ rowI n M r, x < 18446744073709551616 := by
  intro x hx
  unfold rowI at hx
  split at hx
  · exact h.small x (List.mem_of_mem_drop (List.mem_of_mem_take hx))
  · rw [List.eq_of_mem_replicate hx]; omega
set_option maxRecDepth 100000 in
theorem idx (T : List Nat) (k : Nat) (hT : T.length = 16) (hk : k < 16) (w : World) : (Instr.index 75 (.agg (encM T)) (.int .i64 k)).run Tryd.prog w = .ok (.int .u64 (T.getD k 0)) w := by
  match T, hT with
  | [a0, a1, a2, a3, a4, a5, a6, a7, a8, a9, a10, a11, a12, a13, a14, a15], _ =>
    match k, hk with
    | 0, _ => rfl
    | 1, _ => rfl
    | 2, _ => rfl
    | 3, _ => rfl
    | 4, _ => rfl
    | 5, _ => rfl
    | 6, _ => rfl
    | 7, _ => rfl
    | 8, _ => rfl
    | 9, _ => rfl
    | 10, _ => rfl
    | 11, _ => rfl
    | 12, _ => rfl
    | 13, _ => rfl
    | 14, _ => rfl
    | 15, _ => rfl
    | k + 16, h => exact absurd h (by omega)
end Go.Proofs.YtccmlmahjgndbaaDoor.SetC
/- Families of sets of numbers: Total, inside, Inside, Meets, by contract. -/
namespace Go.Proofs.YtccmlmahjgndbaaDoor.SetD
set_option linter.unusedVariables false
set_option linter.unusedSimpArgs false
open Go.RowKit Go.Lib Go.Proofs Go.Proofs.YtccmlmahjgndbaaDoor.SetPop Go.Proofs.YtccmlmahjgndbaaDoor.SetA Go.Proofs.YtccmlmahjgndbaaDoor.SetB Go.Proofs.YtccmlmahjgndbaaDoor.SetC
set_option linter.unusedVariables false
set_option linter.unusedSimpArgs false
/-- How many numbers the first k sets have together. -/
def tot (n : Nat) (M : List Nat) (k : Nat) : Nat := ((List.range k).map fun r : Nat => cnt (rowI n M r)).sum
theorem tot_succ (n : Nat) (M : List Nat) (k : Nat) : tot n M (k + 1) = tot n M k + cnt (rowI n M k) := by
  unfold tot
  rw [List.range_succ, List.map_append, List.sum_append]
  simp
theorem cntI_le {n : Nat} {M : List Nat} (hl : M.length = n * 16) (r : Int) : cnt (rowI n M r) ≤ 1024 := by
  have := cnt_le (rowI n M r)
  rw [rowI_len hl] at this
  exact this
theorem tot_le {n : Nat} {M : List Nat} (hl : M.length = n * 16) (k : Nat) : tot n M k ≤ k * 1024 := by
  induction k with
  | zero => simp [tot]
  | succ k ih => have := cntI_le hl (k : Int); rw [tot_succ]; omega
/-- The bits of x that y hasn't. -/
def andN (x y : Nat) : Nat := (BitVec.ofNat 64 x &&& ~~~ BitVec.ofNat 64 y).toNat
theorem bits_andN (x y : Nat) : bits .andNot .u64 (x : Int) (y : Int) = (andN x y : Int) := by
  show IntKind.u64.wrap ((BitVec.ofInt 64 (x : Int) &&& ~~~ BitVec.ofInt 64 (y : Int)).toNat : Int) = _
  rw [BitVec.ofInt_natCast, BitVec.ofInt_natCast]
  unfold andN
  have := (BitVec.ofNat 64 x &&& ~~~ BitVec.ofNat 64 y).isLt
  exact wrap_n _ (by simpa using this)
theorem andN_testBit (x y i : Nat) (hx : x < 18446744073709551616) : (andN x y).testBit i = (decide (i < 64) && x.testBit i && !y.testBit i) := by
  unfold andN
  rw [BitVec.testBit_toNat, BitVec.getLsbD_and, BitVec.getLsbD_not, BitVec.getLsbD_ofNat, BitVec.getLsbD_ofNat]
  by_cases h : i < 64 <;> simp [h]
theorem andN_zero (x y : Nat) (hx : x < 18446744073709551616) : andN x y = 0 ↔ ∀ i, x.testBit i = true → y.testBit i = true := by
  constructor
  · intro h i hi
    have := andN_testBit x y i hx
    rw [h, Nat.zero_testBit, hi] at this
    have h64 : i < 64 := by
      rcases Nat.lt_or_ge i 64 with h | h
      · exact h
      · rw [Nat.testBit_lt_two_pow (Nat.lt_of_lt_of_le hx (by simpa using Nat.pow_le_pow_right (n := 2) (by omega) h))] at hi
        cases hi
    simpa [h64] using this.symm
  · intro h
    apply Nat.eq_of_testBit_eq
    intro i
    rw [andN_testBit x y i hx, Nat.zero_testBit]
    cases hi : x.testBit i
    · simp
    · simp [h i hi]
def insideB (A B : List Nat) : Bool := (List.range 16).all fun k => andN (A.getD k 0) (B.getD k 0) == 0
def meetsB (A B : List Nat) : Bool := (List.range 16).any fun k => (A.getD k 0 &&& B.getD k 0) != 0
theorem inside_yes {A B : List Nat} (h : ∀ k, k < 16 → andN (A.getD k 0) (B.getD k 0) = 0) : insideB A B = true := by
  unfold insideB
  rw [List.all_eq_true]
  intro k hk
  simpa using h k (by simpa using hk)
theorem inside_no {A B : List Nat} {k : Nat} (hk : k < 16) (h : andN (A.getD k 0) (B.getD k 0) ≠ 0) : insideB A B = false := by
  unfold insideB
  rw [List.all_eq_false]
  exact ⟨k, by simpa using hk, by simpa using h⟩
theorem meets_no {A B : List Nat} (h : ∀ k, k < 16 → (A.getD k 0 &&& B.getD k 0) = 0) : meetsB A B = false := by
  unfold meetsB
  rw [List.any_eq_false]
  intro k hk
  simpa using h k (by simpa using hk)
theorem meets_yes {A B : List Nat} {k : Nat} (hk : k < 16) (h : (A.getD k 0 &&& B.getD k 0) ≠ 0) : meetsB A B = true := by
  unfold meetsB
  rw [List.any_eq_true]
  exact ⟨k, by simpa using hk, by simpa using h⟩
theorem enc_cell (X : World) (T : List Nat) (t : TypeId) (k : Nat) (hT : T.length = 16) (hk : k < 16) {W : World} (hW : W.heap[X.heap.size]? = some (.cells (encM T) t (0, 0))) : W.cell? ⟨X.heap.size, k, none⟩ = some (.int .u64 (T.getD k 0)) := by
  rw [Lib.cell_of_heap hW, encM_get, List.getD_eq_getElem?_getD, List.getElem?_eq_getElem (by omega)]
  rfl
set_option maxRecDepth 100000 in
theorem inside (A B : List Nat) (w : World) (hA : A.length = 16) (hB : B.length = 16) (sA : ∀ x ∈ A, x < 18446744073709551616) : Calls Tryd.prog 51 #[.agg (encM A), .agg (encM B)] w fun e w' => e = .returned (.bool (insideB A B)) ∧ Below w.heap.size w w' := by
  have HX : Hid (∀ k, k < 16 → ((w.alloc (.cells (encM A) 75)).alloc (.cells (encM B) 75)).cell? ⟨w.heap.size, k, none⟩ = some (.int .u64 (A.getD k 0)) ∧ ((w.alloc (.cells (encM A) 75)).alloc (.cells (encM B) 75)).cell? ⟨w.heap.size + 1, k, none⟩ = some (.int .u64 (B.getD k 0))) := Lib.hid (fun k hk => ⟨enc_cell w A 75 k hA hk (heap_alloc2_old w _ _), by
    have := enc_cell (w.alloc (.cells (encM A) 75)) B 75 k hB hk (W := (w.alloc (.cells (encM A) 75)).alloc (.cells (encM B) 75)) (heap_alloc_new _ _)
    simpa using this⟩)
  have HN := Lib.hid (fun k (hk : k < 16) h => inside_no (A := A) (B := B) hk h)
  have HY := Lib.hid (fun h => inside_yes (A := A) (B := B) h)
  have HBd := Lib.hid (fun q => below_drewN (((Below.refl w.heap.size w).alloc (Nat.le_refl _) (.cells (encM A) 75)).alloc (by simp) (.cells (encM B) 75)) q)
  clear hA hB sA
  generalize encM A = EA at *
  generalize encM B = EB at *
  go_enter Tryd.func51, Tryd.ntmps51
  go_wp2_with fail
  generalize hW : ((w.alloc (.cells EA 75)).alloc (.cells EB 75)) = w2 at *
  clear hW
  go_loopw [6] (fun i wr => ∃ k : Nat, k ≤ 16 ∧ i = .int .i64 k ∧ Hid (∀ j, j < k → andN (A.getD j 0) (B.getD j 0) = 0) ∧ ∃ q, wr = w2.drewN q) (fun i _ => 16 - (intOf i).toNat)
  case atStart => exact ⟨0, by omega, rfl, Lib.hid (fun j hj => absurd hj (by omega)), 0, rfl⟩
  case round =>
    obtain ⟨k, hk, rfl, hz, q, rfl⟩ := hrel
    by_cases hlt : k < 16
    · have d1 : decide ((k : Int) < 16) = true := by simp; omega
      have p0 : (0 : Int) ≤ k := by omega
      have p1 : (k : Int) < 16 := by omega
      have hx := HX.out k hlt
      obtain ⟨x1, x2⟩ := hx
      have hand := bits_andN (A.getD k 0) (B.getD k 0)
      by_cases hzero : andN (A.getD k 0) (B.getD k 0) = 0
      · have hz2 : Hid (∀ j, j < k + 1 → andN (A.getD j 0) (B.getD j 0) = 0) := Lib.hid (fun j hj => by
          rcases Nat.lt_or_ge j k with h | h
          · exact hz.out j h
          · obtain rfl : j = k := by omega
            exact hzero)
        rw [hzero] at hand
        clear hz hzero
        generalize A.getD k 0 = x at *
        generalize B.getD k 0 = y at *
        go_wp2_with fail
        go_quiet (fail)
        go_wp2_with fail
        go_roundw
        case rel => exact ⟨k + 1, by omega, by go_num, hz2, _, rfl⟩
        case measure => simp [intOf]; omega
      · have hn := HN.out k hlt hzero
        have HNk := Lib.hid hn
        have hne : ((andN (A.getD k 0) (B.getD k 0) : Int) != 0) = true := by simp; exact hzero
        clear hz hzero hn
        generalize andN (A.getD k 0) (B.getD k 0) = z at *
        generalize A.getD k 0 = x at *
        generalize B.getD k 0 = y at *
        go_wp2_with fail
        go_quiet (fail)
        go_wp2_with fail
        go_ret
        exact ⟨ret_bool HNk.out.symm, by rw [World.drewN_drewN]; exact HBd.out _⟩
    · have d1 : decide ((k : Int) < 16) = false := by simp; omega
      have hk16 := Lib.hid (show k = 16 by omega)
      have HYk := Lib.hid (HY.out (by rw [← hk16.out]; exact hz.out))
      clear hz
      go_wp2_with fail
      go_ret
      exact ⟨ret_bool HYk.out.symm, HBd.out _⟩
def InsidePost (b : Bool) (w : World) (e : Ending) (w' : World) : Prop := e = .returned (.bool b) ∧ Below w.heap.size w w'
set_option maxRecDepth 100000 in
theorem inside_at (v : Value) (A C : List Nat) (r k : Int) (w : World) (hA : A.length = 16) (hC : C.length = 16) (sA : ∀ x ∈ A, x < 18446744073709551616)
    (h1 : ∀ wr, Below w.heap.size w wr → Calls Tryd.prog 47 #[v, .int .i64 r] wr fun e w' => e = .returned (.agg (encM A)) ∧ Below wr.heap.size wr w')
    (h2 : ∀ wr, Below w.heap.size w wr → Calls Tryd.prog 47 #[v, .int .i64 k] wr fun e w' => e = .returned (.agg (encM C)) ∧ Below wr.heap.size wr w') : Calls Tryd.prog 30 #[v, .int .i64 r, .int .i64 k] w (InsidePost (insideB A C) w) := by
  have H1 := Lib.hid h1
  have H2 := Lib.hid h2
  have H3 := Lib.hid (fun wr => inside A C wr hA hC sA)
  unfold InsidePost
  clear h1 h2 hA hC sA
  generalize insideB A C = b at *
  generalize encM A = E1 at *
  generalize encM C = E2 at *
  go_enter Tryd.func30, Tryd.ntmps30
  go_wp2_with fail
  refine (H1.out _ (Below.refl _ _)).mono ?_
  rintro e w1 ⟨rfl, hb1⟩
  have HB1 := Lib.hid hb1
  clear hb1
  go_wp2_with fail
  refine (H2.out _ HB1.out).mono ?_
  rintro e w2 ⟨rfl, hb2⟩
  have HB2 := Lib.hid (HB1.out.trans (hb2.mono HB1.out.size))
  clear hb2
  go_wp2_with fail
  refine (H3.out _).mono ?_
  rintro e w3 ⟨rfl, hb3⟩
  have HB3 := Lib.hid (HB2.out.trans (hb3.mono HB2.out.size))
  clear hb3
  go_wp2_with fail
  go_ret
  exact ⟨rfl, HB3.out⟩
theorem setRow2 (X : World) (z1 z2 a b : Array Value) (t : TypeId) : (((X.alloc (.cells z1 t)).alloc (.cells z2 t)).setRow X.heap.size a).setRow (X.heap.size + 1) b = (X.alloc (.cells a t)).alloc (.cells b t) := by
  have h1 : ((X.alloc (.cells z1 t)).alloc (.cells z2 t)).setRow X.heap.size a = (X.alloc (.cells a t)).alloc (.cells z2 t) := by
    simp only [World.setRow, World.alloc]
    congr 1
    apply Array.ext_getElem?
    intro i
    rw [Array.getElem?_modify]
    by_cases h : X.heap.size = i
    · subst h
      simp [Array.getElem?_push]
    · have h' : ¬ i = X.heap.size := fun e => h e.symm
      simp [h, h', Array.getElem?_push]
  rw [h1]
  have := World.setRow_alloc_new (X.alloc (.cells a t)) z2 b t
  simpa using this
theorem inside_ (B R n c : Nat) (M : List Nat) (r k : Int) (w : World) (h : Fam w B R n c M) : Calls Tryd.prog 30 #[.pointer (some ⟨B, 0, none⟩), .int .i64 r, .int .i64 k] w (InsidePost (insideB (rowI n M r) (rowI n M k)) w) :=
  inside_at _ _ _ r k w (rowI_len h.len r) (rowI_len h.len k) (rowI_small h r) (fun wr hb => at_ B R n c M r wr (h.below hb)) (fun wr hb => at_ B R n c M k wr (h.below hb))
end Go.Proofs.YtccmlmahjgndbaaDoor.SetD
/- Families of sets of numbers: what was added is in; the document's example. -/
namespace Go.Proofs.YtccmlmahjgndbaaDoor.SetE
set_option linter.unusedVariables false
set_option linter.unusedSimpArgs false
open Go.RowKit Go.Lib Go.Proofs Go.Proofs.YtccmlmahjgndbaaDoor.SetPop Go.Proofs.YtccmlmahjgndbaaDoor.SetA Go.Proofs.YtccmlmahjgndbaaDoor.SetB Go.Proofs.YtccmlmahjgndbaaDoor.SetC Go.Proofs.YtccmlmahjgndbaaDoor.SetD
set_option linter.unusedVariables false
set_option linter.unusedSimpArgs false
theorem addM_len (M : List Nat) (r k : Nat) : (addM M r k).length = M.length := by unfold addM; simp
theorem addN_len (n c : Nat) (M : List Nat) (r k : Int) : (addN n c M r k).length = M.length := by unfold addN; split <;> simp [addM_len]
theorem bit_addM (M : List Nat) (r k r' k' : Nat) (h : r * 16 + k / 64 < M.length) (hk : k < 1024) (hk' : k' < 1024) : bitAt (addM M r k) r' k' = (bitAt M r' k' || decide (r' = r ∧ k' = k)) := by
  unfold bitAt addM
  by_cases hi : r * 16 + k / 64 = r' * 16 + k' / 64
  · have hr : r = r' := by omega
    have hq : k / 64 = k' / 64 := by omega
    subst hr
    have e : word (M.set (r * 16 + k / 64) (word M r k ||| 2 ^ (k % 64))) r k' = word M r k ||| 2 ^ (k % 64) := by
      unfold word
      rw [← hq, List.getD_eq_getElem?_getD, List.getElem?_set_self h]; rfl
    have e2 : word M r k' = word M r k := by unfold word; rw [hq]
    rw [e, e2, Nat.testBit_or, Nat.testBit_two_pow]
    congr 1
    apply decide_eq_decide.2
    omega
  · have e : word (M.set (r * 16 + k / 64) (word M r k ||| 2 ^ (k % 64))) r' k' = word M r' k' := by
      unfold word
      rw [List.getD_eq_getElem?_getD, List.getElem?_set_ne hi, List.getD_eq_getElem?_getD]
    rw [e]
    have : decide (r' = r ∧ k' = k) = false := decide_eq_false (by rintro ⟨rfl, rfl⟩; exact hi rfl)
    rw [this, Bool.or_false]
theorem bit_addN (n c : Nat) (M : List Nat) (r k : Int) (r' k' : Nat) (hM : M.length = n * 16) (hc : c ≤ 1000) (hr : r' < n) (hk : k' < c) : bitAt (addN n c M r k) r' k' = (bitAt M r' k' || decide (r = r' ∧ k = k')) := by
  unfold addN
  cases hb : addB n c M r k with
  | true =>
    rw [if_pos rfl]
    unfold addB at hb
    rw [Bool.and_eq_true] at hb
    obtain ⟨a1, a2, a3, a4⟩ := mayB_iff.1 hb.1
    rw [bit_addM _ _ _ _ _ (by omega) (by omega) (by omega)]
    congr 1
    apply decide_eq_decide.2
    omega
  | false =>
    rw [if_neg (by simp)]
    by_cases h : r = r' ∧ k = k'
    · obtain ⟨rfl, rfl⟩ := h
      unfold addB at hb
      have hm : mayB n c (r' : Int) (k' : Int) = true := mayB_iff.2 ⟨by omega, by omega, by omega, by omega⟩
      rw [hm] at hb
      have : bitAt M r' k' = true := by simpa using hb
      simp [this]
    · simp [h]
/-- The words behind some calls of Add. -/
def addL (n c : Nat) (M : List Nat) : List (Int × Int) → List Nat
  | [] => M
  | p :: l => addL n c (addN n c M p.1 p.2) l
theorem addL_snoc (n c : Nat) : ∀ (l : List (Int × Int)) (M : List Nat) (p : Int × Int), addL n c M (l ++ [p]) = addN n c (addL n c M l) p.1 p.2
  | [], _, _ => rfl
  | q :: l, M, p => addL_snoc n c l _ p
theorem addL_len (n c : Nat) : ∀ (l : List (Int × Int)) (M : List Nat), (addL n c M l).length = M.length
  | [], _ => rfl
  | q :: l, M => (addL_len n c l _).trans (addN_len _ _ _ _ _)
theorem bit_addL (n c : Nat) (hc : c ≤ 1000) : ∀ (l : List (Int × Int)) (M : List Nat) (r' k' : Nat), M.length = n * 16 → r' < n → k' < c → bitAt (addL n c M l) r' k' = (bitAt M r' k' || decide (((r' : Int), (k' : Int)) ∈ l))
  | [], _, _, _, _, _, _ => by simp [addL]
  | q :: l, M, r', k', hM, hr, hk => by
    rw [addL, bit_addL n c hc l _ r' k' (by rw [addN_len, hM]) hr hk, bit_addN n c M q.1 q.2 r' k' hM hc hr hk, Bool.or_assoc]
    congr 1
    rw [Bool.eq_iff_iff]
    simp only [Bool.or_eq_true, decide_eq_true_eq, List.mem_cons]
    obtain ⟨a, b⟩ := q
    simp only [Prod.mk.injEq]
    constructor
    · rintro (⟨rfl, rfl⟩ | h)
      · exact Or.inl ⟨rfl, rfl⟩
      · exact Or.inr h
    · rintro (⟨h1, h2⟩ | h)
      · exact Or.inl ⟨h1.symm, h2.symm⟩
      · exact Or.inr h
theorem bit_zero (m r k : Nat) : bitAt (List.replicate m 0) r k = false := by
  unfold bitAt word
  rw [List.getD_eq_getElem?_getD, List.getElem?_replicate]
  split <;> simp
theorem pop_zero (x : Nat) (hx : x < 18446744073709551616) : pop x = 0 ↔ x = 0 := by
  constructor
  · intro h
    unfold pop at h
    rw [List.countP_eq_zero] at h
    apply Nat.eq_of_testBit_eq
    intro i
    rw [Nat.zero_testBit]
    rcases Nat.lt_or_ge i 64 with hi | hi
    · have := h i (by simpa using hi)
      simpa using this
    · exact Nat.testBit_lt_two_pow (Nat.lt_of_lt_of_le hx (by simpa using Nat.pow_le_pow_right (n := 2) (by omega) hi))
  · rintro rfl
    unfold pop
    simp
theorem cnt_zero (T : List Nat) (hT : ∀ x ∈ T, x < 18446744073709551616) : cnt T = 0 ↔ ∀ x ∈ T, x = 0 := by
  unfold cnt
  induction T with
  | nil => simp
  | cons a T ih =>
    have := pop_zero a (hT a (by simp))
    have ih := ih (fun x hx => hT x (by simp [hx]))
    simp only [List.map_cons, List.sum_cons, List.mem_cons, forall_eq_or_imp]
    rw [← this, ← ih]
    omega
theorem getD_mem {T : List Nat} {k : Nat} (h : k < T.length) : T.getD k 0 ∈ T := by
  rw [List.getD_eq_getElem?_getD, List.getElem?_eq_getElem h]; exact List.getElem_mem _
theorem inside_self (T : List Nat) (h16 : T.length = 16) (hT : ∀ x ∈ T, x < 18446744073709551616) : insideB T T = true :=
  inside_yes fun k hk => (andN_zero _ _ (hT _ (getD_mem (by omega)))).2 fun _ h => h
theorem meets_self (T : List Nat) (h16 : T.length = 16) (hT : ∀ x ∈ T, x < 18446744073709551616) : meetsB T T = decide (0 < cnt T) := by
  by_cases h : cnt T = 0
  · rw [h]
    have hz := (cnt_zero T hT).1 h
    exact meets_no fun k hk => by rw [hz _ (getD_mem (by omega))]; rfl
  · have : decide (0 < cnt T) = true := decide_eq_true (by omega)
    rw [this]
    have hne : ¬ ∀ x ∈ T, x = 0 := fun e => h ((cnt_zero T hT).2 e)
    have : ∃ x ∈ T, x ≠ 0 := by
      apply Classical.byContradiction
      intro hc
      exact hne fun x hx => Classical.byContradiction fun hx0 => hc ⟨x, hx, hx0⟩
    obtain ⟨x, hx, hx0⟩ := this
    obtain ⟨k, hk, rfl⟩ := List.getElem_of_mem hx
    refine meets_yes (k := k) (by omega) ?_
    rw [List.getD_eq_getElem?_getD, List.getElem?_eq_getElem hk, Option.getD_some, Nat.and_self]
    exact hx0
theorem Fam.grown {w w' : World} {R : Nat} {W : World} (hb : Below W.heap.size W w) (hg : w.grownBy w' (some R)) (hR : W.heap.size ≤ R) : Below W.heap.size W w' :=
  hb.grown hg hb.size (fun k hk => by injection hk with hk; omega)
def E0 : List Nat := List.replicate 32 0
def E1 : List Nat := addN 2 100 E0 0 70
def E2 : List Nat := addN 2 100 E1 1 70
theorem e1 : addB 2 100 E0 0 70 = true := by decide +kernel
theorem e2 : addB 2 100 E1 1 70 = true := by decide +kernel
theorem e3 : meetsB (rowI 2 E2 0) (rowI 2 E2 1) = true := by decide +kernel
theorem e4 : addB 2 100 E2 1 70 = false := by decide +kernel
theorem e5 : tot 2 E2 2 = 2 := by decide +kernel
theorem e6 : addN 2 100 E2 1 70 = E2 := by unfold addN; rw [e4]; rfl
theorem w2 : (within 2 5000).toNat = 2 := by decide
theorem w100 : (within 100 1000).toNat = 100 := by decide
end Go.Proofs.YtccmlmahjgndbaaDoor.SetE
/- The walk of the law of sums. -/
namespace Go.Proofs.YtccmlmahjgndbaaDoor.SetF
set_option linter.unusedVariables false
set_option linter.unusedSimpArgs false
open Go.RowKit Go.Lib Go.Proofs Go.Proofs.YtccmlmahjgndbaaDoor.SetPop Go.Proofs.YtccmlmahjgndbaaDoor.SetA Go.Proofs.YtccmlmahjgndbaaDoor.SetB Go.Proofs.YtccmlmahjgndbaaDoor.SetC Go.Proofs.YtccmlmahjgndbaaDoor.SetD Go.Proofs.YtccmlmahjgndbaaDoor.SetE
set_option linter.unusedVariables false
set_option linter.unusedSimpArgs false
/-- A slice value that reads as pairs of numbers, wherever it lies. -/
def PrG (w : World) (A : Option Addr) (L : List (Int × Int)) : Prop :=
  0 < L.length → ∃ g o, A = some ⟨g, o, none⟩ ∧ g < w.heap.size ∧ ∀ j, (h : j < L.length) → w.cell? ⟨g, o + j * 2, none⟩ = some (.int .i64 L[j].1) ∧ w.cell? ⟨g, o + j * 2 + 1, none⟩ = some (.int .i64 L[j].2)
theorem PrG.below {w w' : World} {A : Option Addr} {L : List (Int × Int)} (h : PrG w A L) (hb : Below w.heap.size w w') : PrG w' A L := fun hp => by
  obtain ⟨g, o, hA, hg, hc⟩ := h hp
  refine ⟨g, o, hA, Nat.lt_of_lt_of_le hg hb.size, fun j hj => ?_⟩
  obtain ⟨a, b⟩ := hc j hj
  exact ⟨(hb.cell (p := ⟨g, o + j * 2, none⟩) hg).trans a, (hb.cell (p := ⟨g, o + j * 2 + 1, none⟩) hg).trans b⟩
theorem PrG.take {w : World} {A : Option Addr} {L : List (Int × Int)} (h : PrG w A L) (m : Nat) : PrG w A (L.take m) := fun hp => by
  obtain ⟨g, o, hA, hg, hc⟩ := h (by simp at hp; omega)
  refine ⟨g, o, hA, hg, fun j hj => ?_⟩
  rw [List.getElem_take]
  exact hc j (by simp at hj; omega)
theorem eqI (d : Nat) (a b : Int) (w : World) : (Op.equalIn (d + 1) 3 (.int .i64 a) (.int .i64 b)).run Tryd.prog w = .ok (a == b) w := by
  simp [Op.equalIn, run_underlying Tryd.underlying3]
theorem keyI : (Tryd.prog).plainKey 3 = true := by kernel_rfl
theorem cellsI : (Tryd.prog).cellsOf 3 = 1 := by kernel_rfl
theorem infoI : ∃ i, (Tryd.prog).info? 3 = some i := by
  cases h : (Tryd.prog).info? 3 with
  | none => exact absurd h (by intro h; have : ((Tryd.prog).info? 3).isSome = true := by kernel_rfl
                               rw [h] at this; cases this)
  | some i => exact ⟨i, rfl⟩
theorem eqP (a b a2 b2 : Int) (w : World) : (binOp .eql 22 (.agg #[.int .i64 a, .int .i64 b]) (.agg #[.int .i64 a2, .int .i64 b2])).run Tryd.prog w = .ok (.bool (decide (a = a2 ∧ b = b2))) w := by
  obtain ⟨i, hi⟩ := infoI
  have h := run_equalIn_array (P := Tryd.prog) w 9999 #[.int .i64 a, .int .i64 b] #[.int .i64 a2, .int .i64 b2] Tryd.underlying22 hi
  have h2 : (Op.equalIn 10000 22 (.agg #[.int .i64 a, .int .i64 b]) (.agg #[.int .i64 a2, .int .i64 b2])).run Tryd.prog w = .ok (decide (a = a2 ∧ b = b2)) w := by
    refine h.trans ?_
    rw [cellsI]
    have p0 := run_part_plain (P := Tryd.prog) w keyI (xs := #[.int .i64 a, .int .i64 b]) (off := 0) (v := .int .i64 a) rfl
    have p1 := run_part_plain (P := Tryd.prog) w keyI (xs := #[.int .i64 a, .int .i64 b]) (off := 1) (v := .int .i64 b) rfl
    have q0 := run_part_plain (P := Tryd.prog) w keyI (xs := #[.int .i64 a2, .int .i64 b2]) (off := 0) (v := .int .i64 a2) rfl
    have q1 := run_part_plain (P := Tryd.prog) w keyI (xs := #[.int .i64 a2, .int .i64 b2]) (off := 1) (v := .int .i64 b2) rfl
    have e0 : (Op.equalIn 9999 3 (.int .i64 a) (.int .i64 a2)).run Tryd.prog w = .ok (a == a2) w := eqI 9998 a a2 w
    have e1 : (Op.equalIn 9999 3 (.int .i64 b) (.int .i64 b2)).run Tryd.prog w = .ok (b == b2) w := eqI 9998 b b2 w
    simp only [List.range, List.range.loop, Op.eqItems, Sem.run_bind, Nat.zero_mul, Nat.one_mul, p0, p1, q0, q1, Result.andThen_ok, e0, e1]
    by_cases h0 : a = a2
    rotate_left
    · simp [h0]
    subst h0
    by_cases h1 : b = b2
    · subst h1
      simp [p1, q1, e1]
    · simp [p1, q1, e1, h1]
  clear h
  simp only [go_sem]
  go_simp
end Go.Proofs.YtccmlmahjgndbaaDoor.SetF
/- A slice of pairs of numbers that came in reads as a list of them. -/
namespace Go.Proofs.YtccmlmahjgndbaaDoor.SetO
set_option linter.unusedVariables false
set_option linter.unusedSimpArgs false
open Go.ChangeShapes Go.WideShapes Go.ChangeAt Go.RowKit
open Go.Proofs.YtccmlmahjgndbaaDoor.SetF
set_option maxRecDepth 100000
set_option linter.unusedVariables false
theorem list_of {α : Type} {P : Nat → α → Prop} : ∀ n, (∀ i, i < n → ∃ x, P i x) → ∃ L : List α, L.length = n ∧ ∀ i, (h : i < L.length) → P i L[i]
  | 0, _ => ⟨[], rfl, fun i h => absurd h (Nat.not_lt_zero i)⟩
  | n + 1, H => by
    obtain ⟨L, hl, hp⟩ := list_of n fun i hi => H i (by omega)
    obtain ⟨x, hx⟩ := H n (by omega)
    refine ⟨L ++ [x], by simp [hl], fun i h => ?_⟩
    by_cases hi : i < L.length
    · rw [List.getElem_append_left hi]; exact hp i hi
    · have : i = n := by simp at h; omega
      subst this
      rw [List.getElem_append_right (by omega)]
      simpa [hl] using hx
theorem add_off (b off j : Nat) : ((⟨b, off, none⟩ : Addr).add j) = ⟨b, off + j, none⟩ := by
  unfold Addr.add
  split
  · rename_i h; subst h; rfl
  · simp
theorem cells3 : Tryd.prog.cellsOf 3 = 1 := by kernel_rfl
theorem cellsP : Tryd.prog.cellsOf 22 = 2 := by kernel_rfl
section
variable {H : Type} {enc : TypeId × Value → H} {w : World} {base : Nat} {spare : Nat → Bool} {held : Bool} {fuel : Nat} {cs : List Value} {x : DataW H × List MemPlace}
theorem some_at {α : Type} {xs : List α} {n i : Nat} (h : xs.length = n) (hi : i < n) : ∃ y, xs[i]? = some y := ⟨xs[i]'(by omega), List.getElem?_eq_getElem _⟩
theorem pair_cells (h : DataW.trod enc Tryd.prog w base spare held fuel 22 cs = some x) : ∃ r : Int × Int, cs = [.int .i64 r.1, .int .i64 r.2] := by
  obtain ⟨xs, n, _, _, hl, hxl, hf⟩ := DataW.trod_array Tryd.underlying22 h
  rw [cellsP] at hl
  match cs, hl with
  | [c0, c1], _ =>
    have h0 : DataW.trod enc Tryd.prog w base spare held n 3 (([c0, c1].drop (0 * Tryd.prog.cellsOf 3)).take (Tryd.prog.cellsOf 3)) = xs[0]? := hf 0 (by decide)
    have h1 : DataW.trod enc Tryd.prog w base spare held n 3 (([c0, c1].drop (1 * Tryd.prog.cellsOf 3)).take (Tryd.prog.cellsOf 3)) = xs[1]? := hf 1 (by decide)
    obtain ⟨y0, e0⟩ := some_at (i := 0) hxl (by decide)
    obtain ⟨y1, e1⟩ := some_at (i := 1) hxl (by decide)
    rw [e0] at h0
    rw [e1] at h1
    rw [cells3] at h0 h1
    obtain ⟨s0, a0, _, _⟩ := DataW.trod_int Tryd.underlying3 h0
    obtain ⟨s1, a1, _, _⟩ := DataW.trod_int Tryd.underlying3 h1
    simp at a0 a1
    subst a0; subst a1
    exact ⟨(s0, s1), rfl⟩
end
end Go.Proofs.YtccmlmahjgndbaaDoor.SetO
/- What the row's list of laid tables gives, and a start that holds the table. -/
namespace Go.Proofs.YtccmlmahjgndbaaDoor.SetLaid
set_option linter.unusedVariables false
set_option linter.unusedSimpArgs false
open Go.RowKit
theorem tab_of_mem {P : Program} {w : World} {name : String} {k : IntKind} {zs : List Int} {g : Nat} {t e : TypeId} {n : Nat}
    (hg : P.globalNamed name = some g) (hty : (P.globals[g]?).map (·.type) = some t) (ht : P.underlying t = some (.array n e)) (he : P.underlying e = some (.int k)) (hce : P.cellsOf e = 1) (hct : P.cellsOf t = n) :
    ∀ {l : List (String × DataW Unit)} {ps : List MemPlace}, DataW.LaidVars P w l ps → (name, Lib.tabData k zs) ∈ l → Lib.TabIs P w name k zs
  | [], _, _, hm => by simp at hm
  | (m, d) :: l, ps, ⟨g', t', cs, fuel, p, q, hg', ht', hvar, hd, hr, _⟩, hm => by
    rw [List.mem_cons] at hm
    rcases hm with hm | hm
    · injection hm with h1 h2
      subst h1 h2
      obtain rfl := Option.some.inj (hg.symm.trans hg')
      obtain rfl := Option.some.inj (hty.symm.trans ht')
      unfold Lib.TabIs
      rw [hvar, ← Lib.cells_of_tab ht he hce hct hd]
    · exact tab_of_mem hg hty ht he hce hct hr hm
/-- A world with the numbers zs of kind k in the block g. -/
def putTab (w : World) (g : Nat) (k : IntKind) (zs : List Int) : World :=
  { w with heap := w.heap.modify g fun
      | .cells _ t frozen => .cells (zs.map fun z => Value.int k z).toArray t frozen
      | o => o }
def de64 : List Int := [0, 1, 56, 2, 57, 49, 28, 3, 61, 58, 42, 50, 38, 29, 17, 4, 62, 47, 59, 36, 45, 43, 51, 22, 53, 39, 33, 30, 24, 18, 12, 5, 63, 55, 48, 27, 60, 41, 37, 16, 46, 35, 44, 21, 52, 32, 23, 11, 54, 26, 40, 15, 34, 20, 31, 10, 25, 14, 19, 9, 13, 8, 7, 6]
noncomputable def laidWorld (os : Os) : World := putTab (World.holding Tryd.prog os ⟨#[], #[], []⟩) 0 .u8 de64
end Go.Proofs.YtccmlmahjgndbaaDoor.SetLaid
/- Families of sets of numbers: Copy and Within, by contract; what Add does to the counts. -/
namespace Go.Proofs.YtccmlmahjgndbaaDoor.SetG
set_option linter.unusedVariables false
set_option linter.unusedSimpArgs false
open Go.RowKit Go.Lib Go.Proofs Go.Proofs.YtccmlmahjgndbaaDoor.SetPop Go.Proofs.YtccmlmahjgndbaaDoor.SetA Go.Proofs.YtccmlmahjgndbaaDoor.SetB Go.Proofs.YtccmlmahjgndbaaDoor.SetC Go.Proofs.YtccmlmahjgndbaaDoor.SetD Go.Proofs.YtccmlmahjgndbaaDoor.SetE
set_option linter.unusedVariables false
set_option linter.unusedSimpArgs false
/-- The cells of a set's rows, and what may stand behind them. -/
def Cop (w : World) (v : Value) (n : Nat) (M : List Nat) : Prop := ∃ g cp Z, v = .slice (some ⟨g, 0, none⟩) n cp ∧ w.heap[g]? = some (.cells (encM M ++ Z) 75 (0, 0))
theorem cop_own {w : World} {B n : Nat} {v : Value} {M : List Nat} (h : w.ownsRow B 75 16 v n (encM M).toList) (hv : v ≠ .slice none 0 0) : ∃ g cp Z, v = .slice (some ⟨g, 0, none⟩) n cp ∧ B ≤ g ∧ w.heap[g]? = some (.cells (encM M ++ Z) 75 (0, 0)) := by
  rcases h.2 with ⟨rfl, _⟩ | ⟨g, cap, cur, rfl, hb, hg, _, _, hs, ht⟩
  · exact absurd rfl hv
  · refine ⟨g, cap, (cur.toList.drop (n * 16)).toArray, rfl, hb, ?_⟩
    rw [hg]
    congr 2
    apply Array.ext'
    rw [Array.toList_append, ← ht, List.toList_toArray, List.take_append_drop]
def ClonePost (n : Nat) (M : List Nat) (w : World) (e : Ending) (w' : World) : Prop := ∃ g cp Z, e = .returned (.slice (some ⟨g, 0, none⟩) n cp) ∧ w.heap.size ≤ g ∧ w'.heap[g]? = some (.cells (encM M ++ Z) 75 (0, 0)) ∧ Below w.heap.size w w'
def CopyPost (n c : Nat) (M : List Nat) (w : World) (e : Ending) (w' : World) : Prop := ∃ B R, e = .returned (.pointer (some ⟨B, 0, none⟩)) ∧ Fam w' B R n c M ∧ Below w.heap.size w w' ∧ w.heap.size ≤ B ∧ w.heap.size ≤ R
/-- Has each set of the second family all that the same one of the first has? -/
def withinB (n : Nat) (M M2 : List Nat) : Bool := (List.range n).all fun r : Nat => insideB (rowI n M r) (rowI n M2 r)
theorem within_yes {n : Nat} {M M2 : List Nat} (h : ∀ r, r < n → insideB (rowI n M (r : Int)) (rowI n M2 (r : Int)) = true) : withinB n M M2 = true := by
  unfold withinB
  rw [List.all_eq_true]
  intro r hr
  exact h r (by simpa using hr)
theorem within_no {n : Nat} {M M2 : List Nat} {r : Nat} (hr : r < n) (h : insideB (rowI n M (r : Int)) (rowI n M2 (r : Int)) = false) : withinB n M M2 = false := by
  unfold withinB
  rw [List.all_eq_false]
  exact ⟨r, by simpa using hr, by simp [h]⟩
end Go.Proofs.YtccmlmahjgndbaaDoor.SetG
/- What Add does to the counts, and to what is within what; families that there aren't. -/
namespace Go.Proofs.YtccmlmahjgndbaaDoor.SetH
set_option linter.unusedVariables false
set_option linter.unusedSimpArgs false
open Go.RowKit Go.Lib Go.Proofs Go.Proofs.YtccmlmahjgndbaaDoor.SetPop Go.Proofs.YtccmlmahjgndbaaDoor.SetA Go.Proofs.YtccmlmahjgndbaaDoor.SetB Go.Proofs.YtccmlmahjgndbaaDoor.SetC Go.Proofs.YtccmlmahjgndbaaDoor.SetD Go.Proofs.YtccmlmahjgndbaaDoor.SetE Go.Proofs.YtccmlmahjgndbaaDoor.SetG
set_option linter.unusedVariables false
set_option linter.unusedSimpArgs false
theorem countP_one (p : Nat → Bool) (j : Nat) (hp : p j = false) : ∀ n, (List.range n).countP (fun i => p i || decide (j = i)) = (List.range n).countP p + (if j < n then 1 else 0)
  | 0 => by simp
  | n + 1 => by
    rw [List.range_succ, List.countP_append, List.countP_append, countP_one p j hp n]
    simp only [List.countP_singleton, Bool.or_eq_true, decide_eq_true_eq]
    by_cases h : j = n
    · subst h
      simp [hp]
    · have h3 : (j < n + 1) ↔ j < n := by omega
      simp only [h3, h, or_false]
      omega
theorem pop_or (x j : Nat) (hj : j < 64) (h : x.testBit j = false) : pop (x ||| 2 ^ j) = pop x + 1 := by
  unfold pop
  have := countP_one (fun i => x.testBit i) j h 64
  rw [if_pos hj] at this
  rw [← this]
  apply List.countP_congr
  intro i _
  rw [Nat.testBit_or, Nat.testBit_two_pow]
theorem cnt_set : ∀ (T : List Nat) (q v : Nat), q < T.length → cnt (T.set q v) + pop (T.getD q 0) = cnt T + pop v
  | [], _, _, h => absurd h (by simp)
  | a :: T, 0, v, _ => by simp [cnt]; omega
  | a :: T, q + 1, v, h => by
    have := cnt_set T q v (by simpa using h)
    simp only [cnt, List.set_cons_succ, List.map_cons, List.sum_cons, List.getD_cons_succ] at this ⊢
    omega
theorem rowM_getD (M : List Nat) (r k : Nat) (hk : k < 16) : (rowM M r).getD k 0 = M.getD (r * 16 + k) 0 := by
  rw [List.getD_eq_getElem?_getD, List.getD_eq_getElem?_getD, rowM_get hk]
theorem rowI_nat {n : Nat} (M : List Nat) {r : Nat} (h : r < n) : rowI n M (r : Int) = rowM M r := by
  unfold rowI
  rw [if_pos (by omega)]; rfl
theorem rowM_set_same (M : List Nat) (r q v : Nat) (hq : q < 16) : rowM (M.set (r * 16 + q) v) r = (rowM M r).set q v := by
  apply List.ext_getElem?
  intro i
  rcases Nat.lt_or_ge i 16 with hi | hi
  · rw [rowM_get hi]
    by_cases h : q = i
    · subst h
      rw [List.getElem?_set, if_pos rfl, List.getElem?_set, if_pos rfl]
      by_cases hl : r * 16 + q < M.length
      · rw [if_pos hl, if_pos (by unfold rowM; simp; omega)]
      · rw [if_neg hl, if_neg (by unfold rowM; simp; omega)]
    · rw [List.getElem?_set_ne (by omega), List.getElem?_set_ne h, rowM_get hi]
  · rw [List.getElem?_eq_none (by unfold rowM; simp; omega), List.getElem?_eq_none (by unfold rowM; simp; omega)]
theorem rowM_set_other (M : List Nat) (r r' q v : Nat) (hq : q < 16) (h : r ≠ r') : rowM (M.set (r * 16 + q) v) r' = rowM M r' := by
  apply List.ext_getElem?
  intro i
  rcases Nat.lt_or_ge i 16 with hi | hi
  · rw [rowM_get hi, rowM_get hi, List.getElem?_set_ne (by omega)]
  · rw [List.getElem?_eq_none (by unfold rowM; simp; omega), List.getElem?_eq_none (by unfold rowM; simp; omega)]
theorem cnt_add (n c : Nat) (M : List Nat) (r k : Nat) (hM : M.length = n * 16) (hr : r < n) (hk : k < 1024) (hb : bitAt M r k = false) (r' : Nat) : cnt (rowM (addM M r k) r') = cnt (rowM M r') + (if r = r' then 1 else 0) := by
  unfold addM
  by_cases h : r = r'
  · subst h
    rw [if_pos rfl, rowM_set_same _ _ _ _ (by omega)]
    have h1 := cnt_set (rowM M r) (k / 64) (word M r k ||| 2 ^ (k % 64)) (by rw [rowM_len hM hr]; omega)
    rw [rowM_getD _ _ _ (by omega)] at h1
    have h2 := pop_or (word M r k) (k % 64) (by omega) hb
    have h3 : M.getD (r * 16 + k / 64) 0 = word M r k := rfl
    rw [h3] at h1
    omega
  · rw [if_neg h, rowM_set_other _ _ _ _ _ (by omega) h]; rfl
theorem tot_add (n c : Nat) (M : List Nat) (r k : Int) (hM : M.length = n * 16) (hc : c ≤ 1000) (h : addB n c M r k = true) : tot n (addN n c M r k) n = tot n M n + 1 := by
  unfold addN
  rw [if_pos h]
  unfold addB at h
  rw [Bool.and_eq_true] at h
  obtain ⟨a1, a2, a3, a4⟩ := mayB_iff.1 h.1
  have hb : bitAt M r.toNat k.toNat = false := by simpa using h.2
  have key : ∀ m, m ≤ n → tot n (addM M r.toNat k.toNat) m = tot n M m + (if r.toNat < m then 1 else 0) := by
    intro m
    induction m with
    | zero => intro _; simp [tot]
    | succ m ih =>
      intro hm
      rw [tot_succ, tot_succ, ih (by omega), rowI_nat _ (by omega), rowI_nat _ (by omega), cnt_add n c M r.toNat k.toNat hM (by omega) (by omega) hb]
      have h3 : (if r.toNat < m + 1 then 1 else 0) = (if r.toNat < m then 1 else 0) + (if r.toNat = m then 1 else 0) := by
        by_cases h1 : r.toNat < m
        · rw [if_pos h1, if_pos (show r.toNat < m + 1 by omega), if_neg (show ¬ r.toNat = m by omega)]
        · by_cases h2 : r.toNat = m
          · rw [if_neg h1, if_pos (show r.toNat < m + 1 by omega), if_pos h2]
          · rw [if_neg h1, if_neg (show ¬ r.toNat < m + 1 by omega), if_neg h2]
      omega
  rw [key n (Nat.le_refl _), if_pos (by omega)]
theorem addN_no {n c : Nat} {M : List Nat} {r k : Int} (h : addB n c M r k = false) : addN n c M r k = M := by unfold addN; rw [h]; rfl
theorem getD_set (M : List Nat) (i v j : Nat) : (M.set i v).getD j 0 = if i = j ∧ i < M.length then v else M.getD j 0 := by
  rw [List.getD_eq_getElem?_getD, List.getD_eq_getElem?_getD, List.getElem?_set]
  by_cases h : i = j
  · subst h
    rw [if_pos rfl]
    by_cases hl : i < M.length
    · rw [if_pos hl, if_pos ⟨rfl, hl⟩]; rfl
    · rw [if_neg hl, if_neg (by rintro ⟨_, h⟩; exact hl h), List.getElem?_eq_none (by omega)]
  · rw [if_neg h, if_neg (by rintro ⟨e, _⟩; exact h e)]
theorem within_add (n c : Nat) (M : List Nat) (r k : Int) (hM : M.length = n * 16) (hs : ∀ x ∈ M, x < 18446744073709551616) : withinB n M (addN n c M r k) = true := by
  refine within_yes fun r' hr' => inside_yes fun j hj => ?_
  rw [rowI_nat _ hr', rowI_nat _ hr', rowM_getD _ _ _ hj, rowM_getD _ _ _ hj]
  have hx : M.getD (r' * 16 + j) 0 < 18446744073709551616 := hs _ (getD_mem (by omega))
  refine (andN_zero _ _ hx).2 fun i hi => ?_
  unfold addN
  split
  · unfold addM
    rw [getD_set]
    split
    · rename_i e
      rw [Nat.testBit_or]
      unfold word
      rw [e.1, hi]; rfl
    · exact hi
  · exact hi
theorem within_back (n c : Nat) (M : List Nat) (r k : Int) (hM : M.length = n * 16) (hc : c ≤ 1000) (hs : ∀ x ∈ M, x < 18446744073709551616) : withinB n (addN n c M r k) M = !addB n c M r k := by
  cases h : addB n c M r k with
  | false =>
    rw [addN_no h]
    refine within_yes fun r' hr' => inside_self _ (rowI_len hM _) fun x hx => ?_
    rw [rowI_nat _ hr'] at hx
    exact hs x (List.mem_of_mem_drop (List.mem_of_mem_take hx))
  | true =>
    have hN : addN n c M r k = addM M r.toNat k.toNat := by unfold addN; rw [h]; rfl
    unfold addB at h
    rw [Bool.and_eq_true] at h
    obtain ⟨a1, a2, a3, a4⟩ := mayB_iff.1 h.1
    have hb : bitAt M r.toNat k.toNat = false := by simpa using h.2
    have h1 := bit_addM M r.toNat k.toNat r.toNat k.toNat (by omega) (by omega) (by omega)
    have hr : r.toNat < n := by omega
    refine within_no hr (inside_no (k := k.toNat / 64) (by omega) ?_)
    rw [hN, rowI_nat _ hr, rowI_nat _ hr, rowM_getD _ _ _ (by omega), rowM_getD _ _ _ (by omega)]
    intro e
    have hlt : (addM M r.toNat k.toNat).getD (r.toNat * 16 + k.toNat / 64) 0 < 18446744073709551616 := by
      unfold addM
      rw [getD_set, if_pos ⟨rfl, by omega⟩]
      have e1 : word M r.toNat k.toNat < 18446744073709551616 := hs _ (getD_mem (by omega))
      have e2 := pow_lt (k.toNat % 64) (by omega)
      have := Nat.or_lt_two_pow (n := 64) (x := word M r.toNat k.toNat) (y := 2 ^ (k.toNat % 64)) (by omega) (by omega)
      omega
    have := (andN_zero _ _ hlt).1 e (k.toNat % 64) (by
      have e3 : bitAt (addM M r.toNat k.toNat) r.toNat k.toNat = true := by rw [h1]; simp
      exact e3)
    have e4 : bitAt M r.toNat k.toNat = true := this
    rw [hb] at e4
    cases e4
theorem tot_zero (n m k : Nat) : tot n (List.replicate (n * 16) 0) k = 0 := by
  induction k with
  | zero => simp [tot]
  | succ k ih =>
    rw [tot_succ, ih]
    have h16 := rowI_len (M := List.replicate (n * 16) 0) (n := n) (by simp) (k : Int)
    have hz : ∀ x ∈ rowI n (List.replicate (n * 16) 0) (k : Int), x = 0 := fun x hx => by
      unfold rowI at hx
      split at hx
      · exact List.eq_of_mem_replicate (List.mem_of_mem_drop (List.mem_of_mem_take hx))
      · exact List.eq_of_mem_replicate hx
    have := (cnt_zero _ (fun x hx => by rw [hz x hx]; omega)).2 hz
    omega
theorem has_of_add {n c : Nat} {M : List Nat} {r k : Int} (h : addB n c M r k = true) : hasB n c M r k = false := by
  unfold addB at h
  rw [Bool.and_eq_true] at h
  have hb : bitAt M r.toNat k.toNat = false := by simpa using h.2
  unfold hasB
  rw [hb, Bool.and_false]
section
set_option maxRecDepth 100000
theorem rows0 (w : World) : Calls Tryd.prog 21 #[.pointer none] w fun e w' => e = .returned (.int .i64 0) ∧ w = w' := by
  go_enter Tryd.func21, Tryd.ntmps21
  go_wp2
  go_ret
  exact ⟨rfl, rfl⟩
theorem cols0 (w : World) : Calls Tryd.prog 29 #[.pointer none] w fun e w' => e = .returned (.int .i64 0) ∧ w = w' := by
  go_enter Tryd.func29, Tryd.ntmps29
  go_wp2
  go_ret
  exact ⟨rfl, rfl⟩
theorem may0 (w : World) : Calls Tryd.prog 45 #[.pointer none, .int .i64 0, .int .i64 0] w fun e w' => e = .returned (.bool false) ∧ w = w' := by
  go_enter Tryd.func45, Tryd.ntmps45
  go_wp2_with ((with_reducible refine (rows0 _).mono ?_); rintro e w' ⟨rfl, rfl⟩)
  go_ret
  exact ⟨rfl, rfl⟩
theorem has0 (w : World) : Calls Tryd.prog 26 #[.pointer none, .int .i64 0, .int .i64 0] w fun e w' => e = .returned (.bool false) ∧ ∃ q, w' = w.drewN q := by
  go_enter Tryd.func26, Tryd.ntmps26
  go_wp2_with fail
  go_quiet ((go_at_call 45; exact Calls.quiet_of_same ((may0 _).mono fun e w' h => ⟨h.1, h.2.symm⟩)))
  go_wp2_with fail
  go_ret
  exact ⟨rfl, _, rfl⟩
theorem add0 (w : World) : Calls Tryd.prog 59 #[.pointer none, .int .i64 0, .int .i64 0] w fun e w' => e = .returned (.bool false) ∧ w = w' := by
  go_enter Tryd.func59, Tryd.ntmps59
  go_wp2_with ((with_reducible refine (may0 _).mono ?_); rintro e w' ⟨rfl, rfl⟩)
  go_ret
  exact ⟨rfl, rfl⟩
theorem at0 (r : Nat) (w : World) : Calls Tryd.prog 47 #[.pointer none, .int .i64 r] w fun e w' => e = .returned (.agg (encM (List.replicate 16 0))) ∧ Below w.heap.size w w' := by
  rw [zeros16]
  have h0 : (0 : Int) ≤ r := by omega
  go_enter Tryd.func47, Tryd.ntmps47
  go_wp2_with ((with_reducible refine (rows0 _).mono ?_); rintro e w' ⟨rfl, rfl⟩)
  refine bodyPost_ret (results_cell_row (fn := Tryd.f47) rfl _ _ w.heap.size 75 _ (0, 0) _ rfl (heap_alloc_new w _) Tryd.underlying75 rfl sizeNum) rfl ⟨rfl, (Below.refl _ _).alloc (Nat.le_refl _) _⟩
theorem small0 : ∀ x ∈ List.replicate 16 0, x < 18446744073709551616 := fun x hx => by rw [List.eq_of_mem_replicate hx]; omega
theorem inside0 (w : World) : Calls Tryd.prog 30 #[.pointer none, .int .i64 0, .int .i64 1] w (InsidePost true w) := by
  have h := inside_at (.pointer none) (List.replicate 16 0) (List.replicate 16 0) 0 1 w (by simp) (by simp) small0 (fun wr _ => at0 0 wr) (fun wr _ => at0 1 wr)
  have e : insideB (List.replicate 16 0) (List.replicate 16 0) = true := by decide +kernel
  rw [e] at h
  exact h
theorem list0 (w : World) : Calls Tryd.prog 27 #[.pointer none, .int .i64 0] w fun e w' => e = .returned (.slice none 0 0) ∧ Below w.heap.size w w' := by
  have HA := Lib.hid (at0 0 w)
  have hidx : ∀ (k : Nat) (h : k < 16) (w : World), (Instr.index 75 (.agg (encM (List.replicate 16 0))) (.int .i64 k)).run Tryd.prog w = .ok (.int .u64 0) w := fun k h w => by
    have := idx (List.replicate 16 0) k (by simp) h w
    rw [this, List.getD_eq_getElem?_getD, List.getElem?_replicate, if_pos h]; rfl
  have HI := Lib.hid hidx
  clear hidx
  generalize encM (List.replicate 16 0) = E at *
  go_enter Tryd.func27, Tryd.ntmps27
  go_wp2_with fail
  refine HA.out.mono ?_
  rintro e w1 ⟨rfl, hb⟩
  have HB := Lib.hid hb
  clear hb
  go_wp2_with fail
  go_loop [5, 11] (fun l i => ∃ k : Nat, k ≤ 16 ∧ i = .int .i64 k ∧ l = .slice none 0 0) (fun _ i => 16 - (intOf i).toNat)
  case atStart => exact ⟨0, by omega, rfl, rfl⟩
  case round =>
    obtain ⟨k, hk, rfl, rfl⟩ := hrel
    by_cases hlt : k < 16
    · have hi := HI.out k hlt
      have d1 : decide ((k : Int) < 16) = true := by simp; omega
      go_wp2_with fail
      go_loop [5, 7] (fun l v => v = .int .u64 0 ∧ l = .slice none 0 0) (fun _ v => (intOf v).toNat)
      case atStart => exact ⟨rfl, rfl⟩
      case round =>
        obtain ⟨rfl, rfl⟩ := hrel
        go_wp2_with fail
        go_round
        case rel => exact ⟨k + 1, by omega, by go_num, rfl⟩
        case measure => simp [intOf]; omega
    · have d1 : decide ((k : Int) < 16) = false := by simp; omega
      clear hk hlt
      go_wp2_with fail
      go_ret
      exact ⟨rfl, HB.out⟩
end
end Go.Proofs.YtccmlmahjgndbaaDoor.SetH
/- The bits of words as numbers that rise: maths of plain numbers alone. -/
namespace Go.Proofs.YtccmlmahjgndbaaDoor.SetM
set_option linter.unusedVariables false
set_option linter.unusedSimpArgs false
open Go.Lib Go.Proofs.YtccmlmahjgndbaaDoor.SetPop
set_option linter.unusedVariables false
set_option linter.unusedSimpArgs false
/-- The places of a word's bits, rising. -/
def bitsOf (x : Nat) : List Nat := (List.range 64).filter fun i => x.testBit i
theorem bitsOf_len (x : Nat) : (bitsOf x).length = pop x := by unfold bitsOf pop; rw [List.countP_eq_length_filter]
theorem bitsOf_zero : bitsOf 0 = [] := by decide +kernel
theorem filter_first (p q : Nat → Bool) (j d : Nat) (hj : p j = true) (hlt : ∀ i, i < j → p i = false) (hq : ∀ i, q i = (p i && decide (i ≠ j))) :
    (List.range (j + (1 + d))).filter p = j :: (List.range (j + (1 + d))).filter q := by
  rw [List.range_add, List.range_add]
  simp only [List.filter_append, List.map_append]
  have e1 : (List.range j).filter p = [] := by
    rw [List.filter_eq_nil_iff]
    intro i hi
    rw [hlt i (List.mem_range.1 hi)]; simp
  have e2 : (List.range j).filter q = [] := by
    rw [List.filter_eq_nil_iff]
    intro i hi
    rw [hq, hlt i (List.mem_range.1 hi)]; simp
  rw [e1, e2]
  have e3 : q j = false := by rw [hq]; simp
  have e4 : (((List.range d).map (1 + ·)).map (j + ·)).filter p = (((List.range d).map (1 + ·)).map (j + ·)).filter q := by
    refine List.filter_congr fun i hi => ?_
    simp only [List.mem_map] at hi
    obtain ⟨_, ⟨x, hx, rfl⟩, rfl⟩ := hi
    rw [hq]
    have : decide (j + (1 + x) ≠ j) = true := by simp
    rw [this, Bool.and_true]
  simp [hj, e3]
  simpa using e4
theorem low (x : Nat) (h0 : x ≠ 0) (h : x < 18446744073709551616) : ctz 64 x < 64 ∧ x.testBit (ctz 64 x) = true ∧ (∀ i, i < ctz 64 x → x.testBit i = false) ∧ (∀ i, (x &&& (x - 1)).testBit i = (x.testBit i && decide (i ≠ ctz 64 x))) := by
  obtain ⟨m, hm, hk⟩ := ctzFrom_spec 64 x (by omega) h
  have e : ctz 64 x = ctzFrom 64 x := by simp [ctz, h0]
  rw [e]
  generalize ctzFrom 64 x = j at *
  have hx : ∀ i, x.testBit i = (decide (i = j) || (decide (j < i) && m.testBit (i - (j + 1)))) := by
    intro i
    rw [hm, Nat.mul_comm, Nat.testBit_mul_two_pow]
    rcases Nat.lt_trichotomy i j with hi | hi | hi
    · have b1 : decide (i ≥ j) = false := by simp; omega
      have b2 : decide (i = j) = false := by simp; omega
      have b3 : decide (j < i) = false := by simp; omega
      rw [b1, b2, b3]; rfl
    · subst hi; simp [Nat.testBit_zero]
    · obtain ⟨t, rfl⟩ : ∃ t, i = j + (t + 1) := ⟨i - j - 1, by omega⟩
      have e3 : j + (t + 1) - j = t + 1 := by omega
      have e4 : j + (t + 1) - (j + 1) = t := by omega
      rw [e3, e4, Nat.testBit_succ]
      have d1 : (2 * m + 1) / 2 = m := by omega
      rw [d1]
      simp
  have hy : ∀ i, (x - 1).testBit i = (decide (i < j) || (decide (j < i) && m.testBit (i - (j + 1)))) := by
    intro i
    have e5 : x - 1 = 2 ^ (j + 1) * m + (2 ^ j - 1) := by
      have := Nat.two_pow_pos j
      rw [hm, Nat.pow_succ, Nat.mul_add, Nat.mul_one, Nat.mul_assoc]
      omega
    have lt : 2 ^ j - 1 < 2 ^ (j + 1) := by
      have := Nat.two_pow_pos j
      rw [Nat.pow_succ]; omega
    rw [e5, Nat.testBit_two_pow_mul_add _ lt, Nat.testBit_two_pow_sub_one]
    by_cases hi : i < j + 1
    · have b3 : decide (j < i) = false := by simp; omega
      rw [if_pos hi, b3]; simp
    · have b3 : decide (j < i) = true := by simp; omega
      have b1 : decide (i < j) = false := by simp; omega
      rw [if_neg hi, b3, b1]; simp
  refine ⟨hk, ?_, ?_, ?_⟩
  · rw [hx]; simp
  · intro i hi
    have b2 : decide (i = j) = false := by simp; omega
    have b3 : decide (j < i) = false := by simp; omega
    rw [hx, b2, b3]; rfl
  · intro i
    rw [Nat.testBit_and, hx, hy]
    rcases Nat.lt_trichotomy i j with hi | hi | hi
    · have b2 : decide (i = j) = false := by simp; omega
      have b3 : decide (j < i) = false := by simp; omega
      rw [b2, b3]; rfl
    · subst hi; simp
    · have b2 : decide (i = j) = false := by simp; omega
      have b3 : decide (j < i) = true := by simp; omega
      have b4 : decide (i < j) = false := by simp; omega
      have b5 : decide (i ≠ j) = true := by simp; omega
      rw [b2, b3, b4, b5]; simp
theorem bitsOf_step (x : Nat) (h0 : x ≠ 0) (h : x < 18446744073709551616) : bitsOf x = ctz 64 x :: bitsOf (x &&& (x - 1)) := by
  obtain ⟨hk, h1, h2, h3⟩ := low x h0 h
  have := filter_first (fun i => x.testBit i) (fun i => (x &&& (x - 1)).testBit i) (ctz 64 x) (63 - ctz 64 x) h1 h2 h3
  have e : ctz 64 x + (1 + (63 - ctz 64 x)) = 64 := by omega
  rw [e] at this
  exact this
theorem and_less (x : Nat) (h0 : x ≠ 0) : (x &&& (x - 1)) < x := by
  have := Nat.and_le_right (n := x) (m := x - 1)
  omega
theorem and_small (x : Nat) (h : x < 18446744073709551616) : (x &&& (x - 1)) < 18446744073709551616 := Nat.lt_of_le_of_lt Nat.and_le_left h
/-- The numbers of the first k words. -/
def numsOf (T : List Nat) (k : Nat) : List Nat := (List.range k).flatMap fun i => (bitsOf (T.getD i 0)).map (i * 64 + ·)
theorem numsOf_succ (T : List Nat) (k : Nat) : numsOf T (k + 1) = numsOf T k ++ (bitsOf (T.getD k 0)).map (k * 64 + ·) := by
  unfold numsOf
  rw [List.range_succ, List.flatMap_append]
  simp
/-- Has a set, told by its words, that number? -/
def bitT (T : List Nat) (k : Nat) : Bool := (T.getD (k / 64) 0).testBit (k % 64)
theorem numsOf_eq (T : List Nat) : ∀ k, numsOf T k = (List.range (k * 64)).filter (bitT T)
  | 0 => by simp [numsOf]
  | k + 1 => by
    rw [numsOf_succ, numsOf_eq T k, Nat.add_mul, Nat.one_mul, List.range_add, List.filter_append, List.filter_map]
    congr 1
    unfold bitsOf
    congr 1
    refine List.filter_congr fun i hi => ?_
    have hi := List.mem_range.1 hi
    have a1 : (k * 64 + i) / 64 = k := by omega
    have a2 : (k * 64 + i) % 64 = i := by omega
    simp only [Function.comp_apply, bitT, a1, a2]
theorem numsOf_lt (T : List Nat) (k : Nat) : ∀ x ∈ numsOf T k, x < k * 64 := by
  intro x hx
  rw [numsOf_eq] at hx
  exact List.mem_range.1 (List.mem_filter.1 hx).1
theorem numsOf_len (T : List Nat) : ∀ k, (numsOf T k).length = ((List.range k).map fun i => pop (T.getD i 0)).sum
  | 0 => by simp [numsOf]
  | k + 1 => by
    rw [numsOf_succ, List.length_append, numsOf_len T k, List.length_map, bitsOf_len, List.range_succ, List.map_append, List.sum_append]
    simp
/-- Numbers that are in, below c, are those below 1024 if none other is. -/
theorem below_c (p : Nat → Bool) (c : Nat) (hc : c ≤ 1024) (h : ∀ k, p k = true → k < c) : (List.range 1024).filter p = (List.range c).filter p := by
  obtain ⟨d, hd⟩ : ∃ d, 1024 = c + d := ⟨1024 - c, by omega⟩
  rw [hd, List.range_add, List.filter_append]
  have : ((List.range d).map (c + ·)).filter p = [] := by
    rw [List.filter_eq_nil_iff]
    intro i hi hp
    rw [List.mem_map] at hi
    obtain ⟨x, _, rfl⟩ := hi
    have := h _ hp
    omega
  rw [this, List.append_nil]
end Go.Proofs.YtccmlmahjgndbaaDoor.SetM
/- What the words of a family and a row of pairs say of one another: plain maths. -/
namespace Go.Proofs.YtccmlmahjgndbaaDoor.SetN
set_option linter.unusedVariables false
set_option linter.unusedSimpArgs false
open Go.RowKit Go.Lib Go.Proofs Go.Proofs.YtccmlmahjgndbaaDoor.SetPop Go.Proofs.YtccmlmahjgndbaaDoor.SetA Go.Proofs.YtccmlmahjgndbaaDoor.SetB Go.Proofs.YtccmlmahjgndbaaDoor.SetC Go.Proofs.YtccmlmahjgndbaaDoor.SetD Go.Proofs.YtccmlmahjgndbaaDoor.SetE Go.Proofs.YtccmlmahjgndbaaDoor.SetG Go.Proofs.YtccmlmahjgndbaaDoor.SetH Go.Proofs.YtccmlmahjgndbaaDoor.SetM
set_option linter.unusedVariables false
set_option linter.unusedSimpArgs false
/-- The pairs that are in, told by words and by a row of pairs. -/
structure Inv (n c : Nat) (M : List Nat) (L : List (Int × Int)) : Prop where
  len : M.length = n * 16
  c1 : c ≤ 1000
  rng : ∀ p ∈ L, mayB n c p.1 p.2 = true
  bit : ∀ r k : Nat, r < n → k < 1024 → bitAt M r k = decide (((r : Int), (k : Int)) ∈ L)
  tot : tot n M n = L.length
theorem Inv.zero (n c : Nat) (hc : c ≤ 1000) : Inv n c (List.replicate (n * 16) 0) [] where
  len := by simp
  c1 := hc
  rng := fun p h => by cases h
  bit := fun r k _ _ => by rw [bit_zero]; simp
  tot := tot_zero n n n
variable {n c : Nat} {M : List Nat} {L : List (Int × Int)}
def hasL (L : List (Int × Int)) (r k : Int) : Bool := L.any fun x => decide (x.1 = r) && decide (x.2 = k)
theorem hasL_iff {r k : Int} : hasL L r k = true ↔ (r, k) ∈ L := by
  unfold hasL
  rw [List.any_eq_true]
  constructor
  · rintro ⟨⟨a, b⟩, h, e⟩
    simp at e
    obtain ⟨rfl, rfl⟩ := e
    exact h
  · intro h
    exact ⟨_, h, by simp⟩
theorem hasL_dec (r k : Int) : hasL L r k = decide ((r, k) ∈ L) := by
  rw [Bool.eq_iff_iff, hasL_iff, decide_eq_true_eq]
theorem Inv.has (h : Inv n c M L) (r k : Int) : hasB n c M r k = hasL L r k := by
  rw [Bool.eq_iff_iff, hasL_iff]
  unfold hasB
  rw [Bool.and_eq_true]
  constructor
  · rintro ⟨h1, h2⟩
    obtain ⟨a1, a2, a3, a4⟩ := mayB_iff.1 h1
    have := h.c1
    rw [h.bit _ _ (by omega) (by omega), decide_eq_true_eq] at h2
    rw [Int.toNat_of_nonneg a1, Int.toNat_of_nonneg a3] at h2
    exact h2
  · intro hm
    have h1 := h.rng _ hm
    obtain ⟨a1, a2, a3, a4⟩ := mayB_iff.1 h1
    have := h.c1
    simp only at a1 a2 a3 a4
    refine ⟨h1, ?_⟩
    rw [h.bit _ _ (by omega) (by omega), decide_eq_true_eq, Int.toNat_of_nonneg a1, Int.toNat_of_nonneg a3]
    exact hm
theorem Inv.addB (h : Inv n c M L) (r k : Int) : addB n c M r k = (mayB n c r k && !hasL L r k) := by
  rw [← h.has]
  unfold SetB.addB hasB
  cases mayB n c r k <;> simp
def putL (n c : Nat) (L : List (Int × Int)) (r k : Int) : List (Int × Int) := if mayB n c r k && !hasL L r k then L ++ [(r, k)] else L
theorem putL_len (n c : Nat) (L : List (Int × Int)) (r k : Int) : (putL n c L r k).length ≤ L.length + 1 := by
  unfold putL
  split <;> simp
theorem Inv.add (h : Inv n c M L) (r k : Int) : Inv n c (addN n c M r k) (putL n c L r k) := by
  unfold putL
  rw [← h.addB]
  cases hb : SetB.addB n c M r k with
  | false => rw [addN_no hb]; exact h
  | true =>
    have hN : addN n c M r k = addM M r.toNat k.toNat := by unfold addN; rw [hb]; rfl
    have ht := tot_add n c M r k h.len h.c1 hb
    have hb2 := hb
    unfold SetB.addB at hb2
    rw [Bool.and_eq_true] at hb2
    obtain ⟨a1, a2, a3, a4⟩ := mayB_iff.1 hb2.1
    have hc := h.c1
    have hl := h.len
    refine ⟨by rw [addN_len]; exact h.len, h.c1, ?_, ?_, ?_⟩
    · intro p hp
      rw [if_pos rfl, List.mem_append, List.mem_singleton] at hp
      rcases hp with hp | rfl
      · exact h.rng p hp
      · exact hb2.1
    · intro r' k' hr hk
      rw [hN, bit_addM _ _ _ _ _ (by omega) (by omega) hk, h.bit r' k' hr hk, if_pos rfl, Bool.eq_iff_iff]
      simp only [Bool.or_eq_true, decide_eq_true_eq, List.mem_append, List.mem_singleton, Prod.mk.injEq]
      refine or_congr Iff.rfl ?_
      omega
    · rw [ht, h.tot]; simp
theorem Inv.row (h : Inv n c M L) (r : Int) (k : Nat) (hk : k < 1024) : bitT (rowI n M r) k = hasL L r k := by
  by_cases hr : 0 ≤ r ∧ r < n
  · obtain ⟨j, rfl⟩ : ∃ j : Nat, r = j := ⟨r.toNat, by omega⟩
    have hj : j < n := by omega
    rw [rowI_nat M hj]
    unfold bitT
    rw [rowM_getD _ _ _ (by omega), hasL_dec, ← h.bit j k hj hk]
    rfl
  · unfold bitT rowI
    rw [if_neg hr]
    have e : hasL L r k = false := by
      cases hh : hasL L r k with
      | false => rfl
      | true =>
        have := h.rng _ (hasL_iff.1 hh)
        obtain ⟨a1, a2, _, _⟩ := mayB_iff.1 this
        exact absurd ⟨a1, a2⟩ hr
    rw [e, List.getD_eq_getElem?_getD, List.getElem?_replicate]
    split <;> simp
def listL (c : Nat) (L : List (Int × Int)) (r : Int) : List Nat := (List.range c).filter fun k : Nat => hasL L r k
theorem Inv.list (h : Inv n c M L) (r : Int) : numsOf (rowI n M r) 16 = listL c L r := by
  rw [numsOf_eq]
  have e : (List.range (16 * 64)).filter (bitT (rowI n M r)) = (List.range 1024).filter (fun k : Nat => hasL L r k) := by
    refine List.filter_congr fun k hk => ?_
    exact h.row r k (List.mem_range.1 hk)
  rw [e]
  have hc := h.c1
  exact below_c _ _ (by omega) fun k hk => by
    have := h.rng _ (hasL_iff.1 hk)
    obtain ⟨_, _, _, a4⟩ := mayB_iff.1 this
    simp only at a4
    omega
theorem cnt_nums (T : List Nat) (h : T.length = 16) : cnt T = (numsOf T 16).length := by
  rw [numsOf_len]
  unfold cnt
  congr 1
  apply List.ext_getElem
  · simp [h]
  · intro i h1 h2
    simp at h1 h2
    simp [List.getElem?_eq_getElem h1]
theorem Inv.cnt (h : Inv n c M L) (r : Int) : cnt (rowI n M r) = (listL c L r).length := by
  rw [cnt_nums _ (rowI_len h.len r), h.list]
theorem listL_len (c : Nat) (L : List (Int × Int)) (r : Int) : (listL c L r).length ≤ c := by
  unfold listL
  exact Nat.le_trans (List.length_filter_le _ _) (by simp)
theorem getD_small {T : List Nat} (hs : ∀ x ∈ T, x < 18446744073709551616) (k : Nat) : T.getD k 0 < 18446744073709551616 := by
  by_cases h : k < T.length
  · exact hs _ (getD_mem h)
  · rw [List.getD_eq_getElem?_getD, List.getElem?_eq_none (by omega)]; simp
theorem inside_bits (A B : List Nat) (hA : ∀ x ∈ A, x < 18446744073709551616) : insideB A B = true ↔ ∀ k, k < 1024 → bitT A k = true → bitT B k = true := by
  unfold insideB
  rw [List.all_eq_true]
  constructor
  · intro h k hk h1
    have := h (k / 64) (List.mem_range.2 (by omega))
    rw [beq_iff_eq, andN_zero _ _ (getD_small hA _)] at this
    exact this _ h1
  · intro h k hk
    have hk := List.mem_range.1 hk
    rw [beq_iff_eq, andN_zero _ _ (getD_small hA _)]
    intro i hi
    by_cases h64 : i < 64
    · have := h (k * 64 + i) (by omega)
      unfold bitT at this
      have a1 : (k * 64 + i) / 64 = k := by omega
      have a2 : (k * 64 + i) % 64 = i := by omega
      rw [a1, a2] at this
      exact this hi
    · exfalso
      have : (A.getD k 0).testBit i = false := Nat.testBit_lt_two_pow (Nat.lt_of_lt_of_le (getD_small hA k) (by
        have : (2:Nat) ^ 64 ≤ 2 ^ i := Nat.pow_le_pow_right (by omega) (by omega)
        simpa using this))
      rw [this] at hi
      cases hi
theorem meets_bits (A B : List Nat) (hA : ∀ x ∈ A, x < 18446744073709551616) : meetsB A B = true ↔ ∃ k, k < 1024 ∧ bitT A k = true ∧ bitT B k = true := by
  unfold meetsB
  rw [List.any_eq_true]
  constructor
  · rintro ⟨k, hk, h⟩
    have hk := List.mem_range.1 hk
    have hne : A.getD k 0 &&& B.getD k 0 ≠ 0 := by simpa using h
    obtain ⟨i, hi⟩ : ∃ i, (A.getD k 0 &&& B.getD k 0).testBit i = true := Nat.exists_testBit_of_ne_zero hne
    rw [Nat.testBit_and, Bool.and_eq_true] at hi
    have h64 : i < 64 := by
      rcases Nat.lt_or_ge i 64 with h | h64
      · exact h
      · exfalso
        have : (A.getD k 0).testBit i = false := Nat.testBit_lt_two_pow (Nat.lt_of_lt_of_le (getD_small hA k) (by
          have : (2:Nat) ^ 64 ≤ 2 ^ i := Nat.pow_le_pow_right (by omega) (by omega)
          simpa using this))
        rw [this] at hi
        cases hi.1
    refine ⟨k * 64 + i, by omega, ?_, ?_⟩
    all_goals
      unfold bitT
      have a1 : (k * 64 + i) / 64 = k := by omega
      have a2 : (k * 64 + i) % 64 = i := by omega
      rw [a1, a2]
      first | exact hi.1 | exact hi.2
  · rintro ⟨k, hk, h1, h2⟩
    refine ⟨k / 64, List.mem_range.2 (by omega), ?_⟩
    have : A.getD (k / 64) 0 &&& B.getD (k / 64) 0 ≠ 0 := by
      intro e
      have := Nat.testBit_and (A.getD (k / 64) 0) (B.getD (k / 64) 0) (k % 64)
      unfold bitT at h1 h2
      rw [e, h1, h2] at this
      simp at this
    simpa using this
def insideL (L : List (Int × Int)) (r q : Int) : Bool := L.all fun x => !decide (x.1 = r) || hasL L q x.2
def meetsL (L : List (Int × Int)) (r q : Int) : Bool := L.any fun x => decide (x.1 = r) && hasL L q x.2
theorem Inv.col (h : Inv n c M L) {r k : Int} (hm : (r, k) ∈ L) : 0 ≤ k ∧ k < 1024 := by
  obtain ⟨_, _, a3, a4⟩ := mayB_iff.1 (h.rng _ hm)
  have := h.c1
  simp only at a3 a4
  omega
theorem Inv.inside (h : Inv n c M L) (hs : ∀ r : Int, ∀ x ∈ rowI n M r, x < 18446744073709551616) (r q : Int) : insideB (rowI n M r) (rowI n M q) = insideL L r q := by
  rw [Bool.eq_iff_iff, inside_bits _ _ (hs r)]
  unfold insideL
  rw [List.all_eq_true]
  constructor
  · rintro hk ⟨a, b⟩ hx
    by_cases e : a = r
    · subst e
      obtain ⟨b1, b2⟩ := h.col hx
      have := hk b.toNat (by omega)
      rw [h.row _ _ (by omega), h.row _ _ (by omega), Int.toNat_of_nonneg b1] at this
      simp [this (hasL_iff.2 hx)]
    · simp [e]
  · intro hk k hk1 h1
    rw [h.row _ _ hk1] at h1 ⊢
    have := hk _ (hasL_iff.1 h1)
    simpa using this
theorem Inv.meets (h : Inv n c M L) (hs : ∀ r : Int, ∀ x ∈ rowI n M r, x < 18446744073709551616) (r q : Int) : meetsB (rowI n M r) (rowI n M q) = meetsL L r q := by
  rw [Bool.eq_iff_iff, meets_bits _ _ (hs r)]
  unfold meetsL
  rw [List.any_eq_true]
  constructor
  · rintro ⟨k, hk, h1, h2⟩
    rw [h.row _ _ hk] at h1 h2
    exact ⟨_, hasL_iff.1 h1, by simp [h2]⟩
  · rintro ⟨⟨a, b⟩, hx, e⟩
    simp only [Bool.and_eq_true, decide_eq_true_eq] at e
    obtain ⟨rfl, e2⟩ := e
    obtain ⟨b1, b2⟩ := h.col hx
    refine ⟨b.toNat, by omega, ?_, ?_⟩
    all_goals rw [h.row _ _ (by omega), Int.toNat_of_nonneg b1]
    · exact hasL_iff.2 hx
    · exact e2
end Go.Proofs.YtccmlmahjgndbaaDoor.SetN
/- Plain mathematics, of no program: which bytes are letters and digits; names; the tokens of a line. -/
namespace Go.Proofs.YtccmlmahjgndbaaDoor.Plain
set_option linter.unusedVariables false
set_option linter.unusedSimpArgs false
open Go.RowKit
def capB (n : Int) : Bool := decide (65 ≤ n ∧ n ≤ 90)
def smallB (n : Int) : Bool := decide (97 ≤ n ∧ n ≤ 122)
def digB (n : Int) : Bool := decide (48 ≤ n ∧ n ≤ 57)
def wordB (n : Int) : Bool := capB n || smallB n || digB n
theorem ret_bool {a b : Bool} (h : a = b) : Ending.returned (.bool a) = .returned (.bool b) := by rw [h]
theorem ret_int {k : IntKind} {a b : Int} (h : a = b) : Ending.returned (.int k a) = .returned (.int k b) := by rw [h]
theorem ret_str {a b : ByteArray} (h : a = b) : Ending.returned (.string a) = .returned (.string b) := by rw [h]
def named (f : Int → Bool) (l : List UInt8) : Bool := decide (0 < l.length ∧ l.length ≤ 8) && f (l.headD 0).toNat && l.all fun c => wordB c.toNat
theorem toList_len (s : ByteArray) : s.data.toList.length = s.size := rfl
theorem toList_isEmpty {s : ByteArray} (h : 0 < s.size) : s.toList.isEmpty = false := by
  have : s.toList = s.data.toList := Go.ByteArray.toList_eq s
  rw [this]
  cases e : s.data.toList with
  | nil => have := toList_len s; rw [e] at this; simp at this; omega
  | cons => rfl
theorem toList_isEmpty0 {s : ByteArray} (h : ¬ 0 < s.size) : s.toList.isEmpty = true := by
  have : s.toList = s.data.toList := Go.ByteArray.toList_eq s
  rw [this]
  cases e : s.data.toList with
  | nil => rfl
  | cons a l => have := toList_len s; rw [e] at this; simp at this; omega
theorem named_len {f} {s : ByteArray} (h : ¬ (0 < s.size ∧ s.size ≤ 8)) : named f s.data.toList = false := by
  unfold named
  rw [toList_len, decide_eq_false h]
  rfl
theorem headD_eq {s : ByteArray} (h : 0 < s.size) : s.data.toList.headD 0 = s[0] := by
  have e : s.data.toList[0]? = some s[0] := by
    rw [List.getElem?_eq_getElem (by rw [toList_len]; exact h)]; rfl
  cases hl : s.data.toList with
  | nil => rw [hl] at e; simp at e
  | cons a l => rw [hl] at e; simpa using e
theorem named_head {f} {s : ByteArray} (h : 0 < s.size) (hc : f s[0].toNat = false) : named f s.data.toList = false := by
  unfold named
  rw [headD_eq h, hc]
  simp
theorem named_bad {f} {s : ByteArray} (k : Nat) (h : k < s.size) (hc : wordB s[k].toNat = false) : named f s.data.toList = false := by
  unfold named
  have : (s.data.toList.all fun c => wordB c.toNat) = false := by
    rw [List.all_eq_false]
    exact ⟨s[k], by
      have : s[k] = s.data.toList[k]'(by rw [toList_len]; exact h) := rfl
      rw [this]; exact List.getElem_mem _, by simp [hc]⟩
  rw [this]
  simp
theorem named_ok {f} {s : ByteArray} (h : 0 < s.size) (h8 : s.size ≤ 8) (hf : f s[0].toNat = true) (hc : ∀ k, (h : k < s.size) → wordB s[k].toNat = true) : named f s.data.toList = true := by
  unfold named
  have : (s.data.toList.all fun c => wordB c.toNat) = true := by
    rw [List.all_eq_true]
    intro x hx
    obtain ⟨k, hk, rfl⟩ := List.getElem_of_mem hx
    exact hc k (by rw [toList_len] at hk; exact hk)
  rw [this, headD_eq h, hf, toList_len, decide_eq_true ⟨h, h8⟩]
  rfl
theorem named_one_cap (c : UInt8) : named capB [c] = capB c.toNat := by
  unfold named wordB
  cases h : capB c.toNat <;> simp [h]
theorem named_one_small (c : UInt8) : named smallB [c] = smallB c.toNat := by
  unfold named wordB
  cases h : smallB c.toNat <;> simp [h]

theorem u8_eq {a b : UInt8} : (a == b) = decide (a.toNat = b.toNat) := by
  rw [Bool.eq_iff_iff, beq_iff_eq, decide_eq_true_iff]
  exact ⟨fun h => by rw [h], fun h => UInt8.toNat_inj.1 h⟩
theorem u8_ne {a b : UInt8} (h : a ≠ b) : (a == b) = false := by simpa using h
theorem i8_eq {a : UInt8} {n : Nat} {b : UInt8} (hb : b.toNat = n) (h : a = b) : ((a.toNat : Int) == (n : Int)) = true := by subst h; rw [hb]; simp
theorem i8_ne {a : UInt8} {n : Nat} {b : UInt8} (hb : b.toNat = n) (h : a ≠ b) : ((a.toNat : Int) == (n : Int)) = false := by
  have : a.toNat ≠ n := fun e => h (UInt8.toNat_inj.1 (by rw [hb, e]))
  simp; omega

/-- How many letters and digits a line has from a place on. -/
def wlen (s : ByteArray) (k : Nat) : Nat := ((s.data.toList.drop k).takeWhile fun c => wordB c.toNat).length
theorem drop_cons {s : ByteArray} {k : Nat} (h : k < s.size) : s.data.toList.drop k = s[k] :: s.data.toList.drop (k + 1) := by
  rw [List.drop_eq_getElem_cons (by rw [toList_len]; exact h)]; rfl
theorem wlen_succ {s : ByteArray} {k : Nat} (h : k < s.size) (hw : wordB s[k].toNat = true) : wlen s k = wlen s (k + 1) + 1 := by
  unfold wlen
  rw [drop_cons h, List.takeWhile_cons, if_pos hw]; rfl
theorem wlen_stop {s : ByteArray} {k : Nat} (h : k < s.size) (hw : wordB s[k].toNat = false) : wlen s k = 0 := by
  unfold wlen
  rw [drop_cons h, List.takeWhile_cons, if_neg (by simp [hw])]; rfl
theorem wlen_end {s : ByteArray} {k : Nat} (h : ¬ k < s.size) : wlen s k = 0 := by
  unfold wlen
  rw [List.drop_of_length_le (by rw [toList_len]; omega)]; rfl
theorem wlen_le (s : ByteArray) (k : Nat) : wlen s k ≤ s.size - k := by
  unfold wlen
  have := (List.takeWhile_sublist (fun c : UInt8 => wordB c.toNat) (l := s.data.toList.drop k)).length_le
  rw [List.length_drop, toList_len] at this
  exact this

structure Tk where
  kind : Int
  text : ByteArray
  col : Nat
def Tk.cells (t : Tk) : List Value := [.int .i64 t.kind, .string t.text, .int .i64 t.col]
def tkCells (l : List Tk) : List Value := (l.map Tk.cells).flatten
inductive TkStep where
  | skip
  | tok (kind : Int) (m : Nat)
  | bad (e : Int)
inductive TkAns where
  | ok (l : List Tk)
  | bad (col : Nat) (e : Int)
def tkStep (s : ByteArray) (k : Nat) (h : k < s.size) : TkStep :=
  if s[k] = 32 then .skip
  else if capB s[k].toNat then (if wlen s (k + 1) + 1 > 8 then .bad 4 else .tok 1 (wlen s (k + 1)))
  else if smallB s[k].toNat then (if wlen s (k + 1) + 1 > 8 then .bad 4 else .tok 2 (wlen s (k + 1)))
  else if s[k] = 46 then .tok 3 0
  else if s[k] = 38 then .tok 5 0
  else if Lib.hasPrefix (s.data.toList.drop k) [60, 45] then .tok 4 1
  else .bad 1
def tkRun (s : ByteArray) (k : Nat) (L : List Tk) : TkAns :=
  if h : k < s.size then
    match tkStep s k h with
    | .skip => tkRun s (k + 1) L
    | .tok kind m => tkRun s (k + m + 1) (L ++ [⟨kind, s.extract k (k + (m + 1)), k + 1⟩])
    | .bad e => .bad (k + 1) e
  else .ok L
termination_by s.size - k
theorem tkRun_end {s : ByteArray} {k : Nat} {L : List Tk} (h : ¬ k < s.size) : tkRun s k L = .ok L := by rw [tkRun, dif_neg h]
theorem tkRun_skip {s : ByteArray} {k : Nat} {L : List Tk} (h : k < s.size) (hs : tkStep s k h = .skip) : tkRun s k L = tkRun s (k + 1) L := by rw [tkRun, dif_pos h, hs]
theorem tkRun_tok {s : ByteArray} {k : Nat} {L : List Tk} {kind : Int} {m : Nat} (h : k < s.size) (hs : tkStep s k h = .tok kind m) : tkRun s k L = tkRun s (k + m + 1) (L ++ [⟨kind, s.extract k (k + (m + 1)), k + 1⟩]) := by rw [tkRun, dif_pos h, hs]
theorem tkRun_bad {s : ByteArray} {k : Nat} {L : List Tk} {e : Int} (h : k < s.size) (hs : tkStep s k h = .bad e) : tkRun s k L = .bad (k + 1) e := by rw [tkRun, dif_pos h, hs]

/-- A line without its comment. -/
def bare (s : ByteArray) : ByteArray := ⟨(s.data.toList.takeWhile (fun c => c != 35)).toArray⟩
end Go.Proofs.YtccmlmahjgndbaaDoor.Plain
/- Rules: their numbers, and a block that holds one. -/
namespace Go.Proofs.YtccmlmahjgndbaaDoor.TblC
set_option linter.unusedVariables false
set_option linter.unusedSimpArgs false
open Go.RowKit Go.Lib Go.Proofs Go.Proofs.YtccmlmahjgndbaaDoor.Plain
set_option linter.unusedVariables false
set_option linter.unusedSimpArgs false
/-- A rule's numbers. -/
structure Ru where
  kind : Int
  head : Int
  who : Int
  a : Int
  b : Int
  via : Int
deriving DecidableEq
def Ru.cells (r : Ru) : Array Value := #[.int .i64 r.kind, .int .i64 r.head, .int .i64 r.who, .int .i64 r.a, .int .i64 r.b, .int .i64 r.via]
def Ru.val (r : Ru) : Value := .agg #[.int .i64 r.kind, .int .i64 r.head, .int .i64 r.who, .int .i64 r.a, .int .i64 r.b, .int .i64 r.via]
def zeroU : Ru := ⟨0, 0, 0, 0, 0, 0⟩
/-- The rule lies in block r, and block r alone was written. -/
def RuAt (w : World) (r : Nat) (u : Ru) : Prop := w.heap[r]? = some (.cells u.cells 25 (0, 0))
def Ru.set (u : Ru) (o : Nat) (v : Int) : Ru :=
  if o = 1 then { u with head := v } else if o = 2 then { u with who := v } else if o = 3 then { u with a := v } else if o = 4 then { u with b := v } else if o = 5 then { u with via := v } else u
theorem RuAt.lt {w : World} {r : Nat} {u : Ru} (h : RuAt w r u) : r < w.heap.size := (Array.getElem?_eq_some_iff.1 h).1
theorem RuAt.cell {w : World} {r : Nat} {u : Ru} (h : RuAt w r u) (o : Nat) : w.cell? ⟨r, o, none⟩ = u.cells[o]? := Lib.cell_of_heap h o
theorem RuAt.free {w : World} {r : Nat} {u : Ru} (h : RuAt w r u) (o : Nat) : w.frozen? ⟨r, o, none⟩ = false := frozen_of_row _ _ _ _ _ h
theorem RuAt.put {w : World} {r : Nat} {u : Ru} (h : RuAt w r u) (o : Nat) (h1 : 1 ≤ o) (h5 : o ≤ 5) (v : Int) : RuAt (w.setCell ⟨r, o, none⟩ (.int .i64 v)) r (u.set o v) := by
  unfold RuAt
  rw [heap_setCell_same _ _ _ _ _ _ h]
  congr 2
  match o, h1, h5 with
  | 1, _, _ => rfl
  | 2, _, _ => rfl
  | 3, _, _ => rfl
  | 4, _, _ => rfl
  | 5, _, _ => rfl
theorem RuAt.below {w w' : World} {r : Nat} {u : Ru} (h : RuAt w r u) (hb : RowKit.Below w.heap.size w w') : RuAt w' r u := (hb.block r h.lt).trans h
theorem grew_set (w : World) (a : Addr) (v : Value) : w.grownBy (w.setCell a v) (some a.block) := ⟨rfl, rfl, rfl, by simp [World.setCell], fun k hk hne => Below.heap_setCell _ _ _ _ (fun e => hne (by rw [e]))⟩
theorem below_set {w w1 : World} {a : Addr} {v : Value} (hb : RowKit.Below w.heap.size w w1) : w.grownBy (w1.setCell a v) (some a.block) :=
  ⟨hb.os, hb.tape, hb.output, by simpa [World.setCell] using hb.size, fun k hk hne => (Below.heap_setCell _ _ _ _ (fun e => hne (by rw [e]))).trans (hb.block k hk)⟩
theorem grew_trans {w w1 w2 : World} {r : Nat} (h : w.grownBy w1 (some r)) (h2 : w1.grownBy w2 (some r)) : w.grownBy w2 (some r) :=
  ⟨h2.os.trans h.os, h2.tape.trans h.tape, h2.output.trans h.output, Nat.le_trans h.size h2.size, fun k hk hne => (h2.block k (Nat.lt_of_lt_of_le hk h.size) hne).trans (h.block k hk hne)⟩
theorem grew_below {w w1 w2 : World} {r : Nat} (h : w.grownBy w1 (some r)) (h2 : RowKit.Below w1.heap.size w1 w2) : w.grownBy w2 (some r) :=
  ⟨h2.os.trans h.os, h2.tape.trans h.tape, h2.output.trans h.output, Nat.le_trans h.size h2.size, fun k hk hne => (h2.block k (Nat.lt_of_lt_of_le hk h.size)).trans (h.block k hk hne)⟩
theorem below_grew {w w1 w2 : World} {r : Nat} (h2 : RowKit.Below w.heap.size w w1) (h : w1.grownBy w2 (some r)) : w.grownBy w2 (some r) :=
  ⟨h.os.trans h2.os, h.tape.trans h2.tape, h.output.trans h2.output, Nat.le_trans h2.size h.size, fun k hk hne => (h.block k (Nat.lt_of_lt_of_le hk h2.size) hne).trans (h2.block k hk)⟩
def PutPost (v : Int) (u : Ru) (o r : Nat) (w : World) (e : Ending) (w' : World) : Prop := e = .returned (.bool (decide (0 ≤ v))) ∧ RuAt w' r (u.set o v) ∧ w.grownBy w' (some r)
end Go.Proofs.YtccmlmahjgndbaaDoor.TblC
namespace Go.Proofs.YtccmlmahjgndbaaDoor.TblB
open Go.RowKit Go.Lib Go.Proofs
set_option linter.unusedVariables false
set_option linter.unusedSimpArgs false
theorem below_setRow {B : Nat} {a w : World} (h : RowKit.Below B a w) {g : Nat} (hg : B ≤ g) (cs : Array Value) : RowKit.Below B a (w.setRow g cs) :=
  ⟨h.os, h.tape, h.output, by simpa using h.size, fun k hk => (setRow_other _ _ _ _ (by omega)).trans (h.block k hk)⟩
end Go.Proofs.YtccmlmahjgndbaaDoor.TblB
namespace Go.Proofs.YtccmlmahjgndbaaDoor.TblF
open Go.RowKit Go.Lib Go.Proofs Go.Proofs.YtccmlmahjgndbaaDoor.TblC
set_option linter.unusedVariables false
set_option linter.unusedSimpArgs false
theorem infoRule : (Tryd.prog.info? 25).map (·.size) = some 6 := by kernel_rfl
theorem cell_rule {w : World} {n : Nat} {old : Array Value} {u : Ru} (h : w.heap[n]? = some (.cells old 25 (0, 0))) (o : Nat) : (w.setRow n u.cells).cell? ⟨n, o, none⟩ = (#[.int .i64 u.kind, .int .i64 u.head, .int .i64 u.who, .int .i64 u.a, .int .i64 u.b, .int .i64 u.via] : Array Value)[o]? := cell_setRow_same w n o old u.cells _ _ h
theorem one6 (u : Ru) : u.cells.all (·.oneCell') = true :=
  all_oneCell_toArray (cs := [.int .i64 u.kind, .int .i64 u.head, .int .i64 u.who, .int .i64 u.a, .int .i64 u.b, .int .i64 u.via]) (fun v hv => by simp at hv; rcases hv with rfl | rfl | rfl | rfl | rfl | rfl <;> rfl)
end Go.Proofs.YtccmlmahjgndbaaDoor.TblF
namespace Go.Proofs.YtccmlmahjgndbaaDoor.TblV
open Go.RowKit Go.Lib Go.Proofs Go.Proofs.YtccmlmahjgndbaaDoor.TblC
set_option linter.unusedVariables false
set_option linter.unusedSimpArgs false
/-- Rules as cells. -/
def cellsR (L : List Ru) : List Value := L.flatMap fun u => u.cells.toList
theorem cellsR_len (L : List Ru) : (cellsR L).length = L.length * 6 := by
  induction L with
  | nil => rfl
  | cons u L ih => unfold cellsR at *; rw [List.flatMap_cons, List.length_append, ih, List.length_cons, Nat.succ_mul]; show 6 + _ = _; omega
theorem cellsR_app (L K : List Ru) : cellsR (L ++ K) = cellsR L ++ cellsR K := by unfold cellsR; simp
theorem cellsR_at : ∀ (L : List Ru) (j k : Nat) (h : j < L.length), k < 6 → (cellsR L)[j * 6 + k]? = (L[j].cells)[k]?
  | [], _, _, h, _ => absurd h (Nat.not_lt_zero _)
  | u :: L, 0, k, _, hk => by
    have e : cellsR (u :: L) = u.cells.toList ++ cellsR L := by unfold cellsR; simp
    rw [e, Nat.zero_mul, Nat.zero_add, List.getElem?_append_left (by show k < 6; exact hk)]
    simp
  | u :: L, j + 1, k, h, hk => by
    have e : cellsR (u :: L) = u.cells.toList ++ cellsR L := by unfold cellsR; simp
    have h6 : u.cells.toList.length = 6 := rfl
    rw [e, List.getElem?_append_right (by rw [h6]; omega), h6]
    have : (j + 1) * 6 + k - 6 = j * 6 + k := by omega
    rw [this, cellsR_at L j k (by simpa using h) hk]
    simp
/-- A slice value that reads as rules, wherever it lies. -/
def UG (w : World) (A : Option Addr) (L : List Ru) : Prop :=
  0 < L.length → ∃ g o, A = some ⟨g, o, none⟩ ∧ g < w.heap.size ∧ ∀ j, (h : j < L.length) → ∀ k, k < 6 → w.cell? ⟨g, o + j * 6 + k, none⟩ = (L[j].cells)[k]?
theorem UG.below {w w' : World} {A : Option Addr} {L : List Ru} (h : UG w A L) (hb : Below w.heap.size w w') : UG w' A L := fun hp => by
  obtain ⟨g, o, hA, hg, hc⟩ := h hp
  exact ⟨g, o, hA, Nat.lt_of_lt_of_le hg hb.size, fun j hj k hk => (hb.cell (p := ⟨g, o + j * 6 + k, none⟩) hg).trans (hc j hj k hk)⟩
theorem ug_own {w : World} {B : Nat} {v : Value} {L : List Ru} {t : TypeId} (h : w.ownsRow B t 6 v L.length (cellsR L)) : ∃ A ca, v = .slice A L.length ca ∧ UG w A L := by
  have h0 := h
  rcases h.2 with ⟨rfl, hn⟩ | ⟨g, cap, cur, rfl, hb, hg, _⟩
  · exact ⟨none, 0, by rw [hn], fun hp => by omega⟩
  · refine ⟨_, cap, rfl, fun hp => ⟨g, 0, rfl, (Array.getElem?_eq_some_iff.1 hg).1, fun j hj k hk => ?_⟩⟩
    have hx := cellsR_at L j k hj hk
    have hs : k < L[j].cells.size := by show k < 6; exact hk
    rw [Array.getElem?_eq_getElem hs] at hx ⊢
    have := h0.cells (g := g) rfl _ _ hx
    have e : ((⟨g, 0, none⟩ : Addr).add (j * 6 + k)) = ⟨g, j * 6 + k, none⟩ := by unfold Addr.add; split <;> simp_all
    rw [e] at this
    rw [Nat.zero_add]
    exact this
end Go.Proofs.YtccmlmahjgndbaaDoor.TblV
