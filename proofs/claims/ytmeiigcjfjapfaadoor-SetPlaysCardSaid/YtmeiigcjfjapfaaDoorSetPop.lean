/- Plain mathematics, of no program: how many bits of a word of 64 are 1, the library's way and by definition. -/
import Derived.WalkKit
namespace Go.Proofs.YtmeiigcjfjapfaaDoor.SetPop
/-- How many of the 64 bits are 1. -/
def pop (x : Nat) : Nat := (List.range 64).countP (fun i => x.testBit i)

def val : List Nat → Nat
  | [] => 0
  | b :: l => b + 256 * val l

theorem and_split (a b c d : Nat) (ha : a < 256) (hc : c < 256) : (a + 256 * b) &&& (c + 256 * d) = (a &&& c) + 256 * (b &&& d) := by
  have hac : a &&& c < 2 ^ 8 := Nat.and_lt_two_pow _ (by omega)
  apply Nat.eq_of_testBit_eq
  intro i
  rw [Nat.testBit_and, Nat.add_comm a, Nat.add_comm c, Nat.add_comm (a &&& c), show (256 : Nat) = 2 ^ 8 from rfl, Nat.testBit_two_pow_mul_add _ ha, Nat.testBit_two_pow_mul_add _ hc, Nat.testBit_two_pow_mul_add _ hac]
  split <;> simp [Nat.testBit_and]

def small (l : List Nat) : Prop := ∀ b ∈ l, b < 256

theorem val_and : ∀ (l m : List Nat), l.length = m.length → small l → small m → val l &&& val m = val (l.zipWith (· &&& ·) m)
  | [], [], _, _, _ => rfl
  | a :: l, c :: m, h, hl, hm => by
    simp only [val, List.zipWith_cons_cons]
    rw [and_split _ _ _ _ (hl a (by simp)) (hm c (by simp)), val_and l m (by simpa using h) (fun b hb => hl b (by simp [hb])) (fun b hb => hm b (by simp [hb]))]

def s (b : Nat) : Nat := ((b / 2) &&& 0x55) + (b &&& 0x55)
def t (b : Nat) : Nat := ((b / 4) &&& 0x33) + (b &&& 0x33)
def c8 (b : Nat) : Nat := (t (s b) / 16 + t (s b)) &&& 15

theorem s_lt : ∀ b : Fin 256, s b.val < 256 := by decide +kernel
theorem t_lt : ∀ b : Fin 256, t b.val < 256 := by decide +kernel
theorem s_hi : ∀ (b : Fin 256) (e : Fin 2), ((b.val / 2 + 128 * e.val) &&& 0x55) + (b.val &&& 0x55) = s b.val := by decide +kernel
theorem t_hi : ∀ (b : Fin 256) (e : Fin 4), ((b.val / 4 + 64 * e.val) &&& 0x33) + (b.val &&& 0x33) = t b.val := by decide +kernel
theorem u_hi : ∀ (b : Fin 256) (e : Fin 5), (t (s b.val) / 16 + 16 * e.val + t (s b.val)) &&& 15 = c8 b.val ∧ t (s b.val) / 16 + 16 * e.val + t (s b.val) < 256 := by decide +kernel
theorem ts_nib : ∀ b : Fin 256, t (s b.val) % 16 ≤ 4 := by decide +kernel
theorem c8_le : ∀ b : Fin 256, c8 b.val ≤ 8 := by decide +kernel
theorem c8_pop : ∀ b : Fin 256, c8 b.val = (List.range 8).countP (fun i => b.val.testBit i) := by decide +kernel

theorem step1 : ∀ (l : List Nat), small l → (val l / 2 &&& val (l.map fun _ => 0x55)) + (val l &&& val (l.map fun _ => 0x55)) = val (l.map s)
  | [], _ => rfl
  | a :: l, h => by
    have ha := h a (by simp)
    have ih := step1 l (fun b hb => h b (by simp [hb]))
    simp only [val, List.map_cons]
    have e : (a + 256 * val l) / 2 = (a / 2 + 128 * (val l % 2)) + 256 * (val l / 2) := by omega
    have k := s_hi ⟨a, ha⟩ ⟨val l % 2, by omega⟩
    simp only at k
    rw [e, and_split _ _ _ _ (by omega) (by omega), and_split _ _ _ _ ha (by omega)]
    omega

theorem step2 : ∀ (l : List Nat), small l → (val l / 4 &&& val (l.map fun _ => 0x33)) + (val l &&& val (l.map fun _ => 0x33)) = val (l.map t)
  | [], _ => rfl
  | a :: l, h => by
    have ha := h a (by simp)
    have ih := step2 l (fun b hb => h b (by simp [hb]))
    simp only [val, List.map_cons]
    have e : (a + 256 * val l) / 4 = (a / 4 + 64 * (val l % 4)) + 256 * (val l / 4) := by omega
    have k := t_hi ⟨a, ha⟩ ⟨val l % 4, by omega⟩
    simp only at k
    rw [e, and_split _ _ _ _ (by omega) (by omega), and_split _ _ _ _ ha (by omega)]
    omega

theorem nib : ∀ (l : List Nat), small l → val ((l.map s).map t) % 16 ≤ 4
  | [], _ => by decide
  | a :: l, h => by
    have := ts_nib ⟨a, h a (by simp)⟩
    simp only at this
    simp only [val, List.map_cons]; omega

theorem step3 : ∀ (l : List Nat), small l → (val ((l.map s).map t) / 16 + val ((l.map s).map t)) &&& val (l.map fun _ => 15) = val (l.map c8)
  | [], _ => rfl
  | a :: l, h => by
    have ha := h a (by simp)
    have hl : small l := fun b hb => h b (by simp [hb])
    have ih := step3 l hl
    have n := nib l hl
    simp only [val, List.map_cons]
    generalize hv : val ((l.map s).map t) = v at *
    obtain ⟨k, k'⟩ := u_hi ⟨a, ha⟩ ⟨v % 16, by omega⟩
    simp only at k k'
    have e : (t (s a) + 256 * v) / 16 + (t (s a) + 256 * v) = (t (s a) / 16 + 16 * (v % 16) + t (s a)) + 256 * (v / 16 + v) := by omega
    rw [e, and_split _ _ _ _ k' (by omega), k, ih]

/-- The library's way. -/
def swar (x : Nat) : Nat :=
  let x1 := (x / 2 &&& 0x5555555555555555) + (x &&& 0x5555555555555555)
  let x2 := (x1 / 4 &&& 0x3333333333333333) + (x1 &&& 0x3333333333333333)
  let x3 := (x2 / 16 + x2) &&& 0x0f0f0f0f0f0f0f0f
  let x4 := x3 + x3 / 256
  let x5 := x4 + x4 / 65536
  let x6 := x5 + x5 / 4294967296
  x6 % 128

theorem bytes (x : Nat) (h : x < 18446744073709551616) : ∃ l : List Nat, l.length = 8 ∧ small l ∧ val l = x := by
  refine ⟨[x % 256, x / 256 % 256, x / 65536 % 256, x / 16777216 % 256, x / 4294967296 % 256, x / 1099511627776 % 256, x / 281474976710656 % 256, x / 72057594037927936 % 256], rfl, ?_, ?_⟩
  · intro b hb; simp at hb; omega
  · simp only [val]; omega

theorem sum8 (a b c d e f g h : Nat) (ha : a ≤ 8) (hb : b ≤ 8) (hc : c ≤ 8) (hd : d ≤ 8) (he : e ≤ 8) (hf : f ≤ 8) (hg : g ≤ 8) (hh : h ≤ 8) :
    (let x3 := val [a, b, c, d, e, f, g, h]; let x4 := x3 + x3 / 256; let x5 := x4 + x4 / 65536; let x6 := x5 + x5 / 4294967296; x6 % 128) = a + b + c + d + e + f + g + h := by
  simp only [val]
  have e4 : (a + 256 * (b + 256 * (c + 256 * (d + 256 * (e + 256 * (f + 256 * (g + 256 * (h + 256 * 0))))))) ) + (a + 256 * (b + 256 * (c + 256 * (d + 256 * (e + 256 * (f + 256 * (g + 256 * (h + 256 * 0))))))) ) / 256
    = (a + b) + 256 * (b + c) + 65536 * ((c + d) + 256 * (d + e) + 65536 * ((e + f) + 256 * (f + g) + 65536 * ((g + h) + 256 * h))) := by omega
  rw [e4]
  generalize hp : (a + b) + 256 * (b + c) = p
  generalize hq : (c + d) + 256 * (d + e) = q
  generalize hr : (e + f) + 256 * (f + g) = r
  generalize hs : (g + h) + 256 * h = s
  have : p < 65536 := by omega
  have : q < 65536 := by omega
  have : r < 65536 := by omega
  have : s < 65536 := by omega
  have e5 : p + 65536 * (q + 65536 * (r + 65536 * s)) + (p + 65536 * (q + 65536 * (r + 65536 * s))) / 65536 = (p + q) + 65536 * (q + r) + 4294967296 * ((r + s) + 65536 * s) := by omega
  rw [e5]
  have e6 : ((p + q) + 65536 * (q + r) + 4294967296 * ((r + s) + 65536 * s)) + ((p + q) + 65536 * (q + r) + 4294967296 * ((r + s) + 65536 * s)) / 4294967296 = (p + q + r + s) + 65536 * (q + r + s) + 4294967296 * ((r + s) + 65536 * s) := by omega
  rw [e6]; omega

theorem testBit_val (a v i : Nat) (ha : a < 256) : (a + 256 * v).testBit i = if i < 8 then a.testBit i else v.testBit (i - 8) := by
  rw [Nat.add_comm, show (256 : Nat) = 2 ^ 8 from rfl, Nat.testBit_two_pow_mul_add _ ha]

theorem countP_shift (p : Nat → Bool) (n : Nat) : (List.range (8 + n)).countP p = (List.range 8).countP p + (List.range n).countP (fun i => p (8 + i)) := by
  rw [List.range_add, List.countP_append, List.countP_map]; rfl

theorem pop_bytes : ∀ (l : List Nat), small l → (List.range (8 * l.length)).countP (fun i => (val l).testBit i) = (l.map c8).sum
  | [], _ => rfl
  | a :: l, h => by
    have ha := h a (by simp)
    have ih := pop_bytes l (fun b hb => h b (by simp [hb]))
    have k := c8_pop ⟨a, ha⟩
    simp only at k
    rw [show 8 * (a :: l).length = 8 + 8 * l.length by simp; omega, countP_shift, List.map_cons, List.sum_cons, ← ih, k]
    congr 1
    · apply List.countP_congr; intro i hi
      simp only [val]; rw [testBit_val _ _ _ ha, if_pos (by simpa using hi)]
    · apply List.countP_congr; intro i _
      simp only [val]; rw [testBit_val _ _ _ ha, if_neg (by omega)]; simp

theorem pop_of (a b c d e f g h : Nat) (hs : small [a, b, c, d, e, f, g, h]) : pop (val [a, b, c, d, e, f, g, h]) = c8 a + c8 b + c8 c + c8 d + c8 e + c8 f + c8 g + c8 h := by
  have p := pop_bytes [a, b, c, d, e, f, g, h] hs
  unfold pop
  refine Eq.trans p ?_
  simp only [List.map_cons, List.map_nil, List.sum_cons, List.sum_nil]
  omega

theorem swar_of (a b c d e f g h : Nat) (hs : small [a, b, c, d, e, f, g, h]) : swar (val [a, b, c, d, e, f, g, h]) = c8 a + c8 b + c8 c + c8 d + c8 e + c8 f + c8 g + c8 h := by
  have s1 := step1 _ hs
  have hs1 : small ([a, b, c, d, e, f, g, h].map s) := by intro b hb; obtain ⟨a, ha, rfl⟩ := List.mem_map.mp hb; exact s_lt ⟨a, hs a ha⟩
  have s2 := step2 _ hs1
  have s3 := step3 _ hs
  have hc : ∀ x ∈ [a, b, c, d, e, f, g, h], c8 x ≤ 8 := fun b hb => c8_le ⟨b, hs b hb⟩
  have q := sum8 (c8 a) (c8 b) (c8 c) (c8 d) (c8 e) (c8 f) (c8 g) (c8 h) (hc _ (by simp)) (hc _ (by simp)) (hc _ (by simp)) (hc _ (by simp)) (hc _ (by simp)) (hc _ (by simp)) (hc _ (by simp)) (hc _ (by simp))
  have m5 : val ([a, b, c, d, e, f, g, h].map fun _ => 0x55) = 0x5555555555555555 := by simp only [List.map_cons, List.map_nil, val]
  have m3 : val (([a, b, c, d, e, f, g, h].map s).map fun _ => 0x33) = 0x3333333333333333 := by simp only [List.map_cons, List.map_nil, val]
  have mf : val ([a, b, c, d, e, f, g, h].map fun _ => 15) = 0x0f0f0f0f0f0f0f0f := by simp only [List.map_cons, List.map_nil, val]
  rw [m5] at s1; rw [m3] at s2; rw [mf] at s3
  have hl : [a, b, c, d, e, f, g, h].map c8 = [c8 a, c8 b, c8 c, c8 d, c8 e, c8 f, c8 g, c8 h] := rfl
  rw [hl] at s3
  generalize val [a, b, c, d, e, f, g, h] = x at *
  generalize val ([a, b, c, d, e, f, g, h].map s) = x1 at *
  generalize val (([a, b, c, d, e, f, g, h].map s).map t) = x2 at *
  generalize val [c8 a, c8 b, c8 c, c8 d, c8 e, c8 f, c8 g, c8 h] = x3 at *
  simp only [swar]
  rw [s1, s2, s3]
  exact q

theorem swar_pop (x : Nat) (h : x < 18446744073709551616) : swar x = pop x := by
  obtain ⟨l, hl, hs, rfl⟩ := bytes x h
  clear h
  match l, hl, hs with
  | [a, b, c, d, e, f, g, h], _, hs => rw [swar_of _ _ _ _ _ _ _ _ hs, pop_of _ _ _ _ _ _ _ _ hs]
end Go.Proofs.YtmeiigcjfjapfaaDoor.SetPop
