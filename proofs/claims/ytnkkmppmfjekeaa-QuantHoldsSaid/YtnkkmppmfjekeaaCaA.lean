/- The cache: what is in memory, New, the number that is mixed, by contract. -/
import Derived.Test.YtnkkmppmfjekeaaProg
import Derived.WalkKit
import Derived.Below
import Derived.Lib.Hide
import Derived.Lib.MinMax
import Derived.Outline
import Derived.Laws.Bits64b
import Derived.Deep.MidRow
import Derived.Laws.MakeOwn
import Derived.RegionTactic
import Derived.Deep.RegionWith
import Derived.Deep.QuietTactic
import Derived.BigQuiet
import Derived.Deep.Cut
import Derived.Deep.CutBlock
import Derived.Deep.LoopGhost
import Derived.ProofKit
import Derived.IntWalk
import Derived.WalkLawsBesides
import Derived.WalkSpells
import Derived.StillTailTactics
namespace Go.Proofs.Ytnkkmppmfjekeaa.CaA
open Go.RowKit Go.Lib Go.Proofs
set_option linter.unusedVariables false
set_option linter.unusedSimpArgs false
theorem ret_int {k : IntKind} {a b : Int} (h : a = b) : Ending.returned (.int k a) = .returned (.int k b) := by rw [h]
theorem wrap_u64 {x : Int} (h0 : 0 ≤ x) (h : x < 18446744073709551616) : IntKind.u64.wrap x = x := by rw [IntKind.wrap_u64]; omega
theorem wrap_range (x : Int) : 0 ≤ IntKind.u64.wrap x ∧ IntKind.u64.wrap x < 18446744073709551616 := by rw [IntKind.wrap_u64]; omega
/-- What an answer is to. -/
structure Qn where
  op : Int
  a : Int
  b : Int
  d : Int
deriving DecidableEq
def Qn.cells (q : Qn) : List Value := [.int .i64 q.op, .int .i64 q.a, .int .i64 q.b, .int .i64 q.d]
/-- A place. -/
structure Pl where
  q : Qn
  ans : Int
  kept : Bool
def Pl.cells (p : Pl) : List Value := [.int .i64 p.q.op, .int .i64 p.q.a, .int .i64 p.q.b, .int .i64 p.q.d, .int .i64 p.ans, .bool p.kept]
def Pl.zero : Pl := ⟨⟨0, 0, 0, 0⟩, 0, false⟩
theorem Pl.len (p : Pl) : p.cells.length = 6 := rfl
/-- A cache in memory: n places. -/
structure Ca (w : World) (B R n : Nat) (M : Nat → Pl) (hits : Nat) : Prop where
  fb : w.heap[B]? = some (.cells #[.slice (some ⟨R, 0, none⟩) n n, .int .i64 hits] 99 (0, 0))
  at_ : ∀ i, i < n → w.rangeAt R (i * 6) (M i).cells
  th : ∀ i, i < n → w.there R (i * 6) 6
  rl : R < w.heap.size
  ne : R ≠ B
theorem Ca.drewN {w : World} {B R n : Nat} {M : Nat → Pl} {h : Nat} (H : Ca w B R n M h) (q : Nat) : Ca (w.drewN q) B R n M h := ⟨H.fb, H.at_, H.th, H.rl, H.ne⟩
theorem Ca.bl {w : World} {B R n : Nat} {M : Nat → Pl} {h : Nat} (H : Ca w B R n M h) : B < w.heap.size := (Array.getElem?_eq_some_iff.1 H.fb).1
theorem Ca.b0 {w : World} {B R n : Nat} {M : Nat → Pl} {h : Nat} (H : Ca w B R n M h) : w.cell? ⟨B, 0, none⟩ = some (.slice (some ⟨R, 0, none⟩) n n) ∧ w.cell? ⟨B, 1, none⟩ = some (.int .i64 h) := by
  constructor <;> (rw [Lib.cell_of_heap H.fb]; rfl)
theorem froz_of_block {w w' : World} {b : Nat} (h : w'.heap[b]? = w.heap[b]?) (o : Nat) : w'.frozen? ⟨b, o, none⟩ = w.frozen? ⟨b, o, none⟩ := by
  unfold World.frozen?
  rw [h]
theorem Ca.keep {w w' : World} {B R n : Nat} {M : Nat → Pl} {h : Nat} (H : Ca w B R n M h) (hs : w.heap.size ≤ w'.heap.size) (hB : w'.heap[B]? = w.heap[B]?) (hR : w'.heap[R]? = w.heap[R]?) : Ca w' B R n M h :=
  ⟨hB.trans H.fb, fun i hi j v hv => (World.cell?_of_block (w := w) hR).trans (H.at_ i hi j v hv), fun i hi j hj => ⟨by rw [World.cell?_of_block (w := w) hR]; exact (H.th i hi j hj).1, by rw [froz_of_block hR]; exact (H.th i hi j hj).2⟩, Nat.lt_of_lt_of_le H.rl hs, H.ne⟩
theorem Ca.below {w w' : World} {B R n : Nat} {M : Nat → Pl} {h : Nat} (H : Ca w B R n M h) (hb : Below w.heap.size w w') : Ca w' B R n M h := H.keep hb.size (hb.block _ H.bl) (hb.block _ H.rl)
theorem Ca.far {w w' : World} {B R n : Nat} {M : Nat → Pl} {h : Nat} {X : Nat} (H : Ca w B R n M h) (hg : w.grownBy w' (some X)) (h1 : B ≠ X) (h2 : R ≠ X) : Ca w' B R n M h := H.keep hg.size (hg.block _ H.bl (by simpa using h1)) (hg.block _ H.rl (by simpa using h2))
theorem infoPl : (Try.prog.info? 126).map (fun i => (i.zero, i.size, i.bytes)) = some (some (.agg #[.int .i64 0, .int .i64 0, .int .i64 0, .int .i64 0, .int .i64 0, .bool false]), 6, 48) := by kernel_rfl
theorem sizePl : (Try.prog.info? 126).map (·.size) = some 6 := by kernel_rfl
theorem sizeQn : (Try.prog.info? 122).map (·.size) = some 4 := by kernel_rfl
/-- The number that is mixed of k of the four. -/
def mixS (h n : Int) : Int := IntKind.u64.wrap (bits .xor .u64 (bits .xor .u64 h (h / 4294967296)) (IntKind.u64.wrap n) * 11400714819323198485)
def nth (q : Qn) (k : Nat) : Int := if k = 0 then q.op else if k = 1 then q.a else if k = 2 then q.b else q.d
def mixK (q : Qn) : Nat → Int
  | 0 => 0
  | k + 1 => mixS (mixK q k) (nth q k)
theorem mixK_range (q : Qn) (k : Nat) : 0 ≤ mixK q k ∧ mixK q k < 18446744073709551616 := by
  cases k with
  | zero => exact ⟨by unfold mixK; omega, by unfold mixK; omega⟩
  | succ k => exact wrap_range _
def mixQ (q : Qn) : Nat := (mixK q 4).toNat
theorem mixQ_lt (q : Qn) : mixQ q < 18446744073709551616 := by have := mixK_range q 4; unfold mixQ; omega
set_option maxRecDepth 100000 in
theorem idx4 (a b c d : Int) (k : Nat) (hk : k < 4) (w : World) : (Instr.index 149 (.agg #[.int .i64 a, .int .i64 b, .int .i64 c, .int .i64 d]) (.int .i64 k)).run Try.prog w = .ok (.int .i64 (nth ⟨a, b, c, d⟩ k)) w := by
  match k, hk with
  | 0, _ => rfl
  | 1, _ => rfl
  | 2, _ => rfl
  | 3, _ => rfl
  | k + 4, h => exact absurd h (by omega)
set_option maxRecDepth 100000 in
theorem mixed (q : Qn) (w : World) : Calls Try.prog 101 #[.agg q.cells.toArray] w fun e w' => e = .returned (.int .u64 (mixQ q)) ∧ Below w.heap.size w w' := by
  obtain ⟨a, b, c, d⟩ := q
  have HI := Lib.hid (fun k hk w => idx4 a b c d k hk w)
  have HR := Lib.hid (mixK_range ⟨a, b, c, d⟩)
  have HS : Hid (∀ k, mixK ⟨a, b, c, d⟩ (k + 1) = mixS (mixK ⟨a, b, c, d⟩ k) (nth ⟨a, b, c, d⟩ k)) := Lib.hid (fun k => rfl)
  have HB := Lib.hid ((Below.refl w.heap.size w).alloc (Nat.le_refl _) (.cells #[.int .i64 a, .int .i64 b, .int .i64 c, .int .i64 d] 122))
  have HQ : Hid (((mixQ ⟨a, b, c, d⟩ : Nat) : Int) = mixK ⟨a, b, c, d⟩ 4) := Lib.hid (by have := mixK_range ⟨a, b, c, d⟩ 4; unfold mixQ; omega)
  show Calls Try.prog 101 #[.agg #[.int .i64 a, .int .i64 b, .int .i64 c, .int .i64 d]] w _
  go_enter Try.func101, Try.ntmps101
  go_wp2_with fail
  go_loop [3, 15] (fun s i => ∃ k : Nat, k ≤ 4 ∧ i = .int .i64 k ∧ s = .int .u64 (mixK ⟨a, b, c, d⟩ k)) (fun _ i => 4 - (intOf i).toNat)
  case atStart => exact ⟨0, by omega, rfl, rfl⟩
  case round =>
    obtain ⟨k, hk, rfl, rfl⟩ := hrel
    have hr := HR.out k
    by_cases hlt : k < 4
    · have hi := HI.out k hlt
      have d1 : decide ((k : Int) < 4) = true := by simp; omega
      have hs := Lib.hid (HS.out k)
      generalize nth ⟨a, b, c, d⟩ k = x at *
      generalize mixK ⟨a, b, c, d⟩ k = h at *
      go_wp2_with fail
      go_round
      case rel => exact ⟨k + 1, by omega, by go_num, by rw [hs.out]; rfl⟩
      case measure => simp [intOf]; omega
    · have d1 : decide ((k : Int) < 4) = false := by simp; omega
      have hk4 := Lib.hid (show k = 4 by omega)
      clear hk hlt
      go_wp2_with fail
      go_ret
      exact ⟨by rw [HQ.out, hk4.out]; rfl, HB.out⟩
def zs : Array Value := #[.int .i64 0, .int .i64 0, .int .i64 0, .int .i64 0, .int .i64 0, .bool false]
theorem made_get (p i j : Nat) (hi : i < p) (hj : j < 6) : (madeCells zs (p * 6))[i * 6 + j]? = Pl.zero.cells[j]? := by
  have h : i * 6 + j < p * 6 := by omega
  have e : (i * 6 + j) % 6 = j := by omega
  rw [Array.getElem?_eq_getElem (by rw [size_madeCells]; exact h)]
  simp only [madeCells, Array.getElem_map, Array.getElem_range]
  show some (zs[(i * 6 + j) % 6]!) = _
  rw [e]
  match j, hj with
  | 0, _ => rfl
  | 1, _ => rfl
  | 2, _ => rfl
  | 3, _ => rfl
  | 4, _ => rfl
  | 5, _ => rfl
  | k + 6, h => exact absurd h (by omega)
theorem ca_made (X : World) (p : Nat) : Ca ((X.alloc (.cells (madeCells zs (p * 6)) 126)).alloc (.cells #[.slice (some ⟨X.heap.size, 0, none⟩) p p, .int .i64 0] 99)) (X.heap.size + 1) X.heap.size p (fun _ => Pl.zero) 0 := by
  have h1 : ((X.alloc (.cells (madeCells zs (p * 6)) 126)).alloc (.cells #[.slice (some ⟨X.heap.size, 0, none⟩) p p, .int .i64 0] 99)).heap[X.heap.size]? = some (.cells (madeCells zs (p * 6)) 126 (0, 0)) := heap_alloc2_old X _ _
  refine ⟨?_, fun i hi j v hv => ?_, fun i hi j hj => ⟨?_, ?_⟩, by simp; omega, by omega⟩
  · have := heap_alloc_new (X.alloc (.cells (madeCells zs (p * 6)) 126)) (.cells #[.slice (some ⟨X.heap.size, 0, none⟩) p p, .int .i64 0] 99)
    simpa using this
  · have hj : j < 6 := (List.getElem?_eq_some_iff.1 hv).1
    rw [Lib.cell_of_heap h1, made_get p i j hi hj]
    exact hv
  · rw [Lib.cell_of_heap h1, made_get p i j hi hj, List.getElem?_eq_getElem (by exact hj)]; rfl
  · unfold World.frozen?
    rw [h1]
    rfl
def NewPost (size : Int) (w : World) (e : Ending) (w' : World) : Prop := ∃ B R k, e = .returned (.pointer (some ⟨B, 0, none⟩)) ∧ k ≤ 16 ∧ (k = 0 ∨ ((2 ^ (k - 1) : Nat) : Int) < min size 65536) ∧ min size 65536 ≤ ((2 ^ k : Nat) : Int) ∧ Ca w' B R (2 ^ k) (fun _ => Pl.zero) 0 ∧ Below w.heap.size w w' ∧ w.heap.size ≤ B ∧ w.heap.size ≤ R
theorem two_lt {k : Nat} (h : 2 ^ k < 65536) : k < 16 := by
  apply Classical.byContradiction
  intro hn
  have : 2 ^ 16 ≤ 2 ^ k := Nat.pow_le_pow_right (by omega) (by omega)
  omega
theorem two_le {k : Nat} (h : k ≤ 16) : 1 ≤ 2 ^ k ∧ 2 ^ k ≤ 65536 := ⟨Nat.one_le_two_pow, by simpa using Nat.pow_le_pow_right (n := 2) (by omega) h⟩
set_option maxRecDepth 100000 in
theorem new_ (size : Int) (w : World) : Calls Try.prog 40 #[.int .i64 size] w (NewPost size w) := by
  unfold NewPost
  obtain ⟨t, ht⟩ : ∃ t, min size 65536 = t := ⟨_, rfl⟩
  rw [ht]
  have ht2 : t ≤ 65536 := by omega
  obtain ⟨i0, hi, hz0, hz1, hz2⟩ := info_parts infoPl
  have mk := Lib.hid (fun (w : World) (p : Nat) (h : p ≤ 65536) => run_make (P := Try.prog) w 97 126 i0 _ Try.underlying97 hi hz0 .i64 .i64 p p (by omega) (by omega) (by rw [hz2]; omega) (by omega))
  rw [hz1] at mk
  clear hi hz0 hz1 hz2
  go_enter Try.func40, Try.ntmps40
  go_wp2_with fail
  go_loop [3] (fun s => ∃ k p : Nat, k ≤ 16 ∧ Hid (p = 2 ^ k) ∧ s = .int .i64 p ∧ Hid (k = 0 ∨ ((2 ^ (k - 1) : Nat) : Int) < t)) (fun s => 65536 - (intOf s).toNat)
  case atStart => exact ⟨0, 1, by omega, Lib.hid rfl, rfl, Lib.hid (Or.inl rfl)⟩
  case round =>
    obtain ⟨k, p, hk, hp, rfl, hl⟩ := hrel
    have hp2 : 1 ≤ p ∧ p ≤ 65536 := by rw [hp.out]; exact two_le hk
    obtain ⟨p1, p2⟩ := hp2
    by_cases hlt : (p : Int) < t
    · have hr : Hid (k + 1 ≤ 16 ∧ p * 2 = 2 ^ (k + 1) ∧ (k + 1 = 0 ∨ ((2 ^ (k + 1 - 1) : Nat) : Int) < t)) := Lib.hid ⟨by
        have : 2 ^ k < 65536 := by rw [← hp.out]; omega
        have := two_lt this
        omega, by rw [hp.out, Nat.pow_succ], Or.inr (by rw [Nat.add_sub_cancel, ← hp.out]; exact hlt)⟩
      have hp65 : (p : Int) < 65536 := by omega
      have d1 : decide ((p : Int) < t) = true := decide_eq_true hlt
      clear hl hp mk
      go_wp2_with fail
      go_round
      case rel => exact ⟨k + 1, p * 2, hr.out.1, Lib.hid hr.out.2.1, by go_num, Lib.hid hr.out.2.2⟩
      case measure => simp [intOf]; omega
    · have d1 : decide ((p : Int) < t) = false := decide_eq_false hlt
      have hmk := fun w => mk.out w p p2
      simp only [Int.toNat_natCast] at hmk
      have hfin : Hid ((k = 0 ∨ ((2 ^ (k - 1) : Nat) : Int) < t) ∧ t ≤ ((2 ^ k : Nat) : Int) ∧ ∀ X : World, Ca ((X.alloc (.cells (madeCells zs (p * 6)) 126)).alloc (.cells #[.slice (some ⟨X.heap.size, 0, none⟩) p p, .int .i64 0] 99)) (X.heap.size + 1) X.heap.size (2 ^ k) (fun _ => Pl.zero) 0) := Lib.hid ⟨hl.out, by rw [← hp.out]; omega, fun X => by rw [← hp.out]; exact ca_made X p⟩
      clear mk hp hl
      go_wp2_with fail
      go_ret
      exact ⟨w.heap.size + 1, rfl, w.heap.size, k, hk, by simpa using hfin.out.1, by simpa using hfin.out.2.1, hfin.out.2.2 w, ((Below.refl _ w).alloc (Nat.le_refl _) _).alloc (by simp) _, by omega, by omega⟩
theorem Ca.cells {w : World} {B R n : Nat} {M : Nat → Pl} {h : Nat} (H : Ca w B R n M h) (i : Nat) (hi : i < n) :
    w.cell? ⟨R, i * 6, none⟩ = some (.int .i64 (M i).q.op) ∧ w.cell? ⟨R, i * 6 + 1, none⟩ = some (.int .i64 (M i).q.a) ∧ w.cell? ⟨R, i * 6 + 2, none⟩ = some (.int .i64 (M i).q.b) ∧ w.cell? ⟨R, i * 6 + 3, none⟩ = some (.int .i64 (M i).q.d) ∧ w.cell? ⟨R, i * 6 + 4, none⟩ = some (.int .i64 (M i).ans) ∧ w.cell? ⟨R, i * 6 + 5, none⟩ = some (.bool (M i).kept) :=
  ⟨H.at_ i hi 0 _ rfl, H.at_ i hi 1 _ rfl, H.at_ i hi 2 _ rfl, H.at_ i hi 3 _ rfl, H.at_ i hi 4 _ rfl, H.at_ i hi 5 _ rfl⟩
theorem Ca.hit {w : World} {B R n : Nat} {M : Nat → Pl} {h : Nat} (H : Ca w B R n M h) : Ca (w.setCell ⟨B, 1, none⟩ (.int .i64 ((h : Int) + 1))) B R n M (h + 1) := by
  have hR : (w.setCell ⟨B, 1, none⟩ (.int .i64 ((h : Int) + 1))).heap[R]? = w.heap[R]? := Below.heap_setCell _ _ _ _ H.ne
  refine ⟨?_, fun i hi j v hv => (World.cell?_of_block (w := w) hR).trans (H.at_ i hi j v hv), fun i hi j hj => ⟨by rw [World.cell?_of_block (w := w) hR]; exact (H.th i hi j hj).1, by rw [froz_of_block hR]; exact (H.th i hi j hj).2⟩, by simpa [World.setCell] using H.rl, H.ne⟩
  show (w.heap.modify B _)[B]? = _
  rw [Array.getElem?_modify, if_pos rfl, H.fb]
  rfl
theorem Ca.free {w : World} {B R n : Nat} {M : Nat → Pl} {h : Nat} (H : Ca w B R n M h) (o : Nat) : w.frozen? ⟨B, o, none⟩ = false := by
  unfold World.frozen?
  rw [H.fb]
  rfl
end Go.Proofs.Ytnkkmppmfjekeaa.CaA
