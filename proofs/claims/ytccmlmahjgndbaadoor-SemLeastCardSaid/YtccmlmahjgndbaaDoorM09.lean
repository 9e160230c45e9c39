/- A slice value that reads as statements; a copy of it. -/
import Derived.Test.YtccmlmahjgndbaaDoorM08
import Derived.Test.YtccmlmahjgndbaaDoorM07
import Derived.Lib.SlicesCompact
import Derived.Shelf.SlSortCmp.InsertionK
import Derived.Test.YtccmlmahjgndbaaDoorM03
import Derived.Test.YtccmlmahjgndbaaDoorSemS
import Derived.Sort.WalkB12
import Derived.Lib.SliceRun
import Derived.Deep.LoopGhost
import Derived.Deep.Draws
import Derived.Shelf.RegionOpenPlain
import Derived.Deep.MidRow
import Derived.Lib.LazyBuf
import Derived.Lib.AppendZeros
import Derived.Shelf.SlSortCmp.NoneTotal
namespace Go.Proofs.YtccmlmahjgndbaaDoor.SynD2
set_option linter.unusedVariables false
set_option linter.unusedSimpArgs false
open Go.RowKit Go.Sort Go.Proofs.YtccmlmahjgndbaaDoor.Plain Go.Proofs.YtccmlmahjgndbaaDoor.SynP Go.Proofs.YtccmlmahjgndbaaDoor.SynC
def stCells (L : List St) : List Value := (L.map St.cells).flatten
theorem stCells_cons (t : St) (L : List St) : stCells (t :: L) = t.cells ++ stCells L := by unfold stCells; simp
theorem stCells_app (L K : List St) : stCells (L ++ K) = stCells L ++ stCells K := by unfold stCells; simp
theorem stCells_len (L : List St) : (stCells L).length = L.length * 9 := by
  induction L with
  | nil => rfl
  | cons t L ih => rw [stCells_cons, List.length_append, ih, List.length_cons, Nat.succ_mul]; show 9 + _ = _; omega
theorem stCells_one (L : List St) : ∀ u ∈ stCells L, u.oneCell' = true := by
  intro u hu
  unfold stCells at hu
  rw [List.mem_flatten] at hu
  obtain ⟨l, hl, hu⟩ := hu
  obtain ⟨t, _, rfl⟩ := List.mem_map.1 hl
  simp [St.cells] at hu
  rcases hu with rfl | rfl | rfl | rfl | rfl | rfl | rfl | rfl | rfl <;> rfl
theorem stCells_at (L : List St) (j k : Nat) (h : j < L.length) (hk : k < 9) : (stCells L)[j * 9 + k]? = L[j].cells[k]? := by
  induction L generalizing j with
  | nil => simp at h
  | cons t L ih =>
    have hl : t.cells.length = 9 := rfl
    rw [stCells_cons]
    cases j with
    | zero => rw [List.getElem?_append_left (by rw [hl]; omega)]; simp
    | succ j =>
      rw [List.getElem?_append_right (by rw [hl]; omega), hl, show (j + 1) * 9 + k - 9 = j * 9 + k from by omega]
      exact ih j (by simpa using h)
/-- A slice value's place that reads as statements. -/
def StAt (w : World) (A : Option Addr) (L : List St) : Prop :=
  0 < L.length → ∃ g o, A = some ⟨g, o, none⟩ ∧ g < w.heap.size ∧ ∀ j u, (stCells L)[j]? = some u → w.cell? ⟨g, o + j, none⟩ = some u
theorem StAt.below {w w' : World} {A : Option Addr} {L : List St} (h : StAt w A L) (hb : Below w.heap.size w w') : StAt w' A L := fun hp => by
  obtain ⟨g, o, hA, hg, hc⟩ := h hp
  exact ⟨g, o, hA, Nat.lt_of_lt_of_le hg hb.size, fun j u hu => (hb.cell (p := ⟨g, o + j, none⟩) hg).trans (hc j u hu)⟩
theorem StAt.of_own {w : World} {B : Nat} {e : TypeId} {v : Value} {L : List St} (h : w.ownsRow B e 9 v L.length (stCells L)) : ∃ A cap, v = .slice A L.length cap ∧ L.length ≤ cap ∧ StAt w A L := by
  rcases h.2 with ⟨rfl, h0⟩ | ⟨g, cap, cur, rfl, hB, hh, hc, hm, hs, ht⟩
  · exact ⟨none, 0, by rw [h0], by omega, fun hp => by omega⟩
  · refine ⟨_, _, rfl, hc, fun hp => ⟨g, 0, rfl, ?_, fun j u hu => ?_⟩⟩
    · exact (h.lt g rfl).2
    · have hj : j < (stCells L).length := by
        rcases Nat.lt_or_ge j (stCells L).length with h | h
        · exact h
        · rw [List.getElem?_eq_none h] at hu; cases hu
      rw [stCells_len] at hj
      rw [← ht, List.getElem?_take_of_lt (by omega)] at hu
      rw [Nat.zero_add, Lib.cell_of_heap hh, ← Array.getElem?_toList]
      exact hu
/-- Its nine cells. -/
theorem StAt.nine {w : World} {A : Option Addr} {L : List St} (h : StAt w A L) (j : Nat) (hj : j < L.length) : ∃ g o, A = some ⟨g, o, none⟩ ∧ g < w.heap.size ∧ ∀ k u, L[j].cells[k]? = some u → w.cell? ⟨g, o + (j * 9 + k), none⟩ = some u := by
  obtain ⟨g, o, hA, hg, hc⟩ := h (by omega)
  refine ⟨g, o, hA, hg, fun k u hu => ?_⟩
  have hk : k < 9 := by
    rcases Nat.lt_or_ge k 9 with h | h
    · exact h
    · rw [List.getElem?_eq_none (by show 9 ≤ k; exact h)] at hu; cases hu
  exact hc _ u ((stCells_at L j k hj hk).trans hu)
end Go.Proofs.YtccmlmahjgndbaaDoor.SynD2
/- Equality of two roles, and of two statements, as the program's operators tell it. -/
namespace Go.Proofs.YtccmlmahjgndbaaDoor.SynE
set_option linter.unusedVariables false
set_option linter.unusedSimpArgs false
open Go.RowKit Go.Sort Go.Proofs Go.Proofs.YtccmlmahjgndbaaDoor.Plain Go.Proofs.YtccmlmahjgndbaaDoor.SynP Go.Proofs.YtccmlmahjgndbaaDoor.Syn1
set_option linter.unusedSimpArgs false
theorem text_eq (a b : ByteArray) : (a.toList = b.toList) = (a = b) := by
  rw [Go.ByteArray.toList_eq, Go.ByteArray.toList_eq]; exact propext ⟨ba_ext, fun h => by rw [h]⟩
end Go.Proofs.YtccmlmahjgndbaaDoor.SynE
/- Rows of statements: is one there, and are two the same. -/
namespace Go.Proofs.YtccmlmahjgndbaaDoor.SynD3
set_option linter.unusedVariables false
set_option linter.unusedSimpArgs false
open Go.RowKit Go.Sort Go.Proofs Go.Proofs.YtccmlmahjgndbaaDoor.Plain Go.Proofs.YtccmlmahjgndbaaDoor.SynP Go.Proofs.YtccmlmahjgndbaaDoor.SynE Go.Proofs.YtccmlmahjgndbaaDoor.SynD2
set_option linter.unusedVariables false
set_option linter.unusedSimpArgs false
/-- A slice value that reads as statements, from its block's begin. -/
def StRow (w : World) (A : Option Addr) (L : List St) : Prop :=
  0 < L.length → ∃ g, A = some ⟨g, 0, none⟩ ∧ g < w.heap.size ∧ ∀ j, (h : j < L.length) → w.cell? ⟨g, j * 9, none⟩ = some (.int .i64 L[j].kind) ∧ w.cell? ⟨g, j * 9 + 1, none⟩ = some (.string L[j].head.owner) ∧ w.cell? ⟨g, j * 9 + 2, none⟩ = some (.string L[j].head.name) ∧ w.cell? ⟨g, j * 9 + 3, none⟩ = some (.string L[j].who) ∧ w.cell? ⟨g, j * 9 + 4, none⟩ = some (.string L[j].a.owner) ∧ w.cell? ⟨g, j * 9 + 5, none⟩ = some (.string L[j].a.name) ∧ w.cell? ⟨g, j * 9 + 6, none⟩ = some (.string L[j].b.owner) ∧ w.cell? ⟨g, j * 9 + 7, none⟩ = some (.string L[j].b.name) ∧ w.cell? ⟨g, j * 9 + 8, none⟩ = some (.string L[j].via)
theorem StRow.of_own {w : World} {B : Nat} {e : TypeId} {v : Value} {L : List St} (h : w.ownsRow B e 9 v L.length (stCells L)) : ∃ A cap, v = .slice A L.length cap ∧ L.length ≤ cap ∧ StRow w A L := by
  rcases h.2 with ⟨rfl, h0⟩ | ⟨g, cap, cur, rfl, hB, hh, hc, hm, hs, ht⟩
  · exact ⟨none, 0, by rw [h0], by omega, fun hp => by omega⟩
  · refine ⟨_, _, rfl, hc, fun hp => ⟨g, rfl, (h.lt g rfl).2, fun j hj => ?_⟩⟩
    have key : ∀ k u, k < 9 → L[j].cells[k]? = some u → w.cell? ⟨g, j * 9 + k, none⟩ = some u := fun k u hk hu => by
      have q := (stCells_at L j k hj hk).trans hu
      rw [← ht, List.getElem?_take_of_lt (by omega)] at q
      rw [Lib.cell_of_heap hh, ← Array.getElem?_toList]
      exact q
    exact ⟨key 0 _ (by omega) rfl, key 1 _ (by omega) rfl, key 2 _ (by omega) rfl, key 3 _ (by omega) rfl, key 4 _ (by omega) rfl, key 5 _ (by omega) rfl, key 6 _ (by omega) rfl, key 7 _ (by omega) rfl, key 8 _ (by omega) rfl⟩
theorem StRow.below {w w' : World} {A : Option Addr} {L : List St} (h : StRow w A L) (hb : Below w.heap.size w w') : StRow w' A L := fun hp => by
  obtain ⟨g, hA, hg, hc⟩ := h hp
  refine ⟨g, hA, Nat.lt_of_lt_of_le hg hb.size, fun j hj => ?_⟩
  obtain ⟨a0, a1, a2, a3, a4, a5, a6, a7, a8⟩ := hc j hj
  exact ⟨(hb.cell (p := ⟨g, j * 9, none⟩) hg).trans a0, (hb.cell (p := ⟨g, j * 9 + 1, none⟩) hg).trans a1, (hb.cell (p := ⟨g, j * 9 + 2, none⟩) hg).trans a2, (hb.cell (p := ⟨g, j * 9 + 3, none⟩) hg).trans a3, (hb.cell (p := ⟨g, j * 9 + 4, none⟩) hg).trans a4, (hb.cell (p := ⟨g, j * 9 + 5, none⟩) hg).trans a5, (hb.cell (p := ⟨g, j * 9 + 6, none⟩) hg).trans a6, (hb.cell (p := ⟨g, j * 9 + 7, none⟩) hg).trans a7, (hb.cell (p := ⟨g, j * 9 + 8, none⟩) hg).trans a8⟩
end Go.Proofs.YtccmlmahjgndbaaDoor.SynD3
/- What slices.Compact leaves, in plain mathematics; rows of statements that are stored into. -/
namespace Go.Proofs.YtccmlmahjgndbaaDoor.SynD7
set_option linter.unusedVariables false
set_option linter.unusedSimpArgs false
open Go.RowKit Go.Sort Go.Lib Go.Proofs Go.Proofs.YtccmlmahjgndbaaDoor.Plain Go.Proofs.YtccmlmahjgndbaaDoor.SynP Go.Proofs.YtccmlmahjgndbaaDoor.SynD Go.Proofs.YtccmlmahjgndbaaDoor.SynD2 Go.Proofs.YtccmlmahjgndbaaDoor.SynD3
variable {α : Type} [Inhabited α]
theorem setMany_one (enc : α → List Value) (k : Nat) (hk : ∀ x, (enc x).length = k) (k0 : 0 < k) (d : Array α) (i : Nat) (hi : i < d.size) (x : α) :
    setMany (flatK enc k d) (i * k) (enc x) = flatK enc k (d.setIfInBounds i x) := by
  refine ext_get! (by simp) fun t ht => ?_
  have ht' : t < d.size * k := by simpa using ht
  rw [get_setMany _ _ _ t (by simpa using ht'), get_flatK _ _ _ t ht', get_flatK _ _ _ t (by simpa using ht'), hk]
  by_cases a : t / k = i
  · have e : t - i * k = t % k := by subst a; rw [Nat.mod_eq_sub_div_mul]
    rw [if_pos ((blk_iff k i t k0).2 a), e, a, getElem!_set_same _ _ _ hi]
  · rw [if_neg (fun h => a ((blk_iff k i t k0).1 h)), getElem!_set_other _ _ _ _ a]
theorem holdsK_store {enc : α → List Value} {k : Nat} (hk : ∀ x, (enc x).length = k) (k0 : 0 < k) {W : World} {blk off : Nat} {d : Array α} (h : HoldsK enc k W blk off d) (i : Nat) (hi : i < d.size) (x : α) :
    HoldsK enc k (W.setCells blk (off + i * k) (enc x)) blk off (d.setIfInBounds i x) := by
  have b : i * k + k ≤ d.size * k := by
    have := Nat.mul_le_mul_right k (show i + 1 ≤ d.size from hi); rwa [Nat.add_mul, Nat.one_mul] at this
  have := holds_setCells_c h (i * k) (enc x) (by rw [hk, size_flatK]; exact b)
  rw [setMany_one enc k hk k0 d i hi x] at this
  exact this
theorem compL_snoc {β : Type} {c : β → β → Int} (E : ∀ x y, c x y = 0 → x = y) (x : β) : ∀ (l : List β) (y : β), l.getLast? = some y → compL c (l ++ [x]) = if c y x = 0 then compL c l else compL c l ++ [x]
  | [], y, h => by simp at h
  | [a], y, h => by
    have : a = y := by simpa using h
    subst this
    show compL c [a, x] = _
    unfold compL
    split
    · rename_i h0; rw [← E _ _ h0]; rfl
    · rfl
  | a :: b :: t, y, h => by
    have h' : (b :: t).getLast? = some y := by simpa using h
    have ih := compL_snoc E x (b :: t) y h'
    have e1 : compL c (a :: b :: t ++ [x]) = if c a b = 0 then compL c (b :: t ++ [x]) else a :: compL c (b :: t ++ [x]) := by
      show compL c (a :: b :: (t ++ [x])) = _
      rw [compL]; rfl
    have e2 : compL c (a :: b :: t) = if c a b = 0 then compL c (b :: t) else a :: compL c (b :: t) := by rw [compL]
    rw [e1, e2, ih]
    split <;> split <;> simp
theorem comp_up {c : α → α → Int} [DecidableEq α] (E : ∀ x y, c x y = 0 ↔ x = y) (d : Array α) : ∀ m, m ≤ d.size → compL c (d.toList.take m) = compactUpTo d m
  | 0, _ => by simp [compL, compactUpTo]
  | m + 1, hm => by
    have hlt : m < d.toList.length := by rw [Array.length_toList]; omega
    rw [List.take_succ_eq_append_getElem hlt, compactUpTo_succ, ← comp_up E d m (by omega)]
    have em : d.toList[m] = d[m]! := by rw [getElem!_pos d m (by simpa using hlt)]; simp
    rw [em]
    by_cases h0 : m = 0
    · subst h0
      have : keeps d 0 = true := by simp [keeps]
      rw [this]; rfl
    · have hl : (d.toList.take m).getLast? = some d[m - 1]! := by
        rw [List.getLast?_eq_getElem?, List.length_take, Nat.min_eq_left (by omega), List.getElem?_take_of_lt (by omega), List.getElem?_eq_getElem (by omega), getElem!_pos d (m - 1) (by simp at hlt; omega)]
        simp
      rw [compL_snoc (fun x y h => (E x y).1 h) _ _ _ hl]
      by_cases he : d[m]! = d[m - 1]!
      · rw [if_pos ((E _ _).2 he.symm), keeps_neg (by omega) he]; simp
      · rw [if_neg (fun h => he ((E _ _).1 h).symm), keeps_pos he]; rfl
theorem comp_all {c : α → α → Int} [DecidableEq α] (E : ∀ x y, c x y = 0 ↔ x = y) (d : Array α) : compL c d.toList = compactUpTo d d.size := by
  have := comp_up E d d.size (Nat.le_refl _)
  rwa [List.take_of_length_le (by simp)] at this
theorem cmpS_eq (x y : St) : cmpS x y = 0 ↔ x = y := ⟨eqSt x y, fun h => by rw [h]; exact tri_S.same y⟩
/-- What the library's sort and then its Compact leave is what the document's way makes. -/
theorem sorted_up {d d' : Array St} (hp : PermIn 0 d.size d d') (hs : SortedIn (ltOf cmpS) 0 d.size d') : compactUpTo d' d'.size = sortL cmpS [] d.toList := by
  rw [← comp_all cmpS_eq]; exact sorted_one hp hs
theorem len9 (x : St) : x.cells.length = 9 := rfl
/-- A row that holds statements reads as those that stand at its head. -/
theorem StRow.of_holds {w : World} {blk : Nat} {d : Array St} (h : HoldsK St.cells 9 w blk 0 d) (R : List St) (hR : R.length ≤ d.size) (he : ∀ j, (hj : j < R.length) → R[j] = d[j]!) : StRow w (some ⟨blk, 0, none⟩) R := fun hp => by
  refine ⟨blk, rfl, ?_, fun j hj => ?_⟩
  · have := (HoldsK.cell h (i := 0) (c := 0) (by omega) (by omega)).1
    unfold World.cell? at this
    rcases Nat.lt_or_ge blk w.heap.size with hb | hb
    · exact hb
    · simp [Array.getElem?_eq_none hb] at this
  · have key : ∀ c u, c < 9 → R[j].cells[c]? = some u → w.cell? ⟨blk, j * 9 + c, none⟩ = some u := fun c u hc hu => by
      have q := (HoldsK.cell h (i := j) (c := c) (by omega) hc).1
      rw [← he j hj, Nat.zero_add] at q
      rw [q, getElem!_pos _ _ (by rw [len9]; exact hc), ← List.getElem?_eq_getElem, hu]
    exact ⟨key 0 _ (by omega) rfl, key 1 _ (by omega) rfl, key 2 _ (by omega) rfl, key 3 _ (by omega) rfl, key 4 _ (by omega) rfl, key 5 _ (by omega) rfl, key 6 _ (by omega) rfl, key 7 _ (by omega) rfl, key 8 _ (by omega) rfl⟩
theorem holds_own {w : World} {B : Nat} {e : TypeId} {v : Value} {L : List St} (h : w.ownsRow B e 9 v L.length (stCells L)) : (L = [] ∧ v = .slice none 0 0) ∨ ∃ g cap, v = .slice (some ⟨g, 0, none⟩) L.length cap ∧ L.length ≤ cap ∧ B ≤ g ∧ g < w.heap.size ∧ HoldsK St.cells 9 w g 0 L.toArray := by
  rcases h.2 with ⟨rfl, h0⟩ | ⟨g, cap, cur, rfl, hB, hh, hc, hm, hs, ht⟩
  · exact .inl ⟨List.eq_nil_of_length_eq_zero h0, rfl⟩
  · refine .inr ⟨g, cap, rfl, hc, hB, (h.lt g rfl).2, fun t ht' => ?_⟩
    rw [size_flatK] at ht'
    have ht2 : t < L.length * 9 := by simpa using ht'
    have q : (stCells L)[t]? = some ((flatK St.cells 9 L.toArray)[t]!) := by
      rw [get_flatK _ _ _ _ ht']
      have hj : t / 9 < L.length := by omega
      have := stCells_at L (t / 9) (t % 9) hj (by omega)
      rw [show t / 9 * 9 + t % 9 = t by omega] at this
      rw [this, getElem!_pos L.toArray (t / 9) (by simpa using hj), List.getElem_toArray, getElem!_pos _ (t % 9) (by rw [len9]; omega), ← List.getElem?_eq_getElem]
    refine ⟨?_, ?_⟩
    · rw [← ht, List.getElem?_take_of_lt (by omega)] at q
      rw [Nat.zero_add, Lib.cell_of_heap hh, ← Array.getElem?_toList]
      exact q
    · simp [World.frozen?, hh]
theorem inv_low {d dk : Array St} {m k : Nat} (h : CompInv d m k dk) (hm : (compactUpTo d m) = compactUpTo d d.size) (hk : k ≤ d.size) : ∀ j, (hj : j < (compactUpTo d d.size).length) → (compactUpTo d d.size)[j] = dk[j]! := fun j hj => by
  have q := h.low j (by rw [← h.len, hm]; exact hj)
  rw [hm, List.getElem?_eq_getElem hj] at q
  exact Option.some.inj q
end Go.Proofs.YtccmlmahjgndbaaDoor.SynD7
/- Rows of rules: their cells, a copy; slices.Compact and slices.SortFunc at rules, by contract. -/
namespace Go.Proofs.YtccmlmahjgndbaaDoor.RuK
set_option linter.unusedVariables false
set_option linter.unusedSimpArgs false
open Go.Shelf Go.RowKit Go.Sort Go.Lib Go.Proofs Go.Proofs.YtccmlmahjgndbaaDoor.Plain Go.Proofs.YtccmlmahjgndbaaDoor.SynP Go.Proofs.YtccmlmahjgndbaaDoor.SynC Go.Proofs.YtccmlmahjgndbaaDoor.SynD Go.Proofs.YtccmlmahjgndbaaDoor.SynD7 Go.Proofs.YtccmlmahjgndbaaDoor.TblC Go.Proofs.YtccmlmahjgndbaaDoor.TblV Go.Proofs.YtccmlmahjgndbaaDoor.TblP Go.Proofs.YtccmlmahjgndbaaDoor.RuO Go.Proofs.YtccmlmahjgndbaaDoor.SemS
set_option linter.unusedVariables false
set_option linter.unusedSimpArgs false
theorem eqG (k h x a b v k2 h2 x2 a2 b2 v2 : Int) (w : World) : (binOp .eql 25 (.agg #[.int .i64 k, .int .i64 h, .int .i64 x, .int .i64 a, .int .i64 b, .int .i64 v]) (.agg #[.int .i64 k2, .int .i64 h2, .int .i64 x2, .int .i64 a2, .int .i64 b2, .int .i64 v2])).run Tryd.prog w = .ok (.bool (decide ((⟨k, h, x, a, b, v⟩ : Ru) = ⟨k2, h2, x2, a2, b2, v2⟩))) w := by
  simp only [go_sem, Ru.mk.injEq]
  go_simp
  by_cases e0 : k = k2
  rotate_left
  · simp [e0]
  subst e0
  by_cases e1 : h = h2
  rotate_left
  · simp [e1]
  subst e1
  by_cases e2 : x = x2
  rotate_left
  · simp [e2]
  subst e2
  by_cases e3 : a = a2
  rotate_left
  · simp [e3]
  subst e3
  by_cases e4 : b = b2
  rotate_left
  · simp [e4]
  subst e4
  by_cases e5 : v = v2
  rotate_left
  · simp [e5]
  subst e5
  simp
theorem infoRu : (Tryd.prog.info? 25).map (fun i => (i.zero, i.size, i.bytes)) = some (some zeroU.val, 6, 48) := by kernel_rfl
theorem ucells_one (L : List Ru) : ∀ u ∈ cellsR L, u.oneCell' = true := by
  intro u hu
  unfold cellsR at hu
  rw [List.mem_flatMap] at hu
  obtain ⟨r, _, hu⟩ := hu
  simp [Ru.cells] at hu
  rcases hu with rfl | rfl | rfl | rfl | rfl | rfl <;> rfl
theorem ug_none {w : World} {l : List Ru} (h : UG w none l) : l = [] := by
  cases l with
  | nil => rfl
  | cons t l => obtain ⟨g, o, e, _⟩ := h (by simp); cases e
theorem ug_cells {w : World} {A : Option Addr} {L : List Ru} (h : UG w A L) : ∀ ad, A = some ad → ∀ j u, (cellsR L)[j]? = some u → w.cell? (ad.add j) = some u := by
  rintro ad rfl j u hu
  have hj : j < L.length * 6 := by
    rw [← cellsR_len]
    rcases Nat.lt_or_ge j (cellsR L).length with h | h
    · exact h
    · rw [List.getElem?_eq_none h] at hu; cases hu
  obtain ⟨g, o, e, hg, hc⟩ := h (by omega)
  injection e with e
  subst e
  have a := hc (j / 6) (by omega) (j % 6) (by omega)
  have q := cellsR_at L (j / 6) (j % 6) (by omega) (by omega)
  rw [show j / 6 * 6 + j % 6 = j by omega] at q
  rw [SynC.add_off, ← hu, q, ← a]
  congr 2
  omega
def CloneUPost (L : List Ru) (w : World) (e : Ending) (w' : World) : Prop := ∃ v, e = .returned v ∧ w'.ownsRow w.heap.size 25 6 v L.length (cellsR L) ∧ RowKit.Below w.heap.size w w'
set_option maxRecDepth 100000 in
theorem cloneU (A : Option Addr) (ca : Nat) (L : List Ru) (w : World) (hL : L.length ≤ 10000) (hA : UG w A L) : Calls Tryd.prog 37 #[.slice A L.length ca] w (CloneUPost L w) := by
  obtain ⟨i0, hi, hz0, hz1, hz2⟩ := info_parts infoRu
  cases A with
  | none =>
    obtain rfl := ug_none hA
    have es := fun (w : World) (a : Option Addr) (n c : Nat) => Lib.run_eql_slice_nil (P := Tryd.prog) w 23 25 a n c 0 0 Tryd.underlying23
    go_enter Tryd.func37, Tryd.ntmps37
    go_wp2_with fail
    go_ret
    exact ⟨_, rfl, World.ownsRow_nil _ _ _ _, Below.refl _ _⟩
  | some ad =>
    have Hc := Lib.hid (fun ad' e => ug_cells (UG.below hA ((Below.refl _ w).alloc (Nat.le_refl _) (.cells #[] 25))) ad' e)
    clear hA
    have es := fun (w : World) (a : Option Addr) (n c : Nat) => Lib.run_eql_slice_nil (P := Tryd.prog) w 23 25 a n c 0 0 Tryd.underlying23
    go_enter Tryd.func37, Tryd.ntmps37
    go_wp2_with (at_builtin; refine wpList_append_from _ rfl _ _ 23 rfl w.heap.size 25 i0 zeroU.val 6 48 Tryd.underlying23 hi hz0 hz1 hz2 rfl (by decide) _ _ _ rfl (own_empty w _ 6) (some ad) L.length ca (cellsR L) rfl (cellsR_len L) (fun h => by cases h) Hc.out (ucells_one L) (by unfold maxLen; omega) (by omega) (by simp) ?_)
    intro v' w1 hown hgrow
    have hb : Below w.heap.size w w1 := ((Below.refl _ _).alloc (Nat.le_refl _) _).grown hgrow (by simp) (fun k hk => by simp [Value.ownBlock] at hk; omega)
    go_wp2_with fail
    go_ret
    exact ⟨_, rfl, by simpa using hown, hb⟩
/-- A slice value whose row begins its block and reads as rules. -/
def UAt (w : World) (A : Option Addr) (L : List Ru) : Prop :=
  0 < L.length → ∃ g, A = some ⟨g, 0, none⟩ ∧ g < w.heap.size ∧ ∀ j, (h : j < L.length) → ∀ k, k < 6 → w.cell? ⟨g, j * 6 + k, none⟩ = (L[j].cells)[k]?
theorem UAt.ug {w : World} {A : Option Addr} {L : List Ru} (h : UAt w A L) : UG w A L := fun hp => by
  obtain ⟨g, hA, hg, hc⟩ := h hp
  exact ⟨g, 0, hA, hg, fun j hj k hk => by rw [Nat.zero_add]; exact hc j hj k hk⟩
theorem cl_cells (u : Ru) (k : Nat) : (Ru.cl u)[k]? = (u.cells)[k]? := by simp [Ru.cl, Ru.cells]
theorem uholds_own {w : World} {B : Nat} {e : TypeId} {v : Value} {L : List Ru} (h : w.ownsRow B e 6 v L.length (cellsR L)) : (L = [] ∧ v = .slice none 0 0) ∨ ∃ g cap, v = .slice (some ⟨g, 0, none⟩) L.length cap ∧ L.length ≤ cap ∧ B ≤ g ∧ g < w.heap.size ∧ HoldsK Ru.cl 6 w g 0 L.toArray := by
  rcases h.2 with ⟨rfl, h0⟩ | ⟨g, cap, cur, rfl, hB, hh, hc, hm, hs, ht⟩
  · exact .inl ⟨List.eq_nil_of_length_eq_zero h0, rfl⟩
  · refine .inr ⟨g, cap, rfl, hc, hB, (h.lt g rfl).2, fun t ht' => ?_⟩
    rw [size_flatK] at ht'
    have ht2 : t < L.length * 6 := by simpa using ht'
    have q : (cellsR L)[t]? = some ((flatK Ru.cl 6 L.toArray)[t]!) := by
      rw [get_flatK _ _ _ _ ht']
      have hj : t / 6 < L.length := by omega
      have := cellsR_at L (t / 6) (t % 6) hj (by omega)
      rw [show t / 6 * 6 + t % 6 = t by omega] at this
      rw [this, getElem!_pos L.toArray (t / 6) (by simpa using hj), List.getElem_toArray, getElem!_pos _ (t % 6) (by rw [len6]; omega), ← List.getElem?_eq_getElem, cl_cells]
    refine ⟨?_, ?_⟩
    · rw [← ht, List.getElem?_take_of_lt (by omega)] at q
      rw [Nat.zero_add, Lib.cell_of_heap hh, ← Array.getElem?_toList]
      exact q
    · simp [World.frozen?, hh]
theorem UAt.of_holds {w : World} {blk : Nat} {d : Array Ru} (h : HoldsK Ru.cl 6 w blk 0 d) (R : List Ru) (hR : R.length ≤ d.size) (he : ∀ j, (hj : j < R.length) → R[j] = d[j]!) : UAt w (some ⟨blk, 0, none⟩) R := fun hp => by
  refine ⟨blk, rfl, ?_, fun j hj k hk => ?_⟩
  · have := (HoldsK.cell h (i := 0) (c := 0) (by omega) (by omega)).1
    unfold World.cell? at this
    rcases Nat.lt_or_ge blk w.heap.size with hb | hb
    · exact hb
    · simp [Array.getElem?_eq_none hb] at this
  · have q := (HoldsK.cell h (i := j) (c := k) (by omega) hk).1
    rw [← he j hj, Nat.zero_add] at q
    rw [q, getElem!_pos _ _ (by rw [len6]; exact hk), ← List.getElem?_eq_getElem, cl_cells]
/-- Below the row all stays, and the row keeps its type. -/
structure BK (g : Nat) (w w' : World) : Prop where
  b : Below g w w'
  t : ∀ (cur : Array Value) (t : TypeId), w.heap[g]? = some (.cells cur t (0, 0)) → ∃ cur', w'.heap[g]? = some (.cells cur' t (0, 0))
theorem BK.refl (g : Nat) (w : World) : BK g w w := ⟨Below.refl _ _, fun cur t h => ⟨cur, h⟩⟩
theorem BK.trans {g : Nat} {w w1 w2 : World} (h : BK g w w1) (k : BK g w1 w2) : BK g w w2 := ⟨h.b.trans k.b, fun cur t e => by
  obtain ⟨c1, e1⟩ := h.t cur t e
  exact k.t c1 t e1⟩
theorem BK.drewN {g : Nat} {w w1 : World} (h : BK g w w1) (q : Nat) : BK g w (w1.drewN q) := ⟨below_drewN h.b q, h.t⟩
theorem BK.below {g : Nat} {w w1 w2 : World} (h : BK g w w1) (hg : g < w1.heap.size) (hb : Below w1.heap.size w1 w2) : BK g w w2 := ⟨h.b.trans (hb.mono (Nat.le_of_lt hg)), fun cur t e => by
  obtain ⟨c1, e1⟩ := h.t cur t e
  exact ⟨c1, (hb.block g hg).trans e1⟩⟩
theorem set_type (g : Nat) (t : TypeId) : ∀ (vs : List Value) (o : Nat) (w : World) (cur : Array Value), w.heap[g]? = some (.cells cur t (0, 0)) → ∃ cur', (w.setCells g o vs).heap[g]? = some (.cells cur' t (0, 0))
  | [], o, w, cur, h => ⟨cur, h⟩
  | v :: r, o, w, cur, h => set_type g t r (o + 1) (w.setCell ⟨g, o, none⟩ v) _ (heap_setCell_same _ _ _ _ _ _ h)
theorem BK.setCells {g : Nat} {w w1 : World} (h : BK g w w1) (o : Nat) (vs : List Value) : BK g w (w1.setCells g o vs) := ⟨below_setCells (Nat.le_refl _) _ _ _ h.b, fun cur t e => by
  obtain ⟨c1, e1⟩ := h.t cur t e
  exact set_type g t vs o w1 c1 e1⟩
theorem inv_lowU {d dk : Array Ru} {m k : Nat} (h : CompInv d m k dk) (hm : (compactUpTo d m) = compactUpTo d d.size) (hk : k ≤ d.size) : ∀ j, (hj : j < (compactUpTo d d.size).length) → (compactUpTo d d.size)[j] = dk[j]! := fun j hj => by
  have q := h.low j (by rw [← h.len, hm]; exact hj)
  rw [hm, List.getElem?_eq_getElem hj] at q
  exact Option.some.inj q
def CompPost (g cap : Nat) (d : Array Ru) (w : World) (e : Ending) (w' : World) : Prop :=
  e = .returned (.slice (some ⟨g, 0, none⟩) (compactUpTo d d.size).length cap) ∧ UAt w' (some ⟨g, 0, none⟩) (compactUpTo d d.size) ∧ BK g w w' ∧ w.heap.size ≤ w'.heap.size
theorem holds_drewN {w : World} {g : Nat} {d : Array Ru} (h : HoldsK Ru.cl 6 w g 0 d) (n : Nat) : HoldsK Ru.cl 6 (w.drewN n) g 0 d := holdsK_ahead Ru.cl 6 w n g 0 d h
theorem all_post {g cap : Nat} {d : Array Ru} {w : World} (hH : HoldsK Ru.cl 6 w g 0 d) (hall : ∀ j, j < d.size → keeps d j = true) (n : Nat) : CompPost g cap d w (.returned (.slice (some ⟨g, 0, none⟩) d.size cap)) (w.drewN n) := by
  have e : compactUpTo d d.size = d.toList := by rw [compactUpTo_all d _ hall, range_map_get]
  refine ⟨?_, ?_, ?_, Nat.le_refl _⟩
  · rw [e, Array.length_toList]
  · rw [e]
    refine UAt.of_holds (holds_drewN hH n) _ (by simp) fun j hj => ?_
    rw [getElem!_pos d j (by simpa using hj)]; simp
  · exact (BK.refl _ _).drewN _
/-- The nine cells of a row's element. -/
theorem two {w : World} {g : Nat} {d : Array Ru} (h : HoldsK Ru.cl 6 w g 0 d) (j : Nat) (hj : j < d.size) : ∀ c u, (Ru.cl d[j]!)[c]? = some u → w.cell? ⟨g, j * 6 + c, none⟩ = some u := fun c u hu => by
  have hc : c < 6 := by
    rcases Nat.lt_or_ge c 6 with h | h
    · exact h
    · rw [List.getElem?_eq_none (by show 6 ≤ c; exact h)] at hu; cases hu
  have q := (HoldsK.cell h (i := j) (c := c) hj hc).1
  rw [Nat.zero_add] at q
  rw [q, getElem!_pos _ _ (by rw [len6]; exact hc), ← List.getElem?_eq_getElem, hu]
theorem there_of {w : World} {g : Nat} {d : Array Ru} (h : HoldsK Ru.cl 6 w g 0 d) (i : Nat) (hi : i < d.size) : w.there g (i * 6) 6 := fun c hc => by
  have q := HoldsK.cell h (i := i) (c := c) hi hc
  rw [Nat.zero_add] at q
  exact ⟨by rw [q.1]; rfl, q.2⟩
theorem there_all {w : World} {g : Nat} {d : Array Ru} (h : HoldsK Ru.cl 6 w g 0 d) (i : Nat) (hi : i < d.size) : w.there g (i * 6) ((d.size - i) * 6) := fun c hc => by
  have q := HoldsK.cell h (i := i + c / 6) (c := c % 6) (by omega) (by omega)
  rw [Nat.zero_add, show (i + c / 6) * 6 + c % 6 = i * 6 + c by omega] at q
  exact ⟨by rw [q.1]; rfl, q.2⟩
theorem infoSz : (Tryd.prog.info? 25).map (·.size) = some 6 := by kernel_rfl
theorem stcell_one (x : Ru) : ∀ v ∈ (Ru.cl x), v.oneCell' = true := fun v hv => by
  simp [Ru.cl] at hv
  rcases hv with rfl | rfl | rfl | rfl | rfl | rfl <;> rfl
theorem store0 {W : World} {g : Nat} {d : Array Ru} (h : HoldsK Ru.cl 6 W g 0 d) (i : Nat) (hi : i < d.size) (x : Ru) : HoldsK Ru.cl 6 (W.setCells g (i * 6) (Ru.cl x)) g 0 (d.setIfInBounds i x) := by
  have := holdsK_store len6 (by omega) h i hi x
  rw [Nat.zero_add] at this
  exact this
def clr (n : Nat) : List Value := (Builtin.zeroCells zeroU.val.cells n).toList
theorem clr_len (n : Nat) : (clr n).length = n * 6 := by
  unfold clr Builtin.zeroCells
  simp; rfl
theorem clr_one (n : Nat) : ∀ v ∈ clr n, v.oneCell' = true := by
  intro v hv
  unfold clr Builtin.zeroCells at hv
  simp at hv
  obtain ⟨i, hi, rfl⟩ := hv
  have h9 : zeroU.val.cells.size = 6 := rfl
  have hlt : i % zeroU.val.cells.size < 6 := by rw [h9]; omega
  generalize i % zeroU.val.cells.size = r at hlt
  match r, hlt with
  | 0, _ => rfl
  | 1, _ => rfl
  | 2, _ => rfl
  | 3, _ => rfl
  | 4, _ => rfl
  | 5, _ => rfl
theorem run_clear2 (w : World) (b o n c : Nat) (hn : 0 < n) (ht : w.there b o (n * 6)) (ty : TypeId) : (Builtin.clear_ #[23] ty #[.slice (some ⟨b, o, none⟩) n c]).run Tryd.prog w = .ok (.tuple #[]) (w.setCells b o (clr n)) := by
  have hst := run_storeCells_cells (P := Tryd.prog) b o (clr n) 0 w (fun j hj => by rw [clr_len] at hj; simpa using (ht j hj).1) (fun j hj => by rw [clr_len] at hj; simpa using (ht j hj).2) (clr_one n)
  simp only [Nat.add_zero] at hst
  obtain ⟨m, rfl⟩ : ∃ m, n = m + 1 := ⟨n - 1, by omega⟩
  have hv : (zeroValue 25).run Tryd.prog w = .ok zeroU.val w := Tryd.zeroValue25 w
  have hc : (Builtin.zeroCells zeroU.val.cells (m + 1)).toList = clr (m + 1) := rfl
  simp [Builtin.clear_, run_underlying Tryd.underlying23, hv, hc, hst]
theorem wp_clear_run {P : Program} (w : World) {o : Oper} {a : Act} {K : Act → World → Prop} {Q : Exit → Act → World → Prop} (s : Operand) (t : TypeId)
    (ho : o.op = .call { callee := .builtin .clear, args := #[s], argTypes := #[t] }) (vs : Value) (hs : a.eval s = vs)
    (v' : Value) (w' : World) (hr : (Builtin.clear_ #[t] o.type #[vs]).run P w = .ok v' w') (h : K (a.put o.dst v') w') : o.wp P a w K Q := by
  unfold Oper.wp execOp
  simp only [ho, resolve, invoke, builtin, Sem.run_bind, Sem.run_pure, Result.andThen_ok, List.map_toArray, List.map_cons, List.map_nil, hs, hr]
  exact h
theorem wpList_clear_run {P : Program} (w : World) {ops : Array Oper} {rest : List Oper} {o : Oper} {a : Act} {Q : Exit → Act → World → Prop} (hgd : o.guard = none) (s : Operand) (t : TypeId)
    (ho : o.op = .call { callee := .builtin .clear, args := #[s], argTypes := #[t] }) (vs : Value) (hs : a.eval s = vs)
    (v' : Value) (w' : World) (hr : (Builtin.clear_ #[t] o.type #[vs]).run P w = .ok v' w') (h : wpList P ops Q rest (a.put o.dst v') w') : wpList P ops Q (o :: rest) a w :=
  wpList_plain hgd fun _ hK => wp_clear_run w s t ho vs hs v' w' hr (hK _ _ h)
theorem UAt.set_out {w : World} {g o : Nat} {R : List Ru} (h : UAt w (some ⟨g, 0, none⟩) R) (ho : R.length * 6 ≤ o) (vs : List Value) : UAt (w.setCells g o vs) (some ⟨g, 0, none⟩) R := fun hp => by
  obtain ⟨g', hA, hg, hc⟩ := h hp
  injection hA with hA
  injection hA with hA
  subst hA
  refine ⟨g, rfl, by rw [size_setCells]; exact hg, fun j hj k hk => ?_⟩
  have key : ∀ i, i < R.length * 6 → (w.setCells g o vs).cell? ⟨g, i, none⟩ = w.cell? ⟨g, i, none⟩ := fun i hi => World.cell?_setCells_out g vs o w ⟨g, i, none⟩ (fun _ _ => Or.inl (by show i < o; omega))
  rw [key _ (by omega)]
  exact hc j hj k hk
theorem clear_post {g cap kk : Nat} {d dk : Array Ru} {w wr : World} (hH : HoldsK Ru.cl 6 wr g 0 dk) (hb : BK g w wr) (hs : w.heap.size ≤ wr.heap.size) (hI : CompInv d d.size kk dk) : CompPost g cap d w (.returned (.slice (some ⟨g, 0, none⟩) kk cap)) (wr.setCells g (kk * 6) (clr (dk.size - kk))) := by
  have hk := hI.lt
  have hz := hI.size
  refine ⟨by rw [hI.len], ?_, hb.setCells _ _, by rw [size_setCells]; exact hs⟩
  refine UAt.set_out (UAt.of_holds hH _ (by rw [hI.len]; omega) (inv_lowU hI rfl (by omega))) (by rw [hI.len]; exact Nat.le_refl _) _
set_option maxHeartbeats 4000000 in
set_option maxRecDepth 1000000 in
theorem compU (g cap : Nat) (d : Array Ru) (w : World) (hH : HoldsK Ru.cl 6 w g 0 d) (hg : g < w.heap.size) (hsz : d.size ≤ 100000) (hcap : d.size ≤ cap) :
    Calls Tryd.prog 41 #[.slice (some ⟨g, 0, none⟩) d.size cap] w (CompPost g cap d w) := by
  have HH := Lib.hid hH
  clear hH
  by_cases h2 : d.size < 2
  · have HS := Lib.hid (fun n => all_post (cap := cap) HH.out (fun j hj => keeps_lt_one d j (by omega)) n)
    go_enter Tryd.func41, Tryd.ntmps41
    go_wp2_with fail
    go_ret
    exact HS.out 0
  · go_enter Tryd.func41, Tryd.ntmps41
    go_wp2_with fail
    go_loopg [3] d.size (fun gh s3 wr => ∃ k q : Nat, 1 ≤ k ∧ k ≤ d.size ∧ d.size - k ≤ gh ∧ s3 = .int .i64 k ∧ wr = w.drewN q ∧ Hid (∀ j, j < k → keeps d j = true))
    case atStart => exact ⟨1, 0, Nat.le_refl _, by omega, by omega, rfl, rfl, Lib.hid (keeps_lt_one d)⟩
    case round =>
      obtain ⟨k, q, hk1, hk, hgh, rfl, rfl, hall⟩ := hrel
      by_cases hlt : k < d.size
      · have c1 := two HH.out k hlt
        have c0 := two HH.out (k - 1) (by omega)
        generalize hx : d[k]! = x at c1
        generalize hy : d[k - 1]! = y at c0
        have B := Lib.hid (And.intro hx hy)
        clear hx hy
        obtain ⟨uk, uh, uw, ua, ub, uv⟩ := x
        obtain ⟨uk2, uh2, uw2, ua2, ub2, uv2⟩ := y
        have a0 := c1 0 _ rfl
        have a1 := c1 1 _ rfl
        have a2 := c1 2 _ rfl
        have a3 := c1 3 _ rfl
        have a4 := c1 4 _ rfl
        have a5 := c1 5 _ rfl
        have b0 := c0 0 _ rfl
        have b1 := c0 1 _ rfl
        have b2 := c0 2 _ rfl
        have b3 := c0 3 _ rfl
        have b4 := c0 4 _ rfl
        have b5 := c0 5 _ rfl
        rw [Nat.add_zero] at a0 b0
        have p1 : (0 : Int) ≤ k := by omega
        have p2 : (k : Int) < d.size := by omega
        have p3 : (0 : Int) ≤ (k : Int) - 1 := by omega
        have p4 : (k : Int) - 1 < d.size := by omega
        have p5 : ((k : Int) - 1).toNat = k - 1 := by omega
        clear c0 c1
        by_cases hdup : (⟨uk, uh, uw, ua, ub, uv⟩ : Ru) = ⟨uk2, uh2, uw2, ua2, ub2, uv2⟩
        · have hq := fun w => RuK.eqG uk uh uw ua ub uv uk2 uh2 uw2 ua2 ub2 uv2 w
          rw [decide_eq_true (p := (⟨uk, uh, uw, ua, ub, uv⟩ : Ru) = ⟨uk2, uh2, uw2, ua2, ub2, uv2⟩) hdup] at hq
          have HD := Lib.hid hdup
          clear hdup
          go_wp2_with fail
          go_quiet (fail)
          go_wp2_with fail
          clear a0 a1 a2 a3 a4 a5 b0 b1 b2 b3 b4 b5 hq p3 p4 p5
          have hst := Lib.hid (CompInv.start hall.out (keeps_neg (by omega) (by rw [B.out.1, B.out.2]; exact HD.out)))
          clear HD B
          go_loopg [3, 5] d.size (fun gh2 s3 s5 wr => ∃ (kk kq : Nat) (dk : Array Ru), s3 = .int .i64 kk ∧ s5 = .int .i64 kq ∧ 1 ≤ kq ∧ k + kq ≤ d.size ∧ d.size - (k + kq) ≤ gh2 ∧ Hid (HoldsK Ru.cl 6 wr g 0 dk) ∧ BK g w wr ∧ w.heap.size ≤ wr.heap.size ∧ Hid (CompInv d (k + kq) kk dk))
          case atStart => exact ⟨k, 1, d, rfl, rfl, Nat.le_refl _, by omega, by omega, Lib.hid (holds_drewN HH.out _), (BK.refl _ _).drewN _, Nat.le_refl _, hst⟩
          case round =>
            obtain ⟨kk, kq, dk, rfl, rfl, h1, hle, hg2, hHk, hbel, hszr, hI⟩ := hrel
            have hkk := hI.out.lt
            have hds := hI.out.size
            by_cases hlt2 : k + kq < d.size
            · have c1 := two hHk.out (k + kq) (by omega)
              have c0 := two hHk.out (k + kq - 1) (by omega)
              rw [hI.out.high (k + kq) (by omega)] at c1
              rw [hI.out.high (k + kq - 1) (by omega)] at c0
              generalize hx : d[k + kq]! = x at c1
              generalize hy : d[k + kq - 1]! = y at c0
              have C := Lib.hid (And.intro hx hy)
              clear hx hy
              have hth := Lib.hid (fun n => there_of (holds_drewN hHk.out n) kk (by omega))
              obtain ⟨uk, uh, uw, ua, ub, uv⟩ := x
              obtain ⟨uk2, uh2, uw2, ua2, ub2, uv2⟩ := y
              have a0 := c1 0 _ rfl
              have a1 := c1 1 _ rfl
              have a2 := c1 2 _ rfl
              have a3 := c1 3 _ rfl
              have a4 := c1 4 _ rfl
              have a5 := c1 5 _ rfl
              have b0 := c0 0 _ rfl
              have b1 := c0 1 _ rfl
              have b2 := c0 2 _ rfl
              have b3 := c0 3 _ rfl
              have b4 := c0 4 _ rfl
              have b5 := c0 5 _ rfl
              rw [Nat.add_zero] at a0 b0
              rw [show (k + kq) * 6 = k * 6 + kq * 6 by omega] at a0 a1 a2 a3 a4 a5
              rw [show (k + kq - 1) * 6 = k * 6 + (kq - 1) * 6 by omega] at b0 b1 b2 b3 b4 b5
              have q1 : (0 : Int) ≤ kq := by omega
              have q2 : (kq : Int) < (d.size - k : Nat) := by omega
              have q3 : (0 : Int) ≤ (kq : Int) - 1 := by omega
              have q4 : (kq : Int) - 1 < (d.size - k : Nat) := by omega
              have q5 : ((kq : Int) - 1).toNat = kq - 1 := by omega
              have q6 : (0 : Int) ≤ kk := by omega
              have q7 : (kk : Int) < d.size := by omega
              clear c0 c1
              by_cases hdup : (⟨uk, uh, uw, ua, ub, uv⟩ : Ru) = ⟨uk2, uh2, uw2, ua2, ub2, uv2⟩
              · have hq := fun w => TblP.neG uk uh uw ua ub uv uk2 uh2 uw2 ua2 ub2 uv2 w
                rw [decide_eq_true (p := (⟨uk, uh, uw, ua, ub, uv⟩ : Ru) = ⟨uk2, uh2, uw2, ua2, ub2, uv2⟩) hdup] at hq
                have HD := Lib.hid hdup
                clear hdup
                go_wp2_with fail
                go_quiet (fail)
                go_wp2_with fail
                go_roundg (d.size - (k + (kq + 1)))
                case measure => omega
                case rel => exact ⟨kk, kq + 1, dk, rfl, by go_num, by omega, by omega, Nat.le_refl _, Lib.hid (holds_drewN hHk.out _), BK.drewN hbel _, hszr, Lib.hid (hI.out.skip (keeps_neg (by omega) (by rw [C.out.1, C.out.2]; exact HD.out)))⟩
              · have hq := fun w => TblP.neG uk uh uw ua ub uv uk2 uh2 uw2 ua2 ub2 uv2 w
                rw [decide_eq_false (p := (⟨uk, uh, uw, ua, ub, uv⟩ : Ru) = ⟨uk2, uh2, uw2, ua2, ub2, uv2⟩) hdup] at hq
                have HD := Lib.hid hdup
                clear hdup
                go_wp2_with fail
                go_quiet (fail)
                go_wp2_with ((with_reducible refine wpList_store_mid (op := ⟨none, .store 25 (.tmp 51) (.tmp 50), _, _, _, none⟩) ?_ 25 (.tmp 51) (.tmp 50) ?_ g (kk * 6) (Ru.cl ⟨uk, uh, uw, ua, ub, uv⟩).toArray ?_ ?_ ?_ ?_ ?_ ?_); (rfl); (rfl); (simp [Act.eval]); (simp [Act.eval, Ru.cl]); (exact hth.out _); (exact infoSz); (exact all_oneCell_toArray (stcell_one _)))
                go_roundg (d.size - (k + (kq + 1)))
                case measure => omega
                case rel =>
                  refine ⟨kk + 1, kq + 1, dk.setIfInBounds kk ⟨uk, uh, uw, ua, ub, uv⟩, by go_num, by go_num, by omega, by omega, Nat.le_refl _, Lib.hid ?_, (BK.drewN hbel _).setCells _ _, by rw [size_setCells]; exact hszr, Lib.hid ?_⟩
                  · exact store0 (holds_drewN hHk.out _) kk (by omega) _
                  · have := hI.out.keep hlt2 (keeps_pos (by rw [C.out.1, C.out.2]; exact HD.out))
                    rw [C.out.1] at this
                    exact this
            · have hend : k + kq = d.size := by omega
              have hfin := Lib.hid (clear_post (cap := cap) hHk.out hbel hszr (hend ▸ hI.out))
              have hth := Lib.hid (there_all hHk.out kk (by omega))
              have hlen := Lib.hid ((hend ▸ hI.out : CompInv d d.size kk dk).len)
              rw [hds] at hth
              clear hHk hI hend
              go_wp2_with ((with_reducible refine wpList_clear_run (o := ⟨none, .call { callee := .builtin .clear, args := #[.tmp 56], argTypes := #[23] }, _, _, _, none⟩) _ ?_ (.tmp 56) 23 ?_ (.slice (some ⟨g, kk * 6, none⟩) (d.size - kk) (cap - kk)) ?_ (.tuple #[]) (wr.setCells g (kk * 6) (clr (d.size - kk))) ?_ ?_); (rfl); (rfl); (simp [Act.eval]); (exact run_clear2 _ g (kk * 6) (d.size - kk) (cap - kk) (by omega) hth.out _))
              go_ret
              rw [hds] at hfin
              exact hfin.out
        · have hq := fun w => RuK.eqG uk uh uw ua ub uv uk2 uh2 uw2 ua2 ub2 uv2 w
          rw [decide_eq_false (p := (⟨uk, uh, uw, ua, ub, uv⟩ : Ru) = ⟨uk2, uh2, uw2, ua2, ub2, uv2⟩) hdup] at hq
          have HD := Lib.hid hdup
          clear hdup
          go_wp2_with fail
          go_quiet (fail)
          go_wp2_with fail
          go_roundg (d.size - (k + 1))
          case measure => omega
          case rel =>
            refine ⟨k + 1, _, by omega, by omega, Nat.le_refl _, by go_num, rfl, Lib.hid fun j hj => ?_⟩
            by_cases e : j = k
            · subst e
              exact keeps_pos (by rw [B.out.1, B.out.2]; exact HD.out)
            · exact hall.out j (by omega)
      · have : k = d.size := by omega
        subst this
        have HS := Lib.hid (fun n => all_post (cap := cap) HH.out hall.out n)
        clear hall
        go_wp2_with fail
        go_ret
        exact HS.out _
theorem sortU (blk off cap : Nat) (d : Array Ru) (w : World) (hH : HoldsK Ru.cl 6 w blk off d) (hblk : blk < w.heap.size) (hsz : d.size < 4611686018427387904) :
    Calls Tryd.prog 39 #[.slice (some ⟨blk, off, none⟩) d.size cap, .func (.func 40) #[] #[]] w fun e w' =>
      e = .returned (.tuple #[]) ∧ ∃ d' n os, PermIn 0 d.size d d' ∧ SortedIn (ltOf cmpU) 0 d.size d' ∧ w' = sortWorldK Ru.cl 6 w blk off n d' os :=
  AnyQ.slices_SortFunc laidSort 6 Tryd.isAgg25 Tryd.sizeOf25 Ru.cl (fun _ => rfl) (fun x v hv => stcell_one x v hv) cmpU swo_U 40 #[] blk off cap d w (enters_of Tryd.func40 (by kernel_rfl) rfl) (cmpLaysU blk off d.size w) hH hblk hsz
set_option maxHeartbeats 1000000 in
theorem compNone (a : Option Addr) (cap : Nat) (w : World) : Calls Tryd.prog 41 #[.slice a 0 cap] w fun e w' => e = .returned (.slice a 0 cap) ∧ w' = w := by
  go_enter Tryd.func41, Tryd.ntmps41
  go_wp2_with fail
  go_ret
  exact ⟨rfl, rfl⟩
theorem below_sortK {w : World} {g off n : Nat} {d : Array Ru} {os : Array Obj} (hg : g < w.heap.size) : Below g w (sortWorldK Ru.cl 6 w g off n d os) :=
  ⟨rfl, rfl, rfl, size_sortWorldK_c Ru.cl 6 w g off n d os, fun k hk => by
    unfold sortWorldK
    rw [heap_grow_old _ _ (by rw [size_putRowK]; exact Nat.lt_trans hk hg)]
    unfold putRowK putRow mapBlock
    show (Array.modify (Sort.ahead w n).heap g _)[k]? = _
    rw [Array.getElem?_modify, if_neg (by omega)]; rfl⟩
theorem bk_sort {w : World} {g off n : Nat} {d : Array Ru} {os : Array Obj} (hg : g < w.heap.size) : BK g w (sortWorldK Ru.cl 6 w g off n d os) := ⟨below_sortK hg, fun cur t e => by
  have : (sortWorldK Ru.cl 6 w g off n d os).heap[g]? = (putRowK Ru.cl 6 (Sort.ahead w n) g off d).heap[g]? := by
    unfold sortWorldK
    rw [heap_grow_old _ _ (by rw [size_putRowK]; exact hg)]
  rw [this]
  unfold putRowK putRow mapBlock
  show ∃ cur', (Array.modify (Sort.ahead w n).heap g _)[g]? = _
  have e2 : (Sort.ahead w n).heap[g]? = some (.cells cur t (0, 0)) := e
  rw [Array.getElem?_modify, if_pos rfl, e2]
  exact ⟨_, rfl⟩⟩
end Go.Proofs.YtccmlmahjgndbaaDoor.RuK
/- slices.DeleteFunc at rules, by contract: what may be is left. -/
namespace Go.Proofs.YtccmlmahjgndbaaDoor.RuD
set_option linter.unusedVariables false
set_option linter.unusedSimpArgs false
open Go.Shelf Go.RowKit Go.Sort Go.Lib Go.Proofs Go.Proofs.YtccmlmahjgndbaaDoor.Plain Go.Proofs.YtccmlmahjgndbaaDoor.SynP Go.Proofs.YtccmlmahjgndbaaDoor.SynC Go.Proofs.YtccmlmahjgndbaaDoor.SynD Go.Proofs.YtccmlmahjgndbaaDoor.SynD7 Go.Proofs.YtccmlmahjgndbaaDoor.TblC Go.Proofs.YtccmlmahjgndbaaDoor.TblV Go.Proofs.YtccmlmahjgndbaaDoor.TblP Go.Proofs.YtccmlmahjgndbaaDoor.TblQ Go.Proofs.YtccmlmahjgndbaaDoor.RuO Go.Proofs.YtccmlmahjgndbaaDoor.RuK
set_option linter.unusedVariables false
set_option linter.unusedSimpArgs false
theorem bx {W w1 w2 : World} (h : Below W.heap.size W w1) (hb : Below w1.heap.size w1 w2) : Below W.heap.size W w2 := h.trans (hb.mono h.size)
set_option maxRecDepth 100000 in
theorem fnT (n1 n2 : Nat) (g1 : n1 ≤ 1000) (g2 : n2 ≤ 1000) (u : Ru) (b1 b2 : Nat) (w : World) (h1 : w.cell? ⟨b1, 0, none⟩ = some (.int .i64 n1)) (h2 : w.cell? ⟨b2, 0, none⟩ = some (.int .i64 n2)) :
    Calls Tryd.prog 38 #[u.val, .pointer (some ⟨b1, 0, none⟩), .pointer (some ⟨b2, 0, none⟩)] w fun e w' => e = .returned (.bool (!rightU n1 n2 u)) ∧ Below w.heap.size w w' := by
  have HR := Lib.hid (fun w' => right_ n1 n2 u w' g1 g2)
  generalize rightU n1 n2 u = r at *
  have l1 := World.block_lt_of_cell? _ _ h1
  have l2 := World.block_lt_of_cell? _ _ h2
  simp only at l1 l2
  obtain ⟨k, h, x, a, b, v⟩ := u
  unfold Ru.val at *
  simp only at HR
  have hb := (Below.refl w.heap.size w).alloc (Nat.le_refl _) (.cells #[.int .i64 k, .int .i64 h, .int .i64 x, .int .i64 a, .int .i64 b, .int .i64 v] 25)
  have c1 := (hb.cell (p := ⟨b1, 0, none⟩) l1).trans h1
  have c2 := (hb.cell (p := ⟨b2, 0, none⟩) l2).trans h2
  have c3 := fun o => Lib.cell_of_heap (heap_alloc_new w (.cells #[.int .i64 k, .int .i64 h, .int .i64 x, .int .i64 a, .int .i64 b, .int .i64 v] 25)) o
  have HB := Lib.hid hb
  clear hb l1 l2
  go_enter Tryd.func38, Tryd.ntmps38
  go_wp2_with fail
  refine (HR.out _).mono ?_
  rintro e w1 ⟨rfl, hb1⟩
  have HB1 := Lib.hid (bx HB.out hb1)
  clear hb1 c1 c2 c3
  go_wp2_with fail
  go_ret
  exact ⟨rfl, HB1.out⟩
theorem holds_below {w w' : World} {g : Nat} {d : Array Ru} (h : HoldsK Ru.cl 6 w g 0 d) (hg : w'.heap[g]? = w.heap[g]?) : HoldsK Ru.cl 6 w' g 0 d := fun t ht => by
  obtain ⟨a, b⟩ := h t ht
  exact ⟨(World.cell?_of_block (a := ⟨g, 0 + t, none⟩) hg).trans a, (World.frozen?_of_block (a := ⟨g, 0 + t, none⟩) hg).trans b⟩
theorem holds_take {w : World} {g k : Nat} {d : Array Ru} (h : HoldsK Ru.cl 6 w g 0 d) (hk : k ≤ d.size) : HoldsK Ru.cl 6 w g 0 (d.toList.take k).toArray := fun t ht => by
  have hs : (d.toList.take k).toArray.size = k := by simp; omega
  rw [size_flatK, hs] at ht
  have e : (flatK Ru.cl 6 (d.toList.take k).toArray)[t]! = (flatK Ru.cl 6 d)[t]! := by
    rw [get_flatK _ _ _ _ (by rw [hs]; exact ht), get_flatK _ _ _ _ (by omega)]
    congr 2
    rw [getElem!_pos _ _ (by rw [hs]; omega), getElem!_pos _ _ (by omega)]
    simp
  rw [e]
  exact h t (by rw [size_flatK]; omega)
theorem holds_out {w : World} {g o : Nat} {d : Array Ru} (h : HoldsK Ru.cl 6 w g 0 d) (ho : d.size * 6 ≤ o) (vs : List Value) : HoldsK Ru.cl 6 (w.setCells g o vs) g 0 d := fun t ht => by
  obtain ⟨a, b⟩ := h t ht
  rw [size_flatK] at ht
  refine ⟨(World.cell?_setCells_out g vs o w ⟨g, 0 + t, none⟩ (fun _ _ => Or.inl (by show 0 + t < o; omega))).trans a, ?_⟩
  rw [World.frozen?_setCells]
  exact b
/-- What DeleteFunc's loop keeps: of the first m those that may be, at the row's front. -/
structure DelInv (p : Ru → Bool) (d : Array Ru) (m k : Nat) (dk : Array Ru) : Prop where
  size : dk.size = d.size
  lt : k < m
  le : m ≤ d.size
  low : dk.toList.take k = (d.toList.take m).filter p
  len : ((d.toList.take m).filter p).length = k
  high : ∀ j, m ≤ j → dk[j]! = d[j]!
theorem take_snoc (d : Array Ru) {m : Nat} (hm : m < d.size) : d.toList.take (m + 1) = d.toList.take m ++ [d[m]!] := by
  rw [List.take_succ_eq_append_getElem (by simpa using hm), getElem!_pos d m hm]
  simp
theorem DelInv.start {p : Ru → Bool} {d : Array Ru} {i : Nat} (hi : i < d.size) (hall : ∀ j, j < i → p d[j]! = true) (hno : p d[i]! = false) : DelInv p d (i + 1) i d := by
  have hf : (d.toList.take i).filter p = d.toList.take i := by
    rw [List.filter_eq_self]
    intro x hx
    obtain ⟨j, hj, rfl⟩ := List.getElem_of_mem hx
    rw [List.length_take, Array.length_toList] at hj
    have := hall j (by omega)
    rw [getElem!_pos d j (by omega)] at this
    simpa using this
  refine ⟨rfl, by omega, by omega, ?_, ?_, fun _ _ => rfl⟩
  · rw [take_snoc d hi, List.filter_append, hf]; simp [hno]
  · rw [take_snoc d hi, List.filter_append, hf]; simp [hno]; omega
theorem DelInv.skip {p : Ru → Bool} {d dk : Array Ru} {m k : Nat} (h : DelInv p d m k dk) (hm : m < d.size) (hno : p d[m]! = false) : DelInv p d (m + 1) k dk := by
  refine ⟨h.size, by have := h.lt; omega, by omega, ?_, ?_, fun j hj => h.high j (by omega)⟩
  · rw [take_snoc d hm, List.filter_append, ← h.low]; simp [hno]
  · rw [take_snoc d hm, List.filter_append, List.length_append, h.len]; simp [hno]
theorem DelInv.keep {p : Ru → Bool} {d dk : Array Ru} {m k : Nat} (h : DelInv p d m k dk) (hm : m < d.size) (hp : p d[m]! = true) : DelInv p d (m + 1) (k + 1) (dk.setIfInBounds k d[m]!) := by
  have hlt := h.lt
  have hsz := h.size
  refine ⟨by simpa using h.size, by omega, by omega, ?_, ?_, fun j hj => ?_⟩
  · rw [take_snoc d hm, List.filter_append, ← h.low]
    have e : (dk.setIfInBounds k d[m]!).toList = dk.toList.set k d[m]! := by simp
    rw [e, List.take_succ_eq_append_getElem (by simp; omega)]
    simp [hp, List.take_set_of_le]
  · rw [take_snoc d hm, List.filter_append, List.length_append, h.len]; simp [hp]
  · rw [← h.high j (by omega)]
    by_cases hj2 : j < dk.size
    · rw [getElem!_pos (dk.setIfInBounds k d[m]!) j (by simpa using hj2), getElem!_pos dk j hj2, Array.getElem_setIfInBounds_ne (by simpa using hj2) (by omega)]
    · rw [getElem!_neg (dk.setIfInBounds k d[m]!) j (by simpa using hj2), getElem!_neg dk j hj2]
theorem DelInv.done {p : Ru → Bool} {d dk : Array Ru} {k : Nat} (h : DelInv p d d.size k dk) : dk.toList.take k = d.toList.filter p := by
  rw [h.low, List.take_of_length_le (by simp)]
end Go.Proofs.YtccmlmahjgndbaaDoor.RuD
/- slices.IndexFunc and slices.DeleteFunc at rules, by contract. -/
namespace Go.Proofs.YtccmlmahjgndbaaDoor.RuE
set_option linter.unusedVariables false
set_option linter.unusedSimpArgs false
open Go.Shelf Go.RowKit Go.Sort Go.Lib Go.Proofs Go.Proofs.YtccmlmahjgndbaaDoor.Plain Go.Proofs.YtccmlmahjgndbaaDoor.SynP Go.Proofs.YtccmlmahjgndbaaDoor.SynC Go.Proofs.YtccmlmahjgndbaaDoor.SynD Go.Proofs.YtccmlmahjgndbaaDoor.SynD7 Go.Proofs.YtccmlmahjgndbaaDoor.TblC Go.Proofs.YtccmlmahjgndbaaDoor.TblV Go.Proofs.YtccmlmahjgndbaaDoor.TblP Go.Proofs.YtccmlmahjgndbaaDoor.TblQ Go.Proofs.YtccmlmahjgndbaaDoor.RuO Go.Proofs.YtccmlmahjgndbaaDoor.RuK Go.Proofs.YtccmlmahjgndbaaDoor.RuD
set_option linter.unusedVariables false
set_option linter.unusedSimpArgs false
def IdxPost (p : Ru → Bool) (d : Array Ru) (w : World) (e : Ending) (w' : World) : Prop :=
  Below w.heap.size w w' ∧ ((e = .returned (.int .i64 (-1)) ∧ ∀ j, j < d.size → p d[j]! = true) ∨ ∃ k : Nat, k < d.size ∧ e = .returned (.int .i64 k) ∧ (∀ j, j < k → p d[j]! = true) ∧ p d[k]! = false)
set_option maxHeartbeats 1000000 in
set_option maxRecDepth 100000 in
theorem idxD (g cap : Nat) (d : Array Ru) (n1 n2 : Nat) (g1 : n1 ≤ 1000) (g2 : n2 ≤ 1000) (b1 b2 : Nat) (w : World) (hs : d.size ≤ 100000) (hH : HoldsK Ru.cl 6 w g 0 d) (hg : g < w.heap.size) (h1 : w.cell? ⟨b1, 0, none⟩ = some (.int .i64 n1)) (h2 : w.cell? ⟨b2, 0, none⟩ = some (.int .i64 n2)) :
    Calls Tryd.prog 54 #[.slice (some ⟨g, 0, none⟩) d.size cap, .func (.func 38) #[] #[.pointer (some ⟨b1, 0, none⟩), .pointer (some ⟨b2, 0, none⟩)]] w (IdxPost (rightU n1 n2) d w) := by
  have l1 := World.block_lt_of_cell? _ _ h1
  have l2 := World.block_lt_of_cell? _ _ h2
  simp only at l1 l2
  have HH := Lib.hid (fun w' (hb : Below w.heap.size w w') => holds_below hH (hb.block g hg))
  have HF := Lib.hid (fun w' (hb : Below w.heap.size w w') u => fnT n1 n2 g1 g2 u b1 b2 w' ((hb.cell (p := ⟨b1, 0, none⟩) l1).trans h1) ((hb.cell (p := ⟨b2, 0, none⟩) l2).trans h2))
  clear hH h1 h2 l1 l2 hg
  obtain ⟨p, hp⟩ : ∃ p, rightU n1 n2 = p := ⟨_, rfl⟩
  rw [hp] at HF ⊢
  clear hp
  go_enter Tryd.func54, Tryd.ntmps54
  go_wp2_with fail
  go_loopw [8] (fun i wr => ∃ k : Nat, k ≤ d.size ∧ i = .int .i64 k ∧ Below w.heap.size w wr ∧ Hid (∀ j, j < k → p d[j]! = true)) (fun i _ => d.size - (intOf i).toNat)
  case atStart => exact ⟨0, by omega, rfl, Below.refl _ _, Lib.hid (fun j hj => by omega)⟩
  case round =>
    obtain ⟨k, hk, rfl, hb, hall⟩ := hrel
    have HB := Lib.hid hb
    by_cases hlt : k < d.size
    · have e1 : decide ((k : Int) < d.size) = true := by simp; omega
      have c1 := two (HH.out _ hb) k hlt
      have HFk := Lib.hid (HF.out _ hb d[k]!)
      have HNX : Hid (p d[k]! = true → ∀ j, j < k + 1 → p d[j]! = true) := Lib.hid (fun h j hj => by
        by_cases e : j = k
        · subst e; exact h
        · exact hall.out j (by omega))
      have HST : Hid (p d[k]! = false → ∀ w', Below w.heap.size w w' → IdxPost p d w (.returned (.int .i64 k)) w') := Lib.hid (fun h w' hb => ⟨hb, .inr ⟨k, hlt, rfl, hall.out, h⟩⟩)
      generalize d[k]! = x at *
      obtain ⟨uk, uh, uw, ua, ub, uv⟩ := x
      have a0 := c1 0 _ rfl
      have a1 := c1 1 _ rfl
      have a2 := c1 2 _ rfl
      have a3 := c1 3 _ rfl
      have a4 := c1 4 _ rfl
      have a5 := c1 5 _ rfl
      rw [Nat.add_zero] at a0
      have q0 : (0 : Int) ≤ k := by omega
      have q1 : (k : Int) < d.size := by omega
      unfold Ru.val at HFk
      simp only at HFk
      clear c1 hb hall
      cases hpx : p ⟨uk, uh, uw, ua, ub, uv⟩
      · rw [hpx] at HFk
        have HE := Lib.hid (HST.out hpx)
        clear hpx HST HNX
        go_wp2_with fail
        refine HFk.out.mono ?_
        rintro e w1 ⟨rfl, hb1⟩
        have HB1 := Lib.hid (bx HB.out hb1)
        clear hb1 a0 a1 a2 a3 a4 a5
        go_wp2_with fail
        go_ret
        exact HE.out _ HB1.out
      · rw [hpx] at HFk
        have HE := Lib.hid (HNX.out hpx)
        clear hpx HST HNX
        go_wp2_with fail
        refine HFk.out.mono ?_
        rintro e w1 ⟨rfl, hb1⟩
        have HB1 := Lib.hid (bx HB.out hb1)
        clear hb1 a0 a1 a2 a3 a4 a5
        go_wp2_with fail
        go_roundw
        case rel => exact ⟨k + 1, by omega, by go_num, HB1.out, HE⟩
        case measure => simp [intOf]; omega
    · have e1 : decide ((k : Int) < d.size) = false := by simp; omega
      have HE : Hid (∀ j, j < d.size → p d[j]! = true) := Lib.hid (fun j hj => hall.out j (by omega))
      clear hall hb
      go_wp2_with fail
      go_ret
      exact ⟨HB.out, .inl ⟨rfl, HE.out⟩⟩
def DelPost (g cap : Nat) (p : Ru → Bool) (d : Array Ru) (w : World) (e : Ending) (w' : World) : Prop :=
  ∃ d' : Array Ru, e = .returned (.slice (some ⟨g, 0, none⟩) d'.size cap) ∧ d'.toList = d.toList.filter p ∧ HoldsK Ru.cl 6 w' g 0 d' ∧ BK g w w' ∧ w.heap.size ≤ w'.heap.size
theorem del_none {g cap : Nat} {p : Ru → Bool} {d : Array Ru} {w w' : World} (hH : HoldsK Ru.cl 6 w g 0 d) (hg : g < w.heap.size) (hb : Below w.heap.size w w') (h : ∀ j, j < d.size → p d[j]! = true) : DelPost g cap p d w (.returned (.slice (some ⟨g, 0, none⟩) d.size cap)) w' := by
  refine ⟨d, rfl, ?_, holds_below hH (hb.block g hg), (BK.refl g w).below hg hb, hb.size⟩
  symm
  rw [List.filter_eq_self]
  intro x hx
  obtain ⟨j, hj, rfl⟩ := List.getElem_of_mem hx
  rw [Array.length_toList] at hj
  have := h j hj
  rw [getElem!_pos d j hj] at this
  simpa using this
theorem del_end {g cap kk : Nat} {p : Ru → Bool} {d dk : Array Ru} {w wr : World} (hH : HoldsK Ru.cl 6 wr g 0 dk) (hb : BK g w wr) (hs : w.heap.size ≤ wr.heap.size) (hI : DelInv p d d.size kk dk) : DelPost g cap p d w (.returned (.slice (some ⟨g, 0, none⟩) kk cap)) (wr.setCells g (kk * 6) (clr (d.size - kk))) := by
  have hlt := hI.lt
  have hsz := hI.size
  have hz : (dk.toList.take kk).toArray.size = kk := by simp; omega
  refine ⟨(dk.toList.take kk).toArray, by rw [hz], by rw [← hI.done], holds_out (holds_take hH (by omega)) (by rw [hz]; exact Nat.le_refl _) _, hb.setCells _ _, by rw [size_setCells]; exact hs⟩
set_option maxHeartbeats 2000000 in
set_option maxRecDepth 100000 in
theorem delU (g cap : Nat) (d : Array Ru) (n1 n2 : Nat) (g1 : n1 ≤ 1000) (g2 : n2 ≤ 1000) (b1 b2 : Nat) (w : World) (hs : d.size ≤ 100000) (hcap : d.size ≤ cap) (hcm : cap ≤ maxLen) (hH : HoldsK Ru.cl 6 w g 0 d) (hg : g < w.heap.size) (l1 : b1 < g) (l2 : b2 < g) (h1 : w.cell? ⟨b1, 0, none⟩ = some (.int .i64 n1)) (h2 : w.cell? ⟨b2, 0, none⟩ = some (.int .i64 n2)) :
    Calls Tryd.prog 36 #[.slice (some ⟨g, 0, none⟩) d.size cap, .func (.func 38) #[] #[.pointer (some ⟨b1, 0, none⟩), .pointer (some ⟨b2, 0, none⟩)]] w (DelPost g cap (rightU n1 n2) d w) := by
  have HI := Lib.hid (idxD g cap d n1 n2 g1 g2 b1 b2 w hs hH hg h1 h2)
  have HF := Lib.hid (fun w' (hb : Below g w w') u => fnT n1 n2 g1 g2 u b1 b2 w' ((hb.cell (p := ⟨b1, 0, none⟩) l1).trans h1) ((hb.cell (p := ⟨b2, 0, none⟩) l2).trans h2))
  have HH := Lib.hid hH
  have HN := Lib.hid (fun w' hb h => del_none (cap := cap) (p := rightU n1 n2) (w' := w') hH hg hb h)
  clear hH h1 h2 l1 l2
  obtain ⟨p, hp⟩ : ∃ p, rightU n1 n2 = p := ⟨_, rfl⟩
  rw [hp] at HF HI HN ⊢
  clear hp
  have hm : maxLen = 9223372036854775807 := rfl
  go_enter Tryd.func36, Tryd.ntmps36
  go_wp2_with fail
  refine HI.out.mono ?_
  rintro e w1 ⟨hb1, ⟨rfl, hall⟩ | ⟨k, hk, rfl, hall, hno⟩⟩
  · have HE := Lib.hid (HN.out _ hb1 hall)
    clear hall hb1 HI HF HN
    go_wp2_with fail
    go_ret
    exact HE.out
  · have HS := Lib.hid (DelInv.start hk hall hno)
    have HHK := Lib.hid (holds_below HH.out (hb1.block g hg))
    have HB1 := Lib.hid ((BK.refl g w).below hg hb1)
    have hz1 := hb1.size
    clear hall hno hb1 HI HN
    have d1 : ((k : Int) == -1) = false := by first | (simp; done) | (simp; omega)
    go_wp2_with fail
    go_loopw [5, 6] (fun s5 s6 wr => ∃ (kk m : Nat) (dk : Array Ru), s5 = .int .i64 kk ∧ s6 = .int .i64 m ∧ m ≤ d.size ∧ Hid (HoldsK Ru.cl 6 wr g 0 dk) ∧ Hid (BK g w wr) ∧ w.heap.size ≤ wr.heap.size ∧ Hid (DelInv p d m kk dk)) (fun _ s6 _ => d.size - (intOf s6).toNat)
    case atStart => exact ⟨k, k + 1, d, rfl, rfl, by omega, HHK, HB1, hz1, HS⟩
    case round =>
      obtain ⟨kk, m, dk, rfl, rfl, hm2, hHk, hbel, hszr, hI⟩ := hrel
      have hkk := hI.out.lt
      have hds := hI.out.size
      by_cases hlt : m < d.size
      · have e1 : decide ((m : Int) < d.size) = true := by simp; omega
        have c1 := two hHk.out m (by omega)
        rw [hI.out.high m (Nat.le_refl _)] at c1
        have HSK := Lib.hid (fun h => hI.out.skip hlt h)
        have HKP := Lib.hid (fun h => hI.out.keep hlt h)
        have HFk := Lib.hid (fun w' hb => HF.out w' hb d[m]!)
        generalize d[m]! = x at *
        obtain ⟨uk, uh, uw, ua, ub, uv⟩ := x
        have a0 := c1 0 _ rfl
        have a1 := c1 1 _ rfl
        have a2 := c1 2 _ rfl
        have a3 := c1 3 _ rfl
        have a4 := c1 4 _ rfl
        have a5 := c1 5 _ rfl
        rw [Nat.add_zero] at a0
        have q0 : (0 : Int) ≤ m := by omega
        have q1 : (m : Int) < d.size := by omega
        have q6 : (0 : Int) ≤ kk := by omega
        have q7 : (kk : Int) < d.size := by omega
        have hgr : g < wr.heap.size := by omega
        have HBA := Lib.hid (hbel.out.below hgr ((Below.refl wr.heap.size wr).alloc (Nat.le_refl _) (.cells #[.int .i64 uk, .int .i64 uh, .int .i64 uw, .int .i64 ua, .int .i64 ub, .int .i64 uv] 25)))
        have HHA := Lib.hid (holds_below hHk.out (((Below.refl wr.heap.size wr).alloc (Nat.le_refl _) (.cells #[.int .i64 uk, .int .i64 uh, .int .i64 uw, .int .i64 ua, .int .i64 ub, .int .i64 uv] 25)).block g hgr))
        have HBX := Lib.hid (heap_alloc_new wr (.cells #[.int .i64 uk, .int .i64 uh, .int .i64 uw, .int .i64 ua, .int .i64 ub, .int .i64 uv] 25))
        have HCL := Lib.hid (HFk.out _ HBA.out.b)
        unfold Ru.val at HCL
        simp only at HCL
        clear c1 HF HFk HHK HB1 HS
        go_upto_region 8 with fail
        have hszA : (wr.alloc (.cells #[.int .i64 uk, .int .i64 uh, .int .i64 uw, .int .i64 ua, .int .i64 ub, .int .i64 uv] 25)).heap.size = wr.heap.size + 1 := by simp
        generalize wr.alloc (.cells #[.int .i64 uk, .int .i64 uh, .int .i64 uw, .int .i64 ua, .int .i64 ub, .int .i64 uv] 25) = wa at *
        have cb := fun o => Lib.cell_of_heap HBX.out o
        clear a0 a1 a2 a3 a4 a5
        cases hpx : p ⟨uk, uh, uw, ua, ub, uv⟩
        · rw [hpx] at HCL
          have HI2 := Lib.hid (HSK.out hpx)
          clear hpx HSK HKP
          go_wp2_with fail
          refine HCL.out.mono ?_
          rintro e w2 ⟨rfl, hb2⟩
          have HH2 := Lib.hid (holds_below HHA.out (hb2.block g (by omega)))
          have HB2 := Lib.hid (HBA.out.below (by omega) hb2)
          have hz2 := hb2.size
          clear hb2 cb HCL
          go_wp2_with fail
          go_roundw
          case rel => exact ⟨kk, m + 1, dk, rfl, by go_num, by omega, HH2, HB2, by omega, HI2⟩
          case measure => simp [intOf]; omega
        · rw [hpx] at HCL
          have HI2 := Lib.hid (HKP.out hpx)
          clear hpx HSK HKP
          go_wp2_with fail
          refine HCL.out.mono ?_
          rintro e w2 ⟨rfl, hb2⟩
          have HH2 := Lib.hid (holds_below HHA.out (hb2.block g (by omega)))
          have HB2 := Lib.hid (HBA.out.below (by omega) hb2)
          have hz2 := hb2.size
          have cb2 := fun o => Lib.cell_of_heap ((hb2.block wr.heap.size (by omega)).trans HBX.out) o
          have hth := Lib.hid (there_of HH2.out kk (by omega))
          clear hb2 cb HCL
          go_wp2_with ((with_reducible refine wpList_store_mid (op := ⟨none, .store 25 (.tmp 33) (.tmp 32), _, _, _, none⟩) ?_ 25 (.tmp 33) (.tmp 32) ?_ g (kk * 6) (Ru.cl ⟨uk, uh, uw, ua, ub, uv⟩).toArray ?_ ?_ ?_ ?_ ?_ ?_); (rfl); (rfl); (simp [Act.eval]); (simp [Act.eval, Ru.cl]); (exact hth.out); (exact infoSz); (exact all_oneCell_toArray (stcell_one _)))
          go_roundw
          case rel =>
            refine ⟨kk + 1, m + 1, dk.setIfInBounds kk ⟨uk, uh, uw, ua, ub, uv⟩, by go_num, by go_num, by omega, Lib.hid ?_, Lib.hid (HB2.out.setCells _ _), by rw [size_setCells]; omega, HI2⟩
            exact store0 HH2.out kk (by omega) _
          case measure => simp [intOf]; omega
      · have e1 : decide ((m : Int) < d.size) = false := by simp; omega
        obtain rfl : m = d.size := by omega
        have hfin := Lib.hid (del_end (cap := cap) hHk.out hbel.out hszr hI.out)
        have hth := Lib.hid (there_all hHk.out kk (by omega))
        rw [hds] at hth
        clear hHk hbel hI HF
        go_wp2_with ((with_reducible refine wpList_clear_run (o := ⟨none, .call { callee := .builtin .clear, args := #[.tmp 38], argTypes := #[23] }, _, _, _, none⟩) _ ?_ (.tmp 38) 23 ?_ (.slice (some ⟨g, kk * 6, none⟩) (d.size - kk) (cap - kk)) ?_ (.tuple #[]) (wr.setCells g (kk * 6) (clr (d.size - kk))) ?_ ?_); (rfl); (rfl); (simp [Act.eval]); (exact run_clear2 _ g (kk * 6) (d.size - kk) (cap - kk) (by omega) hth.out _))
        go_ret
        exact hfin.out
end Go.Proofs.YtccmlmahjgndbaaDoor.RuE
