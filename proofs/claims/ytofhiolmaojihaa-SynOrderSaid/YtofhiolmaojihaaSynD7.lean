/- What slices.Compact leaves, in plain mathematics; rows of statements that are stored into. -/
import Derived.Test.YtofhiolmaojihaaSynD3
import Derived.Test.YtofhiolmaojihaaSynD
import Derived.Lib.SlicesCompact
import Derived.Shelf.SlSortCmp.InsertionK
namespace Go.Proofs.Ytofhiolmaojihaa.SynD7
open Go.RowKit Go.Sort Go.Lib Go.Proofs Go.Proofs.Ytofhiolmaojihaa.Plain Go.Proofs.Ytofhiolmaojihaa.SynP Go.Proofs.Ytofhiolmaojihaa.SynD Go.Proofs.Ytofhiolmaojihaa.SynD2 Go.Proofs.Ytofhiolmaojihaa.SynD3
variable {α : Type} [Inhabited α]
theorem setMany_one (enc : α → List Value) (k : Nat) (hk : ∀ x, (enc x).length = k) (k0 : 0 < k) (d : Array α) (i : Nat) (hi : i < d.size) (x : α) :
    setMany (flatK enc k d) (i * k) (enc x) = flatK enc k (d.setIfInBounds i x) := by
  refine ext_get! (by simp) fun t ht => ?_
  have ht' : t < d.size * k := by simpa using ht
  rw [get_setMany _ _ _ t (by simpa using ht'), get_flatK _ _ _ t ht', get_flatK _ _ _ t (by simpa using ht'), hk]
  by_cases a : t / k = i
  · have e : t - i * k = t % k := by subst a; rw [Nat.mod_eq_sub_div_mul]
    rw [if_pos ((blk_iff k i t k0).2 a), e, a, getElem!_set_same _ _ _ hi]
  · rw [if_neg (fun h => a ((blk_iff k i t k0).1 h)), getElem!_set_other _ _ _ _ a]
theorem holdsK_store {enc : α → List Value} {k : Nat} (hk : ∀ x, (enc x).length = k) (k0 : 0 < k) {W : World} {blk off : Nat} {d : Array α} (h : HoldsK enc k W blk off d) (i : Nat) (hi : i < d.size) (x : α) :
    HoldsK enc k (W.setCells blk (off + i * k) (enc x)) blk off (d.setIfInBounds i x) := by
  have b : i * k + k ≤ d.size * k := by
    have := Nat.mul_le_mul_right k (show i + 1 ≤ d.size from hi); rwa [Nat.add_mul, Nat.one_mul] at this
  have := holds_setCells_c h (i * k) (enc x) (by rw [hk, size_flatK]; exact b)
  rw [setMany_one enc k hk k0 d i hi x] at this
  exact this
theorem compL_snoc {β : Type} {c : β → β → Int} (E : ∀ x y, c x y = 0 → x = y) (x : β) : ∀ (l : List β) (y : β), l.getLast? = some y → compL c (l ++ [x]) = if c y x = 0 then compL c l else compL c l ++ [x]
  | [], y, h => by simp at h
  | [a], y, h => by
    have : a = y := by simpa using h
    subst this
    show compL c [a, x] = _
    unfold compL
    split
    · rename_i h0; rw [← E _ _ h0]; rfl
    · rfl
  | a :: b :: t, y, h => by
    have h' : (b :: t).getLast? = some y := by simpa using h
    have ih := compL_snoc E x (b :: t) y h'
    have e1 : compL c (a :: b :: t ++ [x]) = if c a b = 0 then compL c (b :: t ++ [x]) else a :: compL c (b :: t ++ [x]) := by
      show compL c (a :: b :: (t ++ [x])) = _
      rw [compL]; rfl
    have e2 : compL c (a :: b :: t) = if c a b = 0 then compL c (b :: t) else a :: compL c (b :: t) := by rw [compL]
    rw [e1, e2, ih]
    split <;> split <;> simp
theorem comp_up {c : α → α → Int} [DecidableEq α] (E : ∀ x y, c x y = 0 ↔ x = y) (d : Array α) : ∀ m, m ≤ d.size → compL c (d.toList.take m) = compactUpTo d m
  | 0, _ => by simp [compL, compactUpTo]
  | m + 1, hm => by
    have hlt : m < d.toList.length := by rw [Array.length_toList]; omega
    rw [List.take_succ_eq_append_getElem hlt, compactUpTo_succ, ← comp_up E d m (by omega)]
    have em : d.toList[m] = d[m]! := by rw [getElem!_pos d m (by simpa using hlt)]; simp
    rw [em]
    by_cases h0 : m = 0
    · subst h0
      have : keeps d 0 = true := by simp [keeps]
      rw [this]; rfl
    · have hl : (d.toList.take m).getLast? = some d[m - 1]! := by
        rw [List.getLast?_eq_getElem?, List.length_take, Nat.min_eq_left (by omega), List.getElem?_take_of_lt (by omega), List.getElem?_eq_getElem (by omega), getElem!_pos d (m - 1) (by simp at hlt; omega)]
        simp
      rw [compL_snoc (fun x y h => (E x y).1 h) _ _ _ hl]
      by_cases he : d[m]! = d[m - 1]!
      · rw [if_pos ((E _ _).2 he.symm), keeps_neg (by omega) he]; simp
      · rw [if_neg (fun h => he ((E _ _).1 h).symm), keeps_pos he]; rfl
theorem comp_all {c : α → α → Int} [DecidableEq α] (E : ∀ x y, c x y = 0 ↔ x = y) (d : Array α) : compL c d.toList = compactUpTo d d.size := by
  have := comp_up E d d.size (Nat.le_refl _)
  rwa [List.take_of_length_le (by simp)] at this
theorem cmpS_eq (x y : St) : cmpS x y = 0 ↔ x = y := ⟨eqSt x y, fun h => by rw [h]; exact tri_S.same y⟩
/-- What the library's sort and then its Compact leave is what the document's way makes. -/
theorem sorted_up {d d' : Array St} (hp : PermIn 0 d.size d d') (hs : SortedIn (ltOf cmpS) 0 d.size d') : compactUpTo d' d'.size = sortL cmpS [] d.toList := by
  rw [← comp_all cmpS_eq]; exact sorted_one hp hs
theorem len9 (x : St) : x.cells.length = 9 := rfl
/-- A row that holds statements reads as those that stand at its head. -/
theorem StRow.of_holds {w : World} {blk : Nat} {d : Array St} (h : HoldsK St.cells 9 w blk 0 d) (R : List St) (hR : R.length ≤ d.size) (he : ∀ j, (hj : j < R.length) → R[j] = d[j]!) : StRow w (some ⟨blk, 0, none⟩) R := fun hp => by
  refine ⟨blk, rfl, ?_, fun j hj => ?_⟩
  · have := (HoldsK.cell h (i := 0) (c := 0) (by omega) (by omega)).1
    unfold World.cell? at this
    rcases Nat.lt_or_ge blk w.heap.size with hb | hb
    · exact hb
    · simp [Array.getElem?_eq_none hb] at this
  · have key : ∀ c u, c < 9 → R[j].cells[c]? = some u → w.cell? ⟨blk, j * 9 + c, none⟩ = some u := fun c u hc hu => by
      have q := (HoldsK.cell h (i := j) (c := c) (by omega) hc).1
      rw [← he j hj, Nat.zero_add] at q
      rw [q, getElem!_pos _ _ (by rw [len9]; exact hc), ← List.getElem?_eq_getElem, hu]
    exact ⟨key 0 _ (by omega) rfl, key 1 _ (by omega) rfl, key 2 _ (by omega) rfl, key 3 _ (by omega) rfl, key 4 _ (by omega) rfl, key 5 _ (by omega) rfl, key 6 _ (by omega) rfl, key 7 _ (by omega) rfl, key 8 _ (by omega) rfl⟩
theorem holds_own {w : World} {B : Nat} {e : TypeId} {v : Value} {L : List St} (h : w.ownsRow B e 9 v L.length (stCells L)) : (L = [] ∧ v = .slice none 0 0) ∨ ∃ g cap, v = .slice (some ⟨g, 0, none⟩) L.length cap ∧ L.length ≤ cap ∧ B ≤ g ∧ g < w.heap.size ∧ HoldsK St.cells 9 w g 0 L.toArray := by
  rcases h.2 with ⟨rfl, h0⟩ | ⟨g, cap, cur, rfl, hB, hh, hc, hm, hs, ht⟩
  · exact .inl ⟨List.eq_nil_of_length_eq_zero h0, rfl⟩
  · refine .inr ⟨g, cap, rfl, hc, hB, (h.lt g rfl).2, fun t ht' => ?_⟩
    rw [size_flatK] at ht'
    have ht2 : t < L.length * 9 := by simpa using ht'
    have q : (stCells L)[t]? = some ((flatK St.cells 9 L.toArray)[t]!) := by
      rw [get_flatK _ _ _ _ ht']
      have hj : t / 9 < L.length := by omega
      have := stCells_at L (t / 9) (t % 9) hj (by omega)
      rw [show t / 9 * 9 + t % 9 = t by omega] at this
      rw [this, getElem!_pos L.toArray (t / 9) (by simpa using hj), List.getElem_toArray, getElem!_pos _ (t % 9) (by rw [len9]; omega), ← List.getElem?_eq_getElem]
    refine ⟨?_, ?_⟩
    · rw [← ht, List.getElem?_take_of_lt (by omega)] at q
      rw [Nat.zero_add, Lib.cell_of_heap hh, ← Array.getElem?_toList]
      exact q
    · simp [World.frozen?, hh]
theorem inv_low {d dk : Array St} {m k : Nat} (h : CompInv d m k dk) (hm : (compactUpTo d m) = compactUpTo d d.size) (hk : k ≤ d.size) : ∀ j, (hj : j < (compactUpTo d d.size).length) → (compactUpTo d d.size)[j] = dk[j]! := fun j hj => by
  have q := h.low j (by rw [← h.len, hm]; exact hj)
  rw [hm, List.getElem?_eq_getElem hj] at q
  exact Option.some.inj q
end Go.Proofs.Ytofhiolmaojihaa.SynD7
