/- slices.SortFunc at statements, by contract. -/
import Derived.Test.YtpjacngbkohmdaaM04
import Derived.Test.YtpjacngbkohmdaaSynD5
import Derived.Test.YtpjacngbkohmdaaM03
import Derived.Lib.SlicesCompact
import Derived.Shelf.SlSortCmp.InsertionK
import Derived.Sort.WalkB12
import Derived.Lib.SliceRun
import Derived.Deep.LoopGhost
import Derived.Deep.Draws
import Derived.Shelf.RegionOpenPlain
import Derived.Deep.MidRow
import Derived.Lib.LazyBuf
import Derived.Lib.AppendZeros
import Derived.Shelf.SlSortCmp.NoneTotal
import Derived.Deep.RegionLawGrows
import Derived.Deep.AppendLies
namespace Go.Proofs.Ytpjacngbkohmdaa.SynD6
set_option linter.unusedVariables false
set_option linter.unusedSimpArgs false
open Go.Shelf Go.RowKit Go.Lib Go.Sort Go.Proofs Go.Proofs.Ytpjacngbkohmdaa.Plain Go.Proofs.Ytpjacngbkohmdaa.SynP Go.Proofs.Ytpjacngbkohmdaa.SynD2 Go.Proofs.Ytpjacngbkohmdaa.SynD Go.Proofs.Ytpjacngbkohmdaa.SynD4 Go.Proofs.Ytpjacngbkohmdaa.SynD5
theorem sortSt (blk off cap : Nat) (d : Array St) (w : World) (hH : HoldsK St.cells 9 w blk off d) (hblk : blk < w.heap.size) (hsz : d.size < 4611686018427387904) :
    Calls Try.prog 78 #[.slice (some ⟨blk, off, none⟩) d.size cap, .func (.func 67) #[] #[]] w fun e w' =>
      e = .returned (.tuple #[]) ∧ ∃ d' n os, PermIn 0 d.size d d' ∧ SortedIn (ltOf cmpS) 0 d.size d' ∧ w' = sortWorldK St.cells 9 w blk off n d' os :=
  AnyQ.slices_SortFunc laidSort 9 Try.isAgg26 Try.sizeOf26 St.cells (fun _ => rfl) (fun x v hv => by simp [St.cells] at hv; rcases hv with rfl | rfl | rfl | rfl | rfl | rfl | rfl | rfl | rfl <;> rfl) cmpS swo_S 67 #[] blk off cap d w (enters_of Try.func67 (by kernel_rfl) rfl) (cmpLays blk off d.size w) hH hblk hsz
end Go.Proofs.Ytpjacngbkohmdaa.SynD6
/- What slices.Compact leaves, in plain mathematics; rows of statements that are stored into. -/
namespace Go.Proofs.Ytpjacngbkohmdaa.SynD7
set_option linter.unusedVariables false
set_option linter.unusedSimpArgs false
open Go.RowKit Go.Sort Go.Lib Go.Proofs Go.Proofs.Ytpjacngbkohmdaa.Plain Go.Proofs.Ytpjacngbkohmdaa.SynP Go.Proofs.Ytpjacngbkohmdaa.SynD Go.Proofs.Ytpjacngbkohmdaa.SynD2 Go.Proofs.Ytpjacngbkohmdaa.SynD3
variable {α : Type} [Inhabited α]
theorem setMany_one (enc : α → List Value) (k : Nat) (hk : ∀ x, (enc x).length = k) (k0 : 0 < k) (d : Array α) (i : Nat) (hi : i < d.size) (x : α) :
    setMany (flatK enc k d) (i * k) (enc x) = flatK enc k (d.setIfInBounds i x) := by
  refine ext_get! (by simp) fun t ht => ?_
  have ht' : t < d.size * k := by simpa using ht
  rw [get_setMany _ _ _ t (by simpa using ht'), get_flatK _ _ _ t ht', get_flatK _ _ _ t (by simpa using ht'), hk]
  by_cases a : t / k = i
  · have e : t - i * k = t % k := by subst a; rw [Nat.mod_eq_sub_div_mul]
    rw [if_pos ((blk_iff k i t k0).2 a), e, a, getElem!_set_same _ _ _ hi]
  · rw [if_neg (fun h => a ((blk_iff k i t k0).1 h)), getElem!_set_other _ _ _ _ a]
theorem holdsK_store {enc : α → List Value} {k : Nat} (hk : ∀ x, (enc x).length = k) (k0 : 0 < k) {W : World} {blk off : Nat} {d : Array α} (h : HoldsK enc k W blk off d) (i : Nat) (hi : i < d.size) (x : α) :
    HoldsK enc k (W.setCells blk (off + i * k) (enc x)) blk off (d.setIfInBounds i x) := by
  have b : i * k + k ≤ d.size * k := by
    have := Nat.mul_le_mul_right k (show i + 1 ≤ d.size from hi); rwa [Nat.add_mul, Nat.one_mul] at this
  have := holds_setCells_c h (i * k) (enc x) (by rw [hk, size_flatK]; exact b)
  rw [setMany_one enc k hk k0 d i hi x] at this
  exact this
theorem compL_snoc {β : Type} {c : β → β → Int} (E : ∀ x y, c x y = 0 → x = y) (x : β) : ∀ (l : List β) (y : β), l.getLast? = some y → compL c (l ++ [x]) = if c y x = 0 then compL c l else compL c l ++ [x]
  | [], y, h => by simp at h
  | [a], y, h => by
    have : a = y := by simpa using h
    subst this
    show compL c [a, x] = _
    unfold compL
    split
    · rename_i h0; rw [← E _ _ h0]; rfl
    · rfl
  | a :: b :: t, y, h => by
    have h' : (b :: t).getLast? = some y := by simpa using h
    have ih := compL_snoc E x (b :: t) y h'
    have e1 : compL c (a :: b :: t ++ [x]) = if c a b = 0 then compL c (b :: t ++ [x]) else a :: compL c (b :: t ++ [x]) := by
      show compL c (a :: b :: (t ++ [x])) = _
      rw [compL]; rfl
    have e2 : compL c (a :: b :: t) = if c a b = 0 then compL c (b :: t) else a :: compL c (b :: t) := by rw [compL]
    rw [e1, e2, ih]
    split <;> split <;> simp
theorem comp_up {c : α → α → Int} [DecidableEq α] (E : ∀ x y, c x y = 0 ↔ x = y) (d : Array α) : ∀ m, m ≤ d.size → compL c (d.toList.take m) = compactUpTo d m
  | 0, _ => by simp [compL, compactUpTo]
  | m + 1, hm => by
    have hlt : m < d.toList.length := by rw [Array.length_toList]; omega
    rw [List.take_succ_eq_append_getElem hlt, compactUpTo_succ, ← comp_up E d m (by omega)]
    have em : d.toList[m] = d[m]! := by rw [getElem!_pos d m (by simpa using hlt)]; simp
    rw [em]
    by_cases h0 : m = 0
    · subst h0
      have : keeps d 0 = true := by simp [keeps]
      rw [this]; rfl
    · have hl : (d.toList.take m).getLast? = some d[m - 1]! := by
        rw [List.getLast?_eq_getElem?, List.length_take, Nat.min_eq_left (by omega), List.getElem?_take_of_lt (by omega), List.getElem?_eq_getElem (by omega), getElem!_pos d (m - 1) (by simp at hlt; omega)]
        simp
      rw [compL_snoc (fun x y h => (E x y).1 h) _ _ _ hl]
      by_cases he : d[m]! = d[m - 1]!
      · rw [if_pos ((E _ _).2 he.symm), keeps_neg (by omega) he]; simp
      · rw [if_neg (fun h => he ((E _ _).1 h).symm), keeps_pos he]; rfl
theorem comp_all {c : α → α → Int} [DecidableEq α] (E : ∀ x y, c x y = 0 ↔ x = y) (d : Array α) : compL c d.toList = compactUpTo d d.size := by
  have := comp_up E d d.size (Nat.le_refl _)
  rwa [List.take_of_length_le (by simp)] at this
theorem cmpS_eq (x y : St) : cmpS x y = 0 ↔ x = y := ⟨eqSt x y, fun h => by rw [h]; exact tri_S.same y⟩
/-- What the library's sort and then its Compact leave is what the document's way makes. -/
theorem sorted_up {d d' : Array St} (hp : PermIn 0 d.size d d') (hs : SortedIn (ltOf cmpS) 0 d.size d') : compactUpTo d' d'.size = sortL cmpS [] d.toList := by
  rw [← comp_all cmpS_eq]; exact sorted_one hp hs
theorem len9 (x : St) : x.cells.length = 9 := rfl
/-- A row that holds statements reads as those that stand at its head. -/
theorem StRow.of_holds {w : World} {blk : Nat} {d : Array St} (h : HoldsK St.cells 9 w blk 0 d) (R : List St) (hR : R.length ≤ d.size) (he : ∀ j, (hj : j < R.length) → R[j] = d[j]!) : StRow w (some ⟨blk, 0, none⟩) R := fun hp => by
  refine ⟨blk, rfl, ?_, fun j hj => ?_⟩
  · have := (HoldsK.cell h (i := 0) (c := 0) (by omega) (by omega)).1
    unfold World.cell? at this
    rcases Nat.lt_or_ge blk w.heap.size with hb | hb
    · exact hb
    · simp [Array.getElem?_eq_none hb] at this
  · have key : ∀ c u, c < 9 → R[j].cells[c]? = some u → w.cell? ⟨blk, j * 9 + c, none⟩ = some u := fun c u hc hu => by
      have q := (HoldsK.cell h (i := j) (c := c) (by omega) hc).1
      rw [← he j hj, Nat.zero_add] at q
      rw [q, getElem!_pos _ _ (by rw [len9]; exact hc), ← List.getElem?_eq_getElem, hu]
    exact ⟨key 0 _ (by omega) rfl, key 1 _ (by omega) rfl, key 2 _ (by omega) rfl, key 3 _ (by omega) rfl, key 4 _ (by omega) rfl, key 5 _ (by omega) rfl, key 6 _ (by omega) rfl, key 7 _ (by omega) rfl, key 8 _ (by omega) rfl⟩
theorem holds_own {w : World} {B : Nat} {e : TypeId} {v : Value} {L : List St} (h : w.ownsRow B e 9 v L.length (stCells L)) : (L = [] ∧ v = .slice none 0 0) ∨ ∃ g cap, v = .slice (some ⟨g, 0, none⟩) L.length cap ∧ L.length ≤ cap ∧ B ≤ g ∧ g < w.heap.size ∧ HoldsK St.cells 9 w g 0 L.toArray := by
  rcases h.2 with ⟨rfl, h0⟩ | ⟨g, cap, cur, rfl, hB, hh, hc, hm, hs, ht⟩
  · exact .inl ⟨List.eq_nil_of_length_eq_zero h0, rfl⟩
  · refine .inr ⟨g, cap, rfl, hc, hB, (h.lt g rfl).2, fun t ht' => ?_⟩
    rw [size_flatK] at ht'
    have ht2 : t < L.length * 9 := by simpa using ht'
    have q : (stCells L)[t]? = some ((flatK St.cells 9 L.toArray)[t]!) := by
      rw [get_flatK _ _ _ _ ht']
      have hj : t / 9 < L.length := by omega
      have := stCells_at L (t / 9) (t % 9) hj (by omega)
      rw [show t / 9 * 9 + t % 9 = t by omega] at this
      rw [this, getElem!_pos L.toArray (t / 9) (by simpa using hj), List.getElem_toArray, getElem!_pos _ (t % 9) (by rw [len9]; omega), ← List.getElem?_eq_getElem]
    refine ⟨?_, ?_⟩
    · rw [← ht, List.getElem?_take_of_lt (by omega)] at q
      rw [Nat.zero_add, Lib.cell_of_heap hh, ← Array.getElem?_toList]
      exact q
    · simp [World.frozen?, hh]
theorem inv_low {d dk : Array St} {m k : Nat} (h : CompInv d m k dk) (hm : (compactUpTo d m) = compactUpTo d d.size) (hk : k ≤ d.size) : ∀ j, (hj : j < (compactUpTo d d.size).length) → (compactUpTo d d.size)[j] = dk[j]! := fun j hj => by
  have q := h.low j (by rw [← h.len, hm]; exact hj)
  rw [hm, List.getElem?_eq_getElem hj] at q
  exact Option.some.inj q
end Go.Proofs.Ytpjacngbkohmdaa.SynD7
/- slices.Compact at statements, by contract: the library's two loops are walked. -/
namespace Go.Proofs.Ytpjacngbkohmdaa.SynD8
set_option linter.unusedVariables false
set_option linter.unusedSimpArgs false
open Go.Shelf Go.RowKit Go.Sort Go.Lib Go.Proofs Go.Proofs.Ytpjacngbkohmdaa.Plain Go.Proofs.Ytpjacngbkohmdaa.SynP Go.Proofs.Ytpjacngbkohmdaa.SynE Go.Proofs.Ytpjacngbkohmdaa.SynD Go.Proofs.Ytpjacngbkohmdaa.SynD2 Go.Proofs.Ytpjacngbkohmdaa.SynD3 Go.Proofs.Ytpjacngbkohmdaa.SynD7
set_option linter.unusedVariables false
set_option linter.unusedSimpArgs false
def CompPost (g cap : Nat) (d : Array St) (w : World) (e : Ending) (w' : World) : Prop :=
  e = .returned (.slice (some ⟨g, 0, none⟩) (compactUpTo d d.size).length cap) ∧ StRow w' (some ⟨g, 0, none⟩) (compactUpTo d d.size) ∧ Below g w w' ∧ w.heap.size ≤ w'.heap.size ∧ HoldsK St.cells 9 w' g 0 (compactUpTo d d.size).toArray
theorem holds_low {w : World} {g : Nat} {dk : Array St} (h : HoldsK St.cells 9 w g 0 dk) (R : List St) (hR : R.length ≤ dk.size) (he : ∀ j, (hj : j < R.length) → R[j] = dk[j]!) : HoldsK St.cells 9 w g 0 R.toArray := fun t ht => by
  rw [size_flatK, List.size_toArray] at ht
  have e : (flatK St.cells 9 R.toArray)[t]! = (flatK St.cells 9 dk)[t]! := by
    rw [get_flatK _ _ _ _ (by rw [List.size_toArray]; exact ht), get_flatK _ _ _ _ (by omega)]
    congr 2
    rw [getElem!_pos _ _ (by rw [List.size_toArray]; omega), List.getElem_toArray]
    exact he _ _
  rw [e]
  exact h t (by rw [size_flatK]; omega)
theorem holds_out {w : World} {g o : Nat} {d : Array St} (h : HoldsK St.cells 9 w g 0 d) (ho : d.size * 9 ≤ o) (vs : List Value) : HoldsK St.cells 9 (w.setCells g o vs) g 0 d := fun t ht => by
  obtain ⟨a, b⟩ := h t ht
  rw [size_flatK] at ht
  refine ⟨(World.cell?_setCells_out g vs o w ⟨g, 0 + t, none⟩ (fun _ _ => Or.inl (by show 0 + t < o; omega))).trans a, ?_⟩
  rw [World.frozen?_setCells]
  exact b
theorem holds_drewN {w : World} {g : Nat} {d : Array St} (h : HoldsK St.cells 9 w g 0 d) (n : Nat) : HoldsK St.cells 9 (w.drewN n) g 0 d := holdsK_ahead St.cells 9 w n g 0 d h
theorem all_post {g cap : Nat} {d : Array St} {w : World} (hH : HoldsK St.cells 9 w g 0 d) (hall : ∀ j, j < d.size → keeps d j = true) (n : Nat) : CompPost g cap d w (.returned (.slice (some ⟨g, 0, none⟩) d.size cap)) (w.drewN n) := by
  have e : compactUpTo d d.size = d.toList := by rw [compactUpTo_all d _ hall, range_map_get]
  refine ⟨?_, ?_, ?_, Nat.le_refl _, by rw [e, Array.toArray_toList]; exact holds_drewN hH n⟩
  · rw [e, Array.length_toList]
  · rw [e]
    refine StRow.of_holds (holds_drewN hH n) _ (by simp) fun j hj => ?_
    rw [getElem!_pos d j (by simpa using hj)]; simp
  · exact below_drewN (Below.refl _ _) _
/-- The nine cells of a row's element. -/
theorem nine {w : World} {g : Nat} {d : Array St} (h : HoldsK St.cells 9 w g 0 d) (j : Nat) (hj : j < d.size) : ∀ c u, d[j]!.cells[c]? = some u → w.cell? ⟨g, j * 9 + c, none⟩ = some u := fun c u hu => by
  have hc : c < 9 := by
    rcases Nat.lt_or_ge c 9 with h | h
    · exact h
    · rw [List.getElem?_eq_none (by show 9 ≤ c; exact h)] at hu; cases hu
  have q := (HoldsK.cell h (i := j) (c := c) hj hc).1
  rw [Nat.zero_add] at q
  rw [q, getElem!_pos _ _ (by rw [len9]; exact hc), ← List.getElem?_eq_getElem, hu]
theorem there_of {w : World} {g : Nat} {d : Array St} (h : HoldsK St.cells 9 w g 0 d) (i : Nat) (hi : i < d.size) : w.there g (i * 9) 9 := fun c hc => by
  have q := HoldsK.cell h (i := i) (c := c) hi hc
  rw [Nat.zero_add] at q
  exact ⟨by rw [q.1]; rfl, q.2⟩
theorem there_all {w : World} {g : Nat} {d : Array St} (h : HoldsK St.cells 9 w g 0 d) (i : Nat) (hi : i < d.size) : w.there g (i * 9) ((d.size - i) * 9) := fun c hc => by
  have q := HoldsK.cell h (i := i + c / 9) (c := c % 9) (by omega) (by omega)
  rw [Nat.zero_add, show (i + c / 9) * 9 + c % 9 = i * 9 + c by omega] at q
  exact ⟨by rw [q.1]; rfl, q.2⟩
theorem infoSz : (Try.prog.info? 26).map (·.size) = some 9 := by kernel_rfl
theorem stcell_one (x : St) : ∀ v ∈ x.cells, v.oneCell' = true := fun v hv => by
  simp [St.cells] at hv
  rcases hv with rfl | rfl | rfl | rfl | rfl | rfl | rfl | rfl | rfl <;> rfl
theorem store0 {W : World} {g : Nat} {d : Array St} (h : HoldsK St.cells 9 W g 0 d) (i : Nat) (hi : i < d.size) (x : St) : HoldsK St.cells 9 (W.setCells g (i * 9) x.cells) g 0 (d.setIfInBounds i x) := by
  have := holdsK_store len9 (by omega) h i hi x
  rw [Nat.zero_add] at this
  exact this
def clr (n : Nat) : List Value := (Builtin.zeroCells zeroS.val.cells n).toList
theorem clr_len (n : Nat) : (clr n).length = n * 9 := by
  unfold clr Builtin.zeroCells
  simp; rfl
theorem clr_one (n : Nat) : ∀ v ∈ clr n, v.oneCell' = true := by
  intro v hv
  unfold clr Builtin.zeroCells at hv
  simp at hv
  obtain ⟨i, hi, rfl⟩ := hv
  have h9 : zeroS.val.cells.size = 9 := rfl
  have hlt : i % zeroS.val.cells.size < 9 := by rw [h9]; omega
  generalize i % zeroS.val.cells.size = r at hlt
  match r, hlt with
  | 0, _ => rfl
  | 1, _ => rfl
  | 2, _ => rfl
  | 3, _ => rfl
  | 4, _ => rfl
  | 5, _ => rfl
  | 6, _ => rfl
  | 7, _ => rfl
  | 8, _ => rfl
theorem run_clear9 (w : World) (b o n c : Nat) (hn : 0 < n) (ht : w.there b o (n * 9)) (ty : TypeId) : (Builtin.clear_ #[22] ty #[.slice (some ⟨b, o, none⟩) n c]).run Try.prog w = .ok (.tuple #[]) (w.setCells b o (clr n)) := by
  have hst := run_storeCells_cells (P := Try.prog) b o (clr n) 0 w (fun j hj => by rw [clr_len] at hj; simpa using (ht j hj).1) (fun j hj => by rw [clr_len] at hj; simpa using (ht j hj).2) (clr_one n)
  simp only [Nat.add_zero] at hst
  obtain ⟨m, rfl⟩ : ∃ m, n = m + 1 := ⟨n - 1, by omega⟩
  have hv : (zeroValue 26).run Try.prog w = .ok zeroS.val w := Try.zeroValue26 w
  have hc : (Builtin.zeroCells zeroS.val.cells (m + 1)).toList = clr (m + 1) := rfl
  simp [Builtin.clear_, run_underlying Try.underlying22, hv, hc, hst]
theorem wp_clear_run {P : Program} (w : World) {o : Oper} {a : Act} {K : Act → World → Prop} {Q : Exit → Act → World → Prop} (s : Operand) (t : TypeId)
    (ho : o.op = .call { callee := .builtin .clear, args := #[s], argTypes := #[t] }) (vs : Value) (hs : a.eval s = vs)
    (v' : Value) (w' : World) (hr : (Builtin.clear_ #[t] o.type #[vs]).run P w = .ok v' w') (h : K (a.put o.dst v') w') : o.wp P a w K Q := by
  unfold Oper.wp execOp
  simp only [ho, resolve, invoke, builtin, Sem.run_bind, Sem.run_pure, Result.andThen_ok, List.map_toArray, List.map_cons, List.map_nil, hs, hr]
  exact h
theorem wpList_clear_run {P : Program} (w : World) {ops : Array Oper} {rest : List Oper} {o : Oper} {a : Act} {Q : Exit → Act → World → Prop} (hgd : o.guard = none) (s : Operand) (t : TypeId)
    (ho : o.op = .call { callee := .builtin .clear, args := #[s], argTypes := #[t] }) (vs : Value) (hs : a.eval s = vs)
    (v' : Value) (w' : World) (hr : (Builtin.clear_ #[t] o.type #[vs]).run P w = .ok v' w') (h : wpList P ops Q rest (a.put o.dst v') w') : wpList P ops Q (o :: rest) a w :=
  wpList_plain hgd fun _ hK => wp_clear_run w s t ho vs hs v' w' hr (hK _ _ h)
theorem StRow.set_out {w : World} {g o : Nat} {R : List St} (h : StRow w (some ⟨g, 0, none⟩) R) (ho : R.length * 9 ≤ o) (vs : List Value) : StRow (w.setCells g o vs) (some ⟨g, 0, none⟩) R := fun hp => by
  obtain ⟨g', hA, hg, hc⟩ := h hp
  injection hA with hA
  injection hA with hA
  subst hA
  refine ⟨g, rfl, by rw [size_setCells]; exact hg, fun j hj => ?_⟩
  have key : ∀ i, i < R.length * 9 → (w.setCells g o vs).cell? ⟨g, i, none⟩ = w.cell? ⟨g, i, none⟩ := fun i hi => World.cell?_setCells_out g vs o w ⟨g, i, none⟩ (fun _ _ => Or.inl (by show i < o; omega))
  rw [key _ (by omega), key _ (by omega), key _ (by omega), key _ (by omega), key _ (by omega), key _ (by omega), key _ (by omega), key _ (by omega), key _ (by omega)]
  exact hc j hj
theorem clear_post {g cap kk : Nat} {d dk : Array St} {w wr : World} (hH : HoldsK St.cells 9 wr g 0 dk) (hb : Below g w wr) (hs : w.heap.size ≤ wr.heap.size) (hI : CompInv d d.size kk dk) : CompPost g cap d w (.returned (.slice (some ⟨g, 0, none⟩) kk cap)) (wr.setCells g (kk * 9) (clr (dk.size - kk))) := by
  have hk := hI.lt
  have hz := hI.size
  refine ⟨by rw [hI.len], ?_, below_setCells (Nat.le_refl _) _ _ _ hb, by rw [size_setCells]; exact hs, holds_out (holds_low hH _ (by rw [hI.len]; omega) (inv_low hI rfl (by omega))) (by rw [List.size_toArray, hI.len]; exact Nat.le_refl _) _⟩
  refine StRow.set_out (StRow.of_holds hH _ (by rw [hI.len]; omega) (inv_low hI rfl (by omega))) (by rw [hI.len]; exact Nat.le_refl _) _
set_option maxHeartbeats 4000000 in
set_option maxRecDepth 1000000 in
theorem compSt (g cap : Nat) (d : Array St) (w : World) (hH : HoldsK St.cells 9 w g 0 d) (hg : g < w.heap.size) (hsz : d.size ≤ 100000) (hcap : d.size ≤ cap) :
    Calls Try.prog 79 #[.slice (some ⟨g, 0, none⟩) d.size cap] w (CompPost g cap d w) := by
  have HH := Lib.hid hH
  clear hH
  by_cases h2 : d.size < 2
  · have HS := Lib.hid (fun n => all_post (cap := cap) HH.out (fun j hj => keeps_lt_one d j (by omega)) n)
    go_enter Try.func79, Try.ntmps79
    go_wp2_with fail
    go_ret
    exact HS.out 0
  · go_enter Try.func79, Try.ntmps79
    go_wp2_with fail
    go_loopg [3] d.size (fun gh s3 wr => ∃ k q : Nat, 1 ≤ k ∧ k ≤ d.size ∧ d.size - k ≤ gh ∧ s3 = .int .i64 k ∧ wr = w.drewN q ∧ Hid (∀ j, j < k → keeps d j = true))
    case atStart => exact ⟨1, 0, Nat.le_refl _, by omega, by omega, rfl, rfl, Lib.hid (keeps_lt_one d)⟩
    case round =>
      obtain ⟨k, q, hk1, hk, hgh, rfl, rfl, hall⟩ := hrel
      by_cases hlt : k < d.size
      · have c1 := nine HH.out k hlt
        have c0 := nine HH.out (k - 1) (by omega)
        generalize hx : d[k]! = x at c1
        generalize hy : d[k - 1]! = y at c0
        have B := Lib.hid (And.intro hx hy)
        clear hx hy
        obtain ⟨k1, ⟨ho, hn⟩, wh, ⟨ao, an⟩, ⟨bo, bn⟩, v⟩ := x
        obtain ⟨k2, ⟨ho2, hn2⟩, wh2, ⟨ao2, an2⟩, ⟨bo2, bn2⟩, v2⟩ := y
        have a0 := c1 0 _ rfl
        have a1 := c1 1 _ rfl
        have a2 := c1 2 _ rfl
        have a3 := c1 3 _ rfl
        have a4 := c1 4 _ rfl
        have a5 := c1 5 _ rfl
        have a6 := c1 6 _ rfl
        have a7 := c1 7 _ rfl
        have a8 := c1 8 _ rfl
        have b0 := c0 0 _ rfl
        have b1 := c0 1 _ rfl
        have b2 := c0 2 _ rfl
        have b3 := c0 3 _ rfl
        have b4 := c0 4 _ rfl
        have b5 := c0 5 _ rfl
        have b6 := c0 6 _ rfl
        have b7 := c0 7 _ rfl
        have b8 := c0 8 _ rfl
        rw [Nat.add_zero] at a0 b0
        have p1 : (0 : Int) ≤ k := by omega
        have p2 : (k : Int) < d.size := by omega
        have p3 : (0 : Int) ≤ (k : Int) - 1 := by omega
        have p4 : (k : Int) - 1 < d.size := by omega
        have p5 : ((k : Int) - 1).toNat = k - 1 := by omega
        clear c0 c1
        by_cases hdup : (⟨k1, ⟨ho, hn⟩, wh, ⟨ao, an⟩, ⟨bo, bn⟩, v⟩ : St) = ⟨k2, ⟨ho2, hn2⟩, wh2, ⟨ao2, an2⟩, ⟨bo2, bn2⟩, v2⟩
        · have hq := fun w => eqS k1 ho hn wh ao an bo bn v k2 ho2 hn2 wh2 ao2 an2 bo2 bn2 v2 w
          rw [decide_eq_true (p := (⟨k1, ⟨ho, hn⟩, wh, ⟨ao, an⟩, ⟨bo, bn⟩, v⟩ : St) = ⟨k2, ⟨ho2, hn2⟩, wh2, ⟨ao2, an2⟩, ⟨bo2, bn2⟩, v2⟩) hdup] at hq
          have HD := Lib.hid hdup
          clear hdup
          go_wp2_with fail
          go_quiet (fail)
          go_wp2_with fail
          clear a0 a1 a2 a3 a4 a5 a6 a7 a8 b0 b1 b2 b3 b4 b5 b6 b7 b8 hq p3 p4 p5
          have hst := Lib.hid (CompInv.start hall.out (keeps_neg (by omega) (by rw [B.out.1, B.out.2]; exact HD.out)))
          clear HD B
          go_loopg [3, 5] d.size (fun gh2 s3 s5 wr => ∃ (kk kq : Nat) (dk : Array St), s3 = .int .i64 kk ∧ s5 = .int .i64 kq ∧ 1 ≤ kq ∧ k + kq ≤ d.size ∧ d.size - (k + kq) ≤ gh2 ∧ Hid (HoldsK St.cells 9 wr g 0 dk) ∧ Below g w wr ∧ w.heap.size ≤ wr.heap.size ∧ Hid (CompInv d (k + kq) kk dk))
          case atStart => exact ⟨k, 1, d, rfl, rfl, Nat.le_refl _, by omega, by omega, Lib.hid (holds_drewN HH.out _), below_drewN (Below.refl _ _) _, Nat.le_refl _, hst⟩
          case round =>
            obtain ⟨kk, kq, dk, rfl, rfl, h1, hle, hg2, hHk, hbel, hszr, hI⟩ := hrel
            have hkk := hI.out.lt
            have hds := hI.out.size
            by_cases hlt2 : k + kq < d.size
            · have c1 := nine hHk.out (k + kq) (by omega)
              have c0 := nine hHk.out (k + kq - 1) (by omega)
              rw [hI.out.high (k + kq) (by omega)] at c1
              rw [hI.out.high (k + kq - 1) (by omega)] at c0
              generalize hx : d[k + kq]! = x at c1
              generalize hy : d[k + kq - 1]! = y at c0
              have C := Lib.hid (And.intro hx hy)
              clear hx hy
              have hth := Lib.hid (fun n => there_of (holds_drewN hHk.out n) kk (by omega))
              obtain ⟨k1, ⟨ho, hn⟩, wh, ⟨ao, an⟩, ⟨bo, bn⟩, v⟩ := x
              obtain ⟨k2, ⟨ho2, hn2⟩, wh2, ⟨ao2, an2⟩, ⟨bo2, bn2⟩, v2⟩ := y
              have a0 := c1 0 _ rfl
              have a1 := c1 1 _ rfl
              have a2 := c1 2 _ rfl
              have a3 := c1 3 _ rfl
              have a4 := c1 4 _ rfl
              have a5 := c1 5 _ rfl
              have a6 := c1 6 _ rfl
              have a7 := c1 7 _ rfl
              have a8 := c1 8 _ rfl
              have b0 := c0 0 _ rfl
              have b1 := c0 1 _ rfl
              have b2 := c0 2 _ rfl
              have b3 := c0 3 _ rfl
              have b4 := c0 4 _ rfl
              have b5 := c0 5 _ rfl
              have b6 := c0 6 _ rfl
              have b7 := c0 7 _ rfl
              have b8 := c0 8 _ rfl
              rw [Nat.add_zero] at a0 b0
              rw [show (k + kq) * 9 = k * 9 + kq * 9 by omega] at a0 a1 a2 a3 a4 a5 a6 a7 a8
              rw [show (k + kq - 1) * 9 = k * 9 + (kq - 1) * 9 by omega] at b0 b1 b2 b3 b4 b5 b6 b7 b8
              have q1 : (0 : Int) ≤ kq := by omega
              have q2 : (kq : Int) < (d.size - k : Nat) := by omega
              have q3 : (0 : Int) ≤ (kq : Int) - 1 := by omega
              have q4 : (kq : Int) - 1 < (d.size - k : Nat) := by omega
              have q5 : ((kq : Int) - 1).toNat = kq - 1 := by omega
              have q6 : (0 : Int) ≤ kk := by omega
              have q7 : (kk : Int) < d.size := by omega
              clear c0 c1
              by_cases hdup : (⟨k1, ⟨ho, hn⟩, wh, ⟨ao, an⟩, ⟨bo, bn⟩, v⟩ : St) = ⟨k2, ⟨ho2, hn2⟩, wh2, ⟨ao2, an2⟩, ⟨bo2, bn2⟩, v2⟩
              · have hq := fun w => neS k1 ho hn wh ao an bo bn v k2 ho2 hn2 wh2 ao2 an2 bo2 bn2 v2 w
                rw [decide_eq_true (p := (⟨k1, ⟨ho, hn⟩, wh, ⟨ao, an⟩, ⟨bo, bn⟩, v⟩ : St) = ⟨k2, ⟨ho2, hn2⟩, wh2, ⟨ao2, an2⟩, ⟨bo2, bn2⟩, v2⟩) hdup] at hq
                have HD := Lib.hid hdup
                clear hdup
                go_wp2_with fail
                go_quiet (fail)
                go_wp2_with fail
                go_roundg (d.size - (k + (kq + 1)))
                case measure => omega
                case rel => exact ⟨kk, kq + 1, dk, rfl, by go_num, by omega, by omega, Nat.le_refl _, Lib.hid (holds_drewN hHk.out _), below_drewN hbel _, hszr, Lib.hid (hI.out.skip (keeps_neg (by omega) (by rw [C.out.1, C.out.2]; exact HD.out)))⟩
              · have hq := fun w => neS k1 ho hn wh ao an bo bn v k2 ho2 hn2 wh2 ao2 an2 bo2 bn2 v2 w
                rw [decide_eq_false (p := (⟨k1, ⟨ho, hn⟩, wh, ⟨ao, an⟩, ⟨bo, bn⟩, v⟩ : St) = ⟨k2, ⟨ho2, hn2⟩, wh2, ⟨ao2, an2⟩, ⟨bo2, bn2⟩, v2⟩) hdup] at hq
                have HD := Lib.hid hdup
                clear hdup
                go_wp2_with fail
                go_quiet (fail)
                go_wp2_with ((with_reducible refine wpList_store_mid (op := ⟨none, .store 26 (.tmp 51) (.tmp 50), _, _, _, none⟩) ?_ 26 (.tmp 51) (.tmp 50) ?_ g (kk * 9) (St.cells ⟨k1, ⟨ho, hn⟩, wh, ⟨ao, an⟩, ⟨bo, bn⟩, v⟩).toArray ?_ ?_ ?_ ?_ ?_ ?_); (rfl); (rfl); (simp [Act.eval]); (simp [Act.eval, St.cells]); (exact hth.out _); (exact infoSz); (exact all_oneCell_toArray (stcell_one _)))
                go_roundg (d.size - (k + (kq + 1)))
                case measure => omega
                case rel =>
                  refine ⟨kk + 1, kq + 1, dk.setIfInBounds kk ⟨k1, ⟨ho, hn⟩, wh, ⟨ao, an⟩, ⟨bo, bn⟩, v⟩, by go_num, by go_num, by omega, by omega, Nat.le_refl _, Lib.hid ?_, below_setCells (Nat.le_refl _) _ _ _ (below_drewN hbel _), by rw [size_setCells]; exact hszr, Lib.hid ?_⟩
                  · exact store0 (holds_drewN hHk.out _) kk (by omega) _
                  · have := hI.out.keep hlt2 (keeps_pos (by rw [C.out.1, C.out.2]; exact HD.out))
                    rw [C.out.1] at this
                    exact this
            · have hend : k + kq = d.size := by omega
              have hfin := Lib.hid (clear_post (cap := cap) hHk.out hbel hszr (hend ▸ hI.out))
              have hth := Lib.hid (there_all hHk.out kk (by omega))
              have hlen := Lib.hid ((hend ▸ hI.out : CompInv d d.size kk dk).len)
              rw [hds] at hth
              clear hHk hI hend
              go_wp2_with ((with_reducible refine wpList_clear_run (o := ⟨none, .call { callee := .builtin .clear, args := #[.tmp 56], argTypes := #[22] }, _, _, _, none⟩) _ ?_ (.tmp 56) 22 ?_ (.slice (some ⟨g, kk * 9, none⟩) (d.size - kk) (cap - kk)) ?_ (.tuple #[]) (wr.setCells g (kk * 9) (clr (d.size - kk))) ?_ ?_); (rfl); (rfl); (simp [Act.eval]); (exact run_clear9 _ g (kk * 9) (d.size - kk) (cap - kk) (by omega) hth.out _))
              go_ret
              rw [hds] at hfin
              exact hfin.out
        · have hq := fun w => eqS k1 ho hn wh ao an bo bn v k2 ho2 hn2 wh2 ao2 an2 bo2 bn2 v2 w
          rw [decide_eq_false (p := (⟨k1, ⟨ho, hn⟩, wh, ⟨ao, an⟩, ⟨bo, bn⟩, v⟩ : St) = ⟨k2, ⟨ho2, hn2⟩, wh2, ⟨ao2, an2⟩, ⟨bo2, bn2⟩, v2⟩) hdup] at hq
          have HD := Lib.hid hdup
          clear hdup
          go_wp2_with fail
          go_quiet (fail)
          go_wp2_with fail
          go_roundg (d.size - (k + 1))
          case measure => omega
          case rel =>
            refine ⟨k + 1, _, by omega, by omega, Nat.le_refl _, by go_num, rfl, Lib.hid fun j hj => ?_⟩
            by_cases e : j = k
            · subst e
              exact keeps_pos (by rw [B.out.1, B.out.2]; exact HD.out)
            · exact hall.out j (by omega)
      · have : k = d.size := by omega
        subst this
        have HS := Lib.hid (fun n => all_post (cap := cap) HH.out hall.out n)
        clear hall
        go_wp2_with fail
        go_ret
        exact HS.out _
end Go.Proofs.Ytpjacngbkohmdaa.SynD8
/- syn.Sort, by contract. -/
namespace Go.Proofs.Ytpjacngbkohmdaa.SynD9
set_option linter.unusedVariables false
set_option linter.unusedSimpArgs false
open Go.Shelf Go.RowKit Go.Sort Go.Lib Go.Proofs Go.Proofs.Ytpjacngbkohmdaa.Plain Go.Proofs.Ytpjacngbkohmdaa.SynP Go.Proofs.Ytpjacngbkohmdaa.Grown Go.Proofs.Ytpjacngbkohmdaa.SynE Go.Proofs.Ytpjacngbkohmdaa.SynD Go.Proofs.Ytpjacngbkohmdaa.SynD2 Go.Proofs.Ytpjacngbkohmdaa.SynD3 Go.Proofs.Ytpjacngbkohmdaa.SynD5 Go.Proofs.Ytpjacngbkohmdaa.SynD6 Go.Proofs.Ytpjacngbkohmdaa.SynD7 Go.Proofs.Ytpjacngbkohmdaa.SynD8
set_option linter.unusedVariables false
set_option linter.unusedSimpArgs false
set_option maxHeartbeats 1000000 in
theorem compNone (a : Option Addr) (cap : Nat) (w : World) : Calls Try.prog 79 #[.slice a 0 cap] w fun e w' => e = .returned (.slice a 0 cap) ∧ w' = w := by
  go_enter Try.func79, Try.ntmps79
  go_wp2_with fail
  go_ret
  exact ⟨rfl, rfl⟩
theorem below_sortK {w : World} {g off n : Nat} {d : Array St} {os : Array Obj} (hg : g < w.heap.size) : Below g w (sortWorldK St.cells 9 w g off n d os) :=
  ⟨rfl, rfl, rfl, size_sortWorldK_c St.cells 9 w g off n d os, fun k hk => by
    unfold sortWorldK
    rw [heap_grow_old _ _ (by rw [size_putRowK]; exact Nat.lt_trans hk hg)]
    unfold putRowK putRow mapBlock
    show (Array.modify (Sort.ahead w n).heap g _)[k]? = _
    rw [Array.getElem?_modify, if_neg (by omega)]; rfl⟩
def SortPost (L : List St) (w : World) (e : Ending) (w' : World) : Prop := ∃ A c, e = .returned (.slice A (sortL cmpS [] L).length c) ∧ StRow w' A (sortL cmpS [] L) ∧ Below w.heap.size w w'
set_option maxHeartbeats 1000000 in
set_option maxRecDepth 100000 in
theorem sort (A : Option Addr) (ca : Nat) (L : List St) (w : World) (hL : L.length ≤ 1000) (hA : StAt w A L) : Calls Try.prog 60 #[.slice A L.length ca] w (SortPost L w) := by
  go_enter Try.func60, Try.ntmps60
  go_wp2_with fail
  refine (cloneSt A ca L w (by omega) hA).mono ?_
  rintro e w1 ⟨v, rfl, hown, hb1⟩
  rcases holds_own hown with ⟨rfl, rfl⟩ | ⟨g, cap, rfl, hc, hB, hg, hH⟩
  · clear hown
    go_wp2_with fail
    refine (AnyF.slices_SortFunc_none laidSort none 0 (.func (.func 67) #[] #[]) w1).mono ?_
    rintro e w2 ⟨rfl, rfl⟩
    go_wp2_with fail
    refine (compNone none 0 _).mono ?_
    rintro e w3 ⟨rfl, rfl⟩
    go_wp2_with fail
    go_ret
    exact ⟨none, 0, rfl, (fun h => by simp [sortL] at h), hb1⟩
  · clear hown
    have HS := Lib.hid (sortSt g 0 cap L.toArray w1 hH hg (by simp; omega))
    have HH := Lib.hid hH
    clear hH hA
    go_wp2_with fail
    refine (HS.out).mono ?_
    rintro e w2 ⟨rfl, d', n, os, hp, hs, hw2⟩
    have hz : d'.size = L.length := hp.1.trans (by simp)
    have hH2 : HoldsK St.cells 9 w2 g 0 d' := by rw [hw2]; exact holdsK_sortWorldK_c St.cells 9 w1 g 0 L.toArray d' n os HH.out hg (by rw [hz]; simp)
    have hb2 : Below g w1 w2 := by rw [hw2]; exact below_sortK hg
    have hgg : g < w2.heap.size := Nat.lt_of_lt_of_le hg (by rw [hw2]; exact size_sortWorldK_c St.cells 9 w1 g 0 n d' os)
    have HU := Lib.hid (sorted_up hp hs)
    have HC := Lib.hid (compSt g cap d' w2 hH2 hgg (by omega) (by omega))
    rw [hz] at HC
    clear hw2 hp hs hH2
    go_wp2_with fail
    refine (HC.out).mono ?_
    rintro e w3 ⟨rfl, hrow, hb3, hz3⟩
    have E : compactUpTo d' L.length = sortL cmpS [] L := by rw [← hz]; exact HU.out
    have hrow' : StRow w3 (some ⟨g, 0, none⟩) (sortL cmpS [] L) := HU.out ▸ hrow
    have HE := Lib.hid E
    clear E
    go_wp2_with fail
    go_ret
    exact ⟨some ⟨g, 0, none⟩, cap, by rw [← HE.out]; rfl, hrow', hb1.trans ((hb2.trans (hb3.mono (Nat.le_refl _))).mono hB)⟩
end Go.Proofs.Ytpjacngbkohmdaa.SynD9
/- The document's way to sort statements, by contract: what is wanted of its loops. -/
namespace Go.Proofs.Ytpjacngbkohmdaa.SynDA
set_option linter.unusedVariables false
set_option linter.unusedSimpArgs false
open Go.RowKit Go.Sort Go.Lib Go.Proofs Go.Proofs.Ytpjacngbkohmdaa.Plain Go.Proofs.Ytpjacngbkohmdaa.SynP Go.Proofs.Ytpjacngbkohmdaa.Grown Go.Proofs.Ytpjacngbkohmdaa.SynC Go.Proofs.Ytpjacngbkohmdaa.SynD Go.Proofs.Ytpjacngbkohmdaa.SynD2 Go.Proofs.Ytpjacngbkohmdaa.SynD3
set_option linter.unusedVariables false
set_option linter.unusedSimpArgs false
section
variable {α : Type} {c : α → α → Int}
theorem sortL_snoc [DecidableEq α] : ∀ (l acc : List α) (s : α), sortL c acc (l ++ [s]) = if s ∈ sortL c acc l then sortL c acc l else insL c s (sortL c acc l)
  | [], acc, s => rfl
  | x :: t, acc, s => by
    show sortL c _ (t ++ [s]) = _
    rw [sortL_snoc t]; rfl
theorem insL_len (s : α) : ∀ l : List α, (insL c s l).length = l.length + 1
  | [] => rfl
  | x :: t => by
    unfold insL
    split
    · rw [List.length_cons, insL_len s t]; rfl
    · rfl
theorem sortL_len [DecidableEq α] : ∀ (l acc : List α), (sortL c acc l).length ≤ acc.length + l.length
  | [], acc => by simp [sortL]
  | x :: t, acc => by
    unfold sortL
    refine Nat.le_trans (sortL_len t _) ?_
    split
    · simp
    · rw [insL_len]; simp; omega
theorem insL_at (s : α) : ∀ (l : List α) (k : Nat), k ≤ l.length → (∀ j, j < k → (h : j < l.length) → c l[j] s < 0) → ((h : k < l.length) → ¬ c l[k] s < 0) → insL c s l = l.take k ++ s :: l.drop k
  | [], k, hk, _, _ => by
    have : k = 0 := by simpa using hk
    subst this; rfl
  | x :: t, 0, _, _, h => by
    have this : ¬ c x s < 0 := h (by simp)
    unfold insL
    rw [if_neg this]; rfl
  | x :: t, k + 1, hk, h1, h2 => by
    have h0 : c x s < 0 := h1 0 (by omega) (by simp)
    unfold insL
    rw [if_pos h0, insL_at s t k (by simpa using hk) (fun j hj h => h1 (j + 1) (by omega) (by simpa using h)) (fun h => h2 (by simpa using h))]
    rfl
end
theorem own_keep {w w' : World} {base : Nat} {e : TypeId} {size : Nat} {v : Value} {n : Nat} {xs : List Value} (h : w.ownsRow base e size v n xs) (hb : Below w.heap.size w w') : w'.ownsRow base e size v n xs := by
  refine ⟨h.1, ?_⟩
  rcases h.2 with hn | ⟨g, cap, cur, rfl, hB, hg, rest⟩
  · exact .inl hn
  · exact .inr ⟨g, cap, cur, rfl, hB, (hb.block g (h.lt g rfl).2).trans hg, rest⟩
theorem own_more {w : World} {B B' : Nat} {e : TypeId} {size n : Nat} {v : Value} {xs : List Value} (h : w.ownsRow B e size v n xs) (hB : B' ≤ B) : w.ownsRow B' e size v n xs := by
  refine ⟨h.1, ?_⟩
  rcases h.2 with hn | ⟨g, cap, cur, rfl, hb, rest⟩
  · exact .inl hn
  · exact .inr ⟨g, cap, cur, rfl, by omega, rest⟩
theorem own_form {w : World} {B : Nat} {e : TypeId} {size : Nat} {v : Value} {n : Nat} {xs : List Value} (h : w.ownsRow B e size v n xs) : ∃ A c, v = .slice A n c := by
  rcases h.2 with ⟨rfl, rfl⟩ | ⟨g, cap, cur, rfl, _⟩
  · exact ⟨_, _, rfl⟩
  · exact ⟨_, _, rfl⟩
theorem step_append_from {P : Program} {ops : Array Oper} {o : Oper} {a : Act} {w : World} {K : Act → World → Prop} {Q : Exit → Act → World → Prop} {E : Prop} (hgd : o.guard = none) (s x : Operand) (t : TypeId)
    (ho : o.op = .call { callee := .builtin .append, args := #[s, x], argTypes := #[t, t] })
    (base : Nat) (e : TypeId) (i : TypeInfo) (z : Value) (size bytes : Nat) (ht : P.underlying t = some (.slice e)) (hi : P.info? e = some i) (hz : i.zero = some z)
    (hsize : i.size = size) (hby : i.bytes = bytes) (hzs : z.cells.size = size) (hsz : 0 < size) (v : Value) (n : Nat) (xs : List Value) (hs : a.eval s = v) (hown : w.ownsRow base e size v n xs)
    (A : Option Addr) (m c : Nat) (news : List Value) (hx : a.eval x = .slice A m c) (hlen : news.length = m * size) (h0 : A = none → m = 0) (hA : ∀ ad, A = some ad → ∀ j u, news[j]? = some u → w.cell? (ad.add j) = some u) (h1 : ∀ u ∈ news, u.oneCell' = true)
    (h63 : n + m ≤ maxLen) (hbytes : (n + m) * bytes ≤ 140737488355328) (hbase : base ≤ w.heap.size)
    (h : ∀ v' w', w'.ownsRow base e size v' (n + m) (xs ++ news) → w.grownBy w' v.ownBlock → K (a.put o.dst v') w') :
    if Region.wanted o (yielded ops a.tmps) = true then Oper.wp P o a w K Q else E := by
  have hw : Region.wanted o (yielded ops a.tmps) = true := by simp [Region.wanted, hgd]
  rw [if_pos hw]
  obtain ⟨v', w', hrun, h2, h3⟩ := run_append_from (P := P) w base t o.type e i z size bytes ht hi hz hsize hby hzs hsz v n xs hown A m c news hlen h0 hA h1 h63 hbytes hbase
  unfold Oper.wp
  simp [execOp, ho, resolve, invoke, builtin, hs, hx, hrun, Result.andThen]
  exact h v' w' h2 h3
/-- The row that is left behind a put. -/
theorem own_put {w : World} {B B' k : Nat} {v : Value} {M M' : List St} {s : St} (h : w.ownsRow B' 26 9 v (k + 1 + (M.length - k)) ((stCells (M.take k) ++ s.cells) ++ stCells (M.drop k))) (hk : k ≤ M.length) (hM : M' = M.take k ++ s :: M.drop k) (hB : B ≤ B') : ∃ A c, v = .slice A M'.length c ∧ w.ownsRow B 26 9 (.slice A M'.length c) M'.length (stCells M') := by
  have hl : M'.length = k + 1 + (M.length - k) := by rw [hM]; simp; omega
  have hc : stCells M' = (stCells (M.take k) ++ s.cells) ++ stCells (M.drop k) := by rw [hM, stCells_app, stCells_cons, List.append_assoc]
  rw [← hl, ← hc] at h
  obtain ⟨A, c, rfl⟩ := own_form h
  exact ⟨A, c, rfl, own_more h hB⟩
theorem take_cells (M : List St) (k : Nat) (hk : k ≤ M.length) : (stCells (M.take k)).length = k * 9 := by rw [stCells_len, List.length_take, Nat.min_eq_left hk]
theorem drop_cells (M : List St) (k : Nat) : (stCells (M.drop k)).length = (M.length - k) * 9 := by rw [stCells_len, List.length_drop]
/-- The cells of the rest of a row. -/
theorem drop_at {w : World} {g k : Nat} {M : List St} (h : ∀ j u, (stCells M)[j]? = some u → w.cell? ⟨g, j, none⟩ = some u) (hk : k ≤ M.length) : ∀ j u, (stCells (M.drop k))[j]? = some u → w.cell? ⟨g, k * 9 + j, none⟩ = some u := fun j u hu => by
  refine h _ _ ?_
  rw [show stCells M = stCells (M.take k) ++ stCells (M.drop k) by rw [← stCells_app, List.take_append_drop], List.getElem?_append_right (by rw [take_cells M k hk]; omega), take_cells M k hk, show k * 9 + j - k * 9 = j by omega]
  exact hu
theorem take_at {w : World} {g k : Nat} {M : List St} (h : ∀ j u, (stCells M)[j]? = some u → w.cell? ⟨g, j, none⟩ = some u) (hk : k ≤ M.length) : ∀ j u, (stCells (M.take k))[j]? = some u → w.cell? ⟨g, j, none⟩ = some u := fun j u hu => by
  refine h _ _ ?_
  have hj : j < (stCells (M.take k)).length := by
    rcases Nat.lt_or_ge j (stCells (M.take k)).length with h | h
    · exact h
    · rw [List.getElem?_eq_none h] at hu; cases hu
  rw [show stCells M = stCells (M.take k) ++ stCells (M.drop k) by rw [← stCells_app, List.take_append_drop], List.getElem?_append_left hj]
  exact hu
theorem at_own {w : World} {B g n c : Nat} {M : List St} (h : w.ownsRow B 26 9 (.slice (some ⟨g, 0, none⟩) n c) n (stCells M)) : ∀ j u, (stCells M)[j]? = some u → w.cell? ⟨g, j, none⟩ = some u := fun j u hu => by
  have q := h.cells (g := g) rfl j u hu
  rwa [add_off, Nat.zero_add] at q
theorem stcell_one (x : St) : ∀ v ∈ x.cells, v.oneCell' = true := fun v hv => by
  simp [St.cells] at hv
  rcases hv with rfl | rfl | rfl | rfl | rfl | rfl | rfl | rfl | rfl <;> rfl
theorem cap_le {w : World} {B n c : Nat} {A : Option Addr} {M : List St} (h : w.ownsRow B 26 9 (.slice A n c) n (stCells M)) : n ≤ c := by
  rcases h.2 with ⟨e, h0⟩ | ⟨g, cap, cur, e, hB, hh, hc, _⟩
  · omega
  · injection e with e1 e2 e3
    subst e3; exact hc
theorem own_ways {w : World} {B c : Nat} {A : Option Addr} {M : List St} (h : w.ownsRow B 26 9 (.slice A M.length c) M.length (stCells M)) : (A = none ∧ c = 0 ∧ M.length = 0) ∨ ∃ g, A = some ⟨g, 0, none⟩ := by
  rcases h.2 with ⟨e, h0⟩ | ⟨g, cap, cur, e, _⟩
  · injection e with e1 e2 e3
    exact .inl ⟨e1, e3, h0⟩
  · injection e with e1 e2 e3
    exact .inr ⟨g, e1⟩
theorem at_drop {w : World} {B k : Nat} {v : Value} {M : List St} (h : w.ownsRow B 26 9 v (M.length - k) (stCells (M.drop k))) : ∃ A c, v = .slice A (M.length - k) c ∧ StAt w A (M.drop k) := by
  have hl : (M.drop k).length = M.length - k := List.length_drop
  rw [← hl] at h
  obtain ⟨A, c, e, _, hat⟩ := StAt.of_own h
  rw [hl] at e
  exact ⟨A, c, e, hat⟩
theorem drop_new {Z : World} {B g n c k : Nat} {M : List St} {ad : Addr} (h : Z.ownsRow B 26 9 (.slice (some ⟨g, 0, none⟩) n c) n (stCells M)) (e : (some ⟨g, k * 9, none⟩ : Option Addr) = some ad) (hk : k ≤ M.length) : ∀ j u, (stCells (M.drop k))[j]? = some u → (Z.alloc (.cells #[] 26)).cell? (ad.add j) = some u := fun j u hu => by
  injection e with e
  subst e
  rw [add_off, World.cell?_alloc_past _ _ _ (h.lt g rfl).2]
  exact drop_at (at_own h) hk j u hu
theorem olds_at {X : World} {B c k : Nat} {A : Option Addr} {M : List St} {o : Obj} (h : X.ownsRow B 26 9 (.slice A M.length c) M.length (stCells M)) (hk : k ≤ M.length) : ∀ b, A = some b → ∀ j u, (stCells (M.take k))[j]? = some u → (X.drew.alloc o).cell? (b.add j) = some u := fun b e j u hu => by
  rcases own_ways h with ⟨rfl, _⟩ | ⟨g, rfl⟩
  · cases e
  · injection e with e
    subst e
    have hlt : g < X.drew.heap.size := (h.lt g rfl).2
    rw [add_off, Nat.zero_add, World.cell?_alloc_past _ _ _ hlt]
    exact take_at (at_own h) hk j u hu
theorem olds_none {X : World} {B c k : Nat} {A : Option Addr} {M : List St} (h : X.ownsRow B 26 9 (.slice A M.length c) M.length (stCells M)) (hk : k ≤ M.length) : A = none → k = 0 ∧ k = 0 := fun e => by
  rcases own_ways h with ⟨_, _, h0⟩ | ⟨g, rfl⟩
  · omega
  · cases e
theorem new_at (X : World) (s : St) : ∀ j u, s.cells[j]? = some u → (X.alloc (.cells s.cells.toArray 26)).cell? ((⟨X.heap.size, 0, none⟩ : Addr).add j) = some u := fun j u hu => by
  rw [add_off, Nat.zero_add, Lib.cell_of_heap (heap_alloc_new X _)]
  simpa using hu
theorem rest_none {w : World} {A : Option Addr} {M : List St} {k : Nat} (h : StAt w A (M.drop k)) : A = none → M.length - k = 0 := fun e => by
  rcases Nat.eq_zero_or_pos (M.drop k).length with h0 | h0
  · rwa [List.length_drop] at h0
  · obtain ⟨g, o, hA, _⟩ := h h0
    rw [hA] at e; cases e
theorem rest_at {w w4 : World} {A : Option Addr} {M : List St} {k : Nat} {o : Obj} (h : StAt w A (M.drop k)) (hg : (w.drew.alloc o).grownBy w4 none) : ∀ ad, A = some ad → ∀ j u, (stCells (M.drop k))[j]? = some u → w4.cell? (ad.add j) = some u := fun ad e j u hu => by
  have hp : 0 < (M.drop k).length := by
    rcases Nat.eq_zero_or_pos (M.drop k).length with h0 | h0
    · rw [List.eq_nil_of_length_eq_zero h0] at hu; simp [stCells] at hu
    · exact h0
  have hb : Below w.heap.size w w4 := (((Below.refl _ _).drew).alloc (Nat.le_refl _) _).grown hg (by simp) (fun _ h => by cases h)
  obtain ⟨g, o', hA, hgz, hc⟩ := h hp
  rw [hA] at e
  injection e with e
  subst e
  rw [add_off]
  exact (hb.cell (p := ⟨g, o' + j, none⟩) hgz).trans (hc j u hu)
theorem below_fin {w w3 w4 w5 : World} {o : Obj} {v : Value} {n : Nat} {xs : List Value} (hb : Below w.heap.size w w3) (hs : w.heap.size ≤ w3.heap.size) (hown : w4.ownsRow (w3.drew.alloc o).heap.size 26 9 v n xs) (hg4 : (w3.drew.alloc o).grownBy w4 none) (hg5 : w4.grownBy w5 v.ownBlock) : Below w.heap.size w w5 := by
  have h4 : Below w.heap.size w w4 := ((hb.drew).alloc (by simpa using hs) _).grown hg4 (by simp; omega) (fun _ h => by cases h)
  exact h4.grown hg5 h4.size (fun k hk => by have := (hown.lt k hk).1; simp at this; omega)
end Go.Proofs.Ytpjacngbkohmdaa.SynDA
