/- Rows of rules: their cells, a copy; slices.Compact and slices.SortFunc at rules, by contract. -/
import Derived.Test.YtcmdiomjhideiaaGreatDoorM20
import Derived.Test.YtcmdiomjhideiaaGreatDoorM18
import Derived.Test.YtcmdiomjhideiaaGreatDoorM04
import Derived.Test.YtcmdiomjhideiaaGreatDoorSemS
import Derived.Test.YtcmdiomjhideiaaGreatDoorM08
import Derived.Sort.WalkB12
import Derived.Lib.SliceRun
import Derived.Lib.SlicesCompact
import Derived.Deep.LoopGhost
import Derived.Deep.Draws
import Derived.Shelf.RegionOpenPlain
import Derived.Deep.MidRow
import Derived.Lib.LazyBuf
import Derived.Lib.AppendZeros
import Derived.Shelf.SlSortCmp.NoneTotal
import Derived.Deep.RegionHeld3
import Derived.Test.YtcmdiomjhideiaaGreatDoorM16
import Derived.Test.YtcmdiomjhideiaaGreatDoorM10
namespace Go.Proofs.YtcmdiomjhideiaaGreatDoor.RuK
set_option linter.unusedVariables false
set_option linter.unusedSimpArgs false
open Go.Shelf Go.RowKit Go.Sort Go.Lib Go.Proofs Go.Proofs.YtcmdiomjhideiaaGreatDoor.Plain Go.Proofs.YtcmdiomjhideiaaGreatDoor.SynP Go.Proofs.YtcmdiomjhideiaaGreatDoor.SynC Go.Proofs.YtcmdiomjhideiaaGreatDoor.SynD Go.Proofs.YtcmdiomjhideiaaGreatDoor.SynD7 Go.Proofs.YtcmdiomjhideiaaGreatDoor.TblC Go.Proofs.YtcmdiomjhideiaaGreatDoor.TblV Go.Proofs.YtcmdiomjhideiaaGreatDoor.TblP Go.Proofs.YtcmdiomjhideiaaGreatDoor.RuO Go.Proofs.YtcmdiomjhideiaaGreatDoor.SemS
set_option linter.unusedVariables false
set_option linter.unusedSimpArgs false
theorem eqG (k h x a b v k2 h2 x2 a2 b2 v2 : Int) (w : World) : (binOp .eql 143 (.agg #[.int .i64 k, .int .i64 h, .int .i64 x, .int .i64 a, .int .i64 b, .int .i64 v]) (.agg #[.int .i64 k2, .int .i64 h2, .int .i64 x2, .int .i64 a2, .int .i64 b2, .int .i64 v2])).run Tryz.prog w = .ok (.bool (decide ((⟨k, h, x, a, b, v⟩ : Ru) = ⟨k2, h2, x2, a2, b2, v2⟩))) w := by
  simp only [go_sem, Ru.mk.injEq]
  go_simp
  by_cases e0 : k = k2
  rotate_left
  · simp [e0]
  subst e0
  by_cases e1 : h = h2
  rotate_left
  · simp [e1]
  subst e1
  by_cases e2 : x = x2
  rotate_left
  · simp [e2]
  subst e2
  by_cases e3 : a = a2
  rotate_left
  · simp [e3]
  subst e3
  by_cases e4 : b = b2
  rotate_left
  · simp [e4]
  subst e4
  by_cases e5 : v = v2
  rotate_left
  · simp [e5]
  subst e5
  simp
theorem infoRu : (Tryz.prog.info? 143).map (fun i => (i.zero, i.size, i.bytes)) = some (some zeroU.val, 6, 48) := by kernel_rfl
theorem ucells_one (L : List Ru) : ∀ u ∈ cellsR L, u.oneCell' = true := by
  intro u hu
  unfold cellsR at hu
  rw [List.mem_flatMap] at hu
  obtain ⟨r, _, hu⟩ := hu
  simp [Ru.cells] at hu
  rcases hu with rfl | rfl | rfl | rfl | rfl | rfl <;> rfl
theorem ug_none {w : World} {l : List Ru} (h : UG w none l) : l = [] := by
  cases l with
  | nil => rfl
  | cons t l => obtain ⟨g, o, e, _⟩ := h (by simp); cases e
theorem ug_cells {w : World} {A : Option Addr} {L : List Ru} (h : UG w A L) : ∀ ad, A = some ad → ∀ j u, (cellsR L)[j]? = some u → w.cell? (ad.add j) = some u := by
  rintro ad rfl j u hu
  have hj : j < L.length * 6 := by
    rw [← cellsR_len]
    rcases Nat.lt_or_ge j (cellsR L).length with h | h
    · exact h
    · rw [List.getElem?_eq_none h] at hu; cases hu
  obtain ⟨g, o, e, hg, hc⟩ := h (by omega)
  injection e with e
  subst e
  have a := hc (j / 6) (by omega) (j % 6) (by omega)
  have q := cellsR_at L (j / 6) (j % 6) (by omega) (by omega)
  rw [show j / 6 * 6 + j % 6 = j by omega] at q
  rw [SynC.add_off, ← hu, q, ← a]
  congr 2
  omega
def CloneUPost (L : List Ru) (w : World) (e : Ending) (w' : World) : Prop := ∃ v, e = .returned v ∧ w'.ownsRow w.heap.size 143 6 v L.length (cellsR L) ∧ RowKit.Below w.heap.size w w'
set_option maxRecDepth 100000 in
theorem cloneU (A : Option Addr) (ca : Nat) (L : List Ru) (w : World) (hL : L.length ≤ 10000) (hA : UG w A L) : Calls Tryz.prog 164 #[.slice A L.length ca] w (CloneUPost L w) := by
  obtain ⟨i0, hi, hz0, hz1, hz2⟩ := info_parts infoRu
  cases A with
  | none =>
    obtain rfl := ug_none hA
    have es := fun (w : World) (a : Option Addr) (n c : Nat) => Lib.run_eql_slice_nil (P := Tryz.prog) w 96 143 a n c 0 0 Tryz.underlying96
    go_enter Tryz.func164, Tryz.ntmps164
    go_wp2_with fail
    go_ret
    exact ⟨_, rfl, World.ownsRow_nil _ _ _ _, Below.refl _ _⟩
  | some ad =>
    have Hc := Lib.hid (fun ad' e => ug_cells (UG.below hA ((Below.refl _ w).alloc (Nat.le_refl _) (.cells #[] 143))) ad' e)
    clear hA
    have es := fun (w : World) (a : Option Addr) (n c : Nat) => Lib.run_eql_slice_nil (P := Tryz.prog) w 96 143 a n c 0 0 Tryz.underlying96
    go_enter Tryz.func164, Tryz.ntmps164
    go_wp2_with (at_builtin; refine wpList_append_from _ rfl _ _ 96 rfl w.heap.size 143 i0 zeroU.val 6 48 Tryz.underlying96 hi hz0 hz1 hz2 rfl (by decide) _ _ _ rfl (own_empty w _ 6) (some ad) L.length ca (cellsR L) rfl (cellsR_len L) (fun h => by cases h) Hc.out (ucells_one L) (by unfold maxLen; omega) (by omega) (by simp) ?_)
    intro v' w1 hown hgrow
    have hb : Below w.heap.size w w1 := ((Below.refl _ _).alloc (Nat.le_refl _) _).grown hgrow (by simp) (fun k hk => by simp [Value.ownBlock] at hk; omega)
    go_wp2_with fail
    go_ret
    exact ⟨_, rfl, by simpa using hown, hb⟩
/-- A slice value whose row begins its block and reads as rules. -/
def UAt (w : World) (A : Option Addr) (L : List Ru) : Prop :=
  0 < L.length → ∃ g, A = some ⟨g, 0, none⟩ ∧ g < w.heap.size ∧ ∀ j, (h : j < L.length) → ∀ k, k < 6 → w.cell? ⟨g, j * 6 + k, none⟩ = (L[j].cells)[k]?
theorem UAt.ug {w : World} {A : Option Addr} {L : List Ru} (h : UAt w A L) : UG w A L := fun hp => by
  obtain ⟨g, hA, hg, hc⟩ := h hp
  exact ⟨g, 0, hA, hg, fun j hj k hk => by rw [Nat.zero_add]; exact hc j hj k hk⟩
theorem cl_cells (u : Ru) (k : Nat) : (Ru.cl u)[k]? = (u.cells)[k]? := by simp [Ru.cl, Ru.cells]
theorem uholds_own {w : World} {B : Nat} {e : TypeId} {v : Value} {L : List Ru} (h : w.ownsRow B e 6 v L.length (cellsR L)) : (L = [] ∧ v = .slice none 0 0) ∨ ∃ g cap, v = .slice (some ⟨g, 0, none⟩) L.length cap ∧ L.length ≤ cap ∧ B ≤ g ∧ g < w.heap.size ∧ HoldsK Ru.cl 6 w g 0 L.toArray := by
  rcases h.2 with ⟨rfl, h0⟩ | ⟨g, cap, cur, rfl, hB, hh, hc, hm, hs, ht⟩
  · exact .inl ⟨List.eq_nil_of_length_eq_zero h0, rfl⟩
  · refine .inr ⟨g, cap, rfl, hc, hB, (h.lt g rfl).2, fun t ht' => ?_⟩
    rw [size_flatK] at ht'
    have ht2 : t < L.length * 6 := by simpa using ht'
    have q : (cellsR L)[t]? = some ((flatK Ru.cl 6 L.toArray)[t]!) := by
      rw [get_flatK _ _ _ _ ht']
      have hj : t / 6 < L.length := by omega
      have := cellsR_at L (t / 6) (t % 6) hj (by omega)
      rw [show t / 6 * 6 + t % 6 = t by omega] at this
      rw [this, getElem!_pos L.toArray (t / 6) (by simpa using hj), List.getElem_toArray, getElem!_pos _ (t % 6) (by rw [len6]; omega), ← List.getElem?_eq_getElem, cl_cells]
    refine ⟨?_, ?_⟩
    · rw [← ht, List.getElem?_take_of_lt (by omega)] at q
      rw [Nat.zero_add, Lib.cell_of_heap hh, ← Array.getElem?_toList]
      exact q
    · simp [World.frozen?, hh]
theorem UAt.of_holds {w : World} {blk : Nat} {d : Array Ru} (h : HoldsK Ru.cl 6 w blk 0 d) (R : List Ru) (hR : R.length ≤ d.size) (he : ∀ j, (hj : j < R.length) → R[j] = d[j]!) : UAt w (some ⟨blk, 0, none⟩) R := fun hp => by
  refine ⟨blk, rfl, ?_, fun j hj k hk => ?_⟩
  · have := (HoldsK.cell h (i := 0) (c := 0) (by omega) (by omega)).1
    unfold World.cell? at this
    rcases Nat.lt_or_ge blk w.heap.size with hb | hb
    · exact hb
    · simp [Array.getElem?_eq_none hb] at this
  · have q := (HoldsK.cell h (i := j) (c := k) (by omega) hk).1
    rw [← he j hj, Nat.zero_add] at q
    rw [q, getElem!_pos _ _ (by rw [len6]; exact hk), ← List.getElem?_eq_getElem, cl_cells]
/-- Below the row all stays, and the row keeps its type. -/
structure BK (g : Nat) (w w' : World) : Prop where
  b : Below g w w'
  t : ∀ (cur : Array Value) (t : TypeId), w.heap[g]? = some (.cells cur t (0, 0)) → ∃ cur', w'.heap[g]? = some (.cells cur' t (0, 0))
theorem BK.refl (g : Nat) (w : World) : BK g w w := ⟨Below.refl _ _, fun cur t h => ⟨cur, h⟩⟩
theorem BK.trans {g : Nat} {w w1 w2 : World} (h : BK g w w1) (k : BK g w1 w2) : BK g w w2 := ⟨h.b.trans k.b, fun cur t e => by
  obtain ⟨c1, e1⟩ := h.t cur t e
  exact k.t c1 t e1⟩
theorem BK.drewN {g : Nat} {w w1 : World} (h : BK g w w1) (q : Nat) : BK g w (w1.drewN q) := ⟨below_drewN h.b q, h.t⟩
theorem BK.below {g : Nat} {w w1 w2 : World} (h : BK g w w1) (hg : g < w1.heap.size) (hb : Below w1.heap.size w1 w2) : BK g w w2 := ⟨h.b.trans (hb.mono (Nat.le_of_lt hg)), fun cur t e => by
  obtain ⟨c1, e1⟩ := h.t cur t e
  exact ⟨c1, (hb.block g hg).trans e1⟩⟩
theorem set_type (g : Nat) (t : TypeId) : ∀ (vs : List Value) (o : Nat) (w : World) (cur : Array Value), w.heap[g]? = some (.cells cur t (0, 0)) → ∃ cur', (w.setCells g o vs).heap[g]? = some (.cells cur' t (0, 0))
  | [], o, w, cur, h => ⟨cur, h⟩
  | v :: r, o, w, cur, h => set_type g t r (o + 1) (w.setCell ⟨g, o, none⟩ v) _ (heap_setCell_same _ _ _ _ _ _ h)
theorem BK.setCells {g : Nat} {w w1 : World} (h : BK g w w1) (o : Nat) (vs : List Value) : BK g w (w1.setCells g o vs) := ⟨below_setCells (Nat.le_refl _) _ _ _ h.b, fun cur t e => by
  obtain ⟨c1, e1⟩ := h.t cur t e
  exact set_type g t vs o w1 c1 e1⟩
theorem inv_lowU {d dk : Array Ru} {m k : Nat} (h : CompInv d m k dk) (hm : (compactUpTo d m) = compactUpTo d d.size) (hk : k ≤ d.size) : ∀ j, (hj : j < (compactUpTo d d.size).length) → (compactUpTo d d.size)[j] = dk[j]! := fun j hj => by
  have q := h.low j (by rw [← h.len, hm]; exact hj)
  rw [hm, List.getElem?_eq_getElem hj] at q
  exact Option.some.inj q
def CompPost (g cap : Nat) (d : Array Ru) (w : World) (e : Ending) (w' : World) : Prop :=
  e = .returned (.slice (some ⟨g, 0, none⟩) (compactUpTo d d.size).length cap) ∧ UAt w' (some ⟨g, 0, none⟩) (compactUpTo d d.size) ∧ BK g w w' ∧ w.heap.size ≤ w'.heap.size
theorem holds_drewN {w : World} {g : Nat} {d : Array Ru} (h : HoldsK Ru.cl 6 w g 0 d) (n : Nat) : HoldsK Ru.cl 6 (w.drewN n) g 0 d := holdsK_ahead Ru.cl 6 w n g 0 d h
theorem all_post {g cap : Nat} {d : Array Ru} {w : World} (hH : HoldsK Ru.cl 6 w g 0 d) (hall : ∀ j, j < d.size → keeps d j = true) (n : Nat) : CompPost g cap d w (.returned (.slice (some ⟨g, 0, none⟩) d.size cap)) (w.drewN n) := by
  have e : compactUpTo d d.size = d.toList := by rw [compactUpTo_all d _ hall, range_map_get]
  refine ⟨?_, ?_, ?_, Nat.le_refl _⟩
  · rw [e, Array.length_toList]
  · rw [e]
    refine UAt.of_holds (holds_drewN hH n) _ (by simp) fun j hj => ?_
    rw [getElem!_pos d j (by simpa using hj)]; simp
  · exact (BK.refl _ _).drewN _
/-- The nine cells of a row's element. -/
theorem two {w : World} {g : Nat} {d : Array Ru} (h : HoldsK Ru.cl 6 w g 0 d) (j : Nat) (hj : j < d.size) : ∀ c u, (Ru.cl d[j]!)[c]? = some u → w.cell? ⟨g, j * 6 + c, none⟩ = some u := fun c u hu => by
  have hc : c < 6 := by
    rcases Nat.lt_or_ge c 6 with h | h
    · exact h
    · rw [List.getElem?_eq_none (by show 6 ≤ c; exact h)] at hu; cases hu
  have q := (HoldsK.cell h (i := j) (c := c) hj hc).1
  rw [Nat.zero_add] at q
  rw [q, getElem!_pos _ _ (by rw [len6]; exact hc), ← List.getElem?_eq_getElem, hu]
theorem there_of {w : World} {g : Nat} {d : Array Ru} (h : HoldsK Ru.cl 6 w g 0 d) (i : Nat) (hi : i < d.size) : w.there g (i * 6) 6 := fun c hc => by
  have q := HoldsK.cell h (i := i) (c := c) hi hc
  rw [Nat.zero_add] at q
  exact ⟨by rw [q.1]; rfl, q.2⟩
theorem there_all {w : World} {g : Nat} {d : Array Ru} (h : HoldsK Ru.cl 6 w g 0 d) (i : Nat) (hi : i < d.size) : w.there g (i * 6) ((d.size - i) * 6) := fun c hc => by
  have q := HoldsK.cell h (i := i + c / 6) (c := c % 6) (by omega) (by omega)
  rw [Nat.zero_add, show (i + c / 6) * 6 + c % 6 = i * 6 + c by omega] at q
  exact ⟨by rw [q.1]; rfl, q.2⟩
theorem infoSz : (Tryz.prog.info? 143).map (·.size) = some 6 := by kernel_rfl
theorem stcell_one (x : Ru) : ∀ v ∈ (Ru.cl x), v.oneCell' = true := fun v hv => by
  simp [Ru.cl] at hv
  rcases hv with rfl | rfl | rfl | rfl | rfl | rfl <;> rfl
theorem store0 {W : World} {g : Nat} {d : Array Ru} (h : HoldsK Ru.cl 6 W g 0 d) (i : Nat) (hi : i < d.size) (x : Ru) : HoldsK Ru.cl 6 (W.setCells g (i * 6) (Ru.cl x)) g 0 (d.setIfInBounds i x) := by
  have := holdsK_store len6 (by omega) h i hi x
  rw [Nat.zero_add] at this
  exact this
def clr (n : Nat) : List Value := (Builtin.zeroCells zeroU.val.cells n).toList
theorem clr_len (n : Nat) : (clr n).length = n * 6 := by
  unfold clr Builtin.zeroCells
  simp; rfl
theorem clr_one (n : Nat) : ∀ v ∈ clr n, v.oneCell' = true := by
  intro v hv
  unfold clr Builtin.zeroCells at hv
  simp at hv
  obtain ⟨i, hi, rfl⟩ := hv
  have h9 : zeroU.val.cells.size = 6 := rfl
  have hlt : i % zeroU.val.cells.size < 6 := by rw [h9]; omega
  generalize i % zeroU.val.cells.size = r at hlt
  match r, hlt with
  | 0, _ => rfl
  | 1, _ => rfl
  | 2, _ => rfl
  | 3, _ => rfl
  | 4, _ => rfl
  | 5, _ => rfl
theorem run_clear2 (w : World) (b o n c : Nat) (hn : 0 < n) (ht : w.there b o (n * 6)) (ty : TypeId) : (Builtin.clear_ #[96] ty #[.slice (some ⟨b, o, none⟩) n c]).run Tryz.prog w = .ok (.tuple #[]) (w.setCells b o (clr n)) := by
  have hst := run_storeCells_cells (P := Tryz.prog) b o (clr n) 0 w (fun j hj => by rw [clr_len] at hj; simpa using (ht j hj).1) (fun j hj => by rw [clr_len] at hj; simpa using (ht j hj).2) (clr_one n)
  simp only [Nat.add_zero] at hst
  obtain ⟨m, rfl⟩ : ∃ m, n = m + 1 := ⟨n - 1, by omega⟩
  have hv : (zeroValue 143).run Tryz.prog w = .ok zeroU.val w := Tryz.zeroValue143 w
  have hc : (Builtin.zeroCells zeroU.val.cells (m + 1)).toList = clr (m + 1) := rfl
  simp [Builtin.clear_, run_underlying Tryz.underlying96, hv, hc, hst]
theorem wp_clear_run {P : Program} (w : World) {o : Oper} {a : Act} {K : Act → World → Prop} {Q : Exit → Act → World → Prop} (s : Operand) (t : TypeId)
    (ho : o.op = .call { callee := .builtin .clear, args := #[s], argTypes := #[t] }) (vs : Value) (hs : a.eval s = vs)
    (v' : Value) (w' : World) (hr : (Builtin.clear_ #[t] o.type #[vs]).run P w = .ok v' w') (h : K (a.put o.dst v') w') : o.wp P a w K Q := by
  unfold Oper.wp execOp
  simp only [ho, resolve, invoke, builtin, Sem.run_bind, Sem.run_pure, Result.andThen_ok, List.map_toArray, List.map_cons, List.map_nil, hs, hr]
  exact h
theorem wpList_clear_run {P : Program} (w : World) {ops : Array Oper} {rest : List Oper} {o : Oper} {a : Act} {Q : Exit → Act → World → Prop} (hgd : o.guard = none) (s : Operand) (t : TypeId)
    (ho : o.op = .call { callee := .builtin .clear, args := #[s], argTypes := #[t] }) (vs : Value) (hs : a.eval s = vs)
    (v' : Value) (w' : World) (hr : (Builtin.clear_ #[t] o.type #[vs]).run P w = .ok v' w') (h : wpList P ops Q rest (a.put o.dst v') w') : wpList P ops Q (o :: rest) a w :=
  wpList_plain hgd fun _ hK => wp_clear_run w s t ho vs hs v' w' hr (hK _ _ h)
theorem UAt.set_out {w : World} {g o : Nat} {R : List Ru} (h : UAt w (some ⟨g, 0, none⟩) R) (ho : R.length * 6 ≤ o) (vs : List Value) : UAt (w.setCells g o vs) (some ⟨g, 0, none⟩) R := fun hp => by
  obtain ⟨g', hA, hg, hc⟩ := h hp
  injection hA with hA
  injection hA with hA
  subst hA
  refine ⟨g, rfl, by rw [size_setCells]; exact hg, fun j hj k hk => ?_⟩
  have key : ∀ i, i < R.length * 6 → (w.setCells g o vs).cell? ⟨g, i, none⟩ = w.cell? ⟨g, i, none⟩ := fun i hi => World.cell?_setCells_out g vs o w ⟨g, i, none⟩ (fun _ _ => Or.inl (by show i < o; omega))
  rw [key _ (by omega)]
  exact hc j hj k hk
theorem clear_post {g cap kk : Nat} {d dk : Array Ru} {w wr : World} (hH : HoldsK Ru.cl 6 wr g 0 dk) (hb : BK g w wr) (hs : w.heap.size ≤ wr.heap.size) (hI : CompInv d d.size kk dk) : CompPost g cap d w (.returned (.slice (some ⟨g, 0, none⟩) kk cap)) (wr.setCells g (kk * 6) (clr (dk.size - kk))) := by
  have hk := hI.lt
  have hz := hI.size
  refine ⟨by rw [hI.len], ?_, hb.setCells _ _, by rw [size_setCells]; exact hs⟩
  refine UAt.set_out (UAt.of_holds hH _ (by rw [hI.len]; omega) (inv_lowU hI rfl (by omega))) (by rw [hI.len]; exact Nat.le_refl _) _
set_option maxHeartbeats 4000000 in
set_option maxRecDepth 1000000 in
theorem compU (g cap : Nat) (d : Array Ru) (w : World) (hH : HoldsK Ru.cl 6 w g 0 d) (hg : g < w.heap.size) (hsz : d.size ≤ 100000) (hcap : d.size ≤ cap) :
    Calls Tryz.prog 169 #[.slice (some ⟨g, 0, none⟩) d.size cap] w (CompPost g cap d w) := by
  have HH := Lib.hid hH
  clear hH
  by_cases h2 : d.size < 2
  · have HS := Lib.hid (fun n => all_post (cap := cap) HH.out (fun j hj => keeps_lt_one d j (by omega)) n)
    go_enter Tryz.func169, Tryz.ntmps169
    go_wp2_with fail
    go_ret
    exact HS.out 0
  · go_enter Tryz.func169, Tryz.ntmps169
    go_wp2_with fail
    go_loopg [3] d.size (fun gh s3 wr => ∃ k q : Nat, 1 ≤ k ∧ k ≤ d.size ∧ d.size - k ≤ gh ∧ s3 = .int .i64 k ∧ wr = w.drewN q ∧ Hid (∀ j, j < k → keeps d j = true))
    case atStart => exact ⟨1, 0, Nat.le_refl _, by omega, by omega, rfl, rfl, Lib.hid (keeps_lt_one d)⟩
    case round =>
      obtain ⟨k, q, hk1, hk, hgh, rfl, rfl, hall⟩ := hrel
      by_cases hlt : k < d.size
      · have c1 := two HH.out k hlt
        have c0 := two HH.out (k - 1) (by omega)
        generalize hx : d[k]! = x at c1
        generalize hy : d[k - 1]! = y at c0
        have B := Lib.hid (And.intro hx hy)
        clear hx hy
        obtain ⟨uk, uh, uw, ua, ub, uv⟩ := x
        obtain ⟨uk2, uh2, uw2, ua2, ub2, uv2⟩ := y
        have a0 := c1 0 _ rfl
        have a1 := c1 1 _ rfl
        have a2 := c1 2 _ rfl
        have a3 := c1 3 _ rfl
        have a4 := c1 4 _ rfl
        have a5 := c1 5 _ rfl
        have b0 := c0 0 _ rfl
        have b1 := c0 1 _ rfl
        have b2 := c0 2 _ rfl
        have b3 := c0 3 _ rfl
        have b4 := c0 4 _ rfl
        have b5 := c0 5 _ rfl
        rw [Nat.add_zero] at a0 b0
        have p1 : (0 : Int) ≤ k := by omega
        have p2 : (k : Int) < d.size := by omega
        have p3 : (0 : Int) ≤ (k : Int) - 1 := by omega
        have p4 : (k : Int) - 1 < d.size := by omega
        have p5 : ((k : Int) - 1).toNat = k - 1 := by omega
        clear c0 c1
        by_cases hdup : (⟨uk, uh, uw, ua, ub, uv⟩ : Ru) = ⟨uk2, uh2, uw2, ua2, ub2, uv2⟩
        · have hq := fun w => RuK.eqG uk uh uw ua ub uv uk2 uh2 uw2 ua2 ub2 uv2 w
          rw [decide_eq_true (p := (⟨uk, uh, uw, ua, ub, uv⟩ : Ru) = ⟨uk2, uh2, uw2, ua2, ub2, uv2⟩) hdup] at hq
          have HD := Lib.hid hdup
          clear hdup
          go_wp2_with fail
          go_quiet (fail)
          go_wp2_with fail
          clear a0 a1 a2 a3 a4 a5 b0 b1 b2 b3 b4 b5 hq p3 p4 p5
          have hst := Lib.hid (CompInv.start hall.out (keeps_neg (by omega) (by rw [B.out.1, B.out.2]; exact HD.out)))
          clear HD B
          go_loopg [3, 5] d.size (fun gh2 s3 s5 wr => ∃ (kk kq : Nat) (dk : Array Ru), s3 = .int .i64 kk ∧ s5 = .int .i64 kq ∧ 1 ≤ kq ∧ k + kq ≤ d.size ∧ d.size - (k + kq) ≤ gh2 ∧ Hid (HoldsK Ru.cl 6 wr g 0 dk) ∧ BK g w wr ∧ w.heap.size ≤ wr.heap.size ∧ Hid (CompInv d (k + kq) kk dk))
          case atStart => exact ⟨k, 1, d, rfl, rfl, Nat.le_refl _, by omega, by omega, Lib.hid (holds_drewN HH.out _), (BK.refl _ _).drewN _, Nat.le_refl _, hst⟩
          case round =>
            obtain ⟨kk, kq, dk, rfl, rfl, h1, hle, hg2, hHk, hbel, hszr, hI⟩ := hrel
            have hkk := hI.out.lt
            have hds := hI.out.size
            by_cases hlt2 : k + kq < d.size
            · have c1 := two hHk.out (k + kq) (by omega)
              have c0 := two hHk.out (k + kq - 1) (by omega)
              rw [hI.out.high (k + kq) (by omega)] at c1
              rw [hI.out.high (k + kq - 1) (by omega)] at c0
              generalize hx : d[k + kq]! = x at c1
              generalize hy : d[k + kq - 1]! = y at c0
              have C := Lib.hid (And.intro hx hy)
              clear hx hy
              have hth := Lib.hid (fun n => there_of (holds_drewN hHk.out n) kk (by omega))
              obtain ⟨uk, uh, uw, ua, ub, uv⟩ := x
              obtain ⟨uk2, uh2, uw2, ua2, ub2, uv2⟩ := y
              have a0 := c1 0 _ rfl
              have a1 := c1 1 _ rfl
              have a2 := c1 2 _ rfl
              have a3 := c1 3 _ rfl
              have a4 := c1 4 _ rfl
              have a5 := c1 5 _ rfl
              have b0 := c0 0 _ rfl
              have b1 := c0 1 _ rfl
              have b2 := c0 2 _ rfl
              have b3 := c0 3 _ rfl
              have b4 := c0 4 _ rfl
              have b5 := c0 5 _ rfl
              rw [Nat.add_zero] at a0 b0
              rw [show (k + kq) * 6 = k * 6 + kq * 6 by omega] at a0 a1 a2 a3 a4 a5
              rw [show (k + kq - 1) * 6 = k * 6 + (kq - 1) * 6 by omega] at b0 b1 b2 b3 b4 b5
              have q1 : (0 : Int) ≤ kq := by omega
              have q2 : (kq : Int) < (d.size - k : Nat) := by omega
              have q3 : (0 : Int) ≤ (kq : Int) - 1 := by omega
              have q4 : (kq : Int) - 1 < (d.size - k : Nat) := by omega
              have q5 : ((kq : Int) - 1).toNat = kq - 1 := by omega
              have q6 : (0 : Int) ≤ kk := by omega
              have q7 : (kk : Int) < d.size := by omega
              clear c0 c1
              by_cases hdup : (⟨uk, uh, uw, ua, ub, uv⟩ : Ru) = ⟨uk2, uh2, uw2, ua2, ub2, uv2⟩
              · have hq := fun w => TblP.neG uk uh uw ua ub uv uk2 uh2 uw2 ua2 ub2 uv2 w
                rw [decide_eq_true (p := (⟨uk, uh, uw, ua, ub, uv⟩ : Ru) = ⟨uk2, uh2, uw2, ua2, ub2, uv2⟩) hdup] at hq
                have HD := Lib.hid hdup
                clear hdup
                go_wp2_with fail
                go_quiet (fail)
                go_wp2_with fail
                go_roundg (d.size - (k + (kq + 1)))
                case measure => omega
                case rel => exact ⟨kk, kq + 1, dk, rfl, by go_num, by omega, by omega, Nat.le_refl _, Lib.hid (holds_drewN hHk.out _), BK.drewN hbel _, hszr, Lib.hid (hI.out.skip (keeps_neg (by omega) (by rw [C.out.1, C.out.2]; exact HD.out)))⟩
              · have hq := fun w => TblP.neG uk uh uw ua ub uv uk2 uh2 uw2 ua2 ub2 uv2 w
                rw [decide_eq_false (p := (⟨uk, uh, uw, ua, ub, uv⟩ : Ru) = ⟨uk2, uh2, uw2, ua2, ub2, uv2⟩) hdup] at hq
                have HD := Lib.hid hdup
                clear hdup
                go_wp2_with fail
                go_quiet (fail)
                go_wp2_with ((with_reducible refine wpList_store_mid (op := ⟨none, .store 143 (.tmp 51) (.tmp 50), _, _, _, none⟩) ?_ 143 (.tmp 51) (.tmp 50) ?_ g (kk * 6) (Ru.cl ⟨uk, uh, uw, ua, ub, uv⟩).toArray ?_ ?_ ?_ ?_ ?_ ?_); (rfl); (rfl); (simp [Act.eval]); (simp [Act.eval, Ru.cl]); (exact hth.out _); (exact infoSz); (exact all_oneCell_toArray (stcell_one _)))
                go_roundg (d.size - (k + (kq + 1)))
                case measure => omega
                case rel =>
                  refine ⟨kk + 1, kq + 1, dk.setIfInBounds kk ⟨uk, uh, uw, ua, ub, uv⟩, by go_num, by go_num, by omega, by omega, Nat.le_refl _, Lib.hid ?_, (BK.drewN hbel _).setCells _ _, by rw [size_setCells]; exact hszr, Lib.hid ?_⟩
                  · exact store0 (holds_drewN hHk.out _) kk (by omega) _
                  · have := hI.out.keep hlt2 (keeps_pos (by rw [C.out.1, C.out.2]; exact HD.out))
                    rw [C.out.1] at this
                    exact this
            · have hend : k + kq = d.size := by omega
              have hfin := Lib.hid (clear_post (cap := cap) hHk.out hbel hszr (hend ▸ hI.out))
              have hth := Lib.hid (there_all hHk.out kk (by omega))
              have hlen := Lib.hid ((hend ▸ hI.out : CompInv d d.size kk dk).len)
              rw [hds] at hth
              clear hHk hI hend
              go_wp2_with ((with_reducible refine wpList_clear_run (o := ⟨none, .call { callee := .builtin .clear, args := #[.tmp 56], argTypes := #[96] }, _, _, _, none⟩) _ ?_ (.tmp 56) 96 ?_ (.slice (some ⟨g, kk * 6, none⟩) (d.size - kk) (cap - kk)) ?_ (.tuple #[]) (wr.setCells g (kk * 6) (clr (d.size - kk))) ?_ ?_); (rfl); (rfl); (simp [Act.eval]); (exact run_clear2 _ g (kk * 6) (d.size - kk) (cap - kk) (by omega) hth.out _))
              go_ret
              rw [hds] at hfin
              exact hfin.out
        · have hq := fun w => RuK.eqG uk uh uw ua ub uv uk2 uh2 uw2 ua2 ub2 uv2 w
          rw [decide_eq_false (p := (⟨uk, uh, uw, ua, ub, uv⟩ : Ru) = ⟨uk2, uh2, uw2, ua2, ub2, uv2⟩) hdup] at hq
          have HD := Lib.hid hdup
          clear hdup
          go_wp2_with fail
          go_quiet (fail)
          go_wp2_with fail
          go_roundg (d.size - (k + 1))
          case measure => omega
          case rel =>
            refine ⟨k + 1, _, by omega, by omega, Nat.le_refl _, by go_num, rfl, Lib.hid fun j hj => ?_⟩
            by_cases e : j = k
            · subst e
              exact keeps_pos (by rw [B.out.1, B.out.2]; exact HD.out)
            · exact hall.out j (by omega)
      · have : k = d.size := by omega
        subst this
        have HS := Lib.hid (fun n => all_post (cap := cap) HH.out hall.out n)
        clear hall
        go_wp2_with fail
        go_ret
        exact HS.out _
theorem sortU (blk off cap : Nat) (d : Array Ru) (w : World) (hH : HoldsK Ru.cl 6 w blk off d) (hblk : blk < w.heap.size) (hsz : d.size < 4611686018427387904) :
    Calls Tryz.prog 167 #[.slice (some ⟨blk, off, none⟩) d.size cap, .func (.func 168) #[] #[]] w fun e w' =>
      e = .returned (.tuple #[]) ∧ ∃ d' n os, PermIn 0 d.size d d' ∧ SortedIn (ltOf cmpU) 0 d.size d' ∧ w' = sortWorldK Ru.cl 6 w blk off n d' os :=
  AnyQ.slices_SortFunc laidSort 6 Tryz.isAgg143 Tryz.sizeOf143 Ru.cl (fun _ => rfl) (fun x v hv => stcell_one x v hv) cmpU swo_U 168 #[] blk off cap d w (enters_of Tryz.func168 (by kernel_rfl) rfl) (cmpLaysU blk off d.size w) hH hblk hsz
set_option maxHeartbeats 1000000 in
theorem compNone (a : Option Addr) (cap : Nat) (w : World) : Calls Tryz.prog 169 #[.slice a 0 cap] w fun e w' => e = .returned (.slice a 0 cap) ∧ w' = w := by
  go_enter Tryz.func169, Tryz.ntmps169
  go_wp2_with fail
  go_ret
  exact ⟨rfl, rfl⟩
theorem below_sortK {w : World} {g off n : Nat} {d : Array Ru} {os : Array Obj} (hg : g < w.heap.size) : Below g w (sortWorldK Ru.cl 6 w g off n d os) :=
  ⟨rfl, rfl, rfl, size_sortWorldK_c Ru.cl 6 w g off n d os, fun k hk => by
    unfold sortWorldK
    rw [heap_grow_old _ _ (by rw [size_putRowK]; exact Nat.lt_trans hk hg)]
    unfold putRowK putRow mapBlock
    show (Array.modify (Sort.ahead w n).heap g _)[k]? = _
    rw [Array.getElem?_modify, if_neg (by omega)]; rfl⟩
theorem bk_sort {w : World} {g off n : Nat} {d : Array Ru} {os : Array Obj} (hg : g < w.heap.size) : BK g w (sortWorldK Ru.cl 6 w g off n d os) := ⟨below_sortK hg, fun cur t e => by
  have : (sortWorldK Ru.cl 6 w g off n d os).heap[g]? = (putRowK Ru.cl 6 (Sort.ahead w n) g off d).heap[g]? := by
    unfold sortWorldK
    rw [heap_grow_old _ _ (by rw [size_putRowK]; exact hg)]
  rw [this]
  unfold putRowK putRow mapBlock
  show ∃ cur', (Array.modify (Sort.ahead w n).heap g _)[g]? = _
  have e2 : (Sort.ahead w n).heap[g]? = some (.cells cur t (0, 0)) := e
  rw [Array.getElem?_modify, if_pos rfl, e2]
  exact ⟨_, rfl⟩⟩
end Go.Proofs.YtcmdiomjhideiaaGreatDoor.RuK
/- slices.DeleteFunc at rules, by contract: what may be is left. -/
namespace Go.Proofs.YtcmdiomjhideiaaGreatDoor.RuD
set_option linter.unusedVariables false
set_option linter.unusedSimpArgs false
open Go.Shelf Go.RowKit Go.Sort Go.Lib Go.Proofs Go.Proofs.YtcmdiomjhideiaaGreatDoor.Plain Go.Proofs.YtcmdiomjhideiaaGreatDoor.SynP Go.Proofs.YtcmdiomjhideiaaGreatDoor.SynC Go.Proofs.YtcmdiomjhideiaaGreatDoor.SynD Go.Proofs.YtcmdiomjhideiaaGreatDoor.SynD7 Go.Proofs.YtcmdiomjhideiaaGreatDoor.TblC Go.Proofs.YtcmdiomjhideiaaGreatDoor.TblV Go.Proofs.YtcmdiomjhideiaaGreatDoor.TblP Go.Proofs.YtcmdiomjhideiaaGreatDoor.TblQ Go.Proofs.YtcmdiomjhideiaaGreatDoor.RuO Go.Proofs.YtcmdiomjhideiaaGreatDoor.RuK
set_option linter.unusedVariables false
set_option linter.unusedSimpArgs false
theorem bx {W w1 w2 : World} (h : Below W.heap.size W w1) (hb : Below w1.heap.size w1 w2) : Below W.heap.size W w2 := h.trans (hb.mono h.size)
set_option maxRecDepth 100000 in
theorem fnT (n1 n2 : Nat) (g1 : n1 ≤ 1000) (g2 : n2 ≤ 1000) (u : Ru) (b1 b2 : Nat) (w : World) (h1 : w.cell? ⟨b1, 0, none⟩ = some (.int .i64 n1)) (h2 : w.cell? ⟨b2, 0, none⟩ = some (.int .i64 n2)) :
    Calls Tryz.prog 165 #[u.val, .pointer (some ⟨b1, 0, none⟩), .pointer (some ⟨b2, 0, none⟩)] w fun e w' => e = .returned (.bool (!rightU n1 n2 u)) ∧ Below w.heap.size w w' := by
  have HR := Lib.hid (fun w' => right_ n1 n2 u w' g1 g2)
  generalize rightU n1 n2 u = r at *
  have l1 := World.block_lt_of_cell? _ _ h1
  have l2 := World.block_lt_of_cell? _ _ h2
  simp only at l1 l2
  obtain ⟨k, h, x, a, b, v⟩ := u
  unfold Ru.val at *
  simp only at HR
  have hb := (Below.refl w.heap.size w).alloc (Nat.le_refl _) (.cells #[.int .i64 k, .int .i64 h, .int .i64 x, .int .i64 a, .int .i64 b, .int .i64 v] 143)
  have c1 := (hb.cell (p := ⟨b1, 0, none⟩) l1).trans h1
  have c2 := (hb.cell (p := ⟨b2, 0, none⟩) l2).trans h2
  have c3 := fun o => Lib.cell_of_heap (heap_alloc_new w (.cells #[.int .i64 k, .int .i64 h, .int .i64 x, .int .i64 a, .int .i64 b, .int .i64 v] 143)) o
  have HB := Lib.hid hb
  clear hb l1 l2
  go_enter Tryz.func165, Tryz.ntmps165
  go_wp2_with fail
  refine (HR.out _).mono ?_
  rintro e w1 ⟨rfl, hb1⟩
  have HB1 := Lib.hid (bx HB.out hb1)
  clear hb1 c1 c2 c3
  go_wp2_with fail
  go_ret
  exact ⟨rfl, HB1.out⟩
theorem holds_below {w w' : World} {g : Nat} {d : Array Ru} (h : HoldsK Ru.cl 6 w g 0 d) (hg : w'.heap[g]? = w.heap[g]?) : HoldsK Ru.cl 6 w' g 0 d := fun t ht => by
  obtain ⟨a, b⟩ := h t ht
  exact ⟨(World.cell?_of_block (a := ⟨g, 0 + t, none⟩) hg).trans a, (World.frozen?_of_block (a := ⟨g, 0 + t, none⟩) hg).trans b⟩
theorem holds_take {w : World} {g k : Nat} {d : Array Ru} (h : HoldsK Ru.cl 6 w g 0 d) (hk : k ≤ d.size) : HoldsK Ru.cl 6 w g 0 (d.toList.take k).toArray := fun t ht => by
  have hs : (d.toList.take k).toArray.size = k := by simp; omega
  rw [size_flatK, hs] at ht
  have e : (flatK Ru.cl 6 (d.toList.take k).toArray)[t]! = (flatK Ru.cl 6 d)[t]! := by
    rw [get_flatK _ _ _ _ (by rw [hs]; exact ht), get_flatK _ _ _ _ (by omega)]
    congr 2
    rw [getElem!_pos _ _ (by rw [hs]; omega), getElem!_pos _ _ (by omega)]
    simp
  rw [e]
  exact h t (by rw [size_flatK]; omega)
theorem holds_out {w : World} {g o : Nat} {d : Array Ru} (h : HoldsK Ru.cl 6 w g 0 d) (ho : d.size * 6 ≤ o) (vs : List Value) : HoldsK Ru.cl 6 (w.setCells g o vs) g 0 d := fun t ht => by
  obtain ⟨a, b⟩ := h t ht
  rw [size_flatK] at ht
  refine ⟨(World.cell?_setCells_out g vs o w ⟨g, 0 + t, none⟩ (fun _ _ => Or.inl (by show 0 + t < o; omega))).trans a, ?_⟩
  rw [World.frozen?_setCells]
  exact b
/-- What DeleteFunc's loop keeps: of the first m those that may be, at the row's front. -/
structure DelInv (p : Ru → Bool) (d : Array Ru) (m k : Nat) (dk : Array Ru) : Prop where
  size : dk.size = d.size
  lt : k < m
  le : m ≤ d.size
  low : dk.toList.take k = (d.toList.take m).filter p
  len : ((d.toList.take m).filter p).length = k
  high : ∀ j, m ≤ j → dk[j]! = d[j]!
theorem take_snoc (d : Array Ru) {m : Nat} (hm : m < d.size) : d.toList.take (m + 1) = d.toList.take m ++ [d[m]!] := by
  rw [List.take_succ_eq_append_getElem (by simpa using hm), getElem!_pos d m hm]
  simp
theorem DelInv.start {p : Ru → Bool} {d : Array Ru} {i : Nat} (hi : i < d.size) (hall : ∀ j, j < i → p d[j]! = true) (hno : p d[i]! = false) : DelInv p d (i + 1) i d := by
  have hf : (d.toList.take i).filter p = d.toList.take i := by
    rw [List.filter_eq_self]
    intro x hx
    obtain ⟨j, hj, rfl⟩ := List.getElem_of_mem hx
    rw [List.length_take, Array.length_toList] at hj
    have := hall j (by omega)
    rw [getElem!_pos d j (by omega)] at this
    simpa using this
  refine ⟨rfl, by omega, by omega, ?_, ?_, fun _ _ => rfl⟩
  · rw [take_snoc d hi, List.filter_append, hf]; simp [hno]
  · rw [take_snoc d hi, List.filter_append, hf]; simp [hno]; omega
theorem DelInv.skip {p : Ru → Bool} {d dk : Array Ru} {m k : Nat} (h : DelInv p d m k dk) (hm : m < d.size) (hno : p d[m]! = false) : DelInv p d (m + 1) k dk := by
  refine ⟨h.size, by have := h.lt; omega, by omega, ?_, ?_, fun j hj => h.high j (by omega)⟩
  · rw [take_snoc d hm, List.filter_append, ← h.low]; simp [hno]
  · rw [take_snoc d hm, List.filter_append, List.length_append, h.len]; simp [hno]
theorem DelInv.keep {p : Ru → Bool} {d dk : Array Ru} {m k : Nat} (h : DelInv p d m k dk) (hm : m < d.size) (hp : p d[m]! = true) : DelInv p d (m + 1) (k + 1) (dk.setIfInBounds k d[m]!) := by
  have hlt := h.lt
  have hsz := h.size
  refine ⟨by simpa using h.size, by omega, by omega, ?_, ?_, fun j hj => ?_⟩
  · rw [take_snoc d hm, List.filter_append, ← h.low]
    have e : (dk.setIfInBounds k d[m]!).toList = dk.toList.set k d[m]! := by simp
    rw [e, List.take_succ_eq_append_getElem (by simp; omega)]
    simp [hp, List.take_set_of_le]
  · rw [take_snoc d hm, List.filter_append, List.length_append, h.len]; simp [hp]
  · rw [← h.high j (by omega)]
    by_cases hj2 : j < dk.size
    · rw [getElem!_pos (dk.setIfInBounds k d[m]!) j (by simpa using hj2), getElem!_pos dk j hj2, Array.getElem_setIfInBounds_ne (by simpa using hj2) (by omega)]
    · rw [getElem!_neg (dk.setIfInBounds k d[m]!) j (by simpa using hj2), getElem!_neg dk j hj2]
theorem DelInv.done {p : Ru → Bool} {d dk : Array Ru} {k : Nat} (h : DelInv p d d.size k dk) : dk.toList.take k = d.toList.filter p := by
  rw [h.low, List.take_of_length_le (by simp)]
end Go.Proofs.YtcmdiomjhideiaaGreatDoor.RuD
/- slices.IndexFunc and slices.DeleteFunc at rules, by contract. -/
namespace Go.Proofs.YtcmdiomjhideiaaGreatDoor.RuE
set_option linter.unusedVariables false
set_option linter.unusedSimpArgs false
open Go.Shelf Go.RowKit Go.Sort Go.Lib Go.Proofs Go.Proofs.YtcmdiomjhideiaaGreatDoor.Plain Go.Proofs.YtcmdiomjhideiaaGreatDoor.SynP Go.Proofs.YtcmdiomjhideiaaGreatDoor.SynC Go.Proofs.YtcmdiomjhideiaaGreatDoor.SynD Go.Proofs.YtcmdiomjhideiaaGreatDoor.SynD7 Go.Proofs.YtcmdiomjhideiaaGreatDoor.TblC Go.Proofs.YtcmdiomjhideiaaGreatDoor.TblV Go.Proofs.YtcmdiomjhideiaaGreatDoor.TblP Go.Proofs.YtcmdiomjhideiaaGreatDoor.TblQ Go.Proofs.YtcmdiomjhideiaaGreatDoor.RuO Go.Proofs.YtcmdiomjhideiaaGreatDoor.RuK Go.Proofs.YtcmdiomjhideiaaGreatDoor.RuD
set_option linter.unusedVariables false
set_option linter.unusedSimpArgs false
def IdxPost (p : Ru → Bool) (d : Array Ru) (w : World) (e : Ending) (w' : World) : Prop :=
  Below w.heap.size w w' ∧ ((e = .returned (.int .i64 (-1)) ∧ ∀ j, j < d.size → p d[j]! = true) ∨ ∃ k : Nat, k < d.size ∧ e = .returned (.int .i64 k) ∧ (∀ j, j < k → p d[j]! = true) ∧ p d[k]! = false)
set_option maxHeartbeats 1000000 in
set_option maxRecDepth 100000 in
theorem idxD (g cap : Nat) (d : Array Ru) (n1 n2 : Nat) (g1 : n1 ≤ 1000) (g2 : n2 ≤ 1000) (b1 b2 : Nat) (w : World) (hs : d.size ≤ 100000) (hH : HoldsK Ru.cl 6 w g 0 d) (hg : g < w.heap.size) (h1 : w.cell? ⟨b1, 0, none⟩ = some (.int .i64 n1)) (h2 : w.cell? ⟨b2, 0, none⟩ = some (.int .i64 n2)) :
    Calls Tryz.prog 205 #[.slice (some ⟨g, 0, none⟩) d.size cap, .func (.func 165) #[] #[.pointer (some ⟨b1, 0, none⟩), .pointer (some ⟨b2, 0, none⟩)]] w (IdxPost (rightU n1 n2) d w) := by
  have l1 := World.block_lt_of_cell? _ _ h1
  have l2 := World.block_lt_of_cell? _ _ h2
  simp only at l1 l2
  have HH := Lib.hid (fun w' (hb : Below w.heap.size w w') => holds_below hH (hb.block g hg))
  have HF := Lib.hid (fun w' (hb : Below w.heap.size w w') u => fnT n1 n2 g1 g2 u b1 b2 w' ((hb.cell (p := ⟨b1, 0, none⟩) l1).trans h1) ((hb.cell (p := ⟨b2, 0, none⟩) l2).trans h2))
  clear hH h1 h2 l1 l2 hg
  obtain ⟨p, hp⟩ : ∃ p, rightU n1 n2 = p := ⟨_, rfl⟩
  rw [hp] at HF ⊢
  clear hp
  go_enter Tryz.func205, Tryz.ntmps205
  go_wp2_with fail
  go_loopw [8] (fun i wr => ∃ k : Nat, k ≤ d.size ∧ i = .int .i64 k ∧ Below w.heap.size w wr ∧ Hid (∀ j, j < k → p d[j]! = true)) (fun i _ => d.size - (intOf i).toNat)
  case atStart => exact ⟨0, by omega, rfl, Below.refl _ _, Lib.hid (fun j hj => by omega)⟩
  case round =>
    obtain ⟨k, hk, rfl, hb, hall⟩ := hrel
    have HB := Lib.hid hb
    by_cases hlt : k < d.size
    · have e1 : decide ((k : Int) < d.size) = true := by simp; omega
      have c1 := two (HH.out _ hb) k hlt
      have HFk := Lib.hid (HF.out _ hb d[k]!)
      have HNX : Hid (p d[k]! = true → ∀ j, j < k + 1 → p d[j]! = true) := Lib.hid (fun h j hj => by
        by_cases e : j = k
        · subst e; exact h
        · exact hall.out j (by omega))
      have HST : Hid (p d[k]! = false → ∀ w', Below w.heap.size w w' → IdxPost p d w (.returned (.int .i64 k)) w') := Lib.hid (fun h w' hb => ⟨hb, .inr ⟨k, hlt, rfl, hall.out, h⟩⟩)
      generalize d[k]! = x at *
      obtain ⟨uk, uh, uw, ua, ub, uv⟩ := x
      have a0 := c1 0 _ rfl
      have a1 := c1 1 _ rfl
      have a2 := c1 2 _ rfl
      have a3 := c1 3 _ rfl
      have a4 := c1 4 _ rfl
      have a5 := c1 5 _ rfl
      rw [Nat.add_zero] at a0
      have q0 : (0 : Int) ≤ k := by omega
      have q1 : (k : Int) < d.size := by omega
      unfold Ru.val at HFk
      simp only at HFk
      clear c1 hb hall
      cases hpx : p ⟨uk, uh, uw, ua, ub, uv⟩
      · rw [hpx] at HFk
        have HE := Lib.hid (HST.out hpx)
        clear hpx HST HNX
        go_wp2_with fail
        refine HFk.out.mono ?_
        rintro e w1 ⟨rfl, hb1⟩
        have HB1 := Lib.hid (bx HB.out hb1)
        clear hb1 a0 a1 a2 a3 a4 a5
        go_wp2_with fail
        go_ret
        exact HE.out _ HB1.out
      · rw [hpx] at HFk
        have HE := Lib.hid (HNX.out hpx)
        clear hpx HST HNX
        go_wp2_with fail
        refine HFk.out.mono ?_
        rintro e w1 ⟨rfl, hb1⟩
        have HB1 := Lib.hid (bx HB.out hb1)
        clear hb1 a0 a1 a2 a3 a4 a5
        go_wp2_with fail
        go_roundw
        case rel => exact ⟨k + 1, by omega, by go_num, HB1.out, HE⟩
        case measure => simp [intOf]; omega
    · have e1 : decide ((k : Int) < d.size) = false := by simp; omega
      have HE : Hid (∀ j, j < d.size → p d[j]! = true) := Lib.hid (fun j hj => hall.out j (by omega))
      clear hall hb
      go_wp2_with fail
      go_ret
      exact ⟨HB.out, .inl ⟨rfl, HE.out⟩⟩
def DelPost (g cap : Nat) (p : Ru → Bool) (d : Array Ru) (w : World) (e : Ending) (w' : World) : Prop :=
  ∃ d' : Array Ru, e = .returned (.slice (some ⟨g, 0, none⟩) d'.size cap) ∧ d'.toList = d.toList.filter p ∧ HoldsK Ru.cl 6 w' g 0 d' ∧ BK g w w' ∧ w.heap.size ≤ w'.heap.size
theorem del_none {g cap : Nat} {p : Ru → Bool} {d : Array Ru} {w w' : World} (hH : HoldsK Ru.cl 6 w g 0 d) (hg : g < w.heap.size) (hb : Below w.heap.size w w') (h : ∀ j, j < d.size → p d[j]! = true) : DelPost g cap p d w (.returned (.slice (some ⟨g, 0, none⟩) d.size cap)) w' := by
  refine ⟨d, rfl, ?_, holds_below hH (hb.block g hg), (BK.refl g w).below hg hb, hb.size⟩
  symm
  rw [List.filter_eq_self]
  intro x hx
  obtain ⟨j, hj, rfl⟩ := List.getElem_of_mem hx
  rw [Array.length_toList] at hj
  have := h j hj
  rw [getElem!_pos d j hj] at this
  simpa using this
theorem del_end {g cap kk : Nat} {p : Ru → Bool} {d dk : Array Ru} {w wr : World} (hH : HoldsK Ru.cl 6 wr g 0 dk) (hb : BK g w wr) (hs : w.heap.size ≤ wr.heap.size) (hI : DelInv p d d.size kk dk) : DelPost g cap p d w (.returned (.slice (some ⟨g, 0, none⟩) kk cap)) (wr.setCells g (kk * 6) (clr (d.size - kk))) := by
  have hlt := hI.lt
  have hsz := hI.size
  have hz : (dk.toList.take kk).toArray.size = kk := by simp; omega
  refine ⟨(dk.toList.take kk).toArray, by rw [hz], by rw [← hI.done], holds_out (holds_take hH (by omega)) (by rw [hz]; exact Nat.le_refl _) _, hb.setCells _ _, by rw [size_setCells]; exact hs⟩
set_option maxHeartbeats 2000000 in
set_option maxRecDepth 100000 in
theorem delU (g cap : Nat) (d : Array Ru) (n1 n2 : Nat) (g1 : n1 ≤ 1000) (g2 : n2 ≤ 1000) (b1 b2 : Nat) (w : World) (hs : d.size ≤ 100000) (hcap : d.size ≤ cap) (hcm : cap ≤ maxLen) (hH : HoldsK Ru.cl 6 w g 0 d) (hg : g < w.heap.size) (l1 : b1 < g) (l2 : b2 < g) (h1 : w.cell? ⟨b1, 0, none⟩ = some (.int .i64 n1)) (h2 : w.cell? ⟨b2, 0, none⟩ = some (.int .i64 n2)) :
    Calls Tryz.prog 163 #[.slice (some ⟨g, 0, none⟩) d.size cap, .func (.func 165) #[] #[.pointer (some ⟨b1, 0, none⟩), .pointer (some ⟨b2, 0, none⟩)]] w (DelPost g cap (rightU n1 n2) d w) := by
  have HI := Lib.hid (idxD g cap d n1 n2 g1 g2 b1 b2 w hs hH hg h1 h2)
  have HF := Lib.hid (fun w' (hb : Below g w w') u => fnT n1 n2 g1 g2 u b1 b2 w' ((hb.cell (p := ⟨b1, 0, none⟩) l1).trans h1) ((hb.cell (p := ⟨b2, 0, none⟩) l2).trans h2))
  have HH := Lib.hid hH
  have HN := Lib.hid (fun w' hb h => del_none (cap := cap) (p := rightU n1 n2) (w' := w') hH hg hb h)
  clear hH h1 h2 l1 l2
  obtain ⟨p, hp⟩ : ∃ p, rightU n1 n2 = p := ⟨_, rfl⟩
  rw [hp] at HF HI HN ⊢
  clear hp
  have hm : maxLen = 9223372036854775807 := rfl
  go_enter Tryz.func163, Tryz.ntmps163
  go_wp2_with fail
  refine HI.out.mono ?_
  rintro e w1 ⟨hb1, ⟨rfl, hall⟩ | ⟨k, hk, rfl, hall, hno⟩⟩
  · have HE := Lib.hid (HN.out _ hb1 hall)
    clear hall hb1 HI HF HN
    go_wp2_with fail
    go_ret
    exact HE.out
  · have HS := Lib.hid (DelInv.start hk hall hno)
    have HHK := Lib.hid (holds_below HH.out (hb1.block g hg))
    have HB1 := Lib.hid ((BK.refl g w).below hg hb1)
    have hz1 := hb1.size
    clear hall hno hb1 HI HN
    have d1 : ((k : Int) == -1) = false := by first | (simp; done) | (simp; omega)
    go_wp2_with fail
    go_loopw [5, 6] (fun s5 s6 wr => ∃ (kk m : Nat) (dk : Array Ru), s5 = .int .i64 kk ∧ s6 = .int .i64 m ∧ m ≤ d.size ∧ Hid (HoldsK Ru.cl 6 wr g 0 dk) ∧ Hid (BK g w wr) ∧ w.heap.size ≤ wr.heap.size ∧ Hid (DelInv p d m kk dk)) (fun _ s6 _ => d.size - (intOf s6).toNat)
    case atStart => exact ⟨k, k + 1, d, rfl, rfl, by omega, HHK, HB1, hz1, HS⟩
    case round =>
      obtain ⟨kk, m, dk, rfl, rfl, hm2, hHk, hbel, hszr, hI⟩ := hrel
      have hkk := hI.out.lt
      have hds := hI.out.size
      by_cases hlt : m < d.size
      · have e1 : decide ((m : Int) < d.size) = true := by simp; omega
        have c1 := two hHk.out m (by omega)
        rw [hI.out.high m (Nat.le_refl _)] at c1
        have HSK := Lib.hid (fun h => hI.out.skip hlt h)
        have HKP := Lib.hid (fun h => hI.out.keep hlt h)
        have HFk := Lib.hid (fun w' hb => HF.out w' hb d[m]!)
        generalize d[m]! = x at *
        obtain ⟨uk, uh, uw, ua, ub, uv⟩ := x
        have a0 := c1 0 _ rfl
        have a1 := c1 1 _ rfl
        have a2 := c1 2 _ rfl
        have a3 := c1 3 _ rfl
        have a4 := c1 4 _ rfl
        have a5 := c1 5 _ rfl
        rw [Nat.add_zero] at a0
        have q0 : (0 : Int) ≤ m := by omega
        have q1 : (m : Int) < d.size := by omega
        have q6 : (0 : Int) ≤ kk := by omega
        have q7 : (kk : Int) < d.size := by omega
        have hgr : g < wr.heap.size := by omega
        have HBA := Lib.hid (hbel.out.below hgr ((Below.refl wr.heap.size wr).alloc (Nat.le_refl _) (.cells #[.int .i64 uk, .int .i64 uh, .int .i64 uw, .int .i64 ua, .int .i64 ub, .int .i64 uv] 143)))
        have HHA := Lib.hid (holds_below hHk.out (((Below.refl wr.heap.size wr).alloc (Nat.le_refl _) (.cells #[.int .i64 uk, .int .i64 uh, .int .i64 uw, .int .i64 ua, .int .i64 ub, .int .i64 uv] 143)).block g hgr))
        have HBX := Lib.hid (heap_alloc_new wr (.cells #[.int .i64 uk, .int .i64 uh, .int .i64 uw, .int .i64 ua, .int .i64 ub, .int .i64 uv] 143))
        have HCL := Lib.hid (HFk.out _ HBA.out.b)
        unfold Ru.val at HCL
        simp only at HCL
        clear c1 HF HFk HHK HB1 HS
        go_upto_region 8 with fail
        have hszA : (wr.alloc (.cells #[.int .i64 uk, .int .i64 uh, .int .i64 uw, .int .i64 ua, .int .i64 ub, .int .i64 uv] 143)).heap.size = wr.heap.size + 1 := by simp
        generalize wr.alloc (.cells #[.int .i64 uk, .int .i64 uh, .int .i64 uw, .int .i64 ua, .int .i64 ub, .int .i64 uv] 143) = wa at *
        have cb := fun o => Lib.cell_of_heap HBX.out o
        clear a0 a1 a2 a3 a4 a5
        cases hpx : p ⟨uk, uh, uw, ua, ub, uv⟩
        · rw [hpx] at HCL
          have HI2 := Lib.hid (HSK.out hpx)
          clear hpx HSK HKP
          go_wp2_with fail
          refine HCL.out.mono ?_
          rintro e w2 ⟨rfl, hb2⟩
          have HH2 := Lib.hid (holds_below HHA.out (hb2.block g (by omega)))
          have HB2 := Lib.hid (HBA.out.below (by omega) hb2)
          have hz2 := hb2.size
          clear hb2 cb HCL
          go_wp2_with fail
          go_roundw
          case rel => exact ⟨kk, m + 1, dk, rfl, by go_num, by omega, HH2, HB2, by omega, HI2⟩
          case measure => simp [intOf]; omega
        · rw [hpx] at HCL
          have HI2 := Lib.hid (HKP.out hpx)
          clear hpx HSK HKP
          go_wp2_with fail
          refine HCL.out.mono ?_
          rintro e w2 ⟨rfl, hb2⟩
          have HH2 := Lib.hid (holds_below HHA.out (hb2.block g (by omega)))
          have HB2 := Lib.hid (HBA.out.below (by omega) hb2)
          have hz2 := hb2.size
          have cb2 := fun o => Lib.cell_of_heap ((hb2.block wr.heap.size (by omega)).trans HBX.out) o
          have hth := Lib.hid (there_of HH2.out kk (by omega))
          clear hb2 cb HCL
          go_wp2_with ((with_reducible refine wpList_store_mid (op := ⟨none, .store 143 (.tmp 33) (.tmp 32), _, _, _, none⟩) ?_ 143 (.tmp 33) (.tmp 32) ?_ g (kk * 6) (Ru.cl ⟨uk, uh, uw, ua, ub, uv⟩).toArray ?_ ?_ ?_ ?_ ?_ ?_); (rfl); (rfl); (simp [Act.eval]); (simp [Act.eval, Ru.cl]); (exact hth.out); (exact infoSz); (exact all_oneCell_toArray (stcell_one _)))
          go_roundw
          case rel =>
            refine ⟨kk + 1, m + 1, dk.setIfInBounds kk ⟨uk, uh, uw, ua, ub, uv⟩, by go_num, by go_num, by omega, Lib.hid ?_, Lib.hid (HB2.out.setCells _ _), by rw [size_setCells]; omega, HI2⟩
            exact store0 HH2.out kk (by omega) _
          case measure => simp [intOf]; omega
      · have e1 : decide ((m : Int) < d.size) = false := by simp; omega
        obtain rfl : m = d.size := by omega
        have hfin := Lib.hid (del_end (cap := cap) hHk.out hbel.out hszr hI.out)
        have hth := Lib.hid (there_all hHk.out kk (by omega))
        rw [hds] at hth
        clear hHk hbel hI HF
        go_wp2_with ((with_reducible refine wpList_clear_run (o := ⟨none, .call { callee := .builtin .clear, args := #[.tmp 38], argTypes := #[96] }, _, _, _, none⟩) _ ?_ (.tmp 38) 96 ?_ (.slice (some ⟨g, kk * 6, none⟩) (d.size - kk) (cap - kk)) ?_ (.tuple #[]) (wr.setCells g (kk * 6) (clr (d.size - kk))) ?_ ?_); (rfl); (rfl); (simp [Act.eval]); (exact run_clear2 _ g (kk * 6) (d.size - kk) (cap - kk) (by omega) hth.out _))
        go_ret
        exact hfin.out
end Go.Proofs.YtcmdiomjhideiaaGreatDoor.RuE
/- tidy: the rules that are right, in one order, each once: by contract. -/
namespace Go.Proofs.YtcmdiomjhideiaaGreatDoor.SemT
set_option linter.unusedVariables false
set_option linter.unusedSimpArgs false
open Go.Shelf Go.RowKit Go.Sort Go.Lib Go.Proofs Go.Proofs.YtcmdiomjhideiaaGreatDoor.Plain Go.Proofs.YtcmdiomjhideiaaGreatDoor.SynP Go.Proofs.YtcmdiomjhideiaaGreatDoor.SynD Go.Proofs.YtcmdiomjhideiaaGreatDoor.SynD7 Go.Proofs.YtcmdiomjhideiaaGreatDoor.TblC Go.Proofs.YtcmdiomjhideiaaGreatDoor.TblV Go.Proofs.YtcmdiomjhideiaaGreatDoor.TblP Go.Proofs.YtcmdiomjhideiaaGreatDoor.TblQ Go.Proofs.YtcmdiomjhideiaaGreatDoor.RuO Go.Proofs.YtcmdiomjhideiaaGreatDoor.RuK Go.Proofs.YtcmdiomjhideiaaGreatDoor.RuD Go.Proofs.YtcmdiomjhideiaaGreatDoor.RuE Go.Proofs.YtcmdiomjhideiaaGreatDoor.SemS
set_option linter.unusedVariables false
set_option linter.unusedSimpArgs false
theorem comp_mem (d : Array Ru) (u : Ru) : ∀ m, m ≤ d.size → (u ∈ compactUpTo d m ↔ ∃ j, j < m ∧ d[j]! = u)
  | 0, _ => by simp [compactUpTo]
  | m + 1, hm => by
    have ih := comp_mem d u m (by omega)
    rw [compactUpTo_succ, List.mem_append, ih]
    constructor
    · rintro (⟨j, hj, e⟩ | h)
      · exact ⟨j, by omega, e⟩
      · split at h
        · simp at h
          exact ⟨m, by omega, h.symm⟩
        · cases h
    · rintro ⟨j, hj, e⟩
      by_cases hjm : j = m
      · subst hjm
        cases hk : keeps d j
        · unfold keeps at hk
          have hk := of_decide_eq_false hk
          simp only [not_or, Classical.not_not] at hk
          exact .inl ⟨j - 1, by omega, by rw [← hk.2]; exact e⟩
        · rw [if_pos rfl]
          right
          simp [e]
      · exact .inl ⟨j, by omega, e⟩
theorem comp_len (d : Array Ru) (m : Nat) : (compactUpTo d m).length ≤ m := by
  unfold compactUpTo
  rw [List.length_map]
  exact Nat.le_trans (List.length_filter_le _ _) (by simp)
theorem sorted_mem {d d' : Array Ru} (hp : PermIn 0 d.size d d') (u : Ru) : u ∈ compactUpTo d' d'.size ↔ u ∈ d.toList := by
  obtain ⟨hz, _, hp⟩ := hp
  rw [show d'.extract 0 d.size = d' by rw [← hz]; simp, show d.extract 0 d.size = d by simp] at hp
  rw [comp_mem d' u _ (Nat.le_refl _), ← hp.mem_iff]
  constructor
  · rintro ⟨j, hj, e⟩
    rw [getElem!_pos d' j hj] at e
    rw [← e]
    simp
  · intro h
    obtain ⟨j, hj, e⟩ := List.getElem_of_mem h
    rw [Array.length_toList] at hj
    refine ⟨j, hj, ?_⟩
    rw [getElem!_pos d' j hj, ← e]
    simp
def TidyPost (n1 n2 : Nat) (L : List Ru) (w : World) (e : Ending) (w' : World) : Prop :=
  ∃ (A : Option Addr) (c : Nat) (T : List Ru), e = .returned (.slice A T.length c) ∧ UG w' A T ∧ Below w.heap.size w w' ∧ T.length ≤ L.length ∧ (∀ u, u ∈ T ↔ u ∈ L ∧ rightU n1 n2 u = true) ∧ (∀ ad, A = some ad → ad.off = 0 ∧ ad.spot = none ∧ w.heap.size ≤ ad.block ∧ ∃ cur, w'.heap[ad.block]? = some (.cells cur 143 (0, 0)))
set_option maxHeartbeats 1000000 in
theorem idxNone (f : Value) (w : World) : Calls Tryz.prog 205 #[.slice none 0 0, f] w fun e w' => e = .returned (.int .i64 (-1)) ∧ w' = w := by
  go_enter Tryz.func205, Tryz.ntmps205
  go_wp2_with fail
  go_loop [8] (fun i => i = .int .i64 0) (fun i => 0)
  case atStart => rfl
  case round =>
    subst hrel
    go_wp2_with fail
    go_ret
    exact ⟨rfl, rfl⟩
theorem delNone (f : Value) (w : World) : Calls Tryz.prog 163 #[.slice none 0 0, f] w fun e w' => e = .returned (.slice none 0 0) ∧ w' = w := by
  have HI := Lib.hid (idxNone f w)
  go_enter Tryz.func163, Tryz.ntmps163
  go_wp2_with fail
  refine HI.out.mono ?_
  rintro e w1 ⟨rfl, rfl⟩
  go_wp2_with fail
  go_ret
  exact ⟨rfl, rfl⟩
theorem two_boxes (w : World) (n1 n2 : Nat) (t : TypeId) : Below w.heap.size w ((w.alloc (.cells #[.int .i64 n1] t)).alloc (.cells #[.int .i64 n2] t)) ∧ ((w.alloc (.cells #[.int .i64 n1] t)).alloc (.cells #[.int .i64 n2] t)).cell? ⟨w.heap.size, 0, none⟩ = some (.int .i64 n1) ∧ ((w.alloc (.cells #[.int .i64 n1] t)).alloc (.cells #[.int .i64 n2] t)).cell? ⟨w.heap.size + 1, 0, none⟩ = some (.int .i64 n2) := by
  refine ⟨((Below.refl _ _).alloc (Nat.le_refl _) _).alloc (by simp) _, ?_, ?_⟩
  · rw [Lib.cell_of_heap (heap_alloc2_old w _ _)]; rfl
  · rw [Lib.cell_of_heap (heap_alloc2_new w _ _)]; rfl
set_option maxHeartbeats 2000000 in
set_option maxRecDepth 100000 in
theorem tidy (n1 n2 : Nat) (g1 : n1 ≤ 1000) (g2 : n2 ≤ 1000) (A : Option Addr) (ca : Nat) (L : List Ru) (w : World) (hL : L.length ≤ 10000) (hA : UG w A L) :
    Calls Tryz.prog 126 #[.int .i64 n1, .int .i64 n2, .slice A L.length ca] w (TidyPost n1 n2 L w) := by
  obtain ⟨hb0, hc1, hc2⟩ := two_boxes w n1 n2 3
  have HCl := Lib.hid (cloneU A ca L _ hL (hA.below hb0))
  have HB0 := Lib.hid hb0
  have HC := Lib.hid (And.intro hc1 hc2)
  have hz0 : ((w.alloc (.cells #[.int .i64 n1] 3)).alloc (.cells #[.int .i64 n2] 3)).heap.size = w.heap.size + 2 := by simp
  clear hb0 hc1 hc2 hA
  go_enter Tryz.func126, Tryz.ntmps126
  go_upto_region 1 with fail
  generalize (w.alloc (.cells #[.int .i64 n1] 3)).alloc (.cells #[.int .i64 n2] 3) = w0 at *
  go_wp2_with fail
  refine HCl.out.mono ?_
  rintro e w1 ⟨v, rfl, hown, hb1⟩
  rcases uholds_own hown with ⟨rfl, rfl⟩ | ⟨g, cap, rfl, hc, hB, hg, hH⟩
  · have HE : Hid (Below w.heap.size w w1) := Lib.hid (HB0.out.trans (hb1.mono (by omega)))
    clear hown hb1 HCl
    go_wp2_with fail
    refine (delNone _ w1).mono ?_
    rintro e w2 ⟨rfl, rfl⟩
    go_wp2_with fail
    refine (AnyF.slices_SortFunc_none laidSort none 0 (.func (.func 168) #[] #[]) w2).mono ?_
    rintro e w3 ⟨rfl, rfl⟩
    go_wp2_with fail
    refine (compNone none 0 _).mono ?_
    rintro e w4 ⟨rfl, rfl⟩
    go_wp2_with fail
    go_ret
    exact ⟨none, 0, [], rfl, fun h => by simp at h, HE.out, by simp, fun u => by simp, fun ad e => by cases e⟩
  · have hcm : cap ≤ maxLen := by
      rcases hown.2 with ⟨e, _⟩ | ⟨g', cap', cur, e, _, _, _, hm, _⟩
      · cases e
      · injection e with _ _ e; rw [e]; exact hm
    have hty1 : ∃ cur, w1.heap[g]? = some (.cells cur 143 (0, 0)) := by
      rcases hown.2 with ⟨e, _⟩ | ⟨g', cap', cur, e, _, hh, _⟩
      · cases e
      · injection e with e _ _
        injection e with e
        injection e with e _ _
        subst e
        exact ⟨cur, hh⟩
    have HTY1 := Lib.hid hty1
    clear hty1
    have HD := Lib.hid (delU g cap L.toArray n1 n2 g1 g2 w.heap.size (w.heap.size + 1) w1 (by simp; omega) (by simpa using hc) hcm hH hg (by omega) (by omega) ((hb1.cell (p := ⟨w.heap.size, 0, none⟩) (by show w.heap.size < _; omega)).trans HC.out.1) ((hb1.cell (p := ⟨w.heap.size + 1, 0, none⟩) (by show w.heap.size + 1 < _; omega)).trans HC.out.2))
    have HE1 : Hid (Below w.heap.size w w1) := Lib.hid (HB0.out.trans (hb1.mono (by omega)))
    have hlz : L.toArray.size = L.length := by simp
    rw [hlz] at HD
    have hgw : w.heap.size ≤ g := by omega
    clear hown hb1 HCl hH hcm HC hlz
    go_wp2_with fail
    refine HD.out.mono ?_
    rintro e w2 ⟨d1, rfl, hd1, hH1, hb2, hz2⟩
    have hd1l : d1.size ≤ L.length := by
      rw [← Array.length_toList, hd1]
      exact List.length_filter_le _ _
    have HS := Lib.hid (sortU g 0 cap d1 w2 hH1 (by omega) (by omega))
    have HE2 : Hid (Below w.heap.size w w2) := Lib.hid (HE1.out.trans (hb2.b.mono hgw))
    have HTY2 : Hid (∃ cur, w2.heap[g]? = some (.cells cur 143 (0, 0))) := Lib.hid (by obtain ⟨cur, h⟩ := HTY1.out; exact hb2.t _ _ h)
    have HH1 := Lib.hid hH1
    have HM1 : Hid (∀ u, u ∈ d1.toList ↔ u ∈ L ∧ rightU n1 n2 u = true) := Lib.hid (fun u => by rw [hd1, List.mem_filter])
    have hg2 : g < w2.heap.size := by omega
    clear hd1 hH1 hb2 HD HE1
    go_wp2_with fail
    refine HS.out.mono ?_
    rintro e w3 ⟨rfl, d', n, os, hp, hs, hw3⟩
    have hz : d'.size = d1.size := hp.1
    have hH3 : HoldsK Ru.cl 6 w3 g 0 d' := by rw [hw3]; exact holdsK_sortWorldK_c Ru.cl 6 w2 g 0 d1 d' n os HH1.out hg2 hz
    have hb3 : BK g w2 w3 := by rw [hw3]; exact bk_sort hg2
    have hgg : g < w3.heap.size := Nat.lt_of_lt_of_le hg2 (by rw [hw3]; exact size_sortWorldK_c Ru.cl 6 w2 g 0 n d' os)
    have HCm := Lib.hid (compU g cap d' w3 hH3 hgg (by omega) (by omega))
    rw [hz] at HCm
    have HMM : Hid (∀ u, u ∈ compactUpTo d' d'.size ↔ u ∈ L ∧ rightU n1 n2 u = true) := Lib.hid (fun u => by rw [sorted_mem hp, HM1.out])
    have HLL : Hid ((compactUpTo d' d'.size).length ≤ L.length) := Lib.hid (Nat.le_trans (comp_len _ _) (by omega))
    have HE3 : Hid (Below w.heap.size w w3) := Lib.hid (HE2.out.trans (hb3.b.mono hgw))
    have HTY3 : Hid (∃ cur, w3.heap[g]? = some (.cells cur 143 (0, 0))) := Lib.hid (by obtain ⟨cur, h⟩ := HTY2.out; exact hb3.t _ _ h)
    clear hw3 hp hs hH3 hb3 HS HM1 HE2 HH1
    go_wp2_with fail
    refine HCm.out.mono ?_
    rintro e w4 ⟨rfl, hrow, hb4, hz4⟩
    have HF : Hid (TidyPost n1 n2 L w (.returned (.slice (some ⟨g, 0, none⟩) (compactUpTo d' d'.size).length cap)) w4) := Lib.hid ⟨_, cap, _, rfl, hrow.ug, HE3.out.trans (hb4.b.mono hgw), HLL.out, HMM.out, fun ad e => by
      injection e with e
      subst e
      obtain ⟨cur, h⟩ := HTY3.out
      exact ⟨rfl, rfl, hgw, hb4.t _ _ h⟩⟩
    rw [hz] at HF
    clear hrow hb4 HCm
    go_wp2_with fail
    go_ret
    exact HF.out
end Go.Proofs.YtcmdiomjhideiaaGreatDoor.SemT
/- Eval's beginning: numbers within bounds, a worklist without anybody, a row of rules gone through, the queue's head. -/
namespace Go.Proofs.YtcmdiomjhideiaaGreatDoor.SemH
set_option linter.unusedVariables false
set_option linter.unusedSimpArgs false
open Go.RowKit Go.Lib Go.Proofs Go.Proofs.YtcmdiomjhideiaaGreatDoor.SetA Go.Proofs.YtcmdiomjhideiaaGreatDoor.SetB Go.Proofs.YtcmdiomjhideiaaGreatDoor.SetC Go.Proofs.YtcmdiomjhideiaaGreatDoor.SetD Go.Proofs.YtcmdiomjhideiaaGreatDoor.SetJ Go.Proofs.YtcmdiomjhideiaaGreatDoor.SetN Go.Proofs.YtcmdiomjhideiaaGreatDoor.SetQ Go.Proofs.YtcmdiomjhideiaaGreatDoor.SetR Go.Proofs.YtcmdiomjhideiaaGreatDoor.TblB Go.Proofs.YtcmdiomjhideiaaGreatDoor.TblC Go.Proofs.YtcmdiomjhideiaaGreatDoor.TblV Go.Proofs.YtcmdiomjhideiaaGreatDoor.TblP Go.Proofs.YtcmdiomjhideiaaGreatDoor.TblQ Go.Proofs.YtcmdiomjhideiaaGreatDoor.SemA Go.Proofs.YtcmdiomjhideiaaGreatDoor.SemB Go.Proofs.YtcmdiomjhideiaaGreatDoor.SemC Go.Proofs.YtcmdiomjhideiaaGreatDoor.SemD Go.Proofs.YtcmdiomjhideiaaGreatDoor.SemE Go.Proofs.YtcmdiomjhideiaaGreatDoor.SemF Go.Proofs.YtcmdiomjhideiaaGreatDoor.SemG
set_option linter.unusedVariables false
set_option linter.unusedSimpArgs false
set_option maxRecDepth 100000 in
theorem within_ (n most : Int) (w : World) : Calls Tryz.prog 105 #[.int .i64 n, .int .i64 most] w fun e w' => e = .returned (.int .i64 (SetA.within n most)) ∧ w = w' := by
  go_enter Tryz.func105, Tryz.ntmps105
  go_wp2
  all_goals
    go_ret
    refine ⟨ret_int ?_, rfl⟩
    unfold SetA.within
    omega
theorem all_in {n : Int} {zs : List Int} (h : allB n zs = true) : ∀ z ∈ zs, 0 ≤ z ∧ z < n := fun z hz => by
  unfold allB at h
  rw [List.all_eq_true] at h
  exact of_decide_eq_true (h z hz)
theorem ok_of_right {P K : Nat} {u : Ru} (h : rightU P K u = true) : Ok (P * K) P K u := by
  unfold rightU at h
  simp only [Bool.and_eq_true] at h
  obtain ⟨h1, h2, h3, h4, h5⟩ := h
  have r := all_in h3
  have r4 := all_in h4 u.who (by simp)
  have r5 := all_in h5 u.via (by simp)
  unfold bareK at h1
  simp only [Bool.or_eq_true, decide_eq_true_eq] at h1
  exact ⟨by omega, r _ (by simp), r _ (by simp), r _ (by simp), r4, r5⟩
def F0 : Frm := ⟨[], [], []⟩
theorem f0_ok (w : World) (vs : List Value) (look : List (List Ru)) (qv : Value) : F0.ok w vs look qv := ⟨(fun p hp => by cases hp), (fun p hp => by cases hp), (fun p hp => by cases hp)⟩
def nilV : Value := .slice none 0 0
theorem rep_eq (n : Nat) : (List.replicate n nilV).toArray = Array.replicate n nilV := by simp
theorem made1 (n : Nat) : madeCells (Value.slice none 0 0).cells n = (Array.replicate n nilV) := by
  rw [← rep_eq]
  apply Array.ext
  · simp [size_madeCells]
  · intro i h1 h2
    simp only [madeCells, Array.getElem_map, Array.getElem_range, List.getElem_toArray, List.getElem_replicate]
    have : (Value.slice none 0 0).cells = #[Value.slice none 0 0] := rfl
    simp [this, nilV, Nat.mod_one]
theorem infoRow : (Tryz.prog.info? 96).map (fun i => (i.zero, i.size, i.bytes)) = some (some (.slice none 0 0), 1, 24) := by kernel_rfl
/-- A worklist without anybody. -/
theorem wq_start {W X : World} (hb : Below W.heap.size W X) {B R n c K mo wk : Nat} (hf : Fam X B R n c (List.replicate (n * 16) 0)) (uB : W.heap.size ≤ B) (uR : W.heap.size ≤ R)
    (hm : X.heap[mo]? = some (.cells #[.pointer (some ⟨B, 0, none⟩), .int .i64 K, .int .i64 0] 100 (0, 0))) (hwk : X.heap[wk]? = some (.cells #[.pointer (some ⟨mo, 0, none⟩), .slice none 0 0, .slice none 0 0] 140 (0, 0))) (um : W.heap.size ≤ mo) (uw : W.heap.size ≤ wk) :
    Wq W ((X.alloc (.cells (Array.replicate n nilV) 96)).setCell ⟨wk, 1, none⟩ (.slice (some ⟨X.heap.size, 0, none⟩) n n)) ⟨wk, mo, B, R, X.heap.size, n, c, K⟩ (SemA.start n) 0 F0 := by
  have hbA := (Below.refl X.heap.size X).alloc (Nat.le_refl _) (.cells (Array.replicate n nilV) 96)
  have hwA := (hbA.block _ (lt_of hwk)).trans hwk
  have hmA := (hbA.block _ (lt_of hm)).trans hm
  have hlA := heap_alloc_new X (.cells (Array.replicate n nilV) 96)
  obtain ⟨cp, hfb⟩ := hf.fb
  obtain ⟨Z, hrb⟩ := hf.rb
  have hk : ∀ {g : Nat} {x : Array Value} {t : TypeId} {f : Nat × Nat}, (X.alloc (.cells (Array.replicate n nilV) 96)).heap[g]? = some (.cells x t f) → 140 ≠ t → ((X.alloc (.cells (Array.replicate n nilV) 96)).setCell ⟨wk, 1, none⟩ (.slice (some ⟨X.heap.size, 0, none⟩) n n)).heap[g]? = (X.alloc (.cells (Array.replicate n nilV) 96)).heap[g]? := fun {g x t f} hx hne =>
    set_other _ _ _ _ (by have := ne_of_type hwA hx hne; omega)
  have hbB := (hbA.block _ (lt_of hfb)).trans hfb
  have hbR := (hbA.block _ (lt_of hrb)).trans hrb
  refine ⟨Nat.zero_le _, List.replicate (n * 16) 0, nilV, List.replicate n nilV, ?_, f0_ok _ _ _ _⟩
  exact {
    bel := set_bel (hb.trans (hbA.mono hb.size)) uw
    fam := (hf.below hbA).keep (hk hbB (by show (_ : Nat) ≠ _; decide)) (hk hbR (by show (_ : Nat) ≠ _; decide))
    inv := SetN.Inv.zero n c hf.c1
    mb := (hk hmA (by show (_ : Nat) ≠ _; decide)).trans hmA
    wb := by rw [heap_setCell_same _ _ _ _ _ _ hwA]; rfl
    lb := by rw [rep_eq]; exact (hk hlA (by show (_ : Nat) ≠ _; decide)).trans hlA
    qu := .inl ⟨rfl, rfl⟩
    lv := by simp
    ll := by simp [SemA.start]
    rows := fun i v hv => by
      rw [List.getElem?_replicate] at hv
      split at hv
      · injection hv with hv
        subst hv
        have e : (SemA.start n).look.getD i [] = [] := getD_rep n i
        rw [e]
        exact World.ownsRow_nil _ _ _ _
      · cases hv
    apart := fun i j v u hv hu hne g hg => by
      rw [List.getElem?_replicate] at hv
      split at hv
      · injection hv with hv
        subst hv
        simp [nilV, Value.ownBlock] at hg
      · cases hv
    up := ⟨uR, um, uw, hb.size, uB⟩ }
/-- A row of rules that isn't the worklist's, gone through. -/
theorem with_row {W w0 w : World} {a : Ad} {s : Sm} {h : Nat} {F : Frm} (hq : Wq W w0 a s h F) (hb : Below w0.heap.size w0 w) {A : Option Addr} {T : List Ru} (hu : UG w A T)
    (hA : ∀ ad, A = some ad → ad.off = 0 ∧ ad.spot = none ∧ w0.heap.size ≤ ad.block ∧ ∃ cur, w.heap[ad.block]? = some (.cells cur 143 (0, 0))) :
    ∃ F' : Frm, Wq W w a s h F' ∧ (∀ w' s', Wq W w' a s' h F' → Wq W w' a s' h F) ∧ ∀ w' s', Wq W w' a s' h F' → UG w' A T := by
  have hq' := Wq.below hq hb
  by_cases hT : 0 < T.length
  · obtain ⟨g, o, rfl, hg, hc⟩ := hu hT
    obtain ⟨ho, _, hge, cur, hcur⟩ := hA _ rfl
    simp only at ho hge hcur
    subst ho
    obtain ⟨h1, M, qv, vs, h2, h3⟩ := hq'
    obtain ⟨_, M0, qv0, vs0, g2, g3⟩ := hq
    have hvs : vs = vs0 := by
      have := (hb.block _ (lt_of g2.lb)).trans g2.lb
      rw [h2.lb] at this
      simp only [Option.some.injEq, Obj.cells.injEq] at this
      simpa using congrArg Array.toList this.1
    refine ⟨⟨(g, T) :: F.rules, F.nums, F.prs⟩, ⟨h1, M, qv, vs, h2, fun p hp => ?_, h3.n, h3.p⟩, ?_, ?_⟩
    · simp only [List.mem_cons] at hp
      rcases hp with rfl | hp
      · refine ⟨⟨cur, hcur⟩, fun j hj k hk => by have := hc j hj k hk; rw [Nat.zero_add] at this; exact this, fun i v hv e => ?_⟩
        rw [hvs] at hv
        have := lt_of (own_blk (g2.rows i v hv) e).2.choose_spec
        omega
      · exact h3.r p hp
    · rintro w' s' ⟨k1, M', qv', vs', k2, k3⟩
      exact ⟨k1, M', qv', vs', k2, fun p hp => k3.r p (by simp [hp]), k3.n, k3.p⟩
    · rintro w' s' ⟨k1, M', qv', vs', k2, k3⟩ hp
      have hS := k3.r (g, T) (by simp)
      obtain ⟨cur', hg'⟩ := hS.ty
      refine ⟨g, 0, rfl, lt_of hg', fun j hj k hk => ?_⟩
      rw [Nat.zero_add]
      exact hS.at_ j hj k hk
  · exact ⟨F, hq', fun _ _ h => h, fun _ _ _ hp => absurd hp hT⟩
/-- The queue's head, and what is behind it. -/
theorem qu_pop {w : World} {base : Nat} {qv : Value} {cur : Pr} {rest : List Pr} (h : Qu w base qv (cur :: rest)) : ∃ g o cap, qv = .slice (some ⟨g, o, none⟩) (rest.length + 1) cap ∧ rest.length + 1 ≤ cap ∧ cap ≤ maxLen ∧
    ∀ w', Qu w' base qv (cur :: rest) → w'.cell? ⟨g, o, none⟩ = some (.int .i64 cur.1) ∧ w'.cell? ⟨g, o + 1, none⟩ = some (.int .i64 cur.2) ∧ (cap = 1 → Qu w' base (.slice (some ⟨g, o, none⟩) 0 0) rest) ∧ (cap ≠ 1 → Qu w' base (.slice (some ⟨g, o + 2, none⟩) rest.length (cap - 1)) rest) := by
  rcases h with ⟨rfl, h0⟩ | ⟨g, o, cap, arr, rfl, hb, hh, hc, hm, hs, hat⟩
  · cases h0
  · simp only [List.length_cons] at hc
    refine ⟨g, o, cap, rfl, hc, hm, fun w' h' => ?_⟩
    rcases h' with ⟨e, _⟩ | ⟨g', o', cap', arr', e, hb', hh', hc', hm', hs', hat'⟩
    · cases e
    · injection e with e1 e2 e3
      injection e1 with e1
      injection e1 with e1 e4 _
      subst e1; subst e3; subst e4
      obtain ⟨a1, a2⟩ := hat' 0 (by simp)
      rw [Nat.zero_mul, Nat.add_zero] at a1 a2
      refine ⟨by rw [Lib.cell_of_heap hh']; exact a1, by rw [Lib.cell_of_heap hh']; exact a2, fun hc1 => ?_, fun hc1 => ?_⟩
      · have hr : rest = [] := List.eq_nil_of_length_eq_zero (by omega)
        subst hr
        exact .inr ⟨g, o, 0, arr', rfl, hb', hh', Nat.le_refl _, Nat.zero_le _, by omega, fun j hj => by simp at hj⟩
      · refine .inr ⟨g, o + 2, cap - 1, arr', rfl, hb', hh', by omega, by omega, by omega, fun j hj => ?_⟩
        obtain ⟨b1, b2⟩ := hat' (j + 1) (by simp; omega)
        have e5 : o + (j + 1) * 2 = o + 2 + j * 2 := by omega
        rw [e5] at b1 b2
        exact ⟨b1, b2⟩
/-- A model in memory. -/
structure MoAt (w : World) (mo B R n P K : Nat) (M : List Nat) (all : List Pr) (st : Nat) : Prop where
  fam : Fam w B R n P M
  inv : SetN.Inv n P M all
  mb : w.heap[mo]? = some (.cells #[.pointer (some ⟨B, 0, none⟩), .int .i64 K, .int .i64 st] 100 (0, 0))
theorem MoAt.below {w w' : World} {mo B R n P K : Nat} {M : List Nat} {all : List Pr} {st : Nat} (h : MoAt w mo B R n P K M all st) (hb : Below w.heap.size w w') : MoAt w' mo B R n P K M all st :=
  ⟨h.fam.below hb, h.inv, (hb.block _ (lt_of h.mb)).trans h.mb⟩
/-- What Eval answers: a model whose sets hold just what follows from the rules that are right. -/
def EvalPost (P K : Nat) (L : List Ru) (w : World) (e : Ending) (w' : World) : Prop :=
  ∃ (mo B R : Nat) (M : List Nat) (all : List Pr) (st : Nat), e = .returned (.pointer (some ⟨mo, 0, none⟩)) ∧ MoAt w' mo B R (P * K) P K M all st ∧ Below w.heap.size w w' ∧ (∀ r x, (r, x) ∈ all ↔ Der K (L.filter (rightU P K)) r x) ∧ st ≤ L.length + P * (P * K + L.length * (2 + 2 * P)) ∧ (L.filter (rightU P K) ≠ [] → 0 < st)
end Go.Proofs.YtcmdiomjhideiaaGreatDoor.SemH
/- Eval, by contract. -/
namespace Go.Proofs.YtcmdiomjhideiaaGreatDoor.SemI
set_option linter.unusedVariables false
set_option linter.unusedSimpArgs false
open Go.RowKit Go.Lib Go.Proofs Go.Proofs.YtcmdiomjhideiaaGreatDoor.SetA Go.Proofs.YtcmdiomjhideiaaGreatDoor.SetB Go.Proofs.YtcmdiomjhideiaaGreatDoor.SetC Go.Proofs.YtcmdiomjhideiaaGreatDoor.SetD Go.Proofs.YtcmdiomjhideiaaGreatDoor.SetJ Go.Proofs.YtcmdiomjhideiaaGreatDoor.SetN Go.Proofs.YtcmdiomjhideiaaGreatDoor.SetQ Go.Proofs.YtcmdiomjhideiaaGreatDoor.SetR Go.Proofs.YtcmdiomjhideiaaGreatDoor.TblB Go.Proofs.YtcmdiomjhideiaaGreatDoor.TblC Go.Proofs.YtcmdiomjhideiaaGreatDoor.TblV Go.Proofs.YtcmdiomjhideiaaGreatDoor.TblP Go.Proofs.YtcmdiomjhideiaaGreatDoor.TblQ Go.Proofs.YtcmdiomjhideiaaGreatDoor.SemA Go.Proofs.YtcmdiomjhideiaaGreatDoor.SemB Go.Proofs.YtcmdiomjhideiaaGreatDoor.SemC Go.Proofs.YtcmdiomjhideiaaGreatDoor.SemD Go.Proofs.YtcmdiomjhideiaaGreatDoor.SemE Go.Proofs.YtcmdiomjhideiaaGreatDoor.SemF Go.Proofs.YtcmdiomjhideiaaGreatDoor.SemG Go.Proofs.YtcmdiomjhideiaaGreatDoor.SemH
set_option linter.unusedVariables false
set_option linter.unusedSimpArgs false
theorem nx {W w1 w2 : World} (h : Below W.heap.size W w1) (hb : Below w1.heap.size w1 w2) : Below W.heap.size W w2 := h.trans (hb.mono h.size)
theorem bounds {P K N : Nat} (hP : P ≤ 64) (hK : K ≤ 64) (hN : N ≤ 1000) : N + P * (P * K + N * (2 + 2 * P)) ≤ 100000000 ∧ N * (2 + 2 * P) ≤ 1000000 := by
  have h1 : P * K ≤ 64 * 64 := Nat.mul_le_mul hP hK
  have h2 : N * (2 + 2 * P) ≤ 1000 * 130 := Nat.mul_le_mul hN (by omega)
  have h3 : P * (P * K + N * (2 + 2 * P)) ≤ 64 * (64 * 64 + 1000 * 130) := Nat.mul_le_mul hP (by omega)
  omega
theorem bd_of {n P K : Nat} {L T : List Ru} {hist : List Pr} {pend cp : List Ru} {y : Int} {s : Sm} (hn : n = P * K) (hP : P ≤ 64) (hK : K ≤ 64) (hT : T.length ≤ 1000) (h : SemA.Inv n P K L T hist pend cp y s) : s.steps ≤ 100000000 ∧ ∀ i : Nat, (s.look.getD i []).length ≤ 1000000 := by
  obtain ⟨b1, b2⟩ := bounds hP hK hT
  exact ⟨Nat.le_trans (h.bound hn) b1, fun i => Nat.le_trans (h.look_len i) b2⟩
/-- The end of Eval: nobody is left to be followed. -/
theorem eval_end {P K : Nat} {L T : List Ru} {w w' : World} {a : Ad} {s : Sm} {h : Nat} {y : Int} (ha : a.n = P * K ∧ a.c = P ∧ a.K = K) (hw : Wq w w' a s h F0) (hi : SemA.Inv (P * K) P K T T (s.all.take h) [] [] y s) (hh : s.all.drop h = [])
    (hTl : T.length ≤ L.length) (hTm : ∀ u, u ∈ T ↔ u ∈ L ∧ rightU P K u = true) : EvalPost P K L w (.returned (.pointer (some ⟨a.mo, 0, none⟩))) w' := by
  obtain ⟨h1, M, qv, vs, hk, _⟩ := hw
  obtain ⟨e1, e2, e3⟩ := ha
  have hall : s.all = s.all.take h := by
    have := List.take_append_drop h s.all
    rw [hh, List.append_nil] at this
    exact this.symm
  have hfam := hk.fam
  have hinv := hk.inv
  have hmb := hk.mb
  rw [e1, e2] at hfam hinv
  rw [e3] at hmb
  have hmem : ∀ u, u ∈ T ↔ u ∈ L.filter (rightU P K) := fun u => by rw [hTm, List.mem_filter]
  refine ⟨a.mo, a.B, a.R, M, s.all, s.steps, rfl, ⟨hfam, hinv, hmb⟩, hk.bel, fun r x => ?_, ?_, fun hne => ?_⟩
  · rw [hi.all hall (fun u hu => ok_of_right ((hTm u).1 hu).2) r x]
    exact ⟨fun d => d.mono fun u hu => (hmem u).1 hu, fun d => d.mono fun u hu => (hmem u).2 hu⟩
  · refine Nat.le_trans (hi.bound rfl) ?_
    have m1 : T.length * (2 + 2 * P) ≤ L.length * (2 + 2 * P) := Nat.mul_le_mul_right _ hTl
    have m2 : P * (P * K + T.length * (2 + 2 * P)) ≤ P * (P * K + L.length * (2 + 2 * P)) := Nat.mul_le_mul_left _ (by omega)
    omega
  · have := hi.lo
    cases hT : T with
    | nil =>
      exfalso
      apply hne
      rw [List.eq_nil_iff_forall_not_mem]
      intro u hu
      have := (hmem u).2 hu
      rw [hT] at this
      cases this
    | cons u T' =>
      rw [hT] at this
      simp at this
      omega
set_option maxHeartbeats 4000000 in
set_option maxRecDepth 100000 in
theorem eval (p k : Int) (A : Option Addr) (ca : Nat) (L : List Ru) (w : World) (hT : Tab w) (hL : L.length ≤ 1000) (hA : UG w A L) :
    Calls Tryz.prog 75 #[.int .i64 p, .int .i64 k, .slice A L.length ca] w (EvalPost (SetA.within p 64).toNat (SetA.within k 64).toNat L w) := by
  obtain ⟨i0, hi, hz0, hz1, hz2⟩ := info_parts infoRow
  have HW1 := Lib.hid (fun w' => SemH.within_ p 64 w')
  have HW2 := Lib.hid (fun w' => SemH.within_ k 64 w')
  have hp := within_le p 64 (by omega)
  have hk := within_le k 64 (by omega)
  generalize SetA.within p 64 = Pi at *
  generalize SetA.within k 64 = Ki at *
  obtain ⟨P, rfl⟩ : ∃ v : Nat, Pi = v := ⟨Pi.toNat, by omega⟩
  obtain ⟨K, rfl⟩ : ∃ v : Nat, Ki = v := ⟨Ki.toNat, by omega⟩
  simp only [Int.toNat_natCast]
  have hP : P ≤ 64 := by omega
  have hK : K ≤ 64 := by omega
  clear hp hk
  have hPK : P * K ≤ 64 * 64 := Nat.mul_le_mul hP hK
  have hmul : IntKind.i64.wrap ((P : Int) * (K : Int)) = ((P * K : Nat) : Int) := by
    rw [← Int.natCast_mul, IntKind.wrap_i64]; omega
  have HNw := Lib.hid (fun w' => new_ ((P * K : Nat) : Int) (P : Int) w')
  have hw1 : (SetA.within ((P * K : Nat) : Int) 5000).toNat = P * K := by unfold SetA.within; omega
  have hw2 : (SetA.within (P : Int) 1000).toNat = P := by unfold SetA.within; omega
  unfold NewPost at HNw
  rw [hw1, hw2] at HNw
  have HMUL := Lib.hid (rfl : P * K = P * K)
  obtain ⟨n, hn⟩ : ∃ n, P * K = n := ⟨_, rfl⟩
  have HNN := Lib.hid hn
  rw [hn] at HNw hPK hmul
  have HTB := Lib.hid hT
  have HUA := Lib.hid hA
  clear hT hA hw1 hw2 HMUL hn
  go_enter Tryz.func75, Tryz.ntmps75
  go_wp2_with fail
  refine (HW1.out _).mono ?_
  rintro e w1 ⟨rfl, rfl⟩
  go_wp2_with fail
  refine (HW2.out _).mono ?_
  rintro e w1 ⟨rfl, rfl⟩
  clear HW1 HW2
  go_wp2_with fail
  refine (HNw.out _).mono ?_
  rintro e w2 ⟨B, R, rfl, hfam, hb2, uB, uR⟩
  clear HNw
  have hX : Below w2.heap.size w2 ((w2.alloc (.cells #[.pointer (some ⟨B, 0, none⟩), .int .i64 K, .int .i64 0] 100)).alloc (.cells #[.pointer (some ⟨w2.heap.size, 0, none⟩), .slice none 0 0, .slice none 0 0] 140)) := ((Below.refl _ _).alloc (Nat.le_refl _) _).alloc (by simp) _
  have hXm : ((w2.alloc (.cells #[.pointer (some ⟨B, 0, none⟩), .int .i64 K, .int .i64 0] 100)).alloc (.cells #[.pointer (some ⟨w2.heap.size, 0, none⟩), .slice none 0 0, .slice none 0 0] 140)).heap[w2.heap.size]? = some (.cells #[.pointer (some ⟨B, 0, none⟩), .int .i64 K, .int .i64 0] 100 (0, 0)) := heap_alloc2_old w2 _ _
  have hXw : ((w2.alloc (.cells #[.pointer (some ⟨B, 0, none⟩), .int .i64 K, .int .i64 0] 100)).alloc (.cells #[.pointer (some ⟨w2.heap.size, 0, none⟩), .slice none 0 0, .slice none 0 0] 140)).heap[w2.heap.size + 1]? = some (.cells #[.pointer (some ⟨w2.heap.size, 0, none⟩), .slice none 0 0, .slice none 0 0] 140 (0, 0)) := heap_alloc2_new w2 _ _
  have HBX := Lib.hid (nx hb2 hX)
  have HFX := Lib.hid (hfam.below hX)
  have HXM := Lib.hid hXm
  have HXW := Lib.hid hXw
  have hz2s := hb2.size
  clear hX hXm hXw hfam hb2
  go_upto_region 3 with fail
  generalize (w2.alloc (.cells #[.pointer (some ⟨B, 0, none⟩), .int .i64 K, .int .i64 0] 100)).alloc (.cells #[.pointer (some ⟨w2.heap.size, 0, none⟩), .slice none 0 0, .slice none 0 0] 140) = X at *
  have HWQ := Lib.hid (wq_start HBX.out HFX.out uB uR HXM.out HXW.out hz2s (by omega : w.heap.size ≤ w2.heap.size + 1))
  have cm := fun o => Lib.cell_of_heap HXM.out o
  have cw := fun o => Lib.cell_of_heap HXW.out o
  have HRW := Lib.hid (rows B R n P _ X HFX.out)
  obtain ⟨mo, hmo⟩ : ∃ mo, w2.heap.size = mo := ⟨_, rfl⟩
  simp only [hmo] at cm cw HWQ ⊢
  have hlt1 : mo + 1 < X.heap.size := by have := lt_of HXW.out; omega
  rw [World.setCell_alloc_past _ _ _ _ hlt1] at HWQ
  have mk := run_make (P := Tryz.prog) X 137 96 i0 _ Tryz.underlying137 hi hz0 .i64 .i64 n n (by omega) (by omega) (by rw [hz2]; omega) (by omega)
  rw [hz1] at mk
  simp only [Int.toNat_natCast, Nat.mul_one, made1] at mk
  have hXA := (Below.refl X.heap.size X).alloc (Nat.le_refl _) (.cells (Array.replicate n nilV) 96)
  have hXA2 := (hXA.block _ (lt_of HXW.out)).trans HXW.out
  rw [hmo] at hXA2
  have fw : ∀ o, (X.alloc (.cells (Array.replicate n nilV) 96)).frozen? ⟨mo + 1, o, none⟩ = false := fun o => frozen_of_row _ _ _ _ _ hXA2
  have cw2 : ∀ o, (X.alloc (.cells (Array.replicate n nilV) 96)).cell? ⟨mo + 1, o, none⟩ = _ := fun o => Lib.cell_of_heap hXA2 o
  clear hi hz0 hz1 hz2 HXM HXW HFX HBX hXA hXA2 hz2s hmo uB uR
  go_wp2_with fail
  refine HRW.out.mono ?_
  rintro e wz ⟨rfl, rfl⟩
  clear HRW
  go_upto_region 4 with fail
  clear cm cw mk fw cw2
  generalize (X.setCell ⟨mo + 1, 1, none⟩ (.slice (some ⟨X.heap.size, 0, none⟩) n n)).alloc (.cells (Array.replicate n nilV) 96) = w4 at *
  obtain ⟨Lb, hLb⟩ : ∃ Lb, X.heap.size = Lb := ⟨_, rfl⟩
  simp only [hLb] at HWQ hlt1
  obtain ⟨a, hae⟩ : ∃ a : Ad, (⟨mo + 1, mo, B, R, Lb, n, P, K⟩ : Ad) = a := ⟨_, rfl⟩
  have ha : a.n = n ∧ a.c = P ∧ a.K = K ∧ a.wk = mo + 1 ∧ a.mo = mo := by subst hae; exact ⟨rfl, rfl, rfl, rfl, rfl⟩
  rw [hae] at HWQ
  obtain ⟨ha1, ha2, ha3, ha4, ha5⟩ := ha
  have hbel4 : Below w.heap.size w w4 := by
    obtain ⟨_, M, qv, vs, hk, _⟩ := HWQ.out
    exact hk.bel
  have HTD := Lib.hid (SemT.tidy P K (by omega) (by omega) A ca L w4 (by omega) (HUA.out.below hbel4))
  clear hae hLb hlt1 hbel4 HUA
  go_wp2_with fail
  refine HTD.out.mono ?_
  rintro e w5 ⟨A5, c5, T, rfl, hu5, hb5, hTl, hTm, hA5⟩
  obtain ⟨F1, hq5, hback, hug⟩ := with_row HWQ.out hb5 hu5 hA5
  have HQ5 := Lib.hid hq5
  have HBK := Lib.hid hback
  have HUG := Lib.hid hug
  have HTM := Lib.hid hTm
  have hT1 : T.length ≤ 1000 := by omega
  have HINV : Hid (∀ j, j ≤ T.length → SemA.Inv n P K T (T.take j) [] [] [] 0 (takesM n P (SemA.start n) (T.take j))) := Lib.hid (fun j hj => by
    have := SemA.Inv.takes (T.take j) [] (SemA.start n) (SemA.Inv.start n P K T) (fun u hu => by
      have := List.mem_of_mem_take hu
      refine ⟨this, ?_⟩
      rw [← HNN.out]
      exact ok_of_right ((hTm u).1 this).2)
    simpa using this)
  have HOK : Hid (∀ u ∈ T, Ok a.n a.c a.K u) := Lib.hid (fun u hu => by
    rw [ha1, ha2, ha3, ← HNN.out]
    exact ok_of_right ((hTm u).1 hu).2)
  clear hu5 hb5 hA5 hq5 hback hug hTm HTD HWQ
  go_wp2_with fail
  go_loopw [42] (fun i wr => ∃ j : Nat, j ≤ T.length ∧ i = .int .i64 j ∧ Hid (Wq w wr a (takesM n P (SemA.start n) (T.take j)) 0 F1)) (fun i _ => T.length - (intOf i).toNat)
  case atStart => exact ⟨0, by omega, rfl, HQ5⟩
  case round =>
    obtain ⟨j, hj, rfl, hq⟩ := hrel
    clear HQ5
    by_cases hlt : j < T.length
    · have e1 : decide ((j : Int) < T.length) = true := by simp; omega
      have q0 : (0 : Int) ≤ j := by omega
      have q1 : (j : Int) < T.length := by omega
      obtain ⟨g, o, rfl, hg, hcell⟩ := HUG.out _ _ hq.out (by omega)
      have b0 := hcell j hlt 0 (by omega)
      have b1 := hcell j hlt 1 (by omega)
      have b2 := hcell j hlt 2 (by omega)
      have b3 := hcell j hlt 3 (by omega)
      have b4 := hcell j hlt 4 (by omega)
      have b5 := hcell j hlt 5 (by omega)
      have hstep : takesM n P (SemA.start n) (T.take (j + 1)) = takeM n P (SemA.tick (takesM n P (SemA.start n) (T.take j))) T[j] := by
        unfold takesM
        rw [List.take_succ_eq_append_getElem hlt, List.foldl_append]
        rfl
      have hok := HOK.out T[j] (List.getElem_mem hlt)
      have hbd := bd_of HNN.out.symm hP hK (by rw [List.length_take]; omega) (HINV.out j hj)
      have HS := Lib.hid hstep
      clear hcell hstep
      generalize takesM n P (SemA.start n) (T.take j) = S at *
      generalize T[j] = u at *
      have hlook : ∀ i : Nat, ((SemA.tick S).look.getD i []).length ≤ 10000000 := fun i => by
        have := hbd.2 i
        show (S.look.getD i []).length ≤ _
        omega
      have HTK := Lib.hid (fun w' (hq : Wq w w' a (SemA.tick S) 0 F1) => SemG.take w w' a (SemA.tick S) 0 u F1 hq hok hlook)
      rw [ha1, ha2, ha4] at HTK
      clear hok hlook
      obtain ⟨uk, uh, uw, ua, ub, uv⟩ := u
      have z0 : wr.cell? ⟨g, o + j * 6, none⟩ = some (.int .i64 uk) := b0
      have z1 : wr.cell? ⟨g, o + j * 6 + 1, none⟩ = some (.int .i64 uh) := b1
      have z2 : wr.cell? ⟨g, o + j * 6 + 2, none⟩ = some (.int .i64 uw) := b2
      have z3 : wr.cell? ⟨g, o + j * 6 + 3, none⟩ = some (.int .i64 ua) := b3
      have z4 : wr.cell? ⟨g, o + j * 6 + 4, none⟩ = some (.int .i64 ub) := b4
      have z5 : wr.cell? ⟨g, o + j * 6 + 5, none⟩ = some (.int .i64 uv) := b5
      clear b0 b1 b2 b3 b4 b5
      have HQB := Lib.hid (Wq.below hq.out ((Below.refl wr.heap.size wr).alloc (Nat.le_refl _) (.cells #[.int .i64 uk, .int .i64 uh, .int .i64 uw, .int .i64 ua, .int .i64 ub, .int .i64 uv] 143)))
      have HBX := Lib.hid (heap_alloc_new wr (.cells #[.int .i64 uk, .int .i64 uh, .int .i64 uw, .int .i64 ua, .int .i64 ub, .int .i64 uv] 143))
      have hmo : a.mo < wr.heap.size := by
        obtain ⟨h1, M, qv, vs, h2, h3⟩ := hq.out
        exact lt_of h2.mb
      rw [ha5] at hmo
      clear hq
      go_upto_region 7 with fail
      obtain ⟨bx, hbx⟩ : ∃ bx, wr.heap.size = bx := ⟨_, rfl⟩
      simp only [hbx] at HBX hmo ⊢
      generalize wr.alloc (.cells #[.int .i64 uk, .int .i64 uh, .int .i64 uw, .int .i64 ua, .int .i64 ub, .int .i64 uv] 143) = wb at *
      obtain ⟨⟨qv2, cw⟩, cm, fm, _⟩ := Wq.cells HQB.out
      have HTI := Lib.hid (Wq.tick HQB.out)
      rw [ha4, ha5] at cw
      rw [ha5] at cm fm
      rw [ha5] at HTI
      have HBX2 := Lib.hid ((set_other wb mo 2 (.int .i64 ((S.steps : Int) + 1)) (show bx ≠ mo by omega)).trans HBX.out)
      have hsb := hbd.1
      clear hbd z0 z1 z2 z3 z4 z5 hmo HBX HQB
      go_upto_region 8 with fail
      generalize wb.setCell ⟨mo, 2, none⟩ (.int .i64 ((S.steps : Int) + 1)) = wt at *
      have cb := fun o => Lib.cell_of_heap HBX2.out o
      have HTK2 := Lib.hid (HTK.out _ HTI.out)
      unfold Ru.val at HTK2
      simp only at HTK2
      clear HTK cw cm fm
      go_wp2_with fail
      refine HTK2.out.mono ?_
      rintro e w6 ⟨rfl, hq6⟩
      have HQ6 : Hid (Wq w w6 a (takeM n P (SemA.tick S) ⟨uk, uh, uw, ua, ub, uv⟩) 0 F1) := Lib.hid hq6
      clear hq6 cb HTI HTK2 HBX2
      go_wp2_with fail
      go_roundw
      case rel => exact ⟨j + 1, by omega, by go_num, by rw [HS.out]; exact HQ6⟩
      case measure => simp [intOf]; omega
    · have e1 : decide ((j : Int) < T.length) = false := by simp; omega
      obtain rfl : j = T.length := by omega
      have hI0 := HINV.out T.length (Nat.le_refl _)
      rw [List.take_length] at hq hI0
      have HQ0 : Hid (Wq w wr a (takesM n P (SemA.start n) T) 0 F0) := Lib.hid (HBK.out _ _ hq.out)
      have HI0 := Lib.hid hI0
      generalize takesM n P (SemA.start n) T = S0 at *
      clear hq hI0 HUG HBK HINV
      go_wp2_with fail
      generalize wr = w7 at *
      go_loopg [10] (P * n) (fun gh s10 wr => ∃ (s : Sm) (h : Nat) (y : Int), P * n - h ≤ gh ∧ h ≤ s.all.length ∧ Hid (SemA.Inv n P K T T (s.all.take h) [] [] y s) ∧ Hid (Wq w wr a s h F0))
      case atStart => exact ⟨S0, 0, 0, by omega, by omega, HI0, HQ0⟩
      case round =>
        obtain ⟨s, h, y, hgh, hhl, hI, hQ⟩ := hrel
        clear HQ0 HI0
        have hal := SemA.all_len hI.out
        obtain ⟨M, qv, vs, hk⟩ : ∃ M qv vs, Wk w wr a M s (s.all.drop h) qv vs := by
          obtain ⟨_, M, qv, vs, hk, _⟩ := hQ.out
          exact ⟨M, qv, vs, hk⟩
        have cw : ∀ o, wr.cell? ⟨mo + 1, o, none⟩ = (#[.pointer (some ⟨mo, 0, none⟩), .slice (some ⟨a.Lb, 0, none⟩) n n, qv] : Array Value)[o]? := fun o => by
          have := Lib.cell_of_heap hk.wb o
          rw [ha4, ha5, ha1] at this
          exact this
        cases hd : s.all.drop h with
        | nil =>
          have hqn : ∃ A0 c0, qv = .slice A0 0 c0 := by
            have hq := hk.qu
            rw [hd] at hq
            rcases hq with ⟨rfl, _⟩ | ⟨g, o, cap, cur, rfl, _⟩ <;> exact ⟨_, _, rfl⟩
          obtain ⟨A0, c0, rfl⟩ := hqn
          have HEND := Lib.hid (eval_end (a := a) (K := K) ⟨ha1.trans HNN.out.symm, ha2, ha3⟩ hQ.out (by rw [HNN.out]; exact hI.out) hd hTl HTM.out)
          rw [ha5] at HEND
          clear hk hd hI hQ
          go_wp2_with fail
          go_ret
          exact HEND.out
        | cons cur rest =>
          have hq := hk.qu
          rw [hd] at hq
          obtain ⟨g, qo, cap, rfl, hcr, hcm, hpop⟩ := qu_pop hq
          have hall : s.all = s.all.take h ++ cur :: rest := by rw [← hd, List.take_append_drop]
          have hrng := mayB_iff.1 (hI.out.rng cur (by rw [hall]; simp))
          obtain ⟨c1, y1⟩ := cur
          simp only at hrng
          obtain ⟨c, rfl⟩ : ∃ v : Nat, c1 = v := ⟨c1.toNat, by omega⟩
          obtain ⟨yy, rfl⟩ : ∃ v : Nat, y1 = v := ⟨y1.toNat, by omega⟩
          have hcn : c < n := by omega
          have hyP : yy < P := by omega
          have htk : s.all.take (h + 1) = s.all.take h ++ [((c : Int), (yy : Int))] := by
            have hlt2 : h < s.all.length := by
              rcases Nat.lt_or_ge h s.all.length with h2 | h2
              · exact h2
              · rw [List.drop_eq_nil_of_le h2] at hd; cases hd
            rw [List.take_succ_eq_append_getElem hlt2]
            have := List.drop_eq_getElem_cons hlt2
            rw [hd] at this
            injection this with e1 e2
            rw [e1]
          have hhl2 : h + 1 ≤ s.all.length := by
            rcases Nat.lt_or_ge h s.all.length with h2 | h2
            · exact h2
            · rw [List.drop_eq_nil_of_le h2] at hd; cases hd
          have hdr : s.all.drop (h + 1) = rest := by
            have := List.drop_drop (i := 1) (j := h) (l := s.all)
            rw [hd] at this
            simpa using this.symm
          have hpopI := hI.out.pop hall
          rw [← htk] at hpopI
          simp only at hpopI
          have hbd := bd_of HNN.out.symm hP hK hT1 hI.out
          have hT' : ∀ i : Nat, ((SemA.tick s).look.getD i []).length ≤ 1000000 := hbd.2
          have hsb := hbd.1
          obtain ⟨T', hTe⟩ : ∃ T', (SemA.tick s).look.getD c [] = T' := ⟨_, rfl⟩
          have hat : s.at (c : Int) = T' := hTe
          rw [hat] at hpopI
          have hcur : ((c : Int), (yy : Int)) ∈ s.all.take (h + 1) := by rw [htk]; simp
          have HFI := Lib.hid (hpopI.follow HNN.out.symm hcur T' (SemA.tick s) (fun u hu => by
            show u ∈ s.at (c : Int)
            rw [hat]; exact hu))
          have HBD : Hid (∀ j, j ≤ T'.length → Bd (followM a.n a.c a.K (SemA.tick s) yy (T'.take j))) := Lib.hid (fun j hj => by
            rw [ha1, ha2, ha3]
            have hI2 := SemA.Inv.follow_part HNN.out.symm hcur (T'.take j) (T'.drop j) (SemA.tick s) (by rw [List.take_append_drop]; exact hpopI) (fun u hu => by
              show u ∈ s.at (c : Int)
              rw [hat]; exact List.mem_of_mem_take hu)
            obtain ⟨b1, b2⟩ := bd_of HNN.out.symm hP hK hT1 hI2
            exact ⟨by omega, fun i => by have := b2 i; omega⟩)
          have HOK2 : Hid (∀ u ∈ T', Ok a.n a.c a.K u ∧ u.kind ≠ 1) := Lib.hid (fun u hu => by
            rw [ha1, ha2, ha3]
            have := hI.out.lok c u (by rw [← hTe] at hu; exact hu)
            exact ⟨this.1, this.2.1⟩)
          have HLT : Hid (T'.length ≤ 100000000) := Lib.hid (by have := hT' c; rw [hTe] at this; omega)
          have HFO := Lib.hid (fun w' (hq : Wq w w' a (SemA.tick s) (h + 1) F0) => SemF.follow w w' a (SemA.tick s) (h + 1) c yy F0 HTB.out hq (by omega) (by omega) (by omega) (by omega) (by rw [ha1, ha2, ha3]; exact HNN.out.symm) T' hTe HOK2.out HLT.out HBD.out)
          rw [ha4, ha1, ha2, ha3] at HFO
          rw [hd] at hk
          have HKT := Lib.hid hk.tick
          rw [ha5] at HKT
          have HPOP := Lib.hid hpop
          have HHD := Lib.hid hdr
          have HTKL : Hid ((s.all.take (h + 1)).length = h + 1) := Lib.hid (by rw [List.length_take]; omega)
          have cm : ∀ o, wr.cell? ⟨mo, o, none⟩ = (#[.pointer (some ⟨a.B, 0, none⟩), .int .i64 a.K, .int .i64 s.steps] : Array Value)[o]? := fun o => by
            have := Lib.cell_of_heap hk.mb o
            rw [ha5] at this
            exact this
          have fm : ∀ o, wr.frozen? ⟨mo, o, none⟩ = false := fun o => by
            have h1 : wr.frozen? ⟨a.mo, o, none⟩ = false := frozen_of_row _ _ _ _ _ hk.mb
            rw [ha5] at h1
            exact h1
          have e1 : decide ((0 : Int) < (rest.length : Int) + 1) = true := by first | (simp; done) | (simp; omega)
          have q1 : (0 : Int) < (rest.length : Int) + 1 := by omega
          clear hd hk hI hQ hq hpop hall htk hdr hpopI hbd hT' hTe hat hcur hrng
          go_upto_region 12 with fail
          generalize wr.setCell ⟨mo, 2, none⟩ (.int .i64 ((s.steps : Int) + 1)) = wt at *
          have cw2 : ∀ o, wt.cell? ⟨mo + 1, o, none⟩ = (#[.pointer (some ⟨mo, 0, none⟩), .slice (some ⟨a.Lb, 0, none⟩) n n, .slice (some ⟨g, qo, none⟩) (rest.length + 1) cap] : Array Value)[o]? := fun o => by
            have := Lib.cell_of_heap HKT.out.wb o
            rw [ha4, ha5, ha1] at this
            exact this
          obtain ⟨x0, x1, _, _⟩ := HPOP.out wt HKT.out.qu
          simp only at x0 x1
          have hkA := HKT.out.below ((Below.refl wt.heap.size wt).alloc (Nat.le_refl _) (.cells #[.int .i64 c, .int .i64 yy] 146))
          have HKA := Lib.hid hkA
          have HBX := Lib.hid (heap_alloc_new wt (.cells #[.int .i64 c, .int .i64 yy] 146))
          have hmoA : mo + 1 < wt.heap.size := by
            have := lt_of HKT.out.wb
            rw [ha4] at this
            exact this
          clear hkA cw cm fm
          go_upto_region 13 with fail
          obtain ⟨bx, hbx⟩ : ∃ bx, wt.heap.size = bx := ⟨_, rfl⟩
          simp only [hbx] at HBX hmoA ⊢
          generalize wt.alloc (.cells #[.int .i64 c, .int .i64 yy] 146) = wa at *
          have cw3 : ∀ o, wa.cell? ⟨mo + 1, o, none⟩ = (#[.pointer (some ⟨mo, 0, none⟩), .slice (some ⟨a.Lb, 0, none⟩) n n, .slice (some ⟨g, qo, none⟩) (rest.length + 1) cap] : Array Value)[o]? := fun o => by
            have := Lib.cell_of_heap HKA.out.wb o
            rw [ha4, ha5, ha1] at this
            exact this
          have fw3 : ∀ o, wa.frozen? ⟨mo + 1, o, none⟩ = false := fun o => by
            have h1 : wa.frozen? ⟨a.wk, o, none⟩ = false := frozen_of_row _ _ _ _ _ HKA.out.wb
            rw [ha4] at h1
            exact h1
          obtain ⟨_, _, x2, x3⟩ := HPOP.out wa HKA.out.qu
          have HX2 := Lib.hid x2
          have HX3 := Lib.hid x3
          have hgr : ∀ r, wa.grownBy wa r := fun r => ⟨rfl, rfl, rfl, Nat.le_refl _, fun _ _ _ => rfl⟩
          have HWQ : Hid (∀ qv', Qu wa w.heap.size qv' rest → Wq w (wa.setCell ⟨mo + 1, 2, none⟩ qv') a (SemA.tick s) (h + 1) F0) := Lib.hid (fun qv' hq => by
            have := HKA.out.queue (hgr _) hq
            rw [ha4] at this
            exact ⟨hhl2, M, qv', vs, by rw [show (SemA.tick s).all.drop (h + 1) = rest from HHD.out]; exact this, f0_ok _ _ _ _⟩)
          have HBX2 : Hid (∀ v, (wa.setCell ⟨mo + 1, 2, none⟩ v).heap[bx]? = some (.cells #[.int .i64 c, .int .i64 yy] 146 (0, 0))) := Lib.hid (fun v => (set_other wa _ _ _ (show bx ≠ mo + 1 by omega)).trans HBX.out)
          have hcm2 : cap ≤ 9223372036854775807 := hcm
          clear x0 x1 x2 x3 hgr cw2 HKT HKA HBX hmoA hbx hcm
          by_cases hcap : cap = 1
          · subst hcap
            have hr0 : rest.length = 0 := by omega
            have HW8 := Lib.hid (HWQ.out _ (HX2.out rfl))
            have HF8 := Lib.hid (HFO.out _ HW8.out)
            have cb := fun o => Lib.cell_of_heap (HBX2.out (.slice (some ⟨g, qo, none⟩) 0 0)) o
            obtain rfl : rest = [] := List.eq_nil_of_length_eq_zero hr0
            simp only [List.length_nil, Nat.zero_add] at cw3 hcr q1 e1 ⊢
            clear HWQ HX2 HX3 HBX2 HFO HPOP hr0 e1 q1 hcr
            go_upto_region 14 with fail
            generalize wa.setCell ⟨mo + 1, 2, none⟩ (.slice (some ⟨g, qo, none⟩) 0 0) = w8 at *
            go_wp2_with fail
            refine HF8.out.mono ?_
            rintro e w9 ⟨rfl, hq9⟩
            have HQ9 : Hid (Wq w w9 a (followM n P K (SemA.tick s) yy T') (h + 1) F0) := Lib.hid hq9
            clear hq9 HF8 HW8 cb cw3 fw3
            go_wp2_with fail
            go_roundg (P * n - (h + 1))
            case measure => omega
            case rel =>
              have hpre := HFI.out.pre
              refine ⟨followM n P K (SemA.tick s) yy T', h + 1, yy, Nat.le_refl _, HQ9.out.1, Lib.hid ?_, HQ9⟩
              have e4 : (followM n P K (SemA.tick s) yy T').all.take (h + 1) = s.all.take (h + 1) := by
                have := List.prefix_iff_eq_take.1 hpre
                rw [HTKL.out] at this
                exact this.symm
              rw [e4]
              exact HFI.out
          · have HW8 := Lib.hid (HWQ.out _ (HX3.out hcap))
            have HF8 := Lib.hid (HFO.out _ HW8.out)
            have cb := fun o => Lib.cell_of_heap (HBX2.out (.slice (some ⟨g, qo + 2, none⟩) rest.length (cap - 1))) o
            clear HWQ HX2 HX3 HBX2 HFO HPOP
            go_upto_region 14 with fail
            generalize wa.setCell ⟨mo + 1, 2, none⟩ (.slice (some ⟨g, qo + 2, none⟩) rest.length (cap - 1)) = w8 at *
            go_wp2_with fail
            refine HF8.out.mono ?_
            rintro e w9 ⟨rfl, hq9⟩
            have HQ9 : Hid (Wq w w9 a (followM n P K (SemA.tick s) yy T') (h + 1) F0) := Lib.hid hq9
            clear hq9 HF8 HW8 cb cw3 fw3
            go_wp2_with fail
            go_roundg (P * n - (h + 1))
            case measure => omega
            case rel =>
              have hpre := HFI.out.pre
              refine ⟨followM n P K (SemA.tick s) yy T', h + 1, yy, Nat.le_refl _, HQ9.out.1, Lib.hid ?_, HQ9⟩
              have e4 : (followM n P K (SemA.tick s) yy T').all.take (h + 1) = s.all.take (h + 1) := by
                have := List.prefix_iff_eq_take.1 hpre
                rw [HTKL.out] at this
                exact this.symm
              rw [e4]
              exact HFI.out
end Go.Proofs.YtcmdiomjhideiaaGreatDoor.SemI
/- Models: In, Members, Steps, Bound, by contract; the document's example. -/
namespace Go.Proofs.YtcmdiomjhideiaaGreatDoor.SemJ
set_option linter.unusedVariables false
set_option linter.unusedSimpArgs false
open Go.RowKit Go.Lib Go.Proofs Go.Proofs.YtcmdiomjhideiaaGreatDoor.SetA Go.Proofs.YtcmdiomjhideiaaGreatDoor.SetB Go.Proofs.YtcmdiomjhideiaaGreatDoor.SetC Go.Proofs.YtcmdiomjhideiaaGreatDoor.SetD Go.Proofs.YtcmdiomjhideiaaGreatDoor.SetJ Go.Proofs.YtcmdiomjhideiaaGreatDoor.SetN Go.Proofs.YtcmdiomjhideiaaGreatDoor.SetQ Go.Proofs.YtcmdiomjhideiaaGreatDoor.SetR Go.Proofs.YtcmdiomjhideiaaGreatDoor.TblB Go.Proofs.YtcmdiomjhideiaaGreatDoor.TblC Go.Proofs.YtcmdiomjhideiaaGreatDoor.TblV Go.Proofs.YtcmdiomjhideiaaGreatDoor.TblP Go.Proofs.YtcmdiomjhideiaaGreatDoor.TblQ Go.Proofs.YtcmdiomjhideiaaGreatDoor.SemA Go.Proofs.YtcmdiomjhideiaaGreatDoor.SemB Go.Proofs.YtcmdiomjhideiaaGreatDoor.SemH Go.Proofs.YtcmdiomjhideiaaGreatDoor.SemI
set_option linter.unusedVariables false
set_option linter.unusedSimpArgs false
section
variable {w : World} {mo B R n P K : Nat} {M : List Nat} {all : List Pr} {st : Nat}
theorem MoAt.cells (h : MoAt w mo B R n P K M all st) : ∀ o, w.cell? ⟨mo, o, none⟩ = (#[.pointer (some ⟨B, 0, none⟩), .int .i64 K, .int .i64 st] : Array Value)[o]? := fun o => Lib.cell_of_heap h.mb o
theorem lst0 (h : MoAt w mo B R n P K M all st) (ht : Tab w) (r : Int) : Calls Tryz.prog 79 #[.pointer (some ⟨B, 0, none⟩), .int .i64 r] w (ListPost (listL P all r) w) := by
  have := list_at (.pointer (some ⟨B, 0, none⟩)) (rowI n M r) r w (rowI_len h.fam.len r) (rowI_small h.fam r) ht (at_ B R n P M r w h.fam)
  rw [h.inv.list] at this
  exact this
set_option maxRecDepth 100000 in
theorem members (h : MoAt w mo B R n P K M all st) (ht : Tab w) (r : Int) : Calls Tryz.prog 19 #[.pointer (some ⟨mo, 0, none⟩), .int .i64 r] w (ListPost (listL P all r) w) := by
  have HH := Lib.hid (lst0 h ht r)
  have cm := MoAt.cells h
  generalize listL P all r = l at *
  clear h ht
  go_enter Tryz.func19, Tryz.ntmps19
  go_wp2_with fail
  refine HH.out.mono ?_
  rintro e w1 ⟨v, rfl, hown, hb⟩
  have HO := Lib.hid hown
  have HB := Lib.hid hb
  clear cm HH hown hb
  go_wp2_with fail
  go_ret
  exact ⟨_, rfl, HO.out, HB.out⟩
set_option maxRecDepth 100000 in
theorem steps (h : MoAt w mo B R n P K M all st) : Calls Tryz.prog 104 #[.pointer (some ⟨mo, 0, none⟩)] w fun e w' => e = .returned (.int .i64 st) ∧ w = w' := by
  have cm := MoAt.cells h
  clear h
  go_enter Tryz.func104, Tryz.ntmps104
  go_wp2_with fail
  go_ret
  exact ⟨rfl, rfl⟩
end
def boundN (P K N : Nat) : Nat := 4 * (P + 1) * (P + 1) * (P + 1) * (K + 1) * (K + 1) * (N + 1)
theorem wrapN {a b c : Nat} (h : a * b = c) (hc : c < 9223372036854775808) : IntKind.i64.wrap ((a : Int) * (b : Int)) = (c : Int) := by
  rw [← Int.natCast_mul, h, IntKind.wrap_i64]
  omega
theorem bound_steps {P K N : Nat} (hP : P ≤ 64) (hK : K ≤ 64) (hN : N ≤ 10000) : 4 * (P + 1) ≤ 260 ∧ 4 * (P + 1) * (P + 1) ≤ 16900 ∧ 4 * (P + 1) * (P + 1) * (P + 1) ≤ 1098500 ∧ 4 * (P + 1) * (P + 1) * (P + 1) * (K + 1) ≤ 71402500 ∧ 4 * (P + 1) * (P + 1) * (P + 1) * (K + 1) * (K + 1) ≤ 4641162500 ∧ boundN P K N ≤ 46416266162500 := by
  have h1 : 4 * (P + 1) ≤ 260 := by omega
  have h2 : 4 * (P + 1) * (P + 1) ≤ 260 * 65 := Nat.mul_le_mul h1 (by omega)
  have h3 : 4 * (P + 1) * (P + 1) * (P + 1) ≤ 16900 * 65 := Nat.mul_le_mul (by omega) (by omega)
  have h4 : 4 * (P + 1) * (P + 1) * (P + 1) * (K + 1) ≤ 1098500 * 65 := Nat.mul_le_mul (by omega) (by omega)
  have h5 : 4 * (P + 1) * (P + 1) * (P + 1) * (K + 1) * (K + 1) ≤ 71402500 * 65 := Nat.mul_le_mul (by omega) (by omega)
  have h6 : boundN P K N ≤ 4641162500 * 10001 := Nat.mul_le_mul (by omega) (by omega)
  omega
set_option maxRecDepth 100000 in
theorem bound (p k n : Int) (w : World) : Calls Tryz.prog 49 #[.int .i64 p, .int .i64 k, .int .i64 n] w fun e w' => e = .returned (.int .i64 (boundN (SetA.within p 64).toNat (SetA.within k 64).toNat (SetA.within n 10000).toNat : Nat)) ∧ w = w' := by
  have HW1 := Lib.hid (fun w' => SemH.within_ p 64 w')
  have HW2 := Lib.hid (fun w' => SemH.within_ k 64 w')
  have HW3 := Lib.hid (fun w' => SemH.within_ n 10000 w')
  have hp := within_le p 64 (by omega)
  have hk := within_le k 64 (by omega)
  have hn := within_le n 10000 (by omega)
  generalize SetA.within p 64 = Pi at *
  generalize SetA.within k 64 = Ki at *
  generalize SetA.within n 10000 = Ni at *
  obtain ⟨P, rfl⟩ : ∃ v : Nat, Pi = v := ⟨Pi.toNat, by omega⟩
  obtain ⟨K, rfl⟩ : ∃ v : Nat, Ki = v := ⟨Ki.toNat, by omega⟩
  obtain ⟨N, rfl⟩ : ∃ v : Nat, Ni = v := ⟨Ni.toNat, by omega⟩
  simp only [Int.toNat_natCast]
  have hP : P ≤ 64 := by omega
  have hK : K ≤ 64 := by omega
  have hN : N ≤ 10000 := by omega
  obtain ⟨b1, b2, b3, b4, b5, b6⟩ := bound_steps hP hK hN
  obtain ⟨a1, h1⟩ : ∃ a, 4 * (P + 1) = a := ⟨_, rfl⟩
  obtain ⟨a2, h2⟩ : ∃ a, a1 * (P + 1) = a := ⟨_, rfl⟩
  obtain ⟨a3, h3⟩ : ∃ a, a2 * (P + 1) = a := ⟨_, rfl⟩
  obtain ⟨a4, h4⟩ : ∃ a, a3 * (K + 1) = a := ⟨_, rfl⟩
  obtain ⟨a5, h5⟩ : ∃ a, a4 * (K + 1) = a := ⟨_, rfl⟩
  obtain ⟨a6, h6⟩ : ∃ a, a5 * (N + 1) = a := ⟨_, rfl⟩
  have hbn : boundN P K N = a6 := by unfold boundN; rw [h1, h2, h3, h4, h5, h6]
  rw [hbn] at b6 ⊢
  rw [h1, h2, h3, h4, h5] at b5
  rw [h1, h2, h3, h4] at b4
  rw [h1, h2, h3] at b3
  rw [h1, h2] at b2
  rw [h1] at b1
  have m1 : IntKind.i64.wrap (4 * ((P : Int) + 1)) = (a1 : Int) := wrapN h1 (by omega)
  have m2 : IntKind.i64.wrap ((a1 : Int) * ((P : Int) + 1)) = (a2 : Int) := wrapN h2 (by omega)
  have m3 : IntKind.i64.wrap ((a2 : Int) * ((P : Int) + 1)) = (a3 : Int) := wrapN h3 (by omega)
  have m4 : IntKind.i64.wrap ((a3 : Int) * ((K : Int) + 1)) = (a4 : Int) := wrapN h4 (by omega)
  have m5 : IntKind.i64.wrap ((a4 : Int) * ((K : Int) + 1)) = (a5 : Int) := wrapN h5 (by omega)
  have m6 : IntKind.i64.wrap ((a5 : Int) * ((N : Int) + 1)) = (a6 : Int) := wrapN h6 (by omega)
  clear h1 h2 h3 h4 h5 h6 hbn b1 b2 b3 b4 b5 b6 hp hk hn
  go_enter Tryz.func49, Tryz.ntmps49
  go_wp2_with fail
  refine (HW1.out _).mono ?_
  rintro e w1 ⟨rfl, rfl⟩
  go_wp2_with fail
  refine (HW2.out _).mono ?_
  rintro e w1 ⟨rfl, rfl⟩
  go_wp2_with fail
  refine (HW3.out _).mono ?_
  rintro e w1 ⟨rfl, rfl⟩
  go_wp2_with fail
  go_ret
  exact ⟨rfl, rfl⟩
/-- The document's example: rules, and who is in which role. -/
def ex1 : Ru := ⟨2, 0, 0, 3, 0, 0⟩
def ex2 : Ru := ⟨1, 3, 2, 0, 0, 0⟩
theorem ex_right : [ex1, ex2].filter (rightU 3 2) = [ex1, ex2] := by decide +kernel
end Go.Proofs.YtcmdiomjhideiaaGreatDoor.SemJ
/- The document's example of layer 8, by contract. -/
namespace Go.Proofs.YtcmdiomjhideiaaGreatDoor.SemK
set_option linter.unusedVariables false
set_option linter.unusedSimpArgs false
open Go.RowKit Go.Lib Go.Proofs Go.Proofs.YtcmdiomjhideiaaGreatDoor.SetA Go.Proofs.YtcmdiomjhideiaaGreatDoor.SetB Go.Proofs.YtcmdiomjhideiaaGreatDoor.SetC Go.Proofs.YtcmdiomjhideiaaGreatDoor.SetD Go.Proofs.YtcmdiomjhideiaaGreatDoor.SetJ Go.Proofs.YtcmdiomjhideiaaGreatDoor.SetN Go.Proofs.YtcmdiomjhideiaaGreatDoor.SetQ Go.Proofs.YtcmdiomjhideiaaGreatDoor.SetR Go.Proofs.YtcmdiomjhideiaaGreatDoor.TblB Go.Proofs.YtcmdiomjhideiaaGreatDoor.TblC Go.Proofs.YtcmdiomjhideiaaGreatDoor.TblV Go.Proofs.YtcmdiomjhideiaaGreatDoor.TblP Go.Proofs.YtcmdiomjhideiaaGreatDoor.TblQ Go.Proofs.YtcmdiomjhideiaaGreatDoor.SemA Go.Proofs.YtcmdiomjhideiaaGreatDoor.SemB Go.Proofs.YtcmdiomjhideiaaGreatDoor.SemH Go.Proofs.YtcmdiomjhideiaaGreatDoor.SemI Go.Proofs.YtcmdiomjhideiaaGreatDoor.SemJ
set_option linter.unusedVariables false
set_option linter.unusedSimpArgs false
theorem has_of {all : List Pr} {p : Int → Int → Prop} (h : ∀ r x, (r, x) ∈ all ↔ p r x) {r x : Int} {b : Bool} (hb : p r x ↔ b = true) : hasL all r x = b := by
  rw [Bool.eq_iff_iff, hasL_iff, h, hb]
end Go.Proofs.YtcmdiomjhideiaaGreatDoor.SemK
/- The walk of the law of steps. -/
namespace Go.Proofs.YtcmdiomjhideiaaGreatDoor.SemSw
set_option linter.unusedVariables false
set_option linter.unusedSimpArgs false
open Go.RowKit Go.Lib Go.Proofs Go.Proofs.YtcmdiomjhideiaaGreatDoor.SetA Go.Proofs.YtcmdiomjhideiaaGreatDoor.SetB Go.Proofs.YtcmdiomjhideiaaGreatDoor.SetC Go.Proofs.YtcmdiomjhideiaaGreatDoor.SetD Go.Proofs.YtcmdiomjhideiaaGreatDoor.SetJ Go.Proofs.YtcmdiomjhideiaaGreatDoor.SetN Go.Proofs.YtcmdiomjhideiaaGreatDoor.SetQ Go.Proofs.YtcmdiomjhideiaaGreatDoor.SetR Go.Proofs.YtcmdiomjhideiaaGreatDoor.TblB Go.Proofs.YtcmdiomjhideiaaGreatDoor.TblC Go.Proofs.YtcmdiomjhideiaaGreatDoor.TblV Go.Proofs.YtcmdiomjhideiaaGreatDoor.TblP Go.Proofs.YtcmdiomjhideiaaGreatDoor.SemA Go.Proofs.YtcmdiomjhideiaaGreatDoor.SemB Go.Proofs.YtcmdiomjhideiaaGreatDoor.SemH Go.Proofs.YtcmdiomjhideiaaGreatDoor.SemI Go.Proofs.YtcmdiomjhideiaaGreatDoor.SemJ Go.Proofs.YtcmdiomjhideiaaGreatDoor.SemK
set_option linter.unusedVariables false
set_option linter.unusedSimpArgs false
def smallB (p k : Int) (n : Nat) : Bool := decide (p ≤ 10) && (decide (k ≤ 6) && decide (n ≤ 60))
end Go.Proofs.YtcmdiomjhideiaaGreatDoor.SemSw
/- Models by what follows: members and being in, of rows of rules; rules turned round and doubled. -/
namespace Go.Proofs.YtcmdiomjhideiaaGreatDoor.SemGa
set_option linter.unusedVariables false
set_option linter.unusedSimpArgs false
open Go.RowKit Go.Lib Go.Proofs Go.Proofs.YtcmdiomjhideiaaGreatDoor.SetA Go.Proofs.YtcmdiomjhideiaaGreatDoor.SetB Go.Proofs.YtcmdiomjhideiaaGreatDoor.SetC Go.Proofs.YtcmdiomjhideiaaGreatDoor.SetD Go.Proofs.YtcmdiomjhideiaaGreatDoor.SetJ Go.Proofs.YtcmdiomjhideiaaGreatDoor.SetN Go.Proofs.YtcmdiomjhideiaaGreatDoor.SetQ Go.Proofs.YtcmdiomjhideiaaGreatDoor.SetR Go.Proofs.YtcmdiomjhideiaaGreatDoor.TblB Go.Proofs.YtcmdiomjhideiaaGreatDoor.TblC Go.Proofs.YtcmdiomjhideiaaGreatDoor.TblV Go.Proofs.YtcmdiomjhideiaaGreatDoor.TblP Go.Proofs.YtcmdiomjhideiaaGreatDoor.TblQ Go.Proofs.YtcmdiomjhideiaaGreatDoor.SemA Go.Proofs.YtcmdiomjhideiaaGreatDoor.SemB Go.Proofs.YtcmdiomjhideiaaGreatDoor.SemH Go.Proofs.YtcmdiomjhideiaaGreatDoor.SemI Go.Proofs.YtcmdiomjhideiaaGreatDoor.SemJ Go.Proofs.YtcmdiomjhideiaaGreatDoor.SemK
set_option linter.unusedVariables false
set_option linter.unusedSimpArgs false
section
variable {P : Program} (w : World)
theorem step_append_from {ops : Array Oper} {o : Oper} {a : Act} {K : Act → World → Prop} {Q : Exit → Act → World → Prop} {E : Prop} (hgd : o.guard = none) (s x : Operand) (t : TypeId)
    (ho : o.op = .call { callee := .builtin .append, args := #[s, x], argTypes := #[t, t] })
    (base : Nat) (e : TypeId) (i : TypeInfo) (z : Value) (size bytes : Nat) (ht : P.underlying t = some (.slice e)) (hi : P.info? e = some i) (hz : i.zero = some z)
    (hsize : i.size = size) (hby : i.bytes = bytes) (hzs : z.cells.size = size) (hsz : 0 < size) (v : Value) (n : Nat) (xs : List Value) (hs : a.eval s = v) (hown : w.ownsRow base e size v n xs)
    (A : Option Addr) (m c : Nat) (news : List Value) (hx : a.eval x = .slice A m c) (hlen : news.length = m * size) (h0 : A = none → m = 0) (hA : ∀ ad, A = some ad → ∀ j u, news[j]? = some u → w.cell? (ad.add j) = some u) (h1 : ∀ u ∈ news, u.oneCell' = true)
    (h63 : n + m ≤ maxLen) (hbytes : (n + m) * bytes ≤ 140737488355328) (hbase : base ≤ w.heap.size)
    (h : ∀ v' w', w'.ownsRow base e size v' (n + m) (xs ++ news) → w.grownBy w' v.ownBlock → K (a.put o.dst v') w') :
    if Region.wanted o (yielded ops a.tmps) = true then Oper.wp P o a w K Q else E := by
  have hw : Region.wanted o (yielded ops a.tmps) = true := by simp [Region.wanted, hgd]
  rw [if_pos hw]
  obtain ⟨v', w', hr, h2, h3⟩ := SynC.run_append_from (P := P) w base t o.type e i z size bytes ht hi hz hsize hby hzs hsz v n xs hown A m c news hlen h0 hA h1 h63 hbytes hbase
  unfold Oper.wp execOp
  simp only [ho, resolve, invoke, builtin, Sem.run_bind, Sem.run_pure, Result.andThen_ok, List.map_toArray, List.map_cons, List.map_nil, hs, hx, hr]
  exact h v' w' h2 h3
end
theorem own_n {w : World} {B n k : Nat} {e : TypeId} {v : Value} {xs : List Value} (h : w.ownsRow B e k v n xs) : ∃ A c, v = .slice A n c := by
  rcases h.2 with ⟨rfl, rfl⟩ | ⟨g, cap, cur, rfl, _⟩
  · exact ⟨none, 0, rfl⟩
  · exact ⟨_, cap, rfl⟩
theorem below_grown {W w w1 : World} {B n k : Nat} {e : TypeId} {v : Value} {xs : List Value} (hb : Below W.heap.size W w) (ho : w.ownsRow B e k v n xs) (hg : w.grownBy w1 v.ownBlock) (hB : W.heap.size ≤ B) (hBw : B ≤ w.heap.size) : Below W.heap.size W w1 :=
  hb.grown hg (by omega) (fun j hj => Nat.le_trans hB (ho.lt j hj).1)
/-- A model in memory of a row of rules. -/
def Mo (w : World) (mo P K : Nat) (T : List Ru) : Prop := ∃ B R M all st, MoAt w mo B R (P * K) P K M all st ∧ ∀ r x, (r, x) ∈ all ↔ Der K (T.filter (rightU P K)) r x
theorem Mo.below {w w' : World} {mo P K : Nat} {T : List Ru} (h : Mo w mo P K T) (hb : Below w.heap.size w w') : Mo w' mo P K T := by
  obtain ⟨B, R, M, all, st, hm, hd⟩ := h
  exact ⟨B, R, M, all, st, hm.below hb, hd⟩
noncomputable def derB (P K : Nat) (T : List Ru) (r x : Int) : Bool := @decide (Der K (T.filter (rightU P K)) r x) (Classical.propDecidable _)
theorem derB_iff {P K : Nat} {T : List Ru} {r x : Int} : derB P K T r x = true ↔ Der K (T.filter (rightU P K)) r x := @decide_eq_true_iff _ (Classical.propDecidable _)
noncomputable def memD (P K : Nat) (T : List Ru) (r : Int) : List Nat := (List.range P).filter fun x : Nat => derB P K T r (x : Int)
theorem mem_memD {P K : Nat} {T : List Ru} {r : Int} {x : Nat} : x ∈ memD P K T r ↔ x < P ∧ Der K (T.filter (rightU P K)) r (x : Int) := by
  unfold memD
  rw [List.mem_filter, List.mem_range, derB_iff]
theorem memD_len (P K : Nat) (T : List Ru) (r : Int) : (memD P K T r).length ≤ P := by
  unfold memD
  exact Nat.le_trans (List.length_filter_le _ _) (Nat.le_of_eq (List.length_range))
theorem list_memD {P K : Nat} {T : List Ru} {all : List Pr} (hd : ∀ r x, (r, x) ∈ all ↔ Der K (T.filter (rightU P K)) r x) (r : Int) : listL P all r = memD P K T r := by
  unfold listL memD
  refine List.filter_congr fun x _ => ?_
  exact has_of hd derB_iff.symm
theorem membersM {w : World} {mo P K : Nat} {T : List Ru} (h : Mo w mo P K T) (ht : Tab w) (r : Int) : Calls Tryz.prog 19 #[.pointer (some ⟨mo, 0, none⟩), .int .i64 r] w (ListPost (memD P K T r) w) := by
  obtain ⟨B, R, M, all, st, hm, hd⟩ := h
  have h2 := members hm ht r
  rw [list_memD hd r] at h2
  exact h2
end Go.Proofs.YtcmdiomjhideiaaGreatDoor.SemGa
/- The least state's table and model, who is in a role in it, and how many steps that took: package low by contract. -/
namespace Go.Proofs.YtcmdiomjhideiaaGreatDoor.LwH
set_option linter.unusedVariables false
set_option linter.unusedSimpArgs false
open Go.RowKit Go.Sort Go.Lib Go.Proofs Go.Proofs.YtcmdiomjhideiaaGreatDoor.Plain Go.Proofs.YtcmdiomjhideiaaGreatDoor.SynP Go.Proofs.YtcmdiomjhideiaaGreatDoor.TabP Go.Proofs.YtcmdiomjhideiaaGreatDoor.Tab1 Go.Proofs.YtcmdiomjhideiaaGreatDoor.Tab5 Go.Proofs.YtcmdiomjhideiaaGreatDoor.PolA Go.Proofs.YtcmdiomjhideiaaGreatDoor.PolE Go.Proofs.YtcmdiomjhideiaaGreatDoor.PolG Go.Proofs.YtcmdiomjhideiaaGreatDoor.PolH Go.Proofs.YtcmdiomjhideiaaGreatDoor.PolOp Go.Proofs.YtcmdiomjhideiaaGreatDoor.PolLi Go.Proofs.YtcmdiomjhideiaaGreatDoor.TblA Go.Proofs.YtcmdiomjhideiaaGreatDoor.TblB Go.Proofs.YtcmdiomjhideiaaGreatDoor.TblC Go.Proofs.YtcmdiomjhideiaaGreatDoor.TblI Go.Proofs.YtcmdiomjhideiaaGreatDoor.TblV Go.Proofs.YtcmdiomjhideiaaGreatDoor.TblW Go.Proofs.YtcmdiomjhideiaaGreatDoor.TblQ Go.Proofs.YtcmdiomjhideiaaGreatDoor.TblP Go.Proofs.YtcmdiomjhideiaaGreatDoor.TblF Go.Proofs.YtcmdiomjhideiaaGreatDoor.TblG Go.Proofs.YtcmdiomjhideiaaGreatDoor.TblH Go.Proofs.YtcmdiomjhideiaaGreatDoor.SetB Go.Proofs.YtcmdiomjhideiaaGreatDoor.SetJ Go.Proofs.YtcmdiomjhideiaaGreatDoor.SetN Go.Proofs.YtcmdiomjhideiaaGreatDoor.SetR Go.Proofs.YtcmdiomjhideiaaGreatDoor.SemA Go.Proofs.YtcmdiomjhideiaaGreatDoor.SemH Go.Proofs.YtcmdiomjhideiaaGreatDoor.SemGa Go.Proofs.YtcmdiomjhideiaaGreatDoor.StB Go.Proofs.YtcmdiomjhideiaaGreatDoor.LwG
set_option linter.unusedVariables false
set_option linter.unusedSimpArgs false
abbrev nx := @TblW.nx
/-- A model in memory of a row of rules, and how many steps it took. -/
def MoS (w : World) (mo P K : Nat) (T : List Ru) (st : Nat) : Prop := ∃ B R M all, MoAt w mo B R (P * K) P K M all st ∧ (∀ r x, (r, x) ∈ all ↔ Der K (T.filter (rightU P K)) r x) ∧ st ≤ T.length + P * (P * K + T.length * (2 + 2 * P)) ∧ (T.filter (rightU P K) ≠ [] → 0 < st)
theorem MoS.below {w w' : World} {mo P K st : Nat} {T : List Ru} (h : MoS w mo P K T st) (hb : Below w.heap.size w w') : MoS w' mo P K T st := by
  obtain ⟨B, R, M, all, hm, hd⟩ := h
  exact ⟨B, R, M, all, hm.below hb, hd⟩
theorem MoS.mo {w : World} {mo P K st : Nat} {T : List Ru} (h : MoS w mo P K T st) : Mo w mo P K T := by
  obtain ⟨B, R, M, all, hm, hd, _⟩ := h
  exact ⟨B, R, M, all, st, hm, hd⟩
def SPost (P K : Nat) (T : List Ru) (w : World) (e : Ending) (w' : World) : Prop := ∃ mo st : Nat, e = .returned (.pointer (some ⟨mo, 0, none⟩)) ∧ MoS w' mo P K T st ∧ Below w.heap.size w w'
theorem evalS (P K : Nat) (hP : P ≤ 64) (hK : K ≤ 64) (A : Option Addr) (ca : Nat) (L : List Ru) (w : World) (hT : Tab w) (hL : L.length ≤ 1000) (hA : UG w A L) :
    Calls Tryz.prog 75 #[.int .i64 P, .int .i64 K, .slice A L.length ca] w (SPost P K L w) := by
  have e1 : (SetA.within (P : Int) 64).toNat = P := by unfold SetA.within; omega
  have e2 : (SetA.within (K : Int) 64).toNat = K := by unfold SetA.within; omega
  have h := SemI.eval P K A ca L w hT hL hA
  rw [e1, e2] at h
  refine h.mono ?_
  rintro e w' ⟨mo, B, R, M, all, st, he, hm, hb, hd, hs⟩
  exact ⟨mo, st, he, ⟨B, R, M, all, hm, hd, hs⟩, hb⟩
/-- What Eval of low, or of high, answers: a table and a model. -/
def TM (w : World) (v1 v2 : Value) (P L : List Str) (T : List Ru) : Prop := ∃ (t a b : Nat) (A1 : Option Addr) (c1 : Nat) (A2 : Option Addr) (c2 mo st : Nat), v1 = .pointer (some ⟨t, 0, none⟩) ∧ v2 = .pointer (some ⟨mo, 0, none⟩) ∧ TblK w t a b A1 c1 A2 c2 P L ∧ MoS w mo P.length L.length T st
def TMPost (P L : List Str) (T : List Ru) (w : World) (e : Ending) (w' : World) : Prop := ∃ v1 v2, e = .returned (.tuple #[v1, v2]) ∧ TM w' v1 v2 P L T ∧ Below w.heap.size w w'
def rulesOf (P L : List Str) (S : List St) : List Ru := rulesT P L S S.length
theorem rulesOf_len (P L : List Str) (S : List St) : (rulesOf P L S).length ≤ S.length := rulesT_len P L S S.length
def PT (p : Py) : List Str := tab (prinsT p)
def NT (p : Py) : List Str := tab (namesT p)
set_option maxHeartbeats 4000000 in
set_option maxRecDepth 100000 in
theorem lowEval (p : Py) (A1 A2 A3 A4 : Option Addr) (c1 c2 c3 c4 : Nat) (w : World) (hT : Tab w) (hf : Few p) (hc : Came p) (hp : PG w A1 A2 A3 A4 p) (hP : (PT p).length ≤ 64) (hK : (NT p).length ≤ 64) :
    Calls Tryz.prog 17 #[p.val A1 A2 A3 A4 c1 c2 c3 c4] w (TMPost (PT p) (NT p) (rulesOf (PT p) (NT p) (minS p)) w) := by
  have n1 := hf.n1
  have n3 := hf.n3
  have HFo := Lib.hid (fun w' (hb : Below w.heap.size w w') => forT p A1 A2 A3 A4 c1 c2 c3 c4 none 0 [] w' hf hc (hp.below hb) (by simp) (fun h => by simp at h))
  have HMi := Lib.hid (fun w' (hb : Below w.heap.size w w') => minimal p A1 A2 A3 A4 c1 c2 c3 c4 w' (by omega) (by omega) hc.f1 (hp.below hb).s (hp.below hb).h)
  have ett : tab (tab (prinsT p) ++ []) = tab (prinsT p) := by rw [List.append_nil, tab_tab]
  rw [ett] at HFo
  have hml : (minS p).length ≤ 30 := Nat.le_trans (by unfold minS; exact List.length_filter_le _ _) n1
  have HFM : Hid (∀ s ∈ minS p, s.fit) := Lib.hid (fun s hs => hc.f1 s (by unfold minS at hs; exact (List.mem_filter.1 hs).1))
  have HTab := Lib.hid (fun w' (hb : Below w.heap.size w w') => Tab.below hT hb)
  unfold TMPost
  unfold PT NT at *
  generalize tab (prinsT p) = PP at *
  generalize tab (namesT p) = NN at *
  obtain ⟨M, hM⟩ : ∃ M, minS p = M := ⟨_, rfl⟩
  rw [hM] at HMi HFM hml ⊢
  obtain ⟨R, hR⟩ : ∃ R, rulesOf PP NN M = R := ⟨_, rfl⟩
  have hrl := rulesOf_len PP NN M
  have HR := Lib.hid hR
  rw [hR] at hrl ⊢
  unfold NewTPost at HFo
  unfold OwnPost at HMi
  obtain ⟨S, G, H, Q⟩ := p
  unfold Py.val at *
  dsimp only at HFo HMi n1 n3 ⊢
  have hbX := (Below.refl w.heap.size w).alloc (Nat.le_refl _) (.cells #[.slice A1 S.length c1, .slice A2 G.length c2, .slice A3 H.length c3, .slice A4 Q.length c4] 26)
  have HB := Lib.hid hbX
  have hcs := fun o => Lib.cell_of_heap (heap_alloc_new w (.cells #[.slice A1 S.length c1, .slice A2 G.length c2, .slice A3 H.length c3, .slice A4 Q.length c4] 26)) o
  have HCS := Lib.hid hcs
  have hlt0 : w.heap.size < (w.alloc (.cells #[.slice A1 S.length c1, .slice A2 G.length c2, .slice A3 H.length c3, .slice A4 Q.length c4] 26)).heap.size := by simp
  clear hbX hf hc hp hT ett hM hR hcs
  go_enter Tryz.func17, Tryz.ntmps17
  go_upto_region 1 with fail
  obtain ⟨bp, hbp⟩ : ∃ bp, w.heap.size = bp := ⟨_, rfl⟩
  simp only [hbp] at HCS hlt0 ⊢
  generalize w.alloc (.cells #[.slice A1 S.length c1, .slice A2 G.length c2, .slice A3 H.length c3, .slice A4 Q.length c4] 26) = w0 at *
  have cs := HCS.out
  go_wp2_with fail
  refine (HFo.out _ HB.out).mono ?_
  rintro e w1 ⟨t, a, b, B1, d1, B2, d2, rfl, htb, hb1⟩
  have HT1 := Lib.hid htb
  have HB1 := Lib.hid (nx HB.out hb1)
  have HCP := Lib.hid (fun w' (hb : Below w1.heap.size w1 w') (o : Nat) => (hb.cell (p := ⟨bp, o, none⟩) (by show bp < _; have := hb1.size; omega)).trans ((hb1.cell (p := ⟨bp, o, none⟩) hlt0).trans (HCS.out o)))
  clear htb hb1 cs HFo HCS hlt0 HB
  go_wp2_with fail
  have H1 := Lib.hid (fun w' (hb : Below w1.heap.size w1 w') => TblA.prins (HT1.out.keep hb))
  have H2 := Lib.hid (fun w' (hb : Below w1.heap.size w1 w') => TblA.links (HT1.out.keep hb))
  have H3 := Lib.hid (fun w' (hb : Below w1.heap.size w1 w') => Tab1.len w' a B1 PP.length d1 (HT1.out.keep hb).a0)
  have H4 := Lib.hid (fun w' (hb : Below w1.heap.size w1 w') => Tab1.len w' b B2 NN.length d2 (HT1.out.keep hb).b0)
  have H5 := Lib.hid (fun w' (hb : Below w1.heap.size w1 w') => HMi.out w' (nx HB1.out hb))
  have H6 := Lib.hid (fun w' (hb : Below w1.heap.size w1 w') A ca hA => TblW.rules w' (HT1.out.keep hb) A ca M (by omega) HFM.out hA)
  have ert : rulesT PP NN M M.length = R := HR.out
  rw [ert] at H6
  have H7 := Lib.hid (fun w' (hb : Below w1.heap.size w1 w') A ca (hA : UG w' A R) => evalS PP.length NN.length hP hK A ca R w' (HTab.out w' (nx HB1.out hb)) (by omega) hA)
  have HTK := Lib.hid (fun w' (hb : Below w1.heap.size w1 w') => HT1.out.keep hb)
  unfold RulesPost at H6
  unfold SPost at H7
  clear ert HMi HTab HR
  have hst : Below w1.heap.size w1 w1.drew ∧ (∀ o, w1.drew.cell? ⟨bp, o, none⟩ = (#[.slice A1 S.length c1, .slice A2 G.length c2, .slice A3 H.length c3, .slice A4 Q.length c4] : Array Value)[o]?) := ⟨(Below.refl _ _).drew, HCP.out _ ((Below.refl _ _).drew)⟩
  have HKK := Lib.hid (fun w' (hb : Below w1.heap.size w1 w') => And.intro hb (HCP.out w' hb))
  go_region_held3 (fun w' => Below w1.heap.size w1 w' ∧ ∀ o, w'.cell? ⟨bp, o, none⟩ = (#[.slice A1 S.length c1, .slice A2 G.length c2, .slice A3 H.length c3, .slice A4 Q.length c4] : Array Value)[o]?)
    (first | with_reducible exact hst | with_reducible assumption | exact HKK.out _ (nx (by apply And.left; with_reducible assumption) (by with_reducible assumption)))
    (first | ((with_reducible refine (H1.out _ (by apply And.left; with_reducible assumption)).mono ?_); rintro e w' ⟨rfl, rfl⟩)
           | ((with_reducible refine (H2.out _ (by apply And.left; with_reducible assumption)).mono ?_); rintro e w' ⟨rfl, rfl⟩)
           | ((with_reducible refine (H3.out _ (by apply And.left; with_reducible assumption)).mono ?_); rintro e w' ⟨rfl, rfl⟩)
           | ((with_reducible refine (H4.out _ (by apply And.left; with_reducible assumption)).mono ?_); rintro e w' ⟨rfl, rfl⟩)
           | ((with_reducible refine (H5.out _ (by apply And.left; with_reducible assumption)).mono ?_); rintro e w5 ⟨v5, rfl, ho5, hb5⟩; obtain ⟨A5, k5, rfl, hsg5⟩ := ho5.form)
           | ((with_reducible refine (H6.out _ (by apply And.left; with_reducible assumption) A5 k5 hsg5).mono ?_); rintro e w6 ⟨A6, k6, rfl, hug6, hb6⟩)
           | ((with_reducible refine (H7.out _ (by apply And.left; with_reducible assumption) A6 k6 hug6).mono ?_); rintro e w7 ⟨mo, st, rfl, hmo, hb7⟩))
  all_goals rename_i hHeld
  all_goals (have HF : Hid (TM w7 (.pointer (some ⟨t, 0, none⟩)) (.pointer (some ⟨mo, 0, none⟩)) PP NN R ∧ Below w.heap.size w w7) := Lib.hid ⟨⟨t, a, b, B1, d1, B2, d2, mo, st, rfl, rfl, HTK.out _ hHeld.1, hmo⟩, nx HB1.out hHeld.1⟩)
  all_goals clear hHeld hmo
  all_goals go_wp2_with fail
  all_goals go_ret2
  all_goals exact ⟨_, _, rfl, HF.out.1, HF.out.2⟩
/-- Who is in a role, as texts. -/
noncomputable def memT (PP NN : List Str) (T : List Ru) (r : Rl) : List Str := (memD PP.length NN.length T (roleI PP NN r)).map fun i => PP.getD i []
set_option maxHeartbeats 2000000 in
set_option maxRecDepth 100000 in
theorem lowMembers (p : Py) (A1 A2 A3 A4 : Option Addr) (c1 c2 c3 c4 : Nat) (s : Rl) (PP NN : List Str) (T : List Ru) (w : World) (hT : Tab w) (hP : PP.length ≤ 64)
    (hE : ∀ w', Below w.heap.size w w' → Calls Tryz.prog 17 #[p.val A1 A2 A3 A4 c1 c2 c3 c4] w' (TMPost PP NN T w')) :
    Calls Tryz.prog 25 #[p.val A1 A2 A3 A4 c1 c2 c3 c4, s.val] w (RowPost (memT PP NN T s) w) := by
  have HE := Lib.hid hE
  have HTab := Lib.hid (fun w' (hb : Below w.heap.size w w') => Tab.below hT hb)
  obtain ⟨i0, hi, hz0, hz1, hz2⟩ := info_parts Tab3.infoStr
  unfold RowPost
  unfold TMPost TM at HE
  obtain ⟨MT, hMT⟩ : ∃ MT, memT PP NN T s = MT := ⟨_, rfl⟩
  have HMT := Lib.hid hMT
  rw [hMT]
  unfold memT at HMT
  have HRo := Lib.hid (fun (w' : World) t a b A1 c1 A2 c2 (h : TblK w' t a b A1 c1 A2 c2 PP NN) => TblA.role h s)
  obtain ⟨ri, hri⟩ : ∃ ri, roleI PP NN s = ri := ⟨_, rfl⟩
  rw [hri] at HMT HRo
  have HMe := Lib.hid (fun (w' : World) mo st (h : MoS w' mo PP.length NN.length T st) (hb : Below w.heap.size w w') => membersM h.mo (HTab.out w' hb) ri)
  have HLt : Hid (∀ x ∈ memD PP.length NN.length T ri, x < PP.length) := Lib.hid (fun x hx => (mem_memD.1 hx).1)
  have hml := memD_len PP.length NN.length T ri
  obtain ⟨D, hD⟩ : ∃ D, memD PP.length NN.length T ri = D := ⟨_, rfl⟩
  rw [hD] at HMT HMe HLt hml
  obtain ⟨S, G, H, Q⟩ := p
  obtain ⟨ho, hn⟩ := s
  unfold Py.val Rl.val ListPost at *
  dsimp only at HE HRo ⊢
  have hb0 := ((Below.refl w.heap.size w).alloc (Nat.le_refl _) (.cells #[.slice A1 S.length c1, .slice A2 G.length c2, .slice A3 H.length c3, .slice A4 Q.length c4] 26)).alloc (by simp) (.cells #[.string ho, .string hn] 28)
  have cp := fun o => Lib.cell_of_heap (heap_alloc2_old w (.cells #[.slice A1 S.length c1, .slice A2 G.length c2, .slice A3 H.length c3, .slice A4 Q.length c4] 26) (.cells #[.string ho, .string hn] 28)) o
  have cr := fun o => Lib.cell_of_heap (heap_alloc2_new w (.cells #[.slice A1 S.length c1, .slice A2 G.length c2, .slice A3 H.length c3, .slice A4 Q.length c4] 26) (.cells #[.string ho, .string hn] 28)) o
  have hlt : w.heap.size + 1 < ((w.alloc (.cells #[.slice A1 S.length c1, .slice A2 G.length c2, .slice A3 H.length c3, .slice A4 Q.length c4] 26)).alloc (.cells #[.string ho, .string hn] 28)).heap.size := by simp
  have HB0 := Lib.hid hb0
  have HCR := Lib.hid cr
  clear hb0 hMT hri hD hE hT cr
  go_enter Tryz.func25, Tryz.ntmps25
  go_upto_region 1 with fail
  obtain ⟨bp, hbp⟩ : ∃ bp, w.heap.size = bp := ⟨_, rfl⟩
  simp only [hbp] at cp HCR hlt ⊢
  generalize (w.alloc (.cells #[.slice A1 S.length c1, .slice A2 G.length c2, .slice A3 H.length c3, .slice A4 Q.length c4] 26)).alloc (.cells #[.string ho, .string hn] 28) = w0 at *
  go_wp2_with fail
  refine (HE.out _ HB0.out).mono ?_
  rintro e w1 ⟨v1, v2, rfl, ⟨t, a, b, B1, d1, B2, d2, mo, st, rfl, rfl, htb, hmo⟩, hb1⟩
  have HT1 := Lib.hid htb
  have HM1 := Lib.hid hmo
  have HB1 := Lib.hid (nx HB0.out hb1)
  have cr1 : ∀ o, w1.cell? ⟨bp + 1, o, none⟩ = (#[.string ho, .string hn] : Array Value)[o]? := fun o => (hb1.cell (p := ⟨bp + 1, o, none⟩) hlt).trans (HCR.out o)
  clear htb hmo hb1 cp HCR hlt HE
  go_wp2_with fail
  refine (HRo.out _ _ _ _ _ _ _ _ HT1.out).mono ?_
  rintro e w2 ⟨rfl, hb2⟩
  have HT2 := Lib.hid (HT1.out.keep hb2)
  have HM2 := Lib.hid (HM1.out.below hb2)
  have HB2 := Lib.hid (nx HB1.out hb2)
  clear hb2 cr1 HT1 HM1 HRo
  go_wp2_with fail
  refine (HMe.out _ _ _ HM2.out HB2.out).mono ?_
  rintro e w3 ⟨v3, rfl, hown3, hb3⟩
  obtain ⟨A5, k5, rfl, hng⟩ := ng_own hown3
  have HT3 := Lib.hid (HT2.out.keep hb3)
  have HB3 := Lib.hid (nx HB2.out hb3)
  have HNG := Lib.hid hng
  have HPr := Lib.hid (fun w' (hb : Below w3.heap.size w3 w') => TblA.prins (HT3.out.keep hb))
  have HAt := Lib.hid (fun w' (hb : Below w3.heap.size w3 w') k hk => Tab7.at_in a B1 PP d1 k w' (HT3.out.keep hb).a0 (by omega) (HT3.out.keep hb).ra hk)
  clear hown3 hng hb3 HT2 HM2 HMe
  go_wp2_with fail
  go_loopw [7, 21] (fun v i wr => ∃ j : Nat, j ≤ D.length ∧ i = .int .i64 j ∧ Hid (wr.ownsRow w3.heap.size 9 1 v (((D.take j).map fun i => PP.getD i []).length) (((D.take j).map fun i => PP.getD i []).map encStr)) ∧ Below w3.heap.size w3 wr) (fun _ i _ => D.length - (intOf i).toNat)
  case atStart => exact ⟨0, by omega, rfl, Lib.hid (by simpa using World.ownsRow_nil _ _ _ _), Below.refl _ _⟩
  case round =>
    obtain ⟨j, hj, rfl, hown, hb⟩ := hrel
    by_cases hlt : j < D.length
    · have d1 : decide ((j : Int) < D.length) = true := by simp; omega
      obtain ⟨g, o, rfl, hg, hc⟩ := (HNG.out.below hb) (by omega)
      have y0 := hc j hlt
      have hk := HLt.out D[j] (List.getElem_mem hlt)
      have HTk : Hid (D.take (j + 1) = D.take j ++ [D[j]]) := Lib.hid (List.take_succ_eq_append_getElem hlt)
      have p1 : (0 : Int) ≤ j := by omega
      have p2 : (j : Int) < D.length := by omega
      have hlj : ((D.take j).map fun i => PP.getD i []).length = j := by rw [List.length_map, List.length_take]; omega
      clear hc
      generalize D[j] = k at *
      have H1 := Lib.hid (HPr.out wr hb)
      have H2 := Lib.hid (HAt.out wr hb k hk)
      have HG : Hid (PP.getD k [] = PP[k]) := Lib.hid (by rw [List.getD_eq_getElem?_getD, List.getElem?_eq_getElem hk]; rfl)
      have hown2 := hown.out
      obtain ⟨F0, hF0⟩ : ∃ F0, ((D.take j).map fun i => PP.getD i []) = F0 := ⟨_, rfl⟩
      rw [hF0] at hown2 hlj
      have HF0 := Lib.hid hF0
      have HBr := Lib.hid hb
      have hzr := hb.size
      clear hown hb hF0
      generalize PP[k] = x at *
      go_wp2_with fail
      refine H1.out.mono ?_
      rintro e w4 ⟨rfl, rfl⟩
      clear y0
      go_wp2_with fail
      refine H2.out.mono ?_
      rintro e w4 ⟨rfl, rfl⟩
      clear H1 H2
      go_wp2_with (at_builtin; refine wpList_append_own _ rfl _ _ 41 rfl w3.heap.size 9 i0 (.string ⟨#[]⟩) 1 16 Tryz.underlying41 hi hz0 hz1 hz2 rfl (by decide) _ _ _ rfl (hown2.alloc _) ⟨wr.heap.size, 0, none⟩ 1 1 [.string ⟨x.toArray⟩] rfl rfl ?c1 ?c2 ?c3 ?c4 ?c5 ?_)
      case c1 => exact new_cell1 _ _ _
      case c2 => intro u hu; simp at hu; subst hu; rfl
      case c3 => unfold maxLen; omega
      case c4 => omega
      case c5 => simp; omega
      intro v' w5 hown' hgrow _
      have HO5 : Hid (w5.ownsRow w3.heap.size 9 1 v' (((D.take (j + 1)).map fun i => PP.getD i []).length) (((D.take (j + 1)).map fun i => PP.getD i []).map encStr)) := Lib.hid (by
        rw [HTk.out, List.map_append, HF0.out, List.map_append, List.length_append]
        simp only [List.map_cons, List.map_nil, List.length_singleton]
        rw [HG.out, hlj]
        exact hown')
      have HB5 := Lib.hid (below_own HBr.out (Nat.le_refl _) hown2 hgrow)
      clear hown' hown2 hgrow
      go_wp2_with fail
      go_roundw
      case rel => exact ⟨j + 1, by omega, by go_num, HO5, HB5.out⟩
      case measure => simp [intOf]; omega
    · have d1 : decide ((j : Int) < D.length) = false := by simp; omega
      have hjD : j = D.length := by omega
      subst hjD
      have hown2 := hown.out
      rw [List.take_length, HMT.out] at hown2
      have HO3 := Lib.hid (Tab4.own_base hown2 HB3.out.size)
      have HF := Lib.hid (nx HB3.out hb)
      clear hown hown2 hb
      go_wp2_with fail
      go_ret
      exact ⟨_, rfl, by first | exact HO3.out | (rw [← hbp]; exact HO3.out), by first | exact HF.out | (rw [← hbp]; exact HF.out)⟩
def STF (P K : Nat) (T : List Ru) (st : Nat) : Prop := st ≤ T.length + P * (P * K + T.length * (2 + 2 * P)) ∧ (T.filter (rightU P K) ≠ [] → 0 < st)
set_option maxHeartbeats 1000000 in
set_option maxRecDepth 100000 in
theorem lowSteps (p : Py) (A1 A2 A3 A4 : Option Addr) (c1 c2 c3 c4 : Nat) (PP NN : List Str) (T : List Ru) (w : World)
    (hE : ∀ w', Below w.heap.size w w' → Calls Tryz.prog 17 #[p.val A1 A2 A3 A4 c1 c2 c3 c4] w' (TMPost PP NN T w')) :
    Calls Tryz.prog 70 #[p.val A1 A2 A3 A4 c1 c2 c3 c4] w fun e w' => ∃ st : Nat, e = .returned (.int .i64 st) ∧ STF PP.length NN.length T st ∧ Below w.heap.size w w' := by
  have HE := Lib.hid hE
  unfold TMPost TM at HE
  obtain ⟨S, G, H, Q⟩ := p
  unfold Py.val at *
  dsimp only at HE ⊢
  have hb0 := ((Below.refl w.heap.size w).alloc (Nat.le_refl _) (.cells #[.slice A1 S.length c1, .slice A2 G.length c2, .slice A3 H.length c3, .slice A4 Q.length c4] 26))
  have cp := fun o => Lib.cell_of_heap (heap_alloc_new w (.cells #[.slice A1 S.length c1, .slice A2 G.length c2, .slice A3 H.length c3, .slice A4 Q.length c4] 26)) o
  have HB0 := Lib.hid hb0
  clear hb0 hE
  go_enter Tryz.func70, Tryz.ntmps70
  go_upto_region 1 with fail
  generalize w.alloc (.cells #[.slice A1 S.length c1, .slice A2 G.length c2, .slice A3 H.length c3, .slice A4 Q.length c4] 26) = w0 at *
  go_wp2_with fail
  refine (HE.out _ HB0.out).mono ?_
  rintro e w1 ⟨v1, v2, rfl, ⟨t, a, b, B1, d1, B2, d2, mo, st, rfl, rfl, htb, hmo⟩, hb1⟩
  obtain ⟨B, R, M, all, hm, hd, hs⟩ := hmo
  have HS := Lib.hid (SemJ.steps hm)
  have HF : Hid (STF PP.length NN.length T st ∧ Below w.heap.size w w1) := Lib.hid ⟨hs, nx HB0.out hb1⟩
  clear htb hm hd hs hb1 cp HE
  go_wp2_with fail
  refine HS.out.mono ?_
  rintro e w2 ⟨rfl, rfl⟩
  clear HS
  go_wp2_with fail
  go_ret
  exact ⟨st, rfl, HF.out.1, HF.out.2⟩
end Go.Proofs.YtcmdiomjhideiaaGreatDoor.LwH
