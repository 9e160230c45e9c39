/- Rows of rules: their cells, a copy; slices.Compact and slices.SortFunc at rules, by contract. -/
import Derived.Test.YtblapgfilbmdhaaGreatDoorM31
import Derived.Test.YtblapgfilbmdhaaGreatDoorM27
import Derived.Test.YtblapgfilbmdhaaGreatDoorM04
import Derived.Test.YtblapgfilbmdhaaGreatDoorSemS
import Derived.Test.YtblapgfilbmdhaaGreatDoorM11
import Derived.Sort.WalkB12
import Derived.Lib.SliceRun
import Derived.Lib.SlicesCompact
import Derived.Deep.LoopGhost
import Derived.Deep.Draws
import Derived.Shelf.RegionOpenPlain
import Derived.Deep.MidRow
import Derived.Lib.LazyBuf
import Derived.Lib.AppendZeros
import Derived.Shelf.SlSortCmp.NoneTotal
import Derived.Test.YtblapgfilbmdhaaGreatDoorM30
set_option linter.unusedVariables false
set_option linter.unusedSimpArgs false
namespace Go.Proofs.YtblapgfilbmdhaaGreatDoor.RuK
open Go.Shelf Go.RowKit Go.Sort Go.Lib Go.Proofs Plain SynP SynC SynD SynD7 TblC TblV TblP RuO SemS
theorem eqG (k h x a b v k2 h2 x2 a2 b2 v2 : Int) (w : World) : (binOp .eql 150 (.agg #[.int .i64 k, .int .i64 h, .int .i64 x, .int .i64 a, .int .i64 b, .int .i64 v]) (.agg #[.int .i64 k2, .int .i64 h2, .int .i64 x2, .int .i64 a2, .int .i64 b2, .int .i64 v2])).run Tryz.prog w = .ok (.bool (decide ((⟨k, h, x, a, b, v⟩ : Ru) = ⟨k2, h2, x2, a2, b2, v2⟩))) w := by
  simp only [go_sem, Ru.mk.injEq]
  go_simp
  by_cases e0 : k = k2
  rotate_left
  · simp [e0]
  subst e0
  by_cases e1 : h = h2
  rotate_left
  · simp [e1]
  subst e1
  by_cases e2 : x = x2
  rotate_left
  · simp [e2]
  subst e2
  by_cases e3 : a = a2
  rotate_left
  · simp [e3]
  subst e3
  by_cases e4 : b = b2
  rotate_left
  · simp [e4]
  subst e4
  by_cases e5 : v = v2
  rotate_left
  · simp [e5]
  subst e5
  simp
theorem infoRu : (Tryz.prog.info? 150).map (fun i => (i.zero, i.size, i.bytes)) = some (some zeroU.val, 6, 48) := by kernel_rfl
theorem ucells_one (L : List Ru) : ∀ u ∈ cellsR L, u.oneCell' = true := by
  intro u hu
  unfold cellsR at hu
  rw [List.mem_flatMap] at hu
  obtain ⟨r, _, hu⟩ := hu
  simp [Ru.cells] at hu
  rcases hu with rfl | rfl | rfl | rfl | rfl | rfl <;> rfl
theorem ug_none {w : World} {l : List Ru} (h : UG w none l) : l = [] := by
  cases l with
  | nil => rfl
  | cons t l => obtain ⟨g, o, e, _⟩ := h (by simp); cases e
theorem ug_cells {w : World} {A : Option Addr} {L : List Ru} (h : UG w A L) : ∀ ad, A = some ad → ∀ j u, (cellsR L)[j]? = some u → w.cell? (ad.add j) = some u := by
  rintro ad rfl j u hu
  have hj : j < L.length * 6 := by
    rw [← cellsR_len]
    rcases Nat.lt_or_ge j (cellsR L).length with h | h
    · exact h
    · rw [List.getElem?_eq_none h] at hu; cases hu
  obtain ⟨g, o, e, hg, hc⟩ := h (by omega)
  injection e with e
  subst e
  have a := hc (j / 6) (by omega) (j % 6) (by omega)
  have q := cellsR_at L (j / 6) (j % 6) (by omega) (by omega)
  rw [show j / 6 * 6 + j % 6 = j by omega] at q
  rw [SynC.add_off, ← hu, q, ← a]
  congr 2
  omega
def CloneUPost (L : List Ru) (w : World) (e : Ending) (w' : World) : Prop := ∃ v, e = .returned v ∧ w'.ownsRow w.heap.size 150 6 v L.length (cellsR L) ∧ RowKit.Below w.heap.size w w'
set_option maxRecDepth 100000 in
theorem cloneU (A : Option Addr) (ca : Nat) (L : List Ru) (w : World) (hL : L.length ≤ 10000) (hA : UG w A L) : Calls Tryz.prog 174 #[.slice A L.length ca] w (CloneUPost L w) := by
  obtain ⟨i0, hi, hz0, hz1, hz2⟩ := info_parts infoRu
  cases A with
  | none =>
    obtain rfl := ug_none hA
    have es := fun (w : World) (a : Option Addr) (n c : Nat) => Lib.run_eql_slice_nil (P := Tryz.prog) w 117 150 a n c 0 0 Tryz.underlying117
    go_enter Tryz.func174, Tryz.ntmps174
    go_wp2_with fail
    go_ret
    exact ⟨_, rfl, World.ownsRow_nil _ _ _ _, Below.refl _ _⟩
  | some ad =>
    have Hc := Lib.hid (fun ad' e => ug_cells (UG.below hA ((Below.refl _ w).alloc (Nat.le_refl _) (.cells #[] 150))) ad' e)
    clear hA
    have es := fun (w : World) (a : Option Addr) (n c : Nat) => Lib.run_eql_slice_nil (P := Tryz.prog) w 117 150 a n c 0 0 Tryz.underlying117
    go_enter Tryz.func174, Tryz.ntmps174
    go_wp2_with (at_builtin; refine wpList_append_from _ rfl _ _ 117 rfl w.heap.size 150 i0 zeroU.val 6 48 Tryz.underlying117 hi hz0 hz1 hz2 rfl (by decide) _ _ _ rfl (own_empty w _ 6) (some ad) L.length ca (cellsR L) rfl (cellsR_len L) (fun h => by cases h) Hc.out (ucells_one L) (by unfold maxLen; omega) (by omega) (by simp) ?_)
    intro v' w1 hown hgrow
    have hb : Below w.heap.size w w1 := ((Below.refl _ _).alloc (Nat.le_refl _) _).grown hgrow (by simp) (fun k hk => by simp [Value.ownBlock] at hk; omega)
    go_wp2_with fail
    go_ret
    exact ⟨_, rfl, by simpa using hown, hb⟩
def UAt (w : World) (A : Option Addr) (L : List Ru) : Prop :=
  0 < L.length → ∃ g, A = some ⟨g, 0, none⟩ ∧ g < w.heap.size ∧ ∀ j, (h : j < L.length) → ∀ k, k < 6 → w.cell? ⟨g, j * 6 + k, none⟩ = (L[j].cells)[k]?
theorem UAt.ug {w : World} {A : Option Addr} {L : List Ru} (h : UAt w A L) : UG w A L := fun hp => by
  obtain ⟨g, hA, hg, hc⟩ := h hp
  exact ⟨g, 0, hA, hg, fun j hj k hk => by rw [Nat.zero_add]; exact hc j hj k hk⟩
theorem cl_cells (u : Ru) (k : Nat) : (Ru.cl u)[k]? = (u.cells)[k]? := by simp [Ru.cl, Ru.cells]
theorem uholds_own {w : World} {B : Nat} {e : TypeId} {v : Value} {L : List Ru} (h : w.ownsRow B e 6 v L.length (cellsR L)) : (L = [] ∧ v = .slice none 0 0) ∨ ∃ g cap, v = .slice (some ⟨g, 0, none⟩) L.length cap ∧ L.length ≤ cap ∧ B ≤ g ∧ g < w.heap.size ∧ HoldsK Ru.cl 6 w g 0 L.toArray := by
  rcases h.2 with ⟨rfl, h0⟩ | ⟨g, cap, cur, rfl, hB, hh, hc, hm, hs, ht⟩
  · exact .inl ⟨List.eq_nil_of_length_eq_zero h0, rfl⟩
  · refine .inr ⟨g, cap, rfl, hc, hB, (h.lt g rfl).2, fun t ht' => ?_⟩
    rw [size_flatK] at ht'
    have ht2 : t < L.length * 6 := by simpa using ht'
    have q : (cellsR L)[t]? = some ((flatK Ru.cl 6 L.toArray)[t]!) := by
      rw [get_flatK _ _ _ _ ht']
      have hj : t / 6 < L.length := by omega
      have := cellsR_at L (t / 6) (t % 6) hj (by omega)
      rw [show t / 6 * 6 + t % 6 = t by omega] at this
      rw [this, getElem!_pos L.toArray (t / 6) (by simpa using hj), List.getElem_toArray, getElem!_pos _ (t % 6) (by rw [len6]; omega), ← List.getElem?_eq_getElem, cl_cells]
    refine ⟨?_, ?_⟩
    · rw [← ht, List.getElem?_take_of_lt (by omega)] at q
      rw [Nat.zero_add, Lib.cell_of_heap hh, ← Array.getElem?_toList]
      exact q
    · simp [World.frozen?, hh]
theorem UAt.of_holds {w : World} {blk : Nat} {d : Array Ru} (h : HoldsK Ru.cl 6 w blk 0 d) (R : List Ru) (hR : R.length ≤ d.size) (he : ∀ j, (hj : j < R.length) → R[j] = d[j]!) : UAt w (some ⟨blk, 0, none⟩) R := fun hp => by
  refine ⟨blk, rfl, ?_, fun j hj k hk => ?_⟩
  · have := (HoldsK.cell h (i := 0) (c := 0) (by omega) (by omega)).1
    unfold World.cell? at this
    rcases Nat.lt_or_ge blk w.heap.size with hb | hb
    · exact hb
    · simp [Array.getElem?_eq_none hb] at this
  · have q := (HoldsK.cell h (i := j) (c := k) (by omega) hk).1
    rw [← he j hj, Nat.zero_add] at q
    rw [q, getElem!_pos _ _ (by rw [len6]; exact hk), ← List.getElem?_eq_getElem, cl_cells]
structure BK (g : Nat) (w w' : World) : Prop where
  b : Below g w w'
  t : ∀ (cur : Array Value) (t : TypeId), w.heap[g]? = some (.cells cur t (0, 0)) → ∃ cur', w'.heap[g]? = some (.cells cur' t (0, 0))
theorem BK.refl (g : Nat) (w : World) : BK g w w := ⟨Below.refl _ _, fun cur t h => ⟨cur, h⟩⟩
theorem BK.trans {g : Nat} {w w1 w2 : World} (h : BK g w w1) (k : BK g w1 w2) : BK g w w2 := ⟨h.b.trans k.b, fun cur t e => by
  obtain ⟨c1, e1⟩ := h.t cur t e
  exact k.t c1 t e1⟩
theorem BK.drewN {g : Nat} {w w1 : World} (h : BK g w w1) (q : Nat) : BK g w (w1.drewN q) := ⟨below_drewN h.b q, h.t⟩
theorem BK.below {g : Nat} {w w1 w2 : World} (h : BK g w w1) (hg : g < w1.heap.size) (hb : Below w1.heap.size w1 w2) : BK g w w2 := ⟨h.b.trans (hb.mono (Nat.le_of_lt hg)), fun cur t e => by
  obtain ⟨c1, e1⟩ := h.t cur t e
  exact ⟨c1, (hb.block g hg).trans e1⟩⟩
theorem set_type (g : Nat) (t : TypeId) : ∀ (vs : List Value) (o : Nat) (w : World) (cur : Array Value), w.heap[g]? = some (.cells cur t (0, 0)) → ∃ cur', (w.setCells g o vs).heap[g]? = some (.cells cur' t (0, 0))
  | [], o, w, cur, h => ⟨cur, h⟩
  | v :: r, o, w, cur, h => set_type g t r (o + 1) (w.setCell ⟨g, o, none⟩ v) _ (heap_setCell_same _ _ _ _ _ _ h)
theorem BK.setCells {g : Nat} {w w1 : World} (h : BK g w w1) (o : Nat) (vs : List Value) : BK g w (w1.setCells g o vs) := ⟨below_setCells (Nat.le_refl _) _ _ _ h.b, fun cur t e => by
  obtain ⟨c1, e1⟩ := h.t cur t e
  exact set_type g t vs o w1 c1 e1⟩
theorem inv_lowU {d dk : Array Ru} {m k : Nat} (h : CompInv d m k dk) (hm : (compactUpTo d m) = compactUpTo d d.size) (hk : k ≤ d.size) : ∀ j, (hj : j < (compactUpTo d d.size).length) → (compactUpTo d d.size)[j] = dk[j]! := fun j hj => by
  have q := h.low j (by rw [← h.len, hm]; exact hj)
  rw [hm, List.getElem?_eq_getElem hj] at q
  exact Option.some.inj q
def CompPost (g cap : Nat) (d : Array Ru) (w : World) (e : Ending) (w' : World) : Prop :=
  e = .returned (.slice (some ⟨g, 0, none⟩) (compactUpTo d d.size).length cap) ∧ UAt w' (some ⟨g, 0, none⟩) (compactUpTo d d.size) ∧ BK g w w' ∧ w.heap.size ≤ w'.heap.size
theorem holds_drewN {w : World} {g : Nat} {d : Array Ru} (h : HoldsK Ru.cl 6 w g 0 d) (n : Nat) : HoldsK Ru.cl 6 (w.drewN n) g 0 d := holdsK_ahead Ru.cl 6 w n g 0 d h
theorem all_post {g cap : Nat} {d : Array Ru} {w : World} (hH : HoldsK Ru.cl 6 w g 0 d) (hall : ∀ j, j < d.size → keeps d j = true) (n : Nat) : CompPost g cap d w (.returned (.slice (some ⟨g, 0, none⟩) d.size cap)) (w.drewN n) := by
  have e : compactUpTo d d.size = d.toList := by rw [compactUpTo_all d _ hall, range_map_get]
  refine ⟨?_, ?_, ?_, Nat.le_refl _⟩
  · rw [e, Array.length_toList]
  · rw [e]
    refine UAt.of_holds (holds_drewN hH n) _ (by simp) fun j hj => ?_
    rw [getElem!_pos d j (by simpa using hj)]; simp
  · exact (BK.refl _ _).drewN _
theorem two {w : World} {g : Nat} {d : Array Ru} (h : HoldsK Ru.cl 6 w g 0 d) (j : Nat) (hj : j < d.size) : ∀ c u, (Ru.cl d[j]!)[c]? = some u → w.cell? ⟨g, j * 6 + c, none⟩ = some u := fun c u hu => by
  have hc : c < 6 := by
    rcases Nat.lt_or_ge c 6 with h | h
    · exact h
    · rw [List.getElem?_eq_none (by show 6 ≤ c; exact h)] at hu; cases hu
  have q := (HoldsK.cell h (i := j) (c := c) hj hc).1
  rw [Nat.zero_add] at q
  rw [q, getElem!_pos _ _ (by rw [len6]; exact hc), ← List.getElem?_eq_getElem, hu]
theorem there_of {w : World} {g : Nat} {d : Array Ru} (h : HoldsK Ru.cl 6 w g 0 d) (i : Nat) (hi : i < d.size) : w.there g (i * 6) 6 := fun c hc => by
  have q := HoldsK.cell h (i := i) (c := c) hi hc
  rw [Nat.zero_add] at q
  exact ⟨by rw [q.1]; rfl, q.2⟩
theorem there_all {w : World} {g : Nat} {d : Array Ru} (h : HoldsK Ru.cl 6 w g 0 d) (i : Nat) (hi : i < d.size) : w.there g (i * 6) ((d.size - i) * 6) := fun c hc => by
  have q := HoldsK.cell h (i := i + c / 6) (c := c % 6) (by omega) (by omega)
  rw [Nat.zero_add, show (i + c / 6) * 6 + c % 6 = i * 6 + c by omega] at q
  exact ⟨by rw [q.1]; rfl, q.2⟩
theorem infoSz : (Tryz.prog.info? 150).map (·.size) = some 6 := by kernel_rfl
theorem stcell_one (x : Ru) : ∀ v ∈ (Ru.cl x), v.oneCell' = true := fun v hv => by
  simp [Ru.cl] at hv
  rcases hv with rfl | rfl | rfl | rfl | rfl | rfl <;> rfl
theorem store0 {W : World} {g : Nat} {d : Array Ru} (h : HoldsK Ru.cl 6 W g 0 d) (i : Nat) (hi : i < d.size) (x : Ru) : HoldsK Ru.cl 6 (W.setCells g (i * 6) (Ru.cl x)) g 0 (d.setIfInBounds i x) := by
  have := holdsK_store len6 (by omega) h i hi x
  rw [Nat.zero_add] at this
  exact this
def clr (n : Nat) : List Value := (Builtin.zeroCells zeroU.val.cells n).toList
theorem clr_len (n : Nat) : (clr n).length = n * 6 := by
  unfold clr Builtin.zeroCells
  simp; rfl
theorem clr_one (n : Nat) : ∀ v ∈ clr n, v.oneCell' = true := by
  intro v hv
  unfold clr Builtin.zeroCells at hv
  simp at hv
  obtain ⟨i, hi, rfl⟩ := hv
  have h9 : zeroU.val.cells.size = 6 := rfl
  have hlt : i % zeroU.val.cells.size < 6 := by rw [h9]; omega
  generalize i % zeroU.val.cells.size = r at hlt
  match r, hlt with
  | 0, _ => rfl
  | 1, _ => rfl
  | 2, _ => rfl
  | 3, _ => rfl
  | 4, _ => rfl
  | 5, _ => rfl
theorem run_clear2 (w : World) (b o n c : Nat) (hn : 0 < n) (ht : w.there b o (n * 6)) (ty : TypeId) : (Builtin.clear_ #[117] ty #[.slice (some ⟨b, o, none⟩) n c]).run Tryz.prog w = .ok (.tuple #[]) (w.setCells b o (clr n)) := by
  have hst := run_storeCells_cells (P := Tryz.prog) b o (clr n) 0 w (fun j hj => by rw [clr_len] at hj; simpa using (ht j hj).1) (fun j hj => by rw [clr_len] at hj; simpa using (ht j hj).2) (clr_one n)
  simp only [Nat.add_zero] at hst
  obtain ⟨m, rfl⟩ : ∃ m, n = m + 1 := ⟨n - 1, by omega⟩
  have hv : (zeroValue 150).run Tryz.prog w = .ok zeroU.val w := Tryz.zeroValue150 w
  have hc : (Builtin.zeroCells zeroU.val.cells (m + 1)).toList = clr (m + 1) := rfl
  simp [Builtin.clear_, run_underlying Tryz.underlying117, hv, hc, hst]
theorem wp_clear_run {P : Program} (w : World) {o : Oper} {a : Act} {K : Act → World → Prop} {Q : Exit → Act → World → Prop} (s : Operand) (t : TypeId)
    (ho : o.op = .call { callee := .builtin .clear, args := #[s], argTypes := #[t] }) (vs : Value) (hs : a.eval s = vs)
    (v' : Value) (w' : World) (hr : (Builtin.clear_ #[t] o.type #[vs]).run P w = .ok v' w') (h : K (a.put o.dst v') w') : o.wp P a w K Q := by
  unfold Oper.wp execOp
  simp only [ho, resolve, invoke, builtin, Sem.run_bind, Sem.run_pure, Result.andThen_ok, List.map_toArray, List.map_cons, List.map_nil, hs, hr]
  exact h
theorem wpList_clear_run {P : Program} (w : World) {ops : Array Oper} {rest : List Oper} {o : Oper} {a : Act} {Q : Exit → Act → World → Prop} (hgd : o.guard = none) (s : Operand) (t : TypeId)
    (ho : o.op = .call { callee := .builtin .clear, args := #[s], argTypes := #[t] }) (vs : Value) (hs : a.eval s = vs)
    (v' : Value) (w' : World) (hr : (Builtin.clear_ #[t] o.type #[vs]).run P w = .ok v' w') (h : wpList P ops Q rest (a.put o.dst v') w') : wpList P ops Q (o :: rest) a w :=
  wpList_plain hgd fun _ hK => wp_clear_run w s t ho vs hs v' w' hr (hK _ _ h)
theorem UAt.set_out {w : World} {g o : Nat} {R : List Ru} (h : UAt w (some ⟨g, 0, none⟩) R) (ho : R.length * 6 ≤ o) (vs : List Value) : UAt (w.setCells g o vs) (some ⟨g, 0, none⟩) R := fun hp => by
  obtain ⟨g', hA, hg, hc⟩ := h hp
  injection hA with hA
  injection hA with hA
  subst hA
  refine ⟨g, rfl, by rw [size_setCells]; exact hg, fun j hj k hk => ?_⟩
  have key : ∀ i, i < R.length * 6 → (w.setCells g o vs).cell? ⟨g, i, none⟩ = w.cell? ⟨g, i, none⟩ := fun i hi => World.cell?_setCells_out g vs o w ⟨g, i, none⟩ (fun _ _ => Or.inl (by show i < o; omega))
  rw [key _ (by omega)]
  exact hc j hj k hk
theorem clear_post {g cap kk : Nat} {d dk : Array Ru} {w wr : World} (hH : HoldsK Ru.cl 6 wr g 0 dk) (hb : BK g w wr) (hs : w.heap.size ≤ wr.heap.size) (hI : CompInv d d.size kk dk) : CompPost g cap d w (.returned (.slice (some ⟨g, 0, none⟩) kk cap)) (wr.setCells g (kk * 6) (clr (dk.size - kk))) := by
  have hk := hI.lt
  have hz := hI.size
  refine ⟨by rw [hI.len], ?_, hb.setCells _ _, by rw [size_setCells]; exact hs⟩
  refine UAt.set_out (UAt.of_holds hH _ (by rw [hI.len]; omega) (inv_lowU hI rfl (by omega))) (by rw [hI.len]; exact Nat.le_refl _) _
set_option maxHeartbeats 4000000 in
set_option maxRecDepth 1000000 in
theorem compU (g cap : Nat) (d : Array Ru) (w : World) (hH : HoldsK Ru.cl 6 w g 0 d) (hg : g < w.heap.size) (hsz : d.size ≤ 100000) (hcap : d.size ≤ cap) :
    Calls Tryz.prog 179 #[.slice (some ⟨g, 0, none⟩) d.size cap] w (CompPost g cap d w) := by
  have HH := Lib.hid hH
  clear hH
  by_cases h2 : d.size < 2
  · have HS := Lib.hid (fun n => all_post (cap := cap) HH.out (fun j hj => keeps_lt_one d j (by omega)) n)
    go_enter Tryz.func179, Tryz.ntmps179
    go_wp2_with fail
    go_ret
    exact HS.out 0
  · go_enter Tryz.func179, Tryz.ntmps179
    go_wp2_with fail
    go_loopg [3] d.size (fun gh s3 wr => ∃ k q : Nat, 1 ≤ k ∧ k ≤ d.size ∧ d.size - k ≤ gh ∧ s3 = .int .i64 k ∧ wr = w.drewN q ∧ Hid (∀ j, j < k → keeps d j = true))
    case atStart => exact ⟨1, 0, Nat.le_refl _, by omega, by omega, rfl, rfl, Lib.hid (keeps_lt_one d)⟩
    case round =>
      obtain ⟨k, q, hk1, hk, hgh, rfl, rfl, hall⟩ := hrel
      by_cases hlt : k < d.size
      · have c1 := two HH.out k hlt
        have c0 := two HH.out (k - 1) (by omega)
        generalize hx : d[k]! = x at c1
        generalize hy : d[k - 1]! = y at c0
        have B := Lib.hid (And.intro hx hy)
        clear hx hy
        obtain ⟨uk, uh, uw, ua, ub, uv⟩ := x
        obtain ⟨uk2, uh2, uw2, ua2, ub2, uv2⟩ := y
        have a0 := c1 0 _ rfl
        have a1 := c1 1 _ rfl
        have a2 := c1 2 _ rfl
        have a3 := c1 3 _ rfl
        have a4 := c1 4 _ rfl
        have a5 := c1 5 _ rfl
        have b0 := c0 0 _ rfl
        have b1 := c0 1 _ rfl
        have b2 := c0 2 _ rfl
        have b3 := c0 3 _ rfl
        have b4 := c0 4 _ rfl
        have b5 := c0 5 _ rfl
        rw [Nat.add_zero] at a0 b0
        have p1 : (0 : Int) ≤ k := by omega
        have p2 : (k : Int) < d.size := by omega
        have p3 : (0 : Int) ≤ (k : Int) - 1 := by omega
        have p4 : (k : Int) - 1 < d.size := by omega
        have p5 : ((k : Int) - 1).toNat = k - 1 := by omega
        clear c0 c1
        by_cases hdup : (⟨uk, uh, uw, ua, ub, uv⟩ : Ru) = ⟨uk2, uh2, uw2, ua2, ub2, uv2⟩
        · have hq := fun w => RuK.eqG uk uh uw ua ub uv uk2 uh2 uw2 ua2 ub2 uv2 w
          rw [decide_eq_true (p := (⟨uk, uh, uw, ua, ub, uv⟩ : Ru) = ⟨uk2, uh2, uw2, ua2, ub2, uv2⟩) hdup] at hq
          have HD := Lib.hid hdup
          clear hdup
          go_wp2_with fail
          go_quiet (fail)
          go_wp2_with fail
          clear a0 a1 a2 a3 a4 a5 b0 b1 b2 b3 b4 b5 hq p3 p4 p5
          have hst := Lib.hid (CompInv.start hall.out (keeps_neg (by omega) (by rw [B.out.1, B.out.2]; exact HD.out)))
          clear HD B
          go_loopg [3, 5] d.size (fun gh2 s3 s5 wr => ∃ (kk kq : Nat) (dk : Array Ru), s3 = .int .i64 kk ∧ s5 = .int .i64 kq ∧ 1 ≤ kq ∧ k + kq ≤ d.size ∧ d.size - (k + kq) ≤ gh2 ∧ Hid (HoldsK Ru.cl 6 wr g 0 dk) ∧ BK g w wr ∧ w.heap.size ≤ wr.heap.size ∧ Hid (CompInv d (k + kq) kk dk))
          case atStart => exact ⟨k, 1, d, rfl, rfl, Nat.le_refl _, by omega, by omega, Lib.hid (holds_drewN HH.out _), (BK.refl _ _).drewN _, Nat.le_refl _, hst⟩
          case round =>
            obtain ⟨kk, kq, dk, rfl, rfl, h1, hle, hg2, hHk, hbel, hszr, hI⟩ := hrel
            have hkk := hI.out.lt
            have hds := hI.out.size
            by_cases hlt2 : k + kq < d.size
            · have c1 := two hHk.out (k + kq) (by omega)
              have c0 := two hHk.out (k + kq - 1) (by omega)
              rw [hI.out.high (k + kq) (by omega)] at c1
              rw [hI.out.high (k + kq - 1) (by omega)] at c0
              generalize hx : d[k + kq]! = x at c1
              generalize hy : d[k + kq - 1]! = y at c0
              have C := Lib.hid (And.intro hx hy)
              clear hx hy
              have hth := Lib.hid (fun n => there_of (holds_drewN hHk.out n) kk (by omega))
              obtain ⟨uk, uh, uw, ua, ub, uv⟩ := x
              obtain ⟨uk2, uh2, uw2, ua2, ub2, uv2⟩ := y
              have a0 := c1 0 _ rfl
              have a1 := c1 1 _ rfl
              have a2 := c1 2 _ rfl
              have a3 := c1 3 _ rfl
              have a4 := c1 4 _ rfl
              have a5 := c1 5 _ rfl
              have b0 := c0 0 _ rfl
              have b1 := c0 1 _ rfl
              have b2 := c0 2 _ rfl
              have b3 := c0 3 _ rfl
              have b4 := c0 4 _ rfl
              have b5 := c0 5 _ rfl
              rw [Nat.add_zero] at a0 b0
              rw [show (k + kq) * 6 = k * 6 + kq * 6 by omega] at a0 a1 a2 a3 a4 a5
              rw [show (k + kq - 1) * 6 = k * 6 + (kq - 1) * 6 by omega] at b0 b1 b2 b3 b4 b5
              have q1 : (0 : Int) ≤ kq := by omega
              have q2 : (kq : Int) < (d.size - k : Nat) := by omega
              have q3 : (0 : Int) ≤ (kq : Int) - 1 := by omega
              have q4 : (kq : Int) - 1 < (d.size - k : Nat) := by omega
              have q5 : ((kq : Int) - 1).toNat = kq - 1 := by omega
              have q6 : (0 : Int) ≤ kk := by omega
              have q7 : (kk : Int) < d.size := by omega
              clear c0 c1
              by_cases hdup : (⟨uk, uh, uw, ua, ub, uv⟩ : Ru) = ⟨uk2, uh2, uw2, ua2, ub2, uv2⟩
              · have hq := fun w => TblP.neG uk uh uw ua ub uv uk2 uh2 uw2 ua2 ub2 uv2 w
                rw [decide_eq_true (p := (⟨uk, uh, uw, ua, ub, uv⟩ : Ru) = ⟨uk2, uh2, uw2, ua2, ub2, uv2⟩) hdup] at hq
                have HD := Lib.hid hdup
                clear hdup
                go_wp2_with fail
                go_quiet (fail)
                go_wp2_with fail
                go_roundg (d.size - (k + (kq + 1)))
                case measure => omega
                case rel => exact ⟨kk, kq + 1, dk, rfl, by go_num, by omega, by omega, Nat.le_refl _, Lib.hid (holds_drewN hHk.out _), BK.drewN hbel _, hszr, Lib.hid (hI.out.skip (keeps_neg (by omega) (by rw [C.out.1, C.out.2]; exact HD.out)))⟩
              · have hq := fun w => TblP.neG uk uh uw ua ub uv uk2 uh2 uw2 ua2 ub2 uv2 w
                rw [decide_eq_false (p := (⟨uk, uh, uw, ua, ub, uv⟩ : Ru) = ⟨uk2, uh2, uw2, ua2, ub2, uv2⟩) hdup] at hq
                have HD := Lib.hid hdup
                clear hdup
                go_wp2_with fail
                go_quiet (fail)
                go_wp2_with ((with_reducible refine wpList_store_mid (op := ⟨none, .store 150 (.tmp 51) (.tmp 50), _, _, _, none⟩) ?_ 150 (.tmp 51) (.tmp 50) ?_ g (kk * 6) (Ru.cl ⟨uk, uh, uw, ua, ub, uv⟩).toArray ?_ ?_ ?_ ?_ ?_ ?_); (rfl); (rfl); (simp [Act.eval]); (simp [Act.eval, Ru.cl]); (exact hth.out _); (exact infoSz); (exact all_oneCell_toArray (stcell_one _)))
                go_roundg (d.size - (k + (kq + 1)))
                case measure => omega
                case rel =>
                  refine ⟨kk + 1, kq + 1, dk.setIfInBounds kk ⟨uk, uh, uw, ua, ub, uv⟩, by go_num, by go_num, by omega, by omega, Nat.le_refl _, Lib.hid ?_, (BK.drewN hbel _).setCells _ _, by rw [size_setCells]; exact hszr, Lib.hid ?_⟩
                  · exact store0 (holds_drewN hHk.out _) kk (by omega) _
                  · have := hI.out.keep hlt2 (keeps_pos (by rw [C.out.1, C.out.2]; exact HD.out))
                    rw [C.out.1] at this
                    exact this
            · have hend : k + kq = d.size := by omega
              have hfin := Lib.hid (clear_post (cap := cap) hHk.out hbel hszr (hend ▸ hI.out))
              have hth := Lib.hid (there_all hHk.out kk (by omega))
              have hlen := Lib.hid ((hend ▸ hI.out : CompInv d d.size kk dk).len)
              rw [hds] at hth
              clear hHk hI hend
              go_wp2_with ((with_reducible refine wpList_clear_run (o := ⟨none, .call { callee := .builtin .clear, args := #[.tmp 56], argTypes := #[117] }, _, _, _, none⟩) _ ?_ (.tmp 56) 117 ?_ (.slice (some ⟨g, kk * 6, none⟩) (d.size - kk) (cap - kk)) ?_ (.tuple #[]) (wr.setCells g (kk * 6) (clr (d.size - kk))) ?_ ?_); (rfl); (rfl); (simp [Act.eval]); (exact run_clear2 _ g (kk * 6) (d.size - kk) (cap - kk) (by omega) hth.out _))
              go_ret
              rw [hds] at hfin
              exact hfin.out
        · have hq := fun w => RuK.eqG uk uh uw ua ub uv uk2 uh2 uw2 ua2 ub2 uv2 w
          rw [decide_eq_false (p := (⟨uk, uh, uw, ua, ub, uv⟩ : Ru) = ⟨uk2, uh2, uw2, ua2, ub2, uv2⟩) hdup] at hq
          have HD := Lib.hid hdup
          clear hdup
          go_wp2_with fail
          go_quiet (fail)
          go_wp2_with fail
          go_roundg (d.size - (k + 1))
          case measure => omega
          case rel =>
            refine ⟨k + 1, _, by omega, by omega, Nat.le_refl _, by go_num, rfl, Lib.hid fun j hj => ?_⟩
            by_cases e : j = k
            · subst e
              exact keeps_pos (by rw [B.out.1, B.out.2]; exact HD.out)
            · exact hall.out j (by omega)
      · have : k = d.size := by omega
        subst this
        have HS := Lib.hid (fun n => all_post (cap := cap) HH.out hall.out n)
        clear hall
        go_wp2_with fail
        go_ret
        exact HS.out _
theorem sortU (blk off cap : Nat) (d : Array Ru) (w : World) (hH : HoldsK Ru.cl 6 w blk off d) (hblk : blk < w.heap.size) (hsz : d.size < 4611686018427387904) :
    Calls Tryz.prog 177 #[.slice (some ⟨blk, off, none⟩) d.size cap, .func (.func 178) #[] #[]] w fun e w' =>
      e = .returned (.tuple #[]) ∧ ∃ d' n os, PermIn 0 d.size d d' ∧ SortedIn (ltOf cmpU) 0 d.size d' ∧ w' = sortWorldK Ru.cl 6 w blk off n d' os :=
  AnyQ.slices_SortFunc laidSort 6 Tryz.isAgg150 Tryz.sizeOf150 Ru.cl (fun _ => rfl) (fun x v hv => stcell_one x v hv) cmpU swo_U 178 #[] blk off cap d w (enters_of Tryz.func178 (by kernel_rfl) rfl) (cmpLaysU blk off d.size w) hH hblk hsz
set_option maxHeartbeats 1000000 in
theorem compNone (a : Option Addr) (cap : Nat) (w : World) : Calls Tryz.prog 179 #[.slice a 0 cap] w fun e w' => e = .returned (.slice a 0 cap) ∧ w' = w := by
  go_enter Tryz.func179, Tryz.ntmps179
  go_wp2_with fail
  go_ret
  exact ⟨rfl, rfl⟩
theorem below_sortK {w : World} {g off n : Nat} {d : Array Ru} {os : Array Obj} (hg : g < w.heap.size) : Below g w (sortWorldK Ru.cl 6 w g off n d os) :=
  ⟨rfl, rfl, rfl, size_sortWorldK_c Ru.cl 6 w g off n d os, fun k hk => by
    unfold sortWorldK
    rw [heap_grow_old _ _ (by rw [size_putRowK]; exact Nat.lt_trans hk hg)]
    unfold putRowK putRow mapBlock
    show (Array.modify (Sort.ahead w n).heap g _)[k]? = _
    rw [Array.getElem?_modify, if_neg (by omega)]; rfl⟩
theorem bk_sort {w : World} {g off n : Nat} {d : Array Ru} {os : Array Obj} (hg : g < w.heap.size) : BK g w (sortWorldK Ru.cl 6 w g off n d os) := ⟨below_sortK hg, fun cur t e => by
  have : (sortWorldK Ru.cl 6 w g off n d os).heap[g]? = (putRowK Ru.cl 6 (Sort.ahead w n) g off d).heap[g]? := by
    unfold sortWorldK
    rw [heap_grow_old _ _ (by rw [size_putRowK]; exact hg)]
  rw [this]
  unfold putRowK putRow mapBlock
  show ∃ cur', (Array.modify (Sort.ahead w n).heap g _)[g]? = _
  have e2 : (Sort.ahead w n).heap[g]? = some (.cells cur t (0, 0)) := e
  rw [Array.getElem?_modify, if_pos rfl, e2]
  exact ⟨_, rfl⟩⟩
end Go.Proofs.YtblapgfilbmdhaaGreatDoor.RuK
namespace Go.Proofs.YtblapgfilbmdhaaGreatDoor.RuD
open Go.Shelf Go.RowKit Go.Sort Go.Lib Go.Proofs Plain SynP SynC SynD SynD7 TblC TblV TblP TblQ RuO RuK
theorem bx {W w1 w2 : World} (h : Below W.heap.size W w1) (hb : Below w1.heap.size w1 w2) : Below W.heap.size W w2 := h.trans (hb.mono h.size)
set_option maxRecDepth 100000 in
theorem fnT (n1 n2 : Nat) (g1 : n1 ≤ 1000) (g2 : n2 ≤ 1000) (u : Ru) (b1 b2 : Nat) (w : World) (h1 : w.cell? ⟨b1, 0, none⟩ = some (.int .i64 n1)) (h2 : w.cell? ⟨b2, 0, none⟩ = some (.int .i64 n2)) :
    Calls Tryz.prog 175 #[u.val, .pointer (some ⟨b1, 0, none⟩), .pointer (some ⟨b2, 0, none⟩)] w fun e w' => e = .returned (.bool (!rightU n1 n2 u)) ∧ Below w.heap.size w w' := by
  have HR := Lib.hid (fun w' => right_ n1 n2 u w' g1 g2)
  generalize rightU n1 n2 u = r at *
  have l1 := World.block_lt_of_cell? _ _ h1
  have l2 := World.block_lt_of_cell? _ _ h2
  simp only at l1 l2
  obtain ⟨k, h, x, a, b, v⟩ := u
  unfold Ru.val at *
  simp only at HR
  have hb := (Below.refl w.heap.size w).alloc (Nat.le_refl _) (.cells #[.int .i64 k, .int .i64 h, .int .i64 x, .int .i64 a, .int .i64 b, .int .i64 v] 150)
  have c1 := (hb.cell (p := ⟨b1, 0, none⟩) l1).trans h1
  have c2 := (hb.cell (p := ⟨b2, 0, none⟩) l2).trans h2
  have c3 := fun o => Lib.cell_of_heap (heap_alloc_new w (.cells #[.int .i64 k, .int .i64 h, .int .i64 x, .int .i64 a, .int .i64 b, .int .i64 v] 150)) o
  have HB := Lib.hid hb
  clear hb l1 l2
  go_enter Tryz.func175, Tryz.ntmps175
  go_wp2_with fail
  refine (HR.out _).mono ?_
  rintro e w1 ⟨rfl, hb1⟩
  have HB1 := Lib.hid (bx HB.out hb1)
  clear hb1 c1 c2 c3
  go_wp2_with fail
  go_ret
  exact ⟨rfl, HB1.out⟩
theorem holds_below {w w' : World} {g : Nat} {d : Array Ru} (h : HoldsK Ru.cl 6 w g 0 d) (hg : w'.heap[g]? = w.heap[g]?) : HoldsK Ru.cl 6 w' g 0 d := fun t ht => by
  obtain ⟨a, b⟩ := h t ht
  exact ⟨(World.cell?_of_block (a := ⟨g, 0 + t, none⟩) hg).trans a, (World.frozen?_of_block (a := ⟨g, 0 + t, none⟩) hg).trans b⟩
theorem holds_take {w : World} {g k : Nat} {d : Array Ru} (h : HoldsK Ru.cl 6 w g 0 d) (hk : k ≤ d.size) : HoldsK Ru.cl 6 w g 0 (d.toList.take k).toArray := fun t ht => by
  have hs : (d.toList.take k).toArray.size = k := by simp; omega
  rw [size_flatK, hs] at ht
  have e : (flatK Ru.cl 6 (d.toList.take k).toArray)[t]! = (flatK Ru.cl 6 d)[t]! := by
    rw [get_flatK _ _ _ _ (by rw [hs]; exact ht), get_flatK _ _ _ _ (by omega)]
    congr 2
    rw [getElem!_pos _ _ (by rw [hs]; omega), getElem!_pos _ _ (by omega)]
    simp
  rw [e]
  exact h t (by rw [size_flatK]; omega)
theorem holds_out {w : World} {g o : Nat} {d : Array Ru} (h : HoldsK Ru.cl 6 w g 0 d) (ho : d.size * 6 ≤ o) (vs : List Value) : HoldsK Ru.cl 6 (w.setCells g o vs) g 0 d := fun t ht => by
  obtain ⟨a, b⟩ := h t ht
  rw [size_flatK] at ht
  refine ⟨(World.cell?_setCells_out g vs o w ⟨g, 0 + t, none⟩ (fun _ _ => Or.inl (by show 0 + t < o; omega))).trans a, ?_⟩
  rw [World.frozen?_setCells]
  exact b
structure DelInv (p : Ru → Bool) (d : Array Ru) (m k : Nat) (dk : Array Ru) : Prop where
  size : dk.size = d.size
  lt : k < m
  le : m ≤ d.size
  low : dk.toList.take k = (d.toList.take m).filter p
  len : ((d.toList.take m).filter p).length = k
  high : ∀ j, m ≤ j → dk[j]! = d[j]!
theorem take_snoc (d : Array Ru) {m : Nat} (hm : m < d.size) : d.toList.take (m + 1) = d.toList.take m ++ [d[m]!] := by
  rw [List.take_succ_eq_append_getElem (by simpa using hm), getElem!_pos d m hm]
  simp
theorem DelInv.start {p : Ru → Bool} {d : Array Ru} {i : Nat} (hi : i < d.size) (hall : ∀ j, j < i → p d[j]! = true) (hno : p d[i]! = false) : DelInv p d (i + 1) i d := by
  have hf : (d.toList.take i).filter p = d.toList.take i := by
    rw [List.filter_eq_self]
    intro x hx
    obtain ⟨j, hj, rfl⟩ := List.getElem_of_mem hx
    rw [List.length_take, Array.length_toList] at hj
    have := hall j (by omega)
    rw [getElem!_pos d j (by omega)] at this
    simpa using this
  refine ⟨rfl, by omega, by omega, ?_, ?_, fun _ _ => rfl⟩
  · rw [take_snoc d hi, List.filter_append, hf]; simp [hno]
  · rw [take_snoc d hi, List.filter_append, hf]; simp [hno]; omega
theorem DelInv.skip {p : Ru → Bool} {d dk : Array Ru} {m k : Nat} (h : DelInv p d m k dk) (hm : m < d.size) (hno : p d[m]! = false) : DelInv p d (m + 1) k dk := by
  refine ⟨h.size, by have := h.lt; omega, by omega, ?_, ?_, fun j hj => h.high j (by omega)⟩
  · rw [take_snoc d hm, List.filter_append, ← h.low]; simp [hno]
  · rw [take_snoc d hm, List.filter_append, List.length_append, h.len]; simp [hno]
theorem DelInv.keep {p : Ru → Bool} {d dk : Array Ru} {m k : Nat} (h : DelInv p d m k dk) (hm : m < d.size) (hp : p d[m]! = true) : DelInv p d (m + 1) (k + 1) (dk.setIfInBounds k d[m]!) := by
  have hlt := h.lt
  have hsz := h.size
  refine ⟨by simpa using h.size, by omega, by omega, ?_, ?_, fun j hj => ?_⟩
  · rw [take_snoc d hm, List.filter_append, ← h.low]
    have e : (dk.setIfInBounds k d[m]!).toList = dk.toList.set k d[m]! := by simp
    rw [e, List.take_succ_eq_append_getElem (by simp; omega)]
    simp [hp, List.take_set_of_le]
  · rw [take_snoc d hm, List.filter_append, List.length_append, h.len]; simp [hp]
  · rw [← h.high j (by omega)]
    by_cases hj2 : j < dk.size
    · rw [getElem!_pos (dk.setIfInBounds k d[m]!) j (by simpa using hj2), getElem!_pos dk j hj2, Array.getElem_setIfInBounds_ne (by simpa using hj2) (by omega)]
    · rw [getElem!_neg (dk.setIfInBounds k d[m]!) j (by simpa using hj2), getElem!_neg dk j hj2]
theorem DelInv.done {p : Ru → Bool} {d dk : Array Ru} {k : Nat} (h : DelInv p d d.size k dk) : dk.toList.take k = d.toList.filter p := by
  rw [h.low, List.take_of_length_le (by simp)]
end Go.Proofs.YtblapgfilbmdhaaGreatDoor.RuD
namespace Go.Proofs.YtblapgfilbmdhaaGreatDoor.RuE
open Go.Shelf Go.RowKit Go.Sort Go.Lib Go.Proofs Plain SynP SynC SynD SynD7 TblC TblV TblP TblQ RuO RuK RuD
def IdxPost (p : Ru → Bool) (d : Array Ru) (w : World) (e : Ending) (w' : World) : Prop :=
  Below w.heap.size w w' ∧ ((e = .returned (.int .i64 (-1)) ∧ ∀ j, j < d.size → p d[j]! = true) ∨ ∃ k : Nat, k < d.size ∧ e = .returned (.int .i64 k) ∧ (∀ j, j < k → p d[j]! = true) ∧ p d[k]! = false)
set_option maxHeartbeats 1000000 in
set_option maxRecDepth 100000 in
theorem idxD (g cap : Nat) (d : Array Ru) (n1 n2 : Nat) (g1 : n1 ≤ 1000) (g2 : n2 ≤ 1000) (b1 b2 : Nat) (w : World) (hs : d.size ≤ 100000) (hH : HoldsK Ru.cl 6 w g 0 d) (hg : g < w.heap.size) (h1 : w.cell? ⟨b1, 0, none⟩ = some (.int .i64 n1)) (h2 : w.cell? ⟨b2, 0, none⟩ = some (.int .i64 n2)) :
    Calls Tryz.prog 222 #[.slice (some ⟨g, 0, none⟩) d.size cap, .func (.func 175) #[] #[.pointer (some ⟨b1, 0, none⟩), .pointer (some ⟨b2, 0, none⟩)]] w (IdxPost (rightU n1 n2) d w) := by
  have l1 := World.block_lt_of_cell? _ _ h1
  have l2 := World.block_lt_of_cell? _ _ h2
  simp only at l1 l2
  have HH := Lib.hid (fun w' (hb : Below w.heap.size w w') => holds_below hH (hb.block g hg))
  have HF := Lib.hid (fun w' (hb : Below w.heap.size w w') u => fnT n1 n2 g1 g2 u b1 b2 w' ((hb.cell (p := ⟨b1, 0, none⟩) l1).trans h1) ((hb.cell (p := ⟨b2, 0, none⟩) l2).trans h2))
  clear hH h1 h2 l1 l2 hg
  obtain ⟨p, hp⟩ : ∃ p, rightU n1 n2 = p := ⟨_, rfl⟩
  rw [hp] at HF ⊢
  clear hp
  go_enter Tryz.func222, Tryz.ntmps222
  go_wp2_with fail
  go_loopw [8] (fun i wr => ∃ k : Nat, k ≤ d.size ∧ i = .int .i64 k ∧ Below w.heap.size w wr ∧ Hid (∀ j, j < k → p d[j]! = true)) (fun i _ => d.size - (intOf i).toNat)
  case atStart => exact ⟨0, by omega, rfl, Below.refl _ _, Lib.hid (fun j hj => by omega)⟩
  case round =>
    obtain ⟨k, hk, rfl, hb, hall⟩ := hrel
    have HB := Lib.hid hb
    by_cases hlt : k < d.size
    · have e1 : decide ((k : Int) < d.size) = true := by simp; omega
      have c1 := two (HH.out _ hb) k hlt
      have HFk := Lib.hid (HF.out _ hb d[k]!)
      have HNX : Hid (p d[k]! = true → ∀ j, j < k + 1 → p d[j]! = true) := Lib.hid (fun h j hj => by
        by_cases e : j = k
        · subst e; exact h
        · exact hall.out j (by omega))
      have HST : Hid (p d[k]! = false → ∀ w', Below w.heap.size w w' → IdxPost p d w (.returned (.int .i64 k)) w') := Lib.hid (fun h w' hb => ⟨hb, .inr ⟨k, hlt, rfl, hall.out, h⟩⟩)
      generalize d[k]! = x at *
      obtain ⟨uk, uh, uw, ua, ub, uv⟩ := x
      have a0 := c1 0 _ rfl
      have a1 := c1 1 _ rfl
      have a2 := c1 2 _ rfl
      have a3 := c1 3 _ rfl
      have a4 := c1 4 _ rfl
      have a5 := c1 5 _ rfl
      rw [Nat.add_zero] at a0
      have q0 : (0 : Int) ≤ k := by omega
      have q1 : (k : Int) < d.size := by omega
      unfold Ru.val at HFk
      simp only at HFk
      clear c1 hb hall
      cases hpx : p ⟨uk, uh, uw, ua, ub, uv⟩
      · rw [hpx] at HFk
        have HE := Lib.hid (HST.out hpx)
        clear hpx HST HNX
        go_wp2_with fail
        refine HFk.out.mono ?_
        rintro e w1 ⟨rfl, hb1⟩
        have HB1 := Lib.hid (bx HB.out hb1)
        clear hb1 a0 a1 a2 a3 a4 a5
        go_wp2_with fail
        go_ret
        exact HE.out _ HB1.out
      · rw [hpx] at HFk
        have HE := Lib.hid (HNX.out hpx)
        clear hpx HST HNX
        go_wp2_with fail
        refine HFk.out.mono ?_
        rintro e w1 ⟨rfl, hb1⟩
        have HB1 := Lib.hid (bx HB.out hb1)
        clear hb1 a0 a1 a2 a3 a4 a5
        go_wp2_with fail
        go_roundw
        case rel => exact ⟨k + 1, by omega, by go_num, HB1.out, HE⟩
        case measure => simp [intOf]; omega
    · have e1 : decide ((k : Int) < d.size) = false := by simp; omega
      have HE : Hid (∀ j, j < d.size → p d[j]! = true) := Lib.hid (fun j hj => hall.out j (by omega))
      clear hall hb
      go_wp2_with fail
      go_ret
      exact ⟨HB.out, .inl ⟨rfl, HE.out⟩⟩
def DelPost (g cap : Nat) (p : Ru → Bool) (d : Array Ru) (w : World) (e : Ending) (w' : World) : Prop :=
  ∃ d' : Array Ru, e = .returned (.slice (some ⟨g, 0, none⟩) d'.size cap) ∧ d'.toList = d.toList.filter p ∧ HoldsK Ru.cl 6 w' g 0 d' ∧ BK g w w' ∧ w.heap.size ≤ w'.heap.size
theorem del_none {g cap : Nat} {p : Ru → Bool} {d : Array Ru} {w w' : World} (hH : HoldsK Ru.cl 6 w g 0 d) (hg : g < w.heap.size) (hb : Below w.heap.size w w') (h : ∀ j, j < d.size → p d[j]! = true) : DelPost g cap p d w (.returned (.slice (some ⟨g, 0, none⟩) d.size cap)) w' := by
  refine ⟨d, rfl, ?_, holds_below hH (hb.block g hg), (BK.refl g w).below hg hb, hb.size⟩
  symm
  rw [List.filter_eq_self]
  intro x hx
  obtain ⟨j, hj, rfl⟩ := List.getElem_of_mem hx
  rw [Array.length_toList] at hj
  have := h j hj
  rw [getElem!_pos d j hj] at this
  simpa using this
theorem del_end {g cap kk : Nat} {p : Ru → Bool} {d dk : Array Ru} {w wr : World} (hH : HoldsK Ru.cl 6 wr g 0 dk) (hb : BK g w wr) (hs : w.heap.size ≤ wr.heap.size) (hI : DelInv p d d.size kk dk) : DelPost g cap p d w (.returned (.slice (some ⟨g, 0, none⟩) kk cap)) (wr.setCells g (kk * 6) (clr (d.size - kk))) := by
  have hlt := hI.lt
  have hsz := hI.size
  have hz : (dk.toList.take kk).toArray.size = kk := by simp; omega
  refine ⟨(dk.toList.take kk).toArray, by rw [hz], by rw [← hI.done], holds_out (holds_take hH (by omega)) (by rw [hz]; exact Nat.le_refl _) _, hb.setCells _ _, by rw [size_setCells]; exact hs⟩
set_option maxHeartbeats 2000000 in
set_option maxRecDepth 100000 in
theorem delU (g cap : Nat) (d : Array Ru) (n1 n2 : Nat) (g1 : n1 ≤ 1000) (g2 : n2 ≤ 1000) (b1 b2 : Nat) (w : World) (hs : d.size ≤ 100000) (hcap : d.size ≤ cap) (hcm : cap ≤ maxLen) (hH : HoldsK Ru.cl 6 w g 0 d) (hg : g < w.heap.size) (l1 : b1 < g) (l2 : b2 < g) (h1 : w.cell? ⟨b1, 0, none⟩ = some (.int .i64 n1)) (h2 : w.cell? ⟨b2, 0, none⟩ = some (.int .i64 n2)) :
    Calls Tryz.prog 173 #[.slice (some ⟨g, 0, none⟩) d.size cap, .func (.func 175) #[] #[.pointer (some ⟨b1, 0, none⟩), .pointer (some ⟨b2, 0, none⟩)]] w (DelPost g cap (rightU n1 n2) d w) := by
  have HI := Lib.hid (idxD g cap d n1 n2 g1 g2 b1 b2 w hs hH hg h1 h2)
  have HF := Lib.hid (fun w' (hb : Below g w w') u => fnT n1 n2 g1 g2 u b1 b2 w' ((hb.cell (p := ⟨b1, 0, none⟩) l1).trans h1) ((hb.cell (p := ⟨b2, 0, none⟩) l2).trans h2))
  have HH := Lib.hid hH
  have HN := Lib.hid (fun w' hb h => del_none (cap := cap) (p := rightU n1 n2) (w' := w') hH hg hb h)
  clear hH h1 h2 l1 l2
  obtain ⟨p, hp⟩ : ∃ p, rightU n1 n2 = p := ⟨_, rfl⟩
  rw [hp] at HF HI HN ⊢
  clear hp
  have hm : maxLen = 9223372036854775807 := rfl
  go_enter Tryz.func173, Tryz.ntmps173
  go_wp2_with fail
  refine HI.out.mono ?_
  rintro e w1 ⟨hb1, ⟨rfl, hall⟩ | ⟨k, hk, rfl, hall, hno⟩⟩
  · have HE := Lib.hid (HN.out _ hb1 hall)
    clear hall hb1 HI HF HN
    go_wp2_with fail
    go_ret
    exact HE.out
  · have HS := Lib.hid (DelInv.start hk hall hno)
    have HHK := Lib.hid (holds_below HH.out (hb1.block g hg))
    have HB1 := Lib.hid ((BK.refl g w).below hg hb1)
    have hz1 := hb1.size
    clear hall hno hb1 HI HN
    have d1 : ((k : Int) == -1) = false := by first | (simp; done) | (simp; omega)
    go_wp2_with fail
    go_loopw [5, 6] (fun s5 s6 wr => ∃ (kk m : Nat) (dk : Array Ru), s5 = .int .i64 kk ∧ s6 = .int .i64 m ∧ m ≤ d.size ∧ Hid (HoldsK Ru.cl 6 wr g 0 dk) ∧ Hid (BK g w wr) ∧ w.heap.size ≤ wr.heap.size ∧ Hid (DelInv p d m kk dk)) (fun _ s6 _ => d.size - (intOf s6).toNat)
    case atStart => exact ⟨k, k + 1, d, rfl, rfl, by omega, HHK, HB1, hz1, HS⟩
    case round =>
      obtain ⟨kk, m, dk, rfl, rfl, hm2, hHk, hbel, hszr, hI⟩ := hrel
      have hkk := hI.out.lt
      have hds := hI.out.size
      by_cases hlt : m < d.size
      · have e1 : decide ((m : Int) < d.size) = true := by simp; omega
        have c1 := two hHk.out m (by omega)
        rw [hI.out.high m (Nat.le_refl _)] at c1
        have HSK := Lib.hid (fun h => hI.out.skip hlt h)
        have HKP := Lib.hid (fun h => hI.out.keep hlt h)
        have HFk := Lib.hid (fun w' hb => HF.out w' hb d[m]!)
        generalize d[m]! = x at *
        obtain ⟨uk, uh, uw, ua, ub, uv⟩ := x
        have a0 := c1 0 _ rfl
        have a1 := c1 1 _ rfl
        have a2 := c1 2 _ rfl
        have a3 := c1 3 _ rfl
        have a4 := c1 4 _ rfl
        have a5 := c1 5 _ rfl
        rw [Nat.add_zero] at a0
        have q0 : (0 : Int) ≤ m := by omega
        have q1 : (m : Int) < d.size := by omega
        have q6 : (0 : Int) ≤ kk := by omega
        have q7 : (kk : Int) < d.size := by omega
        have hgr : g < wr.heap.size := by omega
        have HBA := Lib.hid (hbel.out.below hgr ((Below.refl wr.heap.size wr).alloc (Nat.le_refl _) (.cells #[.int .i64 uk, .int .i64 uh, .int .i64 uw, .int .i64 ua, .int .i64 ub, .int .i64 uv] 150)))
        have HHA := Lib.hid (holds_below hHk.out (((Below.refl wr.heap.size wr).alloc (Nat.le_refl _) (.cells #[.int .i64 uk, .int .i64 uh, .int .i64 uw, .int .i64 ua, .int .i64 ub, .int .i64 uv] 150)).block g hgr))
        have HBX := Lib.hid (heap_alloc_new wr (.cells #[.int .i64 uk, .int .i64 uh, .int .i64 uw, .int .i64 ua, .int .i64 ub, .int .i64 uv] 150))
        have HCL := Lib.hid (HFk.out _ HBA.out.b)
        unfold Ru.val at HCL
        simp only at HCL
        clear c1 HF HFk HHK HB1 HS
        go_upto_region 8 with fail
        have hszA : (wr.alloc (.cells #[.int .i64 uk, .int .i64 uh, .int .i64 uw, .int .i64 ua, .int .i64 ub, .int .i64 uv] 150)).heap.size = wr.heap.size + 1 := by simp
        generalize wr.alloc (.cells #[.int .i64 uk, .int .i64 uh, .int .i64 uw, .int .i64 ua, .int .i64 ub, .int .i64 uv] 150) = wa at *
        have cb := fun o => Lib.cell_of_heap HBX.out o
        clear a0 a1 a2 a3 a4 a5
        cases hpx : p ⟨uk, uh, uw, ua, ub, uv⟩
        · rw [hpx] at HCL
          have HI2 := Lib.hid (HSK.out hpx)
          clear hpx HSK HKP
          go_wp2_with fail
          refine HCL.out.mono ?_
          rintro e w2 ⟨rfl, hb2⟩
          have HH2 := Lib.hid (holds_below HHA.out (hb2.block g (by omega)))
          have HB2 := Lib.hid (HBA.out.below (by omega) hb2)
          have hz2 := hb2.size
          clear hb2 cb HCL
          go_wp2_with fail
          go_roundw
          case rel => exact ⟨kk, m + 1, dk, rfl, by go_num, by omega, HH2, HB2, by omega, HI2⟩
          case measure => simp [intOf]; omega
        · rw [hpx] at HCL
          have HI2 := Lib.hid (HKP.out hpx)
          clear hpx HSK HKP
          go_wp2_with fail
          refine HCL.out.mono ?_
          rintro e w2 ⟨rfl, hb2⟩
          have HH2 := Lib.hid (holds_below HHA.out (hb2.block g (by omega)))
          have HB2 := Lib.hid (HBA.out.below (by omega) hb2)
          have hz2 := hb2.size
          have cb2 := fun o => Lib.cell_of_heap ((hb2.block wr.heap.size (by omega)).trans HBX.out) o
          have hth := Lib.hid (there_of HH2.out kk (by omega))
          clear hb2 cb HCL
          go_wp2_with ((with_reducible refine wpList_store_mid (op := ⟨none, .store 150 (.tmp 33) (.tmp 32), _, _, _, none⟩) ?_ 150 (.tmp 33) (.tmp 32) ?_ g (kk * 6) (Ru.cl ⟨uk, uh, uw, ua, ub, uv⟩).toArray ?_ ?_ ?_ ?_ ?_ ?_); (rfl); (rfl); (simp [Act.eval]); (simp [Act.eval, Ru.cl]); (exact hth.out); (exact infoSz); (exact all_oneCell_toArray (stcell_one _)))
          go_roundw
          case rel =>
            refine ⟨kk + 1, m + 1, dk.setIfInBounds kk ⟨uk, uh, uw, ua, ub, uv⟩, by go_num, by go_num, by omega, Lib.hid ?_, Lib.hid (HB2.out.setCells _ _), by rw [size_setCells]; omega, HI2⟩
            exact store0 HH2.out kk (by omega) _
          case measure => simp [intOf]; omega
      · have e1 : decide ((m : Int) < d.size) = false := by simp; omega
        obtain rfl : m = d.size := by omega
        have hfin := Lib.hid (del_end (cap := cap) hHk.out hbel.out hszr hI.out)
        have hth := Lib.hid (there_all hHk.out kk (by omega))
        rw [hds] at hth
        clear hHk hbel hI HF
        go_wp2_with ((with_reducible refine wpList_clear_run (o := ⟨none, .call { callee := .builtin .clear, args := #[.tmp 38], argTypes := #[117] }, _, _, _, none⟩) _ ?_ (.tmp 38) 117 ?_ (.slice (some ⟨g, kk * 6, none⟩) (d.size - kk) (cap - kk)) ?_ (.tuple #[]) (wr.setCells g (kk * 6) (clr (d.size - kk))) ?_ ?_); (rfl); (rfl); (simp [Act.eval]); (exact run_clear2 _ g (kk * 6) (d.size - kk) (cap - kk) (by omega) hth.out _))
        go_ret
        exact hfin.out
end Go.Proofs.YtblapgfilbmdhaaGreatDoor.RuE
namespace Go.Proofs.YtblapgfilbmdhaaGreatDoor.SemT
open Go.Shelf Go.RowKit Go.Sort Go.Lib Go.Proofs Plain SynP SynD SynD7 TblC TblV TblP TblQ RuO RuK RuD RuE SemS
theorem comp_mem (d : Array Ru) (u : Ru) : ∀ m, m ≤ d.size → (u ∈ compactUpTo d m ↔ ∃ j, j < m ∧ d[j]! = u)
  | 0, _ => by simp [compactUpTo]
  | m + 1, hm => by
    have ih := comp_mem d u m (by omega)
    rw [compactUpTo_succ, List.mem_append, ih]
    constructor
    · rintro (⟨j, hj, e⟩ | h)
      · exact ⟨j, by omega, e⟩
      · split at h
        · simp at h
          exact ⟨m, by omega, h.symm⟩
        · cases h
    · rintro ⟨j, hj, e⟩
      by_cases hjm : j = m
      · subst hjm
        cases hk : keeps d j
        · unfold keeps at hk
          have hk := of_decide_eq_false hk
          simp only [not_or, Classical.not_not] at hk
          exact .inl ⟨j - 1, by omega, by rw [← hk.2]; exact e⟩
        · rw [if_pos rfl]
          right
          simp [e]
      · exact .inl ⟨j, by omega, e⟩
theorem comp_len (d : Array Ru) (m : Nat) : (compactUpTo d m).length ≤ m := by
  unfold compactUpTo
  rw [List.length_map]
  exact Nat.le_trans (List.length_filter_le _ _) (by simp)
theorem sorted_mem {d d' : Array Ru} (hp : PermIn 0 d.size d d') (u : Ru) : u ∈ compactUpTo d' d'.size ↔ u ∈ d.toList := by
  obtain ⟨hz, _, hp⟩ := hp
  rw [show d'.extract 0 d.size = d' by rw [← hz]; simp, show d.extract 0 d.size = d by simp] at hp
  rw [comp_mem d' u _ (Nat.le_refl _), ← hp.mem_iff]
  constructor
  · rintro ⟨j, hj, e⟩
    rw [getElem!_pos d' j hj] at e
    rw [← e]
    simp
  · intro h
    obtain ⟨j, hj, e⟩ := List.getElem_of_mem h
    rw [Array.length_toList] at hj
    refine ⟨j, hj, ?_⟩
    rw [getElem!_pos d' j hj, ← e]
    simp
def TidyPost (n1 n2 : Nat) (L : List Ru) (w : World) (e : Ending) (w' : World) : Prop :=
  ∃ (A : Option Addr) (c : Nat) (T : List Ru), e = .returned (.slice A T.length c) ∧ UG w' A T ∧ Below w.heap.size w w' ∧ T.length ≤ L.length ∧ (∀ u, u ∈ T ↔ u ∈ L ∧ rightU n1 n2 u = true) ∧ (∀ ad, A = some ad → ad.off = 0 ∧ ad.spot = none ∧ w.heap.size ≤ ad.block ∧ ∃ cur, w'.heap[ad.block]? = some (.cells cur 150 (0, 0)))
set_option maxHeartbeats 1000000 in
theorem idxNone (f : Value) (w : World) : Calls Tryz.prog 222 #[.slice none 0 0, f] w fun e w' => e = .returned (.int .i64 (-1)) ∧ w' = w := by
  go_enter Tryz.func222, Tryz.ntmps222
  go_wp2_with fail
  go_loop [8] (fun i => i = .int .i64 0) (fun i => 0)
  case atStart => rfl
  case round =>
    subst hrel
    go_wp2_with fail
    go_ret
    exact ⟨rfl, rfl⟩
theorem delNone (f : Value) (w : World) : Calls Tryz.prog 173 #[.slice none 0 0, f] w fun e w' => e = .returned (.slice none 0 0) ∧ w' = w := by
  have HI := Lib.hid (idxNone f w)
  go_enter Tryz.func173, Tryz.ntmps173
  go_wp2_with fail
  refine HI.out.mono ?_
  rintro e w1 ⟨rfl, rfl⟩
  go_wp2_with fail
  go_ret
  exact ⟨rfl, rfl⟩
theorem two_boxes (w : World) (n1 n2 : Nat) (t : TypeId) : Below w.heap.size w ((w.alloc (.cells #[.int .i64 n1] t)).alloc (.cells #[.int .i64 n2] t)) ∧ ((w.alloc (.cells #[.int .i64 n1] t)).alloc (.cells #[.int .i64 n2] t)).cell? ⟨w.heap.size, 0, none⟩ = some (.int .i64 n1) ∧ ((w.alloc (.cells #[.int .i64 n1] t)).alloc (.cells #[.int .i64 n2] t)).cell? ⟨w.heap.size + 1, 0, none⟩ = some (.int .i64 n2) := by
  refine ⟨((Below.refl _ _).alloc (Nat.le_refl _) _).alloc (by simp) _, ?_, ?_⟩
  · rw [Lib.cell_of_heap (heap_alloc2_old w _ _)]; rfl
  · rw [Lib.cell_of_heap (heap_alloc2_new w _ _)]; rfl
set_option maxHeartbeats 2000000 in
set_option maxRecDepth 100000 in
theorem tidy (n1 n2 : Nat) (g1 : n1 ≤ 1000) (g2 : n2 ≤ 1000) (A : Option Addr) (ca : Nat) (L : List Ru) (w : World) (hL : L.length ≤ 10000) (hA : UG w A L) :
    Calls Tryz.prog 135 #[.int .i64 n1, .int .i64 n2, .slice A L.length ca] w (TidyPost n1 n2 L w) := by
  obtain ⟨hb0, hc1, hc2⟩ := two_boxes w n1 n2 3
  have HCl := Lib.hid (cloneU A ca L _ hL (hA.below hb0))
  have HB0 := Lib.hid hb0
  have HC := Lib.hid (And.intro hc1 hc2)
  have hz0 : ((w.alloc (.cells #[.int .i64 n1] 3)).alloc (.cells #[.int .i64 n2] 3)).heap.size = w.heap.size + 2 := by simp
  clear hb0 hc1 hc2 hA
  go_enter Tryz.func135, Tryz.ntmps135
  go_upto_region 1 with fail
  generalize (w.alloc (.cells #[.int .i64 n1] 3)).alloc (.cells #[.int .i64 n2] 3) = w0 at *
  go_wp2_with fail
  refine HCl.out.mono ?_
  rintro e w1 ⟨v, rfl, hown, hb1⟩
  rcases uholds_own hown with ⟨rfl, rfl⟩ | ⟨g, cap, rfl, hc, hB, hg, hH⟩
  · have HE : Hid (Below w.heap.size w w1) := Lib.hid (HB0.out.trans (hb1.mono (by omega)))
    clear hown hb1 HCl
    go_wp2_with fail
    refine (delNone _ w1).mono ?_
    rintro e w2 ⟨rfl, rfl⟩
    go_wp2_with fail
    refine (AnyF.slices_SortFunc_none laidSort none 0 (.func (.func 178) #[] #[]) w2).mono ?_
    rintro e w3 ⟨rfl, rfl⟩
    go_wp2_with fail
    refine (compNone none 0 _).mono ?_
    rintro e w4 ⟨rfl, rfl⟩
    go_wp2_with fail
    go_ret
    exact ⟨none, 0, [], rfl, fun h => by simp at h, HE.out, by simp, fun u => by simp, fun ad e => by cases e⟩
  · have hcm : cap ≤ maxLen := by
      rcases hown.2 with ⟨e, _⟩ | ⟨g', cap', cur, e, _, _, _, hm, _⟩
      · cases e
      · injection e with _ _ e; rw [e]; exact hm
    have hty1 : ∃ cur, w1.heap[g]? = some (.cells cur 150 (0, 0)) := by
      rcases hown.2 with ⟨e, _⟩ | ⟨g', cap', cur, e, _, hh, _⟩
      · cases e
      · injection e with e _ _
        injection e with e
        injection e with e _ _
        subst e
        exact ⟨cur, hh⟩
    have HTY1 := Lib.hid hty1
    clear hty1
    have HD := Lib.hid (delU g cap L.toArray n1 n2 g1 g2 w.heap.size (w.heap.size + 1) w1 (by simp; omega) (by simpa using hc) hcm hH hg (by omega) (by omega) ((hb1.cell (p := ⟨w.heap.size, 0, none⟩) (by show w.heap.size < _; omega)).trans HC.out.1) ((hb1.cell (p := ⟨w.heap.size + 1, 0, none⟩) (by show w.heap.size + 1 < _; omega)).trans HC.out.2))
    have HE1 : Hid (Below w.heap.size w w1) := Lib.hid (HB0.out.trans (hb1.mono (by omega)))
    have hlz : L.toArray.size = L.length := by simp
    rw [hlz] at HD
    have hgw : w.heap.size ≤ g := by omega
    clear hown hb1 HCl hH hcm HC hlz
    go_wp2_with fail
    refine HD.out.mono ?_
    rintro e w2 ⟨d1, rfl, hd1, hH1, hb2, hz2⟩
    have hd1l : d1.size ≤ L.length := by
      rw [← Array.length_toList, hd1]
      exact List.length_filter_le _ _
    have HS := Lib.hid (sortU g 0 cap d1 w2 hH1 (by omega) (by omega))
    have HE2 : Hid (Below w.heap.size w w2) := Lib.hid (HE1.out.trans (hb2.b.mono hgw))
    have HTY2 : Hid (∃ cur, w2.heap[g]? = some (.cells cur 150 (0, 0))) := Lib.hid (by obtain ⟨cur, h⟩ := HTY1.out; exact hb2.t _ _ h)
    have HH1 := Lib.hid hH1
    have HM1 : Hid (∀ u, u ∈ d1.toList ↔ u ∈ L ∧ rightU n1 n2 u = true) := Lib.hid (fun u => by rw [hd1, List.mem_filter])
    have hg2 : g < w2.heap.size := by omega
    clear hd1 hH1 hb2 HD HE1
    go_wp2_with fail
    refine HS.out.mono ?_
    rintro e w3 ⟨rfl, d', n, os, hp, hs, hw3⟩
    have hz : d'.size = d1.size := hp.1
    have hH3 : HoldsK Ru.cl 6 w3 g 0 d' := by rw [hw3]; exact holdsK_sortWorldK_c Ru.cl 6 w2 g 0 d1 d' n os HH1.out hg2 hz
    have hb3 : BK g w2 w3 := by rw [hw3]; exact bk_sort hg2
    have hgg : g < w3.heap.size := Nat.lt_of_lt_of_le hg2 (by rw [hw3]; exact size_sortWorldK_c Ru.cl 6 w2 g 0 n d' os)
    have HCm := Lib.hid (compU g cap d' w3 hH3 hgg (by omega) (by omega))
    rw [hz] at HCm
    have HMM : Hid (∀ u, u ∈ compactUpTo d' d'.size ↔ u ∈ L ∧ rightU n1 n2 u = true) := Lib.hid (fun u => by rw [sorted_mem hp, HM1.out])
    have HLL : Hid ((compactUpTo d' d'.size).length ≤ L.length) := Lib.hid (Nat.le_trans (comp_len _ _) (by omega))
    have HE3 : Hid (Below w.heap.size w w3) := Lib.hid (HE2.out.trans (hb3.b.mono hgw))
    have HTY3 : Hid (∃ cur, w3.heap[g]? = some (.cells cur 150 (0, 0))) := Lib.hid (by obtain ⟨cur, h⟩ := HTY2.out; exact hb3.t _ _ h)
    clear hw3 hp hs hH3 hb3 HS HM1 HE2 HH1
    go_wp2_with fail
    refine HCm.out.mono ?_
    rintro e w4 ⟨rfl, hrow, hb4, hz4⟩
    have HF : Hid (TidyPost n1 n2 L w (.returned (.slice (some ⟨g, 0, none⟩) (compactUpTo d' d'.size).length cap)) w4) := Lib.hid ⟨_, cap, _, rfl, hrow.ug, HE3.out.trans (hb4.b.mono hgw), HLL.out, HMM.out, fun ad e => by
      injection e with e
      subst e
      obtain ⟨cur, h⟩ := HTY3.out
      exact ⟨rfl, rfl, hgw, hb4.t _ _ h⟩⟩
    rw [hz] at HF
    clear hrow hb4 HCm
    go_wp2_with fail
    go_ret
    exact HF.out
end Go.Proofs.YtblapgfilbmdhaaGreatDoor.SemT
namespace Go.Proofs.YtblapgfilbmdhaaGreatDoor.SemH
open Go.RowKit Go.Lib Go.Proofs SetA SetB SetC SetD SetJ SetN SetQ SetR TblB TblC TblV TblP TblQ SemA SemB SemC SemD SemE SemF SemG
set_option maxRecDepth 100000 in
theorem within_ (n most : Int) (w : World) : Calls Tryz.prog 52 #[.int .i64 n, .int .i64 most] w fun e w' => e = .returned (.int .i64 (SetA.within n most)) ∧ w = w' := by
  go_enter Tryz.func52, Tryz.ntmps52
  go_wp2
  all_goals
    go_ret
    refine ⟨ret_int ?_, rfl⟩
    unfold SetA.within
    omega
theorem all_in {n : Int} {zs : List Int} (h : allB n zs = true) : ∀ z ∈ zs, 0 ≤ z ∧ z < n := fun z hz => by
  unfold allB at h
  rw [List.all_eq_true] at h
  exact of_decide_eq_true (h z hz)
theorem ok_of_right {P K : Nat} {u : Ru} (h : rightU P K u = true) : Ok (P * K) P K u := by
  unfold rightU at h
  simp only [Bool.and_eq_true] at h
  obtain ⟨h1, h2, h3, h4, h5⟩ := h
  have r := all_in h3
  have r4 := all_in h4 u.who (by simp)
  have r5 := all_in h5 u.via (by simp)
  unfold bareK at h1
  simp only [Bool.or_eq_true, decide_eq_true_eq] at h1
  exact ⟨by omega, r _ (by simp), r _ (by simp), r _ (by simp), r4, r5⟩
def F0 : Frm := ⟨[], [], []⟩
theorem f0_ok (w : World) (vs : List Value) (look : List (List Ru)) (qv : Value) : F0.ok w vs look qv := ⟨(fun p hp => by cases hp), (fun p hp => by cases hp), (fun p hp => by cases hp)⟩
def nilV : Value := .slice none 0 0
theorem rep_eq (n : Nat) : (List.replicate n nilV).toArray = Array.replicate n nilV := by simp
theorem made1 (n : Nat) : madeCells (Value.slice none 0 0).cells n = (Array.replicate n nilV) := by
  rw [← rep_eq]
  apply Array.ext
  · simp [size_madeCells]
  · intro i h1 h2
    simp only [madeCells, Array.getElem_map, Array.getElem_range, List.getElem_toArray, List.getElem_replicate]
    have : (Value.slice none 0 0).cells = #[Value.slice none 0 0] := rfl
    simp [this, nilV, Nat.mod_one]
theorem infoRow : (Tryz.prog.info? 117).map (fun i => (i.zero, i.size, i.bytes)) = some (some (.slice none 0 0), 1, 24) := by kernel_rfl
theorem wq_start {W X : World} (hb : Below W.heap.size W X) {B R n c K mo wk : Nat} (hf : Fam X B R n c (List.replicate (n * 16) 0)) (uB : W.heap.size ≤ B) (uR : W.heap.size ≤ R)
    (hm : X.heap[mo]? = some (.cells #[.pointer (some ⟨B, 0, none⟩), .int .i64 K, .int .i64 0] 121 (0, 0))) (hwk : X.heap[wk]? = some (.cells #[.pointer (some ⟨mo, 0, none⟩), .slice none 0 0, .slice none 0 0] 147 (0, 0))) (um : W.heap.size ≤ mo) (uw : W.heap.size ≤ wk) :
    Wq W ((X.alloc (.cells (Array.replicate n nilV) 117)).setCell ⟨wk, 1, none⟩ (.slice (some ⟨X.heap.size, 0, none⟩) n n)) ⟨wk, mo, B, R, X.heap.size, n, c, K⟩ (SemA.start n) 0 F0 := by
  have hbA := (Below.refl X.heap.size X).alloc (Nat.le_refl _) (.cells (Array.replicate n nilV) 117)
  have hwA := (hbA.block _ (lt_of hwk)).trans hwk
  have hmA := (hbA.block _ (lt_of hm)).trans hm
  have hlA := heap_alloc_new X (.cells (Array.replicate n nilV) 117)
  obtain ⟨cp, hfb⟩ := hf.fb
  obtain ⟨Z, hrb⟩ := hf.rb
  have hk : ∀ {g : Nat} {x : Array Value} {t : TypeId} {f : Nat × Nat}, (X.alloc (.cells (Array.replicate n nilV) 117)).heap[g]? = some (.cells x t f) → 147 ≠ t → ((X.alloc (.cells (Array.replicate n nilV) 117)).setCell ⟨wk, 1, none⟩ (.slice (some ⟨X.heap.size, 0, none⟩) n n)).heap[g]? = (X.alloc (.cells (Array.replicate n nilV) 117)).heap[g]? := fun {g x t f} hx hne =>
    set_other _ _ _ _ (by have := ne_of_type hwA hx hne; omega)
  have hbB := (hbA.block _ (lt_of hfb)).trans hfb
  have hbR := (hbA.block _ (lt_of hrb)).trans hrb
  refine ⟨Nat.zero_le _, List.replicate (n * 16) 0, nilV, List.replicate n nilV, ?_, f0_ok _ _ _ _⟩
  exact {
    bel := set_bel (hb.trans (hbA.mono hb.size)) uw
    fam := (hf.below hbA).keep (hk hbB (by show (_ : Nat) ≠ _; decide)) (hk hbR (by show (_ : Nat) ≠ _; decide))
    inv := SetN.Inv.zero n c hf.c1
    mb := (hk hmA (by show (_ : Nat) ≠ _; decide)).trans hmA
    wb := by rw [heap_setCell_same _ _ _ _ _ _ hwA]; rfl
    lb := by rw [rep_eq]; exact (hk hlA (by show (_ : Nat) ≠ _; decide)).trans hlA
    qu := .inl ⟨rfl, rfl⟩
    lv := by simp
    ll := by simp [SemA.start]
    rows := fun i v hv => by
      rw [List.getElem?_replicate] at hv
      split at hv
      · injection hv with hv
        subst hv
        have e : (SemA.start n).look.getD i [] = [] := getD_rep n i
        rw [e]
        exact World.ownsRow_nil _ _ _ _
      · cases hv
    apart := fun i j v u hv hu hne g hg => by
      rw [List.getElem?_replicate] at hv
      split at hv
      · injection hv with hv
        subst hv
        simp [nilV, Value.ownBlock] at hg
      · cases hv
    up := ⟨uR, um, uw, hb.size, uB⟩ }
theorem with_row {W w0 w : World} {a : Ad} {s : Sm} {h : Nat} {F : Frm} (hq : Wq W w0 a s h F) (hb : Below w0.heap.size w0 w) {A : Option Addr} {T : List Ru} (hu : UG w A T)
    (hA : ∀ ad, A = some ad → ad.off = 0 ∧ ad.spot = none ∧ w0.heap.size ≤ ad.block ∧ ∃ cur, w.heap[ad.block]? = some (.cells cur 150 (0, 0))) :
    ∃ F' : Frm, Wq W w a s h F' ∧ (∀ w' s', Wq W w' a s' h F' → Wq W w' a s' h F) ∧ ∀ w' s', Wq W w' a s' h F' → UG w' A T := by
  have hq' := Wq.below hq hb
  by_cases hT : 0 < T.length
  · obtain ⟨g, o, rfl, hg, hc⟩ := hu hT
    obtain ⟨ho, _, hge, cur, hcur⟩ := hA _ rfl
    simp only at ho hge hcur
    subst ho
    obtain ⟨h1, M, qv, vs, h2, h3⟩ := hq'
    obtain ⟨_, M0, qv0, vs0, g2, g3⟩ := hq
    have hvs : vs = vs0 := by
      have := (hb.block _ (lt_of g2.lb)).trans g2.lb
      rw [h2.lb] at this
      simp only [Option.some.injEq, Obj.cells.injEq] at this
      simpa using congrArg Array.toList this.1
    refine ⟨⟨(g, T) :: F.rules, F.nums, F.prs⟩, ⟨h1, M, qv, vs, h2, fun p hp => ?_, h3.n, h3.p⟩, ?_, ?_⟩
    · simp only [List.mem_cons] at hp
      rcases hp with rfl | hp
      · refine ⟨⟨cur, hcur⟩, fun j hj k hk => by have := hc j hj k hk; rw [Nat.zero_add] at this; exact this, fun i v hv e => ?_⟩
        rw [hvs] at hv
        have := lt_of (own_blk (g2.rows i v hv) e).2.choose_spec
        omega
      · exact h3.r p hp
    · rintro w' s' ⟨k1, M', qv', vs', k2, k3⟩
      exact ⟨k1, M', qv', vs', k2, fun p hp => k3.r p (by simp [hp]), k3.n, k3.p⟩
    · rintro w' s' ⟨k1, M', qv', vs', k2, k3⟩ hp
      have hS := k3.r (g, T) (by simp)
      obtain ⟨cur', hg'⟩ := hS.ty
      refine ⟨g, 0, rfl, lt_of hg', fun j hj k hk => ?_⟩
      rw [Nat.zero_add]
      exact hS.at_ j hj k hk
  · exact ⟨F, hq', fun _ _ h => h, fun _ _ _ hp => absurd hp hT⟩
theorem qu_pop {w : World} {base : Nat} {qv : Value} {cur : Pr} {rest : List Pr} (h : Qu w base qv (cur :: rest)) : ∃ g o cap, qv = .slice (some ⟨g, o, none⟩) (rest.length + 1) cap ∧ rest.length + 1 ≤ cap ∧ cap ≤ maxLen ∧
    ∀ w', Qu w' base qv (cur :: rest) → w'.cell? ⟨g, o, none⟩ = some (.int .i64 cur.1) ∧ w'.cell? ⟨g, o + 1, none⟩ = some (.int .i64 cur.2) ∧ (cap = 1 → Qu w' base (.slice (some ⟨g, o, none⟩) 0 0) rest) ∧ (cap ≠ 1 → Qu w' base (.slice (some ⟨g, o + 2, none⟩) rest.length (cap - 1)) rest) := by
  rcases h with ⟨rfl, h0⟩ | ⟨g, o, cap, arr, rfl, hb, hh, hc, hm, hs, hat⟩
  · cases h0
  · simp only [List.length_cons] at hc
    refine ⟨g, o, cap, rfl, hc, hm, fun w' h' => ?_⟩
    rcases h' with ⟨e, _⟩ | ⟨g', o', cap', arr', e, hb', hh', hc', hm', hs', hat'⟩
    · cases e
    · injection e with e1 e2 e3
      injection e1 with e1
      injection e1 with e1 e4 _
      subst e1; subst e3; subst e4
      obtain ⟨a1, a2⟩ := hat' 0 (by simp)
      rw [Nat.zero_mul, Nat.add_zero] at a1 a2
      refine ⟨by rw [Lib.cell_of_heap hh']; exact a1, by rw [Lib.cell_of_heap hh']; exact a2, fun hc1 => ?_, fun hc1 => ?_⟩
      · have hr : rest = [] := List.eq_nil_of_length_eq_zero (by omega)
        subst hr
        exact .inr ⟨g, o, 0, arr', rfl, hb', hh', Nat.le_refl _, Nat.zero_le _, by omega, fun j hj => by simp at hj⟩
      · refine .inr ⟨g, o + 2, cap - 1, arr', rfl, hb', hh', by omega, by omega, by omega, fun j hj => ?_⟩
        obtain ⟨b1, b2⟩ := hat' (j + 1) (by simp; omega)
        have e5 : o + (j + 1) * 2 = o + 2 + j * 2 := by omega
        rw [e5] at b1 b2
        exact ⟨b1, b2⟩
structure MoAt (w : World) (mo B R n P K : Nat) (M : List Nat) (all : List Pr) (st : Nat) : Prop where
  fam : Fam w B R n P M
  inv : SetN.Inv n P M all
  mb : w.heap[mo]? = some (.cells #[.pointer (some ⟨B, 0, none⟩), .int .i64 K, .int .i64 st] 121 (0, 0))
theorem MoAt.below {w w' : World} {mo B R n P K : Nat} {M : List Nat} {all : List Pr} {st : Nat} (h : MoAt w mo B R n P K M all st) (hb : Below w.heap.size w w') : MoAt w' mo B R n P K M all st :=
  ⟨h.fam.below hb, h.inv, (hb.block _ (lt_of h.mb)).trans h.mb⟩
def EvalPost (P K : Nat) (L : List Ru) (w : World) (e : Ending) (w' : World) : Prop :=
  ∃ (mo B R : Nat) (M : List Nat) (all : List Pr) (st : Nat), e = .returned (.pointer (some ⟨mo, 0, none⟩)) ∧ MoAt w' mo B R (P * K) P K M all st ∧ Below w.heap.size w w' ∧ (∀ r x, (r, x) ∈ all ↔ Der K (L.filter (rightU P K)) r x) ∧ st ≤ L.length + P * (P * K + L.length * (2 + 2 * P)) ∧ (L.filter (rightU P K) ≠ [] → 0 < st)
end Go.Proofs.YtblapgfilbmdhaaGreatDoor.SemH
