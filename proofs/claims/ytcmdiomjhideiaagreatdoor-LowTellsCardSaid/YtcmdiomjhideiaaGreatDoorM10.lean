/- slices.SortFunc at statements, by contract. -/
import Derived.Test.YtcmdiomjhideiaaGreatDoorM09
import Derived.Test.YtcmdiomjhideiaaGreatDoorSynD5
import Derived.Test.YtcmdiomjhideiaaGreatDoorM08
import Derived.Sort.WalkB12
import Derived.Lib.SliceRun
import Derived.Deep.LoopGhost
import Derived.Deep.Draws
import Derived.Shelf.RegionOpenPlain
import Derived.Deep.MidRow
import Derived.Lib.LazyBuf
import Derived.Lib.AppendZeros
import Derived.Shelf.SlSortCmp.NoneTotal
import Derived.Deep.RegionLawGrows
import Derived.Deep.AppendLies
import Derived.Deep.QuietTactic
import Derived.BigQuiet
import Derived.WalkLawsBesides
import Derived.Sort.Walk0
import Derived.IntWalk
import Derived.Lib.ItoaLen
import Derived.Laws.BytesArg
import Derived.Test.YtcmdiomjhideiaaGreatDoorM04
namespace Go.Proofs.YtcmdiomjhideiaaGreatDoor.SynD6
set_option linter.unusedVariables false
set_option linter.unusedSimpArgs false
open Go.Shelf Go.RowKit Go.Lib Go.Sort Go.Proofs Go.Proofs.YtcmdiomjhideiaaGreatDoor.Plain Go.Proofs.YtcmdiomjhideiaaGreatDoor.SynP Go.Proofs.YtcmdiomjhideiaaGreatDoor.SynD2 Go.Proofs.YtcmdiomjhideiaaGreatDoor.SynD Go.Proofs.YtcmdiomjhideiaaGreatDoor.SynD4 Go.Proofs.YtcmdiomjhideiaaGreatDoor.SynD5
end Go.Proofs.YtcmdiomjhideiaaGreatDoor.SynD6
/- slices.Compact at statements, by contract: the library's two loops are walked. -/
namespace Go.Proofs.YtcmdiomjhideiaaGreatDoor.SynD8
set_option linter.unusedVariables false
set_option linter.unusedSimpArgs false
open Go.Shelf Go.RowKit Go.Sort Go.Lib Go.Proofs Go.Proofs.YtcmdiomjhideiaaGreatDoor.Plain Go.Proofs.YtcmdiomjhideiaaGreatDoor.SynP Go.Proofs.YtcmdiomjhideiaaGreatDoor.SynE Go.Proofs.YtcmdiomjhideiaaGreatDoor.SynD Go.Proofs.YtcmdiomjhideiaaGreatDoor.SynD2 Go.Proofs.YtcmdiomjhideiaaGreatDoor.SynD3 Go.Proofs.YtcmdiomjhideiaaGreatDoor.SynD7
set_option linter.unusedVariables false
set_option linter.unusedSimpArgs false
def CompPost (g cap : Nat) (d : Array St) (w : World) (e : Ending) (w' : World) : Prop :=
  e = .returned (.slice (some ⟨g, 0, none⟩) (compactUpTo d d.size).length cap) ∧ StRow w' (some ⟨g, 0, none⟩) (compactUpTo d d.size) ∧ Below g w w' ∧ w.heap.size ≤ w'.heap.size ∧ HoldsK St.cells 9 w' g 0 (compactUpTo d d.size).toArray
theorem holds_low {w : World} {g : Nat} {dk : Array St} (h : HoldsK St.cells 9 w g 0 dk) (R : List St) (hR : R.length ≤ dk.size) (he : ∀ j, (hj : j < R.length) → R[j] = dk[j]!) : HoldsK St.cells 9 w g 0 R.toArray := fun t ht => by
  rw [size_flatK, List.size_toArray] at ht
  have e : (flatK St.cells 9 R.toArray)[t]! = (flatK St.cells 9 dk)[t]! := by
    rw [get_flatK _ _ _ _ (by rw [List.size_toArray]; exact ht), get_flatK _ _ _ _ (by omega)]
    congr 2
    rw [getElem!_pos _ _ (by rw [List.size_toArray]; omega), List.getElem_toArray]
    exact he _ _
  rw [e]
  exact h t (by rw [size_flatK]; omega)
theorem holds_out {w : World} {g o : Nat} {d : Array St} (h : HoldsK St.cells 9 w g 0 d) (ho : d.size * 9 ≤ o) (vs : List Value) : HoldsK St.cells 9 (w.setCells g o vs) g 0 d := fun t ht => by
  obtain ⟨a, b⟩ := h t ht
  rw [size_flatK] at ht
  refine ⟨(World.cell?_setCells_out g vs o w ⟨g, 0 + t, none⟩ (fun _ _ => Or.inl (by show 0 + t < o; omega))).trans a, ?_⟩
  rw [World.frozen?_setCells]
  exact b
theorem holds_drewN {w : World} {g : Nat} {d : Array St} (h : HoldsK St.cells 9 w g 0 d) (n : Nat) : HoldsK St.cells 9 (w.drewN n) g 0 d := holdsK_ahead St.cells 9 w n g 0 d h
theorem all_post {g cap : Nat} {d : Array St} {w : World} (hH : HoldsK St.cells 9 w g 0 d) (hall : ∀ j, j < d.size → keeps d j = true) (n : Nat) : CompPost g cap d w (.returned (.slice (some ⟨g, 0, none⟩) d.size cap)) (w.drewN n) := by
  have e : compactUpTo d d.size = d.toList := by rw [compactUpTo_all d _ hall, range_map_get]
  refine ⟨?_, ?_, ?_, Nat.le_refl _, by rw [e, Array.toArray_toList]; exact holds_drewN hH n⟩
  · rw [e, Array.length_toList]
  · rw [e]
    refine StRow.of_holds (holds_drewN hH n) _ (by simp) fun j hj => ?_
    rw [getElem!_pos d j (by simpa using hj)]; simp
  · exact below_drewN (Below.refl _ _) _
/-- The nine cells of a row's element. -/
theorem nine {w : World} {g : Nat} {d : Array St} (h : HoldsK St.cells 9 w g 0 d) (j : Nat) (hj : j < d.size) : ∀ c u, d[j]!.cells[c]? = some u → w.cell? ⟨g, j * 9 + c, none⟩ = some u := fun c u hu => by
  have hc : c < 9 := by
    rcases Nat.lt_or_ge c 9 with h | h
    · exact h
    · rw [List.getElem?_eq_none (by show 9 ≤ c; exact h)] at hu; cases hu
  have q := (HoldsK.cell h (i := j) (c := c) hj hc).1
  rw [Nat.zero_add] at q
  rw [q, getElem!_pos _ _ (by rw [len9]; exact hc), ← List.getElem?_eq_getElem, hu]
theorem there_of {w : World} {g : Nat} {d : Array St} (h : HoldsK St.cells 9 w g 0 d) (i : Nat) (hi : i < d.size) : w.there g (i * 9) 9 := fun c hc => by
  have q := HoldsK.cell h (i := i) (c := c) hi hc
  rw [Nat.zero_add] at q
  exact ⟨by rw [q.1]; rfl, q.2⟩
theorem there_all {w : World} {g : Nat} {d : Array St} (h : HoldsK St.cells 9 w g 0 d) (i : Nat) (hi : i < d.size) : w.there g (i * 9) ((d.size - i) * 9) := fun c hc => by
  have q := HoldsK.cell h (i := i + c / 9) (c := c % 9) (by omega) (by omega)
  rw [Nat.zero_add, show (i + c / 9) * 9 + c % 9 = i * 9 + c by omega] at q
  exact ⟨by rw [q.1]; rfl, q.2⟩
theorem infoSz : (Tryz.prog.info? 55).map (·.size) = some 9 := by kernel_rfl
theorem stcell_one (x : St) : ∀ v ∈ x.cells, v.oneCell' = true := fun v hv => by
  simp [St.cells] at hv
  rcases hv with rfl | rfl | rfl | rfl | rfl | rfl | rfl | rfl | rfl <;> rfl
theorem store0 {W : World} {g : Nat} {d : Array St} (h : HoldsK St.cells 9 W g 0 d) (i : Nat) (hi : i < d.size) (x : St) : HoldsK St.cells 9 (W.setCells g (i * 9) x.cells) g 0 (d.setIfInBounds i x) := by
  have := holdsK_store len9 (by omega) h i hi x
  rw [Nat.zero_add] at this
  exact this
def clr (n : Nat) : List Value := (Builtin.zeroCells zeroS.val.cells n).toList
theorem clr_len (n : Nat) : (clr n).length = n * 9 := by
  unfold clr Builtin.zeroCells
  simp; rfl
theorem clr_one (n : Nat) : ∀ v ∈ clr n, v.oneCell' = true := by
  intro v hv
  unfold clr Builtin.zeroCells at hv
  simp at hv
  obtain ⟨i, hi, rfl⟩ := hv
  have h9 : zeroS.val.cells.size = 9 := rfl
  have hlt : i % zeroS.val.cells.size < 9 := by rw [h9]; omega
  generalize i % zeroS.val.cells.size = r at hlt
  match r, hlt with
  | 0, _ => rfl
  | 1, _ => rfl
  | 2, _ => rfl
  | 3, _ => rfl
  | 4, _ => rfl
  | 5, _ => rfl
  | 6, _ => rfl
  | 7, _ => rfl
  | 8, _ => rfl
theorem run_clear9 (w : World) (b o n c : Nat) (hn : 0 < n) (ht : w.there b o (n * 9)) (ty : TypeId) : (Builtin.clear_ #[22] ty #[.slice (some ⟨b, o, none⟩) n c]).run Tryz.prog w = .ok (.tuple #[]) (w.setCells b o (clr n)) := by
  have hst := run_storeCells_cells (P := Tryz.prog) b o (clr n) 0 w (fun j hj => by rw [clr_len] at hj; simpa using (ht j hj).1) (fun j hj => by rw [clr_len] at hj; simpa using (ht j hj).2) (clr_one n)
  simp only [Nat.add_zero] at hst
  obtain ⟨m, rfl⟩ : ∃ m, n = m + 1 := ⟨n - 1, by omega⟩
  have hv : (zeroValue 55).run Tryz.prog w = .ok zeroS.val w := Tryz.zeroValue55 w
  have hc : (Builtin.zeroCells zeroS.val.cells (m + 1)).toList = clr (m + 1) := rfl
  simp [Builtin.clear_, run_underlying Tryz.underlying22, hv, hc, hst]
theorem wp_clear_run {P : Program} (w : World) {o : Oper} {a : Act} {K : Act → World → Prop} {Q : Exit → Act → World → Prop} (s : Operand) (t : TypeId)
    (ho : o.op = .call { callee := .builtin .clear, args := #[s], argTypes := #[t] }) (vs : Value) (hs : a.eval s = vs)
    (v' : Value) (w' : World) (hr : (Builtin.clear_ #[t] o.type #[vs]).run P w = .ok v' w') (h : K (a.put o.dst v') w') : o.wp P a w K Q := by
  unfold Oper.wp execOp
  simp only [ho, resolve, invoke, builtin, Sem.run_bind, Sem.run_pure, Result.andThen_ok, List.map_toArray, List.map_cons, List.map_nil, hs, hr]
  exact h
theorem wpList_clear_run {P : Program} (w : World) {ops : Array Oper} {rest : List Oper} {o : Oper} {a : Act} {Q : Exit → Act → World → Prop} (hgd : o.guard = none) (s : Operand) (t : TypeId)
    (ho : o.op = .call { callee := .builtin .clear, args := #[s], argTypes := #[t] }) (vs : Value) (hs : a.eval s = vs)
    (v' : Value) (w' : World) (hr : (Builtin.clear_ #[t] o.type #[vs]).run P w = .ok v' w') (h : wpList P ops Q rest (a.put o.dst v') w') : wpList P ops Q (o :: rest) a w :=
  wpList_plain hgd fun _ hK => wp_clear_run w s t ho vs hs v' w' hr (hK _ _ h)
theorem StRow.set_out {w : World} {g o : Nat} {R : List St} (h : StRow w (some ⟨g, 0, none⟩) R) (ho : R.length * 9 ≤ o) (vs : List Value) : StRow (w.setCells g o vs) (some ⟨g, 0, none⟩) R := fun hp => by
  obtain ⟨g', hA, hg, hc⟩ := h hp
  injection hA with hA
  injection hA with hA
  subst hA
  refine ⟨g, rfl, by rw [size_setCells]; exact hg, fun j hj => ?_⟩
  have key : ∀ i, i < R.length * 9 → (w.setCells g o vs).cell? ⟨g, i, none⟩ = w.cell? ⟨g, i, none⟩ := fun i hi => World.cell?_setCells_out g vs o w ⟨g, i, none⟩ (fun _ _ => Or.inl (by show i < o; omega))
  rw [key _ (by omega), key _ (by omega), key _ (by omega), key _ (by omega), key _ (by omega), key _ (by omega), key _ (by omega), key _ (by omega), key _ (by omega)]
  exact hc j hj
theorem clear_post {g cap kk : Nat} {d dk : Array St} {w wr : World} (hH : HoldsK St.cells 9 wr g 0 dk) (hb : Below g w wr) (hs : w.heap.size ≤ wr.heap.size) (hI : CompInv d d.size kk dk) : CompPost g cap d w (.returned (.slice (some ⟨g, 0, none⟩) kk cap)) (wr.setCells g (kk * 9) (clr (dk.size - kk))) := by
  have hk := hI.lt
  have hz := hI.size
  refine ⟨by rw [hI.len], ?_, below_setCells (Nat.le_refl _) _ _ _ hb, by rw [size_setCells]; exact hs, holds_out (holds_low hH _ (by rw [hI.len]; omega) (inv_low hI rfl (by omega))) (by rw [List.size_toArray, hI.len]; exact Nat.le_refl _) _⟩
  refine StRow.set_out (StRow.of_holds hH _ (by rw [hI.len]; omega) (inv_low hI rfl (by omega))) (by rw [hI.len]; exact Nat.le_refl _) _
end Go.Proofs.YtcmdiomjhideiaaGreatDoor.SynD8
/- syn.Sort, by contract. -/
namespace Go.Proofs.YtcmdiomjhideiaaGreatDoor.SynD9
set_option linter.unusedVariables false
set_option linter.unusedSimpArgs false
open Go.Shelf Go.RowKit Go.Sort Go.Lib Go.Proofs Go.Proofs.YtcmdiomjhideiaaGreatDoor.Plain Go.Proofs.YtcmdiomjhideiaaGreatDoor.SynP Go.Proofs.YtcmdiomjhideiaaGreatDoor.Grown Go.Proofs.YtcmdiomjhideiaaGreatDoor.SynE Go.Proofs.YtcmdiomjhideiaaGreatDoor.SynD Go.Proofs.YtcmdiomjhideiaaGreatDoor.SynD2 Go.Proofs.YtcmdiomjhideiaaGreatDoor.SynD3 Go.Proofs.YtcmdiomjhideiaaGreatDoor.SynD5 Go.Proofs.YtcmdiomjhideiaaGreatDoor.SynD6 Go.Proofs.YtcmdiomjhideiaaGreatDoor.SynD7 Go.Proofs.YtcmdiomjhideiaaGreatDoor.SynD8
set_option linter.unusedVariables false
set_option linter.unusedSimpArgs false
set_option maxHeartbeats 1000000 in
theorem compNone (a : Option Addr) (cap : Nat) (w : World) : Calls Tryz.prog 229 #[.slice a 0 cap] w fun e w' => e = .returned (.slice a 0 cap) ∧ w' = w := by
  go_enter Tryz.func229, Tryz.ntmps229
  go_wp2_with fail
  go_ret
  exact ⟨rfl, rfl⟩
theorem below_sortK {w : World} {g off n : Nat} {d : Array St} {os : Array Obj} (hg : g < w.heap.size) : Below g w (sortWorldK St.cells 9 w g off n d os) :=
  ⟨rfl, rfl, rfl, size_sortWorldK_c St.cells 9 w g off n d os, fun k hk => by
    unfold sortWorldK
    rw [heap_grow_old _ _ (by rw [size_putRowK]; exact Nat.lt_trans hk hg)]
    unfold putRowK putRow mapBlock
    show (Array.modify (Sort.ahead w n).heap g _)[k]? = _
    rw [Array.getElem?_modify, if_neg (by omega)]; rfl⟩
def SortPost (L : List St) (w : World) (e : Ending) (w' : World) : Prop := ∃ A c, e = .returned (.slice A (sortL cmpS [] L).length c) ∧ StRow w' A (sortL cmpS [] L) ∧ Below w.heap.size w w'
end Go.Proofs.YtcmdiomjhideiaaGreatDoor.SynD9
/- The document's way to sort statements, by contract: what is wanted of its loops. -/
namespace Go.Proofs.YtcmdiomjhideiaaGreatDoor.SynDA
set_option linter.unusedVariables false
set_option linter.unusedSimpArgs false
open Go.RowKit Go.Sort Go.Lib Go.Proofs Go.Proofs.YtcmdiomjhideiaaGreatDoor.Plain Go.Proofs.YtcmdiomjhideiaaGreatDoor.SynP Go.Proofs.YtcmdiomjhideiaaGreatDoor.Grown Go.Proofs.YtcmdiomjhideiaaGreatDoor.SynC Go.Proofs.YtcmdiomjhideiaaGreatDoor.SynD Go.Proofs.YtcmdiomjhideiaaGreatDoor.SynD2 Go.Proofs.YtcmdiomjhideiaaGreatDoor.SynD3
set_option linter.unusedVariables false
set_option linter.unusedSimpArgs false
section
variable {α : Type} {c : α → α → Int}
theorem sortL_snoc [DecidableEq α] : ∀ (l acc : List α) (s : α), sortL c acc (l ++ [s]) = if s ∈ sortL c acc l then sortL c acc l else insL c s (sortL c acc l)
  | [], acc, s => rfl
  | x :: t, acc, s => by
    show sortL c _ (t ++ [s]) = _
    rw [sortL_snoc t]; rfl
theorem insL_len (s : α) : ∀ l : List α, (insL c s l).length = l.length + 1
  | [] => rfl
  | x :: t => by
    unfold insL
    split
    · rw [List.length_cons, insL_len s t]; rfl
    · rfl
theorem sortL_len [DecidableEq α] : ∀ (l acc : List α), (sortL c acc l).length ≤ acc.length + l.length
  | [], acc => by simp [sortL]
  | x :: t, acc => by
    unfold sortL
    refine Nat.le_trans (sortL_len t _) ?_
    split
    · simp
    · rw [insL_len]; simp; omega
theorem insL_at (s : α) : ∀ (l : List α) (k : Nat), k ≤ l.length → (∀ j, j < k → (h : j < l.length) → c l[j] s < 0) → ((h : k < l.length) → ¬ c l[k] s < 0) → insL c s l = l.take k ++ s :: l.drop k
  | [], k, hk, _, _ => by
    have : k = 0 := by simpa using hk
    subst this; rfl
  | x :: t, 0, _, _, h => by
    have this : ¬ c x s < 0 := h (by simp)
    unfold insL
    rw [if_neg this]; rfl
  | x :: t, k + 1, hk, h1, h2 => by
    have h0 : c x s < 0 := h1 0 (by omega) (by simp)
    unfold insL
    rw [if_pos h0, insL_at s t k (by simpa using hk) (fun j hj h => h1 (j + 1) (by omega) (by simpa using h)) (fun h => h2 (by simpa using h))]
    rfl
end
theorem own_keep {w w' : World} {base : Nat} {e : TypeId} {size : Nat} {v : Value} {n : Nat} {xs : List Value} (h : w.ownsRow base e size v n xs) (hb : Below w.heap.size w w') : w'.ownsRow base e size v n xs := by
  refine ⟨h.1, ?_⟩
  rcases h.2 with hn | ⟨g, cap, cur, rfl, hB, hg, rest⟩
  · exact .inl hn
  · exact .inr ⟨g, cap, cur, rfl, hB, (hb.block g (h.lt g rfl).2).trans hg, rest⟩
theorem own_more {w : World} {B B' : Nat} {e : TypeId} {size n : Nat} {v : Value} {xs : List Value} (h : w.ownsRow B e size v n xs) (hB : B' ≤ B) : w.ownsRow B' e size v n xs := by
  refine ⟨h.1, ?_⟩
  rcases h.2 with hn | ⟨g, cap, cur, rfl, hb, rest⟩
  · exact .inl hn
  · exact .inr ⟨g, cap, cur, rfl, by omega, rest⟩
theorem own_form {w : World} {B : Nat} {e : TypeId} {size : Nat} {v : Value} {n : Nat} {xs : List Value} (h : w.ownsRow B e size v n xs) : ∃ A c, v = .slice A n c := by
  rcases h.2 with ⟨rfl, rfl⟩ | ⟨g, cap, cur, rfl, _⟩
  · exact ⟨_, _, rfl⟩
  · exact ⟨_, _, rfl⟩
theorem step_append_from {P : Program} {ops : Array Oper} {o : Oper} {a : Act} {w : World} {K : Act → World → Prop} {Q : Exit → Act → World → Prop} {E : Prop} (hgd : o.guard = none) (s x : Operand) (t : TypeId)
    (ho : o.op = .call { callee := .builtin .append, args := #[s, x], argTypes := #[t, t] })
    (base : Nat) (e : TypeId) (i : TypeInfo) (z : Value) (size bytes : Nat) (ht : P.underlying t = some (.slice e)) (hi : P.info? e = some i) (hz : i.zero = some z)
    (hsize : i.size = size) (hby : i.bytes = bytes) (hzs : z.cells.size = size) (hsz : 0 < size) (v : Value) (n : Nat) (xs : List Value) (hs : a.eval s = v) (hown : w.ownsRow base e size v n xs)
    (A : Option Addr) (m c : Nat) (news : List Value) (hx : a.eval x = .slice A m c) (hlen : news.length = m * size) (h0 : A = none → m = 0) (hA : ∀ ad, A = some ad → ∀ j u, news[j]? = some u → w.cell? (ad.add j) = some u) (h1 : ∀ u ∈ news, u.oneCell' = true)
    (h63 : n + m ≤ maxLen) (hbytes : (n + m) * bytes ≤ 140737488355328) (hbase : base ≤ w.heap.size)
    (h : ∀ v' w', w'.ownsRow base e size v' (n + m) (xs ++ news) → w.grownBy w' v.ownBlock → K (a.put o.dst v') w') :
    if Region.wanted o (yielded ops a.tmps) = true then Oper.wp P o a w K Q else E := by
  have hw : Region.wanted o (yielded ops a.tmps) = true := by simp [Region.wanted, hgd]
  rw [if_pos hw]
  obtain ⟨v', w', hrun, h2, h3⟩ := run_append_from (P := P) w base t o.type e i z size bytes ht hi hz hsize hby hzs hsz v n xs hown A m c news hlen h0 hA h1 h63 hbytes hbase
  unfold Oper.wp
  simp [execOp, ho, resolve, invoke, builtin, hs, hx, hrun, Result.andThen]
  exact h v' w' h2 h3
/-- The row that is left behind a put. -/
theorem own_put {w : World} {B B' k : Nat} {v : Value} {M M' : List St} {s : St} (h : w.ownsRow B' 55 9 v (k + 1 + (M.length - k)) ((stCells (M.take k) ++ s.cells) ++ stCells (M.drop k))) (hk : k ≤ M.length) (hM : M' = M.take k ++ s :: M.drop k) (hB : B ≤ B') : ∃ A c, v = .slice A M'.length c ∧ w.ownsRow B 55 9 (.slice A M'.length c) M'.length (stCells M') := by
  have hl : M'.length = k + 1 + (M.length - k) := by rw [hM]; simp; omega
  have hc : stCells M' = (stCells (M.take k) ++ s.cells) ++ stCells (M.drop k) := by rw [hM, stCells_app, stCells_cons, List.append_assoc]
  rw [← hl, ← hc] at h
  obtain ⟨A, c, rfl⟩ := own_form h
  exact ⟨A, c, rfl, own_more h hB⟩
theorem take_cells (M : List St) (k : Nat) (hk : k ≤ M.length) : (stCells (M.take k)).length = k * 9 := by rw [stCells_len, List.length_take, Nat.min_eq_left hk]
theorem drop_cells (M : List St) (k : Nat) : (stCells (M.drop k)).length = (M.length - k) * 9 := by rw [stCells_len, List.length_drop]
/-- The cells of the rest of a row. -/
theorem drop_at {w : World} {g k : Nat} {M : List St} (h : ∀ j u, (stCells M)[j]? = some u → w.cell? ⟨g, j, none⟩ = some u) (hk : k ≤ M.length) : ∀ j u, (stCells (M.drop k))[j]? = some u → w.cell? ⟨g, k * 9 + j, none⟩ = some u := fun j u hu => by
  refine h _ _ ?_
  rw [show stCells M = stCells (M.take k) ++ stCells (M.drop k) by rw [← stCells_app, List.take_append_drop], List.getElem?_append_right (by rw [take_cells M k hk]; omega), take_cells M k hk, show k * 9 + j - k * 9 = j by omega]
  exact hu
theorem take_at {w : World} {g k : Nat} {M : List St} (h : ∀ j u, (stCells M)[j]? = some u → w.cell? ⟨g, j, none⟩ = some u) (hk : k ≤ M.length) : ∀ j u, (stCells (M.take k))[j]? = some u → w.cell? ⟨g, j, none⟩ = some u := fun j u hu => by
  refine h _ _ ?_
  have hj : j < (stCells (M.take k)).length := by
    rcases Nat.lt_or_ge j (stCells (M.take k)).length with h | h
    · exact h
    · rw [List.getElem?_eq_none h] at hu; cases hu
  rw [show stCells M = stCells (M.take k) ++ stCells (M.drop k) by rw [← stCells_app, List.take_append_drop], List.getElem?_append_left hj]
  exact hu
theorem at_own {w : World} {B g n c : Nat} {M : List St} (h : w.ownsRow B 55 9 (.slice (some ⟨g, 0, none⟩) n c) n (stCells M)) : ∀ j u, (stCells M)[j]? = some u → w.cell? ⟨g, j, none⟩ = some u := fun j u hu => by
  have q := h.cells (g := g) rfl j u hu
  rwa [add_off, Nat.zero_add] at q
theorem stcell_one (x : St) : ∀ v ∈ x.cells, v.oneCell' = true := fun v hv => by
  simp [St.cells] at hv
  rcases hv with rfl | rfl | rfl | rfl | rfl | rfl | rfl | rfl | rfl <;> rfl
theorem cap_le {w : World} {B n c : Nat} {A : Option Addr} {M : List St} (h : w.ownsRow B 55 9 (.slice A n c) n (stCells M)) : n ≤ c := by
  rcases h.2 with ⟨e, h0⟩ | ⟨g, cap, cur, e, hB, hh, hc, _⟩
  · omega
  · injection e with e1 e2 e3
    subst e3; exact hc
theorem own_ways {w : World} {B c : Nat} {A : Option Addr} {M : List St} (h : w.ownsRow B 55 9 (.slice A M.length c) M.length (stCells M)) : (A = none ∧ c = 0 ∧ M.length = 0) ∨ ∃ g, A = some ⟨g, 0, none⟩ := by
  rcases h.2 with ⟨e, h0⟩ | ⟨g, cap, cur, e, _⟩
  · injection e with e1 e2 e3
    exact .inl ⟨e1, e3, h0⟩
  · injection e with e1 e2 e3
    exact .inr ⟨g, e1⟩
theorem at_drop {w : World} {B k : Nat} {v : Value} {M : List St} (h : w.ownsRow B 55 9 v (M.length - k) (stCells (M.drop k))) : ∃ A c, v = .slice A (M.length - k) c ∧ StAt w A (M.drop k) := by
  have hl : (M.drop k).length = M.length - k := List.length_drop
  rw [← hl] at h
  obtain ⟨A, c, e, _, hat⟩ := StAt.of_own h
  rw [hl] at e
  exact ⟨A, c, e, hat⟩
theorem drop_new {Z : World} {B g n c k : Nat} {M : List St} {ad : Addr} (h : Z.ownsRow B 55 9 (.slice (some ⟨g, 0, none⟩) n c) n (stCells M)) (e : (some ⟨g, k * 9, none⟩ : Option Addr) = some ad) (hk : k ≤ M.length) : ∀ j u, (stCells (M.drop k))[j]? = some u → (Z.alloc (.cells #[] 55)).cell? (ad.add j) = some u := fun j u hu => by
  injection e with e
  subst e
  rw [add_off, World.cell?_alloc_past _ _ _ (h.lt g rfl).2]
  exact drop_at (at_own h) hk j u hu
theorem olds_at {X : World} {B c k : Nat} {A : Option Addr} {M : List St} {o : Obj} (h : X.ownsRow B 55 9 (.slice A M.length c) M.length (stCells M)) (hk : k ≤ M.length) : ∀ b, A = some b → ∀ j u, (stCells (M.take k))[j]? = some u → (X.drew.alloc o).cell? (b.add j) = some u := fun b e j u hu => by
  rcases own_ways h with ⟨rfl, _⟩ | ⟨g, rfl⟩
  · cases e
  · injection e with e
    subst e
    have hlt : g < X.drew.heap.size := (h.lt g rfl).2
    rw [add_off, Nat.zero_add, World.cell?_alloc_past _ _ _ hlt]
    exact take_at (at_own h) hk j u hu
theorem new_at (X : World) (s : St) : ∀ j u, s.cells[j]? = some u → (X.alloc (.cells s.cells.toArray 55)).cell? ((⟨X.heap.size, 0, none⟩ : Addr).add j) = some u := fun j u hu => by
  rw [add_off, Nat.zero_add, Lib.cell_of_heap (heap_alloc_new X _)]
  simpa using hu
theorem rest_none {w : World} {A : Option Addr} {M : List St} {k : Nat} (h : StAt w A (M.drop k)) : A = none → M.length - k = 0 := fun e => by
  rcases Nat.eq_zero_or_pos (M.drop k).length with h0 | h0
  · rwa [List.length_drop] at h0
  · obtain ⟨g, o, hA, _⟩ := h h0
    rw [hA] at e; cases e
theorem rest_at {w w4 : World} {A : Option Addr} {M : List St} {k : Nat} {o : Obj} (h : StAt w A (M.drop k)) (hg : (w.drew.alloc o).grownBy w4 none) : ∀ ad, A = some ad → ∀ j u, (stCells (M.drop k))[j]? = some u → w4.cell? (ad.add j) = some u := fun ad e j u hu => by
  have hp : 0 < (M.drop k).length := by
    rcases Nat.eq_zero_or_pos (M.drop k).length with h0 | h0
    · rw [List.eq_nil_of_length_eq_zero h0] at hu; simp [stCells] at hu
    · exact h0
  have hb : Below w.heap.size w w4 := (((Below.refl _ _).drew).alloc (Nat.le_refl _) _).grown hg (by simp) (fun _ h => by cases h)
  obtain ⟨g, o', hA, hgz, hc⟩ := h hp
  rw [hA] at e
  injection e with e
  subst e
  rw [add_off]
  exact (hb.cell (p := ⟨g, o' + j, none⟩) hgz).trans (hc j u hu)
theorem below_fin {w w3 w4 w5 : World} {o : Obj} {v : Value} {n : Nat} {xs : List Value} (hb : Below w.heap.size w w3) (hs : w.heap.size ≤ w3.heap.size) (hown : w4.ownsRow (w3.drew.alloc o).heap.size 55 9 v n xs) (hg4 : (w3.drew.alloc o).grownBy w4 none) (hg5 : w4.grownBy w5 v.ownBlock) : Below w.heap.size w w5 := by
  have h4 : Below w.heap.size w w4 := ((hb.drew).alloc (by simpa using hs) _).grown hg4 (by simp; omega) (fun _ h => by cases h)
  exact h4.grown hg5 h4.size (fun k hk => by have := (hown.lt k hk).1; simp at this; omega)
end Go.Proofs.YtcmdiomjhideiaaGreatDoor.SynDA
/- Rows of roles put one behind the other: slices.Grow, slices.Concat. -/
namespace Go.Proofs.YtcmdiomjhideiaaGreatDoor.PolF
set_option linter.unusedVariables false
set_option linter.unusedSimpArgs false
open Go.RowKit Go.Sort Go.Proofs.YtcmdiomjhideiaaGreatDoor.Plain Go.Proofs.YtcmdiomjhideiaaGreatDoor.SynP Go.Proofs.YtcmdiomjhideiaaGreatDoor.Grown Go.Proofs.YtcmdiomjhideiaaGreatDoor.SynA Go.Proofs.YtcmdiomjhideiaaGreatDoor.SynC Go.Proofs.YtcmdiomjhideiaaGreatDoor.SynJ Go.Proofs.YtcmdiomjhideiaaGreatDoor.PolA
set_option linter.unusedVariables false
/-- A row of the call's own that holds roles. -/
def RPost (l : List Rl) (w : World) (e : Ending) (w' : World) : Prop := ∃ v, e = .returned v ∧ w'.ownsRow w.heap.size 28 2 v l.length (rcells l) ∧ Below w.heap.size w w'
theorem rg_none_len {w : World} {l : List Rl} (h : RG w none l) : l.length = 0 := by rw [rg_none h]; rfl
set_option maxRecDepth 100000 in
theorem growR (n : Nat) (w : World) (hn : n ≤ 1000000) : Calls Tryz.prog 190 #[.slice none 0 0, .int .i64 n] w (RPost [] w) := by
  obtain ⟨i0, hi, hz0, hz1, hz2⟩ := info_parts infoRole
  by_cases h0 : 0 < n
  · have hz : 0 < i0.size := by rw [hz1]; omega
    have hby : n * i0.bytes ≤ 281474976710656 := by rw [hz2]; omega
    have hrun := Lib.run_append_nil_zeros (P := Tryz.prog) w 23 3 23 28 i0 (.agg #[.string ⟨#[]⟩, .string ⟨#[]⟩]) .i64 .i64 Tryz.underlying23 Tryz.underlying3 hi hz0 n h0 hz (by omega) hby
    have hg := grownCap_ge w n 0 28
    have hm := grownCap_le_maxLen w n 0 28 (by unfold maxLen; omega)
    have hm' := hm
    have hsz : (Builtin.zeroCells (Value.agg #[.string ⟨#[]⟩, .string ⟨#[]⟩]).cells n ++ Builtin.zeroCells (Value.agg #[.string ⟨#[]⟩, .string ⟨#[]⟩]).cells (grownCap w n 0 28 - n)).size = grownCap w n 0 28 * 2 := by
      rw [Array.size_append, size_zeroCells, size_zeroCells]
      show n * 2 + (grownCap w n 0 28 - n) * 2 = _
      omega
    generalize Builtin.zeroCells (Value.agg #[.string ⟨#[]⟩, .string ⟨#[]⟩]).cells n ++ Builtin.zeroCells (Value.agg #[.string ⟨#[]⟩, .string ⟨#[]⟩]).cells (grownCap w n 0 28 - n) = cells at *
    generalize grownCap w n 0 28 = gc at *
    have Hsz := Lib.hid hsz
    have Hm := Lib.hid hm'
    have Hrun := Lib.hid hrun
    clear hsz hz hby hm' hrun
    unfold maxLen at hm
    go_enter Tryz.func190, Tryz.ntmps190
    go_wp2_with (refine Lib.wpList_append_run (P := Tryz.prog) (o := ⟨some 22, _, _, _, _, _⟩) w rfl (.tmp 20) (.tmp 21) 23 3 rfl (.slice none 0 0) (.int .i64 n) ?hs ?hx (.slice (some ⟨w.heap.size, 0, none⟩) n gc) (w.drew.alloc (.cells cells 28)) (by exact Hrun.out) ?_)
    case hs => rfl
    case hx => rfl
    go_wp2
    go_ret
    exact ⟨_, rfl, World.ownsRow_made w.drew cells gc (Nat.le_refl _) Hm.out Hsz.out, (Below.refl _ _).drew.alloc (Nat.le_refl _) _⟩
  · have : n = 0 := by omega
    subst this
    go_enter Tryz.func190, Tryz.ntmps190
    go_wp2
    go_ret
    exact ⟨_, rfl, World.ownsRow_nil _ _ _ _, Below.refl _ _⟩
/-- A slice value, its room, and the roles as which it reads. -/
structure RowR where
  A : Option Addr
  c : Nat
  l : List Rl
/-- The roles of the first rows. -/
def flatTo (R : List RowR) (k : Nat) : List Rl := ((R.take k).map RowR.l).flatten
theorem flatTo_succ {R : List RowR} {k : Nat} (h : k < R.length) : flatTo R (k + 1) = flatTo R k ++ R[k].l := by
  unfold flatTo
  rw [List.take_succ_eq_append_getElem h, List.map_append, List.flatten_append, List.map_singleton, List.flatten_singleton]
theorem flatTo_len {R : List RowR} (h : ∀ r ∈ R, r.l.length ≤ 1000) : ∀ k, (flatTo R k).length ≤ k * 1000 := by
  intro k
  induction k with
  | zero => simp [flatTo]
  | succ k ih =>
    rcases Nat.lt_or_ge k R.length with hk | hk
    · rw [flatTo_succ hk, List.length_append]
      have h1 := h R[k] (List.getElem_mem _)
      rw [Nat.succ_mul]
      exact Nat.add_le_add ih h1
    · have : flatTo R (k + 1) = flatTo R k := by unfold flatTo; rw [List.take_of_length_le (by omega), List.take_of_length_le (by omega)]
      rw [this, Nat.succ_mul]
      exact Nat.le_add_right_of_le ih
set_option maxHeartbeats 800000 in
set_option maxRecDepth 100000 in
theorem concatR (b cap : Nat) (R : List RowR) (w : World) (hR : R.length ≤ 100) (hl : ∀ r ∈ R, r.l.length ≤ 1000) (hb : b < w.heap.size) (hc : ∀ j, (h : j < R.length) → w.cell? ⟨b, j, none⟩ = some (.slice R[j].A R[j].l.length R[j].c)) (hr : ∀ r ∈ R, RG w r.A r.l) :
    Calls Tryz.prog 149 #[.slice (some ⟨b, 0, none⟩) R.length cap] w (RPost (flatTo R R.length) w) := by
  obtain ⟨i0, hi, hz0, hz1, hz2⟩ := info_parts infoRole
  have HC := Lib.hid hc
  have HR := Lib.hid hr
  have HL := Lib.hid (flatTo_len hl)
  have Hl := Lib.hid hl
  clear hc hr hl
  go_enter Tryz.func149, Tryz.ntmps149
  go_wp2_with fail
  go_loop [3, 11] (fun s i => ∃ k : Nat, k ≤ R.length ∧ i = .int .i64 k ∧ s = .int .i64 ((flatTo R k).length : Nat)) (fun _ i => R.length - (intOf i).toNat)
  case atStart => exact ⟨0, by omega, rfl, by simp [flatTo]⟩
  case round =>
    obtain ⟨k, hk, rfl, rfl⟩ := hrel
    have b1 := HL.out k
    by_cases hlt : k < R.length
    · have hcell := HC.out k hlt
      have b2 := Hl.out R[k] (List.getElem_mem _)
      have hs := flatTo_succ hlt
      have Hs : Hid (((flatTo R k).length : Int) + (R[k].l.length : Int) = ((flatTo R (k + 1)).length : Nat)) := Lib.hid (by rw [hs, List.length_append]; omega)
      clear hs
      go_wp2_with fail
      go_round
      case rel => exact ⟨k + 1, by omega, by go_num, by rw [← Hs.out]⟩
      case measure => simp [intOf]; omega
    · have hkR : k = R.length := by omega
      subst hkR
      go_wp2_with fail
      refine (growR (flatTo R R.length).length w (by omega)).mono ?_
      rintro e w1 ⟨v1, rfl, hown1, hbel1⟩
      go_wp2_with fail
      go_loopw [6, 27] (fun v i wr => ∃ k : Nat, k ≤ R.length ∧ i = .int .i64 k ∧ Below w.heap.size w wr ∧ wr.ownsRow w.heap.size 28 2 v (flatTo R k).length (rcells (flatTo R k))) (fun _ i _ => R.length - (intOf i).toNat)
      case atStart => exact ⟨0, by omega, rfl, hbel1, by simpa [flatTo] using hown1⟩
      case round =>
        obtain ⟨k, hk, rfl, hbel, hown⟩ := hrel
        clear hown1 hbel1
        by_cases hlt : k < R.length
        · have d1 := (hbel.cell (p := ⟨b, k, none⟩) hb).trans (HC.out k hlt)
          have hrow := (HR.out R[k] (List.getElem_mem _)).below hbel
          have b2 := Hl.out R[k] (List.getElem_mem _)
          have b3 := HL.out k
          have H0 := Lib.hid (fun h : R[k].A = none => by rw [h] at hrow; exact rg_none_len hrow)
          have H1 := Lib.hid (rg_cells hrow)
          have Hs := Lib.hid (flatTo_succ hlt)
          clear hrow
          go_wp2_with (at_builtin; refine wpList_append_from _ rfl _ _ 23 rfl w.heap.size 28 i0 (.agg #[.string ⟨#[]⟩, .string ⟨#[]⟩]) 2 32 Tryz.underlying23 hi hz0 hz1 hz2 rfl (by decide) _ _ _ rfl hown R[k].A R[k].l.length R[k].c (rcells R[k].l) rfl (rcells_len _) H0.out H1.out (rcells_one _) (by unfold maxLen; omega) (by omega) hbel.size ?_)
          intro v2 w2 hown2 hgrow
          have hbel2 := hbel.grown hgrow hbel.size (fun k hk => (hown.lt k hk).1)
          have hown3 : w2.ownsRow w.heap.size 28 2 v2 (flatTo R (k + 1)).length (rcells (flatTo R (k + 1))) := by
            rw [Hs.out, List.length_append, rcells_app]; exact hown2
          clear hown hbel hgrow hown2
          go_wp2_with fail
          go_roundw
          case rel => exact ⟨k + 1, by omega, by go_num, hbel2, hown3⟩
          case measure => simp [intOf]; omega
        · have hkR : k = R.length := by omega
          subst hkR
          go_wp2_with fail
          go_ret
          exact ⟨_, rfl, hown, hbel⟩
end Go.Proofs.YtcmdiomjhideiaaGreatDoor.PolF
/- Where a text is in a table: Find. -/
namespace Go.Proofs.YtcmdiomjhideiaaGreatDoor.Tab2
set_option linter.unusedVariables false
set_option linter.unusedSimpArgs false
open Go.RowKit Go.Sort Go.Proofs Go.Proofs.YtcmdiomjhideiaaGreatDoor.Plain Go.Proofs.YtcmdiomjhideiaaGreatDoor.Tab1 Go.Proofs.YtcmdiomjhideiaaGreatDoor.TabP
set_option maxRecDepth 100000 in
theorem closure (lb sb g off n c k : Nat) (x s : ByteArray) (w : World) (hk : k < n) (hl : w.cell? ⟨lb, 0, none⟩ = some (.slice (some ⟨g, off, none⟩) n c)) (hs : w.cell? ⟨sb, 0, none⟩ = some (.string s)) (hx : w.cell? ⟨g, off + k, none⟩ = some (.string x)) :
    Calls Tryz.prog 181 #[.int .i64 k, .pointer (some ⟨lb, 0, none⟩), .pointer (some ⟨sb, 0, none⟩)] w fun e w' => e = .returned (.bool (!Op.bytesLess x.toList s.toList)) ∧ ∃ m, w' = w.drewN m := by
  go_enter Tryz.func181, Tryz.ntmps181
  go_wp2_with fail
  go_quiet (fail)
  go_wp2
  go_ret
  exact ⟨rfl, _, rfl⟩
def SearchPost (T : List Str) (s : Str) (w : World) (e : Ending) (w' : World) : Prop :=
  ∃ a : Nat, e = .returned (.int .i64 a) ∧ a ≤ T.length ∧ (∀ k, (h : k < T.length) → k < a → T[k] < s) ∧ (∀ k, (h : k < T.length) → a ≤ k → ¬ T[k] < s) ∧ ∃ m, w' = w.drewN m
theorem mid_cast (a b : Nat) : (((a : Int) + (b : Int)) / 2) = (((a + b) / 2 : Nat) : Int) := by omega
set_option maxRecDepth 100000 in
theorem search (lb sb c : Nat) (A : Option Addr) (T : List Str) (s : ByteArray) (w : World) (hn : T.length ≤ 1000000) (hsorted : T.Pairwise (· < ·))
    (hl : w.cell? ⟨lb, 0, none⟩ = some (.slice A T.length c)) (hs : w.cell? ⟨sb, 0, none⟩ = some (.string s)) (hT : SRow w A T) :
    Calls Tryz.prog 180 #[.int .i64 T.length, .func (.func 181) #[] #[.pointer (some ⟨lb, 0, none⟩), .pointer (some ⟨sb, 0, none⟩)]] w (SearchPost T s.toList w) := by
  have HT := Lib.hid hT
  have HS := Lib.hid hsorted
  clear hT hsorted
  go_enter Tryz.func180, Tryz.ntmps180
  go_wp2_with fail
  go_loopw [5, 6] (fun i j wr => ∃ a b : Nat, a ≤ b ∧ b ≤ T.length ∧ i = .int .i64 a ∧ j = .int .i64 b ∧ Hid (∀ k, (h : k < T.length) → k < a → T[k] < s.toList) ∧ Hid (∀ k, (h : k < T.length) → b ≤ k → ¬ T[k] < s.toList) ∧ ∃ m, wr = w.drewN m) (fun i j _ => (intOf j).toNat - (intOf i).toNat)
  case atStart => exact ⟨0, T.length, by omega, by omega, rfl, rfl, Lib.hid fun k _ h => by omega, Lib.hid fun k h1 h2 => by omega, 0, rfl⟩
  case round =>
    obtain ⟨a, b, hab, hb, rfl, rfl, hlo, hhi, m, rfl⟩ := hrel
    by_cases h : a < b
    · have hkT : (a + b) / 2 < T.length := by omega
      obtain ⟨g, off, rfl, hg, hc⟩ := HT.out (by omega)
      have hx := hc ((a + b) / 2) hkT
      have Hle := Lib.hid (show ∀ i j, (h1 : i < T.length) → (h2 : j < T.length) → i < j → T[i] < T[j] from fun i j h1 h2 hij => List.pairwise_iff_getElem.1 HS.out i j h1 h2 hij)
      clear hc
      cases hlt : Op.bytesLess T[(a + b) / 2] s.toList
      · have hnew : Hid (∀ k, (h : k < T.length) → (a + b) / 2 ≤ k → ¬ T[k] < s.toList) := Lib.hid fun k hk h1 h2 => by
          rw [bytesLess_eq, decide_eq_false_iff_not] at hlt
          by_cases e : (a + b) / 2 = k
          · subst e; exact hlt h2
          · exact hlt (List.lt_trans (Hle.out _ _ hkT hk (by omega)) h2)
        clear hhi
        go_wp2_with fail
        rw [mid_cast]
        refine (closure lb sb g off T.length c ((a + b) / 2) _ s (w.drewN m) hkT hl hs hx).mono ?_
        rintro e w' ⟨rfl, m', rfl⟩
        go_wp2_with fail
        go_roundw
        case rel => exact ⟨a, (a + b) / 2, by omega, by omega, rfl, by go_num, hlo, hnew, _, rfl⟩
        case measure => simp [intOf]; omega
      · have hnew : Hid (∀ k, (h : k < T.length) → k < (a + b) / 2 + 1 → T[k] < s.toList) := Lib.hid fun k hk h1 => by
          rw [bytesLess_eq, decide_eq_true_iff] at hlt
          by_cases e : (a + b) / 2 = k
          · subst e; exact hlt
          · exact List.lt_trans (Hle.out _ _ hk hkT (by omega)) hlt
        clear hlo
        go_wp2_with fail
        rw [mid_cast]
        refine (closure lb sb g off T.length c ((a + b) / 2) _ s (w.drewN m) hkT hl hs hx).mono ?_
        rintro e w' ⟨rfl, m', rfl⟩
        go_wp2_with fail
        go_roundw
        case rel => exact ⟨(a + b) / 2 + 1, b, by omega, by omega, by go_num, rfl, hnew, hhi, _, rfl⟩
        case measure => simp [intOf]; omega
    · have e : a = b := by omega
      have hfin : Hid (∀ k, (h : k < T.length) → a ≤ k → ¬ T[k] < s.toList) := Lib.hid fun k hk h1 => hhi.out k hk (by omega)
      clear e hhi
      go_wp2_with fail
      go_ret
      exact ⟨a, rfl, by omega, hlo.out, hfin.out, _, rfl⟩
/-- The place of a text, -1 if it is not in. -/
def findI (T : List Str) (s : Str) : Int := if s ∈ T then ((T.idxOf s : Nat) : Int) else -1
theorem findI_hit {T : List Str} {s : Str} (hs : T.Pairwise (· < ·)) {a : Nat} (h : a < T.length) (e : T[a] = s) : findI T s = a := by
  have hm : s ∈ T := by rw [← e]; exact List.getElem_mem _
  unfold findI
  rw [if_pos hm]
  have hlt := List.idxOf_lt_length_iff.2 hm
  have h1 : T[T.idxOf s] = s := List.getElem_idxOf hlt
  have hp := List.pairwise_iff_getElem.1 hs
  rcases Nat.lt_trichotomy (T.idxOf s) a with h2 | h2 | h2
  · have := hp _ _ hlt h h2
    rw [h1, e] at this
    exact absurd this (List.lt_irrefl _)
  · rw [h2]
  · have := hp _ _ h hlt h2
    rw [h1, e] at this
    exact absurd this (List.lt_irrefl _)
theorem findI_miss {T : List Str} {s : Str} (h : s ∉ T) : findI T s = -1 := by unfold findI; rw [if_neg h]
theorem miss_of {T : List Str} {s : Str} (hs : T.Pairwise (· < ·)) {a : Nat} (hlo : ∀ k, (h : k < T.length) → k < a → T[k] < s) (hhi : ∀ k, (h : k < T.length) → a ≤ k → ¬ T[k] < s) (hne : ∀ h : a < T.length, T[a] ≠ s) : s ∉ T := by
  intro hm
  obtain ⟨k, hk, e⟩ := List.getElem_of_mem hm
  rcases Nat.lt_trichotomy k a with h2 | h2 | h2
  · have := hlo k hk h2
    rw [e] at this
    exact List.lt_irrefl _ this
  · subst h2
    exact hne hk e
  · have ha : a < T.length := by omega
    have := List.pairwise_iff_getElem.1 hs _ _ ha hk h2
    rw [e] at this
    exact hhi a ha (Nat.le_refl _) this
def FindPost (T : List Str) (s : Str) (w : World) (e : Ending) (w' : World) : Prop := e = .returned (.int .i64 (findI T s)) ∧ Below w.heap.size w w'
set_option maxHeartbeats 800000 in
set_option maxRecDepth 100000 in
theorem find_row (p : Value) (c : Nat) (A : Option Addr) (T : List Str) (s : ByteArray) (w : World) (hn : T.length ≤ 1000000) (hsorted : T.Pairwise (· < ·)) (hT : SRow w A T)
    (hkept : ∀ w', Below w.heap.size w w' → Calls Tryz.prog 88 #[p] w' fun e w'' => e = .returned (.slice A T.length c) ∧ w' = w'') :
    Calls Tryz.prog 137 #[p, .string s] w (FindPost T s.toList w) := by
  have hmf : ∀ (fn : Fn) (first cap : Array Value) (w : World), (Instr.makeFunc fn first cap).run Tryz.prog w = .ok (.func fn first cap) w := fun _ _ _ _ => rfl
  have HK := Lib.hid hkept
  clear hkept
  have HT := Lib.hid hT
  have HS := Lib.hid hsorted
  clear hT hsorted
  go_enter Tryz.func137, Tryz.ntmps137
  go_wp2_with (go_at_call 88; refine (HK.out _ ((Below.refl _ _).alloc (Nat.le_refl _) _)).mono ?_; rintro e w' ⟨rfl, rfl⟩)
  have hcl : ((w.alloc (.cells #[.string s] 9)).alloc (.cells #[.slice A T.length c] 41)).cell? ⟨w.heap.size + 1, 0, none⟩ = some (.slice A T.length c) := by
    rw [World.cell?_alloc_at _ _ _ _ (by simp)]; rfl
  have hcs : ((w.alloc (.cells #[.string s] 9)).alloc (.cells #[.slice A T.length c] 41)).cell? ⟨w.heap.size, 0, none⟩ = some (.string s) := by
    rw [World.cell?_alloc_past _ _ _ (by simp), World.cell?_alloc_at _ _ _ _ rfl]; rfl
  have hb : Below w.heap.size w ((w.alloc (.cells #[.string s] 9)).alloc (.cells #[.slice A T.length c] 41)) := ((Below.refl _ _).alloc (Nat.le_refl _) _).alloc (by simp) _
  have HT2 := Lib.hid (HT.out.keep hb)
  clear HT
  generalize (w.alloc (.cells #[.string s] 9)).alloc (.cells #[.slice A T.length c] 41) = W at *
  refine (search (w.heap.size + 1) w.heap.size c A T s W hn HS.out hcl hcs HT2.out).mono ?_
  rintro e w2 ⟨a, rfl, ha, hlo, hhi, m, rfl⟩
  by_cases hend : a = T.length
  · have hfin : Hid (findI T s.toList = -1) := Lib.hid (findI_miss (miss_of HS.out hlo hhi (fun h => by omega)))
    have he : ((a : Int) == (T.length : Int)) = true := by simp; omega
    clear hlo hhi hend
    go_wp2_with fail
    go_quiet (fail)
    go_wp2
    go_ret
    exact ⟨by rw [hfin.out]; rfl, below_drewN (below_drewN hb _) _⟩
  · have hlt : a < T.length := by omega
    have he : ((a : Int) == (T.length : Int)) = false := by simp; omega
    obtain ⟨g, off, rfl, hg, hc⟩ := HT2.out (by omega)
    have hx := hc a hlt
    clear hc
    by_cases hs : T[a] = s.toList
    · have hfin := Lib.hid (findI_hit HS.out hlt hs)
      have h1 : (T[a] == s.toList) = true := by simpa using hs
      have h2 : (T[a] != s.toList) = false := by simpa using hs
      clear hlo hhi hend hs
      go_wp2_with fail
      go_quiet (fail)
      go_wp2
      go_ret
      exact ⟨by rw [hfin.out]; rfl, below_drewN (below_drewN hb _) _⟩
    · have hfin : Hid (findI T s.toList = -1) := Lib.hid (findI_miss (miss_of HS.out hlo hhi (fun _ => hs)))
      have h1 : (T[a] == s.toList) = false := by simpa using hs
      have h2 : (T[a] != s.toList) = true := by simpa using hs
      clear hlo hhi hend hs
      go_wp2_with fail
      go_quiet (fail)
      go_wp2
      go_ret
      exact ⟨by rw [hfin.out]; rfl, below_drewN (below_drewN hb _) _⟩
theorem find (t : Nat) (T : List Str) (A : Option Addr) (c : Nat) (s : ByteArray) (w : World) (hn : T.length ≤ 1000000) (hsorted : T.Pairwise (· < ·)) (hT : SRow w A T) (ht : t < w.heap.size) (h : w.cell? ⟨t, 0, none⟩ = some (.slice A T.length c)) :
    Calls Tryz.prog 137 #[.pointer (some ⟨t, 0, none⟩), .string s] w (FindPost T s.toList w) :=
  find_row _ c A T s w hn hsorted hT (fun w' hb => kept w' t _ ((hb.cell (p := ⟨t, 0, none⟩) ht).trans h))
end Go.Proofs.YtcmdiomjhideiaaGreatDoor.Tab2
/- Fresh texts, and rows held against each other. -/
namespace Go.Proofs.YtcmdiomjhideiaaGreatDoor.Tab3
set_option linter.unusedVariables false
set_option linter.unusedSimpArgs false
open Go.RowKit Go.Sort Go.Proofs Go.Proofs.YtcmdiomjhideiaaGreatDoor.Plain Go.Proofs.YtcmdiomjhideiaaGreatDoor.Tab1 Go.Proofs.YtcmdiomjhideiaaGreatDoor.Tab2 Go.Proofs.YtcmdiomjhideiaaGreatDoor.TabP
set_option maxRecDepth 100000 in
theorem same (A B : Option Addr) (ca cb : Nat) (T : List Str) (w : World) (hL : T.length ≤ 1000000) (hA : SRow w A T) (hB : SRow w B T) :
    Calls Tryz.prog 24 #[.slice A T.length ca, .slice B T.length cb] w fun e w' => e = .returned (.bool true) ∧ ∃ n, w' = w.drewN n := by
  go_enter Tryz.func24, Tryz.ntmps24
  go_wp2
  go_loopw [13] (fun i wr => ∃ k : Nat, k ≤ T.length ∧ i = .int .i64 k ∧ ∃ n, wr = w.drewN n) (fun i _ => T.length - (intOf i).toNat)
  case atStart => exact ⟨0, by omega, rfl, 0, rfl⟩
  case round =>
    obtain ⟨k, hk, rfl, n, rfl⟩ := hrel
    by_cases hlt : k < T.length
    · obtain ⟨g1, o1, rfl, _, h1⟩ := hA (by omega)
      obtain ⟨g2, o2, rfl, _, h2⟩ := hB (by omega)
      have a1 := h1 k hlt
      have a2 := h2 k hlt
      clear h1 h2 hA hB
      go_wp2_with fail
      go_quiet (fail)
      go_wp2_with fail
      go_roundw
      case rel => exact ⟨k + 1, by omega, by go_num, _, rfl⟩
      case measure => simp [intOf]; omega
    · go_wp2_with fail
      go_ret
      exact ⟨rfl, _, rfl⟩
theorem has (A : Option Addr) (c : Nat) (T : List Str) (s : ByteArray) (w : World) (hL : T.length ≤ 1000000) (hA : SRow w A T) :
    Calls Tryz.prog 46 #[.slice A T.length c, .string s] w fun e w' => e = .returned (.bool (decide (s.toList ∈ T))) ∧ w = w' := by
  go_enter Tryz.func46, Tryz.ntmps46
  go_wp2
  go_loop [9] (fun i => ∃ k : Nat, k ≤ T.length ∧ i = .int .i64 k ∧ Hid (∀ j, (h : j < T.length) → j < k → T[j] ≠ s.toList)) (fun i => T.length - (intOf i).toNat)
  case atStart => exact ⟨0, by omega, rfl, Lib.hid fun j _ h => by omega⟩
  case round =>
    obtain ⟨k, hk, rfl, hall⟩ := hrel
    by_cases hlt : k < T.length
    · obtain ⟨g1, o1, rfl, _, h1⟩ := hA (by omega)
      have a1 := h1 k hlt
      clear h1 hA
      by_cases he : T[k] = s.toList
      · have hin : Hid (decide (s.toList ∈ T) = true) := Lib.hid (decide_eq_true (by rw [← he]; exact List.getElem_mem _))
        have e1 : (T[k] == s.toList) = true := by simpa using he
        clear he hall
        go_wp2_with fail
        go_ret
        exact ⟨ret_bool hin.out.symm, rfl⟩
      · have e1 : (T[k] == s.toList) = false := by simpa using he
        have hnext : Hid (∀ j, (h : j < T.length) → j < k + 1 → T[j] ≠ s.toList) := Lib.hid fun j h hj => by
          by_cases e : j = k
          · subst e; exact he
          · exact hall.out j h (by omega)
        clear he hall
        go_wp2_with fail
        go_round
        case rel => exact ⟨k + 1, by omega, by go_num, hnext⟩
        case measure => simp [intOf]; omega
    · have hin : Hid (decide (s.toList ∈ T) = false) := Lib.hid (decide_eq_false (fun hm => by
        obtain ⟨j, hj, e⟩ := List.getElem_of_mem hm
        exact hall.out j hj (by omega) e))
      clear hall
      go_wp2_with fail
      go_ret
      exact ⟨ret_bool hin.out.symm, rfl⟩
abbrev Pow (w : World) : Prop := Lib.TabIs Tryz.prog w "internal/strconv.uint64pow10" .u64 Lib.pow10Tab
theorem powNamed : Tryz.prog.globalNamed "internal/strconv.uint64pow10" = some 1 := by kernel_rfl
theorem Pow.keep {w w' : World} (h : Pow w) (hg : 1 < w.heap.size) (hb : Below w.heap.size w w') : Pow w' := var?_below hb powNamed hg h
theorem infoStr : (Tryz.prog.info? 9).map (fun i => (i.zero, i.size, i.bytes)) = some (some (.string ⟨#[]⟩), 1, 16) := by kernel_rfl
theorem own_keep {w w' : World} {base : Nat} {e : TypeId} {size : Nat} {v : Value} {n : Nat} {xs : List Value} (h : w.ownsRow base e size v n xs) (hb : Below w.heap.size w w') : w'.ownsRow base e size v n xs := by
  refine ⟨h.1, ?_⟩
  rcases h.2 with h0 | ⟨g, cap, cur, rfl, hB, hh, r⟩
  · exact .inl h0
  · exact .inr ⟨g, cap, cur, rfl, hB, (hb.block g (h.lt g rfl).2).trans hh, r⟩
theorem new_cell1 (w : World) (a : Value) (t : TypeId) : ∀ j u, [a][j]? = some u → (w.alloc (.cells #[a] t)).cell? ((⟨w.heap.size, 0, none⟩ : Addr).add j) = some u := by
  intro j u hj
  match j, hj with
  | 0, hj => simp at hj; subst hj; simp [Addr.add]
end Go.Proofs.YtcmdiomjhideiaaGreatDoor.Tab3
/- The document's own row of texts: Put, New; and what is light. -/
namespace Go.Proofs.YtcmdiomjhideiaaGreatDoor.Tab4
set_option linter.unusedVariables false
set_option linter.unusedSimpArgs false
open Go.RowKit Go.Sort Go.Proofs Go.Proofs.YtcmdiomjhideiaaGreatDoor.Plain Go.Proofs.YtcmdiomjhideiaaGreatDoor.Tab1 Go.Proofs.YtcmdiomjhideiaaGreatDoor.Tab2 Go.Proofs.YtcmdiomjhideiaaGreatDoor.Tab3 Go.Proofs.YtcmdiomjhideiaaGreatDoor.TabP
/-- What Put has made of the first k, and whether it has put the text. -/
def insTo (T : List Str) (s : Str) (k : Nat) : List Str × Bool :=
  (T.take k).foldl (fun a x => if !a.2 && decide (s < x) then (a.1 ++ [s] ++ [x], true) else (a.1 ++ [x], a.2)) ([], false)
theorem insTo_succ {T : List Str} {s : Str} {k : Nat} (h : k < T.length) : insTo T s (k + 1) = (if !(insTo T s k).2 && decide (s < T[k]) then ((insTo T s k).1 ++ [s] ++ [T[k]], true) else ((insTo T s k).1 ++ [T[k]], (insTo T s k).2)) := by
  unfold insTo
  rw [List.take_succ_eq_append_getElem h, List.foldl_append]
  rfl
def insAll (T : List Str) (s : Str) : List Str := if (insTo T s T.length).2 then (insTo T s T.length).1 else (insTo T s T.length).1 ++ [s]
theorem insTo_len (T : List Str) (s : Str) (k : Nat) (hk : k ≤ T.length) : (insTo T s k).1.length ≤ k + 1 ∧ ((insTo T s k).2 = false → (insTo T s k).1.length ≤ k) := by
  induction k with
  | zero => simp [insTo]
  | succ k ih =>
    obtain ⟨h1, h2⟩ := ih (by omega)
    rw [insTo_succ (by omega)]
    split
    · rename_i hc
      have hd : (insTo T s k).2 = false := by
        cases hd : (insTo T s k).2
        · rfl
        · rw [hd] at hc; simp at hc
      have := h2 hd
      simp
      omega
    · simp only [List.length_append, List.length_singleton]
      refine ⟨by omega, fun hd => ?_⟩
      have := h2 hd
      omega
def putL (T : List Str) (s : Str) : List Str := if s ∈ T then T else insAll T s
def PutPost (T : List Str) (s : Str) (B : Nat) (w : World) (e : Ending) (w' : World) : Prop :=
  ∃ v, e = .returned v ∧ w'.ownsRow B 9 1 v (putL T s).length ((putL T s).map encStr) ∧ Below B w w'
theorem enc_toList (s : ByteArray) : encStr s.toList = .string s := by
  show Value.string ⟨s.toList.toArray⟩ = _
  rw [Go.ByteArray.toList_eq]
theorem own_base {w : World} {B B' : Nat} {e : TypeId} {size : Nat} {v : Value} {n : Nat} {xs : List Value} (h : w.ownsRow B e size v n xs) (hB : B' ≤ B) : w.ownsRow B' e size v n xs := by
  refine ⟨h.1, ?_⟩
  rcases h.2 with h0 | ⟨g, cap, cur, rfl, hb, r⟩
  · exact .inl h0
  · exact .inr ⟨g, cap, cur, rfl, Nat.le_trans hB hb, r⟩
theorem own_app {w : World} {B : Nat} {e : TypeId} {v : Value} {L M : List Str} {x : Str} (h : w.ownsRow B e 1 v (L.length + 1) (L.map encStr ++ [encStr x])) (hM : M = L ++ [x]) : w.ownsRow B e 1 v M.length (M.map encStr) := by
  subst hM
  rw [List.length_append, List.map_append]
  exact h
theorem own_app2 {w : World} {B : Nat} {e : TypeId} {v : Value} {L M : List Str} {x y : Str} (h : w.ownsRow B e 1 v (L.length + 1 + 1) (L.map encStr ++ [encStr x, encStr y])) (hM : M = L ++ [x] ++ [y]) : w.ownsRow B e 1 v M.length (M.map encStr) := by
  subst hM
  rw [List.length_append, List.length_append, List.map_append, List.map_append, List.append_assoc]
  exact h
theorem ins_put {T : List Str} {s : Str} {k : Nat} (h : k < T.length) (hd : (insTo T s k).2 = false) (hl : Op.bytesLess s T[k] = true) : insTo T s (k + 1) = ((insTo T s k).1 ++ [s] ++ [T[k]], true) := by
  rw [bytesLess_eq] at hl
  rw [insTo_succ h, if_pos (by rw [hd, hl]; rfl)]
theorem ins_no {T : List Str} {s : Str} {k : Nat} (h : k < T.length) (hd : (insTo T s k).2 = false) (hl : Op.bytesLess s T[k] = false) : insTo T s (k + 1) = ((insTo T s k).1 ++ [T[k]], false) := by
  rw [bytesLess_eq] at hl
  rw [insTo_succ h, if_neg (by rw [hd, hl]; decide), hd]
theorem ins_done {T : List Str} {s : Str} {k : Nat} (h : k < T.length) (hd : (insTo T s k).2 = true) : insTo T s (k + 1) = ((insTo T s k).1 ++ [T[k]], true) := by
  rw [insTo_succ h, if_neg (by rw [hd]; simp), hd]
set_option maxHeartbeats 1000000 in
set_option maxRecDepth 100000 in
theorem put (B : Nat) (A : Option Addr) (c : Nat) (T : List Str) (s : ByteArray) (w : World) (hL : T.length ≤ 100000) (hB : B ≤ w.heap.size) (hown : w.ownsRow B 9 1 (.slice A T.length c) T.length (T.map encStr)) :
    Calls Tryz.prog 80 #[.slice A T.length c, .string s] w (PutPost T s.toList B w) := by
  obtain ⟨i0, hi, hz0, hz1, hz2⟩ := info_parts infoStr
  have hrow : SRow w A T := by
    obtain ⟨A', c', e, _, h⟩ := SRow.of_own hown
    injection e with e1 _ _
    subst e1
    exact h
  by_cases hin : s.toList ∈ T
  · have hp := Lib.hid (show putL T s.toList = T from by unfold putL; rw [if_pos hin])
    have hd : decide (s.toList ∈ T) = true := decide_eq_true hin
    clear hin
    go_enter Tryz.func80, Tryz.ntmps80
    go_wp2_with (go_at_call 46; refine (has A c T s _ (by omega) hrow).mono ?_; rintro e w' ⟨rfl, rfl⟩)
    go_ret
    exact ⟨_, rfl, by rw [hp.out]; exact hown, Below.refl _ _⟩
  · have hp := Lib.hid (show putL T s.toList = insAll T s.toList from by unfold putL; rw [if_neg hin])
    have hd : decide (s.toList ∈ T) = false := decide_eq_false hin
    clear hin
    go_enter Tryz.func80, Tryz.ntmps80
    go_wp2_with (go_at_call 46; refine (has A c T s _ (by omega) hrow).mono ?_; rintro e w' ⟨rfl, rfl⟩)
    go_loopw [5, 6, 15] (fun v d i wr => ∃ k : Nat, k ≤ T.length ∧ i = .int .i64 k ∧ d = .bool (insTo T s.toList k).2 ∧ wr.ownsRow w.heap.size 9 1 v (insTo T s.toList k).1.length ((insTo T s.toList k).1.map encStr) ∧ Below w.heap.size w wr) (fun _ _ i _ => T.length - (intOf i).toNat)
    case atStart => exact ⟨0, by omega, rfl, rfl, World.ownsRow_nil _ _ _ _, Below.refl _ _⟩
    case round =>
      obtain ⟨k, hk, rfl, rfl, hown1, hbel⟩ := hrel
      have hlen := (insTo_len T s.toList k hk).1
      by_cases hlt : k < T.length
      ·
        obtain ⟨g, off, rfl, hg, hcell⟩ := hrow (by omega)
        have hx := (hbel.cell (p := ⟨g, off + k, none⟩) hg).trans (hcell k hlt)
        clear hcell
        cases hD : (insTo T s.toList k).2
        · cases hl : Op.bytesLess s.toList T[k]
          · have hn := Lib.hid (ins_no hlt hD hl)
            go_wp2_with (at_builtin; refine wpList_append_own _ rfl (.tmp 30) (.tmp 32) 41 rfl w.heap.size 9 i0 (.string ⟨#[]⟩) 1 16 Tryz.underlying41 hi hz0 hz1 hz2 rfl (by decide) _ _ _ rfl (hown1.alloc _) ⟨wr.heap.size, 0, none⟩ 1 1 [.string ⟨T[k].toArray⟩] rfl rfl ?c1 ?c2 ?c3 ?c4 ?c5 ?_)
            case c1 => exact new_cell1 _ _ _
            case c2 => intro u hu; simp at hu; subst hu; rfl
            case c3 => unfold maxLen; first | omega | (simp; omega)
            case c4 => first | omega | (simp; omega)
            case c5 => have := hbel.size; simp; omega
            intro v2 w2 hown3 hgrow2 _
            have hbel3 := (hbel.alloc hbel.size _).grown hgrow2 (by have := hbel.size; simp; omega) (fun j hj => (hown1.lt j hj).1)
            have hown4 := own_app hown3 (show (insTo T s.toList (k + 1)).1 = _ ++ [T[k]] from by rw [hn.out])
            clear hown1 hown3 hbel hgrow2
            go_wp2_with fail
            go_roundw
            case rel => exact ⟨k + 1, by omega, by go_num, by rw [hn.out], hown4, hbel3⟩
            case measure => simp [intOf]; omega
          · have hn := Lib.hid (ins_put hlt hD hl)
            go_wp2_with (at_builtin; refine wpList_append_own _ rfl (.tmp 26) (.tmp 28) 41 rfl w.heap.size 9 i0 (.string ⟨#[]⟩) 1 16 Tryz.underlying41 hi hz0 hz1 hz2 rfl (by decide) _ _ _ rfl (hown1.alloc _) ⟨wr.heap.size, 0, none⟩ 1 1 [.string s] rfl rfl ?c1 ?c2 ?c3 ?c4 ?c5 ?_)
            case c1 => exact new_cell1 _ _ _
            case c2 => intro u hu; simp at hu; subst hu; rfl
            case c3 => unfold maxLen; first | omega | (simp; omega)
            case c4 => first | omega | (simp; omega)
            case c5 => have := hbel.size; simp; omega
            intro v1 w1 hown2 hgrow1 _
            have hbel2 := (hbel.alloc hbel.size _).grown hgrow1 (by have := hbel.size; simp; omega) (fun j hj => (hown1.lt j hj).1)
            rw [← enc_toList] at hown2
            have hown2 := own_app hown2 rfl
            clear hown1 hgrow1
            go_wp2_with (at_builtin; refine wpList_append_own _ rfl (.tmp 30) (.tmp 32) 41 rfl w.heap.size 9 i0 (.string ⟨#[]⟩) 1 16 Tryz.underlying41 hi hz0 hz1 hz2 rfl (by decide) _ _ _ rfl (hown2.alloc _) ⟨w1.heap.size, 0, none⟩ 1 1 [.string ⟨T[k].toArray⟩] rfl rfl ?c1 ?c2 ?c3 ?c4 ?c5 ?_)
            case c1 => exact new_cell1 _ _ _
            case c2 => intro u hu; simp at hu; subst hu; rfl
            case c3 => unfold maxLen; first | omega | (simp; omega)
            case c4 => first | omega | (simp; omega)
            case c5 => have := hbel2.size; simp; omega
            intro v2 w2 hown3 hgrow2 _
            have hbel3 := (hbel2.alloc hbel2.size _).grown hgrow2 (by have := hbel2.size; simp; omega) (fun j hj => (hown2.lt j hj).1)
            have hown4 := own_app2 hown3 (show (insTo T s.toList (k + 1)).1 = _ ++ [s.toList] ++ [T[k]] from by rw [hn.out])
            clear hown2 hown3 hbel hbel2 hgrow2
            go_wp2_with fail
            go_roundw
            case rel => exact ⟨k + 1, by omega, by go_num, by rw [hn.out], hown4, hbel3⟩
            case measure => simp [intOf]; omega
        · have hn := Lib.hid (ins_done hlt hD)
          go_wp2_with (at_builtin; refine wpList_append_own _ rfl (.tmp 30) (.tmp 32) 41 rfl w.heap.size 9 i0 (.string ⟨#[]⟩) 1 16 Tryz.underlying41 hi hz0 hz1 hz2 rfl (by decide) _ _ _ rfl (hown1.alloc _) ⟨wr.heap.size, 0, none⟩ 1 1 [.string ⟨T[k].toArray⟩] rfl rfl ?c1 ?c2 ?c3 ?c4 ?c5 ?_)
          case c1 => exact new_cell1 _ _ _
          case c2 => intro u hu; simp at hu; subst hu; rfl
          case c3 => unfold maxLen; first | omega | (simp; omega)
          case c4 => first | omega | (simp; omega)
          case c5 => have := hbel.size; simp; omega
          intro v2 w2 hown3 hgrow2 _
          have hbel3 := (hbel.alloc hbel.size _).grown hgrow2 (by have := hbel.size; simp; omega) (fun j hj => (hown1.lt j hj).1)
          have hown4 := own_app hown3 (show (insTo T s.toList (k + 1)).1 = _ ++ [T[k]] from by rw [hn.out])
          clear hown1 hown3 hbel hgrow2
          go_wp2_with fail
          go_roundw
          case rel => exact ⟨k + 1, by omega, by go_num, by rw [hn.out], hown4, hbel3⟩
          case measure => simp [intOf]; omega
      · have e : k = T.length := by omega
        subst e
        cases hD : (insTo T s.toList T.length).2
        · have hn := Lib.hid (show insAll T s.toList = (insTo T s.toList T.length).1 ++ [s.toList] from by unfold insAll; rw [if_neg (by rw [hD]; decide)])
          go_wp2_with (at_builtin; refine wpList_append_own _ rfl (.tmp 37) (.tmp 39) 41 rfl w.heap.size 9 i0 (.string ⟨#[]⟩) 1 16 Tryz.underlying41 hi hz0 hz1 hz2 rfl (by decide) _ _ _ rfl (hown1.alloc _) ⟨wr.heap.size, 0, none⟩ 1 1 [.string s] rfl rfl ?c1 ?c2 ?c3 ?c4 ?c5 ?_)
          case c1 => exact new_cell1 _ _ _
          case c2 => intro u hu; simp at hu; subst hu; rfl
          case c3 => unfold maxLen; first | omega | (simp; omega)
          case c4 => first | omega | (simp; omega)
          case c5 => have := hbel.size; simp; omega
          intro v1 w1 hown2 hgrow1 _
          have hbel2 := (hbel.alloc hbel.size _).grown hgrow1 (by have := hbel.size; simp; omega) (fun j hj => (hown1.lt j hj).1)
          rw [← enc_toList] at hown2
          have hown3 := own_app hown2 hn.out
          clear hown1 hown2 hgrow1 hbel
          go_wp2_with fail
          go_ret
          exact ⟨_, rfl, by rw [hp.out]; exact own_base hown3 hB, hbel2.mono hB⟩
        · have hn := Lib.hid (show insAll T s.toList = (insTo T s.toList T.length).1 from by unfold insAll; rw [if_pos hD])
          go_wp2_with fail
          go_ret
          exact ⟨_, rfl, by rw [hp.out, hn.out]; exact own_base hown1 hB, hbel.mono hB⟩
end Go.Proofs.YtcmdiomjhideiaaGreatDoor.Tab4
/- The document's own table and fresh texts: New, Dec, Fresh; what is light. -/
namespace Go.Proofs.YtcmdiomjhideiaaGreatDoor.Tab5
set_option linter.unusedVariables false
set_option linter.unusedSimpArgs false
open Go.RowKit Go.Sort Go.Proofs Go.Proofs.YtcmdiomjhideiaaGreatDoor.Plain Go.Proofs.YtcmdiomjhideiaaGreatDoor.Tab1 Go.Proofs.YtcmdiomjhideiaaGreatDoor.Tab2 Go.Proofs.YtcmdiomjhideiaaGreatDoor.Tab3 Go.Proofs.YtcmdiomjhideiaaGreatDoor.Tab4 Go.Proofs.YtcmdiomjhideiaaGreatDoor.TabP
def newTo (ls : List Str) (k : Nat) : List Str := (ls.take k).foldl putL []
theorem newTo_succ {ls : List Str} {k : Nat} (h : k < ls.length) : newTo ls (k + 1) = putL (newTo ls k) ls[k] := by
  unfold newTo
  rw [List.take_succ_eq_append_getElem h, List.foldl_append]
  rfl
theorem putL_len (T : List Str) (s : Str) : (putL T s).length ≤ T.length + 1 := by
  unfold putL
  split
  · omega
  · have h := insTo_len T s T.length (Nat.le_refl _)
    unfold insAll
    split
    · exact h.1
    · rename_i hd
      have := h.2 (by simpa using hd)
      simp; omega
theorem newTo_len (ls : List Str) (k : Nat) (h : k ≤ ls.length) : (newTo ls k).length ≤ k := by
  induction k with
  | zero => simp [newTo]
  | succ k ih =>
    rw [newTo_succ (by omega)]
    have := ih (by omega)
    have := putL_len (newTo ls k) ls[k]
    omega
structure Inv (T : List Str) (s : Str) (k : Nat) (a : List Str) (d : Bool) : Prop where
  up : a.Pairwise (· < ·)
  mem : ∀ x, x ∈ a ↔ x ∈ T.take k ∨ (d = true ∧ x = s)
  far : ∀ x ∈ a, ∀ j, (h : j < T.length) → k ≤ j → x < T[j]
  low : d = false → ∀ x ∈ a, x < s
theorem inv_step {T : List Str} {s : Str} (hT : T.Pairwise (· < ·)) (hs : s ∉ T) : ∀ k, k ≤ T.length → Inv T s k (insTo T s k).1 (insTo T s k).2 := by
  have hp := List.pairwise_iff_getElem.1 hT
  intro k
  induction k with
  | zero => intro _; exact ⟨by simp [insTo], by simp [insTo], by simp [insTo], by simp [insTo]⟩
  | succ k ih =>
    intro hk
    have h := ih (by omega)
    have hlt : k < T.length := by omega
    have htake : T.take (k + 1) = T.take k ++ [T[k]] := List.take_succ_eq_append_getElem hlt
    cases hd : (insTo T s k).2
    · have hlow := h.low hd
      by_cases hsx : s < T[k]
      · rw [ins_put hlt hd (by rw [bytesLess_eq]; exact decide_eq_true hsx)]
        refine ⟨?_, ?_, ?_, by simp⟩
        · rw [List.pairwise_append, List.pairwise_append]
          refine ⟨⟨h.up, by simp, fun x hx y hy => ?_⟩, by simp, fun x hx y hy => ?_⟩
          · rw [List.mem_singleton] at hy; subst hy; exact hlow x hx
          · rw [List.mem_singleton] at hy; subst hy
            rw [List.mem_append, List.mem_singleton] at hx
            rcases hx with hx | hx
            · exact h.far x hx k hlt (Nat.le_refl _)
            · subst hx; exact hsx
        · intro x
          rw [htake]
          have := h.mem x
          rw [hd] at this
          simp only [List.mem_append, List.mem_singleton] at *
          rw [this]
          simp
          constructor
          · rintro ((h | h) | h) <;> simp [h]
          · rintro ((h | h) | h) <;> simp [h]
        · intro x hx j hj hkj
          rw [List.mem_append, List.mem_append, List.mem_singleton, List.mem_singleton] at hx
          rcases hx with (hx | hx) | hx
          · exact h.far x hx j hj (by omega)
          · subst hx; exact List.lt_trans hsx (hp k j hlt hj (by omega))
          · subst hx; exact hp k j hlt hj (by omega)
      · rw [ins_no hlt hd (by rw [bytesLess_eq]; exact decide_eq_false hsx)]
        have hne : T[k] ≠ s := fun e => hs (by rw [← e]; exact List.getElem_mem _)
        have hxs : T[k] < s := Std.lt_of_le_of_ne (List.not_lt.1 hsx) hne
        refine ⟨?_, ?_, ?_, ?_⟩
        · rw [List.pairwise_append]
          refine ⟨h.up, by simp, fun x hx y hy => ?_⟩
          rw [List.mem_singleton] at hy; subst hy
          exact h.far x hx k hlt (Nat.le_refl _)
        · intro x
          rw [htake]
          have := h.mem x
          rw [hd] at this
          simp only [List.mem_append, List.mem_singleton] at *
          rw [this]
          simp
        · intro x hx j hj hkj
          rw [List.mem_append, List.mem_singleton] at hx
          rcases hx with hx | hx
          · exact h.far x hx j hj (by omega)
          · subst hx; exact hp k j hlt hj (by omega)
        · intro _ x hx
          rw [List.mem_append, List.mem_singleton] at hx
          rcases hx with hx | hx
          · exact hlow x hx
          · subst hx; exact hxs
    · rw [ins_done hlt hd]
      refine ⟨?_, ?_, ?_, by simp⟩
      · rw [List.pairwise_append]
        refine ⟨h.up, by simp, fun x hx y hy => ?_⟩
        rw [List.mem_singleton] at hy; subst hy
        exact h.far x hx k hlt (Nat.le_refl _)
      · intro x
        rw [htake]
        have := h.mem x
        rw [hd] at this
        simp only [List.mem_append, List.mem_singleton] at *
        rw [this]
        simp
        constructor
        · rintro ((h | h) | h) <;> simp [h]
        · rintro ((h | h) | h) <;> simp [h]
      · intro x hx j hj hkj
        rw [List.mem_append, List.mem_singleton] at hx
        rcases hx with hx | hx
        · exact h.far x hx j hj (by omega)
        · subst hx; exact hp k j hlt hj (by omega)
theorem putL_rising {T : List Str} {s : Str} (hT : T.Pairwise (· < ·)) : (putL T s).Pairwise (· < ·) ∧ ∀ x, x ∈ putL T s ↔ x ∈ T ∨ x = s := by
  unfold putL
  split
  · rename_i h
    refine ⟨hT, fun x => ⟨fun hx => .inl hx, ?_⟩⟩
    rintro (hx | hx)
    · exact hx
    · subst hx; exact h
  · rename_i hs
    have h := inv_step hT hs T.length (Nat.le_refl _)
    unfold insAll
    split
    · rename_i hd
      refine ⟨h.up, fun x => ?_⟩
      rw [h.mem, List.take_length, hd]
      simp
    · rename_i hd
      have hd' : (insTo T s T.length).2 = false := by simpa using hd
      refine ⟨?_, fun x => ?_⟩
      · rw [List.pairwise_append]
        refine ⟨h.up, by simp, fun x hx y hy => ?_⟩
        rw [List.mem_singleton] at hy; subst hy
        exact h.low hd' x hx
      · rw [List.mem_append, h.mem, List.take_length, hd']
        simp
theorem newTo_rising (ls : List Str) : ∀ k, k ≤ ls.length → (newTo ls k).Pairwise (· < ·) ∧ ∀ x, x ∈ newTo ls k ↔ x ∈ ls.take k := by
  intro k
  induction k with
  | zero => intro _; simp [newTo]
  | succ k ih =>
    intro hk
    obtain ⟨h1, h2⟩ := ih (by omega)
    rw [newTo_succ (by omega), List.take_succ_eq_append_getElem (by omega)]
    obtain ⟨h3, h4⟩ := putL_rising (s := ls[k]) h1
    refine ⟨h3, fun x => ?_⟩
    rw [h4, h2, List.mem_append, List.mem_singleton]
theorem newTo_tab (ls : List Str) : newTo ls ls.length = tab ls := by
  obtain ⟨h1, h2⟩ := newTo_rising ls ls.length (Nat.le_refl _)
  exact eq_of_rising h1 (tab_sorted ls) fun x => by rw [h2, List.take_length, mem_tab]
def RowPost (M : List Str) (w : World) (e : Ending) (w' : World) : Prop := ∃ v, e = .returned v ∧ w'.ownsRow w.heap.size 9 1 v M.length (M.map encStr) ∧ Below w.heap.size w w'
end Go.Proofs.YtcmdiomjhideiaaGreatDoor.Tab5
/- What is light; decimal numerals and fresh texts of the document. -/
namespace Go.Proofs.YtcmdiomjhideiaaGreatDoor.Tab6
set_option linter.unusedVariables false
set_option linter.unusedSimpArgs false
open Go.RowKit Go.Sort Go.Proofs Go.Proofs.YtcmdiomjhideiaaGreatDoor.Plain Go.Proofs.YtcmdiomjhideiaaGreatDoor.Tab1 Go.Proofs.YtcmdiomjhideiaaGreatDoor.Tab2 Go.Proofs.YtcmdiomjhideiaaGreatDoor.Tab3 Go.Proofs.YtcmdiomjhideiaaGreatDoor.Tab4 Go.Proofs.YtcmdiomjhideiaaGreatDoor.Tab5 Go.Proofs.YtcmdiomjhideiaaGreatDoor.TabP
def lightB (ls : List Str) : Bool := decide (ls.length ≤ 40) && ls.all fun s => decide (s.length ≤ 40)
theorem light (A : Option Addr) (c : Nat) (ls : List Str) (w : World) (hL : ls.length ≤ maxLen) (hw : ∀ s ∈ ls, s.length ≤ maxLen) (hA : SRow w A ls) :
    Calls Tryz.prog 106 #[.slice A ls.length c] w fun e w' => e = .returned (.bool (lightB ls)) ∧ w = w' := by
  unfold maxLen at hL
  by_cases h40 : ls.length ≤ 40
  · go_enter Tryz.func106, Tryz.ntmps106
    go_wp2
    go_loop [10] (fun i => ∃ k : Nat, k ≤ ls.length ∧ i = .int .i64 k ∧ Hid (∀ j, (h : j < ls.length) → j < k → ls[j].length ≤ 40)) (fun i => ls.length - (intOf i).toNat)
    case atStart => exact ⟨0, by omega, rfl, Lib.hid fun j _ h => by omega⟩
    case round =>
      obtain ⟨k, hk, rfl, hall⟩ := hrel
      by_cases hlt : k < ls.length
      · obtain ⟨g, off, rfl, hg, hcell⟩ := hA (by omega)
        have hx := hcell k hlt
        have hm := hw ls[k] (List.getElem_mem _)
        unfold maxLen at hm
        clear hcell
        by_cases h : ls[k].length ≤ 40
        · have hnext : Hid (∀ j, (h : j < ls.length) → j < k + 1 → ls[j].length ≤ 40) := Lib.hid fun j hj h2 => by
            by_cases e : j = k
            · subst e; exact h
            · exact hall.out j hj (by omega)
          clear hall
          go_wp2_with fail
          go_round
          case rel => exact ⟨k + 1, by omega, by go_num, hnext⟩
          case measure => simp [intOf]; omega
        · have hf : Hid (lightB ls = false) := Lib.hid (by
            unfold lightB
            have : (ls.all fun s => decide (s.length ≤ 40)) = false := by
              rw [List.all_eq_false]
              exact ⟨ls[k], List.getElem_mem _, by simpa using h⟩
            rw [this]; simp)
          clear hall
          go_wp2_with fail
          go_ret
          exact ⟨ret_bool hf.out.symm, rfl⟩
      · have hf : Hid (lightB ls = true) := Lib.hid (by
          unfold lightB
          have : (ls.all fun s => decide (s.length ≤ 40)) = true := by
            rw [List.all_eq_true]
            intro x hx
            obtain ⟨j, hj, rfl⟩ := List.getElem_of_mem hx
            exact decide_eq_true (hall.out j hj (by omega))
          rw [this, decide_eq_true h40]; rfl)
        clear hall
        go_wp2_with fail
        go_ret
        exact ⟨ret_bool hf.out.symm, rfl⟩
  · have hf : Hid (lightB ls = false) := Lib.hid (by unfold lightB; rw [decide_eq_false h40]; rfl)
    go_enter Tryz.func106, Tryz.ntmps106
    go_wp2
    go_ret
    exact ⟨ret_bool hf.out.symm, rfl⟩
end Go.Proofs.YtcmdiomjhideiaaGreatDoor.Tab6
/- A table's texts by place, all of them, and with more. -/
namespace Go.Proofs.YtcmdiomjhideiaaGreatDoor.Tab7
set_option linter.unusedVariables false
set_option linter.unusedSimpArgs false
open Go.RowKit Go.Sort Go.Proofs Go.Proofs.YtcmdiomjhideiaaGreatDoor.Plain Go.Proofs.YtcmdiomjhideiaaGreatDoor.Tab1 Go.Proofs.YtcmdiomjhideiaaGreatDoor.Tab2 Go.Proofs.YtcmdiomjhideiaaGreatDoor.Tab3 Go.Proofs.YtcmdiomjhideiaaGreatDoor.Tab4 Go.Proofs.YtcmdiomjhideiaaGreatDoor.Tab5 Go.Proofs.YtcmdiomjhideiaaGreatDoor.Tab6 Go.Proofs.YtcmdiomjhideiaaGreatDoor.TabP
section
variable {P : Program} (w : World)
theorem run_append_of_nil (base : Nat) (t ty e : TypeId) (i : TypeInfo) (size : Nat) (ht : P.underlying t = some (.slice e)) (hi : P.info? e = some i)
    (v : Value) (n : Nat) (xs : List Value) (hown : w.ownsRow base e size v n xs) (c : Nat) : (Builtin.append_ #[t, t] ty #[v, .slice none 0 c]).run P w = .ok v w := by
  rcases hown.2 with ⟨rfl, rfl⟩ | ⟨g, cap, cur, rfl, _, _, hnc, _⟩
  · simp [Builtin.append_, run_underlying ht, sizeOf, typeInfo, hi, Builtin.lenOf, Builtin.firstCells]
  · simp [Builtin.append_, run_underlying ht, sizeOf, typeInfo, hi, Builtin.lenOf, Builtin.firstCells, hnc, storeCells]
theorem add_off (b off j : Nat) : ((⟨b, off, none⟩ : Addr).add j) = ⟨b, off + j, none⟩ := by
  unfold Addr.add
  split
  · rename_i h; subst h; rfl
  · simp
/-- append of a slice of texts onto a row of the call's own. -/
theorem run_append_src (base : Nat) (t ty e : TypeId) (i : TypeInfo) (z : Value) (ht : P.underlying t = some (.slice e)) (hi : P.info? e = some i) (hz : i.zero = some z)
    (hsize : i.size = 1) (hby : i.bytes = 16) (hzs : z.cells.size = 1)
    (v : Value) (L : List Str) (hown : w.ownsRow base e 1 v L.length (L.map encStr)) (A : Option Addr) (c : Nat) (T : List Str) (hr : SRow w A T)
    (hbig : L.length + T.length ≤ 1000000) (hbase : base ≤ w.heap.size) :
    ∃ v' w', (Builtin.append_ #[t, t] ty #[v, .slice A T.length c]).run P w = .ok v' w' ∧ w'.ownsRow base e 1 v' (L ++ T).length ((L ++ T).map encStr) ∧ w.grownBy w' v.ownBlock := by
  rcases A with _ | ad
  · have hm : T = [] := by
      rcases Nat.eq_zero_or_pos T.length with h0 | h0
      · exact List.eq_nil_of_length_eq_zero h0
      · obtain ⟨_, _, h, _⟩ := hr h0
        cases h
    subst hm
    exact ⟨v, w, run_append_of_nil w base t ty e i 1 ht hi v _ _ hown c, by simpa using hown, World.grownBy.refl w _⟩
  · have hcells : ∀ j u, (T.map encStr)[j]? = some u → w.cell? (ad.add j) = some u := by
      intro j u hu
      have hj : j < T.length := by
        rcases Nat.lt_or_ge j T.length with h | h
        · exact h
        · rw [List.getElem?_eq_none (by simpa using h)] at hu; cases hu
      obtain ⟨b, off, h, _, hc⟩ := hr (by omega)
      injection h with h
      subst h
      rw [add_off, hc j hj, ← hu, List.getElem?_map, List.getElem?_eq_getElem hj]
      rfl
    obtain ⟨v', w', hrun, h2, h3, _⟩ := run_append_own (P := P) w base t ty e i z 1 16 ht hi hz hsize hby hzs (by decide) v L.length (L.map encStr) hown ad T.length c (T.map encStr) (by simp) hcells
      (fun u hu => by
        obtain ⟨x, _, rfl⟩ := List.mem_map.1 hu
        rfl) (by unfold maxLen; omega) (by omega) hbase
    exact ⟨v', w', hrun, by rw [List.length_append, List.map_append]; exact h2, h3⟩
theorem wpList_append_src {ops : Array Oper} {rest : List Oper} {o : Oper} {a : Act} {Q : Exit → Act → World → Prop} (hgd : o.guard = none) (s x : Operand) (t : TypeId)
    (ho : o.op = .call { callee := .builtin .append, args := #[s, x], argTypes := #[t, t] })
    (base : Nat) (e : TypeId) (i : TypeInfo) (z : Value) (ht : P.underlying t = some (.slice e)) (hi : P.info? e = some i) (hz : i.zero = some z)
    (hsize : i.size = 1) (hby : i.bytes = 16) (hzs : z.cells.size = 1)
    (v : Value) (L : List Str) (hs : a.eval s = v) (hown : w.ownsRow base e 1 v L.length (L.map encStr)) (A : Option Addr) (c : Nat) (T : List Str) (hx : a.eval x = .slice A T.length c) (hr : SRow w A T)
    (hbig : L.length + T.length ≤ 1000000) (hbase : base ≤ w.heap.size)
    (h : ∀ v' w', w'.ownsRow base e 1 v' (L ++ T).length ((L ++ T).map encStr) → w.grownBy w' v.ownBlock → wpList P ops Q rest (a.put o.dst v') w') : wpList P ops Q (o :: rest) a w := by
  obtain ⟨v', w', hrun, h2, h3⟩ := run_append_src (P := P) w base t o.type e i z ht hi hz hsize hby hzs v L hown A c T hr hbig hbase
  exact Lib.wpList_append_run w hgd s x t t ho v _ hs hx v' w' hrun (h v' w' h2 h3)
end
theorem at_in (t : Nat) (A : Option Addr) (T : List Str) (c k : Nat) (w : World) (h : w.cell? ⟨t, 0, none⟩ = some (.slice A T.length c)) (hT : T.length ≤ 1000000) (hr : SRow w A T) (hk : k < T.length) :
    Calls Tryz.prog 82 #[.pointer (some ⟨t, 0, none⟩), .int .i64 k] w fun e w' => e = .returned (.string ⟨T[k].toArray⟩) ∧ w = w' := by
  obtain ⟨g, off, rfl, hg, hc⟩ := hr (by omega)
  have hx := hc k hk
  clear hc
  go_enter Tryz.func82, Tryz.ntmps82
  go_wp2_with (go_at_call 76; refine (len _ _ _ _ _ h).mono ?_; rintro e w' ⟨rfl, rfl⟩)
  go_ret
  exact ⟨rfl, rfl⟩
theorem cloneC (A : Option Addr) (c : Nat) (T : List Str) (w : World) (hn : T.length ≤ 1000000) (h : SRow w A T) : Calls Tryz.prog 87 #[.slice A T.length c] w (RowPost T w) := by
  rcases A with _ | ad
  · have : T = [] := by
      cases T with
      | nil => rfl
      | cons a l => obtain ⟨_, _, e, _⟩ := h (by simp); cases e
    subst this
    refine (Tryz.slices_Clone_string_nil _ _ _).mono ?_
    rintro e w' ⟨rfl, rfl⟩
    exact ⟨_, rfl, World.ownsRow_nil _ _ _ _, Below.refl _ _⟩
  · by_cases h0 : 0 < T.length
    · obtain ⟨b, off, e, _, hc⟩ := h h0
      injection e with e
      subst e
      have := Tryz.slices_Clone_string b off T.length c (T.map enB) w (by simp) (by omega) (fun j hj => by
        rw [List.length_map] at hj
        rw [hc j hj, List.getD_eq_getElem?_getD, List.getElem?_map, List.getElem?_eq_getElem hj]; rfl)
      rw [List.take_of_length_le (by simp), map_enB] at this
      refine this.mono ?_
      rintro e w' ⟨v, rfl, h1, _, h2⟩
      exact ⟨v, rfl, h1, h2⟩
    · have : T = [] := List.eq_nil_of_length_eq_zero (by omega)
      subst this
      refine (Tryz.slices_Clone_string_zero ad c w).mono ?_
      rintro e w' ⟨v, rfl, h1, _, h2⟩
      exact ⟨v, rfl, h1, h2⟩
theorem all (t : Nat) (A : Option Addr) (T : List Str) (c : Nat) (w : World) (h : w.cell? ⟨t, 0, none⟩ = some (.slice A T.length c)) (hT : T.length ≤ 1000000) (hr : SRow w A T) :
    Calls Tryz.prog 27 #[.pointer (some ⟨t, 0, none⟩)] w (RowPost T w) := by
  go_enter Tryz.func27, Tryz.ntmps27
  go_wp2_with (first | (go_at_call 88; refine (kept _ _ _ h).mono ?_; rintro e w' ⟨rfl, rfl⟩) | (go_at_call 87; refine (cloneC A c T _ hT hr).mono ?_; rintro e w' ⟨v, rfl, h1, h2⟩))
  go_ret
  exact ⟨_, rfl, h1, h2⟩
set_option maxRecDepth 100000 in
theorem grow (n : Nat) (w : World) (hn : n ≤ 1000000) : Calls Tryz.prog 161 #[.slice none 0 0, .int .i64 n] w (RowPost [] w) := by
  obtain ⟨i0, hi, hz0, hz1, hz2⟩ := info_parts infoStr
  by_cases h0 : 0 < n
  · have hz : 0 < i0.size := by rw [hz1]; omega
    have hby : n * i0.bytes ≤ 281474976710656 := by rw [hz2]; omega
    have hrun := Lib.run_append_nil_zeros (P := Tryz.prog) w 41 3 41 9 i0 (.string ⟨#[]⟩) .i64 .i64 Tryz.underlying41 Tryz.underlying3 hi hz0 n h0 hz (by omega) hby
    have hg := grownCap_ge w n 0 9
    have hm := grownCap_le_maxLen w n 0 9 (by unfold maxLen; omega)
    have hm' := hm
    have hsz : (Builtin.zeroCells (Value.string ⟨#[]⟩).cells n ++ Builtin.zeroCells (Value.string ⟨#[]⟩).cells (grownCap w n 0 9 - n)).size = grownCap w n 0 9 * 1 := by
      rw [Array.size_append, size_zeroCells, size_zeroCells]
      show n * 1 + (grownCap w n 0 9 - n) * 1 = _
      omega
    generalize Builtin.zeroCells (Value.string ⟨#[]⟩).cells n ++ Builtin.zeroCells (Value.string ⟨#[]⟩).cells (grownCap w n 0 9 - n) = cells at *
    generalize grownCap w n 0 9 = gc at *
    have Hsz := Lib.hid hsz
    have Hm := Lib.hid hm'
    have Hrun := Lib.hid hrun
    clear hsz hz hby hm' hrun
    unfold maxLen at hm
    go_enter Tryz.func161, Tryz.ntmps161
    go_wp2_with (refine Lib.wpList_append_run (P := Tryz.prog) (o := ⟨some 22, _, _, _, _, _⟩) w rfl (.tmp 20) (.tmp 21) 41 3 rfl (.slice none 0 0) (.int .i64 n) ?hs ?hx (.slice (some ⟨w.heap.size, 0, none⟩) n gc) (w.drew.alloc (.cells cells 9)) (by exact Hrun.out) ?_)
    case hs => rfl
    case hx => rfl
    go_wp2
    go_ret
    exact ⟨_, rfl, World.ownsRow_made w.drew cells gc (Nat.le_refl _) Hm.out Hsz.out, (Below.refl _ _).drew.alloc (Nat.le_refl _) _⟩
  · have : n = 0 := by omega
    subst this
    go_enter Tryz.func161, Tryz.ntmps161
    go_wp2
    go_ret
    exact ⟨_, rfl, World.ownsRow_nil _ _ _ _, Below.refl _ _⟩
set_option maxHeartbeats 800000 in
set_option maxRecDepth 100000 in
theorem concat (b : Nat) (A1 A2 : Option Addr) (c1 c2 : Nat) (T1 T2 : List Str) (w : World) (h1 : T1.length ≤ 100000) (h2 : T2.length ≤ 100000) (hb : b < w.heap.size)
    (hc1 : w.cell? ⟨b, 0, none⟩ = some (.slice A1 T1.length c1)) (hc2 : w.cell? ⟨b, 1, none⟩ = some (.slice A2 T2.length c2)) (hr1 : SRow w A1 T1) (hr2 : SRow w A2 T2) :
    Calls Tryz.prog 123 #[.slice (some ⟨b, 0, none⟩) 2 2] w (RowPost (T1 ++ T2) w) := by
  obtain ⟨i0, hi, hz0, hz1, hz2⟩ := info_parts infoStr
  have HR1 := Lib.hid hr1
  have HR2 := Lib.hid hr2
  clear hr1 hr2
  go_enter Tryz.func123, Tryz.ntmps123
  go_wp2_with fail
  go_loop [3, 11] (fun s i => (s = .int .i64 0 ∧ i = .int .i64 0) ∨ (s = .int .i64 T1.length ∧ i = .int .i64 1) ∨ (s = .int .i64 ((T1.length + T2.length : Nat) : Int) ∧ i = .int .i64 2)) (fun _ i => 2 - (intOf i).toNat)
  case atStart => exact .inl ⟨rfl, rfl⟩
  case round =>
    rcases hrel with ⟨rfl, rfl⟩ | ⟨rfl, rfl⟩ | ⟨rfl, rfl⟩
    · go_wp2_with fail
      go_round
      case rel => exact .inr (.inl ⟨by simp, rfl⟩)
      case measure => simp [intOf]
    · go_wp2_with fail
      go_round
      case rel => exact .inr (.inr ⟨by simp, rfl⟩)
      case measure => simp [intOf]
    · go_wp2_with fail
      rw [← Int.natCast_add]
      refine (grow (T1.length + T2.length) w (by omega)).mono ?_
      rintro e w1 ⟨v1, rfl, hown1, hbel1⟩
      go_wp2_with fail
      go_loopw [6, 27] (fun v i wr => Below w.heap.size w wr ∧ ((wr.ownsRow w.heap.size 9 1 v ([] : List Str).length (([] : List Str).map encStr) ∧ i = .int .i64 0) ∨ (wr.ownsRow w.heap.size 9 1 v T1.length (T1.map encStr) ∧ i = .int .i64 1) ∨ (wr.ownsRow w.heap.size 9 1 v (T1 ++ T2).length ((T1 ++ T2).map encStr) ∧ i = .int .i64 2))) (fun _ i _ => 2 - (intOf i).toNat)
      case atStart => exact ⟨hbel1, .inl ⟨hown1, rfl⟩⟩
      case round =>
        obtain ⟨hbel, ⟨hown, rfl⟩ | ⟨hown, rfl⟩ | ⟨hown, rfl⟩⟩ := hrel
        · have d1 := (hbel.cell (p := ⟨b, 0, none⟩) hb).trans hc1
          have hr := HR1.out.keep hbel
          clear hown1 hbel1
          go_wp2_with (at_builtin; refine wpList_append_src _ rfl _ _ 41 rfl w.heap.size 9 i0 (.string ⟨#[]⟩) Tryz.underlying41 hi hz0 hz1 hz2 rfl _ [] rfl hown A1 c1 T1 rfl hr (by first | omega | (simp; omega)) hbel.size ?_)
          intro v2 w2 hown2 hgrow
          have hbel2 := hbel.grown hgrow hbel.size (fun k hk => (hown.lt k hk).1)
          clear hown hbel hgrow
          go_wp2_with fail
          go_roundw
          case rel => exact ⟨hbel2, .inr (.inl ⟨hown2, rfl⟩)⟩
          case measure => simp [intOf]
        · have d1 := (hbel.cell (p := ⟨b, 1, none⟩) hb).trans hc2
          have hr := HR2.out.keep hbel
          clear hown1 hbel1
          go_wp2_with (at_builtin; refine wpList_append_src _ rfl _ _ 41 rfl w.heap.size 9 i0 (.string ⟨#[]⟩) Tryz.underlying41 hi hz0 hz1 hz2 rfl _ T1 rfl hown A2 c2 T2 rfl hr (by first | omega | (simp; omega)) hbel.size ?_)
          intro v2 w2 hown2 hgrow
          have hbel2 := hbel.grown hgrow hbel.size (fun k hk => (hown.lt k hk).1)
          clear hown hbel hgrow
          go_wp2_with fail
          go_roundw
          case rel => exact ⟨hbel2, .inr (.inr ⟨by rw [List.length_append, List.map_append]; exact hown2, rfl⟩)⟩
          case measure => simp [intOf]
        · clear hown1 hbel1
          go_wp2_with fail
          go_ret
          exact ⟨_, rfl, hown, hbel⟩
abbrev NewPost' := NewPost
set_option maxRecDepth 100000 in
theorem with_row (p : Value) (A1 A2 : Option Addr) (c1 c2 : Nat) (T1 T2 : List Str) (w : World) (h1 : T1.length ≤ 100000) (h2 : T2.length ≤ 100000) (hr1 : SRow w A1 T1) (hr2 : SRow w A2 T2)
    (hkept : Calls Tryz.prog 88 #[p] w fun e w' => e = .returned (.slice A1 T1.length c1) ∧ w = w') :
    Calls Tryz.prog 142 #[p, .slice A2 T2.length c2] w (NewPost' (T1 ++ T2) w) := by
  have HK := Lib.hid hkept
  have HR1 := Lib.hid hr1
  have HR2 := Lib.hid hr2
  clear hkept hr1 hr2
  go_enter Tryz.func142, Tryz.ntmps142
  go_wp2_with (go_at_call 88; refine HK.out.mono ?_; rintro e w' ⟨rfl, rfl⟩)
  have hb := (Below.refl w.heap.size w).alloc (Nat.le_refl _) (.cells #[.slice A1 T1.length c1, .slice A2 T2.length c2] 41)
  have hcell : ∀ j, (w.alloc (.cells #[.slice A1 T1.length c1, .slice A2 T2.length c2] 41)).cell? ⟨w.heap.size, j, none⟩ = #[Value.slice A1 T1.length c1, Value.slice A2 T2.length c2][j]? := fun j => Lib.cell_of_heap (heap_alloc_new w _) j
  refine (concat w.heap.size A1 A2 c1 c2 T1 T2 _ h1 h2 (by simp) (hcell 0) (hcell 1) (HR1.out.keep hb) (HR2.out.keep hb)).mono ?_
  rintro e w1 ⟨v, rfl, hown, hb1⟩
  obtain ⟨A, c, rfl, _, hr⟩ := SRow.of_own hown
  have hbel := hb.trans (hb1.mono hb.size)
  clear hown hcell hb hb1
  have hlen : (T1 ++ T2).length ≤ 1000000 := by rw [List.length_append]; omega
  generalize T1 ++ T2 = T at *
  go_wp2_with (go_at_call 86; refine (new A c T _ hlen hr).mono ?_; rintro e w2 ⟨p2, rfl, ⟨t, v2, rfl, ht, hh, ho⟩, hb2⟩)
  go_ret
  exact ⟨_, rfl, ⟨t, v2, rfl, Nat.le_trans hbel.size ht, hh, own_base ho hbel.size⟩, hbel.trans (hb2.mono hbel.size)⟩
end Go.Proofs.YtcmdiomjhideiaaGreatDoor.Tab7
/- Rows of what fits tokens: closures over a word, or over a kind. -/
namespace Go.Proofs.YtcmdiomjhideiaaGreatDoor.Qry4
set_option linter.unusedVariables false
set_option linter.unusedSimpArgs false
open Go.RowKit Go.Sort Go.Proofs Go.Proofs.YtcmdiomjhideiaaGreatDoor.Plain Go.Proofs.YtcmdiomjhideiaaGreatDoor.SynP Go.Proofs.YtcmdiomjhideiaaGreatDoor.TabP Go.Proofs.YtcmdiomjhideiaaGreatDoor.Tab1 Go.Proofs.YtcmdiomjhideiaaGreatDoor.Grown Go.Proofs.YtcmdiomjhideiaaGreatDoor.SynA Go.Proofs.YtcmdiomjhideiaaGreatDoor.QryP
set_option linter.unusedVariables false
set_option linter.unusedSimpArgs false
inductive Ft where
  | word (s : Str)
  | kind (k : Int)
/-- A token that may stand there. -/
def Ft.fits (t : Tk) : Ft → Bool
  | .word s => decide (t.kind = 2) && decide (t.text = ⟨s.toArray⟩)
  | .kind k => decide (t.kind = k)
end Go.Proofs.YtcmdiomjhideiaaGreatDoor.Qry4
