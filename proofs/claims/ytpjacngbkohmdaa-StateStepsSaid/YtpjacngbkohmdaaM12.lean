/- A row of roles: those of a statement, and whether two rows are the very same. -/
import Derived.Test.YtpjacngbkohmdaaM11
import Derived.Test.YtpjacngbkohmdaaM09
import Derived.Test.YtpjacngbkohmdaaM02
import Derived.Test.YtpjacngbkohmdaaM05
import Derived.Test.YtpjacngbkohmdaaM01
import Derived.Lib.SlicesCompact
import Derived.Lib.RowBridge
import Derived.Lib.ItoaNum
import Derived.Test.YtpjacngbkohmdaaShelf
import Derived.Lib.OwnBridge
import Derived.Sort.OwnSorted
import Derived.OwnWalk
import Derived.Lib.Builder
import Derived.WalkSmall
import Derived.Test.YtpjacngbkohmdaaM03
import Derived.Deep.QuietTactic
import Derived.BigQuiet
import Derived.WalkLawsBesides
import Derived.Sort.Walk0
import Derived.IntWalk
import Derived.Lib.ItoaLen
import Derived.Laws.BytesArg
namespace Go.Proofs.Ytpjacngbkohmdaa.SynJ
set_option linter.unusedVariables false
set_option linter.unusedSimpArgs false
open Go.RowKit Go.Sort Go.Proofs Go.Proofs.Ytpjacngbkohmdaa.Plain Go.Proofs.Ytpjacngbkohmdaa.SynP Go.Proofs.Ytpjacngbkohmdaa.Grown Go.Proofs.Ytpjacngbkohmdaa.SynE Go.Proofs.Ytpjacngbkohmdaa.Syn4
set_option linter.unusedVariables false
set_option linter.unusedSimpArgs false
theorem infoRole : (Try.prog.info? 24).map (fun i => (i.zero, i.size, i.bytes)) = some (some (.agg #[.string ⟨#[]⟩, .string ⟨#[]⟩]), 2, 32) := by kernel_rfl
def rcells (l : List Rl) : List Value := (l.map fun r => [Value.string r.owner, Value.string r.name]).flatten
/-- A slice value that reads as roles. -/
def RAt (w : World) (A : Option Addr) (l : List Rl) : Prop := 0 < l.length → ∃ g, A = some ⟨g, 0, none⟩ ∧ g < w.heap.size ∧ ∀ j, (h : j < l.length) → w.cell? ⟨g, j * 2, none⟩ = some (.string l[j].owner) ∧ w.cell? ⟨g, j * 2 + 1, none⟩ = some (.string l[j].name)
theorem RAt.below {w w' : World} {A : Option Addr} {l : List Rl} (h : RAt w A l) (hb : RowKit.Below w.heap.size w w') : RAt w' A l := fun hp => by
  obtain ⟨g, hA, hg, hc⟩ := h hp
  refine ⟨g, hA, Nat.lt_of_lt_of_le hg hb.size, fun j hj => ?_⟩
  obtain ⟨a, b⟩ := hc j hj
  exact ⟨(hb.cell (p := ⟨g, j * 2, none⟩) hg).trans a, (hb.cell (p := ⟨g, j * 2 + 1, none⟩) hg).trans b⟩
theorem rcells_at (L : List Rl) (j : Nat) (h : j < L.length) : (rcells L)[j * 2]? = some (.string L[j].owner) ∧ (rcells L)[j * 2 + 1]? = some (.string L[j].name) := by
  induction L generalizing j with
  | nil => simp at h
  | cons t L ih =>
    have e : rcells (t :: L) = [Value.string t.owner, Value.string t.name] ++ rcells L := by unfold rcells; simp
    rw [e]
    cases j with
    | zero => exact ⟨rfl, rfl⟩
    | succ j =>
      obtain ⟨a, b⟩ := ih j (by simpa using h)
      refine ⟨?_, ?_⟩ <;> rw [List.getElem?_append_right (by simp; omega)]
      · rw [show (j + 1) * 2 - [Value.string t.owner, Value.string t.name].length = j * 2 from by simp; omega]; exact a
      · rw [show (j + 1) * 2 + 1 - [Value.string t.owner, Value.string t.name].length = j * 2 + 1 from by simp; omega]; exact b
theorem rat_own {w : World} {B : Nat} {e : TypeId} {v : Value} {L : List Rl} (h : w.ownsRow B e 2 v L.length (rcells L)) : ∃ A cap, v = .slice A L.length cap ∧ RAt w A L := by
  rcases h.2 with ⟨rfl, h0⟩ | ⟨g, cap, cur, rfl, hB, hh, hc, hm, hs, ht⟩
  · exact ⟨none, 0, by rw [h0], fun hp => by omega⟩
  · refine ⟨_, _, rfl, fun hp => ⟨g, rfl, (h.lt g rfl).2, fun j hj => ?_⟩⟩
    obtain ⟨a, b⟩ := rcells_at L j hj
    rw [← ht] at a b
    rw [List.getElem?_take_of_lt (by omega)] at a b
    refine ⟨?_, ?_⟩ <;> rw [Lib.cell_of_heap hh]
    · rw [← Array.getElem?_toList]; exact a
    · rw [← Array.getElem?_toList]; exact b
theorem rat_new (w : World) (L : List Rl) (t : TypeId) : RAt (w.alloc (.cells (rcells L).toArray t)) (some ⟨w.heap.size, 0, none⟩) L := fun _ =>
  ⟨w.heap.size, rfl, by simp, fun j hj => by
    obtain ⟨a, b⟩ := rcells_at L j hj
    exact ⟨by rw [Lib.cell_of_heap (heap_alloc_new w _), List.getElem?_toArray]; exact a, by rw [Lib.cell_of_heap (heap_alloc_new w _), List.getElem?_toArray]; exact b⟩⟩
set_option maxRecDepth 100000 in
theorem sameRoles (A B : Option Addr) (ca cb : Nat) (L : List Rl) (w : World) (hL : L.length ≤ 1000) (hA : RAt w A L) (hB : RAt w B L) :
    Calls Try.prog 52 #[.slice A L.length ca, .slice B L.length cb] w fun e w' => e = .returned (.bool true) ∧ RowKit.Below w.heap.size w w' := by
  go_enter Try.func52, Try.ntmps52
  go_wp2
  go_loopw [13] (fun i wr => ∃ k : Nat, k ≤ L.length ∧ i = .int .i64 k ∧ ∃ n, wr = w.drewN n) (fun i _ => L.length - (intOf i).toNat)
  case atStart => exact ⟨0, by omega, rfl, 0, rfl⟩
  case round =>
    obtain ⟨k, hk, rfl, n, rfl⟩ := hrel
    by_cases hlt : k < L.length
    · obtain ⟨g1, rfl, _, h1⟩ := hA (by omega)
      obtain ⟨g2, rfl, _, h2⟩ := hB (by omega)
      obtain ⟨a1, b1⟩ := h1 k hlt
      obtain ⟨a2, b2⟩ := h2 k hlt
      have p1 : (0 : Int) ≤ k := by omega
      have p2 : (k : Int) < L.length := by omega
      have hq := fun w => neR L[k].owner L[k].name L[k].owner L[k].name w
      rw [decide_eq_true rfl] at hq
      clear h1 h2 hA hB
      go_wp2_with fail
      go_quiet (fail)
      go_wp2_with fail
      go_roundw
      case rel => exact ⟨k + 1, by omega, by go_num, _, rfl⟩
      case measure => simp [intOf]; omega
    · go_wp2_with fail
      go_ret
      exact ⟨rfl, below_drewN (Below.refl _ _) _⟩
/-- The roles of a statement: its head, and what its body names. -/
def rolesL (s : St) : List Rl := if s.kind = 2 ∨ s.kind = 3 then [s.head, s.a] else if s.kind = 4 then [s.head, s.a, s.b] else [s.head]
def RolesPost (s : St) (w : World) (e : Ending) (w' : World) : Prop := ∃ A, e = .returned (.slice A (rolesL s).length (rolesL s).length) ∧ RAt w' A (rolesL s) ∧ Grew w w'
end Go.Proofs.Ytpjacngbkohmdaa.SynJ
/- Rows of roles: their cells, a copy, how they stand, what sorting and compacting leaves. -/
namespace Go.Proofs.Ytpjacngbkohmdaa.PolA
set_option linter.unusedVariables false
set_option linter.unusedSimpArgs false
open Go.RowKit Go.Sort Go.Lib Go.Proofs Go.Proofs.Ytpjacngbkohmdaa.Plain Go.Proofs.Ytpjacngbkohmdaa.SynP Go.Proofs.Ytpjacngbkohmdaa.Grown Go.Proofs.Ytpjacngbkohmdaa.SynE Go.Proofs.Ytpjacngbkohmdaa.SynC Go.Proofs.Ytpjacngbkohmdaa.SynD Go.Proofs.Ytpjacngbkohmdaa.SynD7 Go.Proofs.Ytpjacngbkohmdaa.Syn2 Go.Proofs.Ytpjacngbkohmdaa.SynJ
set_option linter.unusedVariables false
set_option linter.unusedSimpArgs false
instance : Inhabited Rl := ⟨zeroR⟩
def Rl.cells (r : Rl) : List Value := [.string r.owner, .string r.name]
theorem len2 (r : Rl) : (Rl.cells r).length = 2 := rfl
theorem rcells_cons (t : Rl) (L : List Rl) : rcells (t :: L) = Rl.cells t ++ rcells L := by unfold rcells; simp [Rl.cells]
theorem rcells_app (L K : List Rl) : rcells (L ++ K) = rcells L ++ rcells K := by unfold rcells; simp
theorem rcells_len (L : List Rl) : (rcells L).length = L.length * 2 := by
  induction L with
  | nil => rfl
  | cons t L ih => rw [rcells_cons, List.length_append, ih, List.length_cons, Nat.succ_mul]; show 2 + _ = _; omega
theorem rcells_one (L : List Rl) : ∀ u ∈ rcells L, u.oneCell' = true := by
  intro u hu
  unfold rcells at hu
  rw [List.mem_flatten] at hu
  obtain ⟨l, hl, hu⟩ := hu
  obtain ⟨t, _, rfl⟩ := List.mem_map.1 hl
  simp at hu
  rcases hu with rfl | rfl <;> rfl
theorem rcells_get (L : List Rl) (j k : Nat) (h : j < L.length) (hk : k < 2) : (rcells L)[j * 2 + k]? = (Rl.cells L[j])[k]? := by
  obtain ⟨a, b⟩ := rcells_at L j h
  match k, hk with
  | 0, _ => exact a
  | 1, _ => exact b
/-- A slice value that reads as roles, wherever it lies. -/
def RG (w : World) (A : Option Addr) (L : List Rl) : Prop :=
  0 < L.length → ∃ g o, A = some ⟨g, o, none⟩ ∧ g < w.heap.size ∧ ∀ j, (h : j < L.length) → w.cell? ⟨g, o + j * 2, none⟩ = some (.string L[j].owner) ∧ w.cell? ⟨g, o + j * 2 + 1, none⟩ = some (.string L[j].name)
theorem RG.below {w w' : World} {A : Option Addr} {L : List Rl} (h : RG w A L) (hb : RowKit.Below w.heap.size w w') : RG w' A L := fun hp => by
  obtain ⟨g, o, hA, hg, hc⟩ := h hp
  refine ⟨g, o, hA, Nat.lt_of_lt_of_le hg hb.size, fun j hj => ?_⟩
  obtain ⟨a, b⟩ := hc j hj
  exact ⟨(hb.cell (p := ⟨g, o + j * 2, none⟩) hg).trans a, (hb.cell (p := ⟨g, o + j * 2 + 1, none⟩) hg).trans b⟩
theorem RG.of_rat {w : World} {A : Option Addr} {L : List Rl} (h : RAt w A L) : RG w A L := fun hp => by
  obtain ⟨g, hA, hg, hc⟩ := h hp
  exact ⟨g, 0, hA, hg, fun j hj => by simpa only [Nat.zero_add] using hc j hj⟩
theorem rg_none {w : World} {l : List Rl} (h : RG w none l) : l = [] := by
  cases l with
  | nil => rfl
  | cons t l => obtain ⟨g, o, e, _⟩ := h (by simp); cases e
theorem rg_cells {w : World} {A : Option Addr} {L : List Rl} (h : RG w A L) : ∀ ad, A = some ad → ∀ j u, (rcells L)[j]? = some u → w.cell? (ad.add j) = some u := by
  rintro ad rfl j u hu
  have hj : j < L.length * 2 := by
    rw [← rcells_len]
    rcases Nat.lt_or_ge j (rcells L).length with h | h
    · exact h
    · rw [List.getElem?_eq_none h] at hu; cases hu
  obtain ⟨g, o, e, hg, hc⟩ := h (by omega)
  injection e with e
  subst e
  obtain ⟨a, b⟩ := hc (j / 2) (by omega)
  obtain ⟨p, q⟩ := rcells_at L (j / 2) (by omega)
  rw [add_off]
  rcases (by omega : j = j / 2 * 2 ∨ j = j / 2 * 2 + 1) with e | e
  · rw [← e] at a p; rw [a, ← p, hu]
  · rw [Nat.add_assoc, ← e] at b; rw [← e] at q; rw [b, ← q, hu]
def CloneRPost (L : List Rl) (w : World) (e : Ending) (w' : World) : Prop := ∃ v, e = .returned v ∧ w'.ownsRow w.heap.size 24 2 v L.length (rcells L) ∧ RowKit.Below w.heap.size w w'
/-- A row that holds roles, with its length and room. -/
theorem rholds_own {w : World} {B : Nat} {e : TypeId} {v : Value} {L : List Rl} (h : w.ownsRow B e 2 v L.length (rcells L)) : (L = [] ∧ v = .slice none 0 0) ∨ ∃ g cap, v = .slice (some ⟨g, 0, none⟩) L.length cap ∧ L.length ≤ cap ∧ B ≤ g ∧ g < w.heap.size ∧ HoldsK Rl.cells 2 w g 0 L.toArray := by
  rcases h.2 with ⟨rfl, h0⟩ | ⟨g, cap, cur, rfl, hB, hh, hc, hm, hs, ht⟩
  · exact .inl ⟨List.eq_nil_of_length_eq_zero h0, rfl⟩
  · refine .inr ⟨g, cap, rfl, hc, hB, (h.lt g rfl).2, fun t ht' => ?_⟩
    rw [size_flatK] at ht'
    have ht2 : t < L.length * 2 := by simpa using ht'
    have q : (rcells L)[t]? = some ((flatK Rl.cells 2 L.toArray)[t]!) := by
      rw [get_flatK _ _ _ _ ht']
      have hj : t / 2 < L.length := by omega
      have := rcells_get L (t / 2) (t % 2) hj (by omega)
      rw [show t / 2 * 2 + t % 2 = t by omega] at this
      rw [this, getElem!_pos L.toArray (t / 2) (by simpa using hj), List.getElem_toArray, getElem!_pos _ (t % 2) (by rw [len2]; omega), ← List.getElem?_eq_getElem]
    refine ⟨?_, ?_⟩
    · rw [← ht, List.getElem?_take_of_lt (by omega)] at q
      rw [Nat.zero_add, Lib.cell_of_heap hh, ← Array.getElem?_toList]
      exact q
    · simp [World.frozen?, hh]
theorem RAt.of_holds {w : World} {blk : Nat} {d : Array Rl} (h : HoldsK Rl.cells 2 w blk 0 d) (R : List Rl) (hR : R.length ≤ d.size) (he : ∀ j, (hj : j < R.length) → R[j] = d[j]!) : RAt w (some ⟨blk, 0, none⟩) R := fun hp => by
  refine ⟨blk, rfl, ?_, fun j hj => ?_⟩
  · have := (HoldsK.cell h (i := 0) (c := 0) (by omega) (by omega)).1
    unfold World.cell? at this
    rcases Nat.lt_or_ge blk w.heap.size with hb | hb
    · exact hb
    · simp [Array.getElem?_eq_none hb] at this
  · have key : ∀ c u, c < 2 → (Rl.cells R[j])[c]? = some u → w.cell? ⟨blk, j * 2 + c, none⟩ = some u := fun c u hc hu => by
      have q := (HoldsK.cell h (i := j) (c := c) (by omega) hc).1
      rw [← he j hj, Nat.zero_add] at q
      rw [q, getElem!_pos _ _ (by rw [len2]; exact hc), ← List.getElem?_eq_getElem, hu]
    exact ⟨key 0 _ (by omega) rfl, key 1 _ (by omega) rfl⟩
theorem inv_lowR {d dk : Array Rl} {m k : Nat} (h : CompInv d m k dk) (hm : (compactUpTo d m) = compactUpTo d d.size) (hk : k ≤ d.size) : ∀ j, (hj : j < (compactUpTo d d.size).length) → (compactUpTo d d.size)[j] = dk[j]! := fun j hj => by
  have q := h.low j (by rw [← h.len, hm]; exact hj)
  rw [hm, List.getElem?_eq_getElem hj] at q
  exact Option.some.inj q
theorem swo_R : SWO (ltOf cmpR) := swo_of tri_R
theorem sorted_oneR {d d' : Array Rl} (hp : PermIn 0 d.size d d') (hs : SortedIn (ltOf cmpR) 0 d.size d') : compL cmpR d'.toList = sortL cmpR [] d.toList := by
  obtain ⟨hz, _, hp⟩ := hp
  refine sorts_one tri_R (fun _ _ h => eqR h) ?_ ?_
  · rwa [show d'.extract 0 d.size = d' by rw [← hz]; simp, show d.extract 0 d.size = d by simp] at hp
  · rw [List.pairwise_iff_getElem]
    intro i j hi hj hij
    rw [Array.length_toList] at hi hj
    have q := of_decide_eq_false (hs i j (Nat.zero_le _) hij (by omega))
    rwa [getElem!_pos d' i hi, getElem!_pos d' j hj] at q
theorem cmpR_eq (x y : Rl) : cmpR x y = 0 ↔ x = y := ⟨eqR, fun h => by rw [h]; exact tri_R.same y⟩
/-- What the library's sort and then its Compact leave is what the document's way makes. -/
theorem sorted_upR {d d' : Array Rl} (hp : PermIn 0 d.size d d') (hs : SortedIn (ltOf cmpR) 0 d.size d') : compactUpTo d' d'.size = sortL cmpR [] d.toList := by
  rw [← comp_all cmpR_eq]
  exact sorted_oneR hp hs
end Go.Proofs.Ytpjacngbkohmdaa.PolA
/- Plain mathematics of tables: texts in order, each once; decimal numerals; which texts are fresh. -/
namespace Go.Proofs.Ytpjacngbkohmdaa.TabP
set_option linter.unusedVariables false
set_option linter.unusedSimpArgs false
abbrev Str := List UInt8
def srt (ls : List Str) : List Str := ls.mergeSort fun x y => decide (x ≤ y)
/-- The texts in order, each once. -/
def tab (ls : List Str) : List Str := Lib.compact (srt ls)
theorem srt_sorted (ls : List Str) : (srt ls).Pairwise (· ≤ ·) := by
  have h := List.pairwise_mergeSort (le := fun x y : Str => decide (x ≤ y)) (fun a b c h1 h2 => by
    simp only [decide_eq_true_iff] at *
    exact List.le_trans h1 h2) (fun a b => by
    simp only [Bool.or_eq_true, decide_eq_true_iff]
    exact List.le_total a b) ls
  exact h.imp (fun h => by simpa using h)
theorem compact_facts (d : Array Str) (hs : ∀ i j, i ≤ j → j < d.size → d[i]! ≤ d[j]!) : ∀ m, m ≤ d.size →
    (Lib.compactUpTo d m).Pairwise (· < ·) ∧ (∀ x, x ∈ Lib.compactUpTo d m ↔ ∃ j, j < m ∧ d[j]! = x) := by
  intro m
  induction m with
  | zero => intro _; simp [Lib.compactUpTo]
  | succ m ih =>
    intro hm
    obtain ⟨h1, h2⟩ := ih (by omega)
    rw [Lib.compactUpTo_succ]
    cases hk : Lib.keeps d m
    · rw [if_neg (by decide), List.append_nil]
      refine ⟨h1, fun x => ?_⟩
      rw [h2]
      have hk' : ¬ (m = 0 ∨ d[m]! ≠ d[m - 1]!) := by simpa [Lib.keeps] using hk
      constructor
      · rintro ⟨j, hj, e⟩; exact ⟨j, by omega, e⟩
      · rintro ⟨j, hj, e⟩
        by_cases hjm : j = m
        · subst hjm
          have he : d[j]! = d[j - 1]! := by
            rcases Classical.em (d[j]! = d[j - 1]!) with h | h
            · exact h
            · exact absurd (Or.inr h) hk'
          exact ⟨j - 1, by omega, by rw [← he]; exact e⟩
        · exact ⟨j, by omega, e⟩
    · rw [if_pos rfl]
      have hk' : m = 0 ∨ d[m]! ≠ d[m - 1]! := by simpa [Lib.keeps] using hk
      refine ⟨?_, fun x => ?_⟩
      · rw [List.pairwise_append]
        refine ⟨h1, by simp, fun x hx y hy => ?_⟩
        obtain ⟨j, hj, rfl⟩ := (h2 x).1 hx
        have : y = d[m]! := by simpa using hy
        subst this
        have hne : d[m]! ≠ d[m - 1]! := by
          rcases hk' with h | h
          · omega
          · exact h
        exact Std.lt_of_le_of_lt (hs j (m - 1) (by omega) (by omega)) (Std.lt_of_le_of_ne (hs (m - 1) m (by omega) (by omega)) (Ne.symm hne))
      · rw [List.mem_append, h2, List.mem_singleton]
        constructor
        · rintro (⟨j, hj, e⟩ | e)
          · exact ⟨j, by omega, e⟩
          · exact ⟨m, by omega, e.symm⟩
        · rintro ⟨j, hj, e⟩
          by_cases hjm : j = m
          · subst hjm; exact .inr e.symm
          · exact .inl ⟨j, by omega, e⟩
theorem get_srt (ls : List Str) : ∀ i j, i ≤ j → j < (srt ls).toArray.size → (srt ls).toArray[i]! ≤ (srt ls).toArray[j]! := by
  intro i j hij hj
  have hj' : j < (srt ls).length := by simpa using hj
  have hi' : i < (srt ls).length := by omega
  have e1 : (srt ls).toArray[i]! = (srt ls)[i] := by simp [hi']
  have e2 : (srt ls).toArray[j]! = (srt ls)[j] := by simp [hj']
  rw [e1, e2]
  rcases Nat.lt_or_ge i j with h | h
  · exact List.pairwise_iff_getElem.1 (srt_sorted ls) i j hi' hj' h
  · have : i = j := by omega
    subst this
    exact List.le_refl _
theorem tab_sorted (ls : List Str) : (tab ls).Pairwise (· < ·) := (compact_facts _ (get_srt ls) _ (by simp)).1
theorem mem_tab (ls : List Str) (x : Str) : x ∈ tab ls ↔ x ∈ ls := by
  have h := (compact_facts _ (get_srt ls) (srt ls).length (by simp)).2 x
  have h2 : x ∈ srt ls ↔ x ∈ ls := (List.mergeSort_perm ls _).mem_iff
  show x ∈ Lib.compactUpTo (srt ls).toArray (srt ls).length ↔ _
  rw [h, ← h2]
  constructor
  · rintro ⟨j, hj, e⟩
    rw [← e]
    have e1 : (srt ls).toArray[j]! = (srt ls)[j] := by simp [hj]
    rw [e1]
    exact List.getElem_mem _
  · intro hx
    obtain ⟨j, hj, e⟩ := List.getElem_of_mem hx
    exact ⟨j, hj, by rw [← e]; simp [hj]⟩
/-- Two rows that rise and have the same texts are one. -/
theorem eq_of_rising : ∀ {a b : List Str}, a.Pairwise (· < ·) → b.Pairwise (· < ·) → (∀ x, x ∈ a ↔ x ∈ b) → a = b
  | [], [], _, _, _ => rfl
  | [], y :: b, _, _, h => by have := (h y).2 (by simp); simp at this
  | x :: a, [], _, _, h => by have := (h x).1 (by simp); simp at this
  | x :: a, y :: b, ha, hb, h => by
    rw [List.pairwise_cons] at ha hb
    have e : x = y := by
      have h1 := (h x).1 (by simp)
      have h2 := (h y).2 (by simp)
      rw [List.mem_cons] at h1 h2
      rcases h1 with h1 | h1
      · exact h1
      · rcases h2 with h2 | h2
        · exact h2.symm
        · exact absurd (List.lt_trans (hb.1 x h1) (ha.1 y h2)) (List.lt_irrefl _)
    subst e
    rw [eq_of_rising ha.2 hb.2 fun z => ?_]
    have hz := h z
    rw [List.mem_cons, List.mem_cons] at hz
    constructor
    · intro hm
      rcases hz.1 (.inr hm) with e | e
      · subst e; exact absurd (ha.1 z hm) (List.lt_irrefl _)
      · exact e
    · intro hm
      rcases hz.2 (.inr hm) with e | e
      · subst e; exact absurd (hb.1 z hm) (List.lt_irrefl _)
      · exact e
theorem tab_len_le (ls : List Str) : (tab ls).length ≤ ls.length := by
  have h := Lib.compact_length_le (srt ls)
  have h2 : (srt ls).length = ls.length := List.length_mergeSort ..
  unfold tab
  omega
theorem nodup_of_rising {T : List Str} (h : T.Pairwise (· < ·)) : T.Nodup := h.imp fun hab e => by subst e; exact List.lt_irrefl _ hab
/-- The k-th text that may be fresh. -/
def xs (k : Nat) : Str := 88 :: Lib.decDigits k
def numOf : Str → Nat := List.foldl (fun a c => a * 10 + (c.toNat - 48)) 0
theorem numOf_snoc (l : Str) (c : UInt8) : numOf (l ++ [c]) = numOf l * 10 + (c.toNat - 48) := by unfold numOf; rw [List.foldl_append]; rfl
theorem digit_toNat (u : Nat) (h : u < 10) : (UInt8.ofNat (48 + u)).toNat = 48 + u := by
  rw [UInt8.toNat_ofNat']
  omega
theorem numOf_dec (u : Nat) : numOf (Lib.decDigits u) = u := by
  induction u using Nat.strongRecOn with
  | ind u ih =>
    rw [Lib.decDigits]
    split
    · rename_i h
      show 0 * 10 + ((UInt8.ofNat (48 + u)).toNat - 48) = u
      rw [digit_toNat u h]; omega
    · rename_i h
      rw [numOf_snoc, ih (u / 10) (by omega), digit_toNat _ (Nat.mod_lt _ (by omega))]
      omega
theorem xs_inj {a b : Nat} (h : xs a = xs b) : a = b := by
  unfold xs at h
  injection h with _ h
  have := congrArg numOf h
  rwa [numOf_dec, numOf_dec] at this
/-- The fresh texts among the first m. -/
def fr (T : List Str) (n : Int) : Nat → List Str
  | 0 => []
  | m + 1 => let out := fr T n m; if (out.length : Int) < n ∧ out.length < 1000 ∧ xs (m + 1) ∉ T then out ++ [xs (m + 1)] else out
theorem fr_add {T : List Str} {n : Int} {m : Nat} (h1 : ((fr T n m).length : Int) < n) (h2 : (fr T n m).length < 1000) (h3 : xs (m + 1) ∉ T) : fr T n (m + 1) = fr T n m ++ [xs (m + 1)] := by
  show (if _ then _ else _) = _
  rw [if_pos ⟨h1, h2, h3⟩]
theorem fr_not {T : List Str} {n : Int} {m : Nat} (h : ¬ (((fr T n m).length : Int) < n ∧ (fr T n m).length < 1000 ∧ xs (m + 1) ∉ T)) : fr T n (m + 1) = fr T n m := by
  show (if _ then _ else _) = _
  rw [if_neg h]
theorem fr_done {T : List Str} {n : Int} {m : Nat} (h : ¬ (((fr T n m).length : Int) < n ∧ (fr T n m).length < 1000)) : ∀ j, fr T n (m + j) = fr T n m
  | 0 => rfl
  | j + 1 => by
    rw [show m + (j + 1) = (m + j) + 1 from rfl, fr_not (by rw [fr_done h j]; exact fun h2 => h ⟨h2.1, h2.2.1⟩), fr_done h j]
theorem fr_len (T : List Str) (n : Int) (m : Nat) : (fr T n m).length ≤ m ∧ (fr T n m).length ≤ 1000 ∧ ((fr T n m).length : Int) ≤ max n 0 := by
  induction m with
  | zero => simp [fr]; omega
  | succ m ih =>
    by_cases h : ((fr T n m).length : Int) < n ∧ (fr T n m).length < 1000 ∧ xs (m + 1) ∉ T
    · rw [fr_add h.1 h.2.1 h.2.2, List.length_append, List.length_singleton]; omega
    · rw [fr_not h]; omega
theorem mem_fr (T : List Str) (n : Int) (m : Nat) (x : Str) (h : x ∈ fr T n m) : x ∉ T ∧ ∃ k, 1 ≤ k ∧ k ≤ m ∧ x = xs k := by
  induction m with
  | zero => simp [fr] at h
  | succ m ih =>
    by_cases hc : ((fr T n m).length : Int) < n ∧ (fr T n m).length < 1000 ∧ xs (m + 1) ∉ T
    · rw [fr_add hc.1 hc.2.1 hc.2.2, List.mem_append, List.mem_singleton] at h
      rcases h with h | h
      · obtain ⟨h1, k, h2, h3, h4⟩ := ih h
        exact ⟨h1, k, h2, by omega, h4⟩
      · subst h
        exact ⟨hc.2.2, m + 1, by omega, by omega, rfl⟩
    · rw [fr_not hc] at h
      obtain ⟨h1, k, h2, h3, h4⟩ := ih h
      exact ⟨h1, k, h2, by omega, h4⟩
theorem length_le_of_subset {α : Type} [BEq α] [LawfulBEq α] : ∀ {a b : List α}, a.Nodup → (∀ x ∈ a, x ∈ b) → a.length ≤ b.length
  | [], _, _, _ => Nat.zero_le _
  | x :: a, b, hn, h => by
    rw [List.nodup_cons] at hn
    have hx := h x (by simp)
    have h1 := length_le_of_subset (a := a) (b := b.erase x) hn.2 fun y hy => (List.mem_erase_of_ne (fun e => hn.1 (by rw [← e]; exact hy))).2 (h y (by simp [hy]))
    rw [List.length_erase_of_mem hx] at h1
    have : 0 < b.length := List.length_pos_of_mem hx
    rw [List.length_cons]
    omega
/-- How many of the first m may-be-fresh texts are in the table. -/
def taken (T : List Str) (m : Nat) : List Str := ((List.range m).map fun k => xs (k + 1)).filter fun x => decide (x ∈ T)
theorem taken_le (T : List Str) (m : Nat) : (taken T m).length ≤ T.length := by
  apply length_le_of_subset
  · refine List.Pairwise.filter _ ?_
    rw [List.pairwise_map]
    exact (List.nodup_range (n := m)).imp fun hne e => hne (by have := xs_inj e; omega)
  · intro x hx
    have := List.mem_filter.1 hx
    simpa using this.2
theorem taken_succ (T : List Str) (m : Nat) : (taken T (m + 1)).length = (taken T m).length + if xs (m + 1) ∈ T then 1 else 0 := by
  unfold taken
  rw [List.range_succ, List.map_append, List.filter_append, List.length_append]
  by_cases h : xs (m + 1) ∈ T <;> simp [h]
/-- As long as there is room, each text is fresh or taken. -/
theorem fr_taken (T : List Str) (n : Int) : ∀ m, ((fr T n m).length : Int) < n → (fr T n m).length < 1000 → (fr T n m).length + (taken T m).length = m := by
  intro m
  induction m with
  | zero => intro _ _; simp [fr, taken]
  | succ m ih =>
    intro h1 h2
    rw [taken_succ]
    by_cases hc : ((fr T n m).length : Int) < n ∧ (fr T n m).length < 1000 ∧ xs (m + 1) ∉ T
    · have e := fr_add hc.1 hc.2.1 hc.2.2
      rw [e, List.length_append, List.length_singleton, if_neg hc.2.2]
      have := ih hc.1 hc.2.1
      omega
    · have e := fr_not hc
      rw [e] at h1 h2
      have hm : xs (m + 1) ∈ T := by
        rcases Classical.em (xs (m + 1) ∈ T) with h | h
        · exact h
        · exact absurd ⟨h1, h2, h⟩ hc
      rw [e, if_pos hm]
      have := ih h1 h2
      omega
theorem fr_enough (T : List Str) (n : Int) (m : Nat) (h1 : ((fr T n m).length : Int) < n) (h2 : (fr T n m).length < 1000) : m < 1000 + T.length := by
  have h3 := fr_taken T n m h1 h2
  have h4 := taken_le T m
  omega
end Go.Proofs.Ytpjacngbkohmdaa.TabP
/- Plain mathematics of queries, of no program: which are right, their words and their lines. -/
namespace Go.Proofs.Ytpjacngbkohmdaa.QryP
set_option linter.unusedVariables false
set_option linter.unusedSimpArgs false
open Go.RowKit Go.Sort Go.Proofs.Ytpjacngbkohmdaa.Plain Go.Proofs.Ytpjacngbkohmdaa.SynP Go.Proofs.Ytpjacngbkohmdaa.TabP
structure Qy where
  kind : Int
  a : Rl
  b : Rl
  who : List Str
def Qy.val (q : Qy) (A : Option Addr) (c : Nat) : Value := .agg #[.int .i64 q.kind, .string q.a.owner, .string q.a.name, .string q.b.owner, .string q.b.name, .slice A q.who.length c]
def prinS (s : Str) : Bool := named capB s
/-- Principals, rising, each once, no more than twelve. -/
def whoOk (T : List Str) : Bool := decide (T.length ≤ 12) && T.all prinS && decide (T = tab T)
def Qy.right (q : Qy) : Bool := q.a.ok && (if q.kind = 1 ∨ q.kind = 2 then decide (0 < q.who.length) && whoOk q.who && decide (q.b = zeroR) else if q.kind = 3 then whoOk q.who && decide (q.b = zeroR) else if q.kind = 4 then decide (q.who.length = 0) && decide (q.b = zeroR) else if q.kind = 5 ∨ q.kind = 6 then decide (q.who.length = 0) && q.b.ok else false)
def Qy.fit (q : Qy) : Prop := q.a.light ∧ q.b.light ∧ q.who.length ≤ maxLen ∧ ∀ s ∈ q.who, s.length ≤ maxLen
/-- Each one stands behind the one before it. -/
def risesTo (T : List Str) (k : Nat) : Prop := ∀ j, j < k → (h : j < T.length) → prinS T[j] = true ∧ (0 < j → T[j - 1] < T[j])
theorem rising_of {T : List Str} (h : risesTo T T.length) : T.Pairwise (· < ·) := by
  have key : ∀ (d i : Nat), (hj : i + d + 1 < T.length) → T[i] < T[i + d + 1] := by
    intro d
    induction d with
    | zero => intro i hj; exact (h (i + 1) (by omega) hj).2 (by omega)
    | succ d ih => intro i hj; exact List.lt_trans (ih i (by omega)) ((h (i + d + 1 + 1) (by omega) hj).2 (by omega))
  rw [List.pairwise_iff_getElem]
  intro i j hi hj hij
  obtain ⟨d, rfl⟩ : ∃ d, j = i + d + 1 := ⟨j - i - 1, by omega⟩
  exact key d i hj
theorem tab_id {T : List Str} : T = tab T ↔ T.Pairwise (· < ·) :=
  ⟨fun h => by rw [h]; exact tab_sorted T, fun h => eq_of_rising h (tab_sorted T) fun x => (mem_tab T x).symm⟩
theorem who_of {T : List Str} (h : risesTo T T.length) : (T.all prinS && decide (T = tab T)) = true := by
  rw [decide_eq_true (tab_id.2 (rising_of h)), Bool.and_true, List.all_eq_true]
  intro x hx
  obtain ⟨k, hk, rfl⟩ := List.getElem_of_mem hx
  exact (h k hk hk).1
theorem who_bad {T : List Str} {k : Nat} (hk : k < T.length) (h : prinS T[k] = false) : (T.all prinS && decide (T = tab T)) = false := by
  have : T.all prinS = false := List.all_eq_false.2 ⟨T[k], List.getElem_mem _, by simp [h]⟩
  rw [this]; rfl
theorem who_down {T : List Str} {k : Nat} (hk : k < T.length) (h0 : 0 < k) (h : ¬ T[k - 1] < T[k]) : (T.all prinS && decide (T = tab T)) = false := by
  have : ¬ T = tab T := fun e => h ((List.pairwise_iff_getElem.1 (tab_id.1 e)) (k - 1) k (by omega) hk (by omega))
  rw [decide_eq_false this, Bool.and_false]
theorem kinds6 (k : Int) : k = 1 ∨ k = 2 ∨ k = 3 ∨ k = 4 ∨ k = 5 ∨ k = 6 ∨ (k < 1 ∨ 6 < k) := by omega
def univ (k : Int) : Bool := decide (k = 1 ∨ k = 3 ∨ k = 5 ∨ k = 6)
/-- The words between the first role and what is behind. -/
def wordsL (k : Int) : List Str := if k = 1 then [[104, 97, 115]] else if k = 2 then [[104, 97, 118, 101]] else if k = 3 then [[119, 105, 116, 104, 105, 110]] else if k = 4 then [[98, 101], [101, 109, 112, 116, 121]] else if k = 5 then [[97, 112, 97, 114, 116]] else if k = 6 then [[105, 110]] else []
def wordsT (k : Int) : ByteArray := if k = 1 then ⟨#[104, 97, 115]⟩ else if k = 2 then ⟨#[104, 97, 118, 101]⟩ else if k = 3 then ⟨#[119, 105, 116, 104, 105, 110]⟩ else if k = 4 then ⟨#[98, 101, 32, 101, 109, 112, 116, 121]⟩ else if k = 5 then ⟨#[97, 112, 97, 114, 116]⟩ else if k = 6 then ⟨#[105, 110]⟩ else noText
def leadT (k : Int) : ByteArray := if univ k then ⟨#[97, 108, 119, 97, 121, 115]⟩ else ⟨#[99, 97, 110]⟩
def hasBk (k : Int) : Bool := decide (k = 5 ∨ k = 6)
def hasWk (k : Int) : Bool := decide (k = 1 ∨ k = 2 ∨ k = 3)
end Go.Proofs.Ytpjacngbkohmdaa.QryP
/- Tables of names: kept, Len, New. -/
namespace Go.Proofs.Ytpjacngbkohmdaa.Tab1
set_option linter.unusedVariables false
set_option linter.unusedSimpArgs false
open Go.RowKit Go.Sort Go.Proofs Go.Proofs.Ytpjacngbkohmdaa.Plain Go.Proofs.Ytpjacngbkohmdaa.TabP
/-- A slice of strings that reads as a list of texts, nil let in. -/
def SRow (w : World) (A : Option Addr) (T : List Str) : Prop :=
  0 < T.length → ∃ b off, A = some ⟨b, off, none⟩ ∧ b < w.heap.size ∧ ∀ j, (h : j < T.length) → w.cell? ⟨b, off + j, none⟩ = some (.string ⟨T[j].toArray⟩)
theorem SRow.keep {w w' : World} {A : Option Addr} {T : List Str} (h : SRow w A T) (hb : Below w.heap.size w w') : SRow w' A T := fun hp => by
  obtain ⟨b, off, hA, hg, hc⟩ := h hp
  exact ⟨b, off, hA, Nat.lt_of_lt_of_le hg hb.size, fun j hj => (hb.cell (p := ⟨b, off + j, none⟩) hg).trans (hc j hj)⟩
theorem SRow.drewN {w : World} {A : Option Addr} {T : List Str} (h : SRow w A T) (n : Nat) : SRow (w.drewN n) A T := h
theorem SRow.of_own {w : World} {B : Nat} {e : TypeId} {v : Value} {T : List Str} (h : w.ownsRow B e 1 v T.length (T.map encStr)) : ∃ A c, v = .slice A T.length c ∧ T.length ≤ c ∧ SRow w A T := by
  rcases h.2 with ⟨rfl, h0⟩ | ⟨g, cap, cur, rfl, hB, hh, hc, hm, hs, ht⟩
  · exact ⟨none, 0, by rw [h0], by omega, fun hp => by omega⟩
  · refine ⟨_, _, rfl, hc, fun hp => ⟨g, 0, rfl, (h.lt g rfl).2, fun j hj => ?_⟩⟩
    have e1 : (T.map encStr)[j]? = some (.string ⟨T[j].toArray⟩) := by
      rw [List.getElem?_map, List.getElem?_eq_getElem hj]; rfl
    rw [← ht, List.getElem?_take_of_lt (by omega)] at e1
    rw [Lib.cell_of_heap hh, Nat.zero_add, ← Array.getElem?_toList]
    exact e1
theorem tab_nil : tab [] = [] := by unfold tab srt; simp [Lib.compact, Lib.compactUpTo]
theorem srt_len (ls : List Str) : (srt ls).length = ls.length := List.length_mergeSort ..
theorem own_lt {w : World} {B : Nat} {e : TypeId} {g n c : Nat} {xs : List Value} (h : w.ownsRow B e 1 (.slice (some ⟨g, 0, none⟩) n c) n xs) : B ≤ g ∧ g < w.heap.size := h.lt g rfl
theorem own_slice {w : World} {B : Nat} {e : TypeId} {v : Value} {n : Nat} {xs : List Value} (h : w.ownsRow B e 1 v n xs) (hv : v ≠ .slice none 0 0) : ∃ g c, v = .slice (some ⟨g, 0, none⟩) n c := by
  rcases h.2 with ⟨e0, _⟩ | ⟨g, c, cur, e0, _⟩
  · exact absurd e0 hv
  · exact ⟨g, c, e0⟩
theorem own_form {w : World} {B : Nat} {e : TypeId} {size : Nat} {v : Value} {n : Nat} {xs : List Value} (h : w.ownsRow B e size v n xs) : ∃ A n c, v = .slice A n c := by
  rcases h.2 with ⟨e0, _⟩ | ⟨g, c, cur, e0, _⟩ <;> exact ⟨_, _, _, e0⟩
def enB (l : Str) : ByteArray := ⟨l.toArray⟩
theorem map_enB (ss : List Str) : (ss.map enB).map Value.string = ss.map encStr := by
  rw [List.map_map]; rfl
end Go.Proofs.Ytpjacngbkohmdaa.Tab1
/- Policies: what they read as; rows of statements and of queries, wherever they lie. -/
namespace Go.Proofs.Ytpjacngbkohmdaa.PolE
set_option linter.unusedVariables false
set_option linter.unusedSimpArgs false
open Go.RowKit Go.Sort Go.Lib Go.Proofs Go.Proofs.Ytpjacngbkohmdaa.Plain Go.Proofs.Ytpjacngbkohmdaa.SynP Go.Proofs.Ytpjacngbkohmdaa.TabP Go.Proofs.Ytpjacngbkohmdaa.Tab1 Go.Proofs.Ytpjacngbkohmdaa.SynC Go.Proofs.Ytpjacngbkohmdaa.SynD2 Go.Proofs.Ytpjacngbkohmdaa.SynD3 Go.Proofs.Ytpjacngbkohmdaa.SynJ Go.Proofs.Ytpjacngbkohmdaa.QryP Go.Proofs.Ytpjacngbkohmdaa.PolA
structure Py where
  stmts : List St
  grow : List Rl
  shrink : List Rl
  asks : List Qy
/-- A slice value that reads as statements, wherever it lies. -/
def SG (w : World) (A : Option Addr) (L : List St) : Prop :=
  0 < L.length → ∃ g o, A = some ⟨g, o, none⟩ ∧ g < w.heap.size ∧ ∀ j, (h : j < L.length) → w.cell? ⟨g, o + j * 9, none⟩ = some (.int .i64 L[j].kind) ∧ w.cell? ⟨g, o + j * 9 + 1, none⟩ = some (.string L[j].head.owner) ∧ w.cell? ⟨g, o + j * 9 + 2, none⟩ = some (.string L[j].head.name) ∧ w.cell? ⟨g, o + j * 9 + 3, none⟩ = some (.string L[j].who) ∧ w.cell? ⟨g, o + j * 9 + 4, none⟩ = some (.string L[j].a.owner) ∧ w.cell? ⟨g, o + j * 9 + 5, none⟩ = some (.string L[j].a.name) ∧ w.cell? ⟨g, o + j * 9 + 6, none⟩ = some (.string L[j].b.owner) ∧ w.cell? ⟨g, o + j * 9 + 7, none⟩ = some (.string L[j].b.name) ∧ w.cell? ⟨g, o + j * 9 + 8, none⟩ = some (.string L[j].via)
theorem SG.below {w w' : World} {A : Option Addr} {L : List St} (h : SG w A L) (hb : Below w.heap.size w w') : SG w' A L := fun hp => by
  obtain ⟨g, o, hA, hg, hc⟩ := h hp
  refine ⟨g, o, hA, Nat.lt_of_lt_of_le hg hb.size, fun j hj => ?_⟩
  obtain ⟨a0, a1, a2, a3, a4, a5, a6, a7, a8⟩ := hc j hj
  have k : ∀ {i : Nat} {u : Value}, w.cell? ⟨g, i, none⟩ = some u → w'.cell? ⟨g, i, none⟩ = some u := fun {i u} e => (hb.cell (p := ⟨g, i, none⟩) hg).trans e
  exact ⟨k a0, k a1, k a2, k a3, k a4, k a5, k a6, k a7, k a8⟩
theorem SG.of_row {w : World} {A : Option Addr} {L : List St} (h : StRow w A L) : SG w A L := fun hp => by
  obtain ⟨g, hA, hg, hc⟩ := h hp
  exact ⟨g, 0, hA, hg, fun j hj => by simpa only [Nat.zero_add] using hc j hj⟩
theorem SG.of_at {w : World} {A : Option Addr} {L : List St} (h : StAt w A L) : SG w A L := fun hp => by
  obtain ⟨g, o, hA, hg, hc⟩ := h hp
  refine ⟨g, o, hA, hg, fun j hj => ?_⟩
  have k : ∀ (i : Nat) (u : Value), i < 9 → L[j].cells[i]? = some u → w.cell? ⟨g, o + j * 9 + i, none⟩ = some u := fun i u hi hu => by
    rw [Nat.add_assoc]; exact hc _ u ((stCells_at L j i hj hi).trans hu)
  exact ⟨k 0 _ (by omega) rfl, k 1 _ (by omega) rfl, k 2 _ (by omega) rfl, k 3 _ (by omega) rfl, k 4 _ (by omega) rfl, k 5 _ (by omega) rfl, k 6 _ (by omega) rfl, k 7 _ (by omega) rfl, k 8 _ (by omega) rfl⟩
theorem SG.at_ {w : World} {A : Option Addr} {L : List St} (h : SG w A L) : StAt w A L := fun hp => by
  obtain ⟨g, o, hA, hg, hc⟩ := h hp
  refine ⟨g, o, hA, hg, fun j u hu => ?_⟩
  have hj : j < L.length * 9 := by
    rw [← stCells_len]
    rcases Nat.lt_or_ge j (stCells L).length with h | h
    · exact h
    · rw [List.getElem?_eq_none h] at hu; cases hu
  obtain ⟨a0, a1, a2, a3, a4, a5, a6, a7, a8⟩ := hc (j / 9) (by omega)
  have e := stCells_at L (j / 9) (j % 9) (by omega) (by omega)
  rw [show j / 9 * 9 + j % 9 = j by omega, hu] at e
  have hm : j % 9 < 9 := by omega
  have hj9 : o + j = o + j / 9 * 9 + j % 9 := by omega
  rw [hj9]
  generalize j % 9 = m at e hm
  match m, hm with
  | 0, _ => rw [e]; exact a0
  | 1, _ => rw [e]; exact a1
  | 2, _ => rw [e]; exact a2
  | 3, _ => rw [e]; exact a3
  | 4, _ => rw [e]; exact a4
  | 5, _ => rw [e]; exact a5
  | 6, _ => rw [e]; exact a6
  | 7, _ => rw [e]; exact a7
  | 8, _ => rw [e]; exact a8
/-- A slice value that reads as queries, wherever it lies. -/
def QG (w : World) (A : Option Addr) (L : List Qy) : Prop :=
  0 < L.length → ∃ g o, A = some ⟨g, o, none⟩ ∧ g < w.heap.size ∧ ∀ j, (h : j < L.length) → ∃ (B : Option Addr) (c : Nat), w.cell? ⟨g, o + j * 6, none⟩ = some (.int .i64 L[j].kind) ∧ w.cell? ⟨g, o + j * 6 + 1, none⟩ = some (.string L[j].a.owner) ∧ w.cell? ⟨g, o + j * 6 + 2, none⟩ = some (.string L[j].a.name) ∧ w.cell? ⟨g, o + j * 6 + 3, none⟩ = some (.string L[j].b.owner) ∧ w.cell? ⟨g, o + j * 6 + 4, none⟩ = some (.string L[j].b.name) ∧ w.cell? ⟨g, o + j * 6 + 5, none⟩ = some (.slice B L[j].who.length c) ∧ SRow w B L[j].who
theorem QG.below {w w' : World} {A : Option Addr} {L : List Qy} (h : QG w A L) (hb : Below w.heap.size w w') : QG w' A L := fun hp => by
  obtain ⟨g, o, hA, hg, hc⟩ := h hp
  refine ⟨g, o, hA, Nat.lt_of_lt_of_le hg hb.size, fun j hj => ?_⟩
  obtain ⟨B, c, a0, a1, a2, a3, a4, a5, a6⟩ := hc j hj
  have k : ∀ {i : Nat} {u : Value}, w.cell? ⟨g, i, none⟩ = some u → w'.cell? ⟨g, i, none⟩ = some u := fun {i u} e => (hb.cell (p := ⟨g, i, none⟩) hg).trans e
  exact ⟨B, c, k a0, k a1, k a2, k a3, k a4, k a5, a6.keep hb⟩
/-- A policy's four rows, as they lie. -/
structure PG (w : World) (A1 A2 A3 A4 : Option Addr) (p : Py) : Prop where
  s : SG w A1 p.stmts
  g : RG w A2 p.grow
  h : RG w A3 p.shrink
  q : QG w A4 p.asks
theorem PG.below {w w' : World} {A1 A2 A3 A4 : Option Addr} {p : Py} (h : PG w A1 A2 A3 A4 p) (hb : Below w.heap.size w w') : PG w' A1 A2 A3 A4 p :=
  ⟨h.s.below hb, h.g.below hb, h.h.below hb, h.q.below hb⟩
def Py.val (p : Py) (A1 A2 A3 A4 : Option Addr) (c1 c2 c3 c4 : Nat) : Value := .agg #[.slice A1 p.stmts.length c1, .slice A2 p.grow.length c2, .slice A3 p.shrink.length c3, .slice A4 p.asks.length c4]
/-- Rows and texts that no machine is too small for. -/
structure Py.fit (p : Py) : Prop where
  n1 : p.stmts.length ≤ 1000
  n2 : p.grow.length ≤ 1000
  n3 : p.shrink.length ≤ 1000
  n4 : p.asks.length ≤ 1000
  f1 : ∀ s ∈ p.stmts, s.fit
  f2 : ∀ r ∈ p.grow, r.light
  f3 : ∀ r ∈ p.shrink, r.light
  f4 : ∀ q ∈ p.asks, q.fit
  f5 : ∀ q ∈ p.asks, q.who.length ≤ 100
end Go.Proofs.Ytpjacngbkohmdaa.PolE
/- Rows of roles put one behind the other: slices.Grow, slices.Concat. -/
namespace Go.Proofs.Ytpjacngbkohmdaa.PolF
set_option linter.unusedVariables false
set_option linter.unusedSimpArgs false
open Go.RowKit Go.Sort Go.Proofs.Ytpjacngbkohmdaa.Plain Go.Proofs.Ytpjacngbkohmdaa.SynP Go.Proofs.Ytpjacngbkohmdaa.Grown Go.Proofs.Ytpjacngbkohmdaa.SynA Go.Proofs.Ytpjacngbkohmdaa.SynC Go.Proofs.Ytpjacngbkohmdaa.SynJ Go.Proofs.Ytpjacngbkohmdaa.PolA
set_option linter.unusedVariables false
/-- A row of the call's own that holds roles. -/
def RPost (l : List Rl) (w : World) (e : Ending) (w' : World) : Prop := ∃ v, e = .returned v ∧ w'.ownsRow w.heap.size 24 2 v l.length (rcells l) ∧ Below w.heap.size w w'
theorem rg_none_len {w : World} {l : List Rl} (h : RG w none l) : l.length = 0 := by rw [rg_none h]; rfl
/-- A slice value, its room, and the roles as which it reads. -/
structure RowR where
  A : Option Addr
  c : Nat
  l : List Rl
/-- The roles of the first rows. -/
def flatTo (R : List RowR) (k : Nat) : List Rl := ((R.take k).map RowR.l).flatten
theorem flatTo_succ {R : List RowR} {k : Nat} (h : k < R.length) : flatTo R (k + 1) = flatTo R k ++ R[k].l := by
  unfold flatTo
  rw [List.take_succ_eq_append_getElem h, List.map_append, List.flatten_append, List.map_singleton, List.flatten_singleton]
theorem flatTo_len {R : List RowR} (h : ∀ r ∈ R, r.l.length ≤ 1000) : ∀ k, (flatTo R k).length ≤ k * 1000 := by
  intro k
  induction k with
  | zero => simp [flatTo]
  | succ k ih =>
    rcases Nat.lt_or_ge k R.length with hk | hk
    · rw [flatTo_succ hk, List.length_append]
      have h1 := h R[k] (List.getElem_mem _)
      rw [Nat.succ_mul]
      exact Nat.add_le_add ih h1
    · have : flatTo R (k + 1) = flatTo R k := by unfold flatTo; rw [List.take_of_length_le (by omega), List.take_of_length_le (by omega)]
      rw [this, Nat.succ_mul]
      exact Nat.le_add_right_of_le ih
end Go.Proofs.Ytpjacngbkohmdaa.PolF
/- Where a text is in a table: Find. -/
namespace Go.Proofs.Ytpjacngbkohmdaa.Tab2
set_option linter.unusedVariables false
set_option linter.unusedSimpArgs false
open Go.RowKit Go.Sort Go.Proofs Go.Proofs.Ytpjacngbkohmdaa.Plain Go.Proofs.Ytpjacngbkohmdaa.Tab1 Go.Proofs.Ytpjacngbkohmdaa.TabP
def SearchPost (T : List Str) (s : Str) (w : World) (e : Ending) (w' : World) : Prop :=
  ∃ a : Nat, e = .returned (.int .i64 a) ∧ a ≤ T.length ∧ (∀ k, (h : k < T.length) → k < a → T[k] < s) ∧ (∀ k, (h : k < T.length) → a ≤ k → ¬ T[k] < s) ∧ ∃ m, w' = w.drewN m
theorem mid_cast (a b : Nat) : (((a : Int) + (b : Int)) / 2) = (((a + b) / 2 : Nat) : Int) := by omega
/-- The place of a text, -1 if it is not in. -/
def findI (T : List Str) (s : Str) : Int := if s ∈ T then ((T.idxOf s : Nat) : Int) else -1
theorem findI_hit {T : List Str} {s : Str} (hs : T.Pairwise (· < ·)) {a : Nat} (h : a < T.length) (e : T[a] = s) : findI T s = a := by
  have hm : s ∈ T := by rw [← e]; exact List.getElem_mem _
  unfold findI
  rw [if_pos hm]
  have hlt := List.idxOf_lt_length_iff.2 hm
  have h1 : T[T.idxOf s] = s := List.getElem_idxOf hlt
  have hp := List.pairwise_iff_getElem.1 hs
  rcases Nat.lt_trichotomy (T.idxOf s) a with h2 | h2 | h2
  · have := hp _ _ hlt h h2
    rw [h1, e] at this
    exact absurd this (List.lt_irrefl _)
  · rw [h2]
  · have := hp _ _ h hlt h2
    rw [h1, e] at this
    exact absurd this (List.lt_irrefl _)
theorem findI_miss {T : List Str} {s : Str} (h : s ∉ T) : findI T s = -1 := by unfold findI; rw [if_neg h]
theorem miss_of {T : List Str} {s : Str} (hs : T.Pairwise (· < ·)) {a : Nat} (hlo : ∀ k, (h : k < T.length) → k < a → T[k] < s) (hhi : ∀ k, (h : k < T.length) → a ≤ k → ¬ T[k] < s) (hne : ∀ h : a < T.length, T[a] ≠ s) : s ∉ T := by
  intro hm
  obtain ⟨k, hk, e⟩ := List.getElem_of_mem hm
  rcases Nat.lt_trichotomy k a with h2 | h2 | h2
  · have := hlo k hk h2
    rw [e] at this
    exact List.lt_irrefl _ this
  · subst h2
    exact hne hk e
  · have ha : a < T.length := by omega
    have := List.pairwise_iff_getElem.1 hs _ _ ha hk h2
    rw [e] at this
    exact hhi a ha (Nat.le_refl _) this
def FindPost (T : List Str) (s : Str) (w : World) (e : Ending) (w' : World) : Prop := e = .returned (.int .i64 (findI T s)) ∧ Below w.heap.size w w'
end Go.Proofs.Ytpjacngbkohmdaa.Tab2
/- Fresh texts, and rows held against each other. -/
namespace Go.Proofs.Ytpjacngbkohmdaa.Tab3
set_option linter.unusedVariables false
set_option linter.unusedSimpArgs false
open Go.RowKit Go.Sort Go.Proofs Go.Proofs.Ytpjacngbkohmdaa.Plain Go.Proofs.Ytpjacngbkohmdaa.Tab1 Go.Proofs.Ytpjacngbkohmdaa.Tab2 Go.Proofs.Ytpjacngbkohmdaa.TabP
theorem has (A : Option Addr) (c : Nat) (T : List Str) (s : ByteArray) (w : World) (hL : T.length ≤ 1000000) (hA : SRow w A T) :
    Calls Try.prog 95 #[.slice A T.length c, .string s] w fun e w' => e = .returned (.bool (decide (s.toList ∈ T))) ∧ w = w' := by
  go_enter Try.func95, Try.ntmps95
  go_wp2
  go_loop [9] (fun i => ∃ k : Nat, k ≤ T.length ∧ i = .int .i64 k ∧ Hid (∀ j, (h : j < T.length) → j < k → T[j] ≠ s.toList)) (fun i => T.length - (intOf i).toNat)
  case atStart => exact ⟨0, by omega, rfl, Lib.hid fun j _ h => by omega⟩
  case round =>
    obtain ⟨k, hk, rfl, hall⟩ := hrel
    by_cases hlt : k < T.length
    · obtain ⟨g1, o1, rfl, _, h1⟩ := hA (by omega)
      have a1 := h1 k hlt
      clear h1 hA
      by_cases he : T[k] = s.toList
      · have hin : Hid (decide (s.toList ∈ T) = true) := Lib.hid (decide_eq_true (by rw [← he]; exact List.getElem_mem _))
        have e1 : (T[k] == s.toList) = true := by simpa using he
        clear he hall
        go_wp2_with fail
        go_ret
        exact ⟨ret_bool hin.out.symm, rfl⟩
      · have e1 : (T[k] == s.toList) = false := by simpa using he
        have hnext : Hid (∀ j, (h : j < T.length) → j < k + 1 → T[j] ≠ s.toList) := Lib.hid fun j h hj => by
          by_cases e : j = k
          · subst e; exact he
          · exact hall.out j h (by omega)
        clear he hall
        go_wp2_with fail
        go_round
        case rel => exact ⟨k + 1, by omega, by go_num, hnext⟩
        case measure => simp [intOf]; omega
    · have hin : Hid (decide (s.toList ∈ T) = false) := Lib.hid (decide_eq_false (fun hm => by
        obtain ⟨j, hj, e⟩ := List.getElem_of_mem hm
        exact hall.out j hj (by omega) e))
      clear hall
      go_wp2_with fail
      go_ret
      exact ⟨ret_bool hin.out.symm, rfl⟩
abbrev Pow (w : World) : Prop := Lib.TabIs Try.prog w "internal/strconv.uint64pow10" .u64 Lib.pow10Tab
theorem infoStr : (Try.prog.info? 9).map (fun i => (i.zero, i.size, i.bytes)) = some (some (.string ⟨#[]⟩), 1, 16) := by kernel_rfl
theorem own_keep {w w' : World} {base : Nat} {e : TypeId} {size : Nat} {v : Value} {n : Nat} {xs : List Value} (h : w.ownsRow base e size v n xs) (hb : Below w.heap.size w w') : w'.ownsRow base e size v n xs := by
  refine ⟨h.1, ?_⟩
  rcases h.2 with h0 | ⟨g, cap, cur, rfl, hB, hh, r⟩
  · exact .inl h0
  · exact .inr ⟨g, cap, cur, rfl, hB, (hb.block g (h.lt g rfl).2).trans hh, r⟩
theorem new_cell1 (w : World) (a : Value) (t : TypeId) : ∀ j u, [a][j]? = some u → (w.alloc (.cells #[a] t)).cell? ((⟨w.heap.size, 0, none⟩ : Addr).add j) = some u := by
  intro j u hj
  match j, hj with
  | 0, hj => simp at hj; subst hj; simp [Addr.add]
theorem below_grow (w : World) (os : Array Obj) : Below w.heap.size w (grow w os) :=
  ⟨rfl, rfl, rfl, by simp [grow], fun k hk => heap_grow_old w os hk⟩
theorem itoa_nat (k : Nat) : Lib.itoa ((k : Int) + 1) = Lib.decDigits (k + 1) := by
  unfold Lib.itoa
  rw [if_neg (by omega)]
  rfl
theorem cat_xs (k : Nat) : (⟨#[88]⟩ ++ ⟨(Lib.decDigits k).toArray⟩ : ByteArray) = ⟨(xs k).toArray⟩ := by
  apply ByteArray.ext
  rw [ByteArray.data_append]
  apply Array.ext'
  simp [xs]
theorem findI_ge {T : List Str} {s : Str} (h : s ∈ T) : 0 ≤ findI T s := by unfold findI; rw [if_pos h]; omega
def FreshPost (T : List Str) (n : Int) (w : World) (e : Ending) (w' : World) : Prop :=
  ∃ v, e = .returned v ∧ w'.ownsRow w.heap.size 9 1 v (fr T n (1000 + T.length)).length ((fr T n (1000 + T.length)).map encStr) ∧ Below w.heap.size w w'
end Go.Proofs.Ytpjacngbkohmdaa.Tab3
/- The document's own row of texts: Put, New; and what is light. -/
namespace Go.Proofs.Ytpjacngbkohmdaa.Tab4
set_option linter.unusedVariables false
set_option linter.unusedSimpArgs false
open Go.RowKit Go.Sort Go.Proofs Go.Proofs.Ytpjacngbkohmdaa.Plain Go.Proofs.Ytpjacngbkohmdaa.Tab1 Go.Proofs.Ytpjacngbkohmdaa.Tab2 Go.Proofs.Ytpjacngbkohmdaa.Tab3 Go.Proofs.Ytpjacngbkohmdaa.TabP
/-- What Put has made of the first k, and whether it has put the text. -/
def insTo (T : List Str) (s : Str) (k : Nat) : List Str × Bool :=
  (T.take k).foldl (fun a x => if !a.2 && decide (s < x) then (a.1 ++ [s] ++ [x], true) else (a.1 ++ [x], a.2)) ([], false)
theorem insTo_succ {T : List Str} {s : Str} {k : Nat} (h : k < T.length) : insTo T s (k + 1) = (if !(insTo T s k).2 && decide (s < T[k]) then ((insTo T s k).1 ++ [s] ++ [T[k]], true) else ((insTo T s k).1 ++ [T[k]], (insTo T s k).2)) := by
  unfold insTo
  rw [List.take_succ_eq_append_getElem h, List.foldl_append]
  rfl
def insAll (T : List Str) (s : Str) : List Str := if (insTo T s T.length).2 then (insTo T s T.length).1 else (insTo T s T.length).1 ++ [s]
theorem insTo_len (T : List Str) (s : Str) (k : Nat) (hk : k ≤ T.length) : (insTo T s k).1.length ≤ k + 1 ∧ ((insTo T s k).2 = false → (insTo T s k).1.length ≤ k) := by
  induction k with
  | zero => simp [insTo]
  | succ k ih =>
    obtain ⟨h1, h2⟩ := ih (by omega)
    rw [insTo_succ (by omega)]
    split
    · rename_i hc
      have hd : (insTo T s k).2 = false := by
        cases hd : (insTo T s k).2
        · rfl
        · rw [hd] at hc; simp at hc
      have := h2 hd
      simp
      omega
    · simp only [List.length_append, List.length_singleton]
      refine ⟨by omega, fun hd => ?_⟩
      have := h2 hd
      omega
def putL (T : List Str) (s : Str) : List Str := if s ∈ T then T else insAll T s
def PutPost (T : List Str) (s : Str) (B : Nat) (w : World) (e : Ending) (w' : World) : Prop :=
  ∃ v, e = .returned v ∧ w'.ownsRow B 9 1 v (putL T s).length ((putL T s).map encStr) ∧ Below B w w'
theorem enc_toList (s : ByteArray) : encStr s.toList = .string s := by
  show Value.string ⟨s.toList.toArray⟩ = _
  rw [Go.ByteArray.toList_eq]
theorem own_base {w : World} {B B' : Nat} {e : TypeId} {size : Nat} {v : Value} {n : Nat} {xs : List Value} (h : w.ownsRow B e size v n xs) (hB : B' ≤ B) : w.ownsRow B' e size v n xs := by
  refine ⟨h.1, ?_⟩
  rcases h.2 with h0 | ⟨g, cap, cur, rfl, hb, r⟩
  · exact .inl h0
  · exact .inr ⟨g, cap, cur, rfl, Nat.le_trans hB hb, r⟩
theorem own_app {w : World} {B : Nat} {e : TypeId} {v : Value} {L M : List Str} {x : Str} (h : w.ownsRow B e 1 v (L.length + 1) (L.map encStr ++ [encStr x])) (hM : M = L ++ [x]) : w.ownsRow B e 1 v M.length (M.map encStr) := by
  subst hM
  rw [List.length_append, List.map_append]
  exact h
theorem own_app2 {w : World} {B : Nat} {e : TypeId} {v : Value} {L M : List Str} {x y : Str} (h : w.ownsRow B e 1 v (L.length + 1 + 1) (L.map encStr ++ [encStr x, encStr y])) (hM : M = L ++ [x] ++ [y]) : w.ownsRow B e 1 v M.length (M.map encStr) := by
  subst hM
  rw [List.length_append, List.length_append, List.map_append, List.map_append, List.append_assoc]
  exact h
theorem ins_put {T : List Str} {s : Str} {k : Nat} (h : k < T.length) (hd : (insTo T s k).2 = false) (hl : Op.bytesLess s T[k] = true) : insTo T s (k + 1) = ((insTo T s k).1 ++ [s] ++ [T[k]], true) := by
  rw [bytesLess_eq] at hl
  rw [insTo_succ h, if_pos (by rw [hd, hl]; rfl)]
theorem ins_no {T : List Str} {s : Str} {k : Nat} (h : k < T.length) (hd : (insTo T s k).2 = false) (hl : Op.bytesLess s T[k] = false) : insTo T s (k + 1) = ((insTo T s k).1 ++ [T[k]], false) := by
  rw [bytesLess_eq] at hl
  rw [insTo_succ h, if_neg (by rw [hd, hl]; decide), hd]
theorem ins_done {T : List Str} {s : Str} {k : Nat} (h : k < T.length) (hd : (insTo T s k).2 = true) : insTo T s (k + 1) = ((insTo T s k).1 ++ [T[k]], true) := by
  rw [insTo_succ h, if_neg (by rw [hd]; simp), hd]
set_option maxHeartbeats 1000000 in
set_option maxRecDepth 100000 in
theorem put (B : Nat) (A : Option Addr) (c : Nat) (T : List Str) (s : ByteArray) (w : World) (hL : T.length ≤ 100000) (hB : B ≤ w.heap.size) (hown : w.ownsRow B 9 1 (.slice A T.length c) T.length (T.map encStr)) :
    Calls Try.prog 87 #[.slice A T.length c, .string s] w (PutPost T s.toList B w) := by
  obtain ⟨i0, hi, hz0, hz1, hz2⟩ := info_parts infoStr
  have hrow : SRow w A T := by
    obtain ⟨A', c', e, _, h⟩ := SRow.of_own hown
    injection e with e1 _ _
    subst e1
    exact h
  by_cases hin : s.toList ∈ T
  · have hp := Lib.hid (show putL T s.toList = T from by unfold putL; rw [if_pos hin])
    have hd : decide (s.toList ∈ T) = true := decide_eq_true hin
    clear hin
    go_enter Try.func87, Try.ntmps87
    go_wp2_with (go_at_call 95; refine (has A c T s _ (by omega) hrow).mono ?_; rintro e w' ⟨rfl, rfl⟩)
    go_ret
    exact ⟨_, rfl, by rw [hp.out]; exact hown, Below.refl _ _⟩
  · have hp := Lib.hid (show putL T s.toList = insAll T s.toList from by unfold putL; rw [if_neg hin])
    have hd : decide (s.toList ∈ T) = false := decide_eq_false hin
    clear hin
    go_enter Try.func87, Try.ntmps87
    go_wp2_with (go_at_call 95; refine (has A c T s _ (by omega) hrow).mono ?_; rintro e w' ⟨rfl, rfl⟩)
    go_loopw [5, 6, 15] (fun v d i wr => ∃ k : Nat, k ≤ T.length ∧ i = .int .i64 k ∧ d = .bool (insTo T s.toList k).2 ∧ wr.ownsRow w.heap.size 9 1 v (insTo T s.toList k).1.length ((insTo T s.toList k).1.map encStr) ∧ Below w.heap.size w wr) (fun _ _ i _ => T.length - (intOf i).toNat)
    case atStart => exact ⟨0, by omega, rfl, rfl, World.ownsRow_nil _ _ _ _, Below.refl _ _⟩
    case round =>
      obtain ⟨k, hk, rfl, rfl, hown1, hbel⟩ := hrel
      have hlen := (insTo_len T s.toList k hk).1
      by_cases hlt : k < T.length
      ·
        obtain ⟨g, off, rfl, hg, hcell⟩ := hrow (by omega)
        have hx := (hbel.cell (p := ⟨g, off + k, none⟩) hg).trans (hcell k hlt)
        clear hcell
        cases hD : (insTo T s.toList k).2
        · cases hl : Op.bytesLess s.toList T[k]
          · have hn := Lib.hid (ins_no hlt hD hl)
            go_wp2_with (at_builtin; refine wpList_append_own _ rfl (.tmp 30) (.tmp 32) 49 rfl w.heap.size 9 i0 (.string ⟨#[]⟩) 1 16 Try.underlying49 hi hz0 hz1 hz2 rfl (by decide) _ _ _ rfl (hown1.alloc _) ⟨wr.heap.size, 0, none⟩ 1 1 [.string ⟨T[k].toArray⟩] rfl rfl ?c1 ?c2 ?c3 ?c4 ?c5 ?_)
            case c1 => exact new_cell1 _ _ _
            case c2 => intro u hu; simp at hu; subst hu; rfl
            case c3 => unfold maxLen; first | omega | (simp; omega)
            case c4 => first | omega | (simp; omega)
            case c5 => have := hbel.size; simp; omega
            intro v2 w2 hown3 hgrow2 _
            have hbel3 := (hbel.alloc hbel.size _).grown hgrow2 (by have := hbel.size; simp; omega) (fun j hj => (hown1.lt j hj).1)
            have hown4 := own_app hown3 (show (insTo T s.toList (k + 1)).1 = _ ++ [T[k]] from by rw [hn.out])
            clear hown1 hown3 hbel hgrow2
            go_wp2_with fail
            go_roundw
            case rel => exact ⟨k + 1, by omega, by go_num, by rw [hn.out], hown4, hbel3⟩
            case measure => simp [intOf]; omega
          · have hn := Lib.hid (ins_put hlt hD hl)
            go_wp2_with (at_builtin; refine wpList_append_own _ rfl (.tmp 26) (.tmp 28) 49 rfl w.heap.size 9 i0 (.string ⟨#[]⟩) 1 16 Try.underlying49 hi hz0 hz1 hz2 rfl (by decide) _ _ _ rfl (hown1.alloc _) ⟨wr.heap.size, 0, none⟩ 1 1 [.string s] rfl rfl ?c1 ?c2 ?c3 ?c4 ?c5 ?_)
            case c1 => exact new_cell1 _ _ _
            case c2 => intro u hu; simp at hu; subst hu; rfl
            case c3 => unfold maxLen; first | omega | (simp; omega)
            case c4 => first | omega | (simp; omega)
            case c5 => have := hbel.size; simp; omega
            intro v1 w1 hown2 hgrow1 _
            have hbel2 := (hbel.alloc hbel.size _).grown hgrow1 (by have := hbel.size; simp; omega) (fun j hj => (hown1.lt j hj).1)
            rw [← enc_toList] at hown2
            have hown2 := own_app hown2 rfl
            clear hown1 hgrow1
            go_wp2_with (at_builtin; refine wpList_append_own _ rfl (.tmp 30) (.tmp 32) 49 rfl w.heap.size 9 i0 (.string ⟨#[]⟩) 1 16 Try.underlying49 hi hz0 hz1 hz2 rfl (by decide) _ _ _ rfl (hown2.alloc _) ⟨w1.heap.size, 0, none⟩ 1 1 [.string ⟨T[k].toArray⟩] rfl rfl ?c1 ?c2 ?c3 ?c4 ?c5 ?_)
            case c1 => exact new_cell1 _ _ _
            case c2 => intro u hu; simp at hu; subst hu; rfl
            case c3 => unfold maxLen; first | omega | (simp; omega)
            case c4 => first | omega | (simp; omega)
            case c5 => have := hbel2.size; simp; omega
            intro v2 w2 hown3 hgrow2 _
            have hbel3 := (hbel2.alloc hbel2.size _).grown hgrow2 (by have := hbel2.size; simp; omega) (fun j hj => (hown2.lt j hj).1)
            have hown4 := own_app2 hown3 (show (insTo T s.toList (k + 1)).1 = _ ++ [s.toList] ++ [T[k]] from by rw [hn.out])
            clear hown2 hown3 hbel hbel2 hgrow2
            go_wp2_with fail
            go_roundw
            case rel => exact ⟨k + 1, by omega, by go_num, by rw [hn.out], hown4, hbel3⟩
            case measure => simp [intOf]; omega
        · have hn := Lib.hid (ins_done hlt hD)
          go_wp2_with (at_builtin; refine wpList_append_own _ rfl (.tmp 30) (.tmp 32) 49 rfl w.heap.size 9 i0 (.string ⟨#[]⟩) 1 16 Try.underlying49 hi hz0 hz1 hz2 rfl (by decide) _ _ _ rfl (hown1.alloc _) ⟨wr.heap.size, 0, none⟩ 1 1 [.string ⟨T[k].toArray⟩] rfl rfl ?c1 ?c2 ?c3 ?c4 ?c5 ?_)
          case c1 => exact new_cell1 _ _ _
          case c2 => intro u hu; simp at hu; subst hu; rfl
          case c3 => unfold maxLen; first | omega | (simp; omega)
          case c4 => first | omega | (simp; omega)
          case c5 => have := hbel.size; simp; omega
          intro v2 w2 hown3 hgrow2 _
          have hbel3 := (hbel.alloc hbel.size _).grown hgrow2 (by have := hbel.size; simp; omega) (fun j hj => (hown1.lt j hj).1)
          have hown4 := own_app hown3 (show (insTo T s.toList (k + 1)).1 = _ ++ [T[k]] from by rw [hn.out])
          clear hown1 hown3 hbel hgrow2
          go_wp2_with fail
          go_roundw
          case rel => exact ⟨k + 1, by omega, by go_num, by rw [hn.out], hown4, hbel3⟩
          case measure => simp [intOf]; omega
      · have e : k = T.length := by omega
        subst e
        cases hD : (insTo T s.toList T.length).2
        · have hn := Lib.hid (show insAll T s.toList = (insTo T s.toList T.length).1 ++ [s.toList] from by unfold insAll; rw [if_neg (by rw [hD]; decide)])
          go_wp2_with (at_builtin; refine wpList_append_own _ rfl (.tmp 37) (.tmp 39) 49 rfl w.heap.size 9 i0 (.string ⟨#[]⟩) 1 16 Try.underlying49 hi hz0 hz1 hz2 rfl (by decide) _ _ _ rfl (hown1.alloc _) ⟨wr.heap.size, 0, none⟩ 1 1 [.string s] rfl rfl ?c1 ?c2 ?c3 ?c4 ?c5 ?_)
          case c1 => exact new_cell1 _ _ _
          case c2 => intro u hu; simp at hu; subst hu; rfl
          case c3 => unfold maxLen; first | omega | (simp; omega)
          case c4 => first | omega | (simp; omega)
          case c5 => have := hbel.size; simp; omega
          intro v1 w1 hown2 hgrow1 _
          have hbel2 := (hbel.alloc hbel.size _).grown hgrow1 (by have := hbel.size; simp; omega) (fun j hj => (hown1.lt j hj).1)
          rw [← enc_toList] at hown2
          have hown3 := own_app hown2 hn.out
          clear hown1 hown2 hgrow1 hbel
          go_wp2_with fail
          go_ret
          exact ⟨_, rfl, by rw [hp.out]; exact own_base hown3 hB, hbel2.mono hB⟩
        · have hn := Lib.hid (show insAll T s.toList = (insTo T s.toList T.length).1 from by unfold insAll; rw [if_pos hD])
          go_wp2_with fail
          go_ret
          exact ⟨_, rfl, by rw [hp.out, hn.out]; exact own_base hown1 hB, hbel.mono hB⟩
end Go.Proofs.Ytpjacngbkohmdaa.Tab4
/- The document's own table and fresh texts: New, Dec, Fresh; what is light. -/
namespace Go.Proofs.Ytpjacngbkohmdaa.Tab5
set_option linter.unusedVariables false
set_option linter.unusedSimpArgs false
open Go.RowKit Go.Sort Go.Proofs Go.Proofs.Ytpjacngbkohmdaa.Plain Go.Proofs.Ytpjacngbkohmdaa.Tab1 Go.Proofs.Ytpjacngbkohmdaa.Tab2 Go.Proofs.Ytpjacngbkohmdaa.Tab3 Go.Proofs.Ytpjacngbkohmdaa.Tab4 Go.Proofs.Ytpjacngbkohmdaa.TabP
def newTo (ls : List Str) (k : Nat) : List Str := (ls.take k).foldl putL []
theorem newTo_succ {ls : List Str} {k : Nat} (h : k < ls.length) : newTo ls (k + 1) = putL (newTo ls k) ls[k] := by
  unfold newTo
  rw [List.take_succ_eq_append_getElem h, List.foldl_append]
  rfl
theorem putL_len (T : List Str) (s : Str) : (putL T s).length ≤ T.length + 1 := by
  unfold putL
  split
  · omega
  · have h := insTo_len T s T.length (Nat.le_refl _)
    unfold insAll
    split
    · exact h.1
    · rename_i hd
      have := h.2 (by simpa using hd)
      simp; omega
theorem newTo_len (ls : List Str) (k : Nat) (h : k ≤ ls.length) : (newTo ls k).length ≤ k := by
  induction k with
  | zero => simp [newTo]
  | succ k ih =>
    rw [newTo_succ (by omega)]
    have := ih (by omega)
    have := putL_len (newTo ls k) ls[k]
    omega
structure Inv (T : List Str) (s : Str) (k : Nat) (a : List Str) (d : Bool) : Prop where
  up : a.Pairwise (· < ·)
  mem : ∀ x, x ∈ a ↔ x ∈ T.take k ∨ (d = true ∧ x = s)
  far : ∀ x ∈ a, ∀ j, (h : j < T.length) → k ≤ j → x < T[j]
  low : d = false → ∀ x ∈ a, x < s
theorem inv_step {T : List Str} {s : Str} (hT : T.Pairwise (· < ·)) (hs : s ∉ T) : ∀ k, k ≤ T.length → Inv T s k (insTo T s k).1 (insTo T s k).2 := by
  have hp := List.pairwise_iff_getElem.1 hT
  intro k
  induction k with
  | zero => intro _; exact ⟨by simp [insTo], by simp [insTo], by simp [insTo], by simp [insTo]⟩
  | succ k ih =>
    intro hk
    have h := ih (by omega)
    have hlt : k < T.length := by omega
    have htake : T.take (k + 1) = T.take k ++ [T[k]] := List.take_succ_eq_append_getElem hlt
    cases hd : (insTo T s k).2
    · have hlow := h.low hd
      by_cases hsx : s < T[k]
      · rw [ins_put hlt hd (by rw [bytesLess_eq]; exact decide_eq_true hsx)]
        refine ⟨?_, ?_, ?_, by simp⟩
        · rw [List.pairwise_append, List.pairwise_append]
          refine ⟨⟨h.up, by simp, fun x hx y hy => ?_⟩, by simp, fun x hx y hy => ?_⟩
          · rw [List.mem_singleton] at hy; subst hy; exact hlow x hx
          · rw [List.mem_singleton] at hy; subst hy
            rw [List.mem_append, List.mem_singleton] at hx
            rcases hx with hx | hx
            · exact h.far x hx k hlt (Nat.le_refl _)
            · subst hx; exact hsx
        · intro x
          rw [htake]
          have := h.mem x
          rw [hd] at this
          simp only [List.mem_append, List.mem_singleton] at *
          rw [this]
          simp
          constructor
          · rintro ((h | h) | h) <;> simp [h]
          · rintro ((h | h) | h) <;> simp [h]
        · intro x hx j hj hkj
          rw [List.mem_append, List.mem_append, List.mem_singleton, List.mem_singleton] at hx
          rcases hx with (hx | hx) | hx
          · exact h.far x hx j hj (by omega)
          · subst hx; exact List.lt_trans hsx (hp k j hlt hj (by omega))
          · subst hx; exact hp k j hlt hj (by omega)
      · rw [ins_no hlt hd (by rw [bytesLess_eq]; exact decide_eq_false hsx)]
        have hne : T[k] ≠ s := fun e => hs (by rw [← e]; exact List.getElem_mem _)
        have hxs : T[k] < s := Std.lt_of_le_of_ne (List.not_lt.1 hsx) hne
        refine ⟨?_, ?_, ?_, ?_⟩
        · rw [List.pairwise_append]
          refine ⟨h.up, by simp, fun x hx y hy => ?_⟩
          rw [List.mem_singleton] at hy; subst hy
          exact h.far x hx k hlt (Nat.le_refl _)
        · intro x
          rw [htake]
          have := h.mem x
          rw [hd] at this
          simp only [List.mem_append, List.mem_singleton] at *
          rw [this]
          simp
        · intro x hx j hj hkj
          rw [List.mem_append, List.mem_singleton] at hx
          rcases hx with hx | hx
          · exact h.far x hx j hj (by omega)
          · subst hx; exact hp k j hlt hj (by omega)
        · intro _ x hx
          rw [List.mem_append, List.mem_singleton] at hx
          rcases hx with hx | hx
          · exact hlow x hx
          · subst hx; exact hxs
    · rw [ins_done hlt hd]
      refine ⟨?_, ?_, ?_, by simp⟩
      · rw [List.pairwise_append]
        refine ⟨h.up, by simp, fun x hx y hy => ?_⟩
        rw [List.mem_singleton] at hy; subst hy
        exact h.far x hx k hlt (Nat.le_refl _)
      · intro x
        rw [htake]
        have := h.mem x
        rw [hd] at this
        simp only [List.mem_append, List.mem_singleton] at *
        rw [this]
        simp
        constructor
        · rintro ((h | h) | h) <;> simp [h]
        · rintro ((h | h) | h) <;> simp [h]
      · intro x hx j hj hkj
        rw [List.mem_append, List.mem_singleton] at hx
        rcases hx with hx | hx
        · exact h.far x hx j hj (by omega)
        · subst hx; exact hp k j hlt hj (by omega)
theorem putL_rising {T : List Str} {s : Str} (hT : T.Pairwise (· < ·)) : (putL T s).Pairwise (· < ·) ∧ ∀ x, x ∈ putL T s ↔ x ∈ T ∨ x = s := by
  unfold putL
  split
  · rename_i h
    refine ⟨hT, fun x => ⟨fun hx => .inl hx, ?_⟩⟩
    rintro (hx | hx)
    · exact hx
    · subst hx; exact h
  · rename_i hs
    have h := inv_step hT hs T.length (Nat.le_refl _)
    unfold insAll
    split
    · rename_i hd
      refine ⟨h.up, fun x => ?_⟩
      rw [h.mem, List.take_length, hd]
      simp
    · rename_i hd
      have hd' : (insTo T s T.length).2 = false := by simpa using hd
      refine ⟨?_, fun x => ?_⟩
      · rw [List.pairwise_append]
        refine ⟨h.up, by simp, fun x hx y hy => ?_⟩
        rw [List.mem_singleton] at hy; subst hy
        exact h.low hd' x hx
      · rw [List.mem_append, h.mem, List.take_length, hd']
        simp
theorem newTo_rising (ls : List Str) : ∀ k, k ≤ ls.length → (newTo ls k).Pairwise (· < ·) ∧ ∀ x, x ∈ newTo ls k ↔ x ∈ ls.take k := by
  intro k
  induction k with
  | zero => intro _; simp [newTo]
  | succ k ih =>
    intro hk
    obtain ⟨h1, h2⟩ := ih (by omega)
    rw [newTo_succ (by omega), List.take_succ_eq_append_getElem (by omega)]
    obtain ⟨h3, h4⟩ := putL_rising (s := ls[k]) h1
    refine ⟨h3, fun x => ?_⟩
    rw [h4, h2, List.mem_append, List.mem_singleton]
theorem newTo_tab (ls : List Str) : newTo ls ls.length = tab ls := by
  obtain ⟨h1, h2⟩ := newTo_rising ls ls.length (Nat.le_refl _)
  exact eq_of_rising h1 (tab_sorted ls) fun x => by rw [h2, List.take_length, mem_tab]
def RowPost (M : List Str) (w : World) (e : Ending) (w' : World) : Prop := ∃ v, e = .returned v ∧ w'.ownsRow w.heap.size 9 1 v M.length (M.map encStr) ∧ Below w.heap.size w w'
end Go.Proofs.Ytpjacngbkohmdaa.Tab5
/- What is light; decimal numerals and fresh texts of the document. -/
namespace Go.Proofs.Ytpjacngbkohmdaa.Tab6
set_option linter.unusedVariables false
set_option linter.unusedSimpArgs false
open Go.RowKit Go.Sort Go.Proofs Go.Proofs.Ytpjacngbkohmdaa.Plain Go.Proofs.Ytpjacngbkohmdaa.Tab1 Go.Proofs.Ytpjacngbkohmdaa.Tab2 Go.Proofs.Ytpjacngbkohmdaa.Tab3 Go.Proofs.Ytpjacngbkohmdaa.Tab4 Go.Proofs.Ytpjacngbkohmdaa.Tab5 Go.Proofs.Ytpjacngbkohmdaa.TabP
def lightB (ls : List Str) : Bool := decide (ls.length ≤ 40) && ls.all fun s => decide (s.length ≤ 40)
theorem light (A : Option Addr) (c : Nat) (ls : List Str) (w : World) (hL : ls.length ≤ maxLen) (hw : ∀ s ∈ ls, s.length ≤ maxLen) (hA : SRow w A ls) :
    Calls Try.prog 68 #[.slice A ls.length c] w fun e w' => e = .returned (.bool (lightB ls)) ∧ w = w' := by
  unfold maxLen at hL
  by_cases h40 : ls.length ≤ 40
  · go_enter Try.func68, Try.ntmps68
    go_wp2
    go_loop [10] (fun i => ∃ k : Nat, k ≤ ls.length ∧ i = .int .i64 k ∧ Hid (∀ j, (h : j < ls.length) → j < k → ls[j].length ≤ 40)) (fun i => ls.length - (intOf i).toNat)
    case atStart => exact ⟨0, by omega, rfl, Lib.hid fun j _ h => by omega⟩
    case round =>
      obtain ⟨k, hk, rfl, hall⟩ := hrel
      by_cases hlt : k < ls.length
      · obtain ⟨g, off, rfl, hg, hcell⟩ := hA (by omega)
        have hx := hcell k hlt
        have hm := hw ls[k] (List.getElem_mem _)
        unfold maxLen at hm
        clear hcell
        by_cases h : ls[k].length ≤ 40
        · have hnext : Hid (∀ j, (h : j < ls.length) → j < k + 1 → ls[j].length ≤ 40) := Lib.hid fun j hj h2 => by
            by_cases e : j = k
            · subst e; exact h
            · exact hall.out j hj (by omega)
          clear hall
          go_wp2_with fail
          go_round
          case rel => exact ⟨k + 1, by omega, by go_num, hnext⟩
          case measure => simp [intOf]; omega
        · have hf : Hid (lightB ls = false) := Lib.hid (by
            unfold lightB
            have : (ls.all fun s => decide (s.length ≤ 40)) = false := by
              rw [List.all_eq_false]
              exact ⟨ls[k], List.getElem_mem _, by simpa using h⟩
            rw [this]; simp)
          clear hall
          go_wp2_with fail
          go_ret
          exact ⟨ret_bool hf.out.symm, rfl⟩
      · have hf : Hid (lightB ls = true) := Lib.hid (by
          unfold lightB
          have : (ls.all fun s => decide (s.length ≤ 40)) = true := by
            rw [List.all_eq_true]
            intro x hx
            obtain ⟨j, hj, rfl⟩ := List.getElem_of_mem hx
            exact decide_eq_true (hall.out j hj (by omega))
          rw [this, decide_eq_true h40]; rfl)
        clear hall
        go_wp2_with fail
        go_ret
        exact ⟨ret_bool hf.out.symm, rfl⟩
  · have hf : Hid (lightB ls = false) := Lib.hid (by unfold lightB; rw [decide_eq_false h40]; rfl)
    go_enter Try.func68, Try.ntmps68
    go_wp2
    go_ret
    exact ⟨ret_bool hf.out.symm, rfl⟩
def dgt (m : Nat) : UInt8 := UInt8.ofNat (48 + m % 10)
def oneB (c : UInt8) : ByteArray := ⟨#[c]⟩
theorem oneB_size (c : UInt8) : (oneB c).size = 1 := rfl
theorem cat_bytes (c : UInt8) (l : Str) : (oneB c ++ ⟨l.toArray⟩ : ByteArray) = ⟨(c :: l).toArray⟩ := by
  unfold oneB
  apply ByteArray.ext
  rw [ByteArray.data_append]
  apply Array.ext'
  simp
theorem dec_pow {m k : Nat} (hk : k < 20) (h : m < 10 ^ (20 - k)) (h10 : ¬ m < 10) : m / 10 < 10 ^ (20 - (k + 1)) ∧ k + 1 < 20 := by
  have hk2 : k + 1 < 20 := by
    rcases Nat.lt_or_ge (k + 1) 20 with h1 | h1
    · exact h1
    · have : k = 19 := by omega
      subst this
      exact absurd h h10
  refine ⟨?_, hk2⟩
  rw [show 20 - k = (20 - (k + 1)) + 1 from by omega, Nat.pow_succ] at h
  omega
def DecPost (N : Nat) (w : World) (e : Ending) (w' : World) : Prop := e = .returned (.string ⟨(Lib.decDigits N).toArray⟩) ∧ Below w.heap.size w w'
end Go.Proofs.Ytpjacngbkohmdaa.Tab6
