/- A row of roles: those of a statement, and whether two rows are the very same. -/
import Derived.Test.YtkmpbkgmdfeicaaGreatM10
import Derived.Test.YtkmpbkgmdfeicaaGreatM08
import Derived.Test.YtkmpbkgmdfeicaaGreatM04
import Derived.Test.YtkmpbkgmdfeicaaGreatM06
import Derived.Test.YtkmpbkgmdfeicaaGreatM01
import Derived.Sort.Statements
import Derived.Shelf.SlSortCmp.Insertion
import Derived.Lib.SlicesCompact
import Derived.Shelf.SlSortCmp.InsertionK
import Derived.Lib.RowBridge
import Derived.Lib.ItoaNum
import Derived.Test.YtkmpbkgmdfeicaaGreatShelf
import Derived.Lib.OwnBridge
import Derived.Sort.OwnSorted
import Derived.OwnWalk
import Derived.Lib.Builder
import Derived.WalkSmall
import Derived.Deep.RegionHeld3
import Derived.Laws.BytesArg
namespace Go.Proofs.YtkmpbkgmdfeicaaGreat.SynJ
set_option linter.unusedVariables false
set_option linter.unusedSimpArgs false
open Go.RowKit Go.Sort Go.Proofs Go.Proofs.YtkmpbkgmdfeicaaGreat.Plain Go.Proofs.YtkmpbkgmdfeicaaGreat.SynP Go.Proofs.YtkmpbkgmdfeicaaGreat.Grown Go.Proofs.YtkmpbkgmdfeicaaGreat.SynE Go.Proofs.YtkmpbkgmdfeicaaGreat.Syn4
set_option linter.unusedVariables false
set_option linter.unusedSimpArgs false
theorem infoRole : (Tryz.prog.info? 44).map (fun i => (i.zero, i.size, i.bytes)) = some (some (.agg #[.string ⟨#[]⟩, .string ⟨#[]⟩]), 2, 32) := by kernel_rfl
def rcells (l : List Rl) : List Value := (l.map fun r => [Value.string r.owner, Value.string r.name]).flatten
/-- A slice value that reads as roles. -/
def RAt (w : World) (A : Option Addr) (l : List Rl) : Prop := 0 < l.length → ∃ g, A = some ⟨g, 0, none⟩ ∧ g < w.heap.size ∧ ∀ j, (h : j < l.length) → w.cell? ⟨g, j * 2, none⟩ = some (.string l[j].owner) ∧ w.cell? ⟨g, j * 2 + 1, none⟩ = some (.string l[j].name)
theorem RAt.below {w w' : World} {A : Option Addr} {l : List Rl} (h : RAt w A l) (hb : RowKit.Below w.heap.size w w') : RAt w' A l := fun hp => by
  obtain ⟨g, hA, hg, hc⟩ := h hp
  refine ⟨g, hA, Nat.lt_of_lt_of_le hg hb.size, fun j hj => ?_⟩
  obtain ⟨a, b⟩ := hc j hj
  exact ⟨(hb.cell (p := ⟨g, j * 2, none⟩) hg).trans a, (hb.cell (p := ⟨g, j * 2 + 1, none⟩) hg).trans b⟩
theorem rcells_at (L : List Rl) (j : Nat) (h : j < L.length) : (rcells L)[j * 2]? = some (.string L[j].owner) ∧ (rcells L)[j * 2 + 1]? = some (.string L[j].name) := by
  induction L generalizing j with
  | nil => simp at h
  | cons t L ih =>
    have e : rcells (t :: L) = [Value.string t.owner, Value.string t.name] ++ rcells L := by unfold rcells; simp
    rw [e]
    cases j with
    | zero => exact ⟨rfl, rfl⟩
    | succ j =>
      obtain ⟨a, b⟩ := ih j (by simpa using h)
      refine ⟨?_, ?_⟩ <;> rw [List.getElem?_append_right (by simp; omega)]
      · rw [show (j + 1) * 2 - [Value.string t.owner, Value.string t.name].length = j * 2 from by simp; omega]; exact a
      · rw [show (j + 1) * 2 + 1 - [Value.string t.owner, Value.string t.name].length = j * 2 + 1 from by simp; omega]; exact b
theorem rat_own {w : World} {B : Nat} {e : TypeId} {v : Value} {L : List Rl} (h : w.ownsRow B e 2 v L.length (rcells L)) : ∃ A cap, v = .slice A L.length cap ∧ RAt w A L := by
  rcases h.2 with ⟨rfl, h0⟩ | ⟨g, cap, cur, rfl, hB, hh, hc, hm, hs, ht⟩
  · exact ⟨none, 0, by rw [h0], fun hp => by omega⟩
  · refine ⟨_, _, rfl, fun hp => ⟨g, rfl, (h.lt g rfl).2, fun j hj => ?_⟩⟩
    obtain ⟨a, b⟩ := rcells_at L j hj
    rw [← ht] at a b
    rw [List.getElem?_take_of_lt (by omega)] at a b
    refine ⟨?_, ?_⟩ <;> rw [Lib.cell_of_heap hh]
    · rw [← Array.getElem?_toList]; exact a
    · rw [← Array.getElem?_toList]; exact b
theorem rat_new (w : World) (L : List Rl) (t : TypeId) : RAt (w.alloc (.cells (rcells L).toArray t)) (some ⟨w.heap.size, 0, none⟩) L := fun _ =>
  ⟨w.heap.size, rfl, by simp, fun j hj => by
    obtain ⟨a, b⟩ := rcells_at L j hj
    exact ⟨by rw [Lib.cell_of_heap (heap_alloc_new w _), List.getElem?_toArray]; exact a, by rw [Lib.cell_of_heap (heap_alloc_new w _), List.getElem?_toArray]; exact b⟩⟩
set_option maxRecDepth 100000 in
theorem sameRoles (A B : Option Addr) (ca cb : Nat) (L : List Rl) (w : World) (hL : L.length ≤ 1000) (hA : RAt w A L) (hB : RAt w B L) :
    Calls Tryz.prog 37 #[.slice A L.length ca, .slice B L.length cb] w fun e w' => e = .returned (.bool true) ∧ RowKit.Below w.heap.size w w' := by
  go_enter Tryz.func37, Tryz.ntmps37
  go_wp2
  go_loopw [13] (fun i wr => ∃ k : Nat, k ≤ L.length ∧ i = .int .i64 k ∧ ∃ n, wr = w.drewN n) (fun i _ => L.length - (intOf i).toNat)
  case atStart => exact ⟨0, by omega, rfl, 0, rfl⟩
  case round =>
    obtain ⟨k, hk, rfl, n, rfl⟩ := hrel
    by_cases hlt : k < L.length
    · obtain ⟨g1, rfl, _, h1⟩ := hA (by omega)
      obtain ⟨g2, rfl, _, h2⟩ := hB (by omega)
      obtain ⟨a1, b1⟩ := h1 k hlt
      obtain ⟨a2, b2⟩ := h2 k hlt
      have p1 : (0 : Int) ≤ k := by omega
      have p2 : (k : Int) < L.length := by omega
      have hq := fun w => neR L[k].owner L[k].name L[k].owner L[k].name w
      rw [decide_eq_true rfl] at hq
      clear h1 h2 hA hB
      go_wp2_with fail
      go_quiet (fail)
      go_wp2_with fail
      go_roundw
      case rel => exact ⟨k + 1, by omega, by go_num, _, rfl⟩
      case measure => simp [intOf]; omega
    · go_wp2_with fail
      go_ret
      exact ⟨rfl, below_drewN (Below.refl _ _) _⟩
/-- The roles of a statement: its head, and what its body names. -/
def rolesL (s : St) : List Rl := if s.kind = 2 ∨ s.kind = 3 then [s.head, s.a] else if s.kind = 4 then [s.head, s.a, s.b] else [s.head]
def RolesPost (s : St) (w : World) (e : Ending) (w' : World) : Prop := ∃ A, e = .returned (.slice A (rolesL s).length (rolesL s).length) ∧ RAt w' A (rolesL s) ∧ Grew w w'
set_option maxRecDepth 100000 in
theorem roles (s : St) (w : World) : Calls Tryz.prog 103 #[s.val] w (RolesPost s w) := by
  obtain ⟨k1, ⟨ho, hn⟩, wh, ⟨ao, an⟩, ⟨bo, bn⟩, v⟩ := s
  rcases kinds k1 with rfl | rfl | rfl | rfl | ⟨h1, h2, h3, h4⟩
  · have hn1 := rat_new (w.alloc (.cells #[.int .i64 1, .string ho, .string hn, .string wh, .string ao, .string an, .string bo, .string bn, .string v] 46)) [⟨ho, hn⟩] 44
    rw [World.size_alloc] at hn1
    have HN := Lib.hid hn1
    clear hn1
    have hr : Hid (rolesL ⟨1, ⟨ho, hn⟩, wh, ⟨ao, an⟩, ⟨bo, bn⟩, v⟩ = [⟨ho, hn⟩]) := Lib.hid rfl
    unfold St.val
    go_enter Tryz.func103, Tryz.ntmps103
    go_wp2
    go_ret
    exact ⟨_, by rw [hr.out]; rfl, by rw [hr.out]; exact HN.out, ((Grew.refl _).alloc _).alloc _⟩
  · have hn1 := rat_new (w.alloc (.cells #[.int .i64 2, .string ho, .string hn, .string wh, .string ao, .string an, .string bo, .string bn, .string v] 46)) [⟨ho, hn⟩, ⟨ao, an⟩] 44
    rw [World.size_alloc] at hn1
    have HN := Lib.hid hn1
    clear hn1
    have hr : Hid (rolesL ⟨2, ⟨ho, hn⟩, wh, ⟨ao, an⟩, ⟨bo, bn⟩, v⟩ = [⟨ho, hn⟩, ⟨ao, an⟩]) := Lib.hid rfl
    unfold St.val
    go_enter Tryz.func103, Tryz.ntmps103
    go_wp2
    go_ret
    exact ⟨_, by rw [hr.out]; rfl, by rw [hr.out]; exact HN.out, ((Grew.refl _).alloc _).alloc _⟩
  · have hn1 := rat_new (w.alloc (.cells #[.int .i64 3, .string ho, .string hn, .string wh, .string ao, .string an, .string bo, .string bn, .string v] 46)) [⟨ho, hn⟩, ⟨ao, an⟩] 44
    rw [World.size_alloc] at hn1
    have HN := Lib.hid hn1
    clear hn1
    have hr : Hid (rolesL ⟨3, ⟨ho, hn⟩, wh, ⟨ao, an⟩, ⟨bo, bn⟩, v⟩ = [⟨ho, hn⟩, ⟨ao, an⟩]) := Lib.hid rfl
    unfold St.val
    go_enter Tryz.func103, Tryz.ntmps103
    go_wp2
    go_ret
    exact ⟨_, by rw [hr.out]; rfl, by rw [hr.out]; exact HN.out, ((Grew.refl _).alloc _).alloc _⟩
  · have hn1 := rat_new (w.alloc (.cells #[.int .i64 4, .string ho, .string hn, .string wh, .string ao, .string an, .string bo, .string bn, .string v] 46)) [⟨ho, hn⟩, ⟨ao, an⟩, ⟨bo, bn⟩] 44
    rw [World.size_alloc] at hn1
    have HN := Lib.hid hn1
    clear hn1
    have hr : Hid (rolesL ⟨4, ⟨ho, hn⟩, wh, ⟨ao, an⟩, ⟨bo, bn⟩, v⟩ = [⟨ho, hn⟩, ⟨ao, an⟩, ⟨bo, bn⟩]) := Lib.hid rfl
    unfold St.val
    go_enter Tryz.func103, Tryz.ntmps103
    go_wp2
    go_ret
    exact ⟨_, by rw [hr.out]; rfl, by rw [hr.out]; exact HN.out, ((Grew.refl _).alloc _).alloc _⟩
  · have hn1 := rat_new (w.alloc (.cells #[.int .i64 k1, .string ho, .string hn, .string wh, .string ao, .string an, .string bo, .string bn, .string v] 46)) [⟨ho, hn⟩] 44
    rw [World.size_alloc] at hn1
    have HN := Lib.hid hn1
    clear hn1
    have e2 : (k1 == 2) = false := by simpa using h2
    have e3 : (k1 == 3) = false := by simpa using h3
    have e4 : (k1 == 4) = false := by simpa using h4
    have hr : Hid (rolesL ⟨k1, ⟨ho, hn⟩, wh, ⟨ao, an⟩, ⟨bo, bn⟩, v⟩ = [⟨ho, hn⟩]) := Lib.hid (by unfold rolesL; rw [if_neg (fun e => e.elim h2 h3), if_neg h4])
    clear h1 h2 h3 h4
    unfold St.val
    go_enter Tryz.func103, Tryz.ntmps103
    go_wp2
    go_ret
    exact ⟨_, by rw [hr.out]; rfl, by rw [hr.out]; exact HN.out, ((Grew.refl _).alloc _).alloc _⟩
end Go.Proofs.YtkmpbkgmdfeicaaGreat.SynJ
/- A slice value that reads as statements; a copy of it. -/
namespace Go.Proofs.YtkmpbkgmdfeicaaGreat.SynD2
set_option linter.unusedVariables false
set_option linter.unusedSimpArgs false
open Go.RowKit Go.Sort Go.Proofs.YtkmpbkgmdfeicaaGreat.Plain Go.Proofs.YtkmpbkgmdfeicaaGreat.SynP Go.Proofs.YtkmpbkgmdfeicaaGreat.SynC
def stCells (L : List St) : List Value := (L.map St.cells).flatten
theorem stCells_cons (t : St) (L : List St) : stCells (t :: L) = t.cells ++ stCells L := by unfold stCells; simp
theorem stCells_app (L K : List St) : stCells (L ++ K) = stCells L ++ stCells K := by unfold stCells; simp
theorem stCells_len (L : List St) : (stCells L).length = L.length * 9 := by
  induction L with
  | nil => rfl
  | cons t L ih => rw [stCells_cons, List.length_append, ih, List.length_cons, Nat.succ_mul]; show 9 + _ = _; omega
theorem stCells_one (L : List St) : ∀ u ∈ stCells L, u.oneCell' = true := by
  intro u hu
  unfold stCells at hu
  rw [List.mem_flatten] at hu
  obtain ⟨l, hl, hu⟩ := hu
  obtain ⟨t, _, rfl⟩ := List.mem_map.1 hl
  simp [St.cells] at hu
  rcases hu with rfl | rfl | rfl | rfl | rfl | rfl | rfl | rfl | rfl <;> rfl
theorem stCells_at (L : List St) (j k : Nat) (h : j < L.length) (hk : k < 9) : (stCells L)[j * 9 + k]? = L[j].cells[k]? := by
  induction L generalizing j with
  | nil => simp at h
  | cons t L ih =>
    have hl : t.cells.length = 9 := rfl
    rw [stCells_cons]
    cases j with
    | zero => rw [List.getElem?_append_left (by rw [hl]; omega)]; simp
    | succ j =>
      rw [List.getElem?_append_right (by rw [hl]; omega), hl, show (j + 1) * 9 + k - 9 = j * 9 + k from by omega]
      exact ih j (by simpa using h)
/-- A slice value's place that reads as statements. -/
def StAt (w : World) (A : Option Addr) (L : List St) : Prop :=
  0 < L.length → ∃ g o, A = some ⟨g, o, none⟩ ∧ g < w.heap.size ∧ ∀ j u, (stCells L)[j]? = some u → w.cell? ⟨g, o + j, none⟩ = some u
theorem StAt.below {w w' : World} {A : Option Addr} {L : List St} (h : StAt w A L) (hb : Below w.heap.size w w') : StAt w' A L := fun hp => by
  obtain ⟨g, o, hA, hg, hc⟩ := h hp
  exact ⟨g, o, hA, Nat.lt_of_lt_of_le hg hb.size, fun j u hu => (hb.cell (p := ⟨g, o + j, none⟩) hg).trans (hc j u hu)⟩
theorem StAt.of_own {w : World} {B : Nat} {e : TypeId} {v : Value} {L : List St} (h : w.ownsRow B e 9 v L.length (stCells L)) : ∃ A cap, v = .slice A L.length cap ∧ L.length ≤ cap ∧ StAt w A L := by
  rcases h.2 with ⟨rfl, h0⟩ | ⟨g, cap, cur, rfl, hB, hh, hc, hm, hs, ht⟩
  · exact ⟨none, 0, by rw [h0], by omega, fun hp => by omega⟩
  · refine ⟨_, _, rfl, hc, fun hp => ⟨g, 0, rfl, ?_, fun j u hu => ?_⟩⟩
    · exact (h.lt g rfl).2
    · have hj : j < (stCells L).length := by
        rcases Nat.lt_or_ge j (stCells L).length with h | h
        · exact h
        · rw [List.getElem?_eq_none h] at hu; cases hu
      rw [stCells_len] at hj
      rw [← ht, List.getElem?_take_of_lt (by omega)] at hu
      rw [Nat.zero_add, Lib.cell_of_heap hh, ← Array.getElem?_toList]
      exact hu
/-- Its nine cells. -/
theorem StAt.nine {w : World} {A : Option Addr} {L : List St} (h : StAt w A L) (j : Nat) (hj : j < L.length) : ∃ g o, A = some ⟨g, o, none⟩ ∧ g < w.heap.size ∧ ∀ k u, L[j].cells[k]? = some u → w.cell? ⟨g, o + (j * 9 + k), none⟩ = some u := by
  obtain ⟨g, o, hA, hg, hc⟩ := h (by omega)
  refine ⟨g, o, hA, hg, fun k u hu => ?_⟩
  have hk : k < 9 := by
    rcases Nat.lt_or_ge k 9 with h | h
    · exact h
    · rw [List.getElem?_eq_none (by show 9 ≤ k; exact h)] at hu; cases hu
  exact hc _ u ((stCells_at L j k hj hk).trans hu)
theorem infoSt : (Tryz.prog.info? 46).map (fun i => (i.zero, i.size, i.bytes)) = some (some zeroS.val, 9, 136) := by kernel_rfl
def ClonePost (L : List St) (w : World) (e : Ending) (w' : World) : Prop := ∃ v, e = .returned v ∧ w'.ownsRow w.heap.size 46 9 v L.length (stCells L) ∧ Below w.heap.size w w'
set_option maxRecDepth 100000 in
theorem cloneSt (A : Option Addr) (ca : Nat) (L : List St) (w : World) (hL : L.length ≤ 10000) (hA : StAt w A L) : Calls Tryz.prog 94 #[.slice A L.length ca] w (ClonePost L w) := by
  obtain ⟨i0, hi, hz0, hz1, hz2⟩ := info_parts infoSt
  cases A with
  | none =>
    have : L = [] := by
      rcases Nat.eq_zero_or_pos L.length with h | h
      · exact List.eq_nil_of_length_eq_zero h
      · obtain ⟨g, o, h, _⟩ := hA h; cases h
    subst this
    have es := fun (w : World) (a : Option Addr) (n c : Nat) => Lib.run_eql_slice_nil (P := Tryz.prog) w 22 46 a n c 0 0 Tryz.underlying22
    go_enter Tryz.func94, Tryz.ntmps94
    go_wp2_with fail
    go_ret
    exact ⟨_, rfl, World.ownsRow_nil _ _ _ _, Below.refl _ _⟩
  | some ad =>
    have hcells : ∀ ad', some ad = some ad' → ∀ j u, (stCells L)[j]? = some u → (w.alloc (.cells #[] 46)).cell? (ad'.add j) = some u := by
      rintro ad' ⟨⟩ j u hu
      have hj : 0 < L.length := by
        rcases Nat.eq_zero_or_pos L.length with h | h
        · have : L = [] := List.eq_nil_of_length_eq_zero h
          subst this; simp [stCells] at hu
        · exact h
      obtain ⟨g, o, h, hg, hc⟩ := hA hj
      injection h with h
      subst h
      rw [add_off, World.cell?_alloc_past _ _ _ hg]
      exact hc j u hu
    have Hc := Lib.hid hcells
    clear hcells hA
    have es := fun (w : World) (a : Option Addr) (n c : Nat) => Lib.run_eql_slice_nil (P := Tryz.prog) w 22 46 a n c 0 0 Tryz.underlying22
    go_enter Tryz.func94, Tryz.ntmps94
    go_wp2_with (at_builtin; refine wpList_append_from _ rfl _ _ 22 rfl w.heap.size 46 i0 zeroS.val 9 136 Tryz.underlying22 hi hz0 hz1 hz2 rfl (by decide) _ _ _ rfl (own_empty w _ 9) (some ad) L.length ca (stCells L) rfl (stCells_len L) (fun h => by cases h) Hc.out (stCells_one L) (by unfold maxLen; omega) (by omega) (by simp) ?_)
    intro v' w1 hown hgrow
    have hb : Below w.heap.size w w1 := ((Below.refl _ _).alloc (Nat.le_refl _) _).grown hgrow (by simp) (fun k hk => by simp [Value.ownBlock] at hk; omega)
    go_wp2_with fail
    go_ret
    exact ⟨_, rfl, by simpa using hown, hb⟩
end Go.Proofs.YtkmpbkgmdfeicaaGreat.SynD2
/- Rows of statements: is one there, and are two the same. -/
namespace Go.Proofs.YtkmpbkgmdfeicaaGreat.SynD3
set_option linter.unusedVariables false
set_option linter.unusedSimpArgs false
open Go.RowKit Go.Sort Go.Proofs Go.Proofs.YtkmpbkgmdfeicaaGreat.Plain Go.Proofs.YtkmpbkgmdfeicaaGreat.SynP Go.Proofs.YtkmpbkgmdfeicaaGreat.SynE Go.Proofs.YtkmpbkgmdfeicaaGreat.SynD2
set_option linter.unusedVariables false
set_option linter.unusedSimpArgs false
/-- A slice value that reads as statements, from its block's begin. -/
def StRow (w : World) (A : Option Addr) (L : List St) : Prop :=
  0 < L.length → ∃ g, A = some ⟨g, 0, none⟩ ∧ g < w.heap.size ∧ ∀ j, (h : j < L.length) → w.cell? ⟨g, j * 9, none⟩ = some (.int .i64 L[j].kind) ∧ w.cell? ⟨g, j * 9 + 1, none⟩ = some (.string L[j].head.owner) ∧ w.cell? ⟨g, j * 9 + 2, none⟩ = some (.string L[j].head.name) ∧ w.cell? ⟨g, j * 9 + 3, none⟩ = some (.string L[j].who) ∧ w.cell? ⟨g, j * 9 + 4, none⟩ = some (.string L[j].a.owner) ∧ w.cell? ⟨g, j * 9 + 5, none⟩ = some (.string L[j].a.name) ∧ w.cell? ⟨g, j * 9 + 6, none⟩ = some (.string L[j].b.owner) ∧ w.cell? ⟨g, j * 9 + 7, none⟩ = some (.string L[j].b.name) ∧ w.cell? ⟨g, j * 9 + 8, none⟩ = some (.string L[j].via)
theorem StRow.of_own {w : World} {B : Nat} {e : TypeId} {v : Value} {L : List St} (h : w.ownsRow B e 9 v L.length (stCells L)) : ∃ A cap, v = .slice A L.length cap ∧ L.length ≤ cap ∧ StRow w A L := by
  rcases h.2 with ⟨rfl, h0⟩ | ⟨g, cap, cur, rfl, hB, hh, hc, hm, hs, ht⟩
  · exact ⟨none, 0, by rw [h0], by omega, fun hp => by omega⟩
  · refine ⟨_, _, rfl, hc, fun hp => ⟨g, rfl, (h.lt g rfl).2, fun j hj => ?_⟩⟩
    have key : ∀ k u, k < 9 → L[j].cells[k]? = some u → w.cell? ⟨g, j * 9 + k, none⟩ = some u := fun k u hk hu => by
      have q := (stCells_at L j k hj hk).trans hu
      rw [← ht, List.getElem?_take_of_lt (by omega)] at q
      rw [Lib.cell_of_heap hh, ← Array.getElem?_toList]
      exact q
    exact ⟨key 0 _ (by omega) rfl, key 1 _ (by omega) rfl, key 2 _ (by omega) rfl, key 3 _ (by omega) rfl, key 4 _ (by omega) rfl, key 5 _ (by omega) rfl, key 6 _ (by omega) rfl, key 7 _ (by omega) rfl, key 8 _ (by omega) rfl⟩
theorem StRow.below {w w' : World} {A : Option Addr} {L : List St} (h : StRow w A L) (hb : Below w.heap.size w w') : StRow w' A L := fun hp => by
  obtain ⟨g, hA, hg, hc⟩ := h hp
  refine ⟨g, hA, Nat.lt_of_lt_of_le hg hb.size, fun j hj => ?_⟩
  obtain ⟨a0, a1, a2, a3, a4, a5, a6, a7, a8⟩ := hc j hj
  exact ⟨(hb.cell (p := ⟨g, j * 9, none⟩) hg).trans a0, (hb.cell (p := ⟨g, j * 9 + 1, none⟩) hg).trans a1, (hb.cell (p := ⟨g, j * 9 + 2, none⟩) hg).trans a2, (hb.cell (p := ⟨g, j * 9 + 3, none⟩) hg).trans a3, (hb.cell (p := ⟨g, j * 9 + 4, none⟩) hg).trans a4, (hb.cell (p := ⟨g, j * 9 + 5, none⟩) hg).trans a5, (hb.cell (p := ⟨g, j * 9 + 6, none⟩) hg).trans a6, (hb.cell (p := ⟨g, j * 9 + 7, none⟩) hg).trans a7, (hb.cell (p := ⟨g, j * 9 + 8, none⟩) hg).trans a8⟩
set_option maxHeartbeats 1000000 in
set_option maxRecDepth 100000 in
theorem sameSt (A B : Option Addr) (ca cb : Nat) (L : List St) (w : World) (hL : L.length ≤ 1000) (hA : StRow w A L) (hB : StRow w B L) :
    Calls Tryz.prog 35 #[.slice A L.length ca, .slice B L.length cb] w fun e w' => e = .returned (.bool true) ∧ RowKit.Below w.heap.size w w' := by
  go_enter Tryz.func35, Tryz.ntmps35
  go_wp2
  go_loopw [13] (fun i wr => ∃ k : Nat, k ≤ L.length ∧ i = .int .i64 k ∧ ∃ n, wr = w.drewN n) (fun i _ => L.length - (intOf i).toNat)
  case atStart => exact ⟨0, by omega, rfl, 0, rfl⟩
  case round =>
    obtain ⟨k, hk, rfl, n, rfl⟩ := hrel
    by_cases hlt : k < L.length
    · obtain ⟨g1, rfl, _, h1⟩ := hA (by omega)
      obtain ⟨g2, rfl, _, h2⟩ := hB (by omega)
      obtain ⟨a0, a1, a2, a3, a4, a5, a6, a7, a8⟩ := h1 k hlt
      obtain ⟨b0, b1, b2, b3, b4, b5, b6, b7, b8⟩ := h2 k hlt
      have p1 : (0 : Int) ≤ k := by omega
      have p2 : (k : Int) < L.length := by omega
      have hq := fun w => neS L[k].kind L[k].head.owner L[k].head.name L[k].who L[k].a.owner L[k].a.name L[k].b.owner L[k].b.name L[k].via L[k].kind L[k].head.owner L[k].head.name L[k].who L[k].a.owner L[k].a.name L[k].b.owner L[k].b.name L[k].via w
      rw [decide_eq_true rfl] at hq
      clear h1 h2 hA hB
      go_wp2_with fail
      go_quiet (fail)
      go_wp2_with fail
      go_roundw
      case rel => exact ⟨k + 1, by omega, by go_num, _, rfl⟩
      case measure => simp [intOf]; omega
    · go_wp2_with fail
      go_ret
      exact ⟨rfl, below_drewN (Below.refl _ _) _⟩
set_option maxHeartbeats 1000000 in
set_option maxRecDepth 100000 in
theorem has (A : Option Addr) (ca : Nat) (L : List St) (s : St) (w : World) (hL : L.length ≤ 1000) (hA : StRow w A L) :
    Calls Tryz.prog 80 #[.slice A L.length ca, s.val] w fun e w' => e = .returned (.bool (decide (s ∈ L))) ∧ RowKit.Below w.heap.size w w' := by
  obtain ⟨k1, ⟨ho, hn⟩, wh, ⟨ao, an⟩, ⟨bo, bn⟩, v⟩ := s
  have hown : ∀ (wr : World), Below (w.heap.size + 1) (w.alloc (.cells #[.int .i64 k1, .string ho, .string hn, .string wh, .string ao, .string an, .string bo, .string bn, .string v] 46)) wr → wr.cell? ⟨w.heap.size, 0, none⟩ = some (.int .i64 k1) ∧ wr.cell? ⟨w.heap.size, 1, none⟩ = some (.string ho) ∧ wr.cell? ⟨w.heap.size, 2, none⟩ = some (.string hn) ∧ wr.cell? ⟨w.heap.size, 3, none⟩ = some (.string wh) ∧ wr.cell? ⟨w.heap.size, 4, none⟩ = some (.string ao) ∧ wr.cell? ⟨w.heap.size, 5, none⟩ = some (.string an) ∧ wr.cell? ⟨w.heap.size, 6, none⟩ = some (.string bo) ∧ wr.cell? ⟨w.heap.size, 7, none⟩ = some (.string bn) ∧ wr.cell? ⟨w.heap.size, 8, none⟩ = some (.string v) := fun wr hb => by
    refine ⟨?_, ?_, ?_, ?_, ?_, ?_, ?_, ?_, ?_⟩ <;> rw [hb.cell (by simp)] <;> rw [Lib.cell_of_heap (heap_alloc_new w _)] <;> rfl
  have HO := Lib.hid hown
  clear hown
  have HA := Lib.hid hA
  clear hA
  unfold St.val
  go_enter Tryz.func80, Tryz.ntmps80
  go_wp2_with fail
  go_loopw [9] (fun i wr => ∃ k : Nat, k ≤ L.length ∧ i = .int .i64 k ∧ Hid ((⟨k1, ⟨ho, hn⟩, wh, ⟨ao, an⟩, ⟨bo, bn⟩, v⟩ : St) ∉ L.take k) ∧ Below (w.heap.size + 1) (w.alloc (.cells #[.int .i64 k1, .string ho, .string hn, .string wh, .string ao, .string an, .string bo, .string bn, .string v] 46)) wr) (fun i _ => L.length - (intOf i).toNat)
  case atStart => exact ⟨0, by omega, rfl, Lib.hid (by simp), Below.refl _ _⟩
  case round =>
    obtain ⟨k, hk, rfl, hrun, hbel⟩ := hrel
    have hb0 : Below w.heap.size w wr := ((Below.refl w.heap.size w).alloc (Nat.le_refl _) _).trans (hbel.mono (by omega))
    have hsz : w.heap.size + 1 ≤ wr.heap.size := by have := hbel.size; simpa using this
    by_cases hlt : k < L.length
    · obtain ⟨g1, rfl, hg1, h1⟩ := (HA.out.below hb0) (by omega)
      obtain ⟨a0, a1, a2, a3, a4, a5, a6, a7, a8⟩ := h1 k hlt
      obtain ⟨b0, b1, b2, b3, b4, b5, b6, b7, b8⟩ := HO.out _ (hbel.alloc hsz (.cells #[.int .i64 L[k].kind, .string L[k].head.owner, .string L[k].head.name, .string L[k].who, .string L[k].a.owner, .string L[k].a.name, .string L[k].b.owner, .string L[k].b.name, .string L[k].via] 46))
      have p1 : (0 : Int) ≤ k := by omega
      have p2 : (k : Int) < L.length := by omega
      clear h1
      by_cases he : L[k] = (⟨k1, ⟨ho, hn⟩, wh, ⟨ao, an⟩, ⟨bo, bn⟩, v⟩ : St)
      · have hfin : Hid (decide ((⟨k1, ⟨ho, hn⟩, wh, ⟨ao, an⟩, ⟨bo, bn⟩, v⟩ : St) ∈ L) = true) := Lib.hid (decide_eq_true (he ▸ List.getElem_mem hlt))
        have hq := fun w => eqS L[k].kind L[k].head.owner L[k].head.name L[k].who L[k].a.owner L[k].a.name L[k].b.owner L[k].b.name L[k].via k1 ho hn wh ao an bo bn v w
        rw [decide_eq_true (p := (⟨L[k].kind, ⟨L[k].head.owner, L[k].head.name⟩, L[k].who, ⟨L[k].a.owner, L[k].a.name⟩, ⟨L[k].b.owner, L[k].b.name⟩, L[k].via⟩ : St) = ⟨k1, ⟨ho, hn⟩, wh, ⟨ao, an⟩, ⟨bo, bn⟩, v⟩) he] at hq
        clear hrun he
        go_wp2_with fail
        go_ret
        exact ⟨ret_bool hfin.out.symm, hb0.alloc hb0.size _⟩
      · have hnext : Hid ((⟨k1, ⟨ho, hn⟩, wh, ⟨ao, an⟩, ⟨bo, bn⟩, v⟩ : St) ∉ L.take (k + 1)) := Lib.hid (by
          rw [List.take_succ_eq_append_getElem hlt, List.mem_append, List.mem_singleton]
          rintro (h | h)
          · exact hrun.out h
          · exact he h.symm)
        have hq := fun w => eqS L[k].kind L[k].head.owner L[k].head.name L[k].who L[k].a.owner L[k].a.name L[k].b.owner L[k].b.name L[k].via k1 ho hn wh ao an bo bn v w
        rw [decide_eq_false (p := (⟨L[k].kind, ⟨L[k].head.owner, L[k].head.name⟩, L[k].who, ⟨L[k].a.owner, L[k].a.name⟩, ⟨L[k].b.owner, L[k].b.name⟩, L[k].via⟩ : St) = ⟨k1, ⟨ho, hn⟩, wh, ⟨ao, an⟩, ⟨bo, bn⟩, v⟩) he] at hq
        clear hrun he
        go_wp2_with fail
        go_roundw
        case rel => exact ⟨k + 1, by omega, by go_num, hnext, hbel.alloc hsz _⟩
        case measure => simp [intOf]; omega
    · have hfin : Hid (decide ((⟨k1, ⟨ho, hn⟩, wh, ⟨ao, an⟩, ⟨bo, bn⟩, v⟩ : St) ∈ L) = false) := Lib.hid (decide_eq_false (by
        have := hrun.out
        rwa [List.take_of_length_le (by omega)] at this))
      clear hrun
      go_wp2_with fail
      go_ret
      exact ⟨ret_bool hfin.out.symm, hb0⟩
end Go.Proofs.YtkmpbkgmdfeicaaGreat.SynD3
/- How statements stand: a strict weak order, as the library's sort asks it. -/
namespace Go.Proofs.YtkmpbkgmdfeicaaGreat.SynD
set_option linter.unusedVariables false
set_option linter.unusedSimpArgs false
open Go.Sort Go.Proofs Go.Proofs.YtkmpbkgmdfeicaaGreat.SynP
variable {α β : Type}
/-- A three-way comparison: it turns its sign with its arguments, goes through, and 0 is a congruence. -/
structure Tri (c : α → α → Int) : Prop where
  same : ∀ x, c x x = 0
  anti : ∀ x y, c y x = - c x y
  thru : ∀ x y z, c x y < 0 → c y z < 0 → c x z < 0
  cong : ∀ x y z, c x y = 0 → c y z = c x z
theorem orL_nil' : orL [] = 0 := rfl
theorem orL_cons' (x : Int) (l : List Int) : orL (x :: l) = if x ≠ 0 then x else orL l := rfl
theorem tri_nil : Tri (fun (_ _ : α) => orL []) :=
  ⟨fun _ => rfl, fun _ _ => rfl, fun _ _ _ h => by rw [orL_nil'] at h; omega, fun _ _ _ _ => rfl⟩
theorem tri_cons {c : α → α → Int} {l : α → α → List Int} (H : Tri c) (K : Tri fun x y => orL (l x y)) : Tri fun x y => orL (c x y :: l x y) := by
  refine ⟨fun x => ?_, fun x y => ?_, fun x y z h1 h2 => ?_, fun x y z h => ?_⟩
  · have h1 := H.same x
    have h2 := K.same x
    rw [orL_cons', h1, h2]; rfl
  · have h1 := H.anti x y
    have h2 := K.anti x y
    simp only [orL_cons']
    rw [h1, h2]
    split <;> split <;> omega
  · simp only [orL_cons'] at *
    by_cases e1 : c x y = 0
    · rw [if_neg (fun h => h e1)] at h1
      rw [← H.cong x y z e1]
      by_cases e2 : c y z = 0
      · rw [if_neg (fun h => h e2)] at *
        exact K.thru x y z h1 h2
      · rw [if_pos e2] at *; exact h2
    · rw [if_pos e1] at h1
      by_cases e2 : c y z = 0
      · have a1 := H.anti y z
        have a2 := H.cong z y x (by omega)
        have a3 := H.anti x y
        have a4 := H.anti z x
        have a5 : c x z = c x y := by omega
        rw [a5, if_pos e1]; exact h1
      · rw [if_pos e2] at h2
        have a1 := H.thru x y z h1 h2
        rw [if_pos (by omega)]; exact a1
  · simp only [orL_cons'] at *
    by_cases e1 : c x y = 0
    · rw [if_neg (fun h => h e1)] at h
      have a2 := K.cong x y z h
      rw [H.cong x y z e1, a2]
    · rw [if_pos e1] at h; exact absurd h e1
theorem tri_by {c : β → β → Int} (f : α → β) (H : Tri c) : Tri fun x y => c (f x) (f y) :=
  ⟨fun _ => H.same _, fun _ _ => H.anti _ _, fun _ _ _ => H.thru _ _ _, fun _ _ _ => H.cong _ _ _⟩
theorem tri_B : Tri cmpB :=
  ⟨fun _ => cmpB_eq.2 rfl, cmpB_anti, fun _ _ _ h1 h2 => cmpB_lt.2 (strLt_trans (cmpB_lt.1 h1) (cmpB_lt.1 h2)), fun _ _ _ h => by rw [cmpB_eq.1 h]⟩
theorem tri_N : Tri cmpN := by
  refine ⟨fun x => ?_, fun x y => ?_, fun x y z h1 h2 => ?_, fun x y z h => ?_⟩ <;> unfold cmpN at *
  · split <;> (try split) <;> omega
  · (repeat' split) <;> omega
  · revert h1 h2; (repeat' split) <;> omega
  · revert h; (repeat' split) <;> omega
theorem tri_R : Tri cmpR := tri_cons (tri_by Rl.owner tri_B) (tri_cons (tri_by Rl.name tri_B) tri_nil)
theorem tri_S : Tri cmpS :=
  tri_cons (tri_by St.head tri_R) (tri_cons (tri_by St.kind tri_N) (tri_cons (tri_by St.who tri_B) (tri_cons (tri_by St.a tri_R) (tri_cons (tri_by St.b tri_R) (tri_cons (tri_by St.via tri_B) tri_nil)))))
theorem swo_of {c : α → α → Int} (H : Tri c) : SWO (ltOf c) := by
  refine ⟨fun x => ?_, fun x y z h1 h2 => ?_, fun x y z h1 h2 => ?_⟩
  · exact decide_eq_false (by rw [H.same]; omega)
  · exact decide_eq_true (H.thru x y z (of_decide_eq_true h1) (of_decide_eq_true h2))
  · have h1 := of_decide_eq_false h1
    have h2 := of_decide_eq_false h2
    refine decide_eq_false fun h => ?_
    have a1 := H.anti x y
    have a2 := H.anti y z
    have a3 := H.anti x z
    by_cases e1 : c x y = 0
    · have := H.cong x y z e1; omega
    · by_cases e2 : c y z = 0
      · have := H.cong z y x (by omega); omega
      · have := H.thru z y x (by omega) (by omega); omega
theorem swo_S : SWO (ltOf cmpS) := swo_of tri_S
/-- What stands strictly in order. -/
def Strict (c : α → α → Int) (l : List α) : Prop := l.Pairwise fun x y => c x y < 0
/-- Two that stand strictly in order and have the same members are one. -/
theorem strict_one {c : α → α → Int} (H : Tri c) : ∀ {l l' : List α}, Strict c l → Strict c l' → (∀ x, x ∈ l ↔ x ∈ l') → l = l'
  | [], [], _, _, _ => rfl
  | [], y :: _, _, _, h => absurd ((h y).2 List.mem_cons_self) List.not_mem_nil
  | x :: _, [], _, _, h => absurd ((h x).1 List.mem_cons_self) List.not_mem_nil
  | x :: t, y :: t', h1, h2, h => by
    obtain ⟨a1, b1⟩ := List.pairwise_cons.1 h1
    obtain ⟨a2, b2⟩ := List.pairwise_cons.1 h2
    have irr : ∀ z, ¬ c z z < 0 := fun z => by rw [H.same]; omega
    have e : x = y := by
      rcases List.mem_cons.1 ((h x).1 List.mem_cons_self) with e | e
      · exact e
      · rcases List.mem_cons.1 ((h y).2 List.mem_cons_self) with e' | e'
        · exact e'.symm
        · exact absurd (H.thru _ _ _ (a2 x e) (a1 y e')) (irr y)
    subst e
    have e : t = t' := strict_one H b1 b2 fun z => by
      constructor
      · intro hz
        rcases List.mem_cons.1 ((h z).1 (List.mem_cons_of_mem _ hz)) with e | e
        · subst e; exact absurd (a1 _ hz) (irr _)
        · exact e
      · intro hz
        rcases List.mem_cons.1 ((h z).2 (List.mem_cons_of_mem _ hz)) with e | e
        · subst e; exact absurd (a2 _ hz) (irr _)
        · exact e
    rw [e]
/-- The first of each run of equals. -/
def compL (c : α → α → Int) : List α → List α
  | [] => []
  | [x] => [x]
  | x :: y :: t => if c x y = 0 then compL c (y :: t) else x :: compL c (y :: t)
theorem compL_mem {c : α → α → Int} (E : ∀ x y, c x y = 0 → x = y) : ∀ (l : List α) (z : α), z ∈ compL c l ↔ z ∈ l
  | [], _ => Iff.rfl
  | [_], _ => Iff.rfl
  | x :: y :: t, z => by
    unfold compL
    have K := compL_mem E (y :: t) z
    split
    · rename_i h
      rw [K, E x y h]; simp
    · rw [List.mem_cons, K, List.mem_cons (a := z) (b := x)]
theorem compL_strict {c : α → α → Int} (H : Tri c) (E : ∀ x y, c x y = 0 → x = y) : ∀ (l : List α), (l.Pairwise fun x y => ¬ c y x < 0) → Strict c (compL c l)
  | [], _ => List.Pairwise.nil
  | [_], _ => List.pairwise_singleton _ _
  | x :: y :: t, h => by
    obtain ⟨a1, b1⟩ := List.pairwise_cons.1 h
    have K := compL_strict H E (y :: t) b1
    unfold compL
    split
    · exact K
    · rename_i hn
      refine List.pairwise_cons.2 ⟨fun z hz => ?_, K⟩
      have hz := (compL_mem E _ _).1 hz
      have q1 : c x y < 0 := by have := a1 y List.mem_cons_self; have := H.anti x y; omega
      rcases List.mem_cons.1 hz with e | e
      · rw [e]; exact q1
      · obtain ⟨a2, _⟩ := List.pairwise_cons.1 b1
        have q2 := a2 z e
        have q3 := H.anti y z
        by_cases e0 : c y z = 0
        · rw [← E y z e0]; exact q1
        · exact H.thru x y z q1 (by omega)
/-- One put in its place. -/
def insL (c : α → α → Int) (s : α) : List α → List α
  | [] => [s]
  | x :: t => if c x s < 0 then x :: insL c s t else s :: x :: t
theorem insL_mem {c : α → α → Int} (s : α) : ∀ (l : List α) (z : α), z ∈ insL c s l ↔ z = s ∨ z ∈ l
  | [], z => by simp [insL]
  | x :: t, z => by
    unfold insL
    split
    · rw [List.mem_cons, insL_mem s t z, List.mem_cons]
      constructor
      · rintro (h | h | h)
        · exact .inr (.inl h)
        · exact .inl h
        · exact .inr (.inr h)
      · rintro (h | h | h)
        · exact .inr (.inl h)
        · exact .inl h
        · exact .inr (.inr h)
    · rw [List.mem_cons]
theorem insL_strict {c : α → α → Int} (H : Tri c) (E : ∀ x y, c x y = 0 → x = y) (s : α) : ∀ (l : List α), s ∉ l → Strict c l → Strict c (insL c s l)
  | [], _, _ => List.pairwise_singleton _ _
  | x :: t, hs, h => by
    obtain ⟨a1, b1⟩ := List.pairwise_cons.1 h
    unfold insL
    split
    · rename_i hx
      refine List.pairwise_cons.2 ⟨fun z hz => ?_, insL_strict H E s t (fun e => hs (List.mem_cons_of_mem _ e)) b1⟩
      rcases (insL_mem s t z).1 hz with e | e
      · rw [e]; exact hx
      · exact a1 z e
    · rename_i hx
      have q := H.anti x s
      have q1 : c s x < 0 := by
        by_cases e0 : c x s = 0
        · exact absurd (by rw [E x s e0]; exact List.mem_cons_self) hs
        · omega
      refine List.pairwise_cons.2 ⟨fun z hz => ?_, h⟩
      rcases List.mem_cons.1 hz with e | e
      · rw [e]; exact q1
      · exact H.thru _ _ _ q1 (a1 z e)
/-- The document's way: each that isn't there yet is put in its place. -/
def sortL (c : α → α → Int) [DecidableEq α] : List α → List α → List α
  | acc, [] => acc
  | acc, s :: t => sortL c (if s ∈ acc then acc else insL c s acc) t
theorem sortL_mem {c : α → α → Int} [DecidableEq α] : ∀ (l acc : List α) (z : α), z ∈ sortL c acc l ↔ z ∈ acc ∨ z ∈ l
  | [], acc, z => by simp [sortL]
  | s :: t, acc, z => by
    unfold sortL
    rw [sortL_mem t]
    split
    · rename_i h
      rw [List.mem_cons]
      constructor
      · rintro (h' | h')
        · exact .inl h'
        · exact .inr (.inr h')
      · rintro (h' | h' | h')
        · exact .inl h'
        · rw [h']; exact .inl h
        · exact .inr h'
    · rw [insL_mem, List.mem_cons, or_comm (a := z = s), or_assoc]
theorem sortL_strict {c : α → α → Int} [DecidableEq α] (H : Tri c) (E : ∀ x y, c x y = 0 → x = y) : ∀ (l acc : List α), Strict c acc → Strict c (sortL c acc l)
  | [], _, h => h
  | s :: t, acc, h => by
    unfold sortL
    refine sortL_strict H E t _ ?_
    split
    · exact h
    · rename_i hs
      exact insL_strict H E s acc hs h
/-- Both ways come out the same: d is the row permuted and sorted. -/
theorem sorts_one {c : α → α → Int} [DecidableEq α] (H : Tri c) (E : ∀ x y, c x y = 0 → x = y) {l d : List α} (hp : d.Perm l) (hs : d.Pairwise fun x y => ¬ c y x < 0) : compL c d = sortL c [] l :=
  strict_one H (compL_strict H E d hs) (sortL_strict H E l [] List.Pairwise.nil) fun x => by
    rw [compL_mem E, sortL_mem, hp.mem_iff]; simp
theorem orL_zero : ∀ {l : List Int}, orL l = 0 → ∀ x ∈ l, x = 0
  | [], _, _, h => absurd h List.not_mem_nil
  | a :: l, h, x, hx => by
    rw [orL_cons'] at h
    by_cases e : a = 0
    · rw [if_neg (fun h => h e)] at h
      rcases List.mem_cons.1 hx with e' | e'
      · rw [e', e]
      · exact orL_zero h x e'
    · rw [if_pos e] at h; exact absurd h e
theorem eqR {r s : Rl} (h : cmpR r s = 0) : r = s := by
  obtain ⟨o1, n1⟩ := r
  obtain ⟨o2, n2⟩ := s
  have q := orL_zero (l := [cmpB o1 o2, cmpB n1 n2]) h
  rw [cmpB_eq.1 (q (cmpB o1 o2) (by simp)), cmpB_eq.1 (q (cmpB n1 n2) (by simp))]
theorem eqN {a b : Int} (h : cmpN a b = 0) : a = b := by
  revert h; unfold cmpN; (repeat' split) <;> omega
theorem eqSt (s t : St) (h : cmpS s t = 0) : s = t := by
  obtain ⟨k1, h1, w1, a1, b1, v1⟩ := s
  obtain ⟨k2, h2, w2, a2, b2, v2⟩ := t
  have q := orL_zero (l := [cmpR h1 h2, cmpN k1 k2, cmpB w1 w2, cmpR a1 a2, cmpR b1 b2, cmpB v1 v2]) h
  rw [eqR (q (cmpR h1 h2) (by simp)), eqN (q (cmpN k1 k2) (by simp)), cmpB_eq.1 (q (cmpB w1 w2) (by simp)), eqR (q (cmpR a1 a2) (by simp)), eqR (q (cmpR b1 b2) (by simp)), cmpB_eq.1 (q (cmpB v1 v2) (by simp))]
instance : Inhabited St := ⟨zeroS⟩
/-- What the library's sort leaves, its equals dropped, is what the document's way makes. -/
theorem sorted_one {d d' : Array St} (hp : PermIn 0 d.size d d') (hs : SortedIn (ltOf cmpS) 0 d.size d') : compL cmpS d'.toList = sortL cmpS [] d.toList := by
  obtain ⟨hz, _, hp⟩ := hp
  refine sorts_one tri_S eqSt ?_ ?_
  · rwa [show d'.extract 0 d.size = d' by rw [← hz]; simp, show d.extract 0 d.size = d by simp] at hp
  · rw [List.pairwise_iff_getElem]
    intro i j hi hj hij
    rw [Array.length_toList] at hi hj
    have q := of_decide_eq_false (hs i j (Nat.zero_le _) hij (by omega))
    rwa [getElem!_pos d' i hi, getElem!_pos d' j hj] at q
end Go.Proofs.YtkmpbkgmdfeicaaGreat.SynD
/- What slices.Compact leaves, in plain mathematics; rows of statements that are stored into. -/
namespace Go.Proofs.YtkmpbkgmdfeicaaGreat.SynD7
set_option linter.unusedVariables false
set_option linter.unusedSimpArgs false
open Go.RowKit Go.Sort Go.Lib Go.Proofs Go.Proofs.YtkmpbkgmdfeicaaGreat.Plain Go.Proofs.YtkmpbkgmdfeicaaGreat.SynP Go.Proofs.YtkmpbkgmdfeicaaGreat.SynD Go.Proofs.YtkmpbkgmdfeicaaGreat.SynD2 Go.Proofs.YtkmpbkgmdfeicaaGreat.SynD3
variable {α : Type} [Inhabited α]
theorem setMany_one (enc : α → List Value) (k : Nat) (hk : ∀ x, (enc x).length = k) (k0 : 0 < k) (d : Array α) (i : Nat) (hi : i < d.size) (x : α) :
    setMany (flatK enc k d) (i * k) (enc x) = flatK enc k (d.setIfInBounds i x) := by
  refine ext_get! (by simp) fun t ht => ?_
  have ht' : t < d.size * k := by simpa using ht
  rw [get_setMany _ _ _ t (by simpa using ht'), get_flatK _ _ _ t ht', get_flatK _ _ _ t (by simpa using ht'), hk]
  by_cases a : t / k = i
  · have e : t - i * k = t % k := by subst a; rw [Nat.mod_eq_sub_div_mul]
    rw [if_pos ((blk_iff k i t k0).2 a), e, a, getElem!_set_same _ _ _ hi]
  · rw [if_neg (fun h => a ((blk_iff k i t k0).1 h)), getElem!_set_other _ _ _ _ a]
theorem holdsK_store {enc : α → List Value} {k : Nat} (hk : ∀ x, (enc x).length = k) (k0 : 0 < k) {W : World} {blk off : Nat} {d : Array α} (h : HoldsK enc k W blk off d) (i : Nat) (hi : i < d.size) (x : α) :
    HoldsK enc k (W.setCells blk (off + i * k) (enc x)) blk off (d.setIfInBounds i x) := by
  have b : i * k + k ≤ d.size * k := by
    have := Nat.mul_le_mul_right k (show i + 1 ≤ d.size from hi); rwa [Nat.add_mul, Nat.one_mul] at this
  have := holds_setCells_c h (i * k) (enc x) (by rw [hk, size_flatK]; exact b)
  rw [setMany_one enc k hk k0 d i hi x] at this
  exact this
theorem compL_snoc {β : Type} {c : β → β → Int} (E : ∀ x y, c x y = 0 → x = y) (x : β) : ∀ (l : List β) (y : β), l.getLast? = some y → compL c (l ++ [x]) = if c y x = 0 then compL c l else compL c l ++ [x]
  | [], y, h => by simp at h
  | [a], y, h => by
    have : a = y := by simpa using h
    subst this
    show compL c [a, x] = _
    unfold compL
    split
    · rename_i h0; rw [← E _ _ h0]; rfl
    · rfl
  | a :: b :: t, y, h => by
    have h' : (b :: t).getLast? = some y := by simpa using h
    have ih := compL_snoc E x (b :: t) y h'
    have e1 : compL c (a :: b :: t ++ [x]) = if c a b = 0 then compL c (b :: t ++ [x]) else a :: compL c (b :: t ++ [x]) := by
      show compL c (a :: b :: (t ++ [x])) = _
      rw [compL]; rfl
    have e2 : compL c (a :: b :: t) = if c a b = 0 then compL c (b :: t) else a :: compL c (b :: t) := by rw [compL]
    rw [e1, e2, ih]
    split <;> split <;> simp
theorem comp_up {c : α → α → Int} [DecidableEq α] (E : ∀ x y, c x y = 0 ↔ x = y) (d : Array α) : ∀ m, m ≤ d.size → compL c (d.toList.take m) = compactUpTo d m
  | 0, _ => by simp [compL, compactUpTo]
  | m + 1, hm => by
    have hlt : m < d.toList.length := by rw [Array.length_toList]; omega
    rw [List.take_succ_eq_append_getElem hlt, compactUpTo_succ, ← comp_up E d m (by omega)]
    have em : d.toList[m] = d[m]! := by rw [getElem!_pos d m (by simpa using hlt)]; simp
    rw [em]
    by_cases h0 : m = 0
    · subst h0
      have : keeps d 0 = true := by simp [keeps]
      rw [this]; rfl
    · have hl : (d.toList.take m).getLast? = some d[m - 1]! := by
        rw [List.getLast?_eq_getElem?, List.length_take, Nat.min_eq_left (by omega), List.getElem?_take_of_lt (by omega), List.getElem?_eq_getElem (by omega), getElem!_pos d (m - 1) (by simp at hlt; omega)]
        simp
      rw [compL_snoc (fun x y h => (E x y).1 h) _ _ _ hl]
      by_cases he : d[m]! = d[m - 1]!
      · rw [if_pos ((E _ _).2 he.symm), keeps_neg (by omega) he]; simp
      · rw [if_neg (fun h => he ((E _ _).1 h).symm), keeps_pos he]; rfl
theorem comp_all {c : α → α → Int} [DecidableEq α] (E : ∀ x y, c x y = 0 ↔ x = y) (d : Array α) : compL c d.toList = compactUpTo d d.size := by
  have := comp_up E d d.size (Nat.le_refl _)
  rwa [List.take_of_length_le (by simp)] at this
theorem cmpS_eq (x y : St) : cmpS x y = 0 ↔ x = y := ⟨eqSt x y, fun h => by rw [h]; exact tri_S.same y⟩
/-- What the library's sort and then its Compact leave is what the document's way makes. -/
theorem sorted_up {d d' : Array St} (hp : PermIn 0 d.size d d') (hs : SortedIn (ltOf cmpS) 0 d.size d') : compactUpTo d' d'.size = sortL cmpS [] d.toList := by
  rw [← comp_all cmpS_eq]; exact sorted_one hp hs
theorem len9 (x : St) : x.cells.length = 9 := rfl
/-- A row that holds statements reads as those that stand at its head. -/
theorem StRow.of_holds {w : World} {blk : Nat} {d : Array St} (h : HoldsK St.cells 9 w blk 0 d) (R : List St) (hR : R.length ≤ d.size) (he : ∀ j, (hj : j < R.length) → R[j] = d[j]!) : StRow w (some ⟨blk, 0, none⟩) R := fun hp => by
  refine ⟨blk, rfl, ?_, fun j hj => ?_⟩
  · have := (HoldsK.cell h (i := 0) (c := 0) (by omega) (by omega)).1
    unfold World.cell? at this
    rcases Nat.lt_or_ge blk w.heap.size with hb | hb
    · exact hb
    · simp [Array.getElem?_eq_none hb] at this
  · have key : ∀ c u, c < 9 → R[j].cells[c]? = some u → w.cell? ⟨blk, j * 9 + c, none⟩ = some u := fun c u hc hu => by
      have q := (HoldsK.cell h (i := j) (c := c) (by omega) hc).1
      rw [← he j hj, Nat.zero_add] at q
      rw [q, getElem!_pos _ _ (by rw [len9]; exact hc), ← List.getElem?_eq_getElem, hu]
    exact ⟨key 0 _ (by omega) rfl, key 1 _ (by omega) rfl, key 2 _ (by omega) rfl, key 3 _ (by omega) rfl, key 4 _ (by omega) rfl, key 5 _ (by omega) rfl, key 6 _ (by omega) rfl, key 7 _ (by omega) rfl, key 8 _ (by omega) rfl⟩
theorem holds_own {w : World} {B : Nat} {e : TypeId} {v : Value} {L : List St} (h : w.ownsRow B e 9 v L.length (stCells L)) : (L = [] ∧ v = .slice none 0 0) ∨ ∃ g cap, v = .slice (some ⟨g, 0, none⟩) L.length cap ∧ L.length ≤ cap ∧ B ≤ g ∧ g < w.heap.size ∧ HoldsK St.cells 9 w g 0 L.toArray := by
  rcases h.2 with ⟨rfl, h0⟩ | ⟨g, cap, cur, rfl, hB, hh, hc, hm, hs, ht⟩
  · exact .inl ⟨List.eq_nil_of_length_eq_zero h0, rfl⟩
  · refine .inr ⟨g, cap, rfl, hc, hB, (h.lt g rfl).2, fun t ht' => ?_⟩
    rw [size_flatK] at ht'
    have ht2 : t < L.length * 9 := by simpa using ht'
    have q : (stCells L)[t]? = some ((flatK St.cells 9 L.toArray)[t]!) := by
      rw [get_flatK _ _ _ _ ht']
      have hj : t / 9 < L.length := by omega
      have := stCells_at L (t / 9) (t % 9) hj (by omega)
      rw [show t / 9 * 9 + t % 9 = t by omega] at this
      rw [this, getElem!_pos L.toArray (t / 9) (by simpa using hj), List.getElem_toArray, getElem!_pos _ (t % 9) (by rw [len9]; omega), ← List.getElem?_eq_getElem]
    refine ⟨?_, ?_⟩
    · rw [← ht, List.getElem?_take_of_lt (by omega)] at q
      rw [Nat.zero_add, Lib.cell_of_heap hh, ← Array.getElem?_toList]
      exact q
    · simp [World.frozen?, hh]
theorem inv_low {d dk : Array St} {m k : Nat} (h : CompInv d m k dk) (hm : (compactUpTo d m) = compactUpTo d d.size) (hk : k ≤ d.size) : ∀ j, (hj : j < (compactUpTo d d.size).length) → (compactUpTo d d.size)[j] = dk[j]! := fun j hj => by
  have q := h.low j (by rw [← h.len, hm]; exact hj)
  rw [hm, List.getElem?_eq_getElem hj] at q
  exact Option.some.inj q
end Go.Proofs.YtkmpbkgmdfeicaaGreat.SynD7
/- Rows of roles: their cells, a copy, how they stand, what sorting and compacting leaves. -/
namespace Go.Proofs.YtkmpbkgmdfeicaaGreat.PolA
set_option linter.unusedVariables false
set_option linter.unusedSimpArgs false
open Go.RowKit Go.Sort Go.Lib Go.Proofs Go.Proofs.YtkmpbkgmdfeicaaGreat.Plain Go.Proofs.YtkmpbkgmdfeicaaGreat.SynP Go.Proofs.YtkmpbkgmdfeicaaGreat.Grown Go.Proofs.YtkmpbkgmdfeicaaGreat.SynE Go.Proofs.YtkmpbkgmdfeicaaGreat.SynC Go.Proofs.YtkmpbkgmdfeicaaGreat.SynD Go.Proofs.YtkmpbkgmdfeicaaGreat.SynD7 Go.Proofs.YtkmpbkgmdfeicaaGreat.Syn2 Go.Proofs.YtkmpbkgmdfeicaaGreat.SynJ
set_option linter.unusedVariables false
set_option linter.unusedSimpArgs false
instance : Inhabited Rl := ⟨zeroR⟩
def Rl.cells (r : Rl) : List Value := [.string r.owner, .string r.name]
theorem len2 (r : Rl) : (Rl.cells r).length = 2 := rfl
theorem rcells_cons (t : Rl) (L : List Rl) : rcells (t :: L) = Rl.cells t ++ rcells L := by unfold rcells; simp [Rl.cells]
theorem rcells_app (L K : List Rl) : rcells (L ++ K) = rcells L ++ rcells K := by unfold rcells; simp
theorem rcells_len (L : List Rl) : (rcells L).length = L.length * 2 := by
  induction L with
  | nil => rfl
  | cons t L ih => rw [rcells_cons, List.length_append, ih, List.length_cons, Nat.succ_mul]; show 2 + _ = _; omega
theorem rcells_one (L : List Rl) : ∀ u ∈ rcells L, u.oneCell' = true := by
  intro u hu
  unfold rcells at hu
  rw [List.mem_flatten] at hu
  obtain ⟨l, hl, hu⟩ := hu
  obtain ⟨t, _, rfl⟩ := List.mem_map.1 hl
  simp at hu
  rcases hu with rfl | rfl <;> rfl
theorem rcells_get (L : List Rl) (j k : Nat) (h : j < L.length) (hk : k < 2) : (rcells L)[j * 2 + k]? = (Rl.cells L[j])[k]? := by
  obtain ⟨a, b⟩ := rcells_at L j h
  match k, hk with
  | 0, _ => exact a
  | 1, _ => exact b
/-- A slice value that reads as roles, wherever it lies. -/
def RG (w : World) (A : Option Addr) (L : List Rl) : Prop :=
  0 < L.length → ∃ g o, A = some ⟨g, o, none⟩ ∧ g < w.heap.size ∧ ∀ j, (h : j < L.length) → w.cell? ⟨g, o + j * 2, none⟩ = some (.string L[j].owner) ∧ w.cell? ⟨g, o + j * 2 + 1, none⟩ = some (.string L[j].name)
theorem RG.below {w w' : World} {A : Option Addr} {L : List Rl} (h : RG w A L) (hb : RowKit.Below w.heap.size w w') : RG w' A L := fun hp => by
  obtain ⟨g, o, hA, hg, hc⟩ := h hp
  refine ⟨g, o, hA, Nat.lt_of_lt_of_le hg hb.size, fun j hj => ?_⟩
  obtain ⟨a, b⟩ := hc j hj
  exact ⟨(hb.cell (p := ⟨g, o + j * 2, none⟩) hg).trans a, (hb.cell (p := ⟨g, o + j * 2 + 1, none⟩) hg).trans b⟩
theorem RG.of_rat {w : World} {A : Option Addr} {L : List Rl} (h : RAt w A L) : RG w A L := fun hp => by
  obtain ⟨g, hA, hg, hc⟩ := h hp
  exact ⟨g, 0, hA, hg, fun j hj => by simpa only [Nat.zero_add] using hc j hj⟩
theorem rg_none {w : World} {l : List Rl} (h : RG w none l) : l = [] := by
  cases l with
  | nil => rfl
  | cons t l => obtain ⟨g, o, e, _⟩ := h (by simp); cases e
theorem rg_cells {w : World} {A : Option Addr} {L : List Rl} (h : RG w A L) : ∀ ad, A = some ad → ∀ j u, (rcells L)[j]? = some u → w.cell? (ad.add j) = some u := by
  rintro ad rfl j u hu
  have hj : j < L.length * 2 := by
    rw [← rcells_len]
    rcases Nat.lt_or_ge j (rcells L).length with h | h
    · exact h
    · rw [List.getElem?_eq_none h] at hu; cases hu
  obtain ⟨g, o, e, hg, hc⟩ := h (by omega)
  injection e with e
  subst e
  obtain ⟨a, b⟩ := hc (j / 2) (by omega)
  obtain ⟨p, q⟩ := rcells_at L (j / 2) (by omega)
  rw [add_off]
  rcases (by omega : j = j / 2 * 2 ∨ j = j / 2 * 2 + 1) with e | e
  · rw [← e] at a p; rw [a, ← p, hu]
  · rw [Nat.add_assoc, ← e] at b; rw [← e] at q; rw [b, ← q, hu]
def CloneRPost (L : List Rl) (w : World) (e : Ending) (w' : World) : Prop := ∃ v, e = .returned v ∧ w'.ownsRow w.heap.size 44 2 v L.length (rcells L) ∧ RowKit.Below w.heap.size w w'
set_option maxRecDepth 100000 in
theorem cloneR (A : Option Addr) (ca : Nat) (L : List Rl) (w : World) (hL : L.length ≤ 10000) (hA : RG w A L) : Calls Tryz.prog 98 #[.slice A L.length ca] w (CloneRPost L w) := by
  obtain ⟨i0, hi, hz0, hz1, hz2⟩ := info_parts infoRole
  cases A with
  | none =>
    obtain rfl := rg_none hA
    have es := fun (w : World) (a : Option Addr) (n c : Nat) => Lib.run_eql_slice_nil (P := Tryz.prog) w 23 44 a n c 0 0 Tryz.underlying23
    go_enter Tryz.func98, Tryz.ntmps98
    go_wp2_with fail
    go_ret
    exact ⟨_, rfl, World.ownsRow_nil _ _ _ _, Below.refl _ _⟩
  | some ad =>
    have Hc := Lib.hid (fun ad' e => rg_cells (hA.below ((Below.refl _ w).alloc (Nat.le_refl _) (.cells #[] 44))) ad' e)
    clear hA
    have es := fun (w : World) (a : Option Addr) (n c : Nat) => Lib.run_eql_slice_nil (P := Tryz.prog) w 23 44 a n c 0 0 Tryz.underlying23
    go_enter Tryz.func98, Tryz.ntmps98
    go_wp2_with (at_builtin; refine wpList_append_from _ rfl _ _ 23 rfl w.heap.size 44 i0 (.agg #[.string ⟨#[]⟩, .string ⟨#[]⟩]) 2 32 Tryz.underlying23 hi hz0 hz1 hz2 rfl (by decide) _ _ _ rfl (own_empty w _ 2) (some ad) L.length ca (rcells L) rfl (rcells_len L) (fun h => by cases h) Hc.out (rcells_one L) (by unfold maxLen; omega) (by omega) (by simp) ?_)
    intro v' w1 hown hgrow
    have hb : Below w.heap.size w w1 := ((Below.refl _ _).alloc (Nat.le_refl _) _).grown hgrow (by simp) (fun k hk => by simp [Value.ownBlock] at hk; omega)
    go_wp2_with fail
    go_ret
    exact ⟨_, rfl, by simpa using hown, hb⟩
/-- A row that holds roles, with its length and room. -/
theorem rholds_own {w : World} {B : Nat} {e : TypeId} {v : Value} {L : List Rl} (h : w.ownsRow B e 2 v L.length (rcells L)) : (L = [] ∧ v = .slice none 0 0) ∨ ∃ g cap, v = .slice (some ⟨g, 0, none⟩) L.length cap ∧ L.length ≤ cap ∧ B ≤ g ∧ g < w.heap.size ∧ HoldsK Rl.cells 2 w g 0 L.toArray := by
  rcases h.2 with ⟨rfl, h0⟩ | ⟨g, cap, cur, rfl, hB, hh, hc, hm, hs, ht⟩
  · exact .inl ⟨List.eq_nil_of_length_eq_zero h0, rfl⟩
  · refine .inr ⟨g, cap, rfl, hc, hB, (h.lt g rfl).2, fun t ht' => ?_⟩
    rw [size_flatK] at ht'
    have ht2 : t < L.length * 2 := by simpa using ht'
    have q : (rcells L)[t]? = some ((flatK Rl.cells 2 L.toArray)[t]!) := by
      rw [get_flatK _ _ _ _ ht']
      have hj : t / 2 < L.length := by omega
      have := rcells_get L (t / 2) (t % 2) hj (by omega)
      rw [show t / 2 * 2 + t % 2 = t by omega] at this
      rw [this, getElem!_pos L.toArray (t / 2) (by simpa using hj), List.getElem_toArray, getElem!_pos _ (t % 2) (by rw [len2]; omega), ← List.getElem?_eq_getElem]
    refine ⟨?_, ?_⟩
    · rw [← ht, List.getElem?_take_of_lt (by omega)] at q
      rw [Nat.zero_add, Lib.cell_of_heap hh, ← Array.getElem?_toList]
      exact q
    · simp [World.frozen?, hh]
theorem RAt.of_holds {w : World} {blk : Nat} {d : Array Rl} (h : HoldsK Rl.cells 2 w blk 0 d) (R : List Rl) (hR : R.length ≤ d.size) (he : ∀ j, (hj : j < R.length) → R[j] = d[j]!) : RAt w (some ⟨blk, 0, none⟩) R := fun hp => by
  refine ⟨blk, rfl, ?_, fun j hj => ?_⟩
  · have := (HoldsK.cell h (i := 0) (c := 0) (by omega) (by omega)).1
    unfold World.cell? at this
    rcases Nat.lt_or_ge blk w.heap.size with hb | hb
    · exact hb
    · simp [Array.getElem?_eq_none hb] at this
  · have key : ∀ c u, c < 2 → (Rl.cells R[j])[c]? = some u → w.cell? ⟨blk, j * 2 + c, none⟩ = some u := fun c u hc hu => by
      have q := (HoldsK.cell h (i := j) (c := c) (by omega) hc).1
      rw [← he j hj, Nat.zero_add] at q
      rw [q, getElem!_pos _ _ (by rw [len2]; exact hc), ← List.getElem?_eq_getElem, hu]
    exact ⟨key 0 _ (by omega) rfl, key 1 _ (by omega) rfl⟩
theorem inv_lowR {d dk : Array Rl} {m k : Nat} (h : CompInv d m k dk) (hm : (compactUpTo d m) = compactUpTo d d.size) (hk : k ≤ d.size) : ∀ j, (hj : j < (compactUpTo d d.size).length) → (compactUpTo d d.size)[j] = dk[j]! := fun j hj => by
  have q := h.low j (by rw [← h.len, hm]; exact hj)
  rw [hm, List.getElem?_eq_getElem hj] at q
  exact Option.some.inj q
theorem swo_R : SWO (ltOf cmpR) := swo_of tri_R
theorem sorted_oneR {d d' : Array Rl} (hp : PermIn 0 d.size d d') (hs : SortedIn (ltOf cmpR) 0 d.size d') : compL cmpR d'.toList = sortL cmpR [] d.toList := by
  obtain ⟨hz, _, hp⟩ := hp
  refine sorts_one tri_R (fun _ _ h => eqR h) ?_ ?_
  · rwa [show d'.extract 0 d.size = d' by rw [← hz]; simp, show d.extract 0 d.size = d by simp] at hp
  · rw [List.pairwise_iff_getElem]
    intro i j hi hj hij
    rw [Array.length_toList] at hi hj
    have q := of_decide_eq_false (hs i j (Nat.zero_le _) hij (by omega))
    rwa [getElem!_pos d' i hi, getElem!_pos d' j hj] at q
theorem cmpR_eq (x y : Rl) : cmpR x y = 0 ↔ x = y := ⟨eqR, fun h => by rw [h]; exact tri_R.same y⟩
/-- What the library's sort and then its Compact leave is what the document's way makes. -/
theorem sorted_upR {d d' : Array Rl} (hp : PermIn 0 d.size d d') (hs : SortedIn (ltOf cmpR) 0 d.size d') : compactUpTo d' d'.size = sortL cmpR [] d.toList := by
  rw [← comp_all cmpR_eq]
  exact sorted_oneR hp hs
end Go.Proofs.YtkmpbkgmdfeicaaGreat.PolA
/- Plain mathematics of tables: texts in order, each once; decimal numerals; which texts are fresh. -/
namespace Go.Proofs.YtkmpbkgmdfeicaaGreat.TabP
set_option linter.unusedVariables false
set_option linter.unusedSimpArgs false
abbrev Str := List UInt8
def srt (ls : List Str) : List Str := ls.mergeSort fun x y => decide (x ≤ y)
/-- The texts in order, each once. -/
def tab (ls : List Str) : List Str := Lib.compact (srt ls)
theorem srt_sorted (ls : List Str) : (srt ls).Pairwise (· ≤ ·) := by
  have h := List.pairwise_mergeSort (le := fun x y : Str => decide (x ≤ y)) (fun a b c h1 h2 => by
    simp only [decide_eq_true_iff] at *
    exact List.le_trans h1 h2) (fun a b => by
    simp only [Bool.or_eq_true, decide_eq_true_iff]
    exact List.le_total a b) ls
  exact h.imp (fun h => by simpa using h)
theorem compact_facts (d : Array Str) (hs : ∀ i j, i ≤ j → j < d.size → d[i]! ≤ d[j]!) : ∀ m, m ≤ d.size →
    (Lib.compactUpTo d m).Pairwise (· < ·) ∧ (∀ x, x ∈ Lib.compactUpTo d m ↔ ∃ j, j < m ∧ d[j]! = x) := by
  intro m
  induction m with
  | zero => intro _; simp [Lib.compactUpTo]
  | succ m ih =>
    intro hm
    obtain ⟨h1, h2⟩ := ih (by omega)
    rw [Lib.compactUpTo_succ]
    cases hk : Lib.keeps d m
    · rw [if_neg (by decide), List.append_nil]
      refine ⟨h1, fun x => ?_⟩
      rw [h2]
      have hk' : ¬ (m = 0 ∨ d[m]! ≠ d[m - 1]!) := by simpa [Lib.keeps] using hk
      constructor
      · rintro ⟨j, hj, e⟩; exact ⟨j, by omega, e⟩
      · rintro ⟨j, hj, e⟩
        by_cases hjm : j = m
        · subst hjm
          have he : d[j]! = d[j - 1]! := by
            rcases Classical.em (d[j]! = d[j - 1]!) with h | h
            · exact h
            · exact absurd (Or.inr h) hk'
          exact ⟨j - 1, by omega, by rw [← he]; exact e⟩
        · exact ⟨j, by omega, e⟩
    · rw [if_pos rfl]
      have hk' : m = 0 ∨ d[m]! ≠ d[m - 1]! := by simpa [Lib.keeps] using hk
      refine ⟨?_, fun x => ?_⟩
      · rw [List.pairwise_append]
        refine ⟨h1, by simp, fun x hx y hy => ?_⟩
        obtain ⟨j, hj, rfl⟩ := (h2 x).1 hx
        have : y = d[m]! := by simpa using hy
        subst this
        have hne : d[m]! ≠ d[m - 1]! := by
          rcases hk' with h | h
          · omega
          · exact h
        exact Std.lt_of_le_of_lt (hs j (m - 1) (by omega) (by omega)) (Std.lt_of_le_of_ne (hs (m - 1) m (by omega) (by omega)) (Ne.symm hne))
      · rw [List.mem_append, h2, List.mem_singleton]
        constructor
        · rintro (⟨j, hj, e⟩ | e)
          · exact ⟨j, by omega, e⟩
          · exact ⟨m, by omega, e.symm⟩
        · rintro ⟨j, hj, e⟩
          by_cases hjm : j = m
          · subst hjm; exact .inr e.symm
          · exact .inl ⟨j, by omega, e⟩
theorem get_srt (ls : List Str) : ∀ i j, i ≤ j → j < (srt ls).toArray.size → (srt ls).toArray[i]! ≤ (srt ls).toArray[j]! := by
  intro i j hij hj
  have hj' : j < (srt ls).length := by simpa using hj
  have hi' : i < (srt ls).length := by omega
  have e1 : (srt ls).toArray[i]! = (srt ls)[i] := by simp [hi']
  have e2 : (srt ls).toArray[j]! = (srt ls)[j] := by simp [hj']
  rw [e1, e2]
  rcases Nat.lt_or_ge i j with h | h
  · exact List.pairwise_iff_getElem.1 (srt_sorted ls) i j hi' hj' h
  · have : i = j := by omega
    subst this
    exact List.le_refl _
theorem tab_sorted (ls : List Str) : (tab ls).Pairwise (· < ·) := (compact_facts _ (get_srt ls) _ (by simp)).1
theorem mem_tab (ls : List Str) (x : Str) : x ∈ tab ls ↔ x ∈ ls := by
  have h := (compact_facts _ (get_srt ls) (srt ls).length (by simp)).2 x
  have h2 : x ∈ srt ls ↔ x ∈ ls := (List.mergeSort_perm ls _).mem_iff
  show x ∈ Lib.compactUpTo (srt ls).toArray (srt ls).length ↔ _
  rw [h, ← h2]
  constructor
  · rintro ⟨j, hj, e⟩
    rw [← e]
    have e1 : (srt ls).toArray[j]! = (srt ls)[j] := by simp [hj]
    rw [e1]
    exact List.getElem_mem _
  · intro hx
    obtain ⟨j, hj, e⟩ := List.getElem_of_mem hx
    exact ⟨j, hj, by rw [← e]; simp [hj]⟩
/-- Two rows that rise and have the same texts are one. -/
theorem eq_of_rising : ∀ {a b : List Str}, a.Pairwise (· < ·) → b.Pairwise (· < ·) → (∀ x, x ∈ a ↔ x ∈ b) → a = b
  | [], [], _, _, _ => rfl
  | [], y :: b, _, _, h => by have := (h y).2 (by simp); simp at this
  | x :: a, [], _, _, h => by have := (h x).1 (by simp); simp at this
  | x :: a, y :: b, ha, hb, h => by
    rw [List.pairwise_cons] at ha hb
    have e : x = y := by
      have h1 := (h x).1 (by simp)
      have h2 := (h y).2 (by simp)
      rw [List.mem_cons] at h1 h2
      rcases h1 with h1 | h1
      · exact h1
      · rcases h2 with h2 | h2
        · exact h2.symm
        · exact absurd (List.lt_trans (hb.1 x h1) (ha.1 y h2)) (List.lt_irrefl _)
    subst e
    rw [eq_of_rising ha.2 hb.2 fun z => ?_]
    have hz := h z
    rw [List.mem_cons, List.mem_cons] at hz
    constructor
    · intro hm
      rcases hz.1 (.inr hm) with e | e
      · subst e; exact absurd (ha.1 z hm) (List.lt_irrefl _)
      · exact e
    · intro hm
      rcases hz.2 (.inr hm) with e | e
      · subst e; exact absurd (hb.1 z hm) (List.lt_irrefl _)
      · exact e
theorem tab_len_le (ls : List Str) : (tab ls).length ≤ ls.length := by
  have h := Lib.compact_length_le (srt ls)
  have h2 : (srt ls).length = ls.length := List.length_mergeSort ..
  unfold tab
  omega
theorem nodup_of_rising {T : List Str} (h : T.Pairwise (· < ·)) : T.Nodup := h.imp fun hab e => by subst e; exact List.lt_irrefl _ hab
/-- The k-th text that may be fresh. -/
def xs (k : Nat) : Str := 88 :: Lib.decDigits k
def numOf : Str → Nat := List.foldl (fun a c => a * 10 + (c.toNat - 48)) 0
theorem numOf_snoc (l : Str) (c : UInt8) : numOf (l ++ [c]) = numOf l * 10 + (c.toNat - 48) := by unfold numOf; rw [List.foldl_append]; rfl
theorem digit_toNat (u : Nat) (h : u < 10) : (UInt8.ofNat (48 + u)).toNat = 48 + u := by
  rw [UInt8.toNat_ofNat']
  omega
theorem numOf_dec (u : Nat) : numOf (Lib.decDigits u) = u := by
  induction u using Nat.strongRecOn with
  | ind u ih =>
    rw [Lib.decDigits]
    split
    · rename_i h
      show 0 * 10 + ((UInt8.ofNat (48 + u)).toNat - 48) = u
      rw [digit_toNat u h]; omega
    · rename_i h
      rw [numOf_snoc, ih (u / 10) (by omega), digit_toNat _ (Nat.mod_lt _ (by omega))]
      omega
theorem xs_inj {a b : Nat} (h : xs a = xs b) : a = b := by
  unfold xs at h
  injection h with _ h
  have := congrArg numOf h
  rwa [numOf_dec, numOf_dec] at this
/-- The fresh texts among the first m. -/
def fr (T : List Str) (n : Int) : Nat → List Str
  | 0 => []
  | m + 1 => let out := fr T n m; if (out.length : Int) < n ∧ out.length < 1000 ∧ xs (m + 1) ∉ T then out ++ [xs (m + 1)] else out
theorem fr_add {T : List Str} {n : Int} {m : Nat} (h1 : ((fr T n m).length : Int) < n) (h2 : (fr T n m).length < 1000) (h3 : xs (m + 1) ∉ T) : fr T n (m + 1) = fr T n m ++ [xs (m + 1)] := by
  show (if _ then _ else _) = _
  rw [if_pos ⟨h1, h2, h3⟩]
theorem fr_not {T : List Str} {n : Int} {m : Nat} (h : ¬ (((fr T n m).length : Int) < n ∧ (fr T n m).length < 1000 ∧ xs (m + 1) ∉ T)) : fr T n (m + 1) = fr T n m := by
  show (if _ then _ else _) = _
  rw [if_neg h]
theorem fr_done {T : List Str} {n : Int} {m : Nat} (h : ¬ (((fr T n m).length : Int) < n ∧ (fr T n m).length < 1000)) : ∀ j, fr T n (m + j) = fr T n m
  | 0 => rfl
  | j + 1 => by
    rw [show m + (j + 1) = (m + j) + 1 from rfl, fr_not (by rw [fr_done h j]; exact fun h2 => h ⟨h2.1, h2.2.1⟩), fr_done h j]
theorem fr_len (T : List Str) (n : Int) (m : Nat) : (fr T n m).length ≤ m ∧ (fr T n m).length ≤ 1000 ∧ ((fr T n m).length : Int) ≤ max n 0 := by
  induction m with
  | zero => simp [fr]; omega
  | succ m ih =>
    by_cases h : ((fr T n m).length : Int) < n ∧ (fr T n m).length < 1000 ∧ xs (m + 1) ∉ T
    · rw [fr_add h.1 h.2.1 h.2.2, List.length_append, List.length_singleton]; omega
    · rw [fr_not h]; omega
theorem mem_fr (T : List Str) (n : Int) (m : Nat) (x : Str) (h : x ∈ fr T n m) : x ∉ T ∧ ∃ k, 1 ≤ k ∧ k ≤ m ∧ x = xs k := by
  induction m with
  | zero => simp [fr] at h
  | succ m ih =>
    by_cases hc : ((fr T n m).length : Int) < n ∧ (fr T n m).length < 1000 ∧ xs (m + 1) ∉ T
    · rw [fr_add hc.1 hc.2.1 hc.2.2, List.mem_append, List.mem_singleton] at h
      rcases h with h | h
      · obtain ⟨h1, k, h2, h3, h4⟩ := ih h
        exact ⟨h1, k, h2, by omega, h4⟩
      · subst h
        exact ⟨hc.2.2, m + 1, by omega, by omega, rfl⟩
    · rw [fr_not hc] at h
      obtain ⟨h1, k, h2, h3, h4⟩ := ih h
      exact ⟨h1, k, h2, by omega, h4⟩
theorem length_le_of_subset {α : Type} [BEq α] [LawfulBEq α] : ∀ {a b : List α}, a.Nodup → (∀ x ∈ a, x ∈ b) → a.length ≤ b.length
  | [], _, _, _ => Nat.zero_le _
  | x :: a, b, hn, h => by
    rw [List.nodup_cons] at hn
    have hx := h x (by simp)
    have h1 := length_le_of_subset (a := a) (b := b.erase x) hn.2 fun y hy => (List.mem_erase_of_ne (fun e => hn.1 (by rw [← e]; exact hy))).2 (h y (by simp [hy]))
    rw [List.length_erase_of_mem hx] at h1
    have : 0 < b.length := List.length_pos_of_mem hx
    rw [List.length_cons]
    omega
/-- How many of the first m may-be-fresh texts are in the table. -/
def taken (T : List Str) (m : Nat) : List Str := ((List.range m).map fun k => xs (k + 1)).filter fun x => decide (x ∈ T)
theorem taken_le (T : List Str) (m : Nat) : (taken T m).length ≤ T.length := by
  apply length_le_of_subset
  · refine List.Pairwise.filter _ ?_
    rw [List.pairwise_map]
    exact (List.nodup_range (n := m)).imp fun hne e => hne (by have := xs_inj e; omega)
  · intro x hx
    have := List.mem_filter.1 hx
    simpa using this.2
theorem taken_succ (T : List Str) (m : Nat) : (taken T (m + 1)).length = (taken T m).length + if xs (m + 1) ∈ T then 1 else 0 := by
  unfold taken
  rw [List.range_succ, List.map_append, List.filter_append, List.length_append]
  by_cases h : xs (m + 1) ∈ T <;> simp [h]
/-- As long as there is room, each text is fresh or taken. -/
theorem fr_taken (T : List Str) (n : Int) : ∀ m, ((fr T n m).length : Int) < n → (fr T n m).length < 1000 → (fr T n m).length + (taken T m).length = m := by
  intro m
  induction m with
  | zero => intro _ _; simp [fr, taken]
  | succ m ih =>
    intro h1 h2
    rw [taken_succ]
    by_cases hc : ((fr T n m).length : Int) < n ∧ (fr T n m).length < 1000 ∧ xs (m + 1) ∉ T
    · have e := fr_add hc.1 hc.2.1 hc.2.2
      rw [e, List.length_append, List.length_singleton, if_neg hc.2.2]
      have := ih hc.1 hc.2.1
      omega
    · have e := fr_not hc
      rw [e] at h1 h2
      have hm : xs (m + 1) ∈ T := by
        rcases Classical.em (xs (m + 1) ∈ T) with h | h
        · exact h
        · exact absurd ⟨h1, h2, h⟩ hc
      rw [e, if_pos hm]
      have := ih h1 h2
      omega
theorem fr_enough (T : List Str) (n : Int) (m : Nat) (h1 : ((fr T n m).length : Int) < n) (h2 : (fr T n m).length < 1000) : m < 1000 + T.length := by
  have h3 := fr_taken T n m h1 h2
  have h4 := taken_le T m
  omega
end Go.Proofs.YtkmpbkgmdfeicaaGreat.TabP
/- Plain mathematics of queries, of no program: which are right, their words and their lines. -/
namespace Go.Proofs.YtkmpbkgmdfeicaaGreat.QryP
set_option linter.unusedVariables false
set_option linter.unusedSimpArgs false
open Go.RowKit Go.Sort Go.Proofs.YtkmpbkgmdfeicaaGreat.Plain Go.Proofs.YtkmpbkgmdfeicaaGreat.SynP Go.Proofs.YtkmpbkgmdfeicaaGreat.TabP
structure Qy where
  kind : Int
  a : Rl
  b : Rl
  who : List Str
def Qy.val (q : Qy) (A : Option Addr) (c : Nat) : Value := .agg #[.int .i64 q.kind, .string q.a.owner, .string q.a.name, .string q.b.owner, .string q.b.name, .slice A q.who.length c]
def prinS (s : Str) : Bool := named capB s
/-- Principals, rising, each once, no more than twelve. -/
def whoOk (T : List Str) : Bool := decide (T.length ≤ 12) && T.all prinS && decide (T = tab T)
def Qy.right (q : Qy) : Bool := q.a.ok && (if q.kind = 1 ∨ q.kind = 2 then decide (0 < q.who.length) && whoOk q.who && decide (q.b = zeroR) else if q.kind = 3 then whoOk q.who && decide (q.b = zeroR) else if q.kind = 4 then decide (q.who.length = 0) && decide (q.b = zeroR) else if q.kind = 5 ∨ q.kind = 6 then decide (q.who.length = 0) && q.b.ok else false)
def Qy.fit (q : Qy) : Prop := q.a.light ∧ q.b.light ∧ q.who.length ≤ maxLen ∧ ∀ s ∈ q.who, s.length ≤ maxLen
/-- Each one stands behind the one before it. -/
def risesTo (T : List Str) (k : Nat) : Prop := ∀ j, j < k → (h : j < T.length) → prinS T[j] = true ∧ (0 < j → T[j - 1] < T[j])
theorem rising_of {T : List Str} (h : risesTo T T.length) : T.Pairwise (· < ·) := by
  have key : ∀ (d i : Nat), (hj : i + d + 1 < T.length) → T[i] < T[i + d + 1] := by
    intro d
    induction d with
    | zero => intro i hj; exact (h (i + 1) (by omega) hj).2 (by omega)
    | succ d ih => intro i hj; exact List.lt_trans (ih i (by omega)) ((h (i + d + 1 + 1) (by omega) hj).2 (by omega))
  rw [List.pairwise_iff_getElem]
  intro i j hi hj hij
  obtain ⟨d, rfl⟩ : ∃ d, j = i + d + 1 := ⟨j - i - 1, by omega⟩
  exact key d i hj
theorem tab_id {T : List Str} : T = tab T ↔ T.Pairwise (· < ·) :=
  ⟨fun h => by rw [h]; exact tab_sorted T, fun h => eq_of_rising h (tab_sorted T) fun x => (mem_tab T x).symm⟩
theorem who_of {T : List Str} (h : risesTo T T.length) : (T.all prinS && decide (T = tab T)) = true := by
  rw [decide_eq_true (tab_id.2 (rising_of h)), Bool.and_true, List.all_eq_true]
  intro x hx
  obtain ⟨k, hk, rfl⟩ := List.getElem_of_mem hx
  exact (h k hk hk).1
theorem who_bad {T : List Str} {k : Nat} (hk : k < T.length) (h : prinS T[k] = false) : (T.all prinS && decide (T = tab T)) = false := by
  have : T.all prinS = false := List.all_eq_false.2 ⟨T[k], List.getElem_mem _, by simp [h]⟩
  rw [this]; rfl
theorem who_down {T : List Str} {k : Nat} (hk : k < T.length) (h0 : 0 < k) (h : ¬ T[k - 1] < T[k]) : (T.all prinS && decide (T = tab T)) = false := by
  have : ¬ T = tab T := fun e => h ((List.pairwise_iff_getElem.1 (tab_id.1 e)) (k - 1) k (by omega) hk (by omega))
  rw [decide_eq_false this, Bool.and_false]
theorem kinds6 (k : Int) : k = 1 ∨ k = 2 ∨ k = 3 ∨ k = 4 ∨ k = 5 ∨ k = 6 ∨ (k < 1 ∨ 6 < k) := by omega
def univ (k : Int) : Bool := decide (k = 1 ∨ k = 3 ∨ k = 5 ∨ k = 6)
/-- The words between the first role and what is behind. -/
def wordsL (k : Int) : List Str := if k = 1 then [[104, 97, 115]] else if k = 2 then [[104, 97, 118, 101]] else if k = 3 then [[119, 105, 116, 104, 105, 110]] else if k = 4 then [[98, 101], [101, 109, 112, 116, 121]] else if k = 5 then [[97, 112, 97, 114, 116]] else if k = 6 then [[105, 110]] else []
def wordsT (k : Int) : ByteArray := if k = 1 then ⟨#[104, 97, 115]⟩ else if k = 2 then ⟨#[104, 97, 118, 101]⟩ else if k = 3 then ⟨#[119, 105, 116, 104, 105, 110]⟩ else if k = 4 then ⟨#[98, 101, 32, 101, 109, 112, 116, 121]⟩ else if k = 5 then ⟨#[97, 112, 97, 114, 116]⟩ else if k = 6 then ⟨#[105, 110]⟩ else noText
def leadT (k : Int) : ByteArray := if univ k then ⟨#[97, 108, 119, 97, 121, 115]⟩ else ⟨#[99, 97, 110]⟩
def hasBk (k : Int) : Bool := decide (k = 5 ∨ k = 6)
def hasWk (k : Int) : Bool := decide (k = 1 ∨ k = 2 ∨ k = 3)
end Go.Proofs.YtkmpbkgmdfeicaaGreat.QryP
/- Tables of names: kept, Len, New. -/
namespace Go.Proofs.YtkmpbkgmdfeicaaGreat.Tab1
set_option linter.unusedVariables false
set_option linter.unusedSimpArgs false
open Go.RowKit Go.Sort Go.Proofs Go.Proofs.YtkmpbkgmdfeicaaGreat.Plain Go.Proofs.YtkmpbkgmdfeicaaGreat.TabP
/-- A slice of strings that reads as a list of texts, nil let in. -/
def SRow (w : World) (A : Option Addr) (T : List Str) : Prop :=
  0 < T.length → ∃ b off, A = some ⟨b, off, none⟩ ∧ b < w.heap.size ∧ ∀ j, (h : j < T.length) → w.cell? ⟨b, off + j, none⟩ = some (.string ⟨T[j].toArray⟩)
theorem SRow.keep {w w' : World} {A : Option Addr} {T : List Str} (h : SRow w A T) (hb : Below w.heap.size w w') : SRow w' A T := fun hp => by
  obtain ⟨b, off, hA, hg, hc⟩ := h hp
  exact ⟨b, off, hA, Nat.lt_of_lt_of_le hg hb.size, fun j hj => (hb.cell (p := ⟨b, off + j, none⟩) hg).trans (hc j hj)⟩
theorem SRow.drewN {w : World} {A : Option Addr} {T : List Str} (h : SRow w A T) (n : Nat) : SRow (w.drewN n) A T := h
theorem SRow.of_own {w : World} {B : Nat} {e : TypeId} {v : Value} {T : List Str} (h : w.ownsRow B e 1 v T.length (T.map encStr)) : ∃ A c, v = .slice A T.length c ∧ T.length ≤ c ∧ SRow w A T := by
  rcases h.2 with ⟨rfl, h0⟩ | ⟨g, cap, cur, rfl, hB, hh, hc, hm, hs, ht⟩
  · exact ⟨none, 0, by rw [h0], by omega, fun hp => by omega⟩
  · refine ⟨_, _, rfl, hc, fun hp => ⟨g, 0, rfl, (h.lt g rfl).2, fun j hj => ?_⟩⟩
    have e1 : (T.map encStr)[j]? = some (.string ⟨T[j].toArray⟩) := by
      rw [List.getElem?_map, List.getElem?_eq_getElem hj]; rfl
    rw [← ht, List.getElem?_take_of_lt (by omega)] at e1
    rw [Lib.cell_of_heap hh, Nat.zero_add, ← Array.getElem?_toList]
    exact e1
/-- The table object p, made at or after block B, has the texts T. -/
def TabAt (w : World) (B : Nat) (p : Value) (T : List Str) : Prop :=
  ∃ t v, p = .pointer (some ⟨t, 0, none⟩) ∧ B ≤ t ∧ w.heap[t]? = some (.cells #[v] 113 (0, 0)) ∧ w.ownsRow B 9 1 v T.length (T.map encStr)
theorem kept_nil (w : World) : Calls Tryz.prog 107 #[.pointer none] w fun e w' => e = .returned (.slice none 0 0) ∧ w = w' := by
  go_enter Tryz.func107, Tryz.ntmps107
  go_wp2
  go_ret
  exact ⟨rfl, rfl⟩
theorem kept (w : World) (t : Nat) (v : Value) (h : w.cell? ⟨t, 0, none⟩ = some v) : Calls Tryz.prog 107 #[.pointer (some ⟨t, 0, none⟩)] w fun e w' => e = .returned v ∧ w = w' := by
  go_enter Tryz.func107, Tryz.ntmps107
  go_wp2
  go_ret
  exact ⟨rfl, rfl⟩
def NewPost (ss : List Str) (w : World) (e : Ending) (w' : World) : Prop := ∃ p, e = .returned p ∧ TabAt w' w.heap.size p (tab ss) ∧ Below w.heap.size w w'
theorem tab_nil : tab [] = [] := by unfold tab srt; simp [Lib.compact, Lib.compactUpTo]
theorem new_nil (n : Nat) (c : Nat) (w : World) : Calls Tryz.prog 61 #[.slice none n c] w (NewPost [] w) := by
  go_enter Tryz.func61, Tryz.ntmps61
  go_wp2_with (first | (go_at_call 55; refine (Tryz.slices_Clone_string_nil _ _ _).mono ?_; rintro e w' ⟨rfl, rfl⟩) | (go_at_call 105; refine (Tryz.slices_Sort_string_none _ _ _).mono ?_; rintro e w' ⟨rfl, rfl⟩) | (go_at_call 106; refine (Tryz.slices_Compact_string_empty _ _ _).mono ?_; rintro e w' ⟨rfl, rfl⟩))
  go_ret
  exact ⟨_, rfl, ⟨_, _, rfl, Nat.le_refl _, heap_alloc_new _ _, by rw [tab_nil]; exact World.ownsRow_nil _ _ _ _⟩, (Below.refl _ _).alloc (Nat.le_refl _) _⟩
theorem srt_len (ls : List Str) : (srt ls).length = ls.length := List.length_mergeSort ..
theorem own_lt {w : World} {B : Nat} {e : TypeId} {g n c : Nat} {xs : List Value} (h : w.ownsRow B e 1 (.slice (some ⟨g, 0, none⟩) n c) n xs) : B ≤ g ∧ g < w.heap.size := h.lt g rfl
theorem sortC (B g n c : Nat) (ls : List Str) (w : World) (h : w.ownsRow B 9 1 (.slice (some ⟨g, 0, none⟩) n c) n (ls.map encStr)) (hn : n ≤ 1000000) :
    Calls Tryz.prog 105 #[.slice (some ⟨g, 0, none⟩) n c] w fun e w' => e = .returned (.tuple #[]) ∧ w'.ownsRow B 9 1 (.slice (some ⟨g, 0, none⟩) n c) n ((srt ls).map encStr) ∧ Below B w w' := by
  obtain ⟨g', cap', e1, hg, hlt, hnc, hm, hl, hH⟩ := Lib.holds_of_ownsRow h (by simp)
  injection e1 with e1 _ e3
  injection e1 with e1
  injection e1 with e1
  subst e1; subst e3
  obtain ⟨cur, hb, hs⟩ : ∃ cur, w.heap[g]? = some (.cells cur 9 (0, 0)) ∧ cur.size = c * 1 := by
    rcases h.2 with ⟨e0, _⟩ | ⟨g'', cap'', cur, e0, _, hh, _, _, hs, _⟩
    · simp at e0
    · injection e0 with e1 _ e3
      injection e1 with e1
      injection e1 with e1
      subst e1; subst e3
      exact ⟨cur, hh, hs⟩
  subst hl
  refine (Tryz.slices_Sort_string g 0 c ls w hH hlt (by omega)).mono ?_
  rintro e w' ⟨rfl, q, os, rfl⟩
  refine ⟨rfl, ownsRow_sorted (srt_len ls) hg hb hnc hm hs, (Below.refl B w).grown (grownBy_sorted _) (by omega) (fun k hk => by injection hk with hk; omega)⟩
theorem compactC (B g n c : Nat) (ls : List Str) (w : World) (h : w.ownsRow B 9 1 (.slice (some ⟨g, 0, none⟩) n c) n (ls.map encStr)) (hn : n ≤ 1000000) :
    Calls Tryz.prog 106 #[.slice (some ⟨g, 0, none⟩) n c] w fun e w' => ∃ v, e = .returned v ∧ w'.ownsRow B 9 1 v (Lib.compact ls).length ((Lib.compact ls).map encStr) ∧ Below B w w' := by
  obtain ⟨g', cap', e1, hg, hlt, hnc, hm, hl, hH⟩ := Lib.holds_of_ownsRow h (by simp)
  injection e1 with e1 _ e3
  injection e1 with e1
  injection e1 with e1
  subst e1; subst e3
  subst hl
  refine (Tryz.slices_Compact_string g 0 c ls w hH (by omega) (by omega)).mono ?_
  rintro e w' ⟨rfl, q, rfl⟩
  have hle := Lib.compact_length_le ls
  have h2 := Lib.ownsRow_putRow (q := q) (k := (Lib.compact ls).length) (ys := Lib.compact ls ++ List.replicate (ls.length - (Lib.compact ls).length) []) h (by simp; omega) hle
  rw [List.take_left] at h2
  exact ⟨_, rfl, h2, Lib.below_putRow (Below.refl B w) hg⟩
theorem own_slice {w : World} {B : Nat} {e : TypeId} {v : Value} {n : Nat} {xs : List Value} (h : w.ownsRow B e 1 v n xs) (hv : v ≠ .slice none 0 0) : ∃ g c, v = .slice (some ⟨g, 0, none⟩) n c := by
  rcases h.2 with ⟨e0, _⟩ | ⟨g, c, cur, e0, _⟩
  · exact absurd e0 hv
  · exact ⟨g, c, e0⟩
theorem own_form {w : World} {B : Nat} {e : TypeId} {size : Nat} {v : Value} {n : Nat} {xs : List Value} (h : w.ownsRow B e size v n xs) : ∃ A n c, v = .slice A n c := by
  rcases h.2 with ⟨e0, _⟩ | ⟨g, c, cur, e0, _⟩ <;> exact ⟨_, _, _, e0⟩
theorem new_own (args : Value) (ss : List Str) (w : World) (hn : ss.length ≤ 1000000)
    (hclone : Calls Tryz.prog 55 #[args] w fun e w' => ∃ v, e = .returned v ∧ w'.ownsRow w.heap.size 9 1 v ss.length (ss.map encStr) ∧ v ≠ .slice none 0 0 ∧ Below w.heap.size w w') :
    Calls Tryz.prog 61 #[args] w (NewPost ss w) := by
  have H := Lib.hid hclone
  clear hclone
  go_enter Tryz.func61, Tryz.ntmps61
  go_wp2_with (go_at_call 55; refine H.out.mono ?_)
  rintro e w1 ⟨v, rfl, hown, hv, hb1⟩
  obtain ⟨g, c, rfl⟩ := own_slice hown hv
  go_wp2_with (go_at_call 105; refine (sortC w.heap.size g _ c _ _ hown hn).mono ?_)
  rintro e w2 ⟨rfl, hown2, hb2⟩
  go_wp2_with (go_at_call 106; refine (compactC w.heap.size g _ c _ _ hown2 hn).mono ?_)
  rintro e w3 ⟨v3, rfl, hown3, hb3⟩
  have hb4 := (hb1.trans hb2).trans hb3
  clear hown hown2 hb1 hb2 hb3 hv
  obtain ⟨A3, n3, c3, rfl⟩ := own_form hown3
  go_wp2
  go_ret
  exact ⟨_, rfl, ⟨_, _, rfl, hb4.size, heap_alloc_new _ _, hown3.alloc _⟩, hb4.alloc hb4.size _⟩
def enB (l : Str) : ByteArray := ⟨l.toArray⟩
theorem map_enB (ss : List Str) : (ss.map enB).map Value.string = ss.map encStr := by
  rw [List.map_map]; rfl
theorem new (A : Option Addr) (c : Nat) (ss : List Str) (w : World) (hn : ss.length ≤ 1000000) (h : SRow w A ss) : Calls Tryz.prog 61 #[.slice A ss.length c] w (NewPost ss w) := by
  rcases A with _ | ad
  · have : ss = [] := by
      cases ss with
      | nil => rfl
      | cons a l => obtain ⟨_, _, e, _⟩ := h (by simp); cases e
    subst this
    exact new_nil _ _ _
  · by_cases h0 : 0 < ss.length
    · obtain ⟨b, off, e, _, hc⟩ := h h0
      injection e with e
      subst e
      refine new_own _ ss w hn ?_
      have := Tryz.slices_Clone_string b off ss.length c (ss.map enB) w (by simp) (by omega) (fun j hj => by
        rw [List.length_map] at hj
        rw [hc j hj, List.getD_eq_getElem?_getD, List.getElem?_map, List.getElem?_eq_getElem hj]; rfl)
      rw [List.take_of_length_le (by simp), map_enB] at this
      exact this
    · have : ss = [] := List.eq_nil_of_length_eq_zero (by omega)
      subst this
      refine new_own _ [] w (by simp) ?_
      exact Tryz.slices_Clone_string_zero ad c w
end Go.Proofs.YtkmpbkgmdfeicaaGreat.Tab1
/- Policies: what they read as; rows of statements and of queries, wherever they lie. -/
namespace Go.Proofs.YtkmpbkgmdfeicaaGreat.PolE
set_option linter.unusedVariables false
set_option linter.unusedSimpArgs false
open Go.RowKit Go.Sort Go.Lib Go.Proofs Go.Proofs.YtkmpbkgmdfeicaaGreat.Plain Go.Proofs.YtkmpbkgmdfeicaaGreat.SynP Go.Proofs.YtkmpbkgmdfeicaaGreat.TabP Go.Proofs.YtkmpbkgmdfeicaaGreat.Tab1 Go.Proofs.YtkmpbkgmdfeicaaGreat.SynC Go.Proofs.YtkmpbkgmdfeicaaGreat.SynD2 Go.Proofs.YtkmpbkgmdfeicaaGreat.SynD3 Go.Proofs.YtkmpbkgmdfeicaaGreat.SynJ Go.Proofs.YtkmpbkgmdfeicaaGreat.QryP Go.Proofs.YtkmpbkgmdfeicaaGreat.PolA
structure Py where
  stmts : List St
  grow : List Rl
  shrink : List Rl
  asks : List Qy
/-- A slice value that reads as statements, wherever it lies. -/
def SG (w : World) (A : Option Addr) (L : List St) : Prop :=
  0 < L.length → ∃ g o, A = some ⟨g, o, none⟩ ∧ g < w.heap.size ∧ ∀ j, (h : j < L.length) → w.cell? ⟨g, o + j * 9, none⟩ = some (.int .i64 L[j].kind) ∧ w.cell? ⟨g, o + j * 9 + 1, none⟩ = some (.string L[j].head.owner) ∧ w.cell? ⟨g, o + j * 9 + 2, none⟩ = some (.string L[j].head.name) ∧ w.cell? ⟨g, o + j * 9 + 3, none⟩ = some (.string L[j].who) ∧ w.cell? ⟨g, o + j * 9 + 4, none⟩ = some (.string L[j].a.owner) ∧ w.cell? ⟨g, o + j * 9 + 5, none⟩ = some (.string L[j].a.name) ∧ w.cell? ⟨g, o + j * 9 + 6, none⟩ = some (.string L[j].b.owner) ∧ w.cell? ⟨g, o + j * 9 + 7, none⟩ = some (.string L[j].b.name) ∧ w.cell? ⟨g, o + j * 9 + 8, none⟩ = some (.string L[j].via)
theorem SG.below {w w' : World} {A : Option Addr} {L : List St} (h : SG w A L) (hb : Below w.heap.size w w') : SG w' A L := fun hp => by
  obtain ⟨g, o, hA, hg, hc⟩ := h hp
  refine ⟨g, o, hA, Nat.lt_of_lt_of_le hg hb.size, fun j hj => ?_⟩
  obtain ⟨a0, a1, a2, a3, a4, a5, a6, a7, a8⟩ := hc j hj
  have k : ∀ {i : Nat} {u : Value}, w.cell? ⟨g, i, none⟩ = some u → w'.cell? ⟨g, i, none⟩ = some u := fun {i u} e => (hb.cell (p := ⟨g, i, none⟩) hg).trans e
  exact ⟨k a0, k a1, k a2, k a3, k a4, k a5, k a6, k a7, k a8⟩
theorem SG.of_row {w : World} {A : Option Addr} {L : List St} (h : StRow w A L) : SG w A L := fun hp => by
  obtain ⟨g, hA, hg, hc⟩ := h hp
  exact ⟨g, 0, hA, hg, fun j hj => by simpa only [Nat.zero_add] using hc j hj⟩
theorem SG.of_at {w : World} {A : Option Addr} {L : List St} (h : StAt w A L) : SG w A L := fun hp => by
  obtain ⟨g, o, hA, hg, hc⟩ := h hp
  refine ⟨g, o, hA, hg, fun j hj => ?_⟩
  have k : ∀ (i : Nat) (u : Value), i < 9 → L[j].cells[i]? = some u → w.cell? ⟨g, o + j * 9 + i, none⟩ = some u := fun i u hi hu => by
    rw [Nat.add_assoc]; exact hc _ u ((stCells_at L j i hj hi).trans hu)
  exact ⟨k 0 _ (by omega) rfl, k 1 _ (by omega) rfl, k 2 _ (by omega) rfl, k 3 _ (by omega) rfl, k 4 _ (by omega) rfl, k 5 _ (by omega) rfl, k 6 _ (by omega) rfl, k 7 _ (by omega) rfl, k 8 _ (by omega) rfl⟩
theorem SG.at_ {w : World} {A : Option Addr} {L : List St} (h : SG w A L) : StAt w A L := fun hp => by
  obtain ⟨g, o, hA, hg, hc⟩ := h hp
  refine ⟨g, o, hA, hg, fun j u hu => ?_⟩
  have hj : j < L.length * 9 := by
    rw [← stCells_len]
    rcases Nat.lt_or_ge j (stCells L).length with h | h
    · exact h
    · rw [List.getElem?_eq_none h] at hu; cases hu
  obtain ⟨a0, a1, a2, a3, a4, a5, a6, a7, a8⟩ := hc (j / 9) (by omega)
  have e := stCells_at L (j / 9) (j % 9) (by omega) (by omega)
  rw [show j / 9 * 9 + j % 9 = j by omega, hu] at e
  have hm : j % 9 < 9 := by omega
  have hj9 : o + j = o + j / 9 * 9 + j % 9 := by omega
  rw [hj9]
  generalize j % 9 = m at e hm
  match m, hm with
  | 0, _ => rw [e]; exact a0
  | 1, _ => rw [e]; exact a1
  | 2, _ => rw [e]; exact a2
  | 3, _ => rw [e]; exact a3
  | 4, _ => rw [e]; exact a4
  | 5, _ => rw [e]; exact a5
  | 6, _ => rw [e]; exact a6
  | 7, _ => rw [e]; exact a7
  | 8, _ => rw [e]; exact a8
/-- A slice value that reads as queries, wherever it lies. -/
def QG (w : World) (A : Option Addr) (L : List Qy) : Prop :=
  0 < L.length → ∃ g o, A = some ⟨g, o, none⟩ ∧ g < w.heap.size ∧ ∀ j, (h : j < L.length) → ∃ (B : Option Addr) (c : Nat), w.cell? ⟨g, o + j * 6, none⟩ = some (.int .i64 L[j].kind) ∧ w.cell? ⟨g, o + j * 6 + 1, none⟩ = some (.string L[j].a.owner) ∧ w.cell? ⟨g, o + j * 6 + 2, none⟩ = some (.string L[j].a.name) ∧ w.cell? ⟨g, o + j * 6 + 3, none⟩ = some (.string L[j].b.owner) ∧ w.cell? ⟨g, o + j * 6 + 4, none⟩ = some (.string L[j].b.name) ∧ w.cell? ⟨g, o + j * 6 + 5, none⟩ = some (.slice B L[j].who.length c) ∧ SRow w B L[j].who
theorem QG.below {w w' : World} {A : Option Addr} {L : List Qy} (h : QG w A L) (hb : Below w.heap.size w w') : QG w' A L := fun hp => by
  obtain ⟨g, o, hA, hg, hc⟩ := h hp
  refine ⟨g, o, hA, Nat.lt_of_lt_of_le hg hb.size, fun j hj => ?_⟩
  obtain ⟨B, c, a0, a1, a2, a3, a4, a5, a6⟩ := hc j hj
  have k : ∀ {i : Nat} {u : Value}, w.cell? ⟨g, i, none⟩ = some u → w'.cell? ⟨g, i, none⟩ = some u := fun {i u} e => (hb.cell (p := ⟨g, i, none⟩) hg).trans e
  exact ⟨B, c, k a0, k a1, k a2, k a3, k a4, k a5, a6.keep hb⟩
/-- A policy's four rows, as they lie. -/
structure PG (w : World) (A1 A2 A3 A4 : Option Addr) (p : Py) : Prop where
  s : SG w A1 p.stmts
  g : RG w A2 p.grow
  h : RG w A3 p.shrink
  q : QG w A4 p.asks
theorem PG.below {w w' : World} {A1 A2 A3 A4 : Option Addr} {p : Py} (h : PG w A1 A2 A3 A4 p) (hb : Below w.heap.size w w') : PG w' A1 A2 A3 A4 p :=
  ⟨h.s.below hb, h.g.below hb, h.h.below hb, h.q.below hb⟩
def Py.val (p : Py) (A1 A2 A3 A4 : Option Addr) (c1 c2 c3 c4 : Nat) : Value := .agg #[.slice A1 p.stmts.length c1, .slice A2 p.grow.length c2, .slice A3 p.shrink.length c3, .slice A4 p.asks.length c4]
/-- Rows and texts that no machine is too small for. -/
structure Py.fit (p : Py) : Prop where
  n1 : p.stmts.length ≤ 1000
  n2 : p.grow.length ≤ 1000
  n3 : p.shrink.length ≤ 1000
  n4 : p.asks.length ≤ 1000
  f1 : ∀ s ∈ p.stmts, s.fit
  f2 : ∀ r ∈ p.grow, r.light
  f3 : ∀ r ∈ p.shrink, r.light
  f4 : ∀ q ∈ p.asks, q.fit
  f5 : ∀ q ∈ p.asks, q.who.length ≤ 100
end Go.Proofs.YtkmpbkgmdfeicaaGreat.PolE
/- The turning of a text, a byte at a time: the text and the line so far (maths). -/
namespace Go.Proofs.YtkmpbkgmdfeicaaGreat.PolTl
set_option linter.unusedVariables false
set_option linter.unusedSimpArgs false
set_option linter.unusedVariables false
set_option linter.unusedSimpArgs false
/-- The text so far and the line so far, a byte further. -/
def turnB (p : List UInt8 × List UInt8) (c : UInt8) : List UInt8 × List UInt8 :=
  if c = 10 then ([32, 32] ++ p.2 ++ [32, 35, 32, 120, 10, 10] ++ p.1 ++ p.2 ++ [10], []) else (p.1, p.2 ++ [c])
def upto (s : List UInt8) (k : Nat) : List UInt8 × List UInt8 := (s.take k).foldl turnB ([], [])
theorem upto_zero (s : List UInt8) : upto s 0 = ([], []) := rfl
theorem upto_succ {s : List UInt8} {k : Nat} (h : k < s.length) : upto s (k + 1) = turnB (upto s k) s[k] := by
  unfold upto
  rw [List.take_succ_eq_append_getElem h, List.foldl_append]
  rfl
theorem upto_nl {s : List UInt8} {k : Nat} (h : k < s.length) (hc : s[k] = 10) : upto s (k + 1) = ([32, 32] ++ (upto s k).2 ++ [32, 35, 32, 120, 10, 10] ++ (upto s k).1 ++ (upto s k).2 ++ [10], []) := by
  rw [upto_succ h]; unfold turnB; rw [if_pos hc]
theorem upto_other {s : List UInt8} {k : Nat} (h : k < s.length) (hc : s[k] ≠ 10) : upto s (k + 1) = ((upto s k).1, (upto s k).2 ++ [s[k]]) := by
  rw [upto_succ h]; unfold turnB; rw [if_neg hc]
theorem upto_len (s : List UInt8) : ∀ k, k ≤ s.length → (upto s k).1.length + 2 * (upto s k).2.length ≤ 9 * k
  | 0, _ => by simp [upto]
  | k + 1, h => by
    have ih := upto_len s k (by omega)
    by_cases hc : s[k]'(by omega) = 10
    · rw [upto_nl (by omega) hc]
      simp only [List.length_append, List.length_cons, List.length_nil]
      omega
    · rw [upto_other (by omega) hc]
      simp only [List.length_append, List.length_cons, List.length_nil]
      omega
end Go.Proofs.YtkmpbkgmdfeicaaGreat.PolTl
/- PolicyTurns: the law's walk, where the policy may be and prints in at most 3000 bytes, its callees by contract. -/
namespace Go.Proofs.YtkmpbkgmdfeicaaGreat.PolTw
set_option linter.unusedVariables false
set_option linter.unusedSimpArgs false
open Go.RowKit Go.Sort Go.Lib Go.Proofs Go.Proofs.YtkmpbkgmdfeicaaGreat.Plain Go.Proofs.YtkmpbkgmdfeicaaGreat.SynP Go.Proofs.YtkmpbkgmdfeicaaGreat.TabP Go.Proofs.YtkmpbkgmdfeicaaGreat.Tab1 Go.Proofs.YtkmpbkgmdfeicaaGreat.PolE Go.Proofs.YtkmpbkgmdfeicaaGreat.PolTl
set_option linter.unusedVariables false
set_option linter.unusedSimpArgs false
theorem nx {W w1 w2 : World} (h : Below W.heap.size W w1) (hb : Below w1.heap.size w1 w2) : Below W.heap.size W w2 := h.trans (hb.mono h.size)
theorem convB (w : World) (c : UInt8) : (convert 42 9 (.slice (some ⟨w.heap.size, 0, none⟩) 1 1)).run Tryz.prog (w.alloc (.cells #[.int .u8 c.toNat] 5)) = .ok (.string ⟨#[c]⟩) (w.alloc (.cells #[.int .u8 c.toNat] 5)) := by
  have h := run_convert_bytes_arg (P := Tryz.prog) (w := w.alloc (.cells #[.int .u8 c.toNat] 5)) 42 5 Tryz.underlying42 Tryz.underlying5 w.heap.size 0 1 1 [(c.toNat : Int)] rfl (fun i hi => by
    have : i = 0 := by omega
    subst this
    rw [Lib.cell_of_heap (heap_alloc_new w _)]; rfl) 9 Tryz.underlying9
  rw [h]
  unfold strOfNums
  rw [List.map_singleton]
  simp
theorem cat1 (L : List UInt8) (c : UInt8) : (⟨L.toArray⟩ ++ ⟨#[c]⟩ : ByteArray) = ⟨(L ++ [c]).toArray⟩ := by
  apply ByteArray.ext
  simp
theorem cat5 (L T : List UInt8) : (⟨#[32, 32]⟩ ++ ⟨L.toArray⟩ ++ ⟨#[32, 35, 32, 120, 10, 10]⟩ ++ ⟨T.toArray⟩ ++ ⟨L.toArray⟩ ++ ⟨#[10]⟩ : ByteArray) = ⟨([32, 32] ++ L ++ [32, 35, 32, 120, 10, 10] ++ T ++ L ++ [10]).toArray⟩ := by
  apply ByteArray.ext
  simp
set_option maxHeartbeats 2000000 in
set_option maxRecDepth 100000 in
theorem walk (V1 V2 V3 : Value) (V4 : Value) (s : ByteArray) (hs : s.size ≤ 3000) (w : World)
    (F : Prop) (HLi : Hid (∀ w', Below w.heap.size w w' → Calls Tryz.prog 7 #[.agg #[V1, V2, V3, .slice none 0 0]] w' fun e w'' => ∃ b, e = .returned (.bool b) ∧ (b = true → F) ∧ Below w'.heap.size w' w''))
    (HRi : Hid (F → ∀ w', Below w.heap.size w w' → Calls Tryz.prog 9 #[.agg #[V1, V2, V3, .slice none 0 0]] w' fun e w'' => e = .returned (.bool true) ∧ Below w'.heap.size w' w''))
    (HPr : Hid (F → ∀ w', Below w.heap.size w w' → Calls Tryz.prog 13 #[.agg #[V1, V2, V3, .slice none 0 0]] w' fun e w'' => e = .returned (.string s) ∧ Below w'.heap.size w' w''))
    (Pp : World → Option Addr → Nat → Option Addr → Nat → Option Addr → Nat → Prop) (HPp : Hid (∀ w' w'' B1 n1 B2 n2 B3 n3, Pp w' B1 n1 B2 n2 B3 n3 → Below w'.heap.size w' w'' → Pp w'' B1 n1 B2 n2 B3 n3))
    (HPa : Hid (F → ∀ w', Below w.heap.size w w' → Calls Tryz.prog 24 #[.string ⟨(upto s.data.toList s.size).1.toArray⟩] w' fun e w'' => ∃ B1 n1 j1 B2 n2 j2 B3 n3 j3, e = .returned (.tuple #[.agg #[.slice B1 n1 j1, .slice B2 n2 j2, .slice B3 n3 j3, .slice none 0 0], .agg #[.int .i64 0, .int .i64 0, .int .i64 0]]) ∧ Pp w'' B1 n1 B2 n2 B3 n3 ∧ Below w'.heap.size w' w''))
    (HSm : Hid (F → ∀ w' B1 n1 j1 B2 n2 j2 B3 n3 j3, Pp w' B1 n1 B2 n2 B3 n3 → Below w.heap.size w w' → Calls Tryz.prog 15 #[.agg #[.slice B1 n1 j1, .slice B2 n2 j2, .slice B3 n3 j3, .slice none 0 0], .agg #[V1, V2, V3, .slice none 0 0]] w' fun e w'' => e = .returned (.bool true) ∧ Below w'.heap.size w' w''))
    (HLv : Hid (∀ w', Below w.heap.size w w' → Calls Tryz.prog 8 #[] w' fun e w'' => e = .returned (.bool true) ∧ Below w'.heap.size w' w'')) :
    Calls Tryz.prog 6 #[.agg #[V1, V2, V3, V4]] w fun e w' => e = .returned (.bool true) ∧ Below w.heap.size w w' := by
  have hX := heap_alloc_new w (.cells #[V1, V2, V3, .slice none 0 0] 26)
  have hb0 : Below w.heap.size w (w.alloc (.cells #[V1, V2, V3, .slice none 0 0] 26)) := (Below.refl _ _).alloc (Nat.le_refl _) _
  have d3 : decide ((3000 : Int) < s.size) = false := by simp; omega
  go_enter Tryz.func6, Tryz.ntmps6
  go_wp2_with fail
  generalize w.alloc (.cells #[V1, V2, V3, .slice none 0 0] 26) = w0 at *
  have HX : Hid (∀ w', Below w0.heap.size w0 w' → Below w.heap.size w w' ∧ ∀ o, w'.cell? ⟨w.heap.size, o, none⟩ = (#[V1, V2, V3, .slice none 0 0] : Array Value)[o]?) := Lib.hid (fun w' hb => ⟨nx hb0 hb, fun o => Lib.cell_of_heap ((hb.block _ (Array.getElem?_eq_some_iff.1 hX).1).trans hX) o⟩)
  clear hX hb0
  refine (HLi.out _ (HX.out w0 (Below.refl _ _)).1).mono ?_
  rintro e w1 ⟨b, rfl, hF, hb⟩
  cases b
  · have HB1 := Lib.hid hb
    have k1 := (HX.out _ hb).2
    clear hb hF
    go_wp2_with fail
    refine (HLv.out _ (HX.out _ HB1.out).1).mono ?_
    rintro e w9 ⟨rfl, hb⟩
    have HF := Lib.hid ((HX.out _ (nx HB1.out hb)).1)
    clear hb
    go_wp2_with fail
    go_ret
    exact ⟨rfl, HF.out⟩
  replace hF := hF rfl
  replace HRi := Lib.hid (HRi.out hF)
  replace HPr := Lib.hid (HPr.out hF)
  replace HPa := Lib.hid (HPa.out hF)
  replace HSm := Lib.hid (HSm.out hF)
  clear hF
  have HB1 := Lib.hid hb
  have k1 := (HX.out _ hb).2
  clear hb
  go_wp2_with fail
  refine (HRi.out _ (HX.out w1 HB1.out).1).mono ?_
  rintro e w2 ⟨rfl, hb⟩
  have HB2 := Lib.hid (nx HB1.out hb)
  have k2 := (HX.out _ HB2.out).2
  clear hb k1 HB1
  go_wp2_with fail
  refine (HPr.out _ (HX.out w2 HB2.out).1).mono ?_
  rintro e w3 ⟨rfl, hb⟩
  have HB3 := Lib.hid (nx HB2.out hb)
  have k3 := (HX.out _ HB3.out).2
  clear hb k2 HB2
  go_wp2_with fail
  refine (HPr.out _ (HX.out w3 HB3.out).1).mono ?_
  rintro e w4 ⟨rfl, hb⟩
  have HB4 := Lib.hid (nx HB3.out hb)
  clear hb k3 HB3
  go_wp2_with fail
  clear d3
  go_loopw [3, 4, 28] (fun t l i wr => ∃ k : Nat, k ≤ s.size ∧ i = .int .i64 k ∧ t = .string ⟨(upto s.data.toList k).1.toArray⟩ ∧ l = .string ⟨(upto s.data.toList k).2.toArray⟩ ∧ Below w0.heap.size w0 wr) (fun _ _ i _ => s.size - (intOf i).toNat)
  case atStart => exact ⟨0, by omega, rfl, rfl, rfl, HB4.out⟩
  case round =>
    obtain ⟨k, hk, rfl, rfl, rfl, hb⟩ := hrel
    have HBk := Lib.hid hb
    by_cases hlt : k < s.size
    · have e1 : decide ((k : Int) < s.size) = true := by simp; omega
      have p0 : (0 : Int) ≤ k := by omega
      have p1 : (k : Int) < s.size := by omega
      have kk := (HX.out _ hb).2
      have hul := upto_len s.data.toList k (by simp; omega)
      have hlk : k < s.data.toList.length := by simp; omega
      have hsk : s.data.toList[k] = s[k]'hlt := by simp; rfl
      have HN : Hid (s[k]'hlt = 10 → upto s.data.toList (k + 1) = ([32, 32] ++ (upto s.data.toList k).2 ++ [32, 35, 32, 120, 10, 10] ++ (upto s.data.toList k).1 ++ (upto s.data.toList k).2 ++ [10], [])) := Lib.hid (fun h => upto_nl hlk (by rw [hsk]; exact h))
      have HO : Hid (s[k]'hlt ≠ 10 → upto s.data.toList (k + 1) = ((upto s.data.toList k).1, (upto s.data.toList k).2 ++ [s[k]'hlt])) := Lib.hid (fun h => by rw [← hsk] at h ⊢; exact upto_other hlk h)
      clear hb hlk hsk
      generalize (upto s.data.toList k).1 = T at *
      generalize (upto s.data.toList k).2 = L at *
      have f0 : (9223372036854775807 < L.length + 1) = False := by simp; omega
      have f1 : (9223372036854775807 < 2 + L.length) = False := by simp; omega
      have f2 : (9223372036854775807 < 2 + L.length + 6) = False := by simp; omega
      have f3 : (9223372036854775807 < 2 + L.length + 6 + T.length) = False := by simp; omega
      have f4 : (9223372036854775807 < 2 + L.length + 6 + T.length + L.length) = False := by simp; omega
      have f5 : (9223372036854775807 < 2 + L.length + 6 + T.length + L.length + 1) = False := by simp; omega
      clear hul
      by_cases hc : s[k] = 10
      · have e2 : ((s[k].toNat : Int) != 10) = false := by rw [hc]; rfl
        have HU := Lib.hid (HN.out hc)
        clear HN HO hc
        go_wp2_with fail
        refine (HPr.out _ (HX.out _ HBk.out).1).mono ?_
        rintro e w5 ⟨rfl, hb⟩
        have HB5 := Lib.hid (nx HBk.out hb)
        clear hb kk HBk
        go_wp2_with fail
        go_roundw
        case rel => exact ⟨k + 1, by omega, by go_num, by rw [HU.out]; exact congrArg Value.string (cat5 L T), by rw [HU.out], HB5.out⟩
        case measure => simp [intOf]; omega
      · have e2 : ((s[k].toNat : Int) != 10) = true := by
          simp
          intro h
          apply hc
          apply UInt8.toNat_inj.1
          show s[k].toNat = 10
          omega
        have HU := Lib.hid (HO.out hc)
        clear HN HO hc
        go_wp2_with fail
        refine (HPr.out _ (HX.out _ HBk.out).1).mono ?_
        rintro e w5 ⟨rfl, hb⟩
        have HB5 := Lib.hid (nx HBk.out hb)
        clear hb kk HBk
        go_wp2_with fail
        rw [convB w5 s[k]]
        go_wp2_with fail
        go_roundw
        case rel => exact ⟨k + 1, by omega, by go_num, by rw [HU.out], by rw [HU.out]; exact congrArg Value.string (cat1 L _), HB5.out.alloc HB5.out.size _⟩
        case measure => simp [intOf]; omega
    · have e1 : decide ((k : Int) < s.size) = false := by simp; omega
      obtain rfl : k = s.size := by omega
      clear hb
      go_wp2_with fail
      refine (HPa.out _ (HX.out _ HBk.out).1).mono ?_
      rintro e w5 ⟨B1, n1, j1, B2, n2, j2, B3, n3, j3, rfl, hp, hb⟩
      have HB5 := Lib.hid (nx HBk.out hb)
      clear hb HBk
      have hbx : Below w5.heap.size w5 ((w5.alloc (.cells #[.slice B1 n1 j1, .slice B2 n2 j2, .slice B3 n3 j3, .slice none 0 0] 26)).alloc (.cells #[.int .i64 0, .int .i64 0, .int .i64 0] 37)) := ((Below.refl _ _).alloc (Nat.le_refl _) _).alloc (by simp) _
      have HB6 := Lib.hid (nx HB5.out hbx)
      have hp6 := HPp.out _ _ _ _ _ _ _ _ hp hbx
      have k5 := (HX.out _ HB5.out).2
      have k6 := (HX.out _ HB6.out).2
      clear hbx hp
      go_wp2_with fail
      refine (HSm.out _ B1 n1 j1 B2 n2 j2 B3 n3 j3 hp6 (HX.out _ HB6.out).1).mono ?_
      rintro e w7 ⟨rfl, hb⟩
      have HB7 := Lib.hid (nx HB6.out hb)
      clear hb k5 k6 hp6 HB6 HB5
      go_wp2_with fail
      refine (HLv.out _ (HX.out _ HB7.out).1).mono ?_
      rintro e w8 ⟨rfl, hb⟩
      have HF := Lib.hid ((HX.out _ (nx HB7.out hb)).1)
      clear hb HB7
      go_wp2_with fail
      go_ret
      exact ⟨rfl, HF.out⟩
set_option maxHeartbeats 2000000 in
set_option maxRecDepth 100000 in
theorem dim2 (V1 V2 V3 : Value) (V4 : Value) (w : World)
    (F : Prop) (HLi : Hid (∀ w', Below w.heap.size w w' → Calls Tryz.prog 7 #[.agg #[V1, V2, V3, .slice none 0 0]] w' fun e w'' => ∃ b, e = .returned (.bool b) ∧ (b = true → F) ∧ Below w'.heap.size w' w''))
    (HRi : Hid (F → ∀ w', Below w.heap.size w w' → Calls Tryz.prog 9 #[.agg #[V1, V2, V3, .slice none 0 0]] w' fun e w'' => e = .returned (.bool false) ∧ Below w'.heap.size w' w''))
    (HLv : Hid (∀ w', Below w.heap.size w w' → Calls Tryz.prog 8 #[] w' fun e w'' => e = .returned (.bool true) ∧ Below w'.heap.size w' w'')) :
    Calls Tryz.prog 6 #[.agg #[V1, V2, V3, V4]] w fun e w' => e = .returned (.bool true) ∧ Below w.heap.size w w' := by
  have hX := heap_alloc_new w (.cells #[V1, V2, V3, .slice none 0 0] 26)
  have hb0 : Below w.heap.size w (w.alloc (.cells #[V1, V2, V3, .slice none 0 0] 26)) := (Below.refl _ _).alloc (Nat.le_refl _) _
  go_enter Tryz.func6, Tryz.ntmps6
  go_wp2_with fail
  generalize w.alloc (.cells #[V1, V2, V3, .slice none 0 0] 26) = w0 at *
  have HX : Hid (∀ w', Below w0.heap.size w0 w' → Below w.heap.size w w' ∧ ∀ o, w'.cell? ⟨w.heap.size, o, none⟩ = (#[V1, V2, V3, .slice none 0 0] : Array Value)[o]?) := Lib.hid (fun w' hb => ⟨nx hb0 hb, fun o => Lib.cell_of_heap ((hb.block _ (Array.getElem?_eq_some_iff.1 hX).1).trans hX) o⟩)
  clear hX hb0
  refine (HLi.out _ (HX.out w0 (Below.refl _ _)).1).mono ?_
  rintro e w1 ⟨b, rfl, hF, hb⟩
  cases b
  · have HB1 := Lib.hid hb
    have k1 := (HX.out _ hb).2
    clear hb hF
    go_wp2_with fail
    refine (HLv.out _ (HX.out _ HB1.out).1).mono ?_
    rintro e w9 ⟨rfl, hb⟩
    have HF := Lib.hid ((HX.out _ (nx HB1.out hb)).1)
    clear hb
    go_wp2_with fail
    go_ret
    exact ⟨rfl, HF.out⟩
  replace hF := hF rfl
  replace HRi := Lib.hid (HRi.out hF)
  clear hF
  have HB1 := Lib.hid hb
  have k1 := (HX.out _ hb).2
  clear hb
  go_wp2_with fail
  refine (HRi.out _ (HX.out w1 HB1.out).1).mono ?_
  rintro e w2 ⟨rfl, hb⟩
  have HB2 := Lib.hid (nx HB1.out hb)
  have k2 := (HX.out _ HB2.out).2
  clear hb k1
  go_wp2_with fail
  refine (HLv.out _ (HX.out _ HB2.out).1).mono ?_
  rintro e w9 ⟨rfl, hb⟩
  have HF := Lib.hid ((HX.out _ (nx HB2.out hb)).1)
  clear hb
  go_wp2_with fail
  go_ret
  exact ⟨rfl, HF.out⟩
set_option maxHeartbeats 2000000 in
set_option maxRecDepth 100000 in
theorem dim3 (V1 V2 V3 : Value) (V4 : Value) (w : World) (s : ByteArray) (hs : 3000 < s.size)
    (F : Prop) (HLi : Hid (∀ w', Below w.heap.size w w' → Calls Tryz.prog 7 #[.agg #[V1, V2, V3, .slice none 0 0]] w' fun e w'' => ∃ b, e = .returned (.bool b) ∧ (b = true → F) ∧ Below w'.heap.size w' w''))
    (HRi : Hid (F → ∀ w', Below w.heap.size w w' → Calls Tryz.prog 9 #[.agg #[V1, V2, V3, .slice none 0 0]] w' fun e w'' => e = .returned (.bool true) ∧ Below w'.heap.size w' w''))
    (HPr : Hid (F → ∀ w', Below w.heap.size w w' → Calls Tryz.prog 13 #[.agg #[V1, V2, V3, .slice none 0 0]] w' fun e w'' => e = .returned (.string s) ∧ Below w'.heap.size w' w''))
    (HLv : Hid (∀ w', Below w.heap.size w w' → Calls Tryz.prog 8 #[] w' fun e w'' => e = .returned (.bool true) ∧ Below w'.heap.size w' w'')) :
    Calls Tryz.prog 6 #[.agg #[V1, V2, V3, V4]] w fun e w' => e = .returned (.bool true) ∧ Below w.heap.size w w' := by
  have hX := heap_alloc_new w (.cells #[V1, V2, V3, .slice none 0 0] 26)
  have hb0 : Below w.heap.size w (w.alloc (.cells #[V1, V2, V3, .slice none 0 0] 26)) := (Below.refl _ _).alloc (Nat.le_refl _) _
  have d3 : decide ((3000 : Int) < s.size) = true := by simp; omega
  go_enter Tryz.func6, Tryz.ntmps6
  go_wp2_with fail
  generalize w.alloc (.cells #[V1, V2, V3, .slice none 0 0] 26) = w0 at *
  have HX : Hid (∀ w', Below w0.heap.size w0 w' → Below w.heap.size w w' ∧ ∀ o, w'.cell? ⟨w.heap.size, o, none⟩ = (#[V1, V2, V3, .slice none 0 0] : Array Value)[o]?) := Lib.hid (fun w' hb => ⟨nx hb0 hb, fun o => Lib.cell_of_heap ((hb.block _ (Array.getElem?_eq_some_iff.1 hX).1).trans hX) o⟩)
  clear hX hb0
  refine (HLi.out _ (HX.out w0 (Below.refl _ _)).1).mono ?_
  rintro e w1 ⟨b, rfl, hF, hb⟩
  cases b
  · have HB1 := Lib.hid hb
    have k1 := (HX.out _ hb).2
    clear hb hF
    go_wp2_with fail
    refine (HLv.out _ (HX.out _ HB1.out).1).mono ?_
    rintro e w9 ⟨rfl, hb⟩
    have HF := Lib.hid ((HX.out _ (nx HB1.out hb)).1)
    clear hb
    go_wp2_with fail
    go_ret
    exact ⟨rfl, HF.out⟩
  replace hF := hF rfl
  replace HRi := Lib.hid (HRi.out hF)
  replace HPr := Lib.hid (HPr.out hF)
  clear hF
  have HB1 := Lib.hid hb
  have k1 := (HX.out _ hb).2
  clear hb
  go_wp2_with fail
  refine (HRi.out _ (HX.out w1 HB1.out).1).mono ?_
  rintro e w2 ⟨rfl, hb⟩
  have HB2 := Lib.hid (nx HB1.out hb)
  have k2 := (HX.out _ HB2.out).2
  clear hb k1
  go_wp2_with fail
  refine (HPr.out _ (HX.out w2 HB2.out).1).mono ?_
  rintro e w3 ⟨rfl, hb⟩
  have HB3 := Lib.hid (nx HB2.out hb)
  have k3 := (HX.out _ HB3.out).2
  clear hb k2
  go_wp2_with fail
  refine (HLv.out _ (HX.out _ HB3.out).1).mono ?_
  rintro e w9 ⟨rfl, hb⟩
  have HF := Lib.hid ((HX.out _ (nx HB3.out hb)).1)
  clear hb
  go_wp2_with fail
  go_ret
  exact ⟨rfl, HF.out⟩
end Go.Proofs.YtkmpbkgmdfeicaaGreat.PolTw
/- Rows of roles put one behind the other: slices.Grow, slices.Concat. -/
namespace Go.Proofs.YtkmpbkgmdfeicaaGreat.PolF
set_option linter.unusedVariables false
set_option linter.unusedSimpArgs false
open Go.RowKit Go.Sort Go.Proofs.YtkmpbkgmdfeicaaGreat.Plain Go.Proofs.YtkmpbkgmdfeicaaGreat.SynP Go.Proofs.YtkmpbkgmdfeicaaGreat.Grown Go.Proofs.YtkmpbkgmdfeicaaGreat.SynA Go.Proofs.YtkmpbkgmdfeicaaGreat.SynC Go.Proofs.YtkmpbkgmdfeicaaGreat.SynJ Go.Proofs.YtkmpbkgmdfeicaaGreat.PolA
set_option linter.unusedVariables false
/-- A row of the call's own that holds roles. -/
def RPost (l : List Rl) (w : World) (e : Ending) (w' : World) : Prop := ∃ v, e = .returned v ∧ w'.ownsRow w.heap.size 44 2 v l.length (rcells l) ∧ Below w.heap.size w w'
theorem rg_none_len {w : World} {l : List Rl} (h : RG w none l) : l.length = 0 := by rw [rg_none h]; rfl
set_option maxRecDepth 100000 in
theorem growR (n : Nat) (w : World) (hn : n ≤ 1000000) : Calls Tryz.prog 144 #[.slice none 0 0, .int .i64 n] w (RPost [] w) := by
  obtain ⟨i0, hi, hz0, hz1, hz2⟩ := info_parts infoRole
  by_cases h0 : 0 < n
  · have hz : 0 < i0.size := by rw [hz1]; omega
    have hby : n * i0.bytes ≤ 281474976710656 := by rw [hz2]; omega
    have hrun := Lib.run_append_nil_zeros (P := Tryz.prog) w 23 3 23 44 i0 (.agg #[.string ⟨#[]⟩, .string ⟨#[]⟩]) .i64 .i64 Tryz.underlying23 Tryz.underlying3 hi hz0 n h0 hz (by omega) hby
    have hg := grownCap_ge w n 0 44
    have hm := grownCap_le_maxLen w n 0 44 (by unfold maxLen; omega)
    have hm' := hm
    have hsz : (Builtin.zeroCells (Value.agg #[.string ⟨#[]⟩, .string ⟨#[]⟩]).cells n ++ Builtin.zeroCells (Value.agg #[.string ⟨#[]⟩, .string ⟨#[]⟩]).cells (grownCap w n 0 44 - n)).size = grownCap w n 0 44 * 2 := by
      rw [Array.size_append, size_zeroCells, size_zeroCells]
      show n * 2 + (grownCap w n 0 44 - n) * 2 = _
      omega
    generalize Builtin.zeroCells (Value.agg #[.string ⟨#[]⟩, .string ⟨#[]⟩]).cells n ++ Builtin.zeroCells (Value.agg #[.string ⟨#[]⟩, .string ⟨#[]⟩]).cells (grownCap w n 0 44 - n) = cells at *
    generalize grownCap w n 0 44 = gc at *
    have Hsz := Lib.hid hsz
    have Hm := Lib.hid hm'
    have Hrun := Lib.hid hrun
    clear hsz hz hby hm' hrun
    unfold maxLen at hm
    go_enter Tryz.func144, Tryz.ntmps144
    go_wp2_with (refine Lib.wpList_append_run (P := Tryz.prog) (o := ⟨some 22, _, _, _, _, _⟩) w rfl (.tmp 20) (.tmp 21) 23 3 rfl (.slice none 0 0) (.int .i64 n) ?hs ?hx (.slice (some ⟨w.heap.size, 0, none⟩) n gc) (w.drew.alloc (.cells cells 44)) (by exact Hrun.out) ?_)
    case hs => rfl
    case hx => rfl
    go_wp2
    go_ret
    exact ⟨_, rfl, World.ownsRow_made w.drew cells gc (Nat.le_refl _) Hm.out Hsz.out, (Below.refl _ _).drew.alloc (Nat.le_refl _) _⟩
  · have : n = 0 := by omega
    subst this
    go_enter Tryz.func144, Tryz.ntmps144
    go_wp2
    go_ret
    exact ⟨_, rfl, World.ownsRow_nil _ _ _ _, Below.refl _ _⟩
/-- A slice value, its room, and the roles as which it reads. -/
structure RowR where
  A : Option Addr
  c : Nat
  l : List Rl
/-- The roles of the first rows. -/
def flatTo (R : List RowR) (k : Nat) : List Rl := ((R.take k).map RowR.l).flatten
theorem flatTo_succ {R : List RowR} {k : Nat} (h : k < R.length) : flatTo R (k + 1) = flatTo R k ++ R[k].l := by
  unfold flatTo
  rw [List.take_succ_eq_append_getElem h, List.map_append, List.flatten_append, List.map_singleton, List.flatten_singleton]
theorem flatTo_len {R : List RowR} (h : ∀ r ∈ R, r.l.length ≤ 1000) : ∀ k, (flatTo R k).length ≤ k * 1000 := by
  intro k
  induction k with
  | zero => simp [flatTo]
  | succ k ih =>
    rcases Nat.lt_or_ge k R.length with hk | hk
    · rw [flatTo_succ hk, List.length_append]
      have h1 := h R[k] (List.getElem_mem _)
      rw [Nat.succ_mul]
      exact Nat.add_le_add ih h1
    · have : flatTo R (k + 1) = flatTo R k := by unfold flatTo; rw [List.take_of_length_le (by omega), List.take_of_length_le (by omega)]
      rw [this, Nat.succ_mul]
      exact Nat.le_add_right_of_le ih
set_option maxHeartbeats 800000 in
set_option maxRecDepth 100000 in
theorem concatR (b cap : Nat) (R : List RowR) (w : World) (hR : R.length ≤ 100) (hl : ∀ r ∈ R, r.l.length ≤ 1000) (hb : b < w.heap.size) (hc : ∀ j, (h : j < R.length) → w.cell? ⟨b, j, none⟩ = some (.slice R[j].A R[j].l.length R[j].c)) (hr : ∀ r ∈ R, RG w r.A r.l) :
    Calls Tryz.prog 102 #[.slice (some ⟨b, 0, none⟩) R.length cap] w (RPost (flatTo R R.length) w) := by
  obtain ⟨i0, hi, hz0, hz1, hz2⟩ := info_parts infoRole
  have HC := Lib.hid hc
  have HR := Lib.hid hr
  have HL := Lib.hid (flatTo_len hl)
  have Hl := Lib.hid hl
  clear hc hr hl
  go_enter Tryz.func102, Tryz.ntmps102
  go_wp2_with fail
  go_loop [3, 11] (fun s i => ∃ k : Nat, k ≤ R.length ∧ i = .int .i64 k ∧ s = .int .i64 ((flatTo R k).length : Nat)) (fun _ i => R.length - (intOf i).toNat)
  case atStart => exact ⟨0, by omega, rfl, by simp [flatTo]⟩
  case round =>
    obtain ⟨k, hk, rfl, rfl⟩ := hrel
    have b1 := HL.out k
    by_cases hlt : k < R.length
    · have hcell := HC.out k hlt
      have b2 := Hl.out R[k] (List.getElem_mem _)
      have hs := flatTo_succ hlt
      have Hs : Hid (((flatTo R k).length : Int) + (R[k].l.length : Int) = ((flatTo R (k + 1)).length : Nat)) := Lib.hid (by rw [hs, List.length_append]; omega)
      clear hs
      go_wp2_with fail
      go_round
      case rel => exact ⟨k + 1, by omega, by go_num, by rw [← Hs.out]⟩
      case measure => simp [intOf]; omega
    · have hkR : k = R.length := by omega
      subst hkR
      go_wp2_with fail
      refine (growR (flatTo R R.length).length w (by omega)).mono ?_
      rintro e w1 ⟨v1, rfl, hown1, hbel1⟩
      go_wp2_with fail
      go_loopw [6, 27] (fun v i wr => ∃ k : Nat, k ≤ R.length ∧ i = .int .i64 k ∧ Below w.heap.size w wr ∧ wr.ownsRow w.heap.size 44 2 v (flatTo R k).length (rcells (flatTo R k))) (fun _ i _ => R.length - (intOf i).toNat)
      case atStart => exact ⟨0, by omega, rfl, hbel1, by simpa [flatTo] using hown1⟩
      case round =>
        obtain ⟨k, hk, rfl, hbel, hown⟩ := hrel
        clear hown1 hbel1
        by_cases hlt : k < R.length
        · have d1 := (hbel.cell (p := ⟨b, k, none⟩) hb).trans (HC.out k hlt)
          have hrow := (HR.out R[k] (List.getElem_mem _)).below hbel
          have b2 := Hl.out R[k] (List.getElem_mem _)
          have b3 := HL.out k
          have H0 := Lib.hid (fun h : R[k].A = none => by rw [h] at hrow; exact rg_none_len hrow)
          have H1 := Lib.hid (rg_cells hrow)
          have Hs := Lib.hid (flatTo_succ hlt)
          clear hrow
          go_wp2_with (at_builtin; refine wpList_append_from _ rfl _ _ 23 rfl w.heap.size 44 i0 (.agg #[.string ⟨#[]⟩, .string ⟨#[]⟩]) 2 32 Tryz.underlying23 hi hz0 hz1 hz2 rfl (by decide) _ _ _ rfl hown R[k].A R[k].l.length R[k].c (rcells R[k].l) rfl (rcells_len _) H0.out H1.out (rcells_one _) (by unfold maxLen; omega) (by omega) hbel.size ?_)
          intro v2 w2 hown2 hgrow
          have hbel2 := hbel.grown hgrow hbel.size (fun k hk => (hown.lt k hk).1)
          have hown3 : w2.ownsRow w.heap.size 44 2 v2 (flatTo R (k + 1)).length (rcells (flatTo R (k + 1))) := by
            rw [Hs.out, List.length_append, rcells_app]; exact hown2
          clear hown hbel hgrow hown2
          go_wp2_with fail
          go_roundw
          case rel => exact ⟨k + 1, by omega, by go_num, hbel2, hown3⟩
          case measure => simp [intOf]; omega
        · have hkR : k = R.length := by omega
          subst hkR
          go_wp2_with fail
          go_ret
          exact ⟨_, rfl, hown, hbel⟩
end Go.Proofs.YtkmpbkgmdfeicaaGreat.PolF
