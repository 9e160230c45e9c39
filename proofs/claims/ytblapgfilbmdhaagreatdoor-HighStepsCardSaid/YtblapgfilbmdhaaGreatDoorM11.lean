/- A row of roles: those of a statement, and whether two rows are the very same. -/
import Derived.Test.YtblapgfilbmdhaaGreatDoorM10
import Derived.Test.YtblapgfilbmdhaaGreatDoorM08
import Derived.Test.YtblapgfilbmdhaaGreatDoorM04
import Derived.Test.YtblapgfilbmdhaaGreatDoorM06
import Derived.Test.YtblapgfilbmdhaaGreatDoorM02
import Derived.Sort.Statements
import Derived.Shelf.SlSortCmp.Insertion
import Derived.Lib.SlicesCompact
import Derived.Shelf.SlSortCmp.InsertionK
import Derived.Test.YtblapgfilbmdhaaGreatDoorM01
import Derived.ProofKit
import Derived.OpenShut
import Derived.ShutString
import Derived.ChangeOld
import Derived.Below
import Derived.Carry
import Derived.SliceStrings
import Derived.Deep.DeepHandedRow
import Derived.Test.YtblapgfilbmdhaaGreatDoorM05
import Derived.Shelf.SlSortCmp.WholeK
import Derived.Test.YtblapgfilbmdhaaGreatDoorShelf
set_option linter.unusedVariables false
set_option linter.unusedSimpArgs false
namespace Go.Proofs.YtblapgfilbmdhaaGreatDoor.SynJ
open Go.RowKit Go.Sort Go.Proofs Plain SynP Grown SynE Syn4
theorem infoRole : (Tryz.prog.info? 28).map (fun i => (i.zero, i.size, i.bytes)) = some (some (.agg #[.string ⟨#[]⟩, .string ⟨#[]⟩]), 2, 32) := by kernel_rfl
def rcells (l : List Rl) : List Value := (l.map fun r => [Value.string r.owner, Value.string r.name]).flatten
def RAt (w : World) (A : Option Addr) (l : List Rl) : Prop := 0 < l.length → ∃ g, A = some ⟨g, 0, none⟩ ∧ g < w.heap.size ∧ ∀ j, (h : j < l.length) → w.cell? ⟨g, j * 2, none⟩ = some (.string l[j].owner) ∧ w.cell? ⟨g, j * 2 + 1, none⟩ = some (.string l[j].name)
theorem RAt.below {w w' : World} {A : Option Addr} {l : List Rl} (h : RAt w A l) (hb : RowKit.Below w.heap.size w w') : RAt w' A l := fun hp => by
  obtain ⟨g, hA, hg, hc⟩ := h hp
  refine ⟨g, hA, Nat.lt_of_lt_of_le hg hb.size, fun j hj => ?_⟩
  obtain ⟨a, b⟩ := hc j hj
  exact ⟨(hb.cell (p := ⟨g, j * 2, none⟩) hg).trans a, (hb.cell (p := ⟨g, j * 2 + 1, none⟩) hg).trans b⟩
theorem rcells_at (L : List Rl) (j : Nat) (h : j < L.length) : (rcells L)[j * 2]? = some (.string L[j].owner) ∧ (rcells L)[j * 2 + 1]? = some (.string L[j].name) := by
  induction L generalizing j with
  | nil => simp at h
  | cons t L ih =>
    have e : rcells (t :: L) = [Value.string t.owner, Value.string t.name] ++ rcells L := by unfold rcells; simp
    rw [e]
    cases j with
    | zero => exact ⟨rfl, rfl⟩
    | succ j =>
      obtain ⟨a, b⟩ := ih j (by simpa using h)
      refine ⟨?_, ?_⟩ <;> rw [List.getElem?_append_right (by simp; omega)]
      · rw [show (j + 1) * 2 - [Value.string t.owner, Value.string t.name].length = j * 2 from by simp; omega]; exact a
      · rw [show (j + 1) * 2 + 1 - [Value.string t.owner, Value.string t.name].length = j * 2 + 1 from by simp; omega]; exact b
theorem rat_own {w : World} {B : Nat} {e : TypeId} {v : Value} {L : List Rl} (h : w.ownsRow B e 2 v L.length (rcells L)) : ∃ A cap, v = .slice A L.length cap ∧ RAt w A L := by
  rcases h.2 with ⟨rfl, h0⟩ | ⟨g, cap, cur, rfl, hB, hh, hc, hm, hs, ht⟩
  · exact ⟨none, 0, by rw [h0], fun hp => by omega⟩
  · refine ⟨_, _, rfl, fun hp => ⟨g, rfl, (h.lt g rfl).2, fun j hj => ?_⟩⟩
    obtain ⟨a, b⟩ := rcells_at L j hj
    rw [← ht] at a b
    rw [List.getElem?_take_of_lt (by omega)] at a b
    refine ⟨?_, ?_⟩ <;> rw [Lib.cell_of_heap hh]
    · rw [← Array.getElem?_toList]; exact a
    · rw [← Array.getElem?_toList]; exact b
theorem rat_new (w : World) (L : List Rl) (t : TypeId) : RAt (w.alloc (.cells (rcells L).toArray t)) (some ⟨w.heap.size, 0, none⟩) L := fun _ =>
  ⟨w.heap.size, rfl, by simp, fun j hj => by
    obtain ⟨a, b⟩ := rcells_at L j hj
    exact ⟨by rw [Lib.cell_of_heap (heap_alloc_new w _), List.getElem?_toArray]; exact a, by rw [Lib.cell_of_heap (heap_alloc_new w _), List.getElem?_toArray]; exact b⟩⟩
def rolesL (s : St) : List Rl := if s.kind = 2 ∨ s.kind = 3 then [s.head, s.a] else if s.kind = 4 then [s.head, s.a, s.b] else [s.head]
def RolesPost (s : St) (w : World) (e : Ending) (w' : World) : Prop := ∃ A, e = .returned (.slice A (rolesL s).length (rolesL s).length) ∧ RAt w' A (rolesL s) ∧ Grew w w'
set_option maxRecDepth 100000 in
theorem roles (s : St) (w : World) : Calls Tryz.prog 164 #[s.val] w (RolesPost s w) := by
  obtain ⟨k1, ⟨ho, hn⟩, wh, ⟨ao, an⟩, ⟨bo, bn⟩, v⟩ := s
  rcases kinds k1 with rfl | rfl | rfl | rfl | ⟨h1, h2, h3, h4⟩
  · have hn1 := rat_new (w.alloc (.cells #[.int .i64 1, .string ho, .string hn, .string wh, .string ao, .string an, .string bo, .string bn, .string v] 67)) [⟨ho, hn⟩] 28
    rw [World.size_alloc] at hn1
    have HN := Lib.hid hn1
    clear hn1
    have hr : Hid (rolesL ⟨1, ⟨ho, hn⟩, wh, ⟨ao, an⟩, ⟨bo, bn⟩, v⟩ = [⟨ho, hn⟩]) := Lib.hid rfl
    unfold St.val
    go_enter Tryz.func164, Tryz.ntmps164
    go_wp2
    go_ret
    exact ⟨_, by rw [hr.out]; rfl, by rw [hr.out]; exact HN.out, ((Grew.refl _).alloc _).alloc _⟩
  · have hn1 := rat_new (w.alloc (.cells #[.int .i64 2, .string ho, .string hn, .string wh, .string ao, .string an, .string bo, .string bn, .string v] 67)) [⟨ho, hn⟩, ⟨ao, an⟩] 28
    rw [World.size_alloc] at hn1
    have HN := Lib.hid hn1
    clear hn1
    have hr : Hid (rolesL ⟨2, ⟨ho, hn⟩, wh, ⟨ao, an⟩, ⟨bo, bn⟩, v⟩ = [⟨ho, hn⟩, ⟨ao, an⟩]) := Lib.hid rfl
    unfold St.val
    go_enter Tryz.func164, Tryz.ntmps164
    go_wp2
    go_ret
    exact ⟨_, by rw [hr.out]; rfl, by rw [hr.out]; exact HN.out, ((Grew.refl _).alloc _).alloc _⟩
  · have hn1 := rat_new (w.alloc (.cells #[.int .i64 3, .string ho, .string hn, .string wh, .string ao, .string an, .string bo, .string bn, .string v] 67)) [⟨ho, hn⟩, ⟨ao, an⟩] 28
    rw [World.size_alloc] at hn1
    have HN := Lib.hid hn1
    clear hn1
    have hr : Hid (rolesL ⟨3, ⟨ho, hn⟩, wh, ⟨ao, an⟩, ⟨bo, bn⟩, v⟩ = [⟨ho, hn⟩, ⟨ao, an⟩]) := Lib.hid rfl
    unfold St.val
    go_enter Tryz.func164, Tryz.ntmps164
    go_wp2
    go_ret
    exact ⟨_, by rw [hr.out]; rfl, by rw [hr.out]; exact HN.out, ((Grew.refl _).alloc _).alloc _⟩
  · have hn1 := rat_new (w.alloc (.cells #[.int .i64 4, .string ho, .string hn, .string wh, .string ao, .string an, .string bo, .string bn, .string v] 67)) [⟨ho, hn⟩, ⟨ao, an⟩, ⟨bo, bn⟩] 28
    rw [World.size_alloc] at hn1
    have HN := Lib.hid hn1
    clear hn1
    have hr : Hid (rolesL ⟨4, ⟨ho, hn⟩, wh, ⟨ao, an⟩, ⟨bo, bn⟩, v⟩ = [⟨ho, hn⟩, ⟨ao, an⟩, ⟨bo, bn⟩]) := Lib.hid rfl
    unfold St.val
    go_enter Tryz.func164, Tryz.ntmps164
    go_wp2
    go_ret
    exact ⟨_, by rw [hr.out]; rfl, by rw [hr.out]; exact HN.out, ((Grew.refl _).alloc _).alloc _⟩
  · have hn1 := rat_new (w.alloc (.cells #[.int .i64 k1, .string ho, .string hn, .string wh, .string ao, .string an, .string bo, .string bn, .string v] 67)) [⟨ho, hn⟩] 28
    rw [World.size_alloc] at hn1
    have HN := Lib.hid hn1
    clear hn1
    have e2 : (k1 == 2) = false := by simpa using h2
    have e3 : (k1 == 3) = false := by simpa using h3
    have e4 : (k1 == 4) = false := by simpa using h4
    have hr : Hid (rolesL ⟨k1, ⟨ho, hn⟩, wh, ⟨ao, an⟩, ⟨bo, bn⟩, v⟩ = [⟨ho, hn⟩]) := Lib.hid (by unfold rolesL; rw [if_neg (fun e => e.elim h2 h3), if_neg h4])
    clear h1 h2 h3 h4
    unfold St.val
    go_enter Tryz.func164, Tryz.ntmps164
    go_wp2
    go_ret
    exact ⟨_, by rw [hr.out]; rfl, by rw [hr.out]; exact HN.out, ((Grew.refl _).alloc _).alloc _⟩
end Go.Proofs.YtblapgfilbmdhaaGreatDoor.SynJ
namespace Go.Proofs.YtblapgfilbmdhaaGreatDoor.SynD2
open Go.RowKit Go.Sort Plain SynP SynC
def stCells (L : List St) : List Value := (L.map St.cells).flatten
theorem stCells_cons (t : St) (L : List St) : stCells (t :: L) = t.cells ++ stCells L := by unfold stCells; simp
theorem stCells_app (L K : List St) : stCells (L ++ K) = stCells L ++ stCells K := by unfold stCells; simp
theorem stCells_len (L : List St) : (stCells L).length = L.length * 9 := by
  induction L with
  | nil => rfl
  | cons t L ih => rw [stCells_cons, List.length_append, ih, List.length_cons, Nat.succ_mul]; show 9 + _ = _; omega
theorem stCells_one (L : List St) : ∀ u ∈ stCells L, u.oneCell' = true := by
  intro u hu
  unfold stCells at hu
  rw [List.mem_flatten] at hu
  obtain ⟨l, hl, hu⟩ := hu
  obtain ⟨t, _, rfl⟩ := List.mem_map.1 hl
  simp [St.cells] at hu
  rcases hu with rfl | rfl | rfl | rfl | rfl | rfl | rfl | rfl | rfl <;> rfl
theorem stCells_at (L : List St) (j k : Nat) (h : j < L.length) (hk : k < 9) : (stCells L)[j * 9 + k]? = L[j].cells[k]? := by
  induction L generalizing j with
  | nil => simp at h
  | cons t L ih =>
    have hl : t.cells.length = 9 := rfl
    rw [stCells_cons]
    cases j with
    | zero => rw [List.getElem?_append_left (by rw [hl]; omega)]; simp
    | succ j =>
      rw [List.getElem?_append_right (by rw [hl]; omega), hl, show (j + 1) * 9 + k - 9 = j * 9 + k from by omega]
      exact ih j (by simpa using h)
def StAt (w : World) (A : Option Addr) (L : List St) : Prop :=
  0 < L.length → ∃ g o, A = some ⟨g, o, none⟩ ∧ g < w.heap.size ∧ ∀ j u, (stCells L)[j]? = some u → w.cell? ⟨g, o + j, none⟩ = some u
theorem StAt.below {w w' : World} {A : Option Addr} {L : List St} (h : StAt w A L) (hb : Below w.heap.size w w') : StAt w' A L := fun hp => by
  obtain ⟨g, o, hA, hg, hc⟩ := h hp
  exact ⟨g, o, hA, Nat.lt_of_lt_of_le hg hb.size, fun j u hu => (hb.cell (p := ⟨g, o + j, none⟩) hg).trans (hc j u hu)⟩
theorem StAt.of_own {w : World} {B : Nat} {e : TypeId} {v : Value} {L : List St} (h : w.ownsRow B e 9 v L.length (stCells L)) : ∃ A cap, v = .slice A L.length cap ∧ L.length ≤ cap ∧ StAt w A L := by
  rcases h.2 with ⟨rfl, h0⟩ | ⟨g, cap, cur, rfl, hB, hh, hc, hm, hs, ht⟩
  · exact ⟨none, 0, by rw [h0], by omega, fun hp => by omega⟩
  · refine ⟨_, _, rfl, hc, fun hp => ⟨g, 0, rfl, ?_, fun j u hu => ?_⟩⟩
    · exact (h.lt g rfl).2
    · have hj : j < (stCells L).length := by
        rcases Nat.lt_or_ge j (stCells L).length with h | h
        · exact h
        · rw [List.getElem?_eq_none h] at hu; cases hu
      rw [stCells_len] at hj
      rw [← ht, List.getElem?_take_of_lt (by omega)] at hu
      rw [Nat.zero_add, Lib.cell_of_heap hh, ← Array.getElem?_toList]
      exact hu
theorem StAt.nine {w : World} {A : Option Addr} {L : List St} (h : StAt w A L) (j : Nat) (hj : j < L.length) : ∃ g o, A = some ⟨g, o, none⟩ ∧ g < w.heap.size ∧ ∀ k u, L[j].cells[k]? = some u → w.cell? ⟨g, o + (j * 9 + k), none⟩ = some u := by
  obtain ⟨g, o, hA, hg, hc⟩ := h (by omega)
  refine ⟨g, o, hA, hg, fun k u hu => ?_⟩
  have hk : k < 9 := by
    rcases Nat.lt_or_ge k 9 with h | h
    · exact h
    · rw [List.getElem?_eq_none (by show 9 ≤ k; exact h)] at hu; cases hu
  exact hc _ u ((stCells_at L j k hj hk).trans hu)
theorem infoSt : (Tryz.prog.info? 67).map (fun i => (i.zero, i.size, i.bytes)) = some (some zeroS.val, 9, 136) := by kernel_rfl
def ClonePost (L : List St) (w : World) (e : Ending) (w' : World) : Prop := ∃ v, e = .returned v ∧ w'.ownsRow w.heap.size 67 9 v L.length (stCells L) ∧ Below w.heap.size w w'
set_option maxRecDepth 100000 in
theorem cloneSt (A : Option Addr) (ca : Nat) (L : List St) (w : World) (hL : L.length ≤ 10000) (hA : StAt w A L) : Calls Tryz.prog 65 #[.slice A L.length ca] w (ClonePost L w) := by
  obtain ⟨i0, hi, hz0, hz1, hz2⟩ := info_parts infoSt
  cases A with
  | none =>
    have : L = [] := by
      rcases Nat.eq_zero_or_pos L.length with h | h
      · exact List.eq_nil_of_length_eq_zero h
      · obtain ⟨g, o, h, _⟩ := hA h; cases h
    subst this
    have es := fun (w : World) (a : Option Addr) (n c : Nat) => Lib.run_eql_slice_nil (P := Tryz.prog) w 22 67 a n c 0 0 Tryz.underlying22
    go_enter Tryz.func65, Tryz.ntmps65
    go_wp2_with fail
    go_ret
    exact ⟨_, rfl, World.ownsRow_nil _ _ _ _, Below.refl _ _⟩
  | some ad =>
    have hcells : ∀ ad', some ad = some ad' → ∀ j u, (stCells L)[j]? = some u → (w.alloc (.cells #[] 67)).cell? (ad'.add j) = some u := by
      rintro ad' ⟨⟩ j u hu
      have hj : 0 < L.length := by
        rcases Nat.eq_zero_or_pos L.length with h | h
        · have : L = [] := List.eq_nil_of_length_eq_zero h
          subst this; simp [stCells] at hu
        · exact h
      obtain ⟨g, o, h, hg, hc⟩ := hA hj
      injection h with h
      subst h
      rw [add_off, World.cell?_alloc_past _ _ _ hg]
      exact hc j u hu
    have Hc := Lib.hid hcells
    clear hcells hA
    have es := fun (w : World) (a : Option Addr) (n c : Nat) => Lib.run_eql_slice_nil (P := Tryz.prog) w 22 67 a n c 0 0 Tryz.underlying22
    go_enter Tryz.func65, Tryz.ntmps65
    go_wp2_with (at_builtin; refine wpList_append_from _ rfl _ _ 22 rfl w.heap.size 67 i0 zeroS.val 9 136 Tryz.underlying22 hi hz0 hz1 hz2 rfl (by decide) _ _ _ rfl (own_empty w _ 9) (some ad) L.length ca (stCells L) rfl (stCells_len L) (fun h => by cases h) Hc.out (stCells_one L) (by unfold maxLen; omega) (by omega) (by simp) ?_)
    intro v' w1 hown hgrow
    have hb : Below w.heap.size w w1 := ((Below.refl _ _).alloc (Nat.le_refl _) _).grown hgrow (by simp) (fun k hk => by simp [Value.ownBlock] at hk; omega)
    go_wp2_with fail
    go_ret
    exact ⟨_, rfl, by simpa using hown, hb⟩
end Go.Proofs.YtblapgfilbmdhaaGreatDoor.SynD2
namespace Go.Proofs.YtblapgfilbmdhaaGreatDoor.SynD3
open Go.RowKit Go.Sort Go.Proofs Plain SynP SynE SynD2
def StRow (w : World) (A : Option Addr) (L : List St) : Prop :=
  0 < L.length → ∃ g, A = some ⟨g, 0, none⟩ ∧ g < w.heap.size ∧ ∀ j, (h : j < L.length) → w.cell? ⟨g, j * 9, none⟩ = some (.int .i64 L[j].kind) ∧ w.cell? ⟨g, j * 9 + 1, none⟩ = some (.string L[j].head.owner) ∧ w.cell? ⟨g, j * 9 + 2, none⟩ = some (.string L[j].head.name) ∧ w.cell? ⟨g, j * 9 + 3, none⟩ = some (.string L[j].who) ∧ w.cell? ⟨g, j * 9 + 4, none⟩ = some (.string L[j].a.owner) ∧ w.cell? ⟨g, j * 9 + 5, none⟩ = some (.string L[j].a.name) ∧ w.cell? ⟨g, j * 9 + 6, none⟩ = some (.string L[j].b.owner) ∧ w.cell? ⟨g, j * 9 + 7, none⟩ = some (.string L[j].b.name) ∧ w.cell? ⟨g, j * 9 + 8, none⟩ = some (.string L[j].via)
theorem StRow.of_own {w : World} {B : Nat} {e : TypeId} {v : Value} {L : List St} (h : w.ownsRow B e 9 v L.length (stCells L)) : ∃ A cap, v = .slice A L.length cap ∧ L.length ≤ cap ∧ StRow w A L := by
  rcases h.2 with ⟨rfl, h0⟩ | ⟨g, cap, cur, rfl, hB, hh, hc, hm, hs, ht⟩
  · exact ⟨none, 0, by rw [h0], by omega, fun hp => by omega⟩
  · refine ⟨_, _, rfl, hc, fun hp => ⟨g, rfl, (h.lt g rfl).2, fun j hj => ?_⟩⟩
    have key : ∀ k u, k < 9 → L[j].cells[k]? = some u → w.cell? ⟨g, j * 9 + k, none⟩ = some u := fun k u hk hu => by
      have q := (stCells_at L j k hj hk).trans hu
      rw [← ht, List.getElem?_take_of_lt (by omega)] at q
      rw [Lib.cell_of_heap hh, ← Array.getElem?_toList]
      exact q
    exact ⟨key 0 _ (by omega) rfl, key 1 _ (by omega) rfl, key 2 _ (by omega) rfl, key 3 _ (by omega) rfl, key 4 _ (by omega) rfl, key 5 _ (by omega) rfl, key 6 _ (by omega) rfl, key 7 _ (by omega) rfl, key 8 _ (by omega) rfl⟩
theorem StRow.below {w w' : World} {A : Option Addr} {L : List St} (h : StRow w A L) (hb : Below w.heap.size w w') : StRow w' A L := fun hp => by
  obtain ⟨g, hA, hg, hc⟩ := h hp
  refine ⟨g, hA, Nat.lt_of_lt_of_le hg hb.size, fun j hj => ?_⟩
  obtain ⟨a0, a1, a2, a3, a4, a5, a6, a7, a8⟩ := hc j hj
  exact ⟨(hb.cell (p := ⟨g, j * 9, none⟩) hg).trans a0, (hb.cell (p := ⟨g, j * 9 + 1, none⟩) hg).trans a1, (hb.cell (p := ⟨g, j * 9 + 2, none⟩) hg).trans a2, (hb.cell (p := ⟨g, j * 9 + 3, none⟩) hg).trans a3, (hb.cell (p := ⟨g, j * 9 + 4, none⟩) hg).trans a4, (hb.cell (p := ⟨g, j * 9 + 5, none⟩) hg).trans a5, (hb.cell (p := ⟨g, j * 9 + 6, none⟩) hg).trans a6, (hb.cell (p := ⟨g, j * 9 + 7, none⟩) hg).trans a7, (hb.cell (p := ⟨g, j * 9 + 8, none⟩) hg).trans a8⟩
set_option maxHeartbeats 1000000 in
set_option maxRecDepth 100000 in
theorem has (A : Option Addr) (ca : Nat) (L : List St) (s : St) (w : World) (hL : L.length ≤ 1000) (hA : StRow w A L) :
    Calls Tryz.prog 82 #[.slice A L.length ca, s.val] w fun e w' => e = .returned (.bool (decide (s ∈ L))) ∧ RowKit.Below w.heap.size w w' := by
  obtain ⟨k1, ⟨ho, hn⟩, wh, ⟨ao, an⟩, ⟨bo, bn⟩, v⟩ := s
  have hown : ∀ (wr : World), Below (w.heap.size + 1) (w.alloc (.cells #[.int .i64 k1, .string ho, .string hn, .string wh, .string ao, .string an, .string bo, .string bn, .string v] 67)) wr → wr.cell? ⟨w.heap.size, 0, none⟩ = some (.int .i64 k1) ∧ wr.cell? ⟨w.heap.size, 1, none⟩ = some (.string ho) ∧ wr.cell? ⟨w.heap.size, 2, none⟩ = some (.string hn) ∧ wr.cell? ⟨w.heap.size, 3, none⟩ = some (.string wh) ∧ wr.cell? ⟨w.heap.size, 4, none⟩ = some (.string ao) ∧ wr.cell? ⟨w.heap.size, 5, none⟩ = some (.string an) ∧ wr.cell? ⟨w.heap.size, 6, none⟩ = some (.string bo) ∧ wr.cell? ⟨w.heap.size, 7, none⟩ = some (.string bn) ∧ wr.cell? ⟨w.heap.size, 8, none⟩ = some (.string v) := fun wr hb => by
    refine ⟨?_, ?_, ?_, ?_, ?_, ?_, ?_, ?_, ?_⟩ <;> rw [hb.cell (by simp)] <;> rw [Lib.cell_of_heap (heap_alloc_new w _)] <;> rfl
  have HO := Lib.hid hown
  clear hown
  have HA := Lib.hid hA
  clear hA
  unfold St.val
  go_enter Tryz.func82, Tryz.ntmps82
  go_wp2_with fail
  go_loopw [9] (fun i wr => ∃ k : Nat, k ≤ L.length ∧ i = .int .i64 k ∧ Hid ((⟨k1, ⟨ho, hn⟩, wh, ⟨ao, an⟩, ⟨bo, bn⟩, v⟩ : St) ∉ L.take k) ∧ Below (w.heap.size + 1) (w.alloc (.cells #[.int .i64 k1, .string ho, .string hn, .string wh, .string ao, .string an, .string bo, .string bn, .string v] 67)) wr) (fun i _ => L.length - (intOf i).toNat)
  case atStart => exact ⟨0, by omega, rfl, Lib.hid (by simp), Below.refl _ _⟩
  case round =>
    obtain ⟨k, hk, rfl, hrun, hbel⟩ := hrel
    have hb0 : Below w.heap.size w wr := ((Below.refl w.heap.size w).alloc (Nat.le_refl _) _).trans (hbel.mono (by omega))
    have hsz : w.heap.size + 1 ≤ wr.heap.size := by have := hbel.size; simpa using this
    by_cases hlt : k < L.length
    · obtain ⟨g1, rfl, hg1, h1⟩ := (HA.out.below hb0) (by omega)
      obtain ⟨a0, a1, a2, a3, a4, a5, a6, a7, a8⟩ := h1 k hlt
      obtain ⟨b0, b1, b2, b3, b4, b5, b6, b7, b8⟩ := HO.out _ (hbel.alloc hsz (.cells #[.int .i64 L[k].kind, .string L[k].head.owner, .string L[k].head.name, .string L[k].who, .string L[k].a.owner, .string L[k].a.name, .string L[k].b.owner, .string L[k].b.name, .string L[k].via] 67))
      have p1 : (0 : Int) ≤ k := by omega
      have p2 : (k : Int) < L.length := by omega
      clear h1
      by_cases he : L[k] = (⟨k1, ⟨ho, hn⟩, wh, ⟨ao, an⟩, ⟨bo, bn⟩, v⟩ : St)
      · have hfin : Hid (decide ((⟨k1, ⟨ho, hn⟩, wh, ⟨ao, an⟩, ⟨bo, bn⟩, v⟩ : St) ∈ L) = true) := Lib.hid (decide_eq_true (he ▸ List.getElem_mem hlt))
        have hq := fun w => eqS L[k].kind L[k].head.owner L[k].head.name L[k].who L[k].a.owner L[k].a.name L[k].b.owner L[k].b.name L[k].via k1 ho hn wh ao an bo bn v w
        rw [decide_eq_true (p := (⟨L[k].kind, ⟨L[k].head.owner, L[k].head.name⟩, L[k].who, ⟨L[k].a.owner, L[k].a.name⟩, ⟨L[k].b.owner, L[k].b.name⟩, L[k].via⟩ : St) = ⟨k1, ⟨ho, hn⟩, wh, ⟨ao, an⟩, ⟨bo, bn⟩, v⟩) he] at hq
        clear hrun he
        go_wp2_with fail
        go_ret
        exact ⟨ret_bool hfin.out.symm, hb0.alloc hb0.size _⟩
      · have hnext : Hid ((⟨k1, ⟨ho, hn⟩, wh, ⟨ao, an⟩, ⟨bo, bn⟩, v⟩ : St) ∉ L.take (k + 1)) := Lib.hid (by
          rw [List.take_succ_eq_append_getElem hlt, List.mem_append, List.mem_singleton]
          rintro (h | h)
          · exact hrun.out h
          · exact he h.symm)
        have hq := fun w => eqS L[k].kind L[k].head.owner L[k].head.name L[k].who L[k].a.owner L[k].a.name L[k].b.owner L[k].b.name L[k].via k1 ho hn wh ao an bo bn v w
        rw [decide_eq_false (p := (⟨L[k].kind, ⟨L[k].head.owner, L[k].head.name⟩, L[k].who, ⟨L[k].a.owner, L[k].a.name⟩, ⟨L[k].b.owner, L[k].b.name⟩, L[k].via⟩ : St) = ⟨k1, ⟨ho, hn⟩, wh, ⟨ao, an⟩, ⟨bo, bn⟩, v⟩) he] at hq
        clear hrun he
        go_wp2_with fail
        go_roundw
        case rel => exact ⟨k + 1, by omega, by go_num, hnext, hbel.alloc hsz _⟩
        case measure => simp [intOf]; omega
    · have hfin : Hid (decide ((⟨k1, ⟨ho, hn⟩, wh, ⟨ao, an⟩, ⟨bo, bn⟩, v⟩ : St) ∈ L) = false) := Lib.hid (decide_eq_false (by
        have := hrun.out
        rwa [List.take_of_length_le (by omega)] at this))
      clear hrun
      go_wp2_with fail
      go_ret
      exact ⟨ret_bool hfin.out.symm, hb0⟩
end Go.Proofs.YtblapgfilbmdhaaGreatDoor.SynD3
namespace Go.Proofs.YtblapgfilbmdhaaGreatDoor.SynD
open Go.Sort Go.Proofs SynP
variable {α β : Type}
structure Tri (c : α → α → Int) : Prop where
  same : ∀ x, c x x = 0
  anti : ∀ x y, c y x = - c x y
  thru : ∀ x y z, c x y < 0 → c y z < 0 → c x z < 0
  cong : ∀ x y z, c x y = 0 → c y z = c x z
theorem orL_nil' : orL [] = 0 := rfl
theorem orL_cons' (x : Int) (l : List Int) : orL (x :: l) = if x ≠ 0 then x else orL l := rfl
theorem tri_nil : Tri (fun (_ _ : α) => orL []) :=
  ⟨fun _ => rfl, fun _ _ => rfl, fun _ _ _ h => by rw [orL_nil'] at h; omega, fun _ _ _ _ => rfl⟩
theorem tri_cons {c : α → α → Int} {l : α → α → List Int} (H : Tri c) (K : Tri fun x y => orL (l x y)) : Tri fun x y => orL (c x y :: l x y) := by
  refine ⟨fun x => ?_, fun x y => ?_, fun x y z h1 h2 => ?_, fun x y z h => ?_⟩
  · have h1 := H.same x
    have h2 := K.same x
    rw [orL_cons', h1, h2]; rfl
  · have h1 := H.anti x y
    have h2 := K.anti x y
    simp only [orL_cons']
    rw [h1, h2]
    split <;> split <;> omega
  · simp only [orL_cons'] at *
    by_cases e1 : c x y = 0
    · rw [if_neg (fun h => h e1)] at h1
      rw [← H.cong x y z e1]
      by_cases e2 : c y z = 0
      · rw [if_neg (fun h => h e2)] at *
        exact K.thru x y z h1 h2
      · rw [if_pos e2] at *; exact h2
    · rw [if_pos e1] at h1
      by_cases e2 : c y z = 0
      · have a1 := H.anti y z
        have a2 := H.cong z y x (by omega)
        have a3 := H.anti x y
        have a4 := H.anti z x
        have a5 : c x z = c x y := by omega
        rw [a5, if_pos e1]; exact h1
      · rw [if_pos e2] at h2
        have a1 := H.thru x y z h1 h2
        rw [if_pos (by omega)]; exact a1
  · simp only [orL_cons'] at *
    by_cases e1 : c x y = 0
    · rw [if_neg (fun h => h e1)] at h
      have a2 := K.cong x y z h
      rw [H.cong x y z e1, a2]
    · rw [if_pos e1] at h; exact absurd h e1
theorem tri_by {c : β → β → Int} (f : α → β) (H : Tri c) : Tri fun x y => c (f x) (f y) :=
  ⟨fun _ => H.same _, fun _ _ => H.anti _ _, fun _ _ _ => H.thru _ _ _, fun _ _ _ => H.cong _ _ _⟩
theorem tri_B : Tri cmpB :=
  ⟨fun _ => cmpB_eq.2 rfl, cmpB_anti, fun _ _ _ h1 h2 => cmpB_lt.2 (strLt_trans (cmpB_lt.1 h1) (cmpB_lt.1 h2)), fun _ _ _ h => by rw [cmpB_eq.1 h]⟩
theorem tri_N : Tri cmpN := by
  refine ⟨fun x => ?_, fun x y => ?_, fun x y z h1 h2 => ?_, fun x y z h => ?_⟩ <;> unfold cmpN at *
  · split <;> (try split) <;> omega
  · (repeat' split) <;> omega
  · revert h1 h2; (repeat' split) <;> omega
  · revert h; (repeat' split) <;> omega
theorem tri_R : Tri cmpR := tri_cons (tri_by Rl.owner tri_B) (tri_cons (tri_by Rl.name tri_B) tri_nil)
theorem tri_S : Tri cmpS :=
  tri_cons (tri_by St.head tri_R) (tri_cons (tri_by St.kind tri_N) (tri_cons (tri_by St.who tri_B) (tri_cons (tri_by St.a tri_R) (tri_cons (tri_by St.b tri_R) (tri_cons (tri_by St.via tri_B) tri_nil)))))
theorem swo_of {c : α → α → Int} (H : Tri c) : SWO (ltOf c) := by
  refine ⟨fun x => ?_, fun x y z h1 h2 => ?_, fun x y z h1 h2 => ?_⟩
  · exact decide_eq_false (by rw [H.same]; omega)
  · exact decide_eq_true (H.thru x y z (of_decide_eq_true h1) (of_decide_eq_true h2))
  · have h1 := of_decide_eq_false h1
    have h2 := of_decide_eq_false h2
    refine decide_eq_false fun h => ?_
    have a1 := H.anti x y
    have a2 := H.anti y z
    have a3 := H.anti x z
    by_cases e1 : c x y = 0
    · have := H.cong x y z e1; omega
    · by_cases e2 : c y z = 0
      · have := H.cong z y x (by omega); omega
      · have := H.thru z y x (by omega) (by omega); omega
theorem swo_S : SWO (ltOf cmpS) := swo_of tri_S
def Strict (c : α → α → Int) (l : List α) : Prop := l.Pairwise fun x y => c x y < 0
theorem strict_one {c : α → α → Int} (H : Tri c) : ∀ {l l' : List α}, Strict c l → Strict c l' → (∀ x, x ∈ l ↔ x ∈ l') → l = l'
  | [], [], _, _, _ => rfl
  | [], y :: _, _, _, h => absurd ((h y).2 List.mem_cons_self) List.not_mem_nil
  | x :: _, [], _, _, h => absurd ((h x).1 List.mem_cons_self) List.not_mem_nil
  | x :: t, y :: t', h1, h2, h => by
    obtain ⟨a1, b1⟩ := List.pairwise_cons.1 h1
    obtain ⟨a2, b2⟩ := List.pairwise_cons.1 h2
    have irr : ∀ z, ¬ c z z < 0 := fun z => by rw [H.same]; omega
    have e : x = y := by
      rcases List.mem_cons.1 ((h x).1 List.mem_cons_self) with e | e
      · exact e
      · rcases List.mem_cons.1 ((h y).2 List.mem_cons_self) with e' | e'
        · exact e'.symm
        · exact absurd (H.thru _ _ _ (a2 x e) (a1 y e')) (irr y)
    subst e
    have e : t = t' := strict_one H b1 b2 fun z => by
      constructor
      · intro hz
        rcases List.mem_cons.1 ((h z).1 (List.mem_cons_of_mem _ hz)) with e | e
        · subst e; exact absurd (a1 _ hz) (irr _)
        · exact e
      · intro hz
        rcases List.mem_cons.1 ((h z).2 (List.mem_cons_of_mem _ hz)) with e | e
        · subst e; exact absurd (a2 _ hz) (irr _)
        · exact e
    rw [e]
def compL (c : α → α → Int) : List α → List α
  | [] => []
  | [x] => [x]
  | x :: y :: t => if c x y = 0 then compL c (y :: t) else x :: compL c (y :: t)
theorem compL_mem {c : α → α → Int} (E : ∀ x y, c x y = 0 → x = y) : ∀ (l : List α) (z : α), z ∈ compL c l ↔ z ∈ l
  | [], _ => Iff.rfl
  | [_], _ => Iff.rfl
  | x :: y :: t, z => by
    unfold compL
    have K := compL_mem E (y :: t) z
    split
    · rename_i h
      rw [K, E x y h]; simp
    · rw [List.mem_cons, K, List.mem_cons (a := z) (b := x)]
theorem compL_strict {c : α → α → Int} (H : Tri c) (E : ∀ x y, c x y = 0 → x = y) : ∀ (l : List α), (l.Pairwise fun x y => ¬ c y x < 0) → Strict c (compL c l)
  | [], _ => List.Pairwise.nil
  | [_], _ => List.pairwise_singleton _ _
  | x :: y :: t, h => by
    obtain ⟨a1, b1⟩ := List.pairwise_cons.1 h
    have K := compL_strict H E (y :: t) b1
    unfold compL
    split
    · exact K
    · rename_i hn
      refine List.pairwise_cons.2 ⟨fun z hz => ?_, K⟩
      have hz := (compL_mem E _ _).1 hz
      have q1 : c x y < 0 := by have := a1 y List.mem_cons_self; have := H.anti x y; omega
      rcases List.mem_cons.1 hz with e | e
      · rw [e]; exact q1
      · obtain ⟨a2, _⟩ := List.pairwise_cons.1 b1
        have q2 := a2 z e
        have q3 := H.anti y z
        by_cases e0 : c y z = 0
        · rw [← E y z e0]; exact q1
        · exact H.thru x y z q1 (by omega)
def insL (c : α → α → Int) (s : α) : List α → List α
  | [] => [s]
  | x :: t => if c x s < 0 then x :: insL c s t else s :: x :: t
theorem insL_mem {c : α → α → Int} (s : α) : ∀ (l : List α) (z : α), z ∈ insL c s l ↔ z = s ∨ z ∈ l
  | [], z => by simp [insL]
  | x :: t, z => by
    unfold insL
    split
    · rw [List.mem_cons, insL_mem s t z, List.mem_cons]
      constructor
      · rintro (h | h | h)
        · exact .inr (.inl h)
        · exact .inl h
        · exact .inr (.inr h)
      · rintro (h | h | h)
        · exact .inr (.inl h)
        · exact .inl h
        · exact .inr (.inr h)
    · rw [List.mem_cons]
theorem insL_strict {c : α → α → Int} (H : Tri c) (E : ∀ x y, c x y = 0 → x = y) (s : α) : ∀ (l : List α), s ∉ l → Strict c l → Strict c (insL c s l)
  | [], _, _ => List.pairwise_singleton _ _
  | x :: t, hs, h => by
    obtain ⟨a1, b1⟩ := List.pairwise_cons.1 h
    unfold insL
    split
    · rename_i hx
      refine List.pairwise_cons.2 ⟨fun z hz => ?_, insL_strict H E s t (fun e => hs (List.mem_cons_of_mem _ e)) b1⟩
      rcases (insL_mem s t z).1 hz with e | e
      · rw [e]; exact hx
      · exact a1 z e
    · rename_i hx
      have q := H.anti x s
      have q1 : c s x < 0 := by
        by_cases e0 : c x s = 0
        · exact absurd (by rw [E x s e0]; exact List.mem_cons_self) hs
        · omega
      refine List.pairwise_cons.2 ⟨fun z hz => ?_, h⟩
      rcases List.mem_cons.1 hz with e | e
      · rw [e]; exact q1
      · exact H.thru _ _ _ q1 (a1 z e)
def sortL (c : α → α → Int) [DecidableEq α] : List α → List α → List α
  | acc, [] => acc
  | acc, s :: t => sortL c (if s ∈ acc then acc else insL c s acc) t
theorem sortL_mem {c : α → α → Int} [DecidableEq α] : ∀ (l acc : List α) (z : α), z ∈ sortL c acc l ↔ z ∈ acc ∨ z ∈ l
  | [], acc, z => by simp [sortL]
  | s :: t, acc, z => by
    unfold sortL
    rw [sortL_mem t]
    split
    · rename_i h
      rw [List.mem_cons]
      constructor
      · rintro (h' | h')
        · exact .inl h'
        · exact .inr (.inr h')
      · rintro (h' | h' | h')
        · exact .inl h'
        · rw [h']; exact .inl h
        · exact .inr h'
    · rw [insL_mem, List.mem_cons, or_comm (a := z = s), or_assoc]
theorem sortL_strict {c : α → α → Int} [DecidableEq α] (H : Tri c) (E : ∀ x y, c x y = 0 → x = y) : ∀ (l acc : List α), Strict c acc → Strict c (sortL c acc l)
  | [], _, h => h
  | s :: t, acc, h => by
    unfold sortL
    refine sortL_strict H E t _ ?_
    split
    · exact h
    · rename_i hs
      exact insL_strict H E s acc hs h
theorem sorts_one {c : α → α → Int} [DecidableEq α] (H : Tri c) (E : ∀ x y, c x y = 0 → x = y) {l d : List α} (hp : d.Perm l) (hs : d.Pairwise fun x y => ¬ c y x < 0) : compL c d = sortL c [] l :=
  strict_one H (compL_strict H E d hs) (sortL_strict H E l [] List.Pairwise.nil) fun x => by
    rw [compL_mem E, sortL_mem, hp.mem_iff]; simp
theorem orL_zero : ∀ {l : List Int}, orL l = 0 → ∀ x ∈ l, x = 0
  | [], _, _, h => absurd h List.not_mem_nil
  | a :: l, h, x, hx => by
    rw [orL_cons'] at h
    by_cases e : a = 0
    · rw [if_neg (fun h => h e)] at h
      rcases List.mem_cons.1 hx with e' | e'
      · rw [e', e]
      · exact orL_zero h x e'
    · rw [if_pos e] at h; exact absurd h e
theorem eqR {r s : Rl} (h : cmpR r s = 0) : r = s := by
  obtain ⟨o1, n1⟩ := r
  obtain ⟨o2, n2⟩ := s
  have q := orL_zero (l := [cmpB o1 o2, cmpB n1 n2]) h
  rw [cmpB_eq.1 (q (cmpB o1 o2) (by simp)), cmpB_eq.1 (q (cmpB n1 n2) (by simp))]
theorem eqN {a b : Int} (h : cmpN a b = 0) : a = b := by
  revert h; unfold cmpN; (repeat' split) <;> omega
theorem eqSt (s t : St) (h : cmpS s t = 0) : s = t := by
  obtain ⟨k1, h1, w1, a1, b1, v1⟩ := s
  obtain ⟨k2, h2, w2, a2, b2, v2⟩ := t
  have q := orL_zero (l := [cmpR h1 h2, cmpN k1 k2, cmpB w1 w2, cmpR a1 a2, cmpR b1 b2, cmpB v1 v2]) h
  rw [eqR (q (cmpR h1 h2) (by simp)), eqN (q (cmpN k1 k2) (by simp)), cmpB_eq.1 (q (cmpB w1 w2) (by simp)), eqR (q (cmpR a1 a2) (by simp)), eqR (q (cmpR b1 b2) (by simp)), cmpB_eq.1 (q (cmpB v1 v2) (by simp))]
instance : Inhabited St := ⟨zeroS⟩
theorem sorted_one {d d' : Array St} (hp : PermIn 0 d.size d d') (hs : SortedIn (ltOf cmpS) 0 d.size d') : compL cmpS d'.toList = sortL cmpS [] d.toList := by
  obtain ⟨hz, _, hp⟩ := hp
  refine sorts_one tri_S eqSt ?_ ?_
  · rwa [show d'.extract 0 d.size = d' by rw [← hz]; simp, show d.extract 0 d.size = d by simp] at hp
  · rw [List.pairwise_iff_getElem]
    intro i j hi hj hij
    rw [Array.length_toList] at hi hj
    have q := of_decide_eq_false (hs i j (Nat.zero_le _) hij (by omega))
    rwa [getElem!_pos d' i hi, getElem!_pos d' j hj] at q
end Go.Proofs.YtblapgfilbmdhaaGreatDoor.SynD
namespace Go.Proofs.YtblapgfilbmdhaaGreatDoor.SynD7
open Go.RowKit Go.Sort Go.Lib Go.Proofs Plain SynP SynD SynD2 SynD3
variable {α : Type} [Inhabited α]
theorem setMany_one (enc : α → List Value) (k : Nat) (hk : ∀ x, (enc x).length = k) (k0 : 0 < k) (d : Array α) (i : Nat) (hi : i < d.size) (x : α) :
    setMany (flatK enc k d) (i * k) (enc x) = flatK enc k (d.setIfInBounds i x) := by
  refine ext_get! (by simp) fun t ht => ?_
  have ht' : t < d.size * k := by simpa using ht
  rw [get_setMany _ _ _ t (by simpa using ht'), get_flatK _ _ _ t ht', get_flatK _ _ _ t (by simpa using ht'), hk]
  by_cases a : t / k = i
  · have e : t - i * k = t % k := by subst a; rw [Nat.mod_eq_sub_div_mul]
    rw [if_pos ((blk_iff k i t k0).2 a), e, a, getElem!_set_same _ _ _ hi]
  · rw [if_neg (fun h => a ((blk_iff k i t k0).1 h)), getElem!_set_other _ _ _ _ a]
theorem holdsK_store {enc : α → List Value} {k : Nat} (hk : ∀ x, (enc x).length = k) (k0 : 0 < k) {W : World} {blk off : Nat} {d : Array α} (h : HoldsK enc k W blk off d) (i : Nat) (hi : i < d.size) (x : α) :
    HoldsK enc k (W.setCells blk (off + i * k) (enc x)) blk off (d.setIfInBounds i x) := by
  have b : i * k + k ≤ d.size * k := by
    have := Nat.mul_le_mul_right k (show i + 1 ≤ d.size from hi); rwa [Nat.add_mul, Nat.one_mul] at this
  have := holds_setCells_c h (i * k) (enc x) (by rw [hk, size_flatK]; exact b)
  rw [setMany_one enc k hk k0 d i hi x] at this
  exact this
theorem compL_snoc {β : Type} {c : β → β → Int} (E : ∀ x y, c x y = 0 → x = y) (x : β) : ∀ (l : List β) (y : β), l.getLast? = some y → compL c (l ++ [x]) = if c y x = 0 then compL c l else compL c l ++ [x]
  | [], y, h => by simp at h
  | [a], y, h => by
    have : a = y := by simpa using h
    subst this
    show compL c [a, x] = _
    unfold compL
    split
    · rename_i h0; rw [← E _ _ h0]; rfl
    · rfl
  | a :: b :: t, y, h => by
    have h' : (b :: t).getLast? = some y := by simpa using h
    have ih := compL_snoc E x (b :: t) y h'
    have e1 : compL c (a :: b :: t ++ [x]) = if c a b = 0 then compL c (b :: t ++ [x]) else a :: compL c (b :: t ++ [x]) := by
      show compL c (a :: b :: (t ++ [x])) = _
      rw [compL]; rfl
    have e2 : compL c (a :: b :: t) = if c a b = 0 then compL c (b :: t) else a :: compL c (b :: t) := by rw [compL]
    rw [e1, e2, ih]
    split <;> split <;> simp
theorem comp_up {c : α → α → Int} [DecidableEq α] (E : ∀ x y, c x y = 0 ↔ x = y) (d : Array α) : ∀ m, m ≤ d.size → compL c (d.toList.take m) = compactUpTo d m
  | 0, _ => by simp [compL, compactUpTo]
  | m + 1, hm => by
    have hlt : m < d.toList.length := by rw [Array.length_toList]; omega
    rw [List.take_succ_eq_append_getElem hlt, compactUpTo_succ, ← comp_up E d m (by omega)]
    have em : d.toList[m] = d[m]! := by rw [getElem!_pos d m (by simpa using hlt)]; simp
    rw [em]
    by_cases h0 : m = 0
    · subst h0
      have : keeps d 0 = true := by simp [keeps]
      rw [this]; rfl
    · have hl : (d.toList.take m).getLast? = some d[m - 1]! := by
        rw [List.getLast?_eq_getElem?, List.length_take, Nat.min_eq_left (by omega), List.getElem?_take_of_lt (by omega), List.getElem?_eq_getElem (by omega), getElem!_pos d (m - 1) (by simp at hlt; omega)]
        simp
      rw [compL_snoc (fun x y h => (E x y).1 h) _ _ _ hl]
      by_cases he : d[m]! = d[m - 1]!
      · rw [if_pos ((E _ _).2 he.symm), keeps_neg (by omega) he]; simp
      · rw [if_neg (fun h => he ((E _ _).1 h).symm), keeps_pos he]; rfl
theorem comp_all {c : α → α → Int} [DecidableEq α] (E : ∀ x y, c x y = 0 ↔ x = y) (d : Array α) : compL c d.toList = compactUpTo d d.size := by
  have := comp_up E d d.size (Nat.le_refl _)
  rwa [List.take_of_length_le (by simp)] at this
theorem cmpS_eq (x y : St) : cmpS x y = 0 ↔ x = y := ⟨eqSt x y, fun h => by rw [h]; exact tri_S.same y⟩
theorem sorted_up {d d' : Array St} (hp : PermIn 0 d.size d d') (hs : SortedIn (ltOf cmpS) 0 d.size d') : compactUpTo d' d'.size = sortL cmpS [] d.toList := by
  rw [← comp_all cmpS_eq]; exact sorted_one hp hs
theorem len9 (x : St) : x.cells.length = 9 := rfl
theorem StRow.of_holds {w : World} {blk : Nat} {d : Array St} (h : HoldsK St.cells 9 w blk 0 d) (R : List St) (hR : R.length ≤ d.size) (he : ∀ j, (hj : j < R.length) → R[j] = d[j]!) : StRow w (some ⟨blk, 0, none⟩) R := fun hp => by
  refine ⟨blk, rfl, ?_, fun j hj => ?_⟩
  · have := (HoldsK.cell h (i := 0) (c := 0) (by omega) (by omega)).1
    unfold World.cell? at this
    rcases Nat.lt_or_ge blk w.heap.size with hb | hb
    · exact hb
    · simp [Array.getElem?_eq_none hb] at this
  · have key : ∀ c u, c < 9 → R[j].cells[c]? = some u → w.cell? ⟨blk, j * 9 + c, none⟩ = some u := fun c u hc hu => by
      have q := (HoldsK.cell h (i := j) (c := c) (by omega) hc).1
      rw [← he j hj, Nat.zero_add] at q
      rw [q, getElem!_pos _ _ (by rw [len9]; exact hc), ← List.getElem?_eq_getElem, hu]
    exact ⟨key 0 _ (by omega) rfl, key 1 _ (by omega) rfl, key 2 _ (by omega) rfl, key 3 _ (by omega) rfl, key 4 _ (by omega) rfl, key 5 _ (by omega) rfl, key 6 _ (by omega) rfl, key 7 _ (by omega) rfl, key 8 _ (by omega) rfl⟩
theorem holds_own {w : World} {B : Nat} {e : TypeId} {v : Value} {L : List St} (h : w.ownsRow B e 9 v L.length (stCells L)) : (L = [] ∧ v = .slice none 0 0) ∨ ∃ g cap, v = .slice (some ⟨g, 0, none⟩) L.length cap ∧ L.length ≤ cap ∧ B ≤ g ∧ g < w.heap.size ∧ HoldsK St.cells 9 w g 0 L.toArray := by
  rcases h.2 with ⟨rfl, h0⟩ | ⟨g, cap, cur, rfl, hB, hh, hc, hm, hs, ht⟩
  · exact .inl ⟨List.eq_nil_of_length_eq_zero h0, rfl⟩
  · refine .inr ⟨g, cap, rfl, hc, hB, (h.lt g rfl).2, fun t ht' => ?_⟩
    rw [size_flatK] at ht'
    have ht2 : t < L.length * 9 := by simpa using ht'
    have q : (stCells L)[t]? = some ((flatK St.cells 9 L.toArray)[t]!) := by
      rw [get_flatK _ _ _ _ ht']
      have hj : t / 9 < L.length := by omega
      have := stCells_at L (t / 9) (t % 9) hj (by omega)
      rw [show t / 9 * 9 + t % 9 = t by omega] at this
      rw [this, getElem!_pos L.toArray (t / 9) (by simpa using hj), List.getElem_toArray, getElem!_pos _ (t % 9) (by rw [len9]; omega), ← List.getElem?_eq_getElem]
    refine ⟨?_, ?_⟩
    · rw [← ht, List.getElem?_take_of_lt (by omega)] at q
      rw [Nat.zero_add, Lib.cell_of_heap hh, ← Array.getElem?_toList]
      exact q
    · simp [World.frozen?, hh]
theorem inv_low {d dk : Array St} {m k : Nat} (h : CompInv d m k dk) (hm : (compactUpTo d m) = compactUpTo d d.size) (hk : k ≤ d.size) : ∀ j, (hj : j < (compactUpTo d d.size).length) → (compactUpTo d d.size)[j] = dk[j]! := fun j hj => by
  have q := h.low j (by rw [← h.len, hm]; exact hj)
  rw [hm, List.getElem?_eq_getElem hj] at q
  exact Option.some.inj q
end Go.Proofs.YtblapgfilbmdhaaGreatDoor.SynD7
namespace Go.Proofs.YtblapgfilbmdhaaGreatDoor.PolA
open Go.RowKit Go.Sort Go.Lib Go.Proofs Plain SynP Grown SynE SynC SynD SynD7 Syn2 SynJ
instance : Inhabited Rl := ⟨zeroR⟩
def Rl.cells (r : Rl) : List Value := [.string r.owner, .string r.name]
theorem len2 (r : Rl) : (Rl.cells r).length = 2 := rfl
theorem rcells_cons (t : Rl) (L : List Rl) : rcells (t :: L) = Rl.cells t ++ rcells L := by unfold rcells; simp [Rl.cells]
theorem rcells_app (L K : List Rl) : rcells (L ++ K) = rcells L ++ rcells K := by unfold rcells; simp
theorem rcells_len (L : List Rl) : (rcells L).length = L.length * 2 := by
  induction L with
  | nil => rfl
  | cons t L ih => rw [rcells_cons, List.length_append, ih, List.length_cons, Nat.succ_mul]; show 2 + _ = _; omega
theorem rcells_one (L : List Rl) : ∀ u ∈ rcells L, u.oneCell' = true := by
  intro u hu
  unfold rcells at hu
  rw [List.mem_flatten] at hu
  obtain ⟨l, hl, hu⟩ := hu
  obtain ⟨t, _, rfl⟩ := List.mem_map.1 hl
  simp at hu
  rcases hu with rfl | rfl <;> rfl
theorem rcells_get (L : List Rl) (j k : Nat) (h : j < L.length) (hk : k < 2) : (rcells L)[j * 2 + k]? = (Rl.cells L[j])[k]? := by
  obtain ⟨a, b⟩ := rcells_at L j h
  match k, hk with
  | 0, _ => exact a
  | 1, _ => exact b
def RG (w : World) (A : Option Addr) (L : List Rl) : Prop :=
  0 < L.length → ∃ g o, A = some ⟨g, o, none⟩ ∧ g < w.heap.size ∧ ∀ j, (h : j < L.length) → w.cell? ⟨g, o + j * 2, none⟩ = some (.string L[j].owner) ∧ w.cell? ⟨g, o + j * 2 + 1, none⟩ = some (.string L[j].name)
theorem RG.below {w w' : World} {A : Option Addr} {L : List Rl} (h : RG w A L) (hb : RowKit.Below w.heap.size w w') : RG w' A L := fun hp => by
  obtain ⟨g, o, hA, hg, hc⟩ := h hp
  refine ⟨g, o, hA, Nat.lt_of_lt_of_le hg hb.size, fun j hj => ?_⟩
  obtain ⟨a, b⟩ := hc j hj
  exact ⟨(hb.cell (p := ⟨g, o + j * 2, none⟩) hg).trans a, (hb.cell (p := ⟨g, o + j * 2 + 1, none⟩) hg).trans b⟩
theorem RG.of_rat {w : World} {A : Option Addr} {L : List Rl} (h : RAt w A L) : RG w A L := fun hp => by
  obtain ⟨g, hA, hg, hc⟩ := h hp
  exact ⟨g, 0, hA, hg, fun j hj => by simpa only [Nat.zero_add] using hc j hj⟩
theorem rg_none {w : World} {l : List Rl} (h : RG w none l) : l = [] := by
  cases l with
  | nil => rfl
  | cons t l => obtain ⟨g, o, e, _⟩ := h (by simp); cases e
theorem rg_cells {w : World} {A : Option Addr} {L : List Rl} (h : RG w A L) : ∀ ad, A = some ad → ∀ j u, (rcells L)[j]? = some u → w.cell? (ad.add j) = some u := by
  rintro ad rfl j u hu
  have hj : j < L.length * 2 := by
    rw [← rcells_len]
    rcases Nat.lt_or_ge j (rcells L).length with h | h
    · exact h
    · rw [List.getElem?_eq_none h] at hu; cases hu
  obtain ⟨g, o, e, hg, hc⟩ := h (by omega)
  injection e with e
  subst e
  obtain ⟨a, b⟩ := hc (j / 2) (by omega)
  obtain ⟨p, q⟩ := rcells_at L (j / 2) (by omega)
  rw [add_off]
  rcases (by omega : j = j / 2 * 2 ∨ j = j / 2 * 2 + 1) with e | e
  · rw [← e] at a p; rw [a, ← p, hu]
  · rw [Nat.add_assoc, ← e] at b; rw [← e] at q; rw [b, ← q, hu]
theorem rholds_own {w : World} {B : Nat} {e : TypeId} {v : Value} {L : List Rl} (h : w.ownsRow B e 2 v L.length (rcells L)) : (L = [] ∧ v = .slice none 0 0) ∨ ∃ g cap, v = .slice (some ⟨g, 0, none⟩) L.length cap ∧ L.length ≤ cap ∧ B ≤ g ∧ g < w.heap.size ∧ HoldsK Rl.cells 2 w g 0 L.toArray := by
  rcases h.2 with ⟨rfl, h0⟩ | ⟨g, cap, cur, rfl, hB, hh, hc, hm, hs, ht⟩
  · exact .inl ⟨List.eq_nil_of_length_eq_zero h0, rfl⟩
  · refine .inr ⟨g, cap, rfl, hc, hB, (h.lt g rfl).2, fun t ht' => ?_⟩
    rw [size_flatK] at ht'
    have ht2 : t < L.length * 2 := by simpa using ht'
    have q : (rcells L)[t]? = some ((flatK Rl.cells 2 L.toArray)[t]!) := by
      rw [get_flatK _ _ _ _ ht']
      have hj : t / 2 < L.length := by omega
      have := rcells_get L (t / 2) (t % 2) hj (by omega)
      rw [show t / 2 * 2 + t % 2 = t by omega] at this
      rw [this, getElem!_pos L.toArray (t / 2) (by simpa using hj), List.getElem_toArray, getElem!_pos _ (t % 2) (by rw [len2]; omega), ← List.getElem?_eq_getElem]
    refine ⟨?_, ?_⟩
    · rw [← ht, List.getElem?_take_of_lt (by omega)] at q
      rw [Nat.zero_add, Lib.cell_of_heap hh, ← Array.getElem?_toList]
      exact q
    · simp [World.frozen?, hh]
theorem RAt.of_holds {w : World} {blk : Nat} {d : Array Rl} (h : HoldsK Rl.cells 2 w blk 0 d) (R : List Rl) (hR : R.length ≤ d.size) (he : ∀ j, (hj : j < R.length) → R[j] = d[j]!) : RAt w (some ⟨blk, 0, none⟩) R := fun hp => by
  refine ⟨blk, rfl, ?_, fun j hj => ?_⟩
  · have := (HoldsK.cell h (i := 0) (c := 0) (by omega) (by omega)).1
    unfold World.cell? at this
    rcases Nat.lt_or_ge blk w.heap.size with hb | hb
    · exact hb
    · simp [Array.getElem?_eq_none hb] at this
  · have key : ∀ c u, c < 2 → (Rl.cells R[j])[c]? = some u → w.cell? ⟨blk, j * 2 + c, none⟩ = some u := fun c u hc hu => by
      have q := (HoldsK.cell h (i := j) (c := c) (by omega) hc).1
      rw [← he j hj, Nat.zero_add] at q
      rw [q, getElem!_pos _ _ (by rw [len2]; exact hc), ← List.getElem?_eq_getElem, hu]
    exact ⟨key 0 _ (by omega) rfl, key 1 _ (by omega) rfl⟩
end Go.Proofs.YtblapgfilbmdhaaGreatDoor.PolA
namespace Go.Proofs.YtblapgfilbmdhaaGreatDoor.QryP
open Go.RowKit Go.Sort Plain SynP TabP
structure Qy where
  kind : Int
  a : Rl
  b : Rl
  who : List Str
def Qy.val (q : Qy) (A : Option Addr) (c : Nat) : Value := .agg #[.int .i64 q.kind, .string q.a.owner, .string q.a.name, .string q.b.owner, .string q.b.name, .slice A q.who.length c]
def prinS (s : Str) : Bool := named capB s
def whoOk (T : List Str) : Bool := decide (T.length ≤ 12) && T.all prinS && decide (T = tab T)
def Qy.right (q : Qy) : Bool := q.a.ok && (if q.kind = 1 ∨ q.kind = 2 then decide (0 < q.who.length) && whoOk q.who && decide (q.b = zeroR) else if q.kind = 3 then whoOk q.who && decide (q.b = zeroR) else if q.kind = 4 then decide (q.who.length = 0) && decide (q.b = zeroR) else if q.kind = 5 ∨ q.kind = 6 then decide (q.who.length = 0) && q.b.ok else false)
def Qy.fit (q : Qy) : Prop := q.a.light ∧ q.b.light ∧ q.who.length ≤ maxLen ∧ ∀ s ∈ q.who, s.length ≤ maxLen
def risesTo (T : List Str) (k : Nat) : Prop := ∀ j, j < k → (h : j < T.length) → prinS T[j] = true ∧ (0 < j → T[j - 1] < T[j])
theorem rising_of {T : List Str} (h : risesTo T T.length) : T.Pairwise (· < ·) := by
  have key : ∀ (d i : Nat), (hj : i + d + 1 < T.length) → T[i] < T[i + d + 1] := by
    intro d
    induction d with
    | zero => intro i hj; exact (h (i + 1) (by omega) hj).2 (by omega)
    | succ d ih => intro i hj; exact List.lt_trans (ih i (by omega)) ((h (i + d + 1 + 1) (by omega) hj).2 (by omega))
  rw [List.pairwise_iff_getElem]
  intro i j hi hj hij
  obtain ⟨d, rfl⟩ : ∃ d, j = i + d + 1 := ⟨j - i - 1, by omega⟩
  exact key d i hj
theorem tab_id {T : List Str} : T = tab T ↔ T.Pairwise (· < ·) :=
  ⟨fun h => by rw [h]; exact tab_sorted T, fun h => eq_of_rising h (tab_sorted T) fun x => (mem_tab T x).symm⟩
theorem who_of {T : List Str} (h : risesTo T T.length) : (T.all prinS && decide (T = tab T)) = true := by
  rw [decide_eq_true (tab_id.2 (rising_of h)), Bool.and_true, List.all_eq_true]
  intro x hx
  obtain ⟨k, hk, rfl⟩ := List.getElem_of_mem hx
  exact (h k hk hk).1
theorem who_bad {T : List Str} {k : Nat} (hk : k < T.length) (h : prinS T[k] = false) : (T.all prinS && decide (T = tab T)) = false := by
  have : T.all prinS = false := List.all_eq_false.2 ⟨T[k], List.getElem_mem _, by simp [h]⟩
  rw [this]; rfl
theorem who_down {T : List Str} {k : Nat} (hk : k < T.length) (h0 : 0 < k) (h : ¬ T[k - 1] < T[k]) : (T.all prinS && decide (T = tab T)) = false := by
  have : ¬ T = tab T := fun e => h ((List.pairwise_iff_getElem.1 (tab_id.1 e)) (k - 1) k (by omega) hk (by omega))
  rw [decide_eq_false this, Bool.and_false]
theorem kinds6 (k : Int) : k = 1 ∨ k = 2 ∨ k = 3 ∨ k = 4 ∨ k = 5 ∨ k = 6 ∨ (k < 1 ∨ 6 < k) := by omega
def hasBk (k : Int) : Bool := decide (k = 5 ∨ k = 6)
end Go.Proofs.YtblapgfilbmdhaaGreatDoor.QryP
namespace Go.Proofs.YtblapgfilbmdhaaGreatDoor.PolE
open Go.RowKit Go.Sort Go.Lib Go.Proofs Plain SynP TabP Tab1 SynC SynD2 SynD3 SynJ QryP PolA
structure Py where
  stmts : List St
  grow : List Rl
  shrink : List Rl
  asks : List Qy
def SG (w : World) (A : Option Addr) (L : List St) : Prop :=
  0 < L.length → ∃ g o, A = some ⟨g, o, none⟩ ∧ g < w.heap.size ∧ ∀ j, (h : j < L.length) → w.cell? ⟨g, o + j * 9, none⟩ = some (.int .i64 L[j].kind) ∧ w.cell? ⟨g, o + j * 9 + 1, none⟩ = some (.string L[j].head.owner) ∧ w.cell? ⟨g, o + j * 9 + 2, none⟩ = some (.string L[j].head.name) ∧ w.cell? ⟨g, o + j * 9 + 3, none⟩ = some (.string L[j].who) ∧ w.cell? ⟨g, o + j * 9 + 4, none⟩ = some (.string L[j].a.owner) ∧ w.cell? ⟨g, o + j * 9 + 5, none⟩ = some (.string L[j].a.name) ∧ w.cell? ⟨g, o + j * 9 + 6, none⟩ = some (.string L[j].b.owner) ∧ w.cell? ⟨g, o + j * 9 + 7, none⟩ = some (.string L[j].b.name) ∧ w.cell? ⟨g, o + j * 9 + 8, none⟩ = some (.string L[j].via)
theorem SG.below {w w' : World} {A : Option Addr} {L : List St} (h : SG w A L) (hb : Below w.heap.size w w') : SG w' A L := fun hp => by
  obtain ⟨g, o, hA, hg, hc⟩ := h hp
  refine ⟨g, o, hA, Nat.lt_of_lt_of_le hg hb.size, fun j hj => ?_⟩
  obtain ⟨a0, a1, a2, a3, a4, a5, a6, a7, a8⟩ := hc j hj
  have k : ∀ {i : Nat} {u : Value}, w.cell? ⟨g, i, none⟩ = some u → w'.cell? ⟨g, i, none⟩ = some u := fun {i u} e => (hb.cell (p := ⟨g, i, none⟩) hg).trans e
  exact ⟨k a0, k a1, k a2, k a3, k a4, k a5, k a6, k a7, k a8⟩
theorem SG.of_row {w : World} {A : Option Addr} {L : List St} (h : StRow w A L) : SG w A L := fun hp => by
  obtain ⟨g, hA, hg, hc⟩ := h hp
  exact ⟨g, 0, hA, hg, fun j hj => by simpa only [Nat.zero_add] using hc j hj⟩
theorem SG.at_ {w : World} {A : Option Addr} {L : List St} (h : SG w A L) : StAt w A L := fun hp => by
  obtain ⟨g, o, hA, hg, hc⟩ := h hp
  refine ⟨g, o, hA, hg, fun j u hu => ?_⟩
  have hj : j < L.length * 9 := by
    rw [← stCells_len]
    rcases Nat.lt_or_ge j (stCells L).length with h | h
    · exact h
    · rw [List.getElem?_eq_none h] at hu; cases hu
  obtain ⟨a0, a1, a2, a3, a4, a5, a6, a7, a8⟩ := hc (j / 9) (by omega)
  have e := stCells_at L (j / 9) (j % 9) (by omega) (by omega)
  rw [show j / 9 * 9 + j % 9 = j by omega, hu] at e
  have hm : j % 9 < 9 := by omega
  have hj9 : o + j = o + j / 9 * 9 + j % 9 := by omega
  rw [hj9]
  generalize j % 9 = m at e hm
  match m, hm with
  | 0, _ => rw [e]; exact a0
  | 1, _ => rw [e]; exact a1
  | 2, _ => rw [e]; exact a2
  | 3, _ => rw [e]; exact a3
  | 4, _ => rw [e]; exact a4
  | 5, _ => rw [e]; exact a5
  | 6, _ => rw [e]; exact a6
  | 7, _ => rw [e]; exact a7
  | 8, _ => rw [e]; exact a8
def QG (w : World) (A : Option Addr) (L : List Qy) : Prop :=
  0 < L.length → ∃ g o, A = some ⟨g, o, none⟩ ∧ g < w.heap.size ∧ ∀ j, (h : j < L.length) → ∃ (B : Option Addr) (c : Nat), w.cell? ⟨g, o + j * 6, none⟩ = some (.int .i64 L[j].kind) ∧ w.cell? ⟨g, o + j * 6 + 1, none⟩ = some (.string L[j].a.owner) ∧ w.cell? ⟨g, o + j * 6 + 2, none⟩ = some (.string L[j].a.name) ∧ w.cell? ⟨g, o + j * 6 + 3, none⟩ = some (.string L[j].b.owner) ∧ w.cell? ⟨g, o + j * 6 + 4, none⟩ = some (.string L[j].b.name) ∧ w.cell? ⟨g, o + j * 6 + 5, none⟩ = some (.slice B L[j].who.length c) ∧ SRow w B L[j].who
theorem QG.below {w w' : World} {A : Option Addr} {L : List Qy} (h : QG w A L) (hb : Below w.heap.size w w') : QG w' A L := fun hp => by
  obtain ⟨g, o, hA, hg, hc⟩ := h hp
  refine ⟨g, o, hA, Nat.lt_of_lt_of_le hg hb.size, fun j hj => ?_⟩
  obtain ⟨B, c, a0, a1, a2, a3, a4, a5, a6⟩ := hc j hj
  have k : ∀ {i : Nat} {u : Value}, w.cell? ⟨g, i, none⟩ = some u → w'.cell? ⟨g, i, none⟩ = some u := fun {i u} e => (hb.cell (p := ⟨g, i, none⟩) hg).trans e
  exact ⟨B, c, k a0, k a1, k a2, k a3, k a4, k a5, a6.keep hb⟩
structure PG (w : World) (A1 A2 A3 A4 : Option Addr) (p : Py) : Prop where
  s : SG w A1 p.stmts
  g : RG w A2 p.grow
  h : RG w A3 p.shrink
  q : QG w A4 p.asks
theorem PG.below {w w' : World} {A1 A2 A3 A4 : Option Addr} {p : Py} (h : PG w A1 A2 A3 A4 p) (hb : Below w.heap.size w w') : PG w' A1 A2 A3 A4 p :=
  ⟨h.s.below hb, h.g.below hb, h.h.below hb, h.q.below hb⟩
def Py.val (p : Py) (A1 A2 A3 A4 : Option Addr) (c1 c2 c3 c4 : Nat) : Value := .agg #[.slice A1 p.stmts.length c1, .slice A2 p.grow.length c2, .slice A3 p.shrink.length c3, .slice A4 p.asks.length c4]
structure Py.fit (p : Py) : Prop where
  n1 : p.stmts.length ≤ 1000
  n2 : p.grow.length ≤ 1000
  n3 : p.shrink.length ≤ 1000
  n4 : p.asks.length ≤ 1000
  f1 : ∀ s ∈ p.stmts, s.fit
  f2 : ∀ r ∈ p.grow, r.light
  f3 : ∀ r ∈ p.shrink, r.light
  f4 : ∀ q ∈ p.asks, q.fit
  f5 : ∀ q ∈ p.asks, q.who.length ≤ 100
end Go.Proofs.YtblapgfilbmdhaaGreatDoor.PolE
namespace Go.Proofs.YtblapgfilbmdhaaGreatDoor.QryF
open Go.ChangeShapes Go.WideShapes Go.ChangeAt Go.RowKit
open Go.ChangeMaps (open_string shut_string)
open Plain SynP TabP Tab1 QryP
set_option maxRecDepth 1000000
theorem cells3 : Tryz.prog.cellsOf 3 = 1 := by kernel_rfl
theorem cells9 : Tryz.prog.cellsOf 9 = 1 := by kernel_rfl
theorem cellsW : Tryz.prog.cellsOf 32 = 1 := by kernel_rfl
theorem cellsR : Tryz.prog.cellsOf 28 = 2 := by kernel_rfl
theorem cellsQ : Tryz.prog.cellsOf 42 = 6 := by kernel_rfl
section
variable {H : Type} {enc : TypeId × Value → H} {w : World} {fuel : Nat} {cs : List Value} {x : DataW H × List MemPlace}
theorem some_at {α : Type} {xs : List α} {n i : Nat} (h : xs.length = n) (hi : i < n) : ∃ y, xs[i]? = some y := ⟨xs[i]'(by omega), List.getElem?_eq_getElem _⟩
theorem role_cells (h : DataW.trod enc Tryz.prog w 0 (fun _ => true) true fuel 28 cs = some x) : ∃ r : Rl, cs = [.string r.owner, .string r.name] ∧ r.light := by
  obtain ⟨xs, n, _, _, hl, hxl, hf⟩ := DataW.trod_struct Tryz.underlying28 h
  rw [cellsR] at hl
  match cs, hl with
  | [c0, c1], _ =>
    have h0 : DataW.trod enc Tryz.prog w 0 (fun _ => true) true n 9 (([c0, c1].drop 0).take (Tryz.prog.cellsOf 9)) = xs[0]? := hf 0 _ rfl
    have h1 : DataW.trod enc Tryz.prog w 0 (fun _ => true) true n 9 (([c0, c1].drop 1).take (Tryz.prog.cellsOf 9)) = xs[1]? := hf 1 _ rfl
    obtain ⟨y0, e0⟩ := some_at (i := 0) hxl (by decide)
    obtain ⟨y1, e1⟩ := some_at (i := 1) hxl (by decide)
    rw [e0] at h0
    rw [e1] at h1
    rw [cells9] at h0 h1
    obtain ⟨s0, a0, _, b0⟩ := DataW.trod_string Tryz.underlying9 h0
    obtain ⟨s1, a1, _, b1⟩ := DataW.trod_string Tryz.underlying9 h1
    simp at a0 a1
    subst a0; subst a1
    exact ⟨⟨s0, s1⟩, rfl, b0, b1⟩
theorem row_cells (h : DataW.trod enc Tryz.prog w 0 (fun _ => true) true fuel 32 cs = some x) : ∃ (A : Option Addr) (c : Nat) (T : List Str), cs = [.slice A T.length c] ∧ T.length ≤ maxLen ∧ (∀ s ∈ T, s.length ≤ maxLen) ∧ SRow w A T := by
  rcases open_strings Tryz.underlying32 Tryz.underlying9 cells9 h with ⟨hcs, hx⟩ | ⟨a, nn, cap, ss, hcs, _, hl, hm, hz, hx, hcell, hws⟩
  · exact ⟨none, 0, [], hcs, by simp, by simp, fun h => by simp at h⟩
  · have hzl : ss.length = cap := by simpa using hz
    have hl2 : ((ss.take nn).map (·.data.toList)).length = nn := by simp; omega
    refine ⟨some a, cap, (ss.take nn).map (·.data.toList), by rw [hl2]; exact hcs, by rw [hl2]; omega, ?_, ?_⟩
    · intro s hs
      obtain ⟨x, hx, rfl⟩ := List.mem_map.1 hs
      exact hws x (List.mem_of_mem_take hx)
    · by_cases h0 : 0 < nn
      · have h1 := hcell 0 (by omega)
        obtain ⟨b, off, spot⟩ := a
        have hspot : spot = none := by simpa [Addr.add] using World.cell?_spot h1
        subst hspot
        have hadd : ∀ i, ((⟨b, off, none⟩ : Addr).add i) = ⟨b, off + i, none⟩ := fun i => by
          unfold Addr.add
          split
          · rename_i h; subst h; rfl
          · simp
        have hb : b < w.heap.size := World.block_lt_of_cell? _ _ h1
        refine fun hp => ⟨b, off, rfl, hb, fun j hj => ?_⟩
        rw [hl2] at hj
        have hc := hcell j (by omega)
        rw [hadd] at hc
        rw [hc]
        simp
        rw [List.getElem?_eq_getElem (by omega)]; rfl
      · intro hp
        rw [hl2] at hp
        omega
theorem query_cells (h : DataW.trod enc Tryz.prog w 0 (fun _ => true) true fuel 42 cs = some x) : ∃ (q : Qy) (A : Option Addr) (c : Nat), cs = [.int .i64 q.kind, .string q.a.owner, .string q.a.name, .string q.b.owner, .string q.b.name, .slice A q.who.length c] ∧ q.fit ∧ SRow w A q.who := by
  obtain ⟨xs, n, _, _, hl, hxl, hf⟩ := DataW.trod_struct Tryz.underlying42 h
  rw [cellsQ] at hl
  match cs, hl with
  | [c0, c1, c2, c3, c4, c5], _ =>
    have h0 : DataW.trod enc Tryz.prog w 0 (fun _ => true) true n 3 (([c0, c1, c2, c3, c4, c5].drop 0).take (Tryz.prog.cellsOf 3)) = xs[0]? := hf 0 _ rfl
    have h1 : DataW.trod enc Tryz.prog w 0 (fun _ => true) true n 28 (([c0, c1, c2, c3, c4, c5].drop 1).take (Tryz.prog.cellsOf 28)) = xs[1]? := hf 1 _ rfl
    have h2 : DataW.trod enc Tryz.prog w 0 (fun _ => true) true n 28 (([c0, c1, c2, c3, c4, c5].drop 3).take (Tryz.prog.cellsOf 28)) = xs[2]? := hf 2 _ rfl
    have h3 : DataW.trod enc Tryz.prog w 0 (fun _ => true) true n 32 (([c0, c1, c2, c3, c4, c5].drop 5).take (Tryz.prog.cellsOf 32)) = xs[3]? := hf 3 _ rfl
    obtain ⟨y0, e0⟩ := some_at (i := 0) hxl (by decide)
    obtain ⟨y1, e1⟩ := some_at (i := 1) hxl (by decide)
    obtain ⟨y2, e2⟩ := some_at (i := 2) hxl (by decide)
    obtain ⟨y3, e3⟩ := some_at (i := 3) hxl (by decide)
    rw [e0] at h0
    rw [e1] at h1
    rw [e2] at h2
    rw [e3] at h3
    rw [cells3] at h0
    rw [cellsR] at h1 h2
    rw [cellsW] at h3
    obtain ⟨k, a0, _, _⟩ := DataW.trod_int Tryz.underlying3 h0
    obtain ⟨r1, a1, b1⟩ := role_cells h1
    obtain ⟨r2, a2, b2⟩ := role_cells h2
    obtain ⟨A, c, T, a3, b3, b4, b5⟩ := row_cells h3
    simp at a0 a1 a2 a3
    obtain ⟨a11, a12⟩ := a1
    obtain ⟨a21, a22⟩ := a2
    subst a0 a11 a12 a21 a22 a3
    exact ⟨⟨k, r1, r2, T⟩, A, c, rfl, ⟨b1, b2, b3, b4⟩, b5⟩
end
end Go.Proofs.YtblapgfilbmdhaaGreatDoor.QryF
namespace Go.Proofs.YtblapgfilbmdhaaGreatDoor.TblO
open Go.ChangeShapes Go.WideShapes Go.ChangeAt Go.RowKit
open Go.ChangeMaps (open_string shut_string)
open Plain SynP TabP Tab1
set_option maxRecDepth 1000000
theorem cells3 : Tryz.prog.cellsOf 3 = 1 := by kernel_rfl
theorem cells9 : Tryz.prog.cellsOf 9 = 1 := by kernel_rfl
theorem cellsR : Tryz.prog.cellsOf 28 = 2 := by kernel_rfl
theorem cellsS : Tryz.prog.cellsOf 67 = 9 := by kernel_rfl
section
variable {H : Type} {enc : TypeId × Value → H} {w : World} {base : Nat} {spare : Nat → Bool} {held : Bool} {fuel : Nat} {cs : List Value} {x : DataW H × List MemPlace}
theorem some_at {α : Type} {xs : List α} {n i : Nat} (h : xs.length = n) (hi : i < n) : ∃ y, xs[i]? = some y := ⟨xs[i]'(by omega), List.getElem?_eq_getElem _⟩
theorem role_cells (h : DataW.trod enc Tryz.prog w base spare held fuel 28 cs = some x) : ∃ r : Rl, cs = [.string r.owner, .string r.name] ∧ r.light := by
  obtain ⟨xs, n, _, _, hl, hxl, hf⟩ := DataW.trod_struct Tryz.underlying28 h
  rw [cellsR] at hl
  match cs, hl with
  | [c0, c1], _ =>
    have h0 : DataW.trod enc Tryz.prog w base spare held n 9 (([c0, c1].drop 0).take (Tryz.prog.cellsOf 9)) = xs[0]? := hf 0 _ rfl
    have h1 : DataW.trod enc Tryz.prog w base spare held n 9 (([c0, c1].drop 1).take (Tryz.prog.cellsOf 9)) = xs[1]? := hf 1 _ rfl
    obtain ⟨y0, e0⟩ := some_at (i := 0) hxl (by decide)
    obtain ⟨y1, e1⟩ := some_at (i := 1) hxl (by decide)
    rw [e0] at h0
    rw [e1] at h1
    rw [cells9] at h0 h1
    obtain ⟨s0, a0, _, b0⟩ := DataW.trod_string Tryz.underlying9 h0
    obtain ⟨s1, a1, _, b1⟩ := DataW.trod_string Tryz.underlying9 h1
    simp at a0 a1
    subst a0; subst a1
    exact ⟨⟨s0, s1⟩, rfl, b0, b1⟩
theorem stmt_cells (h : DataW.trod enc Tryz.prog w base spare held fuel 67 cs = some x) : ∃ s : St, cs = s.cells ∧ s.fit := by
  obtain ⟨xs, n, _, _, hl, hxl, hf⟩ := DataW.trod_struct Tryz.underlying67 h
  rw [cellsS] at hl
  match cs, hl with
  | [c0, c1, c2, c3, c4, c5, c6, c7, c8], _ =>
    have h0 : DataW.trod enc Tryz.prog w base spare held n 3 (([c0, c1, c2, c3, c4, c5, c6, c7, c8].drop 0).take (Tryz.prog.cellsOf 3)) = xs[0]? := hf 0 _ rfl
    have h1 : DataW.trod enc Tryz.prog w base spare held n 28 (([c0, c1, c2, c3, c4, c5, c6, c7, c8].drop 1).take (Tryz.prog.cellsOf 28)) = xs[1]? := hf 1 _ rfl
    have h2 : DataW.trod enc Tryz.prog w base spare held n 9 (([c0, c1, c2, c3, c4, c5, c6, c7, c8].drop 3).take (Tryz.prog.cellsOf 9)) = xs[2]? := hf 2 _ rfl
    have h3 : DataW.trod enc Tryz.prog w base spare held n 28 (([c0, c1, c2, c3, c4, c5, c6, c7, c8].drop 4).take (Tryz.prog.cellsOf 28)) = xs[3]? := hf 3 _ rfl
    have h4 : DataW.trod enc Tryz.prog w base spare held n 28 (([c0, c1, c2, c3, c4, c5, c6, c7, c8].drop 6).take (Tryz.prog.cellsOf 28)) = xs[4]? := hf 4 _ rfl
    have h5 : DataW.trod enc Tryz.prog w base spare held n 9 (([c0, c1, c2, c3, c4, c5, c6, c7, c8].drop 8).take (Tryz.prog.cellsOf 9)) = xs[5]? := hf 5 _ rfl
    obtain ⟨y0, e0⟩ := some_at (i := 0) hxl (by decide)
    obtain ⟨y1, e1⟩ := some_at (i := 1) hxl (by decide)
    obtain ⟨y2, e2⟩ := some_at (i := 2) hxl (by decide)
    obtain ⟨y3, e3⟩ := some_at (i := 3) hxl (by decide)
    obtain ⟨y4, e4⟩ := some_at (i := 4) hxl (by decide)
    obtain ⟨y5, e5⟩ := some_at (i := 5) hxl (by decide)
    rw [e0] at h0
    rw [e1] at h1
    rw [e2] at h2
    rw [e3] at h3
    rw [e4] at h4
    rw [e5] at h5
    rw [cells3] at h0
    rw [cellsR] at h1 h3 h4
    rw [cells9] at h2 h5
    obtain ⟨k, a0, _, _⟩ := DataW.trod_int Tryz.underlying3 h0
    obtain ⟨r1, a1, b1⟩ := role_cells h1
    obtain ⟨s2, a2, _, b2⟩ := DataW.trod_string Tryz.underlying9 h2
    obtain ⟨r3, a3, b3⟩ := role_cells h3
    obtain ⟨r4, a4, b4⟩ := role_cells h4
    obtain ⟨s5, a5, _, b5⟩ := DataW.trod_string Tryz.underlying9 h5
    simp at a0 a1 a2 a3 a4 a5
    obtain ⟨a11, a12⟩ := a1
    obtain ⟨a31, a32⟩ := a3
    obtain ⟨a41, a42⟩ := a4
    subst a0 a11 a12 a2 a31 a32 a41 a42 a5
    exact ⟨⟨k, r1, s2, r3, r4, s5⟩, rfl, b1, b2, b3, b4, b5⟩
end
end Go.Proofs.YtblapgfilbmdhaaGreatDoor.TblO
namespace Go.Proofs.YtblapgfilbmdhaaGreatDoor.PolOp
open Go.ChangeShapes Go.WideShapes Go.ChangeAt Go.RowKit
open Plain SynP Tab1 QryP QryF PolA PolE
set_option maxRecDepth 1000000
theorem off_add (b off j : Nat) : ((⟨b, off, none⟩ : Addr).add j) = ⟨b, off + j, none⟩ := by
  unfold Addr.add
  split
  · rename_i h; subst h; rfl
  · simp
theorem list_of {α : Type} {P : Nat → α → Prop} : ∀ n, (∀ i, i < n → ∃ x, P i x) → ∃ L : List α, L.length = n ∧ ∀ i, (h : i < L.length) → P i L[i]
  | 0, _ => ⟨[], rfl, fun i h => absurd h (Nat.not_lt_zero i)⟩
  | n + 1, H => by
    obtain ⟨L, hl, hp⟩ := list_of n fun i hi => H i (by omega)
    obtain ⟨x, hx⟩ := H n (by omega)
    refine ⟨L ++ [x], by simp [hl], fun i h => ?_⟩
    by_cases hi : i < L.length
    · rw [List.getElem_append_left hi]; exact hp i hi
    · have : i = n := by simp at h; omega
      subst this
      rw [List.getElem_append_right (by omega)]
      simpa [hl] using hx
section
variable {H : Type} {enc : TypeId × Value → H} {W : World} {fuel : Nat} {c0 : Value} {x : DataW H × List MemPlace}
theorem row_of {α : Type} {t e : TypeId} (m : Nat) (hm0 : 0 < m) (ht : Tryz.prog.underlying t = some (.slice e)) (hce : Tryz.prog.cellsOf e = m) (R : World → α → List Value → Prop)
    (hel : ∀ {n : Nat} {cs : List Value} {y : DataW H × List MemPlace}, DataW.trod enc Tryz.prog W 0 (fun _ => true) true n e cs = some y → ∃ s : α, R W s cs ∧ cs.length = m)
    (hf : DataW.trod enc Tryz.prog W 0 (fun _ => true) true fuel t [c0] = some x) :
    ∃ (A : Option Addr) (n c : Nat) (L : List α), c0 = .slice A n c ∧ L.length = n ∧ n ≤ maxLen ∧ (0 < n → ∃ g o, A = some ⟨g, o, none⟩ ∧ g < W.heap.size ∧ ∀ j, (h : j < L.length) → ∃ cs, R W L[j] cs ∧ cs.length = m ∧ ∀ k u, cs[k]? = some u → W.cell? ⟨g, o + j * m + k, none⟩ = some u) := by
  rcases DataW.trod_slice ht hf with ⟨hcs, hx⟩ | ⟨a, len', cap', elems, rest, n, _, hcs, hx, hb, hl, hm, hlen, hel2, _⟩
  · simp at hcs
    subst hcs
    exact ⟨none, 0, 0, [], rfl, rfl, by simp, fun h => by simp at h⟩
  · simp at hcs
    subst hcs
    have key : ∀ i, i < len' → ∃ s : α, ∃ cs, R W s cs ∧ cs.length = m ∧ ∀ k, k < m → W.cell? (a.add (i * m) |>.add k) = cs[k]? := fun i hi => by
      have q := hel2 i hi
      rw [hce] at q
      obtain ⟨y, hy⟩ : ∃ y, elems[i]? = some y := some_at hlen hi
      rw [hy, Option.bind_eq_some_iff] at q
      obtain ⟨cs, hc, ht2⟩ := q
      obtain ⟨s, hs, hln⟩ := hel ht2
      obtain ⟨_, _, hat⟩ := World.cells?_some hc
      exact ⟨s, cs, hs, hln, hat⟩
    obtain ⟨L, hL, hp⟩ := list_of (P := fun i (s : α) => ∃ cs, R W s cs ∧ cs.length = m ∧ ∀ k, k < m → W.cell? (a.add (i * m) |>.add k) = cs[k]?) len' key
    refine ⟨some a, len', cap', L, rfl, hL, by omega, fun hpos => ?_⟩
    obtain ⟨cs0, _, hc0, h0⟩ := hp 0 (by omega)
    have h1 := h0 0 hm0
    rw [List.getElem?_eq_getElem (by omega)] at h1
    obtain ⟨b, off, spot⟩ := a
    have hspot : spot = none := by simpa [Addr.add] using World.cell?_spot h1
    subst hspot
    have hlt := World.block_lt_of_cell? _ _ h1
    rw [off_add, off_add] at hlt
    refine ⟨b, off, rfl, hlt, fun j hj => ?_⟩
    obtain ⟨cs, hr, hcl, hat⟩ := hp j hj
    refine ⟨cs, hr, hcl, fun k u hu => ?_⟩
    have hk : k < m := by
      rcases Nat.lt_or_ge k cs.length with h | h
      · omega
      · rw [List.getElem?_eq_none h] at hu; cases hu
    have := hat k hk
    rw [off_add, off_add] at this
    rw [this, hu]
end
section
variable {H : Type} {enc : TypeId × Value → H} {W : World} {fuel : Nat} {c0 : Value} {x : DataW H × List MemPlace}
theorem stmts_cell (hf : DataW.trod enc Tryz.prog W 0 (fun _ => true) true fuel 22 [c0] = some x) : ∃ (A : Option Addr) (c : Nat) (L : List St), c0 = .slice A L.length c ∧ L.length ≤ maxLen ∧ (∀ s ∈ L, s.fit) ∧ SG W A L := by
  obtain ⟨A, n, c, L, rfl, hL, hm, h⟩ := row_of 9 (by omega) Tryz.underlying22 TblO.cellsS (fun _ (s : St) cs => cs = s.cells ∧ s.fit) (fun {n cs y} h => by
    obtain ⟨s, rfl, hf⟩ := TblO.stmt_cells h
    exact ⟨s, ⟨rfl, hf⟩, rfl⟩) hf
  subst hL
  refine ⟨A, c, L, rfl, hm, fun s hs => ?_, fun hp => ?_⟩
  · obtain ⟨j, hj, rfl⟩ := List.getElem_of_mem hs
    obtain ⟨g, o, _, _, hc⟩ := h (by omega)
    obtain ⟨cs, ⟨_, hf⟩, _⟩ := hc j hj
    exact hf
  · obtain ⟨g, o, rfl, hg, hc⟩ := h hp
    refine ⟨g, o, rfl, hg, fun j hj => ?_⟩
    obtain ⟨cs, ⟨rfl, _⟩, _, hk⟩ := hc j hj
    exact ⟨hk 0 _ rfl, hk 1 _ rfl, hk 2 _ rfl, hk 3 _ rfl, hk 4 _ rfl, hk 5 _ rfl, hk 6 _ rfl, hk 7 _ rfl, hk 8 _ rfl⟩
theorem roles_cell (hf : DataW.trod enc Tryz.prog W 0 (fun _ => true) true fuel 23 [c0] = some x) : ∃ (A : Option Addr) (c : Nat) (L : List Rl), c0 = .slice A L.length c ∧ L.length ≤ maxLen ∧ (∀ r ∈ L, r.light) ∧ RG W A L := by
  obtain ⟨A, n, c, L, rfl, hL, hm, h⟩ := row_of 2 (by omega) Tryz.underlying23 TblO.cellsR (fun _ (r : Rl) cs => cs = [.string r.owner, .string r.name] ∧ r.light) (fun {n cs y} h => by
    obtain ⟨s, rfl, hf⟩ := TblO.role_cells h
    exact ⟨s, ⟨rfl, hf⟩, rfl⟩) hf
  subst hL
  refine ⟨A, c, L, rfl, hm, fun s hs => ?_, fun hp => ?_⟩
  · obtain ⟨j, hj, rfl⟩ := List.getElem_of_mem hs
    obtain ⟨g, o, _, _, hc⟩ := h (by omega)
    obtain ⟨cs, ⟨_, hf⟩, _⟩ := hc j hj
    exact hf
  · obtain ⟨g, o, rfl, hg, hc⟩ := h hp
    refine ⟨g, o, rfl, hg, fun j hj => ?_⟩
    obtain ⟨cs, ⟨rfl, _⟩, _, hk⟩ := hc j hj
    exact ⟨hk 0 _ rfl, hk 1 _ rfl⟩
theorem asks_cell (hf : DataW.trod enc Tryz.prog W 0 (fun _ => true) true fuel 24 [c0] = some x) : ∃ (A : Option Addr) (c : Nat) (L : List Qy), c0 = .slice A L.length c ∧ L.length ≤ maxLen ∧ (∀ q ∈ L, q.fit) ∧ QG W A L := by
  obtain ⟨A, n, c, L, rfl, hL, hm, h⟩ := row_of 6 (by omega) Tryz.underlying24 QryF.cellsQ (fun w (q : Qy) cs => ∃ (B : Option Addr) (c : Nat), cs = [.int .i64 q.kind, .string q.a.owner, .string q.a.name, .string q.b.owner, .string q.b.name, .slice B q.who.length c] ∧ q.fit ∧ SRow w B q.who) (fun {n cs y} h => by
    obtain ⟨q, B, c, rfl, hf, hr⟩ := QryF.query_cells h
    exact ⟨q, ⟨B, c, rfl, hf, hr⟩, rfl⟩) hf
  subst hL
  refine ⟨A, c, L, rfl, hm, fun s hs => ?_, fun hp => ?_⟩
  · obtain ⟨j, hj, rfl⟩ := List.getElem_of_mem hs
    obtain ⟨g, o, _, _, hc⟩ := h (by omega)
    obtain ⟨cs, ⟨_, _, _, hf, _⟩, _⟩ := hc j hj
    exact hf
  · obtain ⟨g, o, rfl, hg, hc⟩ := h hp
    refine ⟨g, o, rfl, hg, fun j hj => ?_⟩
    obtain ⟨cs, ⟨B, c, rfl, _, hr⟩, _, hk⟩ := hc j hj
    exact ⟨B, c, hk 0 _ rfl, hk 1 _ rfl, hk 2 _ rfl, hk 3 _ rfl, hk 4 _ rfl, hk 5 _ rfl, hr⟩
theorem c1 : Tryz.prog.cellsOf 22 = 1 := by kernel_rfl
theorem c2 : Tryz.prog.cellsOf 23 = 1 := by kernel_rfl
theorem c3 : Tryz.prog.cellsOf 24 = 1 := by kernel_rfl
theorem cP : Tryz.prog.cellsOf 26 = 4 := by kernel_rfl
structure Came (p : Py) : Prop where
  n1 : p.stmts.length ≤ maxLen
  n2 : p.grow.length ≤ maxLen
  n3 : p.shrink.length ≤ maxLen
  n4 : p.asks.length ≤ maxLen
  f1 : ∀ s ∈ p.stmts, s.fit
  f2 : ∀ r ∈ p.grow, r.light
  f3 : ∀ r ∈ p.shrink, r.light
  f4 : ∀ q ∈ p.asks, q.fit
theorem open_policy {base : Nat} {v : Value} {d : DataW H} {p : List MemPlace}
    (hval : Value.okWide Tryz.prog W .any base 26 v) (h : DataW.Trod enc Tryz.prog W 0 (fun _ => true) true 26 v d p) :
    ∃ (y : Py) (A1 A2 A3 A4 : Option Addr) (c1 c2 c3 c4 : Nat), v = y.val A1 A2 A3 A4 c1 c2 c3 c4 ∧ Came y ∧ PG W A1 A2 A3 A4 y := by
  obtain ⟨cs, rfl, hsz⟩ := okWide_struct Tryz.underlying26 hval
  obtain ⟨fuel, hf⟩ := h
  obtain ⟨xs, n, _, _, hl, hxl, hfa⟩ := DataW.trod_struct Tryz.underlying26 hf
  rw [cP] at hl
  obtain ⟨l⟩ := cs
  simp only [Value.cells, List.toList_toArray] at hl hfa
  match l, hl with
  | [e0, e1, e2, e3], _ =>
    have h0 : DataW.trod enc Tryz.prog W 0 (fun _ => true) true n 22 (([e0, e1, e2, e3].drop 0).take (Tryz.prog.cellsOf 22)) = xs[0]? := hfa 0 _ rfl
    have h1 : DataW.trod enc Tryz.prog W 0 (fun _ => true) true n 23 (([e0, e1, e2, e3].drop 1).take (Tryz.prog.cellsOf 23)) = xs[1]? := hfa 1 _ rfl
    have h2 : DataW.trod enc Tryz.prog W 0 (fun _ => true) true n 23 (([e0, e1, e2, e3].drop 2).take (Tryz.prog.cellsOf 23)) = xs[2]? := hfa 2 _ rfl
    have h3 : DataW.trod enc Tryz.prog W 0 (fun _ => true) true n 24 (([e0, e1, e2, e3].drop 3).take (Tryz.prog.cellsOf 24)) = xs[3]? := hfa 3 _ rfl
    obtain ⟨y0, g0⟩ := some_at (i := 0) hxl (by decide)
    obtain ⟨y1, g1⟩ := some_at (i := 1) hxl (by decide)
    obtain ⟨y2, g2⟩ := some_at (i := 2) hxl (by decide)
    obtain ⟨y3, g3⟩ := some_at (i := 3) hxl (by decide)
    rw [g0, PolOp.c1] at h0
    rw [g1, PolOp.c2] at h1
    rw [g2, PolOp.c2] at h2
    rw [g3, PolOp.c3] at h3
    obtain ⟨A1, k1, S, r1, a1, b1, d1⟩ := stmts_cell h0
    obtain ⟨A2, k2, G, r2, a2, b2, d2⟩ := roles_cell h1
    obtain ⟨A3, k3, R, r3, a3, b3, d3⟩ := roles_cell h2
    obtain ⟨A4, k4, Q, r4, a4, b4, d4⟩ := asks_cell h3
    subst r1; subst r2; subst r3; subst r4
    exact ⟨⟨S, G, R, Q⟩, A1, A2, A3, A4, k1, k2, k3, k4, rfl, ⟨a1, a2, a3, a4, b1, b2, b3, b4⟩, ⟨d1, d2, d3, d4⟩⟩
end
end Go.Proofs.YtblapgfilbmdhaaGreatDoor.PolOp
namespace Go.Proofs.YtblapgfilbmdhaaGreatDoor.StO
open Go.ChangeShapes Go.WideShapes Go.ChangeAt Go.RowKit
open SynP PolE PolOp
set_option maxRecDepth 1000000
end Go.Proofs.YtblapgfilbmdhaaGreatDoor.StO
namespace Go.Proofs.YtblapgfilbmdhaaGreatDoor.LwO
open Go.ChangeShapes Go.WideShapes Go.ChangeAt Go.RowKit
open SynP PolA SynF
open SynC (add_off)
set_option maxRecDepth 1000000
theorem list_of {α : Type} {P : Nat → α → Prop} : ∀ n, (∀ i, i < n → ∃ x, P i x) → ∃ L : List α, L.length = n ∧ ∀ i, (h : i < L.length) → P i L[i]
  | 0, _ => ⟨[], rfl, fun i h => absurd h (Nat.not_lt_zero i)⟩
  | n + 1, H => by
    obtain ⟨L, hl, hp⟩ := list_of n fun i hi => H i (by omega)
    obtain ⟨x, hx⟩ := H n (by omega)
    refine ⟨L ++ [x], by simp [hl], fun i h => ?_⟩
    by_cases hi : i < L.length
    · rw [List.getElem_append_left hi]; exact hp i hi
    · have : i = n := by simp at h; omega
      subst this
      rw [List.getElem_append_right (by omega)]
      simpa [hl] using hx
set_option maxRecDepth 1000000 in
theorem open_roles {H : Type} {enc : TypeId × Value → H} {W : World} {base : Nat} {v : Value} {d : DataW H} {p : List MemPlace}
    (hval : Value.okWide Tryz.prog W .any base 23 v) (h : DataW.Trod enc Tryz.prog W 0 (fun _ => true) true 23 v d p) :
    ∃ (A : Option Addr) (c : Nat) (L : List Rl), v = .slice A L.length c ∧ L.length ≤ maxLen ∧ RG W A L := by
  obtain ⟨a0, len, cap, rfl⟩ := okWide_slice Tryz.underlying23 hval
  obtain ⟨fuel, hf⟩ := h
  rcases DataW.trod_slice Tryz.underlying23 hf with ⟨hcs, hx⟩ | ⟨a, len', cap', elems, rest, n, _, hcs, hx, hb, hl, hm, hlen, hel, _⟩
  · simp [Value.cells] at hcs
    obtain ⟨rfl, rfl, rfl⟩ := hcs
    exact ⟨none, 0, [], rfl, by simp, fun h => by simp at h⟩
  · simp [Value.cells] at hcs
    obtain ⟨rfl, rfl, rfl⟩ := hcs
    have key : ∀ i, i < len → ∃ s : Rl, ∀ k, k < 2 → W.cell? (a.add (i * 2) |>.add k) = (Rl.cells s)[k]? := fun i hi => by
      have q := hel i hi
      rw [cellsR] at q
      have hsome : ∃ y, elems[i]? = some y := some_at hlen hi
      obtain ⟨y, hy⟩ := hsome
      rw [hy, Option.bind_eq_some_iff] at q
      obtain ⟨cs, hc, ht⟩ := q
      obtain ⟨s, rfl, _⟩ := role_cells ht
      obtain ⟨_, _, hat⟩ := World.cells?_some hc
      exact ⟨s, hat⟩
    obtain ⟨L, hL, hp⟩ := list_of (P := fun i (s : Rl) => ∀ k, k < 2 → W.cell? (a.add (i * 2) |>.add k) = (Rl.cells s)[k]?) len key
    refine ⟨some a, cap, L, by rw [hL], by omega, fun hpos => ?_⟩
    have h1 := hp 0 hpos 0 (by omega)
    obtain ⟨b, off, spot⟩ := a
    have h1' : W.cell? (((⟨b, off, spot⟩ : Addr).add (0 * 2)).add 0) = some (.string L[0].owner) := h1
    have hspot : spot = none := by simpa [Addr.add] using World.cell?_spot h1'
    subst hspot
    have hlt := World.block_lt_of_cell? _ _ h1'
    rw [add_off, add_off] at hlt
    refine ⟨b, off, rfl, hlt, fun j hj => ?_⟩
    have q0 := hp j hj 0 (by omega)
    have q1 := hp j hj 1 (by omega)
    rw [add_off, add_off] at q0 q1
    exact ⟨q0, q1⟩
set_option maxRecDepth 1000000 in
theorem open_role {H : Type} {enc : TypeId × Value → H} {w : World} {r : Reach} {b0 : Nat} {v : Value} {d : DataW H} {p : List MemPlace} (hv : Value.okWide Tryz.prog w r b0 28 v) (h : DataW.Trod enc Tryz.prog w 0 (fun _ => true) true 28 v d p) : ∃ s : Rl, v = s.val := by
  obtain ⟨cs, rfl, hsz⟩ := okWide_struct Tryz.underlying28 hv
  obtain ⟨fuel, hf⟩ := h
  obtain ⟨s, hs, _⟩ := role_cells hf
  refine ⟨s, ?_⟩
  have : cs.toList = [.string s.owner, .string s.name] := by simpa [Value.cells] using hs
  obtain ⟨l⟩ := cs
  simp at this
  subst this
  rfl
end Go.Proofs.YtblapgfilbmdhaaGreatDoor.LwO
namespace Go.Proofs.YtblapgfilbmdhaaGreatDoor.SynD4
open Go.RowKit Go.Sort Go.Proofs Plain SynP Grown SynD2 SynD3 SynD
theorem cmpLays (blk off size : Nat) (w : World) : CmpLays Tryz.prog 162 #[] St.cells 9 cmpS blk off size w := fun m os dk _ x y =>
  (Syn3.order x y (sortWorldK St.cells 9 w blk off m dk os)).mono fun _ _ ⟨he, hg⟩ => ⟨he, by
    obtain ⟨⟨q, os'⟩, rfl⟩ := hg
    exact ⟨q, os', rfl⟩⟩
end Go.Proofs.YtblapgfilbmdhaaGreatDoor.SynD4
