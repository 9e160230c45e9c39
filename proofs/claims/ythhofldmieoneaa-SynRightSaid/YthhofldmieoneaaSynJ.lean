/- A row of roles: those of a statement, and whether two rows are the very same. -/
import Derived.Test.YthhofldmieoneaaSynM
import Derived.Test.YthhofldmieoneaaSynU
namespace Go.Proofs.Ythhofldmieoneaa.SynJ
open Go.RowKit Go.Sort Go.Proofs Go.Proofs.Ythhofldmieoneaa.Plain Go.Proofs.Ythhofldmieoneaa.SynP Go.Proofs.Ythhofldmieoneaa.Grown Go.Proofs.Ythhofldmieoneaa.SynE Go.Proofs.Ythhofldmieoneaa.Syn4
set_option linter.unusedVariables false
set_option linter.unusedSimpArgs false
theorem infoRole : (Try.prog.info? 23).map (fun i => (i.zero, i.size, i.bytes)) = some (some (.agg #[.string ⟨#[]⟩, .string ⟨#[]⟩]), 2, 32) := by kernel_rfl
def rcells (l : List Rl) : List Value := (l.map fun r => [Value.string r.owner, Value.string r.name]).flatten
/-- A slice value that reads as roles. -/
def RAt (w : World) (A : Option Addr) (l : List Rl) : Prop := 0 < l.length → ∃ g, A = some ⟨g, 0, none⟩ ∧ g < w.heap.size ∧ ∀ j, (h : j < l.length) → w.cell? ⟨g, j * 2, none⟩ = some (.string l[j].owner) ∧ w.cell? ⟨g, j * 2 + 1, none⟩ = some (.string l[j].name)
theorem RAt.below {w w' : World} {A : Option Addr} {l : List Rl} (h : RAt w A l) (hb : RowKit.Below w.heap.size w w') : RAt w' A l := fun hp => by
  obtain ⟨g, hA, hg, hc⟩ := h hp
  refine ⟨g, hA, Nat.lt_of_lt_of_le hg hb.size, fun j hj => ?_⟩
  obtain ⟨a, b⟩ := hc j hj
  exact ⟨(hb.cell (p := ⟨g, j * 2, none⟩) hg).trans a, (hb.cell (p := ⟨g, j * 2 + 1, none⟩) hg).trans b⟩
theorem rcells_at (L : List Rl) (j : Nat) (h : j < L.length) : (rcells L)[j * 2]? = some (.string L[j].owner) ∧ (rcells L)[j * 2 + 1]? = some (.string L[j].name) := by
  induction L generalizing j with
  | nil => simp at h
  | cons t L ih =>
    have e : rcells (t :: L) = [Value.string t.owner, Value.string t.name] ++ rcells L := by unfold rcells; simp
    rw [e]
    cases j with
    | zero => exact ⟨rfl, rfl⟩
    | succ j =>
      obtain ⟨a, b⟩ := ih j (by simpa using h)
      refine ⟨?_, ?_⟩ <;> rw [List.getElem?_append_right (by simp; omega)]
      · rw [show (j + 1) * 2 - [Value.string t.owner, Value.string t.name].length = j * 2 from by simp; omega]; exact a
      · rw [show (j + 1) * 2 + 1 - [Value.string t.owner, Value.string t.name].length = j * 2 + 1 from by simp; omega]; exact b
theorem rat_own {w : World} {B : Nat} {e : TypeId} {v : Value} {L : List Rl} (h : w.ownsRow B e 2 v L.length (rcells L)) : ∃ A cap, v = .slice A L.length cap ∧ RAt w A L := by
  rcases h.2 with ⟨rfl, h0⟩ | ⟨g, cap, cur, rfl, hB, hh, hc, hm, hs, ht⟩
  · exact ⟨none, 0, by rw [h0], fun hp => by omega⟩
  · refine ⟨_, _, rfl, fun hp => ⟨g, rfl, (h.lt g rfl).2, fun j hj => ?_⟩⟩
    obtain ⟨a, b⟩ := rcells_at L j hj
    rw [← ht] at a b
    rw [List.getElem?_take_of_lt (by omega)] at a b
    refine ⟨?_, ?_⟩ <;> rw [Lib.cell_of_heap hh]
    · rw [← Array.getElem?_toList]; exact a
    · rw [← Array.getElem?_toList]; exact b
theorem rat_new (w : World) (L : List Rl) (t : TypeId) : RAt (w.alloc (.cells (rcells L).toArray t)) (some ⟨w.heap.size, 0, none⟩) L := fun _ =>
  ⟨w.heap.size, rfl, by simp, fun j hj => by
    obtain ⟨a, b⟩ := rcells_at L j hj
    exact ⟨by rw [Lib.cell_of_heap (heap_alloc_new w _), List.getElem?_toArray]; exact a, by rw [Lib.cell_of_heap (heap_alloc_new w _), List.getElem?_toArray]; exact b⟩⟩
set_option maxRecDepth 100000 in
theorem sameRoles (A B : Option Addr) (ca cb : Nat) (L : List Rl) (w : World) (hL : L.length ≤ 1000) (hA : RAt w A L) (hB : RAt w B L) :
    Calls Try.prog 17 #[.slice A L.length ca, .slice B L.length cb] w fun e w' => e = .returned (.bool true) ∧ RowKit.Below w.heap.size w w' := by
  go_enter Try.func17, Try.ntmps17
  go_wp2
  go_loopw [13] (fun i wr => ∃ k : Nat, k ≤ L.length ∧ i = .int .i64 k ∧ ∃ n, wr = w.drewN n) (fun i _ => L.length - (intOf i).toNat)
  case atStart => exact ⟨0, by omega, rfl, 0, rfl⟩
  case round =>
    obtain ⟨k, hk, rfl, n, rfl⟩ := hrel
    by_cases hlt : k < L.length
    · obtain ⟨g1, rfl, _, h1⟩ := hA (by omega)
      obtain ⟨g2, rfl, _, h2⟩ := hB (by omega)
      obtain ⟨a1, b1⟩ := h1 k hlt
      obtain ⟨a2, b2⟩ := h2 k hlt
      have p1 : (0 : Int) ≤ k := by omega
      have p2 : (k : Int) < L.length := by omega
      have hq := fun w => neR L[k].owner L[k].name L[k].owner L[k].name w
      rw [decide_eq_true rfl] at hq
      clear h1 h2 hA hB
      go_wp2_with fail
      go_quiet (fail)
      go_wp2_with fail
      go_roundw
      case rel => exact ⟨k + 1, by omega, by go_num, _, rfl⟩
      case measure => simp [intOf]; omega
    · go_wp2_with fail
      go_ret
      exact ⟨rfl, below_drewN (Below.refl _ _) _⟩
/-- The roles of a statement: its head, and what its body names. -/
def rolesL (s : St) : List Rl := if s.kind = 2 ∨ s.kind = 3 then [s.head, s.a] else if s.kind = 4 then [s.head, s.a, s.b] else [s.head]
def RolesPost (s : St) (w : World) (e : Ending) (w' : World) : Prop := ∃ A, e = .returned (.slice A (rolesL s).length (rolesL s).length) ∧ RAt w' A (rolesL s) ∧ Grew w w'
set_option maxRecDepth 100000 in
theorem roles (s : St) (w : World) : Calls Try.prog 18 #[s.val] w (RolesPost s w) := by
  obtain ⟨k1, ⟨ho, hn⟩, wh, ⟨ao, an⟩, ⟨bo, bn⟩, v⟩ := s
  rcases kinds k1 with rfl | rfl | rfl | rfl | ⟨h1, h2, h3, h4⟩
  · have hn1 := rat_new (w.alloc (.cells #[.int .i64 1, .string ho, .string hn, .string wh, .string ao, .string an, .string bo, .string bn, .string v] 25)) [⟨ho, hn⟩] 23
    rw [World.size_alloc] at hn1
    have HN := Lib.hid hn1
    clear hn1
    have hr : Hid (rolesL ⟨1, ⟨ho, hn⟩, wh, ⟨ao, an⟩, ⟨bo, bn⟩, v⟩ = [⟨ho, hn⟩]) := Lib.hid rfl
    unfold St.val
    go_enter Try.func18, Try.ntmps18
    go_wp2
    go_ret
    exact ⟨_, by rw [hr.out]; rfl, by rw [hr.out]; exact HN.out, ((Grew.refl _).alloc _).alloc _⟩
  · have hn1 := rat_new (w.alloc (.cells #[.int .i64 2, .string ho, .string hn, .string wh, .string ao, .string an, .string bo, .string bn, .string v] 25)) [⟨ho, hn⟩, ⟨ao, an⟩] 23
    rw [World.size_alloc] at hn1
    have HN := Lib.hid hn1
    clear hn1
    have hr : Hid (rolesL ⟨2, ⟨ho, hn⟩, wh, ⟨ao, an⟩, ⟨bo, bn⟩, v⟩ = [⟨ho, hn⟩, ⟨ao, an⟩]) := Lib.hid rfl
    unfold St.val
    go_enter Try.func18, Try.ntmps18
    go_wp2
    go_ret
    exact ⟨_, by rw [hr.out]; rfl, by rw [hr.out]; exact HN.out, ((Grew.refl _).alloc _).alloc _⟩
  · have hn1 := rat_new (w.alloc (.cells #[.int .i64 3, .string ho, .string hn, .string wh, .string ao, .string an, .string bo, .string bn, .string v] 25)) [⟨ho, hn⟩, ⟨ao, an⟩] 23
    rw [World.size_alloc] at hn1
    have HN := Lib.hid hn1
    clear hn1
    have hr : Hid (rolesL ⟨3, ⟨ho, hn⟩, wh, ⟨ao, an⟩, ⟨bo, bn⟩, v⟩ = [⟨ho, hn⟩, ⟨ao, an⟩]) := Lib.hid rfl
    unfold St.val
    go_enter Try.func18, Try.ntmps18
    go_wp2
    go_ret
    exact ⟨_, by rw [hr.out]; rfl, by rw [hr.out]; exact HN.out, ((Grew.refl _).alloc _).alloc _⟩
  · have hn1 := rat_new (w.alloc (.cells #[.int .i64 4, .string ho, .string hn, .string wh, .string ao, .string an, .string bo, .string bn, .string v] 25)) [⟨ho, hn⟩, ⟨ao, an⟩, ⟨bo, bn⟩] 23
    rw [World.size_alloc] at hn1
    have HN := Lib.hid hn1
    clear hn1
    have hr : Hid (rolesL ⟨4, ⟨ho, hn⟩, wh, ⟨ao, an⟩, ⟨bo, bn⟩, v⟩ = [⟨ho, hn⟩, ⟨ao, an⟩, ⟨bo, bn⟩]) := Lib.hid rfl
    unfold St.val
    go_enter Try.func18, Try.ntmps18
    go_wp2
    go_ret
    exact ⟨_, by rw [hr.out]; rfl, by rw [hr.out]; exact HN.out, ((Grew.refl _).alloc _).alloc _⟩
  · have hn1 := rat_new (w.alloc (.cells #[.int .i64 k1, .string ho, .string hn, .string wh, .string ao, .string an, .string bo, .string bn, .string v] 25)) [⟨ho, hn⟩] 23
    rw [World.size_alloc] at hn1
    have HN := Lib.hid hn1
    clear hn1
    have e2 : (k1 == 2) = false := by simpa using h2
    have e3 : (k1 == 3) = false := by simpa using h3
    have e4 : (k1 == 4) = false := by simpa using h4
    have hr : Hid (rolesL ⟨k1, ⟨ho, hn⟩, wh, ⟨ao, an⟩, ⟨bo, bn⟩, v⟩ = [⟨ho, hn⟩]) := Lib.hid (by unfold rolesL; rw [if_neg (fun e => e.elim h2 h3), if_neg h4])
    clear h1 h2 h3 h4
    unfold St.val
    go_enter Try.func18, Try.ntmps18
    go_wp2
    go_ret
    exact ⟨_, by rw [hr.out]; rfl, by rw [hr.out]; exact HN.out, ((Grew.refl _).alloc _).alloc _⟩
end Go.Proofs.Ythhofldmieoneaa.SynJ
