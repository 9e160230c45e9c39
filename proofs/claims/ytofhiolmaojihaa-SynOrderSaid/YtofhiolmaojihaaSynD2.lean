/- A slice value that reads as statements; a copy of it. -/
import Derived.Test.YtofhiolmaojihaaSynC
namespace Go.Proofs.Ytofhiolmaojihaa.SynD2
open Go.RowKit Go.Sort Go.Proofs.Ytofhiolmaojihaa.Plain Go.Proofs.Ytofhiolmaojihaa.SynP Go.Proofs.Ytofhiolmaojihaa.SynC
def stCells (L : List St) : List Value := (L.map St.cells).flatten
theorem stCells_cons (t : St) (L : List St) : stCells (t :: L) = t.cells ++ stCells L := by unfold stCells; simp
theorem stCells_app (L K : List St) : stCells (L ++ K) = stCells L ++ stCells K := by unfold stCells; simp
theorem stCells_len (L : List St) : (stCells L).length = L.length * 9 := by
  induction L with
  | nil => rfl
  | cons t L ih => rw [stCells_cons, List.length_append, ih, List.length_cons, Nat.succ_mul]; show 9 + _ = _; omega
theorem stCells_one (L : List St) : ∀ u ∈ stCells L, u.oneCell' = true := by
  intro u hu
  unfold stCells at hu
  rw [List.mem_flatten] at hu
  obtain ⟨l, hl, hu⟩ := hu
  obtain ⟨t, _, rfl⟩ := List.mem_map.1 hl
  simp [St.cells] at hu
  rcases hu with rfl | rfl | rfl | rfl | rfl | rfl | rfl | rfl | rfl <;> rfl
theorem stCells_at (L : List St) (j k : Nat) (h : j < L.length) (hk : k < 9) : (stCells L)[j * 9 + k]? = L[j].cells[k]? := by
  induction L generalizing j with
  | nil => simp at h
  | cons t L ih =>
    have hl : t.cells.length = 9 := rfl
    rw [stCells_cons]
    cases j with
    | zero => rw [List.getElem?_append_left (by rw [hl]; omega)]; simp
    | succ j =>
      rw [List.getElem?_append_right (by rw [hl]; omega), hl, show (j + 1) * 9 + k - 9 = j * 9 + k from by omega]
      exact ih j (by simpa using h)
/-- A slice value's place that reads as statements. -/
def StAt (w : World) (A : Option Addr) (L : List St) : Prop :=
  0 < L.length → ∃ g o, A = some ⟨g, o, none⟩ ∧ g < w.heap.size ∧ ∀ j u, (stCells L)[j]? = some u → w.cell? ⟨g, o + j, none⟩ = some u
theorem StAt.below {w w' : World} {A : Option Addr} {L : List St} (h : StAt w A L) (hb : Below w.heap.size w w') : StAt w' A L := fun hp => by
  obtain ⟨g, o, hA, hg, hc⟩ := h hp
  exact ⟨g, o, hA, Nat.lt_of_lt_of_le hg hb.size, fun j u hu => (hb.cell (p := ⟨g, o + j, none⟩) hg).trans (hc j u hu)⟩
theorem StAt.of_own {w : World} {B : Nat} {e : TypeId} {v : Value} {L : List St} (h : w.ownsRow B e 9 v L.length (stCells L)) : ∃ A cap, v = .slice A L.length cap ∧ L.length ≤ cap ∧ StAt w A L := by
  rcases h.2 with ⟨rfl, h0⟩ | ⟨g, cap, cur, rfl, hB, hh, hc, hm, hs, ht⟩
  · exact ⟨none, 0, by rw [h0], by omega, fun hp => by omega⟩
  · refine ⟨_, _, rfl, hc, fun hp => ⟨g, 0, rfl, ?_, fun j u hu => ?_⟩⟩
    · exact (h.lt g rfl).2
    · have hj : j < (stCells L).length := by
        rcases Nat.lt_or_ge j (stCells L).length with h | h
        · exact h
        · rw [List.getElem?_eq_none h] at hu; cases hu
      rw [stCells_len] at hj
      rw [← ht, List.getElem?_take_of_lt (by omega)] at hu
      rw [Nat.zero_add, Lib.cell_of_heap hh, ← Array.getElem?_toList]
      exact hu
/-- Its nine cells. -/
theorem StAt.nine {w : World} {A : Option Addr} {L : List St} (h : StAt w A L) (j : Nat) (hj : j < L.length) : ∃ g o, A = some ⟨g, o, none⟩ ∧ g < w.heap.size ∧ ∀ k u, L[j].cells[k]? = some u → w.cell? ⟨g, o + (j * 9 + k), none⟩ = some u := by
  obtain ⟨g, o, hA, hg, hc⟩ := h (by omega)
  refine ⟨g, o, hA, hg, fun k u hu => ?_⟩
  have hk : k < 9 := by
    rcases Nat.lt_or_ge k 9 with h | h
    · exact h
    · rw [List.getElem?_eq_none (by show 9 ≤ k; exact h)] at hu; cases hu
  exact hc _ u ((stCells_at L j k hj hk).trans hu)
theorem infoSt : (Try.prog.info? 25).map (fun i => (i.zero, i.size, i.bytes)) = some (some zeroS.val, 9, 136) := by kernel_rfl
def ClonePost (L : List St) (w : World) (e : Ending) (w' : World) : Prop := ∃ v, e = .returned v ∧ w'.ownsRow w.heap.size 25 9 v L.length (stCells L) ∧ Below w.heap.size w w'
set_option maxRecDepth 100000 in
theorem cloneSt (A : Option Addr) (ca : Nat) (L : List St) (w : World) (hL : L.length ≤ 10000) (hA : StAt w A L) : Calls Try.prog 42 #[.slice A L.length ca] w (ClonePost L w) := by
  obtain ⟨i0, hi, hz0, hz1, hz2⟩ := info_parts infoSt
  cases A with
  | none =>
    have : L = [] := by
      rcases Nat.eq_zero_or_pos L.length with h | h
      · exact List.eq_nil_of_length_eq_zero h
      · obtain ⟨g, o, h, _⟩ := hA h; cases h
    subst this
    have es := fun (w : World) (a : Option Addr) (n c : Nat) => Lib.run_eql_slice_nil (P := Try.prog) w 35 25 a n c 0 0 Try.underlying35
    go_enter Try.func42, Try.ntmps42
    go_wp2_with fail
    go_ret
    exact ⟨_, rfl, World.ownsRow_nil _ _ _ _, Below.refl _ _⟩
  | some ad =>
    have hcells : ∀ ad', some ad = some ad' → ∀ j u, (stCells L)[j]? = some u → (w.alloc (.cells #[] 25)).cell? (ad'.add j) = some u := by
      rintro ad' ⟨⟩ j u hu
      have hj : 0 < L.length := by
        rcases Nat.eq_zero_or_pos L.length with h | h
        · have : L = [] := List.eq_nil_of_length_eq_zero h
          subst this; simp [stCells] at hu
        · exact h
      obtain ⟨g, o, h, hg, hc⟩ := hA hj
      injection h with h
      subst h
      rw [add_off, World.cell?_alloc_past _ _ _ hg]
      exact hc j u hu
    have Hc := Lib.hid hcells
    clear hcells hA
    have es := fun (w : World) (a : Option Addr) (n c : Nat) => Lib.run_eql_slice_nil (P := Try.prog) w 35 25 a n c 0 0 Try.underlying35
    go_enter Try.func42, Try.ntmps42
    go_wp2_with (at_builtin; refine wpList_append_from _ rfl _ _ 35 rfl w.heap.size 25 i0 zeroS.val 9 136 Try.underlying35 hi hz0 hz1 hz2 rfl (by decide) _ _ _ rfl (own_empty w _ 9) (some ad) L.length ca (stCells L) rfl (stCells_len L) (fun h => by cases h) Hc.out (stCells_one L) (by unfold maxLen; omega) (by omega) (by simp) ?_)
    intro v' w1 hown hgrow
    have hb : Below w.heap.size w w1 := ((Below.refl _ _).alloc (Nat.le_refl _) _).grown hgrow (by simp) (fun k hk => by simp [Value.ownBlock] at hk; omega)
    go_wp2_with fail
    go_ret
    exact ⟨_, rfl, by simpa using hown, hb⟩
end Go.Proofs.Ytofhiolmaojihaa.SynD2
