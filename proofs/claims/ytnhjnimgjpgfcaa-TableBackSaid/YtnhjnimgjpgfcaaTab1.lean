/- Tables of names: kept, Len, New. -/
import Derived.Test.YtnhjnimgjpgfcaaNamed
import Derived.Test.YtnhjnimgjpgfcaaTabP
import Derived.Test.YtnhjnimgjpgfcaaShelf
import Derived.Lib.OwnBridge
import Derived.Sort.OwnSorted
import Derived.OwnWalk
import Derived.Lib.Builder
import Derived.WalkSmall
namespace Go.Proofs.Ytnhjnimgjpgfcaa.Tab1
open Go.RowKit Go.Sort Go.Proofs Go.Proofs.Ytnhjnimgjpgfcaa.Plain Go.Proofs.Ytnhjnimgjpgfcaa.TabP
/-- A slice of strings that reads as a list of texts, nil let in. -/
def SRow (w : World) (A : Option Addr) (T : List Str) : Prop :=
  0 < T.length → ∃ b off, A = some ⟨b, off, none⟩ ∧ b < w.heap.size ∧ ∀ j, (h : j < T.length) → w.cell? ⟨b, off + j, none⟩ = some (.string ⟨T[j].toArray⟩)
theorem SRow.keep {w w' : World} {A : Option Addr} {T : List Str} (h : SRow w A T) (hb : Below w.heap.size w w') : SRow w' A T := fun hp => by
  obtain ⟨b, off, hA, hg, hc⟩ := h hp
  exact ⟨b, off, hA, Nat.lt_of_lt_of_le hg hb.size, fun j hj => (hb.cell (p := ⟨b, off + j, none⟩) hg).trans (hc j hj)⟩
theorem SRow.drewN {w : World} {A : Option Addr} {T : List Str} (h : SRow w A T) (n : Nat) : SRow (w.drewN n) A T := h
theorem SRow.of_own {w : World} {B : Nat} {e : TypeId} {v : Value} {T : List Str} (h : w.ownsRow B e 1 v T.length (T.map encStr)) : ∃ A c, v = .slice A T.length c ∧ T.length ≤ c ∧ SRow w A T := by
  rcases h.2 with ⟨rfl, h0⟩ | ⟨g, cap, cur, rfl, hB, hh, hc, hm, hs, ht⟩
  · exact ⟨none, 0, by rw [h0], by omega, fun hp => by omega⟩
  · refine ⟨_, _, rfl, hc, fun hp => ⟨g, 0, rfl, (h.lt g rfl).2, fun j hj => ?_⟩⟩
    have e1 : (T.map encStr)[j]? = some (.string ⟨T[j].toArray⟩) := by
      rw [List.getElem?_map, List.getElem?_eq_getElem hj]; rfl
    rw [← ht, List.getElem?_take_of_lt (by omega)] at e1
    rw [Lib.cell_of_heap hh, Nat.zero_add, ← Array.getElem?_toList]
    exact e1
/-- The table object p, made at or after block B, has the texts T. -/
def TabAt (w : World) (B : Nat) (p : Value) (T : List Str) : Prop :=
  ∃ t v, p = .pointer (some ⟨t, 0, none⟩) ∧ B ≤ t ∧ w.heap[t]? = some (.cells #[v] 89 (0, 0)) ∧ w.ownsRow B 9 1 v T.length (T.map encStr)
theorem kept_nil (w : World) : Calls Try.prog 40 #[.pointer none] w fun e w' => e = .returned (.slice none 0 0) ∧ w = w' := by
  go_enter Try.func40, Try.ntmps40
  go_wp2
  go_ret
  exact ⟨rfl, rfl⟩
theorem kept (w : World) (t : Nat) (v : Value) (h : w.cell? ⟨t, 0, none⟩ = some v) : Calls Try.prog 40 #[.pointer (some ⟨t, 0, none⟩)] w fun e w' => e = .returned v ∧ w = w' := by
  go_enter Try.func40, Try.ntmps40
  go_wp2
  go_ret
  exact ⟨rfl, rfl⟩
theorem len_nil (w : World) : Calls Try.prog 17 #[.pointer none] w fun e w' => e = .returned (.int .i64 0) ∧ w = w' := by
  go_enter Try.func17, Try.ntmps17
  go_wp2_with (go_at_call 40; refine (kept_nil _).mono ?_; rintro e w' ⟨rfl, rfl⟩)
  go_ret
  exact ⟨rfl, rfl⟩
theorem len (w : World) (t : Nat) (A : Option Addr) (n c : Nat) (h : w.cell? ⟨t, 0, none⟩ = some (.slice A n c)) : Calls Try.prog 17 #[.pointer (some ⟨t, 0, none⟩)] w fun e w' => e = .returned (.int .i64 n) ∧ w = w' := by
  go_enter Try.func17, Try.ntmps17
  go_wp2_with (go_at_call 40; refine (kept _ _ _ h).mono ?_; rintro e w' ⟨rfl, rfl⟩)
  go_ret
  exact ⟨rfl, rfl⟩
def NewPost (ss : List Str) (w : World) (e : Ending) (w' : World) : Prop := ∃ p, e = .returned p ∧ TabAt w' w.heap.size p (tab ss) ∧ Below w.heap.size w w'
theorem tab_nil : tab [] = [] := by unfold tab srt; simp [Lib.compact, Lib.compactUpTo]
theorem new_nil (n : Nat) (c : Nat) (w : World) : Calls Try.prog 33 #[.slice none n c] w (NewPost [] w) := by
  go_enter Try.func33, Try.ntmps33
  go_wp2_with (first | (go_at_call 48; refine (Try.slices_Clone_string_nil _ _ _).mono ?_; rintro e w' ⟨rfl, rfl⟩) | (go_at_call 54; refine (Try.slices_Sort_string_none _ _ _).mono ?_; rintro e w' ⟨rfl, rfl⟩) | (go_at_call 55; refine (Try.slices_Compact_string_empty _ _ _).mono ?_; rintro e w' ⟨rfl, rfl⟩))
  go_ret
  exact ⟨_, rfl, ⟨_, _, rfl, Nat.le_refl _, heap_alloc_new _ _, by rw [tab_nil]; exact World.ownsRow_nil _ _ _ _⟩, (Below.refl _ _).alloc (Nat.le_refl _) _⟩
theorem srt_len (ls : List Str) : (srt ls).length = ls.length := List.length_mergeSort ..
theorem own_lt {w : World} {B : Nat} {e : TypeId} {g n c : Nat} {xs : List Value} (h : w.ownsRow B e 1 (.slice (some ⟨g, 0, none⟩) n c) n xs) : B ≤ g ∧ g < w.heap.size := h.lt g rfl
theorem sortC (B g n c : Nat) (ls : List Str) (w : World) (h : w.ownsRow B 9 1 (.slice (some ⟨g, 0, none⟩) n c) n (ls.map encStr)) (hn : n ≤ 1000000) :
    Calls Try.prog 54 #[.slice (some ⟨g, 0, none⟩) n c] w fun e w' => e = .returned (.tuple #[]) ∧ w'.ownsRow B 9 1 (.slice (some ⟨g, 0, none⟩) n c) n ((srt ls).map encStr) ∧ Below B w w' := by
  obtain ⟨g', cap', e1, hg, hlt, hnc, hm, hl, hH⟩ := Lib.holds_of_ownsRow h (by simp)
  injection e1 with e1 _ e3
  injection e1 with e1
  injection e1 with e1
  subst e1; subst e3
  obtain ⟨cur, hb, hs⟩ : ∃ cur, w.heap[g]? = some (.cells cur 9 (0, 0)) ∧ cur.size = c * 1 := by
    rcases h.2 with ⟨e0, _⟩ | ⟨g'', cap'', cur, e0, _, hh, _, _, hs, _⟩
    · simp at e0
    · injection e0 with e1 _ e3
      injection e1 with e1
      injection e1 with e1
      subst e1; subst e3
      exact ⟨cur, hh, hs⟩
  subst hl
  refine (Try.slices_Sort_string g 0 c ls w hH hlt (by omega)).mono ?_
  rintro e w' ⟨rfl, q, os, rfl⟩
  refine ⟨rfl, ownsRow_sorted (srt_len ls) hg hb hnc hm hs, (Below.refl B w).grown (grownBy_sorted _) (by omega) (fun k hk => by injection hk with hk; omega)⟩
theorem compactC (B g n c : Nat) (ls : List Str) (w : World) (h : w.ownsRow B 9 1 (.slice (some ⟨g, 0, none⟩) n c) n (ls.map encStr)) (hn : n ≤ 1000000) :
    Calls Try.prog 55 #[.slice (some ⟨g, 0, none⟩) n c] w fun e w' => ∃ v, e = .returned v ∧ w'.ownsRow B 9 1 v (Lib.compact ls).length ((Lib.compact ls).map encStr) ∧ Below B w w' := by
  obtain ⟨g', cap', e1, hg, hlt, hnc, hm, hl, hH⟩ := Lib.holds_of_ownsRow h (by simp)
  injection e1 with e1 _ e3
  injection e1 with e1
  injection e1 with e1
  subst e1; subst e3
  subst hl
  refine (Try.slices_Compact_string g 0 c ls w hH (by omega) (by omega)).mono ?_
  rintro e w' ⟨rfl, q, rfl⟩
  have hle := Lib.compact_length_le ls
  have h2 := Lib.ownsRow_putRow (q := q) (k := (Lib.compact ls).length) (ys := Lib.compact ls ++ List.replicate (ls.length - (Lib.compact ls).length) []) h (by simp; omega) hle
  rw [List.take_left] at h2
  exact ⟨_, rfl, h2, Lib.below_putRow (Below.refl B w) hg⟩
theorem own_slice {w : World} {B : Nat} {e : TypeId} {v : Value} {n : Nat} {xs : List Value} (h : w.ownsRow B e 1 v n xs) (hv : v ≠ .slice none 0 0) : ∃ g c, v = .slice (some ⟨g, 0, none⟩) n c := by
  rcases h.2 with ⟨e0, _⟩ | ⟨g, c, cur, e0, _⟩
  · exact absurd e0 hv
  · exact ⟨g, c, e0⟩
theorem own_form {w : World} {B : Nat} {e : TypeId} {size : Nat} {v : Value} {n : Nat} {xs : List Value} (h : w.ownsRow B e size v n xs) : ∃ A n c, v = .slice A n c := by
  rcases h.2 with ⟨e0, _⟩ | ⟨g, c, cur, e0, _⟩ <;> exact ⟨_, _, _, e0⟩
theorem new_own (args : Value) (ss : List Str) (w : World) (hn : ss.length ≤ 1000000)
    (hclone : Calls Try.prog 48 #[args] w fun e w' => ∃ v, e = .returned v ∧ w'.ownsRow w.heap.size 9 1 v ss.length (ss.map encStr) ∧ v ≠ .slice none 0 0 ∧ Below w.heap.size w w') :
    Calls Try.prog 33 #[args] w (NewPost ss w) := by
  have H := Lib.hid hclone
  clear hclone
  go_enter Try.func33, Try.ntmps33
  go_wp2_with (go_at_call 48; refine H.out.mono ?_)
  rintro e w1 ⟨v, rfl, hown, hv, hb1⟩
  obtain ⟨g, c, rfl⟩ := own_slice hown hv
  go_wp2_with (go_at_call 54; refine (sortC w.heap.size g _ c _ _ hown hn).mono ?_)
  rintro e w2 ⟨rfl, hown2, hb2⟩
  go_wp2_with (go_at_call 55; refine (compactC w.heap.size g _ c _ _ hown2 hn).mono ?_)
  rintro e w3 ⟨v3, rfl, hown3, hb3⟩
  have hb4 := (hb1.trans hb2).trans hb3
  clear hown hown2 hb1 hb2 hb3 hv
  obtain ⟨A3, n3, c3, rfl⟩ := own_form hown3
  go_wp2
  go_ret
  exact ⟨_, rfl, ⟨_, _, rfl, hb4.size, heap_alloc_new _ _, hown3.alloc _⟩, hb4.alloc hb4.size _⟩
def enB (l : Str) : ByteArray := ⟨l.toArray⟩
theorem map_enB (ss : List Str) : (ss.map enB).map Value.string = ss.map encStr := by
  rw [List.map_map]; rfl
theorem new (A : Option Addr) (c : Nat) (ss : List Str) (w : World) (hn : ss.length ≤ 1000000) (h : SRow w A ss) : Calls Try.prog 33 #[.slice A ss.length c] w (NewPost ss w) := by
  rcases A with _ | ad
  · have : ss = [] := by
      cases ss with
      | nil => rfl
      | cons a l => obtain ⟨_, _, e, _⟩ := h (by simp); cases e
    subst this
    exact new_nil _ _ _
  · by_cases h0 : 0 < ss.length
    · obtain ⟨b, off, e, _, hc⟩ := h h0
      injection e with e
      subst e
      refine new_own _ ss w hn ?_
      have := Try.slices_Clone_string b off ss.length c (ss.map enB) w (by simp) (by omega) (fun j hj => by
        rw [List.length_map] at hj
        rw [hc j hj, List.getD_eq_getElem?_getD, List.getElem?_map, List.getElem?_eq_getElem hj]; rfl)
      rw [List.take_of_length_le (by simp), map_enB] at this
      exact this
    · have : ss = [] := List.eq_nil_of_length_eq_zero (by omega)
      subst this
      refine new_own _ [] w (by simp) ?_
      exact Try.slices_Clone_string_zero ad c w
end Go.Proofs.Ytnhjnimgjpgfcaa.Tab1
