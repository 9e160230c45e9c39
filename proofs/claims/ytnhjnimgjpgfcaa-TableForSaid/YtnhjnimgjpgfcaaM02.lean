/- Tables of names: kept, Len, New. -/
import Derived.Test.YtnhjnimgjpgfcaaM01
import Derived.Test.YtnhjnimgjpgfcaaShelf
import Derived.Lib.OwnBridge
import Derived.Sort.OwnSorted
import Derived.OwnWalk
import Derived.Lib.Builder
import Derived.WalkSmall
import Derived.Deep.QuietTactic
import Derived.BigQuiet
import Derived.WalkLawsBesides
import Derived.Sort.Walk0
import Derived.IntWalk
import Derived.Lib.ItoaLen
import Derived.Laws.BytesArg
import Derived.Lib.AppendZeros
import Derived.WalkKit
import Derived.Below
import Derived.Sort.Grow
import Derived.Shelf.SlSortCmp.QuietGrown
namespace Go.Proofs.Ytnhjnimgjpgfcaa.Tab1
set_option linter.unusedVariables false
set_option linter.unusedSimpArgs false
open Go.RowKit Go.Sort Go.Proofs Go.Proofs.Ytnhjnimgjpgfcaa.Plain Go.Proofs.Ytnhjnimgjpgfcaa.TabP
/-- A slice of strings that reads as a list of texts, nil let in. -/
def SRow (w : World) (A : Option Addr) (T : List Str) : Prop :=
  0 < T.length → ∃ b off, A = some ⟨b, off, none⟩ ∧ b < w.heap.size ∧ ∀ j, (h : j < T.length) → w.cell? ⟨b, off + j, none⟩ = some (.string ⟨T[j].toArray⟩)
theorem SRow.keep {w w' : World} {A : Option Addr} {T : List Str} (h : SRow w A T) (hb : Below w.heap.size w w') : SRow w' A T := fun hp => by
  obtain ⟨b, off, hA, hg, hc⟩ := h hp
  exact ⟨b, off, hA, Nat.lt_of_lt_of_le hg hb.size, fun j hj => (hb.cell (p := ⟨b, off + j, none⟩) hg).trans (hc j hj)⟩
theorem SRow.drewN {w : World} {A : Option Addr} {T : List Str} (h : SRow w A T) (n : Nat) : SRow (w.drewN n) A T := h
theorem SRow.of_own {w : World} {B : Nat} {e : TypeId} {v : Value} {T : List Str} (h : w.ownsRow B e 1 v T.length (T.map encStr)) : ∃ A c, v = .slice A T.length c ∧ T.length ≤ c ∧ SRow w A T := by
  rcases h.2 with ⟨rfl, h0⟩ | ⟨g, cap, cur, rfl, hB, hh, hc, hm, hs, ht⟩
  · exact ⟨none, 0, by rw [h0], by omega, fun hp => by omega⟩
  · refine ⟨_, _, rfl, hc, fun hp => ⟨g, 0, rfl, (h.lt g rfl).2, fun j hj => ?_⟩⟩
    have e1 : (T.map encStr)[j]? = some (.string ⟨T[j].toArray⟩) := by
      rw [List.getElem?_map, List.getElem?_eq_getElem hj]; rfl
    rw [← ht, List.getElem?_take_of_lt (by omega)] at e1
    rw [Lib.cell_of_heap hh, Nat.zero_add, ← Array.getElem?_toList]
    exact e1
/-- The table object p, made at or after block B, has the texts T. -/
def TabAt (w : World) (B : Nat) (p : Value) (T : List Str) : Prop :=
  ∃ t v, p = .pointer (some ⟨t, 0, none⟩) ∧ B ≤ t ∧ w.heap[t]? = some (.cells #[v] 89 (0, 0)) ∧ w.ownsRow B 9 1 v T.length (T.map encStr)
theorem kept_nil (w : World) : Calls Try.prog 40 #[.pointer none] w fun e w' => e = .returned (.slice none 0 0) ∧ w = w' := by
  go_enter Try.func40, Try.ntmps40
  go_wp2
  go_ret
  exact ⟨rfl, rfl⟩
theorem kept (w : World) (t : Nat) (v : Value) (h : w.cell? ⟨t, 0, none⟩ = some v) : Calls Try.prog 40 #[.pointer (some ⟨t, 0, none⟩)] w fun e w' => e = .returned v ∧ w = w' := by
  go_enter Try.func40, Try.ntmps40
  go_wp2
  go_ret
  exact ⟨rfl, rfl⟩
theorem len_nil (w : World) : Calls Try.prog 17 #[.pointer none] w fun e w' => e = .returned (.int .i64 0) ∧ w = w' := by
  go_enter Try.func17, Try.ntmps17
  go_wp2_with (go_at_call 40; refine (kept_nil _).mono ?_; rintro e w' ⟨rfl, rfl⟩)
  go_ret
  exact ⟨rfl, rfl⟩
theorem len (w : World) (t : Nat) (A : Option Addr) (n c : Nat) (h : w.cell? ⟨t, 0, none⟩ = some (.slice A n c)) : Calls Try.prog 17 #[.pointer (some ⟨t, 0, none⟩)] w fun e w' => e = .returned (.int .i64 n) ∧ w = w' := by
  go_enter Try.func17, Try.ntmps17
  go_wp2_with (go_at_call 40; refine (kept _ _ _ h).mono ?_; rintro e w' ⟨rfl, rfl⟩)
  go_ret
  exact ⟨rfl, rfl⟩
def NewPost (ss : List Str) (w : World) (e : Ending) (w' : World) : Prop := ∃ p, e = .returned p ∧ TabAt w' w.heap.size p (tab ss) ∧ Below w.heap.size w w'
theorem tab_nil : tab [] = [] := by unfold tab srt; simp [Lib.compact, Lib.compactUpTo]
theorem new_nil (n : Nat) (c : Nat) (w : World) : Calls Try.prog 33 #[.slice none n c] w (NewPost [] w) := by
  go_enter Try.func33, Try.ntmps33
  go_wp2_with (first | (go_at_call 48; refine (Try.slices_Clone_string_nil _ _ _).mono ?_; rintro e w' ⟨rfl, rfl⟩) | (go_at_call 54; refine (Try.slices_Sort_string_none _ _ _).mono ?_; rintro e w' ⟨rfl, rfl⟩) | (go_at_call 55; refine (Try.slices_Compact_string_empty _ _ _).mono ?_; rintro e w' ⟨rfl, rfl⟩))
  go_ret
  exact ⟨_, rfl, ⟨_, _, rfl, Nat.le_refl _, heap_alloc_new _ _, by rw [tab_nil]; exact World.ownsRow_nil _ _ _ _⟩, (Below.refl _ _).alloc (Nat.le_refl _) _⟩
theorem srt_len (ls : List Str) : (srt ls).length = ls.length := List.length_mergeSort ..
theorem own_lt {w : World} {B : Nat} {e : TypeId} {g n c : Nat} {xs : List Value} (h : w.ownsRow B e 1 (.slice (some ⟨g, 0, none⟩) n c) n xs) : B ≤ g ∧ g < w.heap.size := h.lt g rfl
theorem sortC (B g n c : Nat) (ls : List Str) (w : World) (h : w.ownsRow B 9 1 (.slice (some ⟨g, 0, none⟩) n c) n (ls.map encStr)) (hn : n ≤ 1000000) :
    Calls Try.prog 54 #[.slice (some ⟨g, 0, none⟩) n c] w fun e w' => e = .returned (.tuple #[]) ∧ w'.ownsRow B 9 1 (.slice (some ⟨g, 0, none⟩) n c) n ((srt ls).map encStr) ∧ Below B w w' := by
  obtain ⟨g', cap', e1, hg, hlt, hnc, hm, hl, hH⟩ := Lib.holds_of_ownsRow h (by simp)
  injection e1 with e1 _ e3
  injection e1 with e1
  injection e1 with e1
  subst e1; subst e3
  obtain ⟨cur, hb, hs⟩ : ∃ cur, w.heap[g]? = some (.cells cur 9 (0, 0)) ∧ cur.size = c * 1 := by
    rcases h.2 with ⟨e0, _⟩ | ⟨g'', cap'', cur, e0, _, hh, _, _, hs, _⟩
    · simp at e0
    · injection e0 with e1 _ e3
      injection e1 with e1
      injection e1 with e1
      subst e1; subst e3
      exact ⟨cur, hh, hs⟩
  subst hl
  refine (Try.slices_Sort_string g 0 c ls w hH hlt (by omega)).mono ?_
  rintro e w' ⟨rfl, q, os, rfl⟩
  refine ⟨rfl, ownsRow_sorted (srt_len ls) hg hb hnc hm hs, (Below.refl B w).grown (grownBy_sorted _) (by omega) (fun k hk => by injection hk with hk; omega)⟩
theorem compactC (B g n c : Nat) (ls : List Str) (w : World) (h : w.ownsRow B 9 1 (.slice (some ⟨g, 0, none⟩) n c) n (ls.map encStr)) (hn : n ≤ 1000000) :
    Calls Try.prog 55 #[.slice (some ⟨g, 0, none⟩) n c] w fun e w' => ∃ v, e = .returned v ∧ w'.ownsRow B 9 1 v (Lib.compact ls).length ((Lib.compact ls).map encStr) ∧ Below B w w' := by
  obtain ⟨g', cap', e1, hg, hlt, hnc, hm, hl, hH⟩ := Lib.holds_of_ownsRow h (by simp)
  injection e1 with e1 _ e3
  injection e1 with e1
  injection e1 with e1
  subst e1; subst e3
  subst hl
  refine (Try.slices_Compact_string g 0 c ls w hH (by omega) (by omega)).mono ?_
  rintro e w' ⟨rfl, q, rfl⟩
  have hle := Lib.compact_length_le ls
  have h2 := Lib.ownsRow_putRow (q := q) (k := (Lib.compact ls).length) (ys := Lib.compact ls ++ List.replicate (ls.length - (Lib.compact ls).length) []) h (by simp; omega) hle
  rw [List.take_left] at h2
  exact ⟨_, rfl, h2, Lib.below_putRow (Below.refl B w) hg⟩
theorem own_slice {w : World} {B : Nat} {e : TypeId} {v : Value} {n : Nat} {xs : List Value} (h : w.ownsRow B e 1 v n xs) (hv : v ≠ .slice none 0 0) : ∃ g c, v = .slice (some ⟨g, 0, none⟩) n c := by
  rcases h.2 with ⟨e0, _⟩ | ⟨g, c, cur, e0, _⟩
  · exact absurd e0 hv
  · exact ⟨g, c, e0⟩
theorem own_form {w : World} {B : Nat} {e : TypeId} {size : Nat} {v : Value} {n : Nat} {xs : List Value} (h : w.ownsRow B e size v n xs) : ∃ A n c, v = .slice A n c := by
  rcases h.2 with ⟨e0, _⟩ | ⟨g, c, cur, e0, _⟩ <;> exact ⟨_, _, _, e0⟩
theorem new_own (args : Value) (ss : List Str) (w : World) (hn : ss.length ≤ 1000000)
    (hclone : Calls Try.prog 48 #[args] w fun e w' => ∃ v, e = .returned v ∧ w'.ownsRow w.heap.size 9 1 v ss.length (ss.map encStr) ∧ v ≠ .slice none 0 0 ∧ Below w.heap.size w w') :
    Calls Try.prog 33 #[args] w (NewPost ss w) := by
  have H := Lib.hid hclone
  clear hclone
  go_enter Try.func33, Try.ntmps33
  go_wp2_with (go_at_call 48; refine H.out.mono ?_)
  rintro e w1 ⟨v, rfl, hown, hv, hb1⟩
  obtain ⟨g, c, rfl⟩ := own_slice hown hv
  go_wp2_with (go_at_call 54; refine (sortC w.heap.size g _ c _ _ hown hn).mono ?_)
  rintro e w2 ⟨rfl, hown2, hb2⟩
  go_wp2_with (go_at_call 55; refine (compactC w.heap.size g _ c _ _ hown2 hn).mono ?_)
  rintro e w3 ⟨v3, rfl, hown3, hb3⟩
  have hb4 := (hb1.trans hb2).trans hb3
  clear hown hown2 hb1 hb2 hb3 hv
  obtain ⟨A3, n3, c3, rfl⟩ := own_form hown3
  go_wp2
  go_ret
  exact ⟨_, rfl, ⟨_, _, rfl, hb4.size, heap_alloc_new _ _, hown3.alloc _⟩, hb4.alloc hb4.size _⟩
def enB (l : Str) : ByteArray := ⟨l.toArray⟩
theorem map_enB (ss : List Str) : (ss.map enB).map Value.string = ss.map encStr := by
  rw [List.map_map]; rfl
theorem new (A : Option Addr) (c : Nat) (ss : List Str) (w : World) (hn : ss.length ≤ 1000000) (h : SRow w A ss) : Calls Try.prog 33 #[.slice A ss.length c] w (NewPost ss w) := by
  rcases A with _ | ad
  · have : ss = [] := by
      cases ss with
      | nil => rfl
      | cons a l => obtain ⟨_, _, e, _⟩ := h (by simp); cases e
    subst this
    exact new_nil _ _ _
  · by_cases h0 : 0 < ss.length
    · obtain ⟨b, off, e, _, hc⟩ := h h0
      injection e with e
      subst e
      refine new_own _ ss w hn ?_
      have := Try.slices_Clone_string b off ss.length c (ss.map enB) w (by simp) (by omega) (fun j hj => by
        rw [List.length_map] at hj
        rw [hc j hj, List.getD_eq_getElem?_getD, List.getElem?_map, List.getElem?_eq_getElem hj]; rfl)
      rw [List.take_of_length_le (by simp), map_enB] at this
      exact this
    · have : ss = [] := List.eq_nil_of_length_eq_zero (by omega)
      subst this
      refine new_own _ [] w (by simp) ?_
      exact Try.slices_Clone_string_zero ad c w
end Go.Proofs.Ytnhjnimgjpgfcaa.Tab1
/- Where a text is in a table: Find. -/
namespace Go.Proofs.Ytnhjnimgjpgfcaa.Tab2
set_option linter.unusedVariables false
set_option linter.unusedSimpArgs false
open Go.RowKit Go.Sort Go.Proofs Go.Proofs.Ytnhjnimgjpgfcaa.Plain Go.Proofs.Ytnhjnimgjpgfcaa.Tab1 Go.Proofs.Ytnhjnimgjpgfcaa.TabP
set_option maxRecDepth 100000 in
theorem closure (lb sb g off n c k : Nat) (x s : ByteArray) (w : World) (hk : k < n) (hl : w.cell? ⟨lb, 0, none⟩ = some (.slice (some ⟨g, off, none⟩) n c)) (hs : w.cell? ⟨sb, 0, none⟩ = some (.string s)) (hx : w.cell? ⟨g, off + k, none⟩ = some (.string x)) :
    Calls Try.prog 62 #[.int .i64 k, .pointer (some ⟨lb, 0, none⟩), .pointer (some ⟨sb, 0, none⟩)] w fun e w' => e = .returned (.bool (!Op.bytesLess x.toList s.toList)) ∧ ∃ m, w' = w.drewN m := by
  go_enter Try.func62, Try.ntmps62
  go_wp2_with fail
  go_quiet (fail)
  go_wp2
  go_ret
  exact ⟨rfl, _, rfl⟩
def SearchPost (T : List Str) (s : Str) (w : World) (e : Ending) (w' : World) : Prop :=
  ∃ a : Nat, e = .returned (.int .i64 a) ∧ a ≤ T.length ∧ (∀ k, (h : k < T.length) → k < a → T[k] < s) ∧ (∀ k, (h : k < T.length) → a ≤ k → ¬ T[k] < s) ∧ ∃ m, w' = w.drewN m
theorem mid_cast (a b : Nat) : (((a : Int) + (b : Int)) / 2) = (((a + b) / 2 : Nat) : Int) := by omega
set_option maxRecDepth 100000 in
theorem search (lb sb c : Nat) (A : Option Addr) (T : List Str) (s : ByteArray) (w : World) (hn : T.length ≤ 1000000) (hsorted : T.Pairwise (· < ·))
    (hl : w.cell? ⟨lb, 0, none⟩ = some (.slice A T.length c)) (hs : w.cell? ⟨sb, 0, none⟩ = some (.string s)) (hT : SRow w A T) :
    Calls Try.prog 61 #[.int .i64 T.length, .func (.func 62) #[] #[.pointer (some ⟨lb, 0, none⟩), .pointer (some ⟨sb, 0, none⟩)]] w (SearchPost T s.toList w) := by
  have HT := Lib.hid hT
  have HS := Lib.hid hsorted
  clear hT hsorted
  go_enter Try.func61, Try.ntmps61
  go_wp2_with fail
  go_loopw [5, 6] (fun i j wr => ∃ a b : Nat, a ≤ b ∧ b ≤ T.length ∧ i = .int .i64 a ∧ j = .int .i64 b ∧ Hid (∀ k, (h : k < T.length) → k < a → T[k] < s.toList) ∧ Hid (∀ k, (h : k < T.length) → b ≤ k → ¬ T[k] < s.toList) ∧ ∃ m, wr = w.drewN m) (fun i j _ => (intOf j).toNat - (intOf i).toNat)
  case atStart => exact ⟨0, T.length, by omega, by omega, rfl, rfl, Lib.hid fun k _ h => by omega, Lib.hid fun k h1 h2 => by omega, 0, rfl⟩
  case round =>
    obtain ⟨a, b, hab, hb, rfl, rfl, hlo, hhi, m, rfl⟩ := hrel
    by_cases h : a < b
    · have hkT : (a + b) / 2 < T.length := by omega
      obtain ⟨g, off, rfl, hg, hc⟩ := HT.out (by omega)
      have hx := hc ((a + b) / 2) hkT
      have Hle := Lib.hid (show ∀ i j, (h1 : i < T.length) → (h2 : j < T.length) → i < j → T[i] < T[j] from fun i j h1 h2 hij => List.pairwise_iff_getElem.1 HS.out i j h1 h2 hij)
      clear hc
      cases hlt : Op.bytesLess T[(a + b) / 2] s.toList
      · have hnew : Hid (∀ k, (h : k < T.length) → (a + b) / 2 ≤ k → ¬ T[k] < s.toList) := Lib.hid fun k hk h1 h2 => by
          rw [bytesLess_eq, decide_eq_false_iff_not] at hlt
          by_cases e : (a + b) / 2 = k
          · subst e; exact hlt h2
          · exact hlt (List.lt_trans (Hle.out _ _ hkT hk (by omega)) h2)
        clear hhi
        go_wp2_with fail
        rw [mid_cast]
        refine (closure lb sb g off T.length c ((a + b) / 2) _ s (w.drewN m) hkT hl hs hx).mono ?_
        rintro e w' ⟨rfl, m', rfl⟩
        go_wp2_with fail
        go_roundw
        case rel => exact ⟨a, (a + b) / 2, by omega, by omega, rfl, by go_num, hlo, hnew, _, rfl⟩
        case measure => simp [intOf]; omega
      · have hnew : Hid (∀ k, (h : k < T.length) → k < (a + b) / 2 + 1 → T[k] < s.toList) := Lib.hid fun k hk h1 => by
          rw [bytesLess_eq, decide_eq_true_iff] at hlt
          by_cases e : (a + b) / 2 = k
          · subst e; exact hlt
          · exact List.lt_trans (Hle.out _ _ hk hkT (by omega)) hlt
        clear hlo
        go_wp2_with fail
        rw [mid_cast]
        refine (closure lb sb g off T.length c ((a + b) / 2) _ s (w.drewN m) hkT hl hs hx).mono ?_
        rintro e w' ⟨rfl, m', rfl⟩
        go_wp2_with fail
        go_roundw
        case rel => exact ⟨(a + b) / 2 + 1, b, by omega, by omega, by go_num, rfl, hnew, hhi, _, rfl⟩
        case measure => simp [intOf]; omega
    · have e : a = b := by omega
      have hfin : Hid (∀ k, (h : k < T.length) → a ≤ k → ¬ T[k] < s.toList) := Lib.hid fun k hk h1 => hhi.out k hk (by omega)
      clear e hhi
      go_wp2_with fail
      go_ret
      exact ⟨a, rfl, by omega, hlo.out, hfin.out, _, rfl⟩
/-- The place of a text, -1 if it is not in. -/
def findI (T : List Str) (s : Str) : Int := if s ∈ T then ((T.idxOf s : Nat) : Int) else -1
theorem findI_hit {T : List Str} {s : Str} (hs : T.Pairwise (· < ·)) {a : Nat} (h : a < T.length) (e : T[a] = s) : findI T s = a := by
  have hm : s ∈ T := by rw [← e]; exact List.getElem_mem _
  unfold findI
  rw [if_pos hm]
  have hlt := List.idxOf_lt_length_iff.2 hm
  have h1 : T[T.idxOf s] = s := List.getElem_idxOf hlt
  have hp := List.pairwise_iff_getElem.1 hs
  rcases Nat.lt_trichotomy (T.idxOf s) a with h2 | h2 | h2
  · have := hp _ _ hlt h h2
    rw [h1, e] at this
    exact absurd this (List.lt_irrefl _)
  · rw [h2]
  · have := hp _ _ h hlt h2
    rw [h1, e] at this
    exact absurd this (List.lt_irrefl _)
theorem findI_miss {T : List Str} {s : Str} (h : s ∉ T) : findI T s = -1 := by unfold findI; rw [if_neg h]
theorem miss_of {T : List Str} {s : Str} (hs : T.Pairwise (· < ·)) {a : Nat} (hlo : ∀ k, (h : k < T.length) → k < a → T[k] < s) (hhi : ∀ k, (h : k < T.length) → a ≤ k → ¬ T[k] < s) (hne : ∀ h : a < T.length, T[a] ≠ s) : s ∉ T := by
  intro hm
  obtain ⟨k, hk, e⟩ := List.getElem_of_mem hm
  rcases Nat.lt_trichotomy k a with h2 | h2 | h2
  · have := hlo k hk h2
    rw [e] at this
    exact List.lt_irrefl _ this
  · subst h2
    exact hne hk e
  · have ha : a < T.length := by omega
    have := List.pairwise_iff_getElem.1 hs _ _ ha hk h2
    rw [e] at this
    exact hhi a ha (Nat.le_refl _) this
def FindPost (T : List Str) (s : Str) (w : World) (e : Ending) (w' : World) : Prop := e = .returned (.int .i64 (findI T s)) ∧ Below w.heap.size w w'
set_option maxHeartbeats 800000 in
set_option maxRecDepth 100000 in
theorem find_row (p : Value) (c : Nat) (A : Option Addr) (T : List Str) (s : ByteArray) (w : World) (hn : T.length ≤ 1000000) (hsorted : T.Pairwise (· < ·)) (hT : SRow w A T)
    (hkept : ∀ w', Below w.heap.size w w' → Calls Try.prog 40 #[p] w' fun e w'' => e = .returned (.slice A T.length c) ∧ w' = w'') :
    Calls Try.prog 39 #[p, .string s] w (FindPost T s.toList w) := by
  have hmf : ∀ (fn : Fn) (first cap : Array Value) (w : World), (Instr.makeFunc fn first cap).run Try.prog w = .ok (.func fn first cap) w := fun _ _ _ _ => rfl
  have HK := Lib.hid hkept
  clear hkept
  have HT := Lib.hid hT
  have HS := Lib.hid hsorted
  clear hT hsorted
  go_enter Try.func39, Try.ntmps39
  go_wp2_with (go_at_call 40; refine (HK.out _ ((Below.refl _ _).alloc (Nat.le_refl _) _)).mono ?_; rintro e w' ⟨rfl, rfl⟩)
  have hcl : ((w.alloc (.cells #[.string s] 9)).alloc (.cells #[.slice A T.length c] 22)).cell? ⟨w.heap.size + 1, 0, none⟩ = some (.slice A T.length c) := by
    rw [World.cell?_alloc_at _ _ _ _ (by simp)]; rfl
  have hcs : ((w.alloc (.cells #[.string s] 9)).alloc (.cells #[.slice A T.length c] 22)).cell? ⟨w.heap.size, 0, none⟩ = some (.string s) := by
    rw [World.cell?_alloc_past _ _ _ (by simp), World.cell?_alloc_at _ _ _ _ rfl]; rfl
  have hb : Below w.heap.size w ((w.alloc (.cells #[.string s] 9)).alloc (.cells #[.slice A T.length c] 22)) := ((Below.refl _ _).alloc (Nat.le_refl _) _).alloc (by simp) _
  have HT2 := Lib.hid (HT.out.keep hb)
  clear HT
  generalize (w.alloc (.cells #[.string s] 9)).alloc (.cells #[.slice A T.length c] 22) = W at *
  refine (search (w.heap.size + 1) w.heap.size c A T s W hn HS.out hcl hcs HT2.out).mono ?_
  rintro e w2 ⟨a, rfl, ha, hlo, hhi, m, rfl⟩
  by_cases hend : a = T.length
  · have hfin : Hid (findI T s.toList = -1) := Lib.hid (findI_miss (miss_of HS.out hlo hhi (fun h => by omega)))
    have he : ((a : Int) == (T.length : Int)) = true := by simp; omega
    clear hlo hhi hend
    go_wp2_with fail
    go_quiet (fail)
    go_wp2
    go_ret
    exact ⟨by rw [hfin.out]; rfl, below_drewN (below_drewN hb _) _⟩
  · have hlt : a < T.length := by omega
    have he : ((a : Int) == (T.length : Int)) = false := by simp; omega
    obtain ⟨g, off, rfl, hg, hc⟩ := HT2.out (by omega)
    have hx := hc a hlt
    clear hc
    by_cases hs : T[a] = s.toList
    · have hfin := Lib.hid (findI_hit HS.out hlt hs)
      have h1 : (T[a] == s.toList) = true := by simpa using hs
      have h2 : (T[a] != s.toList) = false := by simpa using hs
      clear hlo hhi hend hs
      go_wp2_with fail
      go_quiet (fail)
      go_wp2
      go_ret
      exact ⟨by rw [hfin.out]; rfl, below_drewN (below_drewN hb _) _⟩
    · have hfin : Hid (findI T s.toList = -1) := Lib.hid (findI_miss (miss_of HS.out hlo hhi (fun _ => hs)))
      have h1 : (T[a] == s.toList) = false := by simpa using hs
      have h2 : (T[a] != s.toList) = true := by simpa using hs
      clear hlo hhi hend hs
      go_wp2_with fail
      go_quiet (fail)
      go_wp2
      go_ret
      exact ⟨by rw [hfin.out]; rfl, below_drewN (below_drewN hb _) _⟩
theorem find_nil (s : ByteArray) (w : World) : Calls Try.prog 39 #[.pointer none, .string s] w (FindPost [] s.toList w) :=
  find_row _ 0 none [] s w (by simp) (by simp) (fun h => by simp at h) (fun w' _ => kept_nil w')
theorem find (t : Nat) (T : List Str) (A : Option Addr) (c : Nat) (s : ByteArray) (w : World) (hn : T.length ≤ 1000000) (hsorted : T.Pairwise (· < ·)) (hT : SRow w A T) (ht : t < w.heap.size) (h : w.cell? ⟨t, 0, none⟩ = some (.slice A T.length c)) :
    Calls Try.prog 39 #[.pointer (some ⟨t, 0, none⟩), .string s] w (FindPost T s.toList w) :=
  find_row _ c A T s w hn hsorted hT (fun w' hb => kept w' t _ ((hb.cell (p := ⟨t, 0, none⟩) ht).trans h))
end Go.Proofs.Ytnhjnimgjpgfcaa.Tab2
/- Fresh texts, and rows held against each other. -/
namespace Go.Proofs.Ytnhjnimgjpgfcaa.Tab3
set_option linter.unusedVariables false
set_option linter.unusedSimpArgs false
open Go.RowKit Go.Sort Go.Proofs Go.Proofs.Ytnhjnimgjpgfcaa.Plain Go.Proofs.Ytnhjnimgjpgfcaa.Tab1 Go.Proofs.Ytnhjnimgjpgfcaa.Tab2 Go.Proofs.Ytnhjnimgjpgfcaa.TabP
set_option maxRecDepth 100000 in
theorem same (A B : Option Addr) (ca cb : Nat) (T : List Str) (w : World) (hL : T.length ≤ 1000000) (hA : SRow w A T) (hB : SRow w B T) :
    Calls Try.prog 24 #[.slice A T.length ca, .slice B T.length cb] w fun e w' => e = .returned (.bool true) ∧ ∃ n, w' = w.drewN n := by
  go_enter Try.func24, Try.ntmps24
  go_wp2
  go_loopw [13] (fun i wr => ∃ k : Nat, k ≤ T.length ∧ i = .int .i64 k ∧ ∃ n, wr = w.drewN n) (fun i _ => T.length - (intOf i).toNat)
  case atStart => exact ⟨0, by omega, rfl, 0, rfl⟩
  case round =>
    obtain ⟨k, hk, rfl, n, rfl⟩ := hrel
    by_cases hlt : k < T.length
    · obtain ⟨g1, o1, rfl, _, h1⟩ := hA (by omega)
      obtain ⟨g2, o2, rfl, _, h2⟩ := hB (by omega)
      have a1 := h1 k hlt
      have a2 := h2 k hlt
      clear h1 h2 hA hB
      go_wp2_with fail
      go_quiet (fail)
      go_wp2_with fail
      go_roundw
      case rel => exact ⟨k + 1, by omega, by go_num, _, rfl⟩
      case measure => simp [intOf]; omega
    · go_wp2_with fail
      go_ret
      exact ⟨rfl, _, rfl⟩
theorem has (A : Option Addr) (c : Nat) (T : List Str) (s : ByteArray) (w : World) (hL : T.length ≤ 1000000) (hA : SRow w A T) :
    Calls Try.prog 56 #[.slice A T.length c, .string s] w fun e w' => e = .returned (.bool (decide (s.toList ∈ T))) ∧ w = w' := by
  go_enter Try.func56, Try.ntmps56
  go_wp2
  go_loop [9] (fun i => ∃ k : Nat, k ≤ T.length ∧ i = .int .i64 k ∧ Hid (∀ j, (h : j < T.length) → j < k → T[j] ≠ s.toList)) (fun i => T.length - (intOf i).toNat)
  case atStart => exact ⟨0, by omega, rfl, Lib.hid fun j _ h => by omega⟩
  case round =>
    obtain ⟨k, hk, rfl, hall⟩ := hrel
    by_cases hlt : k < T.length
    · obtain ⟨g1, o1, rfl, _, h1⟩ := hA (by omega)
      have a1 := h1 k hlt
      clear h1 hA
      by_cases he : T[k] = s.toList
      · have hin : Hid (decide (s.toList ∈ T) = true) := Lib.hid (decide_eq_true (by rw [← he]; exact List.getElem_mem _))
        have e1 : (T[k] == s.toList) = true := by simpa using he
        clear he hall
        go_wp2_with fail
        go_ret
        exact ⟨ret_bool hin.out.symm, rfl⟩
      · have e1 : (T[k] == s.toList) = false := by simpa using he
        have hnext : Hid (∀ j, (h : j < T.length) → j < k + 1 → T[j] ≠ s.toList) := Lib.hid fun j h hj => by
          by_cases e : j = k
          · subst e; exact he
          · exact hall.out j h (by omega)
        clear he hall
        go_wp2_with fail
        go_round
        case rel => exact ⟨k + 1, by omega, by go_num, hnext⟩
        case measure => simp [intOf]; omega
    · have hin : Hid (decide (s.toList ∈ T) = false) := Lib.hid (decide_eq_false (fun hm => by
        obtain ⟨j, hj, e⟩ := List.getElem_of_mem hm
        exact hall.out j hj (by omega) e))
      clear hall
      go_wp2_with fail
      go_ret
      exact ⟨ret_bool hin.out.symm, rfl⟩
abbrev Pow (w : World) : Prop := Lib.TabIs Try.prog w "internal/strconv.uint64pow10" .u64 Lib.pow10Tab
theorem infoStr : (Try.prog.info? 9).map (fun i => (i.zero, i.size, i.bytes)) = some (some (.string ⟨#[]⟩), 1, 16) := by kernel_rfl
theorem own_keep {w w' : World} {base : Nat} {e : TypeId} {size : Nat} {v : Value} {n : Nat} {xs : List Value} (h : w.ownsRow base e size v n xs) (hb : Below w.heap.size w w') : w'.ownsRow base e size v n xs := by
  refine ⟨h.1, ?_⟩
  rcases h.2 with h0 | ⟨g, cap, cur, rfl, hB, hh, r⟩
  · exact .inl h0
  · exact .inr ⟨g, cap, cur, rfl, hB, (hb.block g (h.lt g rfl).2).trans hh, r⟩
theorem new_cell1 (w : World) (a : Value) (t : TypeId) : ∀ j u, [a][j]? = some u → (w.alloc (.cells #[a] t)).cell? ((⟨w.heap.size, 0, none⟩ : Addr).add j) = some u := by
  intro j u hj
  match j, hj with
  | 0, hj => simp at hj; subst hj; simp [Addr.add]
theorem below_grow (w : World) (os : Array Obj) : Below w.heap.size w (grow w os) :=
  ⟨rfl, rfl, rfl, by simp [grow], fun k hk => heap_grow_old w os hk⟩
theorem itoa_nat (k : Nat) : Lib.itoa ((k : Int) + 1) = Lib.decDigits (k + 1) := by
  unfold Lib.itoa
  rw [if_neg (by omega)]
  rfl
theorem cat_xs (k : Nat) : (⟨#[88]⟩ ++ ⟨(Lib.decDigits k).toArray⟩ : ByteArray) = ⟨(xs k).toArray⟩ := by
  apply ByteArray.ext
  rw [ByteArray.data_append]
  apply Array.ext'
  simp [xs]
theorem findI_ge {T : List Str} {s : Str} (h : s ∈ T) : 0 ≤ findI T s := by unfold findI; rw [if_pos h]; omega
def FreshPost (T : List Str) (n : Int) (w : World) (e : Ending) (w' : World) : Prop :=
  ∃ v, e = .returned v ∧ w'.ownsRow w.heap.size 9 1 v (fr T n (1000 + T.length)).length ((fr T n (1000 + T.length)).map encStr) ∧ Below w.heap.size w w'
end Go.Proofs.Ytnhjnimgjpgfcaa.Tab3
/- The document's own row of texts: Put, New; and what is light. -/
namespace Go.Proofs.Ytnhjnimgjpgfcaa.Tab4
set_option linter.unusedVariables false
set_option linter.unusedSimpArgs false
open Go.RowKit Go.Sort Go.Proofs Go.Proofs.Ytnhjnimgjpgfcaa.Plain Go.Proofs.Ytnhjnimgjpgfcaa.Tab1 Go.Proofs.Ytnhjnimgjpgfcaa.Tab2 Go.Proofs.Ytnhjnimgjpgfcaa.Tab3 Go.Proofs.Ytnhjnimgjpgfcaa.TabP
/-- What Put has made of the first k, and whether it has put the text. -/
def insTo (T : List Str) (s : Str) (k : Nat) : List Str × Bool :=
  (T.take k).foldl (fun a x => if !a.2 && decide (s < x) then (a.1 ++ [s] ++ [x], true) else (a.1 ++ [x], a.2)) ([], false)
theorem insTo_succ {T : List Str} {s : Str} {k : Nat} (h : k < T.length) : insTo T s (k + 1) = (if !(insTo T s k).2 && decide (s < T[k]) then ((insTo T s k).1 ++ [s] ++ [T[k]], true) else ((insTo T s k).1 ++ [T[k]], (insTo T s k).2)) := by
  unfold insTo
  rw [List.take_succ_eq_append_getElem h, List.foldl_append]
  rfl
def insAll (T : List Str) (s : Str) : List Str := if (insTo T s T.length).2 then (insTo T s T.length).1 else (insTo T s T.length).1 ++ [s]
theorem insTo_len (T : List Str) (s : Str) (k : Nat) (hk : k ≤ T.length) : (insTo T s k).1.length ≤ k + 1 ∧ ((insTo T s k).2 = false → (insTo T s k).1.length ≤ k) := by
  induction k with
  | zero => simp [insTo]
  | succ k ih =>
    obtain ⟨h1, h2⟩ := ih (by omega)
    rw [insTo_succ (by omega)]
    split
    · rename_i hc
      have hd : (insTo T s k).2 = false := by
        cases hd : (insTo T s k).2
        · rfl
        · rw [hd] at hc; simp at hc
      have := h2 hd
      simp
      omega
    · simp only [List.length_append, List.length_singleton]
      refine ⟨by omega, fun hd => ?_⟩
      have := h2 hd
      omega
def putL (T : List Str) (s : Str) : List Str := if s ∈ T then T else insAll T s
def PutPost (T : List Str) (s : Str) (B : Nat) (w : World) (e : Ending) (w' : World) : Prop :=
  ∃ v, e = .returned v ∧ w'.ownsRow B 9 1 v (putL T s).length ((putL T s).map encStr) ∧ Below B w w'
theorem enc_toList (s : ByteArray) : encStr s.toList = .string s := by
  show Value.string ⟨s.toList.toArray⟩ = _
  rw [Go.ByteArray.toList_eq]
theorem own_base {w : World} {B B' : Nat} {e : TypeId} {size : Nat} {v : Value} {n : Nat} {xs : List Value} (h : w.ownsRow B e size v n xs) (hB : B' ≤ B) : w.ownsRow B' e size v n xs := by
  refine ⟨h.1, ?_⟩
  rcases h.2 with h0 | ⟨g, cap, cur, rfl, hb, r⟩
  · exact .inl h0
  · exact .inr ⟨g, cap, cur, rfl, Nat.le_trans hB hb, r⟩
theorem own_app {w : World} {B : Nat} {e : TypeId} {v : Value} {L M : List Str} {x : Str} (h : w.ownsRow B e 1 v (L.length + 1) (L.map encStr ++ [encStr x])) (hM : M = L ++ [x]) : w.ownsRow B e 1 v M.length (M.map encStr) := by
  subst hM
  rw [List.length_append, List.map_append]
  exact h
theorem own_app2 {w : World} {B : Nat} {e : TypeId} {v : Value} {L M : List Str} {x y : Str} (h : w.ownsRow B e 1 v (L.length + 1 + 1) (L.map encStr ++ [encStr x, encStr y])) (hM : M = L ++ [x] ++ [y]) : w.ownsRow B e 1 v M.length (M.map encStr) := by
  subst hM
  rw [List.length_append, List.length_append, List.map_append, List.map_append, List.append_assoc]
  exact h
theorem ins_put {T : List Str} {s : Str} {k : Nat} (h : k < T.length) (hd : (insTo T s k).2 = false) (hl : Op.bytesLess s T[k] = true) : insTo T s (k + 1) = ((insTo T s k).1 ++ [s] ++ [T[k]], true) := by
  rw [bytesLess_eq] at hl
  rw [insTo_succ h, if_pos (by rw [hd, hl]; rfl)]
theorem ins_no {T : List Str} {s : Str} {k : Nat} (h : k < T.length) (hd : (insTo T s k).2 = false) (hl : Op.bytesLess s T[k] = false) : insTo T s (k + 1) = ((insTo T s k).1 ++ [T[k]], false) := by
  rw [bytesLess_eq] at hl
  rw [insTo_succ h, if_neg (by rw [hd, hl]; decide), hd]
theorem ins_done {T : List Str} {s : Str} {k : Nat} (h : k < T.length) (hd : (insTo T s k).2 = true) : insTo T s (k + 1) = ((insTo T s k).1 ++ [T[k]], true) := by
  rw [insTo_succ h, if_neg (by rw [hd]; simp), hd]
set_option maxHeartbeats 1000000 in
set_option maxRecDepth 100000 in
theorem put (B : Nat) (A : Option Addr) (c : Nat) (T : List Str) (s : ByteArray) (w : World) (hL : T.length ≤ 100000) (hB : B ≤ w.heap.size) (hown : w.ownsRow B 9 1 (.slice A T.length c) T.length (T.map encStr)) :
    Calls Try.prog 34 #[.slice A T.length c, .string s] w (PutPost T s.toList B w) := by
  obtain ⟨i0, hi, hz0, hz1, hz2⟩ := info_parts infoStr
  have hrow : SRow w A T := by
    obtain ⟨A', c', e, _, h⟩ := SRow.of_own hown
    injection e with e1 _ _
    subst e1
    exact h
  by_cases hin : s.toList ∈ T
  · have hp := Lib.hid (show putL T s.toList = T from by unfold putL; rw [if_pos hin])
    have hd : decide (s.toList ∈ T) = true := decide_eq_true hin
    clear hin
    go_enter Try.func34, Try.ntmps34
    go_wp2_with (go_at_call 56; refine (has A c T s _ (by omega) hrow).mono ?_; rintro e w' ⟨rfl, rfl⟩)
    go_ret
    exact ⟨_, rfl, by rw [hp.out]; exact hown, Below.refl _ _⟩
  · have hp := Lib.hid (show putL T s.toList = insAll T s.toList from by unfold putL; rw [if_neg hin])
    have hd : decide (s.toList ∈ T) = false := decide_eq_false hin
    clear hin
    go_enter Try.func34, Try.ntmps34
    go_wp2_with (go_at_call 56; refine (has A c T s _ (by omega) hrow).mono ?_; rintro e w' ⟨rfl, rfl⟩)
    go_loopw [5, 6, 15] (fun v d i wr => ∃ k : Nat, k ≤ T.length ∧ i = .int .i64 k ∧ d = .bool (insTo T s.toList k).2 ∧ wr.ownsRow w.heap.size 9 1 v (insTo T s.toList k).1.length ((insTo T s.toList k).1.map encStr) ∧ Below w.heap.size w wr) (fun _ _ i _ => T.length - (intOf i).toNat)
    case atStart => exact ⟨0, by omega, rfl, rfl, World.ownsRow_nil _ _ _ _, Below.refl _ _⟩
    case round =>
      obtain ⟨k, hk, rfl, rfl, hown1, hbel⟩ := hrel
      have hlen := (insTo_len T s.toList k hk).1
      by_cases hlt : k < T.length
      ·
        obtain ⟨g, off, rfl, hg, hcell⟩ := hrow (by omega)
        have hx := (hbel.cell (p := ⟨g, off + k, none⟩) hg).trans (hcell k hlt)
        clear hcell
        cases hD : (insTo T s.toList k).2
        · cases hl : Op.bytesLess s.toList T[k]
          · have hn := Lib.hid (ins_no hlt hD hl)
            go_wp2_with (at_builtin; refine wpList_append_own _ rfl (.tmp 30) (.tmp 32) 22 rfl w.heap.size 9 i0 (.string ⟨#[]⟩) 1 16 Try.underlying22 hi hz0 hz1 hz2 rfl (by decide) _ _ _ rfl (hown1.alloc _) ⟨wr.heap.size, 0, none⟩ 1 1 [.string ⟨T[k].toArray⟩] rfl rfl ?c1 ?c2 ?c3 ?c4 ?c5 ?_)
            case c1 => exact new_cell1 _ _ _
            case c2 => intro u hu; simp at hu; subst hu; rfl
            case c3 => unfold maxLen; first | omega | (simp; omega)
            case c4 => first | omega | (simp; omega)
            case c5 => have := hbel.size; simp; omega
            intro v2 w2 hown3 hgrow2 _
            have hbel3 := (hbel.alloc hbel.size _).grown hgrow2 (by have := hbel.size; simp; omega) (fun j hj => (hown1.lt j hj).1)
            have hown4 := own_app hown3 (show (insTo T s.toList (k + 1)).1 = _ ++ [T[k]] from by rw [hn.out])
            clear hown1 hown3 hbel hgrow2
            go_wp2_with fail
            go_roundw
            case rel => exact ⟨k + 1, by omega, by go_num, by rw [hn.out], hown4, hbel3⟩
            case measure => simp [intOf]; omega
          · have hn := Lib.hid (ins_put hlt hD hl)
            go_wp2_with (at_builtin; refine wpList_append_own _ rfl (.tmp 26) (.tmp 28) 22 rfl w.heap.size 9 i0 (.string ⟨#[]⟩) 1 16 Try.underlying22 hi hz0 hz1 hz2 rfl (by decide) _ _ _ rfl (hown1.alloc _) ⟨wr.heap.size, 0, none⟩ 1 1 [.string s] rfl rfl ?c1 ?c2 ?c3 ?c4 ?c5 ?_)
            case c1 => exact new_cell1 _ _ _
            case c2 => intro u hu; simp at hu; subst hu; rfl
            case c3 => unfold maxLen; first | omega | (simp; omega)
            case c4 => first | omega | (simp; omega)
            case c5 => have := hbel.size; simp; omega
            intro v1 w1 hown2 hgrow1 _
            have hbel2 := (hbel.alloc hbel.size _).grown hgrow1 (by have := hbel.size; simp; omega) (fun j hj => (hown1.lt j hj).1)
            rw [← enc_toList] at hown2
            have hown2 := own_app hown2 rfl
            clear hown1 hgrow1
            go_wp2_with (at_builtin; refine wpList_append_own _ rfl (.tmp 30) (.tmp 32) 22 rfl w.heap.size 9 i0 (.string ⟨#[]⟩) 1 16 Try.underlying22 hi hz0 hz1 hz2 rfl (by decide) _ _ _ rfl (hown2.alloc _) ⟨w1.heap.size, 0, none⟩ 1 1 [.string ⟨T[k].toArray⟩] rfl rfl ?c1 ?c2 ?c3 ?c4 ?c5 ?_)
            case c1 => exact new_cell1 _ _ _
            case c2 => intro u hu; simp at hu; subst hu; rfl
            case c3 => unfold maxLen; first | omega | (simp; omega)
            case c4 => first | omega | (simp; omega)
            case c5 => have := hbel2.size; simp; omega
            intro v2 w2 hown3 hgrow2 _
            have hbel3 := (hbel2.alloc hbel2.size _).grown hgrow2 (by have := hbel2.size; simp; omega) (fun j hj => (hown2.lt j hj).1)
            have hown4 := own_app2 hown3 (show (insTo T s.toList (k + 1)).1 = _ ++ [s.toList] ++ [T[k]] from by rw [hn.out])
            clear hown2 hown3 hbel hbel2 hgrow2
            go_wp2_with fail
            go_roundw
            case rel => exact ⟨k + 1, by omega, by go_num, by rw [hn.out], hown4, hbel3⟩
            case measure => simp [intOf]; omega
        · have hn := Lib.hid (ins_done hlt hD)
          go_wp2_with (at_builtin; refine wpList_append_own _ rfl (.tmp 30) (.tmp 32) 22 rfl w.heap.size 9 i0 (.string ⟨#[]⟩) 1 16 Try.underlying22 hi hz0 hz1 hz2 rfl (by decide) _ _ _ rfl (hown1.alloc _) ⟨wr.heap.size, 0, none⟩ 1 1 [.string ⟨T[k].toArray⟩] rfl rfl ?c1 ?c2 ?c3 ?c4 ?c5 ?_)
          case c1 => exact new_cell1 _ _ _
          case c2 => intro u hu; simp at hu; subst hu; rfl
          case c3 => unfold maxLen; first | omega | (simp; omega)
          case c4 => first | omega | (simp; omega)
          case c5 => have := hbel.size; simp; omega
          intro v2 w2 hown3 hgrow2 _
          have hbel3 := (hbel.alloc hbel.size _).grown hgrow2 (by have := hbel.size; simp; omega) (fun j hj => (hown1.lt j hj).1)
          have hown4 := own_app hown3 (show (insTo T s.toList (k + 1)).1 = _ ++ [T[k]] from by rw [hn.out])
          clear hown1 hown3 hbel hgrow2
          go_wp2_with fail
          go_roundw
          case rel => exact ⟨k + 1, by omega, by go_num, by rw [hn.out], hown4, hbel3⟩
          case measure => simp [intOf]; omega
      · have e : k = T.length := by omega
        subst e
        cases hD : (insTo T s.toList T.length).2
        · have hn := Lib.hid (show insAll T s.toList = (insTo T s.toList T.length).1 ++ [s.toList] from by unfold insAll; rw [if_neg (by rw [hD]; decide)])
          go_wp2_with (at_builtin; refine wpList_append_own _ rfl (.tmp 37) (.tmp 39) 22 rfl w.heap.size 9 i0 (.string ⟨#[]⟩) 1 16 Try.underlying22 hi hz0 hz1 hz2 rfl (by decide) _ _ _ rfl (hown1.alloc _) ⟨wr.heap.size, 0, none⟩ 1 1 [.string s] rfl rfl ?c1 ?c2 ?c3 ?c4 ?c5 ?_)
          case c1 => exact new_cell1 _ _ _
          case c2 => intro u hu; simp at hu; subst hu; rfl
          case c3 => unfold maxLen; first | omega | (simp; omega)
          case c4 => first | omega | (simp; omega)
          case c5 => have := hbel.size; simp; omega
          intro v1 w1 hown2 hgrow1 _
          have hbel2 := (hbel.alloc hbel.size _).grown hgrow1 (by have := hbel.size; simp; omega) (fun j hj => (hown1.lt j hj).1)
          rw [← enc_toList] at hown2
          have hown3 := own_app hown2 hn.out
          clear hown1 hown2 hgrow1 hbel
          go_wp2_with fail
          go_ret
          exact ⟨_, rfl, by rw [hp.out]; exact own_base hown3 hB, hbel2.mono hB⟩
        · have hn := Lib.hid (show insAll T s.toList = (insTo T s.toList T.length).1 from by unfold insAll; rw [if_pos hD])
          go_wp2_with fail
          go_ret
          exact ⟨_, rfl, by rw [hp.out, hn.out]; exact own_base hown1 hB, hbel.mono hB⟩
end Go.Proofs.Ytnhjnimgjpgfcaa.Tab4
/- The document's own table and fresh texts: New, Dec, Fresh; what is light. -/
namespace Go.Proofs.Ytnhjnimgjpgfcaa.Tab5
set_option linter.unusedVariables false
set_option linter.unusedSimpArgs false
open Go.RowKit Go.Sort Go.Proofs Go.Proofs.Ytnhjnimgjpgfcaa.Plain Go.Proofs.Ytnhjnimgjpgfcaa.Tab1 Go.Proofs.Ytnhjnimgjpgfcaa.Tab2 Go.Proofs.Ytnhjnimgjpgfcaa.Tab3 Go.Proofs.Ytnhjnimgjpgfcaa.Tab4 Go.Proofs.Ytnhjnimgjpgfcaa.TabP
def newTo (ls : List Str) (k : Nat) : List Str := (ls.take k).foldl putL []
theorem newTo_succ {ls : List Str} {k : Nat} (h : k < ls.length) : newTo ls (k + 1) = putL (newTo ls k) ls[k] := by
  unfold newTo
  rw [List.take_succ_eq_append_getElem h, List.foldl_append]
  rfl
theorem putL_len (T : List Str) (s : Str) : (putL T s).length ≤ T.length + 1 := by
  unfold putL
  split
  · omega
  · have h := insTo_len T s T.length (Nat.le_refl _)
    unfold insAll
    split
    · exact h.1
    · rename_i hd
      have := h.2 (by simpa using hd)
      simp; omega
theorem newTo_len (ls : List Str) (k : Nat) (h : k ≤ ls.length) : (newTo ls k).length ≤ k := by
  induction k with
  | zero => simp [newTo]
  | succ k ih =>
    rw [newTo_succ (by omega)]
    have := ih (by omega)
    have := putL_len (newTo ls k) ls[k]
    omega
structure Inv (T : List Str) (s : Str) (k : Nat) (a : List Str) (d : Bool) : Prop where
  up : a.Pairwise (· < ·)
  mem : ∀ x, x ∈ a ↔ x ∈ T.take k ∨ (d = true ∧ x = s)
  far : ∀ x ∈ a, ∀ j, (h : j < T.length) → k ≤ j → x < T[j]
  low : d = false → ∀ x ∈ a, x < s
theorem inv_step {T : List Str} {s : Str} (hT : T.Pairwise (· < ·)) (hs : s ∉ T) : ∀ k, k ≤ T.length → Inv T s k (insTo T s k).1 (insTo T s k).2 := by
  have hp := List.pairwise_iff_getElem.1 hT
  intro k
  induction k with
  | zero => intro _; exact ⟨by simp [insTo], by simp [insTo], by simp [insTo], by simp [insTo]⟩
  | succ k ih =>
    intro hk
    have h := ih (by omega)
    have hlt : k < T.length := by omega
    have htake : T.take (k + 1) = T.take k ++ [T[k]] := List.take_succ_eq_append_getElem hlt
    cases hd : (insTo T s k).2
    · have hlow := h.low hd
      by_cases hsx : s < T[k]
      · rw [ins_put hlt hd (by rw [bytesLess_eq]; exact decide_eq_true hsx)]
        refine ⟨?_, ?_, ?_, by simp⟩
        · rw [List.pairwise_append, List.pairwise_append]
          refine ⟨⟨h.up, by simp, fun x hx y hy => ?_⟩, by simp, fun x hx y hy => ?_⟩
          · rw [List.mem_singleton] at hy; subst hy; exact hlow x hx
          · rw [List.mem_singleton] at hy; subst hy
            rw [List.mem_append, List.mem_singleton] at hx
            rcases hx with hx | hx
            · exact h.far x hx k hlt (Nat.le_refl _)
            · subst hx; exact hsx
        · intro x
          rw [htake]
          have := h.mem x
          rw [hd] at this
          simp only [List.mem_append, List.mem_singleton] at *
          rw [this]
          simp
          constructor
          · rintro ((h | h) | h) <;> simp [h]
          · rintro ((h | h) | h) <;> simp [h]
        · intro x hx j hj hkj
          rw [List.mem_append, List.mem_append, List.mem_singleton, List.mem_singleton] at hx
          rcases hx with (hx | hx) | hx
          · exact h.far x hx j hj (by omega)
          · subst hx; exact List.lt_trans hsx (hp k j hlt hj (by omega))
          · subst hx; exact hp k j hlt hj (by omega)
      · rw [ins_no hlt hd (by rw [bytesLess_eq]; exact decide_eq_false hsx)]
        have hne : T[k] ≠ s := fun e => hs (by rw [← e]; exact List.getElem_mem _)
        have hxs : T[k] < s := Std.lt_of_le_of_ne (List.not_lt.1 hsx) hne
        refine ⟨?_, ?_, ?_, ?_⟩
        · rw [List.pairwise_append]
          refine ⟨h.up, by simp, fun x hx y hy => ?_⟩
          rw [List.mem_singleton] at hy; subst hy
          exact h.far x hx k hlt (Nat.le_refl _)
        · intro x
          rw [htake]
          have := h.mem x
          rw [hd] at this
          simp only [List.mem_append, List.mem_singleton] at *
          rw [this]
          simp
        · intro x hx j hj hkj
          rw [List.mem_append, List.mem_singleton] at hx
          rcases hx with hx | hx
          · exact h.far x hx j hj (by omega)
          · subst hx; exact hp k j hlt hj (by omega)
        · intro _ x hx
          rw [List.mem_append, List.mem_singleton] at hx
          rcases hx with hx | hx
          · exact hlow x hx
          · subst hx; exact hxs
    · rw [ins_done hlt hd]
      refine ⟨?_, ?_, ?_, by simp⟩
      · rw [List.pairwise_append]
        refine ⟨h.up, by simp, fun x hx y hy => ?_⟩
        rw [List.mem_singleton] at hy; subst hy
        exact h.far x hx k hlt (Nat.le_refl _)
      · intro x
        rw [htake]
        have := h.mem x
        rw [hd] at this
        simp only [List.mem_append, List.mem_singleton] at *
        rw [this]
        simp
        constructor
        · rintro ((h | h) | h) <;> simp [h]
        · rintro ((h | h) | h) <;> simp [h]
      · intro x hx j hj hkj
        rw [List.mem_append, List.mem_singleton] at hx
        rcases hx with hx | hx
        · exact h.far x hx j hj (by omega)
        · subst hx; exact hp k j hlt hj (by omega)
theorem putL_rising {T : List Str} {s : Str} (hT : T.Pairwise (· < ·)) : (putL T s).Pairwise (· < ·) ∧ ∀ x, x ∈ putL T s ↔ x ∈ T ∨ x = s := by
  unfold putL
  split
  · rename_i h
    refine ⟨hT, fun x => ⟨fun hx => .inl hx, ?_⟩⟩
    rintro (hx | hx)
    · exact hx
    · subst hx; exact h
  · rename_i hs
    have h := inv_step hT hs T.length (Nat.le_refl _)
    unfold insAll
    split
    · rename_i hd
      refine ⟨h.up, fun x => ?_⟩
      rw [h.mem, List.take_length, hd]
      simp
    · rename_i hd
      have hd' : (insTo T s T.length).2 = false := by simpa using hd
      refine ⟨?_, fun x => ?_⟩
      · rw [List.pairwise_append]
        refine ⟨h.up, by simp, fun x hx y hy => ?_⟩
        rw [List.mem_singleton] at hy; subst hy
        exact h.low hd' x hx
      · rw [List.mem_append, h.mem, List.take_length, hd']
        simp
theorem newTo_rising (ls : List Str) : ∀ k, k ≤ ls.length → (newTo ls k).Pairwise (· < ·) ∧ ∀ x, x ∈ newTo ls k ↔ x ∈ ls.take k := by
  intro k
  induction k with
  | zero => intro _; simp [newTo]
  | succ k ih =>
    intro hk
    obtain ⟨h1, h2⟩ := ih (by omega)
    rw [newTo_succ (by omega), List.take_succ_eq_append_getElem (by omega)]
    obtain ⟨h3, h4⟩ := putL_rising (s := ls[k]) h1
    refine ⟨h3, fun x => ?_⟩
    rw [h4, h2, List.mem_append, List.mem_singleton]
theorem newTo_tab (ls : List Str) : newTo ls ls.length = tab ls := by
  obtain ⟨h1, h2⟩ := newTo_rising ls ls.length (Nat.le_refl _)
  exact eq_of_rising h1 (tab_sorted ls) fun x => by rw [h2, List.take_length, mem_tab]
def RowPost (M : List Str) (w : World) (e : Ending) (w' : World) : Prop := ∃ v, e = .returned v ∧ w'.ownsRow w.heap.size 9 1 v M.length (M.map encStr) ∧ Below w.heap.size w w'
set_option maxRecDepth 100000 in
theorem newRef (A : Option Addr) (c : Nat) (ls : List Str) (w : World) (hL : ls.length ≤ 100000) (hA : SRow w A ls) :
    Calls Try.prog 10 #[.slice A ls.length c] w (RowPost (tab ls) w) := by
  have HT := Lib.hid (newTo_tab ls)
  go_enter Try.func10, Try.ntmps10
  go_wp2
  go_loopw [3, 8] (fun v i wr => ∃ k : Nat, k ≤ ls.length ∧ i = .int .i64 k ∧ wr.ownsRow w.heap.size 9 1 v (newTo ls k).length ((newTo ls k).map encStr) ∧ Below w.heap.size w wr) (fun _ i _ => ls.length - (intOf i).toNat)
  case atStart => exact ⟨0, by omega, rfl, World.ownsRow_nil _ _ _ _, Below.refl _ _⟩
  case round =>
    obtain ⟨k, hk, rfl, hown, hbel⟩ := hrel
    have hlen := newTo_len ls k hk
    obtain ⟨A1, c1, rfl, _, _⟩ := SRow.of_own hown
    by_cases hlt : k < ls.length
    · obtain ⟨g, off, rfl, hg, hcell⟩ := hA (by omega)
      have hx := (hbel.cell (p := ⟨g, off + k, none⟩) hg).trans (hcell k hlt)
      have hn := Lib.hid (newTo_succ hlt)
      have he := Lib.hid (show (⟨ls[k].toArray⟩ : ByteArray).toList = ls[k] from by rw [Go.ByteArray.toList_eq])
      clear hcell
      go_wp2_with (go_at_call 34; refine (put w.heap.size A1 c1 _ _ _ (by omega) hbel.size hown).mono ?_)
      rintro e w1 ⟨v1, rfl, hown1, hb1⟩
      rw [he.out, ← hn.out] at hown1
      have hbel1 := hbel.trans hb1
      clear hown hbel hb1 hx
      go_wp2_with fail
      go_roundw
      case rel => exact ⟨k + 1, by omega, by go_num, hown1, hbel1⟩
      case measure => simp [intOf]; omega
    · have e : k = ls.length := by omega
      subst e
      rw [HT.out] at hown
      have hown' := Lib.hid hown
      go_wp2_with fail
      go_ret
      exact ⟨_, rfl, by rw [HT.out]; exact hown, hbel⟩
end Go.Proofs.Ytnhjnimgjpgfcaa.Tab5
/- What is light; decimal numerals and fresh texts of the document. -/
namespace Go.Proofs.Ytnhjnimgjpgfcaa.Tab6
set_option linter.unusedVariables false
set_option linter.unusedSimpArgs false
open Go.RowKit Go.Sort Go.Proofs Go.Proofs.Ytnhjnimgjpgfcaa.Plain Go.Proofs.Ytnhjnimgjpgfcaa.Tab1 Go.Proofs.Ytnhjnimgjpgfcaa.Tab2 Go.Proofs.Ytnhjnimgjpgfcaa.Tab3 Go.Proofs.Ytnhjnimgjpgfcaa.Tab4 Go.Proofs.Ytnhjnimgjpgfcaa.Tab5 Go.Proofs.Ytnhjnimgjpgfcaa.TabP
def lightB (ls : List Str) : Bool := decide (ls.length ≤ 40) && ls.all fun s => decide (s.length ≤ 40)
theorem light (A : Option Addr) (c : Nat) (ls : List Str) (w : World) (hL : ls.length ≤ maxLen) (hw : ∀ s ∈ ls, s.length ≤ maxLen) (hA : SRow w A ls) :
    Calls Try.prog 6 #[.slice A ls.length c] w fun e w' => e = .returned (.bool (lightB ls)) ∧ w = w' := by
  unfold maxLen at hL
  by_cases h40 : ls.length ≤ 40
  · go_enter Try.func6, Try.ntmps6
    go_wp2
    go_loop [10] (fun i => ∃ k : Nat, k ≤ ls.length ∧ i = .int .i64 k ∧ Hid (∀ j, (h : j < ls.length) → j < k → ls[j].length ≤ 40)) (fun i => ls.length - (intOf i).toNat)
    case atStart => exact ⟨0, by omega, rfl, Lib.hid fun j _ h => by omega⟩
    case round =>
      obtain ⟨k, hk, rfl, hall⟩ := hrel
      by_cases hlt : k < ls.length
      · obtain ⟨g, off, rfl, hg, hcell⟩ := hA (by omega)
        have hx := hcell k hlt
        have hm := hw ls[k] (List.getElem_mem _)
        unfold maxLen at hm
        clear hcell
        by_cases h : ls[k].length ≤ 40
        · have hnext : Hid (∀ j, (h : j < ls.length) → j < k + 1 → ls[j].length ≤ 40) := Lib.hid fun j hj h2 => by
            by_cases e : j = k
            · subst e; exact h
            · exact hall.out j hj (by omega)
          clear hall
          go_wp2_with fail
          go_round
          case rel => exact ⟨k + 1, by omega, by go_num, hnext⟩
          case measure => simp [intOf]; omega
        · have hf : Hid (lightB ls = false) := Lib.hid (by
            unfold lightB
            have : (ls.all fun s => decide (s.length ≤ 40)) = false := by
              rw [List.all_eq_false]
              exact ⟨ls[k], List.getElem_mem _, by simpa using h⟩
            rw [this]; simp)
          clear hall
          go_wp2_with fail
          go_ret
          exact ⟨ret_bool hf.out.symm, rfl⟩
      · have hf : Hid (lightB ls = true) := Lib.hid (by
          unfold lightB
          have : (ls.all fun s => decide (s.length ≤ 40)) = true := by
            rw [List.all_eq_true]
            intro x hx
            obtain ⟨j, hj, rfl⟩ := List.getElem_of_mem hx
            exact decide_eq_true (hall.out j hj (by omega))
          rw [this, decide_eq_true h40]; rfl)
        clear hall
        go_wp2_with fail
        go_ret
        exact ⟨ret_bool hf.out.symm, rfl⟩
  · have hf : Hid (lightB ls = false) := Lib.hid (by unfold lightB; rw [decide_eq_false h40]; rfl)
    go_enter Try.func6, Try.ntmps6
    go_wp2
    go_ret
    exact ⟨ret_bool hf.out.symm, rfl⟩
def dgt (m : Nat) : UInt8 := UInt8.ofNat (48 + m % 10)
def oneB (c : UInt8) : ByteArray := ⟨#[c]⟩
theorem oneB_size (c : UInt8) : (oneB c).size = 1 := rfl
theorem cat_bytes (c : UInt8) (l : Str) : (oneB c ++ ⟨l.toArray⟩ : ByteArray) = ⟨(c :: l).toArray⟩ := by
  unfold oneB
  apply ByteArray.ext
  rw [ByteArray.data_append]
  apply Array.ext'
  simp
theorem dec_pow {m k : Nat} (hk : k < 20) (h : m < 10 ^ (20 - k)) (h10 : ¬ m < 10) : m / 10 < 10 ^ (20 - (k + 1)) ∧ k + 1 < 20 := by
  have hk2 : k + 1 < 20 := by
    rcases Nat.lt_or_ge (k + 1) 20 with h1 | h1
    · exact h1
    · have : k = 19 := by omega
      subst this
      exact absurd h h10
  refine ⟨?_, hk2⟩
  rw [show 20 - k = (20 - (k + 1)) + 1 from by omega, Nat.pow_succ] at h
  omega
def DecPost (N : Nat) (w : World) (e : Ending) (w' : World) : Prop := e = .returned (.string ⟨(Lib.decDigits N).toArray⟩) ∧ Below w.heap.size w w'
end Go.Proofs.Ytnhjnimgjpgfcaa.Tab6
/- A table's texts by place, all of them, and with more. -/
namespace Go.Proofs.Ytnhjnimgjpgfcaa.Tab7
set_option linter.unusedVariables false
set_option linter.unusedSimpArgs false
open Go.RowKit Go.Sort Go.Proofs Go.Proofs.Ytnhjnimgjpgfcaa.Plain Go.Proofs.Ytnhjnimgjpgfcaa.Tab1 Go.Proofs.Ytnhjnimgjpgfcaa.Tab2 Go.Proofs.Ytnhjnimgjpgfcaa.Tab3 Go.Proofs.Ytnhjnimgjpgfcaa.Tab4 Go.Proofs.Ytnhjnimgjpgfcaa.Tab5 Go.Proofs.Ytnhjnimgjpgfcaa.Tab6 Go.Proofs.Ytnhjnimgjpgfcaa.TabP
section
variable {P : Program} (w : World)
theorem run_append_of_nil (base : Nat) (t ty e : TypeId) (i : TypeInfo) (size : Nat) (ht : P.underlying t = some (.slice e)) (hi : P.info? e = some i)
    (v : Value) (n : Nat) (xs : List Value) (hown : w.ownsRow base e size v n xs) (c : Nat) : (Builtin.append_ #[t, t] ty #[v, .slice none 0 c]).run P w = .ok v w := by
  rcases hown.2 with ⟨rfl, rfl⟩ | ⟨g, cap, cur, rfl, _, _, hnc, _⟩
  · simp [Builtin.append_, run_underlying ht, sizeOf, typeInfo, hi, Builtin.lenOf, Builtin.firstCells]
  · simp [Builtin.append_, run_underlying ht, sizeOf, typeInfo, hi, Builtin.lenOf, Builtin.firstCells, hnc, storeCells]
theorem add_off (b off j : Nat) : ((⟨b, off, none⟩ : Addr).add j) = ⟨b, off + j, none⟩ := by
  unfold Addr.add
  split
  · rename_i h; subst h; rfl
  · simp
/-- append of a slice of texts onto a row of the call's own. -/
theorem run_append_src (base : Nat) (t ty e : TypeId) (i : TypeInfo) (z : Value) (ht : P.underlying t = some (.slice e)) (hi : P.info? e = some i) (hz : i.zero = some z)
    (hsize : i.size = 1) (hby : i.bytes = 16) (hzs : z.cells.size = 1)
    (v : Value) (L : List Str) (hown : w.ownsRow base e 1 v L.length (L.map encStr)) (A : Option Addr) (c : Nat) (T : List Str) (hr : SRow w A T)
    (hbig : L.length + T.length ≤ 1000000) (hbase : base ≤ w.heap.size) :
    ∃ v' w', (Builtin.append_ #[t, t] ty #[v, .slice A T.length c]).run P w = .ok v' w' ∧ w'.ownsRow base e 1 v' (L ++ T).length ((L ++ T).map encStr) ∧ w.grownBy w' v.ownBlock := by
  rcases A with _ | ad
  · have hm : T = [] := by
      rcases Nat.eq_zero_or_pos T.length with h0 | h0
      · exact List.eq_nil_of_length_eq_zero h0
      · obtain ⟨_, _, h, _⟩ := hr h0
        cases h
    subst hm
    exact ⟨v, w, run_append_of_nil w base t ty e i 1 ht hi v _ _ hown c, by simpa using hown, World.grownBy.refl w _⟩
  · have hcells : ∀ j u, (T.map encStr)[j]? = some u → w.cell? (ad.add j) = some u := by
      intro j u hu
      have hj : j < T.length := by
        rcases Nat.lt_or_ge j T.length with h | h
        · exact h
        · rw [List.getElem?_eq_none (by simpa using h)] at hu; cases hu
      obtain ⟨b, off, h, _, hc⟩ := hr (by omega)
      injection h with h
      subst h
      rw [add_off, hc j hj, ← hu, List.getElem?_map, List.getElem?_eq_getElem hj]
      rfl
    obtain ⟨v', w', hrun, h2, h3, _⟩ := run_append_own (P := P) w base t ty e i z 1 16 ht hi hz hsize hby hzs (by decide) v L.length (L.map encStr) hown ad T.length c (T.map encStr) (by simp) hcells
      (fun u hu => by
        obtain ⟨x, _, rfl⟩ := List.mem_map.1 hu
        rfl) (by unfold maxLen; omega) (by omega) hbase
    exact ⟨v', w', hrun, by rw [List.length_append, List.map_append]; exact h2, h3⟩
theorem wpList_append_src {ops : Array Oper} {rest : List Oper} {o : Oper} {a : Act} {Q : Exit → Act → World → Prop} (hgd : o.guard = none) (s x : Operand) (t : TypeId)
    (ho : o.op = .call { callee := .builtin .append, args := #[s, x], argTypes := #[t, t] })
    (base : Nat) (e : TypeId) (i : TypeInfo) (z : Value) (ht : P.underlying t = some (.slice e)) (hi : P.info? e = some i) (hz : i.zero = some z)
    (hsize : i.size = 1) (hby : i.bytes = 16) (hzs : z.cells.size = 1)
    (v : Value) (L : List Str) (hs : a.eval s = v) (hown : w.ownsRow base e 1 v L.length (L.map encStr)) (A : Option Addr) (c : Nat) (T : List Str) (hx : a.eval x = .slice A T.length c) (hr : SRow w A T)
    (hbig : L.length + T.length ≤ 1000000) (hbase : base ≤ w.heap.size)
    (h : ∀ v' w', w'.ownsRow base e 1 v' (L ++ T).length ((L ++ T).map encStr) → w.grownBy w' v.ownBlock → wpList P ops Q rest (a.put o.dst v') w') : wpList P ops Q (o :: rest) a w := by
  obtain ⟨v', w', hrun, h2, h3⟩ := run_append_src (P := P) w base t o.type e i z ht hi hz hsize hby hzs v L hown A c T hr hbig hbase
  exact Lib.wpList_append_run w hgd s x t t ho v _ hs hx v' w' hrun (h v' w' h2 h3)
end
theorem at_nil (i : Int) (w : World) : Calls Try.prog 42 #[.pointer none, .int .i64 i] w fun e w' => e = .returned (.string ⟨#[]⟩) ∧ w = w' := by
  by_cases h : i < 0
  · go_enter Try.func42, Try.ntmps42
    go_wp2_with (go_at_call 17; refine (len_nil _).mono ?_; rintro e w' ⟨rfl, rfl⟩)
    go_ret
    exact ⟨rfl, rfl⟩
  · go_enter Try.func42, Try.ntmps42
    go_wp2_with (go_at_call 17; refine (len_nil _).mono ?_; rintro e w' ⟨rfl, rfl⟩)
    go_ret
    exact ⟨rfl, rfl⟩
theorem at_out (t : Nat) (A : Option Addr) (n c : Nat) (i : Int) (w : World) (h : w.cell? ⟨t, 0, none⟩ = some (.slice A n c)) (hi : i < 0 ∨ (n : Int) ≤ i) :
    Calls Try.prog 42 #[.pointer (some ⟨t, 0, none⟩), .int .i64 i] w fun e w' => e = .returned (.string ⟨#[]⟩) ∧ w = w' := by
  by_cases h0 : i < 0
  · clear hi
    go_enter Try.func42, Try.ntmps42
    go_wp2_with (go_at_call 17; refine (len _ _ _ _ _ h).mono ?_; rintro e w' ⟨rfl, rfl⟩)
    go_ret
    exact ⟨rfl, rfl⟩
  · have h1 : (n : Int) ≤ i := by omega
    clear hi
    go_enter Try.func42, Try.ntmps42
    go_wp2_with (go_at_call 17; refine (len _ _ _ _ _ h).mono ?_; rintro e w' ⟨rfl, rfl⟩)
    go_ret
    exact ⟨rfl, rfl⟩
theorem at_in (t : Nat) (A : Option Addr) (T : List Str) (c k : Nat) (w : World) (h : w.cell? ⟨t, 0, none⟩ = some (.slice A T.length c)) (hT : T.length ≤ 1000000) (hr : SRow w A T) (hk : k < T.length) :
    Calls Try.prog 42 #[.pointer (some ⟨t, 0, none⟩), .int .i64 k] w fun e w' => e = .returned (.string ⟨T[k].toArray⟩) ∧ w = w' := by
  obtain ⟨g, off, rfl, hg, hc⟩ := hr (by omega)
  have hx := hc k hk
  clear hc
  go_enter Try.func42, Try.ntmps42
  go_wp2_with (go_at_call 17; refine (len _ _ _ _ _ h).mono ?_; rintro e w' ⟨rfl, rfl⟩)
  go_ret
  exact ⟨rfl, rfl⟩
theorem cloneC (A : Option Addr) (c : Nat) (T : List Str) (w : World) (hn : T.length ≤ 1000000) (h : SRow w A T) : Calls Try.prog 48 #[.slice A T.length c] w (RowPost T w) := by
  rcases A with _ | ad
  · have : T = [] := by
      cases T with
      | nil => rfl
      | cons a l => obtain ⟨_, _, e, _⟩ := h (by simp); cases e
    subst this
    refine (Try.slices_Clone_string_nil _ _ _).mono ?_
    rintro e w' ⟨rfl, rfl⟩
    exact ⟨_, rfl, World.ownsRow_nil _ _ _ _, Below.refl _ _⟩
  · by_cases h0 : 0 < T.length
    · obtain ⟨b, off, e, _, hc⟩ := h h0
      injection e with e
      subst e
      have := Try.slices_Clone_string b off T.length c (T.map enB) w (by simp) (by omega) (fun j hj => by
        rw [List.length_map] at hj
        rw [hc j hj, List.getD_eq_getElem?_getD, List.getElem?_map, List.getElem?_eq_getElem hj]; rfl)
      rw [List.take_of_length_le (by simp), map_enB] at this
      refine this.mono ?_
      rintro e w' ⟨v, rfl, h1, _, h2⟩
      exact ⟨v, rfl, h1, h2⟩
    · have : T = [] := List.eq_nil_of_length_eq_zero (by omega)
      subst this
      refine (Try.slices_Clone_string_zero ad c w).mono ?_
      rintro e w' ⟨v, rfl, h1, _, h2⟩
      exact ⟨v, rfl, h1, h2⟩
theorem all (t : Nat) (A : Option Addr) (T : List Str) (c : Nat) (w : World) (h : w.cell? ⟨t, 0, none⟩ = some (.slice A T.length c)) (hT : T.length ≤ 1000000) (hr : SRow w A T) :
    Calls Try.prog 25 #[.pointer (some ⟨t, 0, none⟩)] w (RowPost T w) := by
  go_enter Try.func25, Try.ntmps25
  go_wp2_with (first | (go_at_call 40; refine (kept _ _ _ h).mono ?_; rintro e w' ⟨rfl, rfl⟩) | (go_at_call 48; refine (cloneC A c T _ hT hr).mono ?_; rintro e w' ⟨v, rfl, h1, h2⟩))
  go_ret
  exact ⟨_, rfl, h1, h2⟩
theorem all_nil (w : World) : Calls Try.prog 25 #[.pointer none] w fun e w' => e = .returned (.slice none 0 0) ∧ w = w' := by
  go_enter Try.func25, Try.ntmps25
  go_wp2_with (first | (go_at_call 40; refine (kept_nil _).mono ?_; rintro e w' ⟨rfl, rfl⟩) | (go_at_call 48; refine (Try.slices_Clone_string_nil _ _ _).mono ?_; rintro e w' ⟨rfl, rfl⟩))
  go_ret
  exact ⟨rfl, rfl⟩
set_option maxRecDepth 100000 in
theorem grow (n : Nat) (w : World) (hn : n ≤ 1000000) : Calls Try.prog 65 #[.slice none 0 0, .int .i64 n] w (RowPost [] w) := by
  obtain ⟨i0, hi, hz0, hz1, hz2⟩ := info_parts infoStr
  by_cases h0 : 0 < n
  · have hz : 0 < i0.size := by rw [hz1]; omega
    have hby : n * i0.bytes ≤ 281474976710656 := by rw [hz2]; omega
    have hrun := Lib.run_append_nil_zeros (P := Try.prog) w 22 3 22 9 i0 (.string ⟨#[]⟩) .i64 .i64 Try.underlying22 Try.underlying3 hi hz0 n h0 hz (by omega) hby
    have hg := grownCap_ge w n 0 9
    have hm := grownCap_le_maxLen w n 0 9 (by unfold maxLen; omega)
    have hm' := hm
    have hsz : (Builtin.zeroCells (Value.string ⟨#[]⟩).cells n ++ Builtin.zeroCells (Value.string ⟨#[]⟩).cells (grownCap w n 0 9 - n)).size = grownCap w n 0 9 * 1 := by
      rw [Array.size_append, size_zeroCells, size_zeroCells]
      show n * 1 + (grownCap w n 0 9 - n) * 1 = _
      omega
    generalize Builtin.zeroCells (Value.string ⟨#[]⟩).cells n ++ Builtin.zeroCells (Value.string ⟨#[]⟩).cells (grownCap w n 0 9 - n) = cells at *
    generalize grownCap w n 0 9 = gc at *
    have Hsz := Lib.hid hsz
    have Hm := Lib.hid hm'
    have Hrun := Lib.hid hrun
    clear hsz hz hby hm' hrun
    unfold maxLen at hm
    go_enter Try.func65, Try.ntmps65
    go_wp2_with (refine Lib.wpList_append_run (P := Try.prog) (o := ⟨some 22, _, _, _, _, _⟩) w rfl (.tmp 20) (.tmp 21) 22 3 rfl (.slice none 0 0) (.int .i64 n) ?hs ?hx (.slice (some ⟨w.heap.size, 0, none⟩) n gc) (w.drew.alloc (.cells cells 9)) (by exact Hrun.out) ?_)
    case hs => rfl
    case hx => rfl
    go_wp2
    go_ret
    exact ⟨_, rfl, World.ownsRow_made w.drew cells gc (Nat.le_refl _) Hm.out Hsz.out, (Below.refl _ _).drew.alloc (Nat.le_refl _) _⟩
  · have : n = 0 := by omega
    subst this
    go_enter Try.func65, Try.ntmps65
    go_wp2
    go_ret
    exact ⟨_, rfl, World.ownsRow_nil _ _ _ _, Below.refl _ _⟩
set_option maxHeartbeats 800000 in
set_option maxRecDepth 100000 in
theorem concat (b : Nat) (A1 A2 : Option Addr) (c1 c2 : Nat) (T1 T2 : List Str) (w : World) (h1 : T1.length ≤ 100000) (h2 : T2.length ≤ 100000) (hb : b < w.heap.size)
    (hc1 : w.cell? ⟨b, 0, none⟩ = some (.slice A1 T1.length c1)) (hc2 : w.cell? ⟨b, 1, none⟩ = some (.slice A2 T2.length c2)) (hr1 : SRow w A1 T1) (hr2 : SRow w A2 T2) :
    Calls Try.prog 44 #[.slice (some ⟨b, 0, none⟩) 2 2] w (RowPost (T1 ++ T2) w) := by
  obtain ⟨i0, hi, hz0, hz1, hz2⟩ := info_parts infoStr
  have HR1 := Lib.hid hr1
  have HR2 := Lib.hid hr2
  clear hr1 hr2
  go_enter Try.func44, Try.ntmps44
  go_wp2_with fail
  go_loop [3, 11] (fun s i => (s = .int .i64 0 ∧ i = .int .i64 0) ∨ (s = .int .i64 T1.length ∧ i = .int .i64 1) ∨ (s = .int .i64 ((T1.length + T2.length : Nat) : Int) ∧ i = .int .i64 2)) (fun _ i => 2 - (intOf i).toNat)
  case atStart => exact .inl ⟨rfl, rfl⟩
  case round =>
    rcases hrel with ⟨rfl, rfl⟩ | ⟨rfl, rfl⟩ | ⟨rfl, rfl⟩
    · go_wp2_with fail
      go_round
      case rel => exact .inr (.inl ⟨by simp, rfl⟩)
      case measure => simp [intOf]
    · go_wp2_with fail
      go_round
      case rel => exact .inr (.inr ⟨by simp, rfl⟩)
      case measure => simp [intOf]
    · go_wp2_with fail
      rw [← Int.natCast_add]
      refine (grow (T1.length + T2.length) w (by omega)).mono ?_
      rintro e w1 ⟨v1, rfl, hown1, hbel1⟩
      go_wp2_with fail
      go_loopw [6, 27] (fun v i wr => Below w.heap.size w wr ∧ ((wr.ownsRow w.heap.size 9 1 v ([] : List Str).length (([] : List Str).map encStr) ∧ i = .int .i64 0) ∨ (wr.ownsRow w.heap.size 9 1 v T1.length (T1.map encStr) ∧ i = .int .i64 1) ∨ (wr.ownsRow w.heap.size 9 1 v (T1 ++ T2).length ((T1 ++ T2).map encStr) ∧ i = .int .i64 2))) (fun _ i _ => 2 - (intOf i).toNat)
      case atStart => exact ⟨hbel1, .inl ⟨hown1, rfl⟩⟩
      case round =>
        obtain ⟨hbel, ⟨hown, rfl⟩ | ⟨hown, rfl⟩ | ⟨hown, rfl⟩⟩ := hrel
        · have d1 := (hbel.cell (p := ⟨b, 0, none⟩) hb).trans hc1
          have hr := HR1.out.keep hbel
          clear hown1 hbel1
          go_wp2_with (at_builtin; refine wpList_append_src _ rfl _ _ 22 rfl w.heap.size 9 i0 (.string ⟨#[]⟩) Try.underlying22 hi hz0 hz1 hz2 rfl _ [] rfl hown A1 c1 T1 rfl hr (by first | omega | (simp; omega)) hbel.size ?_)
          intro v2 w2 hown2 hgrow
          have hbel2 := hbel.grown hgrow hbel.size (fun k hk => (hown.lt k hk).1)
          clear hown hbel hgrow
          go_wp2_with fail
          go_roundw
          case rel => exact ⟨hbel2, .inr (.inl ⟨hown2, rfl⟩)⟩
          case measure => simp [intOf]
        · have d1 := (hbel.cell (p := ⟨b, 1, none⟩) hb).trans hc2
          have hr := HR2.out.keep hbel
          clear hown1 hbel1
          go_wp2_with (at_builtin; refine wpList_append_src _ rfl _ _ 22 rfl w.heap.size 9 i0 (.string ⟨#[]⟩) Try.underlying22 hi hz0 hz1 hz2 rfl _ T1 rfl hown A2 c2 T2 rfl hr (by first | omega | (simp; omega)) hbel.size ?_)
          intro v2 w2 hown2 hgrow
          have hbel2 := hbel.grown hgrow hbel.size (fun k hk => (hown.lt k hk).1)
          clear hown hbel hgrow
          go_wp2_with fail
          go_roundw
          case rel => exact ⟨hbel2, .inr (.inr ⟨by rw [List.length_append, List.map_append]; exact hown2, rfl⟩)⟩
          case measure => simp [intOf]
        · clear hown1 hbel1
          go_wp2_with fail
          go_ret
          exact ⟨_, rfl, hown, hbel⟩
abbrev NewPost' := NewPost
end Go.Proofs.Ytnhjnimgjpgfcaa.Tab7
/- Plain mathematics of roles and statements, of no program: which are right, how they stand. -/
namespace Go.Proofs.Ytnhjnimgjpgfcaa.SynP
set_option linter.unusedVariables false
set_option linter.unusedSimpArgs false
open Go.RowKit Go.Proofs.Ytnhjnimgjpgfcaa.Plain
structure Rl where
  owner : ByteArray
  name : ByteArray
  deriving DecidableEq
structure St where
  kind : Int
  head : Rl
  who : ByteArray
  a : Rl
  b : Rl
  via : ByteArray
  deriving DecidableEq
def Rl.vals (r : Rl) : Array Value := #[.string r.owner, .string r.name]
def Rl.val (r : Rl) : Value := .agg #[.string r.owner, .string r.name]
def St.cells (s : St) : List Value := [.int .i64 s.kind, .string s.head.owner, .string s.head.name, .string s.who, .string s.a.owner, .string s.a.name, .string s.b.owner, .string s.b.name, .string s.via]
def St.val (s : St) : Value := .agg #[.int .i64 s.kind, .string s.head.owner, .string s.head.name, .string s.who, .string s.a.owner, .string s.a.name, .string s.b.owner, .string s.b.name, .string s.via]
/-- A role's texts are a principal's, and a role's name. -/
def Rl.ok (r : Rl) : Bool := named capB r.owner.data.toList && named smallB r.name.data.toList
/-- All texts are short. -/
def Rl.light (r : Rl) : Prop := r.owner.size ≤ maxLen ∧ r.name.size ≤ maxLen
def St.fit (s : St) : Prop := s.head.light ∧ s.who.size ≤ maxLen ∧ s.a.light ∧ s.b.light ∧ s.via.size ≤ maxLen
/-- How two texts stand, by their bytes. -/
def strLt (a b : ByteArray) : Bool := decide (a.data.toList < b.data.toList)
def cmpB (a b : ByteArray) : Int := if strLt a b then -1 else if strLt b a then 1 else 0
/-- The first number that isn't 0. -/
def orL : List Int → Int
  | [] => 0
  | x :: l => if x ≠ 0 then x else orL l
def cmpR (r s : Rl) : Int := orL [cmpB r.owner s.owner, cmpB r.name s.name]
def cmpN (a b : Int) : Int := if a < b then -1 else if a > b then 1 else 0
def cmpS (s t : St) : Int := orL [cmpR s.head t.head, cmpN s.kind t.kind, cmpB s.who t.who, cmpR s.a t.a, cmpR s.b t.b, cmpB s.via t.via]
theorem ba_ext {a b : ByteArray} (h : a.data.toList = b.data.toList) : a = b := by
  apply ByteArray.ext; apply Array.ext'; exact h
theorem strLt_irrefl (a : ByteArray) : strLt a a = false := by unfold strLt; exact decide_eq_false (List.lt_irrefl _)
theorem strLt_asymm {a b : ByteArray} (h : strLt a b = true) : strLt b a = false := by
  unfold strLt at *
  exact decide_eq_false (List.lt_asymm (of_decide_eq_true h))
theorem strLt_trans {a b c : ByteArray} (h : strLt a b = true) (h2 : strLt b c = true) : strLt a c = true := by
  unfold strLt at *
  exact decide_eq_true (List.lt_trans (of_decide_eq_true h) (of_decide_eq_true h2))
theorem strLt_total {a b : ByteArray} (h : strLt a b = false) (h2 : strLt b a = false) : a = b := by
  unfold strLt at *
  exact ba_ext (List.le_antisymm (of_decide_eq_false h2) (of_decide_eq_false h))
theorem cmpB_eq {a b : ByteArray} : cmpB a b = 0 ↔ a = b := by
  unfold cmpB
  constructor
  · intro h
    cases h1 : strLt a b <;> cases h2 : strLt b a <;> simp [h1, h2] at h
    exact strLt_total h1 h2
  · rintro rfl; simp [strLt_irrefl]
theorem cmpB_anti (a b : ByteArray) : cmpB b a = - cmpB a b := by
  unfold cmpB
  cases h1 : strLt a b <;> cases h2 : strLt b a <;> simp
  rw [strLt_asymm h1] at h2; cases h2
theorem cmpB_lt {a b : ByteArray} : cmpB a b < 0 ↔ strLt a b = true := by
  unfold cmpB
  cases h1 : strLt a b <;> cases h2 : strLt b a <;> simp
def noText : ByteArray := ⟨#[]⟩
def zeroR : Rl := ⟨noText, noText⟩
def zeroS : St := ⟨0, zeroR, noText, zeroR, zeroR, noText⟩
/-- What a statement of this kind has beside its head is such as it may be. -/
def St.says (s : St) : Bool := if s.kind = 1 then named capB s.who.data.toList else if s.kind = 2 then s.a.ok else if s.kind = 3 then s.a.ok && named smallB s.via.data.toList else if s.kind = 4 then s.a.ok && s.b.ok && !decide (cmpR s.b s.a < 0) else false
/-- A statement with nothing but what one of its kind has. -/
def St.own (s : St) : St := if s.kind = 1 then ⟨s.kind, s.head, s.who, zeroR, zeroR, noText⟩ else if s.kind = 2 then ⟨s.kind, s.head, noText, s.a, zeroR, noText⟩ else if s.kind = 3 then ⟨s.kind, s.head, noText, s.a, zeroR, s.via⟩ else if s.kind = 4 then ⟨s.kind, s.head, noText, s.a, s.b, noText⟩ else ⟨s.kind, s.head, noText, zeroR, zeroR, noText⟩
def St.right (s : St) : Bool := s.head.ok && s.says && decide (s = s.own)
def St.normal (s : St) : St := if s.kind = 4 ∧ cmpR s.b s.a < 0 then ⟨s.kind, s.head, s.who, s.b, s.a, s.via⟩ else s
end Go.Proofs.Ytnhjnimgjpgfcaa.SynP
/- Which texts are names, by the document's answers. -/
namespace Go.Proofs.Ytnhjnimgjpgfcaa.RefN
set_option linter.unusedVariables false
set_option linter.unusedSimpArgs false
open Go.RowKit Go.Proofs.Ytnhjnimgjpgfcaa.Plain Go.Proofs.Ytnhjnimgjpgfcaa.Leaf Go.Proofs.Ytnhjnimgjpgfcaa.Named
theorem letter (n : Int) (w : World) : Calls Try.prog 68 #[.int .u8 n] w fun e w' => e = .returned (.bool (wordB n)) ∧ w = w' := by
  go_enter Try.func68, Try.ntmps68
  go_wp2
  all_goals go_ret
  all_goals refine ⟨ret_bool ?_, rfl⟩
  all_goals
    unfold wordB capB smallB digB
    rw [Bool.eq_iff_iff]
    simp
    omega
def between (lo hi n : Int) : Bool := decide (lo ≤ n ∧ n ≤ hi)
theorem is_ (s : ByteArray) (lo hi : Int) (w : World) (hs : s.size ≤ maxLen) :
    Calls Try.prog 49 #[.string s, .int .u8 lo, .int .u8 hi] w fun e w' => e = .returned (.bool (named (between lo hi) s.data.toList)) ∧ w = w' := by
  unfold maxLen at hs
  by_cases h1 : 0 < s.size
  · by_cases h8 : s.size ≤ 8
    · by_cases hlo : lo ≤ s[0].toNat
      · by_cases hhi : s[0].toNat ≤ hi
        · have Hc := Lib.hid (show between lo hi s[0].toNat = true from decide_eq_true ⟨hlo, hhi⟩)
          go_enter Try.func49, Try.ntmps49
          go_wp2_with fail
          go_loop [7] (fun i => ∃ k : Nat, k ≤ s.size ∧ i = .int .i64 k ∧ Hid (∀ j, (h : j < s.size) → j < k → wordB s[j].toNat = true)) (fun i => s.size - (intOf i).toNat)
          case atStart => exact ⟨0, by omega, rfl, Lib.hid fun j _ hj => by omega⟩
          case round =>
            obtain ⟨k, hk, rfl, hall⟩ := hrel
            by_cases hlt : k < s.size
            · cases hw : wordB s[k].toNat
              · have Hw := Lib.hid (named_bad (f := between lo hi) k hlt hw)
                clear hall
                go_wp2_with (go_at_call 68; refine (letter _ _).mono ?_; rintro e w' ⟨rfl, rfl⟩)
                go_ret
                exact ⟨ret_bool Hw.out.symm, rfl⟩
              · have hnext : Hid (∀ j, (h : j < s.size) → j < k + 1 → wordB s[j].toNat = true) := Lib.hid fun j h hj => by
                  by_cases e : j = k
                  · subst e; exact hw
                  · exact hall.out j h (by omega)
                clear hall
                go_wp2_with (go_at_call 68; refine (letter _ _).mono ?_; rintro e w' ⟨rfl, rfl⟩)
                go_round
                case rel => exact ⟨k + 1, by omega, by go_num, hnext⟩
                case measure => simp [intOf]; omega
            · go_wp2_with fail
              go_ret
              exact ⟨ret_bool (named_ok h1 h8 Hc.out (fun j h => hall.out j h (by omega))).symm, rfl⟩
        · have Hc := Lib.hid (named_head (f := between lo hi) h1 (decide_eq_false (fun h => hhi h.2)))
          go_enter Try.func49, Try.ntmps49
          go_wp2_with fail
          go_ret
          exact ⟨ret_bool Hc.out.symm, rfl⟩
      · have Hc := Lib.hid (named_head (f := between lo hi) h1 (decide_eq_false (fun h => hlo h.1)))
        go_enter Try.func49, Try.ntmps49
        go_wp2_with fail
        go_ret
        exact ⟨ret_bool Hc.out.symm, rfl⟩
    · go_enter Try.func49, Try.ntmps49
      go_wp2_with fail
      go_ret
      exact ⟨ret_bool (named_len (by omega)).symm, rfl⟩
  · go_enter Try.func49, Try.ntmps49
    go_wp2_with fail
    go_ret
    exact ⟨ret_bool (named_len (by omega)).symm, rfl⟩
theorem refIsPrin (s : ByteArray) (w : World) (hs : s.size ≤ maxLen) : Calls Try.prog 28 #[.string s] w fun e w' => e = .returned (.bool (named capB s.data.toList)) ∧ w = w' := by
  go_enter Try.func28, Try.ntmps28
  go_wp2_with (go_at_call 49; refine (is_ _ _ _ _ hs).mono ?_; rintro e w' ⟨rfl, rfl⟩)
  go_ret
  exact ⟨ret_bool (show named (between 65 90) _ = named capB _ from rfl), rfl⟩
theorem refIsName (s : ByteArray) (w : World) (hs : s.size ≤ maxLen) : Calls Try.prog 29 #[.string s] w fun e w' => e = .returned (.bool (named smallB s.data.toList)) ∧ w = w' := by
  go_enter Try.func29, Try.ntmps29
  go_wp2_with (go_at_call 49; refine (is_ _ _ _ _ hs).mono ?_; rintro e w' ⟨rfl, rfl⟩)
  go_ret
  exact ⟨ret_bool (show named (between 97 122) _ = named smallB _ from rfl), rfl⟩
end Go.Proofs.Ytnhjnimgjpgfcaa.RefN
/- Worlds that are another one after some draws, with some blocks laid behind it; what such a world holds. -/
namespace Go.Proofs.Ytnhjnimgjpgfcaa.Grown
set_option linter.unusedVariables false
set_option linter.unusedSimpArgs false
open Go.RowKit Go.Sort
/-- w' is w after some draws, with some blocks laid behind it. -/
def Grew (w w' : World) : Prop := ∃ p : GrownBy, w' = grow (w.drewN p.n) p.os
theorem Grew.refl (w : World) : Grew w w := ⟨⟨0, #[]⟩, by rw [grow_empty]; rfl⟩
theorem Grew.mk (w : World) (n : Nat) (os : Array Obj) : Grew w (grow (w.drewN n) os) := ⟨⟨n, os⟩, rfl⟩
theorem Grew.drewN {w w' : World} (h : Grew w w') (n : Nat) : Grew w (w'.drewN n) := by
  obtain ⟨⟨m, os⟩, rfl⟩ := h
  exact ⟨⟨m + n, os⟩, by show grow ((w.drewN m).drewN n) os = _; rw [World.drewN_drewN]⟩
theorem Grew.drew {w w' : World} (h : Grew w w') : Grew w w'.drew := h.drewN 1
theorem Grew.alloc {w w' : World} (h : Grew w w') (o : Obj) : Grew w (w'.alloc o) := by
  obtain ⟨⟨m, os⟩, rfl⟩ := h
  exact ⟨⟨m, os ++ #[o]⟩, by rw [alloc_eq_grow, grow_grow]⟩
theorem Grew.alloc_drew (w : World) (o : Obj) : Grew w.drew (w.alloc o).drew := (Grew.refl w.drew).alloc o
theorem Grew.trans {a b c : World} (h : Grew a b) (h2 : Grew b c) : Grew a c := by
  obtain ⟨⟨m, os⟩, rfl⟩ := h
  obtain ⟨⟨n, os2⟩, rfl⟩ := h2
  exact ⟨⟨m + n, os ++ os2⟩, by show grow (grow ((a.drewN m).drewN n) os) os2 = _; rw [grow_grow, World.drewN_drewN]⟩
theorem Grew.size {w w' : World} (h : Grew w w') : w.heap.size ≤ w'.heap.size := by
  obtain ⟨⟨m, os⟩, rfl⟩ := h
  simp
theorem Grew.cell {w w' : World} (h : Grew w w') {a : Addr} (ha : a.block < w.heap.size) : w'.cell? a = w.cell? a := by
  obtain ⟨⟨m, os⟩, rfl⟩ := h
  rw [cell?_grow _ _ _ (by exact ha)]; rfl
theorem Grew.frozen {w w' : World} (h : Grew w w') {a : Addr} (ha : a.block < w.heap.size) : w'.frozen? a = w.frozen? a := by
  obtain ⟨⟨m, os⟩, rfl⟩ := h
  rw [frozen?_grow _ _ _ (by exact ha)]; rfl
theorem Grew.cells {w w' : World} (h : Grew w w') : (∀ b o, b < w.heap.size → w'.cell? ⟨b, o, none⟩ = w.cell? ⟨b, o, none⟩) ∧ (∀ b o, b < w.heap.size → w'.frozen? ⟨b, o, none⟩ = w.frozen? ⟨b, o, none⟩) :=
  ⟨fun b o hb => h.cell (a := ⟨b, o, none⟩) hb, fun b o hb => h.frozen (a := ⟨b, o, none⟩) hb⟩
theorem Grew.use {w w' : World} (h : Grew w w') : (∀ b o, b < w.heap.size → w'.cell? ⟨b, o, none⟩ = w.cell? ⟨b, o, none⟩) ∧ (∀ b o, b < w.heap.size → w'.frozen? ⟨b, o, none⟩ = w.frozen? ⟨b, o, none⟩) ∧ w.heap.size ≤ w'.heap.size := ⟨h.cells.1, h.cells.2, h.size⟩
theorem Grew.below {w w' : World} (h : Grew w w') : Below w.heap.size w w' := by
  obtain ⟨⟨m, os⟩, rfl⟩ := h
  exact ⟨rfl, rfl, rfl, by simp, fun k hk => by rw [heap_grow_old _ _ (by exact hk)]; rfl⟩
theorem Grew.old {w w' : World} (h : Grew w w') {k : Nat} (hk : k < w.heap.size) : w'.heap[k]? = w.heap[k]? := h.below.block k hk
end Go.Proofs.Ytnhjnimgjpgfcaa.Grown
