/- Tables of names: kept, Len, New. -/
import Derived.Test.YtblapgfilbmdhaaGreatDoorM01
import Derived.Test.YtblapgfilbmdhaaGreatDoorShelf
import Derived.Lib.OwnBridge
import Derived.Sort.OwnSorted
import Derived.OwnWalk
import Derived.Lib.Builder
import Derived.WalkSmall
import Derived.Deep.QuietTactic
import Derived.BigQuiet
import Derived.WalkLawsBesides
import Derived.Sort.Walk0
import Derived.IntWalk
import Derived.Lib.ItoaLen
import Derived.Test.YtblapgfilbmdhaaGreatDoorRows
import Derived.Lib.LaidTab
import Derived.WalkSpells
import Derived.Laws.AppendOwn
set_option linter.unusedVariables false
set_option linter.unusedSimpArgs false
namespace Go.Proofs.YtblapgfilbmdhaaGreatDoor.Tab1
open Go.RowKit Go.Sort Go.Proofs Plain TabP
def SRow (w : World) (A : Option Addr) (T : List Str) : Prop :=
  0 < T.length → ∃ b off, A = some ⟨b, off, none⟩ ∧ b < w.heap.size ∧ ∀ j, (h : j < T.length) → w.cell? ⟨b, off + j, none⟩ = some (.string ⟨T[j].toArray⟩)
theorem SRow.keep {w w' : World} {A : Option Addr} {T : List Str} (h : SRow w A T) (hb : Below w.heap.size w w') : SRow w' A T := fun hp => by
  obtain ⟨b, off, hA, hg, hc⟩ := h hp
  exact ⟨b, off, hA, Nat.lt_of_lt_of_le hg hb.size, fun j hj => (hb.cell (p := ⟨b, off + j, none⟩) hg).trans (hc j hj)⟩
theorem SRow.drewN {w : World} {A : Option Addr} {T : List Str} (h : SRow w A T) (n : Nat) : SRow (w.drewN n) A T := h
theorem SRow.of_own {w : World} {B : Nat} {e : TypeId} {v : Value} {T : List Str} (h : w.ownsRow B e 1 v T.length (T.map encStr)) : ∃ A c, v = .slice A T.length c ∧ T.length ≤ c ∧ SRow w A T := by
  rcases h.2 with ⟨rfl, h0⟩ | ⟨g, cap, cur, rfl, hB, hh, hc, hm, hs, ht⟩
  · exact ⟨none, 0, by rw [h0], by omega, fun hp => by omega⟩
  · refine ⟨_, _, rfl, hc, fun hp => ⟨g, 0, rfl, (h.lt g rfl).2, fun j hj => ?_⟩⟩
    have e1 : (T.map encStr)[j]? = some (.string ⟨T[j].toArray⟩) := by
      rw [List.getElem?_map, List.getElem?_eq_getElem hj]; rfl
    rw [← ht, List.getElem?_take_of_lt (by omega)] at e1
    rw [Lib.cell_of_heap hh, Nat.zero_add, ← Array.getElem?_toList]
    exact e1
def TabAt (w : World) (B : Nat) (p : Value) (T : List Str) : Prop :=
  ∃ t v, p = .pointer (some ⟨t, 0, none⟩) ∧ B ≤ t ∧ w.heap[t]? = some (.cells #[v] 126 (0, 0)) ∧ w.ownsRow B 9 1 v T.length (T.map encStr)
theorem kept (w : World) (t : Nat) (v : Value) (h : w.cell? ⟨t, 0, none⟩ = some v) : Calls Tryz.prog 130 #[.pointer (some ⟨t, 0, none⟩)] w fun e w' => e = .returned v ∧ w = w' := by
  go_enter Tryz.func130, Tryz.ntmps130
  go_wp2
  go_ret
  exact ⟨rfl, rfl⟩
theorem len (w : World) (t : Nat) (A : Option Addr) (n c : Nat) (h : w.cell? ⟨t, 0, none⟩ = some (.slice A n c)) : Calls Tryz.prog 98 #[.pointer (some ⟨t, 0, none⟩)] w fun e w' => e = .returned (.int .i64 n) ∧ w = w' := by
  go_enter Tryz.func98, Tryz.ntmps98
  go_wp2_with (go_at_call 130; refine (kept _ _ _ h).mono ?_; rintro e w' ⟨rfl, rfl⟩)
  go_ret
  exact ⟨rfl, rfl⟩
def NewPost (ss : List Str) (w : World) (e : Ending) (w' : World) : Prop := ∃ p, e = .returned p ∧ TabAt w' w.heap.size p (tab ss) ∧ Below w.heap.size w w'
theorem tab_nil : tab [] = [] := by unfold tab srt; simp [Lib.compact, Lib.compactUpTo]
theorem new_nil (n : Nat) (c : Nat) (w : World) : Calls Tryz.prog 91 #[.slice none n c] w (NewPost [] w) := by
  go_enter Tryz.func91, Tryz.ntmps91
  go_wp2_with (first | (go_at_call 64; refine (Tryz.slices_Clone_string_nil _ _ _).mono ?_; rintro e w' ⟨rfl, rfl⟩) | (go_at_call 126; refine (Tryz.slices_Sort_string_none _ _ _).mono ?_; rintro e w' ⟨rfl, rfl⟩) | (go_at_call 127; refine (Tryz.slices_Compact_string_empty _ _ _).mono ?_; rintro e w' ⟨rfl, rfl⟩))
  go_ret
  exact ⟨_, rfl, ⟨_, _, rfl, Nat.le_refl _, heap_alloc_new _ _, by rw [tab_nil]; exact World.ownsRow_nil _ _ _ _⟩, (Below.refl _ _).alloc (Nat.le_refl _) _⟩
theorem srt_len (ls : List Str) : (srt ls).length = ls.length := List.length_mergeSort ..
theorem sortC (B g n c : Nat) (ls : List Str) (w : World) (h : w.ownsRow B 9 1 (.slice (some ⟨g, 0, none⟩) n c) n (ls.map encStr)) (hn : n ≤ 1000000) :
    Calls Tryz.prog 126 #[.slice (some ⟨g, 0, none⟩) n c] w fun e w' => e = .returned (.tuple #[]) ∧ w'.ownsRow B 9 1 (.slice (some ⟨g, 0, none⟩) n c) n ((srt ls).map encStr) ∧ Below B w w' := by
  obtain ⟨g', cap', e1, hg, hlt, hnc, hm, hl, hH⟩ := Lib.holds_of_ownsRow h (by simp)
  injection e1 with e1 _ e3
  injection e1 with e1
  injection e1 with e1
  subst e1; subst e3
  obtain ⟨cur, hb, hs⟩ : ∃ cur, w.heap[g]? = some (.cells cur 9 (0, 0)) ∧ cur.size = c * 1 := by
    rcases h.2 with ⟨e0, _⟩ | ⟨g'', cap'', cur, e0, _, hh, _, _, hs, _⟩
    · simp at e0
    · injection e0 with e1 _ e3
      injection e1 with e1
      injection e1 with e1
      subst e1; subst e3
      exact ⟨cur, hh, hs⟩
  subst hl
  refine (Tryz.slices_Sort_string g 0 c ls w hH hlt (by omega)).mono ?_
  rintro e w' ⟨rfl, q, os, rfl⟩
  refine ⟨rfl, ownsRow_sorted (srt_len ls) hg hb hnc hm hs, (Below.refl B w).grown (grownBy_sorted _) (by omega) (fun k hk => by injection hk with hk; omega)⟩
theorem compactC (B g n c : Nat) (ls : List Str) (w : World) (h : w.ownsRow B 9 1 (.slice (some ⟨g, 0, none⟩) n c) n (ls.map encStr)) (hn : n ≤ 1000000) :
    Calls Tryz.prog 127 #[.slice (some ⟨g, 0, none⟩) n c] w fun e w' => ∃ v, e = .returned v ∧ w'.ownsRow B 9 1 v (Lib.compact ls).length ((Lib.compact ls).map encStr) ∧ Below B w w' := by
  obtain ⟨g', cap', e1, hg, hlt, hnc, hm, hl, hH⟩ := Lib.holds_of_ownsRow h (by simp)
  injection e1 with e1 _ e3
  injection e1 with e1
  injection e1 with e1
  subst e1; subst e3
  subst hl
  refine (Tryz.slices_Compact_string g 0 c ls w hH (by omega) (by omega)).mono ?_
  rintro e w' ⟨rfl, q, rfl⟩
  have hle := Lib.compact_length_le ls
  have h2 := Lib.ownsRow_putRow (q := q) (k := (Lib.compact ls).length) (ys := Lib.compact ls ++ List.replicate (ls.length - (Lib.compact ls).length) []) h (by simp; omega) hle
  rw [List.take_left] at h2
  exact ⟨_, rfl, h2, Lib.below_putRow (Below.refl B w) hg⟩
theorem own_slice {w : World} {B : Nat} {e : TypeId} {v : Value} {n : Nat} {xs : List Value} (h : w.ownsRow B e 1 v n xs) (hv : v ≠ .slice none 0 0) : ∃ g c, v = .slice (some ⟨g, 0, none⟩) n c := by
  rcases h.2 with ⟨e0, _⟩ | ⟨g, c, cur, e0, _⟩
  · exact absurd e0 hv
  · exact ⟨g, c, e0⟩
theorem own_form {w : World} {B : Nat} {e : TypeId} {size : Nat} {v : Value} {n : Nat} {xs : List Value} (h : w.ownsRow B e size v n xs) : ∃ A n c, v = .slice A n c := by
  rcases h.2 with ⟨e0, _⟩ | ⟨g, c, cur, e0, _⟩ <;> exact ⟨_, _, _, e0⟩
theorem new_own (args : Value) (ss : List Str) (w : World) (hn : ss.length ≤ 1000000)
    (hclone : Calls Tryz.prog 64 #[args] w fun e w' => ∃ v, e = .returned v ∧ w'.ownsRow w.heap.size 9 1 v ss.length (ss.map encStr) ∧ v ≠ .slice none 0 0 ∧ Below w.heap.size w w') :
    Calls Tryz.prog 91 #[args] w (NewPost ss w) := by
  have H := Lib.hid hclone
  clear hclone
  go_enter Tryz.func91, Tryz.ntmps91
  go_wp2_with (go_at_call 64; refine H.out.mono ?_)
  rintro e w1 ⟨v, rfl, hown, hv, hb1⟩
  obtain ⟨g, c, rfl⟩ := own_slice hown hv
  go_wp2_with (go_at_call 126; refine (sortC w.heap.size g _ c _ _ hown hn).mono ?_)
  rintro e w2 ⟨rfl, hown2, hb2⟩
  go_wp2_with (go_at_call 127; refine (compactC w.heap.size g _ c _ _ hown2 hn).mono ?_)
  rintro e w3 ⟨v3, rfl, hown3, hb3⟩
  have hb4 := (hb1.trans hb2).trans hb3
  clear hown hown2 hb1 hb2 hb3 hv
  obtain ⟨A3, n3, c3, rfl⟩ := own_form hown3
  go_wp2
  go_ret
  exact ⟨_, rfl, ⟨_, _, rfl, hb4.size, heap_alloc_new _ _, hown3.alloc _⟩, hb4.alloc hb4.size _⟩
def enB (l : Str) : ByteArray := ⟨l.toArray⟩
theorem map_enB (ss : List Str) : (ss.map enB).map Value.string = ss.map encStr := by
  rw [List.map_map]; rfl
theorem new (A : Option Addr) (c : Nat) (ss : List Str) (w : World) (hn : ss.length ≤ 1000000) (h : SRow w A ss) : Calls Tryz.prog 91 #[.slice A ss.length c] w (NewPost ss w) := by
  rcases A with _ | ad
  · have : ss = [] := by
      cases ss with
      | nil => rfl
      | cons a l => obtain ⟨_, _, e, _⟩ := h (by simp); cases e
    subst this
    exact new_nil _ _ _
  · by_cases h0 : 0 < ss.length
    · obtain ⟨b, off, e, _, hc⟩ := h h0
      injection e with e
      subst e
      refine new_own _ ss w hn ?_
      have := Tryz.slices_Clone_string b off ss.length c (ss.map enB) w (by simp) (by omega) (fun j hj => by
        rw [List.length_map] at hj
        rw [hc j hj, List.getD_eq_getElem?_getD, List.getElem?_map, List.getElem?_eq_getElem hj]; rfl)
      rw [List.take_of_length_le (by simp), map_enB] at this
      exact this
    · have : ss = [] := List.eq_nil_of_length_eq_zero (by omega)
      subst this
      refine new_own _ [] w (by simp) ?_
      exact Tryz.slices_Clone_string_zero ad c w
end Go.Proofs.YtblapgfilbmdhaaGreatDoor.Tab1
namespace Go.Proofs.YtblapgfilbmdhaaGreatDoor.Tab2
open Go.RowKit Go.Sort Go.Proofs Plain Tab1 TabP
set_option maxRecDepth 100000 in
theorem closure (lb sb g off n c k : Nat) (x s : ByteArray) (w : World) (hk : k < n) (hl : w.cell? ⟨lb, 0, none⟩ = some (.slice (some ⟨g, off, none⟩) n c)) (hs : w.cell? ⟨sb, 0, none⟩ = some (.string s)) (hx : w.cell? ⟨g, off + k, none⟩ = some (.string x)) :
    Calls Tryz.prog 142 #[.int .i64 k, .pointer (some ⟨lb, 0, none⟩), .pointer (some ⟨sb, 0, none⟩)] w fun e w' => e = .returned (.bool (!Op.bytesLess x.toList s.toList)) ∧ ∃ m, w' = w.drewN m := by
  go_enter Tryz.func142, Tryz.ntmps142
  go_wp2_with fail
  go_quiet (fail)
  go_wp2
  go_ret
  exact ⟨rfl, _, rfl⟩
def SearchPost (T : List Str) (s : Str) (w : World) (e : Ending) (w' : World) : Prop :=
  ∃ a : Nat, e = .returned (.int .i64 a) ∧ a ≤ T.length ∧ (∀ k, (h : k < T.length) → k < a → T[k] < s) ∧ (∀ k, (h : k < T.length) → a ≤ k → ¬ T[k] < s) ∧ ∃ m, w' = w.drewN m
theorem mid_cast (a b : Nat) : (((a : Int) + (b : Int)) / 2) = (((a + b) / 2 : Nat) : Int) := by omega
set_option maxRecDepth 100000 in
theorem search (lb sb c : Nat) (A : Option Addr) (T : List Str) (s : ByteArray) (w : World) (hn : T.length ≤ 1000000) (hsorted : T.Pairwise (· < ·))
    (hl : w.cell? ⟨lb, 0, none⟩ = some (.slice A T.length c)) (hs : w.cell? ⟨sb, 0, none⟩ = some (.string s)) (hT : SRow w A T) :
    Calls Tryz.prog 141 #[.int .i64 T.length, .func (.func 142) #[] #[.pointer (some ⟨lb, 0, none⟩), .pointer (some ⟨sb, 0, none⟩)]] w (SearchPost T s.toList w) := by
  have HT := Lib.hid hT
  have HS := Lib.hid hsorted
  clear hT hsorted
  go_enter Tryz.func141, Tryz.ntmps141
  go_wp2_with fail
  go_loopw [5, 6] (fun i j wr => ∃ a b : Nat, a ≤ b ∧ b ≤ T.length ∧ i = .int .i64 a ∧ j = .int .i64 b ∧ Hid (∀ k, (h : k < T.length) → k < a → T[k] < s.toList) ∧ Hid (∀ k, (h : k < T.length) → b ≤ k → ¬ T[k] < s.toList) ∧ ∃ m, wr = w.drewN m) (fun i j _ => (intOf j).toNat - (intOf i).toNat)
  case atStart => exact ⟨0, T.length, by omega, by omega, rfl, rfl, Lib.hid fun k _ h => by omega, Lib.hid fun k h1 h2 => by omega, 0, rfl⟩
  case round =>
    obtain ⟨a, b, hab, hb, rfl, rfl, hlo, hhi, m, rfl⟩ := hrel
    by_cases h : a < b
    · have hkT : (a + b) / 2 < T.length := by omega
      obtain ⟨g, off, rfl, hg, hc⟩ := HT.out (by omega)
      have hx := hc ((a + b) / 2) hkT
      have Hle := Lib.hid (show ∀ i j, (h1 : i < T.length) → (h2 : j < T.length) → i < j → T[i] < T[j] from fun i j h1 h2 hij => List.pairwise_iff_getElem.1 HS.out i j h1 h2 hij)
      clear hc
      cases hlt : Op.bytesLess T[(a + b) / 2] s.toList
      · have hnew : Hid (∀ k, (h : k < T.length) → (a + b) / 2 ≤ k → ¬ T[k] < s.toList) := Lib.hid fun k hk h1 h2 => by
          rw [bytesLess_eq, decide_eq_false_iff_not] at hlt
          by_cases e : (a + b) / 2 = k
          · subst e; exact hlt h2
          · exact hlt (List.lt_trans (Hle.out _ _ hkT hk (by omega)) h2)
        clear hhi
        go_wp2_with fail
        rw [mid_cast]
        refine (closure lb sb g off T.length c ((a + b) / 2) _ s (w.drewN m) hkT hl hs hx).mono ?_
        rintro e w' ⟨rfl, m', rfl⟩
        go_wp2_with fail
        go_roundw
        case rel => exact ⟨a, (a + b) / 2, by omega, by omega, rfl, by go_num, hlo, hnew, _, rfl⟩
        case measure => simp [intOf]; omega
      · have hnew : Hid (∀ k, (h : k < T.length) → k < (a + b) / 2 + 1 → T[k] < s.toList) := Lib.hid fun k hk h1 => by
          rw [bytesLess_eq, decide_eq_true_iff] at hlt
          by_cases e : (a + b) / 2 = k
          · subst e; exact hlt
          · exact List.lt_trans (Hle.out _ _ hk hkT (by omega)) hlt
        clear hlo
        go_wp2_with fail
        rw [mid_cast]
        refine (closure lb sb g off T.length c ((a + b) / 2) _ s (w.drewN m) hkT hl hs hx).mono ?_
        rintro e w' ⟨rfl, m', rfl⟩
        go_wp2_with fail
        go_roundw
        case rel => exact ⟨(a + b) / 2 + 1, b, by omega, by omega, by go_num, rfl, hnew, hhi, _, rfl⟩
        case measure => simp [intOf]; omega
    · have e : a = b := by omega
      have hfin : Hid (∀ k, (h : k < T.length) → a ≤ k → ¬ T[k] < s.toList) := Lib.hid fun k hk h1 => hhi.out k hk (by omega)
      clear e hhi
      go_wp2_with fail
      go_ret
      exact ⟨a, rfl, by omega, hlo.out, hfin.out, _, rfl⟩
def findI (T : List Str) (s : Str) : Int := if s ∈ T then ((T.idxOf s : Nat) : Int) else -1
theorem findI_hit {T : List Str} {s : Str} (hs : T.Pairwise (· < ·)) {a : Nat} (h : a < T.length) (e : T[a] = s) : findI T s = a := by
  have hm : s ∈ T := by rw [← e]; exact List.getElem_mem _
  unfold findI
  rw [if_pos hm]
  have hlt := List.idxOf_lt_length_iff.2 hm
  have h1 : T[T.idxOf s] = s := List.getElem_idxOf hlt
  have hp := List.pairwise_iff_getElem.1 hs
  rcases Nat.lt_trichotomy (T.idxOf s) a with h2 | h2 | h2
  · have := hp _ _ hlt h h2
    rw [h1, e] at this
    exact absurd this (List.lt_irrefl _)
  · rw [h2]
  · have := hp _ _ h hlt h2
    rw [h1, e] at this
    exact absurd this (List.lt_irrefl _)
theorem findI_miss {T : List Str} {s : Str} (h : s ∉ T) : findI T s = -1 := by unfold findI; rw [if_neg h]
theorem miss_of {T : List Str} {s : Str} (hs : T.Pairwise (· < ·)) {a : Nat} (hlo : ∀ k, (h : k < T.length) → k < a → T[k] < s) (hhi : ∀ k, (h : k < T.length) → a ≤ k → ¬ T[k] < s) (hne : ∀ h : a < T.length, T[a] ≠ s) : s ∉ T := by
  intro hm
  obtain ⟨k, hk, e⟩ := List.getElem_of_mem hm
  rcases Nat.lt_trichotomy k a with h2 | h2 | h2
  · have := hlo k hk h2
    rw [e] at this
    exact List.lt_irrefl _ this
  · subst h2
    exact hne hk e
  · have ha : a < T.length := by omega
    have := List.pairwise_iff_getElem.1 hs _ _ ha hk h2
    rw [e] at this
    exact hhi a ha (Nat.le_refl _) this
def FindPost (T : List Str) (s : Str) (w : World) (e : Ending) (w' : World) : Prop := e = .returned (.int .i64 (findI T s)) ∧ Below w.heap.size w w'
set_option maxHeartbeats 800000 in
set_option maxRecDepth 100000 in
theorem find_row (p : Value) (c : Nat) (A : Option Addr) (T : List Str) (s : ByteArray) (w : World) (hn : T.length ≤ 1000000) (hsorted : T.Pairwise (· < ·)) (hT : SRow w A T)
    (hkept : ∀ w', Below w.heap.size w w' → Calls Tryz.prog 130 #[p] w' fun e w'' => e = .returned (.slice A T.length c) ∧ w' = w'') :
    Calls Tryz.prog 102 #[p, .string s] w (FindPost T s.toList w) := by
  have hmf : ∀ (fn : Fn) (first cap : Array Value) (w : World), (Instr.makeFunc fn first cap).run Tryz.prog w = .ok (.func fn first cap) w := fun _ _ _ _ => rfl
  have HK := Lib.hid hkept
  clear hkept
  have HT := Lib.hid hT
  have HS := Lib.hid hsorted
  clear hT hsorted
  go_enter Tryz.func102, Tryz.ntmps102
  go_wp2_with (go_at_call 130; refine (HK.out _ ((Below.refl _ _).alloc (Nat.le_refl _) _)).mono ?_; rintro e w' ⟨rfl, rfl⟩)
  have hcl : ((w.alloc (.cells #[.string s] 9)).alloc (.cells #[.slice A T.length c] 32)).cell? ⟨w.heap.size + 1, 0, none⟩ = some (.slice A T.length c) := by
    rw [World.cell?_alloc_at _ _ _ _ (by simp)]; rfl
  have hcs : ((w.alloc (.cells #[.string s] 9)).alloc (.cells #[.slice A T.length c] 32)).cell? ⟨w.heap.size, 0, none⟩ = some (.string s) := by
    rw [World.cell?_alloc_past _ _ _ (by simp), World.cell?_alloc_at _ _ _ _ rfl]; rfl
  have hb : Below w.heap.size w ((w.alloc (.cells #[.string s] 9)).alloc (.cells #[.slice A T.length c] 32)) := ((Below.refl _ _).alloc (Nat.le_refl _) _).alloc (by simp) _
  have HT2 := Lib.hid (HT.out.keep hb)
  clear HT
  generalize (w.alloc (.cells #[.string s] 9)).alloc (.cells #[.slice A T.length c] 32) = W at *
  refine (search (w.heap.size + 1) w.heap.size c A T s W hn HS.out hcl hcs HT2.out).mono ?_
  rintro e w2 ⟨a, rfl, ha, hlo, hhi, m, rfl⟩
  by_cases hend : a = T.length
  · have hfin : Hid (findI T s.toList = -1) := Lib.hid (findI_miss (miss_of HS.out hlo hhi (fun h => by omega)))
    have he : ((a : Int) == (T.length : Int)) = true := by simp; omega
    clear hlo hhi hend
    go_wp2_with fail
    go_quiet (fail)
    go_wp2
    go_ret
    exact ⟨by rw [hfin.out]; rfl, below_drewN (below_drewN hb _) _⟩
  · have hlt : a < T.length := by omega
    have he : ((a : Int) == (T.length : Int)) = false := by simp; omega
    obtain ⟨g, off, rfl, hg, hc⟩ := HT2.out (by omega)
    have hx := hc a hlt
    clear hc
    by_cases hs : T[a] = s.toList
    · have hfin := Lib.hid (findI_hit HS.out hlt hs)
      have h1 : (T[a] == s.toList) = true := by simpa using hs
      have h2 : (T[a] != s.toList) = false := by simpa using hs
      clear hlo hhi hend hs
      go_wp2_with fail
      go_quiet (fail)
      go_wp2
      go_ret
      exact ⟨by rw [hfin.out]; rfl, below_drewN (below_drewN hb _) _⟩
    · have hfin : Hid (findI T s.toList = -1) := Lib.hid (findI_miss (miss_of HS.out hlo hhi (fun _ => hs)))
      have h1 : (T[a] == s.toList) = false := by simpa using hs
      have h2 : (T[a] != s.toList) = true := by simpa using hs
      clear hlo hhi hend hs
      go_wp2_with fail
      go_quiet (fail)
      go_wp2
      go_ret
      exact ⟨by rw [hfin.out]; rfl, below_drewN (below_drewN hb _) _⟩
theorem find (t : Nat) (T : List Str) (A : Option Addr) (c : Nat) (s : ByteArray) (w : World) (hn : T.length ≤ 1000000) (hsorted : T.Pairwise (· < ·)) (hT : SRow w A T) (ht : t < w.heap.size) (h : w.cell? ⟨t, 0, none⟩ = some (.slice A T.length c)) :
    Calls Tryz.prog 102 #[.pointer (some ⟨t, 0, none⟩), .string s] w (FindPost T s.toList w) :=
  find_row _ c A T s w hn hsorted hT (fun w' hb => kept w' t _ ((hb.cell (p := ⟨t, 0, none⟩) ht).trans h))
end Go.Proofs.YtblapgfilbmdhaaGreatDoor.Tab2
namespace Go.Proofs.YtblapgfilbmdhaaGreatDoor.Tab3
open Go.RowKit Go.Sort Go.Proofs Plain Tab1 Tab2 TabP
set_option maxRecDepth 100000 in
theorem same (A B : Option Addr) (ca cb : Nat) (T : List Str) (w : World) (hL : T.length ≤ 1000000) (hA : SRow w A T) (hB : SRow w B T) :
    Calls Tryz.prog 40 #[.slice A T.length ca, .slice B T.length cb] w fun e w' => e = .returned (.bool true) ∧ ∃ n, w' = w.drewN n := by
  go_enter Tryz.func40, Tryz.ntmps40
  go_wp2
  go_loopw [13] (fun i wr => ∃ k : Nat, k ≤ T.length ∧ i = .int .i64 k ∧ ∃ n, wr = w.drewN n) (fun i _ => T.length - (intOf i).toNat)
  case atStart => exact ⟨0, by omega, rfl, 0, rfl⟩
  case round =>
    obtain ⟨k, hk, rfl, n, rfl⟩ := hrel
    by_cases hlt : k < T.length
    · obtain ⟨g1, o1, rfl, _, h1⟩ := hA (by omega)
      obtain ⟨g2, o2, rfl, _, h2⟩ := hB (by omega)
      have a1 := h1 k hlt
      have a2 := h2 k hlt
      clear h1 h2 hA hB
      go_wp2_with fail
      go_quiet (fail)
      go_wp2_with fail
      go_roundw
      case rel => exact ⟨k + 1, by omega, by go_num, _, rfl⟩
      case measure => simp [intOf]; omega
    · go_wp2_with fail
      go_ret
      exact ⟨rfl, _, rfl⟩
theorem has (A : Option Addr) (c : Nat) (T : List Str) (s : ByteArray) (w : World) (hL : T.length ≤ 1000000) (hA : SRow w A T) :
    Calls Tryz.prog 10 #[.slice A T.length c, .string s] w fun e w' => e = .returned (.bool (decide (s.toList ∈ T))) ∧ w = w' := by
  go_enter Tryz.func10, Tryz.ntmps10
  go_wp2
  go_loop [9] (fun i => ∃ k : Nat, k ≤ T.length ∧ i = .int .i64 k ∧ Hid (∀ j, (h : j < T.length) → j < k → T[j] ≠ s.toList)) (fun i => T.length - (intOf i).toNat)
  case atStart => exact ⟨0, by omega, rfl, Lib.hid fun j _ h => by omega⟩
  case round =>
    obtain ⟨k, hk, rfl, hall⟩ := hrel
    by_cases hlt : k < T.length
    · obtain ⟨g1, o1, rfl, _, h1⟩ := hA (by omega)
      have a1 := h1 k hlt
      clear h1 hA
      by_cases he : T[k] = s.toList
      · have hin : Hid (decide (s.toList ∈ T) = true) := Lib.hid (decide_eq_true (by rw [← he]; exact List.getElem_mem _))
        have e1 : (T[k] == s.toList) = true := by simpa using he
        clear he hall
        go_wp2_with fail
        go_ret
        exact ⟨ret_bool hin.out.symm, rfl⟩
      · have e1 : (T[k] == s.toList) = false := by simpa using he
        have hnext : Hid (∀ j, (h : j < T.length) → j < k + 1 → T[j] ≠ s.toList) := Lib.hid fun j h hj => by
          by_cases e : j = k
          · subst e; exact he
          · exact hall.out j h (by omega)
        clear he hall
        go_wp2_with fail
        go_round
        case rel => exact ⟨k + 1, by omega, by go_num, hnext⟩
        case measure => simp [intOf]; omega
    · have hin : Hid (decide (s.toList ∈ T) = false) := Lib.hid (decide_eq_false (fun hm => by
        obtain ⟨j, hj, e⟩ := List.getElem_of_mem hm
        exact hall.out j hj (by omega) e))
      clear hall
      go_wp2_with fail
      go_ret
      exact ⟨ret_bool hin.out.symm, rfl⟩
abbrev Pow (w : World) : Prop := Lib.TabIs Tryz.prog w "internal/strconv.uint64pow10" .u64 Lib.pow10Tab
theorem powNamed : Tryz.prog.globalNamed "internal/strconv.uint64pow10" = some 1 := by kernel_rfl
theorem Pow.keep {w w' : World} (h : Pow w) (hg : 1 < w.heap.size) (hb : Below w.heap.size w w') : Pow w' := var?_below hb powNamed hg h
theorem infoStr : (Tryz.prog.info? 9).map (fun i => (i.zero, i.size, i.bytes)) = some (some (.string ⟨#[]⟩), 1, 16) := by kernel_rfl
theorem own_keep {w w' : World} {base : Nat} {e : TypeId} {size : Nat} {v : Value} {n : Nat} {xs : List Value} (h : w.ownsRow base e size v n xs) (hb : Below w.heap.size w w') : w'.ownsRow base e size v n xs := by
  refine ⟨h.1, ?_⟩
  rcases h.2 with h0 | ⟨g, cap, cur, rfl, hB, hh, r⟩
  · exact .inl h0
  · exact .inr ⟨g, cap, cur, rfl, hB, (hb.block g (h.lt g rfl).2).trans hh, r⟩
theorem new_cell1 (w : World) (a : Value) (t : TypeId) : ∀ j u, [a][j]? = some u → (w.alloc (.cells #[a] t)).cell? ((⟨w.heap.size, 0, none⟩ : Addr).add j) = some u := by
  intro j u hj
  match j, hj with
  | 0, hj => simp at hj; subst hj; simp [Addr.add]
theorem below_grow (w : World) (os : Array Obj) : Below w.heap.size w (grow w os) :=
  ⟨rfl, rfl, rfl, by simp [grow], fun k hk => heap_grow_old w os hk⟩
theorem itoa_nat (k : Nat) : Lib.itoa ((k : Int) + 1) = Lib.decDigits (k + 1) := by
  unfold Lib.itoa
  rw [if_neg (by omega)]
  rfl
theorem itoaC (k : Nat) (w : World) (hk : k ≤ 1000000) (hp : Pow w) : Calls Tryz.prog 171 #[.int .i64 ((k : Int) + 1)] w fun e w' => e = .returned (.string ⟨(Lib.decDigits (k + 1)).toArray⟩) ∧ Below w.heap.size w w' := by
  refine (Tryz.strconv_Itoa _ (by omega) (by omega) w hp).mono ?_
  rintro e w' ⟨rfl, q, os, rfl⟩
  exact ⟨by rw [itoa_nat], (below_drewN (Below.refl _ _) q).trans (below_grow (w.drewN q) os)⟩
theorem cat_xs (k : Nat) : (⟨#[88]⟩ ++ ⟨(Lib.decDigits k).toArray⟩ : ByteArray) = ⟨(xs k).toArray⟩ := by
  apply ByteArray.ext
  rw [ByteArray.data_append]
  apply Array.ext'
  simp [xs]
theorem findI_ge {T : List Str} {s : Str} (h : s ∈ T) : 0 ≤ findI T s := by unfold findI; rw [if_pos h]; omega
def FreshPost (T : List Str) (n : Int) (w : World) (e : Ending) (w' : World) : Prop :=
  ∃ v, e = .returned v ∧ w'.ownsRow w.heap.size 9 1 v (fr T n (1000 + T.length)).length ((fr T n (1000 + T.length)).map encStr) ∧ Below w.heap.size w w'
set_option maxHeartbeats 800000 in
set_option maxRecDepth 100000 in
theorem fresh (p : Value) (T : List Str) (n : Int) (w : World) (hn0 : -9223372036854775808 ≤ n) (hn1 : n ≤ 9223372036854775807) (hT : T.length ≤ 100000) (hpow : Pow w) (hg : 1 < w.heap.size)
    (hfind : ∀ (s : ByteArray) w', Below w.heap.size w w' → Calls Tryz.prog 102 #[p, .string s] w' (FindPost T s.toList w')) :
    Calls Tryz.prog 131 #[p, .int .i64 n] w (FreshPost T n w) := by
  obtain ⟨i0, hi, hz0, hz1, hz2⟩ := info_parts infoStr
  have HF := Lib.hid hfind
  have HP := Lib.hid hpow
  clear hfind hpow
  go_enter Tryz.func131, Tryz.ntmps131
  go_wp2_with fail
  go_loopw [5, 6] (fun v i wr => ∃ m : Nat, m ≤ 1000 + T.length ∧ i = .int .i64 ((m + 1 : Nat) : Int) ∧ wr.ownsRow w.heap.size 9 1 v (fr T n m).length ((fr T n m).map encStr) ∧ Below w.heap.size w wr) (fun _ i _ => 1002 + T.length - (intOf i).toNat)
  case atStart => exact ⟨0, by omega, rfl, World.ownsRow_nil _ _ _ _, Below.refl _ _⟩
  case round =>
    obtain ⟨m, hm, rfl, hown, hbel⟩ := hrel
    have hlen := fr_len T n m
    obtain ⟨A, c, rfl, hc, hrow⟩ := SRow.of_own hown
    by_cases hroom : ((fr T n m).length : Int) < n ∧ (fr T n m).length < 1000
    · have hd : decide (((fr T n m).length : Int) < min n 1000) = true := by rw [decide_eq_true_iff]; omega
      have hmm := fr_enough T n m hroom.1 hroom.2
      have hx := Lib.hid (show (⟨(xs (m + 1)).toArray⟩ : ByteArray).toList = xs (m + 1) from by rw [Go.ByteArray.toList_eq])
      have hdl : 1 + (Lib.decDigits (m + 1)).length ≤ 100 := by rw [Lib.decDigits_length]; have := Lib.nDigits_le20 (m + 1) (by omega); omega
      have hb16 : (fr T n m).length ≤ 1000 := hlen.2.1
      by_cases hin : xs (m + 1) ∈ T
      · have hnext := Lib.hid (fr_not (T := T) (n := n) (m := m) (fun h => h.2.2 hin))
        have hge := Lib.hid (findI_ge hin)
        have hd2 : decide (findI T (xs (m + 1)) < 0) = false := by rw [decide_eq_false_iff_not]; have := hge.out; omega
        clear hin
        go_wp2_with (go_at_call 171; refine (itoaC m _ (by omega) (HP.out.keep hg hbel)).mono ?_)
        rintro e w1 ⟨rfl, hb1⟩
        have hbel1 := hbel.trans (hb1.mono hbel.size)
        have hown1 := own_keep hown hb1
        clear hown hrow hbel hb1
        go_wp2_with fail
        rw [cat_xs]
        refine (HF.out _ _ hbel1).mono ?_
        rintro e w2 ⟨rfl, hb2⟩
        rw [hx.out]
        have hbel2 := hbel1.trans (hb2.mono hbel1.size)
        have hown2 := own_keep hown1 hb2
        clear hown1 hbel1 hb2
        go_wp2_with fail
        go_roundw
        case rel => exact ⟨m + 1, by omega, by go_num, by rw [hnext.out]; exact hown2, hbel2⟩
        case measure => simp [intOf]; omega
      · have hnext := Lib.hid (fr_add (T := T) (n := n) (m := m) hroom.1 hroom.2 hin)
        have hge := Lib.hid (findI_miss hin)
        have hd2 : decide (findI T (xs (m + 1)) < 0) = true := by rw [decide_eq_true_iff]; have := hge.out; omega
        clear hin
        go_wp2_with (go_at_call 171; refine (itoaC m _ (by omega) (HP.out.keep hg hbel)).mono ?_)
        rintro e w1 ⟨rfl, hb1⟩
        have hbel1 := hbel.trans (hb1.mono hbel.size)
        have hown1 := own_keep hown hb1
        clear hown hrow hbel hb1
        go_wp2_with fail
        rw [cat_xs]
        refine (HF.out _ _ hbel1).mono ?_
        rintro e w2 ⟨rfl, hb2⟩
        rw [hx.out]
        have hbel2 := hbel1.trans (hb2.mono hbel1.size)
        have hown2 := own_keep hown1 hb2
        clear hown1 hbel1 hb2
        go_wp2_with (at_builtin; refine wpList_append_own _ rfl _ _ 32 rfl w.heap.size 9 i0 (.string ⟨#[]⟩) 1 16 Tryz.underlying32 hi hz0 hz1 hz2 rfl (by decide) _ _ _ rfl (hown2.alloc _) ⟨w2.heap.size, 0, none⟩ 1 1 [.string ⟨(xs (m + 1)).toArray⟩] rfl rfl ?c1 ?c2 ?c3 ?c4 ?c5 ?_)
        case c1 => exact new_cell1 _ _ _
        case c2 => intro u hu; simp at hu; subst hu; rfl
        case c3 => unfold maxLen; omega
        case c4 => omega
        case c5 => have := hbel2.size; simp; omega
        intro v' w3 hown3 hgrow _
        have hbel3 := (hbel2.alloc hbel2.size _).grown hgrow (by have := hbel2.size; simp; omega) (fun k hk => (hown2.lt k hk).1)
        have hown4 : w3.ownsRow w.heap.size 9 1 v' (fr T n (m + 1)).length ((fr T n (m + 1)).map encStr) := by
          rw [hnext.out, List.length_append, List.map_append]
          exact hown3
        clear hown2 hown3 hbel2 hgrow
        go_wp2_with fail
        go_roundw
        case rel => exact ⟨m + 1, by omega, by go_num, hown4, hbel3⟩
        case measure => simp [intOf]; omega
    · have hd : decide (((fr T n m).length : Int) < min n 1000) = false := by rw [decide_eq_false_iff_not]; omega
      have hfin : Hid (fr T n (1000 + T.length) = fr T n m) := Lib.hid (by
        have := fr_done hroom (1000 + T.length - m)
        rw [show m + (1000 + T.length - m) = 1000 + T.length from by omega] at this
        exact this)
      go_wp2_with fail
      go_ret
      exact ⟨_, rfl, by rw [hfin.out]; exact hown, hbel⟩
end Go.Proofs.YtblapgfilbmdhaaGreatDoor.Tab3
namespace Go.Proofs.YtblapgfilbmdhaaGreatDoor.Laid
open Go.RowKit Tab3
theorem tab_of_mem {P : Program} {w : World} {name : String} {k : IntKind} {zs : List Int} {g : Nat} {t e : TypeId} {n : Nat}
    (hg : P.globalNamed name = some g) (hty : (P.globals[g]?).map (·.type) = some t) (ht : P.underlying t = some (.array n e)) (he : P.underlying e = some (.int k)) (hce : P.cellsOf e = 1) (hct : P.cellsOf t = n) :
    ∀ {l : List (String × DataW Unit)} {ps : List MemPlace}, DataW.LaidVars P w l ps → (name, Lib.tabData k zs) ∈ l → Lib.TabIs P w name k zs
  | [], _, _, hm => by simp at hm
  | (m, d) :: l, ps, ⟨g', t', cs, fuel, p, q, hg', ht', hvar, hd, hr, _⟩, hm => by
    rw [List.mem_cons] at hm
    rcases hm with hm | hm
    · injection hm with h1 h2
      subst h1 h2
      obtain rfl := Option.some.inj (hg.symm.trans hg')
      obtain rfl := Option.some.inj (hty.symm.trans ht')
      unfold Lib.TabIs
      rw [hvar, ← Lib.cells_of_tab ht he hce hct hd]
    · exact tab_of_mem hg hty ht he hce hct hr hm
theorem powType : (Tryz.prog.globals[1]?).map (·.type) = some 268 := by kernel_rfl
theorem cellsPow : Tryz.prog.cellsOf 268 = 20 := by kernel_rfl
theorem cellsU64 : Tryz.prog.cellsOf 157 = 1 := by kernel_rfl
theorem pow_lt {W : World} (h : Pow W) : 1 < W.heap.size := by
  have h1 := h.cell powNamed 0 (by rw [Lib.pow10Tab_length]; omega)
  exact World.block_lt_of_cell? _ _ h1
theorem pow_of_laid {W : World} {l : List (String × DataW Unit)} (h : laidMet Tryz.prog l W) (hm : ("internal/strconv.uint64pow10", Lib.tabData .u64 Lib.pow10Tab) ∈ l) : Pow W := by
  obtain ⟨ps, hv, _⟩ := h
  exact tab_of_mem powNamed powType Tryz.underlying268 Tryz.underlying157 cellsU64 cellsPow hv hm
def putTab (w : World) (g : Nat) (k : IntKind) (zs : List Int) : World :=
  { w with heap := w.heap.modify g fun
      | .cells _ t frozen => .cells (zs.map fun z => Value.int k z).toArray t frozen
      | o => o }
def de32 : List Int := [0, 1, 28, 2, 29, 14, 24, 3, 30, 22, 20, 15, 25, 17, 4, 8, 31, 27, 13, 23, 21, 19, 16, 7, 26, 12, 18, 6, 11, 5, 10, 9]
def de64 : List Int := [0, 1, 56, 2, 57, 49, 28, 3, 61, 58, 42, 50, 38, 29, 17, 4, 62, 47, 59, 36, 45, 43, 51, 22, 53, 39, 33, 30, 24, 18, 12, 5, 63, 55, 48, 27, 60, 41, 37, 16, 46, 35, 44, 21, 52, 32, 23, 11, 54, 26, 40, 15, 34, 20, 31, 10, 25, 14, 19, 9, 13, 8, 7, 6]
noncomputable def laidWorld (os : Os) : World :=
  putTab (putTab (putTab (World.holding Tryz.prog os ⟨#[], #[], []⟩) 1 .u64 Lib.pow10Tab) 2 .u8 de32) 0 .u8 de64
end Go.Proofs.YtblapgfilbmdhaaGreatDoor.Laid
namespace Go.Proofs.YtblapgfilbmdhaaGreatDoor.SynP
open Go.RowKit Plain
structure Rl where
  owner : ByteArray
  name : ByteArray
  deriving DecidableEq
structure St where
  kind : Int
  head : Rl
  who : ByteArray
  a : Rl
  b : Rl
  via : ByteArray
  deriving DecidableEq
def Rl.val (r : Rl) : Value := .agg #[.string r.owner, .string r.name]
def St.cells (s : St) : List Value := [.int .i64 s.kind, .string s.head.owner, .string s.head.name, .string s.who, .string s.a.owner, .string s.a.name, .string s.b.owner, .string s.b.name, .string s.via]
def St.val (s : St) : Value := .agg #[.int .i64 s.kind, .string s.head.owner, .string s.head.name, .string s.who, .string s.a.owner, .string s.a.name, .string s.b.owner, .string s.b.name, .string s.via]
def Rl.ok (r : Rl) : Bool := named capB r.owner.data.toList && named smallB r.name.data.toList
def Rl.light (r : Rl) : Prop := r.owner.size ≤ maxLen ∧ r.name.size ≤ maxLen
def St.fit (s : St) : Prop := s.head.light ∧ s.who.size ≤ maxLen ∧ s.a.light ∧ s.b.light ∧ s.via.size ≤ maxLen
def strLt (a b : ByteArray) : Bool := decide (a.data.toList < b.data.toList)
def cmpB (a b : ByteArray) : Int := if strLt a b then -1 else if strLt b a then 1 else 0
def orL : List Int → Int
  | [] => 0
  | x :: l => if x ≠ 0 then x else orL l
def cmpR (r s : Rl) : Int := orL [cmpB r.owner s.owner, cmpB r.name s.name]
def cmpN (a b : Int) : Int := if a < b then -1 else if a > b then 1 else 0
def cmpS (s t : St) : Int := orL [cmpR s.head t.head, cmpN s.kind t.kind, cmpB s.who t.who, cmpR s.a t.a, cmpR s.b t.b, cmpB s.via t.via]
theorem ba_ext {a b : ByteArray} (h : a.data.toList = b.data.toList) : a = b := by
  apply ByteArray.ext; apply Array.ext'; exact h
theorem strLt_irrefl (a : ByteArray) : strLt a a = false := by unfold strLt; exact decide_eq_false (List.lt_irrefl _)
theorem strLt_asymm {a b : ByteArray} (h : strLt a b = true) : strLt b a = false := by
  unfold strLt at *
  exact decide_eq_false (List.lt_asymm (of_decide_eq_true h))
theorem strLt_trans {a b c : ByteArray} (h : strLt a b = true) (h2 : strLt b c = true) : strLt a c = true := by
  unfold strLt at *
  exact decide_eq_true (List.lt_trans (of_decide_eq_true h) (of_decide_eq_true h2))
theorem strLt_total {a b : ByteArray} (h : strLt a b = false) (h2 : strLt b a = false) : a = b := by
  unfold strLt at *
  exact ba_ext (List.le_antisymm (of_decide_eq_false h2) (of_decide_eq_false h))
theorem cmpB_eq {a b : ByteArray} : cmpB a b = 0 ↔ a = b := by
  unfold cmpB
  constructor
  · intro h
    cases h1 : strLt a b <;> cases h2 : strLt b a <;> simp [h1, h2] at h
    exact strLt_total h1 h2
  · rintro rfl; simp [strLt_irrefl]
theorem cmpB_anti (a b : ByteArray) : cmpB b a = - cmpB a b := by
  unfold cmpB
  cases h1 : strLt a b <;> cases h2 : strLt b a <;> simp
  rw [strLt_asymm h1] at h2; cases h2
theorem cmpB_lt {a b : ByteArray} : cmpB a b < 0 ↔ strLt a b = true := by
  unfold cmpB
  cases h1 : strLt a b <;> cases h2 : strLt b a <;> simp
def noText : ByteArray := ⟨#[]⟩
def zeroR : Rl := ⟨noText, noText⟩
def zeroS : St := ⟨0, zeroR, noText, zeroR, zeroR, noText⟩
def St.says (s : St) : Bool := if s.kind = 1 then named capB s.who.data.toList else if s.kind = 2 then s.a.ok else if s.kind = 3 then s.a.ok && named smallB s.via.data.toList else if s.kind = 4 then s.a.ok && s.b.ok && !decide (cmpR s.b s.a < 0) else false
def St.own (s : St) : St := if s.kind = 1 then ⟨s.kind, s.head, s.who, zeroR, zeroR, noText⟩ else if s.kind = 2 then ⟨s.kind, s.head, noText, s.a, zeroR, noText⟩ else if s.kind = 3 then ⟨s.kind, s.head, noText, s.a, zeroR, s.via⟩ else if s.kind = 4 then ⟨s.kind, s.head, noText, s.a, s.b, noText⟩ else ⟨s.kind, s.head, noText, zeroR, zeroR, noText⟩
def St.right (s : St) : Bool := s.head.ok && s.says && decide (s = s.own)
def St.normal (s : St) : St := if s.kind = 4 ∧ cmpR s.b s.a < 0 then ⟨s.kind, s.head, s.who, s.b, s.a, s.via⟩ else s
end Go.Proofs.YtblapgfilbmdhaaGreatDoor.SynP
namespace Go.Proofs.YtblapgfilbmdhaaGreatDoor.SynQ
open Go.RowKit Plain SynP
end Go.Proofs.YtblapgfilbmdhaaGreatDoor.SynQ
namespace Go.Proofs.YtblapgfilbmdhaaGreatDoor.Scan1
open Go.RowKit Plain Leaf Named
end Go.Proofs.YtblapgfilbmdhaaGreatDoor.Scan1
namespace Go.Proofs.YtblapgfilbmdhaaGreatDoor.Scan2
open Go.RowKit Plain Leaf Named Scan1
end Go.Proofs.YtblapgfilbmdhaaGreatDoor.Scan2
namespace Go.Proofs.YtblapgfilbmdhaaGreatDoor.Scan3
open Go.RowKit Plain Leaf Named Scan1 Scan2
end Go.Proofs.YtblapgfilbmdhaaGreatDoor.Scan3
