/- Where a text is in a table: Find. -/
import Derived.Test.YtnhjnimgjpgfcaaTab1
import Derived.Deep.QuietTactic
import Derived.BigQuiet
import Derived.WalkLawsBesides
import Derived.Sort.Walk0
namespace Go.Proofs.Ytnhjnimgjpgfcaa.Tab2
open Go.RowKit Go.Sort Go.Proofs Go.Proofs.Ytnhjnimgjpgfcaa.Plain Go.Proofs.Ytnhjnimgjpgfcaa.Tab1 Go.Proofs.Ytnhjnimgjpgfcaa.TabP
set_option maxRecDepth 100000 in
theorem closure (lb sb g off n c k : Nat) (x s : ByteArray) (w : World) (hk : k < n) (hl : w.cell? ⟨lb, 0, none⟩ = some (.slice (some ⟨g, off, none⟩) n c)) (hs : w.cell? ⟨sb, 0, none⟩ = some (.string s)) (hx : w.cell? ⟨g, off + k, none⟩ = some (.string x)) :
    Calls Try.prog 62 #[.int .i64 k, .pointer (some ⟨lb, 0, none⟩), .pointer (some ⟨sb, 0, none⟩)] w fun e w' => e = .returned (.bool (!Op.bytesLess x.toList s.toList)) ∧ ∃ m, w' = w.drewN m := by
  go_enter Try.func62, Try.ntmps62
  go_wp2_with fail
  go_quiet (fail)
  go_wp2
  go_ret
  exact ⟨rfl, _, rfl⟩
def SearchPost (T : List Str) (s : Str) (w : World) (e : Ending) (w' : World) : Prop :=
  ∃ a : Nat, e = .returned (.int .i64 a) ∧ a ≤ T.length ∧ (∀ k, (h : k < T.length) → k < a → T[k] < s) ∧ (∀ k, (h : k < T.length) → a ≤ k → ¬ T[k] < s) ∧ ∃ m, w' = w.drewN m
theorem mid_cast (a b : Nat) : (((a : Int) + (b : Int)) / 2) = (((a + b) / 2 : Nat) : Int) := by omega
set_option maxRecDepth 100000 in
theorem search (lb sb c : Nat) (A : Option Addr) (T : List Str) (s : ByteArray) (w : World) (hn : T.length ≤ 1000000) (hsorted : T.Pairwise (· < ·))
    (hl : w.cell? ⟨lb, 0, none⟩ = some (.slice A T.length c)) (hs : w.cell? ⟨sb, 0, none⟩ = some (.string s)) (hT : SRow w A T) :
    Calls Try.prog 61 #[.int .i64 T.length, .func (.func 62) #[] #[.pointer (some ⟨lb, 0, none⟩), .pointer (some ⟨sb, 0, none⟩)]] w (SearchPost T s.toList w) := by
  have HT := Lib.hid hT
  have HS := Lib.hid hsorted
  clear hT hsorted
  go_enter Try.func61, Try.ntmps61
  go_wp2_with fail
  go_loopw [5, 6] (fun i j wr => ∃ a b : Nat, a ≤ b ∧ b ≤ T.length ∧ i = .int .i64 a ∧ j = .int .i64 b ∧ Hid (∀ k, (h : k < T.length) → k < a → T[k] < s.toList) ∧ Hid (∀ k, (h : k < T.length) → b ≤ k → ¬ T[k] < s.toList) ∧ ∃ m, wr = w.drewN m) (fun i j _ => (intOf j).toNat - (intOf i).toNat)
  case atStart => exact ⟨0, T.length, by omega, by omega, rfl, rfl, Lib.hid fun k _ h => by omega, Lib.hid fun k h1 h2 => by omega, 0, rfl⟩
  case round =>
    obtain ⟨a, b, hab, hb, rfl, rfl, hlo, hhi, m, rfl⟩ := hrel
    by_cases h : a < b
    · have hkT : (a + b) / 2 < T.length := by omega
      obtain ⟨g, off, rfl, hg, hc⟩ := HT.out (by omega)
      have hx := hc ((a + b) / 2) hkT
      have Hle := Lib.hid (show ∀ i j, (h1 : i < T.length) → (h2 : j < T.length) → i < j → T[i] < T[j] from fun i j h1 h2 hij => List.pairwise_iff_getElem.1 HS.out i j h1 h2 hij)
      clear hc
      cases hlt : Op.bytesLess T[(a + b) / 2] s.toList
      · have hnew : Hid (∀ k, (h : k < T.length) → (a + b) / 2 ≤ k → ¬ T[k] < s.toList) := Lib.hid fun k hk h1 h2 => by
          rw [bytesLess_eq, decide_eq_false_iff_not] at hlt
          by_cases e : (a + b) / 2 = k
          · subst e; exact hlt h2
          · exact hlt (List.lt_trans (Hle.out _ _ hkT hk (by omega)) h2)
        clear hhi
        go_wp2_with fail
        rw [mid_cast]
        refine (closure lb sb g off T.length c ((a + b) / 2) _ s (w.drewN m) hkT hl hs hx).mono ?_
        rintro e w' ⟨rfl, m', rfl⟩
        go_wp2_with fail
        go_roundw
        case rel => exact ⟨a, (a + b) / 2, by omega, by omega, rfl, by go_num, hlo, hnew, _, rfl⟩
        case measure => simp [intOf]; omega
      · have hnew : Hid (∀ k, (h : k < T.length) → k < (a + b) / 2 + 1 → T[k] < s.toList) := Lib.hid fun k hk h1 => by
          rw [bytesLess_eq, decide_eq_true_iff] at hlt
          by_cases e : (a + b) / 2 = k
          · subst e; exact hlt
          · exact List.lt_trans (Hle.out _ _ hk hkT (by omega)) hlt
        clear hlo
        go_wp2_with fail
        rw [mid_cast]
        refine (closure lb sb g off T.length c ((a + b) / 2) _ s (w.drewN m) hkT hl hs hx).mono ?_
        rintro e w' ⟨rfl, m', rfl⟩
        go_wp2_with fail
        go_roundw
        case rel => exact ⟨(a + b) / 2 + 1, b, by omega, by omega, by go_num, rfl, hnew, hhi, _, rfl⟩
        case measure => simp [intOf]; omega
    · have e : a = b := by omega
      have hfin : Hid (∀ k, (h : k < T.length) → a ≤ k → ¬ T[k] < s.toList) := Lib.hid fun k hk h1 => hhi.out k hk (by omega)
      clear e hhi
      go_wp2_with fail
      go_ret
      exact ⟨a, rfl, by omega, hlo.out, hfin.out, _, rfl⟩
/-- The place of a text, -1 if it is not in. -/
def findI (T : List Str) (s : Str) : Int := if s ∈ T then ((T.idxOf s : Nat) : Int) else -1
theorem findI_hit {T : List Str} {s : Str} (hs : T.Pairwise (· < ·)) {a : Nat} (h : a < T.length) (e : T[a] = s) : findI T s = a := by
  have hm : s ∈ T := by rw [← e]; exact List.getElem_mem _
  unfold findI
  rw [if_pos hm]
  have hlt := List.idxOf_lt_length_iff.2 hm
  have h1 : T[T.idxOf s] = s := List.getElem_idxOf hlt
  have hp := List.pairwise_iff_getElem.1 hs
  rcases Nat.lt_trichotomy (T.idxOf s) a with h2 | h2 | h2
  · have := hp _ _ hlt h h2
    rw [h1, e] at this
    exact absurd this (List.lt_irrefl _)
  · rw [h2]
  · have := hp _ _ h hlt h2
    rw [h1, e] at this
    exact absurd this (List.lt_irrefl _)
theorem findI_miss {T : List Str} {s : Str} (h : s ∉ T) : findI T s = -1 := by unfold findI; rw [if_neg h]
theorem miss_of {T : List Str} {s : Str} (hs : T.Pairwise (· < ·)) {a : Nat} (hlo : ∀ k, (h : k < T.length) → k < a → T[k] < s) (hhi : ∀ k, (h : k < T.length) → a ≤ k → ¬ T[k] < s) (hne : ∀ h : a < T.length, T[a] ≠ s) : s ∉ T := by
  intro hm
  obtain ⟨k, hk, e⟩ := List.getElem_of_mem hm
  rcases Nat.lt_trichotomy k a with h2 | h2 | h2
  · have := hlo k hk h2
    rw [e] at this
    exact List.lt_irrefl _ this
  · subst h2
    exact hne hk e
  · have ha : a < T.length := by omega
    have := List.pairwise_iff_getElem.1 hs _ _ ha hk h2
    rw [e] at this
    exact hhi a ha (Nat.le_refl _) this
def FindPost (T : List Str) (s : Str) (w : World) (e : Ending) (w' : World) : Prop := e = .returned (.int .i64 (findI T s)) ∧ Below w.heap.size w w'
set_option maxHeartbeats 800000 in
set_option maxRecDepth 100000 in
theorem find_row (p : Value) (c : Nat) (A : Option Addr) (T : List Str) (s : ByteArray) (w : World) (hn : T.length ≤ 1000000) (hsorted : T.Pairwise (· < ·)) (hT : SRow w A T)
    (hkept : ∀ w', Below w.heap.size w w' → Calls Try.prog 40 #[p] w' fun e w'' => e = .returned (.slice A T.length c) ∧ w' = w'') :
    Calls Try.prog 39 #[p, .string s] w (FindPost T s.toList w) := by
  have hmf : ∀ (fn : Fn) (first cap : Array Value) (w : World), (Instr.makeFunc fn first cap).run Try.prog w = .ok (.func fn first cap) w := fun _ _ _ _ => rfl
  have HK := Lib.hid hkept
  clear hkept
  have HT := Lib.hid hT
  have HS := Lib.hid hsorted
  clear hT hsorted
  go_enter Try.func39, Try.ntmps39
  go_wp2_with (go_at_call 40; refine (HK.out _ ((Below.refl _ _).alloc (Nat.le_refl _) _)).mono ?_; rintro e w' ⟨rfl, rfl⟩)
  have hcl : ((w.alloc (.cells #[.string s] 9)).alloc (.cells #[.slice A T.length c] 22)).cell? ⟨w.heap.size + 1, 0, none⟩ = some (.slice A T.length c) := by
    rw [World.cell?_alloc_at _ _ _ _ (by simp)]; rfl
  have hcs : ((w.alloc (.cells #[.string s] 9)).alloc (.cells #[.slice A T.length c] 22)).cell? ⟨w.heap.size, 0, none⟩ = some (.string s) := by
    rw [World.cell?_alloc_past _ _ _ (by simp), World.cell?_alloc_at _ _ _ _ rfl]; rfl
  have hb : Below w.heap.size w ((w.alloc (.cells #[.string s] 9)).alloc (.cells #[.slice A T.length c] 22)) := ((Below.refl _ _).alloc (Nat.le_refl _) _).alloc (by simp) _
  have HT2 := Lib.hid (HT.out.keep hb)
  clear HT
  generalize (w.alloc (.cells #[.string s] 9)).alloc (.cells #[.slice A T.length c] 22) = W at *
  refine (search (w.heap.size + 1) w.heap.size c A T s W hn HS.out hcl hcs HT2.out).mono ?_
  rintro e w2 ⟨a, rfl, ha, hlo, hhi, m, rfl⟩
  by_cases hend : a = T.length
  · have hfin : Hid (findI T s.toList = -1) := Lib.hid (findI_miss (miss_of HS.out hlo hhi (fun h => by omega)))
    have he : ((a : Int) == (T.length : Int)) = true := by simp; omega
    clear hlo hhi hend
    go_wp2_with fail
    go_quiet (fail)
    go_wp2
    go_ret
    exact ⟨by rw [hfin.out]; rfl, below_drewN (below_drewN hb _) _⟩
  · have hlt : a < T.length := by omega
    have he : ((a : Int) == (T.length : Int)) = false := by simp; omega
    obtain ⟨g, off, rfl, hg, hc⟩ := HT2.out (by omega)
    have hx := hc a hlt
    clear hc
    by_cases hs : T[a] = s.toList
    · have hfin := Lib.hid (findI_hit HS.out hlt hs)
      have h1 : (T[a] == s.toList) = true := by simpa using hs
      have h2 : (T[a] != s.toList) = false := by simpa using hs
      clear hlo hhi hend hs
      go_wp2_with fail
      go_quiet (fail)
      go_wp2
      go_ret
      exact ⟨by rw [hfin.out]; rfl, below_drewN (below_drewN hb _) _⟩
    · have hfin : Hid (findI T s.toList = -1) := Lib.hid (findI_miss (miss_of HS.out hlo hhi (fun _ => hs)))
      have h1 : (T[a] == s.toList) = false := by simpa using hs
      have h2 : (T[a] != s.toList) = true := by simpa using hs
      clear hlo hhi hend hs
      go_wp2_with fail
      go_quiet (fail)
      go_wp2
      go_ret
      exact ⟨by rw [hfin.out]; rfl, below_drewN (below_drewN hb _) _⟩
theorem find_nil (s : ByteArray) (w : World) : Calls Try.prog 39 #[.pointer none, .string s] w (FindPost [] s.toList w) :=
  find_row _ 0 none [] s w (by simp) (by simp) (fun h => by simp at h) (fun w' _ => kept_nil w')
theorem find (t : Nat) (T : List Str) (A : Option Addr) (c : Nat) (s : ByteArray) (w : World) (hn : T.length ≤ 1000000) (hsorted : T.Pairwise (· < ·)) (hT : SRow w A T) (ht : t < w.heap.size) (h : w.cell? ⟨t, 0, none⟩ = some (.slice A T.length c)) :
    Calls Try.prog 39 #[.pointer (some ⟨t, 0, none⟩), .string s] w (FindPost T s.toList w) :=
  find_row _ c A T s w hn hsorted hT (fun w' hb => kept w' t _ ((hb.cell (p := ⟨t, 0, none⟩) ht).trans h))
end Go.Proofs.Ytnhjnimgjpgfcaa.Tab2
