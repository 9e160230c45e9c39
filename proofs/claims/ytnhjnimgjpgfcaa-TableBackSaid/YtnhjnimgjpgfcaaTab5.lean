/- The document's own table and fresh texts: New, Dec, Fresh; what is light. -/
import Derived.Test.YtnhjnimgjpgfcaaTab4
namespace Go.Proofs.Ytnhjnimgjpgfcaa.Tab5
open Go.RowKit Go.Sort Go.Proofs Go.Proofs.Ytnhjnimgjpgfcaa.Plain Go.Proofs.Ytnhjnimgjpgfcaa.Tab1 Go.Proofs.Ytnhjnimgjpgfcaa.Tab2 Go.Proofs.Ytnhjnimgjpgfcaa.Tab3 Go.Proofs.Ytnhjnimgjpgfcaa.Tab4 Go.Proofs.Ytnhjnimgjpgfcaa.TabP
def newTo (ls : List Str) (k : Nat) : List Str := (ls.take k).foldl putL []
theorem newTo_succ {ls : List Str} {k : Nat} (h : k < ls.length) : newTo ls (k + 1) = putL (newTo ls k) ls[k] := by
  unfold newTo
  rw [List.take_succ_eq_append_getElem h, List.foldl_append]
  rfl
theorem putL_len (T : List Str) (s : Str) : (putL T s).length ≤ T.length + 1 := by
  unfold putL
  split
  · omega
  · have h := insTo_len T s T.length (Nat.le_refl _)
    unfold insAll
    split
    · exact h.1
    · rename_i hd
      have := h.2 (by simpa using hd)
      simp; omega
theorem newTo_len (ls : List Str) (k : Nat) (h : k ≤ ls.length) : (newTo ls k).length ≤ k := by
  induction k with
  | zero => simp [newTo]
  | succ k ih =>
    rw [newTo_succ (by omega)]
    have := ih (by omega)
    have := putL_len (newTo ls k) ls[k]
    omega
structure Inv (T : List Str) (s : Str) (k : Nat) (a : List Str) (d : Bool) : Prop where
  up : a.Pairwise (· < ·)
  mem : ∀ x, x ∈ a ↔ x ∈ T.take k ∨ (d = true ∧ x = s)
  far : ∀ x ∈ a, ∀ j, (h : j < T.length) → k ≤ j → x < T[j]
  low : d = false → ∀ x ∈ a, x < s
theorem inv_step {T : List Str} {s : Str} (hT : T.Pairwise (· < ·)) (hs : s ∉ T) : ∀ k, k ≤ T.length → Inv T s k (insTo T s k).1 (insTo T s k).2 := by
  have hp := List.pairwise_iff_getElem.1 hT
  intro k
  induction k with
  | zero => intro _; exact ⟨by simp [insTo], by simp [insTo], by simp [insTo], by simp [insTo]⟩
  | succ k ih =>
    intro hk
    have h := ih (by omega)
    have hlt : k < T.length := by omega
    have htake : T.take (k + 1) = T.take k ++ [T[k]] := List.take_succ_eq_append_getElem hlt
    cases hd : (insTo T s k).2
    · have hlow := h.low hd
      by_cases hsx : s < T[k]
      · rw [ins_put hlt hd (by rw [bytesLess_eq]; exact decide_eq_true hsx)]
        refine ⟨?_, ?_, ?_, by simp⟩
        · rw [List.pairwise_append, List.pairwise_append]
          refine ⟨⟨h.up, by simp, fun x hx y hy => ?_⟩, by simp, fun x hx y hy => ?_⟩
          · rw [List.mem_singleton] at hy; subst hy; exact hlow x hx
          · rw [List.mem_singleton] at hy; subst hy
            rw [List.mem_append, List.mem_singleton] at hx
            rcases hx with hx | hx
            · exact h.far x hx k hlt (Nat.le_refl _)
            · subst hx; exact hsx
        · intro x
          rw [htake]
          have := h.mem x
          rw [hd] at this
          simp only [List.mem_append, List.mem_singleton] at *
          rw [this]
          simp
          constructor
          · rintro ((h | h) | h) <;> simp [h]
          · rintro ((h | h) | h) <;> simp [h]
        · intro x hx j hj hkj
          rw [List.mem_append, List.mem_append, List.mem_singleton, List.mem_singleton] at hx
          rcases hx with (hx | hx) | hx
          · exact h.far x hx j hj (by omega)
          · subst hx; exact List.lt_trans hsx (hp k j hlt hj (by omega))
          · subst hx; exact hp k j hlt hj (by omega)
      · rw [ins_no hlt hd (by rw [bytesLess_eq]; exact decide_eq_false hsx)]
        have hne : T[k] ≠ s := fun e => hs (by rw [← e]; exact List.getElem_mem _)
        have hxs : T[k] < s := Std.lt_of_le_of_ne (List.not_lt.1 hsx) hne
        refine ⟨?_, ?_, ?_, ?_⟩
        · rw [List.pairwise_append]
          refine ⟨h.up, by simp, fun x hx y hy => ?_⟩
          rw [List.mem_singleton] at hy; subst hy
          exact h.far x hx k hlt (Nat.le_refl _)
        · intro x
          rw [htake]
          have := h.mem x
          rw [hd] at this
          simp only [List.mem_append, List.mem_singleton] at *
          rw [this]
          simp
        · intro x hx j hj hkj
          rw [List.mem_append, List.mem_singleton] at hx
          rcases hx with hx | hx
          · exact h.far x hx j hj (by omega)
          · subst hx; exact hp k j hlt hj (by omega)
        · intro _ x hx
          rw [List.mem_append, List.mem_singleton] at hx
          rcases hx with hx | hx
          · exact hlow x hx
          · subst hx; exact hxs
    · rw [ins_done hlt hd]
      refine ⟨?_, ?_, ?_, by simp⟩
      · rw [List.pairwise_append]
        refine ⟨h.up, by simp, fun x hx y hy => ?_⟩
        rw [List.mem_singleton] at hy; subst hy
        exact h.far x hx k hlt (Nat.le_refl _)
      · intro x
        rw [htake]
        have := h.mem x
        rw [hd] at this
        simp only [List.mem_append, List.mem_singleton] at *
        rw [this]
        simp
        constructor
        · rintro ((h | h) | h) <;> simp [h]
        · rintro ((h | h) | h) <;> simp [h]
      · intro x hx j hj hkj
        rw [List.mem_append, List.mem_singleton] at hx
        rcases hx with hx | hx
        · exact h.far x hx j hj (by omega)
        · subst hx; exact hp k j hlt hj (by omega)
theorem putL_rising {T : List Str} {s : Str} (hT : T.Pairwise (· < ·)) : (putL T s).Pairwise (· < ·) ∧ ∀ x, x ∈ putL T s ↔ x ∈ T ∨ x = s := by
  unfold putL
  split
  · rename_i h
    refine ⟨hT, fun x => ⟨fun hx => .inl hx, ?_⟩⟩
    rintro (hx | hx)
    · exact hx
    · subst hx; exact h
  · rename_i hs
    have h := inv_step hT hs T.length (Nat.le_refl _)
    unfold insAll
    split
    · rename_i hd
      refine ⟨h.up, fun x => ?_⟩
      rw [h.mem, List.take_length, hd]
      simp
    · rename_i hd
      have hd' : (insTo T s T.length).2 = false := by simpa using hd
      refine ⟨?_, fun x => ?_⟩
      · rw [List.pairwise_append]
        refine ⟨h.up, by simp, fun x hx y hy => ?_⟩
        rw [List.mem_singleton] at hy; subst hy
        exact h.low hd' x hx
      · rw [List.mem_append, h.mem, List.take_length, hd']
        simp
theorem newTo_rising (ls : List Str) : ∀ k, k ≤ ls.length → (newTo ls k).Pairwise (· < ·) ∧ ∀ x, x ∈ newTo ls k ↔ x ∈ ls.take k := by
  intro k
  induction k with
  | zero => intro _; simp [newTo]
  | succ k ih =>
    intro hk
    obtain ⟨h1, h2⟩ := ih (by omega)
    rw [newTo_succ (by omega), List.take_succ_eq_append_getElem (by omega)]
    obtain ⟨h3, h4⟩ := putL_rising (s := ls[k]) h1
    refine ⟨h3, fun x => ?_⟩
    rw [h4, h2, List.mem_append, List.mem_singleton]
theorem newTo_tab (ls : List Str) : newTo ls ls.length = tab ls := by
  obtain ⟨h1, h2⟩ := newTo_rising ls ls.length (Nat.le_refl _)
  exact eq_of_rising h1 (tab_sorted ls) fun x => by rw [h2, List.take_length, mem_tab]
def RowPost (M : List Str) (w : World) (e : Ending) (w' : World) : Prop := ∃ v, e = .returned v ∧ w'.ownsRow w.heap.size 9 1 v M.length (M.map encStr) ∧ Below w.heap.size w w'
set_option maxRecDepth 100000 in
theorem newRef (A : Option Addr) (c : Nat) (ls : List Str) (w : World) (hL : ls.length ≤ 100000) (hA : SRow w A ls) :
    Calls Try.prog 10 #[.slice A ls.length c] w (RowPost (tab ls) w) := by
  have HT := Lib.hid (newTo_tab ls)
  go_enter Try.func10, Try.ntmps10
  go_wp2
  go_loopw [3, 8] (fun v i wr => ∃ k : Nat, k ≤ ls.length ∧ i = .int .i64 k ∧ wr.ownsRow w.heap.size 9 1 v (newTo ls k).length ((newTo ls k).map encStr) ∧ Below w.heap.size w wr) (fun _ i _ => ls.length - (intOf i).toNat)
  case atStart => exact ⟨0, by omega, rfl, World.ownsRow_nil _ _ _ _, Below.refl _ _⟩
  case round =>
    obtain ⟨k, hk, rfl, hown, hbel⟩ := hrel
    have hlen := newTo_len ls k hk
    obtain ⟨A1, c1, rfl, _, _⟩ := SRow.of_own hown
    by_cases hlt : k < ls.length
    · obtain ⟨g, off, rfl, hg, hcell⟩ := hA (by omega)
      have hx := (hbel.cell (p := ⟨g, off + k, none⟩) hg).trans (hcell k hlt)
      have hn := Lib.hid (newTo_succ hlt)
      have he := Lib.hid (show (⟨ls[k].toArray⟩ : ByteArray).toList = ls[k] from by rw [Go.ByteArray.toList_eq])
      clear hcell
      go_wp2_with (go_at_call 34; refine (put w.heap.size A1 c1 _ _ _ (by omega) hbel.size hown).mono ?_)
      rintro e w1 ⟨v1, rfl, hown1, hb1⟩
      rw [he.out, ← hn.out] at hown1
      have hbel1 := hbel.trans hb1
      clear hown hbel hb1 hx
      go_wp2_with fail
      go_roundw
      case rel => exact ⟨k + 1, by omega, by go_num, hown1, hbel1⟩
      case measure => simp [intOf]; omega
    · have e : k = ls.length := by omega
      subst e
      rw [HT.out] at hown
      have hown' := Lib.hid hown
      go_wp2_with fail
      go_ret
      exact ⟨_, rfl, by rw [HT.out]; exact hown, hbel⟩
end Go.Proofs.Ytnhjnimgjpgfcaa.Tab5
