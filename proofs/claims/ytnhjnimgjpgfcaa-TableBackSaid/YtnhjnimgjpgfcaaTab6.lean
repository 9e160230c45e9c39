/- What is light; decimal numerals and fresh texts of the document. -/
import Derived.Test.YtnhjnimgjpgfcaaTab5
import Derived.Laws.BytesArg
namespace Go.Proofs.Ytnhjnimgjpgfcaa.Tab6
open Go.RowKit Go.Sort Go.Proofs Go.Proofs.Ytnhjnimgjpgfcaa.Plain Go.Proofs.Ytnhjnimgjpgfcaa.Tab1 Go.Proofs.Ytnhjnimgjpgfcaa.Tab2 Go.Proofs.Ytnhjnimgjpgfcaa.Tab3 Go.Proofs.Ytnhjnimgjpgfcaa.Tab4 Go.Proofs.Ytnhjnimgjpgfcaa.Tab5 Go.Proofs.Ytnhjnimgjpgfcaa.TabP
def lightB (ls : List Str) : Bool := decide (ls.length ≤ 40) && ls.all fun s => decide (s.length ≤ 40)
theorem light (A : Option Addr) (c : Nat) (ls : List Str) (w : World) (hL : ls.length ≤ maxLen) (hw : ∀ s ∈ ls, s.length ≤ maxLen) (hA : SRow w A ls) :
    Calls Try.prog 6 #[.slice A ls.length c] w fun e w' => e = .returned (.bool (lightB ls)) ∧ w = w' := by
  unfold maxLen at hL
  by_cases h40 : ls.length ≤ 40
  · go_enter Try.func6, Try.ntmps6
    go_wp2
    go_loop [10] (fun i => ∃ k : Nat, k ≤ ls.length ∧ i = .int .i64 k ∧ Hid (∀ j, (h : j < ls.length) → j < k → ls[j].length ≤ 40)) (fun i => ls.length - (intOf i).toNat)
    case atStart => exact ⟨0, by omega, rfl, Lib.hid fun j _ h => by omega⟩
    case round =>
      obtain ⟨k, hk, rfl, hall⟩ := hrel
      by_cases hlt : k < ls.length
      · obtain ⟨g, off, rfl, hg, hcell⟩ := hA (by omega)
        have hx := hcell k hlt
        have hm := hw ls[k] (List.getElem_mem _)
        unfold maxLen at hm
        clear hcell
        by_cases h : ls[k].length ≤ 40
        · have hnext : Hid (∀ j, (h : j < ls.length) → j < k + 1 → ls[j].length ≤ 40) := Lib.hid fun j hj h2 => by
            by_cases e : j = k
            · subst e; exact h
            · exact hall.out j hj (by omega)
          clear hall
          go_wp2_with fail
          go_round
          case rel => exact ⟨k + 1, by omega, by go_num, hnext⟩
          case measure => simp [intOf]; omega
        · have hf : Hid (lightB ls = false) := Lib.hid (by
            unfold lightB
            have : (ls.all fun s => decide (s.length ≤ 40)) = false := by
              rw [List.all_eq_false]
              exact ⟨ls[k], List.getElem_mem _, by simpa using h⟩
            rw [this]; simp)
          clear hall
          go_wp2_with fail
          go_ret
          exact ⟨ret_bool hf.out.symm, rfl⟩
      · have hf : Hid (lightB ls = true) := Lib.hid (by
          unfold lightB
          have : (ls.all fun s => decide (s.length ≤ 40)) = true := by
            rw [List.all_eq_true]
            intro x hx
            obtain ⟨j, hj, rfl⟩ := List.getElem_of_mem hx
            exact decide_eq_true (hall.out j hj (by omega))
          rw [this, decide_eq_true h40]; rfl)
        clear hall
        go_wp2_with fail
        go_ret
        exact ⟨ret_bool hf.out.symm, rfl⟩
  · have hf : Hid (lightB ls = false) := Lib.hid (by unfold lightB; rw [decide_eq_false h40]; rfl)
    go_enter Try.func6, Try.ntmps6
    go_wp2
    go_ret
    exact ⟨ret_bool hf.out.symm, rfl⟩
def dgt (m : Nat) : UInt8 := UInt8.ofNat (48 + m % 10)
def oneB (c : UInt8) : ByteArray := ⟨#[c]⟩
theorem oneB_size (c : UInt8) : (oneB c).size = 1 := rfl
theorem cat_bytes (c : UInt8) (l : Str) : (oneB c ++ ⟨l.toArray⟩ : ByteArray) = ⟨(c :: l).toArray⟩ := by
  unfold oneB
  apply ByteArray.ext
  rw [ByteArray.data_append]
  apply Array.ext'
  simp
theorem dec_pow {m k : Nat} (hk : k < 20) (h : m < 10 ^ (20 - k)) (h10 : ¬ m < 10) : m / 10 < 10 ^ (20 - (k + 1)) ∧ k + 1 < 20 := by
  have hk2 : k + 1 < 20 := by
    rcases Nat.lt_or_ge (k + 1) 20 with h1 | h1
    · exact h1
    · have : k = 19 := by omega
      subst this
      exact absurd h h10
  refine ⟨?_, hk2⟩
  rw [show 20 - k = (20 - (k + 1)) + 1 from by omega, Nat.pow_succ] at h
  omega
def DecPost (N : Nat) (w : World) (e : Ending) (w' : World) : Prop := e = .returned (.string ⟨(Lib.decDigits N).toArray⟩) ∧ Below w.heap.size w w'
end Go.Proofs.Ytnhjnimgjpgfcaa.Tab6
