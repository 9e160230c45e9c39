/- Fresh texts, and rows held against each other. -/
import Derived.Test.YtnhjnimgjpgfcaaTab2
import Derived.IntWalk
import Derived.Lib.ItoaLen
namespace Go.Proofs.Ytnhjnimgjpgfcaa.Tab3
open Go.RowKit Go.Sort Go.Proofs Go.Proofs.Ytnhjnimgjpgfcaa.Plain Go.Proofs.Ytnhjnimgjpgfcaa.Tab1 Go.Proofs.Ytnhjnimgjpgfcaa.Tab2 Go.Proofs.Ytnhjnimgjpgfcaa.TabP
set_option maxRecDepth 100000 in
theorem same (A B : Option Addr) (ca cb : Nat) (T : List Str) (w : World) (hL : T.length ≤ 1000000) (hA : SRow w A T) (hB : SRow w B T) :
    Calls Try.prog 24 #[.slice A T.length ca, .slice B T.length cb] w fun e w' => e = .returned (.bool true) ∧ ∃ n, w' = w.drewN n := by
  go_enter Try.func24, Try.ntmps24
  go_wp2
  go_loopw [13] (fun i wr => ∃ k : Nat, k ≤ T.length ∧ i = .int .i64 k ∧ ∃ n, wr = w.drewN n) (fun i _ => T.length - (intOf i).toNat)
  case atStart => exact ⟨0, by omega, rfl, 0, rfl⟩
  case round =>
    obtain ⟨k, hk, rfl, n, rfl⟩ := hrel
    by_cases hlt : k < T.length
    · obtain ⟨g1, o1, rfl, _, h1⟩ := hA (by omega)
      obtain ⟨g2, o2, rfl, _, h2⟩ := hB (by omega)
      have a1 := h1 k hlt
      have a2 := h2 k hlt
      clear h1 h2 hA hB
      go_wp2_with fail
      go_quiet (fail)
      go_wp2_with fail
      go_roundw
      case rel => exact ⟨k + 1, by omega, by go_num, _, rfl⟩
      case measure => simp [intOf]; omega
    · go_wp2_with fail
      go_ret
      exact ⟨rfl, _, rfl⟩
theorem has (A : Option Addr) (c : Nat) (T : List Str) (s : ByteArray) (w : World) (hL : T.length ≤ 1000000) (hA : SRow w A T) :
    Calls Try.prog 56 #[.slice A T.length c, .string s] w fun e w' => e = .returned (.bool (decide (s.toList ∈ T))) ∧ w = w' := by
  go_enter Try.func56, Try.ntmps56
  go_wp2
  go_loop [9] (fun i => ∃ k : Nat, k ≤ T.length ∧ i = .int .i64 k ∧ Hid (∀ j, (h : j < T.length) → j < k → T[j] ≠ s.toList)) (fun i => T.length - (intOf i).toNat)
  case atStart => exact ⟨0, by omega, rfl, Lib.hid fun j _ h => by omega⟩
  case round =>
    obtain ⟨k, hk, rfl, hall⟩ := hrel
    by_cases hlt : k < T.length
    · obtain ⟨g1, o1, rfl, _, h1⟩ := hA (by omega)
      have a1 := h1 k hlt
      clear h1 hA
      by_cases he : T[k] = s.toList
      · have hin : Hid (decide (s.toList ∈ T) = true) := Lib.hid (decide_eq_true (by rw [← he]; exact List.getElem_mem _))
        have e1 : (T[k] == s.toList) = true := by simpa using he
        clear he hall
        go_wp2_with fail
        go_ret
        exact ⟨ret_bool hin.out.symm, rfl⟩
      · have e1 : (T[k] == s.toList) = false := by simpa using he
        have hnext : Hid (∀ j, (h : j < T.length) → j < k + 1 → T[j] ≠ s.toList) := Lib.hid fun j h hj => by
          by_cases e : j = k
          · subst e; exact he
          · exact hall.out j h (by omega)
        clear he hall
        go_wp2_with fail
        go_round
        case rel => exact ⟨k + 1, by omega, by go_num, hnext⟩
        case measure => simp [intOf]; omega
    · have hin : Hid (decide (s.toList ∈ T) = false) := Lib.hid (decide_eq_false (fun hm => by
        obtain ⟨j, hj, e⟩ := List.getElem_of_mem hm
        exact hall.out j hj (by omega) e))
      clear hall
      go_wp2_with fail
      go_ret
      exact ⟨ret_bool hin.out.symm, rfl⟩
abbrev Pow (w : World) : Prop := Lib.TabIs Try.prog w "internal/strconv.uint64pow10" .u64 Lib.pow10Tab
theorem infoStr : (Try.prog.info? 9).map (fun i => (i.zero, i.size, i.bytes)) = some (some (.string ⟨#[]⟩), 1, 16) := by kernel_rfl
theorem own_keep {w w' : World} {base : Nat} {e : TypeId} {size : Nat} {v : Value} {n : Nat} {xs : List Value} (h : w.ownsRow base e size v n xs) (hb : Below w.heap.size w w') : w'.ownsRow base e size v n xs := by
  refine ⟨h.1, ?_⟩
  rcases h.2 with h0 | ⟨g, cap, cur, rfl, hB, hh, r⟩
  · exact .inl h0
  · exact .inr ⟨g, cap, cur, rfl, hB, (hb.block g (h.lt g rfl).2).trans hh, r⟩
theorem new_cell1 (w : World) (a : Value) (t : TypeId) : ∀ j u, [a][j]? = some u → (w.alloc (.cells #[a] t)).cell? ((⟨w.heap.size, 0, none⟩ : Addr).add j) = some u := by
  intro j u hj
  match j, hj with
  | 0, hj => simp at hj; subst hj; simp [Addr.add]
theorem below_grow (w : World) (os : Array Obj) : Below w.heap.size w (grow w os) :=
  ⟨rfl, rfl, rfl, by simp [grow], fun k hk => heap_grow_old w os hk⟩
theorem itoa_nat (k : Nat) : Lib.itoa ((k : Int) + 1) = Lib.decDigits (k + 1) := by
  unfold Lib.itoa
  rw [if_neg (by omega)]
  rfl
theorem cat_xs (k : Nat) : (⟨#[88]⟩ ++ ⟨(Lib.decDigits k).toArray⟩ : ByteArray) = ⟨(xs k).toArray⟩ := by
  apply ByteArray.ext
  rw [ByteArray.data_append]
  apply Array.ext'
  simp [xs]
theorem findI_ge {T : List Str} {s : Str} (h : s ∈ T) : 0 ≤ findI T s := by unfold findI; rw [if_pos h]; omega
def FreshPost (T : List Str) (n : Int) (w : World) (e : Ending) (w' : World) : Prop :=
  ∃ v, e = .returned v ∧ w'.ownsRow w.heap.size 9 1 v (fr T n (1000 + T.length)).length ((fr T n (1000 + T.length)).map encStr) ∧ Below w.heap.size w w'
end Go.Proofs.Ytnhjnimgjpgfcaa.Tab3
