/- The document's Place, Role and Rule, by contract. -/
import Derived.Test.YtnhjnimgjpgfcaaTblC
import Derived.Test.YtnhjnimgjpgfcaaSyn9
import Derived.Deep.QuietTactic
import Derived.BigQuiet
namespace Go.Proofs.Ytnhjnimgjpgfcaa.TblG
open Go.RowKit Go.Sort Go.Lib Go.Proofs Go.Proofs.Ytnhjnimgjpgfcaa.Plain Go.Proofs.Ytnhjnimgjpgfcaa.SynP Go.Proofs.Ytnhjnimgjpgfcaa.TabP Go.Proofs.Ytnhjnimgjpgfcaa.Tab1 Go.Proofs.Ytnhjnimgjpgfcaa.Tab2 Go.Proofs.Ytnhjnimgjpgfcaa.RolK Go.Proofs.Ytnhjnimgjpgfcaa.TblA Go.Proofs.Ytnhjnimgjpgfcaa.TblB Go.Proofs.Ytnhjnimgjpgfcaa.TblC
set_option linter.unusedVariables false
set_option linter.unusedSimpArgs false
theorem findI_first {T : List Str} {s : Str} {k : Nat} (h : k < T.length) (e : T[k] = s) (hn : ∀ j, j < k → (hj : j < T.length) → T[j] ≠ s) : findI T s = k := by
  have hm : s ∈ T := e ▸ List.getElem_mem h
  unfold findI
  rw [if_pos hm]
  have h1 := List.idxOf_lt_length_of_mem hm
  have h2 : T[T.idxOf s] = s := List.getElem_idxOf h1
  rcases Nat.lt_trichotomy (T.idxOf s) k with hlt | heq | hgt
  · exact absurd h2 (hn _ hlt h1)
  · rw [heq]
  · have := List.not_of_lt_findIdx (p := (· == s)) (xs := T) (i := k) (by simpa [List.idxOf] using hgt)
    simp [e] at this
section
set_option maxRecDepth 100000
theorem place (A : Option Addr) (c : Nat) (T : List Str) (s : ByteArray) (w : World) (hL : T.length ≤ 1000000) (hA : SRow w A T) :
    Calls Try.prog 38 #[.slice A T.length c, .string s] w fun e w' => e = .returned (.int .i64 (findI T s.toList)) ∧ w = w' := by
  have HF := Lib.hid (fun k h e hn => findI_first (T := T) (s := s.toList) (k := k) h e hn)
  have HM := Lib.hid (fun h => findI_miss (T := T) (s := s.toList) h)
  have HA := Lib.hid hA
  clear hA
  go_enter Try.func38, Try.ntmps38
  go_wp2_with fail
  go_loop [9] (fun i => ∃ k : Nat, k ≤ T.length ∧ i = .int .i64 k ∧ Hid (∀ j, j < k → (hj : j < T.length) → T[j] ≠ s.toList)) (fun i => T.length - (intOf i).toNat)
  case atStart => exact ⟨0, by omega, rfl, Lib.hid (fun j hj => by omega)⟩
  case round =>
    obtain ⟨k, hk, rfl, hall⟩ := hrel
    by_cases hlt : k < T.length
    · obtain ⟨g, o, rfl, hg, hc⟩ := HA.out (by omega)
      have a0 := hc k hlt
      have p1 : (0 : Int) ≤ k := by omega
      have p2 : (k : Int) < T.length := by omega
      clear hc
      by_cases he : T[k] = s.toList
      · have hfin := Lib.hid (HF.out k hlt he hall.out)
        have hq : ((⟨T[k].toArray⟩ : ByteArray).toList == s.toList) = true := by
          rw [Go.ByteArray.toList_eq]; simpa using he
        clear hall he
        generalize (⟨T[k].toArray⟩ : ByteArray) = x at *
        go_wp2_with fail
        go_ret
        exact ⟨ret_int hfin.out.symm, rfl⟩
      · have hnext : Hid (∀ j, j < k + 1 → (hj : j < T.length) → T[j] ≠ s.toList) := Lib.hid (fun j hj h => by
          by_cases e : j = k
          · subst e; exact he
          · exact hall.out j (by omega) h)
        have hq : ((⟨T[k].toArray⟩ : ByteArray).toList == s.toList) = false := by
          rw [Go.ByteArray.toList_eq]; simpa using he
        clear hall he
        generalize (⟨T[k].toArray⟩ : ByteArray) = x at *
        go_wp2_with fail
        go_round
        case rel => exact ⟨k + 1, by omega, by go_num, hnext⟩
        case measure => simp [intOf]; omega
    · have hfin := Lib.hid (HM.out (fun hm => by
        obtain ⟨j, hj, e⟩ := List.getElem_of_mem hm
        exact hall.out j (by omega) hj e))
      clear hall
      go_wp2_with fail
      go_ret
      exact ⟨ret_int hfin.out.symm, rfl⟩
set_option maxHeartbeats 1000000 in
theorem roleRef (A B : Option Addr) (ca cb : Nat) (P L : List Str) (r : Rl) (w : World) (hP : P.length ≤ 100000) (hL : L.length ≤ 100000) (hA : SRow w A P) (hB : SRow w B L) :
    Calls Try.prog 14 #[.slice A P.length ca, .slice B L.length cb, r.val] w fun e w' => e = .returned (.int .i64 (roleI P L r)) ∧ RowKit.Below w.heap.size w w' := by
  have b1 := findI_bd P r.owner.toList
  have b2 := findI_bd L r.name.toList
  have H3 : Hid (∀ w', RowKit.Below w.heap.size w w' → Calls Try.prog 38 #[.slice A P.length ca, .string r.owner] w' fun e w'' => e = .returned (.int .i64 (findI P r.owner.toList)) ∧ w' = w'') := Lib.hid (fun w' hb => place A ca P r.owner w' (by omega) (hA.keep hb))
  have H4 : Hid (∀ w', RowKit.Below w.heap.size w w' → Calls Try.prog 38 #[.slice B L.length cb, .string r.name] w' fun e w'' => e = .returned (.int .i64 (findI L r.name.toList)) ∧ w' = w'') := Lib.hid (fun w' hb => place B cb L r.name w' (by omega) (hB.keep hb))
  obtain ⟨ro, rn⟩ := r
  obtain ⟨v, hv⟩ : ∃ v, roleI P L ⟨ro, rn⟩ = v := ⟨_, rfl⟩
  rw [hv]
  unfold roleI at hv
  unfold Rl.val
  simp only at *
  generalize findI P ro.toList = x at *
  generalize findI L rn.toList = y at *
  generalize P.length = n1 at *
  generalize L.length = n2 at *
  have HV := Lib.hid hv
  clear hA hB hv
  have hX := (Below.refl w.heap.size w).alloc (Nat.le_refl _) (.cells #[.string ro, .string rn] 24)
  generalize hW6 : w.alloc (.cells #[.string ro, .string rn] 24) = w6 at hX
  have hz6 : w6.heap.size = w.heap.size + 1 := by rw [← hW6]; simp
  have u1 : ∀ o, w6.drew.cell? ⟨w.heap.size, o, none⟩ = (#[.string ro, .string rn] : Array Value)[o]? := fun o => by
    show w6.cell? _ = _
    rw [← hW6]; exact Lib.cell_of_heap (heap_alloc_new w _) o
  have hz7 : w.heap.size < w6.heap.size := by omega
  have hst : RowKit.Below w6.heap.size w6 w6.drew ∧ (∀ o, w6.drew.cell? ⟨w.heap.size, o, none⟩ = (#[.string ro, .string rn] : Array Value)[o]?) := ⟨(Below.refl _ _).drew, u1⟩
  have HX := Lib.hid (fun w' (hb : RowKit.Below w6.heap.size w6 w') => hX.trans (hb.mono (by omega)))
  clear u1 hX
  go_enter Try.func14, Try.ntmps14
  go_wp2_with fail
  try rw [hW6]
  go_region_held3 (fun w' => RowKit.Below w6.heap.size w6 w' ∧ (∀ o, w'.cell? ⟨w.heap.size, o, none⟩ = (#[.string ro, .string rn] : Array Value)[o]?))
    (first | with_reducible exact hst | with_reducible assumption | exact keepB (by with_reducible assumption) hz7 (by with_reducible assumption))
    (first | ((with_reducible refine (H3.out _ (HX.out _ (by apply And.left; with_reducible assumption))).mono ?_); rintro e w' ⟨rfl, rfl⟩) | ((with_reducible refine (H4.out _ (HX.out _ (by apply And.left; with_reducible assumption))).mono ?_); rintro e w' ⟨rfl, rfl⟩))
  rename_i hHeld
  have HB1 := Lib.hid (HX.out _ hHeld.1)
  clear hHeld hst
  by_cases hx : x < 0
  · have hv := HV.out
    rw [if_pos (Or.inl hx)] at hv
    subst hv
    go_wp2_with fail
    go_ret
    exact ⟨rfl, HB1.out⟩
  · by_cases hy : y < 0
    · have hv := HV.out
      rw [if_pos (Or.inr hy)] at hv
      subst hv
      go_wp2_with fail
      go_ret
      exact ⟨rfl, HB1.out⟩
    · have hv := HV.out
      rw [if_neg (by omega)] at hv
      obtain ⟨x', rfl⟩ : ∃ q : Nat, x = q := ⟨x.toNat, by omega⟩
      obtain ⟨y', rfl⟩ : ∃ q : Nat, y = q := ⟨y.toNat, by omega⟩
      have hq : x' * n2 ≤ 10000000000 := Nat.mul_le_mul (show x' ≤ 100000 by omega) hL
      have hw : wrap64 (wrap64 ((x' : Int) * (n2 : Int)) + (y' : Int)) = v := by
        rw [← hv, ← Int.natCast_mul]; unfold wrap64; omega
      have HW := Lib.hid hw
      clear hv hw hq
      go_wp2_with fail
      go_ret
      exact ⟨ret_int HW.out, HB1.out⟩
end
end Go.Proofs.Ytnhjnimgjpgfcaa.TblG
