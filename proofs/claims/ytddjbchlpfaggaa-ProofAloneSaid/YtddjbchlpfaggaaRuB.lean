/- Whether numbers are within a bound (below), by contract. -/
import Derived.Test.YtddjbchlpfaggaaRuA
import Derived.StillTailTactics
import Derived.Laws.Rows
import Derived.Deep.MidRow
namespace Go.Proofs.Ytddjbchlpfaggaa.TblB
open Go.RowKit Go.Lib Go.Proofs Go.Proofs.Ytddjbchlpfaggaa.Plain
set_option linter.unusedVariables false
set_option linter.unusedSimpArgs false
/-- A slice value that reads as numbers, wherever it lies. -/
def IG (w : World) (A : Option Addr) (zs : List Int) : Prop :=
  0 < zs.length → ∃ g o, A = some ⟨g, o, none⟩ ∧ g < w.heap.size ∧ ∀ j, (h : j < zs.length) → w.cell? ⟨g, o + j, none⟩ = some (.int .i64 zs[j])
theorem IG.below {w w' : World} {A : Option Addr} {zs : List Int} (h : IG w A zs) (hb : RowKit.Below w.heap.size w w') : IG w' A zs := fun hp => by
  obtain ⟨g, o, hA, hg, hc⟩ := h hp
  exact ⟨g, o, hA, Nat.lt_of_lt_of_le hg hb.size, fun j hj => (hb.cell (p := ⟨g, o + j, none⟩) hg).trans (hc j hj)⟩
theorem IG.lit (X : World) (g : Nat) (zs : List Int) (t : TypeId) (hg : X.heap[g]? = some (.cells (zs.map fun z => Value.int .i64 z).toArray t (0, 0))) : IG X (some ⟨g, 0, none⟩) zs := fun _ => by
  refine ⟨g, 0, rfl, (Array.getElem?_eq_some_iff.1 hg).1, fun j hj => ?_⟩
  rw [Lib.cell_of_heap hg, Nat.zero_add]
  simp [hj]
def inB (n z : Int) : Bool := decide (0 ≤ z ∧ z < n)
def allB (n : Int) (zs : List Int) : Bool := zs.all (inB n)
section
set_option maxRecDepth 100000
theorem fnB (z n : Int) (b : Nat) (w : World) (hb : w.cell? ⟨b, 0, none⟩ = some (.int .i64 n)) :
    Calls Try.prog 61 #[.int .i64 z, .pointer (some ⟨b, 0, none⟩)] w fun e w' => e = .returned (.bool (!inB n z)) ∧ w = w' := by
  by_cases h0 : z < 0
  · have hf : inB n z = false := decide_eq_false (by omega)
    rw [hf]
    clear hf
    go_enter Try.func61, Try.ntmps61
    go_wp2
    go_ret
    exact ⟨rfl, rfl⟩
  · by_cases h1 : n ≤ z
    · have hf : inB n z = false := decide_eq_false (by omega)
      rw [hf]
      clear hf
      go_enter Try.func61, Try.ntmps61
      go_wp2
      go_ret
      exact ⟨rfl, rfl⟩
    · have hf : inB n z = true := decide_eq_true (by omega)
      rw [hf]
      clear hf
      go_enter Try.func61, Try.ntmps61
      go_wp2
      go_ret
      exact ⟨rfl, rfl⟩
theorem all_no {n : Int} {zs : List Int} {k : Nat} (h : k < zs.length) (hk : inB n zs[k] = false) : allB n zs = false := by
  unfold allB
  rw [List.all_eq_false]
  exact ⟨zs[k], List.getElem_mem _, by simp [hk]⟩
theorem all_yes {n : Int} {zs : List Int} (h : ∀ k, (hk : k < zs.length) → inB n zs[k] = true) : allB n zs = true := by
  unfold allB
  rw [List.all_eq_true]
  intro x hx
  obtain ⟨k, hk, rfl⟩ := List.getElem_of_mem hx
  exact h k hk
theorem idxB (A : Option Addr) (ca : Nat) (zs : List Int) (n : Int) (b : Nat) (w : World) (hT : zs.length ≤ 10000) (hA : IG w A zs) (hb : w.cell? ⟨b, 0, none⟩ = some (.int .i64 n)) :
    Calls Try.prog 63 #[.slice A zs.length ca, .func (.func 61) #[] #[.pointer (some ⟨b, 0, none⟩)]] w fun e w' => ∃ r : Int, e = .returned (.int .i64 r) ∧ decide (0 ≤ r) = !allB n zs ∧ w = w' := by
  have HA := Lib.hid hA
  have HB := Lib.hid hb
  clear hA hb
  go_enter Try.func63, Try.ntmps63
  go_wp2_with fail
  go_loop [8] (fun i => ∃ k : Nat, k ≤ zs.length ∧ i = .int .i64 k ∧ Hid (∀ j, j < k → (h : j < zs.length) → inB n zs[j] = true)) (fun i => zs.length - (intOf i).toNat)
  case atStart => exact ⟨0, by omega, rfl, Lib.hid (fun j hj => by omega)⟩
  case round =>
    obtain ⟨k, hk, rfl, hall⟩ := hrel
    by_cases hlt : k < zs.length
    · obtain ⟨g, o, rfl, hg, hc⟩ := HA.out (by omega)
      have a0 := hc k hlt
      have H := Lib.hid (fnB zs[k] n b w HB.out)
      have p1 : (0 : Int) ≤ k := by omega
      have p2 : (k : Int) < zs.length := by omega
      clear hc
      cases hp : inB n zs[k]
      · rw [hp] at H
        have hfin := Lib.hid (show decide ((0 : Int) ≤ k) = !allB n zs by rw [decide_eq_true p1, all_no hlt hp]; rfl)
        clear hp hall
        go_wp2_with fail
        refine H.out.mono ?_
        rintro e w1 ⟨rfl, rfl⟩
        go_wp2_with fail
        go_ret
        exact ⟨k, rfl, hfin.out, rfl⟩
      · rw [hp] at H
        have hnext : Hid (∀ j, j < k + 1 → (h : j < zs.length) → inB n zs[j] = true) := Lib.hid fun j hj h => by
          by_cases e : j = k
          · subst e; exact hp
          · exact hall.out j (by omega) h
        clear hp hall
        go_wp2_with fail
        refine H.out.mono ?_
        rintro e w1 ⟨rfl, rfl⟩
        go_wp2_with fail
        go_round
        case rel => exact ⟨k + 1, by omega, by go_num, hnext⟩
        case measure => simp [intOf]; omega
    · have hfin := Lib.hid (show decide ((0 : Int) ≤ -1) = !allB n zs by rw [all_yes fun j hj => hall.out j (by omega) hj]; rfl)
      clear hall
      go_wp2_with fail
      go_ret
      exact ⟨-1, rfl, hfin.out, rfl⟩
theorem conB (A : Option Addr) (ca : Nat) (zs : List Int) (n : Int) (b : Nat) (w : World) (hT : zs.length ≤ 10000) (hA : IG w A zs) (hb : w.cell? ⟨b, 0, none⟩ = some (.int .i64 n)) :
    Calls Try.prog 60 #[.slice A zs.length ca, .func (.func 61) #[] #[.pointer (some ⟨b, 0, none⟩)]] w fun e w' => e = .returned (.bool (!allB n zs)) ∧ w = w' := by
  have H := Lib.hid (idxB A ca zs n b w hT hA hb)
  generalize (!allB n zs) = r at *
  clear hA hb
  go_enter Try.func60, Try.ntmps60
  go_wp2_with fail
  refine H.out.mono ?_
  rintro e w1 ⟨i, rfl, hi, rfl⟩
  have HI := Lib.hid hi
  clear hi
  go_wp2_with fail
  go_ret
  exact ⟨ret_bool HI.out, rfl⟩
theorem below (A : Option Addr) (ca : Nat) (zs : List Int) (n : Int) (w : World) (hT : zs.length ≤ 10000) (hA : IG w A zs) :
    Calls Try.prog 49 #[.int .i64 n, .slice A zs.length ca] w fun e w' => e = .returned (.bool (allB n zs)) ∧ RowKit.Below w.heap.size w w' := by
  have hmf : ∀ (fn : Fn) (first cap : Array Value) (w : World), (Instr.makeFunc fn first cap).run Try.prog w = .ok (.func fn first cap) w := fun _ _ _ _ => rfl
  have H := Lib.hid (conB A ca zs n w.heap.size (w.alloc (.cells #[.int .i64 n] 3)) hT (hA.below ((Below.refl _ _).alloc (Nat.le_refl _) _)) (by rw [Lib.cell_of_heap (heap_alloc_new w _)]; rfl))
  generalize allB n zs = r at *
  clear hA
  go_enter Try.func49, Try.ntmps49
  go_wp2_with fail
  refine H.out.mono ?_
  rintro e w1 ⟨rfl, rfl⟩
  go_wp2_with fail
  go_ret
  exact ⟨by simp, (Below.refl _ _).alloc (Nat.le_refl _) _⟩
end
end Go.Proofs.Ytddjbchlpfaggaa.TblB
