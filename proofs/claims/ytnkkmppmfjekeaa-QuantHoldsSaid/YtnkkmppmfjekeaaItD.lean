/- Calls are counted if they are made of diagrams (begin), by contract. -/
import Derived.Test.YtnkkmppmfjekeaaItC
namespace Go.Proofs.Ytnkkmppmfjekeaa.ItD
open Go.RowKit Go.Lib Go.Proofs Go.Proofs.Ytnkkmppmfjekeaa.NdA Go.Proofs.Ytnkkmppmfjekeaa.NdB Go.Proofs.Ytnkkmppmfjekeaa.NdC Go.Proofs.Ytnkkmppmfjekeaa.NdE Go.Proofs.Ytnkkmppmfjekeaa.NdG Go.Proofs.Ytnkkmppmfjekeaa.ItA Go.Proofs.Ytnkkmppmfjekeaa.ItB
set_option linter.unusedVariables false
set_option linter.unusedSimpArgs false
section
variable {D : Nat} {x : Bx} {c : Nat} {s : St} {N : Nat} {w : World}
/-- Some calls more. -/
theorem count (H : Bd w D x c s N) (n : Nat) (hn : c + n ≤ 1000000) : Bd (w.setCell ⟨D, 2, none⟩ (.int .i64 ((c : Int) + n))) D x (c + n) s N := by
  have hk : ∀ j, j ≠ D → (w.setCell ⟨D, 2, none⟩ (.int .i64 ((c : Int) + n))).heap[j]? = w.heap[j]? := fun j hj => Below.heap_setCell _ _ _ _ hj
  refine ⟨set1 _ H.fb, ⟨H.tk.tb.keep (fun k h => hk k (fun e => H.nd (e ▸ h))), H.tk.room, H.tk.m16⟩, H.ca.keep (by show _ ≤ (w.heap.modify _ _).size; rw [Array.size_modify]; exact Nat.le_refl _) (hk _ (fun e => H.ne.1 e.symm)) (hk _ (fun e => H.ne.2 e.symm)), H.k1, H.nd, H.ne, H.nt, H.inv, H.right, H.hb, hn⟩
theorem count_upto (H : Bd w D x c s N) (n : Nat) (hn : c + n ≤ 1000000) : Upto D x w (w.setCell ⟨D, 2, none⟩ (.int .i64 ((c : Int) + n))) (c + n) s N :=
  ⟨x, count H n hn, ⟨rfl, rfl, rfl, by show _ ≤ (w.heap.modify _ _).size; rw [Array.size_modify]; exact Nat.le_refl _, fun k hk hf => Below.heap_setCell _ _ _ _ (fun e => hf (Or.inl e))⟩, fun j hj => Or.inl hj⟩
/-- A row of numbers in memory. -/
def RowI (w : World) (A : Option Addr) (l : List Int) : Prop := 0 < l.length → ∃ b, A = some ⟨b, 0, none⟩ ∧ b < w.heap.size ∧ ∀ j, (h : j < l.length) → w.cell? ⟨b, j, none⟩ = some (.int .i64 l[j])
theorem RowI.below {w' : World} {A : Option Addr} {l : List Int} (h : RowI w A l) (hb : Below w.heap.size w w') : RowI w' A l := fun h0 => by
  obtain ⟨b, e, hl, hc⟩ := h h0
  exact ⟨b, e, Nat.lt_of_lt_of_le hl hb.size, fun j hj => (hb.cell (p := ⟨b, j, none⟩) hl).trans (hc j hj)⟩
set_option maxRecDepth 100000 in
theorem beg1 (bx : Nat) (f : Int) (f1 : -9223372036854775808 ≤ f) (f2 : f ≤ 9223372036854775807) (hx : w.cell? ⟨bx, 0, none⟩ = some (.pointer (some ⟨D, 0, none⟩))) (H : Bd w D x c s N) :
    Calls Try.prog 72 #[.int .i64 f, .pointer (some ⟨bx, 0, none⟩)] w fun e w' => e = .returned (.bool (!isB s f)) ∧ w = w' := by
  have HI := Lib.hid (ItB.is_ f f1 f2 H)
  clear H
  generalize isB s f = r at *
  go_enter Try.func72, Try.ntmps72
  go_wp2_with ((with_reducible refine HI.out.mono ?_); rintro e w' ⟨rfl, rfl⟩)
  go_ret
  exact ⟨rfl, rfl⟩
def begV (bx : Nat) : Value := .func (.func 72) #[] #[.pointer (some ⟨bx, 0, none⟩)]
set_option maxHeartbeats 1000000 in
set_option maxRecDepth 100000 in
theorem idx (bx : Nat) (A : Option Addr) (ca : Nat) (l : List Int) (hl : l.length ≤ 1000) (hr : ∀ f ∈ l, -9223372036854775808 ≤ f ∧ f ≤ 9223372036854775807) (hall : ∀ f ∈ l, isB s f = true) (hA : RowI w A l) (hx : w.cell? ⟨bx, 0, none⟩ = some (.pointer (some ⟨D, 0, none⟩))) (H : Bd w D x c s N) :
    Calls Try.prog 88 #[.slice A l.length ca, begV bx] w fun e w' => e = .returned (.int .i64 (-1)) ∧ w = w' := by
  have HF := Lib.hid (fun (j : Nat) (hj : j < l.length) => beg1 bx l[j] (hr _ (List.getElem_mem hj)).1 (hr _ (List.getElem_mem hj)).2 hx H)
  have HA := Lib.hid hA
  have HT := Lib.hid (fun (j : Nat) (hj : j < l.length) => hall _ (List.getElem_mem hj))
  clear H hA hall hx hr
  unfold begV
  go_enter Try.func88, Try.ntmps88
  go_wp2_with fail
  go_loop [8] (fun i => ∃ k : Nat, k ≤ l.length ∧ i = .int .i64 k) (fun i => l.length - (intOf i).toNat)
  case atStart => exact ⟨0, by omega, rfl⟩
  case round =>
    obtain ⟨k, hk, rfl⟩ := hrel
    by_cases hlt : k < l.length
    · have e1 : decide ((k : Int) < l.length) = true := by simp; omega
      obtain ⟨b, rfl, hb, hc⟩ := HA.out (by omega)
      have a0 := hc k hlt
      have HFk := Lib.hid (HF.out k hlt)
      rw [HT.out k hlt] at HFk
      have q0 : (0 : Int) ≤ k := by omega
      have q1 : (k : Int) < l.length := by omega
      have hw : IntKind.i64.wrap ((k : Int) + 1) = (k : Int) + 1 := by rw [IntKind.wrap_i64]; omega
      clear hc HF HT HA
      generalize l[k] = f at *
      go_wp2_with ((with_reducible refine HFk.out.mono ?_); rintro e w' ⟨rfl, rfl⟩)
      go_round
      case rel => exact ⟨k + 1, by omega, by go_num⟩
      case measure => simp [intOf]; omega
    · have e1 : decide ((k : Int) < l.length) = false := by simp; omega
      clear HF HT HA
      go_wp2_with fail
      go_ret
      exact ⟨rfl, rfl⟩
set_option maxRecDepth 100000 in
theorem cont (bx : Nat) (A : Option Addr) (ca : Nat) (l : List Int) (hl : l.length ≤ 1000) (hr : ∀ f ∈ l, -9223372036854775808 ≤ f ∧ f ≤ 9223372036854775807) (hall : ∀ f ∈ l, isB s f = true) (hA : RowI w A l) (hx : w.cell? ⟨bx, 0, none⟩ = some (.pointer (some ⟨D, 0, none⟩))) (H : Bd w D x c s N) :
    Calls Try.prog 71 #[.slice A l.length ca, begV bx] w fun e w' => e = .returned (.bool false) ∧ w = w' := by
  have HI := Lib.hid (idx bx A ca l hl hr hall hA hx H)
  clear H hA hall hx hr
  generalize begV bx = fv at *
  go_enter Try.func71, Try.ntmps71
  go_wp2_with ((with_reducible refine HI.out.mono ?_); rintro e w' ⟨rfl, rfl⟩)
  go_ret
  exact ⟨rfl, rfl⟩
theorem is_range {f : Int} (hl : s.L.length ≤ 200000) (h : isB s f = true) : -9223372036854775808 ≤ f ∧ f ≤ 9223372036854775807 := by
  have := isB_iff.1 h
  omega
set_option maxHeartbeats 1000000 in
set_option maxRecDepth 100000 in
theorem begin_ (n : Nat) (A : Option Addr) (ca : Nat) (l : List Int) (hl : l.length ≤ 1000) (hall : ∀ f ∈ l, isB s f = true) (hA : RowI w A l) (hn : c + n ≤ 1000000) (H : Bd w D x c s N) :
    Calls Try.prog 54 #[.pointer (some ⟨D, 0, none⟩), .int .i64 n, .slice A l.length ca] w fun e w' => e = .returned (.bool true) ∧ Upto D x w w' (c + n) s N := by
  have hlen := H.tk.tb.len
  have hb := (Below.refl w.heap.size w).alloc (Nat.le_refl _) (.cells #[.pointer (some ⟨D, 0, none⟩)] 28)
  have h0 := Lib.cell_of_heap (heap_alloc_new w (.cells #[.pointer (some ⟨D, 0, none⟩)] 28)) 0
  have h0' : (w.alloc (.cells #[.pointer (some ⟨D, 0, none⟩)] 28)).cell? ⟨w.heap.size, 0, none⟩ = some (.pointer (some ⟨D, 0, none⟩)) := h0
  have H1 := H.below hb
  have HC := Lib.hid (cont w.heap.size A ca l hl (fun f hf => is_range (by omega) (hall f hf)) hall (hA.below hb) h0' H1)
  have HU := Lib.hid (Upto.trans (Frm.of_below hb) (fun j hj => Or.inl hj) (count_upto H1 n hn))
  obtain ⟨c0, c1, c2⟩ := H1.cells
  have hf := Bd.free H1 2
  clear h0 hb H H1 hA hall hl
  unfold begV at HC
  have hw : IntKind.i64.wrap ((c : Int) + n) = (c : Int) + n := by rw [IntKind.wrap_i64]; omega
  go_enter Try.func54, Try.ntmps54
  go_wp2_with fail
  generalize w.alloc (.cells #[.pointer (some ⟨D, 0, none⟩)] 28) = w1 at *
  refine HC.out.mono ?_
  rintro e w' ⟨rfl, rfl⟩
  go_wp2_with fail
  go_ret
  exact ⟨rfl, HU.out⟩
end
end Go.Proofs.Ytnkkmppmfjekeaa.ItD
