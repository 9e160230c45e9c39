/- Rows of statements: is one there, and are two the same. -/
import Derived.Test.YtofhiolmaojihaaSynD2
import Derived.Test.YtofhiolmaojihaaSynE
namespace Go.Proofs.Ytofhiolmaojihaa.SynD3
open Go.RowKit Go.Sort Go.Proofs Go.Proofs.Ytofhiolmaojihaa.Plain Go.Proofs.Ytofhiolmaojihaa.SynP Go.Proofs.Ytofhiolmaojihaa.SynE Go.Proofs.Ytofhiolmaojihaa.SynD2
set_option linter.unusedVariables false
set_option linter.unusedSimpArgs false
/-- A slice value that reads as statements, from its block's begin. -/
def StRow (w : World) (A : Option Addr) (L : List St) : Prop :=
  0 < L.length → ∃ g, A = some ⟨g, 0, none⟩ ∧ g < w.heap.size ∧ ∀ j, (h : j < L.length) → w.cell? ⟨g, j * 9, none⟩ = some (.int .i64 L[j].kind) ∧ w.cell? ⟨g, j * 9 + 1, none⟩ = some (.string L[j].head.owner) ∧ w.cell? ⟨g, j * 9 + 2, none⟩ = some (.string L[j].head.name) ∧ w.cell? ⟨g, j * 9 + 3, none⟩ = some (.string L[j].who) ∧ w.cell? ⟨g, j * 9 + 4, none⟩ = some (.string L[j].a.owner) ∧ w.cell? ⟨g, j * 9 + 5, none⟩ = some (.string L[j].a.name) ∧ w.cell? ⟨g, j * 9 + 6, none⟩ = some (.string L[j].b.owner) ∧ w.cell? ⟨g, j * 9 + 7, none⟩ = some (.string L[j].b.name) ∧ w.cell? ⟨g, j * 9 + 8, none⟩ = some (.string L[j].via)
theorem StRow.of_own {w : World} {B : Nat} {e : TypeId} {v : Value} {L : List St} (h : w.ownsRow B e 9 v L.length (stCells L)) : ∃ A cap, v = .slice A L.length cap ∧ L.length ≤ cap ∧ StRow w A L := by
  rcases h.2 with ⟨rfl, h0⟩ | ⟨g, cap, cur, rfl, hB, hh, hc, hm, hs, ht⟩
  · exact ⟨none, 0, by rw [h0], by omega, fun hp => by omega⟩
  · refine ⟨_, _, rfl, hc, fun hp => ⟨g, rfl, (h.lt g rfl).2, fun j hj => ?_⟩⟩
    have key : ∀ k u, k < 9 → L[j].cells[k]? = some u → w.cell? ⟨g, j * 9 + k, none⟩ = some u := fun k u hk hu => by
      have q := (stCells_at L j k hj hk).trans hu
      rw [← ht, List.getElem?_take_of_lt (by omega)] at q
      rw [Lib.cell_of_heap hh, ← Array.getElem?_toList]
      exact q
    exact ⟨key 0 _ (by omega) rfl, key 1 _ (by omega) rfl, key 2 _ (by omega) rfl, key 3 _ (by omega) rfl, key 4 _ (by omega) rfl, key 5 _ (by omega) rfl, key 6 _ (by omega) rfl, key 7 _ (by omega) rfl, key 8 _ (by omega) rfl⟩
theorem StRow.below {w w' : World} {A : Option Addr} {L : List St} (h : StRow w A L) (hb : Below w.heap.size w w') : StRow w' A L := fun hp => by
  obtain ⟨g, hA, hg, hc⟩ := h hp
  refine ⟨g, hA, Nat.lt_of_lt_of_le hg hb.size, fun j hj => ?_⟩
  obtain ⟨a0, a1, a2, a3, a4, a5, a6, a7, a8⟩ := hc j hj
  exact ⟨(hb.cell (p := ⟨g, j * 9, none⟩) hg).trans a0, (hb.cell (p := ⟨g, j * 9 + 1, none⟩) hg).trans a1, (hb.cell (p := ⟨g, j * 9 + 2, none⟩) hg).trans a2, (hb.cell (p := ⟨g, j * 9 + 3, none⟩) hg).trans a3, (hb.cell (p := ⟨g, j * 9 + 4, none⟩) hg).trans a4, (hb.cell (p := ⟨g, j * 9 + 5, none⟩) hg).trans a5, (hb.cell (p := ⟨g, j * 9 + 6, none⟩) hg).trans a6, (hb.cell (p := ⟨g, j * 9 + 7, none⟩) hg).trans a7, (hb.cell (p := ⟨g, j * 9 + 8, none⟩) hg).trans a8⟩
set_option maxHeartbeats 1000000 in
set_option maxRecDepth 100000 in
theorem sameSt (A B : Option Addr) (ca cb : Nat) (L : List St) (w : World) (hL : L.length ≤ 1000) (hA : StRow w A L) (hB : StRow w B L) :
    Calls Try.prog 25 #[.slice A L.length ca, .slice B L.length cb] w fun e w' => e = .returned (.bool true) ∧ RowKit.Below w.heap.size w w' := by
  go_enter Try.func25, Try.ntmps25
  go_wp2
  go_loopw [13] (fun i wr => ∃ k : Nat, k ≤ L.length ∧ i = .int .i64 k ∧ ∃ n, wr = w.drewN n) (fun i _ => L.length - (intOf i).toNat)
  case atStart => exact ⟨0, by omega, rfl, 0, rfl⟩
  case round =>
    obtain ⟨k, hk, rfl, n, rfl⟩ := hrel
    by_cases hlt : k < L.length
    · obtain ⟨g1, rfl, _, h1⟩ := hA (by omega)
      obtain ⟨g2, rfl, _, h2⟩ := hB (by omega)
      obtain ⟨a0, a1, a2, a3, a4, a5, a6, a7, a8⟩ := h1 k hlt
      obtain ⟨b0, b1, b2, b3, b4, b5, b6, b7, b8⟩ := h2 k hlt
      have p1 : (0 : Int) ≤ k := by omega
      have p2 : (k : Int) < L.length := by omega
      have hq := fun w => neS L[k].kind L[k].head.owner L[k].head.name L[k].who L[k].a.owner L[k].a.name L[k].b.owner L[k].b.name L[k].via L[k].kind L[k].head.owner L[k].head.name L[k].who L[k].a.owner L[k].a.name L[k].b.owner L[k].b.name L[k].via w
      rw [decide_eq_true rfl] at hq
      clear h1 h2 hA hB
      go_wp2_with fail
      go_quiet (fail)
      go_wp2_with fail
      go_roundw
      case rel => exact ⟨k + 1, by omega, by go_num, _, rfl⟩
      case measure => simp [intOf]; omega
    · go_wp2_with fail
      go_ret
      exact ⟨rfl, below_drewN (Below.refl _ _) _⟩
set_option maxHeartbeats 1000000 in
set_option maxRecDepth 100000 in
theorem has (A : Option Addr) (ca : Nat) (L : List St) (s : St) (w : World) (hL : L.length ≤ 1000) (hA : StRow w A L) :
    Calls Try.prog 45 #[.slice A L.length ca, s.val] w fun e w' => e = .returned (.bool (decide (s ∈ L))) ∧ RowKit.Below w.heap.size w w' := by
  obtain ⟨k1, ⟨ho, hn⟩, wh, ⟨ao, an⟩, ⟨bo, bn⟩, v⟩ := s
  have hown : ∀ (wr : World), Below (w.heap.size + 1) (w.alloc (.cells #[.int .i64 k1, .string ho, .string hn, .string wh, .string ao, .string an, .string bo, .string bn, .string v] 25)) wr → wr.cell? ⟨w.heap.size, 0, none⟩ = some (.int .i64 k1) ∧ wr.cell? ⟨w.heap.size, 1, none⟩ = some (.string ho) ∧ wr.cell? ⟨w.heap.size, 2, none⟩ = some (.string hn) ∧ wr.cell? ⟨w.heap.size, 3, none⟩ = some (.string wh) ∧ wr.cell? ⟨w.heap.size, 4, none⟩ = some (.string ao) ∧ wr.cell? ⟨w.heap.size, 5, none⟩ = some (.string an) ∧ wr.cell? ⟨w.heap.size, 6, none⟩ = some (.string bo) ∧ wr.cell? ⟨w.heap.size, 7, none⟩ = some (.string bn) ∧ wr.cell? ⟨w.heap.size, 8, none⟩ = some (.string v) := fun wr hb => by
    refine ⟨?_, ?_, ?_, ?_, ?_, ?_, ?_, ?_, ?_⟩ <;> rw [hb.cell (by simp)] <;> rw [Lib.cell_of_heap (heap_alloc_new w _)] <;> rfl
  have HO := Lib.hid hown
  clear hown
  have HA := Lib.hid hA
  clear hA
  unfold St.val
  go_enter Try.func45, Try.ntmps45
  go_wp2_with fail
  go_loopw [9] (fun i wr => ∃ k : Nat, k ≤ L.length ∧ i = .int .i64 k ∧ Hid ((⟨k1, ⟨ho, hn⟩, wh, ⟨ao, an⟩, ⟨bo, bn⟩, v⟩ : St) ∉ L.take k) ∧ Below (w.heap.size + 1) (w.alloc (.cells #[.int .i64 k1, .string ho, .string hn, .string wh, .string ao, .string an, .string bo, .string bn, .string v] 25)) wr) (fun i _ => L.length - (intOf i).toNat)
  case atStart => exact ⟨0, by omega, rfl, Lib.hid (by simp), Below.refl _ _⟩
  case round =>
    obtain ⟨k, hk, rfl, hrun, hbel⟩ := hrel
    have hb0 : Below w.heap.size w wr := ((Below.refl w.heap.size w).alloc (Nat.le_refl _) _).trans (hbel.mono (by omega))
    have hsz : w.heap.size + 1 ≤ wr.heap.size := by have := hbel.size; simpa using this
    by_cases hlt : k < L.length
    · obtain ⟨g1, rfl, hg1, h1⟩ := (HA.out.below hb0) (by omega)
      obtain ⟨a0, a1, a2, a3, a4, a5, a6, a7, a8⟩ := h1 k hlt
      obtain ⟨b0, b1, b2, b3, b4, b5, b6, b7, b8⟩ := HO.out _ (hbel.alloc hsz (.cells #[.int .i64 L[k].kind, .string L[k].head.owner, .string L[k].head.name, .string L[k].who, .string L[k].a.owner, .string L[k].a.name, .string L[k].b.owner, .string L[k].b.name, .string L[k].via] 25))
      have p1 : (0 : Int) ≤ k := by omega
      have p2 : (k : Int) < L.length := by omega
      clear h1
      by_cases he : L[k] = (⟨k1, ⟨ho, hn⟩, wh, ⟨ao, an⟩, ⟨bo, bn⟩, v⟩ : St)
      · have hfin : Hid (decide ((⟨k1, ⟨ho, hn⟩, wh, ⟨ao, an⟩, ⟨bo, bn⟩, v⟩ : St) ∈ L) = true) := Lib.hid (decide_eq_true (he ▸ List.getElem_mem hlt))
        have hq := fun w => eqS L[k].kind L[k].head.owner L[k].head.name L[k].who L[k].a.owner L[k].a.name L[k].b.owner L[k].b.name L[k].via k1 ho hn wh ao an bo bn v w
        rw [decide_eq_true (p := (⟨L[k].kind, ⟨L[k].head.owner, L[k].head.name⟩, L[k].who, ⟨L[k].a.owner, L[k].a.name⟩, ⟨L[k].b.owner, L[k].b.name⟩, L[k].via⟩ : St) = ⟨k1, ⟨ho, hn⟩, wh, ⟨ao, an⟩, ⟨bo, bn⟩, v⟩) he] at hq
        clear hrun he
        go_wp2_with fail
        go_ret
        exact ⟨ret_bool hfin.out.symm, hb0.alloc hb0.size _⟩
      · have hnext : Hid ((⟨k1, ⟨ho, hn⟩, wh, ⟨ao, an⟩, ⟨bo, bn⟩, v⟩ : St) ∉ L.take (k + 1)) := Lib.hid (by
          rw [List.take_succ_eq_append_getElem hlt, List.mem_append, List.mem_singleton]
          rintro (h | h)
          · exact hrun.out h
          · exact he h.symm)
        have hq := fun w => eqS L[k].kind L[k].head.owner L[k].head.name L[k].who L[k].a.owner L[k].a.name L[k].b.owner L[k].b.name L[k].via k1 ho hn wh ao an bo bn v w
        rw [decide_eq_false (p := (⟨L[k].kind, ⟨L[k].head.owner, L[k].head.name⟩, L[k].who, ⟨L[k].a.owner, L[k].a.name⟩, ⟨L[k].b.owner, L[k].b.name⟩, L[k].via⟩ : St) = ⟨k1, ⟨ho, hn⟩, wh, ⟨ao, an⟩, ⟨bo, bn⟩, v⟩) he] at hq
        clear hrun he
        go_wp2_with fail
        go_roundw
        case rel => exact ⟨k + 1, by omega, by go_num, hnext, hbel.alloc hsz _⟩
        case measure => simp [intOf]; omega
    · have hfin : Hid (decide ((⟨k1, ⟨ho, hn⟩, wh, ⟨ao, an⟩, ⟨bo, bn⟩, v⟩ : St) ∈ L) = false) := Lib.hid (decide_eq_false (by
        have := hrun.out
        rwa [List.take_of_length_le (by omega)] at this))
      clear hrun
      go_wp2_with fail
      go_ret
      exact ⟨ret_bool hfin.out.symm, hb0⟩
end Go.Proofs.Ytofhiolmaojihaa.SynD3
