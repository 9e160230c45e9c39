/- The search: watch, by contract. -/
import Derived.Test.YtddjbchlpfaggaaPfC
namespace Go.Proofs.Ytddjbchlpfaggaa.PfD
open Go.RowKit Go.Lib Go.Proofs Go.Maps Go.Proofs.Ytddjbchlpfaggaa.SetQ Go.Proofs.Ytddjbchlpfaggaa.SetR Go.Proofs.Ytddjbchlpfaggaa.TblC Go.Proofs.Ytddjbchlpfaggaa.TblV Go.Proofs.Ytddjbchlpfaggaa.SemB Go.Proofs.Ytddjbchlpfaggaa.SemC Go.Proofs.Ytddjbchlpfaggaa.SemD Go.Proofs.Ytddjbchlpfaggaa.SemGa Go.Proofs.Ytddjbchlpfaggaa.PfM Go.Proofs.Ytddjbchlpfaggaa.PfA Go.Proofs.Ytddjbchlpfaggaa.PfB Go.Proofs.Ytddjbchlpfaggaa.PfC
set_option linter.unusedVariables false
set_option linter.unusedSimpArgs false
theorem infoW : (Try.prog.info? 100).map (fun i => (i.zero, i.size, i.bytes)) = some (some (.agg #[.int .i64 0, .int .i64 0]), 2, 16) := by kernel_rfl
theorem watchM_eq (t : Ss) (r : Int) (x : Int × Int) : watchM t r x = { t with nw := t.nw + 1, watch := watchF t.watch r x } := rfl
set_option maxHeartbeats 2000000 in
set_option maxRecDepth 100000 in
theorem watch (W w : World) (a : Ad) (t : Ss) (h : Nat) (F : Frm) (r i m : Int) (hw : Wq W w a t h F) (hr : -9223372036854775808 ≤ r ∧ r ≤ 9223372036854775807) (hn : t.nw ≤ 1000000) (hl : (t.watch r).length ≤ 1000000) :
    Calls Try.prog 51 #[.pointer (some ⟨a.ws, 0, none⟩), .int .i64 r, .agg #[.int .i64 i, .int .i64 m]] w (WPost W a (watchM t r (i, m)) h F) := by
  obtain ⟨i0, hi, hz0, hz1, hz2⟩ := info_parts infoW
  obtain ⟨hh, qv, M, hK0, hfr0⟩ := hw
  have hkey := keyI (r := r) hr
  obtain ⟨A, c, hv⟩ := own_n (hK0.rows r)
  have hK1 := hK0.below ((Below.refl w.heap.size w).alloc (Nat.le_refl _) (.cells #[.int .i64 i, .int .i64 m] 100))
  have hK2 := hK1.below (((Below.refl (w.alloc (.cells #[.int .i64 i, .int .i64 m] 100)).heap.size (w.alloc (.cells #[.int .i64 i, .int .i64 m] 100))).alloc (Nat.le_refl _) (.cells #[.int .i64 i, .int .i64 m] 100)).drew)
  have hF2 := (hfr0.below ((Below.refl w.heap.size w).alloc (Nat.le_refl _) (.cells #[.int .i64 i, .int .i64 m] 100))).below (((Below.refl (w.alloc (.cells #[.int .i64 i, .int .i64 m] 100)).heap.size (w.alloc (.cells #[.int .i64 i, .int .i64 m] 100))).alloc (Nat.le_refl _) (.cells #[.int .i64 i, .int .i64 m] 100)).drew)
  have LK : ∀ X : World, MapV X 3 iv a.bw t.nw M → (Instr.lookup 79 (.map (some a.bw)) (.int .i64 r) false).run Try.prog X = .ok (.slice A (t.watch r).length c) X := fun X hX => by
    have := hX.look lawI Try.underlying79 (zeroR X) hkey
    have e : (M r).getD (.slice none 0 0) = .slice A (t.watch r).length c := hv
    rw [e] at this
    exact this
  have l1 := LK _ (hK1.below ((Below.refl _ _).drew)).wm
  have l2 := LK _ hK2.wm
  have c1 := Wk.cells hK1
  have c2 : ∀ o, ((w.alloc (.cells #[.int .i64 i, .int .i64 m] 100)).alloc (.cells #[.int .i64 i, .int .i64 m] 100)).cell? ⟨a.ws, o, none⟩ = (#[.int .i64 a.d0, .int .i64 a.d1, .slice a.A a.L.length a.ca, .map (some a.bk), qv, .map (some a.bw)] : Array Value)[o]? := fun o => Wk.cells hK2 o
  have b1 : ∀ o, (w.alloc (.cells #[.int .i64 i, .int .i64 m] 100)).cell? ⟨w.heap.size, o, none⟩ = (#[.int .i64 i, .int .i64 m] : Array Value)[o]? := fun o => Lib.cell_of_heap (heap_alloc_new w _) o
  have hcl : ∀ j x, ([.int .i64 i, .int .i64 m] : List Value)[j]? = some x → (((w.alloc (.cells #[.int .i64 i, .int .i64 m] 100)).alloc (.cells #[.int .i64 i, .int .i64 m] 100)).drew).cell? ((⟨(w.alloc (.cells #[.int .i64 i, .int .i64 m] 100)).heap.size, 0, none⟩ : Addr).add j) = some x := fun j x hx => by
    have hq : (((w.alloc (.cells #[.int .i64 i, .int .i64 m] 100)).alloc (.cells #[.int .i64 i, .int .i64 m] 100)).drew).heap[(w.alloc (.cells #[.int .i64 i, .int .i64 m] 100)).heap.size]? = some (.cells #[.int .i64 i, .int .i64 m] 100 (0, 0)) := heap_alloc_new _ _
    rw [Go.Proofs.Ytddjbchlpfaggaa.SemC.add_off, Lib.cell_of_heap hq, ← hx]
    simp
  have hrow := hK2.rows r
  rw [hv] at hrow
  have HFin : Hid (∀ w3 A2 n2 c2, (((w.alloc (.cells #[.int .i64 i, .int .i64 m] 100)).alloc (.cells #[.int .i64 i, .int .i64 m] 100)).drew).grownBy w3 (Value.slice A (t.watch r).length c).ownBlock → Moves (((w.alloc (.cells #[.int .i64 i, .int .i64 m] 100)).alloc (.cells #[.int .i64 i, .int .i64 m] 100)).drew) (Value.slice A (t.watch r).length c).ownBlock (Value.slice A2 n2 c2).ownBlock →
      w3.ownsRow W.heap.size 100 2 (.slice A2 n2 c2) ((t.watch r).length + 1) (encP (t.watch r) ++ [.int .i64 i, .int .i64 m]) → Old (((w.alloc (.cells #[.int .i64 i, .int .i64 m] 100)).alloc (.cells #[.int .i64 i, .int .i64 m] 100)).drew) w3 (Value.slice A (t.watch r).length c) ((t.watch r).length * 2) 100 →
      ∃ w4, (Instr.mapUpdate 79 (.map (some a.bw)) (.int .i64 r) (.slice A2 n2 c2)).run Try.prog w3 = .ok () w4 ∧ WPost W a (watchM t r (i, m)) h F (.returned (.tuple #[])) w4 ∧ ∀ o, w3.cell? ⟨a.ws, o, none⟩ = (#[.int .i64 a.d0, .int .i64 a.d1, .slice a.A a.L.length a.ca, .map (some a.bk), qv, .map (some a.bw)] : Array Value)[o]?) := Lib.hid (fun w3 A2 n2 c2 hg hmv ho hold => by
    rw [← hv] at hg hmv hold
    have hwm3 : MapV w3 3 iv a.bw t.nw M := hK2.wm.heap (hg.block _ hK2.wm.lt (fun e => by
      obtain ⟨_, cur, hc⟩ := own_blk (hK2.rows r) e.symm
      obtain ⟨es, cc, e2⟩ := hK2.wm.blk
      exact map_ne e2 hc rfl))
    obtain ⟨w4, hr4, hm4, ht4⟩ := hwm3.store lawI Try.underlying79 (by unfold maxLen; omega) iv_inj hkey (.slice A2 n2 c2)
    have hw3 : w3.heap[a.ws]? = _ := (hg.block _ (lt_of hK2.wb) (fun e => by
      obtain ⟨_, cur, hc⟩ := own_blk (hK2.rows r) e.symm
      exact ne_of_type hc hK2.wb (by show (_ : Nat) ≠ _; decide) rfl)).trans hK2.wb
    exact ⟨w4, hr4, ⟨rfl, hh, qv, putK M r (.slice A2 n2 c2), Wk.watch (x := (i, m)) hK2 hg hmv ho hm4 ht4, Frm.ok.watch (x := (i, m)) hK2 hF2 hg hmv hold ht4⟩, fun o => Lib.cell_of_heap hw3 o⟩)
  have HR := Lib.hid hrow
  have HCL := Lib.hid hcl
  have HB2 := Lib.hid hK2.bel.size
  have hm : maxLen = 9223372036854775807 := rfl
  clear hF2 hK0 hfr0 hK1 hK2 hrow hcl LK hv hkey
  generalize (t.watch r).length = n0 at *
  generalize encP (t.watch r) = xs0 at *
  go_enter Try.func51, Try.ntmps51
  go_upto_region 1 with fail
  generalize w.alloc (.cells #[.int .i64 i, .int .i64 m] 100) = w0 at *
  go_region_law ((refine step_append_at _ rfl (.tmp 16) (.tmp 18) 101 rfl W.heap.size 100 i0 (.agg #[.int .i64 0, .int .i64 0]) 2 16 Try.underlying101 hi hz0 hz1 hz2 rfl (by decide) (.slice A n0 c) n0 xs0 (by simp [Act.eval]) HR.out ⟨w0.heap.size, 0, none⟩ 1 1 [.int .i64 i, .int .i64 m] (by simp [Act.eval]) rfl HCL.out (fun u hu => by simp at hu; rcases hu with rfl | rfl <;> rfl) (by omega) (by omega) HB2.out ?_); intro v' w3 hown3 hg3 hm3 hold3; obtain ⟨A2, n2, c2, rfl⟩ : ∃ A n c, v' = Value.slice A n c := (by rcases hown3.2 with ⟨rfl, _⟩ | ⟨g, cap, cur, rfl, _⟩ <;> exact ⟨_, _, _, rfl⟩); obtain ⟨w4, F0, F1, F2⟩ := HFin.out w3 A2 n2 c2 hg3 hm3 hown3 hold3)
  all_goals
    have HF1 := Lib.hid F1
    clear F1 F0 F2
    go_wp2_with fail
    go_end0
    exact HF1.out
end Go.Proofs.Ytddjbchlpfaggaa.PfD
