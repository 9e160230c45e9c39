/- Tables: say of what is in both of two roles, by contract. -/
import Derived.Test.YtnhjnimgjpgfcaaTblD
namespace Go.Proofs.Ytnhjnimgjpgfcaa.TblE
open Go.RowKit Go.Sort Go.Lib Go.Proofs Go.Proofs.Ytnhjnimgjpgfcaa.Plain Go.Proofs.Ytnhjnimgjpgfcaa.SynP Go.Proofs.Ytnhjnimgjpgfcaa.TabP Go.Proofs.Ytnhjnimgjpgfcaa.Tab1 Go.Proofs.Ytnhjnimgjpgfcaa.Tab2 Go.Proofs.Ytnhjnimgjpgfcaa.RolK Go.Proofs.Ytnhjnimgjpgfcaa.TblA Go.Proofs.Ytnhjnimgjpgfcaa.TblB Go.Proofs.Ytnhjnimgjpgfcaa.TblC Go.Proofs.Ytnhjnimgjpgfcaa.TblD
set_option linter.unusedVariables false
set_option linter.unusedSimpArgs false
section
variable {t a b : Nat} {A1 : Option Addr} {c1 : Nat} {A2 : Option Addr} {c2 : Nat} {P L : List Str}
set_option maxRecDepth 100000
set_option maxHeartbeats 2000000 in
theorem say4 (w0 w : World) (h : TblK w0 t a b A1 c1 A2 c2 P L) (hb0 : RowKit.Below w0.heap.size w0 w) (ho hn wh ao an bo bn v : ByteArray) (u : Ru) (r : Nat) (hr : RuAt w r u) (hr0 : w0.heap.size ≤ r) :
    Calls Try.prog 37 #[.pointer (some ⟨t, 0, none⟩), .pointer (some ⟨r, 0, none⟩), .agg #[.int .i64 4, .string ho, .string hn, .string wh, .string ao, .string an, .string bo, .string bn, .string v]] w (SayPost (decide (0 ≤ roleI P L ⟨ao, an⟩) && decide (0 ≤ roleI P L ⟨bo, bn⟩)) ((u.set 3 (roleI P L ⟨ao, an⟩)).set 4 (roleI P L ⟨bo, bn⟩)) r w) := by
  have hmf : ∀ (fn : Fn) (first cap : Array Value) (w : World), (Instr.makeFunc fn first cap).run Try.prog w = .ok (.func fn first cap) w := fun _ _ _ _ => rfl
  have hrlt := hr.lt
  have hB : RowKit.Below w.heap.size w (w.alloc (.cells #[.int .i64 4, .string ho, .string hn, .string wh, .string ao, .string an, .string bo, .string bn, .string v] 26)).drew := ((Below.refl _ _).alloc (Nat.le_refl _) _).drew
  have hbx : (w.alloc (.cells #[.int .i64 4, .string ho, .string hn, .string wh, .string ao, .string an, .string bo, .string bn, .string v] 26)).drew.heap[w.heap.size]? = some (.cells #[.int .i64 4, .string ho, .string hn, .string wh, .string ao, .string an, .string bo, .string bn, .string v] 26 (0, 0)) := heap_alloc_new w _
  have HC : Hid (∀ (w' : World), w'.heap[w.heap.size]? = some (.cells #[.int .i64 4, .string ho, .string hn, .string wh, .string ao, .string an, .string bo, .string bn, .string v] 26 (0, 0)) → ∀ o, w'.cell? ⟨w.heap.size, o, none⟩ = (#[.int .i64 4, .string ho, .string hn, .string wh, .string ao, .string an, .string bo, .string bn, .string v] : Array Value)[o]?) := Lib.hid (fun w' e o => Lib.cell_of_heap e o)
  have HR2 := Lib.hid (hr.below hB)
  have HB0 := Lib.hid (hb0.trans (hB.mono hb0.size))
  have hz : w.heap.size < (w.alloc (.cells #[.int .i64 4, .string ho, .string hn, .string wh, .string ao, .string an, .string bo, .string bn, .string v] 26)).drew.heap.size := by show w.heap.size < (w.alloc _).heap.size; simp
  have HG : Hid (∀ w1 : World, (w.alloc (.cells #[.int .i64 4, .string ho, .string hn, .string wh, .string ao, .string an, .string bo, .string bn, .string v] 26)).drew.grownBy w1 (some r) → RowKit.Below w0.heap.size w0 w1 ∧ w1.heap[w.heap.size]? = some (.cells #[.int .i64 4, .string ho, .string hn, .string wh, .string ao, .string an, .string bo, .string bn, .string v] 26 (0, 0)) ∧ w.grownBy w1 (some r)) := Lib.hid (fun w1 hg => ⟨HB0.out.grown hg HB0.out.size (fun k hk => by injection hk with hk; omega), (hg.block _ hz (by simp; omega)).trans hbx, below_grew hB hg⟩)
  have HBX := Lib.hid hbx
  have HB := Lib.hid hB
  clear hB hbx hz
  have HV := Lib.hid (fun w' hb (hu : RuAt w' r u) => putR w' (h.keep hb) ⟨ao, an⟩ u r 3 hu (by omega) (by omega))
  have HPut := Lib.hid (fun w' hb (hu : RuAt w' r (u.set 3 (roleI P L ⟨ao, an⟩))) => putR w' (h.keep hb) ⟨bo, bn⟩ (u.set 3 (roleI P L ⟨ao, an⟩)) r 4 hu (by omega) (by omega))
  unfold PutPost Rl.val at HV HPut
  simp only at HPut HV
  generalize roleI P L ⟨ao, an⟩ = y at *
  generalize roleI P L ⟨bo, bn⟩ = x at *
  clear h hr hb0
  by_cases hy : 0 ≤ y
  · have hd : decide (0 ≤ y) = true := decide_eq_true hy
    rw [hd, Bool.true_and]
    rw [hd] at HV
    clear hy hd
    go_enter Try.func37, Try.ntmps37
    go_wp2_with fail
    go_region_with (first | ((with_reducible refine (HV.out _ HB0.out HR2.out).mono ?_); rintro e w1 ⟨rfl, hru, hg⟩; obtain ⟨g1, g2, g3⟩ := HG.out _ hg; have hcx := HC.out _ g2) | ((with_reducible refine (HPut.out _ g1 hru).mono ?_); rintro e w2 ⟨rfl, hru2, hg2⟩))
    all_goals
      have HF := Lib.hid (show SayPost (decide (0 ≤ x)) ((u.set 3 y).set 4 x) r w (.returned (.bool (decide (0 ≤ x)))) w2 from ⟨rfl, ⟨_, hru2, fun _ => rfl⟩, grew_trans g3 hg2⟩)
      clear hru hg g1 g2 g3 hcx hru2 hg2
      go_wp2_with fail
      go_ret
      exact HF.out
  · have hd : decide (0 ≤ y) = false := decide_eq_false hy
    rw [hd, Bool.false_and]
    rw [hd] at HV
    clear hy hd
    go_enter Try.func37, Try.ntmps37
    go_wp2_with fail
    refine wp_region_any (by kernel_rfl) ?_
    try (change wpAny _ _ _ _ _ _ _ (World.drew _))
    refine wpAny_take (i := 0) (v := ?_) rfl (by kernel_rfl) (by kernel_rfl) (by kernel_rfl) (fun _ _ _ h => h) (Or.inl ⟨by kernel_rfl, ?_⟩) ?_
    rotate_left
    · intro w; go_simp; try with_reducible rfl
    refine wpAny_take (i := 1) (v := ?_) rfl (by kernel_rfl) (by kernel_rfl) (by kernel_rfl) (fun _ _ _ h => h) (Or.inl ⟨by kernel_rfl, ?_⟩) ?_
    rotate_left
    · intro w; go_simp; try with_reducible rfl
    refine wpAny_take (i := 2) (v := ?_) rfl (by kernel_rfl) (by kernel_rfl) (by kernel_rfl) (fun _ _ _ h => h) (Or.inl ⟨by kernel_rfl, ?_⟩) ?_
    rotate_left
    · intro w; go_simp; try with_reducible rfl
    refine wpAny_take (i := 3) (v := ?_) rfl (by kernel_rfl) (by kernel_rfl) (by kernel_rfl) (fun _ _ _ h => h) (Or.inl ⟨by kernel_rfl, ?_⟩) ?_
    rotate_left
    · intro w; go_simp; try with_reducible rfl
    refine wpAny_take (i := 4) (v := ?_) rfl (by kernel_rfl) (by kernel_rfl) (by kernel_rfl) (fun _ _ _ h => h) (Or.inl ⟨by kernel_rfl, ?_⟩) ?_
    rotate_left
    · intro w; go_simp; try with_reducible rfl
    refine wpAny_take (i := 5) (v := ?_) rfl (by kernel_rfl) (by kernel_rfl) (by kernel_rfl) (fun _ _ _ h => h) (Or.inl ⟨by kernel_rfl, ?_⟩) ?_
    rotate_left
    · intro w; go_simp; try with_reducible rfl
    refine wpAny_ready (rs := [6]) (by kernel_rfl) (by simp) ?_
    refine AllReady.cons rfl (fun K hK => ?_) AllReady.nil
    go_simp
    refine hK _ _ ?_
    clear hK K
    refine wpAny_ready (rs := [7]) (by kernel_rfl) (by simp) ?_
    refine AllReady.cons rfl (fun K hK => ?_) AllReady.nil
    go_simp
    go_wp2_with ((with_reducible refine (HV.out _ HB0.out HR2.out).mono ?_); rintro e w1 ⟨rfl, hru, hg⟩)
    refine wpAny_take (i := 8) (v := ?_) rfl (by kernel_rfl) (by kernel_rfl) (by kernel_rfl) (fun _ _ _ h => h) (Or.inl ⟨by kernel_rfl, ?_⟩) ?_
    rotate_left
    · intro w; go_simp; try with_reducible rfl
    refine wpAny_take (i := 9) (v := undef) rfl (by kernel_rfl) (by kernel_rfl) (by kernel_rfl) (fun _ _ _ h => h) (Or.inr ⟨by kernel_rfl, rfl⟩) ?_
    refine wpAny_take (i := 10) (v := undef) rfl (by kernel_rfl) (by kernel_rfl) (by kernel_rfl) (fun _ _ _ h => h) (Or.inr ⟨by kernel_rfl, rfl⟩) ?_
    refine wpAny_take (i := 11) (v := undef) rfl (by kernel_rfl) (by kernel_rfl) (by kernel_rfl) (fun _ _ _ h => h) (Or.inr ⟨by kernel_rfl, rfl⟩) ?_
    refine wpAny_take (i := 12) (v := undef) rfl (by kernel_rfl) (by kernel_rfl) (by kernel_rfl) (fun _ _ _ h => h) (Or.inr ⟨by kernel_rfl, rfl⟩) ?_
    refine wpAny_take (i := 13) (v := undef) rfl (by kernel_rfl) (by kernel_rfl) (by kernel_rfl) (fun _ _ _ h => h) (Or.inr ⟨by kernel_rfl, rfl⟩) ?_
    refine wpAny_take (i := 14) (v := undef) rfl (by kernel_rfl) (by kernel_rfl) (by kernel_rfl) (fun _ _ _ h => h) (Or.inr ⟨by kernel_rfl, rfl⟩) ?_
    refine wpAny_take (i := 15) (v := undef) rfl (by kernel_rfl) (by kernel_rfl) (by kernel_rfl) (fun _ _ _ h => h) (Or.inr ⟨by kernel_rfl, rfl⟩) ?_
    refine wpAny_take (i := 16) (v := undef) rfl (by kernel_rfl) (by kernel_rfl) (by kernel_rfl) (fun _ _ _ h => h) (Or.inr ⟨by kernel_rfl, rfl⟩) ?_
    refine wpAny_take (i := 17) (v := ?_) rfl (by kernel_rfl) (by kernel_rfl) (by kernel_rfl) (fun _ _ _ h => h) (Or.inl ⟨by kernel_rfl, ?_⟩) ?_
    rotate_left
    · intro w; go_simp; try with_reducible rfl
    refine wpAny_take (i := 18) (v := ?_) rfl (by kernel_rfl) (by kernel_rfl) (by kernel_rfl) (fun _ _ _ h => h) (Or.inl ⟨by kernel_rfl, ?_⟩) ?_
    rotate_left
    · intro w; go_simp; try with_reducible rfl
    refine wpAny_done (by kernel_rfl) ?_ _
    · obtain ⟨g1, g2, g3⟩ := HG.out _ hg
      have HF := Lib.hid (show SayPost false ((u.set 3 y).set 4 x) r w (.returned (.bool false)) w1 from ⟨rfl, ⟨_, hru, fun h => by cases h⟩, g3⟩)
      clear hru hg g1 g2 g3
      go_wp2_with fail
      go_ret
      refine cast (congrArg (fun z => SayPost false ((u.set 3 y).set 4 x) r w (Ending.returned z) w1) ?_) HF.out
      kernel_rfl
end
end Go.Proofs.Ytnhjnimgjpgfcaa.TblE
