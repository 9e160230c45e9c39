/- Tables: whether numbers are within a bound (below), and RoleAt, by contract. -/
import Derived.Test.YtnhjnimgjpgfcaaTblA
import Derived.StillTailTactics
import Derived.Laws.Rows
import Derived.Deep.MidRow
namespace Go.Proofs.Ytnhjnimgjpgfcaa.TblB
open Go.RowKit Go.Sort Go.Lib Go.Proofs Go.Proofs.Ytnhjnimgjpgfcaa.Plain Go.Proofs.Ytnhjnimgjpgfcaa.SynP Go.Proofs.Ytnhjnimgjpgfcaa.TabP Go.Proofs.Ytnhjnimgjpgfcaa.Tab1 Go.Proofs.Ytnhjnimgjpgfcaa.Tab2 Go.Proofs.Ytnhjnimgjpgfcaa.RolK Go.Proofs.Ytnhjnimgjpgfcaa.TblA
set_option linter.unusedVariables false
set_option linter.unusedSimpArgs false
/-- A slice value that reads as numbers, wherever it lies. -/
def IG (w : World) (A : Option Addr) (zs : List Int) : Prop :=
  0 < zs.length → ∃ g o, A = some ⟨g, o, none⟩ ∧ g < w.heap.size ∧ ∀ j, (h : j < zs.length) → w.cell? ⟨g, o + j, none⟩ = some (.int .i64 zs[j])
theorem IG.below {w w' : World} {A : Option Addr} {zs : List Int} (h : IG w A zs) (hb : RowKit.Below w.heap.size w w') : IG w' A zs := fun hp => by
  obtain ⟨g, o, hA, hg, hc⟩ := h hp
  exact ⟨g, o, hA, Nat.lt_of_lt_of_le hg hb.size, fun j hj => (hb.cell (p := ⟨g, o + j, none⟩) hg).trans (hc j hj)⟩
theorem IG.lit (X : World) (g : Nat) (zs : List Int) (t : TypeId) (hg : X.heap[g]? = some (.cells (zs.map fun z => Value.int .i64 z).toArray t (0, 0))) : IG X (some ⟨g, 0, none⟩) zs := fun _ => by
  refine ⟨g, 0, rfl, (Array.getElem?_eq_some_iff.1 hg).1, fun j hj => ?_⟩
  rw [Lib.cell_of_heap hg, Nat.zero_add]
  simp [hj]
def inB (n z : Int) : Bool := decide (0 ≤ z ∧ z < n)
def allB (n : Int) (zs : List Int) : Bool := zs.all (inB n)
section
set_option maxRecDepth 100000
theorem fnB (z n : Int) (b : Nat) (w : World) (hb : w.cell? ⟨b, 0, none⟩ = some (.int .i64 n)) :
    Calls Try.prog 64 #[.int .i64 z, .pointer (some ⟨b, 0, none⟩)] w fun e w' => e = .returned (.bool (!inB n z)) ∧ w = w' := by
  by_cases h0 : z < 0
  · have hf : inB n z = false := decide_eq_false (by omega)
    rw [hf]
    clear hf
    go_enter Try.func64, Try.ntmps64
    go_wp2
    go_ret
    exact ⟨rfl, rfl⟩
  · by_cases h1 : n ≤ z
    · have hf : inB n z = false := decide_eq_false (by omega)
      rw [hf]
      clear hf
      go_enter Try.func64, Try.ntmps64
      go_wp2
      go_ret
      exact ⟨rfl, rfl⟩
    · have hf : inB n z = true := decide_eq_true (by omega)
      rw [hf]
      clear hf
      go_enter Try.func64, Try.ntmps64
      go_wp2
      go_ret
      exact ⟨rfl, rfl⟩
theorem all_no {n : Int} {zs : List Int} {k : Nat} (h : k < zs.length) (hk : inB n zs[k] = false) : allB n zs = false := by
  unfold allB
  rw [List.all_eq_false]
  exact ⟨zs[k], List.getElem_mem _, by simp [hk]⟩
theorem all_yes {n : Int} {zs : List Int} (h : ∀ k, (hk : k < zs.length) → inB n zs[k] = true) : allB n zs = true := by
  unfold allB
  rw [List.all_eq_true]
  intro x hx
  obtain ⟨k, hk, rfl⟩ := List.getElem_of_mem hx
  exact h k hk
theorem idxB (A : Option Addr) (ca : Nat) (zs : List Int) (n : Int) (b : Nat) (w : World) (hT : zs.length ≤ 10000) (hA : IG w A zs) (hb : w.cell? ⟨b, 0, none⟩ = some (.int .i64 n)) :
    Calls Try.prog 74 #[.slice A zs.length ca, .func (.func 64) #[] #[.pointer (some ⟨b, 0, none⟩)]] w fun e w' => ∃ r : Int, e = .returned (.int .i64 r) ∧ decide (0 ≤ r) = !allB n zs ∧ w = w' := by
  have HA := Lib.hid hA
  have HB := Lib.hid hb
  clear hA hb
  go_enter Try.func74, Try.ntmps74
  go_wp2_with fail
  go_loop [8] (fun i => ∃ k : Nat, k ≤ zs.length ∧ i = .int .i64 k ∧ Hid (∀ j, j < k → (h : j < zs.length) → inB n zs[j] = true)) (fun i => zs.length - (intOf i).toNat)
  case atStart => exact ⟨0, by omega, rfl, Lib.hid (fun j hj => by omega)⟩
  case round =>
    obtain ⟨k, hk, rfl, hall⟩ := hrel
    by_cases hlt : k < zs.length
    · obtain ⟨g, o, rfl, hg, hc⟩ := HA.out (by omega)
      have a0 := hc k hlt
      have H := Lib.hid (fnB zs[k] n b w HB.out)
      have p1 : (0 : Int) ≤ k := by omega
      have p2 : (k : Int) < zs.length := by omega
      clear hc
      cases hp : inB n zs[k]
      · rw [hp] at H
        have hfin := Lib.hid (show decide ((0 : Int) ≤ k) = !allB n zs by rw [decide_eq_true p1, all_no hlt hp]; rfl)
        clear hp hall
        go_wp2_with fail
        refine H.out.mono ?_
        rintro e w1 ⟨rfl, rfl⟩
        go_wp2_with fail
        go_ret
        exact ⟨k, rfl, hfin.out, rfl⟩
      · rw [hp] at H
        have hnext : Hid (∀ j, j < k + 1 → (h : j < zs.length) → inB n zs[j] = true) := Lib.hid fun j hj h => by
          by_cases e : j = k
          · subst e; exact hp
          · exact hall.out j (by omega) h
        clear hp hall
        go_wp2_with fail
        refine H.out.mono ?_
        rintro e w1 ⟨rfl, rfl⟩
        go_wp2_with fail
        go_round
        case rel => exact ⟨k + 1, by omega, by go_num, hnext⟩
        case measure => simp [intOf]; omega
    · have hfin := Lib.hid (show decide ((0 : Int) ≤ -1) = !allB n zs by rw [all_yes fun j hj => hall.out j (by omega) hj]; rfl)
      clear hall
      go_wp2_with fail
      go_ret
      exact ⟨-1, rfl, hfin.out, rfl⟩
theorem conB (A : Option Addr) (ca : Nat) (zs : List Int) (n : Int) (b : Nat) (w : World) (hT : zs.length ≤ 10000) (hA : IG w A zs) (hb : w.cell? ⟨b, 0, none⟩ = some (.int .i64 n)) :
    Calls Try.prog 63 #[.slice A zs.length ca, .func (.func 64) #[] #[.pointer (some ⟨b, 0, none⟩)]] w fun e w' => e = .returned (.bool (!allB n zs)) ∧ w = w' := by
  have H := Lib.hid (idxB A ca zs n b w hT hA hb)
  generalize (!allB n zs) = r at *
  clear hA hb
  go_enter Try.func63, Try.ntmps63
  go_wp2_with fail
  refine H.out.mono ?_
  rintro e w1 ⟨i, rfl, hi, rfl⟩
  have HI := Lib.hid hi
  clear hi
  go_wp2_with fail
  go_ret
  exact ⟨ret_bool HI.out, rfl⟩
theorem below (A : Option Addr) (ca : Nat) (zs : List Int) (n : Int) (w : World) (hT : zs.length ≤ 10000) (hA : IG w A zs) :
    Calls Try.prog 41 #[.int .i64 n, .slice A zs.length ca] w fun e w' => e = .returned (.bool (allB n zs)) ∧ RowKit.Below w.heap.size w w' := by
  have hmf : ∀ (fn : Fn) (first cap : Array Value) (w : World), (Instr.makeFunc fn first cap).run Try.prog w = .ok (.func fn first cap) w := fun _ _ _ _ => rfl
  have H := Lib.hid (conB A ca zs n w.heap.size (w.alloc (.cells #[.int .i64 n] 3)) hT (hA.below ((Below.refl _ _).alloc (Nat.le_refl _) _)) (by rw [Lib.cell_of_heap (heap_alloc_new w _)]; rfl))
  generalize allB n zs = r at *
  clear hA
  go_enter Try.func41, Try.ntmps41
  go_wp2_with fail
  refine H.out.mono ?_
  rintro e w1 ⟨rfl, rfl⟩
  go_wp2_with fail
  go_ret
  exact ⟨by simp, (Below.refl _ _).alloc (Nat.le_refl _) _⟩
end
section
variable {w : World} {t a b : Nat} {A1 : Option Addr} {c1 : Nat} {A2 : Option Addr} {c2 : Nat} {P L : List Str}
set_option maxRecDepth 100000
theorem below_setRow {B : Nat} {a w : World} (h : RowKit.Below B a w) {g : Nat} (hg : B ≤ g) (cs : Array Value) : RowKit.Below B a (w.setRow g cs) :=
  ⟨h.os, h.tape, h.output, by simpa using h.size, fun k hk => (setRow_other _ _ _ _ (by omega)).trans (h.block k hk)⟩
theorem one2 (s1 s2 : ByteArray) : (#[.string s1, .string s2] : Array Value).all (·.oneCell') = true :=
  all_oneCell_toArray (cs := [.string s1, .string s2]) (fun v hv => by simp at hv; rcases hv with rfl | rfl <;> rfl)
theorem still_tail {P : Program} {id : Nat} {Q : Exit → Act → World → Prop} {a : Act} {w : World} {l : List Oper} (n : Nat) (hm : P.follows .mixedOrders = true) (hB : Region.lexTailB .any l.toArray n = true)
    (h : wpStill P l.toArray w.drew (fun a' => wpList P l.toArray Q (l.drop n) a' w.drew) (l.take n) a) : (Code.region id l.toArray true).wp P Q a w := wp_region_still_tail n hm hB h
theorem infoRole2 : (Try.prog.info? 24).map (·.size) = some 2 := by kernel_rfl
theorem roleAt_out (h : TblK w t a b A1 c1 A2 c2 P L) (i : Int) (hi : i < 0 ∨ ((P.length * L.length : Nat) : Int) ≤ i) : Calls Try.prog 19 #[.pointer (some ⟨t, 0, none⟩), .int .i64 i] w fun e w' => e = .returned zeroR.val ∧ RowKit.Below w.heap.size w w' := by
  have H1 := Lib.hid (fun w' hb => roles (w := w') (h.keep hb))
  have hall : allB ((P.length * L.length : Nat) : Int) [i] = false := by unfold allB inB; simp; omega
  have HB : Hid (∀ (w' : World) (g : Nat), w'.heap[g]? = some (.cells #[.int .i64 i] 3 (0, 0)) → Calls Try.prog 41 #[.int .i64 ((P.length * L.length : Nat) : Int), .slice (some ⟨g, 0, none⟩) 1 1] w' fun e w'' => e = .returned (.bool false) ∧ RowKit.Below w'.heap.size w' w'') := Lib.hid (fun w' g hg => by
    have := below (some ⟨g, 0, none⟩) 1 [i] ((P.length * L.length : Nat) : Int) w' (by simp) (IG.lit w' g [i] 3 hg)
    rw [hall] at this
    exact this)
  have hm : P.length * L.length ≤ 10000000000 := Nat.mul_le_mul h.pl h.ll
  clear h hi hall
  generalize P.length * L.length = m at *
  unfold zeroR noText Rl.val
  go_enter Try.func19, Try.ntmps19
  go_wp2_with fail
  refine (H1.out _ ((Below.refl _ _).alloc (Nat.le_refl _) _)).mono ?_
  rintro e w1 ⟨rfl, rfl⟩
  go_wp2_with fail
  refine (HB.out _ (w.heap.size + 1) (heap_alloc2_new w _ _)).mono ?_
  rintro e w1 ⟨rfl, hb⟩
  have hh : w1.heap[w.heap.size]? = some (.cells #[.string ⟨#[]⟩, .string ⟨#[]⟩] 24 (0, 0)) := (hb.block w.heap.size (by simp; omega)).trans (heap_alloc2_old w _ _)
  have hbel : RowKit.Below w.heap.size w w1 := (((Below.refl w.heap.size w).alloc (Nat.le_refl _) _).alloc (by simp) _).trans (hb.mono (by simp; omega))
  have HH := Lib.hid hh
  have HBel := Lib.hid hbel
  clear hh hbel hb
  go_wp2_with (refine wpList_store_row rfl 24 _ _ rfl w.heap.size #[.string ⟨#[]⟩, .string ⟨#[]⟩] rfl rfl 24 _ HH.out infoRole2 rfl (one2 _ _) ?_)
  exact bodyPost_ret (v := .agg #[.string ⟨#[]⟩, .string ⟨#[]⟩]) (results_cell_row (cs := #[.string ⟨#[]⟩, .string ⟨#[]⟩]) (fn := Try.f19) rfl _ _ w.heap.size 24 (0, 0) _ rfl (setRow_heap _ _ _ _ _ _ HH.out) Try.underlying24 rfl infoRole2) rfl ⟨rfl, below_setRow HBel.out (Nat.le_refl _) _⟩
theorem roleAt_in (h : TblK w t a b A1 c1 A2 c2 P L) (x y : Nat) (hx : x < P.length) (hy : y < L.length) : Calls Try.prog 19 #[.pointer (some ⟨t, 0, none⟩), .int .i64 ((x * L.length + y : Nat) : Int)] w fun e w' => e = .returned (Rl.val ⟨⟨P[x].toArray⟩, ⟨L[y].toArray⟩⟩) ∧ RowKit.Below w.heap.size w w' := by
  have hm : P.length * L.length ≤ 10000000000 := Nat.mul_le_mul h.pl h.ll
  have hi : x * L.length + y < P.length * L.length := by
    have : (x + 1) * L.length ≤ P.length * L.length := Nat.mul_le_mul_right _ hx
    rw [Nat.succ_mul] at this
    omega
  have hdiv : (x * L.length + y) / L.length = x := by
    rw [Nat.mul_comm, Nat.mul_add_div (by omega), Nat.div_eq_of_lt hy, Nat.add_zero]
  have hmod : (x * L.length + y) % L.length = y := by
    rw [Nat.mul_comm, Nat.mul_add_mod, Nat.mod_eq_of_lt hy]
  obtain ⟨i, hie⟩ : ∃ i, x * L.length + y = i := ⟨_, rfl⟩
  rw [hie] at hi hdiv hmod ⊢
  clear hie
  have H1 := Lib.hid (fun w' hb => roles (w := w') (h.keep hb))
  have HP := Lib.hid (fun w' hb => prins (w := w') (h.keep hb))
  have HK := Lib.hid (fun w' hb => links (w := w') (h.keep hb))
  have H5 : Hid (∀ w', RowKit.Below w.heap.size w w' → Calls Try.prog 17 #[.pointer (some ⟨b, 0, none⟩)] w' fun e w'' => e = .returned (.int .i64 L.length) ∧ w' = w'') := Lib.hid (fun w' hb => Tab1.len w' b A2 L.length c2 (h.keep hb).b0)
  have H6 := Lib.hid (fun w' hb => Tab7.at_in a A1 P c1 x w' (h.keep hb).a0 (by have := h.pl; omega) (h.keep hb).ra hx)
  have H7 := Lib.hid (fun w' hb => Tab7.at_in b A2 L c2 y w' (h.keep hb).b0 (by have := h.ll; omega) (h.keep hb).rb hy)
  have hall : allB ((P.length * L.length : Nat) : Int) [(i : Int)] = true := by unfold allB inB; simp; omega
  have HB : Hid (∀ (w' : World) (g : Nat), w'.heap[g]? = some (.cells #[.int .i64 i] 3 (0, 0)) → Calls Try.prog 41 #[.int .i64 ((P.length * L.length : Nat) : Int), .slice (some ⟨g, 0, none⟩) 1 1] w' fun e w'' => e = .returned (.bool true) ∧ RowKit.Below w'.heap.size w' w'') := Lib.hid (fun w' g hg => by
    have := below (some ⟨g, 0, none⟩) 1 [(i : Int)] ((P.length * L.length : Nat) : Int) w' (by simp) (IG.lit w' g [(i : Int)] 3 hg)
    rw [hall] at this
    exact this)
  have hpl := h.pl
  have hll := h.ll
  have n2 : 0 < L.length := by omega
  generalize (⟨P[x].toArray⟩ : ByteArray) = s1 at *
  generalize (⟨L[y].toArray⟩ : ByteArray) = s2 at *
  clear h hall
  generalize P.length * L.length = m at *
  generalize L.length = n at *
  unfold Rl.val
  simp only
  have q1 : ((i : Int) / (n : Int)) = (x : Int) := by rw [← Int.natCast_ediv, hdiv]
  have q2 : ((i : Int) % (n : Int)) = (y : Int) := by rw [← Int.natCast_emod, hmod]
  clear hdiv hmod
  go_enter Try.func19, Try.ntmps19
  go_wp2_with fail
  refine (H1.out _ ((Below.refl _ _).alloc (Nat.le_refl _) _)).mono ?_
  rintro e w1 ⟨rfl, rfl⟩
  go_wp2_with fail
  refine (HB.out _ (w.heap.size + 1) (heap_alloc2_new w _ _)).mono ?_
  rintro e w1 ⟨rfl, hb⟩
  have hh : w1.heap[w.heap.size]? = some (.cells #[.string ⟨#[]⟩, .string ⟨#[]⟩] 24 (0, 0)) := (hb.block w.heap.size (by simp; omega)).trans (heap_alloc2_old w _ _)
  have hbel : RowKit.Below w.heap.size w w1 := (((Below.refl w.heap.size w).alloc (Nat.le_refl _) _).alloc (by simp) _).trans (hb.mono (by simp; omega))
  have HH := Lib.hid hh
  have HBel := Lib.hid hbel
  clear hh hbel hb
  go_wp2_with (first | ((with_reducible refine (HK.out _ HBel.out).mono ?_); rintro e w' ⟨rfl, rfl⟩) | ((with_reducible refine (H5.out _ HBel.out).mono ?_); rintro e w' ⟨rfl, rfl⟩))
  have q3 : IntKind.i64.wrap (Int.tdiv (i : Int) (n : Int)) = (x : Int) := by
    rw [Int.tdiv_eq_ediv_of_nonneg (by omega), q1, IntKind.wrap_i64]; omega
  have q4 : IntKind.i64.wrap (Int.tmod (i : Int) (n : Int)) = (y : Int) := by
    rw [Int.tmod_eq_emod_of_nonneg (by omega), q2, IntKind.wrap_i64]; omega
  have q5 : ¬ n = 0 := by omega
  have wx : IntKind.i64.wrap (x : Int) = x := by rw [IntKind.wrap_i64]; omega
  have wy : IntKind.i64.wrap (y : Int) = y := by rw [IntKind.wrap_i64]; omega
  have q6 : Int.tmod (i : Int) (n : Int) = (y : Int) := by
    rw [Int.tmod_eq_emod_of_nonneg (by omega), q2]
  refine still_tail 13 (by kernel_rfl) (by kernel_rfl) ?_
  simp only [List.take_succ_cons, List.take_zero, List.drop_succ_cons, List.drop_zero]
  repeat still_step
  still_call ((HP.out _ (HBel.out.drew)).mono fun e w' h => ⟨h.1, h.2.symm⟩)
  repeat still_step
  still_call ((H6.out _ (HBel.out.drew)).mono fun e w' h => ⟨h.1, h.2.symm⟩)
  repeat still_step
  still_call ((HK.out _ (HBel.out.drew)).mono fun e w' h => ⟨h.1, h.2.symm⟩)
  repeat still_step
  still_call ((H7.out _ (HBel.out.drew)).mono fun e w' h => ⟨h.1, h.2.symm⟩)
  repeat still_step
  refine wpStill_nil ?_
  go_wp2_with (refine wpList_store_row rfl 24 _ _ rfl w.heap.size #[.string s1, .string s2] rfl rfl 24 #[.string ⟨#[]⟩, .string ⟨#[]⟩] HH.out infoRole2 rfl (one2 _ _) ?_)
  exact bodyPost_ret (v := .agg #[.string s1, .string s2]) (results_cell_row (cs := #[.string s1, .string s2]) (fn := Try.f19) rfl _ _ w.heap.size 24 (0, 0) _ rfl (setRow_heap _ _ _ _ _ _ HH.out) Try.underlying24 rfl infoRole2) rfl ⟨rfl, below_setRow HBel.out.drew (Nat.le_refl _) _⟩
end
end Go.Proofs.Ytnhjnimgjpgfcaa.TblB
