/- Eval, by contract. -/
import Derived.Test.YtblapgfilbmdhaaGreatDoorM32
import Derived.Deep.RegionHeld3
import Derived.Test.YtblapgfilbmdhaaGreatDoorM23
import Derived.Test.YtblapgfilbmdhaaGreatDoorM26
import Derived.Test.YtblapgfilbmdhaaGreatDoorM27
import Derived.Test.YtblapgfilbmdhaaGreatDoorM13
import Derived.Test.YtblapgfilbmdhaaGreatDoorM12
import Derived.Test.YtblapgfilbmdhaaGreatDoorM28
import Derived.Test.YtblapgfilbmdhaaGreatDoorM11
import Derived.Test.YtblapgfilbmdhaaGreatDoorM21
import Derived.Test.YtblapgfilbmdhaaGreatDoorM06
set_option linter.unusedVariables false
set_option linter.unusedSimpArgs false
namespace Go.Proofs.YtblapgfilbmdhaaGreatDoor.SemI
open Go.RowKit Go.Lib Go.Proofs SetA SetB SetC SetD SetJ SetN SetQ SetR TblB TblC TblV TblP TblQ SemA SemB SemC SemD SemE SemF SemG SemH
theorem nx {W w1 w2 : World} (h : Below W.heap.size W w1) (hb : Below w1.heap.size w1 w2) : Below W.heap.size W w2 := h.trans (hb.mono h.size)
theorem bounds {P K N : Nat} (hP : P ≤ 64) (hK : K ≤ 64) (hN : N ≤ 1000) : N + P * (P * K + N * (2 + 2 * P)) ≤ 100000000 ∧ N * (2 + 2 * P) ≤ 1000000 := by
  have h1 : P * K ≤ 64 * 64 := Nat.mul_le_mul hP hK
  have h2 : N * (2 + 2 * P) ≤ 1000 * 130 := Nat.mul_le_mul hN (by omega)
  have h3 : P * (P * K + N * (2 + 2 * P)) ≤ 64 * (64 * 64 + 1000 * 130) := Nat.mul_le_mul hP (by omega)
  omega
theorem bd_of {n P K : Nat} {L T : List Ru} {hist : List Pr} {pend cp : List Ru} {y : Int} {s : Sm} (hn : n = P * K) (hP : P ≤ 64) (hK : K ≤ 64) (hT : T.length ≤ 1000) (h : SemA.Inv n P K L T hist pend cp y s) : s.steps ≤ 100000000 ∧ ∀ i : Nat, (s.look.getD i []).length ≤ 1000000 := by
  obtain ⟨b1, b2⟩ := bounds hP hK hT
  exact ⟨Nat.le_trans (h.bound hn) b1, fun i => Nat.le_trans (h.look_len i) b2⟩
theorem eval_end {P K : Nat} {L T : List Ru} {w w' : World} {a : Ad} {s : Sm} {h : Nat} {y : Int} (ha : a.n = P * K ∧ a.c = P ∧ a.K = K) (hw : Wq w w' a s h F0) (hi : SemA.Inv (P * K) P K T T (s.all.take h) [] [] y s) (hh : s.all.drop h = [])
    (hTl : T.length ≤ L.length) (hTm : ∀ u, u ∈ T ↔ u ∈ L ∧ rightU P K u = true) : EvalPost P K L w (.returned (.pointer (some ⟨a.mo, 0, none⟩))) w' := by
  obtain ⟨h1, M, qv, vs, hk, _⟩ := hw
  obtain ⟨e1, e2, e3⟩ := ha
  have hall : s.all = s.all.take h := by
    have := List.take_append_drop h s.all
    rw [hh, List.append_nil] at this
    exact this.symm
  have hfam := hk.fam
  have hinv := hk.inv
  have hmb := hk.mb
  rw [e1, e2] at hfam hinv
  rw [e3] at hmb
  have hmem : ∀ u, u ∈ T ↔ u ∈ L.filter (rightU P K) := fun u => by rw [hTm, List.mem_filter]
  refine ⟨a.mo, a.B, a.R, M, s.all, s.steps, rfl, ⟨hfam, hinv, hmb⟩, hk.bel, fun r x => ?_, ?_, fun hne => ?_⟩
  · rw [hi.all hall (fun u hu => ok_of_right ((hTm u).1 hu).2) r x]
    exact ⟨fun d => d.mono fun u hu => (hmem u).1 hu, fun d => d.mono fun u hu => (hmem u).2 hu⟩
  · refine Nat.le_trans (hi.bound rfl) ?_
    have m1 : T.length * (2 + 2 * P) ≤ L.length * (2 + 2 * P) := Nat.mul_le_mul_right _ hTl
    have m2 : P * (P * K + T.length * (2 + 2 * P)) ≤ P * (P * K + L.length * (2 + 2 * P)) := Nat.mul_le_mul_left _ (by omega)
    omega
  · have := hi.lo
    cases hT : T with
    | nil =>
      exfalso
      apply hne
      rw [List.eq_nil_iff_forall_not_mem]
      intro u hu
      have := (hmem u).2 hu
      rw [hT] at this
      cases this
    | cons u T' =>
      rw [hT] at this
      simp at this
      omega
set_option maxHeartbeats 4000000 in
set_option maxRecDepth 100000 in
theorem eval (p k : Int) (A : Option Addr) (ca : Nat) (L : List Ru) (w : World) (hT : Tab w) (hL : L.length ≤ 1000) (hA : UG w A L) :
    Calls Tryz.prog 97 #[.int .i64 p, .int .i64 k, .slice A L.length ca] w (EvalPost (SetA.within p 64).toNat (SetA.within k 64).toNat L w) := by
  obtain ⟨i0, hi, hz0, hz1, hz2⟩ := info_parts infoRow
  have HW1 := Lib.hid (fun w' => SemH.within_ p 64 w')
  have HW2 := Lib.hid (fun w' => SemH.within_ k 64 w')
  have hp := within_le p 64 (by omega)
  have hk := within_le k 64 (by omega)
  generalize SetA.within p 64 = Pi at *
  generalize SetA.within k 64 = Ki at *
  obtain ⟨P, rfl⟩ : ∃ v : Nat, Pi = v := ⟨Pi.toNat, by omega⟩
  obtain ⟨K, rfl⟩ : ∃ v : Nat, Ki = v := ⟨Ki.toNat, by omega⟩
  simp only [Int.toNat_natCast]
  have hP : P ≤ 64 := by omega
  have hK : K ≤ 64 := by omega
  clear hp hk
  have hPK : P * K ≤ 64 * 64 := Nat.mul_le_mul hP hK
  have hmul : IntKind.i64.wrap ((P : Int) * (K : Int)) = ((P * K : Nat) : Int) := by
    rw [← Int.natCast_mul, IntKind.wrap_i64]; omega
  have HNw := Lib.hid (fun w' => new_ ((P * K : Nat) : Int) (P : Int) w')
  have hw1 : (SetA.within ((P * K : Nat) : Int) 5000).toNat = P * K := by unfold SetA.within; omega
  have hw2 : (SetA.within (P : Int) 1000).toNat = P := by unfold SetA.within; omega
  unfold NewPost at HNw
  rw [hw1, hw2] at HNw
  have HMUL := Lib.hid (rfl : P * K = P * K)
  obtain ⟨n, hn⟩ : ∃ n, P * K = n := ⟨_, rfl⟩
  have HNN := Lib.hid hn
  rw [hn] at HNw hPK hmul
  have HTB := Lib.hid hT
  have HUA := Lib.hid hA
  clear hT hA hw1 hw2 HMUL hn
  go_enter Tryz.func97, Tryz.ntmps97
  go_wp2_with fail
  refine (HW1.out _).mono ?_
  rintro e w1 ⟨rfl, rfl⟩
  go_wp2_with fail
  refine (HW2.out _).mono ?_
  rintro e w1 ⟨rfl, rfl⟩
  clear HW1 HW2
  go_wp2_with fail
  refine (HNw.out _).mono ?_
  rintro e w2 ⟨B, R, rfl, hfam, hb2, uB, uR⟩
  clear HNw
  have hX : Below w2.heap.size w2 ((w2.alloc (.cells #[.pointer (some ⟨B, 0, none⟩), .int .i64 K, .int .i64 0] 121)).alloc (.cells #[.pointer (some ⟨w2.heap.size, 0, none⟩), .slice none 0 0, .slice none 0 0] 147)) := ((Below.refl _ _).alloc (Nat.le_refl _) _).alloc (by simp) _
  have hXm : ((w2.alloc (.cells #[.pointer (some ⟨B, 0, none⟩), .int .i64 K, .int .i64 0] 121)).alloc (.cells #[.pointer (some ⟨w2.heap.size, 0, none⟩), .slice none 0 0, .slice none 0 0] 147)).heap[w2.heap.size]? = some (.cells #[.pointer (some ⟨B, 0, none⟩), .int .i64 K, .int .i64 0] 121 (0, 0)) := heap_alloc2_old w2 _ _
  have hXw : ((w2.alloc (.cells #[.pointer (some ⟨B, 0, none⟩), .int .i64 K, .int .i64 0] 121)).alloc (.cells #[.pointer (some ⟨w2.heap.size, 0, none⟩), .slice none 0 0, .slice none 0 0] 147)).heap[w2.heap.size + 1]? = some (.cells #[.pointer (some ⟨w2.heap.size, 0, none⟩), .slice none 0 0, .slice none 0 0] 147 (0, 0)) := heap_alloc2_new w2 _ _
  have HBX := Lib.hid (nx hb2 hX)
  have HFX := Lib.hid (hfam.below hX)
  have HXM := Lib.hid hXm
  have HXW := Lib.hid hXw
  have hz2s := hb2.size
  clear hX hXm hXw hfam hb2
  go_upto_region 3 with fail
  generalize (w2.alloc (.cells #[.pointer (some ⟨B, 0, none⟩), .int .i64 K, .int .i64 0] 121)).alloc (.cells #[.pointer (some ⟨w2.heap.size, 0, none⟩), .slice none 0 0, .slice none 0 0] 147) = X at *
  have HWQ := Lib.hid (wq_start HBX.out HFX.out uB uR HXM.out HXW.out hz2s (by omega : w.heap.size ≤ w2.heap.size + 1))
  have cm := fun o => Lib.cell_of_heap HXM.out o
  have cw := fun o => Lib.cell_of_heap HXW.out o
  have HRW := Lib.hid (rows B R n P _ X HFX.out)
  obtain ⟨mo, hmo⟩ : ∃ mo, w2.heap.size = mo := ⟨_, rfl⟩
  simp only [hmo] at cm cw HWQ ⊢
  have hlt1 : mo + 1 < X.heap.size := by have := lt_of HXW.out; omega
  rw [World.setCell_alloc_past _ _ _ _ hlt1] at HWQ
  have mk := run_make (P := Tryz.prog) X 144 117 i0 _ Tryz.underlying144 hi hz0 .i64 .i64 n n (by omega) (by omega) (by rw [hz2]; omega) (by omega)
  rw [hz1] at mk
  simp only [Int.toNat_natCast, Nat.mul_one, made1] at mk
  have hXA := (Below.refl X.heap.size X).alloc (Nat.le_refl _) (.cells (Array.replicate n nilV) 117)
  have hXA2 := (hXA.block _ (lt_of HXW.out)).trans HXW.out
  rw [hmo] at hXA2
  have fw : ∀ o, (X.alloc (.cells (Array.replicate n nilV) 117)).frozen? ⟨mo + 1, o, none⟩ = false := fun o => frozen_of_row _ _ _ _ _ hXA2
  have cw2 : ∀ o, (X.alloc (.cells (Array.replicate n nilV) 117)).cell? ⟨mo + 1, o, none⟩ = _ := fun o => Lib.cell_of_heap hXA2 o
  clear hi hz0 hz1 hz2 HXM HXW HFX HBX hXA hXA2 hz2s hmo uB uR
  go_wp2_with fail
  refine HRW.out.mono ?_
  rintro e wz ⟨rfl, rfl⟩
  clear HRW
  go_upto_region 4 with fail
  clear cm cw mk fw cw2
  generalize (X.setCell ⟨mo + 1, 1, none⟩ (.slice (some ⟨X.heap.size, 0, none⟩) n n)).alloc (.cells (Array.replicate n nilV) 117) = w4 at *
  obtain ⟨Lb, hLb⟩ : ∃ Lb, X.heap.size = Lb := ⟨_, rfl⟩
  simp only [hLb] at HWQ hlt1
  obtain ⟨a, hae⟩ : ∃ a : Ad, (⟨mo + 1, mo, B, R, Lb, n, P, K⟩ : Ad) = a := ⟨_, rfl⟩
  have ha : a.n = n ∧ a.c = P ∧ a.K = K ∧ a.wk = mo + 1 ∧ a.mo = mo := by subst hae; exact ⟨rfl, rfl, rfl, rfl, rfl⟩
  rw [hae] at HWQ
  obtain ⟨ha1, ha2, ha3, ha4, ha5⟩ := ha
  have hbel4 : Below w.heap.size w w4 := by
    obtain ⟨_, M, qv, vs, hk, _⟩ := HWQ.out
    exact hk.bel
  have HTD := Lib.hid (SemT.tidy P K (by omega) (by omega) A ca L w4 (by omega) (HUA.out.below hbel4))
  clear hae hLb hlt1 hbel4 HUA
  go_wp2_with fail
  refine HTD.out.mono ?_
  rintro e w5 ⟨A5, c5, T, rfl, hu5, hb5, hTl, hTm, hA5⟩
  obtain ⟨F1, hq5, hback, hug⟩ := with_row HWQ.out hb5 hu5 hA5
  have HQ5 := Lib.hid hq5
  have HBK := Lib.hid hback
  have HUG := Lib.hid hug
  have HTM := Lib.hid hTm
  have hT1 : T.length ≤ 1000 := by omega
  have HINV : Hid (∀ j, j ≤ T.length → SemA.Inv n P K T (T.take j) [] [] [] 0 (takesM n P (SemA.start n) (T.take j))) := Lib.hid (fun j hj => by
    have := SemA.Inv.takes (T.take j) [] (SemA.start n) (SemA.Inv.start n P K T) (fun u hu => by
      have := List.mem_of_mem_take hu
      refine ⟨this, ?_⟩
      rw [← HNN.out]
      exact ok_of_right ((hTm u).1 this).2)
    simpa using this)
  have HOK : Hid (∀ u ∈ T, Ok a.n a.c a.K u) := Lib.hid (fun u hu => by
    rw [ha1, ha2, ha3, ← HNN.out]
    exact ok_of_right ((hTm u).1 hu).2)
  clear hu5 hb5 hA5 hq5 hback hug hTm HTD HWQ
  go_wp2_with fail
  go_loopw [42] (fun i wr => ∃ j : Nat, j ≤ T.length ∧ i = .int .i64 j ∧ Hid (Wq w wr a (takesM n P (SemA.start n) (T.take j)) 0 F1)) (fun i _ => T.length - (intOf i).toNat)
  case atStart => exact ⟨0, by omega, rfl, HQ5⟩
  case round =>
    obtain ⟨j, hj, rfl, hq⟩ := hrel
    clear HQ5
    by_cases hlt : j < T.length
    · have e1 : decide ((j : Int) < T.length) = true := by simp; omega
      have q0 : (0 : Int) ≤ j := by omega
      have q1 : (j : Int) < T.length := by omega
      obtain ⟨g, o, rfl, hg, hcell⟩ := HUG.out _ _ hq.out (by omega)
      have b0 := hcell j hlt 0 (by omega)
      have b1 := hcell j hlt 1 (by omega)
      have b2 := hcell j hlt 2 (by omega)
      have b3 := hcell j hlt 3 (by omega)
      have b4 := hcell j hlt 4 (by omega)
      have b5 := hcell j hlt 5 (by omega)
      have hstep : takesM n P (SemA.start n) (T.take (j + 1)) = takeM n P (SemA.tick (takesM n P (SemA.start n) (T.take j))) T[j] := by
        unfold takesM
        rw [List.take_succ_eq_append_getElem hlt, List.foldl_append]
        rfl
      have hok := HOK.out T[j] (List.getElem_mem hlt)
      have hbd := bd_of HNN.out.symm hP hK (by rw [List.length_take]; omega) (HINV.out j hj)
      have HS := Lib.hid hstep
      clear hcell hstep
      generalize takesM n P (SemA.start n) (T.take j) = S at *
      generalize T[j] = u at *
      have hlook : ∀ i : Nat, ((SemA.tick S).look.getD i []).length ≤ 10000000 := fun i => by
        have := hbd.2 i
        show (S.look.getD i []).length ≤ _
        omega
      have HTK := Lib.hid (fun w' (hq : Wq w w' a (SemA.tick S) 0 F1) => SemG.take w w' a (SemA.tick S) 0 u F1 hq hok hlook)
      rw [ha1, ha2, ha4] at HTK
      clear hok hlook
      obtain ⟨uk, uh, uw, ua, ub, uv⟩ := u
      have z0 : wr.cell? ⟨g, o + j * 6, none⟩ = some (.int .i64 uk) := b0
      have z1 : wr.cell? ⟨g, o + j * 6 + 1, none⟩ = some (.int .i64 uh) := b1
      have z2 : wr.cell? ⟨g, o + j * 6 + 2, none⟩ = some (.int .i64 uw) := b2
      have z3 : wr.cell? ⟨g, o + j * 6 + 3, none⟩ = some (.int .i64 ua) := b3
      have z4 : wr.cell? ⟨g, o + j * 6 + 4, none⟩ = some (.int .i64 ub) := b4
      have z5 : wr.cell? ⟨g, o + j * 6 + 5, none⟩ = some (.int .i64 uv) := b5
      clear b0 b1 b2 b3 b4 b5
      have HQB := Lib.hid (Wq.below hq.out ((Below.refl wr.heap.size wr).alloc (Nat.le_refl _) (.cells #[.int .i64 uk, .int .i64 uh, .int .i64 uw, .int .i64 ua, .int .i64 ub, .int .i64 uv] 150)))
      have HBX := Lib.hid (heap_alloc_new wr (.cells #[.int .i64 uk, .int .i64 uh, .int .i64 uw, .int .i64 ua, .int .i64 ub, .int .i64 uv] 150))
      have hmo : a.mo < wr.heap.size := by
        obtain ⟨h1, M, qv, vs, h2, h3⟩ := hq.out
        exact lt_of h2.mb
      rw [ha5] at hmo
      clear hq
      go_upto_region 7 with fail
      obtain ⟨bx, hbx⟩ : ∃ bx, wr.heap.size = bx := ⟨_, rfl⟩
      simp only [hbx] at HBX hmo ⊢
      generalize wr.alloc (.cells #[.int .i64 uk, .int .i64 uh, .int .i64 uw, .int .i64 ua, .int .i64 ub, .int .i64 uv] 150) = wb at *
      obtain ⟨⟨qv2, cw⟩, cm, fm, _⟩ := Wq.cells HQB.out
      have HTI := Lib.hid (Wq.tick HQB.out)
      rw [ha4, ha5] at cw
      rw [ha5] at cm fm
      rw [ha5] at HTI
      have HBX2 := Lib.hid ((set_other wb mo 2 (.int .i64 ((S.steps : Int) + 1)) (show bx ≠ mo by omega)).trans HBX.out)
      have hsb := hbd.1
      clear hbd z0 z1 z2 z3 z4 z5 hmo HBX HQB
      go_upto_region 8 with fail
      generalize wb.setCell ⟨mo, 2, none⟩ (.int .i64 ((S.steps : Int) + 1)) = wt at *
      have cb := fun o => Lib.cell_of_heap HBX2.out o
      have HTK2 := Lib.hid (HTK.out _ HTI.out)
      unfold Ru.val at HTK2
      simp only at HTK2
      clear HTK cw cm fm
      go_wp2_with fail
      refine HTK2.out.mono ?_
      rintro e w6 ⟨rfl, hq6⟩
      have HQ6 : Hid (Wq w w6 a (takeM n P (SemA.tick S) ⟨uk, uh, uw, ua, ub, uv⟩) 0 F1) := Lib.hid hq6
      clear hq6 cb HTI HTK2 HBX2
      go_wp2_with fail
      go_roundw
      case rel => exact ⟨j + 1, by omega, by go_num, by rw [HS.out]; exact HQ6⟩
      case measure => simp [intOf]; omega
    · have e1 : decide ((j : Int) < T.length) = false := by simp; omega
      obtain rfl : j = T.length := by omega
      have hI0 := HINV.out T.length (Nat.le_refl _)
      rw [List.take_length] at hq hI0
      have HQ0 : Hid (Wq w wr a (takesM n P (SemA.start n) T) 0 F0) := Lib.hid (HBK.out _ _ hq.out)
      have HI0 := Lib.hid hI0
      generalize takesM n P (SemA.start n) T = S0 at *
      clear hq hI0 HUG HBK HINV
      go_wp2_with fail
      generalize wr = w7 at *
      go_loopg [10] (P * n) (fun gh s10 wr => ∃ (s : Sm) (h : Nat) (y : Int), P * n - h ≤ gh ∧ h ≤ s.all.length ∧ Hid (SemA.Inv n P K T T (s.all.take h) [] [] y s) ∧ Hid (Wq w wr a s h F0))
      case atStart => exact ⟨S0, 0, 0, by omega, by omega, HI0, HQ0⟩
      case round =>
        obtain ⟨s, h, y, hgh, hhl, hI, hQ⟩ := hrel
        clear HQ0 HI0
        have hal := SemA.all_len hI.out
        obtain ⟨M, qv, vs, hk⟩ : ∃ M qv vs, Wk w wr a M s (s.all.drop h) qv vs := by
          obtain ⟨_, M, qv, vs, hk, _⟩ := hQ.out
          exact ⟨M, qv, vs, hk⟩
        have cw : ∀ o, wr.cell? ⟨mo + 1, o, none⟩ = (#[.pointer (some ⟨mo, 0, none⟩), .slice (some ⟨a.Lb, 0, none⟩) n n, qv] : Array Value)[o]? := fun o => by
          have := Lib.cell_of_heap hk.wb o
          rw [ha4, ha5, ha1] at this
          exact this
        cases hd : s.all.drop h with
        | nil =>
          have hqn : ∃ A0 c0, qv = .slice A0 0 c0 := by
            have hq := hk.qu
            rw [hd] at hq
            rcases hq with ⟨rfl, _⟩ | ⟨g, o, cap, cur, rfl, _⟩ <;> exact ⟨_, _, rfl⟩
          obtain ⟨A0, c0, rfl⟩ := hqn
          have HEND := Lib.hid (eval_end (a := a) (K := K) ⟨ha1.trans HNN.out.symm, ha2, ha3⟩ hQ.out (by rw [HNN.out]; exact hI.out) hd hTl HTM.out)
          rw [ha5] at HEND
          clear hk hd hI hQ
          go_wp2_with fail
          go_ret
          exact HEND.out
        | cons cur rest =>
          have hq := hk.qu
          rw [hd] at hq
          obtain ⟨g, qo, cap, rfl, hcr, hcm, hpop⟩ := qu_pop hq
          have hall : s.all = s.all.take h ++ cur :: rest := by rw [← hd, List.take_append_drop]
          have hrng := mayB_iff.1 (hI.out.rng cur (by rw [hall]; simp))
          obtain ⟨c1, y1⟩ := cur
          simp only at hrng
          obtain ⟨c, rfl⟩ : ∃ v : Nat, c1 = v := ⟨c1.toNat, by omega⟩
          obtain ⟨yy, rfl⟩ : ∃ v : Nat, y1 = v := ⟨y1.toNat, by omega⟩
          have hcn : c < n := by omega
          have hyP : yy < P := by omega
          have htk : s.all.take (h + 1) = s.all.take h ++ [((c : Int), (yy : Int))] := by
            have hlt2 : h < s.all.length := by
              rcases Nat.lt_or_ge h s.all.length with h2 | h2
              · exact h2
              · rw [List.drop_eq_nil_of_le h2] at hd; cases hd
            rw [List.take_succ_eq_append_getElem hlt2]
            have := List.drop_eq_getElem_cons hlt2
            rw [hd] at this
            injection this with e1 e2
            rw [e1]
          have hhl2 : h + 1 ≤ s.all.length := by
            rcases Nat.lt_or_ge h s.all.length with h2 | h2
            · exact h2
            · rw [List.drop_eq_nil_of_le h2] at hd; cases hd
          have hdr : s.all.drop (h + 1) = rest := by
            have := List.drop_drop (i := 1) (j := h) (l := s.all)
            rw [hd] at this
            simpa using this.symm
          have hpopI := hI.out.pop hall
          rw [← htk] at hpopI
          simp only at hpopI
          have hbd := bd_of HNN.out.symm hP hK hT1 hI.out
          have hT' : ∀ i : Nat, ((SemA.tick s).look.getD i []).length ≤ 1000000 := hbd.2
          have hsb := hbd.1
          obtain ⟨T', hTe⟩ : ∃ T', (SemA.tick s).look.getD c [] = T' := ⟨_, rfl⟩
          have hat : s.at (c : Int) = T' := hTe
          rw [hat] at hpopI
          have hcur : ((c : Int), (yy : Int)) ∈ s.all.take (h + 1) := by rw [htk]; simp
          have HFI := Lib.hid (hpopI.follow HNN.out.symm hcur T' (SemA.tick s) (fun u hu => by
            show u ∈ s.at (c : Int)
            rw [hat]; exact hu))
          have HBD : Hid (∀ j, j ≤ T'.length → Bd (followM a.n a.c a.K (SemA.tick s) yy (T'.take j))) := Lib.hid (fun j hj => by
            rw [ha1, ha2, ha3]
            have hI2 := SemA.Inv.follow_part HNN.out.symm hcur (T'.take j) (T'.drop j) (SemA.tick s) (by rw [List.take_append_drop]; exact hpopI) (fun u hu => by
              show u ∈ s.at (c : Int)
              rw [hat]; exact List.mem_of_mem_take hu)
            obtain ⟨b1, b2⟩ := bd_of HNN.out.symm hP hK hT1 hI2
            exact ⟨by omega, fun i => by have := b2 i; omega⟩)
          have HOK2 : Hid (∀ u ∈ T', Ok a.n a.c a.K u ∧ u.kind ≠ 1) := Lib.hid (fun u hu => by
            rw [ha1, ha2, ha3]
            have := hI.out.lok c u (by rw [← hTe] at hu; exact hu)
            exact ⟨this.1, this.2.1⟩)
          have HLT : Hid (T'.length ≤ 100000000) := Lib.hid (by have := hT' c; rw [hTe] at this; omega)
          have HFO := Lib.hid (fun w' (hq : Wq w w' a (SemA.tick s) (h + 1) F0) => SemF.follow w w' a (SemA.tick s) (h + 1) c yy F0 HTB.out hq (by omega) (by omega) (by omega) (by omega) (by rw [ha1, ha2, ha3]; exact HNN.out.symm) T' hTe HOK2.out HLT.out HBD.out)
          rw [ha4, ha1, ha2, ha3] at HFO
          rw [hd] at hk
          have HKT := Lib.hid hk.tick
          rw [ha5] at HKT
          have HPOP := Lib.hid hpop
          have HHD := Lib.hid hdr
          have HTKL : Hid ((s.all.take (h + 1)).length = h + 1) := Lib.hid (by rw [List.length_take]; omega)
          have cm : ∀ o, wr.cell? ⟨mo, o, none⟩ = (#[.pointer (some ⟨a.B, 0, none⟩), .int .i64 a.K, .int .i64 s.steps] : Array Value)[o]? := fun o => by
            have := Lib.cell_of_heap hk.mb o
            rw [ha5] at this
            exact this
          have fm : ∀ o, wr.frozen? ⟨mo, o, none⟩ = false := fun o => by
            have h1 : wr.frozen? ⟨a.mo, o, none⟩ = false := frozen_of_row _ _ _ _ _ hk.mb
            rw [ha5] at h1
            exact h1
          have e1 : decide ((0 : Int) < (rest.length : Int) + 1) = true := by first | (simp; done) | (simp; omega)
          have q1 : (0 : Int) < (rest.length : Int) + 1 := by omega
          clear hd hk hI hQ hq hpop hall htk hdr hpopI hbd hT' hTe hat hcur hrng
          go_upto_region 12 with fail
          generalize wr.setCell ⟨mo, 2, none⟩ (.int .i64 ((s.steps : Int) + 1)) = wt at *
          have cw2 : ∀ o, wt.cell? ⟨mo + 1, o, none⟩ = (#[.pointer (some ⟨mo, 0, none⟩), .slice (some ⟨a.Lb, 0, none⟩) n n, .slice (some ⟨g, qo, none⟩) (rest.length + 1) cap] : Array Value)[o]? := fun o => by
            have := Lib.cell_of_heap HKT.out.wb o
            rw [ha4, ha5, ha1] at this
            exact this
          obtain ⟨x0, x1, _, _⟩ := HPOP.out wt HKT.out.qu
          simp only at x0 x1
          have hkA := HKT.out.below ((Below.refl wt.heap.size wt).alloc (Nat.le_refl _) (.cells #[.int .i64 c, .int .i64 yy] 153))
          have HKA := Lib.hid hkA
          have HBX := Lib.hid (heap_alloc_new wt (.cells #[.int .i64 c, .int .i64 yy] 153))
          have hmoA : mo + 1 < wt.heap.size := by
            have := lt_of HKT.out.wb
            rw [ha4] at this
            exact this
          clear hkA cw cm fm
          go_upto_region 13 with fail
          obtain ⟨bx, hbx⟩ : ∃ bx, wt.heap.size = bx := ⟨_, rfl⟩
          simp only [hbx] at HBX hmoA ⊢
          generalize wt.alloc (.cells #[.int .i64 c, .int .i64 yy] 153) = wa at *
          have cw3 : ∀ o, wa.cell? ⟨mo + 1, o, none⟩ = (#[.pointer (some ⟨mo, 0, none⟩), .slice (some ⟨a.Lb, 0, none⟩) n n, .slice (some ⟨g, qo, none⟩) (rest.length + 1) cap] : Array Value)[o]? := fun o => by
            have := Lib.cell_of_heap HKA.out.wb o
            rw [ha4, ha5, ha1] at this
            exact this
          have fw3 : ∀ o, wa.frozen? ⟨mo + 1, o, none⟩ = false := fun o => by
            have h1 : wa.frozen? ⟨a.wk, o, none⟩ = false := frozen_of_row _ _ _ _ _ HKA.out.wb
            rw [ha4] at h1
            exact h1
          obtain ⟨_, _, x2, x3⟩ := HPOP.out wa HKA.out.qu
          have HX2 := Lib.hid x2
          have HX3 := Lib.hid x3
          have hgr : ∀ r, wa.grownBy wa r := fun r => ⟨rfl, rfl, rfl, Nat.le_refl _, fun _ _ _ => rfl⟩
          have HWQ : Hid (∀ qv', Qu wa w.heap.size qv' rest → Wq w (wa.setCell ⟨mo + 1, 2, none⟩ qv') a (SemA.tick s) (h + 1) F0) := Lib.hid (fun qv' hq => by
            have := HKA.out.queue (hgr _) hq
            rw [ha4] at this
            exact ⟨hhl2, M, qv', vs, by rw [show (SemA.tick s).all.drop (h + 1) = rest from HHD.out]; exact this, f0_ok _ _ _ _⟩)
          have HBX2 : Hid (∀ v, (wa.setCell ⟨mo + 1, 2, none⟩ v).heap[bx]? = some (.cells #[.int .i64 c, .int .i64 yy] 153 (0, 0))) := Lib.hid (fun v => (set_other wa _ _ _ (show bx ≠ mo + 1 by omega)).trans HBX.out)
          have hcm2 : cap ≤ 9223372036854775807 := hcm
          clear x0 x1 x2 x3 hgr cw2 HKT HKA HBX hmoA hbx hcm
          by_cases hcap : cap = 1
          · subst hcap
            have hr0 : rest.length = 0 := by omega
            have HW8 := Lib.hid (HWQ.out _ (HX2.out rfl))
            have HF8 := Lib.hid (HFO.out _ HW8.out)
            have cb := fun o => Lib.cell_of_heap (HBX2.out (.slice (some ⟨g, qo, none⟩) 0 0)) o
            obtain rfl : rest = [] := List.eq_nil_of_length_eq_zero hr0
            simp only [List.length_nil, Nat.zero_add] at cw3 hcr q1 e1 ⊢
            clear HWQ HX2 HX3 HBX2 HFO HPOP hr0 e1 q1 hcr
            go_upto_region 14 with fail
            generalize wa.setCell ⟨mo + 1, 2, none⟩ (.slice (some ⟨g, qo, none⟩) 0 0) = w8 at *
            go_wp2_with fail
            refine HF8.out.mono ?_
            rintro e w9 ⟨rfl, hq9⟩
            have HQ9 : Hid (Wq w w9 a (followM n P K (SemA.tick s) yy T') (h + 1) F0) := Lib.hid hq9
            clear hq9 HF8 HW8 cb cw3 fw3
            go_wp2_with fail
            go_roundg (P * n - (h + 1))
            case measure => omega
            case rel =>
              have hpre := HFI.out.pre
              refine ⟨followM n P K (SemA.tick s) yy T', h + 1, yy, Nat.le_refl _, HQ9.out.1, Lib.hid ?_, HQ9⟩
              have e4 : (followM n P K (SemA.tick s) yy T').all.take (h + 1) = s.all.take (h + 1) := by
                have := List.prefix_iff_eq_take.1 hpre
                rw [HTKL.out] at this
                exact this.symm
              rw [e4]
              exact HFI.out
          · have HW8 := Lib.hid (HWQ.out _ (HX3.out hcap))
            have HF8 := Lib.hid (HFO.out _ HW8.out)
            have cb := fun o => Lib.cell_of_heap (HBX2.out (.slice (some ⟨g, qo + 2, none⟩) rest.length (cap - 1))) o
            clear HWQ HX2 HX3 HBX2 HFO HPOP
            go_upto_region 14 with fail
            generalize wa.setCell ⟨mo + 1, 2, none⟩ (.slice (some ⟨g, qo + 2, none⟩) rest.length (cap - 1)) = w8 at *
            go_wp2_with fail
            refine HF8.out.mono ?_
            rintro e w9 ⟨rfl, hq9⟩
            have HQ9 : Hid (Wq w w9 a (followM n P K (SemA.tick s) yy T') (h + 1) F0) := Lib.hid hq9
            clear hq9 HF8 HW8 cb cw3 fw3
            go_wp2_with fail
            go_roundg (P * n - (h + 1))
            case measure => omega
            case rel =>
              have hpre := HFI.out.pre
              refine ⟨followM n P K (SemA.tick s) yy T', h + 1, yy, Nat.le_refl _, HQ9.out.1, Lib.hid ?_, HQ9⟩
              have e4 : (followM n P K (SemA.tick s) yy T').all.take (h + 1) = s.all.take (h + 1) := by
                have := List.prefix_iff_eq_take.1 hpre
                rw [HTKL.out] at this
                exact this.symm
              rw [e4]
              exact HFI.out
end Go.Proofs.YtblapgfilbmdhaaGreatDoor.SemI
namespace Go.Proofs.YtblapgfilbmdhaaGreatDoor.SemJ
open Go.RowKit Go.Lib Go.Proofs SetA SetB SetC SetD SetJ SetN SetQ SetR TblB TblC TblV TblP TblQ SemA SemB SemH SemI
section
variable {w : World} {mo B R n P K : Nat} {M : List Nat} {all : List Pr} {st : Nat}
theorem MoAt.cells (h : MoAt w mo B R n P K M all st) : ∀ o, w.cell? ⟨mo, o, none⟩ = (#[.pointer (some ⟨B, 0, none⟩), .int .i64 K, .int .i64 st] : Array Value)[o]? := fun o => Lib.cell_of_heap h.mb o
theorem lst0 (h : MoAt w mo B R n P K M all st) (ht : Tab w) (r : Int) : Calls Tryz.prog 101 #[.pointer (some ⟨B, 0, none⟩), .int .i64 r] w (ListPost (listL P all r) w) := by
  have := list_at (.pointer (some ⟨B, 0, none⟩)) (rowI n M r) r w (rowI_len h.fam.len r) (rowI_small h.fam r) ht (at_ B R n P M r w h.fam)
  rw [h.inv.list] at this
  exact this
set_option maxRecDepth 100000 in
theorem members (h : MoAt w mo B R n P K M all st) (ht : Tab w) (r : Int) : Calls Tryz.prog 53 #[.pointer (some ⟨mo, 0, none⟩), .int .i64 r] w (ListPost (listL P all r) w) := by
  have HH := Lib.hid (lst0 h ht r)
  have cm := MoAt.cells h
  generalize listL P all r = l at *
  clear h ht
  go_enter Tryz.func53, Tryz.ntmps53
  go_wp2_with fail
  refine HH.out.mono ?_
  rintro e w1 ⟨v, rfl, hown, hb⟩
  have HO := Lib.hid hown
  have HB := Lib.hid hb
  clear cm HH hown hb
  go_wp2_with fail
  go_ret
  exact ⟨_, rfl, HO.out, HB.out⟩
set_option maxRecDepth 100000 in
theorem steps (h : MoAt w mo B R n P K M all st) : Calls Tryz.prog 51 #[.pointer (some ⟨mo, 0, none⟩)] w fun e w' => e = .returned (.int .i64 st) ∧ w = w' := by
  have cm := MoAt.cells h
  clear h
  go_enter Tryz.func51, Tryz.ntmps51
  go_wp2_with fail
  go_ret
  exact ⟨rfl, rfl⟩
end
def boundN (P K N : Nat) : Nat := 4 * (P + 1) * (P + 1) * (P + 1) * (K + 1) * (K + 1) * (N + 1)
theorem wrapN {a b c : Nat} (h : a * b = c) (hc : c < 9223372036854775808) : IntKind.i64.wrap ((a : Int) * (b : Int)) = (c : Int) := by
  rw [← Int.natCast_mul, h, IntKind.wrap_i64]
  omega
theorem bound_steps {P K N : Nat} (hP : P ≤ 64) (hK : K ≤ 64) (hN : N ≤ 10000) : 4 * (P + 1) ≤ 260 ∧ 4 * (P + 1) * (P + 1) ≤ 16900 ∧ 4 * (P + 1) * (P + 1) * (P + 1) ≤ 1098500 ∧ 4 * (P + 1) * (P + 1) * (P + 1) * (K + 1) ≤ 71402500 ∧ 4 * (P + 1) * (P + 1) * (P + 1) * (K + 1) * (K + 1) ≤ 4641162500 ∧ boundN P K N ≤ 46416266162500 := by
  have h1 : 4 * (P + 1) ≤ 260 := by omega
  have h2 : 4 * (P + 1) * (P + 1) ≤ 260 * 65 := Nat.mul_le_mul h1 (by omega)
  have h3 : 4 * (P + 1) * (P + 1) * (P + 1) ≤ 16900 * 65 := Nat.mul_le_mul (by omega) (by omega)
  have h4 : 4 * (P + 1) * (P + 1) * (P + 1) * (K + 1) ≤ 1098500 * 65 := Nat.mul_le_mul (by omega) (by omega)
  have h5 : 4 * (P + 1) * (P + 1) * (P + 1) * (K + 1) * (K + 1) ≤ 71402500 * 65 := Nat.mul_le_mul (by omega) (by omega)
  have h6 : boundN P K N ≤ 4641162500 * 10001 := Nat.mul_le_mul (by omega) (by omega)
  omega
set_option maxRecDepth 100000 in
theorem bound (p k n : Int) (w : World) : Calls Tryz.prog 16 #[.int .i64 p, .int .i64 k, .int .i64 n] w fun e w' => e = .returned (.int .i64 (boundN (SetA.within p 64).toNat (SetA.within k 64).toNat (SetA.within n 10000).toNat : Nat)) ∧ w = w' := by
  have HW1 := Lib.hid (fun w' => SemH.within_ p 64 w')
  have HW2 := Lib.hid (fun w' => SemH.within_ k 64 w')
  have HW3 := Lib.hid (fun w' => SemH.within_ n 10000 w')
  have hp := within_le p 64 (by omega)
  have hk := within_le k 64 (by omega)
  have hn := within_le n 10000 (by omega)
  generalize SetA.within p 64 = Pi at *
  generalize SetA.within k 64 = Ki at *
  generalize SetA.within n 10000 = Ni at *
  obtain ⟨P, rfl⟩ : ∃ v : Nat, Pi = v := ⟨Pi.toNat, by omega⟩
  obtain ⟨K, rfl⟩ : ∃ v : Nat, Ki = v := ⟨Ki.toNat, by omega⟩
  obtain ⟨N, rfl⟩ : ∃ v : Nat, Ni = v := ⟨Ni.toNat, by omega⟩
  simp only [Int.toNat_natCast]
  have hP : P ≤ 64 := by omega
  have hK : K ≤ 64 := by omega
  have hN : N ≤ 10000 := by omega
  obtain ⟨b1, b2, b3, b4, b5, b6⟩ := bound_steps hP hK hN
  obtain ⟨a1, h1⟩ : ∃ a, 4 * (P + 1) = a := ⟨_, rfl⟩
  obtain ⟨a2, h2⟩ : ∃ a, a1 * (P + 1) = a := ⟨_, rfl⟩
  obtain ⟨a3, h3⟩ : ∃ a, a2 * (P + 1) = a := ⟨_, rfl⟩
  obtain ⟨a4, h4⟩ : ∃ a, a3 * (K + 1) = a := ⟨_, rfl⟩
  obtain ⟨a5, h5⟩ : ∃ a, a4 * (K + 1) = a := ⟨_, rfl⟩
  obtain ⟨a6, h6⟩ : ∃ a, a5 * (N + 1) = a := ⟨_, rfl⟩
  have hbn : boundN P K N = a6 := by unfold boundN; rw [h1, h2, h3, h4, h5, h6]
  rw [hbn] at b6 ⊢
  rw [h1, h2, h3, h4, h5] at b5
  rw [h1, h2, h3, h4] at b4
  rw [h1, h2, h3] at b3
  rw [h1, h2] at b2
  rw [h1] at b1
  have m1 : IntKind.i64.wrap (4 * ((P : Int) + 1)) = (a1 : Int) := wrapN h1 (by omega)
  have m2 : IntKind.i64.wrap ((a1 : Int) * ((P : Int) + 1)) = (a2 : Int) := wrapN h2 (by omega)
  have m3 : IntKind.i64.wrap ((a2 : Int) * ((P : Int) + 1)) = (a3 : Int) := wrapN h3 (by omega)
  have m4 : IntKind.i64.wrap ((a3 : Int) * ((K : Int) + 1)) = (a4 : Int) := wrapN h4 (by omega)
  have m5 : IntKind.i64.wrap ((a4 : Int) * ((K : Int) + 1)) = (a5 : Int) := wrapN h5 (by omega)
  have m6 : IntKind.i64.wrap ((a5 : Int) * ((N : Int) + 1)) = (a6 : Int) := wrapN h6 (by omega)
  clear h1 h2 h3 h4 h5 h6 hbn b1 b2 b3 b4 b5 b6 hp hk hn
  go_enter Tryz.func16, Tryz.ntmps16
  go_wp2_with fail
  refine (HW1.out _).mono ?_
  rintro e w1 ⟨rfl, rfl⟩
  go_wp2_with fail
  refine (HW2.out _).mono ?_
  rintro e w1 ⟨rfl, rfl⟩
  go_wp2_with fail
  refine (HW3.out _).mono ?_
  rintro e w1 ⟨rfl, rfl⟩
  go_wp2_with fail
  go_ret
  exact ⟨rfl, rfl⟩
end Go.Proofs.YtblapgfilbmdhaaGreatDoor.SemJ
namespace Go.Proofs.YtblapgfilbmdhaaGreatDoor.SemK
open Go.RowKit Go.Lib Go.Proofs SetA SetB SetC SetD SetJ SetN SetQ SetR TblB TblC TblV TblP TblQ SemA SemB SemH SemI SemJ
theorem has_of {all : List Pr} {p : Int → Int → Prop} (h : ∀ r x, (r, x) ∈ all ↔ p r x) {r x : Int} {b : Bool} (hb : p r x ↔ b = true) : hasL all r x = b := by
  rw [Bool.eq_iff_iff, hasL_iff, h, hb]
end Go.Proofs.YtblapgfilbmdhaaGreatDoor.SemK
namespace Go.Proofs.YtblapgfilbmdhaaGreatDoor.SemSw
open Go.RowKit Go.Lib Go.Proofs SetA SetB SetC SetD SetJ SetN SetQ SetR TblB TblC TblV TblP SemA SemB SemH SemI SemJ SemK
end Go.Proofs.YtblapgfilbmdhaaGreatDoor.SemSw
namespace Go.Proofs.YtblapgfilbmdhaaGreatDoor.SemGa
open Go.RowKit Go.Lib Go.Proofs SetA SetB SetC SetD SetJ SetN SetQ SetR TblB TblC TblV TblP TblQ SemA SemB SemH SemI SemJ SemK
section
variable {P : Program} (w : World)
end
def Mo (w : World) (mo P K : Nat) (T : List Ru) : Prop := ∃ B R M all st, MoAt w mo B R (P * K) P K M all st ∧ ∀ r x, (r, x) ∈ all ↔ Der K (T.filter (rightU P K)) r x
theorem Mo.below {w w' : World} {mo P K : Nat} {T : List Ru} (h : Mo w mo P K T) (hb : Below w.heap.size w w') : Mo w' mo P K T := by
  obtain ⟨B, R, M, all, st, hm, hd⟩ := h
  exact ⟨B, R, M, all, st, hm.below hb, hd⟩
noncomputable def derB (P K : Nat) (T : List Ru) (r x : Int) : Bool := @decide (Der K (T.filter (rightU P K)) r x) (Classical.propDecidable _)
theorem derB_iff {P K : Nat} {T : List Ru} {r x : Int} : derB P K T r x = true ↔ Der K (T.filter (rightU P K)) r x := @decide_eq_true_iff _ (Classical.propDecidable _)
noncomputable def memD (P K : Nat) (T : List Ru) (r : Int) : List Nat := (List.range P).filter fun x : Nat => derB P K T r (x : Int)
theorem mem_memD {P K : Nat} {T : List Ru} {r : Int} {x : Nat} : x ∈ memD P K T r ↔ x < P ∧ Der K (T.filter (rightU P K)) r (x : Int) := by
  unfold memD
  rw [List.mem_filter, List.mem_range, derB_iff]
theorem memD_len (P K : Nat) (T : List Ru) (r : Int) : (memD P K T r).length ≤ P := by
  unfold memD
  exact Nat.le_trans (List.length_filter_le _ _) (Nat.le_of_eq (List.length_range))
theorem list_memD {P K : Nat} {T : List Ru} {all : List Pr} (hd : ∀ r x, (r, x) ∈ all ↔ Der K (T.filter (rightU P K)) r x) (r : Int) : listL P all r = memD P K T r := by
  unfold listL memD
  refine List.filter_congr fun x _ => ?_
  exact has_of hd derB_iff.symm
theorem membersM {w : World} {mo P K : Nat} {T : List Ru} (h : Mo w mo P K T) (ht : Tab w) (r : Int) : Calls Tryz.prog 53 #[.pointer (some ⟨mo, 0, none⟩), .int .i64 r] w (ListPost (memD P K T r) w) := by
  obtain ⟨B, R, M, all, st, hm, hd⟩ := h
  have h2 := members hm ht r
  rw [list_memD hd r] at h2
  exact h2
end Go.Proofs.YtblapgfilbmdhaaGreatDoor.SemGa
namespace Go.Proofs.YtblapgfilbmdhaaGreatDoor.LwH
open Go.RowKit Go.Sort Go.Lib Go.Proofs Plain SynP TabP Tab1 Tab5 PolA PolE PolG PolH PolOp PolLi TblA TblB TblC TblI TblV TblW TblQ TblP TblF TblG TblH SetB SetJ SetN SetR SemA SemH SemGa StB LwG
abbrev nx := @TblW.nx
def MoS (w : World) (mo P K : Nat) (T : List Ru) (st : Nat) : Prop := ∃ B R M all, MoAt w mo B R (P * K) P K M all st ∧ (∀ r x, (r, x) ∈ all ↔ Der K (T.filter (rightU P K)) r x) ∧ st ≤ T.length + P * (P * K + T.length * (2 + 2 * P)) ∧ (T.filter (rightU P K) ≠ [] → 0 < st)
theorem MoS.below {w w' : World} {mo P K st : Nat} {T : List Ru} (h : MoS w mo P K T st) (hb : Below w.heap.size w w') : MoS w' mo P K T st := by
  obtain ⟨B, R, M, all, hm, hd⟩ := h
  exact ⟨B, R, M, all, hm.below hb, hd⟩
theorem MoS.mo {w : World} {mo P K st : Nat} {T : List Ru} (h : MoS w mo P K T st) : Mo w mo P K T := by
  obtain ⟨B, R, M, all, hm, hd, _⟩ := h
  exact ⟨B, R, M, all, st, hm, hd⟩
def SPost (P K : Nat) (T : List Ru) (w : World) (e : Ending) (w' : World) : Prop := ∃ mo st : Nat, e = .returned (.pointer (some ⟨mo, 0, none⟩)) ∧ MoS w' mo P K T st ∧ Below w.heap.size w w'
theorem evalS (P K : Nat) (hP : P ≤ 64) (hK : K ≤ 64) (A : Option Addr) (ca : Nat) (L : List Ru) (w : World) (hT : Tab w) (hL : L.length ≤ 1000) (hA : UG w A L) :
    Calls Tryz.prog 97 #[.int .i64 P, .int .i64 K, .slice A L.length ca] w (SPost P K L w) := by
  have e1 : (SetA.within (P : Int) 64).toNat = P := by unfold SetA.within; omega
  have e2 : (SetA.within (K : Int) 64).toNat = K := by unfold SetA.within; omega
  have h := SemI.eval P K A ca L w hT hL hA
  rw [e1, e2] at h
  refine h.mono ?_
  rintro e w' ⟨mo, B, R, M, all, st, he, hm, hb, hd, hs⟩
  exact ⟨mo, st, he, ⟨B, R, M, all, hm, hd, hs⟩, hb⟩
def TM (w : World) (v1 v2 : Value) (P L : List Str) (T : List Ru) : Prop := ∃ (t a b : Nat) (A1 : Option Addr) (c1 : Nat) (A2 : Option Addr) (c2 mo st : Nat), v1 = .pointer (some ⟨t, 0, none⟩) ∧ v2 = .pointer (some ⟨mo, 0, none⟩) ∧ TblK w t a b A1 c1 A2 c2 P L ∧ MoS w mo P.length L.length T st
def TMPost (P L : List Str) (T : List Ru) (w : World) (e : Ending) (w' : World) : Prop := ∃ v1 v2, e = .returned (.tuple #[v1, v2]) ∧ TM w' v1 v2 P L T ∧ Below w.heap.size w w'
def rulesOf (P L : List Str) (S : List St) : List Ru := rulesT P L S S.length
theorem rulesOf_len (P L : List Str) (S : List St) : (rulesOf P L S).length ≤ S.length := rulesT_len P L S S.length
def PT (p : Py) : List Str := tab (prinsT p)
def NT (p : Py) : List Str := tab (namesT p)
noncomputable def memT (PP NN : List Str) (T : List Ru) (r : Rl) : List Str := (memD PP.length NN.length T (roleI PP NN r)).map fun i => PP.getD i []
def STF (P K : Nat) (T : List Ru) (st : Nat) : Prop := st ≤ T.length + P * (P * K + T.length * (2 + 2 * P)) ∧ (T.filter (rightU P K) ≠ [] → 0 < st)
end Go.Proofs.YtblapgfilbmdhaaGreatDoor.LwH
namespace Go.Proofs.YtblapgfilbmdhaaGreatDoor.LwA
open Go.RowKit Go.Lib Go.Proofs Plain SynP
structure Pa where
  role : Rl
  who : ByteArray
  deriving DecidableEq
def Pa.cells (p : Pa) : List Value := [.string p.role.owner, .string p.role.name, .string p.who]
inductive DerN (S : List St) : Rl → ByteArray → Prop
  | mem (s : St) : s ∈ S → s.kind = 1 → DerN S s.head s.who
  | incl (s : St) (x : ByteArray) : s ∈ S → s.kind = 2 → DerN S s.a x → DerN S s.head x
  | link (s : St) (x y : ByteArray) : s ∈ S → s.kind = 3 → DerN S s.a x → DerN S ⟨x, s.via⟩ y → DerN S s.head y
  | both (s : St) (x : ByteArray) : s ∈ S → s.kind = 4 → DerN S s.a x → DerN S s.b x → DerN S s.head x
theorem DerN.mono {S S' : List St} (h : ∀ s ∈ S, s ∈ S') {r : Rl} {x : ByteArray} (d : DerN S r x) : DerN S' r x := by
  induction d with
  | mem s hs hk => exact .mem s (h s hs) hk
  | incl s x hs hk _ ih => exact .incl s x (h s hs) hk ih
  | link s x y hs hk _ _ i1 i2 => exact .link s x y (h s hs) hk i1 i2
  | both s x hs hk _ _ i1 i2 => exact .both s x (h s hs) hk i1 i2
def viaL (M : List Pa) (r : Rl) : List ByteArray := (M.filter fun y => decide (y.role = r)).map Pa.who
def oneL (L : List Pa) (s : St) (x : Pa) : List ByteArray :=
  if x.role = s.a then
    if s.kind = 2 then [x.who]
    else if s.kind = 4 then (if (⟨s.b, x.who⟩ : Pa) ∈ L then [x.who] else [])
    else if s.kind = 3 then viaL L ⟨x.who, s.via⟩
    else []
  else []
def folL (L M : List Pa) (s : St) : List ByteArray := M.flatMap (oneL L s)
def follows (L : List Pa) (s : St) : List ByteArray := if s.kind = 1 then [s.who] else folL L L s
theorem mem_via {M : List Pa} {r : Rl} {x : ByteArray} : x ∈ viaL M r ↔ (⟨r, x⟩ : Pa) ∈ M := by
  unfold viaL
  rw [List.mem_map]
  constructor
  · rintro ⟨p, hp, rfl⟩
    rw [List.mem_filter, decide_eq_true_eq] at hp
    obtain ⟨h1, rfl⟩ := hp
    exact h1
  · intro h
    exact ⟨_, List.mem_filter.2 ⟨h, by simp⟩, rfl⟩
theorem closed {S : List St} {L : List Pa} (h : ∀ s ∈ S, ∀ x ∈ follows L s, (⟨s.head, x⟩ : Pa) ∈ L) {r : Rl} {x : ByteArray} (d : DerN S r x) : (⟨r, x⟩ : Pa) ∈ L := by
  have key : ∀ s ∈ S, s.kind ≠ 1 → ∀ p ∈ L, ∀ x ∈ oneL L s p, (⟨s.head, x⟩ : Pa) ∈ L := fun s hs hk p hp x hx => h s hs x (by
    unfold follows folL
    rw [if_neg hk]
    exact List.mem_flatMap.2 ⟨p, hp, hx⟩)
  induction d with
  | mem s hs hk => exact h s hs _ (by unfold follows; rw [if_pos hk]; simp)
  | incl s x hs hk _ ih => exact key s hs (by omega) _ ih _ (by unfold oneL; simp [hk])
  | link s x y hs hk _ _ i1 i2 => exact key s hs (by omega) _ i1 _ (by unfold oneL; rw [if_pos rfl, if_neg (by omega), if_neg (by omega), if_pos hk]; exact mem_via.2 i2)
  | both s x hs hk _ _ i1 i2 => exact key s hs (by omega) _ i1 _ (by unfold oneL; rw [if_pos rfl, if_neg (by omega), if_pos hk, if_pos i2]; simp)
theorem len_sub {α : Type} [BEq α] [LawfulBEq α] : ∀ {a b : List α}, a.Nodup → (∀ x ∈ a, x ∈ b) → a.length ≤ b.length
  | [], _, _, _ => by simp
  | x :: a, b, hn, hs => by
    rw [List.nodup_cons] at hn
    have hx := hs x (by simp)
    have h1 := len_sub (a := a) (b := b.erase x) hn.2 fun y hy => by
      have hne : y ≠ x := fun e => hn.1 (e ▸ hy)
      exact (List.mem_erase_of_ne hne).2 (hs y (by simp [hy]))
    have h2 := List.length_erase_of_mem hx
    have h3 := List.length_pos_of_mem hx
    simp only [List.length_cons]
    omega
def gridN (S : List St) : List Pa := S.flatMap fun s => S.map fun t => ⟨s.head, t.who⟩
theorem grid_len (S : List St) : (gridN S).length = S.length * S.length := by
  unfold gridN
  have : ∀ M : List St, (M.flatMap fun s => S.map fun t => (⟨s.head, t.who⟩ : Pa)).length = M.length * S.length := fun M => by
    induction M with
    | nil => simp
    | cons x M ih => rw [List.flatMap_cons, List.length_append, ih, List.length_map, List.length_cons, Nat.add_mul]; omega
  exact this S
def PaG (w : World) (A : Option Addr) (L : List Pa) : Prop :=
  0 < L.length → ∃ g o, A = some ⟨g, o, none⟩ ∧ g < w.heap.size ∧ ∀ j, (h : j < L.length) → w.cell? ⟨g, o + j * 3, none⟩ = some (.string L[j].role.owner) ∧ w.cell? ⟨g, o + j * 3 + 1, none⟩ = some (.string L[j].role.name) ∧ w.cell? ⟨g, o + j * 3 + 2, none⟩ = some (.string L[j].who)
theorem PaG.below {w w' : World} {A : Option Addr} {L : List Pa} (h : PaG w A L) (hb : Below w.heap.size w w') : PaG w' A L := fun hp => by
  obtain ⟨g, o, hA, hg, hc⟩ := h hp
  refine ⟨g, o, hA, Nat.lt_of_lt_of_le hg hb.size, fun j hj => ?_⟩
  obtain ⟨a0, a1, a2⟩ := hc j hj
  have k : ∀ {i : Nat} {u : Value}, w.cell? ⟨g, i, none⟩ = some u → w'.cell? ⟨g, i, none⟩ = some u := fun {i u} e => (hb.cell (p := ⟨g, i, none⟩) hg).trans e
  exact ⟨k a0, k a1, k a2⟩
theorem add_off (g o j : Nat) : (⟨g, o, none⟩ : Addr).add j = ⟨g, o + j, none⟩ := by
  unfold Addr.add
  simp
def BG (w : World) (A : Option Addr) (F : List ByteArray) : Prop := 0 < F.length → ∃ g, A = some ⟨g, 0, none⟩ ∧ g < w.heap.size ∧ ∀ j, (h : j < F.length) → w.cell? ⟨g, j, none⟩ = some (.string F[j])
theorem BG.below {w w' : World} {A : Option Addr} {F : List ByteArray} (h : BG w A F) (hb : Below w.heap.size w w') : BG w' A F := fun hp => by
  obtain ⟨g, hA, hg, hc⟩ := h hp
  exact ⟨g, hA, Nat.lt_of_lt_of_le hg hb.size, fun j hj => (hb.cell (p := ⟨g, j, none⟩) hg).trans (hc j hj)⟩
end Go.Proofs.YtblapgfilbmdhaaGreatDoor.LwA
namespace Go.Proofs.YtblapgfilbmdhaaGreatDoor.RolA
open Go.RowKit Go.Sort Go.Lib Go.Proofs Plain SynP Grown SynC SynD SynJ PolA
open SynDA (sortL_snoc insL_len sortL_len insL_at own_keep own_more own_form step_append_from)
def RF (w : World) (A : Option Addr) (L : List Rl) : Prop :=
  0 < L.length → ∃ g o, A = some ⟨g, o, none⟩ ∧ g < w.heap.size ∧ ∀ j u, (rcells L)[j]? = some u → w.cell? ⟨g, o + j, none⟩ = some u
theorem RF.below {w w' : World} {A : Option Addr} {L : List Rl} (h : RF w A L) (hb : Below w.heap.size w w') : RF w' A L := fun hp => by
  obtain ⟨g, o, hA, hg, hc⟩ := h hp
  exact ⟨g, o, hA, Nat.lt_of_lt_of_le hg hb.size, fun j u hu => (hb.cell (p := ⟨g, o + j, none⟩) hg).trans (hc j u hu)⟩
theorem RF.of_own {w : World} {B : Nat} {e : TypeId} {v : Value} {L : List Rl} (h : w.ownsRow B e 2 v L.length (rcells L)) : ∃ A cap, v = .slice A L.length cap ∧ L.length ≤ cap ∧ RF w A L := by
  rcases h.2 with ⟨rfl, h0⟩ | ⟨g, cap, cur, rfl, hB, hh, hc, hm, hs, ht⟩
  · exact ⟨none, 0, by rw [h0], by omega, fun hp => by omega⟩
  · refine ⟨_, _, rfl, hc, fun hp => ⟨g, 0, rfl, ?_, fun j u hu => ?_⟩⟩
    · exact (h.lt g rfl).2
    · have hj : j < (rcells L).length := by
        rcases Nat.lt_or_ge j (rcells L).length with h | h
        · exact h
        · rw [List.getElem?_eq_none h] at hu; cases hu
      rw [rcells_len] at hj
      rw [← ht, List.getElem?_take_of_lt (by omega)] at hu
      rw [Nat.zero_add, Lib.cell_of_heap hh, ← Array.getElem?_toList]
      exact hu
theorem RF.nine {w : World} {A : Option Addr} {L : List Rl} (h : RF w A L) (j : Nat) (hj : j < L.length) : ∃ g o, A = some ⟨g, o, none⟩ ∧ g < w.heap.size ∧ ∀ k u, (Rl.cells L[j])[k]? = some u → w.cell? ⟨g, o + (j * 2 + k), none⟩ = some u := by
  obtain ⟨g, o, hA, hg, hc⟩ := h (by omega)
  refine ⟨g, o, hA, hg, fun k u hu => ?_⟩
  have hk : k < 2 := by
    rcases Nat.lt_or_ge k 2 with h | h
    · exact h
    · rw [List.getElem?_eq_none (by show 2 ≤ k; exact h)] at hu; cases hu
  exact hc _ u ((rcells_get L j k hj hk).trans hu)
theorem own_put {w : World} {B B' k : Nat} {v : Value} {M M' : List Rl} {s : Rl} (h : w.ownsRow B' 28 2 v (k + 1 + (M.length - k)) ((rcells (M.take k) ++ (Rl.cells s)) ++ rcells (M.drop k))) (hk : k ≤ M.length) (hM : M' = M.take k ++ s :: M.drop k) (hB : B ≤ B') : ∃ A c, v = .slice A M'.length c ∧ w.ownsRow B 28 2 (.slice A M'.length c) M'.length (rcells M') := by
  have hl : M'.length = k + 1 + (M.length - k) := by rw [hM]; simp; omega
  have hc : rcells M' = (rcells (M.take k) ++ (Rl.cells s)) ++ rcells (M.drop k) := by rw [hM, rcells_app, rcells_cons, List.append_assoc]
  rw [← hl, ← hc] at h
  obtain ⟨A, c, rfl⟩ := own_form h
  exact ⟨A, c, rfl, own_more h hB⟩
theorem take_cells (M : List Rl) (k : Nat) (hk : k ≤ M.length) : (rcells (M.take k)).length = k * 2 := by rw [rcells_len, List.length_take, Nat.min_eq_left hk]
theorem drop_cells (M : List Rl) (k : Nat) : (rcells (M.drop k)).length = (M.length - k) * 2 := by rw [rcells_len, List.length_drop]
theorem drop_at {w : World} {g k : Nat} {M : List Rl} (h : ∀ j u, (rcells M)[j]? = some u → w.cell? ⟨g, j, none⟩ = some u) (hk : k ≤ M.length) : ∀ j u, (rcells (M.drop k))[j]? = some u → w.cell? ⟨g, k * 2 + j, none⟩ = some u := fun j u hu => by
  refine h _ _ ?_
  rw [show rcells M = rcells (M.take k) ++ rcells (M.drop k) by rw [← rcells_app, List.take_append_drop], List.getElem?_append_right (by rw [take_cells M k hk]; omega), take_cells M k hk, show k * 2 + j - k * 2 = j by omega]
  exact hu
theorem take_at {w : World} {g k : Nat} {M : List Rl} (h : ∀ j u, (rcells M)[j]? = some u → w.cell? ⟨g, j, none⟩ = some u) (hk : k ≤ M.length) : ∀ j u, (rcells (M.take k))[j]? = some u → w.cell? ⟨g, j, none⟩ = some u := fun j u hu => by
  refine h _ _ ?_
  have hj : j < (rcells (M.take k)).length := by
    rcases Nat.lt_or_ge j (rcells (M.take k)).length with h | h
    · exact h
    · rw [List.getElem?_eq_none h] at hu; cases hu
  rw [show rcells M = rcells (M.take k) ++ rcells (M.drop k) by rw [← rcells_app, List.take_append_drop], List.getElem?_append_left hj]
  exact hu
theorem at_own {w : World} {B g n c : Nat} {M : List Rl} (h : w.ownsRow B 28 2 (.slice (some ⟨g, 0, none⟩) n c) n (rcells M)) : ∀ j u, (rcells M)[j]? = some u → w.cell? ⟨g, j, none⟩ = some u := fun j u hu => by
  have q := h.cells (g := g) rfl j u hu
  rwa [add_off, Nat.zero_add] at q
theorem stcell_one (x : Rl) : ∀ v ∈ (Rl.cells x), v.oneCell' = true := fun v hv => by
  simp [Rl.cells] at hv
  rcases hv with rfl | rfl <;> rfl
theorem cap_le {w : World} {B n c : Nat} {A : Option Addr} {M : List Rl} (h : w.ownsRow B 28 2 (.slice A n c) n (rcells M)) : n ≤ c := by
  rcases h.2 with ⟨e, h0⟩ | ⟨g, cap, cur, e, hB, hh, hc, _⟩
  · omega
  · injection e with e1 e2 e3
    subst e3; exact hc
theorem own_ways {w : World} {B c : Nat} {A : Option Addr} {M : List Rl} (h : w.ownsRow B 28 2 (.slice A M.length c) M.length (rcells M)) : (A = none ∧ c = 0 ∧ M.length = 0) ∨ ∃ g, A = some ⟨g, 0, none⟩ := by
  rcases h.2 with ⟨e, h0⟩ | ⟨g, cap, cur, e, _⟩
  · injection e with e1 e2 e3
    exact .inl ⟨e1, e3, h0⟩
  · injection e with e1 e2 e3
    exact .inr ⟨g, e1⟩
theorem at_drop {w : World} {B k : Nat} {v : Value} {M : List Rl} (h : w.ownsRow B 28 2 v (M.length - k) (rcells (M.drop k))) : ∃ A c, v = .slice A (M.length - k) c ∧ RF w A (M.drop k) := by
  have hl : (M.drop k).length = M.length - k := List.length_drop
  rw [← hl] at h
  obtain ⟨A, c, e, _, hat⟩ := RF.of_own h
  rw [hl] at e
  exact ⟨A, c, e, hat⟩
theorem drop_new {Z : World} {B g n c k : Nat} {M : List Rl} {ad : Addr} (h : Z.ownsRow B 28 2 (.slice (some ⟨g, 0, none⟩) n c) n (rcells M)) (e : (some ⟨g, k * 2, none⟩ : Option Addr) = some ad) (hk : k ≤ M.length) : ∀ j u, (rcells (M.drop k))[j]? = some u → (Z.alloc (.cells #[] 28)).cell? (ad.add j) = some u := fun j u hu => by
  injection e with e
  subst e
  rw [add_off, World.cell?_alloc_past _ _ _ (h.lt g rfl).2]
  exact drop_at (at_own h) hk j u hu
theorem olds_at {X : World} {B c k : Nat} {A : Option Addr} {M : List Rl} {o : Obj} (h : X.ownsRow B 28 2 (.slice A M.length c) M.length (rcells M)) (hk : k ≤ M.length) : ∀ b, A = some b → ∀ j u, (rcells (M.take k))[j]? = some u → (X.drew.alloc o).cell? (b.add j) = some u := fun b e j u hu => by
  rcases own_ways h with ⟨rfl, _⟩ | ⟨g, rfl⟩
  · cases e
  · injection e with e
    subst e
    have hlt : g < X.drew.heap.size := (h.lt g rfl).2
    rw [add_off, Nat.zero_add, World.cell?_alloc_past _ _ _ hlt]
    exact take_at (at_own h) hk j u hu
theorem new_at (X : World) (s : Rl) : ∀ j u, (Rl.cells s)[j]? = some u → (X.alloc (.cells (Rl.cells s).toArray 28)).cell? ((⟨X.heap.size, 0, none⟩ : Addr).add j) = some u := fun j u hu => by
  rw [add_off, Nat.zero_add, Lib.cell_of_heap (heap_alloc_new X _)]
  simpa using hu
theorem rest_none {w : World} {A : Option Addr} {M : List Rl} {k : Nat} (h : RF w A (M.drop k)) : A = none → M.length - k = 0 := fun e => by
  rcases Nat.eq_zero_or_pos (M.drop k).length with h0 | h0
  · rwa [List.length_drop] at h0
  · obtain ⟨g, o, hA, _⟩ := h h0
    rw [hA] at e; cases e
theorem rest_at {w w4 : World} {A : Option Addr} {M : List Rl} {k : Nat} {o : Obj} (h : RF w A (M.drop k)) (hg : (w.drew.alloc o).grownBy w4 none) : ∀ ad, A = some ad → ∀ j u, (rcells (M.drop k))[j]? = some u → w4.cell? (ad.add j) = some u := fun ad e j u hu => by
  have hp : 0 < (M.drop k).length := by
    rcases Nat.eq_zero_or_pos (M.drop k).length with h0 | h0
    · rw [List.eq_nil_of_length_eq_zero h0] at hu; simp [rcells] at hu
    · exact h0
  have hb : Below w.heap.size w w4 := (((Below.refl _ _).drew).alloc (Nat.le_refl _) _).grown hg (by simp) (fun _ h => by cases h)
  obtain ⟨g, o', hA, hgz, hc⟩ := h hp
  rw [hA] at e
  injection e with e
  subst e
  rw [add_off]
  exact (hb.cell (p := ⟨g, o' + j, none⟩) hgz).trans (hc j u hu)
theorem below_fin {w w3 w4 w5 : World} {o : Obj} {v : Value} {n : Nat} {xs : List Value} (hb : Below w.heap.size w w3) (hs : w.heap.size ≤ w3.heap.size) (hown : w4.ownsRow (w3.drew.alloc o).heap.size 28 2 v n xs) (hg4 : (w3.drew.alloc o).grownBy w4 none) (hg5 : w4.grownBy w5 v.ownBlock) : Below w.heap.size w w5 := by
  have h4 : Below w.heap.size w w4 := ((hb.drew).alloc (by simpa using hs) _).grown hg4 (by simp; omega) (fun _ h => by cases h)
  exact h4.grown hg5 h4.size (fun k hk => by have := (hown.lt k hk).1; simp at this; omega)
set_option maxHeartbeats 1000000 in
set_option maxRecDepth 100000 in
theorem hasRef (A : Option Addr) (ca : Nat) (L : List Rl) (s : Rl) (w : World) (hL : L.length ≤ 1000) (hA : RAt w A L) :
    Calls Tryz.prog 43 #[.slice A L.length ca, s.val] w fun e w' => e = .returned (.bool (decide (s ∈ L))) ∧ RowKit.Below w.heap.size w w' := by
  obtain ⟨ho, hn⟩ := s
  have hown : ∀ (wr : World), Below (w.heap.size + 1) (w.alloc (.cells #[.string ho, .string hn] 28)) wr → wr.cell? ⟨w.heap.size, 0, none⟩ = some (.string ho) ∧ wr.cell? ⟨w.heap.size, 1, none⟩ = some (.string hn) := fun wr hb => by
    refine ⟨?_, ?_⟩ <;> rw [hb.cell (by simp)] <;> rw [Lib.cell_of_heap (heap_alloc_new w _)] <;> rfl
  have HO := Lib.hid hown
  clear hown
  have HA := Lib.hid hA
  clear hA
  unfold Rl.val
  go_enter Tryz.func43, Tryz.ntmps43
  go_wp2_with fail
  go_loopw [9] (fun i wr => ∃ k : Nat, k ≤ L.length ∧ i = .int .i64 k ∧ Hid ((⟨ho, hn⟩ : Rl) ∉ L.take k) ∧ Below (w.heap.size + 1) (w.alloc (.cells #[.string ho, .string hn] 28)) wr) (fun i _ => L.length - (intOf i).toNat)
  case atStart => exact ⟨0, by omega, rfl, Lib.hid (by simp), Below.refl _ _⟩
  case round =>
    obtain ⟨k, hk, rfl, hrun, hbel⟩ := hrel
    have hb0 : Below w.heap.size w wr := ((Below.refl w.heap.size w).alloc (Nat.le_refl _) _).trans (hbel.mono (by omega))
    have hsz : w.heap.size + 1 ≤ wr.heap.size := by have := hbel.size; simpa using this
    by_cases hlt : k < L.length
    · obtain ⟨g1, rfl, hg1, h1⟩ := (HA.out.below hb0) (by omega)
      obtain ⟨a0, a1⟩ := h1 k hlt
      obtain ⟨b0, b1⟩ := HO.out _ (hbel.alloc hsz (.cells #[.string L[k].owner, .string L[k].name] 28))
      have p1 : (0 : Int) ≤ k := by omega
      have p2 : (k : Int) < L.length := by omega
      clear h1
      by_cases he : L[k] = (⟨ho, hn⟩ : Rl)
      · have hfin : Hid (decide ((⟨ho, hn⟩ : Rl) ∈ L) = true) := Lib.hid (decide_eq_true (he ▸ List.getElem_mem hlt))
        have hq := fun w => SynE.eqR L[k].owner L[k].name ho hn w
        rw [decide_eq_true (p := (⟨L[k].owner, L[k].name⟩ : Rl) = ⟨ho, hn⟩) he] at hq
        clear hrun he
        go_wp2_with fail
        go_ret
        exact ⟨ret_bool hfin.out.symm, hb0.alloc hb0.size _⟩
      · have hnext : Hid ((⟨ho, hn⟩ : Rl) ∉ L.take (k + 1)) := Lib.hid (by
          rw [List.take_succ_eq_append_getElem hlt, List.mem_append, List.mem_singleton]
          rintro (h | h)
          · exact hrun.out h
          · exact he h.symm)
        have hq := fun w => SynE.eqR L[k].owner L[k].name ho hn w
        rw [decide_eq_false (p := (⟨L[k].owner, L[k].name⟩ : Rl) = ⟨ho, hn⟩) he] at hq
        clear hrun he
        go_wp2_with fail
        go_roundw
        case rel => exact ⟨k + 1, by omega, by go_num, hnext, hbel.alloc hsz _⟩
        case measure => simp [intOf]; omega
    · have hfin : Hid (decide ((⟨ho, hn⟩ : Rl) ∈ L) = false) := Lib.hid (decide_eq_false (by
        have := hrun.out
        rwa [List.take_of_length_le (by omega)] at this))
      clear hrun
      go_wp2_with fail
      go_ret
      exact ⟨ret_bool hfin.out.symm, hb0⟩
end Go.Proofs.YtblapgfilbmdhaaGreatDoor.RolA
namespace Go.Proofs.YtblapgfilbmdhaaGreatDoor.LwB
open Go.RowKit Go.Sort Go.Lib Go.Proofs Plain SynP LwA
end Go.Proofs.YtblapgfilbmdhaaGreatDoor.LwB
