/- The walk of the law that diagrams that are true at the same bits are one node. -/
import Derived.Test.YtekgegpholcdcaaNdL
import Derived.Test.YtekgegpholcdcaaNdM
import Derived.Test.YtekgegpholcdcaaNdK
namespace Go.Proofs.Ytekgegpholcdcaa.NdN
open Go.RowKit Go.Lib Go.Proofs Go.Proofs.Ytekgegpholcdcaa.NdA Go.Proofs.Ytekgegpholcdcaa.NdH Go.Proofs.Ytekgegpholcdcaa.NdB Go.Proofs.Ytekgegpholcdcaa.NdC Go.Proofs.Ytekgegpholcdcaa.NdD Go.Proofs.Ytekgegpholcdcaa.NdE Go.Proofs.Ytekgegpholcdcaa.NdG Go.Proofs.Ytekgegpholcdcaa.NdI Go.Proofs.Ytekgegpholcdcaa.NdJ Go.Proofs.Ytekgegpholcdcaa.NdK Go.Proofs.Ytekgegpholcdcaa.NdL Go.Proofs.Ytekgegpholcdcaa.NdM
set_option linter.unusedVariables false
set_option linter.unusedSimpArgs false
set_option maxHeartbeats 8000000 in
set_option maxRecDepth 100000 in
theorem once_law (u : Int) (hu : 0 ≤ u) (A : Option Addr) (ca : Nat) (L : List Nd) (w : World) (hL : L.length ≤ maxLen) (hca : L.length ≤ ca) (hm : ca ≤ maxLen) (hA : NG w A L) (hI : InN L) : Calls Try.prog 4 #[.int .u64 u, .slice A L.length ca] w fun e w' => e = .returned (.bool true) ∧ Below w.heap.size w w' := by
  unfold maxLen at hL hm
  obtain ⟨m, hmm⟩ : ∃ m, min L.length 40 = m := ⟨_, rfl⟩
  have hmi : min (L.length : Int) 40 = (m : Int) := by omega
  have hm40 : m ≤ 40 := by omega
  have hmc : m ≤ ca := by omega
  have hTl : (L.take m).length = m := by simp; omega
  have HA := Lib.hid (hA.take m)
  have HI := Lib.hid (hI.take m)
  have HLV := Lib.hid lives
  clear hmm hA hI
  generalize L.take m = T at *
  have HTl := Lib.hid hTl
  clear hTl
  generalize L.length = ln at *
  obtain ⟨K, hK⟩ : ∃ K : Nat, u.tmod 7 = (K : Int) := ⟨(u.tmod 7).toNat, by rw [Int.tmod_eq_emod_of_nonneg hu]; omega⟩
  have hK7 : K < 7 := by rw [Int.tmod_eq_emod_of_nonneg hu] at hK; omega
  clear hu
  have HN := Lib.hid (new_ K 1000 (by omega) w)
  unfold NdG.NewPost at HN
  rw [show NdG.start K 1000 = ⟨K, 1000, false, []⟩ by unfold NdG.start; rw [show (max 0 (min (K : Int) 61)).toNat = K by omega]; rfl] at HN
  go_enter Try.func4, Try.ntmps4
  go_wp2_with fail
  refine HN.out.mono ?_
  rintro e w1 ⟨B, R, rfl, hT, hb, hB, hR⟩
  have HT := Lib.hid hT
  have HB := Lib.hid hb
  have HF := Lib.hid (show ∀ k, Foot B R (.slice none 0 0) k → w.heap.size ≤ k from fun k h => by
    rcases h with rfl | rfl | h
    · exact hB
    · exact hR
    · cases h)
  clear hT hb hB hR HN hK
  go_wp2_with fail
  go_loopw [30] (fun i wr => ∃ (j : Nat) (s : St) (R : Nat) (v : Value) (mm : Nat) (Q : Nat → Nat), j ≤ m ∧ i = .int .i64 j ∧ Hid (s.vars = K ∧ s.L.length ≤ j) ∧ Hid (Tk wr B R v mm Q s) ∧ Hid (∀ k, Foot B R v k → w.heap.size ≤ k) ∧ Below w.heap.size w wr) (fun i _ => m - (RowKit.intOf i).toNat)
  case atStart => exact ⟨0, _, _, _, _, _, by omega, rfl, Lib.hid ⟨rfl, Nat.le_refl _⟩, HT, HF, HB.out⟩
  case round =>
    clear HT HF HB
    obtain ⟨j, s, R, v, mm, Q, hj, rfl, hs, hT, hF, hb⟩ := hrel
    by_cases hlt : j < m
    · have d1 : decide ((j : Int) < m) = true := by simp; omega
      have q0 : (0 : Int) ≤ j := by omega
      have q1 : (j : Int) < m := by omega
      have hjT : j < T.length := by rw [HTl.out]; exact hlt
      obtain ⟨g, o, rfl, hg, hcell⟩ := (HA.out.below hb) (by omega)
      obtain ⟨a0, a1, a2⟩ := hcell j hjT
      obtain ⟨⟨i1, i2⟩, i3, i4⟩ := HI.out _ (List.getElem_mem hjT)
      generalize T[j] = y at *
      obtain ⟨x, lo, hi⟩ := y
      simp only at a0 a1 a2 i1 i2 i3 i4
      have hbx := (Below.refl wr.heap.size wr).alloc (Nat.le_refl _) (.cells #[.int .i64 x, .int .i64 lo, .int .i64 hi] 28)
      have hx0 := heap_alloc_new wr (.cells #[.int .i64 x, .int .i64 lo, .int .i64 hi] 28)
      generalize hW : wr.alloc (.cells #[.int .i64 x, .int .i64 lo, .int .i64 hi] 28) = w3 at *
      have y0 := fun o => Lib.cell_of_heap hx0 o
      have HT3 := hT.out.below hbx
      have HB3 := Lib.hid (hb.trans (hbx.mono hb.size))
      have HMk := Lib.hid (make_ x lo hi i1 i2 i3 i4 (by have := hs.out.2; omega) HT3)
      unfold MakePost at HMk
      have hmv := mk_vars s x lo hi
      have HS := Lib.hid (show (mkS s x lo hi).vars = K ∧ (mkS s x lo hi).L.length ≤ j + 1 from ⟨hmv.1.trans hs.out.1, by have := hs.out.2; omega⟩)
      clear hcell hbx hx0 hb hT HT3 hmv
      go_wp2_with fail
      refine HMk.out.mono ?_
      rintro e w4 ⟨rfl, R4, v4, m4, Q4, hT4, hF4, hk4⟩
      have HT4 := Lib.hid hT4
      have HB4 := Lib.hid (Frm.below HB3.out hF4 hF.out)
      have hw3 : w.heap.size ≤ w3.heap.size := HB3.out.size
      have HF4 := Lib.hid (show ∀ k, Foot B R4 v4 k → w.heap.size ≤ k from fun k h => by
        rcases hk4 k h with h' | h'
        · exact hF.out k h'
        · omega)
      clear hT4 hF4 hk4 hW y0
      go_wp2_with fail
      go_roundw
      case rel => exact ⟨j + 1, _, _, _, _, _, by omega, by go_num, HS, HT4, HF4, HB4.out⟩
      case measure => simp [RowKit.intOf]; omega
    · have d1 : decide ((j : Int) < m) = false := by simp; omega
      have HLn := Lib.hid (len_ hT.out.tb)
      obtain ⟨hv, hl⟩ := hs.out
      have HVr := Lib.hid hv
      have HW := Lib.hid hT.out.tb.wf
      have HAt := Lib.hid (fun (n x : Nat) (hn : n ≤ 1000) (hx : x < 18446744073709551616) w (h : Tk w B R v mm Q s) => at__ (n : Int) (by omega) (by omega) x hx h)
      obtain ⟨N, hN⟩ : ∃ N, s.L.length = N := ⟨_, rfl⟩
      have HNs := Lib.hid (fun a b h1 h2 => not_same (s := s) HW.out (a := a) (b := b) h1 h2)
      rw [hv, hN] at HNs
      rw [hN] at HLn hl
      obtain ⟨P, hP⟩ : ∃ P : Nat, 2 ^ K = P := ⟨_, rfl⟩
      have hP64 : P ≤ 64 := by rw [← hP]; exact Nat.pow_le_pow_right (n := 2) (by omega) (by omega : K ≤ 6)
      rw [hP] at HNs
      have hsh2 : ((2 : Int) ^ K) = (P : Int) := by rw [← hP]; simp
      have hsh3 : IntKind.u64.wrap (P : Int) = (P : Int) := CaA.wrap_u64 (by omega) (by omega)
      have hK64 : K ≤ 64 := by omega
      clear hP
      have HB := Lib.hid hb
      clear hv hN hb hs hF HI HA
      have hN40 : N ≤ 40 := by omega
      go_wp2_with fail
      refine HLn.out.mono ?_
      rintro e w5 ⟨rfl, rfl⟩
      go_wp2_with fail
      go_loopw [46] (fun i wx => ∃ a : Nat, a ≤ N + 2 ∧ i = .int .i64 a ∧ Hid (Tk wx B R v mm Q s) ∧ Below w.heap.size w wx) (fun i _ => N + 2 - (RowKit.intOf i).toNat)
      case atStart => exact ⟨0, by omega, rfl, hT, HB.out⟩
      case round =>
        clear HB hT
        obtain ⟨a, ha, rfl, hT, hb⟩ := hrel
        by_cases hla : a < N + 2
        · have d2 : decide ((a : Int) < (N : Int) + 2) = true := by simp; omega
          have HB := Lib.hid hb
          clear hb
          go_wp2_with fail
          go_loopw [50] (fun i wx => ∃ b : Nat, b ≤ a ∧ i = .int .i64 b ∧ Hid (Tk wx B R v mm Q s) ∧ Below w.heap.size w wx) (fun i _ => a - (RowKit.intOf i).toNat)
          case atStart => exact ⟨0, by omega, rfl, hT, HB.out⟩
          case round =>
            clear HB hT
            obtain ⟨b, hb', rfl, hT, hb⟩ := hrel
            by_cases hlb : b < a
            · have d3 : decide ((b : Int) < a) = true := by simp; omega
              have HB := Lib.hid hb
              have HNo := Lib.hid (HNs.out a b hlb (by omega))
              have HS0 : Hid (sameB s a b 0 = true) := Lib.hid rfl
              have HSs := Lib.hid (fun q => sameB_succ (s := s) a b q)
              clear hb
              go_wp2_with fail
              go_loopw [11, 55] (fun sv xv wx => ∃ q : Nat, q ≤ P ∧ xv = .int .u64 q ∧ sv = .bool (sameB s a b q) ∧ Hid (Tk wx B R v mm Q s) ∧ Below w.heap.size w wx) (fun _ xv _ => P - (RowKit.intOf xv).toNat)
              case atStart => exact ⟨0, Nat.zero_le _, rfl, by rw [HS0.out], hT, HB.out⟩
              case round =>
                clear HB hT HS0
                obtain ⟨q, hq, rfl, rfl, hT, hb⟩ := hrel
                have HB := Lib.hid hb
                clear hb
                by_cases hlq : q < P
                · have d4 : decide ((q : Int) < P) = true := by simp; omega
                  have HSq := Lib.hid (HSs.out q)
                  have HAa := Lib.hid (fun wx h => HAt.out a q (by omega) (by omega) wx h)
                  have HAb := Lib.hid (fun wx h => HAt.out b q (by omega) (by omega) wx h)
                  generalize ev s.L (fun i => q.testBit i) (a : Int) = ea at *
                  generalize ev s.L (fun i => q.testBit i) (b : Int) = eb at *
                  cases hsm : sameB s a b q with
                  | true =>
                    have HSt : Hid (sameB s a b (q + 1) = (ea == eb)) := Lib.hid (by rw [HSq.out, hsm]; rfl)
                    clear HSq hsm
                    go_wp2_with fail
                    refine (HAa.out _ hT.out).mono ?_
                    rintro e x1 ⟨rfl, hb1⟩
                    have HT1 := Lib.hid (hT.out.below hb1)
                    have HB1 := Lib.hid (HB.out.trans (hb1.mono HB.out.size))
                    clear hb1
                    go_wp2_with fail
                    refine (HAb.out _ HT1.out).mono ?_
                    rintro e x2 ⟨rfl, hb2⟩
                    have HT2 := Lib.hid (HT1.out.below hb2)
                    have HB2 := Lib.hid (HB1.out.trans (hb2.mono HB1.out.size))
                    clear hb2
                    go_wp2_with fail
                    go_roundw
                    case rel => exact ⟨q + 1, by omega, by go_num, by rw [HSt.out], HT2, HB2.out⟩
                    case measure => simp [RowKit.intOf]; omega
                  | false =>
                    have HSt : Hid (sameB s a b (q + 1) = false) := Lib.hid (by rw [HSq.out, hsm]; rfl)
                    clear HSq hsm
                    go_wp2_with fail
                    go_roundw
                    case rel => exact ⟨q + 1, by omega, by go_num, by rw [HSt.out], hT, HB.out⟩
                    case measure => simp [RowKit.intOf]; omega
                · have d4 : decide ((q : Int) < P) = false := by simp; omega
                  have hqP : q = P := by omega
                  rw [hqP, HNo.out]
                  clear hqP
                  go_wp2_with fail
                  go_roundw
                  case rel => exact ⟨b + 1, by omega, by go_num, hT, HB.out⟩
                  case measure => simp [RowKit.intOf]; omega
            · have d3 : decide ((b : Int) < a) = false := by simp; omega
              have HB := Lib.hid hb
              clear hb
              go_wp2_with fail
              go_roundw
              case rel => exact ⟨a + 1, by omega, by go_num, hT, HB.out⟩
              case measure => simp [RowKit.intOf]; omega
        · have d2 : decide ((a : Int) < (N : Int) + 2) = false := by simp; omega
          have HB := Lib.hid hb
          clear hb hT HNs HAt
          go_wp2_with fail
          refine (make0 _).mono ?_
          rintro e x1 ⟨rfl, hb1⟩
          have HB1 := Lib.hid (HB.out.trans (hb1.mono HB.out.size))
          clear hb1
          go_wp2_with fail
          refine (get0_2 _).mono ?_
          rintro e x2 ⟨rfl, hb1⟩
          have HB2 := Lib.hid (HB1.out.trans (hb1.mono HB1.out.size))
          have HB2a := Lib.hid (show ∀ o, Below w.heap.size w (x2.alloc o) from fun o => HB2.out.alloc HB2.out.size o)
          clear hb1
          go_wp2_with fail
          refine (len0 _).mono ?_
          rintro e x3 ⟨rfl, rfl⟩
          go_wp2_with fail
          refine (vars0 _).mono ?_
          rintro e x3 ⟨rfl, rfl⟩
          go_wp2_with fail
          refine (spent0 _).mono ?_
          rintro e x3 ⟨rfl, rfl⟩
          go_wp2_with fail
          refine (is0_1 _).mono ?_
          rintro e x3 ⟨rfl, rfl⟩
          go_wp2_with fail
          refine (is0_2 _).mono ?_
          rintro e x3 ⟨rfl, rfl⟩
          go_wp2_with fail
          refine (at0_1 _).mono ?_
          rintro e x3 ⟨rfl, hb3⟩
          have HB3 := Lib.hid ((HB2a.out _).trans (hb3.mono (HB2a.out _).size))
          clear hb3
          go_wp2_with fail
          refine (at0_0 _).mono ?_
          rintro e x4 ⟨rfl, hb4⟩
          have HB4 := Lib.hid (HB3.out.trans (hb4.mono HB3.out.size))
          clear hb4
          go_wp2_with fail
          refine (var0_1 _).mono ?_
          rintro e x5 ⟨rfl, hb5⟩
          have HB5 := Lib.hid (HB4.out.trans (hb5.mono HB4.out.size))
          clear hb5
          go_wp2_with fail
          refine (HLV.out _).mono ?_
          rintro e x6 ⟨rfl, hb6⟩
          have HB6 := Lib.hid (HB5.out.trans (hb6.mono HB5.out.size))
          clear hb6
          go_wp2_with fail
          go_ret
          exact ⟨rfl, HB6.out⟩
end Go.Proofs.Ytekgegpholcdcaa.NdN
