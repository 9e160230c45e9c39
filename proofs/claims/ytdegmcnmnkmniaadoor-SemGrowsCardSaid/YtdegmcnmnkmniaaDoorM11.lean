/- The walk of the law that more rules give more members. -/
import Derived.Test.YtdegmcnmnkmniaaDoorM10
import Derived.Test.YtdegmcnmnkmniaaDoorM01
namespace Go.Proofs.YtdegmcnmnkmniaaDoor.SemGw
set_option linter.unusedVariables false
set_option linter.unusedSimpArgs false
open Go.RowKit Go.Lib Go.Proofs Go.Proofs.YtdegmcnmnkmniaaDoor.SetA Go.Proofs.YtdegmcnmnkmniaaDoor.SetB Go.Proofs.YtdegmcnmnkmniaaDoor.SetC Go.Proofs.YtdegmcnmnkmniaaDoor.SetD Go.Proofs.YtdegmcnmnkmniaaDoor.SetJ Go.Proofs.YtdegmcnmnkmniaaDoor.SetN Go.Proofs.YtdegmcnmnkmniaaDoor.SetQ Go.Proofs.YtdegmcnmnkmniaaDoor.SetR Go.Proofs.YtdegmcnmnkmniaaDoor.TblB Go.Proofs.YtdegmcnmnkmniaaDoor.TblC Go.Proofs.YtdegmcnmnkmniaaDoor.TblV Go.Proofs.YtdegmcnmnkmniaaDoor.TblP Go.Proofs.YtdegmcnmnkmniaaDoor.SemA Go.Proofs.YtdegmcnmnkmniaaDoor.SemB Go.Proofs.YtdegmcnmnkmniaaDoor.SemH Go.Proofs.YtdegmcnmnkmniaaDoor.SemI Go.Proofs.YtdegmcnmnkmniaaDoor.SemJ Go.Proofs.YtdegmcnmnkmniaaDoor.SemK Go.Proofs.YtdegmcnmnkmniaaDoor.SemSw Go.Proofs.YtdegmcnmnkmniaaDoor.SemGa
set_option linter.unusedVariables false
set_option linter.unusedSimpArgs false
theorem keepB {W w wx : World} {b : Nat} {d0 d1 : Int} (hb : Below W.heap.size W w) (hbx : Below w.heap.size w wx) (hc : W.heap[b]? = some (.cells #[.int .i64 d0, .int .i64 d1] 22 (0, 0))) : Below W.heap.size W wx ∧ ∀ o, wx.cell? ⟨b, o, none⟩ = (#[.int .i64 d0, .int .i64 d1] : Array Value)[o]? :=
  ⟨SemI.nx hb hbx, fun o => Lib.cell_of_heap (((SemI.nx hb hbx).block _ (lt_of hc)).trans hc) o⟩
set_option maxHeartbeats 2000000 in
set_option maxRecDepth 100000 in
theorem law (d0 d1 : Int) (A A' : Option Addr) (ca ca' : Nat) (L L' : List Ru) (w : World) (hT : Tab w) (hL : L.length ≤ maxLen) (hL' : L'.length ≤ maxLen) (hA : UG w A L) (hA' : UG w A' L') :
    Calls Tryd.prog 5 #[.agg #[.int .i64 d0, .int .i64 d1], .slice A L.length ca, .slice A' L'.length ca'] w fun e w' => e = .returned (.bool true) ∧ Below w.heap.size w w' := by
  obtain ⟨i0, hi, hz0, hz1, hz2⟩ := info_parts SemC.infoRu
  obtain ⟨hb0, hc0⟩ := dims_box w d0 d1
  have hbx := heap_alloc_new w (.cells #[.int .i64 d0, .int .i64 d1] 22)
  have HSm := Lib.hid (fun w' => small d0 d1 A ca L.length (by unfold maxLen at hL; exact hL) w')
  have HLv := Lib.hid (fun w' hb => lives w' (hT.below hb))
  have HB0 := Lib.hid hb0
  have HUA := Lib.hid (hA.below hb0)
  have HUA' := Lib.hid (hA'.below hb0)
  have HTB := Lib.hid (hT.below hb0)
  unfold maxLen at hL hL'
  clear hT hb0 hA hA'
  cases hs : smallB d0 d1 L.length
  · rw [hs] at HSm
    clear hs HUA HTB HUA' hbx
    go_enter Tryd.func5, Tryd.ntmps5
    go_upto_region 1 with fail
    generalize w.alloc (.cells #[.int .i64 d0, .int .i64 d1] 22) = w0 at *
    go_wp2_with fail
    refine (HSm.out _).mono ?_
    rintro e w1 ⟨rfl, rfl⟩
    clear hc0 HSm
    go_wp2_with fail
    refine (HLv.out _ HB0.out).mono ?_
    rintro e w2 ⟨rfl, hb⟩
    have HF := Lib.hid (SemI.nx HB0.out hb)
    clear hb HLv HB0
    go_wp2_with fail
    go_ret
    exact ⟨rfl, HF.out⟩
  rw [hs] at HSm
  by_cases g1 : 30 < L.length
  · have e1 : decide ((30 : Int) < (L.length : Int)) = true := by simp; omega
    clear hs HUA HTB HUA' hbx
    go_enter Tryd.func5, Tryd.ntmps5
    go_upto_region 1 with fail
    generalize w.alloc (.cells #[.int .i64 d0, .int .i64 d1] 22) = w0 at *
    go_wp2_with fail
    refine (HSm.out _).mono ?_
    rintro e w1 ⟨rfl, rfl⟩
    clear hc0 HSm
    go_wp2_with fail
    refine (HLv.out _ HB0.out).mono ?_
    rintro e w2 ⟨rfl, hb⟩
    have HF := Lib.hid (SemI.nx HB0.out hb)
    clear hb HLv HB0
    go_wp2_with fail
    go_ret
    exact ⟨rfl, HF.out⟩
  have e1 : decide ((30 : Int) < (L.length : Int)) = false := by simp; omega
  by_cases g2 : 30 < L'.length
  · have e2 : decide ((30 : Int) < (L'.length : Int)) = true := by simp; omega
    clear hs HUA HTB HUA' hbx
    go_enter Tryd.func5, Tryd.ntmps5
    go_upto_region 1 with fail
    generalize w.alloc (.cells #[.int .i64 d0, .int .i64 d1] 22) = w0 at *
    go_wp2_with fail
    refine (HSm.out _).mono ?_
    rintro e w1 ⟨rfl, rfl⟩
    clear hc0 HSm
    go_wp2_with fail
    refine (HLv.out _ HB0.out).mono ?_
    rintro e w2 ⟨rfl, hb⟩
    have HF := Lib.hid (SemI.nx HB0.out hb)
    clear hb HLv HB0
    go_wp2_with fail
    go_ret
    exact ⟨rfl, HF.out⟩
  have e2 : decide ((30 : Int) < (L'.length : Int)) = false := by simp; omega
  unfold smallB at hs
  simp only [Bool.and_eq_true, decide_eq_true_eq] at hs
  obtain ⟨s1, s2, s3⟩ := hs
  obtain ⟨P, hP⟩ : ∃ P : Nat, max d0 0 = (P : Int) := ⟨(max d0 0).toNat, by omega⟩
  obtain ⟨K, hK⟩ : ∃ K : Nat, max d1 0 = (K : Int) := ⟨(max d1 0).toNat, by omega⟩
  have wP : (SetA.within d0 64).toNat = P := by unfold SetA.within; omega
  have wK : (SetA.within d1 64).toNat = K := by unfold SetA.within; omega
  have lP : P ≤ 10 := by omega
  have lK : K ≤ 6 := by omega
  have HPK := Lib.hid (And.intro hP hK)
  have l1 : L.length ≤ 30 := by omega
  have l2 : L'.length ≤ 30 := by omega
  have HEv := Lib.hid (fun (B : Option Addr) (cb : Nat) (T : List Ru) w' hb (hl : T.length ≤ 1000) hu => evalM d0 d1 B cb T w' (HTB.out.below hb) hl hu)
  rw [wP, wK] at HEv
  clear hL hL' s1 s2 s3 g1 g2 hP hK wP wK
  go_enter Tryd.func5, Tryd.ntmps5
  go_upto_region 1 with fail
  obtain ⟨bx, hbxe⟩ : ∃ bx, w.heap.size = bx := ⟨_, rfl⟩
  simp only [hbxe] at hc0 hbx ⊢
  generalize w.alloc (.cells #[.int .i64 d0, .int .i64 d1] 22) = w0 at *
  have HBX := Lib.hid hbx
  clear hbx
  go_wp2_with fail
  refine (HSm.out _).mono ?_
  rintro e w1 ⟨rfl, rfl⟩
  clear HSm
  go_wp2_with fail
  clear e1 e2 hc0
  go_loopw [7, 35] (fun v i wr => ∃ j : Nat, j ≤ L.length ∧ i = .int .i64 j ∧ Hid (wr.ownsRow w0.heap.size 25 6 v (twU L j).length (cellsR (twU L j))) ∧ Below w0.heap.size w0 wr) (fun _ i _ => L.length - (intOf i).toNat)
  case atStart => exact ⟨0, by omega, rfl, Lib.hid (World.ownsRow_nil _ _ _ _), Below.refl _ _⟩
  case round =>
    obtain ⟨j, hj, rfl, hown, hb⟩ := hrel
    by_cases hlt : j < L.length
    · have e1 : decide ((j : Int) < L.length) = true := by simp; omega
      obtain ⟨A1, c1, rfl⟩ := own_n hown.out
      obtain ⟨N1, hN1⟩ : ∃ N1, L.length - 1 = N1 := ⟨_, rfl⟩
      obtain ⟨m, hm⟩ : ∃ m, N1 - j = m := ⟨_, rfl⟩
      have W1 : IntKind.i64.wrap ((L.length : Int) - 1) = (N1 : Int) := wrapS (by omega) (by omega)
      have W2 : IntKind.i64.wrap ((N1 : Int) - (j : Int)) = (m : Int) := wrapS (by omega) (by omega)
      have p0 : (0 : Int) ≤ j := by omega
      have p1 : (j : Int) < L.length := by omega
      have p2 : (0 : Int) ≤ m := by omega
      have p3 : (m : Int) < L.length := by omega
      obtain ⟨g, o, rfl, hg, hcell⟩ := (HUA.out.below hb) (by omega)
      have q1 := hcell m (by omega)
      have q2 := hcell j hlt
      rw [← getD_get (by omega)] at q1
      rw [← getD_get hlt] at q2
      have hts := twU_succ L j
      rw [hN1, hm] at hts
      have htl := twU_len L j
      have htl2 := twU_len L (j + 1)
      generalize L.getD m zeroU = u at *
      generalize L.getD j zeroU = v at *
      obtain ⟨u0, u1, u2, u3, u4, u5⟩ := u
      obtain ⟨v0, v1, v2, v3, v4, v5⟩ := v
      have a0 : wr.cell? ⟨g, o + m * 6, none⟩ = some (.int .i64 u0) := q1 0 (by omega)
      have a1 : wr.cell? ⟨g, o + m * 6 + 1, none⟩ = some (.int .i64 u1) := q1 1 (by omega)
      have a2 : wr.cell? ⟨g, o + m * 6 + 2, none⟩ = some (.int .i64 u2) := q1 2 (by omega)
      have a3 : wr.cell? ⟨g, o + m * 6 + 3, none⟩ = some (.int .i64 u3) := q1 3 (by omega)
      have a4 : wr.cell? ⟨g, o + m * 6 + 4, none⟩ = some (.int .i64 u4) := q1 4 (by omega)
      have a5 : wr.cell? ⟨g, o + m * 6 + 5, none⟩ = some (.int .i64 u5) := q1 5 (by omega)
      have b0 : wr.cell? ⟨g, o + j * 6, none⟩ = some (.int .i64 v0) := q2 0 (by omega)
      have b1 : wr.cell? ⟨g, o + j * 6 + 1, none⟩ = some (.int .i64 v1) := q2 1 (by omega)
      have b2 : wr.cell? ⟨g, o + j * 6 + 2, none⟩ = some (.int .i64 v2) := q2 2 (by omega)
      have b3 : wr.cell? ⟨g, o + j * 6 + 3, none⟩ = some (.int .i64 v3) := q2 3 (by omega)
      have b4 : wr.cell? ⟨g, o + j * 6 + 4, none⟩ = some (.int .i64 v4) := q2 4 (by omega)
      have b5 : wr.cell? ⟨g, o + j * 6 + 5, none⟩ = some (.int .i64 v5) := q2 5 (by omega)
      have hbd : Below wr.heap.size wr ((wr.alloc (.cells #[.int .i64 u0, .int .i64 u1, .int .i64 u2, .int .i64 u3, .int .i64 u4, .int .i64 u5, .int .i64 v0, .int .i64 v1, .int .i64 v2, .int .i64 v3, .int .i64 v4, .int .i64 v5] 25)).drew) := ((Below.refl _ _).alloc (Nat.le_refl _) _).drew
      have hnew : ((wr.alloc (.cells #[.int .i64 u0, .int .i64 u1, .int .i64 u2, .int .i64 u3, .int .i64 u4, .int .i64 u5, .int .i64 v0, .int .i64 v1, .int .i64 v2, .int .i64 v3, .int .i64 v4, .int .i64 v5] 25)).drew).heap[wr.heap.size]? = some (.cells #[.int .i64 u0, .int .i64 u1, .int .i64 u2, .int .i64 u3, .int .i64 u4, .int .i64 u5, .int .i64 v0, .int .i64 v1, .int .i64 v2, .int .i64 v3, .int .i64 v4, .int .i64 v5] 25 (0, 0)) := heap_alloc_new wr _
      have HO := Lib.hid (own_below hown.out hbd)
      have HBd := Lib.hid (SemI.nx hb hbd)
      have HCL := Lib.hid (fun (k : Nat) (x : Value) (hx : ([.int .i64 u0, .int .i64 u1, .int .i64 u2, .int .i64 u3, .int .i64 u4, .int .i64 u5, .int .i64 v0, .int .i64 v1, .int .i64 v2, .int .i64 v3, .int .i64 v4, .int .i64 v5] : List Value)[k]? = some x) => (show ((wr.alloc (.cells #[.int .i64 u0, .int .i64 u1, .int .i64 u2, .int .i64 u3, .int .i64 u4, .int .i64 u5, .int .i64 v0, .int .i64 v1, .int .i64 v2, .int .i64 v3, .int .i64 v4, .int .i64 v5] 25)).drew).cell? ((⟨wr.heap.size, 0, none⟩ : Addr).add k) = some x by
        rw [SynC.add_off, Nat.zero_add, Lib.cell_of_heap hnew]
        rw [← hx]; simp))
      have HONE : Hid (∀ x ∈ ([.int .i64 u0, .int .i64 u1, .int .i64 u2, .int .i64 u3, .int .i64 u4, .int .i64 u5, .int .i64 v0, .int .i64 v1, .int .i64 v2, .int .i64 v3, .int .i64 v4, .int .i64 v5] : List Value), x.oneCell' = true) := Lib.hid (by
        intro x hx
        simp only [List.mem_cons, List.not_mem_nil, or_false] at hx
        rcases hx with rfl | rfl | rfl | rfl | rfl | rfl | rfl | rfl | rfl | rfl | rfl | rfl <;> rfl)
      have HEND : Hid (∀ v' w', w'.ownsRow w0.heap.size 25 6 v' ((twU L j).length + 2) (cellsR (twU L j) ++ [.int .i64 u0, .int .i64 u1, .int .i64 u2, .int .i64 u3, .int .i64 u4, .int .i64 u5, .int .i64 v0, .int .i64 v1, .int .i64 v2, .int .i64 v3, .int .i64 v4, .int .i64 v5]) → ((wr.alloc (.cells #[.int .i64 u0, .int .i64 u1, .int .i64 u2, .int .i64 u3, .int .i64 u4, .int .i64 u5, .int .i64 v0, .int .i64 v1, .int .i64 v2, .int .i64 v3, .int .i64 v4, .int .i64 v5] 25)).drew).grownBy w' (Value.slice A1 (twU L j).length c1).ownBlock → ∃ k : Nat, k ≤ L.length ∧ Value.int .i64 ((j : Int) + 1) = .int .i64 k ∧ L.length - k < L.length - j ∧ Hid (w'.ownsRow w0.heap.size 25 6 v' (twU L k).length (cellsR (twU L k))) ∧ Below w0.heap.size w0 w') := Lib.hid (fun v' w' ho hg => ⟨j + 1, by omega, by simp, by omega, Lib.hid (by
        have e : (twU L (j + 1)).length = (twU L j).length + 2 := by omega
        rw [e, hts, cellsR_app]
        exact ho), below_grown HBd.out HO.out hg (Nat.le_refl _) (Nat.le_trans hb.size hbd.size)⟩)
      have HSZ : Hid (w0.heap.size ≤ ((wr.alloc (.cells #[.int .i64 u0, .int .i64 u1, .int .i64 u2, .int .i64 u3, .int .i64 u4, .int .i64 u5, .int .i64 v0, .int .i64 v1, .int .i64 v2, .int .i64 v3, .int .i64 v4, .int .i64 v5] 25)).drew).heap.size) := Lib.hid (Nat.le_trans hb.size hbd.size)
      have h63 : (twU L j).length + 2 ≤ maxLen := by unfold maxLen; omega
      have h48 : ((twU L j).length + 2) * 48 ≤ 140737488355328 := by omega
      have HN := Lib.hid (And.intro h63 h48)
      have W3 : IntKind.i64.wrap ((j : Int) + 1) = (j : Int) + 1 := by rw [IntKind.wrap_i64]; omega
      clear hcell q1 q2 hts htl htl2 hbd hnew hown hb h63 h48 hN1 hm
      generalize (twU L j).length = n at *
      generalize cellsR (twU L j) = xs at *
      go_upto_region 7 with fail
      go_region_law (refine step_append_from _ rfl (.tmp 38) (.tmp 51) 23 rfl w0.heap.size 25 i0 zeroU.val 6 48 Tryd.underlying23 hi hz0 hz1 hz2 rfl (by decide) (.slice A1 n c1) n xs (by simp [Act.eval]) HO.out (some ⟨wr.heap.size, 0, none⟩) 2 2 [.int .i64 u0, .int .i64 u1, .int .i64 u2, .int .i64 u3, .int .i64 u4, .int .i64 u5, .int .i64 v0, .int .i64 v1, .int .i64 v2, .int .i64 v3, .int .i64 v4, .int .i64 v5] (by simp [Act.eval]) rfl (fun h => by cases h) (fun ad h => by cases h; exact HCL.out) HONE.out HN.out.1 HN.out.2 HSZ.out ?_; intro v' w3 hown3 hg3; have hend := Lib.hid (HEND.out v' w3 hown3 hg3); clear hown3 hg3)
      all_goals
        clear a0 a1 a2 a3 a4 a5 b0 b1 b2 b3 b4 b5 HO HCL HONE HEND HN HSZ
        go_wp2_with fail
        go_roundw
        case rel =>
          obtain ⟨k, hk1, hk2, hk3, hk4, hk5⟩ := hend.out
          refine ⟨k, hk1, ?_, hk4, hk5⟩
          rw [← hk2]
        case measure =>
          obtain ⟨k, hk1, hk2, hk3, hk4, hk5⟩ := hend.out
          simp [intOf]; omega
    · have e1 : decide ((j : Int) < L.length) = false := by simp; omega
      obtain rfl : j = L.length := by omega
      obtain ⟨A1, c1, rfl, hU1⟩ := ug_own hown.out
      have HU1 := Lib.hid hU1
      have HB1 := Lib.hid hb
      have htl := twU_len L L.length
      have hmem := fun r => memD_same (P := P) (K := K) (twU_mem L) r
      have HME := Lib.hid hmem
      have HTL : Hid ((twU L L.length).length ≤ 1000) := Lib.hid (by omega)
      clear hown hU1 hb htl hmem hlt hj
      generalize twU L L.length = T at *
      have HKP := Lib.hid (fun w' (hb : Below w0.heap.size w0 w') => (keepB (Below.refl w0.heap.size w0) hb HBX.out).2)
      have kp := HKP.out wr HB1.out
      go_upto_region 9 with fail
      go_cut [9, 10] from 54 to 109 (fun p q wx => ∃ m1 m2 : Nat, p = .pointer (some ⟨m1, 0, none⟩) ∧ q = .pointer (some ⟨m2, 0, none⟩) ∧ Hid (Mo wx m1 P K L ∧ Mo wx m2 P K T ∧ Below w0.heap.size w0 wx))
      case first =>
        have HBD := Lib.hid HB1.out.drew
        have HE1 := Lib.hid (fun w' (hb : Below w0.heap.size w0 w') => HEv.out A ca L w' hb (by omega) (HUA.out.below hb))
        have HE2 := Lib.hid (fun w' (hb : Below wr.heap.size wr w') => HEv.out A1 c1 T w' (SemI.nx HB1.out hb) HTL.out (HU1.out.below hb))
        have HBE := Lib.hid ((Below.refl wr.heap.size wr).drew)
        unfold MPost at HE1 HE2
        clear HEv
        have hst : Below wr.heap.size wr wr.drew ∧ (∀ o, wr.drew.cell? ⟨bx, o, none⟩ = (#[.int .i64 d0, .int .i64 d1] : Array Value)[o]?) := ⟨HBE.out, kp⟩
        have HKK := Lib.hid (fun w' (hb : Below wr.heap.size wr w') => And.intro hb (HKP.out w' (SemI.nx HB1.out hb)))
        go_region_held3 (fun w' => Below wr.heap.size wr w' ∧ ∀ o, w'.cell? ⟨bx, o, none⟩ = (#[.int .i64 d0, .int .i64 d1] : Array Value)[o]?)
          (first | with_reducible exact hst | with_reducible assumption | exact HKK.out _ (SemI.nx (by apply And.left; with_reducible assumption) (by with_reducible assumption)))
          (first | ((with_reducible refine (HE1.out _ (SemI.nx HB1.out (by apply And.left; with_reducible assumption))).mono ?_); rintro e w2 ⟨m1, rfl, hm1, hb1⟩)
                 | ((with_reducible refine (HE2.out _ (by apply And.left; with_reducible assumption)).mono ?_); rintro e w3 ⟨m2, rfl, hm2, hb2⟩))
        all_goals rename_i hHeld
        all_goals (go_wp2_with fail; go_meet)
        all_goals (case rel => refine ⟨m1, m2, rfl, rfl, Lib.hid ?_⟩; first | exact ⟨hm1.below hb2, hm2, SemI.nx HB1.out hHeld.1⟩ | exact ⟨hm1, hm2.below hb1, SemI.nx HB1.out hHeld.1⟩)
      case rest =>
        obtain ⟨m1, m2, rfl, rfl, hcut⟩ := hcut
        clear kp HB1 HU1 HTL
        go_upto_region 10 with fail
        have hbA : Below w0.heap.size w0 (wc.alloc (.cells #[] 25)).drew := (hcut.out.2.2.alloc hcut.out.2.2.size _).drew
        have hbC : Below wc.heap.size wc (wc.alloc (.cells #[] 25)).drew := ((Below.refl _ _).alloc (Nat.le_refl _) _).drew
        have hd0 : ∀ o, wc.drew.cell? ⟨bx, o, none⟩ = (#[.int .i64 d0, .int .i64 d1] : Array Value)[o]? := HKP.out _ hcut.out.2.2.drew
        have hd1 : ∀ o, ((wc.alloc (.cells #[] 25)).drew).cell? ⟨bx, o, none⟩ = (#[.int .i64 d0, .int .i64 d1] : Array Value)[o]? := HKP.out _ hbA
        have HO0 : Hid (((wc.alloc (.cells #[] 25)).drew).ownsRow wc.heap.size 25 6 (.slice (some ⟨wc.heap.size, 0, none⟩) 0 0) 0 []) := Lib.hid (SynC.own_empty wc _ 6)
        have HSz : Hid (wc.heap.size ≤ ((wc.alloc (.cells #[] 25)).drew).heap.size) := Lib.hid hbC.size
        have HN2 : Hid (A = none → L.length = 0) := Lib.hid (fun h => by subst h; rw [RuK.ug_none HUA.out]; rfl)
        have HN3 : Hid (A' = none → L'.length = 0) := Lib.hid (fun h => by subst h; rw [RuK.ug_none HUA'.out]; rfl)
        have HBA := Lib.hid hbA
        have HBC := Lib.hid hbC
        have hl3 : (L ++ L').length = 0 + L.length + L'.length := by simp
        have hr3 : cellsR (L ++ L') = [] ++ cellsR L ++ cellsR L' := by rw [cellsR_app]; simp
        have HU3 : Hid (∀ v w', w'.ownsRow wc.heap.size 25 6 v (0 + L.length + L'.length) ([] ++ cellsR L ++ cellsR L') → ∃ A5 c5, v = .slice A5 (0 + L.length + L'.length) c5 ∧ UG w' A5 (L ++ L')) := Lib.hid (fun v w' h => by
          rw [← hl3, ← hr3] at h
          rw [← hl3]
          exact ug_own h)
        have HE3 : Hid (∀ (A5 : Option Addr) (c5 : Nat) w', Below w0.heap.size w0 w' → UG w' A5 (L ++ L') → Calls Tryd.prog 9 #[.int .i64 d0, .int .i64 d1, .slice A5 (L.length + L'.length) c5] w' (MPost P K (L ++ L') w')) := Lib.hid (fun A5 c5 w' hb hu => by
          have h := HEv.out A5 c5 (L ++ L') w' hb (by rw [hl3]; omega) hu
          rw [hl3, Nat.zero_add] at h
          exact h)
        unfold MPost at HE3
        clear hbA hbC hl3 hr3 HEv
        go_region_held3 (fun w' => ∀ o, w'.cell? ⟨bx, o, none⟩ = (#[.int .i64 d0, .int .i64 d1] : Array Value)[o]?)
          (first | with_reducible assumption)
          (first | (refine step_append_from _ rfl (.tmp 70) (.tmp 71) 23 rfl wc.heap.size 25 i0 zeroU.val 6 48 Tryd.underlying23 hi hz0 hz1 hz2 rfl (by decide) (.slice (some ⟨wc.heap.size, 0, none⟩) 0 0) 0 [] (by simp [Act.eval]) HO0.out A L.length ca (cellsR L) (by simp [Act.eval]) (cellsR_len L) HN2.out (RuK.ug_cells (HUA.out.below HBA.out)) (RuK.ucells_one L) (by unfold maxLen; omega) (by omega) HSz.out ?_; intro v1 w1 hown1 hg1; have hs1 := Nat.le_trans HSz.out hg1.size; have hb1 := Lib.hid (below_grown HBA.out HO0.out hg1 hcut.out.2.2.size HSz.out); have hc1 := Lib.hid (below_grown HBC.out HO0.out hg1 (Nat.le_refl _) HSz.out); have hd2 := HKP.out _ hb1.out)
                 | (refine step_append_from _ rfl (.tmp 72) (.tmp 73) 23 rfl wc.heap.size 25 i0 zeroU.val 6 48 Tryd.underlying23 hi hz0 hz1 hz2 rfl (by decide) v1 (0 + L.length) ([] ++ cellsR L) (by simp [Act.eval]) hown1 A' L'.length ca' (cellsR L') (by simp [Act.eval]) (cellsR_len L') HN3.out (RuK.ug_cells (HUA'.out.below hb1.out)) (RuK.ucells_one L') (by unfold maxLen; omega) (by omega) hs1 ?_; intro v2 w2 hown2 hg2; obtain ⟨A5, c5, rfl, hu3⟩ := HU3.out _ _ hown2; have hb2 := Lib.hid (below_grown hb1.out hown1 hg2 hcut.out.2.2.size hs1); have hc2 := Lib.hid (below_grown hc1.out hown1 hg2 (Nat.le_refl _) hs1); have hd3 := HKP.out _ hb2.out)
                 | ((with_reducible refine (HE3.out A5 c5 w2 hb2.out hu3).mono ?_); rintro e w3 ⟨m3, rfl, hm3, hb3⟩; have hd4 := HKP.out _ (SemI.nx hb2.out hb3)))
        have HB3 := Lib.hid (SemI.nx hb2.out hb3)
        have hC3 := SemI.nx hc2.out hb3
        have HM1 := Lib.hid (fun w' (hb : Below w3.heap.size w3 w') => (hcut.out.1.below hC3).below hb)
        have HM2 := Lib.hid (fun w' (hb : Below w3.heap.size w3 w') => (hcut.out.2.1.below hC3).below hb)
        have HM3 := Lib.hid (fun w' (hb : Below w3.heap.size w3 w') => Mo.below hm3 hb)
        have HT3 := Lib.hid (fun w' (hb : Below w3.heap.size w3 w') => HTB.out.below (SemI.nx HB3.out hb))
        have HLV := Lib.hid (fun w' (hb : Below w3.heap.size w3 w') => HLv.out w' (SemI.nx HB0.out (SemI.nx HB3.out hb)))
        have HFI := Lib.hid (fun w' (hb : Below w3.heap.size w3 w') => SemI.nx HB0.out (SemI.nx HB3.out hb))
        obtain ⟨n, hn⟩ : ∃ n, P * K = n := ⟨_, rfl⟩
        have hn60 : P * K ≤ 10 * 6 := Nat.mul_le_mul lP lK
        have hmul : IntKind.i64.wrap ((P : Int) * (K : Int)) = (n : Int) := wrapN hn (by omega)
        have hP := HPK.out.1
        have hK := HPK.out.2
        have hn2 : n ≤ 60 := by omega
        clear hd0 hd1 hd2 hd3 hown1 hown2 hg1 hg2 hs1 hb1 hc1 hb2 hc2 hu3 hm3 hb3 hC3 HO0 HSz HN2 HN3 HBA HBC HU3 HE3 hcut HTB HUA HUA' HLv hn hn60 HB0 HBX HKP HPK hi hz0 hz1 hz2
        go_wp2_with fail
        go_loopw [83] (fun i wr => ∃ r : Nat, r ≤ n ∧ i = .int .i64 r ∧ Below w3.heap.size w3 wr) (fun i _ => n - (intOf i).toNat)
        case atStart => exact ⟨0, by omega, rfl, Below.refl _ _⟩
        case round =>
          obtain ⟨r, hr, rfl, hb⟩ := hrel
          by_cases hlt : r < n
          · have e1 : decide ((r : Int) < (n : Int)) = true := by simp; omega
            have HBk := Lib.hid hb
            have HL1 := Lib.hid (fun w' hb => membersM (HM1.out w' hb) (HT3.out w' hb) (r : Int))
            have HL2 := Lib.hid (fun w' hb => membersM (HM2.out w' hb) (HT3.out w' hb) (r : Int))
            rw [HME.out (r : Int)] at HL2
            have hlen := memD_len P K L (r : Int)
            have HIN : Hid (∀ w', Below w3.heap.size w3 w' → ∀ x ∈ memD P K L (r : Int), Calls Tryd.prog 11 #[.pointer (some ⟨m3, 0, none⟩), .int .i64 r, .int .i64 (x : Int)] w' fun e wx => e = .returned (.bool true) ∧ ∃ q, wx = w'.drewN q) := Lib.hid (fun w' hb x hx => by
              have h := inM (HM3.out w' hb) (r : Int) (x : Int)
              rw [derB_iff.2 (Der.mono (filter_mem fun u hu => List.mem_append_left L' hu) (mem_memD.1 hx).2)] at h
              exact h)
            unfold ListPost at HL1 HL2
            generalize memD P K L (r : Int) = D at *
            clear hb
            go_wp2_with fail
            refine (HL1.out _ HBk.out).mono ?_
            rintro e w4 ⟨x1, rfl, hown4, hb4⟩
            obtain ⟨A4, c4, rfl, hn4⟩ := ng_own hown4
            have HB4 := Lib.hid (SemI.nx HBk.out hb4)
            have HN4 := Lib.hid (fun w' (hb : Below w4.heap.size w4 w') => NG.below hn4 hb)
            clear hown4 hb4 hn4
            go_wp2_with fail
            refine (HL2.out _ HB4.out).mono ?_
            rintro e w5 ⟨x2, rfl, hown5, hb5⟩
            obtain ⟨A5, c5, rfl, hn5⟩ := ng_own hown5
            have HB5 := Lib.hid (SemI.nx HB4.out hb5)
            have HSa := Lib.hid (sameL A4 A5 c4 c5 D w5 (by omega) (HN4.out _ hb5) hn5)
            unfold BoolPost at HSa
            clear hown5 hb5 hn5 HN4 HL2
            go_wp2_with fail
            refine HSa.out.mono ?_
            rintro e w6 ⟨rfl, hb6⟩
            have HB6 := Lib.hid (SemI.nx HB5.out hb6)
            clear hb6 HSa HB4 HB5
            go_wp2_with fail
            refine (HL1.out _ HB6.out).mono ?_
            rintro e w7 ⟨x3, rfl, hown7, hb7⟩
            obtain ⟨A7, c7, rfl, hn7⟩ := ng_own hown7
            have HB7 := Lib.hid (SemI.nx HB6.out hb7)
            have HN7 := Lib.hid (fun w' (hb : Below w7.heap.size w7 w') => NG.below hn7 hb)
            clear hown7 hb7 hn7 HL1 HB6
            go_wp2_with fail
            go_loopw [98] (fun i wr => ∃ k : Nat, k ≤ D.length ∧ i = .int .i64 k ∧ Below w7.heap.size w7 wr) (fun i _ => D.length - (intOf i).toNat)
            case atStart => exact ⟨0, by omega, rfl, Below.refl _ _⟩
            case round =>
              obtain ⟨k, hk, rfl, hb⟩ := hrel
              by_cases hlk : k < D.length
              · have f1 : decide ((k : Int) < (D.length : Int)) = true := by simp; omega
                have p0 : (0 : Int) ≤ k := by omega
                have p1 : (k : Int) < D.length := by omega
                obtain ⟨g, o, rfl, hg, hcell⟩ := (HN7.out _ hb) (by omega)
                have a1 := hcell k hlk
                have HI1 := Lib.hid (fun w' hb => HIN.out w' hb D[k] (List.getElem_mem hlk))
                have HBj := Lib.hid hb
                clear hcell hb
                generalize D[k] = x at *
                go_wp2_with fail
                refine (HI1.out _ (SemI.nx HB7.out HBj.out)).mono ?_
                rintro e w8 ⟨rfl, q, rfl⟩
                clear a1
                go_wp2_with fail
                go_roundw
                case rel => exact ⟨k + 1, by omega, by go_num, below_drewN HBj.out _⟩
                case measure => simp [intOf]; omega
              · have f1 : decide ((k : Int) < (D.length : Int)) = false := by simp; omega
                have HBe := Lib.hid (SemI.nx HB7.out hb)
                clear hb
                go_wp2_with fail
                go_roundw
                case rel => exact ⟨r + 1, by omega, by go_num, HBe.out⟩
                case measure => simp [intOf]; omega
          · have e1 : decide ((r : Int) < (n : Int)) = false := by simp; omega
            have HBk := Lib.hid hb
            clear hb
            go_wp2_with fail
            refine (HLV.out _ HBk.out).mono ?_
            rintro e w4 ⟨rfl, hb⟩
            have HF := Lib.hid (HFI.out _ (SemI.nx HBk.out hb))
            clear hb
            go_wp2_with fail
            go_ret
            exact ⟨rfl, HF.out⟩
end Go.Proofs.YtdegmcnmnkmniaaDoor.SemGw
/- What arguments that are two numbers, or a row of rules, or a rule, read as. -/
namespace Go.Proofs.YtdegmcnmnkmniaaDoor.SemO
set_option linter.unusedVariables false
set_option linter.unusedSimpArgs false
open Go.ChangeShapes Go.WideShapes Go.ChangeAt Go.RowKit
open Go.Proofs.YtdegmcnmnkmniaaDoor.SetO Go.Proofs.YtdegmcnmnkmniaaDoor.TblC Go.Proofs.YtdegmcnmnkmniaaDoor.TblV
set_option maxRecDepth 1000000
set_option linter.unusedVariables false
theorem cells3 : Tryd.prog.cellsOf 3 = 1 := by kernel_rfl
theorem cellsU : Tryd.prog.cellsOf 25 = 6 := by kernel_rfl
section
variable {H : Type} {enc : TypeId × Value → H} {w : World} {base : Nat} {spare : Nat → Bool} {held : Bool} {fuel : Nat} {cs : List Value} {x : DataW H × List MemPlace}
theorem rule_cells (h : DataW.trod enc Tryd.prog w base spare held fuel 25 cs = some x) : ∃ u : Ru, cs = u.cells.toList := by
  obtain ⟨xs, n, _, _, hl, hxl, hf⟩ := DataW.trod_struct Tryd.underlying25 h
  rw [cellsU] at hl
  match cs, hl with
  | [c0, c1, c2, c3, c4, c5], _ =>
    have h0 : DataW.trod enc Tryd.prog w base spare held n 3 (([c0, c1, c2, c3, c4, c5].drop 0).take (Tryd.prog.cellsOf 3)) = xs[0]? := hf 0 _ rfl
    have h1 : DataW.trod enc Tryd.prog w base spare held n 3 (([c0, c1, c2, c3, c4, c5].drop 1).take (Tryd.prog.cellsOf 3)) = xs[1]? := hf 1 _ rfl
    have h2 : DataW.trod enc Tryd.prog w base spare held n 3 (([c0, c1, c2, c3, c4, c5].drop 2).take (Tryd.prog.cellsOf 3)) = xs[2]? := hf 2 _ rfl
    have h3 : DataW.trod enc Tryd.prog w base spare held n 3 (([c0, c1, c2, c3, c4, c5].drop 3).take (Tryd.prog.cellsOf 3)) = xs[3]? := hf 3 _ rfl
    have h4 : DataW.trod enc Tryd.prog w base spare held n 3 (([c0, c1, c2, c3, c4, c5].drop 4).take (Tryd.prog.cellsOf 3)) = xs[4]? := hf 4 _ rfl
    have h5 : DataW.trod enc Tryd.prog w base spare held n 3 (([c0, c1, c2, c3, c4, c5].drop 5).take (Tryd.prog.cellsOf 3)) = xs[5]? := hf 5 _ rfl
    obtain ⟨y0, e0⟩ := some_at (i := 0) hxl (by decide)
    obtain ⟨y1, e1⟩ := some_at (i := 1) hxl (by decide)
    obtain ⟨y2, e2⟩ := some_at (i := 2) hxl (by decide)
    obtain ⟨y3, e3⟩ := some_at (i := 3) hxl (by decide)
    obtain ⟨y4, e4⟩ := some_at (i := 4) hxl (by decide)
    obtain ⟨y5, e5⟩ := some_at (i := 5) hxl (by decide)
    rw [e0, SemO.cells3] at h0
    rw [e1, SemO.cells3] at h1
    rw [e2, SemO.cells3] at h2
    rw [e3, SemO.cells3] at h3
    rw [e4, SemO.cells3] at h4
    rw [e5, SemO.cells3] at h5
    obtain ⟨s0, a0, _, _⟩ := DataW.trod_int Tryd.underlying3 h0
    obtain ⟨s1, a1, _, _⟩ := DataW.trod_int Tryd.underlying3 h1
    obtain ⟨s2, a2, _, _⟩ := DataW.trod_int Tryd.underlying3 h2
    obtain ⟨s3, a3, _, _⟩ := DataW.trod_int Tryd.underlying3 h3
    obtain ⟨s4, a4, _, _⟩ := DataW.trod_int Tryd.underlying3 h4
    obtain ⟨s5, a5, _, _⟩ := DataW.trod_int Tryd.underlying3 h5
    simp at a0 a1 a2 a3 a4 a5
    subst a0; subst a1; subst a2; subst a3; subst a4; subst a5
    exact ⟨⟨s0, s1, s2, s3, s4, s5⟩, rfl⟩
end
theorem agg_two {v : Value} {a b : Value} (h : v.cells.toList = [a, b]) : v = .agg #[a, b] := by
  cases v with
  | agg cs =>
    simp only [Value.cells] at h
    congr 1
    apply Array.ext'
    simpa using h
  | _ => simp [Value.cells] at h
set_option maxRecDepth 1000000 in
theorem open_dims {H : Type} {enc : TypeId × Value → H} {W : World} {v : Value} {d : DataW H} {p : List MemPlace}
    (h : DataW.Trod enc Tryd.prog W 0 (fun _ => true) true 22 v d p) : ∃ a b : Int, v = .agg #[.int .i64 a, .int .i64 b] := by
  obtain ⟨fuel, hf⟩ := h
  obtain ⟨r, hr⟩ := pair_cells hf
  exact ⟨r.1, r.2, agg_two hr⟩
set_option maxRecDepth 1000000 in
theorem open_rule {H : Type} {enc : TypeId × Value → H} {W : World} {base : Nat} {v : Value} {d : DataW H} {p : List MemPlace}
    (hval : Value.okWide Tryd.prog W .any base 25 v) (h : DataW.Trod enc Tryd.prog W 0 (fun _ => true) true 25 v d p) : ∃ u : Ru, v = u.val := by
  obtain ⟨cs, rfl, hsz⟩ := okWide_struct Tryd.underlying25 hval
  obtain ⟨fuel, hf⟩ := h
  obtain ⟨u, hu⟩ := rule_cells hf
  refine ⟨u, ?_⟩
  simp only [Value.cells] at hu
  unfold Ru.val
  congr 1
  apply Array.ext'
  rw [hu]
  rfl
set_option maxRecDepth 1000000 in
theorem open_rules {H : Type} {enc : TypeId × Value → H} {W : World} {base : Nat} {v : Value} {d : DataW H} {p : List MemPlace}
    (hval : Value.okWide Tryd.prog W .any base 23 v) (h : DataW.Trod enc Tryd.prog W 0 (fun _ => true) true 23 v d p) :
    ∃ (A : Option Addr) (c : Nat) (L : List Ru), v = .slice A L.length c ∧ L.length ≤ c ∧ c ≤ maxLen ∧ UG W A L := by
  obtain ⟨a0, len, cap, rfl⟩ := okWide_slice Tryd.underlying23 hval
  obtain ⟨fuel, hf⟩ := h
  rcases DataW.trod_slice Tryd.underlying23 hf with ⟨hcs, hx⟩ | ⟨a, len', cap', elems, rest, n, _, hcs, hx, hb, hl, hm, hlen, hel, _⟩
  · simp [Value.cells] at hcs
    obtain ⟨rfl, rfl, rfl⟩ := hcs
    exact ⟨none, 0, [], rfl, by simp, by simp [maxLen], fun h => by simp at h⟩
  · simp [Value.cells] at hcs
    obtain ⟨rfl, rfl, rfl⟩ := hcs
    have key : ∀ i, i < len → ∃ s : Ru, ∀ k, k < 6 → W.cell? (a.add (i * 6) |>.add k) = (s.cells.toList)[k]? := fun i hi => by
      have q := hel i hi
      rw [cellsU] at q
      have hsome : ∃ y, elems[i]? = some y := some_at hlen hi
      obtain ⟨y, hy⟩ := hsome
      rw [hy, Option.bind_eq_some_iff] at q
      obtain ⟨cs, hc, ht⟩ := q
      obtain ⟨s, rfl⟩ := rule_cells ht
      obtain ⟨_, _, hat⟩ := World.cells?_some hc
      exact ⟨s, hat⟩
    obtain ⟨L, hL, hp⟩ := list_of (P := fun i (s : Ru) => ∀ k, k < 6 → W.cell? (a.add (i * 6) |>.add k) = (s.cells.toList)[k]?) len key
    refine ⟨some a, cap, L, by rw [hL], by omega, hm, fun hpos => ?_⟩
    have h1 := hp 0 hpos 0 (by omega)
    obtain ⟨b, off, spot⟩ := a
    have h1' : W.cell? (((⟨b, off, spot⟩ : Addr).add (0 * 6)).add 0) = some (.int .i64 L[0].kind) := h1
    have hspot : spot = none := by simpa [Addr.add] using World.cell?_spot h1'
    subst hspot
    have hlt := World.block_lt_of_cell? _ _ h1'
    rw [add_off, add_off] at hlt
    refine ⟨b, off, rfl, hlt, fun j hj k hk => ?_⟩
    have q0 := hp j hj k hk
    rw [add_off, add_off] at q0
    rw [q0]
    simp
end Go.Proofs.YtdegmcnmnkmniaaDoor.SemO
