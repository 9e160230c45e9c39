/- The walk of the law of rows of statements. -/
import Derived.Test.YtpjacngbkohmdaaM28
import Derived.Test.YtpjacngbkohmdaaM21
import Derived.Maps.AppendAt
import Derived.Test.YtpjacngbkohmdaaM27
namespace Go.Proofs.Ytpjacngbkohmdaa.StM
set_option linter.unusedVariables false
set_option linter.unusedSimpArgs false
open Go.Shelf Go.RowKit Go.Sort Go.Lib Go.Proofs Go.Proofs.Ytpjacngbkohmdaa.Plain Go.Proofs.Ytpjacngbkohmdaa.SynP Go.Proofs.Ytpjacngbkohmdaa.Grown Go.Proofs.Ytpjacngbkohmdaa.SynC Go.Proofs.Ytpjacngbkohmdaa.SynD Go.Proofs.Ytpjacngbkohmdaa.SynD2 Go.Proofs.Ytpjacngbkohmdaa.SynD3 Go.Proofs.Ytpjacngbkohmdaa.QryP Go.Proofs.Ytpjacngbkohmdaa.PolA Go.Proofs.Ytpjacngbkohmdaa.PolE Go.Proofs.Ytpjacngbkohmdaa.PolOp Go.Proofs.Ytpjacngbkohmdaa.StA Go.Proofs.Ytpjacngbkohmdaa.StB Go.Proofs.Ytpjacngbkohmdaa.StC Go.Proofs.Ytpjacngbkohmdaa.StD Go.Proofs.Ytpjacngbkohmdaa.StE Go.Proofs.Ytpjacngbkohmdaa.StF Go.Proofs.Ytpjacngbkohmdaa.StG Go.Proofs.Ytpjacngbkohmdaa.StH Go.Proofs.Ytpjacngbkohmdaa.StI Go.Proofs.Ytpjacngbkohmdaa.StJ Go.Proofs.Ytpjacngbkohmdaa.StN Go.Proofs.Ytpjacngbkohmdaa.StP
set_option linter.unusedVariables false
set_option linter.unusedSimpArgs false
theorem take_all {q : St → Bool} {T : List St} {j : Nat} (h : j < T.length) : ((T.take (j + 1)).all q) = ((T.take j).all q && q T[j]) := by
  rw [List.take_succ_eq_append_getElem h, List.all_append]; simp
theorem sort2 (L M : List St) : sortL cmpS [] ([] ++ L ++ M) = sortL cmpS [] (L ++ M) := by simp
theorem refSame (A B : Option Addr) (ca cb : Nat) (L M : List St) (w : World) (hL : L.length ≤ 10000) (hM : M.length ≤ 10000) (hA : SG w A L) (hB : SG w B M) :
    Calls Try.prog 10 #[.slice A L.length ca, .slice B M.length cb] w fun e w' => e = .returned (.bool (decide (L = M))) ∧ Below w.heap.size w w' :=
  (RefSm.sameSS A B ca cb L M w hL hM hA hB).mono fun e wx ⟨he, n, hw⟩ => ⟨he, by rw [hw]; exact below_drewN (Below.refl _ _) n⟩
theorem refSort (A : Option Addr) (ca : Nat) (L : List St) (w : World) (hL : L.length ≤ 1000) (hA : SG w A L) : Calls Try.prog 11 #[.slice A L.length ca] w (RowPost (sortL cmpS [] L) w) :=
  (SynDB.sortRef A ca L w hL hA.at_).mono fun e wx ⟨A', c', he, hr, hb⟩ => ⟨A', c', he, SG.of_row hr, hb⟩
set_option maxHeartbeats 4000000 in
set_option maxRecDepth 100000 in
theorem walk0 (A B : Option Addr) (ca cb : Nat) (L M : List St) (s : St) (w : World) (hL : L.length ≤ maxLen) (hM : M.length ≤ maxLen) (fL : ∀ s ∈ L, s.fit) (fM : ∀ s ∈ M, s.fit) (fs : s.fit) (hA : SG w A L) (hB : SG w B M) :
    Calls Try.prog 3 #[.slice A L.length ca, .slice B M.length cb, s.val] w fun e w' => e = .returned (.bool true) ∧ Below w.heap.size w w' := by
  obtain ⟨i0, hi, hz0, hz1, hz2⟩ := info_parts PolK.infoStB
  have HLa := Lib.hid (fun w' (hb : Below w.heap.size w w') => StH.light A ca L w' hL (hA.below hb))
  have HLb := Lib.hid (fun w' (hb : Below w.heap.size w w') => StH.light B cb M w' hM (hB.below hb))
  have HLs := Lib.hid (fun w' => SynM.light s w')
  have HLv := Lib.hid (fun w' => StK.lives w')
  have HA := Lib.hid (fun w' (hb : Below w.heap.size w w') => hA.below hb)
  have HB := Lib.hid (fun w' (hb : Below w.heap.size w w') => hB.below hb)
  have HFL := Lib.hid fL
  have HSo := Lib.hid (fun w' (hb : Below w.heap.size w w') (n : L.length ≤ 40) => refSort A ca L w' (by omega) (hA.below hb))
  have HIs : Hid (∀ w', Below w.heap.size w w' → L.length ≤ 40 → Calls Try.prog 13 #[.slice A L.length ca] w' fun e wx => e = .returned (.bool (decide (L = sortL cmpS [] L) && L.all St.right)) ∧ Below w'.heap.size w' wx) := Lib.hid (fun w' hb n => by
    have h := is_ A ca L w' (by omega) (hA.below hb) fL
    rw [Bool.and_comm] at h
    exact h)
  have HHs := Lib.hid (fun w' (hb : Below w.heap.size w w') (n : L.length ≤ 40) => StF.has_ A ca L s w' (by omega) (hA.below hb))
  have HHr := Lib.hid (fun w' (hb : Below w.heap.size w w') (n : L.length ≤ 40) => hasG A ca L s w' (by omega) (hA.below hb))
  have HSm := Lib.hid (fun w' (hb : Below w.heap.size w w') (n : L.length ≤ 40) (n2 : M.length ≤ 40) => StF.same A B ca cb L M w' (by omega) (by omega) (hA.below hb) (hB.below hb))
  have HSr := Lib.hid (fun w' (hb : Below w.heap.size w w') (n : L.length ≤ 40) (n2 : M.length ≤ 40) => refSame A B ca cb L M w' (by omega) (by omega) (hA.below hb) (hB.below hb))
  have HUn := Lib.hid (fun w' (hb : Below w.heap.size w w') (n : L.length ≤ 40) (n2 : M.length ≤ 40) => union A B ca cb L M w' (by omega) (by omega) (hA.below hb) (hB.below hb))
  have HMi := Lib.hid (fun w' (hb : Below w.heap.size w w') (n : L.length ≤ 40) (n2 : M.length ≤ 40) => minus A B ca cb L M w' (by omega) (by omega) (hA.below hb) (hB.below hb) fL)
  have HOf := Lib.hid (fun w' (hb : Below w.heap.size w w') (n : L.length ≤ 40) (n2 : M.length ≤ 40) => of_ A B ca cb false L M w' (by omega) (by omega) (hA.below hb) (hB.below hb))
  have HAb := Lib.hid (fun w' (hb : Below w.heap.size w w') (n : L.length ≤ 40) => about A ca L s.head w' (by omega) (hA.below hb) fL)
  have HNA : Hid (A = none → L.length = 0) := Lib.hid (fun h => by subst h; exact sg_none_len hA)
  have HNB : Hid (B = none → M.length = 0) := Lib.hid (fun h => by subst h; exact sg_none_len hB)
  unfold StH.LightPost at HLa HLb
  unfold OwnPost at HUn HMi HAb
  unfold RowPost at HSo HOf
  rw [of_mi] at HOf
  have hm1 : (sortL cmpS [] L).filter (fun s => !decide (s ∈ M)) = mi L M := rfl
  rw [hm1] at HMi
  clear hm1 hA hB fL fM fs
  obtain ⟨k1, ⟨ho, hn⟩, wh, ⟨ao, an⟩, ⟨bo, bn⟩, v1⟩ := s
  unfold St.val at HLs HHs HHr ⊢
  unfold Rl.val at HAb
  dsimp only at HLs HHs HHr HAb ⊢
  generalize SynM.lightS ⟨k1, ⟨ho, hn⟩, wh, ⟨ao, an⟩, ⟨bo, bn⟩, v1⟩ = bs at *
  generalize decide ((⟨k1, ⟨ho, hn⟩, wh, ⟨ao, an⟩, ⟨bo, bn⟩, v1⟩ : St) ∈ L) = hs at *
  have hbX := below_alloc w (.cells #[.int .i64 k1, .string ho, .string hn, .string wh, .string ao, .string an, .string bo, .string bn, .string v1] 26)
  have hX := heap_alloc_new w (.cells #[.int .i64 k1, .string ho, .string hn, .string wh, .string ao, .string an, .string bo, .string bn, .string v1] 26)
  have HB0 := Lib.hid hbX
  have HX := Lib.hid hX
  clear hbX hX
  go_enter Try.func3, Try.ntmps3
  go_upto_region 1 with fail
  obtain ⟨b0, hb0⟩ : ∃ b0, w.heap.size = b0 := ⟨_, rfl⟩
  rw [hb0] at HX
  simp only [hb0] at ⊢
  generalize w.alloc (.cells #[.int .i64 k1, .string ho, .string hn, .string wh, .string ao, .string an, .string bo, .string bn, .string v1] 26) = w0 at *
  have HD := Lib.hid (fun w' (hb : Below w0.heap.size w0 w') (o : Nat) => Lib.cell_of_heap ((hb.block b0 (Array.getElem?_eq_some_iff.1 HX.out).1).trans HX.out) o)
  clear HX hb0
  go_wp2_with fail
  refine (HLa.out w0 HB0.out).mono ?_
  rintro e w1 ⟨ba, rfl, hfa, hb1⟩
  have HB1 := Lib.hid hb1
  have HFA := Lib.hid hfa
  clear hb1 hfa HLa
  cases ba with
  | false =>
    clear HFA
    go_wp2_with fail
    refine (HLv.out _).mono ?_
    rintro e w2 ⟨rfl, hb2⟩
    have HF := Lib.hid (nx HB0.out (nx HB1.out hb2))
    clear hb2
    go_wp2_with fail
    go_ret
    exact ⟨rfl, HF.out⟩
  | true =>
  go_wp2_with fail
  refine (HLb.out w1 (nx HB0.out HB1.out)).mono ?_
  rintro e w2 ⟨bb, rfl, hfb, hb2⟩
  have HB2 := Lib.hid (nx HB1.out hb2)
  have HFB := Lib.hid hfb
  have x2 := HD.out w2 HB2.out
  clear hb2 hfb HLb HB1
  cases bb with
  | false =>
    clear HFA HFB
    go_wp2_with fail
    refine (HLv.out _).mono ?_
    rintro e w3 ⟨rfl, hb3⟩
    have HF := Lib.hid (nx HB0.out (nx HB2.out hb3))
    clear hb3
    go_wp2_with fail
    go_ret
    exact ⟨rfl, HF.out⟩
  | true =>
  go_wp2_with fail
  refine (HLs.out _).mono ?_
  rintro e w3 ⟨rfl, hg3⟩
  have HB3 := Lib.hid (nx HB2.out hg3.below)
  clear hg3 HB2 x2 HLs
  cases bs with
  | false =>
    clear HFA HFB
    go_wp2_with fail
    refine (HLv.out _).mono ?_
    rintro e w4 ⟨rfl, hb4⟩
    have HF := Lib.hid (nx HB0.out (nx HB3.out hb4))
    clear hb4
    go_wp2_with fail
    go_ret
    exact ⟨rfl, HF.out⟩
  | true =>
  have la := HFA.out (by trivial)
  have lb := HFB.out (by trivial)
  have HW : Hid (∀ w', Below w3.heap.size w3 w' → Below w.heap.size w w') := Lib.hid (fun w' hb => nx HB0.out (nx HB3.out hb))
  have lso := sort_len L
  have HSS := Lib.hid (fun (w' : World) (A5 : Option Addr) (c5 : Nat) (ha : SG w' A L) (h5 : SG w' A5 (sortL cmpS [] L)) => refSame A A5 ca c5 L (sortL cmpS [] L) w' (by omega) (by omega) ha h5)
  clear HFA HFB
  have x3 := HD.out w3 HB3.out
  generalize hso : sortL cmpS [] L = SL at *
  have HDe : Hid (∀ q : Bool, (L.all St.right && q) = (q && L.all St.right)) := Lib.hid (fun q => Bool.and_comm _ _)
  generalize decide (L = SL) = ds at *
  go_wp2_with fail
  clear x3
  refine (HSo.out w3 (HW.out _ (Below.refl _ _)) la).mono ?_
  rintro e w4 ⟨A5, c5, rfl, h5, hb4⟩
  have HB4 := Lib.hid hb4
  have HS4 := Lib.hid (HSS.out w4 A5 c5 (HA.out _ (HW.out _ hb4)) h5)
  clear h5 hb4 HSS
  go_wp2_with fail
  refine HS4.out.mono ?_
  rintro e w5 ⟨rfl, hb5⟩
  have HB5 := Lib.hid (nx HB4.out hb5)
  clear hb5 HS4 HB4
  go_wp2_with fail
  go_loopw [7, 33] (fun r i wr => ∃ j : Nat, j ≤ L.length ∧ i = .int .i64 j ∧ r = .bool (ds && (L.take j).all St.right) ∧ Below w3.heap.size w3 wr) (fun _ i _ => L.length - (intOf i).toNat)
  case atStart => exact ⟨0, by omega, rfl, by simp, HB5.out⟩
  case round =>
    obtain ⟨j, hj, rfl, rfl, hb⟩ := hrel
    by_cases hlt : j < L.length
    · have e1 : decide ((j : Int) < L.length) = true := by simp; omega
      obtain ⟨g, o, rfl, hg, hc⟩ := HA.out _ (HW.out _ hb) (by omega)
      obtain ⟨a0, a1, a2, a3, a4, a5, a6, a7, a8⟩ := hc j hlt
      have p1 : (0 : Int) ≤ j := by omega
      have p2 : (j : Int) < L.length := by omega
      have hfx := HFL.out L[j] (List.getElem_mem hlt)
      have HR := Lib.hid (fun w' => Syn9.rightRef L[j] w' hfx)
      have HT : Hid ((ds && (L.take (j + 1)).all St.right) = (ds && ((L.take j).all St.right && St.right L[j]))) := Lib.hid (by rw [take_all hlt])
      have HBr := Lib.hid hb
      clear hc hb hg hfx
      generalize (L.take j).all St.right = q at *
      generalize L[j] = x at *
      generalize x.right = r at *
      obtain ⟨k2, ⟨ho2, hn2⟩, wh2, ⟨ao2, an2⟩, ⟨bo2, bn2⟩, v2⟩ := x
      unfold St.val at HR
      dsimp only at HR a0 a1 a2 a3 a4 a5 a6 a7 a8
      have hbY := below_alloc wr (.cells #[.int .i64 k2, .string ho2, .string hn2, .string wh2, .string ao2, .string an2, .string bo2, .string bn2, .string v2] 26)
      have cy := fun o => Lib.cell_of_heap (heap_alloc_new wr (.cells #[.int .i64 k2, .string ho2, .string hn2, .string wh2, .string ao2, .string an2, .string bo2, .string bn2, .string v2] 26)) o
      have HBY := Lib.hid (nx HBr.out hbY)
      clear hbY
      go_upto_region 7 with fail
      generalize wr.alloc (.cells #[.int .i64 k2, .string ho2, .string hn2, .string wh2, .string ao2, .string an2, .string bo2, .string bn2, .string v2] 26) = wy at *
      clear a0 a1 a2 a3 a4 a5 a6 a7 a8
      cases hq : (ds && q) with
      | false =>
        have HE : Hid ((ds && (q && r)) = false) := Lib.hid (by rw [← Bool.and_assoc, hq]; rfl)
        clear HR
        go_wp2_with fail
        go_roundw
        case rel => exact ⟨j + 1, by omega, by go_num, by rw [HT.out, HE.out], HBY.out⟩
        case measure => simp [intOf]; omega
      | true =>
        have HE : Hid ((ds && (q && r)) = r) := Lib.hid (by rw [← Bool.and_assoc, hq]; rfl)
        go_wp2_with fail
        refine (HR.out _).mono ?_
        rintro e wz ⟨rfl, hgz⟩
        have HBZ := Lib.hid (nx HBY.out hgz.below)
        clear hgz cy HR
        go_wp2_with fail
        go_roundw
        case rel => exact ⟨j + 1, by omega, by go_num, by rw [HT.out, HE.out], HBZ.out⟩
        case measure => simp [intOf]; omega
    · have e1 : decide ((j : Int) < L.length) = false := by simp; omega
      have hta : (L.take j).all St.right = L.all St.right := by rw [List.take_of_length_le (by omega)]
      rw [hta]
      have HBr := Lib.hid hb
      clear hb hta
      generalize L.all St.right = ar at *
      go_wp2_with fail
      clear e1 hlt hj
      refine (HSo.out wr (HW.out _ HBr.out) la).mono ?_
      rintro e w6 ⟨A6, c6, rfl, h6, hb6⟩
      have HB6 := Lib.hid (nx HBr.out hb6)
      have H6 := Lib.hid (fun w' (hb : Below w6.heap.size w6 w') => h6.below hb)
      clear h6 hb6 HSo HBr
      go_wp2_with fail
      go_loopw [10, 46] (fun v i wk => ∃ j : Nat, j ≤ SL.length ∧ i = .int .i64 j ∧ Hid (wk.ownsRow w6.heap.size 26 9 v ((SL.take j).filter fun x => decide (x.head = ⟨ho, hn⟩)).length (stCells ((SL.take j).filter fun x => decide (x.head = ⟨ho, hn⟩)))) ∧ Below w6.heap.size w6 wk) (fun _ i _ => SL.length - (intOf i).toNat)
      case atStart => exact ⟨0, by omega, rfl, Lib.hid (by simpa [stCells] using World.ownsRow_nil w6 w6.heap.size 26 9), Below.refl _ _⟩
      case round =>
        obtain ⟨j, hj, rfl, hown, hb⟩ := hrel
        by_cases hlt : j < SL.length
        · have e1 : decide ((j : Int) < SL.length) = true := by simp; omega
          obtain ⟨A3, c3, rfl, _⟩ := sg_own hown.out
          obtain ⟨g, o, rfl, hg, hc⟩ := H6.out _ hb (by omega)
          obtain ⟨a0, a1, a2, a3, a4, a5, a6, a7, a8⟩ := hc j hlt
          have p1 : (0 : Int) ≤ j := by omega
          have p2 : (j : Int) < SL.length := by omega
          have hft : (SL.take (j + 1)).filter (fun x => decide (x.head = ⟨ho, hn⟩)) = (SL.take j).filter (fun x => decide (x.head = ⟨ho, hn⟩)) ++ if decide (SL[j].head = ⟨ho, hn⟩) then [SL[j]] else [] := by
            rw [List.take_succ_eq_append_getElem hlt, List.filter_append]
            cases h : decide (SL[j].head = ⟨ho, hn⟩) <;> simp [h]
          have HFT := Lib.hid hft
          have hfl : ((SL.take j).filter (fun x => decide (x.head = ⟨ho, hn⟩))).length ≤ 1000 := by
            have h := List.length_filter_le (fun x : St => decide (x.head = ⟨ho, hn⟩)) (SL.take j)
            rw [List.length_take] at h
            omega
          have HBr := Lib.hid hb
          clear hc hb hg hft
          generalize (SL.take j).filter (fun x => decide (x.head = ⟨ho, hn⟩)) = R at *
          generalize SL[j] = x at *
          obtain ⟨k2, ⟨ho2, hn2⟩, wh2, ⟨ao2, an2⟩, ⟨bo2, bn2⟩, v2⟩ := x
          dsimp only at HFT a0 a1 a2 a3 a4 a5 a6 a7 a8
          have hq := fun w => SynE.eqR ho2 hn2 ho hn w
          generalize decide ((⟨ho2, hn2⟩ : Rl) = ⟨ho, hn⟩) = d at *
          have hbY := below_alloc wr (.cells #[.int .i64 k2, .string ho2, .string hn2, .string wh2, .string ao2, .string an2, .string bo2, .string bn2, .string v2] 26)
          have hY := heap_alloc_new wr (.cells #[.int .i64 k2, .string ho2, .string hn2, .string wh2, .string ao2, .string an2, .string bo2, .string bn2, .string v2] 26)
          have HBY := Lib.hid (nx HBr.out hbY)
          have HY := Lib.hid hY
          have HO := Lib.hid (SynDA.own_keep hown.out hbY)
          have hz : (wr.alloc (.cells #[.int .i64 k2, .string ho2, .string hn2, .string wh2, .string ao2, .string an2, .string bo2, .string bn2, .string v2] 26)).heap.size = wr.heap.size + 1 := by simp
          have hzz := HBr.out.size
          have xr := HD.out _ (nx HB3.out (nx HB6.out HBY.out))
          clear hbY hY
          go_upto_region 13 with fail
          obtain ⟨bx, hbx⟩ : ∃ bx, wr.heap.size = bx := ⟨_, rfl⟩
          rw [hbx] at HY hz hzz
          simp only [hbx] at ⊢
          generalize wr.alloc (.cells #[.int .i64 k2, .string ho2, .string hn2, .string wh2, .string ao2, .string an2, .string bo2, .string bn2, .string v2] 26) = wy at *
          have cy := fun o => Lib.cell_of_heap HY.out o
          clear a0 a1 a2 a3 a4 a5 a6 a7 a8 hown hbx
          cases d with
          | false =>
            go_wp2_with fail
            go_roundw
            case rel => exact ⟨j + 1, by omega, by go_num, by rw [HFT.out]; simpa using HO, HBY.out⟩
            case measure => simp [intOf]; omega
          | true =>
            have hbZ := below_alloc wy (.cells #[.int .i64 k2, .string ho2, .string hn2, .string wh2, .string ao2, .string an2, .string bo2, .string bn2, .string v2] 26)
            have HBZ := Lib.hid (nx HBY.out hbZ)
            have hownW := SynDA.own_keep HO.out hbZ
            have zW := HBZ.out.size
            have H1 := Lib.hid (PolK.src_new (X := wy) rfl [.int .i64 k2, .string ho2, .string hn2, .string wh2, .string ao2, .string an2, .string bo2, .string bn2, .string v2] 26)
            clear hbZ HO
            go_wp2_with (at_builtin; refine wpList_append_from _ rfl _ _ 22 rfl w6.heap.size 26 i0 zeroS.val 9 136 Try.underlying22 hi hz0 hz1 hz2 rfl (by decide) _ _ _ (by simp [Act.eval]) hownW (some ⟨wy.heap.size, 0, none⟩) 1 1 [.int .i64 k2, .string ho2, .string hn2, .string wh2, .string ao2, .string an2, .string bo2, .string bn2, .string v2] (by simp [Act.eval]) rfl (fun h => by cases h) H1.out (fun u hu => by simp at hu; rcases hu with rfl | rfl | rfl | rfl | rfl | rfl | rfl | rfl | rfl <;> rfl) (by unfold maxLen; omega) (by omega) zW ?_)
            intro v3 wz hown3 hgrow
            have hb3 := Lib.hid (HBZ.out.grown hgrow zW (fun k hk => (hownW.lt k hk).1))
            have HO3 : Hid (wz.ownsRow w6.heap.size 26 9 v3 ((SL.take (j + 1)).filter fun x => decide (x.head = ⟨ho, hn⟩)).length (stCells ((SL.take (j + 1)).filter fun x => decide (x.head = ⟨ho, hn⟩)))) := Lib.hid (by
              rw [HFT.out, if_pos (by trivial), snoc_cells, List.length_append]
              exact hown3)
            clear hownW hgrow hown3 cy xr
            go_wp2_with fail
            go_roundw
            case rel => exact ⟨j + 1, by omega, by go_num, HO3, hb3.out⟩
            case measure => simp [intOf]; omega
        · have e1 : decide ((j : Int) < SL.length) = false := by simp; omega
          have hown2 := hown.out
          rw [List.take_of_length_le (by omega)] at hown2
          obtain ⟨A7, c7, rfl, h7⟩ := sg_own hown2
          have hla : (SL.filter fun x => decide (x.head = ⟨ho, hn⟩)).length ≤ 10000 := by
            have h := List.length_filter_le (fun x : St => decide (x.head = ⟨ho, hn⟩)) SL
            omega
          have hlm : (mi L M).length ≤ 10000 := by have := mi_len L M; omega
          have hlu : (sortL cmpS [] (L ++ M)).length ≤ 10000 := by have := sort_len (L ++ M); rw [List.length_append] at this; omega
          have HBr := Lib.hid (nx HB6.out hb)
          have H7 := Lib.hid (fun w' (hb : Below wr.heap.size wr w') => h7.below hb)
          clear hown hown2 h7 hb H6 HB6
          generalize (SL.filter fun x => decide (x.head = ⟨ho, hn⟩)) = AB at *
          generalize (ds && ar) = r7 at *
          generalize decide (L = M) = dm at *
          have KIs := Lib.hid (fun w' (hb : Below wr.heap.size wr w') => HIs.out w' (HW.out _ (nx HBr.out hb)) la)
          have KHs := Lib.hid (fun w' (hb : Below wr.heap.size wr w') => HHs.out w' (HW.out _ (nx HBr.out hb)) la)
          have KHr := Lib.hid (fun w' (hb : Below wr.heap.size wr w') => HHr.out w' (HW.out _ (nx HBr.out hb)) la)
          have KSm := Lib.hid (fun w' (hb : Below wr.heap.size wr w') => HSm.out w' (HW.out _ (nx HBr.out hb)) la lb)
          have KSr := Lib.hid (fun w' (hb : Below wr.heap.size wr w') => HSr.out w' (HW.out _ (nx HBr.out hb)) la lb)
          have HK : Hid (∀ w', Below wr.heap.size wr w' → Below wr.heap.size wr w' ∧ ∀ o, w'.cell? ⟨b0, o, none⟩ = (#[.int .i64 k1, .string ho, .string hn, .string wh, .string ao, .string an, .string bo, .string bn, .string v1] : Array Value)[o]?) := Lib.hid (fun w' hb => ⟨hb, HD.out w' (nx HB3.out (nx HBr.out hb))⟩)
          have HS := Lib.hid (HK.out _ ((Below.refl wr.heap.size wr).drew))
          have xr := HD.out wr (nx HB3.out HBr.out)
          clear HIs HHs HHr HSm HSr
          go_upto_region 16 with fail
          clear e1
          go_cut [81] from 60 to 80 (fun v wx => v = .bool false ∧ Hid (Below wr.heap.size wr wx))
          case first =>
            clear HUn HMi HOf HAb H7 HNA HNB hi hz0 hz1 hz2 HLv
            go_region_held3 (fun w' => Below wr.heap.size wr w' ∧ ∀ o, w'.cell? ⟨b0, o, none⟩ = (#[.int .i64 k1, .string ho, .string hn, .string wh, .string ao, .string an, .string bo, .string bn, .string v1] : Array Value)[o]?)
              (first | with_reducible assumption | exact HS.out | exact HK.out _ (nx (by apply And.left; with_reducible assumption) (by with_reducible assumption)))
              (first | ((with_reducible refine (KIs.out _ (by apply And.left; with_reducible assumption)).mono ?_); rintro e wa ⟨rfl, hba⟩)
                     | ((with_reducible refine (KHs.out _ (by apply And.left; with_reducible assumption)).mono ?_); rintro e wb ⟨rfl, hbb⟩)
                     | ((with_reducible refine (KHr.out _ (by apply And.left; with_reducible assumption)).mono ?_); rintro e wd ⟨rfl, hbd⟩)
                     | ((with_reducible refine (KSm.out _ (by apply And.left; with_reducible assumption)).mono ?_); rintro e we ⟨rfl, hbe⟩)
                     | ((with_reducible refine (KSr.out _ (by apply And.left; with_reducible assumption)).mono ?_); rintro e wf ⟨rfl, hbf⟩))
            all_goals rename_i hHeld
            all_goals (have HE := Lib.hid hHeld.1; clear hHeld; go_wp2_with fail; go_meet)
            all_goals
              case rel => exact ⟨by simp, HE⟩
          case rest =>
            obtain ⟨rfl, hcut⟩ := hcut
            have HBc := Lib.hid (nx HBr.out hcut.out)
            have H7c := Lib.hid (fun w' (hb : Below wc.heap.size wc w') => H7.out w' (nx hcut.out hb))
            clear hcut xr KIs KHs KHr KSm KSr HK HS H7 HBr
            have xc := HD.out wc (nx HB3.out HBc.out)
            generalize hSU : sortL cmpS [] (L ++ M) = SU at *
            go_wp2_with fail
            refine (HUn.out wc (HW.out _ HBc.out) la lb).mono ?_
            rintro e wd ⟨vd, rfl, hod, hbd⟩
            obtain ⟨Ad, cd, rfl, hd⟩ := hod.form
            have HBd := Lib.hid (nx HBc.out hbd)
            have Hd := Lib.hid (fun w' (hb : Below wd.heap.size wd w') => hd.below hb)
            have H7d := Lib.hid (fun w' (hb : Below wd.heap.size wd w') => H7c.out w' (nx hbd hb))
            have hE := SynC.own_empty wd 26 9
            have hbE := below_alloc wd (.cells #[] 26)
            have H1 := Lib.hid (sg_cells (HA.out _ (HW.out _ (nx HBd.out hbE))))
            have hzE := hbE.size
            clear hod hbd hd xc H7c HUn HBc
            go_wp2_with (at_builtin; refine wpList_append_from _ rfl _ _ 22 rfl wd.heap.size 26 i0 zeroS.val 9 136 Try.underlying22 hi hz0 hz1 hz2 rfl (by decide) _ _ _ (by simp [Act.eval]) hE A L.length ca (stCells L) (by simp [Act.eval]) (stCells_len L) HNA.out H1.out (stCells_one L) (by unfold maxLen; omega) (by omega) hzE ?_)
            intro v5 we hown5 hg5
            have hbe := PolLi.below_grown hbE hE hg5 (Nat.le_refl _) hzE
            have H2 := Lib.hid (sg_cells (HB.out _ (HW.out _ (nx HBd.out hbe))))
            have hze := hbe.size
            have HBe := Lib.hid hbe
            clear hE hbE H1 hg5 hbe
            go_wp2_with (at_builtin; refine wpList_append_from _ rfl _ _ 22 rfl wd.heap.size 26 i0 zeroS.val 9 136 Try.underlying22 hi hz0 hz1 hz2 rfl (by decide) _ _ _ (by simp [Act.eval]) hown5 B M.length cb (stCells M) (by simp [Act.eval]) (stCells_len M) HNB.out H2.out (stCells_one M) (by unfold maxLen; omega) (by omega) hze ?_)
            intro v6 wf hown6 hg6
            have hbf := PolLi.below_grown HBe.out hown5 hg6 (Nat.le_refl _) hze
            obtain ⟨A9, c9, hv6, h9⟩ : ∃ A9 c9, v6 = .slice A9 (L ++ M).length c9 ∧ SG wf A9 (L ++ M) := sg_own (B := wd.heap.size) (by
              rw [List.length_append, stCells_app]
              first | exact hown6 | simpa using hown6)
            rw [List.length_append] at hv6
            subst hv6
            have HBf := Lib.hid hbf
            have KSo := Lib.hid (refSort A9 c9 (L ++ M) wf (by rw [List.length_append]; omega) h9)
            rw [hSU, List.length_append] at KSo
            unfold RowPost at KSo
            clear hown5 hown6 hg6 H2 hbf h9 hzE hze HBe
            go_wp2_with fail
            refine KSo.out.mono ?_
            rintro e wg ⟨A10, c10, rfl, h10, hb10⟩
            have HBg := Lib.hid (nx HBf.out hb10)
            have KS1 := Lib.hid (sameT SU hlu wg Ad cd A10 c10 (Hd.out _ HBg.out) h10)
            clear h10 hb10 KSo HBf Hd
            go_wp2_with fail
            refine KS1.out.mono ?_
            rintro e wh1 ⟨rfl, hbh⟩
            have HBh := Lib.hid (nx HBg.out hbh)
            clear hbh KS1 HBg
            go_wp2_with fail
            refine (HMi.out wh1 (HW.out _ (nx HBd.out HBh.out)) la lb).mono ?_
            rintro e wi ⟨vi, rfl, hoi, hbi⟩
            obtain ⟨Ai, ci, rfl, hsi⟩ := hoi.form
            have HBi := Lib.hid (nx HBh.out hbi)
            have Hi := Lib.hid (fun w' (hb : Below wi.heap.size wi w') => hsi.below hb)
            clear hoi hbi hsi HMi HBh
            go_wp2_with fail
            refine (HOf.out wi (HW.out _ (nx HBd.out HBi.out)) la lb).mono ?_
            rintro e wj ⟨Aj, cj, rfl, hsj, hbj⟩
            have HBj := Lib.hid (nx HBi.out hbj)
            have KS2 := Lib.hid (sameT (mi L M) hlm wj Ai ci Aj cj (Hi.out _ hbj) hsj)
            clear hsj hbj HOf Hi HBi
            go_wp2_with fail
            refine KS2.out.mono ?_
            rintro e wl ⟨rfl, hbl⟩
            have HBl := Lib.hid (nx HBj.out hbl)
            have xl := HD.out wl (nx HB3.out (nx HBd.out HBl.out))
            clear hbl KS2 HBj
            go_wp2_with fail
            refine (HAb.out wl (HW.out _ (nx HBd.out HBl.out)) la).mono ?_
            rintro e wm ⟨vm, rfl, hom, hbm⟩
            obtain ⟨Am, cm, rfl, hsm⟩ := hom.form
            have HBm := Lib.hid (nx HBl.out hbm)
            have KS3 := Lib.hid (sameT AB hla wm Am cm A7 c7 hsm (H7d.out _ HBm.out))
            clear hom hbm hsm HAb xl HBl
            go_wp2_with fail
            refine KS3.out.mono ?_
            rintro e wn ⟨rfl, hbn⟩
            have HBn := Lib.hid (nx HBm.out hbn)
            clear hbn KS3 HBm
            go_wp2_with fail
            refine (HLv.out _).mono ?_
            rintro e wo ⟨rfl, hbo⟩
            have HF := Lib.hid (HW.out _ (nx HBd.out (nx HBn.out hbo)))
            clear hbo
            go_wp2_with fail
            go_ret
            exact ⟨rfl, HF.out⟩
theorem walk (A : Option Addr) (ca : Nat) (L : List St) (B : Option Addr) (cb : Nat) (M : List St) (s : St) (w : World) (hL : L.length ≤ maxLen) (fL : ∀ s ∈ L, s.fit) (hA : SG w A L) (hM : M.length ≤ maxLen) (fM : ∀ s ∈ M, s.fit) (hB : SG w B M) (fs : s.fit) :
    Calls Try.prog 3 #[.slice A L.length ca, .slice B M.length cb, s.val] w fun e w' => e = .returned (.bool true) ∧ Below w.heap.size w w' := walk0 A B ca cb L M s w hL hM fL fM fs hA hB
end Go.Proofs.Ytpjacngbkohmdaa.StM
/- Rows of the call's own that lie beside one another: what an append leaves of the others. -/
namespace Go.Proofs.Ytpjacngbkohmdaa.PolO
set_option linter.unusedVariables false
set_option linter.unusedSimpArgs false
open Go.RowKit Go.Sort Go.Lib Go.Proofs Go.Proofs.Ytpjacngbkohmdaa.Plain Go.Proofs.Ytpjacngbkohmdaa.SynP Go.Proofs.Ytpjacngbkohmdaa.TabP Go.Proofs.Ytpjacngbkohmdaa.Tab1 Go.Proofs.Ytpjacngbkohmdaa.Grown Go.Proofs.Ytpjacngbkohmdaa.SynC Go.Proofs.Ytpjacngbkohmdaa.SynD2 Go.Proofs.Ytpjacngbkohmdaa.SynJ Go.Proofs.Ytpjacngbkohmdaa.QryP Go.Proofs.Ytpjacngbkohmdaa.PolA Go.Proofs.Ytpjacngbkohmdaa.PolE Go.Proofs.Ytpjacngbkohmdaa.PolG Go.Proofs.Ytpjacngbkohmdaa.PolK
set_option linter.unusedVariables false
set_option linter.unusedSimpArgs false
/-- The block of a row that was appended to: the old one, or one that is new. -/
def Moves (w : World) (b b' : Option Nat) : Prop := b' = b ∨ ∃ g, b' = some g ∧ w.heap.size ≤ g
section
variable {P : Program} (w : World)
theorem wpList_append_at {ops : Array Oper} {rest : List Oper} {o : Oper} {a : Act} {Q : Exit → Act → World → Prop} (hgd : o.guard = none) (s x : Operand) (t : TypeId)
    (ho : o.op = .call { callee := .builtin .append, args := #[s, x], argTypes := #[t, t] })
    (base : Nat) (e : TypeId) (i : TypeInfo) (z : Value) (size bytes : Nat) (ht : P.underlying t = some (.slice e)) (hi : P.info? e = some i) (hz : i.zero = some z)
    (hsize : i.size = size) (hby : i.bytes = bytes) (hzs : z.cells.size = size) (hsz : 0 < size) (v : Value) (n : Nat) (xs : List Value) (hs : a.eval s = v) (hown : w.ownsRow base e size v n xs)
    (ad : Addr) (m c : Nat) (news : List Value) (hx : a.eval x = .slice (some ad) m c) (hlen : news.length = m * size) (hA : ∀ ad', some ad = some ad' → ∀ j u, news[j]? = some u → w.cell? (ad'.add j) = some u) (h1 : ∀ u ∈ news, u.oneCell' = true)
    (h63 : n + m ≤ maxLen) (hbytes : (n + m) * bytes ≤ 140737488355328) (hbase : base ≤ w.heap.size)
    (h : ∀ v' w', w'.ownsRow base e size v' (n + m) (xs ++ news) → w.grownBy w' v.ownBlock → Moves w v.ownBlock v'.ownBlock → wpList P ops Q rest (a.put o.dst v') w') : wpList P ops Q (o :: rest) a w := by
  obtain ⟨v', w', hrun, h2, h3, _, h5⟩ := run_append_own_at (P := P) w base t o.type e i z size bytes ht hi hz hsize hby hzs hsz v n xs hown ad m c news hlen (hA ad rfl) h1 h63 hbytes hbase
  refine Lib.wpList_append_run w hgd s x t t ho v _ hs hx v' w' hrun (h v' w' h2 h3 ?_)
  rcases h5 with h | h
  · exact .inl h
  · exact .inr ⟨_, h, Nat.le_refl _⟩
end
/-- Beside one row all that lies stays. -/
theorem beside_own {w w' : World} {b : Option Nat} {base : Nat} {e : TypeId} {size : Nat} {v : Value} {n : Nat} {xs : List Value} (h : w.ownsRow base e size v n xs) (hg : w.grownBy w' b) (hd : ∀ g, v.ownBlock = some g → b ≠ some g) : w'.ownsRow base e size v n xs := by
  refine ⟨h.1, ?_⟩
  rcases h.2 with h0 | ⟨g, cap, cur, rfl, hB, hh, hc⟩
  · exact .inl h0
  · refine .inr ⟨g, cap, cur, rfl, hB, ?_, hc⟩
    have hlt : g < w.heap.size := (Array.getElem?_eq_some_iff.1 hh).1
    rw [hg.block g hlt (fun e => hd g rfl e.symm)]
    exact hh
theorem grown_trans {w w1 w2 : World} {b : Option Nat} (h : w.grownBy w1 b) (k : w1.grownBy w2 b) : w.grownBy w2 b :=
  ⟨k.os.trans h.os, k.tape.trans h.tape, k.output.trans h.output, Nat.le_trans h.size k.size, fun j hj hb => (k.block j (Nat.lt_of_lt_of_le hj h.size) hb).trans (h.block j hj hb)⟩
theorem grown_below {w w1 : World} {b : Option Nat} (h : Below w.heap.size w w1) : w.grownBy w1 b :=
  ⟨h.os, h.tape, h.output, h.size, fun j hj _ => h.block j hj⟩
theorem below_of_grown {w w1 : World} {b : Option Nat} {B : Nat} (h : w.grownBy w1 b) (hb : ∀ g, b = some g → B ≤ g) (hB : B ≤ w.heap.size) : Below B w w1 :=
  (Below.refl B w).grown h hB hb
end Go.Proofs.Ytpjacngbkohmdaa.PolO
/- All roles that a policy names: the document's Roles, by contract. -/
namespace Go.Proofs.Ytpjacngbkohmdaa.RefRo
set_option linter.unusedVariables false
set_option linter.unusedSimpArgs false
open Go.RowKit Go.Sort Go.Lib Go.Proofs Go.Proofs.Ytpjacngbkohmdaa.Plain Go.Proofs.Ytpjacngbkohmdaa.SynP Go.Proofs.Ytpjacngbkohmdaa.TabP Go.Proofs.Ytpjacngbkohmdaa.Tab1 Go.Proofs.Ytpjacngbkohmdaa.Grown Go.Proofs.Ytpjacngbkohmdaa.SynC Go.Proofs.Ytpjacngbkohmdaa.SynJ Go.Proofs.Ytpjacngbkohmdaa.QryP Go.Proofs.Ytpjacngbkohmdaa.PolA Go.Proofs.Ytpjacngbkohmdaa.PolE Go.Proofs.Ytpjacngbkohmdaa.PolG Go.Proofs.Ytpjacngbkohmdaa.PolO
set_option linter.unusedVariables false
set_option linter.unusedSimpArgs false
def snoc (R : List Rl) (r : Rl) : List Rl := R ++ [r]
def cat (R L : List Rl) (k : Nat) : List Rl := R ++ L.take k
def catQ (R : List Rl) (L : List Qy) (k : Nat) : List Rl := R ++ rolesA L k
theorem snoc_len (R : List Rl) (r : Rl) : (snoc R r).length = R.length + 1 := by simp [snoc]
theorem cat_len (R L : List Rl) (k : Nat) : (cat R L k).length ≤ R.length + L.length := by simp [cat]; omega
theorem cat_succ (R L : List Rl) (k : Nat) (h : k < L.length) : cat R L (k + 1) = snoc (cat R L k) L[k] := by unfold cat snoc; rw [List.take_succ_eq_append_getElem h, List.append_assoc]
theorem catQ_len (R : List Rl) (L : List Qy) (k : Nat) : (catQ R L k).length ≤ R.length + k * 2 := by unfold catQ; have := rolesA_len L k; simp; omega
def rolesR (p : Py) : List Rl := rolesS p.stmts p.stmts.length ++ p.grow ++ p.shrink ++ rolesA p.asks p.asks.length
/-- No block of the row is the block D. -/
def Apart (v : Value) (D : Nat) : Prop := ∀ g, v.ownBlock = some g → g ≠ D
theorem Apart.moves {w : World} {v v' : Value} {D : Nat} (h : Apart v D) (hm : Moves w v.ownBlock v'.ownBlock) (hD : D < w.heap.size) : Apart v' D := fun g e => by
  rcases hm with hm | ⟨g', hm, hg⟩
  · exact h g (hm ▸ e)
  · rw [e] at hm; injection hm with hm; omega
theorem Apart.of_own {w : World} {B n : Nat} {e : TypeId} {k : Nat} {v : Value} {xs : List Value} {D : Nat} (h : w.ownsRow B e k v n xs) (hD : w.heap.size ≤ D) : Apart v D := fun g hg => by
  have := (h.lt g hg).2; omega
theorem kept {w w' : World} {v : Value} {D o : Nat} (hg : w.grownBy w' v.ownBlock) (ha : Apart v D) (hD : D < w.heap.size) : w'.cell? ⟨D, o, none⟩ = w.cell? ⟨D, o, none⟩ := by
  have h := hg.block D hD (fun e => ha D e.symm rfl)
  unfold World.cell?
  rw [h]
section
variable {w : World}
set_option maxRecDepth 100000 in
theorem wp_app1 {ops : Array Oper} {rest : List Oper} {o : Oper} {a : Act} {Q : Exit → Act → World → Prop} (hgd : o.guard = none) (s x : Operand)
    (ho : o.op = .call { callee := .builtin .append, args := #[s, x], argTypes := #[37, 37] })
    (B : Nat) (v : Value) (R : List Rl) (hs : a.eval s = v) (hown : w.ownsRow B 24 2 v R.length (rcells R)) (g : Nat) (r : Rl) (hx : a.eval x = .slice (some ⟨g, 0, none⟩) 1 1)
    (hc : ∀ j u, (Rl.cells r)[j]? = some u → w.cell? ⟨g, j, none⟩ = some u) (hR : R.length ≤ 100000) (hB : B ≤ w.heap.size)
    (h : ∀ v' w', w'.ownsRow B 24 2 v' (snoc R r).length (rcells (snoc R r)) → w.grownBy w' v.ownBlock → Moves w v.ownBlock v'.ownBlock → wpList Try.prog ops Q rest (a.put o.dst v') w') : wpList Try.prog ops Q (o :: rest) a w := by
  obtain ⟨i0, hi, hz0, hz1, hz2⟩ := info_parts infoRole
  refine wpList_append_at w hgd s x 37 ho B 24 i0 (.agg #[.string ⟨#[]⟩, .string ⟨#[]⟩]) 2 32 Try.underlying37 hi hz0 hz1 hz2 rfl (by decide) v R.length (rcells R) hs hown ⟨g, 0, none⟩ 1 1 (Rl.cells r) hx rfl ?_ ?_ (by unfold maxLen; omega) (by omega) hB ?_
  · intro ad e j u hu
    injection e with e; subst e
    rw [add_off, Nat.zero_add]; exact hc j u hu
  · intro u hu
    simp [Rl.cells] at hu
    rcases hu with rfl | rfl <;> rfl
  · intro v' w' h1 h2 h3
    refine h v' w' ?_ h2 h3
    have e : rcells (snoc R r) = rcells R ++ Rl.cells r := by unfold snoc; rw [rcells_app]; simp [rcells, Rl.cells]
    rw [e, snoc_len]; exact h1
end
theorem lit (X : World) (r : Rl) (n : Nat) (hn : X.heap.size = n) : ∀ j u, (Rl.cells r)[j]? = some u → (X.alloc (.cells #[.string r.owner, .string r.name] 24)).cell? ⟨n, j, none⟩ = some u := fun j u hu => by
  subst hn
  rw [Lib.cell_of_heap (heap_alloc_new X _), ← hu]
  show ([Value.string r.owner, Value.string r.name].toArray)[j]? = _
  rw [List.getElem?_toArray]; rfl
theorem first_cell (w : World) (C : Array Value) (t : TypeId) (o : Obj) (j : Nat) : ((w.alloc (.cells C t)).alloc o).cell? ⟨w.heap.size, j, none⟩ = C[j]? := by
  rw [World.cell?_alloc_past _ _ _ (by simp), Lib.cell_of_heap (heap_alloc_new w _)]
theorem grown_low {w w' : World} {B n : Nat} {v : Value} {xs : List Value} {e : TypeId} {k : Nat} {w0 : World} (hb : Below B w0 w) (ho : w.ownsRow B e k v n xs) (hg : w.grownBy w' v.ownBlock) (hB : B ≤ w.heap.size) : Below B w0 w' :=
  hb.grown hg hB (fun j hj => (ho.lt j hj).1)
set_option maxHeartbeats 2000000 in
set_option maxRecDepth 100000 in
/-- The loops over a row of roles and what is left behind, told once: after the row. -/
theorem rolesRef (p : Py) (A1 A2 A3 A4 : Option Addr) (c1 c2 c3 c4 : Nat) (w : World) (hf : p.fit) (hp : PG w A1 A2 A3 A4 p) : Calls Try.prog 86 #[p.val A1 A2 A3 A4 c1 c2 c3 c4] w fun e w' => ∃ A c, e = .returned (.slice A (rolesR p).length c) ∧ RAt w' A (rolesR p) ∧ Below w.heap.size w w' := by
  obtain ⟨S, G, H, Q⟩ := p
  unfold rolesR
  have HP := Lib.hid hp
  obtain ⟨n1, n2, n3, n4, _, _, _, _, _⟩ := hf
  simp only at n1 n2 n3 n4
  clear hp
  show Calls _ _ #[.agg #[.slice A1 S.length c1, .slice A2 G.length c2, .slice A3 H.length c3, .slice A4 Q.length c4]] _ _
  simp only
  have hcP := box_cell (Below.refl (w.heap.size + 1) (w.alloc (.cells #[.slice A1 S.length c1, .slice A2 G.length c2, .slice A3 H.length c3, .slice A4 Q.length c4] 40)))
  go_enter Try.func86, Try.ntmps86
  go_wp2_with fail
  clear hcP
  go_loopw [3, 15] (fun l i wx => ∃ (k : Nat) (v : Value), k ≤ S.length ∧ l = v ∧ i = .int .i64 k ∧ Hid (wx.ownsRow (w.heap.size + 1) 24 2 v (rolesS S k).length (rcells (rolesS S k))) ∧ Below (w.heap.size + 1) (w.alloc (.cells #[.slice A1 S.length c1, .slice A2 G.length c2, .slice A3 H.length c3, .slice A4 Q.length c4] 40)) wx) (fun _ i _ => S.length - (intOf i).toNat)
  case atStart => exact ⟨0, _, by omega, rfl, rfl, Lib.hid (by simpa [rolesS, rcells] using World.ownsRow_nil (w.alloc (.cells #[.slice A1 S.length c1, .slice A2 G.length c2, .slice A3 H.length c3, .slice A4 Q.length c4] 40)) (w.heap.size + 1) 24 2), Below.refl _ _⟩
  case round =>
    obtain ⟨k, v1, hk, rfl, rfl, hown, hbel⟩ := hrel
    have zr : w.heap.size + 1 ≤ wr.heap.size := by have := hbel.size; simpa using this
    have hlk := rolesS_len S k
    by_cases hlt : k < S.length
    · have d1 : decide ((k : Int) < S.length) = true := by simp; omega
      have p1 : (0 : Int) ≤ k := by omega
      have p2 : (k : Int) < S.length := by omega
      have hs := HP.out.s.below (low hbel)
      obtain ⟨g, o, e1, hg, hc⟩ := hs (by show 0 < S.length; omega)
      obtain rfl := e1
      obtain ⟨a0, a1, a2, a3, a4, a5, a6, a7, a8⟩ := hc k hlt
      have Hs := rolesS_succ hlt
      simp only at Hs a0 a1 a2 a3 a4 a5 a6 a7 a8
      generalize S[k] = s at Hs a0 a1 a2 a3 a4 a5 a6 a7 a8
      obtain ⟨k1, ⟨ho, hn⟩, wh, ⟨ao, an⟩, ⟨bo, bn⟩, via⟩ := s
      have HS := Lib.hid Hs
      clear hs hc Hs
      simp only at a0 a1 a2 a3 a4 a5 a6 a7 a8
      have hb1 : Below wr.heap.size wr ((wr.alloc (.cells #[.int .i64 k1, .string ho, .string hn, .string wh, .string ao, .string an, .string bo, .string bn, .string via] 26)).alloc (.cells #[.string ho, .string hn] 24)) := ((Below.refl _ wr).alloc (Nat.le_refl _) _).alloc (by simp) _
      have hap := Apart.of_own hown.out (Nat.le_refl wr.heap.size)
      have hownX := own_at hown.out hb1
      have hbX := hbel.trans (hb1.mono zr)
      have hL1 := lit (wr.alloc (.cells #[.int .i64 k1, .string ho, .string hn, .string wh, .string ao, .string an, .string bo, .string bn, .string via] 26)) ⟨ho, hn⟩ (wr.heap.size + 1) (by simp)
      have HL1 := Lib.hid hL1
      have HX := Lib.hid hownX
      have HBX := Lib.hid hbX
      clear hown hbel hb1 hL1 hownX hbX
      go_wp2_with (at_builtin; refine wp_app1 rfl _ _ rfl (w.heap.size + 1) _ (rolesS S k) rfl HX.out _ ⟨ho, hn⟩ rfl HL1.out (by omega) (by simp; omega) ?_)
      intro v2 w3 hown3 hg3 hm3
      have hap3 := hap.moves hm3 (by simp; omega)
      have hD3 : wr.heap.size < w3.heap.size := by have := hg3.size; simp only [World.size_alloc] at this; omega
      have hB3 := grown_low HBX.out HX.out hg3 (by simp; omega)
      have f : ∀ o u, (#[.int .i64 k1, .string ho, .string hn, .string wh, .string ao, .string an, .string bo, .string bn, .string via] : Array Value)[o]? = some u → w3.cell? ⟨wr.heap.size, o, none⟩ = some u := fun o u hu => by
        rw [kept hg3 hap (by simp; omega), first_cell]; exact hu
      have f0 := f 0 _ rfl
      have f4 := f 4 _ rfl
      have f5 := f 5 _ rfl
      have f6 := f 6 _ rfl
      have f7 := f 7 _ rfl
      have HO3 := Lib.hid hown3
      have HB3 := Lib.hid hB3
      clear hown3 hg3 hm3 hap HX HBX HL1 f hB3
      by_cases hk : k1 = 2 ∨ k1 = 3
      · have HF1 : Hid (rolesS S (k + 1) = snoc (snoc (rolesS S k) ⟨ho, hn⟩) ⟨ao, an⟩) := Lib.hid (by rw [HS.out]; unfold rolesL snoc; rw [if_pos hk]; simp)
        have hd : decide ((2 : Int) ≤ k1) = true := by rcases hk with rfl | rfl <;> rfl
        have hd2 : decide (k1 ≤ (4 : Int)) = true := by rcases hk with rfl | rfl <;> rfl
        have hd3 : (k1 == 4) = false := by rcases hk with rfl | rfl <;> rfl
        clear hk HS
        have hb4 : Below w3.heap.size w3 (w3.alloc (.cells #[.string ao, .string an] 24)) := (Below.refl _ _).alloc (Nat.le_refl _) _
        have zr3 : w.heap.size + 1 ≤ w3.heap.size := by omega
        have HO4 := Lib.hid (own_at HO3.out hb4)
        have HB4 := Lib.hid (HB3.out.trans (hb4.mono zr3))
        have HL4 := Lib.hid (lit w3 ⟨ao, an⟩ w3.heap.size rfl)
        have hl4 : (snoc (rolesS S k) ⟨ho, hn⟩).length ≤ 100000 := by rw [snoc_len]; omega
        clear hb4
        go_wp2_with (at_builtin; refine wp_app1 rfl _ _ rfl (w.heap.size + 1) _ (snoc (rolesS S k) ⟨ho, hn⟩) rfl HO4.out _ ⟨ao, an⟩ rfl HL4.out hl4 (by simp; omega) ?_)
        intro v4 w5 hown5 hg5 hm5
        have g0 := (kept (o := 0) hg5 hap3 (by simp; omega)).trans ((World.cell?_alloc_past _ _ _ hD3).trans f0)
        have HF := Lib.hid hown5
        have HFB := Lib.hid (grown_low HB4.out HO4.out hg5 (by simp; omega))
        rw [← HF1.out] at HF
        clear hown5 hg5 hm5 f0 f4 f5 f6 f7
        go_wp2_with fail
        go_roundw
        case rel => exact ⟨k + 1, _, by omega, rfl, by go_num, HF, HFB.out⟩
        case measure => simp [intOf]; omega
      · by_cases hk4 : k1 = 4
        · subst hk4
          have HF1 : Hid (rolesS S (k + 1) = snoc (snoc (snoc (rolesS S k) ⟨ho, hn⟩) ⟨ao, an⟩) ⟨bo, bn⟩) := Lib.hid (by rw [HS.out]; unfold rolesL snoc; simp)
          clear hk HS
          have hb4 : Below w3.heap.size w3 (w3.alloc (.cells #[.string ao, .string an] 24)) := (Below.refl _ _).alloc (Nat.le_refl _) _
          have zr3 : w.heap.size + 1 ≤ w3.heap.size := by omega
          have HO4 := Lib.hid (own_at HO3.out hb4)
          have HB4 := Lib.hid (HB3.out.trans (hb4.mono zr3))
          have HL4 := Lib.hid (lit w3 ⟨ao, an⟩ w3.heap.size rfl)
          have hl4 : (snoc (rolesS S k) ⟨ho, hn⟩).length ≤ 100000 := by rw [snoc_len]; omega
          clear hb4
          go_wp2_with (at_builtin; refine wp_app1 rfl _ _ rfl (w.heap.size + 1) _ (snoc (rolesS S k) ⟨ho, hn⟩) rfl HO4.out _ ⟨ao, an⟩ rfl HL4.out hl4 (by simp; omega) ?_)
          intro v4 w5 hown5 hg5 hm5
          have g0 := (kept (o := 0) hg5 hap3 (by simp; omega)).trans ((World.cell?_alloc_past _ _ _ hD3).trans f0)
          have g6 := (kept (o := 6) hg5 hap3 (by simp; omega)).trans ((World.cell?_alloc_past _ _ _ hD3).trans f6)
          have g7 := (kept (o := 7) hg5 hap3 (by simp; omega)).trans ((World.cell?_alloc_past _ _ _ hD3).trans f7)
          have hB5 := grown_low HB4.out HO4.out hg5 (by simp; omega)
          have zr5 : w.heap.size + 1 ≤ w5.heap.size := by have := hg5.size; simp only [World.size_alloc] at this; omega
          have hb6 : Below w5.heap.size w5 (w5.alloc (.cells #[.string bo, .string bn] 24)) := (Below.refl _ _).alloc (Nat.le_refl _) _
          have HO6 := Lib.hid (own_at hown5 hb6)
          have HB6 := Lib.hid (hB5.trans (hb6.mono zr5))
          have HL6 := Lib.hid (lit w5 ⟨bo, bn⟩ w5.heap.size rfl)
          have hl6 : (snoc (snoc (rolesS S k) ⟨ho, hn⟩) ⟨ao, an⟩).length ≤ 100000 := by rw [snoc_len, snoc_len]; omega
          clear hown5 hg5 hm5 f0 f4 f5 f6 f7 hb6 hB5
          go_wp2_with (at_builtin; refine wp_app1 rfl _ _ rfl (w.heap.size + 1) _ (snoc (snoc (rolesS S k) ⟨ho, hn⟩) ⟨ao, an⟩) rfl HO6.out _ ⟨bo, bn⟩ rfl HL6.out hl6 (by simp; omega) ?_)
          intro v6 w7 hown7 hg7 hm7
          have HF := Lib.hid hown7
          have HFB := Lib.hid (grown_low HB6.out HO6.out hg7 (by simp; omega))
          rw [← HF1.out] at HF
          clear hown7 hg7 hm7 g0 g6 g7
          go_wp2_with fail
          go_roundw
          case rel => exact ⟨k + 1, _, by omega, rfl, by go_num, HF, HFB.out⟩
          case measure => simp [intOf]; omega
        · have HF1 : Hid (rolesS S (k + 1) = snoc (rolesS S k) ⟨ho, hn⟩) := Lib.hid (by rw [HS.out]; unfold rolesL snoc; rw [if_neg hk, if_neg hk4])
          have hd3 : (k1 == 4) = false := by simpa using hk4
          have HF := Lib.hid HO3.out
          rw [← HF1.out] at HF
          by_cases hk2 : (2 : Int) ≤ k1
          · have hd : decide ((2 : Int) ≤ k1) = true := decide_eq_true hk2
            have hd2 : decide (k1 ≤ (4 : Int)) = false := decide_eq_false (by omega)
            clear hk HS hk2 hk4
            go_wp2_with fail
            go_roundw
            case rel => exact ⟨k + 1, _, by omega, rfl, by go_num, HF, HB3.out⟩
            case measure => simp [intOf]; omega
          · have hd : decide ((2 : Int) ≤ k1) = false := decide_eq_false hk2
            clear hk HS hk2 hk4
            go_wp2_with fail
            go_roundw
            case rel => exact ⟨k + 1, _, by omega, rfl, by go_num, HF, HB3.out⟩
            case measure => simp [intOf]; omega
    · have d1 : decide ((k : Int) < S.length) = false := by simp; omega
      have hkL : k = S.length := by omega
      subst hkL
      have hcP := box_cell hbel
      have hR : (rolesS S S.length).length ≤ 4000 := by have := rolesS_len S S.length; omega
      obtain ⟨R1, hRe⟩ : ∃ R, rolesS S S.length = R := ⟨_, rfl⟩
      have hown' := hown.out
      rw [hRe] at hown'
      rw [hRe] at hR
      have HR1 := Lib.hid hRe
      have HO := Lib.hid hown'
      have HB := Lib.hid hbel
      clear hRe hown hown' hbel
      go_wp2_with fail
      clear hcP
      go_loopw [3, 49] (fun l i wx => ∃ (k : Nat) (v : Value), k ≤ G.length ∧ l = v ∧ i = .int .i64 k ∧ Hid (wx.ownsRow (w.heap.size + 1) 24 2 v (cat R1 G k).length (rcells (cat R1 G k))) ∧ Below (w.heap.size + 1) (w.alloc (.cells #[.slice A1 S.length c1, .slice A2 G.length c2, .slice A3 H.length c3, .slice A4 Q.length c4] 40)) wx) (fun _ i _ => G.length - (intOf i).toNat)
      case atStart => exact ⟨0, _, by omega, rfl, rfl, Lib.hid (by have := HO.out; simpa [cat] using this), HB.out⟩
      case round =>
        clear HO HB
        obtain ⟨k, v1, hk, rfl, rfl, hown, hbel⟩ := hrel
        have zr : w.heap.size + 1 ≤ wr.heap.size := by have := hbel.size; simpa using this
        by_cases hlt : k < G.length
        · have d1 : decide ((k : Int) < G.length) = true := by simp; omega
          have p1 : (0 : Int) ≤ k := by omega
          have p2 : (k : Int) < G.length := by omega
          have hs := HP.out.g.below (low hbel)
          obtain ⟨g, o, e1, hg, hc⟩ := hs (by show 0 < G.length; omega)
          obtain rfl := e1
          obtain ⟨a0, a1⟩ := hc k hlt
          have Hs : cat R1 G (k + 1) = snoc (cat R1 G k) G[k] := cat_succ _ _ _ hlt
          simp only at Hs a0 a1
          generalize G[k] = s at Hs a0 a1
          obtain ⟨ho, hn⟩ := s
          have HS := Lib.hid Hs
          clear hs hc Hs
          simp only at a0 a1
          have hb1 : Below wr.heap.size wr ((wr.alloc (.cells #[.string ho, .string hn] 24)).alloc (.cells #[.string ho, .string hn] 24)) := ((Below.refl _ wr).alloc (Nat.le_refl _) _).alloc (by simp) _
          have HX := Lib.hid (own_at hown.out hb1)
          have HBX := Lib.hid (hbel.trans (hb1.mono zr))
          have HL1 := Lib.hid (lit (wr.alloc (.cells #[.string ho, .string hn] 24)) ⟨ho, hn⟩ (wr.heap.size + 1) (by simp))
          have hl : (cat R1 G k).length ≤ 100000 := by have := cat_len R1 G k; omega
          clear hown hbel hb1
          go_wp2_with (at_builtin; refine wp_app1 rfl _ _ rfl (w.heap.size + 1) _ (cat R1 G k) rfl HX.out _ ⟨ho, hn⟩ rfl HL1.out hl (by simp; omega) ?_)
          intro v2 w3 hown3 hg3 hm3
          have HF := Lib.hid hown3
          have HFB := Lib.hid (grown_low HBX.out HX.out hg3 (by simp; omega))
          rw [← HS.out] at HF
          clear hown3 hg3 hm3
          go_wp2_with fail
          go_roundw
          case rel => exact ⟨k + 1, _, by omega, rfl, by go_num, HF, HFB.out⟩
          case measure => simp [intOf]; omega
        · have d1 : decide ((k : Int) < G.length) = false := by simp; omega
          have hkL : k = G.length := by omega
          subst hkL
          have hcP := box_cell hbel
          have hR : (cat R1 G G.length).length ≤ 6000 := by have := cat_len R1 G G.length; omega
          obtain ⟨R2, hRe⟩ : ∃ R, cat R1 G G.length = R := ⟨_, rfl⟩
          have hown' := hown.out
          rw [hRe] at hown'
          rw [hRe] at hR
          have HR2 := Lib.hid hRe
          have HO := Lib.hid hown'
          have HB := Lib.hid hbel
          clear hRe hown hown' hbel
          go_wp2_with fail
          clear hcP
          go_loopw [3, 61] (fun l i wx => ∃ (k : Nat) (v : Value), k ≤ H.length ∧ l = v ∧ i = .int .i64 k ∧ Hid (wx.ownsRow (w.heap.size + 1) 24 2 v (cat R2 H k).length (rcells (cat R2 H k))) ∧ Below (w.heap.size + 1) (w.alloc (.cells #[.slice A1 S.length c1, .slice A2 G.length c2, .slice A3 H.length c3, .slice A4 Q.length c4] 40)) wx) (fun _ i _ => H.length - (intOf i).toNat)
          case atStart => exact ⟨0, _, by omega, rfl, rfl, Lib.hid (by have := HO.out; simpa [cat] using this), HB.out⟩
          case round =>
            clear HO HB
            obtain ⟨k, v1, hk, rfl, rfl, hown, hbel⟩ := hrel
            have zr : w.heap.size + 1 ≤ wr.heap.size := by have := hbel.size; simpa using this
            by_cases hlt : k < H.length
            · have d1 : decide ((k : Int) < H.length) = true := by simp; omega
              have p1 : (0 : Int) ≤ k := by omega
              have p2 : (k : Int) < H.length := by omega
              have hs := HP.out.h.below (low hbel)
              obtain ⟨g, o, e1, hg, hc⟩ := hs (by show 0 < H.length; omega)
              obtain rfl := e1
              obtain ⟨a0, a1⟩ := hc k hlt
              have Hs : cat R2 H (k + 1) = snoc (cat R2 H k) H[k] := cat_succ _ _ _ hlt
              simp only at Hs a0 a1
              generalize H[k] = s at Hs a0 a1
              obtain ⟨ho, hn⟩ := s
              have HS := Lib.hid Hs
              clear hs hc Hs
              simp only at a0 a1
              have hb1 : Below wr.heap.size wr ((wr.alloc (.cells #[.string ho, .string hn] 24)).alloc (.cells #[.string ho, .string hn] 24)) := ((Below.refl _ wr).alloc (Nat.le_refl _) _).alloc (by simp) _
              have HX := Lib.hid (own_at hown.out hb1)
              have HBX := Lib.hid (hbel.trans (hb1.mono zr))
              have HL1 := Lib.hid (lit (wr.alloc (.cells #[.string ho, .string hn] 24)) ⟨ho, hn⟩ (wr.heap.size + 1) (by simp))
              have hl : (cat R2 H k).length ≤ 100000 := by have := cat_len R2 H k; omega
              clear hown hbel hb1
              go_wp2_with (at_builtin; refine wp_app1 rfl _ _ rfl (w.heap.size + 1) _ (cat R2 H k) rfl HX.out _ ⟨ho, hn⟩ rfl HL1.out hl (by simp; omega) ?_)
              intro v2 w3 hown3 hg3 hm3
              have HF := Lib.hid hown3
              have HFB := Lib.hid (grown_low HBX.out HX.out hg3 (by simp; omega))
              rw [← HS.out] at HF
              clear hown3 hg3 hm3
              go_wp2_with fail
              go_roundw
              case rel => exact ⟨k + 1, _, by omega, rfl, by go_num, HF, HFB.out⟩
              case measure => simp [intOf]; omega
            · have d1 : decide ((k : Int) < H.length) = false := by simp; omega
              have hkL : k = H.length := by omega
              subst hkL
              have hcP := box_cell hbel
              have hR : (cat R2 H H.length).length ≤ 8000 := by have := cat_len R2 H H.length; omega
              obtain ⟨R3, hRe⟩ : ∃ R, cat R2 H H.length = R := ⟨_, rfl⟩
              have hown' := hown.out
              rw [hRe] at hown'
              rw [hRe] at hR
              have HR3 := Lib.hid hRe
              have HO := Lib.hid hown'
              have HB := Lib.hid hbel
              clear hRe hown hown' hbel
              go_wp2_with fail
              clear hcP
              go_loopw [3, 73] (fun l i wx => ∃ (k : Nat) (v : Value), k ≤ Q.length ∧ l = v ∧ i = .int .i64 k ∧ Hid (wx.ownsRow (w.heap.size + 1) 24 2 v (catQ R3 Q k).length (rcells (catQ R3 Q k))) ∧ Below (w.heap.size + 1) (w.alloc (.cells #[.slice A1 S.length c1, .slice A2 G.length c2, .slice A3 H.length c3, .slice A4 Q.length c4] 40)) wx) (fun _ i _ => Q.length - (intOf i).toNat)
              case atStart => exact ⟨0, _, by omega, rfl, rfl, Lib.hid (by have := HO.out; simpa [catQ, rolesA] using this), HB.out⟩
              case round =>
                clear HO HB
                obtain ⟨k, v1, hk, rfl, rfl, hown, hbel⟩ := hrel
                have zr : w.heap.size + 1 ≤ wr.heap.size := by have := hbel.size; simpa using this
                have hlk := catQ_len R3 Q k
                by_cases hlt : k < Q.length
                · have d1 : decide ((k : Int) < Q.length) = true := by simp; omega
                  have p1 : (0 : Int) ≤ k := by omega
                  have p2 : (k : Int) < Q.length := by omega
                  have hs := HP.out.q.below (low hbel)
                  obtain ⟨g, o, e1, hg, hc⟩ := hs (by show 0 < Q.length; omega)
                  obtain rfl := e1
                  obtain ⟨B, cB, a0, a1, a2, a3, a4, a5, _⟩ := hc k hlt
                  have Hs := rolesA_succ hlt
                  simp only at Hs a0 a1 a2 a3 a4 a5
                  generalize Q[k] = s at Hs a0 a1 a2 a3 a4 a5
                  obtain ⟨qk, ⟨ao, an⟩, ⟨bo, bn⟩, T⟩ := s
                  have HS := Lib.hid Hs
                  clear hs hc Hs
                  simp only at a0 a1 a2 a3 a4 a5
                  have hb1 : Below wr.heap.size wr ((wr.alloc (.cells #[.int .i64 qk, .string ao, .string an, .string bo, .string bn, .slice B T.length cB] 61)).alloc (.cells #[.string ao, .string an] 24)) := ((Below.refl _ wr).alloc (Nat.le_refl _) _).alloc (by simp) _
                  have hap := Apart.of_own hown.out (Nat.le_refl wr.heap.size)
                  have HX := Lib.hid (own_at hown.out hb1)
                  have HBX := Lib.hid (hbel.trans (hb1.mono zr))
                  have HL1 := Lib.hid (lit (wr.alloc (.cells #[.int .i64 qk, .string ao, .string an, .string bo, .string bn, .slice B T.length cB] 61)) ⟨ao, an⟩ (wr.heap.size + 1) (by simp))
                  have hl : (catQ R3 Q k).length ≤ 100000 := by omega
                  clear hown hbel hb1
                  go_wp2_with (at_builtin; refine wp_app1 rfl _ _ rfl (w.heap.size + 1) _ (catQ R3 Q k) rfl HX.out _ ⟨ao, an⟩ rfl HL1.out hl (by simp; omega) ?_)
                  intro v2 w3 hown3 hg3 hm3
                  have hap3 := hap.moves hm3 (by simp; omega)
                  have hD3 : wr.heap.size < w3.heap.size := by have := hg3.size; simp only [World.size_alloc] at this; omega
                  have f : ∀ o u, (#[.int .i64 qk, .string ao, .string an, .string bo, .string bn, .slice B T.length cB] : Array Value)[o]? = some u → w3.cell? ⟨wr.heap.size, o, none⟩ = some u := fun o u hu => by
                    rw [kept hg3 hap (by simp; omega), first_cell]; exact hu
                  have f0 := f 0 _ rfl
                  have f3 := f 3 _ rfl
                  have f4 := f 4 _ rfl
                  have HO3 := Lib.hid hown3
                  have HB3 := Lib.hid (grown_low HBX.out HX.out hg3 (by simp; omega))
                  clear hown3 hg3 hm3 hap HX HBX HL1 f
                  by_cases hq : qk = 5 ∨ qk = 6
                  · have HF1 : Hid (catQ R3 Q (k + 1) = snoc (snoc (catQ R3 Q k) ⟨ao, an⟩) ⟨bo, bn⟩) := Lib.hid (by unfold catQ; rw [HS.out]; unfold QryO.rolesQ hasBk snoc; rw [if_pos (by simpa using hq)]; simp)
                    have hb4 : Below w3.heap.size w3 (w3.alloc (.cells #[.string bo, .string bn] 24)) := (Below.refl _ _).alloc (Nat.le_refl _) _
                    have zr3 : w.heap.size + 1 ≤ w3.heap.size := by omega
                    have HO4 := Lib.hid (own_at HO3.out hb4)
                    have HB4 := Lib.hid (HB3.out.trans (hb4.mono zr3))
                    have HL4 := Lib.hid (lit w3 ⟨bo, bn⟩ w3.heap.size rfl)
                    have hl4 : (snoc (catQ R3 Q k) ⟨ao, an⟩).length ≤ 100000 := by rw [snoc_len]; omega
                    clear hb4 HS
                    rcases hq with rfl | rfl
                    all_goals
                      go_wp2_with (at_builtin; refine wp_app1 rfl _ _ rfl (w.heap.size + 1) _ (snoc (catQ R3 Q k) ⟨ao, an⟩) rfl HO4.out _ ⟨bo, bn⟩ rfl HL4.out hl4 (by simp; omega) ?_)
                      intro v4 w5 hown5 hg5 hm5
                      have HF := Lib.hid hown5
                      have HFB := Lib.hid (grown_low HB4.out HO4.out hg5 (by simp; omega))
                      rw [← HF1.out] at HF
                      clear hown5 hg5 hm5 f0 f3 f4
                      go_wp2_with fail
                      go_roundw
                      case rel => exact ⟨k + 1, _, by omega, rfl, by go_num, HF, HFB.out⟩
                      case measure => simp [intOf]; omega
                  · have HF1 : Hid (catQ R3 Q (k + 1) = snoc (catQ R3 Q k) ⟨ao, an⟩) := Lib.hid (by unfold catQ; rw [HS.out]; unfold QryO.rolesQ hasBk snoc; rw [if_neg (by simpa using hq)]; simp)
                    have hd5 : (qk == 5) = false := by simp; omega
                    have hd6 : (qk == 6) = false := by simp; omega
                    have HF := Lib.hid HO3.out
                    rw [← HF1.out] at HF
                    clear hq HS
                    go_wp2_with fail
                    go_roundw
                    case rel => exact ⟨k + 1, _, by omega, rfl, by go_num, HF, HB3.out⟩
                    case measure => simp [intOf]; omega
                · have d1 : decide ((k : Int) < Q.length) = false := by simp; omega
                  have hkQ : k = Q.length := by omega
                  subst hkQ
                  obtain ⟨A', c', rfl, hrat⟩ := rat_own hown.out
                  have hE : catQ R3 Q Q.length = rolesS S S.length ++ G ++ H ++ rolesA Q Q.length := by
                    unfold catQ; rw [← HR3.out, ← HR2.out, ← HR1.out]; simp [cat]
                  have hfin : Hid (RAt wr A' (rolesS S S.length ++ G ++ H ++ rolesA Q Q.length) ∧ (catQ R3 Q Q.length).length = (rolesS S S.length ++ G ++ H ++ rolesA Q Q.length).length) := Lib.hid (by rw [← hE]; exact ⟨hrat, rfl⟩)
                  have hlow := Lib.hid (low hbel)
                  clear hrat hown hbel hE
                  go_wp2_with fail
                  go_ret
                  exact ⟨A', c', by rw [← hfin.out.2]; rfl, hfin.out.1, hlow.out⟩
end Go.Proofs.Ytpjacngbkohmdaa.RefRo
