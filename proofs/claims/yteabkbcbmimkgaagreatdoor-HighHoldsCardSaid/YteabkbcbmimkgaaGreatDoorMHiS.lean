/- The walk of the law that nobody is in more than in the greatest state. -/
import Derived.Test.YteabkbcbmimkgaaGreatDoorMHiP
import Derived.Test.YteabkbcbmimkgaaGreatDoorM40
import Derived.Test.YteabkbcbmimkgaaGreatDoorM38
set_option linter.unusedVariables false
set_option linter.unusedSimpArgs false
namespace Go.Proofs.YteabkbcbmimkgaaGreatDoor.HiS
open Go.RowKit Go.Sort Go.Lib Go.Proofs Plain SynP TabP Tab1 Tab5 PolA PolE PolG PolH PolOp PolLi RefPr RefSm TblA TblB TblC TblP TblQ TblR SetJ SetR SemA SemGa StB StR LwA LwD LwE LwG LwH LwM LwT
open HiA HiL
open HiM (Small)
abbrev nx14 := @LwH.nx
set_option maxHeartbeats 8000000 in
set_option maxRecDepth 100000 in
theorem law (p : Py) (A1 A2 A3 A4 : Option Addr) (c1 c2 c3 c4 : Nat) (B0 : Option Addr) (d0 : Nat) (C : List St) (w : World) (hT : Tab w) (hw : Tab3.Pow w) (hc : Came p) (hp : PG w A1 A2 A3 A4 p) (hCl : C.length ≤ maxLen) (hCf : ∀ s ∈ C, s.fit) (hCs : SG w B0 C) :
    Calls Tryz.prog 4 #[p.val A1 A2 A3 A4 c1 c2 c3 c4, .slice B0 C.length d0] w fun e w' => e = .returned (.bool true) ∧ Below w.heap.size w w' := by
  have hbX : Below w.heap.size w (w.alloc (.cells #[.slice A1 p.stmts.length c1, .slice A2 p.grow.length c2, .slice A3 p.shrink.length c3, .slice A4 p.asks.length c4] 26)) := LwL.below_alloc _ _
  have HTb := Lib.hid (fun w' (hb : Below w.heap.size w w') => Tab.below hT hb)
  have HPw := Lib.hid (fun w' (hb : Below w.heap.size w w') => Tab3.Pow.keep hw (Laid.pow_lt hw) hb)
  have HSm := Lib.hid (fun w' (hb : Below w.heap.size w w') => HiM.small p A1 A2 A3 A4 c1 c2 c3 c4 w' hc (hp.below hb))
  have HLv := Lib.hid (fun w' (hb : Below w.heap.size w w') => HiO.lives w' (HTb.out w' hb) (HPw.out w' hb))
  have HLc := Lib.hid (fun w' (hb : Below w.heap.size w w') => StH.light B0 d0 C w' hCl (hCs.below hb))
  have HCs := Lib.hid (fun w' (hb : Below w.heap.size w w') => hCs.below hb)
  have HRe := Lib.hid (fun w' (hb : Below w.heap.size w w') (hs : Small p) (B1 : Option Addr) (cb : Nat) (D : List St) (hD : D.length ≤ 1000) (hDf : ∀ s ∈ D, s.fit) (hDs : SG w' B1 D) => StJ.refReaches p A1 A2 A3 A4 B1 c1 c2 c3 c4 cb D w' (by have := hs.few.n1; omega) (by have := hs.few.n2; omega) (by have := hs.few.n3; omega) hD (hp.below hb).s (hp.below hb).g (hp.below hb).h hDs hDf)
  simp only [StJ.reach_ref] at HRe
  have HMi := Lib.hid (fun w' (hb : Below w.heap.size w w') (hs : Small p) => HiF.maximal p A1 A2 A3 A4 c1 c2 c3 c4 w' (HPw.out w' hb) hs.few hc (hp.below hb) hs.e7 hs.n4)
  have HEv := Lib.hid (fun w' (hb : Below w.heap.size w w') (hs : Small p) => HiG.highEval p A1 A2 A3 A4 c1 c2 c3 c4 w' (HTb.out w' hb) (HPw.out w' hb) hs.few hc (hp.below hb) hs.e7 hs.n4)
  have HMe := Lib.hid (fun w' (hb : Below w.heap.size w w') (hs : Small p) (r : Rl) => HiH.highMembers p A1 A2 A3 A4 c1 c2 c3 c4 r (ET p) (NT p) (rulesOf (ET p) (NT p) (maxS p)) w' (HTb.out w' hb) (Nat.le_trans hs.e7 (by omega)) (fun w'' hb2 => HEv.out w'' (nx14 hb hb2) hs))
  have HF1 := Lib.hid (fun w' (hb : Below w.heap.size w w') (hs : Small p) => HiB.fresh p A1 A2 A3 A4 c1 c2 c3 c4 w' (HPw.out w' hb) hs.few hc (hp.below hb))
  have HPr := Lib.hid (fun w' (hb : Below w.heap.size w w') (hs : Small p) => HiI.prins5 p A1 A2 A3 A4 c1 c2 c3 c4 w' hs.few hc (hp.below hb))
  have HNa := Lib.hid (fun w' (hb : Below w.heap.size w w') (hs : Small p) => HiI.names5 p A1 A2 A3 A4 c1 c2 c3 c4 w' hs.few hc (hp.below hb))
  have HMl := Lib.hid (fun (h : Small p) => HiP.max_226 h)
  have HMf := Lib.hid (fun (h : Small p) => HiG.max_fit h.few hc)
  have HQ1 := Lib.hid (fun (h : Small p) => HiR.reach_max h.rp)
  have HQ2 := Lib.hid (fun (h : C.all (StJ.ok1 p.stmts p.grow) = true) => HiR.free_of h)
  have HMo := Lib.hid (fun (h : Small p) (hC : C.all (StJ.ok1 p.stmts p.grow) = true) (X : List Pa) (hX : ∀ r x, (⟨r, x⟩ : Pa) ∈ X ↔ DerN C r x) (a n y : Str) (ha : a ∈ PT p) (hn : n ∈ NT p) (hy : y ∈ memF X ⟨txt a, txt n⟩) => HiR.most_has h.rp (HiR.free_of hC) hX ha hn hy)
  have HP7 := Lib.hid (fun (h : Small p) => h.rp.ps)
  have HE7 := Lib.hid (fun (h : Small p) => h.e7)
  have HN4 := Lib.hid (fun (h : Small p) => h.n4)
  have HHa : Hid (∀ (A : Option Addr) (c : Nat) (T : List Str) (y : Str) (w' : World), T.length ≤ 1000 → SRow w' A T → Calls Tryz.prog 31 #[.slice A T.length c, .string (txt y)] w' fun e w'' => e = .returned (.bool (decide (y ∈ T))) ∧ w' = w'') := Lib.hid (fun A c T y w' hl hs => by
    have h := Tab3.has A c T (txt y) w' (by omega) hs
    rw [RefPr.bt_list, bt_txt] at h
    exact h)
  clear hc hp hT hw hCs hCl HEv HQ2 HTb HPw
  unfold HiM.SmallPost at HSm
  unfold StH.LightPost at HLc
  unfold OwnPost at HMi
  unfold Tab5.RowPost at HMe HPr HNa
  generalize hFT : FT p = FX at *
  generalize hET : ET p = PP at *
  generalize hPT : PT p = P5 at *
  generalize hNT : NT p = NN at *
  generalize hMS : maxS p = M at *
  clear hPT hNT hMS hFT hET
  obtain ⟨SW, hSW⟩ : ∃ q, Small p = q := ⟨_, rfl⟩
  rw [hSW] at HSm HRe HMi HMe HF1 HPr HNa HMl HMf HQ1 HMo HP7 HE7 HN4
  clear hSW
  obtain ⟨S, G, H, Q⟩ := p
  unfold Py.val Rl.val at *
  dsimp only at *
  have HB0 := Lib.hid hbX
  have hcl := heap_alloc_new w (.cells #[.slice A1 S.length c1, .slice A2 G.length c2, .slice A3 H.length c3, .slice A4 Q.length c4] 26)
  clear hbX
  go_enter Tryz.func4, Tryz.ntmps4
  go_upto_region 1 with fail
  obtain ⟨bp, hbp⟩ : ∃ bp, w.heap.size = bp := ⟨_, rfl⟩
  simp only [hbp] at hcl ⊢
  generalize w.alloc (.cells #[.slice A1 S.length c1, .slice A2 G.length c2, .slice A3 H.length c3, .slice A4 Q.length c4] 26) = w0 at *
  have hbl : bp < w0.heap.size := (Array.getElem?_eq_some_iff.1 hcl).1
  have HC : Hid (∀ w', Below w0.heap.size w0 w' → ∀ o, w'.cell? ⟨bp, o, none⟩ = (#[.slice A1 S.length c1, .slice A2 G.length c2, .slice A3 H.length c3, .slice A4 Q.length c4] : Array Value)[o]?) := Lib.hid (fun w' hb o => Lib.cell_of_heap ((hb.block bp hbl).trans hcl) o)
  have HX := Lib.hid (fun w' (hb : Below w0.heap.size w0 w') => nx14 HB0.out hb)
  have cs := HC.out w0 (Below.refl _ _)
  clear hcl
  go_wp2_with fail
  refine (HSm.out _ HB0.out).mono ?_
  rintro e w1 ⟨b1, rfl, hsm, hb1⟩
  have HW1 := Lib.hid hb1
  clear hb1 cs HSm
  have HFin : Hid (∀ (wx : World), Below w0.heap.size w0 wx → Calls Tryz.prog 10 #[] wx fun e w' => e = .returned (.bool true) ∧ Below w.heap.size w w') := Lib.hid (fun wx h => by
    refine (HLv.out wx (HX.out wx h)).mono ?_
    rintro e w' ⟨he, hb⟩
    exact ⟨he, nx14 (HX.out wx h) hb⟩)
  clear HLv
  cases b1
  · clear hsm
    go_wp2_with fail
    refine (HFin.out _ HW1.out).mono ?_
    rintro e w2 ⟨rfl, hb2⟩
    have HF := Lib.hid hb2
    clear hb2
    go_wp2_with fail
    go_ret
    exact ⟨rfl, by first | exact HF.out | (rw [← hbp]; exact HF.out)⟩
  · have HSw := Lib.hid (hsm rfl)
    clear hsm
    go_wp2_with fail
    refine (HLc.out _ (HX.out _ HW1.out)).mono ?_
    rintro e w3 ⟨b3, rfl, hfc, hb3⟩
    have HW3 := Lib.hid (nx14 HW1.out hb3)
    clear hb3 HLc
    cases b3
    · clear hfc
      go_wp2_with fail
      refine (HFin.out _ HW3.out).mono ?_
      rintro e w4 ⟨rfl, hb4⟩
      have HF := Lib.hid hb4
      clear hb4
      go_wp2_with fail
      go_ret
      exact ⟨rfl, by first | exact HF.out | (rw [← hbp]; exact HF.out)⟩
    · have hC40 := hfc rfl
      have hml := HMl.out HSw.out
      have hp7 := HP7.out HSw.out
      have he7 := HE7.out HSw.out
      have hn4 := HN4.out HSw.out
      clear hfc
      have hst : Below w0.heap.size w0 w3.drew ∧ (∀ o, w3.drew.cell? ⟨bp, o, none⟩ = (#[.slice A1 S.length c1, .slice A2 G.length c2, .slice A3 H.length c3, .slice A4 Q.length c4] : Array Value)[o]?) := ⟨HW3.out.drew, HC.out _ HW3.out.drew⟩
      have HKK := Lib.hid (fun w' (hb' : Below w0.heap.size w0 w') => And.intro hb' (HC.out w' hb'))
      have M1 := Lib.hid (fun w' (hb' : Below w0.heap.size w0 w') => HMi.out w' (HX.out w' hb') HSw.out)
      have M2 : Hid (∀ A5 k5 w', Below w0.heap.size w0 w' → SG w' A5 M → Calls Tryz.prog 28 #[.agg #[.slice A1 S.length c1, .slice A2 G.length c2, .slice A3 H.length c3, .slice A4 Q.length c4], .slice A5 M.length k5] w' fun e w'' => e = .returned (.bool true) ∧ Below w'.heap.size w' w'') := Lib.hid (fun A5 k5 w' hb' hs => by
        have h := HRe.out w' (HX.out w' hb') HSw.out A5 k5 M (by omega) (HMf.out HSw.out) hs
        rw [HQ1.out HSw.out] at h
        exact h)
      go_upto_region 3 with fail
      go_region_held3 (fun w' => Below w0.heap.size w0 w' ∧ (∀ o, w'.cell? ⟨bp, o, none⟩ = (#[.slice A1 S.length c1, .slice A2 G.length c2, .slice A3 H.length c3, .slice A4 Q.length c4] : Array Value)[o]?))
        (first | with_reducible exact hst | with_reducible assumption | exact HKK.out _ (nx14 (by apply And.left; with_reducible assumption) (by with_reducible assumption)))
        (first | ((with_reducible refine (M1.out _ (by apply And.left; with_reducible assumption)).mono ?_); rintro e x1 ⟨v1, rfl, ho1, hb1⟩; obtain ⟨Q1, q1, rfl, hs1⟩ := ho1.form)
               | ((with_reducible refine (M2.out _ _ _ (by apply And.left; with_reducible assumption) hs1).mono ?_); rintro e x2 ⟨rfl, hb2⟩))
      all_goals rename_i hHeld
      all_goals
        obtain ⟨hbz, cs⟩ := hHeld
        have HW5 := Lib.hid hbz
        have HR2 := Lib.hid (HRe.out _ (HX.out _ hbz) HSw.out B0 d0 C (by omega) hCf (HCs.out _ (HX.out _ hbz)))
        clear hbz hb1 hb2 ho1 hs1 hst M1 M2 HMi HRe HQ1 HMf HKK
        cases hRB : (C.all (StJ.ok1 S G) && S.all (StJ.ok2 C H))
        · rw [hRB] at HR2
          clear hRB
          go_wp2_with fail
          refine HR2.out.mono ?_
          rintro e w6 ⟨rfl, hb6⟩
          have HW6 := Lib.hid (nx14 HW5.out hb6)
          clear hb6 cs HR2
          go_wp2_with fail
          refine (HFin.out _ HW6.out).mono ?_
          rintro e w7 ⟨rfl, hb7⟩
          have HF := Lib.hid hb7
          clear hb7
          go_wp2_with fail
          go_ret
          exact ⟨rfl, by first | exact HF.out | (rw [← hbp]; exact HF.out)⟩
        · rw [hRB] at HR2
          rw [Bool.and_eq_true] at hRB
          have HCk := Lib.hid hRB.1
          clear hRB
          go_wp2_with fail
          refine HR2.out.mono ?_
          rintro e w6 ⟨rfl, hb6⟩
          have HW6 := Lib.hid (nx14 HW5.out hb6)
          clear hb6 cs HR2
          go_wp2_with fail
          refine (evalN B0 d0 C w6 (by omega) (HCs.out w6 (HX.out _ HW6.out))).mono ?_
          intro e w7 hpost
          unfold EvPost at hpost
          obtain ⟨v7, X, rfl, hown7, hnd, hX, hlX, hb7⟩ := hpost
          have hlX2 : X.length ≤ 1600 := Nat.le_trans hlX (Nat.le_trans (Nat.mul_le_mul hC40 hC40) (by omega))
          obtain ⟨AX, cX, rfl, _, hpx⟩ := pa_own hown7
          have HW7 := Lib.hid (nx14 HW6.out hb7)
          have HPX := Lib.hid (fun w' (hb : Below w7.heap.size w7 w') => hpx.below hb)
          have HMO := Lib.hid (fun a n y ha hn hy => HMo.out HSw.out HCk.out X hX a n y ha hn hy)
          have HFl := Lib.hid (fun r => Nat.le_trans (memF_len X r) hlX2)
          have cs := HC.out w7 HW7.out
          clear hown7 hnd hX hlX hb7 hpx HMo
          go_wp2_with fail
          refine (HPr.out w7 (HX.out _ HW7.out) HSw.out).mono ?_
          rintro e w8 ⟨v8, rfl, ho8, hb8⟩
          obtain ⟨Q8, q8, rfl, _, hr8⟩ := SRow.of_own ho8
          have HW8 := Lib.hid (nx14 HW7.out hb8)
          have HB78 := Lib.hid hb8
          have HP8 := Lib.hid (fun w' (hb : Below w8.heap.size w8 w') => hr8.keep hb)
          clear ho8 hr8 hb8 cs
          obtain ⟨T, hTe⟩ : ∃ T, rulesOf PP NN M = T := ⟨_, rfl⟩
          rw [hTe] at HMe HMO
          have HMtl : Hid (∀ r, (memT PP NN T r).length ≤ 16) := Lib.hid (fun r => by
            unfold memT
            rw [List.length_map]
            exact Nat.le_trans (memD_len _ _ _ _) (by omega))
          clear hTe
          go_wp2_with fail
          go_loopw [38] (fun i wr => ∃ k : Nat, k ≤ P5.length ∧ i = .int .i64 k ∧ Below w8.heap.size w8 wr) (fun i _ => P5.length - (intOf i).toNat)
          case atStart => exact ⟨0, by omega, rfl, Below.refl _ _⟩
          case round =>
            obtain ⟨k, hk, rfl, hb⟩ := hrel
            by_cases hlt : k < P5.length
            · have d1 : decide ((k : Int) < P5.length) = true := by simp; omega
              obtain ⟨g, o, rfl, hg, hcl⟩ := (HP8.out wr hb) (by omega)
              have y0 : wr.cell? ⟨g, o + k, none⟩ = some (.string (txt P5[k])) := hcl k hlt
              have p1 : (0 : Int) ≤ k := by omega
              have p2 : (k : Int) < P5.length := by omega
              have Ha := Lib.hid (List.getElem_mem hlt)
              generalize P5[k] = a at *
              have HBr := Lib.hid (nx14 HW8.out hb)
              have HBk := Lib.hid hb
              have cs := HC.out wr HBr.out
              clear hcl hb hg
              go_wp2_with fail
              refine (HNa.out wr (HX.out _ HBr.out) HSw.out).mono ?_
              rintro e w9 ⟨v9, rfl, ho9, hb9⟩
              obtain ⟨Q9, q9, rfl, _, hr9⟩ := SRow.of_own ho9
              have HW9 := Lib.hid (nx14 HBr.out hb9)
              have HB89 := Lib.hid (nx14 HBk.out hb9)
              have HP9 := Lib.hid (fun w' (hb : Below w9.heap.size w9 w') => hr9.keep hb)
              clear ho9 hr9 hb9 cs y0 HBr HBk
              go_wp2_with fail
              go_loopw [45] (fun i wr => ∃ j : Nat, j ≤ NN.length ∧ i = .int .i64 j ∧ Below w9.heap.size w9 wr) (fun i _ => NN.length - (intOf i).toNat)
              case atStart => exact ⟨0, by omega, rfl, Below.refl _ _⟩
              case round =>
                obtain ⟨j, hj, rfl, hb⟩ := hrel
                by_cases hlt2 : j < NN.length
                · have d2 : decide ((j : Int) < NN.length) = true := by simp; omega
                  obtain ⟨g2, o2, rfl, hg2, hcl⟩ := (HP9.out wr hb) (by omega)
                  have z0 : wr.cell? ⟨g2, o2 + j, none⟩ = some (.string (txt NN[j])) := hcl j hlt2
                  have r1 : (0 : Int) ≤ j := by omega
                  have r2 : (j : Int) < NN.length := by omega
                  have Hn := Lib.hid (List.getElem_mem hlt2)
                  generalize NN[j] = n at *
                  have hnw := heap_alloc_new wr (.cells #[.string (txt a), .string (txt n)] 28)
                  have hba := LwL.below_alloc wr (.cells #[.string (txt a), .string (txt n)] 28)
                  have HB3 := Lib.hid (nx14 hb hba)
                  clear hcl hb hba hg2
                  go_upto_region 15 with fail
                  obtain ⟨bx, hbx⟩ : ∃ bx, wr.heap.size = bx := ⟨_, rfl⟩
                  rw [hbx] at hnw ⊢
                  generalize wr.alloc (.cells #[.string (txt a), .string (txt n)] 28) = w10 at *
                  have hbxl : bx < w10.heap.size := (Array.getElem?_eq_some_iff.1 hnw).1
                  have HXB := Lib.hid (fun (w' : World) (hb : Below w10.heap.size w10 w') (o : Nat) => Lib.cell_of_heap ((hb.block bx hbxl).trans hnw) o)
                  have HW10 := Lib.hid (nx14 HW9.out HB3.out)
                  have cs := HC.out w10 HW10.out
                  have cx := HXB.out w10 (Below.refl _ _)
                  have HMx := Lib.hid (HMe.out w10 (HX.out _ HW10.out) HSw.out ⟨txt a, txt n⟩)
                  have HMt := HMtl.out ⟨txt a, txt n⟩
                  have HFt := HFl.out ⟨txt a, txt n⟩
                  have HMN := Lib.hid (fun w' (hb : Below w10.heap.size w10 w') => membersN AX cX X ⟨txt a, txt n⟩ w' (by omega) (HPX.out w' (nx14 HB78.out (nx14 HB89.out (nx14 HB3.out hb)))))
                  have HOne := Lib.hid (fun y hy => HMO.out a n y Ha.out Hn.out hy)
                  unfold Rl.val Tab5.RowPost at HMN
                  generalize memT PP NN T ⟨txt a, txt n⟩ = MT at *
                  generalize memF X ⟨txt a, txt n⟩ = FF at *
                  clear z0 hnw hbx
                  go_wp2_with fail
                  refine HMx.out.mono ?_
                  rintro e w11 ⟨v11, rfl, ho11, hb11⟩
                  obtain ⟨Q11, q11, rfl, _, hr11⟩ := SRow.of_own ho11
                  have HW11 := Lib.hid hb11
                  have cx := HXB.out w11 hb11
                  have HMk := Lib.hid (fun w' (hb : Below w11.heap.size w11 w') => hr11.keep hb)
                  clear ho11 hr11 hb11 cs HMx
                  go_wp2_with fail
                  refine (HMN.out w11 HW11.out).mono ?_
                  rintro e w12 ⟨v12, rfl, ho12, hb12⟩
                  obtain ⟨Q12, q12, rfl, _, hr12⟩ := SRow.of_own ho12
                  have HW12 := Lib.hid (nx14 HW10.out (nx14 HW11.out hb12))
                  have HB12 := Lib.hid (nx14 HB3.out (nx14 HW11.out hb12))
                  have HMk2 := Lib.hid (fun w' (hb : Below w12.heap.size w12 w') => HMk.out w' (nx14 hb12 hb))
                  have HFk := Lib.hid (fun w' (hb : Below w12.heap.size w12 w') => hr12.keep hb)
                  clear ho12 hr12 hb12 cx HMN HMk
                  go_wp2_with fail
                  go_loopw [59] (fun i wr => ∃ m : Nat, m ≤ FF.length ∧ i = .int .i64 m ∧ Below w12.heap.size w12 wr) (fun i _ => FF.length - (intOf i).toNat)
                  case atStart => exact ⟨0, by omega, rfl, Below.refl _ _⟩
                  case round =>
                    obtain ⟨m, hm, rfl, hb⟩ := hrel
                    by_cases hlt3 : m < FF.length
                    · have d3 : decide ((m : Int) < FF.length) = true := by simp; omega
                      obtain ⟨g3, o3, rfl, hg3, hcl⟩ := (HFk.out wr hb) (by omega)
                      have z0 : wr.cell? ⟨g3, o3 + m, none⟩ = some (.string (txt FF[m])) := hcl m hlt3
                      have r3 : (0 : Int) ≤ m := by omega
                      have r4 : (m : Int) < FF.length := by omega
                      have hone := HOne.out FF[m] (List.getElem_mem hlt3)
                      generalize FF[m] = y at *
                      have HBr := Lib.hid (nx14 HW12.out hb)
                      have HBk := Lib.hid hb
                      have cs := HC.out wr HBr.out
                      clear hcl hb hg3
                      go_wp2_with fail
                      refine (HPr.out wr (HX.out _ HBr.out) HSw.out).mono ?_
                      rintro e w13 ⟨v13, rfl, ho13, hb13⟩
                      obtain ⟨Q13, q13, rfl, _, hr13⟩ := SRow.of_own ho13
                      have HW13 := Lib.hid (nx14 HBr.out hb13)
                      have HB13 := Lib.hid (nx14 HBk.out hb13)
                      have HH1 := Lib.hid (HHa.out Q13 q13 P5 y w13 (by omega) hr13)
                      clear ho13 hb13 hr13 cs z0 HBr HBk
                      by_cases hy : y ∈ P5
                      · rw [if_pos hy] at hone
                        rw [decide_eq_true hy] at HH1
                        have HH2 := Lib.hid (HHa.out Q11 q11 MT y w13 (by omega) (HMk2.out w13 HB13.out))
                        rw [decide_eq_true hone] at HH2
                        clear hy hone
                        go_wp2_with fail
                        refine HH1.out.mono ?_
                        rintro e w14 ⟨rfl, rfl⟩
                        clear HH1
                        go_wp2_with fail
                        refine HH2.out.mono ?_
                        rintro e w15 ⟨rfl, rfl⟩
                        clear HH2
                        go_wp2_with fail
                        go_roundw
                        case rel => exact ⟨m + 1, by omega, by go_num, HB13.out⟩
                        case measure => simp [intOf]; omega
                      · rw [if_neg hy] at hone
                        rw [decide_eq_false hy] at HH1
                        have cs := HC.out w13 HW13.out
                        clear hy
                        go_wp2_with fail
                        refine HH1.out.mono ?_
                        rintro e w14 ⟨rfl, rfl⟩
                        clear HH1
                        go_wp2_with fail
                        refine (HF1.out w13 (HX.out _ HW13.out) HSw.out).mono ?_
                        rintro e w16 ⟨rfl, hb16⟩
                        have HB16 := Lib.hid (nx14 HB13.out hb16)
                        have HH2 := Lib.hid (HHa.out Q11 q11 MT FX w16 (by omega) (HMk2.out w16 HB16.out))
                        rw [decide_eq_true hone] at HH2
                        clear hone hb16 cs
                        go_wp2_with fail
                        refine HH2.out.mono ?_
                        rintro e w17 ⟨rfl, rfl⟩
                        clear HH2
                        go_wp2_with fail
                        go_roundw
                        case rel => exact ⟨m + 1, by omega, by go_num, HB16.out⟩
                        case measure => simp [intOf]; omega
                    · have d3 : decide ((m : Int) < FF.length) = false := by simp; omega
                      have HBe := Lib.hid (nx14 HB12.out hb)
                      clear hb
                      go_wp2_with fail
                      go_roundw
                      case rel => exact ⟨j + 1, by omega, by go_num, HBe.out⟩
                      case measure => simp [intOf]; omega
                · have d2 : decide ((j : Int) < NN.length) = false := by simp; omega
                  have HBe := Lib.hid (nx14 HB89.out hb)
                  clear hb
                  go_wp2_with fail
                  go_roundw
                  case rel => exact ⟨k + 1, by omega, by go_num, HBe.out⟩
                  case measure => simp [intOf]; omega
            · have d1 : decide ((k : Int) < P5.length) = false := by simp; omega
              have HBe := Lib.hid (nx14 HW8.out hb)
              clear hb
              go_wp2_with fail
              refine (HFin.out _ HBe.out).mono ?_
              rintro e w7 ⟨rfl, hb7⟩
              have HF := Lib.hid hb7
              clear hb7
              go_wp2_with fail
              go_ret
              exact ⟨rfl, by first | exact HF.out | (rw [← hbp]; exact HF.out)⟩
end Go.Proofs.YteabkbcbmimkgaaGreatDoor.HiS
