/- The walk of the law of the greatest state. -/
import Derived.Test.YteabkbcbmimkgaaGreatDoorM39
import Derived.Test.YteabkbcbmimkgaaGreatDoorM40
import Derived.Test.YteabkbcbmimkgaaGreatDoorM38
import Derived.Test.YteabkbcbmimkgaaGreatDoorM34
import Derived.Test.YteabkbcbmimkgaaGreatDoorM25
set_option linter.unusedVariables false
set_option linter.unusedSimpArgs false
namespace Go.Proofs.YteabkbcbmimkgaaGreatDoor.HiP
open Go.RowKit Go.Sort Go.Lib Go.Proofs Plain SynP TabP Tab1 Tab5 PolA PolE PolG PolH PolOp PolLi RefPr RefSm TblA TblB TblC TblP TblQ TblR SetJ SetR SemA SemGa StB StR LwA LwD LwE LwG LwH LwM LwT
open HiA HiL
open HiM (Small)
abbrev nx13 := @LwH.nx
theorem max_226 {p : Py} (h : Small p) : (maxS p).length ≤ 226 := Nat.le_trans (max_len p) (by have := hp_len h.e7 h.n4; have := h.few.n1; omega)
set_option maxHeartbeats 8000000 in
set_option maxRecDepth 100000 in
theorem law (p : Py) (A1 A2 A3 A4 : Option Addr) (c1 c2 c3 c4 : Nat) (r : Rl) (w : World) (hT : Tab w) (hw : Tab3.Pow w) (hc : Came p) (hp : PG w A1 A2 A3 A4 p) :
    Calls Tryz.prog 3 #[p.val A1 A2 A3 A4 c1 c2 c3 c4, r.val] w fun e w' => e = .returned (.bool true) ∧ Below w.heap.size w w' := by
  have hbX : Below w.heap.size w ((w.alloc (.cells #[.slice A1 p.stmts.length c1, .slice A2 p.grow.length c2, .slice A3 p.shrink.length c3, .slice A4 p.asks.length c4] 26)).alloc (.cells #[.string r.owner, .string r.name] 28)) := ((Below.refl _ _).alloc (Nat.le_refl _) _).alloc (by simp) _
  have HTb := Lib.hid (fun w' (hb : Below w.heap.size w w') => Tab.below hT hb)
  have HPw := Lib.hid (fun w' (hb : Below w.heap.size w w') => Tab3.Pow.keep hw (Laid.pow_lt hw) hb)
  have HSm := Lib.hid (fun w' (hb : Below w.heap.size w w') => HiM.small p A1 A2 A3 A4 c1 c2 c3 c4 w' hc (hp.below hb))
  have HLv := Lib.hid (fun w' (hb : Below w.heap.size w w') => HiO.lives w' (HTb.out w' hb) (HPw.out w' hb))
  have HMr := Lib.hid (fun w' (hb : Below w.heap.size w w') (hs : Small p) => HiK.maximal12 p A1 A2 A3 A4 c1 c2 c3 c4 w' hs.few hc (hp.below hb) hs.e7 hs.n4)
  have HMi := Lib.hid (fun w' (hb : Below w.heap.size w w') (hs : Small p) => HiF.maximal p A1 A2 A3 A4 c1 c2 c3 c4 w' (HPw.out w' hb) hs.few hc (hp.below hb) hs.e7 hs.n4)
  have HEv := Lib.hid (fun w' (hb : Below w.heap.size w w') (hs : Small p) => HiG.highEval p A1 A2 A3 A4 c1 c2 c3 c4 w' (HTb.out w' hb) (HPw.out w' hb) hs.few hc (hp.below hb) hs.e7 hs.n4)
  have HMe := Lib.hid (fun w' (hb : Below w.heap.size w w') (hs : Small p) => HiH.highMembers p A1 A2 A3 A4 c1 c2 c3 c4 r (ET p) (NT p) (rulesOf (ET p) (NT p) (maxS p)) w' (HTb.out w' hb) (Nat.le_trans hs.e7 (by omega)) (fun w'' hb2 => HEv.out w'' (nx13 hb hb2) hs))
  have HF1 := Lib.hid (fun w' (hb : Below w.heap.size w w') (hs : Small p) => HiB.fresh p A1 A2 A3 A4 c1 c2 c3 c4 w' (HPw.out w' hb) hs.few hc (hp.below hb))
  have HF2 := Lib.hid (fun w' (hb : Below w.heap.size w w') (hs : Small p) => HiI.fresh12 p A1 A2 A3 A4 c1 c2 c3 c4 w' hs.few hc (hp.below hb))
  have HR1 := Lib.hid (fun w' (hb : Below w.heap.size w w') (hs : Small p) => HiE.roles p A1 A2 A3 A4 c1 c2 c3 c4 w' (HPw.out w' hb) hs.few hc (hp.below hb) hs.e7 hs.n4)
  have HR2 := Lib.hid (fun w' (hb : Below w.heap.size w w') (hs : Small p) => HiJ.roles12 p A1 A2 A3 A4 c1 c2 c3 c4 w' hs.few hc (hp.below hb) hs.e7 hs.n4)
  have HPr := Lib.hid (fun w' (hb : Below w.heap.size w w') (hs : Small p) => HiI.prins12 p A1 A2 A3 A4 c1 c2 c3 c4 w' hs.few hc (hp.below hb))
  have HOk := Lib.hid (fun (h : Small p) => max_ok h.rp)
  have HEu := Lib.hid (et_up p)
  have HMl := Lib.hid (fun (h : Small p) => max_226 h)
  have HE7 := Lib.hid (fun (h : Small p) => h.e7)
  have HRl := Lib.hid (fun (h : Small p) => hr_len h.e7 h.n4)
  clear hc hp hT hw
  unfold HiM.SmallPost at HSm
  unfold StI.RowPost at HMr
  unfold OwnPost at HMi
  unfold TMPost TM at HEv
  unfold Tab5.RowPost at HMe HPr
  unfold HiE.RolesPost at HR1
  unfold PolF.RPost at HR2
  generalize hFT : FT p = FX at *
  generalize hPT : ET p = PP at *
  generalize hNT : NT p = NN at *
  generalize hMS : maxS p = M at *
  generalize hRS : hRoles p = RR at *
  clear hPT hNT hMS hFT hRS
  obtain ⟨SW, hSW⟩ : ∃ q, Small p = q := ⟨_, rfl⟩
  rw [hSW] at HSm HMr HMi HEv HMe HF1 HF2 HR1 HR2 HPr HOk HMl HE7 HRl
  clear hSW
  obtain ⟨S, G, H, Q⟩ := p
  obtain ⟨ro, rn⟩ := r
  unfold Py.val Rl.val at *
  dsimp only at *
  have HB0 := Lib.hid hbX
  have hc1 := fun o => Lib.cell_of_heap (heap_alloc2_old w (.cells #[.slice A1 S.length c1, .slice A2 G.length c2, .slice A3 H.length c3, .slice A4 Q.length c4] 26) (.cells #[.string ro, .string rn] 28)) o
  have hc2 := fun o => Lib.cell_of_heap (heap_alloc2_new w (.cells #[.slice A1 S.length c1, .slice A2 G.length c2, .slice A3 H.length c3, .slice A4 Q.length c4] 26) (.cells #[.string ro, .string rn] 28)) o
  have hlt : w.heap.size + 1 < ((w.alloc (.cells #[.slice A1 S.length c1, .slice A2 G.length c2, .slice A3 H.length c3, .slice A4 Q.length c4] 26)).alloc (.cells #[.string ro, .string rn] 28)).heap.size := by simp
  clear hbX
  go_enter Tryz.func3, Tryz.ntmps3
  go_upto_region 1 with fail
  obtain ⟨bp, hbp⟩ : ∃ bp, w.heap.size = bp := ⟨_, rfl⟩
  simp only [hbp] at hc1 hc2 hlt ⊢
  generalize (w.alloc (.cells #[.slice A1 S.length c1, .slice A2 G.length c2, .slice A3 H.length c3, .slice A4 Q.length c4] 26)).alloc (.cells #[.string ro, .string rn] 28) = w0 at *
  have HC := Lib.hid (fun w' (hb : Below w0.heap.size w0 w') => And.intro (fun o => (hb.cell (p := ⟨bp, o, none⟩) (by show bp < _; omega)).trans (hc1 o)) (fun o => (hb.cell (p := ⟨bp + 1, o, none⟩) hlt).trans (hc2 o)))
  have HX := Lib.hid (fun w' (hb : Below w0.heap.size w0 w') => nx13 HB0.out hb)
  clear hc2 hlt
  go_wp2_with fail
  refine (HSm.out _ HB0.out).mono ?_
  rintro e w1 ⟨b1, rfl, hsm, hb1⟩
  have HW1 := Lib.hid hb1
  clear hb1 hc1 HSm
  have HFin : Hid (∀ (wx : World), Below w0.heap.size w0 wx → Calls Tryz.prog 10 #[] wx fun e w' => e = .returned (.bool true) ∧ Below wx.heap.size wx w') := Lib.hid (fun wx h => HLv.out wx (HX.out wx h))
  clear HLv
  cases b1
  · clear hsm
    go_wp2_with fail
    refine (HFin.out _ HW1.out).mono ?_
    rintro e w2 ⟨rfl, hb2⟩
    have HF := Lib.hid (HX.out _ (nx13 HW1.out hb2))
    clear hb2
    go_wp2_with fail
    go_ret
    exact ⟨rfl, by first | exact HF.out | (rw [← hbp]; exact HF.out)⟩
  · have HSw := Lib.hid (hsm rfl)
    have hc1 := (HC.out w1 HW1.out).1
    clear hsm
    go_wp2_with fail
    refine (HMr.out _ (HX.out _ HW1.out) HSw.out).mono ?_
    rintro e w3 ⟨AM, cM, rfl, hsg, hb3⟩
    have HW3 := Lib.hid (nx13 HW1.out hb3)
    have HSG := Lib.hid hsg
    have hml := HMl.out HSw.out
    clear hb3 hsg hc1 HMr
    go_wp2_with fail
    refine (evalN AM cM M _ (by omega) HSG.out).mono ?_
    intro e w4 hpost
    unfold EvPost at hpost
    obtain ⟨v4, X, rfl, hown4, hnd, hX, hlX, hb4⟩ := hpost
    have hlX2 : X.length ≤ 60000 := Nat.le_trans hlX (Nat.le_trans (Nat.mul_le_mul hml hml) (by omega))
    obtain ⟨AX, cX, rfl, _, hpx⟩ := pa_own hown4
    have HW4 := Lib.hid (nx13 HW3.out hb4)
    have HPX := Lib.hid hpx
    have HDX := Lib.hid hX
    have HSG4 := Lib.hid (HSG.out.below hb4)
    have hc1 := (HC.out w4 HW4.out).1
    clear hown4 hnd hX hlX hb4 hpx HSG
    go_wp2_with fail
    refine (HEv.out _ (HX.out _ HW4.out) HSw.out).mono ?_
    rintro e wr ⟨v1, v2, rfl, ⟨t, a, b, B1, d1, B2, d2, mo, st, rfl, rfl, htb, hmo⟩, hb5⟩
    have HW5 := Lib.hid (nx13 HW4.out hb5)
    have HTB := Lib.hid (fun w' (hb : Below wr.heap.size wr w') => htb.keep hb)
    have HPX5 := Lib.hid (fun w' (hb : Below wr.heap.size wr w') => HPX.out.below (nx13 hb5 hb))
    have HSG5 := Lib.hid (fun w' (hb : Below wr.heap.size wr w') => HSG4.out.below (nx13 hb5 hb))
    have HX5 := Lib.hid (fun w' (hb : Below wr.heap.size wr w') => HX.out w' (nx13 HW5.out hb))
    have HC5 := Lib.hid (fun w' (hb : Below wr.heap.size wr w') => HC.out w' (nx13 HW5.out hb))
    have hps := HE7.out HSw.out
    have hrl := HRl.out HSw.out
    have HOK := Lib.hid (HOk.out HSw.out)
    have HSam : Hid (memF X ⟨ro, rn⟩ = memT PP NN (rulesOf PP NN M) ⟨ro, rn⟩) := Lib.hid (mem_same HEu.out HOK.out HDX.out ⟨ro, rn⟩).symm
    obtain ⟨T, hTe⟩ : ∃ T, rulesOf PP NN M = T := ⟨_, rfl⟩
    rw [hTe] at HMe HSam
    clear hb5 hc1 htb hmo HPX HSG4 HC HX HOk HOK HDX HEv hTe
    have M1 := Lib.hid (fun w' (hb' : Below wr.heap.size wr w') => HMi.out w' (HX5.out w' hb') HSw.out)
    have M2 : Hid (∀ A5 k5 w', Below wr.heap.size wr w' → SG w' A5 M → Calls Tryz.prog 14 #[.slice A5 M.length k5, .slice AM M.length cM] w' fun e w'' => e = .returned (.bool true) ∧ Below w'.heap.size w' w'') := Lib.hid (fun A5 k5 w' hb' hs => by
      have h := sameSS A5 AM k5 cM M M w' (by omega) (by omega) hs (HSG5.out w' hb')
      rw [decide_eq_true rfl] at h
      exact h.mono (fun e w'' ⟨he, q, hw⟩ => ⟨he, by rw [hw]; exact below_drewN (Below.refl _ _) q⟩))
    have M3 := Lib.hid (fun w' (hb' : Below wr.heap.size wr w') => HMe.out w' (HX5.out w' hb') HSw.out)
    have M4 := Lib.hid (fun w' (hb' : Below wr.heap.size wr w') => membersN AX cX X ⟨ro, rn⟩ w' (by omega) (HPX5.out w' hb'))
    rw [HSam.out] at M4
    have hmtl : (memT PP NN T ⟨ro, rn⟩).length ≤ 16 := by
      unfold memT
      rw [List.length_map]
      exact Nat.le_trans (memD_len _ _ _ _) (by omega)
    obtain ⟨MT, hMT⟩ : ∃ MT, memT PP NN T ⟨ro, rn⟩ = MT := ⟨_, rfl⟩
    rw [hMT] at M3 M4 hmtl
    have M5 : Hid (∀ (U : List Str) A B ca cb w', U.length ≤ 1000 → SRow w' A U → SRow w' B U → Calls Tryz.prog 21 #[.slice A U.length ca, .slice B U.length cb] w' fun e w'' => e = .returned (.bool true) ∧ Below w'.heap.size w' w'') := Lib.hid (fun U A B ca cb w' hl h1 h2 =>
      (Tab3.same A B ca cb U w' (by omega) h1 h2).mono (fun e w'' ⟨he, q, hw⟩ => ⟨he, by rw [hw]; exact below_drewN (Below.refl _ _) q⟩))
    have M6 := Lib.hid (fun w' (hb' : Below wr.heap.size wr w') => TblA.prins (HTB.out w' hb'))
    have M7 := Lib.hid (fun w' (hb' : Below wr.heap.size wr w') => Tab7.all a B1 PP d1 w' (HTB.out w' hb').a0 (by omega) (HTB.out w' hb').ra)
    have M8 := Lib.hid (fun w' (hb' : Below wr.heap.size wr w') => HPr.out w' (HX5.out w' hb') HSw.out)
    have M10 := Lib.hid (fun w' (hb' : Below wr.heap.size wr w') => HFin.out w' (nx13 HW5.out hb'))
    have M11 := Lib.hid (fun w' (hb' : Below wr.heap.size wr w') => HF1.out w' (HX5.out w' hb') HSw.out)
    have M12 := Lib.hid (fun w' (hb' : Below wr.heap.size wr w') => HF2.out w' (HX5.out w' hb') HSw.out)
    have M13 := Lib.hid (fun w' (hb' : Below wr.heap.size wr w') => HR1.out w' (HX5.out w' hb') HSw.out)
    have M14 : Hid (∀ w', Below wr.heap.size wr w' → Calls Tryz.prog 20 #[.agg #[.slice A1 S.length c1, .slice A2 G.length c2, .slice A3 H.length c3, .slice A4 Q.length c4]] w' fun e w'' => ∃ A c, e = .returned (.slice A RR.length c) ∧ RG w'' A RR ∧ Below w'.heap.size w' w'') := Lib.hid (fun w' hb' => by
      refine (HR2.out w' (HX5.out w' hb') HSw.out).mono ?_
      rintro e w'' ⟨v, rfl, ho, hb⟩
      obtain ⟨A, c, rfl⟩ := PolLi.own_n ho
      exact ⟨A, c, rfl, PolK.rg_of_own ho, hb⟩)
    have M15 : Hid (∀ A B ca cb w', RG w' A RR → RG w' B RR → Calls Tryz.prog 18 #[.slice A RR.length ca, .slice B RR.length cb] w' fun e w'' => e = .returned (.bool true) ∧ Below w'.heap.size w' w'') := Lib.hid (fun A B ca cb w' h1 h2 => by
      have h := sameRR A B ca cb RR RR w' (by omega) (by omega) h1 h2
      rw [decide_eq_true rfl] at h
      exact h.mono (fun e w'' ⟨he, q, hw⟩ => ⟨he, by rw [hw]; exact below_drewN (Below.refl _ _) q⟩))
    have HKK := Lib.hid (fun w' (hb' : Below wr.heap.size wr w') => And.intro hb' (HC5.out w' hb'))
    have hst := HKK.out wr.drew ((Below.refl _ _).drew)
    have hp1 : MT.length ≤ 1000 := by omega
    have hp2 : PP.length ≤ 1000 := by omega
    unfold Rl.val Tab5.RowPost at M4
    unfold Tab5.RowPost at M7
    clear HMi HMe HPr HTB HPX5 HSG5 HSam HFin hMT HF1 HF2 HR1 HR2 HTb HPw
    go_upto_region 6 with fail
    go_region_held3 (fun w' => Below wr.heap.size wr w' ∧ (∀ o, w'.cell? ⟨bp, o, none⟩ = (#[.slice A1 S.length c1, .slice A2 G.length c2, .slice A3 H.length c3, .slice A4 Q.length c4] : Array Value)[o]?) ∧ (∀ o, w'.cell? ⟨bp + 1, o, none⟩ = (#[.string ro, .string rn] : Array Value)[o]?))
      (first | with_reducible exact hst | with_reducible assumption | exact HKK.out _ (nx13 (by apply And.left; with_reducible assumption) (by with_reducible assumption)))
      (first | ((with_reducible refine (M1.out _ (by apply And.left; with_reducible assumption)).mono ?_); rintro e x1 ⟨v1, rfl, ho1, hb1⟩; obtain ⟨Q1, q1, rfl, hs1⟩ := ho1.form)
             | ((with_reducible refine (M2.out _ _ _ (by apply And.left; with_reducible assumption) hs1).mono ?_); rintro e x2 ⟨rfl, hb2⟩)
             | ((with_reducible refine (M3.out _ (by apply And.left; with_reducible assumption)).mono ?_); rintro e x3 ⟨v3, rfl, ho3, hb3⟩; obtain ⟨Q3, q3, rfl, _, hr3⟩ := SRow.of_own ho3)
             | ((with_reducible refine (M4.out _ (by apply And.left; with_reducible assumption)).mono ?_); rintro e x4 ⟨v4, rfl, ho4, hb4⟩; obtain ⟨Q4, q4, rfl, _, hr4⟩ := SRow.of_own ho4)
             | ((with_reducible refine (M5.out _ _ _ _ _ _ hp1 (by first | with_reducible exact hr3 | exact hr3.keep hb4) (by first | with_reducible exact hr4 | exact hr4.keep hb3)).mono ?_); rintro e x5 ⟨rfl, hb5⟩)
             | ((with_reducible refine (M6.out _ (by apply And.left; with_reducible assumption)).mono ?_); rintro e x6 ⟨rfl, rfl⟩)
             | ((with_reducible refine (M7.out _ (by apply And.left; with_reducible assumption)).mono ?_); rintro e x7 ⟨v7, rfl, ho7, hb7⟩; obtain ⟨Q7, q7, rfl, _, hr7⟩ := SRow.of_own ho7)
             | ((with_reducible refine (M8.out _ (by apply And.left; with_reducible assumption)).mono ?_); rintro e x8 ⟨v8, rfl, ho8, hb8⟩; obtain ⟨Q8, q8, rfl, _, hr8⟩ := SRow.of_own ho8)
             | ((with_reducible refine (M5.out _ _ _ _ _ _ hp2 (by first | with_reducible exact hr7 | exact hr7.keep hb8) (by first | with_reducible exact hr8 | exact hr8.keep hb7)).mono ?_); rintro e x9 ⟨rfl, hb9⟩)
             | ((with_reducible refine (M10.out _ (by apply And.left; with_reducible assumption)).mono ?_); rintro e x10 ⟨rfl, hb10⟩)
             | ((with_reducible refine (M11.out _ (by apply And.left; with_reducible assumption)).mono ?_); rintro e x11 ⟨rfl, hb11⟩)
             | ((with_reducible refine (M12.out _ (by apply And.left; with_reducible assumption)).mono ?_); rintro e x12 ⟨rfl, hb12⟩)
             | ((with_reducible refine (M13.out _ (by apply And.left; with_reducible assumption)).mono ?_); rintro e x13 ⟨Q13, q13, rfl, hr13, hb13⟩)
             | ((with_reducible refine (M14.out _ (by apply And.left; with_reducible assumption)).mono ?_); rintro e x14 ⟨Q14, q14, rfl, hr14, hb14⟩)
             | ((with_reducible refine (M15.out _ _ _ _ _ (by first | with_reducible exact hr13 | exact RG.below hr13 hb14) (by first | with_reducible exact hr14 | exact RG.below hr14 hb13)).mono ?_); rintro e x15 ⟨rfl, hb15⟩))
    all_goals rename_i hHeld
    all_goals (have HF := Lib.hid (HX5.out _ hHeld.1); clear hHeld; go_wp2_with fail; go_ret; exact ⟨rfl, by first | exact HF.out | (rw [← hbp]; exact HF.out)⟩)
end Go.Proofs.YteabkbcbmimkgaaGreatDoor.HiP
