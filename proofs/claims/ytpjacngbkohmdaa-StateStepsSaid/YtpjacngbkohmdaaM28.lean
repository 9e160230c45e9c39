/- The walk of the law of what a policy reaches. -/
import Derived.Test.YtpjacngbkohmdaaM26
import Derived.Test.YtpjacngbkohmdaaM27
namespace Go.Proofs.Ytpjacngbkohmdaa.StP
set_option linter.unusedVariables false
set_option linter.unusedSimpArgs false
open Go.Shelf Go.RowKit Go.Sort Go.Lib Go.Proofs Go.Proofs.Ytpjacngbkohmdaa.Plain Go.Proofs.Ytpjacngbkohmdaa.SynP Go.Proofs.Ytpjacngbkohmdaa.Grown Go.Proofs.Ytpjacngbkohmdaa.SynC Go.Proofs.Ytpjacngbkohmdaa.SynD Go.Proofs.Ytpjacngbkohmdaa.SynD2 Go.Proofs.Ytpjacngbkohmdaa.SynD3 Go.Proofs.Ytpjacngbkohmdaa.QryP Go.Proofs.Ytpjacngbkohmdaa.PolA Go.Proofs.Ytpjacngbkohmdaa.PolE Go.Proofs.Ytpjacngbkohmdaa.PolOp Go.Proofs.Ytpjacngbkohmdaa.StA Go.Proofs.Ytpjacngbkohmdaa.StB Go.Proofs.Ytpjacngbkohmdaa.StC Go.Proofs.Ytpjacngbkohmdaa.StD Go.Proofs.Ytpjacngbkohmdaa.StE Go.Proofs.Ytpjacngbkohmdaa.StF Go.Proofs.Ytpjacngbkohmdaa.StG Go.Proofs.Ytpjacngbkohmdaa.StH Go.Proofs.Ytpjacngbkohmdaa.StI Go.Proofs.Ytpjacngbkohmdaa.StJ Go.Proofs.Ytpjacngbkohmdaa.StN
open Go.Proofs.Ytpjacngbkohmdaa.PolLi (Few)
set_option linter.unusedVariables false
set_option linter.unusedSimpArgs false
theorem of_mi (L M : List St) : ((sortL cmpS [] L).filter fun s => decide (s ∈ M) == false) = mi L M := by
  unfold mi
  congr 1
  funext s
  cases decide (s ∈ M) <;> rfl
theorem sameT (M : List St) (hM : M.length ≤ 10000) (w' : World) (A5 : Option Addr) (c5 : Nat) (A6 : Option Addr) (c6 : Nat) (h5 : SG w' A5 M) (h6 : SG w' A6 M) :
    Calls Try.prog 10 #[.slice A5 M.length c5, .slice A6 M.length c6] w' fun e wx => e = .returned (.bool true) ∧ Below w'.heap.size w' wx := by
  have h := RefSm.sameSS A5 A6 c5 c6 M M w' hM hM h5 h6
  rw [decide_eq_true rfl] at h
  exact h.mono fun e wx ⟨he, n, hw⟩ => ⟨he, by rw [hw]; exact below_drewN (Below.refl _ _) n⟩
set_option maxHeartbeats 4000000 in
set_option maxRecDepth 100000 in
theorem walk (p : Py) (A1 A2 A3 A4 : Option Addr) (c1 c2 c3 c4 : Nat) (B : Option Addr) (cb : Nat) (C : List St) (s : St) (w : World) (hcame : Came p) (hp : PG w A1 A2 A3 A4 p) (hC : C.length ≤ maxLen) (fC : ∀ s ∈ C, s.fit) (hB : SG w B C) (fs : s.fit) :
    Calls Try.prog 4 #[p.val A1 A2 A3 A4 c1 c2 c3 c4, .slice B C.length cb, s.val] w fun e w' => e = .returned (.bool true) ∧ Below w.heap.size w w' := by
  have HLp := Lib.hid (fun w' (hb : Below w.heap.size w w') => PolLi.light p A1 A2 A3 A4 c1 c2 c3 c4 w' hcame (hp.below hb))
  have HLc := Lib.hid (fun w' (hb : Below w.heap.size w w') => StH.light B cb C w' hC (hB.below hb))
  have HLs := Lib.hid (fun w' => SynM.light s w')
  have HLv := Lib.hid (fun w' => StK.lives w')
  have HGo := Lib.hid (fun w' (hb : Below w.heap.size w w') (n1 : Few p) (n4 : C.length ≤ 40) => gone p A1 A2 A3 A4 B c1 c2 c3 c4 cb C w' (by have := n1.n1; omega) (by omega) (hp.s.below hb) (hB.below hb) hcame.f1)
  have HAd := Lib.hid (fun w' (hb : Below w.heap.size w w') (n1 : Few p) (n4 : C.length ≤ 40) => added p A1 A2 A3 A4 B c1 c2 c3 c4 cb C w' (by have := n1.n1; omega) (by omega) (hp.s.below hb) (hB.below hb) fC)
  have HOf1 := Lib.hid (fun w' (hb : Below w.heap.size w w') (n1 : Few p) (n4 : C.length ≤ 40) => of_ B A1 cb c1 false C p.stmts w' (by omega) (by have := n1.n1; omega) (hB.below hb) (hp.s.below hb))
  have HOf2 := Lib.hid (fun w' (hb : Below w.heap.size w w') (n1 : Few p) (n4 : C.length ≤ 40) => of_ A1 B c1 cb false p.stmts C w' (by have := n1.n1; omega) (by omega) (hp.s.below hb) (hB.below hb))
  have HRe := Lib.hid (fun w' (hb : Below w.heap.size w w') (n1 : Few p) (n4 : C.length ≤ 40) => reaches p A1 A2 A3 A4 B c1 c2 c3 c4 cb C w' (by have := n1.n1; omega) (by have := n1.n2; omega) (by have := n1.n3; omega) (by omega) (hp.s.below hb) (hp.g.below hb) (hp.h.below hb) (hB.below hb) hcame.f1 fC)
  have HRr := Lib.hid (fun w' (hb : Below w.heap.size w w') (n1 : Few p) (n4 : C.length ≤ 40) => refReaches p A1 A2 A3 A4 B c1 c2 c3 c4 cb C w' (by have := n1.n1; omega) (by have := n1.n2; omega) (by have := n1.n3; omega) (by omega) (hp.s.below hb) (hp.g.below hb) (hp.h.below hb) (hB.below hb) fC)
  have HMc := Lib.hid (fun w' (hb : Below w.heap.size w w') (n1 : Few p) => mayCome p A1 A2 A3 A4 c1 c2 c3 c4 s w' (by have := n1.n2; omega) (hp.g.below hb) fs)
  have HMr := Lib.hid (fun w' (hb : Below w.heap.size w w') (n1 : Few p) => refCome p A1 A2 A3 A4 c1 c2 c3 c4 s w' (by have := n1.n2; omega) (hp.g.below hb) fs)
  have HMg := Lib.hid (fun w' (hb : Below w.heap.size w w') (n1 : Few p) => mayGo p A1 A2 A3 A4 c1 c2 c3 c4 s w' (by have := n1.n3; omega) (hp.h.below hb))
  have HHa := Lib.hid (fun w' (hb : Below w.heap.size w w') (n1 : Few p) => hasRefG A3 c3 p.shrink s.head w' (by have := n1.n3; omega) (hp.h.below hb))
  have hmi1 := of_mi C p.stmts
  have hmi2 := of_mi p.stmts C
  have hm1 : (sortL cmpS [] C).filter (fun s => !decide (s ∈ p.stmts)) = mi C p.stmts := rfl
  have hm2 : (sortL cmpS [] p.stmts).filter (fun s => !decide (s ∈ C)) = mi p.stmts C := rfl
  rw [hmi1] at HOf1
  rw [hmi2] at HOf2
  rw [hm1] at HAd
  rw [hm2] at HGo
  have hgo : go_ p s = !decide (s.head ∈ p.shrink) := rfl
  rw [hgo] at HMg
  have HL1 : Hid (C.length ≤ 40 → (mi C p.stmts).length ≤ 10000) := Lib.hid (fun h => by have := mi_len C p.stmts; omega)
  have HL2 : Hid (Few p → (mi p.stmts C).length ≤ 10000) := Lib.hid (fun h => by have := mi_len p.stmts C; have := h.n1; omega)
  unfold PolLi.LightPost at HLp
  unfold StH.LightPost at HLc
  unfold OwnPost at HGo HAd
  unfold RowPost at HOf1 HOf2
  clear hmi1 hmi2 hm1 hm2 hgo hp hB hcame fC fs hC
  generalize mi C p.stmts = M1 at *
  generalize mi p.stmts C = M2 at *
  generalize reach p C = ra at *
  generalize come p s = ca at *
  generalize decide (s.head ∈ p.shrink) = ha at *
  generalize SynM.lightS s = bs at *
  have HFw : Hid (∀ q : Prop, (Few p → q) → Few p → q) := Lib.hid (fun q h => h)
  obtain ⟨Fw, hFw⟩ : ∃ Fw : Prop, Few p = Fw := ⟨_, rfl⟩
  rw [hFw] at HLp HGo HAd HOf1 HOf2 HRe HRr HMc HMr HMg HHa HL2
  clear HFw hFw
  obtain ⟨S, G, H, Q⟩ := p
  obtain ⟨k1, ⟨ho, hn⟩, wh, ⟨ao, an⟩, ⟨bo, bn⟩, v1⟩ := s
  unfold Py.val at HLp HGo HAd HRe HRr HMc HMr HMg ⊢
  unfold St.val at HLs HMc HMr HMg ⊢
  unfold Rl.val at HHa
  dsimp only at HLp HLs HGo HAd HOf1 HOf2 HRe HRr HMc HMr HMg HHa ⊢
  obtain ⟨hbX, d0, x0⟩ := StG.two w A1 A2 A3 A4 c1 c2 c3 c4 S G H Q k1 ho hn wh ao an bo bn v1
  have hz : ((w.alloc (.cells #[.slice A1 S.length c1, .slice A2 G.length c2, .slice A3 H.length c3, .slice A4 Q.length c4] 40)).alloc (.cells #[.int .i64 k1, .string ho, .string hn, .string wh, .string ao, .string an, .string bo, .string bn, .string v1] 26)).heap.size = w.heap.size + 2 := by simp
  have HB0 := Lib.hid hbX
  clear hbX
  go_enter Try.func4, Try.ntmps4
  go_upto_region 1 with fail
  obtain ⟨b0, hb0⟩ : ∃ b0, w.heap.size = b0 := ⟨_, rfl⟩
  rw [hb0] at d0 hz
  simp only [hb0] at x0 ⊢
  obtain ⟨b1, hb1⟩ : ∃ b1, b0 + 1 = b1 := ⟨_, rfl⟩
  rw [hb1] at x0
  simp only [hb1] at ⊢
  generalize (w.alloc (.cells #[.slice A1 S.length c1, .slice A2 G.length c2, .slice A3 H.length c3, .slice A4 Q.length c4] 40)).alloc (.cells #[.int .i64 k1, .string ho, .string hn, .string wh, .string ao, .string an, .string bo, .string bn, .string v1] 26) = w0 at *
  have HD : Hid (∀ w', Below w0.heap.size w0 w' → (∀ o, w'.cell? ⟨b0, o, none⟩ = (#[.slice A1 S.length c1, .slice A2 G.length c2, .slice A3 H.length c3, .slice A4 Q.length c4] : Array Value)[o]?) ∧ ∀ o, w'.cell? ⟨b1, o, none⟩ = (#[.int .i64 k1, .string ho, .string hn, .string wh, .string ao, .string an, .string bo, .string bn, .string v1] : Array Value)[o]?) := Lib.hid (fun w' hb => ⟨fun o => (hb.cell (p := ⟨b0, o, none⟩) (by show b0 < _; omega)).trans (d0 o), fun o => (hb.cell (p := ⟨b1, o, none⟩) (by show b1 < _; omega)).trans (x0 o)⟩)
  have HLp1 := Lib.hid (HLp.out w0 HB0.out)
  clear hz hb0 hb1 HLp
  go_wp2_with fail
  refine HLp1.out.mono ?_
  rintro e w1 ⟨bp, rfl, hfp, hb1⟩
  have HB1 := Lib.hid hb1
  have HFP := Lib.hid hfp
  have HLc1 := Lib.hid (HLc.out w1 (nx HB0.out hb1))
  obtain ⟨d1, x1⟩ := HD.out w1 hb1
  clear hb1 hfp HLp1 HLc d0 x0
  cases bp with
  | false =>
    clear HFP HLc1 d1 x1
    go_wp2_with fail
    refine (HLv.out _).mono ?_
    rintro e w2 ⟨rfl, hb2⟩
    have HF := Lib.hid (nx HB0.out (nx HB1.out hb2))
    clear hb2
    go_wp2_with fail
    go_ret
    exact ⟨rfl, HF.out⟩
  | true =>
  go_wp2_with fail
  refine HLc1.out.mono ?_
  rintro e w2 ⟨bc, rfl, hfc, hb2⟩
  have HB2 := Lib.hid (nx HB1.out hb2)
  have HFC := Lib.hid hfc
  obtain ⟨d2, x2⟩ := HD.out w2 HB2.out
  clear hb2 hfc HLc1 HB1 d1 x1
  cases bc with
  | false =>
    clear HFP HFC d2 x2
    go_wp2_with fail
    refine (HLv.out _).mono ?_
    rintro e w3 ⟨rfl, hb3⟩
    have HF := Lib.hid (nx HB0.out (nx HB2.out hb3))
    clear hb3
    go_wp2_with fail
    go_ret
    exact ⟨rfl, HF.out⟩
  | true =>
  go_wp2_with fail
  refine (HLs.out _).mono ?_
  rintro e w3 ⟨rfl, hg3⟩
  have HB3 := Lib.hid (nx HB2.out hg3.below)
  clear hg3 HB2 d2 x2 HLs
  cases bs with
  | false =>
    clear HFP HFC
    go_wp2_with fail
    refine (HLv.out _).mono ?_
    rintro e w4 ⟨rfl, hb4⟩
    have HF := Lib.hid (nx HB0.out (nx HB3.out hb4))
    clear hb4
    go_wp2_with fail
    go_ret
    exact ⟨rfl, HF.out⟩
  | true =>
  have hfw := HFP.out (by trivial)
  have hlc := HFC.out (by trivial)
  have HW : Hid (∀ w', Below w3.heap.size w3 w' → Below w.heap.size w w') := Lib.hid (fun w' hb => nx HB0.out (nx HB3.out hb))
  have KRe := Lib.hid (fun w' (hb : Below w3.heap.size w3 w') => HRe.out w' (HW.out w' hb) hfw hlc)
  have KRr := Lib.hid (fun w' (hb : Below w3.heap.size w3 w') => HRr.out w' (HW.out w' hb) hfw hlc)
  have KAd := Lib.hid (fun w' (hb : Below w3.heap.size w3 w') => HAd.out w' (HW.out w' hb) hfw hlc)
  have KGo := Lib.hid (fun w' (hb : Below w3.heap.size w3 w') => HGo.out w' (HW.out w' hb) hfw hlc)
  have KO1 := Lib.hid (fun w' (hb : Below w3.heap.size w3 w') => HOf1.out w' (HW.out w' hb) hfw hlc)
  have KO2 := Lib.hid (fun w' (hb : Below w3.heap.size w3 w') => HOf2.out w' (HW.out w' hb) hfw hlc)
  have KMc := Lib.hid (fun w' (hb : Below w3.heap.size w3 w') => HMc.out w' (HW.out w' hb) hfw)
  have KMr := Lib.hid (fun w' (hb : Below w3.heap.size w3 w') => HMr.out w' (HW.out w' hb) hfw)
  have KMg := Lib.hid (fun w' (hb : Below w3.heap.size w3 w') => HMg.out w' (HW.out w' hb) hfw)
  have KHa := Lib.hid (fun w' (hb : Below w3.heap.size w3 w') => HHa.out w' (HW.out w' hb) hfw)
  have KS1 := Lib.hid (sameT M1 (HL1.out hlc))
  have KS2 := Lib.hid (sameT M2 (HL2.out hfw))
  have HK : Hid (∀ w', Below w3.heap.size w3 w' → Below w3.heap.size w3 w' ∧ (∀ o, w'.cell? ⟨b0, o, none⟩ = (#[.slice A1 S.length c1, .slice A2 G.length c2, .slice A3 H.length c3, .slice A4 Q.length c4] : Array Value)[o]?) ∧ ∀ o, w'.cell? ⟨b1, o, none⟩ = (#[.int .i64 k1, .string ho, .string hn, .string wh, .string ao, .string an, .string bo, .string bn, .string v1] : Array Value)[o]?) := Lib.hid (fun w' hb => ⟨hb, HD.out w' (nx HB3.out hb)⟩)
  have HS := Lib.hid (HK.out _ ((Below.refl w3.heap.size w3).drew))
  obtain ⟨d3, x3⟩ := HD.out w3 HB3.out
  clear HRe HRr HAd HGo HOf1 HOf2 HMc HMr HMg HHa HL1 HL2 HFP HFC hfw hlc HD HB0 HB3
  go_upto_region 3 with fail
  go_region_held3 (fun w' => Below w3.heap.size w3 w' ∧ (∀ o, w'.cell? ⟨b0, o, none⟩ = (#[.slice A1 S.length c1, .slice A2 G.length c2, .slice A3 H.length c3, .slice A4 Q.length c4] : Array Value)[o]?) ∧ ∀ o, w'.cell? ⟨b1, o, none⟩ = (#[.int .i64 k1, .string ho, .string hn, .string wh, .string ao, .string an, .string bo, .string bn, .string v1] : Array Value)[o]?)
    (first | with_reducible assumption | exact HS.out | exact HK.out _ (nx (by apply And.left; with_reducible assumption) (by with_reducible assumption)))
    (first | ((with_reducible refine (KRe.out _ (by apply And.left; with_reducible assumption)).mono ?_); rintro e wa ⟨rfl, hba⟩)
           | ((with_reducible refine (KRr.out _ (by apply And.left; with_reducible assumption)).mono ?_); rintro e wb ⟨rfl, hbb⟩)
           | ((with_reducible refine (KAd.out _ (by apply And.left; with_reducible assumption)).mono ?_); rintro e wc ⟨vc, rfl, hoc, hbc⟩; obtain ⟨Ac, cc, rfl, hsc⟩ := hoc.form)
           | ((with_reducible refine (KO1.out _ (by apply And.left; with_reducible assumption)).mono ?_); rintro e wd ⟨Ad, cd, rfl, hsd, hbd⟩)
           | ((with_reducible refine (KS1.out _ _ _ _ _ (by first | with_reducible exact hsc | exact SG.below hsc (by with_reducible assumption)) (by first | with_reducible exact hsd | exact SG.below hsd (by with_reducible assumption))).mono ?_); rintro e we ⟨rfl, hbe⟩)
           | ((with_reducible refine (KGo.out _ (by apply And.left; with_reducible assumption)).mono ?_); rintro e wf ⟨vf, rfl, hof, hbf⟩; obtain ⟨Af, cf, rfl, hsf⟩ := hof.form)
           | ((with_reducible refine (KO2.out _ (by apply And.left; with_reducible assumption)).mono ?_); rintro e wg ⟨Ag, cg, rfl, hsg, hbg⟩)
           | ((with_reducible refine (KS2.out _ _ _ _ _ (by first | with_reducible exact hsf | exact SG.below hsf (by with_reducible assumption)) (by first | with_reducible exact hsg | exact SG.below hsg (by with_reducible assumption))).mono ?_); rintro e wh' ⟨rfl, hbh⟩)
           | ((with_reducible refine (KMc.out _ (by apply And.left; with_reducible assumption)).mono ?_); rintro e wi ⟨rfl, hbi⟩)
           | ((with_reducible refine (KMr.out _ (by apply And.left; with_reducible assumption)).mono ?_); rintro e wj ⟨rfl, hbj⟩)
           | ((with_reducible refine (KMg.out _ (by apply And.left; with_reducible assumption)).mono ?_); rintro e wk ⟨rfl, hbk⟩)
           | ((with_reducible refine (KHa.out _ (by apply And.left; with_reducible assumption)).mono ?_); rintro e wl ⟨rfl, hbl⟩)
           | ((with_reducible refine (HLv.out _).mono ?_); rintro e wm ⟨rfl, hbm⟩))
  all_goals rename_i hHeld
  all_goals (have HF := Lib.hid (HW.out _ hHeld.1); clear hHeld; go_wp2_with fail; go_ret; exact ⟨ret_bool (by first | rfl | simp), HF.out⟩)
end Go.Proofs.Ytpjacngbkohmdaa.StP
