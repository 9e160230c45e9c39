/- The walk of the law of the least state. -/
import Derived.Test.YtcmdiomjhideiaaGreatDoorM24
import Derived.Test.YtcmdiomjhideiaaGreatDoorM25
import Derived.Test.YtcmdiomjhideiaaGreatDoorM17
namespace Go.Proofs.YtcmdiomjhideiaaGreatDoor.LwU
set_option linter.unusedVariables false
set_option linter.unusedSimpArgs false
open Go.RowKit Go.Sort Go.Lib Go.Proofs Go.Proofs.YtcmdiomjhideiaaGreatDoor.Plain Go.Proofs.YtcmdiomjhideiaaGreatDoor.SynP Go.Proofs.YtcmdiomjhideiaaGreatDoor.TabP Go.Proofs.YtcmdiomjhideiaaGreatDoor.Tab1 Go.Proofs.YtcmdiomjhideiaaGreatDoor.Tab5 Go.Proofs.YtcmdiomjhideiaaGreatDoor.PolA Go.Proofs.YtcmdiomjhideiaaGreatDoor.PolE Go.Proofs.YtcmdiomjhideiaaGreatDoor.PolG Go.Proofs.YtcmdiomjhideiaaGreatDoor.PolH Go.Proofs.YtcmdiomjhideiaaGreatDoor.PolOp Go.Proofs.YtcmdiomjhideiaaGreatDoor.PolLi Go.Proofs.YtcmdiomjhideiaaGreatDoor.RefPr Go.Proofs.YtcmdiomjhideiaaGreatDoor.RefSm Go.Proofs.YtcmdiomjhideiaaGreatDoor.TblA Go.Proofs.YtcmdiomjhideiaaGreatDoor.TblB Go.Proofs.YtcmdiomjhideiaaGreatDoor.TblC Go.Proofs.YtcmdiomjhideiaaGreatDoor.TblP Go.Proofs.YtcmdiomjhideiaaGreatDoor.TblQ Go.Proofs.YtcmdiomjhideiaaGreatDoor.TblR Go.Proofs.YtcmdiomjhideiaaGreatDoor.SetJ Go.Proofs.YtcmdiomjhideiaaGreatDoor.SetR Go.Proofs.YtcmdiomjhideiaaGreatDoor.SemA Go.Proofs.YtcmdiomjhideiaaGreatDoor.SemGa Go.Proofs.YtcmdiomjhideiaaGreatDoor.StB Go.Proofs.YtcmdiomjhideiaaGreatDoor.StR Go.Proofs.YtcmdiomjhideiaaGreatDoor.LwA Go.Proofs.YtcmdiomjhideiaaGreatDoor.LwD Go.Proofs.YtcmdiomjhideiaaGreatDoor.LwE Go.Proofs.YtcmdiomjhideiaaGreatDoor.LwG Go.Proofs.YtcmdiomjhideiaaGreatDoor.LwH Go.Proofs.YtcmdiomjhideiaaGreatDoor.LwM Go.Proofs.YtcmdiomjhideiaaGreatDoor.LwT
set_option linter.unusedVariables false
set_option linter.unusedSimpArgs false
abbrev nx := @LwH.nx
set_option maxHeartbeats 8000000 in
set_option maxRecDepth 100000 in
theorem law (p : Py) (A1 A2 A3 A4 : Option Addr) (c1 c2 c3 c4 : Nat) (r : Rl) (w : World) (hT : Tab w) (hc : Came p) (hp : PG w A1 A2 A3 A4 p) :
    Calls Tryz.prog 3 #[p.val A1 A2 A3 A4 c1 c2 c3 c4, r.val] w fun e w' => e = .returned (.bool true) ∧ Below w.heap.size w w' := by
  have hbX : Below w.heap.size w ((w.alloc (.cells #[.slice A1 p.stmts.length c1, .slice A2 p.grow.length c2, .slice A3 p.shrink.length c3, .slice A4 p.asks.length c4] 26)).alloc (.cells #[.string r.owner, .string r.name] 28)) := ((Below.refl _ _).alloc (Nat.le_refl _) _).alloc (by simp) _
  have HLi := Lib.hid (fun w' (hb : Below w.heap.size w w') => PolLi.light p A1 A2 A3 A4 c1 c2 c3 c4 w' hc (hp.below hb))
  have HLv := Lib.hid (fun w' (hb : Below w.heap.size w w') => LwL.lives w' (Tab.below hT hb))
  have HRi := Lib.hid (fun w' (hb : Below w.heap.size w w') (hf : Few p) => StR.rightRef5 p A1 A2 A3 A4 c1 c2 c3 c4 w' (hf.fit hc) (hp.below hb))
  have HMr := Lib.hid (fun w' (hb : Below w.heap.size w w') (hf : Few p) => LwF.minRef p A1 A2 A3 A4 c1 c2 c3 c4 w' (by have := hf.n1; omega) (by have := hf.n3; omega) (hp.below hb).s (hp.below hb).h)
  have HMi := Lib.hid (fun w' (hb : Below w.heap.size w w') (hf : Few p) => LwG.minimal p A1 A2 A3 A4 c1 c2 c3 c4 w' (by have := hf.n1; omega) (by have := hf.n3; omega) hc.f1 (hp.below hb).s (hp.below hb).h)
  have HEv := Lib.hid (fun w' (hb : Below w.heap.size w w') (hf : Few p) (hr : Rt p) => lowEval p A1 A2 A3 A4 c1 c2 c3 c4 w' (Tab.below hT hb) hf hc (hp.below hb) (by have := hr.ps; omega) (by have := hr.ns; omega))
  have HMe := Lib.hid (fun w' (hb : Below w.heap.size w w') (hf : Few p) (hr : Rt p) => lowMembers p A1 A2 A3 A4 c1 c2 c3 c4 r (PT p) (NT p) (rulesOf (PT p) (NT p) (minS p)) w' (Tab.below hT hb) (by have := hr.ps; omega) (fun w'' hb2 => HEv.out w'' (nx hb hb2) hf hr))
  have HPr := Lib.hid (fun w' (hb : Below w.heap.size w w') (hf : Few p) => RefPq.prinsRef p A1 A2 A3 A4 c1 c2 c3 c4 w' (hf.fit hc) (by have := hf.n4; omega) (hp.below hb))
  have epr : fold (RefPq.prinsD p) = PT p := RefFi.prins_eq p
  rw [epr] at HPr
  have HTb := Lib.hid (fun w' (hb : Below w.heap.size w w') => Tab.below hT hb)
  have HRt := Lib.hid (fun (h : rightR p = true) => rt_of h)
  have HOk := Lib.hid (fun (h : Rt p) => min_ok h.st)
  have HPu := Lib.hid (LwL.pt_up p)
  have HNu := Lib.hid (nt_up p)
  have HMl : Hid (Few p → (minS p).length ≤ 30) := Lib.hid (fun hf => Nat.le_trans (by unfold minS; exact List.length_filter_le _ _) hf.n1)
  have HPS := Lib.hid (fun (h : Rt p) => h.ps)
  have HNS := Lib.hid (fun (h : Rt p) => h.ns)
  clear hc hp hT epr
  obtain ⟨RR, hRR⟩ : ∃ b, rightR p = b := ⟨_, rfl⟩
  rw [hRR] at HRi HRt
  unfold LightPost at HLi
  unfold StI.RowPost at HMr
  unfold OwnPost at HMi
  unfold TMPost TM at HEv
  unfold Tab5.RowPost at HMe HPr
  generalize hPT : PT p = PP at *
  generalize hNT : NT p = NN at *
  generalize hMS : minS p = M at *
  clear hPT hNT hMS hRR
  obtain ⟨FW, hFW⟩ : ∃ q, Few p = q := ⟨_, rfl⟩
  obtain ⟨RP, hRP⟩ : ∃ q, Rt p = q := ⟨_, rfl⟩
  rw [hFW] at HLi HRi HMr HMi HEv HMe HPr HMl
  rw [hRP] at HEv HMe HRt HOk HPS HNS
  clear hFW hRP
  obtain ⟨S, G, H, Q⟩ := p
  obtain ⟨ro, rn⟩ := r
  unfold Py.val Rl.val at *
  dsimp only at *
  have HB0 := Lib.hid hbX
  have hc1 := fun o => Lib.cell_of_heap (heap_alloc2_old w (.cells #[.slice A1 S.length c1, .slice A2 G.length c2, .slice A3 H.length c3, .slice A4 Q.length c4] 26) (.cells #[.string ro, .string rn] 28)) o
  have hc2 := fun o => Lib.cell_of_heap (heap_alloc2_new w (.cells #[.slice A1 S.length c1, .slice A2 G.length c2, .slice A3 H.length c3, .slice A4 Q.length c4] 26) (.cells #[.string ro, .string rn] 28)) o
  have hlt : w.heap.size + 1 < ((w.alloc (.cells #[.slice A1 S.length c1, .slice A2 G.length c2, .slice A3 H.length c3, .slice A4 Q.length c4] 26)).alloc (.cells #[.string ro, .string rn] 28)).heap.size := by simp
  clear hbX
  go_enter Tryz.func3, Tryz.ntmps3
  go_upto_region 1 with fail
  obtain ⟨bp, hbp⟩ : ∃ bp, w.heap.size = bp := ⟨_, rfl⟩
  simp only [hbp] at hc1 hc2 hlt ⊢
  generalize (w.alloc (.cells #[.slice A1 S.length c1, .slice A2 G.length c2, .slice A3 H.length c3, .slice A4 Q.length c4] 26)).alloc (.cells #[.string ro, .string rn] 28) = w0 at *
  have HC := Lib.hid (fun w' (hb : Below w0.heap.size w0 w') => And.intro (fun o => (hb.cell (p := ⟨bp, o, none⟩) (by show bp < _; omega)).trans (hc1 o)) (fun o => (hb.cell (p := ⟨bp + 1, o, none⟩) hlt).trans (hc2 o)))
  have HX := Lib.hid (fun w' (hb : Below w0.heap.size w0 w') => nx HB0.out hb)
  clear hc2 hlt
  go_wp2_with fail
  refine (HLi.out _ HB0.out).mono ?_
  rintro e w1 ⟨b1, rfl, hfew, hb1⟩
  have HW1 := Lib.hid hb1
  clear hb1 hc1 HLi
  have fin : ∀ (wx : World), Below w0.heap.size w0 wx → Calls Tryz.prog 14 #[] wx fun e w' => e = .returned (.bool true) ∧ Below wx.heap.size wx w' := fun wx h => HLv.out wx (HX.out wx h)
  have HFin := Lib.hid fin
  clear fin HLv
  cases b1
  · clear hfew
    go_wp2_with fail
    refine (HFin.out _ HW1.out).mono ?_
    rintro e w2 ⟨rfl, hb2⟩
    have HF := Lib.hid (HX.out _ (nx HW1.out hb2))
    clear hb2
    go_wp2_with fail
    go_ret
    exact ⟨rfl, by first | exact HF.out | (rw [← hbp]; exact HF.out)⟩
  · have HFw := Lib.hid (hfew rfl)
    have hc1 := (HC.out w1 HW1.out).1
    clear hfew
    go_wp2_with fail
    refine (HRi.out _ (HX.out _ HW1.out) HFw.out).mono ?_
    rintro e w2 ⟨rfl, hb2⟩
    have HW2 := Lib.hid (nx HW1.out hb2)
    clear hb2 hc1 HRi
    cases RR
    · go_wp2_with fail
      refine (HFin.out _ HW2.out).mono ?_
      rintro e w3 ⟨rfl, hb3⟩
      have HF := Lib.hid (HX.out _ (nx HW2.out hb3))
      clear hb3
      go_wp2_with fail
      go_ret
      exact ⟨rfl, by first | exact HF.out | (rw [← hbp]; exact HF.out)⟩
    · have HR := Lib.hid (HRt.out rfl)
      have hc1 := (HC.out w2 HW2.out).1
      go_wp2_with fail
      refine (HMr.out _ (HX.out _ HW2.out) HFw.out).mono ?_
      rintro e w3 ⟨AM, cM, rfl, hsg, hb3⟩
      have HW3 := Lib.hid (nx HW2.out hb3)
      have HSG := Lib.hid hsg
      have hml := HMl.out HFw.out
      clear hb3 hsg hc1 HMr
      go_wp2_with fail
      refine (evalN AM cM M _ (by omega) HSG.out).mono ?_
      intro e w4 hpost
      unfold EvPost at hpost
      obtain ⟨v4, X, rfl, hown4, hnd, hX, hlX, hb4⟩ := hpost
      have hlX2 : X.length ≤ 900 := Nat.le_trans hlX (Nat.le_trans (Nat.mul_le_mul hml hml) (by omega))
      obtain ⟨AX, cX, rfl, _, hpx⟩ := pa_own hown4
      have HW4 := Lib.hid (nx HW3.out hb4)
      have HPX := Lib.hid hpx
      have HDX := Lib.hid hX
      have HSG4 := Lib.hid (HSG.out.below hb4)
      have hc1 := (HC.out w4 HW4.out).1
      clear hown4 hnd hX hlX hb4 hpx HSG
      go_wp2_with fail
      refine (HEv.out _ (HX.out _ HW4.out) HFw.out HR.out).mono ?_
      rintro e w5 ⟨v1, v2, rfl, ⟨t, a, b, B1, d1, B2, d2, mo, st, rfl, rfl, htb, hmo⟩, hb5⟩
      have HW5 := Lib.hid (nx HW4.out hb5)
      have HTB := Lib.hid (fun w' (hb : Below w5.heap.size w5 w') => htb.keep hb)
      have HMO := Lib.hid (fun w' (hb : Below w5.heap.size w5 w') => (hmo.below hb).mo)
      have HPX5 := Lib.hid (fun w' (hb : Below w5.heap.size w5 w') => HPX.out.below (nx hb5 hb))
      have HSG5 := Lib.hid (fun w' (hb : Below w5.heap.size w5 w') => HSG4.out.below (nx hb5 hb))
      have HX5 := Lib.hid (fun w' (hb : Below w5.heap.size w5 w') => HX.out w' (nx HW5.out hb))
      have HC5 := Lib.hid (fun w' (hb : Below w5.heap.size w5 w') => HC.out w' (nx HW5.out hb))
      have hps := HPS.out HR.out
      have hns := HNS.out HR.out
      have hpn : PP.length * NN.length ≤ 16 * 12 := Nat.mul_le_mul hps hns
      have HOK := Lib.hid (HOk.out HR.out)
      obtain ⟨n, hn⟩ : ∃ n, PP.length * NN.length = n := ⟨_, rfl⟩
      have HLen : Hid (∀ k, k < n → (memD PP.length NN.length (rulesOf PP NN M) (k : Int)).length = (memF X (rolI PP NN (k : Int))).length) := Lib.hid (fun k hk => len_same HPu.out HNu.out HOK.out HDX.out (by rw [hn]; exact hk))
      have HSam : Hid (memF X ⟨ro, rn⟩ = memT PP NN (rulesOf PP NN M) ⟨ro, rn⟩) := Lib.hid (mem_same HPu.out HOK.out HDX.out ⟨ro, rn⟩).symm
      have HRo := Lib.hid (TblA.roles htb)
      rw [hn] at HRo hpn
      obtain ⟨T, hTe⟩ : ∃ T, rulesOf PP NN M = T := ⟨_, rfl⟩
      rw [hTe] at HMe HMO HLen HSam
      clear hb5 hc1 htb hmo HPX HSG4 HC HX HOk HOK HDX HPS HNS HRt HEv hn hTe
      go_wp2_with fail
      refine HRo.out.mono ?_
      rintro e w6 ⟨rfl, rfl⟩
      clear HRo
      go_wp2_with fail
      go_loopw [30] (fun i wr => ∃ k : Nat, k ≤ n ∧ i = .int .i64 k ∧ Below w5.heap.size w5 wr) (fun i _ => n - (intOf i).toNat)
      case atStart => exact ⟨0, by omega, rfl, Below.refl _ _⟩
      case round =>
        obtain ⟨k, hk, rfl, hb⟩ := hrel
        by_cases hlt : k < n
        · have e1 : decide ((k : Int) < n) = true := by simp; omega
          have H1 := Lib.hid (membersM (HMO.out wr hb) (HTb.out wr (HX5.out wr hb)) (k : Int))
          have H2 := Lib.hid (fun w' (hb' : Below wr.heap.size wr w') => TblR.roleAt (HTB.out w' (nx hb hb')) (k : Int))
          have H3 := Lib.hid (fun w' (hb' : Below wr.heap.size wr w') => membersN AX cX X (rolI PP NN (k : Int)) w' (by omega) (HPX5.out w' (nx hb hb')))
          have hlen := HLen.out k hlt
          obtain ⟨D, hD⟩ : ∃ D, memD PP.length NN.length T (k : Int) = D := ⟨_, rfl⟩
          obtain ⟨F, hF⟩ : ∃ F, memF X (rolI PP NN (k : Int)) = F := ⟨_, rfl⟩
          rw [hD] at H1 hlen
          rw [hF] at H3 hlen
          obtain ⟨rk, hrk⟩ : ∃ rk, rolI PP NN (k : Int) = rk := ⟨_, rfl⟩
          rw [hrk] at H2 H3
          obtain ⟨o1, n1⟩ := rk
          unfold Rl.val at H2 H3
          unfold ListPost at H1
          unfold Tab5.RowPost at H3
          have HBr := Lib.hid hb
          clear hD hF hrk hb
          go_wp2_with fail
          refine H1.out.mono ?_
          rintro e w7 ⟨v7, rfl, ho7, hb7⟩
          obtain ⟨A7, k7, rfl, _⟩ := ng_own ho7
          have HB7 := Lib.hid hb7
          clear ho7 hb7 H1
          go_wp2_with fail
          refine (H2.out _ HB7.out).mono ?_
          rintro e w8 ⟨rfl, hb8⟩
          have HB8 := Lib.hid (nx HB7.out hb8)
          clear hb8 H2
          go_wp2_with fail
          refine (H3.out _ HB8.out).mono ?_
          rintro e w9 ⟨v9, rfl, ho9, hb9⟩
          obtain ⟨A9, k9, rfl, _, _⟩ := SRow.of_own ho9
          have HB9 := Lib.hid (nx HBr.out (nx HB8.out hb9))
          have e2 : ((D.length : Int) != (F.length : Int)) = false := by rw [hlen]; simp
          have e3 : decide ((D.length : Int) = (F.length : Int)) = true := by rw [hlen]; simp
          have e4 : (D.length != F.length) = false := by rw [hlen]; simp
          have e5 : decide (D.length = F.length) = true := by rw [hlen]; simp
          clear ho9 hb9 H3 hlen
          go_wp2_with fail
          go_roundw
          case rel => exact ⟨k + 1, by omega, by go_num, HB9.out⟩
          case measure => simp [intOf]; omega
        · have e1 : decide ((k : Int) < n) = false := by simp; omega
          have HBw := Lib.hid hb
          have M1 := Lib.hid (fun w' (hb' : Below wr.heap.size wr w') => HMi.out w' (HX5.out w' (nx HBw.out hb')) HFw.out)
          have M2 : Hid (∀ A5 k5 w', Below wr.heap.size wr w' → SG w' A5 M → Calls Tryz.prog 22 #[.slice A5 M.length k5, .slice AM M.length cM] w' fun e w'' => e = .returned (.bool true) ∧ Below w'.heap.size w' w'') := Lib.hid (fun A5 k5 w' hb' hs => by
            have h := sameSS A5 AM k5 cM M M w' (by omega) (by omega) hs (HSG5.out w' (nx HBw.out hb'))
            rw [decide_eq_true rfl] at h
            exact h.mono (fun e w'' ⟨he, q, hw⟩ => ⟨he, by rw [hw]; exact below_drewN (Below.refl _ _) q⟩))
          have M3 := Lib.hid (fun w' (hb' : Below wr.heap.size wr w') => HMe.out w' (HX5.out w' (nx HBw.out hb')) HFw.out HR.out)
          have M4 := Lib.hid (fun w' (hb' : Below wr.heap.size wr w') => membersN AX cX X ⟨ro, rn⟩ w' (by omega) (HPX5.out w' (nx HBw.out hb')))
          rw [HSam.out] at M4
          have hmtl : (memT PP NN T ⟨ro, rn⟩).length ≤ 16 := by
            unfold memT
            rw [List.length_map]
            exact Nat.le_trans (memD_len _ _ _ _) hps
          obtain ⟨MT, hMT⟩ : ∃ MT, memT PP NN T ⟨ro, rn⟩ = MT := ⟨_, rfl⟩
          rw [hMT] at M3 M4 hmtl
          have M5 : Hid (∀ (U : List Str) A B ca cb w', U.length ≤ 1000 → SRow w' A U → SRow w' B U → Calls Tryz.prog 24 #[.slice A U.length ca, .slice B U.length cb] w' fun e w'' => e = .returned (.bool true) ∧ Below w'.heap.size w' w'') := Lib.hid (fun U A B ca cb w' hl h1 h2 =>
            (Tab3.same A B ca cb U w' (by omega) h1 h2).mono (fun e w'' ⟨he, q, hw⟩ => ⟨he, by rw [hw]; exact below_drewN (Below.refl _ _) q⟩))
          have M6 := Lib.hid (fun w' (hb' : Below wr.heap.size wr w') => TblA.prins (HTB.out w' (nx HBw.out hb')))
          have M7 := Lib.hid (fun w' (hb' : Below wr.heap.size wr w') => Tab7.all a B1 PP d1 w' (HTB.out w' (nx HBw.out hb')).a0 (by omega) (HTB.out w' (nx HBw.out hb')).ra)
          have M8 := Lib.hid (fun w' (hb' : Below wr.heap.size wr w') => HPr.out w' (HX5.out w' (nx HBw.out hb')) HFw.out)
          have M10 := Lib.hid (fun w' (hb' : Below wr.heap.size wr w') => HFin.out w' (nx HW5.out (nx HBw.out hb')))
          have HKK := Lib.hid (fun w' (hb' : Below wr.heap.size wr w') => And.intro hb' (HC5.out w' (nx HBw.out hb')))
          have hst := HKK.out wr.drew ((Below.refl _ _).drew)
          have hp1 : MT.length ≤ 1000 := by omega
          have hp2 : PP.length ≤ 1000 := by omega
          unfold Rl.val Tab5.RowPost at M4
          unfold Tab5.RowPost at M7
          clear hb HMi HMe HPr HMO HTB HPX5 HSG5 HLen HSam HTb HFin hMT
          go_upto_region 12 with fail
          go_region_held3 (fun w' => Below wr.heap.size wr w' ∧ (∀ o, w'.cell? ⟨bp, o, none⟩ = (#[.slice A1 S.length c1, .slice A2 G.length c2, .slice A3 H.length c3, .slice A4 Q.length c4] : Array Value)[o]?) ∧ (∀ o, w'.cell? ⟨bp + 1, o, none⟩ = (#[.string ro, .string rn] : Array Value)[o]?))
            (first | with_reducible exact hst | with_reducible assumption | exact HKK.out _ (nx (by apply And.left; with_reducible assumption) (by with_reducible assumption)))
            (first | ((with_reducible refine (M1.out _ (by apply And.left; with_reducible assumption)).mono ?_); rintro e x1 ⟨v1, rfl, ho1, hb1⟩; obtain ⟨Q1, q1, rfl, hs1⟩ := ho1.form)
                   | ((with_reducible refine (M2.out _ _ _ (by apply And.left; with_reducible assumption) hs1).mono ?_); rintro e x2 ⟨rfl, hb2⟩)
                   | ((with_reducible refine (M3.out _ (by apply And.left; with_reducible assumption)).mono ?_); rintro e x3 ⟨v3, rfl, ho3, hb3⟩; obtain ⟨Q3, q3, rfl, _, hr3⟩ := SRow.of_own ho3)
                   | ((with_reducible refine (M4.out _ (by apply And.left; with_reducible assumption)).mono ?_); rintro e x4 ⟨v4, rfl, ho4, hb4⟩; obtain ⟨Q4, q4, rfl, _, hr4⟩ := SRow.of_own ho4)
                   | ((with_reducible refine (M5.out _ _ _ _ _ _ hp1 (by first | with_reducible exact hr3 | exact hr3.keep hb4) (by first | with_reducible exact hr4 | exact hr4.keep hb3)).mono ?_); rintro e x5 ⟨rfl, hb5⟩)
                   | ((with_reducible refine (M6.out _ (by apply And.left; with_reducible assumption)).mono ?_); rintro e x6 ⟨rfl, rfl⟩)
                   | ((with_reducible refine (M7.out _ (by apply And.left; with_reducible assumption)).mono ?_); rintro e x7 ⟨v7, rfl, ho7, hb7⟩; obtain ⟨Q7, q7, rfl, _, hr7⟩ := SRow.of_own ho7)
                   | ((with_reducible refine (M8.out _ (by apply And.left; with_reducible assumption)).mono ?_); rintro e x8 ⟨v8, rfl, ho8, hb8⟩; obtain ⟨Q8, q8, rfl, _, hr8⟩ := SRow.of_own ho8)
                   | ((with_reducible refine (M5.out _ _ _ _ _ _ hp2 (by first | with_reducible exact hr7 | exact hr7.keep hb8) (by first | with_reducible exact hr8 | exact hr8.keep hb7)).mono ?_); rintro e x9 ⟨rfl, hb9⟩)
                   | ((with_reducible refine (M10.out _ (by apply And.left; with_reducible assumption)).mono ?_); rintro e x10 ⟨rfl, hb10⟩))
          all_goals rename_i hHeld
          all_goals (have HF := Lib.hid (nx (HX5.out wr HBw.out) hHeld.1); clear hHeld; go_wp2_with fail; go_ret; exact ⟨rfl, by first | exact HF.out | (rw [← hbp]; exact HF.out)⟩)
end Go.Proofs.YtcmdiomjhideiaaGreatDoor.LwU
