/- Where just one of two diagrams is true (differ), by contract. -/
import Derived.Test.YtnkkmppmfjekeaaItI
namespace Go.Proofs.Ytnkkmppmfjekeaa.ItJ
open Go.RowKit Go.Lib Go.Proofs Go.Proofs.Ytnkkmppmfjekeaa.CaA Go.Proofs.Ytnkkmppmfjekeaa.CaB Go.Proofs.Ytnkkmppmfjekeaa.CaC Go.Proofs.Ytnkkmppmfjekeaa.CaD Go.Proofs.Ytnkkmppmfjekeaa.NdA Go.Proofs.Ytnkkmppmfjekeaa.NdB Go.Proofs.Ytnkkmppmfjekeaa.NdC Go.Proofs.Ytnkkmppmfjekeaa.NdE Go.Proofs.Ytnkkmppmfjekeaa.NdG Go.Proofs.Ytnkkmppmfjekeaa.NdI Go.Proofs.Ytnkkmppmfjekeaa.ItA Go.Proofs.Ytnkkmppmfjekeaa.ItB Go.Proofs.Ytnkkmppmfjekeaa.ItD Go.Proofs.Ytnkkmppmfjekeaa.ItE Go.Proofs.Ytnkkmppmfjekeaa.ItF Go.Proofs.Ytnkkmppmfjekeaa.ItH Go.Proofs.Ytnkkmppmfjekeaa.ItI
set_option linter.unusedVariables false
set_option linter.unusedSimpArgs false
theorem xor_comm (L : List Nd) (f g : Int) : xorF L f g = xorF L g f := by
  funext b
  unfold xorF
  cases ev L b f <;> cases ev L b g <;> rfl
set_option maxHeartbeats 8000000 in
set_option maxRecDepth 100000 in
theorem differ_ (D c : Nat) : ∀ (n : Nat) (x : Bx) (s : St) (N : Nat) (w : World) (f g : Int), Bd w D x c s N → Dg s n f → Dg s n g → s.L.length + 2 ^ n ≤ 119900 → N + 2 ^ n ≤ 900000 →
    Calls Try.prog 65 #[.pointer (some ⟨D, 0, none⟩), .int .i64 f, .int .i64 g] w (ChPost D x c s N n (xorF s.L f g) w) := fun n => by
  induction n using Nat.strongRecOn with
  | _ n ih =>
    intro x s N w f g H df0 dg0 hL hN
    have hpk : ∃ f1 g1 : Int, min f g = f1 ∧ max f g = g1 ∧ Dg s n f1 ∧ Dg s n g1 ∧ xorF s.L f1 g1 = xorF s.L f g := by
      by_cases h : g < f
      · exact ⟨g, f, by omega, by omega, dg0, df0, xor_comm _ _ _⟩
      · exact ⟨f, g, by omega, by omega, df0, dg0, rfl⟩
    obtain ⟨f1, g1, hmn, hmx, df, dg, hxe⟩ := hpk
    rw [← hxe]
    unfold ChPost
    have HMn := Lib.hid hmn
    have HMx := Lib.hid hmx
    clear df0 dg0 hmn hmx hxe
    have hwf := H.tk.tb.wf
    have hIv := H.inv
    have hpp := pow_pos' n
    have HSp := Lib.hid (spent_ H)
    cases hs : s.spent with
    | true =>
      rw [hs] at HSp
      have HE := Lib.hid (And.intro (res_spent hIv hs (top s.vars s.L (xorF s.L f1 g1)).1 (top s.vars s.L (xorF s.L f1 g1)).2) (up_more (H.upto (Below.refl _ w)) (show N ≤ N + 2 ^ n by omega)))
      clear H ih df dg hL hN hwf hIv hs hpp
      go_enter Try.func65, Try.ntmps65
      go_upto_region 2 with fail
      try simp only [HMn.out, HMx.out]
      go_wp2_with fail
      refine HSp.out.mono ?_
      rintro e w' ⟨rfl, rfl⟩
      go_wp2_with fail
      go_ret
      exact ⟨_, _, rfl, HE.out.1, HE.out.2⟩
    | false =>
      rw [hs] at HSp
      have HU := Lib.hid (up_more (H.upto (Below.refl _ w)) (show N ≤ N + 2 ^ n by omega))
      by_cases e1 : f1 = g1
      · have HE := Lib.hid (res_id hwf hIv hs (F := xorF s.L f1 g1) (zero_is s) (fun b => by unfold xorF; rw [e1, ev_zero]; cases ev s.L b g1 <;> rfl))
        have b1 : (f1 == g1) = true := by simp [e1]
        clear H ih df dg hL hN hwf hIv hs hpp e1
        go_enter Try.func65, Try.ntmps65
        go_upto_region 2 with fail
        try simp only [HMn.out, HMx.out]
        go_wp2_with fail
        refine HSp.out.mono ?_
        rintro e w' ⟨rfl, rfl⟩
        go_wp2_with fail
        go_ret
        exact ⟨_, _, rfl, HE.out, HU.out⟩
      · have b1 : (f1 == g1) = false := by simp [e1]
        by_cases e3 : f1 = 0
        · have HE := Lib.hid (res_id hwf hIv hs (F := xorF s.L f1 g1) dg.is (fun b => by unfold xorF; rw [e3, ev_zero]; cases ev s.L b g1 <;> rfl))
          have b3 : (f1 == 0) = true := by simp [e3]
          clear H ih df dg hL hN hwf hIv hs hpp e1 e3
          go_enter Try.func65, Try.ntmps65
          go_upto_region 2 with fail
          try simp only [HMn.out, HMx.out]
          go_wp2_with fail
          refine HSp.out.mono ?_
          rintro e w' ⟨rfl, rfl⟩
          go_wp2_with fail
          go_ret
          exact ⟨_, _, rfl, HE.out, HU.out⟩
        · have b3 : (f1 == 0) = false := by simp [e3]
          by_cases e4 : f1 = 1
          · have hC := choose_ D c n x s N w g1 0 1 H dg (zero_dg s n) (one_dg s n) hL hN
            have hF : iteF s.L g1 0 1 = xorF s.L f1 g1 := by
              funext b
              unfold iteF xorF
              rw [e4, ev_zero, ev_one]
              cases ev s.L b g1 <;> rfl
            rw [hF] at hC
            have HC := Lib.hid hC
            unfold ChPost at HC
            have b4 : (f1 == 1) = true := by simp [e4]
            clear H ih df dg hL hN hwf hIv hs hpp e1 e3 e4 hC hF
            go_enter Try.func65, Try.ntmps65
            go_upto_region 2 with fail
            try simp only [HMn.out, HMx.out]
            go_wp2_with fail
            refine HSp.out.mono ?_
            rintro e w' ⟨rfl, rfl⟩
            go_wp2_with fail
            refine HC.out.mono ?_
            rintro e w1 ⟨a, s1, rfl, hR, hU⟩
            have HE := Lib.hid (And.intro hR hU)
            clear hR hU HC
            go_wp2_with fail
            go_ret
            exact ⟨_, _, rfl, HE.out.1, HE.out.2⟩
          · have b4 : (f1 == 1) = false := by simp [e4]
            obtain ⟨nf0, nf1⟩ := node_of hwf df.is e3 e4
            obtain ⟨v, hv⟩ : ∃ v : Nat, min (varI s f1) (varI s g1) = (v : Int) := ⟨(min (varI s f1) (varI s g1)).toNat, by have := var_nn hwf dg.is; omega⟩
            have hvf : (v : Int) ≤ varI s f1 := by omega
            have hvg : (v : Int) ≤ varI s g1 := by omega
            obtain ⟨m, hm⟩ : ∃ m, v + 1 + m = s.vars := ⟨s.vars - v - 1, by omega⟩
            have hmn : m + 1 ≤ n := by have := df.var; have := dg.var; omega
            have hpw := pow_le hmn
            have hdep := dep_xor hwf df.is dg.is hvf hvg
            have hlen := H.tk.tb.len
            obtain ⟨rf1, rf2⟩ := dg_range (by omega) df
            obtain ⟨rg1, rg2⟩ := dg_range (by omega) dg
            obtain ⟨c0, c1, c2⟩ := H.cells
            have hlt := H.lt
            by_cases hc : (x.M (ix x.k ⟨2, f1, g1, 0⟩)).kept = true ∧ (x.M (ix x.k ⟨2, f1, g1, 0⟩)).q = ⟨2, f1, g1, 0⟩
            · have HG := Lib.hid (get_hit x.E x.X x.k x.M x.h ⟨2, f1, g1, 0⟩ w H.k1.2 (by have := H.hb; omega) H.ca hc.1 hc.2)
              have hOk := H.right _ (ix_lt x.k H.k1.2 ⟨2, f1, g1, 0⟩) hc.1
              rw [hc.2] at hOk
              have HH := Lib.hid (fun w' hC hg => up_more (hit_upto (w' := w') H hC hg) (show N + 1 ≤ N + 2 ^ n by omega))
              generalize (x.M (ix x.k ⟨2, f1, g1, 0⟩)).ans = r at *
              have HE := Lib.hid (show Res s (top s.vars s.L (xorF s.L f1 g1)).1 (top s.vars s.L (xorF s.L f1 g1)).2 r s from by
                rcases hOk with ⟨i0, _⟩ | ⟨_, _, _, i4, i5⟩
                · exact absurd (show (2 : Int) = 1 from i0) (by decide)
                · exact res_id hwf hIv hs i4 i5)
              clear H ih df dg hL hN hwf hIv hs hpp e1 e3 e4 nf0 nf1 hv hvf hvg hm hmn hpw hdep hlen hc hOk HU
              simp only at HG
              go_enter Try.func65, Try.ntmps65
              go_upto_region 2 with fail
              try simp only [HMn.out, HMx.out]
              go_wp2_with fail
              refine HSp.out.mono ?_
              rintro e w' ⟨rfl, rfl⟩
              go_wp2_with fail
              refine HG.out.mono ?_
              rintro e w1 ⟨rfl, hC1, hg1⟩
              have HE1 := Lib.hid (HH.out _ hC1 hg1)
              clear hC1 hg1 HG HH
              go_wp2_with fail
              go_ret
              exact ⟨_, _, rfl, HE.out, HE1.out⟩
            · have HG : Hid (Calls Try.prog 75 #[.pointer (some ⟨x.E, 0, none⟩), .int .i64 2, .int .i64 f1, .int .i64 g1, .int .i64 0] w fun e w' => e = .returned (.tuple #[.int .i64 0, .bool false]) ∧ Below w.heap.size w w') := Lib.hid (by
                cases hkk : (x.M (ix x.k ⟨2, f1, g1, 0⟩)).kept with
                | false => exact get_open x.E x.X x.k x.M x.h ⟨2, f1, g1, 0⟩ w H.k1.2 H.ca hkk
                | true => exact get_else x.E x.X x.k x.M x.h ⟨2, f1, g1, 0⟩ w H.k1.2 H.ca hkk (fun e => hc ⟨hkk, e⟩))
              have HVf := Lib.hid (fun wx (hb : Below w.heap.size w wx) => NdC.var_ f1 rf1 rf2 (H.below hb).tk.tb)
              have HVg := Lib.hid (fun wx (hb : Below w.heap.size w wx) => NdC.var_ g1 rg1 rg2 (H.below hb).tk.tb)
              have HPf := Lib.hid (fun wx (hb : Below w.heap.size w wx) => parts_ f1 v rf1 rf2 (H.below hb))
              have HPg := Lib.hid (fun wx (hb : Below w.heap.size w wx) => parts_ g1 v rg1 rg2 (H.below hb))
              unfold PartsPost at HPf HPg
              have HZ : Hid (∀ x', Below w.heap.size w x' → Below w.heap.size w x' ∧ x'.cell? ⟨D, 0, none⟩ = some (.pointer (some ⟨x.B, 0, none⟩))) := Lib.hid (fun x' hb => ⟨hb, (hb.cell (p := ⟨D, 0, none⟩) hlt).trans c0⟩)
              have hc0 := cof_xor hwf df.is dg.is hvf hvg false
              have hc1 := cof_xor hwf df.is dg.is hvf hvg true
              have pf0 := part_dg hwf df.is hm hvf false
              have pg0 := part_dg hwf dg.is hm hvg false
              have pf1 := part_dg hwf df.is hm hvf true
              have pg1 := part_dg hwf dg.is hm hvg true
              generalize ItE.part s f1 v false = f10 at *
              generalize ItE.part s g1 v false = g10 at *
              generalize ItE.part s f1 v true = f11 at *
              generalize ItE.part s g1 v true = g11 at *
              have HI1 := Lib.hid (fun wx (hb : Below w.heap.size w wx) => ih m (by omega) x s N wx f10 g10 (H.below hb) pf0 pg0 (by omega) (by omega))
              have HI2 := Lib.hid (fun x1 s1 wx (hB : Bd wx D x1 c s1 (N + 2 ^ m)) a1 a2 a4 => ih m (by omega) x1 s1 (N + 2 ^ m) wx f11 g11 hB a1 a2 a4 (by omega))
              unfold ChPost at HI1 HI2
              rw [← hc0] at HI1
              have HP0 := Lib.hid (top_pre hwf (v := v + 1) (n := m) (by omega) (hdep.cof false))
              have HD1 := Lib.hid (fun (s1 : St) (hp : ∃ X, s1.L = s.L ++ X) (hv : s1.vars = s.vars) => And.intro (pf1.app hp hv) (pg1.app hp hv))
              have HF2 := Lib.hid (fun (s1 : St) (hp : ∃ X, s1.L = s.L ++ X) => (xor_app (s1 := s1) pf1.is pg1.is hp).trans hc1.symm)
              have HH := Lib.hid H
              have HHm := Lib.hid hm
              have HHmn := Lib.hid hmn
              have Hdep := Lib.hid hdep
              have Hdf := Lib.hid df
              have Hdg := Lib.hid dg
              have Hs := Lib.hid hs
              have HIv := Lib.hid hIv
              have HLn := Lib.hid (And.intro hL hpw)
              obtain ⟨vf, hvf'⟩ : ∃ y, varI s f1 = y := ⟨_, rfl⟩
              obtain ⟨vg, hvg'⟩ : ∃ y, varI s g1 = y := ⟨_, rfl⟩
              rw [hvf'] at HVf
              rw [hvg'] at HVg
              have HVe : Hid ((if vg < vf then vg else vf) = (v : Int)) := Lib.hid (by
                rw [hvf', hvg'] at hv
                split <;> omega)
              have HVe2 : Hid (min vf vg = (v : Int)) := Lib.hid (by rw [hvf', hvg'] at hv; exact hv)
              clear H ih df dg hL hN hwf hIv hs hpp e1 e3 e4 nf0 nf1 hv hvf hvg hm hmn hpw hdep hlen hc HU hc0 hc1 pf0 pg0 pf1 pg1 c2 hvf' hvg'
              go_enter Try.func65, Try.ntmps65
              go_upto_region 2 with fail
              try simp only [HMn.out, HMx.out]
              go_wp2_with fail
              refine HSp.out.mono ?_
              rintro e w' ⟨rfl, rfl⟩
              go_wp2_with fail
              refine HG.out.mono ?_
              rintro e w1 ⟨rfl, hb1⟩
              have hst := HZ.out _ hb1.drew
              clear HSp HG b1 b3 b4
              go_wp2_with fail
              go_region_held3 (fun x' => Below w.heap.size w x' ∧ x'.cell? ⟨D, 0, none⟩ = some (.pointer (some ⟨x.B, 0, none⟩)))
                (first | with_reducible exact hst | with_reducible assumption | exact HZ.out _ (Below.trans (by apply And.left; with_reducible assumption) (Below.mono (by with_reducible assumption) (Below.size (by apply And.left; with_reducible assumption)))))
                (first | ((with_reducible refine (HVf.out _ (by apply And.left; with_reducible assumption)).mono ?_); rintro e x1 ⟨rfl, hb⟩) | ((with_reducible refine (HVg.out _ (by apply And.left; with_reducible assumption)).mono ?_); rintro e x1 ⟨rfl, hb⟩))
              rename_i hHeld
              have HB3 := Lib.hid hHeld.1
              clear hHeld hst hb1 HVf HVg HZ
              first | rw [HVe.out] | rw [HVe2.out]
              go_wp2_with fail
              refine (HPf.out _ HB3.out).mono ?_
              rintro e w4 ⟨rfl, hb4⟩
              have HB4 := Lib.hid (HB3.out.trans (hb4.mono HB3.out.size))
              clear hb4 HB3 HPf
              go_wp2_with fail
              refine (HPg.out _ HB4.out).mono ?_
              rintro e w6 ⟨rfl, hb6⟩
              have HB6 := Lib.hid (HB4.out.trans (hb6.mono HB4.out.size))
              clear hb6 HB4 HPg
              go_wp2_with fail
              refine (HI1.out _ HB6.out).mono ?_
              rintro e w7 ⟨a0, s1, rfl, hR0, x1, hB1, hF1, hk1⟩
              have hp0 := hR0.pre HP0.out.1
              have hv0 := hR0.vars.1
              have hD1 := HD1.out s1 hp0 hv0
              have hl0 := len_le HIv.out hR0 HP0.out.1
              have hl1 := HP0.out.2.1
              have hl2 := HLn.out
              have hi2 := HI2.out x1 s1 w7 hB1 hD1.1 hD1.2 (by omega)
              rw [HF2.out s1 hp0] at hi2
              have HI2x := Lib.hid hi2
              have hT1 := top_pre hB1.tk.tb.wf (v := v + 1) (n := m) (by have := HHm.out; omega) (by rw [hv0]; exact Hdep.out.cof true)
              have hinv1 := hB1.inv
              have i0 := hR0.is HP0.out.2.2
              have HQ := Lib.hid (And.intro hR0 (And.intro hF1 (And.intro hk1 (And.intro hv0 (And.intro hT1 (And.intro hinv1 (And.intro i0 (And.intro hl0 hl1))))))))
              clear hR0 hB1 hF1 hk1 hp0 hv0 hD1 hl0 hl1 hl2 hi2 hT1 hinv1 i0 HI1 HI2
              go_wp2_with fail
              refine HI2x.out.mono ?_
              rintro e w8 ⟨a1, s2, rfl, hR1, x2, hB2, hF2, hk2⟩
              obtain ⟨hR0, hF1, hk1, hv0, hT1, hinv1, i0, hl0, hl1⟩ := HQ.out
              have hp1 := hR1.pre hT1.1
              have hl2 := len_le hinv1 hR1 hT1.1
              have hl3 := hT1.2.1
              have hl4 := HLn.out
              have j0 := is_more i0 hp1
              have j1 := hR1.is hT1.2.2
              obtain ⟨ra1, ra2⟩ := is_range (by omega) j0
              obtain ⟨rb1, rb2⟩ := is_range (by omega) j1
              have HMk := Lib.hid (ItB.make_ (v : Int) a0 a1 ra1 ra2 rb1 rb2 (by omega) hB2)
              rw [hv0] at hR1
              have hRes := res_step HH.out.tk.tb.wf HIv.out Hs.out (by have := HHm.out; omega) Hdep.out hR0 hR1
              have HKq := Lib.hid (okq_xor (d := 0) HH.out HHm.out Hdep.out rfl Hdf.out.is Hdg.out.is hRes)
              have HW := Lib.hid (fun x3 w9 w10 (hF3 : Frm (FootD D x2) w8 w9) hk3 hU4 => fin_step (w3 := w9) (w4 := w10) (x3 := x3) HH.out Hs.out HHm.out HHmn.out Hdep.out hR0 hR1 HB6.out hF1 hk1 hF2 hk2 hF3 hk3 hU4)
              clear hRes hR0 hF1 hk1 hv0 hT1 hinv1 i0 hl0 hl1 hR1 hp1 hl2 hl3 hl4 j0 j1 ra1 ra2 rb1 rb2 hB2 hF2 hk2 HQ HI2x HP0 HD1 HF2 HB6
              go_wp2_with fail
              refine HMk.out.mono ?_
              rintro e w9 ⟨rfl, x3, hB3, hF3, hk3⟩
              have HK := Lib.hid (keep_ 2 f1 g1 0 (mkA s2 v a0 a1) HKq.out hB3)
              have hW3 := fun w10 hU4 => HW.out x3 w9 w10 hF3 hk3 hU4
              unfold KeepPost at HK
              generalize (if (mkS s2 v a0 a1).spent = true then (0 : Int) else mkA s2 v a0 a1) = r at *
              have HW3 := Lib.hid hW3
              clear hW3 hB3 hF3 hk3 HMk HW HKq
              go_wp2_with fail
              refine HK.out.mono ?_
              rintro e w10 ⟨rfl, hU4⟩
              have HE := Lib.hid (HW3.out w10 hU4)
              clear hU4 HK HW3
              go_wp2_with fail
              go_ret
              first | exact ⟨_, _, rfl, HE.out.1, HE.out.2⟩ | exact ⟨_, rfl, _, HE.out.1, HE.out.2⟩
end Go.Proofs.Ytnkkmppmfjekeaa.ItJ
