/- Where one diagram is true another, else a third (choose), by contract. -/
import Derived.Test.YtnkkmppmfjekeaaItH
namespace Go.Proofs.Ytnkkmppmfjekeaa.ItI
open Go.RowKit Go.Lib Go.Proofs Go.Proofs.Ytnkkmppmfjekeaa.CaA Go.Proofs.Ytnkkmppmfjekeaa.CaB Go.Proofs.Ytnkkmppmfjekeaa.CaC Go.Proofs.Ytnkkmppmfjekeaa.CaD Go.Proofs.Ytnkkmppmfjekeaa.NdA Go.Proofs.Ytnkkmppmfjekeaa.NdB Go.Proofs.Ytnkkmppmfjekeaa.NdC Go.Proofs.Ytnkkmppmfjekeaa.NdE Go.Proofs.Ytnkkmppmfjekeaa.NdG Go.Proofs.Ytnkkmppmfjekeaa.NdI Go.Proofs.Ytnkkmppmfjekeaa.ItA Go.Proofs.Ytnkkmppmfjekeaa.ItB Go.Proofs.Ytnkkmppmfjekeaa.ItD Go.Proofs.Ytnkkmppmfjekeaa.ItE Go.Proofs.Ytnkkmppmfjekeaa.ItF Go.Proofs.Ytnkkmppmfjekeaa.ItH
set_option linter.unusedVariables false
set_option linter.unusedSimpArgs false
theorem up_more {D : Nat} {x : Bx} {w w' : World} {c : Nat} {s : St} {N N' : Nat} (h : Upto D x w w' c s N) (hN : N ≤ N') : Upto D x w w' c s N' := by
  obtain ⟨x1, h1, h2, h3⟩ := h
  exact ⟨x1, h1.more hN, h2, h3⟩
def ChPost (D : Nat) (x : Bx) (c : Nat) (s : St) (N n : Nat) (F : ItA.Fn) (w : World) (e : Ending) (w' : World) : Prop := ∃ a s', e = .returned (.int .i64 a) ∧ Res s (top s.vars s.L F).1 (top s.vars s.L F).2 a s' ∧ Upto D x w w' c s' (N + 2 ^ n)
theorem pow_pos' (n : Nat) : 1 ≤ 2 ^ n := Nat.one_le_two_pow
theorem pow_le {m n : Nat} (h : m + 1 ≤ n) : 2 ^ m + 2 ^ m ≤ 2 ^ n := by
  have := Nat.pow_le_pow_right (n := 2) (by omega) h
  rw [Nat.pow_succ] at this
  omega
theorem dg_range {s : St} {n : Nat} {f : Int} (hl : s.L.length ≤ 200000) (h : Dg s n f) : -9223372036854775808 ≤ f ∧ f ≤ 9223372036854775807 := is_range hl h.is
/-- A diagram that is neither of the two is a node. -/
theorem node_of {s : St} (H : WF s) {f : Int} (hf : isB s f = true) (h0 : f ≠ 0) (h1 : f ≠ 1) : 0 ≤ varI s f ∧ varI s f < s.vars := by
  obtain ⟨a, b⟩ := isB_iff.1 hf
  obtain ⟨i, rfl⟩ : ∃ i : Nat, f = ((i + 2 : Nat) : Int) := ⟨(f - 2).toNat, by omega⟩
  have hi : i < s.L.length := by omega
  have := H.ok i hi
  rw [NdL.varI_idx hi]
  omega
theorem var_nn {s : St} (H : WF s) {f : Int} (hf : isB s f = true) : 0 ≤ varI s f := by
  obtain ⟨a, b⟩ := isB_iff.1 hf
  by_cases h : f < 2
  · have : varI s f = s.vars := varI_small (K := s.vars) (L := s.L) h
    omega
  · exact (node_of H hf (by omega) (by omega)).1
section
variable {D : Nat} {x : Bx} {c : Nat} {s : St} {N : Nat} {w : World}
/-- The last step of choose and of differ: parts are made, the whole is made and kept. -/
theorem fin_step {F : ItA.Fn} {v m n : Nat} {s1 s2 : St} {a0 a1 : Int} {x1 x2 x3 : Bx} {w0 w1 w2 w3 w4 : World} (H : Bd w D x c s N) (hs : s.spent = false) (hv : v + 1 + m = s.vars) (hmn : m + 1 ≤ n) (hd : Dep s.vars v F)
    (hR0 : Res s (top s.vars s.L (cof F v false)).1 (top s.vars s.L (cof F v false)).2 a0 s1) (hR1 : Res s1 (top s.vars s1.L (cof F v true)).1 (top s.vars s1.L (cof F v true)).2 a1 s2)
    (hb0 : Below w.heap.size w w0)
    (hF1 : Frm (FootD D x) w0 w1) (hk1 : ∀ j, FootD D x1 j → FootD D x j ∨ w0.heap.size ≤ j)
    (hF2 : Frm (FootD D x1) w1 w2) (hk2 : ∀ j, FootD D x2 j → FootD D x1 j ∨ w1.heap.size ≤ j)
    (hF3 : Frm (FootD D x2) w2 w3) (hk3 : ∀ j, FootD D x3 j → FootD D x2 j ∨ w2.heap.size ≤ j)
    (hU4 : Upto D x3 w3 w4 c (mkS s2 v a0 a1) (N + 2 ^ m + 2 ^ m)) :
    Res s (top s.vars s.L F).1 (top s.vars s.L F).2 (if (mkS s2 v a0 a1).spent then 0 else mkA s2 v a0 a1) (mkS s2 v a0 a1) ∧ Upto D x w w4 c (mkS s2 v a0 a1) (N + 2 ^ n) := by
  refine ⟨res_step H.tk.tb.wf H.inv hs (by omega) hd hR0 hR1, ?_⟩
  have u3 := Upto.trans hF3 hk3 hU4
  have u2 := Upto.trans hF2 hk2 u3
  have u1 := Upto.trans hF1 hk1 u2
  have u0 := Upto.trans (Frm.of_below (F := FootD D x) hb0) (fun j hj => Or.inl hj) u1
  exact up_more u0 (by have := pow_le hmn; omega)
theorem okq_ite {F : ItA.Fn} {v m : Nat} {s2 : St} {a0 a1 f g h : Int} (H : Bd w D x c s N) (hv : v + 1 + m = s.vars) (hd : Dep s.vars v F) (hF : F = iteF s.L f g h) (hf : isB s f = true) (hg : isB s g = true) (hh : isB s h = true)
    (hR : Res s (top s.vars s.L F).1 (top s.vars s.L F).2 (if (mkS s2 v a0 a1).spent then 0 else mkA s2 v a0 a1) (mkS s2 v a0 a1)) (hns : (mkS s2 v a0 a1).spent = false) : Okq (mkS s2 v a0 a1).L ⟨1, f, g, h⟩ (mkA s2 v a0 a1) := by
  have hG := top_good (T_wf H.tk.tb.wf) (n := m + 1) (by omega) hd
  rw [if_neg (by rw [hns]; simp)] at hR
  rcases hR with ⟨h1, h2, h3, h4⟩ | ⟨_, _, h3⟩
  · rw [h4, h3]
    obtain ⟨X, hX⟩ := hG.pre
    refine Or.inl ⟨rfl, ?_, ?_, ?_, hG.is, fun b => ?_⟩
    · show isB (T s.vars (top s.vars s.L F).2) f = true
      rw [hX]; exact is_app hf
    · show isB (T s.vars (top s.vars s.L F).2) g = true
      rw [hX]; exact is_app hg
    · show isB (T s.vars (top s.vars s.L F).2) h = true
      rw [hX]; exact is_app hh
    · have e := hG.ev b
      show ev (top s.vars s.L F).2 b (top s.vars s.L F).1 = if ev (top s.vars s.L F).2 b f then ev (top s.vars s.L F).2 b g else ev (top s.vars s.L F).2 b h
      rw [e, hX, ev_app (K := s.vars) hf, ev_app (K := s.vars) hg, ev_app (K := s.vars) hh, hF]
      rfl
  · rw [h3.sp] at hns
    cases hns
theorem okq_xor {F : ItA.Fn} {v m : Nat} {s2 : St} {a0 a1 f g d : Int} (H : Bd w D x c s N) (hv : v + 1 + m = s.vars) (hd : Dep s.vars v F) (hF : F = xorF s.L f g) (hf : isB s f = true) (hg : isB s g = true)
    (hR : Res s (top s.vars s.L F).1 (top s.vars s.L F).2 (if (mkS s2 v a0 a1).spent then 0 else mkA s2 v a0 a1) (mkS s2 v a0 a1)) (hns : (mkS s2 v a0 a1).spent = false) : Okq (mkS s2 v a0 a1).L ⟨2, f, g, d⟩ (mkA s2 v a0 a1) := by
  have hG := top_good (T_wf H.tk.tb.wf) (n := m + 1) (by omega) hd
  rw [if_neg (by rw [hns]; simp)] at hR
  rcases hR with ⟨h1, h2, h3, h4⟩ | ⟨_, _, h3⟩
  · rw [h4, h3]
    obtain ⟨X, hX⟩ := hG.pre
    refine Or.inr ⟨rfl, ?_, ?_, hG.is, fun b => ?_⟩
    · show isB (T s.vars (top s.vars s.L F).2) f = true
      rw [hX]; exact is_app hf
    · show isB (T s.vars (top s.vars s.L F).2) g = true
      rw [hX]; exact is_app hg
    · have e := hG.ev b
      show ev (top s.vars s.L F).2 b (top s.vars s.L F).1 = (ev (top s.vars s.L F).2 b f != ev (top s.vars s.L F).2 b g)
      rw [e, hX, ev_app (K := s.vars) hf, ev_app (K := s.vars) hg, hF]
      rfl
  · rw [h3.sp] at hns
    cases hns
end
set_option maxHeartbeats 8000000 in
set_option maxRecDepth 100000 in
theorem choose_ (D c : Nat) : ∀ (n : Nat) (x : Bx) (s : St) (N : Nat) (w : World) (f g h : Int), Bd w D x c s N → Dg s n f → Dg s n g → Dg s n h → s.L.length + 2 ^ n ≤ 119900 → N + 2 ^ n ≤ 900000 →
    Calls Try.prog 55 #[.pointer (some ⟨D, 0, none⟩), .int .i64 f, .int .i64 g, .int .i64 h] w (ChPost D x c s N n (iteF s.L f g h) w) := fun n => by
  induction n using Nat.strongRecOn with
  | _ n ih =>
    intro x s N w f g h H df0 dg0 dh0 hL hN
    unfold ChPost
    have HSi := Lib.hid (simplest_ (.pointer (some ⟨D, 0, none⟩)) f g h w)
    obtain ⟨df, dg, dh⟩ := sim_dg df0 dg0 dh0
    rw [← sim_ite s.L f g h]
    generalize (simA f g h).1 = f1 at *
    generalize (simA f g h).2.1 = g1 at *
    generalize (simA f g h).2.2 = h1 at *
    clear df0 dg0 dh0
    have hwf := H.tk.tb.wf
    have hIv := H.inv
    have hpp := pow_pos' n
    have HSp := Lib.hid (spent_ H)
    cases hs : s.spent with
    | true =>
      rw [hs] at HSp
      have HE := Lib.hid (And.intro (res_spent hIv hs (top s.vars s.L (iteF s.L f1 g1 h1)).1 (top s.vars s.L (iteF s.L f1 g1 h1)).2) (up_more (H.upto (Below.refl _ w)) (show N ≤ N + 2 ^ n by omega)))
      clear H ih df dg dh hL hN hwf hIv hs hpp
      go_enter Try.func55, Try.ntmps55
      go_wp2_with fail
      refine HSi.out.mono ?_
      rintro e w' ⟨rfl, rfl⟩
      go_wp2_with fail
      refine HSp.out.mono ?_
      rintro e w' ⟨rfl, rfl⟩
      go_wp2_with fail
      go_ret
      exact ⟨_, _, rfl, HE.out.1, HE.out.2⟩
    | false =>
      rw [hs] at HSp
      have HU := Lib.hid (up_more (H.upto (Below.refl _ w)) (show N ≤ N + 2 ^ n by omega))
      by_cases e1 : f1 = 1
      · have HE := Lib.hid (res_id hwf hIv hs (F := iteF s.L f1 g1 h1) dg.is (fun b => by unfold iteF; rw [e1, ev_one]; rfl))
        have b1 : (f1 == 1) = true := by simp [e1]
        clear H ih df dg dh hL hN hwf hIv hs hpp e1
        go_enter Try.func55, Try.ntmps55
        go_wp2_with fail
        refine HSi.out.mono ?_
        rintro e w' ⟨rfl, rfl⟩
        go_wp2_with fail
        refine HSp.out.mono ?_
        rintro e w' ⟨rfl, rfl⟩
        go_wp2_with fail
        go_ret
        exact ⟨_, _, rfl, HE.out, HU.out⟩
      · have b1 : (f1 == 1) = false := by simp [e1]
        by_cases e2 : g1 = h1
        · have HE := Lib.hid (res_id hwf hIv hs (F := iteF s.L f1 g1 h1) dg.is (fun b => by unfold iteF; rw [e2]; split <;> rfl))
          have b2 : (g1 == h1) = true := by simp [e2]
          clear H ih df dg dh hL hN hwf hIv hs hpp e1 e2
          go_enter Try.func55, Try.ntmps55
          go_wp2_with fail
          refine HSi.out.mono ?_
          rintro e w' ⟨rfl, rfl⟩
          go_wp2_with fail
          refine HSp.out.mono ?_
          rintro e w' ⟨rfl, rfl⟩
          go_wp2_with fail
          go_ret
          exact ⟨_, _, rfl, HE.out, HU.out⟩
        · have b2 : (g1 == h1) = false := by simp [e2]
          by_cases e3 : f1 = 0
          · have HE := Lib.hid (res_id hwf hIv hs (F := iteF s.L f1 g1 h1) dh.is (fun b => by unfold iteF; rw [e3, ev_zero]; rfl))
            have b3 : (f1 == 0) = true := by simp [e3]
            clear H ih df dg dh hL hN hwf hIv hs hpp e1 e2 e3
            go_enter Try.func55, Try.ntmps55
            go_wp2_with fail
            refine HSi.out.mono ?_
            rintro e w' ⟨rfl, rfl⟩
            go_wp2_with fail
            refine HSp.out.mono ?_
            rintro e w' ⟨rfl, rfl⟩
            go_wp2_with fail
            go_ret
            exact ⟨_, _, rfl, HE.out, HU.out⟩
          · have b3 : (f1 == 0) = false := by simp [e3]
            by_cases e4 : g1 = 1 ∧ h1 = 0
            · have HE := Lib.hid (res_id hwf hIv hs (F := iteF s.L f1 g1 h1) df.is (fun b => by unfold iteF; rw [e4.1, e4.2, ev_zero, ev_one]; cases ev s.L b f1 <;> rfl))
              have b4 : (g1 == 1) = true := by simp [e4.1]
              have b5 : (h1 == 0) = true := by simp [e4.2]
              clear H ih df dg dh hL hN hwf hIv hs hpp e1 e2 e3 e4
              go_enter Try.func55, Try.ntmps55
              go_wp2_with fail
              refine HSi.out.mono ?_
              rintro e w' ⟨rfl, rfl⟩
              go_wp2_with fail
              refine HSp.out.mono ?_
              rintro e w' ⟨rfl, rfl⟩
              go_wp2_with fail
              go_ret
              exact ⟨_, _, rfl, HE.out, HU.out⟩
            · have hcases : ((g1 == 1) = true ∧ (h1 == 0) = false) ∨ ((g1 == 1) = false ∧ True) := by
                by_cases a : g1 = 1
                · exact Or.inl ⟨by simp [a], by simp; exact fun b => e4 ⟨a, b⟩⟩
                · exact Or.inr ⟨by simp [a], trivial⟩
              obtain ⟨nf0, nf1⟩ := node_of hwf df.is e3 e1
              obtain ⟨v, hv⟩ : ∃ v : Nat, min (min (varI s f1) (varI s g1)) (varI s h1) = (v : Int) := ⟨(min (min (varI s f1) (varI s g1)) (varI s h1)).toNat, by have := var_nn hwf dg.is; have := var_nn hwf dh.is; omega⟩
              have hvf : (v : Int) ≤ varI s f1 := by omega
              have hvg : (v : Int) ≤ varI s g1 := by omega
              have hvh : (v : Int) ≤ varI s h1 := by omega
              obtain ⟨m, hm⟩ : ∃ m, v + 1 + m = s.vars := ⟨s.vars - v - 1, by omega⟩
              have hmn : m + 1 ≤ n := by have := df.var; have := dg.var; have := dh.var; omega
              have hpw := pow_le hmn
              have hdep := dep_ite hwf df.is dg.is dh.is hvf hvg hvh
              have hlen := H.tk.tb.len
              obtain ⟨rf1, rf2⟩ := dg_range (by omega) df
              obtain ⟨rg1, rg2⟩ := dg_range (by omega) dg
              obtain ⟨rh1, rh2⟩ := dg_range (by omega) dh
              obtain ⟨c0, c1, c2⟩ := H.cells
              have hlt := H.lt
              by_cases hc : (x.M (ix x.k ⟨1, f1, g1, h1⟩)).kept = true ∧ (x.M (ix x.k ⟨1, f1, g1, h1⟩)).q = ⟨1, f1, g1, h1⟩
              · have HG := Lib.hid (get_hit x.E x.X x.k x.M x.h ⟨1, f1, g1, h1⟩ w H.k1.2 (by have := H.hb; omega) H.ca hc.1 hc.2)
                have hOk := H.right _ (ix_lt x.k H.k1.2 ⟨1, f1, g1, h1⟩) hc.1
                rw [hc.2] at hOk
                have HH := Lib.hid (fun w' hC hg => up_more (hit_upto (w' := w') H hC hg) (show N + 1 ≤ N + 2 ^ n by omega))
                generalize (x.M (ix x.k ⟨1, f1, g1, h1⟩)).ans = r at *
                have HE := Lib.hid (show Res s (top s.vars s.L (iteF s.L f1 g1 h1)).1 (top s.vars s.L (iteF s.L f1 g1 h1)).2 r s from by
                  rcases hOk with ⟨_, _, _, _, i4, i5⟩ | ⟨i0, _⟩
                  · exact res_id hwf hIv hs i4 i5
                  · exact absurd (show (1 : Int) = 2 from i0) (by decide))
                clear H ih df dg dh hL hN hwf hIv hs hpp e1 e2 e3 e4 nf0 nf1 hv hvf hvg hvh hm hmn hpw hdep hlen hc hOk HU
                simp only at HG
                rcases hcases with ⟨b4, b5⟩ | ⟨b4, b5⟩
                all_goals
                  go_enter Try.func55, Try.ntmps55
                  go_wp2_with fail
                  refine HSi.out.mono ?_
                  rintro e w' ⟨rfl, rfl⟩
                  go_wp2_with fail
                  refine HSp.out.mono ?_
                  rintro e w' ⟨rfl, rfl⟩
                  go_wp2_with fail
                  refine HG.out.mono ?_
                  rintro e w1 ⟨rfl, hC1, hg1⟩
                  have HE1 := Lib.hid (HH.out _ hC1 hg1)
                  clear hC1 hg1 HG HH
                  go_wp2_with fail
                  go_ret
                  exact ⟨_, _, rfl, HE.out, HE1.out⟩
              · have HG : Hid (Calls Try.prog 75 #[.pointer (some ⟨x.E, 0, none⟩), .int .i64 1, .int .i64 f1, .int .i64 g1, .int .i64 h1] w fun e w' => e = .returned (.tuple #[.int .i64 0, .bool false]) ∧ Below w.heap.size w w') := Lib.hid (by
                  cases hkk : (x.M (ix x.k ⟨1, f1, g1, h1⟩)).kept with
                  | false => exact get_open x.E x.X x.k x.M x.h ⟨1, f1, g1, h1⟩ w H.k1.2 H.ca hkk
                  | true => exact get_else x.E x.X x.k x.M x.h ⟨1, f1, g1, h1⟩ w H.k1.2 H.ca hkk (fun e => hc ⟨hkk, e⟩))
                have HVf := Lib.hid (fun wx (hb : Below w.heap.size w wx) => NdC.var_ f1 rf1 rf2 (H.below hb).tk.tb)
                have HVg := Lib.hid (fun wx (hb : Below w.heap.size w wx) => NdC.var_ g1 rg1 rg2 (H.below hb).tk.tb)
                have HVh := Lib.hid (fun wx (hb : Below w.heap.size w wx) => NdC.var_ h1 rh1 rh2 (H.below hb).tk.tb)
                have HPf := Lib.hid (fun wx (hb : Below w.heap.size w wx) => parts_ f1 v rf1 rf2 (H.below hb))
                have HPg := Lib.hid (fun wx (hb : Below w.heap.size w wx) => parts_ g1 v rg1 rg2 (H.below hb))
                have HPh := Lib.hid (fun wx (hb : Below w.heap.size w wx) => parts_ h1 v rh1 rh2 (H.below hb))
                unfold PartsPost at HPf HPg HPh
                have HZ : Hid (∀ x', Below w.heap.size w x' → Below w.heap.size w x' ∧ x'.cell? ⟨D, 0, none⟩ = some (.pointer (some ⟨x.B, 0, none⟩))) := Lib.hid (fun x' hb => ⟨hb, (hb.cell (p := ⟨D, 0, none⟩) hlt).trans c0⟩)
                have hc0 := cof_ite hwf df.is dg.is dh.is hvf hvg hvh false
                have hc1 := cof_ite hwf df.is dg.is dh.is hvf hvg hvh true
                have pf0 := part_dg hwf df.is hm hvf false
                have pg0 := part_dg hwf dg.is hm hvg false
                have ph0 := part_dg hwf dh.is hm hvh false
                have pf1 := part_dg hwf df.is hm hvf true
                have pg1 := part_dg hwf dg.is hm hvg true
                have ph1 := part_dg hwf dh.is hm hvh true
                generalize ItE.part s f1 v false = f10 at *
                generalize ItE.part s g1 v false = g10 at *
                generalize ItE.part s h1 v false = h10 at *
                generalize ItE.part s f1 v true = f11 at *
                generalize ItE.part s g1 v true = g11 at *
                generalize ItE.part s h1 v true = h11 at *
                have HI1 := Lib.hid (fun wx (hb : Below w.heap.size w wx) => ih m (by omega) x s N wx f10 g10 h10 (H.below hb) pf0 pg0 ph0 (by omega) (by omega))
                have HI2 := Lib.hid (fun x1 s1 wx (hB : Bd wx D x1 c s1 (N + 2 ^ m)) a1 a2 a3 a4 => ih m (by omega) x1 s1 (N + 2 ^ m) wx f11 g11 h11 hB a1 a2 a3 a4 (by omega))
                unfold ChPost at HI1 HI2
                rw [← hc0] at HI1
                have HP0 := Lib.hid (top_pre hwf (v := v + 1) (n := m) (by omega) (hdep.cof false))
                have HD1 := Lib.hid (fun (s1 : St) (hp : ∃ X, s1.L = s.L ++ X) (hv : s1.vars = s.vars) => And.intro (pf1.app hp hv) (And.intro (pg1.app hp hv) (ph1.app hp hv)))
                have HF2 := Lib.hid (fun (s1 : St) (hp : ∃ X, s1.L = s.L ++ X) => (ite_app (s1 := s1) pf1.is pg1.is ph1.is hp).trans hc1.symm)
                have HH := Lib.hid H
                have HV := Lib.hid hv
                have HHm := Lib.hid hm
                have HHmn := Lib.hid hmn
                have Hdep := Lib.hid hdep
                have Hdf := Lib.hid df
                have Hdg := Lib.hid dg
                have Hdh := Lib.hid dh
                have Hs := Lib.hid hs
                have HIv := Lib.hid hIv
                have HLn := Lib.hid (And.intro hL hpw)
                obtain ⟨vf, hvf'⟩ : ∃ y, varI s f1 = y := ⟨_, rfl⟩
                obtain ⟨vg, hvg'⟩ : ∃ y, varI s g1 = y := ⟨_, rfl⟩
                obtain ⟨vh, hvh'⟩ : ∃ y, varI s h1 = y := ⟨_, rfl⟩
                rw [hvf'] at HVf
                rw [hvg'] at HVg
                rw [hvh'] at HVh
                have HVe : Hid ((if vh < (if vg < vf then vg else vf) then vh else (if vg < vf then vg else vf)) = (v : Int)) := Lib.hid (by
                  have h1 := HV.out
                  rw [hvf', hvg', hvh'] at h1
                  split <;> split <;> omega)
                clear H ih df dg dh hL hN hwf hIv hs hpp e1 e2 e3 e4 nf0 nf1 hv hvf hvg hvh hm hmn hpw hdep hlen hc HU hc0 hc1 pf0 pg0 ph0 pf1 pg1 ph1 c2 hvf' hvg' hvh'
                rcases hcases with ⟨b4, b5⟩ | ⟨b4, b5⟩
                all_goals
                  go_enter Try.func55, Try.ntmps55
                  go_wp2_with fail
                  refine HSi.out.mono ?_
                  rintro e w' ⟨rfl, rfl⟩
                  go_wp2_with fail
                  refine HSp.out.mono ?_
                  rintro e w' ⟨rfl, rfl⟩
                  go_wp2_with fail
                  refine HG.out.mono ?_
                  rintro e w1 ⟨rfl, hb1⟩
                  have hst := HZ.out _ hb1.drew
                  clear HSi HSp HG b1 b2 b3 b4 b5
                  go_wp2_with fail
                  go_region_held3 (fun x' => Below w.heap.size w x' ∧ x'.cell? ⟨D, 0, none⟩ = some (.pointer (some ⟨x.B, 0, none⟩)))
                    (first | with_reducible exact hst | with_reducible assumption | exact HZ.out _ (Below.trans (by apply And.left; with_reducible assumption) (Below.mono (by with_reducible assumption) (Below.size (by apply And.left; with_reducible assumption)))))
                    (first | ((with_reducible refine (HVf.out _ (by apply And.left; with_reducible assumption)).mono ?_); rintro e x1 ⟨rfl, hb⟩) | ((with_reducible refine (HVg.out _ (by apply And.left; with_reducible assumption)).mono ?_); rintro e x1 ⟨rfl, hb⟩) | ((with_reducible refine (HVh.out _ (by apply And.left; with_reducible assumption)).mono ?_); rintro e x1 ⟨rfl, hb⟩))
                  rename_i hHeld
                  have HB3 := Lib.hid hHeld.1
                  clear hHeld hst hb1 HVf HVg HVh HZ
                  rw [HVe.out]
                  go_wp2_with fail
                  refine (HPf.out _ HB3.out).mono ?_
                  rintro e w4 ⟨rfl, hb4⟩
                  have HB4 := Lib.hid (HB3.out.trans (hb4.mono HB3.out.size))
                  clear hb4 HB3 HPf
                  go_wp2_with fail
                  refine (HPg.out _ HB4.out).mono ?_
                  rintro e w5 ⟨rfl, hb5⟩
                  have HB5 := Lib.hid (HB4.out.trans (hb5.mono HB4.out.size))
                  clear hb5 HB4 HPg
                  go_wp2_with fail
                  refine (HPh.out _ HB5.out).mono ?_
                  rintro e w6 ⟨rfl, hb6⟩
                  have HB6 := Lib.hid (HB5.out.trans (hb6.mono HB5.out.size))
                  clear hb6 HB5 HPh
                  go_wp2_with fail
                  refine (HI1.out _ HB6.out).mono ?_
                  rintro e w7 ⟨a0, s1, rfl, hR0, x1, hB1, hF1, hk1⟩
                  have hp0 := hR0.pre HP0.out.1
                  have hv0 := hR0.vars.1
                  have hD1 := HD1.out s1 hp0 hv0
                  have hl0 := len_le HIv.out hR0 HP0.out.1
                  have hl1 := HP0.out.2.1
                  have hl2 := HLn.out
                  have hi2 := HI2.out x1 s1 w7 hB1 hD1.1 hD1.2.1 hD1.2.2 (by omega)
                  rw [HF2.out s1 hp0] at hi2
                  have HI2x := Lib.hid hi2
                  have hT1 := top_pre hB1.tk.tb.wf (v := v + 1) (n := m) (by have := HHm.out; omega) (by rw [hv0]; exact Hdep.out.cof true)
                  have hinv1 := hB1.inv
                  have i0 := hR0.is HP0.out.2.2
                  have HQ := Lib.hid (And.intro hR0 (And.intro hF1 (And.intro hk1 (And.intro hv0 (And.intro hT1 (And.intro hinv1 (And.intro i0 (And.intro hl0 hl1))))))))
                  clear hR0 hB1 hF1 hk1 hp0 hv0 hD1 hl0 hl1 hl2 hi2 hT1 hinv1 i0 HI1 HI2
                  go_wp2_with fail
                  refine HI2x.out.mono ?_
                  rintro e w8 ⟨a1, s2, rfl, hR1, x2, hB2, hF2, hk2⟩
                  obtain ⟨hR0, hF1, hk1, hv0, hT1, hinv1, i0, hl0, hl1⟩ := HQ.out
                  have hp1 := hR1.pre hT1.1
                  have hl2 := len_le hinv1 hR1 hT1.1
                  have hl3 := hT1.2.1
                  have hl4 := HLn.out
                  have j0 := is_more i0 hp1
                  have j1 := hR1.is hT1.2.2
                  obtain ⟨ra1, ra2⟩ := is_range (by omega) j0
                  obtain ⟨rb1, rb2⟩ := is_range (by omega) j1
                  have HMk := Lib.hid (ItB.make_ (v : Int) a0 a1 ra1 ra2 rb1 rb2 (by omega) hB2)
                  rw [hv0] at hR1
                  have hRes := res_step HH.out.tk.tb.wf HIv.out Hs.out (by have := HHm.out; omega) Hdep.out hR0 hR1
                  have HKq := Lib.hid (okq_ite HH.out HHm.out Hdep.out rfl Hdf.out.is Hdg.out.is Hdh.out.is hRes)
                  have HW := Lib.hid (fun x3 w9 w10 (hF3 : Frm (FootD D x2) w8 w9) hk3 hU4 => fin_step (w3 := w9) (w4 := w10) (x3 := x3) HH.out Hs.out HHm.out HHmn.out Hdep.out hR0 hR1 HB6.out hF1 hk1 hF2 hk2 hF3 hk3 hU4)
                  clear hRes hR0 hF1 hk1 hv0 hT1 hinv1 i0 hl0 hl1 hR1 hp1 hl2 hl3 hl4 j0 j1 ra1 ra2 rb1 rb2 hB2 hF2 hk2 HQ HI2x HP0 HD1 HF2 HB6
                  go_wp2_with fail
                  refine HMk.out.mono ?_
                  rintro e w9 ⟨rfl, x3, hB3, hF3, hk3⟩
                  have HK := Lib.hid (keep_ 1 f1 g1 h1 (mkA s2 v a0 a1) HKq.out hB3)
                  have hW3 := fun w10 hU4 => HW.out x3 w9 w10 hF3 hk3 hU4
                  unfold KeepPost at HK
                  generalize (if (mkS s2 v a0 a1).spent = true then (0 : Int) else mkA s2 v a0 a1) = r at *
                  have HW3 := Lib.hid hW3
                  clear hW3
                  clear hB3 hF3 hk3 HMk HW HKq
                  go_wp2_with fail
                  refine HK.out.mono ?_
                  rintro e w10 ⟨rfl, hU4⟩
                  have HE := Lib.hid (HW3.out w10 hU4)
                  clear hU4 HK HW3
                  go_wp2_with fail
                  go_ret
                  first | exact ⟨_, _, rfl, HE.out.1, HE.out.2⟩ | exact ⟨_, rfl, _, HE.out.1, HE.out.2⟩
end Go.Proofs.Ytnkkmppmfjekeaa.ItI
