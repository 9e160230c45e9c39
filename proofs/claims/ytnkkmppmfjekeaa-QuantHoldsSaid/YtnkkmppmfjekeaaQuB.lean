/- Or, And of two diagrams, Ite, Not, where there is budget enough: by what they are true at. -/
import Derived.Test.YtnkkmppmfjekeaaQuA
namespace Go.Proofs.Ytnkkmppmfjekeaa.QuB
open Go.RowKit Go.Lib Go.Proofs Go.Proofs.Ytnkkmppmfjekeaa.CaA Go.Proofs.Ytnkkmppmfjekeaa.NdA Go.Proofs.Ytnkkmppmfjekeaa.NdB Go.Proofs.Ytnkkmppmfjekeaa.NdC Go.Proofs.Ytnkkmppmfjekeaa.NdE Go.Proofs.Ytnkkmppmfjekeaa.NdG Go.Proofs.Ytnkkmppmfjekeaa.NdI Go.Proofs.Ytnkkmppmfjekeaa.ItA Go.Proofs.Ytnkkmppmfjekeaa.ItB Go.Proofs.Ytnkkmppmfjekeaa.ItD Go.Proofs.Ytnkkmppmfjekeaa.ItF Go.Proofs.Ytnkkmppmfjekeaa.ItH Go.Proofs.Ytnkkmppmfjekeaa.ItI Go.Proofs.Ytnkkmppmfjekeaa.ItJ Go.Proofs.Ytnkkmppmfjekeaa.ItK Go.Proofs.Ytnkkmppmfjekeaa.ItL Go.Proofs.Ytnkkmppmfjekeaa.ItM Go.Proofs.Ytnkkmppmfjekeaa.QuA
set_option linter.unusedVariables false
set_option linter.unusedSimpArgs false
theorem dep_dg {s : St} (H : WF s) {n : Nat} {f : Int} (h : Dg s n f) : Dep s.vars (s.vars - n) (fun b => ev s.L b f) := dep_ev H h.is (by have := h.var; have := var_nn H h.is; omega)
theorem dep_iteD {s : St} (H : WF s) {n : Nat} {f g h : Int} (hf : Dg s n f) (hg : Dg s n g) (hh : Dg s n h) : Dep s.vars (s.vars - n) (iteF s.L f g h) := dep_ite H hf.is hg.is hh.is (by have := hf.var; have := var_nn H hf.is; omega) (by have := hg.var; have := var_nn H hg.is; omega) (by have := hh.var; have := var_nn H hh.is; omega)
def allF (L : List Nd) (l : List Int) : ItA.Fn := fun b => l.all fun f => ev L b f
def anyF (L : List Nd) (l : List Int) : ItA.Fn := fun b => l.any fun f => ev L b f
theorem all_perm {L : List Nd} {l l' : List Int} (h : l.Perm l') : allF L l = allF L l' := by
  funext b
  unfold allF
  rw [Bool.eq_iff_iff, List.all_eq_true, List.all_eq_true]
  exact ⟨fun k x hx => k x (h.mem_iff.2 hx), fun k x hx => k x (h.mem_iff.1 hx)⟩
theorem any_perm {L : List Nd} {l l' : List Int} (h : l.Perm l') : anyF L l = anyF L l' := by
  funext b
  unfold anyF
  rw [Bool.eq_iff_iff, List.any_eq_true, List.any_eq_true]
  exact ⟨fun ⟨x, hx, k⟩ => ⟨x, h.mem_iff.1 hx, k⟩, fun ⟨x, hx, k⟩ => ⟨x, h.mem_iff.2 hx, k⟩⟩
theorem len_cap {D : Nat} {x : Bx} {c : Nat} {s : St} {N : Nat} {w : World} (H : Bd w D x c s N) : s.L.length ≤ 120000 := H.tk.tb.len
/-- What is answered, where there is budget enough: of so many nodes, hits and calls more. -/
def AnsPost (D : Nat) (x : Bx) (c : Nat) (s : St) (N n C M K : Nat) (F : ItA.Fn) (w : World) (e : Ending) (w' : World) : Prop := ∃ a s' c', e = .returned (.int .i64 a) ∧ Ans s s' C n F a ∧ c' ≤ c + K ∧ Upto D x w w' c' s' (N + M)
set_option maxHeartbeats 4000000 in
set_option maxRecDepth 100000 in
theorem andn_ {D : Nat} {x : Bx} {c : Nat} {s : St} {N : Nat} {w : World} (n : Nat) (A : Option Addr) (ca : Nat) (l : List Int) (hn : l.length ≤ 100) (hall : ∀ f ∈ l, Dg s n f) (hA : RowI w A l) (hAd : ∀ a, A = some a → ¬ FootD D x a.block) (hl0 : l = [] → A = none ∧ ca = 0) (hnv : n ≤ s.vars) (hns : s.spent = false) (hbu : s.L.length + 2 ^ n * l.length ≤ s.budget) (hL : s.L.length + 2 ^ n * l.length ≤ 119900) (hN : N + 2 ^ n * l.length ≤ 900000) (hc : c + l.length ≤ 1000000) (H : Bd w D x c s N) :
    Calls Try.prog 44 #[.pointer (some ⟨D, 0, none⟩), .slice A l.length ca] w (AnsPost D x c s N n (2 ^ n * l.length) (2 ^ n * l.length) l.length (allF s.L l) w) := by
  unfold AnsPost
  have hwf := H.tk.tb.wf
  have hlen := H.tk.tb.len
  have hrng : ∀ f ∈ l, -9223372036854775808 ≤ f ∧ f ≤ 9223372036854775807 := fun f hf => is_range (by omega) (hall f hf).is
  have hsp := srtI_perm (K := s.vars) (L := s.L) hrng
  have hsl := srtI_len s.vars s.L l
  have hsall : ∀ f ∈ srtI s.vars s.L l, Dg s n f := fun f hf => hall f (hsp.subset hf)
  have HBg := Lib.hid (begin_ l.length A ca l (by omega) (fun f hf => (hall f hf).is) hA (by omega) H)
  have HUp := Lib.hid (fun w1 x1 (hB : Bd w1 D x1 (c + l.length) s N) (hA1 : RowI w1 A l) => (show Calls Try.prog 64 #[.pointer (some ⟨D, 0, none⟩), .slice A l.length ca] w1 (UpPost s l w1) from by
    by_cases h0 : l = []
    · obtain ⟨rfl, rfl⟩ := hl0 h0
      subst h0
      exact up0 hB
    · exact up_ A ca l (by cases l with | nil => exact absurd rfl h0 | cons => simp) (by omega) (fun f hf => (hall f hf).is) hA1 hB))
  unfold UpPost at HUp
  have HAs := Lib.hid (fun w1 (hF : Frm (FootD D x) w w1) => (show RowI w1 A l from fun h0 => by
    obtain ⟨b, rfl, hl, hcc⟩ := hA h0
    have e := hF.block b hl (hAd _ rfl)
    exact ⟨b, rfl, Nat.lt_of_lt_of_le hl hF.size, fun j hj => (World.cell?_of_block (w := w) e).trans (hcc j hj)⟩))
  have HPm := Lib.hid ((all_perm hsp : allF s.L (srtI s.vars s.L l) = allF s.L l))
  generalize srtI s.vars s.L l = l2 at *
  have HSa := Lib.hid hsall
  have HR0 : Hid (Ans s s 0 n (allF s.L []) 1) := Lib.hid ⟨Ext.refl hns 0, one_dg s n, fun b => ev_one _ b⟩
  have HLs := Lib.hid (And.intro hL (And.intro hN (And.intro hbu (And.intro hnv (And.intro hn (And.intro hsl hns))))))
  clear H hA hAd hall hrng hsp hsall hwf hlen hl0 hL hN hc hbu hns hnv
  go_enter Try.func44, Try.ntmps44
  go_wp2_with fail
  refine HBg.out.mono ?_
  rintro e w1 ⟨rfl, x1, hB1, hF1, hk1⟩
  have HU1 := Lib.hid (HUp.out w1 x1 hB1 (HAs.out w1 hF1))
  have HQ1 := Lib.hid (And.intro hB1 (And.intro hF1 hk1))
  clear hB1 hF1 hk1 HUp HAs HBg
  go_wp2_with fail
  refine HU1.out.mono ?_
  rintro e w2 ⟨A2, ca2, rfl, hA2, hfr, hb2⟩
  obtain ⟨hB1, hF1, hk1⟩ := HQ1.out
  have HRow := Lib.hid (fun wr (hF : Frm (FootD D x1) w2 wr) => row_stays (w0 := w1) hA2 hfr (fun j hj => hB1.foot hj) hF)
  have HUp0 := Lib.hid ((hB1.below hb2).upto (Below.refl _ w2))
  have HWh := Lib.hid (fun wr sk N' (hU : Upto D x1 w2 wr (c + l.length) sk N') => Upto.trans hF1 hk1 (Upto.trans (Frm.of_below (F := FootD D x1) hb2) (fun j hj => Or.inl hj) hU))
  clear hB1 hF1 hk1 hA2 hfr hb2 HU1 HQ1
  go_wp2_with fail
  go_loopw [5, 18] (fun r i wr => ∃ (k : Nat) (a : Int) (sk : St), k ≤ l.length ∧ i = .int .i64 k ∧ r = .int .i64 a ∧ Hid (Ans s sk (2 ^ n * k) n (allF s.L (l2.take k)) a) ∧ Hid (Upto D x1 w2 wr (c + l.length) sk (N + 2 ^ n * k))) (fun _ i _ => l.length - (intOf i).toNat)
  case atStart => exact ⟨0, 1, s, by omega, rfl, rfl, Lib.hid (by have h := HR0.out; exact h), Lib.hid (by have h := HUp0.out; exact h)⟩
  case round =>
    obtain ⟨k, a, sk, hk, rfl, rfl, hR, hU⟩ := hrel
    by_cases hlt : k < l.length
    · have e1 : decide ((k : Int) < l.length) = true := by simp; omega
      obtain ⟨xk, hBk, hFk, hkk⟩ := hU.out
      obtain ⟨hL, hN, hbu, hnv, hn100, hsl, hns⟩ := HLs.out
      have hk2 : k < l2.length := by omega
      obtain ⟨b, rfl, hbl, hcc⟩ := HRow.out wr hFk (by omega)
      have a0 := hcc k hk2
      have hif := HSa.out l2[k] (List.getElem_mem hk2)
      have hx := hR.out.ext
      have hifk := hx.dg hif
      have hlk := hx.len
      have hwk := hBk.tk.tb.wf
      have hm1 : 2 ^ n * (k + 1) = 2 ^ n * k + 2 ^ n := Nat.mul_succ _ _
      have hm2 : 2 ^ n * (k + 1) ≤ 2 ^ n * l.length := Nat.mul_le_mul_left _ (by omega)
      have hC := choose_ D (c + l.length) n xk sk (N + 2 ^ n * k) wr l2[k] a 0 hBk hifk hR.out.dg (zero_dg sk n) (by omega) (by omega)
      have HC := Lib.hid hC
      unfold ChPost at HC
      have HNX := Lib.hid (fun w4 a' s' (hR2 : Res sk (top sk.vars sk.L (iteF sk.L l2[k] a 0)).1 (top sk.vars sk.L (iteF sk.L l2[k] a 0)).2 a' s') (hU2 : Upto D xk wr w4 (c + l.length) s' (N + 2 ^ n * k + 2 ^ n)) => (show Ans s s' (2 ^ n * (k + 1)) n (allF s.L (l2.take (k + 1))) a' ∧ Upto D x1 w2 w4 (c + l.length) s' (N + 2 ^ n * (k + 1)) from by
        refine ⟨?_, up_more (Upto.trans hFk hkk hU2) (by omega)⟩
        have hd := dep_iteD hwk hifk hR.out.dg (zero_dg sk n)
        have hA2 := ans_of hwk hx.sp (by rw [hx.bud]; omega) (by rw [hx.vars]; exact hnv) hd hR2
        refine ⟨by rw [hm1]; exact hx.trans hA2.ext, hA2.dg, fun b => ?_⟩
        rw [hA2.ev b]
        unfold iteF
        rw [ev_zero, hx.ev hif.is b, hR.out.ev b, List.take_succ_eq_append_getElem hk2]
        unfold allF
        simp only [List.all_append, List.all_cons, List.all_nil, Bool.and_true]
        generalize List.all _ _ = y
        cases ev s.L b l2[k] <;> cases y <;> rfl))
      have q0 : (0 : Int) ≤ k := by omega
      have q1 : (k : Int) < l.length := by omega
      have hw : IntKind.i64.wrap ((k : Int) + 1) = (k : Int) + 1 := by rw [IntKind.wrap_i64]; omega
      generalize l2[k] = f at *
      clear hBk hFk hkk hcc hif hx hifk hlk hwk hC hR hU hL hN hbu hnv hn100 hsl hns hm1 hm2
      go_wp2_with fail
      refine HC.out.mono ?_
      rintro e w4 ⟨a', s', rfl, hR2, hU2⟩
      have HE := Lib.hid (HNX.out w4 a' s' hR2 hU2)
      clear hR2 hU2 HC HNX a0
      go_wp2_with fail
      go_roundw
      case rel => exact ⟨k + 1, a', s', by omega, by go_num, rfl, Lib.hid HE.out.1, Lib.hid HE.out.2⟩
      case measure => simp [intOf]; omega
    · have e1 : decide ((k : Int) < l.length) = false := by simp; omega
      have e2 : decide (k < l.length) = false := decide_eq_false hlt
      have hkl : k = l.length := by omega
      have HE : Hid (Ans s sk (2 ^ n * l.length) n (allF s.L l) a) := Lib.hid (by
        have h := hR.out
        rw [List.take_of_length_le (by have := HLs.out.2.2.2.2.2.1; omega), HPm.out, hkl] at h
        exact h)
      have HE2 := Lib.hid (HWh.out wr sk _ hU.out)
      rw [hkl] at HE2
      clear hR hU hkl hlt hk
      go_wp2_with fail
      go_ret
      exact ⟨_, _, _, rfl, HE.out, Nat.le_refl _, HE2.out⟩
set_option maxHeartbeats 4000000 in
set_option maxRecDepth 100000 in
theorem orn_ {D : Nat} {x : Bx} {c : Nat} {s : St} {N : Nat} {w : World} (n : Nat) (A : Option Addr) (ca : Nat) (l : List Int) (hn : l.length ≤ 100) (hall : ∀ f ∈ l, Dg s n f) (hA : RowI w A l) (hAd : ∀ a, A = some a → ¬ FootD D x a.block) (hl0 : l = [] → A = none ∧ ca = 0) (hnv : n ≤ s.vars) (hns : s.spent = false) (hbu : s.L.length + 2 ^ n * l.length ≤ s.budget) (hL : s.L.length + 2 ^ n * l.length ≤ 119900) (hN : N + 2 ^ n * l.length ≤ 900000) (hc : c + l.length ≤ 1000000) (H : Bd w D x c s N) :
    Calls Try.prog 45 #[.pointer (some ⟨D, 0, none⟩), .slice A l.length ca] w (AnsPost D x c s N n (2 ^ n * l.length) (2 ^ n * l.length) l.length (anyF s.L l) w) := by
  unfold AnsPost
  have hwf := H.tk.tb.wf
  have hlen := H.tk.tb.len
  have hrng : ∀ f ∈ l, -9223372036854775808 ≤ f ∧ f ≤ 9223372036854775807 := fun f hf => is_range (by omega) (hall f hf).is
  have hsp := srtI_perm (K := s.vars) (L := s.L) hrng
  have hsl := srtI_len s.vars s.L l
  have hsall : ∀ f ∈ srtI s.vars s.L l, Dg s n f := fun f hf => hall f (hsp.subset hf)
  have HBg := Lib.hid (begin_ l.length A ca l (by omega) (fun f hf => (hall f hf).is) hA (by omega) H)
  have HUp := Lib.hid (fun w1 x1 (hB : Bd w1 D x1 (c + l.length) s N) (hA1 : RowI w1 A l) => (show Calls Try.prog 64 #[.pointer (some ⟨D, 0, none⟩), .slice A l.length ca] w1 (UpPost s l w1) from by
    by_cases h0 : l = []
    · obtain ⟨rfl, rfl⟩ := hl0 h0
      subst h0
      exact up0 hB
    · exact up_ A ca l (by cases l with | nil => exact absurd rfl h0 | cons => simp) (by omega) (fun f hf => (hall f hf).is) hA1 hB))
  unfold UpPost at HUp
  have HAs := Lib.hid (fun w1 (hF : Frm (FootD D x) w w1) => (show RowI w1 A l from fun h0 => by
    obtain ⟨b, rfl, hl, hcc⟩ := hA h0
    have e := hF.block b hl (hAd _ rfl)
    exact ⟨b, rfl, Nat.lt_of_lt_of_le hl hF.size, fun j hj => (World.cell?_of_block (w := w) e).trans (hcc j hj)⟩))
  have HPm := Lib.hid ((any_perm hsp : anyF s.L (srtI s.vars s.L l) = anyF s.L l))
  generalize srtI s.vars s.L l = l2 at *
  have HSa := Lib.hid hsall
  have HR0 : Hid (Ans s s 0 n (anyF s.L []) 0) := Lib.hid ⟨Ext.refl hns 0, zero_dg s n, fun b => ev_zero _ b⟩
  have HLs := Lib.hid (And.intro hL (And.intro hN (And.intro hbu (And.intro hnv (And.intro hn (And.intro hsl hns))))))
  clear H hA hAd hall hrng hsp hsall hwf hlen hl0 hL hN hc hbu hns hnv
  go_enter Try.func45, Try.ntmps45
  go_wp2_with fail
  refine HBg.out.mono ?_
  rintro e w1 ⟨rfl, x1, hB1, hF1, hk1⟩
  have HU1 := Lib.hid (HUp.out w1 x1 hB1 (HAs.out w1 hF1))
  have HQ1 := Lib.hid (And.intro hB1 (And.intro hF1 hk1))
  clear hB1 hF1 hk1 HUp HAs HBg
  go_wp2_with fail
  refine HU1.out.mono ?_
  rintro e w2 ⟨A2, ca2, rfl, hA2, hfr, hb2⟩
  obtain ⟨hB1, hF1, hk1⟩ := HQ1.out
  have HRow := Lib.hid (fun wr (hF : Frm (FootD D x1) w2 wr) => row_stays (w0 := w1) hA2 hfr (fun j hj => hB1.foot hj) hF)
  have HUp0 := Lib.hid ((hB1.below hb2).upto (Below.refl _ w2))
  have HWh := Lib.hid (fun wr sk N' (hU : Upto D x1 w2 wr (c + l.length) sk N') => Upto.trans hF1 hk1 (Upto.trans (Frm.of_below (F := FootD D x1) hb2) (fun j hj => Or.inl hj) hU))
  clear hB1 hF1 hk1 hA2 hfr hb2 HU1 HQ1
  go_wp2_with fail
  go_loopw [5, 18] (fun r i wr => ∃ (k : Nat) (a : Int) (sk : St), k ≤ l.length ∧ i = .int .i64 k ∧ r = .int .i64 a ∧ Hid (Ans s sk (2 ^ n * k) n (anyF s.L (l2.take k)) a) ∧ Hid (Upto D x1 w2 wr (c + l.length) sk (N + 2 ^ n * k))) (fun _ i _ => l.length - (intOf i).toNat)
  case atStart => exact ⟨0, 0, s, by omega, rfl, rfl, Lib.hid (by have h := HR0.out; exact h), Lib.hid (by have h := HUp0.out; exact h)⟩
  case round =>
    obtain ⟨k, a, sk, hk, rfl, rfl, hR, hU⟩ := hrel
    by_cases hlt : k < l.length
    · have e1 : decide ((k : Int) < l.length) = true := by simp; omega
      obtain ⟨xk, hBk, hFk, hkk⟩ := hU.out
      obtain ⟨hL, hN, hbu, hnv, hn100, hsl, hns⟩ := HLs.out
      have hk2 : k < l2.length := by omega
      obtain ⟨b, rfl, hbl, hcc⟩ := HRow.out wr hFk (by omega)
      have a0 := hcc k hk2
      have hif := HSa.out l2[k] (List.getElem_mem hk2)
      have hx := hR.out.ext
      have hifk := hx.dg hif
      have hlk := hx.len
      have hwk := hBk.tk.tb.wf
      have hm1 : 2 ^ n * (k + 1) = 2 ^ n * k + 2 ^ n := Nat.mul_succ _ _
      have hm2 : 2 ^ n * (k + 1) ≤ 2 ^ n * l.length := Nat.mul_le_mul_left _ (by omega)
      have hC := choose_ D (c + l.length) n xk sk (N + 2 ^ n * k) wr l2[k] 1 a hBk hifk (one_dg sk n) hR.out.dg (by omega) (by omega)
      have HC := Lib.hid hC
      unfold ChPost at HC
      have HNX := Lib.hid (fun w4 a' s' (hR2 : Res sk (top sk.vars sk.L (iteF sk.L l2[k] 1 a)).1 (top sk.vars sk.L (iteF sk.L l2[k] 1 a)).2 a' s') (hU2 : Upto D xk wr w4 (c + l.length) s' (N + 2 ^ n * k + 2 ^ n)) => (show Ans s s' (2 ^ n * (k + 1)) n (anyF s.L (l2.take (k + 1))) a' ∧ Upto D x1 w2 w4 (c + l.length) s' (N + 2 ^ n * (k + 1)) from by
        refine ⟨?_, up_more (Upto.trans hFk hkk hU2) (by omega)⟩
        have hd := dep_iteD hwk hifk (one_dg sk n) hR.out.dg
        have hA2 := ans_of hwk hx.sp (by rw [hx.bud]; omega) (by rw [hx.vars]; exact hnv) hd hR2
        refine ⟨by rw [hm1]; exact hx.trans hA2.ext, hA2.dg, fun b => ?_⟩
        rw [hA2.ev b]
        unfold iteF
        rw [ev_one, hx.ev hif.is b, hR.out.ev b, List.take_succ_eq_append_getElem hk2]
        unfold anyF
        simp only [List.any_append, List.any_cons, List.any_nil, Bool.or_false]
        generalize List.any _ _ = y
        cases ev s.L b l2[k] <;> cases y <;> rfl))
      have q0 : (0 : Int) ≤ k := by omega
      have q1 : (k : Int) < l.length := by omega
      have hw : IntKind.i64.wrap ((k : Int) + 1) = (k : Int) + 1 := by rw [IntKind.wrap_i64]; omega
      generalize l2[k] = f at *
      clear hBk hFk hkk hcc hif hx hifk hlk hwk hC hR hU hL hN hbu hnv hn100 hsl hns hm1 hm2
      go_wp2_with fail
      refine HC.out.mono ?_
      rintro e w4 ⟨a', s', rfl, hR2, hU2⟩
      have HE := Lib.hid (HNX.out w4 a' s' hR2 hU2)
      clear hR2 hU2 HC HNX a0
      go_wp2_with fail
      go_roundw
      case rel => exact ⟨k + 1, a', s', by omega, by go_num, rfl, Lib.hid HE.out.1, Lib.hid HE.out.2⟩
      case measure => simp [intOf]; omega
    · have e1 : decide ((k : Int) < l.length) = false := by simp; omega
      have e2 : decide (k < l.length) = false := decide_eq_false hlt
      have hkl : k = l.length := by omega
      have HE : Hid (Ans s sk (2 ^ n * l.length) n (anyF s.L l) a) := Lib.hid (by
        have h := hR.out
        rw [List.take_of_length_le (by have := HLs.out.2.2.2.2.2.1; omega), HPm.out, hkl] at h
        exact h)
      have HE2 := Lib.hid (HWh.out wr sk _ hU.out)
      rw [hkl] at HE2
      clear hR hU hkl hlt hk
      go_wp2_with fail
      go_ret
      exact ⟨_, _, _, rfl, HE.out, Nat.le_refl _, HE2.out⟩
theorem iten_ {D : Nat} {x : Bx} {c : Nat} {s : St} {N : Nat} {w : World} (f g h : Int) (hf : isB s f = true) (hg : isB s g = true) (hh : isB s h = true) (hv : s.vars ≤ 6) (hns : s.spent = false) (hbu : s.L.length + 64 ≤ s.budget) (hL : s.L.length + 64 ≤ 119900) (hN : N + 64 ≤ 900000) (hc : c + 3 ≤ 1000000) (H : Bd w D x c s N) :
    Calls Try.prog 43 #[.pointer (some ⟨D, 0, none⟩), .int .i64 f, .int .i64 g, .int .i64 h] w (AnsPost D x c s N s.vars 64 64 1 (iteF s.L f g h) w) := by
  refine (ite_ f g h hf hg hh hv hL hN hc H).mono ?_
  rintro e w' ⟨a, s', rfl, hR, hU⟩
  have hwf := H.tk.tb.wf
  have hp : 2 ^ s.vars ≤ 64 := pow6 hv
  have hA := ans_of hwf hns (by omega) (Nat.le_refl _) (dep_iteD hwf (dg_top hwf hf) (dg_top hwf hg) (dg_top hwf hh)) hR
  exact ⟨a, s', _, rfl, ⟨hA.ext.more hp, hA.dg, hA.ev⟩, Nat.le_refl _, hU⟩
theorem notn_ {D : Nat} {x : Bx} {c : Nat} {s : St} {N : Nat} {w : World} (f : Int) (hf : isB s f = true) (hv : s.vars ≤ 6) (hns : s.spent = false) (hbu : s.L.length + 64 ≤ s.budget) (hL : s.L.length + 64 ≤ 119900) (hN : N + 64 ≤ 900000) (hc : c + 3 ≤ 1000000) (H : Bd w D x c s N) :
    Calls Try.prog 23 #[.pointer (some ⟨D, 0, none⟩), .int .i64 f] w (AnsPost D x c s N s.vars 64 64 1 (iteF s.L f 0 1) w) := by
  refine (not_ f hf hv hL hN hc H).mono ?_
  rintro e w' ⟨a, s', rfl, hR, hU⟩
  have hwf := H.tk.tb.wf
  have hp : 2 ^ s.vars ≤ 64 := pow6 hv
  have hA := ans_of hwf hns (by omega) (Nat.le_refl _) (dep_iteD hwf (dg_top hwf hf) (zero_dg s _) (one_dg s _)) hR
  exact ⟨a, s', _, rfl, ⟨hA.ext.more hp, hA.dg, hA.ev⟩, Nat.le_refl _, hU⟩
end Go.Proofs.Ytnkkmppmfjekeaa.QuB
