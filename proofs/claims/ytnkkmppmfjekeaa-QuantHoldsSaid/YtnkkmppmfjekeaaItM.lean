/- And, Or, by contract. -/
import Derived.Test.YtnkkmppmfjekeaaItL
namespace Go.Proofs.Ytnkkmppmfjekeaa.ItM
open Go.RowKit Go.Lib Go.Proofs Go.Proofs.Ytnkkmppmfjekeaa.NdA Go.Proofs.Ytnkkmppmfjekeaa.NdB Go.Proofs.Ytnkkmppmfjekeaa.NdC Go.Proofs.Ytnkkmppmfjekeaa.NdE Go.Proofs.Ytnkkmppmfjekeaa.NdG Go.Proofs.Ytnkkmppmfjekeaa.NdI Go.Proofs.Ytnkkmppmfjekeaa.ItA Go.Proofs.Ytnkkmppmfjekeaa.ItB Go.Proofs.Ytnkkmppmfjekeaa.ItD Go.Proofs.Ytnkkmppmfjekeaa.ItF Go.Proofs.Ytnkkmppmfjekeaa.ItH Go.Proofs.Ytnkkmppmfjekeaa.ItI Go.Proofs.Ytnkkmppmfjekeaa.ItJ Go.Proofs.Ytnkkmppmfjekeaa.ItK Go.Proofs.Ytnkkmppmfjekeaa.ItL
set_option linter.unusedVariables false
set_option linter.unusedSimpArgs false
def stA (K : Nat) (p : Int × List Nd) (f : Int) : Int × List Nd := top K p.2 (iteF p.2 f p.1 0)
def stO (K : Nat) (p : Int × List Nd) (f : Int) : Int × List Nd := top K p.2 (iteF p.2 f 1 p.1)
/-- A diagram, and the nodes behind what was there. -/
structure Gp (K : Nat) (L : List Nd) (p : Int × List Nd) : Prop where
  pre : ∃ X, p.2 = L ++ X
  wf : WF (T K p.2)
  is : isB (T K p.2) p.1 = true
theorem is_appT {K : Nat} {L M : List Nd} {f : Int} (h : isB (T K L) f = true) (hp : ∃ X, M = L ++ X) : isB (T K M) f = true := by
  obtain ⟨X, rfl⟩ := hp
  exact is_app h
theorem top_gp {K : Nat} {L : List Nd} {p : Int × List Nd} (H : Gp K L p) {f g h : Int} (hf : isB (T K p.2) f = true) (hg : isB (T K p.2) g = true) (hh : isB (T K p.2) h = true) :
    Gp K L (top K p.2 (iteF p.2 f g h)) ∧ (∃ X, (top K p.2 (iteF p.2 f g h)).2 = p.2 ++ X) ∧ (top K p.2 (iteF p.2 f g h)).2.length + 1 ≤ p.2.length + 2 ^ K ∧ ∀ b, ev (top K p.2 (iteF p.2 f g h)).2 b (top K p.2 (iteF p.2 f g h)).1 = iteF p.2 f g h b := by
  have hd := dep_ite (s := T K p.2) H.wf hf hg hh (v := 0) (by have := var_nn (s := T K p.2) H.wf hf; omega) (by have := var_nn (s := T K p.2) H.wf hg; omega) (by have := var_nn (s := T K p.2) H.wf hh; omega)
  have hG := top_good (K := K) (L := p.2) (F := iteF p.2 f g h) (v := 0) (n := K) H.wf (by omega) hd
  obtain ⟨X, hX⟩ := H.pre
  obtain ⟨Y, hY⟩ := hG.pre
  exact ⟨⟨⟨X ++ Y, by rw [hY, hX, List.append_assoc]⟩, hG.wf, hG.is⟩, ⟨Y, hY⟩, hG.len, hG.ev⟩
theorem gp_start {s : St} (H : WF s) {r : Int} (h : isB s r = true) : Gp s.vars s.L (r, s.L) := ⟨⟨[], by simp⟩, T_wf H, h⟩
theorem stA_gp {K : Nat} {L : List Nd} {p : Int × List Nd} (H : Gp K L p) {f : Int} (hf : isB (T K L) f = true) : Gp K L (stA K p f) ∧ (∃ X, (stA K p f).2 = p.2 ++ X) ∧ (stA K p f).2.length + 1 ≤ p.2.length + 2 ^ K ∧ ∀ b, ev (stA K p f).2 b (stA K p f).1 = (ev L b f && ev p.2 b p.1) := by
  have hf' := is_appT hf H.pre
  obtain ⟨h1, h2, h3, h4⟩ := top_gp H hf' H.is (zero_is (T K p.2))
  refine ⟨h1, h2, h3, fun b => ?_⟩
  show ev (top K p.2 (iteF p.2 f p.1 0)).2 b (top K p.2 (iteF p.2 f p.1 0)).1 = _
  rw [h4 b]
  unfold iteF
  obtain ⟨X, hX⟩ := H.pre
  rw [ev_zero]
  have : ev p.2 b f = ev L b f := by rw [hX, ev_app (K := K) hf]
  rw [this]
  cases ev L b f <;> rfl
theorem stO_gp {K : Nat} {L : List Nd} {p : Int × List Nd} (H : Gp K L p) {f : Int} (hf : isB (T K L) f = true) : Gp K L (stO K p f) ∧ (∃ X, (stO K p f).2 = p.2 ++ X) ∧ (stO K p f).2.length + 1 ≤ p.2.length + 2 ^ K ∧ ∀ b, ev (stO K p f).2 b (stO K p f).1 = (ev L b f || ev p.2 b p.1) := by
  have hf' := is_appT hf H.pre
  obtain ⟨h1, h2, h3, h4⟩ := top_gp H hf' (one_is (T K p.2)) H.is
  refine ⟨h1, h2, h3, fun b => ?_⟩
  show ev (top K p.2 (iteF p.2 f 1 p.1)).2 b (top K p.2 (iteF p.2 f 1 p.1)).1 = _
  rw [h4 b]
  unfold iteF
  obtain ⟨X, hX⟩ := H.pre
  rw [ev_one]
  have : ev p.2 b f = ev L b f := by rw [hX, ev_app (K := K) hf]
  rw [this]
  cases ev L b f <;> rfl
/-- One behind another. -/
theorem res_chain {s s1 s2 : St} {r a a' : Int} {M : List Nd} {p : Int × List Nd} (hI : Inv s) (h1 : Res s r M a s1) (hM : ∃ X, M = s.L ++ X) (hM' : ∃ X, p.2 = M ++ X) {F : List Nd → Int → ItA.Fn} (hp : p = top s.vars M (F M r)) (h2 : Res s1 (top s1.vars s1.L (F s1.L a)).1 (top s1.vars s1.L (F s1.L a)).2 a' s2) : Res s p.1 p.2 a' s2 := by
  rcases h1 with ⟨hs, hl, rfl, rfl⟩ | ⟨hb, hi, hsp⟩
  · rcases h2 with ⟨k1, k2, k3, k4⟩ | ⟨k1, k2, k3⟩
    · rw [hp]
      exact Or.inl ⟨hs, k2, k3, k4⟩
    · rw [hp]
      rcases k1 with k1 | k1
      · exact absurd (hs.symm.trans k1) (by simp)
      · obtain ⟨X, hX⟩ := hM
        obtain ⟨Y, hY⟩ := k3.pre
        exact Or.inr ⟨Or.inr k1, k2, ⟨k3.sp, k3.vars, k3.bud, k3.len, ⟨X ++ Y, by rw [hY]; show M ++ Y = _; rw [hX, List.append_assoc]⟩⟩⟩
  · have hk : isB s2 a' = true ∧ Sp s1 s2 := by
      rcases h2 with ⟨k1, _⟩ | ⟨_, k2, k3⟩
      · rw [hsp.sp] at k1; cases k1
      · exact ⟨k2, k3⟩
    refine Or.inr ⟨?_, hk.1, hsp.trans hk.2⟩
    rcases hb with hb | hb
    · exact Or.inl hb
    · obtain ⟨Y, hY⟩ := hM'
      exact Or.inr (by rw [hY, List.length_append]; omega)
theorem res_start {s : St} (hI : Inv s) {r : Int} (hr : isB s r = true) : Res s r s.L r s := by
  cases hs : s.spent with
  | false => exact Or.inl ⟨hs, hI.len, rfl, rfl⟩
  | true => exact Or.inr ⟨Or.inl hs, hr, Sp.self hI hs⟩
def RowPost (D : Nat) (x : Bx) (c : Nat) (l : List Int) (s : St) (N : Nat) (p : Int × List Nd) (w : World) (e : Ending) (w' : World) : Prop := ∃ a s', e = .returned (.int .i64 a) ∧ Res s p.1 p.2 a s' ∧ Upto D x w w' (c + l.length) s' (N + 64 * l.length)
/-- A row that lies apart stays. -/
theorem row_stays {D : Nat} {x : Bx} {w0 w w' : World} {A : Option Addr} {l : List Int} (h : RowI w A l) (hA : ∀ a, A = some a → w0.heap.size ≤ a.block) (hF : ∀ j, FootD D x j → j < w0.heap.size) (hf : Frm (FootD D x) w w') : RowI w' A l := fun h0 => by
  obtain ⟨b, rfl, hl, hc⟩ := h h0
  have hb := hA _ rfl
  have e := hf.block b hl (fun h => by have := hF b h; have hb' : w0.heap.size ≤ b := hb; omega)
  exact ⟨b, rfl, Nat.lt_of_lt_of_le hl hf.size, fun j hj => (World.cell?_of_block (w := w) e).trans (hc j hj)⟩
theorem foldA_gp {K : Nat} {L : List Nd} (hK : 2 ^ K ≤ 64) : ∀ (l : List Int) (p : Int × List Nd), Gp K L p → (∀ f ∈ l, isB (T K L) f = true) → Gp K L (l.foldl (stA K) p) ∧ (l.foldl (stA K) p).2.length ≤ p.2.length + 64 * l.length
  | [], p, H, _ => ⟨H, by simp⟩
  | f :: l, p, H, hl => by
    obtain ⟨h1, h2, h3, h4⟩ := stA_gp H (hl f (by simp))
    obtain ⟨k1, k2⟩ := foldA_gp hK l (stA K p f) h1 (fun y hy => hl y (by simp [hy]))
    refine ⟨k1, ?_⟩
    show (l.foldl (stA K) (stA K p f)).2.length ≤ _
    rw [List.length_cons]
    omega
theorem foldO_gp {K : Nat} {L : List Nd} (hK : 2 ^ K ≤ 64) : ∀ (l : List Int) (p : Int × List Nd), Gp K L p → (∀ f ∈ l, isB (T K L) f = true) → Gp K L (l.foldl (stO K) p) ∧ (l.foldl (stO K) p).2.length ≤ p.2.length + 64 * l.length
  | [], p, H, _ => ⟨H, by simp⟩
  | f :: l, p, H, hl => by
    obtain ⟨h1, h2, h3, h4⟩ := stO_gp H (hl f (by simp))
    obtain ⟨k1, k2⟩ := foldO_gp hK l (stO K p f) h1 (fun y hy => hl y (by simp [hy]))
    refine ⟨k1, ?_⟩
    show (l.foldl (stO K) (stO K p f)).2.length ≤ _
    rw [List.length_cons]
    omega
set_option maxHeartbeats 4000000 in
set_option maxRecDepth 100000 in
theorem and_ {D : Nat} {x : Bx} {c : Nat} {s : St} {N : Nat} {w : World} (A : Option Addr) (ca : Nat) (l : List Int) (hn : l.length ≤ 3) (hall : ∀ f ∈ l, isB s f = true) (hA : RowI w A l) (hAd : ∀ a, A = some a → ¬ FootD D x a.block) (hl0 : l = [] → A = none ∧ ca = 0) (hv : s.vars ≤ 6) (hL : s.L.length + 64 * l.length + 64 ≤ 119900) (hN : N + 64 * l.length + 64 ≤ 900000) (hc : c + 3 ≤ 1000000) (H : Bd w D x c s N) :
    Calls Try.prog 44 #[.pointer (some ⟨D, 0, none⟩), .slice A l.length ca] w (RowPost D x c l s N ((srtI s.vars s.L l).foldl (stA s.vars) (1, s.L)) w) := by
  unfold RowPost
  have hp := pow6 hv
  have hwf := H.tk.tb.wf
  have hlen := H.tk.tb.len
  have hrng : ∀ f ∈ l, -9223372036854775808 ≤ f ∧ f ≤ 9223372036854775807 := fun f hf => is_range (by omega) (hall f hf)
  have hsp := srtI_perm (K := s.vars) (L := s.L) hrng
  have hsl := srtI_len s.vars s.L l
  have hsall : ∀ f ∈ srtI s.vars s.L l, isB s f = true := fun f hf => hall f (hsp.subset hf)
  have hgp0 := gp_start hwf (one_is s)
  have HI := Lib.hid H.inv
  have HBg := Lib.hid (begin_ l.length A ca l (by omega) hall hA (by omega) H)
  have HUp := Lib.hid (fun w1 x1 (hB : Bd w1 D x1 (c + l.length) s N) (hA1 : RowI w1 A l) => (show Calls Try.prog 64 #[.pointer (some ⟨D, 0, none⟩), .slice A l.length ca] w1 (UpPost s l w1) from by
    by_cases h0 : l = []
    · obtain ⟨rfl, rfl⟩ := hl0 h0
      subst h0
      exact up0 hB
    · exact up_ A ca l (by cases l with | nil => exact absurd rfl h0 | cons => simp) (by omega) hall hA1 hB))
  unfold UpPost at HUp
  have HAs := Lib.hid (fun w1 (hF : Frm (FootD D x) w w1) => (show RowI w1 A l from fun h0 => by
    obtain ⟨b, rfl, hl, hcc⟩ := hA h0
    have e := hF.block b hl (hAd _ rfl)
    exact ⟨b, rfl, Nat.lt_of_lt_of_le hl hF.size, fun j hj => (World.cell?_of_block (w := w) e).trans (hcc j hj)⟩))
  generalize srtI s.vars s.L l = l2 at *
  have HG := Lib.hid (fun k => foldA_gp hp (l2.take k) (1, s.L) hgp0 (fun f hf => hsall f (List.mem_of_mem_take hf)))
  have HSa := Lib.hid hsall
  have HR0 := Lib.hid (res_start H.inv (one_is s))
  have HLs := Lib.hid (And.intro hL (And.intro hN (And.intro hv (And.intro hp (And.intro hn hsl)))))
  clear H hA hAd hall hrng hsp hsall hgp0 hwf hlen hp hl0 hL hN hv hc
  go_enter Try.func44, Try.ntmps44
  go_wp2_with fail
  refine HBg.out.mono ?_
  rintro e w1 ⟨rfl, x1, hB1, hF1, hk1⟩
  have HU1 := Lib.hid (HUp.out w1 x1 hB1 (HAs.out w1 hF1))
  have HQ1 := Lib.hid (And.intro hB1 (And.intro hF1 hk1))
  clear hB1 hF1 hk1 HUp HAs HBg
  go_wp2_with fail
  refine HU1.out.mono ?_
  rintro e w2 ⟨A2, ca2, rfl, hA2, hfr, hb2⟩
  obtain ⟨hB1, hF1, hk1⟩ := HQ1.out
  have HB2 := Lib.hid (hB1.below hb2)
  have HRow := Lib.hid (fun wr (hF : Frm (FootD D x1) w2 wr) => row_stays (w0 := w1) hA2 hfr (fun j hj => hB1.foot hj) hF)
  have HUp0 := Lib.hid ((hB1.below hb2).upto (Below.refl _ w2))
  have HWh := Lib.hid (fun wr sk N' (hU : Upto D x1 w2 wr (c + l.length) sk N') => Upto.trans hF1 hk1 (Upto.trans (Frm.of_below (F := FootD D x1) hb2) (fun j hj => Or.inl hj) hU))
  clear hB1 hF1 hk1 hA2 hfr hb2 HU1 HQ1
  go_wp2_with fail
  go_loopw [5, 18] (fun r i wr => ∃ (k : Nat) (a : Int) (sk : St), k ≤ l.length ∧ i = .int .i64 k ∧ r = .int .i64 a ∧ Hid (Res s ((l2.take k).foldl (stA s.vars) (1, s.L)).1 ((l2.take k).foldl (stA s.vars) (1, s.L)).2 a sk) ∧ Hid (Upto D x1 w2 wr (c + l.length) sk (N + 64 * k))) (fun _ i _ => l.length - (intOf i).toNat)
  case atStart => exact ⟨0, 1, s, by omega, rfl, rfl, Lib.hid HR0.out, Lib.hid HUp0.out⟩
  case round =>
    obtain ⟨k, a, sk, hk, rfl, rfl, hR, hU⟩ := hrel
    by_cases hlt : k < l.length
    · have e1 : decide ((k : Int) < l.length) = true := by simp; omega
      obtain ⟨xk, hBk, hFk, hkk⟩ := hU.out
      have hls := HLs.out
      have hk2 : k < l2.length := by have := hls.2.2.2.2.2; omega
      obtain ⟨b, rfl, hbl, hcc⟩ := HRow.out wr hFk (by omega)
      have a0 := hcc k hk2
      have hif := HSa.out l2[k] (List.getElem_mem hk2)
      have hG := HG.out k
      have hvk := hR.out.vars.1
      have hisa := hR.out.is hG.1.is
      have hpk := hR.out.pre hG.1.pre
      have hifk := is_more hif hpk
      have hlk := len_le HI.out hR.out hG.1.pre
      have hlk2 := hG.2
      have ht : (l2.take k).length = k := by rw [List.length_take]; omega
      rw [ht] at hlk2
      have hwk := hBk.tk.tb.wf
      have hpw : 2 ^ sk.vars ≤ 64 := by rw [hvk]; exact hls.2.2.2.1
      have hC := choose_ D (c + l.length) sk.vars xk sk (N + 64 * k) wr l2[k] a 0 hBk (dg_top hwk hifk) (dg_top hwk hisa) (zero_dg sk _) (by omega) (by omega)
      have HC := Lib.hid hC
      unfold ChPost at HC
      have HNX := Lib.hid (fun w4 a' s' (hR2 : Res sk (top sk.vars sk.L (iteF sk.L l2[k] a 0)).1 (top sk.vars sk.L (iteF sk.L l2[k] a 0)).2 a' s') (hU2 : Upto D xk wr w4 (c + l.length) s' (N + 64 * k + 2 ^ sk.vars)) => (show Res s ((l2.take (k + 1)).foldl (stA s.vars) (1, s.L)).1 ((l2.take (k + 1)).foldl (stA s.vars) (1, s.L)).2 a' s' ∧ Upto D x1 w2 w4 (c + l.length) s' (N + 64 * (k + 1)) from by
        refine ⟨?_, up_more (Upto.trans hFk hkk hU2) (by omega)⟩
        have ef : (l2.take (k + 1)).foldl (stA s.vars) (1, s.L) = stA s.vars ((l2.take k).foldl (stA s.vars) (1, s.L)) l2[k] := by rw [List.take_succ_eq_append_getElem hk2, List.foldl_append]; rfl
        have hs2 := stA_gp hG.1 hif
        rw [ef]
        exact res_chain HI.out hR.out hG.1.pre hs2.2.1 (F := fun M r => iteF M l2[k] r 0) rfl hR2))
      have q0 : (0 : Int) ≤ k := by omega
      have q1 : (k : Int) < l.length := by omega
      have hw : IntKind.i64.wrap ((k : Int) + 1) = (k : Int) + 1 := by rw [IntKind.wrap_i64]; omega
      generalize l2[k] = f at *
      clear hBk hFk hkk hcc hif hG hvk hisa hpk hifk hlk hlk2 ht hwk hpw hC hR hU hls
      go_wp2_with fail
      refine HC.out.mono ?_
      rintro e w4 ⟨a', s', rfl, hR2, hU2⟩
      have HE := Lib.hid (HNX.out w4 a' s' hR2 hU2)
      clear hR2 hU2 HC HNX a0
      go_wp2_with fail
      go_roundw
      case rel => exact ⟨k + 1, a', s', by omega, by go_num, rfl, Lib.hid HE.out.1, Lib.hid HE.out.2⟩
      case measure => simp [intOf]; omega
    · have e1 : decide ((k : Int) < l.length) = false := by simp; omega
      have e2 : decide (k < l.length) = false := decide_eq_false hlt
      have hkl : k = l.length := by omega
      have HE : Hid (Res s (l2.foldl (stA s.vars) (1, s.L)).1 (l2.foldl (stA s.vars) (1, s.L)).2 a sk) := Lib.hid (by
        have := hR.out
        rw [List.take_of_length_le (by have := HLs.out.2.2.2.2.2; omega)] at this
        exact this)
      have HE2 := Lib.hid (HWh.out wr sk _ hU.out)
      rw [hkl] at HE2
      clear hR hU hkl hlt hk
      go_wp2_with fail
      go_ret
      exact ⟨_, _, rfl, HE.out, HE2.out⟩
set_option maxHeartbeats 4000000 in
set_option maxRecDepth 100000 in
theorem or_ {D : Nat} {x : Bx} {c : Nat} {s : St} {N : Nat} {w : World} (A : Option Addr) (ca : Nat) (l : List Int) (hn : l.length ≤ 3) (hall : ∀ f ∈ l, isB s f = true) (hA : RowI w A l) (hAd : ∀ a, A = some a → ¬ FootD D x a.block) (hl0 : l = [] → A = none ∧ ca = 0) (hv : s.vars ≤ 6) (hL : s.L.length + 64 * l.length + 64 ≤ 119900) (hN : N + 64 * l.length + 64 ≤ 900000) (hc : c + 3 ≤ 1000000) (H : Bd w D x c s N) :
    Calls Try.prog 45 #[.pointer (some ⟨D, 0, none⟩), .slice A l.length ca] w (RowPost D x c l s N ((srtI s.vars s.L l).foldl (stO s.vars) (0, s.L)) w) := by
  unfold RowPost
  have hp := pow6 hv
  have hwf := H.tk.tb.wf
  have hlen := H.tk.tb.len
  have hrng : ∀ f ∈ l, -9223372036854775808 ≤ f ∧ f ≤ 9223372036854775807 := fun f hf => is_range (by omega) (hall f hf)
  have hsp := srtI_perm (K := s.vars) (L := s.L) hrng
  have hsl := srtI_len s.vars s.L l
  have hsall : ∀ f ∈ srtI s.vars s.L l, isB s f = true := fun f hf => hall f (hsp.subset hf)
  have hgp0 := gp_start hwf (zero_is s)
  have HI := Lib.hid H.inv
  have HBg := Lib.hid (begin_ l.length A ca l (by omega) hall hA (by omega) H)
  have HUp := Lib.hid (fun w1 x1 (hB : Bd w1 D x1 (c + l.length) s N) (hA1 : RowI w1 A l) => (show Calls Try.prog 64 #[.pointer (some ⟨D, 0, none⟩), .slice A l.length ca] w1 (UpPost s l w1) from by
    by_cases h0 : l = []
    · obtain ⟨rfl, rfl⟩ := hl0 h0
      subst h0
      exact up0 hB
    · exact up_ A ca l (by cases l with | nil => exact absurd rfl h0 | cons => simp) (by omega) hall hA1 hB))
  unfold UpPost at HUp
  have HAs := Lib.hid (fun w1 (hF : Frm (FootD D x) w w1) => (show RowI w1 A l from fun h0 => by
    obtain ⟨b, rfl, hl, hcc⟩ := hA h0
    have e := hF.block b hl (hAd _ rfl)
    exact ⟨b, rfl, Nat.lt_of_lt_of_le hl hF.size, fun j hj => (World.cell?_of_block (w := w) e).trans (hcc j hj)⟩))
  generalize srtI s.vars s.L l = l2 at *
  have HG := Lib.hid (fun k => foldO_gp hp (l2.take k) (0, s.L) hgp0 (fun f hf => hsall f (List.mem_of_mem_take hf)))
  have HSa := Lib.hid hsall
  have HR0 := Lib.hid (res_start H.inv (zero_is s))
  have HLs := Lib.hid (And.intro hL (And.intro hN (And.intro hv (And.intro hp (And.intro hn hsl)))))
  clear H hA hAd hall hrng hsp hsall hgp0 hwf hlen hp hl0 hL hN hv hc
  go_enter Try.func45, Try.ntmps45
  go_wp2_with fail
  refine HBg.out.mono ?_
  rintro e w1 ⟨rfl, x1, hB1, hF1, hk1⟩
  have HU1 := Lib.hid (HUp.out w1 x1 hB1 (HAs.out w1 hF1))
  have HQ1 := Lib.hid (And.intro hB1 (And.intro hF1 hk1))
  clear hB1 hF1 hk1 HUp HAs HBg
  go_wp2_with fail
  refine HU1.out.mono ?_
  rintro e w2 ⟨A2, ca2, rfl, hA2, hfr, hb2⟩
  obtain ⟨hB1, hF1, hk1⟩ := HQ1.out
  have HB2 := Lib.hid (hB1.below hb2)
  have HRow := Lib.hid (fun wr (hF : Frm (FootD D x1) w2 wr) => row_stays (w0 := w1) hA2 hfr (fun j hj => hB1.foot hj) hF)
  have HUp0 := Lib.hid ((hB1.below hb2).upto (Below.refl _ w2))
  have HWh := Lib.hid (fun wr sk N' (hU : Upto D x1 w2 wr (c + l.length) sk N') => Upto.trans hF1 hk1 (Upto.trans (Frm.of_below (F := FootD D x1) hb2) (fun j hj => Or.inl hj) hU))
  clear hB1 hF1 hk1 hA2 hfr hb2 HU1 HQ1
  go_wp2_with fail
  go_loopw [5, 18] (fun r i wr => ∃ (k : Nat) (a : Int) (sk : St), k ≤ l.length ∧ i = .int .i64 k ∧ r = .int .i64 a ∧ Hid (Res s ((l2.take k).foldl (stO s.vars) (0, s.L)).1 ((l2.take k).foldl (stO s.vars) (0, s.L)).2 a sk) ∧ Hid (Upto D x1 w2 wr (c + l.length) sk (N + 64 * k))) (fun _ i _ => l.length - (intOf i).toNat)
  case atStart => exact ⟨0, 0, s, by omega, rfl, rfl, Lib.hid HR0.out, Lib.hid HUp0.out⟩
  case round =>
    obtain ⟨k, a, sk, hk, rfl, rfl, hR, hU⟩ := hrel
    by_cases hlt : k < l.length
    · have e1 : decide ((k : Int) < l.length) = true := by simp; omega
      obtain ⟨xk, hBk, hFk, hkk⟩ := hU.out
      have hls := HLs.out
      have hk2 : k < l2.length := by have := hls.2.2.2.2.2; omega
      obtain ⟨b, rfl, hbl, hcc⟩ := HRow.out wr hFk (by omega)
      have a0 := hcc k hk2
      have hif := HSa.out l2[k] (List.getElem_mem hk2)
      have hG := HG.out k
      have hvk := hR.out.vars.1
      have hisa := hR.out.is hG.1.is
      have hpk := hR.out.pre hG.1.pre
      have hifk := is_more hif hpk
      have hlk := len_le HI.out hR.out hG.1.pre
      have hlk2 := hG.2
      have ht : (l2.take k).length = k := by rw [List.length_take]; omega
      rw [ht] at hlk2
      have hwk := hBk.tk.tb.wf
      have hpw : 2 ^ sk.vars ≤ 64 := by rw [hvk]; exact hls.2.2.2.1
      have hC := choose_ D (c + l.length) sk.vars xk sk (N + 64 * k) wr l2[k] 1 a hBk (dg_top hwk hifk) (one_dg sk _) (dg_top hwk hisa) (by omega) (by omega)
      have HC := Lib.hid hC
      unfold ChPost at HC
      have HNX := Lib.hid (fun w4 a' s' (hR2 : Res sk (top sk.vars sk.L (iteF sk.L l2[k] 1 a)).1 (top sk.vars sk.L (iteF sk.L l2[k] 1 a)).2 a' s') (hU2 : Upto D xk wr w4 (c + l.length) s' (N + 64 * k + 2 ^ sk.vars)) => (show Res s ((l2.take (k + 1)).foldl (stO s.vars) (0, s.L)).1 ((l2.take (k + 1)).foldl (stO s.vars) (0, s.L)).2 a' s' ∧ Upto D x1 w2 w4 (c + l.length) s' (N + 64 * (k + 1)) from by
        refine ⟨?_, up_more (Upto.trans hFk hkk hU2) (by omega)⟩
        have ef : (l2.take (k + 1)).foldl (stO s.vars) (0, s.L) = stO s.vars ((l2.take k).foldl (stO s.vars) (0, s.L)) l2[k] := by rw [List.take_succ_eq_append_getElem hk2, List.foldl_append]; rfl
        have hs2 := stO_gp hG.1 hif
        rw [ef]
        exact res_chain HI.out hR.out hG.1.pre hs2.2.1 (F := fun M r => iteF M l2[k] 1 r) rfl hR2))
      have q0 : (0 : Int) ≤ k := by omega
      have q1 : (k : Int) < l.length := by omega
      have hw : IntKind.i64.wrap ((k : Int) + 1) = (k : Int) + 1 := by rw [IntKind.wrap_i64]; omega
      generalize l2[k] = f at *
      clear hBk hFk hkk hcc hif hG hvk hisa hpk hifk hlk hlk2 ht hwk hpw hC hR hU hls
      go_wp2_with fail
      refine HC.out.mono ?_
      rintro e w4 ⟨a', s', rfl, hR2, hU2⟩
      have HE := Lib.hid (HNX.out w4 a' s' hR2 hU2)
      clear hR2 hU2 HC HNX a0
      go_wp2_with fail
      go_roundw
      case rel => exact ⟨k + 1, a', s', by omega, by go_num, rfl, Lib.hid HE.out.1, Lib.hid HE.out.2⟩
      case measure => simp [intOf]; omega
    · have e1 : decide ((k : Int) < l.length) = false := by simp; omega
      have e2 : decide (k < l.length) = false := decide_eq_false hlt
      have hkl : k = l.length := by omega
      have HE : Hid (Res s (l2.foldl (stO s.vars) (0, s.L)).1 (l2.foldl (stO s.vars) (0, s.L)).2 a sk) := Lib.hid (by
        have := hR.out
        rw [List.take_of_length_le (by have := HLs.out.2.2.2.2.2; omega)] at this
        exact this)
      have HE2 := Lib.hid (HWh.out wr sk _ hU.out)
      rw [hkl] at HE2
      clear hR hU hkl hlt hk
      go_wp2_with fail
      go_ret
      exact ⟨_, _, rfl, HE.out, HE2.out⟩
end Go.Proofs.Ytnkkmppmfjekeaa.ItM
