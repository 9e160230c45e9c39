/- Diagrams by their variables: the document's example, and which answers are one. -/
import Derived.Test.YtnkkmppmfjekeaaQuL
namespace Go.Proofs.Ytnkkmppmfjekeaa.QuN
open Go.RowKit Go.Lib Go.Proofs Go.Proofs.Ytnkkmppmfjekeaa.CaA Go.Proofs.Ytnkkmppmfjekeaa.NdA Go.Proofs.Ytnkkmppmfjekeaa.NdB Go.Proofs.Ytnkkmppmfjekeaa.NdC Go.Proofs.Ytnkkmppmfjekeaa.NdE Go.Proofs.Ytnkkmppmfjekeaa.NdG Go.Proofs.Ytnkkmppmfjekeaa.NdI Go.Proofs.Ytnkkmppmfjekeaa.NdL Go.Proofs.Ytnkkmppmfjekeaa.ItA Go.Proofs.Ytnkkmppmfjekeaa.ItB Go.Proofs.Ytnkkmppmfjekeaa.ItD Go.Proofs.Ytnkkmppmfjekeaa.ItF Go.Proofs.Ytnkkmppmfjekeaa.ItH Go.Proofs.Ytnkkmppmfjekeaa.ItI Go.Proofs.Ytnkkmppmfjekeaa.ItK Go.Proofs.Ytnkkmppmfjekeaa.ItL Go.Proofs.Ytnkkmppmfjekeaa.ItM Go.Proofs.Ytnkkmppmfjekeaa.QuA Go.Proofs.Ytnkkmppmfjekeaa.QuB Go.Proofs.Ytnkkmppmfjekeaa.QuC Go.Proofs.Ytnkkmppmfjekeaa.QuD Go.Proofs.Ytnkkmppmfjekeaa.QuH Go.Proofs.Ytnkkmppmfjekeaa.QuI Go.Proofs.Ytnkkmppmfjekeaa.QuJ Go.Proofs.Ytnkkmppmfjekeaa.QuK Go.Proofs.Ytnkkmppmfjekeaa.QuL
set_option linter.unusedVariables false
set_option linter.unusedSimpArgs false
theorem rowJ_of {w : World} {A : Option Addr} {l : List Int} (h : RowI w A l) : RowJ w A l := fun h0 => by
  obtain ⟨b, rfl, hl, hc⟩ := h h0
  exact ⟨b, 0, rfl, hl, fun j hj => by rw [Nat.zero_add]; exact hc j hj⟩
theorem ev_of_lit {s : St} (H : WF s) {f : Int} (hf : isB s f = true) {v : Nat} (hv : v < s.vars) (he : ∀ b, ev s.L b f = litF s.vars v b) : nodeB s f = true ∧ nodeB s (at_ s f).lo = false ∧ nodeB s (at_ s f).hi = false := by
  have hl : ∀ b, litF s.vars v b = b v := fun b => by unfold litF; rw [decide_eq_true hv, Bool.true_and]
  have hn : nodeB s f = true := by
    cases h : nodeB s f with
    | true => rfl
    | false =>
      have e1 := he (fun _ => true)
      have e0 := he (fun _ => false)
      rw [hl, ev_out h] at e1 e0
      rw [e1] at e0
      cases e0
  obtain ⟨i, p, lo, hi, hni, hat, hpK, hp61, hvn, il, ih, vl, vh, hne, inn, -⟩ := node_parts H hn
  have hev : ∀ b, ev s.L b f = if b p then ev s.L b hi else ev s.L b lo := fun b => by
    have h := (ev_in (b := b) H hn).1
    rw [hat] at h
    simp only [Int.toNat_natCast] at h
    exact h
  have dlo := dep_ev H il (v := p + 1) (by omega)
  have dhi := dep_ev H ih (v := p + 1) (by omega)
  have plo : ∀ b c, ev s.L (put b p c) lo = ev s.L b lo := fun b c => dlo _ _ (fun i h1 h2 => by unfold put; rw [if_neg (by omega)])
  have phi : ∀ b c, ev s.L (put b p c) hi = ev s.L b hi := fun b c => dhi _ _ (fun i h1 h2 => by unfold put; rw [if_neg (by omega)])
  have hpp : ∀ (b : Nat → Bool) c, put b p c p = c := fun b c => by unfold put; rw [if_pos rfl]
  have elo : ∀ b, ev s.L b lo = litF s.vars v (put b p false) := fun b => by
    rw [← he, hev, hpp, if_neg (by simp), plo]
  have ehi : ∀ b, ev s.L b hi = litF s.vars v (put b p true) := fun b => by
    rw [← he, hev, hpp, if_pos rfl, phi]
  have hpv : p = v := by
    apply Classical.byContradiction
    intro hpv
    refine hne (same_num H il ih (fun g => ?_))
    rw [elo, ehi, hl, hl]
    unfold put
    rw [if_neg (fun e => hpv e.symm), if_neg (fun e => hpv e.symm)]
  subst hpv
  have l0 : lo = 0 := same_num H il (zero_is s) (fun g => by rw [elo, hl, hpp, ev_zero])
  have h1 : hi = 1 := same_num H ih (one_is s) (fun g => by rw [ehi, hl, hpp, ev_one])
  refine ⟨hn, ?_, ?_⟩
  · rw [hat]
    show nodeB s lo = false
    rw [l0]
    unfold nodeB
    simp
  · rw [hat]
    show nodeB s hi = false
    rw [h1]
    unfold nodeB
    simp
theorem some_ext {s s' : St} {C : Nat} (he : Ext s s' C) {f : Int} (hf : isB s f = true) (l : List Int) : someF s' l f = someF s l f := by
  unfold someF
  rw [el_ext he hf, he.vars]
theorem each_ext {s s' : St} {C : Nat} (he : Ext s s' C) {f : Int} (hf : isB s f = true) (l : List Int) : eachF s' l f = eachF s l f := by
  unfold eachF
  rw [el_ext he hf, he.vars]
theorem some_swap (s : St) (v u : Int) (f : Int) : someF s [v, u] f = someF s [u, v] f := by
  have : anyS s.vars [v, u] = anyS s.vars [u, v] := by funext i; unfold anyS; simp only [List.any_cons, List.any_nil, Bool.or_false]; rw [Bool.or_comm]
  unfold someF
  rw [this]
theorem each_swap (s : St) (v u : Int) (f : Int) : eachF s [v, u] f = eachF s [u, v] f := by
  have : anyS s.vars [v, u] = anyS s.vars [u, v] := by funext i; unfold anyS; simp only [List.any_cons, List.any_nil, Bool.or_false]; rw [Bool.or_comm]
  unfold eachF
  rw [this]
theorem res_ext {s s' : St} {C : Nat} (he : Ext s s' C) {f : Int} (hf : isB s f = true) (v : Int) (so : Bool) : resF s' v so f = resF s v so f := by
  funext b
  unfold resF
  rw [he.vars, he.ev hf, he.ev hf]
theorem put_put (b : Nat → Bool) (v : Nat) (x y : Bool) : put (put b v x) v y = put b v y := by
  funext i
  unfold put
  split <;> rfl
/-- What was made so is so, and stays when it is made not so. -/
theorem res_twice {s s5 : St} {v x f : Int} {a b : Bool} (h5 : s5.vars = s.vars) (hx : ∀ g, ev s5.L g x = resF s v a f g) (g : Nat → Bool) : resF s5 v b x g = ev s5.L g x := by
  unfold resF
  rw [h5]
  split
  · rename_i hv
    rw [hx, hx]
    unfold resF
    rw [if_pos hv, if_pos hv, put_put]
  · rfl
theorem put_lit {s7 : St} {v y f : Int} (hv : 0 ≤ v ∧ v < s7.vars) (hy : ∀ g, ev s7.L g y = litF s7.vars v.toNat g) (g : Nat → Bool) : putF s7 v y f g = ev s7.L g f := by
  unfold putF
  rw [if_pos hv, hy]
  unfold litF
  rw [decide_eq_true (by omega), Bool.true_and]
  have := cof_self (fun g => ev s7.L g f) v.toNat g
  unfold cof at this
  cases h : g v.toNat with
  | true => rw [h] at this; rw [if_pos rfl]; exact this
  | false => rw [h] at this; rw [if_neg (by simp)]; exact this
set_option maxHeartbeats 4000000 in
set_option maxRecDepth 100000 in
theorem lives (w : World) : Calls Try.prog 22 #[] w fun e w' => e = .returned (.bool true) ∧ Below w.heap.size w w' := by
  have HN := Lib.hid (ItK.new_ 2 50 (by omega) (by omega) w)
  unfold ItK.NewPost at HN
  have HLit := Lib.hid (fun W D x0 w1 s q j v (hq : q + 4 ≤ 50) (hj : j ≤ 2000) (H : Lq W D x0 2 50 w1 s q j) => lq_lit v (by omega) hq (by omega) (by omega) H)
  have HAnd := Lib.hid (fun W D x0 w1 s q j f g hf hg (hq : q + 8 ≤ 50) (hj : j ≤ 2000) (H : Lq W D x0 2 50 w1 s q j) => lq_and2 f g (by omega) hf hg hq (by omega) (by omega) H)
  have HSome := Lib.hid (fun W D x0 w1 s q j f hf (hq : q + 8 ≤ 50) (hj : j ≤ 2000) (H : Lq W D x0 2 50 w1 s q j) => lq_some (some ⟨w1.heap.size, 0, none⟩) 1 [0] f (by omega) hf (rowJ_of (rowI_new w1 [0] 3)) (by simp) hq (by omega) (by omega) (H.below ((Below.refl _ _).alloc (Nat.le_refl _) (.cells #[.int .i64 0] 3))))
  have HSize := Lib.hid (fun W D x0 w1 s q j f hf (H : Lq W D x0 2 50 w1 s q j) => lq_size f hf H)
  unfold LqPost at HLit HAnd HSome
  go_enter Try.func22, Try.ntmps22
  go_wp2_with fail
  refine HN.out.mono ?_
  rintro e w1 ⟨D, x, rfl, hB, hb, hf⟩
  have HB := Lib.hid (fun w' s q j (h : Lq w1 D x 2 50 w' s q j) => (show Below w.heap.size w w' from by
    obtain ⟨_, _, _, _, _, _, _, _, _, _, h8, _⟩ := h
    exact Frm.below hb h8 hf))
  have H0 : Hid (Lq w1 D x 2 50 w1 ⟨2, 50, false, []⟩ 0 0) := Lib.hid ⟨x, 0, 0, hB, Nat.le_refl _, Nat.le_refl _, Nat.le_refl _, rfl, rfl, rfl, Frm.refl _ _, fun i h => Or.inl h⟩
  clear hB hb hf HN
  go_wp2_with fail
  refine (HLit.out _ _ _ _ _ _ _ 0 (by omega) (by omega) H0.out).mono ?_
  rintro e w2 ⟨a0, s1, rfl, i0, e0, x1, h1⟩
  have H1 := Lib.hid h1
  clear h1 H0
  go_wp2_with fail
  refine (HLit.out _ _ _ _ _ _ _ 1 (by omega) (by omega) H1.out).mono ?_
  rintro e w3 ⟨a1, s2, rfl, i1, e1, x2, h2⟩
  have H2 := Lib.hid h2
  clear h2 H1
  go_wp2_with fail
  refine (HAnd.out _ _ _ _ _ _ _ a0 a1 (x2.is i0) i1 (by omega) (by omega) H2.out).mono ?_
  rintro e w4 ⟨a2, s3, rfl, i2, e2, x3, h3⟩
  have H3 := Lib.hid h3
  clear h3 H2 HAnd
  go_wp2_with fail
  refine (HSome.out _ _ _ _ _ _ _ a2 i2 (by omega) (by omega) H3.out).mono ?_
  rintro e w5 ⟨a3, s4, rfl, i3, e3, x4, h4⟩
  have H4 := Lib.hid h4
  clear h4 H3 HSome
  go_wp2_with fail
  refine (HLit.out _ _ _ _ _ _ _ 1 (by omega) (by omega) H4.out).mono ?_
  rintro e w6 ⟨a4, s5, rfl, i4, e4, x5, h5⟩
  have hv2 : s2.vars = 2 := by rw [x2.vars, x1.vars]
  have hv3 : s3.vars = 2 := by rw [x3.vars, hv2]
  have heq : a3 = a4 := same_num h5.wf (x5.is i3) i4 (fun g => by
    rw [x5.ev i3, e3, e4]
    unfold someF
    rw [el_v, if_pos (by rw [hv3]; omega)]
    unfold cof QuE.J
    show (ev s3.L (put g (Int.toNat 0) false) a2 || ev s3.L (put g (Int.toNat 0) true) a2) = _
    rw [e2, e2]
    unfold allF
    simp only [List.all_cons, List.all_nil, Bool.and_true]
    rw [x2.ev i0, x2.ev i0, e0, e0, e1, e1]
    unfold litF put
    simp)
  subst heq
  have H5 := Lib.hid h5
  clear h5 H4 e2 e3
  go_wp2_with fail
  refine (HLit.out _ _ _ _ _ _ _ 1 (by omega) (by omega) H5.out).mono ?_
  rintro e w7 ⟨a5, s6, rfl, i5, e5, x6, h6⟩
  have hv6 : s6.vars = 2 := by rw [x6.vars, x5.vars, x4.vars, hv3]
  obtain ⟨n1, n2, n3⟩ := ev_of_lit h6.wf i5 (v := 1) (by omega) (fun b => by rw [e5, hv6])
  have H6 := Lib.hid h6
  clear h6 H5 HLit e5
  go_wp2_with fail
  refine (HSize.out _ _ _ _ _ _ _ a5 i5 H6.out).mono ?_
  rintro e w8 ⟨R, rfl, hR, h7⟩
  have h1 := hR.one n1 n2 n3
  have HE := Lib.hid (HB.out _ _ _ _ h7)
  clear hR h7 H6 HSize HB n1 n2 n3
  go_wp2_with fail
  go_ret
  exact ⟨by simp [h1], HE.out⟩
end Go.Proofs.Ytnkkmppmfjekeaa.QuN
