/- Some is not each of not; what a diagram doesn't hang on: the walk of QuantHolds. -/
import Derived.Test.YtnkkmppmfjekeaaQuL
import Derived.Test.YtnkkmppmfjekeaaItV
import Derived.Test.YtnkkmppmfjekeaaQuK
import Derived.Maps.AppendAt
import Derived.Laws.Bits64b
import Derived.Laws.OwnMore
import Derived.Maps.RangeWalk
import Derived.Test.YtnkkmppmfjekeaaItR
namespace Go.Proofs.Ytnkkmppmfjekeaa.QuN
open Go.RowKit Go.Lib Go.Proofs Go.Proofs.Ytnkkmppmfjekeaa.CaA Go.Proofs.Ytnkkmppmfjekeaa.NdA Go.Proofs.Ytnkkmppmfjekeaa.NdB Go.Proofs.Ytnkkmppmfjekeaa.NdC Go.Proofs.Ytnkkmppmfjekeaa.NdE Go.Proofs.Ytnkkmppmfjekeaa.NdG Go.Proofs.Ytnkkmppmfjekeaa.NdI Go.Proofs.Ytnkkmppmfjekeaa.NdL Go.Proofs.Ytnkkmppmfjekeaa.ItA Go.Proofs.Ytnkkmppmfjekeaa.ItB Go.Proofs.Ytnkkmppmfjekeaa.ItD Go.Proofs.Ytnkkmppmfjekeaa.ItF Go.Proofs.Ytnkkmppmfjekeaa.ItH Go.Proofs.Ytnkkmppmfjekeaa.ItI Go.Proofs.Ytnkkmppmfjekeaa.ItK Go.Proofs.Ytnkkmppmfjekeaa.ItL Go.Proofs.Ytnkkmppmfjekeaa.ItM Go.Proofs.Ytnkkmppmfjekeaa.QuA Go.Proofs.Ytnkkmppmfjekeaa.QuB Go.Proofs.Ytnkkmppmfjekeaa.QuC Go.Proofs.Ytnkkmppmfjekeaa.QuD Go.Proofs.Ytnkkmppmfjekeaa.QuH Go.Proofs.Ytnkkmppmfjekeaa.QuI Go.Proofs.Ytnkkmppmfjekeaa.QuJ Go.Proofs.Ytnkkmppmfjekeaa.QuK Go.Proofs.Ytnkkmppmfjekeaa.QuL
set_option linter.unusedVariables false
set_option linter.unusedSimpArgs false
theorem rowJ_of {w : World} {A : Option Addr} {l : List Int} (h : RowI w A l) : RowJ w A l := fun h0 => by
  obtain ⟨b, rfl, hl, hc⟩ := h h0
  exact ⟨b, 0, rfl, hl, fun j hj => by rw [Nat.zero_add]; exact hc j hj⟩
theorem ev_of_lit {s : St} (H : WF s) {f : Int} (hf : isB s f = true) {v : Nat} (hv : v < s.vars) (he : ∀ b, ev s.L b f = litF s.vars v b) : nodeB s f = true ∧ nodeB s (at_ s f).lo = false ∧ nodeB s (at_ s f).hi = false := by
  have hl : ∀ b, litF s.vars v b = b v := fun b => by unfold litF; rw [decide_eq_true hv, Bool.true_and]
  have hn : nodeB s f = true := by
    cases h : nodeB s f with
    | true => rfl
    | false =>
      have e1 := he (fun _ => true)
      have e0 := he (fun _ => false)
      rw [hl, ev_out h] at e1 e0
      rw [e1] at e0
      cases e0
  obtain ⟨i, p, lo, hi, hni, hat, hpK, hp61, hvn, il, ih, vl, vh, hne, inn, -⟩ := node_parts H hn
  have hev : ∀ b, ev s.L b f = if b p then ev s.L b hi else ev s.L b lo := fun b => by
    have h := (ev_in (b := b) H hn).1
    rw [hat] at h
    simp only [Int.toNat_natCast] at h
    exact h
  have dlo := dep_ev H il (v := p + 1) (by omega)
  have dhi := dep_ev H ih (v := p + 1) (by omega)
  have plo : ∀ b c, ev s.L (put b p c) lo = ev s.L b lo := fun b c => dlo _ _ (fun i h1 h2 => by unfold put; rw [if_neg (by omega)])
  have phi : ∀ b c, ev s.L (put b p c) hi = ev s.L b hi := fun b c => dhi _ _ (fun i h1 h2 => by unfold put; rw [if_neg (by omega)])
  have hpp : ∀ (b : Nat → Bool) c, put b p c p = c := fun b c => by unfold put; rw [if_pos rfl]
  have elo : ∀ b, ev s.L b lo = litF s.vars v (put b p false) := fun b => by
    rw [← he, hev, hpp, if_neg (by simp), plo]
  have ehi : ∀ b, ev s.L b hi = litF s.vars v (put b p true) := fun b => by
    rw [← he, hev, hpp, if_pos rfl, phi]
  have hpv : p = v := by
    apply Classical.byContradiction
    intro hpv
    refine hne (same_num H il ih (fun g => ?_))
    rw [elo, ehi, hl, hl]
    unfold put
    rw [if_neg (fun e => hpv e.symm), if_neg (fun e => hpv e.symm)]
  subst hpv
  have l0 : lo = 0 := same_num H il (zero_is s) (fun g => by rw [elo, hl, hpp, ev_zero])
  have h1 : hi = 1 := same_num H ih (one_is s) (fun g => by rw [ehi, hl, hpp, ev_one])
  refine ⟨hn, ?_, ?_⟩
  · rw [hat]
    show nodeB s lo = false
    rw [l0]
    unfold nodeB
    simp
  · rw [hat]
    show nodeB s hi = false
    rw [h1]
    unfold nodeB
    simp
theorem some_ext {s s' : St} {C : Nat} (he : Ext s s' C) {f : Int} (hf : isB s f = true) (l : List Int) : someF s' l f = someF s l f := by
  unfold someF
  rw [el_ext he hf, he.vars]
theorem each_ext {s s' : St} {C : Nat} (he : Ext s s' C) {f : Int} (hf : isB s f = true) (l : List Int) : eachF s' l f = eachF s l f := by
  unfold eachF
  rw [el_ext he hf, he.vars]
theorem some_swap (s : St) (v u : Int) (f : Int) : someF s [v, u] f = someF s [u, v] f := by
  have : anyS s.vars [v, u] = anyS s.vars [u, v] := by funext i; unfold anyS; simp only [List.any_cons, List.any_nil, Bool.or_false]; rw [Bool.or_comm]
  unfold someF
  rw [this]
theorem each_swap (s : St) (v u : Int) (f : Int) : eachF s [v, u] f = eachF s [u, v] f := by
  have : anyS s.vars [v, u] = anyS s.vars [u, v] := by funext i; unfold anyS; simp only [List.any_cons, List.any_nil, Bool.or_false]; rw [Bool.or_comm]
  unfold eachF
  rw [this]
theorem res_ext {s s' : St} {C : Nat} (he : Ext s s' C) {f : Int} (hf : isB s f = true) (v : Int) (so : Bool) : resF s' v so f = resF s v so f := by
  funext b
  unfold resF
  rw [he.vars, he.ev hf, he.ev hf]
theorem put_put (b : Nat → Bool) (v : Nat) (x y : Bool) : put (put b v x) v y = put b v y := by
  funext i
  unfold put
  split <;> rfl
/-- What was made so is so, and stays when it is made not so. -/
theorem res_twice {s s5 : St} {v x f : Int} {a b : Bool} (h5 : s5.vars = s.vars) (hx : ∀ g, ev s5.L g x = resF s v a f g) (g : Nat → Bool) : resF s5 v b x g = ev s5.L g x := by
  unfold resF
  rw [h5]
  split
  · rename_i hv
    rw [hx, hx]
    unfold resF
    rw [if_pos hv, if_pos hv, put_put]
  · rfl
theorem put_lit {s7 : St} {v y f : Int} (hv : 0 ≤ v ∧ v < s7.vars) (hy : ∀ g, ev s7.L g y = litF s7.vars v.toNat g) (g : Nat → Bool) : putF s7 v y f g = ev s7.L g f := by
  unfold putF
  rw [if_pos hv, hy]
  unfold litF
  rw [decide_eq_true (by omega), Bool.true_and]
  have := cof_self (fun g => ev s7.L g f) v.toNat g
  unfold cof at this
  cases h : g v.toNat with
  | true => rw [h] at this; rw [if_pos rfl]; exact this
  | false => rw [h] at this; rw [if_neg (by simp)]; exact this
set_option maxHeartbeats 4000000 in
set_option maxRecDepth 100000 in
theorem lives (w : World) : Calls Try.prog 22 #[] w fun e w' => e = .returned (.bool true) ∧ Below w.heap.size w w' := by
  have HN := Lib.hid (ItK.new_ 2 50 (by omega) (by omega) w)
  unfold ItK.NewPost at HN
  have HLit := Lib.hid (fun W D x0 w1 s q j v (hq : q + 4 ≤ 50) (hj : j ≤ 2000) (H : Lq W D x0 2 50 w1 s q j) => lq_lit v (by omega) hq (by omega) (by omega) H)
  have HAnd := Lib.hid (fun W D x0 w1 s q j f g hf hg (hq : q + 8 ≤ 50) (hj : j ≤ 2000) (H : Lq W D x0 2 50 w1 s q j) => lq_and2 f g (by omega) hf hg hq (by omega) (by omega) H)
  have HSome := Lib.hid (fun W D x0 w1 s q j f hf (hq : q + 8 ≤ 50) (hj : j ≤ 2000) (H : Lq W D x0 2 50 w1 s q j) => lq_some (some ⟨w1.heap.size, 0, none⟩) 1 [0] f (by omega) hf (rowJ_of (rowI_new w1 [0] 3)) (by simp) hq (by omega) (by omega) (H.below ((Below.refl _ _).alloc (Nat.le_refl _) (.cells #[.int .i64 0] 3))))
  have HSize := Lib.hid (fun W D x0 w1 s q j f hf (H : Lq W D x0 2 50 w1 s q j) => lq_size f hf H)
  unfold LqPost at HLit HAnd HSome
  go_enter Try.func22, Try.ntmps22
  go_wp2_with fail
  refine HN.out.mono ?_
  rintro e w1 ⟨D, x, rfl, hB, hb, hf⟩
  have HB := Lib.hid (fun w' s q j (h : Lq w1 D x 2 50 w' s q j) => (show Below w.heap.size w w' from by
    obtain ⟨_, _, _, _, _, _, _, _, _, _, h8, _⟩ := h
    exact Frm.below hb h8 hf))
  have H0 : Hid (Lq w1 D x 2 50 w1 ⟨2, 50, false, []⟩ 0 0) := Lib.hid ⟨x, 0, 0, hB, Nat.le_refl _, Nat.le_refl _, Nat.le_refl _, rfl, rfl, rfl, Frm.refl _ _, fun i h => Or.inl h⟩
  clear hB hb hf HN
  go_wp2_with fail
  refine (HLit.out _ _ _ _ _ _ _ 0 (by omega) (by omega) H0.out).mono ?_
  rintro e w2 ⟨a0, s1, rfl, i0, e0, x1, h1⟩
  have H1 := Lib.hid h1
  clear h1 H0
  go_wp2_with fail
  refine (HLit.out _ _ _ _ _ _ _ 1 (by omega) (by omega) H1.out).mono ?_
  rintro e w3 ⟨a1, s2, rfl, i1, e1, x2, h2⟩
  have H2 := Lib.hid h2
  clear h2 H1
  go_wp2_with fail
  refine (HAnd.out _ _ _ _ _ _ _ a0 a1 (x2.is i0) i1 (by omega) (by omega) H2.out).mono ?_
  rintro e w4 ⟨a2, s3, rfl, i2, e2, x3, h3⟩
  have H3 := Lib.hid h3
  clear h3 H2 HAnd
  go_wp2_with fail
  refine (HSome.out _ _ _ _ _ _ _ a2 i2 (by omega) (by omega) H3.out).mono ?_
  rintro e w5 ⟨a3, s4, rfl, i3, e3, x4, h4⟩
  have H4 := Lib.hid h4
  clear h4 H3 HSome
  go_wp2_with fail
  refine (HLit.out _ _ _ _ _ _ _ 1 (by omega) (by omega) H4.out).mono ?_
  rintro e w6 ⟨a4, s5, rfl, i4, e4, x5, h5⟩
  have hv2 : s2.vars = 2 := by rw [x2.vars, x1.vars]
  have hv3 : s3.vars = 2 := by rw [x3.vars, hv2]
  have heq : a3 = a4 := same_num h5.wf (x5.is i3) i4 (fun g => by
    rw [x5.ev i3, e3, e4]
    unfold someF
    rw [el_v, if_pos (by rw [hv3]; omega)]
    unfold cof QuE.J
    show (ev s3.L (put g (Int.toNat 0) false) a2 || ev s3.L (put g (Int.toNat 0) true) a2) = _
    rw [e2, e2]
    unfold allF
    simp only [List.all_cons, List.all_nil, Bool.and_true]
    rw [x2.ev i0, x2.ev i0, e0, e0, e1, e1]
    unfold litF put
    simp)
  subst heq
  have H5 := Lib.hid h5
  clear h5 H4 e2 e3
  go_wp2_with fail
  refine (HLit.out _ _ _ _ _ _ _ 1 (by omega) (by omega) H5.out).mono ?_
  rintro e w7 ⟨a5, s6, rfl, i5, e5, x6, h6⟩
  have hv6 : s6.vars = 2 := by rw [x6.vars, x5.vars, x4.vars, hv3]
  obtain ⟨n1, n2, n3⟩ := ev_of_lit h6.wf i5 (v := 1) (by omega) (fun b => by rw [e5, hv6])
  have H6 := Lib.hid h6
  clear h6 H5 HLit e5
  go_wp2_with fail
  refine (HSize.out _ _ _ _ _ _ _ a5 i5 H6.out).mono ?_
  rintro e w8 ⟨R, rfl, hR, h7⟩
  have h1 := hR.one n1 n2 n3
  have HE := Lib.hid (HB.out _ _ _ _ h7)
  clear hR h7 H6 HSize HB n1 n2 n3
  go_wp2_with fail
  go_ret
  exact ⟨by simp [h1], HE.out⟩
end Go.Proofs.Ytnkkmppmfjekeaa.QuN
namespace Go.Proofs.Ytnkkmppmfjekeaa.QuO
open Go.RowKit Go.Lib Go.Proofs Go.Proofs.Ytnkkmppmfjekeaa.CaA Go.Proofs.Ytnkkmppmfjekeaa.NdA Go.Proofs.Ytnkkmppmfjekeaa.NdB Go.Proofs.Ytnkkmppmfjekeaa.NdC Go.Proofs.Ytnkkmppmfjekeaa.NdE Go.Proofs.Ytnkkmppmfjekeaa.NdG Go.Proofs.Ytnkkmppmfjekeaa.NdI Go.Proofs.Ytnkkmppmfjekeaa.NdL Go.Proofs.Ytnkkmppmfjekeaa.ItA Go.Proofs.Ytnkkmppmfjekeaa.ItB Go.Proofs.Ytnkkmppmfjekeaa.ItD Go.Proofs.Ytnkkmppmfjekeaa.ItF Go.Proofs.Ytnkkmppmfjekeaa.ItH Go.Proofs.Ytnkkmppmfjekeaa.ItI Go.Proofs.Ytnkkmppmfjekeaa.ItK Go.Proofs.Ytnkkmppmfjekeaa.ItL Go.Proofs.Ytnkkmppmfjekeaa.ItM Go.Proofs.Ytnkkmppmfjekeaa.ItN Go.Proofs.Ytnkkmppmfjekeaa.ItP Go.Proofs.Ytnkkmppmfjekeaa.ItQ Go.Proofs.Ytnkkmppmfjekeaa.ItR Go.Proofs.Ytnkkmppmfjekeaa.ItV Go.Proofs.Ytnkkmppmfjekeaa.QuA Go.Proofs.Ytnkkmppmfjekeaa.QuB Go.Proofs.Ytnkkmppmfjekeaa.QuC Go.Proofs.Ytnkkmppmfjekeaa.QuD Go.Proofs.Ytnkkmppmfjekeaa.QuH Go.Proofs.Ytnkkmppmfjekeaa.QuI Go.Proofs.Ytnkkmppmfjekeaa.QuJ Go.Proofs.Ytnkkmppmfjekeaa.QuK Go.Proofs.Ytnkkmppmfjekeaa.QuL Go.Proofs.Ytnkkmppmfjekeaa.QuN
set_option linter.unusedVariables false
set_option linter.unusedSimpArgs false
theorem ops_off {W w1 : World} {A : Option Addr} {ops : List Op4} {D : Nat} {x0 : Bx} (hA : OpsAt W A ops) (hf : ∀ j, FootD D x0 j → W.heap.size ≤ j) : 0 < ops.length → ∀ a, A = some a → ¬ FootD D x0 a.block := fun h0 a ha hq => by
  obtain ⟨b, o, e, hl, _⟩ := hA h0
  rw [e] at ha
  injection ha with ha
  subst ha
  have := hf _ hq
  have : W.heap.size ≤ b := this
  omega
theorem ops_below {W w1 : World} {A : Option Addr} {ops : List Op4} (hA : OpsAt W A ops) (hb : Below W.heap.size W w1) : OpsAt w1 A ops := fun h0 => by
  obtain ⟨b, o, e, hl, hc⟩ := hA h0
  exact ⟨b, o, e, Nat.lt_of_lt_of_le hl hb.size, fun i hi j u hu => (hb.cell (p := ⟨b, _, none⟩) hl).trans (hc i hi j u hu)⟩
/-- What Play left, as a beginning: the diagrams, and the row of them. -/
structure Beg (W w2 : World) (D : Nat) (x : Bx) (K m bl br : Nat) (ops : List Op4) : Prop where
  lq : Lq w2 D x K 1048576 w2 ⟨K, 1048576, false, (upK K ops m).M⟩ 5760 6000
  row : ∀ i, i < m + 2 → w2.cell? ⟨bl, i, none⟩ = some (.int .i64 ((upK K ops m).l.getD i 0)) ∧ isB ⟨K, 1048576, false, (upK K ops m).M⟩ ((upK K ops m).l.getD i 0) = true
  lt : bl < w2.heap.size
  off : ¬ FootD D x bl
  bel : ∀ w' s q j, Lq w2 D x K 1048576 w' s q j → Below W.heap.size W w'
  rows : ∀ i, i < m + 2 → ∃ g, w2.cell? ⟨br, i, none⟩ = some (.slice (some ⟨g, 0, none⟩) (2 ^ K) (2 ^ K)) ∧ RB w2 g (2 ^ K) ((upK K ops m).R.getD i (fun _ => false)) ∧ ¬ FootD D x g
  ltr : br < w2.heap.size
  offr : ¬ FootD D x br
theorem beg_of {W w1 w2 : World} {D : Nat} {x0 x : Bx} {K m bl cl br cr : Nat} {ops : List Op4} {lv : List Int} {gs : List Nat} (hm : m ≤ ops.length) (hK : K ≤ 6) (h30 : m ≤ 30) (hb : Below W.heap.size W w1) (hf : ∀ j, FootD D x0 j → W.heap.size ≤ j) (hT : ItV.Told K 1048576 D x0 w1 ops m bl cl br cr lv gs x w2) : Beg W w2 D x K m bl br ops := by
  have hU := upK_inv hK (ops := ops) m hm h30
  have hul := upK_len (K := K) (ops := ops) m hm
  obtain ⟨bl', cl', br', cr', e1, e2, l1, l2, o1, o2, h1, h2⟩ := play_rows hT.pl
  injection e1 with e1 _ e1c
  injection e1 with e1
  injection e1 with e1 _ _
  injection e2 with e2 _ e2c
  injection e2 with e2
  injection e2 with e2 _ _
  subst e1 e2
  have hfx : ∀ j, FootD D x j → W.heap.size ≤ j := fun j hj => by
    rcases hT.pl.foot j hj with h | h
    · exact hf j h
    · exact Nat.le_trans hb.size h
  have hB2 : Below W.heap.size W w2 := Frm.below hb hT.pl.frm hf
  refine ⟨⟨x, _, _, hT.pl.bd, by omega, by omega, by have h := (pl_small hm hK h30 hT.pl).1; exact h, rfl, rfl, rfl, Frm.refl _ _, fun i h => Or.inl h⟩, fun i hi => ?_, l1, o1, fun w' s q j h => ?_, fun i hi => ?_, l2, o2⟩
  · obtain ⟨f, g, G, ef, eG, cf, cg, rG, hif, lbl, lbr, hev⟩ := ItV.Told.at hm hK h30 hT i hi
    rw [← ef]
    exact ⟨cf, hif⟩
  · obtain ⟨_, _, _, _, _, _, _, _, _, _, h8, _⟩ := h
    exact Frm.below hB2 h8 hfx
  · have hi2 : i < gs.length := by rw [hT.pl.gl]; exact hi
    obtain ⟨r1, r2, r3⟩ := hT.pl.rows i hi2
    exact ⟨gs[i], h2 i hi, r1, r3⟩
set_option maxHeartbeats 8000000 in
set_option maxRecDepth 100000 in
theorem orders (A : Option Addr) (ca : Nat) (ops : List Op4) (n0 : Nat) (hn0 : n0 < 18446744073709551616) (v u : Int) (W : World) (hops : ∀ o ∈ ops, o.InR) (hA : OpsAt W A ops) (hv1 : -9223372036854775808 ≤ v) (hv2 : v ≤ 9223372036854775807) :
    Calls Try.prog 5 #[.slice A ops.length ca, .int .u64 n0, .agg #[.int .i64 v, .int .i64 u]] W fun e w' => e = .returned (.bool true) ∧ Below W.heap.size W w' := by
  have hbX : Below W.heap.size W (W.alloc (.cells #[.int .i64 v, .int .i64 u] 46)) := (Below.refl _ _).alloc (Nat.le_refl _) _
  have HMany := Lib.hid (fun w => many_ n0 hn0 w)
  obtain ⟨K, hK⟩ : ∃ K, n0 % 7 = K := ⟨_, rfl⟩
  have hK6 : K ≤ 6 := by omega
  rw [hK] at HMany
  have HNew := Lib.hid (fun w => ItK.new_ K 1048576 (by omega) (by omega) w)
  unfold ItK.NewPost at HNew
  have HPlay := Lib.hid (fun D x0 w1 (hb : Below W.heap.size W w1) (hf : ∀ j, FootD D x0 j → W.heap.size ≤ j) (H : Bd w1 D x0 0 ⟨K, 1048576, false, []⟩ 0) => ItT.play_ K 1048576 D hK6 x0 A ca ops w1 hops (ops_below hA hb) (ops_off (w1 := w1) hA hf) H)
  unfold PlayPost at HPlay
  have HLv := Lib.hid (fun w => QuN.lives w)
  have HK6 := Lib.hid hK6
  obtain ⟨m, hm⟩ : ∃ m, min 30 ops.length = m := ⟨_, rfl⟩
  have hm1 : m ≤ ops.length := by omega
  have hm2 : m ≤ 30 := by omega
  have HMm := Lib.hid (And.intro hm1 hm2)
  rw [hm] at HPlay
  have hcb := fun o => Lib.cell_of_heap (heap_alloc_new W (.cells #[.int .i64 v, .int .i64 u] 46)) o
  have HB0 := Lib.hid hbX
  clear hops hA hK hK6 hn0 hm hm1 hbX
  go_enter Try.func5, Try.ntmps5
  go_upto_region 1 with fail
  obtain ⟨bt, hbt⟩ : ∃ bt, W.heap.size = bt := ⟨_, rfl⟩
  have hbtl : bt < (W.alloc (.cells #[.int .i64 v, .int .i64 u] 46)).heap.size := by rw [← hbt]; simp
  simp only [hbt] at hcb ⊢
  generalize W.alloc (.cells #[.int .i64 v, .int .i64 u] 46) = w0 at *
  have HCb := Lib.hid (fun w' (hb : Below w0.heap.size w0 w') o => (hb.cell (p := ⟨bt, o, none⟩) hbtl).trans (hcb o))
  clear hcb hbtl
  go_wp2_with fail
  refine (HMany.out _).mono ?_
  rintro e w' ⟨rfl, rfl⟩
  clear HMany
  go_wp2_with fail
  refine (HNew.out _).mono ?_
  rintro e w1 ⟨D, x0, rfl, hB, hb, hf⟩
  have hb1 : Below W.heap.size W w1 := HB0.out.trans (hb.mono HB0.out.size)
  have hf1 : ∀ j, FootD D x0 j → W.heap.size ≤ j := fun j hj => Nat.le_trans HB0.out.size (hf j hj)
  have HP1 := Lib.hid (HPlay.out D x0 w1.drew hb1.drew hf1 (hB.below (Below.refl _ _).drew))
  have HB1 := Lib.hid (And.intro hb1.drew hf1)
  have cb := HCb.out w1.drew hb.drew
  have cb1 := HCb.out w1 hb
  clear hB hb hf HPlay HNew hb1 hf1 HCb
  go_wp2_with fail
  go_region
  clear cb cb1
  all_goals
    go_wp2_with fail
    refine HP1.out.mono ?_
    rintro e w2 ⟨vl, vr, lv, gs, x, s, rfl, hPl⟩
    obtain ⟨bl, cl, br, cr, rfl, rfl, hT⟩ := ItV.told_of HMm.out.1 HK6.out HMm.out.2 (by omega) hPl
    have HT := Lib.hid (beg_of HMm.out.1 HK6.out HMm.out.2 HB1.out.1 HB1.out.2 hT)
    have HS0 : Hid (∀ k, k ≤ m + 2 → ∀ s' C, Ext ⟨K, 1048576, false, (upK K ops m).M⟩ s' C → isB s' ((upK K ops m).l.getD k 0) = true ∨ m + 2 ≤ k) := Lib.hid (fun k hk s' C h => by
      by_cases hlt : k < m + 2
      · exact Or.inl (h.is (HT.out.row k hlt).2)
      · exact Or.inr (by omega))
    clear hT hPl HP1 HB1
    obtain ⟨s0, hs0⟩ : ∃ s0, (⟨K, 1048576, false, (upK K ops m).M⟩ : St) = s0 := ⟨_, rfl⟩
    rw [hs0] at HS0
    have HLq : Hid (Lq w2 D x K 1048576 w2 s0 5760 6000) := Lib.hid (by rw [← hs0]; exact HT.out.lq)
    have hv0 : s0.vars = K := by rw [← hs0]
    have HV0 := Lib.hid hv0
    have hsp0 : s0.spent = false := by rw [← hs0]
    have HE0 := Lib.hid (Ext.refl hsp0 0)
    clear hs0 hsp0 hv0
    go_wp2_with fail
    go_loopw [37] (fun i wr => ∃ (k : Nat) (s : St) (C : Nat), k ≤ m + 2 ∧ i = .int .i64 k ∧ Hid (Lq w2 D x K 1048576 wr s (5760 + 3200 * k) (6000 + 4500 * k)) ∧ Hid (Ext s0 s C)) (fun i _ => m + 2 - (intOf i).toNat)
    case atStart => exact ⟨0, s0, 0, by omega, rfl, HLq, HE0⟩
    case round =>
      obtain ⟨k, s, C, hk, rfl, hLq, hX⟩ := hrel
      clear HLq HE0
      by_cases hlt : k < m + 2
      · have e1 : decide (k < m + 2) = true := decide_eq_true hlt
        have e1' : decide ((k : Int) < (m : Int) + 2) = true := by simp; omega
        have q0 : (0 : Int) ≤ k := by omega
        have q1 : (k : Int) < (m : Int) + 2 := by omega
        have hw1 : IntKind.i64.wrap ((k : Int) + 1) = (k : Int) + 1 := by rw [IntKind.wrap_i64]; omega
        have cf : wr.cell? ⟨bl, k, none⟩ = some (.int .i64 ((upK K ops m).l.getD k 0)) := (World.cell?_of_block (w := w2) (hLq.out.old HT.out.lt HT.out.off)).trans (HT.out.row k hlt).1
        have hif : isB s ((upK K ops m).l.getD k 0) = true := by
          rcases HS0.out k hk s C hX.out with h | h
          · exact h
          · omega
        generalize (upK K ops m).l.getD k 0 = f at *
        have hvs : s.vars = K := by rw [hX.out.vars, HV0.out]
        have hK := HK6.out
        obtain ⟨c1, c2⟩ := kc hK
        have h1048 : (1048576 : Nat) = 1048576 := rfl
        have H1 := Lib.hid (lq_some (some ⟨wr.heap.size, 0, none⟩) 2 [v, u] f hK hif (rowJ_of (rowI_new wr [v, u] 3)) (by simp) (by omega) (by omega) (by omega) (hLq.out.below ((Below.refl _ _).alloc (Nat.le_refl _) (.cells #[.int .i64 v, .int .i64 u] 3))))
        unfold LqPost at H1
        have HXs := Lib.hid hX.out
        clear hLq hX
        go_wp2_with fail
        refine H1.out.mono ?_
        rintro e w3 ⟨a1, s1, rfl, i1, e1s, x1, h1⟩
        have H2 := Lib.hid (lq_some (some ⟨w3.heap.size, 0, none⟩) 2 [u, v] f hK (x1.is hif) (rowJ_of (rowI_new w3 [u, v] 3)) (by simp) (by omega) (by omega) (by omega) (h1.below ((Below.refl _ _).alloc (Nat.le_refl _) (.cells #[.int .i64 u, .int .i64 v] 3))))
        unfold LqPost at H2
        clear H1 cf h1
        go_wp2_with fail
        refine H2.out.mono ?_
        rintro e w4 ⟨a2, s2, rfl, i2, e2s, x2, h2⟩
        have hq1 : a1 = a2 := same_num h2.wf (x2.is i1) i2 (fun g => by rw [x2.ev i1, e1s, e2s, some_ext x1 hif, some_swap])
        subst hq1
        have x12 := x1.trans x2
        have H3 := Lib.hid (lq_each (some ⟨w4.heap.size, 0, none⟩) 2 [v, u] f hK (x12.is hif) (rowJ_of (rowI_new w4 [v, u] 3)) (by simp) (by omega) (by omega) (by omega) (h2.below ((Below.refl _ _).alloc (Nat.le_refl _) (.cells #[.int .i64 v, .int .i64 u] 3))))
        unfold LqPost at H3
        clear H2 h2 e1s e2s
        go_wp2_with fail
        refine H3.out.mono ?_
        rintro e w5 ⟨a3, s3, rfl, i3, e3s, x3, h3⟩
        have x13 := x12.trans x3
        have H4 := Lib.hid (lq_each (some ⟨w5.heap.size, 0, none⟩) 2 [u, v] f hK (x13.is hif) (rowJ_of (rowI_new w5 [u, v] 3)) (by simp) (by omega) (by omega) (by omega) (h3.below ((Below.refl _ _).alloc (Nat.le_refl _) (.cells #[.int .i64 u, .int .i64 v] 3))))
        unfold LqPost at H4
        clear H3 h3
        go_wp2_with fail
        refine H4.out.mono ?_
        rintro e w6 ⟨a4, s4, rfl, i4, e4s, x4, h4⟩
        have hq2 : a3 = a4 := same_num h4.wf (x4.is i3) i4 (fun g => by rw [x4.ev i3, e3s, e4s, each_ext x3 (x12.is hif), each_swap])
        subst hq2
        have x14 := x13.trans x4
        have H5 := Lib.hid (lq_restrict f v true hK (x14.is hif) (by omega) (by omega) (by omega) h4)
        unfold LqPost at H5
        clear H4 h4 e3s e4s
        go_wp2_with fail
        refine H5.out.mono ?_
        rintro e w7 ⟨a5, s5, rfl, i5, e5s, x5, h5⟩
        have x15 := x14.trans x5
        have H6 := Lib.hid (lq_restrict a5 v false hK i5 (by omega) (by omega) (by omega) h5)
        unfold LqPost at H6
        clear H5 h5
        go_wp2_with fail
        refine H6.out.mono ?_
        rintro e w8 ⟨a6, s6, rfl, i6, e6s, x6, h6⟩
        have hq3 : a6 = a5 := same_num h6.wf i6 (x6.is i5) (fun g => by rw [e6s, x6.ev i5, res_twice x5.vars e5s])
        subst hq3
        have x16 := x15.trans x6
        clear H6 e5s e6s
        by_cases hp : 0 ≤ v
        · have g1 : decide (v ≥ 0) = true := by simp; omega
          have g1' : decide ((0 : Int) ≤ v) = true := by simp; omega
          by_cases hq : v < K
          · have g2 : decide (v < (K : Int)) = true := decide_eq_true hq
            obtain ⟨vn, hvn⟩ : ∃ vn : Nat, v = vn := ⟨v.toNat, by omega⟩
            have H7 := Lib.hid (lq_lit vn hK (by omega) (by omega) (by omega) h6)
            rw [← hvn] at H7
            have HVn := Lib.hid hvn
            clear hvn
            unfold LqPost at H7
            clear h6
            go_wp2_with fail
            refine H7.out.mono ?_
            rintro e w9 ⟨a7, s7, rfl, i7, e7s, x7, h7⟩
            have x17 := x16.trans x7
            have hv7 : s7.vars = K := by rw [x17.vars, hvs]
            have H8 := Lib.hid (lq_put f v a7 hK (x17.is hif) i7 (by omega) (by omega) (by omega) h7)
            unfold LqPost at H8
            clear H7 h7
            go_wp2_with fail
            refine H8.out.mono ?_
            rintro e w10 ⟨a8, s8, rfl, i8, e8s, x8, h8⟩
            have hq4 : a8 = f := same_num h8.wf i8 (x8.is (x17.is hif)) (fun g => by
              rw [e8s, x8.ev (x17.is hif)]
              exact put_lit (by rw [hv7]; exact ⟨hp, hq⟩) (fun g => by rw [e7s, hv7, HVn.out, Int.toNat_natCast]) g)
            subst hq4
            have HE := Lib.hid (And.intro (h8.more (show _ ≤ 5760 + 3200 * (k + 1) by omega) (show _ ≤ 6000 + 4500 * (k + 1) by omega)) (HXs.out.trans (x17.trans x8)))
            clear h8 H8 e7s e8s
            go_wp2_with fail
            go_roundw
            case rel => exact ⟨k + 1, _, _, by omega, by go_num, Lib.hid HE.out.1, Lib.hid HE.out.2⟩
            case measure => simp [intOf]; omega
          · have g2 : decide (v < (K : Int)) = false := decide_eq_false hq
            have HE := Lib.hid (And.intro (h6.more (show _ ≤ 5760 + 3200 * (k + 1) by omega) (show _ ≤ 6000 + 4500 * (k + 1) by omega)) (HXs.out.trans x16))
            clear h6
            go_wp2_with fail
            go_roundw
            case rel => exact ⟨k + 1, _, _, by omega, by go_num, Lib.hid HE.out.1, Lib.hid HE.out.2⟩
            case measure => simp [intOf]; omega
        · have g1 : decide (v ≥ 0) = false := by simp; omega
          have g1' : decide ((0 : Int) ≤ v) = false := by simp; omega
          have HE := Lib.hid (And.intro (h6.more (show _ ≤ 5760 + 3200 * (k + 1) by omega) (show _ ≤ 6000 + 4500 * (k + 1) by omega)) (HXs.out.trans x16))
          clear h6
          go_wp2_with fail
          go_roundw
          case rel => exact ⟨k + 1, _, _, by omega, by go_num, Lib.hid HE.out.1, Lib.hid HE.out.2⟩
          case measure => simp [intOf]; omega
      · have e1 : decide (k < m + 2) = false := decide_eq_false hlt
        have e1' : decide ((k : Int) < (m : Int) + 2) = false := by simp; omega
        have HBw := Lib.hid (HT.out.bel _ _ _ _ hLq.out)
        clear hLq hX hlt
        go_wp2_with fail
        refine (HLv.out _).mono ?_
        rintro e w' ⟨rfl, hbl⟩
        have HE := Lib.hid (HBw.out.trans (hbl.mono HBw.out.size))
        clear hbl
        go_wp2_with fail
        go_ret
        exact ⟨rfl, by first | exact HE.out | (rw [← hbt]; exact HE.out)⟩
end Go.Proofs.Ytnkkmppmfjekeaa.QuO
namespace Go.Proofs.Ytnkkmppmfjekeaa.QuS
open Go.RowKit Go.Lib Go.Proofs Go.Proofs.Ytnkkmppmfjekeaa.CaA Go.Proofs.Ytnkkmppmfjekeaa.NdA Go.Proofs.Ytnkkmppmfjekeaa.NdB Go.Proofs.Ytnkkmppmfjekeaa.NdC Go.Proofs.Ytnkkmppmfjekeaa.NdE Go.Proofs.Ytnkkmppmfjekeaa.NdG Go.Proofs.Ytnkkmppmfjekeaa.NdI Go.Proofs.Ytnkkmppmfjekeaa.NdL Go.Proofs.Ytnkkmppmfjekeaa.ItA Go.Proofs.Ytnkkmppmfjekeaa.ItB Go.Proofs.Ytnkkmppmfjekeaa.ItD Go.Proofs.Ytnkkmppmfjekeaa.ItF Go.Proofs.Ytnkkmppmfjekeaa.ItH Go.Proofs.Ytnkkmppmfjekeaa.ItI Go.Proofs.Ytnkkmppmfjekeaa.ItK Go.Proofs.Ytnkkmppmfjekeaa.ItL Go.Proofs.Ytnkkmppmfjekeaa.ItM Go.Proofs.Ytnkkmppmfjekeaa.QuA Go.Proofs.Ytnkkmppmfjekeaa.QuB Go.Proofs.Ytnkkmppmfjekeaa.QuC Go.Proofs.Ytnkkmppmfjekeaa.QuD Go.Proofs.Ytnkkmppmfjekeaa.QuH Go.Proofs.Ytnkkmppmfjekeaa.QuI Go.Proofs.Ytnkkmppmfjekeaa.QuJ Go.Proofs.Ytnkkmppmfjekeaa.QuK
open Go.Maps Go.Proofs.Ytnkkmppmfjekeaa.QuM
set_option linter.unusedVariables false
set_option linter.unusedSimpArgs false
theorem wf_in {n : Int} (h : (Lit.int .i64 n).wf = true) : -9223372036854775808 ≤ n ∧ n ≤ 9223372036854775807 := by
  simp only [Lit.wf, Bool.and_eq_true, decide_eq_true_eq] at h
  have e1 : IntKind.i64.min = -9223372036854775808 := by decide
  have e2 : IntKind.i64.max = 9223372036854775807 := by decide
  rw [e1, e2] at h
  omega
def hasV (s : St) (R : List Int) (i : Nat) : Bool := R.any fun n => decide ((at_ s n).v = (i : Int))
def supN (s : St) (R : List Int) (k : Nat) : List Int := ((List.range k).filter (hasV s R)).map fun v : Nat => (v : Int)
theorem supN_succ (s : St) (R : List Int) (k : Nat) : supN s R (k + 1) = if hasV s R k = true then supN s R k ++ [(k : Int)] else supN s R k := by
  unfold supN
  rw [List.range_succ, List.filter_append, List.filter_cons, List.filter_nil, List.map_append]
  split
  · rfl
  · rw [List.map_nil, List.append_nil]
theorem supN_len (s : St) (R : List Int) (k : Nat) : (supN s R k).length ≤ k := by
  unfold supN
  rw [List.length_map]
  exact Nat.le_trans (List.length_filter_le _ _) (by rw [List.length_range]; exact Nat.le_refl _)
theorem mem_sup {s : St} {R : List Int} {k : Nat} {v : Int} : v ∈ supN s R k ↔ ∃ i : Nat, v = i ∧ i < k ∧ hasV s R i = true := by
  unfold supN
  simp only [List.mem_map, List.mem_filter, List.mem_range]
  constructor
  · rintro ⟨i, ⟨h1, h2⟩, rfl⟩
    exact ⟨i, rfl, h1, h2⟩
  · rintro ⟨i, rfl, h1, h2⟩
    exact ⟨i, ⟨h1, h2⟩, rfl⟩
/-- No more variables than nodes. -/
theorem sup_le (s : St) (k : Nat) : ∀ R : List Int, (supN s R k).length ≤ R.length := fun R => by
  have h : ∀ (k : Nat), ((List.range k).filter (hasV s R)).length ≤ (((List.range k).filter (hasV s R)).map fun v : Nat => (v : Int)).length := fun k => by rw [List.length_map]; exact Nat.le_refl _
  have hnd : (supN s R k).Nodup := by
    unfold supN
    unfold List.Nodup
    rw [List.pairwise_map]
    exact ((List.nodup_range).filter _).imp (fun h e => h (by omega))
  have hsub : ∀ v ∈ supN s R k, v ∈ R.map fun n => (at_ s n).v := fun v hv => by
    obtain ⟨i, rfl, _, h2⟩ := mem_sup.1 hv
    unfold hasV at h2
    rw [List.any_eq_true] at h2
    obtain ⟨n, hn, h3⟩ := h2
    rw [decide_eq_true_eq] at h3
    exact List.mem_map.2 ⟨n, hn, h3⟩
  have key : ∀ (a b : List Int), a.Nodup → (∀ v ∈ a, v ∈ b) → a.length ≤ b.length := fun a => by
    induction a with
    | nil => intro b _ _; exact Nat.zero_le _
    | cons x a ih =>
      intro b hd hs
      have hx := hs x (by simp)
      have h1 := ih (b.erase x) (List.nodup_cons.1 hd).2 (fun v hv => by
        have hne : v ≠ x := fun e => (List.nodup_cons.1 hd).1 (e ▸ hv)
        exact (List.mem_erase_of_ne hne).2 (hs v (by simp [hv])))
      rw [List.length_erase_of_mem hx] at h1
      have := List.length_pos_of_mem hx
      simp only [List.length_cons]
      omega
  have := key _ _ hnd hsub
  rw [List.length_map] at this
  exact this
def SupPost (s : St) (f : Int) (w : World) (e : Ending) (w' : World) : Prop := ∃ R A ca, e = .returned (.slice A (supN s R s.vars).length ca) ∧ All s R f ∧ RowJ w' A (supN s R s.vars) ∧ Below w.heap.size w w'
theorem low_grown {W w w1 : World} {r : Nat} (hb : Below W.heap.size W w) (hg : w.grownBy w1 (some r)) (hr : W.heap.size ≤ r) : Below W.heap.size W w1 := hb.grown hg hb.size (fun k hk => by injection hk with hk; omega)
theorem rowJ_own {w : World} {B : Nat} {A : Option Addr} {ca : Nat} {l : List Int} (h : w.ownsRow B 3 1 (.slice A l.length ca) l.length (l.map (Value.int .i64))) : RowJ w A l := fun h0 => by
  have hh := h
  rcases h.2 with ⟨h1, _⟩ | ⟨g, cap, cur, h1, hb, hg, _⟩
  · injection h1 with _ h2 _
    omega
  · injection h1 with h1 _ h3
    subst h1 h3
    refine ⟨g, 0, rfl, (Array.getElem?_eq_some_iff.1 hg).1, fun j hj => ?_⟩
    have k := hh.cells (g := g) rfl j (.int .i64 l[j]) (by rw [List.getElem?_map, List.getElem?_eq_getElem hj]; rfl)
    have e : ((⟨g, 0, none⟩ : Addr).add j) = ⟨g, 0 + j, none⟩ := by rw [Nat.zero_add]; unfold Addr.add; split <;> simp_all
    rw [e] at k
    exact k
theorem new1 (w : World) (u : Value) (t : TypeId) : ∀ (j : Nat) (v : Value), [u][j]? = some v → (w.alloc (.cells #[u] t)).cell? ((⟨w.heap.size, 0, none⟩ : Addr).add j) = some v := fun j v hv => by
  have e : ((⟨w.heap.size, 0, none⟩ : Addr).add j) = ⟨w.heap.size, j, none⟩ := by unfold Addr.add; split <;> simp_all
  rw [e, Lib.cell_of_heap (heap_alloc_new w _)]
  simpa using hv
/-- What has been gathered of the map. -/
def Gath (s : St) (R : List Int) (left : Lit → Bool) (g : Nat) : Prop := g < 2 ^ 61 ∧ ∀ i, g.testBit i = R.any fun n => !(left (.int .i64 n)) && decide ((at_ s n).v = (i : Int))
theorem gath_next {s : St} {R : List Int} {left : Lit → Bool} {g : Nat} {x : Int} {p : Nat} (h : Gath s R left g) (hx : x ∈ R) (hp : (at_ s x).v = p) (h61 : p < 61) : Gath s R (fun z => left z && !z.sameKey (.int .i64 x)) (g ||| 2 ^ p) := by
  refine ⟨Nat.or_lt_two_pow h.1 (Nat.pow_lt_pow_right (by omega) h61), fun i => ?_⟩
  rw [Nat.testBit_or, Nat.testBit_two_pow, h.2, Bool.eq_iff_iff]
  simp only [Bool.or_eq_true, List.any_eq_true, Bool.and_eq_true, decide_eq_true_eq, Bool.not_eq_true', Bool.and_eq_false_iff, Bool.not_eq_false']
  have hk : ∀ n : Int, (Lit.int .i64 n).sameKey (.int .i64 x) = true ↔ n = x := fun n => by simp [Lit.sameKey]
  constructor
  · rintro (⟨n, hn, h1, h2⟩ | rfl)
    · exact ⟨n, hn, Or.inl h1, h2⟩
    · exact ⟨x, hx, Or.inr ((hk x).2 rfl), hp⟩
  · rintro ⟨n, hn, h1 | h1, h2⟩
    · exact Or.inl ⟨n, hn, h1, h2⟩
    · rw [hk] at h1
      subst h1
      right
      omega
set_option maxHeartbeats 4000000 in
set_option maxRecDepth 100000 in
theorem support_ {D : Nat} {x : Bx} {c : Nat} {s : St} {N : Nat} {w : World} (f : Int) (hr : Rng f) (H : Bd w D x c s N) : Calls Try.prog 20 #[.pointer (some ⟨D, 0, none⟩), .int .i64 f] w (SupPost s f w) := by
  have hwf := H.tk.tb.wf
  have h61 := hwf.v61
  have HLn := Lib.hid H.tk.tb.len
  have HR := Lib.hid (reached_ f hr H)
  have HV := Lib.hid (fun w' (hb : Below w.heap.size w w') => vars_ (H.below hb))
  unfold ReachPost at HR
  unfold SupPost
  have HWf := Lib.hid hwf
  clear H hr hwf
  go_enter Try.func20, Try.ntmps20
  go_wp2_with fail
  refine HR.out.mono ?_
  rintro e w1 ⟨m, R, rfl, ⟨Dm, h1, h2, h3⟩, h4, h5⟩
  have HA := Lib.hid h4
  have HB1 := Lib.hid h5
  have HNd := Lib.hid (fun n (hn : n ∈ R) => (show ∃ p : Nat, (at_ s n).v = p ∧ p < 61 from by
    obtain ⟨_, p, _, _, _, hat, _, hp, _⟩ := node_parts HWf.out (h4.nodes n hn)
    exact ⟨p, by rw [hat], hp⟩))
  have HD3 := Lib.hid h3
  have hst : Hid (Gath s R (Maps.has Dm) 0) := Lib.hid ⟨Nat.two_pow_pos 61, fun i => by
    rw [Nat.zero_testBit, eq_comm, List.any_eq_false]
    intro n hn
    have hrg : Rng n := by
      obtain ⟨a, b⟩ := nodeB_iff.1 (h4.nodes n hn)
      unfold Rng
      have := HLn.out
      omega
    rw [(h3 n hrg).1, decide_eq_true hn]
    simp⟩
  clear h4 h5 h3 HR h2
  go_wp2_with (at_range; refine wpList_range_own _ rfl _ 82 rfl 3 3 lawI Try.underlying82 _ m R.length _ rfl h1 ?_; intro w2 hrg0 hg0 hs0)
  go_frame
  have HK61 := Lib.hid h61
  go_loopw [5] (fun g wr => ∃ (left : Lit → Bool) (cnt gn : Nat), g = .int .u64 gn ∧ wr.ranges Try.prog 3 PE m w1.heap.size R.length Dm left cnt ∧ Hid (Gath s R left gn) ∧ Hid (Below w.heap.size w wr)) (fun _ wr => wr.rangeLeft m w1.heap.size)
  case atStart => exact ⟨_, _, 0, rfl, hrg0, hst, Lib.hid (HB1.out.trans ((show Below w1.heap.size w1 w2 from ⟨hg0.os, hg0.tape, hg0.output, hg0.size, fun k hk => hg0.block k hk (by simp)⟩).mono HB1.out.size))⟩
  case round =>
    obtain ⟨left, cnt, gn, rfl, hrg, hG, hB⟩ := hrel
    have HRl := Lib.hid hrg
    clear hst hrg0 hg0 hs0 h1
    go_wp2_with (at_next; refine wpList_next_ranges_ii _ rfl _ rfl 3 3 .i64 .i64 lawI Try.underlying3 Try.underlying3 m w1.heap.size R.length _ _ _ rfl hrg ?_ ?_)
    · intro _ hl0
      have HGf : Hid (gn < 2 ^ 61 ∧ ∀ i, gn.testBit i = hasV s R i) := Lib.hid ⟨hG.out.1, fun i => by
        rw [hG.out.2]
        unfold hasV
        congr 1
        funext n
        rw [hl0]
        simp⟩
      clear hG hrg hl0 HRl
      go_wp2_with fail
      refine (HV.out _ hB.out).mono ?_
      rintro e w5 ⟨rfl, rfl⟩
      have HS0 : Hid (wr.ownsRow w.heap.size 3 1 (.slice none 0 0) 0 []) := Lib.hid (World.ownsRow_nil wr w.heap.size 3 1)
      have h61' := HK61.out
      clear h61 HV HNd HD3 HLn
      go_wp2_with fail
      go_loopw [8, 24] (fun l i wy => ∃ (k : Nat) (A : Option Addr) (ca : Nat), k ≤ s.vars ∧ i = .int .i64 k ∧ l = .slice A (supN s R k).length ca ∧ Hid (wy.ownsRow w.heap.size 3 1 (.slice A (supN s R k).length ca) (supN s R k).length ((supN s R k).map (Value.int .i64))) ∧ Hid (Below w.heap.size w wy)) (fun _ i _ => s.vars - (intOf i).toNat)
      case atStart => exact ⟨0, none, 0, by omega, rfl, rfl, by simpa [supN] using HS0, hB⟩
      case round =>
        obtain ⟨k, A, ca, hk, rfl, rfl, hown, hBy⟩ := hrel
        clear HS0 hB
        by_cases hlt : k < s.vars
        · have e1 : decide (k < s.vars) = true := decide_eq_true hlt
          have e1' : decide ((k : Int) < s.vars) = true := by simp; omega
          have hw1 : IntKind.i64.wrap ((k : Int) + 1) = (k : Int) + 1 := by rw [IntKind.wrap_i64]; omega
          have hk64 : k ≤ 64 := by omega
          have hk0 : (0 : Int) ≤ k := by omega
          have hk64' : (k : Int) ≤ 64 := by omega
          have hsh : (gn : Int) / 2 ^ k = ((gn / 2 ^ k : Nat) : Int) := by simp
          have hand := bit_and gn k (by have := HGf.out.1; omega)
          have hsn := supN_succ s R k
          have hsl := supN_len s R k
          rw [HGf.out.2] at hand
          generalize gn / 2 ^ k = qn at *
          cases hh : hasV s R k with
          | true =>
            rw [hh] at hand hsn
            simp only [if_true] at hand hsn
            obtain ⟨i0, hi, hz0, hz1, hz2⟩ := info_parts ItR.infoInt
            have hol := hown.out
            have hsz := hBy.out.size
            go_wp2_with (at_builtin; refine wpList_append_own_at _ rfl _ _ 24 rfl w.heap.size 3 i0 (.int .i64 0) 1 8 Try.underlying24 hi hz0 hz1 hz2 rfl (by decide) _ _ _ rfl (hol.alloc _) ⟨wr.heap.size, 0, none⟩ 1 1 [.int .i64 k] rfl rfl ?c1 ?c2 ?c3 ?c4 ?c5 ?_)
            case c1 => exact new1 _ _ _
            case c2 => intro u hu; simp at hu; subst hu; rfl
            case c3 => unfold maxLen; omega
            case c4 => omega
            case c5 => simp; omega
            intro vl' w4 hown4 hg4 _ he4
            have hown5 : w4.ownsRow w.heap.size 3 1 vl' (supN s R (k + 1)).length ((supN s R (k + 1)).map (Value.int .i64)) := by
              rw [hsn, List.length_append, List.map_append]
              exact hown4
            have hb4 : Below w.heap.size w w4 := (hBy.out.alloc hsz (.cells #[.int .i64 k] 3)).grown hg4 (by simp; omega) (fun j hj => by have := (hol.lt j hj).1; omega)
            obtain ⟨A5, c5, rfl⟩ : ∃ A c, vl' = .slice A (supN s R (k + 1)).length c := by
              rcases hown5.2 with ⟨rfl, h0⟩ | ⟨g, cap, cur, rfl, _⟩
              · exact ⟨none, 0, by rw [h0]⟩
              · exact ⟨_, cap, rfl⟩
            have HE := Lib.hid (And.intro hown5 hb4)
            clear hown4 hg4 he4 hown5 hb4 hol hown hBy hsz hsn hand hsh
            go_wp2_with fail
            go_roundw
            case rel => exact ⟨k + 1, A5, c5, by omega, by go_num, rfl, Lib.hid HE.out.1, Lib.hid HE.out.2⟩
            case measure => simp [intOf]; omega
          | false =>
            rw [hh] at hand hsn
            simp only [Bool.false_eq_true, if_false] at hand hsn
            have HE := Lib.hid (And.intro hown.out hBy.out)
            rw [← hsn] at HE
            clear hown hBy
            rw [← hsn]
            clear hsn
            go_wp2_with fail
            go_roundw
            case rel => exact ⟨k + 1, A, ca, by omega, by go_num, rfl, Lib.hid HE.out.1, Lib.hid HE.out.2⟩
            case measure => simp [intOf]; omega
        · have e1 : decide (k < s.vars) = false := decide_eq_false hlt
          have e1' : decide ((k : Int) < s.vars) = false := by simp; omega
          have hks : k = s.vars := by omega
          subst hks
          have HE := Lib.hid (And.intro (rowJ_own hown.out) hBy.out)
          clear hown hBy hlt
          go_wp2_with fail
          go_ret
          exact ⟨R, A, ca, rfl, HA.out, HE.out.1, HE.out.2⟩
    · intro xk c w3 cnt1 hwx hwc hlx hat hrg1 hlt hg1 hs1 hen
      have hxr := wf_in hwx
      have hxR : xk ∈ R := by
        have h := (HD3.out xk hxr).1
        rw [has_true_of_atKey hat] at h
        exact of_decide_eq_true h.symm
      obtain ⟨p, hp, hp61⟩ := HNd.out xk hxR
      have hcp : c = (p : Int) := by
        have h1 := (HD3.out xk hxr).2 hxR (.lit (.int .i64 0))
        rw [hat, hp] at h1
        injection h1 with h1
        injection h1 with _ h1
      subst hcp
      have HGn := Lib.hid (gath_next hG.out hxR hp hp61)
      have hB3 : Hid (Below w.heap.size w w3) := Lib.hid (low_grown hB.out hg1 HB1.out.size)
      have hn : 2 ^ p ≤ 2 ^ 61 := Nat.pow_le_pow_right (by omega) (by omega)
      have hp64 : (p : Int) ≤ 64 := by omega
      have hp0 : (0 : Int) ≤ p := by omega
      have hpw : (2 : Int) ^ p = ((2 ^ p : Nat) : Int) := by simp
      have hwr : IntKind.u64.wrap ((2 : Int) ^ p) = ((2 ^ p : Nat) : Int) := by
        rw [hpw]
        exact (show ∀ P : Nat, P ≤ 2 ^ 61 → IntKind.u64.wrap (P : Int) = (P : Int) from fun P h => by rw [IntKind.wrap_u64]; omega) _ hn
      have hor : bits .or .u64 (gn : Int) (IntKind.u64.wrap ((2 : Int) ^ p)) = ((gn ||| 2 ^ p : Nat) : Int) := by
        rw [hwr]
        exact bits_or_u64_nat gn (2 ^ p) (by have := hG.out.1; omega) (by omega)
      have HRG := Lib.hid hrg1
      have HLt : Hid (w3.rangeLeft m w1.heap.size < wr.rangeLeft m w1.heap.size) := Lib.hid (by rw [hrg1.left_eq, HRl.out.left_eq]; exact hlt)
      clear hpw hwr hn hrg1 hrg hG hB hg1 hs1 hat hlx hwx hwc hlt HRl hxR hp hxr
      go_wp2_with fail
      go_roundw
      case rel => exact ⟨_, cnt1, gn ||| 2 ^ p, by first | rfl | rw [hor], HRG.out, HGn, hB3⟩
      case measure => exact HLt.out
end Go.Proofs.Ytnkkmppmfjekeaa.QuS
namespace Go.Proofs.Ytnkkmppmfjekeaa.QuT
open Go.RowKit Go.Lib Go.Proofs Go.Proofs.Ytnkkmppmfjekeaa.CaA Go.Proofs.Ytnkkmppmfjekeaa.NdA Go.Proofs.Ytnkkmppmfjekeaa.NdB Go.Proofs.Ytnkkmppmfjekeaa.NdC Go.Proofs.Ytnkkmppmfjekeaa.NdE Go.Proofs.Ytnkkmppmfjekeaa.NdG Go.Proofs.Ytnkkmppmfjekeaa.NdI Go.Proofs.Ytnkkmppmfjekeaa.NdL Go.Proofs.Ytnkkmppmfjekeaa.ItA Go.Proofs.Ytnkkmppmfjekeaa.ItB Go.Proofs.Ytnkkmppmfjekeaa.ItD Go.Proofs.Ytnkkmppmfjekeaa.ItF Go.Proofs.Ytnkkmppmfjekeaa.ItH Go.Proofs.Ytnkkmppmfjekeaa.ItI Go.Proofs.Ytnkkmppmfjekeaa.ItK Go.Proofs.Ytnkkmppmfjekeaa.ItL Go.Proofs.Ytnkkmppmfjekeaa.ItM Go.Proofs.Ytnkkmppmfjekeaa.QuA Go.Proofs.Ytnkkmppmfjekeaa.QuB Go.Proofs.Ytnkkmppmfjekeaa.QuC Go.Proofs.Ytnkkmppmfjekeaa.QuD Go.Proofs.Ytnkkmppmfjekeaa.QuH Go.Proofs.Ytnkkmppmfjekeaa.QuI Go.Proofs.Ytnkkmppmfjekeaa.QuJ Go.Proofs.Ytnkkmppmfjekeaa.QuK Go.Proofs.Ytnkkmppmfjekeaa.QuL Go.Proofs.Ytnkkmppmfjekeaa.QuM Go.Proofs.Ytnkkmppmfjekeaa.QuN Go.Proofs.Ytnkkmppmfjekeaa.QuS
set_option linter.unusedVariables false
set_option linter.unusedSimpArgs false
theorem All.mem {s : St} {R : List Int} {f : Int} (h : All s R f) {x : Int} : x ∈ R ↔ Rch s f x := by
  constructor
  · intro hx
    exact h.went.from_ x hx (by simp)
  · intro hx
    have key : ∀ {a x : Int}, Rch s a x → (nodeB s a = true → a ∈ R) → x ∈ R := fun {a x} hr => by
      induction hr with
      | here hn => intro k; exact k hn
      | lo hn _ ih =>
        intro k
        exact ih (fun hl => (h.went.closed _ (k hn) (by simp)).1 hl)
      | hi hn _ ih =>
        intro k
        exact ih (fun hl => (h.went.closed _ (k hn) (by simp)).2 hl)
    exact key hx (fun hn => h.went.mem hn)
theorem Rch.node {s : St} {f x : Int} (h : Rch s f x) : nodeB s f = true := by cases h <;> assumption
theorem node_ext {s s' : St} {C : Nat} (he : Ext s s' C) {f : Int} (hf : isB s f = true) : nodeB s' f = nodeB s f ∧ (nodeB s f = true → at_ s' f = at_ s f) := by
  obtain ⟨X, hX⟩ := he.pre
  obtain ⟨h0, h1⟩ := isB_iff.1 hf
  refine ⟨?_, fun hn => ?_⟩
  · unfold nodeB
    rw [hX, List.length_append, Bool.eq_iff_iff]
    simp only [Bool.and_eq_true, decide_eq_true_eq]
    omega
  · obtain ⟨a, b⟩ := nodeB_iff.1 hn
    unfold at_
    rw [hX, List.getD_eq_getElem?_getD, List.getD_eq_getElem?_getD, List.getElem?_append_left (by omega)]
theorem rch_ext {s s' : St} {C : Nat} (H : WF s) (he : Ext s s' C) {f x : Int} (hf : isB s f = true) : Rch s' f x ↔ Rch s f x := by
  have par : ∀ f, nodeB s f = true → isB s (at_ s f).lo = true ∧ isB s (at_ s f).hi = true := fun f hn => by
    obtain ⟨i, p, lo, hi, _, hat, _, _, _, il, ih, _⟩ := node_parts H hn
    rw [hat]
    exact ⟨il, ih⟩
  constructor
  · intro h
    induction h with
    | here hn => rw [(node_ext he hf).1] at hn; exact .here hn
    | lo hn _ ih =>
      have h2 := node_ext he hf
      rw [h2.1] at hn
      rw [h2.2 hn] at ih
      exact .lo hn (ih (par _ hn).1)
    | hi hn _ ih =>
      have h2 := node_ext he hf
      rw [h2.1] at hn
      rw [h2.2 hn] at ih
      exact .hi hn (ih (par _ hn).2)
  · intro h
    induction h with
    | here hn => exact .here (by rw [(node_ext he hf).1]; exact hn)
    | lo hn _ ih =>
      have h2 := node_ext he hf
      exact .lo (by rw [h2.1]; exact hn) (by rw [h2.2 hn]; exact ih (par _ hn).1)
    | hi hn _ ih =>
      have h2 := node_ext he hf
      exact .hi (by rw [h2.1]; exact hn) (by rw [h2.2 hn]; exact ih (par _ hn).2)
theorem len_same {a b : List Int} (ha : a.Nodup) (hb : b.Nodup) (h : ∀ x, x ∈ a → x ∈ b) : a.length ≤ b.length := by
  induction a generalizing b with
  | nil => exact Nat.zero_le _
  | cons x a ih =>
    have hx := h x (by simp)
    have h1 := ih (List.nodup_cons.1 ha).2 (b := b.erase x) (hb.erase x) (fun v hv => (List.mem_erase_of_ne (fun (e : v = x) => (List.nodup_cons.1 ha).1 (by rw [← e]; exact hv))).2 (h v (by simp [hv])))
    rw [List.length_erase_of_mem hx] at h1
    have := List.length_pos_of_mem hx
    simp only [List.length_cons]
    omega
theorem All.len {s s' : St} {C : Nat} (H : WF s) (he : Ext s s' C) {f : Int} (hf : isB s f = true) {R R' : List Int} (h : All s R f) (h' : All s' R' f) : R'.length ≤ R.length := len_same h'.nd h.nd (fun x hx => by
  rw [All.mem h', rch_ext H he hf] at hx
  exact (All.mem h).2 hx)
/-- What no node asks doesn't tell. -/
theorem indep_of {s : St} (H : WF s) {R : List Int} {f : Int} (h : All s R f) {v : Nat} (hv : hasV s R v = false) (b : Nat → Bool) (c : Bool) : ev s.L (put b v c) f = ev s.L b f := by
  have hno : ∀ n ∈ R, (at_ s n).v ≠ v := fun n hn e => by
    unfold hasV at hv
    rw [List.any_eq_false] at hv
    exact hv n hn (by rw [e]; simp)
  have key : ∀ {a x : Int}, nodeB s a = true → a ∈ R → ev s.L (put b v c) a = ev s.L b a := fun {a x} => by
    have : ∀ (k : Nat) (a : Int), a < k → nodeB s a = true → a ∈ R → ev s.L (put b v c) a = ev s.L b a := fun k => by
      induction k with
      | zero => intro a ha hn _; have := (nodeB_iff.1 hn).1; omega
      | succ k ih =>
        intro a ha hn hR
        obtain ⟨i, p, lo, hi, hai, hat, hpK, _, hvn, il, ih', vl, vh, hne, _, _⟩ := node_parts H hn
        have hil : i < s.L.length := by have := (nodeB_iff.1 hn).2; omega
        have hok := H.ok i hil
        have ea : at_ s a = s.L[i] := by rw [hai]; exact at_idx hil
        rw [hat] at ea
        have o1 : lo < (i : Int) + 2 := by have := hok.2.2.2.1; rw [← ea] at this; exact this
        have o2 : hi < (i : Int) + 2 := by have := hok.2.2.2.2.2.1; rw [← ea] at this; exact this
        have hpv : p ≠ v := fun e => hno a hR (by rw [hat, e])
        have e1 := (ev_in (b := put b v c) H hn).1
        have e2 := (ev_in (b := b) H hn).1
        rw [hat] at e1 e2
        simp only [Int.toNat_natCast] at e1 e2
        rw [e1, e2]
        have hp : put b v c p = b p := by unfold put; rw [if_neg hpv]
        rw [hp]
        have sub : ∀ y, y < (i : Int) + 2 → (nodeB s y = true → y ∈ R) → ev s.L (put b v c) y = ev s.L b y := fun y hy hyR => by
          cases hyn : nodeB s y with
          | false => rw [ev_out hyn, ev_out hyn]
          | true => exact ih y (by omega) hyn (hyR hyn)
        have hcl := h.went.closed a hR (by simp)
        rw [hat] at hcl
        simp only at hcl
        rw [sub lo o1 hcl.1, sub hi o2 hcl.2]
    exact fun hn hR => this (a.toNat + 1) a (by omega) hn hR
  cases hf : nodeB s f with
  | false => rw [ev_out hf, ev_out hf]
  | true => exact key (x := f) hf (h.went.mem hf)
theorem All.none {s : St} {R : List Int} {f : Int} (h : All s R f) (hf : nodeB s f = false) : R = [] := by
  cases hR : R with
  | nil => rfl
  | cons a l =>
    have := (All.mem h (x := a)).1 (by rw [hR]; simp)
    rw [Rch.node this] at hf
    cases hf
theorem lq_support {W : World} {D : Nat} {x0 : Bx} {K b : Nat} {w : World} {s : St} {q j : Nat} (f : Int) (hr : Rng f) (H : Lq W D x0 K b w s q j) : Calls Try.prog 20 #[.pointer (some ⟨D, 0, none⟩), .int .i64 f] w fun e w' => ∃ R A ca, e = .returned (.slice A (supN s R K).length ca) ∧ All s R f ∧ RowJ w' A (supN s R K) ∧ Below w.heap.size w w' := by
  have H2 := H
  obtain ⟨x, c, N, h1, h2, h3, h4, h5, h6, _⟩ := H2
  subst h6
  exact support_ f hr h1
theorem lq_size2 {W : World} {D : Nat} {x0 : Bx} {K b : Nat} {w : World} {s : St} {q j : Nat} (f : Int) (hr : Rng f) (H : Lq W D x0 K b w s q j) : Calls Try.prog 24 #[.pointer (some ⟨D, 0, none⟩), .int .i64 f] w fun e w' => ∃ R : List Int, e = .returned (.int .i64 R.length) ∧ All s R f ∧ Below w.heap.size w w' := by
  obtain ⟨x, c, N, h1, _⟩ := H
  exact size_ f hr h1
theorem lq_len {W : World} {D : Nat} {x0 : Bx} {K b : Nat} {w : World} {s : St} {q j : Nat} (H : Lq W D x0 K b w s q j) : Calls Try.prog 25 #[.pointer (some ⟨D, 0, none⟩)] w fun e w' => e = .returned (.int .i64 s.L.length) ∧ w = w' := by
  obtain ⟨x, c, N, h1, _⟩ := H
  exact len_ h1
theorem lq_is {W : World} {D : Nat} {x0 : Bx} {K b : Nat} {w : World} {s : St} {q j : Nat} (f : Int) (hr : Rng f) (H : Lq W D x0 K b w s q j) : Calls Try.prog 26 #[.pointer (some ⟨D, 0, none⟩), .int .i64 f] w fun e w' => e = .returned (.bool (isB s f)) ∧ w = w' := by
  obtain ⟨x, c, N, h1, _⟩ := H
  exact is_ f hr.1 hr.2 h1
set_option maxRecDepth 100000 in
theorem without_no {D : Nat} {x : Bx} {c : Nat} {s : St} {N : Nat} {w : World} (f : Int) (hr : Rng f) (A : Option Addr) (n ca : Nat) (fnn : Go.Fn) (first cap : Array Value) (hno : isB s f = false) (H : Bd w D x c s N) : Calls Try.prog 50 #[.pointer (some ⟨D, 0, none⟩), .int .i64 f, .slice A n ca, .func fnn first cap] w fun e w' => e = .returned (.int .i64 0) ∧ Below w.heap.size w w' := by
  have hb2 : Below w.heap.size w ((w.alloc (.cells #[.pointer (some ⟨D, 0, none⟩)] 28)).alloc (.cells #[.func fnn first cap] 77)) := ((Below.refl _ _).alloc (Nat.le_refl _) _).alloc (by simp) _
  have HI := Lib.hid (is_ f hr.1 hr.2 (H.below hb2))
  rw [hno] at HI
  have h0 : ∀ o, ((w.alloc (.cells #[.pointer (some ⟨D, 0, none⟩)] 28)).alloc (.cells #[.func fnn first cap] 77)).cell? ⟨w.heap.size, o, none⟩ = (#[.pointer (some ⟨D, 0, none⟩)] : Array Value)[o]? := fun o => Lib.cell_of_heap (heap_alloc2_old w _ _) o
  have HB := Lib.hid hb2
  clear H hno hr hb2
  go_enter Try.func50, Try.ntmps50
  go_wp2_with fail
  refine HI.out.mono ?_
  rintro e w' ⟨rfl, rfl⟩
  clear HI h0
  go_wp2_with fail
  go_ret
  exact ⟨rfl, HB.out⟩
set_option maxRecDepth 100000 in
theorem some_no {D : Nat} {x : Bx} {c : Nat} {s : St} {N : Nat} {w : World} (f : Int) (hr : Rng f) (A : Option Addr) (n ca : Nat) (hno : isB s f = false) (H : Bd w D x c s N) : Calls Try.prog 16 #[.pointer (some ⟨D, 0, none⟩), .int .i64 f, .slice A n ca] w fun e w' => e = .returned (.int .i64 0) ∧ Below w.heap.size w w' := by
  have hmf : ∀ (fn : Go.Fn) (first cap : Array Value) (w : World), (Instr.makeFunc fn first cap).run Try.prog w = .ok (.func fn first cap) w := fun _ _ _ _ => rfl
  have HW := Lib.hid (without_no f hr A n ca (.func 45) #[.pointer (some ⟨D, 0, none⟩)] #[] hno H)
  clear H hno hr
  go_enter Try.func16, Try.ntmps16
  go_wp2_with fail
  refine HW.out.mono ?_
  rintro e w' ⟨rfl, hb⟩
  have HB := Lib.hid hb
  clear hb HW
  go_wp2_with fail
  go_ret
  exact ⟨rfl, HB.out⟩
set_option maxRecDepth 100000 in
theorem each_no {D : Nat} {x : Bx} {c : Nat} {s : St} {N : Nat} {w : World} (f : Int) (hr : Rng f) (A : Option Addr) (n ca : Nat) (hno : isB s f = false) (H : Bd w D x c s N) : Calls Try.prog 18 #[.pointer (some ⟨D, 0, none⟩), .int .i64 f, .slice A n ca] w fun e w' => e = .returned (.int .i64 0) ∧ Below w.heap.size w w' := by
  have hmf : ∀ (fn : Go.Fn) (first cap : Array Value) (w : World), (Instr.makeFunc fn first cap).run Try.prog w = .ok (.func fn first cap) w := fun _ _ _ _ => rfl
  have HW := Lib.hid (without_no f hr A n ca (.func 44) #[.pointer (some ⟨D, 0, none⟩)] #[] hno H)
  clear H hno hr
  go_enter Try.func18, Try.ntmps18
  go_wp2_with fail
  refine HW.out.mono ?_
  rintro e w' ⟨rfl, hb⟩
  have HB := Lib.hid hb
  clear hb HW
  go_wp2_with fail
  go_ret
  exact ⟨rfl, HB.out⟩
set_option maxRecDepth 100000 in
theorem restrict_no {D : Nat} {x : Bx} {c : Nat} {s : St} {N : Nat} {w : World} (f v : Int) (so : Bool) (hr : Rng f) (hno : isB s f = false) (H : Bd w D x c s N) : Calls Try.prog 13 #[.pointer (some ⟨D, 0, none⟩), .int .i64 f, .int .i64 v, .bool so] w fun e w' => e = .returned (.int .i64 0) ∧ Below w.heap.size w w' := by
  have hmf : ∀ (fn : Go.Fn) (first cap : Array Value) (w : World), (Instr.makeFunc fn first cap).run Try.prog w = .ok (.func fn first cap) w := fun _ _ _ _ => rfl
  have hb : Below w.heap.size w ((w.alloc (.cells #[.bool so] 4)).alloc (.cells #[.int .i64 v] 3)) := ((Below.refl _ _).alloc (Nat.le_refl _) _).alloc (by simp) _
  have HW := Lib.hid (without_no f hr (some ⟨w.heap.size + 1, 0, none⟩) 1 1 (.func 51) #[] #[.pointer (some ⟨w.heap.size, 0, none⟩)] hno (H.below hb))
  have HB := Lib.hid hb
  clear H hno hr hb
  go_enter Try.func13, Try.ntmps13
  go_wp2_with fail
  refine HW.out.mono ?_
  rintro e w' ⟨rfl, hb⟩
  have HB2 := Lib.hid (HB.out.trans (hb.mono HB.out.size))
  clear hb HW
  go_wp2_with fail
  go_ret
  exact ⟨rfl, HB2.out⟩
set_option maxRecDepth 100000 in
theorem put_no {D : Nat} {x : Bx} {c : Nat} {s : St} {N : Nat} {w : World} (f v g : Int) (hr : Rng f) (hg : Rng g) (hno : isB s f = false ∨ isB s g = false) (H : Bd w D x c s N) : Calls Try.prog 14 #[.pointer (some ⟨D, 0, none⟩), .int .i64 f, .int .i64 v, .int .i64 g] w fun e w' => e = .returned (.int .i64 0) ∧ Below w.heap.size w w' := by
  have HI := Lib.hid (is_ f hr.1 hr.2 H)
  have HG := Lib.hid (is_ g hg.1 hg.2 H)
  cases h : isB s f with
  | false =>
    rw [h] at HI
    clear H hno hr hg
    go_enter Try.func14, Try.ntmps14
    go_wp2_with fail
    refine HI.out.mono ?_
    rintro e w' ⟨rfl, rfl⟩
    go_wp2_with fail
    go_ret
    exact ⟨rfl, Below.refl _ _⟩
  | true =>
    have h2 : isB s g = false := by
      rcases hno with h' | h'
      · rw [h] at h'; cases h'
      · exact h'
    rw [h] at HI
    rw [h2] at HG
    clear H hno hr hg
    go_enter Try.func14, Try.ntmps14
    go_wp2_with fail
    refine HI.out.mono ?_
    rintro e w' ⟨rfl, rfl⟩
    go_wp2_with fail
    refine HG.out.mono ?_
    rintro e w' ⟨rfl, rfl⟩
    go_wp2_with fail
    go_ret
    exact ⟨rfl, Below.refl _ _⟩
end Go.Proofs.Ytnkkmppmfjekeaa.QuT
namespace Go.Proofs.Ytnkkmppmfjekeaa.QuU
open Go.RowKit Go.Lib Go.Proofs Go.Proofs.Ytnkkmppmfjekeaa.CaA Go.Proofs.Ytnkkmppmfjekeaa.NdA Go.Proofs.Ytnkkmppmfjekeaa.NdB Go.Proofs.Ytnkkmppmfjekeaa.NdC Go.Proofs.Ytnkkmppmfjekeaa.NdE Go.Proofs.Ytnkkmppmfjekeaa.NdG Go.Proofs.Ytnkkmppmfjekeaa.NdI Go.Proofs.Ytnkkmppmfjekeaa.NdL Go.Proofs.Ytnkkmppmfjekeaa.ItA Go.Proofs.Ytnkkmppmfjekeaa.ItB Go.Proofs.Ytnkkmppmfjekeaa.ItD Go.Proofs.Ytnkkmppmfjekeaa.ItF Go.Proofs.Ytnkkmppmfjekeaa.ItH Go.Proofs.Ytnkkmppmfjekeaa.ItI Go.Proofs.Ytnkkmppmfjekeaa.ItK Go.Proofs.Ytnkkmppmfjekeaa.ItL Go.Proofs.Ytnkkmppmfjekeaa.ItM Go.Proofs.Ytnkkmppmfjekeaa.ItN Go.Proofs.Ytnkkmppmfjekeaa.ItP Go.Proofs.Ytnkkmppmfjekeaa.ItQ Go.Proofs.Ytnkkmppmfjekeaa.ItR Go.Proofs.Ytnkkmppmfjekeaa.ItV Go.Proofs.Ytnkkmppmfjekeaa.QuA Go.Proofs.Ytnkkmppmfjekeaa.QuB Go.Proofs.Ytnkkmppmfjekeaa.QuC Go.Proofs.Ytnkkmppmfjekeaa.QuD Go.Proofs.Ytnkkmppmfjekeaa.QuH Go.Proofs.Ytnkkmppmfjekeaa.QuI Go.Proofs.Ytnkkmppmfjekeaa.QuJ Go.Proofs.Ytnkkmppmfjekeaa.QuK Go.Proofs.Ytnkkmppmfjekeaa.QuL Go.Proofs.Ytnkkmppmfjekeaa.QuN Go.Proofs.Ytnkkmppmfjekeaa.QuM Go.Proofs.Ytnkkmppmfjekeaa.QuS Go.Proofs.Ytnkkmppmfjekeaa.QuT Go.Proofs.Ytnkkmppmfjekeaa.QuO
set_option linter.unusedVariables false
set_option linter.unusedSimpArgs false
theorem el_v2 {K : Nat} {v : Int} {J : Jn} (F : ItA.Fn) (b : Nat → Bool) : EL (anyS K [v]) J K F b = if 0 ≤ v ∧ v < K then J (F (put b v.toNat false)) (F (put b v.toNat true)) else F b := el_v F b
/-- Some is not each of not. -/
theorem some_not {s s2 : St} {C : Nat} (he : Ext s s2 C) {f a2 v : Int} (hf : isB s f = true) (h2 : ∀ g, ev s2.L g a2 = iteF s.L f 0 1 g) (b : Nat → Bool) : (if eachF s2 [v] a2 b = true then false else true) = someF s [v] f b := by
  unfold eachF someF
  rw [el_v2, el_v2, he.vars]
  unfold QuE.J QuF.J
  have hn : ∀ g, ev s2.L g a2 = !(ev s.L g f) := fun g => by
    rw [h2]
    unfold iteF
    rw [ev_zero, ev_one]
    cases ev s.L g f <;> rfl
  split
  · simp only [hn]
    generalize ev s.L (put b v.toNat false) f = y
    generalize ev s.L (put b v.toNat true) f = z
    cases y <;> cases z <;> rfl
  · simp only [hn]
    generalize ev s.L b f = y
    cases y <;> rfl
theorem some_some {s s5 : St} {v x f : Int} (h5 : s5.vars = s.vars) (hx : ∀ g, ev s5.L g x = someF s [v] f g) (g : Nat → Bool) : someF s5 [v] x g = ev s5.L g x := by
  unfold someF
  rw [el_v2, h5]
  split
  · rename_i hv
    unfold QuE.J
    simp only [hx]
    unfold someF
    rw [el_v2, el_v2, el_v2, if_pos hv, if_pos hv, if_pos hv]
    unfold QuE.J
    simp only [put_put]
    generalize ev s.L (put g v.toNat false) f = y
    generalize ev s.L (put g v.toNat true) f = z
    cases y <;> cases z <;> rfl
  · rfl
theorem res_some {s s5 : St} {v x f : Int} (h5 : s5.vars = s.vars) (hx : ∀ g, ev s5.L g x = someF s [v] f g) (g : Nat → Bool) : resF s5 v true x g = ev s5.L g x := by
  unfold resF
  rw [h5]
  split
  · rename_i hv
    rw [hx, hx]
    unfold someF
    rw [el_v2, el_v2, if_pos hv, if_pos hv]
    unfold QuE.J
    simp only [put_put]
  · rfl
/-- Nothing changes by what a diagram doesn't hang on. -/
theorem off_some {s : St} {f v : Int} (h : 0 ≤ v ∧ v < s.vars → ∀ b c, ev s.L (put b v.toNat c) f = ev s.L b f) (b : Nat → Bool) : someF s [v] f b = ev s.L b f ∧ eachF s [v] f b = ev s.L b f ∧ ∀ so, resF s v so f b = ev s.L b f := by
  unfold someF eachF resF
  rw [el_v2, el_v2]
  unfold QuE.J QuF.J
  by_cases hv : 0 ≤ v ∧ v < s.vars
  · simp only [if_pos hv, h hv]
    exact ⟨Bool.or_self _, Bool.and_self _, fun _ => trivial⟩
  · simp only [if_neg hv]
    exact ⟨trivial, trivial, fun _ => trivial⟩
theorem off_of {s : St} (H : WF s) {R : List Int} {f v : Int} (h : All s R f) (hv : v ∉ supN s R s.vars) : 0 ≤ v ∧ v < s.vars → ∀ b c, ev s.L (put b v.toNat c) f = ev s.L b f := fun hr b c => by
  refine indep_of H h ?_ b c
  cases hh : hasV s R v.toNat with
  | false => rfl
  | true => exact absurd (mem_sup.2 ⟨v.toNat, by omega, by omega, hh⟩) hv
set_option maxHeartbeats 16000000 in
set_option maxRecDepth 100000 in
theorem holds (A : Option Addr) (ca : Nat) (ops : List Op4) (n0 : Nat) (hn0 : n0 < 18446744073709551616) (v u : Int) (W : World) (hops : ∀ o ∈ ops, o.InR) (hA : OpsAt W A ops) (hv1 : -9223372036854775808 ≤ v) (hv2 : v ≤ 9223372036854775807) (hu1 : -9223372036854775808 ≤ u) (hu2 : u ≤ 9223372036854775807) :
    Calls Try.prog 4 #[.slice A ops.length ca, .int .u64 n0, .agg #[.int .i64 v, .int .i64 u]] W fun e w' => e = .returned (.bool true) ∧ Below W.heap.size W w' := by
  have hbX : Below W.heap.size W (W.alloc (.cells #[.int .i64 v, .int .i64 u] 46)) := (Below.refl _ _).alloc (Nat.le_refl _) _
  have HMany := Lib.hid (fun w => many_ n0 hn0 w)
  obtain ⟨K, hK⟩ : ∃ K, n0 % 7 = K := ⟨_, rfl⟩
  have hK6 : K ≤ 6 := by omega
  rw [hK] at HMany
  have HNew := Lib.hid (fun w => ItK.new_ K 1048576 (by omega) (by omega) w)
  unfold ItK.NewPost at HNew
  have HPlay := Lib.hid (fun D x0 w1 (hb : Below W.heap.size W w1) (hf : ∀ j, FootD D x0 j → W.heap.size ≤ j) (H : Bd w1 D x0 0 ⟨K, 1048576, false, []⟩ 0) => ItT.play_ K 1048576 D hK6 x0 A ca ops w1 hops (ops_below hA hb) (ops_off (w1 := w1) hA hf) H)
  unfold PlayPost at HPlay
  have HLv := Lib.hid (fun w => QuN.lives w)
  have HK6 := Lib.hid hK6
  obtain ⟨m, hm⟩ : ∃ m, min 30 ops.length = m := ⟨_, rfl⟩
  have hm1 : m ≤ ops.length := by omega
  have hm2 : m ≤ 30 := by omega
  have HMm := Lib.hid (And.intro hm1 hm2)
  rw [hm] at HPlay
  have hcb := fun o => Lib.cell_of_heap (heap_alloc_new W (.cells #[.int .i64 v, .int .i64 u] 46)) o
  have HB0 := Lib.hid hbX
  have HRu : Hid (Rng u) := Lib.hid ⟨hu1, hu2⟩
  clear hops hA hK hK6 hn0 hm hm1 hbX
  go_enter Try.func4, Try.ntmps4
  go_upto_region 1 with fail
  obtain ⟨bt, hbt⟩ : ∃ bt, W.heap.size = bt := ⟨_, rfl⟩
  have hbtl : bt < (W.alloc (.cells #[.int .i64 v, .int .i64 u] 46)).heap.size := by rw [← hbt]; simp
  simp only [hbt] at hcb ⊢
  generalize W.alloc (.cells #[.int .i64 v, .int .i64 u] 46) = w0 at *
  have HCb := Lib.hid (fun w' (hb : Below w0.heap.size w0 w') o => (hb.cell (p := ⟨bt, o, none⟩) hbtl).trans (hcb o))
  have cb := HCb.out w0.drew (Below.refl _ _).drew
  go_region
  clear hcb hbtl HCb cb
  all_goals
    go_wp2_with fail
    refine (HMany.out _).mono ?_
    rintro e w' ⟨rfl, rfl⟩
    clear HMany
    go_wp2_with fail
    refine (HNew.out _).mono ?_
    rintro e w1 ⟨D, x0, rfl, hB, hb, hf⟩
    have hb1 : Below W.heap.size W w1 := HB0.out.trans (((Below.refl w0.heap.size w0).drew.trans (hb.mono (Nat.le_refl _))).mono HB0.out.size)
    have hf1 : ∀ j, FootD D x0 j → W.heap.size ≤ j := fun j hj => Nat.le_trans HB0.out.size (hf j hj)
    have HP1 := Lib.hid (HPlay.out D x0 w1 hb1 hf1 hB)
    have HB1 := Lib.hid (And.intro hb1 hf1)
    clear hB hb hf HPlay HNew hb1 hf1
    go_wp2_with fail
    refine HP1.out.mono ?_
    rintro e w2 ⟨vl, vr, lv, gs, x, s, rfl, hPl⟩
    obtain ⟨bl, cl, br, cr, rfl, rfl, hT⟩ := ItV.told_of HMm.out.1 HK6.out HMm.out.2 (by omega) hPl
    have HT := Lib.hid (beg_of HMm.out.1 HK6.out HMm.out.2 HB1.out.1 HB1.out.2 hT)
    have HS0 : Hid (∀ k, k ≤ m + 2 → ∀ s' C, Ext ⟨K, 1048576, false, (upK K ops m).M⟩ s' C → isB s' ((upK K ops m).l.getD k 0) = true ∨ m + 2 ≤ k) := Lib.hid (fun k hk s' C h => by
      by_cases hlt : k < m + 2
      · exact Or.inl (h.is (HT.out.row k hlt).2)
      · exact Or.inr (by omega))
    clear hT hPl HP1 HB1
    obtain ⟨s0, hs0⟩ : ∃ s0, (⟨K, 1048576, false, (upK K ops m).M⟩ : St) = s0 := ⟨_, rfl⟩
    rw [hs0] at HS0
    have HLq : Hid (Lq w2 D x K 1048576 w2 s0 5760 6000) := Lib.hid (by rw [← hs0]; exact HT.out.lq)
    have hv0 : s0.vars = K := by rw [← hs0]
    have HV0 := Lib.hid hv0
    have hsp0 : s0.spent = false := by rw [← hs0]
    have HE0 := Lib.hid (Ext.refl hsp0 0)
    clear hs0 hsp0 hv0
    go_wp2_with fail
    go_loopw [41] (fun i wr => ∃ (k : Nat) (s : St) (C : Nat), k ≤ m + 2 ∧ i = .int .i64 k ∧ Hid (Lq w2 D x K 1048576 wr s (5760 + 3200 * k) (6000 + 4500 * k)) ∧ Hid (Ext s0 s C)) (fun i _ => m + 2 - (intOf i).toNat)
    case atStart => exact ⟨0, s0, 0, by omega, rfl, HLq, HE0⟩
    case round =>
      obtain ⟨k, s, C, hk, rfl, hLq, hX⟩ := hrel
      clear HLq HE0
      by_cases hlt : k < m + 2
      · have e1 : decide (k < m + 2) = true := decide_eq_true hlt
        have e1' : decide ((k : Int) < (m : Int) + 2) = true := by simp; omega
        have q0 : (0 : Int) ≤ k := by omega
        have q1 : (k : Int) < (m : Int) + 2 := by omega
        have hw1 : IntKind.i64.wrap ((k : Int) + 1) = (k : Int) + 1 := by rw [IntKind.wrap_i64]; omega
        have cf : wr.cell? ⟨bl, k, none⟩ = some (.int .i64 ((upK K ops m).l.getD k 0)) := (World.cell?_of_block (w := w2) (hLq.out.old HT.out.lt HT.out.off)).trans (HT.out.row k hlt).1
        have hif : isB s ((upK K ops m).l.getD k 0) = true := by
          rcases HS0.out k hk s C hX.out with h | h
          · exact h
          · omega
        generalize (upK K ops m).l.getD k 0 = f at *
        have hvs : s.vars = K := by rw [hX.out.vars, HV0.out]
        have hK := HK6.out
        obtain ⟨c1, c2⟩ := kc hK
        have H1 := Lib.hid (lq_some (some ⟨wr.heap.size, 0, none⟩) 1 [v] f hK hif (rowJ_of (rowI_new wr [v] 3)) (by simp) (by omega) (by omega) (by omega) (hLq.out.below ((Below.refl _ _).alloc (Nat.le_refl _) (.cells #[.int .i64 v] 3))))
        unfold LqPost at H1
        have HXs := Lib.hid hX.out
        have HWf := Lib.hid hLq.out.wf
        clear hLq hX
        go_wp2_with fail
        refine H1.out.mono ?_
        rintro e w3 ⟨a1, s1, rfl, i1, e1s, x1, h1⟩
        have H2 := Lib.hid (lq_not f hK (x1.is hif) (by omega) (by omega) (by omega) h1)
        unfold LqPost at H2
        clear H1 cf h1
        go_wp2_with fail
        refine H2.out.mono ?_
        rintro e w4 ⟨a2, s2, rfl, i2, e2s, x2, h2⟩
        have x12 := x1.trans x2
        have H3 := Lib.hid (lq_each (some ⟨w4.heap.size, 0, none⟩) 1 [v] a2 hK i2 (rowJ_of (rowI_new w4 [v] 3)) (by simp) (by omega) (by omega) (by omega) (h2.below ((Below.refl _ _).alloc (Nat.le_refl _) (.cells #[.int .i64 v] 3))))
        unfold LqPost at H3
        clear H2 h2
        go_wp2_with fail
        refine H3.out.mono ?_
        rintro e w5 ⟨a3, s3, rfl, i3, e3s, x3, h3⟩
        have x13 := x12.trans x3
        have H4 := Lib.hid (lq_not a3 hK i3 (by omega) (by omega) (by omega) h3)
        unfold LqPost at H4
        clear H3 h3
        go_wp2_with fail
        refine H4.out.mono ?_
        rintro e w6 ⟨a4, s4, rfl, i4, e4s, x4, h4⟩
        have hq1 : a1 = a4 := same_num h4.wf (((x2.trans x3).trans x4).is i1) i4 (fun g => by
          rw [((x2.trans x3).trans x4).ev i1, e1s, e4s]
          unfold iteF
          rw [ev_zero, ev_one, e3s, some_not (s := s1) x2 (x1.is hif) e2s, some_ext x1 hif])
        subst hq1
        have x14 := x13.trans x4
        have hv4 : s4.vars = s.vars := x14.vars
        have e14 : ∀ g, ev s4.L g a1 = someF s [v] f g := fun g => by rw [((x2.trans x3).trans x4).ev i1, e1s]
        have H5 := Lib.hid (lq_some (some ⟨w6.heap.size, 0, none⟩) 1 [v] a1 hK i4 (rowJ_of (rowI_new w6 [v] 3)) (by simp) (by omega) (by omega) (by omega) (h4.below ((Below.refl _ _).alloc (Nat.le_refl _) (.cells #[.int .i64 v] 3))))
        unfold LqPost at H5
        clear H4 h4 e1s e2s e3s e4s
        go_wp2_with fail
        refine H5.out.mono ?_
        rintro e w7 ⟨a5, s5, rfl, i5, e5s, x5, h5⟩
        have hq2 : a5 = a1 := same_num h5.wf i5 (x5.is i4) (fun g => by rw [e5s, x5.ev i4, some_some hv4 e14])
        subst hq2
        have x15 := x14.trans x5
        have hv5 : s5.vars = s.vars := x15.vars
        have e15 : ∀ g, ev s5.L g a5 = someF s [v] f g := fun g => by rw [x5.ev i4, e14]
        have H6 := Lib.hid (lq_restrict a5 v true hK i5 (by omega) (by omega) (by omega) h5)
        unfold LqPost at H6
        clear H5 h5 e5s
        go_wp2_with fail
        refine H6.out.mono ?_
        rintro e w8 ⟨a6, s6, rfl, i6, e6s, x6, h6⟩
        have hq3 : a6 = a5 := same_num h6.wf i6 (x6.is i5) (fun g => by rw [e6s, x6.ev i5, res_some hv5 e15])
        subst hq3
        have x16 := x15.trans x6
        have e16 : ∀ g, ev s6.L g a6 = someF s [v] f g := fun g => by rw [x6.ev i5, e15]
        have hrf := h6.rng (x16.is hif)
        have H7 := Lib.hid (lq_support f hrf h6)
        have HL6 := Lib.hid h6
        have HSp6 := Lib.hid x6.sp
        clear H6 h6 e6s e14 e15
        go_wp2_with fail
        refine H7.out.mono ?_
        rintro e w9 ⟨R, AV, cv, rfl, hR, hJ, hb9⟩
        have HL9 := Lib.hid (HL6.out.below hb9)
        have HJ9 := Lib.hid hJ
        have HR := Lib.hid hR
        clear H7 hJ hb9 hR
        obtain ⟨V, hV⟩ : ∃ V, supN s6 R K = V := ⟨_, rfl⟩
        have HV := Lib.hid hV
        simp only [hV] at HJ9 ⊢
        clear hV
        have hVl : V.length ≤ 6 := by have := supN_len s6 R K; rw [HV.out] at this; omega
        go_wp2_with fail
        go_loopw [17, 82] (fun h i wz => ∃ k2 : Nat, k2 ≤ V.length ∧ i = .int .i64 k2 ∧ h = .bool (decide (v ∈ V.take k2)) ∧ wz = w9) (fun _ i _ => V.length - (intOf i).toNat)
        case atStart => exact ⟨0, by omega, rfl, by simp, rfl⟩
        case round =>
          obtain ⟨k2, hk2, rfl, rfl, rfl⟩ := hrel
          by_cases hl2 : k2 < V.length
          · have f1 : decide (k2 < V.length) = true := decide_eq_true hl2
            have f1' : decide ((k2 : Int) < V.length) = true := by simp; omega
            obtain ⟨gb, go, rfl, hgb, hgc⟩ := HJ9.out (by omega)
            have y0 := hgc k2 hl2
            have r0 : (0 : Int) ≤ k2 := by omega
            have r1 : (k2 : Int) < V.length := by omega
            have hw2 : IntKind.i64.wrap ((k2 : Int) + 1) = (k2 : Int) + 1 := by rw [IntKind.wrap_i64]; omega
            have hts : V.take (k2 + 1) = V.take k2 ++ [V[k2]] := List.take_succ_eq_append_getElem hl2
            have hmem : decide (v ∈ V.take (k2 + 1)) = (decide (v ∈ V.take k2) || (V[k2] == v)) := by
              rw [hts, Bool.eq_iff_iff]
              simp only [List.mem_append, List.mem_singleton, decide_eq_true_eq, Bool.or_eq_true, beq_iff_eq]
              exact or_congr Iff.rfl eq_comm
            generalize V[k2] = y at *
            clear hgc hts hgb
            cases hd : decide (v ∈ V.take k2) with
            | true =>
              rw [hd, Bool.true_or] at hmem
              go_wp2_with fail
              go_roundw
              case rel => exact ⟨k2 + 1, by omega, by go_num, by rw [hmem], trivial⟩
              case measure => simp [intOf]; omega
            | false =>
              rw [hd, Bool.false_or] at hmem
              go_wp2_with fail
              go_roundw
              case rel => exact ⟨k2 + 1, by omega, by go_num, by rw [hmem], trivial⟩
              case measure => simp [intOf]; omega
          · have f1 : decide (k2 < V.length) = false := decide_eq_false hl2
            have f1' : decide ((k2 : Int) < V.length) = false := by simp; omega
            rw [List.take_of_length_le (by omega)]
            have H8 := Lib.hid (lq_size2 f hrf HL9.out)
            clear HJ9 hl2
            go_wp2_with fail
            refine H8.out.mono ?_
            rintro e w10 ⟨R2, rfl, hR2, hb10⟩
            have HLA := Lib.hid (HL9.out.below hb10)
            clear H8 HL9 hb10
            by_cases hh : v ∈ V
            · have dh : decide (v ∈ V) = true := decide_eq_true hh
              have H9 := Lib.hid (lq_support f hrf HLA.out)
              go_wp2_with fail
              refine H9.out.mono ?_
              rintro e w11 ⟨R3, AV3, cv3, rfl, hR3, hJ3, hb11⟩
              clear H9
              have hrl := len_of_nodes hR2.nd hR2.nodes
              have hlt3 : ¬ (R2.length < (supN s6 R3 K).length) := by
                have a1 := sup_le s6 K R3
                have a2 := QuT.All.len HLA.out.wf (Ext.refl HSp6.out 0) (x16.is hif) hR2 hR3
                omega
              have d3n : (supN s6 R3 K).length ≤ R2.length := by omega
              have d4n : R2.length ≤ s6.L.length := by omega
              have d3 : decide ((R2.length : Int) < ((supN s6 R3 K).length : Int)) = false := by simp; omega
              have HLn := Lib.hid (lq_len (HLA.out.below hb11))
              have d4 : decide ((R2.length : Int) > (s6.L.length : Int)) = false := by simp; omega
              have d4' : decide ((s6.L.length : Int) < (R2.length : Int)) = false := by simp; omega
              have HE := Lib.hid (And.intro ((HLA.out.below hb11).more (show _ ≤ 5760 + 3200 * (k + 1) by omega) (show _ ≤ 6000 + 4500 * (k + 1) by omega)) (HXs.out.trans x16))
              clear hb11 hJ3 HLA hR3 hR2 hlt3 hrl
              go_wp2_with fail
              refine HLn.out.mono ?_
              rintro e w12 ⟨rfl, rfl⟩
              clear HLn
              go_wp2_with fail
              go_roundw
              case rel => exact ⟨k + 1, _, _, by omega, by go_num, Lib.hid HE.out.1, Lib.hid HE.out.2⟩
              case measure => simp [intOf]; omega
            · have dh : decide (v ∈ V) = false := decide_eq_false hh
              have hoff := off_of HLA.out.wf HR.out (by rw [x16.vars, hvs, HV.out]; exact hh)
              have hof := fun b => off_some hoff b
              have hqf : a6 = f := same_num HLA.out.wf i6 (x16.is hif) (fun g => by
                rw [e16, ← (hof g).1]
                exact (congrFun (some_ext x16 hif [v]) g).symm)
              subst hqf
              have H9 := Lib.hid (lq_each (some ⟨w10.heap.size, 0, none⟩) 1 [v] a6 hK (x16.is hif) (rowJ_of (rowI_new w10 [v] 3)) (by simp) (by omega) (by omega) (by omega) (HLA.out.below ((Below.refl _ _).alloc (Nat.le_refl _) (.cells #[.int .i64 v] 3))))
              unfold LqPost at H9
              go_wp2_with fail
              refine H9.out.mono ?_
              rintro e w20 ⟨a7, s7, rfl, i7, e7s, x7, h7⟩
              have x17 := x16.trans x7
              have hq7 : a7 = a6 := same_num h7.wf i7 (x17.is hif) (fun g => by rw [e7s, x7.ev (x16.is hif), (hof g).2.1])
              subst hq7
              have H10 := Lib.hid (lq_restrict a7 v false hK (x17.is hif) (by omega) (by omega) (by omega) h7)
              unfold LqPost at H10
              clear H9 h7 e7s
              go_wp2_with fail
              refine H10.out.mono ?_
              rintro e w21 ⟨a8, s8, rfl, i8, e8s, x8, h8⟩
              have x18 := x17.trans x8
              have hq8 : a8 = a7 := same_num h8.wf i8 (x18.is hif) (fun g => by
                rw [e8s, x8.ev (x17.is hif), res_ext x7 (x16.is hif), (hof g).2.2, x7.ev (x16.is hif)])
              subst hq8
              have HL8 := Lib.hid h8
              have H11 := Lib.hid (lq_support a8 (h8.rng (x18.is hif)) h8)
              have hWA := HLA.out.wf
              have hxl := (x7.trans x8).len
              have hxp := (x7.trans x8).pre
              clear H10 h8 e8s hof hoff e16 HLA
              go_wp2_with fail
              refine H11.out.mono ?_
              rintro e w11 ⟨R3, AV3, cv3, rfl, hR3, hJ3, hb11⟩
              clear H11
              have hrl := len_of_nodes hR2.nd hR2.nodes
              have hlt3 : ¬ (R2.length < (supN s8 R3 K).length) := by
                have a1 := sup_le s8 K R3
                have a2 := QuT.All.len hWA (x7.trans x8) (x16.is hif) hR2 hR3
                omega
              have d3n : (supN s8 R3 K).length ≤ R2.length := by omega
              have d4n : R2.length ≤ s8.L.length := by
                obtain ⟨Z, hZ⟩ := hxp
                rw [hZ, List.length_append]
                omega
              have d3 : decide ((R2.length : Int) < ((supN s8 R3 K).length : Int)) = false := by simp; omega
              have HLn := Lib.hid (lq_len (HL8.out.below hb11))
              have d4 : decide ((R2.length : Int) > (s8.L.length : Int)) = false := by simp; omega
              have d4' : decide ((s8.L.length : Int) < (R2.length : Int)) = false := by simp; omega
              have HE := Lib.hid (And.intro ((HL8.out.below hb11).more (show _ ≤ 5760 + 3200 * (k + 1) by omega) (show _ ≤ 6000 + 4500 * (k + 1) by omega)) (HXs.out.trans x18))
              clear hb11 hJ3 HL8 hR3 hR2 hlt3 hrl
              go_wp2_with fail
              refine HLn.out.mono ?_
              rintro e w12 ⟨rfl, rfl⟩
              clear HLn
              go_wp2_with fail
              go_roundw
              case rel => exact ⟨k + 1, _, _, by omega, by go_num, Lib.hid HE.out.1, Lib.hid HE.out.2⟩
              case measure => simp [intOf]; omega
      · have e1 : decide (k < m + 2) = false := decide_eq_false hlt
        have e1' : decide ((k : Int) < (m : Int) + 2) = false := by simp; omega
        have HBw := Lib.hid (fun w' (hb : Below wr.heap.size wr w') => HT.out.bel _ _ _ _ (hLq.out.below hb))
        have HIs := Lib.hid (lq_is u HRu.out hLq.out)
        cases hodd : isB s u with
        | true =>
          rw [hodd] at HIs
          clear hLq hX hlt
          go_wp2_with fail
          refine HIs.out.mono ?_
          rintro e w' ⟨rfl, rfl⟩
          go_wp2_with fail
          refine (HLv.out _).mono ?_
          rintro e w' ⟨rfl, hbl⟩
          have HE := Lib.hid (HBw.out _ hbl)
          clear hbl
          go_wp2_with fail
          go_ret
          exact ⟨rfl, by first | exact HE.out | (rw [← hbt]; exact HE.out)⟩
        | false =>
          rw [hodd] at HIs
          have hR1 : Rng 1 := by unfold Rng; omega
          have hal : ∀ w', Below wr.heap.size wr w' → Below wr.heap.size wr (w'.alloc (.cells #[.int .i64 0] 3)) := fun w' hb => hb.alloc hb.size _
          have HJ1 := Lib.hid (fun w' (hb : Below wr.heap.size wr w') => (show Calls Try.prog 13 #[.pointer (some ⟨D, 0, none⟩), .int .i64 u, .int .i64 0, .bool true] w' fun e w'' => e = .returned (.int .i64 0) ∧ Below wr.heap.size wr w'' from by
            obtain ⟨x, c, N, h1, _⟩ := hLq.out.below hb
            exact (restrict_no u 0 true HRu.out hodd h1).mono (fun e w'' h => ⟨h.1, hb.trans (h.2.mono hb.size)⟩)))
          have HJ2 := Lib.hid (fun w' (hb : Below wr.heap.size wr w') => (show Calls Try.prog 16 #[.pointer (some ⟨D, 0, none⟩), .int .i64 u, .slice (some ⟨w'.heap.size, 0, none⟩) 1 1] (w'.alloc (.cells #[.int .i64 0] 3)) fun e w'' => e = .returned (.int .i64 0) ∧ Below wr.heap.size wr w'' from by
            obtain ⟨x, c, N, h1, _⟩ := hLq.out.below (hal w' hb)
            exact (some_no u HRu.out _ 1 1 hodd h1).mono (fun e w'' h => ⟨h.1, (hal w' hb).trans (h.2.mono (hal w' hb).size)⟩)))
          have HJ3 := Lib.hid (fun w' (hb : Below wr.heap.size wr w') => (show Calls Try.prog 18 #[.pointer (some ⟨D, 0, none⟩), .int .i64 u, .slice (some ⟨w'.heap.size, 0, none⟩) 1 1] (w'.alloc (.cells #[.int .i64 0] 3)) fun e w'' => e = .returned (.int .i64 0) ∧ Below wr.heap.size wr w'' from by
            obtain ⟨x, c, N, h1, _⟩ := hLq.out.below (hal w' hb)
            exact (each_no u HRu.out _ 1 1 hodd h1).mono (fun e w'' h => ⟨h.1, (hal w' hb).trans (h.2.mono (hal w' hb).size)⟩)))
          have HJ4 := Lib.hid (fun w' (hb : Below wr.heap.size wr w') => (show Calls Try.prog 14 #[.pointer (some ⟨D, 0, none⟩), .int .i64 u, .int .i64 0, .int .i64 1] w' fun e w'' => e = .returned (.int .i64 0) ∧ Below wr.heap.size wr w'' from by
            obtain ⟨x, c, N, h1, _⟩ := hLq.out.below hb
            exact (put_no u 0 1 HRu.out hR1 (Or.inl hodd) h1).mono (fun e w'' h => ⟨h.1, hb.trans (h.2.mono hb.size)⟩)))
          have HJ5 := Lib.hid (fun w' (hb : Below wr.heap.size wr w') => (show Calls Try.prog 14 #[.pointer (some ⟨D, 0, none⟩), .int .i64 1, .int .i64 0, .int .i64 u] w' fun e w'' => e = .returned (.int .i64 0) ∧ Below wr.heap.size wr w'' from by
            obtain ⟨x, c, N, h1, _⟩ := hLq.out.below hb
            exact (put_no 1 0 u hR1 HRu.out (Or.inr hodd) h1).mono (fun e w'' h => ⟨h.1, hb.trans (h.2.mono hb.size)⟩)))
          have hnn : nodeB s u = false := by
            cases h : nodeB s u with
            | false => rfl
            | true =>
              obtain ⟨a, b⟩ := nodeB_iff.1 h
              rw [isB_iff.2 ⟨by omega, b⟩] at hodd
              cases hodd
          have HJ6 := Lib.hid (fun w' (hb : Below wr.heap.size wr w') => (lq_size2 u HRu.out (hLq.out.below hb)).mono (R' := fun e w'' => e = .returned (.int .i64 0) ∧ Below wr.heap.size wr w'') (fun e w'' h => by
            obtain ⟨R, rfl, hR, hb2⟩ := h
            rw [QuT.All.none hR hnn]
            exact ⟨rfl, hb.trans (hb2.mono hb.size)⟩))
          have HJ7 := Lib.hid (fun w' (hb : Below wr.heap.size wr w') => (lq_support u HRu.out (hLq.out.below hb)).mono (R' := fun e w'' => (∃ A ca, e = .returned (.slice A 0 ca)) ∧ Below wr.heap.size wr w'') (fun e w'' h => by
            obtain ⟨R, A, ca, rfl, hR, _, hb2⟩ := h
            rw [QuT.All.none hR hnn]
            have h0 : (supN s [] K).length = 0 := by have := sup_le s K []; simpa using this
            rw [h0]
            exact ⟨⟨A, ca, rfl⟩, hb.trans (hb2.mono hb.size)⟩))
          clear hLq hX hlt hodd hal hnn hR1
          go_wp2_with fail
          refine HIs.out.mono ?_
          rintro e w' ⟨rfl, rfl⟩
          clear HIs
          go_wp2_with fail
          refine (HJ1.out _ (Below.refl _ _)).mono ?_
          rintro e y1 ⟨rfl, hb1⟩
          have HY1 := Lib.hid hb1
          clear hb1 HJ1
          go_wp2_with fail
          refine (HJ2.out _ HY1.out).mono ?_
          rintro e y2 ⟨rfl, hb1⟩
          have HY2 := Lib.hid hb1
          clear hb1 HJ2 HY1
          go_wp2_with fail
          refine (HJ3.out _ HY2.out).mono ?_
          rintro e y3 ⟨rfl, hb1⟩
          have HY3 := Lib.hid hb1
          clear hb1 HJ3 HY2
          go_wp2_with fail
          refine (HJ4.out _ HY3.out).mono ?_
          rintro e y4 ⟨rfl, hb1⟩
          have HY4 := Lib.hid hb1
          clear hb1 HJ4 HY3
          go_wp2_with fail
          refine (HJ5.out _ HY4.out).mono ?_
          rintro e y5 ⟨rfl, hb1⟩
          have HY5 := Lib.hid hb1
          clear hb1 HJ5 HY4
          go_wp2_with fail
          refine (HJ6.out _ HY5.out).mono ?_
          rintro e y6 ⟨rfl, hb1⟩
          have HY6 := Lib.hid hb1
          clear hb1 HJ6 HY5
          go_wp2_with fail
          refine (HJ7.out _ HY6.out).mono ?_
          rintro e y7 ⟨⟨A7, c7, rfl⟩, hb1⟩
          have HY7 := Lib.hid hb1
          clear hb1 HJ7 HY6
          go_wp2_with fail
          refine (HLv.out _).mono ?_
          rintro e w' ⟨rfl, hbl⟩
          have HE := Lib.hid (HBw.out _ (HY7.out.trans (hbl.mono HY7.out.size)))
          clear hbl
          go_wp2_with fail
          go_ret
          exact ⟨rfl, by first | exact HE.out | (rw [← hbt]; exact HE.out)⟩
end Go.Proofs.Ytnkkmppmfjekeaa.QuU
