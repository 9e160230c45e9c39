/- In whatever order variables go, the same diagram comes: the walk of QuantOrders. -/
import Derived.Test.YtnkkmppmfjekeaaQuN
import Derived.Test.YtnkkmppmfjekeaaItV
namespace Go.Proofs.Ytnkkmppmfjekeaa.QuO
open Go.RowKit Go.Lib Go.Proofs Go.Proofs.Ytnkkmppmfjekeaa.CaA Go.Proofs.Ytnkkmppmfjekeaa.NdA Go.Proofs.Ytnkkmppmfjekeaa.NdB Go.Proofs.Ytnkkmppmfjekeaa.NdC Go.Proofs.Ytnkkmppmfjekeaa.NdE Go.Proofs.Ytnkkmppmfjekeaa.NdG Go.Proofs.Ytnkkmppmfjekeaa.NdI Go.Proofs.Ytnkkmppmfjekeaa.NdL Go.Proofs.Ytnkkmppmfjekeaa.ItA Go.Proofs.Ytnkkmppmfjekeaa.ItB Go.Proofs.Ytnkkmppmfjekeaa.ItD Go.Proofs.Ytnkkmppmfjekeaa.ItF Go.Proofs.Ytnkkmppmfjekeaa.ItH Go.Proofs.Ytnkkmppmfjekeaa.ItI Go.Proofs.Ytnkkmppmfjekeaa.ItK Go.Proofs.Ytnkkmppmfjekeaa.ItL Go.Proofs.Ytnkkmppmfjekeaa.ItM Go.Proofs.Ytnkkmppmfjekeaa.ItN Go.Proofs.Ytnkkmppmfjekeaa.ItP Go.Proofs.Ytnkkmppmfjekeaa.ItQ Go.Proofs.Ytnkkmppmfjekeaa.ItR Go.Proofs.Ytnkkmppmfjekeaa.ItV Go.Proofs.Ytnkkmppmfjekeaa.QuA Go.Proofs.Ytnkkmppmfjekeaa.QuB Go.Proofs.Ytnkkmppmfjekeaa.QuC Go.Proofs.Ytnkkmppmfjekeaa.QuD Go.Proofs.Ytnkkmppmfjekeaa.QuH Go.Proofs.Ytnkkmppmfjekeaa.QuI Go.Proofs.Ytnkkmppmfjekeaa.QuJ Go.Proofs.Ytnkkmppmfjekeaa.QuK Go.Proofs.Ytnkkmppmfjekeaa.QuL Go.Proofs.Ytnkkmppmfjekeaa.QuN
set_option linter.unusedVariables false
set_option linter.unusedSimpArgs false
theorem ops_off {W w1 : World} {A : Option Addr} {ops : List Op4} {D : Nat} {x0 : Bx} (hA : OpsAt W A ops) (hf : ∀ j, FootD D x0 j → W.heap.size ≤ j) : 0 < ops.length → ∀ a, A = some a → ¬ FootD D x0 a.block := fun h0 a ha hq => by
  obtain ⟨b, o, e, hl, _⟩ := hA h0
  rw [e] at ha
  injection ha with ha
  subst ha
  have := hf _ hq
  have : W.heap.size ≤ b := this
  omega
theorem ops_below {W w1 : World} {A : Option Addr} {ops : List Op4} (hA : OpsAt W A ops) (hb : Below W.heap.size W w1) : OpsAt w1 A ops := fun h0 => by
  obtain ⟨b, o, e, hl, hc⟩ := hA h0
  exact ⟨b, o, e, Nat.lt_of_lt_of_le hl hb.size, fun i hi j u hu => (hb.cell (p := ⟨b, _, none⟩) hl).trans (hc i hi j u hu)⟩
/-- What Play left, as a beginning: the diagrams, and the row of them. -/
structure Beg (W w2 : World) (D : Nat) (x : Bx) (K m bl br : Nat) (ops : List Op4) : Prop where
  lq : Lq w2 D x K 1048576 w2 ⟨K, 1048576, false, (upK K ops m).M⟩ 5760 6000
  row : ∀ i, i < m + 2 → w2.cell? ⟨bl, i, none⟩ = some (.int .i64 ((upK K ops m).l.getD i 0)) ∧ isB ⟨K, 1048576, false, (upK K ops m).M⟩ ((upK K ops m).l.getD i 0) = true
  lt : bl < w2.heap.size
  off : ¬ FootD D x bl
  bel : ∀ w' s q j, Lq w2 D x K 1048576 w' s q j → Below W.heap.size W w'
  rows : ∀ i, i < m + 2 → ∃ g, w2.cell? ⟨br, i, none⟩ = some (.slice (some ⟨g, 0, none⟩) (2 ^ K) (2 ^ K)) ∧ RB w2 g (2 ^ K) ((upK K ops m).R.getD i (fun _ => false)) ∧ ¬ FootD D x g
  ltr : br < w2.heap.size
  offr : ¬ FootD D x br
theorem beg_of {W w1 w2 : World} {D : Nat} {x0 x : Bx} {K m bl cl br cr : Nat} {ops : List Op4} {lv : List Int} {gs : List Nat} (hm : m ≤ ops.length) (hK : K ≤ 6) (h30 : m ≤ 30) (hb : Below W.heap.size W w1) (hf : ∀ j, FootD D x0 j → W.heap.size ≤ j) (hT : ItV.Told K 1048576 D x0 w1 ops m bl cl br cr lv gs x w2) : Beg W w2 D x K m bl br ops := by
  have hU := upK_inv hK (ops := ops) m hm h30
  have hul := upK_len (K := K) (ops := ops) m hm
  obtain ⟨bl', cl', br', cr', e1, e2, l1, l2, o1, o2, h1, h2⟩ := play_rows hT.pl
  injection e1 with e1 _ e1c
  injection e1 with e1
  injection e1 with e1 _ _
  injection e2 with e2 _ e2c
  injection e2 with e2
  injection e2 with e2 _ _
  subst e1 e2
  have hfx : ∀ j, FootD D x j → W.heap.size ≤ j := fun j hj => by
    rcases hT.pl.foot j hj with h | h
    · exact hf j h
    · exact Nat.le_trans hb.size h
  have hB2 : Below W.heap.size W w2 := Frm.below hb hT.pl.frm hf
  refine ⟨⟨x, _, _, hT.pl.bd, by omega, by omega, by have h := (pl_small hm hK h30 hT.pl).1; exact h, rfl, rfl, rfl, Frm.refl _ _, fun i h => Or.inl h⟩, fun i hi => ?_, l1, o1, fun w' s q j h => ?_, fun i hi => ?_, l2, o2⟩
  · obtain ⟨f, g, G, ef, eG, cf, cg, rG, hif, lbl, lbr, hev⟩ := ItV.Told.at hm hK h30 hT i hi
    rw [← ef]
    exact ⟨cf, hif⟩
  · obtain ⟨_, _, _, _, _, _, _, _, _, _, h8, _⟩ := h
    exact Frm.below hB2 h8 hfx
  · have hi2 : i < gs.length := by rw [hT.pl.gl]; exact hi
    obtain ⟨r1, r2, r3⟩ := hT.pl.rows i hi2
    exact ⟨gs[i], h2 i hi, r1, r3⟩
set_option maxHeartbeats 8000000 in
set_option maxRecDepth 100000 in
theorem orders (A : Option Addr) (ca : Nat) (ops : List Op4) (n0 : Nat) (hn0 : n0 < 18446744073709551616) (v u : Int) (W : World) (hops : ∀ o ∈ ops, o.InR) (hA : OpsAt W A ops) (hv1 : -9223372036854775808 ≤ v) (hv2 : v ≤ 9223372036854775807) :
    Calls Try.prog 5 #[.slice A ops.length ca, .int .u64 n0, .agg #[.int .i64 v, .int .i64 u]] W fun e w' => e = .returned (.bool true) ∧ Below W.heap.size W w' := by
  have hbX : Below W.heap.size W (W.alloc (.cells #[.int .i64 v, .int .i64 u] 46)) := (Below.refl _ _).alloc (Nat.le_refl _) _
  have HMany := Lib.hid (fun w => many_ n0 hn0 w)
  obtain ⟨K, hK⟩ : ∃ K, n0 % 7 = K := ⟨_, rfl⟩
  have hK6 : K ≤ 6 := by omega
  rw [hK] at HMany
  have HNew := Lib.hid (fun w => ItK.new_ K 1048576 (by omega) (by omega) w)
  unfold ItK.NewPost at HNew
  have HPlay := Lib.hid (fun D x0 w1 (hb : Below W.heap.size W w1) (hf : ∀ j, FootD D x0 j → W.heap.size ≤ j) (H : Bd w1 D x0 0 ⟨K, 1048576, false, []⟩ 0) => ItT.play_ K 1048576 D hK6 x0 A ca ops w1 hops (ops_below hA hb) (ops_off (w1 := w1) hA hf) H)
  unfold PlayPost at HPlay
  have HLv := Lib.hid (fun w => QuN.lives w)
  have HK6 := Lib.hid hK6
  obtain ⟨m, hm⟩ : ∃ m, min 30 ops.length = m := ⟨_, rfl⟩
  have hm1 : m ≤ ops.length := by omega
  have hm2 : m ≤ 30 := by omega
  have HMm := Lib.hid (And.intro hm1 hm2)
  rw [hm] at HPlay
  have hcb := fun o => Lib.cell_of_heap (heap_alloc_new W (.cells #[.int .i64 v, .int .i64 u] 46)) o
  have HB0 := Lib.hid hbX
  clear hops hA hK hK6 hn0 hm hm1 hbX
  go_enter Try.func5, Try.ntmps5
  go_upto_region 1 with fail
  obtain ⟨bt, hbt⟩ : ∃ bt, W.heap.size = bt := ⟨_, rfl⟩
  have hbtl : bt < (W.alloc (.cells #[.int .i64 v, .int .i64 u] 46)).heap.size := by rw [← hbt]; simp
  simp only [hbt] at hcb ⊢
  generalize W.alloc (.cells #[.int .i64 v, .int .i64 u] 46) = w0 at *
  have HCb := Lib.hid (fun w' (hb : Below w0.heap.size w0 w') o => (hb.cell (p := ⟨bt, o, none⟩) hbtl).trans (hcb o))
  clear hcb hbtl
  go_wp2_with fail
  refine (HMany.out _).mono ?_
  rintro e w' ⟨rfl, rfl⟩
  clear HMany
  go_wp2_with fail
  refine (HNew.out _).mono ?_
  rintro e w1 ⟨D, x0, rfl, hB, hb, hf⟩
  have hb1 : Below W.heap.size W w1 := HB0.out.trans (hb.mono HB0.out.size)
  have hf1 : ∀ j, FootD D x0 j → W.heap.size ≤ j := fun j hj => Nat.le_trans HB0.out.size (hf j hj)
  have HP1 := Lib.hid (HPlay.out D x0 w1.drew hb1.drew hf1 (hB.below (Below.refl _ _).drew))
  have HB1 := Lib.hid (And.intro hb1.drew hf1)
  have cb := HCb.out w1.drew hb.drew
  have cb1 := HCb.out w1 hb
  clear hB hb hf HPlay HNew hb1 hf1 HCb
  go_wp2_with fail
  go_region
  clear cb cb1
  all_goals
    go_wp2_with fail
    refine HP1.out.mono ?_
    rintro e w2 ⟨vl, vr, lv, gs, x, s, rfl, hPl⟩
    obtain ⟨bl, cl, br, cr, rfl, rfl, hT⟩ := ItV.told_of HMm.out.1 HK6.out HMm.out.2 (by omega) hPl
    have HT := Lib.hid (beg_of HMm.out.1 HK6.out HMm.out.2 HB1.out.1 HB1.out.2 hT)
    have HS0 : Hid (∀ k, k ≤ m + 2 → ∀ s' C, Ext ⟨K, 1048576, false, (upK K ops m).M⟩ s' C → isB s' ((upK K ops m).l.getD k 0) = true ∨ m + 2 ≤ k) := Lib.hid (fun k hk s' C h => by
      by_cases hlt : k < m + 2
      · exact Or.inl (h.is (HT.out.row k hlt).2)
      · exact Or.inr (by omega))
    clear hT hPl HP1 HB1
    obtain ⟨s0, hs0⟩ : ∃ s0, (⟨K, 1048576, false, (upK K ops m).M⟩ : St) = s0 := ⟨_, rfl⟩
    rw [hs0] at HS0
    have HLq : Hid (Lq w2 D x K 1048576 w2 s0 5760 6000) := Lib.hid (by rw [← hs0]; exact HT.out.lq)
    have hv0 : s0.vars = K := by rw [← hs0]
    have HV0 := Lib.hid hv0
    have hsp0 : s0.spent = false := by rw [← hs0]
    have HE0 := Lib.hid (Ext.refl hsp0 0)
    clear hs0 hsp0 hv0
    go_wp2_with fail
    go_loopw [37] (fun i wr => ∃ (k : Nat) (s : St) (C : Nat), k ≤ m + 2 ∧ i = .int .i64 k ∧ Hid (Lq w2 D x K 1048576 wr s (5760 + 3200 * k) (6000 + 4500 * k)) ∧ Hid (Ext s0 s C)) (fun i _ => m + 2 - (intOf i).toNat)
    case atStart => exact ⟨0, s0, 0, by omega, rfl, HLq, HE0⟩
    case round =>
      obtain ⟨k, s, C, hk, rfl, hLq, hX⟩ := hrel
      clear HLq HE0
      by_cases hlt : k < m + 2
      · have e1 : decide (k < m + 2) = true := decide_eq_true hlt
        have e1' : decide ((k : Int) < (m : Int) + 2) = true := by simp; omega
        have q0 : (0 : Int) ≤ k := by omega
        have q1 : (k : Int) < (m : Int) + 2 := by omega
        have hw1 : IntKind.i64.wrap ((k : Int) + 1) = (k : Int) + 1 := by rw [IntKind.wrap_i64]; omega
        have cf : wr.cell? ⟨bl, k, none⟩ = some (.int .i64 ((upK K ops m).l.getD k 0)) := (World.cell?_of_block (w := w2) (hLq.out.old HT.out.lt HT.out.off)).trans (HT.out.row k hlt).1
        have hif : isB s ((upK K ops m).l.getD k 0) = true := by
          rcases HS0.out k hk s C hX.out with h | h
          · exact h
          · omega
        generalize (upK K ops m).l.getD k 0 = f at *
        have hvs : s.vars = K := by rw [hX.out.vars, HV0.out]
        have hK := HK6.out
        obtain ⟨c1, c2⟩ := kc hK
        have h1048 : (1048576 : Nat) = 1048576 := rfl
        have H1 := Lib.hid (lq_some (some ⟨wr.heap.size, 0, none⟩) 2 [v, u] f hK hif (rowJ_of (rowI_new wr [v, u] 3)) (by simp) (by omega) (by omega) (by omega) (hLq.out.below ((Below.refl _ _).alloc (Nat.le_refl _) (.cells #[.int .i64 v, .int .i64 u] 3))))
        unfold LqPost at H1
        have HXs := Lib.hid hX.out
        clear hLq hX
        go_wp2_with fail
        refine H1.out.mono ?_
        rintro e w3 ⟨a1, s1, rfl, i1, e1s, x1, h1⟩
        have H2 := Lib.hid (lq_some (some ⟨w3.heap.size, 0, none⟩) 2 [u, v] f hK (x1.is hif) (rowJ_of (rowI_new w3 [u, v] 3)) (by simp) (by omega) (by omega) (by omega) (h1.below ((Below.refl _ _).alloc (Nat.le_refl _) (.cells #[.int .i64 u, .int .i64 v] 3))))
        unfold LqPost at H2
        clear H1 cf h1
        go_wp2_with fail
        refine H2.out.mono ?_
        rintro e w4 ⟨a2, s2, rfl, i2, e2s, x2, h2⟩
        have hq1 : a1 = a2 := same_num h2.wf (x2.is i1) i2 (fun g => by rw [x2.ev i1, e1s, e2s, some_ext x1 hif, some_swap])
        subst hq1
        have x12 := x1.trans x2
        have H3 := Lib.hid (lq_each (some ⟨w4.heap.size, 0, none⟩) 2 [v, u] f hK (x12.is hif) (rowJ_of (rowI_new w4 [v, u] 3)) (by simp) (by omega) (by omega) (by omega) (h2.below ((Below.refl _ _).alloc (Nat.le_refl _) (.cells #[.int .i64 v, .int .i64 u] 3))))
        unfold LqPost at H3
        clear H2 h2 e1s e2s
        go_wp2_with fail
        refine H3.out.mono ?_
        rintro e w5 ⟨a3, s3, rfl, i3, e3s, x3, h3⟩
        have x13 := x12.trans x3
        have H4 := Lib.hid (lq_each (some ⟨w5.heap.size, 0, none⟩) 2 [u, v] f hK (x13.is hif) (rowJ_of (rowI_new w5 [u, v] 3)) (by simp) (by omega) (by omega) (by omega) (h3.below ((Below.refl _ _).alloc (Nat.le_refl _) (.cells #[.int .i64 u, .int .i64 v] 3))))
        unfold LqPost at H4
        clear H3 h3
        go_wp2_with fail
        refine H4.out.mono ?_
        rintro e w6 ⟨a4, s4, rfl, i4, e4s, x4, h4⟩
        have hq2 : a3 = a4 := same_num h4.wf (x4.is i3) i4 (fun g => by rw [x4.ev i3, e3s, e4s, each_ext x3 (x12.is hif), each_swap])
        subst hq2
        have x14 := x13.trans x4
        have H5 := Lib.hid (lq_restrict f v true hK (x14.is hif) (by omega) (by omega) (by omega) h4)
        unfold LqPost at H5
        clear H4 h4 e3s e4s
        go_wp2_with fail
        refine H5.out.mono ?_
        rintro e w7 ⟨a5, s5, rfl, i5, e5s, x5, h5⟩
        have x15 := x14.trans x5
        have H6 := Lib.hid (lq_restrict a5 v false hK i5 (by omega) (by omega) (by omega) h5)
        unfold LqPost at H6
        clear H5 h5
        go_wp2_with fail
        refine H6.out.mono ?_
        rintro e w8 ⟨a6, s6, rfl, i6, e6s, x6, h6⟩
        have hq3 : a6 = a5 := same_num h6.wf i6 (x6.is i5) (fun g => by rw [e6s, x6.ev i5, res_twice x5.vars e5s])
        subst hq3
        have x16 := x15.trans x6
        clear H6 e5s e6s
        by_cases hp : 0 ≤ v
        · have g1 : decide (v ≥ 0) = true := by simp; omega
          have g1' : decide ((0 : Int) ≤ v) = true := by simp; omega
          by_cases hq : v < K
          · have g2 : decide (v < (K : Int)) = true := decide_eq_true hq
            obtain ⟨vn, hvn⟩ : ∃ vn : Nat, v = vn := ⟨v.toNat, by omega⟩
            have H7 := Lib.hid (lq_lit vn hK (by omega) (by omega) (by omega) h6)
            rw [← hvn] at H7
            have HVn := Lib.hid hvn
            clear hvn
            unfold LqPost at H7
            clear h6
            go_wp2_with fail
            refine H7.out.mono ?_
            rintro e w9 ⟨a7, s7, rfl, i7, e7s, x7, h7⟩
            have x17 := x16.trans x7
            have hv7 : s7.vars = K := by rw [x17.vars, hvs]
            have H8 := Lib.hid (lq_put f v a7 hK (x17.is hif) i7 (by omega) (by omega) (by omega) h7)
            unfold LqPost at H8
            clear H7 h7
            go_wp2_with fail
            refine H8.out.mono ?_
            rintro e w10 ⟨a8, s8, rfl, i8, e8s, x8, h8⟩
            have hq4 : a8 = f := same_num h8.wf i8 (x8.is (x17.is hif)) (fun g => by
              rw [e8s, x8.ev (x17.is hif)]
              exact put_lit (by rw [hv7]; exact ⟨hp, hq⟩) (fun g => by rw [e7s, hv7, HVn.out, Int.toNat_natCast]) g)
            subst hq4
            have HE := Lib.hid (And.intro (h8.more (show _ ≤ 5760 + 3200 * (k + 1) by omega) (show _ ≤ 6000 + 4500 * (k + 1) by omega)) (HXs.out.trans (x17.trans x8)))
            clear h8 H8 e7s e8s
            go_wp2_with fail
            go_roundw
            case rel => exact ⟨k + 1, _, _, by omega, by go_num, Lib.hid HE.out.1, Lib.hid HE.out.2⟩
            case measure => simp [intOf]; omega
          · have g2 : decide (v < (K : Int)) = false := decide_eq_false hq
            have HE := Lib.hid (And.intro (h6.more (show _ ≤ 5760 + 3200 * (k + 1) by omega) (show _ ≤ 6000 + 4500 * (k + 1) by omega)) (HXs.out.trans x16))
            clear h6
            go_wp2_with fail
            go_roundw
            case rel => exact ⟨k + 1, _, _, by omega, by go_num, Lib.hid HE.out.1, Lib.hid HE.out.2⟩
            case measure => simp [intOf]; omega
        · have g1 : decide (v ≥ 0) = false := by simp; omega
          have g1' : decide ((0 : Int) ≤ v) = false := by simp; omega
          have HE := Lib.hid (And.intro (h6.more (show _ ≤ 5760 + 3200 * (k + 1) by omega) (show _ ≤ 6000 + 4500 * (k + 1) by omega)) (HXs.out.trans x16))
          clear h6
          go_wp2_with fail
          go_roundw
          case rel => exact ⟨k + 1, _, _, by omega, by go_num, Lib.hid HE.out.1, Lib.hid HE.out.2⟩
          case measure => simp [intOf]; omega
      · have e1 : decide (k < m + 2) = false := decide_eq_false hlt
        have e1' : decide ((k : Int) < (m : Int) + 2) = false := by simp; omega
        have HBw := Lib.hid (HT.out.bel _ _ _ _ hLq.out)
        clear hLq hX hlt
        go_wp2_with fail
        refine (HLv.out _).mono ?_
        rintro e w' ⟨rfl, hbl⟩
        have HE := Lib.hid (HBw.out.trans (hbl.mono HBw.out.size))
        clear hbl
        go_wp2_with fail
        go_ret
        exact ⟨rfl, by first | exact HE.out | (rw [← hbt]; exact HE.out)⟩
end Go.Proofs.Ytnkkmppmfjekeaa.QuO
