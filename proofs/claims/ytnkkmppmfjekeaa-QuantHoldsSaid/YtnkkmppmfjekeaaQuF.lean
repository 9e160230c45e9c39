/- The walk that lets variables go: And. -/
import Derived.Test.YtnkkmppmfjekeaaQuD
import Derived.Deep.RegionHeld3
namespace Go.Proofs.Ytnkkmppmfjekeaa.QuF
open Go.RowKit Go.Lib Go.Proofs Go.Proofs.Ytnkkmppmfjekeaa.CaA Go.Proofs.Ytnkkmppmfjekeaa.NdA Go.Proofs.Ytnkkmppmfjekeaa.NdB Go.Proofs.Ytnkkmppmfjekeaa.NdC Go.Proofs.Ytnkkmppmfjekeaa.NdE Go.Proofs.Ytnkkmppmfjekeaa.NdG Go.Proofs.Ytnkkmppmfjekeaa.NdI Go.Proofs.Ytnkkmppmfjekeaa.ItA Go.Proofs.Ytnkkmppmfjekeaa.ItB Go.Proofs.Ytnkkmppmfjekeaa.ItD Go.Proofs.Ytnkkmppmfjekeaa.ItH Go.Proofs.Ytnkkmppmfjekeaa.ItI Go.Proofs.Ytnkkmppmfjekeaa.ItK Go.Proofs.Ytnkkmppmfjekeaa.ItL Go.Proofs.Ytnkkmppmfjekeaa.ItM Go.Proofs.Ytnkkmppmfjekeaa.QuA Go.Proofs.Ytnkkmppmfjekeaa.QuB Go.Proofs.Ytnkkmppmfjekeaa.QuC Go.Proofs.Ytnkkmppmfjekeaa.QuM Go.Proofs.Ytnkkmppmfjekeaa.QuD
set_option linter.unusedVariables false
set_option linter.unusedSimpArgs false
def J : Jn := (fun a b => a && b)
theorem same1 : Same1 (J) := fun x => by unfold J; cases x <;> rfl
set_option maxHeartbeats 4000000 in
set_option maxRecDepth 100000 in
theorem walk (D m bd bg bm bw bj gl : Nat) : ∀ (d : Nat) (n : Int) (w : World) (x : Bx) (c : Nat) (s : St) (N cnt : Nat) (M : Int → Option Value), Wq w D x m (fun i => gl.testBit i) J w x c s N cnt M → Boxes w D x m bd bg bm bw bj gl (.func (.func 44) #[.pointer (some ⟨D, 0, none⟩)] #[]) → gl < 2 ^ s.vars → Dg s d n → s.L.length + d * 2 ^ d ≤ s.budget → s.L.length + d * 2 ^ d ≤ 119900 → N + d * 2 ^ d ≤ 900000 → c + 2 * 2 ^ d ≤ 1000000 → cnt + 2 ^ d ≤ 1000000 →
    Calls Try.prog 68 #[.int .i64 n, .pointer (some ⟨bd, 0, none⟩), .pointer (some ⟨bg, 0, none⟩), .pointer (some ⟨bm, 0, none⟩), .pointer (some ⟨bw, 0, none⟩), .pointer (some ⟨bj, 0, none⟩)] w (WalkPost w D x m (fun i => gl.testBit i) J c s N cnt n d) := fun d => by
  induction d using Nat.strongRecOn with
  | _ d ih =>
    intro n w x c s N cnt M H B hgl hdg hbu hL hN hc hcnt
    have hwf := H.bd.tk.tb.wf
    have hlen := H.bd.tk.tb.len
    obtain ⟨r1, r2⟩ := dg_range (by omega) hdg
    have hpos : 1 ≤ 2 ^ d := Nat.one_le_two_pow
    have hv61 := hwf.v61
    have hgp := pow61 (K := s.vars) (by omega)
    have cd := B.xd.cell
    have hself : ∀ w', Below w.heap.size w w' → (∀ b, ev s.L b n = EL (fun i => gl.testBit i) J s.vars (fun b => ev s.L b n) b) → WalkPost w D x m (fun i => gl.testBit i) J c s N cnt n d (.returned (.int .i64 n)) w' := fun w' hb he =>
      ⟨n, x, c, s, M, cnt, rfl, (H.below hb).more (by omega), by omega, by omega, Ext.refl H.sp _, hdg.is, Int.le_refl _, he⟩
    cases hy : nodeB s n with
    | false =>
      have HM := Lib.hid (made_no n r1 r2 H.bd hy)
      have HS := Lib.hid (fun w' hb => hself w' hb (fun b => (congrFun (el_keep same1 hwf hdg.is (fun i h1 h2 => by
        have : varI s n = s.vars := by unfold varI; rw [if_neg (by simp [hy])]
        omega)) b).symm))
      unfold WalkPost at HS ⊢
      clear hself H B ih hdg hbu hL hN hc hcnt hwf hlen
      go_enter Try.func68, Try.ntmps68
      go_wp2_with fail
      refine HM.out.mono ?_
      rintro e w1 ⟨rfl, hb1⟩
      have HE := Lib.hid (fun cs => HS.out (w1.alloc cs) (hb1.alloc hb1.size cs))
      clear hb1 HM HS
      go_wp2_with fail
      go_ret
      exact HE.out _
    | true =>
      obtain ⟨i, p, lo, hi, hn, hat, hpK, hp61, hvn, il, ih', vl, vh, hne, inn, hel⟩ := node_parts hwf hy
      have HM := Lib.hid (made_yes n r1 r2 H.bd hy)
      rw [hat] at HM
      simp only at HM
      have hsh : (gl : Int) / 2 ^ p = ((gl / 2 ^ p : Nat) : Int) := by simp
      have hp64 : (p : Int) ≤ 64 := by omega
      have hp0 : (0 : Int) ≤ p := by omega
      have hp64' : p ≤ 64 := by omega
      have hW2 : ∀ w1, Below w.heap.size w w1 → Below w.heap.size w (w1.alloc (.cells #[.int .i64 p, .int .i64 lo, .int .i64 hi] 89)) := fun w1 hb1 => hb1.alloc hb1.size _
      by_cases hz : gl / 2 ^ p = 0
      · have hz0 : (((gl / 2 ^ p : Nat) : Int) == 0) = true := by simp [hz]
        have HS := Lib.hid (fun w1 hb1 => hself (w1.alloc (.cells #[.int .i64 p, .int .i64 lo, .int .i64 hi] 89)) (hW2 w1 hb1) (fun b => (congrFun (el_keep same1 hwf hdg.is (fun i h1 h2 => (none_above hgl).1 hz i (by omega) h2)) b).symm))
        have HC := Lib.hid (fun w1 (hb1 : Below w.heap.size w w1) => And.intro (B.xg.below (hW2 w1 hb1)).cell (Lies.new (H.below hb1) #[.int .i64 p, .int .i64 lo, .int .i64 hi] 89).cell)
        unfold WalkPost at HS ⊢
        generalize gl / 2 ^ p = q at *
        clear hself H B ih hdg hbu hL hN hc hcnt hwf hlen hW2 hat il ih' vl vh hne inn hel hvn hn hy
        go_enter Try.func68, Try.ntmps68
        go_wp2_with fail
        refine HM.out.mono ?_
        rintro e w1 ⟨rfl, hb1⟩
        obtain ⟨cg, cp⟩ := HC.out w1 hb1
        have HE := Lib.hid (HS.out w1 hb1)
        clear hb1 HM HS HC cd
        go_wp2_with fail
        go_ret
        exact HE.out
      · have hz0 : (((gl / 2 ^ p : Nat) : Int) == 0) = false := by simp; omega
        cases hmn : M n with
        | some v =>
          obtain ⟨a, rfl, ka1, ka2, ka3⟩ := kept_not (H.mem n v hmn)
          have HS := Lib.hid (fun w1 (hb1 : Below w.heap.size w w1) => (show WalkPost w D x m (fun i => gl.testBit i) J c s N cnt n d (.returned (.int .i64 a)) (w1.alloc (.cells #[.int .i64 p, .int .i64 lo, .int .i64 hi] 89)) from
            ⟨a, x, c, s, M, cnt, rfl, (H.below (hW2 w1 hb1)).more (by omega), by omega, by omega, Ext.refl H.sp _, ka1, ka2, ka3⟩))
          have HC := Lib.hid (fun w1 (hb1 : Below w.heap.size w w1) => And.intro (B.xg.below (hW2 w1 hb1)).cell (And.intro (Lies.new (H.below hb1) #[.int .i64 p, .int .i64 lo, .int .i64 hi] 89).cell (And.intro (B.xm.below (hW2 w1 hb1)).cell ((H.below (hW2 w1 hb1)).look_ok ⟨r1, r2⟩))))
          simp only [hmn, Option.getD_some, Option.isSome_some] at HC
          unfold WalkPost at HS ⊢
          generalize gl / 2 ^ p = q at *
          clear hself H B ih hdg hbu hL hN hc hcnt hwf hlen hW2 hat il ih' vl vh hne inn hel hvn hn hy hmn ka1 ka2 ka3
          go_enter Try.func68, Try.ntmps68
          go_wp2_with fail
          refine HM.out.mono ?_
          rintro e w1 ⟨rfl, hb1⟩
          obtain ⟨cg, cp, cm, lk⟩ := HC.out w1 hb1
          have HE := Lib.hid (HS.out w1 hb1)
          clear hb1 HM HS HC cd
          go_wp2_with fail
          go_ret
          exact HE.out
        | none =>
          obtain ⟨d', rfl⟩ : ∃ d', d = d' + 1 := ⟨d - 1, by have := hdg.var; omega⟩
          obtain ⟨q, hq⟩ : ∃ q, q + 1 + p = s.vars := ⟨s.vars - p - 1, by omega⟩
          have hqd : q ≤ d' := by have := hdg.var; omega
          have hcs := cost_succ d'
          have hps : 2 ^ (d' + 1) = 2 * 2 ^ d' := by rw [Nat.pow_succ]; omega
          have hpq : 2 ^ q ≤ 2 ^ d' := Nat.pow_le_pow_right (by omega) hqd
          have dgl : Dg s d' lo := ⟨il, by have := hdg.var; omega⟩
          have dgh : Dg s d' hi := ⟨ih', by have := hdg.var; omega⟩
          have hrl := dg_range (by omega) dgl
          have hrh := dg_range (by omega) dgh
          have HQ := Lib.hid (fun w1 (hb1 : Below w.heap.size w w1) => And.intro (H.below (hW2 w1 hb1)) (And.intro (B.next (H.below (hW2 w1 hb1))) (Lies.new (H.below hb1) #[.int .i64 p, .int .i64 lo, .int .i64 hi] 89)))
          have HI1 := Lib.hid (fun wy (hw : Wq w D x m (fun i => gl.testBit i) J wy x c s N cnt M) => ih d' (by omega) lo wy x c s N cnt M hw.start (B.next hw) hgl dgl (by omega) (by omega) (by omega) (by omega) (by omega))
          have HI2 := Lib.hid (fun wy wz x1 c1 s1 cnt1 M1 (hw : Wq w D x m (fun i => gl.testBit i) J wy x c s N cnt M) (hz : Wq wy D x m (fun i => gl.testBit i) J wz x1 c1 s1 (N + d' * 2 ^ d') cnt1 M1) (hx : Ext s s1 (d' * 2 ^ d')) (h1 : c1 + 2 ≤ c + 2 * 2 ^ d') (h2 : cnt1 + 1 ≤ cnt + 2 ^ d') => ih d' (by omega) hi wz x1 c1 s1 (N + d' * 2 ^ d') cnt1 M1 hz.start (B.next (hw.rebase hz)) (by rw [hx.vars]; exact hgl) (hx.dg dgh) (by rw [hx.bud]; have := hx.len; omega) (by have := hx.len; omega) (by omega) (by omega) (by omega))
          unfold WalkPost at HI1 HI2
          have HB := Lib.hid B
          have HWS := Lib.hid (fun wy (hw : Wq w D x m (fun i => gl.testBit i) J wy x c s N cnt M) b (hp : Lies wy D x m b #[.int .i64 p, .int .i64 lo, .int .i64 hi] 89) wz x1 c1 s1 N1 cnt1 M1 (hz : Wq wy D x m (fun i => gl.testBit i) J wz x1 c1 s1 N1 cnt1 M1) => And.intro (B.next (hw.rebase hz)).xw.cell (hp.next hz).cell)
          have hlk := fun w1 (hb1 : Below w.heap.size w w1) => (H.below (hW2 w1 hb1)).look_ok ⟨r1, r2⟩
          simp only [hmn, Option.getD_none, Option.isSome_none] at hlk
          have HLk := Lib.hid hlk
          have HGl := Lib.hid hgl
          have HEl := Lib.hid hel
          have HNum := Lib.hid (And.intro hq (And.intro hqd (And.intro hcs (And.intro hps (And.intro hpq (And.intro hbu (And.intro hL (And.intro hN (And.intro hc hcnt)))))))))
          have HDg := Lib.hid (And.intro dgl (And.intro dgh (And.intro vl (And.intro vh (And.intro hvn (And.intro inn hpK))))))
          have hand := bit_and gl p (by omega)
          generalize hqq : gl / 2 ^ p = qq at *
          clear hself ih hdg hbu hL hN hc hcnt hwf hlen hW2 hat il ih' vl vh hne inn hel hvn hn hy hmn hlk hcs hps hpq dgl dgh hgl H B hqq hz hpos hq hqd
          go_enter Try.func68, Try.ntmps68
          go_wp2_with fail
          refine HM.out.mono ?_
          rintro e w1 ⟨rfl, hb1⟩
          obtain ⟨H2, B2, L2⟩ := HQ.out w1 hb1
          have lk := HLk.out w1 hb1
          obtain ⟨bp, hbp⟩ : ∃ bp, w1.heap.size = bp := ⟨_, rfl⟩
          have cg := B2.xg.cell
          have cp := L2.cell
          have cm := B2.xm.cell
          have cw := B2.xw.cell
          have HH2 := Lib.hid (And.intro H2 L2)
          clear hb1 HM HLk HQ cd H2 B2 L2
          go_upto_region 7 with fail
          simp only [hbp] at HH2 cp ⊢
          generalize w1.alloc (.cells #[.int .i64 p, .int .i64 lo, .int .i64 hi] 89) = w2 at *
          clear lk cg cm hz0
          have HW2 := Lib.hid (HH2.out.1.below ((Below.refl w2.heap.size w2).drew))
          have HL2 := Lib.hid (HH2.out.2.below ((Below.refl w2.heap.size w2).drew))
          have HKx := Lib.hid (fun wz x1 c1 s1 N1 cnt1 M1 (hz : Wq w2.drew D x m (fun i => gl.testBit i) J wz x1 c1 s1 N1 cnt1 M1) => HWS.out w2.drew HW2.out bp HL2.out wz x1 c1 s1 N1 cnt1 M1 hz)
          have HJ1 := Lib.hid (HI1.out w2.drew HW2.out)
          have HJ2 := Lib.hid (fun wz x1 c1 s1 cnt1 M1 hz hx h1 h2 => HI2.out w2.drew wz x1 c1 s1 cnt1 M1 HW2.out hz hx h1 h2)
          have hst := HKx.out _ _ _ _ _ _ _ HW2.out.start
          clear HI1 HI2 HWS HH2 cw cp
          go_region_held3 (fun wy => (∀ o, wy.cell? ⟨bw, o, none⟩ = (#[.func (.func 68) #[] #[.pointer (some ⟨bd, 0, none⟩), .pointer (some ⟨bg, 0, none⟩), .pointer (some ⟨bm, 0, none⟩), .pointer (some ⟨bw, 0, none⟩), .pointer (some ⟨bj, 0, none⟩)]] : Array Value)[o]?) ∧ (∀ o, wy.cell? ⟨bp, o, none⟩ = (#[.int .i64 p, .int .i64 lo, .int .i64 hi] : Array Value)[o]?))
            (first | with_reducible exact hst | with_reducible assumption | exact HKx.out _ _ _ _ _ _ _ (by with_reducible assumption))
            (first | ((with_reducible refine (HJ1.out).mono ?_); rintro e w3 ⟨a0, x1, c1, s1, M1, cnt1, rfl, H3, u1, u2, u3, u4, u5, u6⟩)
                   | ((with_reducible refine (HJ2.out _ _ _ _ _ _ H3 u3 u1 u2).mono ?_); rintro e w4 ⟨a1, x2, c2, s2, M2, cnt2, rfl, H4, v1, v2, v3, v4, v5, v6⟩; have H5 := H3.rebase H4))
          rename_i hHeld
          have HP : Hid (∀ wz x1 c1 s1 N1 cnt1 M1, Wq w2.drew D x m (fun i => gl.testBit i) J wz x1 c1 s1 N1 cnt1 M1 → (∀ o, wz.cell? ⟨bm, o, none⟩ = (#[.map (some m)] : Array Value)[o]?) ∧ (∀ o, wz.cell? ⟨bj, o, none⟩ = (#[.func (.func 44) #[.pointer (some ⟨D, 0, none⟩)] #[]] : Array Value)[o]?) ∧ (∀ o, wz.cell? ⟨bd, o, none⟩ = (#[.pointer (some ⟨D, 0, none⟩)] : Array Value)[o]?) ∧ (∀ o, wz.cell? ⟨bp, o, none⟩ = (#[.int .i64 p, .int .i64 lo, .int .i64 hi] : Array Value)[o]?)) := Lib.hid (fun wz x1 c1 s1 N1 cnt1 M1 hz => by
            have hb := HB.out.next (HW2.out.rebase hz)
            exact ⟨hb.xm.cell, hb.xj.cell, hb.xd.cell, (HL2.out.next hz).cell⟩)
          have hb4 := HB.out.next (HW2.out.rebase H5)
          have cg := hb4.xg.cell
          have cp := hHeld.2
          have hx2 := u3.trans v3
          have hdr := (Below.refl w4.heap.size w4).drew
          have hst2 := HP.out _ _ _ _ _ _ _ (H5.below hdr)
          obtain ⟨hq, hqd, hcs, hps, hpq, hbu, hL, hN, hc, hcnt⟩ := HNum.out
          obtain ⟨dgl, dgh, vl, vh, hvn, inn, hpK⟩ := HDg.out
          have hl2 := hx2.len
          have iv0 : isB s2 a0 = true := v3.is u4
          have vv0 : (p : Int) + 1 ≤ varI s2 a0 := by rw [Ext.varI v3 u4]; omega
          have vv1 : (p : Int) + 1 ≤ varI s2 a1 := by rw [Ext.varI u3 dgh.is] at v5; omega
          have ee0 : ∀ b, ev s2.L b a0 = EL (fun i => gl.testBit i) J s.vars (fun b => ev s.L b lo) b := fun b => by rw [v3.ev u4, u6]
          have ee1 : ∀ b, ev s2.L b a1 = EL (fun i => gl.testBit i) J s.vars (fun b => ev s.L b hi) b := fun b => by rw [v6, el_ext u3 dgh.is]
          have hel := HEl.out (fun i => gl.testBit i) J same1
          have hr0 := is_range (s := s2) (by have := H5.bd.tk.tb.len; omega) iv0
          have hr1 := is_range (s := s2) (by have := H5.bd.tk.tb.len; omega) v4
          cases hbit : gl.testBit p with
          | true =>
            have HJc : Hid (Calls Try.prog 44 #[.pointer (some ⟨D, 0, none⟩), .slice (some ⟨w4.heap.size, 0, none⟩) 2 2] ((w4.alloc (.cells #[.int .i64 a0, .int .i64 a1] 3)).drew) (StepPost w D x m (fun i => gl.testBit i) J c s N cnt n (d' + 1) (fun wz => (∀ o, wz.cell? ⟨bm, o, none⟩ = (#[.map (some m)] : Array Value)[o]?) ∧ (∀ o, wz.cell? ⟨bj, o, none⟩ = (#[.func (.func 44) #[.pointer (some ⟨D, 0, none⟩)] #[]] : Array Value)[o]?) ∧ (∀ o, wz.cell? ⟨bd, o, none⟩ = (#[.pointer (some ⟨D, 0, none⟩)] : Array Value)[o]?) ∧ (∀ o, wz.cell? ⟨bp, o, none⟩ = (#[.int .i64 p, .int .i64 lo, .int .i64 hi] : Array Value)[o]?)))) := Lib.hid (by
              have H6 := H5.below (((Below.refl w4.heap.size w4).alloc (Nat.le_refl _) (.cells #[.int .i64 a0, .int .i64 a1] 3)).drew)
              have hOr := andn_ (w := (w4.alloc (.cells #[.int .i64 a0, .int .i64 a1] 3)).drew) q (some ⟨w4.heap.size, 0, none⟩) 2 [a0, a1] (by simp) (fun f hf => by
                simp only [List.mem_cons, List.not_mem_nil, or_false] at hf
                rcases hf with rfl | rfl
                · exact ⟨iv0, by rw [hx2.vars]; omega⟩
                · exact ⟨v4, by rw [hx2.vars]; omega⟩) ((rowI_new w4 [a0, a1] 3).below (Below.refl _ _).drew) (fun a ha => by
                injection ha with ha
                subst ha
                exact fun h => by have := H5.bd.foot h; exact absurd this (Nat.lt_irrefl _)) (fun h => by cases h) (by rw [hx2.vars]; omega) H5.sp (by rw [hx2.bud]; show s2.L.length + 2 ^ q * 2 ≤ _; omega) (by show s2.L.length + 2 ^ q * 2 ≤ _; omega) (by show _ + 2 ^ q * 2 ≤ _; omega) (by show c2 + 2 ≤ _; omega) H6.bd
              refine hOr.mono ?_
              rintro e w5 ⟨a3, s3, c3, rfl, hA, hc3, hU⟩
              obtain ⟨x3, H7⟩ := H6.up hU hA.ext
              have hx3 := hx2.trans hA.ext
              have hdg3 := hA.dg.var
              rw [hx3.vars] at hdg3
              exact finish HW2.out H7 ⟨r1, r2⟩ (by unfold maxLen; omega) hx3 inn hA.dg.is (by omega) (fun b => by
                rw [hA.ev b, hel b, hbit, if_pos rfl, ← ee0 b, ← ee1 b]
                unfold allF J
                simp) (by show _ + 2 ^ q * 2 ≤ _; omega) (by show _ + 2 ^ q * 2 ≤ _; omega) (by have h : c3 ≤ c2 + 2 := hc3; omega) (by omega) HP.out)
            simp only [hbit, if_true] at hand
            have hPA := HP.out _ _ _ _ _ _ _ (H5.below (((Below.refl w4.heap.size w4).alloc (Nat.le_refl _) (.cells #[.int .i64 a0, .int .i64 a1] 3)).drew))
            unfold StepPost at HJc
            clear H5 H3 H4 u1 u2 u3 u4 u5 u6 v1 v2 v3 v4 v5 v6 hb4 hdr hq hqd hcs hps hpq hbu hL hN hc hcnt dgl dgh vl vh hvn inn hpK hl2 iv0 vv0 vv1 ee0 ee1 hel hx2 HKx HJ1 HJ2 hHeld hst HB HEl HGl HNum HDg HP HW2 HL2 hrl hrh hr0 hr1
            go_wp2_with fail
            go_region_held3 (fun wz => (∀ o, wz.cell? ⟨bm, o, none⟩ = (#[.map (some m)] : Array Value)[o]?) ∧ (∀ o, wz.cell? ⟨bj, o, none⟩ = (#[.func (.func 44) #[.pointer (some ⟨D, 0, none⟩)] #[]] : Array Value)[o]?) ∧ (∀ o, wz.cell? ⟨bd, o, none⟩ = (#[.pointer (some ⟨D, 0, none⟩)] : Array Value)[o]?) ∧ (∀ o, wz.cell? ⟨bp, o, none⟩ = (#[.int .i64 p, .int .i64 lo, .int .i64 hi] : Array Value)[o]?))
              (first | with_reducible exact hst2 | with_reducible assumption | exact hPA)
              (first | ((with_reducible refine (HJc.out).mono ?_); rintro e w5 ⟨a3, w6, rfl, hP5, hr5, hP6, hl6, hpost⟩))
            rename_i hHeld
            have cm := hP6.1
            have HE := Lib.hid hpost
            clear hpost hHeld hP5 hP6 hr5 HJc hPA hand hst2 cg cp
            go_wp2_with fail
            go_ret
            exact HE.out
          | false =>
            have hqp : s2.vars - p = q + 1 := by rw [hx2.vars]; omega
            have hq2 : 2 ^ (q + 1) = 2 * 2 ^ q := by rw [Nat.pow_succ]; omega
            have HJc : Hid (Calls Try.prog 59 #[.pointer (some ⟨D, 0, none⟩), .int .i64 p, .int .i64 a0, .int .i64 a1] w4.drew (StepPost w D x m (fun i => gl.testBit i) J c s N cnt n (d' + 1) (fun wz => (∀ o, wz.cell? ⟨bm, o, none⟩ = (#[.map (some m)] : Array Value)[o]?) ∧ (∀ o, wz.cell? ⟨bj, o, none⟩ = (#[.func (.func 44) #[.pointer (some ⟨D, 0, none⟩)] #[]] : Array Value)[o]?) ∧ (∀ o, wz.cell? ⟨bd, o, none⟩ = (#[.pointer (some ⟨D, 0, none⟩)] : Array Value)[o]?) ∧ (∀ o, wz.cell? ⟨bp, o, none⟩ = (#[.int .i64 p, .int .i64 lo, .int .i64 hi] : Array Value)[o]?)))) := Lib.hid (by
              have H6 := H5.below hdr
              have hj1 : 1 ≤ 2 ^ d' := Nat.one_le_two_pow
              have hA := mk_ans H6.bd.tk.tb.wf H6.bd.inv H6.sp (p := p) (by rw [hx2.vars]; exact hpK) iv0 v4 vv0 vv1 (by rw [hqp, hq2, hx2.bud]; omega)
              refine (make_ p a0 a1 hr0.1 hr0.2 hr1.1 hr1.2 (by omega) H6.bd).mono ?_
              rintro e w5 ⟨rfl, hU⟩
              obtain ⟨x3, H7⟩ := H6.up hU hA.ext
              have hx3 := hx2.trans hA.ext
              have hdg3 := hA.dg.var
              rw [hx3.vars] at hdg3
              exact finish HW2.out H7 ⟨r1, r2⟩ (by unfold maxLen; omega) hx3 inn hA.dg.is (by omega) (fun b => by
                rw [hA.ev b, hel b, ← ee0 b, ← ee1 b]
                simp [hbit]) (by omega) (by rw [hqp, hq2]; omega) (by omega) (by omega) HP.out)
            simp only [hbit] at hand
            unfold StepPost at HJc
            clear H5 H3 H4 u1 u2 u3 u4 u5 u6 v1 v2 v3 v4 v5 v6 hb4 hdr hq hqd hcs hps hpq hbu hL hN hc hcnt dgl dgh vl vh hvn inn hpK hl2 iv0 vv0 vv1 ee0 ee1 hel hx2 HKx HJ1 HJ2 hHeld hst HB HEl HGl HNum HDg HP HW2 HL2 hrl hrh hr0 hr1 hqp hq2
            go_wp2_with fail
            go_region_held3 (fun wz => (∀ o, wz.cell? ⟨bm, o, none⟩ = (#[.map (some m)] : Array Value)[o]?) ∧ (∀ o, wz.cell? ⟨bj, o, none⟩ = (#[.func (.func 44) #[.pointer (some ⟨D, 0, none⟩)] #[]] : Array Value)[o]?) ∧ (∀ o, wz.cell? ⟨bd, o, none⟩ = (#[.pointer (some ⟨D, 0, none⟩)] : Array Value)[o]?) ∧ (∀ o, wz.cell? ⟨bp, o, none⟩ = (#[.int .i64 p, .int .i64 lo, .int .i64 hi] : Array Value)[o]?))
              (first | with_reducible exact hst2 | with_reducible assumption)
              (first | ((with_reducible refine (HJc.out).mono ?_); rintro e w5 ⟨a3, w6, rfl, hP5, hr5, hP6, hl6, hpost⟩))
            rename_i hHeld
            have cm := hP6.1
            have HE := Lib.hid hpost
            clear hpost hHeld hP5 hP6 hr5 HJc hand hst2 cg cp
            go_wp2_with fail
            go_ret
            exact HE.out
end Go.Proofs.Ytnkkmppmfjekeaa.QuF
