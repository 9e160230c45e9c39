/- Play: as many diagrams as one likes, made of one another, by contract. -/
import Derived.Test.YtnkkmppmfjekeaaItR
import Derived.Deep.RegionHeld3
namespace Go.Proofs.Ytnkkmppmfjekeaa.ItT
open Go.RowKit Go.Lib Go.Proofs Go.Proofs.Ytnkkmppmfjekeaa.CaA Go.Proofs.Ytnkkmppmfjekeaa.NdA Go.Proofs.Ytnkkmppmfjekeaa.NdB Go.Proofs.Ytnkkmppmfjekeaa.NdC Go.Proofs.Ytnkkmppmfjekeaa.NdE Go.Proofs.Ytnkkmppmfjekeaa.NdG Go.Proofs.Ytnkkmppmfjekeaa.NdI Go.Proofs.Ytnkkmppmfjekeaa.ItA Go.Proofs.Ytnkkmppmfjekeaa.ItB Go.Proofs.Ytnkkmppmfjekeaa.ItD Go.Proofs.Ytnkkmppmfjekeaa.ItF Go.Proofs.Ytnkkmppmfjekeaa.ItH Go.Proofs.Ytnkkmppmfjekeaa.ItI Go.Proofs.Ytnkkmppmfjekeaa.ItK Go.Proofs.Ytnkkmppmfjekeaa.ItL Go.Proofs.Ytnkkmppmfjekeaa.ItM Go.Proofs.Ytnkkmppmfjekeaa.ItN Go.Proofs.Ytnkkmppmfjekeaa.ItP Go.Proofs.Ytnkkmppmfjekeaa.ItQ Go.Proofs.Ytnkkmppmfjekeaa.ItR
set_option linter.unusedVariables false
set_option linter.unusedSimpArgs false
theorem wrap_idx2 (q k : Nat) (h : k ≤ 30) : wrap64 ((q : Int) % ((k : Int) + 2)) = ((q % (k + 2) : Nat) : Int) := by
  have := wrap_idx q (k + 2) (by omega) (by omega)
  rw [show ((k + 2 : Nat) : Int) = (k : Int) + 2 by omega] at this
  exact this
theorem play_fl {K b D : Nat} {x0 x : Bx} {w0 wr : World} {ops : List Op4} {k bl cl br cr : Nat} {lv : List Int} {gs : List Nat} {s : St} (H : PlayAt K b D x0 w0 ops k (.slice (some ⟨bl, 0, none⟩) (k + 2) cl) (.slice (some ⟨br, 0, none⟩) (k + 2) cr) wr lv gs x s) : True ∧ True ∧ ∀ (i : Nat) (g : Nat) {n : Nat}, wr.cell? ⟨br, 0, none⟩ = some (.slice (some ⟨g, 0, none⟩) n n) → 2 ^ K = n → ¬ FootD D x g := by
  refine ⟨trivial, trivial, fun i g n hg hn => ?_⟩
  obtain ⟨bl', cl', br', cr', e1, e2, -, -, -, -, h1, h2⟩ := play_rows H
  injection e2 with e2 _ e2c
  injection e2 with e2
  injection e2 with e2 _ _
  subst e2
  have h0 := h2 0 (by omega)
  rw [hg] at h0
  injection h0 with h0
  unfold slV at h0
  injection h0 with h0 _ _
  injection h0 with h0
  injection h0 with h0 _ _
  rw [h0]
  exact (H.rows 0 (by rw [H.gl]; omega)).2.2
theorem done_own {K b D : Nat} {x0 x x' : Bx} {w0 wr w2 : World} {ops : List Op4} {k : Nat} {vl vr : Value} {lv : List Int} {gs : List Nat} {s s' : St} {o : Op4} {a : Int} {g : Nat} (H : PlayAt K b D x0 w0 ops k vl vr wr lv gs x s) (hD : OpDone K D x w0 wr (upK K ops k) o k s a g w2 x' s') :
    w2.ownsRow w0.heap.size 3 1 vl (k + 2) (lv.map (Value.int .i64)) ∧ w2.ownsRow w0.heap.size 33 1 vr (k + 2) (gs.map (slV (2 ^ K))) ∧ w0.heap.size ≤ w2.heap.size :=
  ⟨own_block H.ol (fun g hg => hD.frm.block g (H.ol.lt g hg).2 (H.fl g hg)), own_block H.or (fun g hg => hD.frm.block g (H.or.lt g hg).2 (H.fr g hg)), Nat.le_trans H.frm.size hD.frm.size⟩
theorem done_own2 {K k b : Nat} {w2 w4 : World} {vl vr : Value} {lv : List Int} {gs : List Nat} {o : Obj} (ol : w2.ownsRow b 3 1 vl (k + 2) (lv.map (Value.int .i64))) (or : w2.ownsRow b 33 1 vr (k + 2) (gs.map (slV (2 ^ K)))) (g4 : (w2.alloc o).grownBy w4 vl.ownBlock) : w4.ownsRow b 33 1 vr (k + 2) (gs.map (slV (2 ^ K))) :=
  own_block or (fun g hg => by
    have hl := (or.lt g hg).2
    exact (grown_keep g4 (by simp; omega) (fun e => own_ne ol or (by decide) e hg)).trans (alloc_keep w2 o hl))
theorem new1 (w : World) (u : Value) (t : TypeId) : ∀ (j : Nat) (v : Value), [u][j]? = some v → (w.alloc (.cells #[u] t)).cell? ((⟨w.heap.size, 0, none⟩ : Addr).add j) = some v := fun j v hv => by
  have e : ((⟨w.heap.size, 0, none⟩ : Addr).add j) = ⟨w.heap.size, j, none⟩ := by unfold Addr.add; split <;> simp_all
  rw [e, Lib.cell_of_heap (heap_alloc_new w _)]
  simpa using hv
theorem opU_0 (K : Nat) (l : List Int) (M : List Nd) (o : Op4) (h : o.kind % 8 = 0) : opU K l M o = top K M (litF K (o.a % 8)) := by
  unfold opU
  rw [if_pos h]
theorem opR_0 (K : Nat) (R : List (Nat → Bool)) (o : Op4) (h : o.kind % 8 = 0) : opR K R o = litB K (o.a % 8) := by
  unfold opR
  rw [if_pos h]
theorem opC_0 (o : Op4) (h : o.kind % 8 = 0) : opC o = 1 := by
  unfold opC
  rw [h]
  rfl
theorem opU_1 (K : Nat) (l : List Int) (M : List Nd) (o : Op4) (h : o.kind % 8 = 1) : opU K l M o = top K M (iteF M (pick l o.a) (pick l o.b) (pick l o.c)) := by
  unfold opU
  rw [if_neg (by omega), if_pos h]
theorem opR_1 (K : Nat) (R : List (Nat → Bool)) (o : Op4) (h : o.kind % 8 = 1) : opR K R o = fun q => if pickR R o.a q then pickR R o.b q else pickR R o.c q := by
  unfold opR
  rw [if_neg (by omega), if_pos h]
theorem opC_1 (o : Op4) (h : o.kind % 8 = 1) : opC o = 1 := by
  unfold opC
  rw [h]
  rfl
theorem opU_2 (K : Nat) (l : List Int) (M : List Nd) (o : Op4) (h : o.kind % 8 = 2) : opU K l M o = top K M (iteF M (pick l o.a) 0 1) := by
  unfold opU
  rw [if_neg (by omega), if_neg (by omega), if_pos h]
theorem opR_2 (K : Nat) (R : List (Nat → Bool)) (o : Op4) (h : o.kind % 8 = 2) : opR K R o = fun q => if pickR R o.a q then false else true := by
  unfold opR
  rw [if_neg (by omega), if_neg (by omega), if_pos h]
theorem opC_2 (o : Op4) (h : o.kind % 8 = 2) : opC o = 1 := by
  unfold opC
  rw [h]
  rfl
theorem opU_3 (K : Nat) (l : List Int) (M : List Nd) (o : Op4) (h : o.kind % 8 = 3) : opU K l M o = (srtI K M [pick l o.a, pick l o.b, pick l o.c]).foldl (stA K) (1, M) := by
  unfold opU
  rw [if_neg (by omega), if_neg (by omega), if_neg (by omega), if_pos h]
theorem opR_3 (K : Nat) (R : List (Nat → Bool)) (o : Op4) (h : o.kind % 8 = 3) : opR K R o = fun q => if pickR R o.a q then (if pickR R o.b q then pickR R o.c q else false) else false := by
  unfold opR
  rw [if_neg (by omega), if_neg (by omega), if_neg (by omega), if_pos h]
theorem opC_3 (o : Op4) (h : o.kind % 8 = 3) : opC o = 3 := by
  unfold opC
  rw [h]
  rfl
theorem opU_4 (K : Nat) (l : List Int) (M : List Nd) (o : Op4) (h : o.kind % 8 = 4) : opU K l M o = (srtI K M [pick l o.a, pick l o.b, pick l o.c]).foldl (stO K) (0, M) := by
  unfold opU
  rw [if_neg (by omega), if_neg (by omega), if_neg (by omega), if_neg (by omega), if_pos h]
theorem opR_4 (K : Nat) (R : List (Nat → Bool)) (o : Op4) (h : o.kind % 8 = 4) : opR K R o = fun q => if pickR R o.a q then true else (if pickR R o.b q then true else pickR R o.c q) := by
  unfold opR
  rw [if_neg (by omega), if_neg (by omega), if_neg (by omega), if_neg (by omega), if_pos h]
theorem opC_4 (o : Op4) (h : o.kind % 8 = 4) : opC o = 3 := by
  unfold opC
  rw [h]
  rfl
theorem opU_5 (K : Nat) (l : List Int) (M : List Nd) (o : Op4) (h : o.kind % 8 = 5) : opU K l M o = top K M (xorF M (pick l o.a) (pick l o.b)) := by
  unfold opU
  rw [if_neg (by omega), if_neg (by omega), if_neg (by omega), if_neg (by omega), if_neg (by omega), if_pos h]
theorem opR_5 (K : Nat) (R : List (Nat → Bool)) (o : Op4) (h : o.kind % 8 = 5) : opR K R o = fun q => if pickR R o.a q then (if pickR R o.b q then false else true) else pickR R o.b q := by
  unfold opR
  rw [if_neg (by omega), if_neg (by omega), if_neg (by omega), if_neg (by omega), if_neg (by omega), if_pos h]
theorem opC_5 (o : Op4) (h : o.kind % 8 = 5) : opC o = 1 := by
  unfold opC
  rw [h]
  rfl
theorem opU_6 (K : Nat) (l : List Int) (M : List Nd) (o : Op4) (h : o.kind % 8 = 6) : opU K l M o = top K M (iteF M (pick l o.a) 0 (pick l o.b)) := by
  unfold opU
  rw [if_neg (by omega), if_neg (by omega), if_neg (by omega), if_neg (by omega), if_neg (by omega), if_neg (by omega), if_pos h]
theorem opR_6 (K : Nat) (R : List (Nat → Bool)) (o : Op4) (h : o.kind % 8 = 6) : opR K R o = fun q => if pickR R o.a q then false else pickR R o.b q := by
  unfold opR
  rw [if_neg (by omega), if_neg (by omega), if_neg (by omega), if_neg (by omega), if_neg (by omega), if_neg (by omega), if_pos h]
theorem opC_6 (o : Op4) (h : o.kind % 8 = 6) : opC o = 1 := by
  unfold opC
  rw [h]
  rfl
theorem opU_7 (K : Nat) (l : List Int) (M : List Nd) (o : Op4) (h : o.kind % 8 = 7) : opU K l M o = (1, M) := by
  unfold opU
  rw [if_neg (by omega), if_neg (by omega), if_neg (by omega), if_neg (by omega), if_neg (by omega), if_neg (by omega), if_neg (by omega)]
theorem opR_7 (K : Nat) (R : List (Nat → Bool)) (o : Op4) (h : o.kind % 8 = 7) : opR K R o = fun _ => true := by
  unfold opR
  rw [if_neg (by omega), if_neg (by omega), if_neg (by omega), if_neg (by omega), if_neg (by omega), if_neg (by omega), if_neg (by omega)]
theorem opC_7 (o : Op4) (h : o.kind % 8 = 7) : opC o = 0 := by
  unfold opC
  rw [h]
  rfl
set_option maxHeartbeats 16000000 in
set_option maxRecDepth 100000 in
theorem play_ (K b D : Nat) (hK : K ≤ 6) (x0 : Bx) (A : Option Addr) (ca : Nat) (ops : List Op4) (w : World) (hops : ∀ o ∈ ops, o.InR) (hA : OpsAt w A ops) (hAd : 0 < ops.length → ∀ a, A = some a → ¬ FootD D x0 a.block) (H : Bd w D x0 0 ⟨K, b, false, []⟩ 0) :
    Calls Try.prog 10 #[.pointer (some ⟨D, 0, none⟩), .int .i64 K, .slice A ops.length ca] w (PlayPost K b D x0 ops w) := by
  unfold PlayPost
  have HAll := Lib.hid (fun so w => ItN.all_ K hK so w)
  unfold FreshRow at HAll
  have HH := Lib.hid H
  have HOps := Lib.hid hops
  have HOA := Lib.hid (fun wr (hF : Frm (FootD D x0) w wr) => (show OpsAt wr A ops from fun h0 => by
    obtain ⟨b, o, rfl, hl, hcc⟩ := hA h0
    have e := hF.block b hl (hAd h0 _ rfl)
    exact ⟨b, o, rfl, Nat.lt_of_lt_of_le hl hF.size, fun i hi j u hu => (World.cell?_of_block (w := w) e).trans (hcc i hi j u hu)⟩))
  have HK := Lib.hid hK
  obtain ⟨n, hn⟩ : ∃ n, 2 ^ K = n := ⟨_, rfl⟩
  have HN := Lib.hid hn
  rw [hn] at HAll
  clear H hops hA hAd hK hn
  go_enter Try.func10, Try.ntmps10
  go_wp2_with fail
  refine (HAll.out _ _).mono ?_
  rintro e w2 ⟨g0, rfl, r0, b2, l0⟩
  have H0 := Lib.hid (And.intro r0 (And.intro b2 l0))
  clear r0 b2 l0
  go_wp2_with fail
  refine (HAll.out _ _).mono ?_
  rintro e w3 ⟨g1, rfl, r1, b3, l1⟩
  have hSt := play_start (ops := ops) (b := b) HK.out HH.out rfl (HN.out ▸ H0.out.1) H0.out.2.1 H0.out.2.2 (HN.out ▸ r1) b3 l1
  rw [HN.out] at hSt
  have HSt := Lib.hid hSt
  clear r1 b3 l1 hSt H0 HAll
  go_wp2_with fail
  go_loopw [9, 10, 11, 31] (fun vl vr cc i wr => ∃ (k : Nat) (lv : List Int) (gs : List Nat) (x : Bx) (s : St), k ≤ ops.length ∧ k ≤ 30 ∧ i = .int .i64 k ∧ cc = .int .i64 (upK K ops k).c ∧ Hid (PlayAt K b D x0 w ops k vl vr wr lv gs x s)) (fun _ _ _ i _ => ops.length - (intOf i).toNat)
  case atStart => exact ⟨0, _, _, _, _, by omega, by omega, rfl, rfl, HSt⟩
  case round =>
    obtain ⟨k, lv, gs, x, s, hk, hk30, rfl, rfl, hP⟩ := hrel
    clear HSt
    by_cases hlt : k < ops.length
    · have e1 : decide (k < ops.length) = true := decide_eq_true hlt
      have e1' : decide ((k : Int) < ops.length) = true := by simp; omega
      obtain ⟨bA, oA, rfl, hbA, hcA⟩ := HOA.out wr hP.out.frm (by omega)
      have a0 := hcA k hlt 0 _ rfl
      have a1 := hcA k hlt 1 _ rfl
      have a2 := hcA k hlt 2 _ rfl
      have a3 := hcA k hlt 3 _ rfl
      have q0 : (0 : Int) ≤ k := by omega
      have q1 : (k : Int) < ops.length := by omega
      have hoR := HOps.out ops[k] (List.getElem_mem hlt)
      obtain ⟨o, ho⟩ : ∃ o, ops[k] = o := ⟨_, rfl⟩
      have HO := Lib.hid ho
      rw [ho] at a0 a1 a2 a3 hoR
      obtain ⟨kd, oa, ob, oc⟩ := o
      simp only [Nat.add_zero] at a0 a1 a2 a3
      have hb6 := (Below.refl wr.heap.size wr).alloc (Nat.le_refl _) (.cells #[.int .u64 kd, .int .u64 oa, .int .u64 ob, .int .u64 oc] 74)
      have HP6 := Lib.hid (pl_below hP.out hb6)
      have hx6 := heap_alloc_new wr (.cells #[.int .u64 kd, .int .u64 oa, .int .u64 ob, .int .u64 oc] 74)
      by_cases h30 : k = 30
      · have e30 : ((k : Int) == 30) = true := by simp; omega
        have hmin : min 30 ops.length = k := by omega
        have HM := Lib.hid hmin
        have E30 := Lib.hid e30
        clear hcA hbA hb6 hx6 hP ho hoR hmin h30 e30 hk30
        go_upto_region 7 with fail
        have e30 := E30.out
        go_wp2_with fail
        go_ret3
        exact ⟨_, _, lv, gs, x, s, by rw [HM.out]; rfl, by rw [HM.out]; exact HP6.out⟩
      · have e30 : ((k : Int) == 30) = false := by simp; omega
        clear hcA hbA ho
        obtain ⟨bl, cl, br, cr, rfl, rfl, lbl, lbr, fbl, fbr, hcl, hcr⟩ := play_rows hP.out
        obtain ⟨la, ga, ca1, ca2, ia, sa, ra, wa, fa⟩ := play_pick hk HK.out hk30 HP6.out oa
        obtain ⟨lb, gb, cb1, cb2, ib, sb, rb, wb, fb⟩ := play_pick hk HK.out hk30 HP6.out ob
        obtain ⟨lc, gc, cc1, cc2, ic, sc, rc, wc, fc⟩ := play_pick hk HK.out hk30 HP6.out oc
        obtain ⟨gn, gy, y0, y1, rn, ry, wy, fy⟩ := play_01 hk HP6.out
        rw [HN.out] at ra rb rc rn ry ca2 cb2 cc2 y0 y1
        unfold slV at ca2 cb2 cc2 y0 y1
        have hx := fun j => Lib.cell_of_heap hx6 j
        have fal := play_fl HP6.out
        have HF6 := Lib.hid (show FW K b D n x0 w wr (wr.alloc (.cells #[.int .u64 kd, .int .u64 oa, .int .u64 ob, .int .u64 oc] 74)) ops k bl cl br cr lv gs x s ⟨kd, oa, ob, oc⟩ la lb lc ga gb gc gn gy from ⟨HP6.out, hb6, hx, ca1, ca2, cb1, cb2, cc1, cc2, y0, y1, ra, rb, rc, rn, ry, fa, fb, fc, fal.2.2 0 gn y0 HN.out, fy, wy, fbl, fbr, Nat.lt_of_lt_of_le lbl hb6.size, Nat.lt_of_lt_of_le lbr hb6.size, ia, ib, ic, sa, sb, sc⟩)
        have hpl := pl_small hk HK.out hk30 HP6.out
        have hvars := (pl_L HP6.out).1
        obtain ⟨cc, hcc⟩ : ∃ cc, (upK K ops k).c = cc := ⟨_, rfl⟩
        have HCC := Lib.hid hcc
        rw [hcc] at hpl
        simp only [hcc]
        have HPL := Lib.hid hpl
        have hc90 := hpl.2
        have HV := Lib.hid hvars
        have HIa := Lib.hid (wrap_idx2 oa k (by omega))
        have HIb := Lib.hid (wrap_idx2 ob k (by omega))
        have HIc := Lib.hid (wrap_idx2 oc k (by omega))
        have hk8 : (kd : Int) % 8 = 0 ∨ (kd : Int) % 8 = 1 ∨ (kd : Int) % 8 = 2 ∨ (kd : Int) % 8 = 3 ∨ (kd : Int) % 8 = 4 ∨ (kd : Int) % 8 = 5 ∨ (kd : Int) % 8 = 6 ∨ (kd : Int) % 8 = 7 := by omega
        have HK8 := Lib.hid hk8
        have HK30 := Lib.hid (show k < 30 by omega)
        have HLT := Lib.hid hlt
        clear hk8 hP hcl hcr hx6 ca1 ca2 cb1 cb2 cc1 cc2 ra rb rc rn ry fa fb fc fy wy fbl fbr ia ib ic sa sb sc hpl hvars hcc fal lbl lbr hb6 HP6 hoR
        go_wp2_with fail
        go_quiet (fail)
        have HF7 := Lib.hid (HF6.out.drewN nq)
        clear hx y0 y1 HF6
        generalize World.drewN (wr.alloc (.cells #[.int .u64 kd, .int .u64 oa, .int .u64 ob, .int .u64 oc] 74)) nq = w7 at *
        have y0 := HF7.out.y0
        have y1 := HF7.out.y1
        go_wp2_with fail
        go_quiet (fail)
        have HF8 := Lib.hid (HF7.out.drewN nq)
        clear y0 y1 HF7
        generalize World.drewN w7 nq = w8 at *
        have ox := HF8.out.ox
        go_upto_region 13 with fail
        rw [HIa.out, HIb.out, HIc.out]
        have hja : oa % (k + 2) < k + 2 := Nat.mod_lt _ (by omega)
        have hjb : ob % (k + 2) < k + 2 := Nat.mod_lt _ (by omega)
        have hjc : oc % (k + 2) < k + 2 := Nat.mod_lt _ (by omega)
        have a1 := HF8.out.a1
        have a2 := HF8.out.a2
        have b1 := HF8.out.b1
        have b2 := HF8.out.b2
        have c1 := HF8.out.c1
        have c2 := HF8.out.c2
        simp only at a1 a2 b1 b2 c1 c2
        clear HIa HIb HIc
        generalize oa % (k + 2) = ja at *
        generalize ob % (k + 2) = jb at *
        generalize oc % (k + 2) = jc at *
        have ja0 : (0 : Int) ≤ ja := by omega
        have ja1 : (ja : Int) < (k : Int) + 2 := by omega
        have jb0 : (0 : Int) ≤ jb := by omega
        have jb1 : (jb : Int) < (k : Int) + 2 := by omega
        have jc0 : (0 : Int) ≤ jc := by omega
        have jc1 : (jc : Int) < (k : Int) + 2 := by omega
        have hll := HF8.out.ll
        have hlr := HF8.out.lr
        have HZ : Hid (∀ w', Frm (FootD D x) w8 w' → Frm (FootD D x) w8 w' ∧ w'.cell? ⟨bl, ja, none⟩ = some (.int .i64 la) ∧ w'.cell? ⟨bl, jb, none⟩ = some (.int .i64 lb) ∧ w'.cell? ⟨bl, jc, none⟩ = some (.int .i64 lc) ∧ w'.cell? ⟨br, ja, none⟩ = some (.slice (some ⟨ga, 0, none⟩) n n) ∧ w'.cell? ⟨br, jb, none⟩ = some (.slice (some ⟨gb, 0, none⟩) n n) ∧ w'.cell? ⟨br, jc, none⟩ = some (.slice (some ⟨gc, 0, none⟩) n n)) := Lib.hid (fun w' hf => by
          have e1 := hf.block bl hll HF8.out.fl
          have e2 := hf.block br hlr HF8.out.fr
          exact ⟨hf, (World.cell?_of_block (w := w8) e1).trans a1, (World.cell?_of_block (w := w8) e1).trans b1, (World.cell?_of_block (w := w8) e1).trans c1, (World.cell?_of_block (w := w8) e2).trans a2, (World.cell?_of_block (w := w8) e2).trans b2, (World.cell?_of_block (w := w8) e2).trans c2⟩)
        have hn64 : n ≤ 64 := by rw [← HN.out]; exact pow6 HK.out
        have HIte := Lib.hid (fun w' (f1 f2 f3 : Nat) (G1 G2 G3 : Nat → Bool) (r1 : RB w' f1 n G1) (r2 : RB w' f2 n G2) (r3 : RB w' f3 n G3) => ItN.ite_ n hn64 f1 f2 f3 n n n G1 G2 G3 w' r1 r2 r3)
        unfold FreshRow at HIte
        have HRA := Lib.hid (fun w' (hf : Frm (FootD D x) w8 w') => HF8.out.ra.keep (hf.block _ HF8.out.ra.lt HF8.out.fa))
        have HRB := Lib.hid (fun w' (hf : Frm (FootD D x) w8 w') => HF8.out.rb.keep (hf.block _ HF8.out.rb.lt HF8.out.fb))
        have HRC := Lib.hid (fun w' (hf : Frm (FootD D x) w8 w') => HF8.out.rc.keep (hf.block _ HF8.out.rc.lt HF8.out.fc))
        have HRN := Lib.hid (fun w' (hf : Frm (FootD D x) w8 w') => HF8.out.rn.keep (hf.block _ HF8.out.rn.lt HF8.out.fn))
        have HRY := Lib.hid (fun w' (hf : Frm (FootD D x) w8 w') => HF8.out.ry.keep (hf.block _ HF8.out.ry.lt HF8.out.fy))
        have HL : Hid (s.L.length + 64 * 3 + 64 ≤ 119900) := Lib.hid (by have := HPL.out.1; omega)
        have HNN : Hid (192 * k + 64 * 3 + 64 ≤ 900000) := Lib.hid (by have := HK30.out; omega)
        have HVV : Hid (s.vars ≤ 6) := Lib.hid (by rw [HV.out]; exact HK.out)
        have HC3 : Hid ((upK K ops k).c + 3 ≤ 1000000) := Lib.hid (by rw [HCC.out]; omega)
        clear hll hlr hn64
        rcases HK8.out with h8 | h8 | h8 | h8 | h8 | h8 | h8 | h8
        · as_aux_lemma =>
            have h8n : kd % 8 = 0 := by omega
            have HUR := Lib.hid (And.intro (opU_0 K (upK K ops k).l (upK K ops k).M ⟨kd, oa, ob, oc⟩ h8n) (And.intro (opR_0 K (upK K ops k).R ⟨kd, oa, ob, oc⟩ h8n) (opC_0 ⟨kd, oa, ob, oc⟩ h8n)))
            have hop := ItK.lit_ (oa % 8) (by have := HL.out; omega) (by have := HNN.out; omega) HC3.out HF8.out.pl.bd
            have hrf := fun w' => ItN.lit_ K (oa % 8) HK.out (Nat.mod_lt _ (by omega)) w'
            have e8 : (((oa % 8 : Nat) : Int)) = (oa : Int) % 8 := by omega
            rw [e8] at hop hrf
            unfold OpPost at hop
            unfold FreshRow at hrf
            rw [HN.out] at hrf
            have HOp := Lib.hid hop
            have HRf := Lib.hid hrf
            clear hop hrf h8n
            go_wp2_with fail
            refine HOp.out.mono ?_
            rintro e w1 ⟨a, s', rfl, hR, hU⟩
            have HQ := Lib.hid (And.intro hR hU)
            clear hR hU HOp
            go_wp2_with fail
            refine (HRf.out _).mono ?_
            rintro e w2 ⟨g, rfl, hRB, hb2, hg⟩
            obtain ⟨x', hD⟩ := done_fresh (o := ⟨kd, oa, ob, oc⟩) HF8.out.pl (Below.refl _ w8) (by rw [HUR.out.2.2]; exact up_more HQ.out.2 (by omega)) hb2 (by rw [HN.out]; exact hRB) hg HUR.out.2.1.symm HQ.out.1 (fun hs => by
              rw [HUR.out.1, ← (pl_L HF8.out.pl).2 hs, ← (pl_L HF8.out.pl).1])
            clear hRB hb2 hg HRf HQ
            have HD := Lib.hid hD
            have HG := Lib.hid (done_own HF8.out.pl hD)
            have hcn : Hid ((upK K ops (k + 1)).c = cc + 1) := Lib.hid (by rw [upK_succ HLT.out, HO.out]; show (upK K ops k).c + opC ⟨kd, oa, ob, oc⟩ = _; rw [HCC.out, HUR.out.2.2])
            obtain ⟨i0, hi, hz0, hz1, hz2⟩ := info_parts ItR.infoInt
            obtain ⟨j0, hj, jz0, jz1, jz2⟩ := info_parts ItR.infoSl
            have hol := HG.out.1
            have hk30' := HK30.out
            have hwz := HG.out.2.2
            clear hD HZ HIte HRA HRB HRC HRN HRY HL HNN HVV HC3 a1 a2 b1 b2 c1 c2 ox HK8
            go_wp2_with (at_builtin; refine wpList_append_own_at _ rfl _ _ 24 rfl w.heap.size 3 i0 (.int .i64 0) 1 8 Try.underlying24 hi hz0 hz1 hz2 rfl (by decide) _ _ _ rfl (hol.alloc _) ⟨w2.heap.size, 0, none⟩ 1 1 [.int .i64 a] rfl rfl ?c1 ?c2 ?c3 ?c4 ?c5 ?_)
            case c1 => exact new1 _ _ _
            case c2 => intro u hu; simp at hu; subst hu; rfl
            case c3 => unfold maxLen; omega
            case c4 => omega
            case c5 => simp; omega
            intro vl' w4 hown4 hg4 _ he4
            have h4 := done_own2 hol HG.out.2.1 hg4
            have HA4 := Lib.hid (And.intro hown4 (And.intro hg4 he4))
            have hz4 : w.heap.size ≤ w4.heap.size := by have := hg4.size; simp at this; omega
            clear hown4 hg4 he4 hol
            go_wp2_with (at_builtin; refine wpList_append_own_at _ rfl _ _ 30 rfl w.heap.size 33 j0 (.slice none 0 0) 1 24 Try.underlying30 hj jz0 jz1 jz2 rfl (by decide) _ _ _ rfl (h4.alloc _) ⟨w4.heap.size, 0, none⟩ 1 1 [.slice (some ⟨g, 0, none⟩) n n] rfl rfl ?c1 ?c2 ?c3 ?c4 ?c5 ?_)
            case c1 => exact new1 _ _ _
            case c2 => intro u hu; simp at hu; subst hu; rfl
            case c3 => unfold maxLen; omega
            case c4 => omega
            case c5 => simp; omega
            intro vr' w6 hown6 hg6 _ he6
            have HE := Lib.hid (play_next HLT.out HK.out HK30.out HF8.out.pl (HO.out ▸ HD.out) HA4.out.1 HA4.out.2.1 (by rw [World.size_alloc]; exact HA4.out.2.2) (by have h := hown6; rw [← HN.out] at h; exact h) hg6 (by rw [World.size_alloc]; exact he6))
            clear hown6 hg6 he6 HA4 h4 HF8 HD HG hi hz0 hz1 hz2 hj jz0 jz1 jz2
            go_wp2_with fail
            go_roundw
            case rel => exact ⟨k + 1, _, _, x', s', by omega, by omega, by go_num, by rw [hcn.out]; rfl, Lib.hid HE.out⟩
            case measure => simp [intOf]; omega
        · as_aux_lemma =>
            have h8n : kd % 8 = 1 := by omega
            have HUR := Lib.hid (And.intro (opU_1 K (upK K ops k).l (upK K ops k).M ⟨kd, oa, ob, oc⟩ h8n) (And.intro (opR_1 K (upK K ops k).R ⟨kd, oa, ob, oc⟩ h8n) (opC_1 ⟨kd, oa, ob, oc⟩ h8n)))
            have hst := HZ.out _ (Frm.of_below (F := FootD D x) (Below.refl w8.heap.size w8).drew)
            have hop := ItK.ite_ la lb lc HF8.out.ia HF8.out.ib HF8.out.ic HVV.out (by have := HL.out; omega) (by have := HNN.out; omega) HC3.out HF8.out.drew.pl.bd
            unfold OpPost at hop
            have HOp := Lib.hid hop
            clear hop h8n
            go_wp2_with fail
            go_region_held3 (fun w' => Frm (FootD D x) w8 w' ∧ w'.cell? ⟨bl, ja, none⟩ = some (.int .i64 la) ∧ w'.cell? ⟨bl, jb, none⟩ = some (.int .i64 lb) ∧ w'.cell? ⟨bl, jc, none⟩ = some (.int .i64 lc) ∧ w'.cell? ⟨br, ja, none⟩ = some (.slice (some ⟨ga, 0, none⟩) n n) ∧ w'.cell? ⟨br, jb, none⟩ = some (.slice (some ⟨gb, 0, none⟩) n n) ∧ w'.cell? ⟨br, jc, none⟩ = some (.slice (some ⟨gc, 0, none⟩) n n))
              (first | with_reducible exact hst | with_reducible assumption | exact HZ.out _ (frm_up (by apply And.left; with_reducible assumption) (by with_reducible assumption)) | exact HZ.out _ (frm_below (by apply And.left; with_reducible assumption) (by with_reducible assumption)) | exact HZ.out _ (frm_alloc (by apply And.left; with_reducible assumption) _))
              (first | ((with_reducible refine HOp.out.mono ?_); rintro e w1 ⟨a, s', rfl, hR, hU⟩) | (go_at_call 15; refine (HIte.out _ _ _ _ _ _ _ (HRA.out _ (by apply And.left; with_reducible assumption)) (HRB.out _ (by apply And.left; with_reducible assumption)) (HRC.out _ (by apply And.left; with_reducible assumption))).mono ?_; rintro e w2 ⟨g, rfl, hRB, hb2, hg⟩))
            rename_i hHeld
            obtain ⟨x', hD⟩ := done_fresh (o := ⟨kd, oa, ob, oc⟩) HF8.out.pl ((Below.refl w8.heap.size w8).drew) (by rw [HUR.out.2.2]; exact up_more hU (by first | omega | (simp; done))) hb2 (by rw [HN.out]; exact hRB) hg HUR.out.2.1.symm hR (fun hs => by
              rw [HUR.out.1]
              have ea := HF8.out.sa hs
              have eb := HF8.out.sb hs
              have ec := HF8.out.sc hs
              show top s.vars s.L _ = _
              rw [(pl_L HF8.out.pl).1, (pl_L HF8.out.pl).2 hs, ea, eb, ec])
            clear hHeld hst HOp hU hR hRB hb2 hg
            have HD := Lib.hid hD
            have HG := Lib.hid (done_own HF8.out.pl hD)
            have hcn : Hid ((upK K ops (k + 1)).c = cc + 1) := Lib.hid (by rw [upK_succ HLT.out, HO.out]; show (upK K ops k).c + opC ⟨kd, oa, ob, oc⟩ = _; rw [HCC.out, HUR.out.2.2])
            obtain ⟨i0, hi, hz0, hz1, hz2⟩ := info_parts ItR.infoInt
            obtain ⟨j0, hj, jz0, jz1, jz2⟩ := info_parts ItR.infoSl
            have hol := HG.out.1
            have hk30' := HK30.out
            have hwz := HG.out.2.2
            clear hD HZ HIte HRA HRB HRC HRN HRY HL HNN HVV HC3 a1 a2 b1 b2 c1 c2 ox HK8
            go_wp2_with (at_builtin; refine wpList_append_own_at _ rfl _ _ 24 rfl w.heap.size 3 i0 (.int .i64 0) 1 8 Try.underlying24 hi hz0 hz1 hz2 rfl (by decide) _ _ _ rfl (hol.alloc _) ⟨w2.heap.size, 0, none⟩ 1 1 [.int .i64 a] rfl rfl ?c1 ?c2 ?c3 ?c4 ?c5 ?_)
            case c1 => exact new1 _ _ _
            case c2 => intro u hu; simp at hu; subst hu; rfl
            case c3 => unfold maxLen; omega
            case c4 => omega
            case c5 => simp; omega
            intro vl' w4 hown4 hg4 _ he4
            have h4 := done_own2 hol HG.out.2.1 hg4
            have HA4 := Lib.hid (And.intro hown4 (And.intro hg4 he4))
            have hz4 : w.heap.size ≤ w4.heap.size := by have := hg4.size; simp at this; omega
            clear hown4 hg4 he4 hol
            go_wp2_with (at_builtin; refine wpList_append_own_at _ rfl _ _ 30 rfl w.heap.size 33 j0 (.slice none 0 0) 1 24 Try.underlying30 hj jz0 jz1 jz2 rfl (by decide) _ _ _ rfl (h4.alloc _) ⟨w4.heap.size, 0, none⟩ 1 1 [.slice (some ⟨g, 0, none⟩) n n] rfl rfl ?c1 ?c2 ?c3 ?c4 ?c5 ?_)
            case c1 => exact new1 _ _ _
            case c2 => intro u hu; simp at hu; subst hu; rfl
            case c3 => unfold maxLen; omega
            case c4 => omega
            case c5 => simp; omega
            intro vr' w6 hown6 hg6 _ he6
            have HE := Lib.hid (play_next HLT.out HK.out HK30.out HF8.out.pl (HO.out ▸ HD.out) HA4.out.1 HA4.out.2.1 (by rw [World.size_alloc]; exact HA4.out.2.2) (by have h := hown6; rw [← HN.out] at h; exact h) hg6 (by rw [World.size_alloc]; exact he6))
            clear hown6 hg6 he6 HA4 h4 HF8 HD HG hi hz0 hz1 hz2 hj jz0 jz1 jz2
            go_wp2_with fail
            go_roundw
            case rel => exact ⟨k + 1, _, _, x', s', by omega, by omega, by go_num, by rw [hcn.out]; rfl, Lib.hid HE.out⟩
            case measure => simp [intOf]; omega
        · as_aux_lemma =>
            have h8n : kd % 8 = 2 := by omega
            have HUR := Lib.hid (And.intro (opU_2 K (upK K ops k).l (upK K ops k).M ⟨kd, oa, ob, oc⟩ h8n) (And.intro (opR_2 K (upK K ops k).R ⟨kd, oa, ob, oc⟩ h8n) (opC_2 ⟨kd, oa, ob, oc⟩ h8n)))
            have hst := HZ.out _ (Frm.of_below (F := FootD D x) (Below.refl w8.heap.size w8).drew)
            have hop := ItK.not_ la HF8.out.ia HVV.out (by have := HL.out; omega) (by have := HNN.out; omega) HC3.out HF8.out.drew.pl.bd
            unfold OpPost at hop
            have HOp := Lib.hid hop
            clear hop h8n
            go_wp2_with fail
            go_region_held3 (fun w' => Frm (FootD D x) w8 w' ∧ w'.cell? ⟨bl, ja, none⟩ = some (.int .i64 la) ∧ w'.cell? ⟨bl, jb, none⟩ = some (.int .i64 lb) ∧ w'.cell? ⟨bl, jc, none⟩ = some (.int .i64 lc) ∧ w'.cell? ⟨br, ja, none⟩ = some (.slice (some ⟨ga, 0, none⟩) n n) ∧ w'.cell? ⟨br, jb, none⟩ = some (.slice (some ⟨gb, 0, none⟩) n n) ∧ w'.cell? ⟨br, jc, none⟩ = some (.slice (some ⟨gc, 0, none⟩) n n))
              (first | with_reducible exact hst | with_reducible assumption | exact HZ.out _ (frm_up (by apply And.left; with_reducible assumption) (by with_reducible assumption)) | exact HZ.out _ (frm_below (by apply And.left; with_reducible assumption) (by with_reducible assumption)) | exact HZ.out _ (frm_alloc (by apply And.left; with_reducible assumption) _))
              (first | ((with_reducible refine HOp.out.mono ?_); rintro e w1 ⟨a, s', rfl, hR, hU⟩) | (go_at_call 15; refine (HIte.out _ _ _ _ _ _ _ (HRA.out _ (by apply And.left; with_reducible assumption)) (HRN.out _ (by apply And.left; with_reducible assumption)) (HRY.out _ (by apply And.left; with_reducible assumption))).mono ?_; rintro e w2 ⟨g, rfl, hRB, hb2, hg⟩))
            rename_i hHeld
            obtain ⟨x', hD⟩ := done_fresh (o := ⟨kd, oa, ob, oc⟩) HF8.out.pl ((Below.refl w8.heap.size w8).drew) (by rw [HUR.out.2.2]; exact up_more hU (by first | omega | (simp; done))) hb2 (by rw [HN.out]; exact hRB) hg HUR.out.2.1.symm hR (fun hs => by
              rw [HUR.out.1]
              have ea := HF8.out.sa hs
              show top s.vars s.L _ = _
              rw [(pl_L HF8.out.pl).1, (pl_L HF8.out.pl).2 hs, ea])
            clear hHeld hst HOp hU hR hRB hb2 hg
            have HD := Lib.hid hD
            have HG := Lib.hid (done_own HF8.out.pl hD)
            have hcn : Hid ((upK K ops (k + 1)).c = cc + 1) := Lib.hid (by rw [upK_succ HLT.out, HO.out]; show (upK K ops k).c + opC ⟨kd, oa, ob, oc⟩ = _; rw [HCC.out, HUR.out.2.2])
            obtain ⟨i0, hi, hz0, hz1, hz2⟩ := info_parts ItR.infoInt
            obtain ⟨j0, hj, jz0, jz1, jz2⟩ := info_parts ItR.infoSl
            have hol := HG.out.1
            have hk30' := HK30.out
            have hwz := HG.out.2.2
            clear hD HZ HIte HRA HRB HRC HRN HRY HL HNN HVV HC3 a1 a2 b1 b2 c1 c2 ox HK8
            go_wp2_with (at_builtin; refine wpList_append_own_at _ rfl _ _ 24 rfl w.heap.size 3 i0 (.int .i64 0) 1 8 Try.underlying24 hi hz0 hz1 hz2 rfl (by decide) _ _ _ rfl (hol.alloc _) ⟨w2.heap.size, 0, none⟩ 1 1 [.int .i64 a] rfl rfl ?c1 ?c2 ?c3 ?c4 ?c5 ?_)
            case c1 => exact new1 _ _ _
            case c2 => intro u hu; simp at hu; subst hu; rfl
            case c3 => unfold maxLen; omega
            case c4 => omega
            case c5 => simp; omega
            intro vl' w4 hown4 hg4 _ he4
            have h4 := done_own2 hol HG.out.2.1 hg4
            have HA4 := Lib.hid (And.intro hown4 (And.intro hg4 he4))
            have hz4 : w.heap.size ≤ w4.heap.size := by have := hg4.size; simp at this; omega
            clear hown4 hg4 he4 hol
            go_wp2_with (at_builtin; refine wpList_append_own_at _ rfl _ _ 30 rfl w.heap.size 33 j0 (.slice none 0 0) 1 24 Try.underlying30 hj jz0 jz1 jz2 rfl (by decide) _ _ _ rfl (h4.alloc _) ⟨w4.heap.size, 0, none⟩ 1 1 [.slice (some ⟨g, 0, none⟩) n n] rfl rfl ?c1 ?c2 ?c3 ?c4 ?c5 ?_)
            case c1 => exact new1 _ _ _
            case c2 => intro u hu; simp at hu; subst hu; rfl
            case c3 => unfold maxLen; omega
            case c4 => omega
            case c5 => simp; omega
            intro vr' w6 hown6 hg6 _ he6
            have HE := Lib.hid (play_next HLT.out HK.out HK30.out HF8.out.pl (HO.out ▸ HD.out) HA4.out.1 HA4.out.2.1 (by rw [World.size_alloc]; exact HA4.out.2.2) (by have h := hown6; rw [← HN.out] at h; exact h) hg6 (by rw [World.size_alloc]; exact he6))
            clear hown6 hg6 he6 HA4 h4 HF8 HD HG hi hz0 hz1 hz2 hj jz0 jz1 jz2
            go_wp2_with fail
            go_roundw
            case rel => exact ⟨k + 1, _, _, x', s', by omega, by omega, by go_num, by rw [hcn.out]; rfl, Lib.hid HE.out⟩
            case measure => simp [intOf]; omega
        · as_aux_lemma =>
            have h8n : kd % 8 = 3 := by omega
            have HUR := Lib.hid (And.intro (opU_3 K (upK K ops k).l (upK K ops k).M ⟨kd, oa, ob, oc⟩ h8n) (And.intro (opR_3 K (upK K ops k).R ⟨kd, oa, ob, oc⟩ h8n) (opC_3 ⟨kd, oa, ob, oc⟩ h8n)))
            have hst := HZ.out _ (Frm.of_below (F := FootD D x) (Below.refl w8.heap.size w8).drew)
            have hba := (Below.refl w8.drew.heap.size w8.drew).alloc (Nat.le_refl _) (.cells #[.int .i64 la, .int .i64 lb, .int .i64 lc] 3)
            have hall : ∀ f ∈ [la, lb, lc], isB s f = true := fun f hf => by
              simp only [List.mem_cons, List.not_mem_nil, or_false] at hf
              rcases hf with rfl | rfl | rfl
              · exact HF8.out.ia
              · exact HF8.out.ib
              · exact HF8.out.ic
            have HFa := Lib.hid (frm_alloc (Frm.of_below (F := FootD D x) (Below.refl w8.heap.size w8).drew) (.cells #[.int .i64 la, .int .i64 lb, .int .i64 lc] 3))
            have hop := ItM.and_ (some ⟨w8.drew.heap.size, 0, none⟩) 3 [la, lb, lc] (by simp) hall (rowI_new w8.drew [la, lb, lc] 3) (fun a ha hf => by
              injection ha with ha
              subst ha
              have := HF8.out.drew.pl.bd.foot hf
              simp at this) (fun h => by cases h) HVV.out HL.out HNN.out HC3.out (HF8.out.drew.pl.bd.below hba)
            unfold RowPost at hop
            have HOp := Lib.hid hop
            clear hop h8n hall
            go_wp2_with fail
            go_region_held3 (fun w' => Frm (FootD D x) w8 w' ∧ w'.cell? ⟨bl, ja, none⟩ = some (.int .i64 la) ∧ w'.cell? ⟨bl, jb, none⟩ = some (.int .i64 lb) ∧ w'.cell? ⟨bl, jc, none⟩ = some (.int .i64 lc) ∧ w'.cell? ⟨br, ja, none⟩ = some (.slice (some ⟨ga, 0, none⟩) n n) ∧ w'.cell? ⟨br, jb, none⟩ = some (.slice (some ⟨gb, 0, none⟩) n n) ∧ w'.cell? ⟨br, jc, none⟩ = some (.slice (some ⟨gc, 0, none⟩) n n))
              (first | with_reducible exact hst | with_reducible assumption | exact HZ.out _ (frm_up (by apply And.left; with_reducible assumption) (by with_reducible assumption)) | exact HZ.out _ (frm_below (by apply And.left; with_reducible assumption) (by with_reducible assumption)) | exact HZ.out _ (frm_alloc (by apply And.left; with_reducible assumption) _) | exact HZ.out _ (frm_up HFa.out (by with_reducible assumption)) | exact HZ.out _ (frm_up HFa.out (by assumption)))
              (first | ((with_reducible refine HOp.out.mono ?_); rintro e w1 ⟨a, s', rfl, hR, hU⟩) | (go_at_call 44; refine HOp.out.mono ?_; rintro e w1 ⟨a, s', rfl, hR, hU⟩) | (go_at_call 15; refine (HIte.out _ _ _ _ _ _ _ (HRA.out _ (by apply And.left; with_reducible assumption)) hRB1 (HRN.out _ (by apply And.left; with_reducible assumption))).mono ?_; rintro e w2 ⟨g, rfl, hRB, hb2, hg⟩) | (go_at_call 15; refine (HIte.out _ _ _ _ _ _ _ (HRB.out _ (by apply And.left; with_reducible assumption)) (HRC.out _ (by apply And.left; with_reducible assumption)) (HRN.out _ (by apply And.left; with_reducible assumption))).mono ?_; rintro e w3 ⟨g1, rfl, hRB1, hb3, hg3⟩))
            rename_i hHeld
            obtain ⟨x', hD⟩ := done_fresh (o := ⟨kd, oa, ob, oc⟩) HF8.out.pl (((Below.refl w8.heap.size w8).drew).trans (hba.mono (Nat.le_refl _))) (by rw [HUR.out.2.2]; exact up_more hU (by first | omega | (simp; done))) (hb3.trans (hb2.mono hb3.size)) (by rw [HN.out]; exact hRB) (Nat.le_trans hb3.size hg) HUR.out.2.1.symm hR (fun hs => by
              rw [HUR.out.1]
              have ea := HF8.out.sa hs
              have eb := HF8.out.sb hs
              have ec := HF8.out.sc hs
              show List.foldl _ _ _ = _
              rw [(pl_L HF8.out.pl).1, (pl_L HF8.out.pl).2 hs, ea, eb, ec])
            clear hHeld hst HOp hU hR hRB hb2 hg hRB1 hb3 hg3 hba HFa
            have HD := Lib.hid hD
            have HG := Lib.hid (done_own HF8.out.pl hD)
            have hcn : Hid ((upK K ops (k + 1)).c = cc + 3) := Lib.hid (by rw [upK_succ HLT.out, HO.out]; show (upK K ops k).c + opC ⟨kd, oa, ob, oc⟩ = _; rw [HCC.out, HUR.out.2.2])
            obtain ⟨i0, hi, hz0, hz1, hz2⟩ := info_parts ItR.infoInt
            obtain ⟨j0, hj, jz0, jz1, jz2⟩ := info_parts ItR.infoSl
            have hol := HG.out.1
            have hk30' := HK30.out
            have hwz := HG.out.2.2
            clear hD HZ HIte HRA HRB HRC HRN HRY HL HNN HVV HC3 a1 a2 b1 b2 c1 c2 ox HK8
            go_wp2_with (at_builtin; refine wpList_append_own_at _ rfl _ _ 24 rfl w.heap.size 3 i0 (.int .i64 0) 1 8 Try.underlying24 hi hz0 hz1 hz2 rfl (by decide) _ _ _ rfl (hol.alloc _) ⟨w2.heap.size, 0, none⟩ 1 1 [.int .i64 a] rfl rfl ?c1 ?c2 ?c3 ?c4 ?c5 ?_)
            case c1 => exact new1 _ _ _
            case c2 => intro u hu; simp at hu; subst hu; rfl
            case c3 => unfold maxLen; omega
            case c4 => omega
            case c5 => simp; omega
            intro vl' w4 hown4 hg4 _ he4
            have h4 := done_own2 hol HG.out.2.1 hg4
            have HA4 := Lib.hid (And.intro hown4 (And.intro hg4 he4))
            have hz4 : w.heap.size ≤ w4.heap.size := by have := hg4.size; simp at this; omega
            clear hown4 hg4 he4 hol
            go_wp2_with (at_builtin; refine wpList_append_own_at _ rfl _ _ 30 rfl w.heap.size 33 j0 (.slice none 0 0) 1 24 Try.underlying30 hj jz0 jz1 jz2 rfl (by decide) _ _ _ rfl (h4.alloc _) ⟨w4.heap.size, 0, none⟩ 1 1 [.slice (some ⟨g, 0, none⟩) n n] rfl rfl ?c1 ?c2 ?c3 ?c4 ?c5 ?_)
            case c1 => exact new1 _ _ _
            case c2 => intro u hu; simp at hu; subst hu; rfl
            case c3 => unfold maxLen; omega
            case c4 => omega
            case c5 => simp; omega
            intro vr' w6 hown6 hg6 _ he6
            have HE := Lib.hid (play_next HLT.out HK.out HK30.out HF8.out.pl (HO.out ▸ HD.out) HA4.out.1 HA4.out.2.1 (by rw [World.size_alloc]; exact HA4.out.2.2) (by have h := hown6; rw [← HN.out] at h; exact h) hg6 (by rw [World.size_alloc]; exact he6))
            clear hown6 hg6 he6 HA4 h4 HF8 HD HG hi hz0 hz1 hz2 hj jz0 jz1 jz2
            go_wp2_with fail
            go_roundw
            case rel => exact ⟨k + 1, _, _, x', s', by omega, by omega, by go_num, by rw [hcn.out]; rfl, Lib.hid HE.out⟩
            case measure => simp [intOf]; omega
        · as_aux_lemma =>
            have h8n : kd % 8 = 4 := by omega
            have HUR := Lib.hid (And.intro (opU_4 K (upK K ops k).l (upK K ops k).M ⟨kd, oa, ob, oc⟩ h8n) (And.intro (opR_4 K (upK K ops k).R ⟨kd, oa, ob, oc⟩ h8n) (opC_4 ⟨kd, oa, ob, oc⟩ h8n)))
            have hst := HZ.out _ (Frm.of_below (F := FootD D x) (Below.refl w8.heap.size w8).drew)
            have hba := (Below.refl w8.drew.heap.size w8.drew).alloc (Nat.le_refl _) (.cells #[.int .i64 la, .int .i64 lb, .int .i64 lc] 3)
            have hall : ∀ f ∈ [la, lb, lc], isB s f = true := fun f hf => by
              simp only [List.mem_cons, List.not_mem_nil, or_false] at hf
              rcases hf with rfl | rfl | rfl
              · exact HF8.out.ia
              · exact HF8.out.ib
              · exact HF8.out.ic
            have HFa := Lib.hid (frm_alloc (Frm.of_below (F := FootD D x) (Below.refl w8.heap.size w8).drew) (.cells #[.int .i64 la, .int .i64 lb, .int .i64 lc] 3))
            have hop := ItM.or_ (some ⟨w8.drew.heap.size, 0, none⟩) 3 [la, lb, lc] (by simp) hall (rowI_new w8.drew [la, lb, lc] 3) (fun a ha hf => by
              injection ha with ha
              subst ha
              have := HF8.out.drew.pl.bd.foot hf
              simp at this) (fun h => by cases h) HVV.out HL.out HNN.out HC3.out (HF8.out.drew.pl.bd.below hba)
            unfold RowPost at hop
            have HOp := Lib.hid hop
            clear hop h8n hall
            go_wp2_with fail
            go_region_held3 (fun w' => Frm (FootD D x) w8 w' ∧ w'.cell? ⟨bl, ja, none⟩ = some (.int .i64 la) ∧ w'.cell? ⟨bl, jb, none⟩ = some (.int .i64 lb) ∧ w'.cell? ⟨bl, jc, none⟩ = some (.int .i64 lc) ∧ w'.cell? ⟨br, ja, none⟩ = some (.slice (some ⟨ga, 0, none⟩) n n) ∧ w'.cell? ⟨br, jb, none⟩ = some (.slice (some ⟨gb, 0, none⟩) n n) ∧ w'.cell? ⟨br, jc, none⟩ = some (.slice (some ⟨gc, 0, none⟩) n n))
              (first | with_reducible exact hst | with_reducible assumption | exact HZ.out _ (frm_up (by apply And.left; with_reducible assumption) (by with_reducible assumption)) | exact HZ.out _ (frm_below (by apply And.left; with_reducible assumption) (by with_reducible assumption)) | exact HZ.out _ (frm_alloc (by apply And.left; with_reducible assumption) _) | exact HZ.out _ (frm_up HFa.out (by with_reducible assumption)) | exact HZ.out _ (frm_up HFa.out (by assumption)))
              (first | ((with_reducible refine HOp.out.mono ?_); rintro e w1 ⟨a, s', rfl, hR, hU⟩) | (go_at_call 45; refine HOp.out.mono ?_; rintro e w1 ⟨a, s', rfl, hR, hU⟩) | (go_at_call 15; refine (HIte.out _ _ _ _ _ _ _ (HRA.out _ (by apply And.left; with_reducible assumption)) (HRY.out _ (by apply And.left; with_reducible assumption)) hRB1).mono ?_; rintro e w2 ⟨g, rfl, hRB, hb2, hg⟩) | (go_at_call 15; refine (HIte.out _ _ _ _ _ _ _ (HRB.out _ (by apply And.left; with_reducible assumption)) (HRY.out _ (by apply And.left; with_reducible assumption)) (HRC.out _ (by apply And.left; with_reducible assumption))).mono ?_; rintro e w3 ⟨g1, rfl, hRB1, hb3, hg3⟩))
            rename_i hHeld
            obtain ⟨x', hD⟩ := done_fresh (o := ⟨kd, oa, ob, oc⟩) HF8.out.pl (((Below.refl w8.heap.size w8).drew).trans (hba.mono (Nat.le_refl _))) (by rw [HUR.out.2.2]; exact up_more hU (by first | omega | (simp; done))) (hb3.trans (hb2.mono hb3.size)) (by rw [HN.out]; exact hRB) (Nat.le_trans hb3.size hg) HUR.out.2.1.symm hR (fun hs => by
              rw [HUR.out.1]
              have ea := HF8.out.sa hs
              have eb := HF8.out.sb hs
              have ec := HF8.out.sc hs
              show List.foldl _ _ _ = _
              rw [(pl_L HF8.out.pl).1, (pl_L HF8.out.pl).2 hs, ea, eb, ec])
            clear hHeld hst HOp hU hR hRB hb2 hg hRB1 hb3 hg3 hba HFa
            have HD := Lib.hid hD
            have HG := Lib.hid (done_own HF8.out.pl hD)
            have hcn : Hid ((upK K ops (k + 1)).c = cc + 3) := Lib.hid (by rw [upK_succ HLT.out, HO.out]; show (upK K ops k).c + opC ⟨kd, oa, ob, oc⟩ = _; rw [HCC.out, HUR.out.2.2])
            obtain ⟨i0, hi, hz0, hz1, hz2⟩ := info_parts ItR.infoInt
            obtain ⟨j0, hj, jz0, jz1, jz2⟩ := info_parts ItR.infoSl
            have hol := HG.out.1
            have hk30' := HK30.out
            have hwz := HG.out.2.2
            clear hD HZ HIte HRA HRB HRC HRN HRY HL HNN HVV HC3 a1 a2 b1 b2 c1 c2 ox HK8
            go_wp2_with (at_builtin; refine wpList_append_own_at _ rfl _ _ 24 rfl w.heap.size 3 i0 (.int .i64 0) 1 8 Try.underlying24 hi hz0 hz1 hz2 rfl (by decide) _ _ _ rfl (hol.alloc _) ⟨w2.heap.size, 0, none⟩ 1 1 [.int .i64 a] rfl rfl ?c1 ?c2 ?c3 ?c4 ?c5 ?_)
            case c1 => exact new1 _ _ _
            case c2 => intro u hu; simp at hu; subst hu; rfl
            case c3 => unfold maxLen; omega
            case c4 => omega
            case c5 => simp; omega
            intro vl' w4 hown4 hg4 _ he4
            have h4 := done_own2 hol HG.out.2.1 hg4
            have HA4 := Lib.hid (And.intro hown4 (And.intro hg4 he4))
            have hz4 : w.heap.size ≤ w4.heap.size := by have := hg4.size; simp at this; omega
            clear hown4 hg4 he4 hol
            go_wp2_with (at_builtin; refine wpList_append_own_at _ rfl _ _ 30 rfl w.heap.size 33 j0 (.slice none 0 0) 1 24 Try.underlying30 hj jz0 jz1 jz2 rfl (by decide) _ _ _ rfl (h4.alloc _) ⟨w4.heap.size, 0, none⟩ 1 1 [.slice (some ⟨g, 0, none⟩) n n] rfl rfl ?c1 ?c2 ?c3 ?c4 ?c5 ?_)
            case c1 => exact new1 _ _ _
            case c2 => intro u hu; simp at hu; subst hu; rfl
            case c3 => unfold maxLen; omega
            case c4 => omega
            case c5 => simp; omega
            intro vr' w6 hown6 hg6 _ he6
            have HE := Lib.hid (play_next HLT.out HK.out HK30.out HF8.out.pl (HO.out ▸ HD.out) HA4.out.1 HA4.out.2.1 (by rw [World.size_alloc]; exact HA4.out.2.2) (by have h := hown6; rw [← HN.out] at h; exact h) hg6 (by rw [World.size_alloc]; exact he6))
            clear hown6 hg6 he6 HA4 h4 HF8 HD HG hi hz0 hz1 hz2 hj jz0 jz1 jz2
            go_wp2_with fail
            go_roundw
            case rel => exact ⟨k + 1, _, _, x', s', by omega, by omega, by go_num, by rw [hcn.out]; rfl, Lib.hid HE.out⟩
            case measure => simp [intOf]; omega
        · as_aux_lemma =>
            have h8n : kd % 8 = 5 := by omega
            have HUR := Lib.hid (And.intro (opU_5 K (upK K ops k).l (upK K ops k).M ⟨kd, oa, ob, oc⟩ h8n) (And.intro (opR_5 K (upK K ops k).R ⟨kd, oa, ob, oc⟩ h8n) (opC_5 ⟨kd, oa, ob, oc⟩ h8n)))
            have hst := HZ.out _ (Frm.of_below (F := FootD D x) (Below.refl w8.heap.size w8).drew)
            have hop := ItK.xor_ la lb HF8.out.ia HF8.out.ib HVV.out (by have := HL.out; omega) (by have := HNN.out; omega) HC3.out HF8.out.drew.pl.bd
            unfold OpPost at hop
            have HOp := Lib.hid hop
            clear hop h8n
            go_wp2_with fail
            go_region_held3 (fun w' => Frm (FootD D x) w8 w' ∧ w'.cell? ⟨bl, ja, none⟩ = some (.int .i64 la) ∧ w'.cell? ⟨bl, jb, none⟩ = some (.int .i64 lb) ∧ w'.cell? ⟨bl, jc, none⟩ = some (.int .i64 lc) ∧ w'.cell? ⟨br, ja, none⟩ = some (.slice (some ⟨ga, 0, none⟩) n n) ∧ w'.cell? ⟨br, jb, none⟩ = some (.slice (some ⟨gb, 0, none⟩) n n) ∧ w'.cell? ⟨br, jc, none⟩ = some (.slice (some ⟨gc, 0, none⟩) n n))
              (first | with_reducible exact hst | with_reducible assumption | exact HZ.out _ (frm_up (by apply And.left; with_reducible assumption) (by with_reducible assumption)) | exact HZ.out _ (frm_below (by apply And.left; with_reducible assumption) (by with_reducible assumption)) | exact HZ.out _ (frm_alloc (by apply And.left; with_reducible assumption) _))
              (first | ((with_reducible refine HOp.out.mono ?_); rintro e w1 ⟨a, s', rfl, hR, hU⟩) | (go_at_call 15; refine (HIte.out _ _ _ _ _ _ _ (HRA.out _ (by apply And.left; with_reducible assumption)) hRB1 (HRB.out _ (by apply And.left; with_reducible assumption))).mono ?_; rintro e w2 ⟨g, rfl, hRB, hb2, hg⟩) | (go_at_call 15; refine (HIte.out _ _ _ _ _ _ _ (HRB.out _ (by apply And.left; with_reducible assumption)) (HRN.out _ (by apply And.left; with_reducible assumption)) (HRY.out _ (by apply And.left; with_reducible assumption))).mono ?_; rintro e w3 ⟨g1, rfl, hRB1, hb3, hg3⟩))
            rename_i hHeld
            obtain ⟨x', hD⟩ := done_fresh (o := ⟨kd, oa, ob, oc⟩) HF8.out.pl ((Below.refl w8.heap.size w8).drew) (by rw [HUR.out.2.2]; exact up_more hU (by first | omega | (simp; done))) (hb3.trans (hb2.mono hb3.size)) (by rw [HN.out]; exact hRB) (Nat.le_trans hb3.size hg) HUR.out.2.1.symm hR (fun hs => by
              rw [HUR.out.1]
              have ea := HF8.out.sa hs
              have eb := HF8.out.sb hs
              show top s.vars s.L _ = _
              rw [(pl_L HF8.out.pl).1, (pl_L HF8.out.pl).2 hs, ea, eb])
            clear hHeld hst HOp hU hR hRB hb2 hg hRB1 hb3 hg3
            have HD := Lib.hid hD
            have HG := Lib.hid (done_own HF8.out.pl hD)
            have hcn : Hid ((upK K ops (k + 1)).c = cc + 1) := Lib.hid (by rw [upK_succ HLT.out, HO.out]; show (upK K ops k).c + opC ⟨kd, oa, ob, oc⟩ = _; rw [HCC.out, HUR.out.2.2])
            obtain ⟨i0, hi, hz0, hz1, hz2⟩ := info_parts ItR.infoInt
            obtain ⟨j0, hj, jz0, jz1, jz2⟩ := info_parts ItR.infoSl
            have hol := HG.out.1
            have hk30' := HK30.out
            have hwz := HG.out.2.2
            clear hD HZ HIte HRA HRB HRC HRN HRY HL HNN HVV HC3 a1 a2 b1 b2 c1 c2 ox HK8
            go_wp2_with (at_builtin; refine wpList_append_own_at _ rfl _ _ 24 rfl w.heap.size 3 i0 (.int .i64 0) 1 8 Try.underlying24 hi hz0 hz1 hz2 rfl (by decide) _ _ _ rfl (hol.alloc _) ⟨w2.heap.size, 0, none⟩ 1 1 [.int .i64 a] rfl rfl ?c1 ?c2 ?c3 ?c4 ?c5 ?_)
            case c1 => exact new1 _ _ _
            case c2 => intro u hu; simp at hu; subst hu; rfl
            case c3 => unfold maxLen; omega
            case c4 => omega
            case c5 => simp; omega
            intro vl' w4 hown4 hg4 _ he4
            have h4 := done_own2 hol HG.out.2.1 hg4
            have HA4 := Lib.hid (And.intro hown4 (And.intro hg4 he4))
            have hz4 : w.heap.size ≤ w4.heap.size := by have := hg4.size; simp at this; omega
            clear hown4 hg4 he4 hol
            go_wp2_with (at_builtin; refine wpList_append_own_at _ rfl _ _ 30 rfl w.heap.size 33 j0 (.slice none 0 0) 1 24 Try.underlying30 hj jz0 jz1 jz2 rfl (by decide) _ _ _ rfl (h4.alloc _) ⟨w4.heap.size, 0, none⟩ 1 1 [.slice (some ⟨g, 0, none⟩) n n] rfl rfl ?c1 ?c2 ?c3 ?c4 ?c5 ?_)
            case c1 => exact new1 _ _ _
            case c2 => intro u hu; simp at hu; subst hu; rfl
            case c3 => unfold maxLen; omega
            case c4 => omega
            case c5 => simp; omega
            intro vr' w6 hown6 hg6 _ he6
            have HE := Lib.hid (play_next HLT.out HK.out HK30.out HF8.out.pl (HO.out ▸ HD.out) HA4.out.1 HA4.out.2.1 (by rw [World.size_alloc]; exact HA4.out.2.2) (by have h := hown6; rw [← HN.out] at h; exact h) hg6 (by rw [World.size_alloc]; exact he6))
            clear hown6 hg6 he6 HA4 h4 HF8 HD HG hi hz0 hz1 hz2 hj jz0 jz1 jz2
            go_wp2_with fail
            go_roundw
            case rel => exact ⟨k + 1, _, _, x', s', by omega, by omega, by go_num, by rw [hcn.out]; rfl, Lib.hid HE.out⟩
            case measure => simp [intOf]; omega
        · as_aux_lemma =>
            have h8n : kd % 8 = 6 := by omega
            have HUR := Lib.hid (And.intro (opU_6 K (upK K ops k).l (upK K ops k).M ⟨kd, oa, ob, oc⟩ h8n) (And.intro (opR_6 K (upK K ops k).R ⟨kd, oa, ob, oc⟩ h8n) (opC_6 ⟨kd, oa, ob, oc⟩ h8n)))
            have hst := HZ.out _ (Frm.of_below (F := FootD D x) (Below.refl w8.heap.size w8).drew)
            have hop := ItK.less_ la lb HF8.out.ia HF8.out.ib HVV.out (by have := HL.out; omega) (by have := HNN.out; omega) HC3.out HF8.out.drew.pl.bd
            unfold OpPost at hop
            have HOp := Lib.hid hop
            clear hop h8n
            go_wp2_with fail
            go_region_held3 (fun w' => Frm (FootD D x) w8 w' ∧ w'.cell? ⟨bl, ja, none⟩ = some (.int .i64 la) ∧ w'.cell? ⟨bl, jb, none⟩ = some (.int .i64 lb) ∧ w'.cell? ⟨bl, jc, none⟩ = some (.int .i64 lc) ∧ w'.cell? ⟨br, ja, none⟩ = some (.slice (some ⟨ga, 0, none⟩) n n) ∧ w'.cell? ⟨br, jb, none⟩ = some (.slice (some ⟨gb, 0, none⟩) n n) ∧ w'.cell? ⟨br, jc, none⟩ = some (.slice (some ⟨gc, 0, none⟩) n n))
              (first | with_reducible exact hst | with_reducible assumption | exact HZ.out _ (frm_up (by apply And.left; with_reducible assumption) (by with_reducible assumption)) | exact HZ.out _ (frm_below (by apply And.left; with_reducible assumption) (by with_reducible assumption)) | exact HZ.out _ (frm_alloc (by apply And.left; with_reducible assumption) _))
              (first | ((with_reducible refine HOp.out.mono ?_); rintro e w1 ⟨a, s', rfl, hR, hU⟩) | (go_at_call 15; refine (HIte.out _ _ _ _ _ _ _ (HRA.out _ (by apply And.left; with_reducible assumption)) (HRN.out _ (by apply And.left; with_reducible assumption)) (HRB.out _ (by apply And.left; with_reducible assumption))).mono ?_; rintro e w2 ⟨g, rfl, hRB, hb2, hg⟩))
            rename_i hHeld
            obtain ⟨x', hD⟩ := done_fresh (o := ⟨kd, oa, ob, oc⟩) HF8.out.pl ((Below.refl w8.heap.size w8).drew) (by rw [HUR.out.2.2]; exact up_more hU (by first | omega | (simp; done))) hb2 (by rw [HN.out]; exact hRB) hg HUR.out.2.1.symm hR (fun hs => by
              rw [HUR.out.1]
              have ea := HF8.out.sa hs
              have eb := HF8.out.sb hs
              show top s.vars s.L _ = _
              rw [(pl_L HF8.out.pl).1, (pl_L HF8.out.pl).2 hs, ea, eb])
            clear hHeld hst HOp hU hR hRB hb2 hg
            have HD := Lib.hid hD
            have HG := Lib.hid (done_own HF8.out.pl hD)
            have hcn : Hid ((upK K ops (k + 1)).c = cc + 1) := Lib.hid (by rw [upK_succ HLT.out, HO.out]; show (upK K ops k).c + opC ⟨kd, oa, ob, oc⟩ = _; rw [HCC.out, HUR.out.2.2])
            obtain ⟨i0, hi, hz0, hz1, hz2⟩ := info_parts ItR.infoInt
            obtain ⟨j0, hj, jz0, jz1, jz2⟩ := info_parts ItR.infoSl
            have hol := HG.out.1
            have hk30' := HK30.out
            have hwz := HG.out.2.2
            clear hD HZ HIte HRA HRB HRC HRN HRY HL HNN HVV HC3 a1 a2 b1 b2 c1 c2 ox HK8
            go_wp2_with (at_builtin; refine wpList_append_own_at _ rfl _ _ 24 rfl w.heap.size 3 i0 (.int .i64 0) 1 8 Try.underlying24 hi hz0 hz1 hz2 rfl (by decide) _ _ _ rfl (hol.alloc _) ⟨w2.heap.size, 0, none⟩ 1 1 [.int .i64 a] rfl rfl ?c1 ?c2 ?c3 ?c4 ?c5 ?_)
            case c1 => exact new1 _ _ _
            case c2 => intro u hu; simp at hu; subst hu; rfl
            case c3 => unfold maxLen; omega
            case c4 => omega
            case c5 => simp; omega
            intro vl' w4 hown4 hg4 _ he4
            have h4 := done_own2 hol HG.out.2.1 hg4
            have HA4 := Lib.hid (And.intro hown4 (And.intro hg4 he4))
            have hz4 : w.heap.size ≤ w4.heap.size := by have := hg4.size; simp at this; omega
            clear hown4 hg4 he4 hol
            go_wp2_with (at_builtin; refine wpList_append_own_at _ rfl _ _ 30 rfl w.heap.size 33 j0 (.slice none 0 0) 1 24 Try.underlying30 hj jz0 jz1 jz2 rfl (by decide) _ _ _ rfl (h4.alloc _) ⟨w4.heap.size, 0, none⟩ 1 1 [.slice (some ⟨g, 0, none⟩) n n] rfl rfl ?c1 ?c2 ?c3 ?c4 ?c5 ?_)
            case c1 => exact new1 _ _ _
            case c2 => intro u hu; simp at hu; subst hu; rfl
            case c3 => unfold maxLen; omega
            case c4 => omega
            case c5 => simp; omega
            intro vr' w6 hown6 hg6 _ he6
            have HE := Lib.hid (play_next HLT.out HK.out HK30.out HF8.out.pl (HO.out ▸ HD.out) HA4.out.1 HA4.out.2.1 (by rw [World.size_alloc]; exact HA4.out.2.2) (by have h := hown6; rw [← HN.out] at h; exact h) hg6 (by rw [World.size_alloc]; exact he6))
            clear hown6 hg6 he6 HA4 h4 HF8 HD HG hi hz0 hz1 hz2 hj jz0 jz1 jz2
            go_wp2_with fail
            go_roundw
            case rel => exact ⟨k + 1, _, _, x', s', by omega, by omega, by go_num, by rw [hcn.out]; rfl, Lib.hid HE.out⟩
            case measure => simp [intOf]; omega
        · as_aux_lemma =>
            have h8n : kd % 8 = 7 := by omega
            have HUR := Lib.hid (And.intro (opU_7 K (upK K ops k).l (upK K ops k).M ⟨kd, oa, ob, oc⟩ h8n) (And.intro (opR_7 K (upK K ops k).R ⟨kd, oa, ob, oc⟩ h8n) (opC_7 ⟨kd, oa, ob, oc⟩ h8n)))
            have hop := ItM.and_ none 0 [] (by simp) (fun f hf => absurd hf (by simp)) (rowI_nil w8) (fun a ha => by cases ha) (fun _ => ⟨rfl, rfl⟩) HVV.out (by have := HL.out; simp; omega) (by have := HNN.out; simp; omega) HC3.out HF8.out.pl.bd
            unfold RowPost at hop
            have HOp := Lib.hid hop
            clear hop h8n
            go_wp2_with fail
            refine HOp.out.mono ?_
            rintro e w2 ⟨a, s', rfl, hR, hU⟩
            obtain ⟨g, hgy⟩ : ∃ g, gy = g := ⟨_, rfl⟩
            obtain ⟨x', hD⟩ := done_old (o := ⟨kd, oa, ob, oc⟩) HF8.out.pl (Below.refl _ w8) (by rw [HUR.out.2.2]; exact up_more hU (by simp)) (by rw [HN.out]; exact HF8.out.ry) HF8.out.wy HF8.out.fy HUR.out.2.1.symm hR (fun hs => by
              have e := List.length_eq_zero_iff.1 (srtI_len s.vars s.L [])
              rw [HUR.out.1, ← (pl_L HF8.out.pl).2 hs, e]
              rfl)
            rw [hgy] at hD ⊢
            clear hU hR HOp
            have HD := Lib.hid hD
            have HG := Lib.hid (done_own HF8.out.pl hD)
            have hcn : Hid ((upK K ops (k + 1)).c = cc + 0) := Lib.hid (by rw [upK_succ HLT.out, HO.out]; show (upK K ops k).c + opC ⟨kd, oa, ob, oc⟩ = _; rw [HCC.out, HUR.out.2.2])
            obtain ⟨i0, hi, hz0, hz1, hz2⟩ := info_parts ItR.infoInt
            obtain ⟨j0, hj, jz0, jz1, jz2⟩ := info_parts ItR.infoSl
            have hol := HG.out.1
            have hk30' := HK30.out
            have hwz := HG.out.2.2
            clear hD HZ HIte HRA HRB HRC HRN HRY HL HNN HVV HC3 a1 a2 b1 b2 c1 c2 ox HK8
            go_wp2_with (at_builtin; refine wpList_append_own_at _ rfl _ _ 24 rfl w.heap.size 3 i0 (.int .i64 0) 1 8 Try.underlying24 hi hz0 hz1 hz2 rfl (by decide) _ _ _ rfl (hol.alloc _) ⟨w2.heap.size, 0, none⟩ 1 1 [.int .i64 a] rfl rfl ?c1 ?c2 ?c3 ?c4 ?c5 ?_)
            case c1 => exact new1 _ _ _
            case c2 => intro u hu; simp at hu; subst hu; rfl
            case c3 => unfold maxLen; omega
            case c4 => omega
            case c5 => simp; omega
            intro vl' w4 hown4 hg4 _ he4
            have h4 := done_own2 hol HG.out.2.1 hg4
            have HA4 := Lib.hid (And.intro hown4 (And.intro hg4 he4))
            have hz4 : w.heap.size ≤ w4.heap.size := by have := hg4.size; simp at this; omega
            clear hown4 hg4 he4 hol
            go_wp2_with (at_builtin; refine wpList_append_own_at _ rfl _ _ 30 rfl w.heap.size 33 j0 (.slice none 0 0) 1 24 Try.underlying30 hj jz0 jz1 jz2 rfl (by decide) _ _ _ rfl (h4.alloc _) ⟨w4.heap.size, 0, none⟩ 1 1 [.slice (some ⟨g, 0, none⟩) n n] rfl rfl ?c1 ?c2 ?c3 ?c4 ?c5 ?_)
            case c1 => exact new1 _ _ _
            case c2 => intro u hu; simp at hu; subst hu; rfl
            case c3 => unfold maxLen; omega
            case c4 => omega
            case c5 => simp; omega
            intro vr' w6 hown6 hg6 _ he6
            have HE := Lib.hid (play_next HLT.out HK.out HK30.out HF8.out.pl (HO.out ▸ HD.out) HA4.out.1 HA4.out.2.1 (by rw [World.size_alloc]; exact HA4.out.2.2) (by have h := hown6; rw [← HN.out] at h; exact h) hg6 (by rw [World.size_alloc]; exact he6))
            clear hown6 hg6 he6 HA4 h4 HF8 HD HG hi hz0 hz1 hz2 hj jz0 jz1 jz2
            go_wp2_with fail
            go_roundw
            case rel => exact ⟨k + 1, _, _, x', s', by omega, by omega, by go_num, by rw [hcn.out]; rfl, Lib.hid HE.out⟩
            case measure => simp [intOf]; omega
    · have e1 : decide (k < ops.length) = false := decide_eq_false hlt
      have e1' : decide ((k : Int) < ops.length) = false := by simp; omega
      have hmin : min 30 ops.length = k := by omega
      have HM := Lib.hid hmin
      clear hmin hlt hk hk30
      go_wp2_with fail
      go_ret3
      exact ⟨_, _, lv, gs, x, s, by rw [HM.out]; rfl, by rw [HM.out]; exact hP.out⟩
end Go.Proofs.Ytnkkmppmfjekeaa.ItT
