/- The search: follow, by contract. -/
import Derived.Test.YtddjbchlpfaggaaPfP
import Derived.Test.YtddjbchlpfaggaaPfG
namespace Go.Proofs.Ytddjbchlpfaggaa.PfH
open Go.RowKit Go.Lib Go.Proofs Go.Maps Go.Proofs.Ytddjbchlpfaggaa.SetQ Go.Proofs.Ytddjbchlpfaggaa.SetR Go.Proofs.Ytddjbchlpfaggaa.TblC Go.Proofs.Ytddjbchlpfaggaa.TblV Go.Proofs.Ytddjbchlpfaggaa.TblQ Go.Proofs.Ytddjbchlpfaggaa.SemB Go.Proofs.Ytddjbchlpfaggaa.SemC Go.Proofs.Ytddjbchlpfaggaa.SemD Go.Proofs.Ytddjbchlpfaggaa.SemGa Go.Proofs.Ytddjbchlpfaggaa.SemJ Go.Proofs.Ytddjbchlpfaggaa.PfM Go.Proofs.Ytddjbchlpfaggaa.PfN Go.Proofs.Ytddjbchlpfaggaa.PfO Go.Proofs.Ytddjbchlpfaggaa.PfA Go.Proofs.Ytddjbchlpfaggaa.PfB Go.Proofs.Ytddjbchlpfaggaa.PfC Go.Proofs.Ytddjbchlpfaggaa.PfD Go.Proofs.Ytddjbchlpfaggaa.PfF Go.Proofs.Ytddjbchlpfaggaa.PfP
set_option linter.unusedVariables false
set_option linter.unusedSimpArgs false
/-- A role's row of watches, gone through while others come behind it. -/
theorem with_row {W w : World} {a : Ad} {t : Ss} {h : Nat} {F : Frm} (hq : Wq W w a t h F) (r : Int) (hr : -9223372036854775808 ≤ r ∧ r ≤ 9223372036854775807) : ∃ (A : Option Addr) (ca : Nat) (F' : Frm),
    (∀ X, Below w.heap.size w X → (Instr.lookup 79 (.map (some a.bw)) (.int .i64 r) false).run Try.prog X = .ok (.slice A (t.watch r).length ca) X) ∧ Wq W w a t h F' ∧ (∀ w' t' h', Wq W w' a t' h' F' → Wq W w' a t' h' F) ∧
    ((t.watch r).length = 0 ∨ ∃ g, A = some ⟨g, 0, none⟩ ∧ ∀ w' t' h', Wq W w' a t' h' F' → g < w'.heap.size ∧ ∀ j, (hj : j < (t.watch r).length) → w'.cell? ⟨g, j * 2, none⟩ = some (.int .i64 (t.watch r)[j].1) ∧ w'.cell? ⟨g, j * 2 + 1, none⟩ = some (.int .i64 (t.watch r)[j].2)) := by
  obtain ⟨hle, qv, M, hk, hfr⟩ := hq
  have hkey := keyI (r := r) hr
  obtain ⟨A, c, hv⟩ := own_n (hk.rows r)
  have hrow := hk.rows r
  rw [hv] at hrow
  have LK : ∀ X, Below w.heap.size w X → (Instr.lookup 79 (.map (some a.bw)) (.int .i64 r) false).run Try.prog X = .ok (.slice A (t.watch r).length c) X := fun X hX => by
    have := (hk.below hX).wm.look lawI Try.underlying79 (zeroR X) hkey
    have e : (M r).getD (.slice none 0 0) = .slice A (t.watch r).length c := hv
    rw [e] at this
    exact this
  rcases hrow.2 with ⟨e1, hn⟩ | ⟨g, cap, cur, e1, hB, hg, _⟩
  · exact ⟨A, c, F, LK, ⟨hle, qv, M, hk, hfr⟩, fun _ _ _ q => q, .inl hn⟩
  · injection e1 with e1 e2 e3
    subst e1
    have hob : (rowV M r).ownBlock = some g := by rw [hv]; rfl
    refine ⟨_, c, ⟨F.box, (g, t.watch r) :: F.snap⟩, LK, ⟨hle, qv, M, hk, hfr.b, fun p hp => ?_⟩, ?_, .inr ⟨g, rfl, ?_⟩⟩
    · simp only [List.mem_cons] at hp
      rcases hp with rfl | hp
      · refine ⟨⟨cur, hg⟩, fun j v hj => ?_, fun s hs => ?_⟩
        · have := hrow.cells (g := g) rfl j v hj
          rw [Go.Proofs.Ytddjbchlpfaggaa.SemC.add_off, Nat.zero_add] at this
          exact this
        · by_cases e : s = r
          · subst e; exact List.prefix_refl _
          · exact absurd hob (hk.apart s r e g hs)
      · exact hfr.s p hp
    · rintro w' t' h' ⟨k1, qv', M', k2, k3⟩
      exact ⟨k1, qv', M', k2, k3.b, fun p hp => k3.s p (by simp [hp])⟩
    · rintro w' t' h' ⟨k1, qv', M', k2, k3⟩
      have hs := k3.s (g, t.watch r) (by simp)
      refine ⟨lt_of hs.ty.choose_spec, fun j hj => ?_⟩
      obtain ⟨b1, b2⟩ := encP_at (t.watch r) j hj
      exact ⟨hs.at_ _ _ b1, hs.at_ _ _ b2⟩
theorem step3a {P K : Nat} {L : List Ru} {t : Ss} {x i m : Int} (k : (ruleD L i).kind = 3) (e : m = -1) : stepM P K L t x (i, m) = linkM P K L t i x := by
  unfold stepM; simp only; rw [if_pos k, if_pos e]
theorem step3b {P K : Nat} {L : List Ru} {t : Ss} {x i m : Int} (k : (ruleD L i).kind = 3) (e : m ≠ -1) : stepM P K L t x (i, m) = putM t ⟨i, (ruleD L i).head, x, m⟩ := by
  unfold stepM; simp only; rw [if_pos k, if_neg e]
theorem step2 {P K : Nat} {L : List Ru} {t : Ss} {x i m : Int} (k : (ruleD L i).kind = 2) : stepM P K L t x (i, m) = putM t ⟨i, (ruleD L i).head, x, 0⟩ := by
  unfold stepM; simp only; rw [if_neg (by omega), if_pos k]
theorem step4 {P K : Nat} {L : List Ru} {t : Ss} {x i m : Int} (k : (ruleD L i).kind = 4) : stepM P K L t x (i, m) = if hasS t.known ((ruleD L i).a, x) && hasS t.known ((ruleD L i).b, x) then putM t ⟨i, (ruleD L i).head, x, 0⟩ else t := by
  unfold stepM; simp only; rw [if_neg (by omega), if_neg (by omega)]
set_option maxHeartbeats 2000000 in
set_option maxRecDepth 100000 in
theorem follow (W w : World) (a : Ad) (t : Ss) (h c : Nat) (F : Frm) (P K : Nat) (s : Sp) (hP : a.d0 = P) (hK : a.d1 = K) (lP : P ≤ 10) (lK : K ≤ 6) (lL : a.L.length ≤ 60) (hw : Wq W w a t (h + 1) F)
    (hi : Inv P K a.L a.L.length h [] c t) (hs : t.known[h]? = some s) (hc : c ≤ 100000) :
    Calls Try.prog 36 #[.pointer (some ⟨a.ws, 0, none⟩), .agg #[.int .i64 s.role, .int .i64 s.who]] w (WPost W a (followM P K a.L t s.fa) (h + 1) F) := by
  obtain ⟨⟨hr0, hr1⟩, ⟨hx0, hx1⟩, _⟩ := chk_rng _ _ hi.ck s (List.mem_of_getElem? hs)
  have hpk := mul_small (P := P) (K := K) (by omega) (by omega)
  have hpk2 : P * K * P ≤ 4096 * 10 := Nat.mul_le_mul hpk lP
  have hTl : (t.watch s.role).length ≤ 1000000 := by
    have h1 := hi.len s.role
    have h2 := hi.cnt
    omega
  have HAt := Lib.hid (fun k hk => at_k hi hs k hk)
  have HSu := Lib.hid (fun k hk => foT_succ (P := P) (K := K) (L := a.L) (t.watch s.role) s.who t (k := k) hk)
  have HAll : Hid (followM P K a.L t s.fa = foT P K a.L (t.watch s.role) s.who t (t.watch s.role).length) := Lib.hid (by rw [foT_all]; rfl)
  have H0 : Hid (foT P K a.L (t.watch s.role) s.who t 0 = t) := Lib.hid rfl
  rw [HAll.out]
  obtain ⟨F1, hq1, hb1, hc1⟩ := with_box hw #[.int .i64 s.role, .int .i64 s.who] 53
  obtain ⟨A, ca, F2, hlk, hq2, hb2, hc2⟩ := with_row hq1 s.role (by omega)
  have l1 := hlk _ ((Below.refl _ _).drew)
  obtain ⟨qv, c1, _, _⟩ := Wq.cells hq2
  have f1 := fun o => Lib.cell_of_heap (hc1 _ t _ hq1) o
  have HC1 : Hid (∀ w' t' h', Wq W w' a t' h' F2 → ∀ o, w'.cell? ⟨w.heap.size, o, none⟩ = (#[.int .i64 s.role, .int .i64 s.who] : Array Value)[o]?) := Lib.hid (fun w' t' h' hq o => Lib.cell_of_heap (hc1 w' t' h' (hb2 _ _ _ hq)) o)
  have HB : Hid (∀ w' t' h', Wq W w' a t' h' F2 → Wq W w' a t' h' F) := Lib.hid (fun w' t' h' hq => hb1 _ _ _ (hb2 _ _ _ hq))
  have HQ2 := Lib.hid (hq2.below ((Below.refl _ _).drew))
  have HC2 := Lib.hid hc2
  generalize hfo : foT P K a.L (t.watch s.role) s.who t = fT at *
  clear hfo hq1 hb1 hc1 hlk hq2 hb2 hc2 hi hs HAll hw
  generalize hT : t.watch s.role = T at *
  clear hT
  obtain ⟨s0, s1, s2, s3⟩ := s
  simp only at *
  obtain ⟨r, rfl⟩ : ∃ r : Nat, s1 = r := ⟨s1.toNat, by omega⟩
  obtain ⟨x, rfl⟩ : ∃ x : Nat, s2 = x := ⟨s2.toNat, by omega⟩
  go_enter Try.func36, Try.ntmps36
  go_upto_region 1 with fail
  obtain ⟨bf, hbf⟩ : ∃ bf, w.heap.size = bf := ⟨_, rfl⟩
  simp only [hbf] at HC1 f1 ⊢
  generalize w.alloc (.cells #[.int .i64 (r : Int), .int .i64 (x : Int)] 53) = w0 at *
  go_region
  clear l1 c1 f1
  generalize w0.drew = w1 at *
  go_wp2_with fail
  rw [← H0.out] at HQ2
  go_loopw [16] (fun z wr => ∃ k : Nat, k ≤ T.length ∧ z = .int .i64 k ∧ Hid (Wq W wr a (fT k) (h + 1) F2)) (fun z _ => T.length - (intOf z).toNat)
  case atStart => exact ⟨0, by omega, rfl, HQ2⟩
  case round =>
    obtain ⟨k, hk, rfl, HQ⟩ := hrel
    clear HQ2
    by_cases hlt : k < T.length
    · have e1 : decide ((k : Int) < T.length) = true := by simp; omega
      obtain ⟨hat, hnw, _⟩ := HAt.out k hlt
      rcases HC2.out with hz | ⟨g, rfl, hc3⟩
      · omega
      obtain ⟨hg, hcell⟩ := hc3 _ _ _ HQ.out
      obtain ⟨y0, y1⟩ := hcell k hlt
      have HStep := HSu.out k hlt
      clear hcell hc3
      generalize T[k] = y at *
      obtain ⟨yi, m⟩ := y
      obtain ⟨i0, i1, rt, k1, m3, kn, ln⟩ := hat
      simp only at i0 i1 rt k1 m3 y0 y1
      obtain ⟨i, rfl⟩ : ∃ i : Nat, yi = i := ⟨yi.toNat, by omega⟩
      rw [Int.toNat_natCast] at i1
      obtain ⟨hk0, rh, rw_, ra, rb, rv⟩ := right_r rt
      obtain ⟨qv, c1, hbel, hug⟩ := Wq.cells HQ.out
      have f1 := HC1.out _ _ _ HQ.out
      obtain ⟨ga, oa, hA, hga, hrc⟩ := hug (by omega)
      have hrow := hrc i i1
      have hLu : ruleD a.L i = a.L[i] := by unfold ruleD; rw [Int.toNat_natCast, List.getD_eq_getElem?_getD, List.getElem?_eq_getElem i1]; rfl
      rw [← hLu] at hrow
      have HLk := Lib.hid (fun w' (hq : Wq W w' a (fT k) (h + 1) F2) => PfF.link W w' a (fT k) (h + 1) F2 P K i x hP hK (by omega) (by omega) i1 hq rt (by omega) (by omega) (by have := ln ((x : Int) * K + (ruleD a.L i).via); omega) (by omega))
      have HPu := Lib.hid (fun w' (hq : Wq W w' a (fT k) (h + 1) F2) (mm : Int) => PfC.put W w' a (fT k) (h + 1) F2 ⟨i, (ruleD a.L i).head, x, mm⟩ hq ⟨by unfold Sp.fa; simp only; omega, by unfold Sp.fa; simp only; omega⟩ (by omega))
      have HKa := Lib.hid (fun w' (hq : Wq W w' a (fT k) (h + 1) F2) => PfC.knows W w' a (fT k) (h + 1) F2 ((ruleD a.L i).a, (x : Int)) hq ⟨by simp only; omega, by simp only; omega⟩)
      have HKb := Lib.hid (fun w' (hq : Wq W w' a (fT k) (h + 1) F2) => PfC.knows W w' a (fT k) (h + 1) F2 ((ruleD a.L i).b, (x : Int)) hq ⟨by simp only; omega, by simp only; omega⟩)
      have HS3a := Lib.hid (fun (q : (ruleD a.L i).kind = 3) (e : m = -1) => (HStep.trans (step3a q e)))
      have HS3b := Lib.hid (fun (q : (ruleD a.L i).kind = 3) (e : m ≠ -1) => (HStep.trans (step3b q e)))
      have HS2 := Lib.hid (fun (q : (ruleD a.L i).kind = 2) => (HStep.trans (step2 q)))
      have HS4 := Lib.hid (fun (q : (ruleD a.L i).kind = 4) => (HStep.trans (step4 q)))
      have hrt0 : (ruleD a.L i).kind = 2 ∨ (ruleD a.L i).kind = 3 ∨ (ruleD a.L i).kind = 4 := by omega
      clear hrc hLu hug rt kn ln hnw HStep rh rw_ ra rb rv hk0 k1
      generalize ruleD a.L i = u at *
      obtain ⟨u0, u1, u2, u3, u4, u5⟩ := u
      simp only [Ru.cells] at hrow hrt0 HPu HKa HKb HS3a HS3b HS2 HS4 m3
      have k0 : wr.cell? ⟨ga, oa + i * 6, none⟩ = some (.int .i64 u0) := hrow 0 (by omega)
      have k1 : wr.cell? ⟨ga, oa + i * 6 + 1, none⟩ = some (.int .i64 u1) := hrow 1 (by omega)
      have k2 : wr.cell? ⟨ga, oa + i * 6 + 2, none⟩ = some (.int .i64 u2) := hrow 2 (by omega)
      have k3 : wr.cell? ⟨ga, oa + i * 6 + 3, none⟩ = some (.int .i64 u3) := hrow 3 (by omega)
      have k4 : wr.cell? ⟨ga, oa + i * 6 + 4, none⟩ = some (.int .i64 u4) := hrow 4 (by omega)
      have k5 : wr.cell? ⟨ga, oa + i * 6 + 5, none⟩ = some (.int .i64 u5) := hrow 5 (by omega)
      have p0 : (0 : Int) ≤ k := by omega
      have p1 : (k : Int) < T.length := by omega
      have p2 : (0 : Int) ≤ i := by omega
      have p3 : (i : Int) < a.L.length := by omega
      clear hrow
      have hb1 : Below wr.heap.size wr (wr.alloc (.cells #[.int .i64 (i : Int), .int .i64 m] 100)) := (Below.refl _ _).alloc (Nat.le_refl _) _
      have hq1 := HQ.out.below hb1
      obtain ⟨qv1, c2, _, _⟩ := Wq.cells hq1
      have b1 : ∀ o, (wr.alloc (.cells #[.int .i64 (i : Int), .int .i64 m] 100)).cell? ⟨wr.heap.size, o, none⟩ = (#[.int .i64 (i : Int), .int .i64 m] : Array Value)[o]? := fun o => Lib.cell_of_heap (heap_alloc_new wr _) o
      have hcb := fun (p : Addr) (hp : p.block < wr.heap.size) => hb1.cell (p := p) hp
      have j0 := (hcb ⟨ga, oa + i * 6, none⟩ hga).trans k0
      have j1 := (hcb ⟨ga, oa + i * 6 + 1, none⟩ hga).trans k1
      have j2 := (hcb ⟨ga, oa + i * 6 + 2, none⟩ hga).trans k2
      have j3 := (hcb ⟨ga, oa + i * 6 + 3, none⟩ hga).trans k3
      have j4 := (hcb ⟨ga, oa + i * 6 + 4, none⟩ hga).trans k4
      have j5 := (hcb ⟨ga, oa + i * 6 + 5, none⟩ hga).trans k5
      rw [hA] at c1 c2
      have HQw := Lib.hid (fun w' (hb : Below wr.heap.size wr w') => HQ.out.below hb)
      have hb2 : Below wr.heap.size wr ((wr.alloc (.cells #[.int .i64 (i : Int), .int .i64 m] 100)).alloc (.cells #[.int .i64 0, .int .i64 0, .int .i64 0, .int .i64 0, .int .i64 0, .int .i64 0] 44)) := hb1.alloc (by simp) _
      obtain ⟨qv2, c3, _, _⟩ := Wq.cells (HQ.out.below hb2)
      have b2 : ∀ o, ((wr.alloc (.cells #[.int .i64 (i : Int), .int .i64 m] 100)).alloc (.cells #[.int .i64 0, .int .i64 0, .int .i64 0, .int .i64 0, .int .i64 0, .int .i64 0] 44)).cell? ⟨wr.heap.size, o, none⟩ = (#[.int .i64 (i : Int), .int .i64 m] : Array Value)[o]? := fun o => Lib.cell_of_heap (heap_alloc2_old wr _ _) o
      have hcb2 := fun (p : Addr) (hp : p.block < wr.heap.size) => hb2.cell (p := p) hp
      have l0 := (hcb2 ⟨ga, oa + i * 6, none⟩ hga).trans k0
      have l1 := (hcb2 ⟨ga, oa + i * 6 + 1, none⟩ hga).trans k1
      have l2 := (hcb2 ⟨ga, oa + i * 6 + 2, none⟩ hga).trans k2
      have l3 := (hcb2 ⟨ga, oa + i * 6 + 3, none⟩ hga).trans k3
      have l4 := (hcb2 ⟨ga, oa + i * 6 + 4, none⟩ hga).trans k4
      have l5 := (hcb2 ⟨ga, oa + i * 6 + 5, none⟩ hga).trans k5
      rw [hA] at c3
      -- the two boxes, when both are there
      have hb3 : Below wr.heap.size wr ((wr.alloc (.cells #[.int .i64 (i : Int), .int .i64 m] 100)).alloc (.cells #[.int .i64 u0, .int .i64 u1, .int .i64 u2, .int .i64 u3, .int .i64 u4, .int .i64 u5] 44)).drew := (hb1.alloc (by simp) _).drew
      have hx3 := heap_alloc2_old wr (.cells #[.int .i64 (i : Int), .int .i64 m] 100) (.cells #[.int .i64 u0, .int .i64 u1, .int .i64 u2, .int .i64 u3, .int .i64 u4, .int .i64 u5] 44)
      have hr3 := heap_alloc2_new wr (.cells #[.int .i64 (i : Int), .int .i64 m] 100) (.cells #[.int .i64 u0, .int .i64 u1, .int .i64 u2, .int .i64 u3, .int .i64 u4, .int .i64 u5] 44)
      have HB3 := Lib.hid hb3
      have HX3 : Hid (((wr.alloc (.cells #[.int .i64 (i : Int), .int .i64 m] 100)).alloc (.cells #[.int .i64 u0, .int .i64 u1, .int .i64 u2, .int .i64 u3, .int .i64 u4, .int .i64 u5] 44)).drew.heap[wr.heap.size]? = some (.cells #[.int .i64 (i : Int), .int .i64 m] 100 (0, 0))) := Lib.hid hx3
      have HR3 : Hid (((wr.alloc (.cells #[.int .i64 (i : Int), .int .i64 m] 100)).alloc (.cells #[.int .i64 u0, .int .i64 u1, .int .i64 u2, .int .i64 u3, .int .i64 u4, .int .i64 u5] 44)).drew.heap[wr.heap.size + 1]? = some (.cells #[.int .i64 u0, .int .i64 u1, .int .i64 u2, .int .i64 u3, .int .i64 u4, .int .i64 u5] 44 (0, 0))) := Lib.hid hr3
      have HF3 := Lib.hid (fun w' (hb : Below wr.heap.size wr w') => HC1.out _ _ _ (HQ.out.below hb))
      clear hcb hcb2 hb2 hb3 hx3 hr3 hq1
      go_upto_region 4 with fail
      clear k0 k1 k2 k3 k4 k5 y0 y1 c1 f1
      go_region
      clear l0 l1 l2 l3 l4 l5 j0 j1 j2 j3 j4 j5 b1 b2 c2 c3 hb1
      go_upto_region 5 with fail
      generalize ((wr.alloc (.cells #[.int .i64 (i : Int), .int .i64 m] 100)).alloc (.cells #[.int .i64 u0, .int .i64 u1, .int .i64 u2, .int .i64 u3, .int .i64 u4, .int .i64 u5] 44)).drew = w3 at *
      have hb4 : Below wr.heap.size wr (w3.alloc (.cells #[.int .i64 (i : Int), .int .i64 u1, .int .i64 (x : Int), .int .i64 0] 30)) := HB3.out.alloc HB3.out.size _
      have hs4 := heap_alloc_new w3 (.cells #[.int .i64 (i : Int), .int .i64 u1, .int .i64 (x : Int), .int .i64 0] 30)
      have HX4 := Lib.hid ((heap_alloc_old w3 (.cells #[.int .i64 (i : Int), .int .i64 u1, .int .i64 (x : Int), .int .i64 0] 30) (lt_of HX3.out)).trans HX3.out)
      have HR4 := Lib.hid ((heap_alloc_old w3 (.cells #[.int .i64 (i : Int), .int .i64 u1, .int .i64 (x : Int), .int .i64 0] 30) (lt_of HR3.out)).trans HR3.out)
      have HS4w := Lib.hid hs4
      have HB4 := Lib.hid hb4
      have hsz3 := Lib.hid HB3.out.size
      have cx3 := fun o => Lib.cell_of_heap HX3.out o
      have cr3 := fun o => Lib.cell_of_heap HR3.out o
      have cf3 := HF3.out w3 HB3.out
      clear hb4 hs4
      go_upto_region 6 with fail
      clear cx3 cr3 cf3 HX3 HR3 HB3
      obtain ⟨bs, hbs⟩ : ∃ bs, w3.heap.size = bs := ⟨_, rfl⟩
      simp only [hbs] at HS4w hsz3 ⊢
      generalize w3.alloc (.cells #[.int .i64 (i : Int), .int .i64 u1, .int .i64 (x : Int), .int .i64 0] 30) = w4 at *
      have cx := fun o => Lib.cell_of_heap HX4.out o
      have cr := fun o => Lib.cell_of_heap HR4.out o
      have cf := HF3.out w4 HB4.out
      have cs := fun o => Lib.cell_of_heap HS4w.out o
      rcases hrt0 with q | q | q
      · subst q
        have E2 := Lib.hid (HS2.out rfl)
        have HP2 := Lib.hid (HPu.out _ (HQw.out w4 HB4.out) 0)
        clear HPu HKa HKb HLk
        go_wp2_with fail
        refine HP2.out.mono ?_
        rintro e w5 ⟨rfl, hq5⟩
        rw [← E2.out] at hq5
        have HE := Lib.hid hq5
        clear hq5 HP2 cx cr cf cs HS3a HS3b HS2 HS4
        go_wp2_with fail
        go_roundw
        case rel => exact ⟨k + 1, by omega, by go_num, HE⟩
        case measure => simp [intOf]; omega
      · subst q
        by_cases em : m = -1
        · subst em
          have E3 := Lib.hid (HS3a.out rfl rfl)
          have HL2 := Lib.hid (HLk.out _ (HQw.out w4 HB4.out))
          clear HPu HKa HKb HLk
          go_wp2_with fail
          refine HL2.out.mono ?_
          rintro e w5 ⟨rfl, hq5⟩
          rw [← E3.out] at hq5
          have HE := Lib.hid hq5
          clear hq5 HL2 cx cr cf cs HS3a HS3b HS2 HS4
          go_wp2_with fail
          go_roundw
          case rel => exact ⟨k + 1, by omega, by go_num, HE⟩
          case measure => simp [intOf]; omega
        · have dm : (m == -1) = false := by simp [em]
          have E3 := Lib.hid (HS3b.out rfl em)
          have fs : ∀ o, w4.frozen? ⟨bs, o, none⟩ = false := fun o => frozen_of_row _ _ _ _ _ HS4w.out
          have HB5 : Hid (Below wr.heap.size wr (w4.setCell ⟨bs, 3, none⟩ (.int .i64 m))) := Lib.hid (HB4.out.setCell hsz3.out _)
          have cs5 : ∀ o, (w4.setCell ⟨bs, 3, none⟩ (.int .i64 m)).cell? ⟨bs, o, none⟩ = (#[.int .i64 (i : Int), .int .i64 u1, .int .i64 (x : Int), .int .i64 m] : Array Value)[o]? := by
            have hh := Go.heap_setCell_same w4 bs 3 _ _ (.int .i64 m) HS4w.out
            exact fun o => Lib.cell_of_heap hh o
          have HP2 := Lib.hid (HPu.out _ (HQw.out _ HB5.out) m)
          clear HPu HKa HKb HLk
          go_wp2_with fail
          refine HP2.out.mono ?_
          rintro e w5 ⟨rfl, hq5⟩
          rw [← E3.out] at hq5
          have HE := Lib.hid hq5
          clear hq5 HP2 cx cr cf cs HS3a HS3b HS2 HS4
          go_wp2_with fail
          go_roundw
          case rel => exact ⟨k + 1, by omega, by go_num, HE⟩
          case measure => simp [intOf]; omega
      · subst q
        have E4 := Lib.hid (HS4.out rfl)
        have HA2 := Lib.hid (HKa.out _ (HQw.out w4 HB4.out))
        have HB2' := Lib.hid (fun w' hb => HKb.out w' (HQw.out w' hb))
        have HXs : Hid (∀ w', Below w4.heap.size w4 w' → Below wr.heap.size wr w' ∧ w'.heap[wr.heap.size + 1]? = some (.cells #[.int .i64 4, .int .i64 u1, .int .i64 u2, .int .i64 u3, .int .i64 u4, .int .i64 u5] 44 (0, 0)) ∧ w'.heap[bs]? = some (.cells #[.int .i64 (i : Int), .int .i64 u1, .int .i64 (x : Int), .int .i64 0] 30 (0, 0))) := Lib.hid (fun w' hb => ⟨HB4.out.trans (hb.mono HB4.out.size), (hb.block _ (lt_of HR4.out)).trans HR4.out, (hb.block _ (lt_of HS4w.out)).trans HS4w.out⟩)
        clear HKa HKb HLk HS3a HS3b HS2 HS4
        cases g1 : hasS (fT k).known (u3, (x : Int)) with
        | false =>
          rw [g1] at HA2
          rw [g1] at E4
          have hE4 : fT (k + 1) = fT k := E4.out.trans (by simp)
          have HE4 : Hid (∀ w', Below wr.heap.size wr w' → Wq W w' a (fT (k + 1)) (h + 1) F2) := Lib.hid (fun w' hb => by rw [hE4]; exact HQw.out w' hb)
          clear hE4 g1 HPu HB2' E4
          go_wp2_with fail
          refine HA2.out.mono ?_
          rintro e w5 ⟨rfl, hb5⟩
          have HE := Lib.hid (HE4.out w5 (HXs.out _ hb5).1)
          clear hb5 HA2 cx cr cf cs HE4
          go_wp2_with fail
          go_roundw
          case rel => exact ⟨k + 1, by omega, by go_num, HE⟩
          case measure => simp [intOf]; omega
        | true =>
          rw [g1] at HA2
          rw [g1] at E4
          clear g1
          go_wp2_with fail
          refine HA2.out.mono ?_
          rintro e w5 ⟨rfl, hb5⟩
          obtain ⟨hb6, hr6, hs6⟩ := HXs.out _ hb5
          have HX6 := Lib.hid (fun w' (hb : Below w5.heap.size w5 w') => HXs.out w' (hb5.trans (hb.mono hb5.size)))
          have cr6 := fun o => Lib.cell_of_heap hr6 o
          have cf6 := HF3.out w5 hb6
          have HB7 := Lib.hid (HB2'.out w5 hb6)
          cases g2 : hasS (fT k).known (u4, (x : Int)) with
          | false =>
            rw [g2] at HB7
            rw [g2] at E4
            have hE4 : fT (k + 1) = fT k := E4.out.trans (by simp)
            have HE4 : Hid (∀ w', Below wr.heap.size wr w' → Wq W w' a (fT (k + 1)) (h + 1) F2) := Lib.hid (fun w' hb => by rw [hE4]; exact HQw.out w' hb)
            clear hE4 g2 HPu HB2' E4 hb5 hb6 hr6 hs6 HA2 cx cr cf cs
            go_wp2_with fail
            refine HB7.out.mono ?_
            rintro e w6 ⟨rfl, hb7⟩
            have HE := Lib.hid (HE4.out w6 (HX6.out _ hb7).1)
            clear hb7 HB7 cr6 cf6 HE4
            go_wp2_with fail
            go_roundw
            case rel => exact ⟨k + 1, by omega, by go_num, HE⟩
            case measure => simp [intOf]; omega
          | true =>
            rw [g2] at HB7
            rw [g2] at E4
            have hE4 : fT (k + 1) = putM (fT k) ⟨i, u1, x, 0⟩ := E4.out.trans (by simp)
            have HE4 := Lib.hid hE4
            clear hE4 g2 HB2' E4 hb5 hb6 hr6 hs6 HA2 cx cr cf cs
            go_wp2_with fail
            refine HB7.out.mono ?_
            rintro e w6 ⟨rfl, hb7⟩
            obtain ⟨hb8, hr8, hs8⟩ := HX6.out _ hb7
            have cs8 := fun o => Lib.cell_of_heap hs8 o
            have HP2 := Lib.hid (HPu.out _ (HQw.out w6 hb8) 0)
            clear HPu hb7 hb8 hr8 hs8 HB7 cr6 cf6
            go_wp2_with fail
            refine HP2.out.mono ?_
            rintro e w7 ⟨rfl, hq5⟩
            rw [← HE4.out] at hq5
            have HE := Lib.hid hq5
            clear hq5 HP2 cs8 HE4
            go_wp2_with fail
            go_roundw
            case rel => exact ⟨k + 1, by omega, by go_num, HE⟩
            case measure => simp [intOf]; omega
    · have e1 : decide ((k : Int) < T.length) = false := by simp; omega
      obtain rfl : k = T.length := by omega
      have HE := Lib.hid (HB.out _ _ _ HQ.out)
      clear HQ
      go_wp2_with fail
      go_end0
      exact ⟨rfl, HE.out⟩
end Go.Proofs.Ytddjbchlpfaggaa.PfH
