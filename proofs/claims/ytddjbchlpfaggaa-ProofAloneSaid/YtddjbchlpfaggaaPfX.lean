/- Check of any steps, by contract. -/
import Derived.Test.YtddjbchlpfaggaaPfW
import Derived.Test.YtddjbchlpfaggaaPfL
namespace Go.Proofs.Ytddjbchlpfaggaa.PfX
open Go.RowKit Go.Lib Go.Proofs Go.Maps Go.Proofs.Ytddjbchlpfaggaa.TblB Go.Proofs.Ytddjbchlpfaggaa.SetQ Go.Proofs.Ytddjbchlpfaggaa.SetR Go.Proofs.Ytddjbchlpfaggaa.TblC Go.Proofs.Ytddjbchlpfaggaa.TblV Go.Proofs.Ytddjbchlpfaggaa.TblQ Go.Proofs.Ytddjbchlpfaggaa.SemB Go.Proofs.Ytddjbchlpfaggaa.SemC Go.Proofs.Ytddjbchlpfaggaa.SemD Go.Proofs.Ytddjbchlpfaggaa.SemGa Go.Proofs.Ytddjbchlpfaggaa.SemJ Go.Proofs.Ytddjbchlpfaggaa.PfM Go.Proofs.Ytddjbchlpfaggaa.PfN Go.Proofs.Ytddjbchlpfaggaa.PfO Go.Proofs.Ytddjbchlpfaggaa.PfA Go.Proofs.Ytddjbchlpfaggaa.PfB Go.Proofs.Ytddjbchlpfaggaa.PfC Go.Proofs.Ytddjbchlpfaggaa.PfE Go.Proofs.Ytddjbchlpfaggaa.PfJ Go.Proofs.Ytddjbchlpfaggaa.PfK Go.Proofs.Ytddjbchlpfaggaa.PfL Go.Proofs.Ytddjbchlpfaggaa.PfW
set_option linter.unusedVariables false
set_option linter.unusedSimpArgs false
theorem chk_app (P K : Nat) (L : List Ru) : ∀ (l A r : List Sp), chk P K L A (l ++ r) = (chk P K L A l && chk P K L (A ++ l) r)
  | [], A, r => by simp [chk]
  | x :: l, A, r => by
    have := chk_app P K L l (A ++ [x]) r
    simp only [List.cons_append, chk, this, List.append_assoc, List.nil_append, Bool.and_assoc, List.singleton_append]
theorem chk_stop {P K : Nat} {L : List Ru} {T : List Sp} (k : Nat) (h : chk P K L [] (T.take k) = false) : chk P K L [] T = false := by
  rw [← List.take_append_drop k T, chk_app, h, Bool.false_and]
theorem chk_next {P K : Nat} {L : List Ru} {T : List Sp} {k : Nat} (hk : k < T.length) (h : chk P K L [] (T.take k) = true) : chk P K L [] (T.take (k + 1)) = (okS P K L (T.take k) T[k] && !hasS (T.take k) T[k].fa) := by
  rw [List.take_succ_eq_append_getElem hk, chk_snoc, h, Bool.true_and, List.nil_append]
theorem okS_none {P K : Nat} {L : List Ru} {A : List Sp} {s : Sp} (h : ruleAt P K L s.rule = none) : okS P K L A s = false := by unfold okS; rw [h]
theorem okS_some {P K : Nat} {L : List Ru} {A : List Sp} {s : Sp} {u : Ru} (h : ruleAt P K L s.rule = some u) : okS P K L A s = (fitB P u s && (under K u s).all (hasS A)) := by unfold okS; rw [h]
theorem any_not (l : List Fa) (p : Fa → Bool) : (l.any fun f => !p f) = !(l.all p) := by
  induction l with
  | nil => rfl
  | cons a l ih => simp [ih]
theorem under_in {P K : Nat} {u : Ru} {s : Sp} (hP : P ≤ 64) (hK : K ≤ 64) (hr : rightU P K u = true) (hf : fitB P u s = true) : ∀ f ∈ under K u s, InR f := by
  obtain ⟨_, _, hw, ha, hb, hv⟩ := right_r hr
  have h1 : P * K ≤ 64 * 64 := Nat.mul_le_mul hP hK
  unfold fitB at hf
  simp only [Bool.and_eq_true, decide_eq_true_eq] at hf
  obtain ⟨_, hx, _, hm⟩ := hf
  unfold under
  split
  · intro f hf
    simp at hf
    subst hf
    unfold InR
    simp only
    omega
  · split
    · rename_i h3
      rw [if_pos h3, decide_eq_true_eq] at hm
      obtain ⟨m, hm'⟩ : ∃ m : Nat, s.mid = m := ⟨s.mid.toNat, by omega⟩
      have h2 : m * K ≤ 64 * 64 := Nat.mul_le_mul (by omega) hK
      have h4 : 0 ≤ s.mid * (K : Int) ∧ s.mid * (K : Int) ≤ 4096 := by
        rw [hm', ← Int.natCast_mul]
        omega
      intro f hf
      simp at hf
      rcases hf with rfl | rfl
      · unfold InR
        simp only
        omega
      · unfold InR
        simp only
        omega
    · split
      · intro f hf
        simp at hf
        rcases hf with rfl | rfl
        · unfold InR
          simp only
          omega
        · unfold InR
          simp only
          omega
      · intro f hf
        cases hf
theorem box2 (w : World) (c1 c2 : Array Value) (t1 t2 : TypeId) : ∃ w3, (w.alloc (.cells c1 t1)).alloc (.cells c2 t2) = w3 ∧ Below w.heap.size w w3 ∧ w3.heap[w.heap.size]? = some (.cells c1 t1 (0, 0)) ∧ w3.heap[w.heap.size + 1]? = some (.cells c2 t2 (0, 0)) ∧ w3.heap.size = w.heap.size + 1 + 1 :=
  ⟨_, rfl, ((Below.refl w.heap.size w).alloc (Nat.le_refl _) _).alloc (by simp) _, heap_alloc2_old w _ _, heap_alloc2_new w _ _, by simp⟩
/-- What Check holds in memory. -/
structure Ck (W w : World) (d0 d1 : Int) (A : Option Addr) (n ca b : Nat) (kn : List Sp) : Prop where
  bel : Below W.heap.size W w
  hg : w.heap[b]? = some (.cells #[.int .i64 d0, .int .i64 d1, .slice A n ca] 50 (0, 0))
  hm : w.heap[b + 1 + 1]? = some (.cells #[.map (some (b + 1))] 51 (0, 0))
  km : MapV w 53 fv (b + 1) kn.length (kmap kn)
  up : W.heap.size ≤ b
theorem Ck.below {W w w' : World} {d0 d1 : Int} {A : Option Addr} {n ca b : Nat} {kn : List Sp} (h : Ck W w d0 d1 A n ca b kn) (hb : Below w.heap.size w w') : Ck W w' d0 d1 A n ca b kn :=
  ⟨nx h.bel hb, (hb.block _ (lt_of h.hg)).trans h.hg, (hb.block _ (lt_of h.hm)).trans h.hm, h.km.below hb, h.up⟩
theorem Ck.turned {W w w' : World} {d0 d1 : Int} {A : Option Addr} {n ca b : Nat} {kn kn' : List Sp} (h : Ck W w d0 d1 A n ca b kn) (hm : MapV w' 53 fv (b + 1) kn'.length (kmap kn')) (ht : w.mapTurned w' (b + 1)) : Ck W w' d0 d1 A n ca b kn' := by
  have hg := ht.grown
  have hk : ∀ {c : Nat}, c < w.heap.size → c ≠ b + 1 → w'.heap[c]? = w.heap[c]? := fun {c} hc hne => hg.block c hc (fun e => hne (by simpa using e))
  exact {
    bel := h.bel.grown hg h.bel.size (fun k hk => by simp at hk; subst hk; have := h.up; omega)
    hg := (hk (lt_of h.hg) (by omega)).trans h.hg
    hm := (hk (lt_of h.hm) (by omega)).trans h.hm
    km := hm
    up := h.up }
theorem ck_start (w : World) (d0 d1 : Int) (A : Option Addr) (n ca : Nat) : Ck w (((w.alloc (.cells #[.int .i64 d0, .int .i64 d1, .slice A n ca] 50)).alloc (.map #[] 0)).alloc (.cells #[.map (some (w.heap.size + 1))] 51)) d0 d1 A n ca w.heap.size [] := by
  have g0 := heap_alloc_new w (.cells #[.int .i64 d0, .int .i64 d1, .slice A n ca] 50)
  have b0 := (Below.refl w.heap.size w).alloc (Nat.le_refl _) (.cells #[.int .i64 d0, .int .i64 d1, .slice A n ca] 50)
  obtain ⟨w1, h1⟩ : ∃ x, w.alloc (.cells #[.int .i64 d0, .int .i64 d1, .slice A n ca] 50) = x := ⟨_, rfl⟩
  have z1 : w1.heap.size = w.heap.size + 1 := by rw [← h1]; simp
  rw [h1] at g0 b0 ⊢
  have m1 := MapV.made (key := fv) w1 53
  have b1 := (Below.refl w1.heap.size w1).alloc (Nat.le_refl _) (.map #[] 0)
  obtain ⟨w2, h2⟩ : ∃ x, w1.alloc (.map #[] 0) = x := ⟨_, rfl⟩
  have z2 : w2.heap.size = w.heap.size + 1 + 1 := by rw [← h2]; simp [z1]
  rw [h2] at m1 b1 ⊢
  rw [z1] at m1
  have g2 := heap_alloc_new w2 (.cells #[.map (some (w.heap.size + 1))] 51)
  have b2 := (Below.refl w2.heap.size w2).alloc (Nat.le_refl _) (.cells #[.map (some (w.heap.size + 1))] 51)
  rw [z2] at g2
  exact ⟨nx (nx b0 b1) b2, (b2.block _ (by omega)).trans ((b1.block _ (by omega)).trans g0), g2, (by simpa using (m1.below b2) : MapV _ _ _ _ _ (fun _ => none)), Nat.le_refl _⟩
set_option maxHeartbeats 4000000 in
set_option maxRecDepth 100000 in
theorem checkP (d0 d1 : Int) (A : Option Addr) (ca : Nat) (L : List Ru) (B : Option Addr) (cb : Nat) (T : List Sp) (w : World) (g1 : d0 ≤ 64) (g2 : d1 ≤ 64) (hL : L.length ≤ 1000) (hT : T.length ≤ 100000) (hA : UG w A L) (hB : TG w B T) (hI : ∀ s ∈ T, InR s.fa) :
    Calls Try.prog 10 #[.int .i64 d0, .int .i64 d1, .slice A L.length ca, .slice B T.length cb] w fun e w' => e = .returned (.bool (chk d0.toNat d1.toNat L [] T)) ∧ Below w.heap.size w w' := by
  have hmm := @run_makeMap Try.prog
  have hmf : ∀ (fn : Fn) (first cap : Array Value) (w : World), (Instr.makeFunc fn first cap).run Try.prog w = .ok (.func fn first cap) w := fun _ _ _ _ => rfl
  have HC0 := Lib.hid (ck_start w d0 d1 A L.length ca)
  have HR := Lib.hid (fun w' (hb : Below w.heap.size w w') (i : Int) => rule d0 d1 A ca L i w' g1 g2 hL (hA.below hb))
  have HB := Lib.hid (fun w' (hb : Below w.heap.size w w') => hB.below hb)
  clear hA hB
  obtain ⟨ans, hans⟩ : ∃ b, chk d0.toNat d1.toNat L [] T = b := ⟨_, rfl⟩
  rw [hans]
  have HAns := Lib.hid hans
  clear hans
  go_enter Try.func10, Try.ntmps10
  go_wp2_with fail
  clear hmm hmf
  go_loopw [25] (fun i wr => ∃ k : Nat, k ≤ T.length ∧ i = .int .i64 k ∧ Hid (Ck w wr d0 d1 A L.length ca w.heap.size (T.take k)) ∧ Hid (chk d0.toNat d1.toNat L [] (T.take k) = true)) (fun i _ => T.length - (intOf i).toNat)
  case atStart => exact ⟨0, by omega, rfl, Lib.hid HC0.out, Lib.hid rfl⟩
  case round =>
    obtain ⟨k, hk, rfl, hck, hch⟩ := hrel
    by_cases hlt : k < T.length
    · have e1 : decide ((k : Int) < T.length) = true := by simp; omega
      obtain ⟨g, o, rfl, hg, hc⟩ := HB.out _ hck.out.bel (by omega)
      have hc2 := hc k hlt
      have hin := hI T[k] (List.getElem_mem hlt)
      have hnx := chk_next hlt hch.out
      have HFail : Hid ((okS d0.toNat d1.toNat L (T.take k) T[k] && !hasS (T.take k) T[k].fa) = false → ans = false) := Lib.hid (fun h => by rw [← HAns.out]; exact chk_stop (k + 1) (by rw [hnx, h]))
      have HGood : Hid ((okS d0.toNat d1.toNat L (T.take k) T[k] && !hasS (T.take k) T[k].fa) = true → chk d0.toNat d1.toNat L [] (T.take (k + 1)) = true) := Lib.hid (fun h => by rw [hnx, h])
      have HPut : Hid (hasS (T.take k) T[k].fa = false → putK (kmap (T.take k)) T[k].fa (Sp.val T[k]) = kmap (T.take (k + 1))) := Lib.hid (fun h => by rw [List.take_succ_eq_append_getElem hlt]; exact kmap_put h)
      have HLt : Hid ((T.take (k + 1)).length = (T.take k).length + 1) := Lib.hid (by rw [List.length_take, List.length_take]; omega)
      have HLk : Hid ((T.take k).length ≤ 100000) := Lib.hid (by rw [List.length_take]; omega)
      clear hc hnx
      have q0 : (0 : Int) ≤ k := by omega
      have q1 : (k : Int) < T.length := by omega
      have hwk : IntKind.i64.wrap ((k : Int) + 1) = (k : Int) + 1 := by rw [IntKind.wrap_i64]; omega
      generalize T[k] = s at *
      obtain ⟨s0, s1, s2, s3⟩ := s
      simp only [Sp.cells] at hc2
      have y0 : wr.cell? ⟨g, o + k * 4, none⟩ = some (.int .i64 s0) := hc2 0 (by omega)
      have y1 : wr.cell? ⟨g, o + k * 4 + 1, none⟩ = some (.int .i64 s1) := hc2 1 (by omega)
      have y2 : wr.cell? ⟨g, o + k * 4 + 2, none⟩ = some (.int .i64 s2) := hc2 2 (by omega)
      have y3 : wr.cell? ⟨g, o + k * 4 + 3, none⟩ = some (.int .i64 s3) := hc2 3 (by omega)
      clear hc2
      have hn := heap_alloc_new wr (.cells #[.int .i64 s0, .int .i64 s1, .int .i64 s2, .int .i64 s3] 30)
      have hba := (Below.refl wr.heap.size wr).alloc (Nat.le_refl _) (.cells #[.int .i64 s0, .int .i64 s1, .int .i64 s2, .int .i64 s3] 30)
      have hk1 := hck.out.below hba
      have HK1 := Lib.hid hk1
      have HRk := Lib.hid (HR.out _ hk1.bel s0)
      have HN := Lib.hid hn
      have cg := fun o => Lib.cell_of_heap hk1.hg o
      have cs := fun o => Lib.cell_of_heap hn o
      unfold RulePost at HRk
      obtain ⟨b0, hb0⟩ : ∃ b, w.heap.size = b := ⟨_, rfl⟩
      obtain ⟨bs, hbs⟩ : ∃ b, wr.heap.size = b := ⟨_, rfl⟩
      simp only [hb0, hbs] at cg cs HN HK1 ⊢
      clear hn hba hk1
      go_wp2_with fail
      refine HRk.out.mono ?_
      rintro e w4 ⟨v, rfl, hv, hb4⟩
      obtain ⟨v0, v1, v2, v3, v4, v5⟩ := v
      have hk4 := HK1.out.below hb4
      have hs4 := (hb4.block _ (lt_of HN.out)).trans HN.out
      obtain ⟨w6, hw6, hb6, x1, x2, hsz⟩ := box2 w4 #[.int .i64 v0, .int .i64 v1, .int .i64 v2, .int .i64 v3, .int .i64 v4, .int .i64 v5] #[.int .i64 s1, .int .i64 s2] 44 53
      have hk6 := hk4.below hb6
      have hs6 := (hb6.block _ (lt_of hs4)).trans hs4
      have HX := Lib.hid (fun w' (hb : Below w6.heap.size w6 w') => And.intro (hk6.below hb) (And.intro ((hb.block _ (lt_of hs6)).trans hs6) (And.intro ((hb.block _ (lt_of x1)).trans x1) ((hb.block _ (lt_of x2)).trans x2))))
      have hs5 := (((Below.refl w4.heap.size w4).alloc (Nat.le_refl _) (.cells #[.int .i64 v0, .int .i64 v1, .int .i64 v2, .int .i64 v3, .int .i64 v4, .int .i64 v5] 44)).block _ (lt_of hs4)).trans hs4
      have cs5 := fun o => Lib.cell_of_heap hs5 o
      have z4 : (w4.alloc (.cells #[.int .i64 v0, .int .i64 v1, .int .i64 v2, .int .i64 v3, .int .i64 v4, .int .i64 v5] 44)).heap.size = w4.heap.size + 1 := by simp
      clear hs5 hs4
      clear hk4 hb4 hk6 hs6 x1 x2 HK1 HN HRk cs cg
      simp only
      cases hr : ruleAt d0.toNat d1.toNat L s0 with
      | none =>
        have HE := Lib.hid (HFail.out (by rw [okS_none hr, Bool.false_and]))
        have HBn := Lib.hid (HX.out w6 (Below.refl _ _)).1.bel
        clear hr hv HFail HGood HPut HX hck hch
        simp only [Option.isSome]
        go_wp2_with fail
        go_ret
        exact ⟨SetB.ret_bool HE.out.symm, by first | exact HBn.out | (rw [hb0]; exact HBn.out)⟩
      | some u =>
        obtain rfl := hv u hr
        simp only [Option.isSome]
        go_upto_region 9 with fail
        clear cs5 z4
        obtain ⟨r0, r1, r2, r3⟩ := ruleAt_some hr
        obtain ⟨p0, p1⟩ := right_dims r3
        have e0 : ((d0.toNat : Nat) : Int) = d0 := by omega
        have eK : d1 = ((d1.toNat : Nat) : Int) := by omega
        have hok := okS_some (A := T.take k) (s := ⟨s0, s1, s2, s3⟩) hr
        rw [e0] at hok
        rw [hok] at HFail HGood
        have HFt := Lib.hid (fun w' => fits d0 d1 (.slice A L.length ca) ⟨v0, v1, v2, v3, v4, v5⟩ ⟨s0, s1, s2, s3⟩ w')
        have HIn : Hid (fitB d0 ⟨v0, v1, v2, v3, v4, v5⟩ ⟨s0, s1, s2, s3⟩ = true → ∀ f ∈ under d1.toNat ⟨v0, v1, v2, v3, v4, v5⟩ ⟨s0, s1, s2, s3⟩, InR f) := Lib.hid (fun h => under_in (P := d0.toNat) (by omega) (by omega) r3 (by rw [e0]; exact h))
        have HUn : Hid (fitB d0 ⟨v0, v1, v2, v3, v4, v5⟩ ⟨s0, s1, s2, s3⟩ = true → ∀ w', Calls Try.prog 25 #[.agg #[.int .i64 d0, .int .i64 d1, .slice A L.length ca], .agg #[.int .i64 v0, .int .i64 v1, .int .i64 v2, .int .i64 v3, .int .i64 v4, .int .i64 v5], .agg #[.int .i64 s0, .int .i64 s1, .int .i64 s2, .int .i64 s3]] w' (UnderPost (under d1.toNat ⟨v0, v1, v2, v3, v4, v5⟩ ⟨s0, s1, s2, s3⟩) w')) := Lib.hid (fun h w' => under_ d0 d1 A L.length ca ⟨v0, v1, v2, v3, v4, v5⟩ ⟨s0, s1, s2, s3⟩ d1.toNat w' (fun k3 => by
          simp only at k3
          have q := h
          unfold fitB at q
          simp only [Bool.and_eq_true, decide_eq_true_eq] at q
          have q := q.2.2.2
          rw [if_pos k3, decide_eq_true_eq] at q
          obtain ⟨_, _, _, _, _, rv⟩ := right_r r3
          simp only at rv ⊢
          omega))
        simp only [Sp.fa] at HFail HGood HPut hin
        have HUk := Lib.hid (fun w' (hb : Below w6.heap.size w6 w') (f : Fa) (hf : InR f) => unk w' (b0 + 1 + 1) (b0 + 1) _ (T.take k) f hf (Lib.cell_of_heap (HX.out w' hb).1.hm 0) (HX.out w' hb).1.km)
        have hlen : (under (d1.toNat : Int) ⟨v0, v1, v2, v3, v4, v5⟩ ⟨s0, s1, s2, s3⟩).length ≤ 2 := by unfold under; split <;> (try split) <;> (try split) <;> simp
        generalize under (d1.toNat : Int) ⟨v0, v1, v2, v3, v4, v5⟩ ⟨s0, s1, s2, s3⟩ = D at *
        clear hok hr hv r0 r1 r2 r3 p0 p1 e0 eK
        have hb66 := Below.refl w6.heap.size w6
        obtain ⟨hk_, zs_, zr_, zf_⟩ := HX.out w6 hb66
        have cg := fun o => Lib.cell_of_heap hk_.hg o
        have cm := fun o => Lib.cell_of_heap hk_.hm o
        have cs := fun o => Lib.cell_of_heap zs_ o
        have cr := fun o => Lib.cell_of_heap zr_ o
        have cf := fun o => Lib.cell_of_heap zf_ o
        clear hk_ zs_ zr_ zf_
        cases hfit : fitB d0 ⟨v0, v1, v2, v3, v4, v5⟩ ⟨s0, s1, s2, s3⟩ with
        | false =>
          rw [hfit] at HFt HFail
          have HE := Lib.hid (HFail.out rfl)
          have HBn := Lib.hid (fun w' hb => (HX.out w' hb).1.bel)
          clear HFail HGood HPut hck hch HIn HUn HUk hb66 HX
          go_wp2_with fail
          refine (HFt.out _).mono ?_
          rintro e w7 ⟨rfl, hb7⟩
          have HBm := Lib.hid (HBn.out _ hb7)
          clear HBn hb7 cg cm cs cr cf
          go_wp2_with fail
          go_ret
          exact ⟨SetB.ret_bool HE.out.symm, by first | exact HBm.out | (rw [hb0]; exact HBm.out)⟩
        | true =>
          rw [hfit] at HFt HFail HGood
          have HIn2 := Lib.hid (HIn.out hfit)
          have HUn2 := Lib.hid (HUn.out hfit)
          have HUo := Lib.hid (fun w' hb => HUk.out w' hb (s1, s2) hin)
          simp only at HUo
          clear HIn HUn hfit
          cases hown : hasS (T.take k) (s1, s2) with
          | true =>
            rw [hown] at HUo HFail
            have HE := Lib.hid (HFail.out (by simp))
            have HBn := Lib.hid (fun w' hb => (HX.out w' hb).1.bel)
            clear HFail HGood HPut hck hch HIn2 HUn2 HUk
            go_wp2_with fail
            refine (HFt.out _).mono ?_
            rintro e w7 ⟨rfl, hb7⟩
            have HB7 := Lib.hid hb7
            clear cg cm cs cr cf hb66 hb7
            obtain ⟨hk_, zs_, zr_, zf_⟩ := HX.out _ HB7.out
            have cg := fun o => Lib.cell_of_heap hk_.hg o
            have cm := fun o => Lib.cell_of_heap hk_.hm o
            have cs := fun o => Lib.cell_of_heap zs_ o
            have cr := fun o => Lib.cell_of_heap zr_ o
            have cf := fun o => Lib.cell_of_heap zf_ o
            clear hk_ zs_ zr_ zf_
            go_wp2_with fail
            refine (HUo.out _ HB7.out).mono ?_
            rintro e w8 ⟨rfl, hb8⟩
            have HBm := Lib.hid (HBn.out _ (nx HB7.out hb8))
            clear HBn hb8 cg cm cs cr cf HX
            go_wp2_with fail
            go_ret
            exact ⟨SetB.ret_bool HE.out.symm, by first | exact HBm.out | (rw [hb0]; exact HBm.out)⟩
          | false =>
            rw [hown] at HUo HFail HGood
            have HPut2 := Lib.hid (HPut.out hown)
            clear HPut hown
            go_wp2_with fail
            refine (HFt.out _).mono ?_
            rintro e w7 ⟨rfl, hb7⟩
            have HB7 := Lib.hid hb7
            clear cg cm cs cr cf hb66 hb7
            obtain ⟨hk_, zs_, zr_, zf_⟩ := HX.out _ HB7.out
            have cg := fun o => Lib.cell_of_heap hk_.hg o
            have cm := fun o => Lib.cell_of_heap hk_.hm o
            have cs := fun o => Lib.cell_of_heap zs_ o
            have cr := fun o => Lib.cell_of_heap zr_ o
            have cf := fun o => Lib.cell_of_heap zf_ o
            clear hk_ zs_ zr_ zf_
            go_wp2_with fail
            refine (HUo.out _ HB7.out).mono ?_
            rintro e w8 ⟨rfl, hb8⟩
            have HB8 := Lib.hid (nx HB7.out hb8)
            clear cg cm cs cr cf hb8 HUo HFt
            obtain ⟨hk_, zs_, zr_, zf_⟩ := HX.out _ HB8.out
            have cg := fun o => Lib.cell_of_heap hk_.hg o
            have cm := fun o => Lib.cell_of_heap hk_.hm o
            have cs := fun o => Lib.cell_of_heap zs_ o
            have cr := fun o => Lib.cell_of_heap zr_ o
            have cf := fun o => Lib.cell_of_heap zf_ o
            clear hk_ zs_ zr_ zf_
            go_wp2_with fail
            refine (HUn2.out _).mono ?_
            rintro e w9 ⟨A9, rfl, hA9, hb9⟩
            have HB9 := Lib.hid (nx HB8.out hb9)
            have HCo := Lib.hid (contF w9 (b0 + 1 + 1) (fun f => !hasS (T.take k) f) D A9 D.length (fun w' hb f hf => HUk.out w' (nx HB9.out hb) f (HIn2.out f hf)) (fun hp => by obtain ⟨g, e, _, hg⟩ := hA9 hp; exact ⟨g, e, hg⟩) (by omega))
            rw [any_not] at HCo
            unfold unkV at HCo
            clear cg cm cs cr cf hb9 HUn2 HUk HIn2 hA9
            obtain ⟨hk_, zs_, zr_, zf_⟩ := HX.out _ HB9.out
            have cg := fun o => Lib.cell_of_heap hk_.hg o
            have cm := fun o => Lib.cell_of_heap hk_.hm o
            have cs := fun o => Lib.cell_of_heap zs_ o
            have cr := fun o => Lib.cell_of_heap zr_ o
            have cf := fun o => Lib.cell_of_heap zf_ o
            clear hk_ zs_ zr_ zf_
            go_wp2_with fail
            refine HCo.out.mono ?_
            rintro e w10 ⟨rfl, hb10⟩
            have HB10 := Lib.hid (nx HB9.out hb10)
            clear cg cm cs cr cf hb10 HCo
            obtain ⟨hk_, zs_, zr_, zf_⟩ := HX.out _ HB10.out
            have cg := fun o => Lib.cell_of_heap hk_.hg o
            have cm := fun o => Lib.cell_of_heap hk_.hm o
            have cs := fun o => Lib.cell_of_heap zs_ o
            have cr := fun o => Lib.cell_of_heap zr_ o
            have cf := fun o => Lib.cell_of_heap zf_ o
            clear hk_ zs_ zr_ zf_
            cases hall : D.all (hasS (T.take k)) with
            | false =>
              rw [hall] at HFail
              have HE := Lib.hid (HFail.out rfl)
              have HBm := Lib.hid (HX.out _ HB10.out).1.bel
              clear cg cm cs cr cf HX HGood HPut2 hck hch
              simp only [hall]
              go_wp2_with fail
              go_ret
              exact ⟨SetB.ret_bool HE.out.symm, by first | exact HBm.out | (rw [hb0]; exact HBm.out)⟩
            | true =>
              rw [hall] at HGood
              have HG := Lib.hid (HGood.out rfl)
              obtain ⟨kl, hkl⟩ := keyF hin.1 hin.2
              have hk10 := (HX.out _ HB10.out).1
              obtain ⟨w11, hr11, hm11, ht11⟩ := hk10.km.store lawF Try.underlying51 (by have := HLk.out; unfold maxLen; omega) fv_inj hkl (Sp.val ⟨s0, s1, s2, s3⟩)
              rw [HPut2.out, ← HLt.out] at hm11
              have HK11 := Lib.hid (hk10.turned hm11 ht11)
              unfold fv Sp.val at hr11
              simp only at hr11
              clear hk10 hm11 ht11 HX HFail HGood HPut2 hck hch
              simp only [hall]
              go_wp2_with fail
              go_roundw
              case rel => exact ⟨k + 1, by omega, by go_num, Lib.hid (by first | exact HK11.out | (rw [hb0]; exact HK11.out)), HG⟩
              case measure => simp [intOf]; omega
    · have e1 : decide ((k : Int) < T.length) = false := by simp; omega
      have HE : Hid (true = ans) := Lib.hid (by
        have := hch.out
        rw [List.take_of_length_le (by omega), HAns.out] at this
        exact this.symm)
      have HBe := Lib.hid hck.out.bel
      clear hck hch
      go_wp2_with fail
      go_ret
      exact ⟨SetB.ret_bool HE.out, HBe.out⟩
end Go.Proofs.Ytddjbchlpfaggaa.PfX
