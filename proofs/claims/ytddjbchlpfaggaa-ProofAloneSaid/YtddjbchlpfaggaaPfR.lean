/- Why, by contract: a proof where there is one. -/
import Derived.Test.YtddjbchlpfaggaaPfQ
namespace Go.Proofs.Ytddjbchlpfaggaa.PfR
open Go.RowKit Go.Lib Go.Proofs Go.Maps Go.Proofs.Ytddjbchlpfaggaa.SetQ Go.Proofs.Ytddjbchlpfaggaa.SetR Go.Proofs.Ytddjbchlpfaggaa.TblC Go.Proofs.Ytddjbchlpfaggaa.TblV Go.Proofs.Ytddjbchlpfaggaa.TblQ Go.Proofs.Ytddjbchlpfaggaa.SemB Go.Proofs.Ytddjbchlpfaggaa.SemC Go.Proofs.Ytddjbchlpfaggaa.SemD Go.Proofs.Ytddjbchlpfaggaa.SemGa Go.Proofs.Ytddjbchlpfaggaa.SemJ Go.Proofs.Ytddjbchlpfaggaa.PfM Go.Proofs.Ytddjbchlpfaggaa.PfN Go.Proofs.Ytddjbchlpfaggaa.PfO Go.Proofs.Ytddjbchlpfaggaa.PfA Go.Proofs.Ytddjbchlpfaggaa.PfB Go.Proofs.Ytddjbchlpfaggaa.PfC Go.Proofs.Ytddjbchlpfaggaa.PfE Go.Proofs.Ytddjbchlpfaggaa.PfI Go.Proofs.Ytddjbchlpfaggaa.PfJ Go.Proofs.Ytddjbchlpfaggaa.PfK Go.Proofs.Ytddjbchlpfaggaa.PfL Go.Proofs.Ytddjbchlpfaggaa.PfQ
set_option linter.unusedVariables false
set_option linter.unusedSimpArgs false
/-- A proof of a fact: right steps, the last of which tells it, each of the others stood on by a later one. -/
structure Proof (P K : Nat) (L : List Ru) (f : Fa) (T : List Sp) : Prop where
  ck : chk P K L [] T = true
  last : ∃ T' s, T = T' ++ [s] ∧ s.fa = f
  need : Need K L T [f]
def WhyPost (P K : Nat) (L : List Ru) (f : Fa) (w : World) (e : Ending) (w' : World) : Prop :=
  Below w.heap.size w w' ∧ ((derB P K L f.1 f.2 = true ∧ ∃ A ca T, e = .returned (.tuple #[.slice A T.length ca, .bool true]) ∧ TG w' A T ∧ T.length ≤ ca ∧ Proof P K L f T) ∨ (derB P K L f.1 f.2 = false ∧ e = .returned (.tuple #[.slice none 0 0, .bool false])))
set_option maxRecDepth 100000 in
theorem wt_start {w w3 : World} {b n : Nat} {d0 d1 : Int} {A : Option Addr} {ca : Nat} {z : Array Value} (c : Ctx) (hn : n = c.L.length) (hb : Below w.heap.size w w3) (hu : UG w A c.L) (hm : MapV w3 53 fv b c.kn.length (kmap c.kn)) (hlt : w.heap.size + 1 < w3.heap.size)
    (hr : w3.heap[w.heap.size]? = some (.cells #[.slice A n ca] 23 (0, 0))) (hg : w3.heap[w.heap.size + 1]? = some (.cells #[.int .i64 d0, .int .i64 d1, .slice A n ca] 50 (0, 0))) :
    Wt w ((((((w3.alloc (.cells #[.map (some b)] 51)).alloc (.cells z 30)).alloc (.cells #[.slice none 0 0] 24)).alloc (.map #[] 0)).alloc (.cells #[.map (some (w3.heap.size + 1 + 1 + 1))] 69)).alloc
      (.cells #[.func (.func 29) #[] #[.pointer (some ⟨w3.heap.size + 1 + 1 + 1 + 1, 0, none⟩), .pointer (some ⟨w3.heap.size, 0, none⟩), .pointer (some ⟨w.heap.size + 1, 0, none⟩), .pointer (some ⟨w.heap.size, 0, none⟩), .pointer (some ⟨w3.heap.size + 1 + 1 + 1 + 1 + 1, 0, none⟩), .pointer (some ⟨w3.heap.size + 1 + 1, 0, none⟩)]] 70))
      ⟨w3.heap.size + 1 + 1, w3.heap.size + 1 + 1 + 1, b, c.kn.length, A⟩ c [] [] (.slice none 0 0) (consts (w3.heap.size + 1 + 1 + 1 + 1) w3.heap.size (w.heap.size + 1) w.heap.size (w3.heap.size + 1 + 1 + 1 + 1 + 1) (w3.heap.size + 1 + 1) (w3.heap.size + 1 + 1 + 1) b d0 d1 A n ca) := by
  obtain ⟨x0, h0⟩ : ∃ x, w3.alloc (.cells #[.map (some b)] 51) = x := ⟨_, rfl⟩
  have z0 : x0.heap.size = w3.heap.size + 1 := by rw [← h0]; simp
  have b0 : Below w3.heap.size w3 x0 := by rw [← h0]; exact (Below.refl _ _).alloc (Nat.le_refl _) _
  have g0 : x0.heap[w3.heap.size]? = some (.cells #[.map (some b)] 51 (0, 0)) := by rw [← h0]; exact heap_alloc_new w3 _
  rw [h0]
  obtain ⟨x1, h1⟩ : ∃ x, x0.alloc (.cells z 30) = x := ⟨_, rfl⟩
  have z1 : x1.heap.size = w3.heap.size + 1 + 1 := by rw [← h1]; simp [z0]
  have b1 : Below x0.heap.size x0 x1 := by rw [← h1]; exact (Below.refl _ _).alloc (Nat.le_refl _) _
  rw [h1]
  obtain ⟨x2, h2⟩ : ∃ x, x1.alloc (.cells #[.slice none 0 0] 24) = x := ⟨_, rfl⟩
  have z2 : x2.heap.size = w3.heap.size + 1 + 1 + 1 := by rw [← h2]; simp [z1]
  have b2 : Below x1.heap.size x1 x2 := by rw [← h2]; exact (Below.refl _ _).alloc (Nat.le_refl _) _
  have g2 : x2.heap[w3.heap.size + 1 + 1]? = some (.cells #[.slice none 0 0] 24 (0, 0)) := by rw [← h2, ← z1]; exact heap_alloc_new x1 _
  rw [h2]
  obtain ⟨x3, h3⟩ : ∃ x, x2.alloc (.map #[] 0) = x := ⟨_, rfl⟩
  have z3 : x3.heap.size = w3.heap.size + 1 + 1 + 1 + 1 := by rw [← h3]; simp [z2]
  have b3 : Below x2.heap.size x2 x3 := by rw [← h3]; exact (Below.refl _ _).alloc (Nat.le_refl _) _
  have g3 : MapV x3 53 fv (w3.heap.size + 1 + 1 + 1) 0 (tmap []) := by
    have e : tmap [] = fun _ => none := by funext f; simp [tmap]
    rw [e, ← h3, ← z2]; exact MapV.made x2 _ _
  rw [h3]
  obtain ⟨x4, h4⟩ : ∃ x, x3.alloc (.cells #[.map (some (w3.heap.size + 1 + 1 + 1))] 69) = x := ⟨_, rfl⟩
  have z4 : x4.heap.size = w3.heap.size + 1 + 1 + 1 + 1 + 1 := by rw [← h4]; simp [z3]
  have b4 : Below x3.heap.size x3 x4 := by rw [← h4]; exact (Below.refl _ _).alloc (Nat.le_refl _) _
  have g4 : x4.heap[w3.heap.size + 1 + 1 + 1 + 1]? = some (.cells #[.map (some (w3.heap.size + 1 + 1 + 1))] 69 (0, 0)) := by rw [← h4, ← z3]; exact heap_alloc_new x3 _
  rw [h4]
  have g5 := heap_alloc_new x4 (.cells #[.func (.func 29) #[] #[.pointer (some ⟨w3.heap.size + 1 + 1 + 1 + 1, 0, none⟩), .pointer (some ⟨w3.heap.size, 0, none⟩), .pointer (some ⟨w.heap.size + 1, 0, none⟩), .pointer (some ⟨w.heap.size, 0, none⟩), .pointer (some ⟨w3.heap.size + 1 + 1 + 1 + 1 + 1, 0, none⟩), .pointer (some ⟨w3.heap.size + 1 + 1, 0, none⟩)]] 70)
  have b5 := (Below.refl x4.heap.size x4).alloc (Nat.le_refl _) (.cells #[.func (.func 29) #[] #[.pointer (some ⟨w3.heap.size + 1 + 1 + 1 + 1, 0, none⟩), .pointer (some ⟨w3.heap.size, 0, none⟩), .pointer (some ⟨w.heap.size + 1, 0, none⟩), .pointer (some ⟨w.heap.size, 0, none⟩), .pointer (some ⟨w3.heap.size + 1 + 1 + 1 + 1 + 1, 0, none⟩), .pointer (some ⟨w3.heap.size + 1 + 1, 0, none⟩)]] 70)
  rw [z4] at g5
  generalize x4.alloc (.cells #[.func (.func 29) #[] #[.pointer (some ⟨w3.heap.size + 1 + 1 + 1 + 1, 0, none⟩), .pointer (some ⟨w3.heap.size, 0, none⟩), .pointer (some ⟨w.heap.size + 1, 0, none⟩), .pointer (some ⟨w.heap.size, 0, none⟩), .pointer (some ⟨w3.heap.size + 1 + 1 + 1 + 1 + 1, 0, none⟩), .pointer (some ⟨w3.heap.size + 1 + 1, 0, none⟩)]] 70) = x5 at *
  have b45 : Below x4.heap.size x4 x5 := b5
  have b35 : Below x3.heap.size x3 x5 := b4.trans (b45.mono (by omega))
  have b25 : Below x2.heap.size x2 x5 := b3.trans (b35.mono (by omega))
  have b15 : Below x1.heap.size x1 x5 := b2.trans (b25.mono (by omega))
  have b05 : Below x0.heap.size x0 x5 := b1.trans (b15.mono (by omega))
  have bw5 : Below w3.heap.size w3 x5 := b0.trans (b05.mono (by omega))
  exact {
    bel := hb.trans (bw5.mono (by omega))
    hs := (b25.block (w3.heap.size + 1 + 1) (by omega)).trans g2
    ug := hu
    km := hm.below bw5
    tm := g3.below b35
    ne := by have := hm.lt; simp only; omega
    row := World.ownsRow_nil _ _ _ _
    up := by simp only; omega
    F := by
      simp only [consts, List.forall_mem_cons]
      refine ⟨⟨(b45.block _ (by omega)).trans g4, by omega, by simp [Value.ownBlock]⟩, ⟨(b05.block _ (by omega)).trans g0, by omega, by simp [Value.ownBlock]⟩, ⟨(bw5.block _ (by omega)).trans hg, by omega, by simp [Value.ownBlock]⟩, ⟨(bw5.block _ (by omega)).trans hr, by omega, by simp [Value.ownBlock]⟩, ⟨g5, by omega, by simp [Value.ownBlock]⟩, ?_⟩
      intro p hp
      cases hp }
theorem told0 (c : Ctx) : TolS c [] [] [] :=
  ⟨rfl, (fun s hs => by cases hs), (fun f => by simp [hasS]), List.nodup_nil, (fun f hf => by cases hf), (fun f hf => by cases hf)⟩
set_option maxHeartbeats 2000000 in
set_option maxRecDepth 100000 in
theorem why (d0 d1 : Int) (A : Option Addr) (ca : Nat) (L : List Ru) (f : Fa) (w : World) (g1 : d0 ≤ 10) (g2 : d1 ≤ 6) (hL : L.length ≤ 60) (hA : UG w A L) (hf : InR f) :
    Calls Try.prog 14 #[.int .i64 d0, .int .i64 d1, .slice A L.length ca, .int .i64 f.1, .int .i64 f.2] w (WhyPost d0.toNat d1.toNat L f w) := by
  obtain ⟨kl, hkl⟩ := keyF hf.1 hf.2
  have hmm := @run_makeMap Try.prog
  have hmf : ∀ (fn : Fn) (first cap : Array Value) (w : World), (Instr.makeFunc fn first cap).run Try.prog w = .ok (.func fn first cap) w := fun _ _ _ _ => rfl
  have hb2 : Below w.heap.size w ((w.alloc (.cells #[.slice A L.length ca] 23)).alloc (.cells #[.int .i64 d0, .int .i64 d1, .slice A L.length ca] 50)) := ((Below.refl _ _).alloc (Nat.le_refl _) _).alloc (by simp) _
  have hr2 := heap_alloc2_old w (.cells #[.slice A L.length ca] 23) (.cells #[.int .i64 d0, .int .i64 d1, .slice A L.length ca] 50)
  have hg2 := heap_alloc2_new w (.cells #[.slice A L.length ca] 23) (.cells #[.int .i64 d0, .int .i64 d1, .slice A L.length ca] 50)
  have cg := fun o => Lib.cell_of_heap hg2 o
  have HS := Lib.hid (PfI.search d0 d1 A ca L _ g1 g2 hL (hA.below hb2))
  have HB2 := Lib.hid hb2
  have HR2 := Lib.hid hr2
  have HG2 := Lib.hid hg2
  have HUG := Lib.hid hA
  have HKl := Lib.hid hkl
  clear hb2 hr2 hg2 hA hkl
  go_enter Try.func14, Try.ntmps14
  go_wp2_with fail
  refine HS.out.mono ?_
  rintro e w3 ⟨b, kn, rfl, hbge, hmk, hb3, hck, hder⟩
  have hb03 := SemI.nx HB2.out hb3
  have hr3 := (hb3.block _ (lt_of HR2.out)).trans HR2.out
  have hg3 := (hb3.block _ (lt_of HG2.out)).trans HG2.out
  have hk4 := hmk.below ((Below.refl _ _).alloc (Nat.le_refl _) (.cells #[.map (some b)] 51))
  have lk := hk4.look_ok lawF Try.underlying51 (zeroS _) HKl.out
  rw [kmap_some] at lk
  obtain ⟨z, hz⟩ := kmap_val kn f
  rw [hz] at lk
  have hd := hder f.1 f.2
  have ef : ((f.1, f.2) : Fa) = f := rfl
  rw [ef] at hd
  unfold fv at lk
  have HDer := Lib.hid hd
  have HC := Lib.hid hck
  have HD : Hid (∀ s ∈ kn, d1 = (d1.toNat : Int)) := Lib.hid (fun s hs => by
    obtain ⟨_, _, u, hu, _⟩ := chk_rng _ _ hck s hs
    have := right_dims (ruleAt_some hu).2.2.2
    omega)
  have HMK := Lib.hid hmk
  have HB03 := Lib.hid hb03
  have HR3 := Lib.hid hr3
  have HG3 := Lib.hid hg3
  have hlt3 : b < w3.heap.size := hmk.lt
  have HBG := Lib.hid hbge
  clear hb03 hr3 hg3 hk4 hmk hb3 hck hder hd hz HS HB2 HR2 HG2 cg HKl hbge
  cases hans : hasS kn f with
  | false =>
    rw [hans] at lk
    have HF := Lib.hid ((HB03.out.alloc HB03.out.size (.cells #[.map (some b)] 51)).alloc (Nat.le_trans HB03.out.size (by simp)) (.cells #[.int .i64 z.rule, .int .i64 z.role, .int .i64 z.who, .int .i64 z.mid] 30))
    have HN : Hid (derB d0.toNat d1.toNat L f.1 f.2 = false) := Lib.hid (HDer.out.symm.trans hans)
    clear hans HDer
    go_wp2_with fail
    go_ret2
    exact ⟨HF.out, .inr ⟨HN.out, rfl⟩⟩
  | true =>
    rw [hans] at lk
    have HN : Hid (derB d0.toNat d1.toNat L f.1 f.2 = true) := Lib.hid (HDer.out.symm.trans hans)
    obtain ⟨s, hs, es⟩ := hasS_iff.1 hans
    clear HDer
    obtain ⟨i, hi, ei⟩ := List.getElem_of_mem hs
    have hsi : kn[i]? = some s := by rw [List.getElem?_eq_getElem hi, ei]
    obtain ⟨f1, f2⟩ := f
    obtain ⟨s0, s1, s2, s3⟩ := s
    unfold Sp.fa at es
    simp only [Prod.mk.injEq] at es
    obtain ⟨rfl, rfl⟩ := es
    have hlt2 : w.heap.size + 1 < w3.heap.size := lt_of HG3.out
    have hwt := wt_start (z := #[.int .i64 z.rule, .int .i64 z.role, .int .i64 z.who, .int .i64 z.mid]) ⟨d0.toNat, d1.toNat, L, kn, HC.out⟩ rfl HB03.out HUG.out HMK.out hlt2 HR3.out HG3.out
    have hte := tell ⟨w3.heap.size + 1 + 1, w3.heap.size + 1 + 1 + 1, b, kn.length, A⟩ ⟨d0.toNat, d1.toNat, L, kn, HC.out⟩ _ _ _ _ _ d0 d1 ca (by simp only; omega) (by simp only; omega) HD.out i ⟨s0, s1, s2, s3⟩ hsi w _ [] [] _ _ [] hwt (fun p hp => hp) (told0 _) (fun g hg => by cases hg)
    have HTE := Lib.hid hte
    have HWT := Lib.hid hwt
    clear hwt hte HR3 HG3 HMK hs ei hsi hi
    go_upto_region 10 with fail
    have hwf := HWT.out.F
    simp only [consts, List.forall_mem_cons] at hwf
    obtain ⟨_, _, _, _, ⟨h5, _⟩, _⟩ := hwf
    have cf := fun o => Lib.cell_of_heap h5 o
    clear h5
    clear HWT lk
    generalize (((((w3.alloc (.cells #[.map (some b)] 51)).alloc (.cells #[.int .i64 z.rule, .int .i64 z.role, .int .i64 z.who, .int .i64 z.mid] 30)).alloc (.cells #[.slice none 0 0] 24)).alloc (.map #[] 0)).alloc (.cells #[.map (some (w3.heap.size + 1 + 1 + 1))] 69)).alloc
      (.cells #[.func (.func 29) #[] #[.pointer (some ⟨w3.heap.size + 1 + 1 + 1 + 1, 0, none⟩), .pointer (some ⟨w3.heap.size, 0, none⟩), .pointer (some ⟨w.heap.size + 1, 0, none⟩), .pointer (some ⟨w.heap.size, 0, none⟩), .pointer (some ⟨w3.heap.size + 1 + 1 + 1 + 1 + 1, 0, none⟩), .pointer (some ⟨w3.heap.size + 1 + 1, 0, none⟩)]] 70) = x5 at *
    go_wp2_with fail
    refine HTE.out.mono ?_
    rintro e w6 ⟨rfl, told', T', sv', D, hW, hT⟩
    have hrow := hW.row
    obtain ⟨A2, c2, rfl, htg⟩ := tg_own hrow
    have HCap := Lib.hid (tg_cap hrow)
    have hx6 := hW.hs
    have cs6 := fun o => Lib.cell_of_heap hx6 o
    have HF : Hid (WhyPost d0.toNat d1.toNat L (s1, s2) w (.returned (.tuple #[.slice A2 T'.length c2, .bool true])) w6 ∨ True) := Lib.hid (.inr trivial)
    have HPr : Hid (Proof d0.toNat d1.toNat L (s1, s2) T') := Lib.hid (by
      have e1 := hT.eq
      rw [List.nil_append] at e1
      subst e1
      exact ⟨hT.td.ck, hT.last (by simp), hT.need⟩)
    have HTG := Lib.hid htg
    have HB6 := Lib.hid hW.bel
    clear hW hT hrow htg hx6 HTE cf HF
    go_wp2_with fail
    go_ret2
    exact ⟨HB6.out, .inl ⟨HN.out, _, _, T', rfl, HTG.out, HCap.out, HPr.out⟩⟩
end Go.Proofs.Ytddjbchlpfaggaa.PfR
