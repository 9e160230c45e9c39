/- Telling a proof, by contract: the closure that calls itself. -/
import Derived.Test.YtddjbchlpfaggaaPfL
import Derived.Laws.EntriesVeiled
namespace Go.Proofs.Ytddjbchlpfaggaa.PfQ
open Go.RowKit Go.Lib Go.Proofs Go.Maps Go.Proofs.Ytddjbchlpfaggaa.SetQ Go.Proofs.Ytddjbchlpfaggaa.SetR Go.Proofs.Ytddjbchlpfaggaa.TblC Go.Proofs.Ytddjbchlpfaggaa.TblV Go.Proofs.Ytddjbchlpfaggaa.TblQ Go.Proofs.Ytddjbchlpfaggaa.SemB Go.Proofs.Ytddjbchlpfaggaa.SemC Go.Proofs.Ytddjbchlpfaggaa.SemD Go.Proofs.Ytddjbchlpfaggaa.SemGa Go.Proofs.Ytddjbchlpfaggaa.SemJ Go.Proofs.Ytddjbchlpfaggaa.PfM Go.Proofs.Ytddjbchlpfaggaa.PfN Go.Proofs.Ytddjbchlpfaggaa.PfO Go.Proofs.Ytddjbchlpfaggaa.PfA Go.Proofs.Ytddjbchlpfaggaa.PfB Go.Proofs.Ytddjbchlpfaggaa.PfC Go.Proofs.Ytddjbchlpfaggaa.PfE Go.Proofs.Ytddjbchlpfaggaa.PfJ Go.Proofs.Ytddjbchlpfaggaa.PfK Go.Proofs.Ytddjbchlpfaggaa.PfL
set_option linter.unusedVariables false
set_option linter.unusedSimpArgs false
def TellPost (W : World) (v : Env) (c : Ctx) (F : List Box) (i : Nat) (f : Fa) (told : List Fa) (T : List Sp) (pend : List Fa) (e : Ending) (w' : World) : Prop :=
  e = .returned (.tuple #[]) ∧ ∃ told' T' sv' D, Wt W w' v c told' T' sv' F ∧ TellTo c i f told T pend told' T' D
/-- What is being told isn't what comes now. -/
def Later (c : Ctx) (i : Nat) (pend : List Fa) : Prop := ∀ g ∈ pend, ∃ j x, i < j ∧ c.kn[j]? = some x ∧ x.fa = g
theorem later_no {c : Ctx} {i : Nat} {s : Sp} {pend : List Fa} (h : Later c i pend) (hs : c.kn[i]? = some s) : s.fa ∉ pend := fun q => by
  obtain ⟨j, x, h1, h2, h3⟩ := h _ q
  have := kn_one hs h2 h3.symm
  omega
theorem later_up {c : Ctx} {i k : Nat} {s : Sp} {pend : List Fa} (h : Later c i pend) (hs : c.kn[i]? = some s) (hk : k < i) : Later c k (s.fa :: pend) := fun g hg => by
  rcases List.mem_cons.1 hg with rfl | hg
  · exact ⟨i, s, hk, hs, rfl⟩
  · obtain ⟨j, x, h1, h2, h3⟩ := h g hg
    exact ⟨j, x, by omega, h2, h3⟩
theorem at_take {c : Ctx} {i : Nat} {f : Fa} (h : hasS (c.kn.take i) f = true) : ∃ k x, k < i ∧ c.kn[k]? = some x ∧ x.fa = f := by
  obtain ⟨x, hx, e⟩ := hasS_iff.1 h
  obtain ⟨j, hj, ej⟩ := List.getElem_of_mem hx
  rw [List.length_take] at hj
  rw [List.getElem_take] at ej
  exact ⟨j, x, by omega, by rw [List.getElem?_eq_getElem (by omega), ej], e⟩
theorem kn_range (c : Ctx) (lP : c.P ≤ 10) (lK : c.K ≤ 6) {i : Nat} {s : Sp} (h : c.kn[i]? = some s) : InR s.fa := by
  obtain ⟨h1, h2, _⟩ := chk_rng _ _ c.ck s (List.mem_of_getElem? h)
  have := PfF.mul_small (P := c.P) (K := c.K) (by omega) (by omega)
  unfold InR Sp.fa
  simp only
  omega
set_option maxHeartbeats 4000000 in
set_option maxRecDepth 100000 in
theorem tell (v : Env) (c : Ctx) (bt bk bg br bf : Nat) (d0 d1 : Int) (ca : Nat) (lP : c.P ≤ 10) (lK : c.K ≤ 6) (hdim : ∀ s ∈ c.kn, d1 = c.K) :
    ∀ (i : Nat) (s : Sp), c.kn[i]? = some s → ∀ (W w : World) (told : List Fa) (T : List Sp) (sv : Value) (F : List Box) (pend : List Fa), Wt W w v c told T sv F → (∀ p ∈ consts bt bk bg br bf v.bs v.bm v.b d0 d1 v.A c.L.length ca, p ∈ F) → TolS c told T pend → Later c i pend →
    Calls Try.prog 29 #[.agg #[.int .i64 s.role, .int .i64 s.who], .pointer (some ⟨bt, 0, none⟩), .pointer (some ⟨bk, 0, none⟩), .pointer (some ⟨bg, 0, none⟩), .pointer (some ⟨br, 0, none⟩), .pointer (some ⟨bf, 0, none⟩), .pointer (some ⟨v.bs, 0, none⟩)] w (TellPost W v c F i s.fa told T pend) := by
  intro i
  induction i using Nat.strongRecOn with
  | _ i ih =>
  intro s hs W w told T sv F pend hw hF hT hL
  have hfr := kn_range c lP lK hs
  obtain ⟨kl, hkl⟩ := keyF hfr.1 hfr.2
  have hnp := later_no hL hs
  have hlen := hT.len
  have hpk := PfF.mul_small (P := c.P) (K := c.K) (by omega) (by omega)
  have hpk2 : c.P * c.K * c.P ≤ 4096 * 10 := Nat.mul_le_mul hpk lP
  have hw1 := hw.box #[.int .i64 s.role, .int .i64 s.who] 53
  have HCN : Hid (∀ w' told' T' sv' F', (∀ p ∈ F, p ∈ F') → Wt W w' v c told' T' sv' F' → w'.heap[bt]? = some (.cells #[.map (some v.bm)] 69 (0, 0)) ∧ w'.heap[bk]? = some (.cells #[.map (some v.b)] 51 (0, 0)) ∧ w'.heap[bg]? = some (.cells #[.int .i64 d0, .int .i64 d1, .slice v.A c.L.length ca] 50 (0, 0)) ∧ w'.heap[br]? = some (.cells #[.slice v.A c.L.length ca] 23 (0, 0)) ∧
      w'.heap[bf]? = some (.cells #[.func (.func 29) #[] #[.pointer (some ⟨bt, 0, none⟩), .pointer (some ⟨bk, 0, none⟩), .pointer (some ⟨bg, 0, none⟩), .pointer (some ⟨br, 0, none⟩), .pointer (some ⟨bf, 0, none⟩), .pointer (some ⟨v.bs, 0, none⟩)]] 70 (0, 0))) := Lib.hid (fun w' told' T' sv' F' hFF hx => by
    have hq : ∀ p ∈ consts bt bk bg br bf v.bs v.bm v.b d0 d1 v.A c.L.length ca, w'.heap[p.1]? = some (.cells p.2.1 p.2.2 (0, 0)) := fun p hp => (hx.F p (hFF p (hF p hp))).1
    simp only [consts, List.forall_mem_cons] at hq
    exact ⟨hq.1, hq.2.1, hq.2.2.1, hq.2.2.2.1, hq.2.2.2.2.1⟩)
  have LT : ∀ X told' T' sv' F', Wt W X v c told' T' sv' F' → (Instr.lookup 69 (.map (some v.bm)) (.agg #[.int .i64 s.role, .int .i64 s.who]) true).run Try.prog X = .ok (.tuple #[.agg #[], .bool (decide (s.fa ∈ told'))]) X := fun X told' T' sv' F' hX => by
    have := hX.tm.look_ok lawF Try.underlying69 (zeroU X) hkl
    unfold fv Sp.fa at this
    simp only at this
    rw [this]
    unfold tmap Sp.fa
    by_cases e : ((s.role, s.who) : Fa) ∈ told'
    · simp [e]
    · simp [e]
  obtain ⟨n1, n2, n3, n4, n5⟩ := HCN.out _ _ _ _ _ (fun p hp => List.mem_cons_of_mem _ hp) hw1
  have ct := fun o => Lib.cell_of_heap n1 o
  have cf : ∀ o, (w.alloc (.cells #[.int .i64 s.role, .int .i64 s.who] 53)).cell? ⟨w.heap.size, o, none⟩ = (#[.int .i64 s.role, .int .i64 s.who] : Array Value)[o]? := fun o => Lib.cell_of_heap (heap_alloc_new w _) o
  have l1 := LT _ _ _ _ _ hw1
  by_cases hin : s.fa ∈ told
  · rw [decide_eq_true hin] at l1
    have HT := Lib.hid (TellTo.already (i := i) hT hin hnp)
    have HW := Lib.hid ((hw1.below ((Below.refl _ _).alloc (Nat.le_refl _) (.cells #[] 71))).less (F' := F) (fun p hp => List.mem_cons_of_mem _ hp))
    clear ih hT hL hw hw1 LT hF HCN n1 n2 n3 n4 n5
    go_enter Try.func29, Try.ntmps29
    go_wp2_with fail
    go_end0
    exact ⟨rfl, told, T, sv, [], HW.out, HT.out⟩
  · rw [decide_eq_false hin] at l1
    have hw2 := (hw1.below ((Below.refl _ _).alloc (Nat.le_refl _) (.cells #[] 71)))
    obtain ⟨w3, hr3, hm3, ht3⟩ := hw2.tm.store lawF Try.underlying69 (by unfold maxLen; omega) fv_inj hkl (.agg #[])
    rw [tmap_put] at hm3
    have hw3 := Wt.tell hw2 hm3 ht3
    unfold fv Sp.fa at hr3
    simp only at hr3
    have HMid := Lib.hid (Mid.start hT hs hin)
    obtain ⟨u, hu, hfit, hund, hok⟩ := ctx_at c hs
    obtain ⟨r0, r1, r2, r3⟩ := ruleAt_some hu
    have hkv : (kmap c.kn s.fa).getD (.agg #[.int .i64 0, .int .i64 0, .int .i64 0, .int .i64 0]) = Sp.val s := by rw [kmap_at (List.mem_of_getElem? hs) (nd_kn c)]; rfl
    have lk := hw3.km.look lawF Try.underlying51 (zeroS w3) hkl
    rw [hkv] at lk
    unfold fv Sp.fa Sp.val at lk
    simp only at lk
    have hmd : d1 = c.K := hdim s (List.mem_of_getElem? hs)
    have h3 : u.kind = 3 → (0 ≤ s.mid ∧ s.mid < 64) ∧ d1 = c.K ∧ c.K ≤ 64 ∧ 0 ≤ u.via ∧ u.via < 64 := fun k3 => by
      unfold fitB at hfit
      simp only [Bool.and_eq_true, decide_eq_true_eq] at hfit
      have q := hfit.2.2.2
      rw [if_pos k3, decide_eq_true_eq] at q
      obtain ⟨_, _, _, _, _, rv⟩ := right_r r3
      exact ⟨⟨q.1, by omega⟩, hmd, by omega, rv.1, by omega⟩
    have HUn := Lib.hid (fun w' => under_ d0 d1 v.A c.L.length ca u s c.K w' h3)
    have hw4 := hw3.box #[.int .i64 s.rule, .int .i64 s.role, .int .i64 s.who, .int .i64 s.mid] 30
    have HDone : Hid (∀ told' T', Mid c i s (under c.K u s) told T pend told' T' → ∃ D, TellTo c i s.fa told T pend told' (T' ++ [s]) D) := Lib.hid (fun told' T' hm => Mid.done hs hu hT hin hm)
    have HIH : Hid (∀ f ∈ under c.K u s, ∃ k x, k < i ∧ c.kn[k]? = some x ∧ x.fa = f) := Lib.hid (fun f hf => at_take (hund f hf))
    have HLt : Hid (∀ k, k < i → Later c k (s.fa :: pend)) := Lib.hid (fun k hk => later_up hL hs hk)
    obtain ⟨l, hl⟩ : ∃ l, under c.K u s = l := ⟨_, rfl⟩
    rw [hl] at HUn HDone HIH
    have HUG : UG w3 v.A c.L := hw3.ug.below hw3.bel
    obtain ⟨ga, oa, hA, hga, hrc⟩ := HUG (by omega)
    obtain ⟨ri, hri⟩ : ∃ ri : Nat, s.rule = ri := ⟨s.rule.toNat, by omega⟩
    have hri2 : s.rule.toNat = ri := by omega
    rw [hri2] at r1 r2
    have hrow := hrc ri r1
    have hLu : c.L[ri] = u := by
      have := List.getElem?_eq_getElem r1
      rw [r2] at this
      simpa using this.symm
    rw [hLu] at hrow
    have HCX := Lib.hid (HCN.out _ _ _ _ _ (fun p hp => by simp [hp]) hw4)
    have HWB4 := Lib.hid (fun w' (hb : Below (w3.alloc (.cells #[.int .i64 s.rule, .int .i64 s.role, .int .i64 s.who, .int .i64 s.mid] 30)).heap.size (w3.alloc (.cells #[.int .i64 s.rule, .int .i64 s.role, .int .i64 s.who, .int .i64 s.mid] 30)) w') => hw4.below hb)
    obtain ⟨n1', n2', n3', n4', n5'⟩ := HCN.out _ _ _ _ _ (fun p hp => by simp [hp]) hw3
    have hx3 : w3.heap[w.heap.size]? = some (.cells #[.int .i64 s.role, .int .i64 s.who] 53 (0, 0)) := (hw3.F (w.heap.size, #[.int .i64 s.role, .int .i64 s.who], 53) (by simp)).1
    have ct2 : ∀ o, ((w.alloc (.cells #[.int .i64 s.role, .int .i64 s.who] 53)).alloc (.cells #[] 71)).cell? ⟨bt, o, none⟩ = (#[.map (some v.bm)] : Array Value)[o]? := fun o => Lib.cell_of_heap (HCN.out _ _ _ _ _ (fun p hp => by simp [hp]) hw2).1 o
    have cf2 : ∀ o, ((w.alloc (.cells #[.int .i64 s.role, .int .i64 s.who] 53)).alloc (.cells #[] 71)).cell? ⟨w.heap.size, o, none⟩ = (#[.int .i64 s.role, .int .i64 s.who] : Array Value)[o]? := fun o => Lib.cell_of_heap (heap_alloc2_old w _ _) o
    have ck3 := fun o => Lib.cell_of_heap n2' o
    have cf3 := fun o => Lib.cell_of_heap hx3 o
    have HIHc := Lib.hid (fun k (hk : k < i) x hx w' told' T' sv' F' hW hF' hT' hL' => ih k hk x hx W w' told' T' sv' F' (s.fa :: pend) hW hF' hT' hL')
    have HF := Lib.hid hF
    have hb4 : Below w3.heap.size w3 (w3.alloc (.cells #[.int .i64 s.rule, .int .i64 s.role, .int .i64 s.who, .int .i64 s.mid] 30)) := (Below.refl _ _).alloc (Nat.le_refl _) _
    have hsb := heap_alloc_new w3 (.cells #[.int .i64 s.rule, .int .i64 s.role, .int .i64 s.who, .int .i64 s.mid] 30)
    have hcb := fun k => (hb4.cell (p := ⟨ga, k, none⟩) hga)
    obtain ⟨i0, hi, hz0, hz1, hz2⟩ := info_parts infoSt
    clear ih hF hT hL hw hw1 hw2 hw3 hw4 LT hm3 ht3 n1 n2 n3 n4 n5 n1' n2' n3' n4' n5' hkv hund hok hfit r3 hrc hLu HUG hri2 r2 hin hnp hkl hfr hs hu hx3 h3 hmd
    obtain ⟨u0, u1, u2, u3, u4, u5⟩ := u
    obtain ⟨s0, s1, s2, s3⟩ := s
    simp only [Ru.cells] at *
    subst hri
    rw [hA] at HCX HUn
    have j0 := (hcb (oa + ri * 6)).trans (hrow 0 (by omega))
    have j1 := (hcb (oa + ri * 6 + 1)).trans (hrow 1 (by omega))
    have j2 := (hcb (oa + ri * 6 + 2)).trans (hrow 2 (by omega))
    have j3 := (hcb (oa + ri * 6 + 3)).trans (hrow 3 (by omega))
    have j4 := (hcb (oa + ri * 6 + 4)).trans (hrow 4 (by omega))
    have j5 := (hcb (oa + ri * 6 + 5)).trans (hrow 5 (by omega))
    clear hcb hrow
    have q0 : (0 : Int) ≤ ri := by omega
    have q1 : (ri : Int) < c.L.length := by omega
    go_enter Try.func29, Try.ntmps29
    go_upto_region 5 with fail
    clear ct cf l1 ct2 cf2 ck3 cf3 lk hr3
    obtain ⟨bb, hbb⟩ : ∃ bb, w3.heap.size = bb := ⟨_, rfl⟩
    obtain ⟨bx, hbx⟩ : ∃ bx, w.heap.size = bx := ⟨_, rfl⟩
    simp only [hbb, hbx] at HCX HWB4 hsb ⊢
    have hgb : ga < bb := by omega
    clear hbb hbx hga hb4
    generalize w3.alloc (.cells #[.int .i64 (ri : Int), .int .i64 s1, .int .i64 s2, .int .i64 s3] 30) = w4 at *
    have hbbl := lt_of hsb
    have HSt : Hid (∀ w', Below w4.heap.size w4 w' → (∀ k, w'.cell? ⟨bg, k, none⟩ = (#[.int .i64 d0, .int .i64 d1, .slice (some ⟨ga, oa, none⟩) c.L.length ca] : Array Value)[k]?) ∧ (∀ k, w'.cell? ⟨br, k, none⟩ = (#[.slice (some ⟨ga, oa, none⟩) c.L.length ca] : Array Value)[k]?) ∧ (∀ k, w'.cell? ⟨bb, k, none⟩ = (#[.int .i64 (ri : Int), .int .i64 s1, .int .i64 s2, .int .i64 s3] : Array Value)[k]?) ∧ w'.cell? ⟨ga, oa + ri * 6, none⟩ = some (.int .i64 u0) ∧ w'.cell? ⟨ga, oa + ri * 6 + 1, none⟩ = some (.int .i64 u1) ∧ w'.cell? ⟨ga, oa + ri * 6 + 2, none⟩ = some (.int .i64 u2) ∧ w'.cell? ⟨ga, oa + ri * 6 + 3, none⟩ = some (.int .i64 u3) ∧ w'.cell? ⟨ga, oa + ri * 6 + 4, none⟩ = some (.int .i64 u4) ∧ w'.cell? ⟨ga, oa + ri * 6 + 5, none⟩ = some (.int .i64 u5)) := Lib.hid (fun w' hb => by
      obtain ⟨_, _, n3, n4, _⟩ := HCX.out
      have hc : ∀ k, w'.cell? ⟨ga, k, none⟩ = w4.cell? ⟨ga, k, none⟩ := fun k => hb.cell (p := ⟨ga, k, none⟩) (by show ga < _; omega)
      exact ⟨fun k => Lib.cell_of_heap ((hb.block _ (lt_of n3)).trans n3) k, fun k => Lib.cell_of_heap ((hb.block _ (lt_of n4)).trans n4) k, fun k => Lib.cell_of_heap ((hb.block _ hbbl).trans hsb) k, (hc _).trans j0, (hc _).trans j1, (hc _).trans j2, (hc _).trans j3, (hc _).trans j4, (hc _).trans j5⟩)
    have a0 := HSt.out w4.drew ((Below.refl w4.heap.size w4).drew)
    clear j0 j1 j2 j3 j4 j5
    refine wp_region_held_drew (S := fun w' => (∀ k, w'.cell? ⟨bg, k, none⟩ = (#[.int .i64 d0, .int .i64 d1, .slice (some ⟨ga, oa, none⟩) c.L.length ca] : Array Value)[k]?) ∧ (∀ k, w'.cell? ⟨br, k, none⟩ = (#[.slice (some ⟨ga, oa, none⟩) c.L.length ca] : Array Value)[k]?) ∧ (∀ k, w'.cell? ⟨bb, k, none⟩ = (#[.int .i64 (ri : Int), .int .i64 s1, .int .i64 s2, .int .i64 s3] : Array Value)[k]?) ∧ w'.cell? ⟨ga, oa + ri * 6, none⟩ = some (.int .i64 u0) ∧ w'.cell? ⟨ga, oa + ri * 6 + 1, none⟩ = some (.int .i64 u1) ∧ w'.cell? ⟨ga, oa + ri * 6 + 2, none⟩ = some (.int .i64 u2) ∧ w'.cell? ⟨ga, oa + ri * 6 + 3, none⟩ = some (.int .i64 u3) ∧ w'.cell? ⟨ga, oa + ri * 6 + 4, none⟩ = some (.int .i64 u4) ∧ w'.cell? ⟨ga, oa + ri * 6 + 5, none⟩ = some (.int .i64 u5)) (by kernel_rfl) a0 (fun hHeld => ?_)
    refine wpAnyH_take (i := 0) (v := ?_) rfl (by kernel_rfl) (by kernel_rfl) (by kernel_rfl) (fun _ _ _ h => h) (Or.inl ⟨by kernel_rfl, ?_⟩) (by assumption) ?_
    rotate_left
    · intro w hSw; (try dsimp only at hSw); go_simp; try with_reducible rfl
    try simp only [Act.put, List.setIfInBounds_toArray, List.set_cons_zero, List.set_cons_succ]
    refine wpAnyH_take (i := 1) (v := ?_) rfl (by kernel_rfl) (by kernel_rfl) (by kernel_rfl) (fun _ _ _ h => h) (Or.inl ⟨by kernel_rfl, ?_⟩) (by assumption) ?_
    rotate_left
    · intro w hSw; (try dsimp only at hSw); go_simp; try with_reducible rfl
    try simp only [Act.put, List.setIfInBounds_toArray, List.set_cons_zero, List.set_cons_succ]
    refine wpAnyH_take (i := 2) (v := ?_) rfl (by kernel_rfl) (by kernel_rfl) (by kernel_rfl) (fun _ _ _ h => h) (Or.inl ⟨by kernel_rfl, ?_⟩) (by assumption) ?_
    rotate_left
    · intro w hSw; (try dsimp only at hSw); go_simp; try with_reducible rfl
    try simp only [Act.put, List.setIfInBounds_toArray, List.set_cons_zero, List.set_cons_succ]
    refine wpAnyH_take (i := 3) (v := ?_) rfl (by kernel_rfl) (by kernel_rfl) (by kernel_rfl) (fun _ _ _ h => h) (Or.inl ⟨by kernel_rfl, ?_⟩) (by assumption) ?_
    rotate_left
    · intro w hSw; (try dsimp only at hSw); go_simp; try with_reducible rfl
    try simp only [Act.put, List.setIfInBounds_toArray, List.set_cons_zero, List.set_cons_succ]
    refine wpAnyH_take (i := 4) (v := ?_) rfl (by kernel_rfl) (by kernel_rfl) (by kernel_rfl) (fun _ _ _ h => h) (Or.inl ⟨by kernel_rfl, ?_⟩) (by assumption) ?_
    rotate_left
    · intro w hSw; (try dsimp only at hSw); go_simp; try with_reducible rfl
    try simp only [Act.put, List.setIfInBounds_toArray, List.set_cons_zero, List.set_cons_succ]
    refine wpAnyH_take (i := 5) (v := ?_) rfl (by kernel_rfl) (by kernel_rfl) (by kernel_rfl) (fun _ _ _ h => h) (Or.inl ⟨by kernel_rfl, ?_⟩) (by assumption) ?_
    rotate_left
    · intro w hSw; (try dsimp only at hSw); go_simp; try with_reducible rfl
    try simp only [Act.put, List.setIfInBounds_toArray, List.set_cons_zero, List.set_cons_succ]
    refine wpAnyH_take (i := 6) (v := ?_) rfl (by kernel_rfl) (by kernel_rfl) (by kernel_rfl) (fun _ _ _ h => h) (Or.inl ⟨by kernel_rfl, ?_⟩) (by assumption) ?_
    rotate_left
    · intro w hSw; (try dsimp only at hSw); go_simp; try with_reducible rfl
    try simp only [Act.put, List.setIfInBounds_toArray, List.set_cons_zero, List.set_cons_succ]
    refine wpAnyH_take (i := 9) (v := ?_) rfl (by kernel_rfl) (by kernel_rfl) (by kernel_rfl) (fun _ _ _ h => h) (Or.inl ⟨by kernel_rfl, ?_⟩) (by assumption) ?_
    rotate_left
    · intro w hSw; (try dsimp only at hSw); go_simp; try with_reducible rfl
    try simp only [Act.put, List.setIfInBounds_toArray, List.set_cons_zero, List.set_cons_succ]
    refine wpAnyH_ready (rs := [7]) (by kernel_rfl) (by simp) ?_
    refine AllReadyH.cons rfl (fun K hK => ?_) AllReadyH.nil
    go_simp
    refine (HUn.out _).mono ?_
    rintro e w5 ⟨A5, rfl, hA5, hb5⟩
    have hb6 := TblQ.nx ((Below.refl w4.heap.size w4).drew) hb5
    have b0 := HSt.out w5 hb6
    refine hK.out _ _ b0 (fun hHeld => ?_)
    clear hK K
    try simp only [Act.put, List.setIfInBounds_toArray, List.set_cons_zero, List.set_cons_succ]
    refine wpAnyH_ready (rs := [8]) (by kernel_rfl) (by simp) ?_
    refine AllReadyH.cons rfl (fun K hK => ?_) AllReadyH.nil
    go_simp
    refine hK.out _ _ b0 (fun hHeld => ?_)
    clear hK K
    try simp only [Act.put, List.setIfInBounds_toArray, List.set_cons_zero, List.set_cons_succ]
    refine wpAnyH_done (by kernel_rfl) ?_ _
    clear hHeld b0 a0 HSt
    obtain ⟨F3, hsub, hw5, hc5⟩ : ∃ F3 : List Box, (∀ p ∈ (bb, #[Value.int .i64 (ri : Int), .int .i64 s1, .int .i64 s2, .int .i64 s3], 30) :: (bx, #[Value.int .i64 s1, .int .i64 s2], 53) :: F, p ∈ F3) ∧ Wt W w5 v c (told ++ [(s1, s2)]) T sv F3 ∧ (0 < l.length → ∃ g, A5 = some ⟨g, 0, none⟩ ∧ ∀ w' told' T' sv', Wt W w' v c told' T' sv' F3 → ∀ j, (hj : j < l.length) → w'.cell? ⟨g, j * 2, none⟩ = some (.int .i64 l[j].1) ∧ w'.cell? ⟨g, j * 2 + 1, none⟩ = some (.int .i64 l[j].2)) := by
      rcases Nat.eq_zero_or_pos l.length with hz | hz
      · exact ⟨_, fun p hp => hp, HWB4.out w5 hb6, fun h => by omega⟩
      · obtain ⟨g, hg1, hg2, hg3⟩ := hA5 hz
        have hq := HWB4.out w4 (Below.refl _ _)
        refine ⟨(g, (encP l).toArray, 53) :: _, fun p hp => List.mem_cons_of_mem _ hp, hq.old hb6 hg2 hg3, fun _ => ⟨g, hg1, fun w' told' T' sv' hx j hj => ?_⟩⟩
        have hh := (hx.F (g, (encP l).toArray, 53) (by simp)).1
        obtain ⟨b1, b2⟩ := encP_at l j hj
        exact ⟨by rw [Lib.cell_of_heap hh]; simpa using b1, by rw [Lib.cell_of_heap hh]; simpa using b2⟩
    have HW5 := Lib.hid hw5
    have HC5 := Lib.hid hc5
    have HSub := Lib.hid hsub
    have HCF : Hid (∀ w' told' T' sv' F', (∀ p ∈ F3, p ∈ F') → Wt W w' v c told' T' sv' F' → (∀ o, w'.cell? ⟨bf, o, none⟩ = (#[.func (.func 29) #[] #[.pointer (some ⟨bt, 0, none⟩), .pointer (some ⟨bk, 0, none⟩), .pointer (some ⟨bg, 0, none⟩), .pointer (some ⟨br, 0, none⟩), .pointer (some ⟨bf, 0, none⟩), .pointer (some ⟨v.bs, 0, none⟩)]] : Array Value)[o]?) ∧ ∀ o, w'.cell? ⟨bb, o, none⟩ = (#[.int .i64 (ri : Int), .int .i64 s1, .int .i64 s2, .int .i64 s3] : Array Value)[o]?) := Lib.hid (fun w' told' T' sv' F' hFF hx => by
      obtain ⟨_, _, _, _, n5⟩ := HCN.out w' told' T' sv' F' (fun p hp => hFF p (HSub.out p (by simp [hp]))) hx
      have hs := (hx.F (bb, #[Value.int .i64 (ri : Int), .int .i64 s1, .int .i64 s2, .int .i64 s3], 30) (hFF _ (HSub.out _ (by simp)))).1
      exact ⟨fun o => Lib.cell_of_heap n5 o, fun o => Lib.cell_of_heap hs o⟩)
    have HMid0 : Hid (Mid c i ⟨ri, s1, s2, s3⟩ (l.take 0) told T pend (told ++ [(s1, s2)]) T) := HMid
    have hll : l.length ≤ 2 := by
      rw [← hl]
      unfold under
      split
      · simp
      · split
        · simp
        · split <;> simp
    clear hw5 hc5 hsub HWB4 HUn HCX hb5 hb6 hA5 HMid hl hsb hbbl
    go_wp2_with fail
    go_loopw [35] (fun z wr => ∃ (k : Nat) (told' : List Fa) (T' : List Sp) (sv' : Value), k ≤ l.length ∧ z = .int .i64 k ∧ Hid (Wt W wr v c told' T' sv' F3) ∧ Hid (Mid c i ⟨ri, s1, s2, s3⟩ (l.take k) told T pend told' T')) (fun z _ => l.length - (intOf z).toNat)
    case atStart => exact ⟨0, _, _, _, by omega, rfl, HW5, HMid0⟩
    case round =>
      clear HW5 HMid0
      obtain ⟨k, told', T', sv', hk, rfl, HW, HM⟩ := hrel
      by_cases hlt : k < l.length
      · have e1 : decide ((k : Int) < l.length) = true := by simp; omega
        obtain ⟨g, rfl, hcell⟩ := HC5.out (by omega)
        obtain ⟨y0, y1⟩ := hcell _ _ _ _ HW.out k hlt
        obtain ⟨kk, x, hk1, hk2, hk3⟩ := HIH.out l[k] (List.getElem_mem hlt)
        have htk : l.take (k + 1) = l.take k ++ [l[k]] := List.take_succ_eq_append_getElem hlt
        have HNx : Hid (∀ told'' T'' D, TellTo c kk l[k] told' T' ((s1, s2) :: pend) told'' T'' D → Mid c i ⟨ri, s1, s2, s3⟩ (l.take (k + 1)) told T pend told'' T'') := Lib.hid (fun told'' T'' D ht => by
          rw [htk]
          exact Mid.next HM.out hk1 ht)
        have hwA := HW.out.box #[.int .i64 l[k].1, .int .i64 l[k].2] 53
        have HCall := HIHc.out kk hk1 x hk2 _ _ _ _ _ hwA (fun p hp => List.mem_cons_of_mem _ (HSub.out p (by simp [HF.out p hp]))) HM.out.td (HLt.out kk hk1)
        unfold TellPost at HCall
        rw [hk3] at HCall
        have e2 : x.role = l[k].1 := by have := congrArg Prod.fst hk3; exact this
        have e3 : x.who = l[k].2 := by have := congrArg Prod.snd hk3; exact this
        rw [e2, e3] at HCall
        have HCa := Lib.hid HCall
        have cbf : ∀ o, (wr.alloc (.cells #[.int .i64 l[k].1, .int .i64 l[k].2] 53)).cell? ⟨bf, o, none⟩ = _ := (HCF.out _ _ _ _ _ (fun p hp => List.mem_cons_of_mem _ hp) hwA).1
        have q2 : (0 : Int) ≤ k := by omega
        have q3 : (k : Int) < l.length := by omega
        clear HCall hwA hcell htk e2 e3 hk3 hk2
        generalize l[k] = lk at *
        obtain ⟨lr, lw⟩ := lk
        simp only at HCa y0 y1 cbf
        go_wp2_with fail
        refine HCa.out.mono ?_
        rintro e w6 ⟨rfl, told'', T'', sv'', D, hW6, hT6⟩
        have HW6 := Lib.hid (hW6.less (F' := F3) (fun p hp => List.mem_cons_of_mem _ hp))
        have HM6 := Lib.hid (HNx.out _ _ _ hT6)
        clear hW6 hT6 HCa HNx cbf y0 y1 HW HM
        go_wp2_with fail
        go_roundw
        case rel => exact ⟨k + 1, _, _, _, by omega, by go_num, HW6, HM6⟩
        case measure => simp [intOf]; omega
      · have e1 : decide ((k : Int) < l.length) = false := by simp; omega
        have htk : l.take k = l := List.take_of_length_le (by omega)
        have hM := HM.out
        rw [htk] at hM
        obtain ⟨D, hD⟩ := HDone.out _ _ hM
        have hTl := hM.td.len.2
        have hw6 := HW.out.below ((Below.refl wr.heap.size wr).alloc (Nat.le_refl _) (.cells #[.int .i64 (ri : Int), .int .i64 s1, .int .i64 s2, .int .i64 s3] 30))
        have hnews : ∀ j x, ([.int .i64 (ri : Int), .int .i64 s1, .int .i64 s2, .int .i64 s3] : List Value)[j]? = some x → (wr.alloc (.cells #[.int .i64 (ri : Int), .int .i64 s1, .int .i64 s2, .int .i64 s3] 30)).cell? ((⟨wr.heap.size, 0, none⟩ : Addr).add j) = some x := fun j x hx => by
          rw [Go.Proofs.Ytddjbchlpfaggaa.SemC.add_off, Lib.cell_of_heap (heap_alloc_new wr _), ← hx]
          simp
        obtain ⟨sv2, w7, hr7, ho7, hg7, hm7, _⟩ := run_append_own_k (P := Try.prog) _ W.heap.size 24 24 30 i0 _ 4 32 Try.underlying24 hi hz0 hz1 hz2 rfl (by decide) sv' T'.length (cellsT T') hw6.row ⟨wr.heap.size, 0, none⟩ 1 1 [.int .i64 (ri : Int), .int .i64 s1, .int .i64 s2, .int .i64 s3] rfl hnews (fun x hx => by simp at hx; rcases hx with rfl | rfl | rfl | rfl <;> rfl) (by unfold maxLen; omega) (by omega) hw6.bel.size
        have hfin := Wt.step (s := ⟨ri, s1, s2, s3⟩) hw6 hg7 hm7 ho7
        have HFin := Lib.hid (hfin.less (F' := F) (fun p hp => HSub.out p (by simp [hp])))
        obtain ⟨A2, n2, c2, rfl⟩ : ∃ A n c, sv2 = Value.slice A n c := by
          rcases ho7.2 with ⟨rfl, _⟩ | ⟨g, cap, cur, rfl, _⟩ <;> exact ⟨_, _, _, rfl⟩
        have hx0 := HW.out.hs
        have cs0 := fun o => Lib.cell_of_heap hx0 o
        have cb0 := (HCF.out _ _ _ _ _ (fun p hp => hp) HW.out).2
        have hx7 : w7.heap[v.bs]? = some (.cells #[sv'] 24 (0, 0)) := (hg7.block _ (lt_of hw6.hs) (fun e => by
          obtain ⟨_, cur, hc⟩ := own_blk hw6.row e.symm
          exact ne_of_type hw6.hs hc (by show (_ : Nat) ≠ _; decide) rfl)).trans hw6.hs
        have cs7 := fun o => Lib.cell_of_heap hx7 o
        have fs7 : ∀ o, w7.frozen? ⟨v.bs, o, none⟩ = false := fun o => frozen_of_row _ _ _ _ _ hx7
        have HD := Lib.hid hD
        have HR7 := Lib.hid hr7
        clear hD hM HM HW hw6 hnews hr7 ho7 hg7 hm7 hfin hx0 hx7 htk HIHc HIH HLt HDone HC5 HCF HCN
        go_wp2_with (at_builtin; refine Lib.wpList_append_run _ rfl _ _ 24 24 rfl _ _ rfl rfl _ _ HR7.out ?_)
        go_wp2_with fail
        go_end0
        exact ⟨rfl, _, _, _, _, HFin.out, HD.out⟩
end Go.Proofs.Ytddjbchlpfaggaa.PfQ
