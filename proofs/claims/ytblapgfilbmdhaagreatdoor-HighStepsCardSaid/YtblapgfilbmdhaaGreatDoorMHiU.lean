/- The walk of the law that the greatest state takes no more steps than the bound. -/
import Derived.Test.YtblapgfilbmdhaaGreatDoorM40
import Derived.Test.YtblapgfilbmdhaaGreatDoorM25
import Derived.Test.YtblapgfilbmdhaaGreatDoorM24
set_option linter.unusedVariables false
set_option linter.unusedSimpArgs false
namespace Go.Proofs.YtblapgfilbmdhaaGreatDoor.HiU
open Go.RowKit Go.Sort Go.Lib Go.Proofs Plain SynP TabP Tab1 Tab5 PolA PolE PolG PolH PolOp PolLi RefPr RefSm TblA TblB TblC TblP TblQ TblR SetJ SetR SemA SemGa StB StR LwA LwD LwE LwG LwH LwM LwT
open HiA HiL HiQ HiT SynJ
open HiM (Small)
abbrev nx15 := @LwH.nx
theorem named_size {f : Int → Bool} {x : ByteArray} (h : named f (bt x) = true) : x.size ≤ maxLen := by
  unfold named at h
  simp only [Bool.and_eq_true, decide_eq_true_eq] at h
  have h2 : (bt x).length ≤ 8 := h.1.1.2
  have e : (bt x).length = x.size := toList_len x
  unfold maxLen
  omega
theorem came2 {p : Py} (hc : PolOp.Came p) (hs : Small p) (M : List Rl) (j : Nat) : PolOp.Came (withG p (sortRl (gq (PT p) (NT p) p.grow M j))) :=
  ⟨hc.n1, by show (sortRl (gq (PT p) (NT p) p.grow M j)).length ≤ maxLen; have := few_sorted hs.e7 hs.n4 M j; unfold maxLen; omega, hc.n3, hc.n4, hc.f1, fun r hr => by
    rcases mem_gq (mem_sortRl.1 hr) with h | ⟨h1, h2⟩
    · exact hc.f2 r h
    · exact ⟨named_size (prin_ok hs.rp _ h1), named_size (name_ok hs.rp _ h2)⟩, hc.f3, hc.f4⟩
structure QS (w1 w : World) (v1 v3 v4 : Value) (A : Option Addr) (c : Nat) (L : List Rl) : Prop where
  blk : w.heap[w1.heap.size]? = some (.cells #[v1, .slice A L.length c, v3, v4] 26 (0, 0))
  own : w.ownsRow (w1.heap.size + 1) 28 2 (.slice A L.length c) L.length (rcells L)
  bel : Below w1.heap.size w1 w
theorem own_block {w w' : World} {b n k : Nat} {e : TypeId} {v : Value} {xs : List Value} (h : w.ownsRow b e k v n xs) (hk : ∀ g, v.ownBlock = some g → w'.heap[g]? = w.heap[g]?) : w'.ownsRow b e k v n xs := by
  refine ⟨h.1, ?_⟩
  rcases h.2 with hn | ⟨g, cap, cur, rfl, hb, hgg, rest⟩
  · exact .inl hn
  · exact .inr ⟨g, cap, cur, rfl, hb, (hk g rfl).trans hgg, rest⟩
theorem QS.lt {w1 w : World} {v1 v3 v4 : Value} {A : Option Addr} {c : Nat} {L : List Rl} (h : QS w1 w v1 v3 v4 A c L) : w1.heap.size < w.heap.size := (Array.getElem?_eq_some_iff.1 h.blk).1
theorem QS.below {w1 w w' : World} {v1 v3 v4 : Value} {A : Option Addr} {c : Nat} {L : List Rl} (h : QS w1 w v1 v3 v4 A c L) (hb : Below w.heap.size w w') : QS w1 w' v1 v3 v4 A c L :=
  ⟨(hb.block _ h.lt).trans h.blk, own_block h.own (fun g hg => hb.block g (h.own.lt g hg).2), nx15 h.bel hb⟩
theorem set2 {w : World} {g : Nat} {a b c d : Value} {t : TypeId} (u : Value) (h : w.heap[g]? = some (.cells #[a, b, c, d] t (0, 0))) : (w.setCell ⟨g, 1, none⟩ u).heap[g]? = some (.cells #[a, u, c, d] t (0, 0)) := by
  show (w.heap.modify g _)[g]? = _
  rw [Array.getElem?_modify, if_pos rfl, h]
  rfl
theorem QS.store {w1 w' : World} {v1 v3 v4 : Value} {A A' : Option Addr} {c c' : Nat} {L L' : List Rl} (hblk : w'.heap[w1.heap.size]? = some (.cells #[v1, .slice A L.length c, v3, v4] 26 (0, 0))) (hbel : Below w1.heap.size w1 w') (hown : w'.ownsRow (w1.heap.size + 1) 28 2 (.slice A' L'.length c') L'.length (rcells L')) : QS w1 (w'.setCell ⟨w1.heap.size, 1, none⟩ (.slice A' L'.length c')) v1 v3 v4 A' c' L' := by
  refine ⟨set2 _ hblk, ?_, hbel.setCell (p := ⟨w1.heap.size, 1, none⟩) (Nat.le_refl _) _⟩
  refine own_block hown (fun g hg => ?_)
  have h1 := (hown.lt g hg).1
  show (w'.heap.modify w1.heap.size _)[g]? = _
  rw [Array.getElem?_modify, if_neg (by omega)]
theorem free2 {w : World} {g : Nat} {cs : Array Value} {t : TypeId} (h : w.heap[g]? = some (.cells cs t (0, 0))) (o : Nat) : w.frozen? ⟨g, o, none⟩ = false := by
  unfold World.frozen?
  rw [h]
  rfl
set_option maxHeartbeats 8000000 in
set_option maxRecDepth 100000 in
theorem law (p : Py) (A1 A2 A3 A4 : Option Addr) (c1 c2 c3 c4 : Nat) (B0 : Option Addr) (d0 : Nat) (MR : List Rl) (r : Rl) (w : World) (hT : Tab w) (hw : Tab3.Pow w) (hc : Came p) (hp : PG w A1 A2 A3 A4 p) (hMl : MR.length ≤ maxLen) (hM : RG w B0 MR) :
    Calls Tryz.prog 3 #[p.val A1 A2 A3 A4 c1 c2 c3 c4, .slice B0 MR.length d0, r.val] w fun e w' => e = .returned (.bool true) ∧ Below w.heap.size w w' := by
  have hbX : Below w.heap.size w ((w.alloc (.cells #[.slice A1 p.stmts.length c1, .slice A2 p.grow.length c2, .slice A3 p.shrink.length c3, .slice A4 p.asks.length c4] 26)).alloc (.cells #[.string r.owner, .string r.name] 28)) := ((Below.refl _ _).alloc (Nat.le_refl _) _).alloc (by simp) _
  have HTb := Lib.hid (fun w' (hb : Below w.heap.size w w') => Tab.below hT hb)
  have HPw := Lib.hid (fun w' (hb : Below w.heap.size w w') => Tab3.Pow.keep hw (Laid.pow_lt hw) hb)
  have HSm := Lib.hid (fun w' (hb : Below w.heap.size w w') => HiM.small p A1 A2 A3 A4 c1 c2 c3 c4 w' hc (hp.below hb))
  have HLv := Lib.hid (fun w' (hb : Below w.heap.size w w') => HiO.lives w' (HTb.out w' hb) (HPw.out w' hb))
  have HMR := Lib.hid (fun w' (hb : Below w.heap.size w w') => hM.below hb)
  have HPr := Lib.hid (fun w' (hb : Below w.heap.size w w') (hs : Small p) => HiI.prins5 p A1 A2 A3 A4 c1 c2 c3 c4 w' hs.few hc (hp.below hb))
  have HNa := Lib.hid (fun w' (hb : Below w.heap.size w w') (hs : Small p) => HiI.names5 p A1 A2 A3 A4 c1 c2 c3 c4 w' hs.few hc (hp.below hb))
  have HMi := Lib.hid (fun w' (hb : Below w.heap.size w w') (hs : Small p) => HiF.maximal p A1 A2 A3 A4 c1 c2 c3 c4 w' (HPw.out w' hb) hs.few hc (hp.below hb) hs.e7 hs.n4)
  have HEv := Lib.hid (fun w' (hb : Below w.heap.size w w') (hs : Small p) => HiG.highEval p A1 A2 A3 A4 c1 c2 c3 c4 w' (HTb.out w' hb) (HPw.out w' hb) hs.few hc (hp.below hb) hs.e7 hs.n4)
  have HMe := Lib.hid (fun w' (hb : Below w.heap.size w w') (hs : Small p) => HiH.highMembers p A1 A2 A3 A4 c1 c2 c3 c4 r (ET p) (NT p) (rulesOf (ET p) (NT p) (maxS p)) w' (HTb.out w' hb) (Nat.le_trans hs.e7 (by omega)) (fun w'' hb2 => HEv.out w'' (nx15 hb hb2) hs))
  have HSt := Lib.hid (fun w' (hb : Below w.heap.size w w') (hs : Small p) => HiH.highSteps p A1 A2 A3 A4 c1 c2 c3 c4 (ET p) (NT p) (rulesOf (ET p) (NT p) (maxS p)) w' (fun w'' hb2 => HEv.out w'' (nx15 hb hb2) hs))
  have HHa : Hid (∀ (A : Option Addr) (c : Nat) (T : List Str) (y : ByteArray) (w' : World), T.length ≤ 1000 → SRow w' A T → Calls Tryz.prog 10 #[.slice A T.length c, .string y] w' fun e w'' => e = .returned (.bool (decide (bt y ∈ T))) ∧ w' = w'') := Lib.hid (fun A c T y w' hl hs => by
    have h := Tab3.has A c T y w' (by omega) hs
    rw [RefPr.bt_list] at h
    exact h)
  have HQ := Lib.hid (fun (hs : Small p) => And.intro (small_more hs MR MR.length) (And.intro (came2 hc hs MR MR.length) (more_sorted p MR MR.length)))
  have HPQ := Lib.hid (fun w' (hb : Below w.heap.size w w') => hp.below hb)
  have HHc := Lib.hid hc
  have HGl := Lib.hid (fun (hs : Small p) => hs.few.n2)
  have HRp := Lib.hid (fun (hs : Small p) => hs.rp)
  have HS30 := Lib.hid (fun (hs : Small p) => hs.few.n1)
  have HP7 := Lib.hid (fun (hs : Small p) => hs.rp.ps)
  have HN4 := Lib.hid (fun (hs : Small p) => hs.n4)
  have HE7 := Lib.hid (fun (hs : Small p) => hs.e7)
  have HMl := Lib.hid (fun (hs : Small p) => HiP.max_226 hs)
  clear hc hp hT hw hM
  unfold HiM.SmallPost at HSm
  unfold OwnPost at HMi
  unfold Tab5.RowPost at HMe HPr HNa
  have HB0 := Lib.hid hbX
  have HFin : Hid (∀ (wx : World), Below w.heap.size w wx → Calls Tryz.prog 9 #[] wx fun e w' => e = .returned (.bool true) ∧ Below w.heap.size w w') := Lib.hid (fun wx h => by
    refine (HLv.out wx h).mono ?_
    rintro e w' ⟨he, hb⟩
    exact ⟨he, nx15 h hb⟩)
  clear hbX
  obtain ⟨SW, hSW⟩ : ∃ q, Small p = q := ⟨_, rfl⟩
  have HSW := Lib.hid hSW
  obtain ⟨P5, hP5⟩ : ∃ T, PT p = T := ⟨_, rfl⟩
  obtain ⟨NN, hNN⟩ : ∃ T, NT p = T := ⟨_, rfl⟩
  obtain ⟨PP, hPP⟩ : ∃ T, ET p = T := ⟨_, rfl⟩
  obtain ⟨M, hMM⟩ : ∃ T, maxS p = T := ⟨_, rfl⟩
  have HEq := Lib.hid (And.intro hP5 (And.intro hNN (And.intro hPP hMM)))
  rw [hP5] at HPr HP7
  rw [hNN] at HNa HMe HSt HN4
  rw [hPP] at HMe HSt HE7
  rw [hMM] at HMe HSt HMi HMl
  rw [hSW] at HSm HPr HNa HMi HMe HSt HQ HGl HP7 HN4 HE7 HMl HRp HS30
  clear hP5 hNN hPP hMM HEv hSW
  obtain ⟨S, G, H, Q⟩ := p
  obtain ⟨ro, rn⟩ := r
  unfold Py.val Rl.val at *
  dsimp only at *
  have hc1 := fun o => Lib.cell_of_heap (heap_alloc2_old w (.cells #[.slice A1 S.length c1, .slice A2 G.length c2, .slice A3 H.length c3, .slice A4 Q.length c4] 26) (.cells #[.string ro, .string rn] 28)) o
  have hc2 := fun o => Lib.cell_of_heap (heap_alloc2_new w (.cells #[.slice A1 S.length c1, .slice A2 G.length c2, .slice A3 H.length c3, .slice A4 Q.length c4] 26) (.cells #[.string ro, .string rn] 28)) o
  have hlt : w.heap.size + 1 < ((w.alloc (.cells #[.slice A1 S.length c1, .slice A2 G.length c2, .slice A3 H.length c3, .slice A4 Q.length c4] 26)).alloc (.cells #[.string ro, .string rn] 28)).heap.size := by simp
  go_enter Tryz.func3, Tryz.ntmps3
  go_upto_region 1 with fail
  obtain ⟨bp, hbp⟩ : ∃ bp, w.heap.size = bp := ⟨_, rfl⟩
  simp only [hbp] at hc1 hc2 hlt ⊢
  generalize (w.alloc (.cells #[.slice A1 S.length c1, .slice A2 G.length c2, .slice A3 H.length c3, .slice A4 Q.length c4] 26)).alloc (.cells #[.string ro, .string rn] 28) = w0 at *
  have HC := Lib.hid (fun w' (hb : Below w0.heap.size w0 w') => And.intro (fun o => (hb.cell (p := ⟨bp, o, none⟩) (by show bp < _; omega)).trans (hc1 o)) (fun o => (hb.cell (p := ⟨bp + 1, o, none⟩) hlt).trans (hc2 o)))
  have HX := Lib.hid (fun w' (hb : Below w0.heap.size w0 w') => nx15 HB0.out hb)
  clear hc2 hlt
  go_wp2_with fail
  refine (HSm.out _ HB0.out).mono ?_
  rintro e w1 ⟨b1, rfl, hsm, hb1⟩
  have HW1 := Lib.hid hb1
  clear hb1 hc1 HSm
  cases b1
  · clear hsm
    go_wp2_with fail
    refine (HFin.out _ (HX.out _ HW1.out)).mono ?_
    rintro e w2 ⟨rfl, hb2⟩
    have HF := Lib.hid hb2
    clear hb2
    go_wp2_with fail
    go_ret
    exact ⟨rfl, by first | exact HF.out | (rw [← hbp]; exact HF.out)⟩
  · have HSw := Lib.hid (hsm rfl)
    clear hsm
    by_cases h10 : MR.length > 10
    · have e10 : decide ((MR.length : Int) > 10) = true := by simp; omega
      have e10' : decide ((10 : Int) < MR.length) = true := by simp; omega
      go_wp2_with fail
      refine (HFin.out _ (HX.out _ HW1.out)).mono ?_
      rintro e w2 ⟨rfl, hb2⟩
      have HF := Lib.hid hb2
      clear hb2
      go_wp2_with fail
      go_ret
      exact ⟨rfl, by first | exact HF.out | (rw [← hbp]; exact HF.out)⟩
    · have e10 : decide ((MR.length : Int) > 10) = false := by simp; omega
      have e10' : decide ((10 : Int) < MR.length) = false := by simp; omega
      obtain ⟨hsq, hcq, hmq⟩ := HQ.out HSw.out
      have HSQ := Lib.hid hsq
      have HCQ := Lib.hid hcq
      have HMQ := Lib.hid hmq
      clear hsq hcq hmq HQ
      have hgl : G.length ≤ 60 := HGl.out HSw.out
      have hc1 := (HC.out w1 HW1.out).1
      obtain ⟨i0, hi, hz0, hz1, hz2⟩ := info_parts infoRole
      have hqn := heap_alloc_new w1 (.cells #[.slice A1 S.length c1, .slice A2 G.length c2, .slice A3 H.length c3, .slice A4 Q.length c4] 26)
      have hqb : Below w1.heap.size w1 ((w1.alloc (.cells #[.slice A1 S.length c1, .slice A2 G.length c2, .slice A3 H.length c3, .slice A4 Q.length c4] 26)).alloc (.cells #[] 28)) := ((Below.refl _ _).alloc (Nat.le_refl _) _).alloc (by simp) _
      have hq2 : ((w1.alloc (.cells #[.slice A1 S.length c1, .slice A2 G.length c2, .slice A3 H.length c3, .slice A4 Q.length c4] 26)).alloc (.cells #[] 28)).heap[w1.heap.size]? = some (.cells #[.slice A1 S.length c1, .slice A2 G.length c2, .slice A3 H.length c3, .slice A4 Q.length c4] 26 (0, 0)) := heap_alloc2_old w1 _ _
      have hown0 := SynC.own_empty (w1.alloc (.cells #[.slice A1 S.length c1, .slice A2 G.length c2, .slice A3 H.length c3, .slice A4 Q.length c4] 26)) 28 2
      have hsz1 : (w1.alloc (.cells #[.slice A1 S.length c1, .slice A2 G.length c2, .slice A3 H.length c3, .slice A4 Q.length c4] 26)).heap.size = w1.heap.size + 1 := by simp
      rw [hsz1] at hown0
      have hpq : PG ((w1.alloc (.cells #[.slice A1 S.length c1, .slice A2 G.length c2, .slice A3 H.length c3, .slice A4 Q.length c4] 26)).alloc (.cells #[] 28)) A1 A2 A3 A4 ⟨S, G, H, Q⟩ := HPQ.out _ (nx15 (HX.out _ HW1.out) hqb)
      have hgr := hpq.g
      have cq1 := fun o => Lib.cell_of_heap hq2 o
      have cp1 := (HC.out _ (nx15 HW1.out hqb)).1
      have hc3 := (HC.out _ (nx15 HW1.out ((Below.refl w1.heap.size w1).alloc (Nat.le_refl _) (.cells #[.slice A1 S.length c1, .slice A2 G.length c2, .slice A3 H.length c3, .slice A4 Q.length c4] 26)))).1
      go_wp2_with (at_builtin; refine SynC.wpList_append_from _ rfl _ _ 23 rfl (w1.heap.size + 1) 28 i0 (.agg #[.string ⟨#[]⟩, .string ⟨#[]⟩]) 2 32 Tryz.underlying23 hi hz0 hz1 hz2 rfl (by decide) _ _ _ rfl hown0 A2 G.length c2 (rcells G) rfl (rcells_len G) (PolLi.rg_none hgr) (PolA.rg_cells hgr) (PolA.rcells_one G) (by unfold maxLen; omega) (by omega) (by simp <;> omega) ?_)
      intro v4 w4 hown4 hg4
      have hown4' : w4.ownsRow (w1.heap.size + 1) 28 2 v4 G.length (rcells G) := by simpa using hown4
      obtain ⟨A4', c4', rfl⟩ := PolLi.own_n hown4'
      have hq4 : w4.heap[w1.heap.size]? = some (.cells #[.slice A1 S.length c1, .slice A2 G.length c2, .slice A3 H.length c3, .slice A4 Q.length c4] 26 (0, 0)) := (hg4.block _ (by simp; omega) (fun e => by
        have e2 : w1.heap.size = w1.heap.size + 1 := Option.some.inj e
        omega)).trans hq2
      have hb4 : Below w1.heap.size w1 w4 := hqb.grown hg4 (by simp; omega) (fun j hj => by
        have hj2 : w1.heap.size + 1 = j := Option.some.inj hj
        omega)
      have hfz := free2 hq4 1
      have cq4 := fun o => Lib.cell_of_heap hq4 o
      have HQS := Lib.hid (QS.store (L' := G) hq4 hb4 hown4')
      clear hown4 hown4' hg4 hq4 hb4 hqn hqb hq2 hown0 hpq hgr cp1 hc3 hc1 cq1
      go_wp2_with fail
      generalize w4.setCell ⟨w1.heap.size, 1, none⟩ (.slice A4' G.length c4') = w5 at *
      have HQ0 : Hid (gq P5 NN G MR 0 = G) := Lib.hid (gq_zero _ _ _ _)
      have HGQ := Lib.hid (fun k => gq_len P5 NN G MR k)
      go_loopw [30] (fun i wr => ∃ (k : Nat) (A : Option Addr) (c : Nat), k ≤ MR.length ∧ i = .int .i64 k ∧ Hid (QS w1 wr (.slice A1 S.length c1) (.slice A3 H.length c3) (.slice A4 Q.length c4) A c (gq P5 NN G MR k))) (fun i _ => MR.length - (intOf i).toNat)
      case atStart => exact ⟨0, A4', c4', by omega, rfl, by rw [HQ0.out]; exact HQS⟩
      case round =>
        obtain ⟨k, A, c, hk, rfl, hqs⟩ := hrel
        clear cq4 hfz HQS HQ0
        have HBw := Lib.hid (nx15 HW1.out hqs.out.bel)
        by_cases hlt : k < MR.length
        · have d1 : decide ((k : Int) < MR.length) = true := by simp; omega
          obtain ⟨g, o, hB0, hg, hcl⟩ := (HMR.out wr (HX.out _ HBw.out)) (by omega)
          obtain ⟨y0, y1⟩ := hcl k hlt
          have q1 : (0 : Int) ≤ k := by omega
          have q2 : (k : Int) < MR.length := by omega
          have hgs := gq_succ (P := P5) (N := NN) (G := G) hlt
          have hw1 : IntKind.i64.wrap ((k : Int) + 1) = (k : Int) + 1 := by rw [IntKind.wrap_i64]; omega
          subst hB0
          unfold namedB at hgs
          generalize MR[k] = xr at *
          obtain ⟨xo, xn⟩ := xr
          dsimp only at y0 y1 hgs
          have HGs := Lib.hid hgs
          have hnw := heap_alloc_new wr (.cells #[.string xo, .string xn] 28)
          have hba := (Below.refl wr.heap.size wr).alloc (Nat.le_refl _) (.cells #[.string xo, .string xn] 28)
          have HQA := Lib.hid (hqs.out.below hba)
          have HBA := Lib.hid (nx15 HBw.out hba)
          clear hgs hcl hba hg
          go_upto_region 8 with fail
          obtain ⟨bx, hbx⟩ : ∃ bx, wr.heap.size = bx := ⟨_, rfl⟩
          simp only [hbx] at hnw ⊢
          generalize wr.alloc (.cells #[.string xo, .string xn] 28) = wa at *
          have hbxl : bx < wa.heap.size := (Array.getElem?_eq_some_iff.1 hnw).1
          have HK := Lib.hid (fun (w' : World) (hb : Below wa.heap.size wa w') => And.intro hb (And.intro (HC.out w' (nx15 HBA.out hb)).1 (fun (o : Nat) => Lib.cell_of_heap ((hb.block bx hbxl).trans hnw) o)))
          have hp7 := HP7.out HSw.out
          have hn4 := HN4.out HSw.out
          have HJ1 := Lib.hid (fun w' (hb : Below wa.heap.size wa w') => HPr.out w' (HX.out _ (nx15 HBA.out hb)) HSw.out)
          have HJ2 := Lib.hid (fun w' (hb : Below wa.heap.size wa w') => HNa.out w' (HX.out _ (nx15 HBA.out hb)) HSw.out)
          have hst := HK.out _ ((Below.refl wa.heap.size wa).drew)
          clear y0 y1 hnw
          by_cases hO : bt xo ∈ P5
          · by_cases hN : bt xn ∈ NN
            · have HH1 := Lib.hid (fun A c w' (hs : SRow w' A P5) => HHa.out A c P5 xo w' (by omega) hs)
              rw [decide_eq_true hO] at HH1
              have HH2 := Lib.hid (fun A c w' (hs : SRow w' A NN) => HHa.out A c NN xn w' (by omega) hs)
              rw [decide_eq_true hN] at HH2
              simp only [decide_eq_true hO, decide_eq_true hN, Bool.and_self, if_true] at HGs
              go_region_held3 (fun w' => Below wa.heap.size wa w' ∧ (∀ o, w'.cell? ⟨bp, o, none⟩ = (#[.slice A1 S.length c1, .slice A2 G.length c2, .slice A3 H.length c3, .slice A4 Q.length c4] : Array Value)[o]?) ∧ (∀ o, w'.cell? ⟨bx, o, none⟩ = (#[.string xo, .string xn] : Array Value)[o]?))
                (first | with_reducible exact hst | with_reducible assumption | exact HK.out _ (nx15 (by apply And.left; with_reducible assumption) (by with_reducible assumption)))
                (first | ((with_reducible refine (HJ1.out _ (by apply And.left; with_reducible assumption)).mono ?_); rintro e x1 ⟨v1, rfl, ho1, hb1⟩; obtain ⟨Q1, k1, rfl, _, hr1⟩ := SRow.of_own ho1)
                       | ((with_reducible refine (HJ2.out _ (by apply And.left; with_reducible assumption)).mono ?_); rintro e x2 ⟨v2, rfl, ho2, hb2⟩; obtain ⟨Q2, k2, rfl, _, hr2⟩ := SRow.of_own ho2)
                       | ((with_reducible refine (HH1.out _ _ _ hr1).mono ?_); rintro e x3 ⟨rfl, rfl⟩)
                       | ((with_reducible refine (HH2.out _ _ _ hr2).mono ?_); rintro e x4 ⟨rfl, rfl⟩))
              rename_i hHeld
              have HQB := Lib.hid (HQA.out.below hHeld.1)
              have cx := hHeld.2.2
              clear hHeld hst HK HJ1 HJ2 HH1 HH2 hr1 hr2 ho1 ho2 hb1 hb2 hO hN
              obtain ⟨wz, hwz⟩ : ∃ wz, x2 = wz := ⟨_, rfl⟩
              simp only [hwz] at HQB cx ⊢
              have hza := (Below.refl wz.heap.size wz).alloc (Nat.le_refl _) (.cells #[.string xo, .string xn] 28)
              have hqc := HQB.out.below hza
              have hownC := hqc.own
              have cq := fun o => Lib.cell_of_heap HQB.out.blk o
              have hgk := HGQ.out k
              have hlit := RefRo.lit wz ⟨xo, xn⟩ wz.heap.size rfl
              have hbz0 : w1.heap.size + 1 ≤ (wz.alloc (.cells #[.string xo, .string xn] 28)).heap.size := hqc.lt
              go_wp2_with (at_builtin; refine RefRo.wp_app1 rfl _ _ rfl (w1.heap.size + 1) _ (gq P5 NN G MR k) rfl hownC wz.heap.size ⟨xo, xn⟩ rfl hlit (by omega) hbz0 ?_)
              intro v6 w6 ho6 hg6 hm6
              obtain ⟨A6, c6, rfl⟩ := PolLi.own_n ho6
              have hq6 : w6.heap[w1.heap.size]? = some (.cells #[.slice A1 S.length c1, .slice A (gq P5 NN G MR k).length c, .slice A3 H.length c3, .slice A4 Q.length c4] 26 (0, 0)) := (hg6.block _ hqc.lt (fun e => by
                have := (hownC.lt _ e.symm).1
                omega)).trans hqc.blk
              have hb6 : Below w1.heap.size w1 w6 := hqc.bel.grown hg6 hqc.bel.size (fun j hj => by have := (hownC.lt j hj).1; omega)
              have hfz := free2 hq6 1
              have cq6 := fun o => Lib.cell_of_heap hq6 o
              have hst6 := QS.store hq6 hb6 ho6
              rw [show RefRo.snoc (gq P5 NN G MR k) ⟨xo, xn⟩ = gq P5 NN G MR (k + 1) from HGs.out.symm] at hst6 ⊢
              have HE := Lib.hid hst6
              clear hst6 ho6 hg6 hm6 hq6 hb6 hownC hqc hza hlit cq cx
              go_wp2_with fail
              go_roundw
              case rel => exact ⟨k + 1, A6, c6, by omega, by go_num, HE⟩
              case measure => simp [intOf]; omega
            · have HH1 := Lib.hid (fun A c w' (hs : SRow w' A P5) => HHa.out A c P5 xo w' (by omega) hs)
              rw [decide_eq_true hO] at HH1
              have HH2 := Lib.hid (fun A c w' (hs : SRow w' A NN) => HHa.out A c NN xn w' (by omega) hs)
              rw [decide_eq_false hN] at HH2
              simp only [decide_eq_true hO, decide_eq_false hN, Bool.and_false, Bool.false_eq_true, if_false] at HGs
              go_region_held3 (fun w' => Below wa.heap.size wa w' ∧ (∀ o, w'.cell? ⟨bp, o, none⟩ = (#[.slice A1 S.length c1, .slice A2 G.length c2, .slice A3 H.length c3, .slice A4 Q.length c4] : Array Value)[o]?) ∧ (∀ o, w'.cell? ⟨bx, o, none⟩ = (#[.string xo, .string xn] : Array Value)[o]?))
                (first | with_reducible exact hst | with_reducible assumption | exact HK.out _ (nx15 (by apply And.left; with_reducible assumption) (by with_reducible assumption)))
                (first | ((with_reducible refine (HJ1.out _ (by apply And.left; with_reducible assumption)).mono ?_); rintro e x1 ⟨v1, rfl, ho1, hb1⟩; obtain ⟨Q1, k1, rfl, _, hr1⟩ := SRow.of_own ho1)
                       | ((with_reducible refine (HJ2.out _ (by apply And.left; with_reducible assumption)).mono ?_); rintro e x2 ⟨v2, rfl, ho2, hb2⟩; obtain ⟨Q2, k2, rfl, _, hr2⟩ := SRow.of_own ho2)
                       | ((with_reducible refine (HH1.out _ _ _ hr1).mono ?_); rintro e x3 ⟨rfl, rfl⟩)
                       | ((with_reducible refine (HH2.out _ _ _ hr2).mono ?_); rintro e x4 ⟨rfl, rfl⟩))
              rename_i hHeld
              have HQB := Lib.hid (HQA.out.below hHeld.1)
              have cx := hHeld.2.2
              rw [← HGs.out] at HQB
              clear hHeld hst HK HJ1 HJ2 HH1 HH2 hr1 hr2 ho1 ho2 hb1 hb2 hO hN cx
              go_wp2_with fail
              go_roundw
              case rel => exact ⟨k + 1, A, c, by omega, by go_num, by first | exact HQB | (rw [HGs.out]; exact HQB) | (rw [← HGs.out]; exact HQB)⟩
              case measure => simp [intOf]; omega
          · have HH1 := Lib.hid (fun A c w' (hs : SRow w' A P5) => HHa.out A c P5 xo w' (by omega) hs)
            rw [decide_eq_false hO] at HH1
            simp only [decide_eq_false hO, Bool.false_and, Bool.false_eq_true, if_false] at HGs
            refine wp_region_held_drew (S := (fun w' => Below wa.heap.size wa w' ∧ (∀ o, w'.cell? ⟨bp, o, none⟩ = (#[.slice A1 S.length c1, .slice A2 G.length c2, .slice A3 H.length c3, .slice A4 Q.length c4] : Array Value)[o]?) ∧ (∀ o, w'.cell? ⟨bx, o, none⟩ = (#[.string xo, .string xn] : Array Value)[o]?))) (by kernel_rfl) hst (fun hHeld => ?_)
            refine wpAnyH_take (i := 0) (v := ?_) rfl (by kernel_rfl) (by kernel_rfl) (by kernel_rfl) (fun _ _ _ h => h) (Or.inl ⟨by kernel_rfl, ?_⟩) (by assumption) ?_
            rotate_left
            · intro w hSw; (try dsimp only at hSw); go_simp; try with_reducible rfl
            try simp only [Act.put, List.setIfInBounds_toArray, List.set_cons_zero, List.set_cons_succ]
            refine wpAnyH_take (i := 2) (v := ?_) rfl (by kernel_rfl) (by kernel_rfl) (by kernel_rfl) (fun _ _ _ h => h) (Or.inl ⟨by kernel_rfl, ?_⟩) (by assumption) ?_
            rotate_left
            · intro w hSw; (try dsimp only at hSw); go_simp; try with_reducible rfl
            try simp only [Act.put, List.setIfInBounds_toArray, List.set_cons_zero, List.set_cons_succ]
            refine wpAnyH_take (i := 3) (v := ?_) rfl (by kernel_rfl) (by kernel_rfl) (by kernel_rfl) (fun _ _ _ h => h) (Or.inl ⟨by kernel_rfl, ?_⟩) (by assumption) ?_
            rotate_left
            · intro w hSw; (try dsimp only at hSw); go_simp; try with_reducible rfl
            try simp only [Act.put, List.setIfInBounds_toArray, List.set_cons_zero, List.set_cons_succ]
            refine wpAnyH_ready (rs := [1]) (by kernel_rfl) (by simp) ?_
            refine AllReadyH.cons rfl (fun K hK => ?_) AllReadyH.nil
            go_simp
            refine (HJ1.out _ hHeld.1).mono ?_
            rintro e x1 ⟨v1, rfl, ho1, hb1⟩
            obtain ⟨Q1, k1, rfl, _, hr1⟩ := SRow.of_own ho1
            have hst1 := HK.out _ (nx15 hHeld.1 hb1)
            refine hK.out _ _ hst1 (fun hHeld1 => ?_)
            clear hK K
            try simp only [Act.put, List.setIfInBounds_toArray, List.set_cons_zero, List.set_cons_succ]
            refine wpAnyH_ready (rs := [4]) (by kernel_rfl) (by simp) ?_
            refine AllReadyH.cons rfl (fun K hK => ?_) AllReadyH.nil
            go_simp
            refine (HH1.out _ _ _ hr1).mono ?_
            rintro e x3 ⟨rfl, rfl⟩
            refine hK.out _ _ hst1 (fun hHeld2 => ?_)
            clear hK K
            try simp only [Act.put, List.setIfInBounds_toArray, List.set_cons_zero, List.set_cons_succ]
            refine wpAnyH_take (i := 5) (v := ?_) rfl (by kernel_rfl) (by kernel_rfl) (by kernel_rfl) (fun _ _ _ h => h) (Or.inl ⟨by kernel_rfl, ?_⟩) (by assumption) ?_
            rotate_left
            · intro w hSw; (try dsimp only at hSw); go_simp; try with_reducible rfl
            try simp only [Act.put, List.setIfInBounds_toArray, List.set_cons_zero, List.set_cons_succ]
            refine wpAnyH_take (i := 6) (v := undef) rfl (by kernel_rfl) (by kernel_rfl) (by kernel_rfl) (fun _ _ _ h => h) (Or.inr ⟨by kernel_rfl, rfl⟩) (by assumption) ?_
            try simp only [Act.put, List.setIfInBounds_toArray, List.set_cons_zero, List.set_cons_succ]
            refine wpAnyH_take (i := 7) (v := undef) rfl (by kernel_rfl) (by kernel_rfl) (by kernel_rfl) (fun _ _ _ h => h) (Or.inr ⟨by kernel_rfl, rfl⟩) (by assumption) ?_
            try simp only [Act.put, List.setIfInBounds_toArray, List.set_cons_zero, List.set_cons_succ]
            refine wpAnyH_take (i := 8) (v := undef) rfl (by kernel_rfl) (by kernel_rfl) (by kernel_rfl) (fun _ _ _ h => h) (Or.inr ⟨by kernel_rfl, rfl⟩) (by assumption) ?_
            try simp only [Act.put, List.setIfInBounds_toArray, List.set_cons_zero, List.set_cons_succ]
            refine wpAnyH_take (i := 9) (v := undef) rfl (by kernel_rfl) (by kernel_rfl) (by kernel_rfl) (fun _ _ _ h => h) (Or.inr ⟨by kernel_rfl, rfl⟩) (by assumption) ?_
            try simp only [Act.put, List.setIfInBounds_toArray, List.set_cons_zero, List.set_cons_succ]
            refine wpAnyH_take (i := 10) (v := undef) rfl (by kernel_rfl) (by kernel_rfl) (by kernel_rfl) (fun _ _ _ h => h) (Or.inr ⟨by kernel_rfl, rfl⟩) (by assumption) ?_
            try simp only [Act.put, List.setIfInBounds_toArray, List.set_cons_zero, List.set_cons_succ]
            refine wpAnyH_take (i := 11) (v := ?_) rfl (by kernel_rfl) (by kernel_rfl) (by kernel_rfl) (fun _ _ _ h => h) (Or.inl ⟨by kernel_rfl, ?_⟩) (by assumption) ?_
            rotate_left
            · intro w hSw; (try dsimp only at hSw); go_simp; try with_reducible rfl
            try simp only [Act.put, List.setIfInBounds_toArray, List.set_cons_zero, List.set_cons_succ]
            refine wpAnyH_done (by kernel_rfl) ?_ _
            have HQB := Lib.hid (HQA.out.below hst1.1)
            clear hHeld hHeld1 hHeld2 hst hst1 HK HJ1 HJ2 HH1 hr1 ho1 hb1 hO
            go_wp2_with fail
            go_roundw
            case rel => exact ⟨k + 1, A, c, by omega, by go_num, by first | exact HQB | (rw [HGs.out]; exact HQB) | (rw [← HGs.out]; exact HQB)⟩
            case measure => simp [intOf]; omega
        · have d1 : decide ((k : Int) < MR.length) = false := by simp; omega
          have hkm : k = MR.length := by omega
          subst hkm
          have hgl2 := HGQ.out MR.length
          obtain ⟨A', cc, hAe, _, hrf⟩ := RolA.RF.of_own hqs.out.own
          injection hAe with hAe _ hce
          subst hAe hce
          have HSo := Lib.hid (RolB.sortOwn A c (gq P5 NN G MR MR.length) wr (by omega) hrf)
          unfold RolB.SortOwn at HSo
          have cq := fun o => Lib.cell_of_heap hqs.out.blk o
          clear hrf hlt hk
          go_wp2_with fail
          refine HSo.out.mono ?_
          rintro e w7 ⟨v7, rfl, ho7, hb7⟩
          change w7.ownsRow _ _ 2 v7 (sortRl (gq P5 NN G MR MR.length)).length (rcells (sortRl (gq P5 NN G MR MR.length))) at ho7
          obtain ⟨AG, cG, rfl⟩ := PolLi.own_n ho7
          have hq7 := (hqs.out.below hb7).blk
          have hbl7 := (hqs.out.below hb7).bel
          have ho7' : w7.ownsRow (w1.heap.size + 1) 28 2 (.slice AG (sortRl (gq P5 NN G MR MR.length)).length cG) (sortRl (gq P5 NN G MR MR.length)).length (rcells (sortRl (gq P5 NN G MR MR.length))) := Qry7.own_more ho7 hqs.out.lt
          have hst8 := QS.store hq7 hbl7 ho7'
          have HS8 := Lib.hid hst8
          have hfz := free2 hq7 1
          have cq7 := fun o => Lib.cell_of_heap hq7 o
          clear ho7 ho7' hst8 hq7 hbl7 hb7 cq HSo hqs HBw
          go_upto_region 12 with fail
          generalize w7.setCell ⟨w1.heap.size, 1, none⟩ (.slice AG (sortRl (gq P5 NN G MR MR.length)).length cG) = w8 at *
          obtain ⟨hP5, hNN, hPP, hMM⟩ := HEq.out
          have hsq := HSQ.out
          have hcq := HCQ.out
          have hmq := HMQ.out
          have hmore := mem_more (p := ⟨S, G, H, Q⟩) (HRp.out HSw.out) hmq ⟨ro, rn⟩
          have hcount := max_count ⟨S, G, H, Q⟩
          have hetl := et_len ⟨S, G, H, Q⟩
          rw [hP5, hNN] at hsq hcq hmore
          rw [hPP, hMM] at hmore
          rw [hMM, hP5, hNN] at hcount
          rw [hPP, hP5] at hetl
          dsimp only at hsq hcq hmore hcount
          obtain ⟨LG, hLG⟩ : ∃ L, sortRl (gq P5 NN G MR MR.length) = L := ⟨_, rfl⟩
          rw [hLG] at hsq hcq hmore
          simp only [hLG] at HS8 ⊢
          obtain ⟨bq, hbq⟩ : ∃ b, w1.heap.size = b := ⟨_, rfl⟩
          have HB8 := Lib.hid (nx15 HW1.out HS8.out.bel)
          have HK8 := Lib.hid (fun (w' : World) (hb : Below w8.heap.size w8 w') => And.intro hb (And.intro (HC.out w' (nx15 HB8.out hb)).1 (And.intro (fun (o : Nat) => Lib.cell_of_heap (HS8.out.below hb).blk o) (HC.out w' (nx15 HB8.out hb)).2)))
          have HPGq := Lib.hid (fun (w' : World) (hb : Below w8.heap.size w8 w') => (show PG w' A1 AG A3 A4 (withG ⟨S, G, H, Q⟩ LG) from
            have h := HPQ.out w' (HX.out _ (nx15 HB8.out hb))
            ⟨h.s, PolK.rg_of_own (HS8.out.below hb).own, h.h, h.q⟩))
          have hE2 := fun (w' : World) (hb : Below w8.heap.size w8 w') => HiG.highEval (withG ⟨S, G, H, Q⟩ LG) A1 AG A3 A4 c1 cG c3 c4 w' (HTb.out w' (HX.out _ (nx15 HB8.out hb))) (HPw.out w' (HX.out _ (nx15 HB8.out hb))) hsq.few hcq (HPGq.out w' hb) hsq.e7 hsq.n4
          have hM2 := fun (w' : World) (hb : Below w8.heap.size w8 w') => HiH.highMembers (withG ⟨S, G, H, Q⟩ LG) A1 AG A3 A4 c1 cG c3 c4 ⟨ro, rn⟩ _ _ _ w' (HTb.out w' (HX.out _ (nx15 HB8.out hb))) (Nat.le_trans hsq.e7 (by omega)) (fun w'' hb2 => hE2 w'' (nx15 hb hb2))
          have hml1 : (memT (ET (withG ⟨S, G, H, Q⟩ LG)) (NT (withG ⟨S, G, H, Q⟩ LG)) (rulesOf (ET (withG ⟨S, G, H, Q⟩ LG)) (NT (withG ⟨S, G, H, Q⟩ LG)) (maxS (withG ⟨S, G, H, Q⟩ LG))) ⟨ro, rn⟩).length ≤ 16 := by
            unfold memT
            rw [List.length_map]
            exact Nat.le_trans (memD_len _ _ _ _) (by have := hsq.e7; omega)
          generalize memT (ET (withG ⟨S, G, H, Q⟩ LG)) (NT (withG ⟨S, G, H, Q⟩ LG)) (rulesOf (ET (withG ⟨S, G, H, Q⟩ LG)) (NT (withG ⟨S, G, H, Q⟩ LG)) (maxS (withG ⟨S, G, H, Q⟩ LG))) ⟨ro, rn⟩ = MQ at *
          have HMq := Lib.hid hM2
          unfold withG Py.val Rl.val Tab5.RowPost at HMq
          dsimp only at HMq
          have he7 := HE7.out HSw.out
          have hp7 := HP7.out HSw.out
          have hn4 := HN4.out HSw.out
          have hml := HMl.out HSw.out
          have hTl : (rulesOf PP NN M).length ≤ M.length := LwH.rulesOf_len PP NN M
          obtain ⟨T, hTe⟩ : ∃ T, rulesOf PP NN M = T := ⟨_, rfl⟩
          rw [hTe] at HMe HSt hmore hTl
          have hml2 : (memT PP NN T ⟨ro, rn⟩).length ≤ 16 := by
            unfold memT
            rw [List.length_map]
            exact Nat.le_trans (memD_len _ _ _ _) (by omega)
          generalize memT PP NN T ⟨ro, rn⟩ = MP at *
          have HIn : Hid (∀ (A B : Option Addr) (ca cb : Nat) (w' : World), SRow w' A MQ → SRow w' B MP → Calls Tryz.prog 17 #[.slice A MQ.length ca, .slice B MP.length cb] w' fun e w'' => e = .returned (.bool true) ∧ w' = w'') := Lib.hid (fun A B ca cb w' hA hB => by
            have h := LwE.insideN A B ca cb MQ MP w' (by omega) (by omega) hA hB
            rw [show LwE.insideB MQ MP = true from by unfold LwE.insideB; exact decide_eq_true hmore] at h
            exact h)
          have HBd : Hid (∀ w', Calls Tryz.prog 16 #[.int .i64 ((P5.length : Int) + 1), .int .i64 NN.length, .int .i64 M.length] w' fun e w'' => e = .returned (.int .i64 (SemJ.boundN (P5.length + 1) NN.length M.length : Nat)) ∧ w' = w'') := Lib.hid (fun w' => by
            have h := SemJ.bound ((P5.length : Int) + 1) NN.length M.length w'
            rw [show (SetA.within ((P5.length : Int) + 1) 64).toNat = P5.length + 1 from by unfold SetA.within; omega, show (SetA.within (NN.length : Int) 64).toNat = NN.length from by unfold SetA.within; omega, show (SetA.within (M.length : Int) 10000).toNat = M.length from by unfold SetA.within; omega] at h
            exact h)
          have HJ1 := Lib.hid (fun w' (hb : Below w8.heap.size w8 w') => HPr.out w' (HX.out _ (nx15 HB8.out hb)) HSw.out)
          have HJ2 := Lib.hid (fun w' (hb : Below w8.heap.size w8 w') => HNa.out w' (HX.out _ (nx15 HB8.out hb)) HSw.out)
          have HJ3 := Lib.hid (fun w' (hb : Below w8.heap.size w8 w') => HMi.out w' (HX.out _ (nx15 HB8.out hb)) HSw.out)
          have HJ4 := Lib.hid (fun w' (hb : Below w8.heap.size w8 w') => HSt.out w' (HX.out _ (nx15 HB8.out hb)) HSw.out)
          have HJ5 := Lib.hid (fun w' (hb : Below w8.heap.size w8 w') => HMe.out w' (HX.out _ (nx15 HB8.out hb)) HSw.out)
          have HJ6 := Lib.hid (fun w' (hb : Below w8.heap.size w8 w') => HLv.out w' (HX.out _ (nx15 HB8.out hb)))
          have hst := HK8.out _ ((Below.refl w8.heap.size w8).drew)
          have hbnd := SemJ.bound_steps (P := P5.length + 1) (K := NN.length) (N := M.length) (by omega) (by omega) (by omega)
          have HSle := Lib.hid (fun (st : Nat) (h : LwH.STF PP.length NN.length T st) => steps_le (n := P5.length + 1) (N := M.length) h.1 hetl (by omega))
          have HCt := Lib.hid hcount
          simp only [hbq] at HK8 hst ⊢
          obtain ⟨n1, hn1⟩ : ∃ n : Nat, P5.length + 1 = n := ⟨_, rfl⟩
          rw [hn1] at hcount hbnd HSle HBd
          have hn1i : (P5.length : Int) + 1 = (n1 : Int) := by omega
          rw [hn1i] at HBd
          have hwn : IntKind.i64.wrap ((P5.length : Int) + 1) = (n1 : Int) := by rw [IntKind.wrap_i64]; omega
          have hn17 : n1 ≤ 17 := by omega
          have hwn' : IntKind.i64.wrap (n1 : Int) = (n1 : Int) := by rw [IntKind.wrap_i64]; omega
          have hsn : S.length ≤ 30 := HS30.out HSw.out
          have hm2b : n1 * n1 ≤ 17 * 17 := Nat.mul_le_mul hn17 hn17
          have hm3b : n1 * n1 * NN.length ≤ 17 * 17 * 4 := Nat.mul_le_mul hm2b hn4
          obtain ⟨m2, hm2⟩ : ∃ n : Nat, n1 * n1 = n := ⟨_, rfl⟩
          rw [hm2] at hm2b hm3b hcount
          obtain ⟨m3, hm3⟩ : ∃ n : Nat, m2 * NN.length = n := ⟨_, rfl⟩
          rw [hm3] at hm3b hcount
          have hw2 : IntKind.i64.wrap ((n1 : Int) * (n1 : Int)) = (m2 : Int) := by rw [← Int.natCast_mul, hm2, IntKind.wrap_i64]; omega
          have hw3 : IntKind.i64.wrap ((m2 : Int) * (NN.length : Int)) = (m3 : Int) := by rw [← Int.natCast_mul, hm3, IntKind.wrap_i64]; omega
          have hw4 : IntKind.i64.wrap ((S.length : Int) + (m3 : Int)) = (S.length : Int) + m3 := by rw [IntKind.wrap_i64]; omega
          have hd1 : decide ((M.length : Int) ≤ (S.length : Int) + (m3 : Int)) = true := by simp; omega
          clear hP5 hNN hPP hMM hsq hcq hmq hmore hcount hLG hE2 hM2 hTe hTl hml1 hml2 cq7 hfz HS8
          go_region_held3 (fun w' => Below w8.heap.size w8 w' ∧ (∀ o, w'.cell? ⟨bp, o, none⟩ = (#[.slice A1 S.length c1, .slice A2 G.length c2, .slice A3 H.length c3, .slice A4 Q.length c4] : Array Value)[o]?) ∧ (∀ o, w'.cell? ⟨bq, o, none⟩ = (#[.slice A1 S.length c1, .slice AG LG.length cG, .slice A3 H.length c3, .slice A4 Q.length c4] : Array Value)[o]?) ∧ (∀ o, w'.cell? ⟨bp + 1, o, none⟩ = (#[.string ro, .string rn] : Array Value)[o]?))
            (first | with_reducible exact hst | with_reducible assumption | exact HK8.out _ (nx15 (by apply And.left; with_reducible assumption) (by with_reducible assumption)))
            (first | ((with_reducible refine (HJ1.out _ (by apply And.left; with_reducible assumption)).mono ?_); rintro e x1 ⟨v1, rfl, ho1, hb1⟩; obtain ⟨Q1, k1, rfl, _, hr1⟩ := SRow.of_own ho1)
                   | ((with_reducible refine (HJ2.out _ (by apply And.left; with_reducible assumption)).mono ?_); rintro e x2 ⟨v2, rfl, ho2, hb2⟩; obtain ⟨Q2, k2, rfl, _, hr2⟩ := SRow.of_own ho2))
          rename_i hHeld
          have HB9 := Lib.hid hHeld.1
          have cp := hHeld.2.1
          clear hHeld hst HJ1 HJ2 hr1 hr2 ho1 ho2 hb1 hb2
          go_wp2_with fail
          refine (HJ3.out _ HB9.out).mono ?_
          rintro e w11 ⟨v11, rfl, ho11, hb11⟩
          obtain ⟨Q11, q11, rfl, hs11⟩ := ho11.form
          have HB11 := Lib.hid (nx15 HB9.out hb11)
          have hst := HK8.out _ (HB11.out.drew)
          clear ho11 hs11 hb11 HB9 cp HJ3
          go_upto_region 14 with fail
          go_region_held3 (fun w' => Below w8.heap.size w8 w' ∧ (∀ o, w'.cell? ⟨bp, o, none⟩ = (#[.slice A1 S.length c1, .slice A2 G.length c2, .slice A3 H.length c3, .slice A4 Q.length c4] : Array Value)[o]?) ∧ (∀ o, w'.cell? ⟨bq, o, none⟩ = (#[.slice A1 S.length c1, .slice AG LG.length cG, .slice A3 H.length c3, .slice A4 Q.length c4] : Array Value)[o]?) ∧ (∀ o, w'.cell? ⟨bp + 1, o, none⟩ = (#[.string ro, .string rn] : Array Value)[o]?))
            (first | with_reducible exact hst | with_reducible assumption | exact HK8.out _ (nx15 (by apply And.left; with_reducible assumption) (by with_reducible assumption)))
            (first | ((with_reducible refine (HJ4.out _ (by apply And.left; with_reducible assumption)).mono ?_); rintro e x1 ⟨st, rfl, hst4, hb1⟩; have hle := HSle.out st hst4; have hd2 : decide ((st : Int) ≤ ((SemJ.boundN n1 NN.length M.length : Nat) : Int)) = true := decide_eq_true (by omega))
                   | ((with_reducible refine (HBd.out _).mono ?_); rintro e x2 ⟨rfl, rfl⟩)
                   | ((with_reducible refine (HMq.out _ (by apply And.left; with_reducible assumption)).mono ?_); rintro e x3 ⟨v3, rfl, ho3, hb3⟩; obtain ⟨Q3, k3, rfl, _, hr3⟩ := SRow.of_own ho3)
                   | ((with_reducible refine (HJ5.out _ (by apply And.left; with_reducible assumption)).mono ?_); rintro e x4 ⟨v4, rfl, ho4, hb4⟩; obtain ⟨Q4, k4, rfl, _, hr4⟩ := SRow.of_own ho4)
                   | ((with_reducible refine (HIn.out _ _ _ _ _ (hr3.keep hb4) hr4).mono ?_); rintro e x5 ⟨rfl, rfl⟩)
                   | ((with_reducible refine (HJ6.out _ (by apply And.left; with_reducible assumption)).mono ?_); rintro e x6 ⟨rfl, hb6⟩))
          rename_i hHeld
          have HF := Lib.hid (HX.out _ (nx15 HB8.out hHeld.1))
          clear hHeld hst hr3 hr4 ho3 ho4 hb1 hb3 hb4 hb6 HJ4 HJ5 HJ6
          go_wp2_with fail
          go_ret
          exact ⟨rfl, by first | exact HF.out | (rw [← hbp]; exact HF.out)⟩
end Go.Proofs.YtblapgfilbmdhaaGreatDoor.HiU
