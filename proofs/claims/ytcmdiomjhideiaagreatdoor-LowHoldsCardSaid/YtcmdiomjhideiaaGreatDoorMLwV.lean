/- The walk of the law that the least state is in all. -/
import Derived.Test.YtcmdiomjhideiaaGreatDoorM24
import Derived.Test.YtcmdiomjhideiaaGreatDoorM25
namespace Go.Proofs.YtcmdiomjhideiaaGreatDoor.LwV
set_option linter.unusedVariables false
set_option linter.unusedSimpArgs false
open Go.RowKit Go.Sort Go.Lib Go.Proofs Go.Proofs.YtcmdiomjhideiaaGreatDoor.Plain Go.Proofs.YtcmdiomjhideiaaGreatDoor.SynP Go.Proofs.YtcmdiomjhideiaaGreatDoor.TabP Go.Proofs.YtcmdiomjhideiaaGreatDoor.Tab1 Go.Proofs.YtcmdiomjhideiaaGreatDoor.Tab5 Go.Proofs.YtcmdiomjhideiaaGreatDoor.PolA Go.Proofs.YtcmdiomjhideiaaGreatDoor.PolE Go.Proofs.YtcmdiomjhideiaaGreatDoor.PolG Go.Proofs.YtcmdiomjhideiaaGreatDoor.PolH Go.Proofs.YtcmdiomjhideiaaGreatDoor.PolOp Go.Proofs.YtcmdiomjhideiaaGreatDoor.PolLi Go.Proofs.YtcmdiomjhideiaaGreatDoor.RefPr Go.Proofs.YtcmdiomjhideiaaGreatDoor.TblA Go.Proofs.YtcmdiomjhideiaaGreatDoor.TblB Go.Proofs.YtcmdiomjhideiaaGreatDoor.TblC Go.Proofs.YtcmdiomjhideiaaGreatDoor.TblP Go.Proofs.YtcmdiomjhideiaaGreatDoor.TblQ Go.Proofs.YtcmdiomjhideiaaGreatDoor.TblR Go.Proofs.YtcmdiomjhideiaaGreatDoor.SetJ Go.Proofs.YtcmdiomjhideiaaGreatDoor.SetR Go.Proofs.YtcmdiomjhideiaaGreatDoor.SemA Go.Proofs.YtcmdiomjhideiaaGreatDoor.SemGa Go.Proofs.YtcmdiomjhideiaaGreatDoor.StB Go.Proofs.YtcmdiomjhideiaaGreatDoor.StR Go.Proofs.YtcmdiomjhideiaaGreatDoor.LwA Go.Proofs.YtcmdiomjhideiaaGreatDoor.LwD Go.Proofs.YtcmdiomjhideiaaGreatDoor.LwE Go.Proofs.YtcmdiomjhideiaaGreatDoor.LwG Go.Proofs.YtcmdiomjhideiaaGreatDoor.LwH Go.Proofs.YtcmdiomjhideiaaGreatDoor.LwM Go.Proofs.YtcmdiomjhideiaaGreatDoor.LwT
set_option linter.unusedVariables false
set_option linter.unusedSimpArgs false
abbrev nx := @LwH.nx
theorem reach_min {p : Py} (h : Rt p) : ((minS p).all (StJ.ok1 p.stmts p.grow) && p.stmts.all (StJ.ok2 (minS p) p.shrink)) = true := by
  rw [Bool.and_eq_true]
  constructor
  · rw [List.all_eq_true]
    intro s hs
    unfold minS at hs
    obtain ⟨h1, _⟩ := List.mem_filter.1 hs
    unfold StJ.ok1
    simp [h.st s h1, h1]
  · rw [List.all_eq_true]
    intro s hs
    unfold StJ.ok2
    by_cases hm : s.head ∈ p.shrink
    · have : s ∈ minS p := by
        unfold minS
        exact List.mem_filter.2 ⟨hs, by unfold stays; simp [hm]⟩
      simp [this]
    · simp [hm]
theorem min_in {p : Py} {C : List St} (h : p.stmts.all (StJ.ok2 C p.shrink) = true) : ∀ s ∈ minS p, s ∈ C := fun s hs => by
  unfold minS at hs
  obtain ⟨h1, h2⟩ := List.mem_filter.1 hs
  have := List.all_eq_true.1 h s h1
  unfold StJ.ok2 at this
  unfold stays at h2
  rw [h2] at this
  simpa using this
theorem inside_of {P L : List Str} {S C : List St} {X : List Pa} (hP : P.Pairwise (· < ·)) (h : AllOk P L S) (hX : ∀ r x, (⟨r, x⟩ : Pa) ∈ X ↔ DerN C r x) (hs : ∀ s ∈ S, s ∈ C) (r : Rl) : insideB (memT P L (rulesOf P L S) r) (memF X r) = true := by
  unfold insideB
  refine decide_eq_true fun y hy => ?_
  rw [mem_memF hX]
  exact DerN.mono hs ((mem_memT hP h r y).1 hy)
set_option maxHeartbeats 8000000 in
set_option maxRecDepth 100000 in
theorem law (p : Py) (A1 A2 A3 A4 : Option Addr) (c1 c2 c3 c4 : Nat) (B0 : Option Addr) (d0 : Nat) (C : List St) (r : Rl) (w : World) (hT : Tab w) (hc : Came p) (hp : PG w A1 A2 A3 A4 p) (hCl : C.length ≤ maxLen) (hCf : ∀ s ∈ C, s.fit) (hCs : SG w B0 C) :
    Calls Tryz.prog 4 #[p.val A1 A2 A3 A4 c1 c2 c3 c4, .slice B0 C.length d0, r.val] w fun e w' => e = .returned (.bool true) ∧ Below w.heap.size w w' := by
  have hbX : Below w.heap.size w ((w.alloc (.cells #[.slice A1 p.stmts.length c1, .slice A2 p.grow.length c2, .slice A3 p.shrink.length c3, .slice A4 p.asks.length c4] 26)).alloc (.cells #[.string r.owner, .string r.name] 28)) := ((Below.refl _ _).alloc (Nat.le_refl _) _).alloc (by simp) _
  have HLi := Lib.hid (fun w' (hb : Below w.heap.size w w') => PolLi.light p A1 A2 A3 A4 c1 c2 c3 c4 w' hc (hp.below hb))
  have HLv := Lib.hid (fun w' (hb : Below w.heap.size w w') => LwL.lives w' (Tab.below hT hb))
  have HRi := Lib.hid (fun w' (hb : Below w.heap.size w w') (hf : Few p) => StR.rightRef5 p A1 A2 A3 A4 c1 c2 c3 c4 w' (hf.fit hc) (hp.below hb))
  have HRe := Lib.hid (fun w' (hb : Below w.heap.size w w') (hf : Few p) (B1 : Option Addr) (cb : Nat) (D : List St) (hD : D.length ≤ 1000) (hDf : ∀ s ∈ D, s.fit) (hDs : SG w' B1 D) => StJ.refReaches p A1 A2 A3 A4 B1 c1 c2 c3 c4 cb D w' (by have := hf.n1; omega) (by have := hf.n2; omega) (by have := hf.n3; omega) hD (hp.below hb).s (hp.below hb).g (hp.below hb).h hDs hDf)
  simp only [StJ.reach_ref] at HRe
  have HLc := Lib.hid (fun w' (hb : Below w.heap.size w w') => StH.light B0 d0 C w' hCl (hCs.below hb))
  have HCs := Lib.hid (fun w' (hb : Below w.heap.size w w') => hCs.below hb)
  have HCf := Lib.hid hCf
  have HMf : Hid (∀ s ∈ minS p, s.fit) := Lib.hid (fun s hs => hc.f1 s (by unfold minS at hs; exact (List.mem_filter.1 hs).1))
  have HQ1 : Hid (Rt p → ((minS p).all (StJ.ok1 p.stmts p.grow) && p.stmts.all (StJ.ok2 (minS p) p.shrink)) = true) := Lib.hid (fun h => reach_min h)
  have HQ2 : Hid (p.stmts.all (StJ.ok2 C p.shrink) = true → ∀ s ∈ minS p, s ∈ C) := Lib.hid (fun h => min_in h)
  have HMi := Lib.hid (fun w' (hb : Below w.heap.size w w') (hf : Few p) => LwG.minimal p A1 A2 A3 A4 c1 c2 c3 c4 w' (by have := hf.n1; omega) (by have := hf.n3; omega) hc.f1 (hp.below hb).s (hp.below hb).h)
  have HEv := Lib.hid (fun w' (hb : Below w.heap.size w w') (hf : Few p) (hr : Rt p) => lowEval p A1 A2 A3 A4 c1 c2 c3 c4 w' (Tab.below hT hb) hf hc (hp.below hb) (by have := hr.ps; omega) (by have := hr.ns; omega))
  have HMe := Lib.hid (fun w' (hb : Below w.heap.size w w') (hf : Few p) (hr : Rt p) => lowMembers p A1 A2 A3 A4 c1 c2 c3 c4 r (PT p) (NT p) (rulesOf (PT p) (NT p) (minS p)) w' (Tab.below hT hb) (by have := hr.ps; omega) (fun w'' hb2 => HEv.out w'' (nx hb hb2) hf hr))
  have HTb := Lib.hid (fun w' (hb : Below w.heap.size w w') => Tab.below hT hb)
  have HRt := Lib.hid (fun (h : rightR p = true) => rt_of h)
  have HOk := Lib.hid (fun (h : Rt p) => min_ok h.st)
  have HPu := Lib.hid (LwL.pt_up p)
  have HNu := Lib.hid (nt_up p)
  have HMl : Hid (Few p → (minS p).length ≤ 30) := Lib.hid (fun hf => Nat.le_trans (by unfold minS; exact List.length_filter_le _ _) hf.n1)
  have HPS := Lib.hid (fun (h : Rt p) => h.ps)
  have HNS := Lib.hid (fun (h : Rt p) => h.ns)
  clear hc hp hT hCs hCf
  obtain ⟨RR, hRR⟩ : ∃ b, rightR p = b := ⟨_, rfl⟩
  rw [hRR] at HRi HRt
  unfold LightPost at HLi
  unfold StH.LightPost at HLc
  unfold OwnPost at HMi
  unfold TMPost TM at HEv
  unfold Tab5.RowPost at HMe
  generalize hPT : PT p = PP at *
  generalize hNT : NT p = NN at *
  generalize hMS : minS p = M at *
  clear hPT hNT hMS hRR
  obtain ⟨FW, hFW⟩ : ∃ q, Few p = q := ⟨_, rfl⟩
  obtain ⟨RP, hRP⟩ : ∃ q, Rt p = q := ⟨_, rfl⟩
  rw [hFW] at HLi HRi HRe HMi HEv HMe HMl
  rw [hRP] at HEv HMe HRt HOk HPS HNS HQ1
  clear hFW hRP
  obtain ⟨S, G, H, Q⟩ := p
  obtain ⟨ro, rn⟩ := r
  unfold Py.val Rl.val at *
  dsimp only at *
  have HB0 := Lib.hid hbX
  have hc1 := fun o => Lib.cell_of_heap (heap_alloc2_old w (.cells #[.slice A1 S.length c1, .slice A2 G.length c2, .slice A3 H.length c3, .slice A4 Q.length c4] 26) (.cells #[.string ro, .string rn] 28)) o
  have hc2 := fun o => Lib.cell_of_heap (heap_alloc2_new w (.cells #[.slice A1 S.length c1, .slice A2 G.length c2, .slice A3 H.length c3, .slice A4 Q.length c4] 26) (.cells #[.string ro, .string rn] 28)) o
  have hlt : w.heap.size + 1 < ((w.alloc (.cells #[.slice A1 S.length c1, .slice A2 G.length c2, .slice A3 H.length c3, .slice A4 Q.length c4] 26)).alloc (.cells #[.string ro, .string rn] 28)).heap.size := by simp
  clear hbX
  go_enter Tryz.func4, Tryz.ntmps4
  go_upto_region 1 with fail
  obtain ⟨bp, hbp⟩ : ∃ bp, w.heap.size = bp := ⟨_, rfl⟩
  simp only [hbp] at hc1 hc2 hlt ⊢
  generalize (w.alloc (.cells #[.slice A1 S.length c1, .slice A2 G.length c2, .slice A3 H.length c3, .slice A4 Q.length c4] 26)).alloc (.cells #[.string ro, .string rn] 28) = w0 at *
  have HC := Lib.hid (fun w' (hb : Below w0.heap.size w0 w') => And.intro (fun o => (hb.cell (p := ⟨bp, o, none⟩) (by show bp < _; omega)).trans (hc1 o)) (fun o => (hb.cell (p := ⟨bp + 1, o, none⟩) hlt).trans (hc2 o)))
  have HX := Lib.hid (fun w' (hb : Below w0.heap.size w0 w') => nx HB0.out hb)
  clear hc2 hlt
  go_wp2_with fail
  refine (HLi.out _ HB0.out).mono ?_
  rintro e w1 ⟨b1, rfl, hfew, hb1⟩
  have HW1 := Lib.hid hb1
  clear hb1 hc1 HLi
  have fin : ∀ (wx : World), Below w0.heap.size w0 wx → Calls Tryz.prog 14 #[] wx fun e w' => e = .returned (.bool true) ∧ Below wx.heap.size wx w' := fun wx h => HLv.out wx (HX.out wx h)
  have HFin := Lib.hid fin
  clear fin HLv
  cases b1
  · clear hfew
    go_wp2_with fail
    refine (HFin.out _ HW1.out).mono ?_
    rintro e w2 ⟨rfl, hb2⟩
    have HF := Lib.hid (HX.out _ (nx HW1.out hb2))
    clear hb2
    go_wp2_with fail
    go_ret
    exact ⟨rfl, by first | exact HF.out | (rw [← hbp]; exact HF.out)⟩
  · have HFw := Lib.hid (hfew rfl)
    have hc1 := (HC.out w1 HW1.out).1
    clear hfew
    go_wp2_with fail
    refine (HRi.out _ (HX.out _ HW1.out) HFw.out).mono ?_
    rintro e w2 ⟨rfl, hb2⟩
    have HW2 := Lib.hid (nx HW1.out hb2)
    clear hb2 hc1 HRi
    cases RR
    · go_wp2_with fail
      refine (HFin.out _ HW2.out).mono ?_
      rintro e w3 ⟨rfl, hb3⟩
      have HF := Lib.hid (HX.out _ (nx HW2.out hb3))
      clear hb3
      go_wp2_with fail
      go_ret
      exact ⟨rfl, by first | exact HF.out | (rw [← hbp]; exact HF.out)⟩
    · have HR := Lib.hid (HRt.out rfl)
      go_wp2_with fail
      refine (HLc.out _ (HX.out _ HW2.out)).mono ?_
      rintro e w3 ⟨b3, rfl, hfc, hb3⟩
      have HW3 := Lib.hid (nx HW2.out hb3)
      clear hb3 HLc
      cases b3
      · clear hfc
        go_wp2_with fail
        refine (HFin.out _ HW3.out).mono ?_
        rintro e w4 ⟨rfl, hb4⟩
        have HF := Lib.hid (HX.out _ (nx HW3.out hb4))
        clear hb4
        go_wp2_with fail
        go_ret
        exact ⟨rfl, by first | exact HF.out | (rw [← hbp]; exact HF.out)⟩
      · have hCl40 := hfc rfl
        have hml := HMl.out HFw.out
        have hc1 := (HC.out w3 HW3.out).1
        clear hfc
        go_wp2_with fail
        refine (HMi.out _ (HX.out _ HW3.out) HFw.out).mono ?_
        intro e w4 hpost
        obtain ⟨v4, rfl, ho4, hb4⟩ := hpost
        obtain ⟨AM, cM, rfl, hsg⟩ := ho4.form
        have HW4 := Lib.hid (nx HW3.out hb4)
        have HSG := Lib.hid hsg
        have h1 := HQ1.out HR.out
        have HR1 := Lib.hid (HRe.out w4 (HX.out _ HW4.out) HFw.out AM cM M (by omega) HMf.out hsg)
        rw [h1] at HR1
        have hc4 := (HC.out w4 HW4.out).1
        clear hb4 ho4 hsg hc1 h1 HMi HQ1
        go_wp2_with fail
        refine HR1.out.mono ?_
        rintro e w5 ⟨rfl, hb5⟩
        have HW5 := Lib.hid (nx HW4.out hb5)
        have HSG5 := Lib.hid (HSG.out.below hb5)
        have HR2 := Lib.hid (HRe.out w5 (HX.out _ HW5.out) HFw.out B0 d0 C (by omega) HCf.out (HCs.out w5 (HX.out _ HW5.out)))
        have hc5 := (HC.out w5 HW5.out).1
        clear hb5 hc4 HR1 HSG HRe
        cases hre : (C.all (StJ.ok1 S G) && S.all (StJ.ok2 C H))
        · rw [hre] at HR2
          go_wp2_with fail
          refine HR2.out.mono ?_
          rintro e w6 ⟨rfl, hb6⟩
          have HW6 := Lib.hid (nx HW5.out hb6)
          clear hb6 hc5 HR2
          go_wp2_with fail
          refine (HFin.out _ HW6.out).mono ?_
          rintro e w7 ⟨rfl, hb7⟩
          have HF := Lib.hid (HX.out _ (nx HW6.out hb7))
          clear hb7
          go_wp2_with fail
          go_ret
          exact ⟨rfl, by first | exact HF.out | (rw [← hbp]; exact HF.out)⟩
        · rw [hre] at HR2
          rw [Bool.and_eq_true] at hre
          have HMC := Lib.hid (HQ2.out hre.2)
          clear hre
          go_wp2_with fail
          refine HR2.out.mono ?_
          rintro e w6 ⟨rfl, hb6⟩
          have HW6 := Lib.hid (nx HW5.out hb6)
          have HSG6 := Lib.hid (fun w' (hb : Below w6.heap.size w6 w') => HSG5.out.below (nx hb6 hb))
          have HX6 := Lib.hid (fun w' (hb : Below w6.heap.size w6 w') => HX.out w' (nx HW6.out hb))
          have HC6 := Lib.hid (fun w' (hb : Below w6.heap.size w6 w') => HC.out w' (nx HW6.out hb))
          have hps := HPS.out HR.out
          have HOK := Lib.hid (HOk.out HR.out)
          clear hb6 hc5 HR2 HSG5 HC HX HOk HPS HNS HRt HQ2
          go_wp2_with fail
          go_loopw [37] (fun i wr => ∃ k : Nat, k ≤ M.length ∧ i = .int .i64 k ∧ Below w6.heap.size w6 wr) (fun i _ => M.length - (intOf i).toNat)
          case atStart => exact ⟨0, by omega, rfl, Below.refl _ _⟩
          case round =>
            obtain ⟨k, hk, rfl, hb⟩ := hrel
            by_cases hlt : k < M.length
            · have e1 : decide ((k : Int) < M.length) = true := by simp; omega
              obtain ⟨g, o, rfl, hg, hcs⟩ := (HSG6.out wr hb) (by omega)
              obtain ⟨a0, a1, a2, a3, a4, a5, a6, a7, a8⟩ := hcs k hlt
              have hmem := HMC.out M[k] (List.getElem_mem hlt)
              have HH := Lib.hid (fun w' (hb' : Below wr.heap.size wr w') => StH.hasG B0 d0 C M[k] w' (by omega) (HCs.out w' (HX6.out w' (nx hb hb'))))
              rw [decide_eq_true hmem] at HH
              have p1 : (0 : Int) ≤ k := by omega
              have p2 : (k : Int) < M.length := by omega
              clear hcs hmem
              generalize M[k] = s at *
              obtain ⟨kd, ⟨ho, hn⟩, wh, ⟨ao, an⟩, ⟨bo, bn⟩, vi⟩ := s
              simp only at a0 a1 a2 a3 a4 a5 a6 a7 a8
              unfold St.val at HH
              have hnw := heap_alloc_new wr (.cells #[.int .i64 kd, .string ho, .string hn, .string wh, .string ao, .string an, .string bo, .string bn, .string vi] 55)
              have hbn := (Below.refl wr.heap.size wr).alloc (Nat.le_refl _) (.cells #[.int .i64 kd, .string ho, .string hn, .string wh, .string ao, .string an, .string bo, .string bn, .string vi] 55)
              have cs := fun o => Lib.cell_of_heap hnw o
              have HH2 := Lib.hid (HH.out _ hbn)
              have HBn := Lib.hid (nx hb hbn)
              clear hnw hbn HH hb
              go_upto_region 11 with fail
              generalize wr.alloc (.cells #[.int .i64 kd, .string ho, .string hn, .string wh, .string ao, .string an, .string bo, .string bn, .string vi] 55) = w7 at *
              go_wp2_with fail
              refine HH2.out.mono ?_
              rintro e w8 ⟨rfl, hb8⟩
              have HB8 := Lib.hid (nx HBn.out hb8)
              clear hb8 cs a0 a1 a2 a3 a4 a5 a6 a7 a8 HH2
              go_wp2_with fail
              go_roundw
              case rel => exact ⟨k + 1, by omega, by go_num, HB8.out⟩
              case measure => simp [intOf]; omega
            · have e1 : decide ((k : Int) < M.length) = false := by simp; omega
              have HBw := Lib.hid hb
              have M3 := Lib.hid (fun w' (hb' : Below wr.heap.size wr w') => HMe.out w' (HX6.out w' (nx HBw.out hb')) HFw.out HR.out)
              have hmtl : (memT PP NN (rulesOf PP NN M) ⟨ro, rn⟩).length ≤ 16 := by
                unfold memT
                rw [List.length_map]
                exact Nat.le_trans (memD_len _ _ _ _) hps
              have HIB : Hid (∀ X : List Pa, (∀ r x, (⟨r, x⟩ : Pa) ∈ X ↔ DerN C r x) → insideB (memT PP NN (rulesOf PP NN M) ⟨ro, rn⟩) (memF X ⟨ro, rn⟩) = true) := Lib.hid (fun X hX => inside_of HPu.out HOK.out hX HMC.out ⟨ro, rn⟩)
              obtain ⟨MT, hMT⟩ : ∃ MT, memT PP NN (rulesOf PP NN M) ⟨ro, rn⟩ = MT := ⟨_, rfl⟩
              rw [hMT] at M3 hmtl HIB
              have M4 : Hid (∀ w', Below wr.heap.size wr w' → Calls Tryz.prog 16 #[.slice B0 C.length d0] w' fun e w'' => ∃ (X : List Pa) (A : Option Addr) (c : Nat), e = .returned (.slice A X.length c) ∧ PaG w'' A X ∧ X.length ≤ 1600 ∧ insideB MT (memF X ⟨ro, rn⟩) = true ∧ Below w'.heap.size w' w'') := Lib.hid (fun w' hb' => by
                refine (evalN B0 d0 C w' (by omega) (HCs.out w' (HX6.out w' (nx HBw.out hb')))).mono ?_
                rintro e w'' ⟨v, X, rfl, hown, _, hX, hl, hb''⟩
                obtain ⟨A, c, rfl, _, hpx⟩ := pa_own hown
                exact ⟨X, A, c, rfl, hpx, Nat.le_trans hl (Nat.le_trans (Nat.mul_le_mul hCl40 hCl40) (by omega)), HIB.out X hX, hb''⟩)
              have M5 : Hid (∀ (X : List Pa) A c w', X.length ≤ 1600 → PaG w' A X → Calls Tryz.prog 20 #[.slice A X.length c, .agg #[.string ro, .string rn]] w' fun e w'' => ∃ A' c', e = .returned (.slice A' (memF X ⟨ro, rn⟩).length c') ∧ SRow w'' A' (memF X ⟨ro, rn⟩) ∧ Below w'.heap.size w' w'') := Lib.hid (fun X A c w' hl hpx => by
                refine (membersN A c X ⟨ro, rn⟩ w' (by omega) hpx).mono ?_
                rintro e w'' ⟨v, rfl, ho, hb''⟩
                obtain ⟨A', c', rfl, _, hr⟩ := SRow.of_own ho
                exact ⟨A', c', rfl, hr, hb''⟩)
              have M6 : Hid (∀ (X : List Pa) A B ca cb w', X.length ≤ 1600 → insideB MT (memF X ⟨ro, rn⟩) = true → SRow w' A MT → SRow w' B (memF X ⟨ro, rn⟩) → Calls Tryz.prog 32 #[.slice A MT.length ca, .slice B (memF X ⟨ro, rn⟩).length cb] w' fun e w'' => e = .returned (.bool true) ∧ w' = w'') := Lib.hid (fun X A B ca cb w' hl hi h1 h2 => by
                have h := insideN A B ca cb MT (memF X ⟨ro, rn⟩) w' (by omega) (Nat.le_trans (memF_len X ⟨ro, rn⟩) (by omega)) h1 h2
                rw [hi] at h
                exact h)
              have M10 := Lib.hid (fun w' (hb' : Below wr.heap.size wr w') => HFin.out w' (nx HW6.out (nx HBw.out hb')))
              have HKK := Lib.hid (fun w' (hb' : Below wr.heap.size wr w') => And.intro hb' (HC6.out w' (nx HBw.out hb')))
              have hst := HKK.out wr.drew ((Below.refl _ _).drew)
              clear hb HMe HSG6 HTb HFin hMT HIB
              go_upto_region 14 with fail
              go_region_held3 (fun w' => Below wr.heap.size wr w' ∧ (∀ o, w'.cell? ⟨bp, o, none⟩ = (#[.slice A1 S.length c1, .slice A2 G.length c2, .slice A3 H.length c3, .slice A4 Q.length c4] : Array Value)[o]?) ∧ (∀ o, w'.cell? ⟨bp + 1, o, none⟩ = (#[.string ro, .string rn] : Array Value)[o]?))
                (first | with_reducible exact hst | with_reducible assumption | exact HKK.out _ (nx (by apply And.left; with_reducible assumption) (by with_reducible assumption)))
                (first | ((with_reducible refine (M3.out _ (by apply And.left; with_reducible assumption)).mono ?_); rintro e x3 ⟨v3, rfl, ho3, hb3⟩; obtain ⟨Q3, q3, rfl, _, hr3⟩ := SRow.of_own ho3)
                       | ((with_reducible refine (M4.out _ (by apply And.left; with_reducible assumption)).mono ?_); rintro e x4 ⟨X, Q4, q4, rfl, hp4, hl4, hi4, hb4⟩)
                       | ((with_reducible refine (M5.out X _ _ _ hl4 (by first | with_reducible exact hp4 | exact hp4.below hb3)).mono ?_); rintro e x5 ⟨Q5, q5, rfl, hr5, hb5⟩)
                       | ((with_reducible refine (M6.out X _ _ _ _ _ hl4 hi4 (by first | with_reducible exact hr3 | exact hr3.keep hb5 | exact hr3.keep (nx hb4 hb5)) (by first | with_reducible exact hr5 | exact hr5.keep hb3)).mono ?_); rintro e x6 ⟨rfl, rfl⟩)
                       | ((with_reducible refine (M10.out _ (by apply And.left; with_reducible assumption)).mono ?_); rintro e x10 ⟨rfl, hb10⟩))
              all_goals rename_i hHeld
              all_goals (have HF := Lib.hid (nx (HX6.out wr HBw.out) hHeld.1); clear hHeld; go_wp2_with fail; go_ret; exact ⟨rfl, by first | exact HF.out | (rw [← hbp]; exact HF.out)⟩)
end Go.Proofs.YtcmdiomjhideiaaGreatDoor.LwV
