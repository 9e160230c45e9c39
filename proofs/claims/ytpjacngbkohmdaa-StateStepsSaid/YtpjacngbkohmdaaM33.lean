/- The walk of the law of states that are reached step by step. -/
import Derived.Test.YtpjacngbkohmdaaM28
import Derived.Test.YtpjacngbkohmdaaM32
namespace Go.Proofs.Ytpjacngbkohmdaa.StQ
set_option linter.unusedVariables false
set_option linter.unusedSimpArgs false
open Go.Shelf Go.RowKit Go.Sort Go.Lib Go.Proofs Go.Proofs.Ytpjacngbkohmdaa.Plain Go.Proofs.Ytpjacngbkohmdaa.SynP Go.Proofs.Ytpjacngbkohmdaa.Grown Go.Proofs.Ytpjacngbkohmdaa.SynC Go.Proofs.Ytpjacngbkohmdaa.SynD Go.Proofs.Ytpjacngbkohmdaa.SynD2 Go.Proofs.Ytpjacngbkohmdaa.SynD3 Go.Proofs.Ytpjacngbkohmdaa.QryP Go.Proofs.Ytpjacngbkohmdaa.PolA Go.Proofs.Ytpjacngbkohmdaa.PolE Go.Proofs.Ytpjacngbkohmdaa.PolOp Go.Proofs.Ytpjacngbkohmdaa.StA Go.Proofs.Ytpjacngbkohmdaa.StB Go.Proofs.Ytpjacngbkohmdaa.StC Go.Proofs.Ytpjacngbkohmdaa.StD Go.Proofs.Ytpjacngbkohmdaa.StE Go.Proofs.Ytpjacngbkohmdaa.StF Go.Proofs.Ytpjacngbkohmdaa.StG Go.Proofs.Ytpjacngbkohmdaa.StH Go.Proofs.Ytpjacngbkohmdaa.StJ Go.Proofs.Ytpjacngbkohmdaa.StN
open Go.Proofs.Ytpjacngbkohmdaa.PolLi (Few)
set_option linter.unusedVariables false
set_option linter.unusedSimpArgs false
theorem ok1_iff {S : List St} {G : List Rl} {s : St} : ok1 S G s = true ↔ s.right = true ∧ (s ∈ S ∨ s.head ∉ G) := by
  unfold ok1; simp
theorem ok2_iff {C : List St} {H : List Rl} {s : St} : ok2 C H s = true ↔ s.head ∉ H ∨ s ∈ C := by
  unfold ok2; simp
theorem reach_iff (p : Py) (C : List St) : reach p C = true ↔ (∀ s ∈ C, s.right = true ∧ (s ∈ p.stmts ∨ s.head ∉ p.grow)) ∧ ∀ s ∈ p.stmts, s.head ∉ p.shrink ∨ s ∈ C := by
  rw [reach_ref, Bool.and_eq_true, List.all_eq_true, List.all_eq_true]
  constructor
  · rintro ⟨a, b⟩
    exact ⟨fun s hs => ok1_iff.1 (a s hs), fun s hs => ok2_iff.1 (b s hs)⟩
  · rintro ⟨a, b⟩
    exact ⟨fun s hs => ok1_iff.2 (a s hs), fun s hs => ok2_iff.2 (b s hs)⟩
theorem own_reach (p : Py) (h : ∀ s ∈ p.stmts, s.right = true) : reach p p.stmts = true := by
  rw [reach_iff]
  exact ⟨fun s hs => ⟨h s hs, .inl hs⟩, fun s hs => .inr hs⟩
theorem thru (p : Py) (C D : List St) (h1 : reach p C = true) (h2 : reach ⟨C, p.grow, p.shrink, p.asks⟩ D = true) : reach p D = true := by
  rw [reach_iff] at h1 h2 ⊢
  obtain ⟨a1, a2⟩ := h1
  obtain ⟨b1, b2⟩ := h2
  dsimp only at b1 b2
  refine ⟨fun s hs => ?_, fun s hs => ?_⟩
  · obtain ⟨r, h⟩ := b1 s hs
    refine ⟨r, ?_⟩
    rcases h with h | h
    · exact (a1 s h).2
    · exact .inr h
  · rcases a2 s hs with h | h
    · exact .inl h
    · exact b2 s h
theorem more_reach (p : Py) (s : St) (h : ∀ s ∈ p.stmts, s.right = true) (hc : come p s = true) : reach p (sortL cmpS [] (p.stmts ++ [s])) = true := by
  unfold come at hc
  rw [Bool.and_eq_true] at hc
  obtain ⟨hr, hg⟩ := hc
  have hg2 : s.head ∉ p.grow := by simpa using hg
  rw [reach_iff]
  refine ⟨fun x hx => ?_, fun x hx => .inr (sort_mem.2 (List.mem_append_left _ hx))⟩
  rw [sort_mem, List.mem_append, List.mem_singleton] at hx
  rcases hx with hx | rfl
  · exact ⟨h x hx, .inl hx⟩
  · exact ⟨hr, .inr hg2⟩
theorem less_reach (p : Py) (x : St) (hx : x ∈ p.stmts) (h : ∀ s ∈ p.stmts, s.right = true) : reach p (mi p.stmts [x]) = go_ p x := by
  have e : go_ p x = true ↔ x.head ∉ p.shrink := by unfold go_; simp
  rw [Bool.eq_iff_iff, e, reach_iff]
  constructor
  · rintro ⟨_, b⟩
    rcases b x hx with q | q
    · exact q
    · rw [mem_mi] at q
      exact absurd (List.mem_singleton.2 rfl) q.2
  · intro hg
    refine ⟨fun s hs => ?_, fun s hs => ?_⟩
    · rw [mem_mi] at hs
      exact ⟨h s hs.1, .inl hs.1⟩
    · by_cases q : s = x
      · subst q; exact .inl hg
      · exact .inr (mem_mi.2 ⟨hs, fun hm => q (List.mem_singleton.1 hm)⟩)
theorem sg_single {w : World} {g : Nat} {k1 : Int} {ho hn wh ao an bo bn v1 : ByteArray} (h : w.heap[g]? = some (.cells #[.int .i64 k1, .string ho, .string hn, .string wh, .string ao, .string an, .string bo, .string bn, .string v1] 26 (0, 0))) : SG w (some ⟨g, 0, none⟩) [⟨k1, ⟨ho, hn⟩, wh, ⟨ao, an⟩, ⟨bo, bn⟩, v1⟩] := fun _ => by
  refine ⟨g, 0, rfl, (Array.getElem?_eq_some_iff.1 h).1, fun j hj => ?_⟩
  have : j = 0 := by simp at hj; omega
  subst this
  exact ⟨Lib.cell_of_heap h 0, Lib.cell_of_heap h 1, Lib.cell_of_heap h 2, Lib.cell_of_heap h 3, Lib.cell_of_heap h 4, Lib.cell_of_heap h 5, Lib.cell_of_heap h 6, Lib.cell_of_heap h 7, Lib.cell_of_heap h 8⟩
/-- Three boxes: of a policy, of two rows, of a statement. -/
theorem three (w : World) (a b c : Array Value) (t1 t2 t3 : TypeId) :
    Below w.heap.size w (((w.alloc (.cells a t1)).alloc (.cells b t2)).alloc (.cells c t3)) ∧
    (∀ o, (((w.alloc (.cells a t1)).alloc (.cells b t2)).alloc (.cells c t3)).cell? ⟨w.heap.size, o, none⟩ = a[o]?) ∧
    (∀ o, (((w.alloc (.cells a t1)).alloc (.cells b t2)).alloc (.cells c t3)).cell? ⟨w.heap.size + 1, o, none⟩ = b[o]?) ∧
    (∀ o, (((w.alloc (.cells a t1)).alloc (.cells b t2)).alloc (.cells c t3)).cell? ⟨w.heap.size + 2, o, none⟩ = c[o]?) := by
  refine ⟨(((Below.refl w.heap.size w).alloc (Nat.le_refl _) _).alloc (by simp) _).alloc (by simp <;> omega) _, fun o => ?_, fun o => ?_, fun o => ?_⟩
  · exact Lib.cell_of_heap ((Below.heap_alloc _ _ _ (by simp <;> omega)).trans (heap_alloc2_old w _ _)) o
  · exact Lib.cell_of_heap ((Below.heap_alloc _ _ _ (by simp <;> omega)).trans (heap_alloc2_new w _ _)) o
  · have e := heap_alloc_new ((w.alloc (.cells a t1)).alloc (.cells b t2)) (.cells c t3)
    have hz : ((w.alloc (.cells a t1)).alloc (.cells b t2)).heap.size = w.heap.size + 2 := by simp
    rw [hz] at e
    exact Lib.cell_of_heap e o
set_option maxHeartbeats 4000000 in
set_option maxRecDepth 100000 in
theorem walk (p : Py) (A1 A2 A3 A4 : Option Addr) (c1 c2 c3 c4 : Nat) (B : Option Addr) (cb : Nat) (C : List St) (B2 : Option Addr) (cd : Nat) (D : List St) (s : St) (w : World) (hcame : Came p) (hp : PG w A1 A2 A3 A4 p) (hC : C.length ≤ maxLen) (fC : ∀ s ∈ C, s.fit) (hB : SG w B C) (hD : D.length ≤ maxLen) (fD : ∀ s ∈ D, s.fit) (hB2 : SG w B2 D) (fs : s.fit) :
    Calls Try.prog 5 #[p.val A1 A2 A3 A4 c1 c2 c3 c4, .agg #[.slice B C.length cb, .slice B2 D.length cd], s.val] w fun e w' => e = .returned (.bool true) ∧ Below w.heap.size w w' := by
  have HLp := Lib.hid (fun w' (hb : Below w.heap.size w w') => PolLi.light p A1 A2 A3 A4 c1 c2 c3 c4 w' hcame (hp.below hb))
  have HLc := Lib.hid (fun w' (hb : Below w.heap.size w w') => StH.light B cb C w' hC (hB.below hb))
  have HLd := Lib.hid (fun w' (hb : Below w.heap.size w w') => StH.light B2 cd D w' hD (hB2.below hb))
  have HLs := Lib.hid (fun w' => SynM.light s w')
  have HLv := Lib.hid (fun w' => StK.lives w')
  have HRi := Lib.hid (fun w' (hb : Below w.heap.size w w') (n1 : Few p) => StR.rightRef5 p A1 A2 A3 A4 c1 c2 c3 c4 w' (n1.fit hcame) (hp.below hb))
  have HRa : Hid (∀ (A5 : Option Addr) (c5 : Nat) (X : List St) w', Below w.heap.size w w' → Few p → X.length ≤ 1000 → (∀ s ∈ X, s.fit) → SG w' A5 X → Calls Try.prog 22 #[p.val A1 A2 A3 A4 c1 c2 c3 c4, .slice A5 X.length c5] w' fun e wx => e = .returned (.bool (reach p X)) ∧ Below w'.heap.size w' wx) := Lib.hid (fun A5 c5 X w' hb n1 hx fx h5 => reaches p A1 A2 A3 A4 A5 c1 c2 c3 c4 c5 X w' (by have := n1.n1; omega) (by have := n1.n2; omega) (by have := n1.n3; omega) hx (hp.s.below hb) (hp.g.below hb) (hp.h.below hb) h5 hcame.f1 fx)
  have HRq : Hid (∀ w', Below w.heap.size w w' → Few p → C.length ≤ 40 → D.length ≤ 40 → Calls Try.prog 22 #[(⟨C, p.grow, p.shrink, p.asks⟩ : Py).val B A2 A3 A4 cb c2 c3 c4, .slice B2 D.length cd] w' fun e wx => e = .returned (.bool (reach ⟨C, p.grow, p.shrink, p.asks⟩ D)) ∧ Below w'.heap.size w' wx) := Lib.hid (fun w' hb n1 nc nd => reaches ⟨C, p.grow, p.shrink, p.asks⟩ B A2 A3 A4 B2 cb c2 c3 c4 cd D w' (by show C.length ≤ 1000; omega) (by have := n1.n2; show p.grow.length ≤ 10000; omega) (by have := n1.n3; show p.shrink.length ≤ 10000; omega) (by omega) (hB.below hb) (hp.g.below hb) (hp.h.below hb) (hB2.below hb) fC fD)
  have HMc := Lib.hid (fun w' (hb : Below w.heap.size w w') (n1 : Few p) => mayCome p A1 A2 A3 A4 c1 c2 c3 c4 s w' (by have := n1.n2; omega) (hp.g.below hb) fs)
  have HMg := Lib.hid (fun x w' (hb : Below w.heap.size w w') (n1 : Few p) => mayGo p A1 A2 A3 A4 c1 c2 c3 c4 x w' (by have := n1.n3; omega) (hp.h.below hb))
  have HUn := Lib.hid (fun (A5 : Option Addr) (c5 : Nat) (X : List St) w' (hb : Below w.heap.size w w') (n1 : Few p) (hx : X.length ≤ 1000) (h5 : SG w' A5 X) => union A1 A5 c1 c5 p.stmts X w' (by have := n1.n1; omega) hx (hp.s.below hb) h5)
  have HMi := Lib.hid (fun (A5 : Option Addr) (c5 : Nat) (X : List St) w' (hb : Below w.heap.size w w') (n1 : Few p) (hx : X.length ≤ 1000) (h5 : SG w' A5 X) => minus A1 A5 c1 c5 p.stmts X w' (by have := n1.n1; omega) hx (hp.s.below hb) h5 hcame.f1)
  have HS := Lib.hid (fun w' (hb : Below w.heap.size w w') => hp.s.below hb)
  have HC := Lib.hid (fun w' (hb : Below w.heap.size w w') => hB.below hb)
  have HD2 := Lib.hid (fun w' (hb : Below w.heap.size w w') => hB2.below hb)
  have HFS := Lib.hid hcame.f1
  have HFC := Lib.hid fC
  have HFD := Lib.hid fD
  have HFs := Lib.hid fs
  have HR1 : Hid (StR.rightR p = true → ∀ s ∈ p.stmts, s.right = true) := Lib.hid (fun h s hs => by
    unfold StR.rightR at h
    rw [Bool.and_eq_true] at h
    exact List.all_eq_true.1 h.1 s hs)
  have HTh := Lib.hid (thru p C D)
  have HMo := Lib.hid (more_reach p s)
  have HLe := Lib.hid (less_reach p)
  have HOw := Lib.hid (own_reach p)
  have HNf : Hid (Few p → p.stmts.length ≤ 30) := Lib.hid (fun h => h.n1)
  unfold PolLi.LightPost at HLp
  unfold StH.LightPost at HLc HLd
  unfold OwnPost at HUn HMi
  clear hcame hp hC fC hB hD fD hB2 fs
  obtain ⟨Fw, hFw⟩ : ∃ Fw : Prop, Few p = Fw := ⟨_, rfl⟩
  rw [hFw] at HLp HRi HRa HRq HMc HMg HUn HMi HNf
  clear hFw
  generalize StR.rightR p = rr at *
  have hpr : ∀ X, reach p X = reach p X := fun _ => rfl
  obtain ⟨re, hre⟩ : ∃ re : List St → Bool, (fun X => reach p X) = re := ⟨_, rfl⟩
  have hre2 : ∀ X, reach p X = re X := fun X => by rw [← hre]
  obtain ⟨gg, hgg⟩ : ∃ gg : St → Bool, (fun x => go_ p x) = gg := ⟨_, rfl⟩
  have hgg2 : ∀ x, go_ p x = gg x := fun x => by rw [← hgg]
  simp only [hre2, hgg2] at HRa HTh HMo HLe HOw HMg
  generalize reach ⟨C, p.grow, p.shrink, p.asks⟩ D = rq at *
  generalize come p s = cs at *
  generalize hbs : SynM.lightS s = bs at *
  clear hpr hre hre2 hgg hgg2 hbs
  obtain ⟨S, G, H, Q⟩ := p
  obtain ⟨k1, ⟨ho, hn⟩, wh, ⟨ao, an⟩, ⟨bo, bn⟩, v1⟩ := s
  unfold Py.val at HLp HRi HRa HRq HMc HMg ⊢
  unfold St.val at HLs HMc HMg ⊢
  dsimp only at HLp HLs HRi HRa HRq HMc HMg HUn HMi HS HFS HR1 HMo HLe HOw HNf ⊢
  obtain ⟨hbX, d0, t0, x0⟩ := three w #[.slice A1 S.length c1, .slice A2 G.length c2, .slice A3 H.length c3, .slice A4 Q.length c4] #[.slice B C.length cb, .slice B2 D.length cd] #[.int .i64 k1, .string ho, .string hn, .string wh, .string ao, .string an, .string bo, .string bn, .string v1] 40 47 26
  have hz : (((w.alloc (.cells #[.slice A1 S.length c1, .slice A2 G.length c2, .slice A3 H.length c3, .slice A4 Q.length c4] 40)).alloc (.cells #[.slice B C.length cb, .slice B2 D.length cd] 47)).alloc (.cells #[.int .i64 k1, .string ho, .string hn, .string wh, .string ao, .string an, .string bo, .string bn, .string v1] 26)).heap.size = w.heap.size + 3 := by simp
  have HB0 := Lib.hid hbX
  clear hbX
  go_enter Try.func5, Try.ntmps5
  go_upto_region 1 with fail
  obtain ⟨b0, hb0⟩ : ∃ b0, w.heap.size = b0 := ⟨_, rfl⟩
  rw [hb0] at d0 hz
  simp only [hb0] at t0 x0 ⊢
  obtain ⟨b1, hb1⟩ : ∃ b1, b0 + 1 = b1 := ⟨_, rfl⟩
  rw [hb1] at t0
  obtain ⟨b2, hb2⟩ : ∃ b2, b0 + 2 = b2 := ⟨_, rfl⟩
  rw [hb2] at x0
  have hb2' : b1 + 1 = b2 := by omega
  simp only [hb1] at ⊢
  simp only [hb2'] at ⊢
  generalize ((w.alloc (.cells #[.slice A1 S.length c1, .slice A2 G.length c2, .slice A3 H.length c3, .slice A4 Q.length c4] 40)).alloc (.cells #[.slice B C.length cb, .slice B2 D.length cd] 47)).alloc (.cells #[.int .i64 k1, .string ho, .string hn, .string wh, .string ao, .string an, .string bo, .string bn, .string v1] 26) = w0 at *
  have HD : Hid (∀ w', Below w0.heap.size w0 w' → (∀ o, w'.cell? ⟨b0, o, none⟩ = (#[.slice A1 S.length c1, .slice A2 G.length c2, .slice A3 H.length c3, .slice A4 Q.length c4] : Array Value)[o]?) ∧ ∀ o, w'.cell? ⟨b2, o, none⟩ = (#[.int .i64 k1, .string ho, .string hn, .string wh, .string ao, .string an, .string bo, .string bn, .string v1] : Array Value)[o]?) := Lib.hid (fun w' hb => ⟨fun o => (hb.cell (p := ⟨b0, o, none⟩) (by show b0 < _; omega)).trans (d0 o), fun o => (hb.cell (p := ⟨b2, o, none⟩) (by show b2 < _; omega)).trans (x0 o)⟩)
  clear hz hb0 hb1 hb2 hb2'
  go_quiet (fail)
  have HBq := Lib.hid (below_drewN (Below.refl w0.heap.size w0) nq)
  generalize w0.drewN nq = wq at *
  obtain ⟨dq, xq⟩ := HD.out wq HBq.out
  have HLp1 := Lib.hid (HLp.out wq (nx HB0.out HBq.out))
  clear d0 t0 x0 HLp
  go_wp2_with fail
  refine HLp1.out.mono ?_
  rintro e w1 ⟨bp, rfl, hfp, hb1⟩
  have HB1 := Lib.hid (nx HBq.out hb1)
  have HFP := Lib.hid hfp
  clear hb1 hfp HLp1 HBq dq xq
  obtain ⟨d1, x1⟩ := HD.out w1 HB1.out
  have HLc1 := Lib.hid (HLc.out w1 (nx HB0.out HB1.out))
  cases bp with
  | false =>
    clear HFP d1 x1
    go_wp2_with fail
    refine (HLv.out _).mono ?_
    rintro e wz ⟨rfl, hbz⟩
    have HF := Lib.hid (nx HB0.out (nx HB1.out hbz))
    clear hbz
    go_wp2_with fail
    go_ret
    exact ⟨rfl, HF.out⟩
  | true =>
  go_wp2_with fail
  refine HLc1.out.mono ?_
  rintro e w2 ⟨bc, rfl, hfc, hb2⟩
  have HB2 := Lib.hid (nx HB1.out hb2)
  have HFc := Lib.hid hfc
  clear hb2 hfc HLc1 HLc HB1 d1 x1
  obtain ⟨d2, x2⟩ := HD.out w2 HB2.out
  have HLd2 := Lib.hid (HLd.out w2 (nx HB0.out HB2.out))
  cases bc with
  | false =>
    clear HFP HFc d2 x2
    go_wp2_with fail
    refine (HLv.out _).mono ?_
    rintro e wz ⟨rfl, hbz⟩
    have HF := Lib.hid (nx HB0.out (nx HB2.out hbz))
    clear hbz
    go_wp2_with fail
    go_ret
    exact ⟨rfl, HF.out⟩
  | true =>
  go_wp2_with fail
  refine HLd2.out.mono ?_
  rintro e w3 ⟨bd, rfl, hfd, hb3⟩
  have HB3 := Lib.hid (nx HB2.out hb3)
  have HFd := Lib.hid hfd
  clear hb3 hfd HLd2 HLd HB2 d2 x2
  obtain ⟨d3, x3⟩ := HD.out w3 HB3.out
  have hfw := HFP.out (by trivial)
  have HRi3 := Lib.hid (HRi.out w3 (nx HB0.out HB3.out) hfw)
  cases bd with
  | false =>
    clear HFP HFc HFd d3 x3
    go_wp2_with fail
    refine (HLv.out _).mono ?_
    rintro e wz ⟨rfl, hbz⟩
    have HF := Lib.hid (nx HB0.out (nx HB3.out hbz))
    clear hbz
    go_wp2_with fail
    go_ret
    exact ⟨rfl, HF.out⟩
  | true =>
  go_wp2_with fail
  refine HRi3.out.mono ?_
  rintro e w4 ⟨rfl, hb4⟩
  have HB4 := Lib.hid (nx HB3.out hb4)
  clear hb4 HRi3 HRi HB3 d3 x3
  cases rr with
  | false =>
    clear HFP HFc HFd
    go_wp2_with fail
    refine (HLv.out _).mono ?_
    rintro e wz ⟨rfl, hbz⟩
    have HF := Lib.hid (nx HB0.out (nx HB4.out hbz))
    clear hbz
    go_wp2_with fail
    go_ret
    exact ⟨rfl, HF.out⟩
  | true =>
  have lc := HFc.out (by trivial)
  have ld := HFd.out (by trivial)
  have HRS := Lib.hid (HR1.out (by trivial))
  have lS := HNf.out hfw
  clear HFP HFc HFd HR1
  obtain ⟨d4, x4⟩ := HD.out w4 HB4.out
  have hbQ := below_alloc w4 (.cells #[.slice B C.length cb, .slice A2 G.length c2, .slice A3 H.length c3, .slice A4 Q.length c4] 40)
  have hQ := heap_alloc_new w4 (.cells #[.slice B C.length cb, .slice A2 G.length c2, .slice A3 H.length c3, .slice A4 Q.length c4] 40)
  have HW : Hid (∀ w', Below (w4.alloc (.cells #[.slice B C.length cb, .slice A2 G.length c2, .slice A3 H.length c3, .slice A4 Q.length c4] 40)).heap.size (w4.alloc (.cells #[.slice B C.length cb, .slice A2 G.length c2, .slice A3 H.length c3, .slice A4 Q.length c4] 40)) w' → Below w.heap.size w w' ∧ Below w0.heap.size w0 w') := Lib.hid (fun w' hb => ⟨nx HB0.out (nx HB4.out (nx hbQ hb)), nx HB4.out (nx hbQ hb)⟩)
  have HQ := Lib.hid (fun w' (hb : Below (w4.alloc (.cells #[.slice B C.length cb, .slice A2 G.length c2, .slice A3 H.length c3, .slice A4 Q.length c4] 40)).heap.size (w4.alloc (.cells #[.slice B C.length cb, .slice A2 G.length c2, .slice A3 H.length c3, .slice A4 Q.length c4] 40)) w') (o : Nat) => Lib.cell_of_heap ((hb.block w4.heap.size (by simp)).trans hQ) o)
  clear hbQ hQ
  have lMo : (sortL cmpS [] (S ++ [⟨k1, ⟨ho, hn⟩, wh, ⟨ao, an⟩, ⟨bo, bn⟩, v1⟩])).length ≤ 1000 := by
    have h := sort_len (S ++ [⟨k1, ⟨ho, hn⟩, wh, ⟨ao, an⟩, ⟨bo, bn⟩, v1⟩])
    rw [List.length_append] at h
    simp only [List.length_cons, List.length_nil] at h
    omega
  have HFM : Hid (∀ x ∈ sortL cmpS [] (S ++ [⟨k1, ⟨ho, hn⟩, wh, ⟨ao, an⟩, ⟨bo, bn⟩, v1⟩]), x.fit) := Lib.hid (fun x hx => by
    rw [sort_mem, List.mem_append, List.mem_singleton] at hx
    rcases hx with hx | rfl
    · exact HFS.out x hx
    · exact HFs.out)
  go_upto_region 6 with fail
  obtain ⟨bq, hbq⟩ : ∃ bq, w4.heap.size = bq := ⟨_, rfl⟩
  simp only [hbq] at HQ ⊢
  generalize w4.alloc (.cells #[.slice B C.length cb, .slice A2 G.length c2, .slice A3 H.length c3, .slice A4 Q.length c4] 40) = w5 at *
  clear hbq
  go_cut [59] from 36 to 58 (fun v wx => v = .bool false ∧ Hid (Below w5.heap.size w5 wx))
  case first =>
    have K1 := Lib.hid (HRa.out A1 c1 S w5 (HW.out _ (Below.refl _ _)).1 hfw (by omega) HFS.out (HS.out _ (HW.out _ (Below.refl _ _)).1))
    rw [HOw.out HRS.out] at K1
    obtain ⟨d5, x5⟩ := HD.out w5 (HW.out _ (Below.refl _ _)).2
    clear HMc HMg HUn HMi HMo HLe HFM HLs HLv d4 x4 x5
    go_wp2_with fail
    refine K1.out.mono ?_
    rintro e w6 ⟨rfl, hb6⟩
    have HB6 := Lib.hid hb6
    have K2 := Lib.hid (HRa.out B cb C w6 (HW.out _ hb6).1 hfw (by omega) HFC.out (HC.out _ (HW.out _ hb6).1))
    obtain ⟨d6, x6⟩ := HD.out w6 (HW.out _ hb6).2
    clear hb6 K1 d5 x6
    cases hr1 : re C with
    | false =>
      rw [hr1] at K2
      clear HRa HRq
      go_wp2_with fail
      refine K2.out.mono ?_
      rintro e w7 ⟨rfl, hb7⟩
      have HB7 := Lib.hid (nx HB6.out hb7)
      clear hb7 K2 d6
      go_wp2_with fail
      go_meet
      case rel => exact ⟨by first | rfl | simp, HB7⟩
    | true =>
      rw [hr1] at K2
      go_wp2_with fail
      refine K2.out.mono ?_
      rintro e w7 ⟨rfl, hb7⟩
      have HB7 := Lib.hid (nx HB6.out hb7)
      have K3 := Lib.hid (HRq.out w7 (HW.out _ HB7.out).1 hfw lc ld)
      have q7 := HQ.out w7 HB7.out
      obtain ⟨d7, x7⟩ := HD.out w7 (HW.out _ HB7.out).2
      clear hb7 K2 d6 x7
      cases rq with
      | false =>
        clear HRa HRq
        go_wp2_with fail
        refine K3.out.mono ?_
        rintro e w8 ⟨rfl, hb8⟩
        have HB8 := Lib.hid (nx HB7.out hb8)
        clear hb8 K3 d7 q7
        go_wp2_with fail
        go_meet
        case rel => exact ⟨by first | rfl | simp, HB8⟩
      | true =>
        go_wp2_with fail
        refine K3.out.mono ?_
        rintro e w8 ⟨rfl, hb8⟩
        have HB8 := Lib.hid (nx HB7.out hb8)
        have K4 := Lib.hid (HRa.out B2 cd D w8 (HW.out _ HB8.out).1 hfw (by omega) HFD.out (HD2.out _ (HW.out _ HB8.out).1))
        rw [HTh.out hr1 (by trivial)] at K4
        obtain ⟨d8, x8⟩ := HD.out w8 (HW.out _ HB8.out).2
        clear hb8 K3 d7 q7 x8 HRa HRq
        go_wp2_with fail
        refine K4.out.mono ?_
        rintro e w9 ⟨rfl, hb9⟩
        have HB9 := Lib.hid (nx HB8.out hb9)
        clear hb9 K4 d8
        go_wp2_with fail
        go_meet
        case rel => exact ⟨by first | rfl | simp, HB9⟩
  case rest =>
    obtain ⟨rfl, hcut⟩ := hcut
    have HBc := Lib.hid hcut.out
    obtain ⟨dc, xc⟩ := HD.out wc (HW.out _ hcut.out).2
    have hbY := below_alloc wc (.cells #[.int .i64 k1, .string ho, .string hn, .string wh, .string ao, .string an, .string bo, .string bn, .string v1] 26)
    have hY := heap_alloc_new wc (.cells #[.int .i64 k1, .string ho, .string hn, .string wh, .string ao, .string an, .string bo, .string bn, .string v1] 26)
    have KU : Hid (Calls Try.prog 17 #[.slice A1 S.length c1, .slice (some ⟨wc.heap.size, 0, none⟩) 1 1] (wc.alloc (.cells #[.int .i64 k1, .string ho, .string hn, .string wh, .string ao, .string an, .string bo, .string bn, .string v1] 26)) _) := Lib.hid (HUn.out (some ⟨wc.heap.size, 0, none⟩) 1 [⟨k1, ⟨ho, hn⟩, wh, ⟨ao, an⟩, ⟨bo, bn⟩, v1⟩] (wc.alloc (.cells #[.int .i64 k1, .string ho, .string hn, .string wh, .string ao, .string an, .string bo, .string bn, .string v1] 26)) (HW.out _ (nx hcut.out hbY)).1 hfw (by simp) (sg_single hY))
    have HBY := Lib.hid (nx hcut.out hbY)
    clear hcut hbY hY HUn HRq HQ HTh HOw HFC HFD HC HD2 d4 x4
    generalize sortL cmpS [] (S ++ [⟨k1, ⟨ho, hn⟩, wh, ⟨ao, an⟩, ⟨bo, bn⟩, v1⟩]) = MO at *
    go_wp2_with fail
    refine KU.out.mono ?_
    rintro e w6 ⟨v6, rfl, ho6, hb6⟩
    obtain ⟨A9, c9, rfl, h9⟩ := ho6.form
    have HB6 := Lib.hid (nx HBY.out hb6)
    have H9 := Lib.hid (fun w' (hb : Below w6.heap.size w6 w') => h9.below hb)
    obtain ⟨d6, x6⟩ := HD.out w6 (HW.out _ HB6.out).2
    clear ho6 hb6 h9 KU dc xc HBY HBc
    go_upto_region 9 with fail
    go_cut [77] from 65 to 76 (fun v wx => v = .bool false ∧ Hid (Below w6.heap.size w6 wx))
    case first =>
      clear HMg HMi HLe HS
      cases bs with
      | false =>
        go_wp2_with fail
        refine (HLs.out _).mono ?_
        rintro e w7 ⟨rfl, hg7⟩
        have HB7 := Lib.hid hg7.below
        clear hg7 d6 x6
        go_wp2_with fail
        go_meet
        case rel => exact ⟨by first | rfl | simp, HB7⟩
      | true =>
        go_wp2_with fail
        refine (HLs.out _).mono ?_
        rintro e w7 ⟨rfl, hg7⟩
        have HB7 := Lib.hid hg7.below
        have K5 := Lib.hid (HMc.out w7 (HW.out _ (nx HB6.out HB7.out)).1 hfw)
        obtain ⟨d7, x7⟩ := HD.out w7 (HW.out _ (nx HB6.out HB7.out)).2
        clear hg7 d6 x6 HLs HMc
        cases cs with
        | false =>
          go_wp2_with fail
          refine K5.out.mono ?_
          rintro e w8 ⟨rfl, hb8⟩
          have HB8 := Lib.hid (nx HB7.out hb8)
          clear hb8 d7 x7 K5
          go_wp2_with fail
          go_meet
          case rel => exact ⟨by first | rfl | simp, HB8⟩
        | true =>
          go_wp2_with fail
          refine K5.out.mono ?_
          rintro e w8 ⟨rfl, hb8⟩
          have HB8 := Lib.hid (nx HB7.out hb8)
          have K6 := Lib.hid (HRa.out A9 c9 MO w8 (HW.out _ (nx HB6.out HB8.out)).1 hfw lMo HFM.out (H9.out _ HB8.out))
          rw [HMo.out HRS.out (by trivial)] at K6
          obtain ⟨d8, x8⟩ := HD.out w8 (HW.out _ (nx HB6.out HB8.out)).2
          clear hb8 d7 x7 K5 HRa
          go_wp2_with fail
          refine K6.out.mono ?_
          rintro e w9 ⟨rfl, hb9⟩
          have HB9 := Lib.hid (nx HB8.out hb9)
          clear hb9 d8 x8 K6
          go_wp2_with fail
          go_meet
          case rel => exact ⟨by first | rfl | simp, HB9⟩
    case rest =>
      obtain ⟨rfl, hcut⟩ := hcut
      have HBd := Lib.hid (nx HB6.out hcut.out)
      obtain ⟨dc, xc⟩ := HD.out wc (HW.out _ HBd.out).2
      clear hcut d6 x6 HMc HMo HLs H9 HFM HB6 lMo
      go_wp2_with fail
      clear dc xc
      go_loopw [81] (fun i wr => ∃ j : Nat, j ≤ S.length ∧ i = .int .i64 j ∧ Below w5.heap.size w5 wr) (fun i _ => S.length - (intOf i).toNat)
      case atStart => exact ⟨0, by omega, rfl, HBd.out⟩
      case round =>
        obtain ⟨j, hj, rfl, hb⟩ := hrel
        by_cases hlt : j < S.length
        · have e1 : decide ((j : Int) < S.length) = true := by simp; omega
          obtain ⟨g, og, rfl, hg, hc⟩ := HS.out _ (HW.out _ hb).1 (by omega)
          obtain ⟨a0, a1, a2, a3, a4, a5, a6, a7, a8⟩ := hc j hlt
          have p1 : (0 : Int) ≤ j := by omega
          have p2 : (j : Int) < S.length := by omega
          have HE := Lib.hid (HLe.out S[j] (List.getElem_mem hlt) HRS.out)
          have KG := Lib.hid (fun w' hb => HMg.out S[j] w' hb hfw)
          have KM := Lib.hid (fun (A5 : Option Addr) (c5 : Nat) w' hb h5 => HMi.out A5 c5 [S[j]'hlt] w' hb hfw (by simp) h5)
          have hmi : (sortL cmpS [] S).filter (fun s => !decide (s ∈ [S[j]])) = mi S [S[j]] := rfl
          rw [hmi] at KM
          have lmi : (mi S [S[j]]).length ≤ 1000 := by have := mi_len S [S[j]]; omega
          have HFm : Hid (∀ x ∈ mi S [S[j]], x.fit) := Lib.hid (fun x hx => HFS.out x (mem_mi.1 hx).1)
          have HBr := Lib.hid hb
          clear hc hb hg hmi
          generalize S[j] = x at *
          generalize mi S [x] = MI at *
          generalize gg x = gx at *
          obtain ⟨k2, ⟨ho2, hn2⟩, wh2, ⟨ao2, an2⟩, ⟨bo2, bn2⟩, v2⟩ := x
          try unfold St.val at KG
          dsimp only at KG a0 a1 a2 a3 a4 a5 a6 a7 a8
          have KG2 : Hid (∀ w', Below w.heap.size w w' → Calls Try.prog 28 #[.agg #[.slice (some ⟨g, og, none⟩) S.length c1, .slice A2 G.length c2, .slice A3 H.length c3, .slice A4 Q.length c4], .agg #[.int .i64 k2, .string ho2, .string hn2, .string wh2, .string ao2, .string an2, .string bo2, .string bn2, .string v2]] w' fun e wx => e = .returned (.bool gx) ∧ Below w'.heap.size w' wx) := KG
          have KM2 : Hid (∀ (A5 : Option Addr) (c5 : Nat) w', Below w.heap.size w w' → SG w' A5 [(⟨k2, ⟨ho2, hn2⟩, wh2, ⟨ao2, an2⟩, ⟨bo2, bn2⟩, v2⟩ : St)] → Calls Try.prog 18 #[.slice (some ⟨g, og, none⟩) S.length c1, .slice A5 1 c5] w' fun e wx => ∃ v, e = .returned v ∧ OwnS w'.heap.size wx v MI ∧ Below w'.heap.size w' wx) := KM
          have KR2 : Hid (∀ (A5 : Option Addr) (c5 : Nat) w', Below w.heap.size w w' → SG w' A5 MI → Calls Try.prog 22 #[.agg #[.slice (some ⟨g, og, none⟩) S.length c1, .slice A2 G.length c2, .slice A3 H.length c3, .slice A4 Q.length c4], .slice A5 MI.length c5] w' fun e wx => e = .returned (.bool gx) ∧ Below w'.heap.size w' wx) := Lib.hid (fun A5 c5 w' hb h5 => by
            have h := HRa.out A5 c5 MI w' hb hfw lmi HFm.out h5
            rw [HE.out] at h
            exact h)
          have hbX := below_alloc wr (.cells #[.int .i64 k2, .string ho2, .string hn2, .string wh2, .string ao2, .string an2, .string bo2, .string bn2, .string v2] 26)
          have hX := heap_alloc_new wr (.cells #[.int .i64 k2, .string ho2, .string hn2, .string wh2, .string ao2, .string an2, .string bo2, .string bn2, .string v2] 26)
          have HBX := Lib.hid (nx HBr.out hbX)
          have HX := Lib.hid hX
          clear hbX hX KG KM HE HFm lmi
          go_upto_region 14 with fail
          obtain ⟨bx, hbx⟩ : ∃ bx, wr.heap.size = bx := ⟨_, rfl⟩
          rw [hbx] at HX
          simp only [hbx] at ⊢
          generalize wr.alloc (.cells #[.int .i64 k2, .string ho2, .string hn2, .string wh2, .string ao2, .string an2, .string bo2, .string bn2, .string v2] 26) = w7 at *
          clear a0 a1 a2 a3 a4 a5 a6 a7 a8 hbx
          go_cut [95] from 85 to 94 (fun v wx => v = .bool false ∧ Hid (Below w7.heap.size w7 wx))
          case first =>
            have HK : Hid (∀ w', Below w7.heap.size w7 w' → Below w7.heap.size w7 w' ∧ (∀ o, w'.cell? ⟨b0, o, none⟩ = (#[.slice (some ⟨g, og, none⟩) S.length c1, .slice A2 G.length c2, .slice A3 H.length c3, .slice A4 Q.length c4] : Array Value)[o]?) ∧ ∀ o, w'.cell? ⟨bx, o, none⟩ = (#[.int .i64 k2, .string ho2, .string hn2, .string wh2, .string ao2, .string an2, .string bo2, .string bn2, .string v2] : Array Value)[o]?) := Lib.hid (fun w' hb => ⟨hb, (HD.out w' (HW.out _ (nx HBX.out hb)).2).1, fun o => Lib.cell_of_heap ((hb.block bx (Array.getElem?_eq_some_iff.1 HX.out).1).trans HX.out) o⟩)
            have HSs := Lib.hid (HK.out _ ((Below.refl w7.heap.size w7).drew))
            have HV : Hid (∀ w', Below w7.heap.size w7 w' → Below w.heap.size w w') := Lib.hid (fun w' hb => (HW.out _ (nx HBX.out hb)).1)
            have HG1 : SG ((w7.alloc (.cells #[.int .i64 k2, .string ho2, .string hn2, .string wh2, .string ao2, .string an2, .string bo2, .string bn2, .string v2] 26)).drew) (some ⟨w7.heap.size, 0, none⟩) [(⟨k2, ⟨ho2, hn2⟩, wh2, ⟨ao2, an2⟩, ⟨bo2, bn2⟩, v2⟩ : St)] := by
              have h := sg_single (heap_alloc_new w7 (.cells #[.int .i64 k2, .string ho2, .string hn2, .string wh2, .string ao2, .string an2, .string bo2, .string bn2, .string v2] 26))
              exact h
            have HG2 : Hid (∀ y : World, SG (y.alloc (.cells #[.int .i64 k2, .string ho2, .string hn2, .string wh2, .string ao2, .string an2, .string bo2, .string bn2, .string v2] 26)) (some ⟨y.heap.size, 0, none⟩) [(⟨k2, ⟨ho2, hn2⟩, wh2, ⟨ao2, an2⟩, ⟨bo2, bn2⟩, v2⟩ : St)]) := Lib.hid (fun y => sg_single (heap_alloc_new y _))
            have HGh := Lib.hid HG1
            clear HG1
            clear HRa HMg HMi HLe HS HD HW HX HLv
            go_region_held3 (fun w' => Below w7.heap.size w7 w' ∧ (∀ o, w'.cell? ⟨b0, o, none⟩ = (#[.slice (some ⟨g, og, none⟩) S.length c1, .slice A2 G.length c2, .slice A3 H.length c3, .slice A4 Q.length c4] : Array Value)[o]?) ∧ ∀ o, w'.cell? ⟨bx, o, none⟩ = (#[.int .i64 k2, .string ho2, .string hn2, .string wh2, .string ao2, .string an2, .string bo2, .string bn2, .string v2] : Array Value)[o]?)
              (first | with_reducible assumption | exact HSs.out | exact HK.out _ (nx (by apply And.left; with_reducible assumption) (by with_reducible assumption)) | exact HK.out _ (nx (by apply And.left; with_reducible assumption) (below_alloc _ _)))
              (first | ((with_reducible refine (KG2.out _ (HV.out _ (by apply And.left; with_reducible assumption))).mono ?_); rintro e wa ⟨rfl, hba⟩)
                     | ((with_reducible refine (KM2.out _ _ _ (HV.out _ (by apply And.left; with_reducible assumption)) (by first | with_reducible exact HGh.out | with_reducible exact HG2.out _ | with_reducible exact SG.below HGh.out (by with_reducible assumption) | with_reducible exact SG.below (HG2.out _) (by with_reducible assumption))).mono ?_); rintro e wb ⟨vb, rfl, hob, hbb⟩; obtain ⟨Ab, cbb, rfl, hsb⟩ := hob.form)
                     | ((with_reducible refine (KR2.out _ _ _ (HV.out _ (by apply And.left; with_reducible assumption)) (by first | with_reducible exact hsb | exact SG.below hsb (by with_reducible assumption))).mono ?_); rintro e wd ⟨rfl, hbd⟩))
            all_goals rename_i hHeld
            all_goals (have HZ := Lib.hid hHeld.1; clear hHeld; go_wp2_with fail; go_meet)
            all_goals
              case rel => exact ⟨by first | rfl | simp, HZ⟩
          case rest =>
            obtain ⟨rfl, hcut⟩ := hcut
            have HBz := Lib.hid (nx HBX.out hcut.out)
            clear hcut KG2 KM2 KR2 HX HBX
            go_wp2_with fail
            go_roundw
            case rel => exact ⟨j + 1, by omega, by go_num, HBz.out⟩
            case measure => simp [intOf]; omega
        · have e1 : decide ((j : Int) < S.length) = false := by simp; omega
          have HBr := Lib.hid (HW.out _ hb).2
          clear hb
          go_wp2_with fail
          refine (HLv.out _).mono ?_
          rintro e wz ⟨rfl, hbz⟩
          have HF := Lib.hid (nx HB0.out (nx HBr.out hbz))
          clear hbz
          go_wp2_with fail
          go_ret
          exact ⟨rfl, HF.out⟩
end Go.Proofs.Ytpjacngbkohmdaa.StQ
