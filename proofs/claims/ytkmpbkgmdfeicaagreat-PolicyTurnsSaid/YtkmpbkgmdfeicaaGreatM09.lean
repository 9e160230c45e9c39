/- The statement whose line has these tokens. -/
import Derived.Test.YtkmpbkgmdfeicaaGreatM08
import Derived.Test.YtkmpbkgmdfeicaaGreatM04
namespace Go.Proofs.YtkmpbkgmdfeicaaGreat.SynV
set_option linter.unusedVariables false
set_option linter.unusedSimpArgs false
open Go.RowKit Go.Sort Go.Proofs Go.Proofs.YtkmpbkgmdfeicaaGreat.Plain Go.Proofs.YtkmpbkgmdfeicaaGreat.SynP Go.Proofs.YtkmpbkgmdfeicaaGreat.SynQ Go.Proofs.YtkmpbkgmdfeicaaGreat.Grown Go.Proofs.YtkmpbkgmdfeicaaGreat.SynA Go.Proofs.YtkmpbkgmdfeicaaGreat.SynC Go.Proofs.YtkmpbkgmdfeicaaGreat.SynR Go.Proofs.YtkmpbkgmdfeicaaGreat.SynW Go.Proofs.YtkmpbkgmdfeicaaGreat.Scan3 Go.Proofs.YtkmpbkgmdfeicaaGreat.Scan5 Go.Proofs.YtkmpbkgmdfeicaaGreat.Syn1 Go.Proofs.YtkmpbkgmdfeicaaGreat.Syn2 Go.Proofs.YtkmpbkgmdfeicaaGreat.Syn4 Go.Proofs.YtkmpbkgmdfeicaaGreat.SynL Go.Proofs.YtkmpbkgmdfeicaaGreat.SynS Go.Proofs.YtkmpbkgmdfeicaaGreat.SynT Go.Proofs.YtkmpbkgmdfeicaaGreat.SynU
set_option linter.unusedVariables false
set_option linter.unusedSimpArgs false
theorem good1 {t : Tk} (h : goodTk t) (hk : t.kind = 1) : named capB t.text.data.toList = true := by
  rcases h with ⟨_, h⟩ | ⟨h, _⟩ | ⟨h, _⟩ | ⟨h, _⟩ | ⟨h, _⟩
  · exact h
  all_goals (rw [hk] at h; exact absurd h (by decide))
theorem good2 {t : Tk} (h : goodTk t) (hk : t.kind = 2) : named smallB t.text.data.toList = true := by
  rcases h with ⟨h, _⟩ | ⟨_, h⟩ | ⟨h, _⟩ | ⟨h, _⟩ | ⟨h, _⟩
  rotate_left
  · exact h
  all_goals (rw [hk] at h; exact absurd h (by decide))
theorem good3 {t : Tk} (h : goodTk t) (hk : t.kind = 3) : t.text = dot := by
  rcases h with ⟨h, _⟩ | ⟨h, _⟩ | ⟨_, h⟩ | ⟨h, _⟩ | ⟨h, _⟩
  rotate_left 2
  · exact h
  all_goals (rw [hk] at h; exact absurd h (by decide))
/-- Good tokens that are a role's are read as one. -/
theorem readR_good {a b c : Tk} {rest : List Tk} (ha : goodTk a) (hb : goodTk b) (hc : goodTk c) (ka : a.kind = 1) (kb : b.kind = 3) (kc : c.kind = 2) : readR (a :: b :: c :: rest) = (⟨a.text, c.text⟩, rest, true) := by
  refine readR_yes ?_ ?_
  · unfold Rl.ok; rw [Bool.and_eq_true]; exact ⟨good1 ha ka, good2 hc kc⟩
  · unfold kts roleTk
    simp [ka, kb, kc, good3 hb kb]
/-- What ReadRole answers of such tokens. -/
def RolePost (a c : Tk) (rest : List Tk) (w : World) (e : Ending) (w' : World) : Prop := ∃ A cap, e = .returned (.tuple #[.agg #[.string a.text, .string c.text], .slice A rest.length cap, .bool true]) ∧ rest.length ≤ cap ∧ TkAt w' A rest ∧ Below w.heap.size w w' ∧ ∀ g o, A = some ⟨g, o, none⟩ → w.heap.size ≤ g
theorem readGood (A : Option Addr) (ca n : Nat) (a b c : Tk) (rest : List Tk) (w : World) (hn : n = rest.length + 3) (hL : n ≤ 1000) (hca : n ≤ ca) (hs : SmallTk (a :: b :: c :: rest)) (ha : goodTk a) (hb : goodTk b) (hc : goodTk c) (ka : a.kind = 1) (kb : b.kind = 3) (kc : c.kind = 2) (hA : TkAt w A (a :: b :: c :: rest)) :
    Calls Tryz.prog 154 #[.slice A n ca] w (RolePost a c rest w) := by
  subst hn
  refine (readRole A ca (a :: b :: c :: rest) w hL hca hs hA).mono ?_
  rintro e w' ⟨v, rfl, hown, hb'⟩
  rw [readR_good ha hb hc ka kb kc] at hown
  obtain ⟨B, cap, rfl, hcap, hr⟩ := of_rowTk hown
  exact ⟨B, cap, by rw [readR_good ha hb hc ka kb kc]; rfl, hcap, hr, hb', fun g o e => by subst e; exact (hown.lt g rfl).1⟩
def StmtPost (s : St) (w : World) (e : Ending) (w' : World) : Prop := e = .returned s.val ∧ Below w.heap.size w w'
theorem blk_set {w : World} {n : Nat} {C : Array Value} {t : TypeId} (h : w.heap[n]? = some (.cells C t (0, 0))) (i : Nat) (v : Value) : (w.setCell ⟨n, i, none⟩ v).heap[n]? = some (.cells (C.setIfInBounds i v) t (0, 0)) := by
  simp [World.setCell, Array.getElem?_modify, h]
theorem blk_frozen {w : World} {n : Nat} {C : Array Value} {t : TypeId} (h : w.heap[n]? = some (.cells C t (0, 0))) (o : Nat) : w.frozen? ⟨n, o, none⟩ = false := by
  simp [World.frozen?, h]
theorem blk_below {w w' : World} {n B : Nat} {x : Option Obj} (h : w.heap[n]? = x) (hb : RowKit.Below B w w') (hn : n < B) : w'.heap[n]? = x := (hb.block n hn).trans h
theorem tk_tail {w : World} {g o : Nat} {a : Tk} {rest : List Tk} (h : TkAt w (some ⟨g, o, none⟩) (a :: rest)) : TkAt w (some ⟨g, o + 3, none⟩) rest := fun _ => by
  obtain ⟨g', o', e, hg, hc⟩ := h (by simp)
  injection e with e
  injection e with e1 e2
  subst e1; subst e2
  refine ⟨g, o + 3, rfl, hg, fun j hj => ?_⟩
  obtain ⟨x, y, z⟩ := hc (j + 1) (by simp; omega)
  simp only [List.getElem_cons_succ] at x y z
  rw [show o + (j + 1) * 3 = o + 3 + j * 3 by omega] at x y z
  exact ⟨x, y, z⟩
theorem tk_set {w : World} {A : Option Addr} {L : List Tk} (h : TkAt w A L) {b : Nat} (hb : ∀ g o, A = some ⟨g, o, none⟩ → b ≠ g) (i : Nat) (v : Value) : TkAt (w.setCell ⟨b, i, none⟩ v) A L := fun hp => by
  obtain ⟨g, o, e, hg, hc⟩ := h hp
  refine ⟨g, o, e, by rw [set_size]; exact hg, fun j hj => ?_⟩
  obtain ⟨x, y, z⟩ := hc j hj
  have hne := hb g o e
  exact ⟨(set_far _ _ _ _ _ _ hne).trans x, (set_far _ _ _ _ _ _ hne).trans y, (set_far _ _ _ _ _ _ hne).trans z⟩
theorem small_drop {L : List Tk} (h : SmallTk L) (n : Nat) : SmallTk (L.drop n) := fun t ht => h t (List.mem_of_mem_drop ht)
set_option maxHeartbeats 2000000 in
set_option maxRecDepth 100000 in
theorem statement1 (A : Option Addr) (ca : Nat) (t0 t1 t2 t3 t4 : Tk) (w : World) (hca : 5 ≤ ca) (hs : SmallTk [t0, t1, t2, t3, t4]) (g0 : goodTk t0) (g1 : goodTk t1) (g2 : goodTk t2) (k0 : t0.kind = 1) (k1 : t1.kind = 3) (k2 : t2.kind = 2) (hA : TkAt w A [t0, t1, t2, t3, t4]) :
    Calls Tryz.prog 217 #[.int .i64 1, .slice A 5 ca] w (StmtPost ⟨1, ⟨t0.text, t2.text⟩, t4.text, zeroR, zeroR, noText⟩ w) := by
  have H1 := Lib.hid (fun (w1 : World) (hb : RowKit.Below w.heap.size w w1) => readGood A ca 5 t0 t1 t2 [t3, t4] w1 rfl (by omega) hca hs g0 g1 g2 k0 k1 k2 (hA.below hb))
  clear hA hs
  go_enter Tryz.func217, Tryz.ntmps217
  go_wp2_with fail
  refine (H1.out _ ((Below.refl _ _).alloc (Nat.le_refl _) _)).mono ?_
  rintro e w1 ⟨B, cb, rfl, hcb, hB, hb1, _⟩
  obtain ⟨g, o, rfl, hg, hc⟩ := hB (by simp)
  obtain ⟨_, x4, _⟩ := hc 1 (by simp)
  simp only [List.getElem_cons_succ, List.getElem_cons_zero] at x4
  have z1 := hb1.size
  simp only [World.size_alloc] at z1
  have bR := blk_below (heap_alloc_new w (.cells #[.int .i64 0, .string ⟨#[]⟩, .string ⟨#[]⟩, .string ⟨#[]⟩, .string ⟨#[]⟩, .string ⟨#[]⟩, .string ⟨#[]⟩, .string ⟨#[]⟩, .string ⟨#[]⟩] 46)) hb1 (by simp)
  simp only [List.length_cons, List.length_nil] at hcb
  have c1 : (1 : Int) ≤ cb := by omega
  have c2 : ¬ cb = 1 := by omega
  have c3 : ¬ cb - 1 = 0 := by omega
  have c4 : ¬ cb ≤ 1 := by omega
  have z2 : w.heap.size < w1.heap.size := by omega
  have z4 : w.heap.size < w1.heap.size + 1 := by omega
  have z5 : w.heap.size < w1.heap.size + 1 + 1 := by omega
  have hb0 := ((Below.refl w.heap.size w).alloc (Nat.le_refl _) (.cells #[.int .i64 0, .string ⟨#[]⟩, .string ⟨#[]⟩, .string ⟨#[]⟩, .string ⟨#[]⟩, .string ⟨#[]⟩, .string ⟨#[]⟩, .string ⟨#[]⟩, .string ⟨#[]⟩] 46)).trans (hb1.mono (by simp))
  have gc := set_cell
  have gf : ∀ (X : World) (i o : Nat) (v : Value), (X.setCell ⟨w1.heap.size + 1, i, none⟩ v).cell? ⟨w.heap.size, o, none⟩ = X.cell? ⟨w.heap.size, o, none⟩ := fun X i o v => set_far X _ _ i o v (by omega)
  clear hc hb1
  have hcR := fun o => Lib.cell_of_heap bR o
  have hfR := blk_frozen bR
  go_wp2_with fail
  exact bodyPost_ret (v := .agg #[.int .i64 1, .string t0.text, .string t2.text, .string t4.text, .string ⟨#[]⟩, .string ⟨#[]⟩, .string ⟨#[]⟩, .string ⟨#[]⟩, .string ⟨#[]⟩]) (by simp [results, Tryz.results217, go_sem, set9, gf, hcR, z2, z4, z5]) rfl ⟨rfl, (((((((((((hb0).setCell (by simp) _).setCell (by simp) _).setCell (by simp) _).setCell (by simp) _).setCell (by simp) _).setCell (by simp) _).setCell (by simp) _).setCell (by simp) _).setCell (by simp) _).alloc (by simp; omega) _).alloc (by simp; omega) _⟩
set_option maxHeartbeats 2000000 in
set_option maxRecDepth 100000 in
theorem statement2 (A : Option Addr) (ca : Nat) (t0 t1 t2 t3 t4 t5 t6 : Tk) (w : World) (hca : 7 ≤ ca) (hs : SmallTk [t0, t1, t2, t3, t4, t5, t6]) (g0 : goodTk t0) (g1 : goodTk t1) (g2 : goodTk t2) (k0 : t0.kind = 1) (k1 : t1.kind = 3) (k2 : t2.kind = 2) (g4 : goodTk t4) (g5 : goodTk t5) (g6 : goodTk t6) (k4 : t4.kind = 1) (k5 : t5.kind = 3) (k6 : t6.kind = 2) (hA : TkAt w A [t0, t1, t2, t3, t4, t5, t6]) :
    Calls Tryz.prog 217 #[.int .i64 2, .slice A 7 ca] w (StmtPost ⟨2, ⟨t0.text, t2.text⟩, noText, ⟨t4.text, t6.text⟩, zeroR, noText⟩ w) := by
  have H1 := Lib.hid (fun (w1 : World) (hb : RowKit.Below w.heap.size w w1) => readGood A ca 7 t0 t1 t2 [t3, t4, t5, t6] w1 rfl (by omega) hca hs g0 g1 g2 k0 k1 k2 (hA.below hb))
  have S1 : Hid (SmallTk [t4, t5, t6]) := Lib.hid (small_drop hs 4)
  clear hA hs
  go_enter Tryz.func217, Tryz.ntmps217
  go_wp2_with fail
  refine (H1.out _ ((Below.refl _ _).alloc (Nat.le_refl _) _)).mono ?_
  rintro e w1 ⟨B, cb, rfl, hcb, hB, hb1, _⟩
  obtain ⟨g, o, rfl, hg, hc⟩ := hB (by simp)
  have z1 := hb1.size
  simp only [World.size_alloc] at z1
  have bR := blk_below (heap_alloc_new w (.cells #[.int .i64 0, .string ⟨#[]⟩, .string ⟨#[]⟩, .string ⟨#[]⟩, .string ⟨#[]⟩, .string ⟨#[]⟩, .string ⟨#[]⟩, .string ⟨#[]⟩, .string ⟨#[]⟩] 46)) hb1 (by simp)
  simp only [List.length_cons, List.length_nil] at hcb
  have c1 : (1 : Int) ≤ cb := by omega
  have c2 : ¬ cb = 1 := by omega
  have c3 : ¬ cb - 1 = 0 := by omega
  have c4 : ¬ cb ≤ 1 := by omega
  have z2 : w.heap.size < w1.heap.size := by omega
  have z4 : w.heap.size < w1.heap.size + 1 := by omega
  have z5 : w.heap.size < w1.heap.size + 1 + 1 := by omega
  have hb0 := ((Below.refl w.heap.size w).alloc (Nat.le_refl _) (.cells #[.int .i64 0, .string ⟨#[]⟩, .string ⟨#[]⟩, .string ⟨#[]⟩, .string ⟨#[]⟩, .string ⟨#[]⟩, .string ⟨#[]⟩, .string ⟨#[]⟩, .string ⟨#[]⟩] 46)).trans (hb1.mono (by simp))
  have gc := set_cell
  have gf : ∀ (X : World) (i o : Nat) (v : Value), (X.setCell ⟨w1.heap.size + 1, i, none⟩ v).cell? ⟨w.heap.size, o, none⟩ = X.cell? ⟨w.heap.size, o, none⟩ := fun X i o v => set_far X _ _ i o v (by omega)
  have H2 := Lib.hid (fun (w2 : World) (hb : RowKit.Below w1.heap.size w1 w2) => readGood (some ⟨g, o + 3, none⟩) (cb - 1) 3 t4 t5 t6 [] w2 rfl (by omega) (by omega) S1.out g4 g5 g6 k4 k5 k6 ((tk_tail hB).below hb))
  clear hc hb1
  go_wp2_with fail
  have hw3 : RowKit.Below w1.heap.size w1 ((w1.alloc (.cells #[.string t0.text, .string t2.text] 44)).alloc (.cells #[.int .i64 2, .string t0.text, .string t2.text, .string ⟨#[]⟩, .string ⟨#[]⟩, .string ⟨#[]⟩, .string ⟨#[]⟩, .string ⟨#[]⟩, .string ⟨#[]⟩] 46)) := ((Below.refl _ _).alloc (Nat.le_refl _) _).alloc (by simp) _
  refine (H2.out _ hw3).mono ?_
  rintro e w2 ⟨B2, cb2, rfl, hcb2, hB2, hb2, hf2⟩
  have z3 := hb2.size
  simp only [World.size_alloc] at z3
  have bS0 := heap_alloc_new (w1.alloc (.cells #[.string t0.text, .string t2.text] 44)) (.cells #[.int .i64 2, .string t0.text, .string t2.text, .string ⟨#[]⟩, .string ⟨#[]⟩, .string ⟨#[]⟩, .string ⟨#[]⟩, .string ⟨#[]⟩, .string ⟨#[]⟩] 46)
  rw [World.size_alloc] at bS0
  have bS := blk_below bS0 hb2 (by simp)
  have bR2 := blk_below bR (hw3.trans (hb2.mono (by simp; omega))) (by omega)
  have hbw2 := hb0.trans ((hw3.trans (hb2.mono (by simp; omega))).mono (by omega : w.heap.size ≤ w1.heap.size))
  have hcS := fun o => Lib.cell_of_heap bS o
  have hfS := blk_frozen bS
  simp only [List.length_cons, List.length_nil] at hcb2
  have hcR := fun o => Lib.cell_of_heap bR2 o
  have hfR := blk_frozen bR2
  clear bS0 bS bR bR2 hb2 hB2 hB hw3 hb0
  go_wp2_with fail
  exact bodyPost_ret (v := .agg #[.int .i64 2, .string t0.text, .string t2.text, .string ⟨#[]⟩, .string t4.text, .string t6.text, .string ⟨#[]⟩, .string ⟨#[]⟩, .string ⟨#[]⟩]) (by simp [results, Tryz.results217, go_sem, set9, gf, hcR, z2, z4, z5]) rfl ⟨rfl, (((((((((((hbw2.setCell (by simp; omega) _).setCell (by simp; omega) _).setCell (by simp) _).setCell (by simp) _).setCell (by simp) _).setCell (by simp) _).setCell (by simp) _).setCell (by simp) _).setCell (by simp) _).setCell (by simp) _).setCell (by simp) _)⟩
set_option maxHeartbeats 2000000 in
set_option maxRecDepth 100000 in
theorem statement3 (A : Option Addr) (ca : Nat) (t0 t1 t2 t3 t4 t5 t6 t7 t8 : Tk) (w : World) (hca : 9 ≤ ca) (hs : SmallTk [t0, t1, t2, t3, t4, t5, t6, t7, t8]) (g0 : goodTk t0) (g1 : goodTk t1) (g2 : goodTk t2) (k0 : t0.kind = 1) (k1 : t1.kind = 3) (k2 : t2.kind = 2) (g4 : goodTk t4) (g5 : goodTk t5) (g6 : goodTk t6) (k4 : t4.kind = 1) (k5 : t5.kind = 3) (k6 : t6.kind = 2) (hA : TkAt w A [t0, t1, t2, t3, t4, t5, t6, t7, t8]) :
    Calls Tryz.prog 217 #[.int .i64 3, .slice A 9 ca] w (StmtPost ⟨3, ⟨t0.text, t2.text⟩, noText, ⟨t4.text, t6.text⟩, zeroR, t8.text⟩ w) := by
  have H1 := Lib.hid (fun (w1 : World) (hb : RowKit.Below w.heap.size w w1) => readGood A ca 9 t0 t1 t2 [t3, t4, t5, t6, t7, t8] w1 rfl (by omega) hca hs g0 g1 g2 k0 k1 k2 (hA.below hb))
  have S1 : Hid (SmallTk [t4, t5, t6, t7, t8]) := Lib.hid (small_drop hs 4)
  clear hA hs
  go_enter Tryz.func217, Tryz.ntmps217
  go_wp2_with fail
  refine (H1.out _ ((Below.refl _ _).alloc (Nat.le_refl _) _)).mono ?_
  rintro e w1 ⟨B, cb, rfl, hcb, hB, hb1, _⟩
  obtain ⟨g, o, rfl, hg, hc⟩ := hB (by simp)
  have z1 := hb1.size
  simp only [World.size_alloc] at z1
  have bR := blk_below (heap_alloc_new w (.cells #[.int .i64 0, .string ⟨#[]⟩, .string ⟨#[]⟩, .string ⟨#[]⟩, .string ⟨#[]⟩, .string ⟨#[]⟩, .string ⟨#[]⟩, .string ⟨#[]⟩, .string ⟨#[]⟩] 46)) hb1 (by simp)
  simp only [List.length_cons, List.length_nil] at hcb
  have c1 : (1 : Int) ≤ cb := by omega
  have c2 : ¬ cb = 1 := by omega
  have c3 : ¬ cb - 1 = 0 := by omega
  have c4 : ¬ cb ≤ 1 := by omega
  have z2 : w.heap.size < w1.heap.size := by omega
  have z4 : w.heap.size < w1.heap.size + 1 := by omega
  have z5 : w.heap.size < w1.heap.size + 1 + 1 := by omega
  have hb0 := ((Below.refl w.heap.size w).alloc (Nat.le_refl _) (.cells #[.int .i64 0, .string ⟨#[]⟩, .string ⟨#[]⟩, .string ⟨#[]⟩, .string ⟨#[]⟩, .string ⟨#[]⟩, .string ⟨#[]⟩, .string ⟨#[]⟩, .string ⟨#[]⟩] 46)).trans (hb1.mono (by simp))
  have gc := set_cell
  have gf : ∀ (X : World) (i o : Nat) (v : Value), (X.setCell ⟨w1.heap.size + 1, i, none⟩ v).cell? ⟨w.heap.size, o, none⟩ = X.cell? ⟨w.heap.size, o, none⟩ := fun X i o v => set_far X _ _ i o v (by omega)
  have H2 := Lib.hid (fun (w2 : World) (hb : RowKit.Below w1.heap.size w1 w2) => readGood (some ⟨g, o + 3, none⟩) (cb - 1) 5 t4 t5 t6 [t7, t8] w2 rfl (by omega) (by omega) S1.out g4 g5 g6 k4 k5 k6 ((tk_tail hB).below hb))
  clear hc hb1
  go_wp2_with fail
  have hw3 : RowKit.Below w1.heap.size w1 ((w1.alloc (.cells #[.string t0.text, .string t2.text] 44)).alloc (.cells #[.int .i64 3, .string t0.text, .string t2.text, .string ⟨#[]⟩, .string ⟨#[]⟩, .string ⟨#[]⟩, .string ⟨#[]⟩, .string ⟨#[]⟩, .string ⟨#[]⟩] 46)) := ((Below.refl _ _).alloc (Nat.le_refl _) _).alloc (by simp) _
  refine (H2.out _ hw3).mono ?_
  rintro e w2 ⟨B2, cb2, rfl, hcb2, hB2, hb2, hf2⟩
  have z3 := hb2.size
  simp only [World.size_alloc] at z3
  have bS0 := heap_alloc_new (w1.alloc (.cells #[.string t0.text, .string t2.text] 44)) (.cells #[.int .i64 3, .string t0.text, .string t2.text, .string ⟨#[]⟩, .string ⟨#[]⟩, .string ⟨#[]⟩, .string ⟨#[]⟩, .string ⟨#[]⟩, .string ⟨#[]⟩] 46)
  rw [World.size_alloc] at bS0
  have bS := blk_below bS0 hb2 (by simp)
  have bR2 := blk_below bR (hw3.trans (hb2.mono (by simp; omega))) (by omega)
  have hbw2 := hb0.trans ((hw3.trans (hb2.mono (by simp; omega))).mono (by omega : w.heap.size ≤ w1.heap.size))
  have hcS := fun o => Lib.cell_of_heap bS o
  have hfS := blk_frozen bS
  simp only [List.length_cons, List.length_nil] at hcb2
  obtain ⟨gg, oo, rfl, hgg, hcc⟩ := hB2 (by simp)
  have hgf := hf2 gg oo rfl
  simp only [World.size_alloc] at hgf
  obtain ⟨_, x8, _⟩ := hcc 1 (by simp)
  simp only [List.getElem_cons_succ, List.getElem_cons_zero] at x8
  have x8' : ∀ (i : Nat) (v : Value) (j : Nat) (u : Value), ((w2.setCell ⟨w1.heap.size + 1, i, none⟩ v).setCell ⟨w1.heap.size + 1, j, none⟩ u).cell? ⟨gg, oo + 3 + 1, none⟩ = some (.string t8.text) := fun i v j u => by
    rw [set_far _ _ _ _ _ _ (by omega), set_far _ _ _ _ _ _ (by omega)]; exact x8
  have hcR := fun o => Lib.cell_of_heap bR2 o
  have hfR := blk_frozen bR2
  clear bS0 bS bR bR2 hb2 hB2 hB hw3 hb0 hcc
  go_wp2_with fail
  exact bodyPost_ret (v := .agg #[.int .i64 3, .string t0.text, .string t2.text, .string ⟨#[]⟩, .string t4.text, .string t6.text, .string ⟨#[]⟩, .string ⟨#[]⟩, .string t8.text]) (by simp [results, Tryz.results217, go_sem, set9, gf, hcR, z2, z4, z5]) rfl ⟨rfl, ((((((((((((hbw2.setCell (by simp; omega) _).setCell (by simp; omega) _).setCell (by simp; omega) _).setCell (by simp) _).setCell (by simp) _).setCell (by simp) _).setCell (by simp) _).setCell (by simp) _).setCell (by simp) _).setCell (by simp) _).setCell (by simp) _).setCell (by simp) _)⟩
set_option maxHeartbeats 2000000 in
set_option maxRecDepth 100000 in
theorem statement4 (A : Option Addr) (ca : Nat) (t0 t1 t2 t3 t4 t5 t6 t7 t8 t9 t10 : Tk) (w : World) (hca : 11 ≤ ca) (hs : SmallTk [t0, t1, t2, t3, t4, t5, t6, t7, t8, t9, t10]) (g0 : goodTk t0) (g1 : goodTk t1) (g2 : goodTk t2) (k0 : t0.kind = 1) (k1 : t1.kind = 3) (k2 : t2.kind = 2) (g4 : goodTk t4) (g5 : goodTk t5) (g6 : goodTk t6) (k4 : t4.kind = 1) (k5 : t5.kind = 3) (k6 : t6.kind = 2) (g8 : goodTk t8) (g9 : goodTk t9) (g10 : goodTk t10) (k8 : t8.kind = 1) (k9 : t9.kind = 3) (k10 : t10.kind = 2) (hA : TkAt w A [t0, t1, t2, t3, t4, t5, t6, t7, t8, t9, t10]) :
    Calls Tryz.prog 217 #[.int .i64 4, .slice A 11 ca] w (StmtPost ⟨4, ⟨t0.text, t2.text⟩, noText, ⟨t4.text, t6.text⟩, ⟨t8.text, t10.text⟩, noText⟩ w) := by
  have H1 := Lib.hid (fun (w1 : World) (hb : RowKit.Below w.heap.size w w1) => readGood A ca 11 t0 t1 t2 [t3, t4, t5, t6, t7, t8, t9, t10] w1 rfl (by omega) hca hs g0 g1 g2 k0 k1 k2 (hA.below hb))
  have S1 : Hid (SmallTk [t4, t5, t6, t7, t8, t9, t10]) := Lib.hid (small_drop hs 4)
  have S2 : Hid (SmallTk [t8, t9, t10]) := Lib.hid (small_drop hs 8)
  clear hA hs
  go_enter Tryz.func217, Tryz.ntmps217
  go_wp2_with fail
  refine (H1.out _ ((Below.refl _ _).alloc (Nat.le_refl _) _)).mono ?_
  rintro e w1 ⟨B, cb, rfl, hcb, hB, hb1, _⟩
  obtain ⟨g, o, rfl, hg, hc⟩ := hB (by simp)
  have z1 := hb1.size
  simp only [World.size_alloc] at z1
  have bR := blk_below (heap_alloc_new w (.cells #[.int .i64 0, .string ⟨#[]⟩, .string ⟨#[]⟩, .string ⟨#[]⟩, .string ⟨#[]⟩, .string ⟨#[]⟩, .string ⟨#[]⟩, .string ⟨#[]⟩, .string ⟨#[]⟩] 46)) hb1 (by simp)
  simp only [List.length_cons, List.length_nil] at hcb
  have c1 : (1 : Int) ≤ cb := by omega
  have c2 : ¬ cb = 1 := by omega
  have c3 : ¬ cb - 1 = 0 := by omega
  have c4 : ¬ cb ≤ 1 := by omega
  have z2 : w.heap.size < w1.heap.size := by omega
  have z4 : w.heap.size < w1.heap.size + 1 := by omega
  have z5 : w.heap.size < w1.heap.size + 1 + 1 := by omega
  have hb0 := ((Below.refl w.heap.size w).alloc (Nat.le_refl _) (.cells #[.int .i64 0, .string ⟨#[]⟩, .string ⟨#[]⟩, .string ⟨#[]⟩, .string ⟨#[]⟩, .string ⟨#[]⟩, .string ⟨#[]⟩, .string ⟨#[]⟩, .string ⟨#[]⟩] 46)).trans (hb1.mono (by simp))
  have gc := set_cell
  have gf : ∀ (X : World) (i o : Nat) (v : Value), (X.setCell ⟨w1.heap.size + 1, i, none⟩ v).cell? ⟨w.heap.size, o, none⟩ = X.cell? ⟨w.heap.size, o, none⟩ := fun X i o v => set_far X _ _ i o v (by omega)
  have H2 := Lib.hid (fun (w2 : World) (hb : RowKit.Below w1.heap.size w1 w2) => readGood (some ⟨g, o + 3, none⟩) (cb - 1) 7 t4 t5 t6 [t7, t8, t9, t10] w2 rfl (by omega) (by omega) S1.out g4 g5 g6 k4 k5 k6 ((tk_tail hB).below hb))
  clear hc hb1
  go_wp2_with fail
  have hw3 : RowKit.Below w1.heap.size w1 ((w1.alloc (.cells #[.string t0.text, .string t2.text] 44)).alloc (.cells #[.int .i64 4, .string t0.text, .string t2.text, .string ⟨#[]⟩, .string ⟨#[]⟩, .string ⟨#[]⟩, .string ⟨#[]⟩, .string ⟨#[]⟩, .string ⟨#[]⟩] 46)) := ((Below.refl _ _).alloc (Nat.le_refl _) _).alloc (by simp) _
  refine (H2.out _ hw3).mono ?_
  rintro e w2 ⟨B2, cb2, rfl, hcb2, hB2, hb2, hf2⟩
  have z3 := hb2.size
  simp only [World.size_alloc] at z3
  have bS0 := heap_alloc_new (w1.alloc (.cells #[.string t0.text, .string t2.text] 44)) (.cells #[.int .i64 4, .string t0.text, .string t2.text, .string ⟨#[]⟩, .string ⟨#[]⟩, .string ⟨#[]⟩, .string ⟨#[]⟩, .string ⟨#[]⟩, .string ⟨#[]⟩] 46)
  rw [World.size_alloc] at bS0
  have bS := blk_below bS0 hb2 (by simp)
  have bR2 := blk_below bR (hw3.trans (hb2.mono (by simp; omega))) (by omega)
  have hbw2 := hb0.trans ((hw3.trans (hb2.mono (by simp; omega))).mono (by omega : w.heap.size ≤ w1.heap.size))
  have hcS := fun o => Lib.cell_of_heap bS o
  have hfS := blk_frozen bS
  simp only [List.length_cons, List.length_nil] at hcb2
  obtain ⟨gg, oo, rfl, hgg, hcc⟩ := hB2 (by simp)
  have hgf := hf2 gg oo rfl
  simp only [World.size_alloc] at hgf
  have d1 : (1 : Int) ≤ cb2 := by omega
  have d2 : ¬ cb2 = 1 := by omega
  have d3 : ¬ cb2 - 1 = 0 := by omega
  have d4 : ¬ cb2 ≤ 1 := by omega
  have hw4 : RowKit.Below (w1.heap.size + 1) w2 ((w2.setCell ⟨w1.heap.size + 1, 4, none⟩ (.string t4.text)).setCell ⟨w1.heap.size + 1, 5, none⟩ (.string t6.text)) := ((Below.refl _ _).setCell (by simp) _).setCell (by simp) _
  have ht4 : TkAt ((w2.setCell ⟨w1.heap.size + 1, 4, none⟩ (.string t4.text)).setCell ⟨w1.heap.size + 1, 5, none⟩ (.string t6.text)) (some ⟨gg, oo + 3, none⟩) [t8, t9, t10] := tk_set (tk_set (tk_tail hB2) (by intro g' o' e; injection e with e; injection e with e1 e2; omega) _ _) (by intro g' o' e; injection e with e; injection e with e1 e2; omega) _ _
  have H3 := Lib.hid (readGood (some ⟨gg, oo + 3, none⟩) (cb2 - 1) 3 t8 t9 t10 [] ((w2.setCell ⟨w1.heap.size + 1, 4, none⟩ (.string t4.text)).setCell ⟨w1.heap.size + 1, 5, none⟩ (.string t6.text)) rfl (by omega) (by omega) S2.out g8 g9 g10 k8 k9 k10 ht4)
  have bS4 := blk_set (blk_set bS 4 (.string t4.text)) 5 (.string t6.text)
  have bR4 := blk_below bR2 hw4 (by omega)
  have hcR0 := fun o => Lib.cell_of_heap bR2 o
  have hfR0 := blk_frozen bR2
  clear bS0 hB2 hB hw3 hb0 hcc ht4
  go_wp2_with fail
  refine H3.out.mono ?_
  rintro e w3 ⟨B3, cb3, rfl, hcb3, hB3, hb3, _⟩
  have z6 := hb3.size
  rw [set_size, set_size] at z6
  have hk3 := hb3.mono (B' := w1.heap.size + 1 + 1) (by rw [set_size, set_size]; omega)
  have bS5 := blk_below bS4 hk3 (by omega)
  have bR5 := blk_below bR4 hk3 (by omega)
  have hbw3 := hbw2.trans ((hw4.mono (by omega : w.heap.size ≤ w1.heap.size + 1)).trans (hk3.mono (by omega)))
  clear hcS hfS hcR0 hfR0 bS bS4 bR bR2 bR4 hb3 hk3 hw4 hbw2 hb2
  have hcS := fun o => Lib.cell_of_heap bS5 o
  have hfS := blk_frozen bS5
  have hcR := fun o => Lib.cell_of_heap bR5 o
  have hfR := blk_frozen bR5
  clear bS5 bR5
  go_wp2_with fail
  exact bodyPost_ret (v := .agg #[.int .i64 4, .string t0.text, .string t2.text, .string ⟨#[]⟩, .string t4.text, .string t6.text, .string t8.text, .string t10.text, .string ⟨#[]⟩]) (by simp [results, Tryz.results217, go_sem, set9, gf, hcR, z2, z4, z5]) rfl ⟨rfl, (((((((((((hbw3.setCell (by simp; omega) _).setCell (by simp; omega) _).setCell (by simp) _).setCell (by simp) _).setCell (by simp) _).setCell (by simp) _).setCell (by simp) _).setCell (by simp) _).setCell (by simp) _).setCell (by simp) _).setCell (by simp) _)⟩
end Go.Proofs.YtkmpbkgmdfeicaaGreat.SynV
/- Rows of numbers put one behind the other: slices.Grow, slices.Concat; the shapes. -/
namespace Go.Proofs.YtkmpbkgmdfeicaaGreat.SynG
set_option linter.unusedVariables false
set_option linter.unusedSimpArgs false
open Go.RowKit Go.Sort Go.Proofs.YtkmpbkgmdfeicaaGreat.Plain Go.Proofs.YtkmpbkgmdfeicaaGreat.SynP Go.Proofs.YtkmpbkgmdfeicaaGreat.SynQ Go.Proofs.YtkmpbkgmdfeicaaGreat.Grown Go.Proofs.YtkmpbkgmdfeicaaGreat.SynA Go.Proofs.YtkmpbkgmdfeicaaGreat.SynC
set_option linter.unusedVariables false
theorem infoInt : (Tryz.prog.info? 3).map (fun i => (i.zero, i.size, i.bytes)) = some (some (.int .i64 0), 1, 8) := by kernel_rfl
def icells (l : List Int) : List Value := l.map (Value.int .i64)
/-- A row of the call's own that holds numbers. -/
def IPost (l : List Int) (w : World) (e : Ending) (w' : World) : Prop := ∃ v, e = .returned v ∧ w'.ownsRow w.heap.size 3 1 v l.length (icells l) ∧ Below w.heap.size w w'
set_option maxRecDepth 100000 in
theorem growI (n : Nat) (w : World) (hn : n ≤ 1000000) : Calls Tryz.prog 253 #[.slice none 0 0, .int .i64 n] w (IPost [] w) := by
  obtain ⟨i0, hi, hz0, hz1, hz2⟩ := info_parts infoInt
  by_cases h0 : 0 < n
  · have hz : 0 < i0.size := by rw [hz1]; omega
    have hby : n * i0.bytes ≤ 281474976710656 := by rw [hz2]; omega
    have hrun := Lib.run_append_nil_zeros (P := Tryz.prog) w 132 3 132 3 i0 (.int .i64 0) .i64 .i64 Tryz.underlying132 Tryz.underlying3 hi hz0 n h0 hz (by omega) hby
    have hg := grownCap_ge w n 0 3
    have hm := grownCap_le_maxLen w n 0 3 (by unfold maxLen; omega)
    have hm' := hm
    have hsz : (Builtin.zeroCells (Value.int .i64 0).cells n ++ Builtin.zeroCells (Value.int .i64 0).cells (grownCap w n 0 3 - n)).size = grownCap w n 0 3 * 1 := by
      rw [Array.size_append, size_zeroCells, size_zeroCells]
      show n * 1 + (grownCap w n 0 3 - n) * 1 = _
      omega
    generalize Builtin.zeroCells (Value.int .i64 0).cells n ++ Builtin.zeroCells (Value.int .i64 0).cells (grownCap w n 0 3 - n) = cells at *
    generalize grownCap w n 0 3 = gc at *
    have Hsz := Lib.hid hsz
    have Hm := Lib.hid hm'
    have Hrun := Lib.hid hrun
    clear hsz hz hby hm' hrun
    unfold maxLen at hm
    go_enter Tryz.func253, Tryz.ntmps253
    go_wp2_with (refine Lib.wpList_append_run (P := Tryz.prog) (o := ⟨some 22, _, _, _, _, _⟩) w rfl (.tmp 20) (.tmp 21) 132 3 rfl (.slice none 0 0) (.int .i64 n) ?hs ?hx (.slice (some ⟨w.heap.size, 0, none⟩) n gc) (w.drew.alloc (.cells cells 3)) (by exact Hrun.out) ?_)
    case hs => rfl
    case hx => rfl
    go_wp2
    go_ret
    exact ⟨_, rfl, World.ownsRow_made w.drew cells gc (Nat.le_refl _) Hm.out Hsz.out, (Below.refl _ _).drew.alloc (Nat.le_refl _) _⟩
  · have : n = 0 := by omega
    subst this
    go_enter Tryz.func253, Tryz.ntmps253
    go_wp2
    go_ret
    exact ⟨_, rfl, World.ownsRow_nil _ _ _ _, Below.refl _ _⟩
/-- A slice value, its room, and the numbers as which it reads. -/
structure RowI where
  A : Option Addr
  c : Nat
  l : List Int
/-- The numbers of the first rows. -/
def flatTo (R : List RowI) (k : Nat) : List Int := ((R.take k).map RowI.l).flatten
theorem flatTo_succ {R : List RowI} {k : Nat} (h : k < R.length) : flatTo R (k + 1) = flatTo R k ++ R[k].l := by
  unfold flatTo
  rw [List.take_succ_eq_append_getElem h, List.map_append, List.flatten_append, List.map_singleton, List.flatten_singleton]
theorem flatTo_len {R : List RowI} (h : ∀ r ∈ R, r.l.length ≤ 1000) : ∀ k, (flatTo R k).length ≤ k * 1000 := by
  intro k
  induction k with
  | zero => simp [flatTo]
  | succ k ih =>
    rcases Nat.lt_or_ge k R.length with hk | hk
    · rw [flatTo_succ hk, List.length_append]
      have h1 := h R[k] (List.getElem_mem _)
      rw [Nat.succ_mul]
      exact Nat.add_le_add ih h1
    · have : flatTo R (k + 1) = flatTo R k := by unfold flatTo; rw [List.take_of_length_le (by omega), List.take_of_length_le (by omega)]
      rw [this, Nat.succ_mul]
      exact Nat.le_add_right_of_le ih
theorem icells_append (a b : List Int) : icells (a ++ b) = icells a ++ icells b := by unfold icells; exact List.map_append
theorem icells_len (a : List Int) : (icells a).length = a.length := List.length_map ..
theorem icells_one (l : List Int) : ∀ u ∈ icells l, u.oneCell' = true := by
  intro u hu
  obtain ⟨x, _, rfl⟩ := List.mem_map.1 hu
  rfl
theorem iat_none {w : World} {l : List Int} (h : IAt w none l) : l.length = 0 := by
  rcases Nat.eq_zero_or_pos l.length with h0 | h0
  · exact h0
  · obtain ⟨_, _, e, _⟩ := h h0; cases e
theorem iat_cells {w : World} {A : Option Addr} {l : List Int} (h : IAt w A l) : ∀ ad, A = some ad → ∀ j u, (icells l)[j]? = some u → w.cell? (ad.add j) = some u := by
  rintro ad rfl j u hu
  have hj : j < l.length := by
    rcases Nat.lt_or_ge j l.length with h | h
    · exact h
    · rw [List.getElem?_eq_none (by rw [icells_len]; exact h)] at hu; cases hu
  obtain ⟨g, o, e, _, hc⟩ := h (by omega)
  injection e with e
  subst e
  rw [add_off, hc j hj, ← hu]
  unfold icells
  rw [List.getElem?_map, List.getElem?_eq_getElem hj]; rfl
set_option maxHeartbeats 800000 in
set_option maxRecDepth 100000 in
theorem concatI (b cap : Nat) (R : List RowI) (w : World) (hR : R.length ≤ 100) (hl : ∀ r ∈ R, r.l.length ≤ 1000) (hb : b < w.heap.size) (hc : ∀ j, (h : j < R.length) → w.cell? ⟨b, j, none⟩ = some (.slice R[j].A R[j].l.length R[j].c)) (hr : ∀ r ∈ R, IAt w r.A r.l) :
    Calls Tryz.prog 243 #[.slice (some ⟨b, 0, none⟩) R.length cap] w (IPost (flatTo R R.length) w) := by
  obtain ⟨i0, hi, hz0, hz1, hz2⟩ := info_parts infoInt
  have HC := Lib.hid hc
  have HR := Lib.hid hr
  have HL := Lib.hid (flatTo_len hl)
  have Hl := Lib.hid hl
  clear hc hr hl
  go_enter Tryz.func243, Tryz.ntmps243
  go_wp2_with fail
  go_loop [3, 11] (fun s i => ∃ k : Nat, k ≤ R.length ∧ i = .int .i64 k ∧ s = .int .i64 ((flatTo R k).length : Nat)) (fun _ i => R.length - (intOf i).toNat)
  case atStart => exact ⟨0, by omega, rfl, by simp [flatTo]⟩
  case round =>
    obtain ⟨k, hk, rfl, rfl⟩ := hrel
    have b1 := HL.out k
    by_cases hlt : k < R.length
    · have hcell := HC.out k hlt
      have b2 := Hl.out R[k] (List.getElem_mem _)
      have hs := flatTo_succ hlt
      have Hs : Hid (((flatTo R k).length : Int) + (R[k].l.length : Int) = ((flatTo R (k + 1)).length : Nat)) := Lib.hid (by rw [hs, List.length_append]; omega)
      clear hs
      go_wp2_with fail
      go_round
      case rel => exact ⟨k + 1, by omega, by go_num, by rw [← Hs.out]⟩
      case measure => simp [intOf]; omega
    · have hkR : k = R.length := by omega
      subst hkR
      go_wp2_with fail
      refine (growI (flatTo R R.length).length w (by omega)).mono ?_
      rintro e w1 ⟨v1, rfl, hown1, hbel1⟩
      go_wp2_with fail
      go_loopw [6, 27] (fun v i wr => ∃ k : Nat, k ≤ R.length ∧ i = .int .i64 k ∧ Below w.heap.size w wr ∧ wr.ownsRow w.heap.size 3 1 v (flatTo R k).length (icells (flatTo R k))) (fun _ i _ => R.length - (intOf i).toNat)
      case atStart => exact ⟨0, by omega, rfl, hbel1, by simpa [flatTo] using hown1⟩
      case round =>
        obtain ⟨k, hk, rfl, hbel, hown⟩ := hrel
        clear hown1 hbel1
        by_cases hlt : k < R.length
        · have d1 := (hbel.cell (p := ⟨b, k, none⟩) hb).trans (HC.out k hlt)
          have hrow := (HR.out R[k] (List.getElem_mem _)).below hbel
          have b2 := Hl.out R[k] (List.getElem_mem _)
          have b3 := HL.out k
          have H0 := Lib.hid (fun h : R[k].A = none => by rw [h] at hrow; exact iat_none hrow)
          have H1 := Lib.hid (iat_cells hrow)
          have Hs := Lib.hid (flatTo_succ hlt)
          clear hrow
          go_wp2_with (at_builtin; refine wpList_append_from _ rfl _ _ 132 rfl w.heap.size 3 i0 (.int .i64 0) 1 8 Tryz.underlying132 hi hz0 hz1 hz2 rfl (by decide) _ _ _ rfl hown R[k].A R[k].l.length R[k].c (icells R[k].l) rfl (by rw [icells_len]; omega) H0.out H1.out (icells_one _) (by unfold maxLen; omega) (by omega) hbel.size ?_)
          intro v2 w2 hown2 hgrow
          have hbel2 := hbel.grown hgrow hbel.size (fun k hk => (hown.lt k hk).1)
          have hown3 : w2.ownsRow w.heap.size 3 1 v2 (flatTo R (k + 1)).length (icells (flatTo R (k + 1))) := by
            rw [Hs.out, List.length_append, icells_append]; exact hown2
          clear hown hbel hgrow hown2
          go_wp2_with fail
          go_roundw
          case rel => exact ⟨k + 1, by omega, by go_num, hbel2, hown3⟩
          case measure => simp [intOf]; omega
        · have hkR : k = R.length := by omega
          subst hkR
          go_wp2_with fail
          go_ret
          exact ⟨_, rfl, hown, hbel⟩
end Go.Proofs.YtkmpbkgmdfeicaaGreat.SynG
/- The kinds of the tokens of a line, in the program and in the document's answers. -/
namespace Go.Proofs.YtkmpbkgmdfeicaaGreat.SynH
set_option linter.unusedVariables false
set_option linter.unusedSimpArgs false
open Go.RowKit Go.Sort Go.Proofs.YtkmpbkgmdfeicaaGreat.Plain Go.Proofs.YtkmpbkgmdfeicaaGreat.SynP Go.Proofs.YtkmpbkgmdfeicaaGreat.SynQ Go.Proofs.YtkmpbkgmdfeicaaGreat.Grown Go.Proofs.YtkmpbkgmdfeicaaGreat.SynA Go.Proofs.YtkmpbkgmdfeicaaGreat.SynC Go.Proofs.YtkmpbkgmdfeicaaGreat.SynG
set_option linter.unusedVariables false
set_option linter.unusedSimpArgs false
theorem iat_of_own {w : World} {B : Nat} {e : TypeId} {v : Value} {l : List Int} (h : w.ownsRow B e 1 v l.length (icells l)) : ∃ A cap, v = .slice A l.length cap ∧ IAt w A l := by
  rcases h.2 with ⟨rfl, h0⟩ | ⟨g, cap, cur, rfl, hB, hh, hc, hm, hs, ht⟩
  · exact ⟨none, 0, by rw [h0], fun hp => by omega⟩
  · refine ⟨_, _, rfl, fun hp => ⟨g, 0, rfl, (h.lt g rfl).2, fun j hj => ?_⟩⟩
    have a : (icells l)[j]? = some (.int .i64 l[j]) := by unfold icells; rw [List.getElem?_map, List.getElem?_eq_getElem hj]; rfl
    rw [← ht] at a
    rw [List.getElem?_take_of_lt (by omega)] at a
    rw [Lib.cell_of_heap hh, ← Array.getElem?_toList, Nat.zero_add]
    exact a
theorem iat_new (w : World) (l : List Int) (t : TypeId) : IAt (w.alloc (.cells (icells l).toArray t)) (some ⟨w.heap.size, 0, none⟩) l := fun _ =>
  ⟨w.heap.size, 0, rfl, by simp, fun k hk => by
    rw [Lib.cell_of_heap (heap_alloc_new w _), Nat.zero_add]
    unfold icells
    simp [hk]⟩
theorem iat_alloc {w : World} {A : Option Addr} {l : List Int} (h : IAt w A l) (o : Obj) : IAt (w.alloc o) A l := h.below ((Below.refl _ _).alloc (Nat.le_refl _) o)
theorem new_cell (w : World) (c : Array Value) (t : TypeId) (j : Nat) : (w.alloc (.cells c t)).cell? ⟨w.heap.size, j, none⟩ = c[j]? := Lib.cell_of_heap (heap_alloc_new w _) j
theorem own_base {w : World} {B B' : Nat} {e : TypeId} {size n : Nat} {v : Value} {xs : List Value} (h : w.ownsRow B e size v n xs) (hB : B' ≤ B) : w.ownsRow B' e size v n xs := by
  refine ⟨h.1, ?_⟩
  rcases h.2 with h0 | ⟨g, cap, cur, hv, hg, r⟩
  · exact .inl h0
  · exact .inr ⟨g, cap, cur, hv, Nat.le_trans hB hg, r⟩
set_option maxHeartbeats 1000000 in
set_option maxRecDepth 100000 in
theorem shapeOf1 (w : World) : Calls Tryz.prog 215 #[.int .i64 1] w (IPost (shapeK 1) w) := by
  obtain ⟨i0, hi, hz0, hz1, hz2⟩ := info_parts infoInt
  go_enter Tryz.func215, Tryz.ntmps215
  go_wp2_with fail
  have k1 : IAt (((w.alloc (.cells #[.int .i64 1, .int .i64 3, .int .i64 2] 3)).alloc (.cells #[.int .i64 4] 3)).alloc (.cells #[.slice (some ⟨w.heap.size, 0, none⟩) 3 3, .slice (some ⟨w.heap.size + 1, 0, none⟩) 1 1] 132)) (some ⟨w.heap.size, 0, none⟩) [1, 3, 2] := iat_alloc (iat_alloc (iat_new w [1, 3, 2] _) _) _
  have k2 : IAt (((w.alloc (.cells #[.int .i64 1, .int .i64 3, .int .i64 2] 3)).alloc (.cells #[.int .i64 4] 3)).alloc (.cells #[.slice (some ⟨w.heap.size, 0, none⟩) 3 3, .slice (some ⟨w.heap.size + 1, 0, none⟩) 1 1] 132)) (some ⟨w.heap.size + 1, 0, none⟩) [4] := by
    have := iat_new (w.alloc (.cells #[.int .i64 1, .int .i64 3, .int .i64 2] 3)) [4] 3
    rw [World.size_alloc] at this
    exact iat_alloc this _
  have k3 : ∀ j, (((w.alloc (.cells #[.int .i64 1, .int .i64 3, .int .i64 2] 3)).alloc (.cells #[.int .i64 4] 3)).alloc (.cells #[.slice (some ⟨w.heap.size, 0, none⟩) 3 3, .slice (some ⟨w.heap.size + 1, 0, none⟩) 1 1] 132)).cell? ⟨w.heap.size + 1 + 1, j, none⟩ = (#[.slice (some ⟨w.heap.size, 0, none⟩) 3 3, .slice (some ⟨w.heap.size + 1, 0, none⟩) 1 1] : Array Value)[j]? := fun j => by
    have := new_cell ((w.alloc (.cells #[.int .i64 1, .int .i64 3, .int .i64 2] 3)).alloc (.cells #[.int .i64 4] 3)) #[.slice (some ⟨w.heap.size, 0, none⟩) 3 3, .slice (some ⟨w.heap.size + 1, 0, none⟩) 1 1] 132 j
    rw [World.size_alloc, World.size_alloc] at this
    exact this
  refine (concatI (w.heap.size + 1 + 1) 2 [⟨some ⟨w.heap.size, 0, none⟩, 3, [1, 3, 2]⟩, ⟨some ⟨w.heap.size + 1, 0, none⟩, 1, [4]⟩] _ (by simp) (by simp) (by simp) (fun j hj => by rw [k3]; match j, hj with | 0, _ => rfl | 1, _ => rfl) (by simp only [List.mem_cons, List.not_mem_nil, or_false]; rintro r (rfl | rfl); exact k1; exact k2)).mono ?_
  rintro e w1 ⟨v1, rfl, hown, hb⟩
  have hb0 : Below w.heap.size w w1 := ((((Below.refl _ _).alloc (Nat.le_refl _) _).alloc (by simp) _).alloc (by simp; omega) _).trans (hb.mono (by simp; omega))
  have k5 : IAt w1 (some ⟨w.heap.size, 0, none⟩) [1, 3, 2] := k1.below hb
  have hsz := hb.size
  simp only [World.size_alloc] at hsz
  rw [World.size_alloc, World.size_alloc, World.size_alloc] at hown
  have hown' : w1.ownsRow (w.heap.size + 1 + 1 + 1) 3 1 v1 ([1, 3, 2, 4] : List Int).length (icells [1, 3, 2, 4]) := hown
  clear k1 k2 k3 hown hb
  clear k5
  go_wp2_with (at_builtin; refine wpList_append_own _ rfl _ _ 132 rfl (w.heap.size + 1 + 1 + 1) 3 i0 (.int .i64 0) 1 8 Tryz.underlying132 hi hz0 hz1 hz2 rfl (by decide) _ _ _ rfl (hown'.alloc _) ⟨w1.heap.size, 0, none⟩ 1 1 [.int .i64 1] rfl rfl ?c1 ?c2 ?c3 ?c4 ?c5 ?_)
  case c1 => intro j u hu; rw [add_off, Nat.zero_add, new_cell, ← hu]; simp
  case c2 => intro u hu; simp at hu; rw [hu]; rfl
  case c3 => unfold maxLen; decide
  case c4 => decide
  case c5 => simp; omega
  intro v2 w2 hown2 hgrow _
  have hb2 : Below w.heap.size w w2 := (hb0.alloc hb0.size _).grown hgrow (by simp; omega) (fun k hk => by have := (hown'.lt k hk).1; omega)
  clear hown' hgrow hb0
  go_wp2_with fail
  go_ret
  exact ⟨_, rfl, own_base hown2 (by omega), hb2⟩
set_option maxHeartbeats 1000000 in
set_option maxRecDepth 100000 in
theorem shapeOf2 (w : World) : Calls Tryz.prog 215 #[.int .i64 2] w (IPost (shapeK 2) w) := by
  go_enter Tryz.func215, Tryz.ntmps215
  go_wp2_with fail
  have k1 : IAt (((w.alloc (.cells #[.int .i64 1, .int .i64 3, .int .i64 2] 3)).alloc (.cells #[.int .i64 4] 3)).alloc (.cells #[.slice (some ⟨w.heap.size, 0, none⟩) 3 3, .slice (some ⟨w.heap.size + 1, 0, none⟩) 1 1] 132)) (some ⟨w.heap.size, 0, none⟩) [1, 3, 2] := iat_alloc (iat_alloc (iat_new w [1, 3, 2] _) _) _
  have k2 : IAt (((w.alloc (.cells #[.int .i64 1, .int .i64 3, .int .i64 2] 3)).alloc (.cells #[.int .i64 4] 3)).alloc (.cells #[.slice (some ⟨w.heap.size, 0, none⟩) 3 3, .slice (some ⟨w.heap.size + 1, 0, none⟩) 1 1] 132)) (some ⟨w.heap.size + 1, 0, none⟩) [4] := by
    have := iat_new (w.alloc (.cells #[.int .i64 1, .int .i64 3, .int .i64 2] 3)) [4] 3
    rw [World.size_alloc] at this
    exact iat_alloc this _
  have k3 : ∀ j, (((w.alloc (.cells #[.int .i64 1, .int .i64 3, .int .i64 2] 3)).alloc (.cells #[.int .i64 4] 3)).alloc (.cells #[.slice (some ⟨w.heap.size, 0, none⟩) 3 3, .slice (some ⟨w.heap.size + 1, 0, none⟩) 1 1] 132)).cell? ⟨w.heap.size + 1 + 1, j, none⟩ = (#[.slice (some ⟨w.heap.size, 0, none⟩) 3 3, .slice (some ⟨w.heap.size + 1, 0, none⟩) 1 1] : Array Value)[j]? := fun j => by
    have := new_cell ((w.alloc (.cells #[.int .i64 1, .int .i64 3, .int .i64 2] 3)).alloc (.cells #[.int .i64 4] 3)) #[.slice (some ⟨w.heap.size, 0, none⟩) 3 3, .slice (some ⟨w.heap.size + 1, 0, none⟩) 1 1] 132 j
    rw [World.size_alloc, World.size_alloc] at this
    exact this
  refine (concatI (w.heap.size + 1 + 1) 2 [⟨some ⟨w.heap.size, 0, none⟩, 3, [1, 3, 2]⟩, ⟨some ⟨w.heap.size + 1, 0, none⟩, 1, [4]⟩] _ (by simp) (by simp) (by simp) (fun j hj => by rw [k3]; match j, hj with | 0, _ => rfl | 1, _ => rfl) (by simp only [List.mem_cons, List.not_mem_nil, or_false]; rintro r (rfl | rfl); exact k1; exact k2)).mono ?_
  rintro e w1 ⟨v1, rfl, hown, hb⟩
  have hb0 : Below w.heap.size w w1 := ((((Below.refl _ _).alloc (Nat.le_refl _) _).alloc (by simp) _).alloc (by simp; omega) _).trans (hb.mono (by simp; omega))
  have k5 : IAt w1 (some ⟨w.heap.size, 0, none⟩) [1, 3, 2] := k1.below hb
  have hsz := hb.size
  simp only [World.size_alloc] at hsz
  rw [World.size_alloc, World.size_alloc, World.size_alloc] at hown
  have hown' : w1.ownsRow (w.heap.size + 1 + 1 + 1) 3 1 v1 ([1, 3, 2, 4] : List Int).length (icells [1, 3, 2, 4]) := hown
  clear k1 k2 k3 hown hb
  obtain ⟨A, c, rfl, hA⟩ := iat_of_own hown'
  clear hown'
  go_wp2_with fail
  have j0 : ∀ j, (w1.alloc (.cells #[.slice A 4 c, .slice (some ⟨w.heap.size, 0, none⟩) 3 3] 132)).cell? ⟨w1.heap.size, j, none⟩ = (#[.slice A 4 c, .slice (some ⟨w.heap.size, 0, none⟩) 3 3] : Array Value)[j]? := fun j => by
    have := new_cell w1 #[.slice A 4 c, .slice (some ⟨w.heap.size, 0, none⟩) 3 3] 132 j
    skip
    exact this
  have j1 : IAt (w1.alloc (.cells #[.slice A 4 c, .slice (some ⟨w.heap.size, 0, none⟩) 3 3] 132)) A [1, 3, 2, 4] := iat_alloc hA _
  have j2 : IAt (w1.alloc (.cells #[.slice A 4 c, .slice (some ⟨w.heap.size, 0, none⟩) 3 3] 132)) (some ⟨w.heap.size, 0, none⟩) [1, 3, 2] := iat_alloc k5 _
  refine (concatI (w1.heap.size) 2 [⟨A, c, [1, 3, 2, 4]⟩, ⟨some ⟨w.heap.size, 0, none⟩, 3, [1, 3, 2]⟩] _ (by simp) (by simp) (by simp) (fun j hj => by rw [j0]; match j, hj with | 0, _ => rfl | 1, _ => rfl) (by simp only [List.mem_cons, List.not_mem_nil, or_false]; rintro r (rfl | rfl); exact j1; exact j2)).mono ?_
  rintro e w2 ⟨v2, rfl, hown2, hb2⟩
  have hb3 := hb2.mono (B' := w.heap.size) (by simp; omega)
  have hbel : Below w.heap.size w w2 := (hb0.alloc hb0.size _).trans hb3
  clear j0 j1 j2 k5 hA
  go_wp2_with fail
  go_ret
  exact ⟨_, rfl, own_base hown2 (by simp; omega), hbel⟩
set_option maxHeartbeats 1000000 in
set_option maxRecDepth 100000 in
theorem shapeOf3 (w : World) : Calls Tryz.prog 215 #[.int .i64 3] w (IPost (shapeK 3) w) := by
  go_enter Tryz.func215, Tryz.ntmps215
  go_wp2_with fail
  have k1 : IAt (((w.alloc (.cells #[.int .i64 1, .int .i64 3, .int .i64 2] 3)).alloc (.cells #[.int .i64 4] 3)).alloc (.cells #[.slice (some ⟨w.heap.size, 0, none⟩) 3 3, .slice (some ⟨w.heap.size + 1, 0, none⟩) 1 1] 132)) (some ⟨w.heap.size, 0, none⟩) [1, 3, 2] := iat_alloc (iat_alloc (iat_new w [1, 3, 2] _) _) _
  have k2 : IAt (((w.alloc (.cells #[.int .i64 1, .int .i64 3, .int .i64 2] 3)).alloc (.cells #[.int .i64 4] 3)).alloc (.cells #[.slice (some ⟨w.heap.size, 0, none⟩) 3 3, .slice (some ⟨w.heap.size + 1, 0, none⟩) 1 1] 132)) (some ⟨w.heap.size + 1, 0, none⟩) [4] := by
    have := iat_new (w.alloc (.cells #[.int .i64 1, .int .i64 3, .int .i64 2] 3)) [4] 3
    rw [World.size_alloc] at this
    exact iat_alloc this _
  have k3 : ∀ j, (((w.alloc (.cells #[.int .i64 1, .int .i64 3, .int .i64 2] 3)).alloc (.cells #[.int .i64 4] 3)).alloc (.cells #[.slice (some ⟨w.heap.size, 0, none⟩) 3 3, .slice (some ⟨w.heap.size + 1, 0, none⟩) 1 1] 132)).cell? ⟨w.heap.size + 1 + 1, j, none⟩ = (#[.slice (some ⟨w.heap.size, 0, none⟩) 3 3, .slice (some ⟨w.heap.size + 1, 0, none⟩) 1 1] : Array Value)[j]? := fun j => by
    have := new_cell ((w.alloc (.cells #[.int .i64 1, .int .i64 3, .int .i64 2] 3)).alloc (.cells #[.int .i64 4] 3)) #[.slice (some ⟨w.heap.size, 0, none⟩) 3 3, .slice (some ⟨w.heap.size + 1, 0, none⟩) 1 1] 132 j
    rw [World.size_alloc, World.size_alloc] at this
    exact this
  refine (concatI (w.heap.size + 1 + 1) 2 [⟨some ⟨w.heap.size, 0, none⟩, 3, [1, 3, 2]⟩, ⟨some ⟨w.heap.size + 1, 0, none⟩, 1, [4]⟩] _ (by simp) (by simp) (by simp) (fun j hj => by rw [k3]; match j, hj with | 0, _ => rfl | 1, _ => rfl) (by simp only [List.mem_cons, List.not_mem_nil, or_false]; rintro r (rfl | rfl); exact k1; exact k2)).mono ?_
  rintro e w1 ⟨v1, rfl, hown, hb⟩
  have hb0 : Below w.heap.size w w1 := ((((Below.refl _ _).alloc (Nat.le_refl _) _).alloc (by simp) _).alloc (by simp; omega) _).trans (hb.mono (by simp; omega))
  have k5 : IAt w1 (some ⟨w.heap.size, 0, none⟩) [1, 3, 2] := k1.below hb
  have hsz := hb.size
  simp only [World.size_alloc] at hsz
  rw [World.size_alloc, World.size_alloc, World.size_alloc] at hown
  have hown' : w1.ownsRow (w.heap.size + 1 + 1 + 1) 3 1 v1 ([1, 3, 2, 4] : List Int).length (icells [1, 3, 2, 4]) := hown
  clear k1 k2 k3 hown hb
  obtain ⟨A, c, rfl, hA⟩ := iat_of_own hown'
  clear hown'
  go_wp2_with fail
  have j0 : ∀ j, ((w1.alloc (.cells #[.int .i64 3, .int .i64 2] 3)).alloc (.cells #[.slice A 4 c, .slice (some ⟨w.heap.size, 0, none⟩) 3 3, .slice (some ⟨w1.heap.size, 0, none⟩) 2 2] 132)).cell? ⟨w1.heap.size + 1, j, none⟩ = (#[.slice A 4 c, .slice (some ⟨w.heap.size, 0, none⟩) 3 3, .slice (some ⟨w1.heap.size, 0, none⟩) 2 2] : Array Value)[j]? := fun j => by
    have := new_cell (w1.alloc (.cells #[.int .i64 3, .int .i64 2] 3)) #[.slice A 4 c, .slice (some ⟨w.heap.size, 0, none⟩) 3 3, .slice (some ⟨w1.heap.size, 0, none⟩) 2 2] 132 j
    rw [World.size_alloc] at this
    exact this
  have j1 : IAt ((w1.alloc (.cells #[.int .i64 3, .int .i64 2] 3)).alloc (.cells #[.slice A 4 c, .slice (some ⟨w.heap.size, 0, none⟩) 3 3, .slice (some ⟨w1.heap.size, 0, none⟩) 2 2] 132)) A [1, 3, 2, 4] := iat_alloc (iat_alloc hA _) _
  have j2 : IAt ((w1.alloc (.cells #[.int .i64 3, .int .i64 2] 3)).alloc (.cells #[.slice A 4 c, .slice (some ⟨w.heap.size, 0, none⟩) 3 3, .slice (some ⟨w1.heap.size, 0, none⟩) 2 2] 132)) (some ⟨w.heap.size, 0, none⟩) [1, 3, 2] := iat_alloc (iat_alloc k5 _) _
  have j3 : IAt ((w1.alloc (.cells #[.int .i64 3, .int .i64 2] 3)).alloc (.cells #[.slice A 4 c, .slice (some ⟨w.heap.size, 0, none⟩) 3 3, .slice (some ⟨w1.heap.size, 0, none⟩) 2 2] 132)) (some ⟨w1.heap.size, 0, none⟩) [3, 2] := iat_alloc (iat_new w1 [3, 2] _) _
  refine (concatI (w1.heap.size + 1) 3 [⟨A, c, [1, 3, 2, 4]⟩, ⟨some ⟨w.heap.size, 0, none⟩, 3, [1, 3, 2]⟩, ⟨some ⟨w1.heap.size, 0, none⟩, 2, [3, 2]⟩] _ (by simp) (by simp) (by simp) (fun j hj => by rw [j0]; match j, hj with | 0, _ => rfl | 1, _ => rfl | 2, _ => rfl) (by simp only [List.mem_cons, List.not_mem_nil, or_false]; rintro r (rfl | rfl | rfl); exact j1; exact j2; exact j3)).mono ?_
  rintro e w2 ⟨v2, rfl, hown2, hb2⟩
  have hb3 := hb2.mono (B' := w.heap.size) (by simp; omega)
  have hbel : Below w.heap.size w w2 := ((hb0.alloc hb0.size _).alloc (by simp; omega) _).trans hb3
  clear j0 j1 j2 j3 k5 hA
  go_wp2_with fail
  go_ret
  exact ⟨_, rfl, own_base hown2 (by simp; omega), hbel⟩
set_option maxHeartbeats 1000000 in
set_option maxRecDepth 100000 in
theorem shapeOf4 (w : World) : Calls Tryz.prog 215 #[.int .i64 4] w (IPost (shapeK 4) w) := by
  go_enter Tryz.func215, Tryz.ntmps215
  go_wp2_with fail
  have k1 : IAt (((w.alloc (.cells #[.int .i64 1, .int .i64 3, .int .i64 2] 3)).alloc (.cells #[.int .i64 4] 3)).alloc (.cells #[.slice (some ⟨w.heap.size, 0, none⟩) 3 3, .slice (some ⟨w.heap.size + 1, 0, none⟩) 1 1] 132)) (some ⟨w.heap.size, 0, none⟩) [1, 3, 2] := iat_alloc (iat_alloc (iat_new w [1, 3, 2] _) _) _
  have k2 : IAt (((w.alloc (.cells #[.int .i64 1, .int .i64 3, .int .i64 2] 3)).alloc (.cells #[.int .i64 4] 3)).alloc (.cells #[.slice (some ⟨w.heap.size, 0, none⟩) 3 3, .slice (some ⟨w.heap.size + 1, 0, none⟩) 1 1] 132)) (some ⟨w.heap.size + 1, 0, none⟩) [4] := by
    have := iat_new (w.alloc (.cells #[.int .i64 1, .int .i64 3, .int .i64 2] 3)) [4] 3
    rw [World.size_alloc] at this
    exact iat_alloc this _
  have k3 : ∀ j, (((w.alloc (.cells #[.int .i64 1, .int .i64 3, .int .i64 2] 3)).alloc (.cells #[.int .i64 4] 3)).alloc (.cells #[.slice (some ⟨w.heap.size, 0, none⟩) 3 3, .slice (some ⟨w.heap.size + 1, 0, none⟩) 1 1] 132)).cell? ⟨w.heap.size + 1 + 1, j, none⟩ = (#[.slice (some ⟨w.heap.size, 0, none⟩) 3 3, .slice (some ⟨w.heap.size + 1, 0, none⟩) 1 1] : Array Value)[j]? := fun j => by
    have := new_cell ((w.alloc (.cells #[.int .i64 1, .int .i64 3, .int .i64 2] 3)).alloc (.cells #[.int .i64 4] 3)) #[.slice (some ⟨w.heap.size, 0, none⟩) 3 3, .slice (some ⟨w.heap.size + 1, 0, none⟩) 1 1] 132 j
    rw [World.size_alloc, World.size_alloc] at this
    exact this
  refine (concatI (w.heap.size + 1 + 1) 2 [⟨some ⟨w.heap.size, 0, none⟩, 3, [1, 3, 2]⟩, ⟨some ⟨w.heap.size + 1, 0, none⟩, 1, [4]⟩] _ (by simp) (by simp) (by simp) (fun j hj => by rw [k3]; match j, hj with | 0, _ => rfl | 1, _ => rfl) (by simp only [List.mem_cons, List.not_mem_nil, or_false]; rintro r (rfl | rfl); exact k1; exact k2)).mono ?_
  rintro e w1 ⟨v1, rfl, hown, hb⟩
  have hb0 : Below w.heap.size w w1 := ((((Below.refl _ _).alloc (Nat.le_refl _) _).alloc (by simp) _).alloc (by simp; omega) _).trans (hb.mono (by simp; omega))
  have k5 : IAt w1 (some ⟨w.heap.size, 0, none⟩) [1, 3, 2] := k1.below hb
  have hsz := hb.size
  simp only [World.size_alloc] at hsz
  rw [World.size_alloc, World.size_alloc, World.size_alloc] at hown
  have hown' : w1.ownsRow (w.heap.size + 1 + 1 + 1) 3 1 v1 ([1, 3, 2, 4] : List Int).length (icells [1, 3, 2, 4]) := hown
  clear k1 k2 k3 hown hb
  obtain ⟨A, c, rfl, hA⟩ := iat_of_own hown'
  clear hown'
  go_wp2_with fail
  have j0 : ∀ j, ((w1.alloc (.cells #[.int .i64 5] 3)).alloc (.cells #[.slice A 4 c, .slice (some ⟨w.heap.size, 0, none⟩) 3 3, .slice (some ⟨w1.heap.size, 0, none⟩) 1 1, .slice (some ⟨w.heap.size, 0, none⟩) 3 3] 132)).cell? ⟨w1.heap.size + 1, j, none⟩ = (#[.slice A 4 c, .slice (some ⟨w.heap.size, 0, none⟩) 3 3, .slice (some ⟨w1.heap.size, 0, none⟩) 1 1, .slice (some ⟨w.heap.size, 0, none⟩) 3 3] : Array Value)[j]? := fun j => by
    have := new_cell (w1.alloc (.cells #[.int .i64 5] 3)) #[.slice A 4 c, .slice (some ⟨w.heap.size, 0, none⟩) 3 3, .slice (some ⟨w1.heap.size, 0, none⟩) 1 1, .slice (some ⟨w.heap.size, 0, none⟩) 3 3] 132 j
    rw [World.size_alloc] at this
    exact this
  have j1 : IAt ((w1.alloc (.cells #[.int .i64 5] 3)).alloc (.cells #[.slice A 4 c, .slice (some ⟨w.heap.size, 0, none⟩) 3 3, .slice (some ⟨w1.heap.size, 0, none⟩) 1 1, .slice (some ⟨w.heap.size, 0, none⟩) 3 3] 132)) A [1, 3, 2, 4] := iat_alloc (iat_alloc hA _) _
  have j2 : IAt ((w1.alloc (.cells #[.int .i64 5] 3)).alloc (.cells #[.slice A 4 c, .slice (some ⟨w.heap.size, 0, none⟩) 3 3, .slice (some ⟨w1.heap.size, 0, none⟩) 1 1, .slice (some ⟨w.heap.size, 0, none⟩) 3 3] 132)) (some ⟨w.heap.size, 0, none⟩) [1, 3, 2] := iat_alloc (iat_alloc k5 _) _
  have j3 : IAt ((w1.alloc (.cells #[.int .i64 5] 3)).alloc (.cells #[.slice A 4 c, .slice (some ⟨w.heap.size, 0, none⟩) 3 3, .slice (some ⟨w1.heap.size, 0, none⟩) 1 1, .slice (some ⟨w.heap.size, 0, none⟩) 3 3] 132)) (some ⟨w1.heap.size, 0, none⟩) [5] := iat_alloc (iat_new w1 [5] _) _
  refine (concatI (w1.heap.size + 1) 4 [⟨A, c, [1, 3, 2, 4]⟩, ⟨some ⟨w.heap.size, 0, none⟩, 3, [1, 3, 2]⟩, ⟨some ⟨w1.heap.size, 0, none⟩, 1, [5]⟩, ⟨some ⟨w.heap.size, 0, none⟩, 3, [1, 3, 2]⟩] _ (by simp) (by simp) (by simp) (fun j hj => by rw [j0]; match j, hj with | 0, _ => rfl | 1, _ => rfl | 2, _ => rfl | 3, _ => rfl) (by simp only [List.mem_cons, List.not_mem_nil, or_false]; rintro r (rfl | rfl | rfl | rfl); exact j1; exact j2; exact j3; exact j2)).mono ?_
  rintro e w2 ⟨v2, rfl, hown2, hb2⟩
  have hb3 := hb2.mono (B' := w.heap.size) (by simp; omega)
  have hbel : Below w.heap.size w w2 := ((hb0.alloc hb0.size _).alloc (by simp; omega) _).trans hb3
  clear j0 j1 j2 j3 k5 hA
  go_wp2_with fail
  go_ret
  exact ⟨_, rfl, own_base hown2 (by simp; omega), hbel⟩
theorem shapeOf (k : Nat) (h1 : 1 ≤ k) (h4 : k ≤ 4) (w : World) : Calls Tryz.prog 215 #[.int .i64 k] w (IPost (shapeK k) w) := by
  match k, h1, h4 with
  | 1, _, _ => exact shapeOf1 w
  | 2, _, _ => exact shapeOf2 w
  | 3, _, _ => exact shapeOf3 w
  | 4, _, _ => exact shapeOf4 w
end Go.Proofs.YtkmpbkgmdfeicaaGreat.SynH
