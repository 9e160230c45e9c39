/- The statement whose line has these tokens. -/
import Derived.Test.YtofhiolmaojihaaSynU
namespace Go.Proofs.Ytofhiolmaojihaa.SynV
open Go.RowKit Go.Sort Go.Proofs Go.Proofs.Ytofhiolmaojihaa.Plain Go.Proofs.Ytofhiolmaojihaa.SynP Go.Proofs.Ytofhiolmaojihaa.SynQ Go.Proofs.Ytofhiolmaojihaa.Grown Go.Proofs.Ytofhiolmaojihaa.SynA Go.Proofs.Ytofhiolmaojihaa.SynC Go.Proofs.Ytofhiolmaojihaa.SynR Go.Proofs.Ytofhiolmaojihaa.SynW Go.Proofs.Ytofhiolmaojihaa.Scan3 Go.Proofs.Ytofhiolmaojihaa.Scan5 Go.Proofs.Ytofhiolmaojihaa.Syn1 Go.Proofs.Ytofhiolmaojihaa.Syn2 Go.Proofs.Ytofhiolmaojihaa.Syn4 Go.Proofs.Ytofhiolmaojihaa.SynL Go.Proofs.Ytofhiolmaojihaa.SynS Go.Proofs.Ytofhiolmaojihaa.SynT Go.Proofs.Ytofhiolmaojihaa.SynU
set_option linter.unusedVariables false
set_option linter.unusedSimpArgs false
theorem good1 {t : Tk} (h : goodTk t) (hk : t.kind = 1) : named capB t.text.data.toList = true := by
  rcases h with ⟨_, h⟩ | ⟨h, _⟩ | ⟨h, _⟩ | ⟨h, _⟩ | ⟨h, _⟩
  · exact h
  all_goals (rw [hk] at h; exact absurd h (by decide))
theorem good2 {t : Tk} (h : goodTk t) (hk : t.kind = 2) : named smallB t.text.data.toList = true := by
  rcases h with ⟨h, _⟩ | ⟨_, h⟩ | ⟨h, _⟩ | ⟨h, _⟩ | ⟨h, _⟩
  rotate_left
  · exact h
  all_goals (rw [hk] at h; exact absurd h (by decide))
theorem good3 {t : Tk} (h : goodTk t) (hk : t.kind = 3) : t.text = dot := by
  rcases h with ⟨h, _⟩ | ⟨h, _⟩ | ⟨_, h⟩ | ⟨h, _⟩ | ⟨h, _⟩
  rotate_left 2
  · exact h
  all_goals (rw [hk] at h; exact absurd h (by decide))
/-- Good tokens that are a role's are read as one. -/
theorem readR_good {a b c : Tk} {rest : List Tk} (ha : goodTk a) (hb : goodTk b) (hc : goodTk c) (ka : a.kind = 1) (kb : b.kind = 3) (kc : c.kind = 2) : readR (a :: b :: c :: rest) = (⟨a.text, c.text⟩, rest, true) := by
  refine readR_yes ?_ ?_
  · unfold Rl.ok; rw [Bool.and_eq_true]; exact ⟨good1 ha ka, good2 hc kc⟩
  · unfold kts roleTk
    simp [ka, kb, kc, good3 hb kb]
/-- What ReadRole answers of such tokens. -/
def RolePost (a c : Tk) (rest : List Tk) (w : World) (e : Ending) (w' : World) : Prop := ∃ A cap, e = .returned (.tuple #[.agg #[.string a.text, .string c.text], .slice A rest.length cap, .bool true]) ∧ rest.length ≤ cap ∧ TkAt w' A rest ∧ Below w.heap.size w w' ∧ ∀ g o, A = some ⟨g, o, none⟩ → w.heap.size ≤ g
theorem readGood (A : Option Addr) (ca n : Nat) (a b c : Tk) (rest : List Tk) (w : World) (hn : n = rest.length + 3) (hL : n ≤ 1000) (hca : n ≤ ca) (hs : SmallTk (a :: b :: c :: rest)) (ha : goodTk a) (hb : goodTk b) (hc : goodTk c) (ka : a.kind = 1) (kb : b.kind = 3) (kc : c.kind = 2) (hA : TkAt w A (a :: b :: c :: rest)) :
    Calls Try.prog 31 #[.slice A n ca] w (RolePost a c rest w) := by
  subst hn
  refine (readRole A ca (a :: b :: c :: rest) w hL hca hs hA).mono ?_
  rintro e w' ⟨v, rfl, hown, hb'⟩
  rw [readR_good ha hb hc ka kb kc] at hown
  obtain ⟨B, cap, rfl, hcap, hr⟩ := of_rowTk hown
  exact ⟨B, cap, by rw [readR_good ha hb hc ka kb kc]; rfl, hcap, hr, hb', fun g o e => by subst e; exact (hown.lt g rfl).1⟩
def StmtPost (s : St) (w : World) (e : Ending) (w' : World) : Prop := e = .returned s.val ∧ Below w.heap.size w w'
theorem blk_set {w : World} {n : Nat} {C : Array Value} {t : TypeId} (h : w.heap[n]? = some (.cells C t (0, 0))) (i : Nat) (v : Value) : (w.setCell ⟨n, i, none⟩ v).heap[n]? = some (.cells (C.setIfInBounds i v) t (0, 0)) := by
  simp [World.setCell, Array.getElem?_modify, h]
theorem blk_frozen {w : World} {n : Nat} {C : Array Value} {t : TypeId} (h : w.heap[n]? = some (.cells C t (0, 0))) (o : Nat) : w.frozen? ⟨n, o, none⟩ = false := by
  simp [World.frozen?, h]
theorem blk_below {w w' : World} {n B : Nat} {x : Option Obj} (h : w.heap[n]? = x) (hb : RowKit.Below B w w') (hn : n < B) : w'.heap[n]? = x := (hb.block n hn).trans h
theorem tk_tail {w : World} {g o : Nat} {a : Tk} {rest : List Tk} (h : TkAt w (some ⟨g, o, none⟩) (a :: rest)) : TkAt w (some ⟨g, o + 3, none⟩) rest := fun _ => by
  obtain ⟨g', o', e, hg, hc⟩ := h (by simp)
  injection e with e
  injection e with e1 e2
  subst e1; subst e2
  refine ⟨g, o + 3, rfl, hg, fun j hj => ?_⟩
  obtain ⟨x, y, z⟩ := hc (j + 1) (by simp; omega)
  simp only [List.getElem_cons_succ] at x y z
  rw [show o + (j + 1) * 3 = o + 3 + j * 3 by omega] at x y z
  exact ⟨x, y, z⟩
theorem tk_set {w : World} {A : Option Addr} {L : List Tk} (h : TkAt w A L) {b : Nat} (hb : ∀ g o, A = some ⟨g, o, none⟩ → b ≠ g) (i : Nat) (v : Value) : TkAt (w.setCell ⟨b, i, none⟩ v) A L := fun hp => by
  obtain ⟨g, o, e, hg, hc⟩ := h hp
  refine ⟨g, o, e, by rw [set_size]; exact hg, fun j hj => ?_⟩
  obtain ⟨x, y, z⟩ := hc j hj
  have hne := hb g o e
  exact ⟨(set_far _ _ _ _ _ _ hne).trans x, (set_far _ _ _ _ _ _ hne).trans y, (set_far _ _ _ _ _ _ hne).trans z⟩
theorem small_drop {L : List Tk} (h : SmallTk L) (n : Nat) : SmallTk (L.drop n) := fun t ht => h t (List.mem_of_mem_drop ht)
set_option maxHeartbeats 2000000 in
set_option maxRecDepth 100000 in
theorem statement1 (A : Option Addr) (ca : Nat) (t0 t1 t2 t3 t4 : Tk) (w : World) (hca : 5 ≤ ca) (hs : SmallTk [t0, t1, t2, t3, t4]) (g0 : goodTk t0) (g1 : goodTk t1) (g2 : goodTk t2) (k0 : t0.kind = 1) (k1 : t1.kind = 3) (k2 : t2.kind = 2) (hA : TkAt w A [t0, t1, t2, t3, t4]) :
    Calls Try.prog 49 #[.int .i64 1, .slice A 5 ca] w (StmtPost ⟨1, ⟨t0.text, t2.text⟩, t4.text, zeroR, zeroR, noText⟩ w) := by
  have H1 := Lib.hid (fun (w1 : World) (hb : RowKit.Below w.heap.size w w1) => readGood A ca 5 t0 t1 t2 [t3, t4] w1 rfl (by omega) hca hs g0 g1 g2 k0 k1 k2 (hA.below hb))
  clear hA hs
  go_enter Try.func49, Try.ntmps49
  go_wp2_with fail
  refine (H1.out _ ((Below.refl _ _).alloc (Nat.le_refl _) _)).mono ?_
  rintro e w1 ⟨B, cb, rfl, hcb, hB, hb1, _⟩
  obtain ⟨g, o, rfl, hg, hc⟩ := hB (by simp)
  obtain ⟨_, x4, _⟩ := hc 1 (by simp)
  simp only [List.getElem_cons_succ, List.getElem_cons_zero] at x4
  have z1 := hb1.size
  simp only [World.size_alloc] at z1
  have bR := blk_below (heap_alloc_new w (.cells #[.int .i64 0, .string ⟨#[]⟩, .string ⟨#[]⟩, .string ⟨#[]⟩, .string ⟨#[]⟩, .string ⟨#[]⟩, .string ⟨#[]⟩, .string ⟨#[]⟩, .string ⟨#[]⟩] 25)) hb1 (by simp)
  simp only [List.length_cons, List.length_nil] at hcb
  have c1 : (1 : Int) ≤ cb := by omega
  have c2 : ¬ cb = 1 := by omega
  have c3 : ¬ cb - 1 = 0 := by omega
  have c4 : ¬ cb ≤ 1 := by omega
  have z2 : w.heap.size < w1.heap.size := by omega
  have z4 : w.heap.size < w1.heap.size + 1 := by omega
  have z5 : w.heap.size < w1.heap.size + 1 + 1 := by omega
  have hb0 := ((Below.refl w.heap.size w).alloc (Nat.le_refl _) (.cells #[.int .i64 0, .string ⟨#[]⟩, .string ⟨#[]⟩, .string ⟨#[]⟩, .string ⟨#[]⟩, .string ⟨#[]⟩, .string ⟨#[]⟩, .string ⟨#[]⟩, .string ⟨#[]⟩] 25)).trans (hb1.mono (by simp))
  have gc := set_cell
  have gf : ∀ (X : World) (i o : Nat) (v : Value), (X.setCell ⟨w1.heap.size + 1, i, none⟩ v).cell? ⟨w.heap.size, o, none⟩ = X.cell? ⟨w.heap.size, o, none⟩ := fun X i o v => set_far X _ _ i o v (by omega)
  clear hc hb1
  have hcR := fun o => Lib.cell_of_heap bR o
  have hfR := blk_frozen bR
  go_wp2_with fail
  exact bodyPost_ret (v := .agg #[.int .i64 1, .string t0.text, .string t2.text, .string t4.text, .string ⟨#[]⟩, .string ⟨#[]⟩, .string ⟨#[]⟩, .string ⟨#[]⟩, .string ⟨#[]⟩]) (by simp [results, Try.results49, go_sem, set9, gf, hcR, z2, z4, z5]) rfl ⟨rfl, (((((((((((hb0).setCell (by simp) _).setCell (by simp) _).setCell (by simp) _).setCell (by simp) _).setCell (by simp) _).setCell (by simp) _).setCell (by simp) _).setCell (by simp) _).setCell (by simp) _).alloc (by simp; omega) _).alloc (by simp; omega) _⟩
set_option maxHeartbeats 2000000 in
set_option maxRecDepth 100000 in
theorem statement2 (A : Option Addr) (ca : Nat) (t0 t1 t2 t3 t4 t5 t6 : Tk) (w : World) (hca : 7 ≤ ca) (hs : SmallTk [t0, t1, t2, t3, t4, t5, t6]) (g0 : goodTk t0) (g1 : goodTk t1) (g2 : goodTk t2) (k0 : t0.kind = 1) (k1 : t1.kind = 3) (k2 : t2.kind = 2) (g4 : goodTk t4) (g5 : goodTk t5) (g6 : goodTk t6) (k4 : t4.kind = 1) (k5 : t5.kind = 3) (k6 : t6.kind = 2) (hA : TkAt w A [t0, t1, t2, t3, t4, t5, t6]) :
    Calls Try.prog 49 #[.int .i64 2, .slice A 7 ca] w (StmtPost ⟨2, ⟨t0.text, t2.text⟩, noText, ⟨t4.text, t6.text⟩, zeroR, noText⟩ w) := by
  have H1 := Lib.hid (fun (w1 : World) (hb : RowKit.Below w.heap.size w w1) => readGood A ca 7 t0 t1 t2 [t3, t4, t5, t6] w1 rfl (by omega) hca hs g0 g1 g2 k0 k1 k2 (hA.below hb))
  have S1 : Hid (SmallTk [t4, t5, t6]) := Lib.hid (small_drop hs 4)
  clear hA hs
  go_enter Try.func49, Try.ntmps49
  go_wp2_with fail
  refine (H1.out _ ((Below.refl _ _).alloc (Nat.le_refl _) _)).mono ?_
  rintro e w1 ⟨B, cb, rfl, hcb, hB, hb1, _⟩
  obtain ⟨g, o, rfl, hg, hc⟩ := hB (by simp)
  have z1 := hb1.size
  simp only [World.size_alloc] at z1
  have bR := blk_below (heap_alloc_new w (.cells #[.int .i64 0, .string ⟨#[]⟩, .string ⟨#[]⟩, .string ⟨#[]⟩, .string ⟨#[]⟩, .string ⟨#[]⟩, .string ⟨#[]⟩, .string ⟨#[]⟩, .string ⟨#[]⟩] 25)) hb1 (by simp)
  simp only [List.length_cons, List.length_nil] at hcb
  have c1 : (1 : Int) ≤ cb := by omega
  have c2 : ¬ cb = 1 := by omega
  have c3 : ¬ cb - 1 = 0 := by omega
  have c4 : ¬ cb ≤ 1 := by omega
  have z2 : w.heap.size < w1.heap.size := by omega
  have z4 : w.heap.size < w1.heap.size + 1 := by omega
  have z5 : w.heap.size < w1.heap.size + 1 + 1 := by omega
  have hb0 := ((Below.refl w.heap.size w).alloc (Nat.le_refl _) (.cells #[.int .i64 0, .string ⟨#[]⟩, .string ⟨#[]⟩, .string ⟨#[]⟩, .string ⟨#[]⟩, .string ⟨#[]⟩, .string ⟨#[]⟩, .string ⟨#[]⟩, .string ⟨#[]⟩] 25)).trans (hb1.mono (by simp))
  have gc := set_cell
  have gf : ∀ (X : World) (i o : Nat) (v : Value), (X.setCell ⟨w1.heap.size + 1, i, none⟩ v).cell? ⟨w.heap.size, o, none⟩ = X.cell? ⟨w.heap.size, o, none⟩ := fun X i o v => set_far X _ _ i o v (by omega)
  have H2 := Lib.hid (fun (w2 : World) (hb : RowKit.Below w1.heap.size w1 w2) => readGood (some ⟨g, o + 3, none⟩) (cb - 1) 3 t4 t5 t6 [] w2 rfl (by omega) (by omega) S1.out g4 g5 g6 k4 k5 k6 ((tk_tail hB).below hb))
  clear hc hb1
  go_wp2_with fail
  have hw3 : RowKit.Below w1.heap.size w1 ((w1.alloc (.cells #[.string t0.text, .string t2.text] 23)).alloc (.cells #[.int .i64 2, .string t0.text, .string t2.text, .string ⟨#[]⟩, .string ⟨#[]⟩, .string ⟨#[]⟩, .string ⟨#[]⟩, .string ⟨#[]⟩, .string ⟨#[]⟩] 25)) := ((Below.refl _ _).alloc (Nat.le_refl _) _).alloc (by simp) _
  refine (H2.out _ hw3).mono ?_
  rintro e w2 ⟨B2, cb2, rfl, hcb2, hB2, hb2, hf2⟩
  have z3 := hb2.size
  simp only [World.size_alloc] at z3
  have bS0 := heap_alloc_new (w1.alloc (.cells #[.string t0.text, .string t2.text] 23)) (.cells #[.int .i64 2, .string t0.text, .string t2.text, .string ⟨#[]⟩, .string ⟨#[]⟩, .string ⟨#[]⟩, .string ⟨#[]⟩, .string ⟨#[]⟩, .string ⟨#[]⟩] 25)
  rw [World.size_alloc] at bS0
  have bS := blk_below bS0 hb2 (by simp)
  have bR2 := blk_below bR (hw3.trans (hb2.mono (by simp; omega))) (by omega)
  have hbw2 := hb0.trans ((hw3.trans (hb2.mono (by simp; omega))).mono (by omega : w.heap.size ≤ w1.heap.size))
  have hcS := fun o => Lib.cell_of_heap bS o
  have hfS := blk_frozen bS
  simp only [List.length_cons, List.length_nil] at hcb2
  have hcR := fun o => Lib.cell_of_heap bR2 o
  have hfR := blk_frozen bR2
  clear bS0 bS bR bR2 hb2 hB2 hB hw3 hb0
  go_wp2_with fail
  exact bodyPost_ret (v := .agg #[.int .i64 2, .string t0.text, .string t2.text, .string ⟨#[]⟩, .string t4.text, .string t6.text, .string ⟨#[]⟩, .string ⟨#[]⟩, .string ⟨#[]⟩]) (by simp [results, Try.results49, go_sem, set9, gf, hcR, z2, z4, z5]) rfl ⟨rfl, (((((((((((hbw2.setCell (by simp; omega) _).setCell (by simp; omega) _).setCell (by simp) _).setCell (by simp) _).setCell (by simp) _).setCell (by simp) _).setCell (by simp) _).setCell (by simp) _).setCell (by simp) _).setCell (by simp) _).setCell (by simp) _)⟩
set_option maxHeartbeats 2000000 in
set_option maxRecDepth 100000 in
theorem statement3 (A : Option Addr) (ca : Nat) (t0 t1 t2 t3 t4 t5 t6 t7 t8 : Tk) (w : World) (hca : 9 ≤ ca) (hs : SmallTk [t0, t1, t2, t3, t4, t5, t6, t7, t8]) (g0 : goodTk t0) (g1 : goodTk t1) (g2 : goodTk t2) (k0 : t0.kind = 1) (k1 : t1.kind = 3) (k2 : t2.kind = 2) (g4 : goodTk t4) (g5 : goodTk t5) (g6 : goodTk t6) (k4 : t4.kind = 1) (k5 : t5.kind = 3) (k6 : t6.kind = 2) (hA : TkAt w A [t0, t1, t2, t3, t4, t5, t6, t7, t8]) :
    Calls Try.prog 49 #[.int .i64 3, .slice A 9 ca] w (StmtPost ⟨3, ⟨t0.text, t2.text⟩, noText, ⟨t4.text, t6.text⟩, zeroR, t8.text⟩ w) := by
  have H1 := Lib.hid (fun (w1 : World) (hb : RowKit.Below w.heap.size w w1) => readGood A ca 9 t0 t1 t2 [t3, t4, t5, t6, t7, t8] w1 rfl (by omega) hca hs g0 g1 g2 k0 k1 k2 (hA.below hb))
  have S1 : Hid (SmallTk [t4, t5, t6, t7, t8]) := Lib.hid (small_drop hs 4)
  clear hA hs
  go_enter Try.func49, Try.ntmps49
  go_wp2_with fail
  refine (H1.out _ ((Below.refl _ _).alloc (Nat.le_refl _) _)).mono ?_
  rintro e w1 ⟨B, cb, rfl, hcb, hB, hb1, _⟩
  obtain ⟨g, o, rfl, hg, hc⟩ := hB (by simp)
  have z1 := hb1.size
  simp only [World.size_alloc] at z1
  have bR := blk_below (heap_alloc_new w (.cells #[.int .i64 0, .string ⟨#[]⟩, .string ⟨#[]⟩, .string ⟨#[]⟩, .string ⟨#[]⟩, .string ⟨#[]⟩, .string ⟨#[]⟩, .string ⟨#[]⟩, .string ⟨#[]⟩] 25)) hb1 (by simp)
  simp only [List.length_cons, List.length_nil] at hcb
  have c1 : (1 : Int) ≤ cb := by omega
  have c2 : ¬ cb = 1 := by omega
  have c3 : ¬ cb - 1 = 0 := by omega
  have c4 : ¬ cb ≤ 1 := by omega
  have z2 : w.heap.size < w1.heap.size := by omega
  have z4 : w.heap.size < w1.heap.size + 1 := by omega
  have z5 : w.heap.size < w1.heap.size + 1 + 1 := by omega
  have hb0 := ((Below.refl w.heap.size w).alloc (Nat.le_refl _) (.cells #[.int .i64 0, .string ⟨#[]⟩, .string ⟨#[]⟩, .string ⟨#[]⟩, .string ⟨#[]⟩, .string ⟨#[]⟩, .string ⟨#[]⟩, .string ⟨#[]⟩, .string ⟨#[]⟩] 25)).trans (hb1.mono (by simp))
  have gc := set_cell
  have gf : ∀ (X : World) (i o : Nat) (v : Value), (X.setCell ⟨w1.heap.size + 1, i, none⟩ v).cell? ⟨w.heap.size, o, none⟩ = X.cell? ⟨w.heap.size, o, none⟩ := fun X i o v => set_far X _ _ i o v (by omega)
  have H2 := Lib.hid (fun (w2 : World) (hb : RowKit.Below w1.heap.size w1 w2) => readGood (some ⟨g, o + 3, none⟩) (cb - 1) 5 t4 t5 t6 [t7, t8] w2 rfl (by omega) (by omega) S1.out g4 g5 g6 k4 k5 k6 ((tk_tail hB).below hb))
  clear hc hb1
  go_wp2_with fail
  have hw3 : RowKit.Below w1.heap.size w1 ((w1.alloc (.cells #[.string t0.text, .string t2.text] 23)).alloc (.cells #[.int .i64 3, .string t0.text, .string t2.text, .string ⟨#[]⟩, .string ⟨#[]⟩, .string ⟨#[]⟩, .string ⟨#[]⟩, .string ⟨#[]⟩, .string ⟨#[]⟩] 25)) := ((Below.refl _ _).alloc (Nat.le_refl _) _).alloc (by simp) _
  refine (H2.out _ hw3).mono ?_
  rintro e w2 ⟨B2, cb2, rfl, hcb2, hB2, hb2, hf2⟩
  have z3 := hb2.size
  simp only [World.size_alloc] at z3
  have bS0 := heap_alloc_new (w1.alloc (.cells #[.string t0.text, .string t2.text] 23)) (.cells #[.int .i64 3, .string t0.text, .string t2.text, .string ⟨#[]⟩, .string ⟨#[]⟩, .string ⟨#[]⟩, .string ⟨#[]⟩, .string ⟨#[]⟩, .string ⟨#[]⟩] 25)
  rw [World.size_alloc] at bS0
  have bS := blk_below bS0 hb2 (by simp)
  have bR2 := blk_below bR (hw3.trans (hb2.mono (by simp; omega))) (by omega)
  have hbw2 := hb0.trans ((hw3.trans (hb2.mono (by simp; omega))).mono (by omega : w.heap.size ≤ w1.heap.size))
  have hcS := fun o => Lib.cell_of_heap bS o
  have hfS := blk_frozen bS
  simp only [List.length_cons, List.length_nil] at hcb2
  obtain ⟨gg, oo, rfl, hgg, hcc⟩ := hB2 (by simp)
  have hgf := hf2 gg oo rfl
  simp only [World.size_alloc] at hgf
  obtain ⟨_, x8, _⟩ := hcc 1 (by simp)
  simp only [List.getElem_cons_succ, List.getElem_cons_zero] at x8
  have x8' : ∀ (i : Nat) (v : Value) (j : Nat) (u : Value), ((w2.setCell ⟨w1.heap.size + 1, i, none⟩ v).setCell ⟨w1.heap.size + 1, j, none⟩ u).cell? ⟨gg, oo + 3 + 1, none⟩ = some (.string t8.text) := fun i v j u => by
    rw [set_far _ _ _ _ _ _ (by omega), set_far _ _ _ _ _ _ (by omega)]; exact x8
  have hcR := fun o => Lib.cell_of_heap bR2 o
  have hfR := blk_frozen bR2
  clear bS0 bS bR bR2 hb2 hB2 hB hw3 hb0 hcc
  go_wp2_with fail
  exact bodyPost_ret (v := .agg #[.int .i64 3, .string t0.text, .string t2.text, .string ⟨#[]⟩, .string t4.text, .string t6.text, .string ⟨#[]⟩, .string ⟨#[]⟩, .string t8.text]) (by simp [results, Try.results49, go_sem, set9, gf, hcR, z2, z4, z5]) rfl ⟨rfl, ((((((((((((hbw2.setCell (by simp; omega) _).setCell (by simp; omega) _).setCell (by simp; omega) _).setCell (by simp) _).setCell (by simp) _).setCell (by simp) _).setCell (by simp) _).setCell (by simp) _).setCell (by simp) _).setCell (by simp) _).setCell (by simp) _).setCell (by simp) _)⟩
set_option maxHeartbeats 2000000 in
set_option maxRecDepth 100000 in
theorem statement4 (A : Option Addr) (ca : Nat) (t0 t1 t2 t3 t4 t5 t6 t7 t8 t9 t10 : Tk) (w : World) (hca : 11 ≤ ca) (hs : SmallTk [t0, t1, t2, t3, t4, t5, t6, t7, t8, t9, t10]) (g0 : goodTk t0) (g1 : goodTk t1) (g2 : goodTk t2) (k0 : t0.kind = 1) (k1 : t1.kind = 3) (k2 : t2.kind = 2) (g4 : goodTk t4) (g5 : goodTk t5) (g6 : goodTk t6) (k4 : t4.kind = 1) (k5 : t5.kind = 3) (k6 : t6.kind = 2) (g8 : goodTk t8) (g9 : goodTk t9) (g10 : goodTk t10) (k8 : t8.kind = 1) (k9 : t9.kind = 3) (k10 : t10.kind = 2) (hA : TkAt w A [t0, t1, t2, t3, t4, t5, t6, t7, t8, t9, t10]) :
    Calls Try.prog 49 #[.int .i64 4, .slice A 11 ca] w (StmtPost ⟨4, ⟨t0.text, t2.text⟩, noText, ⟨t4.text, t6.text⟩, ⟨t8.text, t10.text⟩, noText⟩ w) := by
  have H1 := Lib.hid (fun (w1 : World) (hb : RowKit.Below w.heap.size w w1) => readGood A ca 11 t0 t1 t2 [t3, t4, t5, t6, t7, t8, t9, t10] w1 rfl (by omega) hca hs g0 g1 g2 k0 k1 k2 (hA.below hb))
  have S1 : Hid (SmallTk [t4, t5, t6, t7, t8, t9, t10]) := Lib.hid (small_drop hs 4)
  have S2 : Hid (SmallTk [t8, t9, t10]) := Lib.hid (small_drop hs 8)
  clear hA hs
  go_enter Try.func49, Try.ntmps49
  go_wp2_with fail
  refine (H1.out _ ((Below.refl _ _).alloc (Nat.le_refl _) _)).mono ?_
  rintro e w1 ⟨B, cb, rfl, hcb, hB, hb1, _⟩
  obtain ⟨g, o, rfl, hg, hc⟩ := hB (by simp)
  have z1 := hb1.size
  simp only [World.size_alloc] at z1
  have bR := blk_below (heap_alloc_new w (.cells #[.int .i64 0, .string ⟨#[]⟩, .string ⟨#[]⟩, .string ⟨#[]⟩, .string ⟨#[]⟩, .string ⟨#[]⟩, .string ⟨#[]⟩, .string ⟨#[]⟩, .string ⟨#[]⟩] 25)) hb1 (by simp)
  simp only [List.length_cons, List.length_nil] at hcb
  have c1 : (1 : Int) ≤ cb := by omega
  have c2 : ¬ cb = 1 := by omega
  have c3 : ¬ cb - 1 = 0 := by omega
  have c4 : ¬ cb ≤ 1 := by omega
  have z2 : w.heap.size < w1.heap.size := by omega
  have z4 : w.heap.size < w1.heap.size + 1 := by omega
  have z5 : w.heap.size < w1.heap.size + 1 + 1 := by omega
  have hb0 := ((Below.refl w.heap.size w).alloc (Nat.le_refl _) (.cells #[.int .i64 0, .string ⟨#[]⟩, .string ⟨#[]⟩, .string ⟨#[]⟩, .string ⟨#[]⟩, .string ⟨#[]⟩, .string ⟨#[]⟩, .string ⟨#[]⟩, .string ⟨#[]⟩] 25)).trans (hb1.mono (by simp))
  have gc := set_cell
  have gf : ∀ (X : World) (i o : Nat) (v : Value), (X.setCell ⟨w1.heap.size + 1, i, none⟩ v).cell? ⟨w.heap.size, o, none⟩ = X.cell? ⟨w.heap.size, o, none⟩ := fun X i o v => set_far X _ _ i o v (by omega)
  have H2 := Lib.hid (fun (w2 : World) (hb : RowKit.Below w1.heap.size w1 w2) => readGood (some ⟨g, o + 3, none⟩) (cb - 1) 7 t4 t5 t6 [t7, t8, t9, t10] w2 rfl (by omega) (by omega) S1.out g4 g5 g6 k4 k5 k6 ((tk_tail hB).below hb))
  clear hc hb1
  go_wp2_with fail
  have hw3 : RowKit.Below w1.heap.size w1 ((w1.alloc (.cells #[.string t0.text, .string t2.text] 23)).alloc (.cells #[.int .i64 4, .string t0.text, .string t2.text, .string ⟨#[]⟩, .string ⟨#[]⟩, .string ⟨#[]⟩, .string ⟨#[]⟩, .string ⟨#[]⟩, .string ⟨#[]⟩] 25)) := ((Below.refl _ _).alloc (Nat.le_refl _) _).alloc (by simp) _
  refine (H2.out _ hw3).mono ?_
  rintro e w2 ⟨B2, cb2, rfl, hcb2, hB2, hb2, hf2⟩
  have z3 := hb2.size
  simp only [World.size_alloc] at z3
  have bS0 := heap_alloc_new (w1.alloc (.cells #[.string t0.text, .string t2.text] 23)) (.cells #[.int .i64 4, .string t0.text, .string t2.text, .string ⟨#[]⟩, .string ⟨#[]⟩, .string ⟨#[]⟩, .string ⟨#[]⟩, .string ⟨#[]⟩, .string ⟨#[]⟩] 25)
  rw [World.size_alloc] at bS0
  have bS := blk_below bS0 hb2 (by simp)
  have bR2 := blk_below bR (hw3.trans (hb2.mono (by simp; omega))) (by omega)
  have hbw2 := hb0.trans ((hw3.trans (hb2.mono (by simp; omega))).mono (by omega : w.heap.size ≤ w1.heap.size))
  have hcS := fun o => Lib.cell_of_heap bS o
  have hfS := blk_frozen bS
  simp only [List.length_cons, List.length_nil] at hcb2
  obtain ⟨gg, oo, rfl, hgg, hcc⟩ := hB2 (by simp)
  have hgf := hf2 gg oo rfl
  simp only [World.size_alloc] at hgf
  have d1 : (1 : Int) ≤ cb2 := by omega
  have d2 : ¬ cb2 = 1 := by omega
  have d3 : ¬ cb2 - 1 = 0 := by omega
  have d4 : ¬ cb2 ≤ 1 := by omega
  have hw4 : RowKit.Below (w1.heap.size + 1) w2 ((w2.setCell ⟨w1.heap.size + 1, 4, none⟩ (.string t4.text)).setCell ⟨w1.heap.size + 1, 5, none⟩ (.string t6.text)) := ((Below.refl _ _).setCell (by simp) _).setCell (by simp) _
  have ht4 : TkAt ((w2.setCell ⟨w1.heap.size + 1, 4, none⟩ (.string t4.text)).setCell ⟨w1.heap.size + 1, 5, none⟩ (.string t6.text)) (some ⟨gg, oo + 3, none⟩) [t8, t9, t10] := tk_set (tk_set (tk_tail hB2) (by intro g' o' e; injection e with e; injection e with e1 e2; omega) _ _) (by intro g' o' e; injection e with e; injection e with e1 e2; omega) _ _
  have H3 := Lib.hid (readGood (some ⟨gg, oo + 3, none⟩) (cb2 - 1) 3 t8 t9 t10 [] ((w2.setCell ⟨w1.heap.size + 1, 4, none⟩ (.string t4.text)).setCell ⟨w1.heap.size + 1, 5, none⟩ (.string t6.text)) rfl (by omega) (by omega) S2.out g8 g9 g10 k8 k9 k10 ht4)
  have bS4 := blk_set (blk_set bS 4 (.string t4.text)) 5 (.string t6.text)
  have bR4 := blk_below bR2 hw4 (by omega)
  have hcR0 := fun o => Lib.cell_of_heap bR2 o
  have hfR0 := blk_frozen bR2
  clear bS0 hB2 hB hw3 hb0 hcc ht4
  go_wp2_with fail
  refine H3.out.mono ?_
  rintro e w3 ⟨B3, cb3, rfl, hcb3, hB3, hb3, _⟩
  have z6 := hb3.size
  rw [set_size, set_size] at z6
  have hk3 := hb3.mono (B' := w1.heap.size + 1 + 1) (by rw [set_size, set_size]; omega)
  have bS5 := blk_below bS4 hk3 (by omega)
  have bR5 := blk_below bR4 hk3 (by omega)
  have hbw3 := hbw2.trans ((hw4.mono (by omega : w.heap.size ≤ w1.heap.size + 1)).trans (hk3.mono (by omega)))
  clear hcS hfS hcR0 hfR0 bS bS4 bR bR2 bR4 hb3 hk3 hw4 hbw2 hb2
  have hcS := fun o => Lib.cell_of_heap bS5 o
  have hfS := blk_frozen bS5
  have hcR := fun o => Lib.cell_of_heap bR5 o
  have hfR := blk_frozen bR5
  clear bS5 bR5
  go_wp2_with fail
  exact bodyPost_ret (v := .agg #[.int .i64 4, .string t0.text, .string t2.text, .string ⟨#[]⟩, .string t4.text, .string t6.text, .string t8.text, .string t10.text, .string ⟨#[]⟩]) (by simp [results, Try.results49, go_sem, set9, gf, hcR, z2, z4, z5]) rfl ⟨rfl, (((((((((((hbw3.setCell (by simp; omega) _).setCell (by simp; omega) _).setCell (by simp) _).setCell (by simp) _).setCell (by simp) _).setCell (by simp) _).setCell (by simp) _).setCell (by simp) _).setCell (by simp) _).setCell (by simp) _).setCell (by simp) _)⟩
end Go.Proofs.Ytofhiolmaojihaa.SynV
