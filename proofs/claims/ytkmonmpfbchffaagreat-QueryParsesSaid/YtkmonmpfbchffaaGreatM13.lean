/- The statement whose line has these tokens. -/
import Derived.Test.YtkmonmpfbchffaaGreatM12
import Derived.Test.YtkmonmpfbchffaaGreatM07
import Derived.Test.YtkmonmpfbchffaaGreatM08
import Derived.Test.YtkmonmpfbchffaaGreatM02
namespace Go.Proofs.YtkmonmpfbchffaaGreat.SynV
set_option linter.unusedVariables false
set_option linter.unusedSimpArgs false
open Go.RowKit Go.Sort Go.Proofs Go.Proofs.YtkmonmpfbchffaaGreat.Plain Go.Proofs.YtkmonmpfbchffaaGreat.SynP Go.Proofs.YtkmonmpfbchffaaGreat.SynQ Go.Proofs.YtkmonmpfbchffaaGreat.Grown Go.Proofs.YtkmonmpfbchffaaGreat.SynA Go.Proofs.YtkmonmpfbchffaaGreat.SynC Go.Proofs.YtkmonmpfbchffaaGreat.SynR Go.Proofs.YtkmonmpfbchffaaGreat.SynW Go.Proofs.YtkmonmpfbchffaaGreat.Scan3 Go.Proofs.YtkmonmpfbchffaaGreat.Scan5 Go.Proofs.YtkmonmpfbchffaaGreat.Syn1 Go.Proofs.YtkmonmpfbchffaaGreat.Syn2 Go.Proofs.YtkmonmpfbchffaaGreat.Syn4 Go.Proofs.YtkmonmpfbchffaaGreat.SynL Go.Proofs.YtkmonmpfbchffaaGreat.SynS Go.Proofs.YtkmonmpfbchffaaGreat.SynT Go.Proofs.YtkmonmpfbchffaaGreat.SynU
set_option linter.unusedVariables false
set_option linter.unusedSimpArgs false
theorem good1 {t : Tk} (h : goodTk t) (hk : t.kind = 1) : named capB t.text.data.toList = true := by
  rcases h with ⟨_, h⟩ | ⟨h, _⟩ | ⟨h, _⟩ | ⟨h, _⟩ | ⟨h, _⟩
  · exact h
  all_goals (rw [hk] at h; exact absurd h (by decide))
theorem good2 {t : Tk} (h : goodTk t) (hk : t.kind = 2) : named smallB t.text.data.toList = true := by
  rcases h with ⟨h, _⟩ | ⟨_, h⟩ | ⟨h, _⟩ | ⟨h, _⟩ | ⟨h, _⟩
  rotate_left
  · exact h
  all_goals (rw [hk] at h; exact absurd h (by decide))
theorem good3 {t : Tk} (h : goodTk t) (hk : t.kind = 3) : t.text = dot := by
  rcases h with ⟨h, _⟩ | ⟨h, _⟩ | ⟨_, h⟩ | ⟨h, _⟩ | ⟨h, _⟩
  rotate_left 2
  · exact h
  all_goals (rw [hk] at h; exact absurd h (by decide))
/-- Good tokens that are a role's are read as one. -/
theorem readR_good {a b c : Tk} {rest : List Tk} (ha : goodTk a) (hb : goodTk b) (hc : goodTk c) (ka : a.kind = 1) (kb : b.kind = 3) (kc : c.kind = 2) : readR (a :: b :: c :: rest) = (⟨a.text, c.text⟩, rest, true) := by
  refine readR_yes ?_ ?_
  · unfold Rl.ok; rw [Bool.and_eq_true]; exact ⟨good1 ha ka, good2 hc kc⟩
  · unfold kts roleTk
    simp [ka, kb, kc, good3 hb kb]
/-- What ReadRole answers of such tokens. -/
def RolePost (a c : Tk) (rest : List Tk) (w : World) (e : Ending) (w' : World) : Prop := ∃ A cap, e = .returned (.tuple #[.agg #[.string a.text, .string c.text], .slice A rest.length cap, .bool true]) ∧ rest.length ≤ cap ∧ TkAt w' A rest ∧ Below w.heap.size w w' ∧ ∀ g o, A = some ⟨g, o, none⟩ → w.heap.size ≤ g
theorem readGood (A : Option Addr) (ca n : Nat) (a b c : Tk) (rest : List Tk) (w : World) (hn : n = rest.length + 3) (hL : n ≤ 1000) (hca : n ≤ ca) (hs : SmallTk (a :: b :: c :: rest)) (ha : goodTk a) (hb : goodTk b) (hc : goodTk c) (ka : a.kind = 1) (kb : b.kind = 3) (kc : c.kind = 2) (hA : TkAt w A (a :: b :: c :: rest)) :
    Calls Tryz.prog 100 #[.slice A n ca] w (RolePost a c rest w) := by
  subst hn
  refine (readRole A ca (a :: b :: c :: rest) w hL hca hs hA).mono ?_
  rintro e w' ⟨v, rfl, hown, hb'⟩
  rw [readR_good ha hb hc ka kb kc] at hown
  obtain ⟨B, cap, rfl, hcap, hr⟩ := of_rowTk hown
  exact ⟨B, cap, by rw [readR_good ha hb hc ka kb kc]; rfl, hcap, hr, hb', fun g o e => by subst e; exact (hown.lt g rfl).1⟩
def StmtPost (s : St) (w : World) (e : Ending) (w' : World) : Prop := e = .returned s.val ∧ Below w.heap.size w w'
theorem blk_set {w : World} {n : Nat} {C : Array Value} {t : TypeId} (h : w.heap[n]? = some (.cells C t (0, 0))) (i : Nat) (v : Value) : (w.setCell ⟨n, i, none⟩ v).heap[n]? = some (.cells (C.setIfInBounds i v) t (0, 0)) := by
  simp [World.setCell, Array.getElem?_modify, h]
theorem blk_frozen {w : World} {n : Nat} {C : Array Value} {t : TypeId} (h : w.heap[n]? = some (.cells C t (0, 0))) (o : Nat) : w.frozen? ⟨n, o, none⟩ = false := by
  simp [World.frozen?, h]
theorem blk_below {w w' : World} {n B : Nat} {x : Option Obj} (h : w.heap[n]? = x) (hb : RowKit.Below B w w') (hn : n < B) : w'.heap[n]? = x := (hb.block n hn).trans h
theorem tk_tail {w : World} {g o : Nat} {a : Tk} {rest : List Tk} (h : TkAt w (some ⟨g, o, none⟩) (a :: rest)) : TkAt w (some ⟨g, o + 3, none⟩) rest := fun _ => by
  obtain ⟨g', o', e, hg, hc⟩ := h (by simp)
  injection e with e
  injection e with e1 e2
  subst e1; subst e2
  refine ⟨g, o + 3, rfl, hg, fun j hj => ?_⟩
  obtain ⟨x, y, z⟩ := hc (j + 1) (by simp; omega)
  simp only [List.getElem_cons_succ] at x y z
  rw [show o + (j + 1) * 3 = o + 3 + j * 3 by omega] at x y z
  exact ⟨x, y, z⟩
theorem tk_set {w : World} {A : Option Addr} {L : List Tk} (h : TkAt w A L) {b : Nat} (hb : ∀ g o, A = some ⟨g, o, none⟩ → b ≠ g) (i : Nat) (v : Value) : TkAt (w.setCell ⟨b, i, none⟩ v) A L := fun hp => by
  obtain ⟨g, o, e, hg, hc⟩ := h hp
  refine ⟨g, o, e, by rw [set_size]; exact hg, fun j hj => ?_⟩
  obtain ⟨x, y, z⟩ := hc j hj
  have hne := hb g o e
  exact ⟨(set_far _ _ _ _ _ _ hne).trans x, (set_far _ _ _ _ _ _ hne).trans y, (set_far _ _ _ _ _ _ hne).trans z⟩
theorem small_drop {L : List Tk} (h : SmallTk L) (n : Nat) : SmallTk (L.drop n) := fun t ht => h t (List.mem_of_mem_drop ht)
set_option maxHeartbeats 2000000 in
set_option maxRecDepth 100000 in
theorem statement1 (A : Option Addr) (ca : Nat) (t0 t1 t2 t3 t4 : Tk) (w : World) (hca : 5 ≤ ca) (hs : SmallTk [t0, t1, t2, t3, t4]) (g0 : goodTk t0) (g1 : goodTk t1) (g2 : goodTk t2) (k0 : t0.kind = 1) (k1 : t1.kind = 3) (k2 : t2.kind = 2) (hA : TkAt w A [t0, t1, t2, t3, t4]) :
    Calls Tryz.prog 245 #[.int .i64 1, .slice A 5 ca] w (StmtPost ⟨1, ⟨t0.text, t2.text⟩, t4.text, zeroR, zeroR, noText⟩ w) := by
  have H1 := Lib.hid (fun (w1 : World) (hb : RowKit.Below w.heap.size w w1) => readGood A ca 5 t0 t1 t2 [t3, t4] w1 rfl (by omega) hca hs g0 g1 g2 k0 k1 k2 (hA.below hb))
  clear hA hs
  go_enter Tryz.func245, Tryz.ntmps245
  go_wp2_with fail
  refine (H1.out _ ((Below.refl _ _).alloc (Nat.le_refl _) _)).mono ?_
  rintro e w1 ⟨B, cb, rfl, hcb, hB, hb1, _⟩
  obtain ⟨g, o, rfl, hg, hc⟩ := hB (by simp)
  obtain ⟨_, x4, _⟩ := hc 1 (by simp)
  simp only [List.getElem_cons_succ, List.getElem_cons_zero] at x4
  have z1 := hb1.size
  simp only [World.size_alloc] at z1
  have bR := blk_below (heap_alloc_new w (.cells #[.int .i64 0, .string ⟨#[]⟩, .string ⟨#[]⟩, .string ⟨#[]⟩, .string ⟨#[]⟩, .string ⟨#[]⟩, .string ⟨#[]⟩, .string ⟨#[]⟩, .string ⟨#[]⟩] 72)) hb1 (by simp)
  simp only [List.length_cons, List.length_nil] at hcb
  have c1 : (1 : Int) ≤ cb := by omega
  have c2 : ¬ cb = 1 := by omega
  have c3 : ¬ cb - 1 = 0 := by omega
  have c4 : ¬ cb ≤ 1 := by omega
  have z2 : w.heap.size < w1.heap.size := by omega
  have z4 : w.heap.size < w1.heap.size + 1 := by omega
  have z5 : w.heap.size < w1.heap.size + 1 + 1 := by omega
  have hb0 := ((Below.refl w.heap.size w).alloc (Nat.le_refl _) (.cells #[.int .i64 0, .string ⟨#[]⟩, .string ⟨#[]⟩, .string ⟨#[]⟩, .string ⟨#[]⟩, .string ⟨#[]⟩, .string ⟨#[]⟩, .string ⟨#[]⟩, .string ⟨#[]⟩] 72)).trans (hb1.mono (by simp))
  have gc := set_cell
  have gf : ∀ (X : World) (i o : Nat) (v : Value), (X.setCell ⟨w1.heap.size + 1, i, none⟩ v).cell? ⟨w.heap.size, o, none⟩ = X.cell? ⟨w.heap.size, o, none⟩ := fun X i o v => set_far X _ _ i o v (by omega)
  clear hc hb1
  have hcR := fun o => Lib.cell_of_heap bR o
  have hfR := blk_frozen bR
  go_wp2_with fail
  exact bodyPost_ret (v := .agg #[.int .i64 1, .string t0.text, .string t2.text, .string t4.text, .string ⟨#[]⟩, .string ⟨#[]⟩, .string ⟨#[]⟩, .string ⟨#[]⟩, .string ⟨#[]⟩]) (by simp [results, Tryz.results245, go_sem, set9, gf, hcR, z2, z4, z5]) rfl ⟨rfl, (((((((((((hb0).setCell (by simp) _).setCell (by simp) _).setCell (by simp) _).setCell (by simp) _).setCell (by simp) _).setCell (by simp) _).setCell (by simp) _).setCell (by simp) _).setCell (by simp) _).alloc (by simp; omega) _).alloc (by simp; omega) _⟩
set_option maxHeartbeats 2000000 in
set_option maxRecDepth 100000 in
theorem statement2 (A : Option Addr) (ca : Nat) (t0 t1 t2 t3 t4 t5 t6 : Tk) (w : World) (hca : 7 ≤ ca) (hs : SmallTk [t0, t1, t2, t3, t4, t5, t6]) (g0 : goodTk t0) (g1 : goodTk t1) (g2 : goodTk t2) (k0 : t0.kind = 1) (k1 : t1.kind = 3) (k2 : t2.kind = 2) (g4 : goodTk t4) (g5 : goodTk t5) (g6 : goodTk t6) (k4 : t4.kind = 1) (k5 : t5.kind = 3) (k6 : t6.kind = 2) (hA : TkAt w A [t0, t1, t2, t3, t4, t5, t6]) :
    Calls Tryz.prog 245 #[.int .i64 2, .slice A 7 ca] w (StmtPost ⟨2, ⟨t0.text, t2.text⟩, noText, ⟨t4.text, t6.text⟩, zeroR, noText⟩ w) := by
  have H1 := Lib.hid (fun (w1 : World) (hb : RowKit.Below w.heap.size w w1) => readGood A ca 7 t0 t1 t2 [t3, t4, t5, t6] w1 rfl (by omega) hca hs g0 g1 g2 k0 k1 k2 (hA.below hb))
  have S1 : Hid (SmallTk [t4, t5, t6]) := Lib.hid (small_drop hs 4)
  clear hA hs
  go_enter Tryz.func245, Tryz.ntmps245
  go_wp2_with fail
  refine (H1.out _ ((Below.refl _ _).alloc (Nat.le_refl _) _)).mono ?_
  rintro e w1 ⟨B, cb, rfl, hcb, hB, hb1, _⟩
  obtain ⟨g, o, rfl, hg, hc⟩ := hB (by simp)
  have z1 := hb1.size
  simp only [World.size_alloc] at z1
  have bR := blk_below (heap_alloc_new w (.cells #[.int .i64 0, .string ⟨#[]⟩, .string ⟨#[]⟩, .string ⟨#[]⟩, .string ⟨#[]⟩, .string ⟨#[]⟩, .string ⟨#[]⟩, .string ⟨#[]⟩, .string ⟨#[]⟩] 72)) hb1 (by simp)
  simp only [List.length_cons, List.length_nil] at hcb
  have c1 : (1 : Int) ≤ cb := by omega
  have c2 : ¬ cb = 1 := by omega
  have c3 : ¬ cb - 1 = 0 := by omega
  have c4 : ¬ cb ≤ 1 := by omega
  have z2 : w.heap.size < w1.heap.size := by omega
  have z4 : w.heap.size < w1.heap.size + 1 := by omega
  have z5 : w.heap.size < w1.heap.size + 1 + 1 := by omega
  have hb0 := ((Below.refl w.heap.size w).alloc (Nat.le_refl _) (.cells #[.int .i64 0, .string ⟨#[]⟩, .string ⟨#[]⟩, .string ⟨#[]⟩, .string ⟨#[]⟩, .string ⟨#[]⟩, .string ⟨#[]⟩, .string ⟨#[]⟩, .string ⟨#[]⟩] 72)).trans (hb1.mono (by simp))
  have gc := set_cell
  have gf : ∀ (X : World) (i o : Nat) (v : Value), (X.setCell ⟨w1.heap.size + 1, i, none⟩ v).cell? ⟨w.heap.size, o, none⟩ = X.cell? ⟨w.heap.size, o, none⟩ := fun X i o v => set_far X _ _ i o v (by omega)
  have H2 := Lib.hid (fun (w2 : World) (hb : RowKit.Below w1.heap.size w1 w2) => readGood (some ⟨g, o + 3, none⟩) (cb - 1) 3 t4 t5 t6 [] w2 rfl (by omega) (by omega) S1.out g4 g5 g6 k4 k5 k6 ((tk_tail hB).below hb))
  clear hc hb1
  go_wp2_with fail
  have hw3 : RowKit.Below w1.heap.size w1 ((w1.alloc (.cells #[.string t0.text, .string t2.text] 23)).alloc (.cells #[.int .i64 2, .string t0.text, .string t2.text, .string ⟨#[]⟩, .string ⟨#[]⟩, .string ⟨#[]⟩, .string ⟨#[]⟩, .string ⟨#[]⟩, .string ⟨#[]⟩] 72)) := ((Below.refl _ _).alloc (Nat.le_refl _) _).alloc (by simp) _
  refine (H2.out _ hw3).mono ?_
  rintro e w2 ⟨B2, cb2, rfl, hcb2, hB2, hb2, hf2⟩
  have z3 := hb2.size
  simp only [World.size_alloc] at z3
  have bS0 := heap_alloc_new (w1.alloc (.cells #[.string t0.text, .string t2.text] 23)) (.cells #[.int .i64 2, .string t0.text, .string t2.text, .string ⟨#[]⟩, .string ⟨#[]⟩, .string ⟨#[]⟩, .string ⟨#[]⟩, .string ⟨#[]⟩, .string ⟨#[]⟩] 72)
  rw [World.size_alloc] at bS0
  have bS := blk_below bS0 hb2 (by simp)
  have bR2 := blk_below bR (hw3.trans (hb2.mono (by simp; omega))) (by omega)
  have hbw2 := hb0.trans ((hw3.trans (hb2.mono (by simp; omega))).mono (by omega : w.heap.size ≤ w1.heap.size))
  have hcS := fun o => Lib.cell_of_heap bS o
  have hfS := blk_frozen bS
  simp only [List.length_cons, List.length_nil] at hcb2
  have hcR := fun o => Lib.cell_of_heap bR2 o
  have hfR := blk_frozen bR2
  clear bS0 bS bR bR2 hb2 hB2 hB hw3 hb0
  go_wp2_with fail
  exact bodyPost_ret (v := .agg #[.int .i64 2, .string t0.text, .string t2.text, .string ⟨#[]⟩, .string t4.text, .string t6.text, .string ⟨#[]⟩, .string ⟨#[]⟩, .string ⟨#[]⟩]) (by simp [results, Tryz.results245, go_sem, set9, gf, hcR, z2, z4, z5]) rfl ⟨rfl, (((((((((((hbw2.setCell (by simp; omega) _).setCell (by simp; omega) _).setCell (by simp) _).setCell (by simp) _).setCell (by simp) _).setCell (by simp) _).setCell (by simp) _).setCell (by simp) _).setCell (by simp) _).setCell (by simp) _).setCell (by simp) _)⟩
set_option maxHeartbeats 2000000 in
set_option maxRecDepth 100000 in
theorem statement3 (A : Option Addr) (ca : Nat) (t0 t1 t2 t3 t4 t5 t6 t7 t8 : Tk) (w : World) (hca : 9 ≤ ca) (hs : SmallTk [t0, t1, t2, t3, t4, t5, t6, t7, t8]) (g0 : goodTk t0) (g1 : goodTk t1) (g2 : goodTk t2) (k0 : t0.kind = 1) (k1 : t1.kind = 3) (k2 : t2.kind = 2) (g4 : goodTk t4) (g5 : goodTk t5) (g6 : goodTk t6) (k4 : t4.kind = 1) (k5 : t5.kind = 3) (k6 : t6.kind = 2) (hA : TkAt w A [t0, t1, t2, t3, t4, t5, t6, t7, t8]) :
    Calls Tryz.prog 245 #[.int .i64 3, .slice A 9 ca] w (StmtPost ⟨3, ⟨t0.text, t2.text⟩, noText, ⟨t4.text, t6.text⟩, zeroR, t8.text⟩ w) := by
  have H1 := Lib.hid (fun (w1 : World) (hb : RowKit.Below w.heap.size w w1) => readGood A ca 9 t0 t1 t2 [t3, t4, t5, t6, t7, t8] w1 rfl (by omega) hca hs g0 g1 g2 k0 k1 k2 (hA.below hb))
  have S1 : Hid (SmallTk [t4, t5, t6, t7, t8]) := Lib.hid (small_drop hs 4)
  clear hA hs
  go_enter Tryz.func245, Tryz.ntmps245
  go_wp2_with fail
  refine (H1.out _ ((Below.refl _ _).alloc (Nat.le_refl _) _)).mono ?_
  rintro e w1 ⟨B, cb, rfl, hcb, hB, hb1, _⟩
  obtain ⟨g, o, rfl, hg, hc⟩ := hB (by simp)
  have z1 := hb1.size
  simp only [World.size_alloc] at z1
  have bR := blk_below (heap_alloc_new w (.cells #[.int .i64 0, .string ⟨#[]⟩, .string ⟨#[]⟩, .string ⟨#[]⟩, .string ⟨#[]⟩, .string ⟨#[]⟩, .string ⟨#[]⟩, .string ⟨#[]⟩, .string ⟨#[]⟩] 72)) hb1 (by simp)
  simp only [List.length_cons, List.length_nil] at hcb
  have c1 : (1 : Int) ≤ cb := by omega
  have c2 : ¬ cb = 1 := by omega
  have c3 : ¬ cb - 1 = 0 := by omega
  have c4 : ¬ cb ≤ 1 := by omega
  have z2 : w.heap.size < w1.heap.size := by omega
  have z4 : w.heap.size < w1.heap.size + 1 := by omega
  have z5 : w.heap.size < w1.heap.size + 1 + 1 := by omega
  have hb0 := ((Below.refl w.heap.size w).alloc (Nat.le_refl _) (.cells #[.int .i64 0, .string ⟨#[]⟩, .string ⟨#[]⟩, .string ⟨#[]⟩, .string ⟨#[]⟩, .string ⟨#[]⟩, .string ⟨#[]⟩, .string ⟨#[]⟩, .string ⟨#[]⟩] 72)).trans (hb1.mono (by simp))
  have gc := set_cell
  have gf : ∀ (X : World) (i o : Nat) (v : Value), (X.setCell ⟨w1.heap.size + 1, i, none⟩ v).cell? ⟨w.heap.size, o, none⟩ = X.cell? ⟨w.heap.size, o, none⟩ := fun X i o v => set_far X _ _ i o v (by omega)
  have H2 := Lib.hid (fun (w2 : World) (hb : RowKit.Below w1.heap.size w1 w2) => readGood (some ⟨g, o + 3, none⟩) (cb - 1) 5 t4 t5 t6 [t7, t8] w2 rfl (by omega) (by omega) S1.out g4 g5 g6 k4 k5 k6 ((tk_tail hB).below hb))
  clear hc hb1
  go_wp2_with fail
  have hw3 : RowKit.Below w1.heap.size w1 ((w1.alloc (.cells #[.string t0.text, .string t2.text] 23)).alloc (.cells #[.int .i64 3, .string t0.text, .string t2.text, .string ⟨#[]⟩, .string ⟨#[]⟩, .string ⟨#[]⟩, .string ⟨#[]⟩, .string ⟨#[]⟩, .string ⟨#[]⟩] 72)) := ((Below.refl _ _).alloc (Nat.le_refl _) _).alloc (by simp) _
  refine (H2.out _ hw3).mono ?_
  rintro e w2 ⟨B2, cb2, rfl, hcb2, hB2, hb2, hf2⟩
  have z3 := hb2.size
  simp only [World.size_alloc] at z3
  have bS0 := heap_alloc_new (w1.alloc (.cells #[.string t0.text, .string t2.text] 23)) (.cells #[.int .i64 3, .string t0.text, .string t2.text, .string ⟨#[]⟩, .string ⟨#[]⟩, .string ⟨#[]⟩, .string ⟨#[]⟩, .string ⟨#[]⟩, .string ⟨#[]⟩] 72)
  rw [World.size_alloc] at bS0
  have bS := blk_below bS0 hb2 (by simp)
  have bR2 := blk_below bR (hw3.trans (hb2.mono (by simp; omega))) (by omega)
  have hbw2 := hb0.trans ((hw3.trans (hb2.mono (by simp; omega))).mono (by omega : w.heap.size ≤ w1.heap.size))
  have hcS := fun o => Lib.cell_of_heap bS o
  have hfS := blk_frozen bS
  simp only [List.length_cons, List.length_nil] at hcb2
  obtain ⟨gg, oo, rfl, hgg, hcc⟩ := hB2 (by simp)
  have hgf := hf2 gg oo rfl
  simp only [World.size_alloc] at hgf
  obtain ⟨_, x8, _⟩ := hcc 1 (by simp)
  simp only [List.getElem_cons_succ, List.getElem_cons_zero] at x8
  have x8' : ∀ (i : Nat) (v : Value) (j : Nat) (u : Value), ((w2.setCell ⟨w1.heap.size + 1, i, none⟩ v).setCell ⟨w1.heap.size + 1, j, none⟩ u).cell? ⟨gg, oo + 3 + 1, none⟩ = some (.string t8.text) := fun i v j u => by
    rw [set_far _ _ _ _ _ _ (by omega), set_far _ _ _ _ _ _ (by omega)]; exact x8
  have hcR := fun o => Lib.cell_of_heap bR2 o
  have hfR := blk_frozen bR2
  clear bS0 bS bR bR2 hb2 hB2 hB hw3 hb0 hcc
  go_wp2_with fail
  exact bodyPost_ret (v := .agg #[.int .i64 3, .string t0.text, .string t2.text, .string ⟨#[]⟩, .string t4.text, .string t6.text, .string ⟨#[]⟩, .string ⟨#[]⟩, .string t8.text]) (by simp [results, Tryz.results245, go_sem, set9, gf, hcR, z2, z4, z5]) rfl ⟨rfl, ((((((((((((hbw2.setCell (by simp; omega) _).setCell (by simp; omega) _).setCell (by simp; omega) _).setCell (by simp) _).setCell (by simp) _).setCell (by simp) _).setCell (by simp) _).setCell (by simp) _).setCell (by simp) _).setCell (by simp) _).setCell (by simp) _).setCell (by simp) _)⟩
set_option maxHeartbeats 2000000 in
set_option maxRecDepth 100000 in
theorem statement4 (A : Option Addr) (ca : Nat) (t0 t1 t2 t3 t4 t5 t6 t7 t8 t9 t10 : Tk) (w : World) (hca : 11 ≤ ca) (hs : SmallTk [t0, t1, t2, t3, t4, t5, t6, t7, t8, t9, t10]) (g0 : goodTk t0) (g1 : goodTk t1) (g2 : goodTk t2) (k0 : t0.kind = 1) (k1 : t1.kind = 3) (k2 : t2.kind = 2) (g4 : goodTk t4) (g5 : goodTk t5) (g6 : goodTk t6) (k4 : t4.kind = 1) (k5 : t5.kind = 3) (k6 : t6.kind = 2) (g8 : goodTk t8) (g9 : goodTk t9) (g10 : goodTk t10) (k8 : t8.kind = 1) (k9 : t9.kind = 3) (k10 : t10.kind = 2) (hA : TkAt w A [t0, t1, t2, t3, t4, t5, t6, t7, t8, t9, t10]) :
    Calls Tryz.prog 245 #[.int .i64 4, .slice A 11 ca] w (StmtPost ⟨4, ⟨t0.text, t2.text⟩, noText, ⟨t4.text, t6.text⟩, ⟨t8.text, t10.text⟩, noText⟩ w) := by
  have H1 := Lib.hid (fun (w1 : World) (hb : RowKit.Below w.heap.size w w1) => readGood A ca 11 t0 t1 t2 [t3, t4, t5, t6, t7, t8, t9, t10] w1 rfl (by omega) hca hs g0 g1 g2 k0 k1 k2 (hA.below hb))
  have S1 : Hid (SmallTk [t4, t5, t6, t7, t8, t9, t10]) := Lib.hid (small_drop hs 4)
  have S2 : Hid (SmallTk [t8, t9, t10]) := Lib.hid (small_drop hs 8)
  clear hA hs
  go_enter Tryz.func245, Tryz.ntmps245
  go_wp2_with fail
  refine (H1.out _ ((Below.refl _ _).alloc (Nat.le_refl _) _)).mono ?_
  rintro e w1 ⟨B, cb, rfl, hcb, hB, hb1, _⟩
  obtain ⟨g, o, rfl, hg, hc⟩ := hB (by simp)
  have z1 := hb1.size
  simp only [World.size_alloc] at z1
  have bR := blk_below (heap_alloc_new w (.cells #[.int .i64 0, .string ⟨#[]⟩, .string ⟨#[]⟩, .string ⟨#[]⟩, .string ⟨#[]⟩, .string ⟨#[]⟩, .string ⟨#[]⟩, .string ⟨#[]⟩, .string ⟨#[]⟩] 72)) hb1 (by simp)
  simp only [List.length_cons, List.length_nil] at hcb
  have c1 : (1 : Int) ≤ cb := by omega
  have c2 : ¬ cb = 1 := by omega
  have c3 : ¬ cb - 1 = 0 := by omega
  have c4 : ¬ cb ≤ 1 := by omega
  have z2 : w.heap.size < w1.heap.size := by omega
  have z4 : w.heap.size < w1.heap.size + 1 := by omega
  have z5 : w.heap.size < w1.heap.size + 1 + 1 := by omega
  have hb0 := ((Below.refl w.heap.size w).alloc (Nat.le_refl _) (.cells #[.int .i64 0, .string ⟨#[]⟩, .string ⟨#[]⟩, .string ⟨#[]⟩, .string ⟨#[]⟩, .string ⟨#[]⟩, .string ⟨#[]⟩, .string ⟨#[]⟩, .string ⟨#[]⟩] 72)).trans (hb1.mono (by simp))
  have gc := set_cell
  have gf : ∀ (X : World) (i o : Nat) (v : Value), (X.setCell ⟨w1.heap.size + 1, i, none⟩ v).cell? ⟨w.heap.size, o, none⟩ = X.cell? ⟨w.heap.size, o, none⟩ := fun X i o v => set_far X _ _ i o v (by omega)
  have H2 := Lib.hid (fun (w2 : World) (hb : RowKit.Below w1.heap.size w1 w2) => readGood (some ⟨g, o + 3, none⟩) (cb - 1) 7 t4 t5 t6 [t7, t8, t9, t10] w2 rfl (by omega) (by omega) S1.out g4 g5 g6 k4 k5 k6 ((tk_tail hB).below hb))
  clear hc hb1
  go_wp2_with fail
  have hw3 : RowKit.Below w1.heap.size w1 ((w1.alloc (.cells #[.string t0.text, .string t2.text] 23)).alloc (.cells #[.int .i64 4, .string t0.text, .string t2.text, .string ⟨#[]⟩, .string ⟨#[]⟩, .string ⟨#[]⟩, .string ⟨#[]⟩, .string ⟨#[]⟩, .string ⟨#[]⟩] 72)) := ((Below.refl _ _).alloc (Nat.le_refl _) _).alloc (by simp) _
  refine (H2.out _ hw3).mono ?_
  rintro e w2 ⟨B2, cb2, rfl, hcb2, hB2, hb2, hf2⟩
  have z3 := hb2.size
  simp only [World.size_alloc] at z3
  have bS0 := heap_alloc_new (w1.alloc (.cells #[.string t0.text, .string t2.text] 23)) (.cells #[.int .i64 4, .string t0.text, .string t2.text, .string ⟨#[]⟩, .string ⟨#[]⟩, .string ⟨#[]⟩, .string ⟨#[]⟩, .string ⟨#[]⟩, .string ⟨#[]⟩] 72)
  rw [World.size_alloc] at bS0
  have bS := blk_below bS0 hb2 (by simp)
  have bR2 := blk_below bR (hw3.trans (hb2.mono (by simp; omega))) (by omega)
  have hbw2 := hb0.trans ((hw3.trans (hb2.mono (by simp; omega))).mono (by omega : w.heap.size ≤ w1.heap.size))
  have hcS := fun o => Lib.cell_of_heap bS o
  have hfS := blk_frozen bS
  simp only [List.length_cons, List.length_nil] at hcb2
  obtain ⟨gg, oo, rfl, hgg, hcc⟩ := hB2 (by simp)
  have hgf := hf2 gg oo rfl
  simp only [World.size_alloc] at hgf
  have d1 : (1 : Int) ≤ cb2 := by omega
  have d2 : ¬ cb2 = 1 := by omega
  have d3 : ¬ cb2 - 1 = 0 := by omega
  have d4 : ¬ cb2 ≤ 1 := by omega
  have hw4 : RowKit.Below (w1.heap.size + 1) w2 ((w2.setCell ⟨w1.heap.size + 1, 4, none⟩ (.string t4.text)).setCell ⟨w1.heap.size + 1, 5, none⟩ (.string t6.text)) := ((Below.refl _ _).setCell (by simp) _).setCell (by simp) _
  have ht4 : TkAt ((w2.setCell ⟨w1.heap.size + 1, 4, none⟩ (.string t4.text)).setCell ⟨w1.heap.size + 1, 5, none⟩ (.string t6.text)) (some ⟨gg, oo + 3, none⟩) [t8, t9, t10] := tk_set (tk_set (tk_tail hB2) (by intro g' o' e; injection e with e; injection e with e1 e2; omega) _ _) (by intro g' o' e; injection e with e; injection e with e1 e2; omega) _ _
  have H3 := Lib.hid (readGood (some ⟨gg, oo + 3, none⟩) (cb2 - 1) 3 t8 t9 t10 [] ((w2.setCell ⟨w1.heap.size + 1, 4, none⟩ (.string t4.text)).setCell ⟨w1.heap.size + 1, 5, none⟩ (.string t6.text)) rfl (by omega) (by omega) S2.out g8 g9 g10 k8 k9 k10 ht4)
  have bS4 := blk_set (blk_set bS 4 (.string t4.text)) 5 (.string t6.text)
  have bR4 := blk_below bR2 hw4 (by omega)
  have hcR0 := fun o => Lib.cell_of_heap bR2 o
  have hfR0 := blk_frozen bR2
  clear bS0 hB2 hB hw3 hb0 hcc ht4
  go_wp2_with fail
  refine H3.out.mono ?_
  rintro e w3 ⟨B3, cb3, rfl, hcb3, hB3, hb3, _⟩
  have z6 := hb3.size
  rw [set_size, set_size] at z6
  have hk3 := hb3.mono (B' := w1.heap.size + 1 + 1) (by rw [set_size, set_size]; omega)
  have bS5 := blk_below bS4 hk3 (by omega)
  have bR5 := blk_below bR4 hk3 (by omega)
  have hbw3 := hbw2.trans ((hw4.mono (by omega : w.heap.size ≤ w1.heap.size + 1)).trans (hk3.mono (by omega)))
  clear hcS hfS hcR0 hfR0 bS bS4 bR bR2 bR4 hb3 hk3 hw4 hbw2 hb2
  have hcS := fun o => Lib.cell_of_heap bS5 o
  have hfS := blk_frozen bS5
  have hcR := fun o => Lib.cell_of_heap bR5 o
  have hfR := blk_frozen bR5
  clear bS5 bR5
  go_wp2_with fail
  exact bodyPost_ret (v := .agg #[.int .i64 4, .string t0.text, .string t2.text, .string ⟨#[]⟩, .string t4.text, .string t6.text, .string t8.text, .string t10.text, .string ⟨#[]⟩]) (by simp [results, Tryz.results245, go_sem, set9, gf, hcR, z2, z4, z5]) rfl ⟨rfl, (((((((((((hbw3.setCell (by simp; omega) _).setCell (by simp; omega) _).setCell (by simp) _).setCell (by simp) _).setCell (by simp) _).setCell (by simp) _).setCell (by simp) _).setCell (by simp) _).setCell (by simp) _).setCell (by simp) _).setCell (by simp) _)⟩
end Go.Proofs.YtkmonmpfbchffaaGreat.SynV
/- A line's tokens read as those of one kind, by contract. -/
namespace Go.Proofs.YtkmonmpfbchffaaGreat.QryB
set_option linter.unusedVariables false
set_option linter.unusedSimpArgs false
open Go.RowKit Go.Sort Go.Proofs Go.Proofs.YtkmonmpfbchffaaGreat.Plain Go.Proofs.YtkmonmpfbchffaaGreat.SynP Go.Proofs.YtkmonmpfbchffaaGreat.SynQ Go.Proofs.YtkmonmpfbchffaaGreat.TabP Go.Proofs.YtkmonmpfbchffaaGreat.Tab1 Go.Proofs.YtkmonmpfbchffaaGreat.Grown Go.Proofs.YtkmonmpfbchffaaGreat.SynA Go.Proofs.YtkmonmpfbchffaaGreat.SynC Go.Proofs.YtkmonmpfbchffaaGreat.SynR Go.Proofs.YtkmonmpfbchffaaGreat.SynS Go.Proofs.YtkmonmpfbchffaaGreat.SynV Go.Proofs.YtkmonmpfbchffaaGreat.QryP Go.Proofs.YtkmonmpfbchffaaGreat.Qry4 Go.Proofs.YtkmonmpfbchffaaGreat.Qry5 Go.Proofs.YtkmonmpfbchffaaGreat.Qry6 Go.Proofs.YtkmonmpfbchffaaGreat.Qry7 Go.Proofs.YtkmonmpfbchffaaGreat.QryA
set_option linter.unusedVariables false
set_option linter.unusedSimpArgs false
def textAt (L : List Tk) (k : Nat) : ByteArray := ((L[k]?).map Tk.text).getD noText
/-- The query, how many tokens go on so, and why it is none (0, 2, 3, 5: OK, ErrForm, ErrEnd, ErrMany). -/
def readQ (k : Int) (L : List Tk) : Qy × Nat × Int :=
  let n := agreeF L (shapeF k)
  if n = (shapeF k).length then
    let r := if hasWk k then readW (L.drop n) [] else ([], 0, false)
    let q : Qy := ⟨k, ⟨textAt L 1, textAt L 3⟩, if hasBk k then ⟨textAt L (n - 3), textAt L (n - 1)⟩ else zeroR, r.1⟩
    (q, n + r.2.1, if r.2.2 then 5 else if n + r.2.1 < L.length then 2 else if q.right then 0 else 3)
  else (⟨k, zeroR, zeroR, []⟩, n, if n < L.length then 2 else 3)
def ReadPost (r : Qy × Nat × Int) (w : World) (e : Ending) (w' : World) : Prop := ∃ A c, e = .returned (.tuple #[r.1.val A c, .int .i64 r.2.1, .int .i64 r.2.2]) ∧ SRow w' A r.1.who ∧ (∀ g o, A = some ⟨g, o, none⟩ → w.heap.size ≤ g) ∧ Below w.heap.size w w'
theorem read_no_eq {k : Int} {L : List Tk} (h : agreeF L (shapeF k) ≠ (shapeF k).length) : readQ k L = (⟨k, zeroR, zeroR, []⟩, agreeF L (shapeF k), if agreeF L (shapeF k) < L.length then 2 else 3) := by
  unfold readQ
  simp only []
  rw [if_neg h]
theorem zero_right (k : Int) : Qy.right ⟨k, zeroR, zeroR, []⟩ = false := by
  unfold Qy.right
  have : zeroR.ok = false := by decide +kernel
  rw [this]; rfl
theorem shape_len (k : Int) : (shapeF k).length ≤ 20 := by
  unfold shapeF roleF wordsL
  simp
  (repeat' split) <;> simp
theorem some_at {X : World} {n : Nat} (h : (X.cell? ⟨n, 5, none⟩).isSome = true) (i : Nat) (hi : i ≤ 5) : ∃ u, X.cell? ⟨n, i, none⟩ = some u := by
  unfold World.cell? at *
  cases hx : X.heap[n]? with
  | none => rw [hx] at h; simp at h
  | some x =>
    rw [hx] at h
    cases x with
    | cells c e f =>
      simp at h ⊢
      exact ⟨_, Array.getElem?_eq_getElem (by omega)⟩
    | _ => simp at h
set_option maxHeartbeats 1000000 in
/-- Six stores into a block of six cells. -/
theorem set6 (X : World) (n : Nat) (v0 v1 v2 v3 v4 v5 : Value) (o : Nat) (ho : o < 6) (h : (X.cell? ⟨n, 5, none⟩).isSome = true) : ((((((X.setCell ⟨n, 0, none⟩ v0).setCell ⟨n, 1, none⟩ v1).setCell ⟨n, 2, none⟩ v2).setCell ⟨n, 3, none⟩ v3).setCell ⟨n, 4, none⟩ v4).setCell ⟨n, 5, none⟩ v5).cell? ⟨n, o, none⟩ = (#[v0, v1, v2, v3, v4, v5] : Array Value)[o]? := by
  obtain ⟨u0, h0⟩ := some_at h 0 (by omega)
  obtain ⟨u1, h1⟩ := some_at h 1 (by omega)
  obtain ⟨u2, h2⟩ := some_at h 2 (by omega)
  obtain ⟨u3, h3⟩ := some_at h 3 (by omega)
  obtain ⟨u4, h4⟩ := some_at h 4 (by omega)
  obtain ⟨u5, h5⟩ := some_at h 5 (by omega)
  match o, ho with
  | 0, _ => simp [set_cell, h0, h1, h2, h3, h4, h5]
  | 1, _ => simp [set_cell, h0, h1, h2, h3, h4, h5]
  | 2, _ => simp [set_cell, h0, h1, h2, h3, h4, h5]
  | 3, _ => simp [set_cell, h0, h1, h2, h3, h4, h5]
  | 4, _ => simp [set_cell, h0, h1, h2, h3, h4, h5]
  | 5, _ => simp [set_cell, h0, h1, h2, h3, h4, h5]
theorem set6_far (X : World) (n g i : Nat) (v0 v1 v2 v3 v4 v5 : Value) (h : n ≠ g) : ((((((X.setCell ⟨n, 0, none⟩ v0).setCell ⟨n, 1, none⟩ v1).setCell ⟨n, 2, none⟩ v2).setCell ⟨n, 3, none⟩ v3).setCell ⟨n, 4, none⟩ v4).setCell ⟨n, 5, none⟩ v5).cell? ⟨g, i, none⟩ = X.cell? ⟨g, i, none⟩ := by
  rw [set_far _ _ _ _ _ _ h, set_far _ _ _ _ _ _ h, set_far _ _ _ _ _ _ h, set_far _ _ _ _ _ _ h, set_far _ _ _ _ _ _ h, set_far _ _ _ _ _ _ h]
theorem srow_set {w : World} {A : Option Addr} {T : List Str} (h : SRow w A T) {b : Nat} (hb : ∀ g o, A = some ⟨g, o, none⟩ → b ≠ g) (i : Nat) (v : Value) : SRow (w.setCell ⟨b, i, none⟩ v) A T := fun hp => by
  obtain ⟨g, o, e, hg, hc⟩ := h hp
  exact ⟨g, o, e, by rw [set_size]; exact hg, fun j hj => (set_far _ _ _ _ _ _ (hb g o e)).trans (hc j hj)⟩
def zero6 : Obj := .cells #[.int .i64 0, .string ⟨#[]⟩, .string ⟨#[]⟩, .string ⟨#[]⟩, .string ⟨#[]⟩, .slice none 0 0] 26
def kind6 (k : Int) : Obj := .cells #[.int .i64 k, .string ⟨#[]⟩, .string ⟨#[]⟩, .string ⟨#[]⟩, .string ⟨#[]⟩, .slice none 0 0] 26
/-- The two boxes behind the calls of shape and agree. -/
structure Boxes (k : Int) (w w2 : World) : Prop where
  res : w2.heap[w.heap.size]? = some (.cells #[.int .i64 0, .string ⟨#[]⟩, .string ⟨#[]⟩, .string ⟨#[]⟩, .string ⟨#[]⟩, .slice none 0 0] 26 (0, 0))
  box : w2.heap[w.heap.size + 1]? = some (.cells #[.int .i64 k, .string ⟨#[]⟩, .string ⟨#[]⟩, .string ⟨#[]⟩, .string ⟨#[]⟩, .slice none 0 0] 26 (0, 0))
  below : RowKit.Below w.heap.size w w2
  size : w.heap.size + 1 < w2.heap.size
theorem boxes {k : Int} {w w1 w2 : World} (h1 : RowKit.Below ((w.alloc zero6).alloc (kind6 k)).heap.size ((w.alloc zero6).alloc (kind6 k)) w1) (h2 : Grew w1 w2) : Boxes k w w2 := by
  have h := h1.trans (h2.below.mono h1.size)
  have hz := h.size
  simp only [World.size_alloc] at hz
  have r := heap_alloc_new (w.alloc zero6) (kind6 k)
  rw [World.size_alloc] at r
  refine ⟨?_, ?_, (((Below.refl _ _).alloc (Nat.le_refl _) _).alloc (by simp) _).trans (h.mono (by simp; omega)), by omega⟩
  · exact (h.block _ (by simp; omega)).trans ((Below.heap_alloc _ _ _ (by simp)).trans (heap_alloc_new w zero6))
  · exact (h.block _ (by simp)).trans r
set_option maxHeartbeats 2000000 in
set_option maxRecDepth 100000 in
theorem read_no (k : Int) (A : Option Addr) (ca : Nat) (L : List Tk) (w : World) (hL : L.length ≤ 1000) (hA : TkAt w A L) (h : agreeF L (shapeF k) ≠ (shapeF k).length) :
    Calls Tryz.prog 40 #[.int .i64 k, .slice A L.length ca] w (ReadPost (readQ k L) w) := by
  rw [read_no_eq h]
  generalize her : (if agreeF L (shapeF k) < L.length then (2 : Int) else 3) = er
  have HER := Lib.hid her
  have HN := Lib.hid h
  have HA := Lib.hid hA
  have hle := agreeF_le L (shapeF k)
  have hsl := shape_len k
  have HS := Lib.hid (Qry7.shape k ⟨#[]⟩ ⟨#[]⟩ ⟨#[]⟩ ⟨#[]⟩ none 0 0)
  have HG := Lib.hid (fun (V : Option Addr) (cv : Nat) (vs : List Value) (w' : World) (hb : RowKit.Below w.heap.size w w') (hv : VRow w' V vs) (hf : FnsAt w' vs (shapeF k)) => Qry5.agree A ca L V cv vs (shapeF k) w' hL (by omega) (HA.out.below hb) hv hf)
  clear hA h her
  go_enter Tryz.func40, Tryz.ntmps40
  go_wp2_with fail
  refine (HS.out _).mono ?_
  rintro e w1 ⟨v1, vs1, rfl, hown, hfn, hb1⟩
  obtain ⟨V, cv, rfl, _, hvr⟩ := VRow.of_own hown
  have hbw : RowKit.Below w.heap.size w w1 := (((Below.refl _ _).alloc (Nat.le_refl _) _).alloc (by simp) _).trans (hb1.mono (by simp; omega))
  have HGG := Lib.hid (HG.out V cv vs1 w1 hbw hvr hfn)
  have HB1 := Lib.hid hb1
  clear hown hfn hvr hbw hb1 HA
  go_wp2_with fail
  refine HGG.out.mono ?_
  rintro e w2 ⟨rfl, hg⟩
  have hbx := boxes (k := k) HB1.out hg
  generalize hn : agreeF L (shapeF k) = n at *
  generalize hm : (shapeF k).length = m at *
  have hnm := HN.out
  have d1 : ((n : Int) == m) = false := by simp; omega
  clear hg HGG HG HS hn hm HB1 hnm
  have bR := hbx.res
  have bQ := hbx.box
  have HB2 := Lib.hid hbx.below
  have z2 := hbx.size
  have hcR := fun o => Lib.cell_of_heap bR o
  have hfR := blk_frozen bR
  have hcQ := fun o => Lib.cell_of_heap bQ o
  have z3 : w.heap.size < w2.heap.size := by omega
  have HZ := Lib.hid (show Qy.val ⟨k, zeroR, zeroR, []⟩ none 0 = .agg #[.int .i64 k, .string ⟨#[]⟩, .string ⟨#[]⟩, .string ⟨#[]⟩, .string ⟨#[]⟩, .slice none 0 0] from rfl)
  by_cases hlt : n < L.length
  · have he : er = 2 := by have := HER.out; rw [if_pos hlt] at this; exact this.symm
    subst he
    clear HER hbx bR bQ
    have gc := set_cell
    go_wp2_with fail
    refine bodyPost_ret (v := .tuple #[.agg #[.int .i64 k, .string ⟨#[]⟩, .string ⟨#[]⟩, .string ⟨#[]⟩, .string ⟨#[]⟩, .slice none 0 0], .int .i64 n, .int .i64 2]) (by simp [results, Tryz.results40, go_sem, set6, hcR]) rfl ⟨none, 0, by rw [HZ.out], (fun h => by simp at h), (fun g o e => by cases e), ?_⟩
    exact (((((HB2.out.setCell (by simp) _).setCell (by simp) _).setCell (by simp) _).setCell (by simp) _).setCell (by simp) _).setCell (by simp) _
  · have he : er = 3 := by have := HER.out; rw [if_neg hlt] at this; exact this.symm
    subst he
    have HR := Lib.hid (Qry2.right k ⟨#[]⟩ ⟨#[]⟩ ⟨#[]⟩ ⟨#[]⟩ none 0 [] w2 ⟨⟨Nat.zero_le _, Nat.zero_le _⟩, ⟨Nat.zero_le _, Nat.zero_le _⟩, Nat.zero_le _, fun s h => by simp at h⟩ (fun h => by simp at h))
    have HF := Lib.hid (zero_right k)
    clear HER
    go_wp2_with fail
    refine HR.out.mono ?_
    rintro e w3 ⟨rfl, hb3⟩
    have hf' := HF.out
    unfold zeroR noText at hf'
    rw [hf']
    have bR3 := blk_below bR hb3 (by omega)
    have bQ3 := blk_below bQ hb3 (by omega)
    have HB3 := Lib.hid (HB2.out.trans (hb3.mono (by omega)))
    clear hcR hfR hcQ bR bQ hb3 hbx hf'
    have hcR := fun o => Lib.cell_of_heap bR3 o
    have hfR := blk_frozen bR3
    have hcQ := fun o => Lib.cell_of_heap bQ3 o
    have gc := set_cell
    clear bR3 bQ3
    go_wp2_with fail
    refine bodyPost_ret (v := .tuple #[.agg #[.int .i64 k, .string ⟨#[]⟩, .string ⟨#[]⟩, .string ⟨#[]⟩, .string ⟨#[]⟩, .slice none 0 0], .int .i64 n, .int .i64 3]) (by simp [results, Tryz.results40, go_sem, set6, hcR]) rfl ⟨none, 0, by rw [HZ.out], (fun h => by simp at h), (fun g o e => by cases e), ?_⟩
    exact (((((HB3.out.setCell (by simp) _).setCell (by simp) _).setCell (by simp) _).setCell (by simp) _).setCell (by simp) _).setCell (by simp) _
end Go.Proofs.YtkmonmpfbchffaaGreat.QryB
/- Plain mathematics: what a line's tokens are asked as, kind by kind. -/
namespace Go.Proofs.YtkmonmpfbchffaaGreat.QryC
set_option linter.unusedVariables false
set_option linter.unusedSimpArgs false
open Go.RowKit Go.Sort Go.Proofs.YtkmonmpfbchffaaGreat.Plain Go.Proofs.YtkmonmpfbchffaaGreat.SynP Go.Proofs.YtkmonmpfbchffaaGreat.TabP Go.Proofs.YtkmonmpfbchffaaGreat.SynR Go.Proofs.YtkmonmpfbchffaaGreat.QryP Go.Proofs.YtkmonmpfbchffaaGreat.Qry4 Go.Proofs.YtkmonmpfbchffaaGreat.Qry5 Go.Proofs.YtkmonmpfbchffaaGreat.Qry7 Go.Proofs.YtkmonmpfbchffaaGreat.QryA Go.Proofs.YtkmonmpfbchffaaGreat.QryB
def zeroQ : Qy := ⟨0, zeroR, zeroR, []⟩
/-- Where the n-th token begins, or the place behind the last one. -/
def placeOf (L : List Tk) (n : Nat) : Nat := if n < L.length then SynQ.colAt L n else SynQ.behindOf L
/-- The kinds behind the first k, with how far was read, and why it is none. -/
def goQ (L : List Tk) : Nat → Nat → Nat → Int → Qy × Int × Int
  | 0, _, f, y => (zeroQ, placeOf L f, y)
  | m + 1, k, f, y => let r := readQ ((k + 1 : Nat) : Int) L
    if r.2.2 = 0 then (r.1, 0, 0) else if f ≤ r.2.1 then goQ L m (k + 1) r.2.1 r.2.2 else goQ L m (k + 1) f y
def parseQ (L : List Tk) : Qy × Int × Int := goQ L 6 0 0 0
theorem goQ_hit {L : List Tk} {m k f : Nat} {y : Int} (h : (readQ ((k + 1 : Nat) : Int) L).2.2 = 0) : goQ L (m + 1) k f y = ((readQ ((k + 1 : Nat) : Int) L).1, 0, 0) := by
  show (if _ then _ else _) = _
  rw [if_pos h]
theorem goQ_far {L : List Tk} {m k f : Nat} {y : Int} (h : (readQ ((k + 1 : Nat) : Int) L).2.2 ≠ 0) (hf : f ≤ (readQ ((k + 1 : Nat) : Int) L).2.1) : goQ L (m + 1) k f y = goQ L m (k + 1) (readQ ((k + 1 : Nat) : Int) L).2.1 (readQ ((k + 1 : Nat) : Int) L).2.2 := by
  show (if _ then _ else _) = _
  rw [if_neg h, if_pos hf]
theorem goQ_near {L : List Tk} {m k f : Nat} {y : Int} (h : (readQ ((k + 1 : Nat) : Int) L).2.2 ≠ 0) (hf : ¬ f ≤ (readQ ((k + 1 : Nat) : Int) L).2.1) : goQ L (m + 1) k f y = goQ L m (k + 1) f y := by
  show (if _ then _ else _) = _
  rw [if_neg h, if_neg hf]
end Go.Proofs.YtkmonmpfbchffaaGreat.QryC
