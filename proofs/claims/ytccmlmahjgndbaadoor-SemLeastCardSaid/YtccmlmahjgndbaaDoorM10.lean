/- tidy: the rules that are right, in one order, each once: by contract. -/
import Derived.Test.YtccmlmahjgndbaaDoorM09
import Derived.Test.YtccmlmahjgndbaaDoorM05
import Derived.Deep.RegionHeld3
namespace Go.Proofs.YtccmlmahjgndbaaDoor.SemT
set_option linter.unusedVariables false
set_option linter.unusedSimpArgs false
open Go.Shelf Go.RowKit Go.Sort Go.Lib Go.Proofs Go.Proofs.YtccmlmahjgndbaaDoor.Plain Go.Proofs.YtccmlmahjgndbaaDoor.SynP Go.Proofs.YtccmlmahjgndbaaDoor.SynD Go.Proofs.YtccmlmahjgndbaaDoor.SynD7 Go.Proofs.YtccmlmahjgndbaaDoor.TblC Go.Proofs.YtccmlmahjgndbaaDoor.TblV Go.Proofs.YtccmlmahjgndbaaDoor.TblP Go.Proofs.YtccmlmahjgndbaaDoor.TblQ Go.Proofs.YtccmlmahjgndbaaDoor.RuO Go.Proofs.YtccmlmahjgndbaaDoor.RuK Go.Proofs.YtccmlmahjgndbaaDoor.RuD Go.Proofs.YtccmlmahjgndbaaDoor.RuE Go.Proofs.YtccmlmahjgndbaaDoor.SemS
set_option linter.unusedVariables false
set_option linter.unusedSimpArgs false
theorem comp_mem (d : Array Ru) (u : Ru) : ∀ m, m ≤ d.size → (u ∈ compactUpTo d m ↔ ∃ j, j < m ∧ d[j]! = u)
  | 0, _ => by simp [compactUpTo]
  | m + 1, hm => by
    have ih := comp_mem d u m (by omega)
    rw [compactUpTo_succ, List.mem_append, ih]
    constructor
    · rintro (⟨j, hj, e⟩ | h)
      · exact ⟨j, by omega, e⟩
      · split at h
        · simp at h
          exact ⟨m, by omega, h.symm⟩
        · cases h
    · rintro ⟨j, hj, e⟩
      by_cases hjm : j = m
      · subst hjm
        cases hk : keeps d j
        · unfold keeps at hk
          have hk := of_decide_eq_false hk
          simp only [not_or, Classical.not_not] at hk
          exact .inl ⟨j - 1, by omega, by rw [← hk.2]; exact e⟩
        · rw [if_pos rfl]
          right
          simp [e]
      · exact .inl ⟨j, by omega, e⟩
theorem comp_len (d : Array Ru) (m : Nat) : (compactUpTo d m).length ≤ m := by
  unfold compactUpTo
  rw [List.length_map]
  exact Nat.le_trans (List.length_filter_le _ _) (by simp)
theorem sorted_mem {d d' : Array Ru} (hp : PermIn 0 d.size d d') (u : Ru) : u ∈ compactUpTo d' d'.size ↔ u ∈ d.toList := by
  obtain ⟨hz, _, hp⟩ := hp
  rw [show d'.extract 0 d.size = d' by rw [← hz]; simp, show d.extract 0 d.size = d by simp] at hp
  rw [comp_mem d' u _ (Nat.le_refl _), ← hp.mem_iff]
  constructor
  · rintro ⟨j, hj, e⟩
    rw [getElem!_pos d' j hj] at e
    rw [← e]
    simp
  · intro h
    obtain ⟨j, hj, e⟩ := List.getElem_of_mem h
    rw [Array.length_toList] at hj
    refine ⟨j, hj, ?_⟩
    rw [getElem!_pos d' j hj, ← e]
    simp
def TidyPost (n1 n2 : Nat) (L : List Ru) (w : World) (e : Ending) (w' : World) : Prop :=
  ∃ (A : Option Addr) (c : Nat) (T : List Ru), e = .returned (.slice A T.length c) ∧ UG w' A T ∧ Below w.heap.size w w' ∧ T.length ≤ L.length ∧ (∀ u, u ∈ T ↔ u ∈ L ∧ rightU n1 n2 u = true) ∧ (∀ ad, A = some ad → ad.off = 0 ∧ ad.spot = none ∧ w.heap.size ≤ ad.block ∧ ∃ cur, w'.heap[ad.block]? = some (.cells cur 25 (0, 0)))
set_option maxHeartbeats 1000000 in
theorem idxNone (f : Value) (w : World) : Calls Tryd.prog 54 #[.slice none 0 0, f] w fun e w' => e = .returned (.int .i64 (-1)) ∧ w' = w := by
  go_enter Tryd.func54, Tryd.ntmps54
  go_wp2_with fail
  go_loop [8] (fun i => i = .int .i64 0) (fun i => 0)
  case atStart => rfl
  case round =>
    subst hrel
    go_wp2_with fail
    go_ret
    exact ⟨rfl, rfl⟩
theorem delNone (f : Value) (w : World) : Calls Tryd.prog 36 #[.slice none 0 0, f] w fun e w' => e = .returned (.slice none 0 0) ∧ w' = w := by
  have HI := Lib.hid (idxNone f w)
  go_enter Tryd.func36, Tryd.ntmps36
  go_wp2_with fail
  refine HI.out.mono ?_
  rintro e w1 ⟨rfl, rfl⟩
  go_wp2_with fail
  go_ret
  exact ⟨rfl, rfl⟩
theorem two_boxes (w : World) (n1 n2 : Nat) (t : TypeId) : Below w.heap.size w ((w.alloc (.cells #[.int .i64 n1] t)).alloc (.cells #[.int .i64 n2] t)) ∧ ((w.alloc (.cells #[.int .i64 n1] t)).alloc (.cells #[.int .i64 n2] t)).cell? ⟨w.heap.size, 0, none⟩ = some (.int .i64 n1) ∧ ((w.alloc (.cells #[.int .i64 n1] t)).alloc (.cells #[.int .i64 n2] t)).cell? ⟨w.heap.size + 1, 0, none⟩ = some (.int .i64 n2) := by
  refine ⟨((Below.refl _ _).alloc (Nat.le_refl _) _).alloc (by simp) _, ?_, ?_⟩
  · rw [Lib.cell_of_heap (heap_alloc2_old w _ _)]; rfl
  · rw [Lib.cell_of_heap (heap_alloc2_new w _ _)]; rfl
set_option maxHeartbeats 2000000 in
set_option maxRecDepth 100000 in
theorem tidy (n1 n2 : Nat) (g1 : n1 ≤ 1000) (g2 : n2 ≤ 1000) (A : Option Addr) (ca : Nat) (L : List Ru) (w : World) (hL : L.length ≤ 10000) (hA : UG w A L) :
    Calls Tryd.prog 22 #[.int .i64 n1, .int .i64 n2, .slice A L.length ca] w (TidyPost n1 n2 L w) := by
  obtain ⟨hb0, hc1, hc2⟩ := two_boxes w n1 n2 3
  have HCl := Lib.hid (cloneU A ca L _ hL (hA.below hb0))
  have HB0 := Lib.hid hb0
  have HC := Lib.hid (And.intro hc1 hc2)
  have hz0 : ((w.alloc (.cells #[.int .i64 n1] 3)).alloc (.cells #[.int .i64 n2] 3)).heap.size = w.heap.size + 2 := by simp
  clear hb0 hc1 hc2 hA
  go_enter Tryd.func22, Tryd.ntmps22
  go_upto_region 1 with fail
  generalize (w.alloc (.cells #[.int .i64 n1] 3)).alloc (.cells #[.int .i64 n2] 3) = w0 at *
  go_wp2_with fail
  refine HCl.out.mono ?_
  rintro e w1 ⟨v, rfl, hown, hb1⟩
  rcases uholds_own hown with ⟨rfl, rfl⟩ | ⟨g, cap, rfl, hc, hB, hg, hH⟩
  · have HE : Hid (Below w.heap.size w w1) := Lib.hid (HB0.out.trans (hb1.mono (by omega)))
    clear hown hb1 HCl
    go_wp2_with fail
    refine (delNone _ w1).mono ?_
    rintro e w2 ⟨rfl, rfl⟩
    go_wp2_with fail
    refine (AnyF.slices_SortFunc_none laidSort none 0 (.func (.func 40) #[] #[]) w2).mono ?_
    rintro e w3 ⟨rfl, rfl⟩
    go_wp2_with fail
    refine (compNone none 0 _).mono ?_
    rintro e w4 ⟨rfl, rfl⟩
    go_wp2_with fail
    go_ret
    exact ⟨none, 0, [], rfl, fun h => by simp at h, HE.out, by simp, fun u => by simp, fun ad e => by cases e⟩
  · have hcm : cap ≤ maxLen := by
      rcases hown.2 with ⟨e, _⟩ | ⟨g', cap', cur, e, _, _, _, hm, _⟩
      · cases e
      · injection e with _ _ e; rw [e]; exact hm
    have hty1 : ∃ cur, w1.heap[g]? = some (.cells cur 25 (0, 0)) := by
      rcases hown.2 with ⟨e, _⟩ | ⟨g', cap', cur, e, _, hh, _⟩
      · cases e
      · injection e with e _ _
        injection e with e
        injection e with e _ _
        subst e
        exact ⟨cur, hh⟩
    have HTY1 := Lib.hid hty1
    clear hty1
    have HD := Lib.hid (delU g cap L.toArray n1 n2 g1 g2 w.heap.size (w.heap.size + 1) w1 (by simp; omega) (by simpa using hc) hcm hH hg (by omega) (by omega) ((hb1.cell (p := ⟨w.heap.size, 0, none⟩) (by show w.heap.size < _; omega)).trans HC.out.1) ((hb1.cell (p := ⟨w.heap.size + 1, 0, none⟩) (by show w.heap.size + 1 < _; omega)).trans HC.out.2))
    have HE1 : Hid (Below w.heap.size w w1) := Lib.hid (HB0.out.trans (hb1.mono (by omega)))
    have hlz : L.toArray.size = L.length := by simp
    rw [hlz] at HD
    have hgw : w.heap.size ≤ g := by omega
    clear hown hb1 HCl hH hcm HC hlz
    go_wp2_with fail
    refine HD.out.mono ?_
    rintro e w2 ⟨d1, rfl, hd1, hH1, hb2, hz2⟩
    have hd1l : d1.size ≤ L.length := by
      rw [← Array.length_toList, hd1]
      exact List.length_filter_le _ _
    have HS := Lib.hid (sortU g 0 cap d1 w2 hH1 (by omega) (by omega))
    have HE2 : Hid (Below w.heap.size w w2) := Lib.hid (HE1.out.trans (hb2.b.mono hgw))
    have HTY2 : Hid (∃ cur, w2.heap[g]? = some (.cells cur 25 (0, 0))) := Lib.hid (by obtain ⟨cur, h⟩ := HTY1.out; exact hb2.t _ _ h)
    have HH1 := Lib.hid hH1
    have HM1 : Hid (∀ u, u ∈ d1.toList ↔ u ∈ L ∧ rightU n1 n2 u = true) := Lib.hid (fun u => by rw [hd1, List.mem_filter])
    have hg2 : g < w2.heap.size := by omega
    clear hd1 hH1 hb2 HD HE1
    go_wp2_with fail
    refine HS.out.mono ?_
    rintro e w3 ⟨rfl, d', n, os, hp, hs, hw3⟩
    have hz : d'.size = d1.size := hp.1
    have hH3 : HoldsK Ru.cl 6 w3 g 0 d' := by rw [hw3]; exact holdsK_sortWorldK_c Ru.cl 6 w2 g 0 d1 d' n os HH1.out hg2 hz
    have hb3 : BK g w2 w3 := by rw [hw3]; exact bk_sort hg2
    have hgg : g < w3.heap.size := Nat.lt_of_lt_of_le hg2 (by rw [hw3]; exact size_sortWorldK_c Ru.cl 6 w2 g 0 n d' os)
    have HCm := Lib.hid (compU g cap d' w3 hH3 hgg (by omega) (by omega))
    rw [hz] at HCm
    have HMM : Hid (∀ u, u ∈ compactUpTo d' d'.size ↔ u ∈ L ∧ rightU n1 n2 u = true) := Lib.hid (fun u => by rw [sorted_mem hp, HM1.out])
    have HLL : Hid ((compactUpTo d' d'.size).length ≤ L.length) := Lib.hid (Nat.le_trans (comp_len _ _) (by omega))
    have HE3 : Hid (Below w.heap.size w w3) := Lib.hid (HE2.out.trans (hb3.b.mono hgw))
    have HTY3 : Hid (∃ cur, w3.heap[g]? = some (.cells cur 25 (0, 0))) := Lib.hid (by obtain ⟨cur, h⟩ := HTY2.out; exact hb3.t _ _ h)
    clear hw3 hp hs hH3 hb3 HS HM1 HE2 HH1
    go_wp2_with fail
    refine HCm.out.mono ?_
    rintro e w4 ⟨rfl, hrow, hb4, hz4⟩
    have HF : Hid (TidyPost n1 n2 L w (.returned (.slice (some ⟨g, 0, none⟩) (compactUpTo d' d'.size).length cap)) w4) := Lib.hid ⟨_, cap, _, rfl, hrow.ug, HE3.out.trans (hb4.b.mono hgw), HLL.out, HMM.out, fun ad e => by
      injection e with e
      subst e
      obtain ⟨cur, h⟩ := HTY3.out
      exact ⟨rfl, rfl, hgw, hb4.t _ _ h⟩⟩
    rw [hz] at HF
    clear hrow hb4 HCm
    go_wp2_with fail
    go_ret
    exact HF.out
end Go.Proofs.YtccmlmahjgndbaaDoor.SemT
/- Eval's beginning: numbers within bounds, a worklist without anybody, a row of rules gone through, the queue's head. -/
namespace Go.Proofs.YtccmlmahjgndbaaDoor.SemH
set_option linter.unusedVariables false
set_option linter.unusedSimpArgs false
open Go.RowKit Go.Lib Go.Proofs Go.Proofs.YtccmlmahjgndbaaDoor.SetA Go.Proofs.YtccmlmahjgndbaaDoor.SetB Go.Proofs.YtccmlmahjgndbaaDoor.SetC Go.Proofs.YtccmlmahjgndbaaDoor.SetD Go.Proofs.YtccmlmahjgndbaaDoor.SetJ Go.Proofs.YtccmlmahjgndbaaDoor.SetN Go.Proofs.YtccmlmahjgndbaaDoor.SetQ Go.Proofs.YtccmlmahjgndbaaDoor.SetR Go.Proofs.YtccmlmahjgndbaaDoor.TblB Go.Proofs.YtccmlmahjgndbaaDoor.TblC Go.Proofs.YtccmlmahjgndbaaDoor.TblV Go.Proofs.YtccmlmahjgndbaaDoor.TblP Go.Proofs.YtccmlmahjgndbaaDoor.TblQ Go.Proofs.YtccmlmahjgndbaaDoor.SemA Go.Proofs.YtccmlmahjgndbaaDoor.SemB Go.Proofs.YtccmlmahjgndbaaDoor.SemC Go.Proofs.YtccmlmahjgndbaaDoor.SemD Go.Proofs.YtccmlmahjgndbaaDoor.SemE Go.Proofs.YtccmlmahjgndbaaDoor.SemF Go.Proofs.YtccmlmahjgndbaaDoor.SemG
set_option linter.unusedVariables false
set_option linter.unusedSimpArgs false
set_option maxRecDepth 100000 in
theorem within_ (n most : Int) (w : World) : Calls Tryd.prog 19 #[.int .i64 n, .int .i64 most] w fun e w' => e = .returned (.int .i64 (SetA.within n most)) ∧ w = w' := by
  go_enter Tryd.func19, Tryd.ntmps19
  go_wp2
  all_goals
    go_ret
    refine ⟨ret_int ?_, rfl⟩
    unfold SetA.within
    omega
theorem all_in {n : Int} {zs : List Int} (h : allB n zs = true) : ∀ z ∈ zs, 0 ≤ z ∧ z < n := fun z hz => by
  unfold allB at h
  rw [List.all_eq_true] at h
  exact of_decide_eq_true (h z hz)
theorem ok_of_right {P K : Nat} {u : Ru} (h : rightU P K u = true) : Ok (P * K) P K u := by
  unfold rightU at h
  simp only [Bool.and_eq_true] at h
  obtain ⟨h1, h2, h3, h4, h5⟩ := h
  have r := all_in h3
  have r4 := all_in h4 u.who (by simp)
  have r5 := all_in h5 u.via (by simp)
  unfold bareK at h1
  simp only [Bool.or_eq_true, decide_eq_true_eq] at h1
  exact ⟨by omega, r _ (by simp), r _ (by simp), r _ (by simp), r4, r5⟩
def F0 : Frm := ⟨[], [], []⟩
theorem f0_ok (w : World) (vs : List Value) (look : List (List Ru)) (qv : Value) : F0.ok w vs look qv := ⟨(fun p hp => by cases hp), (fun p hp => by cases hp), (fun p hp => by cases hp)⟩
def nilV : Value := .slice none 0 0
theorem rep_eq (n : Nat) : (List.replicate n nilV).toArray = Array.replicate n nilV := by simp
theorem made1 (n : Nat) : madeCells (Value.slice none 0 0).cells n = (Array.replicate n nilV) := by
  rw [← rep_eq]
  apply Array.ext
  · simp [size_madeCells]
  · intro i h1 h2
    simp only [madeCells, Array.getElem_map, Array.getElem_range, List.getElem_toArray, List.getElem_replicate]
    have : (Value.slice none 0 0).cells = #[Value.slice none 0 0] := rfl
    simp [this, nilV, Nat.mod_one]
theorem infoRow : (Tryd.prog.info? 23).map (fun i => (i.zero, i.size, i.bytes)) = some (some (.slice none 0 0), 1, 24) := by kernel_rfl
/-- A worklist without anybody. -/
theorem wq_start {W X : World} (hb : Below W.heap.size W X) {B R n c K mo wk : Nat} (hf : Fam X B R n c (List.replicate (n * 16) 0)) (uB : W.heap.size ≤ B) (uR : W.heap.size ≤ R)
    (hm : X.heap[mo]? = some (.cells #[.pointer (some ⟨B, 0, none⟩), .int .i64 K, .int .i64 0] 50 (0, 0))) (hwk : X.heap[wk]? = some (.cells #[.pointer (some ⟨mo, 0, none⟩), .slice none 0 0, .slice none 0 0] 54 (0, 0))) (um : W.heap.size ≤ mo) (uw : W.heap.size ≤ wk) :
    Wq W ((X.alloc (.cells (Array.replicate n nilV) 23)).setCell ⟨wk, 1, none⟩ (.slice (some ⟨X.heap.size, 0, none⟩) n n)) ⟨wk, mo, B, R, X.heap.size, n, c, K⟩ (SemA.start n) 0 F0 := by
  have hbA := (Below.refl X.heap.size X).alloc (Nat.le_refl _) (.cells (Array.replicate n nilV) 23)
  have hwA := (hbA.block _ (lt_of hwk)).trans hwk
  have hmA := (hbA.block _ (lt_of hm)).trans hm
  have hlA := heap_alloc_new X (.cells (Array.replicate n nilV) 23)
  obtain ⟨cp, hfb⟩ := hf.fb
  obtain ⟨Z, hrb⟩ := hf.rb
  have hk : ∀ {g : Nat} {x : Array Value} {t : TypeId} {f : Nat × Nat}, (X.alloc (.cells (Array.replicate n nilV) 23)).heap[g]? = some (.cells x t f) → 54 ≠ t → ((X.alloc (.cells (Array.replicate n nilV) 23)).setCell ⟨wk, 1, none⟩ (.slice (some ⟨X.heap.size, 0, none⟩) n n)).heap[g]? = (X.alloc (.cells (Array.replicate n nilV) 23)).heap[g]? := fun {g x t f} hx hne =>
    set_other _ _ _ _ (by have := ne_of_type hwA hx hne; omega)
  have hbB := (hbA.block _ (lt_of hfb)).trans hfb
  have hbR := (hbA.block _ (lt_of hrb)).trans hrb
  refine ⟨Nat.zero_le _, List.replicate (n * 16) 0, nilV, List.replicate n nilV, ?_, f0_ok _ _ _ _⟩
  exact {
    bel := set_bel (hb.trans (hbA.mono hb.size)) uw
    fam := (hf.below hbA).keep (hk hbB (by show (_ : Nat) ≠ _; decide)) (hk hbR (by show (_ : Nat) ≠ _; decide))
    inv := SetN.Inv.zero n c hf.c1
    mb := (hk hmA (by show (_ : Nat) ≠ _; decide)).trans hmA
    wb := by rw [heap_setCell_same _ _ _ _ _ _ hwA]; rfl
    lb := by rw [rep_eq]; exact (hk hlA (by show (_ : Nat) ≠ _; decide)).trans hlA
    qu := .inl ⟨rfl, rfl⟩
    lv := by simp
    ll := by simp [SemA.start]
    rows := fun i v hv => by
      rw [List.getElem?_replicate] at hv
      split at hv
      · injection hv with hv
        subst hv
        have e : (SemA.start n).look.getD i [] = [] := getD_rep n i
        rw [e]
        exact World.ownsRow_nil _ _ _ _
      · cases hv
    apart := fun i j v u hv hu hne g hg => by
      rw [List.getElem?_replicate] at hv
      split at hv
      · injection hv with hv
        subst hv
        simp [nilV, Value.ownBlock] at hg
      · cases hv
    up := ⟨uR, um, uw, hb.size, uB⟩ }
/-- A row of rules that isn't the worklist's, gone through. -/
theorem with_row {W w0 w : World} {a : Ad} {s : Sm} {h : Nat} {F : Frm} (hq : Wq W w0 a s h F) (hb : Below w0.heap.size w0 w) {A : Option Addr} {T : List Ru} (hu : UG w A T)
    (hA : ∀ ad, A = some ad → ad.off = 0 ∧ ad.spot = none ∧ w0.heap.size ≤ ad.block ∧ ∃ cur, w.heap[ad.block]? = some (.cells cur 25 (0, 0))) :
    ∃ F' : Frm, Wq W w a s h F' ∧ (∀ w' s', Wq W w' a s' h F' → Wq W w' a s' h F) ∧ ∀ w' s', Wq W w' a s' h F' → UG w' A T := by
  have hq' := Wq.below hq hb
  by_cases hT : 0 < T.length
  · obtain ⟨g, o, rfl, hg, hc⟩ := hu hT
    obtain ⟨ho, _, hge, cur, hcur⟩ := hA _ rfl
    simp only at ho hge hcur
    subst ho
    obtain ⟨h1, M, qv, vs, h2, h3⟩ := hq'
    obtain ⟨_, M0, qv0, vs0, g2, g3⟩ := hq
    have hvs : vs = vs0 := by
      have := (hb.block _ (lt_of g2.lb)).trans g2.lb
      rw [h2.lb] at this
      simp only [Option.some.injEq, Obj.cells.injEq] at this
      simpa using congrArg Array.toList this.1
    refine ⟨⟨(g, T) :: F.rules, F.nums, F.prs⟩, ⟨h1, M, qv, vs, h2, fun p hp => ?_, h3.n, h3.p⟩, ?_, ?_⟩
    · simp only [List.mem_cons] at hp
      rcases hp with rfl | hp
      · refine ⟨⟨cur, hcur⟩, fun j hj k hk => by have := hc j hj k hk; rw [Nat.zero_add] at this; exact this, fun i v hv e => ?_⟩
        rw [hvs] at hv
        have := lt_of (own_blk (g2.rows i v hv) e).2.choose_spec
        omega
      · exact h3.r p hp
    · rintro w' s' ⟨k1, M', qv', vs', k2, k3⟩
      exact ⟨k1, M', qv', vs', k2, fun p hp => k3.r p (by simp [hp]), k3.n, k3.p⟩
    · rintro w' s' ⟨k1, M', qv', vs', k2, k3⟩ hp
      have hS := k3.r (g, T) (by simp)
      obtain ⟨cur', hg'⟩ := hS.ty
      refine ⟨g, 0, rfl, lt_of hg', fun j hj k hk => ?_⟩
      rw [Nat.zero_add]
      exact hS.at_ j hj k hk
  · exact ⟨F, hq', fun _ _ h => h, fun _ _ _ hp => absurd hp hT⟩
/-- The queue's head, and what is behind it. -/
theorem qu_pop {w : World} {base : Nat} {qv : Value} {cur : Pr} {rest : List Pr} (h : Qu w base qv (cur :: rest)) : ∃ g o cap, qv = .slice (some ⟨g, o, none⟩) (rest.length + 1) cap ∧ rest.length + 1 ≤ cap ∧ cap ≤ maxLen ∧
    ∀ w', Qu w' base qv (cur :: rest) → w'.cell? ⟨g, o, none⟩ = some (.int .i64 cur.1) ∧ w'.cell? ⟨g, o + 1, none⟩ = some (.int .i64 cur.2) ∧ (cap = 1 → Qu w' base (.slice (some ⟨g, o, none⟩) 0 0) rest) ∧ (cap ≠ 1 → Qu w' base (.slice (some ⟨g, o + 2, none⟩) rest.length (cap - 1)) rest) := by
  rcases h with ⟨rfl, h0⟩ | ⟨g, o, cap, arr, rfl, hb, hh, hc, hm, hs, hat⟩
  · cases h0
  · simp only [List.length_cons] at hc
    refine ⟨g, o, cap, rfl, hc, hm, fun w' h' => ?_⟩
    rcases h' with ⟨e, _⟩ | ⟨g', o', cap', arr', e, hb', hh', hc', hm', hs', hat'⟩
    · cases e
    · injection e with e1 e2 e3
      injection e1 with e1
      injection e1 with e1 e4 _
      subst e1; subst e3; subst e4
      obtain ⟨a1, a2⟩ := hat' 0 (by simp)
      rw [Nat.zero_mul, Nat.add_zero] at a1 a2
      refine ⟨by rw [Lib.cell_of_heap hh']; exact a1, by rw [Lib.cell_of_heap hh']; exact a2, fun hc1 => ?_, fun hc1 => ?_⟩
      · have hr : rest = [] := List.eq_nil_of_length_eq_zero (by omega)
        subst hr
        exact .inr ⟨g, o, 0, arr', rfl, hb', hh', Nat.le_refl _, Nat.zero_le _, by omega, fun j hj => by simp at hj⟩
      · refine .inr ⟨g, o + 2, cap - 1, arr', rfl, hb', hh', by omega, by omega, by omega, fun j hj => ?_⟩
        obtain ⟨b1, b2⟩ := hat' (j + 1) (by simp; omega)
        have e5 : o + (j + 1) * 2 = o + 2 + j * 2 := by omega
        rw [e5] at b1 b2
        exact ⟨b1, b2⟩
/-- A model in memory. -/
structure MoAt (w : World) (mo B R n P K : Nat) (M : List Nat) (all : List Pr) (st : Nat) : Prop where
  fam : Fam w B R n P M
  inv : SetN.Inv n P M all
  mb : w.heap[mo]? = some (.cells #[.pointer (some ⟨B, 0, none⟩), .int .i64 K, .int .i64 st] 50 (0, 0))
theorem MoAt.below {w w' : World} {mo B R n P K : Nat} {M : List Nat} {all : List Pr} {st : Nat} (h : MoAt w mo B R n P K M all st) (hb : Below w.heap.size w w') : MoAt w' mo B R n P K M all st :=
  ⟨h.fam.below hb, h.inv, (hb.block _ (lt_of h.mb)).trans h.mb⟩
/-- What Eval answers: a model whose sets hold just what follows from the rules that are right. -/
def EvalPost (P K : Nat) (L : List Ru) (w : World) (e : Ending) (w' : World) : Prop :=
  ∃ (mo B R : Nat) (M : List Nat) (all : List Pr) (st : Nat), e = .returned (.pointer (some ⟨mo, 0, none⟩)) ∧ MoAt w' mo B R (P * K) P K M all st ∧ Below w.heap.size w w' ∧ (∀ r x, (r, x) ∈ all ↔ Der K (L.filter (rightU P K)) r x) ∧ st ≤ L.length + P * (P * K + L.length * (2 + 2 * P)) ∧ (L.filter (rightU P K) ≠ [] → 0 < st)
end Go.Proofs.YtccmlmahjgndbaaDoor.SemH
/- Eval, by contract. -/
namespace Go.Proofs.YtccmlmahjgndbaaDoor.SemI
set_option linter.unusedVariables false
set_option linter.unusedSimpArgs false
open Go.RowKit Go.Lib Go.Proofs Go.Proofs.YtccmlmahjgndbaaDoor.SetA Go.Proofs.YtccmlmahjgndbaaDoor.SetB Go.Proofs.YtccmlmahjgndbaaDoor.SetC Go.Proofs.YtccmlmahjgndbaaDoor.SetD Go.Proofs.YtccmlmahjgndbaaDoor.SetJ Go.Proofs.YtccmlmahjgndbaaDoor.SetN Go.Proofs.YtccmlmahjgndbaaDoor.SetQ Go.Proofs.YtccmlmahjgndbaaDoor.SetR Go.Proofs.YtccmlmahjgndbaaDoor.TblB Go.Proofs.YtccmlmahjgndbaaDoor.TblC Go.Proofs.YtccmlmahjgndbaaDoor.TblV Go.Proofs.YtccmlmahjgndbaaDoor.TblP Go.Proofs.YtccmlmahjgndbaaDoor.TblQ Go.Proofs.YtccmlmahjgndbaaDoor.SemA Go.Proofs.YtccmlmahjgndbaaDoor.SemB Go.Proofs.YtccmlmahjgndbaaDoor.SemC Go.Proofs.YtccmlmahjgndbaaDoor.SemD Go.Proofs.YtccmlmahjgndbaaDoor.SemE Go.Proofs.YtccmlmahjgndbaaDoor.SemF Go.Proofs.YtccmlmahjgndbaaDoor.SemG Go.Proofs.YtccmlmahjgndbaaDoor.SemH
set_option linter.unusedVariables false
set_option linter.unusedSimpArgs false
theorem nx {W w1 w2 : World} (h : Below W.heap.size W w1) (hb : Below w1.heap.size w1 w2) : Below W.heap.size W w2 := h.trans (hb.mono h.size)
theorem bounds {P K N : Nat} (hP : P ≤ 64) (hK : K ≤ 64) (hN : N ≤ 1000) : N + P * (P * K + N * (2 + 2 * P)) ≤ 100000000 ∧ N * (2 + 2 * P) ≤ 1000000 := by
  have h1 : P * K ≤ 64 * 64 := Nat.mul_le_mul hP hK
  have h2 : N * (2 + 2 * P) ≤ 1000 * 130 := Nat.mul_le_mul hN (by omega)
  have h3 : P * (P * K + N * (2 + 2 * P)) ≤ 64 * (64 * 64 + 1000 * 130) := Nat.mul_le_mul hP (by omega)
  omega
theorem bd_of {n P K : Nat} {L T : List Ru} {hist : List Pr} {pend cp : List Ru} {y : Int} {s : Sm} (hn : n = P * K) (hP : P ≤ 64) (hK : K ≤ 64) (hT : T.length ≤ 1000) (h : SemA.Inv n P K L T hist pend cp y s) : s.steps ≤ 100000000 ∧ ∀ i : Nat, (s.look.getD i []).length ≤ 1000000 := by
  obtain ⟨b1, b2⟩ := bounds hP hK hT
  exact ⟨Nat.le_trans (h.bound hn) b1, fun i => Nat.le_trans (h.look_len i) b2⟩
/-- The end of Eval: nobody is left to be followed. -/
theorem eval_end {P K : Nat} {L T : List Ru} {w w' : World} {a : Ad} {s : Sm} {h : Nat} {y : Int} (ha : a.n = P * K ∧ a.c = P ∧ a.K = K) (hw : Wq w w' a s h F0) (hi : SemA.Inv (P * K) P K T T (s.all.take h) [] [] y s) (hh : s.all.drop h = [])
    (hTl : T.length ≤ L.length) (hTm : ∀ u, u ∈ T ↔ u ∈ L ∧ rightU P K u = true) : EvalPost P K L w (.returned (.pointer (some ⟨a.mo, 0, none⟩))) w' := by
  obtain ⟨h1, M, qv, vs, hk, _⟩ := hw
  obtain ⟨e1, e2, e3⟩ := ha
  have hall : s.all = s.all.take h := by
    have := List.take_append_drop h s.all
    rw [hh, List.append_nil] at this
    exact this.symm
  have hfam := hk.fam
  have hinv := hk.inv
  have hmb := hk.mb
  rw [e1, e2] at hfam hinv
  rw [e3] at hmb
  have hmem : ∀ u, u ∈ T ↔ u ∈ L.filter (rightU P K) := fun u => by rw [hTm, List.mem_filter]
  refine ⟨a.mo, a.B, a.R, M, s.all, s.steps, rfl, ⟨hfam, hinv, hmb⟩, hk.bel, fun r x => ?_, ?_, fun hne => ?_⟩
  · rw [hi.all hall (fun u hu => ok_of_right ((hTm u).1 hu).2) r x]
    exact ⟨fun d => d.mono fun u hu => (hmem u).1 hu, fun d => d.mono fun u hu => (hmem u).2 hu⟩
  · refine Nat.le_trans (hi.bound rfl) ?_
    have m1 : T.length * (2 + 2 * P) ≤ L.length * (2 + 2 * P) := Nat.mul_le_mul_right _ hTl
    have m2 : P * (P * K + T.length * (2 + 2 * P)) ≤ P * (P * K + L.length * (2 + 2 * P)) := Nat.mul_le_mul_left _ (by omega)
    omega
  · have := hi.lo
    cases hT : T with
    | nil =>
      exfalso
      apply hne
      rw [List.eq_nil_iff_forall_not_mem]
      intro u hu
      have := (hmem u).2 hu
      rw [hT] at this
      cases this
    | cons u T' =>
      rw [hT] at this
      simp at this
      omega
set_option maxHeartbeats 4000000 in
set_option maxRecDepth 100000 in
theorem eval (p k : Int) (A : Option Addr) (ca : Nat) (L : List Ru) (w : World) (hT : Tab w) (hL : L.length ≤ 1000) (hA : UG w A L) :
    Calls Tryd.prog 7 #[.int .i64 p, .int .i64 k, .slice A L.length ca] w (EvalPost (SetA.within p 64).toNat (SetA.within k 64).toNat L w) := by
  obtain ⟨i0, hi, hz0, hz1, hz2⟩ := info_parts infoRow
  have HW1 := Lib.hid (fun w' => SemH.within_ p 64 w')
  have HW2 := Lib.hid (fun w' => SemH.within_ k 64 w')
  have hp := within_le p 64 (by omega)
  have hk := within_le k 64 (by omega)
  generalize SetA.within p 64 = Pi at *
  generalize SetA.within k 64 = Ki at *
  obtain ⟨P, rfl⟩ : ∃ v : Nat, Pi = v := ⟨Pi.toNat, by omega⟩
  obtain ⟨K, rfl⟩ : ∃ v : Nat, Ki = v := ⟨Ki.toNat, by omega⟩
  simp only [Int.toNat_natCast]
  have hP : P ≤ 64 := by omega
  have hK : K ≤ 64 := by omega
  clear hp hk
  have hPK : P * K ≤ 64 * 64 := Nat.mul_le_mul hP hK
  have hmul : IntKind.i64.wrap ((P : Int) * (K : Int)) = ((P * K : Nat) : Int) := by
    rw [← Int.natCast_mul, IntKind.wrap_i64]; omega
  have HNw := Lib.hid (fun w' => new_ ((P * K : Nat) : Int) (P : Int) w')
  have hw1 : (SetA.within ((P * K : Nat) : Int) 5000).toNat = P * K := by unfold SetA.within; omega
  have hw2 : (SetA.within (P : Int) 1000).toNat = P := by unfold SetA.within; omega
  unfold NewPost at HNw
  rw [hw1, hw2] at HNw
  have HMUL := Lib.hid (rfl : P * K = P * K)
  obtain ⟨n, hn⟩ : ∃ n, P * K = n := ⟨_, rfl⟩
  have HNN := Lib.hid hn
  rw [hn] at HNw hPK hmul
  have HTB := Lib.hid hT
  have HUA := Lib.hid hA
  clear hT hA hw1 hw2 HMUL hn
  go_enter Tryd.func7, Tryd.ntmps7
  go_wp2_with fail
  refine (HW1.out _).mono ?_
  rintro e w1 ⟨rfl, rfl⟩
  go_wp2_with fail
  refine (HW2.out _).mono ?_
  rintro e w1 ⟨rfl, rfl⟩
  clear HW1 HW2
  go_wp2_with fail
  refine (HNw.out _).mono ?_
  rintro e w2 ⟨B, R, rfl, hfam, hb2, uB, uR⟩
  clear HNw
  have hX : Below w2.heap.size w2 ((w2.alloc (.cells #[.pointer (some ⟨B, 0, none⟩), .int .i64 K, .int .i64 0] 50)).alloc (.cells #[.pointer (some ⟨w2.heap.size, 0, none⟩), .slice none 0 0, .slice none 0 0] 54)) := ((Below.refl _ _).alloc (Nat.le_refl _) _).alloc (by simp) _
  have hXm : ((w2.alloc (.cells #[.pointer (some ⟨B, 0, none⟩), .int .i64 K, .int .i64 0] 50)).alloc (.cells #[.pointer (some ⟨w2.heap.size, 0, none⟩), .slice none 0 0, .slice none 0 0] 54)).heap[w2.heap.size]? = some (.cells #[.pointer (some ⟨B, 0, none⟩), .int .i64 K, .int .i64 0] 50 (0, 0)) := heap_alloc2_old w2 _ _
  have hXw : ((w2.alloc (.cells #[.pointer (some ⟨B, 0, none⟩), .int .i64 K, .int .i64 0] 50)).alloc (.cells #[.pointer (some ⟨w2.heap.size, 0, none⟩), .slice none 0 0, .slice none 0 0] 54)).heap[w2.heap.size + 1]? = some (.cells #[.pointer (some ⟨w2.heap.size, 0, none⟩), .slice none 0 0, .slice none 0 0] 54 (0, 0)) := heap_alloc2_new w2 _ _
  have HBX := Lib.hid (nx hb2 hX)
  have HFX := Lib.hid (hfam.below hX)
  have HXM := Lib.hid hXm
  have HXW := Lib.hid hXw
  have hz2s := hb2.size
  clear hX hXm hXw hfam hb2
  go_upto_region 3 with fail
  generalize (w2.alloc (.cells #[.pointer (some ⟨B, 0, none⟩), .int .i64 K, .int .i64 0] 50)).alloc (.cells #[.pointer (some ⟨w2.heap.size, 0, none⟩), .slice none 0 0, .slice none 0 0] 54) = X at *
  have HWQ := Lib.hid (wq_start HBX.out HFX.out uB uR HXM.out HXW.out hz2s (by omega : w.heap.size ≤ w2.heap.size + 1))
  have cm := fun o => Lib.cell_of_heap HXM.out o
  have cw := fun o => Lib.cell_of_heap HXW.out o
  have HRW := Lib.hid (rows B R n P _ X HFX.out)
  obtain ⟨mo, hmo⟩ : ∃ mo, w2.heap.size = mo := ⟨_, rfl⟩
  simp only [hmo] at cm cw HWQ ⊢
  have hlt1 : mo + 1 < X.heap.size := by have := lt_of HXW.out; omega
  rw [World.setCell_alloc_past _ _ _ _ hlt1] at HWQ
  have mk := run_make (P := Tryd.prog) X 51 23 i0 _ Tryd.underlying51 hi hz0 .i64 .i64 n n (by omega) (by omega) (by rw [hz2]; omega) (by omega)
  rw [hz1] at mk
  simp only [Int.toNat_natCast, Nat.mul_one, made1] at mk
  have hXA := (Below.refl X.heap.size X).alloc (Nat.le_refl _) (.cells (Array.replicate n nilV) 23)
  have hXA2 := (hXA.block _ (lt_of HXW.out)).trans HXW.out
  rw [hmo] at hXA2
  have fw : ∀ o, (X.alloc (.cells (Array.replicate n nilV) 23)).frozen? ⟨mo + 1, o, none⟩ = false := fun o => frozen_of_row _ _ _ _ _ hXA2
  have cw2 : ∀ o, (X.alloc (.cells (Array.replicate n nilV) 23)).cell? ⟨mo + 1, o, none⟩ = _ := fun o => Lib.cell_of_heap hXA2 o
  clear hi hz0 hz1 hz2 HXM HXW HFX HBX hXA hXA2 hz2s hmo uB uR
  go_wp2_with fail
  refine HRW.out.mono ?_
  rintro e wz ⟨rfl, rfl⟩
  clear HRW
  go_upto_region 4 with fail
  clear cm cw mk fw cw2
  generalize (X.setCell ⟨mo + 1, 1, none⟩ (.slice (some ⟨X.heap.size, 0, none⟩) n n)).alloc (.cells (Array.replicate n nilV) 23) = w4 at *
  obtain ⟨Lb, hLb⟩ : ∃ Lb, X.heap.size = Lb := ⟨_, rfl⟩
  simp only [hLb] at HWQ hlt1
  obtain ⟨a, hae⟩ : ∃ a : Ad, (⟨mo + 1, mo, B, R, Lb, n, P, K⟩ : Ad) = a := ⟨_, rfl⟩
  have ha : a.n = n ∧ a.c = P ∧ a.K = K ∧ a.wk = mo + 1 ∧ a.mo = mo := by subst hae; exact ⟨rfl, rfl, rfl, rfl, rfl⟩
  rw [hae] at HWQ
  obtain ⟨ha1, ha2, ha3, ha4, ha5⟩ := ha
  have hbel4 : Below w.heap.size w w4 := by
    obtain ⟨_, M, qv, vs, hk, _⟩ := HWQ.out
    exact hk.bel
  have HTD := Lib.hid (SemT.tidy P K (by omega) (by omega) A ca L w4 (by omega) (HUA.out.below hbel4))
  clear hae hLb hlt1 hbel4 HUA
  go_wp2_with fail
  refine HTD.out.mono ?_
  rintro e w5 ⟨A5, c5, T, rfl, hu5, hb5, hTl, hTm, hA5⟩
  obtain ⟨F1, hq5, hback, hug⟩ := with_row HWQ.out hb5 hu5 hA5
  have HQ5 := Lib.hid hq5
  have HBK := Lib.hid hback
  have HUG := Lib.hid hug
  have HTM := Lib.hid hTm
  have hT1 : T.length ≤ 1000 := by omega
  have HINV : Hid (∀ j, j ≤ T.length → SemA.Inv n P K T (T.take j) [] [] [] 0 (takesM n P (SemA.start n) (T.take j))) := Lib.hid (fun j hj => by
    have := SemA.Inv.takes (T.take j) [] (SemA.start n) (SemA.Inv.start n P K T) (fun u hu => by
      have := List.mem_of_mem_take hu
      refine ⟨this, ?_⟩
      rw [← HNN.out]
      exact ok_of_right ((hTm u).1 this).2)
    simpa using this)
  have HOK : Hid (∀ u ∈ T, Ok a.n a.c a.K u) := Lib.hid (fun u hu => by
    rw [ha1, ha2, ha3, ← HNN.out]
    exact ok_of_right ((hTm u).1 hu).2)
  clear hu5 hb5 hA5 hq5 hback hug hTm HTD HWQ
  go_wp2_with fail
  go_loopw [42] (fun i wr => ∃ j : Nat, j ≤ T.length ∧ i = .int .i64 j ∧ Hid (Wq w wr a (takesM n P (SemA.start n) (T.take j)) 0 F1)) (fun i _ => T.length - (intOf i).toNat)
  case atStart => exact ⟨0, by omega, rfl, HQ5⟩
  case round =>
    obtain ⟨j, hj, rfl, hq⟩ := hrel
    clear HQ5
    by_cases hlt : j < T.length
    · have e1 : decide ((j : Int) < T.length) = true := by simp; omega
      have q0 : (0 : Int) ≤ j := by omega
      have q1 : (j : Int) < T.length := by omega
      obtain ⟨g, o, rfl, hg, hcell⟩ := HUG.out _ _ hq.out (by omega)
      have b0 := hcell j hlt 0 (by omega)
      have b1 := hcell j hlt 1 (by omega)
      have b2 := hcell j hlt 2 (by omega)
      have b3 := hcell j hlt 3 (by omega)
      have b4 := hcell j hlt 4 (by omega)
      have b5 := hcell j hlt 5 (by omega)
      have hstep : takesM n P (SemA.start n) (T.take (j + 1)) = takeM n P (SemA.tick (takesM n P (SemA.start n) (T.take j))) T[j] := by
        unfold takesM
        rw [List.take_succ_eq_append_getElem hlt, List.foldl_append]
        rfl
      have hok := HOK.out T[j] (List.getElem_mem hlt)
      have hbd := bd_of HNN.out.symm hP hK (by rw [List.length_take]; omega) (HINV.out j hj)
      have HS := Lib.hid hstep
      clear hcell hstep
      generalize takesM n P (SemA.start n) (T.take j) = S at *
      generalize T[j] = u at *
      have hlook : ∀ i : Nat, ((SemA.tick S).look.getD i []).length ≤ 10000000 := fun i => by
        have := hbd.2 i
        show (S.look.getD i []).length ≤ _
        omega
      have HTK := Lib.hid (fun w' (hq : Wq w w' a (SemA.tick S) 0 F1) => SemG.take w w' a (SemA.tick S) 0 u F1 hq hok hlook)
      rw [ha1, ha2, ha4] at HTK
      clear hok hlook
      obtain ⟨uk, uh, uw, ua, ub, uv⟩ := u
      have z0 : wr.cell? ⟨g, o + j * 6, none⟩ = some (.int .i64 uk) := b0
      have z1 : wr.cell? ⟨g, o + j * 6 + 1, none⟩ = some (.int .i64 uh) := b1
      have z2 : wr.cell? ⟨g, o + j * 6 + 2, none⟩ = some (.int .i64 uw) := b2
      have z3 : wr.cell? ⟨g, o + j * 6 + 3, none⟩ = some (.int .i64 ua) := b3
      have z4 : wr.cell? ⟨g, o + j * 6 + 4, none⟩ = some (.int .i64 ub) := b4
      have z5 : wr.cell? ⟨g, o + j * 6 + 5, none⟩ = some (.int .i64 uv) := b5
      clear b0 b1 b2 b3 b4 b5
      have HQB := Lib.hid (Wq.below hq.out ((Below.refl wr.heap.size wr).alloc (Nat.le_refl _) (.cells #[.int .i64 uk, .int .i64 uh, .int .i64 uw, .int .i64 ua, .int .i64 ub, .int .i64 uv] 25)))
      have HBX := Lib.hid (heap_alloc_new wr (.cells #[.int .i64 uk, .int .i64 uh, .int .i64 uw, .int .i64 ua, .int .i64 ub, .int .i64 uv] 25))
      have hmo : a.mo < wr.heap.size := by
        obtain ⟨h1, M, qv, vs, h2, h3⟩ := hq.out
        exact lt_of h2.mb
      rw [ha5] at hmo
      clear hq
      go_upto_region 7 with fail
      obtain ⟨bx, hbx⟩ : ∃ bx, wr.heap.size = bx := ⟨_, rfl⟩
      simp only [hbx] at HBX hmo ⊢
      generalize wr.alloc (.cells #[.int .i64 uk, .int .i64 uh, .int .i64 uw, .int .i64 ua, .int .i64 ub, .int .i64 uv] 25) = wb at *
      obtain ⟨⟨qv2, cw⟩, cm, fm, _⟩ := Wq.cells HQB.out
      have HTI := Lib.hid (Wq.tick HQB.out)
      rw [ha4, ha5] at cw
      rw [ha5] at cm fm
      rw [ha5] at HTI
      have HBX2 := Lib.hid ((set_other wb mo 2 (.int .i64 ((S.steps : Int) + 1)) (show bx ≠ mo by omega)).trans HBX.out)
      have hsb := hbd.1
      clear hbd z0 z1 z2 z3 z4 z5 hmo HBX HQB
      go_upto_region 8 with fail
      generalize wb.setCell ⟨mo, 2, none⟩ (.int .i64 ((S.steps : Int) + 1)) = wt at *
      have cb := fun o => Lib.cell_of_heap HBX2.out o
      have HTK2 := Lib.hid (HTK.out _ HTI.out)
      unfold Ru.val at HTK2
      simp only at HTK2
      clear HTK cw cm fm
      go_wp2_with fail
      refine HTK2.out.mono ?_
      rintro e w6 ⟨rfl, hq6⟩
      have HQ6 : Hid (Wq w w6 a (takeM n P (SemA.tick S) ⟨uk, uh, uw, ua, ub, uv⟩) 0 F1) := Lib.hid hq6
      clear hq6 cb HTI HTK2 HBX2
      go_wp2_with fail
      go_roundw
      case rel => exact ⟨j + 1, by omega, by go_num, by rw [HS.out]; exact HQ6⟩
      case measure => simp [intOf]; omega
    · have e1 : decide ((j : Int) < T.length) = false := by simp; omega
      obtain rfl : j = T.length := by omega
      have hI0 := HINV.out T.length (Nat.le_refl _)
      rw [List.take_length] at hq hI0
      have HQ0 : Hid (Wq w wr a (takesM n P (SemA.start n) T) 0 F0) := Lib.hid (HBK.out _ _ hq.out)
      have HI0 := Lib.hid hI0
      generalize takesM n P (SemA.start n) T = S0 at *
      clear hq hI0 HUG HBK HINV
      go_wp2_with fail
      generalize wr = w7 at *
      go_loopg [10] (P * n) (fun gh s10 wr => ∃ (s : Sm) (h : Nat) (y : Int), P * n - h ≤ gh ∧ h ≤ s.all.length ∧ Hid (SemA.Inv n P K T T (s.all.take h) [] [] y s) ∧ Hid (Wq w wr a s h F0))
      case atStart => exact ⟨S0, 0, 0, by omega, by omega, HI0, HQ0⟩
      case round =>
        obtain ⟨s, h, y, hgh, hhl, hI, hQ⟩ := hrel
        clear HQ0 HI0
        have hal := SemA.all_len hI.out
        obtain ⟨M, qv, vs, hk⟩ : ∃ M qv vs, Wk w wr a M s (s.all.drop h) qv vs := by
          obtain ⟨_, M, qv, vs, hk, _⟩ := hQ.out
          exact ⟨M, qv, vs, hk⟩
        have cw : ∀ o, wr.cell? ⟨mo + 1, o, none⟩ = (#[.pointer (some ⟨mo, 0, none⟩), .slice (some ⟨a.Lb, 0, none⟩) n n, qv] : Array Value)[o]? := fun o => by
          have := Lib.cell_of_heap hk.wb o
          rw [ha4, ha5, ha1] at this
          exact this
        cases hd : s.all.drop h with
        | nil =>
          have hqn : ∃ A0 c0, qv = .slice A0 0 c0 := by
            have hq := hk.qu
            rw [hd] at hq
            rcases hq with ⟨rfl, _⟩ | ⟨g, o, cap, cur, rfl, _⟩ <;> exact ⟨_, _, rfl⟩
          obtain ⟨A0, c0, rfl⟩ := hqn
          have HEND := Lib.hid (eval_end (a := a) (K := K) ⟨ha1.trans HNN.out.symm, ha2, ha3⟩ hQ.out (by rw [HNN.out]; exact hI.out) hd hTl HTM.out)
          rw [ha5] at HEND
          clear hk hd hI hQ
          go_wp2_with fail
          go_ret
          exact HEND.out
        | cons cur rest =>
          have hq := hk.qu
          rw [hd] at hq
          obtain ⟨g, qo, cap, rfl, hcr, hcm, hpop⟩ := qu_pop hq
          have hall : s.all = s.all.take h ++ cur :: rest := by rw [← hd, List.take_append_drop]
          have hrng := mayB_iff.1 (hI.out.rng cur (by rw [hall]; simp))
          obtain ⟨c1, y1⟩ := cur
          simp only at hrng
          obtain ⟨c, rfl⟩ : ∃ v : Nat, c1 = v := ⟨c1.toNat, by omega⟩
          obtain ⟨yy, rfl⟩ : ∃ v : Nat, y1 = v := ⟨y1.toNat, by omega⟩
          have hcn : c < n := by omega
          have hyP : yy < P := by omega
          have htk : s.all.take (h + 1) = s.all.take h ++ [((c : Int), (yy : Int))] := by
            have hlt2 : h < s.all.length := by
              rcases Nat.lt_or_ge h s.all.length with h2 | h2
              · exact h2
              · rw [List.drop_eq_nil_of_le h2] at hd; cases hd
            rw [List.take_succ_eq_append_getElem hlt2]
            have := List.drop_eq_getElem_cons hlt2
            rw [hd] at this
            injection this with e1 e2
            rw [e1]
          have hhl2 : h + 1 ≤ s.all.length := by
            rcases Nat.lt_or_ge h s.all.length with h2 | h2
            · exact h2
            · rw [List.drop_eq_nil_of_le h2] at hd; cases hd
          have hdr : s.all.drop (h + 1) = rest := by
            have := List.drop_drop (i := 1) (j := h) (l := s.all)
            rw [hd] at this
            simpa using this.symm
          have hpopI := hI.out.pop hall
          rw [← htk] at hpopI
          simp only at hpopI
          have hbd := bd_of HNN.out.symm hP hK hT1 hI.out
          have hT' : ∀ i : Nat, ((SemA.tick s).look.getD i []).length ≤ 1000000 := hbd.2
          have hsb := hbd.1
          obtain ⟨T', hTe⟩ : ∃ T', (SemA.tick s).look.getD c [] = T' := ⟨_, rfl⟩
          have hat : s.at (c : Int) = T' := hTe
          rw [hat] at hpopI
          have hcur : ((c : Int), (yy : Int)) ∈ s.all.take (h + 1) := by rw [htk]; simp
          have HFI := Lib.hid (hpopI.follow HNN.out.symm hcur T' (SemA.tick s) (fun u hu => by
            show u ∈ s.at (c : Int)
            rw [hat]; exact hu))
          have HBD : Hid (∀ j, j ≤ T'.length → Bd (followM a.n a.c a.K (SemA.tick s) yy (T'.take j))) := Lib.hid (fun j hj => by
            rw [ha1, ha2, ha3]
            have hI2 := SemA.Inv.follow_part HNN.out.symm hcur (T'.take j) (T'.drop j) (SemA.tick s) (by rw [List.take_append_drop]; exact hpopI) (fun u hu => by
              show u ∈ s.at (c : Int)
              rw [hat]; exact List.mem_of_mem_take hu)
            obtain ⟨b1, b2⟩ := bd_of HNN.out.symm hP hK hT1 hI2
            exact ⟨by omega, fun i => by have := b2 i; omega⟩)
          have HOK2 : Hid (∀ u ∈ T', Ok a.n a.c a.K u ∧ u.kind ≠ 1) := Lib.hid (fun u hu => by
            rw [ha1, ha2, ha3]
            have := hI.out.lok c u (by rw [← hTe] at hu; exact hu)
            exact ⟨this.1, this.2.1⟩)
          have HLT : Hid (T'.length ≤ 100000000) := Lib.hid (by have := hT' c; rw [hTe] at this; omega)
          have HFO := Lib.hid (fun w' (hq : Wq w w' a (SemA.tick s) (h + 1) F0) => SemF.follow w w' a (SemA.tick s) (h + 1) c yy F0 HTB.out hq (by omega) (by omega) (by omega) (by omega) (by rw [ha1, ha2, ha3]; exact HNN.out.symm) T' hTe HOK2.out HLT.out HBD.out)
          rw [ha4, ha1, ha2, ha3] at HFO
          rw [hd] at hk
          have HKT := Lib.hid hk.tick
          rw [ha5] at HKT
          have HPOP := Lib.hid hpop
          have HHD := Lib.hid hdr
          have HTKL : Hid ((s.all.take (h + 1)).length = h + 1) := Lib.hid (by rw [List.length_take]; omega)
          have cm : ∀ o, wr.cell? ⟨mo, o, none⟩ = (#[.pointer (some ⟨a.B, 0, none⟩), .int .i64 a.K, .int .i64 s.steps] : Array Value)[o]? := fun o => by
            have := Lib.cell_of_heap hk.mb o
            rw [ha5] at this
            exact this
          have fm : ∀ o, wr.frozen? ⟨mo, o, none⟩ = false := fun o => by
            have h1 : wr.frozen? ⟨a.mo, o, none⟩ = false := frozen_of_row _ _ _ _ _ hk.mb
            rw [ha5] at h1
            exact h1
          have e1 : decide ((0 : Int) < (rest.length : Int) + 1) = true := by first | (simp; done) | (simp; omega)
          have q1 : (0 : Int) < (rest.length : Int) + 1 := by omega
          clear hd hk hI hQ hq hpop hall htk hdr hpopI hbd hT' hTe hat hcur hrng
          go_upto_region 12 with fail
          generalize wr.setCell ⟨mo, 2, none⟩ (.int .i64 ((s.steps : Int) + 1)) = wt at *
          have cw2 : ∀ o, wt.cell? ⟨mo + 1, o, none⟩ = (#[.pointer (some ⟨mo, 0, none⟩), .slice (some ⟨a.Lb, 0, none⟩) n n, .slice (some ⟨g, qo, none⟩) (rest.length + 1) cap] : Array Value)[o]? := fun o => by
            have := Lib.cell_of_heap HKT.out.wb o
            rw [ha4, ha5, ha1] at this
            exact this
          obtain ⟨x0, x1, _, _⟩ := HPOP.out wt HKT.out.qu
          simp only at x0 x1
          have hkA := HKT.out.below ((Below.refl wt.heap.size wt).alloc (Nat.le_refl _) (.cells #[.int .i64 c, .int .i64 yy] 59))
          have HKA := Lib.hid hkA
          have HBX := Lib.hid (heap_alloc_new wt (.cells #[.int .i64 c, .int .i64 yy] 59))
          have hmoA : mo + 1 < wt.heap.size := by
            have := lt_of HKT.out.wb
            rw [ha4] at this
            exact this
          clear hkA cw cm fm
          go_upto_region 13 with fail
          obtain ⟨bx, hbx⟩ : ∃ bx, wt.heap.size = bx := ⟨_, rfl⟩
          simp only [hbx] at HBX hmoA ⊢
          generalize wt.alloc (.cells #[.int .i64 c, .int .i64 yy] 59) = wa at *
          have cw3 : ∀ o, wa.cell? ⟨mo + 1, o, none⟩ = (#[.pointer (some ⟨mo, 0, none⟩), .slice (some ⟨a.Lb, 0, none⟩) n n, .slice (some ⟨g, qo, none⟩) (rest.length + 1) cap] : Array Value)[o]? := fun o => by
            have := Lib.cell_of_heap HKA.out.wb o
            rw [ha4, ha5, ha1] at this
            exact this
          have fw3 : ∀ o, wa.frozen? ⟨mo + 1, o, none⟩ = false := fun o => by
            have h1 : wa.frozen? ⟨a.wk, o, none⟩ = false := frozen_of_row _ _ _ _ _ HKA.out.wb
            rw [ha4] at h1
            exact h1
          obtain ⟨_, _, x2, x3⟩ := HPOP.out wa HKA.out.qu
          have HX2 := Lib.hid x2
          have HX3 := Lib.hid x3
          have hgr : ∀ r, wa.grownBy wa r := fun r => ⟨rfl, rfl, rfl, Nat.le_refl _, fun _ _ _ => rfl⟩
          have HWQ : Hid (∀ qv', Qu wa w.heap.size qv' rest → Wq w (wa.setCell ⟨mo + 1, 2, none⟩ qv') a (SemA.tick s) (h + 1) F0) := Lib.hid (fun qv' hq => by
            have := HKA.out.queue (hgr _) hq
            rw [ha4] at this
            exact ⟨hhl2, M, qv', vs, by rw [show (SemA.tick s).all.drop (h + 1) = rest from HHD.out]; exact this, f0_ok _ _ _ _⟩)
          have HBX2 : Hid (∀ v, (wa.setCell ⟨mo + 1, 2, none⟩ v).heap[bx]? = some (.cells #[.int .i64 c, .int .i64 yy] 59 (0, 0))) := Lib.hid (fun v => (set_other wa _ _ _ (show bx ≠ mo + 1 by omega)).trans HBX.out)
          have hcm2 : cap ≤ 9223372036854775807 := hcm
          clear x0 x1 x2 x3 hgr cw2 HKT HKA HBX hmoA hbx hcm
          by_cases hcap : cap = 1
          · subst hcap
            have hr0 : rest.length = 0 := by omega
            have HW8 := Lib.hid (HWQ.out _ (HX2.out rfl))
            have HF8 := Lib.hid (HFO.out _ HW8.out)
            have cb := fun o => Lib.cell_of_heap (HBX2.out (.slice (some ⟨g, qo, none⟩) 0 0)) o
            obtain rfl : rest = [] := List.eq_nil_of_length_eq_zero hr0
            simp only [List.length_nil, Nat.zero_add] at cw3 hcr q1 e1 ⊢
            clear HWQ HX2 HX3 HBX2 HFO HPOP hr0 e1 q1 hcr
            go_upto_region 14 with fail
            generalize wa.setCell ⟨mo + 1, 2, none⟩ (.slice (some ⟨g, qo, none⟩) 0 0) = w8 at *
            go_wp2_with fail
            refine HF8.out.mono ?_
            rintro e w9 ⟨rfl, hq9⟩
            have HQ9 : Hid (Wq w w9 a (followM n P K (SemA.tick s) yy T') (h + 1) F0) := Lib.hid hq9
            clear hq9 HF8 HW8 cb cw3 fw3
            go_wp2_with fail
            go_roundg (P * n - (h + 1))
            case measure => omega
            case rel =>
              have hpre := HFI.out.pre
              refine ⟨followM n P K (SemA.tick s) yy T', h + 1, yy, Nat.le_refl _, HQ9.out.1, Lib.hid ?_, HQ9⟩
              have e4 : (followM n P K (SemA.tick s) yy T').all.take (h + 1) = s.all.take (h + 1) := by
                have := List.prefix_iff_eq_take.1 hpre
                rw [HTKL.out] at this
                exact this.symm
              rw [e4]
              exact HFI.out
          · have HW8 := Lib.hid (HWQ.out _ (HX3.out hcap))
            have HF8 := Lib.hid (HFO.out _ HW8.out)
            have cb := fun o => Lib.cell_of_heap (HBX2.out (.slice (some ⟨g, qo + 2, none⟩) rest.length (cap - 1))) o
            clear HWQ HX2 HX3 HBX2 HFO HPOP
            go_upto_region 14 with fail
            generalize wa.setCell ⟨mo + 1, 2, none⟩ (.slice (some ⟨g, qo + 2, none⟩) rest.length (cap - 1)) = w8 at *
            go_wp2_with fail
            refine HF8.out.mono ?_
            rintro e w9 ⟨rfl, hq9⟩
            have HQ9 : Hid (Wq w w9 a (followM n P K (SemA.tick s) yy T') (h + 1) F0) := Lib.hid hq9
            clear hq9 HF8 HW8 cb cw3 fw3
            go_wp2_with fail
            go_roundg (P * n - (h + 1))
            case measure => omega
            case rel =>
              have hpre := HFI.out.pre
              refine ⟨followM n P K (SemA.tick s) yy T', h + 1, yy, Nat.le_refl _, HQ9.out.1, Lib.hid ?_, HQ9⟩
              have e4 : (followM n P K (SemA.tick s) yy T').all.take (h + 1) = s.all.take (h + 1) := by
                have := List.prefix_iff_eq_take.1 hpre
                rw [HTKL.out] at this
                exact this.symm
              rw [e4]
              exact HFI.out
end Go.Proofs.YtccmlmahjgndbaaDoor.SemI
/- Models: In, Members, Steps, Bound, by contract; the document's example. -/
namespace Go.Proofs.YtccmlmahjgndbaaDoor.SemJ
set_option linter.unusedVariables false
set_option linter.unusedSimpArgs false
open Go.RowKit Go.Lib Go.Proofs Go.Proofs.YtccmlmahjgndbaaDoor.SetA Go.Proofs.YtccmlmahjgndbaaDoor.SetB Go.Proofs.YtccmlmahjgndbaaDoor.SetC Go.Proofs.YtccmlmahjgndbaaDoor.SetD Go.Proofs.YtccmlmahjgndbaaDoor.SetJ Go.Proofs.YtccmlmahjgndbaaDoor.SetN Go.Proofs.YtccmlmahjgndbaaDoor.SetQ Go.Proofs.YtccmlmahjgndbaaDoor.SetR Go.Proofs.YtccmlmahjgndbaaDoor.TblB Go.Proofs.YtccmlmahjgndbaaDoor.TblC Go.Proofs.YtccmlmahjgndbaaDoor.TblV Go.Proofs.YtccmlmahjgndbaaDoor.TblP Go.Proofs.YtccmlmahjgndbaaDoor.TblQ Go.Proofs.YtccmlmahjgndbaaDoor.SemA Go.Proofs.YtccmlmahjgndbaaDoor.SemB Go.Proofs.YtccmlmahjgndbaaDoor.SemH Go.Proofs.YtccmlmahjgndbaaDoor.SemI
set_option linter.unusedVariables false
set_option linter.unusedSimpArgs false
section
variable {w : World} {mo B R n P K : Nat} {M : List Nat} {all : List Pr} {st : Nat}
theorem MoAt.cells (h : MoAt w mo B R n P K M all st) : ∀ o, w.cell? ⟨mo, o, none⟩ = (#[.pointer (some ⟨B, 0, none⟩), .int .i64 K, .int .i64 st] : Array Value)[o]? := fun o => Lib.cell_of_heap h.mb o
theorem has0 (h : MoAt w mo B R n P K M all st) (r x : Int) : Calls Tryd.prog 26 #[.pointer (some ⟨B, 0, none⟩), .int .i64 r, .int .i64 x] w fun e w' => e = .returned (.bool (hasL all r x)) ∧ ∃ q, w' = w.drewN q := by
  have := has_ B R n P M r x w h.fam
  rw [h.inv.has] at this
  exact this
theorem lst0 (h : MoAt w mo B R n P K M all st) (ht : Tab w) (r : Int) : Calls Tryd.prog 27 #[.pointer (some ⟨B, 0, none⟩), .int .i64 r] w (ListPost (listL P all r) w) := by
  have := list_at (.pointer (some ⟨B, 0, none⟩)) (rowI n M r) r w (rowI_len h.fam.len r) (rowI_small h.fam r) ht (at_ B R n P M r w h.fam)
  rw [h.inv.list] at this
  exact this
set_option maxRecDepth 100000 in
theorem in_ (h : MoAt w mo B R n P K M all st) (r x : Int) : Calls Tryd.prog 9 #[.pointer (some ⟨mo, 0, none⟩), .int .i64 r, .int .i64 x] w fun e w' => e = .returned (.bool (hasL all r x)) ∧ ∃ q, w' = w.drewN q := by
  have HH := Lib.hid (has0 h r x)
  have cm := MoAt.cells h
  generalize hasL all r x = b at *
  clear h
  go_enter Tryd.func9, Tryd.ntmps9
  go_wp2_with fail
  refine HH.out.mono ?_
  rintro e w1 ⟨rfl, q, rfl⟩
  clear cm HH
  go_wp2_with fail
  go_ret
  exact ⟨rfl, q, rfl⟩
set_option maxRecDepth 100000 in
theorem members (h : MoAt w mo B R n P K M all st) (ht : Tab w) (r : Int) : Calls Tryd.prog 12 #[.pointer (some ⟨mo, 0, none⟩), .int .i64 r] w (ListPost (listL P all r) w) := by
  have HH := Lib.hid (lst0 h ht r)
  have cm := MoAt.cells h
  generalize listL P all r = l at *
  clear h ht
  go_enter Tryd.func12, Tryd.ntmps12
  go_wp2_with fail
  refine HH.out.mono ?_
  rintro e w1 ⟨v, rfl, hown, hb⟩
  have HO := Lib.hid hown
  have HB := Lib.hid hb
  clear cm HH hown hb
  go_wp2_with fail
  go_ret
  exact ⟨_, rfl, HO.out, HB.out⟩
set_option maxRecDepth 100000 in
theorem steps (h : MoAt w mo B R n P K M all st) : Calls Tryd.prog 18 #[.pointer (some ⟨mo, 0, none⟩)] w fun e w' => e = .returned (.int .i64 st) ∧ w = w' := by
  have cm := MoAt.cells h
  clear h
  go_enter Tryd.func18, Tryd.ntmps18
  go_wp2_with fail
  go_ret
  exact ⟨rfl, rfl⟩
end
def boundN (P K N : Nat) : Nat := 4 * (P + 1) * (P + 1) * (P + 1) * (K + 1) * (K + 1) * (N + 1)
theorem wrapN {a b c : Nat} (h : a * b = c) (hc : c < 9223372036854775808) : IntKind.i64.wrap ((a : Int) * (b : Int)) = (c : Int) := by
  rw [← Int.natCast_mul, h, IntKind.wrap_i64]
  omega
theorem bound_steps {P K N : Nat} (hP : P ≤ 64) (hK : K ≤ 64) (hN : N ≤ 10000) : 4 * (P + 1) ≤ 260 ∧ 4 * (P + 1) * (P + 1) ≤ 16900 ∧ 4 * (P + 1) * (P + 1) * (P + 1) ≤ 1098500 ∧ 4 * (P + 1) * (P + 1) * (P + 1) * (K + 1) ≤ 71402500 ∧ 4 * (P + 1) * (P + 1) * (P + 1) * (K + 1) * (K + 1) ≤ 4641162500 ∧ boundN P K N ≤ 46416266162500 := by
  have h1 : 4 * (P + 1) ≤ 260 := by omega
  have h2 : 4 * (P + 1) * (P + 1) ≤ 260 * 65 := Nat.mul_le_mul h1 (by omega)
  have h3 : 4 * (P + 1) * (P + 1) * (P + 1) ≤ 16900 * 65 := Nat.mul_le_mul (by omega) (by omega)
  have h4 : 4 * (P + 1) * (P + 1) * (P + 1) * (K + 1) ≤ 1098500 * 65 := Nat.mul_le_mul (by omega) (by omega)
  have h5 : 4 * (P + 1) * (P + 1) * (P + 1) * (K + 1) * (K + 1) ≤ 71402500 * 65 := Nat.mul_le_mul (by omega) (by omega)
  have h6 : boundN P K N ≤ 4641162500 * 10001 := Nat.mul_le_mul (by omega) (by omega)
  omega
/-- The document's example: rules, and who is in which role. -/
def ex1 : Ru := ⟨2, 0, 0, 3, 0, 0⟩
def ex2 : Ru := ⟨1, 3, 2, 0, 0, 0⟩
theorem ex_right : [ex1, ex2].filter (rightU 3 2) = [ex1, ex2] := by decide +kernel
theorem ex_der {r x : Int} : Der 2 [ex1, ex2] r x ↔ (r = 0 ∧ x = 2) ∨ (r = 3 ∧ x = 2) := by
  have h3 : Der 2 [ex1, ex2] 3 2 := Der.mem ex2 (by simp) rfl
  constructor
  · intro d
    induction d with
    | mem u hu hk =>
      simp at hu
      rcases hu with rfl | rfl
      · exact absurd hk (by decide)
      · exact .inr ⟨rfl, rfl⟩
    | incl u x hu hk _ ih =>
      simp at hu
      rcases hu with rfl | rfl
      · rcases ih with ⟨h, _⟩ | ⟨_, h⟩
        · exact absurd h (by decide)
        · exact .inl ⟨rfl, h⟩
      · exact absurd hk (by decide)
    | link u x y hu hk _ _ _ _ =>
      simp at hu
      rcases hu with rfl | rfl <;> exact absurd hk (by decide)
    | both u x hu hk _ _ _ _ =>
      simp at hu
      rcases hu with rfl | rfl <;> exact absurd hk (by decide)
  · rintro (⟨rfl, rfl⟩ | ⟨rfl, rfl⟩)
    · exact Der.incl ex1 2 (by simp) rfl h3
    · exact h3
end Go.Proofs.YtccmlmahjgndbaaDoor.SemJ
/- The document's example of layer 8, by contract. -/
namespace Go.Proofs.YtccmlmahjgndbaaDoor.SemK
set_option linter.unusedVariables false
set_option linter.unusedSimpArgs false
open Go.RowKit Go.Lib Go.Proofs Go.Proofs.YtccmlmahjgndbaaDoor.SetA Go.Proofs.YtccmlmahjgndbaaDoor.SetB Go.Proofs.YtccmlmahjgndbaaDoor.SetC Go.Proofs.YtccmlmahjgndbaaDoor.SetD Go.Proofs.YtccmlmahjgndbaaDoor.SetJ Go.Proofs.YtccmlmahjgndbaaDoor.SetN Go.Proofs.YtccmlmahjgndbaaDoor.SetQ Go.Proofs.YtccmlmahjgndbaaDoor.SetR Go.Proofs.YtccmlmahjgndbaaDoor.TblB Go.Proofs.YtccmlmahjgndbaaDoor.TblC Go.Proofs.YtccmlmahjgndbaaDoor.TblV Go.Proofs.YtccmlmahjgndbaaDoor.TblP Go.Proofs.YtccmlmahjgndbaaDoor.TblQ Go.Proofs.YtccmlmahjgndbaaDoor.SemA Go.Proofs.YtccmlmahjgndbaaDoor.SemB Go.Proofs.YtccmlmahjgndbaaDoor.SemH Go.Proofs.YtccmlmahjgndbaaDoor.SemI Go.Proofs.YtccmlmahjgndbaaDoor.SemJ
set_option linter.unusedVariables false
set_option linter.unusedSimpArgs false
theorem has_of {all : List Pr} {p : Int → Int → Prop} (h : ∀ r x, (r, x) ∈ all ↔ p r x) {r x : Int} {b : Bool} (hb : p r x ↔ b = true) : hasL all r x = b := by
  rw [Bool.eq_iff_iff, hasL_iff, h, hb]
theorem ex_ug (w : World) : UG (w.alloc (.cells #[.int .i64 2, .int .i64 0, .int .i64 0, .int .i64 3, .int .i64 0, .int .i64 0, .int .i64 1, .int .i64 3, .int .i64 2, .int .i64 0, .int .i64 0, .int .i64 0] 25)) (some ⟨w.heap.size, 0, none⟩) [ex1, ex2] := fun _ => by
  have hb := heap_alloc_new w (.cells #[.int .i64 2, .int .i64 0, .int .i64 0, .int .i64 3, .int .i64 0, .int .i64 0, .int .i64 1, .int .i64 3, .int .i64 2, .int .i64 0, .int .i64 0, .int .i64 0] 25)
  refine ⟨w.heap.size, 0, rfl, lt_of hb, fun j hj k hk => ?_⟩
  rw [Lib.cell_of_heap hb]
  have hj2 : j = 0 ∨ j = 1 := by simp at hj; omega
  rcases hj2 with rfl | rfl
  · match k, hk with
    | 0, _ => rfl
    | 1, _ => rfl
    | 2, _ => rfl
    | 3, _ => rfl
    | 4, _ => rfl
    | 5, _ => rfl
  · match k, hk with
    | 0, _ => rfl
    | 1, _ => rfl
    | 2, _ => rfl
    | 3, _ => rfl
    | 4, _ => rfl
    | 5, _ => rfl
theorem bw (w : World) (q : Nat) : Below w.heap.size w (w.drewN q) := below_drewN (Below.refl _ w) q
set_option maxHeartbeats 1000000 in
set_option maxRecDepth 100000 in
theorem lives (w : World) (hT : Tab w) : Calls Tryd.prog 6 #[] w fun e w' => e = .returned (.bool true) ∧ Below w.heap.size w w' := by
  have hb0 := (Below.refl w.heap.size w).alloc (Nat.le_refl _) (.cells #[.int .i64 2, .int .i64 0, .int .i64 0, .int .i64 3, .int .i64 0, .int .i64 0, .int .i64 1, .int .i64 3, .int .i64 2, .int .i64 0, .int .i64 0, .int .i64 0] 25)
  have hE := eval 3 2 (some ⟨w.heap.size, 0, none⟩) 2 [ex1, ex2] (w.alloc (.cells #[.int .i64 2, .int .i64 0, .int .i64 0, .int .i64 3, .int .i64 0, .int .i64 0, .int .i64 1, .int .i64 3, .int .i64 2, .int .i64 0, .int .i64 0, .int .i64 0] 25)) (hT.below hb0) (by simp) (ex_ug w)
  have e3 : (SetA.within 3 64).toNat = 3 := by decide
  have e2 : (SetA.within 2 64).toNat = 2 := by decide
  rw [e3, e2] at hE
  unfold EvalPost at hE
  rw [ex_right] at hE
  have HE := Lib.hid hE
  have HB0 := Lib.hid hb0
  have HT := Lib.hid hT
  clear hE hb0 hT e3 e2
  go_enter Tryd.func6, Tryd.ntmps6
  go_wp2_with fail
  refine HE.out.mono ?_
  rintro e w1 ⟨mo, B, R, M, all, st, rfl, hm, hb, hder, hst, hpos⟩
  have hd2 : ∀ r x, (r, x) ∈ all ↔ (r = 0 ∧ x = 2) ∨ (r = 3 ∧ x = 2) := fun r x => by rw [hder, ex_der]
  have f1 : hasL all 0 2 = true := has_of hd2 (by simp)
  have f2 : hasL all 0 1 = false := has_of hd2 (by simp)
  have f3 : hasL all 0 0 = false := has_of hd2 (by simp)
  have f4 : (listL 3 all 0).length = 1 := by
    have e : List.range 3 = [0, 1, 2] := by decide
    unfold listL
    rw [e]
    have g0 : hasL all 0 ((0 : Nat) : Int) = false := f3
    have g1 : hasL all 0 ((1 : Nat) : Int) = false := f2
    have g2 : hasL all 0 ((2 : Nat) : Int) = true := f1
    simp only [List.filter_cons, List.filter_nil, g0, g1, g2]
    rfl
  have HM := Lib.hid (fun w' (hb : Below w1.heap.size w1 w') => MoAt.below hm hb)
  have HP : Hid (0 < st) := Lib.hid (hpos (by simp))
  have HB1 : Hid (Below w.heap.size w w1) := Lib.hid (SemI.nx HB0.out hb)
  have HF := Lib.hid (And.intro f1 (And.intro f2 f4))
  have HST := Lib.hid hst
  clear hd2 f1 f2 f3 f4 hm hb hder hst hpos HE
  have HI1 := Lib.hid (fun w' hb => in_ (HM.out w' hb) 0 2)
  have HI2 := Lib.hid (fun w' hb => in_ (HM.out w' hb) 0 1)
  rw [HF.out.1] at HI1
  rw [HF.out.2.1] at HI2
  have HME := Lib.hid (fun w' (hb : Below w1.heap.size w1 w') => members (HM.out w' hb) (HT.out.below (SemI.nx HB1.out hb)) 0)
  unfold ListPost at HME
  rw [HF.out.2.2] at HME
  have HS := Lib.hid (fun w' hb => steps (HM.out w' hb))
  clear HM HF
  go_wp2_with fail
  refine (HI1.out _ (Below.refl _ _)).mono ?_
  rintro e w2 ⟨rfl, q, rfl⟩
  go_wp2_with fail
  refine (HI2.out _ (bw w1 q)).mono ?_
  rintro e w2 ⟨rfl, q2, rfl⟩
  go_wp2_with fail
  refine (HME.out _ (bw w1 (q + q2))).mono ?_
  rintro e w2 ⟨v, rfl, hown, hb2⟩
  obtain ⟨A, ca, rfl⟩ : ∃ A ca, v = .slice A 1 ca := by
    rcases hown.2 with ⟨_, h0⟩ | ⟨g, cap, cur, rfl, _⟩
    · cases h0
    · exact ⟨_, _, rfl⟩
  have HB2 := Lib.hid ((bw w1 (q + q2)).trans hb2)
  clear hown hb2 HI1 HI2 HME
  go_wp2_with fail
  refine (HS.out _ HB2.out).mono ?_
  rintro e w3 ⟨rfl, rfl⟩
  have HBF := Lib.hid (SemI.nx HB1.out HB2.out)
  clear HS HB2
  go_wp2_with fail
  go_ret
  exact ⟨SetB.ret_bool (decide_eq_true HP.out), HBF.out⟩
end Go.Proofs.YtccmlmahjgndbaaDoor.SemK
/- The walk of the law of steps. -/
namespace Go.Proofs.YtccmlmahjgndbaaDoor.SemSw
set_option linter.unusedVariables false
set_option linter.unusedSimpArgs false
open Go.RowKit Go.Lib Go.Proofs Go.Proofs.YtccmlmahjgndbaaDoor.SetA Go.Proofs.YtccmlmahjgndbaaDoor.SetB Go.Proofs.YtccmlmahjgndbaaDoor.SetC Go.Proofs.YtccmlmahjgndbaaDoor.SetD Go.Proofs.YtccmlmahjgndbaaDoor.SetJ Go.Proofs.YtccmlmahjgndbaaDoor.SetN Go.Proofs.YtccmlmahjgndbaaDoor.SetQ Go.Proofs.YtccmlmahjgndbaaDoor.SetR Go.Proofs.YtccmlmahjgndbaaDoor.TblB Go.Proofs.YtccmlmahjgndbaaDoor.TblC Go.Proofs.YtccmlmahjgndbaaDoor.TblV Go.Proofs.YtccmlmahjgndbaaDoor.TblP Go.Proofs.YtccmlmahjgndbaaDoor.SemA Go.Proofs.YtccmlmahjgndbaaDoor.SemB Go.Proofs.YtccmlmahjgndbaaDoor.SemH Go.Proofs.YtccmlmahjgndbaaDoor.SemI Go.Proofs.YtccmlmahjgndbaaDoor.SemJ Go.Proofs.YtccmlmahjgndbaaDoor.SemK
set_option linter.unusedVariables false
set_option linter.unusedSimpArgs false
def smallB (p k : Int) (n : Nat) : Bool := decide (p ≤ 10) && (decide (k ≤ 6) && decide (n ≤ 60))
set_option maxRecDepth 100000 in
theorem small (p k : Int) (A : Option Addr) (ca : Nat) (n : Nat) (hn : n ≤ 9223372036854775807) (w : World) : Calls Tryd.prog 5 #[.int .i64 p, .int .i64 k, .slice A n ca] w fun e w' => e = .returned (.bool (smallB p k n)) ∧ w = w' := by
  unfold smallB
  by_cases h1 : p ≤ 10
  · rw [decide_eq_true h1, Bool.true_and]
    by_cases h2 : k ≤ 6
    · rw [decide_eq_true h2, Bool.true_and]
      by_cases h3 : n ≤ 60
      · rw [decide_eq_true h3]
        have e3 : decide ((n : Int) ≤ 60) = true := by simp; omega
        go_enter Tryd.func5, Tryd.ntmps5
        go_wp2_with fail
        go_ret
        exact ⟨rfl, rfl⟩
      · rw [decide_eq_false h3]
        have e3 : decide ((n : Int) ≤ 60) = false := by simp; omega
        go_enter Tryd.func5, Tryd.ntmps5
        go_wp2_with fail
        go_ret
        exact ⟨rfl, rfl⟩
    · rw [decide_eq_false h2, Bool.false_and]
      have e2 : decide (k ≤ 6) = false := decide_eq_false h2
      go_enter Tryd.func5, Tryd.ntmps5
      go_wp2_with fail
      go_ret
      exact ⟨rfl, rfl⟩
  · rw [decide_eq_false h1, Bool.false_and]
    have e1 : decide (p ≤ 10) = false := decide_eq_false h1
    go_enter Tryd.func5, Tryd.ntmps5
    go_wp2_with fail
    go_ret
    exact ⟨rfl, rfl⟩
theorem dims_box (w : World) (d0 d1 : Int) : Below w.heap.size w (w.alloc (.cells #[.int .i64 d0, .int .i64 d1] 22)) ∧ ∀ o, (w.alloc (.cells #[.int .i64 d0, .int .i64 d1] 22)).cell? ⟨w.heap.size, o, none⟩ = (#[.int .i64 d0, .int .i64 d1] : Array Value)[o]? :=
  ⟨(Below.refl _ _).alloc (Nat.le_refl _) _, fun o => Lib.cell_of_heap (heap_alloc_new w _) o⟩
end Go.Proofs.YtccmlmahjgndbaaDoor.SemSw
/- Models by what follows: members and being in, of rows of rules; rules turned round and doubled. -/
namespace Go.Proofs.YtccmlmahjgndbaaDoor.SemGa
set_option linter.unusedVariables false
set_option linter.unusedSimpArgs false
open Go.RowKit Go.Lib Go.Proofs Go.Proofs.YtccmlmahjgndbaaDoor.SetA Go.Proofs.YtccmlmahjgndbaaDoor.SetB Go.Proofs.YtccmlmahjgndbaaDoor.SetC Go.Proofs.YtccmlmahjgndbaaDoor.SetD Go.Proofs.YtccmlmahjgndbaaDoor.SetJ Go.Proofs.YtccmlmahjgndbaaDoor.SetN Go.Proofs.YtccmlmahjgndbaaDoor.SetQ Go.Proofs.YtccmlmahjgndbaaDoor.SetR Go.Proofs.YtccmlmahjgndbaaDoor.TblB Go.Proofs.YtccmlmahjgndbaaDoor.TblC Go.Proofs.YtccmlmahjgndbaaDoor.TblV Go.Proofs.YtccmlmahjgndbaaDoor.TblP Go.Proofs.YtccmlmahjgndbaaDoor.TblQ Go.Proofs.YtccmlmahjgndbaaDoor.SemA Go.Proofs.YtccmlmahjgndbaaDoor.SemB Go.Proofs.YtccmlmahjgndbaaDoor.SemH Go.Proofs.YtccmlmahjgndbaaDoor.SemI Go.Proofs.YtccmlmahjgndbaaDoor.SemJ Go.Proofs.YtccmlmahjgndbaaDoor.SemK
set_option linter.unusedVariables false
set_option linter.unusedSimpArgs false
section
variable {P : Program} (w : World)
theorem step_append_from {ops : Array Oper} {o : Oper} {a : Act} {K : Act → World → Prop} {Q : Exit → Act → World → Prop} {E : Prop} (hgd : o.guard = none) (s x : Operand) (t : TypeId)
    (ho : o.op = .call { callee := .builtin .append, args := #[s, x], argTypes := #[t, t] })
    (base : Nat) (e : TypeId) (i : TypeInfo) (z : Value) (size bytes : Nat) (ht : P.underlying t = some (.slice e)) (hi : P.info? e = some i) (hz : i.zero = some z)
    (hsize : i.size = size) (hby : i.bytes = bytes) (hzs : z.cells.size = size) (hsz : 0 < size) (v : Value) (n : Nat) (xs : List Value) (hs : a.eval s = v) (hown : w.ownsRow base e size v n xs)
    (A : Option Addr) (m c : Nat) (news : List Value) (hx : a.eval x = .slice A m c) (hlen : news.length = m * size) (h0 : A = none → m = 0) (hA : ∀ ad, A = some ad → ∀ j u, news[j]? = some u → w.cell? (ad.add j) = some u) (h1 : ∀ u ∈ news, u.oneCell' = true)
    (h63 : n + m ≤ maxLen) (hbytes : (n + m) * bytes ≤ 140737488355328) (hbase : base ≤ w.heap.size)
    (h : ∀ v' w', w'.ownsRow base e size v' (n + m) (xs ++ news) → w.grownBy w' v.ownBlock → K (a.put o.dst v') w') :
    if Region.wanted o (yielded ops a.tmps) = true then Oper.wp P o a w K Q else E := by
  have hw : Region.wanted o (yielded ops a.tmps) = true := by simp [Region.wanted, hgd]
  rw [if_pos hw]
  obtain ⟨v', w', hr, h2, h3⟩ := SynC.run_append_from (P := P) w base t o.type e i z size bytes ht hi hz hsize hby hzs hsz v n xs hown A m c news hlen h0 hA h1 h63 hbytes hbase
  unfold Oper.wp execOp
  simp only [ho, resolve, invoke, builtin, Sem.run_bind, Sem.run_pure, Result.andThen_ok, List.map_toArray, List.map_cons, List.map_nil, hs, hx, hr]
  exact h v' w' h2 h3
end
theorem own_n {w : World} {B n k : Nat} {e : TypeId} {v : Value} {xs : List Value} (h : w.ownsRow B e k v n xs) : ∃ A c, v = .slice A n c := by
  rcases h.2 with ⟨rfl, rfl⟩ | ⟨g, cap, cur, rfl, _⟩
  · exact ⟨none, 0, rfl⟩
  · exact ⟨_, cap, rfl⟩
theorem below_grown {W w w1 : World} {B n k : Nat} {e : TypeId} {v : Value} {xs : List Value} (hb : Below W.heap.size W w) (ho : w.ownsRow B e k v n xs) (hg : w.grownBy w1 v.ownBlock) (hB : W.heap.size ≤ B) (hBw : B ≤ w.heap.size) : Below W.heap.size W w1 :=
  hb.grown hg (by omega) (fun j hj => Nat.le_trans hB (ho.lt j hj).1)
/-- A model in memory of a row of rules. -/
def Mo (w : World) (mo P K : Nat) (T : List Ru) : Prop := ∃ B R M all st, MoAt w mo B R (P * K) P K M all st ∧ ∀ r x, (r, x) ∈ all ↔ Der K (T.filter (rightU P K)) r x
theorem Mo.below {w w' : World} {mo P K : Nat} {T : List Ru} (h : Mo w mo P K T) (hb : Below w.heap.size w w') : Mo w' mo P K T := by
  obtain ⟨B, R, M, all, st, hm, hd⟩ := h
  exact ⟨B, R, M, all, st, hm.below hb, hd⟩
def MPost (P K : Nat) (T : List Ru) (w : World) (e : Ending) (w' : World) : Prop := ∃ mo : Nat, e = .returned (.pointer (some ⟨mo, 0, none⟩)) ∧ Mo w' mo P K T ∧ Below w.heap.size w w'
theorem evalM (d0 d1 : Int) (A : Option Addr) (ca : Nat) (L : List Ru) (w : World) (hT : Tab w) (hL : L.length ≤ 1000) (hA : UG w A L) :
    Calls Tryd.prog 7 #[.int .i64 d0, .int .i64 d1, .slice A L.length ca] w (MPost (SetA.within d0 64).toNat (SetA.within d1 64).toNat L w) := by
  refine (eval d0 d1 A ca L w hT hL hA).mono ?_
  rintro e w' ⟨mo, B, R, M, all, st, he, hm, hb, hd, _⟩
  exact ⟨mo, he, ⟨B, R, M, all, st, hm, hd⟩, hb⟩
noncomputable def derB (P K : Nat) (T : List Ru) (r x : Int) : Bool := @decide (Der K (T.filter (rightU P K)) r x) (Classical.propDecidable _)
theorem derB_iff {P K : Nat} {T : List Ru} {r x : Int} : derB P K T r x = true ↔ Der K (T.filter (rightU P K)) r x := @decide_eq_true_iff _ (Classical.propDecidable _)
noncomputable def memD (P K : Nat) (T : List Ru) (r : Int) : List Nat := (List.range P).filter fun x : Nat => derB P K T r (x : Int)
theorem mem_memD {P K : Nat} {T : List Ru} {r : Int} {x : Nat} : x ∈ memD P K T r ↔ x < P ∧ Der K (T.filter (rightU P K)) r (x : Int) := by
  unfold memD
  rw [List.mem_filter, List.mem_range, derB_iff]
theorem memD_len (P K : Nat) (T : List Ru) (r : Int) : (memD P K T r).length ≤ P := by
  unfold memD
  exact Nat.le_trans (List.length_filter_le _ _) (Nat.le_of_eq (List.length_range))
theorem list_memD {P K : Nat} {T : List Ru} {all : List Pr} (hd : ∀ r x, (r, x) ∈ all ↔ Der K (T.filter (rightU P K)) r x) (r : Int) : listL P all r = memD P K T r := by
  unfold listL memD
  refine List.filter_congr fun x _ => ?_
  exact has_of hd derB_iff.symm
theorem filter_mem {P K : Nat} {T T' : List Ru} (h : ∀ u ∈ T, u ∈ T') : ∀ u ∈ T.filter (rightU P K), u ∈ T'.filter (rightU P K) := fun u hu => by
  rw [List.mem_filter] at hu ⊢
  exact ⟨h u hu.1, hu.2⟩
theorem memD_same {P K : Nat} {T T' : List Ru} (h : ∀ u, u ∈ T ↔ u ∈ T') (r : Int) : memD P K T r = memD P K T' r := by
  unfold memD
  refine List.filter_congr fun x _ => ?_
  rw [Bool.eq_iff_iff, derB_iff, derB_iff]
  exact ⟨Der.mono (filter_mem fun u hu => (h u).1 hu), Der.mono (filter_mem fun u hu => (h u).2 hu)⟩
theorem membersM {w : World} {mo P K : Nat} {T : List Ru} (h : Mo w mo P K T) (ht : Tab w) (r : Int) : Calls Tryd.prog 12 #[.pointer (some ⟨mo, 0, none⟩), .int .i64 r] w (ListPost (memD P K T r) w) := by
  obtain ⟨B, R, M, all, st, hm, hd⟩ := h
  have h2 := members hm ht r
  rw [list_memD hd r] at h2
  exact h2
theorem inM {w : World} {mo P K : Nat} {T : List Ru} (h : Mo w mo P K T) (r x : Int) : Calls Tryd.prog 9 #[.pointer (some ⟨mo, 0, none⟩), .int .i64 r, .int .i64 x] w fun e w' => e = .returned (.bool (derB P K T r x)) ∧ ∃ q, w' = w.drewN q := by
  obtain ⟨B, R, M, all, st, hm, hd⟩ := h
  have h2 := in_ hm r x
  rw [has_of hd derB_iff.symm] at h2
  exact h2
/-- Rules turned round, and doubled: after j rounds. -/
def twU (L : List Ru) (j : Nat) : List Ru := (List.range j).flatMap fun k => [L.getD (L.length - 1 - k) zeroU, L.getD k zeroU]
theorem twU_succ (L : List Ru) (j : Nat) : twU L (j + 1) = twU L j ++ [L.getD (L.length - 1 - j) zeroU, L.getD j zeroU] := by
  unfold twU
  rw [List.range_succ, List.flatMap_append]
  simp
theorem twU_len (L : List Ru) : ∀ j, (twU L j).length = j + j
  | 0 => rfl
  | j + 1 => by rw [twU_succ, List.length_append, twU_len L j]; simp; omega
theorem getD_get {L : List Ru} {i : Nat} (h : i < L.length) : L.getD i zeroU = L[i] := by
  rw [List.getD_eq_getElem?_getD, List.getElem?_eq_getElem h]; rfl
theorem twU_mem (L : List Ru) (u : Ru) : u ∈ twU L L.length ↔ u ∈ L := by
  unfold twU
  rw [List.mem_flatMap]
  constructor
  · rintro ⟨k, hk, hu⟩
    rw [List.mem_range] at hk
    rw [List.mem_cons, List.mem_cons] at hu
    rcases hu with rfl | rfl | hu
    · rw [getD_get (by omega)]; exact List.getElem_mem _
    · rw [getD_get hk]; exact List.getElem_mem _
    · cases hu
  · intro hu
    obtain ⟨k, hk, rfl⟩ := List.mem_iff_getElem.1 hu
    exact ⟨k, List.mem_range.2 hk, by rw [getD_get hk]; simp⟩
theorem wrapS {z : Int} {n : Nat} (h : z = n) (hn : n ≤ 1000000) : IntKind.i64.wrap z = (n : Int) := by
  rw [h, IntKind.wrap_i64]; omega
end Go.Proofs.YtccmlmahjgndbaaDoor.SemGa
