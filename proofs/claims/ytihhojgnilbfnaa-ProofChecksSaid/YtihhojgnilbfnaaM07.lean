/- Uses and Proves by contract. -/
import Derived.Test.YtihhojgnilbfnaaM05
import Derived.Test.YtihhojgnilbfnaaShelf
import Derived.Lib.OwnBridge
import Derived.Sort.OwnSortedInts
import Derived.Test.YtihhojgnilbfnaaM03
namespace Go.Proofs.Ytihhojgnilbfnaa.PfY
set_option linter.unusedVariables false
set_option linter.unusedSimpArgs false
open Go.RowKit Go.Lib Go.Sort Go.Proofs Go.Maps Go.Proofs.Ytihhojgnilbfnaa.TblB Go.Proofs.Ytihhojgnilbfnaa.SetQ Go.Proofs.Ytihhojgnilbfnaa.SetR Go.Proofs.Ytihhojgnilbfnaa.TblC Go.Proofs.Ytihhojgnilbfnaa.TblV Go.Proofs.Ytihhojgnilbfnaa.TblQ Go.Proofs.Ytihhojgnilbfnaa.SetB Go.Proofs.Ytihhojgnilbfnaa.SetF Go.Proofs.Ytihhojgnilbfnaa.SetJ Go.Proofs.Ytihhojgnilbfnaa.SemB Go.Proofs.Ytihhojgnilbfnaa.SemC Go.Proofs.Ytihhojgnilbfnaa.SemD Go.Proofs.Ytihhojgnilbfnaa.SemGa Go.Proofs.Ytihhojgnilbfnaa.SemJ Go.Proofs.Ytihhojgnilbfnaa.PfM Go.Proofs.Ytihhojgnilbfnaa.PfN Go.Proofs.Ytihhojgnilbfnaa.PfO Go.Proofs.Ytihhojgnilbfnaa.PfA Go.Proofs.Ytihhojgnilbfnaa.PfB Go.Proofs.Ytihhojgnilbfnaa.PfC Go.Proofs.Ytihhojgnilbfnaa.PfE Go.Proofs.Ytihhojgnilbfnaa.PfJ Go.Proofs.Ytihhojgnilbfnaa.PfK Go.Proofs.Ytihhojgnilbfnaa.PfL Go.Proofs.Ytihhojgnilbfnaa.PfW Go.Proofs.Ytihhojgnilbfnaa.PfX
set_option linter.unusedVariables false
set_option linter.unusedSimpArgs false
def srtI (l : List Int) : List Int := l.mergeSort fun x y => decide (x ≤ y)
theorem srtI_len (l : List Int) : (srtI l).length = l.length := by unfold srtI; simp
theorem mem_compactI {zs : List Int} {x : Int} : x ∈ Lib.compact zs ↔ x ∈ zs := by
  constructor
  · intro h
    unfold Lib.compact Lib.compactUpTo at h
    obtain ⟨i, hi, rfl⟩ := List.mem_map.1 h
    have hi' : i < zs.length := List.mem_range.1 (List.mem_filter.1 hi).1
    simp [getElem!_pos, hi']
  · intro h
    obtain ⟨j, hj, rfl⟩ := List.getElem_of_mem h
    unfold Lib.compact Lib.compactUpTo
    have key : ∀ m, (hm : m < zs.length) → ∃ i, i ∈ (List.range zs.length).filter (Lib.keeps zs.toArray) ∧ zs.toArray[i]! = zs[m] := fun m => by
      induction m with
      | zero =>
        intro hm
        refine ⟨0, List.mem_filter.2 ⟨List.mem_range.2 hm, by simp [Lib.keeps]⟩, ?_⟩
        simp [getElem!_pos, hm]
      | succ m ih =>
        intro hm
        by_cases hk : Lib.keeps zs.toArray (m + 1) = true
        · refine ⟨m + 1, List.mem_filter.2 ⟨List.mem_range.2 hm, hk⟩, ?_⟩
          simp [getElem!_pos, hm]
        · obtain ⟨i, hi, e⟩ := ih (by omega)
          refine ⟨i, hi, e.trans ?_⟩
          have hm2 : m < zs.length := by omega
          simp [Lib.keeps, getElem!_pos, hm, hm2] at hk
          exact hk.symm
    obtain ⟨i, hi, e⟩ := key j hj
    exact List.mem_map.2 ⟨i, hi, e⟩
def usesL (T : List Sp) : List Int := Lib.compact (srtI (T.map Sp.rule))
theorem uses_mem {T : List Sp} {i : Int} : i ∈ usesL T ↔ ∃ s ∈ T, s.rule = i := by
  unfold usesL srtI
  rw [mem_compactI, List.mem_mergeSort, List.mem_map]
theorem sortI (B g n c : Nat) (ls : List Int) (w : World) (h : w.ownsRow B 3 1 (.slice (some ⟨g, 0, none⟩) n c) n (ls.map (Value.int .i64))) (hn : n ≤ 1000000) :
    Calls Try.prog 19 #[.slice (some ⟨g, 0, none⟩) n c] w fun e w' => e = .returned (.tuple #[]) ∧ w'.ownsRow B 3 1 (.slice (some ⟨g, 0, none⟩) n c) n ((srtI ls).map (Value.int .i64)) ∧ Below B w w' := by
  obtain ⟨g', cap', e1, hg, hlt, hnc, hm, hl, hH⟩ := Lib.holds_of_ownsRow h (by simp)
  injection e1 with e1 _ e3
  injection e1 with e1
  injection e1 with e1
  subst e1; subst e3
  obtain ⟨cur, hb, hs⟩ : ∃ cur, w.heap[g]? = some (.cells cur 3 (0, 0)) ∧ cur.size = c * 1 := by
    rcases h.2 with ⟨e0, _⟩ | ⟨g'', cap'', cur, e0, _, hh, _, _, hs, _⟩
    · simp at e0
    · injection e0 with e1 _ e3
      injection e1 with e1
      injection e1 with e1
      subst e1; subst e3
      exact ⟨cur, hh, hs⟩
  subst hl
  refine (Try.slices_Sort_int g 0 c ls w hH hlt (by omega)).mono ?_
  rintro e w' ⟨rfl, q, os, rfl⟩
  refine ⟨rfl, ownsRow_sortedI (srtI_len ls) hg hb hnc hm hs, (Below.refl B w).grown (grownBy_sortedI _) (by omega) (fun k hk => by injection hk with hk; omega)⟩
theorem compactI (B g n c : Nat) (ls : List Int) (w : World) (h : w.ownsRow B 3 1 (.slice (some ⟨g, 0, none⟩) n c) n (ls.map (Value.int .i64))) (hn : n ≤ 1000000) :
    Calls Try.prog 20 #[.slice (some ⟨g, 0, none⟩) n c] w fun e w' => ∃ v, e = .returned v ∧ w'.ownsRow B 3 1 v (Lib.compact ls).length ((Lib.compact ls).map (Value.int .i64)) ∧ Below B w w' := by
  obtain ⟨g', cap', e1, hg, hlt, hnc, hm, hl, hH⟩ := Lib.holds_of_ownsRow h (by simp)
  injection e1 with e1 _ e3
  injection e1 with e1
  injection e1 with e1
  subst e1; subst e3
  subst hl
  refine (Try.slices_Compact_int g 0 c ls w hH (by omega) (by omega)).mono ?_
  rintro e w' ⟨rfl, q, rfl⟩
  have hle := Lib.compact_length_le ls
  have h2 := Lib.ownsRow_putRow (q := q) (k := (Lib.compact ls).length) (ys := Lib.compact ls ++ List.replicate (ls.length - (Lib.compact ls).length) 0) h (by simp; omega) hle
  rw [List.take_left] at h2
  exact ⟨_, rfl, h2, Lib.below_putRow (Below.refl B w) hg⟩
def UsesPost (T : List Sp) (w : World) (e : Ending) (w' : World) : Prop :=
  ∃ v, e = .returned v ∧ w'.ownsRow w.heap.size 3 1 v (usesL T).length ((usesL T).map (Value.int .i64)) ∧ Below w.heap.size w w'
def rl (T : List Sp) (j : Nat) : List Int := (T.take j).map Sp.rule
theorem rl_succ {T : List Sp} {j : Nat} (h : j < T.length) : rl T (j + 1) = rl T j ++ [T[j].rule] := by
  unfold rl
  rw [List.take_succ_eq_append_getElem h, List.map_append]; rfl
theorem rl_len {T : List Sp} {j : Nat} (h : j ≤ T.length) : (rl T j).length = j := by unfold rl; simp; omega
set_option maxHeartbeats 1000000 in
set_option maxRecDepth 100000 in
theorem uses (B : Option Addr) (cb : Nat) (T : List Sp) (w : World) (hT : T.length ≤ 100000) (h0 : 0 < T.length) (hB : TG w B T) :
    Calls Try.prog 9 #[.slice B T.length cb] w (UsesPost T w) := by
  unfold UsesPost
  obtain ⟨UT, hUT⟩ : ∃ l, usesL T = l := ⟨_, rfl⟩
  rw [hUT]
  have HB := Lib.hid (fun w' (hb : Below w.heap.size w w') => hB.below hb)
  clear hB
  obtain ⟨i0, hi, hz0, hz1, hz2⟩ := info_parts infoInt
  go_enter Try.func9, Try.ntmps9
  go_wp2_with fail
  go_loopw [3, 8] (fun l i wr => ∃ j : Nat, j ≤ T.length ∧ i = .int .i64 j ∧ Hid (wr.ownsRow w.heap.size 3 1 l (rl T j).length ((rl T j).map (Value.int .i64))) ∧ Below w.heap.size w wr) (fun _ i _ => T.length - (intOf i).toNat)
  case atStart => exact ⟨0, by omega, rfl, Lib.hid (World.ownsRow_nil _ _ _ _), Below.refl _ _⟩
  case round =>
    obtain ⟨j, hj, rfl, hown, hb⟩ := hrel
    by_cases hlt : j < T.length
    · have d1 : decide ((j : Int) < T.length) = true := by simp; omega
      obtain ⟨g, o, rfl, hg, hc⟩ := HB.out _ hb (by omega)
      have hc2 := hc j hlt
      have HSk := Lib.hid (rl_succ hlt)
      have hlj := rl_len (T := T) hj
      have q0 : (0 : Int) ≤ j := by omega
      have q1 : (j : Int) < T.length := by omega
      clear hc
      generalize T[j] = s at *
      obtain ⟨s0, s1, s2, s3⟩ := s
      simp only [Sp.cells] at hc2
      simp only at HSk
      have y0 : wr.cell? ⟨g, o + j * 4, none⟩ = some (.int .i64 s0) := hc2 0 (by omega)
      have y1 : wr.cell? ⟨g, o + j * 4 + 1, none⟩ = some (.int .i64 s1) := hc2 1 (by omega)
      have y2 : wr.cell? ⟨g, o + j * 4 + 2, none⟩ = some (.int .i64 s2) := hc2 2 (by omega)
      have y3 : wr.cell? ⟨g, o + j * 4 + 3, none⟩ = some (.int .i64 s3) := hc2 3 (by omega)
      clear hc2
      have hn := heap_alloc_new wr (.cells #[.int .i64 s0, .int .i64 s1, .int .i64 s2, .int .i64 s3] 30)
      have hbn := hb.alloc hb.size (.cells #[.int .i64 s0, .int .i64 s1, .int .i64 s2, .int .i64 s3] 30)
      have hown2 := own_below hown.out ((Below.refl wr.heap.size wr).alloc (Nat.le_refl _) (.cells #[.int .i64 s0, .int .i64 s1, .int .i64 s2, .int .i64 s3] 30))
      go_upto_region 5 with fail
      obtain ⟨w2, hw2⟩ : ∃ x, wr.alloc (.cells #[.int .i64 s0, .int .i64 s1, .int .i64 s2, .int .i64 s3] 30) = x := ⟨_, rfl⟩
      rw [hw2] at hn hbn hown2 ⊢
      have cs := fun o => Lib.cell_of_heap hn o
      have HB2 := Lib.hid hbn
      have hz : w.heap.size ≤ w2.heap.size := HB2.out.size
      clear hw2 y0 y1 y2 y3 hn hbn hown hb
      go_wp2_with (at_builtin; refine wpList_append_own _ rfl _ _ 28 rfl w.heap.size 3 i0 (.int .i64 0) 1 8 Try.underlying28 hi hz0 hz1 hz2 rfl (by decide) _ _ _ rfl (hown2.alloc _) ⟨w2.heap.size, 0, none⟩ 1 1 [.int .i64 s0] rfl rfl ?c1 ?c2 ?c3 ?c4 ?c5 ?_)
      case c1 => exact new_cell1 _ _ _
      case c2 => intro u hu; simp at hu; subst hu; rfl
      case c3 => unfold maxLen; omega
      case c4 => omega
      case c5 => simp; omega
      intro v' w3 hown' hgrow _
      have hown3 : w3.ownsRow w.heap.size 3 1 v' (rl T (j + 1)).length ((rl T (j + 1)).map (Value.int .i64)) := by
        rw [HSk.out, List.map_append, List.length_append]
        rw [hlj]
        simpa using hown'
      have hbel3 := below_own HB2.out hown2 hgrow
      have HO3 := Lib.hid hown3
      have HB3 := Lib.hid hbel3
      clear hown' hown2 hgrow hown3 hbel3 cs
      go_wp2_with fail
      go_roundw
      case rel => exact ⟨j + 1, by omega, by go_num, HO3, HB3.out⟩
      case measure => simp [intOf]; omega
    · have d1 : decide ((j : Int) < T.length) = false := by simp; omega
      have hjT : j = T.length := by omega
      subst hjT
      have hown2 := hown.out
      have eT : rl T T.length = T.map Sp.rule := by unfold rl; rw [List.take_length]
      rw [eT, List.length_map] at hown2
      have hlen : T.length ≤ 1000000 := by omega
      obtain ⟨g, c, hv⟩ : ∃ g c, u3 = .slice (some ⟨g, 0, none⟩) T.length c := by
        rcases hown2.2 with ⟨_, hn⟩ | ⟨g, cap, cur, e, _⟩
        · omega
        · exact ⟨g, cap, e⟩
      subst hv
      have HS := Lib.hid (sortI _ g _ c (T.map Sp.rule) wr hown2 hlen)
      have HC := Lib.hid (fun w' h => compactI w.heap.size g T.length c (srtI (T.map Sp.rule)) w' h hlen)
      have eU : Lib.compact (srtI (T.map Sp.rule)) = usesL T := rfl
      rw [eU, hUT] at HC
      generalize srtI (T.map Sp.rule) = ST at *
      have HBk := Lib.hid hb
      clear hb hown hown2 eT eU hUT
      go_wp2_with fail
      refine HS.out.mono ?_
      rintro e w4 ⟨rfl, hown4, hb4⟩
      have HB4 := Lib.hid (HBk.out.trans hb4)
      have HC4 := Lib.hid (HC.out _ hown4)
      clear hown4 hb4 HC HS
      go_wp2_with fail
      refine HC4.out.mono ?_
      rintro e w5 ⟨v, rfl, hown5, hb5⟩
      have HO5 := Lib.hid hown5
      have HB5 := Lib.hid (HB4.out.trans hb5)
      clear hown5 hb5 HC4
      go_wp2_with fail
      go_ret
      exact ⟨v, rfl, HO5.out, HB5.out⟩
set_option maxHeartbeats 1000000 in
set_option maxRecDepth 100000 in
theorem proves (d0 d1 : Int) (A : Option Addr) (ca : Nat) (L : List Ru) (r x : Int) (B : Option Addr) (cb : Nat) (T : List Sp) (w : World) (g1 : d0 ≤ 64) (g2 : d1 ≤ 64) (hL : L.length ≤ 1000) (m : Nat) (hm : T.length = m + 1) (hT : m ≤ 1000) (hA : UG w A L) (hB : TG w B T) (hI : ∀ s ∈ T, InR s.fa) (hl : T[m].role = r ∧ T[m].who = x) :
    Calls Try.prog 11 #[.int .i64 d0, .int .i64 d1, .slice A L.length ca, .int .i64 r, .int .i64 x, .slice B T.length cb] w fun e w' => e = .returned (.bool (chk d0.toNat d1.toNat L [] T)) ∧ Below w.heap.size w w' := by
  have HC := Lib.hid (fun w' (hb : Below w.heap.size w w') => checkP d0 d1 A ca L B cb T w' g1 g2 hL (by omega) (hA.below hb) (hB.below hb) hI)
  generalize chk d0.toNat d1.toNat L [] T = ans at *
  obtain ⟨g, o, rfl, hg, hc⟩ := hB (by omega)
  have hc2 := hc m (by omega)
  obtain ⟨rfl, rfl⟩ := hl
  clear hA hB hI hc
  generalize T[m] = s at *
  rw [hm] at HC ⊢
  obtain ⟨s0, s1, s2, s3⟩ := s
  simp only [Sp.cells] at hc2
  have y0 : w.cell? ⟨g, o + m * 4, none⟩ = some (.int .i64 s0) := hc2 0 (by omega)
  have y1 : w.cell? ⟨g, o + m * 4 + 1, none⟩ = some (.int .i64 s1) := hc2 1 (by omega)
  have y2 : w.cell? ⟨g, o + m * 4 + 2, none⟩ = some (.int .i64 s2) := hc2 2 (by omega)
  have y3 : w.cell? ⟨g, o + m * 4 + 3, none⟩ = some (.int .i64 s3) := hc2 3 (by omega)
  have hn := heap_alloc_new w (.cells #[.int .i64 s0, .int .i64 s1, .int .i64 s2, .int .i64 s3] 30)
  have hb := (Below.refl w.heap.size w).alloc (Nat.le_refl _) (.cells #[.int .i64 s0, .int .i64 s1, .int .i64 s2, .int .i64 s3] 30)
  have cs := fun o => Lib.cell_of_heap hn o
  have HB := Lib.hid hb
  have hw1 : IntKind.i64.wrap ((m : Int) + 1 - 1) = m := by rw [IntKind.wrap_i64]; omega
  have hw2 : IntKind.i64.wrap (m : Int) = m := by rw [IntKind.wrap_i64]; omega
  have e0 : (((m : Int) + 1) == 0) = false := by simp; omega
  have q0 : (0 : Int) ≤ m := by omega
  have q1 : (m : Int) < ((m + 1 : Nat) : Int) := by omega
  have q2 : (m : Int) < (m : Int) + 1 := by omega
  clear hc2 hn hb hm
  simp only
  go_enter Try.func11, Try.ntmps11
  go_wp2_with fail
  refine (HC.out _ HB.out).mono ?_
  rintro e w2 ⟨rfl, hb2⟩
  have HB2 := Lib.hid (HB.out.trans (hb2.mono HB.out.size))
  clear hb2 HC cs y0 y1 y2 y3
  go_wp2_with fail
  go_ret
  exact ⟨rfl, HB2.out⟩
end Go.Proofs.Ytihhojgnilbfnaa.PfY
/- The document's Needed, by contract. -/
namespace Go.Proofs.Ytihhojgnilbfnaa.PfS4
set_option linter.unusedVariables false
set_option linter.unusedSimpArgs false
open Go.RowKit Go.Lib Go.Proofs Go.Maps Go.Proofs.Ytihhojgnilbfnaa.TblB Go.Proofs.Ytihhojgnilbfnaa.TblC Go.Proofs.Ytihhojgnilbfnaa.TblV Go.Proofs.Ytihhojgnilbfnaa.TblP Go.Proofs.Ytihhojgnilbfnaa.TblQ Go.Proofs.Ytihhojgnilbfnaa.SemB Go.Proofs.Ytihhojgnilbfnaa.PfM Go.Proofs.Ytihhojgnilbfnaa.PfN Go.Proofs.Ytihhojgnilbfnaa.PfO Go.Proofs.Ytihhojgnilbfnaa.PfB Go.Proofs.Ytihhojgnilbfnaa.PfE Go.Proofs.Ytihhojgnilbfnaa.PfJ Go.Proofs.Ytihhojgnilbfnaa.PfL Go.Proofs.Ytihhojgnilbfnaa.PfS1
set_option linter.unusedVariables false
set_option linter.unusedSimpArgs false
set_option maxHeartbeats 2000000 in
set_option maxRecDepth 100000 in
theorem need1 (K : Nat) (A : Option Addr) (ca : Nat) (L : List Ru) (j : Nat) (s1 x m r y : Int) (hj : j < L.length) (u1 u2 u3 u4 u5 : Int) (hu : L[j] = ⟨1, u1, u2, u3, u4, u5⟩) (w : World) (g2 : K ≤ 6) (hL : L.length ≤ 60) (hA : UG w A L) :
    Calls Try.prog 16 #[.int .i64 K, .slice A L.length ca, .agg #[.int .i64 j, .int .i64 s1, .int .i64 x, .int .i64 m], .int .i64 r, .int .i64 y] w fun e w' => e = .returned (.bool false) ∧ Below w.heap.size w w' := by
  have q0 : (0 : Int) ≤ j := by omega
  have q1 : (j : Int) < L.length := by omega
  obtain ⟨g, o, rfl, hg, hc⟩ := hA (by omega)
  have HC := fun w' (hb : Below w.heap.size w w') (k : Nat) (hk : k < 6) => (hb.cell (p := ⟨g, o + j * 6 + k, none⟩) hg).trans (hc j hj k hk)
  rw [hu] at HC
  unfold Ru.cells at HC
  simp only at HC
  have hb0 : Below w.heap.size w ((w.alloc (.cells #[.int .i64 j, .int .i64 s1, .int .i64 x, .int .i64 m] 30)).alloc (.cells #[.int .i64 1, .int .i64 u1, .int .i64 u2, .int .i64 u3, .int .i64 u4, .int .i64 u5] 44)) := ((Below.refl _ _).alloc (Nat.le_refl _) _).alloc (by rw [World.size_alloc]; omega) _
  have HB := Lib.hid hb0
  have hd1 := heap_alloc2_old w (.cells #[.int .i64 j, .int .i64 s1, .int .i64 x, .int .i64 m] 30) (.cells #[.int .i64 1, .int .i64 u1, .int .i64 u2, .int .i64 u3, .int .i64 u4, .int .i64 u5] 44)
  have hd2 := heap_alloc2_new w (.cells #[.int .i64 j, .int .i64 s1, .int .i64 x, .int .i64 m] 30) (.cells #[.int .i64 1, .int .i64 u1, .int .i64 u2, .int .i64 u3, .int .i64 u4, .int .i64 u5] 44)
  have c1 := fun o => Lib.cell_of_heap hd1 o
  have c2 := fun o => Lib.cell_of_heap hd2 o
  have hba : Below w.heap.size w (w.alloc (.cells #[.int .i64 j, .int .i64 s1, .int .i64 x, .int .i64 m] 30)) := (Below.refl _ _).alloc (Nat.le_refl _) _
  have k0 : (w.alloc (.cells #[.int .i64 j, .int .i64 s1, .int .i64 x, .int .i64 m] 30)).cell? ⟨g, o + j * 6, none⟩ = some (.int .i64 1) := HC _ hba 0 (by omega)
  have k1 : (w.alloc (.cells #[.int .i64 j, .int .i64 s1, .int .i64 x, .int .i64 m] 30)).cell? ⟨g, o + j * 6 + 1, none⟩ = some (.int .i64 u1) := HC _ hba 1 (by omega)
  have k2 : (w.alloc (.cells #[.int .i64 j, .int .i64 s1, .int .i64 x, .int .i64 m] 30)).cell? ⟨g, o + j * 6 + 2, none⟩ = some (.int .i64 u2) := HC _ hba 2 (by omega)
  have k3 : (w.alloc (.cells #[.int .i64 j, .int .i64 s1, .int .i64 x, .int .i64 m] 30)).cell? ⟨g, o + j * 6 + 3, none⟩ = some (.int .i64 u3) := HC _ hba 3 (by omega)
  have k4 : (w.alloc (.cells #[.int .i64 j, .int .i64 s1, .int .i64 x, .int .i64 m] 30)).cell? ⟨g, o + j * 6 + 4, none⟩ = some (.int .i64 u4) := HC _ hba 4 (by omega)
  have k5 : (w.alloc (.cells #[.int .i64 j, .int .i64 s1, .int .i64 x, .int .i64 m] 30)).cell? ⟨g, o + j * 6 + 5, none⟩ = some (.int .i64 u5) := HC _ hba 5 (by omega)
  clear hA hc hu HC hb0 hba hd1 hd2
  all_goals
    go_enter Try.func16, Try.ntmps16
    go_wp2_with fail
    go_ret
    exact ⟨rfl, HB.out⟩
set_option maxHeartbeats 2000000 in
set_option maxRecDepth 100000 in
theorem need2 (K : Nat) (A : Option Addr) (ca : Nat) (L : List Ru) (j : Nat) (s1 x m r y : Int) (hj : j < L.length) (u1 u2 u3 u4 u5 : Int) (hu : L[j] = ⟨2, u1, u2, u3, u4, u5⟩) (w : World) (g2 : K ≤ 6) (hL : L.length ≤ 60) (hA : UG w A L) :
    Calls Try.prog 16 #[.int .i64 K, .slice A L.length ca, .agg #[.int .i64 j, .int .i64 s1, .int .i64 x, .int .i64 m], .int .i64 r, .int .i64 y] w fun e w' => e = .returned (.bool ((u3 == r) && (x == y))) ∧ Below w.heap.size w w' := by
  have q0 : (0 : Int) ≤ j := by omega
  have q1 : (j : Int) < L.length := by omega
  obtain ⟨g, o, rfl, hg, hc⟩ := hA (by omega)
  have HC := fun w' (hb : Below w.heap.size w w') (k : Nat) (hk : k < 6) => (hb.cell (p := ⟨g, o + j * 6 + k, none⟩) hg).trans (hc j hj k hk)
  rw [hu] at HC
  unfold Ru.cells at HC
  simp only at HC
  have hb0 : Below w.heap.size w ((w.alloc (.cells #[.int .i64 j, .int .i64 s1, .int .i64 x, .int .i64 m] 30)).alloc (.cells #[.int .i64 2, .int .i64 u1, .int .i64 u2, .int .i64 u3, .int .i64 u4, .int .i64 u5] 44)) := ((Below.refl _ _).alloc (Nat.le_refl _) _).alloc (by rw [World.size_alloc]; omega) _
  have HB := Lib.hid hb0
  have hd1 := heap_alloc2_old w (.cells #[.int .i64 j, .int .i64 s1, .int .i64 x, .int .i64 m] 30) (.cells #[.int .i64 2, .int .i64 u1, .int .i64 u2, .int .i64 u3, .int .i64 u4, .int .i64 u5] 44)
  have hd2 := heap_alloc2_new w (.cells #[.int .i64 j, .int .i64 s1, .int .i64 x, .int .i64 m] 30) (.cells #[.int .i64 2, .int .i64 u1, .int .i64 u2, .int .i64 u3, .int .i64 u4, .int .i64 u5] 44)
  have c1 := fun o => Lib.cell_of_heap hd1 o
  have c2 := fun o => Lib.cell_of_heap hd2 o
  have hba : Below w.heap.size w (w.alloc (.cells #[.int .i64 j, .int .i64 s1, .int .i64 x, .int .i64 m] 30)) := (Below.refl _ _).alloc (Nat.le_refl _) _
  have k0 : (w.alloc (.cells #[.int .i64 j, .int .i64 s1, .int .i64 x, .int .i64 m] 30)).cell? ⟨g, o + j * 6, none⟩ = some (.int .i64 2) := HC _ hba 0 (by omega)
  have k1 : (w.alloc (.cells #[.int .i64 j, .int .i64 s1, .int .i64 x, .int .i64 m] 30)).cell? ⟨g, o + j * 6 + 1, none⟩ = some (.int .i64 u1) := HC _ hba 1 (by omega)
  have k2 : (w.alloc (.cells #[.int .i64 j, .int .i64 s1, .int .i64 x, .int .i64 m] 30)).cell? ⟨g, o + j * 6 + 2, none⟩ = some (.int .i64 u2) := HC _ hba 2 (by omega)
  have k3 : (w.alloc (.cells #[.int .i64 j, .int .i64 s1, .int .i64 x, .int .i64 m] 30)).cell? ⟨g, o + j * 6 + 3, none⟩ = some (.int .i64 u3) := HC _ hba 3 (by omega)
  have k4 : (w.alloc (.cells #[.int .i64 j, .int .i64 s1, .int .i64 x, .int .i64 m] 30)).cell? ⟨g, o + j * 6 + 4, none⟩ = some (.int .i64 u4) := HC _ hba 4 (by omega)
  have k5 : (w.alloc (.cells #[.int .i64 j, .int .i64 s1, .int .i64 x, .int .i64 m] 30)).cell? ⟨g, o + j * 6 + 5, none⟩ = some (.int .i64 u5) := HC _ hba 5 (by omega)
  clear hA hc hu HC hb0 hba hd1 hd2
  obtain ⟨b1, d1⟩ : ∃ b, (u3 == r) = b := ⟨_, rfl⟩
  rw [d1]
  obtain ⟨b2, d2⟩ : ∃ b, (x == y) = b := ⟨_, rfl⟩
  rw [d2]
  cases b1 <;> cases b2
  all_goals
    go_enter Try.func16, Try.ntmps16
    go_wp2_with fail
    go_ret
    exact ⟨rfl, HB.out⟩
set_option maxHeartbeats 2000000 in
set_option maxRecDepth 100000 in
theorem need3 (K : Nat) (A : Option Addr) (ca : Nat) (L : List Ru) (j : Nat) (s1 x m r y : Int) (hj : j < L.length) (u1 u2 u3 u4 u5 : Int) (hu : L[j] = ⟨3, u1, u2, u3, u4, u5⟩) (w : World) (g2 : K ≤ 6) (hL : L.length ≤ 60) (hA : UG w A L) (m0 : 0 ≤ m ∧ m < 10) (b5 : 0 ≤ u5 ∧ u5 < K) :
    Calls Try.prog 16 #[.int .i64 K, .slice A L.length ca, .agg #[.int .i64 j, .int .i64 s1, .int .i64 x, .int .i64 m], .int .i64 r, .int .i64 y] w fun e w' => e = .returned (.bool (((u3 == r) && (m == y)) || ((m * K + u5 == r) && (x == y)))) ∧ Below w.heap.size w w' := by
  have q0 : (0 : Int) ≤ j := by omega
  have q1 : (j : Int) < L.length := by omega
  obtain ⟨g, o, rfl, hg, hc⟩ := hA (by omega)
  have HC := fun w' (hb : Below w.heap.size w w') (k : Nat) (hk : k < 6) => (hb.cell (p := ⟨g, o + j * 6 + k, none⟩) hg).trans (hc j hj k hk)
  rw [hu] at HC
  unfold Ru.cells at HC
  simp only at HC
  have b6 : 0 ≤ m * K ∧ m * K ≤ 60 := by
    obtain ⟨m', rfl⟩ : ∃ n : Nat, m = n := ⟨m.toNat, by omega⟩
    have : m' * K ≤ 10 * 6 := Nat.mul_le_mul (by omega) g2
    constructor
    · exact_mod_cast Nat.zero_le _
    · exact_mod_cast this
  have v1 : IntKind.i64.wrap (m * K) = m * K := by rw [IntKind.wrap_i64]; omega
  have v2 : IntKind.i64.wrap (m * K + u5) = m * K + u5 := by rw [IntKind.wrap_i64]; omega
  have hb0 : Below w.heap.size w ((w.alloc (.cells #[.int .i64 j, .int .i64 s1, .int .i64 x, .int .i64 m] 30)).alloc (.cells #[.int .i64 3, .int .i64 u1, .int .i64 u2, .int .i64 u3, .int .i64 u4, .int .i64 u5] 44)) := ((Below.refl _ _).alloc (Nat.le_refl _) _).alloc (by rw [World.size_alloc]; omega) _
  have HB := Lib.hid hb0
  have hd1 := heap_alloc2_old w (.cells #[.int .i64 j, .int .i64 s1, .int .i64 x, .int .i64 m] 30) (.cells #[.int .i64 3, .int .i64 u1, .int .i64 u2, .int .i64 u3, .int .i64 u4, .int .i64 u5] 44)
  have hd2 := heap_alloc2_new w (.cells #[.int .i64 j, .int .i64 s1, .int .i64 x, .int .i64 m] 30) (.cells #[.int .i64 3, .int .i64 u1, .int .i64 u2, .int .i64 u3, .int .i64 u4, .int .i64 u5] 44)
  have c1 := fun o => Lib.cell_of_heap hd1 o
  have c2 := fun o => Lib.cell_of_heap hd2 o
  have hba : Below w.heap.size w (w.alloc (.cells #[.int .i64 j, .int .i64 s1, .int .i64 x, .int .i64 m] 30)) := (Below.refl _ _).alloc (Nat.le_refl _) _
  have k0 : (w.alloc (.cells #[.int .i64 j, .int .i64 s1, .int .i64 x, .int .i64 m] 30)).cell? ⟨g, o + j * 6, none⟩ = some (.int .i64 3) := HC _ hba 0 (by omega)
  have k1 : (w.alloc (.cells #[.int .i64 j, .int .i64 s1, .int .i64 x, .int .i64 m] 30)).cell? ⟨g, o + j * 6 + 1, none⟩ = some (.int .i64 u1) := HC _ hba 1 (by omega)
  have k2 : (w.alloc (.cells #[.int .i64 j, .int .i64 s1, .int .i64 x, .int .i64 m] 30)).cell? ⟨g, o + j * 6 + 2, none⟩ = some (.int .i64 u2) := HC _ hba 2 (by omega)
  have k3 : (w.alloc (.cells #[.int .i64 j, .int .i64 s1, .int .i64 x, .int .i64 m] 30)).cell? ⟨g, o + j * 6 + 3, none⟩ = some (.int .i64 u3) := HC _ hba 3 (by omega)
  have k4 : (w.alloc (.cells #[.int .i64 j, .int .i64 s1, .int .i64 x, .int .i64 m] 30)).cell? ⟨g, o + j * 6 + 4, none⟩ = some (.int .i64 u4) := HC _ hba 4 (by omega)
  have k5 : (w.alloc (.cells #[.int .i64 j, .int .i64 s1, .int .i64 x, .int .i64 m] 30)).cell? ⟨g, o + j * 6 + 5, none⟩ = some (.int .i64 u5) := HC _ hba 5 (by omega)
  clear hA hc hu HC hb0 hba hd1 hd2
  obtain ⟨b1, d1⟩ : ∃ b, (u3 == r) = b := ⟨_, rfl⟩
  rw [d1]
  obtain ⟨b2, d2⟩ : ∃ b, (m == y) = b := ⟨_, rfl⟩
  rw [d2]
  obtain ⟨b3, d3⟩ : ∃ b, (m * K + u5 == r) = b := ⟨_, rfl⟩
  rw [d3]
  obtain ⟨b4, d4⟩ : ∃ b, (x == y) = b := ⟨_, rfl⟩
  rw [d4]
  cases b1 <;> cases b2 <;> cases b3 <;> cases b4
  all_goals
    go_enter Try.func16, Try.ntmps16
    go_wp2_with fail
    go_ret
    exact ⟨rfl, HB.out⟩
set_option maxHeartbeats 2000000 in
set_option maxRecDepth 100000 in
theorem need4 (K : Nat) (A : Option Addr) (ca : Nat) (L : List Ru) (j : Nat) (s1 x m r y : Int) (hj : j < L.length) (u1 u2 u3 u4 u5 : Int) (hu : L[j] = ⟨4, u1, u2, u3, u4, u5⟩) (w : World) (g2 : K ≤ 6) (hL : L.length ≤ 60) (hA : UG w A L) :
    Calls Try.prog 16 #[.int .i64 K, .slice A L.length ca, .agg #[.int .i64 j, .int .i64 s1, .int .i64 x, .int .i64 m], .int .i64 r, .int .i64 y] w fun e w' => e = .returned (.bool ((x == y) && ((u3 == r) || (u4 == r)))) ∧ Below w.heap.size w w' := by
  have q0 : (0 : Int) ≤ j := by omega
  have q1 : (j : Int) < L.length := by omega
  obtain ⟨g, o, rfl, hg, hc⟩ := hA (by omega)
  have HC := fun w' (hb : Below w.heap.size w w') (k : Nat) (hk : k < 6) => (hb.cell (p := ⟨g, o + j * 6 + k, none⟩) hg).trans (hc j hj k hk)
  rw [hu] at HC
  unfold Ru.cells at HC
  simp only at HC
  have hb0 : Below w.heap.size w ((w.alloc (.cells #[.int .i64 j, .int .i64 s1, .int .i64 x, .int .i64 m] 30)).alloc (.cells #[.int .i64 4, .int .i64 u1, .int .i64 u2, .int .i64 u3, .int .i64 u4, .int .i64 u5] 44)) := ((Below.refl _ _).alloc (Nat.le_refl _) _).alloc (by rw [World.size_alloc]; omega) _
  have HB := Lib.hid hb0
  have hd1 := heap_alloc2_old w (.cells #[.int .i64 j, .int .i64 s1, .int .i64 x, .int .i64 m] 30) (.cells #[.int .i64 4, .int .i64 u1, .int .i64 u2, .int .i64 u3, .int .i64 u4, .int .i64 u5] 44)
  have hd2 := heap_alloc2_new w (.cells #[.int .i64 j, .int .i64 s1, .int .i64 x, .int .i64 m] 30) (.cells #[.int .i64 4, .int .i64 u1, .int .i64 u2, .int .i64 u3, .int .i64 u4, .int .i64 u5] 44)
  have c1 := fun o => Lib.cell_of_heap hd1 o
  have c2 := fun o => Lib.cell_of_heap hd2 o
  have hba : Below w.heap.size w (w.alloc (.cells #[.int .i64 j, .int .i64 s1, .int .i64 x, .int .i64 m] 30)) := (Below.refl _ _).alloc (Nat.le_refl _) _
  have k0 : (w.alloc (.cells #[.int .i64 j, .int .i64 s1, .int .i64 x, .int .i64 m] 30)).cell? ⟨g, o + j * 6, none⟩ = some (.int .i64 4) := HC _ hba 0 (by omega)
  have k1 : (w.alloc (.cells #[.int .i64 j, .int .i64 s1, .int .i64 x, .int .i64 m] 30)).cell? ⟨g, o + j * 6 + 1, none⟩ = some (.int .i64 u1) := HC _ hba 1 (by omega)
  have k2 : (w.alloc (.cells #[.int .i64 j, .int .i64 s1, .int .i64 x, .int .i64 m] 30)).cell? ⟨g, o + j * 6 + 2, none⟩ = some (.int .i64 u2) := HC _ hba 2 (by omega)
  have k3 : (w.alloc (.cells #[.int .i64 j, .int .i64 s1, .int .i64 x, .int .i64 m] 30)).cell? ⟨g, o + j * 6 + 3, none⟩ = some (.int .i64 u3) := HC _ hba 3 (by omega)
  have k4 : (w.alloc (.cells #[.int .i64 j, .int .i64 s1, .int .i64 x, .int .i64 m] 30)).cell? ⟨g, o + j * 6 + 4, none⟩ = some (.int .i64 u4) := HC _ hba 4 (by omega)
  have k5 : (w.alloc (.cells #[.int .i64 j, .int .i64 s1, .int .i64 x, .int .i64 m] 30)).cell? ⟨g, o + j * 6 + 5, none⟩ = some (.int .i64 u5) := HC _ hba 5 (by omega)
  clear hA hc hu HC hb0 hba hd1 hd2
  obtain ⟨b1, d1⟩ : ∃ b, (x == y) = b := ⟨_, rfl⟩
  rw [d1]
  obtain ⟨b2, d2⟩ : ∃ b, (u3 == r) = b := ⟨_, rfl⟩
  rw [d2]
  obtain ⟨b3, d3⟩ : ∃ b, (u4 == r) = b := ⟨_, rfl⟩
  rw [d3]
  cases b1 <;> cases b2 <;> cases b3
  all_goals
    go_enter Try.func16, Try.ntmps16
    go_wp2_with fail
    go_ret
    exact ⟨rfl, HB.out⟩
end Go.Proofs.Ytihhojgnilbfnaa.PfS4
/- Needed at any right step; the document's example of proofs. -/
namespace Go.Proofs.Ytihhojgnilbfnaa.PfS5
set_option linter.unusedVariables false
set_option linter.unusedSimpArgs false
open Go.RowKit Go.Lib Go.Proofs Go.Maps Go.Proofs.Ytihhojgnilbfnaa.TblB Go.Proofs.Ytihhojgnilbfnaa.TblC Go.Proofs.Ytihhojgnilbfnaa.TblV Go.Proofs.Ytihhojgnilbfnaa.TblP Go.Proofs.Ytihhojgnilbfnaa.TblQ Go.Proofs.Ytihhojgnilbfnaa.SemA Go.Proofs.Ytihhojgnilbfnaa.SemB Go.Proofs.Ytihhojgnilbfnaa.SemGa Go.Proofs.Ytihhojgnilbfnaa.SemJ Go.Proofs.Ytihhojgnilbfnaa.SemK Go.Proofs.Ytihhojgnilbfnaa.PfM Go.Proofs.Ytihhojgnilbfnaa.PfN Go.Proofs.Ytihhojgnilbfnaa.PfO Go.Proofs.Ytihhojgnilbfnaa.PfB Go.Proofs.Ytihhojgnilbfnaa.PfC Go.Proofs.Ytihhojgnilbfnaa.PfE Go.Proofs.Ytihhojgnilbfnaa.PfJ Go.Proofs.Ytihhojgnilbfnaa.PfL Go.Proofs.Ytihhojgnilbfnaa.PfR Go.Proofs.Ytihhojgnilbfnaa.PfS1 Go.Proofs.Ytihhojgnilbfnaa.PfS4
set_option linter.unusedVariables false
set_option linter.unusedSimpArgs false
theorem needed (P K : Nat) (A : Option Addr) (ca : Nat) (L : List Ru) (s0 s1 s2 s3 r y : Int) (u : Ru) (w : World) (g1 : P ≤ 10) (g2 : K ≤ 6) (hL : L.length ≤ 60) (hA : UG w A L) (hu : ruleAt P K L s0 = some u) (hf : fitB P u ⟨s0, s1, s2, s3⟩ = true) :
    Calls Try.prog 16 #[.int .i64 K, .slice A L.length ca, .agg #[.int .i64 s0, .int .i64 s1, .int .i64 s2, .int .i64 s3], .int .i64 r, .int .i64 y] w fun e w' => e = .returned (.bool (decide ((r, y) ∈ under K u ⟨s0, s1, s2, s3⟩))) ∧ Below w.heap.size w w' := by
  obtain ⟨r0, r1, r2, r3⟩ := ruleAt_some hu
  obtain ⟨j, rfl⟩ : ∃ j : Nat, s0 = j := ⟨s0.toNat, by omega⟩
  rw [Int.toNat_natCast] at r1 r2
  have hLu : L[j] = u := by
    have := List.getElem?_eq_getElem r1
    rw [r2] at this
    simpa using this.symm
  obtain ⟨hk, _, _, _, _, hv⟩ := right_r r3
  obtain ⟨k, u1, u2, u3, u4, u5⟩ := u
  unfold fitB at hf
  simp only [Bool.and_eq_true, Bool.or_eq_true, Bool.not_eq_true', decide_eq_true_eq, decide_eq_false_iff_not] at hf hk hv
  obtain ⟨rfl, ⟨x0, x1⟩, hw, hm⟩ := hf
  rcases hk with rfl | rfl | rfl | rfl
  · have h := need1 K A ca L j u1 s2 s3 r y r1 u1 u2 u3 u4 u5 hLu w g2 hL hA
    have e : (decide ((r, y) ∈ under K ⟨1, u1, u2, u3, u4, u5⟩ ⟨j, u1, s2, s3⟩)) = false := by unfold under; simp
    rw [e]
    exact h
  · have h := need2 K A ca L j u1 s2 s3 r y r1 u1 u2 u3 u4 u5 hLu w g2 hL hA
    have e : (decide ((r, y) ∈ under K ⟨2, u1, u2, u3, u4, u5⟩ ⟨j, u1, s2, s3⟩)) = ((u3 == r) && (s2 == y)) := by
      unfold under
      rw [Bool.eq_iff_iff]
      simp
      constructor <;> (rintro ⟨rfl, rfl⟩; simp)
    rw [e]
    exact h
  · rw [if_pos rfl, decide_eq_true_eq] at hm
    have h := need3 K A ca L j u1 s2 s3 r y r1 u1 u2 u3 u4 u5 hLu w g2 hL hA (by omega) hv
    have e : (decide ((r, y) ∈ under K ⟨3, u1, u2, u3, u4, u5⟩ ⟨j, u1, s2, s3⟩)) = (((u3 == r) && (s3 == y)) || ((s3 * K + u5 == r) && (s2 == y))) := by
      unfold under
      rw [Bool.eq_iff_iff]
      simp
      constructor <;> (rintro (⟨rfl, rfl⟩ | ⟨rfl, rfl⟩) <;> simp)
    rw [e]
    exact h
  · have h := need4 K A ca L j u1 s2 s3 r y r1 u1 u2 u3 u4 u5 hLu w g2 hL hA
    have e : (decide ((r, y) ∈ under K ⟨4, u1, u2, u3, u4, u5⟩ ⟨j, u1, s2, s3⟩)) = ((s2 == y) && ((u3 == r) || (u4 == r))) := by
      unfold under
      rw [Bool.eq_iff_iff]
      simp
      constructor
      · rintro (⟨rfl, rfl⟩ | ⟨rfl, rfl⟩) <;> simp
      · rintro ⟨rfl, rfl | rfl⟩ <;> simp
    rw [e]
    exact h
theorem ex_ok {A : List Sp} {s : Sp} (h : okS 3 2 [ex1, ex2] A s = true) : s = ⟨1, 3, 2, 0⟩ ∨ ∃ x, s = ⟨0, 0, x, 0⟩ ∧ hasS A (3, x) = true := by
  obtain ⟨u, hu, hf, hn, _⟩ := okS_rng h
  obtain ⟨r0, r1, r2, _⟩ := ruleAt_some hu
  obtain ⟨a, b, c, d⟩ := s
  simp only at r0 r1 r2
  have hr : a = 0 ∨ a = 1 := by simp at r1; omega
  rcases hr with rfl | rfl
  · obtain rfl : ex1 = u := by simpa using r2
    unfold fitB at hf
    simp [ex1] at hf
    unfold under at hn
    simp [ex1] at hn
    obtain ⟨hb, _, hd⟩ := hf
    obtain rfl := of_decide_eq_true hb
    subst hd
    exact .inr ⟨c, rfl, hn⟩
  · obtain rfl : ex2 = u := by simpa using r2
    unfold fitB at hf
    simp [ex2] at hf
    obtain ⟨hb, _, hc, hd⟩ := hf
    obtain rfl := of_decide_eq_true hb
    obtain rfl := of_decide_eq_true hc
    subst hd
    exact .inl rfl
theorem ex_steps {T : List Sp} (h : chk 3 2 [ex1, ex2] [] T = true) : ∀ s ∈ T, s = ⟨1, 3, 2, 0⟩ ∨ s = ⟨0, 0, 2, 0⟩ := by
  have ho : ∀ s ∈ T, s = ⟨1, 3, 2, 0⟩ ∨ ∃ x, s = ⟨0, 0, x, 0⟩ ∧ ∃ t ∈ T, t.fa = (3, x) := fun s hs => by
    obtain ⟨i, hi, e⟩ := List.getElem_of_mem hs
    have h1 := chk_at T [] i s h (by rw [List.getElem?_eq_getElem hi, e])
    rw [List.nil_append] at h1
    rcases ex_ok h1 with h2 | ⟨x, h2, h3⟩
    · exact .inl h2
    · obtain ⟨t, ht, et⟩ := hasS_iff.1 h3
      exact .inr ⟨x, h2, t, List.mem_of_mem_take ht, et⟩
  intro s hs
  rcases ho s hs with h2 | ⟨x, rfl, t, ht, et⟩
  · exact .inl h2
  · rcases ho t ht with rfl | ⟨y, rfl, _⟩
    · simp [Sp.fa] at et
      subst et
      exact .inr rfl
    · simp [Sp.fa] at et
theorem ex_proof {T : List Sp} (h : Proof 3 2 [ex1, ex2] (0, 2) T) : T = [⟨1, 3, 2, 0⟩, ⟨0, 0, 2, 0⟩] := by
  obtain ⟨hc, ⟨T', s, rfl, hs⟩, _⟩ := h
  have hst := ex_steps hc
  have hnd := chk_nd _ _ hc (by simp)
  rw [chk_snoc] at hc
  simp only [Bool.and_eq_true, List.nil_append] at hc
  obtain ⟨h1, h2, h3⟩ := hc
  have es : s = ⟨0, 0, 2, 0⟩ := by
    rcases hst s (by simp) with rfl | rfl
    · simp [Sp.fa] at hs
    · rfl
  subst es
  have hall : ∀ x ∈ T', x = ⟨1, 3, 2, 0⟩ := fun x hx => by
    rcases hst x (by simp [hx]) with e | e
    · exact e
    · subst e
      have : hasS T' (Sp.fa ⟨0, 0, 2, 0⟩) = true := hasS_iff.2 ⟨_, hx, rfl⟩
      rw [this] at h3
      cases h3
  have hne : hasS T' (3, 2) = true := by
    rcases ex_ok h2 with e | ⟨x, e, hx⟩
    · simp at e
    · simp at e
      subst e
      exact hx
  match T', hall, hne, hnd with
  | [], _, hne, _ => simp [hasS] at hne
  | [a], hall, _, _ => rw [hall a (by simp)]; rfl
  | a :: b :: r, hall, _, hnd =>
    rw [hall a (by simp), hall b (by simp)] at hnd
    simp at hnd
set_option maxHeartbeats 1000000 in
set_option maxRecDepth 100000 in
theorem lives (w : World) : Calls Try.prog 7 #[] w fun e w' => e = .returned (.bool true) ∧ Below w.heap.size w w' := by
  have hb0 := (Below.refl w.heap.size w).alloc (Nat.le_refl _) (.cells #[.int .i64 2, .int .i64 0, .int .i64 0, .int .i64 3, .int .i64 0, .int .i64 0, .int .i64 1, .int .i64 3, .int .i64 2, .int .i64 0, .int .i64 0, .int .i64 0] 44)
  have hE := why 3 2 (some ⟨w.heap.size, 0, none⟩) 2 [ex1, ex2] (0, 2) (w.alloc (.cells #[.int .i64 2, .int .i64 0, .int .i64 0, .int .i64 3, .int .i64 0, .int .i64 0, .int .i64 1, .int .i64 3, .int .i64 2, .int .i64 0, .int .i64 0, .int .i64 0] 44)) (by omega) (by omega) (by simp) (ex_ug w) (by unfold InR; simp)
  unfold WhyPost at hE
  have e3 : Int.toNat 3 = 3 := rfl
  have e2 : Int.toNat 2 = 2 := rfl
  rw [e3, e2] at hE
  have HD : derB 3 2 [ex1, ex2] 0 2 = true := by
    rw [derB_iff, ex_right, ex_der]
    simp
  simp only [HD] at hE
  have HE := Lib.hid hE
  have HB0 := Lib.hid hb0
  clear hE hb0 e3 e2
  go_enter Try.func7, Try.ntmps7
  go_wp2_with fail
  refine HE.out.mono ?_
  rintro e w1 ⟨hb, ⟨_, A, ca, T, rfl, htg, hcap, hpr⟩ | ⟨hno, _⟩⟩
  · have hT := ex_proof hpr
    subst hT
    obtain ⟨g, o, rfl, hg, hc⟩ := htg (by simp)
    have HB := Lib.hid (nx HB0.out hb)
    have y0 : w1.cell? ⟨g, o, none⟩ = some (.int .i64 1) := by simpa [Sp.cells] using hc 0 (by simp) 0 (by omega)
    have y1 : w1.cell? ⟨g, o + 1, none⟩ = some (.int .i64 3) := by simpa [Sp.cells] using hc 0 (by simp) 1 (by omega)
    have y2 : w1.cell? ⟨g, o + 2, none⟩ = some (.int .i64 2) := by simpa [Sp.cells] using hc 0 (by simp) 2 (by omega)
    have y3 : w1.cell? ⟨g, o + 3, none⟩ = some (.int .i64 0) := by simpa [Sp.cells] using hc 0 (by simp) 3 (by omega)
    have y4 : w1.cell? ⟨g, o + 4, none⟩ = some (.int .i64 0) := by simpa [Sp.cells] using hc 1 (by simp) 0 (by omega)
    have y5 : w1.cell? ⟨g, o + 4 + 1, none⟩ = some (.int .i64 0) := by simpa [Sp.cells] using hc 1 (by simp) 1 (by omega)
    have y6 : w1.cell? ⟨g, o + 4 + 2, none⟩ = some (.int .i64 2) := by simpa [Sp.cells] using hc 1 (by simp) 2 (by omega)
    have y7 : w1.cell? ⟨g, o + 4 + 3, none⟩ = some (.int .i64 0) := by simpa [Sp.cells] using hc 1 (by simp) 3 (by omega)
    clear hc htg hpr hb
    go_wp2_with fail
    go_ret
    exact ⟨rfl, HB.out⟩
  · cases hno
end Go.Proofs.Ytihhojgnilbfnaa.PfS5
/- The document's model in memory: rows by roles, of whether each principal is in. -/
namespace Go.Proofs.Ytihhojgnilbfnaa.SemRa
set_option linter.unusedVariables false
set_option linter.unusedSimpArgs false
open Go.RowKit Go.Lib Go.Proofs Go.Proofs.Ytihhojgnilbfnaa.TblB Go.Proofs.Ytihhojgnilbfnaa.TblC Go.Proofs.Ytihhojgnilbfnaa.TblV Go.Proofs.Ytihhojgnilbfnaa.TblP Go.Proofs.Ytihhojgnilbfnaa.TblQ Go.Proofs.Ytihhojgnilbfnaa.SemA Go.Proofs.Ytihhojgnilbfnaa.SemJ
set_option linter.unusedVariables false
set_option linter.unusedSimpArgs false
abbrev Rel := Nat → Nat → Bool
def upd (f : Rel) (h x : Nat) : Rel := fun r y => if r = h ∧ y = x then true else f r y
theorem upd_same (f : Rel) (h x : Nat) : upd f h x h x = true := by unfold upd; simp
theorem upd_le (f : Rel) (h x : Nat) {r y : Nat} (hf : f r y = true) : upd f h x r y = true := by
  unfold upd
  split
  · rfl
  · exact hf
/-- Who comes in by a rule, of who is in. -/
def cnd (P K : Nat) (f : Rel) (u : Ru) (x : Nat) : Bool :=
  if u.kind = 1 then decide ((x : Int) = u.who) else if u.kind = 2 then f u.a.toNat x else if u.kind = 3 then (List.range P).any fun y => f u.a.toNat y && f (y * K + u.via.toNat) x else f u.a.toNat x && f u.b.toNat x
/-- The document's model: P principals, K names, n roles; R: the rows' blocks. -/
structure MR (w : World) (mo gi ca P K n : Nat) (R : Nat → Nat) (f : Rel) : Prop where
  h0 : w.heap[mo]? = some (.cells #[.int .i64 P, .int .i64 K, .slice (if n = 0 then none else some ⟨gi, 0, none⟩) n ca] 64 (0, 0))
  hi : ∀ r, r < n → ∃ c, w.cell? ⟨gi, r, none⟩ = some (.slice (some ⟨R r, 0, none⟩) P c)
  hg : 0 < n → gi < w.heap.size ∧ gi ≠ mo
  hr : ∀ r, r < n → ∃ vs, w.heap[R r]? = some (.cells vs 4 (0, 0)) ∧ ∀ x, x < P → vs[x]? = some (.bool (f r x))
  inj : ∀ r s, r < n → s < n → R r = R s → r = s
  nm : ∀ r, r < n → R r ≠ mo ∧ R r ≠ gi
theorem heap_lt {w : World} {b : Nat} {o : Obj} (h : w.heap[b]? = some o) : b < w.heap.size := (Array.getElem?_eq_some_iff.1 h).1
theorem MR.lt {w : World} {mo gi ca P K n : Nat} {R : Nat → Nat} {f : Rel} (h : MR w mo gi ca P K n R f) {r : Nat} (hr : r < n) : R r < w.heap.size := by
  obtain ⟨vs, h1, h2⟩ := h.hr r hr
  exact heap_lt h1
theorem MR.below {w w' : World} {mo gi ca P K n : Nat} {R : Nat → Nat} {f : Rel} (h : MR w mo gi ca P K n R f) (hb : Below w.heap.size w w') : MR w' mo gi ca P K n R f := by
  refine ⟨(hb.block _ (heap_lt h.h0)).trans h.h0, fun r hr => ?_, fun hn => ⟨Nat.lt_of_lt_of_le (h.hg hn).1 hb.size, (h.hg hn).2⟩, fun r hr => ?_, h.inj, h.nm⟩
  · obtain ⟨c, hc⟩ := h.hi r hr
    exact ⟨c, (hb.cell (p := ⟨gi, r, none⟩) (h.hg (by omega)).1).trans hc⟩
  · obtain ⟨vs, h1, h2⟩ := h.hr r hr
    exact ⟨vs, (hb.block _ (heap_lt h1)).trans h1, h2⟩
theorem MR.put {w : World} {mo gi ca P K n : Nat} {R : Nat → Nat} {f : Rel} (h : MR w mo gi ca P K n R f) {r x : Nat} (hr : r < n) (hx : x < P) : MR (w.setCell ⟨R r, x, none⟩ (.bool true)) mo gi ca P K n R (upd f r x) := by
  obtain ⟨n1, n2⟩ := h.nm r hr
  refine ⟨(heap_setCell_other w ⟨R r, x, none⟩ mo _ (Ne.symm n1)).trans h.h0, fun s hs => ?_, fun hn => ⟨by simpa [World.setCell] using (h.hg hn).1, (h.hg hn).2⟩, fun s hs => ?_, h.inj, h.nm⟩
  · obtain ⟨c, hc⟩ := h.hi s hs
    exact ⟨c, (World.cell?_of_block (a := ⟨gi, s, none⟩) (heap_setCell_other w ⟨R r, x, none⟩ gi _ (Ne.symm n2))).trans hc⟩
  · obtain ⟨vs, h1, h2⟩ := h.hr s hs
    by_cases e : s = r
    · subst e
      refine ⟨_, heap_setCell_same w (R s) x _ _ _ h1, fun y hy => ?_⟩
      rw [Array.getElem?_setIfInBounds]
      unfold upd
      by_cases e2 : x = y
      · subst e2
        have : x < vs.size := (Array.getElem?_eq_some_iff.1 (h2 x hy)).1
        simp [this]
      · rw [if_neg e2, h2 y hy]
        simp [Ne.symm e2]
    · have hne : R s ≠ R r := fun q => e (h.inj s r hs hr q)
      refine ⟨vs, (heap_setCell_other w ⟨R r, x, none⟩ (R s) _ hne).trans h1, fun y hy => ?_⟩
      rw [h2 y hy]
      unfold upd
      rw [if_neg (fun q => e q.1)]
/-- All but the rows stays. -/
structure Fr (n : Nat) (R : Nat → Nat) (w w' : World) : Prop where
  os : w'.os = w.os
  tape : w'.tape = w.tape
  output : w'.output = w.output
  size : w.heap.size ≤ w'.heap.size
  block : ∀ b, b < w.heap.size → (∀ r, r < n → b ≠ R r) → w'.heap[b]? = w.heap[b]?
theorem Fr.refl (n : Nat) (R : Nat → Nat) (w : World) : Fr n R w w := ⟨rfl, rfl, rfl, Nat.le_refl _, fun _ _ _ => rfl⟩
theorem Fr.trans {n : Nat} {R : Nat → Nat} {a b c : World} (h : Fr n R a b) (k : Fr n R b c) : Fr n R a c :=
  ⟨k.os.trans h.os, k.tape.trans h.tape, k.output.trans h.output, Nat.le_trans h.size k.size, fun i hi hr => (k.block i (Nat.lt_of_lt_of_le hi h.size) hr).trans (h.block i hi hr)⟩
theorem Fr.below {n : Nat} {R : Nat → Nat} {a b c : World} (h : Fr n R a b) (k : Below b.heap.size b c) : Fr n R a c :=
  h.trans ⟨k.os, k.tape, k.output, k.size, fun i hi _ => k.block i hi⟩
theorem Fr.set {n : Nat} {R : Nat → Nat} {a b : World} (h : Fr n R a b) {r : Nat} (hr : r < n) (x : Nat) (v : Value) : Fr n R a (b.setCell ⟨R r, x, none⟩ v) :=
  h.trans ⟨rfl, rfl, rfl, by simp [World.setCell], fun i hi hr2 => heap_setCell_other b ⟨R r, x, none⟩ i v (hr2 r hr)⟩
theorem Fr.start {n : Nat} {R : Nat → Nat} {a b c : World} (h : Below a.heap.size a b) (k : Fr n R b c) : Fr n R a c :=
  ⟨k.os.trans h.os, k.tape.trans h.tape, k.output.trans h.output, Nat.le_trans h.size k.size, fun i hi hr => (k.block i (Nat.lt_of_lt_of_le hi h.size) hr).trans (h.block i hi)⟩
/-- Where all rows are from B on, what is below B stays. -/
theorem Fr.low {n : Nat} {R : Nat → Nat} {w w' : World} {B : Nat} (h : Fr n R w w') (hB : B ≤ w.heap.size) (hR : ∀ r, r < n → B ≤ R r) : Below B w w' :=
  ⟨h.os, h.tape, h.output, h.size, fun k hk => h.block k (by omega) (fun r hr => by have := hR r hr; omega)⟩
theorem MR.cells {w : World} {mo gi ca P K n : Nat} {R : Nat → Nat} {f : Rel} (h : MR w mo gi ca P K n R f) (hn : 0 < n) : ∀ o, w.cell? ⟨mo, o, none⟩ = (#[.int .i64 P, .int .i64 K, .slice (some ⟨gi, 0, none⟩) n ca] : Array Value)[o]? := fun o => by
  rw [Lib.cell_of_heap h.h0, if_neg (by omega)]
theorem MR.row {w : World} {mo gi ca P K n : Nat} {R : Nat → Nat} {f : Rel} (h : MR w mo gi ca P K n R f) {r x : Nat} (hr : r < n) (hx : x < P) : w.cell? ⟨R r, x, none⟩ = some (.bool (f r x)) ∧ w.frozen? ⟨R r, x, none⟩ = false := by
  obtain ⟨vs, h1, h2⟩ := h.hr r hr
  exact ⟨by rw [Lib.cell_of_heap h1, h2 x hx], frozen_of_row _ _ _ _ _ h1⟩
/-- What a run of a rule over those in front of j leaves: b tells whether something came in. -/
structure Mid (P K : Nat) (f : Rel) (u : Ru) (j : Nat) (g : Rel) (b : Bool) : Prop where
  no : b = false → g = f ∧ ∀ x, x < j → cnd P K f u x = true → f u.head.toNat x = true
  yes : b = true → ∃ x, x < P ∧ cnd P K f u x = true ∧ f u.head.toNat x = false ∧ g u.head.toNat x = true
  le : ∀ r y, f r y = true → g r y = true
  ind : ∀ J : Rel → Prop, J f → (∀ g x, x < P → J g → cnd P K g u x = true → J (upd g u.head.toNat x)) → J g
theorem Mid.start (P K : Nat) (f : Rel) (u : Ru) : Mid P K f u 0 f false :=
  ⟨fun _ => ⟨rfl, fun x hx => by omega⟩, fun h => (by cases h), fun _ _ h => h, fun J h _ => h⟩
theorem Mid.skip {P K : Nat} {f : Rel} {u : Ru} {j : Nat} {g : Rel} {b : Bool} (h : Mid P K f u j g b) (hs : cnd P K g u j = false ∨ g u.head.toNat j = true) : Mid P K f u (j + 1) g b := by
  refine ⟨fun hb => ?_, h.yes, h.le, h.ind⟩
  obtain ⟨rfl, h2⟩ := h.no hb
  refine ⟨rfl, fun x hx hc => ?_⟩
  by_cases e : x = j
  · subst e
    rcases hs with q | q
    · rw [q] at hc; cases hc
    · exact q
  · exact h2 x (by omega) hc
theorem Mid.put {P K : Nat} {f : Rel} {u : Ru} {j : Nat} {g : Rel} {b : Bool} (h : Mid P K f u j g b) (hj : j < P) (hc : cnd P K g u j = true) (hf : g u.head.toNat j = false) : Mid P K f u (j + 1) (upd g u.head.toNat j) true := by
  refine ⟨fun q => (by cases q), fun _ => ?_, fun r y q => upd_le _ _ _ (h.le r y q), fun J h1 h2 => h2 g j hj (h.ind J h1 h2) hc⟩
  cases b with
  | false =>
    obtain ⟨rfl, h2⟩ := h.no rfl
    exact ⟨j, hj, hc, hf, upd_same _ _ _⟩
  | true =>
    obtain ⟨x, h1, h2, h3, h4⟩ := h.yes rfl
    exact ⟨x, h1, h2, h3, upd_le _ _ _ h4⟩
def OncePost (mo gi ca P K n : Nat) (R : Nat → Nat) (f : Rel) (u : Ru) (w : World) (e : Ending) (w' : World) : Prop :=
  ∃ g b, e = .returned (.bool b) ∧ MR w' mo gi ca P K n R g ∧ Fr n R w w' ∧ Mid P K f u P g b
end Go.Proofs.Ytihhojgnilbfnaa.SemRa
