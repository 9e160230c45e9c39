/- Uses and Proves by contract. -/
import Derived.Test.YtddjbchlpfaggaaPfX
import Derived.Test.YtddjbchlpfaggaaShelf
import Derived.Lib.OwnBridge
import Derived.Sort.OwnSortedInts
namespace Go.Proofs.Ytddjbchlpfaggaa.PfY
open Go.RowKit Go.Lib Go.Sort Go.Proofs Go.Maps Go.Proofs.Ytddjbchlpfaggaa.TblB Go.Proofs.Ytddjbchlpfaggaa.SetQ Go.Proofs.Ytddjbchlpfaggaa.SetR Go.Proofs.Ytddjbchlpfaggaa.TblC Go.Proofs.Ytddjbchlpfaggaa.TblV Go.Proofs.Ytddjbchlpfaggaa.TblQ Go.Proofs.Ytddjbchlpfaggaa.SetB Go.Proofs.Ytddjbchlpfaggaa.SetF Go.Proofs.Ytddjbchlpfaggaa.SetJ Go.Proofs.Ytddjbchlpfaggaa.SemB Go.Proofs.Ytddjbchlpfaggaa.SemC Go.Proofs.Ytddjbchlpfaggaa.SemD Go.Proofs.Ytddjbchlpfaggaa.SemGa Go.Proofs.Ytddjbchlpfaggaa.SemJ Go.Proofs.Ytddjbchlpfaggaa.PfM Go.Proofs.Ytddjbchlpfaggaa.PfN Go.Proofs.Ytddjbchlpfaggaa.PfO Go.Proofs.Ytddjbchlpfaggaa.PfA Go.Proofs.Ytddjbchlpfaggaa.PfB Go.Proofs.Ytddjbchlpfaggaa.PfC Go.Proofs.Ytddjbchlpfaggaa.PfE Go.Proofs.Ytddjbchlpfaggaa.PfJ Go.Proofs.Ytddjbchlpfaggaa.PfK Go.Proofs.Ytddjbchlpfaggaa.PfL Go.Proofs.Ytddjbchlpfaggaa.PfW Go.Proofs.Ytddjbchlpfaggaa.PfX
set_option linter.unusedVariables false
set_option linter.unusedSimpArgs false
def srtI (l : List Int) : List Int := l.mergeSort fun x y => decide (x ≤ y)
theorem srtI_len (l : List Int) : (srtI l).length = l.length := by unfold srtI; simp
theorem mem_compactI {zs : List Int} {x : Int} : x ∈ Lib.compact zs ↔ x ∈ zs := by
  constructor
  · intro h
    unfold Lib.compact Lib.compactUpTo at h
    obtain ⟨i, hi, rfl⟩ := List.mem_map.1 h
    have hi' : i < zs.length := List.mem_range.1 (List.mem_filter.1 hi).1
    simp [getElem!_pos, hi']
  · intro h
    obtain ⟨j, hj, rfl⟩ := List.getElem_of_mem h
    unfold Lib.compact Lib.compactUpTo
    have key : ∀ m, (hm : m < zs.length) → ∃ i, i ∈ (List.range zs.length).filter (Lib.keeps zs.toArray) ∧ zs.toArray[i]! = zs[m] := fun m => by
      induction m with
      | zero =>
        intro hm
        refine ⟨0, List.mem_filter.2 ⟨List.mem_range.2 hm, by simp [Lib.keeps]⟩, ?_⟩
        simp [getElem!_pos, hm]
      | succ m ih =>
        intro hm
        by_cases hk : Lib.keeps zs.toArray (m + 1) = true
        · refine ⟨m + 1, List.mem_filter.2 ⟨List.mem_range.2 hm, hk⟩, ?_⟩
          simp [getElem!_pos, hm]
        · obtain ⟨i, hi, e⟩ := ih (by omega)
          refine ⟨i, hi, e.trans ?_⟩
          have hm2 : m < zs.length := by omega
          simp [Lib.keeps, getElem!_pos, hm, hm2] at hk
          exact hk.symm
    obtain ⟨i, hi, e⟩ := key j hj
    exact List.mem_map.2 ⟨i, hi, e⟩
def usesL (T : List Sp) : List Int := Lib.compact (srtI (T.map Sp.rule))
theorem uses_mem {T : List Sp} {i : Int} : i ∈ usesL T ↔ ∃ s ∈ T, s.rule = i := by
  unfold usesL srtI
  rw [mem_compactI, List.mem_mergeSort, List.mem_map]
theorem sortI (B g n c : Nat) (ls : List Int) (w : World) (h : w.ownsRow B 3 1 (.slice (some ⟨g, 0, none⟩) n c) n (ls.map (Value.int .i64))) (hn : n ≤ 1000000) :
    Calls Try.prog 19 #[.slice (some ⟨g, 0, none⟩) n c] w fun e w' => e = .returned (.tuple #[]) ∧ w'.ownsRow B 3 1 (.slice (some ⟨g, 0, none⟩) n c) n ((srtI ls).map (Value.int .i64)) ∧ Below B w w' := by
  obtain ⟨g', cap', e1, hg, hlt, hnc, hm, hl, hH⟩ := Lib.holds_of_ownsRow h (by simp)
  injection e1 with e1 _ e3
  injection e1 with e1
  injection e1 with e1
  subst e1; subst e3
  obtain ⟨cur, hb, hs⟩ : ∃ cur, w.heap[g]? = some (.cells cur 3 (0, 0)) ∧ cur.size = c * 1 := by
    rcases h.2 with ⟨e0, _⟩ | ⟨g'', cap'', cur, e0, _, hh, _, _, hs, _⟩
    · simp at e0
    · injection e0 with e1 _ e3
      injection e1 with e1
      injection e1 with e1
      subst e1; subst e3
      exact ⟨cur, hh, hs⟩
  subst hl
  refine (Try.slices_Sort_int g 0 c ls w hH hlt (by omega)).mono ?_
  rintro e w' ⟨rfl, q, os, rfl⟩
  refine ⟨rfl, ownsRow_sortedI (srtI_len ls) hg hb hnc hm hs, (Below.refl B w).grown (grownBy_sortedI _) (by omega) (fun k hk => by injection hk with hk; omega)⟩
theorem compactI (B g n c : Nat) (ls : List Int) (w : World) (h : w.ownsRow B 3 1 (.slice (some ⟨g, 0, none⟩) n c) n (ls.map (Value.int .i64))) (hn : n ≤ 1000000) :
    Calls Try.prog 20 #[.slice (some ⟨g, 0, none⟩) n c] w fun e w' => ∃ v, e = .returned v ∧ w'.ownsRow B 3 1 v (Lib.compact ls).length ((Lib.compact ls).map (Value.int .i64)) ∧ Below B w w' := by
  obtain ⟨g', cap', e1, hg, hlt, hnc, hm, hl, hH⟩ := Lib.holds_of_ownsRow h (by simp)
  injection e1 with e1 _ e3
  injection e1 with e1
  injection e1 with e1
  subst e1; subst e3
  subst hl
  refine (Try.slices_Compact_int g 0 c ls w hH (by omega) (by omega)).mono ?_
  rintro e w' ⟨rfl, q, rfl⟩
  have hle := Lib.compact_length_le ls
  have h2 := Lib.ownsRow_putRow (q := q) (k := (Lib.compact ls).length) (ys := Lib.compact ls ++ List.replicate (ls.length - (Lib.compact ls).length) 0) h (by simp; omega) hle
  rw [List.take_left] at h2
  exact ⟨_, rfl, h2, Lib.below_putRow (Below.refl B w) hg⟩
def UsesPost (T : List Sp) (w : World) (e : Ending) (w' : World) : Prop :=
  ∃ v, e = .returned v ∧ w'.ownsRow w.heap.size 3 1 v (usesL T).length ((usesL T).map (Value.int .i64)) ∧ Below w.heap.size w w'
def rl (T : List Sp) (j : Nat) : List Int := (T.take j).map Sp.rule
theorem rl_succ {T : List Sp} {j : Nat} (h : j < T.length) : rl T (j + 1) = rl T j ++ [T[j].rule] := by
  unfold rl
  rw [List.take_succ_eq_append_getElem h, List.map_append]; rfl
theorem rl_len {T : List Sp} {j : Nat} (h : j ≤ T.length) : (rl T j).length = j := by unfold rl; simp; omega
set_option maxHeartbeats 1000000 in
set_option maxRecDepth 100000 in
theorem uses (B : Option Addr) (cb : Nat) (T : List Sp) (w : World) (hT : T.length ≤ 100000) (h0 : 0 < T.length) (hB : TG w B T) :
    Calls Try.prog 9 #[.slice B T.length cb] w (UsesPost T w) := by
  unfold UsesPost
  obtain ⟨UT, hUT⟩ : ∃ l, usesL T = l := ⟨_, rfl⟩
  rw [hUT]
  have HB := Lib.hid (fun w' (hb : Below w.heap.size w w') => hB.below hb)
  clear hB
  obtain ⟨i0, hi, hz0, hz1, hz2⟩ := info_parts infoInt
  go_enter Try.func9, Try.ntmps9
  go_wp2_with fail
  go_loopw [3, 8] (fun l i wr => ∃ j : Nat, j ≤ T.length ∧ i = .int .i64 j ∧ Hid (wr.ownsRow w.heap.size 3 1 l (rl T j).length ((rl T j).map (Value.int .i64))) ∧ Below w.heap.size w wr) (fun _ i _ => T.length - (intOf i).toNat)
  case atStart => exact ⟨0, by omega, rfl, Lib.hid (World.ownsRow_nil _ _ _ _), Below.refl _ _⟩
  case round =>
    obtain ⟨j, hj, rfl, hown, hb⟩ := hrel
    by_cases hlt : j < T.length
    · have d1 : decide ((j : Int) < T.length) = true := by simp; omega
      obtain ⟨g, o, rfl, hg, hc⟩ := HB.out _ hb (by omega)
      have hc2 := hc j hlt
      have HSk := Lib.hid (rl_succ hlt)
      have hlj := rl_len (T := T) hj
      have q0 : (0 : Int) ≤ j := by omega
      have q1 : (j : Int) < T.length := by omega
      clear hc
      generalize T[j] = s at *
      obtain ⟨s0, s1, s2, s3⟩ := s
      simp only [Sp.cells] at hc2
      simp only at HSk
      have y0 : wr.cell? ⟨g, o + j * 4, none⟩ = some (.int .i64 s0) := hc2 0 (by omega)
      have y1 : wr.cell? ⟨g, o + j * 4 + 1, none⟩ = some (.int .i64 s1) := hc2 1 (by omega)
      have y2 : wr.cell? ⟨g, o + j * 4 + 2, none⟩ = some (.int .i64 s2) := hc2 2 (by omega)
      have y3 : wr.cell? ⟨g, o + j * 4 + 3, none⟩ = some (.int .i64 s3) := hc2 3 (by omega)
      clear hc2
      have hn := heap_alloc_new wr (.cells #[.int .i64 s0, .int .i64 s1, .int .i64 s2, .int .i64 s3] 30)
      have hbn := hb.alloc hb.size (.cells #[.int .i64 s0, .int .i64 s1, .int .i64 s2, .int .i64 s3] 30)
      have hown2 := own_below hown.out ((Below.refl wr.heap.size wr).alloc (Nat.le_refl _) (.cells #[.int .i64 s0, .int .i64 s1, .int .i64 s2, .int .i64 s3] 30))
      go_upto_region 5 with fail
      obtain ⟨w2, hw2⟩ : ∃ x, wr.alloc (.cells #[.int .i64 s0, .int .i64 s1, .int .i64 s2, .int .i64 s3] 30) = x := ⟨_, rfl⟩
      rw [hw2] at hn hbn hown2 ⊢
      have cs := fun o => Lib.cell_of_heap hn o
      have HB2 := Lib.hid hbn
      have hz : w.heap.size ≤ w2.heap.size := HB2.out.size
      clear hw2 y0 y1 y2 y3 hn hbn hown hb
      go_wp2_with (at_builtin; refine wpList_append_own _ rfl _ _ 28 rfl w.heap.size 3 i0 (.int .i64 0) 1 8 Try.underlying28 hi hz0 hz1 hz2 rfl (by decide) _ _ _ rfl (hown2.alloc _) ⟨w2.heap.size, 0, none⟩ 1 1 [.int .i64 s0] rfl rfl ?c1 ?c2 ?c3 ?c4 ?c5 ?_)
      case c1 => exact new_cell1 _ _ _
      case c2 => intro u hu; simp at hu; subst hu; rfl
      case c3 => unfold maxLen; omega
      case c4 => omega
      case c5 => simp; omega
      intro v' w3 hown' hgrow _
      have hown3 : w3.ownsRow w.heap.size 3 1 v' (rl T (j + 1)).length ((rl T (j + 1)).map (Value.int .i64)) := by
        rw [HSk.out, List.map_append, List.length_append]
        rw [hlj]
        simpa using hown'
      have hbel3 := below_own HB2.out hown2 hgrow
      have HO3 := Lib.hid hown3
      have HB3 := Lib.hid hbel3
      clear hown' hown2 hgrow hown3 hbel3 cs
      go_wp2_with fail
      go_roundw
      case rel => exact ⟨j + 1, by omega, by go_num, HO3, HB3.out⟩
      case measure => simp [intOf]; omega
    · have d1 : decide ((j : Int) < T.length) = false := by simp; omega
      have hjT : j = T.length := by omega
      subst hjT
      have hown2 := hown.out
      have eT : rl T T.length = T.map Sp.rule := by unfold rl; rw [List.take_length]
      rw [eT, List.length_map] at hown2
      have hlen : T.length ≤ 1000000 := by omega
      obtain ⟨g, c, hv⟩ : ∃ g c, u3 = .slice (some ⟨g, 0, none⟩) T.length c := by
        rcases hown2.2 with ⟨_, hn⟩ | ⟨g, cap, cur, e, _⟩
        · omega
        · exact ⟨g, cap, e⟩
      subst hv
      have HS := Lib.hid (sortI _ g _ c (T.map Sp.rule) wr hown2 hlen)
      have HC := Lib.hid (fun w' h => compactI w.heap.size g T.length c (srtI (T.map Sp.rule)) w' h hlen)
      have eU : Lib.compact (srtI (T.map Sp.rule)) = usesL T := rfl
      rw [eU, hUT] at HC
      generalize srtI (T.map Sp.rule) = ST at *
      have HBk := Lib.hid hb
      clear hb hown hown2 eT eU hUT
      go_wp2_with fail
      refine HS.out.mono ?_
      rintro e w4 ⟨rfl, hown4, hb4⟩
      have HB4 := Lib.hid (HBk.out.trans hb4)
      have HC4 := Lib.hid (HC.out _ hown4)
      clear hown4 hb4 HC HS
      go_wp2_with fail
      refine HC4.out.mono ?_
      rintro e w5 ⟨v, rfl, hown5, hb5⟩
      have HO5 := Lib.hid hown5
      have HB5 := Lib.hid (HB4.out.trans hb5)
      clear hown5 hb5 HC4
      go_wp2_with fail
      go_ret
      exact ⟨v, rfl, HO5.out, HB5.out⟩
set_option maxHeartbeats 1000000 in
set_option maxRecDepth 100000 in
theorem proves (d0 d1 : Int) (A : Option Addr) (ca : Nat) (L : List Ru) (r x : Int) (B : Option Addr) (cb : Nat) (T : List Sp) (w : World) (g1 : d0 ≤ 64) (g2 : d1 ≤ 64) (hL : L.length ≤ 1000) (m : Nat) (hm : T.length = m + 1) (hT : m ≤ 1000) (hA : UG w A L) (hB : TG w B T) (hI : ∀ s ∈ T, InR s.fa) (hl : T[m].role = r ∧ T[m].who = x) :
    Calls Try.prog 11 #[.int .i64 d0, .int .i64 d1, .slice A L.length ca, .int .i64 r, .int .i64 x, .slice B T.length cb] w fun e w' => e = .returned (.bool (chk d0.toNat d1.toNat L [] T)) ∧ Below w.heap.size w w' := by
  have HC := Lib.hid (fun w' (hb : Below w.heap.size w w') => checkP d0 d1 A ca L B cb T w' g1 g2 hL (by omega) (hA.below hb) (hB.below hb) hI)
  generalize chk d0.toNat d1.toNat L [] T = ans at *
  obtain ⟨g, o, rfl, hg, hc⟩ := hB (by omega)
  have hc2 := hc m (by omega)
  obtain ⟨rfl, rfl⟩ := hl
  clear hA hB hI hc
  generalize T[m] = s at *
  rw [hm] at HC ⊢
  obtain ⟨s0, s1, s2, s3⟩ := s
  simp only [Sp.cells] at hc2
  have y0 : w.cell? ⟨g, o + m * 4, none⟩ = some (.int .i64 s0) := hc2 0 (by omega)
  have y1 : w.cell? ⟨g, o + m * 4 + 1, none⟩ = some (.int .i64 s1) := hc2 1 (by omega)
  have y2 : w.cell? ⟨g, o + m * 4 + 2, none⟩ = some (.int .i64 s2) := hc2 2 (by omega)
  have y3 : w.cell? ⟨g, o + m * 4 + 3, none⟩ = some (.int .i64 s3) := hc2 3 (by omega)
  have hn := heap_alloc_new w (.cells #[.int .i64 s0, .int .i64 s1, .int .i64 s2, .int .i64 s3] 30)
  have hb := (Below.refl w.heap.size w).alloc (Nat.le_refl _) (.cells #[.int .i64 s0, .int .i64 s1, .int .i64 s2, .int .i64 s3] 30)
  have cs := fun o => Lib.cell_of_heap hn o
  have HB := Lib.hid hb
  have hw1 : IntKind.i64.wrap ((m : Int) + 1 - 1) = m := by rw [IntKind.wrap_i64]; omega
  have hw2 : IntKind.i64.wrap (m : Int) = m := by rw [IntKind.wrap_i64]; omega
  have e0 : (((m : Int) + 1) == 0) = false := by simp; omega
  have q0 : (0 : Int) ≤ m := by omega
  have q1 : (m : Int) < ((m + 1 : Nat) : Int) := by omega
  have q2 : (m : Int) < (m : Int) + 1 := by omega
  clear hc2 hn hb hm
  simp only
  go_enter Try.func11, Try.ntmps11
  go_wp2_with fail
  refine (HC.out _ HB.out).mono ?_
  rintro e w2 ⟨rfl, hb2⟩
  have HB2 := Lib.hid (HB.out.trans (hb2.mono HB.out.size))
  clear hb2 HC cs y0 y1 y2 y3
  go_wp2_with fail
  go_ret
  exact ⟨rfl, HB2.out⟩
end Go.Proofs.Ytddjbchlpfaggaa.PfY
