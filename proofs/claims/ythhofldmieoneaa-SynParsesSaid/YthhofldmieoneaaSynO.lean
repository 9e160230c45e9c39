/- A line as a statement, in the document's answers. -/
import Derived.Test.YthhofldmieoneaaSynY
import Derived.Test.YthhofldmieoneaaSynK
import Derived.Test.YthhofldmieoneaaSynZ
namespace Go.Proofs.Ythhofldmieoneaa.SynO
open Go.RowKit Go.Sort Go.Proofs Go.Proofs.Ythhofldmieoneaa.Plain Go.Proofs.Ythhofldmieoneaa.SynP Go.Proofs.Ythhofldmieoneaa.SynQ Go.Proofs.Ythhofldmieoneaa.Grown Go.Proofs.Ythhofldmieoneaa.SynA Go.Proofs.Ythhofldmieoneaa.SynC Go.Proofs.Ythhofldmieoneaa.SynR Go.Proofs.Ythhofldmieoneaa.Scan2 Go.Proofs.Ythhofldmieoneaa.Scan3 Go.Proofs.Ythhofldmieoneaa.Scan4 Go.Proofs.Ythhofldmieoneaa.Scan5 Go.Proofs.Ythhofldmieoneaa.Syn4 Go.Proofs.Ythhofldmieoneaa.Syn6 Go.Proofs.Ythhofldmieoneaa.SynS Go.Proofs.Ythhofldmieoneaa.SynG Go.Proofs.Ythhofldmieoneaa.SynH Go.Proofs.Ythhofldmieoneaa.SynU Go.Proofs.Ythhofldmieoneaa.SynV Go.Proofs.Ythhofldmieoneaa.SynX Go.Proofs.Ythhofldmieoneaa.SynY Go.Proofs.Ythhofldmieoneaa.SynK Go.Proofs.Ythhofldmieoneaa.SynZ
set_option linter.unusedVariables false
set_option linter.unusedSimpArgs false
/-- Four rows of numbers, the shapes. -/
def ShapesAt (w : World) (G : Nat) : Prop := G < w.heap.size ∧ ∀ j, j < 4 → ∃ A, w.cell? ⟨G, j, none⟩ = some (.slice A (shapeK (j + 1)).length (shapeK (j + 1)).length) ∧ IAt w A (shapeK (j + 1))
theorem ShapesAt.below {w w' : World} {G : Nat} (h : ShapesAt w G) (hb : RowKit.Below w.heap.size w w') : ShapesAt w' G :=
  ⟨Nat.lt_of_lt_of_le h.1 hb.size, fun j hj => by
    obtain ⟨A, hc, hA⟩ := h.2 j hj
    exact ⟨A, (hb.cell (p := ⟨G, j, none⟩) h.1).trans hc, hA.below hb⟩⟩
set_option maxRecDepth 100000 in
theorem shapes (w : World) : Calls Try.prog 51 #[] w fun e w' => ∃ G, e = .returned (.slice (some ⟨G, 0, none⟩) 4 4) ∧ ShapesAt w' G ∧ RowKit.Below w.heap.size w w' := by
  have i1 := iat_new w [1, 3, 2, 4, 1] 3
  have i2 := iat_new (w.alloc (.cells #[.int .i64 1, .int .i64 3, .int .i64 2, .int .i64 4, .int .i64 1] 3)) [1, 3, 2, 4, 1, 3, 2] 3
  have i3 := iat_new ((w.alloc (.cells #[.int .i64 1, .int .i64 3, .int .i64 2, .int .i64 4, .int .i64 1] 3)).alloc (.cells #[.int .i64 1, .int .i64 3, .int .i64 2, .int .i64 4, .int .i64 1, .int .i64 3, .int .i64 2] 3)) [1, 3, 2, 4, 1, 3, 2, 3, 2] 3
  have i4 := iat_new (((w.alloc (.cells #[.int .i64 1, .int .i64 3, .int .i64 2, .int .i64 4, .int .i64 1] 3)).alloc (.cells #[.int .i64 1, .int .i64 3, .int .i64 2, .int .i64 4, .int .i64 1, .int .i64 3, .int .i64 2] 3)).alloc (.cells #[.int .i64 1, .int .i64 3, .int .i64 2, .int .i64 4, .int .i64 1, .int .i64 3, .int .i64 2, .int .i64 3, .int .i64 2] 3)) [1, 3, 2, 4, 1, 3, 2, 5, 1, 3, 2] 3
  have hn := new_cell ((((w.alloc (.cells #[.int .i64 1, .int .i64 3, .int .i64 2, .int .i64 4, .int .i64 1] 3)).alloc (.cells #[.int .i64 1, .int .i64 3, .int .i64 2, .int .i64 4, .int .i64 1, .int .i64 3, .int .i64 2] 3)).alloc (.cells #[.int .i64 1, .int .i64 3, .int .i64 2, .int .i64 4, .int .i64 1, .int .i64 3, .int .i64 2, .int .i64 3, .int .i64 2] 3)).alloc (.cells #[.int .i64 1, .int .i64 3, .int .i64 2, .int .i64 4, .int .i64 1, .int .i64 3, .int .i64 2, .int .i64 5, .int .i64 1, .int .i64 3, .int .i64 2] 3)) #[.slice (some ⟨w.heap.size, 0, none⟩) 5 5, .slice (some ⟨w.heap.size + 1, 0, none⟩) 7 7, .slice (some ⟨w.heap.size + 1 + 1, 0, none⟩) 9 9, .slice (some ⟨w.heap.size + 1 + 1 + 1, 0, none⟩) 11 11] 62
  simp only [World.size_alloc] at i2 i3 i4 hn
  have I1 := Lib.hid (iat_alloc (iat_alloc (iat_alloc (iat_alloc i1 (.cells #[.int .i64 1, .int .i64 3, .int .i64 2, .int .i64 4, .int .i64 1, .int .i64 3, .int .i64 2] 3)) (.cells #[.int .i64 1, .int .i64 3, .int .i64 2, .int .i64 4, .int .i64 1, .int .i64 3, .int .i64 2, .int .i64 3, .int .i64 2] 3)) (.cells #[.int .i64 1, .int .i64 3, .int .i64 2, .int .i64 4, .int .i64 1, .int .i64 3, .int .i64 2, .int .i64 5, .int .i64 1, .int .i64 3, .int .i64 2] 3)) (.cells #[.slice (some ⟨w.heap.size, 0, none⟩) 5 5, .slice (some ⟨w.heap.size + 1, 0, none⟩) 7 7, .slice (some ⟨w.heap.size + 1 + 1, 0, none⟩) 9 9, .slice (some ⟨w.heap.size + 1 + 1 + 1, 0, none⟩) 11 11] 62))
  have I2 := Lib.hid (iat_alloc (iat_alloc (iat_alloc i2 (.cells #[.int .i64 1, .int .i64 3, .int .i64 2, .int .i64 4, .int .i64 1, .int .i64 3, .int .i64 2, .int .i64 3, .int .i64 2] 3)) (.cells #[.int .i64 1, .int .i64 3, .int .i64 2, .int .i64 4, .int .i64 1, .int .i64 3, .int .i64 2, .int .i64 5, .int .i64 1, .int .i64 3, .int .i64 2] 3)) (.cells #[.slice (some ⟨w.heap.size, 0, none⟩) 5 5, .slice (some ⟨w.heap.size + 1, 0, none⟩) 7 7, .slice (some ⟨w.heap.size + 1 + 1, 0, none⟩) 9 9, .slice (some ⟨w.heap.size + 1 + 1 + 1, 0, none⟩) 11 11] 62))
  have I3 := Lib.hid (iat_alloc (iat_alloc i3 (.cells #[.int .i64 1, .int .i64 3, .int .i64 2, .int .i64 4, .int .i64 1, .int .i64 3, .int .i64 2, .int .i64 5, .int .i64 1, .int .i64 3, .int .i64 2] 3)) (.cells #[.slice (some ⟨w.heap.size, 0, none⟩) 5 5, .slice (some ⟨w.heap.size + 1, 0, none⟩) 7 7, .slice (some ⟨w.heap.size + 1 + 1, 0, none⟩) 9 9, .slice (some ⟨w.heap.size + 1 + 1 + 1, 0, none⟩) 11 11] 62))
  have I4 := Lib.hid (iat_alloc i4 (.cells #[.slice (some ⟨w.heap.size, 0, none⟩) 5 5, .slice (some ⟨w.heap.size + 1, 0, none⟩) 7 7, .slice (some ⟨w.heap.size + 1 + 1, 0, none⟩) 9 9, .slice (some ⟨w.heap.size + 1 + 1 + 1, 0, none⟩) 11 11] 62))
  have HN := Lib.hid hn
  clear i1 i2 i3 i4 hn
  go_enter Try.func51, Try.ntmps51
  go_wp2
  go_ret
  refine ⟨_, rfl, ⟨by simp, fun j hj => ?_⟩, (((((Below.refl _ _).alloc (Nat.le_refl _) _).alloc (by simp) _).alloc (by simp; omega) _).alloc (by simp; omega) _).alloc (by simp; omega) _⟩
  match j, hj with
  | 0, _ => exact ⟨_, HN.out 0, I1.out⟩
  | 1, _ => exact ⟨_, HN.out 1, I2.out⟩
  | 2, _ => exact ⟨_, HN.out 2, I3.out⟩
  | 3, _ => exact ⟨_, HN.out 3, I4.out⟩
set_option maxHeartbeats 1000000 in
set_option maxRecDepth 100000 in
theorem parseRef_bad (s : ByteArray) (w : World) (hs : s.size ≤ 1000000) (c : Nat) (er : Int) (h : ansOf s = .bad c er) : Calls Try.prog 29 #[.string s] w (ParsePost (parseA (.bad c er)) w) := by
  have HT := Lib.hid (tokensRef s · hs)
  rw [h] at HT
  have he := ans_bad h
  have e1 : (er != 0) = true := by rcases he with rfl | rfl <;> rfl
  clear h he
  go_enter Try.func29, Try.ntmps29
  go_wp2_with fail
  refine (HT.out _).mono ?_
  rintro e w1 ⟨v, rfl, hown, hb1⟩
  have bR := blk_below (heap_alloc_new w zeroC) hb1 (by simp)
  unfold zeroC at bR
  have hcR := fun o => Lib.cell_of_heap bR o
  have hfR := blk_frozen bR
  have hb0 := ((Below.refl w.heap.size w).alloc (Nat.le_refl _) zeroC).trans (hb1.mono (by simp))
  have gc := set_cell
  simp only [okErr, okCol]
  clear hown bR hb1
  go_wp2_with fail
  exact bodyPost_ret (v := .tuple #[.agg #[.int .i64 0, .string ⟨#[]⟩, .string ⟨#[]⟩, .string ⟨#[]⟩, .string ⟨#[]⟩, .string ⟨#[]⟩, .string ⟨#[]⟩, .string ⟨#[]⟩, .string ⟨#[]⟩], .int .i64 c, .int .i64 er]) (by simp [results, Try.results29, go_sem, set9, hcR]) rfl ⟨rfl, ((((((((((hb0).setCell (by simp) _).setCell (by simp) _).setCell (by simp) _).setCell (by simp) _).setCell (by simp) _).setCell (by simp) _).setCell (by simp) _).setCell (by simp) _).setCell (by simp) _)⟩
set_option maxHeartbeats 4000000 in
set_option maxRecDepth 100000 in
theorem parseRef_ok (s : ByteArray) (w : World) (hs : s.size ≤ 1000000) (L : List Tk) (h : ansOf s = .ok L) : Calls Try.prog 29 #[.string s] w (ParsePost (parseL L) w) := by
  have hgood := ans_good h
  have hlen := ans_len h
  have HEnd := Lib.hid (ans_end h)
  have HT := Lib.hid (tokensRef s · hs)
  rw [h] at HT
  clear h hgood
  go_enter Try.func29, Try.ntmps29
  go_wp2_with fail
  refine (HT.out _).mono ?_
  rintro e w1 ⟨v, rfl, hown, hb1⟩
  obtain ⟨A, ca, rfl, hca, hA⟩ := of_rowTk hown
  simp only [okErr, okCol, okToks] at hca hA ⊢
  have bR := blk_below (heap_alloc_new w zeroC) hb1 (by simp)
  unfold zeroC at bR
  have hb0 := ((Below.refl w.heap.size w).alloc (Nat.le_refl _) zeroC).trans (hb1.mono (by simp))
  have z1 := hb1.size
  simp only [World.size_alloc] at z1
  have BR := Lib.hid bR
  have HA := Lib.hid hA
  have hfresh : ∀ g o, A = some ⟨g, o, none⟩ → w.heap.size + 1 ≤ g := fun g o e => by
    subst e
    have := (hown.lt g rfl).1
    simpa using this
  have HF := Lib.hid hfresh
  clear hown bR hb1 hA hfresh
  go_wp2_with fail
  refine (shapes _).mono ?_
  rintro e w2 ⟨G, rfl, hG, hb2⟩
  have HG := Lib.hid hG
  have HB2 := Lib.hid hb2
  have hz12 := hb2.size
  clear hG hb2
  go_wp2_with fail
  go_loopw [8, 26] (fun f kd wr => ∃ k : Nat, k ≤ 4 ∧ kd = .int .i64 (k : Nat) ∧ f = .int .i64 (bestOf L k : Nat) ∧ Hid (∀ j, j < k → kindsOf L ≠ shapeK (j + 1)) ∧ RowKit.Below w2.heap.size w2 wr) (fun _ kd _ => 4 - (intOf kd).toNat)
  case atStart => exact ⟨0, by omega, rfl, rfl, Lib.hid (fun j hj => by omega), Below.refl _ _⟩
  case round =>
    obtain ⟨k, hk, rfl, rfl, hno, hbel⟩ := hrel
    have hbst := best_le L k
    have hbel1 : RowKit.Below w1.heap.size w1 wr := HB2.out.trans (hbel.mono hz12)
    by_cases hlt : k < 4
    · have z2 := hbel1.size
      obtain ⟨hGl, hGr⟩ := HG.out.below hbel
      obtain ⟨S, hSc, hS⟩ := hGr k hlt
      have hslen := shape_len (k + 1)
      have HAg := Lib.hid (fits A ca L S (shapeK (k + 1)).length (shapeK (k + 1)) wr (by omega) (by omega) (HA.out.below hbel1) hS)
      have ha1 := agree_le1 (kindsOf L) (shapeK (k + 1))
      rw [kinds_len] at ha1
      have ha2 := agree_le2 (kindsOf L) (shapeK (k + 1))
      have p1 : (0 : Int) ≤ k := by omega
      have p2 : (k : Int) < 4 := by omega
      clear hGr hS
      by_cases hhit : kindsOf L = shapeK (k + 1)
      · have e1 : agreeN (kindsOf L) (shapeK (k + 1)) = L.length := by rw [← hhit, agree_self, kinds_len]
        have e2 : (shapeK (k + 1)).length = L.length := by rw [← hhit, kinds_len]
        have Hfin := Lib.hid (parseL_hit (by omega) (by omega) hhit)
        rw [e1] at HAg
        rw [e2] at HAg hSc
        have hl5 := len_of_kinds hhit
        clear e1 e2 ha1 ha2 hslen hhit hno
        have hA2 := HA.out.below hbel1
        rcases (show k = 0 ∨ k = 1 ∨ k = 2 ∨ k = 3 by omega) with rfl | rfl | rfl | rfl
        · have hl : L.length = 5 := hl5
          rw [hl] at HAg hSc
          obtain ⟨g, o, rfl, hg, hc⟩ := hA2 (by omega)
          have x0 : wr.cell? ⟨g, o + 1, none⟩ = some (.string (textAt L 0)) := by rw [textAt_eq (show 0 < L.length by omega)]; exact (hc 0 (by omega)).2.1
          have x2 : wr.cell? ⟨g, o + 6 + 1, none⟩ = some (.string (textAt L 2)) := by rw [textAt_eq (show 2 < L.length by omega)]; exact (hc 2 (by omega)).2.1
          have x4 : wr.cell? ⟨g, o + 12 + 1, none⟩ = some (.string (textAt L 4)) := by rw [textAt_eq (show 4 < L.length by omega)]; exact (hc 4 (by omega)).2.1
          clear hc hl5
          go_wp2_with fail
          refine HAg.out.mono ?_
          rintro e w3 ⟨rfl, m, rfl⟩
          have hb3 := hbel1.trans (below_drewN (Below.refl w1.heap.size wr) m)
          have hb4 : RowKit.Below wr.heap.size wr (wr.drewN m) := below_drewN (Below.refl _ _) m
          have y0 := hg
          have y0x := (hb4.cell (p := ⟨g, o + 1, none⟩) hg).trans x0
          have y2x := (hb4.cell (p := ⟨g, o + 6 + 1, none⟩) hg).trans x2
          have y4x := (hb4.cell (p := ⟨g, o + 12 + 1, none⟩) hg).trans x4
          have hg3 : g < (wr.drewN m).heap.size := Nat.lt_of_lt_of_le hg hb4.size
          have bR := blk_below BR.out hb3 (by omega)
          have hbf := hb0.trans (hb3.mono (by omega : w.heap.size ≤ w1.heap.size))
          have z3 := hb3.size
          clear x0 x2 x4 hb3 hb4 hbel1 hbel HAg y0
          generalize wr.drewN m = w3 at *
          have hcR := fun o => Lib.cell_of_heap bR o
          have hfR := blk_frozen bR
          have z4 : w.heap.size < w3.heap.size := by omega
          have z5 : w.heap.size < w3.heap.size + 1 := by omega
          have gc := set_cell
          go_wp2_with fail
          go_region
          go_wp2_with fail
          exact bodyPost_ret (v := .tuple #[.agg #[.int .i64 1, .string (textAt L 0), .string (textAt L 2), .string (textAt L 4), .string ⟨#[]⟩, .string ⟨#[]⟩, .string ⟨#[]⟩, .string ⟨#[]⟩, .string ⟨#[]⟩], .int .i64 0, .int .i64 0]) (by simp [results, Try.results29, go_sem, set9, hcR, z4, z5]) rfl ⟨by rw [Hfin.out, normal_other (show ((1 : Nat) : Int) ≠ 4 by decide)]; rfl, (((((((((((hbf).setCell (by simp) _).setCell (by simp) _).setCell (by simp) _).setCell (by simp) _).setCell (by simp) _).setCell (by simp) _).setCell (by simp) _).setCell (by simp) _).setCell (by simp) _).alloc (by simp; omega) _).drew⟩
        · have hl : L.length = 7 := hl5
          rw [hl] at HAg hSc
          obtain ⟨g, o, rfl, hg, hc⟩ := hA2 (by omega)
          have x0 : wr.cell? ⟨g, o + 1, none⟩ = some (.string (textAt L 0)) := by rw [textAt_eq (show 0 < L.length by omega)]; exact (hc 0 (by omega)).2.1
          have x2 : wr.cell? ⟨g, o + 6 + 1, none⟩ = some (.string (textAt L 2)) := by rw [textAt_eq (show 2 < L.length by omega)]; exact (hc 2 (by omega)).2.1
          have x4 : wr.cell? ⟨g, o + 12 + 1, none⟩ = some (.string (textAt L 4)) := by rw [textAt_eq (show 4 < L.length by omega)]; exact (hc 4 (by omega)).2.1
          have x6 : wr.cell? ⟨g, o + 18 + 1, none⟩ = some (.string (textAt L 6)) := by rw [textAt_eq (show 6 < L.length by omega)]; exact (hc 6 (by omega)).2.1
          clear hc hl5
          have hnm : ∀ w, Calls Try.prog 16 #[.agg #[.int .i64 2, .string (textAt L 0), .string (textAt L 2), .string ⟨#[]⟩, .string (textAt L 4), .string (textAt L 6), .string ⟨#[]⟩, .string ⟨#[]⟩, .string ⟨#[]⟩]] w fun e w' => e = .returned (stmtOf 2 L).normal.val ∧ Grew w w' := normalRef (stmtOf 2 L)
          have HNm := Lib.hid hnm
          clear hnm
          go_wp2_with fail
          refine HAg.out.mono ?_
          rintro e w3 ⟨rfl, m, rfl⟩
          have hb3 := hbel1.trans (below_drewN (Below.refl w1.heap.size wr) m)
          have hb4 : RowKit.Below wr.heap.size wr (wr.drewN m) := below_drewN (Below.refl _ _) m
          have y0 := hg
          have y0x := (hb4.cell (p := ⟨g, o + 1, none⟩) hg).trans x0
          have y2x := (hb4.cell (p := ⟨g, o + 6 + 1, none⟩) hg).trans x2
          have y4x := (hb4.cell (p := ⟨g, o + 12 + 1, none⟩) hg).trans x4
          have y6x := (hb4.cell (p := ⟨g, o + 18 + 1, none⟩) hg).trans x6
          have hg3 : g < (wr.drewN m).heap.size := Nat.lt_of_lt_of_le hg hb4.size
          have bR := blk_below BR.out hb3 (by omega)
          have hbf := hb0.trans (hb3.mono (by omega : w.heap.size ≤ w1.heap.size))
          have z3 := hb3.size
          clear x0 x2 x4 x6 hb3 hb4 hbel1 hbel HAg y0
          generalize wr.drewN m = w3 at *
          have hcR := fun o => Lib.cell_of_heap bR o
          have hfR := blk_frozen bR
          have z4 : w.heap.size < w3.heap.size := by omega
          have z5 : w.heap.size < w3.heap.size + 1 := by omega
          have gc := set_cell
          go_wp2_with fail
          go_region
          go_wp2_with fail
          go_region
          go_wp2_with fail
          refine (HNm.out _).mono ?_
          rintro e w4 ⟨rfl, hg4⟩
          have hb5 := ((Below.refl w3.heap.size w3).alloc (Nat.le_refl _) (.cells (St.cells (stmtOf 2 L)).toArray 25)).drew.drew.trans (hg4.below.mono (by simp))
          have bR4 := blk_below bR hb5 z4
          have hcR4 := fun o => Lib.cell_of_heap bR4 o
          have hfR4 := blk_frozen bR4
          have hbf4 := hbf.trans (hb5.mono (by omega))
          clear bR hcR hfR hb5 hg4 bR4 hbf
          unfold St.val
          go_wp2_with fail
          exact bodyPost_ret (v := .tuple #[(stmtOf 2 L).normal.val, .int .i64 0, .int .i64 0]) (by unfold St.val; simp [results, Try.results29, go_sem, set9, hcR4]) rfl ⟨by rw [Hfin.out], ((((((((((hbf4).setCell (by simp) _).setCell (by simp) _).setCell (by simp) _).setCell (by simp) _).setCell (by simp) _).setCell (by simp) _).setCell (by simp) _).setCell (by simp) _).setCell (by simp) _)⟩
        · have hl : L.length = 9 := hl5
          rw [hl] at HAg hSc
          obtain ⟨g, o, rfl, hg, hc⟩ := hA2 (by omega)
          have x0 : wr.cell? ⟨g, o + 1, none⟩ = some (.string (textAt L 0)) := by rw [textAt_eq (show 0 < L.length by omega)]; exact (hc 0 (by omega)).2.1
          have x2 : wr.cell? ⟨g, o + 6 + 1, none⟩ = some (.string (textAt L 2)) := by rw [textAt_eq (show 2 < L.length by omega)]; exact (hc 2 (by omega)).2.1
          have x4 : wr.cell? ⟨g, o + 12 + 1, none⟩ = some (.string (textAt L 4)) := by rw [textAt_eq (show 4 < L.length by omega)]; exact (hc 4 (by omega)).2.1
          have x6 : wr.cell? ⟨g, o + 18 + 1, none⟩ = some (.string (textAt L 6)) := by rw [textAt_eq (show 6 < L.length by omega)]; exact (hc 6 (by omega)).2.1
          have x8 : wr.cell? ⟨g, o + 24 + 1, none⟩ = some (.string (textAt L 8)) := by rw [textAt_eq (show 8 < L.length by omega)]; exact (hc 8 (by omega)).2.1
          clear hc hl5
          have hnm : ∀ w, Calls Try.prog 16 #[.agg #[.int .i64 3, .string (textAt L 0), .string (textAt L 2), .string ⟨#[]⟩, .string (textAt L 4), .string (textAt L 6), .string ⟨#[]⟩, .string ⟨#[]⟩, .string (textAt L 8)]] w fun e w' => e = .returned (stmtOf 3 L).normal.val ∧ Grew w w' := normalRef (stmtOf 3 L)
          have HNm := Lib.hid hnm
          clear hnm
          go_wp2_with fail
          refine HAg.out.mono ?_
          rintro e w3 ⟨rfl, m, rfl⟩
          have hb3 := hbel1.trans (below_drewN (Below.refl w1.heap.size wr) m)
          have hb4 : RowKit.Below wr.heap.size wr (wr.drewN m) := below_drewN (Below.refl _ _) m
          have y0 := hg
          have y0x := (hb4.cell (p := ⟨g, o + 1, none⟩) hg).trans x0
          have y2x := (hb4.cell (p := ⟨g, o + 6 + 1, none⟩) hg).trans x2
          have y4x := (hb4.cell (p := ⟨g, o + 12 + 1, none⟩) hg).trans x4
          have y6x := (hb4.cell (p := ⟨g, o + 18 + 1, none⟩) hg).trans x6
          have y8x := (hb4.cell (p := ⟨g, o + 24 + 1, none⟩) hg).trans x8
          have hg3 : g < (wr.drewN m).heap.size := Nat.lt_of_lt_of_le hg hb4.size
          have bR := blk_below BR.out hb3 (by omega)
          have hbf := hb0.trans (hb3.mono (by omega : w.heap.size ≤ w1.heap.size))
          have z3 := hb3.size
          clear x0 x2 x4 x6 x8 hb3 hb4 hbel1 hbel HAg y0
          generalize wr.drewN m = w3 at *
          have hcR := fun o => Lib.cell_of_heap bR o
          have hfR := blk_frozen bR
          have z4 : w.heap.size < w3.heap.size := by omega
          have z5 : w.heap.size < w3.heap.size + 1 := by omega
          have gc := set_cell
          go_wp2_with fail
          go_region
          go_wp2_with fail
          go_region
          go_wp2_with fail
          refine (HNm.out _).mono ?_
          rintro e w4 ⟨rfl, hg4⟩
          have hb5 := ((Below.refl w3.heap.size w3).alloc (Nat.le_refl _) (.cells (St.cells (stmtOf 3 L)).toArray 25)).drew.drew.trans (hg4.below.mono (by simp))
          have bR4 := blk_below bR hb5 z4
          have hcR4 := fun o => Lib.cell_of_heap bR4 o
          have hfR4 := blk_frozen bR4
          have hbf4 := hbf.trans (hb5.mono (by omega))
          clear bR hcR hfR hb5 hg4 bR4 hbf
          unfold St.val
          go_wp2_with fail
          exact bodyPost_ret (v := .tuple #[(stmtOf 3 L).normal.val, .int .i64 0, .int .i64 0]) (by unfold St.val; simp [results, Try.results29, go_sem, set9, hcR4]) rfl ⟨by rw [Hfin.out], ((((((((((hbf4).setCell (by simp) _).setCell (by simp) _).setCell (by simp) _).setCell (by simp) _).setCell (by simp) _).setCell (by simp) _).setCell (by simp) _).setCell (by simp) _).setCell (by simp) _)⟩
        · have hl : L.length = 11 := hl5
          rw [hl] at HAg hSc
          obtain ⟨g, o, rfl, hg, hc⟩ := hA2 (by omega)
          have x0 : wr.cell? ⟨g, o + 1, none⟩ = some (.string (textAt L 0)) := by rw [textAt_eq (show 0 < L.length by omega)]; exact (hc 0 (by omega)).2.1
          have x2 : wr.cell? ⟨g, o + 6 + 1, none⟩ = some (.string (textAt L 2)) := by rw [textAt_eq (show 2 < L.length by omega)]; exact (hc 2 (by omega)).2.1
          have x4 : wr.cell? ⟨g, o + 12 + 1, none⟩ = some (.string (textAt L 4)) := by rw [textAt_eq (show 4 < L.length by omega)]; exact (hc 4 (by omega)).2.1
          have x6 : wr.cell? ⟨g, o + 18 + 1, none⟩ = some (.string (textAt L 6)) := by rw [textAt_eq (show 6 < L.length by omega)]; exact (hc 6 (by omega)).2.1
          have x8 : wr.cell? ⟨g, o + 24 + 1, none⟩ = some (.string (textAt L 8)) := by rw [textAt_eq (show 8 < L.length by omega)]; exact (hc 8 (by omega)).2.1
          have x10 : wr.cell? ⟨g, o + 30 + 1, none⟩ = some (.string (textAt L 10)) := by rw [textAt_eq (show 10 < L.length by omega)]; exact (hc 10 (by omega)).2.1
          clear hc hl5
          have hnm : ∀ w, Calls Try.prog 16 #[.agg #[.int .i64 4, .string (textAt L 0), .string (textAt L 2), .string ⟨#[]⟩, .string (textAt L 4), .string (textAt L 6), .string (textAt L 8), .string (textAt L 10), .string ⟨#[]⟩]] w fun e w' => e = .returned (stmtOf 4 L).normal.val ∧ Grew w w' := normalRef (stmtOf 4 L)
          have HNm := Lib.hid hnm
          clear hnm
          go_wp2_with fail
          refine HAg.out.mono ?_
          rintro e w3 ⟨rfl, m, rfl⟩
          have hb3 := hbel1.trans (below_drewN (Below.refl w1.heap.size wr) m)
          have hb4 : RowKit.Below wr.heap.size wr (wr.drewN m) := below_drewN (Below.refl _ _) m
          have y0 := hg
          have y0x := (hb4.cell (p := ⟨g, o + 1, none⟩) hg).trans x0
          have y2x := (hb4.cell (p := ⟨g, o + 6 + 1, none⟩) hg).trans x2
          have y4x := (hb4.cell (p := ⟨g, o + 12 + 1, none⟩) hg).trans x4
          have y6x := (hb4.cell (p := ⟨g, o + 18 + 1, none⟩) hg).trans x6
          have y8x := (hb4.cell (p := ⟨g, o + 24 + 1, none⟩) hg).trans x8
          have y10x := (hb4.cell (p := ⟨g, o + 30 + 1, none⟩) hg).trans x10
          have hg3 : g < (wr.drewN m).heap.size := Nat.lt_of_lt_of_le hg hb4.size
          have bR := blk_below BR.out hb3 (by omega)
          have hbf := hb0.trans (hb3.mono (by omega : w.heap.size ≤ w1.heap.size))
          have z3 := hb3.size
          clear x0 x2 x4 x6 x8 x10 hb3 hb4 hbel1 hbel HAg y0
          generalize wr.drewN m = w3 at *
          have hcR := fun o => Lib.cell_of_heap bR o
          have hfR := blk_frozen bR
          have z4 : w.heap.size < w3.heap.size := by omega
          have z5 : w.heap.size < w3.heap.size + 1 := by omega
          have gc := set_cell
          go_wp2_with fail
          go_region
          go_wp2_with fail
          go_region
          go_wp2_with fail
          go_region
          go_wp2_with fail
          refine (HNm.out _).mono ?_
          rintro e w4 ⟨rfl, hg4⟩
          have hb5 := ((Below.refl w3.heap.size w3).alloc (Nat.le_refl _) (.cells (St.cells (stmtOf 4 L)).toArray 25)).drew.drew.drew.trans (hg4.below.mono (by simp))
          have bR4 := blk_below bR hb5 z4
          have hcR4 := fun o => Lib.cell_of_heap bR4 o
          have hfR4 := blk_frozen bR4
          have hbf4 := hbf.trans (hb5.mono (by omega))
          clear bR hcR hfR hb5 hg4 bR4 hbf
          unfold St.val
          go_wp2_with fail
          exact bodyPost_ret (v := .tuple #[(stmtOf 4 L).normal.val, .int .i64 0, .int .i64 0]) (by unfold St.val; simp [results, Try.results29, go_sem, set9, hcR4]) rfl ⟨by rw [Hfin.out], ((((((((((hbf4).setCell (by simp) _).setCell (by simp) _).setCell (by simp) _).setCell (by simp) _).setCell (by simp) _).setCell (by simp) _).setCell (by simp) _).setCell (by simp) _).setCell (by simp) _)⟩
      · have hnext : Hid (∀ j, j < k + 1 → kindsOf L ≠ shapeK (j + 1)) := Lib.hid (fun j hj => by
          rcases Nat.lt_or_ge j k with h | h
          · exact hno.out j h
          · obtain rfl : j = k := by omega
            exact hhit)
        have hbest : Hid (bestOf L (k + 1) = max (bestOf L k) (agreeN (kindsOf L) (shapeK (k + 1)))) := Lib.hid rfl
        have hne : ¬ (agreeN (kindsOf L) (shapeK (k + 1)) = L.length ∧ agreeN (kindsOf L) (shapeK (k + 1)) = (shapeK (k + 1)).length) := fun e => hhit (agree_all _ _ (by rw [kinds_len]; exact e.1) e.2)
        clear hhit hno
        generalize agreeN (kindsOf L) (shapeK (k + 1)) = n at *
        generalize (shapeK (k + 1)).length = sl at *
        by_cases h1 : n = L.length
        · have h2 : ¬ n = sl := fun e => hne ⟨h1, e⟩
          have d1 : ((n : Int) == L.length) = true := by simp; omega
          have d2 : ((n : Int) == sl) = false := by simp; omega
          clear hne h1 h2
          go_wp2_with (go_at_call 52; refine HAg.out.mono ?_; rintro e w3 ⟨rfl, m, rfl⟩)
          go_roundw
          case rel => exact ⟨k + 1, by omega, by go_num, by rw [hbest.out, ← max_cast], hnext, hbel.trans (below_drewN (Below.refl _ _) m)⟩
          case measure => simp [intOf]; omega
        · have d1 : ((n : Int) == L.length) = false := by simp; omega
          clear hne h1
          go_wp2_with (go_at_call 52; refine HAg.out.mono ?_; rintro e w3 ⟨rfl, m, rfl⟩)
          go_roundw
          case rel => exact ⟨k + 1, by omega, by go_num, by rw [hbest.out, ← max_cast], hnext, hbel.trans (below_drewN (Below.refl _ _) m)⟩
          case measure => simp [intOf]; omega
    · obtain rfl : k = 4 := by omega
      have Hmiss := Lib.hid (parseL_miss hno.out)
      have bR := blk_below BR.out hbel1 (by omega)
      have hcR := fun o => Lib.cell_of_heap bR o
      have hfR := blk_frozen bR
      have hbf := hb0.trans (hbel1.mono (by omega : w.heap.size ≤ w1.heap.size))
      have hA2 := HA.out.below hbel1
      have gc := set_cell
      clear hno hlt
      by_cases hb4 : bestOf L 4 < L.length
      · have Hm2 := Lib.hid (Hmiss.out.trans (if_pos hb4))
        obtain ⟨g, o, rfl, hg, hc⟩ := hA2 (by omega)
        obtain ⟨_, _, x2⟩ := hc (bestOf L 4) hb4
        have hgw := HF.out g o rfl
        have hcol := Lib.hid (colAt_eq hb4)
        have d1 : ((bestOf L 4 : Int) == L.length) = false := by simp; omega
        have d2 : (0 : Int) ≤ bestOf L 4 := by omega
        have d3 : ((bestOf L 4 : Nat) : Int) < (L.length : Int) := by omega
        rw [← hcol.out] at x2
        clear hc hbel hbel1
        generalize colAt L (bestOf L 4) = col at *
        generalize bestOf L 4 = b at *
        go_wp2_with fail
        have hst : wr.drew.cell? ⟨g, o + b * 3 + 2, none⟩ = some (.int .i64 col) := x2
        go_region_held3 (fun x => x.cell? ⟨g, o + b * 3 + 2, none⟩ = some (.int .i64 col)) (first | with_reducible exact hst | with_reducible assumption | (rw [set9_fard _ _ _ _ _ _ _ _ _ _ _ _ _ (by omega)]; with_reducible exact x2) | (rw [set9_far _ _ _ _ _ _ _ _ _ _ _ _ _ (by omega)]; with_reducible exact hst)) (fail)
        go_wp2_with fail
        exact bodyPost_ret (v := .tuple #[.agg #[.int .i64 0, .string ⟨#[]⟩, .string ⟨#[]⟩, .string ⟨#[]⟩, .string ⟨#[]⟩, .string ⟨#[]⟩, .string ⟨#[]⟩, .string ⟨#[]⟩, .string ⟨#[]⟩], .int .i64 col, .int .i64 2]) (by simp [results, Try.results29, go_sem, set9, hcR]) rfl ⟨by rw [Hm2.out]; rfl, ((((((((((hbf).setCell (by simp) _).setCell (by simp) _).setCell (by simp) _).setCell (by simp) _).setCell (by simp) _).setCell (by simp) _).setCell (by simp) _).setCell (by simp) _).setCell (by simp) _).drew⟩
      · have Hm2 := Lib.hid (Hmiss.out.trans (if_neg hb4))
        have d1 : ((bestOf L 4 : Int) == L.length) = true := by simp; omega
        have HB := Lib.hid (endRef s wr hs)
        clear hb4 hA2 hbel hbel1
        go_wp2_with fail
        refine HB.out.mono ?_
        rintro e w3 ⟨rfl, rfl⟩
        go_wp2_with fail
        exact bodyPost_ret (v := .tuple #[.agg #[.int .i64 0, .string ⟨#[]⟩, .string ⟨#[]⟩, .string ⟨#[]⟩, .string ⟨#[]⟩, .string ⟨#[]⟩, .string ⟨#[]⟩, .string ⟨#[]⟩, .string ⟨#[]⟩], .int .i64 ((endL (bare s).data.toList + 1 : Nat) : Int), .int .i64 3]) (by simp [results, Try.results29, go_sem, set9, hcR]) rfl ⟨by rw [Hm2.out, HEnd.out]; rfl, ((((((((((hbf).setCell (by simp) _).setCell (by simp) _).setCell (by simp) _).setCell (by simp) _).setCell (by simp) _).setCell (by simp) _).setCell (by simp) _).setCell (by simp) _).setCell (by simp) _)⟩
theorem parseRef (s : ByteArray) (w : World) (hs : s.size ≤ 1000000) : Calls Try.prog 29 #[.string s] w (ParsePost (parseA (ansOf s)) w) := by
  cases h : ansOf s with
  | bad c e => exact parseRef_bad s w hs c e h
  | ok L => exact parseRef_ok s w hs L h
end Go.Proofs.Ythhofldmieoneaa.SynO
