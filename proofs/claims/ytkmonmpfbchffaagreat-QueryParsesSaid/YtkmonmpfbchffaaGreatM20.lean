/- A line as a query, in the document's answers: the walk. -/
import Derived.Test.YtkmonmpfbchffaaGreatM16
import Derived.Test.YtkmonmpfbchffaaGreatM19
import Derived.Deep.CutBlock
import Derived.Deep.LoopGhost
namespace Go.Proofs.YtkmonmpfbchffaaGreat.QryRs
set_option linter.unusedVariables false
set_option linter.unusedSimpArgs false
open Go.Proofs.YtkmonmpfbchffaaGreat.QryRm Go.Proofs.YtkmonmpfbchffaaGreat.QryW Go.Proofs.YtkmonmpfbchffaaGreat.QryE Go.Proofs.YtkmonmpfbchffaaGreat.Scan4 Go.Proofs.YtkmonmpfbchffaaGreat.QryM Go.RowKit Go.Sort Go.Proofs Go.Proofs.YtkmonmpfbchffaaGreat.Plain Go.Proofs.YtkmonmpfbchffaaGreat.SynP Go.Proofs.YtkmonmpfbchffaaGreat.SynQ Go.Proofs.YtkmonmpfbchffaaGreat.TabP Go.Proofs.YtkmonmpfbchffaaGreat.Tab1 Go.Proofs.YtkmonmpfbchffaaGreat.Grown Go.Proofs.YtkmonmpfbchffaaGreat.Scan3 Go.Proofs.YtkmonmpfbchffaaGreat.SynA Go.Proofs.YtkmonmpfbchffaaGreat.SynC Go.Proofs.YtkmonmpfbchffaaGreat.SynR Go.Proofs.YtkmonmpfbchffaaGreat.SynS Go.Proofs.YtkmonmpfbchffaaGreat.SynU Go.Proofs.YtkmonmpfbchffaaGreat.SynV Go.Proofs.YtkmonmpfbchffaaGreat.SynX Go.Proofs.YtkmonmpfbchffaaGreat.QryP Go.Proofs.YtkmonmpfbchffaaGreat.Qry4 Go.Proofs.YtkmonmpfbchffaaGreat.Qry5 Go.Proofs.YtkmonmpfbchffaaGreat.Qry6 Go.Proofs.YtkmonmpfbchffaaGreat.Qry7 Go.Proofs.YtkmonmpfbchffaaGreat.QryA Go.Proofs.YtkmonmpfbchffaaGreat.QryB Go.Proofs.YtkmonmpfbchffaaGreat.QryC Go.Proofs.YtkmonmpfbchffaaGreat.QryD
set_option linter.unusedVariables false
set_option linter.unusedSimpArgs false
theorem drew_cellQ (Y : World) (a : Addr) : Y.drew.cell? a = Y.cell? a := rfl
theorem set6_fard (X : World) (n g i : Nat) (v0 v1 v2 v3 v4 v5 : Value) (h : n ≠ g) : ((((((X.setCell ⟨n, 0, none⟩ v0).setCell ⟨n, 1, none⟩ v1).setCell ⟨n, 2, none⟩ v2).setCell ⟨n, 3, none⟩ v3).setCell ⟨n, 4, none⟩ v4).setCell ⟨n, 5, none⟩ v5).drew.cell? ⟨g, i, none⟩ = X.cell? ⟨g, i, none⟩ := by
  rw [drew_cellQ]; exact set6_far X n g i v0 v1 v2 v3 v4 v5 h
theorem two_ad {X : World} {g a b : Nat} {u v : Value} (h : X.cell? ⟨g, a, none⟩ = some u ∧ X.cell? ⟨g, b, none⟩ = some v) (o : Obj) : (X.alloc o).drew.cell? ⟨g, a, none⟩ = some u ∧ (X.alloc o).drew.cell? ⟨g, b, none⟩ = some v := by
  have hg := World.block_lt_of_cell? _ _ h.1
  refine ⟨?_, ?_⟩ <;> rw [drew_cellQ, World.cell?_alloc_past _ _ _ hg]
  · exact h.1
  · exact h.2
theorem two_al {X : World} {g a b : Nat} {u v : Value} (h : X.cell? ⟨g, a, none⟩ = some u ∧ X.cell? ⟨g, b, none⟩ = some v) (o : Obj) : (X.alloc o).cell? ⟨g, a, none⟩ = some u ∧ (X.alloc o).cell? ⟨g, b, none⟩ = some v := two_ad h o
theorem two_six {X : World} {g n a b : Nat} {u v : Value} (h : X.cell? ⟨g, a, none⟩ = some u ∧ X.cell? ⟨g, b, none⟩ = some v) (hn : n ≠ g) (v0 v1 v2 v3 v4 v5 : Value) : ((((((X.setCell ⟨n, 0, none⟩ v0).setCell ⟨n, 1, none⟩ v1).setCell ⟨n, 2, none⟩ v2).setCell ⟨n, 3, none⟩ v3).setCell ⟨n, 4, none⟩ v4).setCell ⟨n, 5, none⟩ v5).cell? ⟨g, a, none⟩ = some u ∧ ((((((X.setCell ⟨n, 0, none⟩ v0).setCell ⟨n, 1, none⟩ v1).setCell ⟨n, 2, none⟩ v2).setCell ⟨n, 3, none⟩ v3).setCell ⟨n, 4, none⟩ v4).setCell ⟨n, 5, none⟩ v5).cell? ⟨g, b, none⟩ = some v := by
  rw [set6_far _ _ _ _ _ _ _ _ _ _ hn, set6_far _ _ _ _ _ _ _ _ _ _ hn]; exact h
theorem two_two {X : World} {g n a b i j : Nat} {u v : Value} (h : X.cell? ⟨g, a, none⟩ = some u ∧ X.cell? ⟨g, b, none⟩ = some v) (hn : n ≠ g) (v0 v1 : Value) : ((X.setCell ⟨n, i, none⟩ v0).setCell ⟨n, j, none⟩ v1).cell? ⟨g, a, none⟩ = some u ∧ ((X.setCell ⟨n, i, none⟩ v0).setCell ⟨n, j, none⟩ v1).cell? ⟨g, b, none⟩ = some v := by
  rw [set_far _ _ _ _ _ _ hn, set_far _ _ _ _ _ _ hn, set_far _ _ _ _ _ _ hn, set_far _ _ _ _ _ _ hn]; exact h
theorem one_blw {X Y : World} {B g a : Nat} {u : Value} (h : X.cell? ⟨g, a, none⟩ = some u) (hb : RowKit.Below B X Y) (hg : g < B) : Y.cell? ⟨g, a, none⟩ = some u := (hb.cell (p := ⟨g, a, none⟩) hg).trans h
theorem one_set {X : World} {n g i a : Nat} {u : Value} (h : X.cell? ⟨g, a, none⟩ = some u) (hn : n ≠ g) (v : Value) : (X.setCell ⟨n, i, none⟩ v).cell? ⟨g, a, none⟩ = some u := by rw [set_far _ _ _ _ _ _ hn]; exact h
theorem one_setd {X : World} {n g i a : Nat} {u : Value} (h : X.cell? ⟨g, a, none⟩ = some u) (hn : n ≠ g) (v : Value) : (X.setCell ⟨n, i, none⟩ v).drew.cell? ⟨g, a, none⟩ = some u := one_set h hn v
theorem textAt_at {L : List Tk} {k : Nat} (h : k < L.length) : QryB.textAt L k = L[k].text := by unfold QryB.textAt; rw [List.getElem?_eq_getElem h]; rfl
def GoesAll : Prop := ∀ (k : Int), 1 ≤ k → k ≤ 6 → ∀ (i : Nat) (hi : i < (shapeF k).length) (t : Tk) (w : World), Calls Tryz.prog 43 #[.int .i64 k, .int .i64 i, .agg #[.int .i64 t.kind, .string t.text, .int .i64 t.col]] w (GoesP (Ft.fits t (shapeF k)[i]) w)
set_option maxHeartbeats 4000000 in
set_option maxRecDepth 100000 in
theorem parseRef_ok (hgoes : GoesAll) (s : ByteArray) (w : World) (hs : s.size ≤ 1000000) (L : List Tk) (h : ansOf s = .ok L) : Calls Tryz.prog 10 #[.string s] w (AskPost (parseQ L) w) := by
  rw [← docQ_parseQ]
  have hgood := ans_good h
  have hlen := ans_len h
  have Hs : Hid (SmallTk L) := Lib.hid (fun t ht => ⟨by have := (hgood t ht).2.1; omega, by have := (hgood t ht).2.2; omega⟩)
  have HT := Lib.hid (tokensRef s · hs)
  have HGO : Hid GoesAll := Lib.hid hgoes
  rw [h] at HT
  have HEnd := Lib.hid (SynK.ans_end h)
  have HG : Hid (∀ t ∈ L, goodTk t) := Lib.hid (fun t ht => (hgood t ht).1)
  clear h hgood hgoes
  go_enter Tryz.func10, Tryz.ntmps10
  go_wp2_with fail
  refine (HT.out _).mono ?_
  rintro e w1 ⟨v, rfl, hown, hb1⟩
  obtain ⟨A, ca, rfl, hca, hA⟩ := of_rowTk hown
  simp only [okErr, okCol, okToks] at hca hA ⊢
  have bR := blk_below (heap_alloc_new w zero6) hb1 (by simp)
  unfold zero6 at bR
  have hb0 := ((Below.refl w.heap.size w).alloc (Nat.le_refl _) zero6).trans (hb1.mono (by simp))
  have z1 := hb1.size
  simp only [World.size_alloc] at z1
  have BR := Lib.hid bR
  have HA := Lib.hid hA
  have HB0 := Lib.hid hb0
  have hfresh : ∀ g o, A = some ⟨g, o, none⟩ → w.heap.size + 1 ≤ g := fun g o e => by
    subst e
    have := (hown.lt g rfl).1
    simpa using this
  have HF := Lib.hid hfresh
  clear hown bR hb1 hA hb0 hfresh
  go_wp2_with fail
  go_loopg [8, 9] 6 (fun g f kd wr => ∃ (k fn : Nat), k ≤ 6 ∧ fn ≤ L.length ∧ g = 6 - k ∧ kd = .int .i64 ((k + 1 : Nat) : Int) ∧ f = .int .i64 fn ∧ Hid (docQ L 6 0 0 = docQ L (6 - k) k fn) ∧ RowKit.Below w1.heap.size w1 wr)
  case atStart => exact ⟨0, 0, by omega, by omega, rfl, rfl, rfl, Lib.hid rfl, Below.refl _ _⟩
  case round =>
    obtain ⟨k, fn, hk, hfn, rfl, rfl, rfl, hrun, hbel⟩ := hrel
    by_cases hlt : k < 6
    · have z2 := hbel.size
      have HQ : Hid (docQ L 6 0 0 = if agreeF L (shapeF ((k + 1 : Nat) : Int)) < (shapeF ((k + 1 : Nat) : Int)).length then docQ L (6 - (k + 1)) (k + 1) (max fn (agreeF L (shapeF ((k + 1 : Nat) : Int)))) else lastQ L (readQ ((k + 1 : Nat) : Int) L)) := Lib.hid (by
        rw [hrun.out, show 6 - k = (6 - (k + 1)) + 1 by omega]; rfl)
      generalize hKK : ((k + 1 : Nat) : Int) = K at *
      have hK1 : (1 : Int) ≤ K := by omega
      have hK6 : K ≤ 6 := by omega
      have hz8 := QryB.shape_len K
      have HFr := Lib.hid (fun w' => frontRef K hK1 hK6 w')
      have HGK := Lib.hid (HGO.out K hK1 hK6)
      go_upto_block 2 with fail
      go_cut [10] from 23 to 136 (fun n wx => n = .int .i64 (agreeF L (shapeF K) : Nat) ∧ RowKit.Below w1.heap.size w1 wx)
      case first =>
        go_wp2_with fail
        go_loopg [10] L.length (fun g n wx => ∃ i : Nat, i ≤ L.length ∧ i ≤ (shapeF K).length ∧ g = L.length - i ∧ n = .int .i64 i ∧ Hid (agreeF L (shapeF K) = i + agreeF (L.drop i) ((shapeF K).drop i)) ∧ RowKit.Below w1.heap.size w1 wx)
        case atStart => exact ⟨0, by omega, by omega, by omega, rfl, Lib.hid (by simp), hbel⟩
        case round =>
          obtain ⟨i, hi, hif, rfl, rfl, hag, hbl⟩ := hrel
          have HBL := Lib.hid hbl
          by_cases hlL : i < L.length
          · have p1 : (0 : Int) ≤ i := by omega
            have p2 : (i : Int) < L.length := by omega
            have hx0 := (HA.out.below hbl) (by omega)
            clear hbl hbel
            go_wp2_with fail
            refine (HFr.out _).mono ?_
            rintro e w2 ⟨rfl, rfl⟩
            by_cases hlF : i < (shapeF K).length
            · have d2 : decide ((i : Int) < (shapeF K).length) = true := by simp; omega
              have p3 : (i : Int) < (shapeF K).length := by omega
              have HGc := Lib.hid (HGK.out i hlF L[i])
              have HY := Lib.hid (fun h => agreeF_yes hlL hlF h)
              have HN := Lib.hid (fun h => agreeF_no hlL hlF h)
              obtain ⟨g, o, rfl, hg, hc⟩ := hx0
              obtain ⟨a0, a1, a2⟩ := hc i hlL
              clear hc
              generalize Ft.fits L[i] (shapeF K)[i] = b at HGc HY HN
              go_wp2_with fail
              refine (HGc.out _).mono ?_
              rintro e w3 ⟨rfl, hb3⟩
              have HB3 := Lib.hid (HBL.out.trans (hb3.mono HBL.out.size))
              clear a0 a1 a2 hg hb3 p1 p2 p3 d2
              cases b
              · have hfin : Hid (agreeF L (shapeF K) = i) := Lib.hid (by rw [hag.out, HN.out rfl]; omega)
                clear hag HY HN HGc
                go_wp2_with fail
                go_meet
                exact ⟨by rw [hfin.out], HB3.out⟩
              · have hnx : Hid (agreeF L (shapeF K) = (i + 1) + agreeF (L.drop (i + 1)) ((shapeF K).drop (i + 1))) := Lib.hid (by rw [hag.out, HY.out rfl]; omega)
                clear hag HY HN HGc
                go_wp2_with fail
                go_roundg (L.length - (i + 1))
                case measure => omega
                case rel => exact ⟨i + 1, by omega, by omega, rfl, by go_num, hnx, HB3.out⟩
            · have d2 : decide ((i : Int) < (shapeF K).length) = false := by simp; omega
              have hfin : Hid (agreeF L (shapeF K) = i) := Lib.hid (by rw [hag.out, agreeF_end (by omega)]; omega)
              clear hag hx0 p1 p2
              go_wp2_with fail
              go_meet
              exact ⟨by rw [hfin.out], HBL.out⟩
          · have d1 : decide ((i : Int) < L.length) = false := by simp; omega
            have hfin : Hid (agreeF L (shapeF K) = i) := Lib.hid (by rw [hag.out, agreeF_end (by omega)]; omega)
            clear hag hbl hbel
            go_wp2_with fail
            go_meet
            exact ⟨by rw [hfin.out], HBL.out⟩
      case rest =>
        obtain ⟨rfl, hbc⟩ := hcut
        have hale := agreeF_le L (shapeF K)
        have HBC := Lib.hid hbc
        clear hbc hbel
        generalize hnn : agreeF L (shapeF K) = n at *
        by_cases hsh : n < (shapeF K).length
        · have d2 : decide ((n : Int) < (shapeF K).length) = true := by simp; omega
          have hnx : Hid (docQ L 6 0 0 = docQ L (6 - (k + 1)) (k + 1) (max fn n)) := Lib.hid (by rw [HQ.out, if_pos hsh])
          clear HQ hnn hrun
          go_wp2_with fail
          refine (HFr.out _).mono ?_
          rintro e w2 ⟨rfl, rfl⟩
          go_wp2_with fail
          go_roundg (6 - (k + 1))
          case measure => omega
          case rel => exact ⟨k + 1, max fn n, by omega, by omega, rfl, by rw [← hKK]; go_num, by go_num, hnx, HBC.out⟩
        · have hfull : agreeF L (shapeF K) = (shapeF K).length := by omega
          have hq : Hid (docQ L 6 0 0 = lastQ L (readQ K L)) := Lib.hid (by rw [HQ.out, if_neg hsh])
          have hA2 := HA.out.below HBC.out
          have bR := blk_below BR.out HBC.out (by omega)
          have bRh := Lib.hid bR
          have HAh := Lib.hid hA2
          have zx := HBC.out.size
          rcases kinds3 hK1 hK6 with hk | hk | hk
          · obtain ⟨h5, hl5, hv5⟩ := hit3 hk HG.out hfull
            have hn5 : n = 5 := by omega
            subst hn5
            have HF3m := Lib.hid (fun (T : List Str) (m : Nat) (hm : 5 ≤ m) hr => hq.out.trans (fin3_many (T := T) (m := m) hk HG.out hfull hm hr))
            have HF3f := Lib.hid (fun (T : List Str) (m : Nat) (hm : 5 ≤ m) hr hlt => hq.out.trans (fin3_form (T := T) (m := m) hk HG.out hfull hm hr hlt))
            have HF3e := Lib.hid (fun (T : List Str) (m : Nat) (hm : 5 ≤ m) hr hlt h0 => hq.out.trans (fin3_end (T := T) (m := m) hk HG.out hfull hm hr hlt h0))
            have HF3o := Lib.hid (fun (T : List Str) (m : Nat) (hm : 5 ≤ m) hr hlt h0 => hq.out.trans (fin3_ok (T := T) (m := m) hk HG.out hfull hm hr hlt h0))
            obtain ⟨g, o, rfl, hg, hc⟩ := hA2 (by omega)
            have hgw := HF.out g o rfl
            obtain ⟨_, x1, _⟩ := hc 1 (by omega)
            obtain ⟨_, x3, _⟩ := hc 3 (by omega)
            rw [← textAt_at] at x1 x3
            have d2 : decide ((5 : Int) < (shapeF K).length) = false := by simp; omega
            have q1 : (1 : Int) < L.length := by omega
            have q3 : (3 : Int) < L.length := by omega
            have hst : wc.drew.cell? ⟨g, o + 3 + 1, none⟩ = some (.string (QryB.textAt L 1)) ∧ wc.drew.cell? ⟨g, o + 9 + 1, none⟩ = some (.string (QryB.textAt L 3)) := ⟨x1, x3⟩
            have hwg : wc.heap.size ≠ g := by omega
            clear hnn HQ hfull h5 hv5 hale hsh hc hq hrun bR HA HF hA2
            go_wp2_with fail
            refine (HFr.out _).mono ?_
            rintro e w2 ⟨rfl, rfl⟩
            go_wp2_with fail
            go_region_held3 (fun x => x.cell? ⟨g, o + 3 + 1, none⟩ = some (.string (QryB.textAt L 1)) ∧ x.cell? ⟨g, o + 9 + 1, none⟩ = some (.string (QryB.textAt L 3))) (first | with_reducible exact hst | with_reducible assumption | exact two_ad (by with_reducible assumption) _ | exact two_ad hst _ | exact two_six (by with_reducible assumption) hwg _ _ _ _ _ _ | exact two_al (by with_reducible assumption) _) (fail)
            have bX := ((Below.refl wc.heap.size wc).alloc (Nat.le_refl _) (.cells #[.int .i64 K, .string (QryB.textAt L 1), .string (QryB.textAt L 3), .string ⟨#[]⟩, .string ⟨#[]⟩, .slice none 0 0] 26)).drew
            have bQ' : (wc.alloc (.cells #[.int .i64 K, .string (QryB.textAt L 1), .string (QryB.textAt L 3), .string ⟨#[]⟩, .string ⟨#[]⟩, .slice none 0 0] 26)).drew.heap[wc.heap.size]? = some (.cells #[.int .i64 K, .string (QryB.textAt L 1), .string (QryB.textAt L 3), .string ⟨#[]⟩, .string ⟨#[]⟩, .slice none 0 0] 26) := heap_alloc_new wc (.cells #[.int .i64 K, .string (QryB.textAt L 1), .string (QryB.textAt L 3), .string ⟨#[]⟩, .string ⟨#[]⟩, .slice none 0 0] 26)
            have zX : wc.heap.size < (wc.alloc (.cells #[.int .i64 K, .string (QryB.textAt L 1), .string (QryB.textAt L 3), .string ⟨#[]⟩, .string ⟨#[]⟩, .slice none 0 0] 26)).drew.heap.size := by show _ < (wc.alloc _).heap.size; simp
            clear hst x1 x3
            generalize (wc.alloc (.cells #[.int .i64 K, .string (QryB.textAt L 1), .string (QryB.textAt L 3), .string ⟨#[]⟩, .string ⟨#[]⟩, .slice none 0 0] 26)).drew = X at *
            have HX := Lib.hid bX
            have HQX := Lib.hid bQ'
            have zX' : wc.heap.size + 1 ≤ X.heap.size := zX
            clear bX bQ'
            have k3 : K ≤ 3 := by omega
            have k5 : ¬ 5 ≤ K := by omega
            go_wp2_with fail
            go_loopg [10] L.length (fun gh n wr => ∃ (m : Nat) (T : List Str) (A' : Option Addr) (c' : Nat), 5 ≤ m ∧ m ≤ L.length ∧ L.length - m ≤ gh ∧ n = .int .i64 m ∧ T.length ≤ 12 ∧ Hid (T.Pairwise (· < ·)) ∧ Hid (readW (L.drop 5) [] = addN (readW (L.drop m) T) (m - 5)) ∧ Hid (wr.heap[wc.heap.size]? = some (.cells #[.int .i64 K, .string (QryB.textAt L 1), .string (QryB.textAt L 3), .string ⟨#[]⟩, .string ⟨#[]⟩, .slice A' T.length c'] 26)) ∧ Hid (wr.ownsRow (wc.heap.size + 1) 9 1 (.slice A' T.length c') T.length (T.map encStr)) ∧ Hid (RowKit.Below wc.heap.size wc wr) ∧ wc.heap.size + 1 ≤ wr.heap.size)
            case atStart => exact ⟨5, [], none, 0, by omega, by omega, by omega, rfl, by simp, Lib.hid List.Pairwise.nil, Lib.hid (by simp [addN]), HQX, Lib.hid (World.ownsRow_nil _ _ _ _), HX, zX'⟩
            case round =>
              obtain ⟨m, T, A', c', hm5, hml, hgh, rfl, h12, hT, hrun, hqb, hown, hbl, zr⟩ := hrel
              have HfY := Lib.hid (HB0.out.trans ((HBC.out.trans (hbl.out.mono (by omega : w1.heap.size ≤ wc.heap.size))).mono (by omega : w.heap.size ≤ w1.heap.size)))
              have HBR2 := Lib.hid (blk_below bRh.out hbl.out (by omega))
              have hcQ := fun o => Lib.cell_of_heap hqb.out o
              have hfQ := blk_frozen hqb.out
              have hwg2 : w.heap.size ≠ g := by omega
              by_cases hltm : m < L.length
              · obtain ⟨g', o', e', hg2, hc4⟩ := (HAh.out.below hbl.out) (by omega)
                injection e' with e'
                injection e' with e1 e2
                subst e1
                subst e2
                obtain ⟨y0, y1, y2⟩ := hc4 m hltm
                rw [← colAt_eq hltm] at y2
                have d1 : decide ((m : Int) < L.length) = true := by simp; omega
                have p1 : (0 : Int) ≤ m := by omega
                have p2 : (m : Int) < L.length := by omega
                clear hc4
                by_cases hkm : L[m].kind = 1
                · have R1 := Lib.hid (fun h => readW_told (T := T) hltm hkm h)
                  have R2 := Lib.hid (fun h => readW_many (T := T) hltm hkm h)
                  have R3 := Lib.hid (fun h h' => readW_put (T := T) hltm hkm h h' hT.out)
                  rw [hkm] at y0
                  generalize hx : L[m].text = x at *
                  clear hx
                  have htl : x.toList = strOf x := Go.ByteArray.toList_eq x
                  have hput := Tab4.put (wc.heap.size + 1) A' c' T x wr.drew (by omega) zr (hown.out)
                  unfold Tab4.PutPost at hput
                  rw [htl] at hput
                  obtain ⟨U, hU⟩ : ∃ U, Tab4.putL T (strOf x) = U := ⟨_, rfl⟩
                  rw [hU] at hput
                  have HP := Lib.hid hput
                  have HN : Hid (U.length ≤ 12 → U.Pairwise (· < ·) ∧ readW (L.drop m) T = addN (readW (L.drop (m + 1)) U) 1) := Lib.hid (fun hl => by
                    by_cases hs : strOf x ∈ T
                    · rw [putL_told hs] at hU
                      subst hU
                      exact ⟨hT.out, R1.out hs⟩
                    · rw [putL_new hT.out hs] at hU
                      subst hU
                      rw [Qry8.putIn_len] at hl
                      exact ⟨Qry8.putIn_rising hT.out hs, R3.out hs (by omega)⟩)
                  have HE : Hid (¬ U.length ≤ 12 → readW (L.drop m) T = (T, 0, true)) := Lib.hid (fun hl => by
                    by_cases hs : strOf x ∈ T
                    · rw [putL_told hs] at hU
                      subst hU
                      exact absurd h12 hl
                    · rw [putL_new hT.out hs] at hU
                      subst hU
                      rw [Qry8.putIn_len] at hl
                      exact R2.out hs (by omega))
                  have hUl : U.length ≤ 13 := by rw [← hU]; have := Tab5.putL_len T (strOf x); omega
                  clear hput htl hU R1 R2 R3
                  have hst : wr.drew.cell? ⟨g, o + m * 3 + 1, none⟩ = some (.string x) := y1
                  have hgb : g < wc.heap.size + 1 := by omega
                  have HB1 := Lib.hid hbl
                  obtain ⟨col, hcol⟩ : ∃ col, colAt L m = col := ⟨_, rfl⟩
                  rw [hcol] at y2
                  have HCol := Lib.hid hcol
                  clear hcol
                  clear y1 hbl hown
                  go_wp2_with fail
                  go_region_with ((go_at_call 44; refine HP.out.mono ?_; rintro e w3 ⟨v3, rfl, hown3, hb3⟩; obtain ⟨A3, c3, rfl, hle3, hr3⟩ := SRow.of_own hown3; have hq3 := blk_below (w := wr.drew) hqb.out hb3 (by omega); have hc3 := fun o => Lib.cell_of_heap hq3 o; have hf3 := blk_frozen hq3))
                  all_goals
                    have hqZ := blk_set hq3 5 (.slice A3 U.length c3)
                    have hbZ := (HB1.out.out.drew.trans (hb3.mono (by omega : wc.heap.size ≤ wc.heap.size + 1))).setCell (p := ⟨wc.heap.size, 5, none⟩) (by simp) (.slice A3 U.length c3)
                    have hoZ := SynU.own_set hown3 (p := ⟨wc.heap.size, 5, none⟩) (by simp) (.slice A3 U.length c3)
                    have y2Z := one_set (one_blw (X := wr.drew) y2 hb3 hgb) hwg (i := 5) (.slice A3 U.length c3)
                    clear hc3 hf3 hq3 hcQ hfQ hr3 hle3
                    generalize w3.setCell ⟨wc.heap.size, 5, none⟩ (.slice A3 U.length c3) = Z at *
                    have hcZ := fun o => Lib.cell_of_heap hqZ o
                    have hfZ := blk_frozen hqZ
                    have HQZ : Hid (Z.heap[wc.heap.size]? = some (.cells #[.int .i64 K, .string (QryB.textAt L 1), .string (QryB.textAt L 3), .string ⟨#[]⟩, .string ⟨#[]⟩, .slice A3 U.length c3] 26)) := Lib.hid hqZ
                    have HBZ := Lib.hid hbZ
                    have HOZ := Lib.hid hoZ
                    have zZ : wc.heap.size + 1 ≤ Z.heap.size := World.block_lt_of_cell? _ _ (hcZ 5)
                    have HfZ := Lib.hid (HB0.out.trans ((HBC.out.trans (hbZ.mono (by omega : w1.heap.size ≤ wc.heap.size))).mono (by omega : w.heap.size ≤ w1.heap.size)))
                    have HBRZ := Lib.hid (blk_below bRh.out hbZ (by omega))
                    clear hqZ hbZ hoZ hown3 hb3
                    by_cases hU12 : U.length ≤ 12
                    · have d4 : decide ((12 : Int) < U.length) = false := by simp; omega
                      obtain ⟨hUT, hUr⟩ := HN.out hU12
                      have HUT := Lib.hid hUT
                      have HUR : Hid (readW (L.drop 5) [] = addN (readW (L.drop (m + 1)) U) (m + 1 - 5)) := Lib.hid (by rw [hrun.out, hUr, addN_add]; congr 1; omega)
                      clear hUT hUr HN HE
                      go_wp2_with fail
                      go_roundg (L.length - (m + 1))
                      case measure => omega
                      case rel => exact ⟨m + 1, U, A3, c3, by omega, by omega, Nat.le_refl _, by go_num, hU12, HUT, HUR, HQZ, HOZ, HBZ, zZ⟩
                    · have d4 : decide ((12 : Int) < U.length) = true := by simp; omega
                      have HV := Lib.hid (HF3m.out T m hm5 (by rw [hrun.out, HE.out hU12]))
                      clear HN HE
                      have hst : Z.drew.cell? ⟨g, o + m * 3 + 2, none⟩ = some (.int .i64 col) := y2Z
                      have hcR := fun o => Lib.cell_of_heap HBRZ.out o
                      have hfR := blk_frozen HBRZ.out
                      go_wp2_with fail
                      go_region_held3 (fun z => z.cell? ⟨g, o + m * 3 + 2, none⟩ = some (.int .i64 col)) (first | with_reducible exact hst | with_reducible assumption | (rw [set6_fard _ _ _ _ _ _ _ _ _ _ hwg2]; with_reducible exact y2Z) | (rw [set6_far _ _ _ _ _ _ _ _ _ _ hwg2]; with_reducible exact hst)) (fail)
                      go_wp2_with fail
                      refine bodyPost_ret (v := .tuple #[.agg #[.int .i64 0, .string ⟨#[]⟩, .string ⟨#[]⟩, .string ⟨#[]⟩, .string ⟨#[]⟩, .slice none 0 0], .int .i64 col, .int .i64 5]) (by simp [results, Tryz.results10, go_sem, set6, hcR]) rfl ⟨none, 0, by rw [HV.out, HCol.out]; rfl, (fun h => by rw [HV.out] at h; simp [zeroQ] at h), (fun g o e => by cases e), ?_⟩
                      exact ((((((HfZ.out.setCell (by simp) _).setCell (by simp) _).setCell (by simp) _).setCell (by simp) _).setCell (by simp) _).setCell (by simp) _).drew
                · have d3 : (L[m].kind == 1) = false := by simpa using hkm
                  have HV := Lib.hid (HF3f.out T m hm5 (by rw [hrun.out, readW_stop (fun _ => hkm)]) hltm)
                  generalize L[m].kind = kd at *
                  generalize colAt L m = col at *
                  have hst : wr.drew.cell? ⟨g, o + m * 3 + 2, none⟩ = some (.int .i64 col) := y2
                  have hcR := fun o => Lib.cell_of_heap HBR2.out o
                  have hfR := blk_frozen HBR2.out
                  go_wp2_with fail
                  go_region_held3 (fun z => z.cell? ⟨g, o + m * 3 + 2, none⟩ = some (.int .i64 col)) (first | with_reducible exact hst | with_reducible assumption | (rw [set6_fard _ _ _ _ _ _ _ _ _ _ hwg2]; with_reducible exact y2) | (rw [set6_far _ _ _ _ _ _ _ _ _ _ hwg2]; with_reducible exact hst)) (fail)
                  go_wp2_with fail
                  refine bodyPost_ret (v := .tuple #[.agg #[.int .i64 0, .string ⟨#[]⟩, .string ⟨#[]⟩, .string ⟨#[]⟩, .string ⟨#[]⟩, .slice none 0 0], .int .i64 col, .int .i64 2]) (by simp [results, Tryz.results10, go_sem, set6, hcR]) rfl ⟨none, 0, by rw [HV.out]; rfl, (fun h => by rw [HV.out] at h; simp [zeroQ] at h), (fun g o e => by cases e), ?_⟩
                  exact ((((((HfY.out.setCell (by simp) _).setCell (by simp) _).setCell (by simp) _).setCell (by simp) _).setCell (by simp) _).setCell (by simp) _).drew
              · obtain rfl : m = L.length := by omega
                have d1 : decide ((L.length : Int) < L.length) = false := by simp
                have hr0 : readW (L.drop 5) [] = addN (T, 0, false) (L.length - 5) := by rw [hrun.out, readW_stop (fun h => absurd h (by omega))]
                have hcR := fun o => Lib.cell_of_heap HBR2.out o
                have hfR := blk_frozen HBR2.out
                have hA' : SRow wr A' T ∧ ∀ g o, A' = some ⟨g, o, none⟩ → wc.heap.size + 1 ≤ g := by
                  refine ⟨?_, fun g o e => ?_⟩
                  · obtain ⟨A2, c2, e, _, hr⟩ := SRow.of_own hown.out
                    injection e with e1
                    subst e1; exact hr
                  · subst e; exact (hown.out.lt g rfl).1
                have HA' := Lib.hid hA'
                clear hA' hcR
                have hcR := fun o => Lib.cell_of_heap HBR2.out o
                by_cases h0 : K ≤ 2 ∧ T.length = 0
                · have HV := Lib.hid (HF3e.out T L.length hm5 hr0 hltm h0)
                  have HB := Lib.hid (SynK.endRef s wr hs)
                  have k2 : K ≤ 2 := h0.1
                  have t0 : ((T.length : Int) == 0) = true := by rw [h0.2]; rfl
                  clear hr0 h0
                  go_wp2_with fail
                  refine HB.out.mono ?_
                  rintro e w4 ⟨rfl, rfl⟩
                  go_wp2_with fail
                  refine bodyPost_ret (v := .tuple #[.agg #[.int .i64 0, .string ⟨#[]⟩, .string ⟨#[]⟩, .string ⟨#[]⟩, .string ⟨#[]⟩, .slice none 0 0], .int .i64 ((SynK.endL (bare s).data.toList + 1 : Nat) : Int), .int .i64 3]) (by simp [results, Tryz.results10, go_sem, set6, hcR]) rfl ⟨none, 0, by rw [HV.out, HEnd.out]; rfl, (fun h => by rw [HV.out] at h; simp [zeroQ] at h), (fun g o e => by cases e), ?_⟩
                  exact (((((HfY.out.setCell (by simp) _).setCell (by simp) _).setCell (by simp) _).setCell (by simp) _).setCell (by simp) _).setCell (by simp) _
                · have HV := Lib.hid (HF3o.out T L.length hm5 hr0 hltm h0)
                  have hfar : w.heap.size ≠ wc.heap.size := by omega
                  by_cases k2 : K ≤ 2
                  · have t0 : ((T.length : Int) == 0) = false := by
                      rw [beq_eq_false_iff_ne]; intro h; exact h0 ⟨k2, by omega⟩
                    clear hr0 h0
                    go_wp2_with fail
                    refine bodyPost_ret (v := .tuple #[.agg #[.int .i64 K, .string (QryB.textAt L 1), .string (QryB.textAt L 3), .string ⟨#[]⟩, .string ⟨#[]⟩, .slice A' T.length c'], .int .i64 0, .int .i64 0]) (by simp [results, Tryz.results10, go_sem, set6, hcR]) rfl ⟨A', c', by rw [HV.out]; rfl, ?_, (fun g o e => by have := HA'.out.2 g o e; omega), ?_⟩
                    · rw [HV.out]; exact srow_set6 HA'.out.1 (fun g o e => by have := HA'.out.2 g o e; omega) _ _ _ _ _ _
                    · exact (((((HfY.out.setCell (by simp) _).setCell (by simp) _).setCell (by simp) _).setCell (by simp) _).setCell (by simp) _).setCell (by simp) _
                  · clear hr0 h0
                    go_wp2_with fail
                    refine bodyPost_ret (v := .tuple #[.agg #[.int .i64 K, .string (QryB.textAt L 1), .string (QryB.textAt L 3), .string ⟨#[]⟩, .string ⟨#[]⟩, .slice A' T.length c'], .int .i64 0, .int .i64 0]) (by simp [results, Tryz.results10, go_sem, set6, hcR]) rfl ⟨A', c', by rw [HV.out]; rfl, ?_, (fun g o e => by have := HA'.out.2 g o e; omega), ?_⟩
                    · rw [HV.out]; exact srow_set6 HA'.out.1 (fun g o e => by have := HA'.out.2 g o e; omega) _ _ _ _ _ _
                    · exact (((((HfY.out.setCell (by simp) _).setCell (by simp) _).setCell (by simp) _).setCell (by simp) _).setCell (by simp) _).setCell (by simp) _
          · obtain rfl := hk
            obtain ⟨h8, hl8, hv8⟩ := hit4 HG.out hfull
            have hn8 : n = 6 := by omega
            subst hn8
            have hq8 := Lib.hid (hq.out.trans hv8)
            obtain ⟨g, o, rfl, hg, hc⟩ := hA2 (by omega)
            have hgw := HF.out g o rfl
            obtain ⟨_, x1, _⟩ := hc 1 (by omega)
            obtain ⟨_, x3, _⟩ := hc 3 (by omega)
            rw [← textAt_at] at x1 x3
            have d2 : decide ((6 : Int) < (shapeF 4).length) = false := by simp; omega
            have q1 : (1 : Int) < L.length := by omega
            have q3 : (3 : Int) < L.length := by omega
            have hst : wc.drew.cell? ⟨g, o + 3 + 1, none⟩ = some (.string (QryB.textAt L 1)) ∧ wc.drew.cell? ⟨g, o + 9 + 1, none⟩ = some (.string (QryB.textAt L 3)) := ⟨x1, x3⟩
            have hwg : wc.heap.size ≠ g := by omega
            clear hnn HQ hfull h8 hv8 hale hsh hc hq hrun bR HA HF hA2
            go_wp2_with fail
            refine (HFr.out _).mono ?_
            rintro e w2 ⟨rfl, rfl⟩
            go_wp2_with fail
            go_region_held3 (fun x => x.cell? ⟨g, o + 3 + 1, none⟩ = some (.string (QryB.textAt L 1)) ∧ x.cell? ⟨g, o + 9 + 1, none⟩ = some (.string (QryB.textAt L 3))) (first | with_reducible exact hst | with_reducible assumption | exact two_ad (by with_reducible assumption) _ | exact two_ad hst _ | exact two_six (by with_reducible assumption) hwg _ _ _ _ _ _ | exact two_al (by with_reducible assumption) _) (fail)
            have bQ := heap_alloc_new wc (.cells #[.int .i64 4, .string (QryB.textAt L 1), .string (QryB.textAt L 3), .string ⟨#[]⟩, .string ⟨#[]⟩, .slice none 0 0] 26)
            have bX := ((Below.refl wc.heap.size wc).alloc (Nat.le_refl _) (.cells #[.int .i64 4, .string (QryB.textAt L 1), .string (QryB.textAt L 3), .string ⟨#[]⟩, .string ⟨#[]⟩, .slice none 0 0] 26)).drew
            have zX : wc.heap.size < (wc.alloc (.cells #[.int .i64 4, .string (QryB.textAt L 1), .string (QryB.textAt L 3), .string ⟨#[]⟩, .string ⟨#[]⟩, .slice none 0 0] 26)).drew.heap.size := by show _ < (wc.alloc _).heap.size; simp
            have bQ' : (wc.alloc (.cells #[.int .i64 4, .string (QryB.textAt L 1), .string (QryB.textAt L 3), .string ⟨#[]⟩, .string ⟨#[]⟩, .slice none 0 0] 26)).drew.heap[wc.heap.size]? = some (.cells #[.int .i64 4, .string (QryB.textAt L 1), .string (QryB.textAt L 3), .string ⟨#[]⟩, .string ⟨#[]⟩, .slice none 0 0] 26) := bQ
            clear hst x1 x3 bQ
            generalize (wc.alloc (.cells #[.int .i64 4, .string (QryB.textAt L 1), .string (QryB.textAt L 3), .string ⟨#[]⟩, .string ⟨#[]⟩, .slice none 0 0] 26)).drew = Y at *
            have hbY := bX
            have hqY := bQ'
            have HBY := Lib.hid hbY
            have HQY := Lib.hid hqY
            have zY := hbY.size
            have bR2 := blk_below bRh.out hbY (by omega)
            have HBR2 := Lib.hid bR2
            have HfY := Lib.hid (HB0.out.trans ((HBC.out.trans (hbY.mono (by omega : w1.heap.size ≤ wc.heap.size))).mono (by omega : w.heap.size ≤ w1.heap.size)))
            have hA4 := Lib.hid (HAh.out.below hbY)
            clear hbY hqY bX bQ' zX bR2 HAh bRh
            go_wp2_with fail
            go_loopg [10] 0 (fun gh n wx => n = .int .i64 6 ∧ wx = Y)
            case atStart => exact ⟨rfl, rfl⟩
            case round =>
              obtain ⟨rfl, rfl⟩ := hrel
              by_cases hlt9 : 6 < L.length
              · have d8 : decide ((6 : Int) < L.length) = true := by simp; omega
                have hv9 := Lib.hid (hq8.out.trans (if_pos hlt9))
                obtain ⟨g', o', e', _, hc4⟩ := hA4.out (by omega)
                injection e' with e'
                injection e' with e1 e2
                subst e1
                subst e2
                obtain ⟨_, _, x8⟩ := hc4 6 hlt9
                rw [← colAt_eq hlt9] at x8
                have q8 : (6 : Int) < L.length := by omega
                generalize colAt L 6 = col at *
                have hst : wr.drew.cell? ⟨g, o + 18 + 2, none⟩ = some (.int .i64 col) := x8
                have hwg2 : w.heap.size ≠ g := by omega
                have hcR := fun o => Lib.cell_of_heap HBR2.out o
                have hfR := blk_frozen HBR2.out
                clear hc4 hq8
                go_wp2_with fail
                go_region_held3 (fun x => x.cell? ⟨g, o + 18 + 2, none⟩ = some (.int .i64 col)) (first | with_reducible exact hst | with_reducible assumption | (rw [set6_fard _ _ _ _ _ _ _ _ _ _ hwg2]; with_reducible exact x8) | (rw [set6_far _ _ _ _ _ _ _ _ _ _ hwg2]; with_reducible exact hst)) (fail)
                go_wp2_with fail
                refine bodyPost_ret (v := .tuple #[.agg #[.int .i64 0, .string ⟨#[]⟩, .string ⟨#[]⟩, .string ⟨#[]⟩, .string ⟨#[]⟩, .slice none 0 0], .int .i64 col, .int .i64 2]) (by simp [results, Tryz.results10, go_sem, set6, hcR]) rfl ⟨none, 0, by rw [hv9.out]; rfl, (fun h => by rw [hv9.out] at h; simp [zeroQ] at h), (fun g o e => by cases e), ?_⟩
                exact ((((((HfY.out.setCell (by simp) _).setCell (by simp) _).setCell (by simp) _).setCell (by simp) _).setCell (by simp) _).setCell (by simp) _).drew
              · have d8 : decide ((6 : Int) < L.length) = false := by simp; omega
                have hv9 := Lib.hid (hq8.out.trans (if_neg hlt9))
                have hcR := fun o => Lib.cell_of_heap HBR2.out o
                have hfR := blk_frozen HBR2.out
                have hcQ := fun o => Lib.cell_of_heap HQY.out o
                have hfQ := blk_frozen HQY.out
                clear hq8
                go_wp2_with fail
                refine bodyPost_ret (v := .tuple #[.agg #[.int .i64 4, .string (QryB.textAt L 1), .string (QryB.textAt L 3), .string ⟨#[]⟩, .string ⟨#[]⟩, .slice none 0 0], .int .i64 0, .int .i64 0]) (by simp [results, Tryz.results10, go_sem, set6, hcR]) rfl ⟨none, 0, by rw [hv9.out]; rfl, (fun h => by rw [hv9.out] at h; simp at h), (fun g o e => by cases e), ?_⟩
                exact (((((HfY.out.setCell (by simp) _).setCell (by simp) _).setCell (by simp) _).setCell (by simp) _).setCell (by simp) _).setCell (by simp) _
          · obtain ⟨h8, hl8, hv8⟩ := hit8 hk HG.out hfull
            have hn8 : n = 8 := by omega
            subst hn8
            have hq8 := Lib.hid (hq.out.trans hv8)
            obtain ⟨g, o, rfl, hg, hc⟩ := hA2 (by omega)
            have hgw := HF.out g o rfl
            obtain ⟨_, x1, _⟩ := hc 1 (by omega)
            obtain ⟨_, x3, _⟩ := hc 3 (by omega)
            rw [← textAt_at] at x1 x3
            have d2 : decide ((8 : Int) < (shapeF K).length) = false := by simp; omega
            have q1 : (1 : Int) < L.length := by omega
            have q3 : (3 : Int) < L.length := by omega
            have hst : wc.drew.cell? ⟨g, o + 3 + 1, none⟩ = some (.string (QryB.textAt L 1)) ∧ wc.drew.cell? ⟨g, o + 9 + 1, none⟩ = some (.string (QryB.textAt L 3)) := ⟨x1, x3⟩
            have hwg : wc.heap.size ≠ g := by omega
            clear hnn HQ hfull h8 hv8 hale hsh hc hq hrun bR HA HF hA2
            go_wp2_with fail
            refine (HFr.out _).mono ?_
            rintro e w2 ⟨rfl, rfl⟩
            go_wp2_with fail
            go_region_held3 (fun x => x.cell? ⟨g, o + 3 + 1, none⟩ = some (.string (QryB.textAt L 1)) ∧ x.cell? ⟨g, o + 9 + 1, none⟩ = some (.string (QryB.textAt L 3))) (first | with_reducible exact hst | with_reducible assumption | exact two_ad (by with_reducible assumption) _ | exact two_ad hst _ | exact two_six (by with_reducible assumption) hwg _ _ _ _ _ _ | exact two_al (by with_reducible assumption) _) (fail)
            have bQ := heap_alloc_new wc (.cells #[.int .i64 K, .string (QryB.textAt L 1), .string (QryB.textAt L 3), .string ⟨#[]⟩, .string ⟨#[]⟩, .slice none 0 0] 26)
            have bX := ((Below.refl wc.heap.size wc).alloc (Nat.le_refl _) (.cells #[.int .i64 K, .string (QryB.textAt L 1), .string (QryB.textAt L 3), .string ⟨#[]⟩, .string ⟨#[]⟩, .slice none 0 0] 26)).drew
            have zX : wc.heap.size < (wc.alloc (.cells #[.int .i64 K, .string (QryB.textAt L 1), .string (QryB.textAt L 3), .string ⟨#[]⟩, .string ⟨#[]⟩, .slice none 0 0] 26)).drew.heap.size := by show _ < (wc.alloc _).heap.size; simp
            have bQ' : (wc.alloc (.cells #[.int .i64 K, .string (QryB.textAt L 1), .string (QryB.textAt L 3), .string ⟨#[]⟩, .string ⟨#[]⟩, .slice none 0 0] 26)).drew.heap[wc.heap.size]? = some (.cells #[.int .i64 K, .string (QryB.textAt L 1), .string (QryB.textAt L 3), .string ⟨#[]⟩, .string ⟨#[]⟩, .slice none 0 0] 26) := bQ
            clear hst x1 x3 bQ
            generalize (wc.alloc (.cells #[.int .i64 K, .string (QryB.textAt L 1), .string (QryB.textAt L 3), .string ⟨#[]⟩, .string ⟨#[]⟩, .slice none 0 0] 26)).drew = X at *
            have HX := Lib.hid bX
            have HQX := Lib.hid bQ'
            have hA3 := HAh.out.below bX
            obtain ⟨g', o', e', _, hc3⟩ := hA3 (by omega)
            injection e' with e'
            injection e' with e1 e2
            subst e1
            subst e2
            obtain ⟨_, x5, _⟩ := hc3 5 (by omega)
            obtain ⟨_, x7, _⟩ := hc3 7 (by omega)
            rw [← textAt_at] at x5 x7
            have q5 : (5 : Int) < L.length := by omega
            have q7 : (7 : Int) < L.length := by omega
            have k5 : 5 ≤ K := by omega
            have hst : X.drew.cell? ⟨g, o + 15 + 1, none⟩ = some (.string (QryB.textAt L 5)) ∧ X.drew.cell? ⟨g, o + 21 + 1, none⟩ = some (.string (QryB.textAt L 7)) := ⟨x5, x7⟩
            have hcQ := fun o => Lib.cell_of_heap bQ' o
            have hfQ := blk_frozen bQ'
            clear hc3 hA3 bX bQ'
            go_wp2_with fail
            go_region_held3 (fun x => x.cell? ⟨g, o + 15 + 1, none⟩ = some (.string (QryB.textAt L 5)) ∧ x.cell? ⟨g, o + 21 + 1, none⟩ = some (.string (QryB.textAt L 7))) (first | with_reducible exact hst | with_reducible assumption | exact two_two hst hwg _ _ | exact two_two (by with_reducible assumption) hwg _ _) (fail)
            have hqY : (((X.setCell ⟨wc.heap.size, 3, none⟩ (.string (QryB.textAt L 5))).setCell ⟨wc.heap.size, 4, none⟩ (.string (QryB.textAt L 7))).drew).heap[wc.heap.size]? = some (.cells #[.int .i64 K, .string (QryB.textAt L 1), .string (QryB.textAt L 3), .string (QryB.textAt L 5), .string (QryB.textAt L 7), .slice none 0 0] 26) := blk_set (blk_set HQX.out 3 (.string (QryB.textAt L 5))) 4 (.string (QryB.textAt L 7))
            have hbY : RowKit.Below wc.heap.size wc (((X.setCell ⟨wc.heap.size, 3, none⟩ (.string (QryB.textAt L 5))).setCell ⟨wc.heap.size, 4, none⟩ (.string (QryB.textAt L 7))).drew) := ((HX.out.setCell (by simp) _).setCell (by simp) _).drew
            clear hst x5 x7 hcQ hfQ zX
            generalize (((X.setCell ⟨wc.heap.size, 3, none⟩ (.string (QryB.textAt L 5))).setCell ⟨wc.heap.size, 4, none⟩ (.string (QryB.textAt L 7))).drew) = Y at *
            have HBY := Lib.hid hbY
            have HQY := Lib.hid hqY
            have zY := hbY.size
            have bR2 := blk_below bRh.out hbY (by omega)
            have HBR2 := Lib.hid bR2
            have HfY := Lib.hid (HB0.out.trans ((HBC.out.trans (hbY.mono (by omega : w1.heap.size ≤ wc.heap.size))).mono (by omega : w.heap.size ≤ w1.heap.size)))
            have hA4 := Lib.hid (HAh.out.below hbY)
            clear hbY hqY HX HQX bR2 HAh bRh
            have k3 : ¬ K ≤ 3 := by omega
            go_wp2_with fail
            go_loopg [10] 0 (fun gh n wx => n = .int .i64 8 ∧ wx = Y)
            case atStart => exact ⟨rfl, rfl⟩
            case round =>
              obtain ⟨rfl, rfl⟩ := hrel
              by_cases hlt9 : 8 < L.length
              · have d8 : decide ((8 : Int) < L.length) = true := by simp; omega
                have hv9 := Lib.hid (hq8.out.trans (if_pos hlt9))
                obtain ⟨g', o', e', _, hc4⟩ := hA4.out (by omega)
                injection e' with e'
                injection e' with e1 e2
                subst e1
                subst e2
                obtain ⟨_, _, x8⟩ := hc4 8 hlt9
                rw [← colAt_eq hlt9] at x8
                have q8 : (8 : Int) < L.length := by omega
                generalize colAt L 8 = col at *
                have hst : wr.drew.cell? ⟨g, o + 24 + 2, none⟩ = some (.int .i64 col) := x8
                have hwg2 : w.heap.size ≠ g := by omega
                have hcR := fun o => Lib.cell_of_heap HBR2.out o
                have hfR := blk_frozen HBR2.out
                clear hc4 hq8
                go_wp2_with fail
                go_region_held3 (fun x => x.cell? ⟨g, o + 24 + 2, none⟩ = some (.int .i64 col)) (first | with_reducible exact hst | with_reducible assumption | (rw [set6_fard _ _ _ _ _ _ _ _ _ _ hwg2]; with_reducible exact x8) | (rw [set6_far _ _ _ _ _ _ _ _ _ _ hwg2]; with_reducible exact hst)) (fail)
                go_wp2_with fail
                refine bodyPost_ret (v := .tuple #[.agg #[.int .i64 0, .string ⟨#[]⟩, .string ⟨#[]⟩, .string ⟨#[]⟩, .string ⟨#[]⟩, .slice none 0 0], .int .i64 col, .int .i64 2]) (by simp [results, Tryz.results10, go_sem, set6, hcR]) rfl ⟨none, 0, by rw [hv9.out]; rfl, (fun h => by rw [hv9.out] at h; simp [zeroQ] at h), (fun g o e => by cases e), ?_⟩
                exact ((((((HfY.out.setCell (by simp) _).setCell (by simp) _).setCell (by simp) _).setCell (by simp) _).setCell (by simp) _).setCell (by simp) _).drew
              · have d8 : decide ((8 : Int) < L.length) = false := by simp; omega
                have hv9 := Lib.hid (hq8.out.trans (if_neg hlt9))
                have hcR := fun o => Lib.cell_of_heap HBR2.out o
                have hfR := blk_frozen HBR2.out
                have hcQ := fun o => Lib.cell_of_heap HQY.out o
                have hfQ := blk_frozen HQY.out
                have k2 : ¬ K ≤ 2 := by omega
                clear hq8
                go_wp2_with fail
                refine bodyPost_ret (v := .tuple #[.agg #[.int .i64 K, .string (QryB.textAt L 1), .string (QryB.textAt L 3), .string (QryB.textAt L 5), .string (QryB.textAt L 7), .slice none 0 0], .int .i64 0, .int .i64 0]) (by simp [results, Tryz.results10, go_sem, set6, hcR]) rfl ⟨none, 0, by rw [hv9.out]; rfl, (fun h => by rw [hv9.out] at h; simp at h), (fun g o e => by cases e), ?_⟩
                exact (((((HfY.out.setCell (by simp) _).setCell (by simp) _).setCell (by simp) _).setCell (by simp) _).setCell (by simp) _).setCell (by simp) _
    · obtain rfl : k = 6 := by omega
      have hbw := Lib.hid hbel
      have bR := blk_below BR.out hbel (by omega)
      have hcR := fun o => Lib.cell_of_heap bR o
      have hfR := blk_frozen bR
      have hbf := Lib.hid (HB0.out.trans (hbel.mono (by omega : w.heap.size ≤ w1.heap.size)))
      have hA2 := HA.out.below hbel
      have z2 := hbel.size
      have gc := set_cell
      clear bR hlt
      by_cases he : fn = L.length
      · have d1 : ((fn : Int) == L.length) = true := by simp; omega
        have hfin : Hid (docQ L 6 0 0 = (zeroQ, (SynQ.behindOf L : Int), 3)) := Lib.hid (by rw [hrun.out]; exact if_pos he)
        have HB := Lib.hid (SynK.endRef s wr hs)
        clear he hA2 hrun hbel
        go_wp2_with fail
        refine HB.out.mono ?_
        rintro e w3 ⟨rfl, rfl⟩
        go_wp2_with fail
        refine bodyPost_ret (v := .tuple #[.agg #[.int .i64 0, .string ⟨#[]⟩, .string ⟨#[]⟩, .string ⟨#[]⟩, .string ⟨#[]⟩, .slice none 0 0], .int .i64 ((SynK.endL (bare s).data.toList + 1 : Nat) : Int), .int .i64 3]) (by simp [results, Tryz.results10, go_sem, set6, hcR]) rfl ⟨none, 0, by rw [hfin.out, HEnd.out]; rfl, (fun h => by rw [hfin.out] at h; simp [zeroQ] at h), (fun g o e => by cases e), ?_⟩
        exact (((((hbf.out.setCell (by simp) _).setCell (by simp) _).setCell (by simp) _).setCell (by simp) _).setCell (by simp) _).setCell (by simp) _
      · have hb4 : fn < L.length := by omega
        have d1 : ((fn : Int) == L.length) = false := by simp; omega
        have hfin : Hid (docQ L 6 0 0 = (zeroQ, (colAt L fn : Int), 2)) := Lib.hid (by rw [hrun.out]; exact if_neg he)
        obtain ⟨g, o, rfl, hg, hc⟩ := hA2 (by omega)
        obtain ⟨_, _, x2⟩ := hc fn hb4
        have hgw := HF.out g o rfl
        have hcol := Lib.hid (colAt_eq hb4)
        have d2 : (0 : Int) ≤ fn := by omega
        have d3 : (fn : Int) < (L.length : Int) := by omega
        rw [← hcol.out] at x2
        clear hc hrun hbel
        generalize colAt L fn = col at *
        go_wp2_with fail
        have hst : wr.drew.cell? ⟨g, o + fn * 3 + 2, none⟩ = some (.int .i64 col) := x2
        have hwg : w.heap.size ≠ g := by omega
        go_region_held3 (fun x => x.cell? ⟨g, o + fn * 3 + 2, none⟩ = some (.int .i64 col)) (first | with_reducible exact hst | with_reducible assumption | (rw [set6_fard _ _ _ _ _ _ _ _ _ _ hwg]; with_reducible exact x2) | (rw [set6_far _ _ _ _ _ _ _ _ _ _ hwg]; with_reducible exact hst)) (fail)
        go_wp2_with fail
        refine bodyPost_ret (v := .tuple #[.agg #[.int .i64 0, .string ⟨#[]⟩, .string ⟨#[]⟩, .string ⟨#[]⟩, .string ⟨#[]⟩, .slice none 0 0], .int .i64 col, .int .i64 2]) (by simp [results, Tryz.results10, go_sem, set6, hcR]) rfl ⟨none, 0, by rw [hfin.out]; rfl, (fun h => by rw [hfin.out] at h; simp [zeroQ] at h), (fun g o e => by cases e), ?_⟩
        exact ((((((hbf.out.setCell (by simp) _).setCell (by simp) _).setCell (by simp) _).setCell (by simp) _).setCell (by simp) _).setCell (by simp) _).drew
end Go.Proofs.YtkmonmpfbchffaaGreat.QryRs
