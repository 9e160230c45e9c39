/- A line as a statement, in the program. -/
import Derived.Test.YtofhiolmaojihaaSynX
import Derived.Deep.RegionHeld3
namespace Go.Proofs.Ytofhiolmaojihaa.SynY
open Go.RowKit Go.Sort Go.Proofs Go.Proofs.Ytofhiolmaojihaa.Plain Go.Proofs.Ytofhiolmaojihaa.SynP Go.Proofs.Ytofhiolmaojihaa.SynQ Go.Proofs.Ytofhiolmaojihaa.Grown Go.Proofs.Ytofhiolmaojihaa.SynA Go.Proofs.Ytofhiolmaojihaa.SynC Go.Proofs.Ytofhiolmaojihaa.SynR Go.Proofs.Ytofhiolmaojihaa.SynW Go.Proofs.Ytofhiolmaojihaa.Scan3 Go.Proofs.Ytofhiolmaojihaa.Scan5 Go.Proofs.Ytofhiolmaojihaa.Syn4 Go.Proofs.Ytofhiolmaojihaa.Syn6 Go.Proofs.Ytofhiolmaojihaa.SynS Go.Proofs.Ytofhiolmaojihaa.SynG Go.Proofs.Ytofhiolmaojihaa.SynH Go.Proofs.Ytofhiolmaojihaa.SynU Go.Proofs.Ytofhiolmaojihaa.SynV Go.Proofs.Ytofhiolmaojihaa.SynX
set_option linter.unusedVariables false
set_option linter.unusedSimpArgs false
/-- What a line is parsed as. -/
def parseA : TkAns → St × Int × Int
  | .bad c e => (zeroS, c, e)
  | .ok L => parseL L
def ParsePost (p : St × Int × Int) (w : World) (e : Ending) (w' : World) : Prop := e = .returned (.tuple #[p.1.val, .int .i64 p.2.1, .int .i64 p.2.2]) ∧ Below w.heap.size w w'
def zeroC : Obj := .cells #[.int .i64 0, .string ⟨#[]⟩, .string ⟨#[]⟩, .string ⟨#[]⟩, .string ⟨#[]⟩, .string ⟨#[]⟩, .string ⟨#[]⟩, .string ⟨#[]⟩, .string ⟨#[]⟩] 25
set_option maxHeartbeats 1000000 in
set_option maxRecDepth 100000 in
theorem parse_bad (s : ByteArray) (w : World) (hs : s.size ≤ 1000000) (c : Nat) (er : Int) (h : ansOf s = .bad c er) : Calls Try.prog 28 #[.string s] w (ParsePost (parseA (.bad c er)) w) := by
  have HT := Lib.hid (tokens s · hs)
  rw [h] at HT
  have he := ans_bad h
  have e1 : (er != 0) = true := by rcases he with rfl | rfl <;> rfl
  clear h he
  go_enter Try.func28, Try.ntmps28
  go_wp2_with fail
  refine (HT.out _).mono ?_
  rintro e w1 ⟨v, rfl, hown, hb1⟩
  have bR := blk_below (heap_alloc_new w zeroC) hb1 (by simp)
  unfold zeroC at bR
  have hcR := fun o => Lib.cell_of_heap bR o
  have hfR := blk_frozen bR
  have hb0 := ((Below.refl w.heap.size w).alloc (Nat.le_refl _) zeroC).trans (hb1.mono (by simp))
  have gc := set_cell
  simp only [okErr, okCol]
  clear hown bR hb1
  go_wp2_with fail
  exact bodyPost_ret (v := .tuple #[.agg #[.int .i64 0, .string ⟨#[]⟩, .string ⟨#[]⟩, .string ⟨#[]⟩, .string ⟨#[]⟩, .string ⟨#[]⟩, .string ⟨#[]⟩, .string ⟨#[]⟩, .string ⟨#[]⟩], .int .i64 c, .int .i64 er]) (by simp [results, Try.results28, go_sem, set9, hcR]) rfl ⟨rfl, ((((((((((hb0).setCell (by simp) _).setCell (by simp) _).setCell (by simp) _).setCell (by simp) _).setCell (by simp) _).setCell (by simp) _).setCell (by simp) _).setCell (by simp) _).setCell (by simp) _)⟩
theorem set9_far (X : World) (n g i : Nat) (v0 v1 v2 v3 v4 v5 v6 v7 v8 : Value) (h : n ≠ g) : (((((((((X.setCell ⟨n, 0, none⟩ v0).setCell ⟨n, 1, none⟩ v1).setCell ⟨n, 2, none⟩ v2).setCell ⟨n, 3, none⟩ v3).setCell ⟨n, 4, none⟩ v4).setCell ⟨n, 5, none⟩ v5).setCell ⟨n, 6, none⟩ v6).setCell ⟨n, 7, none⟩ v7).setCell ⟨n, 8, none⟩ v8).cell? ⟨g, i, none⟩ = X.cell? ⟨g, i, none⟩ := by
  rw [set_far _ _ _ _ _ _ h, set_far _ _ _ _ _ _ h, set_far _ _ _ _ _ _ h, set_far _ _ _ _ _ _ h, set_far _ _ _ _ _ _ h, set_far _ _ _ _ _ _ h, set_far _ _ _ _ _ _ h, set_far _ _ _ _ _ _ h, set_far _ _ _ _ _ _ h]
theorem drew_cell (Y : World) (a : Addr) : Y.drew.cell? a = Y.cell? a := rfl
theorem set9_fard (X : World) (n g i : Nat) (v0 v1 v2 v3 v4 v5 v6 v7 v8 : Value) (h : n ≠ g) : (((((((((X.setCell ⟨n, 0, none⟩ v0).setCell ⟨n, 1, none⟩ v1).setCell ⟨n, 2, none⟩ v2).setCell ⟨n, 3, none⟩ v3).setCell ⟨n, 4, none⟩ v4).setCell ⟨n, 5, none⟩ v5).setCell ⟨n, 6, none⟩ v6).setCell ⟨n, 7, none⟩ v7).setCell ⟨n, 8, none⟩ v8).drew.cell? ⟨g, i, none⟩ = X.cell? ⟨g, i, none⟩ := by
  rw [drew_cell]; exact set9_far X n g i v0 v1 v2 v3 v4 v5 v6 v7 v8 h
theorem max_cast (a b : Nat) : (max (a : Int) (b : Int)) = ((max a b : Nat) : Int) := by omega
set_option maxHeartbeats 2000000 in
set_option maxRecDepth 100000 in
theorem parse_ok (s : ByteArray) (w : World) (hs : s.size ≤ 1000000) (L : List Tk) (h : ansOf s = .ok L) : Calls Try.prog 28 #[.string s] w (ParsePost (parseL L) w) := by
  have hgood := ans_good h
  have hlen := ans_len h
  have Hg := Lib.hid (fun t ht => (hgood t ht).1)
  have Hs : Hid (SmallTk L) := Lib.hid (fun t ht => ⟨by have := (hgood t ht).2.1; omega, by have := (hgood t ht).2.2; omega⟩)
  have HT := Lib.hid (tokens s · hs)
  rw [h] at HT
  clear h hgood
  go_enter Try.func28, Try.ntmps28
  go_wp2_with fail
  refine (HT.out _).mono ?_
  rintro e w1 ⟨v, rfl, hown, hb1⟩
  obtain ⟨A, ca, rfl, hca, hA⟩ := of_rowTk hown
  simp only [okErr, okCol, okToks] at hca hA ⊢
  have bR := blk_below (heap_alloc_new w zeroC) hb1 (by simp)
  unfold zeroC at bR
  have hb0 := ((Below.refl w.heap.size w).alloc (Nat.le_refl _) zeroC).trans (hb1.mono (by simp))
  have z1 := hb1.size
  simp only [World.size_alloc] at z1
  have BR := Lib.hid bR
  have HA := Lib.hid hA
  have hfresh : ∀ g o, A = some ⟨g, o, none⟩ → w.heap.size + 1 ≤ g := fun g o e => by
    subst e
    have := (hown.lt g rfl).1
    simpa using this
  have HF := Lib.hid hfresh
  clear hown bR hb1 hA hfresh
  go_wp2_with fail
  go_loopw [8, 9] (fun f kd wr => ∃ k : Nat, k ≤ 4 ∧ kd = .int .i64 ((k + 1 : Nat) : Int) ∧ f = .int .i64 (bestOf L k : Nat) ∧ Hid (∀ j, j < k → kindsOf L ≠ shapeK (j + 1)) ∧ Below w1.heap.size w1 wr) (fun _ kd _ => 5 - (intOf kd).toNat)
  case atStart => exact ⟨0, by omega, rfl, rfl, Lib.hid (fun j hj => by omega), Below.refl _ _⟩
  case round =>
    obtain ⟨k, hk, rfl, rfl, hno, hbel⟩ := hrel
    have hbst := best_le L k
    by_cases hlt : k < 4
    · have z2 := hbel.size
      have HSh := Lib.hid (shapeOf (k + 1) (by omega) (by omega))
      have hslen := shape_len (k + 1)
      go_wp2_with fail
      refine (HSh.out _).mono ?_
      rintro e w2 ⟨v2, rfl, hown2, hb2⟩
      obtain ⟨S, cs, rfl, hS⟩ := iat_of_own hown2
      have hbw2 := hbel.trans (hb2.mono z2)
      have HAg := Lib.hid (agree A ca L S cs (shapeK (k + 1)) w2 (by omega) (by omega) (HA.out.below hbw2) hS)
      have ha1 := agree_le1 (kindsOf L) (shapeK (k + 1))
      rw [kinds_len] at ha1
      have ha2 := agree_le2 (kindsOf L) (shapeK (k + 1))
      clear hown2 hS hb2 hbel
      by_cases hhit : kindsOf L = shapeK (k + 1)
      · have e1 : agreeN (kindsOf L) (shapeK (k + 1)) = L.length := by rw [← hhit, agree_self, kinds_len]
        have e2 : (shapeK (k + 1)).length = L.length := by rw [← hhit, kinds_len]
        have Hst := Lib.hid (fun (w3 : World) (hb : RowKit.Below w1.heap.size w1 w3) => stmt (k + 1) (by omega) (by omega) A ca L w3 hca hhit Hg.out Hs.out (HA.out.below hb))
        have Hfin := Lib.hid (parseL_hit (by omega) (by omega) hhit)
        rw [e1] at HAg
        rw [e2] at HAg ⊢
        clear e1 e2 hhit ha1 ha2 hslen
        go_wp2_with (go_at_call 48; refine HAg.out.mono ?_; rintro e w3 ⟨rfl, m, rfl⟩)
        refine (Hst.out _ (hbw2.trans (below_drewN (Below.refl _ _) m))).mono ?_
        rintro e w3 ⟨rfl, hb3⟩
        have hbw3 := (hbw2.trans (below_drewN (Below.refl _ _) m)).trans (hb3.mono (by have := hbw2.size; simp; omega))
        clear hb3 hbw2
        go_wp2_with fail
        refine (normal _ _).mono ?_
        rintro e w4 ⟨rfl, hg4⟩
        have hbw4 := hbw3.trans (hg4.below.mono hbw3.size)
        have bR := blk_below BR.out hbw4 (by omega)
        have hcR := fun o => Lib.cell_of_heap bR o
        have hfR := blk_frozen bR
        have hbf := hb0.trans (hbw4.mono (by omega : w.heap.size ≤ w1.heap.size))
        have gc := set_cell
        unfold St.val
        clear bR hbw4 hg4 hbw3
        go_wp2_with fail
        refine bodyPost_ret (v := .tuple #[(stmtOf (k + 1) L).normal.val, .int .i64 0, .int .i64 0]) (by unfold St.val; simp [results, Try.results28, go_sem, set9, hcR]) rfl ⟨by rw [Hfin.out], ((((((((((hbf).setCell (by simp) _).setCell (by simp) _).setCell (by simp) _).setCell (by simp) _).setCell (by simp) _).setCell (by simp) _).setCell (by simp) _).setCell (by simp) _).setCell (by simp) _)⟩
      · have hnext : Hid (∀ j, j < k + 1 → kindsOf L ≠ shapeK (j + 1)) := Lib.hid (fun j hj => by
          rcases Nat.lt_or_ge j k with h | h
          · exact hno.out j h
          · obtain rfl : j = k := by omega
            exact hhit)
        have hbest : Hid (bestOf L (k + 1) = max (bestOf L k) (agreeN (kindsOf L) (shapeK (k + 1)))) := Lib.hid rfl
        have hne : ¬ (agreeN (kindsOf L) (shapeK (k + 1)) = L.length ∧ agreeN (kindsOf L) (shapeK (k + 1)) = (shapeK (k + 1)).length) := fun e => hhit (agree_all _ _ (by rw [kinds_len]; exact e.1) e.2)
        clear hhit hno
        generalize agreeN (kindsOf L) (shapeK (k + 1)) = n at *
        generalize (shapeK (k + 1)).length = sl at *
        by_cases h1 : n = L.length
        · have h2 : ¬ n = sl := fun e => hne ⟨h1, e⟩
          have d1 : ((n : Int) == L.length) = true := by simp; omega
          have d2 : ((n : Int) == sl) = false := by simp; omega
          clear hne h1 h2
          go_wp2_with (go_at_call 48; refine HAg.out.mono ?_; rintro e w3 ⟨rfl, m, rfl⟩)
          go_roundw
          case rel => exact ⟨k + 1, by omega, by go_num, by rw [hbest.out, ← max_cast], hnext, hbw2.trans (below_drewN (Below.refl _ _) m)⟩
          case measure => simp [intOf]; omega
        · have d1 : ((n : Int) == L.length) = false := by simp; omega
          clear hne h1
          go_wp2_with (go_at_call 48; refine HAg.out.mono ?_; rintro e w3 ⟨rfl, m, rfl⟩)
          go_roundw
          case rel => exact ⟨k + 1, by omega, by go_num, by rw [hbest.out, ← max_cast], hnext, hbw2.trans (below_drewN (Below.refl _ _) m)⟩
          case measure => simp [intOf]; omega
    · obtain rfl : k = 4 := by omega
      have Hmiss := Lib.hid (parseL_miss hno.out)
      have bR := blk_below BR.out hbel (by omega)
      have hcR := fun o => Lib.cell_of_heap bR o
      have hfR := blk_frozen bR
      have hbf := hb0.trans (hbel.mono (by omega : w.heap.size ≤ w1.heap.size))
      have hA2 := HA.out.below hbel
      have gc := set_cell
      clear hno hlt
      by_cases hb4 : bestOf L 4 < L.length
      · have Hm2 := Lib.hid (Hmiss.out.trans (if_pos hb4))
        obtain ⟨g, o, rfl, hg, hc⟩ := hA2 (by omega)
        obtain ⟨_, _, x2⟩ := hc (bestOf L 4) hb4
        have hgw := HF.out g o rfl
        have hcol := Lib.hid (colAt_eq hb4)
        have d1 : decide ((bestOf L 4 : Int) < L.length) = true := by simp; omega
        have d2 : (0 : Int) ≤ bestOf L 4 := by omega
        have d3 : ((bestOf L 4 : Nat) : Int) < (L.length : Int) := by omega
        rw [← hcol.out] at x2
        clear hc hbel
        generalize colAt L (bestOf L 4) = col at *
        generalize bestOf L 4 = b at *
        go_wp2_with fail
        have hst : wr.drew.cell? ⟨g, o + b * 3 + 2, none⟩ = some (.int .i64 col) := x2
        go_region_held3 (fun x => x.cell? ⟨g, o + b * 3 + 2, none⟩ = some (.int .i64 col)) (first | with_reducible exact hst | with_reducible assumption | (rw [set9_fard _ _ _ _ _ _ _ _ _ _ _ _ _ (by omega)]; with_reducible exact x2) | (rw [set9_far _ _ _ _ _ _ _ _ _ _ _ _ _ (by omega)]; with_reducible exact hst)) (fail)
        go_wp2_with fail
        exact bodyPost_ret (v := .tuple #[.agg #[.int .i64 0, .string ⟨#[]⟩, .string ⟨#[]⟩, .string ⟨#[]⟩, .string ⟨#[]⟩, .string ⟨#[]⟩, .string ⟨#[]⟩, .string ⟨#[]⟩, .string ⟨#[]⟩], .int .i64 col, .int .i64 2]) (by simp [results, Try.results28, go_sem, set9, hcR]) rfl ⟨by rw [Hm2.out]; rfl, ((((((((((hbf).setCell (by simp) _).setCell (by simp) _).setCell (by simp) _).setCell (by simp) _).setCell (by simp) _).setCell (by simp) _).setCell (by simp) _).setCell (by simp) _).setCell (by simp) _).drew⟩
      · have Hm2 := Lib.hid (Hmiss.out.trans (if_neg hb4))
        have d1 : decide (bestOf L 4 < L.length) = false := decide_eq_false hb4
        have HB := Lib.hid (behind A ca L wr (by omega) hA2 Hs.out)
        clear hb4 hA2
        go_wp2_with fail
        refine HB.out.mono ?_
        rintro e w3 ⟨rfl, hb3⟩
        have bR3 := blk_below bR hb3 (by have := hbel.size; omega)
        have hcR3 := fun o => Lib.cell_of_heap bR3 o
        have hfR3 := blk_frozen bR3
        have hbf3 := hbf.trans (hb3.mono (by have := hbel.size; omega))
        clear bR hcR hfR hb3 hbf bR3 hbel
        go_wp2_with fail
        exact bodyPost_ret (v := .tuple #[.agg #[.int .i64 0, .string ⟨#[]⟩, .string ⟨#[]⟩, .string ⟨#[]⟩, .string ⟨#[]⟩, .string ⟨#[]⟩, .string ⟨#[]⟩, .string ⟨#[]⟩, .string ⟨#[]⟩], .int .i64 (behindOf L), .int .i64 3]) (by simp [results, Try.results28, go_sem, set9, hcR3]) rfl ⟨by rw [Hm2.out]; rfl, ((((((((((hbf3).setCell (by simp) _).setCell (by simp) _).setCell (by simp) _).setCell (by simp) _).setCell (by simp) _).setCell (by simp) _).setCell (by simp) _).setCell (by simp) _).setCell (by simp) _)⟩
theorem parse (s : ByteArray) (w : World) (hs : s.size ≤ 1000000) : Calls Try.prog 28 #[.string s] w (ParsePost (parseA (ansOf s)) w) := by
  cases h : ansOf s with
  | bad c e => exact parse_bad s w hs c e h
  | ok L => exact parse_ok s w hs L h
end Go.Proofs.Ytofhiolmaojihaa.SynY
