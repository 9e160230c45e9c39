/- Families of sets of numbers: Copy and Within, by contract; what Add does to the counts. -/
import Derived.Test.YtmeiigcjfjapfaaDoorSetE
import Derived.Laws.AppendOwn
namespace Go.Proofs.YtmeiigcjfjapfaaDoor.SetG
open Go.RowKit Go.Lib Go.Proofs Go.Proofs.YtmeiigcjfjapfaaDoor.SetPop Go.Proofs.YtmeiigcjfjapfaaDoor.SetA Go.Proofs.YtmeiigcjfjapfaaDoor.SetB Go.Proofs.YtmeiigcjfjapfaaDoor.SetC Go.Proofs.YtmeiigcjfjapfaaDoor.SetD Go.Proofs.YtmeiigcjfjapfaaDoor.SetE
set_option linter.unusedVariables false
set_option linter.unusedSimpArgs false
/-- The cells of a set's rows, and what may stand behind them. -/
def Cop (w : World) (v : Value) (n : Nat) (M : List Nat) : Prop := ∃ g cp Z, v = .slice (some ⟨g, 0, none⟩) n cp ∧ w.heap[g]? = some (.cells (encM M ++ Z) 46 (0, 0))
theorem cop_own {w : World} {B n : Nat} {v : Value} {M : List Nat} (h : w.ownsRow B 46 16 v n (encM M).toList) (hv : v ≠ .slice none 0 0) : ∃ g cp Z, v = .slice (some ⟨g, 0, none⟩) n cp ∧ B ≤ g ∧ w.heap[g]? = some (.cells (encM M ++ Z) 46 (0, 0)) := by
  rcases h.2 with ⟨rfl, _⟩ | ⟨g, cap, cur, rfl, hb, hg, _, _, hs, ht⟩
  · exact absurd rfl hv
  · refine ⟨g, cap, (cur.toList.drop (n * 16)).toArray, rfl, hb, ?_⟩
    rw [hg]
    congr 2
    apply Array.ext'
    rw [Array.toList_append, ← ht, List.toList_toArray, List.take_append_drop]
def ClonePost (n : Nat) (M : List Nat) (w : World) (e : Ending) (w' : World) : Prop := ∃ g cp Z, e = .returned (.slice (some ⟨g, 0, none⟩) n cp) ∧ w.heap.size ≤ g ∧ w'.heap[g]? = some (.cells (encM M ++ Z) 46 (0, 0)) ∧ Below w.heap.size w w'
set_option maxRecDepth 100000 in
theorem clone (R n cp : Nat) (M : List Nat) (Z : Array Value) (w : World) (hR : w.heap[R]? = some (.cells (encM M ++ Z) 46 (0, 0))) (hl : M.length = n * 16) (hn : n ≤ 5000) : Calls Tryd.prog 32 #[.slice (some ⟨R, 0, none⟩) n cp] w (ClonePost n M w) := by
  obtain ⟨i0, hi, hz0, hz1, hz2⟩ := info_parts infoNum
  have es := fun (w : World) (a : Option Addr) (n c : Nat) => Lib.run_eql_slice_nil (P := Tryd.prog) w 40 46 a n c 0 0 Tryd.underlying40
  have HC : Hid (∀ j u, (encM M).toList[j]? = some u → (w.alloc (.cells #[] 46)).cell? ((⟨R, 0, none⟩ : Addr).add j) = some u) := Lib.hid (fun j u hu => by
    have hlt : R < w.heap.size := (Array.getElem?_eq_some_iff.1 hR).1
    have hj : j < (encM M).size := by
      have := (List.getElem?_eq_some_iff.1 hu).1
      simpa using this
    rw [Addr.add_mid, Nat.zero_add, World.cell?_of_block (w := w) (Below.heap_alloc w _ R hlt), Lib.cell_of_heap hR, Array.getElem?_append_left hj, ← Array.getElem?_toList]
    exact hu)
  have H1 : Hid (∀ u ∈ (encM M).toList, u.oneCell' = true) := Lib.hid (fun u hu => (Array.all_eq_true_iff_forall_mem.1 (one_all M)) u (by simpa using hu))
  have HL : Hid ((encM M).toList.length = n * 16) := Lib.hid (by rw [Array.length_toList, encM_size, hl])
  have HO : Hid ((w.alloc (.cells #[] 46)).ownsRow w.heap.size 46 16 (.slice (some ⟨w.heap.size, 0, none⟩) 0 0) 0 []) := Lib.hid (World.ownsRow_made w #[] 0 (Nat.le_refl _) (by unfold maxLen; omega) (by simp))
  clear hR hl
  go_enter Tryd.func32, Tryd.ntmps32
  go_wp2_with (at_builtin; refine wpList_append_own _ rfl _ _ 40 rfl w.heap.size 46 i0 _ 16 128 Tryd.underlying40 hi hz0 hz1 hz2 rfl (by decide) _ _ _ rfl HO.out ⟨R, 0, none⟩ n cp (encM M).toList rfl HL.out HC.out H1.out (by unfold maxLen; omega) (by omega) (by simp) ?_)
  intro v' w1 hown hgrow hne
  have hb : Below w.heap.size w w1 := ((Below.refl _ _).alloc (Nat.le_refl _) _).grown hgrow (by simp) (fun k hk => by simp [Value.ownBlock] at hk; omega)
  obtain ⟨g, c2, Z2, rfl, hg, hh⟩ := cop_own hown hne
  have HF := Lib.hid (show ClonePost n M w (.returned (.slice (some ⟨g, 0, none⟩) n c2)) w1 from ⟨g, c2, Z2, rfl, hg, hh, hb⟩)
  clear hown hgrow hne hb hh hg
  go_wp2_with fail
  go_ret
  exact HF.out
def CopyPost (n c : Nat) (M : List Nat) (w : World) (e : Ending) (w' : World) : Prop := ∃ B R, e = .returned (.pointer (some ⟨B, 0, none⟩)) ∧ Fam w' B R n c M ∧ Below w.heap.size w w' ∧ w.heap.size ≤ B ∧ w.heap.size ≤ R
set_option maxRecDepth 100000 in
theorem copy_ (B R n c : Nat) (M : List Nat) (w : World) (h : Fam w B R n c M) : Calls Tryd.prog 23 #[.pointer (some ⟨B, 0, none⟩)] w (CopyPost n c M w) := by
  obtain ⟨cp, hB⟩ := h.fb
  obtain ⟨Z, hR⟩ := h.rb
  have HCl : Hid (∀ w', w' = w.drew → Calls Tryd.prog 32 #[.slice (some ⟨R, 0, none⟩) n cp] w' (ClonePost n M w)) := Lib.hid (fun w' e => (clone R n cp M Z w' (by rw [e]; exact hR) h.len h.n5).mono fun _ _ ⟨g, c2, Z2, a1, a2, a3, a4⟩ => ⟨g, c2, Z2, a1, by rw [e] at a2; exact a2, a3, by rw [e] at a4; exact (Below.refl _ w).drew.trans a4⟩)
  have HFin : Hid (∀ w1 g cp Z, w1.heap[g]? = some (.cells (encM M ++ Z) 46 (0, 0)) → w.heap.size ≤ g → Below w.heap.size w w1 → CopyPost n c M w (.returned (.pointer (some ⟨w1.heap.size, 0, none⟩))) (w1.alloc (.cells #[.slice (some ⟨g, 0, none⟩) n cp, .int .i64 c] 43))) := Lib.hid (fun w1 g cp Z hg hge hb => by
    have hlt : g < w1.heap.size := (Array.getElem?_eq_some_iff.1 hg).1
    have hsz := hb.size
    refine ⟨w1.heap.size, g, rfl, ⟨⟨cp, heap_alloc_new w1 _⟩, ⟨Z, (Below.heap_alloc w1 _ g hlt).trans hg⟩, h.len, h.small, h.n5, h.c1, by omega⟩, hb.alloc hsz _, hsz, hge⟩)
  have HCo : Hid (∀ w1 : World, Below w.heap.size w w1 → w1.cell? ⟨B, 1, none⟩ = some (.int .i64 c)) := Lib.hid (fun w1 hb => by
    rw [hb.cell (p := ⟨B, 1, none⟩) h.lt.1, Lib.cell_of_heap hB]; rfl)
  have h0 : w.cell? ⟨B, 0, none⟩ = some (.slice (some ⟨R, 0, none⟩) n cp) := by rw [Lib.cell_of_heap hB]; rfl
  have h1 : w.cell? ⟨B, 1, none⟩ = some (.int .i64 c) := by rw [Lib.cell_of_heap hB]; rfl
  have hlt := h.lt
  clear h hB hR
  go_enter Tryd.func23, Tryd.ntmps23
  go_wp2_with fail
  go_region_with ((with_reducible refine (HCl.out _ rfl).mono ?_); rintro e w1 ⟨g, cp2, Z2, rfl, hg, hh, hb⟩; have hc1 := HCo.out w1 hb)
  all_goals
    go_wp2_with fail
    go_ret
    exact HFin.out _ _ _ _ hh hg hb
/-- Has each set of the second family all that the same one of the first has? -/
def withinB (n : Nat) (M M2 : List Nat) : Bool := (List.range n).all fun r : Nat => insideB (rowI n M r) (rowI n M2 r)
theorem within_yes {n : Nat} {M M2 : List Nat} (h : ∀ r, r < n → insideB (rowI n M (r : Int)) (rowI n M2 (r : Int)) = true) : withinB n M M2 = true := by
  unfold withinB
  rw [List.all_eq_true]
  intro r hr
  exact h r (by simpa using hr)
theorem within_no {n : Nat} {M M2 : List Nat} {r : Nat} (hr : r < n) (h : insideB (rowI n M (r : Int)) (rowI n M2 (r : Int)) = false) : withinB n M M2 = false := by
  unfold withinB
  rw [List.all_eq_false]
  exact ⟨r, by simpa using hr, by simp [h]⟩
set_option maxRecDepth 100000 in
theorem within_fam (B R B2 R2 n c : Nat) (M M2 : List Nat) (w : World) (h : Fam w B R n c M) (h2 : Fam w B2 R2 n c M2) : Calls Tryd.prog 24 #[.pointer (some ⟨B, 0, none⟩), .pointer (some ⟨B2, 0, none⟩)] w (InsidePost (withinB n M M2) w) := by
  have HR1 := Lib.hid (rows B R n c M w h)
  have HR2 := Lib.hid (rows B2 R2 n c M2 w h2)
  have HC1 := Lib.hid (cols B R n c M w h)
  have HC2 := Lib.hid (cols B2 R2 n c M2 w h2)
  have HA1 := Lib.hid (fun wr (r : Nat) (hb : Below w.heap.size w wr) => at_ B R n c M r wr (h.below hb))
  have HA2 := Lib.hid (fun wr (r : Nat) (hb : Below w.heap.size w wr) => at_ B2 R2 n c M2 r wr (h2.below hb))
  have HI := Lib.hid (fun wr (r : Nat) => inside (rowI n M r) (rowI n M2 r) wr (rowI_len h.len r) (rowI_len h2.len r) (rowI_small h r))
  have HY := Lib.hid (fun hh => within_yes (n := n) (M := M) (M2 := M2) hh)
  have HN := Lib.hid (fun r hr hh => within_no (n := n) (M := M) (M2 := M2) (r := r) hr hh)
  have h5 := h.n5
  have h6 := h.c1
  unfold AtPost at HA1 HA2
  unfold InsidePost
  clear h h2
  go_enter Tryd.func24, Tryd.ntmps24
  go_wp2_with fail
  refine HR1.out.mono ?_
  rintro e w' ⟨rfl, rfl⟩
  go_wp2_with fail
  refine HR2.out.mono ?_
  rintro e w' ⟨rfl, rfl⟩
  go_wp2_with fail
  refine HC1.out.mono ?_
  rintro e w' ⟨rfl, rfl⟩
  go_wp2_with fail
  refine HC2.out.mono ?_
  rintro e w' ⟨rfl, rfl⟩
  go_wp2_with fail
  refine HR1.out.mono ?_
  rintro e w' ⟨rfl, rfl⟩
  go_wp2_with fail
  go_loopw [20] (fun i wr => ∃ k : Nat, k ≤ n ∧ i = .int .i64 k ∧ Hid (∀ r, r < k → insideB (rowI n M (r : Int)) (rowI n M2 (r : Int)) = true) ∧ Below w.heap.size w wr) (fun i _ => n - (intOf i).toNat)
  case atStart => exact ⟨0, by omega, rfl, Lib.hid (fun r hr => absurd hr (by omega)), Below.refl _ _⟩
  case round =>
    obtain ⟨k, hk, rfl, hz, hb⟩ := hrel
    by_cases hlt : k < n
    · have d1 : decide ((k : Int) < n) = true := by simp; omega
      have HB := Lib.hid hb
      have HA1k := Lib.hid (fun wr hb => HA1.out wr k hb)
      have HA2k := Lib.hid (fun wr hb => HA2.out wr k hb)
      have HIk := Lib.hid (fun wr => HI.out wr k)
      have HNk := Lib.hid (fun hh => HN.out k hlt hh)
      have HZ : Hid (insideB (rowI n M (k : Int)) (rowI n M2 (k : Int)) = true → ∀ r, r < k + 1 → insideB (rowI n M (r : Int)) (rowI n M2 (r : Int)) = true) := Lib.hid (fun hh r hr => by
        rcases Nat.lt_or_ge r k with h | h
        · exact hz.out r h
        · obtain rfl : r = k := by omega
          exact hh)
      clear hb hz
      cases hin : insideB (rowI n M (k : Int)) (rowI n M2 (k : Int)) with
      | true =>
        have HZ2 := Lib.hid (HZ.out hin)
        rw [hin] at HIk
        clear hin HZ HNk
        generalize encM (rowI n M (k : Int)) = E1 at *
        generalize encM (rowI n M2 (k : Int)) = E2 at *
        go_wp2_with fail
        refine (HA1k.out _ HB.out).mono ?_
        rintro e w1 ⟨rfl, hb1⟩
        have HB1 := Lib.hid (HB.out.trans (hb1.mono HB.out.size))
        clear hb1
        go_wp2_with fail
        refine (HA2k.out _ HB1.out).mono ?_
        rintro e w2 ⟨rfl, hb2⟩
        have HB2 := Lib.hid (HB1.out.trans (hb2.mono HB1.out.size))
        clear hb2
        go_wp2_with fail
        refine (HIk.out _).mono ?_
        rintro e w3 ⟨rfl, hb3⟩
        have HB3 := Lib.hid (HB2.out.trans (hb3.mono HB2.out.size))
        clear hb3
        go_wp2_with fail
        go_roundw
        case rel => exact ⟨k + 1, by omega, by go_num, HZ2, HB3.out⟩
        case measure => simp [intOf]; omega
      | false =>
        have HN2 := Lib.hid (HNk.out hin)
        rw [hin] at HIk
        clear hin HZ HNk
        generalize encM (rowI n M (k : Int)) = E1 at *
        generalize encM (rowI n M2 (k : Int)) = E2 at *
        go_wp2_with fail
        refine (HA1k.out _ HB.out).mono ?_
        rintro e w1 ⟨rfl, hb1⟩
        have HB1 := Lib.hid (HB.out.trans (hb1.mono HB.out.size))
        clear hb1
        go_wp2_with fail
        refine (HA2k.out _ HB1.out).mono ?_
        rintro e w2 ⟨rfl, hb2⟩
        have HB2 := Lib.hid (HB1.out.trans (hb2.mono HB1.out.size))
        clear hb2
        go_wp2_with fail
        refine (HIk.out _).mono ?_
        rintro e w3 ⟨rfl, hb3⟩
        have HB3 := Lib.hid (HB2.out.trans (hb3.mono HB2.out.size))
        clear hb3
        go_wp2_with fail
        go_ret
        exact ⟨ret_bool HN2.out.symm, HB3.out⟩
    · have d1 : decide ((k : Int) < n) = false := by simp; omega
      have hkn := Lib.hid (show k = n by omega)
      have HY2 := Lib.hid (HY.out (fun r hr => hz.out r (by have := hkn.out; omega)))
      have HB := Lib.hid hb
      clear hb hz
      go_wp2_with fail
      go_ret
      exact ⟨ret_bool HY2.out.symm, HB.out⟩
end Go.Proofs.YtmeiigcjfjapfaaDoor.SetG
