/- The document's SortRoles, by contract. -/
import Derived.Test.YtkmonmpfbchffaaGreatM26
import Derived.Test.YtkmonmpfbchffaaGreatM04
import Derived.Test.YtkmonmpfbchffaaGreatM08
import Derived.Deep.LoopGhost
import Derived.OwnWalk
import Derived.WalkSpells
import Derived.Deep.RegionHeld3
import Derived.Test.YtkmonmpfbchffaaGreatM10
import Derived.ProofKit
import Derived.OpenShut
import Derived.ShutString
import Derived.ChangeOld
import Derived.Below
import Derived.Carry
namespace Go.Proofs.YtkmonmpfbchffaaGreat.RolB
set_option linter.unusedVariables false
set_option linter.unusedSimpArgs false
open Go.RowKit Go.Sort Go.Lib Go.Proofs Go.Proofs.YtkmonmpfbchffaaGreat.Plain Go.Proofs.YtkmonmpfbchffaaGreat.SynP Go.Proofs.YtkmonmpfbchffaaGreat.Grown Go.Proofs.YtkmonmpfbchffaaGreat.SynC Go.Proofs.YtkmonmpfbchffaaGreat.SynD Go.Proofs.YtkmonmpfbchffaaGreat.SynS Go.Proofs.YtkmonmpfbchffaaGreat.SynJ Go.Proofs.YtkmonmpfbchffaaGreat.PolA Go.Proofs.YtkmonmpfbchffaaGreat.RolA
open Go.Proofs.YtkmonmpfbchffaaGreat.SynDA (sortL_snoc insL_len sortL_len insL_at own_keep own_more own_form step_append_from)
set_option linter.unusedVariables false
set_option linter.unusedSimpArgs false
def SortPost (L : List Rl) (w : World) (e : Ending) (w' : World) : Prop := ∃ A c, e = .returned (.slice A (sortL cmpR [] L).length c) ∧ RAt w' A (sortL cmpR [] L) ∧ Below w.heap.size w w'
set_option maxHeartbeats 4000000 in
set_option maxRecDepth 1000000 in
theorem sortRef (A0 : Option Addr) (ca : Nat) (L : List Rl) (w : World) (hL : L.length ≤ 1000) (hA : RF w A0 L) : Calls Tryz.prog 34 #[.slice A0 L.length ca] w (SortPost L w) := by
  have hm : Tryz.prog.follows .mixedOrders = true := by kernel_rfl
  have HA := Lib.hid hA
  have HI := Lib.hid (info_parts infoRole)
  clear hA
  go_enter Tryz.func34, Tryz.ntmps34
  go_wp2_with fail
  go_loopg [3, 10] L.length (fun gh u3 u10 wr => ∃ (i c : Nat) (A : Option Addr), i ≤ L.length ∧ L.length - i ≤ gh ∧ u10 = .int .i64 i ∧ u3 = .slice A (sortL cmpR [] (L.take i)).length c ∧ Hid (wr.ownsRow w.heap.size 23 2 (.slice A (sortL cmpR [] (L.take i)).length c) (sortL cmpR [] (L.take i)).length (rcells (sortL cmpR [] (L.take i)))) ∧ Below w.heap.size w wr)
  case atStart => exact ⟨0, 0, none, by omega, by omega, rfl, by simp [sortL], Lib.hid (by simpa [sortL, rcells] using World.ownsRow_nil w w.heap.size 23 2), Below.refl _ _⟩
  case round =>
    obtain ⟨i, c, A, hi, hgh, rfl, rfl, hown, hbel⟩ := hrel
    by_cases hlt : i < L.length
    · obtain ⟨g0, o0, rfl, hg0, hc0⟩ := (HA.out.below hbel).nine i hlt
      have hsn : sortL cmpR [] (L.take (i + 1)) = if L[i] ∈ sortL cmpR [] (L.take i) then sortL cmpR [] (L.take i) else insL cmpR L[i] (sortL cmpR [] (L.take i)) := by
        rw [List.take_succ_eq_append_getElem hlt, sortL_snoc]
      have hle : (sortL cmpR [] (L.take i)).length ≤ 1000 := by
        have := sortL_len (c := cmpR) (L.take i) []
        rw [List.length_take] at this
        simp at this; omega
      generalize hM : sortL cmpR [] (L.take i) = M at *
      generalize hs : L[i] = s at *
      obtain ⟨ho, hn⟩ := s
      have HN := Lib.hid hsn
      have HM := Lib.hid hM
      have HS := Lib.hid hs
      clear hsn hM hs
      have a0 := hc0 0 _ rfl
      have a1 := hc0 1 _ rfl
      rw [Nat.add_zero] at a0
      simp only [← Nat.add_assoc] at a1
      have p1 : (0 : Int) ≤ i := by omega
      have p2 : (i : Int) < L.length := by omega
      clear hc0
      go_wp2_with fail
      have hO := own_keep hown.out (Below.refl _ _)
      have HR : ∀ w', Below wr.heap.size wr w' → RAt w' A M := fun w' hb => by
        obtain ⟨A', c', e, hr⟩ := rat_own (own_keep hown.out hb)
        injection e with e1 e2 e3
        subst e1; exact hr
      have HRW := Lib.hid HR
      have hX : Below wr.heap.size wr (wr.alloc (.cells #[.string ho, .string hn] 23)) := (Below.refl _ _).alloc (Nat.le_refl _) _
      have HC := Lib.hid (hasRef A c M ⟨ho, hn⟩ (wr.alloc (.cells #[.string ho, .string hn] 23)) hle (HRW.out _ hX))
      clear HR hO
      by_cases hmem : (⟨ho, hn⟩ : Rl) ∈ M
      · rw [decide_eq_true hmem] at HC
        have hstep := Lib.hid (HN.out.trans (if_pos hmem))
        clear hmem HN
        refine HC.out.mono ?_
        rintro e w2 ⟨rfl, hb2⟩
        have hbA := hX.trans (hb2.mono (by simp))
        go_wp2_with fail
        go_roundg (L.length - (i + 1))
        case measure => omega
        case rel =>
          refine ⟨i + 1, c, A, by omega, Nat.le_refl _, by go_num, by rw [hstep.out], ?_, hbel.trans (hbA.mono hbel.size)⟩
          rw [hstep.out]
          exact Lib.hid (own_keep hown.out hbA)
      · rw [decide_eq_false hmem] at HC
        have hstep := Lib.hid (HN.out.trans (if_neg hmem))
        clear hmem HN
        refine HC.out.mono ?_
        rintro e w2 ⟨rfl, hb2⟩
        have hbA := hX.trans (hb2.mono (by simp))
        have hown2 := Lib.hid (own_keep hown.out hbA)
        have hrow2 := Lib.hid (HRW.out _ hbA)
        have hsz2 : wr.heap.size < w2.heap.size := by have := hb2.size; simp at this; omega
        have hbox : ∀ o, w2.cell? ⟨wr.heap.size, o, none⟩ = (#[.string ho, .string hn] : Array Value)[o]? := fun o => (hb2.cell (p := ⟨wr.heap.size, o, none⟩) (by simp)).trans (Lib.cell_of_heap (heap_alloc_new wr _) o)
        have c0 := hbox 0
        have c1 := hbox 1
        simp only [List.getElem?_toArray, List.getElem?_cons_zero, List.getElem?_cons_succ] at c0 c1
        have hbW := Lib.hid (hbel.trans (hbA.mono hbel.size))
        have hwr := hbel.size
        clear hbox HC hX a0 a1 hb2 hbA HRW hown hbel
        go_wp2_with fail
        go_loopg [6] M.length (fun gk u6 wr2 => ∃ (k m : Nat) (os : Array Obj), u6 = .int .i64 k ∧ k ≤ M.length ∧ M.length - k ≤ gk ∧ wr2 = grow (w2.drewN m) os ∧ Hid (∀ j, j < k → (h : j < M.length) → cmpR M[j] ⟨ho, hn⟩ < 0))
        case atStart => exact ⟨0, 0, #[], rfl, by omega, by omega, by rw [grow_empty]; rfl, Lib.hid (fun j hj => by omega)⟩
        case round =>
          obtain ⟨k, m, os, rfl, hk, hgk, rfl, hall⟩ := hrel
          have hG := Grew.mk w2 m os
          have f0 := (hG.cell (a := ⟨wr.heap.size, 0, none⟩) hsz2).trans c0
          have f1 := (hG.cell (a := ⟨wr.heap.size, 1, none⟩) hsz2).trans c1
          have hownW := Lib.hid (own_keep hown2.out hG.below)
          have hbX := Lib.hid (hbW.out.trans (hG.below.mono (by omega)))
          have hrowW := hrow2.out.below hG.below
          have hszW : wr.heap.size < (grow (w2.drewN m) os).heap.size := Nat.lt_of_lt_of_le hsz2 hG.size
          have HGm := Lib.hid (⟨m, os, rfl⟩ : ∃ m' os', grow (w2.drewN m) os = grow (w2.drewN m') os')
          clear c0 c1 hG
          generalize grow (w2.drewN m) os = W at *
          by_cases hkl : k < M.length
          · obtain ⟨g1, rfl, hg1, hcc⟩ := hrowW (by omega)
            obtain ⟨b0, b1⟩ := hcc k hkl
            have d1 : decide ((k : Int) < M.length) = true := by simp; omega
            have q1 : (0 : Int) ≤ k := by omega
            have q2 : (k : Int) < M.length := by omega
            have hB := Lib.hid (fun w' => Syn2.lessRef M[k] ⟨ho, hn⟩ w')
            clear hcc hrowW
            by_cases hv : cmpR M[k] ⟨ho, hn⟩ < 0
            · rw [decide_eq_true hv] at hB
              have hnext : Hid (∀ j, j < k + 1 → (h : j < M.length) → cmpR M[j] ⟨ho, hn⟩ < 0) := Lib.hid (fun j hj h => by
                rcases Nat.lt_or_ge j k with h' | h'
                · exact hall.out j h' h
                · have : j = k := by omega
                  subst this; exact hv)
              clear hv hall
              go_wp2_with fail
              have gC := grow_cell
              go_quiet_grown ((go_at_call 91; exact grewCall (hB.out _)))
              clear gC
              go_wp2_with fail
              go_roundg (M.length - (k + 1))
              case measure => omega
              case rel =>
                obtain ⟨m', os', hGm⟩ := HGm.out
                exact ⟨k + 1, m' + nq, os' ++ osq, by go_num, by omega, Nat.le_refl _, by rw [hGm]; show grow (grow ((w2.drewN m').drewN nq) os') osq = _; rw [grow_grow, World.drewN_drewN], hnext⟩
            · rw [decide_eq_false hv] at hB
              have hins := Lib.hid (insL_at (c := cmpR) ⟨ho, hn⟩ M k hk hall.out (fun _ => hv))
              clear hv hall HGm
              go_wp2_with fail
              have gC := grow_cell
              go_quiet_grown ((go_at_call 91; exact grewCall (hB.out _)))
              clear gC
              have hZ := Grew.mk W nq osq
              have e0 := (hZ.cell (a := ⟨wr.heap.size, 0, none⟩) hszW).trans f0
              have e1 := (hZ.cell (a := ⟨wr.heap.size, 1, none⟩) hszW).trans f1
              have hownZ := Lib.hid (own_keep hownW.out hZ.below)
              have hbZ := Lib.hid (hbX.out.trans (hZ.below.mono (by omega)))
              have hszZ : wr.heap.size < (grow (W.drewN nq) osq).heap.size := Nat.lt_of_lt_of_le hszW hZ.size
              clear hZ f0 f1 hownW hbX hszW
              generalize grow (W.drewN nq) osq = Z at *
              obtain ⟨i0, hi0, hz0, hz1, hz2⟩ := HI.out
              have hkc : k < c := Nat.lt_of_lt_of_le hkl (cap_le hownZ.out)
              have hkc2 : k ≤ c := by omega
              have Hc : Hid (∀ ad, (some ⟨g1, k * 2, none⟩ : Option Addr) = some ad → ∀ j u, (rcells (M.drop k))[j]? = some u → (Z.alloc (.cells #[] 23)).cell? (ad.add j) = some u) := Lib.hid (fun ad h j u hu => drop_new hownZ.out h hk j u hu)
              go_wp2_with (at_builtin; go_loud (refine wpList_append_from _ rfl _ _ 39 rfl Z.heap.size 23 i0 (.agg #[.string ⟨#[]⟩, .string ⟨#[]⟩]) 2 32 Tryz.underlying39 hi0 hz0 hz1 hz2 rfl (by decide) _ _ _ rfl (own_empty Z _ 2) (some ⟨g1, k * 2, none⟩) (M.length - k) (c - k) (rcells (M.drop k)) rfl (drop_cells M k) (fun h => by cases h) Hc.out (rcells_one _) (by unfold maxLen; omega) (by omega) (by simp) ?_))
              intro v7 w3 hown7 hgrow7
              have hb3 : Below Z.heap.size Z w3 := ((Below.refl _ _).alloc (Nat.le_refl _) _).grown hgrow7 (by simp) (fun k hk => by simp [Value.ownBlock] at hk; omega)
              try simp only [Nat.zero_add, List.nil_append] at hown7
              obtain ⟨A7, c7, rfl, hat7⟩ := at_drop (M := M) (k := k) hown7
              have HA7 := Lib.hid hat7
              have hown3 := Lib.hid (own_keep hownZ.out hb3)
              have hz3 := hb3.size
              have e0 := (hb3.cell (p := ⟨wr.heap.size, 0, none⟩) hszZ).trans e0
              have e1 := (hb3.cell (p := ⟨wr.heap.size, 1, none⟩) hszZ).trans e1
              have hbY := Lib.hid (hbZ.out.trans (hb3.mono (by omega)))
              have hol : Hid (∀ b, (some ⟨g1, 0, none⟩ : Option Addr) = some b → ∀ j u, (rcells (M.take k))[j]? = some u → (w3.drew.alloc (.cells #[.string ho, .string hn] 23)).cell? (b.add j) = some u) := Lib.hid (olds_at hown3.out hk)
              have hnw := Lib.hid (new_at w3.drew ⟨ho, hn⟩)
              skip
              clear hown7 hgrow7 hat7 hown3 hownZ hb3 Hc
              go_wp2_with fail
              go_region_law (first | (refine step_append_grows rfl (.tmp 39) (.tmp 41) 39 rfl 23 i0 (.agg #[.string ⟨#[]⟩, .string ⟨#[]⟩]) 2 32 Tryz.underlying39 hi0 hz0 hz1 hz2 rfl (by decide) (some ⟨g1, 0, none⟩) k k (rcells (M.take k)) (by simp [Act.eval]) (fun h => by cases h) (take_cells M k hk) (hol.out) ⟨w3.heap.size, 0, none⟩ 1 1 (Rl.cells ⟨ho, hn⟩) (by simp [Act.eval]) rfl hnw.out (RolA.stcell_one _) (by omega) (by unfold maxLen; omega) (by omega) ?_; intro v4 w4 hown4 hgrow4) | (refine step_append_from rfl (.tmp 42) (.tmp 43) 39 rfl (w3.drew.alloc (.cells #[.string ho, .string hn] 23)).heap.size 23 i0 (.agg #[.string ⟨#[]⟩, .string ⟨#[]⟩]) 2 32 Tryz.underlying39 hi0 hz0 hz1 hz2 rfl (by decide) v4 (k + 1) (rcells (M.take k) ++ Rl.cells ⟨ho, hn⟩) (by simp [Act.eval]) hown4 A7 (M.length - k) c7 (rcells (M.drop k)) (by simp [Act.eval]) (drop_cells M k) (rest_none HA7.out) (rest_at HA7.out hgrow4) (rcells_one _) (by unfold maxLen; omega) (by omega) (by have := hgrow4.size; exact this) ?_; intro v5 w5 hown5 hgrow5))
              all_goals
                obtain ⟨A5, c5, rfl, hF⟩ := own_put (B := w.heap.size) hown5 hk (hstep.out.trans hins.out) (by simp; omega)
                have hFin := Lib.hid (below_fin hbY.out (by omega) hown4 hgrow4 hgrow5)
                go_wp2_with fail
                go_roundg (L.length - (i + 1))
                case measure => omega
                case rel => exact ⟨i + 1, c5, A5, by omega, Nat.le_refl _, by go_num, rfl, Lib.hid hF, hFin.out⟩
          · have hins := Lib.hid (insL_at (c := cmpR) ⟨ho, hn⟩ M k hk hall.out (fun h => absurd h hkl))
            have d1 : decide ((k : Int) < M.length) = false := by simp; omega
            clear hall HGm
            go_wp2_with fail
            have gC := grow_cell
            go_quiet_grown (fail)
            clear gC
            have hke : M.length ≤ k := by omega
            rcases own_ways hownW.out with ⟨rfl, rfl, h0⟩ | ⟨g1, rfl⟩
            · obtain rfl : M = [] := List.eq_nil_of_length_eq_zero h0
              obtain rfl : k = 0 := by simpa using hk
              clear hkl d1 hke h0
              have hZ := Grew.mk W nq osq
              have e0 := (hZ.cell (a := ⟨wr.heap.size, 0, none⟩) hszW).trans f0
              have e1 := (hZ.cell (a := ⟨wr.heap.size, 1, none⟩) hszW).trans f1
              have hownZ := Lib.hid (own_keep hownW.out hZ.below)
              have hbZ := Lib.hid (hbX.out.trans (hZ.below.mono (by omega)))
              have hszZ : wr.heap.size < (grow (W.drewN nq) osq).heap.size := Nat.lt_of_lt_of_le hszW hZ.size
              clear hZ f0 f1 hownW hbX hszW
              generalize grow (W.drewN nq) osq = Z at *
              obtain ⟨i0, hi0, hz0, hz1, hz2⟩ := HI.out
              skip
              have Hc : Hid (∀ ad, (none : Option Addr) = some ad → ∀ j u, (rcells (([] : List Rl).drop 0))[j]? = some u → (Z.alloc (.cells #[] 23)).cell? (ad.add j) = some u) := Lib.hid (fun ad h => by cases h)
              go_wp2_with (at_builtin; go_loud (refine wpList_append_from _ rfl _ _ 39 rfl Z.heap.size 23 i0 (.agg #[.string ⟨#[]⟩, .string ⟨#[]⟩]) 2 32 Tryz.underlying39 hi0 hz0 hz1 hz2 rfl (by decide) _ _ _ rfl (own_empty Z _ 2) (none) (([] : List Rl).length - 0) (0) (rcells (([] : List Rl).drop 0)) rfl (drop_cells ([] : List Rl) 0) (fun h => rfl) Hc.out (rcells_one _) (by unfold maxLen; omega) (by omega) (by simp) ?_))
              intro v7 w3 hown7 hgrow7
              have hb3 : Below Z.heap.size Z w3 := ((Below.refl _ _).alloc (Nat.le_refl _) _).grown hgrow7 (by simp) (fun k hk => by simp [Value.ownBlock] at hk; omega)
              try simp only [Nat.zero_add, List.nil_append] at hown7
              obtain ⟨A7, c7, rfl, hat7⟩ := at_drop (M := ([] : List Rl)) (k := 0) hown7
              have HA7 := Lib.hid hat7
              have hown3 := Lib.hid (own_keep hownZ.out hb3)
              have hz3 := hb3.size
              have e0 := (hb3.cell (p := ⟨wr.heap.size, 0, none⟩) hszZ).trans e0
              have e1 := (hb3.cell (p := ⟨wr.heap.size, 1, none⟩) hszZ).trans e1
              have hbY := Lib.hid (hbZ.out.trans (hb3.mono (by omega)))
              have hol : Hid (∀ b, (none : Option Addr) = some b → ∀ j u, (rcells (([] : List Rl).take 0))[j]? = some u → (w3.drew.alloc (.cells #[.string ho, .string hn] 23)).cell? (b.add j) = some u) := Lib.hid (olds_at hown3.out hk)
              have hnw := Lib.hid (new_at w3.drew ⟨ho, hn⟩)
              skip
              clear hown7 hgrow7 hat7 hown3 hownZ hb3 Hc
              go_wp2_with fail
              go_region_law (first | (refine step_append_grows rfl (.tmp 39) (.tmp 41) 39 rfl 23 i0 (.agg #[.string ⟨#[]⟩, .string ⟨#[]⟩]) 2 32 Tryz.underlying39 hi0 hz0 hz1 hz2 rfl (by decide) (none) 0 0 (rcells (([] : List Rl).take 0)) (by simp [Act.eval]) (fun _ => ⟨rfl, rfl⟩) (take_cells ([] : List Rl) 0 hk) (fun b h => by cases h) ⟨w3.heap.size, 0, none⟩ 1 1 (Rl.cells ⟨ho, hn⟩) (by simp [Act.eval]) rfl hnw.out (RolA.stcell_one _) (by omega) (by unfold maxLen; omega) (by omega) ?_; intro v4 w4 hown4 hgrow4) | (refine step_append_from rfl (.tmp 42) (.tmp 43) 39 rfl (w3.drew.alloc (.cells #[.string ho, .string hn] 23)).heap.size 23 i0 (.agg #[.string ⟨#[]⟩, .string ⟨#[]⟩]) 2 32 Tryz.underlying39 hi0 hz0 hz1 hz2 rfl (by decide) v4 (0 + 1) (rcells (([] : List Rl).take 0) ++ Rl.cells ⟨ho, hn⟩) (by simp [Act.eval]) hown4 A7 (([] : List Rl).length - 0) c7 (rcells (([] : List Rl).drop 0)) (by simp [Act.eval]) (drop_cells ([] : List Rl) 0) (rest_none HA7.out) (rest_at HA7.out hgrow4) (rcells_one _) (by unfold maxLen; omega) (by omega) (by have := hgrow4.size; exact this) ?_; intro v5 w5 hown5 hgrow5))
              all_goals
                obtain ⟨A5, c5, rfl, hF⟩ := own_put (B := w.heap.size) hown5 hk (hstep.out.trans hins.out) (by simp; omega)
                have hFin := Lib.hid (below_fin hbY.out (by omega) hown4 hgrow4 hgrow5)
                go_wp2_with fail
                go_roundg (L.length - (i + 1))
                case measure => omega
                case rel => exact ⟨i + 1, c5, A5, by omega, Nat.le_refl _, by go_num, rfl, Lib.hid hF, hFin.out⟩
            · by_cases hkc : k = c
              · subst hkc
                have hnil : M.drop k = [] := List.drop_of_length_le hke
                have HNIL := Lib.hid hnil
                clear hkl d1 hke hnil
                have hZ := Grew.mk W nq osq
                have e0 := (hZ.cell (a := ⟨wr.heap.size, 0, none⟩) hszW).trans f0
                have e1 := (hZ.cell (a := ⟨wr.heap.size, 1, none⟩) hszW).trans f1
                have hownZ := Lib.hid (own_keep hownW.out hZ.below)
                have hbZ := Lib.hid (hbX.out.trans (hZ.below.mono (by omega)))
                have hszZ : wr.heap.size < (grow (W.drewN nq) osq).heap.size := Nat.lt_of_lt_of_le hszW hZ.size
                clear hZ f0 f1 hownW hbX hszW
                generalize grow (W.drewN nq) osq = Z at *
                obtain ⟨i0, hi0, hz0, hz1, hz2⟩ := HI.out
                skip
                have Hc : Hid (∀ ad, (some ⟨g1, 0, none⟩ : Option Addr) = some ad → ∀ j u, (rcells (M.drop k))[j]? = some u → (Z.alloc (.cells #[] 23)).cell? (ad.add j) = some u) := Lib.hid (fun ad h j u hu => by rw [HNIL.out] at hu; simp [rcells] at hu)
                go_wp2_with (at_builtin; go_loud (refine wpList_append_from _ rfl _ _ 39 rfl Z.heap.size 23 i0 (.agg #[.string ⟨#[]⟩, .string ⟨#[]⟩]) 2 32 Tryz.underlying39 hi0 hz0 hz1 hz2 rfl (by decide) _ _ _ rfl (own_empty Z _ 2) (some ⟨g1, 0, none⟩) (M.length - k) (0) (rcells (M.drop k)) rfl (drop_cells M k) (fun h => by cases h) Hc.out (rcells_one _) (by unfold maxLen; omega) (by omega) (by simp) ?_))
                intro v7 w3 hown7 hgrow7
                have hb3 : Below Z.heap.size Z w3 := ((Below.refl _ _).alloc (Nat.le_refl _) _).grown hgrow7 (by simp) (fun k hk => by simp [Value.ownBlock] at hk; omega)
                try simp only [Nat.zero_add, List.nil_append] at hown7
                obtain ⟨A7, c7, rfl, hat7⟩ := at_drop (M := M) (k := k) hown7
                have HA7 := Lib.hid hat7
                have hown3 := Lib.hid (own_keep hownZ.out hb3)
                have hz3 := hb3.size
                have e0 := (hb3.cell (p := ⟨wr.heap.size, 0, none⟩) hszZ).trans e0
                have e1 := (hb3.cell (p := ⟨wr.heap.size, 1, none⟩) hszZ).trans e1
                have hbY := Lib.hid (hbZ.out.trans (hb3.mono (by omega)))
                have hol : Hid (∀ b, (some ⟨g1, 0, none⟩ : Option Addr) = some b → ∀ j u, (rcells (M.take k))[j]? = some u → (w3.drew.alloc (.cells #[.string ho, .string hn] 23)).cell? (b.add j) = some u) := Lib.hid (olds_at hown3.out hk)
                have hnw := Lib.hid (new_at w3.drew ⟨ho, hn⟩)
                skip
                clear hown7 hgrow7 hat7 hown3 hownZ hb3 Hc
                go_wp2_with fail
                go_region_law (first | (refine step_append_grows rfl (.tmp 39) (.tmp 41) 39 rfl 23 i0 (.agg #[.string ⟨#[]⟩, .string ⟨#[]⟩]) 2 32 Tryz.underlying39 hi0 hz0 hz1 hz2 rfl (by decide) (some ⟨g1, 0, none⟩) k k (rcells (M.take k)) (by simp [Act.eval]) (fun h => by cases h) (take_cells M k hk) (hol.out) ⟨w3.heap.size, 0, none⟩ 1 1 (Rl.cells ⟨ho, hn⟩) (by simp [Act.eval]) rfl hnw.out (RolA.stcell_one _) (by omega) (by unfold maxLen; omega) (by omega) ?_; intro v4 w4 hown4 hgrow4) | (refine step_append_from rfl (.tmp 42) (.tmp 43) 39 rfl (w3.drew.alloc (.cells #[.string ho, .string hn] 23)).heap.size 23 i0 (.agg #[.string ⟨#[]⟩, .string ⟨#[]⟩]) 2 32 Tryz.underlying39 hi0 hz0 hz1 hz2 rfl (by decide) v4 (k + 1) (rcells (M.take k) ++ Rl.cells ⟨ho, hn⟩) (by simp [Act.eval]) hown4 A7 (M.length - k) c7 (rcells (M.drop k)) (by simp [Act.eval]) (drop_cells M k) (rest_none HA7.out) (rest_at HA7.out hgrow4) (rcells_one _) (by unfold maxLen; omega) (by omega) (by have := hgrow4.size; exact this) ?_; intro v5 w5 hown5 hgrow5))
                all_goals
                  obtain ⟨A5, c5, rfl, hF⟩ := own_put (B := w.heap.size) hown5 hk (hstep.out.trans hins.out) (by simp; omega)
                  have hFin := Lib.hid (below_fin hbY.out (by omega) hown4 hgrow4 hgrow5)
                  go_wp2_with fail
                  go_roundg (L.length - (i + 1))
                  case measure => omega
                  case rel => exact ⟨i + 1, c5, A5, by omega, Nat.le_refl _, by go_num, rfl, Lib.hid hF, hFin.out⟩
              · have hkc2 : k ≤ c := by have := cap_le hownW.out; omega
                have hkc3 : k < c := by omega
                clear hkl d1 hke hkc
                have hZ := Grew.mk W nq osq
                have e0 := (hZ.cell (a := ⟨wr.heap.size, 0, none⟩) hszW).trans f0
                have e1 := (hZ.cell (a := ⟨wr.heap.size, 1, none⟩) hszW).trans f1
                have hownZ := Lib.hid (own_keep hownW.out hZ.below)
                have hbZ := Lib.hid (hbX.out.trans (hZ.below.mono (by omega)))
                have hszZ : wr.heap.size < (grow (W.drewN nq) osq).heap.size := Nat.lt_of_lt_of_le hszW hZ.size
                clear hZ f0 f1 hownW hbX hszW
                generalize grow (W.drewN nq) osq = Z at *
                obtain ⟨i0, hi0, hz0, hz1, hz2⟩ := HI.out
                skip
                have Hc : Hid (∀ ad, (some ⟨g1, k * 2, none⟩ : Option Addr) = some ad → ∀ j u, (rcells (M.drop k))[j]? = some u → (Z.alloc (.cells #[] 23)).cell? (ad.add j) = some u) := Lib.hid (fun ad h j u hu => drop_new hownZ.out h hk j u hu)
                go_wp2_with (at_builtin; go_loud (refine wpList_append_from _ rfl _ _ 39 rfl Z.heap.size 23 i0 (.agg #[.string ⟨#[]⟩, .string ⟨#[]⟩]) 2 32 Tryz.underlying39 hi0 hz0 hz1 hz2 rfl (by decide) _ _ _ rfl (own_empty Z _ 2) (some ⟨g1, k * 2, none⟩) (M.length - k) (c - k) (rcells (M.drop k)) rfl (drop_cells M k) (fun h => by cases h) Hc.out (rcells_one _) (by unfold maxLen; omega) (by omega) (by simp) ?_))
                intro v7 w3 hown7 hgrow7
                have hb3 : Below Z.heap.size Z w3 := ((Below.refl _ _).alloc (Nat.le_refl _) _).grown hgrow7 (by simp) (fun k hk => by simp [Value.ownBlock] at hk; omega)
                try simp only [Nat.zero_add, List.nil_append] at hown7
                obtain ⟨A7, c7, rfl, hat7⟩ := at_drop (M := M) (k := k) hown7
                have HA7 := Lib.hid hat7
                have hown3 := Lib.hid (own_keep hownZ.out hb3)
                have hz3 := hb3.size
                have e0 := (hb3.cell (p := ⟨wr.heap.size, 0, none⟩) hszZ).trans e0
                have e1 := (hb3.cell (p := ⟨wr.heap.size, 1, none⟩) hszZ).trans e1
                have hbY := Lib.hid (hbZ.out.trans (hb3.mono (by omega)))
                have hol : Hid (∀ b, (some ⟨g1, 0, none⟩ : Option Addr) = some b → ∀ j u, (rcells (M.take k))[j]? = some u → (w3.drew.alloc (.cells #[.string ho, .string hn] 23)).cell? (b.add j) = some u) := Lib.hid (olds_at hown3.out hk)
                have hnw := Lib.hid (new_at w3.drew ⟨ho, hn⟩)
                skip
                clear hown7 hgrow7 hat7 hown3 hownZ hb3 Hc
                go_wp2_with fail
                go_region_law (first | (refine step_append_grows rfl (.tmp 39) (.tmp 41) 39 rfl 23 i0 (.agg #[.string ⟨#[]⟩, .string ⟨#[]⟩]) 2 32 Tryz.underlying39 hi0 hz0 hz1 hz2 rfl (by decide) (some ⟨g1, 0, none⟩) k k (rcells (M.take k)) (by simp [Act.eval]) (fun h => by cases h) (take_cells M k hk) (hol.out) ⟨w3.heap.size, 0, none⟩ 1 1 (Rl.cells ⟨ho, hn⟩) (by simp [Act.eval]) rfl hnw.out (RolA.stcell_one _) (by omega) (by unfold maxLen; omega) (by omega) ?_; intro v4 w4 hown4 hgrow4) | (refine step_append_from rfl (.tmp 42) (.tmp 43) 39 rfl (w3.drew.alloc (.cells #[.string ho, .string hn] 23)).heap.size 23 i0 (.agg #[.string ⟨#[]⟩, .string ⟨#[]⟩]) 2 32 Tryz.underlying39 hi0 hz0 hz1 hz2 rfl (by decide) v4 (k + 1) (rcells (M.take k) ++ Rl.cells ⟨ho, hn⟩) (by simp [Act.eval]) hown4 A7 (M.length - k) c7 (rcells (M.drop k)) (by simp [Act.eval]) (drop_cells M k) (rest_none HA7.out) (rest_at HA7.out hgrow4) (rcells_one _) (by unfold maxLen; omega) (by omega) (by have := hgrow4.size; exact this) ?_; intro v5 w5 hown5 hgrow5))
                all_goals
                  obtain ⟨A5, c5, rfl, hF⟩ := own_put (B := w.heap.size) hown5 hk (hstep.out.trans hins.out) (by simp; omega)
                  have hFin := Lib.hid (below_fin hbY.out (by omega) hown4 hgrow4 hgrow5)
                  go_wp2_with fail
                  go_roundg (L.length - (i + 1))
                  case measure => omega
                  case rel => exact ⟨i + 1, c5, A5, by omega, Nat.le_refl _, by go_num, rfl, Lib.hid hF, hFin.out⟩
    · obtain rfl : i = L.length := by omega
      have hfin : Hid (SortPost L w (.returned (.slice A (sortL cmpR [] L).length c)) wr) := Lib.hid (by
        have h := hown.out
        rw [List.take_of_length_le (Nat.le_refl _)] at h
        obtain ⟨A', c', e, hr⟩ := rat_own h
        injection e with e1 e2 e3
        subst e1
        exact ⟨A, c, rfl, hr, hbel⟩)
      have hlen : Hid (sortL cmpR [] (L.take L.length) = sortL cmpR [] L) := Lib.hid (by rw [List.take_of_length_le (Nat.le_refl _)])
      rw [hlen.out]
      clear hown hlen
      go_wp2_with fail
      go_ret
      exact hfin.out
end Go.Proofs.YtkmonmpfbchffaaGreat.RolB
/- Two rows of roles wherever they lie; whether a role is in one; the walk of the law of roles. -/
namespace Go.Proofs.YtkmonmpfbchffaaGreat.RolC
set_option linter.unusedVariables false
set_option linter.unusedSimpArgs false
open Go.RowKit Go.Sort Go.Lib Go.Proofs Go.Proofs.YtkmonmpfbchffaaGreat.Plain Go.Proofs.YtkmonmpfbchffaaGreat.SynP Go.Proofs.YtkmonmpfbchffaaGreat.Grown Go.Proofs.YtkmonmpfbchffaaGreat.SynE Go.Proofs.YtkmonmpfbchffaaGreat.SynC Go.Proofs.YtkmonmpfbchffaaGreat.SynD Go.Proofs.YtkmonmpfbchffaaGreat.SynJ Go.Proofs.YtkmonmpfbchffaaGreat.Syn4 Go.Proofs.YtkmonmpfbchffaaGreat.PolA
set_option linter.unusedVariables false
set_option linter.unusedSimpArgs false
set_option maxRecDepth 100000 in
theorem sameRolesG (A B : Option Addr) (ca cb : Nat) (L : List Rl) (w : World) (hL : L.length ≤ 1000) (hA : RG w A L) (hB : RG w B L) :
    Calls Tryz.prog 32 #[.slice A L.length ca, .slice B L.length cb] w fun e w' => e = .returned (.bool true) ∧ RowKit.Below w.heap.size w w' := by
  go_enter Tryz.func32, Tryz.ntmps32
  go_wp2
  go_loopw [13] (fun i wr => ∃ k : Nat, k ≤ L.length ∧ i = .int .i64 k ∧ ∃ n, wr = w.drewN n) (fun i _ => L.length - (intOf i).toNat)
  case atStart => exact ⟨0, by omega, rfl, 0, rfl⟩
  case round =>
    obtain ⟨k, hk, rfl, n, rfl⟩ := hrel
    by_cases hlt : k < L.length
    · obtain ⟨g1, o1, rfl, _, h1⟩ := hA (by omega)
      obtain ⟨g2, o2, rfl, _, h2⟩ := hB (by omega)
      obtain ⟨a1, b1⟩ := h1 k hlt
      obtain ⟨a2, b2⟩ := h2 k hlt
      have p1 : (0 : Int) ≤ k := by omega
      have p2 : (k : Int) < L.length := by omega
      have hq := fun w => neR L[k].owner L[k].name L[k].owner L[k].name w
      rw [decide_eq_true rfl] at hq
      clear h1 h2 hA hB
      go_wp2_with fail
      go_quiet (fail)
      go_wp2_with fail
      go_roundw
      case rel => exact ⟨k + 1, by omega, by go_num, _, rfl⟩
      case measure => simp [intOf]; omega
    · go_wp2_with fail
      go_ret
      exact ⟨rfl, below_drewN (Below.refl _ _) _⟩
set_option maxHeartbeats 1000000 in
set_option maxRecDepth 100000 in
theorem hasRefG (A : Option Addr) (ca : Nat) (L : List Rl) (s : Rl) (w : World) (hL : L.length ≤ 1000) (hA : RG w A L) :
    Calls Tryz.prog 36 #[.slice A L.length ca, s.val] w fun e w' => e = .returned (.bool (decide (s ∈ L))) ∧ RowKit.Below w.heap.size w w' := by
  obtain ⟨ho, hn⟩ := s
  have hown : ∀ (wr : World), Below (w.heap.size + 1) (w.alloc (.cells #[.string ho, .string hn] 23)) wr → wr.cell? ⟨w.heap.size, 0, none⟩ = some (.string ho) ∧ wr.cell? ⟨w.heap.size, 1, none⟩ = some (.string hn) := fun wr hb => by
    refine ⟨?_, ?_⟩ <;> rw [hb.cell (by simp)] <;> rw [Lib.cell_of_heap (heap_alloc_new w _)] <;> rfl
  have HO := Lib.hid hown
  clear hown
  have HA := Lib.hid hA
  clear hA
  unfold Rl.val
  go_enter Tryz.func36, Tryz.ntmps36
  go_wp2_with fail
  go_loopw [9] (fun i wr => ∃ k : Nat, k ≤ L.length ∧ i = .int .i64 k ∧ Hid ((⟨ho, hn⟩ : Rl) ∉ L.take k) ∧ Below (w.heap.size + 1) (w.alloc (.cells #[.string ho, .string hn] 23)) wr) (fun i _ => L.length - (intOf i).toNat)
  case atStart => exact ⟨0, by omega, rfl, Lib.hid (by simp), Below.refl _ _⟩
  case round =>
    obtain ⟨k, hk, rfl, hrun, hbel⟩ := hrel
    have hb0 : Below w.heap.size w wr := ((Below.refl w.heap.size w).alloc (Nat.le_refl _) _).trans (hbel.mono (by omega))
    have hsz : w.heap.size + 1 ≤ wr.heap.size := by have := hbel.size; simpa using this
    by_cases hlt : k < L.length
    · obtain ⟨g1, o1, rfl, hg1, h1⟩ := (HA.out.below hb0) (by omega)
      obtain ⟨a0, a1⟩ := h1 k hlt
      obtain ⟨b0, b1⟩ := HO.out _ (hbel.alloc hsz (.cells #[.string L[k].owner, .string L[k].name] 23))
      have p1 : (0 : Int) ≤ k := by omega
      have p2 : (k : Int) < L.length := by omega
      clear h1
      by_cases he : L[k] = (⟨ho, hn⟩ : Rl)
      · have hfin : Hid (decide ((⟨ho, hn⟩ : Rl) ∈ L) = true) := Lib.hid (decide_eq_true (he ▸ List.getElem_mem hlt))
        have hq := fun w => SynE.eqR L[k].owner L[k].name ho hn w
        rw [decide_eq_true (p := (⟨L[k].owner, L[k].name⟩ : Rl) = ⟨ho, hn⟩) he] at hq
        clear hrun he
        go_wp2_with fail
        go_ret
        exact ⟨ret_bool hfin.out.symm, hb0.alloc hb0.size _⟩
      · have hnext : Hid ((⟨ho, hn⟩ : Rl) ∉ L.take (k + 1)) := Lib.hid (by
          rw [List.take_succ_eq_append_getElem hlt, List.mem_append, List.mem_singleton]
          rintro (h | h)
          · exact hrun.out h
          · exact he h.symm)
        have hq := fun w => SynE.eqR L[k].owner L[k].name ho hn w
        rw [decide_eq_false (p := (⟨L[k].owner, L[k].name⟩ : Rl) = ⟨ho, hn⟩) he] at hq
        clear hrun he
        go_wp2_with fail
        go_roundw
        case rel => exact ⟨k + 1, by omega, by go_num, hnext, hbel.alloc hsz _⟩
        case measure => simp [intOf]; omega
    · have hfin : Hid (decide ((⟨ho, hn⟩ : Rl) ∈ L) = false) := Lib.hid (decide_eq_false (by
        have := hrun.out
        rwa [List.take_of_length_le (by omega)] at this))
      clear hrun
      go_wp2_with fail
      go_ret
      exact ⟨ret_bool hfin.out.symm, hb0⟩
theorem rf_of {w : World} {A : Option Addr} {L : List Rl} (h : RG w A L) : RolA.RF w A L := fun hp => by
  obtain ⟨g, o, hA, hg, hc⟩ := h hp
  refine ⟨g, o, hA, hg, fun j u hu => ?_⟩
  have hj : j < (rcells L).length := by
    rcases Nat.lt_or_ge j (rcells L).length with h | h
    · exact h
    · rw [List.getElem?_eq_none h] at hu; cases hu
  rw [rcells_len] at hj
  have q := rcells_get L (j / 2) (j % 2) (by omega) (by omega)
  rw [show j / 2 * 2 + j % 2 = j by omega, hu] at q
  obtain ⟨a, b⟩ := hc (j / 2) (by omega)
  rcases Nat.mod_two_eq_zero_or_one j with hm | hm
  · rw [hm] at q
    rw [show o + j / 2 * 2 = o + j by omega] at a
    rw [a]; exact q.symm
  · rw [hm] at q
    rw [show o + j / 2 * 2 + 1 = o + j by omega] at b
    rw [b]; exact q.symm
theorem keepB {W w1 w2 : World} {n : Nat} {f : Nat → Option Value} (h : RowKit.Below W.heap.size W w1 ∧ (∀ o, w1.cell? ⟨n, o, none⟩ = f o)) (hn : n < W.heap.size) (hb : RowKit.Below w1.heap.size w1 w2) : RowKit.Below W.heap.size W w2 ∧ (∀ o, w2.cell? ⟨n, o, none⟩ = f o) := by
  have hs := h.1.size
  exact ⟨h.1.trans (hb.mono hs), fun o => (hb.cell (p := ⟨n, o, none⟩) (by show n < _; omega)).trans (h.2 o)⟩
set_option maxRecDepth 100000 in
theorem long (A : Option Addr) (ca n : Nat) (r : Rl) (w : World) (hn : 30 < n) (hm : n ≤ maxLen) : Calls Tryz.prog 5 #[.slice A n ca, r.val] w fun e w' => e = .returned (.bool true) ∧ RowKit.Below w.heap.size w w' := by
  obtain ⟨ro, rn⟩ := r
  unfold Rl.val
  have d0 : decide ((30 : Int) < n) = true := by simp; omega
  clear hm hn
  go_enter Tryz.func5, Tryz.ntmps5
  go_wp2_with fail
  refine (PolLw.lives _).mono ?_
  rintro e w2 ⟨rfl, hb⟩
  go_wp2_with fail
  go_ret
  exact ⟨rfl, ((Below.refl _ _).alloc (Nat.le_refl _) _).trans (hb.mono (by simp only [World.size_alloc]; omega))⟩
set_option maxHeartbeats 4000000 in
set_option maxRecDepth 1000000 in
theorem short (A : Option Addr) (ca : Nat) (L : List Rl) (ro rn : ByteArray) (w : World) (hL : L.length ≤ 30) (hA : RG w A L) : Calls Tryz.prog 5 #[.slice A L.length ca, .agg #[.string ro, .string rn]] w fun e w' => e = .returned (.bool true) ∧ RowKit.Below w.heap.size w w' := by
  have hX := (Below.refl w.heap.size w).alloc (Nat.le_refl _) (.cells #[.string ro, .string rn] 23)
  generalize hW6 : w.alloc (.cells #[.string ro, .string rn] 23) = w6 at hX
  have hz6 : w6.heap.size = w.heap.size + 1 := by rw [← hW6]; simp
  have u1 : ∀ o, w6.drew.cell? ⟨w.heap.size, o, none⟩ = (#[.string ro, .string rn] : Array Value)[o]? := fun o => by
    show w6.cell? _ = _
    rw [← hW6]; exact Lib.cell_of_heap (heap_alloc_new w _) o
  have hz7 : w.heap.size < w6.heap.size := by omega
  have hlen : (sortL cmpR [] L).length ≤ 1000 := by
    have := SynDA.sortL_len (c := cmpR) L []
    simp at this; omega
  have HT1 : Hid (∀ w', RowKit.Below w6.heap.size w6 w' → Calls Tryz.prog 33 #[.slice A L.length ca] w' fun e w'' => ∃ A' c', e = .returned (.slice A' (sortL cmpR [] L).length c') ∧ RG w'' A' (sortL cmpR [] L) ∧ RowKit.Below w'.heap.size w' w'') := Lib.hid (fun w' hb => PolD.sortRoles A ca L w' (by omega) (hA.below (hX.trans (hb.mono (by omega)))))
  have HT2 : Hid (∀ w', RowKit.Below w6.heap.size w6 w' → Calls Tryz.prog 34 #[.slice A L.length ca] w' fun e w'' => ∃ A' c', e = .returned (.slice A' (sortL cmpR [] L).length c') ∧ RAt w'' A' (sortL cmpR [] L) ∧ RowKit.Below w'.heap.size w' w'') := Lib.hid (fun w' hb => RolB.sortRef A ca L w' (by omega) (rf_of (hA.below (hX.trans (hb.mono (by omega))))))
  have HH1 : Hid (∀ w', RowKit.Below w6.heap.size w6 w' → Calls Tryz.prog 35 #[.slice A L.length ca, .agg #[.string ro, .string rn]] w' fun e w'' => e = .returned (.bool (decide ((⟨ro, rn⟩ : Rl) ∈ L))) ∧ RowKit.Below w'.heap.size w' w'') := Lib.hid (fun w' hb => PolK.has_ A ca L ⟨ro, rn⟩ w' (by omega) (hA.below (hX.trans (hb.mono (by omega)))))
  have HH2 : Hid (∀ w', RowKit.Below w6.heap.size w6 w' → Calls Tryz.prog 36 #[.slice A L.length ca, .agg #[.string ro, .string rn]] w' fun e w'' => e = .returned (.bool (decide ((⟨ro, rn⟩ : Rl) ∈ L))) ∧ RowKit.Below w'.heap.size w' w'') := Lib.hid (fun w' hb => hasRefG A ca L ⟨ro, rn⟩ w' (by omega) (hA.below (hX.trans (hb.mono (by omega)))))
  have d0 : decide ((30 : Int) < L.length) = false := by simp; omega
  have hst : RowKit.Below w6.heap.size w6 w6.drew ∧ (∀ o, w6.drew.cell? ⟨w.heap.size, o, none⟩ = (#[.string ro, .string rn] : Array Value)[o]?) := ⟨(Below.refl _ _).drew, u1⟩
  generalize hMM : sortL cmpR [] L = M at *
  generalize hn : L.length = n at *
  have hXH := Lib.hid hX
  clear u1 hA hMM hX
  cases decide ((⟨ro, rn⟩ : Rl) ∈ L)
  all_goals
    go_enter Tryz.func5, Tryz.ntmps5
    go_wp2_with fail
    try rw [hW6]
    go_region_held3 (fun w' => RowKit.Below w6.heap.size w6 w' ∧ (∀ o, w'.cell? ⟨w.heap.size, o, none⟩ = (#[.string ro, .string rn] : Array Value)[o]?))
      (first | with_reducible exact hst | with_reducible assumption | exact keepB (by with_reducible assumption) hz7 (by with_reducible assumption))
      (first | (go_at_call 33; refine (HT1.out _ (by apply And.left; with_reducible assumption)).mono ?_; rintro e w' ⟨A9, c9, rfl, hr9, hgb⟩) | (go_at_call 34; refine (HT2.out _ (by apply And.left; with_reducible assumption)).mono ?_; rintro e w' ⟨A8, c8, rfl, hr8, hgb⟩) | (go_at_call 32; refine (sameRolesG _ _ _ _ M _ hlen (hr9.below (by with_reducible assumption)) (RG.of_rat hr8)).mono ?_; rintro e w' ⟨rfl, hgb⟩) | (go_at_call 35; refine (HH1.out _ (by apply And.left; with_reducible assumption)).mono ?_; rintro e w' ⟨rfl, hgb⟩) | (go_at_call 36; refine (HH2.out _ (by apply And.left; with_reducible assumption)).mono ?_; rintro e w' ⟨rfl, hgb⟩) | (go_at_call 16; refine (PolLw.lives _).mono ?_; rintro e w' ⟨rfl, hgb⟩))
    rename_i hHeld
    go_wp2_with fail
    go_ret
    exact ⟨rfl, hXH.out.trans (hHeld.1.mono (by omega))⟩
theorem walk (A : Option Addr) (ca : Nat) (L : List Rl) (r : Rl) (w : World) (hL : L.length ≤ maxLen) (hA : RG w A L) : Calls Tryz.prog 5 #[.slice A L.length ca, r.val] w fun e w' => e = .returned (.bool true) ∧ RowKit.Below w.heap.size w w' := by
  by_cases h : 30 < L.length
  · exact long A ca _ r w h hL
  · exact short A ca L r.owner r.name w (by omega) hA
end Go.Proofs.YtkmonmpfbchffaaGreat.RolC
/- What an argument that is a statement reads as. -/
namespace Go.Proofs.YtkmonmpfbchffaaGreat.SynF
set_option linter.unusedVariables false
set_option linter.unusedSimpArgs false
open Go.ChangeShapes Go.WideShapes Go.ChangeAt Go.RowKit
open Go.ChangeMaps (open_string shut_string)
open Go.Proofs.YtkmonmpfbchffaaGreat.Plain Go.Proofs.YtkmonmpfbchffaaGreat.SynP
set_option maxRecDepth 1000000
theorem cells3 : Tryz.prog.cellsOf 3 = 1 := by kernel_rfl
theorem cells9 : Tryz.prog.cellsOf 9 = 1 := by kernel_rfl
theorem cellsR : Tryz.prog.cellsOf 23 = 2 := by kernel_rfl
theorem cellsS : Tryz.prog.cellsOf 72 = 9 := by kernel_rfl
section
variable {H : Type} {enc : TypeId × Value → H} {w : World} {base : Nat} {spare : Nat → Bool} {held : Bool} {fuel : Nat} {cs : List Value} {x : DataW H × List MemPlace}
theorem some_at {α : Type} {xs : List α} {n i : Nat} (h : xs.length = n) (hi : i < n) : ∃ y, xs[i]? = some y := ⟨xs[i]'(by omega), List.getElem?_eq_getElem _⟩
theorem role_cells (h : DataW.trod enc Tryz.prog w base spare held fuel 23 cs = some x) : ∃ r : Rl, cs = [.string r.owner, .string r.name] ∧ r.light := by
  obtain ⟨xs, n, _, _, hl, hxl, hf⟩ := DataW.trod_struct Tryz.underlying23 h
  rw [cellsR] at hl
  match cs, hl with
  | [c0, c1], _ =>
    have h0 : DataW.trod enc Tryz.prog w base spare held n 9 (([c0, c1].drop 0).take (Tryz.prog.cellsOf 9)) = xs[0]? := hf 0 _ rfl
    have h1 : DataW.trod enc Tryz.prog w base spare held n 9 (([c0, c1].drop 1).take (Tryz.prog.cellsOf 9)) = xs[1]? := hf 1 _ rfl
    obtain ⟨y0, e0⟩ := some_at (i := 0) hxl (by decide)
    obtain ⟨y1, e1⟩ := some_at (i := 1) hxl (by decide)
    rw [e0] at h0
    rw [e1] at h1
    rw [cells9] at h0 h1
    obtain ⟨s0, a0, _, b0⟩ := DataW.trod_string Tryz.underlying9 h0
    obtain ⟨s1, a1, _, b1⟩ := DataW.trod_string Tryz.underlying9 h1
    simp at a0 a1
    subst a0; subst a1
    exact ⟨⟨s0, s1⟩, rfl, b0, b1⟩
theorem stmt_cells (h : DataW.trod enc Tryz.prog w base spare held fuel 72 cs = some x) : ∃ s : St, cs = s.cells ∧ s.fit := by
  obtain ⟨xs, n, _, _, hl, hxl, hf⟩ := DataW.trod_struct Tryz.underlying72 h
  rw [cellsS] at hl
  match cs, hl with
  | [c0, c1, c2, c3, c4, c5, c6, c7, c8], _ =>
    have h0 : DataW.trod enc Tryz.prog w base spare held n 3 (([c0, c1, c2, c3, c4, c5, c6, c7, c8].drop 0).take (Tryz.prog.cellsOf 3)) = xs[0]? := hf 0 _ rfl
    have h1 : DataW.trod enc Tryz.prog w base spare held n 23 (([c0, c1, c2, c3, c4, c5, c6, c7, c8].drop 1).take (Tryz.prog.cellsOf 23)) = xs[1]? := hf 1 _ rfl
    have h2 : DataW.trod enc Tryz.prog w base spare held n 9 (([c0, c1, c2, c3, c4, c5, c6, c7, c8].drop 3).take (Tryz.prog.cellsOf 9)) = xs[2]? := hf 2 _ rfl
    have h3 : DataW.trod enc Tryz.prog w base spare held n 23 (([c0, c1, c2, c3, c4, c5, c6, c7, c8].drop 4).take (Tryz.prog.cellsOf 23)) = xs[3]? := hf 3 _ rfl
    have h4 : DataW.trod enc Tryz.prog w base spare held n 23 (([c0, c1, c2, c3, c4, c5, c6, c7, c8].drop 6).take (Tryz.prog.cellsOf 23)) = xs[4]? := hf 4 _ rfl
    have h5 : DataW.trod enc Tryz.prog w base spare held n 9 (([c0, c1, c2, c3, c4, c5, c6, c7, c8].drop 8).take (Tryz.prog.cellsOf 9)) = xs[5]? := hf 5 _ rfl
    obtain ⟨y0, e0⟩ := some_at (i := 0) hxl (by decide)
    obtain ⟨y1, e1⟩ := some_at (i := 1) hxl (by decide)
    obtain ⟨y2, e2⟩ := some_at (i := 2) hxl (by decide)
    obtain ⟨y3, e3⟩ := some_at (i := 3) hxl (by decide)
    obtain ⟨y4, e4⟩ := some_at (i := 4) hxl (by decide)
    obtain ⟨y5, e5⟩ := some_at (i := 5) hxl (by decide)
    rw [e0] at h0
    rw [e1] at h1
    rw [e2] at h2
    rw [e3] at h3
    rw [e4] at h4
    rw [e5] at h5
    rw [cells3] at h0
    rw [cellsR] at h1 h3 h4
    rw [cells9] at h2 h5
    obtain ⟨k, a0, _, _⟩ := DataW.trod_int Tryz.underlying3 h0
    obtain ⟨r1, a1, b1⟩ := role_cells h1
    obtain ⟨s2, a2, _, b2⟩ := DataW.trod_string Tryz.underlying9 h2
    obtain ⟨r3, a3, b3⟩ := role_cells h3
    obtain ⟨r4, a4, b4⟩ := role_cells h4
    obtain ⟨s5, a5, _, b5⟩ := DataW.trod_string Tryz.underlying9 h5
    simp at a0 a1 a2 a3 a4 a5
    obtain ⟨a11, a12⟩ := a1
    obtain ⟨a31, a32⟩ := a3
    obtain ⟨a41, a42⟩ := a4
    subst a0 a11 a12 a2 a31 a32 a41 a42 a5
    exact ⟨⟨k, r1, s2, r3, r4, s5⟩, rfl, b1, b2, b3, b4, b5⟩
theorem open_stmt {r : Reach} {b0 : Nat} {v : Value} {d : DataW H} {p : List MemPlace} (hv : Value.okWide Tryz.prog w r b0 72 v) (h : DataW.Trod enc Tryz.prog w base spare held 72 v d p) : ∃ s : St, v = s.val ∧ s.fit := by
  obtain ⟨cs, rfl, hsz⟩ := okWide_struct Tryz.underlying72 hv
  obtain ⟨fuel, hf⟩ := h
  obtain ⟨s, hs, hfit⟩ := stmt_cells hf
  refine ⟨s, ?_, hfit⟩
  have : cs.toList = s.cells := by simpa [Value.cells] using hs
  obtain ⟨l⟩ := cs
  simp at this
  subst this
  rfl
end
end Go.Proofs.YtkmonmpfbchffaaGreat.SynF
