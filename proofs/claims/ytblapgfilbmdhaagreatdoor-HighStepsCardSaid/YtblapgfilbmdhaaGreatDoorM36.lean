/- The document's SortRoles, by contract. -/
import Derived.Test.YtblapgfilbmdhaaGreatDoorM33
import Derived.Test.YtblapgfilbmdhaaGreatDoorM04
import Derived.Test.YtblapgfilbmdhaaGreatDoorM08
import Derived.Deep.LoopGhost
import Derived.OwnWalk
import Derived.WalkSpells
import Derived.Test.YtblapgfilbmdhaaGreatDoorM12
import Derived.Test.YtblapgfilbmdhaaGreatDoorM05
set_option linter.unusedVariables false
set_option linter.unusedSimpArgs false
namespace Go.Proofs.YtblapgfilbmdhaaGreatDoor.RolB
open Go.RowKit Go.Sort Go.Lib Go.Proofs Plain SynP Grown SynC SynD SynS SynJ PolA RolA
open SynDA (sortL_snoc insL_len sortL_len insL_at own_keep own_more own_form step_append_from)
def SortOwn (L : List Rl) (w : World) (e : Ending) (w' : World) : Prop := ∃ v, e = .returned v ∧ w'.ownsRow w.heap.size 28 2 v (sortL cmpR [] L).length (rcells (sortL cmpR [] L)) ∧ Below w.heap.size w w'
def SortPost (L : List Rl) (w : World) (e : Ending) (w' : World) : Prop := ∃ A c, e = .returned (.slice A (sortL cmpR [] L).length c) ∧ RAt w' A (sortL cmpR [] L) ∧ Below w.heap.size w w'
set_option maxHeartbeats 4000000 in
set_option maxRecDepth 1000000 in
theorem sortOwn (A0 : Option Addr) (ca : Nat) (L : List Rl) (w : World) (hL : L.length ≤ 1000) (hA : RF w A0 L) : Calls Tryz.prog 13 #[.slice A0 L.length ca] w (SortOwn L w) := by
  have hm : Tryz.prog.follows .mixedOrders = true := by kernel_rfl
  have HA := Lib.hid hA
  have HI := Lib.hid (info_parts infoRole)
  clear hA
  go_enter Tryz.func13, Tryz.ntmps13
  go_wp2_with fail
  go_loopg [3, 10] L.length (fun gh u3 u10 wr => ∃ (i c : Nat) (A : Option Addr), i ≤ L.length ∧ L.length - i ≤ gh ∧ u10 = .int .i64 i ∧ u3 = .slice A (sortL cmpR [] (L.take i)).length c ∧ Hid (wr.ownsRow w.heap.size 28 2 (.slice A (sortL cmpR [] (L.take i)).length c) (sortL cmpR [] (L.take i)).length (rcells (sortL cmpR [] (L.take i)))) ∧ Below w.heap.size w wr)
  case atStart => exact ⟨0, 0, none, by omega, by omega, rfl, by simp [sortL], Lib.hid (by simpa [sortL, rcells] using World.ownsRow_nil w w.heap.size 28 2), Below.refl _ _⟩
  case round =>
    obtain ⟨i, c, A, hi, hgh, rfl, rfl, hown, hbel⟩ := hrel
    by_cases hlt : i < L.length
    · obtain ⟨g0, o0, rfl, hg0, hc0⟩ := (HA.out.below hbel).nine i hlt
      have hsn : sortL cmpR [] (L.take (i + 1)) = if L[i] ∈ sortL cmpR [] (L.take i) then sortL cmpR [] (L.take i) else insL cmpR L[i] (sortL cmpR [] (L.take i)) := by
        rw [List.take_succ_eq_append_getElem hlt, sortL_snoc]
      have hle : (sortL cmpR [] (L.take i)).length ≤ 1000 := by
        have := sortL_len (c := cmpR) (L.take i) []
        rw [List.length_take] at this
        simp at this; omega
      generalize hM : sortL cmpR [] (L.take i) = M at *
      generalize hs : L[i] = s at *
      obtain ⟨ho, hn⟩ := s
      have HN := Lib.hid hsn
      have HM := Lib.hid hM
      have HS := Lib.hid hs
      clear hsn hM hs
      have a0 := hc0 0 _ rfl
      have a1 := hc0 1 _ rfl
      rw [Nat.add_zero] at a0
      simp only [← Nat.add_assoc] at a1
      have p1 : (0 : Int) ≤ i := by omega
      have p2 : (i : Int) < L.length := by omega
      clear hc0
      go_wp2_with fail
      have hO := own_keep hown.out (Below.refl _ _)
      have HR : ∀ w', Below wr.heap.size wr w' → RAt w' A M := fun w' hb => by
        obtain ⟨A', c', e, hr⟩ := rat_own (own_keep hown.out hb)
        injection e with e1 e2 e3
        subst e1; exact hr
      have HRW := Lib.hid HR
      have hX : Below wr.heap.size wr (wr.alloc (.cells #[.string ho, .string hn] 28)) := (Below.refl _ _).alloc (Nat.le_refl _) _
      have HC := Lib.hid (hasRef A c M ⟨ho, hn⟩ (wr.alloc (.cells #[.string ho, .string hn] 28)) hle (HRW.out _ hX))
      clear HR hO
      by_cases hmem : (⟨ho, hn⟩ : Rl) ∈ M
      · rw [decide_eq_true hmem] at HC
        have hstep := Lib.hid (HN.out.trans (if_pos hmem))
        clear hmem HN
        refine HC.out.mono ?_
        rintro e w2 ⟨rfl, hb2⟩
        have hbA := hX.trans (hb2.mono (by simp))
        go_wp2_with fail
        go_roundg (L.length - (i + 1))
        case measure => omega
        case rel =>
          refine ⟨i + 1, c, A, by omega, Nat.le_refl _, by go_num, by rw [hstep.out], ?_, hbel.trans (hbA.mono hbel.size)⟩
          rw [hstep.out]
          exact Lib.hid (own_keep hown.out hbA)
      · rw [decide_eq_false hmem] at HC
        have hstep := Lib.hid (HN.out.trans (if_neg hmem))
        clear hmem HN
        refine HC.out.mono ?_
        rintro e w2 ⟨rfl, hb2⟩
        have hbA := hX.trans (hb2.mono (by simp))
        have hown2 := Lib.hid (own_keep hown.out hbA)
        have hrow2 := Lib.hid (HRW.out _ hbA)
        have hsz2 : wr.heap.size < w2.heap.size := by have := hb2.size; simp at this; omega
        have hbox : ∀ o, w2.cell? ⟨wr.heap.size, o, none⟩ = (#[.string ho, .string hn] : Array Value)[o]? := fun o => (hb2.cell (p := ⟨wr.heap.size, o, none⟩) (by simp)).trans (Lib.cell_of_heap (heap_alloc_new wr _) o)
        have c0 := hbox 0
        have c1 := hbox 1
        simp only [List.getElem?_toArray, List.getElem?_cons_zero, List.getElem?_cons_succ] at c0 c1
        have hbW := Lib.hid (hbel.trans (hbA.mono hbel.size))
        have hwr := hbel.size
        clear hbox HC hX a0 a1 hb2 hbA HRW hown hbel
        go_wp2_with fail
        go_loopg [6] M.length (fun gk u6 wr2 => ∃ (k m : Nat) (os : Array Obj), u6 = .int .i64 k ∧ k ≤ M.length ∧ M.length - k ≤ gk ∧ wr2 = grow (w2.drewN m) os ∧ Hid (∀ j, j < k → (h : j < M.length) → cmpR M[j] ⟨ho, hn⟩ < 0))
        case atStart => exact ⟨0, 0, #[], rfl, by omega, by omega, by rw [grow_empty]; rfl, Lib.hid (fun j hj => by omega)⟩
        case round =>
          obtain ⟨k, m, os, rfl, hk, hgk, rfl, hall⟩ := hrel
          have hG := Grew.mk w2 m os
          have f0 := (hG.cell (a := ⟨wr.heap.size, 0, none⟩) hsz2).trans c0
          have f1 := (hG.cell (a := ⟨wr.heap.size, 1, none⟩) hsz2).trans c1
          have hownW := Lib.hid (own_keep hown2.out hG.below)
          have hbX := Lib.hid (hbW.out.trans (hG.below.mono (by omega)))
          have hrowW := hrow2.out.below hG.below
          have hszW : wr.heap.size < (grow (w2.drewN m) os).heap.size := Nat.lt_of_lt_of_le hsz2 hG.size
          have HGm := Lib.hid (⟨m, os, rfl⟩ : ∃ m' os', grow (w2.drewN m) os = grow (w2.drewN m') os')
          clear c0 c1 hG
          generalize grow (w2.drewN m) os = W at *
          by_cases hkl : k < M.length
          · obtain ⟨g1, rfl, hg1, hcc⟩ := hrowW (by omega)
            obtain ⟨b0, b1⟩ := hcc k hkl
            have d1 : decide ((k : Int) < M.length) = true := by simp; omega
            have q1 : (0 : Int) ≤ k := by omega
            have q2 : (k : Int) < M.length := by omega
            have hB := Lib.hid (fun w' => Syn2.lessRef M[k] ⟨ho, hn⟩ w')
            clear hcc hrowW
            by_cases hv : cmpR M[k] ⟨ho, hn⟩ < 0
            · rw [decide_eq_true hv] at hB
              have hnext : Hid (∀ j, j < k + 1 → (h : j < M.length) → cmpR M[j] ⟨ho, hn⟩ < 0) := Lib.hid (fun j hj h => by
                rcases Nat.lt_or_ge j k with h' | h'
                · exact hall.out j h' h
                · have : j = k := by omega
                  subst this; exact hv)
              clear hv hall
              go_wp2_with fail
              have gC := grow_cell
              go_quiet_grown ((go_at_call 44; exact grewCall (hB.out _)))
              clear gC
              go_wp2_with fail
              go_roundg (M.length - (k + 1))
              case measure => omega
              case rel =>
                obtain ⟨m', os', hGm⟩ := HGm.out
                exact ⟨k + 1, m' + nq, os' ++ osq, by go_num, by omega, Nat.le_refl _, by rw [hGm]; show grow (grow ((w2.drewN m').drewN nq) os') osq = _; rw [grow_grow, World.drewN_drewN], hnext⟩
            · rw [decide_eq_false hv] at hB
              have hins := Lib.hid (insL_at (c := cmpR) ⟨ho, hn⟩ M k hk hall.out (fun _ => hv))
              clear hv hall HGm
              go_wp2_with fail
              have gC := grow_cell
              go_quiet_grown ((go_at_call 44; exact grewCall (hB.out _)))
              clear gC
              have hZ := Grew.mk W nq osq
              have e0 := (hZ.cell (a := ⟨wr.heap.size, 0, none⟩) hszW).trans f0
              have e1 := (hZ.cell (a := ⟨wr.heap.size, 1, none⟩) hszW).trans f1
              have hownZ := Lib.hid (own_keep hownW.out hZ.below)
              have hbZ := Lib.hid (hbX.out.trans (hZ.below.mono (by omega)))
              have hszZ : wr.heap.size < (grow (W.drewN nq) osq).heap.size := Nat.lt_of_lt_of_le hszW hZ.size
              clear hZ f0 f1 hownW hbX hszW
              generalize grow (W.drewN nq) osq = Z at *
              obtain ⟨i0, hi0, hz0, hz1, hz2⟩ := HI.out
              have hkc : k < c := Nat.lt_of_lt_of_le hkl (cap_le hownZ.out)
              have hkc2 : k ≤ c := by omega
              have Hc : Hid (∀ ad, (some ⟨g1, k * 2, none⟩ : Option Addr) = some ad → ∀ j u, (rcells (M.drop k))[j]? = some u → (Z.alloc (.cells #[] 28)).cell? (ad.add j) = some u) := Lib.hid (fun ad h j u hu => drop_new hownZ.out h hk j u hu)
              go_wp2_with (at_builtin; go_loud (refine wpList_append_from _ rfl _ _ 23 rfl Z.heap.size 28 i0 (.agg #[.string ⟨#[]⟩, .string ⟨#[]⟩]) 2 32 Tryz.underlying23 hi0 hz0 hz1 hz2 rfl (by decide) _ _ _ rfl (own_empty Z _ 2) (some ⟨g1, k * 2, none⟩) (M.length - k) (c - k) (rcells (M.drop k)) rfl (drop_cells M k) (fun h => by cases h) Hc.out (rcells_one _) (by unfold maxLen; omega) (by omega) (by simp) ?_))
              intro v7 w3 hown7 hgrow7
              have hb3 : Below Z.heap.size Z w3 := ((Below.refl _ _).alloc (Nat.le_refl _) _).grown hgrow7 (by simp) (fun k hk => by simp [Value.ownBlock] at hk; omega)
              try simp only [Nat.zero_add, List.nil_append] at hown7
              obtain ⟨A7, c7, rfl, hat7⟩ := at_drop (M := M) (k := k) hown7
              have HA7 := Lib.hid hat7
              have hown3 := Lib.hid (own_keep hownZ.out hb3)
              have hz3 := hb3.size
              have e0 := (hb3.cell (p := ⟨wr.heap.size, 0, none⟩) hszZ).trans e0
              have e1 := (hb3.cell (p := ⟨wr.heap.size, 1, none⟩) hszZ).trans e1
              have hbY := Lib.hid (hbZ.out.trans (hb3.mono (by omega)))
              have hol : Hid (∀ b, (some ⟨g1, 0, none⟩ : Option Addr) = some b → ∀ j u, (rcells (M.take k))[j]? = some u → (w3.drew.alloc (.cells #[.string ho, .string hn] 28)).cell? (b.add j) = some u) := Lib.hid (olds_at hown3.out hk)
              have hnw := Lib.hid (new_at w3.drew ⟨ho, hn⟩)
              skip
              clear hown7 hgrow7 hat7 hown3 hownZ hb3 Hc
              go_wp2_with fail
              go_region_law (first | (refine step_append_grows rfl (.tmp 39) (.tmp 41) 23 rfl 28 i0 (.agg #[.string ⟨#[]⟩, .string ⟨#[]⟩]) 2 32 Tryz.underlying23 hi0 hz0 hz1 hz2 rfl (by decide) (some ⟨g1, 0, none⟩) k k (rcells (M.take k)) (by simp [Act.eval]) (fun h => by cases h) (take_cells M k hk) (hol.out) ⟨w3.heap.size, 0, none⟩ 1 1 (Rl.cells ⟨ho, hn⟩) (by simp [Act.eval]) rfl hnw.out (RolA.stcell_one _) (by omega) (by unfold maxLen; omega) (by omega) ?_; intro v4 w4 hown4 hgrow4) | (refine step_append_from rfl (.tmp 42) (.tmp 43) 23 rfl (w3.drew.alloc (.cells #[.string ho, .string hn] 28)).heap.size 28 i0 (.agg #[.string ⟨#[]⟩, .string ⟨#[]⟩]) 2 32 Tryz.underlying23 hi0 hz0 hz1 hz2 rfl (by decide) v4 (k + 1) (rcells (M.take k) ++ Rl.cells ⟨ho, hn⟩) (by simp [Act.eval]) hown4 A7 (M.length - k) c7 (rcells (M.drop k)) (by simp [Act.eval]) (drop_cells M k) (rest_none HA7.out) (rest_at HA7.out hgrow4) (rcells_one _) (by unfold maxLen; omega) (by omega) (by have := hgrow4.size; exact this) ?_; intro v5 w5 hown5 hgrow5))
              all_goals
                obtain ⟨A5, c5, rfl, hF⟩ := own_put (B := w.heap.size) hown5 hk (hstep.out.trans hins.out) (by simp; omega)
                have hFin := Lib.hid (below_fin hbY.out (by omega) hown4 hgrow4 hgrow5)
                go_wp2_with fail
                go_roundg (L.length - (i + 1))
                case measure => omega
                case rel => exact ⟨i + 1, c5, A5, by omega, Nat.le_refl _, by go_num, rfl, Lib.hid hF, hFin.out⟩
          · have hins := Lib.hid (insL_at (c := cmpR) ⟨ho, hn⟩ M k hk hall.out (fun h => absurd h hkl))
            have d1 : decide ((k : Int) < M.length) = false := by simp; omega
            clear hall HGm
            go_wp2_with fail
            have gC := grow_cell
            go_quiet_grown (fail)
            clear gC
            have hke : M.length ≤ k := by omega
            rcases own_ways hownW.out with ⟨rfl, rfl, h0⟩ | ⟨g1, rfl⟩
            · obtain rfl : M = [] := List.eq_nil_of_length_eq_zero h0
              obtain rfl : k = 0 := by simpa using hk
              clear hkl d1 hke h0
              have hZ := Grew.mk W nq osq
              have e0 := (hZ.cell (a := ⟨wr.heap.size, 0, none⟩) hszW).trans f0
              have e1 := (hZ.cell (a := ⟨wr.heap.size, 1, none⟩) hszW).trans f1
              have hownZ := Lib.hid (own_keep hownW.out hZ.below)
              have hbZ := Lib.hid (hbX.out.trans (hZ.below.mono (by omega)))
              have hszZ : wr.heap.size < (grow (W.drewN nq) osq).heap.size := Nat.lt_of_lt_of_le hszW hZ.size
              clear hZ f0 f1 hownW hbX hszW
              generalize grow (W.drewN nq) osq = Z at *
              obtain ⟨i0, hi0, hz0, hz1, hz2⟩ := HI.out
              skip
              have Hc : Hid (∀ ad, (none : Option Addr) = some ad → ∀ j u, (rcells (([] : List Rl).drop 0))[j]? = some u → (Z.alloc (.cells #[] 28)).cell? (ad.add j) = some u) := Lib.hid (fun ad h => by cases h)
              go_wp2_with (at_builtin; go_loud (refine wpList_append_from _ rfl _ _ 23 rfl Z.heap.size 28 i0 (.agg #[.string ⟨#[]⟩, .string ⟨#[]⟩]) 2 32 Tryz.underlying23 hi0 hz0 hz1 hz2 rfl (by decide) _ _ _ rfl (own_empty Z _ 2) (none) (([] : List Rl).length - 0) (0) (rcells (([] : List Rl).drop 0)) rfl (drop_cells ([] : List Rl) 0) (fun h => rfl) Hc.out (rcells_one _) (by unfold maxLen; omega) (by omega) (by simp) ?_))
              intro v7 w3 hown7 hgrow7
              have hb3 : Below Z.heap.size Z w3 := ((Below.refl _ _).alloc (Nat.le_refl _) _).grown hgrow7 (by simp) (fun k hk => by simp [Value.ownBlock] at hk; omega)
              try simp only [Nat.zero_add, List.nil_append] at hown7
              obtain ⟨A7, c7, rfl, hat7⟩ := at_drop (M := ([] : List Rl)) (k := 0) hown7
              have HA7 := Lib.hid hat7
              have hown3 := Lib.hid (own_keep hownZ.out hb3)
              have hz3 := hb3.size
              have e0 := (hb3.cell (p := ⟨wr.heap.size, 0, none⟩) hszZ).trans e0
              have e1 := (hb3.cell (p := ⟨wr.heap.size, 1, none⟩) hszZ).trans e1
              have hbY := Lib.hid (hbZ.out.trans (hb3.mono (by omega)))
              have hol : Hid (∀ b, (none : Option Addr) = some b → ∀ j u, (rcells (([] : List Rl).take 0))[j]? = some u → (w3.drew.alloc (.cells #[.string ho, .string hn] 28)).cell? (b.add j) = some u) := Lib.hid (olds_at hown3.out hk)
              have hnw := Lib.hid (new_at w3.drew ⟨ho, hn⟩)
              skip
              clear hown7 hgrow7 hat7 hown3 hownZ hb3 Hc
              go_wp2_with fail
              go_region_law (first | (refine step_append_grows rfl (.tmp 39) (.tmp 41) 23 rfl 28 i0 (.agg #[.string ⟨#[]⟩, .string ⟨#[]⟩]) 2 32 Tryz.underlying23 hi0 hz0 hz1 hz2 rfl (by decide) (none) 0 0 (rcells (([] : List Rl).take 0)) (by simp [Act.eval]) (fun _ => ⟨rfl, rfl⟩) (take_cells ([] : List Rl) 0 hk) (fun b h => by cases h) ⟨w3.heap.size, 0, none⟩ 1 1 (Rl.cells ⟨ho, hn⟩) (by simp [Act.eval]) rfl hnw.out (RolA.stcell_one _) (by omega) (by unfold maxLen; omega) (by omega) ?_; intro v4 w4 hown4 hgrow4) | (refine step_append_from rfl (.tmp 42) (.tmp 43) 23 rfl (w3.drew.alloc (.cells #[.string ho, .string hn] 28)).heap.size 28 i0 (.agg #[.string ⟨#[]⟩, .string ⟨#[]⟩]) 2 32 Tryz.underlying23 hi0 hz0 hz1 hz2 rfl (by decide) v4 (0 + 1) (rcells (([] : List Rl).take 0) ++ Rl.cells ⟨ho, hn⟩) (by simp [Act.eval]) hown4 A7 (([] : List Rl).length - 0) c7 (rcells (([] : List Rl).drop 0)) (by simp [Act.eval]) (drop_cells ([] : List Rl) 0) (rest_none HA7.out) (rest_at HA7.out hgrow4) (rcells_one _) (by unfold maxLen; omega) (by omega) (by have := hgrow4.size; exact this) ?_; intro v5 w5 hown5 hgrow5))
              all_goals
                obtain ⟨A5, c5, rfl, hF⟩ := own_put (B := w.heap.size) hown5 hk (hstep.out.trans hins.out) (by simp; omega)
                have hFin := Lib.hid (below_fin hbY.out (by omega) hown4 hgrow4 hgrow5)
                go_wp2_with fail
                go_roundg (L.length - (i + 1))
                case measure => omega
                case rel => exact ⟨i + 1, c5, A5, by omega, Nat.le_refl _, by go_num, rfl, Lib.hid hF, hFin.out⟩
            · by_cases hkc : k = c
              · subst hkc
                have hnil : M.drop k = [] := List.drop_of_length_le hke
                have HNIL := Lib.hid hnil
                clear hkl d1 hke hnil
                have hZ := Grew.mk W nq osq
                have e0 := (hZ.cell (a := ⟨wr.heap.size, 0, none⟩) hszW).trans f0
                have e1 := (hZ.cell (a := ⟨wr.heap.size, 1, none⟩) hszW).trans f1
                have hownZ := Lib.hid (own_keep hownW.out hZ.below)
                have hbZ := Lib.hid (hbX.out.trans (hZ.below.mono (by omega)))
                have hszZ : wr.heap.size < (grow (W.drewN nq) osq).heap.size := Nat.lt_of_lt_of_le hszW hZ.size
                clear hZ f0 f1 hownW hbX hszW
                generalize grow (W.drewN nq) osq = Z at *
                obtain ⟨i0, hi0, hz0, hz1, hz2⟩ := HI.out
                skip
                have Hc : Hid (∀ ad, (some ⟨g1, 0, none⟩ : Option Addr) = some ad → ∀ j u, (rcells (M.drop k))[j]? = some u → (Z.alloc (.cells #[] 28)).cell? (ad.add j) = some u) := Lib.hid (fun ad h j u hu => by rw [HNIL.out] at hu; simp [rcells] at hu)
                go_wp2_with (at_builtin; go_loud (refine wpList_append_from _ rfl _ _ 23 rfl Z.heap.size 28 i0 (.agg #[.string ⟨#[]⟩, .string ⟨#[]⟩]) 2 32 Tryz.underlying23 hi0 hz0 hz1 hz2 rfl (by decide) _ _ _ rfl (own_empty Z _ 2) (some ⟨g1, 0, none⟩) (M.length - k) (0) (rcells (M.drop k)) rfl (drop_cells M k) (fun h => by cases h) Hc.out (rcells_one _) (by unfold maxLen; omega) (by omega) (by simp) ?_))
                intro v7 w3 hown7 hgrow7
                have hb3 : Below Z.heap.size Z w3 := ((Below.refl _ _).alloc (Nat.le_refl _) _).grown hgrow7 (by simp) (fun k hk => by simp [Value.ownBlock] at hk; omega)
                try simp only [Nat.zero_add, List.nil_append] at hown7
                obtain ⟨A7, c7, rfl, hat7⟩ := at_drop (M := M) (k := k) hown7
                have HA7 := Lib.hid hat7
                have hown3 := Lib.hid (own_keep hownZ.out hb3)
                have hz3 := hb3.size
                have e0 := (hb3.cell (p := ⟨wr.heap.size, 0, none⟩) hszZ).trans e0
                have e1 := (hb3.cell (p := ⟨wr.heap.size, 1, none⟩) hszZ).trans e1
                have hbY := Lib.hid (hbZ.out.trans (hb3.mono (by omega)))
                have hol : Hid (∀ b, (some ⟨g1, 0, none⟩ : Option Addr) = some b → ∀ j u, (rcells (M.take k))[j]? = some u → (w3.drew.alloc (.cells #[.string ho, .string hn] 28)).cell? (b.add j) = some u) := Lib.hid (olds_at hown3.out hk)
                have hnw := Lib.hid (new_at w3.drew ⟨ho, hn⟩)
                skip
                clear hown7 hgrow7 hat7 hown3 hownZ hb3 Hc
                go_wp2_with fail
                go_region_law (first | (refine step_append_grows rfl (.tmp 39) (.tmp 41) 23 rfl 28 i0 (.agg #[.string ⟨#[]⟩, .string ⟨#[]⟩]) 2 32 Tryz.underlying23 hi0 hz0 hz1 hz2 rfl (by decide) (some ⟨g1, 0, none⟩) k k (rcells (M.take k)) (by simp [Act.eval]) (fun h => by cases h) (take_cells M k hk) (hol.out) ⟨w3.heap.size, 0, none⟩ 1 1 (Rl.cells ⟨ho, hn⟩) (by simp [Act.eval]) rfl hnw.out (RolA.stcell_one _) (by omega) (by unfold maxLen; omega) (by omega) ?_; intro v4 w4 hown4 hgrow4) | (refine step_append_from rfl (.tmp 42) (.tmp 43) 23 rfl (w3.drew.alloc (.cells #[.string ho, .string hn] 28)).heap.size 28 i0 (.agg #[.string ⟨#[]⟩, .string ⟨#[]⟩]) 2 32 Tryz.underlying23 hi0 hz0 hz1 hz2 rfl (by decide) v4 (k + 1) (rcells (M.take k) ++ Rl.cells ⟨ho, hn⟩) (by simp [Act.eval]) hown4 A7 (M.length - k) c7 (rcells (M.drop k)) (by simp [Act.eval]) (drop_cells M k) (rest_none HA7.out) (rest_at HA7.out hgrow4) (rcells_one _) (by unfold maxLen; omega) (by omega) (by have := hgrow4.size; exact this) ?_; intro v5 w5 hown5 hgrow5))
                all_goals
                  obtain ⟨A5, c5, rfl, hF⟩ := own_put (B := w.heap.size) hown5 hk (hstep.out.trans hins.out) (by simp; omega)
                  have hFin := Lib.hid (below_fin hbY.out (by omega) hown4 hgrow4 hgrow5)
                  go_wp2_with fail
                  go_roundg (L.length - (i + 1))
                  case measure => omega
                  case rel => exact ⟨i + 1, c5, A5, by omega, Nat.le_refl _, by go_num, rfl, Lib.hid hF, hFin.out⟩
              · have hkc2 : k ≤ c := by have := cap_le hownW.out; omega
                have hkc3 : k < c := by omega
                clear hkl d1 hke hkc
                have hZ := Grew.mk W nq osq
                have e0 := (hZ.cell (a := ⟨wr.heap.size, 0, none⟩) hszW).trans f0
                have e1 := (hZ.cell (a := ⟨wr.heap.size, 1, none⟩) hszW).trans f1
                have hownZ := Lib.hid (own_keep hownW.out hZ.below)
                have hbZ := Lib.hid (hbX.out.trans (hZ.below.mono (by omega)))
                have hszZ : wr.heap.size < (grow (W.drewN nq) osq).heap.size := Nat.lt_of_lt_of_le hszW hZ.size
                clear hZ f0 f1 hownW hbX hszW
                generalize grow (W.drewN nq) osq = Z at *
                obtain ⟨i0, hi0, hz0, hz1, hz2⟩ := HI.out
                skip
                have Hc : Hid (∀ ad, (some ⟨g1, k * 2, none⟩ : Option Addr) = some ad → ∀ j u, (rcells (M.drop k))[j]? = some u → (Z.alloc (.cells #[] 28)).cell? (ad.add j) = some u) := Lib.hid (fun ad h j u hu => drop_new hownZ.out h hk j u hu)
                go_wp2_with (at_builtin; go_loud (refine wpList_append_from _ rfl _ _ 23 rfl Z.heap.size 28 i0 (.agg #[.string ⟨#[]⟩, .string ⟨#[]⟩]) 2 32 Tryz.underlying23 hi0 hz0 hz1 hz2 rfl (by decide) _ _ _ rfl (own_empty Z _ 2) (some ⟨g1, k * 2, none⟩) (M.length - k) (c - k) (rcells (M.drop k)) rfl (drop_cells M k) (fun h => by cases h) Hc.out (rcells_one _) (by unfold maxLen; omega) (by omega) (by simp) ?_))
                intro v7 w3 hown7 hgrow7
                have hb3 : Below Z.heap.size Z w3 := ((Below.refl _ _).alloc (Nat.le_refl _) _).grown hgrow7 (by simp) (fun k hk => by simp [Value.ownBlock] at hk; omega)
                try simp only [Nat.zero_add, List.nil_append] at hown7
                obtain ⟨A7, c7, rfl, hat7⟩ := at_drop (M := M) (k := k) hown7
                have HA7 := Lib.hid hat7
                have hown3 := Lib.hid (own_keep hownZ.out hb3)
                have hz3 := hb3.size
                have e0 := (hb3.cell (p := ⟨wr.heap.size, 0, none⟩) hszZ).trans e0
                have e1 := (hb3.cell (p := ⟨wr.heap.size, 1, none⟩) hszZ).trans e1
                have hbY := Lib.hid (hbZ.out.trans (hb3.mono (by omega)))
                have hol : Hid (∀ b, (some ⟨g1, 0, none⟩ : Option Addr) = some b → ∀ j u, (rcells (M.take k))[j]? = some u → (w3.drew.alloc (.cells #[.string ho, .string hn] 28)).cell? (b.add j) = some u) := Lib.hid (olds_at hown3.out hk)
                have hnw := Lib.hid (new_at w3.drew ⟨ho, hn⟩)
                skip
                clear hown7 hgrow7 hat7 hown3 hownZ hb3 Hc
                go_wp2_with fail
                go_region_law (first | (refine step_append_grows rfl (.tmp 39) (.tmp 41) 23 rfl 28 i0 (.agg #[.string ⟨#[]⟩, .string ⟨#[]⟩]) 2 32 Tryz.underlying23 hi0 hz0 hz1 hz2 rfl (by decide) (some ⟨g1, 0, none⟩) k k (rcells (M.take k)) (by simp [Act.eval]) (fun h => by cases h) (take_cells M k hk) (hol.out) ⟨w3.heap.size, 0, none⟩ 1 1 (Rl.cells ⟨ho, hn⟩) (by simp [Act.eval]) rfl hnw.out (RolA.stcell_one _) (by omega) (by unfold maxLen; omega) (by omega) ?_; intro v4 w4 hown4 hgrow4) | (refine step_append_from rfl (.tmp 42) (.tmp 43) 23 rfl (w3.drew.alloc (.cells #[.string ho, .string hn] 28)).heap.size 28 i0 (.agg #[.string ⟨#[]⟩, .string ⟨#[]⟩]) 2 32 Tryz.underlying23 hi0 hz0 hz1 hz2 rfl (by decide) v4 (k + 1) (rcells (M.take k) ++ Rl.cells ⟨ho, hn⟩) (by simp [Act.eval]) hown4 A7 (M.length - k) c7 (rcells (M.drop k)) (by simp [Act.eval]) (drop_cells M k) (rest_none HA7.out) (rest_at HA7.out hgrow4) (rcells_one _) (by unfold maxLen; omega) (by omega) (by have := hgrow4.size; exact this) ?_; intro v5 w5 hown5 hgrow5))
                all_goals
                  obtain ⟨A5, c5, rfl, hF⟩ := own_put (B := w.heap.size) hown5 hk (hstep.out.trans hins.out) (by simp; omega)
                  have hFin := Lib.hid (below_fin hbY.out (by omega) hown4 hgrow4 hgrow5)
                  go_wp2_with fail
                  go_roundg (L.length - (i + 1))
                  case measure => omega
                  case rel => exact ⟨i + 1, c5, A5, by omega, Nat.le_refl _, by go_num, rfl, Lib.hid hF, hFin.out⟩
    · obtain rfl : i = L.length := by omega
      have hfin : Hid (SortOwn L w (.returned (.slice A (sortL cmpR [] L).length c)) wr) := Lib.hid (by
        have h := hown.out
        rw [List.take_of_length_le (Nat.le_refl _)] at h
        exact ⟨_, rfl, h, hbel⟩)
      have hlen : Hid (sortL cmpR [] (L.take L.length) = sortL cmpR [] L) := Lib.hid (by rw [List.take_of_length_le (Nat.le_refl _)])
      rw [hlen.out]
      clear hown hlen
      go_wp2_with fail
      go_ret
      exact hfin.out
theorem sortRef (A0 : Option Addr) (ca : Nat) (L : List Rl) (w : World) (hL : L.length ≤ 1000) (hA : RF w A0 L) : Calls Tryz.prog 13 #[.slice A0 L.length ca] w (SortPost L w) :=
  (sortOwn A0 ca L w hL hA).mono fun e w' h => by
    obtain ⟨v, rfl, ho, hb⟩ := h
    obtain ⟨A', c', rfl, hr⟩ := rat_own ho
    exact ⟨A', c', rfl, hr, hb⟩
end Go.Proofs.YtblapgfilbmdhaaGreatDoor.RolB
namespace Go.Proofs.YtblapgfilbmdhaaGreatDoor.SynDB
open Go.RowKit Go.Sort Go.Lib Go.Proofs Plain SynP Grown SynC SynD SynD2 SynD3 SynDA SynS
def SortPost (L : List St) (w : World) (e : Ending) (w' : World) : Prop := ∃ A c, e = .returned (.slice A (sortL cmpS [] L).length c) ∧ StRow w' A (sortL cmpS [] L) ∧ Below w.heap.size w w'
set_option maxHeartbeats 4000000 in
set_option maxRecDepth 1000000 in
theorem sortRef (A0 : Option Addr) (ca : Nat) (L : List St) (w : World) (hL : L.length ≤ 1000) (hA : StAt w A0 L) : Calls Tryz.prog 71 #[.slice A0 L.length ca] w (SortPost L w) := by
  have hm : Tryz.prog.follows .mixedOrders = true := by kernel_rfl
  have HA := Lib.hid hA
  have HI := Lib.hid (info_parts infoSt)
  clear hA
  go_enter Tryz.func71, Tryz.ntmps71
  go_wp2_with fail
  go_loopg [3, 10] L.length (fun gh u3 u10 wr => ∃ (i c : Nat) (A : Option Addr), i ≤ L.length ∧ L.length - i ≤ gh ∧ u10 = .int .i64 i ∧ u3 = .slice A (sortL cmpS [] (L.take i)).length c ∧ Hid (wr.ownsRow w.heap.size 67 9 (.slice A (sortL cmpS [] (L.take i)).length c) (sortL cmpS [] (L.take i)).length (stCells (sortL cmpS [] (L.take i)))) ∧ Below w.heap.size w wr)
  case atStart => exact ⟨0, 0, none, by omega, by omega, rfl, by simp [sortL], Lib.hid (by simpa [sortL, stCells] using World.ownsRow_nil w w.heap.size 67 9), Below.refl _ _⟩
  case round =>
    obtain ⟨i, c, A, hi, hgh, rfl, rfl, hown, hbel⟩ := hrel
    by_cases hlt : i < L.length
    · obtain ⟨g0, o0, rfl, hg0, hc0⟩ := (HA.out.below hbel).nine i hlt
      have hsn : sortL cmpS [] (L.take (i + 1)) = if L[i] ∈ sortL cmpS [] (L.take i) then sortL cmpS [] (L.take i) else insL cmpS L[i] (sortL cmpS [] (L.take i)) := by
        rw [List.take_succ_eq_append_getElem hlt, sortL_snoc]
      have hle : (sortL cmpS [] (L.take i)).length ≤ 1000 := by
        have := sortL_len (c := cmpS) (L.take i) []
        rw [List.length_take] at this
        simp at this; omega
      generalize hM : sortL cmpS [] (L.take i) = M at *
      generalize hs : L[i] = s at *
      obtain ⟨k1, ⟨ho, hn⟩, wh, ⟨ao, an⟩, ⟨bo, bn⟩, v⟩ := s
      have HN := Lib.hid hsn
      have HM := Lib.hid hM
      have HS := Lib.hid hs
      clear hsn hM hs
      have a0 := hc0 0 _ rfl
      have a1 := hc0 1 _ rfl
      have a2 := hc0 2 _ rfl
      have a3 := hc0 3 _ rfl
      have a4 := hc0 4 _ rfl
      have a5 := hc0 5 _ rfl
      have a6 := hc0 6 _ rfl
      have a7 := hc0 7 _ rfl
      have a8 := hc0 8 _ rfl
      rw [Nat.add_zero] at a0
      simp only [← Nat.add_assoc] at a1 a2 a3 a4 a5 a6 a7 a8
      have p1 : (0 : Int) ≤ i := by omega
      have p2 : (i : Int) < L.length := by omega
      clear hc0
      go_wp2_with fail
      have hO := own_keep hown.out (Below.refl _ _)
      have HR : ∀ w', Below wr.heap.size wr w' → StRow w' A M := fun w' hb => by
        obtain ⟨A', c', e, _, hr⟩ := StRow.of_own (own_keep hown.out hb)
        injection e with e1 e2 e3
        subst e1; exact hr
      have HRW := Lib.hid HR
      have hX : Below wr.heap.size wr (wr.alloc (.cells #[.int .i64 k1, .string ho, .string hn, .string wh, .string ao, .string an, .string bo, .string bn, .string v] 67)) := (Below.refl _ _).alloc (Nat.le_refl _) _
      have HC := Lib.hid (has A c M ⟨k1, ⟨ho, hn⟩, wh, ⟨ao, an⟩, ⟨bo, bn⟩, v⟩ (wr.alloc (.cells #[.int .i64 k1, .string ho, .string hn, .string wh, .string ao, .string an, .string bo, .string bn, .string v] 67)) hle (HRW.out _ hX))
      clear HR hO
      by_cases hmem : (⟨k1, ⟨ho, hn⟩, wh, ⟨ao, an⟩, ⟨bo, bn⟩, v⟩ : St) ∈ M
      · rw [decide_eq_true hmem] at HC
        have hstep := Lib.hid (HN.out.trans (if_pos hmem))
        clear hmem HN
        refine HC.out.mono ?_
        rintro e w2 ⟨rfl, hb2⟩
        have hbA := hX.trans (hb2.mono (by simp))
        go_wp2_with fail
        go_roundg (L.length - (i + 1))
        case measure => omega
        case rel =>
          refine ⟨i + 1, c, A, by omega, Nat.le_refl _, by go_num, by rw [hstep.out], ?_, hbel.trans (hbA.mono hbel.size)⟩
          rw [hstep.out]
          exact Lib.hid (own_keep hown.out hbA)
      · rw [decide_eq_false hmem] at HC
        have hstep := Lib.hid (HN.out.trans (if_neg hmem))
        clear hmem HN
        refine HC.out.mono ?_
        rintro e w2 ⟨rfl, hb2⟩
        have hbA := hX.trans (hb2.mono (by simp))
        have hown2 := Lib.hid (own_keep hown.out hbA)
        have hrow2 := Lib.hid (HRW.out _ hbA)
        have hsz2 : wr.heap.size < w2.heap.size := by have := hb2.size; simp at this; omega
        have hbox : ∀ o, w2.cell? ⟨wr.heap.size, o, none⟩ = (#[.int .i64 k1, .string ho, .string hn, .string wh, .string ao, .string an, .string bo, .string bn, .string v] : Array Value)[o]? := fun o => (hb2.cell (p := ⟨wr.heap.size, o, none⟩) (by simp)).trans (Lib.cell_of_heap (heap_alloc_new wr _) o)
        have c0 := hbox 0
        have c1 := hbox 1
        have c2 := hbox 2
        have c3 := hbox 3
        have c4 := hbox 4
        have c5 := hbox 5
        have c6 := hbox 6
        have c7 := hbox 7
        have c8 := hbox 8
        simp only [List.getElem?_toArray, List.getElem?_cons_zero, List.getElem?_cons_succ] at c0 c1 c2 c3 c4 c5 c6 c7 c8
        have hbW := Lib.hid (hbel.trans (hbA.mono hbel.size))
        have hwr := hbel.size
        clear hbox HC hX a0 a1 a2 a3 a4 a5 a6 a7 a8 hb2 hbA HRW hown hbel
        go_wp2_with fail
        go_loopg [6] M.length (fun gk u6 wr2 => ∃ (k m : Nat) (os : Array Obj), u6 = .int .i64 k ∧ k ≤ M.length ∧ M.length - k ≤ gk ∧ wr2 = grow (w2.drewN m) os ∧ Hid (∀ j, j < k → (h : j < M.length) → cmpS M[j] ⟨k1, ⟨ho, hn⟩, wh, ⟨ao, an⟩, ⟨bo, bn⟩, v⟩ < 0))
        case atStart => exact ⟨0, 0, #[], rfl, by omega, by omega, by rw [grow_empty]; rfl, Lib.hid (fun j hj => by omega)⟩
        case round =>
          obtain ⟨k, m, os, rfl, hk, hgk, rfl, hall⟩ := hrel
          have hG := Grew.mk w2 m os
          have f0 := (hG.cell (a := ⟨wr.heap.size, 0, none⟩) hsz2).trans c0
          have f1 := (hG.cell (a := ⟨wr.heap.size, 1, none⟩) hsz2).trans c1
          have f2 := (hG.cell (a := ⟨wr.heap.size, 2, none⟩) hsz2).trans c2
          have f3 := (hG.cell (a := ⟨wr.heap.size, 3, none⟩) hsz2).trans c3
          have f4 := (hG.cell (a := ⟨wr.heap.size, 4, none⟩) hsz2).trans c4
          have f5 := (hG.cell (a := ⟨wr.heap.size, 5, none⟩) hsz2).trans c5
          have f6 := (hG.cell (a := ⟨wr.heap.size, 6, none⟩) hsz2).trans c6
          have f7 := (hG.cell (a := ⟨wr.heap.size, 7, none⟩) hsz2).trans c7
          have f8 := (hG.cell (a := ⟨wr.heap.size, 8, none⟩) hsz2).trans c8
          have hownW := Lib.hid (own_keep hown2.out hG.below)
          have hbX := Lib.hid (hbW.out.trans (hG.below.mono (by omega)))
          have hrowW := hrow2.out.below hG.below
          have hszW : wr.heap.size < (grow (w2.drewN m) os).heap.size := Nat.lt_of_lt_of_le hsz2 hG.size
          have HGm := Lib.hid (⟨m, os, rfl⟩ : ∃ m' os', grow (w2.drewN m) os = grow (w2.drewN m') os')
          clear c0 c1 c2 c3 c4 c5 c6 c7 c8 hG
          generalize grow (w2.drewN m) os = W at *
          by_cases hkl : k < M.length
          · obtain ⟨g1, rfl, hg1, hcc⟩ := hrowW (by omega)
            obtain ⟨b0, b1, b2, b3, b4, b5, b6, b7, b8⟩ := hcc k hkl
            have d1 : decide ((k : Int) < M.length) = true := by simp; omega
            have q1 : (0 : Int) ≤ k := by omega
            have q2 : (k : Int) < M.length := by omega
            have hB := Lib.hid (fun w' => Syn3.before M[k] ⟨k1, ⟨ho, hn⟩, wh, ⟨ao, an⟩, ⟨bo, bn⟩, v⟩ w')
            clear hcc hrowW
            by_cases hv : cmpS M[k] ⟨k1, ⟨ho, hn⟩, wh, ⟨ao, an⟩, ⟨bo, bn⟩, v⟩ < 0
            · rw [decide_eq_true hv] at hB
              have hnext : Hid (∀ j, j < k + 1 → (h : j < M.length) → cmpS M[j] ⟨k1, ⟨ho, hn⟩, wh, ⟨ao, an⟩, ⟨bo, bn⟩, v⟩ < 0) := Lib.hid (fun j hj h => by
                rcases Nat.lt_or_ge j k with h' | h'
                · exact hall.out j h' h
                · have : j = k := by omega
                  subst this; exact hv)
              clear hv hall
              go_wp2_with fail
              have gC := grow_cell
              go_quiet_grown ((go_at_call 113; exact grewCall (hB.out _)))
              clear gC
              go_wp2_with fail
              go_roundg (M.length - (k + 1))
              case measure => omega
              case rel =>
                obtain ⟨m', os', hGm⟩ := HGm.out
                exact ⟨k + 1, m' + nq, os' ++ osq, by go_num, by omega, Nat.le_refl _, by rw [hGm]; show grow (grow ((w2.drewN m').drewN nq) os') osq = _; rw [grow_grow, World.drewN_drewN], hnext⟩
            · rw [decide_eq_false hv] at hB
              have hins := Lib.hid (insL_at (c := cmpS) ⟨k1, ⟨ho, hn⟩, wh, ⟨ao, an⟩, ⟨bo, bn⟩, v⟩ M k hk hall.out (fun _ => hv))
              clear hv hall HGm
              go_wp2_with fail
              have gC := grow_cell
              go_quiet_grown ((go_at_call 113; exact grewCall (hB.out _)))
              clear gC
              have hZ := Grew.mk W nq osq
              have e0 := (hZ.cell (a := ⟨wr.heap.size, 0, none⟩) hszW).trans f0
              have e1 := (hZ.cell (a := ⟨wr.heap.size, 1, none⟩) hszW).trans f1
              have e2 := (hZ.cell (a := ⟨wr.heap.size, 2, none⟩) hszW).trans f2
              have e3 := (hZ.cell (a := ⟨wr.heap.size, 3, none⟩) hszW).trans f3
              have e4 := (hZ.cell (a := ⟨wr.heap.size, 4, none⟩) hszW).trans f4
              have e5 := (hZ.cell (a := ⟨wr.heap.size, 5, none⟩) hszW).trans f5
              have e6 := (hZ.cell (a := ⟨wr.heap.size, 6, none⟩) hszW).trans f6
              have e7 := (hZ.cell (a := ⟨wr.heap.size, 7, none⟩) hszW).trans f7
              have e8 := (hZ.cell (a := ⟨wr.heap.size, 8, none⟩) hszW).trans f8
              have hownZ := Lib.hid (own_keep hownW.out hZ.below)
              have hbZ := Lib.hid (hbX.out.trans (hZ.below.mono (by omega)))
              have hszZ : wr.heap.size < (grow (W.drewN nq) osq).heap.size := Nat.lt_of_lt_of_le hszW hZ.size
              clear hZ f0 f1 f2 f3 f4 f5 f6 f7 f8 hownW hbX hszW
              generalize grow (W.drewN nq) osq = Z at *
              obtain ⟨i0, hi0, hz0, hz1, hz2⟩ := HI.out
              have hkc : k < c := Nat.lt_of_lt_of_le hkl (cap_le hownZ.out)
              have hkc2 : k ≤ c := by omega
              have Hc : Hid (∀ ad, (some ⟨g1, k * 9, none⟩ : Option Addr) = some ad → ∀ j u, (stCells (M.drop k))[j]? = some u → (Z.alloc (.cells #[] 67)).cell? (ad.add j) = some u) := Lib.hid (fun ad h j u hu => drop_new hownZ.out h hk j u hu)
              go_wp2_with (at_builtin; go_loud (refine wpList_append_from _ rfl _ _ 22 rfl Z.heap.size 67 i0 zeroS.val 9 136 Tryz.underlying22 hi0 hz0 hz1 hz2 rfl (by decide) _ _ _ rfl (own_empty Z _ 9) (some ⟨g1, k * 9, none⟩) (M.length - k) (c - k) (stCells (M.drop k)) rfl (drop_cells M k) (fun h => by cases h) Hc.out (stCells_one _) (by unfold maxLen; omega) (by omega) (by simp) ?_))
              intro v7 w3 hown7 hgrow7
              have hb3 : Below Z.heap.size Z w3 := ((Below.refl _ _).alloc (Nat.le_refl _) _).grown hgrow7 (by simp) (fun k hk => by simp [Value.ownBlock] at hk; omega)
              try simp only [Nat.zero_add, List.nil_append] at hown7
              obtain ⟨A7, c7, rfl, hat7⟩ := at_drop (M := M) (k := k) hown7
              have HA7 := Lib.hid hat7
              have hown3 := Lib.hid (own_keep hownZ.out hb3)
              have hz3 := hb3.size
              have e0 := (hb3.cell (p := ⟨wr.heap.size, 0, none⟩) hszZ).trans e0
              have e1 := (hb3.cell (p := ⟨wr.heap.size, 1, none⟩) hszZ).trans e1
              have e2 := (hb3.cell (p := ⟨wr.heap.size, 2, none⟩) hszZ).trans e2
              have e3 := (hb3.cell (p := ⟨wr.heap.size, 3, none⟩) hszZ).trans e3
              have e4 := (hb3.cell (p := ⟨wr.heap.size, 4, none⟩) hszZ).trans e4
              have e5 := (hb3.cell (p := ⟨wr.heap.size, 5, none⟩) hszZ).trans e5
              have e6 := (hb3.cell (p := ⟨wr.heap.size, 6, none⟩) hszZ).trans e6
              have e7 := (hb3.cell (p := ⟨wr.heap.size, 7, none⟩) hszZ).trans e7
              have e8 := (hb3.cell (p := ⟨wr.heap.size, 8, none⟩) hszZ).trans e8
              have hbY := Lib.hid (hbZ.out.trans (hb3.mono (by omega)))
              have hol : Hid (∀ b, (some ⟨g1, 0, none⟩ : Option Addr) = some b → ∀ j u, (stCells (M.take k))[j]? = some u → (w3.drew.alloc (.cells #[.int .i64 k1, .string ho, .string hn, .string wh, .string ao, .string an, .string bo, .string bn, .string v] 67)).cell? (b.add j) = some u) := Lib.hid (olds_at hown3.out hk)
              have hnw := Lib.hid (new_at w3.drew ⟨k1, ⟨ho, hn⟩, wh, ⟨ao, an⟩, ⟨bo, bn⟩, v⟩)
              skip
              clear hown7 hgrow7 hat7 hown3 hownZ hb3 Hc
              go_wp2_with fail
              go_region_law (first | (refine step_append_grows rfl (.tmp 39) (.tmp 41) 22 rfl 67 i0 zeroS.val 9 136 Tryz.underlying22 hi0 hz0 hz1 hz2 rfl (by decide) (some ⟨g1, 0, none⟩) k k (stCells (M.take k)) (by simp [Act.eval]) (fun h => by cases h) (take_cells M k hk) (hol.out) ⟨w3.heap.size, 0, none⟩ 1 1 (St.cells ⟨k1, ⟨ho, hn⟩, wh, ⟨ao, an⟩, ⟨bo, bn⟩, v⟩) (by simp [Act.eval]) rfl hnw.out (SynDA.stcell_one _) (by omega) (by unfold maxLen; omega) (by omega) ?_; intro v4 w4 hown4 hgrow4) | (refine step_append_from rfl (.tmp 42) (.tmp 43) 22 rfl (w3.drew.alloc (.cells #[.int .i64 k1, .string ho, .string hn, .string wh, .string ao, .string an, .string bo, .string bn, .string v] 67)).heap.size 67 i0 zeroS.val 9 136 Tryz.underlying22 hi0 hz0 hz1 hz2 rfl (by decide) v4 (k + 1) (stCells (M.take k) ++ St.cells ⟨k1, ⟨ho, hn⟩, wh, ⟨ao, an⟩, ⟨bo, bn⟩, v⟩) (by simp [Act.eval]) hown4 A7 (M.length - k) c7 (stCells (M.drop k)) (by simp [Act.eval]) (drop_cells M k) (rest_none HA7.out) (rest_at HA7.out hgrow4) (stCells_one _) (by unfold maxLen; omega) (by omega) (by have := hgrow4.size; exact this) ?_; intro v5 w5 hown5 hgrow5))
              all_goals
                obtain ⟨A5, c5, rfl, hF⟩ := own_put (B := w.heap.size) hown5 hk (hstep.out.trans hins.out) (by simp; omega)
                have hFin := Lib.hid (below_fin hbY.out (by omega) hown4 hgrow4 hgrow5)
                go_wp2_with fail
                go_roundg (L.length - (i + 1))
                case measure => omega
                case rel => exact ⟨i + 1, c5, A5, by omega, Nat.le_refl _, by go_num, rfl, Lib.hid hF, hFin.out⟩
          · have hins := Lib.hid (insL_at (c := cmpS) ⟨k1, ⟨ho, hn⟩, wh, ⟨ao, an⟩, ⟨bo, bn⟩, v⟩ M k hk hall.out (fun h => absurd h hkl))
            have d1 : decide ((k : Int) < M.length) = false := by simp; omega
            clear hall HGm
            go_wp2_with fail
            have gC := grow_cell
            go_quiet_grown (fail)
            clear gC
            have hke : M.length ≤ k := by omega
            rcases own_ways hownW.out with ⟨rfl, rfl, h0⟩ | ⟨g1, rfl⟩
            · obtain rfl : M = [] := List.eq_nil_of_length_eq_zero h0
              obtain rfl : k = 0 := by simpa using hk
              clear hkl d1 hke h0
              have hZ := Grew.mk W nq osq
              have e0 := (hZ.cell (a := ⟨wr.heap.size, 0, none⟩) hszW).trans f0
              have e1 := (hZ.cell (a := ⟨wr.heap.size, 1, none⟩) hszW).trans f1
              have e2 := (hZ.cell (a := ⟨wr.heap.size, 2, none⟩) hszW).trans f2
              have e3 := (hZ.cell (a := ⟨wr.heap.size, 3, none⟩) hszW).trans f3
              have e4 := (hZ.cell (a := ⟨wr.heap.size, 4, none⟩) hszW).trans f4
              have e5 := (hZ.cell (a := ⟨wr.heap.size, 5, none⟩) hszW).trans f5
              have e6 := (hZ.cell (a := ⟨wr.heap.size, 6, none⟩) hszW).trans f6
              have e7 := (hZ.cell (a := ⟨wr.heap.size, 7, none⟩) hszW).trans f7
              have e8 := (hZ.cell (a := ⟨wr.heap.size, 8, none⟩) hszW).trans f8
              have hownZ := Lib.hid (own_keep hownW.out hZ.below)
              have hbZ := Lib.hid (hbX.out.trans (hZ.below.mono (by omega)))
              have hszZ : wr.heap.size < (grow (W.drewN nq) osq).heap.size := Nat.lt_of_lt_of_le hszW hZ.size
              clear hZ f0 f1 f2 f3 f4 f5 f6 f7 f8 hownW hbX hszW
              generalize grow (W.drewN nq) osq = Z at *
              obtain ⟨i0, hi0, hz0, hz1, hz2⟩ := HI.out
              skip
              have Hc : Hid (∀ ad, (none : Option Addr) = some ad → ∀ j u, (stCells (([] : List St).drop 0))[j]? = some u → (Z.alloc (.cells #[] 67)).cell? (ad.add j) = some u) := Lib.hid (fun ad h => by cases h)
              go_wp2_with (at_builtin; go_loud (refine wpList_append_from _ rfl _ _ 22 rfl Z.heap.size 67 i0 zeroS.val 9 136 Tryz.underlying22 hi0 hz0 hz1 hz2 rfl (by decide) _ _ _ rfl (own_empty Z _ 9) (none) (([] : List St).length - 0) (0) (stCells (([] : List St).drop 0)) rfl (drop_cells ([] : List St) 0) (fun h => rfl) Hc.out (stCells_one _) (by unfold maxLen; omega) (by omega) (by simp) ?_))
              intro v7 w3 hown7 hgrow7
              have hb3 : Below Z.heap.size Z w3 := ((Below.refl _ _).alloc (Nat.le_refl _) _).grown hgrow7 (by simp) (fun k hk => by simp [Value.ownBlock] at hk; omega)
              try simp only [Nat.zero_add, List.nil_append] at hown7
              obtain ⟨A7, c7, rfl, hat7⟩ := at_drop (M := ([] : List St)) (k := 0) hown7
              have HA7 := Lib.hid hat7
              have hown3 := Lib.hid (own_keep hownZ.out hb3)
              have hz3 := hb3.size
              have e0 := (hb3.cell (p := ⟨wr.heap.size, 0, none⟩) hszZ).trans e0
              have e1 := (hb3.cell (p := ⟨wr.heap.size, 1, none⟩) hszZ).trans e1
              have e2 := (hb3.cell (p := ⟨wr.heap.size, 2, none⟩) hszZ).trans e2
              have e3 := (hb3.cell (p := ⟨wr.heap.size, 3, none⟩) hszZ).trans e3
              have e4 := (hb3.cell (p := ⟨wr.heap.size, 4, none⟩) hszZ).trans e4
              have e5 := (hb3.cell (p := ⟨wr.heap.size, 5, none⟩) hszZ).trans e5
              have e6 := (hb3.cell (p := ⟨wr.heap.size, 6, none⟩) hszZ).trans e6
              have e7 := (hb3.cell (p := ⟨wr.heap.size, 7, none⟩) hszZ).trans e7
              have e8 := (hb3.cell (p := ⟨wr.heap.size, 8, none⟩) hszZ).trans e8
              have hbY := Lib.hid (hbZ.out.trans (hb3.mono (by omega)))
              have hol : Hid (∀ b, (none : Option Addr) = some b → ∀ j u, (stCells (([] : List St).take 0))[j]? = some u → (w3.drew.alloc (.cells #[.int .i64 k1, .string ho, .string hn, .string wh, .string ao, .string an, .string bo, .string bn, .string v] 67)).cell? (b.add j) = some u) := Lib.hid (olds_at hown3.out hk)
              have hnw := Lib.hid (new_at w3.drew ⟨k1, ⟨ho, hn⟩, wh, ⟨ao, an⟩, ⟨bo, bn⟩, v⟩)
              skip
              clear hown7 hgrow7 hat7 hown3 hownZ hb3 Hc
              go_wp2_with fail
              go_region_law (first | (refine step_append_grows rfl (.tmp 39) (.tmp 41) 22 rfl 67 i0 zeroS.val 9 136 Tryz.underlying22 hi0 hz0 hz1 hz2 rfl (by decide) (none) 0 0 (stCells (([] : List St).take 0)) (by simp [Act.eval]) (fun _ => ⟨rfl, rfl⟩) (take_cells ([] : List St) 0 hk) (fun b h => by cases h) ⟨w3.heap.size, 0, none⟩ 1 1 (St.cells ⟨k1, ⟨ho, hn⟩, wh, ⟨ao, an⟩, ⟨bo, bn⟩, v⟩) (by simp [Act.eval]) rfl hnw.out (SynDA.stcell_one _) (by omega) (by unfold maxLen; omega) (by omega) ?_; intro v4 w4 hown4 hgrow4) | (refine step_append_from rfl (.tmp 42) (.tmp 43) 22 rfl (w3.drew.alloc (.cells #[.int .i64 k1, .string ho, .string hn, .string wh, .string ao, .string an, .string bo, .string bn, .string v] 67)).heap.size 67 i0 zeroS.val 9 136 Tryz.underlying22 hi0 hz0 hz1 hz2 rfl (by decide) v4 (0 + 1) (stCells (([] : List St).take 0) ++ St.cells ⟨k1, ⟨ho, hn⟩, wh, ⟨ao, an⟩, ⟨bo, bn⟩, v⟩) (by simp [Act.eval]) hown4 A7 (([] : List St).length - 0) c7 (stCells (([] : List St).drop 0)) (by simp [Act.eval]) (drop_cells ([] : List St) 0) (rest_none HA7.out) (rest_at HA7.out hgrow4) (stCells_one _) (by unfold maxLen; omega) (by omega) (by have := hgrow4.size; exact this) ?_; intro v5 w5 hown5 hgrow5))
              all_goals
                obtain ⟨A5, c5, rfl, hF⟩ := own_put (B := w.heap.size) hown5 hk (hstep.out.trans hins.out) (by simp; omega)
                have hFin := Lib.hid (below_fin hbY.out (by omega) hown4 hgrow4 hgrow5)
                go_wp2_with fail
                go_roundg (L.length - (i + 1))
                case measure => omega
                case rel => exact ⟨i + 1, c5, A5, by omega, Nat.le_refl _, by go_num, rfl, Lib.hid hF, hFin.out⟩
            · by_cases hkc : k = c
              · subst hkc
                have hnil : M.drop k = [] := List.drop_of_length_le hke
                have HNIL := Lib.hid hnil
                clear hkl d1 hke hnil
                have hZ := Grew.mk W nq osq
                have e0 := (hZ.cell (a := ⟨wr.heap.size, 0, none⟩) hszW).trans f0
                have e1 := (hZ.cell (a := ⟨wr.heap.size, 1, none⟩) hszW).trans f1
                have e2 := (hZ.cell (a := ⟨wr.heap.size, 2, none⟩) hszW).trans f2
                have e3 := (hZ.cell (a := ⟨wr.heap.size, 3, none⟩) hszW).trans f3
                have e4 := (hZ.cell (a := ⟨wr.heap.size, 4, none⟩) hszW).trans f4
                have e5 := (hZ.cell (a := ⟨wr.heap.size, 5, none⟩) hszW).trans f5
                have e6 := (hZ.cell (a := ⟨wr.heap.size, 6, none⟩) hszW).trans f6
                have e7 := (hZ.cell (a := ⟨wr.heap.size, 7, none⟩) hszW).trans f7
                have e8 := (hZ.cell (a := ⟨wr.heap.size, 8, none⟩) hszW).trans f8
                have hownZ := Lib.hid (own_keep hownW.out hZ.below)
                have hbZ := Lib.hid (hbX.out.trans (hZ.below.mono (by omega)))
                have hszZ : wr.heap.size < (grow (W.drewN nq) osq).heap.size := Nat.lt_of_lt_of_le hszW hZ.size
                clear hZ f0 f1 f2 f3 f4 f5 f6 f7 f8 hownW hbX hszW
                generalize grow (W.drewN nq) osq = Z at *
                obtain ⟨i0, hi0, hz0, hz1, hz2⟩ := HI.out
                skip
                have Hc : Hid (∀ ad, (some ⟨g1, 0, none⟩ : Option Addr) = some ad → ∀ j u, (stCells (M.drop k))[j]? = some u → (Z.alloc (.cells #[] 67)).cell? (ad.add j) = some u) := Lib.hid (fun ad h j u hu => by rw [HNIL.out] at hu; simp [stCells] at hu)
                go_wp2_with (at_builtin; go_loud (refine wpList_append_from _ rfl _ _ 22 rfl Z.heap.size 67 i0 zeroS.val 9 136 Tryz.underlying22 hi0 hz0 hz1 hz2 rfl (by decide) _ _ _ rfl (own_empty Z _ 9) (some ⟨g1, 0, none⟩) (M.length - k) (0) (stCells (M.drop k)) rfl (drop_cells M k) (fun h => by cases h) Hc.out (stCells_one _) (by unfold maxLen; omega) (by omega) (by simp) ?_))
                intro v7 w3 hown7 hgrow7
                have hb3 : Below Z.heap.size Z w3 := ((Below.refl _ _).alloc (Nat.le_refl _) _).grown hgrow7 (by simp) (fun k hk => by simp [Value.ownBlock] at hk; omega)
                try simp only [Nat.zero_add, List.nil_append] at hown7
                obtain ⟨A7, c7, rfl, hat7⟩ := at_drop (M := M) (k := k) hown7
                have HA7 := Lib.hid hat7
                have hown3 := Lib.hid (own_keep hownZ.out hb3)
                have hz3 := hb3.size
                have e0 := (hb3.cell (p := ⟨wr.heap.size, 0, none⟩) hszZ).trans e0
                have e1 := (hb3.cell (p := ⟨wr.heap.size, 1, none⟩) hszZ).trans e1
                have e2 := (hb3.cell (p := ⟨wr.heap.size, 2, none⟩) hszZ).trans e2
                have e3 := (hb3.cell (p := ⟨wr.heap.size, 3, none⟩) hszZ).trans e3
                have e4 := (hb3.cell (p := ⟨wr.heap.size, 4, none⟩) hszZ).trans e4
                have e5 := (hb3.cell (p := ⟨wr.heap.size, 5, none⟩) hszZ).trans e5
                have e6 := (hb3.cell (p := ⟨wr.heap.size, 6, none⟩) hszZ).trans e6
                have e7 := (hb3.cell (p := ⟨wr.heap.size, 7, none⟩) hszZ).trans e7
                have e8 := (hb3.cell (p := ⟨wr.heap.size, 8, none⟩) hszZ).trans e8
                have hbY := Lib.hid (hbZ.out.trans (hb3.mono (by omega)))
                have hol : Hid (∀ b, (some ⟨g1, 0, none⟩ : Option Addr) = some b → ∀ j u, (stCells (M.take k))[j]? = some u → (w3.drew.alloc (.cells #[.int .i64 k1, .string ho, .string hn, .string wh, .string ao, .string an, .string bo, .string bn, .string v] 67)).cell? (b.add j) = some u) := Lib.hid (olds_at hown3.out hk)
                have hnw := Lib.hid (new_at w3.drew ⟨k1, ⟨ho, hn⟩, wh, ⟨ao, an⟩, ⟨bo, bn⟩, v⟩)
                skip
                clear hown7 hgrow7 hat7 hown3 hownZ hb3 Hc
                go_wp2_with fail
                go_region_law (first | (refine step_append_grows rfl (.tmp 39) (.tmp 41) 22 rfl 67 i0 zeroS.val 9 136 Tryz.underlying22 hi0 hz0 hz1 hz2 rfl (by decide) (some ⟨g1, 0, none⟩) k k (stCells (M.take k)) (by simp [Act.eval]) (fun h => by cases h) (take_cells M k hk) (hol.out) ⟨w3.heap.size, 0, none⟩ 1 1 (St.cells ⟨k1, ⟨ho, hn⟩, wh, ⟨ao, an⟩, ⟨bo, bn⟩, v⟩) (by simp [Act.eval]) rfl hnw.out (SynDA.stcell_one _) (by omega) (by unfold maxLen; omega) (by omega) ?_; intro v4 w4 hown4 hgrow4) | (refine step_append_from rfl (.tmp 42) (.tmp 43) 22 rfl (w3.drew.alloc (.cells #[.int .i64 k1, .string ho, .string hn, .string wh, .string ao, .string an, .string bo, .string bn, .string v] 67)).heap.size 67 i0 zeroS.val 9 136 Tryz.underlying22 hi0 hz0 hz1 hz2 rfl (by decide) v4 (k + 1) (stCells (M.take k) ++ St.cells ⟨k1, ⟨ho, hn⟩, wh, ⟨ao, an⟩, ⟨bo, bn⟩, v⟩) (by simp [Act.eval]) hown4 A7 (M.length - k) c7 (stCells (M.drop k)) (by simp [Act.eval]) (drop_cells M k) (rest_none HA7.out) (rest_at HA7.out hgrow4) (stCells_one _) (by unfold maxLen; omega) (by omega) (by have := hgrow4.size; exact this) ?_; intro v5 w5 hown5 hgrow5))
                all_goals
                  obtain ⟨A5, c5, rfl, hF⟩ := own_put (B := w.heap.size) hown5 hk (hstep.out.trans hins.out) (by simp; omega)
                  have hFin := Lib.hid (below_fin hbY.out (by omega) hown4 hgrow4 hgrow5)
                  go_wp2_with fail
                  go_roundg (L.length - (i + 1))
                  case measure => omega
                  case rel => exact ⟨i + 1, c5, A5, by omega, Nat.le_refl _, by go_num, rfl, Lib.hid hF, hFin.out⟩
              · have hkc2 : k ≤ c := by have := cap_le hownW.out; omega
                have hkc3 : k < c := by omega
                clear hkl d1 hke hkc
                have hZ := Grew.mk W nq osq
                have e0 := (hZ.cell (a := ⟨wr.heap.size, 0, none⟩) hszW).trans f0
                have e1 := (hZ.cell (a := ⟨wr.heap.size, 1, none⟩) hszW).trans f1
                have e2 := (hZ.cell (a := ⟨wr.heap.size, 2, none⟩) hszW).trans f2
                have e3 := (hZ.cell (a := ⟨wr.heap.size, 3, none⟩) hszW).trans f3
                have e4 := (hZ.cell (a := ⟨wr.heap.size, 4, none⟩) hszW).trans f4
                have e5 := (hZ.cell (a := ⟨wr.heap.size, 5, none⟩) hszW).trans f5
                have e6 := (hZ.cell (a := ⟨wr.heap.size, 6, none⟩) hszW).trans f6
                have e7 := (hZ.cell (a := ⟨wr.heap.size, 7, none⟩) hszW).trans f7
                have e8 := (hZ.cell (a := ⟨wr.heap.size, 8, none⟩) hszW).trans f8
                have hownZ := Lib.hid (own_keep hownW.out hZ.below)
                have hbZ := Lib.hid (hbX.out.trans (hZ.below.mono (by omega)))
                have hszZ : wr.heap.size < (grow (W.drewN nq) osq).heap.size := Nat.lt_of_lt_of_le hszW hZ.size
                clear hZ f0 f1 f2 f3 f4 f5 f6 f7 f8 hownW hbX hszW
                generalize grow (W.drewN nq) osq = Z at *
                obtain ⟨i0, hi0, hz0, hz1, hz2⟩ := HI.out
                skip
                have Hc : Hid (∀ ad, (some ⟨g1, k * 9, none⟩ : Option Addr) = some ad → ∀ j u, (stCells (M.drop k))[j]? = some u → (Z.alloc (.cells #[] 67)).cell? (ad.add j) = some u) := Lib.hid (fun ad h j u hu => drop_new hownZ.out h hk j u hu)
                go_wp2_with (at_builtin; go_loud (refine wpList_append_from _ rfl _ _ 22 rfl Z.heap.size 67 i0 zeroS.val 9 136 Tryz.underlying22 hi0 hz0 hz1 hz2 rfl (by decide) _ _ _ rfl (own_empty Z _ 9) (some ⟨g1, k * 9, none⟩) (M.length - k) (c - k) (stCells (M.drop k)) rfl (drop_cells M k) (fun h => by cases h) Hc.out (stCells_one _) (by unfold maxLen; omega) (by omega) (by simp) ?_))
                intro v7 w3 hown7 hgrow7
                have hb3 : Below Z.heap.size Z w3 := ((Below.refl _ _).alloc (Nat.le_refl _) _).grown hgrow7 (by simp) (fun k hk => by simp [Value.ownBlock] at hk; omega)
                try simp only [Nat.zero_add, List.nil_append] at hown7
                obtain ⟨A7, c7, rfl, hat7⟩ := at_drop (M := M) (k := k) hown7
                have HA7 := Lib.hid hat7
                have hown3 := Lib.hid (own_keep hownZ.out hb3)
                have hz3 := hb3.size
                have e0 := (hb3.cell (p := ⟨wr.heap.size, 0, none⟩) hszZ).trans e0
                have e1 := (hb3.cell (p := ⟨wr.heap.size, 1, none⟩) hszZ).trans e1
                have e2 := (hb3.cell (p := ⟨wr.heap.size, 2, none⟩) hszZ).trans e2
                have e3 := (hb3.cell (p := ⟨wr.heap.size, 3, none⟩) hszZ).trans e3
                have e4 := (hb3.cell (p := ⟨wr.heap.size, 4, none⟩) hszZ).trans e4
                have e5 := (hb3.cell (p := ⟨wr.heap.size, 5, none⟩) hszZ).trans e5
                have e6 := (hb3.cell (p := ⟨wr.heap.size, 6, none⟩) hszZ).trans e6
                have e7 := (hb3.cell (p := ⟨wr.heap.size, 7, none⟩) hszZ).trans e7
                have e8 := (hb3.cell (p := ⟨wr.heap.size, 8, none⟩) hszZ).trans e8
                have hbY := Lib.hid (hbZ.out.trans (hb3.mono (by omega)))
                have hol : Hid (∀ b, (some ⟨g1, 0, none⟩ : Option Addr) = some b → ∀ j u, (stCells (M.take k))[j]? = some u → (w3.drew.alloc (.cells #[.int .i64 k1, .string ho, .string hn, .string wh, .string ao, .string an, .string bo, .string bn, .string v] 67)).cell? (b.add j) = some u) := Lib.hid (olds_at hown3.out hk)
                have hnw := Lib.hid (new_at w3.drew ⟨k1, ⟨ho, hn⟩, wh, ⟨ao, an⟩, ⟨bo, bn⟩, v⟩)
                skip
                clear hown7 hgrow7 hat7 hown3 hownZ hb3 Hc
                go_wp2_with fail
                go_region_law (first | (refine step_append_grows rfl (.tmp 39) (.tmp 41) 22 rfl 67 i0 zeroS.val 9 136 Tryz.underlying22 hi0 hz0 hz1 hz2 rfl (by decide) (some ⟨g1, 0, none⟩) k k (stCells (M.take k)) (by simp [Act.eval]) (fun h => by cases h) (take_cells M k hk) (hol.out) ⟨w3.heap.size, 0, none⟩ 1 1 (St.cells ⟨k1, ⟨ho, hn⟩, wh, ⟨ao, an⟩, ⟨bo, bn⟩, v⟩) (by simp [Act.eval]) rfl hnw.out (SynDA.stcell_one _) (by omega) (by unfold maxLen; omega) (by omega) ?_; intro v4 w4 hown4 hgrow4) | (refine step_append_from rfl (.tmp 42) (.tmp 43) 22 rfl (w3.drew.alloc (.cells #[.int .i64 k1, .string ho, .string hn, .string wh, .string ao, .string an, .string bo, .string bn, .string v] 67)).heap.size 67 i0 zeroS.val 9 136 Tryz.underlying22 hi0 hz0 hz1 hz2 rfl (by decide) v4 (k + 1) (stCells (M.take k) ++ St.cells ⟨k1, ⟨ho, hn⟩, wh, ⟨ao, an⟩, ⟨bo, bn⟩, v⟩) (by simp [Act.eval]) hown4 A7 (M.length - k) c7 (stCells (M.drop k)) (by simp [Act.eval]) (drop_cells M k) (rest_none HA7.out) (rest_at HA7.out hgrow4) (stCells_one _) (by unfold maxLen; omega) (by omega) (by have := hgrow4.size; exact this) ?_; intro v5 w5 hown5 hgrow5))
                all_goals
                  obtain ⟨A5, c5, rfl, hF⟩ := own_put (B := w.heap.size) hown5 hk (hstep.out.trans hins.out) (by simp; omega)
                  have hFin := Lib.hid (below_fin hbY.out (by omega) hown4 hgrow4 hgrow5)
                  go_wp2_with fail
                  go_roundg (L.length - (i + 1))
                  case measure => omega
                  case rel => exact ⟨i + 1, c5, A5, by omega, Nat.le_refl _, by go_num, rfl, Lib.hid hF, hFin.out⟩
    · obtain rfl : i = L.length := by omega
      have hfin : Hid (SortPost L w (.returned (.slice A (sortL cmpS [] L).length c)) wr) := Lib.hid (by
        have h := hown.out
        rw [List.take_of_length_le (Nat.le_refl _)] at h
        obtain ⟨A', c', e, _, hr⟩ := StRow.of_own h
        injection e with e1 e2 e3
        subst e1
        exact ⟨A, c, rfl, hr, hbel⟩)
      have hlen : Hid (sortL cmpS [] (L.take L.length) = sortL cmpS [] L) := Lib.hid (by rw [List.take_of_length_le (Nat.le_refl _)])
      rw [hlen.out]
      clear hown hlen
      go_wp2_with fail
      go_ret
      exact hfin.out
end Go.Proofs.YtblapgfilbmdhaaGreatDoor.SynDB
