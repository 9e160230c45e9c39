/- The document's SortRoles, by contract. -/
import Derived.Test.YtpjacngbkohmdaaM30
import Derived.Test.YtpjacngbkohmdaaM03
import Derived.Test.YtpjacngbkohmdaaM09
import Derived.Deep.LoopGhost
import Derived.OwnWalk
import Derived.WalkSpells
namespace Go.Proofs.Ytpjacngbkohmdaa.RolB
set_option linter.unusedVariables false
set_option linter.unusedSimpArgs false
open Go.RowKit Go.Sort Go.Lib Go.Proofs Go.Proofs.Ytpjacngbkohmdaa.Plain Go.Proofs.Ytpjacngbkohmdaa.SynP Go.Proofs.Ytpjacngbkohmdaa.Grown Go.Proofs.Ytpjacngbkohmdaa.SynC Go.Proofs.Ytpjacngbkohmdaa.SynD Go.Proofs.Ytpjacngbkohmdaa.SynS Go.Proofs.Ytpjacngbkohmdaa.SynJ Go.Proofs.Ytpjacngbkohmdaa.PolA Go.Proofs.Ytpjacngbkohmdaa.RolA
open Go.Proofs.Ytpjacngbkohmdaa.SynDA (sortL_snoc insL_len sortL_len insL_at own_keep own_more own_form step_append_from)
set_option linter.unusedVariables false
set_option linter.unusedSimpArgs false
def SortPost (L : List Rl) (w : World) (e : Ending) (w' : World) : Prop := ∃ A c, e = .returned (.slice A (sortL cmpR [] L).length c) ∧ RAt w' A (sortL cmpR [] L) ∧ Below w.heap.size w w'
set_option maxHeartbeats 4000000 in
set_option maxRecDepth 1000000 in
theorem sortRef (A0 : Option Addr) (ca : Nat) (L : List Rl) (w : World) (hL : L.length ≤ 1000) (hA : RF w A0 L) : Calls Try.prog 53 #[.slice A0 L.length ca] w (SortPost L w) := by
  have hm : Try.prog.follows .mixedOrders = true := by kernel_rfl
  have HA := Lib.hid hA
  have HI := Lib.hid (info_parts infoRole)
  clear hA
  go_enter Try.func53, Try.ntmps53
  go_wp2_with fail
  go_loopg [3, 10] L.length (fun gh u3 u10 wr => ∃ (i c : Nat) (A : Option Addr), i ≤ L.length ∧ L.length - i ≤ gh ∧ u10 = .int .i64 i ∧ u3 = .slice A (sortL cmpR [] (L.take i)).length c ∧ Hid (wr.ownsRow w.heap.size 24 2 (.slice A (sortL cmpR [] (L.take i)).length c) (sortL cmpR [] (L.take i)).length (rcells (sortL cmpR [] (L.take i)))) ∧ Below w.heap.size w wr)
  case atStart => exact ⟨0, 0, none, by omega, by omega, rfl, by simp [sortL], Lib.hid (by simpa [sortL, rcells] using World.ownsRow_nil w w.heap.size 24 2), Below.refl _ _⟩
  case round =>
    obtain ⟨i, c, A, hi, hgh, rfl, rfl, hown, hbel⟩ := hrel
    by_cases hlt : i < L.length
    · obtain ⟨g0, o0, rfl, hg0, hc0⟩ := (HA.out.below hbel).nine i hlt
      have hsn : sortL cmpR [] (L.take (i + 1)) = if L[i] ∈ sortL cmpR [] (L.take i) then sortL cmpR [] (L.take i) else insL cmpR L[i] (sortL cmpR [] (L.take i)) := by
        rw [List.take_succ_eq_append_getElem hlt, sortL_snoc]
      have hle : (sortL cmpR [] (L.take i)).length ≤ 1000 := by
        have := sortL_len (c := cmpR) (L.take i) []
        rw [List.length_take] at this
        simp at this; omega
      generalize hM : sortL cmpR [] (L.take i) = M at *
      generalize hs : L[i] = s at *
      obtain ⟨ho, hn⟩ := s
      have HN := Lib.hid hsn
      have HM := Lib.hid hM
      have HS := Lib.hid hs
      clear hsn hM hs
      have a0 := hc0 0 _ rfl
      have a1 := hc0 1 _ rfl
      rw [Nat.add_zero] at a0
      simp only [← Nat.add_assoc] at a1
      have p1 : (0 : Int) ≤ i := by omega
      have p2 : (i : Int) < L.length := by omega
      clear hc0
      go_wp2_with fail
      have hO := own_keep hown.out (Below.refl _ _)
      have HR : ∀ w', Below wr.heap.size wr w' → RAt w' A M := fun w' hb => by
        obtain ⟨A', c', e, hr⟩ := rat_own (own_keep hown.out hb)
        injection e with e1 e2 e3
        subst e1; exact hr
      have HRW := Lib.hid HR
      have hX : Below wr.heap.size wr (wr.alloc (.cells #[.string ho, .string hn] 24)) := (Below.refl _ _).alloc (Nat.le_refl _) _
      have HC := Lib.hid (hasRef A c M ⟨ho, hn⟩ (wr.alloc (.cells #[.string ho, .string hn] 24)) hle (HRW.out _ hX))
      clear HR hO
      by_cases hmem : (⟨ho, hn⟩ : Rl) ∈ M
      · rw [decide_eq_true hmem] at HC
        have hstep := Lib.hid (HN.out.trans (if_pos hmem))
        clear hmem HN
        refine HC.out.mono ?_
        rintro e w2 ⟨rfl, hb2⟩
        have hbA := hX.trans (hb2.mono (by simp))
        go_wp2_with fail
        go_roundg (L.length - (i + 1))
        case measure => omega
        case rel =>
          refine ⟨i + 1, c, A, by omega, Nat.le_refl _, by go_num, by rw [hstep.out], ?_, hbel.trans (hbA.mono hbel.size)⟩
          rw [hstep.out]
          exact Lib.hid (own_keep hown.out hbA)
      · rw [decide_eq_false hmem] at HC
        have hstep := Lib.hid (HN.out.trans (if_neg hmem))
        clear hmem HN
        refine HC.out.mono ?_
        rintro e w2 ⟨rfl, hb2⟩
        have hbA := hX.trans (hb2.mono (by simp))
        have hown2 := Lib.hid (own_keep hown.out hbA)
        have hrow2 := Lib.hid (HRW.out _ hbA)
        have hsz2 : wr.heap.size < w2.heap.size := by have := hb2.size; simp at this; omega
        have hbox : ∀ o, w2.cell? ⟨wr.heap.size, o, none⟩ = (#[.string ho, .string hn] : Array Value)[o]? := fun o => (hb2.cell (p := ⟨wr.heap.size, o, none⟩) (by simp)).trans (Lib.cell_of_heap (heap_alloc_new wr _) o)
        have c0 := hbox 0
        have c1 := hbox 1
        simp only [List.getElem?_toArray, List.getElem?_cons_zero, List.getElem?_cons_succ] at c0 c1
        have hbW := Lib.hid (hbel.trans (hbA.mono hbel.size))
        have hwr := hbel.size
        clear hbox HC hX a0 a1 hb2 hbA HRW hown hbel
        go_wp2_with fail
        go_loopg [6] M.length (fun gk u6 wr2 => ∃ (k m : Nat) (os : Array Obj), u6 = .int .i64 k ∧ k ≤ M.length ∧ M.length - k ≤ gk ∧ wr2 = grow (w2.drewN m) os ∧ Hid (∀ j, j < k → (h : j < M.length) → cmpR M[j] ⟨ho, hn⟩ < 0))
        case atStart => exact ⟨0, 0, #[], rfl, by omega, by omega, by rw [grow_empty]; rfl, Lib.hid (fun j hj => by omega)⟩
        case round =>
          obtain ⟨k, m, os, rfl, hk, hgk, rfl, hall⟩ := hrel
          have hG := Grew.mk w2 m os
          have f0 := (hG.cell (a := ⟨wr.heap.size, 0, none⟩) hsz2).trans c0
          have f1 := (hG.cell (a := ⟨wr.heap.size, 1, none⟩) hsz2).trans c1
          have hownW := Lib.hid (own_keep hown2.out hG.below)
          have hbX := Lib.hid (hbW.out.trans (hG.below.mono (by omega)))
          have hrowW := hrow2.out.below hG.below
          have hszW : wr.heap.size < (grow (w2.drewN m) os).heap.size := Nat.lt_of_lt_of_le hsz2 hG.size
          have HGm := Lib.hid (⟨m, os, rfl⟩ : ∃ m' os', grow (w2.drewN m) os = grow (w2.drewN m') os')
          clear c0 c1 hG
          generalize grow (w2.drewN m) os = W at *
          by_cases hkl : k < M.length
          · obtain ⟨g1, rfl, hg1, hcc⟩ := hrowW (by omega)
            obtain ⟨b0, b1⟩ := hcc k hkl
            have d1 : decide ((k : Int) < M.length) = true := by simp; omega
            have q1 : (0 : Int) ≤ k := by omega
            have q2 : (k : Int) < M.length := by omega
            have hB := Lib.hid (fun w' => Syn2.lessRef M[k] ⟨ho, hn⟩ w')
            clear hcc hrowW
            by_cases hv : cmpR M[k] ⟨ho, hn⟩ < 0
            · rw [decide_eq_true hv] at hB
              have hnext : Hid (∀ j, j < k + 1 → (h : j < M.length) → cmpR M[j] ⟨ho, hn⟩ < 0) := Lib.hid (fun j hj h => by
                rcases Nat.lt_or_ge j k with h' | h'
                · exact hall.out j h' h
                · have : j = k := by omega
                  subst this; exact hv)
              clear hv hall
              go_wp2_with fail
              have gC := grow_cell
              go_quiet_grown ((go_at_call 36; exact grewCall (hB.out _)))
              clear gC
              go_wp2_with fail
              go_roundg (M.length - (k + 1))
              case measure => omega
              case rel =>
                obtain ⟨m', os', hGm⟩ := HGm.out
                exact ⟨k + 1, m' + nq, os' ++ osq, by go_num, by omega, Nat.le_refl _, by rw [hGm]; show grow (grow ((w2.drewN m').drewN nq) os') osq = _; rw [grow_grow, World.drewN_drewN], hnext⟩
            · rw [decide_eq_false hv] at hB
              have hins := Lib.hid (insL_at (c := cmpR) ⟨ho, hn⟩ M k hk hall.out (fun _ => hv))
              clear hv hall HGm
              go_wp2_with fail
              have gC := grow_cell
              go_quiet_grown ((go_at_call 36; exact grewCall (hB.out _)))
              clear gC
              have hZ := Grew.mk W nq osq
              have e0 := (hZ.cell (a := ⟨wr.heap.size, 0, none⟩) hszW).trans f0
              have e1 := (hZ.cell (a := ⟨wr.heap.size, 1, none⟩) hszW).trans f1
              have hownZ := Lib.hid (own_keep hownW.out hZ.below)
              have hbZ := Lib.hid (hbX.out.trans (hZ.below.mono (by omega)))
              have hszZ : wr.heap.size < (grow (W.drewN nq) osq).heap.size := Nat.lt_of_lt_of_le hszW hZ.size
              clear hZ f0 f1 hownW hbX hszW
              generalize grow (W.drewN nq) osq = Z at *
              obtain ⟨i0, hi0, hz0, hz1, hz2⟩ := HI.out
              have hkc : k < c := Nat.lt_of_lt_of_le hkl (cap_le hownZ.out)
              have hkc2 : k ≤ c := by omega
              have Hc : Hid (∀ ad, (some ⟨g1, k * 2, none⟩ : Option Addr) = some ad → ∀ j u, (rcells (M.drop k))[j]? = some u → (Z.alloc (.cells #[] 24)).cell? (ad.add j) = some u) := Lib.hid (fun ad h j u hu => drop_new hownZ.out h hk j u hu)
              go_wp2_with (at_builtin; go_loud (refine wpList_append_from _ rfl _ _ 37 rfl Z.heap.size 24 i0 (.agg #[.string ⟨#[]⟩, .string ⟨#[]⟩]) 2 32 Try.underlying37 hi0 hz0 hz1 hz2 rfl (by decide) _ _ _ rfl (own_empty Z _ 2) (some ⟨g1, k * 2, none⟩) (M.length - k) (c - k) (rcells (M.drop k)) rfl (drop_cells M k) (fun h => by cases h) Hc.out (rcells_one _) (by unfold maxLen; omega) (by omega) (by simp) ?_))
              intro v7 w3 hown7 hgrow7
              have hb3 : Below Z.heap.size Z w3 := ((Below.refl _ _).alloc (Nat.le_refl _) _).grown hgrow7 (by simp) (fun k hk => by simp [Value.ownBlock] at hk; omega)
              try simp only [Nat.zero_add, List.nil_append] at hown7
              obtain ⟨A7, c7, rfl, hat7⟩ := at_drop (M := M) (k := k) hown7
              have HA7 := Lib.hid hat7
              have hown3 := Lib.hid (own_keep hownZ.out hb3)
              have hz3 := hb3.size
              have e0 := (hb3.cell (p := ⟨wr.heap.size, 0, none⟩) hszZ).trans e0
              have e1 := (hb3.cell (p := ⟨wr.heap.size, 1, none⟩) hszZ).trans e1
              have hbY := Lib.hid (hbZ.out.trans (hb3.mono (by omega)))
              have hol : Hid (∀ b, (some ⟨g1, 0, none⟩ : Option Addr) = some b → ∀ j u, (rcells (M.take k))[j]? = some u → (w3.drew.alloc (.cells #[.string ho, .string hn] 24)).cell? (b.add j) = some u) := Lib.hid (olds_at hown3.out hk)
              have hnw := Lib.hid (new_at w3.drew ⟨ho, hn⟩)
              skip
              clear hown7 hgrow7 hat7 hown3 hownZ hb3 Hc
              go_wp2_with fail
              go_region_law (first | (refine step_append_grows rfl (.tmp 39) (.tmp 41) 37 rfl 24 i0 (.agg #[.string ⟨#[]⟩, .string ⟨#[]⟩]) 2 32 Try.underlying37 hi0 hz0 hz1 hz2 rfl (by decide) (some ⟨g1, 0, none⟩) k k (rcells (M.take k)) (by simp [Act.eval]) (fun h => by cases h) (take_cells M k hk) (hol.out) ⟨w3.heap.size, 0, none⟩ 1 1 (Rl.cells ⟨ho, hn⟩) (by simp [Act.eval]) rfl hnw.out (RolA.stcell_one _) (by omega) (by unfold maxLen; omega) (by omega) ?_; intro v4 w4 hown4 hgrow4) | (refine step_append_from rfl (.tmp 42) (.tmp 43) 37 rfl (w3.drew.alloc (.cells #[.string ho, .string hn] 24)).heap.size 24 i0 (.agg #[.string ⟨#[]⟩, .string ⟨#[]⟩]) 2 32 Try.underlying37 hi0 hz0 hz1 hz2 rfl (by decide) v4 (k + 1) (rcells (M.take k) ++ Rl.cells ⟨ho, hn⟩) (by simp [Act.eval]) hown4 A7 (M.length - k) c7 (rcells (M.drop k)) (by simp [Act.eval]) (drop_cells M k) (rest_none HA7.out) (rest_at HA7.out hgrow4) (rcells_one _) (by unfold maxLen; omega) (by omega) (by have := hgrow4.size; exact this) ?_; intro v5 w5 hown5 hgrow5))
              all_goals
                obtain ⟨A5, c5, rfl, hF⟩ := own_put (B := w.heap.size) hown5 hk (hstep.out.trans hins.out) (by simp; omega)
                have hFin := Lib.hid (below_fin hbY.out (by omega) hown4 hgrow4 hgrow5)
                go_wp2_with fail
                go_roundg (L.length - (i + 1))
                case measure => omega
                case rel => exact ⟨i + 1, c5, A5, by omega, Nat.le_refl _, by go_num, rfl, Lib.hid hF, hFin.out⟩
          · have hins := Lib.hid (insL_at (c := cmpR) ⟨ho, hn⟩ M k hk hall.out (fun h => absurd h hkl))
            have d1 : decide ((k : Int) < M.length) = false := by simp; omega
            clear hall HGm
            go_wp2_with fail
            have gC := grow_cell
            go_quiet_grown (fail)
            clear gC
            have hke : M.length ≤ k := by omega
            rcases own_ways hownW.out with ⟨rfl, rfl, h0⟩ | ⟨g1, rfl⟩
            · obtain rfl : M = [] := List.eq_nil_of_length_eq_zero h0
              obtain rfl : k = 0 := by simpa using hk
              clear hkl d1 hke h0
              have hZ := Grew.mk W nq osq
              have e0 := (hZ.cell (a := ⟨wr.heap.size, 0, none⟩) hszW).trans f0
              have e1 := (hZ.cell (a := ⟨wr.heap.size, 1, none⟩) hszW).trans f1
              have hownZ := Lib.hid (own_keep hownW.out hZ.below)
              have hbZ := Lib.hid (hbX.out.trans (hZ.below.mono (by omega)))
              have hszZ : wr.heap.size < (grow (W.drewN nq) osq).heap.size := Nat.lt_of_lt_of_le hszW hZ.size
              clear hZ f0 f1 hownW hbX hszW
              generalize grow (W.drewN nq) osq = Z at *
              obtain ⟨i0, hi0, hz0, hz1, hz2⟩ := HI.out
              skip
              have Hc : Hid (∀ ad, (none : Option Addr) = some ad → ∀ j u, (rcells (([] : List Rl).drop 0))[j]? = some u → (Z.alloc (.cells #[] 24)).cell? (ad.add j) = some u) := Lib.hid (fun ad h => by cases h)
              go_wp2_with (at_builtin; go_loud (refine wpList_append_from _ rfl _ _ 37 rfl Z.heap.size 24 i0 (.agg #[.string ⟨#[]⟩, .string ⟨#[]⟩]) 2 32 Try.underlying37 hi0 hz0 hz1 hz2 rfl (by decide) _ _ _ rfl (own_empty Z _ 2) (none) (([] : List Rl).length - 0) (0) (rcells (([] : List Rl).drop 0)) rfl (drop_cells ([] : List Rl) 0) (fun h => rfl) Hc.out (rcells_one _) (by unfold maxLen; omega) (by omega) (by simp) ?_))
              intro v7 w3 hown7 hgrow7
              have hb3 : Below Z.heap.size Z w3 := ((Below.refl _ _).alloc (Nat.le_refl _) _).grown hgrow7 (by simp) (fun k hk => by simp [Value.ownBlock] at hk; omega)
              try simp only [Nat.zero_add, List.nil_append] at hown7
              obtain ⟨A7, c7, rfl, hat7⟩ := at_drop (M := ([] : List Rl)) (k := 0) hown7
              have HA7 := Lib.hid hat7
              have hown3 := Lib.hid (own_keep hownZ.out hb3)
              have hz3 := hb3.size
              have e0 := (hb3.cell (p := ⟨wr.heap.size, 0, none⟩) hszZ).trans e0
              have e1 := (hb3.cell (p := ⟨wr.heap.size, 1, none⟩) hszZ).trans e1
              have hbY := Lib.hid (hbZ.out.trans (hb3.mono (by omega)))
              have hol : Hid (∀ b, (none : Option Addr) = some b → ∀ j u, (rcells (([] : List Rl).take 0))[j]? = some u → (w3.drew.alloc (.cells #[.string ho, .string hn] 24)).cell? (b.add j) = some u) := Lib.hid (olds_at hown3.out hk)
              have hnw := Lib.hid (new_at w3.drew ⟨ho, hn⟩)
              skip
              clear hown7 hgrow7 hat7 hown3 hownZ hb3 Hc
              go_wp2_with fail
              go_region_law (first | (refine step_append_grows rfl (.tmp 39) (.tmp 41) 37 rfl 24 i0 (.agg #[.string ⟨#[]⟩, .string ⟨#[]⟩]) 2 32 Try.underlying37 hi0 hz0 hz1 hz2 rfl (by decide) (none) 0 0 (rcells (([] : List Rl).take 0)) (by simp [Act.eval]) (fun _ => ⟨rfl, rfl⟩) (take_cells ([] : List Rl) 0 hk) (fun b h => by cases h) ⟨w3.heap.size, 0, none⟩ 1 1 (Rl.cells ⟨ho, hn⟩) (by simp [Act.eval]) rfl hnw.out (RolA.stcell_one _) (by omega) (by unfold maxLen; omega) (by omega) ?_; intro v4 w4 hown4 hgrow4) | (refine step_append_from rfl (.tmp 42) (.tmp 43) 37 rfl (w3.drew.alloc (.cells #[.string ho, .string hn] 24)).heap.size 24 i0 (.agg #[.string ⟨#[]⟩, .string ⟨#[]⟩]) 2 32 Try.underlying37 hi0 hz0 hz1 hz2 rfl (by decide) v4 (0 + 1) (rcells (([] : List Rl).take 0) ++ Rl.cells ⟨ho, hn⟩) (by simp [Act.eval]) hown4 A7 (([] : List Rl).length - 0) c7 (rcells (([] : List Rl).drop 0)) (by simp [Act.eval]) (drop_cells ([] : List Rl) 0) (rest_none HA7.out) (rest_at HA7.out hgrow4) (rcells_one _) (by unfold maxLen; omega) (by omega) (by have := hgrow4.size; exact this) ?_; intro v5 w5 hown5 hgrow5))
              all_goals
                obtain ⟨A5, c5, rfl, hF⟩ := own_put (B := w.heap.size) hown5 hk (hstep.out.trans hins.out) (by simp; omega)
                have hFin := Lib.hid (below_fin hbY.out (by omega) hown4 hgrow4 hgrow5)
                go_wp2_with fail
                go_roundg (L.length - (i + 1))
                case measure => omega
                case rel => exact ⟨i + 1, c5, A5, by omega, Nat.le_refl _, by go_num, rfl, Lib.hid hF, hFin.out⟩
            · by_cases hkc : k = c
              · subst hkc
                have hnil : M.drop k = [] := List.drop_of_length_le hke
                have HNIL := Lib.hid hnil
                clear hkl d1 hke hnil
                have hZ := Grew.mk W nq osq
                have e0 := (hZ.cell (a := ⟨wr.heap.size, 0, none⟩) hszW).trans f0
                have e1 := (hZ.cell (a := ⟨wr.heap.size, 1, none⟩) hszW).trans f1
                have hownZ := Lib.hid (own_keep hownW.out hZ.below)
                have hbZ := Lib.hid (hbX.out.trans (hZ.below.mono (by omega)))
                have hszZ : wr.heap.size < (grow (W.drewN nq) osq).heap.size := Nat.lt_of_lt_of_le hszW hZ.size
                clear hZ f0 f1 hownW hbX hszW
                generalize grow (W.drewN nq) osq = Z at *
                obtain ⟨i0, hi0, hz0, hz1, hz2⟩ := HI.out
                skip
                have Hc : Hid (∀ ad, (some ⟨g1, 0, none⟩ : Option Addr) = some ad → ∀ j u, (rcells (M.drop k))[j]? = some u → (Z.alloc (.cells #[] 24)).cell? (ad.add j) = some u) := Lib.hid (fun ad h j u hu => by rw [HNIL.out] at hu; simp [rcells] at hu)
                go_wp2_with (at_builtin; go_loud (refine wpList_append_from _ rfl _ _ 37 rfl Z.heap.size 24 i0 (.agg #[.string ⟨#[]⟩, .string ⟨#[]⟩]) 2 32 Try.underlying37 hi0 hz0 hz1 hz2 rfl (by decide) _ _ _ rfl (own_empty Z _ 2) (some ⟨g1, 0, none⟩) (M.length - k) (0) (rcells (M.drop k)) rfl (drop_cells M k) (fun h => by cases h) Hc.out (rcells_one _) (by unfold maxLen; omega) (by omega) (by simp) ?_))
                intro v7 w3 hown7 hgrow7
                have hb3 : Below Z.heap.size Z w3 := ((Below.refl _ _).alloc (Nat.le_refl _) _).grown hgrow7 (by simp) (fun k hk => by simp [Value.ownBlock] at hk; omega)
                try simp only [Nat.zero_add, List.nil_append] at hown7
                obtain ⟨A7, c7, rfl, hat7⟩ := at_drop (M := M) (k := k) hown7
                have HA7 := Lib.hid hat7
                have hown3 := Lib.hid (own_keep hownZ.out hb3)
                have hz3 := hb3.size
                have e0 := (hb3.cell (p := ⟨wr.heap.size, 0, none⟩) hszZ).trans e0
                have e1 := (hb3.cell (p := ⟨wr.heap.size, 1, none⟩) hszZ).trans e1
                have hbY := Lib.hid (hbZ.out.trans (hb3.mono (by omega)))
                have hol : Hid (∀ b, (some ⟨g1, 0, none⟩ : Option Addr) = some b → ∀ j u, (rcells (M.take k))[j]? = some u → (w3.drew.alloc (.cells #[.string ho, .string hn] 24)).cell? (b.add j) = some u) := Lib.hid (olds_at hown3.out hk)
                have hnw := Lib.hid (new_at w3.drew ⟨ho, hn⟩)
                skip
                clear hown7 hgrow7 hat7 hown3 hownZ hb3 Hc
                go_wp2_with fail
                go_region_law (first | (refine step_append_grows rfl (.tmp 39) (.tmp 41) 37 rfl 24 i0 (.agg #[.string ⟨#[]⟩, .string ⟨#[]⟩]) 2 32 Try.underlying37 hi0 hz0 hz1 hz2 rfl (by decide) (some ⟨g1, 0, none⟩) k k (rcells (M.take k)) (by simp [Act.eval]) (fun h => by cases h) (take_cells M k hk) (hol.out) ⟨w3.heap.size, 0, none⟩ 1 1 (Rl.cells ⟨ho, hn⟩) (by simp [Act.eval]) rfl hnw.out (RolA.stcell_one _) (by omega) (by unfold maxLen; omega) (by omega) ?_; intro v4 w4 hown4 hgrow4) | (refine step_append_from rfl (.tmp 42) (.tmp 43) 37 rfl (w3.drew.alloc (.cells #[.string ho, .string hn] 24)).heap.size 24 i0 (.agg #[.string ⟨#[]⟩, .string ⟨#[]⟩]) 2 32 Try.underlying37 hi0 hz0 hz1 hz2 rfl (by decide) v4 (k + 1) (rcells (M.take k) ++ Rl.cells ⟨ho, hn⟩) (by simp [Act.eval]) hown4 A7 (M.length - k) c7 (rcells (M.drop k)) (by simp [Act.eval]) (drop_cells M k) (rest_none HA7.out) (rest_at HA7.out hgrow4) (rcells_one _) (by unfold maxLen; omega) (by omega) (by have := hgrow4.size; exact this) ?_; intro v5 w5 hown5 hgrow5))
                all_goals
                  obtain ⟨A5, c5, rfl, hF⟩ := own_put (B := w.heap.size) hown5 hk (hstep.out.trans hins.out) (by simp; omega)
                  have hFin := Lib.hid (below_fin hbY.out (by omega) hown4 hgrow4 hgrow5)
                  go_wp2_with fail
                  go_roundg (L.length - (i + 1))
                  case measure => omega
                  case rel => exact ⟨i + 1, c5, A5, by omega, Nat.le_refl _, by go_num, rfl, Lib.hid hF, hFin.out⟩
              · have hkc2 : k ≤ c := by have := cap_le hownW.out; omega
                have hkc3 : k < c := by omega
                clear hkl d1 hke hkc
                have hZ := Grew.mk W nq osq
                have e0 := (hZ.cell (a := ⟨wr.heap.size, 0, none⟩) hszW).trans f0
                have e1 := (hZ.cell (a := ⟨wr.heap.size, 1, none⟩) hszW).trans f1
                have hownZ := Lib.hid (own_keep hownW.out hZ.below)
                have hbZ := Lib.hid (hbX.out.trans (hZ.below.mono (by omega)))
                have hszZ : wr.heap.size < (grow (W.drewN nq) osq).heap.size := Nat.lt_of_lt_of_le hszW hZ.size
                clear hZ f0 f1 hownW hbX hszW
                generalize grow (W.drewN nq) osq = Z at *
                obtain ⟨i0, hi0, hz0, hz1, hz2⟩ := HI.out
                skip
                have Hc : Hid (∀ ad, (some ⟨g1, k * 2, none⟩ : Option Addr) = some ad → ∀ j u, (rcells (M.drop k))[j]? = some u → (Z.alloc (.cells #[] 24)).cell? (ad.add j) = some u) := Lib.hid (fun ad h j u hu => drop_new hownZ.out h hk j u hu)
                go_wp2_with (at_builtin; go_loud (refine wpList_append_from _ rfl _ _ 37 rfl Z.heap.size 24 i0 (.agg #[.string ⟨#[]⟩, .string ⟨#[]⟩]) 2 32 Try.underlying37 hi0 hz0 hz1 hz2 rfl (by decide) _ _ _ rfl (own_empty Z _ 2) (some ⟨g1, k * 2, none⟩) (M.length - k) (c - k) (rcells (M.drop k)) rfl (drop_cells M k) (fun h => by cases h) Hc.out (rcells_one _) (by unfold maxLen; omega) (by omega) (by simp) ?_))
                intro v7 w3 hown7 hgrow7
                have hb3 : Below Z.heap.size Z w3 := ((Below.refl _ _).alloc (Nat.le_refl _) _).grown hgrow7 (by simp) (fun k hk => by simp [Value.ownBlock] at hk; omega)
                try simp only [Nat.zero_add, List.nil_append] at hown7
                obtain ⟨A7, c7, rfl, hat7⟩ := at_drop (M := M) (k := k) hown7
                have HA7 := Lib.hid hat7
                have hown3 := Lib.hid (own_keep hownZ.out hb3)
                have hz3 := hb3.size
                have e0 := (hb3.cell (p := ⟨wr.heap.size, 0, none⟩) hszZ).trans e0
                have e1 := (hb3.cell (p := ⟨wr.heap.size, 1, none⟩) hszZ).trans e1
                have hbY := Lib.hid (hbZ.out.trans (hb3.mono (by omega)))
                have hol : Hid (∀ b, (some ⟨g1, 0, none⟩ : Option Addr) = some b → ∀ j u, (rcells (M.take k))[j]? = some u → (w3.drew.alloc (.cells #[.string ho, .string hn] 24)).cell? (b.add j) = some u) := Lib.hid (olds_at hown3.out hk)
                have hnw := Lib.hid (new_at w3.drew ⟨ho, hn⟩)
                skip
                clear hown7 hgrow7 hat7 hown3 hownZ hb3 Hc
                go_wp2_with fail
                go_region_law (first | (refine step_append_grows rfl (.tmp 39) (.tmp 41) 37 rfl 24 i0 (.agg #[.string ⟨#[]⟩, .string ⟨#[]⟩]) 2 32 Try.underlying37 hi0 hz0 hz1 hz2 rfl (by decide) (some ⟨g1, 0, none⟩) k k (rcells (M.take k)) (by simp [Act.eval]) (fun h => by cases h) (take_cells M k hk) (hol.out) ⟨w3.heap.size, 0, none⟩ 1 1 (Rl.cells ⟨ho, hn⟩) (by simp [Act.eval]) rfl hnw.out (RolA.stcell_one _) (by omega) (by unfold maxLen; omega) (by omega) ?_; intro v4 w4 hown4 hgrow4) | (refine step_append_from rfl (.tmp 42) (.tmp 43) 37 rfl (w3.drew.alloc (.cells #[.string ho, .string hn] 24)).heap.size 24 i0 (.agg #[.string ⟨#[]⟩, .string ⟨#[]⟩]) 2 32 Try.underlying37 hi0 hz0 hz1 hz2 rfl (by decide) v4 (k + 1) (rcells (M.take k) ++ Rl.cells ⟨ho, hn⟩) (by simp [Act.eval]) hown4 A7 (M.length - k) c7 (rcells (M.drop k)) (by simp [Act.eval]) (drop_cells M k) (rest_none HA7.out) (rest_at HA7.out hgrow4) (rcells_one _) (by unfold maxLen; omega) (by omega) (by have := hgrow4.size; exact this) ?_; intro v5 w5 hown5 hgrow5))
                all_goals
                  obtain ⟨A5, c5, rfl, hF⟩ := own_put (B := w.heap.size) hown5 hk (hstep.out.trans hins.out) (by simp; omega)
                  have hFin := Lib.hid (below_fin hbY.out (by omega) hown4 hgrow4 hgrow5)
                  go_wp2_with fail
                  go_roundg (L.length - (i + 1))
                  case measure => omega
                  case rel => exact ⟨i + 1, c5, A5, by omega, Nat.le_refl _, by go_num, rfl, Lib.hid hF, hFin.out⟩
    · obtain rfl : i = L.length := by omega
      have hfin : Hid (SortPost L w (.returned (.slice A (sortL cmpR [] L).length c)) wr) := Lib.hid (by
        have h := hown.out
        rw [List.take_of_length_le (Nat.le_refl _)] at h
        obtain ⟨A', c', e, hr⟩ := rat_own h
        injection e with e1 e2 e3
        subst e1
        exact ⟨A, c, rfl, hr, hbel⟩)
      have hlen : Hid (sortL cmpR [] (L.take L.length) = sortL cmpR [] L) := Lib.hid (by rw [List.take_of_length_le (Nat.le_refl _)])
      rw [hlen.out]
      clear hown hlen
      go_wp2_with fail
      go_ret
      exact hfin.out
end Go.Proofs.Ytpjacngbkohmdaa.RolB
