/- high.pairs, twice: roles of principals and names, statements of roles and principals; by contract. -/
import Derived.Test.YtblapgfilbmdhaaGreatDoorM38
import Derived.Test.YtblapgfilbmdhaaGreatDoorM12
import Derived.Test.YtblapgfilbmdhaaGreatDoorM21
import Derived.Test.YtblapgfilbmdhaaGreatDoorM11
import Derived.Sort.WalkB12
import Derived.Lib.SliceRun
import Derived.Deep.LoopGhost
import Derived.Deep.Draws
import Derived.Shelf.RegionOpenPlain
import Derived.Deep.MidRow
import Derived.Lib.LazyBuf
import Derived.Lib.AppendZeros
import Derived.Test.YtblapgfilbmdhaaGreatDoorM22
import Derived.Test.YtblapgfilbmdhaaGreatDoorM26
import Derived.Test.YtblapgfilbmdhaaGreatDoorM36
import Derived.Test.YtblapgfilbmdhaaGreatDoorM34
import Derived.Test.YtblapgfilbmdhaaGreatDoorM37
import Derived.Test.YtblapgfilbmdhaaGreatDoorM24
import Derived.Test.YtblapgfilbmdhaaGreatDoorM35
import Derived.Test.YtblapgfilbmdhaaGreatDoorM25
set_option linter.unusedVariables false
set_option linter.unusedSimpArgs false
namespace Go.Proofs.YtblapgfilbmdhaaGreatDoor.HiC
open Go.RowKit Go.Sort Go.Lib Go.Proofs Plain SynP SynD2 SynJ TabP Tab1 PolA PolE PolG TblB TblR LwH HiA
abbrev nx := @LwH.nx
theorem sg_of_own_ {w : World} {B : Nat} {A : Option Addr} {c : Nat} {T : List St} (h : w.ownsRow B 67 9 (.slice A T.length c) T.length (stCells T)) : SG w A T := by
  obtain ⟨A', c', e, hs⟩ := StI.sg_own h
  injection e with e1 _ _
  subst e1
  exact hs
def rowR (x : Str) (U : List Str) : List Rl := U.map fun y => (⟨txt x, txt y⟩ : Rl)
def rowR1 (x : Str) (y : Str) : Rl := (⟨txt x, txt y⟩ : Rl)
theorem rowR_take (x : Str) (U : List Str) {j : Nat} (h : j < U.length) : rowR x (U.take (j + 1)) = rowR x (U.take j) ++ [rowR1 x U[j]] := by
  unfold rowR rowR1
  rw [List.take_succ_eq_append_getElem h, List.map_append]; rfl
set_option maxRecDepth 100000 in
theorem mkR (x y : ByteArray) (w : World) : Calls Tryz.prog 86 #[.string x, .string y] w fun e w' => e = .returned (.agg #[.string x, .string y]) ∧ Below w.heap.size w w' := by
  go_enter Tryz.func86, Tryz.ntmps86
  go_wp2_with fail
  exact bodyPost_ret (v := .agg #[.string x, .string y]) (results_cell_row (cs := #[.string x, .string y]) (fn := Tryz.f86) rfl _ _ w.heap.size 28 (0, 0) _ rfl (heap_alloc_new w _) Tryz.underlying28 rfl infoRole2) rfl ⟨rfl, LwL.below_alloc _ _⟩
set_option maxRecDepth 100000 in
theorem concat0R (w : World) : Calls Tryz.prog 125 #[.slice none 0 0] w (PolF.RPost [] w) := by
  unfold PolF.RPost
  go_enter Tryz.func125, Tryz.ntmps125
  go_wp2_with fail
  go_loop [3, 11] (fun s i => i = .int .i64 0 ∧ s = .int .i64 0) (fun _ _ => 0)
  case atStart => exact ⟨rfl, rfl⟩
  case round =>
    obtain ⟨rfl, rfl⟩ := hrel
    go_wp2_with fail
    refine (PolF.growR 0 w (by omega)).mono ?_
    rintro e w1 ⟨v1, rfl, hown1, hbel1⟩
    have HO := Lib.hid hown1
    have HB := Lib.hid hbel1
    clear hown1 hbel1
    go_wp2_with fail
    go_loopw [6, 27] (fun v i wr => i = .int .i64 0 ∧ Hid (Below w.heap.size w wr) ∧ Hid (wr.ownsRow w.heap.size 28 2 v 0 [])) (fun _ _ _ => 0)
    case atStart => exact ⟨rfl, HB, Lib.hid (by simpa [rcells] using HO.out)⟩
    case round =>
      obtain ⟨rfl, hb, ho⟩ := hrel
      go_wp2_with fail
      go_ret
      exact ⟨_, rfl, by simpa [rcells] using ho.out, hb.out⟩
theorem infoSR : (Tryz.prog.info? 23).map (fun i => (i.zero, i.size, i.bytes)) = some (some (.slice none 0 0), 1, 24) := by kernel_rfl
def slcR (r : PolF.RowR) : Value := .slice r.A r.l.length r.c
def RowsR (w wr : World) (R : List PolF.RowR) : Prop := ∀ r ∈ R, wr.ownsRow w.heap.size 28 2 (slcR r) r.l.length (rcells r.l)
set_option maxHeartbeats 2000000 in
set_option maxRecDepth 100000 in
theorem pairsR (A B : Option Addr) (ca cb : Nat) (L : List Str) (U : List Str) (w : World) (hL : L.length ≤ 100) (hU : U.length ≤ 100) (hA : SRow w A L) (hB : SRow w B U) :
    Calls Tryz.prog 90 #[.func (.func 86) #[] #[], .slice A L.length ca, .slice B U.length cb] w (PolF.RPost (L.flatMap fun x => rowR x U) w) := by
  have HA := Lib.hid (fun (wr : World) (hb : Below w.heap.size w wr) => hA.keep hb)
  have HU := Lib.hid (fun (wr : World) (hb : Below w.heap.size w wr) => hB.keep hb)
  obtain ⟨i0, hi, hz0, hz1, hz2⟩ := info_parts SynJ.infoRole
  obtain ⟨j0, hj0, hjz0, hjz1, hjz2⟩ := info_parts infoSR
  unfold PolF.RPost
  clear hA hB
  go_enter Tryz.func90, Tryz.ntmps90
  go_wp2_with fail
  go_loopw [7, 15] (fun v i wr => ∃ (k : Nat) (R : List PolF.RowR), k ≤ L.length ∧ R.length = k ∧ i = .int .i64 k ∧ Hid (R.map PolF.RowR.l = (L.take k).map fun x => rowR x U) ∧ Hid (wr.ownsRow w.heap.size 23 1 v R.length (R.map slcR)) ∧ Hid (RowsR w wr R) ∧ Below w.heap.size w wr) (fun _ i _ => L.length - (intOf i).toNat)
  case atStart => exact ⟨0, [], by omega, rfl, rfl, Lib.hid (by simp), Lib.hid (World.ownsRow_nil _ _ _ _), Lib.hid (fun r hr => absurd hr (by simp)), Below.refl _ _⟩
  case round =>
    obtain ⟨k, R, hk, hRk, rfl, hmap, hown, hrows, hb⟩ := hrel
    by_cases hlt : k < L.length
    · have d1 : decide ((k : Int) < L.length) = true := by simp; omega
      obtain ⟨g, o, rfl, hg, hcl⟩ := (HA.out wr hb) (by omega)
      have y0 : wr.cell? ⟨g, o + k, none⟩ = some (.string (txt L[k])) := hcl k hlt
      have HTk : Hid (L.take (k + 1) = L.take k ++ [L[k]]) := Lib.hid (List.take_succ_eq_append_getElem hlt)
      have p1 : (0 : Int) ≤ k := by omega
      have p2 : (k : Int) < L.length := by omega
      clear hcl
      generalize L[k] = x at *
      obtain ⟨w2, hw2e⟩ : ∃ w2, w2 = wr := ⟨_, rfl⟩
      have HB2 : Hid (Below w.heap.size w w2) := Lib.hid (by rw [hw2e]; exact hb)
      have HO2 : Hid (w2.ownsRow w.heap.size 23 1 u7 R.length (R.map slcR)) := Lib.hid (by rw [hw2e]; exact hown.out)
      have HR2 : Hid (RowsR w w2 R) := Lib.hid (by rw [hw2e]; exact hrows.out)
      rw [← hw2e] at y0 ⊢
      clear hw2e hb hown hrows
      go_wp2_with fail
      clear y0
      go_loopw [10, 21] (fun v i wr => ∃ j : Nat, j ≤ U.length ∧ i = .int .i64 j ∧ Hid (wr.ownsRow w2.heap.size 28 2 v (rowR x (U.take j)).length (rcells (rowR x (U.take j)))) ∧ Below w2.heap.size w2 wr) (fun _ i _ => U.length - (intOf i).toNat)
      case atStart => exact ⟨0, by omega, rfl, Lib.hid (by simpa [rowR, rcells] using World.ownsRow_nil _ _ _ _), Below.refl _ _⟩
      case round =>
        obtain ⟨j, hj, rfl, hown, hb⟩ := hrel
        have hrl : (rowR x (U.take j)).length = j := by unfold rowR; rw [List.length_map, List.length_take]; omega
        by_cases hlt2 : j < U.length
        · have d2 : decide ((j : Int) < U.length) = true := by simp; omega
          obtain ⟨g2, o2, rfl, hg2, hcl⟩ := (HU.out wr (HB2.out.trans (hb.mono HB2.out.size))) (by omega)
          have z0 : wr.cell? ⟨g2, o2 + j, none⟩ = some (.string (txt U[j])) := hcl j hlt2
          have HTj : Hid (rowR x (U.take (j + 1)) = rowR x (U.take j) ++ [rowR1 x U[j]]) := Lib.hid (rowR_take _ U hlt2)
          have r1 : (0 : Int) ≤ j := by omega
          have r2 : (j : Int) < U.length := by omega
          clear hcl
          generalize U[j] = y at *
          have HM := Lib.hid (mkR (txt x) (txt y))
          have HBr := Lib.hid hb
          skip
          have hown2 := hown.out
          obtain ⟨F0, hF0⟩ : ∃ F0, rowR x (U.take j) = F0 := ⟨_, rfl⟩
          rw [hF0] at hown2 hrl HTj
          clear hb hown hF0
          go_wp2_with fail
          refine (HM.out _).mono ?_
          rintro e w4 ⟨rfl, hb4⟩
          have hown4 := own_at hown2 hb4
          have HB4 := Lib.hid (nx HBr.out hb4)
          have hz4 := HB4.out.size
          clear hb4 hown2 HM z0
          go_wp2_with (at_builtin; refine wpList_append_own _ rfl _ _ 23 rfl w2.heap.size 28 i0 (.agg #[.string ⟨#[]⟩, .string ⟨#[]⟩]) 2 32 Tryz.underlying23 hi hz0 hz1 hz2 rfl (by decide) _ _ _ rfl (hown4.alloc _) ⟨w4.heap.size, 0, none⟩ 1 1 [.string (txt x), .string (txt y)] rfl rfl ?c1 ?c2 ?c3 ?c4 ?c5 ?_)
          case c1 => exact LwF.new_cells _ _ _
          case c2 => intro u hu; simp at hu; rcases hu with rfl | rfl <;> rfl
          case c3 => unfold maxLen; omega
          case c4 => omega
          case c5 => simp; omega
          intro v' w5 hown' hgrow _
          have HO5 : Hid (w5.ownsRow w2.heap.size 28 2 v' (rowR x (U.take (j + 1))).length (rcells (rowR x (U.take (j + 1))))) := Lib.hid (by
            rw [HTj.out, rcells_app, List.length_append, hrl]
            exact hown')
          have HB5 := Lib.hid (LwC.below_own HB4.out (Nat.le_refl _) hown4 hgrow hz4)
          clear hown' hown4 hgrow
          skip
          go_wp2_with fail
          go_roundw
          case rel => exact ⟨j + 1, by omega, by go_num, HO5, HB5.out⟩
          case measure => simp [intOf]; omega
        · have d2 : decide ((j : Int) < U.length) = false := by simp; omega
          have hjU : j = U.length := by omega
          subst hjU
          have hownr := hown.out
          rw [List.take_length] at hownr
          obtain ⟨Ar, cr, rfl⟩ := PolLi.own_n hownr
          have hownv := own_at HO2.out hb
          have hrowsv : RowsR w wr R := fun r hr => own_at (HR2.out r hr) hb
          have HBr := Lib.hid (HB2.out.trans (hb.mono HB2.out.size))
          have hzr := HBr.out.size
          have hrl2 : (rowR x U).length = U.length := by unfold rowR; rw [List.length_map]
          have hnew : wr.ownsRow w.heap.size 28 2 (slcR ⟨Ar, cr, rowR x U⟩) (rowR x U).length (rcells (rowR x U)) := Tab4.own_base hownr HB2.out.size
          unfold slcR at hnew
          rw [hrl2] at hnew ⊢
          clear hown hb hownr hrl
          go_wp2_with (at_builtin; refine wpList_append_own _ rfl _ _ 135 rfl w.heap.size 23 j0 (.slice none 0 0) 1 24 Tryz.underlying135 hj0 hjz0 hjz1 hjz2 rfl (by decide) _ _ _ rfl (hownv.alloc _) ⟨wr.heap.size, 0, none⟩ 1 1 [.slice Ar U.length cr] rfl rfl ?c1 ?c2 ?c3 ?c4 ?c5 ?_)
          try (case c1 => exact LwF.new_cells _ _ _)
          case c2 => first | rfl | (intro u hu; simp at hu; subst hu; rfl)
          case c3 => unfold maxLen; omega
          case c4 => omega
          case c5 => first | omega | (simp; omega)
          intro v' w5 hown' hgrow _
          have HO5 : Hid (w5.ownsRow w.heap.size 23 1 v' (R ++ [(⟨Ar, cr, rowR x U⟩ : PolF.RowR)]).length ((R ++ [(⟨Ar, cr, rowR x U⟩ : PolF.RowR)]).map slcR)) := Lib.hid (by
            rw [List.length_append, List.map_append]
            have e : [(⟨Ar, cr, rowR x U⟩ : PolF.RowR)].map slcR = [.slice Ar U.length cr] := by simp only [List.map_cons, List.map_nil, slcR]; rw [hrl2]
            rw [e, hRk]
            exact hown')
          have HR5 : Hid (RowsR w w5 (R ++ [(⟨Ar, cr, rowR x U⟩ : PolF.RowR)])) := Lib.hid (fun r hr => by
            rcases List.mem_append.1 hr with h | h
            · exact LwD.keep_own hownv (hrowsv r h) (by decide) hgrow
            · rw [List.mem_singleton] at h
              subst h
              have := LwD.keep_own hownv hnew (by decide) hgrow
              unfold slcR
              simp only
              rw [hrl2]
              exact this)
          have HMp : Hid ((R ++ [(⟨Ar, cr, rowR x U⟩ : PolF.RowR)]).map PolF.RowR.l = (L.take (k + 1)).map fun x => rowR x U) := Lib.hid (by
            rw [HTk.out, List.map_append, List.map_append, hmap.out]; rfl)
          have HB5 := Lib.hid (LwC.below_own HBr.out (Nat.le_refl _) hownv hgrow hzr)
          clear hown' hownv hgrow hrowsv hnew
          go_wp2_with fail
          go_roundw
          case rel => exact ⟨k + 1, R ++ [(⟨Ar, cr, rowR x U⟩ : PolF.RowR)], by omega, by rw [List.length_append, hRk]; rfl, by go_num, HMp, HO5, HR5, HB5.out⟩
          case measure => simp [intOf]; omega
    · have d1 : decide ((k : Int) < L.length) = false := by simp; omega
      have hkL : k = L.length := by omega
      subst hRk
      have HFl : Hid (PolF.flatTo R R.length = L.flatMap fun x => rowR x U) := Lib.hid (by
        have h := hmap.out
        rw [hkL, List.take_length] at h
        unfold PolF.flatTo
        rw [List.take_length, h]
        exact (List.flatMap_def ..).symm)
      have HBr := Lib.hid hb
      have hown2 := hown.out
      have hz : w.heap.size ≤ wr.heap.size := hb.size
      rcases hown2.2 with ⟨rfl, h0⟩ | ⟨g, cap, cur, rfl, hgb, hgh, hgc, _⟩
      · have hR0 : R = [] := List.length_eq_zero_iff.1 h0
        have HF : Hid ((L.flatMap fun x => rowR x U) = []) := Lib.hid (by rw [← HFl.out, hR0]; rfl)
        have HC := Lib.hid (concat0R wr)
        unfold PolF.RPost at HC
        clear hown hown2 hrows hmap hb HFl
        go_wp2_with fail
        refine HC.out.mono ?_
        rintro e w6 ⟨v6, rfl, ho6, hb6⟩
        have HO6 := Lib.hid (Tab4.own_base ho6 hz)
        have HB6 := Lib.hid (HBr.out.trans (hb6.mono hz))
        clear ho6 hb6 HC
        go_wp2_with fail
        go_ret
        exact ⟨_, rfl, by rw [HF.out]; exact HO6.out, HB6.out⟩
      · have hcs : ∀ j, (h : j < R.length) → wr.cell? ⟨g, j, none⟩ = some (.slice R[j].A R[j].l.length R[j].c) := fun j h => by
          have := hown2.cells (g := g) rfl j (slcR R[j]) (by simp [List.getElem?_eq_getElem h])
          rw [LwA.add_off, Nat.zero_add] at this
          exact this
        have hll : ∀ r ∈ R, r.l.length ≤ 1000 := fun r hr => by
          have h1 : r.l ∈ (L.take R.length).map fun x => rowR x U := by rw [← hmap.out]; exact List.mem_map.2 ⟨r, hr, rfl⟩
          obtain ⟨x, _, e⟩ := List.mem_map.1 h1
          rw [← e]; unfold rowR; rw [List.length_map]; omega
        have HC := Lib.hid (PolF.concatR g cap R wr (by omega) hll (Array.getElem?_eq_some_iff.1 hgh).1 hcs (fun r hr => PolK.rg_of_own (hrows.out r hr)))
        rw [HFl.out] at HC
        unfold PolF.RPost at HC
        clear hown hown2 hrows hmap hb HFl hcs hll hgh hkL hgc hgb
        go_wp2_with fail
        refine HC.out.mono ?_
        rintro e w6 ⟨v6, rfl, ho6, hb6⟩
        have HO6 := Lib.hid (Tab4.own_base ho6 hz)
        have HB6 := Lib.hid (HBr.out.trans (hb6.mono hz))
        clear ho6 hb6 HC
        go_wp2_with fail
        go_ret
        exact ⟨_, rfl, HO6.out, HB6.out⟩
def rowS (x : Rl) (U : List Str) : List St := U.map fun y => (memP x y)
def rowS1 (x : Rl) (y : Str) : St := (memP x y)
theorem rowS_take (x : Rl) (U : List Str) {j : Nat} (h : j < U.length) : rowS x (U.take (j + 1)) = rowS x (U.take j) ++ [rowS1 x U[j]] := by
  unfold rowS rowS1
  rw [List.take_succ_eq_append_getElem h, List.map_append]; rfl
set_option maxRecDepth 100000 in
theorem mkS (o n y : ByteArray) (w : World) : Calls Tryz.prog 45 #[.agg #[.string o, .string n], .string y] w fun e w' => e = .returned (.agg #[.int .i64 1, .string o, .string n, .string y, .string ⟨#[]⟩, .string ⟨#[]⟩, .string ⟨#[]⟩, .string ⟨#[]⟩, .string ⟨#[]⟩]) ∧ Below w.heap.size w w' := by
  go_enter Tryz.func45, Tryz.ntmps45
  go_wp2_with fail
  exact bodyPost_ret (v := .agg #[.int .i64 1, .string o, .string n, .string y, .string ⟨#[]⟩, .string ⟨#[]⟩, .string ⟨#[]⟩, .string ⟨#[]⟩, .string ⟨#[]⟩]) (results_cell_row (cs := #[.int .i64 1, .string o, .string n, .string y, .string ⟨#[]⟩, .string ⟨#[]⟩, .string ⟨#[]⟩, .string ⟨#[]⟩, .string ⟨#[]⟩]) (fn := Tryz.f45) rfl _ _ (w.heap.size + 1) 67 (0, 0) _ rfl (heap_alloc2_new w _ _) Tryz.underlying67 rfl SynD8.infoSz) rfl ⟨rfl, ((Below.refl _ _).alloc (Nat.le_refl _) _).alloc (by simp) _⟩
set_option maxRecDepth 100000 in
theorem concat0S (w : World) : Calls Tryz.prog 84 #[.slice none 0 0] w (StA.SPost [] w) := by
  unfold StA.SPost
  go_enter Tryz.func84, Tryz.ntmps84
  go_wp2_with fail
  go_loop [3, 11] (fun s i => i = .int .i64 0 ∧ s = .int .i64 0) (fun _ _ => 0)
  case atStart => exact ⟨rfl, rfl⟩
  case round =>
    obtain ⟨rfl, rfl⟩ := hrel
    go_wp2_with fail
    refine (StA.growS 0 w (by omega)).mono ?_
    rintro e w1 ⟨v1, rfl, hown1, hbel1⟩
    have HO := Lib.hid hown1
    have HB := Lib.hid hbel1
    clear hown1 hbel1
    go_wp2_with fail
    go_loopw [6, 27] (fun v i wr => i = .int .i64 0 ∧ Hid (Below w.heap.size w wr) ∧ Hid (wr.ownsRow w.heap.size 67 9 v 0 [])) (fun _ _ _ => 0)
    case atStart => exact ⟨rfl, HB, Lib.hid (by simpa [stCells] using HO.out)⟩
    case round =>
      obtain ⟨rfl, hb, ho⟩ := hrel
      go_wp2_with fail
      go_ret
      exact ⟨_, rfl, by simpa [stCells] using ho.out, hb.out⟩
theorem infoSS : (Tryz.prog.info? 22).map (fun i => (i.zero, i.size, i.bytes)) = some (some (.slice none 0 0), 1, 24) := by kernel_rfl
def slcS (r : StA.RowS) : Value := .slice r.A r.l.length r.c
def RowsS (w wr : World) (R : List StA.RowS) : Prop := ∀ r ∈ R, wr.ownsRow w.heap.size 67 9 (slcS r) r.l.length (stCells r.l)
set_option maxHeartbeats 2000000 in
set_option maxRecDepth 100000 in
theorem pairsS (A B : Option Addr) (ca cb : Nat) (L : List Rl) (U : List Str) (w : World) (hL : L.length ≤ 100) (hU : U.length ≤ 100) (hA : RG w A L) (hB : SRow w B U) :
    Calls Tryz.prog 47 #[.func (.func 45) #[] #[], .slice A L.length ca, .slice B U.length cb] w (StA.SPost (L.flatMap fun x => rowS x U) w) := by
  have HA := Lib.hid (fun (wr : World) (hb : Below w.heap.size w wr) => hA.below hb)
  have HU := Lib.hid (fun (wr : World) (hb : Below w.heap.size w wr) => hB.keep hb)
  obtain ⟨i0, hi, hz0, hz1, hz2⟩ := info_parts SynD2.infoSt
  obtain ⟨j0, hj0, hjz0, hjz1, hjz2⟩ := info_parts infoSS
  unfold StA.SPost
  clear hA hB
  go_enter Tryz.func47, Tryz.ntmps47
  go_wp2_with fail
  go_loopw [7, 15] (fun v i wr => ∃ (k : Nat) (R : List StA.RowS), k ≤ L.length ∧ R.length = k ∧ i = .int .i64 k ∧ Hid (R.map StA.RowS.l = (L.take k).map fun x => rowS x U) ∧ Hid (wr.ownsRow w.heap.size 22 1 v R.length (R.map slcS)) ∧ Hid (RowsS w wr R) ∧ Below w.heap.size w wr) (fun _ i _ => L.length - (intOf i).toNat)
  case atStart => exact ⟨0, [], by omega, rfl, rfl, Lib.hid (by simp), Lib.hid (World.ownsRow_nil _ _ _ _), Lib.hid (fun r hr => absurd hr (by simp)), Below.refl _ _⟩
  case round =>
    obtain ⟨k, R, hk, hRk, rfl, hmap, hown, hrows, hb⟩ := hrel
    by_cases hlt : k < L.length
    · have d1 : decide ((k : Int) < L.length) = true := by simp; omega
      obtain ⟨g, o, rfl, hg, hcl⟩ := (HA.out wr hb) (by omega)
      obtain ⟨y0, y1⟩ := hcl k hlt
      have HTk : Hid (L.take (k + 1) = L.take k ++ [L[k]]) := Lib.hid (List.take_succ_eq_append_getElem hlt)
      have p1 : (0 : Int) ≤ k := by omega
      have p2 : (k : Int) < L.length := by omega
      clear hcl
      generalize L[k] = x at *
      obtain ⟨xo, xn⟩ := x
      simp only at y0 y1
      have hnw := heap_alloc_new wr (.cells #[.string xo, .string xn] 28)
      have hbn := hb.alloc hb.size (.cells #[.string xo, .string xn] 28)
      have hb1 := LwL.below_alloc wr (.cells #[.string xo, .string xn] 28)
      have hown3 := own_at hown.out hb1
      have hrows3 : RowsS w (wr.alloc (.cells #[.string xo, .string xn] 28)) R := fun r hr => own_at (hrows.out r hr) hb1
      go_upto_region 5 with fail
      obtain ⟨w2, hw2⟩ : ∃ x, wr.alloc (.cells #[.string xo, .string xn] 28) = x := ⟨_, rfl⟩
      obtain ⟨bx, hbx⟩ : ∃ bx, wr.heap.size = bx := ⟨_, rfl⟩
      rw [hw2] at hnw hbn hown3 hrows3 ⊢
      rw [hbx] at hnw ⊢
      have hbl : bx < w2.heap.size := (Array.getElem?_eq_some_iff.1 hnw).1
      have HX := Lib.hid (fun (w' : World) (hb : Below w2.heap.size w2 w') (o : Nat) => Lib.cell_of_heap ((hb.block bx hbl).trans hnw) o)
      have HB2 := Lib.hid hbn
      have HO2 := Lib.hid hown3
      have HR2 := Lib.hid hrows3
      clear hw2 hbx y0 y1 hnw hbn hb1 hown3 hrows3 hb hown hrows
      go_wp2_with fail
      go_loopw [10, 21] (fun v i wr => ∃ j : Nat, j ≤ U.length ∧ i = .int .i64 j ∧ Hid (wr.ownsRow w2.heap.size 67 9 v (rowS (⟨xo, xn⟩ : Rl) (U.take j)).length (stCells (rowS (⟨xo, xn⟩ : Rl) (U.take j)))) ∧ Below w2.heap.size w2 wr) (fun _ i _ => U.length - (intOf i).toNat)
      case atStart => exact ⟨0, by omega, rfl, Lib.hid (by simpa [rowS, stCells] using World.ownsRow_nil _ _ _ _), Below.refl _ _⟩
      case round =>
        obtain ⟨j, hj, rfl, hown, hb⟩ := hrel
        have hrl : (rowS (⟨xo, xn⟩ : Rl) (U.take j)).length = j := by unfold rowS; rw [List.length_map, List.length_take]; omega
        by_cases hlt2 : j < U.length
        · have d2 : decide ((j : Int) < U.length) = true := by simp; omega
          obtain ⟨g2, o2, rfl, hg2, hcl⟩ := (HU.out wr (HB2.out.trans (hb.mono HB2.out.size))) (by omega)
          have z0 : wr.cell? ⟨g2, o2 + j, none⟩ = some (.string (txt U[j])) := hcl j hlt2
          have HTj : Hid (rowS (⟨xo, xn⟩ : Rl) (U.take (j + 1)) = rowS (⟨xo, xn⟩ : Rl) (U.take j) ++ [rowS1 (⟨xo, xn⟩ : Rl) U[j]]) := Lib.hid (rowS_take _ U hlt2)
          have r1 : (0 : Int) ≤ j := by omega
          have r2 : (j : Int) < U.length := by omega
          clear hcl
          generalize U[j] = y at *
          have HM := Lib.hid (mkS xo xn (txt y))
          have HBr := Lib.hid hb
          have xs := HX.out wr hb
          have hown2 := hown.out
          obtain ⟨F0, hF0⟩ : ∃ F0, rowS (⟨xo, xn⟩ : Rl) (U.take j) = F0 := ⟨_, rfl⟩
          rw [hF0] at hown2 hrl HTj
          clear hb hown hF0
          go_wp2_with fail
          refine (HM.out _).mono ?_
          rintro e w4 ⟨rfl, hb4⟩
          have hown4 := own_at hown2 hb4
          have HB4 := Lib.hid (nx HBr.out hb4)
          have hz4 := HB4.out.size
          clear hb4 hown2 HM z0
          go_wp2_with (at_builtin; refine wpList_append_own _ rfl _ _ 22 rfl w2.heap.size 67 i0 zeroS.val 9 136 Tryz.underlying22 hi hz0 hz1 hz2 rfl (by decide) _ _ _ rfl (hown4.alloc _) ⟨w4.heap.size, 0, none⟩ 1 1 [.int .i64 1, .string xo, .string xn, .string (txt y), .string ⟨#[]⟩, .string ⟨#[]⟩, .string ⟨#[]⟩, .string ⟨#[]⟩, .string ⟨#[]⟩] rfl rfl ?c1 ?c2 ?c3 ?c4 ?c5 ?_)
          case c1 => exact LwF.new_cells _ _ _
          case c2 => intro u hu; simp at hu; rcases hu with rfl | rfl | rfl | rfl | rfl | rfl | rfl | rfl | rfl <;> rfl
          case c3 => unfold maxLen; omega
          case c4 => omega
          case c5 => simp; omega
          intro v' w5 hown' hgrow _
          have HO5 : Hid (w5.ownsRow w2.heap.size 67 9 v' (rowS (⟨xo, xn⟩ : Rl) (U.take (j + 1))).length (stCells (rowS (⟨xo, xn⟩ : Rl) (U.take (j + 1))))) := Lib.hid (by
            rw [HTj.out, stCells_app, List.length_append, hrl]
            exact hown')
          have HB5 := Lib.hid (LwC.below_own HB4.out (Nat.le_refl _) hown4 hgrow hz4)
          clear hown' hown4 hgrow
          clear xs
          go_wp2_with fail
          go_roundw
          case rel => exact ⟨j + 1, by omega, by go_num, HO5, HB5.out⟩
          case measure => simp [intOf]; omega
        · have d2 : decide ((j : Int) < U.length) = false := by simp; omega
          have hjU : j = U.length := by omega
          subst hjU
          have hownr := hown.out
          rw [List.take_length] at hownr
          obtain ⟨Ar, cr, rfl⟩ := PolLi.own_n hownr
          have hownv := own_at HO2.out hb
          have hrowsv : RowsS w wr R := fun r hr => own_at (HR2.out r hr) hb
          have HBr := Lib.hid (HB2.out.trans (hb.mono HB2.out.size))
          have hzr := HBr.out.size
          have hrl2 : (rowS (⟨xo, xn⟩ : Rl) U).length = U.length := by unfold rowS; rw [List.length_map]
          have hnew : wr.ownsRow w.heap.size 67 9 (slcS ⟨Ar, cr, rowS (⟨xo, xn⟩ : Rl) U⟩) (rowS (⟨xo, xn⟩ : Rl) U).length (stCells (rowS (⟨xo, xn⟩ : Rl) U)) := Tab4.own_base hownr HB2.out.size
          unfold slcS at hnew
          rw [hrl2] at hnew ⊢
          clear hown hb hownr hrl
          go_wp2_with (at_builtin; refine wpList_append_own _ rfl _ _ 107 rfl w.heap.size 22 j0 (.slice none 0 0) 1 24 Tryz.underlying107 hj0 hjz0 hjz1 hjz2 rfl (by decide) _ _ _ rfl (hownv.alloc _) ⟨wr.heap.size, 0, none⟩ 1 1 [.slice Ar U.length cr] rfl rfl ?c1 ?c2 ?c3 ?c4 ?c5 ?_)
          try (case c1 => exact LwF.new_cells _ _ _)
          case c2 => first | rfl | (intro u hu; simp at hu; subst hu; rfl)
          case c3 => unfold maxLen; omega
          case c4 => omega
          case c5 => first | omega | (simp; omega)
          intro v' w5 hown' hgrow _
          have HO5 : Hid (w5.ownsRow w.heap.size 22 1 v' (R ++ [(⟨Ar, cr, rowS (⟨xo, xn⟩ : Rl) U⟩ : StA.RowS)]).length ((R ++ [(⟨Ar, cr, rowS (⟨xo, xn⟩ : Rl) U⟩ : StA.RowS)]).map slcS)) := Lib.hid (by
            rw [List.length_append, List.map_append]
            have e : [(⟨Ar, cr, rowS (⟨xo, xn⟩ : Rl) U⟩ : StA.RowS)].map slcS = [.slice Ar U.length cr] := by simp only [List.map_cons, List.map_nil, slcS]; rw [hrl2]
            rw [e, hRk]
            exact hown')
          have HR5 : Hid (RowsS w w5 (R ++ [(⟨Ar, cr, rowS (⟨xo, xn⟩ : Rl) U⟩ : StA.RowS)])) := Lib.hid (fun r hr => by
            rcases List.mem_append.1 hr with h | h
            · exact LwD.keep_own hownv (hrowsv r h) (by decide) hgrow
            · rw [List.mem_singleton] at h
              subst h
              have := LwD.keep_own hownv hnew (by decide) hgrow
              unfold slcS
              simp only
              rw [hrl2]
              exact this)
          have HMp : Hid ((R ++ [(⟨Ar, cr, rowS (⟨xo, xn⟩ : Rl) U⟩ : StA.RowS)]).map StA.RowS.l = (L.take (k + 1)).map fun x => rowS x U) := Lib.hid (by
            rw [HTk.out, List.map_append, List.map_append, hmap.out]; rfl)
          have HB5 := Lib.hid (LwC.below_own HBr.out (Nat.le_refl _) hownv hgrow hzr)
          clear hown' hownv hgrow hrowsv hnew
          go_wp2_with fail
          go_roundw
          case rel => exact ⟨k + 1, R ++ [(⟨Ar, cr, rowS (⟨xo, xn⟩ : Rl) U⟩ : StA.RowS)], by omega, by rw [List.length_append, hRk]; rfl, by go_num, HMp, HO5, HR5, HB5.out⟩
          case measure => simp [intOf]; omega
    · have d1 : decide ((k : Int) < L.length) = false := by simp; omega
      have hkL : k = L.length := by omega
      subst hRk
      have HFl : Hid (StA.flatTo R R.length = L.flatMap fun x => rowS x U) := Lib.hid (by
        have h := hmap.out
        rw [hkL, List.take_length] at h
        unfold StA.flatTo
        rw [List.take_length, h]
        exact (List.flatMap_def ..).symm)
      have HBr := Lib.hid hb
      have hown2 := hown.out
      have hz : w.heap.size ≤ wr.heap.size := hb.size
      rcases hown2.2 with ⟨rfl, h0⟩ | ⟨g, cap, cur, rfl, hgb, hgh, hgc, _⟩
      · have hR0 : R = [] := List.length_eq_zero_iff.1 h0
        have HF : Hid ((L.flatMap fun x => rowS x U) = []) := Lib.hid (by rw [← HFl.out, hR0]; rfl)
        have HC := Lib.hid (concat0S wr)
        unfold StA.SPost at HC
        clear hown hown2 hrows hmap hb HFl
        go_wp2_with fail
        refine HC.out.mono ?_
        rintro e w6 ⟨v6, rfl, ho6, hb6⟩
        have HO6 := Lib.hid (Tab4.own_base ho6 hz)
        have HB6 := Lib.hid (HBr.out.trans (hb6.mono hz))
        clear ho6 hb6 HC
        go_wp2_with fail
        go_ret
        exact ⟨_, rfl, by rw [HF.out]; exact HO6.out, HB6.out⟩
      · have hcs : ∀ j, (h : j < R.length) → wr.cell? ⟨g, j, none⟩ = some (.slice R[j].A R[j].l.length R[j].c) := fun j h => by
          have := hown2.cells (g := g) rfl j (slcS R[j]) (by simp [List.getElem?_eq_getElem h])
          rw [LwA.add_off, Nat.zero_add] at this
          exact this
        have hll : ∀ r ∈ R, r.l.length ≤ 1000 := fun r hr => by
          have h1 : r.l ∈ (L.take R.length).map fun x => rowS x U := by rw [← hmap.out]; exact List.mem_map.2 ⟨r, hr, rfl⟩
          obtain ⟨x, _, e⟩ := List.mem_map.1 h1
          rw [← e]; unfold rowS; rw [List.length_map]; omega
        have HC := Lib.hid (StA.concatS g cap R wr (by omega) hll (Array.getElem?_eq_some_iff.1 hgh).1 hcs (fun r hr => sg_of_own_ (hrows.out r hr)))
        rw [HFl.out] at HC
        unfold StA.SPost at HC
        clear hown hown2 hrows hmap hb HFl hcs hll hgh hkL hgc hgb
        go_wp2_with fail
        refine HC.out.mono ?_
        rintro e w6 ⟨v6, rfl, ho6, hb6⟩
        have HO6 := Lib.hid (Tab4.own_base ho6 hz)
        have HB6 := Lib.hid (HBr.out.trans (hb6.mono hz))
        clear ho6 hb6 HC
        go_wp2_with fail
        go_ret
        exact ⟨_, rfl, HO6.out, HB6.out⟩
end Go.Proofs.YtblapgfilbmdhaaGreatDoor.HiC
namespace Go.Proofs.YtblapgfilbmdhaaGreatDoor.PolC
open Go.RowKit Go.Sort Go.Lib Go.Proofs Plain SynP SynD SynD7 SynJ PolA
theorem two {w : World} {g : Nat} {d : Array Rl} (h : HoldsK Rl.cells 2 w g 0 d) (j : Nat) (hj : j < d.size) : ∀ c u, (Rl.cells d[j]!)[c]? = some u → w.cell? ⟨g, j * 2 + c, none⟩ = some u := fun c u hu => by
  have hc : c < 2 := by
    rcases Nat.lt_or_ge c 2 with h | h
    · exact h
    · rw [List.getElem?_eq_none (by show 2 ≤ c; exact h)] at hu; cases hu
  have q := (HoldsK.cell h (i := j) (c := c) hj hc).1
  rw [Nat.zero_add] at q
  rw [q, getElem!_pos _ _ (by rw [len2]; exact hc), ← List.getElem?_eq_getElem, hu]
theorem there_of {w : World} {g : Nat} {d : Array Rl} (h : HoldsK Rl.cells 2 w g 0 d) (i : Nat) (hi : i < d.size) : w.there g (i * 2) 2 := fun c hc => by
  have q := HoldsK.cell h (i := i) (c := c) hi hc
  rw [Nat.zero_add] at q
  exact ⟨by rw [q.1]; rfl, q.2⟩
theorem there_all {w : World} {g : Nat} {d : Array Rl} (h : HoldsK Rl.cells 2 w g 0 d) (i : Nat) (hi : i < d.size) : w.there g (i * 2) ((d.size - i) * 2) := fun c hc => by
  have q := HoldsK.cell h (i := i + c / 2) (c := c % 2) (by omega) (by omega)
  rw [Nat.zero_add, show (i + c / 2) * 2 + c % 2 = i * 2 + c by omega] at q
  exact ⟨by rw [q.1]; rfl, q.2⟩
theorem infoSz : (Tryz.prog.info? 28).map (·.size) = some 2 := by kernel_rfl
theorem stcell_one (x : Rl) : ∀ v ∈ (Rl.cells x), v.oneCell' = true := fun v hv => by
  simp [Rl.cells] at hv
  rcases hv with rfl | rfl <;> rfl
theorem store0 {W : World} {g : Nat} {d : Array Rl} (h : HoldsK Rl.cells 2 W g 0 d) (i : Nat) (hi : i < d.size) (x : Rl) : HoldsK Rl.cells 2 (W.setCells g (i * 2) (Rl.cells x)) g 0 (d.setIfInBounds i x) := by
  have := holdsK_store len2 (by omega) h i hi x
  rw [Nat.zero_add] at this
  exact this
def clr (n : Nat) : List Value := (Builtin.zeroCells zeroR.val.cells n).toList
theorem clr_len (n : Nat) : (clr n).length = n * 2 := by
  unfold clr Builtin.zeroCells
  simp; rfl
theorem clr_one (n : Nat) : ∀ v ∈ clr n, v.oneCell' = true := by
  intro v hv
  unfold clr Builtin.zeroCells at hv
  simp at hv
  obtain ⟨i, hi, rfl⟩ := hv
  have h9 : zeroR.val.cells.size = 2 := rfl
  have hlt : i % zeroR.val.cells.size < 2 := by rw [h9]; omega
  generalize i % zeroR.val.cells.size = r at hlt
  match r, hlt with
  | 0, _ => rfl
  | 1, _ => rfl
theorem run_clear2 (w : World) (b o n c : Nat) (hn : 0 < n) (ht : w.there b o (n * 2)) (ty : TypeId) : (Builtin.clear_ #[23] ty #[.slice (some ⟨b, o, none⟩) n c]).run Tryz.prog w = .ok (.tuple #[]) (w.setCells b o (clr n)) := by
  have hst := run_storeCells_cells (P := Tryz.prog) b o (clr n) 0 w (fun j hj => by rw [clr_len] at hj; simpa using (ht j hj).1) (fun j hj => by rw [clr_len] at hj; simpa using (ht j hj).2) (clr_one n)
  simp only [Nat.add_zero] at hst
  obtain ⟨m, rfl⟩ : ∃ m, n = m + 1 := ⟨n - 1, by omega⟩
  have hv : (zeroValue 28).run Tryz.prog w = .ok zeroR.val w := Tryz.zeroValue28 w
  have hc : (Builtin.zeroCells zeroR.val.cells (m + 1)).toList = clr (m + 1) := rfl
  simp [Builtin.clear_, run_underlying Tryz.underlying23, hv, hc, hst]
theorem wp_clear_run {P : Program} (w : World) {o : Oper} {a : Act} {K : Act → World → Prop} {Q : Exit → Act → World → Prop} (s : Operand) (t : TypeId)
    (ho : o.op = .call { callee := .builtin .clear, args := #[s], argTypes := #[t] }) (vs : Value) (hs : a.eval s = vs)
    (v' : Value) (w' : World) (hr : (Builtin.clear_ #[t] o.type #[vs]).run P w = .ok v' w') (h : K (a.put o.dst v') w') : o.wp P a w K Q := by
  unfold Oper.wp execOp
  simp only [ho, resolve, invoke, builtin, Sem.run_bind, Sem.run_pure, Result.andThen_ok, List.map_toArray, List.map_cons, List.map_nil, hs, hr]
  exact h
theorem wpList_clear_run {P : Program} (w : World) {ops : Array Oper} {rest : List Oper} {o : Oper} {a : Act} {Q : Exit → Act → World → Prop} (hgd : o.guard = none) (s : Operand) (t : TypeId)
    (ho : o.op = .call { callee := .builtin .clear, args := #[s], argTypes := #[t] }) (vs : Value) (hs : a.eval s = vs)
    (v' : Value) (w' : World) (hr : (Builtin.clear_ #[t] o.type #[vs]).run P w = .ok v' w') (h : wpList P ops Q rest (a.put o.dst v') w') : wpList P ops Q (o :: rest) a w :=
  wpList_plain hgd fun _ hK => wp_clear_run w s t ho vs hs v' w' hr (hK _ _ h)
theorem RAt.set_out {w : World} {g o : Nat} {R : List Rl} (h : RAt w (some ⟨g, 0, none⟩) R) (ho : R.length * 2 ≤ o) (vs : List Value) : RAt (w.setCells g o vs) (some ⟨g, 0, none⟩) R := fun hp => by
  obtain ⟨g', hA, hg, hc⟩ := h hp
  injection hA with hA
  injection hA with hA
  subst hA
  refine ⟨g, rfl, by rw [size_setCells]; exact hg, fun j hj => ?_⟩
  have key : ∀ i, i < R.length * 2 → (w.setCells g o vs).cell? ⟨g, i, none⟩ = w.cell? ⟨g, i, none⟩ := fun i hi => World.cell?_setCells_out g vs o w ⟨g, i, none⟩ (fun _ _ => Or.inl (by show i < o; omega))
  rw [key _ (by omega), key _ (by omega)]
  exact hc j hj
end Go.Proofs.YtblapgfilbmdhaaGreatDoor.PolC
namespace Go.Proofs.YtblapgfilbmdhaaGreatDoor.HiD
open Go.Shelf Go.RowKit Go.Sort Go.Lib Go.Proofs Plain SynP SynC SynD SynD7 SynJ PolA PolE
open StD (BX heap_setCells_ne)
abbrev nx := @LwH.nx
abbrev below_alloc := @LwL.below_alloc
def fitR (r : Rl) : Prop := True
theorem holds_block {w w' : World} {g : Nat} {d : Array Rl} (h : HoldsK Rl.cells 2 w g 0 d) (hg : w'.heap[g]? = w.heap[g]?) : HoldsK Rl.cells 2 w' g 0 d := fun t ht => by
  obtain ⟨a, b⟩ := h t ht
  exact ⟨(World.cell?_of_block (a := ⟨g, 0 + t, none⟩) hg).trans a, (World.frozen?_of_block (a := ⟨g, 0 + t, none⟩) hg).trans b⟩
theorem holds_low {w : World} {g : Nat} {dk : Array Rl} (h : HoldsK Rl.cells 2 w g 0 dk) (R : List Rl) (hR : R.length ≤ dk.size) (he : ∀ j, (hj : j < R.length) → R[j] = dk[j]!) : HoldsK Rl.cells 2 w g 0 R.toArray := fun t ht => by
  rw [size_flatK, List.size_toArray] at ht
  have e : (flatK Rl.cells 2 R.toArray)[t]! = (flatK Rl.cells 2 dk)[t]! := by
    rw [get_flatK _ _ _ _ (by rw [List.size_toArray]; exact ht), get_flatK _ _ _ _ (by omega)]
    congr 2
    rw [getElem!_pos _ _ (by rw [List.size_toArray]; omega), List.getElem_toArray]
    exact he _ _
  rw [e]
  exact h t (by rw [size_flatK]; omega)
theorem rholds_out {w : World} {g : Nat} {d : Array Rl} {o : Nat} (h : HoldsK Rl.cells 2 w g 0 d) (ho : d.size * 2 ≤ o) (vs : List Value) : HoldsK Rl.cells 2 (w.setCells g o vs) g 0 d := fun t ht => by
  obtain ⟨a, b⟩ := h t ht
  rw [size_flatK] at ht
  refine ⟨(World.cell?_setCells_out g vs o w ⟨g, 0 + t, none⟩ (fun _ _ => Or.inl (by show 0 + t < o; omega))).trans a, ?_⟩
  rw [World.frozen?_setCells]
  exact b
def NotAt (w : World) (b : Nat) (p : Rl → Bool) : Prop := ∀ s : Rl, fitR s → Calls Tryz.prog 87 #[s.val, .pointer (some ⟨b, 0, none⟩)] w fun e wx => e = .returned (.bool (!p s)) ∧ Below w.heap.size w wx
def IdxPost (p : Rl → Bool) (T : List Rl) (w : World) (e : Ending) (w' : World) : Prop :=
  Below w.heap.size w w' ∧ ((e = .returned (.int .i64 (-1)) ∧ T.all p = true) ∨ ∃ k : Nat, ∃ h : k < T.length, e = .returned (.int .i64 k) ∧ (∀ j, (hj : j < k) → p (T[j]'(by omega)) = true) ∧ p T[k] = false)
set_option maxHeartbeats 1000000 in
set_option maxRecDepth 100000 in
theorem idx (A : Option Addr) (ca b : Nat) (p : Rl → Bool) (T : List Rl) (w : World) (hT : T.length ≤ 100000) (hA : RG w A T) (hf : ∀ s ∈ T, fitR s) (hn : ∀ w', Below w.heap.size w w' → NotAt w' b p) :
    Calls Tryz.prog 124 #[.slice A T.length ca, .func (.func 87) #[] #[.pointer (some ⟨b, 0, none⟩)]] w (IdxPost p T w) := by
  have HA := Lib.hid (fun w' (hb : Below w.heap.size w w') => hA.below hb)
  have HN := Lib.hid hn
  have HFT := Lib.hid hf
  clear hA hn hf
  go_enter Tryz.func124, Tryz.ntmps124
  go_wp2_with fail
  go_loopw [8] (fun i wr => ∃ k : Nat, k ≤ T.length ∧ i = .int .i64 k ∧ Below w.heap.size w wr ∧ Hid (∀ j, (hj : j < k) → ∃ h : j < T.length, p T[j] = true)) (fun i _ => T.length - (intOf i).toNat)
  case atStart => exact ⟨0, by omega, rfl, Below.refl _ _, Lib.hid (fun j hj => by omega)⟩
  case round =>
    obtain ⟨k, hk, rfl, hb, hall⟩ := hrel
    have HB := Lib.hid hb
    by_cases hlt : k < T.length
    · have e1 : decide ((k : Int) < T.length) = true := by simp; omega
      obtain ⟨g, o, rfl, hg, hc⟩ := HA.out _ hb (by omega)
      obtain ⟨a0, a1⟩ := hc k hlt
      have HFk := Lib.hid (HN.out _ hb T[k] (HFT.out _ (List.getElem_mem hlt)))
      have HNX : Hid (p T[k] = true → ∀ j, (hj : j < k + 1) → ∃ h : j < T.length, p T[j] = true) := Lib.hid (fun h j hj => by
        by_cases e : j = k
        · subst e; exact ⟨hlt, h⟩
        · exact hall.out j (by omega))
      have HST : Hid (p T[k] = false → ∀ w', Below w.heap.size w w' → IdxPost p T w (.returned (.int .i64 k)) w') := Lib.hid (fun h w' hb => ⟨hb, .inr ⟨k, hlt, rfl, fun j hj => (hall.out j hj).2, h⟩⟩)
      have q0 : (0 : Int) ≤ k := by omega
      have q1 : (k : Int) < T.length := by omega
      clear hc hb hall hg
      generalize T[k] = x at *
      obtain ⟨ho, hn⟩ := x
      unfold Rl.val at HFk
      simp only at HFk a0 a1
      cases hpx : p ⟨ho, hn⟩
      · rw [hpx] at HFk
        have HE := Lib.hid (HST.out hpx)
        clear hpx HST HNX
        go_wp2_with fail
        refine HFk.out.mono ?_
        rintro e w1 ⟨rfl, hb1⟩
        have HB1 := Lib.hid (nx HB.out hb1)
        clear hb1 a0 a1
        go_wp2_with fail
        go_ret
        exact HE.out _ HB1.out
      · rw [hpx] at HFk
        have HE := Lib.hid (HNX.out hpx)
        clear hpx HST HNX
        go_wp2_with fail
        refine HFk.out.mono ?_
        rintro e w1 ⟨rfl, hb1⟩
        have HB1 := Lib.hid (nx HB.out hb1)
        clear hb1 a0 a1
        go_wp2_with fail
        go_roundw
        case rel => exact ⟨k + 1, by omega, by go_num, HB1.out, HE⟩
        case measure => simp [intOf]; omega
    · have e1 : decide ((k : Int) < T.length) = false := by simp; omega
      have HE : Hid (T.all p = true) := Lib.hid (by
        rw [List.all_eq_true]
        intro x hx
        obtain ⟨j, hj, rfl⟩ := List.getElem_of_mem hx
        exact (hall.out j (by omega)).2)
      clear hall hb
      go_wp2_with fail
      go_ret
      exact ⟨HB.out, .inl ⟨rfl, HE.out⟩⟩
structure DelInv (p : Rl → Bool) (d : Array Rl) (m k : Nat) (dk : Array Rl) : Prop where
  size : dk.size = d.size
  lt : k < m
  le : m ≤ d.size
  low : dk.toList.take k = (d.toList.take m).filter p
  len : ((d.toList.take m).filter p).length = k
  high : ∀ j, m ≤ j → dk[j]! = d[j]!
theorem take_snoc (d : Array Rl) {m : Nat} (hm : m < d.size) : d.toList.take (m + 1) = d.toList.take m ++ [d[m]!] := by
  rw [List.take_succ_eq_append_getElem (by simpa using hm), getElem!_pos d m hm]
  simp
theorem DelInv.start {p : Rl → Bool} {d : Array Rl} {i : Nat} (hi : i < d.size) (hall : ∀ j, j < i → p d[j]! = true) (hno : p d[i]! = false) : DelInv p d (i + 1) i d := by
  have hf : (d.toList.take i).filter p = d.toList.take i := by
    rw [List.filter_eq_self]
    intro x hx
    obtain ⟨j, hj, rfl⟩ := List.getElem_of_mem hx
    rw [List.length_take, Array.length_toList] at hj
    have := hall j (by omega)
    rw [getElem!_pos d j (by omega)] at this
    simpa using this
  refine ⟨rfl, by omega, by omega, ?_, ?_, fun _ _ => rfl⟩
  · rw [take_snoc d hi, List.filter_append, hf]; simp [hno]
  · rw [take_snoc d hi, List.filter_append, hf]; simp [hno]; omega
theorem DelInv.skip {p : Rl → Bool} {d dk : Array Rl} {m k : Nat} (h : DelInv p d m k dk) (hm : m < d.size) (hno : p d[m]! = false) : DelInv p d (m + 1) k dk := by
  refine ⟨h.size, by have := h.lt; omega, by omega, ?_, ?_, fun j hj => h.high j (by omega)⟩
  · rw [take_snoc d hm, List.filter_append, ← h.low]; simp [hno]
  · rw [take_snoc d hm, List.filter_append, List.length_append, h.len]; simp [hno]
theorem DelInv.keep {p : Rl → Bool} {d dk : Array Rl} {m k : Nat} (h : DelInv p d m k dk) (hm : m < d.size) (hp : p d[m]! = true) : DelInv p d (m + 1) (k + 1) (dk.setIfInBounds k d[m]!) := by
  have hlt := h.lt
  have hsz := h.size
  refine ⟨by simpa using h.size, by omega, by omega, ?_, ?_, fun j hj => ?_⟩
  · rw [take_snoc d hm, List.filter_append, ← h.low]
    have e : (dk.setIfInBounds k d[m]!).toList = dk.toList.set k d[m]! := by simp
    rw [e, List.take_succ_eq_append_getElem (by simp; omega)]
    simp [hp, List.take_set_of_le]
  · rw [take_snoc d hm, List.filter_append, List.length_append, h.len]; simp [hp]
  · rw [← h.high j (by omega)]
    by_cases hj2 : j < dk.size
    · rw [getElem!_pos (dk.setIfInBounds k d[m]!) j (by simpa using hj2), getElem!_pos dk j hj2, Array.getElem_setIfInBounds_ne (by simpa using hj2) (by omega)]
    · rw [getElem!_neg (dk.setIfInBounds k d[m]!) j (by simpa using hj2), getElem!_neg dk j hj2]
theorem DelInv.done {p : Rl → Bool} {d dk : Array Rl} {k : Nat} (h : DelInv p d d.size k dk) : dk.toList.take k = d.toList.filter p := by
  rw [h.low, List.take_of_length_le (by simp)]
def DelPost (g cap b : Nat) (p : Rl → Bool) (d : Array Rl) (w : World) (e : Ending) (w' : World) : Prop :=
  ∃ d' : Array Rl, e = .returned (.slice (some ⟨g, 0, none⟩) d'.size cap) ∧ d'.toList = d.toList.filter p ∧ HoldsK Rl.cells 2 w' g 0 d' ∧ BX g b w w' ∧ w.heap.size ≤ w'.heap.size
theorem del_none {g cap b : Nat} {p : Rl → Bool} {d : Array Rl} {w w' : World} (hH : HoldsK Rl.cells 2 w g 0 d) (hg : g < w.heap.size) (hlb : b < w.heap.size) (hb : Below w.heap.size w w') (h : d.toList.all p = true) : DelPost g cap b p d w (.returned (.slice (some ⟨g, 0, none⟩) d.size cap)) w' := by
  refine ⟨d, rfl, ?_, holds_block hH (hb.block g hg), (BX.refl g b w).below hg hlb hb, hb.size⟩
  symm
  rw [List.filter_eq_self]
  intro x hx
  exact List.all_eq_true.1 h x hx
theorem holds_take {w : World} {g k : Nat} {d : Array Rl} (h : HoldsK Rl.cells 2 w g 0 d) (hk : k ≤ d.size) : HoldsK Rl.cells 2 w g 0 (d.toList.take k).toArray :=
  holds_low h _ (by rw [List.length_take, Array.length_toList]; omega) fun j hj => by
    rw [List.length_take, Array.length_toList] at hj
    rw [getElem!_pos d j (by omega)]; simp
theorem del_end {g cap kk b : Nat} {p : Rl → Bool} {d dk : Array Rl} {w wr : World} (hH : HoldsK Rl.cells 2 wr g 0 dk) (hb : BX g b w wr) (hne : b ≠ g) (hs : w.heap.size ≤ wr.heap.size) (hI : DelInv p d d.size kk dk) : DelPost g cap b p d w (.returned (.slice (some ⟨g, 0, none⟩) kk cap)) (wr.setCells g (kk * 2) (PolC.clr (d.size - kk))) := by
  have hlt := hI.lt
  have hsz := hI.size
  have hz : (dk.toList.take kk).toArray.size = kk := by simp; omega
  refine ⟨(dk.toList.take kk).toArray, by rw [hz], ?_, rholds_out (holds_take hH (by omega)) (by rw [hz]; exact Nat.le_refl _) _, hb.setCells hne _ _, by rw [size_setCells]; exact hs⟩
  rw [hI.low, show d.toList.take d.size = d.toList from List.take_of_length_le (by simp)]
theorem start_of {p : Rl → Bool} {d : Array Rl} {k : Nat} (hk : k < d.toList.length) (hall : ∀ j, (hj : j < k) → p (d.toList[j]'(by omega)) = true) (hno : p d.toList[k] = false) : DelInv p d (k + 1) k d := by
  have hk2 : k < d.size := by simpa using hk
  refine DelInv.start hk2 (fun j hj => ?_) ?_
  · have := hall j hj
    rw [getElem!_pos d j (by omega)]
    simpa using this
  · rw [getElem!_pos d k hk2]
    simpa using hno
theorem rg_of_holds {w : World} {g : Nat} {d : Array Rl} (h : HoldsK Rl.cells 2 w g 0 d) : RG w (some ⟨g, 0, none⟩) d.toList :=
  RG.of_rat (RAt.of_holds h _ (by simp) fun j hj => by rw [getElem!_pos d j (by simpa using hj)]; simp)
set_option maxHeartbeats 2000000 in
set_option maxRecDepth 100000 in
theorem del (g cap b : Nat) (d : Array Rl) (p : Rl → Bool) (w : World) (hs : d.size ≤ 100000) (hcap : d.size ≤ cap) (hcm : cap ≤ maxLen) (hH : HoldsK Rl.cells 2 w g 0 d) (hg : g < w.heap.size) (hlb : b < w.heap.size) (hne : b ≠ g) (hf : ∀ s ∈ d.toList, fitR s) (hn : ∀ w', BX g b w w' → w.heap.size ≤ w'.heap.size → NotAt w' b p) :
    Calls Tryz.prog 89 #[.slice (some ⟨g, 0, none⟩) d.size cap, .func (.func 87) #[] #[.pointer (some ⟨b, 0, none⟩)]] w (DelPost g cap b p d w) := by
  have HI : Hid (Calls Tryz.prog 124 #[.slice (some ⟨g, 0, none⟩) d.size cap, .func (.func 87) #[] #[.pointer (some ⟨b, 0, none⟩)]] w (IdxPost p d.toList w)) := Lib.hid (idx (some ⟨g, 0, none⟩) cap b p d.toList w (by simpa using hs) (rg_of_holds hH) hf (fun w' hb => hn w' ((BX.refl g b w).below hg hlb hb) hb.size))
  have HF := Lib.hid hn
  have HFT : Hid (∀ j, j < d.size → fitR d[j]!) := Lib.hid (fun j hj => by
    rw [getElem!_pos d j hj]
    exact hf _ (by simp))
  have HH := Lib.hid hH
  have HN := Lib.hid (fun w' hb h => del_none (cap := cap) (b := b) (p := p) (w' := w') hH hg hlb hb h)
  clear hH hn hf
  have hm : maxLen = 9223372036854775807 := rfl
  go_enter Tryz.func89, Tryz.ntmps89
  go_wp2_with fail
  refine HI.out.mono ?_
  rintro e w1 ⟨hb1, ⟨rfl, hall⟩ | ⟨k, hk, rfl, hall, hno⟩⟩
  · have HE := Lib.hid (HN.out _ hb1 hall)
    clear hall hb1 HI HF HN
    go_wp2_with fail
    go_ret
    exact HE.out
  · have HS := Lib.hid (start_of hk hall hno)
    have HHK := Lib.hid (holds_block HH.out (hb1.block g hg))
    have HB1 := Lib.hid ((BX.refl g b w).below hg hlb hb1)
    have hz1 := hb1.size
    have hk2 : k < d.size := by simpa using hk
    clear hall hno hb1 HI HN hk
    have d1 : ((k : Int) == -1) = false := by first | (simp; done) | (simp; omega)
    go_wp2_with fail
    go_loopw [5, 6] (fun s5 s6 wr => ∃ (kk m : Nat) (dk : Array Rl), s5 = .int .i64 kk ∧ s6 = .int .i64 m ∧ m ≤ d.size ∧ Hid (HoldsK Rl.cells 2 wr g 0 dk) ∧ Hid (BX g b w wr) ∧ w.heap.size ≤ wr.heap.size ∧ Hid (DelInv p d m kk dk)) (fun _ s6 _ => d.size - (intOf s6).toNat)
    case atStart => exact ⟨k, k + 1, d, rfl, rfl, by omega, HHK, HB1, hz1, HS⟩
    case round =>
      obtain ⟨kk, m, dk, rfl, rfl, hm2, hHk, hbel, hszr, hI⟩ := hrel
      have hkk := hI.out.lt
      have hds := hI.out.size
      by_cases hlt : m < d.size
      · have e1 : decide ((m : Int) < d.size) = true := by simp; omega
        have c1 := PolC.two hHk.out m (by omega)
        rw [hI.out.high m (Nat.le_refl _)] at c1
        have HSK := Lib.hid (fun h => hI.out.skip hlt h)
        have HKP := Lib.hid (fun h => hI.out.keep hlt h)
        have hfx := HFT.out m hlt
        have HFk := Lib.hid (fun w' hb hz => HF.out w' hb hz d[m]! hfx)
        generalize d[m]! = x at *
        obtain ⟨ho, hn⟩ := x
        have a0 := c1 0 _ rfl
        have a1 := c1 1 _ rfl
        rw [Nat.add_zero] at a0
        have q0 : (0 : Int) ≤ m := by omega
        have q1 : (m : Int) < d.size := by omega
        have q6 : (0 : Int) ≤ kk := by omega
        have q7 : (kk : Int) < d.size := by omega
        have hgr : g < wr.heap.size := by omega
        have hbr : b < wr.heap.size := by omega
        have HBA := Lib.hid (hbel.out.below hgr hbr (below_alloc wr (.cells #[.string ho, .string hn] 28)))
        have HHA := Lib.hid (holds_block hHk.out ((below_alloc wr (.cells #[.string ho, .string hn] 28)).block g hgr))
        have HBX := Lib.hid (heap_alloc_new wr (.cells #[.string ho, .string hn] 28))
        have HCL := Lib.hid (HFk.out _ HBA.out (by simp; omega))
        unfold Rl.val at HCL
        simp only at HCL
        clear c1 HF HFk HHK HB1 HS hfx
        go_upto_region 8 with fail
        have hszA : (wr.alloc (.cells #[.string ho, .string hn] 28)).heap.size = wr.heap.size + 1 := by simp
        generalize wr.alloc (.cells #[.string ho, .string hn] 28) = wa at *
        have cb := fun o => Lib.cell_of_heap HBX.out o
        clear a0 a1
        cases hpx : p ⟨ho, hn⟩
        · rw [hpx] at HCL
          have HI2 := Lib.hid (HSK.out hpx)
          clear hpx HSK HKP
          go_wp2_with fail
          refine HCL.out.mono ?_
          rintro e w2 ⟨rfl, hb2⟩
          have HH2 := Lib.hid (holds_block HHA.out (hb2.block g (by omega)))
          have HB2 := Lib.hid (HBA.out.below (by omega) (by omega) hb2)
          have hz2 := hb2.size
          clear hb2 cb HCL
          go_wp2_with fail
          go_roundw
          case rel => exact ⟨kk, m + 1, dk, rfl, by go_num, by omega, HH2, HB2, by omega, HI2⟩
          case measure => simp [intOf]; omega
        · rw [hpx] at HCL
          have HI2 := Lib.hid (HKP.out hpx)
          clear hpx HSK HKP
          go_wp2_with fail
          refine HCL.out.mono ?_
          rintro e w2 ⟨rfl, hb2⟩
          have HH2 := Lib.hid (holds_block HHA.out (hb2.block g (by omega)))
          have HB2 := Lib.hid (HBA.out.below (by omega) (by omega) hb2)
          have hz2 := hb2.size
          have cb2 := fun o => Lib.cell_of_heap ((hb2.block wr.heap.size (by omega)).trans HBX.out) o
          have hth := Lib.hid (PolC.there_of HH2.out kk (by omega))
          clear hb2 cb HCL
          go_wp2_with ((with_reducible refine wpList_store_mid (op := ⟨none, .store 28 (.tmp 33) (.tmp 32), _, _, _, none⟩) ?_ 28 (.tmp 33) (.tmp 32) ?_ g (kk * 2) (Rl.cells ⟨ho, hn⟩).toArray ?_ ?_ ?_ ?_ ?_ ?_); (rfl); (rfl); (simp [Act.eval]); (simp [Act.eval, Rl.cells]); (exact hth.out); (exact PolC.infoSz); (exact all_oneCell_toArray (PolC.stcell_one _)))
          go_roundw
          case rel =>
            refine ⟨kk + 1, m + 1, dk.setIfInBounds kk ⟨ho, hn⟩, by go_num, by go_num, by omega, Lib.hid ?_, Lib.hid (HB2.out.setCells hne _ _), by rw [size_setCells]; omega, HI2⟩
            exact PolC.store0 HH2.out kk (by omega) _
          case measure => simp [intOf]; omega
      · have e1 : decide ((m : Int) < d.size) = false := by simp; omega
        obtain rfl : m = d.size := by omega
        have hfin := Lib.hid (del_end (cap := cap) hHk.out hbel.out hne hszr hI.out)
        have hth := Lib.hid (PolC.there_all hHk.out kk (by omega))
        rw [hds] at hth
        clear hHk hbel hI HF
        go_wp2_with ((with_reducible refine PolC.wpList_clear_run (o := ⟨none, .call { callee := .builtin .clear, args := #[.tmp 38], argTypes := #[23] }, _, _, _, none⟩) _ ?_ (.tmp 38) 23 ?_ (.slice (some ⟨g, kk * 2, none⟩) (d.size - kk) (cap - kk)) ?_ (.tuple #[]) (wr.setCells g (kk * 2) (PolC.clr (d.size - kk))) ?_ ?_); (rfl); (rfl); (simp [Act.eval]); (exact PolC.run_clear2 _ g (kk * 2) (d.size - kk) (cap - kk) (by omega) hth.out _))
        go_ret
        exact hfin.out
set_option maxHeartbeats 1000000 in
theorem idxNone (f : Value) (w : World) : Calls Tryz.prog 124 #[.slice none 0 0, f] w fun e w' => e = .returned (.int .i64 (-1)) ∧ w' = w := by
  go_enter Tryz.func124, Tryz.ntmps124
  go_wp2_with fail
  go_loop [8] (fun i => i = .int .i64 0) (fun i => 0)
  case atStart => rfl
  case round =>
    subst hrel
    go_wp2_with fail
    go_ret
    exact ⟨rfl, rfl⟩
theorem delNone (f : Value) (w : World) : Calls Tryz.prog 89 #[.slice none 0 0, f] w fun e w' => e = .returned (.slice none 0 0) ∧ w' = w := by
  have HI := Lib.hid (idxNone f w)
  go_enter Tryz.func89, Tryz.ntmps89
  go_wp2_with fail
  refine HI.out.mono ?_
  rintro e w1 ⟨rfl, rfl⟩
  go_wp2_with fail
  go_ret
  exact ⟨rfl, rfl⟩
end Go.Proofs.YtblapgfilbmdhaaGreatDoor.HiD
namespace Go.Proofs.YtblapgfilbmdhaaGreatDoor.HiE
open Go.Shelf Go.RowKit Go.Sort Go.Lib Go.Proofs Plain SynP SynD2 SynJ TabP Tab1 QryP PolA PolE PolG PolH PolLi PolOp TblB TblR LwH HiA
open HiD (NotAt DelPost del delNone rg_of_holds fitR)
abbrev nx6 := @LwH.nx
def free (G : List Rl) (r : Rl) : Bool := !decide (r ∈ G)
set_option maxRecDepth 100000 in
theorem clo (S : Option Addr) (ns : Nat) (cs : Nat) (A2 : Option Addr) (c2 : Nat) (G : List Rl) (v3 v4 : Value) (b : Nat) (w : World) (hb : ∀ o, w.cell? ⟨b, o, none⟩ = (#[.slice S ns cs, .slice A2 G.length c2, v3, v4] : Array Value)[o]?) (hG : RG w A2 G) (hl : G.length ≤ 10000) : NotAt w b (free G) := by
  intro s _
  have y1 : w.cell? ⟨b, 1, none⟩ = some (.slice A2 G.length c2) := by rw [hb]; rfl
  have lb := World.block_lt_of_cell? _ _ y1
  simp only at lb
  obtain ⟨o, n⟩ := s
  have HH := Lib.hid (PolK.has_ A2 c2 G ⟨o, n⟩ (w.alloc (.cells #[.string o, .string n] 28)) hl (hG.below (LwL.below_alloc w _)))
  have hnw := heap_alloc_new w (.cells #[.string o, .string n] 28)
  have z1 : (w.alloc (.cells #[.string o, .string n] 28)).cell? ⟨b, 1, none⟩ = some (.slice A2 G.length c2) := by
    rw [(LwL.below_alloc w _).cell (p := ⟨b, 1, none⟩) lb]
    exact y1
  have z2 : (w.alloc (.cells #[.string o, .string n] 28)).cell? ⟨w.heap.size, 0, none⟩ = some (.string o) := Lib.cell_of_heap hnw 0
  have z3 : (w.alloc (.cells #[.string o, .string n] 28)).cell? ⟨w.heap.size, 1, none⟩ = some (.string n) := Lib.cell_of_heap hnw 1
  have HB := Lib.hid (LwL.below_alloc w (.cells #[.string o, .string n] 28))
  have ef : (!free G ⟨o, n⟩) = decide ((⟨o, n⟩ : Rl) ∈ G) := by unfold free; simp
  rw [ef]
  generalize decide ((⟨o, n⟩ : Rl) ∈ G) = bb at *
  unfold Rl.val at *
  simp only at HH ⊢
  clear hb hG hl hnw y1 lb ef
  go_enter Tryz.func87, Tryz.ntmps87
  go_upto_region 1 with fail
  obtain ⟨bx, hbx⟩ : ∃ bx, w.heap.size = bx := ⟨_, rfl⟩
  rw [hbx] at z2 z3
  simp only [hbx]
  generalize w.alloc (.cells #[.string o, .string n] 28) = w1 at *
  go_wp2_with fail
  refine HH.out.mono ?_
  rintro e w2 ⟨rfl, hb2⟩
  go_wp2_with fail
  go_ret
  exact ⟨rfl, nx6 HB.out hb2⟩
theorem own_cap {w : World} {B n cap m z g : Nat} {e : TypeId} {xs : List Value} (h : w.ownsRow B e z (.slice (some ⟨g, 0, none⟩) n cap) m xs) : cap ≤ maxLen := by
  rcases h.2 with ⟨h0, _⟩ | ⟨g', cap', cur, hv, _, _, _, hm, _⟩
  · cases h0
  · injection hv with _ _ h3
    subst h3
    exact hm
def RolesPost (l : List Rl) (w : World) (e : Ending) (w' : World) : Prop := ∃ A c, e = .returned (.slice A l.length c) ∧ RG w' A l ∧ Below w.heap.size w w'
theorem roles_end {g cap b : Nat} {p : Rl → Bool} {d : Array Rl} {w w1 : World} {l : List Rl} (hl : l = d.toList.filter p) (hB : w.heap.size ≤ g) (hb : Below w.heap.size w w1) : ∀ e w2, DelPost g cap b p d w1 e w2 → RolesPost l w e w2 := by
  rintro e w2 ⟨d', rfl, hd', hH, hx, _⟩
  refine ⟨some ⟨g, 0, none⟩, cap, ?_, ?_, hb.trans (hx.lo.mono hB)⟩
  · rw [hl, ← hd', Array.length_toList]
  · rw [hl, ← hd']; exact rg_of_holds hH
set_option maxHeartbeats 2000000 in
set_option maxRecDepth 100000 in
theorem roles (p : Py) (A1 A2 A3 A4 : Option Addr) (c1 c2 c3 c4 : Nat) (w : World) (hw : Tab3.Pow w) (hf : Few p) (hc : Came p) (hp : PG w A1 A2 A3 A4 p) (hE : (ET p).length ≤ 7) (hN : (NT p).length ≤ 4) :
    Calls Tryz.prog 48 #[p.val A1 A2 A3 A4 c1 c2 c3 c4] w (RolesPost (hRoles p) w) := by
  have HEv := Lib.hid (fun w' (hb : Below w.heap.size w w') => HiB.everybody p A1 A2 A3 A4 c1 c2 c3 c4 w' (Tab3.Pow.keep hw (Laid.pow_lt hw) hb) hf hc (hp.below hb))
  have HNa : Hid (∀ w', Below w.heap.size w w' → Calls Tryz.prog 85 #[p.val A1 A2 A3 A4 c1 c2 c3 c4] w' (Tab5.RowPost (NT p) w')) := Lib.hid (fun w' (hb : Below w.heap.size w w') => PolH.names p A1 A2 A3 A4 c1 c2 c3 c4 w' (hf.fit hc) (hp.below hb))
  have HG := Lib.hid (fun w' (hb : Below w.heap.size w w') => (hp.below hb).g)
  have hgl : p.grow.length ≤ 10000 := Nat.le_trans hf.n2 (by omega)
  have HR : Hid (hRoles p = ((ET p).flatMap fun x => HiC.rowR x (NT p)).filter (free p.grow)) := Lib.hid rfl
  unfold Tab5.RowPost at *
  generalize hRoles p = RR at *
  generalize ET p = EE at *
  generalize NT p = NN at *
  obtain ⟨S, G, H, Q⟩ := p
  unfold Py.val at *
  dsimp only at *
  have hbX := (Below.refl w.heap.size w).alloc (Nat.le_refl _) (.cells #[.slice A1 S.length c1, .slice A2 G.length c2, .slice A3 H.length c3, .slice A4 Q.length c4] 26)
  have hcl := heap_alloc_new w (.cells #[.slice A1 S.length c1, .slice A2 G.length c2, .slice A3 H.length c3, .slice A4 Q.length c4] 26)
  have HB := Lib.hid hbX
  clear hbX hf hc hp hw
  go_enter Tryz.func48, Tryz.ntmps48
  go_upto_region 1 with fail
  obtain ⟨bp, hbp⟩ : ∃ bp, w.heap.size = bp := ⟨_, rfl⟩
  simp only [hbp] at hcl ⊢
  generalize w.alloc (.cells #[.slice A1 S.length c1, .slice A2 G.length c2, .slice A3 H.length c3, .slice A4 Q.length c4] 26) = w0 at *
  have HBW : Hid (bp < w0.heap.size) := Lib.hid (Array.getElem?_eq_some_iff.1 hcl).1
  have HCL : Hid (w0.heap[bp]? = some (.cells #[.slice A1 S.length c1, .slice A2 G.length c2, .slice A3 H.length c3, .slice A4 Q.length c4] 26 (0, 0))) := Lib.hid hcl
  have HKK : Hid (∀ w', Below w0.heap.size w0 w' → Below w0.heap.size w0 w' ∧ (∀ o, w'.cell? ⟨bp, o, none⟩ = (#[.slice A1 S.length c1, .slice A2 G.length c2, .slice A3 H.length c3, .slice A4 Q.length c4] : Array Value)[o]?)) := Lib.hid (fun w' hb => ⟨hb, fun o => Lib.cell_of_heap ((hb.block bp (Array.getElem?_eq_some_iff.1 hcl).1).trans hcl) o⟩)
  have hst := HKK.out w0.drew ((Below.refl _ _).drew)
  have M1 := Lib.hid (fun w' (hb' : Below w0.heap.size w0 w') => HEv.out w' (nx6 HB.out hb'))
  have M2 := Lib.hid (fun w' (hb' : Below w0.heap.size w0 w') => HNa.out w' (nx6 HB.out hb'))
  have hszb : w.heap.size ≤ w0.heap.size := HB.out.size
  clear hcl HEv HNa
  go_region_held3 (fun w' => Below w0.heap.size w0 w' ∧ (∀ o, w'.cell? ⟨bp, o, none⟩ = (#[.slice A1 S.length c1, .slice A2 G.length c2, .slice A3 H.length c3, .slice A4 Q.length c4] : Array Value)[o]?))
    (first | with_reducible exact hst | with_reducible assumption | exact HKK.out _ (nx6 (by apply And.left; with_reducible assumption) (by with_reducible assumption)) | exact HKK.out _ (nx6 (by apply And.left; with_reducible assumption) (LwL.below_alloc _ _)))
    (first | ((with_reducible refine (M1.out _ (by apply And.left; with_reducible assumption)).mono ?_); rintro e x1 ⟨v1, rfl, ho1, hb1⟩; obtain ⟨Q1, q1, rfl, _, hr1⟩ := SRow.of_own ho1)
           | ((with_reducible refine (M2.out _ (by apply And.left; with_reducible assumption)).mono ?_); rintro e x2 ⟨v2, rfl, ho2, hb2⟩; obtain ⟨Q2, q2, rfl, _, hr2⟩ := SRow.of_own ho2))
  all_goals rename_i hHeld
  all_goals
    have hboth := And.intro hHeld (by first | exact And.intro hr1 (hr2.keep hb1) | exact And.intro (hr1.keep hb2) hr2)
    clear hHeld ho1 ho2 hr1 hr2 hb1 hb2 hst
    obtain ⟨⟨hbz, hcz⟩, hs1, hs2⟩ := hboth
    clear hcz
    have HBZ := Lib.hid hbz
    have d1 : decide (64 < EE.length) = false := by simp; omega
    have d2 : decide (64 < NN.length) = false := by simp; omega
    have d3 : decide ((64 : Int) < EE.length) = false := by simp; omega
    have d4 : decide ((64 : Int) < NN.length) = false := by simp; omega
    have HP := Lib.hid (HiC.pairsR Q1 Q2 q1 q2 EE NN _ (by omega) (by omega) hs1 hs2)
    have HNT : Hid (∀ w', Below w0.heap.size w0 w' → ∀ w'', w''.heap[bp]? = w'.heap[bp]? → RG w'' A2 G → NotAt w'' bp (free G)) := Lib.hid (fun w' hb w'' he hg => clo A1 S.length c1 A2 c2 G _ _ bp w'' (fun o => Lib.cell_of_heap (he.trans ((hb.block bp HBW.out).trans HCL.out)) o) hg hgl)
    clear hbz hs1 hs2
    unfold PolF.RPost at HP
    have HFL : Hid ((EE.flatMap fun x => HiC.rowR x NN).length ≤ 100000) := Lib.hid (by rw [flat_len _ NN.length EE (fun x _ => by unfold HiC.rowR; simp)]; exact Nat.le_trans (Nat.mul_le_mul hE hN) (by omega))
    generalize (EE.flatMap fun x => HiC.rowR x NN) = FL at *
    go_wp2_with fail
    refine HP.out.mono ?_
    rintro e x6 ⟨v6, rfl, ho6, hb6⟩
    have HB6 := Lib.hid (nx6 HBZ.out hb6)
    have hsz6 := HBZ.out.size
    rcases rholds_own ho6 with ⟨h0, rfl⟩ | ⟨g, cap, rfl, hcap, hBg, hgs, hH⟩
    · have HR0 : Hid (RR = []) := Lib.hid (by rw [HR.out, h0]; rfl)
      clear h0 ho6 hb6 HP
      go_wp2_with fail
      refine (delNone _ _).mono ?_
      rintro e x7 ⟨rfl, rfl⟩
      go_wp2_with fail
      go_ret
      exact ⟨none, 0, by rw [HR0.out]; rfl, by rw [HR0.out]; intro h; exact absurd h (by simp), nx6 HB.out HB6.out⟩
    · have hcm := own_cap ho6
      obtain ⟨d, hd⟩ : ∃ d : Array Rl, d.toList = FL := ⟨FL.toArray, rfl⟩
      subst hd
      have hdl : d.toList.length = d.size := Array.length_toList
      rw [hdl] at hcap ⊢
      have hlen : d.size ≤ 100000 := by rw [← hdl]; exact HFL.out
      have hH2 : HoldsK Rl.cells 2 x6 g 0 d := by simpa using hH
      have HD := Lib.hid (del g cap bp d (free G) x6 hlen hcap hcm hH2 hgs (Nat.lt_of_lt_of_le HBW.out HB6.out.size) (by have := HBW.out; omega) (fun _ _ => trivial) (fun w' hx hz => HNT.out x6 HB6.out w' hx.k (HG.out w' ((nx6 HB.out HB6.out).trans (hx.lo.mono (by omega))))))
      have HE := Lib.hid (roles_end (cap := cap) (b := bp) HR.out (show w.heap.size ≤ g by omega) (nx6 HB.out HB6.out))
      clear ho6 hb6 HP hH hH2 hlen hcap hcm hgs hBg hdl
      go_wp2_with fail
      refine HD.out.mono ?_
      intro e x7 h7
      have HF := Lib.hid (HE.out e x7 h7)
      obtain ⟨d', rfl, _⟩ := h7
      go_wp2_with fail
      go_ret
      exact HF.out
end Go.Proofs.YtblapgfilbmdhaaGreatDoor.HiE
namespace Go.Proofs.YtblapgfilbmdhaaGreatDoor.HiI
open Go.RowKit Go.Sort Go.Lib Go.Proofs Plain SynP TabP Tab1 Tab5 PolA PolE PolG PolH PolOp PolLi TblR LwH HiA
theorem prins5 (p : Py) (A1 A2 A3 A4 : Option Addr) (c1 c2 c3 c4 : Nat) (w : World) (hf : Few p) (hc : Came p) (hp : PG w A1 A2 A3 A4 p) : Calls Tryz.prog 11 #[p.val A1 A2 A3 A4 c1 c2 c3 c4] w (RowPost (PT p) w) := by
  have h := RefPq.prinsRef p A1 A2 A3 A4 c1 c2 c3 c4 w (hf.fit hc) (by have := hf.n4; omega) hp
  rw [RefFi.prins_eq] at h
  exact h
theorem names5 (p : Py) (A1 A2 A3 A4 : Option Addr) (c1 c2 c3 c4 : Nat) (w : World) (hf : Few p) (hc : Came p) (hp : PG w A1 A2 A3 A4 p) : Calls Tryz.prog 12 #[p.val A1 A2 A3 A4 c1 c2 c3 c4] w (RowPost (NT p) w) := by
  have h := RefPr.namesRef p A1 A2 A3 A4 c1 c2 c3 c4 w (hf.fit hc) hp
  rw [RefFi.names_eq] at h
  exact h
end Go.Proofs.YtblapgfilbmdhaaGreatDoor.HiI
namespace Go.Proofs.YtblapgfilbmdhaaGreatDoor.HiJ
open Go.Shelf Go.RowKit Go.Sort Go.Lib Go.Proofs Plain SynP SynD2 SynJ TabP Tab1 QryP PolA PolE PolG PolH PolLi PolOp TblB TblR LwH HiA
open HiE (free)
end Go.Proofs.YtblapgfilbmdhaaGreatDoor.HiJ
namespace Go.Proofs.YtblapgfilbmdhaaGreatDoor.HiK
open Go.Shelf Go.RowKit Go.Sort Go.Lib Go.Proofs Plain SynP SynD SynD2 SynD3 SynJ TabP Tab1 QryP PolA PolE PolG PolH PolLi PolOp TblB TblR LwH HiA
end Go.Proofs.YtblapgfilbmdhaaGreatDoor.HiK
namespace Go.Proofs.YtblapgfilbmdhaaGreatDoor.HiL
open Go.RowKit Go.Sort Go.Lib Go.Proofs Plain SynP SynJ TabP Tab2 QryP PolE PolG PolH TblA TblC TblF TblP TblQ TblR TblT StR RefPr LwA LwH LwM HiA
structure Rp (p : Py) : Prop where
  st : ∀ s ∈ p.stmts, s.right = true
  gh : ∀ r ∈ p.grow ++ p.shrink, r.ok = true
  qs : ∀ q ∈ p.asks, q.right = true
  ps : (PT p).length ≤ 16
  ns : (NT p).length ≤ 12
theorem rp_of {p : Py} (h : rightR p = true) : Rp p := by
  have ht := LwT.rt_of h
  unfold rightR at h
  simp only [Bool.and_eq_true] at h
  obtain ⟨h1, h2, h3, _⟩ := h
  exact ⟨fun s hs => List.all_eq_true.1 h1 s hs, fun r hr => List.all_eq_true.1 h2 r hr, fun q hq => List.all_eq_true.1 h3 q hq, ht.ps, ht.ns⟩
theorem says_parts {s : St} (h : s.right = true) : s.head.ok = true ∧ (s.kind = 1 → named capB s.who.data.toList = true) ∧ (s.kind = 2 ∨ s.kind = 3 → s.a.ok = true) ∧ (s.kind = 4 → s.a.ok = true ∧ s.b.ok = true) ∧ (s.kind = 3 → named smallB s.via.data.toList = true) := by
  unfold St.right at h
  simp only [Bool.and_eq_true] at h
  obtain ⟨⟨h1, h2⟩, _⟩ := h
  unfold St.says at h2
  refine ⟨h1, fun k => ?_, fun k => ?_, fun k => ?_, fun k => ?_⟩
  · rw [if_pos k] at h2; exact h2
  · rcases k with k | k
    · rw [if_neg (by omega), if_pos k] at h2; exact h2
    · rw [if_neg (by omega), if_neg (by omega), if_pos k, Bool.and_eq_true] at h2; exact h2.1
  · rw [if_neg (by omega), if_neg (by omega), if_neg (by omega), if_pos k, Bool.and_eq_true, Bool.and_eq_true] at h2; exact h2.1
  · rw [if_neg (by omega), if_neg (by omega), if_pos k, Bool.and_eq_true] at h2; exact h2.2
theorem role_ok {p : Py} (h : Rp p) : ∀ r ∈ rolesP p, r.ok = true := by
  intro r hr
  unfold rolesP at hr
  rw [List.mem_append, List.mem_append] at hr
  rcases hr with (hr | hr) | hr
  · exact h.gh r hr
  · unfold rolesS at hr
    rw [List.take_length] at hr
    obtain ⟨l, hl, hr⟩ := List.mem_flatten.1 hr
    obtain ⟨s, hs, rfl⟩ := List.mem_map.1 hl
    obtain ⟨f1, _, f3, f4, _⟩ := says_parts (h.st s hs)
    unfold rolesL at hr
    split at hr
    · rename_i hk
      simp at hr
      rcases hr with rfl | rfl
      · exact f1
      · exact f3 hk
    · split at hr
      · rename_i hk
        simp at hr
        rcases hr with rfl | rfl | rfl
        · exact f1
        · exact (f4 hk).1
        · exact (f4 hk).2
      · simp at hr
        subst hr
        exact f1
  · unfold rolesA at hr
    rw [List.take_length] at hr
    obtain ⟨l, hl, hr⟩ := List.mem_flatten.1 hr
    obtain ⟨q, hq, rfl⟩ := List.mem_map.1 hl
    have hqr := h.qs q hq
    unfold Qy.right at hqr
    rw [Bool.and_eq_true] at hqr
    unfold QryO.rolesQ at hr
    split at hr
    · rename_i hk
      simp at hr
      rcases hr with rfl | rfl
      · exact hqr.1
      · have h2 := hqr.2
        unfold QryP.hasBk at hk
        simp only [Bool.or_eq_true, decide_eq_true_eq] at hk
        rw [if_neg (by omega), if_neg (by omega), if_neg (by omega), if_pos (by omega), Bool.and_eq_true] at h2
        exact h2.2
    · simp at hr
      subst hr
      exact hqr.1
theorem ok_parts_r {r : Rl} (h : r.ok = true) : named capB (bt r.owner) = true ∧ named smallB (bt r.name) = true := by
  unfold Rl.ok at h
  rw [Bool.and_eq_true] at h
  exact h
theorem prin_ok {p : Py} (h : Rp p) : ∀ x ∈ PT p, named capB x = true := by
  intro x hx
  unfold PT at hx
  rw [mem_tab] at hx
  unfold prinsT at hx
  rw [List.mem_append, List.mem_append] at hx
  rcases hx with (hx | hx) | hx
  · unfold ownersR at hx
    rw [List.take_length] at hx
    obtain ⟨r, hr, rfl⟩ := List.mem_map.1 hx
    exact (ok_parts_r (role_ok h r hr)).1
  · unfold whosS at hx
    rw [List.take_length] at hx
    obtain ⟨s, hs, rfl⟩ := List.mem_map.1 hx
    obtain ⟨hs, hk⟩ := List.mem_filter.1 hs
    exact (says_parts (h.st s hs)).2.1 (by simpa using hk)
  · unfold whosA at hx
    rw [List.take_length] at hx
    obtain ⟨l, hl, hr⟩ := List.mem_flatten.1 hx
    obtain ⟨q, hq, rfl⟩ := List.mem_map.1 hl
    have hqr := h.qs q hq
    unfold Qy.right at hqr
    rw [Bool.and_eq_true] at hqr
    have h2 := hqr.2
    have hw : whoOk q.who = true ∨ q.who.length = 0 := by
      by_cases k1 : q.kind = 1 ∨ q.kind = 2
      · rw [if_pos k1, Bool.and_eq_true, Bool.and_eq_true] at h2
        exact .inl h2.1.2
      · rw [if_neg k1] at h2
        by_cases k3 : q.kind = 3
        · rw [if_pos k3, Bool.and_eq_true] at h2
          exact .inl h2.1
        · rw [if_neg k3] at h2
          by_cases k4 : q.kind = 4
          · rw [if_pos k4, Bool.and_eq_true, decide_eq_true_eq] at h2
            exact .inr h2.1
          · rw [if_neg k4] at h2
            by_cases k5 : q.kind = 5 ∨ q.kind = 6
            · rw [if_pos k5, Bool.and_eq_true, decide_eq_true_eq] at h2
              exact .inr h2.1
            · rw [if_neg k5] at h2
              cases h2
    rcases hw with hw | hw
    · unfold whoOk at hw
      rw [Bool.and_eq_true, Bool.and_eq_true] at hw
      exact List.all_eq_true.1 hw.1.2 x hr
    · rw [List.length_eq_zero_iff.1 hw] at hr
      cases hr
theorem name_ok {p : Py} (h : Rp p) : ∀ x ∈ NT p, named smallB x = true := by
  intro x hx
  unfold NT at hx
  rw [mem_tab] at hx
  unfold namesT at hx
  rw [List.mem_append] at hx
  rcases hx with hx | hx
  · unfold namesR at hx
    rw [List.take_length] at hx
    obtain ⟨r, hr, rfl⟩ := List.mem_map.1 hx
    exact (ok_parts_r (role_ok h r hr)).2
  · unfold viasS at hx
    rw [List.take_length] at hx
    obtain ⟨s, hs, rfl⟩ := List.mem_map.1 hx
    obtain ⟨hs, hk⟩ := List.mem_filter.1 hs
    exact (says_parts (h.st s hs)).2.2.2.2 (by simpa using hk)
theorem fresh_ok {p : Py} (h : Rp p) : named capB (FT p) = true := by
  obtain ⟨_, k, h1, hk, e⟩ := mem_fr (PT p) 1 (1000 + (PT p).length) (FT p) (by rw [fr_eq]; simp)
  rw [e]
  have := h.ps
  exact Tab8.prin_xs k (by omega) h1
theorem et_ok {p : Py} (h : Rp p) : ∀ x ∈ ET p, named capB x = true := fun x hx => by
  rcases et_mem.1 hx with hx | rfl
  · exact prin_ok h x hx
  · exact fresh_ok h
theorem memP_right {r : Rl} {x : Str} (hr : named capB (bt r.owner) = true ∧ named smallB (bt r.name) = true) (hx : named capB x = true) : (memP r x).right = true := by
  unfold St.right
  simp only [Bool.and_eq_true]
  refine ⟨⟨?_, ?_⟩, ?_⟩
  · show (named capB (bt r.owner) && named smallB (bt r.name)) = true
    rw [hr.1, hr.2]; rfl
  · unfold St.says
    rw [if_pos (show (memP r x).kind = 1 from rfl)]
    show named capB (bt (txt x)) = true
    rw [bt_txt]; exact hx
  · rw [decide_eq_true_eq]
    unfold St.own
    rw [if_pos (show (memP r x).kind = 1 from rfl)]
    rfl
theorem ok_et {p : Py} {s : St} (hs : s ∈ p.stmts) (hr : s.right = true) : ruleOk (ET p) (NT p) s = true := by
  have hrol : ∀ r ∈ rolesL s, 0 ≤ roleI (ET p) (NT p) r := fun r h => by
    obtain ⟨a, b⟩ := role_in (stmt_role hs h)
    exact roleI_nn (et_mem.2 (.inl a)) b
  have hh : 0 ≤ roleI (ET p) (NT p) s.head := hrol _ (by
    unfold rolesL
    split
    · simp
    · split <;> simp)
  unfold ruleOk
  rw [hr, decide_eq_true hh, Bool.true_and, Bool.true_and]
  unfold restOk
  have hk := kind_of_right hr
  by_cases k1 : s.kind = 1
  · rw [if_pos k1]
    refine decide_eq_true (findI_nn (et_mem.2 (.inl ?_)))
    unfold PT
    rw [mem_tab]
    unfold prinsT whosS
    rw [List.mem_append, List.mem_append, List.take_length (l := p.stmts)]
    exact .inl (.inr (List.mem_map.2 ⟨s, List.mem_filter.2 ⟨hs, by simp [k1]⟩, (bt_list _).symm⟩))
  · rw [if_neg k1]
    have ha : 0 ≤ roleI (ET p) (NT p) s.a := hrol _ (by
      unfold rolesL
      split
      · simp
      · split
        · simp
        · exfalso; omega)
    by_cases k3 : s.kind = 3
    · rw [if_pos k3, decide_eq_true ha, Bool.and_true]
      refine decide_eq_true (findI_nn ?_)
      unfold NT
      rw [mem_tab]
      unfold namesT viasS
      rw [List.mem_append, List.take_length (l := p.stmts)]
      exact .inr (List.mem_map.2 ⟨s, List.mem_filter.2 ⟨hs, by simp [k3]⟩, (bt_list _).symm⟩)
    · rw [if_neg k3]
      by_cases k4 : s.kind = 4
      · rw [if_pos k4, decide_eq_true ha, Bool.true_and]
        exact decide_eq_true (hrol _ (by unfold rolesL; rw [if_neg (by omega), if_pos k4]; simp))
      · rw [if_neg k4]
        exact decide_eq_true ha
theorem max_ok {p : Py} (h : Rp p) : AllOk (ET p) (NT p) (maxS p) := fun s hs => by
  rcases mem_max.1 hs with hs | hs
  · exact ok_et hs (h.st s hs)
  · obtain ⟨r, hr, x, hx, rfl⟩ := mem_hp.1 hs
    obtain ⟨h1, h2, _⟩ := mem_hr.1 hr
    have hri := memP_right (x := x) (And.intro (et_ok h _ h1) (name_ok h _ h2)) (et_ok h x hx)
    have hh : 0 ≤ roleI (ET p) (NT p) (memP r x).head := roleI_nn (by rw [bt_list]; exact h1) (by rw [bt_list]; exact h2)
    unfold ruleOk
    rw [hri, decide_eq_true hh, Bool.true_and, Bool.true_and]
    unfold restOk
    rw [if_pos (show (memP r x).kind = 1 from rfl)]
    refine decide_eq_true (findI_nn ?_)
    show (txt x).toList ∈ ET p
    rw [bt_list, bt_txt]; exact hx
theorem der_mem {S : List St} (h : ∀ s ∈ S, s.kind = 1) {r : Rl} {x : ByteArray} : DerN S r x ↔ ∃ s ∈ S, s.head = r ∧ s.who = x := by
  constructor
  · intro d
    cases d with
    | mem s hs hk => exact ⟨s, hs, rfl, rfl⟩
    | incl s x hs hk _ => have := h s hs; omega
    | link s x y hs hk _ _ => have := h s hs; omega
    | both s x hs hk _ _ => have := h s hs; omega
  · rintro ⟨s, hs, rfl, rfl⟩
    exact .mem s hs (h s hs)
end Go.Proofs.YtblapgfilbmdhaaGreatDoor.HiL
namespace Go.Proofs.YtblapgfilbmdhaaGreatDoor.HiM
open Go.RowKit Go.Sort Go.Lib Go.Proofs Plain SynP TabP Tab1 QryP PolA PolE PolG PolH PolLi PolOp StR LwH HiA HiL
abbrev nx11 := @LwH.nx
structure Small (p : Py) : Prop where
  few : Few p
  rp : Rp p
  e7 : (ET p).length ≤ 7
  n4 : (NT p).length ≤ 4
def SmallPost (p : Py) (w : World) (e : Ending) (w' : World) : Prop := ∃ b, e = .returned (.bool b) ∧ (b = true → Small p) ∧ Below w.heap.size w w'
set_option maxHeartbeats 2000000 in
set_option maxRecDepth 100000 in
theorem small (p : Py) (A1 A2 A3 A4 : Option Addr) (c1 c2 c3 c4 : Nat) (w : World) (hc : Came p) (hp : PG w A1 A2 A3 A4 p) :
    Calls Tryz.prog 8 #[p.val A1 A2 A3 A4 c1 c2 c3 c4] w (SmallPost p w) := by
  have HLi := Lib.hid (fun w' (hb : Below w.heap.size w w') => PolLi.light p A1 A2 A3 A4 c1 c2 c3 c4 w' hc (hp.below hb))
  have HRi : Hid (∀ w', Below w.heap.size w w' → Few p → Calls Tryz.prog 28 #[p.val A1 A2 A3 A4 c1 c2 c3 c4] w' fun e w'' => e = .returned (.bool (rightR p)) ∧ Below w'.heap.size w' w'') := Lib.hid (fun w' (hb : Below w.heap.size w w') hf => StR.rightRef5 p A1 A2 A3 A4 c1 c2 c3 c4 w' (hf.fit hc) (hp.below hb))
  have HPr := Lib.hid (fun w' (hb : Below w.heap.size w w') hf => HiI.prins5 p A1 A2 A3 A4 c1 c2 c3 c4 w' hf hc (hp.below hb))
  have HNa := Lib.hid (fun w' (hb : Below w.heap.size w w') hf => HiI.names5 p A1 A2 A3 A4 c1 c2 c3 c4 w' hf hc (hp.below hb))
  have HSm : Hid (Few p → rightR p = true → (PT p).length ≤ 6 → (NT p).length ≤ 4 → Small p) := Lib.hid (fun h1 h2 h3 h4 => ⟨h1, rp_of h2, by have := et_len p; omega, h4⟩)
  have hpl : Few p → (PT p).length ≤ 20000 := fun hf => HiB.pt_small hf hc
  have HPL := Lib.hid hpl
  unfold LightPost at HLi
  unfold SmallPost
  unfold Tab5.RowPost at HPr HNa
  generalize Small p = SM at *
  generalize Few p = FW at *
  generalize rightR p = RG at *
  generalize PT p = PP at *
  generalize NT p = NN at *
  obtain ⟨S, G, H, Q⟩ := p
  unfold Py.val at *
  dsimp only at *
  have hbX := (Below.refl w.heap.size w).alloc (Nat.le_refl _) (.cells #[.slice A1 S.length c1, .slice A2 G.length c2, .slice A3 H.length c3, .slice A4 Q.length c4] 26)
  have hcl := heap_alloc_new w (.cells #[.slice A1 S.length c1, .slice A2 G.length c2, .slice A3 H.length c3, .slice A4 Q.length c4] 26)
  have HB := Lib.hid hbX
  clear hbX hc hp hpl
  go_enter Tryz.func8, Tryz.ntmps8
  go_upto_region 1 with fail
  obtain ⟨bp, hbp⟩ : ∃ bp, w.heap.size = bp := ⟨_, rfl⟩
  simp only [hbp] at hcl ⊢
  generalize w.alloc (.cells #[.slice A1 S.length c1, .slice A2 G.length c2, .slice A3 H.length c3, .slice A4 Q.length c4] 26) = w0 at *
  have hbl : bp < w0.heap.size := (Array.getElem?_eq_some_iff.1 hcl).1
  have HKK : Hid (∀ w', Below w0.heap.size w0 w' → ∀ o, w'.cell? ⟨bp, o, none⟩ = (#[.slice A1 S.length c1, .slice A2 G.length c2, .slice A3 H.length c3, .slice A4 Q.length c4] : Array Value)[o]?) := Lib.hid (fun w' hb o => Lib.cell_of_heap ((hb.block bp hbl).trans hcl) o)
  have cs := HKK.out w0 (Below.refl _ _)
  clear hcl
  go_wp2_with fail
  refine (HLi.out w0 HB.out).mono ?_
  rintro e w1 ⟨b, rfl, hfew, hb1⟩
  have HB1 := Lib.hid hb1
  have cs1 := HKK.out w1 hb1
  clear cs HLi hb1
  cases b
  · clear hfew HRi HPr HNa HSm HPL
    go_wp2_with fail
    go_ret
    exact ⟨false, rfl, fun h => (by cases h), nx11 HB.out HB1.out⟩
  · have hf := hfew rfl
    have HRi2 := Lib.hid (HRi.out w1 (nx11 HB.out HB1.out) hf)
    have HPr2 := Lib.hid (fun w' hb => HPr.out w' hb hf)
    have HNa2 := Lib.hid (fun w' hb => HNa.out w' hb hf)
    have HSm2 := Lib.hid (HSm.out hf)
    have hpl := HPL.out hf
    clear hfew HRi HPr HNa HSm HPL
    go_wp2_with fail
    refine HRi2.out.mono ?_
    rintro e w2 ⟨rfl, hb2⟩
    have HB2 := Lib.hid (nx11 HB1.out hb2)
    have cs2 := HKK.out w2 HB2.out
    clear hb2 cs1 HRi2
    cases RG
    · clear HPr2 HNa2 HSm2
      go_wp2_with fail
      go_ret
      exact ⟨false, rfl, fun h => (by cases h), nx11 HB.out HB2.out⟩
    · go_wp2_with fail
      refine (HPr2.out w2 (nx11 HB.out HB2.out)).mono ?_
      rintro e w3 ⟨v3, rfl, ho3, hb3⟩
      obtain ⟨Q3, q3, rfl⟩ := PolLi.own_n ho3
      have HB3 := Lib.hid (nx11 HB2.out hb3)
      have cs3 := HKK.out w3 HB3.out
      clear hb3 ho3 cs2
      by_cases hP : PP.length ≤ 6
      · have d1 : decide (PP.length ≤ 6) = true := decide_eq_true hP
        have d1' : decide ((PP.length : Int) ≤ 6) = true := by simp; omega
        go_wp2_with fail
        refine (HNa2.out w3 (nx11 HB.out HB3.out)).mono ?_
        rintro e w4 ⟨v4, rfl, ho4, hb4⟩
        obtain ⟨Q4, q4, rfl⟩ := PolLi.own_n ho4
        have HB4 := Lib.hid (nx11 HB3.out hb4)
        clear hb4 ho4 cs3
        by_cases hN : NN.length ≤ 4
        · have d2 : decide (NN.length ≤ 4) = true := decide_eq_true hN
          have d2' : decide ((NN.length : Int) ≤ 4) = true := by simp; omega
          have HE := Lib.hid (HSm2.out (by first | rfl | trivial) hP hN)
          clear HSm2
          go_wp2_with fail
          go_ret
          exact ⟨true, rfl, fun _ => HE.out, nx11 HB.out HB4.out⟩
        · have d2 : decide (NN.length ≤ 4) = false := decide_eq_false hN
          have d2' : decide ((NN.length : Int) ≤ 4) = false := by simp; omega
          clear HSm2
          go_wp2_with fail
          go_ret
          exact ⟨false, rfl, fun h => (by cases h), nx11 HB.out HB4.out⟩
      · have d1 : decide (PP.length ≤ 6) = false := decide_eq_false hP
        have d1' : decide ((PP.length : Int) ≤ 6) = false := by simp; omega
        clear HSm2 HNa2
        go_wp2_with fail
        go_ret
        exact ⟨false, rfl, fun h => (by cases h), nx11 HB.out HB3.out⟩
end Go.Proofs.YtblapgfilbmdhaaGreatDoor.HiM
namespace Go.Proofs.YtblapgfilbmdhaaGreatDoor.HiN
open Go.RowKit Go.Sort Go.Lib Go.Proofs Plain SynP TabP Tab1 Tab2 QryP PolA PolE PolG PolH PolLi PolOp TblC TblP TblQ TblR SemA LwA LwH LwM HiA HiL
open LwL (rR sA z0 lt0 lt1 txt_one)
def pE : Py := ⟨[sA], [rR], [], []⟩
def qE : Py := ⟨[sA], [], [], []⟩
def eT : List Str := [[65], [66], [88, 49]]
theorem eT_up : eT.Pairwise (· < ·) := by unfold eT; decide
theorem xs1 : xs 1 = [88, 49] := Ref1.xs_small 1 (by omega)
theorem fr_first {T : List Str} (h : xs 1 ∉ T) : ∀ m, fr T 1 (m + 1) = [xs 1]
  | 0 => by rw [fr_add (by simp [fr]) (by simp [fr]) h]; rfl
  | m + 1 => by
    rw [fr_not (by rw [fr_first h m]; simp)]
    exact fr_first h m
theorem ft_first {p : Py} (h : PT p = [[65], [66]]) : FT p = [88, 49] := by
  unfold FT
  rw [show 1000 + (PT p).length = (999 + (PT p).length) + 1 by omega, fr_first (by rw [xs1, h]; decide), xs1]
  rfl
theorem et_first {p : Py} (h : PT p = [[65], [66]]) : ET p = eT :=
  eq_of_rising (et_up p) eT_up fun x => by
    rw [et_mem, h, ft_first h]
    unfold eT
    simp [or_assoc]
theorem prins_p : prinsT pE = [[65], [65], [66]] := by decide +kernel
theorem prins_q : prinsT qE = [[65], [66]] := by decide +kernel
theorem names_p : namesT pE = [[114], [114]] := by decide +kernel
theorem names_q : namesT qE = [[114]] := by decide +kernel
theorem pt_p : PT pE = [[65], [66]] := eq_of_rising (tab_sorted _) (by decide) fun x => by
  unfold PT
  rw [mem_tab, prins_p]
  simp
theorem pt_q : PT qE = [[65], [66]] := eq_of_rising (tab_sorted _) (by decide) fun x => by
  unfold PT
  rw [mem_tab, prins_q]
theorem nt_p : NT pE = [[114]] := eq_of_rising (tab_sorted _) (by decide) fun x => by
  unfold NT
  rw [mem_tab, names_p]
  simp
theorem nt_q : NT qE = [[114]] := eq_of_rising (tab_sorted _) (by decide) fun x => by
  unfold NT
  rw [mem_tab, names_q]
theorem rp_p : Rp pE := ⟨by decide +kernel, by decide +kernel, fun q h => absurd h (by simp [pE]), by rw [pt_p]; decide, by rw [nt_p]; decide⟩
theorem rp_q : Rp qE := ⟨by decide +kernel, fun r h => absurd h (by simp [qE]), fun q h => absurd h (by simp [qE]), by rw [pt_q]; decide, by rw [nt_q]; decide⟩
theorem few_p : Few pE := ⟨by decide, by decide, by decide, by decide, fun q h => absurd h (by simp [pE])⟩
theorem few_q : Few qE := ⟨by decide, by decide, by decide, by decide, fun q h => absurd h (by simp [qE])⟩
theorem fit_A : ∀ s ∈ [sA], s.fit := fun s hs => by
  simp at hs
  subst hs
  exact ⟨⟨lt1 _, lt1 _⟩, lt1 _, ⟨lt0, lt0⟩, ⟨lt0, lt0⟩, lt0⟩
theorem came_p : Came pE := ⟨by decide, by decide, by decide, by decide, fit_A, fun r h => by simp [pE] at h; subst h; exact ⟨lt1 _, lt1 _⟩, fun r h => absurd h (by simp [pE]), fun q h => absurd h (by simp [pE])⟩
theorem came_q : Came qE := ⟨by decide, by decide, by decide, by decide, fit_A, fun r h => absurd h (by simp [qE]), fun r h => absurd h (by simp [qE]), fun q h => absurd h (by simp [qE])⟩
theorem e7_p : (ET pE).length ≤ 7 := by rw [et_first pt_p]; decide
theorem e7_q : (ET qE).length ≤ 7 := by rw [et_first pt_q]; decide
theorem n4_p : (NT pE).length ≤ 4 := by rw [nt_p]; decide
theorem n4_q : (NT qE).length ≤ 4 := by rw [nt_q]; decide
theorem one_kind {p : Py} (h : p.stmts = [sA]) : ∀ s ∈ maxS p, s.kind = 1 := fun s hs => by
  rcases mem_max.1 hs with hs | hs
  · rw [h, List.mem_singleton] at hs; subst hs; rfl
  · obtain ⟨r, _, x, _, rfl⟩ := mem_hp.1 hs; rfl
theorem der_max {p : Py} (h : p.stmts = [sA]) (y : Str) : DerN (maxS p) rR (txt y) ↔ y = [66] ∨ (rR ∈ hRoles p ∧ y ∈ ET p) := by
  rw [der_mem (one_kind h)]
  constructor
  · rintro ⟨s, hs, e1, e2⟩
    rcases mem_max.1 hs with hs | hs
    · rw [h, List.mem_singleton] at hs
      subst hs
      exact .inl (txt_one.1 e2.symm)
    · obtain ⟨r, hr, x, hx, rfl⟩ := mem_hp.1 hs
      have e3 : r = rR := e1
      have e4 : x = y := by
        have := congrArg bt (show txt x = txt y from e2)
        rwa [bt_txt, bt_txt] at this
      subst e3 e4
      exact .inr ⟨hr, hx⟩
  · rintro (rfl | ⟨hr, hy⟩)
    · exact ⟨sA, mem_max.2 (.inl (by rw [h]; simp)), rfl, rfl⟩
    · exact ⟨memP rR y, mem_max.2 (.inr (mem_hp.2 ⟨rR, hr, y, hy, rfl⟩)), rfl, rfl⟩
def RuE (p : Py) : List Ru := rulesOf (ET p) (NT p) (maxS p)
theorem mem_p : memT (ET pE) (NT pE) (RuE pE) rR = [[66]] :=
  eq_of_rising (memT_rising (et_up pE) _ _) (by simp) fun y => by
    unfold RuE
    rw [mem_memT (et_up pE) (max_ok rp_p), der_max rfl, mem_hr]
    simp [pE]
theorem mem_q : memT (ET qE) (NT qE) (RuE qE) rR = eT :=
  eq_of_rising (memT_rising (et_up qE) _ _) eT_up fun y => by
    unfold RuE
    rw [mem_memT (et_up qE) (max_ok rp_q), der_max rfl, mem_hr, et_first pt_q, nt_q]
    have h1 : bt rR.owner = [65] := rfl
    have h2 : bt rR.name = [114] := rfl
    rw [h1, h2]
    unfold eT
    simp [qE]
    intro h; exact .inr (.inl h)
theorem rl_ne : (RuE qE).filter (rightU (ET qE).length (NT qE).length) ≠ [] := by
  unfold RuE
  rw [rules_right (max_ok rp_q)]
  intro h
  have h2 : maxS qE = [] := List.map_eq_nil_iff.1 h
  have h3 : sA ∈ maxS qE := mem_max.2 (.inl (by simp [qE]))
  rw [h2] at h3
  cases h3
end Go.Proofs.YtblapgfilbmdhaaGreatDoor.HiN
namespace Go.Proofs.YtblapgfilbmdhaaGreatDoor.HiF
open Go.Shelf Go.RowKit Go.Sort Go.Lib Go.Proofs Plain SynP SynD2 SynD3 SynJ TabP Tab1 Tab5 PolA PolE PolG PolH PolLi PolOp TblB TblR LwH HiA
open StB (OwnPost OwnS)
abbrev nx6 := @LwH.nx
set_option maxHeartbeats 2000000 in
set_option maxRecDepth 100000 in
theorem maximal (p : Py) (A1 A2 A3 A4 : Option Addr) (c1 c2 c3 c4 : Nat) (w : World) (hw : Tab3.Pow w) (hf : Few p) (hc : Came p) (hp : PG w A1 A2 A3 A4 p) (hE : (ET p).length ≤ 7) (hN : (NT p).length ≤ 4) :
    Calls Tryz.prog 14 #[p.val A1 A2 A3 A4 c1 c2 c3 c4] w (OwnPost (maxS p) w) := by
  have HEv := Lib.hid (fun w' (hb : Below w.heap.size w w') => HiB.everybody p A1 A2 A3 A4 c1 c2 c3 c4 w' (Tab3.Pow.keep hw (Laid.pow_lt hw) hb) hf hc (hp.below hb))
  have HRo := Lib.hid (fun w' (hb : Below w.heap.size w w') => HiE.roles p A1 A2 A3 A4 c1 c2 c3 c4 w' (Tab3.Pow.keep hw (Laid.pow_lt hw) hb) hf hc (hp.below hb) hE hN)
  have hrl := hr_len hE hN
  have hfl := hp_len hE hN
  have HM3 : Hid (∀ A c B c' w', RG w' A (hRoles p) → SRow w' B (ET p) → Calls Tryz.prog 47 #[.func (.func 45) #[] #[], .slice A (hRoles p).length c, .slice B (ET p).length c'] w' (StA.SPost (hPairs p) w')) := Lib.hid (fun A c B c' w' h1 h2 => HiC.pairsS A B c c' (hRoles p) (ET p) w' (by omega) (by omega) h1 h2)
  have HM4 : Hid (∀ B c' w', Below w.heap.size w w' → SG w' B (hPairs p) → Calls Tryz.prog 46 #[.slice A1 p.stmts.length c1, .slice B (hPairs p).length c'] w' (OwnPost (maxS p) w')) := Lib.hid (fun B c' w' hb h => StF.union A1 B c1 c' p.stmts (hPairs p) w' (Nat.le_trans hf.n1 (by omega)) (by omega) (hp.below hb).s h)
  unfold Tab5.RowPost HiE.RolesPost StA.SPost OwnPost at *
  generalize maxS p = MX at *
  generalize hPairs p = FL at *
  generalize hRoles p = RR at *
  generalize ET p = EE at *
  obtain ⟨S, G, H, Q⟩ := p
  unfold Py.val at *
  dsimp only at *
  have hbX := (Below.refl w.heap.size w).alloc (Nat.le_refl _) (.cells #[.slice A1 S.length c1, .slice A2 G.length c2, .slice A3 H.length c3, .slice A4 Q.length c4] 26)
  have hcl := heap_alloc_new w (.cells #[.slice A1 S.length c1, .slice A2 G.length c2, .slice A3 H.length c3, .slice A4 Q.length c4] 26)
  have HB := Lib.hid hbX
  clear hbX hf hc hp hw hN hE hrl hfl
  go_enter Tryz.func14, Tryz.ntmps14
  go_upto_region 2 with fail
  obtain ⟨bp, hbp⟩ : ∃ bp, w.heap.size = bp := ⟨_, rfl⟩
  simp only [hbp] at hcl ⊢
  generalize w.alloc (.cells #[.slice A1 S.length c1, .slice A2 G.length c2, .slice A3 H.length c3, .slice A4 Q.length c4] 26) = w0 at *
  have HKK : Hid (∀ w', Below w0.heap.size w0 w' → Below w0.heap.size w0 w' ∧ (∀ o, w'.cell? ⟨bp, o, none⟩ = (#[.slice A1 S.length c1, .slice A2 G.length c2, .slice A3 H.length c3, .slice A4 Q.length c4] : Array Value)[o]?)) := Lib.hid (fun w' hb => ⟨hb, fun o => Lib.cell_of_heap ((hb.block bp (Array.getElem?_eq_some_iff.1 hcl).1).trans hcl) o⟩)
  have hst := HKK.out w0.drew ((Below.refl _ _).drew)
  have M1 := Lib.hid (fun w' (hb' : Below w0.heap.size w0 w') => HRo.out w' (nx6 HB.out hb'))
  have M2 := Lib.hid (fun w' (hb' : Below w0.heap.size w0 w') => HEv.out w' (nx6 HB.out hb'))
  have M4 : Hid (∀ B c' w', Below w0.heap.size w0 w' → SG w' B FL → Calls Tryz.prog 46 #[.slice A1 S.length c1, .slice B FL.length c'] w' fun e w'' => ∃ v, e = .returned v ∧ OwnS w.heap.size w'' v MX ∧ Below w'.heap.size w' w'') := Lib.hid (fun B c' w' hb hs => by
    refine (HM4.out B c' w' (nx6 HB.out hb) hs).mono ?_
    rintro e w'' ⟨v, rfl, ho, hb2⟩
    exact ⟨v, rfl, ho.mono (nx6 HB.out hb).size, hb2⟩)
  clear hcl HEv HRo HM4
  go_region_held3 (fun w' => Below w0.heap.size w0 w' ∧ (∀ o, w'.cell? ⟨bp, o, none⟩ = (#[.slice A1 S.length c1, .slice A2 G.length c2, .slice A3 H.length c3, .slice A4 Q.length c4] : Array Value)[o]?))
    (first | with_reducible exact hst | with_reducible assumption | exact HKK.out _ (nx6 (by apply And.left; with_reducible assumption) (by with_reducible assumption)) | exact HKK.out _ (nx6 (by apply And.left; with_reducible assumption) (LwL.below_alloc _ _)))
    (first | ((with_reducible refine (M1.out _ (by apply And.left; with_reducible assumption)).mono ?_); rintro e x1 ⟨Q1, q1, rfl, hr1, hb1⟩)
           | ((with_reducible refine (M2.out _ (by apply And.left; with_reducible assumption)).mono ?_); rintro e x2 ⟨v2, rfl, ho2, hb2⟩; obtain ⟨Q2, q2, rfl, _, hr2⟩ := SRow.of_own ho2)
           | ((with_reducible refine (HM3.out _ _ _ _ _ (by first | with_reducible exact hr1 | exact RG.below hr1 hb2) (by first | with_reducible exact hr2 | exact hr2.keep hb1)).mono ?_); rintro e x3 ⟨v3, rfl, ho3, hb3⟩; obtain ⟨Q3, q3, rfl⟩ := PolLi.own_n ho3; have hs3 := HiC.sg_of_own_ ho3)
           | ((with_reducible refine (M4.out _ _ _ (by apply And.left; with_reducible assumption) hs3).mono ?_); rintro e x4 ⟨v4, rfl, ho4, hb4⟩))
  all_goals rename_i hHeld
  all_goals (have HO := Lib.hid ho4; have HF := Lib.hid (nx6 HB.out hHeld.1); clear hHeld ho4; go_wp2_with fail; go_ret; exact ⟨_, rfl, by first | exact HO.out | (rw [← hbp]; exact HO.out), by first | exact HF.out | (rw [← hbp]; exact HF.out)⟩)
end Go.Proofs.YtblapgfilbmdhaaGreatDoor.HiF
namespace Go.Proofs.YtblapgfilbmdhaaGreatDoor.HiG
open Go.Shelf Go.RowKit Go.Sort Go.Lib Go.Proofs Plain SynP TabP Tab1 QryP PolA PolE PolG PolH PolLi PolOp TblB TblC TblI TblV TblW LwH HiA
open StB (OwnPost OwnS)
abbrev nx6 := @LwH.nx
theorem role_light {p : Py} (hc : Came p) : ∀ r ∈ rolesP p, r.light := by
  intro r hr
  unfold rolesP at hr
  simp only [List.mem_append] at hr
  rcases hr with ((h | h) | h) | h
  · exact hc.f2 r h
  · exact hc.f3 r h
  · unfold rolesS at h
    rw [List.take_length] at h
    obtain ⟨l, hl, hr⟩ := List.mem_flatten.1 h
    obtain ⟨s, hs, rfl⟩ := List.mem_map.1 hl
    obtain ⟨f1, f2, f3, f4, f5⟩ := hc.f1 s hs
    unfold SynJ.rolesL at hr
    split at hr
    · simp at hr
      rcases hr with rfl | rfl
      · exact f1
      · exact f3
    · split at hr
      · simp at hr
        rcases hr with rfl | rfl | rfl
        · exact f1
        · exact f3
        · exact f4
      · simp at hr
        subst hr
        exact f1
  · unfold rolesA at h
    rw [List.take_length] at h
    obtain ⟨l, hl, hr⟩ := List.mem_flatten.1 h
    obtain ⟨q, hq, rfl⟩ := List.mem_map.1 hl
    obtain ⟨f1, f2, _, _⟩ := hc.f4 q hq
    unfold QryO.rolesQ at hr
    split at hr
    · simp at hr
      rcases hr with rfl | rfl
      · exact f1
      · exact f2
    · simp at hr
      subst hr
      exact f1
theorem prin_short {p : Py} (hc : Came p) : ∀ x ∈ PT p, x.length ≤ maxLen := by
  intro x hx
  unfold PT at hx
  rw [mem_tab] at hx
  unfold prinsT at hx
  simp only [List.mem_append] at hx
  rcases hx with (h | h) | h
  · unfold ownersR at h
    rw [List.take_length] at h
    obtain ⟨r, hr, rfl⟩ := List.mem_map.1 h
    exact (role_light hc r hr).1
  · unfold whosS at h
    rw [List.take_length] at h
    obtain ⟨s, hs, rfl⟩ := List.mem_map.1 h
    exact (hc.f1 s (List.mem_filter.1 hs).1).2.1
  · unfold whosA at h
    rw [List.take_length] at h
    obtain ⟨l, hl, hr⟩ := List.mem_flatten.1 h
    obtain ⟨q, hq, rfl⟩ := List.mem_map.1 hl
    exact (hc.f4 q hq).2.2.2 x hr
theorem name_short {p : Py} (hc : Came p) : ∀ x ∈ NT p, x.length ≤ maxLen := by
  intro x hx
  unfold NT at hx
  rw [mem_tab] at hx
  unfold namesT at hx
  simp only [List.mem_append] at hx
  rcases hx with h | h
  · unfold namesR at h
    rw [List.take_length] at h
    obtain ⟨r, hr, rfl⟩ := List.mem_map.1 h
    exact (role_light hc r hr).2
  · unfold viasS at h
    rw [List.take_length] at h
    obtain ⟨s, hs, rfl⟩ := List.mem_map.1 h
    exact (hc.f1 s (List.mem_filter.1 hs).1).2.2.2.2
theorem fresh_short {p : Py} (hf : Few p) (hc : Came p) : (FT p).length ≤ maxLen := by
  obtain ⟨_, k, _, hk, e⟩ := mem_fr (PT p) 1 (1000 + (PT p).length) (FT p) (by rw [fr_eq]; simp)
  have := HiB.pt_small hf hc
  rw [e]
  unfold xs
  have hd : (Lib.decDigits k).length ≤ 20 := by rw [Lib.decDigits_length]; exact Lib.nDigits_le20 k (by omega)
  rw [List.length_cons]
  unfold maxLen
  omega
theorem max_fit {p : Py} (hf : Few p) (hc : Came p) : ∀ s ∈ maxS p, s.fit := by
  intro s hs
  rcases mem_max.1 hs with h | h
  · exact hc.f1 s h
  · obtain ⟨r, hr, x, hx, rfl⟩ := mem_hp.1 h
    have hE : ∀ x ∈ ET p, x.length ≤ maxLen := fun x hx => by
      rcases et_mem.1 hx with h | rfl
      · exact prin_short hc x h
      · exact fresh_short hf hc
    obtain ⟨h1, h2, _⟩ := mem_hr.1 hr
    exact ⟨⟨hE _ h1, name_short hc _ h2⟩, hE _ hx, ⟨Nat.zero_le _, Nat.zero_le _⟩, ⟨Nat.zero_le _, Nat.zero_le _⟩, Nat.zero_le _⟩
set_option maxHeartbeats 4000000 in
set_option maxRecDepth 100000 in
theorem highEval (p : Py) (A1 A2 A3 A4 : Option Addr) (c1 c2 c3 c4 : Nat) (w : World) (hT : SetJ.Tab w) (hw : Tab3.Pow w) (hf : Few p) (hc : Came p) (hp : PG w A1 A2 A3 A4 p) (hE : (ET p).length ≤ 7) (hN : (NT p).length ≤ 4) :
    Calls Tryz.prog 50 #[p.val A1 A2 A3 A4 c1 c2 c3 c4] w (TMPost (ET p) (NT p) (rulesOf (ET p) (NT p) (maxS p)) w) := by
  have n1 := hf.n1
  have HFr := Lib.hid (fun w' (hb : Below w.heap.size w w') => HiB.fresh p A1 A2 A3 A4 c1 c2 c3 c4 w' (Tab3.Pow.keep hw (Laid.pow_lt hw) hb) hf hc (hp.below hb))
  have HFo : Hid (∀ A c w', Below w.heap.size w w' → SRow w' A [FT p] → Calls Tryz.prog 96 #[p.val A1 A2 A3 A4 c1 c2 c3 c4, .slice A 1 c] w' (NewTPost (ET p) (NT p) w')) := Lib.hid (fun A c w' hb hr => forT p A1 A2 A3 A4 c1 c2 c3 c4 A c [FT p] w' hf hc (hp.below hb) (by simp) hr)
  have HMi := Lib.hid (fun w' (hb : Below w.heap.size w w') => HiF.maximal p A1 A2 A3 A4 c1 c2 c3 c4 w' (Tab3.Pow.keep hw (Laid.pow_lt hw) hb) hf hc (hp.below hb) hE hN)
  have hml : (maxS p).length ≤ 226 := Nat.le_trans (max_len p) (by have := hp_len hE hN; omega)
  have HFM := Lib.hid (max_fit hf hc)
  have HTab := Lib.hid (fun w' (hb : Below w.heap.size w w') => SetJ.Tab.below hT hb)
  have HS1 : Hid (∀ (w' : World), SRow (w'.alloc (.cells #[.string (TblR.txt (FT p))] 9)) (some ⟨w'.heap.size, 0, none⟩) [FT p]) := Lib.hid (fun w' _ => ⟨w'.heap.size, 0, rfl, by simp, fun j hj => by
    have : j = 0 := by simp at hj; omega
    subst this
    rw [Lib.cell_of_heap (heap_alloc_new w' _)]; rfl⟩)
  unfold TMPost
  generalize FT p = X at *
  generalize ET p = PP at *
  generalize NT p = NN at *
  obtain ⟨M, hM⟩ : ∃ M, maxS p = M := ⟨_, rfl⟩
  rw [hM] at HMi HFM hml ⊢
  obtain ⟨R, hR⟩ : ∃ R, rulesOf PP NN M = R := ⟨_, rfl⟩
  have hrl := rulesOf_len PP NN M
  have HR := Lib.hid hR
  rw [hR] at hrl ⊢
  unfold NewTPost at HFo
  unfold OwnPost at HMi
  obtain ⟨S, G, H, Q⟩ := p
  unfold Py.val at *
  dsimp only at *
  have hbX := (Below.refl w.heap.size w).alloc (Nat.le_refl _) (.cells #[.slice A1 S.length c1, .slice A2 G.length c2, .slice A3 H.length c3, .slice A4 Q.length c4] 26)
  have hcl := heap_alloc_new w (.cells #[.slice A1 S.length c1, .slice A2 G.length c2, .slice A3 H.length c3, .slice A4 Q.length c4] 26)
  have HB := Lib.hid hbX
  clear hbX hf hc hp hT hw hM hR n1
  go_enter Tryz.func50, Tryz.ntmps50
  go_upto_region 1 with fail
  obtain ⟨bp, hbp⟩ : ∃ bp, w.heap.size = bp := ⟨_, rfl⟩
  simp only [hbp] at hcl ⊢
  generalize w.alloc (.cells #[.slice A1 S.length c1, .slice A2 G.length c2, .slice A3 H.length c3, .slice A4 Q.length c4] 26) = w0 at *
  have HBW : Hid (bp < w0.heap.size) := Lib.hid (Array.getElem?_eq_some_iff.1 hcl).1
  have HKK : Hid (∀ w', Below w0.heap.size w0 w' → Below w0.heap.size w0 w' ∧ (∀ o, w'.cell? ⟨bp, o, none⟩ = (#[.slice A1 S.length c1, .slice A2 G.length c2, .slice A3 H.length c3, .slice A4 Q.length c4] : Array Value)[o]?)) := Lib.hid (fun w' hb => ⟨hb, fun o => Lib.cell_of_heap ((hb.block bp (Array.getElem?_eq_some_iff.1 hcl).1).trans hcl) o⟩)
  have hst := HKK.out w0.drew ((Below.refl _ _).drew)
  have M1 := Lib.hid (fun w' (hb' : Below w0.heap.size w0 w') => HFr.out w' (nx6 HB.out hb'))
  have M2 := Lib.hid (fun A c w' (hb' : Below w0.heap.size w0 w') hr => HFo.out A c w' (nx6 HB.out hb') hr)
  clear hcl HFr HFo
  go_region_held3 (fun w' => Below w0.heap.size w0 w' ∧ (∀ o, w'.cell? ⟨bp, o, none⟩ = (#[.slice A1 S.length c1, .slice A2 G.length c2, .slice A3 H.length c3, .slice A4 Q.length c4] : Array Value)[o]?))
    (first | with_reducible exact hst | with_reducible assumption | exact HKK.out _ (nx6 (by apply And.left; with_reducible assumption) (by with_reducible assumption)) | exact HKK.out _ (nx6 (by apply And.left; with_reducible assumption) (LwL.below_alloc _ _)))
    (first | ((with_reducible refine (M1.out _ (by apply And.left; with_reducible assumption)).mono ?_); rintro e x1 ⟨rfl, hb1⟩)
           | ((with_reducible refine (M2.out _ _ _ (by apply And.left; with_reducible assumption) (HS1.out _)).mono ?_); rintro e x2 ⟨t, a, b, B1, d1, B2, d2, rfl, htb, hb2⟩))
  all_goals rename_i hHeld
  all_goals
    obtain ⟨hbz, hcz⟩ := hHeld
    have HT1 := Lib.hid htb
    have HB1 := Lib.hid (nx6 HB.out hbz)
    have HKZ : Hid (∀ w', Below x2.heap.size x2 w' → Below x2.heap.size x2 w' ∧ (∀ o, w'.cell? ⟨bp, o, none⟩ = (#[.slice A1 S.length c1, .slice A2 G.length c2, .slice A3 H.length c3, .slice A4 Q.length c4] : Array Value)[o]?)) := Lib.hid (fun w' hb => ⟨hb, (HKK.out w' (nx6 hbz hb)).2⟩)
    clear htb hbz hcz hb1 hb2 hst M1 M2 HKK
    have H1 := Lib.hid (fun w' (hb : Below x2.heap.size x2 w') => TblA.prins (HT1.out.keep hb))
    have H2 := Lib.hid (fun w' (hb : Below x2.heap.size x2 w') => TblA.links (HT1.out.keep hb))
    have H3 := Lib.hid (fun w' (hb : Below x2.heap.size x2 w') => Tab1.len w' a B1 PP.length d1 (HT1.out.keep hb).a0)
    have H4 := Lib.hid (fun w' (hb : Below x2.heap.size x2 w') => Tab1.len w' b B2 NN.length d2 (HT1.out.keep hb).b0)
    have H5 := Lib.hid (fun w' (hb : Below x2.heap.size x2 w') => HMi.out w' (nx6 HB1.out hb))
    have H6 := Lib.hid (fun w' (hb : Below x2.heap.size x2 w') A ca hA => TblW.rules w' (HT1.out.keep hb) A ca M (by omega) HFM.out hA)
    have ert : rulesT PP NN M M.length = R := HR.out
    rw [ert] at H6
    have H7 := Lib.hid (fun w' (hb : Below x2.heap.size x2 w') A ca (hA : UG w' A R) => evalS PP.length NN.length (by omega) (by omega) A ca R w' (HTab.out w' (nx6 HB1.out hb)) (by omega) hA)
    have HTK := Lib.hid (fun w' (hb : Below x2.heap.size x2 w') => HT1.out.keep hb)
    unfold RulesPost at H6
    unfold SPost at H7
    clear ert HMi HTab HR
    have hst := HKZ.out x2.drew ((Below.refl _ _).drew)
    go_wp2_with fail
    go_region_held3 (fun w' => Below x2.heap.size x2 w' ∧ ∀ o, w'.cell? ⟨bp, o, none⟩ = (#[.slice A1 S.length c1, .slice A2 G.length c2, .slice A3 H.length c3, .slice A4 Q.length c4] : Array Value)[o]?)
      (first | with_reducible exact hst | with_reducible assumption | exact HKZ.out _ (nx6 (by apply And.left; with_reducible assumption) (by with_reducible assumption)))
      (first | ((with_reducible refine (H1.out _ (by apply And.left; with_reducible assumption)).mono ?_); rintro e w' ⟨rfl, rfl⟩)
             | ((with_reducible refine (H2.out _ (by apply And.left; with_reducible assumption)).mono ?_); rintro e w' ⟨rfl, rfl⟩)
             | ((with_reducible refine (H3.out _ (by apply And.left; with_reducible assumption)).mono ?_); rintro e w' ⟨rfl, rfl⟩)
             | ((with_reducible refine (H4.out _ (by apply And.left; with_reducible assumption)).mono ?_); rintro e w' ⟨rfl, rfl⟩)
             | ((with_reducible refine (H5.out _ (by apply And.left; with_reducible assumption)).mono ?_); rintro e w5 ⟨v5, rfl, ho5, hb5⟩; obtain ⟨A5, k5, rfl, hsg5⟩ := ho5.form)
             | ((with_reducible refine (H6.out _ (by apply And.left; with_reducible assumption) A5 k5 hsg5).mono ?_); rintro e w6 ⟨A6, k6, rfl, hug6, hb6⟩)
             | ((with_reducible refine (H7.out _ (by apply And.left; with_reducible assumption) A6 k6 hug6).mono ?_); rintro e w7 ⟨mo, st, rfl, hmo, hb7⟩))
    all_goals rename_i hHeld
    all_goals (have HF : Hid (TM w7 (.pointer (some ⟨t, 0, none⟩)) (.pointer (some ⟨mo, 0, none⟩)) PP NN R ∧ Below w.heap.size w w7) := Lib.hid ⟨⟨t, a, b, B1, d1, B2, d2, mo, st, rfl, rfl, HTK.out _ hHeld.1, hmo⟩, nx6 HB1.out hHeld.1⟩)
    all_goals clear hHeld hmo
    all_goals go_wp2_with fail
    all_goals go_ret2
    all_goals exact ⟨_, _, rfl, HF.out.1, HF.out.2⟩
end Go.Proofs.YtblapgfilbmdhaaGreatDoor.HiG
namespace Go.Proofs.YtblapgfilbmdhaaGreatDoor.HiH
open Go.RowKit Go.Sort Go.Lib Go.Proofs Plain SynP TabP Tab1 Tab5 PolA PolE PolG PolH PolOp PolLi TblA TblB TblC TblI TblV TblW TblQ TblP TblF TblG TblH SetB SetJ SetN SetR SemA SemH SemGa StB LwG
open LwH
abbrev nx7 := @TblW.nx
set_option maxHeartbeats 2000000 in
set_option maxRecDepth 100000 in
theorem highMembers (p : Py) (A1 A2 A3 A4 : Option Addr) (c1 c2 c3 c4 : Nat) (s : Rl) (PP NN : List Str) (T : List Ru) (w : World) (hT : Tab w) (hP : PP.length ≤ 64)
    (hE : ∀ w', Below w.heap.size w w' → Calls Tryz.prog 50 #[p.val A1 A2 A3 A4 c1 c2 c3 c4] w' (TMPost PP NN T w')) :
    Calls Tryz.prog 18 #[p.val A1 A2 A3 A4 c1 c2 c3 c4, s.val] w (RowPost (memT PP NN T s) w) := by
  have HE := Lib.hid hE
  have HTab := Lib.hid (fun w' (hb : Below w.heap.size w w') => Tab.below hT hb)
  obtain ⟨i0, hi, hz0, hz1, hz2⟩ := info_parts Tab3.infoStr
  unfold RowPost
  unfold TMPost TM at HE
  obtain ⟨MT, hMT⟩ : ∃ MT, memT PP NN T s = MT := ⟨_, rfl⟩
  have HMT := Lib.hid hMT
  rw [hMT]
  unfold memT at HMT
  have HRo := Lib.hid (fun (w' : World) t a b A1 c1 A2 c2 (h : TblK w' t a b A1 c1 A2 c2 PP NN) => TblA.role h s)
  obtain ⟨ri, hri⟩ : ∃ ri, roleI PP NN s = ri := ⟨_, rfl⟩
  rw [hri] at HMT HRo
  have HMe := Lib.hid (fun (w' : World) mo st (h : MoS w' mo PP.length NN.length T st) (hb : Below w.heap.size w w') => membersM h.mo (HTab.out w' hb) ri)
  have HLt : Hid (∀ x ∈ memD PP.length NN.length T ri, x < PP.length) := Lib.hid (fun x hx => (mem_memD.1 hx).1)
  have hml := memD_len PP.length NN.length T ri
  obtain ⟨D, hD⟩ : ∃ D, memD PP.length NN.length T ri = D := ⟨_, rfl⟩
  rw [hD] at HMT HMe HLt hml
  obtain ⟨S, G, H, Q⟩ := p
  obtain ⟨ho, hn⟩ := s
  unfold Py.val Rl.val ListPost at *
  dsimp only at HE HRo ⊢
  have hb0 := ((Below.refl w.heap.size w).alloc (Nat.le_refl _) (.cells #[.slice A1 S.length c1, .slice A2 G.length c2, .slice A3 H.length c3, .slice A4 Q.length c4] 26)).alloc (by simp) (.cells #[.string ho, .string hn] 28)
  have cp := fun o => Lib.cell_of_heap (heap_alloc2_old w (.cells #[.slice A1 S.length c1, .slice A2 G.length c2, .slice A3 H.length c3, .slice A4 Q.length c4] 26) (.cells #[.string ho, .string hn] 28)) o
  have cr := fun o => Lib.cell_of_heap (heap_alloc2_new w (.cells #[.slice A1 S.length c1, .slice A2 G.length c2, .slice A3 H.length c3, .slice A4 Q.length c4] 26) (.cells #[.string ho, .string hn] 28)) o
  have hlt : w.heap.size + 1 < ((w.alloc (.cells #[.slice A1 S.length c1, .slice A2 G.length c2, .slice A3 H.length c3, .slice A4 Q.length c4] 26)).alloc (.cells #[.string ho, .string hn] 28)).heap.size := by simp
  have HB0 := Lib.hid hb0
  have HCR := Lib.hid cr
  clear hb0 hMT hri hD hE hT cr
  go_enter Tryz.func18, Tryz.ntmps18
  go_upto_region 1 with fail
  obtain ⟨bp, hbp⟩ : ∃ bp, w.heap.size = bp := ⟨_, rfl⟩
  simp only [hbp] at cp HCR hlt ⊢
  generalize (w.alloc (.cells #[.slice A1 S.length c1, .slice A2 G.length c2, .slice A3 H.length c3, .slice A4 Q.length c4] 26)).alloc (.cells #[.string ho, .string hn] 28) = w0 at *
  go_wp2_with fail
  refine (HE.out _ HB0.out).mono ?_
  rintro e w1 ⟨v1, v2, rfl, ⟨t, a, b, B1, d1, B2, d2, mo, st, rfl, rfl, htb, hmo⟩, hb1⟩
  have HT1 := Lib.hid htb
  have HM1 := Lib.hid hmo
  have HB1 := Lib.hid (nx7 HB0.out hb1)
  have cr1 : ∀ o, w1.cell? ⟨bp + 1, o, none⟩ = (#[.string ho, .string hn] : Array Value)[o]? := fun o => (hb1.cell (p := ⟨bp + 1, o, none⟩) hlt).trans (HCR.out o)
  clear htb hmo hb1 cp HCR hlt HE
  go_wp2_with fail
  refine (HRo.out _ _ _ _ _ _ _ _ HT1.out).mono ?_
  rintro e w2 ⟨rfl, hb2⟩
  have HT2 := Lib.hid (HT1.out.keep hb2)
  have HM2 := Lib.hid (HM1.out.below hb2)
  have HB2 := Lib.hid (nx7 HB1.out hb2)
  clear hb2 cr1 HT1 HM1 HRo
  go_wp2_with fail
  refine (HMe.out _ _ _ HM2.out HB2.out).mono ?_
  rintro e w3 ⟨v3, rfl, hown3, hb3⟩
  obtain ⟨A5, k5, rfl, hng⟩ := ng_own hown3
  have HT3 := Lib.hid (HT2.out.keep hb3)
  have HB3 := Lib.hid (nx7 HB2.out hb3)
  have HNG := Lib.hid hng
  have HPr := Lib.hid (fun w' (hb : Below w3.heap.size w3 w') => TblA.prins (HT3.out.keep hb))
  have HAt := Lib.hid (fun w' (hb : Below w3.heap.size w3 w') k hk => Tab7.at_in a B1 PP d1 k w' (HT3.out.keep hb).a0 (by omega) (HT3.out.keep hb).ra hk)
  clear hown3 hng hb3 HT2 HM2 HMe
  go_wp2_with fail
  go_loopw [7, 21] (fun v i wr => ∃ j : Nat, j ≤ D.length ∧ i = .int .i64 j ∧ Hid (wr.ownsRow w3.heap.size 9 1 v (((D.take j).map fun i => PP.getD i []).length) (((D.take j).map fun i => PP.getD i []).map encStr)) ∧ Below w3.heap.size w3 wr) (fun _ i _ => D.length - (intOf i).toNat)
  case atStart => exact ⟨0, by omega, rfl, Lib.hid (by simpa using World.ownsRow_nil _ _ _ _), Below.refl _ _⟩
  case round =>
    obtain ⟨j, hj, rfl, hown, hb⟩ := hrel
    by_cases hlt : j < D.length
    · have d1 : decide ((j : Int) < D.length) = true := by simp; omega
      obtain ⟨g, o, rfl, hg, hc⟩ := (HNG.out.below hb) (by omega)
      have y0 := hc j hlt
      have hk := HLt.out D[j] (List.getElem_mem hlt)
      have HTk : Hid (D.take (j + 1) = D.take j ++ [D[j]]) := Lib.hid (List.take_succ_eq_append_getElem hlt)
      have p1 : (0 : Int) ≤ j := by omega
      have p2 : (j : Int) < D.length := by omega
      have hlj : ((D.take j).map fun i => PP.getD i []).length = j := by rw [List.length_map, List.length_take]; omega
      clear hc
      generalize D[j] = k at *
      have H1 := Lib.hid (HPr.out wr hb)
      have H2 := Lib.hid (HAt.out wr hb k hk)
      have HG : Hid (PP.getD k [] = PP[k]) := Lib.hid (by rw [List.getD_eq_getElem?_getD, List.getElem?_eq_getElem hk]; rfl)
      have hown2 := hown.out
      obtain ⟨F0, hF0⟩ : ∃ F0, ((D.take j).map fun i => PP.getD i []) = F0 := ⟨_, rfl⟩
      rw [hF0] at hown2 hlj
      have HF0 := Lib.hid hF0
      have HBr := Lib.hid hb
      have hzr := hb.size
      clear hown hb hF0
      generalize PP[k] = x at *
      go_wp2_with fail
      refine H1.out.mono ?_
      rintro e w4 ⟨rfl, rfl⟩
      clear y0
      go_wp2_with fail
      refine H2.out.mono ?_
      rintro e w4 ⟨rfl, rfl⟩
      clear H1 H2
      go_wp2_with (at_builtin; refine wpList_append_own _ rfl _ _ 32 rfl w3.heap.size 9 i0 (.string ⟨#[]⟩) 1 16 Tryz.underlying32 hi hz0 hz1 hz2 rfl (by decide) _ _ _ rfl (hown2.alloc _) ⟨wr.heap.size, 0, none⟩ 1 1 [.string ⟨x.toArray⟩] rfl rfl ?c1 ?c2 ?c3 ?c4 ?c5 ?_)
      case c1 => exact new_cell1 _ _ _
      case c2 => intro u hu; simp at hu; subst hu; rfl
      case c3 => unfold maxLen; omega
      case c4 => omega
      case c5 => simp; omega
      intro v' w5 hown' hgrow _
      have HO5 : Hid (w5.ownsRow w3.heap.size 9 1 v' (((D.take (j + 1)).map fun i => PP.getD i []).length) (((D.take (j + 1)).map fun i => PP.getD i []).map encStr)) := Lib.hid (by
        rw [HTk.out, List.map_append, HF0.out, List.map_append, List.length_append]
        simp only [List.map_cons, List.map_nil, List.length_singleton]
        rw [HG.out, hlj]
        exact hown')
      have HB5 := Lib.hid (below_own HBr.out (Nat.le_refl _) hown2 hgrow)
      clear hown' hown2 hgrow
      go_wp2_with fail
      go_roundw
      case rel => exact ⟨j + 1, by omega, by go_num, HO5, HB5.out⟩
      case measure => simp [intOf]; omega
    · have d1 : decide ((j : Int) < D.length) = false := by simp; omega
      have hjD : j = D.length := by omega
      subst hjD
      have hown2 := hown.out
      rw [List.take_length, HMT.out] at hown2
      have HO3 := Lib.hid (Tab4.own_base hown2 HB3.out.size)
      have HF := Lib.hid (nx7 HB3.out hb)
      clear hown hown2 hb
      go_wp2_with fail
      go_ret
      exact ⟨_, rfl, by first | exact HO3.out | (rw [← hbp]; exact HO3.out), by first | exact HF.out | (rw [← hbp]; exact HF.out)⟩
set_option maxHeartbeats 1000000 in
set_option maxRecDepth 100000 in
theorem highSteps (p : Py) (A1 A2 A3 A4 : Option Addr) (c1 c2 c3 c4 : Nat) (PP NN : List Str) (T : List Ru) (w : World)
    (hE : ∀ w', Below w.heap.size w w' → Calls Tryz.prog 50 #[p.val A1 A2 A3 A4 c1 c2 c3 c4] w' (TMPost PP NN T w')) :
    Calls Tryz.prog 15 #[p.val A1 A2 A3 A4 c1 c2 c3 c4] w fun e w' => ∃ st : Nat, e = .returned (.int .i64 st) ∧ STF PP.length NN.length T st ∧ Below w.heap.size w w' := by
  have HE := Lib.hid hE
  unfold TMPost TM at HE
  obtain ⟨S, G, H, Q⟩ := p
  unfold Py.val at *
  dsimp only at HE ⊢
  have hb0 := ((Below.refl w.heap.size w).alloc (Nat.le_refl _) (.cells #[.slice A1 S.length c1, .slice A2 G.length c2, .slice A3 H.length c3, .slice A4 Q.length c4] 26))
  have cp := fun o => Lib.cell_of_heap (heap_alloc_new w (.cells #[.slice A1 S.length c1, .slice A2 G.length c2, .slice A3 H.length c3, .slice A4 Q.length c4] 26)) o
  have HB0 := Lib.hid hb0
  clear hb0 hE
  go_enter Tryz.func15, Tryz.ntmps15
  go_upto_region 1 with fail
  generalize w.alloc (.cells #[.slice A1 S.length c1, .slice A2 G.length c2, .slice A3 H.length c3, .slice A4 Q.length c4] 26) = w0 at *
  go_wp2_with fail
  refine (HE.out _ HB0.out).mono ?_
  rintro e w1 ⟨v1, v2, rfl, ⟨t, a, b, B1, d1, B2, d2, mo, st, rfl, rfl, htb, hmo⟩, hb1⟩
  obtain ⟨B, R, M, all, hm, hd, hs⟩ := hmo
  have HS := Lib.hid (SemJ.steps hm)
  have HF : Hid (STF PP.length NN.length T st ∧ Below w.heap.size w w1) := Lib.hid ⟨hs, nx7 HB0.out hb1⟩
  clear htb hm hd hs hb1 cp HE
  go_wp2_with fail
  refine HS.out.mono ?_
  rintro e w2 ⟨rfl, rfl⟩
  clear HS
  go_wp2_with fail
  go_ret
  exact ⟨st, rfl, HF.out.1, HF.out.2⟩
end Go.Proofs.YtblapgfilbmdhaaGreatDoor.HiH
namespace Go.Proofs.YtblapgfilbmdhaaGreatDoor.HiO
open Go.RowKit Go.Sort Go.Lib Go.Proofs Plain SynP TabP Tab1 Tab5 QryP PolA PolE PolG PolH PolLi PolOp LwH HiA HiN
open LwL (rR sA z0 lt0 lt1 rg_nil qg_nil below_alloc)
abbrev nx12 := @LwH.nx
theorem sg_one {w : World} {g : Nat} (h : w.heap[g]? = some (.cells #[.int .i64 1, .string ⟨#[65]⟩, .string ⟨#[114]⟩, .string ⟨#[66]⟩, .string ⟨#[]⟩, .string ⟨#[]⟩, .string ⟨#[]⟩, .string ⟨#[]⟩, .string ⟨#[]⟩] 67 (0, 0))) : SG w (some ⟨g, 0, none⟩) [sA] := fun _ => by
  refine ⟨g, 0, rfl, (Array.getElem?_eq_some_iff.1 h).1, fun j hj => ?_⟩
  have : j = 0 := by simp at hj; omega
  subst this
  exact ⟨Lib.cell_of_heap h 0, Lib.cell_of_heap h 1, Lib.cell_of_heap h 2, Lib.cell_of_heap h 3, Lib.cell_of_heap h 4, Lib.cell_of_heap h 5, Lib.cell_of_heap h 6, Lib.cell_of_heap h 7, Lib.cell_of_heap h 8⟩
theorem rg_one {w : World} {g : Nat} (h : w.heap[g]? = some (.cells #[.string ⟨#[65]⟩, .string ⟨#[114]⟩] 28 (0, 0))) : RG w (some ⟨g, 0, none⟩) [rR] := fun _ => by
  refine ⟨g, 0, rfl, (Array.getElem?_eq_some_iff.1 h).1, fun j hj => ?_⟩
  have : j = 0 := by simp at hj; omega
  subst this
  exact ⟨Lib.cell_of_heap h 0, Lib.cell_of_heap h 1⟩
theorem srow1 {w : World} {n : Nat} (hn : w.heap[n]? = some (.cells #[.string ⟨#[66]⟩] 9 (0, 0))) : SRow w (some ⟨n, 0, none⟩) [[66]] := fun _ => ⟨n, 0, rfl, (Array.getElem?_eq_some_iff.1 hn).1, fun j hj => by
    have : j = 0 := by simp at hj; omega
    subst this
    exact Lib.cell_of_heap hn 0⟩
theorem srow3 {w : World} {n : Nat} (hn : w.heap[n]? = some (.cells #[.string ⟨#[65]⟩, .string ⟨#[66]⟩, .string ⟨#[88, 49]⟩] 9 (0, 0))) : SRow w (some ⟨n, 0, none⟩) eT := fun _ => ⟨n, 0, rfl, (Array.getElem?_eq_some_iff.1 hn).1, fun j hj => by
    have : j = 0 ∨ j = 1 ∨ j = 2 := by unfold eT at hj; simp at hj; omega
    rcases this with rfl | rfl | rfl
    · exact Lib.cell_of_heap hn 0
    · exact Lib.cell_of_heap hn 1
    · exact Lib.cell_of_heap hn 2⟩
theorem same_ (A B : Option Addr) (ca cb : Nat) (T : List Str) (w : World) (hL : T.length ≤ 1000) (hA : SRow w A T) (hB : SRow w B T) : Calls Tryz.prog 40 #[.slice A T.length ca, .slice B T.length cb] w fun e w' => e = .returned (.bool true) ∧ Below w.heap.size w w' := by
  refine (Tab3.same A B ca cb T w (by omega) hA hB).mono ?_
  rintro e w' ⟨he, q, rfl⟩
  exact ⟨he, below_drewN (Below.refl _ _) q⟩
set_option maxHeartbeats 4000000 in
set_option maxRecDepth 100000 in
theorem lives (w : World) (hT : SetJ.Tab w) (hw : Tab3.Pow w) : Calls Tryz.prog 9 #[] w fun e w' => e = .returned (.bool true) ∧ Below w.heap.size w w' := by
  have HTab := Lib.hid (fun w' (hb : Below w.heap.size w w') => SetJ.Tab.below hT hb)
  have HPow := Lib.hid (fun w' (hb : Below w.heap.size w w') => Tab3.Pow.keep hw (Laid.pow_lt hw) hb)
  clear hT hw
  go_enter Tryz.func9, Tryz.ntmps9
  go_upto_region 2 with fail
  obtain ⟨b1, hb1⟩ : ∃ b, w.heap.size = b := ⟨_, rfl⟩
  go_upto_region 3 with fail
  go_upto_region 4 with fail
  go_upto_region 5 with fail
  obtain ⟨wa, hwa⟩ : ∃ x, w.alloc (.cells #[.string ⟨#[65]⟩, .string ⟨#[114]⟩] 28) = x := ⟨_, rfl⟩
  have za : wa.heap.size = b1 + 1 := by rw [← hwa, ← hb1]; simp
  have ha : wa.heap[b1]? = some (.cells #[.string ⟨#[65]⟩, .string ⟨#[114]⟩] 28 (0, 0)) := by rw [← hwa, ← hb1]; exact heap_alloc_new w _
  have ba : Below w.heap.size w wa := by rw [← hwa]; exact below_alloc w _
  rw [hwa]
  obtain ⟨wb, hwb⟩ : ∃ x, wa.alloc (.cells #[.int .i64 1, .string ⟨#[65]⟩, .string ⟨#[114]⟩, .string ⟨#[66]⟩, .string ⟨#[]⟩, .string ⟨#[]⟩, .string ⟨#[]⟩, .string ⟨#[]⟩, .string ⟨#[]⟩] 67) = x := ⟨_, rfl⟩
  have zb : wb.heap.size = b1 + 1 + 1 := by rw [← hwb, ← za]; simp
  have hb : wb.heap[b1 + 1]? = some (.cells #[.int .i64 1, .string ⟨#[65]⟩, .string ⟨#[114]⟩, .string ⟨#[66]⟩, .string ⟨#[]⟩, .string ⟨#[]⟩, .string ⟨#[]⟩, .string ⟨#[]⟩, .string ⟨#[]⟩] 67 (0, 0)) := by rw [← hwb, ← za]; exact heap_alloc_new wa _
  have bb : Below wa.heap.size wa wb := by rw [← hwb]; exact below_alloc wa _
  rw [hwb]
  obtain ⟨wc, hwc⟩ : ∃ x, wb.alloc (.cells #[.string ⟨#[65]⟩, .string ⟨#[114]⟩] 28) = x := ⟨_, rfl⟩
  have zc : wc.heap.size = b1 + 1 + 1 + 1 := by rw [← hwc, ← zb]; simp
  have hc : wc.heap[b1 + 1 + 1]? = some (.cells #[.string ⟨#[65]⟩, .string ⟨#[114]⟩] 28 (0, 0)) := by rw [← hwc, ← zb]; exact heap_alloc_new wb _
  have bc : Below wb.heap.size wb wc := by rw [← hwc]; exact below_alloc wb _
  rw [hwc]
  obtain ⟨wd, hwd⟩ : ∃ x, wc.alloc (.cells #[.slice (some ⟨b1 + 1, 0, none⟩) 1 1, .slice (some ⟨b1 + 1 + 1, 0, none⟩) 1 1, .slice none 0 0, .slice none 0 0] 26) = x := ⟨_, rfl⟩
  have zd : wd.heap.size = b1 + 1 + 1 + 1 + 1 := by rw [← hwd, ← zc]; simp
  have hd : wd.heap[b1 + 1 + 1 + 1]? = some (.cells #[.slice (some ⟨b1 + 1, 0, none⟩) 1 1, .slice (some ⟨b1 + 1 + 1, 0, none⟩) 1 1, .slice none 0 0, .slice none 0 0] 26 (0, 0)) := by rw [← hwd, ← zc]; exact heap_alloc_new wc _
  have bd : Below wc.heap.size wc wd := by rw [← hwd]; exact below_alloc wc _
  rw [hwd]
  obtain ⟨we, hwe⟩ : ∃ x, wd.alloc (.cells #[.slice (some ⟨b1 + 1, 0, none⟩) 1 1, .slice none 0 0, .slice none 0 0, .slice none 0 0] 26) = x := ⟨_, rfl⟩
  have ze : we.heap.size = b1 + 1 + 1 + 1 + 1 + 1 := by rw [← hwe, ← zd]; simp
  have he : we.heap[b1 + 1 + 1 + 1 + 1]? = some (.cells #[.slice (some ⟨b1 + 1, 0, none⟩) 1 1, .slice none 0 0, .slice none 0 0, .slice none 0 0] 26 (0, 0)) := by rw [← hwe, ← zd]; exact heap_alloc_new wd _
  have be : Below wd.heap.size wd we := by rw [← hwe]; exact below_alloc wd _
  rw [hwe]
  have HW := Lib.hid (nx12 ba (nx12 bb (nx12 bc (nx12 bd be))))
  have ka : we.heap[b1]? = some (.cells #[.string ⟨#[65]⟩, .string ⟨#[114]⟩] 28 (0, 0)) := ((nx12 bb (nx12 bc (nx12 bd be))).block b1 (by omega)).trans ha
  have kb : we.heap[b1 + 1]? = some (.cells #[.int .i64 1, .string ⟨#[65]⟩, .string ⟨#[114]⟩, .string ⟨#[66]⟩, .string ⟨#[]⟩, .string ⟨#[]⟩, .string ⟨#[]⟩, .string ⟨#[]⟩, .string ⟨#[]⟩] 67 (0, 0)) := ((nx12 bc (nx12 bd be)).block (b1 + 1) (by omega)).trans hb
  have kc : we.heap[b1 + 1 + 1]? = some (.cells #[.string ⟨#[65]⟩, .string ⟨#[114]⟩] 28 (0, 0)) := ((nx12 bd be).block (b1 + 1 + 1) (by omega)).trans hc
  have kd : we.heap[b1 + 1 + 1 + 1]? = some (.cells #[.slice (some ⟨b1 + 1, 0, none⟩) 1 1, .slice (some ⟨b1 + 1 + 1, 0, none⟩) 1 1, .slice none 0 0, .slice none 0 0] 26 (0, 0)) := (be.block (b1 + 1 + 1 + 1) (by omega)).trans hd
  clear ha hb hc hd ba bb bc bd be za zb zc zd hwa hwb hwc hwd hwe
  simp only [hb1] at ⊢
  obtain ⟨b2, e2⟩ : ∃ b, b1 + 1 = b := ⟨_, rfl⟩
  simp only [e2] at *
  obtain ⟨b3, e3⟩ : ∃ b, b2 + 1 = b := ⟨_, rfl⟩
  simp only [e3] at *
  obtain ⟨bp, e4⟩ : ∃ b, b3 + 1 = b := ⟨_, rfl⟩
  simp only [e4] at *
  obtain ⟨bq, e5⟩ : ∃ b, bp + 1 = b := ⟨_, rfl⟩
  simp only [e5] at *
  have HPG : Hid (∀ w', Below we.heap.size we w' → PG w' (some ⟨b2, 0, none⟩) (some ⟨b3, 0, none⟩) none none pE) := Lib.hid (fun w' hb => ⟨(sg_one kb).below hb, (rg_one kc).below hb, rg_nil _, qg_nil _⟩)
  have HQG : Hid (∀ w', Below we.heap.size we w' → PG w' (some ⟨b2, 0, none⟩) none none none qE) := Lib.hid (fun w' hb => ⟨(sg_one kb).below hb, rg_nil _, rg_nil _, qg_nil _⟩)
  have HK : Hid (∀ w', Below we.heap.size we w' → (∀ o, w'.cell? ⟨b1, o, none⟩ = (#[.string ⟨#[65]⟩, .string ⟨#[114]⟩] : Array Value)[o]?) ∧ (∀ o, w'.cell? ⟨bp, o, none⟩ = (#[.slice (some ⟨b2, 0, none⟩) 1 1, .slice (some ⟨b3, 0, none⟩) 1 1, .slice none 0 0, .slice none 0 0] : Array Value)[o]?) ∧ ∀ o, w'.cell? ⟨bq, o, none⟩ = (#[.slice (some ⟨b2, 0, none⟩) 1 1, .slice none 0 0, .slice none 0 0, .slice none 0 0] : Array Value)[o]?) := Lib.hid (fun w' hb => ⟨fun o => Lib.cell_of_heap ((hb.block b1 (Array.getElem?_eq_some_iff.1 ka).1).trans ka) o, fun o => Lib.cell_of_heap ((hb.block bp (Array.getElem?_eq_some_iff.1 kd).1).trans kd) o, fun o => Lib.cell_of_heap ((hb.block bq (Array.getElem?_eq_some_iff.1 he).1).trans he) o⟩)
  have HEp : Hid (∀ w', Below we.heap.size we w' → ∀ w'', Below w'.heap.size w' w'' → Calls Tryz.prog 50 #[pE.val (some ⟨b2, 0, none⟩) (some ⟨b3, 0, none⟩) none none 1 1 0 0] w'' (TMPost (ET pE) (NT pE) (RuE pE) w'')) := Lib.hid (fun w' hb w'' hb2 => HiG.highEval pE (some ⟨b2, 0, none⟩) (some ⟨b3, 0, none⟩) none none 1 1 0 0 w'' (HTab.out w'' (nx12 HW.out (nx12 hb hb2))) (HPow.out w'' (nx12 HW.out (nx12 hb hb2))) few_p came_p (HPG.out w'' (nx12 hb hb2)) e7_p n4_p)
  have HEq : Hid (∀ w', Below we.heap.size we w' → ∀ w'', Below w'.heap.size w' w'' → Calls Tryz.prog 50 #[qE.val (some ⟨b2, 0, none⟩) none none none 1 0 0 0] w'' (TMPost (ET qE) (NT qE) (RuE qE) w'')) := Lib.hid (fun w' hb w'' hb2 => HiG.highEval qE (some ⟨b2, 0, none⟩) none none none 1 0 0 0 w'' (HTab.out w'' (nx12 HW.out (nx12 hb hb2))) (HPow.out w'' (nx12 HW.out (nx12 hb hb2))) few_q came_q (HQG.out w'' (nx12 hb hb2)) e7_q n4_q)
  have HMp : Hid (∀ w', Below we.heap.size we w' → Calls Tryz.prog 18 #[.agg #[.slice (some ⟨b2, 0, none⟩) 1 1, .slice (some ⟨b3, 0, none⟩) 1 1, .slice none 0 0, .slice none 0 0], .agg #[.string ⟨#[65]⟩, .string ⟨#[114]⟩]] w' fun e w'' => ∃ A c, e = .returned (.slice A 1 c) ∧ SRow w'' A [[66]] ∧ Below w'.heap.size w' w'') := Lib.hid (fun w' hb => by
    have h := HiH.highMembers pE (some ⟨b2, 0, none⟩) (some ⟨b3, 0, none⟩) none none 1 1 0 0 rR (ET pE) (NT pE) (RuE pE) w' (HTab.out w' (nx12 HW.out hb)) (Nat.le_trans e7_p (by omega)) (HEp.out w' hb)
    rw [mem_p] at h
    refine h.mono ?_
    rintro e w'' ⟨v, rfl, ho, hb⟩
    obtain ⟨A, c, rfl, _, hr⟩ := SRow.of_own ho
    exact ⟨A, c, rfl, hr, hb⟩)
  have HMq : Hid (∀ w', Below we.heap.size we w' → Calls Tryz.prog 18 #[.agg #[.slice (some ⟨b2, 0, none⟩) 1 1, .slice none 0 0, .slice none 0 0, .slice none 0 0], .agg #[.string ⟨#[65]⟩, .string ⟨#[114]⟩]] w' fun e w'' => ∃ A c, e = .returned (.slice A 3 c) ∧ SRow w'' A eT ∧ Below w'.heap.size w' w'') := Lib.hid (fun w' hb => by
    have h := HiH.highMembers qE (some ⟨b2, 0, none⟩) none none none 1 0 0 0 rR (ET qE) (NT qE) (RuE qE) w' (HTab.out w' (nx12 HW.out hb)) (Nat.le_trans e7_q (by omega)) (HEq.out w' hb)
    rw [mem_q] at h
    refine h.mono ?_
    rintro e w'' ⟨v, rfl, ho, hb⟩
    obtain ⟨A, c, rfl, _, hr⟩ := SRow.of_own ho
    exact ⟨A, c, rfl, hr, hb⟩)
  have HSt : Hid (∀ w', Below we.heap.size we w' → Calls Tryz.prog 15 #[.agg #[.slice (some ⟨b2, 0, none⟩) 1 1, .slice none 0 0, .slice none 0 0, .slice none 0 0]] w' fun e w'' => ∃ st : Nat, e = .returned (.int .i64 st) ∧ 0 < st ∧ Below w'.heap.size w' w'') := Lib.hid (fun w' hb => by
    have h := HiH.highSteps qE (some ⟨b2, 0, none⟩) none none none 1 0 0 0 (ET qE) (NT qE) (RuE qE) w' (HEq.out w' hb)
    refine h.mono ?_
    rintro e w'' ⟨st, rfl, hs, hb⟩
    exact ⟨st, rfl, hs.2 rl_ne, hb⟩)
  have HS1 : Hid (∀ A B ca cb w', SRow w' A [[66]] → SRow w' B [[66]] → Calls Tryz.prog 40 #[.slice A 1 ca, .slice B 1 cb] w' fun e w'' => e = .returned (.bool true) ∧ Below w'.heap.size w' w'') := Lib.hid (fun A B ca cb w' h1 h2 => same_ A B ca cb [[66]] w' (by decide) h1 h2)
  have HS3 : Hid (∀ A B ca cb w', SRow w' A eT → SRow w' B eT → Calls Tryz.prog 40 #[.slice A 3 ca, .slice B 3 cb] w' fun e w'' => e = .returned (.bool true) ∧ Below w'.heap.size w' w'') := Lib.hid (fun A B ca cb w' h1 h2 => same_ A B ca cb eT w' (by decide) h1 h2)
  have cs := HK.out we (Below.refl _ _)
  obtain ⟨cr, cp, cq⟩ := cs
  clear ka kb kc kd he HPG HQG HEp HEq HTab HPow
  go_wp2_with fail
  refine (HMp.out we (Below.refl _ _)).mono ?_
  rintro e w1 ⟨A5, c5, rfl, hr5, hb5⟩
  have HB1 := Lib.hid (nx12 hb5 (below_alloc w1 (.cells #[.string ⟨#[66]⟩] 9)))
  have HR1 := Lib.hid (And.intro (hr5.keep (below_alloc w1 (.cells #[.string ⟨#[66]⟩] 9))) (srow1 (heap_alloc_new w1 (.cells #[.string ⟨#[66]⟩] 9))))
  clear hr5 hb5 cr cp cq
  go_wp2_with fail
  refine (HS1.out _ _ _ _ _ HR1.out.1 HR1.out.2).mono ?_
  rintro e w2 ⟨rfl, hb2⟩
  have HB2 := Lib.hid (nx12 HB1.out hb2)
  obtain ⟨cr, cp, cq⟩ := HK.out w2 HB2.out
  clear hb2 HB1 HR1
  go_wp2_with fail
  refine (HMq.out w2 HB2.out).mono ?_
  rintro e w3 ⟨A6, c6, rfl, hr6, hb6⟩
  have HB3 := Lib.hid (nx12 (nx12 HB2.out hb6) (below_alloc w3 (.cells #[.string ⟨#[65]⟩, .string ⟨#[66]⟩, .string ⟨#[88, 49]⟩] 9)))
  have HR3 := Lib.hid (And.intro (hr6.keep (below_alloc w3 (.cells #[.string ⟨#[65]⟩, .string ⟨#[66]⟩, .string ⟨#[88, 49]⟩] 9))) (srow3 (heap_alloc_new w3 (.cells #[.string ⟨#[65]⟩, .string ⟨#[66]⟩, .string ⟨#[88, 49]⟩] 9))))
  clear hr6 hb6 cr cp cq HB2
  go_wp2_with fail
  refine (HS3.out _ _ _ _ _ HR3.out.1 HR3.out.2).mono ?_
  rintro e w4 ⟨rfl, hb4⟩
  have HB4 := Lib.hid (nx12 HB3.out hb4)
  obtain ⟨cr, cp, cq⟩ := HK.out w4 HB4.out
  clear hb4 HB3 HR3
  go_wp2_with fail
  refine (HSt.out w4 HB4.out).mono ?_
  rintro e w5 ⟨st, rfl, hst, hb5⟩
  have d1 : decide (0 < st) = true := decide_eq_true hst
  have d2 : decide ((0 : Int) < st) = true := by simp; omega
  have HF := Lib.hid (nx12 HW.out (nx12 HB4.out hb5))
  clear hb5 cr cp cq HB4
  go_wp2_with fail
  go_ret
  exact ⟨rfl, HF.out⟩
end Go.Proofs.YtblapgfilbmdhaaGreatDoor.HiO
namespace Go.Proofs.YtblapgfilbmdhaaGreatDoor.HiP
open Go.RowKit Go.Sort Go.Lib Go.Proofs Plain SynP TabP Tab1 Tab5 PolA PolE PolG PolH PolOp PolLi RefPr RefSm TblA TblB TblC TblP TblQ TblR SetJ SetR SemA SemGa StB StR LwA LwD LwE LwG LwH LwM LwT
open HiA HiL
open HiM (Small)
theorem max_226 {p : Py} (h : Small p) : (maxS p).length ≤ 226 := Nat.le_trans (max_len p) (by have := hp_len h.e7 h.n4; have := h.few.n1; omega)
end Go.Proofs.YtblapgfilbmdhaaGreatDoor.HiP
