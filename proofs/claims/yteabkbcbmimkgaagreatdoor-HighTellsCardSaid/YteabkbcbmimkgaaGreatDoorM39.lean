/- high.pairs, twice: roles of principals and names, statements of roles and principals; by contract. -/
import Derived.Test.YteabkbcbmimkgaaGreatDoorM38
import Derived.Test.YteabkbcbmimkgaaGreatDoorM12
import Derived.Test.YteabkbcbmimkgaaGreatDoorM21
import Derived.Test.YteabkbcbmimkgaaGreatDoorM11
import Derived.Sort.WalkB12
import Derived.Lib.SliceRun
import Derived.Deep.LoopGhost
import Derived.Deep.Draws
import Derived.Shelf.RegionOpenPlain
import Derived.Deep.MidRow
import Derived.Lib.LazyBuf
import Derived.Lib.AppendZeros
import Derived.Test.YteabkbcbmimkgaaGreatDoorM22
import Derived.Test.YteabkbcbmimkgaaGreatDoorM26
import Derived.Test.YteabkbcbmimkgaaGreatDoorM36
import Derived.Test.YteabkbcbmimkgaaGreatDoorM34
import Derived.Test.YteabkbcbmimkgaaGreatDoorM37
import Derived.Test.YteabkbcbmimkgaaGreatDoorM24
import Derived.Test.YteabkbcbmimkgaaGreatDoorM35
set_option linter.unusedVariables false
set_option linter.unusedSimpArgs false
namespace Go.Proofs.YteabkbcbmimkgaaGreatDoor.HiC
open Go.RowKit Go.Sort Go.Lib Go.Proofs Plain SynP SynD2 SynJ TabP Tab1 PolA PolE PolG TblB TblR LwH HiA
abbrev nx := @LwH.nx
theorem sg_of_own_ {w : World} {B : Nat} {A : Option Addr} {c : Nat} {T : List St} (h : w.ownsRow B 78 9 (.slice A T.length c) T.length (stCells T)) : SG w A T := by
  obtain ⟨A', c', e, hs⟩ := StI.sg_own h
  injection e with e1 _ _
  subst e1
  exact hs
def rowR (x : Str) (U : List Str) : List Rl := U.map fun y => (⟨txt x, txt y⟩ : Rl)
def rowR1 (x : Str) (y : Str) : Rl := (⟨txt x, txt y⟩ : Rl)
theorem rowR_take (x : Str) (U : List Str) {j : Nat} (h : j < U.length) : rowR x (U.take (j + 1)) = rowR x (U.take j) ++ [rowR1 x U[j]] := by
  unfold rowR rowR1
  rw [List.take_succ_eq_append_getElem h, List.map_append]; rfl
set_option maxRecDepth 100000 in
theorem mkR (x y : ByteArray) (w : World) : Calls Tryz.prog 69 #[.string x, .string y] w fun e w' => e = .returned (.agg #[.string x, .string y]) ∧ Below w.heap.size w w' := by
  go_enter Tryz.func69, Tryz.ntmps69
  go_wp2_with fail
  exact bodyPost_ret (v := .agg #[.string x, .string y]) (results_cell_row (cs := #[.string x, .string y]) (fn := Tryz.f69) rfl _ _ w.heap.size 28 (0, 0) _ rfl (heap_alloc_new w _) Tryz.underlying28 rfl infoRole2) rfl ⟨rfl, LwL.below_alloc _ _⟩
set_option maxRecDepth 100000 in
theorem concat0R (w : World) : Calls Tryz.prog 126 #[.slice none 0 0] w (PolF.RPost [] w) := by
  unfold PolF.RPost
  go_enter Tryz.func126, Tryz.ntmps126
  go_wp2_with fail
  go_loop [3, 11] (fun s i => i = .int .i64 0 ∧ s = .int .i64 0) (fun _ _ => 0)
  case atStart => exact ⟨rfl, rfl⟩
  case round =>
    obtain ⟨rfl, rfl⟩ := hrel
    go_wp2_with fail
    refine (PolF.growR 0 w (by omega)).mono ?_
    rintro e w1 ⟨v1, rfl, hown1, hbel1⟩
    have HO := Lib.hid hown1
    have HB := Lib.hid hbel1
    clear hown1 hbel1
    go_wp2_with fail
    go_loopw [6, 27] (fun v i wr => i = .int .i64 0 ∧ Hid (Below w.heap.size w wr) ∧ Hid (wr.ownsRow w.heap.size 28 2 v 0 [])) (fun _ _ _ => 0)
    case atStart => exact ⟨rfl, HB, Lib.hid (by simpa [rcells] using HO.out)⟩
    case round =>
      obtain ⟨rfl, hb, ho⟩ := hrel
      go_wp2_with fail
      go_ret
      exact ⟨_, rfl, by simpa [rcells] using ho.out, hb.out⟩
theorem infoSR : (Tryz.prog.info? 23).map (fun i => (i.zero, i.size, i.bytes)) = some (some (.slice none 0 0), 1, 24) := by kernel_rfl
def slcR (r : PolF.RowR) : Value := .slice r.A r.l.length r.c
def RowsR (w wr : World) (R : List PolF.RowR) : Prop := ∀ r ∈ R, wr.ownsRow w.heap.size 28 2 (slcR r) r.l.length (rcells r.l)
set_option maxHeartbeats 2000000 in
set_option maxRecDepth 100000 in
theorem pairsR (A B : Option Addr) (ca cb : Nat) (L : List Str) (U : List Str) (w : World) (hL : L.length ≤ 100) (hU : U.length ≤ 100) (hA : SRow w A L) (hB : SRow w B U) :
    Calls Tryz.prog 73 #[.func (.func 69) #[] #[], .slice A L.length ca, .slice B U.length cb] w (PolF.RPost (L.flatMap fun x => rowR x U) w) := by
  have HA := Lib.hid (fun (wr : World) (hb : Below w.heap.size w wr) => hA.keep hb)
  have HU := Lib.hid (fun (wr : World) (hb : Below w.heap.size w wr) => hB.keep hb)
  obtain ⟨i0, hi, hz0, hz1, hz2⟩ := info_parts SynJ.infoRole
  obtain ⟨j0, hj0, hjz0, hjz1, hjz2⟩ := info_parts infoSR
  unfold PolF.RPost
  clear hA hB
  go_enter Tryz.func73, Tryz.ntmps73
  go_wp2_with fail
  go_loopw [7, 15] (fun v i wr => ∃ (k : Nat) (R : List PolF.RowR), k ≤ L.length ∧ R.length = k ∧ i = .int .i64 k ∧ Hid (R.map PolF.RowR.l = (L.take k).map fun x => rowR x U) ∧ Hid (wr.ownsRow w.heap.size 23 1 v R.length (R.map slcR)) ∧ Hid (RowsR w wr R) ∧ Below w.heap.size w wr) (fun _ i _ => L.length - (intOf i).toNat)
  case atStart => exact ⟨0, [], by omega, rfl, rfl, Lib.hid (by simp), Lib.hid (World.ownsRow_nil _ _ _ _), Lib.hid (fun r hr => absurd hr (by simp)), Below.refl _ _⟩
  case round =>
    obtain ⟨k, R, hk, hRk, rfl, hmap, hown, hrows, hb⟩ := hrel
    by_cases hlt : k < L.length
    · have d1 : decide ((k : Int) < L.length) = true := by simp; omega
      obtain ⟨g, o, rfl, hg, hcl⟩ := (HA.out wr hb) (by omega)
      have y0 : wr.cell? ⟨g, o + k, none⟩ = some (.string (txt L[k])) := hcl k hlt
      have HTk : Hid (L.take (k + 1) = L.take k ++ [L[k]]) := Lib.hid (List.take_succ_eq_append_getElem hlt)
      have p1 : (0 : Int) ≤ k := by omega
      have p2 : (k : Int) < L.length := by omega
      clear hcl
      generalize L[k] = x at *
      obtain ⟨w2, hw2e⟩ : ∃ w2, w2 = wr := ⟨_, rfl⟩
      have HB2 : Hid (Below w.heap.size w w2) := Lib.hid (by rw [hw2e]; exact hb)
      have HO2 : Hid (w2.ownsRow w.heap.size 23 1 u7 R.length (R.map slcR)) := Lib.hid (by rw [hw2e]; exact hown.out)
      have HR2 : Hid (RowsR w w2 R) := Lib.hid (by rw [hw2e]; exact hrows.out)
      rw [← hw2e] at y0 ⊢
      clear hw2e hb hown hrows
      go_wp2_with fail
      clear y0
      go_loopw [10, 21] (fun v i wr => ∃ j : Nat, j ≤ U.length ∧ i = .int .i64 j ∧ Hid (wr.ownsRow w2.heap.size 28 2 v (rowR x (U.take j)).length (rcells (rowR x (U.take j)))) ∧ Below w2.heap.size w2 wr) (fun _ i _ => U.length - (intOf i).toNat)
      case atStart => exact ⟨0, by omega, rfl, Lib.hid (by simpa [rowR, rcells] using World.ownsRow_nil _ _ _ _), Below.refl _ _⟩
      case round =>
        obtain ⟨j, hj, rfl, hown, hb⟩ := hrel
        have hrl : (rowR x (U.take j)).length = j := by unfold rowR; rw [List.length_map, List.length_take]; omega
        by_cases hlt2 : j < U.length
        · have d2 : decide ((j : Int) < U.length) = true := by simp; omega
          obtain ⟨g2, o2, rfl, hg2, hcl⟩ := (HU.out wr (HB2.out.trans (hb.mono HB2.out.size))) (by omega)
          have z0 : wr.cell? ⟨g2, o2 + j, none⟩ = some (.string (txt U[j])) := hcl j hlt2
          have HTj : Hid (rowR x (U.take (j + 1)) = rowR x (U.take j) ++ [rowR1 x U[j]]) := Lib.hid (rowR_take _ U hlt2)
          have r1 : (0 : Int) ≤ j := by omega
          have r2 : (j : Int) < U.length := by omega
          clear hcl
          generalize U[j] = y at *
          have HM := Lib.hid (mkR (txt x) (txt y))
          have HBr := Lib.hid hb
          skip
          have hown2 := hown.out
          obtain ⟨F0, hF0⟩ : ∃ F0, rowR x (U.take j) = F0 := ⟨_, rfl⟩
          rw [hF0] at hown2 hrl HTj
          clear hb hown hF0
          go_wp2_with fail
          refine (HM.out _).mono ?_
          rintro e w4 ⟨rfl, hb4⟩
          have hown4 := own_at hown2 hb4
          have HB4 := Lib.hid (nx HBr.out hb4)
          have hz4 := HB4.out.size
          clear hb4 hown2 HM z0
          go_wp2_with (at_builtin; refine wpList_append_own _ rfl _ _ 23 rfl w2.heap.size 28 i0 (.agg #[.string ⟨#[]⟩, .string ⟨#[]⟩]) 2 32 Tryz.underlying23 hi hz0 hz1 hz2 rfl (by decide) _ _ _ rfl (hown4.alloc _) ⟨w4.heap.size, 0, none⟩ 1 1 [.string (txt x), .string (txt y)] rfl rfl ?c1 ?c2 ?c3 ?c4 ?c5 ?_)
          case c1 => exact LwF.new_cells _ _ _
          case c2 => intro u hu; simp at hu; rcases hu with rfl | rfl <;> rfl
          case c3 => unfold maxLen; omega
          case c4 => omega
          case c5 => simp; omega
          intro v' w5 hown' hgrow _
          have HO5 : Hid (w5.ownsRow w2.heap.size 28 2 v' (rowR x (U.take (j + 1))).length (rcells (rowR x (U.take (j + 1))))) := Lib.hid (by
            rw [HTj.out, rcells_app, List.length_append, hrl]
            exact hown')
          have HB5 := Lib.hid (LwC.below_own HB4.out (Nat.le_refl _) hown4 hgrow hz4)
          clear hown' hown4 hgrow
          skip
          go_wp2_with fail
          go_roundw
          case rel => exact ⟨j + 1, by omega, by go_num, HO5, HB5.out⟩
          case measure => simp [intOf]; omega
        · have d2 : decide ((j : Int) < U.length) = false := by simp; omega
          have hjU : j = U.length := by omega
          subst hjU
          have hownr := hown.out
          rw [List.take_length] at hownr
          obtain ⟨Ar, cr, rfl⟩ := PolLi.own_n hownr
          have hownv := own_at HO2.out hb
          have hrowsv : RowsR w wr R := fun r hr => own_at (HR2.out r hr) hb
          have HBr := Lib.hid (HB2.out.trans (hb.mono HB2.out.size))
          have hzr := HBr.out.size
          have hrl2 : (rowR x U).length = U.length := by unfold rowR; rw [List.length_map]
          have hnew : wr.ownsRow w.heap.size 28 2 (slcR ⟨Ar, cr, rowR x U⟩) (rowR x U).length (rcells (rowR x U)) := Tab4.own_base hownr HB2.out.size
          unfold slcR at hnew
          rw [hrl2] at hnew ⊢
          clear hown hb hownr hrl
          go_wp2_with (at_builtin; refine wpList_append_own _ rfl _ _ 151 rfl w.heap.size 23 j0 (.slice none 0 0) 1 24 Tryz.underlying151 hj0 hjz0 hjz1 hjz2 rfl (by decide) _ _ _ rfl (hownv.alloc _) ⟨wr.heap.size, 0, none⟩ 1 1 [.slice Ar U.length cr] rfl rfl ?c1 ?c2 ?c3 ?c4 ?c5 ?_)
          try (case c1 => exact LwF.new_cells _ _ _)
          case c2 => first | rfl | (intro u hu; simp at hu; subst hu; rfl)
          case c3 => unfold maxLen; omega
          case c4 => omega
          case c5 => first | omega | (simp; omega)
          intro v' w5 hown' hgrow _
          have HO5 : Hid (w5.ownsRow w.heap.size 23 1 v' (R ++ [(⟨Ar, cr, rowR x U⟩ : PolF.RowR)]).length ((R ++ [(⟨Ar, cr, rowR x U⟩ : PolF.RowR)]).map slcR)) := Lib.hid (by
            rw [List.length_append, List.map_append]
            have e : [(⟨Ar, cr, rowR x U⟩ : PolF.RowR)].map slcR = [.slice Ar U.length cr] := by simp only [List.map_cons, List.map_nil, slcR]; rw [hrl2]
            rw [e, hRk]
            exact hown')
          have HR5 : Hid (RowsR w w5 (R ++ [(⟨Ar, cr, rowR x U⟩ : PolF.RowR)])) := Lib.hid (fun r hr => by
            rcases List.mem_append.1 hr with h | h
            · exact LwD.keep_own hownv (hrowsv r h) (by decide) hgrow
            · rw [List.mem_singleton] at h
              subst h
              have := LwD.keep_own hownv hnew (by decide) hgrow
              unfold slcR
              simp only
              rw [hrl2]
              exact this)
          have HMp : Hid ((R ++ [(⟨Ar, cr, rowR x U⟩ : PolF.RowR)]).map PolF.RowR.l = (L.take (k + 1)).map fun x => rowR x U) := Lib.hid (by
            rw [HTk.out, List.map_append, List.map_append, hmap.out]; rfl)
          have HB5 := Lib.hid (LwC.below_own HBr.out (Nat.le_refl _) hownv hgrow hzr)
          clear hown' hownv hgrow hrowsv hnew
          go_wp2_with fail
          go_roundw
          case rel => exact ⟨k + 1, R ++ [(⟨Ar, cr, rowR x U⟩ : PolF.RowR)], by omega, by rw [List.length_append, hRk]; rfl, by go_num, HMp, HO5, HR5, HB5.out⟩
          case measure => simp [intOf]; omega
    · have d1 : decide ((k : Int) < L.length) = false := by simp; omega
      have hkL : k = L.length := by omega
      subst hRk
      have HFl : Hid (PolF.flatTo R R.length = L.flatMap fun x => rowR x U) := Lib.hid (by
        have h := hmap.out
        rw [hkL, List.take_length] at h
        unfold PolF.flatTo
        rw [List.take_length, h]
        exact (List.flatMap_def ..).symm)
      have HBr := Lib.hid hb
      have hown2 := hown.out
      have hz : w.heap.size ≤ wr.heap.size := hb.size
      rcases hown2.2 with ⟨rfl, h0⟩ | ⟨g, cap, cur, rfl, hgb, hgh, hgc, _⟩
      · have hR0 : R = [] := List.length_eq_zero_iff.1 h0
        have HF : Hid ((L.flatMap fun x => rowR x U) = []) := Lib.hid (by rw [← HFl.out, hR0]; rfl)
        have HC := Lib.hid (concat0R wr)
        unfold PolF.RPost at HC
        clear hown hown2 hrows hmap hb HFl
        go_wp2_with fail
        refine HC.out.mono ?_
        rintro e w6 ⟨v6, rfl, ho6, hb6⟩
        have HO6 := Lib.hid (Tab4.own_base ho6 hz)
        have HB6 := Lib.hid (HBr.out.trans (hb6.mono hz))
        clear ho6 hb6 HC
        go_wp2_with fail
        go_ret
        exact ⟨_, rfl, by rw [HF.out]; exact HO6.out, HB6.out⟩
      · have hcs : ∀ j, (h : j < R.length) → wr.cell? ⟨g, j, none⟩ = some (.slice R[j].A R[j].l.length R[j].c) := fun j h => by
          have := hown2.cells (g := g) rfl j (slcR R[j]) (by simp [List.getElem?_eq_getElem h])
          rw [LwA.add_off, Nat.zero_add] at this
          exact this
        have hll : ∀ r ∈ R, r.l.length ≤ 1000 := fun r hr => by
          have h1 : r.l ∈ (L.take R.length).map fun x => rowR x U := by rw [← hmap.out]; exact List.mem_map.2 ⟨r, hr, rfl⟩
          obtain ⟨x, _, e⟩ := List.mem_map.1 h1
          rw [← e]; unfold rowR; rw [List.length_map]; omega
        have HC := Lib.hid (PolF.concatR g cap R wr (by omega) hll (Array.getElem?_eq_some_iff.1 hgh).1 hcs (fun r hr => PolK.rg_of_own (hrows.out r hr)))
        rw [HFl.out] at HC
        unfold PolF.RPost at HC
        clear hown hown2 hrows hmap hb HFl hcs hll hgh hkL hgc hgb
        go_wp2_with fail
        refine HC.out.mono ?_
        rintro e w6 ⟨v6, rfl, ho6, hb6⟩
        have HO6 := Lib.hid (Tab4.own_base ho6 hz)
        have HB6 := Lib.hid (HBr.out.trans (hb6.mono hz))
        clear ho6 hb6 HC
        go_wp2_with fail
        go_ret
        exact ⟨_, rfl, HO6.out, HB6.out⟩
def rowS (x : Rl) (U : List Str) : List St := U.map fun y => (memP x y)
def rowS1 (x : Rl) (y : Str) : St := (memP x y)
theorem rowS_take (x : Rl) (U : List Str) {j : Nat} (h : j < U.length) : rowS x (U.take (j + 1)) = rowS x (U.take j) ++ [rowS1 x U[j]] := by
  unfold rowS rowS1
  rw [List.take_succ_eq_append_getElem h, List.map_append]; rfl
set_option maxRecDepth 100000 in
theorem mkS (o n y : ByteArray) (w : World) : Calls Tryz.prog 60 #[.agg #[.string o, .string n], .string y] w fun e w' => e = .returned (.agg #[.int .i64 1, .string o, .string n, .string y, .string ⟨#[]⟩, .string ⟨#[]⟩, .string ⟨#[]⟩, .string ⟨#[]⟩, .string ⟨#[]⟩]) ∧ Below w.heap.size w w' := by
  go_enter Tryz.func60, Tryz.ntmps60
  go_wp2_with fail
  exact bodyPost_ret (v := .agg #[.int .i64 1, .string o, .string n, .string y, .string ⟨#[]⟩, .string ⟨#[]⟩, .string ⟨#[]⟩, .string ⟨#[]⟩, .string ⟨#[]⟩]) (results_cell_row (cs := #[.int .i64 1, .string o, .string n, .string y, .string ⟨#[]⟩, .string ⟨#[]⟩, .string ⟨#[]⟩, .string ⟨#[]⟩, .string ⟨#[]⟩]) (fn := Tryz.f60) rfl _ _ (w.heap.size + 1) 78 (0, 0) _ rfl (heap_alloc2_new w _ _) Tryz.underlying78 rfl SynD8.infoSz) rfl ⟨rfl, ((Below.refl _ _).alloc (Nat.le_refl _) _).alloc (by simp) _⟩
set_option maxRecDepth 100000 in
theorem concat0S (w : World) : Calls Tryz.prog 115 #[.slice none 0 0] w (StA.SPost [] w) := by
  unfold StA.SPost
  go_enter Tryz.func115, Tryz.ntmps115
  go_wp2_with fail
  go_loop [3, 11] (fun s i => i = .int .i64 0 ∧ s = .int .i64 0) (fun _ _ => 0)
  case atStart => exact ⟨rfl, rfl⟩
  case round =>
    obtain ⟨rfl, rfl⟩ := hrel
    go_wp2_with fail
    refine (StA.growS 0 w (by omega)).mono ?_
    rintro e w1 ⟨v1, rfl, hown1, hbel1⟩
    have HO := Lib.hid hown1
    have HB := Lib.hid hbel1
    clear hown1 hbel1
    go_wp2_with fail
    go_loopw [6, 27] (fun v i wr => i = .int .i64 0 ∧ Hid (Below w.heap.size w wr) ∧ Hid (wr.ownsRow w.heap.size 78 9 v 0 [])) (fun _ _ _ => 0)
    case atStart => exact ⟨rfl, HB, Lib.hid (by simpa [stCells] using HO.out)⟩
    case round =>
      obtain ⟨rfl, hb, ho⟩ := hrel
      go_wp2_with fail
      go_ret
      exact ⟨_, rfl, by simpa [stCells] using ho.out, hb.out⟩
theorem infoSS : (Tryz.prog.info? 22).map (fun i => (i.zero, i.size, i.bytes)) = some (some (.slice none 0 0), 1, 24) := by kernel_rfl
def slcS (r : StA.RowS) : Value := .slice r.A r.l.length r.c
def RowsS (w wr : World) (R : List StA.RowS) : Prop := ∀ r ∈ R, wr.ownsRow w.heap.size 78 9 (slcS r) r.l.length (stCells r.l)
set_option maxHeartbeats 2000000 in
set_option maxRecDepth 100000 in
theorem pairsS (A B : Option Addr) (ca cb : Nat) (L : List Rl) (U : List Str) (w : World) (hL : L.length ≤ 100) (hU : U.length ≤ 100) (hA : RG w A L) (hB : SRow w B U) :
    Calls Tryz.prog 62 #[.func (.func 60) #[] #[], .slice A L.length ca, .slice B U.length cb] w (StA.SPost (L.flatMap fun x => rowS x U) w) := by
  have HA := Lib.hid (fun (wr : World) (hb : Below w.heap.size w wr) => hA.below hb)
  have HU := Lib.hid (fun (wr : World) (hb : Below w.heap.size w wr) => hB.keep hb)
  obtain ⟨i0, hi, hz0, hz1, hz2⟩ := info_parts SynD2.infoSt
  obtain ⟨j0, hj0, hjz0, hjz1, hjz2⟩ := info_parts infoSS
  unfold StA.SPost
  clear hA hB
  go_enter Tryz.func62, Tryz.ntmps62
  go_wp2_with fail
  go_loopw [7, 15] (fun v i wr => ∃ (k : Nat) (R : List StA.RowS), k ≤ L.length ∧ R.length = k ∧ i = .int .i64 k ∧ Hid (R.map StA.RowS.l = (L.take k).map fun x => rowS x U) ∧ Hid (wr.ownsRow w.heap.size 22 1 v R.length (R.map slcS)) ∧ Hid (RowsS w wr R) ∧ Below w.heap.size w wr) (fun _ i _ => L.length - (intOf i).toNat)
  case atStart => exact ⟨0, [], by omega, rfl, rfl, Lib.hid (by simp), Lib.hid (World.ownsRow_nil _ _ _ _), Lib.hid (fun r hr => absurd hr (by simp)), Below.refl _ _⟩
  case round =>
    obtain ⟨k, R, hk, hRk, rfl, hmap, hown, hrows, hb⟩ := hrel
    by_cases hlt : k < L.length
    · have d1 : decide ((k : Int) < L.length) = true := by simp; omega
      obtain ⟨g, o, rfl, hg, hcl⟩ := (HA.out wr hb) (by omega)
      obtain ⟨y0, y1⟩ := hcl k hlt
      have HTk : Hid (L.take (k + 1) = L.take k ++ [L[k]]) := Lib.hid (List.take_succ_eq_append_getElem hlt)
      have p1 : (0 : Int) ≤ k := by omega
      have p2 : (k : Int) < L.length := by omega
      clear hcl
      generalize L[k] = x at *
      obtain ⟨xo, xn⟩ := x
      simp only at y0 y1
      have hnw := heap_alloc_new wr (.cells #[.string xo, .string xn] 28)
      have hbn := hb.alloc hb.size (.cells #[.string xo, .string xn] 28)
      have hb1 := LwL.below_alloc wr (.cells #[.string xo, .string xn] 28)
      have hown3 := own_at hown.out hb1
      have hrows3 : RowsS w (wr.alloc (.cells #[.string xo, .string xn] 28)) R := fun r hr => own_at (hrows.out r hr) hb1
      go_upto_region 5 with fail
      obtain ⟨w2, hw2⟩ : ∃ x, wr.alloc (.cells #[.string xo, .string xn] 28) = x := ⟨_, rfl⟩
      obtain ⟨bx, hbx⟩ : ∃ bx, wr.heap.size = bx := ⟨_, rfl⟩
      rw [hw2] at hnw hbn hown3 hrows3 ⊢
      rw [hbx] at hnw ⊢
      have hbl : bx < w2.heap.size := (Array.getElem?_eq_some_iff.1 hnw).1
      have HX := Lib.hid (fun (w' : World) (hb : Below w2.heap.size w2 w') (o : Nat) => Lib.cell_of_heap ((hb.block bx hbl).trans hnw) o)
      have HB2 := Lib.hid hbn
      have HO2 := Lib.hid hown3
      have HR2 := Lib.hid hrows3
      clear hw2 hbx y0 y1 hnw hbn hb1 hown3 hrows3 hb hown hrows
      go_wp2_with fail
      go_loopw [10, 21] (fun v i wr => ∃ j : Nat, j ≤ U.length ∧ i = .int .i64 j ∧ Hid (wr.ownsRow w2.heap.size 78 9 v (rowS (⟨xo, xn⟩ : Rl) (U.take j)).length (stCells (rowS (⟨xo, xn⟩ : Rl) (U.take j)))) ∧ Below w2.heap.size w2 wr) (fun _ i _ => U.length - (intOf i).toNat)
      case atStart => exact ⟨0, by omega, rfl, Lib.hid (by simpa [rowS, stCells] using World.ownsRow_nil _ _ _ _), Below.refl _ _⟩
      case round =>
        obtain ⟨j, hj, rfl, hown, hb⟩ := hrel
        have hrl : (rowS (⟨xo, xn⟩ : Rl) (U.take j)).length = j := by unfold rowS; rw [List.length_map, List.length_take]; omega
        by_cases hlt2 : j < U.length
        · have d2 : decide ((j : Int) < U.length) = true := by simp; omega
          obtain ⟨g2, o2, rfl, hg2, hcl⟩ := (HU.out wr (HB2.out.trans (hb.mono HB2.out.size))) (by omega)
          have z0 : wr.cell? ⟨g2, o2 + j, none⟩ = some (.string (txt U[j])) := hcl j hlt2
          have HTj : Hid (rowS (⟨xo, xn⟩ : Rl) (U.take (j + 1)) = rowS (⟨xo, xn⟩ : Rl) (U.take j) ++ [rowS1 (⟨xo, xn⟩ : Rl) U[j]]) := Lib.hid (rowS_take _ U hlt2)
          have r1 : (0 : Int) ≤ j := by omega
          have r2 : (j : Int) < U.length := by omega
          clear hcl
          generalize U[j] = y at *
          have HM := Lib.hid (mkS xo xn (txt y))
          have HBr := Lib.hid hb
          have xs := HX.out wr hb
          have hown2 := hown.out
          obtain ⟨F0, hF0⟩ : ∃ F0, rowS (⟨xo, xn⟩ : Rl) (U.take j) = F0 := ⟨_, rfl⟩
          rw [hF0] at hown2 hrl HTj
          clear hb hown hF0
          go_wp2_with fail
          refine (HM.out _).mono ?_
          rintro e w4 ⟨rfl, hb4⟩
          have hown4 := own_at hown2 hb4
          have HB4 := Lib.hid (nx HBr.out hb4)
          have hz4 := HB4.out.size
          clear hb4 hown2 HM z0
          go_wp2_with (at_builtin; refine wpList_append_own _ rfl _ _ 22 rfl w2.heap.size 78 i0 zeroS.val 9 136 Tryz.underlying22 hi hz0 hz1 hz2 rfl (by decide) _ _ _ rfl (hown4.alloc _) ⟨w4.heap.size, 0, none⟩ 1 1 [.int .i64 1, .string xo, .string xn, .string (txt y), .string ⟨#[]⟩, .string ⟨#[]⟩, .string ⟨#[]⟩, .string ⟨#[]⟩, .string ⟨#[]⟩] rfl rfl ?c1 ?c2 ?c3 ?c4 ?c5 ?_)
          case c1 => exact LwF.new_cells _ _ _
          case c2 => intro u hu; simp at hu; rcases hu with rfl | rfl | rfl | rfl | rfl | rfl | rfl | rfl | rfl <;> rfl
          case c3 => unfold maxLen; omega
          case c4 => omega
          case c5 => simp; omega
          intro v' w5 hown' hgrow _
          have HO5 : Hid (w5.ownsRow w2.heap.size 78 9 v' (rowS (⟨xo, xn⟩ : Rl) (U.take (j + 1))).length (stCells (rowS (⟨xo, xn⟩ : Rl) (U.take (j + 1))))) := Lib.hid (by
            rw [HTj.out, stCells_app, List.length_append, hrl]
            exact hown')
          have HB5 := Lib.hid (LwC.below_own HB4.out (Nat.le_refl _) hown4 hgrow hz4)
          clear hown' hown4 hgrow
          clear xs
          go_wp2_with fail
          go_roundw
          case rel => exact ⟨j + 1, by omega, by go_num, HO5, HB5.out⟩
          case measure => simp [intOf]; omega
        · have d2 : decide ((j : Int) < U.length) = false := by simp; omega
          have hjU : j = U.length := by omega
          subst hjU
          have hownr := hown.out
          rw [List.take_length] at hownr
          obtain ⟨Ar, cr, rfl⟩ := PolLi.own_n hownr
          have hownv := own_at HO2.out hb
          have hrowsv : RowsS w wr R := fun r hr => own_at (HR2.out r hr) hb
          have HBr := Lib.hid (HB2.out.trans (hb.mono HB2.out.size))
          have hzr := HBr.out.size
          have hrl2 : (rowS (⟨xo, xn⟩ : Rl) U).length = U.length := by unfold rowS; rw [List.length_map]
          have hnew : wr.ownsRow w.heap.size 78 9 (slcS ⟨Ar, cr, rowS (⟨xo, xn⟩ : Rl) U⟩) (rowS (⟨xo, xn⟩ : Rl) U).length (stCells (rowS (⟨xo, xn⟩ : Rl) U)) := Tab4.own_base hownr HB2.out.size
          unfold slcS at hnew
          rw [hrl2] at hnew ⊢
          clear hown hb hownr hrl
          go_wp2_with (at_builtin; refine wpList_append_own _ rfl _ _ 144 rfl w.heap.size 22 j0 (.slice none 0 0) 1 24 Tryz.underlying144 hj0 hjz0 hjz1 hjz2 rfl (by decide) _ _ _ rfl (hownv.alloc _) ⟨wr.heap.size, 0, none⟩ 1 1 [.slice Ar U.length cr] rfl rfl ?c1 ?c2 ?c3 ?c4 ?c5 ?_)
          try (case c1 => exact LwF.new_cells _ _ _)
          case c2 => first | rfl | (intro u hu; simp at hu; subst hu; rfl)
          case c3 => unfold maxLen; omega
          case c4 => omega
          case c5 => first | omega | (simp; omega)
          intro v' w5 hown' hgrow _
          have HO5 : Hid (w5.ownsRow w.heap.size 22 1 v' (R ++ [(⟨Ar, cr, rowS (⟨xo, xn⟩ : Rl) U⟩ : StA.RowS)]).length ((R ++ [(⟨Ar, cr, rowS (⟨xo, xn⟩ : Rl) U⟩ : StA.RowS)]).map slcS)) := Lib.hid (by
            rw [List.length_append, List.map_append]
            have e : [(⟨Ar, cr, rowS (⟨xo, xn⟩ : Rl) U⟩ : StA.RowS)].map slcS = [.slice Ar U.length cr] := by simp only [List.map_cons, List.map_nil, slcS]; rw [hrl2]
            rw [e, hRk]
            exact hown')
          have HR5 : Hid (RowsS w w5 (R ++ [(⟨Ar, cr, rowS (⟨xo, xn⟩ : Rl) U⟩ : StA.RowS)])) := Lib.hid (fun r hr => by
            rcases List.mem_append.1 hr with h | h
            · exact LwD.keep_own hownv (hrowsv r h) (by decide) hgrow
            · rw [List.mem_singleton] at h
              subst h
              have := LwD.keep_own hownv hnew (by decide) hgrow
              unfold slcS
              simp only
              rw [hrl2]
              exact this)
          have HMp : Hid ((R ++ [(⟨Ar, cr, rowS (⟨xo, xn⟩ : Rl) U⟩ : StA.RowS)]).map StA.RowS.l = (L.take (k + 1)).map fun x => rowS x U) := Lib.hid (by
            rw [HTk.out, List.map_append, List.map_append, hmap.out]; rfl)
          have HB5 := Lib.hid (LwC.below_own HBr.out (Nat.le_refl _) hownv hgrow hzr)
          clear hown' hownv hgrow hrowsv hnew
          go_wp2_with fail
          go_roundw
          case rel => exact ⟨k + 1, R ++ [(⟨Ar, cr, rowS (⟨xo, xn⟩ : Rl) U⟩ : StA.RowS)], by omega, by rw [List.length_append, hRk]; rfl, by go_num, HMp, HO5, HR5, HB5.out⟩
          case measure => simp [intOf]; omega
    · have d1 : decide ((k : Int) < L.length) = false := by simp; omega
      have hkL : k = L.length := by omega
      subst hRk
      have HFl : Hid (StA.flatTo R R.length = L.flatMap fun x => rowS x U) := Lib.hid (by
        have h := hmap.out
        rw [hkL, List.take_length] at h
        unfold StA.flatTo
        rw [List.take_length, h]
        exact (List.flatMap_def ..).symm)
      have HBr := Lib.hid hb
      have hown2 := hown.out
      have hz : w.heap.size ≤ wr.heap.size := hb.size
      rcases hown2.2 with ⟨rfl, h0⟩ | ⟨g, cap, cur, rfl, hgb, hgh, hgc, _⟩
      · have hR0 : R = [] := List.length_eq_zero_iff.1 h0
        have HF : Hid ((L.flatMap fun x => rowS x U) = []) := Lib.hid (by rw [← HFl.out, hR0]; rfl)
        have HC := Lib.hid (concat0S wr)
        unfold StA.SPost at HC
        clear hown hown2 hrows hmap hb HFl
        go_wp2_with fail
        refine HC.out.mono ?_
        rintro e w6 ⟨v6, rfl, ho6, hb6⟩
        have HO6 := Lib.hid (Tab4.own_base ho6 hz)
        have HB6 := Lib.hid (HBr.out.trans (hb6.mono hz))
        clear ho6 hb6 HC
        go_wp2_with fail
        go_ret
        exact ⟨_, rfl, by rw [HF.out]; exact HO6.out, HB6.out⟩
      · have hcs : ∀ j, (h : j < R.length) → wr.cell? ⟨g, j, none⟩ = some (.slice R[j].A R[j].l.length R[j].c) := fun j h => by
          have := hown2.cells (g := g) rfl j (slcS R[j]) (by simp [List.getElem?_eq_getElem h])
          rw [LwA.add_off, Nat.zero_add] at this
          exact this
        have hll : ∀ r ∈ R, r.l.length ≤ 1000 := fun r hr => by
          have h1 : r.l ∈ (L.take R.length).map fun x => rowS x U := by rw [← hmap.out]; exact List.mem_map.2 ⟨r, hr, rfl⟩
          obtain ⟨x, _, e⟩ := List.mem_map.1 h1
          rw [← e]; unfold rowS; rw [List.length_map]; omega
        have HC := Lib.hid (StA.concatS g cap R wr (by omega) hll (Array.getElem?_eq_some_iff.1 hgh).1 hcs (fun r hr => sg_of_own_ (hrows.out r hr)))
        rw [HFl.out] at HC
        unfold StA.SPost at HC
        clear hown hown2 hrows hmap hb HFl hcs hll hgh hkL hgc hgb
        go_wp2_with fail
        refine HC.out.mono ?_
        rintro e w6 ⟨v6, rfl, ho6, hb6⟩
        have HO6 := Lib.hid (Tab4.own_base ho6 hz)
        have HB6 := Lib.hid (HBr.out.trans (hb6.mono hz))
        clear ho6 hb6 HC
        go_wp2_with fail
        go_ret
        exact ⟨_, rfl, HO6.out, HB6.out⟩
end Go.Proofs.YteabkbcbmimkgaaGreatDoor.HiC
namespace Go.Proofs.YteabkbcbmimkgaaGreatDoor.PolC
open Go.RowKit Go.Sort Go.Lib Go.Proofs Plain SynP SynD SynD7 SynJ PolA
theorem two {w : World} {g : Nat} {d : Array Rl} (h : HoldsK Rl.cells 2 w g 0 d) (j : Nat) (hj : j < d.size) : ∀ c u, (Rl.cells d[j]!)[c]? = some u → w.cell? ⟨g, j * 2 + c, none⟩ = some u := fun c u hu => by
  have hc : c < 2 := by
    rcases Nat.lt_or_ge c 2 with h | h
    · exact h
    · rw [List.getElem?_eq_none (by show 2 ≤ c; exact h)] at hu; cases hu
  have q := (HoldsK.cell h (i := j) (c := c) hj hc).1
  rw [Nat.zero_add] at q
  rw [q, getElem!_pos _ _ (by rw [len2]; exact hc), ← List.getElem?_eq_getElem, hu]
theorem there_of {w : World} {g : Nat} {d : Array Rl} (h : HoldsK Rl.cells 2 w g 0 d) (i : Nat) (hi : i < d.size) : w.there g (i * 2) 2 := fun c hc => by
  have q := HoldsK.cell h (i := i) (c := c) hi hc
  rw [Nat.zero_add] at q
  exact ⟨by rw [q.1]; rfl, q.2⟩
theorem there_all {w : World} {g : Nat} {d : Array Rl} (h : HoldsK Rl.cells 2 w g 0 d) (i : Nat) (hi : i < d.size) : w.there g (i * 2) ((d.size - i) * 2) := fun c hc => by
  have q := HoldsK.cell h (i := i + c / 2) (c := c % 2) (by omega) (by omega)
  rw [Nat.zero_add, show (i + c / 2) * 2 + c % 2 = i * 2 + c by omega] at q
  exact ⟨by rw [q.1]; rfl, q.2⟩
theorem infoSz : (Tryz.prog.info? 28).map (·.size) = some 2 := by kernel_rfl
theorem stcell_one (x : Rl) : ∀ v ∈ (Rl.cells x), v.oneCell' = true := fun v hv => by
  simp [Rl.cells] at hv
  rcases hv with rfl | rfl <;> rfl
theorem store0 {W : World} {g : Nat} {d : Array Rl} (h : HoldsK Rl.cells 2 W g 0 d) (i : Nat) (hi : i < d.size) (x : Rl) : HoldsK Rl.cells 2 (W.setCells g (i * 2) (Rl.cells x)) g 0 (d.setIfInBounds i x) := by
  have := holdsK_store len2 (by omega) h i hi x
  rw [Nat.zero_add] at this
  exact this
def clr (n : Nat) : List Value := (Builtin.zeroCells zeroR.val.cells n).toList
theorem clr_len (n : Nat) : (clr n).length = n * 2 := by
  unfold clr Builtin.zeroCells
  simp; rfl
theorem clr_one (n : Nat) : ∀ v ∈ clr n, v.oneCell' = true := by
  intro v hv
  unfold clr Builtin.zeroCells at hv
  simp at hv
  obtain ⟨i, hi, rfl⟩ := hv
  have h9 : zeroR.val.cells.size = 2 := rfl
  have hlt : i % zeroR.val.cells.size < 2 := by rw [h9]; omega
  generalize i % zeroR.val.cells.size = r at hlt
  match r, hlt with
  | 0, _ => rfl
  | 1, _ => rfl
theorem run_clear2 (w : World) (b o n c : Nat) (hn : 0 < n) (ht : w.there b o (n * 2)) (ty : TypeId) : (Builtin.clear_ #[23] ty #[.slice (some ⟨b, o, none⟩) n c]).run Tryz.prog w = .ok (.tuple #[]) (w.setCells b o (clr n)) := by
  have hst := run_storeCells_cells (P := Tryz.prog) b o (clr n) 0 w (fun j hj => by rw [clr_len] at hj; simpa using (ht j hj).1) (fun j hj => by rw [clr_len] at hj; simpa using (ht j hj).2) (clr_one n)
  simp only [Nat.add_zero] at hst
  obtain ⟨m, rfl⟩ : ∃ m, n = m + 1 := ⟨n - 1, by omega⟩
  have hv : (zeroValue 28).run Tryz.prog w = .ok zeroR.val w := Tryz.zeroValue28 w
  have hc : (Builtin.zeroCells zeroR.val.cells (m + 1)).toList = clr (m + 1) := rfl
  simp [Builtin.clear_, run_underlying Tryz.underlying23, hv, hc, hst]
theorem wp_clear_run {P : Program} (w : World) {o : Oper} {a : Act} {K : Act → World → Prop} {Q : Exit → Act → World → Prop} (s : Operand) (t : TypeId)
    (ho : o.op = .call { callee := .builtin .clear, args := #[s], argTypes := #[t] }) (vs : Value) (hs : a.eval s = vs)
    (v' : Value) (w' : World) (hr : (Builtin.clear_ #[t] o.type #[vs]).run P w = .ok v' w') (h : K (a.put o.dst v') w') : o.wp P a w K Q := by
  unfold Oper.wp execOp
  simp only [ho, resolve, invoke, builtin, Sem.run_bind, Sem.run_pure, Result.andThen_ok, List.map_toArray, List.map_cons, List.map_nil, hs, hr]
  exact h
theorem wpList_clear_run {P : Program} (w : World) {ops : Array Oper} {rest : List Oper} {o : Oper} {a : Act} {Q : Exit → Act → World → Prop} (hgd : o.guard = none) (s : Operand) (t : TypeId)
    (ho : o.op = .call { callee := .builtin .clear, args := #[s], argTypes := #[t] }) (vs : Value) (hs : a.eval s = vs)
    (v' : Value) (w' : World) (hr : (Builtin.clear_ #[t] o.type #[vs]).run P w = .ok v' w') (h : wpList P ops Q rest (a.put o.dst v') w') : wpList P ops Q (o :: rest) a w :=
  wpList_plain hgd fun _ hK => wp_clear_run w s t ho vs hs v' w' hr (hK _ _ h)
theorem RAt.set_out {w : World} {g o : Nat} {R : List Rl} (h : RAt w (some ⟨g, 0, none⟩) R) (ho : R.length * 2 ≤ o) (vs : List Value) : RAt (w.setCells g o vs) (some ⟨g, 0, none⟩) R := fun hp => by
  obtain ⟨g', hA, hg, hc⟩ := h hp
  injection hA with hA
  injection hA with hA
  subst hA
  refine ⟨g, rfl, by rw [size_setCells]; exact hg, fun j hj => ?_⟩
  have key : ∀ i, i < R.length * 2 → (w.setCells g o vs).cell? ⟨g, i, none⟩ = w.cell? ⟨g, i, none⟩ := fun i hi => World.cell?_setCells_out g vs o w ⟨g, i, none⟩ (fun _ _ => Or.inl (by show i < o; omega))
  rw [key _ (by omega), key _ (by omega)]
  exact hc j hj
end Go.Proofs.YteabkbcbmimkgaaGreatDoor.PolC
namespace Go.Proofs.YteabkbcbmimkgaaGreatDoor.HiD
open Go.Shelf Go.RowKit Go.Sort Go.Lib Go.Proofs Plain SynP SynC SynD SynD7 SynJ PolA PolE
open StD (BX heap_setCells_ne)
abbrev nx := @LwH.nx
abbrev below_alloc := @LwL.below_alloc
def fitR (r : Rl) : Prop := True
theorem holds_block {w w' : World} {g : Nat} {d : Array Rl} (h : HoldsK Rl.cells 2 w g 0 d) (hg : w'.heap[g]? = w.heap[g]?) : HoldsK Rl.cells 2 w' g 0 d := fun t ht => by
  obtain ⟨a, b⟩ := h t ht
  exact ⟨(World.cell?_of_block (a := ⟨g, 0 + t, none⟩) hg).trans a, (World.frozen?_of_block (a := ⟨g, 0 + t, none⟩) hg).trans b⟩
theorem holds_low {w : World} {g : Nat} {dk : Array Rl} (h : HoldsK Rl.cells 2 w g 0 dk) (R : List Rl) (hR : R.length ≤ dk.size) (he : ∀ j, (hj : j < R.length) → R[j] = dk[j]!) : HoldsK Rl.cells 2 w g 0 R.toArray := fun t ht => by
  rw [size_flatK, List.size_toArray] at ht
  have e : (flatK Rl.cells 2 R.toArray)[t]! = (flatK Rl.cells 2 dk)[t]! := by
    rw [get_flatK _ _ _ _ (by rw [List.size_toArray]; exact ht), get_flatK _ _ _ _ (by omega)]
    congr 2
    rw [getElem!_pos _ _ (by rw [List.size_toArray]; omega), List.getElem_toArray]
    exact he _ _
  rw [e]
  exact h t (by rw [size_flatK]; omega)
theorem rholds_out {w : World} {g : Nat} {d : Array Rl} {o : Nat} (h : HoldsK Rl.cells 2 w g 0 d) (ho : d.size * 2 ≤ o) (vs : List Value) : HoldsK Rl.cells 2 (w.setCells g o vs) g 0 d := fun t ht => by
  obtain ⟨a, b⟩ := h t ht
  rw [size_flatK] at ht
  refine ⟨(World.cell?_setCells_out g vs o w ⟨g, 0 + t, none⟩ (fun _ _ => Or.inl (by show 0 + t < o; omega))).trans a, ?_⟩
  rw [World.frozen?_setCells]
  exact b
def NotAt (w : World) (b : Nat) (p : Rl → Bool) : Prop := ∀ s : Rl, fitR s → Calls Tryz.prog 70 #[s.val, .pointer (some ⟨b, 0, none⟩)] w fun e wx => e = .returned (.bool (!p s)) ∧ Below w.heap.size w wx
def IdxPost (p : Rl → Bool) (T : List Rl) (w : World) (e : Ending) (w' : World) : Prop :=
  Below w.heap.size w w' ∧ ((e = .returned (.int .i64 (-1)) ∧ T.all p = true) ∨ ∃ k : Nat, ∃ h : k < T.length, e = .returned (.int .i64 k) ∧ (∀ j, (hj : j < k) → p (T[j]'(by omega)) = true) ∧ p T[k] = false)
set_option maxHeartbeats 1000000 in
set_option maxRecDepth 100000 in
theorem idx (A : Option Addr) (ca b : Nat) (p : Rl → Bool) (T : List Rl) (w : World) (hT : T.length ≤ 100000) (hA : RG w A T) (hf : ∀ s ∈ T, fitR s) (hn : ∀ w', Below w.heap.size w w' → NotAt w' b p) :
    Calls Tryz.prog 125 #[.slice A T.length ca, .func (.func 70) #[] #[.pointer (some ⟨b, 0, none⟩)]] w (IdxPost p T w) := by
  have HA := Lib.hid (fun w' (hb : Below w.heap.size w w') => hA.below hb)
  have HN := Lib.hid hn
  have HFT := Lib.hid hf
  clear hA hn hf
  go_enter Tryz.func125, Tryz.ntmps125
  go_wp2_with fail
  go_loopw [8] (fun i wr => ∃ k : Nat, k ≤ T.length ∧ i = .int .i64 k ∧ Below w.heap.size w wr ∧ Hid (∀ j, (hj : j < k) → ∃ h : j < T.length, p T[j] = true)) (fun i _ => T.length - (intOf i).toNat)
  case atStart => exact ⟨0, by omega, rfl, Below.refl _ _, Lib.hid (fun j hj => by omega)⟩
  case round =>
    obtain ⟨k, hk, rfl, hb, hall⟩ := hrel
    have HB := Lib.hid hb
    by_cases hlt : k < T.length
    · have e1 : decide ((k : Int) < T.length) = true := by simp; omega
      obtain ⟨g, o, rfl, hg, hc⟩ := HA.out _ hb (by omega)
      obtain ⟨a0, a1⟩ := hc k hlt
      have HFk := Lib.hid (HN.out _ hb T[k] (HFT.out _ (List.getElem_mem hlt)))
      have HNX : Hid (p T[k] = true → ∀ j, (hj : j < k + 1) → ∃ h : j < T.length, p T[j] = true) := Lib.hid (fun h j hj => by
        by_cases e : j = k
        · subst e; exact ⟨hlt, h⟩
        · exact hall.out j (by omega))
      have HST : Hid (p T[k] = false → ∀ w', Below w.heap.size w w' → IdxPost p T w (.returned (.int .i64 k)) w') := Lib.hid (fun h w' hb => ⟨hb, .inr ⟨k, hlt, rfl, fun j hj => (hall.out j hj).2, h⟩⟩)
      have q0 : (0 : Int) ≤ k := by omega
      have q1 : (k : Int) < T.length := by omega
      clear hc hb hall hg
      generalize T[k] = x at *
      obtain ⟨ho, hn⟩ := x
      unfold Rl.val at HFk
      simp only at HFk a0 a1
      cases hpx : p ⟨ho, hn⟩
      · rw [hpx] at HFk
        have HE := Lib.hid (HST.out hpx)
        clear hpx HST HNX
        go_wp2_with fail
        refine HFk.out.mono ?_
        rintro e w1 ⟨rfl, hb1⟩
        have HB1 := Lib.hid (nx HB.out hb1)
        clear hb1 a0 a1
        go_wp2_with fail
        go_ret
        exact HE.out _ HB1.out
      · rw [hpx] at HFk
        have HE := Lib.hid (HNX.out hpx)
        clear hpx HST HNX
        go_wp2_with fail
        refine HFk.out.mono ?_
        rintro e w1 ⟨rfl, hb1⟩
        have HB1 := Lib.hid (nx HB.out hb1)
        clear hb1 a0 a1
        go_wp2_with fail
        go_roundw
        case rel => exact ⟨k + 1, by omega, by go_num, HB1.out, HE⟩
        case measure => simp [intOf]; omega
    · have e1 : decide ((k : Int) < T.length) = false := by simp; omega
      have HE : Hid (T.all p = true) := Lib.hid (by
        rw [List.all_eq_true]
        intro x hx
        obtain ⟨j, hj, rfl⟩ := List.getElem_of_mem hx
        exact (hall.out j (by omega)).2)
      clear hall hb
      go_wp2_with fail
      go_ret
      exact ⟨HB.out, .inl ⟨rfl, HE.out⟩⟩
structure DelInv (p : Rl → Bool) (d : Array Rl) (m k : Nat) (dk : Array Rl) : Prop where
  size : dk.size = d.size
  lt : k < m
  le : m ≤ d.size
  low : dk.toList.take k = (d.toList.take m).filter p
  len : ((d.toList.take m).filter p).length = k
  high : ∀ j, m ≤ j → dk[j]! = d[j]!
theorem take_snoc (d : Array Rl) {m : Nat} (hm : m < d.size) : d.toList.take (m + 1) = d.toList.take m ++ [d[m]!] := by
  rw [List.take_succ_eq_append_getElem (by simpa using hm), getElem!_pos d m hm]
  simp
theorem DelInv.start {p : Rl → Bool} {d : Array Rl} {i : Nat} (hi : i < d.size) (hall : ∀ j, j < i → p d[j]! = true) (hno : p d[i]! = false) : DelInv p d (i + 1) i d := by
  have hf : (d.toList.take i).filter p = d.toList.take i := by
    rw [List.filter_eq_self]
    intro x hx
    obtain ⟨j, hj, rfl⟩ := List.getElem_of_mem hx
    rw [List.length_take, Array.length_toList] at hj
    have := hall j (by omega)
    rw [getElem!_pos d j (by omega)] at this
    simpa using this
  refine ⟨rfl, by omega, by omega, ?_, ?_, fun _ _ => rfl⟩
  · rw [take_snoc d hi, List.filter_append, hf]; simp [hno]
  · rw [take_snoc d hi, List.filter_append, hf]; simp [hno]; omega
theorem DelInv.skip {p : Rl → Bool} {d dk : Array Rl} {m k : Nat} (h : DelInv p d m k dk) (hm : m < d.size) (hno : p d[m]! = false) : DelInv p d (m + 1) k dk := by
  refine ⟨h.size, by have := h.lt; omega, by omega, ?_, ?_, fun j hj => h.high j (by omega)⟩
  · rw [take_snoc d hm, List.filter_append, ← h.low]; simp [hno]
  · rw [take_snoc d hm, List.filter_append, List.length_append, h.len]; simp [hno]
theorem DelInv.keep {p : Rl → Bool} {d dk : Array Rl} {m k : Nat} (h : DelInv p d m k dk) (hm : m < d.size) (hp : p d[m]! = true) : DelInv p d (m + 1) (k + 1) (dk.setIfInBounds k d[m]!) := by
  have hlt := h.lt
  have hsz := h.size
  refine ⟨by simpa using h.size, by omega, by omega, ?_, ?_, fun j hj => ?_⟩
  · rw [take_snoc d hm, List.filter_append, ← h.low]
    have e : (dk.setIfInBounds k d[m]!).toList = dk.toList.set k d[m]! := by simp
    rw [e, List.take_succ_eq_append_getElem (by simp; omega)]
    simp [hp, List.take_set_of_le]
  · rw [take_snoc d hm, List.filter_append, List.length_append, h.len]; simp [hp]
  · rw [← h.high j (by omega)]
    by_cases hj2 : j < dk.size
    · rw [getElem!_pos (dk.setIfInBounds k d[m]!) j (by simpa using hj2), getElem!_pos dk j hj2, Array.getElem_setIfInBounds_ne (by simpa using hj2) (by omega)]
    · rw [getElem!_neg (dk.setIfInBounds k d[m]!) j (by simpa using hj2), getElem!_neg dk j hj2]
theorem DelInv.done {p : Rl → Bool} {d dk : Array Rl} {k : Nat} (h : DelInv p d d.size k dk) : dk.toList.take k = d.toList.filter p := by
  rw [h.low, List.take_of_length_le (by simp)]
def DelPost (g cap b : Nat) (p : Rl → Bool) (d : Array Rl) (w : World) (e : Ending) (w' : World) : Prop :=
  ∃ d' : Array Rl, e = .returned (.slice (some ⟨g, 0, none⟩) d'.size cap) ∧ d'.toList = d.toList.filter p ∧ HoldsK Rl.cells 2 w' g 0 d' ∧ BX g b w w' ∧ w.heap.size ≤ w'.heap.size
theorem del_none {g cap b : Nat} {p : Rl → Bool} {d : Array Rl} {w w' : World} (hH : HoldsK Rl.cells 2 w g 0 d) (hg : g < w.heap.size) (hlb : b < w.heap.size) (hb : Below w.heap.size w w') (h : d.toList.all p = true) : DelPost g cap b p d w (.returned (.slice (some ⟨g, 0, none⟩) d.size cap)) w' := by
  refine ⟨d, rfl, ?_, holds_block hH (hb.block g hg), (BX.refl g b w).below hg hlb hb, hb.size⟩
  symm
  rw [List.filter_eq_self]
  intro x hx
  exact List.all_eq_true.1 h x hx
theorem holds_take {w : World} {g k : Nat} {d : Array Rl} (h : HoldsK Rl.cells 2 w g 0 d) (hk : k ≤ d.size) : HoldsK Rl.cells 2 w g 0 (d.toList.take k).toArray :=
  holds_low h _ (by rw [List.length_take, Array.length_toList]; omega) fun j hj => by
    rw [List.length_take, Array.length_toList] at hj
    rw [getElem!_pos d j (by omega)]; simp
theorem del_end {g cap kk b : Nat} {p : Rl → Bool} {d dk : Array Rl} {w wr : World} (hH : HoldsK Rl.cells 2 wr g 0 dk) (hb : BX g b w wr) (hne : b ≠ g) (hs : w.heap.size ≤ wr.heap.size) (hI : DelInv p d d.size kk dk) : DelPost g cap b p d w (.returned (.slice (some ⟨g, 0, none⟩) kk cap)) (wr.setCells g (kk * 2) (PolC.clr (d.size - kk))) := by
  have hlt := hI.lt
  have hsz := hI.size
  have hz : (dk.toList.take kk).toArray.size = kk := by simp; omega
  refine ⟨(dk.toList.take kk).toArray, by rw [hz], ?_, rholds_out (holds_take hH (by omega)) (by rw [hz]; exact Nat.le_refl _) _, hb.setCells hne _ _, by rw [size_setCells]; exact hs⟩
  rw [hI.low, show d.toList.take d.size = d.toList from List.take_of_length_le (by simp)]
theorem start_of {p : Rl → Bool} {d : Array Rl} {k : Nat} (hk : k < d.toList.length) (hall : ∀ j, (hj : j < k) → p (d.toList[j]'(by omega)) = true) (hno : p d.toList[k] = false) : DelInv p d (k + 1) k d := by
  have hk2 : k < d.size := by simpa using hk
  refine DelInv.start hk2 (fun j hj => ?_) ?_
  · have := hall j hj
    rw [getElem!_pos d j (by omega)]
    simpa using this
  · rw [getElem!_pos d k hk2]
    simpa using hno
theorem rg_of_holds {w : World} {g : Nat} {d : Array Rl} (h : HoldsK Rl.cells 2 w g 0 d) : RG w (some ⟨g, 0, none⟩) d.toList :=
  RG.of_rat (RAt.of_holds h _ (by simp) fun j hj => by rw [getElem!_pos d j (by simpa using hj)]; simp)
set_option maxHeartbeats 2000000 in
set_option maxRecDepth 100000 in
theorem del (g cap b : Nat) (d : Array Rl) (p : Rl → Bool) (w : World) (hs : d.size ≤ 100000) (hcap : d.size ≤ cap) (hcm : cap ≤ maxLen) (hH : HoldsK Rl.cells 2 w g 0 d) (hg : g < w.heap.size) (hlb : b < w.heap.size) (hne : b ≠ g) (hf : ∀ s ∈ d.toList, fitR s) (hn : ∀ w', BX g b w w' → w.heap.size ≤ w'.heap.size → NotAt w' b p) :
    Calls Tryz.prog 72 #[.slice (some ⟨g, 0, none⟩) d.size cap, .func (.func 70) #[] #[.pointer (some ⟨b, 0, none⟩)]] w (DelPost g cap b p d w) := by
  have HI : Hid (Calls Tryz.prog 125 #[.slice (some ⟨g, 0, none⟩) d.size cap, .func (.func 70) #[] #[.pointer (some ⟨b, 0, none⟩)]] w (IdxPost p d.toList w)) := Lib.hid (idx (some ⟨g, 0, none⟩) cap b p d.toList w (by simpa using hs) (rg_of_holds hH) hf (fun w' hb => hn w' ((BX.refl g b w).below hg hlb hb) hb.size))
  have HF := Lib.hid hn
  have HFT : Hid (∀ j, j < d.size → fitR d[j]!) := Lib.hid (fun j hj => by
    rw [getElem!_pos d j hj]
    exact hf _ (by simp))
  have HH := Lib.hid hH
  have HN := Lib.hid (fun w' hb h => del_none (cap := cap) (b := b) (p := p) (w' := w') hH hg hlb hb h)
  clear hH hn hf
  have hm : maxLen = 9223372036854775807 := rfl
  go_enter Tryz.func72, Tryz.ntmps72
  go_wp2_with fail
  refine HI.out.mono ?_
  rintro e w1 ⟨hb1, ⟨rfl, hall⟩ | ⟨k, hk, rfl, hall, hno⟩⟩
  · have HE := Lib.hid (HN.out _ hb1 hall)
    clear hall hb1 HI HF HN
    go_wp2_with fail
    go_ret
    exact HE.out
  · have HS := Lib.hid (start_of hk hall hno)
    have HHK := Lib.hid (holds_block HH.out (hb1.block g hg))
    have HB1 := Lib.hid ((BX.refl g b w).below hg hlb hb1)
    have hz1 := hb1.size
    have hk2 : k < d.size := by simpa using hk
    clear hall hno hb1 HI HN hk
    have d1 : ((k : Int) == -1) = false := by first | (simp; done) | (simp; omega)
    go_wp2_with fail
    go_loopw [5, 6] (fun s5 s6 wr => ∃ (kk m : Nat) (dk : Array Rl), s5 = .int .i64 kk ∧ s6 = .int .i64 m ∧ m ≤ d.size ∧ Hid (HoldsK Rl.cells 2 wr g 0 dk) ∧ Hid (BX g b w wr) ∧ w.heap.size ≤ wr.heap.size ∧ Hid (DelInv p d m kk dk)) (fun _ s6 _ => d.size - (intOf s6).toNat)
    case atStart => exact ⟨k, k + 1, d, rfl, rfl, by omega, HHK, HB1, hz1, HS⟩
    case round =>
      obtain ⟨kk, m, dk, rfl, rfl, hm2, hHk, hbel, hszr, hI⟩ := hrel
      have hkk := hI.out.lt
      have hds := hI.out.size
      by_cases hlt : m < d.size
      · have e1 : decide ((m : Int) < d.size) = true := by simp; omega
        have c1 := PolC.two hHk.out m (by omega)
        rw [hI.out.high m (Nat.le_refl _)] at c1
        have HSK := Lib.hid (fun h => hI.out.skip hlt h)
        have HKP := Lib.hid (fun h => hI.out.keep hlt h)
        have hfx := HFT.out m hlt
        have HFk := Lib.hid (fun w' hb hz => HF.out w' hb hz d[m]! hfx)
        generalize d[m]! = x at *
        obtain ⟨ho, hn⟩ := x
        have a0 := c1 0 _ rfl
        have a1 := c1 1 _ rfl
        rw [Nat.add_zero] at a0
        have q0 : (0 : Int) ≤ m := by omega
        have q1 : (m : Int) < d.size := by omega
        have q6 : (0 : Int) ≤ kk := by omega
        have q7 : (kk : Int) < d.size := by omega
        have hgr : g < wr.heap.size := by omega
        have hbr : b < wr.heap.size := by omega
        have HBA := Lib.hid (hbel.out.below hgr hbr (below_alloc wr (.cells #[.string ho, .string hn] 28)))
        have HHA := Lib.hid (holds_block hHk.out ((below_alloc wr (.cells #[.string ho, .string hn] 28)).block g hgr))
        have HBX := Lib.hid (heap_alloc_new wr (.cells #[.string ho, .string hn] 28))
        have HCL := Lib.hid (HFk.out _ HBA.out (by simp; omega))
        unfold Rl.val at HCL
        simp only at HCL
        clear c1 HF HFk HHK HB1 HS hfx
        go_upto_region 8 with fail
        have hszA : (wr.alloc (.cells #[.string ho, .string hn] 28)).heap.size = wr.heap.size + 1 := by simp
        generalize wr.alloc (.cells #[.string ho, .string hn] 28) = wa at *
        have cb := fun o => Lib.cell_of_heap HBX.out o
        clear a0 a1
        cases hpx : p ⟨ho, hn⟩
        · rw [hpx] at HCL
          have HI2 := Lib.hid (HSK.out hpx)
          clear hpx HSK HKP
          go_wp2_with fail
          refine HCL.out.mono ?_
          rintro e w2 ⟨rfl, hb2⟩
          have HH2 := Lib.hid (holds_block HHA.out (hb2.block g (by omega)))
          have HB2 := Lib.hid (HBA.out.below (by omega) (by omega) hb2)
          have hz2 := hb2.size
          clear hb2 cb HCL
          go_wp2_with fail
          go_roundw
          case rel => exact ⟨kk, m + 1, dk, rfl, by go_num, by omega, HH2, HB2, by omega, HI2⟩
          case measure => simp [intOf]; omega
        · rw [hpx] at HCL
          have HI2 := Lib.hid (HKP.out hpx)
          clear hpx HSK HKP
          go_wp2_with fail
          refine HCL.out.mono ?_
          rintro e w2 ⟨rfl, hb2⟩
          have HH2 := Lib.hid (holds_block HHA.out (hb2.block g (by omega)))
          have HB2 := Lib.hid (HBA.out.below (by omega) (by omega) hb2)
          have hz2 := hb2.size
          have cb2 := fun o => Lib.cell_of_heap ((hb2.block wr.heap.size (by omega)).trans HBX.out) o
          have hth := Lib.hid (PolC.there_of HH2.out kk (by omega))
          clear hb2 cb HCL
          go_wp2_with ((with_reducible refine wpList_store_mid (op := ⟨none, .store 28 (.tmp 33) (.tmp 32), _, _, _, none⟩) ?_ 28 (.tmp 33) (.tmp 32) ?_ g (kk * 2) (Rl.cells ⟨ho, hn⟩).toArray ?_ ?_ ?_ ?_ ?_ ?_); (rfl); (rfl); (simp [Act.eval]); (simp [Act.eval, Rl.cells]); (exact hth.out); (exact PolC.infoSz); (exact all_oneCell_toArray (PolC.stcell_one _)))
          go_roundw
          case rel =>
            refine ⟨kk + 1, m + 1, dk.setIfInBounds kk ⟨ho, hn⟩, by go_num, by go_num, by omega, Lib.hid ?_, Lib.hid (HB2.out.setCells hne _ _), by rw [size_setCells]; omega, HI2⟩
            exact PolC.store0 HH2.out kk (by omega) _
          case measure => simp [intOf]; omega
      · have e1 : decide ((m : Int) < d.size) = false := by simp; omega
        obtain rfl : m = d.size := by omega
        have hfin := Lib.hid (del_end (cap := cap) hHk.out hbel.out hne hszr hI.out)
        have hth := Lib.hid (PolC.there_all hHk.out kk (by omega))
        rw [hds] at hth
        clear hHk hbel hI HF
        go_wp2_with ((with_reducible refine PolC.wpList_clear_run (o := ⟨none, .call { callee := .builtin .clear, args := #[.tmp 38], argTypes := #[23] }, _, _, _, none⟩) _ ?_ (.tmp 38) 23 ?_ (.slice (some ⟨g, kk * 2, none⟩) (d.size - kk) (cap - kk)) ?_ (.tuple #[]) (wr.setCells g (kk * 2) (PolC.clr (d.size - kk))) ?_ ?_); (rfl); (rfl); (simp [Act.eval]); (exact PolC.run_clear2 _ g (kk * 2) (d.size - kk) (cap - kk) (by omega) hth.out _))
        go_ret
        exact hfin.out
set_option maxHeartbeats 1000000 in
theorem idxNone (f : Value) (w : World) : Calls Tryz.prog 125 #[.slice none 0 0, f] w fun e w' => e = .returned (.int .i64 (-1)) ∧ w' = w := by
  go_enter Tryz.func125, Tryz.ntmps125
  go_wp2_with fail
  go_loop [8] (fun i => i = .int .i64 0) (fun i => 0)
  case atStart => rfl
  case round =>
    subst hrel
    go_wp2_with fail
    go_ret
    exact ⟨rfl, rfl⟩
theorem delNone (f : Value) (w : World) : Calls Tryz.prog 72 #[.slice none 0 0, f] w fun e w' => e = .returned (.slice none 0 0) ∧ w' = w := by
  have HI := Lib.hid (idxNone f w)
  go_enter Tryz.func72, Tryz.ntmps72
  go_wp2_with fail
  refine HI.out.mono ?_
  rintro e w1 ⟨rfl, rfl⟩
  go_wp2_with fail
  go_ret
  exact ⟨rfl, rfl⟩
end Go.Proofs.YteabkbcbmimkgaaGreatDoor.HiD
namespace Go.Proofs.YteabkbcbmimkgaaGreatDoor.HiE
open Go.Shelf Go.RowKit Go.Sort Go.Lib Go.Proofs Plain SynP SynD2 SynJ TabP Tab1 QryP PolA PolE PolG PolH PolLi PolOp TblB TblR LwH HiA
open HiD (NotAt DelPost del delNone rg_of_holds fitR)
abbrev nx6 := @LwH.nx
def free (G : List Rl) (r : Rl) : Bool := !decide (r ∈ G)
set_option maxRecDepth 100000 in
theorem clo (S : Option Addr) (ns : Nat) (cs : Nat) (A2 : Option Addr) (c2 : Nat) (G : List Rl) (v3 v4 : Value) (b : Nat) (w : World) (hb : ∀ o, w.cell? ⟨b, o, none⟩ = (#[.slice S ns cs, .slice A2 G.length c2, v3, v4] : Array Value)[o]?) (hG : RG w A2 G) (hl : G.length ≤ 10000) : NotAt w b (free G) := by
  intro s _
  have y1 : w.cell? ⟨b, 1, none⟩ = some (.slice A2 G.length c2) := by rw [hb]; rfl
  have lb := World.block_lt_of_cell? _ _ y1
  simp only at lb
  obtain ⟨o, n⟩ := s
  have HH := Lib.hid (PolK.has_ A2 c2 G ⟨o, n⟩ (w.alloc (.cells #[.string o, .string n] 28)) hl (hG.below (LwL.below_alloc w _)))
  have hnw := heap_alloc_new w (.cells #[.string o, .string n] 28)
  have z1 : (w.alloc (.cells #[.string o, .string n] 28)).cell? ⟨b, 1, none⟩ = some (.slice A2 G.length c2) := by
    rw [(LwL.below_alloc w _).cell (p := ⟨b, 1, none⟩) lb]
    exact y1
  have z2 : (w.alloc (.cells #[.string o, .string n] 28)).cell? ⟨w.heap.size, 0, none⟩ = some (.string o) := Lib.cell_of_heap hnw 0
  have z3 : (w.alloc (.cells #[.string o, .string n] 28)).cell? ⟨w.heap.size, 1, none⟩ = some (.string n) := Lib.cell_of_heap hnw 1
  have HB := Lib.hid (LwL.below_alloc w (.cells #[.string o, .string n] 28))
  have ef : (!free G ⟨o, n⟩) = decide ((⟨o, n⟩ : Rl) ∈ G) := by unfold free; simp
  rw [ef]
  generalize decide ((⟨o, n⟩ : Rl) ∈ G) = bb at *
  unfold Rl.val at *
  simp only at HH ⊢
  clear hb hG hl hnw y1 lb ef
  go_enter Tryz.func70, Tryz.ntmps70
  go_upto_region 1 with fail
  obtain ⟨bx, hbx⟩ : ∃ bx, w.heap.size = bx := ⟨_, rfl⟩
  rw [hbx] at z2 z3
  simp only [hbx]
  generalize w.alloc (.cells #[.string o, .string n] 28) = w1 at *
  go_wp2_with fail
  refine HH.out.mono ?_
  rintro e w2 ⟨rfl, hb2⟩
  go_wp2_with fail
  go_ret
  exact ⟨rfl, nx6 HB.out hb2⟩
theorem own_cap {w : World} {B n cap m z g : Nat} {e : TypeId} {xs : List Value} (h : w.ownsRow B e z (.slice (some ⟨g, 0, none⟩) n cap) m xs) : cap ≤ maxLen := by
  rcases h.2 with ⟨h0, _⟩ | ⟨g', cap', cur, hv, _, _, _, hm, _⟩
  · cases h0
  · injection hv with _ _ h3
    subst h3
    exact hm
def RolesPost (l : List Rl) (w : World) (e : Ending) (w' : World) : Prop := ∃ A c, e = .returned (.slice A l.length c) ∧ RG w' A l ∧ Below w.heap.size w w'
theorem roles_end {g cap b : Nat} {p : Rl → Bool} {d : Array Rl} {w w1 : World} {l : List Rl} (hl : l = d.toList.filter p) (hB : w.heap.size ≤ g) (hb : Below w.heap.size w w1) : ∀ e w2, DelPost g cap b p d w1 e w2 → RolesPost l w e w2 := by
  rintro e w2 ⟨d', rfl, hd', hH, hx, _⟩
  refine ⟨some ⟨g, 0, none⟩, cap, ?_, ?_, hb.trans (hx.lo.mono hB)⟩
  · rw [hl, ← hd', Array.length_toList]
  · rw [hl, ← hd']; exact rg_of_holds hH
set_option maxHeartbeats 2000000 in
set_option maxRecDepth 100000 in
theorem roles (p : Py) (A1 A2 A3 A4 : Option Addr) (c1 c2 c3 c4 : Nat) (w : World) (hw : Tab3.Pow w) (hf : Few p) (hc : Came p) (hp : PG w A1 A2 A3 A4 p) (hE : (ET p).length ≤ 7) (hN : (NT p).length ≤ 4) :
    Calls Tryz.prog 19 #[p.val A1 A2 A3 A4 c1 c2 c3 c4] w (RolesPost (hRoles p) w) := by
  have HEv := Lib.hid (fun w' (hb : Below w.heap.size w w') => HiB.everybody p A1 A2 A3 A4 c1 c2 c3 c4 w' (Tab3.Pow.keep hw (Laid.pow_lt hw) hb) hf hc (hp.below hb))
  have HNa : Hid (∀ w', Below w.heap.size w w' → Calls Tryz.prog 68 #[p.val A1 A2 A3 A4 c1 c2 c3 c4] w' (Tab5.RowPost (NT p) w')) := Lib.hid (fun w' (hb : Below w.heap.size w w') => PolH.names p A1 A2 A3 A4 c1 c2 c3 c4 w' (hf.fit hc) (hp.below hb))
  have HG := Lib.hid (fun w' (hb : Below w.heap.size w w') => (hp.below hb).g)
  have hgl : p.grow.length ≤ 10000 := Nat.le_trans hf.n2 (by omega)
  have HR : Hid (hRoles p = ((ET p).flatMap fun x => HiC.rowR x (NT p)).filter (free p.grow)) := Lib.hid rfl
  unfold Tab5.RowPost at *
  generalize hRoles p = RR at *
  generalize ET p = EE at *
  generalize NT p = NN at *
  obtain ⟨S, G, H, Q⟩ := p
  unfold Py.val at *
  dsimp only at *
  have hbX := (Below.refl w.heap.size w).alloc (Nat.le_refl _) (.cells #[.slice A1 S.length c1, .slice A2 G.length c2, .slice A3 H.length c3, .slice A4 Q.length c4] 26)
  have hcl := heap_alloc_new w (.cells #[.slice A1 S.length c1, .slice A2 G.length c2, .slice A3 H.length c3, .slice A4 Q.length c4] 26)
  have HB := Lib.hid hbX
  clear hbX hf hc hp hw
  go_enter Tryz.func19, Tryz.ntmps19
  go_upto_region 1 with fail
  obtain ⟨bp, hbp⟩ : ∃ bp, w.heap.size = bp := ⟨_, rfl⟩
  simp only [hbp] at hcl ⊢
  generalize w.alloc (.cells #[.slice A1 S.length c1, .slice A2 G.length c2, .slice A3 H.length c3, .slice A4 Q.length c4] 26) = w0 at *
  have HBW : Hid (bp < w0.heap.size) := Lib.hid (Array.getElem?_eq_some_iff.1 hcl).1
  have HCL : Hid (w0.heap[bp]? = some (.cells #[.slice A1 S.length c1, .slice A2 G.length c2, .slice A3 H.length c3, .slice A4 Q.length c4] 26 (0, 0))) := Lib.hid hcl
  have HKK : Hid (∀ w', Below w0.heap.size w0 w' → Below w0.heap.size w0 w' ∧ (∀ o, w'.cell? ⟨bp, o, none⟩ = (#[.slice A1 S.length c1, .slice A2 G.length c2, .slice A3 H.length c3, .slice A4 Q.length c4] : Array Value)[o]?)) := Lib.hid (fun w' hb => ⟨hb, fun o => Lib.cell_of_heap ((hb.block bp (Array.getElem?_eq_some_iff.1 hcl).1).trans hcl) o⟩)
  have hst := HKK.out w0.drew ((Below.refl _ _).drew)
  have M1 := Lib.hid (fun w' (hb' : Below w0.heap.size w0 w') => HEv.out w' (nx6 HB.out hb'))
  have M2 := Lib.hid (fun w' (hb' : Below w0.heap.size w0 w') => HNa.out w' (nx6 HB.out hb'))
  have hszb : w.heap.size ≤ w0.heap.size := HB.out.size
  clear hcl HEv HNa
  go_region_held3 (fun w' => Below w0.heap.size w0 w' ∧ (∀ o, w'.cell? ⟨bp, o, none⟩ = (#[.slice A1 S.length c1, .slice A2 G.length c2, .slice A3 H.length c3, .slice A4 Q.length c4] : Array Value)[o]?))
    (first | with_reducible exact hst | with_reducible assumption | exact HKK.out _ (nx6 (by apply And.left; with_reducible assumption) (by with_reducible assumption)) | exact HKK.out _ (nx6 (by apply And.left; with_reducible assumption) (LwL.below_alloc _ _)))
    (first | ((with_reducible refine (M1.out _ (by apply And.left; with_reducible assumption)).mono ?_); rintro e x1 ⟨v1, rfl, ho1, hb1⟩; obtain ⟨Q1, q1, rfl, _, hr1⟩ := SRow.of_own ho1)
           | ((with_reducible refine (M2.out _ (by apply And.left; with_reducible assumption)).mono ?_); rintro e x2 ⟨v2, rfl, ho2, hb2⟩; obtain ⟨Q2, q2, rfl, _, hr2⟩ := SRow.of_own ho2))
  all_goals rename_i hHeld
  all_goals
    have hboth := And.intro hHeld (by first | exact And.intro hr1 (hr2.keep hb1) | exact And.intro (hr1.keep hb2) hr2)
    clear hHeld ho1 ho2 hr1 hr2 hb1 hb2 hst
    obtain ⟨⟨hbz, hcz⟩, hs1, hs2⟩ := hboth
    clear hcz
    have HBZ := Lib.hid hbz
    have d1 : decide (64 < EE.length) = false := by simp; omega
    have d2 : decide (64 < NN.length) = false := by simp; omega
    have d3 : decide ((64 : Int) < EE.length) = false := by simp; omega
    have d4 : decide ((64 : Int) < NN.length) = false := by simp; omega
    have HP := Lib.hid (HiC.pairsR Q1 Q2 q1 q2 EE NN _ (by omega) (by omega) hs1 hs2)
    have HNT : Hid (∀ w', Below w0.heap.size w0 w' → ∀ w'', w''.heap[bp]? = w'.heap[bp]? → RG w'' A2 G → NotAt w'' bp (free G)) := Lib.hid (fun w' hb w'' he hg => clo A1 S.length c1 A2 c2 G _ _ bp w'' (fun o => Lib.cell_of_heap (he.trans ((hb.block bp HBW.out).trans HCL.out)) o) hg hgl)
    clear hbz hs1 hs2
    unfold PolF.RPost at HP
    have HFL : Hid ((EE.flatMap fun x => HiC.rowR x NN).length ≤ 100000) := Lib.hid (by rw [flat_len _ NN.length EE (fun x _ => by unfold HiC.rowR; simp)]; exact Nat.le_trans (Nat.mul_le_mul hE hN) (by omega))
    generalize (EE.flatMap fun x => HiC.rowR x NN) = FL at *
    go_wp2_with fail
    refine HP.out.mono ?_
    rintro e x6 ⟨v6, rfl, ho6, hb6⟩
    have HB6 := Lib.hid (nx6 HBZ.out hb6)
    have hsz6 := HBZ.out.size
    rcases rholds_own ho6 with ⟨h0, rfl⟩ | ⟨g, cap, rfl, hcap, hBg, hgs, hH⟩
    · have HR0 : Hid (RR = []) := Lib.hid (by rw [HR.out, h0]; rfl)
      clear h0 ho6 hb6 HP
      go_wp2_with fail
      refine (delNone _ _).mono ?_
      rintro e x7 ⟨rfl, rfl⟩
      go_wp2_with fail
      go_ret
      exact ⟨none, 0, by rw [HR0.out]; rfl, by rw [HR0.out]; intro h; exact absurd h (by simp), nx6 HB.out HB6.out⟩
    · have hcm := own_cap ho6
      obtain ⟨d, hd⟩ : ∃ d : Array Rl, d.toList = FL := ⟨FL.toArray, rfl⟩
      subst hd
      have hdl : d.toList.length = d.size := Array.length_toList
      rw [hdl] at hcap ⊢
      have hlen : d.size ≤ 100000 := by rw [← hdl]; exact HFL.out
      have hH2 : HoldsK Rl.cells 2 x6 g 0 d := by simpa using hH
      have HD := Lib.hid (del g cap bp d (free G) x6 hlen hcap hcm hH2 hgs (Nat.lt_of_lt_of_le HBW.out HB6.out.size) (by have := HBW.out; omega) (fun _ _ => trivial) (fun w' hx hz => HNT.out x6 HB6.out w' hx.k (HG.out w' ((nx6 HB.out HB6.out).trans (hx.lo.mono (by omega))))))
      have HE := Lib.hid (roles_end (cap := cap) (b := bp) HR.out (show w.heap.size ≤ g by omega) (nx6 HB.out HB6.out))
      clear ho6 hb6 HP hH hH2 hlen hcap hcm hgs hBg hdl
      go_wp2_with fail
      refine HD.out.mono ?_
      intro e x7 h7
      have HF := Lib.hid (HE.out e x7 h7)
      obtain ⟨d', rfl, _⟩ := h7
      go_wp2_with fail
      go_ret
      exact HF.out
end Go.Proofs.YteabkbcbmimkgaaGreatDoor.HiE
namespace Go.Proofs.YteabkbcbmimkgaaGreatDoor.HiI
open Go.RowKit Go.Sort Go.Lib Go.Proofs Plain SynP TabP Tab1 Tab5 PolA PolE PolG PolH PolOp PolLi TblR LwH HiA
abbrev nx8 := @LwH.nx
theorem prins5 (p : Py) (A1 A2 A3 A4 : Option Addr) (c1 c2 c3 c4 : Nat) (w : World) (hf : Few p) (hc : Came p) (hp : PG w A1 A2 A3 A4 p) : Calls Tryz.prog 29 #[p.val A1 A2 A3 A4 c1 c2 c3 c4] w (RowPost (PT p) w) := by
  have h := RefPq.prinsRef p A1 A2 A3 A4 c1 c2 c3 c4 w (hf.fit hc) (by have := hf.n4; omega) hp
  rw [RefFi.prins_eq] at h
  exact h
theorem names5 (p : Py) (A1 A2 A3 A4 : Option Addr) (c1 c2 c3 c4 : Nat) (w : World) (hf : Few p) (hc : Came p) (hp : PG w A1 A2 A3 A4 p) : Calls Tryz.prog 30 #[p.val A1 A2 A3 A4 c1 c2 c3 c4] w (RowPost (NT p) w) := by
  have h := RefPr.namesRef p A1 A2 A3 A4 c1 c2 c3 c4 w (hf.fit hc) hp
  rw [RefFi.names_eq] at h
  exact h
theorem put_et (p : Py) : Tab4.putL (PT p) (FT p) = ET p :=
  eq_of_rising (putL_rising (LwL.pt_up p)).1 (et_up p) fun x => by rw [(putL_rising (LwL.pt_up p)).2, et_mem]
set_option maxHeartbeats 2000000 in
set_option maxRecDepth 100000 in
theorem fresh12 (p : Py) (A1 A2 A3 A4 : Option Addr) (c1 c2 c3 c4 : Nat) (w : World) (hf : Few p) (hc : Came p) (hp : PG w A1 A2 A3 A4 p) :
    Calls Tryz.prog 17 #[p.val A1 A2 A3 A4 c1 c2 c3 c4] w fun e w' => e = .returned (.string (txt (FT p))) ∧ Below w.heap.size w w' := by
  have HPr := Lib.hid (fun w' (hb : Below w.heap.size w w') => prins5 p A1 A2 A3 A4 c1 c2 c3 c4 w' hf hc (hp.below hb))
  have hl := HiB.pt_small hf hc
  have HFr : Hid (∀ A c w', SRow w' A (PT p) → Calls Tryz.prog 67 #[.slice A (PT p).length c, .int .i64 1] w' (Tab3.FreshPost (PT p) 1 w')) := Lib.hid (fun A c w' h => Tab6.freshRef A c (PT p) 1 w' (by omega) h)
  have ef := fr_eq p
  unfold Tab3.FreshPost at HFr
  rw [ef] at HFr
  unfold RowPost at HPr
  have etx : (⟨(FT p).toArray⟩ : ByteArray) = txt (FT p) := rfl
  generalize FT p = X at *
  generalize PT p = PP at *
  obtain ⟨S, G, H, Q⟩ := p
  unfold Py.val at *
  dsimp only at *
  have hbX := (Below.refl w.heap.size w).alloc (Nat.le_refl _) (.cells #[.slice A1 S.length c1, .slice A2 G.length c2, .slice A3 H.length c3, .slice A4 Q.length c4] 26)
  have cs := fun o => Lib.cell_of_heap (heap_alloc_new w (.cells #[.slice A1 S.length c1, .slice A2 G.length c2, .slice A3 H.length c3, .slice A4 Q.length c4] 26)) o
  have HB := Lib.hid hbX
  clear hbX hf hc hp ef hl
  go_enter Tryz.func17, Tryz.ntmps17
  go_upto_region 1 with fail
  generalize w.alloc (.cells #[.slice A1 S.length c1, .slice A2 G.length c2, .slice A3 H.length c3, .slice A4 Q.length c4] 26) = w0 at *
  go_wp2_with fail
  refine (HPr.out _ HB.out).mono ?_
  rintro e w1 ⟨v, rfl, ho, hb1⟩
  obtain ⟨A5, k5, rfl, _, hr5⟩ := SRow.of_own ho
  have HB1 := Lib.hid (nx8 HB.out hb1)
  clear ho hb1 cs HPr
  go_wp2_with fail
  refine (HFr.out _ _ _ hr5).mono ?_
  rintro e w3 ⟨v3, rfl, ho3, hb3⟩
  obtain ⟨A6, k6, rfl, _, hr6⟩ := SRow.of_own ho3
  obtain ⟨g, o, rfl, hg, hcl⟩ := hr6 (by simp)
  have y0 : w3.cell? ⟨g, o, none⟩ = some (.string (txt X)) := by have := hcl 0 (by simp); simpa [etx] using this
  have HF := Lib.hid (nx8 HB1.out hb3)
  clear ho3 hb3 hcl HFr hr5
  dsimp only [List.length_cons, List.length_nil]
  go_wp2_with fail
  go_ret
  exact ⟨rfl, HF.out⟩
set_option maxHeartbeats 2000000 in
set_option maxRecDepth 100000 in
theorem prins12 (p : Py) (A1 A2 A3 A4 : Option Addr) (c1 c2 c3 c4 : Nat) (w : World) (hf : Few p) (hc : Came p) (hp : PG w A1 A2 A3 A4 p) :
    Calls Tryz.prog 26 #[p.val A1 A2 A3 A4 c1 c2 c3 c4] w (RowPost (ET p) w) := by
  have HPr := Lib.hid (fun w' (hb : Below w.heap.size w w') => prins5 p A1 A2 A3 A4 c1 c2 c3 c4 w' hf hc (hp.below hb))
  have HFr := Lib.hid (fun w' (hb : Below w.heap.size w w') => fresh12 p A1 A2 A3 A4 c1 c2 c3 c4 w' hf hc (hp.below hb))
  have hl := HiB.pt_small hf hc
  have HPu : Hid (∀ B A c w', B ≤ w'.heap.size → w'.ownsRow B 9 1 (.slice A (PT p).length c) (PT p).length ((PT p).map encStr) → Calls Tryz.prog 78 #[.slice A (PT p).length c, .string (txt (FT p))] w' fun e w'' => ∃ v, e = .returned v ∧ w''.ownsRow B 9 1 v (ET p).length ((ET p).map encStr) ∧ Below B w' w'') := Lib.hid (fun B A c w' hB ho => by
    have h := Tab4.put B A c (PT p) (txt (FT p)) w' (by omega) hB ho
    unfold Tab4.PutPost at h
    rw [RefPr.bt_list, LwM.bt_txt, put_et] at h
    exact h)
  unfold RowPost at *
  generalize FT p = X at *
  generalize ET p = EE at *
  generalize PT p = PP at *
  obtain ⟨S, G, H, Q⟩ := p
  unfold Py.val at *
  dsimp only at *
  have hbX := (Below.refl w.heap.size w).alloc (Nat.le_refl _) (.cells #[.slice A1 S.length c1, .slice A2 G.length c2, .slice A3 H.length c3, .slice A4 Q.length c4] 26)
  have hcl := heap_alloc_new w (.cells #[.slice A1 S.length c1, .slice A2 G.length c2, .slice A3 H.length c3, .slice A4 Q.length c4] 26)
  have HB := Lib.hid hbX
  clear hbX hf hc hp hl
  go_enter Tryz.func26, Tryz.ntmps26
  go_upto_region 1 with fail
  obtain ⟨bp, hbp⟩ : ∃ bp, w.heap.size = bp := ⟨_, rfl⟩
  simp only [hbp] at hcl ⊢
  generalize w.alloc (.cells #[.slice A1 S.length c1, .slice A2 G.length c2, .slice A3 H.length c3, .slice A4 Q.length c4] 26) = w0 at *
  have HKK : Hid (∀ w', Below w0.heap.size w0 w' → Below w0.heap.size w0 w' ∧ (∀ o, w'.cell? ⟨bp, o, none⟩ = (#[.slice A1 S.length c1, .slice A2 G.length c2, .slice A3 H.length c3, .slice A4 Q.length c4] : Array Value)[o]?)) := Lib.hid (fun w' hb => ⟨hb, fun o => Lib.cell_of_heap ((hb.block bp (Array.getElem?_eq_some_iff.1 hcl).1).trans hcl) o⟩)
  have hst := HKK.out w0.drew ((Below.refl _ _).drew)
  have M1 : Hid (∀ w', Below w0.heap.size w0 w' → Calls Tryz.prog 29 #[.agg #[.slice A1 S.length c1, .slice A2 G.length c2, .slice A3 H.length c3, .slice A4 Q.length c4]] w' fun e w'' => ∃ v, e = .returned v ∧ w''.ownsRow w0.heap.size 9 1 v PP.length (PP.map encStr) ∧ Below w'.heap.size w' w'') := Lib.hid (fun w' hb' => by
    refine (HPr.out w' (nx8 HB.out hb')).mono ?_
    rintro e w'' ⟨v, rfl, ho, hb2⟩
    exact ⟨v, rfl, Tab4.own_base ho hb'.size, hb2⟩)
  have M2 := Lib.hid (fun w' (hb' : Below w0.heap.size w0 w') => HFr.out w' (nx8 HB.out hb'))
  have M3 : Hid (∀ A c w', Below w0.heap.size w0 w' → w'.ownsRow w0.heap.size 9 1 (.slice A PP.length c) PP.length (PP.map encStr) → Calls Tryz.prog 78 #[.slice A PP.length c, .string (txt X)] w' fun e w'' => ∃ v, e = .returned v ∧ w''.ownsRow w.heap.size 9 1 v EE.length (EE.map encStr) ∧ Below w0.heap.size w0 w'') := Lib.hid (fun A c w' hb ho => by
    refine (HPu.out w0.heap.size A c w' hb.size ho).mono ?_
    rintro e w'' ⟨v, rfl, ho2, hb2⟩
    exact ⟨v, rfl, Tab4.own_base ho2 HB.out.size, hb.trans hb2⟩)
  clear hcl HPr HFr HPu
  go_region_held3 (fun w' => Below w0.heap.size w0 w' ∧ (∀ o, w'.cell? ⟨bp, o, none⟩ = (#[.slice A1 S.length c1, .slice A2 G.length c2, .slice A3 H.length c3, .slice A4 Q.length c4] : Array Value)[o]?))
    (first | with_reducible exact hst | with_reducible assumption | exact HKK.out _ (by with_reducible assumption) | exact HKK.out _ (nx8 (by apply And.left; with_reducible assumption) (by with_reducible assumption)))
    (first | ((with_reducible refine (M1.out _ (by apply And.left; with_reducible assumption)).mono ?_); rintro e x1 ⟨v1, rfl, ho1, hb1⟩; obtain ⟨Q1, q1, rfl⟩ := PolLi.own_n ho1)
           | ((with_reducible refine (M2.out _ (by apply And.left; with_reducible assumption)).mono ?_); rintro e x2 ⟨rfl, hb2⟩)
           | ((with_reducible refine (M3.out _ _ _ (by apply And.left; with_reducible assumption) (by first | with_reducible exact ho1 | exact own_at ho1 hb2)).mono ?_); rintro e x3 ⟨v3, rfl, ho3, hb3⟩))
  all_goals rename_i hHeld
  all_goals (have HO := Lib.hid ho3; have HF := Lib.hid (nx8 HB.out hHeld.1); clear hHeld ho3; go_wp2_with fail; go_ret; exact ⟨_, rfl, by first | exact HO.out | (rw [← hbp]; exact HO.out), by first | exact HF.out | (rw [← hbp]; exact HF.out)⟩)
end Go.Proofs.YteabkbcbmimkgaaGreatDoor.HiI
namespace Go.Proofs.YteabkbcbmimkgaaGreatDoor.HiJ
open Go.Shelf Go.RowKit Go.Sort Go.Lib Go.Proofs Plain SynP SynD2 SynJ TabP Tab1 QryP PolA PolE PolG PolH PolLi PolOp TblB TblR LwH HiA
open HiE (free)
abbrev nx9 := @LwH.nx
def accO (G : List Rl) (E N : List Str) (i : Nat) : List Rl := (rolesAll (E.take i) N).filter (free G)
def accI (G : List Rl) (E N : List Str) (i : Nat) (a : Str) (j : Nat) : List Rl := accO G E N i ++ (HiC.rowR a (N.take j)).filter (free G)
theorem accO_zero (G : List Rl) (E N : List Str) : accO G E N 0 = [] := by unfold accO; simp [rolesAll]
theorem accI_zero (G : List Rl) (E N : List Str) (i : Nat) (a : Str) : accI G E N i a 0 = accO G E N i := by unfold accI; simp [HiC.rowR]
theorem accI_yes {G : List Rl} {E N : List Str} {i j : Nat} {a : Str} (h : j < N.length) (hf : free G ⟨txt a, txt N[j]⟩ = true) : accI G E N i a (j + 1) = accI G E N i a j ++ [⟨txt a, txt N[j]⟩] := by
  unfold accI
  rw [HiC.rowR_take a N h, List.filter_append, List.append_assoc]
  congr 2
  show List.filter (free G) [HiC.rowR1 a N[j]] = _
  unfold HiC.rowR1
  rw [List.filter_cons, if_pos hf, List.filter_nil]
theorem accI_no {G : List Rl} {E N : List Str} {i j : Nat} {a : Str} (h : j < N.length) (hf : free G ⟨txt a, txt N[j]⟩ = false) : accI G E N i a (j + 1) = accI G E N i a j := by
  unfold accI
  rw [HiC.rowR_take a N h, List.filter_append]
  have e : List.filter (free G) [HiC.rowR1 a N[j]] = [] := by
    unfold HiC.rowR1
    rw [List.filter_cons, if_neg (by rw [hf]; decide), List.filter_nil]
  rw [e, List.append_nil]
theorem accO_succ {G : List Rl} {E N : List Str} {i : Nat} (h : i < E.length) : accI G E N i E[i] N.length = accO G E N (i + 1) := by
  unfold accI accO rolesAll
  rw [List.take_length, List.take_succ_eq_append_getElem h, List.flatMap_append, List.filter_append]
  congr 2
  simp [HiC.rowR]
theorem accO_len {G : List Rl} {E N : List Str} {i : Nat} (hE : E.length ≤ 7) (hN : N.length ≤ 4) : (accO G E N i).length ≤ 28 := by
  refine Nat.le_trans (List.length_filter_le _ _) ?_
  rw [all_len, List.length_take]
  exact Nat.mul_le_mul (Nat.le_trans (Nat.min_le_right _ _) hE) hN
theorem accI_len {G : List Rl} {E N : List Str} {i j : Nat} {a : Str} (hE : E.length ≤ 7) (hN : N.length ≤ 4) : (accI G E N i a j).length ≤ 100 := by
  unfold accI
  rw [List.length_append]
  have h1 := accO_len (G := G) (i := i) hE hN
  have h2 : ((HiC.rowR a (N.take j)).filter (free G)).length ≤ 4 := by
    refine Nat.le_trans (List.length_filter_le _ _) ?_
    unfold HiC.rowR
    rw [List.length_map, List.length_take]
    omega
  omega
set_option maxHeartbeats 4000000 in
set_option maxRecDepth 100000 in
theorem roles12 (p : Py) (A1 A2 A3 A4 : Option Addr) (c1 c2 c3 c4 : Nat) (w : World) (hf : Few p) (hc : Came p) (hp : PG w A1 A2 A3 A4 p) (hE : (ET p).length ≤ 7) (hN : (NT p).length ≤ 4) :
    Calls Tryz.prog 20 #[p.val A1 A2 A3 A4 c1 c2 c3 c4] w (PolF.RPost (hRoles p) w) := by
  have HPr := Lib.hid (fun w' (hb : Below w.heap.size w w') => HiI.prins12 p A1 A2 A3 A4 c1 c2 c3 c4 w' hf hc (hp.below hb))
  have HNa := Lib.hid (fun w' (hb : Below w.heap.size w w') => HiI.names5 p A1 A2 A3 A4 c1 c2 c3 c4 w' hf hc (hp.below hb))
  have hgl : p.grow.length ≤ 1000 := Nat.le_trans hf.n2 (by omega)
  have HHa := Lib.hid (fun w' (hb : Below w.heap.size w w') (s : Rl) => StI.hasRefG A2 c2 p.grow s w' hgl (hp.below hb).g)
  have HR : Hid (accO p.grow (ET p) (NT p) (ET p).length = hRoles p) := Lib.hid (by unfold accO; rw [List.take_length]; rfl)
  have HS := Lib.hid (hr_sorted p)
  have hrl := hr_len hE hN
  have HL := Lib.hid (fun i x j => accI_len (G := p.grow) (E := ET p) (N := NT p) (i := i) (j := j) (a := x) hE hN)
  have HSU := Lib.hid (fun i (h : i < (ET p).length) => accO_succ (G := p.grow) (N := NT p) h)
  obtain ⟨i0, hi, hz0, hz1, hz2⟩ := info_parts infoRole
  unfold Tab5.RowPost at HPr HNa
  unfold PolF.RPost
  generalize hRoles p = RR at *
  generalize ET p = EE at *
  generalize NT p = NN at *
  obtain ⟨S, G, H, Q⟩ := p
  unfold Py.val at *
  dsimp only at *
  have hbX := (Below.refl w.heap.size w).alloc (Nat.le_refl _) (.cells #[.slice A1 S.length c1, .slice A2 G.length c2, .slice A3 H.length c3, .slice A4 Q.length c4] 26)
  have hcl := heap_alloc_new w (.cells #[.slice A1 S.length c1, .slice A2 G.length c2, .slice A3 H.length c3, .slice A4 Q.length c4] 26)
  have HB := Lib.hid hbX
  clear hbX hf hc hp
  go_enter Tryz.func20, Tryz.ntmps20
  go_upto_region 2 with fail
  obtain ⟨bp, hbp⟩ : ∃ bp, w.heap.size = bp := ⟨_, rfl⟩
  simp only [hbp] at hcl ⊢
  generalize w.alloc (.cells #[.slice A1 S.length c1, .slice A2 G.length c2, .slice A3 H.length c3, .slice A4 Q.length c4] 26) = w0 at *
  have hbl : bp < w0.heap.size := (Array.getElem?_eq_some_iff.1 hcl).1
  have HKK : Hid (∀ w', Below w0.heap.size w0 w' → ∀ o, w'.cell? ⟨bp, o, none⟩ = (#[.slice A1 S.length c1, .slice A2 G.length c2, .slice A3 H.length c3, .slice A4 Q.length c4] : Array Value)[o]?) := Lib.hid (fun w' hb o => Lib.cell_of_heap ((hb.block bp hbl).trans hcl) o)
  have cs := HKK.out w0 (Below.refl _ _)
  clear hcl
  go_wp2_with fail
  refine (HPr.out w0 HB.out).mono ?_
  rintro e w1 ⟨v1, rfl, ho1, hb1⟩
  obtain ⟨Q1, q1, rfl, _, hr1⟩ := SRow.of_own ho1
  have HQ1 := Lib.hid (fun (w' : World) (hb : Below w1.heap.size w1 w') => hr1.keep hb)
  have HB1 := Lib.hid hb1
  have hz01 := hb1.size
  clear ho1 hr1 hb1 cs HPr
  go_wp2_with fail
  go_loopw [3, 12] (fun v i wr => ∃ k : Nat, k ≤ EE.length ∧ i = .int .i64 k ∧ Hid (wr.ownsRow w1.heap.size 28 2 v (accO G EE NN k).length (rcells (accO G EE NN k))) ∧ Below w1.heap.size w1 wr) (fun _ i _ => EE.length - (intOf i).toNat)
  case atStart => exact ⟨0, by omega, rfl, Lib.hid (by rw [accO_zero]; exact World.ownsRow_nil _ _ _ _), Below.refl _ _⟩
  case round =>
    obtain ⟨k, hk, rfl, hown, hb⟩ := hrel
    by_cases hlt : k < EE.length
    · have d1 : decide ((k : Int) < EE.length) = true := by simp; omega
      obtain ⟨g, o, rfl, hg, hcl⟩ := (HQ1.out wr hb) (by omega)
      have y0 : wr.cell? ⟨g, o + k, none⟩ = some (.string (txt EE[k])) := hcl k hlt
      have p1 : (0 : Int) ≤ k := by omega
      have p2 : (k : Int) < EE.length := by omega
      have HSk := Lib.hid (HSU.out k hlt)
      generalize EE[k] = x at *
      have HBr := Lib.hid (nx9 HB1.out hb)
      have HBr1 := Lib.hid hb
      have cs := HKK.out wr HBr.out
      have HOr := Lib.hid hown.out
      clear hcl hb hown
      go_wp2_with fail
      refine (HNa.out wr (nx9 HB.out HBr.out)).mono ?_
      rintro e w2 ⟨v2, rfl, ho2, hb2⟩
      obtain ⟨Q2, q2, rfl⟩ := PolLi.own_n ho2
      have HON := Lib.hid (Tab4.own_base ho2 HBr1.out.size)
      have HO2 := Lib.hid (own_at HOr.out hb2)
      have HB2 := Lib.hid (nx9 HBr1.out hb2)
      clear ho2 hb2 y0 cs HOr HBr
      go_wp2_with fail
      go_loopw [3, 19] (fun v i wr => ∃ j : Nat, j ≤ NN.length ∧ i = .int .i64 j ∧ Hid (wr.ownsRow w1.heap.size 28 2 v (accI G EE NN k x j).length (rcells (accI G EE NN k x j))) ∧ Hid (wr.ownsRow w1.heap.size 9 1 (.slice Q2 NN.length q2) NN.length (NN.map encStr)) ∧ Below w1.heap.size w1 wr) (fun _ i _ => NN.length - (intOf i).toNat)
      case atStart => exact ⟨0, by omega, rfl, Lib.hid (by rw [accI_zero]; exact HO2.out), HON, HB2.out⟩
      case round =>
        obtain ⟨j, hj, rfl, hown, hnn, hb⟩ := hrel
        by_cases hlt2 : j < NN.length
        · have d2 : decide ((j : Int) < NN.length) = true := by simp; omega
          obtain ⟨Q2', q2', e2, _, hrn⟩ := SRow.of_own hnn.out
          injection e2 with e21 _ e23
          subst e21 e23
          obtain ⟨g2, o2, rfl, hg2, hcl⟩ := hrn (by omega)
          have z0 : wr.cell? ⟨g2, o2 + j, none⟩ = some (.string (txt NN[j])) := hcl j hlt2
          have r1 : (0 : Int) ≤ j := by omega
          have r2 : (j : Int) < NN.length := by omega
          have HYes := Lib.hid (fun h => accI_yes (G := G) (E := EE) (i := k) (a := x) hlt2 h)
          have HNo := Lib.hid (fun h => accI_no (G := G) (E := EE) (i := k) (a := x) hlt2 h)
          have hll := HL.out k x j
          clear hcl hrn hg2
          generalize NN[j] = y at *
          have hnw := heap_alloc_new wr (.cells #[.string (txt x), .string (txt y)] 28)
          have hba := LwL.below_alloc wr (.cells #[.string (txt x), .string (txt y)] 28)
          have HO3 := Lib.hid (own_at hown.out hba)
          have HN3 := Lib.hid (own_at hnn.out hba)
          have HB3 := Lib.hid (nx9 hb hba)
          have hw3z : w1.heap.size ≤ (wr.alloc (.cells #[.string (txt x), .string (txt y)] 28)).heap.size := HB3.out.size
          clear hown hnn hb hba
          go_upto_region 9 with fail
          obtain ⟨bx, hbx⟩ : ∃ bx, wr.heap.size = bx := ⟨_, rfl⟩
          rw [hbx] at hnw ⊢
          generalize wr.alloc (.cells #[.string (txt x), .string (txt y)] 28) = w3 at *
          have hbxl : bx < w3.heap.size := (Array.getElem?_eq_some_iff.1 hnw).1
          have HX := Lib.hid (fun (w' : World) (hb : Below w3.heap.size w3 w') (o : Nat) => Lib.cell_of_heap ((hb.block bx hbxl).trans hnw) o)
          have HBW := Lib.hid (nx9 HB1.out HB3.out)
          have cs := HKK.out w3 HBW.out
          have cx := HX.out w3 (Below.refl _ _)
          have HHx := Lib.hid (HHa.out w3 (nx9 HB.out HBW.out) ⟨txt x, txt y⟩)
          unfold Rl.val at HHx
          simp only at HHx
          clear z0 hnw hbx
          cases hfr : free G ⟨txt x, txt y⟩
          · have HE1 := Lib.hid (HNo.out hfr)
            have hmem : decide ((⟨txt x, txt y⟩ : Rl) ∈ G) = true := by unfold free at hfr; simpa using hfr
            rw [hmem] at HHx
            clear hfr hmem HYes HNo
            go_wp2_with fail
            refine HHx.out.mono ?_
            rintro e w4 ⟨rfl, hb4⟩
            have HO4 := Lib.hid (own_at HO3.out hb4)
            have HN4 := Lib.hid (own_at HN3.out hb4)
            have HB4 := Lib.hid (nx9 HB3.out hb4)
            clear hb4 cs cx HHx
            go_wp2_with fail
            go_roundw
            case rel => exact ⟨j + 1, by omega, by go_num, by rw [HE1.out]; exact HO4, HN4, HB4.out⟩
            case measure => simp [intOf]; omega
          · have HE1 := Lib.hid (HYes.out hfr)
            have hmem : decide ((⟨txt x, txt y⟩ : Rl) ∈ G) = false := by unfold free at hfr; simpa using hfr
            rw [hmem] at HHx
            clear hfr hmem HYes HNo
            go_wp2_with fail
            refine HHx.out.mono ?_
            rintro e w4 ⟨rfl, hb4⟩
            have hown4 := own_at HO3.out hb4
            have hnn4 := own_at HN3.out hb4
            have HB4 := Lib.hid (nx9 HB3.out hb4)
            have cx4 := HX.out w4 hb4
            have hz4 := HB4.out.size
            obtain ⟨F0, hF0⟩ : ∃ F0, accI G EE NN k x j = F0 := ⟨_, rfl⟩
            rw [hF0] at hown4 hll HE1
            clear hb4 cs cx HHx hF0 HO3 HN3
            go_wp2_with (at_builtin; refine wpList_append_own _ rfl _ _ 23 rfl w1.heap.size 28 i0 (.agg #[.string ⟨#[]⟩, .string ⟨#[]⟩]) 2 32 Tryz.underlying23 hi hz0 hz1 hz2 rfl (by decide) _ _ _ rfl (hown4.alloc _) ⟨w4.heap.size, 0, none⟩ 1 1 [.string (txt x), .string (txt y)] rfl rfl ?c1 ?c2 ?c3 ?c4 ?c5 ?_)
            case c1 => exact LwF.new_cells _ _ _
            case c2 => intro u hu; simp at hu; rcases hu with rfl | rfl <;> rfl
            case c3 => unfold maxLen; omega
            case c4 => omega
            case c5 => simp; omega
            intro v' w5 hown' hgrow _
            have HO5 : Hid (w5.ownsRow w1.heap.size 28 2 v' (accI G EE NN k x (j + 1)).length (rcells (accI G EE NN k x (j + 1)))) := Lib.hid (by
              rw [HE1.out, rcells_app, List.length_append]
              exact hown')
            have HN5 := Lib.hid (LwD.keep_own hown4 hnn4 (by decide) hgrow)
            have HB5 := Lib.hid (LwC.below_own HB4.out (Nat.le_refl _) hown4 hgrow hz4)
            clear hown' hown4 hgrow hnn4 cx4
            go_wp2_with fail
            go_roundw
            case rel => exact ⟨j + 1, by omega, by go_num, HO5, HN5, HB5.out⟩
            case measure => simp [intOf]; omega
        · have d2 : decide ((j : Int) < NN.length) = false := by simp; omega
          have hjN : j = NN.length := by omega
          subst hjN
          have HO6 : Hid (wr.ownsRow w1.heap.size 28 2 u3 (accO G EE NN (k + 1)).length (rcells (accO G EE NN (k + 1)))) := Lib.hid (by rw [← HSk.out]; exact hown.out)
          have HB6 := Lib.hid hb
          clear hown hnn hb
          go_wp2_with fail
          go_roundw
          case rel => exact ⟨k + 1, by omega, by go_num, HO6, HB6.out⟩
          case measure => simp [intOf]; omega
    · have d1 : decide ((k : Int) < EE.length) = false := by simp; omega
      have hkE : k = EE.length := by omega
      subst hkE
      have hown2 := hown.out
      rw [HR.out] at hown2
      obtain ⟨Ar, cr, rfl, _, hrf⟩ := RolA.RF.of_own hown2
      have HSo := Lib.hid (RolB.sortOwn Ar cr RR wr (by omega) hrf)
      unfold RolB.SortOwn at HSo
      rw [HS.out] at HSo
      have HBr := Lib.hid (nx9 HB.out (nx9 HB1.out hb))
      clear hown hown2 hrf hb
      go_wp2_with fail
      refine HSo.out.mono ?_
      rintro e w6 ⟨v6, rfl, ho6, hb6⟩
      have HF := Lib.hid (And.intro (Tab4.own_base ho6 HBr.out.size) (nx9 HBr.out hb6))
      clear ho6 hb6 HSo
      go_wp2_with fail
      go_ret
      exact ⟨_, rfl, HF.out.1, HF.out.2⟩
end Go.Proofs.YteabkbcbmimkgaaGreatDoor.HiJ
namespace Go.Proofs.YteabkbcbmimkgaaGreatDoor.HiK
open Go.Shelf Go.RowKit Go.Sort Go.Lib Go.Proofs Plain SynP SynD SynD2 SynD3 SynJ TabP Tab1 QryP PolA PolE PolG PolH PolLi PolOp TblB TblR LwH HiA
abbrev nx10 := @LwH.nx
def accS (S : List St) (RR : List Rl) (EE : List Str) (k : Nat) : List St := S ++ (RR.take k).flatMap fun r => HiC.rowS r EE
def accT (S : List St) (RR : List Rl) (EE : List Str) (k : Nat) (x : Rl) (j : Nat) : List St := accS S RR EE k ++ HiC.rowS x (EE.take j)
theorem accS_zero (S : List St) (RR : List Rl) (EE : List Str) : accS S RR EE 0 = S := by unfold accS; simp
theorem accT_zero (S : List St) (RR : List Rl) (EE : List Str) (k : Nat) (x : Rl) : accT S RR EE k x 0 = accS S RR EE k := by unfold accT; simp [HiC.rowS]
theorem accT_succ {S : List St} {RR : List Rl} {EE : List Str} {k j : Nat} {x : Rl} (h : j < EE.length) : accT S RR EE k x (j + 1) = accT S RR EE k x j ++ [memP x EE[j]] := by
  unfold accT
  rw [HiC.rowS_take x EE h, ← List.append_assoc]; rfl
theorem accS_succ {S : List St} {RR : List Rl} {EE : List Str} {k : Nat} (h : k < RR.length) : accT S RR EE k RR[k] EE.length = accS S RR EE (k + 1) := by
  unfold accT accS
  rw [List.take_length, List.take_succ_eq_append_getElem h, List.flatMap_append, List.append_assoc]
  congr 2
  simp [HiC.rowS]
theorem accT_len {S : List St} {RR : List Rl} {EE : List Str} {k j : Nat} {x : Rl} (hS : S.length ≤ 30) (hR : RR.length ≤ 28) (hE : EE.length ≤ 7) : (accT S RR EE k x j).length ≤ 300 := by
  unfold accT accS
  rw [List.length_append, List.length_append, flat_len _ EE.length _ (fun r _ => by unfold HiC.rowS; simp), List.length_take]
  have h1 : min k RR.length * EE.length ≤ 28 * 7 := Nat.mul_le_mul (Nat.le_trans (Nat.min_le_right _ _) hR) hE
  have h2 : (HiC.rowS x (EE.take j)).length ≤ 7 := by
    unfold HiC.rowS
    rw [List.length_map, List.length_take]
    omega
  omega
theorem own_box {B : Nat} (w : World) (hB : B ≤ w.heap.size) (a b : Value) : (w.alloc (.cells #[a, b] 28)).ownsRow B 28 2 (.slice (some ⟨w.heap.size, 0, none⟩) 1 1) 1 [a, b] :=
  ⟨rfl, .inr ⟨w.heap.size, 1, #[a, b], rfl, hB, heap_alloc_new w _, by omega, by unfold maxLen; omega, rfl, rfl⟩⟩
set_option maxHeartbeats 4000000 in
set_option maxRecDepth 100000 in
theorem maximal12 (p : Py) (A1 A2 A3 A4 : Option Addr) (c1 c2 c3 c4 : Nat) (w : World) (hf : Few p) (hc : Came p) (hp : PG w A1 A2 A3 A4 p) (hE : (ET p).length ≤ 7) (hN : (NT p).length ≤ 4) :
    Calls Tryz.prog 11 #[p.val A1 A2 A3 A4 c1 c2 c3 c4] w (StI.RowPost (maxS p) w) := by
  have HRo := Lib.hid (fun w' (hb : Below w.heap.size w w') => HiJ.roles12 p A1 A2 A3 A4 c1 c2 c3 c4 w' hf hc (hp.below hb) hE hN)
  have HPr := Lib.hid (fun w' (hb : Below w.heap.size w w') => HiI.prins12 p A1 A2 A3 A4 c1 c2 c3 c4 w' hf hc (hp.below hb))
  have hrl := hr_len hE hN
  have hfl := hp_len hE hN
  have hsl := hf.n1
  have HL := Lib.hid (fun k x j => accT_len (S := p.stmts) (RR := hRoles p) (EE := ET p) (k := k) (j := j) (x := x) hsl hrl hE)
  have HSU := Lib.hid (fun k (h : k < (hRoles p).length) => accS_succ (S := p.stmts) (EE := ET p) h)
  have HAll : Hid (sortL cmpS [] (accS p.stmts (hRoles p) (ET p) (hRoles p).length) = maxS p) := Lib.hid (by unfold accS; rw [List.take_length]; rfl)
  have HA0 : Hid (A1 = none → p.stmts.length = 0) := Lib.hid (fun h => by
    rcases Nat.eq_zero_or_pos p.stmts.length with h0 | h0
    · exact h0
    · obtain ⟨g, o, e, _⟩ := hp.s h0
      rw [h] at e; cases e)
  have HSC := Lib.hid (fun w' (hb : Below w.heap.size w w') => StA.sg_cells (hp.below hb).s)
  obtain ⟨i0, hi, hz0, hz1, hz2⟩ := info_parts SynD2.infoSt
  unfold Tab5.RowPost at HPr
  unfold PolF.RPost at HRo
  unfold StI.RowPost
  generalize maxS p = MX at *
  generalize hRoles p = RR at *
  generalize ET p = EE at *
  obtain ⟨S, G, H, Q⟩ := p
  unfold Py.val at *
  dsimp only at *
  have hbX := (Below.refl w.heap.size w).alloc (Nat.le_refl _) (.cells #[.slice A1 S.length c1, .slice A2 G.length c2, .slice A3 H.length c3, .slice A4 Q.length c4] 26)
  have hcl := heap_alloc_new w (.cells #[.slice A1 S.length c1, .slice A2 G.length c2, .slice A3 H.length c3, .slice A4 Q.length c4] 26)
  have HB := Lib.hid hbX
  clear hbX hf hc hp hN hfl
  go_enter Tryz.func11, Tryz.ntmps11
  go_upto_region 1 with fail
  obtain ⟨bp, hbp⟩ : ∃ bp, w.heap.size = bp := ⟨_, rfl⟩
  simp only [hbp] at hcl ⊢
  generalize w.alloc (.cells #[.slice A1 S.length c1, .slice A2 G.length c2, .slice A3 H.length c3, .slice A4 Q.length c4] 26) = w0 at *
  have hbl : bp < w0.heap.size := (Array.getElem?_eq_some_iff.1 hcl).1
  have HKK : Hid (∀ w', Below w0.heap.size w0 w' → ∀ o, w'.cell? ⟨bp, o, none⟩ = (#[.slice A1 S.length c1, .slice A2 G.length c2, .slice A3 H.length c3, .slice A4 Q.length c4] : Array Value)[o]?) := Lib.hid (fun w' hb o => Lib.cell_of_heap ((hb.block bp hbl).trans hcl) o)
  have cs := HKK.out (w0.alloc (.cells #[] 78)) (LwL.below_alloc _ _)
  have hsc := Lib.hid (HSC.out (w0.alloc (.cells #[] 78)) (nx10 HB.out (LwL.below_alloc _ _)))
  have hoe := SynC.own_empty w0 78 9
  clear hcl HSC
  go_wp2_with (at_builtin; go_loud (refine SynC.wpList_append_from _ rfl _ _ 22 rfl w0.heap.size 78 i0 zeroS.val 9 136 Tryz.underlying22 hi hz0 hz1 hz2 rfl (by decide) _ _ _ rfl hoe A1 S.length c1 (stCells S) rfl (stCells_len S) HA0.out hsc.out (stCells_one S) ?c3 ?c4 ?c5 ?_))
  case c3 => unfold maxLen; omega
  case c4 => omega
  case c5 => first | omega | (simp; done) | (simp; omega)
  intro v1 w1 hown' hgrow
  have HO1 : Hid (w1.ownsRow w0.heap.size 78 9 v1 (accS S RR EE 0).length (stCells (accS S RR EE 0))) := Lib.hid (by rw [accS_zero]; simpa using hown')
  have HB1 := Lib.hid (RefRo.grown_low ((LwL.below_alloc w0 (.cells #[] 78))) hoe hgrow (by simp))
  clear hown' hgrow hoe hsc cs HA0
  have cs := HKK.out w1 HB1.out
  go_wp2_with fail
  refine (HRo.out w1 (nx10 HB.out HB1.out)).mono ?_
  rintro e w2 ⟨v2, rfl, ho2, hb2⟩
  obtain ⟨Q1, q1, rfl⟩ := PolLi.own_n ho2
  have HRR := Lib.hid (Tab4.own_base ho2 HB1.out.size)
  have HO2 := Lib.hid (own_at HO1.out hb2)
  have HB2 := Lib.hid (nx10 HB1.out hb2)
  clear ho2 hb2 cs HO1 HRo HB1
  go_wp2_with fail
  go_loopw [3, 15] (fun v i wr => ∃ k : Nat, k ≤ RR.length ∧ i = .int .i64 k ∧ Hid (wr.ownsRow w0.heap.size 78 9 v (accS S RR EE k).length (stCells (accS S RR EE k))) ∧ Hid (wr.ownsRow w0.heap.size 28 2 (.slice Q1 RR.length q1) RR.length (rcells RR)) ∧ Below w0.heap.size w0 wr) (fun _ i _ => RR.length - (intOf i).toNat)
  case atStart => exact ⟨0, by omega, rfl, HO2, HRR, HB2.out⟩
  case round =>
    obtain ⟨k, hk, rfl, hown, hrr, hb⟩ := hrel
    by_cases hlt : k < RR.length
    · have d1 : decide ((k : Int) < RR.length) = true := by simp; omega
      obtain ⟨g, o, rfl, hg, hcl⟩ := (PolK.rg_of_own hrr.out) (by omega)
      obtain ⟨y0, y1⟩ := hcl k hlt
      have p1 : (0 : Int) ≤ k := by omega
      have p2 : (k : Int) < RR.length := by omega
      have HSk := Lib.hid (HSU.out k hlt)
      generalize RR[k] = x at *
      obtain ⟨xo, xn⟩ := x
      simp only at y0 y1
      have hba := LwL.below_alloc wr (.cells #[.string xo, .string xn] 28)
      have hnw := heap_alloc_new wr (.cells #[.string xo, .string xn] 28)
      have HBX := Lib.hid (own_box wr hb.size (.string xo) (.string xn))
      have HO3 := Lib.hid (own_at hown.out hba)
      have HR3 := Lib.hid (own_at hrr.out hba)
      have HB3 := Lib.hid (nx10 hb hba)
      clear hown hrr hb hba hcl hg
      go_upto_region 5 with fail
      obtain ⟨bx, hbx⟩ : ∃ bx, wr.heap.size = bx := ⟨_, rfl⟩
      rw [hbx] at hnw HBX ⊢
      generalize wr.alloc (.cells #[.string xo, .string xn] 28) = w3 at *
      have cs := HKK.out w3 HB3.out
      clear y0 y1 hnw hbx
      go_wp2_with fail
      refine (HPr.out w3 (nx10 HB.out HB3.out)).mono ?_
      rintro e w4 ⟨v4, rfl, ho4, hb4⟩
      obtain ⟨Q2, q2, rfl⟩ := PolLi.own_n ho4
      have HEE := Lib.hid (Tab4.own_base ho4 HB3.out.size)
      have HO4 := Lib.hid (own_at HO3.out hb4)
      have HR4 := Lib.hid (own_at HR3.out hb4)
      have HX4 := Lib.hid (own_at HBX.out hb4)
      have HB4 := Lib.hid (nx10 HB3.out hb4)
      clear ho4 hb4 cs HO3 HR3 HB3 HBX
      go_wp2_with fail
      go_loopw [3, 22] (fun v i wr => ∃ j : Nat, j ≤ EE.length ∧ i = .int .i64 j ∧ Hid (wr.ownsRow w0.heap.size 78 9 v (accT S RR EE k ⟨xo, xn⟩ j).length (stCells (accT S RR EE k ⟨xo, xn⟩ j))) ∧ Hid (wr.ownsRow w0.heap.size 28 2 (.slice (some ⟨g, o, none⟩) RR.length q1) RR.length (rcells RR)) ∧ Hid (wr.ownsRow w0.heap.size 9 1 (.slice Q2 EE.length q2) EE.length (EE.map encStr)) ∧ Hid (wr.ownsRow w0.heap.size 28 2 (.slice (some ⟨bx, 0, none⟩) 1 1) 1 [.string xo, .string xn]) ∧ Below w0.heap.size w0 wr) (fun _ i _ => EE.length - (intOf i).toNat)
      case atStart => exact ⟨0, by omega, rfl, Lib.hid (by rw [accT_zero]; exact HO4.out), HR4, HEE, HX4, HB4.out⟩
      case round =>
        obtain ⟨j, hj, rfl, hown, hrr, hee, hxx, hb⟩ := hrel
        by_cases hlt2 : j < EE.length
        · have d2 : decide ((j : Int) < EE.length) = true := by simp; omega
          obtain ⟨Q2', q2', e2, _, hrn⟩ := SRow.of_own hee.out
          injection e2 with e21 _ e23
          subst e21 e23
          obtain ⟨g2, o2, rfl, hg2, hcl⟩ := hrn (by omega)
          have z0 : wr.cell? ⟨g2, o2 + j, none⟩ = some (.string (txt EE[j])) := hcl j hlt2
          have r1 : (0 : Int) ≤ j := by omega
          have r2 : (j : Int) < EE.length := by omega
          have HE1 := Lib.hid (accT_succ (S := S) (RR := RR) (k := k) (x := ⟨xo, xn⟩) hlt2)
          have hll := HL.out k ⟨xo, xn⟩ j
          have x0 : wr.cell? ⟨bx, 0, none⟩ = some (.string xo) := by
            have := hxx.out.cells (g := bx) rfl 0 (.string xo) rfl
            rwa [LwA.add_off] at this
          have x1 : wr.cell? ⟨bx, 1, none⟩ = some (.string xn) := by
            have := hxx.out.cells (g := bx) rfl 1 (.string xn) rfl
            rwa [LwA.add_off] at this
          clear hcl hrn hg2
          generalize EE[j] = y at *
          have hown4 := hown.out
          have hzr := hb.size
          have HBr := Lib.hid hb
          obtain ⟨F0, hF0⟩ : ∃ F0, accT S RR EE k ⟨xo, xn⟩ j = F0 := ⟨_, rfl⟩
          rw [hF0] at hown4 hll HE1
          clear hb hF0 hown
          go_wp2_with (at_builtin; refine wpList_append_own _ rfl _ _ 22 rfl w0.heap.size 78 i0 zeroS.val 9 136 Tryz.underlying22 hi hz0 hz1 hz2 rfl (by decide) _ _ _ rfl (hown4.alloc _) ⟨wr.heap.size, 0, none⟩ 1 1 [.int .i64 1, .string xo, .string xn, .string (txt y), .string ⟨#[]⟩, .string ⟨#[]⟩, .string ⟨#[]⟩, .string ⟨#[]⟩, .string ⟨#[]⟩] rfl rfl ?c1 ?c2 ?c3 ?c4 ?c5 ?_)
          try (case c1 => exact LwF.new_cells _ _ _)
          case c2 => first | (intro u hu; simp at hu; rcases hu with rfl | rfl | rfl | rfl | rfl | rfl | rfl | rfl | rfl <;> rfl) | exact ⟨rfl, rfl, rfl, rfl, rfl⟩ | (simp; done)
          case c3 => unfold maxLen; omega
          case c4 => omega
          case c5 => first | omega | (simp; done) | (simp; omega)
          intro v' w5 hown' hgrow _
          have HO5 : Hid (w5.ownsRow w0.heap.size 78 9 v' (accT S RR EE k ⟨xo, xn⟩ (j + 1)).length (stCells (accT S RR EE k ⟨xo, xn⟩ (j + 1)))) := Lib.hid (by
            rw [HE1.out, stCells_app, List.length_append]
            exact hown')
          have HR5 := Lib.hid (LwD.keep_own hown4 hrr.out (by decide) hgrow)
          have HN5 := Lib.hid (LwD.keep_own hown4 hee.out (by decide) hgrow)
          have HX5 := Lib.hid (LwD.keep_own hown4 hxx.out (by decide) hgrow)
          have HB5 := Lib.hid (LwC.below_own HBr.out (Nat.le_refl _) hown4 hgrow hzr)
          clear hown' hown4 hgrow hrr hee hxx x0 x1 z0
          go_wp2_with fail
          go_roundw
          case rel => exact ⟨j + 1, by omega, by go_num, HO5, HR5, HN5, HX5, HB5.out⟩
          case measure => simp [intOf]; omega
        · have d2 : decide ((j : Int) < EE.length) = false := by simp; omega
          have hjN : j = EE.length := by omega
          subst hjN
          have HO6 : Hid (wr.ownsRow w0.heap.size 78 9 u3 (accS S RR EE (k + 1)).length (stCells (accS S RR EE (k + 1)))) := Lib.hid (by rw [← HSk.out]; exact hown.out)
          have HB6 := Lib.hid hb
          clear hown hee hxx hb
          go_wp2_with fail
          go_roundw
          case rel => exact ⟨k + 1, by omega, by go_num, HO6, hrr, HB6.out⟩
          case measure => simp [intOf]; omega
    · have d1 : decide ((k : Int) < RR.length) = false := by simp; omega
      have hkE : k = RR.length := by omega
      subst hkE
      have hown2 := hown.out
      obtain ⟨Ar, cr, rfl, hsg⟩ := StI.sg_own hown2
      have hll := HL.out RR.length ⟨⟨#[]⟩, ⟨#[]⟩⟩ 0
      rw [accT_zero] at hll
      have HSo := Lib.hid (SynDB.sortRef Ar cr (accS S RR EE RR.length) wr (by omega) hsg.at_)
      unfold SynDB.SortPost at HSo
      rw [HAll.out] at HSo
      have HBr := Lib.hid (nx10 HB.out hb)
      generalize (accS S RR EE RR.length) = FF at *
      clear hown hown2 hsg hrr hb
      go_wp2_with fail
      refine HSo.out.mono ?_
      rintro e w6 ⟨A6, c6, rfl, hr6, hb6⟩
      have HF := Lib.hid (And.intro (SG.of_row hr6) (nx10 HBr.out hb6))
      clear hr6 hb6 HSo
      go_wp2_with fail
      go_ret
      exact ⟨A6, c6, rfl, HF.out.1, HF.out.2⟩
end Go.Proofs.YteabkbcbmimkgaaGreatDoor.HiK
namespace Go.Proofs.YteabkbcbmimkgaaGreatDoor.HiL
open Go.RowKit Go.Sort Go.Lib Go.Proofs Plain SynP SynJ TabP Tab2 QryP PolE PolG PolH TblA TblC TblF TblP TblQ TblR TblT StR RefPr LwA LwH LwM HiA
structure Rp (p : Py) : Prop where
  st : ∀ s ∈ p.stmts, s.right = true
  gh : ∀ r ∈ p.grow ++ p.shrink, r.ok = true
  qs : ∀ q ∈ p.asks, q.right = true
  ps : (PT p).length ≤ 16
  ns : (NT p).length ≤ 12
theorem rp_of {p : Py} (h : rightR p = true) : Rp p := by
  have ht := LwT.rt_of h
  unfold rightR at h
  simp only [Bool.and_eq_true] at h
  obtain ⟨h1, h2, h3, _⟩ := h
  exact ⟨fun s hs => List.all_eq_true.1 h1 s hs, fun r hr => List.all_eq_true.1 h2 r hr, fun q hq => List.all_eq_true.1 h3 q hq, ht.ps, ht.ns⟩
theorem says_parts {s : St} (h : s.right = true) : s.head.ok = true ∧ (s.kind = 1 → named capB s.who.data.toList = true) ∧ (s.kind = 2 ∨ s.kind = 3 → s.a.ok = true) ∧ (s.kind = 4 → s.a.ok = true ∧ s.b.ok = true) ∧ (s.kind = 3 → named smallB s.via.data.toList = true) := by
  unfold St.right at h
  simp only [Bool.and_eq_true] at h
  obtain ⟨⟨h1, h2⟩, _⟩ := h
  unfold St.says at h2
  refine ⟨h1, fun k => ?_, fun k => ?_, fun k => ?_, fun k => ?_⟩
  · rw [if_pos k] at h2; exact h2
  · rcases k with k | k
    · rw [if_neg (by omega), if_pos k] at h2; exact h2
    · rw [if_neg (by omega), if_neg (by omega), if_pos k, Bool.and_eq_true] at h2; exact h2.1
  · rw [if_neg (by omega), if_neg (by omega), if_neg (by omega), if_pos k, Bool.and_eq_true, Bool.and_eq_true] at h2; exact h2.1
  · rw [if_neg (by omega), if_neg (by omega), if_pos k, Bool.and_eq_true] at h2; exact h2.2
theorem role_ok {p : Py} (h : Rp p) : ∀ r ∈ rolesP p, r.ok = true := by
  intro r hr
  unfold rolesP at hr
  rw [List.mem_append, List.mem_append] at hr
  rcases hr with (hr | hr) | hr
  · exact h.gh r hr
  · unfold rolesS at hr
    rw [List.take_length] at hr
    obtain ⟨l, hl, hr⟩ := List.mem_flatten.1 hr
    obtain ⟨s, hs, rfl⟩ := List.mem_map.1 hl
    obtain ⟨f1, _, f3, f4, _⟩ := says_parts (h.st s hs)
    unfold rolesL at hr
    split at hr
    · rename_i hk
      simp at hr
      rcases hr with rfl | rfl
      · exact f1
      · exact f3 hk
    · split at hr
      · rename_i hk
        simp at hr
        rcases hr with rfl | rfl | rfl
        · exact f1
        · exact (f4 hk).1
        · exact (f4 hk).2
      · simp at hr
        subst hr
        exact f1
  · unfold rolesA at hr
    rw [List.take_length] at hr
    obtain ⟨l, hl, hr⟩ := List.mem_flatten.1 hr
    obtain ⟨q, hq, rfl⟩ := List.mem_map.1 hl
    have hqr := h.qs q hq
    unfold Qy.right at hqr
    rw [Bool.and_eq_true] at hqr
    unfold QryO.rolesQ at hr
    split at hr
    · rename_i hk
      simp at hr
      rcases hr with rfl | rfl
      · exact hqr.1
      · have h2 := hqr.2
        unfold QryP.hasBk at hk
        simp only [Bool.or_eq_true, decide_eq_true_eq] at hk
        rw [if_neg (by omega), if_neg (by omega), if_neg (by omega), if_pos (by omega), Bool.and_eq_true] at h2
        exact h2.2
    · simp at hr
      subst hr
      exact hqr.1
theorem ok_parts_r {r : Rl} (h : r.ok = true) : named capB (bt r.owner) = true ∧ named smallB (bt r.name) = true := by
  unfold Rl.ok at h
  rw [Bool.and_eq_true] at h
  exact h
theorem prin_ok {p : Py} (h : Rp p) : ∀ x ∈ PT p, named capB x = true := by
  intro x hx
  unfold PT at hx
  rw [mem_tab] at hx
  unfold prinsT at hx
  rw [List.mem_append, List.mem_append] at hx
  rcases hx with (hx | hx) | hx
  · unfold ownersR at hx
    rw [List.take_length] at hx
    obtain ⟨r, hr, rfl⟩ := List.mem_map.1 hx
    exact (ok_parts_r (role_ok h r hr)).1
  · unfold whosS at hx
    rw [List.take_length] at hx
    obtain ⟨s, hs, rfl⟩ := List.mem_map.1 hx
    obtain ⟨hs, hk⟩ := List.mem_filter.1 hs
    exact (says_parts (h.st s hs)).2.1 (by simpa using hk)
  · unfold whosA at hx
    rw [List.take_length] at hx
    obtain ⟨l, hl, hr⟩ := List.mem_flatten.1 hx
    obtain ⟨q, hq, rfl⟩ := List.mem_map.1 hl
    have hqr := h.qs q hq
    unfold Qy.right at hqr
    rw [Bool.and_eq_true] at hqr
    have h2 := hqr.2
    have hw : whoOk q.who = true ∨ q.who.length = 0 := by
      by_cases k1 : q.kind = 1 ∨ q.kind = 2
      · rw [if_pos k1, Bool.and_eq_true, Bool.and_eq_true] at h2
        exact .inl h2.1.2
      · rw [if_neg k1] at h2
        by_cases k3 : q.kind = 3
        · rw [if_pos k3, Bool.and_eq_true] at h2
          exact .inl h2.1
        · rw [if_neg k3] at h2
          by_cases k4 : q.kind = 4
          · rw [if_pos k4, Bool.and_eq_true, decide_eq_true_eq] at h2
            exact .inr h2.1
          · rw [if_neg k4] at h2
            by_cases k5 : q.kind = 5 ∨ q.kind = 6
            · rw [if_pos k5, Bool.and_eq_true, decide_eq_true_eq] at h2
              exact .inr h2.1
            · rw [if_neg k5] at h2
              cases h2
    rcases hw with hw | hw
    · unfold whoOk at hw
      rw [Bool.and_eq_true, Bool.and_eq_true] at hw
      exact List.all_eq_true.1 hw.1.2 x hr
    · rw [List.length_eq_zero_iff.1 hw] at hr
      cases hr
theorem name_ok {p : Py} (h : Rp p) : ∀ x ∈ NT p, named smallB x = true := by
  intro x hx
  unfold NT at hx
  rw [mem_tab] at hx
  unfold namesT at hx
  rw [List.mem_append] at hx
  rcases hx with hx | hx
  · unfold namesR at hx
    rw [List.take_length] at hx
    obtain ⟨r, hr, rfl⟩ := List.mem_map.1 hx
    exact (ok_parts_r (role_ok h r hr)).2
  · unfold viasS at hx
    rw [List.take_length] at hx
    obtain ⟨s, hs, rfl⟩ := List.mem_map.1 hx
    obtain ⟨hs, hk⟩ := List.mem_filter.1 hs
    exact (says_parts (h.st s hs)).2.2.2.2 (by simpa using hk)
theorem fresh_ok {p : Py} (h : Rp p) : named capB (FT p) = true := by
  obtain ⟨_, k, h1, hk, e⟩ := mem_fr (PT p) 1 (1000 + (PT p).length) (FT p) (by rw [fr_eq]; simp)
  rw [e]
  have := h.ps
  exact Tab8.prin_xs k (by omega) h1
theorem et_ok {p : Py} (h : Rp p) : ∀ x ∈ ET p, named capB x = true := fun x hx => by
  rcases et_mem.1 hx with hx | rfl
  · exact prin_ok h x hx
  · exact fresh_ok h
theorem memP_right {r : Rl} {x : Str} (hr : named capB (bt r.owner) = true ∧ named smallB (bt r.name) = true) (hx : named capB x = true) : (memP r x).right = true := by
  unfold St.right
  simp only [Bool.and_eq_true]
  refine ⟨⟨?_, ?_⟩, ?_⟩
  · show (named capB (bt r.owner) && named smallB (bt r.name)) = true
    rw [hr.1, hr.2]; rfl
  · unfold St.says
    rw [if_pos (show (memP r x).kind = 1 from rfl)]
    show named capB (bt (txt x)) = true
    rw [bt_txt]; exact hx
  · rw [decide_eq_true_eq]
    unfold St.own
    rw [if_pos (show (memP r x).kind = 1 from rfl)]
    rfl
theorem ok_et {p : Py} {s : St} (hs : s ∈ p.stmts) (hr : s.right = true) : ruleOk (ET p) (NT p) s = true := by
  have hrol : ∀ r ∈ rolesL s, 0 ≤ roleI (ET p) (NT p) r := fun r h => by
    obtain ⟨a, b⟩ := role_in (stmt_role hs h)
    exact roleI_nn (et_mem.2 (.inl a)) b
  have hh : 0 ≤ roleI (ET p) (NT p) s.head := hrol _ (by
    unfold rolesL
    split
    · simp
    · split <;> simp)
  unfold ruleOk
  rw [hr, decide_eq_true hh, Bool.true_and, Bool.true_and]
  unfold restOk
  have hk := kind_of_right hr
  by_cases k1 : s.kind = 1
  · rw [if_pos k1]
    refine decide_eq_true (findI_nn (et_mem.2 (.inl ?_)))
    unfold PT
    rw [mem_tab]
    unfold prinsT whosS
    rw [List.mem_append, List.mem_append, List.take_length (l := p.stmts)]
    exact .inl (.inr (List.mem_map.2 ⟨s, List.mem_filter.2 ⟨hs, by simp [k1]⟩, (bt_list _).symm⟩))
  · rw [if_neg k1]
    have ha : 0 ≤ roleI (ET p) (NT p) s.a := hrol _ (by
      unfold rolesL
      split
      · simp
      · split
        · simp
        · exfalso; omega)
    by_cases k3 : s.kind = 3
    · rw [if_pos k3, decide_eq_true ha, Bool.and_true]
      refine decide_eq_true (findI_nn ?_)
      unfold NT
      rw [mem_tab]
      unfold namesT viasS
      rw [List.mem_append, List.take_length (l := p.stmts)]
      exact .inr (List.mem_map.2 ⟨s, List.mem_filter.2 ⟨hs, by simp [k3]⟩, (bt_list _).symm⟩)
    · rw [if_neg k3]
      by_cases k4 : s.kind = 4
      · rw [if_pos k4, decide_eq_true ha, Bool.true_and]
        exact decide_eq_true (hrol _ (by unfold rolesL; rw [if_neg (by omega), if_pos k4]; simp))
      · rw [if_neg k4]
        exact decide_eq_true ha
theorem max_ok {p : Py} (h : Rp p) : AllOk (ET p) (NT p) (maxS p) := fun s hs => by
  rcases mem_max.1 hs with hs | hs
  · exact ok_et hs (h.st s hs)
  · obtain ⟨r, hr, x, hx, rfl⟩ := mem_hp.1 hs
    obtain ⟨h1, h2, _⟩ := mem_hr.1 hr
    have hri := memP_right (x := x) (And.intro (et_ok h _ h1) (name_ok h _ h2)) (et_ok h x hx)
    have hh : 0 ≤ roleI (ET p) (NT p) (memP r x).head := roleI_nn (by rw [bt_list]; exact h1) (by rw [bt_list]; exact h2)
    unfold ruleOk
    rw [hri, decide_eq_true hh, Bool.true_and, Bool.true_and]
    unfold restOk
    rw [if_pos (show (memP r x).kind = 1 from rfl)]
    refine decide_eq_true (findI_nn ?_)
    show (txt x).toList ∈ ET p
    rw [bt_list, bt_txt]; exact hx
theorem der_mem {S : List St} (h : ∀ s ∈ S, s.kind = 1) {r : Rl} {x : ByteArray} : DerN S r x ↔ ∃ s ∈ S, s.head = r ∧ s.who = x := by
  constructor
  · intro d
    cases d with
    | mem s hs hk => exact ⟨s, hs, rfl, rfl⟩
    | incl s x hs hk _ => have := h s hs; omega
    | link s x y hs hk _ _ => have := h s hs; omega
    | both s x hs hk _ _ => have := h s hs; omega
  · rintro ⟨s, hs, rfl, rfl⟩
    exact .mem s hs (h s hs)
end Go.Proofs.YteabkbcbmimkgaaGreatDoor.HiL
namespace Go.Proofs.YteabkbcbmimkgaaGreatDoor.HiM
open Go.RowKit Go.Sort Go.Lib Go.Proofs Plain SynP TabP Tab1 QryP PolA PolE PolG PolH PolLi PolOp StR LwH HiA HiL
abbrev nx11 := @LwH.nx
structure Small (p : Py) : Prop where
  few : Few p
  rp : Rp p
  e7 : (ET p).length ≤ 7
  n4 : (NT p).length ≤ 4
def SmallPost (p : Py) (w : World) (e : Ending) (w' : World) : Prop := ∃ b, e = .returned (.bool b) ∧ (b = true → Small p) ∧ Below w.heap.size w w'
set_option maxHeartbeats 2000000 in
set_option maxRecDepth 100000 in
theorem small (p : Py) (A1 A2 A3 A4 : Option Addr) (c1 c2 c3 c4 : Nat) (w : World) (hc : Came p) (hp : PG w A1 A2 A3 A4 p) :
    Calls Tryz.prog 9 #[p.val A1 A2 A3 A4 c1 c2 c3 c4] w (SmallPost p w) := by
  have HLi := Lib.hid (fun w' (hb : Below w.heap.size w w') => PolLi.light p A1 A2 A3 A4 c1 c2 c3 c4 w' hc (hp.below hb))
  have HRi : Hid (∀ w', Below w.heap.size w w' → Few p → Calls Tryz.prog 45 #[p.val A1 A2 A3 A4 c1 c2 c3 c4] w' fun e w'' => e = .returned (.bool (rightR p)) ∧ Below w'.heap.size w' w'') := Lib.hid (fun w' (hb : Below w.heap.size w w') hf => StR.rightRef5 p A1 A2 A3 A4 c1 c2 c3 c4 w' (hf.fit hc) (hp.below hb))
  have HPr := Lib.hid (fun w' (hb : Below w.heap.size w w') hf => HiI.prins5 p A1 A2 A3 A4 c1 c2 c3 c4 w' hf hc (hp.below hb))
  have HNa := Lib.hid (fun w' (hb : Below w.heap.size w w') hf => HiI.names5 p A1 A2 A3 A4 c1 c2 c3 c4 w' hf hc (hp.below hb))
  have HSm : Hid (Few p → rightR p = true → (PT p).length ≤ 6 → (NT p).length ≤ 4 → Small p) := Lib.hid (fun h1 h2 h3 h4 => ⟨h1, rp_of h2, by have := et_len p; omega, h4⟩)
  have hpl : Few p → (PT p).length ≤ 20000 := fun hf => HiB.pt_small hf hc
  have HPL := Lib.hid hpl
  unfold LightPost at HLi
  unfold SmallPost
  unfold Tab5.RowPost at HPr HNa
  generalize Small p = SM at *
  generalize Few p = FW at *
  generalize rightR p = RG at *
  generalize PT p = PP at *
  generalize NT p = NN at *
  obtain ⟨S, G, H, Q⟩ := p
  unfold Py.val at *
  dsimp only at *
  have hbX := (Below.refl w.heap.size w).alloc (Nat.le_refl _) (.cells #[.slice A1 S.length c1, .slice A2 G.length c2, .slice A3 H.length c3, .slice A4 Q.length c4] 26)
  have hcl := heap_alloc_new w (.cells #[.slice A1 S.length c1, .slice A2 G.length c2, .slice A3 H.length c3, .slice A4 Q.length c4] 26)
  have HB := Lib.hid hbX
  clear hbX hc hp hpl
  go_enter Tryz.func9, Tryz.ntmps9
  go_upto_region 1 with fail
  obtain ⟨bp, hbp⟩ : ∃ bp, w.heap.size = bp := ⟨_, rfl⟩
  simp only [hbp] at hcl ⊢
  generalize w.alloc (.cells #[.slice A1 S.length c1, .slice A2 G.length c2, .slice A3 H.length c3, .slice A4 Q.length c4] 26) = w0 at *
  have hbl : bp < w0.heap.size := (Array.getElem?_eq_some_iff.1 hcl).1
  have HKK : Hid (∀ w', Below w0.heap.size w0 w' → ∀ o, w'.cell? ⟨bp, o, none⟩ = (#[.slice A1 S.length c1, .slice A2 G.length c2, .slice A3 H.length c3, .slice A4 Q.length c4] : Array Value)[o]?) := Lib.hid (fun w' hb o => Lib.cell_of_heap ((hb.block bp hbl).trans hcl) o)
  have cs := HKK.out w0 (Below.refl _ _)
  clear hcl
  go_wp2_with fail
  refine (HLi.out w0 HB.out).mono ?_
  rintro e w1 ⟨b, rfl, hfew, hb1⟩
  have HB1 := Lib.hid hb1
  have cs1 := HKK.out w1 hb1
  clear cs HLi hb1
  cases b
  · clear hfew HRi HPr HNa HSm HPL
    go_wp2_with fail
    go_ret
    exact ⟨false, rfl, fun h => (by cases h), nx11 HB.out HB1.out⟩
  · have hf := hfew rfl
    have HRi2 := Lib.hid (HRi.out w1 (nx11 HB.out HB1.out) hf)
    have HPr2 := Lib.hid (fun w' hb => HPr.out w' hb hf)
    have HNa2 := Lib.hid (fun w' hb => HNa.out w' hb hf)
    have HSm2 := Lib.hid (HSm.out hf)
    have hpl := HPL.out hf
    clear hfew HRi HPr HNa HSm HPL
    go_wp2_with fail
    refine HRi2.out.mono ?_
    rintro e w2 ⟨rfl, hb2⟩
    have HB2 := Lib.hid (nx11 HB1.out hb2)
    have cs2 := HKK.out w2 HB2.out
    clear hb2 cs1 HRi2
    cases RG
    · clear HPr2 HNa2 HSm2
      go_wp2_with fail
      go_ret
      exact ⟨false, rfl, fun h => (by cases h), nx11 HB.out HB2.out⟩
    · go_wp2_with fail
      refine (HPr2.out w2 (nx11 HB.out HB2.out)).mono ?_
      rintro e w3 ⟨v3, rfl, ho3, hb3⟩
      obtain ⟨Q3, q3, rfl⟩ := PolLi.own_n ho3
      have HB3 := Lib.hid (nx11 HB2.out hb3)
      have cs3 := HKK.out w3 HB3.out
      clear hb3 ho3 cs2
      by_cases hP : PP.length ≤ 6
      · have d1 : decide (PP.length ≤ 6) = true := decide_eq_true hP
        have d1' : decide ((PP.length : Int) ≤ 6) = true := by simp; omega
        go_wp2_with fail
        refine (HNa2.out w3 (nx11 HB.out HB3.out)).mono ?_
        rintro e w4 ⟨v4, rfl, ho4, hb4⟩
        obtain ⟨Q4, q4, rfl⟩ := PolLi.own_n ho4
        have HB4 := Lib.hid (nx11 HB3.out hb4)
        clear hb4 ho4 cs3
        by_cases hN : NN.length ≤ 4
        · have d2 : decide (NN.length ≤ 4) = true := decide_eq_true hN
          have d2' : decide ((NN.length : Int) ≤ 4) = true := by simp; omega
          have HE := Lib.hid (HSm2.out (by first | rfl | trivial) hP hN)
          clear HSm2
          go_wp2_with fail
          go_ret
          exact ⟨true, rfl, fun _ => HE.out, nx11 HB.out HB4.out⟩
        · have d2 : decide (NN.length ≤ 4) = false := decide_eq_false hN
          have d2' : decide ((NN.length : Int) ≤ 4) = false := by simp; omega
          clear HSm2
          go_wp2_with fail
          go_ret
          exact ⟨false, rfl, fun h => (by cases h), nx11 HB.out HB4.out⟩
      · have d1 : decide (PP.length ≤ 6) = false := decide_eq_false hP
        have d1' : decide ((PP.length : Int) ≤ 6) = false := by simp; omega
        clear HSm2 HNa2
        go_wp2_with fail
        go_ret
        exact ⟨false, rfl, fun h => (by cases h), nx11 HB.out HB3.out⟩
end Go.Proofs.YteabkbcbmimkgaaGreatDoor.HiM
namespace Go.Proofs.YteabkbcbmimkgaaGreatDoor.HiN
open Go.RowKit Go.Sort Go.Lib Go.Proofs Plain SynP TabP Tab1 Tab2 QryP PolA PolE PolG PolH PolLi PolOp TblC TblP TblQ TblR SemA LwA LwH LwM HiA HiL
open LwL (rR sA z0 lt0 lt1 txt_one)
def pE : Py := ⟨[sA], [rR], [], []⟩
def qE : Py := ⟨[sA], [], [], []⟩
def eT : List Str := [[65], [66], [88, 49]]
theorem eT_up : eT.Pairwise (· < ·) := by unfold eT; decide
theorem xs1 : xs 1 = [88, 49] := Ref1.xs_small 1 (by omega)
theorem fr_first {T : List Str} (h : xs 1 ∉ T) : ∀ m, fr T 1 (m + 1) = [xs 1]
  | 0 => by rw [fr_add (by simp [fr]) (by simp [fr]) h]; rfl
  | m + 1 => by
    rw [fr_not (by rw [fr_first h m]; simp)]
    exact fr_first h m
theorem ft_first {p : Py} (h : PT p = [[65], [66]]) : FT p = [88, 49] := by
  unfold FT
  rw [show 1000 + (PT p).length = (999 + (PT p).length) + 1 by omega, fr_first (by rw [xs1, h]; decide), xs1]
  rfl
theorem et_first {p : Py} (h : PT p = [[65], [66]]) : ET p = eT :=
  eq_of_rising (et_up p) eT_up fun x => by
    rw [et_mem, h, ft_first h]
    unfold eT
    simp [or_assoc]
theorem prins_p : prinsT pE = [[65], [65], [66]] := by decide +kernel
theorem prins_q : prinsT qE = [[65], [66]] := by decide +kernel
theorem names_p : namesT pE = [[114], [114]] := by decide +kernel
theorem names_q : namesT qE = [[114]] := by decide +kernel
theorem pt_p : PT pE = [[65], [66]] := eq_of_rising (tab_sorted _) (by decide) fun x => by
  unfold PT
  rw [mem_tab, prins_p]
  simp
theorem pt_q : PT qE = [[65], [66]] := eq_of_rising (tab_sorted _) (by decide) fun x => by
  unfold PT
  rw [mem_tab, prins_q]
theorem nt_p : NT pE = [[114]] := eq_of_rising (tab_sorted _) (by decide) fun x => by
  unfold NT
  rw [mem_tab, names_p]
  simp
theorem nt_q : NT qE = [[114]] := eq_of_rising (tab_sorted _) (by decide) fun x => by
  unfold NT
  rw [mem_tab, names_q]
theorem rp_p : Rp pE := ⟨by decide +kernel, by decide +kernel, fun q h => absurd h (by simp [pE]), by rw [pt_p]; decide, by rw [nt_p]; decide⟩
theorem rp_q : Rp qE := ⟨by decide +kernel, fun r h => absurd h (by simp [qE]), fun q h => absurd h (by simp [qE]), by rw [pt_q]; decide, by rw [nt_q]; decide⟩
theorem few_p : Few pE := ⟨by decide, by decide, by decide, by decide, fun q h => absurd h (by simp [pE])⟩
theorem few_q : Few qE := ⟨by decide, by decide, by decide, by decide, fun q h => absurd h (by simp [qE])⟩
theorem fit_A : ∀ s ∈ [sA], s.fit := fun s hs => by
  simp at hs
  subst hs
  exact ⟨⟨lt1 _, lt1 _⟩, lt1 _, ⟨lt0, lt0⟩, ⟨lt0, lt0⟩, lt0⟩
theorem came_p : Came pE := ⟨by decide, by decide, by decide, by decide, fit_A, fun r h => by simp [pE] at h; subst h; exact ⟨lt1 _, lt1 _⟩, fun r h => absurd h (by simp [pE]), fun q h => absurd h (by simp [pE])⟩
theorem came_q : Came qE := ⟨by decide, by decide, by decide, by decide, fit_A, fun r h => absurd h (by simp [qE]), fun r h => absurd h (by simp [qE]), fun q h => absurd h (by simp [qE])⟩
theorem e7_p : (ET pE).length ≤ 7 := by rw [et_first pt_p]; decide
theorem e7_q : (ET qE).length ≤ 7 := by rw [et_first pt_q]; decide
theorem n4_p : (NT pE).length ≤ 4 := by rw [nt_p]; decide
theorem n4_q : (NT qE).length ≤ 4 := by rw [nt_q]; decide
theorem one_kind {p : Py} (h : p.stmts = [sA]) : ∀ s ∈ maxS p, s.kind = 1 := fun s hs => by
  rcases mem_max.1 hs with hs | hs
  · rw [h, List.mem_singleton] at hs; subst hs; rfl
  · obtain ⟨r, _, x, _, rfl⟩ := mem_hp.1 hs; rfl
theorem der_max {p : Py} (h : p.stmts = [sA]) (y : Str) : DerN (maxS p) rR (txt y) ↔ y = [66] ∨ (rR ∈ hRoles p ∧ y ∈ ET p) := by
  rw [der_mem (one_kind h)]
  constructor
  · rintro ⟨s, hs, e1, e2⟩
    rcases mem_max.1 hs with hs | hs
    · rw [h, List.mem_singleton] at hs
      subst hs
      exact .inl (txt_one.1 e2.symm)
    · obtain ⟨r, hr, x, hx, rfl⟩ := mem_hp.1 hs
      have e3 : r = rR := e1
      have e4 : x = y := by
        have := congrArg bt (show txt x = txt y from e2)
        rwa [bt_txt, bt_txt] at this
      subst e3 e4
      exact .inr ⟨hr, hx⟩
  · rintro (rfl | ⟨hr, hy⟩)
    · exact ⟨sA, mem_max.2 (.inl (by rw [h]; simp)), rfl, rfl⟩
    · exact ⟨memP rR y, mem_max.2 (.inr (mem_hp.2 ⟨rR, hr, y, hy, rfl⟩)), rfl, rfl⟩
def RuE (p : Py) : List Ru := rulesOf (ET p) (NT p) (maxS p)
theorem mem_p : memT (ET pE) (NT pE) (RuE pE) rR = [[66]] :=
  eq_of_rising (memT_rising (et_up pE) _ _) (by simp) fun y => by
    unfold RuE
    rw [mem_memT (et_up pE) (max_ok rp_p), der_max rfl, mem_hr]
    simp [pE]
theorem mem_q : memT (ET qE) (NT qE) (RuE qE) rR = eT :=
  eq_of_rising (memT_rising (et_up qE) _ _) eT_up fun y => by
    unfold RuE
    rw [mem_memT (et_up qE) (max_ok rp_q), der_max rfl, mem_hr, et_first pt_q, nt_q]
    have h1 : bt rR.owner = [65] := rfl
    have h2 : bt rR.name = [114] := rfl
    rw [h1, h2]
    unfold eT
    simp [qE]
    intro h; exact .inr (.inl h)
theorem rl_ne : (RuE qE).filter (rightU (ET qE).length (NT qE).length) ≠ [] := by
  unfold RuE
  rw [rules_right (max_ok rp_q)]
  intro h
  have h2 : maxS qE = [] := List.map_eq_nil_iff.1 h
  have h3 : sA ∈ maxS qE := mem_max.2 (.inl (by simp [qE]))
  rw [h2] at h3
  cases h3
end Go.Proofs.YteabkbcbmimkgaaGreatDoor.HiN
namespace Go.Proofs.YteabkbcbmimkgaaGreatDoor.HiF
open Go.Shelf Go.RowKit Go.Sort Go.Lib Go.Proofs Plain SynP SynD2 SynD3 SynJ TabP Tab1 Tab5 PolA PolE PolG PolH PolLi PolOp TblB TblR LwH HiA
open StB (OwnPost OwnS)
abbrev nx6 := @LwH.nx
set_option maxHeartbeats 2000000 in
set_option maxRecDepth 100000 in
theorem maximal (p : Py) (A1 A2 A3 A4 : Option Addr) (c1 c2 c3 c4 : Nat) (w : World) (hw : Tab3.Pow w) (hf : Few p) (hc : Came p) (hp : PG w A1 A2 A3 A4 p) (hE : (ET p).length ≤ 7) (hN : (NT p).length ≤ 4) :
    Calls Tryz.prog 15 #[p.val A1 A2 A3 A4 c1 c2 c3 c4] w (OwnPost (maxS p) w) := by
  have HEv := Lib.hid (fun w' (hb : Below w.heap.size w w') => HiB.everybody p A1 A2 A3 A4 c1 c2 c3 c4 w' (Tab3.Pow.keep hw (Laid.pow_lt hw) hb) hf hc (hp.below hb))
  have HRo := Lib.hid (fun w' (hb : Below w.heap.size w w') => HiE.roles p A1 A2 A3 A4 c1 c2 c3 c4 w' (Tab3.Pow.keep hw (Laid.pow_lt hw) hb) hf hc (hp.below hb) hE hN)
  have hrl := hr_len hE hN
  have hfl := hp_len hE hN
  have HM3 : Hid (∀ A c B c' w', RG w' A (hRoles p) → SRow w' B (ET p) → Calls Tryz.prog 62 #[.func (.func 60) #[] #[], .slice A (hRoles p).length c, .slice B (ET p).length c'] w' (StA.SPost (hPairs p) w')) := Lib.hid (fun A c B c' w' h1 h2 => HiC.pairsS A B c c' (hRoles p) (ET p) w' (by omega) (by omega) h1 h2)
  have HM4 : Hid (∀ B c' w', Below w.heap.size w w' → SG w' B (hPairs p) → Calls Tryz.prog 61 #[.slice A1 p.stmts.length c1, .slice B (hPairs p).length c'] w' (OwnPost (maxS p) w')) := Lib.hid (fun B c' w' hb h => StF.union A1 B c1 c' p.stmts (hPairs p) w' (Nat.le_trans hf.n1 (by omega)) (by omega) (hp.below hb).s h)
  unfold Tab5.RowPost HiE.RolesPost StA.SPost OwnPost at *
  generalize maxS p = MX at *
  generalize hPairs p = FL at *
  generalize hRoles p = RR at *
  generalize ET p = EE at *
  obtain ⟨S, G, H, Q⟩ := p
  unfold Py.val at *
  dsimp only at *
  have hbX := (Below.refl w.heap.size w).alloc (Nat.le_refl _) (.cells #[.slice A1 S.length c1, .slice A2 G.length c2, .slice A3 H.length c3, .slice A4 Q.length c4] 26)
  have hcl := heap_alloc_new w (.cells #[.slice A1 S.length c1, .slice A2 G.length c2, .slice A3 H.length c3, .slice A4 Q.length c4] 26)
  have HB := Lib.hid hbX
  clear hbX hf hc hp hw hN hE hrl hfl
  go_enter Tryz.func15, Tryz.ntmps15
  go_upto_region 2 with fail
  obtain ⟨bp, hbp⟩ : ∃ bp, w.heap.size = bp := ⟨_, rfl⟩
  simp only [hbp] at hcl ⊢
  generalize w.alloc (.cells #[.slice A1 S.length c1, .slice A2 G.length c2, .slice A3 H.length c3, .slice A4 Q.length c4] 26) = w0 at *
  have HKK : Hid (∀ w', Below w0.heap.size w0 w' → Below w0.heap.size w0 w' ∧ (∀ o, w'.cell? ⟨bp, o, none⟩ = (#[.slice A1 S.length c1, .slice A2 G.length c2, .slice A3 H.length c3, .slice A4 Q.length c4] : Array Value)[o]?)) := Lib.hid (fun w' hb => ⟨hb, fun o => Lib.cell_of_heap ((hb.block bp (Array.getElem?_eq_some_iff.1 hcl).1).trans hcl) o⟩)
  have hst := HKK.out w0.drew ((Below.refl _ _).drew)
  have M1 := Lib.hid (fun w' (hb' : Below w0.heap.size w0 w') => HRo.out w' (nx6 HB.out hb'))
  have M2 := Lib.hid (fun w' (hb' : Below w0.heap.size w0 w') => HEv.out w' (nx6 HB.out hb'))
  have M4 : Hid (∀ B c' w', Below w0.heap.size w0 w' → SG w' B FL → Calls Tryz.prog 61 #[.slice A1 S.length c1, .slice B FL.length c'] w' fun e w'' => ∃ v, e = .returned v ∧ OwnS w.heap.size w'' v MX ∧ Below w'.heap.size w' w'') := Lib.hid (fun B c' w' hb hs => by
    refine (HM4.out B c' w' (nx6 HB.out hb) hs).mono ?_
    rintro e w'' ⟨v, rfl, ho, hb2⟩
    exact ⟨v, rfl, ho.mono (nx6 HB.out hb).size, hb2⟩)
  clear hcl HEv HRo HM4
  go_region_held3 (fun w' => Below w0.heap.size w0 w' ∧ (∀ o, w'.cell? ⟨bp, o, none⟩ = (#[.slice A1 S.length c1, .slice A2 G.length c2, .slice A3 H.length c3, .slice A4 Q.length c4] : Array Value)[o]?))
    (first | with_reducible exact hst | with_reducible assumption | exact HKK.out _ (nx6 (by apply And.left; with_reducible assumption) (by with_reducible assumption)) | exact HKK.out _ (nx6 (by apply And.left; with_reducible assumption) (LwL.below_alloc _ _)))
    (first | ((with_reducible refine (M1.out _ (by apply And.left; with_reducible assumption)).mono ?_); rintro e x1 ⟨Q1, q1, rfl, hr1, hb1⟩)
           | ((with_reducible refine (M2.out _ (by apply And.left; with_reducible assumption)).mono ?_); rintro e x2 ⟨v2, rfl, ho2, hb2⟩; obtain ⟨Q2, q2, rfl, _, hr2⟩ := SRow.of_own ho2)
           | ((with_reducible refine (HM3.out _ _ _ _ _ (by first | with_reducible exact hr1 | exact RG.below hr1 hb2) (by first | with_reducible exact hr2 | exact hr2.keep hb1)).mono ?_); rintro e x3 ⟨v3, rfl, ho3, hb3⟩; obtain ⟨Q3, q3, rfl⟩ := PolLi.own_n ho3; have hs3 := HiC.sg_of_own_ ho3)
           | ((with_reducible refine (M4.out _ _ _ (by apply And.left; with_reducible assumption) hs3).mono ?_); rintro e x4 ⟨v4, rfl, ho4, hb4⟩))
  all_goals rename_i hHeld
  all_goals (have HO := Lib.hid ho4; have HF := Lib.hid (nx6 HB.out hHeld.1); clear hHeld ho4; go_wp2_with fail; go_ret; exact ⟨_, rfl, by first | exact HO.out | (rw [← hbp]; exact HO.out), by first | exact HF.out | (rw [← hbp]; exact HF.out)⟩)
end Go.Proofs.YteabkbcbmimkgaaGreatDoor.HiF
