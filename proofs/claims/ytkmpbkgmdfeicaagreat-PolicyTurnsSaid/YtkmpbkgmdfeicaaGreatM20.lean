/- Is a role, a statement, in a row; the row with one more; by contract. -/
import Derived.Test.YtkmpbkgmdfeicaaGreatM19
import Derived.Maps.AppendAt
import Derived.Test.YtkmpbkgmdfeicaaGreatM10
import Derived.Deep.LoopGhost
import Derived.Deep.CutBlock
import Derived.BigQuiet
import Derived.IntWalk
import Derived.Deep.RegionWith
namespace Go.Proofs.YtkmpbkgmdfeicaaGreat.PolK
set_option linter.unusedVariables false
set_option linter.unusedSimpArgs false
open Go.RowKit Go.Sort Go.Lib Go.Proofs Go.Proofs.YtkmpbkgmdfeicaaGreat.Plain Go.Proofs.YtkmpbkgmdfeicaaGreat.SynP Go.Proofs.YtkmpbkgmdfeicaaGreat.Grown Go.Proofs.YtkmpbkgmdfeicaaGreat.SynC Go.Proofs.YtkmpbkgmdfeicaaGreat.SynD2 Go.Proofs.YtkmpbkgmdfeicaaGreat.SynD3 Go.Proofs.YtkmpbkgmdfeicaaGreat.SynJ Go.Proofs.YtkmpbkgmdfeicaaGreat.QryP Go.Proofs.YtkmpbkgmdfeicaaGreat.PolA Go.Proofs.YtkmpbkgmdfeicaaGreat.PolE Go.Proofs.YtkmpbkgmdfeicaaGreat.PolG
set_option linter.unusedVariables false
set_option linter.unusedSimpArgs false
def Rl.cellsL (r : Rl) : List Value := [.string r.owner, .string r.name]
def St.cellsL (s : St) : List Value := s.cells
def Rl.cellsA (r : Rl) : Array Value := #[.string r.owner, .string r.name]
def St.cellsA (s : St) : Array Value := s.cells.toArray
def addL {α : Type} [DecidableEq α] (T : List α) (x : α) : List α := if x ∈ T then T else T ++ [x]
theorem infoStB : (Tryz.prog.info? 46).map (fun i => (i.zero, i.size, i.bytes)) = some (some zeroS.val, 9, 136) := by kernel_rfl
theorem rg_of_own {w : World} {B : Nat} {A : Option Addr} {ca : Nat} {T : List Rl} (h : w.ownsRow B 44 2 (.slice A T.length ca) T.length (rcells T)) : RG w A T := by
  obtain ⟨A', c', e, hr⟩ := rat_own h
  injection e with e1
  subst e1
  exact RG.of_rat hr
theorem sg_of_own {w : World} {B : Nat} {A : Option Addr} {ca : Nat} {T : List St} (h : w.ownsRow B 46 9 (.slice A T.length ca) T.length (stCells T)) : SG w A T := by
  obtain ⟨A', c', e, _, hr⟩ := StRow.of_own h
  injection e with e1
  subst e1
  exact SG.of_row hr
theorem src_new {X : World} {n : Nat} (hn : X.heap.size = n) (cs : List Value) (t : TypeId) : ∀ ad, some (⟨n, 0, none⟩ : Addr) = some ad → ∀ j u, cs[j]? = some u → (X.alloc (.cells cs.toArray t)).cell? (ad.add j) = some u := by
  subst hn
  rintro ad e j u hu
  injection e with e
  subst e
  rw [add_off, Nat.zero_add, Lib.cell_of_heap (heap_alloc_new X _), List.getElem?_toArray]
  exact hu
set_option maxHeartbeats 1000000 in
set_option maxRecDepth 100000 in
theorem indexR (A : Option Addr) (ca : Nat) (T : List Rl) (x : Rl) (w : World) (hT : T.length ≤ 10000) (hA : RG w A T) :
    Calls Tryz.prog 242 #[.slice A T.length ca, x.val] w fun e w' => ∃ r : Int, e = .returned (.int .i64 r) ∧ decide (0 ≤ r) = decide (x ∈ T) ∧ Below w.heap.size w w' := by
  obtain ⟨o1, n1⟩ := x
  have hown : ∀ (wr : World), Below (w.heap.size + 1) (w.alloc (.cells #[.string o1, .string n1] 44)) wr → ∀ o, wr.cell? ⟨w.heap.size, o, none⟩ = (#[.string o1, .string n1] : Array Value)[o]? := fun wr hb o => box_cell hb o
  have HO := Lib.hid hown
  have HA := Lib.hid hA
  clear hown hA
  show Calls _ _ #[_, .agg #[.string o1, .string n1]] _ _
  go_enter Tryz.func242, Tryz.ntmps242
  go_wp2_with fail
  go_loopw [8] (fun i wr => ∃ k : Nat, k ≤ T.length ∧ i = .int .i64 k ∧ Hid ((⟨o1, n1⟩ : Rl) ∉ T.take k) ∧ Below (w.heap.size + 1) (w.alloc (.cells #[.string o1, .string n1] 44)) wr) (fun i _ => T.length - (intOf i).toNat)
  case atStart => exact ⟨0, by omega, rfl, Lib.hid (by simp), Below.refl _ _⟩
  case round =>
    obtain ⟨k, hk, rfl, hrun, hbel⟩ := hrel
    have hb0 := low hbel
    by_cases hlt : k < T.length
    · obtain ⟨g1, o1', rfl, hg1, h1⟩ := (HA.out.below hb0) (by omega)
      obtain ⟨a0, a1⟩ := h1 k hlt
      have hbo := HO.out _ hbel
      have p1 : (0 : Int) ≤ k := by omega
      have p2 : (k : Int) < T.length := by omega
      have hq := fun w => SynE.eqR o1 n1 T[k].owner T[k].name w
      clear h1
      by_cases he : (⟨o1, n1⟩ : Rl) = T[k]
      · have hfin : Hid (decide ((0 : Int) ≤ k) = decide ((⟨o1, n1⟩ : Rl) ∈ T)) := Lib.hid (by rw [decide_eq_true p1, decide_eq_true (he ▸ List.getElem_mem hlt)])
        rw [decide_eq_true (p := (⟨o1, n1⟩ : Rl) = ⟨T[k].owner, T[k].name⟩) he] at hq
        clear hrun he
        go_wp2_with fail
        go_quiet (fail)
        go_wp2_with fail
        go_ret
        exact ⟨k, rfl, hfin.out, below_drewN hb0 _⟩
      · have hnext : Hid ((⟨o1, n1⟩ : Rl) ∉ T.take (k + 1)) := Lib.hid (by
          rw [List.take_succ_eq_append_getElem hlt, List.mem_append, List.mem_singleton]
          rintro (h | h)
          · exact hrun.out h
          · exact he h)
        rw [decide_eq_false (p := (⟨o1, n1⟩ : Rl) = ⟨T[k].owner, T[k].name⟩) he] at hq
        clear hrun he
        go_wp2_with fail
        go_quiet (fail)
        go_wp2_with fail
        go_roundw
        case rel => exact ⟨k + 1, by omega, by go_num, hnext, below_drewN hbel _⟩
        case measure => simp [intOf]; omega
    · have hfin : Hid (decide ((0 : Int) ≤ -1) = decide ((⟨o1, n1⟩ : Rl) ∈ T)) := Lib.hid (by
        have := hrun.out
        rw [List.take_of_length_le (by omega)] at this
        rw [decide_eq_false this]; rfl)
      clear hrun
      go_wp2_with fail
      go_ret
      exact ⟨-1, rfl, hfin.out, hb0⟩
set_option maxRecDepth 100000 in
theorem hasR (A : Option Addr) (ca : Nat) (T : List Rl) (x : Rl) (w : World) (hT : T.length ≤ 10000) (hA : RG w A T) :
    Calls Tryz.prog 214 #[.slice A T.length ca, x.val] w fun e w' => e = .returned (.bool (decide (x ∈ T))) ∧ Below w.heap.size w w' := by
  have HI := Lib.hid (fun w' h => indexR A ca T x w' hT h)
  generalize decide (x ∈ T) = b at *
  obtain ⟨o1, n1⟩ := x
  have hI : ∀ w', RG w' A T → Calls Tryz.prog 242 #[.slice A T.length ca, .agg #[.string o1, .string n1]] w' fun e w'' => ∃ r : Int, e = .returned (.int .i64 r) ∧ decide (0 ≤ r) = b ∧ Below w'.heap.size w' w'' := HI.out
  have HI2 := Lib.hid hI
  have HA := Lib.hid (hA.below ((Below.refl _ w).alloc (Nat.le_refl _) (.cells #[.string o1, .string n1] 44)))
  clear hI HI hA
  show Calls _ _ #[_, .agg #[.string o1, .string n1]] _ _
  go_enter Tryz.func214, Tryz.ntmps214
  go_wp2_with fail
  refine (HI2.out _ HA.out).mono ?_
  rintro e w1 ⟨r, rfl, hr, hb⟩
  have HB := Lib.hid (((Below.refl w.heap.size w).alloc (Nat.le_refl _) (.cells #[.string o1, .string n1] 44)).trans (hb.mono (by simp)))
  have HR := Lib.hid hr
  clear hr hb
  go_wp2_with fail
  go_ret
  exact ⟨ret_bool HR.out, HB.out⟩
set_option maxRecDepth 100000 in
theorem withR (B : Nat) (A : Option Addr) (ca : Nat) (T : List Rl) (x : Rl) (w : World) (hT : T.length ≤ 9999) (hB : B ≤ w.heap.size) (hown : w.ownsRow B 44 2 (.slice A T.length ca) T.length (rcells T)) :
    Calls Tryz.prog 155 #[.slice A T.length ca, x.val] w fun e w' => ∃ v, e = .returned v ∧ w'.ownsRow B 44 2 v (addL T x).length (rcells (addL T x)) ∧ Below B w w' := by
  obtain ⟨i0, hi, hz0, hz1, hz2⟩ := info_parts infoRole
  have HI := Lib.hid (fun w' h => hasR A ca T x w' (by omega) h)
  have HO := Lib.hid hown
  have HA := Lib.hid ((rg_of_own hown).below ((Below.refl _ w).alloc (Nat.le_refl _) (.cells (Rl.cellsA x) 44)))
  by_cases hx : x ∈ T
  · have hadd : addL T x = T := if_pos hx
    rw [hadd]
    rw [decide_eq_true hx] at HI
    obtain ⟨o1, n1⟩ := x
    have hI : ∀ w', RG w' A T → Calls Tryz.prog 214 #[.slice A T.length ca, .agg #[.string o1, .string n1]] w' fun e w'' => e = .returned (.bool true) ∧ Below w'.heap.size w' w'' := HI.out
    have HI2 := Lib.hid hI
    clear hI HI hown hx hadd
    show Calls _ _ #[_, .agg #[.string o1, .string n1]] _ _
    go_enter Tryz.func155, Tryz.ntmps155
    go_wp2_with fail
    refine (HI2.out _ HA.out).mono ?_
    rintro e w1 ⟨rfl, hb⟩
    have hb2 := ((Below.refl w.heap.size w).alloc (Nat.le_refl _) (.cells #[.string o1, .string n1] 44)).trans (hb.mono (by simp))
    have HOW := Lib.hid (own_at HO.out hb2)
    have HB := Lib.hid (hb2.mono hB)
    clear hb hb2
    go_wp2_with fail
    go_ret
    exact ⟨_, rfl, HOW.out, HB.out⟩
  · have hadd : addL T x = T ++ [x] := if_neg hx
    rw [hadd]
    rw [decide_eq_false hx] at HI
    have hcl : rcells (T ++ [x]) = rcells T ++ Rl.cellsL x := by rw [rcells_app]; simp [rcells, Rl.cellsL]
    rw [hcl]
    obtain ⟨o1, n1⟩ := x
    have hI : ∀ w', RG w' A T → Calls Tryz.prog 214 #[.slice A T.length ca, .agg #[.string o1, .string n1]] w' fun e w'' => e = .returned (.bool false) ∧ Below w'.heap.size w' w'' := HI.out
    have HI2 := Lib.hid hI
    clear hI HI hown hx hadd hcl
    show Calls _ _ #[_, .agg #[.string o1, .string n1]] _ _
    go_enter Tryz.func155, Tryz.ntmps155
    go_wp2_with fail
    refine (HI2.out _ HA.out).mono ?_
    rintro e w1 ⟨rfl, hb⟩
    have hc : ∀ o, w1.cell? ⟨w.heap.size, o, none⟩ = (#[.string o1, .string n1] : Array Value)[o]? := fun o => by rw [hb.cell (by simp), Lib.cell_of_heap (heap_alloc_new w _)]; rfl
    have hb2 : Below w.heap.size w (w1.alloc (.cells #[.string o1, .string n1] 44)) := (((Below.refl w.heap.size w).alloc (Nat.le_refl _) (.cells #[.string o1, .string n1] 44)).trans (hb.mono (by simp))).alloc (by have := hb.size; simp at this; omega) _
    have hownW := own_at HO.out hb2
    have hbelW := hb2.mono hB
    have zW : B ≤ (w1.alloc (.cells #[.string o1, .string n1] 44)).heap.size := Nat.le_trans hB hb2.size
    have H1 := Lib.hid (src_new (X := w1) rfl [.string o1, .string n1] 44)
    clear hb hb2
    go_wp2_with (at_builtin; refine wpList_append_from _ rfl _ _ 23 rfl B 44 i0 (.agg #[.string ⟨#[]⟩, .string ⟨#[]⟩]) 2 32 Tryz.underlying23 hi hz0 hz1 hz2 rfl (by decide) _ _ _ rfl hownW (some ⟨w1.heap.size, 0, none⟩) 1 1 [.string o1, .string n1] rfl rfl (fun h => by cases h) H1.out (fun u hu => by simp at hu; rcases hu with rfl | rfl <;> rfl) (by unfold maxLen; omega) (by omega) zW ?_)
    intro v2 w3 hown3 hgrow
    have hbel3 := hbelW.grown hgrow zW (fun k hk => (hownW.lt k hk).1)
    have HO3 : Hid (w3.ownsRow B 44 2 v2 (T ++ [(⟨o1, n1⟩ : Rl)]).length (rcells T ++ [.string o1, .string n1])) := Lib.hid (by simpa using hown3)
    clear hownW hbelW hgrow hown3 hc
    go_wp2_with fail
    go_ret
    exact ⟨_, rfl, HO3.out, hbel3⟩
set_option maxHeartbeats 1000000 in
set_option maxRecDepth 100000 in
theorem indexS (A : Option Addr) (ca : Nat) (T : List St) (x : St) (w : World) (hT : T.length ≤ 10000) (hA : SG w A T) :
    Calls Tryz.prog 244 #[.slice A T.length ca, x.val] w fun e w' => ∃ r : Int, e = .returned (.int .i64 r) ∧ decide (0 ≤ r) = decide (x ∈ T) ∧ Below w.heap.size w w' := by
  obtain ⟨k1, ⟨ho, hn⟩, wh, ⟨ao, an⟩, ⟨bo, bn⟩, v⟩ := x
  have hown : ∀ (wr : World), Below (w.heap.size + 1) (w.alloc (.cells #[.int .i64 k1, .string ho, .string hn, .string wh, .string ao, .string an, .string bo, .string bn, .string v] 46)) wr → ∀ o, wr.cell? ⟨w.heap.size, o, none⟩ = (#[.int .i64 k1, .string ho, .string hn, .string wh, .string ao, .string an, .string bo, .string bn, .string v] : Array Value)[o]? := fun wr hb o => box_cell hb o
  have HO := Lib.hid hown
  have HA := Lib.hid hA
  clear hown hA
  show Calls _ _ #[_, .agg #[.int .i64 k1, .string ho, .string hn, .string wh, .string ao, .string an, .string bo, .string bn, .string v]] _ _
  go_enter Tryz.func244, Tryz.ntmps244
  go_wp2_with fail
  go_loopw [8] (fun i wr => ∃ k : Nat, k ≤ T.length ∧ i = .int .i64 k ∧ Hid ((⟨k1, ⟨ho, hn⟩, wh, ⟨ao, an⟩, ⟨bo, bn⟩, v⟩ : St) ∉ T.take k) ∧ Below (w.heap.size + 1) (w.alloc (.cells #[.int .i64 k1, .string ho, .string hn, .string wh, .string ao, .string an, .string bo, .string bn, .string v] 46)) wr) (fun i _ => T.length - (intOf i).toNat)
  case atStart => exact ⟨0, by omega, rfl, Lib.hid (by simp), Below.refl _ _⟩
  case round =>
    obtain ⟨k, hk, rfl, hrun, hbel⟩ := hrel
    have hb0 := low hbel
    by_cases hlt : k < T.length
    · obtain ⟨g1, o1', rfl, hg1, h1⟩ := (HA.out.below hb0) (by omega)
      obtain ⟨a0, a1, a2, a3, a4, a5, a6, a7, a8⟩ := h1 k hlt
      have hbo := HO.out _ hbel
      have p1 : (0 : Int) ≤ k := by omega
      have p2 : (k : Int) < T.length := by omega
      have hq := fun w => SynE.eqS k1 ho hn wh ao an bo bn v T[k].kind T[k].head.owner T[k].head.name T[k].who T[k].a.owner T[k].a.name T[k].b.owner T[k].b.name T[k].via w
      clear h1
      by_cases he : (⟨k1, ⟨ho, hn⟩, wh, ⟨ao, an⟩, ⟨bo, bn⟩, v⟩ : St) = T[k]
      · have hfin : Hid (decide ((0 : Int) ≤ k) = decide ((⟨k1, ⟨ho, hn⟩, wh, ⟨ao, an⟩, ⟨bo, bn⟩, v⟩ : St) ∈ T)) := Lib.hid (by rw [decide_eq_true p1, decide_eq_true (he ▸ List.getElem_mem hlt)])
        rw [decide_eq_true (p := (⟨k1, ⟨ho, hn⟩, wh, ⟨ao, an⟩, ⟨bo, bn⟩, v⟩ : St) = ⟨T[k].kind, ⟨T[k].head.owner, T[k].head.name⟩, T[k].who, ⟨T[k].a.owner, T[k].a.name⟩, ⟨T[k].b.owner, T[k].b.name⟩, T[k].via⟩) he] at hq
        clear hrun he
        go_wp2_with fail
        go_quiet (fail)
        go_wp2_with fail
        go_ret
        exact ⟨k, rfl, hfin.out, below_drewN hb0 _⟩
      · have hnext : Hid ((⟨k1, ⟨ho, hn⟩, wh, ⟨ao, an⟩, ⟨bo, bn⟩, v⟩ : St) ∉ T.take (k + 1)) := Lib.hid (by
          rw [List.take_succ_eq_append_getElem hlt, List.mem_append, List.mem_singleton]
          rintro (h | h)
          · exact hrun.out h
          · exact he h)
        rw [decide_eq_false (p := (⟨k1, ⟨ho, hn⟩, wh, ⟨ao, an⟩, ⟨bo, bn⟩, v⟩ : St) = ⟨T[k].kind, ⟨T[k].head.owner, T[k].head.name⟩, T[k].who, ⟨T[k].a.owner, T[k].a.name⟩, ⟨T[k].b.owner, T[k].b.name⟩, T[k].via⟩) he] at hq
        clear hrun he
        go_wp2_with fail
        go_quiet (fail)
        go_wp2_with fail
        go_roundw
        case rel => exact ⟨k + 1, by omega, by go_num, hnext, below_drewN hbel _⟩
        case measure => simp [intOf]; omega
    · have hfin : Hid (decide ((0 : Int) ≤ -1) = decide ((⟨k1, ⟨ho, hn⟩, wh, ⟨ao, an⟩, ⟨bo, bn⟩, v⟩ : St) ∈ T)) := Lib.hid (by
        have := hrun.out
        rw [List.take_of_length_le (by omega)] at this
        rw [decide_eq_false this]; rfl)
      clear hrun
      go_wp2_with fail
      go_ret
      exact ⟨-1, rfl, hfin.out, hb0⟩
set_option maxRecDepth 100000 in
theorem hasS (A : Option Addr) (ca : Nat) (T : List St) (x : St) (w : World) (hT : T.length ≤ 10000) (hA : SG w A T) :
    Calls Tryz.prog 219 #[.slice A T.length ca, x.val] w fun e w' => e = .returned (.bool (decide (x ∈ T))) ∧ Below w.heap.size w w' := by
  have HI := Lib.hid (fun w' h => indexS A ca T x w' hT h)
  generalize decide (x ∈ T) = b at *
  obtain ⟨k1, ⟨ho, hn⟩, wh, ⟨ao, an⟩, ⟨bo, bn⟩, v⟩ := x
  have hI : ∀ w', SG w' A T → Calls Tryz.prog 244 #[.slice A T.length ca, .agg #[.int .i64 k1, .string ho, .string hn, .string wh, .string ao, .string an, .string bo, .string bn, .string v]] w' fun e w'' => ∃ r : Int, e = .returned (.int .i64 r) ∧ decide (0 ≤ r) = b ∧ Below w'.heap.size w' w'' := HI.out
  have HI2 := Lib.hid hI
  have HA := Lib.hid (hA.below ((Below.refl _ w).alloc (Nat.le_refl _) (.cells #[.int .i64 k1, .string ho, .string hn, .string wh, .string ao, .string an, .string bo, .string bn, .string v] 46)))
  clear hI HI hA
  show Calls _ _ #[_, .agg #[.int .i64 k1, .string ho, .string hn, .string wh, .string ao, .string an, .string bo, .string bn, .string v]] _ _
  go_enter Tryz.func219, Tryz.ntmps219
  go_wp2_with fail
  refine (HI2.out _ HA.out).mono ?_
  rintro e w1 ⟨r, rfl, hr, hb⟩
  have HB := Lib.hid (((Below.refl w.heap.size w).alloc (Nat.le_refl _) (.cells #[.int .i64 k1, .string ho, .string hn, .string wh, .string ao, .string an, .string bo, .string bn, .string v] 46)).trans (hb.mono (by simp)))
  have HR := Lib.hid hr
  clear hr hb
  go_wp2_with fail
  go_ret
  exact ⟨ret_bool HR.out, HB.out⟩
set_option maxRecDepth 100000 in
theorem withS (B : Nat) (A : Option Addr) (ca : Nat) (T : List St) (x : St) (w : World) (hT : T.length ≤ 9999) (hB : B ≤ w.heap.size) (hown : w.ownsRow B 46 9 (.slice A T.length ca) T.length (stCells T)) :
    Calls Tryz.prog 157 #[.slice A T.length ca, x.val] w fun e w' => ∃ v, e = .returned v ∧ w'.ownsRow B 46 9 v (addL T x).length (stCells (addL T x)) ∧ Below B w w' := by
  obtain ⟨i0, hi, hz0, hz1, hz2⟩ := info_parts infoStB
  have HI := Lib.hid (fun w' h => hasS A ca T x w' (by omega) h)
  have HO := Lib.hid hown
  have HA := Lib.hid ((sg_of_own hown).below ((Below.refl _ w).alloc (Nat.le_refl _) (.cells (St.cellsA x) 46)))
  by_cases hx : x ∈ T
  · have hadd : addL T x = T := if_pos hx
    rw [hadd]
    rw [decide_eq_true hx] at HI
    obtain ⟨k1, ⟨ho, hn⟩, wh, ⟨ao, an⟩, ⟨bo, bn⟩, v⟩ := x
    have hI : ∀ w', SG w' A T → Calls Tryz.prog 219 #[.slice A T.length ca, .agg #[.int .i64 k1, .string ho, .string hn, .string wh, .string ao, .string an, .string bo, .string bn, .string v]] w' fun e w'' => e = .returned (.bool true) ∧ Below w'.heap.size w' w'' := HI.out
    have HI2 := Lib.hid hI
    clear hI HI hown hx hadd
    show Calls _ _ #[_, .agg #[.int .i64 k1, .string ho, .string hn, .string wh, .string ao, .string an, .string bo, .string bn, .string v]] _ _
    go_enter Tryz.func157, Tryz.ntmps157
    go_wp2_with fail
    refine (HI2.out _ HA.out).mono ?_
    rintro e w1 ⟨rfl, hb⟩
    have hb2 := ((Below.refl w.heap.size w).alloc (Nat.le_refl _) (.cells #[.int .i64 k1, .string ho, .string hn, .string wh, .string ao, .string an, .string bo, .string bn, .string v] 46)).trans (hb.mono (by simp))
    have HOW := Lib.hid (own_at HO.out hb2)
    have HB := Lib.hid (hb2.mono hB)
    clear hb hb2
    go_wp2_with fail
    go_ret
    exact ⟨_, rfl, HOW.out, HB.out⟩
  · have hadd : addL T x = T ++ [x] := if_neg hx
    rw [hadd]
    rw [decide_eq_false hx] at HI
    have hcl : stCells (T ++ [x]) = stCells T ++ St.cellsL x := by rw [stCells_app]; simp [stCells, St.cellsL]
    rw [hcl]
    obtain ⟨k1, ⟨ho, hn⟩, wh, ⟨ao, an⟩, ⟨bo, bn⟩, v⟩ := x
    have hI : ∀ w', SG w' A T → Calls Tryz.prog 219 #[.slice A T.length ca, .agg #[.int .i64 k1, .string ho, .string hn, .string wh, .string ao, .string an, .string bo, .string bn, .string v]] w' fun e w'' => e = .returned (.bool false) ∧ Below w'.heap.size w' w'' := HI.out
    have HI2 := Lib.hid hI
    clear hI HI hown hx hadd hcl
    show Calls _ _ #[_, .agg #[.int .i64 k1, .string ho, .string hn, .string wh, .string ao, .string an, .string bo, .string bn, .string v]] _ _
    go_enter Tryz.func157, Tryz.ntmps157
    go_wp2_with fail
    refine (HI2.out _ HA.out).mono ?_
    rintro e w1 ⟨rfl, hb⟩
    have hc : ∀ o, w1.cell? ⟨w.heap.size, o, none⟩ = (#[.int .i64 k1, .string ho, .string hn, .string wh, .string ao, .string an, .string bo, .string bn, .string v] : Array Value)[o]? := fun o => by rw [hb.cell (by simp), Lib.cell_of_heap (heap_alloc_new w _)]; rfl
    have hb2 : Below w.heap.size w (w1.alloc (.cells #[.int .i64 k1, .string ho, .string hn, .string wh, .string ao, .string an, .string bo, .string bn, .string v] 46)) := (((Below.refl w.heap.size w).alloc (Nat.le_refl _) (.cells #[.int .i64 k1, .string ho, .string hn, .string wh, .string ao, .string an, .string bo, .string bn, .string v] 46)).trans (hb.mono (by simp))).alloc (by have := hb.size; simp at this; omega) _
    have hownW := own_at HO.out hb2
    have hbelW := hb2.mono hB
    have zW : B ≤ (w1.alloc (.cells #[.int .i64 k1, .string ho, .string hn, .string wh, .string ao, .string an, .string bo, .string bn, .string v] 46)).heap.size := Nat.le_trans hB hb2.size
    have H1 := Lib.hid (src_new (X := w1) rfl [.int .i64 k1, .string ho, .string hn, .string wh, .string ao, .string an, .string bo, .string bn, .string v] 46)
    clear hb hb2
    go_wp2_with (at_builtin; refine wpList_append_from _ rfl _ _ 22 rfl B 46 i0 zeroS.val 9 136 Tryz.underlying22 hi hz0 hz1 hz2 rfl (by decide) _ _ _ rfl hownW (some ⟨w1.heap.size, 0, none⟩) 1 1 [.int .i64 k1, .string ho, .string hn, .string wh, .string ao, .string an, .string bo, .string bn, .string v] rfl rfl (fun h => by cases h) H1.out (fun u hu => by simp at hu; rcases hu with rfl | rfl | rfl | rfl | rfl | rfl | rfl | rfl | rfl <;> rfl) (by unfold maxLen; omega) (by omega) zW ?_)
    intro v2 w3 hown3 hgrow
    have hbel3 := hbelW.grown hgrow zW (fun k hk => (hownW.lt k hk).1)
    have HO3 : Hid (w3.ownsRow B 46 9 v2 (T ++ [(⟨k1, ⟨ho, hn⟩, wh, ⟨ao, an⟩, ⟨bo, bn⟩, v⟩ : St)]).length (stCells T ++ [.int .i64 k1, .string ho, .string hn, .string wh, .string ao, .string an, .string bo, .string bn, .string v])) := Lib.hid (by simpa using hown3)
    clear hownW hbelW hgrow hown3 hc
    go_wp2_with fail
    go_ret
    exact ⟨_, rfl, HO3.out, hbel3⟩
end Go.Proofs.YtkmpbkgmdfeicaaGreat.PolK
/- Rows of the call's own that lie beside one another: what an append leaves of the others. -/
namespace Go.Proofs.YtkmpbkgmdfeicaaGreat.PolO
set_option linter.unusedVariables false
set_option linter.unusedSimpArgs false
open Go.RowKit Go.Sort Go.Lib Go.Proofs Go.Proofs.YtkmpbkgmdfeicaaGreat.Plain Go.Proofs.YtkmpbkgmdfeicaaGreat.SynP Go.Proofs.YtkmpbkgmdfeicaaGreat.TabP Go.Proofs.YtkmpbkgmdfeicaaGreat.Tab1 Go.Proofs.YtkmpbkgmdfeicaaGreat.Grown Go.Proofs.YtkmpbkgmdfeicaaGreat.SynC Go.Proofs.YtkmpbkgmdfeicaaGreat.SynD2 Go.Proofs.YtkmpbkgmdfeicaaGreat.SynJ Go.Proofs.YtkmpbkgmdfeicaaGreat.QryP Go.Proofs.YtkmpbkgmdfeicaaGreat.PolA Go.Proofs.YtkmpbkgmdfeicaaGreat.PolE Go.Proofs.YtkmpbkgmdfeicaaGreat.PolG Go.Proofs.YtkmpbkgmdfeicaaGreat.PolK
set_option linter.unusedVariables false
set_option linter.unusedSimpArgs false
/-- The block of a row that was appended to: the old one, or one that is new. -/
def Moves (w : World) (b b' : Option Nat) : Prop := b' = b ∨ ∃ g, b' = some g ∧ w.heap.size ≤ g
section
variable {P : Program} (w : World)
theorem wpList_append_at {ops : Array Oper} {rest : List Oper} {o : Oper} {a : Act} {Q : Exit → Act → World → Prop} (hgd : o.guard = none) (s x : Operand) (t : TypeId)
    (ho : o.op = .call { callee := .builtin .append, args := #[s, x], argTypes := #[t, t] })
    (base : Nat) (e : TypeId) (i : TypeInfo) (z : Value) (size bytes : Nat) (ht : P.underlying t = some (.slice e)) (hi : P.info? e = some i) (hz : i.zero = some z)
    (hsize : i.size = size) (hby : i.bytes = bytes) (hzs : z.cells.size = size) (hsz : 0 < size) (v : Value) (n : Nat) (xs : List Value) (hs : a.eval s = v) (hown : w.ownsRow base e size v n xs)
    (ad : Addr) (m c : Nat) (news : List Value) (hx : a.eval x = .slice (some ad) m c) (hlen : news.length = m * size) (hA : ∀ ad', some ad = some ad' → ∀ j u, news[j]? = some u → w.cell? (ad'.add j) = some u) (h1 : ∀ u ∈ news, u.oneCell' = true)
    (h63 : n + m ≤ maxLen) (hbytes : (n + m) * bytes ≤ 140737488355328) (hbase : base ≤ w.heap.size)
    (h : ∀ v' w', w'.ownsRow base e size v' (n + m) (xs ++ news) → w.grownBy w' v.ownBlock → Moves w v.ownBlock v'.ownBlock → wpList P ops Q rest (a.put o.dst v') w') : wpList P ops Q (o :: rest) a w := by
  obtain ⟨v', w', hrun, h2, h3, _, h5⟩ := run_append_own_at (P := P) w base t o.type e i z size bytes ht hi hz hsize hby hzs hsz v n xs hown ad m c news hlen (hA ad rfl) h1 h63 hbytes hbase
  refine Lib.wpList_append_run w hgd s x t t ho v _ hs hx v' w' hrun (h v' w' h2 h3 ?_)
  rcases h5 with h | h
  · exact .inl h
  · exact .inr ⟨_, h, Nat.le_refl _⟩
end
/-- Beside one row all that lies stays. -/
theorem beside_own {w w' : World} {b : Option Nat} {base : Nat} {e : TypeId} {size : Nat} {v : Value} {n : Nat} {xs : List Value} (h : w.ownsRow base e size v n xs) (hg : w.grownBy w' b) (hd : ∀ g, v.ownBlock = some g → b ≠ some g) : w'.ownsRow base e size v n xs := by
  refine ⟨h.1, ?_⟩
  rcases h.2 with h0 | ⟨g, cap, cur, rfl, hB, hh, hc⟩
  · exact .inl h0
  · refine .inr ⟨g, cap, cur, rfl, hB, ?_, hc⟩
    have hlt : g < w.heap.size := (Array.getElem?_eq_some_iff.1 hh).1
    rw [hg.block g hlt (fun e => hd g rfl e.symm)]
    exact hh
theorem grown_trans {w w1 w2 : World} {b : Option Nat} (h : w.grownBy w1 b) (k : w1.grownBy w2 b) : w.grownBy w2 b :=
  ⟨k.os.trans h.os, k.tape.trans h.tape, k.output.trans h.output, Nat.le_trans h.size k.size, fun j hj hb => (k.block j (Nat.lt_of_lt_of_le hj h.size) hb).trans (h.block j hj hb)⟩
theorem grown_below {w w1 : World} {b : Option Nat} (h : Below w.heap.size w w1) : w.grownBy w1 b :=
  ⟨h.os, h.tape, h.output, h.size, fun j hj _ => h.block j hj⟩
theorem below_of_grown {w w1 : World} {b : Option Nat} {B : Nat} (h : w.grownBy w1 b) (hb : ∀ g, b = some g → B ≤ g) (hB : B ≤ w.heap.size) : Below B w w1 :=
  (Below.refl B w).grown h hB hb
set_option maxRecDepth 100000 in
theorem putR (B : Nat) (A : Option Addr) (ca : Nat) (T : List Rl) (x : Rl) (w : World) (hT : T.length ≤ 9999) (hB : B ≤ w.heap.size) (hown : w.ownsRow B 44 2 (.slice A T.length ca) T.length (rcells T)) :
    Calls Tryz.prog 155 #[.slice A T.length ca, x.val] w fun e w' => ∃ v, e = .returned v ∧ w'.ownsRow B 44 2 v (addL T x).length (rcells (addL T x)) ∧ w.grownBy w' (Value.slice A T.length ca).ownBlock ∧ Moves w (Value.slice A T.length ca).ownBlock v.ownBlock := by
  obtain ⟨i0, hi, hz0, hz1, hz2⟩ := info_parts infoRole
  have HI := Lib.hid (fun w' h => hasR A ca T x w' (by omega) h)
  have HO := Lib.hid hown
  have HA := Lib.hid ((rg_of_own hown).below ((Below.refl _ w).alloc (Nat.le_refl _) (.cells (Rl.cellsA x) 44)))
  by_cases hx : x ∈ T
  · have hadd : addL T x = T := if_pos hx
    rw [hadd]
    rw [decide_eq_true hx] at HI
    obtain ⟨o1, n1⟩ := x
    have hI : ∀ w', RG w' A T → Calls Tryz.prog 214 #[.slice A T.length ca, .agg #[.string o1, .string n1]] w' fun e w'' => e = .returned (.bool true) ∧ Below w'.heap.size w' w'' := HI.out
    have HI2 := Lib.hid hI
    clear hI HI hown hx hadd
    show Calls _ _ #[_, .agg #[.string o1, .string n1]] _ _
    go_enter Tryz.func155, Tryz.ntmps155
    go_wp2_with fail
    refine (HI2.out _ HA.out).mono ?_
    rintro e w1 ⟨rfl, hb⟩
    have hb2 := ((Below.refl w.heap.size w).alloc (Nat.le_refl _) (.cells #[.string o1, .string n1] 44)).trans (hb.mono (by simp))
    have HOW := Lib.hid (own_at HO.out hb2)
    have HB := Lib.hid (grown_below (b := (Value.slice A T.length ca).ownBlock) hb2)
    clear hb hb2
    go_wp2_with fail
    go_ret
    exact ⟨_, rfl, HOW.out, HB.out, .inl rfl⟩
  · have hadd : addL T x = T ++ [x] := if_neg hx
    rw [hadd]
    rw [decide_eq_false hx] at HI
    have hcl : rcells (T ++ [x]) = rcells T ++ Rl.cellsL x := by rw [rcells_app]; simp [rcells, Rl.cellsL]
    rw [hcl]
    obtain ⟨o1, n1⟩ := x
    have hI : ∀ w', RG w' A T → Calls Tryz.prog 214 #[.slice A T.length ca, .agg #[.string o1, .string n1]] w' fun e w'' => e = .returned (.bool false) ∧ Below w'.heap.size w' w'' := HI.out
    have HI2 := Lib.hid hI
    clear hI HI hown hx hadd hcl
    show Calls _ _ #[_, .agg #[.string o1, .string n1]] _ _
    go_enter Tryz.func155, Tryz.ntmps155
    go_wp2_with fail
    refine (HI2.out _ HA.out).mono ?_
    rintro e w1 ⟨rfl, hb⟩
    have hc : ∀ o, w1.cell? ⟨w.heap.size, o, none⟩ = (#[.string o1, .string n1] : Array Value)[o]? := fun o => by rw [hb.cell (by simp), Lib.cell_of_heap (heap_alloc_new w _)]; rfl
    have hb2 : Below w.heap.size w (w1.alloc (.cells #[.string o1, .string n1] 44)) := (((Below.refl w.heap.size w).alloc (Nat.le_refl _) (.cells #[.string o1, .string n1] 44)).trans (hb.mono (by simp))).alloc (by have := hb.size; simp at this; omega) _
    have hownW := own_at HO.out hb2
    have hbelW := hb2
    have hzz := hb2.size
    have zW : B ≤ (w1.alloc (.cells #[.string o1, .string n1] 44)).heap.size := Nat.le_trans hB hb2.size
    have H1 := Lib.hid (src_new (X := w1) rfl [.string o1, .string n1] 44)
    clear hb hb2
    go_wp2_with (at_builtin; refine wpList_append_at _ rfl _ _ 23 rfl B 44 i0 (.agg #[.string ⟨#[]⟩, .string ⟨#[]⟩]) 2 32 Tryz.underlying23 hi hz0 hz1 hz2 rfl (by decide) _ _ _ rfl hownW ⟨w1.heap.size, 0, none⟩ 1 1 [.string o1, .string n1] rfl rfl H1.out (fun u hu => by simp at hu; rcases hu with rfl | rfl <;> rfl) (by unfold maxLen; omega) (by omega) zW ?_)
    intro v2 w3 hown3 hgrow hmv
    have hbel3 := grown_trans (grown_below hbelW) hgrow
    have hmv2 : Moves w (Value.slice A T.length ca).ownBlock v2.ownBlock := by
      rcases hmv with h | ⟨g, h, hg⟩
      · exact .inl h
      · exact .inr ⟨g, h, Nat.le_trans hzz hg⟩
    have HO3 : Hid (w3.ownsRow B 44 2 v2 (T ++ [(⟨o1, n1⟩ : Rl)]).length (rcells T ++ [.string o1, .string n1])) := Lib.hid (by simpa using hown3)
    clear hownW hbelW hgrow hown3 hc hmv
    go_wp2_with fail
    go_ret
    exact ⟨_, rfl, HO3.out, hbel3, hmv2⟩
set_option maxRecDepth 100000 in
theorem putS (B : Nat) (A : Option Addr) (ca : Nat) (T : List St) (x : St) (w : World) (hT : T.length ≤ 9999) (hB : B ≤ w.heap.size) (hown : w.ownsRow B 46 9 (.slice A T.length ca) T.length (stCells T)) :
    Calls Tryz.prog 157 #[.slice A T.length ca, x.val] w fun e w' => ∃ v, e = .returned v ∧ w'.ownsRow B 46 9 v (addL T x).length (stCells (addL T x)) ∧ w.grownBy w' (Value.slice A T.length ca).ownBlock ∧ Moves w (Value.slice A T.length ca).ownBlock v.ownBlock := by
  obtain ⟨i0, hi, hz0, hz1, hz2⟩ := info_parts infoStB
  have HI := Lib.hid (fun w' h => hasS A ca T x w' (by omega) h)
  have HO := Lib.hid hown
  have HA := Lib.hid ((sg_of_own hown).below ((Below.refl _ w).alloc (Nat.le_refl _) (.cells (St.cellsA x) 46)))
  by_cases hx : x ∈ T
  · have hadd : addL T x = T := if_pos hx
    rw [hadd]
    rw [decide_eq_true hx] at HI
    obtain ⟨k1, ⟨ho, hn⟩, wh, ⟨ao, an⟩, ⟨bo, bn⟩, v⟩ := x
    have hI : ∀ w', SG w' A T → Calls Tryz.prog 219 #[.slice A T.length ca, .agg #[.int .i64 k1, .string ho, .string hn, .string wh, .string ao, .string an, .string bo, .string bn, .string v]] w' fun e w'' => e = .returned (.bool true) ∧ Below w'.heap.size w' w'' := HI.out
    have HI2 := Lib.hid hI
    clear hI HI hown hx hadd
    show Calls _ _ #[_, .agg #[.int .i64 k1, .string ho, .string hn, .string wh, .string ao, .string an, .string bo, .string bn, .string v]] _ _
    go_enter Tryz.func157, Tryz.ntmps157
    go_wp2_with fail
    refine (HI2.out _ HA.out).mono ?_
    rintro e w1 ⟨rfl, hb⟩
    have hb2 := ((Below.refl w.heap.size w).alloc (Nat.le_refl _) (.cells #[.int .i64 k1, .string ho, .string hn, .string wh, .string ao, .string an, .string bo, .string bn, .string v] 46)).trans (hb.mono (by simp))
    have HOW := Lib.hid (own_at HO.out hb2)
    have HB := Lib.hid (grown_below (b := (Value.slice A T.length ca).ownBlock) hb2)
    clear hb hb2
    go_wp2_with fail
    go_ret
    exact ⟨_, rfl, HOW.out, HB.out, .inl rfl⟩
  · have hadd : addL T x = T ++ [x] := if_neg hx
    rw [hadd]
    rw [decide_eq_false hx] at HI
    have hcl : stCells (T ++ [x]) = stCells T ++ St.cellsL x := by rw [stCells_app]; simp [stCells, St.cellsL]
    rw [hcl]
    obtain ⟨k1, ⟨ho, hn⟩, wh, ⟨ao, an⟩, ⟨bo, bn⟩, v⟩ := x
    have hI : ∀ w', SG w' A T → Calls Tryz.prog 219 #[.slice A T.length ca, .agg #[.int .i64 k1, .string ho, .string hn, .string wh, .string ao, .string an, .string bo, .string bn, .string v]] w' fun e w'' => e = .returned (.bool false) ∧ Below w'.heap.size w' w'' := HI.out
    have HI2 := Lib.hid hI
    clear hI HI hown hx hadd hcl
    show Calls _ _ #[_, .agg #[.int .i64 k1, .string ho, .string hn, .string wh, .string ao, .string an, .string bo, .string bn, .string v]] _ _
    go_enter Tryz.func157, Tryz.ntmps157
    go_wp2_with fail
    refine (HI2.out _ HA.out).mono ?_
    rintro e w1 ⟨rfl, hb⟩
    have hc : ∀ o, w1.cell? ⟨w.heap.size, o, none⟩ = (#[.int .i64 k1, .string ho, .string hn, .string wh, .string ao, .string an, .string bo, .string bn, .string v] : Array Value)[o]? := fun o => by rw [hb.cell (by simp), Lib.cell_of_heap (heap_alloc_new w _)]; rfl
    have hb2 : Below w.heap.size w (w1.alloc (.cells #[.int .i64 k1, .string ho, .string hn, .string wh, .string ao, .string an, .string bo, .string bn, .string v] 46)) := (((Below.refl w.heap.size w).alloc (Nat.le_refl _) (.cells #[.int .i64 k1, .string ho, .string hn, .string wh, .string ao, .string an, .string bo, .string bn, .string v] 46)).trans (hb.mono (by simp))).alloc (by have := hb.size; simp at this; omega) _
    have hownW := own_at HO.out hb2
    have hbelW := hb2
    have hzz := hb2.size
    have zW : B ≤ (w1.alloc (.cells #[.int .i64 k1, .string ho, .string hn, .string wh, .string ao, .string an, .string bo, .string bn, .string v] 46)).heap.size := Nat.le_trans hB hb2.size
    have H1 := Lib.hid (src_new (X := w1) rfl [.int .i64 k1, .string ho, .string hn, .string wh, .string ao, .string an, .string bo, .string bn, .string v] 46)
    clear hb hb2
    go_wp2_with (at_builtin; refine wpList_append_at _ rfl _ _ 22 rfl B 46 i0 zeroS.val 9 136 Tryz.underlying22 hi hz0 hz1 hz2 rfl (by decide) _ _ _ rfl hownW ⟨w1.heap.size, 0, none⟩ 1 1 [.int .i64 k1, .string ho, .string hn, .string wh, .string ao, .string an, .string bo, .string bn, .string v] rfl rfl H1.out (fun u hu => by simp at hu; rcases hu with rfl | rfl | rfl | rfl | rfl | rfl | rfl | rfl | rfl <;> rfl) (by unfold maxLen; omega) (by omega) zW ?_)
    intro v2 w3 hown3 hgrow hmv
    have hbel3 := grown_trans (grown_below hbelW) hgrow
    have hmv2 : Moves w (Value.slice A T.length ca).ownBlock v2.ownBlock := by
      rcases hmv with h | ⟨g, h, hg⟩
      · exact .inl h
      · exact .inr ⟨g, h, Nat.le_trans hzz hg⟩
    have HO3 : Hid (w3.ownsRow B 46 9 v2 (T ++ [(⟨k1, ⟨ho, hn⟩, wh, ⟨ao, an⟩, ⟨bo, bn⟩, v⟩ : St)]).length (stCells T ++ [.int .i64 k1, .string ho, .string hn, .string wh, .string ao, .string an, .string bo, .string bn, .string v])) := Lib.hid (by simpa using hown3)
    clear hownW hbelW hgrow hown3 hc hmv
    go_wp2_with fail
    go_ret
    exact ⟨_, rfl, HO3.out, hbel3, hmv2⟩
end Go.Proofs.YtkmpbkgmdfeicaaGreat.PolO
/- Plain mathematics: what a kind that a line's tokens go on as comes to, in the document's words. -/
namespace Go.Proofs.YtkmpbkgmdfeicaaGreat.QryRm
set_option linter.unusedVariables false
set_option linter.unusedSimpArgs false
open Go.RowKit Go.Sort Go.Proofs.YtkmpbkgmdfeicaaGreat.Plain Go.Proofs.YtkmpbkgmdfeicaaGreat.SynP Go.Proofs.YtkmpbkgmdfeicaaGreat.TabP Go.Proofs.YtkmpbkgmdfeicaaGreat.SynR Go.Proofs.YtkmpbkgmdfeicaaGreat.SynV Go.Proofs.YtkmpbkgmdfeicaaGreat.SynZ Go.Proofs.YtkmpbkgmdfeicaaGreat.QryP Go.Proofs.YtkmpbkgmdfeicaaGreat.Qry4 Go.Proofs.YtkmpbkgmdfeicaaGreat.Qry5 Go.Proofs.YtkmpbkgmdfeicaaGreat.Qry7 Go.Proofs.YtkmpbkgmdfeicaaGreat.QryA Go.Proofs.YtkmpbkgmdfeicaaGreat.QryB Go.Proofs.YtkmpbkgmdfeicaaGreat.QryC Go.Proofs.YtkmpbkgmdfeicaaGreat.QryD Go.Proofs.YtkmpbkgmdfeicaaGreat.QryM
theorem good1 {t : Tk} (h : goodTk t) (k : t.kind = 1) : named capB t.text.data.toList = true := by
  rcases h with h | h | h | h | h
  · exact h.2
  all_goals (have := h.1; omega)
theorem good2 {t : Tk} (h : goodTk t) (k : t.kind = 2) : named smallB t.text.data.toList = true := by
  rcases h with h | h | h | h | h
  · have := h.1; omega
  · exact h.2
  all_goals (have := h.1; omega)
theorem readW_lt : ∀ (L : List Tk) (T : List Str), (readW L T).2.2 = true → (readW L T).2.1 < L.length
  | [], T, h => by simp [readW] at h
  | t :: L, T, h => by
    unfold readW at h ⊢
    by_cases hk : t.kind = 1
    · rw [if_pos hk] at h ⊢
      by_cases hs : strOf t.text ∈ T
      · rw [if_pos hs] at h ⊢
        have := readW_lt L T h
        simp; omega
      · rw [if_neg hs] at h ⊢
        by_cases h12 : T.length = 12
        · rw [if_pos h12]; simp
        · rw [if_neg h12] at h ⊢
          have := readW_lt L _ h
          simp; omega
    · rw [if_neg hk] at h
      simp at h
theorem who_ok {L : List Tk} (hg : ∀ t ∈ L, goodTk t) : whoOk (readW L []).1 = true := by
  obtain ⟨a, b, _, d⟩ := readW_ok L [] (by simp) List.Pairwise.nil
  unfold whoOk
  have h1 : (readW L []).1.all prinS = true := by
    rw [List.all_eq_true]
    intro s hs
    rcases d s hs with h | ⟨t, ht, hk, rfl⟩
    · simp at h
    · exact good1 (hg t ht) hk
  rw [h1, decide_eq_true a, decide_eq_true (tab_id.2 b)]; rfl
theorem hit8 {k : Int} (hk : k = 5 ∨ k = 6) {L : List Tk} (hg : ∀ t ∈ L, goodTk t) (h : agreeF L (shapeF k) = (shapeF k).length) : agreeF L (shapeF k) = 8 ∧ 8 ≤ L.length ∧ lastQ L (readQ k L) = if 8 < L.length then (zeroQ, (SynQ.colAt L 8 : Int), 2) else (⟨k, ⟨textAt L 1, textAt L 3⟩, ⟨textAt L 5, textAt L 7⟩, []⟩, 0, 0) := by
  obtain ⟨s, hw, hsh, hB, hW⟩ := shape8 hk
  have h0 := h
  have hm : (shapeF k).length = 8 := by rw [hsh]; rfl
  rw [hsh] at h
  obtain ⟨t0, L1, rfl, a0, h⟩ := agreeF_cons h
  obtain ⟨t1, L2, rfl, a1, h⟩ := agreeF_cons h
  obtain ⟨t2, L3, rfl, a2, h⟩ := agreeF_cons h
  obtain ⟨t3, L4, rfl, a3, h⟩ := agreeF_cons h
  obtain ⟨t4, L5, rfl, a4, h⟩ := agreeF_cons h
  obtain ⟨t5, L6, rfl, a5, h⟩ := agreeF_cons h
  obtain ⟨t6, L7, rfl, a6, h⟩ := agreeF_cons h
  obtain ⟨t7, M, rfl, a7, h⟩ := agreeF_cons h
  have h8 : agreeF (t0 :: t1 :: t2 :: t3 :: t4 :: t5 :: t6 :: t7 :: M) (shapeF k) = 8 := by rw [h0, hm]
  refine ⟨h8, by simp, ?_⟩
  rw [read8_eq hk h8]
  have hr : Qy.right ⟨k, ⟨t1.text, t3.text⟩, ⟨t5.text, t7.text⟩, []⟩ = true := by
    have r1 := good1 (hg t1 (by simp)) (fitsK a1)
    have r3 := good2 (hg t3 (by simp)) (fitsK a3)
    have r5 := good1 (hg t5 (by simp)) (fitsK a5)
    have r7 := good2 (hg t7 (by simp)) (fitsK a7)
    rcases hk with rfl | rfl <;> simp [Qy.right, Rl.ok, r1, r3, r5, r7]
  have hl : (t0 :: t1 :: t2 :: t3 :: t4 :: t5 :: t6 :: t7 :: M).length = M.length + 8 := rfl
  rw [hl, hr]
  unfold lastQ placeOf
  rw [hl]
  by_cases hlt : 8 < M.length + 8
  · simp [hlt]
  · simp [hlt]; exact ⟨⟨rfl, rfl⟩, rfl, rfl⟩
theorem hit4 {L : List Tk} (hg : ∀ t ∈ L, goodTk t) (h : agreeF L (shapeF 4) = (shapeF 4).length) : agreeF L (shapeF 4) = 6 ∧ 6 ≤ L.length ∧ lastQ L (readQ 4 L) = if 6 < L.length then (zeroQ, (SynQ.colAt L 6 : Int), 2) else (⟨4, ⟨textAt L 1, textAt L 3⟩, zeroR, []⟩, 0, 0) := by
  obtain ⟨hsh, hB, hW⟩ := shape4
  have h0 := h
  have hm : (shapeF 4).length = 6 := by rw [hsh]; rfl
  rw [hsh] at h
  obtain ⟨t0, L1, rfl, a0, h⟩ := agreeF_cons h
  obtain ⟨t1, L2, rfl, a1, h⟩ := agreeF_cons h
  obtain ⟨t2, L3, rfl, a2, h⟩ := agreeF_cons h
  obtain ⟨t3, L4, rfl, a3, h⟩ := agreeF_cons h
  obtain ⟨t4, L5, rfl, a4, h⟩ := agreeF_cons h
  obtain ⟨t5, M, rfl, a5, h⟩ := agreeF_cons h
  have h6 : agreeF (t0 :: t1 :: t2 :: t3 :: t4 :: t5 :: M) (shapeF 4) = 6 := by rw [h0, hm]
  refine ⟨h6, by simp, ?_⟩
  rw [read4_eq h6]
  have hr : Qy.right ⟨4, ⟨t1.text, t3.text⟩, zeroR, []⟩ = true := by
    have r1 := good1 (hg t1 (by simp)) (fitsK a1)
    have r3 := good2 (hg t3 (by simp)) (fitsK a3)
    simp [Qy.right, Rl.ok, r1, r3]
  have hl : (t0 :: t1 :: t2 :: t3 :: t4 :: t5 :: M).length = M.length + 6 := rfl
  rw [hl, hr]
  unfold lastQ placeOf
  rw [hl]
  by_cases hlt : 6 < M.length + 6
  · simp [hlt]
  · simp [hlt]; exact ⟨rfl, rfl⟩
theorem hit3 {k : Int} (hk : k = 1 ∨ k = 2 ∨ k = 3) {L : List Tk} (hg : ∀ t ∈ L, goodTk t) (h : agreeF L (shapeF k) = (shapeF k).length) : agreeF L (shapeF k) = 5 ∧ 5 ≤ L.length ∧ lastQ L (readQ k L) = if (readW (L.drop 5) []).2.2 = true then (zeroQ, (SynQ.colAt L (5 + (readW (L.drop 5) []).2.1) : Int), 5) else if 5 + (readW (L.drop 5) []).2.1 < L.length then (zeroQ, (SynQ.colAt L (5 + (readW (L.drop 5) []).2.1) : Int), 2) else if k ≤ 2 ∧ (readW (L.drop 5) []).1.length = 0 then (zeroQ, (SynQ.behindOf L : Int), 3) else (⟨k, ⟨textAt L 1, textAt L 3⟩, zeroR, (readW (L.drop 5) []).1⟩, 0, 0) := by
  obtain ⟨s, hw, hsh, hB, hW⟩ := shape3 hk
  have h0 := h
  have hm : (shapeF k).length = 5 := by rw [hsh]; rfl
  rw [hsh] at h
  obtain ⟨t0, L1, rfl, a0, h⟩ := agreeF_cons h
  obtain ⟨t1, L2, rfl, a1, h⟩ := agreeF_cons h
  obtain ⟨t2, L3, rfl, a2, h⟩ := agreeF_cons h
  obtain ⟨t3, L4, rfl, a3, h⟩ := agreeF_cons h
  obtain ⟨t4, M, rfl, a4, h⟩ := agreeF_cons h
  have h5 : agreeF (t0 :: t1 :: t2 :: t3 :: t4 :: M) (shapeF k) = 5 := by rw [h0, hm]
  refine ⟨h5, by simp, ?_⟩
  rw [read3_eq hk h5]
  have hd : (t0 :: t1 :: t2 :: t3 :: t4 :: M).drop 5 = M := rfl
  have hl : (t0 :: t1 :: t2 :: t3 :: t4 :: M).length = M.length + 5 := rfl
  rw [hd, hl]
  have hlt := readW_lt M []
  have hle := (readW_ok M [] (by simp) List.Pairwise.nil).2.2.1
  have hwo := who_ok (L := M) (fun t ht => hg t (by simp [ht]))
  have r1 := good1 (hg t1 (by simp)) (fitsK a1)
  have r3 := good2 (hg t3 (by simp)) (fitsK a3)
  have hr : Qy.right ⟨k, ⟨t1.text, t3.text⟩, zeroR, (readW M []).1⟩ = !decide (k ≤ 2 ∧ (readW M []).1.length = 0) := by
    rcases hk with rfl | rfl | rfl <;> simp [Qy.right, Rl.ok, r1, r3, hwo, Nat.pos_iff_ne_zero]
  rw [hr]
  unfold lastQ placeOf
  rw [hl]
  generalize (readW M []).1 = T at *
  generalize (readW M []).2.1 = d at *
  generalize (readW M []).2.2 = m at *
  cases m
  · by_cases h1 : 5 + d < M.length + 5
    · simp [h1]
    · simp only [Bool.false_eq_true, if_false, if_neg h1]
      by_cases h2 : k ≤ 2 ∧ T.length = 0
      · rw [decide_eq_true h2, if_pos h2]; rfl
      · rw [decide_eq_false h2, if_neg h2]; rfl
  · have := hlt rfl
    simp only [if_true]
    rw [if_neg (by decide), if_pos (by omega)]
theorem putL_told {T : List Str} {s : Str} (h : s ∈ T) : Tab4.putL T s = T := by unfold Tab4.putL; rw [if_pos h]
theorem putL_new {T : List Str} {s : Str} (hT : T.Pairwise (· < ·)) (h : s ∉ T) : Tab4.putL T s = Qry8.putIn T s := by
  obtain ⟨a, b⟩ := Tab5.putL_rising (s := s) hT
  refine eq_of_rising a (Qry8.putIn_rising hT h) fun x => ?_
  rw [b, Qry8.mem_putIn, or_comm]
section
variable {k : Int} (hk : k = 1 ∨ k = 2 ∨ k = 3) {L : List Tk} (hg : ∀ t ∈ L, goodTk t) (h : agreeF L (shapeF k) = (shapeF k).length) {T : List Str} {m : Nat} (hm : 5 ≤ m)
include hk hg h hm
theorem fin3_many (hr : readW (L.drop 5) [] = addN (T, 0, true) (m - 5)) : lastQ L (readQ k L) = (zeroQ, (SynQ.colAt L m : Int), 5) := by
  rw [(hit3 hk hg h).2.2, hr]
  unfold addN
  simp only [if_true]
  rw [show 5 + (0 + (m - 5)) = m by omega]
theorem fin3_form (hr : readW (L.drop 5) [] = addN (T, 0, false) (m - 5)) (hlt : m < L.length) : lastQ L (readQ k L) = (zeroQ, (SynQ.colAt L m : Int), 2) := by
  rw [(hit3 hk hg h).2.2, hr]
  unfold addN
  simp only [Bool.false_eq_true, if_false]
  rw [show 5 + (0 + (m - 5)) = m by omega, if_pos hlt]
theorem fin3_end (hr : readW (L.drop 5) [] = addN (T, 0, false) (m - 5)) (hlt : ¬ m < L.length) (h0 : k ≤ 2 ∧ T.length = 0) : lastQ L (readQ k L) = (zeroQ, (SynQ.behindOf L : Int), 3) := by
  rw [(hit3 hk hg h).2.2, hr]
  unfold addN
  simp only [Bool.false_eq_true, if_false]
  rw [show 5 + (0 + (m - 5)) = m by omega, if_neg hlt, if_pos h0]
theorem fin3_ok (hr : readW (L.drop 5) [] = addN (T, 0, false) (m - 5)) (hlt : ¬ m < L.length) (h0 : ¬ (k ≤ 2 ∧ T.length = 0)) : lastQ L (readQ k L) = (⟨k, ⟨textAt L 1, textAt L 3⟩, zeroR, T⟩, 0, 0) := by
  rw [(hit3 hk hg h).2.2, hr]
  unfold addN
  simp only [Bool.false_eq_true, if_false]
  rw [show 5 + (0 + (m - 5)) = m by omega, if_neg hlt, if_neg h0]
end
end Go.Proofs.YtkmpbkgmdfeicaaGreat.QryRm
/- Restrictions, line by line: policy.restricts and restrict, by contract. -/
namespace Go.Proofs.YtkmpbkgmdfeicaaGreat.PolP
set_option linter.unusedVariables false
set_option linter.unusedSimpArgs false
open Go.RowKit Go.Sort Go.Lib Go.Proofs Go.Proofs.YtkmpbkgmdfeicaaGreat.Plain Go.Proofs.YtkmpbkgmdfeicaaGreat.SynP Go.Proofs.YtkmpbkgmdfeicaaGreat.TabP Go.Proofs.YtkmpbkgmdfeicaaGreat.Tab1 Go.Proofs.YtkmpbkgmdfeicaaGreat.Grown Go.Proofs.YtkmpbkgmdfeicaaGreat.SynA Go.Proofs.YtkmpbkgmdfeicaaGreat.SynC Go.Proofs.YtkmpbkgmdfeicaaGreat.SynE Go.Proofs.YtkmpbkgmdfeicaaGreat.SynR Go.Proofs.YtkmpbkgmdfeicaaGreat.SynS Go.Proofs.YtkmpbkgmdfeicaaGreat.SynU Go.Proofs.YtkmpbkgmdfeicaaGreat.SynV Go.Proofs.YtkmpbkgmdfeicaaGreat.SynX Go.Proofs.YtkmpbkgmdfeicaaGreat.SynJ Go.Proofs.YtkmpbkgmdfeicaaGreat.SynQ Go.Proofs.YtkmpbkgmdfeicaaGreat.QryP Go.Proofs.YtkmpbkgmdfeicaaGreat.Qry4 Go.Proofs.YtkmpbkgmdfeicaaGreat.Qry5 Go.Proofs.YtkmpbkgmdfeicaaGreat.QryB Go.Proofs.YtkmpbkgmdfeicaaGreat.QryD Go.Proofs.YtkmpbkgmdfeicaaGreat.PolA Go.Proofs.YtkmpbkgmdfeicaaGreat.PolE Go.Proofs.YtkmpbkgmdfeicaaGreat.PolG Go.Proofs.YtkmpbkgmdfeicaaGreat.PolK Go.Proofs.YtkmpbkgmdfeicaaGreat.PolO
set_option linter.unusedVariables false
set_option linter.unusedSimpArgs false
/-- Do the tokens begin with this word? -/
def leads (L : List Tk) (x : ByteArray) : Bool := match L with
  | [] => false
  | t :: _ => decide (t.kind = 2) && decide (t.text = x)
set_option maxRecDepth 100000 in
theorem restricts (A : Option Addr) (ca : Nat) (L : List Tk) (x : ByteArray) (w : World) (h0 : 0 < L.length) (hA : TkAt w A L) :
    Calls Tryz.prog 114 #[.slice A L.length ca, .string x] w fun e w' => e = .returned (.bool (leads L x)) ∧ w = w' := by
  obtain ⟨g, o, rfl, hg, hc⟩ := hA h0
  obtain ⟨a0, a1, _⟩ := hc 0 h0
  have e := text_eq L[0].text x
  have hl : leads L x = (decide (L[0].kind = 2) && decide (L[0].text = x)) := by
    cases L with
    | nil => simp at h0
    | cons t L => rfl
  rw [hl]
  have p2 : (0 : Int) < L.length := by omega
  rw [Nat.zero_mul, Nat.add_zero] at a0 a1
  generalize L[0] = t at *
  clear hc hl hA
  by_cases h2 : t.kind = 2
  · rw [decide_eq_true h2]
    have d1 : (t.kind == 2) = true := by simp [h2]
    by_cases hx : t.text = x
    · have d2 : (t.text.toList == x.toList) = true := by rw [hx]; simp
      rw [decide_eq_true hx]
      clear e h2 hx
      go_enter Tryz.func114, Tryz.ntmps114
      go_wp2_with fail
      go_ret
      exact ⟨rfl, rfl⟩
    · have d2 : (t.text.toList == x.toList) = false := by
        rw [beq_eq_false_iff_ne]
        intro h
        exact hx (e ▸ h)
      rw [decide_eq_false hx]
      clear e h2 hx
      go_enter Tryz.func114, Tryz.ntmps114
      go_wp2_with fail
      go_ret
      exact ⟨rfl, rfl⟩
  · rw [decide_eq_false h2]
    have d1 : (t.kind == 2) = false := by simpa using h2
    clear e h2
    go_enter Tryz.func114, Tryz.ntmps114
    go_wp2_with fail
    go_ret
    exact ⟨rfl, rfl⟩
def shapeG : List Ft := [.kind 2, .kind 1, .kind 3, .kind 2]
def kindsG : List Int := [2, 1, 3, 2]
theorem shapeG_at (k : Nat) (h : k < 4) (t : Tk) : (shapeG[k]'h).fits t = decide (t.kind = kindsG[k]'h) := by
  match k, h with
  | 0, _ => rfl
  | 1, _ => rfl
  | 2, _ => rfl
  | 3, _ => rfl
/-- What such a line comes to: the row with the role, or where it is wrong, and why. -/
def restM (R : List Rl) (L : List Tk) : List Rl × Int × Int :=
  let n := agreeF L shapeG
  if n < L.length then (R, (colAt L n : Int), 2) else if n < 4 then (R, (behindOf L : Int), 3) else (addL R ⟨QryB.textAt L 1, QryB.textAt L 3⟩, 0, 0)
def RestPost (b : Option Nat) (B : Nat) (r : List Rl × Int × Int) (w : World) (e : Ending) (w' : World) : Prop :=
  ∃ v, e = .returned (.tuple #[v, .int .i64 r.2.1, .int .i64 r.2.2]) ∧ w.grownBy w' b ∧ (∃ A n c, v = .slice A n c) ∧ (r.2.2 = 0 → w'.ownsRow B 44 2 v r.1.length (rcells r.1) ∧ Moves w b v.ownBlock)
set_option maxHeartbeats 2000000 in
set_option maxRecDepth 100000 in
theorem restrict (B : Nat) (A0 : Option Addr) (c0 : Nat) (R : List Rl) (A : Option Addr) (ca : Nat) (L : List Tk) (w : World) (hR : R.length ≤ 9999) (hB : B ≤ w.heap.size) (hown : w.ownsRow B 44 2 (.slice A0 R.length c0) R.length (rcells R)) (h0 : 0 < L.length) (hL : L.length ≤ 1000) (hca : L.length ≤ ca) (hs : SmallTk L) (hg : ∀ t ∈ L, goodTk t) (hA : TkAt w A L) :
    Calls Tryz.prog 115 #[.slice A0 R.length c0, .slice A L.length ca] w (RestPost (Value.slice A0 R.length c0).ownBlock B (restM R L) w) := by
  have hb0 := (Below.refl w.heap.size w).alloc (Nat.le_refl _) (.cells #[.int .i64 2, .int .i64 1, .int .i64 3, .int .i64 2] 3)
  have hm : ∀ q k, (h : k < 4) → ((w.alloc (.cells #[.int .i64 2, .int .i64 1, .int .i64 3, .int .i64 2] 3)).drewN q).cell? ⟨w.heap.size, k, none⟩ = some (.int .i64 (kindsG[k]'h)) := fun q k h => by
    show (w.alloc _).cell? _ = _
    rw [Lib.cell_of_heap (heap_alloc_new w _)]
    match k, h with
    | 0, _ => rfl
    | 1, _ => rfl
    | 2, _ => rfl
    | 3, _ => rfl
  have HM := Lib.hid hm
  have HO := Lib.hid (own_at hown hb0)
  obtain ⟨g, o, rfl, hg0, _⟩ := hA h0
  have HA := Lib.hid hA
  have HC : Hid (∀ j, (h : j < L.length) → (w.alloc (.cells #[.int .i64 2, .int .i64 1, .int .i64 3, .int .i64 2] 3)).cell? ⟨g, o + j * 3, none⟩ = some (.int .i64 L[j].kind) ∧ (w.alloc (.cells #[.int .i64 2, .int .i64 1, .int .i64 3, .int .i64 2] 3)).cell? ⟨g, o + j * 3 + 1, none⟩ = some (.string L[j].text) ∧ (w.alloc (.cells #[.int .i64 2, .int .i64 1, .int .i64 3, .int .i64 2] 3)).cell? ⟨g, o + j * 3 + 2, none⟩ = some (.int .i64 L[j].col)) := Lib.hid (by
    obtain ⟨g', o', e, _, hc⟩ := (hA.below hb0) h0
    injection e with e
    injection e with e1 e2
    subst e1; subst e2
    exact hc)
  have HB0 := Lib.hid hb0
  have Hs := Lib.hid hs
  have HG := Lib.hid hg
  clear hm hb0 hown hA hs hg
  go_enter Tryz.func115, Tryz.ntmps115
  go_upto_block 0 with fail
  go_cut [8] from 14 to 73 (fun n wx => n = .int .i64 (agreeF L shapeG : Nat) ∧ ∃ q, wx = (w.alloc (.cells #[.int .i64 2, .int .i64 1, .int .i64 3, .int .i64 2] 3)).drewN q)
  case first =>
    go_wp2_with fail
    go_loopw [8] (fun n wr => ∃ i : Nat, i ≤ L.length ∧ i ≤ 4 ∧ n = .int .i64 i ∧ Hid (agreeF L shapeG = i + agreeF (L.drop i) (shapeG.drop i)) ∧ ∃ q, wr = (w.alloc (.cells #[.int .i64 2, .int .i64 1, .int .i64 3, .int .i64 2] 3)).drewN q) (fun n _ => L.length - (intOf n).toNat)
    case atStart => exact ⟨0, by omega, by omega, rfl, Lib.hid (by simp), 0, rfl⟩
    case round =>
      obtain ⟨i, hi, hi4, rfl, hag, q, rfl⟩ := hrel
      have hcase : (i < L.length ∧ i < 4) ∨ ¬ i < L.length ∨ (i < L.length ∧ ¬ i < 4) := by omega
      rcases hcase with ⟨hlL, hlF⟩ | hlL | ⟨hlL, hlF⟩
      · have d1 : decide ((i : Int) < L.length) = true := by simp; omega
        have d2 : decide ((i : Int) < 4) = true := by simp; omega
        have e2 : (i : Int) < 4 := by omega
        have p1 : (0 : Int) ≤ i := by omega
        have p2 : (i : Int) < L.length := by omega
        obtain ⟨x0, _, _⟩ := HC.out i hlL
        have m0' : (w.alloc (.cells #[.int .i64 2, .int .i64 1, .int .i64 3, .int .i64 2] 3)).cell? ⟨w.heap.size, i, none⟩ = some (.int .i64 (kindsG[i]'hlF)) := HM.out 0 i hlF
        have hfit := shapeG_at i hlF L[i]
        have HY := Lib.hid (fun h => agreeF_yes (F := shapeG) hlL hlF h)
        have HN := Lib.hid (fun h => agreeF_no (F := shapeG) hlL hlF h)
        rw [hfit] at HY HN
        by_cases hk : L[i].kind = kindsG[i]'hlF
        · have d3 : (L[i].kind == kindsG[i]'hlF) = true := by simp [hk]
          have hnx : Hid (agreeF L shapeG = (i + 1) + agreeF (L.drop (i + 1)) (shapeG.drop (i + 1))) := Lib.hid (by rw [hag.out, HY.out (decide_eq_true hk)]; omega)
          clear hag HY HN hfit hk
          generalize L[i].kind = kd at *
          generalize kindsG[i]'hlF = kg at *
          go_wp2_with fail
          go_quiet (fail)
          go_wp2_with fail
          go_roundw
          case rel => exact ⟨i + 1, by omega, by omega, by go_num, hnx, _, rfl⟩
          case measure => simp [intOf]; omega
        · have d3 : (L[i].kind == kindsG[i]'hlF) = false := by simpa using hk
          have hfin : Hid (agreeF L shapeG = i) := Lib.hid (by rw [hag.out, HN.out (decide_eq_false hk)]; omega)
          clear hag HY HN hfit hk
          generalize L[i].kind = kd at *
          generalize kindsG[i]'hlF = kg at *
          go_wp2_with fail
          go_quiet (fail)
          go_wp2_with fail
          go_meet
          exact ⟨by rw [hfin.out], _, World.drewN_drewN _ _ _⟩
      · have d1 : decide ((i : Int) < L.length) = false := by simp; omega
        have hfin : Hid (agreeF L shapeG = i) := Lib.hid (by rw [hag.out, agreeF_end (by omega)]; omega)
        clear hag
        go_wp2_with fail
        go_quiet (fail)
        go_wp2_with fail
        go_meet
        exact ⟨by rw [hfin.out], _, World.drewN_drewN _ _ _⟩
      · have d1 : decide ((i : Int) < L.length) = true := by simp; omega
        have d2 : decide ((i : Int) < 4) = false := by simp; omega
        have e2 : ¬ (i : Int) < 4 := by omega
        have hfin : Hid (agreeF L shapeG = i) := Lib.hid (by rw [hag.out, agreeF_end (by show ¬ (_ ∧ i < 4); omega)]; omega)
        clear hag
        go_wp2_with fail
        go_quiet (fail)
        go_wp2_with fail
        go_meet
        exact ⟨by rw [hfin.out], _, World.drewN_drewN _ _ _⟩
  case rest =>
    obtain ⟨rfl, q, rfl⟩ := hcut
    have hle := agreeF_le L shapeG
    have hle4 : agreeF L shapeG ≤ 4 := hle.2
    have hleL := hle.1
    obtain ⟨i, hi⟩ : ∃ i, agreeF L shapeG = i := ⟨_, rfl⟩
    have hfin := Lib.hid hi
    rw [hi] at hle4 hleL ⊢
    clear hi hle
    by_cases hlt : i < L.length
    · have hM : Hid (restM R L = (R, (colAt L i : Int), 2)) := Lib.hid (by unfold restM; simp only []; rw [hfin.out, if_pos hlt])
      have d9 : decide ((i : Int) < L.length) = true := by simp; omega
      have q1 : (0 : Int) ≤ i := by omega
      have q2 : (i : Int) < L.length := by omega
      obtain ⟨_, _, x2⟩ := HC.out i hlt
      rw [← colAt_eq hlt] at x2
      generalize colAt L i = col at *
      clear hfin
      go_wp2_with fail
      go_quiet (fail)
      go_wp2_with fail
      exact bodyPost_ret (v := .tuple #[.slice none 0 0, .int .i64 col, .int .i64 2]) (by simp [results, Tryz.results115, go_sem]) rfl ⟨.slice none 0 0, by rw [hM.out], grown_below (below_drewN (below_drewN HB0.out _) _), ⟨none, 0, 0, rfl⟩, fun h => by rw [hM.out] at h; simp at h⟩
    · have d9 : decide ((i : Int) < L.length) = false := by simp; omega
      by_cases h4 : i < 4
      · have hM : Hid (restM R L = (R, (behindOf L : Int), 3)) := Lib.hid (by unfold restM; simp only []; rw [hfin.out, if_neg hlt, if_pos h4])
        have d8 : decide ((i : Int) < 4) = true := by simp; omega
        have d8' : (i : Int) < 4 := by omega
        have hbe := behindOf_last h0
        obtain ⟨m, hm⟩ : ∃ m, i = m + 1 := ⟨i - 1, by omega⟩
        have hmL : m < L.length := by omega
        have hLm : L.length - 1 = m := by omega
        obtain ⟨x0, x1, x2⟩ := HC.out m hmL
        obtain ⟨s1, s2⟩ := Hs.out L[m] (List.getElem_mem _)
        simp only [hLm] at hbe
        have HBE := Lib.hid hbe
        generalize L[m] = t at *
        subst hm
        have q0 : ((m + 1 : Nat) : Int) - 1 = m := by omega
        have q1 : (0 : Int) ≤ m := by omega
        have q2 : (m : Int) < L.length := by omega
        have q5 : IntKind.i64.wrap ((t.col : Int) + t.text.size) = (t.col : Int) + t.text.size := IntWalk.i64_in _ (by omega)
        have q6 : (0 : Int) ≤ ((m + 1 : Nat) : Int) - 1 := by omega
        have q7 : ((m + 1 : Nat) : Int) - 1 < L.length := by omega
        have q8 : (((m + 1 : Nat) : Int) - 1).toNat = m := by omega
        clear hfin hbe
        go_wp2_with fail
        go_quiet (fail)
        go_wp2_with fail
        refine bodyPost_ret (v := .tuple #[.slice none 0 0, .int .i64 ((t.col : Int) + t.text.size), .int .i64 3]) (by simp [results, Tryz.results115, go_sem]) rfl ⟨.slice none 0 0, by rw [hM.out, HBE.out]; simp, grown_below ?_, ⟨none, 0, 0, rfl⟩, fun h => by rw [hM.out] at h; simp at h⟩
        exact below_drewN ((below_drewN HB0.out _).alloc (by simp) _) _
      · have d8 : decide ((i : Int) < 4) = false := by simp; omega
        have d8' : ¬ (i : Int) < 4 := by omega
        have hM : Hid (restM R L = (addL R ⟨QryB.textAt L 1, QryB.textAt L 3⟩, 0, 0)) := Lib.hid (by unfold restM; simp only []; rw [hfin.out, if_neg hlt, if_neg h4])
        have hL4 : L.length = 4 := by omega
        have hag4 : agreeF L shapeG = 4 := by rw [hfin.out]; omega
        obtain ⟨t0, L1, e0, k0, hag4⟩ := agreeF_cons (F := [.kind 1, .kind 3, .kind 2]) hag4
        obtain ⟨t1, L2, e1, k1, hag4⟩ := agreeF_cons (F := [.kind 3, .kind 2]) hag4
        obtain ⟨t2, L3, e2, k2, hag4⟩ := agreeF_cons (F := [.kind 2]) hag4
        obtain ⟨t3, M, e3, k3, hag4⟩ := agreeF_cons (F := []) hag4
        have eM : M = [] := List.eq_nil_of_length_eq_zero (by rw [e0, e1, e2, e3] at hL4; simpa using hL4)
        have eL : L = [t0, t1, t2, t3] := by rw [e0, e1, e2, e3, eM]
        have HAw := Lib.hid (fun (w' : World) (h : Below w.heap.size w w') => HA.out.below h)
        have hRR : ∀ w', TkAt w' (some ⟨g, o, none⟩) L → Calls Tryz.prog 154 #[.slice (some ⟨g, o + 3, none⟩) 3 (ca - 1)] w' (RolePost t1 t3 [] w') := fun w' h => by
          rw [eL] at h
          have hsm := Hs.out
          rw [eL] at hsm
          have hgo := HG.out
          rw [eL] at hgo
          exact readGood (some ⟨g, o + 3, none⟩) (ca - 1) 3 t1 t2 t3 [] w' rfl (by omega) (by omega) (small_drop hsm 1) (hgo t1 (by simp)) (hgo t2 (by simp)) (hgo t3 (by simp)) (fitsK k1) (fitsK k2) (fitsK k3) (tk_tail h)
        have htx : QryB.textAt L 1 = t1.text ∧ QryB.textAt L 3 = t3.text := by rw [eL]; exact ⟨rfl, rfl⟩
        rw [htx.1, htx.2] at hM
        have HRR := Lib.hid hRR
        have HTk := Lib.hid (HAw.out _ (below_drewN HB0.out q))
        have HOq := Lib.hid (own_at HO.out (below_drewN (Below.refl _ _) q))
        have HBq := Lib.hid (below_drewN HB0.out q)
        have n1 : (1 : Int) ≤ L.length := by omega
        have n2 : (1 : Int) ≤ ca := by omega
        have n3 : ¬ ca = 1 := by omega
        have n4 : ¬ ca ≤ 1 := by omega
        have n5 : ¬ ca - 1 = 0 := by omega
        clear hfin e0 e1 e2 e3 eM eL hRR htx k0 k1 k2 k3 hag4
        go_wp2_with fail
        refine (HRR.out _ HTk.out).mono ?_
        rintro e w5 ⟨A5, c5, rfl, _, _, hb5, _⟩
        have hbW := (HBq.out.trans (hb5.mono HBq.out.size)).alloc (by have := hb5.size; have := HBq.out.size; omega) (.cells #[.string t1.text, .string t3.text] 44)
        have hownW := own_at HOq.out (hb5.alloc hb5.size (.cells #[.string t1.text, .string t3.text] 44))
        have HBW := Lib.hid hbW
        have hput := putR B A0 c0 R ⟨t1.text, t3.text⟩ _ hR (Nat.le_trans hB hbW.size) hownW
        have HPut : Hid (Calls Tryz.prog 155 #[.slice A0 R.length c0, .agg #[.string t1.text, .string t3.text]] (w5.alloc (.cells #[.string t1.text, .string t3.text] 44)) fun e w' => ∃ v, e = .returned v ∧ w'.ownsRow B 44 2 v (addL R ⟨t1.text, t3.text⟩).length (rcells (addL R ⟨t1.text, t3.text⟩)) ∧ (w5.alloc (.cells #[.string t1.text, .string t3.text] 44)).grownBy w' (Value.slice A0 R.length c0).ownBlock ∧ Moves (w5.alloc (.cells #[.string t1.text, .string t3.text] 44)) (Value.slice A0 R.length c0).ownBlock v.ownBlock) := Lib.hid hput
        clear hbW hownW hb5 hput
        go_wp2_with fail
        refine HPut.out.mono ?_
        rintro e w6 ⟨v6, rfl, hown6, hg6, hm6⟩
        obtain ⟨A6, c6, rfl, hr6⟩ := rat_own hown6
        have HO6 := Lib.hid hown6
        have HG6 := Lib.hid (grown_trans (grown_below HBW.out) hg6)
        have HM6 : Hid (Moves w (Value.slice A0 R.length c0).ownBlock (Value.slice A6 (addL R ⟨t1.text, t3.text⟩).length c6).ownBlock) := Lib.hid (by
          rcases hm6 with h | ⟨g, h, hg⟩
          · exact .inl h
          · exact .inr ⟨g, h, Nat.le_trans HBW.out.size hg⟩)
        clear hown6 hg6 hm6 hr6
        go_wp2_with fail
        exact bodyPost_ret (v := .tuple #[.slice A6 (addL R ⟨t1.text, t3.text⟩).length c6, .int .i64 0, .int .i64 0]) (by simp [results, Tryz.results115, go_sem]) rfl ⟨_, by rw [hM.out], HG6.out, ⟨A6, _, c6, rfl⟩, fun _ => by rw [hM.out]; exact ⟨HO6.out, HM6.out⟩⟩
end Go.Proofs.YtkmpbkgmdfeicaaGreat.PolP
/- A policy that is put together line by line: its three rows in one box; a statement more, by contract. -/
namespace Go.Proofs.YtkmpbkgmdfeicaaGreat.PolQ
set_option linter.unusedVariables false
set_option linter.unusedSimpArgs false
open Go.RowKit Go.Sort Go.Lib Go.Proofs Go.Proofs.YtkmpbkgmdfeicaaGreat.Plain Go.Proofs.YtkmpbkgmdfeicaaGreat.SynP Go.Proofs.YtkmpbkgmdfeicaaGreat.TabP Go.Proofs.YtkmpbkgmdfeicaaGreat.Tab1 Go.Proofs.YtkmpbkgmdfeicaaGreat.Grown Go.Proofs.YtkmpbkgmdfeicaaGreat.Scan3 Go.Proofs.YtkmpbkgmdfeicaaGreat.SynA Go.Proofs.YtkmpbkgmdfeicaaGreat.SynC Go.Proofs.YtkmpbkgmdfeicaaGreat.SynD2 Go.Proofs.YtkmpbkgmdfeicaaGreat.SynD3 Go.Proofs.YtkmpbkgmdfeicaaGreat.SynR Go.Proofs.YtkmpbkgmdfeicaaGreat.SynS Go.Proofs.YtkmpbkgmdfeicaaGreat.SynU Go.Proofs.YtkmpbkgmdfeicaaGreat.SynV Go.Proofs.YtkmpbkgmdfeicaaGreat.SynY Go.Proofs.YtkmpbkgmdfeicaaGreat.SynJ Go.Proofs.YtkmpbkgmdfeicaaGreat.SynQ Go.Proofs.YtkmpbkgmdfeicaaGreat.QryP Go.Proofs.YtkmpbkgmdfeicaaGreat.PolA Go.Proofs.YtkmpbkgmdfeicaaGreat.PolE Go.Proofs.YtkmpbkgmdfeicaaGreat.PolG Go.Proofs.YtkmpbkgmdfeicaaGreat.PolK Go.Proofs.YtkmpbkgmdfeicaaGreat.PolO
set_option linter.unusedVariables false
set_option linter.unusedSimpArgs false
/-- The rows of a draft without queries, in the box at D. -/
structure Draft (w : World) (B D : Nat) (A1 : Option Addr) (c1 : Nat) (A2 : Option Addr) (c2 : Nat) (A3 : Option Addr) (c3 : Nat) (S : List St) (G H : List Rl) : Prop where
  hD : D < B
  hB : B ≤ w.heap.size
  box : w.heap[D]? = some (.cells #[.slice A1 S.length c1, .slice A2 G.length c2, .slice A3 H.length c3, .slice none 0 0] 86 (0, 0))
  o1 : w.ownsRow B 46 9 (.slice A1 S.length c1) S.length (stCells S)
  o2 : w.ownsRow B 44 2 (.slice A2 G.length c2) G.length (rcells G)
  o3 : w.ownsRow B 44 2 (.slice A3 H.length c3) H.length (rcells H)
  dis : ∀ g, (Value.slice A2 G.length c2).ownBlock = some g → (Value.slice A3 H.length c3).ownBlock ≠ some g
theorem own_blk {w : World} {B : Nat} {e : TypeId} {size n : Nat} {v : Value} {xs : List Value} (h : w.ownsRow B e size v n xs) {g : Nat} (hg : v.ownBlock = some g) : B ≤ g ∧ g < w.heap.size ∧ ∃ cur, w.heap[g]? = some (.cells cur e (0, 0)) := by
  rcases h.2 with ⟨rfl, _⟩ | ⟨g', cap, cur, rfl, hB, hh, _⟩
  · simp [Value.ownBlock] at hg
  · simp [Value.ownBlock] at hg
    subst hg
    exact ⟨hB, (Array.getElem?_eq_some_iff.1 hh).1, cur, hh⟩
theorem own_apart {w : World} {B B' : Nat} {e e' : TypeId} {size n size' n' : Nat} {v v' : Value} {xs xs' : List Value} (h : w.ownsRow B e size v n xs) (h' : w.ownsRow B' e' size' v' n' xs') (hne : e ≠ e') : ∀ g, v.ownBlock = some g → v'.ownBlock ≠ some g := fun g hg hg' => by
  obtain ⟨_, _, c, hc⟩ := own_blk h hg
  obtain ⟨_, _, c', hc'⟩ := own_blk h' hg'
  rw [hc] at hc'
  injection hc' with hc'
  injection hc' with _ h2
  exact hne h2
theorem moves_apart {w : World} {b b' c : Option Nat} (hm : Moves w b b') (hbc : ∀ g, b = some g → c ≠ some g) (hc : ∀ g, c = some g → g < w.heap.size) : ∀ g, b' = some g → c ≠ some g := fun g hg hcg => by
  rcases hm with h | ⟨g', h, hge⟩
  · exact hbc g (h ▸ hg) hcg
  · rw [h] at hg
    injection hg with hg
    have := hc g hcg
    omega
theorem Draft.below {w w' : World} {B D : Nat} {A1 : Option Addr} {c1 : Nat} {A2 : Option Addr} {c2 : Nat} {A3 : Option Addr} {c3 : Nat} {S : List St} {G H : List Rl} (h : Draft w B D A1 c1 A2 c2 A3 c3 S G H) (hb : Below w.heap.size w w') : Draft w' B D A1 c1 A2 c2 A3 c3 S G H :=
  ⟨h.hD, Nat.le_trans h.hB hb.size, (hb.block D (Nat.lt_of_lt_of_le h.hD h.hB)).trans h.box, own_at h.o1 hb, own_at h.o2 hb, own_at h.o3 hb, h.dis⟩
theorem set_below {w : World} {B : Nat} {D i : Nat} (h : B ≤ D) (v : Value) : Below B w (w.setCell ⟨D, i, none⟩ v) := (Below.refl B w).setCell h v
theorem grown_box {w w' : World} {b : Option Nat} {D : Nat} {o : Obj} (hg : w.grownBy w' b) (hb : ∀ g, b = some g → D < g) (h : w.heap[D]? = some o) : w'.heap[D]? = some o := by
  rw [hg.block D (Array.getElem?_eq_some_iff.1 h).1 fun e => by have := hb D e.symm; omega]; exact h
theorem Draft.stmt {w w' : World} {B D : Nat} {A1 : Option Addr} {c1 : Nat} {A2 : Option Addr} {c2 : Nat} {A3 : Option Addr} {c3 : Nat} {S U : List St} {G H : List Rl} {A4 : Option Addr} {c4 : Nat} (h : Draft w B D A1 c1 A2 c2 A3 c3 S G H) (hg : w.grownBy w' (Value.slice A1 S.length c1).ownBlock)
    (ho : w'.ownsRow B 46 9 (.slice A4 U.length c4) U.length (stCells U)) : Draft (w'.setCell ⟨D, 0, none⟩ (.slice A4 U.length c4)) B D A4 c4 A2 c2 A3 c3 U G H := by
  have hp : (⟨D, 0, none⟩ : Addr).block < B := h.hD
  have hbx := grown_box hg (fun g e => Nat.lt_of_lt_of_le h.hD (own_blk h.o1 e).1) h.box
  refine ⟨h.hD, ?_, ?_, own_set ho hp _, own_set (beside_own h.o2 hg fun g e e' => own_apart h.o1 h.o2 (by show (_ : Nat) ≠ _; decide) g e' e) hp _, own_set (beside_own h.o3 hg fun g e e' => own_apart h.o1 h.o3 (by show (_ : Nat) ≠ _; decide) g e' e) hp _, h.dis⟩
  · rw [set_size]; exact Nat.le_trans h.hB hg.size
  · exact blk_set hbx 0 _
theorem Draft.grow {w w' : World} {B D : Nat} {A1 : Option Addr} {c1 : Nat} {A2 : Option Addr} {c2 : Nat} {A3 : Option Addr} {c3 : Nat} {S : List St} {G H U : List Rl} {A4 : Option Addr} {c4 : Nat} (h : Draft w B D A1 c1 A2 c2 A3 c3 S G H) (hg : w.grownBy w' (Value.slice A2 G.length c2).ownBlock)
    (ho : w'.ownsRow B 44 2 (.slice A4 U.length c4) U.length (rcells U)) (hm : Moves w (Value.slice A2 G.length c2).ownBlock (Value.slice A4 U.length c4).ownBlock) : Draft (w'.setCell ⟨D, 1, none⟩ (.slice A4 U.length c4)) B D A1 c1 A4 c4 A3 c3 S U H := by
  have hp : (⟨D, 1, none⟩ : Addr).block < B := h.hD
  have hbx := grown_box hg (fun g e => Nat.lt_of_lt_of_le h.hD (own_blk h.o2 e).1) h.box
  refine ⟨h.hD, ?_, ?_, own_set (beside_own h.o1 hg fun g e e' => own_apart h.o1 h.o2 (by show (_ : Nat) ≠ _; decide) g e e') hp _, own_set ho hp _, own_set (beside_own h.o3 hg fun g e e' => h.dis g e' e) hp _, moves_apart hm h.dis fun g e => (own_blk h.o3 e).2.1⟩
  · rw [set_size]; exact Nat.le_trans h.hB hg.size
  · exact blk_set hbx 1 _
theorem Draft.shrink {w w' : World} {B D : Nat} {A1 : Option Addr} {c1 : Nat} {A2 : Option Addr} {c2 : Nat} {A3 : Option Addr} {c3 : Nat} {S : List St} {G H U : List Rl} {A4 : Option Addr} {c4 : Nat} (h : Draft w B D A1 c1 A2 c2 A3 c3 S G H) (hg : w.grownBy w' (Value.slice A3 H.length c3).ownBlock)
    (ho : w'.ownsRow B 44 2 (.slice A4 U.length c4) U.length (rcells U)) (hm : Moves w (Value.slice A3 H.length c3).ownBlock (Value.slice A4 U.length c4).ownBlock) : Draft (w'.setCell ⟨D, 2, none⟩ (.slice A4 U.length c4)) B D A1 c1 A2 c2 A4 c4 S G U := by
  have hp : (⟨D, 2, none⟩ : Addr).block < B := h.hD
  have hbx := grown_box hg (fun g e => Nat.lt_of_lt_of_le h.hD (own_blk h.o3 e).1) h.box
  refine ⟨h.hD, ?_, ?_, own_set (beside_own h.o1 hg fun g e e' => own_apart h.o1 h.o3 (by show (_ : Nat) ≠ _; decide) g e e') hp _, own_set (beside_own h.o2 hg fun g e e' => h.dis g e e') hp _, own_set ho hp _, fun g e e' => moves_apart hm (fun g e e' => h.dis g e' e) (fun g e => (own_blk h.o2 e).2.1) g e' e⟩
  · rw [set_size]; exact Nat.le_trans h.hB hg.size
  · exact blk_set hbx 2 _
/-- All below B but the block D is as it was. -/
structure Beside (B D : Nat) (w w' : World) : Prop where
  os : w'.os = w.os
  tape : w'.tape = w.tape
  output : w'.output = w.output
  size : w.heap.size ≤ w'.heap.size
  block : ∀ k, k < B → k ≠ D → w'.heap[k]? = w.heap[k]?
theorem Beside.refl (B D : Nat) (w : World) : Beside B D w w := ⟨rfl, rfl, rfl, Nat.le_refl _, fun _ _ _ => rfl⟩
theorem Beside.trans {B D : Nat} {a b c : World} (h : Beside B D a b) (k : Beside B D b c) : Beside B D a c :=
  ⟨k.os.trans h.os, k.tape.trans h.tape, k.output.trans h.output, Nat.le_trans h.size k.size, fun j h1 h2 => (k.block j h1 h2).trans (h.block j h1 h2)⟩
theorem Beside.of_below {B D C : Nat} {a b : World} (h : Below C a b) (hB : B ≤ C) : Beside B D a b := ⟨h.os, h.tape, h.output, h.size, fun j h1 _ => h.block j (by omega)⟩
theorem Beside.grown {B D : Nat} {a b : World} {r : Option Nat} (h : a.grownBy b r) (hr : ∀ g, r = some g → B ≤ g) (hB : B ≤ a.heap.size) : Beside B D a b :=
  Beside.of_below (below_of_grown h hr hB) (Nat.le_refl _)
theorem Beside.set {B D : Nat} (a : World) (i : Nat) (v : Value) : Beside B D a (a.setCell ⟨D, i, none⟩ v) := by
  refine ⟨rfl, rfl, rfl, by rw [set_size]; exact Nat.le_refl _, fun k h1 h2 => ?_⟩
  unfold World.setCell
  simp only [Array.getElem?_modify]
  rw [if_neg (fun e : D = k => h2 e.symm)]
theorem Beside.drew {B D : Nat} {a b : World} (h : Beside B D a b) : Beside B D a b.drew := ⟨h.os, h.tape, h.output, h.size, h.block⟩
theorem Beside.low {B D : Nat} {a b : World} (h : Beside B D a b) (hD : D ≤ B) : Below D a b := ⟨h.os, h.tape, h.output, h.size, fun j hj => h.block j (by omega) (by omega)⟩
def StatePost (r : St × Int × Int) (B D : Nat) (A2 : Option Addr) (c2 : Nat) (A3 : Option Addr) (c3 : Nat) (S : List St) (G H : List Rl) (w : World) (e : Ending) (w' : World) : Prop :=
  e = .returned (.tuple #[.int .i64 r.2.1, .int .i64 r.2.2]) ∧ (∃ A c, Draft w' B D A c A2 c2 A3 c3 (addL S r.1) G H) ∧ Beside B D w w'
set_option maxHeartbeats 2000000 in
set_option maxRecDepth 100000 in
theorem state (B D : Nat) (A1 : Option Addr) (c1 : Nat) (A2 : Option Addr) (c2 : Nat) (A3 : Option Addr) (c3 : Nat) (S : List St) (G H : List Rl) (s : ByteArray) (w : World) (hS : S.length ≤ 9999) (hs : s.size ≤ 1000000) (hd : Draft w B D A1 c1 A2 c2 A3 c3 S G H) :
    Calls Tryz.prog 116 #[.pointer (some ⟨D, 0, none⟩), .string s] w (StatePost (parseA (ansOf s)) B D A2 c2 A3 c3 S G H w) := by
  have HP := Lib.hid (parse s w hs)
  have HD := Lib.hid hd
  obtain ⟨r, hr⟩ : ∃ r, parseA (ansOf s) = r := ⟨_, rfl⟩
  rw [hr] at HP ⊢
  clear hr
  obtain ⟨⟨k1, ⟨ho, hn⟩, wh, ⟨ao, an⟩, ⟨bo, bn⟩, v⟩, at_, why⟩ := r
  unfold ParsePost at HP
  unfold StatePost St.val at *
  simp only at *
  obtain ⟨U, hU⟩ : ∃ U, addL S ⟨k1, ⟨ho, hn⟩, wh, ⟨ao, an⟩, ⟨bo, bn⟩, v⟩ = U := ⟨_, rfl⟩
  rw [hU]
  have HU := Lib.hid hU
  clear hU
  have hDw := hd.hD
  have hBw := hd.hB
  clear hd
  go_enter Tryz.func116, Tryz.ntmps116
  go_wp2_with fail
  refine HP.out.mono ?_
  rintro e w1 ⟨rfl, hb1⟩
  have z1 := hb1.size
  have HD1 := Lib.hid ((HD.out.below hb1).below (((Below.refl _ w1).alloc (Nat.le_refl _) (.cells #[.int .i64 k1, .string ho, .string hn, .string wh, .string ao, .string an, .string bo, .string bn, .string v] 46))))
  have HB1 : Hid (Beside B D w (w1.alloc (.cells #[.int .i64 k1, .string ho, .string hn, .string wh, .string ao, .string an, .string bo, .string bn, .string v] 46))) := Lib.hid (Beside.of_below (hb1.trans ((Below.refl _ w1).alloc z1 (.cells #[.int .i64 k1, .string ho, .string hn, .string wh, .string ao, .string an, .string bo, .string bn, .string v] 46))) hBw)
  have hcD := fun o => Lib.cell_of_heap HD1.out.box o
  have hfD := blk_frozen HD1.out.box
  clear hb1
  go_wp2_with fail
  have hown1 := HD1.out.o1
  have hput := putS B A1 c1 S ⟨k1, ⟨ho, hn⟩, wh, ⟨ao, an⟩, ⟨bo, bn⟩, v⟩ (w1.alloc (.cells #[.int .i64 k1, .string ho, .string hn, .string wh, .string ao, .string an, .string bo, .string bn, .string v] 46)).drew hS HD1.out.hB hown1
  rw [HU.out] at hput
  have HPut : Hid (Calls Tryz.prog 157 #[.slice A1 S.length c1, .agg #[.int .i64 k1, .string ho, .string hn, .string wh, .string ao, .string an, .string bo, .string bn, .string v]] (w1.alloc (.cells #[.int .i64 k1, .string ho, .string hn, .string wh, .string ao, .string an, .string bo, .string bn, .string v] 46)).drew fun e w' => ∃ u, e = .returned u ∧ w'.ownsRow B 46 9 u U.length (stCells U) ∧ (w1.alloc (.cells #[.int .i64 k1, .string ho, .string hn, .string wh, .string ao, .string an, .string bo, .string bn, .string v] 46)).drew.grownBy w' (Value.slice A1 S.length c1).ownBlock ∧ Moves (w1.alloc (.cells #[.int .i64 k1, .string ho, .string hn, .string wh, .string ao, .string an, .string bo, .string bn, .string v] 46)).drew (Value.slice A1 S.length c1).ownBlock u.ownBlock) := Lib.hid hput
  have hDg : ∀ g, (Value.slice A1 S.length c1).ownBlock = some g → D < g := fun g e => Nat.lt_of_lt_of_le hDw (own_blk hown1 e).1
  have HDg := Lib.hid hDg
  have HDg2 := Lib.hid (fun g (e : (Value.slice A1 S.length c1).ownBlock = some g) => (own_blk hown1 e).1)
  have HBX := Lib.hid HD1.out.box
  clear hput hown1 hDg
  go_region_with ((go_at_call 157; refine HPut.out.mono ?_; rintro e w3 ⟨u3, rfl, hown3, hg3, hm3⟩; obtain ⟨A4, c4, rfl, _, _⟩ := StRow.of_own hown3; have hbx3 := grown_box hg3 HDg.out HBX.out; have hc3 := fun o => Lib.cell_of_heap hbx3 o; have hf3 := blk_frozen hbx3))
  all_goals
    have HD4 := Lib.hid (Draft.stmt (HD1.out.below ((Below.refl _ _).drew)) hg3 hown3)
    have hb4 := (HB1.out.drew.trans (Beside.grown hg3 (fun g e => HDg2.out g e) (Nat.le_trans hBw HB1.out.size))).trans (Beside.set (B := B) _ 0 (.slice A4 U.length c4))
    have HB4 := Lib.hid hb4
    clear hb4 hbx3 hc3 hf3 hown3 hg3 hm3 hcD hfD
    go_wp2_with fail
    exact bodyPost_ret (v := .tuple #[.int .i64 at_, .int .i64 why]) (by simp [results, Tryz.results116, go_sem]) rfl ⟨rfl, ⟨A4, c4, HD4.out⟩, HB4.out⟩
end Go.Proofs.YtkmpbkgmdfeicaaGreat.PolQ
