/- Is a role, a statement, in a row; the row with one more; by contract. -/
import Derived.Test.YtpjacngbkohmdaaM20
import Derived.Test.YtpjacngbkohmdaaM05
namespace Go.Proofs.Ytpjacngbkohmdaa.PolK
set_option linter.unusedVariables false
set_option linter.unusedSimpArgs false
open Go.RowKit Go.Sort Go.Lib Go.Proofs Go.Proofs.Ytpjacngbkohmdaa.Plain Go.Proofs.Ytpjacngbkohmdaa.SynP Go.Proofs.Ytpjacngbkohmdaa.Grown Go.Proofs.Ytpjacngbkohmdaa.SynC Go.Proofs.Ytpjacngbkohmdaa.SynD2 Go.Proofs.Ytpjacngbkohmdaa.SynD3 Go.Proofs.Ytpjacngbkohmdaa.SynJ Go.Proofs.Ytpjacngbkohmdaa.QryP Go.Proofs.Ytpjacngbkohmdaa.PolA Go.Proofs.Ytpjacngbkohmdaa.PolE Go.Proofs.Ytpjacngbkohmdaa.PolG
set_option linter.unusedVariables false
set_option linter.unusedSimpArgs false
def Rl.cellsL (r : Rl) : List Value := [.string r.owner, .string r.name]
def St.cellsL (s : St) : List Value := s.cells
def Rl.cellsA (r : Rl) : Array Value := #[.string r.owner, .string r.name]
def St.cellsA (s : St) : Array Value := s.cells.toArray
def addL {α : Type} [DecidableEq α] (T : List α) (x : α) : List α := if x ∈ T then T else T ++ [x]
theorem infoStB : (Try.prog.info? 26).map (fun i => (i.zero, i.size, i.bytes)) = some (some zeroS.val, 9, 136) := by kernel_rfl
theorem rg_of_own {w : World} {B : Nat} {A : Option Addr} {ca : Nat} {T : List Rl} (h : w.ownsRow B 24 2 (.slice A T.length ca) T.length (rcells T)) : RG w A T := by
  obtain ⟨A', c', e, hr⟩ := rat_own h
  injection e with e1
  subst e1
  exact RG.of_rat hr
theorem sg_of_own {w : World} {B : Nat} {A : Option Addr} {ca : Nat} {T : List St} (h : w.ownsRow B 26 9 (.slice A T.length ca) T.length (stCells T)) : SG w A T := by
  obtain ⟨A', c', e, _, hr⟩ := StRow.of_own h
  injection e with e1
  subst e1
  exact SG.of_row hr
theorem src_new {X : World} {n : Nat} (hn : X.heap.size = n) (cs : List Value) (t : TypeId) : ∀ ad, some (⟨n, 0, none⟩ : Addr) = some ad → ∀ j u, cs[j]? = some u → (X.alloc (.cells cs.toArray t)).cell? (ad.add j) = some u := by
  subst hn
  rintro ad e j u hu
  injection e with e
  subst e
  rw [add_off, Nat.zero_add, Lib.cell_of_heap (heap_alloc_new X _), List.getElem?_toArray]
  exact hu
set_option maxHeartbeats 1000000 in
set_option maxRecDepth 100000 in
theorem indexR (A : Option Addr) (ca : Nat) (T : List Rl) (x : Rl) (w : World) (hT : T.length ≤ 10000) (hA : RG w A T) :
    Calls Try.prog 85 #[.slice A T.length ca, x.val] w fun e w' => ∃ r : Int, e = .returned (.int .i64 r) ∧ decide (0 ≤ r) = decide (x ∈ T) ∧ Below w.heap.size w w' := by
  obtain ⟨o1, n1⟩ := x
  have hown : ∀ (wr : World), Below (w.heap.size + 1) (w.alloc (.cells #[.string o1, .string n1] 24)) wr → ∀ o, wr.cell? ⟨w.heap.size, o, none⟩ = (#[.string o1, .string n1] : Array Value)[o]? := fun wr hb o => box_cell hb o
  have HO := Lib.hid hown
  have HA := Lib.hid hA
  clear hown hA
  show Calls _ _ #[_, .agg #[.string o1, .string n1]] _ _
  go_enter Try.func85, Try.ntmps85
  go_wp2_with fail
  go_loopw [8] (fun i wr => ∃ k : Nat, k ≤ T.length ∧ i = .int .i64 k ∧ Hid ((⟨o1, n1⟩ : Rl) ∉ T.take k) ∧ Below (w.heap.size + 1) (w.alloc (.cells #[.string o1, .string n1] 24)) wr) (fun i _ => T.length - (intOf i).toNat)
  case atStart => exact ⟨0, by omega, rfl, Lib.hid (by simp), Below.refl _ _⟩
  case round =>
    obtain ⟨k, hk, rfl, hrun, hbel⟩ := hrel
    have hb0 := low hbel
    by_cases hlt : k < T.length
    · obtain ⟨g1, o1', rfl, hg1, h1⟩ := (HA.out.below hb0) (by omega)
      obtain ⟨a0, a1⟩ := h1 k hlt
      have hbo := HO.out _ hbel
      have p1 : (0 : Int) ≤ k := by omega
      have p2 : (k : Int) < T.length := by omega
      have hq := fun w => SynE.eqR o1 n1 T[k].owner T[k].name w
      clear h1
      by_cases he : (⟨o1, n1⟩ : Rl) = T[k]
      · have hfin : Hid (decide ((0 : Int) ≤ k) = decide ((⟨o1, n1⟩ : Rl) ∈ T)) := Lib.hid (by rw [decide_eq_true p1, decide_eq_true (he ▸ List.getElem_mem hlt)])
        rw [decide_eq_true (p := (⟨o1, n1⟩ : Rl) = ⟨T[k].owner, T[k].name⟩) he] at hq
        clear hrun he
        go_wp2_with fail
        go_quiet (fail)
        go_wp2_with fail
        go_ret
        exact ⟨k, rfl, hfin.out, below_drewN hb0 _⟩
      · have hnext : Hid ((⟨o1, n1⟩ : Rl) ∉ T.take (k + 1)) := Lib.hid (by
          rw [List.take_succ_eq_append_getElem hlt, List.mem_append, List.mem_singleton]
          rintro (h | h)
          · exact hrun.out h
          · exact he h)
        rw [decide_eq_false (p := (⟨o1, n1⟩ : Rl) = ⟨T[k].owner, T[k].name⟩) he] at hq
        clear hrun he
        go_wp2_with fail
        go_quiet (fail)
        go_wp2_with fail
        go_roundw
        case rel => exact ⟨k + 1, by omega, by go_num, hnext, below_drewN hbel _⟩
        case measure => simp [intOf]; omega
    · have hfin : Hid (decide ((0 : Int) ≤ -1) = decide ((⟨o1, n1⟩ : Rl) ∈ T)) := Lib.hid (by
        have := hrun.out
        rw [List.take_of_length_le (by omega)] at this
        rw [decide_eq_false this]; rfl)
      clear hrun
      go_wp2_with fail
      go_ret
      exact ⟨-1, rfl, hfin.out, hb0⟩
set_option maxRecDepth 100000 in
theorem hasR (A : Option Addr) (ca : Nat) (T : List Rl) (x : Rl) (w : World) (hT : T.length ≤ 10000) (hA : RG w A T) :
    Calls Try.prog 69 #[.slice A T.length ca, x.val] w fun e w' => e = .returned (.bool (decide (x ∈ T))) ∧ Below w.heap.size w w' := by
  have HI := Lib.hid (fun w' h => indexR A ca T x w' hT h)
  generalize decide (x ∈ T) = b at *
  obtain ⟨o1, n1⟩ := x
  have hI : ∀ w', RG w' A T → Calls Try.prog 85 #[.slice A T.length ca, .agg #[.string o1, .string n1]] w' fun e w'' => ∃ r : Int, e = .returned (.int .i64 r) ∧ decide (0 ≤ r) = b ∧ Below w'.heap.size w' w'' := HI.out
  have HI2 := Lib.hid hI
  have HA := Lib.hid (hA.below ((Below.refl _ w).alloc (Nat.le_refl _) (.cells #[.string o1, .string n1] 24)))
  clear hI HI hA
  show Calls _ _ #[_, .agg #[.string o1, .string n1]] _ _
  go_enter Try.func69, Try.ntmps69
  go_wp2_with fail
  refine (HI2.out _ HA.out).mono ?_
  rintro e w1 ⟨r, rfl, hr, hb⟩
  have HB := Lib.hid (((Below.refl w.heap.size w).alloc (Nat.le_refl _) (.cells #[.string o1, .string n1] 24)).trans (hb.mono (by simp)))
  have HR := Lib.hid hr
  clear hr hb
  go_wp2_with fail
  go_ret
  exact ⟨ret_bool HR.out, HB.out⟩
set_option maxHeartbeats 1000000 in
set_option maxRecDepth 100000 in
theorem indexS (A : Option Addr) (ca : Nat) (T : List St) (x : St) (w : World) (hT : T.length ≤ 10000) (hA : SG w A T) :
    Calls Try.prog 62 #[.slice A T.length ca, x.val] w fun e w' => ∃ r : Int, e = .returned (.int .i64 r) ∧ decide (0 ≤ r) = decide (x ∈ T) ∧ Below w.heap.size w w' := by
  obtain ⟨k1, ⟨ho, hn⟩, wh, ⟨ao, an⟩, ⟨bo, bn⟩, v⟩ := x
  have hown : ∀ (wr : World), Below (w.heap.size + 1) (w.alloc (.cells #[.int .i64 k1, .string ho, .string hn, .string wh, .string ao, .string an, .string bo, .string bn, .string v] 26)) wr → ∀ o, wr.cell? ⟨w.heap.size, o, none⟩ = (#[.int .i64 k1, .string ho, .string hn, .string wh, .string ao, .string an, .string bo, .string bn, .string v] : Array Value)[o]? := fun wr hb o => box_cell hb o
  have HO := Lib.hid hown
  have HA := Lib.hid hA
  clear hown hA
  show Calls _ _ #[_, .agg #[.int .i64 k1, .string ho, .string hn, .string wh, .string ao, .string an, .string bo, .string bn, .string v]] _ _
  go_enter Try.func62, Try.ntmps62
  go_wp2_with fail
  go_loopw [8] (fun i wr => ∃ k : Nat, k ≤ T.length ∧ i = .int .i64 k ∧ Hid ((⟨k1, ⟨ho, hn⟩, wh, ⟨ao, an⟩, ⟨bo, bn⟩, v⟩ : St) ∉ T.take k) ∧ Below (w.heap.size + 1) (w.alloc (.cells #[.int .i64 k1, .string ho, .string hn, .string wh, .string ao, .string an, .string bo, .string bn, .string v] 26)) wr) (fun i _ => T.length - (intOf i).toNat)
  case atStart => exact ⟨0, by omega, rfl, Lib.hid (by simp), Below.refl _ _⟩
  case round =>
    obtain ⟨k, hk, rfl, hrun, hbel⟩ := hrel
    have hb0 := low hbel
    by_cases hlt : k < T.length
    · obtain ⟨g1, o1', rfl, hg1, h1⟩ := (HA.out.below hb0) (by omega)
      obtain ⟨a0, a1, a2, a3, a4, a5, a6, a7, a8⟩ := h1 k hlt
      have hbo := HO.out _ hbel
      have p1 : (0 : Int) ≤ k := by omega
      have p2 : (k : Int) < T.length := by omega
      have hq := fun w => SynE.eqS k1 ho hn wh ao an bo bn v T[k].kind T[k].head.owner T[k].head.name T[k].who T[k].a.owner T[k].a.name T[k].b.owner T[k].b.name T[k].via w
      clear h1
      by_cases he : (⟨k1, ⟨ho, hn⟩, wh, ⟨ao, an⟩, ⟨bo, bn⟩, v⟩ : St) = T[k]
      · have hfin : Hid (decide ((0 : Int) ≤ k) = decide ((⟨k1, ⟨ho, hn⟩, wh, ⟨ao, an⟩, ⟨bo, bn⟩, v⟩ : St) ∈ T)) := Lib.hid (by rw [decide_eq_true p1, decide_eq_true (he ▸ List.getElem_mem hlt)])
        rw [decide_eq_true (p := (⟨k1, ⟨ho, hn⟩, wh, ⟨ao, an⟩, ⟨bo, bn⟩, v⟩ : St) = ⟨T[k].kind, ⟨T[k].head.owner, T[k].head.name⟩, T[k].who, ⟨T[k].a.owner, T[k].a.name⟩, ⟨T[k].b.owner, T[k].b.name⟩, T[k].via⟩) he] at hq
        clear hrun he
        go_wp2_with fail
        go_quiet (fail)
        go_wp2_with fail
        go_ret
        exact ⟨k, rfl, hfin.out, below_drewN hb0 _⟩
      · have hnext : Hid ((⟨k1, ⟨ho, hn⟩, wh, ⟨ao, an⟩, ⟨bo, bn⟩, v⟩ : St) ∉ T.take (k + 1)) := Lib.hid (by
          rw [List.take_succ_eq_append_getElem hlt, List.mem_append, List.mem_singleton]
          rintro (h | h)
          · exact hrun.out h
          · exact he h)
        rw [decide_eq_false (p := (⟨k1, ⟨ho, hn⟩, wh, ⟨ao, an⟩, ⟨bo, bn⟩, v⟩ : St) = ⟨T[k].kind, ⟨T[k].head.owner, T[k].head.name⟩, T[k].who, ⟨T[k].a.owner, T[k].a.name⟩, ⟨T[k].b.owner, T[k].b.name⟩, T[k].via⟩) he] at hq
        clear hrun he
        go_wp2_with fail
        go_quiet (fail)
        go_wp2_with fail
        go_roundw
        case rel => exact ⟨k + 1, by omega, by go_num, hnext, below_drewN hbel _⟩
        case measure => simp [intOf]; omega
    · have hfin : Hid (decide ((0 : Int) ≤ -1) = decide ((⟨k1, ⟨ho, hn⟩, wh, ⟨ao, an⟩, ⟨bo, bn⟩, v⟩ : St) ∈ T)) := Lib.hid (by
        have := hrun.out
        rw [List.take_of_length_le (by omega)] at this
        rw [decide_eq_false this]; rfl)
      clear hrun
      go_wp2_with fail
      go_ret
      exact ⟨-1, rfl, hfin.out, hb0⟩
set_option maxRecDepth 100000 in
theorem hasS (A : Option Addr) (ca : Nat) (T : List St) (x : St) (w : World) (hT : T.length ≤ 10000) (hA : SG w A T) :
    Calls Try.prog 40 #[.slice A T.length ca, x.val] w fun e w' => e = .returned (.bool (decide (x ∈ T))) ∧ Below w.heap.size w w' := by
  have HI := Lib.hid (fun w' h => indexS A ca T x w' hT h)
  generalize decide (x ∈ T) = b at *
  obtain ⟨k1, ⟨ho, hn⟩, wh, ⟨ao, an⟩, ⟨bo, bn⟩, v⟩ := x
  have hI : ∀ w', SG w' A T → Calls Try.prog 62 #[.slice A T.length ca, .agg #[.int .i64 k1, .string ho, .string hn, .string wh, .string ao, .string an, .string bo, .string bn, .string v]] w' fun e w'' => ∃ r : Int, e = .returned (.int .i64 r) ∧ decide (0 ≤ r) = b ∧ Below w'.heap.size w' w'' := HI.out
  have HI2 := Lib.hid hI
  have HA := Lib.hid (hA.below ((Below.refl _ w).alloc (Nat.le_refl _) (.cells #[.int .i64 k1, .string ho, .string hn, .string wh, .string ao, .string an, .string bo, .string bn, .string v] 26)))
  clear hI HI hA
  show Calls _ _ #[_, .agg #[.int .i64 k1, .string ho, .string hn, .string wh, .string ao, .string an, .string bo, .string bn, .string v]] _ _
  go_enter Try.func40, Try.ntmps40
  go_wp2_with fail
  refine (HI2.out _ HA.out).mono ?_
  rintro e w1 ⟨r, rfl, hr, hb⟩
  have HB := Lib.hid (((Below.refl w.heap.size w).alloc (Nat.le_refl _) (.cells #[.int .i64 k1, .string ho, .string hn, .string wh, .string ao, .string an, .string bo, .string bn, .string v] 26)).trans (hb.mono (by simp)))
  have HR := Lib.hid hr
  clear hr hb
  go_wp2_with fail
  go_ret
  exact ⟨ret_bool HR.out, HB.out⟩
set_option maxRecDepth 100000 in
theorem has_ (A : Option Addr) (ca : Nat) (T : List Rl) (x : Rl) (w : World) (hT : T.length ≤ 10000) (hA : RG w A T) :
    Calls Try.prog 50 #[.slice A T.length ca, x.val] w fun e w' => e = .returned (.bool (decide (x ∈ T))) ∧ Below w.heap.size w w' := by
  have HI := Lib.hid (fun w' h => hasR A ca T x w' hT h)
  generalize decide (x ∈ T) = b at *
  obtain ⟨o1, n1⟩ := x
  have hI : ∀ w', RG w' A T → Calls Try.prog 69 #[.slice A T.length ca, .agg #[.string o1, .string n1]] w' fun e w'' => e = .returned (.bool b) ∧ Below w'.heap.size w' w'' := HI.out
  have HI2 := Lib.hid hI
  have HA := Lib.hid (hA.below ((Below.refl _ w).alloc (Nat.le_refl _) (.cells #[.string o1, .string n1] 24)))
  clear hI HI hA
  show Calls _ _ #[_, .agg #[.string o1, .string n1]] _ _
  go_enter Try.func50, Try.ntmps50
  go_wp2_with fail
  refine (HI2.out _ HA.out).mono ?_
  rintro e w1 ⟨rfl, hb⟩
  go_wp2_with fail
  go_ret
  exact ⟨rfl, ((Below.refl w.heap.size w).alloc (Nat.le_refl _) _).trans (hb.mono (by simp))⟩
end Go.Proofs.Ytpjacngbkohmdaa.PolK
/- Rows of statements put one behind the other: slices.Grow, slices.Concat. -/
namespace Go.Proofs.Ytpjacngbkohmdaa.StA
set_option linter.unusedVariables false
set_option linter.unusedSimpArgs false
open Go.RowKit Go.Sort Go.Proofs.Ytpjacngbkohmdaa.Plain Go.Proofs.Ytpjacngbkohmdaa.SynP Go.Proofs.Ytpjacngbkohmdaa.Grown Go.Proofs.Ytpjacngbkohmdaa.SynA Go.Proofs.Ytpjacngbkohmdaa.SynC Go.Proofs.Ytpjacngbkohmdaa.SynD2 Go.Proofs.Ytpjacngbkohmdaa.SynD3 Go.Proofs.Ytpjacngbkohmdaa.SynJ Go.Proofs.Ytpjacngbkohmdaa.PolA Go.Proofs.Ytpjacngbkohmdaa.PolE
set_option linter.unusedVariables false
/-- A row of the call's own that holds statements. -/
def SPost (l : List St) (w : World) (e : Ending) (w' : World) : Prop := ∃ v, e = .returned v ∧ w'.ownsRow w.heap.size 26 9 v l.length (stCells l) ∧ Below w.heap.size w w'
theorem sg_none_len {w : World} {l : List St} (h : SG w none l) : l.length = 0 := by
  rcases Nat.eq_zero_or_pos l.length with h0 | h0
  · exact h0
  · obtain ⟨g, o, hA, _⟩ := h h0
    cases hA
theorem sg_cells {w : World} {A : Option Addr} {L : List St} (h : SG w A L) : ∀ ad, A = some ad → ∀ j u, (stCells L)[j]? = some u → w.cell? (ad.add j) = some u := fun ad e j u hu => by
  have hj : j < L.length * 9 := by
    rw [← stCells_len]
    rcases Nat.lt_or_ge j (stCells L).length with h | h
    · exact h
    · rw [List.getElem?_eq_none h] at hu; cases hu
  obtain ⟨g, o, hA, _, hc⟩ := h.at_ (by omega)
  rw [hA] at e
  injection e with e
  subst e
  rw [add_off]
  exact hc j u hu
set_option maxRecDepth 100000 in
theorem growS (n : Nat) (w : World) (hn : n ≤ 1000000) : Calls Try.prog 80 #[.slice none 0 0, .int .i64 n] w (SPost [] w) := by
  obtain ⟨i0, hi, hz0, hz1, hz2⟩ := info_parts infoSt
  by_cases h0 : 0 < n
  · have hz : 0 < i0.size := by rw [hz1]; omega
    have hby : n * i0.bytes ≤ 281474976710656 := by rw [hz2]; omega
    have hrun := Lib.run_append_nil_zeros (P := Try.prog) w 22 3 22 26 i0 zeroS.val .i64 .i64 Try.underlying22 Try.underlying3 hi hz0 n h0 hz (by omega) hby
    have hg := grownCap_ge w n 0 26
    have hm := grownCap_le_maxLen w n 0 26 (by unfold maxLen; omega)
    have hm' := hm
    have hsz : (Builtin.zeroCells zeroS.val.cells n ++ Builtin.zeroCells zeroS.val.cells (grownCap w n 0 26 - n)).size = grownCap w n 0 26 * 9 := by
      rw [Array.size_append, size_zeroCells, size_zeroCells]
      show n * 9 + (grownCap w n 0 26 - n) * 9 = _
      omega
    generalize Builtin.zeroCells zeroS.val.cells n ++ Builtin.zeroCells zeroS.val.cells (grownCap w n 0 26 - n) = cells at *
    generalize grownCap w n 0 26 = gc at *
    have Hsz := Lib.hid hsz
    have Hm := Lib.hid hm'
    have Hrun := Lib.hid hrun
    clear hsz hz hby hm' hrun
    unfold maxLen at hm
    go_enter Try.func80, Try.ntmps80
    go_wp2_with (refine Lib.wpList_append_run (P := Try.prog) (o := ⟨some 22, _, _, _, _, _⟩) w rfl (.tmp 20) (.tmp 21) 22 3 rfl (.slice none 0 0) (.int .i64 n) ?hs ?hx (.slice (some ⟨w.heap.size, 0, none⟩) n gc) (w.drew.alloc (.cells cells 26)) (by exact Hrun.out) ?_)
    case hs => rfl
    case hx => rfl
    go_wp2
    go_ret
    exact ⟨_, rfl, World.ownsRow_made w.drew cells gc (Nat.le_refl _) Hm.out Hsz.out, (Below.refl _ _).drew.alloc (Nat.le_refl _) _⟩
  · have : n = 0 := by omega
    subst this
    go_enter Try.func80, Try.ntmps80
    go_wp2
    go_ret
    exact ⟨_, rfl, World.ownsRow_nil _ _ _ _, Below.refl _ _⟩
/-- A slice value, its room, and the statements as which it reads. -/
structure RowS where
  A : Option Addr
  c : Nat
  l : List St
/-- The statements of the first rows. -/
def flatTo (R : List RowS) (k : Nat) : List St := ((R.take k).map RowS.l).flatten
theorem flatTo_succ {R : List RowS} {k : Nat} (h : k < R.length) : flatTo R (k + 1) = flatTo R k ++ R[k].l := by
  unfold flatTo
  rw [List.take_succ_eq_append_getElem h, List.map_append, List.flatten_append, List.map_singleton, List.flatten_singleton]
theorem flatTo_len {R : List RowS} (h : ∀ r ∈ R, r.l.length ≤ 1000) : ∀ k, (flatTo R k).length ≤ k * 1000 := by
  intro k
  induction k with
  | zero => simp [flatTo]
  | succ k ih =>
    rcases Nat.lt_or_ge k R.length with hk | hk
    · rw [flatTo_succ hk, List.length_append]
      have h1 := h R[k] (List.getElem_mem _)
      rw [Nat.succ_mul]
      exact Nat.add_le_add ih h1
    · have : flatTo R (k + 1) = flatTo R k := by unfold flatTo; rw [List.take_of_length_le (by omega), List.take_of_length_le (by omega)]
      rw [this, Nat.succ_mul]
      exact Nat.le_add_right_of_le ih
set_option maxHeartbeats 800000 in
set_option maxRecDepth 100000 in
theorem concatS (b cap : Nat) (R : List RowS) (w : World) (hR : R.length ≤ 100) (hl : ∀ r ∈ R, r.l.length ≤ 1000) (hb : b < w.heap.size) (hc : ∀ j, (h : j < R.length) → w.cell? ⟨b, j, none⟩ = some (.slice R[j].A R[j].l.length R[j].c)) (hr : ∀ r ∈ R, SG w r.A r.l) :
    Calls Try.prog 61 #[.slice (some ⟨b, 0, none⟩) R.length cap] w (SPost (flatTo R R.length) w) := by
  obtain ⟨i0, hi, hz0, hz1, hz2⟩ := info_parts infoSt
  have HC := Lib.hid hc
  have HR := Lib.hid hr
  have HL := Lib.hid (flatTo_len hl)
  have Hl := Lib.hid hl
  clear hc hr hl
  go_enter Try.func61, Try.ntmps61
  go_wp2_with fail
  go_loop [3, 11] (fun s i => ∃ k : Nat, k ≤ R.length ∧ i = .int .i64 k ∧ s = .int .i64 ((flatTo R k).length : Nat)) (fun _ i => R.length - (intOf i).toNat)
  case atStart => exact ⟨0, by omega, rfl, by simp [flatTo]⟩
  case round =>
    obtain ⟨k, hk, rfl, rfl⟩ := hrel
    have b1 := HL.out k
    by_cases hlt : k < R.length
    · have hcell := HC.out k hlt
      have b2 := Hl.out R[k] (List.getElem_mem _)
      have hs := flatTo_succ hlt
      have Hs : Hid (((flatTo R k).length : Int) + (R[k].l.length : Int) = ((flatTo R (k + 1)).length : Nat)) := Lib.hid (by rw [hs, List.length_append]; omega)
      clear hs
      go_wp2_with fail
      go_round
      case rel => exact ⟨k + 1, by omega, by go_num, by rw [← Hs.out]⟩
      case measure => simp [intOf]; omega
    · have hkR : k = R.length := by omega
      subst hkR
      go_wp2_with fail
      refine (growS (flatTo R R.length).length w (by omega)).mono ?_
      rintro e w1 ⟨v1, rfl, hown1, hbel1⟩
      go_wp2_with fail
      go_loopw [6, 27] (fun v i wr => ∃ k : Nat, k ≤ R.length ∧ i = .int .i64 k ∧ Below w.heap.size w wr ∧ wr.ownsRow w.heap.size 26 9 v (flatTo R k).length (stCells (flatTo R k))) (fun _ i _ => R.length - (intOf i).toNat)
      case atStart => exact ⟨0, by omega, rfl, hbel1, by simpa [flatTo] using hown1⟩
      case round =>
        obtain ⟨k, hk, rfl, hbel, hown⟩ := hrel
        clear hown1 hbel1
        by_cases hlt : k < R.length
        · have d1 := (hbel.cell (p := ⟨b, k, none⟩) hb).trans (HC.out k hlt)
          have hrow := (HR.out R[k] (List.getElem_mem _)).below hbel
          have b2 := Hl.out R[k] (List.getElem_mem _)
          have b3 := HL.out k
          have H0 := Lib.hid (fun h : R[k].A = none => by rw [h] at hrow; exact sg_none_len hrow)
          have H1 := Lib.hid (sg_cells hrow)
          have Hs := Lib.hid (flatTo_succ hlt)
          clear hrow
          go_wp2_with (at_builtin; refine wpList_append_from _ rfl _ _ 22 rfl w.heap.size 26 i0 zeroS.val 9 136 Try.underlying22 hi hz0 hz1 hz2 rfl (by decide) _ _ _ rfl hown R[k].A R[k].l.length R[k].c (stCells R[k].l) rfl (stCells_len _) H0.out H1.out (stCells_one _) (by unfold maxLen; omega) (by omega) hbel.size ?_)
          intro v2 w2 hown2 hgrow
          have hbel2 := hbel.grown hgrow hbel.size (fun k hk => (hown.lt k hk).1)
          have hown3 : w2.ownsRow w.heap.size 26 9 v2 (flatTo R (k + 1)).length (stCells (flatTo R (k + 1))) := by
            rw [Hs.out, List.length_append, stCells_app]; exact hown2
          clear hown hbel hgrow hown2
          go_wp2_with fail
          go_roundw
          case rel => exact ⟨k + 1, by omega, by go_num, hbel2, hown3⟩
          case measure => simp [intOf]; omega
        · have hkR : k = R.length := by omega
          subst hkR
          go_wp2_with fail
          go_ret
          exact ⟨_, rfl, hown, hbel⟩
end Go.Proofs.Ytpjacngbkohmdaa.StA
/- syn.Sort with where its row lies; gather, by contract. -/
namespace Go.Proofs.Ytpjacngbkohmdaa.StB
set_option linter.unusedVariables false
set_option linter.unusedSimpArgs false
open Go.Shelf Go.RowKit Go.Sort Go.Lib Go.Proofs Go.Proofs.Ytpjacngbkohmdaa.Plain Go.Proofs.Ytpjacngbkohmdaa.SynP Go.Proofs.Ytpjacngbkohmdaa.Grown Go.Proofs.Ytpjacngbkohmdaa.SynE Go.Proofs.Ytpjacngbkohmdaa.SynD Go.Proofs.Ytpjacngbkohmdaa.SynD2 Go.Proofs.Ytpjacngbkohmdaa.SynD3 Go.Proofs.Ytpjacngbkohmdaa.SynD5 Go.Proofs.Ytpjacngbkohmdaa.SynD6 Go.Proofs.Ytpjacngbkohmdaa.SynD7 Go.Proofs.Ytpjacngbkohmdaa.SynD8 Go.Proofs.Ytpjacngbkohmdaa.SynD9 Go.Proofs.Ytpjacngbkohmdaa.PolE Go.Proofs.Ytpjacngbkohmdaa.StA
set_option linter.unusedVariables false
set_option linter.unusedSimpArgs false
/-- A row of the call's own: nil, or at the head of a block from B on. -/
def OwnS (B : Nat) (w : World) (v : Value) (L : List St) : Prop :=
  (v = .slice none 0 0 ∧ L = []) ∨ ∃ (g cap : Nat) (d : Array St), v = .slice (some ⟨g, 0, none⟩) d.size cap ∧ d.toList = L ∧ d.size ≤ cap ∧ cap ≤ maxLen ∧ B ≤ g ∧ g < w.heap.size ∧ HoldsK St.cells 9 w g 0 d
def OwnPost (L : List St) (w : World) (e : Ending) (w' : World) : Prop := ∃ v, e = .returned v ∧ OwnS w.heap.size w' v L ∧ Below w.heap.size w w'
theorem OwnS.mono {B B' : Nat} {w : World} {v : Value} {L : List St} (h : OwnS B w v L) (hB : B' ≤ B) : OwnS B' w v L := by
  rcases h with h | ⟨g, cap, d, e, h1, h2, h3, h4, h5, h6⟩
  · exact .inl h
  · exact .inr ⟨g, cap, d, e, h1, h2, h3, by omega, h5, h6⟩
theorem holds_block {w w' : World} {g : Nat} {d : Array St} (h : HoldsK St.cells 9 w g 0 d) (hg : w'.heap[g]? = w.heap[g]?) : HoldsK St.cells 9 w' g 0 d := fun t ht => by
  obtain ⟨a, b⟩ := h t ht
  exact ⟨(World.cell?_of_block (a := ⟨g, 0 + t, none⟩) hg).trans a, (World.frozen?_of_block (a := ⟨g, 0 + t, none⟩) hg).trans b⟩
theorem OwnS.form {B : Nat} {w : World} {v : Value} {L : List St} (h : OwnS B w v L) : ∃ A c, v = .slice A L.length c ∧ SG w A L := by
  rcases h with ⟨rfl, rfl⟩ | ⟨g, cap, d, rfl, rfl, h2, h3, h4, h5, h6⟩
  · exact ⟨none, 0, rfl, fun h => by simp at h⟩
  · refine ⟨_, cap, rfl, SG.of_row (StRow.of_holds h6 _ (by simp) fun j hj => ?_)⟩
    rw [getElem!_pos d j (by simpa using hj)]; simp
theorem nx {W w1 w2 : World} (h : Below W.heap.size W w1) (hb : Below w1.heap.size w1 w2) : Below W.heap.size W w2 := h.trans (hb.mono h.size)
set_option maxHeartbeats 1000000 in
set_option maxRecDepth 100000 in
theorem sortX (A : Option Addr) (ca : Nat) (L : List St) (w : World) (hL : L.length ≤ 5000) (hA : StAt w A L) : Calls Try.prog 60 #[.slice A L.length ca] w (OwnPost (sortL cmpS [] L) w) := by
  go_enter Try.func60, Try.ntmps60
  go_wp2_with fail
  refine (cloneSt A ca L w (by omega) hA).mono ?_
  rintro e w1 ⟨v, rfl, hown, hb1⟩
  rcases holds_own hown with ⟨rfl, rfl⟩ | ⟨g, cap, rfl, hc, hB, hg, hH⟩
  · clear hown
    go_wp2_with fail
    refine (AnyF.slices_SortFunc_none laidSort none 0 (.func (.func 67) #[] #[]) w1).mono ?_
    rintro e w2 ⟨rfl, rfl⟩
    go_wp2_with fail
    refine (compNone none 0 _).mono ?_
    rintro e w3 ⟨rfl, rfl⟩
    go_wp2_with fail
    go_ret
    exact ⟨_, rfl, .inl ⟨rfl, rfl⟩, hb1⟩
  · have hcm : cap ≤ maxLen := by
      rcases hown.2 with ⟨e, _⟩ | ⟨g', cap', cur, e, _, _, _, hm, _⟩
      · cases e
      · injection e with _ _ e; rw [e]; exact hm
    clear hown
    have HS := Lib.hid (sortSt g 0 cap L.toArray w1 hH hg (by simp; omega))
    have HH := Lib.hid hH
    have HCM := Lib.hid hcm
    clear hH hA hcm
    go_wp2_with fail
    refine (HS.out).mono ?_
    rintro e w2 ⟨rfl, d', n, os, hp, hs, hw2⟩
    have hz : d'.size = L.length := hp.1.trans (by simp)
    have hH2 : HoldsK St.cells 9 w2 g 0 d' := by rw [hw2]; exact holdsK_sortWorldK_c St.cells 9 w1 g 0 L.toArray d' n os HH.out hg (by rw [hz]; simp)
    have hb2 : Below g w1 w2 := by rw [hw2]; exact below_sortK hg
    have hgg : g < w2.heap.size := Nat.lt_of_lt_of_le hg (by rw [hw2]; exact size_sortWorldK_c St.cells 9 w1 g 0 n d' os)
    have HU : Hid (compactUpTo d' d'.size = sortL cmpS [] L) := Lib.hid (sorted_up hp hs)
    have HC := Lib.hid (compSt g cap d' w2 hH2 hgg (by omega) (by omega))
    rw [hz] at HC
    clear hw2 hp hs hH2
    go_wp2_with fail
    refine (HC.out).mono ?_
    rintro e w3 ⟨rfl, hrow, hb3, hz3, hH3⟩
    rw [hz] at HU
    have HE : Hid (OwnPost (sortL cmpS [] L) w (.returned (.slice (some ⟨g, 0, none⟩) (compactUpTo d' L.length).length cap)) w3) := Lib.hid (by
      have hH4 := hH3
      rw [hz, HU.out] at hH4
      have hl := SynDA.sortL_len (c := cmpS) L []
      refine ⟨_, rfl, .inr ⟨g, cap, (sortL cmpS [] L).toArray, by rw [HU.out]; rfl, rfl, ?_, HCM.out, by omega, by omega, hH4⟩, hb1.trans ((hb2.trans (hb3.mono (Nat.le_refl _))).mono hB)⟩
      rw [List.size_toArray]
      simp only [List.length_nil] at hl
      omega)
    clear hrow hb3 hz3 hH3 HU
    go_wp2_with fail
    go_ret
    exact HE.out
theorem OwnPost.nx {L : List St} {w w1 : World} {e : Ending} {w' : World} (h : OwnPost L w1 e w') (hb : Below w.heap.size w w1) : OwnPost L w e w' := by
  obtain ⟨v, he, ho, hb1⟩ := h
  exact ⟨v, he, ho.mono hb.size, StB.nx hb hb1⟩
set_option maxRecDepth 100000 in
theorem gather (b cap : Nat) (R : List RowS) (w : World) (hR : R.length ≤ 5) (hl : ∀ r ∈ R, r.l.length ≤ 1000) (hb : b < w.heap.size) (hc : ∀ j, (h : j < R.length) → w.cell? ⟨b, j, none⟩ = some (.slice R[j].A R[j].l.length R[j].c)) (hr : ∀ r ∈ R, SG w r.A r.l) :
    Calls Try.prog 39 #[.slice (some ⟨b, 0, none⟩) R.length cap] w (OwnPost (sortL cmpS [] (flatTo R R.length)) w) := by
  have HC := Lib.hid (concatS b cap R w (by omega) hl hb hc hr)
  have HL := Lib.hid (flatTo_len hl R.length)
  clear hl hb hc hr
  go_enter Try.func39, Try.ntmps39
  go_wp2_with fail
  refine HC.out.mono ?_
  rintro e w1 ⟨v, rfl, hown, hb1⟩
  obtain ⟨A, ca, rfl, hlc, hAt⟩ := StAt.of_own hown
  have HS := Lib.hid (sortX A ca _ w1 (by have := HL.out; omega) hAt)
  have HB1 := Lib.hid hb1
  clear hown hb1 hAt hlc HC
  go_wp2_with fail
  refine HS.out.mono ?_
  intro e w2 hp
  obtain ⟨v2, rfl, ho2, hb2⟩ := hp
  have HE : Hid (OwnPost (sortL cmpS [] (flatTo R R.length)) w (.returned v2) w2) := Lib.hid (OwnPost.nx ⟨v2, rfl, ho2, hb2⟩ HB1.out)
  clear ho2 hb2 HS
  go_wp2_with fail
  go_ret
  exact HE.out
theorem below_alloc (w : World) (o : Obj) : Below w.heap.size w (w.alloc o) := (Below.refl _ _).alloc (Nat.le_refl _) _
theorem gather1 (A : Option Addr) (c : Nat) (L : List St) (w : World) (hL : L.length ≤ 1000) (hA : SG w A L) :
    Calls Try.prog 39 #[.slice (some ⟨w.heap.size, 0, none⟩) 1 1] (w.alloc (.cells #[.slice A L.length c] 22)) (OwnPost (sortL cmpS [] L) w) := by
  have h := gather w.heap.size 1 [⟨A, c, L⟩] (w.alloc (.cells #[.slice A L.length c] 22)) (by simp) (fun r hr => by rw [List.mem_singleton] at hr; subst hr; exact hL) (by simp) (fun j hj => by
    have : j = 0 := by simp at hj; omega
    subst this
    exact Lib.cell_of_heap (heap_alloc_new w _) 0) (fun r hr => by rw [List.mem_singleton] at hr; subst hr; exact hA.below (below_alloc w _))
  have e : flatTo [(⟨A, c, L⟩ : RowS)] 1 = L := by simp [flatTo]
  have h2 : Calls Try.prog 39 #[.slice (some ⟨w.heap.size, 0, none⟩) 1 1] (w.alloc (.cells #[.slice A L.length c] 22)) (OwnPost (sortL cmpS [] (flatTo [(⟨A, c, L⟩ : RowS)] 1)) (w.alloc (.cells #[.slice A L.length c] 22))) := h
  rw [e] at h2
  exact h2.mono fun _ _ hp => OwnPost.nx hp (below_alloc w _)
theorem gather2 (A A' : Option Addr) (c c' : Nat) (L M : List St) (w : World) (hL : L.length ≤ 1000) (hM : M.length ≤ 1000) (hA : SG w A L) (hA' : SG w A' M) :
    Calls Try.prog 39 #[.slice (some ⟨w.heap.size, 0, none⟩) 2 2] (w.alloc (.cells #[.slice A L.length c, .slice A' M.length c'] 22)) (OwnPost (sortL cmpS [] (L ++ M)) w) := by
  have h := gather w.heap.size 2 [⟨A, c, L⟩, ⟨A', c', M⟩] (w.alloc (.cells #[.slice A L.length c, .slice A' M.length c'] 22)) (by simp) (fun r hr => by simp at hr; rcases hr with rfl | rfl; exact hL; exact hM) (by simp) (fun j hj => by
    have : j = 0 ∨ j = 1 := by simp at hj; omega
    rcases this with rfl | rfl
    · exact Lib.cell_of_heap (heap_alloc_new w _) 0
    · exact Lib.cell_of_heap (heap_alloc_new w _) 1) (fun r hr => by simp at hr; rcases hr with rfl | rfl; exact hA.below (below_alloc w _); exact hA'.below (below_alloc w _))
  have e : flatTo [(⟨A, c, L⟩ : RowS), ⟨A', c', M⟩] 2 = L ++ M := by simp [flatTo]
  have h2 : Calls Try.prog 39 #[.slice (some ⟨w.heap.size, 0, none⟩) 2 2] (w.alloc (.cells #[.slice A L.length c, .slice A' M.length c'] 22)) (OwnPost (sortL cmpS [] (flatTo [(⟨A, c, L⟩ : RowS), ⟨A', c', M⟩] 2)) (w.alloc (.cells #[.slice A L.length c, .slice A' M.length c'] 22))) := h
  rw [e] at h2
  exact h2.mono fun _ _ hp => OwnPost.nx hp (below_alloc w _)
end Go.Proofs.Ytpjacngbkohmdaa.StB
/- What picks statements: a function value that answers, not, IndexFunc, ContainsFunc, DeleteFunc, each and pick, by contract. -/
namespace Go.Proofs.Ytpjacngbkohmdaa.StC
set_option linter.unusedVariables false
set_option linter.unusedSimpArgs false
open Go.Shelf Go.RowKit Go.Sort Go.Lib Go.Proofs Go.Proofs.Ytpjacngbkohmdaa.Plain Go.Proofs.Ytpjacngbkohmdaa.SynP Go.Proofs.Ytpjacngbkohmdaa.Grown Go.Proofs.Ytpjacngbkohmdaa.SynC Go.Proofs.Ytpjacngbkohmdaa.SynD Go.Proofs.Ytpjacngbkohmdaa.SynD2 Go.Proofs.Ytpjacngbkohmdaa.SynD3 Go.Proofs.Ytpjacngbkohmdaa.SynD7 Go.Proofs.Ytpjacngbkohmdaa.SynD8 Go.Proofs.Ytpjacngbkohmdaa.PolE Go.Proofs.Ytpjacngbkohmdaa.StA Go.Proofs.Ytpjacngbkohmdaa.StB
set_option linter.unusedVariables false
set_option linter.unusedSimpArgs false
/-- A function value that answers p of each statement, in every world that is below B as w is. -/
def Such (B : Nat) (w : World) (v : Value) (p : St → Bool) : Prop := ∃ (F : Nat) (caps : Array Value), v = .func (.func F) #[] caps ∧ (∀ args w, (callFunc F args).run Try.prog w = .ok (.enter F args) w) ∧ ∀ w', Below B w w' → ∀ s : St, s.fit → Calls Try.prog F (#[s.val] ++ caps) w' fun e wx => e = .returned (.bool (p s)) ∧ Below w'.heap.size w' wx
theorem Such.mono {B B' : Nat} {w : World} {v : Value} {p : St → Bool} (h : Such B w v p) (hB : B ≤ B') : Such B' w v p := by
  obtain ⟨F, caps, e, eg, h⟩ := h
  exact ⟨F, caps, e, eg, fun w' hb => h w' (hb.mono hB)⟩
theorem Such.later {B : Nat} {w w1 : World} {v : Value} {p : St → Bool} (h : Such B w v p) (hb : Below B w w1) : Such B w1 v p := by
  obtain ⟨F, caps, e, eg, h⟩ := h
  exact ⟨F, caps, e, eg, fun w' hb' => h w' (hb.trans hb')⟩
/-- What not's closure answers, its captured value in block b. -/
def NotAt (w : World) (b : Nat) (p : St → Bool) : Prop := ∀ s : St, s.fit → Calls Try.prog 64 #[s.val, .pointer (some ⟨b, 0, none⟩)] w fun e wx => e = .returned (.bool (!p s)) ∧ Below w.heap.size w wx
set_option maxRecDepth 100000 in
theorem not1 {B : Nat} {w : World} {v : Value} {p : St → Bool} (h : Such B w v p) (hB : B ≤ w.heap.size) (b : Nat) (hb : w.cell? ⟨b, 0, none⟩ = some v) : NotAt w b p := fun s hs => by
  obtain ⟨F, caps, rfl, eg, hf⟩ := h
  have lb := World.block_lt_of_cell? _ _ hb
  simp only at lb
  have HF := Lib.hid (fun w' (hb : Below w.heap.size w w') => hf w' (hb.mono hB) s hs)
  generalize p s = ans at *
  obtain ⟨k1, ⟨ho, hn⟩, wh, ⟨ao, an⟩, ⟨bo, bn⟩, v1⟩ := s
  unfold St.val at HF ⊢
  simp only at HF ⊢
  have hbX := below_alloc w (.cells #[.int .i64 k1, .string ho, .string hn, .string wh, .string ao, .string an, .string bo, .string bn, .string v1] 26)
  have c1 := (hbX.cell (p := ⟨b, 0, none⟩) lb).trans hb
  have c2 := fun o => Lib.cell_of_heap (heap_alloc_new w (.cells #[.int .i64 k1, .string ho, .string hn, .string wh, .string ao, .string an, .string bo, .string bn, .string v1] 26)) o
  have HB := Lib.hid hbX
  have hcall := HF.out _ hbX
  clear hbX hb lb hf HF hs
  go_enter Try.func64, Try.ntmps64
  go_wp2_with (go_at_fn F; refine hcall.mono ?_; rintro e w1 ⟨rfl, hb1⟩)
  go_ret
  exact ⟨rfl, nx HB.out hb1⟩
set_option maxRecDepth 100000 in
theorem not_ (F : Nat) (caps : Array Value) (w : World) : Calls Try.prog 43 #[.func (.func F) #[] caps] w fun e w' => e = .returned (.func (.func 64) #[] #[.pointer (some ⟨w.heap.size, 0, none⟩)]) ∧ w' = w.alloc (.cells #[.func (.func F) #[] caps] 28) := by
  go_enter Try.func43, Try.ntmps43
  go_wp2_with fail
  go_ret
  exact ⟨rfl, rfl⟩
theorem enter_not : ∀ args w, (callFunc 64 args).run Try.prog w = .ok (.enter 64 args) w := enters_of Try.func64 (by kernel_rfl) rfl
/-- The closure over a function value that answers, as a function value that answers the contrary. -/
theorem such_not {B : Nat} {w : World} {v : Value} {p : St → Bool} (h : Such B w v p) (hB : B ≤ w.heap.size) (b : Nat) (hb : w.cell? ⟨b, 0, none⟩ = some v) : Such w.heap.size w (.func (.func 64) #[] #[.pointer (some ⟨b, 0, none⟩)]) (fun s => !p s) := by
  have lb := World.block_lt_of_cell? _ _ hb
  simp only at lb
  exact ⟨_, _, rfl, enter_not, fun w' hb' s hs => not1 (h.later (hb'.mono hB)) (Nat.le_trans hB hb'.size) b ((hb'.cell (p := ⟨b, 0, none⟩) lb).trans hb) s hs⟩
def IdxPost (p : St → Bool) (T : List St) (w : World) (e : Ending) (w' : World) : Prop :=
  Below w.heap.size w w' ∧ ((e = .returned (.int .i64 (-1)) ∧ T.all p = true) ∨ ∃ k : Nat, ∃ h : k < T.length, e = .returned (.int .i64 k) ∧ (∀ j, (hj : j < k) → p (T[j]'(by omega)) = true) ∧ p T[k] = false)
set_option maxHeartbeats 1000000 in
set_option maxRecDepth 100000 in
theorem idx (A : Option Addr) (ca b : Nat) (p : St → Bool) (T : List St) (w : World) (hT : T.length ≤ 100000) (hA : SG w A T) (hf : ∀ s ∈ T, s.fit) (hn : ∀ w', Below w.heap.size w w' → NotAt w' b p) :
    Calls Try.prog 73 #[.slice A T.length ca, .func (.func 64) #[] #[.pointer (some ⟨b, 0, none⟩)]] w (IdxPost p T w) := by
  have HA := Lib.hid (fun w' (hb : Below w.heap.size w w') => hA.below hb)
  have HN := Lib.hid hn
  have HFT := Lib.hid hf
  clear hA hn hf
  go_enter Try.func73, Try.ntmps73
  go_wp2_with fail
  go_loopw [8] (fun i wr => ∃ k : Nat, k ≤ T.length ∧ i = .int .i64 k ∧ Below w.heap.size w wr ∧ Hid (∀ j, (hj : j < k) → ∃ h : j < T.length, p T[j] = true)) (fun i _ => T.length - (intOf i).toNat)
  case atStart => exact ⟨0, by omega, rfl, Below.refl _ _, Lib.hid (fun j hj => by omega)⟩
  case round =>
    obtain ⟨k, hk, rfl, hb, hall⟩ := hrel
    have HB := Lib.hid hb
    by_cases hlt : k < T.length
    · have e1 : decide ((k : Int) < T.length) = true := by simp; omega
      obtain ⟨g, o, rfl, hg, hc⟩ := HA.out _ hb (by omega)
      obtain ⟨a0, a1, a2, a3, a4, a5, a6, a7, a8⟩ := hc k hlt
      have HFk := Lib.hid (HN.out _ hb T[k] (HFT.out _ (List.getElem_mem hlt)))
      have HNX : Hid (p T[k] = true → ∀ j, (hj : j < k + 1) → ∃ h : j < T.length, p T[j] = true) := Lib.hid (fun h j hj => by
        by_cases e : j = k
        · subst e; exact ⟨hlt, h⟩
        · exact hall.out j (by omega))
      have HST : Hid (p T[k] = false → ∀ w', Below w.heap.size w w' → IdxPost p T w (.returned (.int .i64 k)) w') := Lib.hid (fun h w' hb => ⟨hb, .inr ⟨k, hlt, rfl, fun j hj => (hall.out j hj).2, h⟩⟩)
      have q0 : (0 : Int) ≤ k := by omega
      have q1 : (k : Int) < T.length := by omega
      clear hc hb hall hg
      generalize T[k] = x at *
      obtain ⟨k1, ⟨ho, hn⟩, wh, ⟨ao, an⟩, ⟨bo, bn⟩, v1⟩ := x
      unfold St.val at HFk
      simp only at HFk a0 a1 a2 a3 a4 a5 a6 a7 a8
      cases hpx : p ⟨k1, ⟨ho, hn⟩, wh, ⟨ao, an⟩, ⟨bo, bn⟩, v1⟩
      · rw [hpx] at HFk
        have HE := Lib.hid (HST.out hpx)
        clear hpx HST HNX
        go_wp2_with fail
        refine HFk.out.mono ?_
        rintro e w1 ⟨rfl, hb1⟩
        have HB1 := Lib.hid (nx HB.out hb1)
        clear hb1 a0 a1 a2 a3 a4 a5 a6 a7 a8
        go_wp2_with fail
        go_ret
        exact HE.out _ HB1.out
      · rw [hpx] at HFk
        have HE := Lib.hid (HNX.out hpx)
        clear hpx HST HNX
        go_wp2_with fail
        refine HFk.out.mono ?_
        rintro e w1 ⟨rfl, hb1⟩
        have HB1 := Lib.hid (nx HB.out hb1)
        clear hb1 a0 a1 a2 a3 a4 a5 a6 a7 a8
        go_wp2_with fail
        go_roundw
        case rel => exact ⟨k + 1, by omega, by go_num, HB1.out, HE⟩
        case measure => simp [intOf]; omega
    · have e1 : decide ((k : Int) < T.length) = false := by simp; omega
      have HE : Hid (T.all p = true) := Lib.hid (by
        rw [List.all_eq_true]
        intro x hx
        obtain ⟨j, hj, rfl⟩ := List.getElem_of_mem hx
        exact (hall.out j (by omega)).2)
      clear hall hb
      go_wp2_with fail
      go_ret
      exact ⟨HB.out, .inl ⟨rfl, HE.out⟩⟩
set_option maxRecDepth 100000 in
theorem cont (A : Option Addr) (ca b : Nat) (p : St → Bool) (T : List St) (w : World) (hT : T.length ≤ 100000) (hA : SG w A T) (hf : ∀ s ∈ T, s.fit) (hn : ∀ w', Below w.heap.size w w' → NotAt w' b p) :
    Calls Try.prog 56 #[.slice A T.length ca, .func (.func 64) #[] #[.pointer (some ⟨b, 0, none⟩)]] w fun e w' => e = .returned (.bool (!T.all p)) ∧ Below w.heap.size w w' := by
  have HI := Lib.hid (idx A ca b p T w hT hA hf hn)
  have HN : Hid (∀ k, (h : k < T.length) → p T[k] = false → T.all p = false) := Lib.hid (fun k h hp => by
    rw [Bool.eq_false_iff]
    intro hall
    rw [List.all_eq_true] at hall
    rw [hall _ (List.getElem_mem h)] at hp
    cases hp)
  clear hA hf hn
  go_enter Try.func56, Try.ntmps56
  go_wp2_with fail
  refine HI.out.mono ?_
  rintro e w1 ⟨hb1, ⟨rfl, hall⟩ | ⟨k, hk, rfl, _, hno⟩⟩
  · have HE : Hid ((!T.all p) = false) := Lib.hid (by rw [hall]; rfl)
    clear hall HI HN
    go_wp2_with fail
    go_ret
    exact ⟨ret_bool HE.out.symm, hb1⟩
  · have HE : Hid ((!T.all p) = true) := Lib.hid (by rw [HN.out k hk hno]; rfl)
    have e1 : decide ((0 : Int) ≤ (k : Int)) = true := by simp
    clear hno HI HN
    go_wp2_with fail
    go_ret
    exact ⟨ret_bool HE.out.symm, hb1⟩
set_option maxRecDepth 100000 in
theorem each {B : Nat} (A : Option Addr) (ca : Nat) (v : Value) (p : St → Bool) (T : List St) (w : World) (hT : T.length ≤ 100000) (hA : SG w A T) (hf : ∀ s ∈ T, s.fit) (hB : B ≤ w.heap.size) (hs : Such B w v p) :
    Calls Try.prog 37 #[.slice A T.length ca, v] w fun e w' => e = .returned (.bool (T.all p)) ∧ Below w.heap.size w w' := by
  obtain ⟨F, caps, hv, _⟩ := id hs
  subst hv
  have hbX := below_alloc w (.cells #[.func (.func F) #[] caps] 28)
  have hcl : (w.alloc (.cells #[.func (.func F) #[] caps] 28)).cell? ⟨w.heap.size, 0, none⟩ = some (.func (.func F) #[] caps) := Lib.cell_of_heap (heap_alloc_new w _) 0
  have HC := Lib.hid (cont A ca w.heap.size p T (w.alloc (.cells #[.func (.func F) #[] caps] 28)) hT (hA.below hbX) hf (fun w' hb' => not1 (hs.later ((hbX.trans (hb'.mono hbX.size)).mono hB)) (Nat.le_trans hB (Nat.le_trans hbX.size hb'.size)) w.heap.size ((hb'.cell (p := ⟨w.heap.size, 0, none⟩) (by simp)).trans hcl)))
  have HN := Lib.hid (not_ F caps w)
  have HB := Lib.hid hbX
  generalize T.all p = ans at *
  clear hbX hcl hA hf hs
  go_enter Try.func37, Try.ntmps37
  go_wp2_with fail
  refine HN.out.mono ?_
  rintro e w1 ⟨rfl, rfl⟩
  go_wp2_with fail
  refine HC.out.mono ?_
  rintro e w2 ⟨rfl, hb2⟩
  have HB2 := Lib.hid (nx HB.out hb2)
  clear hb2 HC HN
  go_wp2_with fail
  go_ret
  exact ⟨ret_bool (by first | rfl | exact (Bool.not_not ans).symm), HB2.out⟩
end Go.Proofs.Ytpjacngbkohmdaa.StC
