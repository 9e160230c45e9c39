/- Is a role, a statement, in a row; the row with one more; by contract. -/
import Derived.Test.YtblapgfilbmdhaaGreatDoorM20
import Derived.Test.YtblapgfilbmdhaaGreatDoorM12
set_option linter.unusedVariables false
set_option linter.unusedSimpArgs false
namespace Go.Proofs.YtblapgfilbmdhaaGreatDoor.PolK
open Go.RowKit Go.Sort Go.Lib Go.Proofs Plain SynP Grown SynC SynD2 SynD3 SynJ QryP PolA PolE PolG
theorem rg_of_own {w : World} {B : Nat} {A : Option Addr} {ca : Nat} {T : List Rl} (h : w.ownsRow B 28 2 (.slice A T.length ca) T.length (rcells T)) : RG w A T := by
  obtain ⟨A', c', e, hr⟩ := rat_own h
  injection e with e1
  subst e1
  exact RG.of_rat hr
set_option maxHeartbeats 1000000 in
set_option maxRecDepth 100000 in
theorem indexR (A : Option Addr) (ca : Nat) (T : List Rl) (x : Rl) (w : World) (hT : T.length ≤ 10000) (hA : RG w A T) :
    Calls Tryz.prog 166 #[.slice A T.length ca, x.val] w fun e w' => ∃ r : Int, e = .returned (.int .i64 r) ∧ decide (0 ≤ r) = decide (x ∈ T) ∧ Below w.heap.size w w' := by
  obtain ⟨o1, n1⟩ := x
  have hown : ∀ (wr : World), Below (w.heap.size + 1) (w.alloc (.cells #[.string o1, .string n1] 28)) wr → ∀ o, wr.cell? ⟨w.heap.size, o, none⟩ = (#[.string o1, .string n1] : Array Value)[o]? := fun wr hb o => box_cell hb o
  have HO := Lib.hid hown
  have HA := Lib.hid hA
  clear hown hA
  show Calls _ _ #[_, .agg #[.string o1, .string n1]] _ _
  go_enter Tryz.func166, Tryz.ntmps166
  go_wp2_with fail
  go_loopw [8] (fun i wr => ∃ k : Nat, k ≤ T.length ∧ i = .int .i64 k ∧ Hid ((⟨o1, n1⟩ : Rl) ∉ T.take k) ∧ Below (w.heap.size + 1) (w.alloc (.cells #[.string o1, .string n1] 28)) wr) (fun i _ => T.length - (intOf i).toNat)
  case atStart => exact ⟨0, by omega, rfl, Lib.hid (by simp), Below.refl _ _⟩
  case round =>
    obtain ⟨k, hk, rfl, hrun, hbel⟩ := hrel
    have hb0 := low hbel
    by_cases hlt : k < T.length
    · obtain ⟨g1, o1', rfl, hg1, h1⟩ := (HA.out.below hb0) (by omega)
      obtain ⟨a0, a1⟩ := h1 k hlt
      have hbo := HO.out _ hbel
      have p1 : (0 : Int) ≤ k := by omega
      have p2 : (k : Int) < T.length := by omega
      have hq := fun w => SynE.eqR o1 n1 T[k].owner T[k].name w
      clear h1
      by_cases he : (⟨o1, n1⟩ : Rl) = T[k]
      · have hfin : Hid (decide ((0 : Int) ≤ k) = decide ((⟨o1, n1⟩ : Rl) ∈ T)) := Lib.hid (by rw [decide_eq_true p1, decide_eq_true (he ▸ List.getElem_mem hlt)])
        rw [decide_eq_true (p := (⟨o1, n1⟩ : Rl) = ⟨T[k].owner, T[k].name⟩) he] at hq
        clear hrun he
        go_wp2_with fail
        go_quiet (fail)
        go_wp2_with fail
        go_ret
        exact ⟨k, rfl, hfin.out, below_drewN hb0 _⟩
      · have hnext : Hid ((⟨o1, n1⟩ : Rl) ∉ T.take (k + 1)) := Lib.hid (by
          rw [List.take_succ_eq_append_getElem hlt, List.mem_append, List.mem_singleton]
          rintro (h | h)
          · exact hrun.out h
          · exact he h)
        rw [decide_eq_false (p := (⟨o1, n1⟩ : Rl) = ⟨T[k].owner, T[k].name⟩) he] at hq
        clear hrun he
        go_wp2_with fail
        go_quiet (fail)
        go_wp2_with fail
        go_roundw
        case rel => exact ⟨k + 1, by omega, by go_num, hnext, below_drewN hbel _⟩
        case measure => simp [intOf]; omega
    · have hfin : Hid (decide ((0 : Int) ≤ -1) = decide ((⟨o1, n1⟩ : Rl) ∈ T)) := Lib.hid (by
        have := hrun.out
        rw [List.take_of_length_le (by omega)] at this
        rw [decide_eq_false this]; rfl)
      clear hrun
      go_wp2_with fail
      go_ret
      exact ⟨-1, rfl, hfin.out, hb0⟩
set_option maxRecDepth 100000 in
theorem hasR (A : Option Addr) (ca : Nat) (T : List Rl) (x : Rl) (w : World) (hT : T.length ≤ 10000) (hA : RG w A T) :
    Calls Tryz.prog 123 #[.slice A T.length ca, x.val] w fun e w' => e = .returned (.bool (decide (x ∈ T))) ∧ Below w.heap.size w w' := by
  have HI := Lib.hid (fun w' h => indexR A ca T x w' hT h)
  generalize decide (x ∈ T) = b at *
  obtain ⟨o1, n1⟩ := x
  have hI : ∀ w', RG w' A T → Calls Tryz.prog 166 #[.slice A T.length ca, .agg #[.string o1, .string n1]] w' fun e w'' => ∃ r : Int, e = .returned (.int .i64 r) ∧ decide (0 ≤ r) = b ∧ Below w'.heap.size w' w'' := HI.out
  have HI2 := Lib.hid hI
  have HA := Lib.hid (hA.below ((Below.refl _ w).alloc (Nat.le_refl _) (.cells #[.string o1, .string n1] 28)))
  clear hI HI hA
  show Calls _ _ #[_, .agg #[.string o1, .string n1]] _ _
  go_enter Tryz.func123, Tryz.ntmps123
  go_wp2_with fail
  refine (HI2.out _ HA.out).mono ?_
  rintro e w1 ⟨r, rfl, hr, hb⟩
  have HB := Lib.hid (((Below.refl w.heap.size w).alloc (Nat.le_refl _) (.cells #[.string o1, .string n1] 28)).trans (hb.mono (by simp)))
  have HR := Lib.hid hr
  clear hr hb
  go_wp2_with fail
  go_ret
  exact ⟨ret_bool HR.out, HB.out⟩
set_option maxRecDepth 100000 in
theorem has_ (A : Option Addr) (ca : Nat) (T : List Rl) (x : Rl) (w : World) (hT : T.length ≤ 10000) (hA : RG w A T) :
    Calls Tryz.prog 88 #[.slice A T.length ca, x.val] w fun e w' => e = .returned (.bool (decide (x ∈ T))) ∧ Below w.heap.size w w' := by
  have HI := Lib.hid (fun w' h => hasR A ca T x w' hT h)
  generalize decide (x ∈ T) = b at *
  obtain ⟨o1, n1⟩ := x
  have hI : ∀ w', RG w' A T → Calls Tryz.prog 123 #[.slice A T.length ca, .agg #[.string o1, .string n1]] w' fun e w'' => e = .returned (.bool b) ∧ Below w'.heap.size w' w'' := HI.out
  have HI2 := Lib.hid hI
  have HA := Lib.hid (hA.below ((Below.refl _ w).alloc (Nat.le_refl _) (.cells #[.string o1, .string n1] 28)))
  clear hI HI hA
  show Calls _ _ #[_, .agg #[.string o1, .string n1]] _ _
  go_enter Tryz.func88, Tryz.ntmps88
  go_wp2_with fail
  refine (HI2.out _ HA.out).mono ?_
  rintro e w1 ⟨rfl, hb⟩
  go_wp2_with fail
  go_ret
  exact ⟨rfl, ((Below.refl w.heap.size w).alloc (Nat.le_refl _) _).trans (hb.mono (by simp))⟩
end Go.Proofs.YtblapgfilbmdhaaGreatDoor.PolK
namespace Go.Proofs.YtblapgfilbmdhaaGreatDoor.StA
open Go.RowKit Go.Sort Plain SynP Grown SynA SynC SynD2 SynD3 SynJ PolA PolE
def SPost (l : List St) (w : World) (e : Ending) (w' : World) : Prop := ∃ v, e = .returned v ∧ w'.ownsRow w.heap.size 67 9 v l.length (stCells l) ∧ Below w.heap.size w w'
theorem sg_none_len {w : World} {l : List St} (h : SG w none l) : l.length = 0 := by
  rcases Nat.eq_zero_or_pos l.length with h0 | h0
  · exact h0
  · obtain ⟨g, o, hA, _⟩ := h h0
    cases hA
theorem sg_cells {w : World} {A : Option Addr} {L : List St} (h : SG w A L) : ∀ ad, A = some ad → ∀ j u, (stCells L)[j]? = some u → w.cell? (ad.add j) = some u := fun ad e j u hu => by
  have hj : j < L.length * 9 := by
    rw [← stCells_len]
    rcases Nat.lt_or_ge j (stCells L).length with h | h
    · exact h
    · rw [List.getElem?_eq_none h] at hu; cases hu
  obtain ⟨g, o, hA, _, hc⟩ := h.at_ (by omega)
  rw [hA] at e
  injection e with e
  subst e
  rw [add_off]
  exact hc j u hu
set_option maxRecDepth 100000 in
theorem growS (n : Nat) (w : World) (hn : n ≤ 1000000) : Calls Tryz.prog 121 #[.slice none 0 0, .int .i64 n] w (SPost [] w) := by
  obtain ⟨i0, hi, hz0, hz1, hz2⟩ := info_parts infoSt
  by_cases h0 : 0 < n
  · have hz : 0 < i0.size := by rw [hz1]; omega
    have hby : n * i0.bytes ≤ 281474976710656 := by rw [hz2]; omega
    have hrun := Lib.run_append_nil_zeros (P := Tryz.prog) w 22 3 22 67 i0 zeroS.val .i64 .i64 Tryz.underlying22 Tryz.underlying3 hi hz0 n h0 hz (by omega) hby
    have hg := grownCap_ge w n 0 67
    have hm := grownCap_le_maxLen w n 0 67 (by unfold maxLen; omega)
    have hm' := hm
    have hsz : (Builtin.zeroCells zeroS.val.cells n ++ Builtin.zeroCells zeroS.val.cells (grownCap w n 0 67 - n)).size = grownCap w n 0 67 * 9 := by
      rw [Array.size_append, size_zeroCells, size_zeroCells]
      show n * 9 + (grownCap w n 0 67 - n) * 9 = _
      omega
    generalize Builtin.zeroCells zeroS.val.cells n ++ Builtin.zeroCells zeroS.val.cells (grownCap w n 0 67 - n) = cells at *
    generalize grownCap w n 0 67 = gc at *
    have Hsz := Lib.hid hsz
    have Hm := Lib.hid hm'
    have Hrun := Lib.hid hrun
    clear hsz hz hby hm' hrun
    unfold maxLen at hm
    go_enter Tryz.func121, Tryz.ntmps121
    go_wp2_with (refine Lib.wpList_append_run (P := Tryz.prog) (o := ⟨some 22, _, _, _, _, _⟩) w rfl (.tmp 20) (.tmp 21) 22 3 rfl (.slice none 0 0) (.int .i64 n) ?hs ?hx (.slice (some ⟨w.heap.size, 0, none⟩) n gc) (w.drew.alloc (.cells cells 67)) (by exact Hrun.out) ?_)
    case hs => rfl
    case hx => rfl
    go_wp2
    go_ret
    exact ⟨_, rfl, World.ownsRow_made w.drew cells gc (Nat.le_refl _) Hm.out Hsz.out, (Below.refl _ _).drew.alloc (Nat.le_refl _) _⟩
  · have : n = 0 := by omega
    subst this
    go_enter Tryz.func121, Tryz.ntmps121
    go_wp2
    go_ret
    exact ⟨_, rfl, World.ownsRow_nil _ _ _ _, Below.refl _ _⟩
structure RowS where
  A : Option Addr
  c : Nat
  l : List St
def flatTo (R : List RowS) (k : Nat) : List St := ((R.take k).map RowS.l).flatten
theorem flatTo_succ {R : List RowS} {k : Nat} (h : k < R.length) : flatTo R (k + 1) = flatTo R k ++ R[k].l := by
  unfold flatTo
  rw [List.take_succ_eq_append_getElem h, List.map_append, List.flatten_append, List.map_singleton, List.flatten_singleton]
theorem flatTo_len {R : List RowS} (h : ∀ r ∈ R, r.l.length ≤ 1000) : ∀ k, (flatTo R k).length ≤ k * 1000 := by
  intro k
  induction k with
  | zero => simp [flatTo]
  | succ k ih =>
    rcases Nat.lt_or_ge k R.length with hk | hk
    · rw [flatTo_succ hk, List.length_append]
      have h1 := h R[k] (List.getElem_mem _)
      rw [Nat.succ_mul]
      exact Nat.add_le_add ih h1
    · have : flatTo R (k + 1) = flatTo R k := by unfold flatTo; rw [List.take_of_length_le (by omega), List.take_of_length_le (by omega)]
      rw [this, Nat.succ_mul]
      exact Nat.le_add_right_of_le ih
set_option maxHeartbeats 800000 in
set_option maxRecDepth 100000 in
theorem concatS (b cap : Nat) (R : List RowS) (w : World) (hR : R.length ≤ 100) (hl : ∀ r ∈ R, r.l.length ≤ 1000) (hb : b < w.heap.size) (hc : ∀ j, (h : j < R.length) → w.cell? ⟨b, j, none⟩ = some (.slice R[j].A R[j].l.length R[j].c)) (hr : ∀ r ∈ R, SG w r.A r.l) :
    Calls Tryz.prog 84 #[.slice (some ⟨b, 0, none⟩) R.length cap] w (SPost (flatTo R R.length) w) := by
  obtain ⟨i0, hi, hz0, hz1, hz2⟩ := info_parts infoSt
  have HC := Lib.hid hc
  have HR := Lib.hid hr
  have HL := Lib.hid (flatTo_len hl)
  have Hl := Lib.hid hl
  clear hc hr hl
  go_enter Tryz.func84, Tryz.ntmps84
  go_wp2_with fail
  go_loop [3, 11] (fun s i => ∃ k : Nat, k ≤ R.length ∧ i = .int .i64 k ∧ s = .int .i64 ((flatTo R k).length : Nat)) (fun _ i => R.length - (intOf i).toNat)
  case atStart => exact ⟨0, by omega, rfl, by simp [flatTo]⟩
  case round =>
    obtain ⟨k, hk, rfl, rfl⟩ := hrel
    have b1 := HL.out k
    by_cases hlt : k < R.length
    · have hcell := HC.out k hlt
      have b2 := Hl.out R[k] (List.getElem_mem _)
      have hs := flatTo_succ hlt
      have Hs : Hid (((flatTo R k).length : Int) + (R[k].l.length : Int) = ((flatTo R (k + 1)).length : Nat)) := Lib.hid (by rw [hs, List.length_append]; omega)
      clear hs
      go_wp2_with fail
      go_round
      case rel => exact ⟨k + 1, by omega, by go_num, by rw [← Hs.out]⟩
      case measure => simp [intOf]; omega
    · have hkR : k = R.length := by omega
      subst hkR
      go_wp2_with fail
      refine (growS (flatTo R R.length).length w (by omega)).mono ?_
      rintro e w1 ⟨v1, rfl, hown1, hbel1⟩
      go_wp2_with fail
      go_loopw [6, 27] (fun v i wr => ∃ k : Nat, k ≤ R.length ∧ i = .int .i64 k ∧ Below w.heap.size w wr ∧ wr.ownsRow w.heap.size 67 9 v (flatTo R k).length (stCells (flatTo R k))) (fun _ i _ => R.length - (intOf i).toNat)
      case atStart => exact ⟨0, by omega, rfl, hbel1, by simpa [flatTo] using hown1⟩
      case round =>
        obtain ⟨k, hk, rfl, hbel, hown⟩ := hrel
        clear hown1 hbel1
        by_cases hlt : k < R.length
        · have d1 := (hbel.cell (p := ⟨b, k, none⟩) hb).trans (HC.out k hlt)
          have hrow := (HR.out R[k] (List.getElem_mem _)).below hbel
          have b2 := Hl.out R[k] (List.getElem_mem _)
          have b3 := HL.out k
          have H0 := Lib.hid (fun h : R[k].A = none => by rw [h] at hrow; exact sg_none_len hrow)
          have H1 := Lib.hid (sg_cells hrow)
          have Hs := Lib.hid (flatTo_succ hlt)
          clear hrow
          go_wp2_with (at_builtin; refine wpList_append_from _ rfl _ _ 22 rfl w.heap.size 67 i0 zeroS.val 9 136 Tryz.underlying22 hi hz0 hz1 hz2 rfl (by decide) _ _ _ rfl hown R[k].A R[k].l.length R[k].c (stCells R[k].l) rfl (stCells_len _) H0.out H1.out (stCells_one _) (by unfold maxLen; omega) (by omega) hbel.size ?_)
          intro v2 w2 hown2 hgrow
          have hbel2 := hbel.grown hgrow hbel.size (fun k hk => (hown.lt k hk).1)
          have hown3 : w2.ownsRow w.heap.size 67 9 v2 (flatTo R (k + 1)).length (stCells (flatTo R (k + 1))) := by
            rw [Hs.out, List.length_append, stCells_app]; exact hown2
          clear hown hbel hgrow hown2
          go_wp2_with fail
          go_roundw
          case rel => exact ⟨k + 1, by omega, by go_num, hbel2, hown3⟩
          case measure => simp [intOf]; omega
        · have hkR : k = R.length := by omega
          subst hkR
          go_wp2_with fail
          go_ret
          exact ⟨_, rfl, hown, hbel⟩
end Go.Proofs.YtblapgfilbmdhaaGreatDoor.StA
namespace Go.Proofs.YtblapgfilbmdhaaGreatDoor.StB
open Go.Shelf Go.RowKit Go.Sort Go.Lib Go.Proofs Plain SynP Grown SynE SynD SynD2 SynD3 SynD5 SynD6 SynD7 SynD8 SynD9 PolE StA
def OwnS (B : Nat) (w : World) (v : Value) (L : List St) : Prop :=
  (v = .slice none 0 0 ∧ L = []) ∨ ∃ (g cap : Nat) (d : Array St), v = .slice (some ⟨g, 0, none⟩) d.size cap ∧ d.toList = L ∧ d.size ≤ cap ∧ cap ≤ maxLen ∧ B ≤ g ∧ g < w.heap.size ∧ HoldsK St.cells 9 w g 0 d
def OwnPost (L : List St) (w : World) (e : Ending) (w' : World) : Prop := ∃ v, e = .returned v ∧ OwnS w.heap.size w' v L ∧ Below w.heap.size w w'
theorem OwnS.mono {B B' : Nat} {w : World} {v : Value} {L : List St} (h : OwnS B w v L) (hB : B' ≤ B) : OwnS B' w v L := by
  rcases h with h | ⟨g, cap, d, e, h1, h2, h3, h4, h5, h6⟩
  · exact .inl h
  · exact .inr ⟨g, cap, d, e, h1, h2, h3, by omega, h5, h6⟩
theorem holds_block {w w' : World} {g : Nat} {d : Array St} (h : HoldsK St.cells 9 w g 0 d) (hg : w'.heap[g]? = w.heap[g]?) : HoldsK St.cells 9 w' g 0 d := fun t ht => by
  obtain ⟨a, b⟩ := h t ht
  exact ⟨(World.cell?_of_block (a := ⟨g, 0 + t, none⟩) hg).trans a, (World.frozen?_of_block (a := ⟨g, 0 + t, none⟩) hg).trans b⟩
theorem OwnS.form {B : Nat} {w : World} {v : Value} {L : List St} (h : OwnS B w v L) : ∃ A c, v = .slice A L.length c ∧ SG w A L := by
  rcases h with ⟨rfl, rfl⟩ | ⟨g, cap, d, rfl, rfl, h2, h3, h4, h5, h6⟩
  · exact ⟨none, 0, rfl, fun h => by simp at h⟩
  · refine ⟨_, cap, rfl, SG.of_row (StRow.of_holds h6 _ (by simp) fun j hj => ?_)⟩
    rw [getElem!_pos d j (by simpa using hj)]; simp
theorem nx {W w1 w2 : World} (h : Below W.heap.size W w1) (hb : Below w1.heap.size w1 w2) : Below W.heap.size W w2 := h.trans (hb.mono h.size)
set_option maxHeartbeats 1000000 in
set_option maxRecDepth 100000 in
theorem sortX (A : Option Addr) (ca : Nat) (L : List St) (w : World) (hL : L.length ≤ 5000) (hA : StAt w A L) : Calls Tryz.prog 120 #[.slice A L.length ca] w (OwnPost (sortL cmpS [] L) w) := by
  go_enter Tryz.func120, Tryz.ntmps120
  go_wp2_with fail
  refine (cloneSt A ca L w (by omega) hA).mono ?_
  rintro e w1 ⟨v, rfl, hown, hb1⟩
  rcases holds_own hown with ⟨rfl, rfl⟩ | ⟨g, cap, rfl, hc, hB, hg, hH⟩
  · clear hown
    go_wp2_with fail
    refine (AnyF.slices_SortFunc_none laidSort none 0 (.func (.func 162) #[] #[]) w1).mono ?_
    rintro e w2 ⟨rfl, rfl⟩
    go_wp2_with fail
    refine (compNone none 0 _).mono ?_
    rintro e w3 ⟨rfl, rfl⟩
    go_wp2_with fail
    go_ret
    exact ⟨_, rfl, .inl ⟨rfl, rfl⟩, hb1⟩
  · have hcm : cap ≤ maxLen := by
      rcases hown.2 with ⟨e, _⟩ | ⟨g', cap', cur, e, _, _, _, hm, _⟩
      · cases e
      · injection e with _ _ e; rw [e]; exact hm
    clear hown
    have HS := Lib.hid (sortSt g 0 cap L.toArray w1 hH hg (by simp; omega))
    have HH := Lib.hid hH
    have HCM := Lib.hid hcm
    clear hH hA hcm
    go_wp2_with fail
    refine (HS.out).mono ?_
    rintro e w2 ⟨rfl, d', n, os, hp, hs, hw2⟩
    have hz : d'.size = L.length := hp.1.trans (by simp)
    have hH2 : HoldsK St.cells 9 w2 g 0 d' := by rw [hw2]; exact holdsK_sortWorldK_c St.cells 9 w1 g 0 L.toArray d' n os HH.out hg (by rw [hz]; simp)
    have hb2 : Below g w1 w2 := by rw [hw2]; exact below_sortK hg
    have hgg : g < w2.heap.size := Nat.lt_of_lt_of_le hg (by rw [hw2]; exact size_sortWorldK_c St.cells 9 w1 g 0 n d' os)
    have HU : Hid (compactUpTo d' d'.size = sortL cmpS [] L) := Lib.hid (sorted_up hp hs)
    have HC := Lib.hid (compSt g cap d' w2 hH2 hgg (by omega) (by omega))
    rw [hz] at HC
    clear hw2 hp hs hH2
    go_wp2_with fail
    refine (HC.out).mono ?_
    rintro e w3 ⟨rfl, hrow, hb3, hz3, hH3⟩
    rw [hz] at HU
    have HE : Hid (OwnPost (sortL cmpS [] L) w (.returned (.slice (some ⟨g, 0, none⟩) (compactUpTo d' L.length).length cap)) w3) := Lib.hid (by
      have hH4 := hH3
      rw [hz, HU.out] at hH4
      have hl := SynDA.sortL_len (c := cmpS) L []
      refine ⟨_, rfl, .inr ⟨g, cap, (sortL cmpS [] L).toArray, by rw [HU.out]; rfl, rfl, ?_, HCM.out, by omega, by omega, hH4⟩, hb1.trans ((hb2.trans (hb3.mono (Nat.le_refl _))).mono hB)⟩
      rw [List.size_toArray]
      simp only [List.length_nil] at hl
      omega)
    clear hrow hb3 hz3 hH3 HU
    go_wp2_with fail
    go_ret
    exact HE.out
theorem OwnPost.nx {L : List St} {w w1 : World} {e : Ending} {w' : World} (h : OwnPost L w1 e w') (hb : Below w.heap.size w w1) : OwnPost L w e w' := by
  obtain ⟨v, he, ho, hb1⟩ := h
  exact ⟨v, he, ho.mono hb.size, StB.nx hb hb1⟩
set_option maxRecDepth 100000 in
theorem gather (b cap : Nat) (R : List RowS) (w : World) (hR : R.length ≤ 5) (hl : ∀ r ∈ R, r.l.length ≤ 1000) (hb : b < w.heap.size) (hc : ∀ j, (h : j < R.length) → w.cell? ⟨b, j, none⟩ = some (.slice R[j].A R[j].l.length R[j].c)) (hr : ∀ r ∈ R, SG w r.A r.l) :
    Calls Tryz.prog 83 #[.slice (some ⟨b, 0, none⟩) R.length cap] w (OwnPost (sortL cmpS [] (flatTo R R.length)) w) := by
  have HC := Lib.hid (concatS b cap R w (by omega) hl hb hc hr)
  have HL := Lib.hid (flatTo_len hl R.length)
  clear hl hb hc hr
  go_enter Tryz.func83, Tryz.ntmps83
  go_wp2_with fail
  refine HC.out.mono ?_
  rintro e w1 ⟨v, rfl, hown, hb1⟩
  obtain ⟨A, ca, rfl, hlc, hAt⟩ := StAt.of_own hown
  have HS := Lib.hid (sortX A ca _ w1 (by have := HL.out; omega) hAt)
  have HB1 := Lib.hid hb1
  clear hown hb1 hAt hlc HC
  go_wp2_with fail
  refine HS.out.mono ?_
  intro e w2 hp
  obtain ⟨v2, rfl, ho2, hb2⟩ := hp
  have HE : Hid (OwnPost (sortL cmpS [] (flatTo R R.length)) w (.returned v2) w2) := Lib.hid (OwnPost.nx ⟨v2, rfl, ho2, hb2⟩ HB1.out)
  clear ho2 hb2 HS
  go_wp2_with fail
  go_ret
  exact HE.out
theorem below_alloc (w : World) (o : Obj) : Below w.heap.size w (w.alloc o) := (Below.refl _ _).alloc (Nat.le_refl _) _
theorem gather2 (A A' : Option Addr) (c c' : Nat) (L M : List St) (w : World) (hL : L.length ≤ 1000) (hM : M.length ≤ 1000) (hA : SG w A L) (hA' : SG w A' M) :
    Calls Tryz.prog 83 #[.slice (some ⟨w.heap.size, 0, none⟩) 2 2] (w.alloc (.cells #[.slice A L.length c, .slice A' M.length c'] 22)) (OwnPost (sortL cmpS [] (L ++ M)) w) := by
  have h := gather w.heap.size 2 [⟨A, c, L⟩, ⟨A', c', M⟩] (w.alloc (.cells #[.slice A L.length c, .slice A' M.length c'] 22)) (by simp) (fun r hr => by simp at hr; rcases hr with rfl | rfl; exact hL; exact hM) (by simp) (fun j hj => by
    have : j = 0 ∨ j = 1 := by simp at hj; omega
    rcases this with rfl | rfl
    · exact Lib.cell_of_heap (heap_alloc_new w _) 0
    · exact Lib.cell_of_heap (heap_alloc_new w _) 1) (fun r hr => by simp at hr; rcases hr with rfl | rfl; exact hA.below (below_alloc w _); exact hA'.below (below_alloc w _))
  have e : flatTo [(⟨A, c, L⟩ : RowS), ⟨A', c', M⟩] 2 = L ++ M := by simp [flatTo]
  have h2 : Calls Tryz.prog 83 #[.slice (some ⟨w.heap.size, 0, none⟩) 2 2] (w.alloc (.cells #[.slice A L.length c, .slice A' M.length c'] 22)) (OwnPost (sortL cmpS [] (flatTo [(⟨A, c, L⟩ : RowS), ⟨A', c', M⟩] 2)) (w.alloc (.cells #[.slice A L.length c, .slice A' M.length c'] 22))) := h
  rw [e] at h2
  exact h2.mono fun _ _ hp => OwnPost.nx hp (below_alloc w _)
end Go.Proofs.YtblapgfilbmdhaaGreatDoor.StB
namespace Go.Proofs.YtblapgfilbmdhaaGreatDoor.StC
open Go.Shelf Go.RowKit Go.Sort Go.Lib Go.Proofs Plain SynP Grown SynC SynD SynD2 SynD3 SynD7 SynD8 PolE StA StB
def Such (B : Nat) (w : World) (v : Value) (p : St → Bool) : Prop := ∃ (F : Nat) (caps : Array Value), v = .func (.func F) #[] caps ∧ (∀ args w, (callFunc F args).run Tryz.prog w = .ok (.enter F args) w) ∧ ∀ w', Below B w w' → ∀ s : St, s.fit → Calls Tryz.prog F (#[s.val] ++ caps) w' fun e wx => e = .returned (.bool (p s)) ∧ Below w'.heap.size w' wx
theorem Such.mono {B B' : Nat} {w : World} {v : Value} {p : St → Bool} (h : Such B w v p) (hB : B ≤ B') : Such B' w v p := by
  obtain ⟨F, caps, e, eg, h⟩ := h
  exact ⟨F, caps, e, eg, fun w' hb => h w' (hb.mono hB)⟩
theorem Such.later {B : Nat} {w w1 : World} {v : Value} {p : St → Bool} (h : Such B w v p) (hb : Below B w w1) : Such B w1 v p := by
  obtain ⟨F, caps, e, eg, h⟩ := h
  exact ⟨F, caps, e, eg, fun w' hb' => h w' (hb.trans hb')⟩
end Go.Proofs.YtblapgfilbmdhaaGreatDoor.StC
