/- The walk of the law of back. -/
import Derived.Test.YtnhjnimgjpgfcaaTblT
import Derived.Test.YtnhjnimgjpgfcaaTblS
import Derived.Test.YtnhjnimgjpgfcaaTblJ
namespace Go.Proofs.Ytnhjnimgjpgfcaa.TblU
open Go.RowKit Go.Sort Go.Lib Go.Proofs Go.Proofs.Ytnhjnimgjpgfcaa.Plain Go.Proofs.Ytnhjnimgjpgfcaa.SynP Go.Proofs.Ytnhjnimgjpgfcaa.SynE Go.Proofs.Ytnhjnimgjpgfcaa.TblM Go.Proofs.Ytnhjnimgjpgfcaa.Grown Go.Proofs.Ytnhjnimgjpgfcaa.TabP Go.Proofs.Ytnhjnimgjpgfcaa.Tab1 Go.Proofs.Ytnhjnimgjpgfcaa.Tab2 Go.Proofs.Ytnhjnimgjpgfcaa.Tab5 Go.Proofs.Ytnhjnimgjpgfcaa.Tab6 Go.Proofs.Ytnhjnimgjpgfcaa.RolK Go.Proofs.Ytnhjnimgjpgfcaa.TblA Go.Proofs.Ytnhjnimgjpgfcaa.TblB Go.Proofs.Ytnhjnimgjpgfcaa.TblC Go.Proofs.Ytnhjnimgjpgfcaa.TblF Go.Proofs.Ytnhjnimgjpgfcaa.TblG Go.Proofs.Ytnhjnimgjpgfcaa.TblI Go.Proofs.Ytnhjnimgjpgfcaa.TblP Go.Proofs.Ytnhjnimgjpgfcaa.TblQ Go.Proofs.Ytnhjnimgjpgfcaa.TblR Go.Proofs.Ytnhjnimgjpgfcaa.TblS Go.Proofs.Ytnhjnimgjpgfcaa.TblT
set_option linter.unusedVariables false
set_option linter.unusedSimpArgs false
theorem infoStr : (Try.prog.info? 9).map (fun i => (i.zero, i.size, i.bytes)) = some (some (.string ⟨#[]⟩), 1, 16) := by kernel_rfl
theorem named_fit {f : Int → Bool} {s : ByteArray} (h : named f s.data.toList = true) : s.size ≤ maxLen := by
  unfold named at h
  rw [Bool.and_eq_true, Bool.and_eq_true, decide_eq_true_eq] at h
  have := h.1.1.2
  rw [toList_len] at this
  unfold maxLen
  omega
theorem ok_light {r : Rl} (h : r.ok = true) : r.light := by
  unfold Rl.ok at h
  rw [Bool.and_eq_true] at h
  exact ⟨named_fit h.1, named_fit h.2⟩
theorem zero_light : zeroR.light := ⟨by decide, by decide⟩
theorem fit_right {s : St} (h : s.right = true) : s.fit := by
  obtain ⟨h1, h2, h3⟩ := own_of_right h
  have hk := kind_of_right h
  obtain ⟨k, hd, wh, ra, rb, v⟩ := s
  simp only at hk h1
  have hd' := ok_light h1
  have hz : noText.size ≤ maxLen := by decide
  rcases hk with rfl | rfl | rfl | rfl
  · rw [h3]
    exact ⟨hd', named_fit (f := capB) h2, zero_light, zero_light, hz⟩
  · rw [h3]
    exact ⟨hd', hz, ok_light h2, zero_light, hz⟩
  · have h2' : (ra.ok && named smallB v.data.toList) = true := h2
    rw [Bool.and_eq_true] at h2'
    rw [h3]
    exact ⟨hd', hz, ok_light h2'.1, zero_light, named_fit h2'.2⟩
  · have h2' : (ra.ok && rb.ok && !decide (cmpR rb ra < 0)) = true := h2
    rw [Bool.and_eq_true, Bool.and_eq_true] at h2'
    rw [h3]
    exact ⟨hd', hz, ok_light h2'.1.1, ok_light h2'.1.2, hz⟩
/-- The texts that may be, of the first k. -/
def filt (f : Int → Bool) (T : List Str) (k : Nat) : List Str := (T.take k).filter (fun s => named f s)
theorem filt_succ {f : Int → Bool} {T : List Str} {k : Nat} (h : k < T.length) : filt f T (k + 1) = if named f T[k] then filt f T k ++ [T[k]] else filt f T k := by
  unfold filt
  rw [List.take_succ_eq_append_getElem h, List.filter_append]
  cases hn : named f T[k] <;> simp [hn]
theorem filt_len (f : Int → Bool) (T : List Str) (k : Nat) : (filt f T k).length ≤ k := by
  unfold filt
  exact Nat.le_trans (List.length_filter_le _ _) (by simp; omega)
theorem own_below {w w' : World} {B n : Nat} {e : TypeId} {k : Nat} {v : Value} {xs : List Value} (h : w.ownsRow B e k v n xs) (hb : RowKit.Below w.heap.size w w') : w'.ownsRow B e k v n xs :=
  h.kept (World.grownBy.mk hb.os hb.tape hb.output hb.size (fun k hk _ => hb.block k hk) : w.grownBy w' none) (by cases hv : v.ownBlock <;> simp)
theorem new_cell1 (w : World) (a : Value) (t : TypeId) : ∀ j u, [a][j]? = some u → (w.alloc (.cells #[a] t)).cell? ((⟨w.heap.size, 0, none⟩ : Addr).add j) = some u := by
  intro j u hu
  have h : (w.alloc (.cells #[a] t)).cell? ⟨w.heap.size, j, none⟩ = #[a][j]? := Lib.cell_of_heap (heap_alloc_new w _) j
  have e : ((⟨w.heap.size, 0, none⟩ : Addr).add j) = ⟨w.heap.size, j, none⟩ := by
    unfold Addr.add
    split
    · rename_i h0; rw [h0]
    · simp
  rw [e, h, ← hu]
  simp
theorem below_own {a w w1 : World} {e : TypeId} {size n B : Nat} {v : Value} {xs : List Value} {o : Obj} (hb : RowKit.Below a.heap.size a w) (hB : a.heap.size ≤ B) (hB2 : B ≤ w.heap.size) (hown : w.ownsRow B e size v n xs) (hg : (w.alloc o).grownBy w1 v.ownBlock) : RowKit.Below a.heap.size a w1 :=
  (hb.alloc hb.size o).grown hg (by have := hb.size; simp; omega) (fun k hk => Nat.le_trans hB (hown.lt k hk).1)
abbrev cS (k : Int) (ho hn wh ao an bo bn v : ByteArray) : Array Value := #[.int .i64 k, .string ho, .string hn, .string wh, .string ao, .string an, .string bo, .string bn, .string v]
/-- The boxes of the arguments. -/
structure Bx (W wx : World) (A B : Option Addr) (n1 n2 ca cb : Nat) (s : St) (u : Ru) : Prop where
  bel : RowKit.Below W.heap.size W wx
  bl : wx.heap[W.heap.size]? = some (.cells #[.slice A n1 ca, .slice B n2 cb] 59 (0, 0))
  bs : wx.heap[W.heap.size + 1]? = some (.cells (St.arr s) 26 (0, 0))
  br : wx.heap[W.heap.size + 2]? = some (.cells u.cells 34 (0, 0))
theorem Bx.below {W wx w' : World} {A B : Option Addr} {n1 n2 ca cb : Nat} {s : St} {u : Ru} (h : Bx W wx A B n1 n2 ca cb s u) (hb : RowKit.Below wx.heap.size wx w') : Bx W w' A B n1 n2 ca cb s u :=
  ⟨nx h.bel hb, (hb.block _ (Array.getElem?_eq_some_iff.1 h.bl).1).trans h.bl, (hb.block _ (Array.getElem?_eq_some_iff.1 h.bs).1).trans h.bs, (hb.block _ (Array.getElem?_eq_some_iff.1 h.br).1).trans h.br⟩
theorem boxes (w : World) (A B : Option Addr) (n1 n2 ca cb : Nat) (s : St) (u : Ru) : Bx w (((w.alloc (.cells #[.slice A n1 ca, .slice B n2 cb] 59)).alloc (.cells (St.arr s) 26)).alloc (.cells u.cells 34)) A B n1 n2 ca cb s u := by
  refine ⟨(((Below.refl w.heap.size w).alloc (Nat.le_refl _) _).alloc (by simp) _).alloc (by simp <;> omega) _, (Below.heap_alloc _ _ _ (by simp <;> omega)).trans (heap_alloc2_old w _ _), (Below.heap_alloc _ _ _ (by simp)).trans (heap_alloc2_new w _ _), ?_⟩
  have e := heap_alloc_new ((w.alloc (.cells #[.slice A n1 ca, .slice B n2 cb] 59)).alloc (.cells (St.arr s) 26)) (.cells u.cells 34)
  have hz : ((w.alloc (.cells #[.slice A n1 ca, .slice B n2 cb] 59)).alloc (.cells (St.arr s) 26)).heap.size = w.heap.size + 2 := by simp
  rw [hz] at e
  exact e
set_option maxHeartbeats 4000000 in
set_option maxRecDepth 100000 in
theorem walk (A B : Option Addr) (ca cb : Nat) (P0 L0 : List Str) (s : St) (u : Ru) (w : World) (hP : P0.length ≤ maxLen) (hwP : ∀ x ∈ P0, x.length ≤ maxLen) (hA : SRow w A P0) (hL : L0.length ≤ maxLen) (hwL : ∀ x ∈ L0, x.length ≤ maxLen) (hB : SRow w B L0)
    (hf : s.fit) : Calls Try.prog 5 #[.agg #[.slice A P0.length ca, .slice B L0.length cb], s.val, u.val] w fun e w' => e = .returned (.bool true) ∧ RowKit.Below w.heap.size w w' := by
  have hl := TblM.light s
  have HF := Lib.hid hf
  have hbx := boxes w A B P0.length L0.length ca cb s u
  have HRA := Lib.hid (fun w' (hb : RowKit.Below w.heap.size w w') => hA.keep hb)
  have HRB := Lib.hid (fun w' (hb : RowKit.Below w.heap.size w w') => hB.keep hb)
  have HA := Lib.hid (fun w' hb => Tab6.light A ca P0 w' hP hwP (HRA.out w' hb))
  have HBl := Lib.hid (fun w' hb => Tab6.light B cb L0 w' hL hwL (HRB.out w' hb))
  have HWP := Lib.hid hwP
  have HWL := Lib.hid hwL
  clear hA hB hf hwP hwL
  obtain ⟨k, ⟨ho, hn⟩, wh, ⟨ao, an⟩, ⟨bo, bn⟩, v⟩ := s
  obtain ⟨uk, uh, ux, ua, ub, uv⟩ := u
  unfold St.val Ru.val at *
  unfold St.arr Ru.cells at hbx
  simp only at *
  have HL := Lib.hid hl
  clear hl
  go_enter Try.func5, Try.ntmps5
  go_upto_region 1 with fail
  generalize ((w.alloc (.cells #[.slice A P0.length ca, .slice B L0.length cb] 59)).alloc (.cells #[.int .i64 k, .string ho, .string hn, .string wh, .string ao, .string an, .string bo, .string bn, .string v] 26)).alloc (.cells #[.int .i64 uk, .int .i64 uh, .int .i64 ux, .int .i64 ua, .int .i64 ub, .int .i64 uv] 34) = w3 at *
  have HBX := Lib.hid hbx
  have hcl : ∀ o, w3.cell? ⟨w.heap.size, o, none⟩ = (#[.slice A P0.length ca, .slice B L0.length cb] : Array Value)[o]? := fun o => Lib.cell_of_heap HBX.out.bl o
  clear hbx
  go_quiet (fail)
  have HX4 := Lib.hid (HBX.out.below (below_drewN (Below.refl w3.heap.size w3) nq))
  generalize w3.drewN nq = w4 at *
  clear hcl HBX
  obtain ⟨sb, hsb⟩ : ∃ sb, w.heap.size + 1 = sb := ⟨_, rfl⟩
  obtain ⟨rb, hrb⟩ : ∃ rb, sb + 1 = rb := ⟨_, rfl⟩
  have HC : Hid (∀ w', RowKit.Below w4.heap.size w4 w' → RowKit.Below w.heap.size w w' ∧ w'.heap[sb]? = some (.cells #[.int .i64 k, .string ho, .string hn, .string wh, .string ao, .string an, .string bo, .string bn, .string v] 26 (0, 0)) ∧ w'.heap[rb]? = some (.cells #[.int .i64 uk, .int .i64 uh, .int .i64 ux, .int .i64 ua, .int .i64 ub, .int .i64 uv] 34 (0, 0))) := Lib.hid (fun w' hb => by
    have h := HX4.out.below hb
    refine ⟨h.bel, ?_, ?_⟩
    · rw [← hsb]; exact h.bs
    · rw [← hrb, ← hsb]; exact h.br)
  clear HX4
  rw [hsb, hrb]
  clear hsb hrb
  have hb4 := Below.refl w4.heap.size w4
  have HA4 := Lib.hid (HA.out w4 (HC.out w4 hb4).1)
  have HB4 := Lib.hid (HBl.out w4 (HC.out w4 hb4).1)
  clear HA HBl
  cases h1 : lightB P0 with
  | false =>
    rw [h1] at HA4
    go_wp2_with fail
    refine HA4.out.mono ?_
    rintro e w5 ⟨rfl, rfl⟩
    go_wp2_with fail
    refine (lives _).mono ?_
    rintro e w6 ⟨rfl, hb⟩
    have HG := Lib.hid (nx (HC.out _ hb4).1 hb)
    clear hb
    go_wp2_with fail
    go_ret
    exact ⟨rfl, HG.out⟩
  | true =>
  rw [h1] at HA4
  cases h2 : lightB L0 with
  | false =>
    rw [h2] at HB4
    go_wp2_with fail
    refine HA4.out.mono ?_
    rintro e w5 ⟨rfl, rfl⟩
    go_wp2_with fail
    refine HB4.out.mono ?_
    rintro e w5 ⟨rfl, rfl⟩
    go_wp2_with fail
    refine (lives _).mono ?_
    rintro e w6 ⟨rfl, hb⟩
    have HG := Lib.hid (nx (HC.out _ hb4).1 hb)
    clear hb
    go_wp2_with fail
    go_ret
    exact ⟨rfl, HG.out⟩
  | true =>
  rw [h2] at HB4
  have l1 := TblJ.light40 h1
  have l2 := TblJ.light40 h2
  clear h1 h2
  have cs4 : ∀ o, w4.cell? ⟨sb, o, none⟩ = (#[.int .i64 k, .string ho, .string hn, .string wh, .string ao, .string an, .string bo, .string bn, .string v] : Array Value)[o]? := fun o => Lib.cell_of_heap (HC.out w4 hb4).2.1 o
  cases h3 : lightS ⟨k, ⟨ho, hn⟩, wh, ⟨ao, an⟩, ⟨bo, bn⟩, v⟩ with
  | false =>
    rw [h3] at HL
    go_wp2_with fail
    refine HA4.out.mono ?_
    rintro e w5 ⟨rfl, rfl⟩
    go_wp2_with fail
    refine HB4.out.mono ?_
    rintro e w5 ⟨rfl, rfl⟩
    go_wp2_with fail
    refine (HL.out _).mono ?_
    rintro e w5 ⟨rfl, hg⟩
    have HF5 := Lib.hid (nx (HC.out _ hb4).1 hg.below)
    clear hg
    go_wp2_with fail
    refine (lives _).mono ?_
    rintro e w6 ⟨rfl, hb⟩
    have HG := Lib.hid (nx HF5.out hb)
    clear hb
    go_wp2_with fail
    go_ret
    exact ⟨rfl, HG.out⟩
  | true =>
  rw [h3] at HL
  clear h3
  go_wp2_with fail
  refine HA4.out.mono ?_
  rintro e w5 ⟨rfl, rfl⟩
  go_wp2_with fail
  refine HB4.out.mono ?_
  rintro e w5 ⟨rfl, rfl⟩
  go_wp2_with fail
  refine (HL.out _).mono ?_
  rintro e w5 ⟨rfl, hg⟩
  have HB5 := Lib.hid hg.below
  clear hg cs4 HA4 HB4 HL hb4
  obtain ⟨i0, hi, hz0, hz1, hz2⟩ := info_parts infoStr
  go_wp2_with fail
  go_loopw [9, 47] (fun l i wr => ∃ j : Nat, j ≤ P0.length ∧ i = .int .i64 j ∧ Hid (wr.ownsRow w5.heap.size 9 1 l (filt capB P0 j).length ((filt capB P0 j).map encStr)) ∧ RowKit.Below w5.heap.size w5 wr) (fun _ i _ => P0.length - (intOf i).toNat)
  case atStart => exact ⟨0, by omega, rfl, Lib.hid (World.ownsRow_nil _ _ _ _), Below.refl _ _⟩
  case round =>
    obtain ⟨j, hj, rfl, hown, hb⟩ := hrel
    by_cases hlt : j < P0.length
    · have d1 : decide ((j : Int) < P0.length) = true := by simp; omega
      have p0 : (0 : Int) ≤ j := by omega
      have p1 : (j : Int) < P0.length := by omega
      obtain ⟨g, o, rfl, hg, hcell⟩ := (HRA.out _ (HC.out _ (nx HB5.out hb)).1) (by omega)
      have a0 := hcell j hlt
      have HIP := Lib.hid (fun w' => RefN.refIsPrin ⟨P0[j].toArray⟩ w' (by have := HWP.out _ (List.getElem_mem hlt); show P0[j].toArray.size ≤ maxLen; simpa using this))
      have hdat : (⟨P0[j].toArray⟩ : ByteArray).data.toList = P0[j] := by simp
      rw [hdat] at HIP
      have HS := Lib.hid (filt_succ (f := capB) hlt)
      have hll := filt_len capB P0 j
      have hen : encStr P0[j] = .string ⟨P0[j].toArray⟩ := rfl
      have HE := Lib.hid hen
      have HBk := Lib.hid hb
      have hz5 : w5.heap.size ≤ wr.heap.size := hb.size
      clear hcell hdat hen hb
      generalize (⟨P0[j].toArray⟩ : ByteArray) = x at *
      cases hn1 : named capB P0[j] with
      | true =>
        rw [hn1] at HIP HS
        have HSk : Hid (filt capB P0 (j + 1) = filt capB P0 j ++ [P0[j]]) := Lib.hid HS.out
        clear hn1 HS
        go_wp2_with fail
        refine (HIP.out _).mono ?_
        rintro e w6 ⟨rfl, rfl⟩
        have hown2 := hown.out
        clear a0
        go_wp2_with (at_builtin; refine wpList_append_own _ rfl _ _ 22 rfl w5.heap.size 9 i0 (.string ⟨#[]⟩) 1 16 Try.underlying22 hi hz0 hz1 hz2 rfl (by decide) _ _ _ rfl (hown2.alloc _) ⟨wr.heap.size, 0, none⟩ 1 1 [.string x] rfl rfl ?c1 ?c2 ?c3 ?c4 ?c5 ?_)
        case c1 => exact new_cell1 _ _ _
        case c2 => intro u hu; simp at hu; subst hu; rfl
        case c3 => unfold maxLen; omega
        case c4 => omega
        case c5 => simp; omega
        intro v' w7 hown' hgrow _
        have hown3 : w7.ownsRow w5.heap.size 9 1 v' (filt capB P0 (j + 1)).length ((filt capB P0 (j + 1)).map encStr) := by
          rw [HSk.out, List.map_append, List.length_append, List.map_cons, List.map_nil, HE.out]
          exact hown'
        have HO3 := Lib.hid hown3
        have HB3 := Lib.hid (below_own HBk.out (Nat.le_refl _) hz5 hown2 hgrow)
        clear hown' hown2 hgrow hown3 hown
        go_wp2_with fail
        go_roundw
        case rel => exact ⟨j + 1, by omega, by go_num, HO3, HB3.out⟩
        case measure => simp [intOf]; omega
      | false =>
        rw [hn1] at HIP HS
        have HSk : Hid (filt capB P0 (j + 1) = filt capB P0 j) := Lib.hid HS.out
        clear hn1 HS
        go_wp2_with fail
        refine (HIP.out _).mono ?_
        rintro e w6 ⟨rfl, rfl⟩
        clear a0
        go_wp2_with fail
        go_roundw
        case rel => exact ⟨j + 1, by omega, by go_num, Lib.hid (by rw [HSk.out]; exact hown.out), HBk.out⟩
        case measure => simp [intOf]; omega
    · have d1 : decide ((j : Int) < P0.length) = false := by simp; omega
      have hjn : j = P0.length := by omega
      subst hjn
      have ho1 := hown.out
      obtain ⟨A3, c3, rfl, _, hr3⟩ := SRow.of_own ho1
      have HR3 := Lib.hid hr3
      have HB6 := Lib.hid (nx HB5.out hb)
      have hg3 := filt_len capB P0 P0.length
      have HG1 : Hid (∀ x ∈ tab (filt capB P0 P0.length), named capB x = true) := Lib.hid (fun x hx => by
        rw [mem_tab] at hx
        unfold filt at hx
        exact (List.mem_filter.1 hx).2)
      clear ho1 hr3 hown hb HRA HWP HB5 hj
      generalize filt capB P0 P0.length = G at *
      generalize wr = w8 at *
      go_wp2_with fail
      go_loopw [10, 60] (fun l i wr => ∃ j : Nat, j ≤ L0.length ∧ i = .int .i64 j ∧ Hid (wr.ownsRow w8.heap.size 9 1 l (filt smallB L0 j).length ((filt smallB L0 j).map encStr)) ∧ RowKit.Below w8.heap.size w8 wr) (fun _ i _ => L0.length - (intOf i).toNat)
      case atStart => exact ⟨0, by omega, rfl, Lib.hid (World.ownsRow_nil _ _ _ _), Below.refl _ _⟩
      case round =>
        obtain ⟨j, hj, rfl, hown, hb⟩ := hrel
        by_cases hlt : j < L0.length
        · have d1 : decide ((j : Int) < L0.length) = true := by simp; omega
          have p0 : (0 : Int) ≤ j := by omega
          have p1 : (j : Int) < L0.length := by omega
          obtain ⟨g, o, rfl, hg, hcell⟩ := (HRB.out _ (HC.out _ (nx HB6.out hb)).1) (by omega)
          have a0 := hcell j hlt
          have HIN := Lib.hid (fun w' => RefN.refIsName ⟨L0[j].toArray⟩ w' (by have := HWL.out _ (List.getElem_mem hlt); show L0[j].toArray.size ≤ maxLen; simpa using this))
          have hdat : (⟨L0[j].toArray⟩ : ByteArray).data.toList = L0[j] := by simp
          rw [hdat] at HIN
          have HS := Lib.hid (filt_succ (f := smallB) hlt)
          have hll := filt_len smallB L0 j
          have hen : encStr L0[j] = .string ⟨L0[j].toArray⟩ := rfl
          have HE := Lib.hid hen
          have HBk := Lib.hid hb
          have hz5 : w8.heap.size ≤ wr.heap.size := hb.size
          clear hcell hdat hen hb
          generalize (⟨L0[j].toArray⟩ : ByteArray) = x at *
          cases hn1 : named smallB L0[j] with
          | true =>
            rw [hn1] at HIN HS
            have HSk : Hid (filt smallB L0 (j + 1) = filt smallB L0 j ++ [L0[j]]) := Lib.hid HS.out
            clear hn1 HS
            go_wp2_with fail
            refine (HIN.out _).mono ?_
            rintro e w6 ⟨rfl, rfl⟩
            have hown2 := hown.out
            clear a0
            go_wp2_with (at_builtin; refine wpList_append_own _ rfl _ _ 22 rfl w8.heap.size 9 i0 (.string ⟨#[]⟩) 1 16 Try.underlying22 hi hz0 hz1 hz2 rfl (by decide) _ _ _ rfl (hown2.alloc _) ⟨wr.heap.size, 0, none⟩ 1 1 [.string x] rfl rfl ?c1 ?c2 ?c3 ?c4 ?c5 ?_)
            case c1 => exact new_cell1 _ _ _
            case c2 => intro u hu; simp at hu; subst hu; rfl
            case c3 => unfold maxLen; omega
            case c4 => omega
            case c5 => simp; omega
            intro v' w7 hown' hgrow _
            have hown3 : w7.ownsRow w8.heap.size 9 1 v' (filt smallB L0 (j + 1)).length ((filt smallB L0 (j + 1)).map encStr) := by
              rw [HSk.out, List.map_append, List.length_append, List.map_cons, List.map_nil, HE.out]
              exact hown'
            have HO3 := Lib.hid hown3
            have HB3 := Lib.hid (below_own HBk.out (Nat.le_refl _) hz5 hown2 hgrow)
            clear hown' hown2 hgrow hown3 hown
            go_wp2_with fail
            go_roundw
            case rel => exact ⟨j + 1, by omega, by go_num, HO3, HB3.out⟩
            case measure => simp [intOf]; omega
          | false =>
            rw [hn1] at HIN HS
            have HSk : Hid (filt smallB L0 (j + 1) = filt smallB L0 j) := Lib.hid HS.out
            clear hn1 HS
            go_wp2_with fail
            refine (HIN.out _).mono ?_
            rintro e w6 ⟨rfl, rfl⟩
            clear a0
            go_wp2_with fail
            go_roundw
            case rel => exact ⟨j + 1, by omega, by go_num, Lib.hid (by rw [HSk.out]; exact hown.out), HBk.out⟩
            case measure => simp [intOf]; omega
        · have d1 : decide ((j : Int) < L0.length) = false := by simp; omega
          have hjn : j = L0.length := by omega
          subst hjn
          have ho1 := hown.out
          obtain ⟨A4, c4, rfl, _, hr4⟩ := SRow.of_own ho1
          have HR4 := Lib.hid hr4
          have HR3b := Lib.hid (HR3.out.keep hb)
          have HB9 := Lib.hid (nx HB6.out hb)
          have hg4 := filt_len smallB L0 L0.length
          have HG2 : Hid (∀ x ∈ tab (filt smallB L0 L0.length), named smallB x = true) := Lib.hid (fun x hx => by
            rw [mem_tab] at hx
            unfold filt at hx
            exact (List.mem_filter.1 hx).2)
          clear ho1 hr4 hown hb HRB HWL HB6 HR3 hj
          generalize filt smallB L0 L0.length = G2 at *
          have HNW := Lib.hid (newT A3 A4 c3 c4 G G2 wr (by omega) (by omega) HR3b.out HR4.out)
          unfold NewTPost at HNW
          have q1 : (tab G).length ≤ 40 := by have := tab_len_le G; omega
          have q2 : (tab G2).length ≤ 40 := by have := tab_len_le G2; omega
          have HGD : Hid (TblT.Good (tab G) (tab G2)) := Lib.hid ⟨HG1.out, HG2.out⟩
          have s1 := tab_sorted G
          have s2 := tab_sorted G2
          clear HG1 HG2 HR3b HR4 hg3 hg4
          generalize tab G = P at *
          generalize tab G2 = L at *
          go_wp2_with fail
          refine HNW.out.mono ?_
          rintro e w9 ⟨t, a, b, A1, c1, A2, c2, rfl, hT, hb⟩
          have HC9 : Hid (∀ w', RowKit.Below w9.heap.size w9 w' → RowKit.Below w.heap.size w w' ∧ TblK w' t a b A1 c1 A2 c2 P L ∧ w'.heap[sb]? = some (.cells #[.int .i64 k, .string ho, .string hn, .string wh, .string ao, .string an, .string bo, .string bn, .string v] 26 (0, 0)) ∧ w'.heap[rb]? = some (.cells #[.int .i64 uk, .int .i64 uh, .int .i64 ux, .int .i64 ua, .int .i64 ub, .int .i64 uv] 34 (0, 0))) := Lib.hid (fun w' hb2 => by
            obtain ⟨x1, x2, x3⟩ := HC.out w' (nx (nx HB9.out hb) hb2)
            exact ⟨x1, hT.keep hb2, x2, x3⟩)
          clear hT hb HB9 HC HNW
          have hb9 := Below.refl w9.heap.size w9
          have HRl := Lib.hid (rule w9 (HC9.out w9 hb9).2.1 (⟨k, ⟨ho, hn⟩, wh, ⟨ao, an⟩, ⟨bo, bn⟩, v⟩ : St) HF.out)
          have HSt := Lib.hid (fun w' (hb : RowKit.Below w9.heap.size w9 w') (u : Ru) => stmt_ w' (HC9.out w' hb).2.1 u (by omega) (by omega))
          have HTh : Hid (ruleOk P L (⟨k, ⟨ho, hn⟩, wh, ⟨ao, an⟩, ⟨bo, bn⟩, v⟩ : St) = true → ruleA P L (⟨k, ⟨ho, hn⟩, wh, ⟨ao, an⟩, ⟨bo, bn⟩, v⟩ : St) = ruleV P L (⟨k, ⟨ho, hn⟩, wh, ⟨ao, an⟩, ⟨bo, bn⟩, v⟩ : St) ∧ rightU P.length L.length (ruleV P L (⟨k, ⟨ho, hn⟩, wh, ⟨ao, an⟩, ⟨bo, bn⟩, v⟩ : St)) = true ∧ stA P L (ruleV P L (⟨k, ⟨ho, hn⟩, wh, ⟨ao, an⟩, ⟨bo, bn⟩, v⟩ : St)) = (⟨k, ⟨ho, hn⟩, wh, ⟨ao, an⟩, ⟨bo, bn⟩, v⟩ : St)) := Lib.hid (fun h => by
            obtain ⟨x1, x2⟩ := there h
            exact ⟨by unfold ruleA; rw [h]; rfl, x1, x2⟩)
          unfold RulePost at HRl
          unfold StmtPost at HSt
          have cs9 : ∀ o, w9.cell? ⟨sb, o, none⟩ = (#[.int .i64 k, .string ho, .string hn, .string wh, .string ao, .string an, .string bo, .string bn, .string v] : Array Value)[o]? := fun o => Lib.cell_of_heap (HC9.out w9 hb9).2.2.1 o
          generalize ruleV P L (⟨k, ⟨ho, hn⟩, wh, ⟨ao, an⟩, ⟨bo, bn⟩, v⟩ : St) = vU at *
          generalize ruleA P L (⟨k, ⟨ho, hn⟩, wh, ⟨ao, an⟩, ⟨bo, bn⟩, v⟩ : St) = aU at *
          generalize ruleOk P L (⟨k, ⟨ho, hn⟩, wh, ⟨ao, an⟩, ⟨bo, bn⟩, v⟩ : St) = ok at *
          unfold St.val at HRl
          simp only at HRl
          obtain ⟨e0, e1, e2, e3, e4, e5⟩ := aU
          simp only [Ru.cells] at HRl
          clear hb9
          go_wp2_with fail
          refine HRl.out.mono ?_
          rintro e w10 ⟨rfl, hb⟩
          have HB10 := Lib.hid (nx hb ((Below.refl w10.heap.size w10).alloc (Nat.le_refl _) (.cells #[.int .i64 e0, .int .i64 e1, .int .i64 e2, .int .i64 e3, .int .i64 e4, .int .i64 e5] 34)))
          have HY10 := Lib.hid (heap_alloc_new w10 (.cells #[.int .i64 e0, .int .i64 e1, .int .i64 e2, .int .i64 e3, .int .i64 e4, .int .i64 e5] 34))
          clear hb HRl cs9
          go_upto_if 80 with fail
          generalize w10.alloc (.cells #[.int .i64 e0, .int .i64 e1, .int .i64 e2, .int .i64 e3, .int .i64 e4, .int .i64 e5] 34) = w11 at *
          go_cut [80] from 74 to 93 (fun p wx => Hid (RowKit.Below w9.heap.size w9 wx))
          case first =>
            cases ok with
            | false =>
              go_wp2_with fail
              go_meet
              exact HB10
            | true =>
              obtain ⟨x1, x2, x3⟩ := HTh.out rfl
              have HS1 := Lib.hid (HSt.out w11 HB10.out vU)
              rw [x2, x3, ← x1] at HS1
              unfold Ru.val St.arr at HS1
              simp only at HS1
              have hne := neS k ho hn wh ao an bo bn v k ho hn wh ao an bo bn v
              simp only [decide_true, Bool.not_true] at hne
              have c11 : ∀ o, w11.cell? ⟨w10.heap.size, o, none⟩ = (#[.int .i64 e0, .int .i64 e1, .int .i64 e2, .int .i64 e3, .int .i64 e4, .int .i64 e5] : Array Value)[o]? := fun o => Lib.cell_of_heap HY10.out o
              clear x1 x2 x3
              go_wp2_with fail
              refine HS1.out.mono ?_
              rintro e w12 ⟨rfl, hb⟩
              have hB13 := nx (nx HB10.out hb) ((Below.refl w12.heap.size w12).alloc (Nat.le_refl _) (.cells #[.int .i64 k, .string ho, .string hn, .string wh, .string ao, .string an, .string bo, .string bn, .string v] 26))
              have HB13 := Lib.hid hB13
              have c13 : ∀ o, (w12.alloc (.cells #[.int .i64 k, .string ho, .string hn, .string wh, .string ao, .string an, .string bo, .string bn, .string v] 26)).cell? ⟨sb, o, none⟩ = (#[.int .i64 k, .string ho, .string hn, .string wh, .string ao, .string an, .string bo, .string bn, .string v] : Array Value)[o]? := fun o => Lib.cell_of_heap (HC9.out _ hB13).2.2.1 o
              have d13 : ∀ o, (w12.alloc (.cells #[.int .i64 k, .string ho, .string hn, .string wh, .string ao, .string an, .string bo, .string bn, .string v] 26)).cell? ⟨w12.heap.size, o, none⟩ = (#[.int .i64 k, .string ho, .string hn, .string wh, .string ao, .string an, .string bo, .string bn, .string v] : Array Value)[o]? := fun o => Lib.cell_of_heap (heap_alloc_new w12 _) o
              clear hb hB13 c11
              go_wp2_with fail
              go_meet
              exact HB13
          case rest =>
            have HBc := hcut
            clear HB10 HY10 HTh
            have HS2 := Lib.hid (HSt.out wc HBc.out (⟨uk, uh, ux, ua, ub, uv⟩ : Ru))
            have HBk : Hid (rightU P.length L.length (⟨uk, uh, ux, ua, ub, uv⟩ : Ru) = true → (stA P L (⟨uk, uh, ux, ua, ub, uv⟩ : Ru)).fit ∧ (stA P L (⟨uk, uh, ux, ua, ub, uv⟩ : Ru)).right = true ∧ ruleOk P L (stA P L (⟨uk, uh, ux, ua, ub, uv⟩ : Ru)) = true ∧ (ruleA P L (stA P L (⟨uk, uh, ux, ua, ub, uv⟩ : Ru)) = (⟨uk, uh, ux, ua, ub, uv⟩ : Ru) ∨ (uk = 4 ∧ ux = 0 ∧ uv = 0 ∧ ruleA P L (stA P L (⟨uk, uh, ux, ua, ub, uv⟩ : Ru)) = ⟨4, uh, 0, ub, ua, 0⟩))) := Lib.hid (fun h => by
              obtain ⟨x1, x2, x3⟩ := back s1 s2 HGD.out h
              have e : ruleA P L (stA P L (⟨uk, uh, ux, ua, ub, uv⟩ : Ru)) = ruleV P L (stA P L (⟨uk, uh, ux, ua, ub, uv⟩ : Ru)) := by unfold ruleA; rw [x2]; rfl
              refine ⟨fit_right x1, x1, x2, ?_⟩
              rw [e]
              rcases x3 with x3 | ⟨y1, y2, y3⟩
              · exact Or.inl x3
              · injection y3 with z1 _ z2 _ _ z3
                exact Or.inr ⟨z1, z2, z3, y2⟩)
            have HRg := Lib.hid (fun w' => right_ P.length L.length (⟨uk, uh, ux, ua, ub, uv⟩ : Ru) w' (by omega) (by omega))
            have HRu := Lib.hid (fun w' (hb : RowKit.Below w9.heap.size w9 w') hf => rule w' (HC9.out w' hb).2.1 (stA P L (⟨uk, uh, ux, ua, ub, uv⟩ : Ru)) hf)
            have HRr := Lib.hid (fun w' hf => Syn9.rightRef (stA P L (⟨uk, uh, ux, ua, ub, uv⟩ : Ru)) w' hf)
            unfold RulePost at HRu
            unfold Ru.val at HS2 HRg
            generalize ruleA P L (stA P L (⟨uk, uh, ux, ua, ub, uv⟩ : Ru)) = yU at *
            generalize ruleOk P L (stA P L (⟨uk, uh, ux, ua, ub, uv⟩ : Ru)) = yok at *
            generalize rightU P.length L.length (⟨uk, uh, ux, ua, ub, uv⟩ : Ru) = ok2 at *
            generalize stA P L (⟨uk, uh, ux, ua, ub, uv⟩ : Ru) = xS at *
            obtain ⟨k', ⟨ho', hn'⟩, wh', ⟨ao', an'⟩, ⟨bo', bn'⟩, v'⟩ := xS
            obtain ⟨f0, f1, f2, f3, f4, f5⟩ := yU
            unfold St.val at HRu HRr
            unfold St.arr at HS2
            simp only [Ru.cells] at HS2 HRu HRr HRg
            clear HSt s1 s2 HGD
            have cr : ∀ o, wc.cell? ⟨rb, o, none⟩ = (#[.int .i64 uk, .int .i64 uh, .int .i64 ux, .int .i64 ua, .int .i64 ub, .int .i64 uv] : Array Value)[o]? := fun o => Lib.cell_of_heap (HC9.out wc HBc.out).2.2.2 o
            go_wp2_with fail
            refine HS2.out.mono ?_
            rintro e w14 ⟨rfl, hb⟩
            have HB15 := Lib.hid (nx (nx HBc.out hb) ((Below.refl w14.heap.size w14).alloc (Nat.le_refl _) (.cells #[.int .i64 k', .string ho', .string hn', .string wh', .string ao', .string an', .string bo', .string bn', .string v'] 26)))
            have HY15 := Lib.hid (heap_alloc_new w14 (.cells #[.int .i64 k', .string ho', .string hn', .string wh', .string ao', .string an', .string bo', .string bn', .string v'] 26))
            clear hb cr HS2 HBc hcut
            go_upto_region 24 with fail
            generalize w14.alloc (.cells #[.int .i64 k', .string ho', .string hn', .string wh', .string ao', .string an', .string bo', .string bn', .string v'] 26) = w15 at *
            have HS15 : Hid (∀ w', RowKit.Below w15.heap.size w15 w' → RowKit.Below w15.heap.size w15 w' ∧ (∀ o, w'.cell? ⟨rb, o, none⟩ = (#[.int .i64 uk, .int .i64 uh, .int .i64 ux, .int .i64 ua, .int .i64 ub, .int .i64 uv] : Array Value)[o]?)) := Lib.hid (fun w' hb => ⟨hb, fun o => Lib.cell_of_heap (HC9.out w' (nx HB15.out hb)).2.2.2 o⟩)
            have HPr := Lib.hid (fun w' (hb : RowKit.Below w15.heap.size w15 w') => prins (HC9.out w' (nx HB15.out hb)).2.1)
            have HLi := Lib.hid (fun w' (hb : RowKit.Below w15.heap.size w15 w') => links (HC9.out w' (nx HB15.out hb)).2.1)
            have HLa := Lib.hid (fun w' (hb : RowKit.Below w15.heap.size w15 w') => Tab1.len w' a A1 P.length c1 (HC9.out w' (nx HB15.out hb)).2.1.a0)
            have HLb := Lib.hid (fun w' (hb : RowKit.Below w15.heap.size w15 w') => Tab1.len w' b A2 L.length c2 (HC9.out w' (nx HB15.out hb)).2.1.b0)
            go_region_held3 (fun w' => RowKit.Below w15.heap.size w15 w' ∧ (∀ o, w'.cell? ⟨rb, o, none⟩ = (#[.int .i64 uk, .int .i64 uh, .int .i64 ux, .int .i64 ua, .int .i64 ub, .int .i64 uv] : Array Value)[o]?))
              (first | with_reducible assumption | exact HS15.out _ ((Below.refl _ _).drew) | exact HS15.out _ (nx (by apply And.left; with_reducible assumption) (by with_reducible assumption)))
              (first | ((with_reducible refine (HPr.out _ (by apply And.left; with_reducible assumption)).mono ?_); rintro e w' ⟨rfl, rfl⟩)
                     | ((with_reducible refine (HLi.out _ (by apply And.left; with_reducible assumption)).mono ?_); rintro e w' ⟨rfl, rfl⟩)
                     | ((with_reducible refine (HLa.out _ (by apply And.left; with_reducible assumption)).mono ?_); rintro e w' ⟨rfl, rfl⟩)
                     | ((with_reducible refine (HLb.out _ (by apply And.left; with_reducible assumption)).mono ?_); rintro e w' ⟨rfl, rfl⟩)
                     | ((with_reducible refine (HRg.out _).mono ?_); rintro e w16 ⟨rfl, hgb⟩))
            rename_i hHeld
            have HB16 := Lib.hid (nx HB15.out hHeld.1)
            have HY16 := Lib.hid ((hHeld.1.block _ (Array.getElem?_eq_some_iff.1 HY15.out).1).trans HY15.out)
            clear hHeld hgb HB15 HY15 HS15 HPr HLi HLa HLb HRg
            go_upto_if 110 with fail
            go_cut [110] from 111 to 154 (fun p wx => Hid (RowKit.Below w9.heap.size w9 wx))
            case first =>
              cases ok2 with
              | false =>
                go_wp2_with fail
                go_meet
                exact HB16
              | true =>
                obtain ⟨x0, x1, x2, x3⟩ := HBk.out rfl
                subst x2
                have HU1 := Lib.hid (HRu.out w16 HB16.out x0)
                have HR1 := Lib.hid (fun w' => HRr.out w' x0)
                rw [x1] at HR1
                have c16 : ∀ o, w16.cell? ⟨w14.heap.size, o, none⟩ = (#[.int .i64 k', .string ho', .string hn', .string wh', .string ao', .string an', .string bo', .string bn', .string v'] : Array Value)[o]? := fun o => Lib.cell_of_heap HY16.out o
                clear x0 x1 HRu HRr HBk
                go_wp2_with fail
                refine HU1.out.mono ?_
                rintro e w17 ⟨rfl, hb⟩
                have hb18 : RowKit.Below w17.heap.size w17 (w17.alloc (.cells #[.int .i64 f0, .int .i64 f1, .int .i64 f2, .int .i64 f3, .int .i64 f4, .int .i64 f5] 34)) := (Below.refl _ _).alloc (Nat.le_refl _) _
                have HB18 := Lib.hid (nx (nx HB16.out hb) hb18)
                have hz17 := hb.size
                have hlt16 := (Array.getElem?_eq_some_iff.1 HY16.out).1
                have HY18 := Lib.hid ((hb18.block _ (by omega)).trans ((hb.block _ hlt16).trans HY16.out))
                have HZ18 := Lib.hid (heap_alloc_new w17 (.cells #[.int .i64 f0, .int .i64 f1, .int .i64 f2, .int .i64 f3, .int .i64 f4, .int .i64 f5] 34))
                clear hb hb18 c16 HU1 hz17 hlt16
                go_upto_region 28 with fail
                generalize w17.alloc (.cells #[.int .i64 f0, .int .i64 f1, .int .i64 f2, .int .i64 f3, .int .i64 f4, .int .i64 f5] 34) = w18 at *
                have c18 : ∀ o, w18.cell? ⟨w14.heap.size, o, none⟩ = (#[.int .i64 k', .string ho', .string hn', .string wh', .string ao', .string an', .string bo', .string bn', .string v'] : Array Value)[o]? := fun o => Lib.cell_of_heap HY18.out o
                go_wp2_with fail
                refine (HR1.out _).mono ?_
                rintro e w19 ⟨rfl, hg⟩
                have HB19 := Lib.hid (nx HB18.out hg.below)
                have hz18 := (Array.getElem?_eq_some_iff.1 HZ18.out).1
                have c19 : ∀ o, w19.cell? ⟨w17.heap.size, o, none⟩ = (#[.int .i64 f0, .int .i64 f1, .int .i64 f2, .int .i64 f3, .int .i64 f4, .int .i64 f5] : Array Value)[o]? := fun o => Lib.cell_of_heap ((hg.below.block _ hz18).trans HZ18.out) o
                have d19 : ∀ o, w19.cell? ⟨rb, o, none⟩ = (#[.int .i64 uk, .int .i64 uh, .int .i64 ux, .int .i64 ua, .int .i64 ub, .int .i64 uv] : Array Value)[o]? := fun o => Lib.cell_of_heap (HC9.out w19 HB19.out).2.2.2 o
                clear hg c18 HR1 HY18 HZ18 HB18 hz18
                rcases x3 with x3 | ⟨rfl, rfl, rfl, x3⟩
                · injection x3 with z0 z1 z2 z3 z4 z5
                  subst z0 z1 z2 z3 z4 z5
                  have hne := neU f0 f1 f2 f3 f4 f5
                  go_wp2_with fail
                  go_meet
                  exact HB19
                · injection x3 with z0 z1 z2 z3 z4 z5
                  subst z0 z1 z2 z3 z4 z5
                  have hne := neG 4 f1 0 f3 f4 0 4 f1 0 f4 f3 0
                  generalize decide ((⟨4, f1, 0, f3, f4, 0⟩ : Ru) = ⟨4, f1, 0, f4, f3, 0⟩) = dd at *
                  have hub : (f3 != f3) = false := by simp
                  have hua : (f4 != f4) = false := by simp
                  have huh : (f1 != f1) = false := by simp
                  cases dd
                  all_goals
                    go_wp2_with fail
                    go_meet
                    exact HB19
            case rest =>
              have HBd := hcut
              have HR0 := Lib.hid (rule0 wc (⟨k, ⟨ho, hn⟩, wh, ⟨ao, an⟩, ⟨bo, bn⟩, v⟩ : St) HF.out)
              have HRo0 := Lib.hid (fun w' => role0 ⟨ho, hn⟩ w')
              have HAt0 := Lib.hid (fun w' => roleAt0 w')
              unfold RulePost St.val at HR0
              unfold Rl.val at HRo0 HAt0
              simp only [Ru.cells, zeroU, zeroR, noText] at HR0 HRo0 HAt0
              have heq := eqRs ⟨#[]⟩ ⟨#[]⟩
              have cs : ∀ o, wc.cell? ⟨sb, o, none⟩ = (#[.int .i64 k, .string ho, .string hn, .string wh, .string ao, .string an, .string bo, .string bn, .string v] : Array Value)[o]? := fun o => Lib.cell_of_heap (HC9.out wc HBd.out).2.2.1 o
              clear hcut HB16 HY16 HBk HRu HRr HF
              go_wp2_with fail
              refine HR0.out.mono ?_
              rintro e w20 ⟨rfl, hb⟩
              have HB21 := Lib.hid (nx (nx HBd.out hb) ((Below.refl w20.heap.size w20).alloc (Nat.le_refl _) (.cells #[.int .i64 0, .int .i64 0, .int .i64 0, .int .i64 0, .int .i64 0, .int .i64 0] 34)))
              clear hb cs HR0 HBd
              go_upto_region 32 with fail
              generalize w20.alloc (.cells #[.int .i64 0, .int .i64 0, .int .i64 0, .int .i64 0, .int .i64 0, .int .i64 0] 34) = w21 at *
              go_wp2_with fail
              refine (roles0 _).mono ?_
              rintro e w22 ⟨rfl, hb⟩
              have HB22 := Lib.hid (nx HB21.out hb)
              have cs : ∀ o, w22.cell? ⟨sb, o, none⟩ = (#[.int .i64 k, .string ho, .string hn, .string wh, .string ao, .string an, .string bo, .string bn, .string v] : Array Value)[o]? := fun o => Lib.cell_of_heap (HC9.out w22 HB22.out).2.2.1 o
              clear hb
              go_wp2_with fail
              refine (HRo0.out _).mono ?_
              rintro e w23 ⟨rfl, hb⟩
              have HB23 := Lib.hid (nx HB22.out hb)
              clear hb cs
              go_wp2_with fail
              refine (HAt0.out _).mono ?_
              rintro e w24 ⟨rfl, hb⟩
              have HB24 := Lib.hid (nx HB23.out hb)
              clear hb
              go_wp2_with fail
              refine (prins0 _).mono ?_
              rintro e w25 ⟨p1, rfl, he1, hb⟩
              have HB25 := Lib.hid (nx HB24.out hb)
              clear hb
              go_wp2_with fail
              refine (lenE he1).mono ?_
              rintro e w26 ⟨rfl, rfl⟩
              clear he1
              go_wp2_with fail
              refine (links0 _).mono ?_
              rintro e w26 ⟨p2, rfl, he2, hb⟩
              have HB26 := Lib.hid (nx HB25.out hb)
              clear hb
              go_wp2_with fail
              refine (lenE he2).mono ?_
              rintro e w27 ⟨rfl, rfl⟩
              clear he2
              go_wp2_with fail
              refine (lives _).mono ?_
              rintro e w28 ⟨rfl, hb⟩
              have HB28 := Lib.hid (HC9.out _ (nx HB26.out hb)).1
              clear hb
              go_wp2_with fail
              go_ret
              exact ⟨rfl, HB28.out⟩
end Go.Proofs.Ytnhjnimgjpgfcaa.TblU
