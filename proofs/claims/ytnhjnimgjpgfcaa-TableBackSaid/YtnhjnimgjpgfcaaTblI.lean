/- Tables: New, the document's Rule for all statements, and the example, by contract. -/
import Derived.Test.YtnhjnimgjpgfcaaTblH
import Derived.Test.YtnhjnimgjpgfcaaSynE
namespace Go.Proofs.Ytnhjnimgjpgfcaa.TblI
open Go.RowKit Go.Sort Go.Lib Go.Proofs Go.Proofs.Ytnhjnimgjpgfcaa.Plain Go.Proofs.Ytnhjnimgjpgfcaa.SynP Go.Proofs.Ytnhjnimgjpgfcaa.SynE Go.Proofs.Ytnhjnimgjpgfcaa.Grown Go.Proofs.Ytnhjnimgjpgfcaa.TabP Go.Proofs.Ytnhjnimgjpgfcaa.Tab1 Go.Proofs.Ytnhjnimgjpgfcaa.Tab2 Go.Proofs.Ytnhjnimgjpgfcaa.Tab5 Go.Proofs.Ytnhjnimgjpgfcaa.RolK Go.Proofs.Ytnhjnimgjpgfcaa.TblA Go.Proofs.Ytnhjnimgjpgfcaa.TblB Go.Proofs.Ytnhjnimgjpgfcaa.TblC Go.Proofs.Ytnhjnimgjpgfcaa.TblF Go.Proofs.Ytnhjnimgjpgfcaa.TblG Go.Proofs.Ytnhjnimgjpgfcaa.TblH
set_option linter.unusedVariables false
set_option linter.unusedSimpArgs false
theorem ruleNo {P L : List Str} {s : St} (hs : s.right = false) : ruleOk P L s = false ∧ ruleA P L s = zeroU := by
  have h : ruleOk P L s = false := by unfold ruleOk; rw [hs]; rfl
  exact ⟨h, by unfold ruleA; rw [h]; rfl⟩
theorem ruleRef {P L : List Str} (A B : Option Addr) (ca cb : Nat) (w : World) (hP : P.length ≤ 100000) (hL : L.length ≤ 100000) (hA : SRow w A P) (hB : SRow w B L) (s : St) (hf : s.fit) :
    Calls Try.prog 12 #[.slice A P.length ca, .slice B L.length cb, s.val] w (RulePost (ruleOk P L s) (ruleA P L s) w) := by
  cases hs : s.right with
  | true => exact ref_yes A B ca cb w hP hL hA hB s hf hs
  | false =>
    obtain ⟨e1, e2⟩ := ruleNo (P := P) (L := L) hs
    rw [e1, e2]
    exact ref_no A B ca cb _ _ w s hf hs
def NewTPost (P L : List Str) (w : World) (e : Ending) (w' : World) : Prop := ∃ t a b A1 c1 A2 c2, e = .returned (.pointer (some ⟨t, 0, none⟩)) ∧ TblK w' t a b A1 c1 A2 c2 P L ∧ RowKit.Below w.heap.size w w'
set_option maxRecDepth 100000 in
theorem newT (A B : Option Addr) (ca cb : Nat) (P L : List Str) (w : World) (hP : P.length ≤ 100000) (hL : L.length ≤ 100000) (hA : SRow w A P) (hB : SRow w B L) :
    Calls Try.prog 9 #[.slice A P.length ca, .slice B L.length cb] w (NewTPost (tab P) (tab L) w) := by
  have HB := Lib.hid hB
  have H1 := Lib.hid (Tab1.new A ca P w (by omega) hA)
  have H2 := Lib.hid (fun w' (hb : RowKit.Below w.heap.size w w') => Tab1.new B cb L w' (by omega) (HB.out.keep hb))
  clear hA hB
  go_enter Try.func9, Try.ntmps9
  go_wp2_with fail
  refine H1.out.mono ?_
  rintro e w1 ⟨p, rfl, ⟨t1, v1, rfl, hB1, hh1, ho1⟩, hb1⟩
  obtain ⟨A1, c1, rfl, _, hr1⟩ := SRow.of_own ho1
  have K1 := Lib.hid hh1
  have R1 := Lib.hid hr1
  have B1 := Lib.hid hb1
  clear hh1 ho1 hr1 hb1 hB1
  go_wp2_with fail
  refine (H2.out _ B1.out).mono ?_
  rintro e w2 ⟨p, rfl, ⟨t2, v2, rfl, hB2, hh2, ho2⟩, hb2⟩
  obtain ⟨A2, c2, rfl, _, hr2⟩ := SRow.of_own ho2
  have l1 : t1 < w1.heap.size := (Array.getElem?_eq_some_iff.1 K1.out).1
  have l2 : t2 < w2.heap.size := (Array.getElem?_eq_some_iff.1 hh2).1
  have hz := hb2.size
  have hbx : RowKit.Below w2.heap.size w2 (w2.alloc (.cells #[.pointer (some ⟨t1, 0, none⟩), .pointer (some ⟨t2, 0, none⟩)] 67)) := (Below.refl _ _).alloc (Nat.le_refl _) _
  have hk1 := (hbx.block t1 (by omega)).trans ((hb2.block t1 l1).trans K1.out)
  have hk2 := (hbx.block t2 l2).trans hh2
  have hnew := heap_alloc_new w2 (.cells #[.pointer (some ⟨t1, 0, none⟩), .pointer (some ⟨t2, 0, none⟩)] 67)
  have HK : Hid (TblK (w2.alloc (.cells #[.pointer (some ⟨t1, 0, none⟩), .pointer (some ⟨t2, 0, none⟩)] 67)) w2.heap.size t1 t2 A1 c1 A2 c2 (tab P) (tab L)) := Lib.hid {
    t0 := by rw [Lib.cell_of_heap hnew]; rfl
    t1 := by rw [Lib.cell_of_heap hnew]; rfl
    a0 := by rw [Lib.cell_of_heap hk1]; rfl
    b0 := by rw [Lib.cell_of_heap hk2]; rfl
    ra := (R1.out.keep hb2).keep hbx
    rb := hr2.keep hbx
    lt := ⟨by simp, by simp; omega, by simp; omega⟩
    sp := tab_sorted P
    sl := tab_sorted L
    pl := by have := tab_len_le P; omega
    ll := by have := tab_len_le L; omega }
  have HBB := Lib.hid ((B1.out.trans (hb2.mono B1.out.size)).trans (hbx.mono (by have := B1.out.size; omega)))
  clear hh2 ho2 hr2 hb2 hB2 hbx hk1 hk2 hnew
  go_wp2_with fail
  go_ret
  exact ⟨_, t1, t2, A1, c1, A2, c2, rfl, HK.out, HBB.out⟩
def exP : List Str := [[66], [65]]
def exL : List Str := [[115], [114]]
theorem tabP : tab exP = [[65], [66]] := by rw [← newTo_tab]; decide +kernel
theorem tabL : tab exL = [[114], [115]] := by rw [← newTo_tab]; decide +kernel
theorem srow_lit (w w' : World) (s1 s2 : ByteArray) (n : Nat) (h : w'.heap[n]? = some (.cells #[.string s1, .string s2] 9 (0, 0))) : SRow w' (some ⟨n, 0, none⟩) [s1.data.toList, s2.data.toList] := fun _ => by
  refine ⟨n, 0, rfl, (Array.getElem?_eq_some_iff.1 h).1, fun j hj => ?_⟩
  rw [Lib.cell_of_heap h]
  have hj2 : j < 2 := hj
  match j, hj2 with
  | 0, _ => simp
  | 1, _ => simp
theorem exBr : roleI [[65], [66]] [[114], [115]] ⟨⟨#[66]⟩, ⟨#[114]⟩⟩ = 2 := by decide +kernel
theorem eqBr (w : World) : (binOp .eql 24 (.agg #[.string ⟨#[66]⟩, .string ⟨#[114]⟩]) (.agg #[.string ⟨#[66]⟩, .string ⟨#[114]⟩])).run Try.prog w = .ok (.bool true) w := by
  rw [eqR]
  simp
set_option maxRecDepth 100000 in
theorem lives (w : World) : Calls Try.prog 8 #[] w fun e w' => e = .returned (.bool true) ∧ RowKit.Below w.heap.size w w' := by
  have HN := Lib.hid (fun w' hA hB => newT (some ⟨w.heap.size, 0, none⟩) (some ⟨w.heap.size + 1, 0, none⟩) 2 2 exP exL w' (by decide) (by decide) hA hB)
  unfold NewTPost at HN
  rw [tabP, tabL] at HN
  have HR1 : Hid (∀ (w' : World) t a b A1 c1 A2 c2, TblK w' t a b A1 c1 A2 c2 [[65], [66]] [[114], [115]] → Calls Try.prog 13 #[.pointer (some ⟨t, 0, none⟩), .agg #[.string ⟨#[66]⟩, .string ⟨#[114]⟩]] w' fun e w'' => e = .returned (.int .i64 2) ∧ RowKit.Below w'.heap.size w' w'') := Lib.hid (fun w' t a b A1 c1 A2 c2 h => by
    have := role h ⟨⟨#[66]⟩, ⟨#[114]⟩⟩
    rw [exBr] at this
    exact this)
  have HR2 : Hid (∀ (w' : World) t a b A1 c1 A2 c2, TblK w' t a b A1 c1 A2 c2 [[65], [66]] [[114], [115]] → Calls Try.prog 15 #[.pointer (some ⟨t, 0, none⟩)] w' fun e w'' => e = .returned (.int .i64 4) ∧ w' = w'') := Lib.hid (fun w' t a b A1 c1 A2 c2 h => roles h)
  have HR3 : Hid (∀ (w' : World) t a b A1 c1 A2 c2, TblK w' t a b A1 c1 A2 c2 [[65], [66]] [[114], [115]] → Calls Try.prog 19 #[.pointer (some ⟨t, 0, none⟩), .int .i64 2] w' fun e w'' => e = .returned (.agg #[.string ⟨#[66]⟩, .string ⟨#[114]⟩]) ∧ RowKit.Below w'.heap.size w' w'') := Lib.hid (fun w' t a b A1 c1 A2 c2 h => roleAt_in h 1 0 (by decide) (by decide))
  have hE := eqBr
  have e1 := heap_alloc2_old w (.cells #[.string ⟨#[66]⟩, .string ⟨#[65]⟩] 9) (.cells #[.string ⟨#[115]⟩, .string ⟨#[114]⟩] 9)
  have e2 := heap_alloc2_new w (.cells #[.string ⟨#[66]⟩, .string ⟨#[65]⟩] 9) (.cells #[.string ⟨#[115]⟩, .string ⟨#[114]⟩] 9)
  have S1 := Lib.hid (srow_lit w _ _ _ _ e1)
  have S2 := Lib.hid (srow_lit w _ _ _ _ e2)
  have HB := Lib.hid (((Below.refl w.heap.size w).alloc (Nat.le_refl _) (.cells #[.string ⟨#[66]⟩, .string ⟨#[65]⟩] 9)).alloc (by simp) (.cells #[.string ⟨#[115]⟩, .string ⟨#[114]⟩] 9))
  clear e1 e2
  go_enter Try.func8, Try.ntmps8
  go_wp2_with fail
  refine (HN.out _ S1.out S2.out).mono ?_
  rintro e w1 ⟨t, a, b, A1, c1, A2, c2, rfl, hT, hb⟩
  have HT := Lib.hid hT
  have HB1 := Lib.hid (HB.out.trans (hb.mono HB.out.size))
  clear hT hb HB S1 S2 HN
  go_wp2_with fail
  refine (HR1.out _ _ _ _ _ _ _ _ HT.out).mono ?_
  rintro e w2 ⟨rfl, hb⟩
  have HT2 := Lib.hid (HT.out.keep hb)
  have HB2 := Lib.hid (HB1.out.trans (hb.mono HB1.out.size))
  clear hb HT HB1
  go_wp2_with fail
  refine (HR2.out _ _ _ _ _ _ _ _ HT2.out).mono ?_
  rintro e w3 ⟨rfl, rfl⟩
  go_wp2_with fail
  refine (HR3.out _ _ _ _ _ _ _ _ HT2.out).mono ?_
  rintro e w3 ⟨rfl, hb⟩
  have HB3 := Lib.hid (HB2.out.trans (hb.mono HB2.out.size))
  clear hb HB2
  go_wp2_with fail
  go_ret
  exact ⟨rfl, HB3.out⟩
theorem neU (k h x y z v : Int) (w : World) : (binOp .neq 34 (.agg #[.int .i64 k, .int .i64 h, .int .i64 x, .int .i64 y, .int .i64 z, .int .i64 v]) (.agg #[.int .i64 k, .int .i64 h, .int .i64 x, .int .i64 y, .int .i64 z, .int .i64 v])).run Try.prog w = .ok (.bool false) w := by
  simp only [go_sem]
  go_simp
theorem neRs (o n : ByteArray) (w : World) : (binOp .neq 24 (.agg #[.string o, .string n]) (.agg #[.string o, .string n])).run Try.prog w = .ok (.bool false) w := by
  rw [neR]
  simp
theorem eqRs (o n : ByteArray) (w : World) : (binOp .eql 24 (.agg #[.string o, .string n]) (.agg #[.string o, .string n])).run Try.prog w = .ok (.bool true) w := by
  rw [eqR]
  simp
end Go.Proofs.Ytnhjnimgjpgfcaa.TblI
