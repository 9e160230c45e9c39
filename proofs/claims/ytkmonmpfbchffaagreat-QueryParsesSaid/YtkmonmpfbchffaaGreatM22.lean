/- The document's example of a query; which queries are light; a query's roles and principals. -/
import Derived.Test.YtkmonmpfbchffaaGreatM15
import Derived.Test.YtkmonmpfbchffaaGreatM19
import Derived.Test.YtkmonmpfbchffaaGreatM21
import Derived.Test.YtkmonmpfbchffaaGreatM16
import Derived.Test.YtkmonmpfbchffaaGreatM07
import Derived.Deep.RegionHeld3
namespace Go.Proofs.YtkmonmpfbchffaaGreat.QryO
set_option linter.unusedVariables false
set_option linter.unusedSimpArgs false
open Go.RowKit Go.Sort Go.Proofs Go.Proofs.YtkmonmpfbchffaaGreat.Plain Go.Proofs.YtkmonmpfbchffaaGreat.SynP Go.Proofs.YtkmonmpfbchffaaGreat.TabP Go.Proofs.YtkmonmpfbchffaaGreat.Tab1 Go.Proofs.YtkmonmpfbchffaaGreat.Grown Go.Proofs.YtkmonmpfbchffaaGreat.Scan3 Go.Proofs.YtkmonmpfbchffaaGreat.SynS Go.Proofs.YtkmonmpfbchffaaGreat.SynW Go.Proofs.YtkmonmpfbchffaaGreat.SynJ Go.Proofs.YtkmonmpfbchffaaGreat.QryP Go.Proofs.YtkmonmpfbchffaaGreat.Qry6 Go.Proofs.YtkmonmpfbchffaaGreat.QryC Go.Proofs.YtkmonmpfbchffaaGreat.QryE Go.Proofs.YtkmonmpfbchffaaGreat.QryL Go.Proofs.YtkmonmpfbchffaaGreat.QryH Go.Proofs.YtkmonmpfbchffaaGreat.QryI Go.Proofs.YtkmonmpfbchffaaGreat.QryN
set_option linter.unusedVariables false
set_option linter.unusedSimpArgs false
def ExPost (w : World) (e : Ending) (w' : World) : Prop := ∃ A c, e = .returned (.tuple #[.agg #[.int .i64 3, .string ⟨#[65]⟩, .string ⟨#[114]⟩, .string ⟨#[]⟩, .string ⟨#[]⟩, .slice A 2 c], .int .i64 0, .int .i64 0]) ∧ SRow w' A [[66], [67]] ∧ RowKit.Below w.heap.size w w'
theorem ex_call (w : World) : Calls Tryz.prog 9 #[.string ⟨#[97, 108, 119, 97, 121, 115, 32, 65, 46, 114, 32, 119, 105, 116, 104, 105, 110, 32, 67, 32, 66]⟩] w (ExPost w) := by
  have h := parse exT w (by decide)
  obtain ⟨L, e1, e2⟩ := ex_parse
  have e3 : askA (ansOf exT) = (exQ, 0, 0) := by rw [e1]; exact e2
  rw [e3] at h
  refine h.mono ?_
  rintro e w' ⟨A, c, he, hr, _, hb⟩
  exact ⟨A, c, he, hr, hb⟩
theorem ex_print (A : Option Addr) (c : Nat) (w : World) (hA : SRow w A [[66], [67]]) : Calls Tryz.prog 52 #[.agg #[.int .i64 3, .string ⟨#[65]⟩, .string ⟨#[114]⟩, .string ⟨#[]⟩, .string ⟨#[]⟩, .slice A 2 c]] w fun e w' => e = .returned (.string ⟨#[97, 108, 119, 97, 121, 115, 32, 65, 46, 114, 32, 119, 105, 116, 104, 105, 110, 32, 66, 32, 67]⟩) ∧ RowKit.Below w.heap.size w w' := by
  have h := print exQ A c w (fit_of_right ex_right) hA
  unfold LinePost at h
  rw [ex_line] at h
  exact h
theorem ex_same (A B : Option Addr) (c : Nat) (w : World) (hA : SRow w A [[66], [67]]) (hB : SRow w B [[66], [67]]) : Calls Tryz.prog 27 #[.slice A 2 c, .slice B 2 2] w fun e w' => e = .returned (.bool true) ∧ ∃ n, w' = w.drewN n := Tab3.same A B c 2 [[66], [67]] w (by decide) hA hB
set_option maxHeartbeats 1000000 in
set_option maxRecDepth 100000 in
theorem lives (w : World) : Calls Tryz.prog 14 #[] w fun e w' => e = .returned (.bool true) ∧ RowKit.Below w.heap.size w w' := by
  have HP := Lib.hid ex_call
  have HPr := Lib.hid ex_print
  go_enter Tryz.func14, Tryz.ntmps14
  go_wp2_with fail
  refine (HP.out _).mono ?_
  rintro e w1 ⟨A, c, rfl, hrow, hb1⟩
  have hz := hb1.size
  have hrow2 := Lib.hid ((hrow.keep ((Below.refl _ _).alloc (Nat.le_refl _) (.cells #[.int .i64 3, .string ⟨#[65]⟩, .string ⟨#[114]⟩, .string ⟨#[]⟩, .string ⟨#[]⟩, .slice A 2 c] 26))).keep ((Below.refl _ _).alloc (Nat.le_refl _) (.cells #[.string ⟨#[66]⟩, .string ⟨#[67]⟩] 9)))
  have hnew := srow_two (w1.alloc (.cells #[.int .i64 3, .string ⟨#[65]⟩, .string ⟨#[114]⟩, .string ⟨#[]⟩, .string ⟨#[]⟩, .slice A 2 c] 26)) ⟨#[66]⟩ ⟨#[67]⟩
  rw [World.size_alloc] at hnew
  have HN := Lib.hid hnew
  have HB := Lib.hid ((hb1.alloc hz (.cells #[.int .i64 3, .string ⟨#[65]⟩, .string ⟨#[114]⟩, .string ⟨#[]⟩, .string ⟨#[]⟩, .slice A 2 c] 26)).alloc (by simp; omega) (.cells #[.string ⟨#[66]⟩, .string ⟨#[67]⟩] 9))
  clear hnew hrow hb1
  go_wp2_with fail
  refine (ex_same A _ c _ ?r1 ?r2).mono ?_
  case r1 => exact hrow2.out
  case r2 => exact HN.out
  rintro e w2 ⟨rfl, n, rfl⟩
  go_wp2_with fail
  refine (HPr.out A c _ ?r3).mono ?_
  case r3 => exact hrow2.out
  rintro e w3 ⟨rfl, hb3⟩
  go_wp2_with fail
  go_ret
  exact ⟨rfl, (below_drewN HB.out n).trans (hb3.mono (by show w.heap.size ≤ ((w1.alloc _).alloc _).heap.size; simp; omega))⟩
def lightQ (q : Qy) : Bool := Tab6.lightB q.who && Tab6.lightB [bs q.a.owner, bs q.a.name, bs q.b.owner, bs q.b.name]
theorem srow_four (X : World) (x y z u : ByteArray) : SRow (X.alloc (.cells #[.string x, .string y, .string z, .string u] 9)) (some ⟨X.heap.size, 0, none⟩) [bs x, bs y, bs z, bs u] := by
  have h := srow_new X [bs x, bs y, bs z, bs u] 9
  have e : ((([bs x, bs y, bs z, bs u] : List Str).map encStr).toArray : Array Value) = #[.string x, .string y, .string z, .string u] := by
    have a := bs_of x
    have b := bs_of y
    have c := bs_of z
    have d := bs_of u
    show #[Value.string ⟨(bs x).toArray⟩, Value.string ⟨(bs y).toArray⟩, Value.string ⟨(bs z).toArray⟩, Value.string ⟨(bs u).toArray⟩] = _
    rw [← a, ← b, ← c, ← d]
  rw [e] at h
  exact h
set_option maxHeartbeats 1000000 in
set_option maxRecDepth 100000 in
theorem light (q : Qy) (A : Option Addr) (c : Nat) (w : World) (hf : q.fit) (hA : SRow w A q.who) : Calls Tryz.prog 54 #[q.val A c] w fun e w' => e = .returned (.bool (lightQ q)) ∧ Grew w w' := by
  obtain ⟨k, ⟨ao, an⟩, ⟨bo, bn⟩, T⟩ := q
  obtain ⟨fa, fb, fT, fs⟩ := hf
  unfold lightQ
  have H1 := Lib.hid (fun (w' : World) (hr : SRow w' A T) => Tab6.light A c T w' fT fs hr)
  have hl4 : ∀ s ∈ [bs ao, bs an, bs bo, bs bn], s.length ≤ maxLen := by
    intro s hs
    rcases (by simpa using hs : s = bs ao ∨ s = bs an ∨ s = bs bo ∨ s = bs bn) with rfl | rfl | rfl | rfl
    · exact fa.1
    · exact fa.2
    · exact fb.1
    · exact fb.2
  have H2 := Lib.hid (fun (B : Option Addr) (w' : World) (hr : SRow w' B [bs ao, bs an, bs bo, bs bn]) => Tab6.light B 4 [bs ao, bs an, bs bo, bs bn] w' (by simp; unfold maxLen; decide) hl4 hr)
  have HA := Lib.hid (hA.keep ((Below.refl _ _).alloc (Nat.le_refl _) (.cells #[.int .i64 k, .string ao, .string an, .string bo, .string bn, .slice A T.length c] 26)))
  have hn4 := srow_four (w.alloc (.cells #[.int .i64 k, .string ao, .string an, .string bo, .string bn, .slice A T.length c] 26)) ao an bo bn
  rw [World.size_alloc] at hn4
  have HN := Lib.hid hn4
  show Calls _ _ #[.agg #[.int .i64 k, .string ao, .string an, .string bo, .string bn, .slice A T.length c]] _ _
  simp only
  generalize Tab6.lightB T = l1 at *
  generalize Tab6.lightB [bs ao, bs an, bs bo, bs bn] = l2 at *
  clear fa fb fT fs hA hl4 hn4
  cases l1
  · go_enter Tryz.func54, Tryz.ntmps54
    go_wp2_with fail
    refine (H1.out _ HA.out).mono ?_
    rintro e w1 ⟨rfl, rfl⟩
    go_wp2_with fail
    go_ret
    exact ⟨rfl, (Grew.refl _).alloc _⟩
  · go_enter Tryz.func54, Tryz.ntmps54
    go_wp2_with fail
    refine (H1.out _ HA.out).mono ?_
    rintro e w1 ⟨rfl, rfl⟩
    go_wp2_with fail
    refine (H2.out _ _ HN.out).mono ?_
    rintro e w1 ⟨rfl, rfl⟩
    go_wp2_with fail
    go_ret
    exact ⟨rfl, ((Grew.refl _).alloc _).alloc _⟩
def rolesQ (q : Qy) : List Rl := if hasBk q.kind = true then [q.a, q.b] else [q.a]
def RolesPostQ (q : Qy) (w : World) (e : Ending) (w' : World) : Prop := ∃ A, e = .returned (.slice A (rolesQ q).length (rolesQ q).length) ∧ RAt w' A (rolesQ q) ∧ RowKit.Below w.heap.size w w'
set_option maxRecDepth 100000 in
theorem rolesOf (q : Qy) (A : Option Addr) (c : Nat) (w : World) : Calls Tryz.prog 134 #[q.val A c] w (RolesPostQ q w) := by
  obtain ⟨k, ⟨ao, an⟩, ⟨bo, bn⟩, T⟩ := q
  have HB := Lib.hid (fun w' => hasB k w')
  show Calls _ _ #[.agg #[.int .i64 k, .string ao, .string an, .string bo, .string bn, .slice A T.length c]] _ _
  have hn2 : ∀ n, RAt (((w.alloc (.cells #[.int .i64 k, .string ao, .string an, .string bo, .string bn, .slice A T.length c] 26)).drewN n).alloc (.cells #[.string ao, .string an, .string bo, .string bn] 23)) (some ⟨w.heap.size + 1, 0, none⟩) [⟨ao, an⟩, ⟨bo, bn⟩] := fun n => by
    have h := rat_new ((w.alloc (.cells #[.int .i64 k, .string ao, .string an, .string bo, .string bn, .slice A T.length c] 26)).drewN n) [⟨ao, an⟩, ⟨bo, bn⟩] 23
    have e : ((w.alloc (.cells #[.int .i64 k, .string ao, .string an, .string bo, .string bn, .slice A T.length c] 26)).drewN n).heap.size = w.heap.size + 1 := World.size_alloc _ _
    rw [e] at h
    exact h
  have hn1 : ∀ n, RAt (((w.alloc (.cells #[.int .i64 k, .string ao, .string an, .string bo, .string bn, .slice A T.length c] 26)).drewN n).alloc (.cells #[.string ao, .string an] 23)) (some ⟨w.heap.size + 1, 0, none⟩) [⟨ao, an⟩] := fun n => by
    have h := rat_new ((w.alloc (.cells #[.int .i64 k, .string ao, .string an, .string bo, .string bn, .slice A T.length c] 26)).drewN n) [⟨ao, an⟩] 23
    have e : ((w.alloc (.cells #[.int .i64 k, .string ao, .string an, .string bo, .string bn, .slice A T.length c] 26)).drewN n).heap.size = w.heap.size + 1 := World.size_alloc _ _
    rw [e] at h
    exact h
  have H2 := Lib.hid hn2
  have H1 := Lib.hid hn1
  have hb0 := Lib.hid (fun n => below_drewN ((Below.refl w.heap.size w).alloc (Nat.le_refl _) (.cells #[.int .i64 k, .string ao, .string an, .string bo, .string bn, .slice A T.length c] 26)) n)
  unfold RolesPostQ rolesQ
  simp only
  clear hn1 hn2
  cases hbk : hasBk k
  · rw [hbk] at HB
    simp only [Bool.false_eq_true, if_false]
    clear hbk
    go_enter Tryz.func134, Tryz.ntmps134
    go_wp2_with fail
    refine (HB.out _).mono ?_
    rintro e w1 ⟨rfl, n, rfl⟩
    go_wp2_with fail
    go_ret
    exact ⟨_, rfl, H1.out n, (hb0.out n).alloc (hb0.out n).size _⟩
  · rw [hbk] at HB
    simp only [if_true]
    clear hbk
    go_enter Tryz.func134, Tryz.ntmps134
    go_wp2_with fail
    refine (HB.out _).mono ?_
    rintro e w1 ⟨rfl, n, rfl⟩
    go_wp2_with fail
    go_ret
    exact ⟨_, rfl, H2.out n, (hb0.out n).alloc (hb0.out n).size _⟩
def PrinsPost (T : List Str) (w : World) (e : Ending) (w' : World) : Prop := ∃ A c, e = .returned (.slice A T.length c) ∧ SRow w' A T ∧ RowKit.Below w.heap.size w w'
set_option maxRecDepth 100000 in
theorem prins (q : Qy) (A : Option Addr) (c : Nat) (w : World) (hT : q.who.length ≤ 1000000) (hA : SRow w A q.who) : Calls Tryz.prog 83 #[q.val A c] w (PrinsPost q.who w) := by
  obtain ⟨k, ⟨ao, an⟩, ⟨bo, bn⟩, T⟩ := q
  show Calls _ _ #[.agg #[.int .i64 k, .string ao, .string an, .string bo, .string bn, .slice A T.length c]] _ _
  have HC := Lib.hid (Tab7.cloneC A c T _ hT (hA.keep ((Below.refl _ _).alloc (Nat.le_refl _) (.cells #[.int .i64 k, .string ao, .string an, .string bo, .string bn, .slice A T.length c] 26))))
  clear hA
  go_enter Tryz.func83, Tryz.ntmps83
  go_wp2_with fail
  refine HC.out.mono ?_
  rintro e w1 ⟨v, rfl, hown, hb⟩
  obtain ⟨A', c', rfl, _, hr⟩ := SRow.of_own hown
  clear hown
  go_wp2_with fail
  go_ret
  exact ⟨A', c', rfl, hr, ((Below.refl _ _).alloc (Nat.le_refl _) _).trans (hb.mono (by simp))⟩
end Go.Proofs.YtkmonmpfbchffaaGreat.QryO
/- Whether two queries are the very same, in the program and in the document's answers, by contract. -/
namespace Go.Proofs.YtkmonmpfbchffaaGreat.QryS
set_option linter.unusedVariables false
set_option linter.unusedSimpArgs false
open Go.RowKit Go.Sort Go.Proofs Go.Proofs.YtkmonmpfbchffaaGreat.Plain Go.Proofs.YtkmonmpfbchffaaGreat.SynP Go.Proofs.YtkmonmpfbchffaaGreat.TabP Go.Proofs.YtkmonmpfbchffaaGreat.Tab1 Go.Proofs.YtkmonmpfbchffaaGreat.Grown Go.Proofs.YtkmonmpfbchffaaGreat.SynE Go.Proofs.YtkmonmpfbchffaaGreat.QryP Go.Proofs.YtkmonmpfbchffaaGreat.Qry1
set_option linter.unusedVariables false
set_option linter.unusedSimpArgs false
theorem neS (x y : ByteArray) (w : World) : (binOp .neq 9 (.string x) (.string y)).run Tryz.prog w = .ok (.bool (!decide (x = y))) w := by
  have e := text_eq
  go_simp
  by_cases h : x = y
  · subst h; simp
  · simp [h, e]
theorem mk_inj (s t : Str) : ((⟨s.toArray⟩ : ByteArray) = ⟨t.toArray⟩) ↔ s = t := ⟨fun h => by
  have := congrArg (fun z : ByteArray => z.data.toList) h
  simpa using this, fun h => by rw [h]⟩
set_option maxHeartbeats 1000000 in
set_option maxRecDepth 100000 in
theorem sameG (A B : Option Addr) (ca cb : Nat) (T U : List Str) (w : World) (hT : T.length ≤ 1000000) (hU : U.length ≤ 1000000) (hA : SRow w A T) (hB : SRow w B U) :
    Calls Tryz.prog 27 #[.slice A T.length ca, .slice B U.length cb] w fun e w' => e = .returned (.bool (decide (T = U))) ∧ ∃ n, w' = w.drewN n := by
  by_cases hl : T.length = U.length
  · have HL := Lib.hid hl
    have d0 : ((T.length : Int) != U.length) = false := by rw [hl]; simp
    have d0' : (T.length != U.length) = false := by rw [hl]; simp
    have HA := Lib.hid hA
    have HB := Lib.hid hB
    have hul : U.length ≤ T.length := by omega
    have htl : T.length ≤ U.length := by omega
    clear hl hA hB
    go_enter Tryz.func27, Tryz.ntmps27
    go_wp2_with fail
    go_loopw [13] (fun i wr => ∃ k : Nat, k ≤ T.length ∧ i = .int .i64 k ∧ Hid (∀ j, j < k → T[j]? = U[j]?) ∧ ∃ n, wr = w.drewN n) (fun i _ => T.length - (intOf i).toNat)
    case atStart => exact ⟨0, by omega, rfl, Lib.hid (fun j hj => by omega), 0, rfl⟩
    case round =>
      obtain ⟨k, hk, rfl, hall, n, rfl⟩ := hrel
      by_cases hlt : k < T.length
      · have hlu : k < U.length := by omega
        obtain ⟨g1, o1, rfl, _, h1⟩ := HA.out (by omega)
        obtain ⟨g2, o2, rfl, _, h2⟩ := HB.out (by omega)
        have a1 := h1 k hlt
        have a2 := h2 k hlu
        have p1 : (0 : Int) ≤ k := by omega
        have p2 : (k : Int) < T.length := by omega
        have p3 : (k : Int) < U.length := by omega
        by_cases he : T[k] = U[k]
        · have hnext : Hid (∀ j, j < k + 1 → T[j]? = U[j]?) := Lib.hid (fun j hj => by
            by_cases e : j = k
            · subst e; rw [List.getElem?_eq_getElem hlt, List.getElem?_eq_getElem hlu, he]
            · exact hall.out j (by omega))
          rw [← he] at a2
          clear h1 h2 he hall
          generalize (⟨T[k].toArray⟩ : ByteArray) = x at *
          go_wp2_with fail
          go_quiet (fail)
          go_wp2_with fail
          go_roundw
          case rel => exact ⟨k + 1, by omega, by go_num, hnext, _, rfl⟩
          case measure => simp [intOf]; omega
        · have hfin : Hid (decide (T = U) = false) := Lib.hid (decide_eq_false (fun h => he (by subst h; rfl)))
          have hxy : ((⟨T[k].toArray⟩ : ByteArray).toList == (⟨U[k].toArray⟩ : ByteArray).toList) = false := by
            rw [beq_eq_false_iff_ne]
            intro h
            rw [Go.ByteArray.toList_eq, Go.ByteArray.toList_eq] at h
            exact he h
          have hxy2 : (!((⟨T[k].toArray⟩ : ByteArray).toList == (⟨U[k].toArray⟩ : ByteArray).toList)) = true := by rw [hxy]; rfl
          clear h1 h2 he hall
          generalize (⟨T[k].toArray⟩ : ByteArray) = x at *
          generalize (⟨U[k].toArray⟩ : ByteArray) = y at *
          go_wp2_with fail
          go_quiet (fail)
          go_wp2_with fail
          go_ret
          exact ⟨ret_bool hfin.out.symm, _, World.drewN_drewN _ _ _⟩
      · have hfin : Hid (decide (T = U) = true) := Lib.hid (decide_eq_true (List.ext_getElem? fun j => by
          by_cases hj : j < T.length
          · exact hall.out j (by omega)
          · rw [List.getElem?_eq_none (by omega), List.getElem?_eq_none (by omega)]))
        clear hall
        go_wp2_with fail
        go_ret
        exact ⟨ret_bool hfin.out.symm, _, rfl⟩
  · have hfin : Hid (decide (T = U) = false) := Lib.hid (decide_eq_false (fun h => hl (by rw [h])))
    have hl' : ¬ (T.length : Int) = U.length := by omega
    have d0 : ((T.length : Int) != U.length) = true := by simp; omega
    have d0' : (T.length != U.length) = true := by simp; omega
    clear hl'
    have HL := Lib.hid hl
    clear hl
    go_enter Tryz.func27, Tryz.ntmps27
    go_wp2_with fail
    go_ret
    exact ⟨ret_bool hfin.out.symm, 0, rfl⟩
def sameB (a b : Qy) : Bool := decide (a.kind = b.kind) && (decide (a.a = b.a) && (decide (a.b = b.b) && decide (a.who = b.who)))
theorem sameB_eq {a b : Qy} : sameB a b = true ↔ a = b := by
  obtain ⟨k, a1, b1, T⟩ := a
  obtain ⟨k', a2, b2, U⟩ := b
  unfold sameB
  simp [Qy.mk.injEq]
def SameP (a b : Qy) (w : World) (e : Ending) (w' : World) : Prop := e = .returned (.bool (sameB a b)) ∧ RowKit.Below w.heap.size w w'
set_option maxHeartbeats 1000000 in
set_option maxRecDepth 100000 in
theorem sameQ (a b : Qy) (A B : Option Addr) (c d : Nat) (w : World) (hT : a.who.length ≤ 1000000) (hU : b.who.length ≤ 1000000) (hA : SRow w A a.who) (hB : SRow w B b.who) :
    Calls Tryz.prog 76 #[a.val A c, b.val B d] w (SameP a b w) := by
  obtain ⟨k, ⟨ao, an⟩, ⟨bo, bn⟩, T⟩ := a
  obtain ⟨k', ⟨ao', an'⟩, ⟨bo', bn'⟩, U⟩ := b
  show Calls _ _ #[.agg #[.int .i64 k, .string ao, .string an, .string bo, .string bn, .slice A T.length c], .agg #[.int .i64 k', .string ao', .string an', .string bo', .string bn', .slice B U.length d]] _ _
  have hq1 := fun w => eqR ao an ao' an' w
  have hq2 := fun w => eqR bo bn bo' bn' w
  have hS := Lib.hid (equalS A B c d T U _ hT hU ((hA.keep ((Below.refl _ _).alloc (Nat.le_refl _) (.cells #[.int .i64 k, .string ao, .string an, .string bo, .string bn, .slice A T.length c] 26))).keep ((Below.refl _ _).alloc (Nat.le_refl _) (.cells #[.int .i64 k', .string ao', .string an', .string bo', .string bn', .slice B U.length d] 26))) ((hB.keep ((Below.refl _ _).alloc (Nat.le_refl _) (.cells #[.int .i64 k, .string ao, .string an, .string bo, .string bn, .slice A T.length c] 26))).keep ((Below.refl _ _).alloc (Nat.le_refl _) (.cells #[.int .i64 k', .string ao', .string an', .string bo', .string bn', .slice B U.length d] 26))))
  have hbb := Lib.hid (((Below.refl w.heap.size w).alloc (Nat.le_refl _) (.cells #[.int .i64 k, .string ao, .string an, .string bo, .string bn, .slice A T.length c] 26)).alloc (by simp) (.cells #[.int .i64 k', .string ao', .string an', .string bo', .string bn', .slice B U.length d] 26))
  unfold SameP sameB
  simp only
  generalize decide ((⟨ao, an⟩ : Rl) = ⟨ao', an'⟩) = r1 at *
  generalize decide ((⟨bo, bn⟩ : Rl) = ⟨bo', bn'⟩) = r2 at *
  generalize decide (T = U) = r3 at *
  clear hA hB hT hU
  by_cases hk : k = k'
  · have dk : (k == k') = true := by simpa using hk
    rw [decide_eq_true hk]
    clear hk
    cases r1
    · go_enter Tryz.func76, Tryz.ntmps76
      go_wp2_with fail
      go_ret
      exact ⟨rfl, hbb.out⟩
    · cases r2
      · go_enter Tryz.func76, Tryz.ntmps76
        go_wp2_with fail
        go_ret
        exact ⟨rfl, hbb.out⟩
      · go_enter Tryz.func76, Tryz.ntmps76
        go_wp2_with fail
        refine hS.out.mono ?_
        rintro e w1 ⟨rfl, n, rfl⟩
        go_wp2_with fail
        go_ret
        exact ⟨by simp, below_drewN hbb.out n⟩
  · have dk : (k == k') = false := by simpa using hk
    rw [decide_eq_false hk]
    clear hk
    go_enter Tryz.func76, Tryz.ntmps76
    go_wp2_with fail
    go_ret
    exact ⟨rfl, hbb.out⟩
set_option maxHeartbeats 1000000 in
set_option maxRecDepth 100000 in
theorem sameRefQ (a b : Qy) (A B : Option Addr) (c d : Nat) (w : World) (hT : a.who.length ≤ 1000000) (hU : b.who.length ≤ 1000000) (hA : SRow w A a.who) (hB : SRow w B b.who) :
    Calls Tryz.prog 12 #[a.val A c, b.val B d] w (SameP a b w) := by
  obtain ⟨k, ⟨ao, an⟩, ⟨bo, bn⟩, T⟩ := a
  obtain ⟨k', ⟨ao', an'⟩, ⟨bo', bn'⟩, U⟩ := b
  show Calls _ _ #[.agg #[.int .i64 k, .string ao, .string an, .string bo, .string bn, .slice A T.length c], .agg #[.int .i64 k', .string ao', .string an', .string bo', .string bn', .slice B U.length d]] _ _
  have hq1 := fun w => eqR ao an ao' an' w
  have hq2 := fun w => eqR bo bn bo' bn' w
  have hS := Lib.hid (sameG A B c d T U _ hT hU ((hA.keep ((Below.refl _ _).alloc (Nat.le_refl _) (.cells #[.int .i64 k, .string ao, .string an, .string bo, .string bn, .slice A T.length c] 26))).keep ((Below.refl _ _).alloc (Nat.le_refl _) (.cells #[.int .i64 k', .string ao', .string an', .string bo', .string bn', .slice B U.length d] 26))) ((hB.keep ((Below.refl _ _).alloc (Nat.le_refl _) (.cells #[.int .i64 k, .string ao, .string an, .string bo, .string bn, .slice A T.length c] 26))).keep ((Below.refl _ _).alloc (Nat.le_refl _) (.cells #[.int .i64 k', .string ao', .string an', .string bo', .string bn', .slice B U.length d] 26))))
  have hbb := Lib.hid (((Below.refl w.heap.size w).alloc (Nat.le_refl _) (.cells #[.int .i64 k, .string ao, .string an, .string bo, .string bn, .slice A T.length c] 26)).alloc (by simp) (.cells #[.int .i64 k', .string ao', .string an', .string bo', .string bn', .slice B U.length d] 26))
  unfold SameP sameB
  simp only
  generalize decide ((⟨ao, an⟩ : Rl) = ⟨ao', an'⟩) = r1 at *
  generalize decide ((⟨bo, bn⟩ : Rl) = ⟨bo', bn'⟩) = r2 at *
  generalize decide (T = U) = r3 at *
  clear hA hB hT hU
  by_cases hk : k = k'
  · have dk : (k == k') = true := by simpa using hk
    rw [decide_eq_true hk]
    clear hk
    cases r1
    · go_enter Tryz.func12, Tryz.ntmps12
      go_wp2_with fail
      go_ret
      exact ⟨rfl, hbb.out⟩
    · cases r2
      · go_enter Tryz.func12, Tryz.ntmps12
        go_wp2_with fail
        go_ret
        exact ⟨rfl, hbb.out⟩
      · go_enter Tryz.func12, Tryz.ntmps12
        go_wp2_with fail
        refine hS.out.mono ?_
        rintro e w1 ⟨rfl, n, rfl⟩
        go_wp2_with fail
        go_ret
        exact ⟨by simp, below_drewN hbb.out n⟩
  · have dk : (k == k') = false := by simpa using hk
    rw [decide_eq_false hk]
    clear hk
    go_enter Tryz.func12, Tryz.ntmps12
    go_wp2_with fail
    go_ret
    exact ⟨rfl, hbb.out⟩
end Go.Proofs.YtkmonmpfbchffaaGreat.QryS
/- For all queries and every line: a query that may be is parsed from its line; two are one just if their lines are; what is parsed may be; and the document's example stands. -/
namespace Go.Proofs.YtkmonmpfbchffaaGreat.QryU
set_option linter.unusedVariables false
set_option linter.unusedSimpArgs false
open Go.RowKit Go.Sort Go.Proofs Go.Proofs.YtkmonmpfbchffaaGreat.Plain Go.Proofs.YtkmonmpfbchffaaGreat.SynP Go.Proofs.YtkmonmpfbchffaaGreat.TabP Go.Proofs.YtkmonmpfbchffaaGreat.Tab1 Go.Proofs.YtkmonmpfbchffaaGreat.Grown Go.Proofs.YtkmonmpfbchffaaGreat.Scan3 Go.Proofs.YtkmonmpfbchffaaGreat.SynX Go.Proofs.YtkmonmpfbchffaaGreat.QryP Go.Proofs.YtkmonmpfbchffaaGreat.Qry2 Go.Proofs.YtkmonmpfbchffaaGreat.Qry7 Go.Proofs.YtkmonmpfbchffaaGreat.QryB Go.Proofs.YtkmonmpfbchffaaGreat.QryC Go.Proofs.YtkmonmpfbchffaaGreat.QryE Go.Proofs.YtkmonmpfbchffaaGreat.QryL Go.Proofs.YtkmonmpfbchffaaGreat.QryH Go.Proofs.YtkmonmpfbchffaaGreat.QryM Go.Proofs.YtkmonmpfbchffaaGreat.QryN Go.Proofs.YtkmonmpfbchffaaGreat.QryO Go.Proofs.YtkmonmpfbchffaaGreat.QryS
set_option linter.unusedVariables false
set_option linter.unusedSimpArgs false
theorem code3 {m rt : Bool} {p : Prop} [Decidable p] (h : (if m = true then (5 : Int) else if p then 2 else if rt = true then 0 else 3) = 0) : rt = true := by
  cases m
  · rw [if_neg (by decide)] at h
    by_cases hp : p
    · rw [if_pos hp] at h; exact absurd h (by decide)
    · rw [if_neg hp] at h
      cases rt
      · exact absurd h (by decide)
      · rfl
  · rw [if_pos rfl] at h; exact absurd h (by decide)
def AskOpen (k : Int) (ao an bo bn : ByteArray) (T : List Str) (p er : Int) (w : World) (e : Ending) (w' : World) : Prop := ∃ A c, e = .returned (.tuple #[.agg #[.int .i64 k, .string ao, .string an, .string bo, .string bn, .slice A T.length c], .int .i64 p, .int .i64 er]) ∧ SRow w' A T ∧ RowKit.Below w.heap.size w w'
theorem ask_open {k : Int} {ao an bo bn : ByteArray} {T : List Str} {p er : Int} {w w' : World} {e : Ending} (h : AskPost (⟨k, ⟨ao, an⟩, ⟨bo, bn⟩, T⟩, p, er) w e w') : AskOpen k ao an bo bn T p er w e w' := by
  obtain ⟨A, c, h1, h2, _, h4⟩ := h
  exact ⟨A, c, h1, h2, h4⟩
theorem readQ_right {L : List Tk} {k : Int} (h : (readQ k L).2.2 = 0) : (readQ k L).1.right = true := by
  by_cases hf : fullQ L k
  · unfold fullQ at hf
    unfold readQ at *
    simp only [] at *
    rw [if_pos hf] at *
    exact code3 h
  · rw [readQ_no hf] at h
    exact absurd h (errOf_ne _ _)
/-- What is parsed: an error, or a query that may be. -/
theorem parse_cases (t : ByteArray) : (∃ c e, askA (ansOf t) = (zeroQ, c, e) ∧ e ≠ 0) ∨ (∃ x : Qy, askA (ansOf t) = (x, 0, 0) ∧ x.right = true) := by
  cases h : ansOf t with
  | bad c e => exact .inl ⟨c, e, rfl, by rcases ans_bad h with rfl | rfl <;> decide⟩
  | ok L =>
    by_cases hK : ∃ K : Nat, 1 ≤ K ∧ K ≤ 6 ∧ fullQ L (K : Int)
    · obtain ⟨K, h1, h6, hf⟩ := hK
      have hp := parseQ_at h1 h6 hf
      unfold lastQ at hp
      by_cases h0 : (readQ (K : Int) L).2.2 = 0
      · rw [if_pos h0] at hp
        exact .inr ⟨_, hp, readQ_right h0⟩
      · rw [if_neg h0] at hp
        exact .inl ⟨_, _, hp, h0⟩
    · exact .inl ⟨_, _, parseQ_none (fun j a b c => hK ⟨j, a, b, c⟩), errOf_ne _ _⟩
/-- Two queries that may be are one just if their lines are. -/
theorem line_inj {a b : Qy} (ha : a.right = true) (hb : b.right = true) (h : lineQ a = lineQ b) : a = b := by
  obtain ⟨L, h1, h2⟩ := parse_line ha
  obtain ⟨M, h3, h4⟩ := parse_line hb
  rw [h, h3] at h1
  injection h1 with e
  subst e
  rw [h4] at h2
  exact (congrArg (fun p : Qy × Int × Int => p.1) h2).symm
theorem lines_same {a b : Qy} (ha : a.right = true) (hb : b.right = true) : ((lineQ a).toList == (lineQ b).toList) = sameB a b := by
  by_cases h : a = b
  · subst h
    rw [sameB_eq.2 rfl]; simp
  · have h1 : sameB a b = false := by
      cases e : sameB a b
      · rfl
      · exact absurd (sameB_eq.1 e) h
    rw [h1, beq_eq_false_iff_ne]
    intro e
    rw [Go.ByteArray.toList_eq, Go.ByteArray.toList_eq] at e
    exact h (line_inj ha hb (ba_ext e))
theorem line_call {q : Qy} (h : q.right = true) (w : World) : Calls Tryz.prog 9 #[.string (lineQ q)] w (AskPost (q, 0, 0) w) := by
  obtain ⟨L, e1, e2⟩ := parse_line h
  have hz : (lineQ q).size ≤ 1000000 := by
    unfold ansOf at e1
    split at e1
    · cases e1
    · omega
  have hp := parse (lineQ q) w hz
  have e3 : askA (ansOf (lineQ q)) = (q, 0, 0) := by rw [e1]; exact e2
  rw [e3] at hp
  exact hp
/-- The two boxes of the arguments, and what they hold, in a later world. -/
structure Env (w v : World) (k : Int) (ao an bo bn : ByteArray) (A : Option Addr) (c : Nat) (T : List Str) (k' : Int) (ao' an' bo' bn' : ByteArray) (B : Option Addr) (d : Nat) (U : List Str) : Prop where
  la : w.heap.size + 1 < v.heap.size
  ca : ∀ o, v.cell? ⟨w.heap.size, o, none⟩ = (#[.int .i64 k, .string ao, .string an, .string bo, .string bn, .slice A T.length c] : Array Value)[o]?
  cb : ∀ o, v.cell? ⟨w.heap.size + 1, o, none⟩ = (#[.int .i64 k', .string ao', .string an', .string bo', .string bn', .slice B U.length d] : Array Value)[o]?
  ra : SRow v A T
  rb : SRow v B U
  be : RowKit.Below w.heap.size w v
theorem Env.below {w v v' : World} {k : Int} {ao an bo bn : ByteArray} {A : Option Addr} {c : Nat} {T : List Str} {k' : Int} {ao' an' bo' bn' : ByteArray} {B : Option Addr} {d : Nat} {U : List Str} (h : Env w v k ao an bo bn A c T k' ao' an' bo' bn' B d U) (hb : RowKit.Below v.heap.size v v') : Env w v' k ao an bo bn A c T k' ao' an' bo' bn' B d U := by
  have hl := h.la
  have hs := hb.size
  exact ⟨by omega, fun o => (hb.cell (p := ⟨w.heap.size, o, none⟩) (by show w.heap.size < _; omega)).trans (h.ca o), fun o => (hb.cell (p := ⟨w.heap.size + 1, o, none⟩) (by show w.heap.size + 1 < _; omega)).trans (h.cb o), h.ra.keep hb, h.rb.keep hb, h.be.trans (hb.mono (by omega))⟩
theorem Env.start (w : World) (k : Int) (ao an bo bn : ByteArray) (A : Option Addr) (c : Nat) (T : List Str) (k' : Int) (ao' an' bo' bn' : ByteArray) (B : Option Addr) (d : Nat) (U : List Str) (hA : SRow w A T) (hB : SRow w B U) : Env w ((w.alloc (.cells #[.int .i64 k, .string ao, .string an, .string bo, .string bn, .slice A T.length c] 26)).alloc (.cells #[.int .i64 k', .string ao', .string an', .string bo', .string bn', .slice B U.length d] 26)) k ao an bo bn A c T k' ao' an' bo' bn' B d U := by
  have b1 := (Below.refl w.heap.size w).alloc (Nat.le_refl _) (.cells #[.int .i64 k, .string ao, .string an, .string bo, .string bn, .slice A T.length c] 26)
  have b2 := (Below.refl (w.alloc (.cells #[.int .i64 k, .string ao, .string an, .string bo, .string bn, .slice A T.length c] 26)).heap.size (w.alloc (.cells #[.int .i64 k, .string ao, .string an, .string bo, .string bn, .slice A T.length c] 26))).alloc (Nat.le_refl _) (.cells #[.int .i64 k', .string ao', .string an', .string bo', .string bn', .slice B U.length d] 26)
  have b3 := b1.alloc (by simp) (.cells #[.int .i64 k', .string ao', .string an', .string bo', .string bn', .slice B U.length d] 26)
  refine ⟨by simp, fun o => (b2.cell (p := ⟨w.heap.size, o, none⟩) (by simp)).trans (Lib.cell_of_heap (heap_alloc_new w _) o), fun o => ?_, hA.keep b3, hB.keep b3, b3⟩
  have := Lib.cell_of_heap (heap_alloc_new (w.alloc (.cells #[.int .i64 k, .string ao, .string an, .string bo, .string bn, .slice A T.length c] 26)) (.cells #[.int .i64 k', .string ao', .string an', .string bo', .string bn', .slice B U.length d] 26)) o
  rw [World.size_alloc] at this
  exact this
theorem keep3 {W w1 w2 : World} {n m p : Nat} {f g h : Nat → Option Value} (hh : RowKit.Below W.heap.size W w1 ∧ (∀ o, w1.cell? ⟨n, o, none⟩ = f o) ∧ (∀ o, w1.cell? ⟨m, o, none⟩ = g o) ∧ (∀ o, w1.cell? ⟨p, o, none⟩ = h o)) (hn : n < W.heap.size) (hm : m < W.heap.size) (hp : p < W.heap.size) (hb : RowKit.Below w1.heap.size w1 w2) :
    RowKit.Below W.heap.size W w2 ∧ (∀ o, w2.cell? ⟨n, o, none⟩ = f o) ∧ (∀ o, w2.cell? ⟨m, o, none⟩ = g o) ∧ (∀ o, w2.cell? ⟨p, o, none⟩ = h o) := by
  have hs := hh.1.size
  exact ⟨hh.1.trans (hb.mono hs), fun o => (hb.cell (p := ⟨n, o, none⟩) (by show n < _; omega)).trans (hh.2.1 o), fun o => (hb.cell (p := ⟨m, o, none⟩) (by show m < _; omega)).trans (hh.2.2.1 o), fun o => (hb.cell (p := ⟨p, o, none⟩) (by show p < _; omega)).trans (hh.2.2.2 o)⟩
theorem light_len {q : Qy} (h : lightQ q = true) : q.who.length ≤ 1000000 := by
  unfold lightQ Tab6.lightB at h
  simp only [Bool.and_eq_true, decide_eq_true_eq] at h
  have := h.1.1
  omega
end Go.Proofs.YtkmonmpfbchffaaGreat.QryU
/- Whether a line begins like a query, by contract. -/
namespace Go.Proofs.YtkmonmpfbchffaaGreat.QryX
set_option linter.unusedVariables false
set_option linter.unusedSimpArgs false
open Go.RowKit Go.Sort Go.Proofs Go.Proofs.YtkmonmpfbchffaaGreat.Plain Go.Proofs.YtkmonmpfbchffaaGreat.SynP Go.Proofs.YtkmonmpfbchffaaGreat.SynQ Go.Proofs.YtkmonmpfbchffaaGreat.TabP Go.Proofs.YtkmonmpfbchffaaGreat.Grown Go.Proofs.YtkmonmpfbchffaaGreat.SynA Go.Proofs.YtkmonmpfbchffaaGreat.SynC Go.Proofs.YtkmonmpfbchffaaGreat.SynR Go.Proofs.YtkmonmpfbchffaaGreat.Scan2 Go.Proofs.YtkmonmpfbchffaaGreat.Scan3 Go.Proofs.YtkmonmpfbchffaaGreat.SynU Go.Proofs.YtkmonmpfbchffaaGreat.SynV Go.Proofs.YtkmonmpfbchffaaGreat.SynX Go.Proofs.YtkmonmpfbchffaaGreat.QryP Go.Proofs.YtkmonmpfbchffaaGreat.Qry4 Go.Proofs.YtkmonmpfbchffaaGreat.Qry5 Go.Proofs.YtkmonmpfbchffaaGreat.Qry7
set_option linter.unusedVariables false
set_option linter.unusedSimpArgs false
/-- Do tokens begin like a query's line? -/
def isL (L : List Tk) : Bool := decide (agreeF L [.word [97, 108, 119, 97, 121, 115]] = 1) || decide (agreeF L [.word [99, 97, 110]] = 1)
theorem one_word (t : Tk) (M : List Tk) (s : Str) : decide (agreeF (t :: M) [.word s] = 1) = (decide (t.kind = 2) && decide (t.text = ⟨s.toArray⟩)) := by
  have e : agreeF (t :: M) [.word s] = if (decide (t.kind = 2) && decide (t.text = ⟨s.toArray⟩)) = true then 1 else 0 := by
    unfold agreeF
    have e0 : agreeF M [] = 0 := by cases M <;> rfl
    rw [e0]
    rfl
  rw [e]
  cases (decide (t.kind = 2) && decide (t.text = ⟨s.toArray⟩)) <;> rfl
/-- A good token's kind is told by its first byte. -/
theorem small_kind {t : Tk} (h : goodTk t) {c : UInt8} {l : List UInt8} (e : t.text = ⟨(c :: l).toArray⟩) (h1 : named capB (c :: l) = false) (h2 : (⟨(c :: l).toArray⟩ : ByteArray) ≠ dot) (h3 : (⟨(c :: l).toArray⟩ : ByteArray) ≠ arrow) (h4 : (⟨(c :: l).toArray⟩ : ByteArray) ≠ amp) : t.kind = 2 := by
  rcases h with ⟨_, h⟩ | ⟨h, _⟩ | ⟨_, h⟩ | ⟨_, h⟩ | ⟨_, h⟩
  · rw [e] at h
    exact absurd h (by rw [show (⟨(c :: l).toArray⟩ : ByteArray).data.toList = c :: l from rfl, h1]; decide)
  · exact h
  · exact absurd (e.symm.trans h) h2
  · exact absurd (e.symm.trans h) h3
  · exact absurd (e.symm.trans h) h4
theorem isL_cons {t : Tk} {M : List Tk} (h : goodTk t) : isL (t :: M) = (decide (t.text = ⟨#[97, 108, 119, 97, 121, 115]⟩) || decide (t.text = ⟨#[99, 97, 110]⟩)) := by
  unfold isL
  rw [one_word, one_word]
  have k1 : t.text = ⟨#[97, 108, 119, 97, 121, 115]⟩ → t.kind = 2 := fun e => small_kind h (c := 97) (l := [108, 119, 97, 121, 115]) e (by decide) (by decide) (by decide) (by decide)
  have k2 : t.text = ⟨#[99, 97, 110]⟩ → t.kind = 2 := fun e => small_kind h (c := 99) (l := [97, 110]) e (by decide) (by decide) (by decide) (by decide)
  have e1 : (decide (t.kind = 2) && decide (t.text = ⟨#[97, 108, 119, 97, 121, 115]⟩)) = decide (t.text = ⟨#[97, 108, 119, 97, 121, 115]⟩) := by
    by_cases hx : t.text = ⟨#[97, 108, 119, 97, 121, 115]⟩
    · rw [decide_eq_true hx, decide_eq_true (k1 hx)]; rfl
    · rw [decide_eq_false hx, Bool.and_false]
  have e2 : (decide (t.kind = 2) && decide (t.text = ⟨#[99, 97, 110]⟩)) = decide (t.text = ⟨#[99, 97, 110]⟩) := by
    by_cases hx : t.text = ⟨#[99, 97, 110]⟩
    · rw [decide_eq_true hx, decide_eq_true (k2 hx)]; rfl
    · rw [decide_eq_false hx, Bool.and_false]
  exact congr (congrArg or e1) e2
set_option maxHeartbeats 1000000 in
set_option maxRecDepth 100000 in
theorem isQ (s : ByteArray) (w : World) (hs : s.size ≤ 1000000) : Calls Tryz.prog 13 #[.string s] w fun e w' => e = .returned (.bool (isL (okToks (ansOf s)))) ∧ RowKit.Below w.heap.size w w' := by
  have hlen : (okToks (ansOf s)).length ≤ 1000 := by
    cases h : ansOf s with
    | bad c e => show 0 ≤ 1000; omega
    | ok L => have := ans_len h; show L.length ≤ 1000; omega
  have HT := Lib.hid (tokens s · hs)
  have HW1 : Hid (∀ X : World, Calls Tryz.prog 51 #[.slice (some ⟨X.heap.size, 0, none⟩) 1 1] (X.alloc (.cells #[.string ⟨#[97, 108, 119, 97, 121, 115]⟩] 9)) (FitsPost [.word [97, 108, 119, 97, 121, 115]] (X.alloc (.cells #[.string ⟨#[97, 108, 119, 97, 121, 115]⟩] 9)))) := Lib.hid (fun X => wordsOne [97, 108, 119, 97, 121, 115] X _ rfl)
  have HW2 : Hid (∀ X : World, Calls Tryz.prog 51 #[.slice (some ⟨X.heap.size, 0, none⟩) 1 1] (X.alloc (.cells #[.string ⟨#[99, 97, 110]⟩] 9)) (FitsPost [.word [99, 97, 110]] (X.alloc (.cells #[.string ⟨#[99, 97, 110]⟩] 9)))) := Lib.hid (fun X => wordsOne [99, 97, 110] X _ rfl)
  generalize ansOf s = a at *
  generalize hL : okToks a = L at hlen ⊢
  have HL := Lib.hid hL
  clear hL
  go_enter Tryz.func13, Tryz.ntmps13
  go_wp2_with fail
  refine (HT.out _).mono ?_
  rintro e w1 ⟨v, rfl, hown, hb1⟩
  rw [HL.out] at hown
  obtain ⟨A, ca, rfl, hca, hA⟩ := of_rowTk hown
  have HA := Lib.hid hA
  have HB1 := Lib.hid hb1
  clear hA hb1 hown
  have er : isL L = (decide (agreeF L [.word [97, 108, 119, 97, 121, 115]] = 1) || decide (agreeF L [.word [99, 97, 110]] = 1)) := rfl
  have ER := Lib.hid er
  clear er
  go_wp2_with fail
  refine (HW1.out _).mono ?_
  rintro e w2 ⟨v1, vs1, rfl, hown1, hfn1, hb2⟩
  obtain ⟨V, cv, rfl, _, hvr⟩ := VRow.of_own hown1
  have hbw : RowKit.Below w1.heap.size w1 w2 := ((Below.refl _ _).alloc (Nat.le_refl _) _).trans (hb2.mono (by simp))
  have HG := Lib.hid (Qry5.agree A ca L V cv vs1 _ w2 hlen (by decide) (HA.out.below hbw) hvr hfn1)
  have HBW := Lib.hid hbw
  clear hown1 hfn1 hvr hbw hb2
  go_wp2_with fail
  refine HG.out.mono ?_
  rintro e w3 ⟨rfl, hg3⟩
  have HB3 := Lib.hid (HBW.out.trans (hg3.below.mono HBW.out.size))
  clear hg3 HG
  by_cases h1 : agreeF L [.word [97, 108, 119, 97, 121, 115]] = 1
  · have d1 : ((agreeF L [.word [97, 108, 119, 97, 121, 115]] : Int) == 1) = true := by rw [h1]; rfl
    have ET : Hid (isL L = true) := Lib.hid (by rw [ER.out, decide_eq_true h1]; rfl)
    clear ER h1
    generalize agreeF L [.word [97, 108, 119, 97, 121, 115]] = n1 at *
    go_wp2_with fail
    go_ret
    exact ⟨by rw [ET.out]; rfl, HB1.out.trans (HB3.out.mono HB1.out.size)⟩
  · have d1 : ((agreeF L [.word [97, 108, 119, 97, 121, 115]] : Int) == 1) = false := by
      rw [beq_eq_false_iff_ne]; intro h; exact h1 (by exact_mod_cast h)
    have EF : Hid (isL L = decide (agreeF L [.word [99, 97, 110]] = 1)) := Lib.hid (by rw [ER.out, decide_eq_false h1]; rfl)
    clear ER h1
    generalize agreeF L [.word [97, 108, 119, 97, 121, 115]] = n1 at *
    go_wp2_with fail
    refine (HW2.out _).mono ?_
    rintro e w4 ⟨v2, vs2, rfl, hown2, hfn2, hb4⟩
    obtain ⟨V2, cv2, rfl, _, hvr2⟩ := VRow.of_own hown2
    have hbw4 : RowKit.Below w1.heap.size w1 w4 := (HB3.out.alloc HB3.out.size _).trans (hb4.mono (by have := HB3.out.size; simp; omega))
    have HG2 := Lib.hid (Qry5.agree A ca L V2 cv2 vs2 _ w4 hlen (by decide) (HA.out.below hbw4) hvr2 hfn2)
    have HBW4 := Lib.hid hbw4
    clear hown2 hfn2 hvr2 hbw4 hb4
    go_wp2_with fail
    refine HG2.out.mono ?_
    rintro e w5 ⟨rfl, hg5⟩
    have HB5 := Lib.hid (HBW4.out.trans (hg5.below.mono HBW4.out.size))
    clear hg5 HG2
    have d2 : ((agreeF L [.word [99, 97, 110]] : Int) == 1) = decide (agreeF L [.word [99, 97, 110]] = 1) := by
      rw [Bool.eq_iff_iff]; simp; omega
    generalize decide (agreeF L [.word [99, 97, 110]] = 1) = b2 at *
    generalize agreeF L [.word [99, 97, 110]] = n2 at *
    go_wp2_with fail
    go_ret
    exact ⟨by rw [EF.out]; rfl, HB1.out.trans (HB5.out.mono HB1.out.size)⟩
end Go.Proofs.YtkmonmpfbchffaaGreat.QryX
