/- The document's example of a query; which queries are light; a query's roles and principals. -/
import Derived.Test.YtcbbffpalpieaaaGreatM16
import Derived.Test.YtcbbffpalpieaaaGreatM19
namespace Go.Proofs.YtcbbffpalpieaaaGreat.QryO
set_option linter.unusedVariables false
set_option linter.unusedSimpArgs false
open Go.RowKit Go.Sort Go.Proofs Go.Proofs.YtcbbffpalpieaaaGreat.Plain Go.Proofs.YtcbbffpalpieaaaGreat.SynP Go.Proofs.YtcbbffpalpieaaaGreat.TabP Go.Proofs.YtcbbffpalpieaaaGreat.Tab1 Go.Proofs.YtcbbffpalpieaaaGreat.Grown Go.Proofs.YtcbbffpalpieaaaGreat.Scan3 Go.Proofs.YtcbbffpalpieaaaGreat.SynS Go.Proofs.YtcbbffpalpieaaaGreat.SynW Go.Proofs.YtcbbffpalpieaaaGreat.SynJ Go.Proofs.YtcbbffpalpieaaaGreat.QryP Go.Proofs.YtcbbffpalpieaaaGreat.Qry6 Go.Proofs.YtcbbffpalpieaaaGreat.QryC Go.Proofs.YtcbbffpalpieaaaGreat.QryE Go.Proofs.YtcbbffpalpieaaaGreat.QryL Go.Proofs.YtcbbffpalpieaaaGreat.QryH Go.Proofs.YtcbbffpalpieaaaGreat.QryI Go.Proofs.YtcbbffpalpieaaaGreat.QryN
set_option linter.unusedVariables false
set_option linter.unusedSimpArgs false
def ExPost (w : World) (e : Ending) (w' : World) : Prop := ∃ A c, e = .returned (.tuple #[.agg #[.int .i64 3, .string ⟨#[65]⟩, .string ⟨#[114]⟩, .string ⟨#[]⟩, .string ⟨#[]⟩, .slice A 2 c], .int .i64 0, .int .i64 0]) ∧ SRow w' A [[66], [67]] ∧ RowKit.Below w.heap.size w w'
theorem ex_call (w : World) : Calls Tryz.prog 20 #[.string ⟨#[97, 108, 119, 97, 121, 115, 32, 65, 46, 114, 32, 119, 105, 116, 104, 105, 110, 32, 67, 32, 66]⟩] w (ExPost w) := by
  have h := parse exT w (by decide)
  obtain ⟨L, e1, e2⟩ := ex_parse
  have e3 : askA (ansOf exT) = (exQ, 0, 0) := by rw [e1]; exact e2
  rw [e3] at h
  refine h.mono ?_
  rintro e w' ⟨A, c, he, hr, _, hb⟩
  exact ⟨A, c, he, hr, hb⟩
theorem ex_print (A : Option Addr) (c : Nat) (w : World) (hA : SRow w A [[66], [67]]) : Calls Tryz.prog 14 #[.agg #[.int .i64 3, .string ⟨#[65]⟩, .string ⟨#[114]⟩, .string ⟨#[]⟩, .string ⟨#[]⟩, .slice A 2 c]] w fun e w' => e = .returned (.string ⟨#[97, 108, 119, 97, 121, 115, 32, 65, 46, 114, 32, 119, 105, 116, 104, 105, 110, 32, 66, 32, 67]⟩) ∧ RowKit.Below w.heap.size w w' := by
  have h := print exQ A c w (fit_of_right ex_right) hA
  unfold LinePost at h
  rw [ex_line] at h
  exact h
theorem ex_same (A B : Option Addr) (c : Nat) (w : World) (hA : SRow w A [[66], [67]]) (hB : SRow w B [[66], [67]]) : Calls Tryz.prog 18 #[.slice A 2 c, .slice B 2 2] w fun e w' => e = .returned (.bool true) ∧ ∃ n, w' = w.drewN n := Tab3.same A B c 2 [[66], [67]] w (by decide) hA hB
set_option maxHeartbeats 1000000 in
set_option maxRecDepth 100000 in
theorem lives (w : World) : Calls Tryz.prog 7 #[] w fun e w' => e = .returned (.bool true) ∧ RowKit.Below w.heap.size w w' := by
  have HP := Lib.hid ex_call
  have HPr := Lib.hid ex_print
  go_enter Tryz.func7, Tryz.ntmps7
  go_wp2_with fail
  refine (HP.out _).mono ?_
  rintro e w1 ⟨A, c, rfl, hrow, hb1⟩
  have hz := hb1.size
  have hrow2 := Lib.hid ((hrow.keep ((Below.refl _ _).alloc (Nat.le_refl _) (.cells #[.int .i64 3, .string ⟨#[65]⟩, .string ⟨#[114]⟩, .string ⟨#[]⟩, .string ⟨#[]⟩, .slice A 2 c] 26))).keep ((Below.refl _ _).alloc (Nat.le_refl _) (.cells #[.string ⟨#[66]⟩, .string ⟨#[67]⟩] 9)))
  have hnew := srow_two (w1.alloc (.cells #[.int .i64 3, .string ⟨#[65]⟩, .string ⟨#[114]⟩, .string ⟨#[]⟩, .string ⟨#[]⟩, .slice A 2 c] 26)) ⟨#[66]⟩ ⟨#[67]⟩
  rw [World.size_alloc] at hnew
  have HN := Lib.hid hnew
  have HB := Lib.hid ((hb1.alloc hz (.cells #[.int .i64 3, .string ⟨#[65]⟩, .string ⟨#[114]⟩, .string ⟨#[]⟩, .string ⟨#[]⟩, .slice A 2 c] 26)).alloc (by simp; omega) (.cells #[.string ⟨#[66]⟩, .string ⟨#[67]⟩] 9))
  clear hnew hrow hb1
  go_wp2_with fail
  refine (ex_same A _ c _ ?r1 ?r2).mono ?_
  case r1 => exact hrow2.out
  case r2 => exact HN.out
  rintro e w2 ⟨rfl, n, rfl⟩
  go_wp2_with fail
  refine (HPr.out A c _ ?r3).mono ?_
  case r3 => exact hrow2.out
  rintro e w3 ⟨rfl, hb3⟩
  go_wp2_with fail
  go_ret
  exact ⟨rfl, (below_drewN HB.out n).trans (hb3.mono (by show w.heap.size ≤ ((w1.alloc _).alloc _).heap.size; simp; omega))⟩
def lightQ (q : Qy) : Bool := Tab6.lightB q.who && Tab6.lightB [bs q.a.owner, bs q.a.name, bs q.b.owner, bs q.b.name]
theorem srow_four (X : World) (x y z u : ByteArray) : SRow (X.alloc (.cells #[.string x, .string y, .string z, .string u] 9)) (some ⟨X.heap.size, 0, none⟩) [bs x, bs y, bs z, bs u] := by
  have h := srow_new X [bs x, bs y, bs z, bs u] 9
  have e : ((([bs x, bs y, bs z, bs u] : List Str).map encStr).toArray : Array Value) = #[.string x, .string y, .string z, .string u] := by
    have a := bs_of x
    have b := bs_of y
    have c := bs_of z
    have d := bs_of u
    show #[Value.string ⟨(bs x).toArray⟩, Value.string ⟨(bs y).toArray⟩, Value.string ⟨(bs z).toArray⟩, Value.string ⟨(bs u).toArray⟩] = _
    rw [← a, ← b, ← c, ← d]
  rw [e] at h
  exact h
set_option maxHeartbeats 1000000 in
set_option maxRecDepth 100000 in
theorem light (q : Qy) (A : Option Addr) (c : Nat) (w : World) (hf : q.fit) (hA : SRow w A q.who) : Calls Tryz.prog 6 #[q.val A c] w fun e w' => e = .returned (.bool (lightQ q)) ∧ Grew w w' := by
  obtain ⟨k, ⟨ao, an⟩, ⟨bo, bn⟩, T⟩ := q
  obtain ⟨fa, fb, fT, fs⟩ := hf
  unfold lightQ
  have H1 := Lib.hid (fun (w' : World) (hr : SRow w' A T) => Tab6.light A c T w' fT fs hr)
  have hl4 : ∀ s ∈ [bs ao, bs an, bs bo, bs bn], s.length ≤ maxLen := by
    intro s hs
    rcases (by simpa using hs : s = bs ao ∨ s = bs an ∨ s = bs bo ∨ s = bs bn) with rfl | rfl | rfl | rfl
    · exact fa.1
    · exact fa.2
    · exact fb.1
    · exact fb.2
  have H2 := Lib.hid (fun (B : Option Addr) (w' : World) (hr : SRow w' B [bs ao, bs an, bs bo, bs bn]) => Tab6.light B 4 [bs ao, bs an, bs bo, bs bn] w' (by simp; unfold maxLen; decide) hl4 hr)
  have HA := Lib.hid (hA.keep ((Below.refl _ _).alloc (Nat.le_refl _) (.cells #[.int .i64 k, .string ao, .string an, .string bo, .string bn, .slice A T.length c] 26)))
  have hn4 := srow_four (w.alloc (.cells #[.int .i64 k, .string ao, .string an, .string bo, .string bn, .slice A T.length c] 26)) ao an bo bn
  rw [World.size_alloc] at hn4
  have HN := Lib.hid hn4
  show Calls _ _ #[.agg #[.int .i64 k, .string ao, .string an, .string bo, .string bn, .slice A T.length c]] _ _
  simp only
  generalize Tab6.lightB T = l1 at *
  generalize Tab6.lightB [bs ao, bs an, bs bo, bs bn] = l2 at *
  clear fa fb fT fs hA hl4 hn4
  cases l1
  · go_enter Tryz.func6, Tryz.ntmps6
    go_wp2_with fail
    refine (H1.out _ HA.out).mono ?_
    rintro e w1 ⟨rfl, rfl⟩
    go_wp2_with fail
    go_ret
    exact ⟨rfl, (Grew.refl _).alloc _⟩
  · go_enter Tryz.func6, Tryz.ntmps6
    go_wp2_with fail
    refine (H1.out _ HA.out).mono ?_
    rintro e w1 ⟨rfl, rfl⟩
    go_wp2_with fail
    refine (H2.out _ _ HN.out).mono ?_
    rintro e w1 ⟨rfl, rfl⟩
    go_wp2_with fail
    go_ret
    exact ⟨rfl, ((Grew.refl _).alloc _).alloc _⟩
def rolesQ (q : Qy) : List Rl := if hasBk q.kind = true then [q.a, q.b] else [q.a]
def RolesPostQ (q : Qy) (w : World) (e : Ending) (w' : World) : Prop := ∃ A, e = .returned (.slice A (rolesQ q).length (rolesQ q).length) ∧ RAt w' A (rolesQ q) ∧ RowKit.Below w.heap.size w w'
set_option maxRecDepth 100000 in
theorem rolesOf (q : Qy) (A : Option Addr) (c : Nat) (w : World) : Calls Tryz.prog 17 #[q.val A c] w (RolesPostQ q w) := by
  obtain ⟨k, ⟨ao, an⟩, ⟨bo, bn⟩, T⟩ := q
  have HB := Lib.hid (fun w' => hasB k w')
  show Calls _ _ #[.agg #[.int .i64 k, .string ao, .string an, .string bo, .string bn, .slice A T.length c]] _ _
  have hn2 : ∀ n, RAt (((w.alloc (.cells #[.int .i64 k, .string ao, .string an, .string bo, .string bn, .slice A T.length c] 26)).drewN n).alloc (.cells #[.string ao, .string an, .string bo, .string bn] 23)) (some ⟨w.heap.size + 1, 0, none⟩) [⟨ao, an⟩, ⟨bo, bn⟩] := fun n => by
    have h := rat_new ((w.alloc (.cells #[.int .i64 k, .string ao, .string an, .string bo, .string bn, .slice A T.length c] 26)).drewN n) [⟨ao, an⟩, ⟨bo, bn⟩] 23
    have e : ((w.alloc (.cells #[.int .i64 k, .string ao, .string an, .string bo, .string bn, .slice A T.length c] 26)).drewN n).heap.size = w.heap.size + 1 := World.size_alloc _ _
    rw [e] at h
    exact h
  have hn1 : ∀ n, RAt (((w.alloc (.cells #[.int .i64 k, .string ao, .string an, .string bo, .string bn, .slice A T.length c] 26)).drewN n).alloc (.cells #[.string ao, .string an] 23)) (some ⟨w.heap.size + 1, 0, none⟩) [⟨ao, an⟩] := fun n => by
    have h := rat_new ((w.alloc (.cells #[.int .i64 k, .string ao, .string an, .string bo, .string bn, .slice A T.length c] 26)).drewN n) [⟨ao, an⟩] 23
    have e : ((w.alloc (.cells #[.int .i64 k, .string ao, .string an, .string bo, .string bn, .slice A T.length c] 26)).drewN n).heap.size = w.heap.size + 1 := World.size_alloc _ _
    rw [e] at h
    exact h
  have H2 := Lib.hid hn2
  have H1 := Lib.hid hn1
  have hb0 := Lib.hid (fun n => below_drewN ((Below.refl w.heap.size w).alloc (Nat.le_refl _) (.cells #[.int .i64 k, .string ao, .string an, .string bo, .string bn, .slice A T.length c] 26)) n)
  unfold RolesPostQ rolesQ
  simp only
  clear hn1 hn2
  cases hbk : hasBk k
  · rw [hbk] at HB
    simp only [Bool.false_eq_true, if_false]
    clear hbk
    go_enter Tryz.func17, Tryz.ntmps17
    go_wp2_with fail
    refine (HB.out _).mono ?_
    rintro e w1 ⟨rfl, n, rfl⟩
    go_wp2_with fail
    go_ret
    exact ⟨_, rfl, H1.out n, (hb0.out n).alloc (hb0.out n).size _⟩
  · rw [hbk] at HB
    simp only [if_true]
    clear hbk
    go_enter Tryz.func17, Tryz.ntmps17
    go_wp2_with fail
    refine (HB.out _).mono ?_
    rintro e w1 ⟨rfl, n, rfl⟩
    go_wp2_with fail
    go_ret
    exact ⟨_, rfl, H2.out n, (hb0.out n).alloc (hb0.out n).size _⟩
def PrinsPost (T : List Str) (w : World) (e : Ending) (w' : World) : Prop := ∃ A c, e = .returned (.slice A T.length c) ∧ SRow w' A T ∧ RowKit.Below w.heap.size w w'
set_option maxRecDepth 100000 in
theorem prins (q : Qy) (A : Option Addr) (c : Nat) (w : World) (hT : q.who.length ≤ 1000000) (hA : SRow w A q.who) : Calls Tryz.prog 19 #[q.val A c] w (PrinsPost q.who w) := by
  obtain ⟨k, ⟨ao, an⟩, ⟨bo, bn⟩, T⟩ := q
  show Calls _ _ #[.agg #[.int .i64 k, .string ao, .string an, .string bo, .string bn, .slice A T.length c]] _ _
  have HC := Lib.hid (Tab7.cloneC A c T _ hT (hA.keep ((Below.refl _ _).alloc (Nat.le_refl _) (.cells #[.int .i64 k, .string ao, .string an, .string bo, .string bn, .slice A T.length c] 26))))
  clear hA
  go_enter Tryz.func19, Tryz.ntmps19
  go_wp2_with fail
  refine HC.out.mono ?_
  rintro e w1 ⟨v, rfl, hown, hb⟩
  obtain ⟨A', c', rfl, _, hr⟩ := SRow.of_own hown
  clear hown
  go_wp2_with fail
  go_ret
  exact ⟨A', c', rfl, hr, ((Below.refl _ _).alloc (Nat.le_refl _) _).trans (hb.mono (by simp))⟩
end Go.Proofs.YtcbbffpalpieaaaGreat.QryO
