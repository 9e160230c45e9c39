/- Whether two queries are the very same, in the program and in the document's answers, by contract. -/
import Derived.Test.YtpjacngbkohmdaaM17
import Derived.Test.YtpjacngbkohmdaaM14
import Derived.Test.YtpjacngbkohmdaaM20
namespace Go.Proofs.Ytpjacngbkohmdaa.QryS
set_option linter.unusedVariables false
set_option linter.unusedSimpArgs false
open Go.RowKit Go.Sort Go.Proofs Go.Proofs.Ytpjacngbkohmdaa.Plain Go.Proofs.Ytpjacngbkohmdaa.SynP Go.Proofs.Ytpjacngbkohmdaa.TabP Go.Proofs.Ytpjacngbkohmdaa.Tab1 Go.Proofs.Ytpjacngbkohmdaa.Grown Go.Proofs.Ytpjacngbkohmdaa.SynE Go.Proofs.Ytpjacngbkohmdaa.QryP Go.Proofs.Ytpjacngbkohmdaa.Qry1
set_option linter.unusedVariables false
set_option linter.unusedSimpArgs false
theorem neS (x y : ByteArray) (w : World) : (binOp .neq 9 (.string x) (.string y)).run Try.prog w = .ok (.bool (!decide (x = y))) w := by
  have e := text_eq
  go_simp
  by_cases h : x = y
  · subst h; simp
  · simp [h, e]
theorem mk_inj (s t : Str) : ((⟨s.toArray⟩ : ByteArray) = ⟨t.toArray⟩) ↔ s = t := ⟨fun h => by
  have := congrArg (fun z : ByteArray => z.data.toList) h
  simpa using this, fun h => by rw [h]⟩
def sameB (a b : Qy) : Bool := decide (a.kind = b.kind) && (decide (a.a = b.a) && (decide (a.b = b.b) && decide (a.who = b.who)))
theorem sameB_eq {a b : Qy} : sameB a b = true ↔ a = b := by
  obtain ⟨k, a1, b1, T⟩ := a
  obtain ⟨k', a2, b2, U⟩ := b
  unfold sameB
  simp [Qy.mk.injEq]
def SameP (a b : Qy) (w : World) (e : Ending) (w' : World) : Prop := e = .returned (.bool (sameB a b)) ∧ RowKit.Below w.heap.size w w'
end Go.Proofs.Ytpjacngbkohmdaa.QryS
/- Are two policies the very same: policy.Same, by contract. -/
namespace Go.Proofs.Ytpjacngbkohmdaa.PolN
set_option linter.unusedVariables false
set_option linter.unusedSimpArgs false
open Go.RowKit Go.Sort Go.Lib Go.Proofs Go.Proofs.Ytpjacngbkohmdaa.Plain Go.Proofs.Ytpjacngbkohmdaa.SynP Go.Proofs.Ytpjacngbkohmdaa.TabP Go.Proofs.Ytpjacngbkohmdaa.Tab1 Go.Proofs.Ytpjacngbkohmdaa.SynJ Go.Proofs.Ytpjacngbkohmdaa.QryP Go.Proofs.Ytpjacngbkohmdaa.PolA Go.Proofs.Ytpjacngbkohmdaa.PolE Go.Proofs.Ytpjacngbkohmdaa.PolG Go.Proofs.Ytpjacngbkohmdaa.PolJ
set_option linter.unusedVariables false
set_option linter.unusedSimpArgs false
instance decQ : DecidableEq Qy := fun a b => decidable_of_iff (QryS.sameB a b = true) QryS.sameB_eq
theorem sameB_dec (a b : Qy) : QryS.sameB a b = decide (a = b) := by
  cases h : QryS.sameB a b
  · exact (decide_eq_false (fun e => by rw [QryS.sameB_eq.2 e] at h; cases h)).symm
  · exact (decide_eq_true (QryS.sameB_eq.1 h)).symm
def samePy (p q : Py) : Bool := decide (p.stmts = q.stmts) && decide (p.grow = q.grow) && decide (p.shrink = q.shrink) && decide (p.asks = q.asks)
end Go.Proofs.Ytpjacngbkohmdaa.PolN
/- Are two policies the very same: the document's Same, by contract. -/
namespace Go.Proofs.Ytpjacngbkohmdaa.RefSm
set_option linter.unusedVariables false
set_option linter.unusedSimpArgs false
open Go.RowKit Go.Sort Go.Lib Go.Proofs Go.Proofs.Ytpjacngbkohmdaa.Plain Go.Proofs.Ytpjacngbkohmdaa.SynP Go.Proofs.Ytpjacngbkohmdaa.TabP Go.Proofs.Ytpjacngbkohmdaa.Tab1 Go.Proofs.Ytpjacngbkohmdaa.SynJ Go.Proofs.Ytpjacngbkohmdaa.QryP Go.Proofs.Ytpjacngbkohmdaa.PolA Go.Proofs.Ytpjacngbkohmdaa.PolE Go.Proofs.Ytpjacngbkohmdaa.PolG Go.Proofs.Ytpjacngbkohmdaa.PolJ Go.Proofs.Ytpjacngbkohmdaa.PolN
set_option linter.unusedVariables false
set_option linter.unusedSimpArgs false
set_option maxHeartbeats 1000000 in
set_option maxRecDepth 100000 in
theorem sameRR (A B : Option Addr) (ca cb : Nat) (T U : List Rl) (w : World) (hT : T.length ≤ 10000) (hU : U.length ≤ 10000) (hA : RG w A T) (hB : RG w B U) :
    Calls Try.prog 52 #[.slice A T.length ca, .slice B U.length cb] w fun e w' => e = .returned (.bool (decide (T = U))) ∧ ∃ n, w' = w.drewN n := by
  by_cases hl : T.length = U.length
  · have HL := Lib.hid hl
    have d0 : ((T.length : Int) != U.length) = false := by rw [hl]; simp
    have d0' : (T.length != U.length) = false := by rw [hl]; simp
    have HA := Lib.hid hA
    have HB := Lib.hid hB
    have hul : U.length ≤ T.length := by omega
    have htl : T.length ≤ U.length := by omega
    clear hl hA hB
    go_enter Try.func52, Try.ntmps52
    go_wp2_with fail
    go_loopw [13] (fun i wr => ∃ k : Nat, k ≤ T.length ∧ i = .int .i64 k ∧ Hid (∀ j, j < k → T[j]? = U[j]?) ∧ ∃ n, wr = w.drewN n) (fun i _ => T.length - (intOf i).toNat)
    case atStart => exact ⟨0, by omega, rfl, Lib.hid (fun j hj => by omega), 0, rfl⟩
    case round =>
      obtain ⟨k, hk, rfl, hall, n, rfl⟩ := hrel
      by_cases hlt : k < T.length
      · have hlu : k < U.length := by omega
        obtain ⟨g1, o1, rfl, _, h1⟩ := HA.out (by omega)
        obtain ⟨g2, o2, rfl, _, h2⟩ := HB.out (by omega)
        obtain ⟨a0, a1⟩ := h1 k hlt
        obtain ⟨b0, b1⟩ := h2 k hlu
        have p1 : (0 : Int) ≤ k := by omega
        have p2 : (k : Int) < T.length := by omega
        have p3 : (k : Int) < U.length := by omega
        have hq := fun w => SynE.neR T[k].owner T[k].name U[k].owner U[k].name w
        clear h1 h2
        by_cases he : T[k] = U[k]
        · have hnext : Hid (∀ j, j < k + 1 → T[j]? = U[j]?) := Lib.hid (fun j hj => by
            by_cases e : j = k
            · subst e; rw [List.getElem?_eq_getElem hlt, List.getElem?_eq_getElem hlu, he]
            · exact hall.out j (by omega))
          rw [decide_eq_true (p := (⟨T[k].owner, T[k].name⟩ : Rl) = (⟨U[k].owner, U[k].name⟩)) he] at hq
          clear he hall
          go_wp2_with fail
          go_quiet (fail)
          go_wp2_with fail
          go_roundw
          case rel => exact ⟨k + 1, by omega, by go_num, hnext, _, rfl⟩
          case measure => simp [intOf]; omega
        · have hfin : Hid (decide (T = U) = false) := Lib.hid (decide_eq_false (fun h => he (by subst h; rfl)))
          rw [decide_eq_false (p := (⟨T[k].owner, T[k].name⟩ : Rl) = (⟨U[k].owner, U[k].name⟩)) he] at hq
          clear he hall
          go_wp2_with fail
          go_quiet (fail)
          go_wp2_with fail
          go_ret
          exact ⟨ret_bool hfin.out.symm, _, World.drewN_drewN _ _ _⟩
      · have hfin : Hid (decide (T = U) = true) := Lib.hid (decide_eq_true (same_all HL.out fun j hj => hall.out j (by omega)))
        clear hall
        go_wp2_with fail
        go_ret
        exact ⟨ret_bool hfin.out.symm, _, rfl⟩
  · have d0 : ((T.length : Int) != U.length) = true := by rw [bne_iff_ne]; omega
    have d0' : (T.length != U.length) = true := by rw [bne_iff_ne]; exact hl
    rw [decide_eq_false (fun h : T = U => hl (by rw [h]))]
    clear hl hA hB
    go_enter Try.func52, Try.ntmps52
    go_wp2_with fail
    go_ret
    exact ⟨rfl, 0, rfl⟩
set_option maxHeartbeats 1000000 in
set_option maxRecDepth 100000 in
theorem sameSS (A B : Option Addr) (ca cb : Nat) (T U : List St) (w : World) (hT : T.length ≤ 10000) (hU : U.length ≤ 10000) (hA : SG w A T) (hB : SG w B U) :
    Calls Try.prog 10 #[.slice A T.length ca, .slice B U.length cb] w fun e w' => e = .returned (.bool (decide (T = U))) ∧ ∃ n, w' = w.drewN n := by
  by_cases hl : T.length = U.length
  · have HL := Lib.hid hl
    have d0 : ((T.length : Int) != U.length) = false := by rw [hl]; simp
    have d0' : (T.length != U.length) = false := by rw [hl]; simp
    have HA := Lib.hid hA
    have HB := Lib.hid hB
    have hul : U.length ≤ T.length := by omega
    have htl : T.length ≤ U.length := by omega
    clear hl hA hB
    go_enter Try.func10, Try.ntmps10
    go_wp2_with fail
    go_loopw [13] (fun i wr => ∃ k : Nat, k ≤ T.length ∧ i = .int .i64 k ∧ Hid (∀ j, j < k → T[j]? = U[j]?) ∧ ∃ n, wr = w.drewN n) (fun i _ => T.length - (intOf i).toNat)
    case atStart => exact ⟨0, by omega, rfl, Lib.hid (fun j hj => by omega), 0, rfl⟩
    case round =>
      obtain ⟨k, hk, rfl, hall, n, rfl⟩ := hrel
      by_cases hlt : k < T.length
      · have hlu : k < U.length := by omega
        obtain ⟨g1, o1, rfl, _, h1⟩ := HA.out (by omega)
        obtain ⟨g2, o2, rfl, _, h2⟩ := HB.out (by omega)
        obtain ⟨a0, a1, a2, a3, a4, a5, a6, a7, a8⟩ := h1 k hlt
        obtain ⟨b0, b1, b2, b3, b4, b5, b6, b7, b8⟩ := h2 k hlu
        have p1 : (0 : Int) ≤ k := by omega
        have p2 : (k : Int) < T.length := by omega
        have p3 : (k : Int) < U.length := by omega
        have hq := fun w => SynE.neS T[k].kind T[k].head.owner T[k].head.name T[k].who T[k].a.owner T[k].a.name T[k].b.owner T[k].b.name T[k].via U[k].kind U[k].head.owner U[k].head.name U[k].who U[k].a.owner U[k].a.name U[k].b.owner U[k].b.name U[k].via w
        clear h1 h2
        by_cases he : T[k] = U[k]
        · have hnext : Hid (∀ j, j < k + 1 → T[j]? = U[j]?) := Lib.hid (fun j hj => by
            by_cases e : j = k
            · subst e; rw [List.getElem?_eq_getElem hlt, List.getElem?_eq_getElem hlu, he]
            · exact hall.out j (by omega))
          rw [decide_eq_true (p := (⟨T[k].kind, ⟨T[k].head.owner, T[k].head.name⟩, T[k].who, ⟨T[k].a.owner, T[k].a.name⟩, ⟨T[k].b.owner, T[k].b.name⟩, T[k].via⟩ : St) = (⟨U[k].kind, ⟨U[k].head.owner, U[k].head.name⟩, U[k].who, ⟨U[k].a.owner, U[k].a.name⟩, ⟨U[k].b.owner, U[k].b.name⟩, U[k].via⟩)) he] at hq
          clear he hall
          go_wp2_with fail
          go_quiet (fail)
          go_wp2_with fail
          go_roundw
          case rel => exact ⟨k + 1, by omega, by go_num, hnext, _, rfl⟩
          case measure => simp [intOf]; omega
        · have hfin : Hid (decide (T = U) = false) := Lib.hid (decide_eq_false (fun h => he (by subst h; rfl)))
          rw [decide_eq_false (p := (⟨T[k].kind, ⟨T[k].head.owner, T[k].head.name⟩, T[k].who, ⟨T[k].a.owner, T[k].a.name⟩, ⟨T[k].b.owner, T[k].b.name⟩, T[k].via⟩ : St) = (⟨U[k].kind, ⟨U[k].head.owner, U[k].head.name⟩, U[k].who, ⟨U[k].a.owner, U[k].a.name⟩, ⟨U[k].b.owner, U[k].b.name⟩, U[k].via⟩)) he] at hq
          clear he hall
          go_wp2_with fail
          go_quiet (fail)
          go_wp2_with fail
          go_ret
          exact ⟨ret_bool hfin.out.symm, _, World.drewN_drewN _ _ _⟩
      · have hfin : Hid (decide (T = U) = true) := Lib.hid (decide_eq_true (same_all HL.out fun j hj => hall.out j (by omega)))
        clear hall
        go_wp2_with fail
        go_ret
        exact ⟨ret_bool hfin.out.symm, _, rfl⟩
  · have d0 : ((T.length : Int) != U.length) = true := by rw [bne_iff_ne]; omega
    have d0' : (T.length != U.length) = true := by rw [bne_iff_ne]; exact hl
    rw [decide_eq_false (fun h : T = U => hl (by rw [h]))]
    clear hl hA hB
    go_enter Try.func10, Try.ntmps10
    go_wp2_with fail
    go_ret
    exact ⟨rfl, 0, rfl⟩
end Go.Proofs.Ytpjacngbkohmdaa.RefSm
