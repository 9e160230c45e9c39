/- Whether two queries are the very same, in the program and in the document's answers, by contract. -/
import Derived.Test.YtkmpbkgmdfeicaaGreatM16
import Derived.Test.YtkmpbkgmdfeicaaGreatM14
import Derived.Test.YtkmpbkgmdfeicaaGreatM19
import Derived.Test.YtkmpbkgmdfeicaaGreatM11
import Derived.Test.YtkmpbkgmdfeicaaGreatM25
import Derived.Test.YtkmpbkgmdfeicaaGreatM26
namespace Go.Proofs.YtkmpbkgmdfeicaaGreat.QryS
set_option linter.unusedVariables false
set_option linter.unusedSimpArgs false
open Go.RowKit Go.Sort Go.Proofs Go.Proofs.YtkmpbkgmdfeicaaGreat.Plain Go.Proofs.YtkmpbkgmdfeicaaGreat.SynP Go.Proofs.YtkmpbkgmdfeicaaGreat.TabP Go.Proofs.YtkmpbkgmdfeicaaGreat.Tab1 Go.Proofs.YtkmpbkgmdfeicaaGreat.Grown Go.Proofs.YtkmpbkgmdfeicaaGreat.SynE Go.Proofs.YtkmpbkgmdfeicaaGreat.QryP Go.Proofs.YtkmpbkgmdfeicaaGreat.Qry1
set_option linter.unusedVariables false
set_option linter.unusedSimpArgs false
theorem neS (x y : ByteArray) (w : World) : (binOp .neq 9 (.string x) (.string y)).run Tryz.prog w = .ok (.bool (!decide (x = y))) w := by
  have e := text_eq
  go_simp
  by_cases h : x = y
  · subst h; simp
  · simp [h, e]
theorem mk_inj (s t : Str) : ((⟨s.toArray⟩ : ByteArray) = ⟨t.toArray⟩) ↔ s = t := ⟨fun h => by
  have := congrArg (fun z : ByteArray => z.data.toList) h
  simpa using this, fun h => by rw [h]⟩
set_option maxHeartbeats 1000000 in
set_option maxRecDepth 100000 in
theorem sameG (A B : Option Addr) (ca cb : Nat) (T U : List Str) (w : World) (hT : T.length ≤ 1000000) (hU : U.length ≤ 1000000) (hA : SRow w A T) (hB : SRow w B U) :
    Calls Tryz.prog 19 #[.slice A T.length ca, .slice B U.length cb] w fun e w' => e = .returned (.bool (decide (T = U))) ∧ ∃ n, w' = w.drewN n := by
  by_cases hl : T.length = U.length
  · have HL := Lib.hid hl
    have d0 : ((T.length : Int) != U.length) = false := by rw [hl]; simp
    have d0' : (T.length != U.length) = false := by rw [hl]; simp
    have HA := Lib.hid hA
    have HB := Lib.hid hB
    have hul : U.length ≤ T.length := by omega
    have htl : T.length ≤ U.length := by omega
    clear hl hA hB
    go_enter Tryz.func19, Tryz.ntmps19
    go_wp2_with fail
    go_loopw [13] (fun i wr => ∃ k : Nat, k ≤ T.length ∧ i = .int .i64 k ∧ Hid (∀ j, j < k → T[j]? = U[j]?) ∧ ∃ n, wr = w.drewN n) (fun i _ => T.length - (intOf i).toNat)
    case atStart => exact ⟨0, by omega, rfl, Lib.hid (fun j hj => by omega), 0, rfl⟩
    case round =>
      obtain ⟨k, hk, rfl, hall, n, rfl⟩ := hrel
      by_cases hlt : k < T.length
      · have hlu : k < U.length := by omega
        obtain ⟨g1, o1, rfl, _, h1⟩ := HA.out (by omega)
        obtain ⟨g2, o2, rfl, _, h2⟩ := HB.out (by omega)
        have a1 := h1 k hlt
        have a2 := h2 k hlu
        have p1 : (0 : Int) ≤ k := by omega
        have p2 : (k : Int) < T.length := by omega
        have p3 : (k : Int) < U.length := by omega
        by_cases he : T[k] = U[k]
        · have hnext : Hid (∀ j, j < k + 1 → T[j]? = U[j]?) := Lib.hid (fun j hj => by
            by_cases e : j = k
            · subst e; rw [List.getElem?_eq_getElem hlt, List.getElem?_eq_getElem hlu, he]
            · exact hall.out j (by omega))
          rw [← he] at a2
          clear h1 h2 he hall
          generalize (⟨T[k].toArray⟩ : ByteArray) = x at *
          go_wp2_with fail
          go_quiet (fail)
          go_wp2_with fail
          go_roundw
          case rel => exact ⟨k + 1, by omega, by go_num, hnext, _, rfl⟩
          case measure => simp [intOf]; omega
        · have hfin : Hid (decide (T = U) = false) := Lib.hid (decide_eq_false (fun h => he (by subst h; rfl)))
          have hxy : ((⟨T[k].toArray⟩ : ByteArray).toList == (⟨U[k].toArray⟩ : ByteArray).toList) = false := by
            rw [beq_eq_false_iff_ne]
            intro h
            rw [Go.ByteArray.toList_eq, Go.ByteArray.toList_eq] at h
            exact he h
          have hxy2 : (!((⟨T[k].toArray⟩ : ByteArray).toList == (⟨U[k].toArray⟩ : ByteArray).toList)) = true := by rw [hxy]; rfl
          clear h1 h2 he hall
          generalize (⟨T[k].toArray⟩ : ByteArray) = x at *
          generalize (⟨U[k].toArray⟩ : ByteArray) = y at *
          go_wp2_with fail
          go_quiet (fail)
          go_wp2_with fail
          go_ret
          exact ⟨ret_bool hfin.out.symm, _, World.drewN_drewN _ _ _⟩
      · have hfin : Hid (decide (T = U) = true) := Lib.hid (decide_eq_true (List.ext_getElem? fun j => by
          by_cases hj : j < T.length
          · exact hall.out j (by omega)
          · rw [List.getElem?_eq_none (by omega), List.getElem?_eq_none (by omega)]))
        clear hall
        go_wp2_with fail
        go_ret
        exact ⟨ret_bool hfin.out.symm, _, rfl⟩
  · have hfin : Hid (decide (T = U) = false) := Lib.hid (decide_eq_false (fun h => hl (by rw [h])))
    have hl' : ¬ (T.length : Int) = U.length := by omega
    have d0 : ((T.length : Int) != U.length) = true := by simp; omega
    have d0' : (T.length != U.length) = true := by simp; omega
    clear hl'
    have HL := Lib.hid hl
    clear hl
    go_enter Tryz.func19, Tryz.ntmps19
    go_wp2_with fail
    go_ret
    exact ⟨ret_bool hfin.out.symm, 0, rfl⟩
def sameB (a b : Qy) : Bool := decide (a.kind = b.kind) && (decide (a.a = b.a) && (decide (a.b = b.b) && decide (a.who = b.who)))
theorem sameB_eq {a b : Qy} : sameB a b = true ↔ a = b := by
  obtain ⟨k, a1, b1, T⟩ := a
  obtain ⟨k', a2, b2, U⟩ := b
  unfold sameB
  simp [Qy.mk.injEq]
def SameP (a b : Qy) (w : World) (e : Ending) (w' : World) : Prop := e = .returned (.bool (sameB a b)) ∧ RowKit.Below w.heap.size w w'
set_option maxHeartbeats 1000000 in
set_option maxRecDepth 100000 in
theorem sameQ (a b : Qy) (A B : Option Addr) (c d : Nat) (w : World) (hT : a.who.length ≤ 1000000) (hU : b.who.length ≤ 1000000) (hA : SRow w A a.who) (hB : SRow w B b.who) :
    Calls Tryz.prog 52 #[a.val A c, b.val B d] w (SameP a b w) := by
  obtain ⟨k, ⟨ao, an⟩, ⟨bo, bn⟩, T⟩ := a
  obtain ⟨k', ⟨ao', an'⟩, ⟨bo', bn'⟩, U⟩ := b
  show Calls _ _ #[.agg #[.int .i64 k, .string ao, .string an, .string bo, .string bn, .slice A T.length c], .agg #[.int .i64 k', .string ao', .string an', .string bo', .string bn', .slice B U.length d]] _ _
  have hq1 := fun w => eqR ao an ao' an' w
  have hq2 := fun w => eqR bo bn bo' bn' w
  have hS := Lib.hid (equalS A B c d T U _ hT hU ((hA.keep ((Below.refl _ _).alloc (Nat.le_refl _) (.cells #[.int .i64 k, .string ao, .string an, .string bo, .string bn, .slice A T.length c] 49))).keep ((Below.refl _ _).alloc (Nat.le_refl _) (.cells #[.int .i64 k', .string ao', .string an', .string bo', .string bn', .slice B U.length d] 49))) ((hB.keep ((Below.refl _ _).alloc (Nat.le_refl _) (.cells #[.int .i64 k, .string ao, .string an, .string bo, .string bn, .slice A T.length c] 49))).keep ((Below.refl _ _).alloc (Nat.le_refl _) (.cells #[.int .i64 k', .string ao', .string an', .string bo', .string bn', .slice B U.length d] 49))))
  have hbb := Lib.hid (((Below.refl w.heap.size w).alloc (Nat.le_refl _) (.cells #[.int .i64 k, .string ao, .string an, .string bo, .string bn, .slice A T.length c] 49)).alloc (by simp) (.cells #[.int .i64 k', .string ao', .string an', .string bo', .string bn', .slice B U.length d] 49))
  unfold SameP sameB
  simp only
  generalize decide ((⟨ao, an⟩ : Rl) = ⟨ao', an'⟩) = r1 at *
  generalize decide ((⟨bo, bn⟩ : Rl) = ⟨bo', bn'⟩) = r2 at *
  generalize decide (T = U) = r3 at *
  clear hA hB hT hU
  by_cases hk : k = k'
  · have dk : (k == k') = true := by simpa using hk
    rw [decide_eq_true hk]
    clear hk
    cases r1
    · go_enter Tryz.func52, Tryz.ntmps52
      go_wp2_with fail
      go_ret
      exact ⟨rfl, hbb.out⟩
    · cases r2
      · go_enter Tryz.func52, Tryz.ntmps52
        go_wp2_with fail
        go_ret
        exact ⟨rfl, hbb.out⟩
      · go_enter Tryz.func52, Tryz.ntmps52
        go_wp2_with fail
        refine hS.out.mono ?_
        rintro e w1 ⟨rfl, n, rfl⟩
        go_wp2_with fail
        go_ret
        exact ⟨by simp, below_drewN hbb.out n⟩
  · have dk : (k == k') = false := by simpa using hk
    rw [decide_eq_false hk]
    clear hk
    go_enter Tryz.func52, Tryz.ntmps52
    go_wp2_with fail
    go_ret
    exact ⟨rfl, hbb.out⟩
set_option maxHeartbeats 1000000 in
set_option maxRecDepth 100000 in
theorem sameRefQ (a b : Qy) (A B : Option Addr) (c d : Nat) (w : World) (hT : a.who.length ≤ 1000000) (hU : b.who.length ≤ 1000000) (hA : SRow w A a.who) (hB : SRow w B b.who) :
    Calls Tryz.prog 92 #[a.val A c, b.val B d] w (SameP a b w) := by
  obtain ⟨k, ⟨ao, an⟩, ⟨bo, bn⟩, T⟩ := a
  obtain ⟨k', ⟨ao', an'⟩, ⟨bo', bn'⟩, U⟩ := b
  show Calls _ _ #[.agg #[.int .i64 k, .string ao, .string an, .string bo, .string bn, .slice A T.length c], .agg #[.int .i64 k', .string ao', .string an', .string bo', .string bn', .slice B U.length d]] _ _
  have hq1 := fun w => eqR ao an ao' an' w
  have hq2 := fun w => eqR bo bn bo' bn' w
  have hS := Lib.hid (sameG A B c d T U _ hT hU ((hA.keep ((Below.refl _ _).alloc (Nat.le_refl _) (.cells #[.int .i64 k, .string ao, .string an, .string bo, .string bn, .slice A T.length c] 49))).keep ((Below.refl _ _).alloc (Nat.le_refl _) (.cells #[.int .i64 k', .string ao', .string an', .string bo', .string bn', .slice B U.length d] 49))) ((hB.keep ((Below.refl _ _).alloc (Nat.le_refl _) (.cells #[.int .i64 k, .string ao, .string an, .string bo, .string bn, .slice A T.length c] 49))).keep ((Below.refl _ _).alloc (Nat.le_refl _) (.cells #[.int .i64 k', .string ao', .string an', .string bo', .string bn', .slice B U.length d] 49))))
  have hbb := Lib.hid (((Below.refl w.heap.size w).alloc (Nat.le_refl _) (.cells #[.int .i64 k, .string ao, .string an, .string bo, .string bn, .slice A T.length c] 49)).alloc (by simp) (.cells #[.int .i64 k', .string ao', .string an', .string bo', .string bn', .slice B U.length d] 49))
  unfold SameP sameB
  simp only
  generalize decide ((⟨ao, an⟩ : Rl) = ⟨ao', an'⟩) = r1 at *
  generalize decide ((⟨bo, bn⟩ : Rl) = ⟨bo', bn'⟩) = r2 at *
  generalize decide (T = U) = r3 at *
  clear hA hB hT hU
  by_cases hk : k = k'
  · have dk : (k == k') = true := by simpa using hk
    rw [decide_eq_true hk]
    clear hk
    cases r1
    · go_enter Tryz.func92, Tryz.ntmps92
      go_wp2_with fail
      go_ret
      exact ⟨rfl, hbb.out⟩
    · cases r2
      · go_enter Tryz.func92, Tryz.ntmps92
        go_wp2_with fail
        go_ret
        exact ⟨rfl, hbb.out⟩
      · go_enter Tryz.func92, Tryz.ntmps92
        go_wp2_with fail
        refine hS.out.mono ?_
        rintro e w1 ⟨rfl, n, rfl⟩
        go_wp2_with fail
        go_ret
        exact ⟨by simp, below_drewN hbb.out n⟩
  · have dk : (k == k') = false := by simpa using hk
    rw [decide_eq_false hk]
    clear hk
    go_enter Tryz.func92, Tryz.ntmps92
    go_wp2_with fail
    go_ret
    exact ⟨rfl, hbb.out⟩
end Go.Proofs.YtkmpbkgmdfeicaaGreat.QryS
/- Are two policies the very same: policy.Same, by contract. -/
namespace Go.Proofs.YtkmpbkgmdfeicaaGreat.PolN
set_option linter.unusedVariables false
set_option linter.unusedSimpArgs false
open Go.RowKit Go.Sort Go.Lib Go.Proofs Go.Proofs.YtkmpbkgmdfeicaaGreat.Plain Go.Proofs.YtkmpbkgmdfeicaaGreat.SynP Go.Proofs.YtkmpbkgmdfeicaaGreat.TabP Go.Proofs.YtkmpbkgmdfeicaaGreat.Tab1 Go.Proofs.YtkmpbkgmdfeicaaGreat.SynJ Go.Proofs.YtkmpbkgmdfeicaaGreat.QryP Go.Proofs.YtkmpbkgmdfeicaaGreat.PolA Go.Proofs.YtkmpbkgmdfeicaaGreat.PolE Go.Proofs.YtkmpbkgmdfeicaaGreat.PolG Go.Proofs.YtkmpbkgmdfeicaaGreat.PolJ
set_option linter.unusedVariables false
set_option linter.unusedSimpArgs false
instance decQ : DecidableEq Qy := fun a b => decidable_of_iff (QryS.sameB a b = true) QryS.sameB_eq
theorem sameB_dec (a b : Qy) : QryS.sameB a b = decide (a = b) := by
  cases h : QryS.sameB a b
  · exact (decide_eq_false (fun e => by rw [QryS.sameB_eq.2 e] at h; cases h)).symm
  · exact (decide_eq_true (QryS.sameB_eq.1 h)).symm
set_option maxHeartbeats 1000000 in
set_option maxRecDepth 100000 in
theorem equalQ (A B : Option Addr) (ca cb : Nat) (T U : List Qy) (w : World) (hT : T.length ≤ 10000) (hU : U.length ≤ 10000) (hwT : ∀ q ∈ T, q.who.length ≤ 1000000) (hwU : ∀ q ∈ U, q.who.length ≤ 1000000) (hA : QG w A T) (hB : QG w B U) :
    Calls Tryz.prog 51 #[.slice A T.length ca, .slice B U.length cb, .func (.func 52) #[] #[]] w fun e w' => e = .returned (.bool (decide (T = U))) ∧ Below w.heap.size w w' := by
  by_cases hl : T.length = U.length
  · have HL := Lib.hid hl
    have d0 : ((T.length : Int) != U.length) = false := by rw [hl]; simp
    have d0' : (T.length != U.length) = false := by rw [hl]; simp
    have HA := Lib.hid hA
    have HB := Lib.hid hB
    have HwT := Lib.hid hwT
    have HwU := Lib.hid hwU
    have hul : U.length ≤ T.length := by omega
    have htl : T.length ≤ U.length := by omega
    clear hl hA hB hwT hwU
    go_enter Tryz.func51, Tryz.ntmps51
    go_wp2_with fail
    go_loopw [17] (fun i wr => ∃ k : Nat, k ≤ T.length ∧ i = .int .i64 k ∧ Hid (∀ j, j < k → T[j]? = U[j]?) ∧ Below w.heap.size w wr) (fun i _ => T.length - (intOf i).toNat)
    case atStart => exact ⟨0, by omega, rfl, Lib.hid (fun j hj => by omega), Below.refl _ _⟩
    case round =>
      obtain ⟨k, hk, rfl, hall, hbel⟩ := hrel
      by_cases hlt : k < T.length
      · have hlu : k < U.length := by omega
        obtain ⟨g1, o1, rfl, hg1, h1⟩ := (HA.out.below hbel) (by omega)
        obtain ⟨B1, k1, a0, a1, a2, a3, a4, a5, r1⟩ := h1 k hlt
        have zr := hbel.size
        have hb1 : Below wr.heap.size wr (wr.alloc (.cells #[.int .i64 T[k].kind, .string T[k].a.owner, .string T[k].a.name, .string T[k].b.owner, .string T[k].b.name, .slice B1 T[k].who.length k1] 49)) := (Below.refl _ _).alloc (Nat.le_refl _) _
        obtain ⟨g2, o2, rfl, hg2, h2⟩ := (HB.out.below (hbel.trans (hb1.mono zr))) (by omega)
        obtain ⟨B2, k2, b0, b1, b2, b3, b4, b5, r2⟩ := h2 k hlu
        have hb2 := (Below.refl _ (wr.alloc (.cells #[.int .i64 T[k].kind, .string T[k].a.owner, .string T[k].a.name, .string T[k].b.owner, .string T[k].b.name, .slice B1 T[k].who.length k1] 49))).alloc (Nat.le_refl _) (.cells #[.int .i64 U[k].kind, .string U[k].a.owner, .string U[k].a.name, .string U[k].b.owner, .string U[k].b.name, .slice B2 U[k].who.length k2] 49)
        have R1 := Lib.hid ((r1.keep hb1).keep hb2)
        have R2 := Lib.hid (r2.keep hb2)
        have p1 : (0 : Int) ≤ k := by omega
        have p2 : (k : Int) < T.length := by omega
        have p3 : (k : Int) < U.length := by omega
        have HSm : Hid (∀ w', SRow w' B1 T[k].who → SRow w' B2 U[k].who → Calls Tryz.prog 52 #[.agg #[.int .i64 T[k].kind, .string T[k].a.owner, .string T[k].a.name, .string T[k].b.owner, .string T[k].b.name, .slice B1 T[k].who.length k1], .agg #[.int .i64 U[k].kind, .string U[k].a.owner, .string U[k].a.name, .string U[k].b.owner, .string U[k].b.name, .slice B2 U[k].who.length k2]] w' fun e w'' => e = .returned (.bool (decide (T[k] = U[k]))) ∧ Below w'.heap.size w' w'') := Lib.hid (fun w' q1 q2 => by
          rw [← sameB_dec]
          exact QryS.sameQ T[k] U[k] B1 B2 k1 k2 w' (HwT.out _ (List.getElem_mem _)) (HwU.out _ (List.getElem_mem _)) q1 q2)
        have HBB := Lib.hid (hbel.trans ((hb1.trans (hb2.mono (by simp))).mono zr))
        clear h1 h2 r1 r2 hb1 hb2 hbel
        by_cases he : T[k] = U[k]
        · have hnext : Hid (∀ j, j < k + 1 → T[j]? = U[j]?) := Lib.hid (fun j hj => by
            by_cases e : j = k
            · subst e; rw [List.getElem?_eq_getElem hlt, List.getElem?_eq_getElem hlu, he]
            · exact hall.out j (by omega))
          rw [decide_eq_true he] at HSm
          clear he hall
          go_wp2_with fail
          refine (HSm.out _ R1.out R2.out).mono ?_
          rintro e w1 ⟨rfl, hb3⟩
          have hb4 := HBB.out.trans (hb3.mono HBB.out.size)
          clear hb3
          go_wp2_with fail
          go_roundw
          case rel => exact ⟨k + 1, by omega, by go_num, hnext, hb4⟩
          case measure => simp [intOf]; omega
        · have hfin : Hid (decide (T = U) = false) := Lib.hid (decide_eq_false (fun h => he (by subst h; rfl)))
          rw [decide_eq_false he] at HSm
          clear he hall
          go_wp2_with fail
          refine (HSm.out _ R1.out R2.out).mono ?_
          rintro e w1 ⟨rfl, hb3⟩
          have hb4 := HBB.out.trans (hb3.mono HBB.out.size)
          clear hb3
          go_wp2_with fail
          go_ret
          exact ⟨ret_bool hfin.out.symm, hb4⟩
      · have hfin : Hid (decide (T = U) = true) := Lib.hid (decide_eq_true (same_all HL.out fun j hj => hall.out j (by omega)))
        have HBB := Lib.hid hbel
        clear hall hbel
        go_wp2_with fail
        go_ret
        exact ⟨ret_bool hfin.out.symm, HBB.out⟩
  · have d0 : ((T.length : Int) != U.length) = true := by rw [bne_iff_ne]; omega
    have d0' : (T.length != U.length) = true := by rw [bne_iff_ne]; exact hl
    rw [decide_eq_false (fun h : T = U => hl (by rw [h]))]
    clear hl hA hB
    go_enter Tryz.func51, Tryz.ntmps51
    go_wp2_with fail
    go_ret
    exact ⟨rfl, Below.refl _ _⟩
def samePy (p q : Py) : Bool := decide (p.stmts = q.stmts) && decide (p.grow = q.grow) && decide (p.shrink = q.shrink) && decide (p.asks = q.asks)
set_option maxHeartbeats 1000000 in
set_option maxRecDepth 100000 in
theorem same (p q : Py) (A1 A2 A3 A4 : Option Addr) (c1 c2 c3 c4 : Nat) (B1 B2 B3 B4 : Option Addr) (d1 d2 d3 d4 : Nat) (w : World) (hf : p.fit) (hg : q.fit) (hp : PG w A1 A2 A3 A4 p) (hq : PG w B1 B2 B3 B4 q) :
    Calls Tryz.prog 15 #[p.val A1 A2 A3 A4 c1 c2 c3 c4, q.val B1 B2 B3 B4 d1 d2 d3 d4] w fun e w' => e = .returned (.bool (samePy p q)) ∧ Below w.heap.size w w' := by
  have H1 := Lib.hid (fun w' h h' => equalS A1 B1 c1 d1 p.stmts q.stmts w' (by have := hf.n1; omega) (by have := hg.n1; omega) h h')
  have H2 := Lib.hid (fun w' h h' => equalR A2 B2 c2 d2 p.grow q.grow w' (by have := hf.n2; omega) (by have := hg.n2; omega) h h')
  have H3 := Lib.hid (fun w' h h' => equalR A3 B3 c3 d3 p.shrink q.shrink w' (by have := hf.n3; omega) (by have := hg.n3; omega) h h')
  have H4 := Lib.hid (fun w' h h' => equalQ A4 B4 c4 d4 p.asks q.asks w' (by have := hf.n4; omega) (by have := hg.n4; omega) (fun x hx => by have := hf.f5 x hx; omega) (fun x hx => by have := hg.f5 x hx; omega) h h')
  have HP := Lib.hid (fun (w' : World) (h : Below w.heap.size w w') => hp.below h)
  have HQ := Lib.hid (fun (w' : World) (h : Below w.heap.size w w') => hq.below h)
  unfold samePy
  generalize decide (p.stmts = q.stmts) = r1 at *
  generalize decide (p.grow = q.grow) = r2 at *
  generalize decide (p.shrink = q.shrink) = r3 at *
  generalize decide (p.asks = q.asks) = r4 at *
  obtain ⟨S, G, H, Q⟩ := p
  obtain ⟨S', G', H', Q'⟩ := q
  clear hf hg hp hq
  unfold Py.val at *
  simp only at *
  have hbx := Lib.hid (((Below.refl w.heap.size w).alloc (Nat.le_refl _) (.cells #[.slice A1 S.length c1, .slice A2 G.length c2, .slice A3 H.length c3, .slice A4 Q.length c4] 26)).alloc (by simp) (.cells #[.slice B1 S'.length d1, .slice B2 G'.length d2, .slice B3 H'.length d3, .slice B4 Q'.length d4] 26))
  cases r1
  · simp only [Bool.false_and, Bool.and_false]
    go_enter Tryz.func15, Tryz.ntmps15
    go_wp2_with fail
    refine (H1.out _ (HP.out _ hbx.out).s (HQ.out _ hbx.out).s).mono ?_
    rintro e w1 ⟨rfl, n1, rfl⟩
    have HB1 := Lib.hid (below_drewN hbx.out n1)
    go_wp2_with fail
    go_ret
    exact ⟨rfl, HB1.out⟩
  simp only [Bool.true_and]
  cases r2
  · simp only [Bool.false_and, Bool.and_false]
    go_enter Tryz.func15, Tryz.ntmps15
    go_wp2_with fail
    refine (H1.out _ (HP.out _ hbx.out).s (HQ.out _ hbx.out).s).mono ?_
    rintro e w1 ⟨rfl, n1, rfl⟩
    have HB1 := Lib.hid (below_drewN hbx.out n1)
    go_wp2_with fail
    refine (H2.out _ (HP.out _ HB1.out).g (HQ.out _ HB1.out).g).mono ?_
    rintro e w2 ⟨rfl, n2, rfl⟩
    have HB2 := Lib.hid (below_drewN hbx.out (n1 + n2))
    go_wp2_with fail
    go_ret
    exact ⟨rfl, HB2.out⟩
  simp only [Bool.true_and]
  cases r3
  · simp only [Bool.false_and, Bool.and_false]
    go_enter Tryz.func15, Tryz.ntmps15
    go_wp2_with fail
    refine (H1.out _ (HP.out _ hbx.out).s (HQ.out _ hbx.out).s).mono ?_
    rintro e w1 ⟨rfl, n1, rfl⟩
    have HB1 := Lib.hid (below_drewN hbx.out n1)
    go_wp2_with fail
    refine (H2.out _ (HP.out _ HB1.out).g (HQ.out _ HB1.out).g).mono ?_
    rintro e w2 ⟨rfl, n2, rfl⟩
    have HB2 := Lib.hid (below_drewN hbx.out (n1 + n2))
    go_wp2_with fail
    refine (H3.out _ (HP.out _ HB2.out).h (HQ.out _ HB2.out).h).mono ?_
    rintro e w3 ⟨rfl, n3, rfl⟩
    have HB3 := Lib.hid (below_drewN hbx.out (n1 + n2 + n3))
    go_wp2_with fail
    go_ret
    exact ⟨rfl, HB3.out⟩
  simp only [Bool.true_and]
  cases r4
  all_goals
    try simp only [Bool.false_and, Bool.and_false, Bool.and_true]
    go_enter Tryz.func15, Tryz.ntmps15
    go_wp2_with fail
    refine (H1.out _ (HP.out _ hbx.out).s (HQ.out _ hbx.out).s).mono ?_
    rintro e w1 ⟨rfl, n1, rfl⟩
    have HB1 := Lib.hid (below_drewN hbx.out n1)
    go_wp2_with fail
    refine (H2.out _ (HP.out _ HB1.out).g (HQ.out _ HB1.out).g).mono ?_
    rintro e w2 ⟨rfl, n2, rfl⟩
    have HB2 := Lib.hid (below_drewN hbx.out (n1 + n2))
    go_wp2_with fail
    refine (H3.out _ (HP.out _ HB2.out).h (HQ.out _ HB2.out).h).mono ?_
    rintro e w3 ⟨rfl, n3, rfl⟩
    have HB3 := Lib.hid (below_drewN hbx.out (n1 + n2 + n3))
    go_wp2_with fail
    refine (H4.out _ (HP.out _ HB3.out).q (HQ.out _ HB3.out).q).mono ?_
    rintro e w4 ⟨rfl, hb4⟩
    have HB4 := Lib.hid (HB3.out.trans (hb4.mono HB3.out.size))
    clear hb4
    go_wp2_with fail
    go_ret
    exact ⟨rfl, HB4.out⟩
end Go.Proofs.YtkmpbkgmdfeicaaGreat.PolN
/- PolicyTurns' law, by contract: whatever policy came in, the law answers true. -/
namespace Go.Proofs.YtkmpbkgmdfeicaaGreat.PolTv
set_option linter.unusedVariables false
set_option linter.unusedSimpArgs false
open Go.RowKit Go.Sort Go.Lib Go.Proofs Go.Proofs.YtkmpbkgmdfeicaaGreat.Plain Go.Proofs.YtkmpbkgmdfeicaaGreat.SynP Go.Proofs.YtkmpbkgmdfeicaaGreat.TabP Go.Proofs.YtkmpbkgmdfeicaaGreat.Tab1 Go.Proofs.YtkmpbkgmdfeicaaGreat.Lines1 Go.Proofs.YtkmpbkgmdfeicaaGreat.SynL Go.Proofs.YtkmpbkgmdfeicaaGreat.SynQ Go.Proofs.YtkmpbkgmdfeicaaGreat.SynZ Go.Proofs.YtkmpbkgmdfeicaaGreat.SynW Go.Proofs.YtkmpbkgmdfeicaaGreat.SynW Go.Proofs.YtkmpbkgmdfeicaaGreat.QryX Go.Proofs.YtkmpbkgmdfeicaaGreat.QryL Go.Proofs.YtkmpbkgmdfeicaaGreat.PolA Go.Proofs.YtkmpbkgmdfeicaaGreat.PolE Go.Proofs.YtkmpbkgmdfeicaaGreat.PolI Go.Proofs.YtkmpbkgmdfeicaaGreat.PolM Go.Proofs.YtkmpbkgmdfeicaaGreat.PolN Go.Proofs.YtkmpbkgmdfeicaaGreat.PolU Go.Proofs.YtkmpbkgmdfeicaaGreat.PolV Go.Proofs.YtkmpbkgmdfeicaaGreat.PolOp Go.Proofs.YtkmpbkgmdfeicaaGreat.PolLi Go.Proofs.YtkmpbkgmdfeicaaGreat.PolTf Go.Proofs.YtkmpbkgmdfeicaaGreat.PolTh Go.Proofs.YtkmpbkgmdfeicaaGreat.PolTi Go.Proofs.YtkmpbkgmdfeicaaGreat.PolTj Go.Proofs.YtkmpbkgmdfeicaaGreat.PolTl
set_option linter.unusedVariables false
set_option linter.unusedSimpArgs false
theorem text_join (S : List St) (G H : List Rl) : textP S G H = joinN (linesP S G H) := by
  rw [join_rows]
  unfold textP txS txR
  rw [List.take_length, List.take_length, List.take_length]
theorem bs_size (x : ByteArray) : (bs x).length = x.size := toList_len _
theorem ok_small {r : Rl} (h : r.ok = true) : r.owner.size ≤ 400 ∧ r.name.size ≤ 400 := by
  have h1 := (fair_role h).2
  rw [bs_size] at h1
  unfold textR at h1
  simp only [ByteArray.size_append] at h1
  constructor <;> omega
theorem smallP {S : List St} {G H : List Rl} (hS : ∀ s ∈ S, s.right = true) (hG : ∀ r ∈ G, r.ok = true) (hH : ∀ r ∈ H, r.ok = true) : SmallP S G H :=
  ⟨fun s h => by have := (fair_line (hS s h)).2; omega, fun r h => ok_small (hG r h), fun r h => ok_small (hH r h)⟩
theorem right_rows {S : List St} {G H : List Rl} (h : rightP ⟨S, G, H, []⟩ = true) : fitsP ⟨S, G, H, []⟩ = true ∧ okS S = true ∧ okR G = true ∧ okR H = true := by
  unfold rightP at h
  simp only [Bool.and_eq_true] at h
  exact ⟨h.1.1.1.1, h.1.1.1.2, h.1.1.2, h.1.2⟩
theorem okS_all {S : List St} (h : okS S = true) : ∀ s ∈ S, s.right = true := by
  unfold okS at h; simp only [Bool.and_eq_true, List.all_eq_true] at h; exact h.1
theorem okR_all {S : List Rl} (h : okR S = true) : ∀ s ∈ S, s.ok = true := by
  unfold okR at h; simp only [Bool.and_eq_true, List.all_eq_true] at h; exact h.1
theorem same_self (p : Py) : samePy p p = true := by unfold samePy; simp
def Pp (S : List St) (G H : List Rl) (w : World) (B1 : Option Addr) (n1 : Nat) (B2 : Option Addr) (n2 : Nat) (B3 : Option Addr) (n3 : Nat) : Prop :=
  n1 = S.length ∧ n2 = G.length ∧ n3 = H.length ∧ SG w B1 S ∧ RG w B2 G ∧ RG w B3 H
theorem no_asks (w : World) (A : Option Addr) : QG w A [] := fun h => by simp at h
set_option maxHeartbeats 1000000 in
theorem law (p : Py) (A1 A2 A3 A4 : Option Addr) (c1 c2 c3 c4 : Nat) (w : World) (hc : Came p) (hp : PG w A1 A2 A3 A4 p) :
    Calls Tryz.prog 6 #[p.val A1 A2 A3 A4 c1 c2 c3 c4] w fun e w' => e = .returned (.bool true) ∧ Below w.heap.size w w' := by
  obtain ⟨S, G, H, Q⟩ := p
  have hc' : Came ⟨S, G, H, []⟩ := ⟨hc.n1, hc.n2, hc.n3, by unfold maxLen; simp, hc.f1, hc.f2, hc.f3, fun q hq => by simp at hq⟩
  have hp' : PG w A1 A2 A3 none ⟨S, G, H, []⟩ := ⟨hp.s, hp.g, hp.h, no_asks _ _⟩
  have HLi := Lib.hid (fun w' (hb : Below w.heap.size w w') => light ⟨S, G, H, []⟩ A1 A2 A3 none c1 c2 c3 0 w' hc' (hp'.below hb))
  have HLv := Lib.hid (fun w' (hb : Below w.heap.size w w') => PolLw.lives w')
  have HRi := Lib.hid (fun (hF : Few ⟨S, G, H, []⟩) w' (hb : Below w.heap.size w w') => PolM.right ⟨S, G, H, []⟩ A1 A2 A3 none c1 c2 c3 0 w' (hF.fit hc') (hp'.below hb))
  by_cases hr : rightP ⟨S, G, H, []⟩ = true
  · obtain ⟨hf, rS, rG, rH⟩ := right_rows hr
    have hsm := smallP (okS_all rS) (okR_all rG) (okR_all rH)
    have HPr := Lib.hid (fun (hF : Few ⟨S, G, H, []⟩) w' (hb : Below w.heap.size w w') => print A1 A2 A3 none c1 c2 c3 0 S G H w' (hF.fit hc') (hp'.below hb) hr hsm)
    rw [hr] at HRi
    have hsh : Short ⟨S, G, H, []⟩ := ⟨hc.f1, hc.f2, hc.f3, rfl⟩
    have hz : (⟨(textP S G H).toArray⟩ : ByteArray).size = (textP S G H).length := by
      show (textP S G H).toArray.size = _
      simp
    by_cases hl : (textP S G H).length ≤ 3000
    · refine PolTw.walk _ _ _ _ ⟨(textP S G H).toArray⟩ (by rw [hz]; exact hl) w (Few ⟨S, G, H, []⟩) HLi HRi HPr (Pp S G H) (Lib.hid ?_) (Lib.hid ?_) (Lib.hid ?_) HLv
      · rintro w' w'' B1 n1 B2 n2 B3 n3 ⟨e1, e2, e3, h1, h2, h3⟩ hb
        exact ⟨e1, e2, e3, h1.below hb, h2.below hb, h3.below hb⟩
      · intro hF w' hb
        have h10 : ∀ l ∈ linesP S G H, ∀ c ∈ l, c ≠ 10 := fun l hl c hc => ((lines_fair (okS_all rS) (okR_all rG) (okR_all rH) l hl).1 c hc).1
        have eT : (upto (⟨(textP S G H).toArray⟩ : ByteArray).data.toList (⟨(textP S G H).toArray⟩ : ByteArray).size).1 = turn (linesP S G H) [] := by
          rw [hz]
          show (upto (textP S G H).toArray.toList (textP S G H).length).1 = _
          rw [List.toList_toArray, text_join, PolTk.upto_all h10]
        rw [eT]
        rw [text_join] at hl
        obtain ⟨t1, t2, d, t3, t4, t5, t6⟩ := turned_parse rS rG rH hf hsh hl
        refine (parse ⟨(turn (linesP S G H) []).toArray⟩ w' (by show (turn (linesP S G H) []).toArray.size ≤ 8000; simpa using t1) t2).mono fun e w'' h => ?_
        rw [t3] at h
        unfold PolPost at h
        rw [if_pos rfl] at h
        obtain ⟨B1, k1, B2, k2, B3, k3, he, h1, h2, h3, hb2⟩ := h
        simp only at he h1 h2 h3
        rw [t4, t5, t6] at he
        rw [t4] at h1
        rw [t5] at h2
        rw [t6] at h3
        exact ⟨B1, _, k1, B2, _, k2, B3, _, k3, he, ⟨rfl, rfl, rfl, h1, h2, h3⟩, hb2⟩
      · rintro hF w' B1 n1 j1 B2 n2 j2 B3 n3 j3 ⟨e1, e2, e3, h1, h2, h3⟩ hb
        subst e1; subst e2; subst e3
        have := PolN.same ⟨S, G, H, []⟩ ⟨S, G, H, []⟩ B1 B2 B3 none j1 j2 j3 0 A1 A2 A3 none c1 c2 c3 0 w' (hF.fit hc') (hF.fit hc') ⟨h1, h2, h3, no_asks _ _⟩ (hp'.below hb)
        rw [same_self] at this
        exact this
    · exact PolTw.dim3 _ _ _ _ w ⟨(textP S G H).toArray⟩ (by rw [hz]; omega) (Few ⟨S, G, H, []⟩) HLi HRi HPr HLv
  · have hr' : rightP ⟨S, G, H, []⟩ = false := by simpa using hr
    rw [hr'] at HRi
    exact PolTw.dim2 _ _ _ _ w (Few ⟨S, G, H, []⟩) HLi HRi HLv
end Go.Proofs.YtkmpbkgmdfeicaaGreat.PolTv
