/- What an argument that is a query reads as. -/
import Derived.Test.YtcbbffpalpieaaaGreatM01
import Derived.Test.YtcbbffpalpieaaaGreatM02
import Derived.ProofKit
import Derived.OpenShut
import Derived.ShutString
import Derived.ChangeOld
import Derived.Below
import Derived.Carry
import Derived.SliceStrings
import Derived.Test.YtcbbffpalpieaaaGreatM16
import Derived.Test.YtcbbffpalpieaaaGreatM08
namespace Go.Proofs.YtcbbffpalpieaaaGreat.QryF
set_option linter.unusedVariables false
set_option linter.unusedSimpArgs false
open Go.ChangeShapes Go.WideShapes Go.ChangeAt Go.RowKit
open Go.ChangeMaps (open_string shut_string)
open Go.Proofs.YtcbbffpalpieaaaGreat.Plain Go.Proofs.YtcbbffpalpieaaaGreat.SynP Go.Proofs.YtcbbffpalpieaaaGreat.TabP Go.Proofs.YtcbbffpalpieaaaGreat.Tab1 Go.Proofs.YtcbbffpalpieaaaGreat.QryP
set_option maxRecDepth 1000000
theorem cells3 : Tryz.prog.cellsOf 3 = 1 := by kernel_rfl
theorem cells9 : Tryz.prog.cellsOf 9 = 1 := by kernel_rfl
theorem cellsW : Tryz.prog.cellsOf 24 = 1 := by kernel_rfl
theorem cellsR : Tryz.prog.cellsOf 23 = 2 := by kernel_rfl
theorem cellsQ : Tryz.prog.cellsOf 26 = 6 := by kernel_rfl
section
variable {H : Type} {enc : TypeId × Value → H} {w : World} {fuel : Nat} {cs : List Value} {x : DataW H × List MemPlace}
theorem some_at {α : Type} {xs : List α} {n i : Nat} (h : xs.length = n) (hi : i < n) : ∃ y, xs[i]? = some y := ⟨xs[i]'(by omega), List.getElem?_eq_getElem _⟩
theorem role_cells (h : DataW.trod enc Tryz.prog w 0 (fun _ => true) true fuel 23 cs = some x) : ∃ r : Rl, cs = [.string r.owner, .string r.name] ∧ r.light := by
  obtain ⟨xs, n, _, _, hl, hxl, hf⟩ := DataW.trod_struct Tryz.underlying23 h
  rw [cellsR] at hl
  match cs, hl with
  | [c0, c1], _ =>
    have h0 : DataW.trod enc Tryz.prog w 0 (fun _ => true) true n 9 (([c0, c1].drop 0).take (Tryz.prog.cellsOf 9)) = xs[0]? := hf 0 _ rfl
    have h1 : DataW.trod enc Tryz.prog w 0 (fun _ => true) true n 9 (([c0, c1].drop 1).take (Tryz.prog.cellsOf 9)) = xs[1]? := hf 1 _ rfl
    obtain ⟨y0, e0⟩ := some_at (i := 0) hxl (by decide)
    obtain ⟨y1, e1⟩ := some_at (i := 1) hxl (by decide)
    rw [e0] at h0
    rw [e1] at h1
    rw [cells9] at h0 h1
    obtain ⟨s0, a0, _, b0⟩ := DataW.trod_string Tryz.underlying9 h0
    obtain ⟨s1, a1, _, b1⟩ := DataW.trod_string Tryz.underlying9 h1
    simp at a0 a1
    subst a0; subst a1
    exact ⟨⟨s0, s1⟩, rfl, b0, b1⟩
theorem row_cells (h : DataW.trod enc Tryz.prog w 0 (fun _ => true) true fuel 24 cs = some x) : ∃ (A : Option Addr) (c : Nat) (T : List Str), cs = [.slice A T.length c] ∧ T.length ≤ maxLen ∧ (∀ s ∈ T, s.length ≤ maxLen) ∧ SRow w A T := by
  rcases open_strings Tryz.underlying24 Tryz.underlying9 cells9 h with ⟨hcs, hx⟩ | ⟨a, nn, cap, ss, hcs, _, hl, hm, hz, hx, hcell, hws⟩
  · exact ⟨none, 0, [], hcs, by simp, by simp, fun h => by simp at h⟩
  · have hzl : ss.length = cap := by simpa using hz
    have hl2 : ((ss.take nn).map (·.data.toList)).length = nn := by simp; omega
    refine ⟨some a, cap, (ss.take nn).map (·.data.toList), by rw [hl2]; exact hcs, by rw [hl2]; omega, ?_, ?_⟩
    · intro s hs
      obtain ⟨x, hx, rfl⟩ := List.mem_map.1 hs
      exact hws x (List.mem_of_mem_take hx)
    · by_cases h0 : 0 < nn
      · have h1 := hcell 0 (by omega)
        obtain ⟨b, off, spot⟩ := a
        have hspot : spot = none := by simpa [Addr.add] using World.cell?_spot h1
        subst hspot
        have hadd : ∀ i, ((⟨b, off, none⟩ : Addr).add i) = ⟨b, off + i, none⟩ := fun i => by
          unfold Addr.add
          split
          · rename_i h; subst h; rfl
          · simp
        have hb : b < w.heap.size := World.block_lt_of_cell? _ _ h1
        refine fun hp => ⟨b, off, rfl, hb, fun j hj => ?_⟩
        rw [hl2] at hj
        have hc := hcell j (by omega)
        rw [hadd] at hc
        rw [hc]
        simp
        rw [List.getElem?_eq_getElem (by omega)]; rfl
      · intro hp
        rw [hl2] at hp
        omega
theorem query_cells (h : DataW.trod enc Tryz.prog w 0 (fun _ => true) true fuel 26 cs = some x) : ∃ (q : Qy) (A : Option Addr) (c : Nat), cs = [.int .i64 q.kind, .string q.a.owner, .string q.a.name, .string q.b.owner, .string q.b.name, .slice A q.who.length c] ∧ q.fit ∧ SRow w A q.who := by
  obtain ⟨xs, n, _, _, hl, hxl, hf⟩ := DataW.trod_struct Tryz.underlying26 h
  rw [cellsQ] at hl
  match cs, hl with
  | [c0, c1, c2, c3, c4, c5], _ =>
    have h0 : DataW.trod enc Tryz.prog w 0 (fun _ => true) true n 3 (([c0, c1, c2, c3, c4, c5].drop 0).take (Tryz.prog.cellsOf 3)) = xs[0]? := hf 0 _ rfl
    have h1 : DataW.trod enc Tryz.prog w 0 (fun _ => true) true n 23 (([c0, c1, c2, c3, c4, c5].drop 1).take (Tryz.prog.cellsOf 23)) = xs[1]? := hf 1 _ rfl
    have h2 : DataW.trod enc Tryz.prog w 0 (fun _ => true) true n 23 (([c0, c1, c2, c3, c4, c5].drop 3).take (Tryz.prog.cellsOf 23)) = xs[2]? := hf 2 _ rfl
    have h3 : DataW.trod enc Tryz.prog w 0 (fun _ => true) true n 24 (([c0, c1, c2, c3, c4, c5].drop 5).take (Tryz.prog.cellsOf 24)) = xs[3]? := hf 3 _ rfl
    obtain ⟨y0, e0⟩ := some_at (i := 0) hxl (by decide)
    obtain ⟨y1, e1⟩ := some_at (i := 1) hxl (by decide)
    obtain ⟨y2, e2⟩ := some_at (i := 2) hxl (by decide)
    obtain ⟨y3, e3⟩ := some_at (i := 3) hxl (by decide)
    rw [e0] at h0
    rw [e1] at h1
    rw [e2] at h2
    rw [e3] at h3
    rw [cells3] at h0
    rw [cellsR] at h1 h2
    rw [cellsW] at h3
    obtain ⟨k, a0, _, _⟩ := DataW.trod_int Tryz.underlying3 h0
    obtain ⟨r1, a1, b1⟩ := role_cells h1
    obtain ⟨r2, a2, b2⟩ := role_cells h2
    obtain ⟨A, c, T, a3, b3, b4, b5⟩ := row_cells h3
    simp at a0 a1 a2 a3
    obtain ⟨a11, a12⟩ := a1
    obtain ⟨a21, a22⟩ := a2
    subst a0 a11 a12 a21 a22 a3
    exact ⟨⟨k, r1, r2, T⟩, A, c, rfl, ⟨b1, b2, b3, b4⟩, b5⟩
theorem open_query {r : Reach} {b0 : Nat} {v : Value} {d : DataW H} {p : List MemPlace} (hv : Value.okWide Tryz.prog w r b0 26 v) (h : DataW.Trod enc Tryz.prog w 0 (fun _ => true) true 26 v d p) : ∃ (q : Qy) (A : Option Addr) (c : Nat), v = q.val A c ∧ q.fit ∧ SRow w A q.who := by
  obtain ⟨cs, rfl, hsz⟩ := okWide_struct Tryz.underlying26 hv
  obtain ⟨fuel, hf⟩ := h
  obtain ⟨q, A, c, hs, hfit, hr⟩ := query_cells hf
  refine ⟨q, A, c, ?_, hfit, hr⟩
  have : cs.toList = [.int .i64 q.kind, .string q.a.owner, .string q.a.name, .string q.b.owner, .string q.b.name, .slice A q.who.length c] := by simpa [Value.cells] using hs
  obtain ⟨l⟩ := cs
  simp at this
  subst this
  rfl
end
end Go.Proofs.YtcbbffpalpieaaaGreat.QryF
/- Whether two queries are the very same, in the program and in the document's answers, by contract. -/
namespace Go.Proofs.YtcbbffpalpieaaaGreat.QryS
set_option linter.unusedVariables false
set_option linter.unusedSimpArgs false
open Go.RowKit Go.Sort Go.Proofs Go.Proofs.YtcbbffpalpieaaaGreat.Plain Go.Proofs.YtcbbffpalpieaaaGreat.SynP Go.Proofs.YtcbbffpalpieaaaGreat.TabP Go.Proofs.YtcbbffpalpieaaaGreat.Tab1 Go.Proofs.YtcbbffpalpieaaaGreat.Grown Go.Proofs.YtcbbffpalpieaaaGreat.SynE Go.Proofs.YtcbbffpalpieaaaGreat.QryP Go.Proofs.YtcbbffpalpieaaaGreat.Qry1
set_option linter.unusedVariables false
set_option linter.unusedSimpArgs false
theorem neS (x y : ByteArray) (w : World) : (binOp .neq 9 (.string x) (.string y)).run Tryz.prog w = .ok (.bool (!decide (x = y))) w := by
  have e := text_eq
  go_simp
  by_cases h : x = y
  · subst h; simp
  · simp [h, e]
theorem mk_inj (s t : Str) : ((⟨s.toArray⟩ : ByteArray) = ⟨t.toArray⟩) ↔ s = t := ⟨fun h => by
  have := congrArg (fun z : ByteArray => z.data.toList) h
  simpa using this, fun h => by rw [h]⟩
set_option maxHeartbeats 1000000 in
set_option maxRecDepth 100000 in
theorem sameG (A B : Option Addr) (ca cb : Nat) (T U : List Str) (w : World) (hT : T.length ≤ 1000000) (hU : U.length ≤ 1000000) (hA : SRow w A T) (hB : SRow w B U) :
    Calls Tryz.prog 18 #[.slice A T.length ca, .slice B U.length cb] w fun e w' => e = .returned (.bool (decide (T = U))) ∧ ∃ n, w' = w.drewN n := by
  by_cases hl : T.length = U.length
  · have HL := Lib.hid hl
    have d0 : ((T.length : Int) != U.length) = false := by rw [hl]; simp
    have d0' : (T.length != U.length) = false := by rw [hl]; simp
    have HA := Lib.hid hA
    have HB := Lib.hid hB
    have hul : U.length ≤ T.length := by omega
    have htl : T.length ≤ U.length := by omega
    clear hl hA hB
    go_enter Tryz.func18, Tryz.ntmps18
    go_wp2_with fail
    go_loopw [13] (fun i wr => ∃ k : Nat, k ≤ T.length ∧ i = .int .i64 k ∧ Hid (∀ j, j < k → T[j]? = U[j]?) ∧ ∃ n, wr = w.drewN n) (fun i _ => T.length - (intOf i).toNat)
    case atStart => exact ⟨0, by omega, rfl, Lib.hid (fun j hj => by omega), 0, rfl⟩
    case round =>
      obtain ⟨k, hk, rfl, hall, n, rfl⟩ := hrel
      by_cases hlt : k < T.length
      · have hlu : k < U.length := by omega
        obtain ⟨g1, o1, rfl, _, h1⟩ := HA.out (by omega)
        obtain ⟨g2, o2, rfl, _, h2⟩ := HB.out (by omega)
        have a1 := h1 k hlt
        have a2 := h2 k hlu
        have p1 : (0 : Int) ≤ k := by omega
        have p2 : (k : Int) < T.length := by omega
        have p3 : (k : Int) < U.length := by omega
        by_cases he : T[k] = U[k]
        · have hnext : Hid (∀ j, j < k + 1 → T[j]? = U[j]?) := Lib.hid (fun j hj => by
            by_cases e : j = k
            · subst e; rw [List.getElem?_eq_getElem hlt, List.getElem?_eq_getElem hlu, he]
            · exact hall.out j (by omega))
          rw [← he] at a2
          clear h1 h2 he hall
          generalize (⟨T[k].toArray⟩ : ByteArray) = x at *
          go_wp2_with fail
          go_quiet (fail)
          go_wp2_with fail
          go_roundw
          case rel => exact ⟨k + 1, by omega, by go_num, hnext, _, rfl⟩
          case measure => simp [intOf]; omega
        · have hfin : Hid (decide (T = U) = false) := Lib.hid (decide_eq_false (fun h => he (by subst h; rfl)))
          have hxy : ((⟨T[k].toArray⟩ : ByteArray).toList == (⟨U[k].toArray⟩ : ByteArray).toList) = false := by
            rw [beq_eq_false_iff_ne]
            intro h
            rw [Go.ByteArray.toList_eq, Go.ByteArray.toList_eq] at h
            exact he h
          have hxy2 : (!((⟨T[k].toArray⟩ : ByteArray).toList == (⟨U[k].toArray⟩ : ByteArray).toList)) = true := by rw [hxy]; rfl
          clear h1 h2 he hall
          generalize (⟨T[k].toArray⟩ : ByteArray) = x at *
          generalize (⟨U[k].toArray⟩ : ByteArray) = y at *
          go_wp2_with fail
          go_quiet (fail)
          go_wp2_with fail
          go_ret
          exact ⟨ret_bool hfin.out.symm, _, World.drewN_drewN _ _ _⟩
      · have hfin : Hid (decide (T = U) = true) := Lib.hid (decide_eq_true (List.ext_getElem? fun j => by
          by_cases hj : j < T.length
          · exact hall.out j (by omega)
          · rw [List.getElem?_eq_none (by omega), List.getElem?_eq_none (by omega)]))
        clear hall
        go_wp2_with fail
        go_ret
        exact ⟨ret_bool hfin.out.symm, _, rfl⟩
  · have hfin : Hid (decide (T = U) = false) := Lib.hid (decide_eq_false (fun h => hl (by rw [h])))
    have hl' : ¬ (T.length : Int) = U.length := by omega
    have d0 : ((T.length : Int) != U.length) = true := by simp; omega
    have d0' : (T.length != U.length) = true := by simp; omega
    clear hl'
    have HL := Lib.hid hl
    clear hl
    go_enter Tryz.func18, Tryz.ntmps18
    go_wp2_with fail
    go_ret
    exact ⟨ret_bool hfin.out.symm, 0, rfl⟩
def sameB (a b : Qy) : Bool := decide (a.kind = b.kind) && (decide (a.a = b.a) && (decide (a.b = b.b) && decide (a.who = b.who)))
theorem sameB_eq {a b : Qy} : sameB a b = true ↔ a = b := by
  obtain ⟨k, a1, b1, T⟩ := a
  obtain ⟨k', a2, b2, U⟩ := b
  unfold sameB
  simp [Qy.mk.injEq]
def SameP (a b : Qy) (w : World) (e : Ending) (w' : World) : Prop := e = .returned (.bool (sameB a b)) ∧ RowKit.Below w.heap.size w w'
set_option maxHeartbeats 1000000 in
set_option maxRecDepth 100000 in
theorem sameQ (a b : Qy) (A B : Option Addr) (c d : Nat) (w : World) (hT : a.who.length ≤ 1000000) (hU : b.who.length ≤ 1000000) (hA : SRow w A a.who) (hB : SRow w B b.who) :
    Calls Tryz.prog 25 #[a.val A c, b.val B d] w (SameP a b w) := by
  obtain ⟨k, ⟨ao, an⟩, ⟨bo, bn⟩, T⟩ := a
  obtain ⟨k', ⟨ao', an'⟩, ⟨bo', bn'⟩, U⟩ := b
  show Calls _ _ #[.agg #[.int .i64 k, .string ao, .string an, .string bo, .string bn, .slice A T.length c], .agg #[.int .i64 k', .string ao', .string an', .string bo', .string bn', .slice B U.length d]] _ _
  have hq1 := fun w => eqR ao an ao' an' w
  have hq2 := fun w => eqR bo bn bo' bn' w
  have hS := Lib.hid (equalS A B c d T U _ hT hU ((hA.keep ((Below.refl _ _).alloc (Nat.le_refl _) (.cells #[.int .i64 k, .string ao, .string an, .string bo, .string bn, .slice A T.length c] 26))).keep ((Below.refl _ _).alloc (Nat.le_refl _) (.cells #[.int .i64 k', .string ao', .string an', .string bo', .string bn', .slice B U.length d] 26))) ((hB.keep ((Below.refl _ _).alloc (Nat.le_refl _) (.cells #[.int .i64 k, .string ao, .string an, .string bo, .string bn, .slice A T.length c] 26))).keep ((Below.refl _ _).alloc (Nat.le_refl _) (.cells #[.int .i64 k', .string ao', .string an', .string bo', .string bn', .slice B U.length d] 26))))
  have hbb := Lib.hid (((Below.refl w.heap.size w).alloc (Nat.le_refl _) (.cells #[.int .i64 k, .string ao, .string an, .string bo, .string bn, .slice A T.length c] 26)).alloc (by simp) (.cells #[.int .i64 k', .string ao', .string an', .string bo', .string bn', .slice B U.length d] 26))
  unfold SameP sameB
  simp only
  generalize decide ((⟨ao, an⟩ : Rl) = ⟨ao', an'⟩) = r1 at *
  generalize decide ((⟨bo, bn⟩ : Rl) = ⟨bo', bn'⟩) = r2 at *
  generalize decide (T = U) = r3 at *
  clear hA hB hT hU
  by_cases hk : k = k'
  · have dk : (k == k') = true := by simpa using hk
    rw [decide_eq_true hk]
    clear hk
    cases r1
    · go_enter Tryz.func25, Tryz.ntmps25
      go_wp2_with fail
      go_ret
      exact ⟨rfl, hbb.out⟩
    · cases r2
      · go_enter Tryz.func25, Tryz.ntmps25
        go_wp2_with fail
        go_ret
        exact ⟨rfl, hbb.out⟩
      · go_enter Tryz.func25, Tryz.ntmps25
        go_wp2_with fail
        refine hS.out.mono ?_
        rintro e w1 ⟨rfl, n, rfl⟩
        go_wp2_with fail
        go_ret
        exact ⟨by simp, below_drewN hbb.out n⟩
  · have dk : (k == k') = false := by simpa using hk
    rw [decide_eq_false hk]
    clear hk
    go_enter Tryz.func25, Tryz.ntmps25
    go_wp2_with fail
    go_ret
    exact ⟨rfl, hbb.out⟩
set_option maxHeartbeats 1000000 in
set_option maxRecDepth 100000 in
theorem sameRefQ (a b : Qy) (A B : Option Addr) (c d : Nat) (w : World) (hT : a.who.length ≤ 1000000) (hU : b.who.length ≤ 1000000) (hA : SRow w A a.who) (hB : SRow w B b.who) :
    Calls Tryz.prog 23 #[a.val A c, b.val B d] w (SameP a b w) := by
  obtain ⟨k, ⟨ao, an⟩, ⟨bo, bn⟩, T⟩ := a
  obtain ⟨k', ⟨ao', an'⟩, ⟨bo', bn'⟩, U⟩ := b
  show Calls _ _ #[.agg #[.int .i64 k, .string ao, .string an, .string bo, .string bn, .slice A T.length c], .agg #[.int .i64 k', .string ao', .string an', .string bo', .string bn', .slice B U.length d]] _ _
  have hq1 := fun w => eqR ao an ao' an' w
  have hq2 := fun w => eqR bo bn bo' bn' w
  have hS := Lib.hid (sameG A B c d T U _ hT hU ((hA.keep ((Below.refl _ _).alloc (Nat.le_refl _) (.cells #[.int .i64 k, .string ao, .string an, .string bo, .string bn, .slice A T.length c] 26))).keep ((Below.refl _ _).alloc (Nat.le_refl _) (.cells #[.int .i64 k', .string ao', .string an', .string bo', .string bn', .slice B U.length d] 26))) ((hB.keep ((Below.refl _ _).alloc (Nat.le_refl _) (.cells #[.int .i64 k, .string ao, .string an, .string bo, .string bn, .slice A T.length c] 26))).keep ((Below.refl _ _).alloc (Nat.le_refl _) (.cells #[.int .i64 k', .string ao', .string an', .string bo', .string bn', .slice B U.length d] 26))))
  have hbb := Lib.hid (((Below.refl w.heap.size w).alloc (Nat.le_refl _) (.cells #[.int .i64 k, .string ao, .string an, .string bo, .string bn, .slice A T.length c] 26)).alloc (by simp) (.cells #[.int .i64 k', .string ao', .string an', .string bo', .string bn', .slice B U.length d] 26))
  unfold SameP sameB
  simp only
  generalize decide ((⟨ao, an⟩ : Rl) = ⟨ao', an'⟩) = r1 at *
  generalize decide ((⟨bo, bn⟩ : Rl) = ⟨bo', bn'⟩) = r2 at *
  generalize decide (T = U) = r3 at *
  clear hA hB hT hU
  by_cases hk : k = k'
  · have dk : (k == k') = true := by simpa using hk
    rw [decide_eq_true hk]
    clear hk
    cases r1
    · go_enter Tryz.func23, Tryz.ntmps23
      go_wp2_with fail
      go_ret
      exact ⟨rfl, hbb.out⟩
    · cases r2
      · go_enter Tryz.func23, Tryz.ntmps23
        go_wp2_with fail
        go_ret
        exact ⟨rfl, hbb.out⟩
      · go_enter Tryz.func23, Tryz.ntmps23
        go_wp2_with fail
        refine hS.out.mono ?_
        rintro e w1 ⟨rfl, n, rfl⟩
        go_wp2_with fail
        go_ret
        exact ⟨by simp, below_drewN hbb.out n⟩
  · have dk : (k == k') = false := by simpa using hk
    rw [decide_eq_false hk]
    clear hk
    go_enter Tryz.func23, Tryz.ntmps23
    go_wp2_with fail
    go_ret
    exact ⟨rfl, hbb.out⟩
end Go.Proofs.YtcbbffpalpieaaaGreat.QryS
