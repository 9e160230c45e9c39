/- Restrictions, line by line: policy.restricts and restrict, by contract. -/
import Derived.Test.YtnhjnimgjpgfcaaM22
import Derived.Test.YtnhjnimgjpgfcaaM13
import Derived.Deep.LoopGhost
import Derived.Deep.CutBlock
import Derived.BigQuiet
import Derived.IntWalk
import Derived.Deep.RegionWith
import Derived.Test.YtnhjnimgjpgfcaaM18
import Derived.Test.YtnhjnimgjpgfcaaM16
namespace Go.Proofs.Ytnhjnimgjpgfcaa.PolP
set_option linter.unusedVariables false
set_option linter.unusedSimpArgs false
open Go.RowKit Go.Sort Go.Lib Go.Proofs Go.Proofs.Ytnhjnimgjpgfcaa.Plain Go.Proofs.Ytnhjnimgjpgfcaa.SynP Go.Proofs.Ytnhjnimgjpgfcaa.TabP Go.Proofs.Ytnhjnimgjpgfcaa.Tab1 Go.Proofs.Ytnhjnimgjpgfcaa.Grown Go.Proofs.Ytnhjnimgjpgfcaa.SynA Go.Proofs.Ytnhjnimgjpgfcaa.SynC Go.Proofs.Ytnhjnimgjpgfcaa.SynE Go.Proofs.Ytnhjnimgjpgfcaa.SynR Go.Proofs.Ytnhjnimgjpgfcaa.SynS Go.Proofs.Ytnhjnimgjpgfcaa.SynU Go.Proofs.Ytnhjnimgjpgfcaa.SynV Go.Proofs.Ytnhjnimgjpgfcaa.SynX Go.Proofs.Ytnhjnimgjpgfcaa.SynJ Go.Proofs.Ytnhjnimgjpgfcaa.SynQ Go.Proofs.Ytnhjnimgjpgfcaa.QryP Go.Proofs.Ytnhjnimgjpgfcaa.Qry4 Go.Proofs.Ytnhjnimgjpgfcaa.Qry5 Go.Proofs.Ytnhjnimgjpgfcaa.QryB Go.Proofs.Ytnhjnimgjpgfcaa.QryD Go.Proofs.Ytnhjnimgjpgfcaa.PolA Go.Proofs.Ytnhjnimgjpgfcaa.PolE Go.Proofs.Ytnhjnimgjpgfcaa.PolG Go.Proofs.Ytnhjnimgjpgfcaa.PolK Go.Proofs.Ytnhjnimgjpgfcaa.PolO
set_option linter.unusedVariables false
set_option linter.unusedSimpArgs false
/-- Do the tokens begin with this word? -/
def leads (L : List Tk) (x : ByteArray) : Bool := match L with
  | [] => false
  | t :: _ => decide (t.kind = 2) && decide (t.text = x)
def shapeG : List Ft := [.kind 2, .kind 1, .kind 3, .kind 2]
def kindsG : List Int := [2, 1, 3, 2]
theorem shapeG_at (k : Nat) (h : k < 4) (t : Tk) : (shapeG[k]'h).fits t = decide (t.kind = kindsG[k]'h) := by
  match k, h with
  | 0, _ => rfl
  | 1, _ => rfl
  | 2, _ => rfl
  | 3, _ => rfl
/-- What such a line comes to: the row with the role, or where it is wrong, and why. -/
def restM (R : List Rl) (L : List Tk) : List Rl × Int × Int :=
  let n := agreeF L shapeG
  if n < L.length then (R, (colAt L n : Int), 2) else if n < 4 then (R, (behindOf L : Int), 3) else (addL R ⟨QryB.textAt L 1, QryB.textAt L 3⟩, 0, 0)
def RestPost (b : Option Nat) (B : Nat) (r : List Rl × Int × Int) (w : World) (e : Ending) (w' : World) : Prop :=
  ∃ v, e = .returned (.tuple #[v, .int .i64 r.2.1, .int .i64 r.2.2]) ∧ w.grownBy w' b ∧ (∃ A n c, v = .slice A n c) ∧ (r.2.2 = 0 → w'.ownsRow B 24 2 v r.1.length (rcells r.1) ∧ Moves w b v.ownBlock)
end Go.Proofs.Ytnhjnimgjpgfcaa.PolP
/- A policy that is put together line by line: its three rows in one box; a statement more, by contract. -/
namespace Go.Proofs.Ytnhjnimgjpgfcaa.PolQ
set_option linter.unusedVariables false
set_option linter.unusedSimpArgs false
open Go.RowKit Go.Sort Go.Lib Go.Proofs Go.Proofs.Ytnhjnimgjpgfcaa.Plain Go.Proofs.Ytnhjnimgjpgfcaa.SynP Go.Proofs.Ytnhjnimgjpgfcaa.TabP Go.Proofs.Ytnhjnimgjpgfcaa.Tab1 Go.Proofs.Ytnhjnimgjpgfcaa.Grown Go.Proofs.Ytnhjnimgjpgfcaa.Scan3 Go.Proofs.Ytnhjnimgjpgfcaa.SynA Go.Proofs.Ytnhjnimgjpgfcaa.SynC Go.Proofs.Ytnhjnimgjpgfcaa.SynD2 Go.Proofs.Ytnhjnimgjpgfcaa.SynD3 Go.Proofs.Ytnhjnimgjpgfcaa.SynR Go.Proofs.Ytnhjnimgjpgfcaa.SynS Go.Proofs.Ytnhjnimgjpgfcaa.SynU Go.Proofs.Ytnhjnimgjpgfcaa.SynV Go.Proofs.Ytnhjnimgjpgfcaa.SynY Go.Proofs.Ytnhjnimgjpgfcaa.SynJ Go.Proofs.Ytnhjnimgjpgfcaa.SynQ Go.Proofs.Ytnhjnimgjpgfcaa.QryP Go.Proofs.Ytnhjnimgjpgfcaa.PolA Go.Proofs.Ytnhjnimgjpgfcaa.PolE Go.Proofs.Ytnhjnimgjpgfcaa.PolG Go.Proofs.Ytnhjnimgjpgfcaa.PolK Go.Proofs.Ytnhjnimgjpgfcaa.PolO
set_option linter.unusedVariables false
set_option linter.unusedSimpArgs false
theorem own_blk {w : World} {B : Nat} {e : TypeId} {size n : Nat} {v : Value} {xs : List Value} (h : w.ownsRow B e size v n xs) {g : Nat} (hg : v.ownBlock = some g) : B ≤ g ∧ g < w.heap.size ∧ ∃ cur, w.heap[g]? = some (.cells cur e (0, 0)) := by
  rcases h.2 with ⟨rfl, _⟩ | ⟨g', cap, cur, rfl, hB, hh, _⟩
  · simp [Value.ownBlock] at hg
  · simp [Value.ownBlock] at hg
    subst hg
    exact ⟨hB, (Array.getElem?_eq_some_iff.1 hh).1, cur, hh⟩
theorem own_apart {w : World} {B B' : Nat} {e e' : TypeId} {size n size' n' : Nat} {v v' : Value} {xs xs' : List Value} (h : w.ownsRow B e size v n xs) (h' : w.ownsRow B' e' size' v' n' xs') (hne : e ≠ e') : ∀ g, v.ownBlock = some g → v'.ownBlock ≠ some g := fun g hg hg' => by
  obtain ⟨_, _, c, hc⟩ := own_blk h hg
  obtain ⟨_, _, c', hc'⟩ := own_blk h' hg'
  rw [hc] at hc'
  injection hc' with hc'
  injection hc' with _ h2
  exact hne h2
theorem moves_apart {w : World} {b b' c : Option Nat} (hm : Moves w b b') (hbc : ∀ g, b = some g → c ≠ some g) (hc : ∀ g, c = some g → g < w.heap.size) : ∀ g, b' = some g → c ≠ some g := fun g hg hcg => by
  rcases hm with h | ⟨g', h, hge⟩
  · exact hbc g (h ▸ hg) hcg
  · rw [h] at hg
    injection hg with hg
    have := hc g hcg
    omega
theorem set_below {w : World} {B : Nat} {D i : Nat} (h : B ≤ D) (v : Value) : Below B w (w.setCell ⟨D, i, none⟩ v) := (Below.refl B w).setCell h v
theorem grown_box {w w' : World} {b : Option Nat} {D : Nat} {o : Obj} (hg : w.grownBy w' b) (hb : ∀ g, b = some g → D < g) (h : w.heap[D]? = some o) : w'.heap[D]? = some o := by
  rw [hg.block D (Array.getElem?_eq_some_iff.1 h).1 fun e => by have := hb D e.symm; omega]; exact h
/-- All below B but the block D is as it was. -/
structure Beside (B D : Nat) (w w' : World) : Prop where
  os : w'.os = w.os
  tape : w'.tape = w.tape
  output : w'.output = w.output
  size : w.heap.size ≤ w'.heap.size
  block : ∀ k, k < B → k ≠ D → w'.heap[k]? = w.heap[k]?
theorem Beside.refl (B D : Nat) (w : World) : Beside B D w w := ⟨rfl, rfl, rfl, Nat.le_refl _, fun _ _ _ => rfl⟩
theorem Beside.trans {B D : Nat} {a b c : World} (h : Beside B D a b) (k : Beside B D b c) : Beside B D a c :=
  ⟨k.os.trans h.os, k.tape.trans h.tape, k.output.trans h.output, Nat.le_trans h.size k.size, fun j h1 h2 => (k.block j h1 h2).trans (h.block j h1 h2)⟩
theorem Beside.of_below {B D C : Nat} {a b : World} (h : Below C a b) (hB : B ≤ C) : Beside B D a b := ⟨h.os, h.tape, h.output, h.size, fun j h1 _ => h.block j (by omega)⟩
theorem Beside.grown {B D : Nat} {a b : World} {r : Option Nat} (h : a.grownBy b r) (hr : ∀ g, r = some g → B ≤ g) (hB : B ≤ a.heap.size) : Beside B D a b :=
  Beside.of_below (below_of_grown h hr hB) (Nat.le_refl _)
theorem Beside.set {B D : Nat} (a : World) (i : Nat) (v : Value) : Beside B D a (a.setCell ⟨D, i, none⟩ v) := by
  refine ⟨rfl, rfl, rfl, by rw [set_size]; exact Nat.le_refl _, fun k h1 h2 => ?_⟩
  unfold World.setCell
  simp only [Array.getElem?_modify]
  rw [if_neg (fun e : D = k => h2 e.symm)]
theorem Beside.drew {B D : Nat} {a b : World} (h : Beside B D a b) : Beside B D a b.drew := ⟨h.os, h.tape, h.output, h.size, h.block⟩
theorem Beside.low {B D : Nat} {a b : World} (h : Beside B D a b) (hD : D ≤ B) : Below D a b := ⟨h.os, h.tape, h.output, h.size, fun j hj => h.block j (by omega) (by omega)⟩
end Go.Proofs.Ytnhjnimgjpgfcaa.PolQ
/- Whether two queries are the very same, in the program and in the document's answers, by contract. -/
namespace Go.Proofs.Ytnhjnimgjpgfcaa.QryS
set_option linter.unusedVariables false
set_option linter.unusedSimpArgs false
open Go.RowKit Go.Sort Go.Proofs Go.Proofs.Ytnhjnimgjpgfcaa.Plain Go.Proofs.Ytnhjnimgjpgfcaa.SynP Go.Proofs.Ytnhjnimgjpgfcaa.TabP Go.Proofs.Ytnhjnimgjpgfcaa.Tab1 Go.Proofs.Ytnhjnimgjpgfcaa.Grown Go.Proofs.Ytnhjnimgjpgfcaa.SynE Go.Proofs.Ytnhjnimgjpgfcaa.QryP Go.Proofs.Ytnhjnimgjpgfcaa.Qry1
set_option linter.unusedVariables false
set_option linter.unusedSimpArgs false
theorem neS (x y : ByteArray) (w : World) : (binOp .neq 9 (.string x) (.string y)).run Try.prog w = .ok (.bool (!decide (x = y))) w := by
  have e := text_eq
  go_simp
  by_cases h : x = y
  · subst h; simp
  · simp [h, e]
theorem mk_inj (s t : Str) : ((⟨s.toArray⟩ : ByteArray) = ⟨t.toArray⟩) ↔ s = t := ⟨fun h => by
  have := congrArg (fun z : ByteArray => z.data.toList) h
  simpa using this, fun h => by rw [h]⟩
set_option maxHeartbeats 1000000 in
set_option maxRecDepth 100000 in
theorem sameG (A B : Option Addr) (ca cb : Nat) (T U : List Str) (w : World) (hT : T.length ≤ 1000000) (hU : U.length ≤ 1000000) (hA : SRow w A T) (hB : SRow w B U) :
    Calls Try.prog 24 #[.slice A T.length ca, .slice B U.length cb] w fun e w' => e = .returned (.bool (decide (T = U))) ∧ ∃ n, w' = w.drewN n := by
  by_cases hl : T.length = U.length
  · have HL := Lib.hid hl
    have d0 : ((T.length : Int) != U.length) = false := by rw [hl]; simp
    have d0' : (T.length != U.length) = false := by rw [hl]; simp
    have HA := Lib.hid hA
    have HB := Lib.hid hB
    have hul : U.length ≤ T.length := by omega
    have htl : T.length ≤ U.length := by omega
    clear hl hA hB
    go_enter Try.func24, Try.ntmps24
    go_wp2_with fail
    go_loopw [13] (fun i wr => ∃ k : Nat, k ≤ T.length ∧ i = .int .i64 k ∧ Hid (∀ j, j < k → T[j]? = U[j]?) ∧ ∃ n, wr = w.drewN n) (fun i _ => T.length - (intOf i).toNat)
    case atStart => exact ⟨0, by omega, rfl, Lib.hid (fun j hj => by omega), 0, rfl⟩
    case round =>
      obtain ⟨k, hk, rfl, hall, n, rfl⟩ := hrel
      by_cases hlt : k < T.length
      · have hlu : k < U.length := by omega
        obtain ⟨g1, o1, rfl, _, h1⟩ := HA.out (by omega)
        obtain ⟨g2, o2, rfl, _, h2⟩ := HB.out (by omega)
        have a1 := h1 k hlt
        have a2 := h2 k hlu
        have p1 : (0 : Int) ≤ k := by omega
        have p2 : (k : Int) < T.length := by omega
        have p3 : (k : Int) < U.length := by omega
        by_cases he : T[k] = U[k]
        · have hnext : Hid (∀ j, j < k + 1 → T[j]? = U[j]?) := Lib.hid (fun j hj => by
            by_cases e : j = k
            · subst e; rw [List.getElem?_eq_getElem hlt, List.getElem?_eq_getElem hlu, he]
            · exact hall.out j (by omega))
          rw [← he] at a2
          clear h1 h2 he hall
          generalize (⟨T[k].toArray⟩ : ByteArray) = x at *
          go_wp2_with fail
          go_quiet (fail)
          go_wp2_with fail
          go_roundw
          case rel => exact ⟨k + 1, by omega, by go_num, hnext, _, rfl⟩
          case measure => simp [intOf]; omega
        · have hfin : Hid (decide (T = U) = false) := Lib.hid (decide_eq_false (fun h => he (by subst h; rfl)))
          have hxy : ((⟨T[k].toArray⟩ : ByteArray).toList == (⟨U[k].toArray⟩ : ByteArray).toList) = false := by
            rw [beq_eq_false_iff_ne]
            intro h
            rw [Go.ByteArray.toList_eq, Go.ByteArray.toList_eq] at h
            exact he h
          have hxy2 : (!((⟨T[k].toArray⟩ : ByteArray).toList == (⟨U[k].toArray⟩ : ByteArray).toList)) = true := by rw [hxy]; rfl
          clear h1 h2 he hall
          generalize (⟨T[k].toArray⟩ : ByteArray) = x at *
          generalize (⟨U[k].toArray⟩ : ByteArray) = y at *
          go_wp2_with fail
          go_quiet (fail)
          go_wp2_with fail
          go_ret
          exact ⟨ret_bool hfin.out.symm, _, World.drewN_drewN _ _ _⟩
      · have hfin : Hid (decide (T = U) = true) := Lib.hid (decide_eq_true (List.ext_getElem? fun j => by
          by_cases hj : j < T.length
          · exact hall.out j (by omega)
          · rw [List.getElem?_eq_none (by omega), List.getElem?_eq_none (by omega)]))
        clear hall
        go_wp2_with fail
        go_ret
        exact ⟨ret_bool hfin.out.symm, _, rfl⟩
  · have hfin : Hid (decide (T = U) = false) := Lib.hid (decide_eq_false (fun h => hl (by rw [h])))
    have hl' : ¬ (T.length : Int) = U.length := by omega
    have d0 : ((T.length : Int) != U.length) = true := by simp; omega
    have d0' : (T.length != U.length) = true := by simp; omega
    clear hl'
    have HL := Lib.hid hl
    clear hl
    go_enter Try.func24, Try.ntmps24
    go_wp2_with fail
    go_ret
    exact ⟨ret_bool hfin.out.symm, 0, rfl⟩
def sameB (a b : Qy) : Bool := decide (a.kind = b.kind) && (decide (a.a = b.a) && (decide (a.b = b.b) && decide (a.who = b.who)))
theorem sameB_eq {a b : Qy} : sameB a b = true ↔ a = b := by
  obtain ⟨k, a1, b1, T⟩ := a
  obtain ⟨k', a2, b2, U⟩ := b
  unfold sameB
  simp [Qy.mk.injEq]
def SameP (a b : Qy) (w : World) (e : Ending) (w' : World) : Prop := e = .returned (.bool (sameB a b)) ∧ RowKit.Below w.heap.size w w'
end Go.Proofs.Ytnhjnimgjpgfcaa.QryS
