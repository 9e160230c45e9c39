/- The turning of a text, a byte at a time (maths). -/
import Derived.Test.YtkmpbkgmdfeicaaGreatM25
import Derived.Test.YtkmpbkgmdfeicaaGreatM11
import Derived.ProofKit
import Derived.OpenShut
import Derived.ShutString
import Derived.ChangeOld
import Derived.Below
import Derived.Carry
import Derived.SliceStrings
import Derived.Test.YtkmpbkgmdfeicaaGreatM01
import Derived.Deep.DeepHandedRow
import Derived.Test.YtkmpbkgmdfeicaaGreatM04
import Derived.Test.YtkmpbkgmdfeicaaGreatM06
import Derived.Test.YtkmpbkgmdfeicaaGreatM19
import Derived.Test.YtkmpbkgmdfeicaaGreatM20
import Derived.Deep.RegionHeld3
import Derived.Test.YtkmpbkgmdfeicaaGreatShelf
import Derived.Lib.Builder
import Derived.Lib.AppendStr
import Derived.Lib.UnsafeStr
import Derived.Lib.OthersKept
import Derived.Laws.Externs
import Derived.OwnWalk
import Derived.WalkKit
import Derived.Test.YtkmpbkgmdfeicaaGreatM24
import Derived.Test.YtkmpbkgmdfeicaaGreatM17
import Derived.Test.YtkmpbkgmdfeicaaGreatM08
namespace Go.Proofs.YtkmpbkgmdfeicaaGreat.PolTk
set_option linter.unusedVariables false
set_option linter.unusedSimpArgs false
open Go.Proofs Go.Proofs.YtkmpbkgmdfeicaaGreat.Plain Go.Proofs.YtkmpbkgmdfeicaaGreat.TabP Go.Proofs.YtkmpbkgmdfeicaaGreat.PolTf Go.Proofs.YtkmpbkgmdfeicaaGreat.PolTl
set_option linter.unusedVariables false
set_option linter.unusedSimpArgs false
theorem fold_line : ∀ (l t a : List UInt8), (∀ c ∈ l, c ≠ 10) → l.foldl turnB (t, a) = (t, a ++ l)
  | [], t, a, h => by simp
  | c :: l, t, a, h => by
    have e : turnB (t, a) c = (t, a ++ [c]) := by unfold turnB; rw [if_neg (h c (by simp))]
    rw [List.foldl_cons, e, fold_line l t (a ++ [c]) (fun c hc => h c (by simp [hc]))]
    simp
theorem fold_join : ∀ (ls : List Str) (t : List UInt8), (∀ l ∈ ls, ∀ c ∈ l, c ≠ 10) → (joinN ls).foldl turnB (t, []) = (turn ls t, [])
  | [], t, h => rfl
  | l :: ls, t, h => by
    have e : turnB (t, l) 10 = ([32, 32] ++ l ++ [32, 35, 32, 120, 10, 10] ++ t ++ l ++ [10], []) := by unfold turnB; rw [if_pos rfl]
    rw [joinN_cons, List.foldl_append, List.foldl_append, fold_line l t [] (h l (by simp)), List.nil_append, List.foldl_cons, List.foldl_nil, e, fold_join ls _ (fun x hx => h x (by simp [hx]))]
    rfl
theorem upto_all {ls : List Str} (h : ∀ l ∈ ls, ∀ c ∈ l, c ≠ 10) : upto (joinN ls) (joinN ls).length = (turn ls [], []) := by
  unfold upto
  rw [List.take_length]
  exact fold_join ls [] h
end Go.Proofs.YtkmpbkgmdfeicaaGreat.PolTk
/- What an argument that is a query reads as. -/
namespace Go.Proofs.YtkmpbkgmdfeicaaGreat.QryF
set_option linter.unusedVariables false
set_option linter.unusedSimpArgs false
open Go.ChangeShapes Go.WideShapes Go.ChangeAt Go.RowKit
open Go.ChangeMaps (open_string shut_string)
open Go.Proofs.YtkmpbkgmdfeicaaGreat.Plain Go.Proofs.YtkmpbkgmdfeicaaGreat.SynP Go.Proofs.YtkmpbkgmdfeicaaGreat.TabP Go.Proofs.YtkmpbkgmdfeicaaGreat.Tab1 Go.Proofs.YtkmpbkgmdfeicaaGreat.QryP
set_option maxRecDepth 1000000
theorem cells3 : Tryz.prog.cellsOf 3 = 1 := by kernel_rfl
theorem cells9 : Tryz.prog.cellsOf 9 = 1 := by kernel_rfl
theorem cellsW : Tryz.prog.cellsOf 33 = 1 := by kernel_rfl
theorem cellsR : Tryz.prog.cellsOf 44 = 2 := by kernel_rfl
theorem cellsQ : Tryz.prog.cellsOf 49 = 6 := by kernel_rfl
section
variable {H : Type} {enc : TypeId × Value → H} {w : World} {fuel : Nat} {cs : List Value} {x : DataW H × List MemPlace}
theorem some_at {α : Type} {xs : List α} {n i : Nat} (h : xs.length = n) (hi : i < n) : ∃ y, xs[i]? = some y := ⟨xs[i]'(by omega), List.getElem?_eq_getElem _⟩
theorem role_cells (h : DataW.trod enc Tryz.prog w 0 (fun _ => true) true fuel 44 cs = some x) : ∃ r : Rl, cs = [.string r.owner, .string r.name] ∧ r.light := by
  obtain ⟨xs, n, _, _, hl, hxl, hf⟩ := DataW.trod_struct Tryz.underlying44 h
  rw [cellsR] at hl
  match cs, hl with
  | [c0, c1], _ =>
    have h0 : DataW.trod enc Tryz.prog w 0 (fun _ => true) true n 9 (([c0, c1].drop 0).take (Tryz.prog.cellsOf 9)) = xs[0]? := hf 0 _ rfl
    have h1 : DataW.trod enc Tryz.prog w 0 (fun _ => true) true n 9 (([c0, c1].drop 1).take (Tryz.prog.cellsOf 9)) = xs[1]? := hf 1 _ rfl
    obtain ⟨y0, e0⟩ := some_at (i := 0) hxl (by decide)
    obtain ⟨y1, e1⟩ := some_at (i := 1) hxl (by decide)
    rw [e0] at h0
    rw [e1] at h1
    rw [cells9] at h0 h1
    obtain ⟨s0, a0, _, b0⟩ := DataW.trod_string Tryz.underlying9 h0
    obtain ⟨s1, a1, _, b1⟩ := DataW.trod_string Tryz.underlying9 h1
    simp at a0 a1
    subst a0; subst a1
    exact ⟨⟨s0, s1⟩, rfl, b0, b1⟩
theorem row_cells (h : DataW.trod enc Tryz.prog w 0 (fun _ => true) true fuel 33 cs = some x) : ∃ (A : Option Addr) (c : Nat) (T : List Str), cs = [.slice A T.length c] ∧ T.length ≤ maxLen ∧ (∀ s ∈ T, s.length ≤ maxLen) ∧ SRow w A T := by
  rcases open_strings Tryz.underlying33 Tryz.underlying9 cells9 h with ⟨hcs, hx⟩ | ⟨a, nn, cap, ss, hcs, _, hl, hm, hz, hx, hcell, hws⟩
  · exact ⟨none, 0, [], hcs, by simp, by simp, fun h => by simp at h⟩
  · have hzl : ss.length = cap := by simpa using hz
    have hl2 : ((ss.take nn).map (·.data.toList)).length = nn := by simp; omega
    refine ⟨some a, cap, (ss.take nn).map (·.data.toList), by rw [hl2]; exact hcs, by rw [hl2]; omega, ?_, ?_⟩
    · intro s hs
      obtain ⟨x, hx, rfl⟩ := List.mem_map.1 hs
      exact hws x (List.mem_of_mem_take hx)
    · by_cases h0 : 0 < nn
      · have h1 := hcell 0 (by omega)
        obtain ⟨b, off, spot⟩ := a
        have hspot : spot = none := by simpa [Addr.add] using World.cell?_spot h1
        subst hspot
        have hadd : ∀ i, ((⟨b, off, none⟩ : Addr).add i) = ⟨b, off + i, none⟩ := fun i => by
          unfold Addr.add
          split
          · rename_i h; subst h; rfl
          · simp
        have hb : b < w.heap.size := World.block_lt_of_cell? _ _ h1
        refine fun hp => ⟨b, off, rfl, hb, fun j hj => ?_⟩
        rw [hl2] at hj
        have hc := hcell j (by omega)
        rw [hadd] at hc
        rw [hc]
        simp
        rw [List.getElem?_eq_getElem (by omega)]; rfl
      · intro hp
        rw [hl2] at hp
        omega
theorem query_cells (h : DataW.trod enc Tryz.prog w 0 (fun _ => true) true fuel 49 cs = some x) : ∃ (q : Qy) (A : Option Addr) (c : Nat), cs = [.int .i64 q.kind, .string q.a.owner, .string q.a.name, .string q.b.owner, .string q.b.name, .slice A q.who.length c] ∧ q.fit ∧ SRow w A q.who := by
  obtain ⟨xs, n, _, _, hl, hxl, hf⟩ := DataW.trod_struct Tryz.underlying49 h
  rw [cellsQ] at hl
  match cs, hl with
  | [c0, c1, c2, c3, c4, c5], _ =>
    have h0 : DataW.trod enc Tryz.prog w 0 (fun _ => true) true n 3 (([c0, c1, c2, c3, c4, c5].drop 0).take (Tryz.prog.cellsOf 3)) = xs[0]? := hf 0 _ rfl
    have h1 : DataW.trod enc Tryz.prog w 0 (fun _ => true) true n 44 (([c0, c1, c2, c3, c4, c5].drop 1).take (Tryz.prog.cellsOf 44)) = xs[1]? := hf 1 _ rfl
    have h2 : DataW.trod enc Tryz.prog w 0 (fun _ => true) true n 44 (([c0, c1, c2, c3, c4, c5].drop 3).take (Tryz.prog.cellsOf 44)) = xs[2]? := hf 2 _ rfl
    have h3 : DataW.trod enc Tryz.prog w 0 (fun _ => true) true n 33 (([c0, c1, c2, c3, c4, c5].drop 5).take (Tryz.prog.cellsOf 33)) = xs[3]? := hf 3 _ rfl
    obtain ⟨y0, e0⟩ := some_at (i := 0) hxl (by decide)
    obtain ⟨y1, e1⟩ := some_at (i := 1) hxl (by decide)
    obtain ⟨y2, e2⟩ := some_at (i := 2) hxl (by decide)
    obtain ⟨y3, e3⟩ := some_at (i := 3) hxl (by decide)
    rw [e0] at h0
    rw [e1] at h1
    rw [e2] at h2
    rw [e3] at h3
    rw [cells3] at h0
    rw [cellsR] at h1 h2
    rw [cellsW] at h3
    obtain ⟨k, a0, _, _⟩ := DataW.trod_int Tryz.underlying3 h0
    obtain ⟨r1, a1, b1⟩ := role_cells h1
    obtain ⟨r2, a2, b2⟩ := role_cells h2
    obtain ⟨A, c, T, a3, b3, b4, b5⟩ := row_cells h3
    simp at a0 a1 a2 a3
    obtain ⟨a11, a12⟩ := a1
    obtain ⟨a21, a22⟩ := a2
    subst a0 a11 a12 a21 a22 a3
    exact ⟨⟨k, r1, r2, T⟩, A, c, rfl, ⟨b1, b2, b3, b4⟩, b5⟩
theorem open_query {r : Reach} {b0 : Nat} {v : Value} {d : DataW H} {p : List MemPlace} (hv : Value.okWide Tryz.prog w r b0 49 v) (h : DataW.Trod enc Tryz.prog w 0 (fun _ => true) true 49 v d p) : ∃ (q : Qy) (A : Option Addr) (c : Nat), v = q.val A c ∧ q.fit ∧ SRow w A q.who := by
  obtain ⟨cs, rfl, hsz⟩ := okWide_struct Tryz.underlying49 hv
  obtain ⟨fuel, hf⟩ := h
  obtain ⟨q, A, c, hs, hfit, hr⟩ := query_cells hf
  refine ⟨q, A, c, ?_, hfit, hr⟩
  have : cs.toList = [.int .i64 q.kind, .string q.a.owner, .string q.a.name, .string q.b.owner, .string q.b.name, .slice A q.who.length c] := by simpa [Value.cells] using hs
  obtain ⟨l⟩ := cs
  simp at this
  subst this
  rfl
end
end Go.Proofs.YtkmpbkgmdfeicaaGreat.QryF
/- What arguments that are a statement, or a row of texts, read as. -/
namespace Go.Proofs.YtkmpbkgmdfeicaaGreat.TblO
set_option linter.unusedVariables false
set_option linter.unusedSimpArgs false
open Go.ChangeShapes Go.WideShapes Go.ChangeAt Go.RowKit
open Go.ChangeMaps (open_string shut_string)
open Go.Proofs.YtkmpbkgmdfeicaaGreat.Plain Go.Proofs.YtkmpbkgmdfeicaaGreat.SynP Go.Proofs.YtkmpbkgmdfeicaaGreat.TabP Go.Proofs.YtkmpbkgmdfeicaaGreat.Tab1
set_option maxRecDepth 1000000
theorem cells3 : Tryz.prog.cellsOf 3 = 1 := by kernel_rfl
theorem cells9 : Tryz.prog.cellsOf 9 = 1 := by kernel_rfl
theorem cellsR : Tryz.prog.cellsOf 44 = 2 := by kernel_rfl
theorem cellsS : Tryz.prog.cellsOf 46 = 9 := by kernel_rfl
section
variable {H : Type} {enc : TypeId × Value → H} {w : World} {base : Nat} {spare : Nat → Bool} {held : Bool} {fuel : Nat} {cs : List Value} {x : DataW H × List MemPlace}
theorem some_at {α : Type} {xs : List α} {n i : Nat} (h : xs.length = n) (hi : i < n) : ∃ y, xs[i]? = some y := ⟨xs[i]'(by omega), List.getElem?_eq_getElem _⟩
theorem role_cells (h : DataW.trod enc Tryz.prog w base spare held fuel 44 cs = some x) : ∃ r : Rl, cs = [.string r.owner, .string r.name] ∧ r.light := by
  obtain ⟨xs, n, _, _, hl, hxl, hf⟩ := DataW.trod_struct Tryz.underlying44 h
  rw [cellsR] at hl
  match cs, hl with
  | [c0, c1], _ =>
    have h0 : DataW.trod enc Tryz.prog w base spare held n 9 (([c0, c1].drop 0).take (Tryz.prog.cellsOf 9)) = xs[0]? := hf 0 _ rfl
    have h1 : DataW.trod enc Tryz.prog w base spare held n 9 (([c0, c1].drop 1).take (Tryz.prog.cellsOf 9)) = xs[1]? := hf 1 _ rfl
    obtain ⟨y0, e0⟩ := some_at (i := 0) hxl (by decide)
    obtain ⟨y1, e1⟩ := some_at (i := 1) hxl (by decide)
    rw [e0] at h0
    rw [e1] at h1
    rw [cells9] at h0 h1
    obtain ⟨s0, a0, _, b0⟩ := DataW.trod_string Tryz.underlying9 h0
    obtain ⟨s1, a1, _, b1⟩ := DataW.trod_string Tryz.underlying9 h1
    simp at a0 a1
    subst a0; subst a1
    exact ⟨⟨s0, s1⟩, rfl, b0, b1⟩
theorem stmt_cells (h : DataW.trod enc Tryz.prog w base spare held fuel 46 cs = some x) : ∃ s : St, cs = s.cells ∧ s.fit := by
  obtain ⟨xs, n, _, _, hl, hxl, hf⟩ := DataW.trod_struct Tryz.underlying46 h
  rw [cellsS] at hl
  match cs, hl with
  | [c0, c1, c2, c3, c4, c5, c6, c7, c8], _ =>
    have h0 : DataW.trod enc Tryz.prog w base spare held n 3 (([c0, c1, c2, c3, c4, c5, c6, c7, c8].drop 0).take (Tryz.prog.cellsOf 3)) = xs[0]? := hf 0 _ rfl
    have h1 : DataW.trod enc Tryz.prog w base spare held n 44 (([c0, c1, c2, c3, c4, c5, c6, c7, c8].drop 1).take (Tryz.prog.cellsOf 44)) = xs[1]? := hf 1 _ rfl
    have h2 : DataW.trod enc Tryz.prog w base spare held n 9 (([c0, c1, c2, c3, c4, c5, c6, c7, c8].drop 3).take (Tryz.prog.cellsOf 9)) = xs[2]? := hf 2 _ rfl
    have h3 : DataW.trod enc Tryz.prog w base spare held n 44 (([c0, c1, c2, c3, c4, c5, c6, c7, c8].drop 4).take (Tryz.prog.cellsOf 44)) = xs[3]? := hf 3 _ rfl
    have h4 : DataW.trod enc Tryz.prog w base spare held n 44 (([c0, c1, c2, c3, c4, c5, c6, c7, c8].drop 6).take (Tryz.prog.cellsOf 44)) = xs[4]? := hf 4 _ rfl
    have h5 : DataW.trod enc Tryz.prog w base spare held n 9 (([c0, c1, c2, c3, c4, c5, c6, c7, c8].drop 8).take (Tryz.prog.cellsOf 9)) = xs[5]? := hf 5 _ rfl
    obtain ⟨y0, e0⟩ := some_at (i := 0) hxl (by decide)
    obtain ⟨y1, e1⟩ := some_at (i := 1) hxl (by decide)
    obtain ⟨y2, e2⟩ := some_at (i := 2) hxl (by decide)
    obtain ⟨y3, e3⟩ := some_at (i := 3) hxl (by decide)
    obtain ⟨y4, e4⟩ := some_at (i := 4) hxl (by decide)
    obtain ⟨y5, e5⟩ := some_at (i := 5) hxl (by decide)
    rw [e0] at h0
    rw [e1] at h1
    rw [e2] at h2
    rw [e3] at h3
    rw [e4] at h4
    rw [e5] at h5
    rw [cells3] at h0
    rw [cellsR] at h1 h3 h4
    rw [cells9] at h2 h5
    obtain ⟨k, a0, _, _⟩ := DataW.trod_int Tryz.underlying3 h0
    obtain ⟨r1, a1, b1⟩ := role_cells h1
    obtain ⟨s2, a2, _, b2⟩ := DataW.trod_string Tryz.underlying9 h2
    obtain ⟨r3, a3, b3⟩ := role_cells h3
    obtain ⟨r4, a4, b4⟩ := role_cells h4
    obtain ⟨s5, a5, _, b5⟩ := DataW.trod_string Tryz.underlying9 h5
    simp at a0 a1 a2 a3 a4 a5
    obtain ⟨a11, a12⟩ := a1
    obtain ⟨a31, a32⟩ := a3
    obtain ⟨a41, a42⟩ := a4
    subst a0 a11 a12 a2 a31 a32 a41 a42 a5
    exact ⟨⟨k, r1, s2, r3, r4, s5⟩, rfl, b1, b2, b3, b4, b5⟩
theorem open_stmt {r : Reach} {b0 : Nat} {v : Value} {d : DataW H} {p : List MemPlace} (hv : Value.okWide Tryz.prog w r b0 46 v) (h : DataW.Trod enc Tryz.prog w base spare held 46 v d p) : ∃ s : St, v = s.val ∧ s.fit := by
  obtain ⟨cs, rfl, hsz⟩ := okWide_struct Tryz.underlying46 hv
  obtain ⟨fuel, hf⟩ := h
  obtain ⟨s, hs, hfit⟩ := stmt_cells hf
  refine ⟨s, ?_, hfit⟩
  have : cs.toList = s.cells := by simpa [Value.cells] using hs
  obtain ⟨l⟩ := cs
  simp at this
  subst this
  rfl
end
theorem row_of_strings {w : World} {b off n m : Nat} {ss : List ByteArray} (hn : n ≤ m) (hm : ss.length = m) (hb : 0 < n → b < w.heap.size) (hcell : ∀ i, i < ss.length → w.cell? ⟨b, off + i, none⟩ = some (.string (ss.getD i ByteArray.empty))) :
    SRow w (some ⟨b, off, none⟩) ((ss.take n).map (·.data.toList)) := fun hp => by
  have hl : ((ss.take n).map (·.data.toList)).length = n := by simp; omega
  refine ⟨b, off, rfl, hb (by omega), fun j hj => ?_⟩
  rw [hl] at hj
  rw [hcell j (by omega), List.getD_eq_getElem?_getD, List.getElem?_eq_getElem (by omega)]
  simp
end Go.Proofs.YtkmpbkgmdfeicaaGreat.TblO
/- What an argument that is a policy reads as. -/
namespace Go.Proofs.YtkmpbkgmdfeicaaGreat.PolOp
set_option linter.unusedVariables false
set_option linter.unusedSimpArgs false
open Go.ChangeShapes Go.WideShapes Go.ChangeAt Go.RowKit
open Go.Proofs.YtkmpbkgmdfeicaaGreat.Plain Go.Proofs.YtkmpbkgmdfeicaaGreat.SynP Go.Proofs.YtkmpbkgmdfeicaaGreat.Tab1 Go.Proofs.YtkmpbkgmdfeicaaGreat.QryP Go.Proofs.YtkmpbkgmdfeicaaGreat.QryF Go.Proofs.YtkmpbkgmdfeicaaGreat.PolA Go.Proofs.YtkmpbkgmdfeicaaGreat.PolE
set_option linter.unusedVariables false
set_option maxRecDepth 1000000
theorem off_add (b off j : Nat) : ((⟨b, off, none⟩ : Addr).add j) = ⟨b, off + j, none⟩ := by
  unfold Addr.add
  split
  · rename_i h; subst h; rfl
  · simp
theorem list_of {α : Type} {P : Nat → α → Prop} : ∀ n, (∀ i, i < n → ∃ x, P i x) → ∃ L : List α, L.length = n ∧ ∀ i, (h : i < L.length) → P i L[i]
  | 0, _ => ⟨[], rfl, fun i h => absurd h (Nat.not_lt_zero i)⟩
  | n + 1, H => by
    obtain ⟨L, hl, hp⟩ := list_of n fun i hi => H i (by omega)
    obtain ⟨x, hx⟩ := H n (by omega)
    refine ⟨L ++ [x], by simp [hl], fun i h => ?_⟩
    by_cases hi : i < L.length
    · rw [List.getElem_append_left hi]; exact hp i hi
    · have : i = n := by simp at h; omega
      subst this
      rw [List.getElem_append_right (by omega)]
      simpa [hl] using hx
section
variable {H : Type} {enc : TypeId × Value → H} {W : World} {fuel : Nat} {c0 : Value} {x : DataW H × List MemPlace}
/-- A slice of structs of m cells that came in: its elements, one by one. -/
theorem row_of {α : Type} {t e : TypeId} (m : Nat) (hm0 : 0 < m) (ht : Tryz.prog.underlying t = some (.slice e)) (hce : Tryz.prog.cellsOf e = m) (R : World → α → List Value → Prop)
    (hel : ∀ {n : Nat} {cs : List Value} {y : DataW H × List MemPlace}, DataW.trod enc Tryz.prog W 0 (fun _ => true) true n e cs = some y → ∃ s : α, R W s cs ∧ cs.length = m)
    (hf : DataW.trod enc Tryz.prog W 0 (fun _ => true) true fuel t [c0] = some x) :
    ∃ (A : Option Addr) (n c : Nat) (L : List α), c0 = .slice A n c ∧ L.length = n ∧ n ≤ maxLen ∧ (0 < n → ∃ g o, A = some ⟨g, o, none⟩ ∧ g < W.heap.size ∧ ∀ j, (h : j < L.length) → ∃ cs, R W L[j] cs ∧ cs.length = m ∧ ∀ k u, cs[k]? = some u → W.cell? ⟨g, o + j * m + k, none⟩ = some u) := by
  rcases DataW.trod_slice ht hf with ⟨hcs, hx⟩ | ⟨a, len', cap', elems, rest, n, _, hcs, hx, hb, hl, hm, hlen, hel2, _⟩
  · simp at hcs
    subst hcs
    exact ⟨none, 0, 0, [], rfl, rfl, by simp, fun h => by simp at h⟩
  · simp at hcs
    subst hcs
    have key : ∀ i, i < len' → ∃ s : α, ∃ cs, R W s cs ∧ cs.length = m ∧ ∀ k, k < m → W.cell? (a.add (i * m) |>.add k) = cs[k]? := fun i hi => by
      have q := hel2 i hi
      rw [hce] at q
      obtain ⟨y, hy⟩ : ∃ y, elems[i]? = some y := some_at hlen hi
      rw [hy, Option.bind_eq_some_iff] at q
      obtain ⟨cs, hc, ht2⟩ := q
      obtain ⟨s, hs, hln⟩ := hel ht2
      obtain ⟨_, _, hat⟩ := World.cells?_some hc
      exact ⟨s, cs, hs, hln, hat⟩
    obtain ⟨L, hL, hp⟩ := list_of (P := fun i (s : α) => ∃ cs, R W s cs ∧ cs.length = m ∧ ∀ k, k < m → W.cell? (a.add (i * m) |>.add k) = cs[k]?) len' key
    refine ⟨some a, len', cap', L, rfl, hL, by omega, fun hpos => ?_⟩
    obtain ⟨cs0, _, hc0, h0⟩ := hp 0 (by omega)
    have h1 := h0 0 hm0
    rw [List.getElem?_eq_getElem (by omega)] at h1
    obtain ⟨b, off, spot⟩ := a
    have hspot : spot = none := by simpa [Addr.add] using World.cell?_spot h1
    subst hspot
    have hlt := World.block_lt_of_cell? _ _ h1
    rw [off_add, off_add] at hlt
    refine ⟨b, off, rfl, hlt, fun j hj => ?_⟩
    obtain ⟨cs, hr, hcl, hat⟩ := hp j hj
    refine ⟨cs, hr, hcl, fun k u hu => ?_⟩
    have hk : k < m := by
      rcases Nat.lt_or_ge k cs.length with h | h
      · omega
      · rw [List.getElem?_eq_none h] at hu; cases hu
    have := hat k hk
    rw [off_add, off_add] at this
    rw [this, hu]
end
section
variable {H : Type} {enc : TypeId × Value → H} {W : World} {fuel : Nat} {c0 : Value} {x : DataW H × List MemPlace}
theorem stmts_cell (hf : DataW.trod enc Tryz.prog W 0 (fun _ => true) true fuel 22 [c0] = some x) : ∃ (A : Option Addr) (c : Nat) (L : List St), c0 = .slice A L.length c ∧ L.length ≤ maxLen ∧ (∀ s ∈ L, s.fit) ∧ SG W A L := by
  obtain ⟨A, n, c, L, rfl, hL, hm, h⟩ := row_of 9 (by omega) Tryz.underlying22 TblO.cellsS (fun _ (s : St) cs => cs = s.cells ∧ s.fit) (fun {n cs y} h => by
    obtain ⟨s, rfl, hf⟩ := TblO.stmt_cells h
    exact ⟨s, ⟨rfl, hf⟩, rfl⟩) hf
  subst hL
  refine ⟨A, c, L, rfl, hm, fun s hs => ?_, fun hp => ?_⟩
  · obtain ⟨j, hj, rfl⟩ := List.getElem_of_mem hs
    obtain ⟨g, o, _, _, hc⟩ := h (by omega)
    obtain ⟨cs, ⟨_, hf⟩, _⟩ := hc j hj
    exact hf
  · obtain ⟨g, o, rfl, hg, hc⟩ := h hp
    refine ⟨g, o, rfl, hg, fun j hj => ?_⟩
    obtain ⟨cs, ⟨rfl, _⟩, _, hk⟩ := hc j hj
    exact ⟨hk 0 _ rfl, hk 1 _ rfl, hk 2 _ rfl, hk 3 _ rfl, hk 4 _ rfl, hk 5 _ rfl, hk 6 _ rfl, hk 7 _ rfl, hk 8 _ rfl⟩
theorem roles_cell (hf : DataW.trod enc Tryz.prog W 0 (fun _ => true) true fuel 23 [c0] = some x) : ∃ (A : Option Addr) (c : Nat) (L : List Rl), c0 = .slice A L.length c ∧ L.length ≤ maxLen ∧ (∀ r ∈ L, r.light) ∧ RG W A L := by
  obtain ⟨A, n, c, L, rfl, hL, hm, h⟩ := row_of 2 (by omega) Tryz.underlying23 TblO.cellsR (fun _ (r : Rl) cs => cs = [.string r.owner, .string r.name] ∧ r.light) (fun {n cs y} h => by
    obtain ⟨s, rfl, hf⟩ := TblO.role_cells h
    exact ⟨s, ⟨rfl, hf⟩, rfl⟩) hf
  subst hL
  refine ⟨A, c, L, rfl, hm, fun s hs => ?_, fun hp => ?_⟩
  · obtain ⟨j, hj, rfl⟩ := List.getElem_of_mem hs
    obtain ⟨g, o, _, _, hc⟩ := h (by omega)
    obtain ⟨cs, ⟨_, hf⟩, _⟩ := hc j hj
    exact hf
  · obtain ⟨g, o, rfl, hg, hc⟩ := h hp
    refine ⟨g, o, rfl, hg, fun j hj => ?_⟩
    obtain ⟨cs, ⟨rfl, _⟩, _, hk⟩ := hc j hj
    exact ⟨hk 0 _ rfl, hk 1 _ rfl⟩
theorem asks_cell (hf : DataW.trod enc Tryz.prog W 0 (fun _ => true) true fuel 24 [c0] = some x) : ∃ (A : Option Addr) (c : Nat) (L : List Qy), c0 = .slice A L.length c ∧ L.length ≤ maxLen ∧ (∀ q ∈ L, q.fit) ∧ QG W A L := by
  obtain ⟨A, n, c, L, rfl, hL, hm, h⟩ := row_of 6 (by omega) Tryz.underlying24 QryF.cellsQ (fun w (q : Qy) cs => ∃ (B : Option Addr) (c : Nat), cs = [.int .i64 q.kind, .string q.a.owner, .string q.a.name, .string q.b.owner, .string q.b.name, .slice B q.who.length c] ∧ q.fit ∧ SRow w B q.who) (fun {n cs y} h => by
    obtain ⟨q, B, c, rfl, hf, hr⟩ := QryF.query_cells h
    exact ⟨q, ⟨B, c, rfl, hf, hr⟩, rfl⟩) hf
  subst hL
  refine ⟨A, c, L, rfl, hm, fun s hs => ?_, fun hp => ?_⟩
  · obtain ⟨j, hj, rfl⟩ := List.getElem_of_mem hs
    obtain ⟨g, o, _, _, hc⟩ := h (by omega)
    obtain ⟨cs, ⟨_, _, _, hf, _⟩, _⟩ := hc j hj
    exact hf
  · obtain ⟨g, o, rfl, hg, hc⟩ := h hp
    refine ⟨g, o, rfl, hg, fun j hj => ?_⟩
    obtain ⟨cs, ⟨B, c, rfl, _, hr⟩, _, hk⟩ := hc j hj
    exact ⟨B, c, hk 0 _ rfl, hk 1 _ rfl, hk 2 _ rfl, hk 3 _ rfl, hk 4 _ rfl, hk 5 _ rfl, hr⟩
theorem c1 : Tryz.prog.cellsOf 22 = 1 := by kernel_rfl
theorem c2 : Tryz.prog.cellsOf 23 = 1 := by kernel_rfl
theorem c3 : Tryz.prog.cellsOf 24 = 1 := by kernel_rfl
theorem cP : Tryz.prog.cellsOf 26 = 4 := by kernel_rfl
/-- Texts and rows that came in. -/
structure Came (p : Py) : Prop where
  n1 : p.stmts.length ≤ maxLen
  n2 : p.grow.length ≤ maxLen
  n3 : p.shrink.length ≤ maxLen
  n4 : p.asks.length ≤ maxLen
  f1 : ∀ s ∈ p.stmts, s.fit
  f2 : ∀ r ∈ p.grow, r.light
  f3 : ∀ r ∈ p.shrink, r.light
  f4 : ∀ q ∈ p.asks, q.fit
theorem open_policy {base : Nat} {v : Value} {d : DataW H} {p : List MemPlace}
    (hval : Value.okWide Tryz.prog W .any base 26 v) (h : DataW.Trod enc Tryz.prog W 0 (fun _ => true) true 26 v d p) :
    ∃ (y : Py) (A1 A2 A3 A4 : Option Addr) (c1 c2 c3 c4 : Nat), v = y.val A1 A2 A3 A4 c1 c2 c3 c4 ∧ Came y ∧ PG W A1 A2 A3 A4 y := by
  obtain ⟨cs, rfl, hsz⟩ := okWide_struct Tryz.underlying26 hval
  obtain ⟨fuel, hf⟩ := h
  obtain ⟨xs, n, _, _, hl, hxl, hfa⟩ := DataW.trod_struct Tryz.underlying26 hf
  rw [cP] at hl
  obtain ⟨l⟩ := cs
  simp only [Value.cells, List.toList_toArray] at hl hfa
  match l, hl with
  | [e0, e1, e2, e3], _ =>
    have h0 : DataW.trod enc Tryz.prog W 0 (fun _ => true) true n 22 (([e0, e1, e2, e3].drop 0).take (Tryz.prog.cellsOf 22)) = xs[0]? := hfa 0 _ rfl
    have h1 : DataW.trod enc Tryz.prog W 0 (fun _ => true) true n 23 (([e0, e1, e2, e3].drop 1).take (Tryz.prog.cellsOf 23)) = xs[1]? := hfa 1 _ rfl
    have h2 : DataW.trod enc Tryz.prog W 0 (fun _ => true) true n 23 (([e0, e1, e2, e3].drop 2).take (Tryz.prog.cellsOf 23)) = xs[2]? := hfa 2 _ rfl
    have h3 : DataW.trod enc Tryz.prog W 0 (fun _ => true) true n 24 (([e0, e1, e2, e3].drop 3).take (Tryz.prog.cellsOf 24)) = xs[3]? := hfa 3 _ rfl
    obtain ⟨y0, g0⟩ := some_at (i := 0) hxl (by decide)
    obtain ⟨y1, g1⟩ := some_at (i := 1) hxl (by decide)
    obtain ⟨y2, g2⟩ := some_at (i := 2) hxl (by decide)
    obtain ⟨y3, g3⟩ := some_at (i := 3) hxl (by decide)
    rw [g0, PolOp.c1] at h0
    rw [g1, PolOp.c2] at h1
    rw [g2, PolOp.c2] at h2
    rw [g3, PolOp.c3] at h3
    obtain ⟨A1, k1, S, r1, a1, b1, d1⟩ := stmts_cell h0
    obtain ⟨A2, k2, G, r2, a2, b2, d2⟩ := roles_cell h1
    obtain ⟨A3, k3, R, r3, a3, b3, d3⟩ := roles_cell h2
    obtain ⟨A4, k4, Q, r4, a4, b4, d4⟩ := asks_cell h3
    subst r1; subst r2; subst r3; subst r4
    exact ⟨⟨S, G, R, Q⟩, A1, A2, A3, A4, k1, k2, k3, k4, rfl, ⟨a1, a2, a3, a4, b1, b2, b3, b4⟩, ⟨d1, d2, d3, d4⟩⟩
end
end Go.Proofs.YtkmpbkgmdfeicaaGreat.PolOp
/- Which statements are light. -/
namespace Go.Proofs.YtkmpbkgmdfeicaaGreat.TblM
set_option linter.unusedVariables false
set_option linter.unusedSimpArgs false
open Go.RowKit Go.Sort Go.Proofs Go.Proofs.YtkmpbkgmdfeicaaGreat.Plain Go.Proofs.YtkmpbkgmdfeicaaGreat.SynP Go.Proofs.YtkmpbkgmdfeicaaGreat.Grown Go.Proofs.YtkmpbkgmdfeicaaGreat.Syn1
set_option linter.unusedVariables false
set_option linter.unusedSimpArgs false
def textsOf (s : St) : List ByteArray := [s.who, s.via, s.head.owner, s.head.name, s.a.owner, s.a.name, s.b.owner, s.b.name]
def lightL (l : List ByteArray) : Bool := l.all fun x => decide (x.size ≤ 40)
def lightS (s : St) : Bool := lightL (textsOf s)
theorem light_no {l : List ByteArray} {k : Nat} (h : k < l.length) (hk : ¬ l[k].size ≤ 40) : lightL l = false := by
  unfold lightL
  rw [List.all_eq_false]
  exact ⟨l[k], List.getElem_mem _, by simp; omega⟩
theorem light_yes {l : List ByteArray} (h : ∀ k, (hk : k < l.length) → l[k].size ≤ 40) : lightL l = true := by
  unfold lightL
  rw [List.all_eq_true]
  intro x hx
  obtain ⟨k, hk, rfl⟩ := List.getElem_of_mem hx
  simpa using h k hk
set_option maxRecDepth 100000 in
theorem light (s : St) (w : World) : Calls Tryz.prog 26 #[s.val] w fun e w' => e = .returned (.bool (lightS s)) ∧ Grew w w' := by
  have hl : (textsOf s).length = 8 := rfl
  obtain ⟨k1, ⟨ho, hn⟩, wh, ⟨ao, an⟩, ⟨bo, bn⟩, v⟩ := s
  have hT : textsOf ⟨k1, ⟨ho, hn⟩, wh, ⟨ao, an⟩, ⟨bo, bn⟩, v⟩ = [wh, v, ho, hn, ao, an, bo, bn] := rfl
  unfold lightS
  unfold St.val
  go_enter Tryz.func26, Tryz.ntmps26
  go_wp2
  have hrow : ∀ k, (h : k < (textsOf ⟨k1, ⟨ho, hn⟩, wh, ⟨ao, an⟩, ⟨bo, bn⟩, v⟩).length) → ((w.alloc (.cells #[.int .i64 k1, .string ho, .string hn, .string wh, .string ao, .string an, .string bo, .string bn, .string v] 46)).alloc (.cells #[.string wh, .string v, .string ho, .string hn, .string ao, .string an, .string bo, .string bn] 9)).cell? ⟨w.heap.size + 1, k, none⟩ = some (.string (textsOf ⟨k1, ⟨ho, hn⟩, wh, ⟨ao, an⟩, ⟨bo, bn⟩, v⟩)[k]) := fun k h => by
    have := Lib.cell_of_heap (heap_alloc_new (w.alloc (.cells #[.int .i64 k1, .string ho, .string hn, .string wh, .string ao, .string an, .string bo, .string bn, .string v] 46)) (.cells #[.string wh, .string v, .string ho, .string hn, .string ao, .string an, .string bo, .string bn] 9)) k
    rw [World.size_alloc] at this
    rw [this]
    match k, h with
    | 0, _ => rfl
    | 1, _ => rfl
    | 2, _ => rfl
    | 3, _ => rfl
    | 4, _ => rfl
    | 5, _ => rfl
    | 6, _ => rfl
    | 7, _ => rfl
  clear hT
  have Hrow := Lib.hid hrow
  have Hl := Lib.hid hl
  clear hrow hl
  generalize hE : textsOf ⟨k1, ⟨ho, hn⟩, wh, ⟨ao, an⟩, ⟨bo, bn⟩, v⟩ = l at *
  have HE := Lib.hid hE
  clear hE
  go_loop [29] (fun i => ∃ k : Nat, k ≤ 8 ∧ i = .int .i64 k ∧ Hid (∀ j, (h : j < l.length) → j < k → l[j].size ≤ 40)) (fun i => 8 - (intOf i).toNat)
  case atStart => exact ⟨0, by omega, rfl, Lib.hid fun j _ hj => by omega⟩
  case round =>
    obtain ⟨k, hk, rfl, hall⟩ := hrel
    by_cases hlt : k < 8
    · have hkl : k < l.length := by rw [Hl.out]; exact hlt
      have hc := Hrow.out k hkl
      have p1 : (0 : Int) ≤ k := by omega
      have p2 : (k : Int) < 8 := by omega
      by_cases h40 : l[k].size ≤ 40
      · have hnext : Hid (∀ j, (h : j < l.length) → j < k + 1 → l[j].size ≤ 40) := Lib.hid fun j h hj => by
          by_cases e : j = k
          · subst e; exact h40
          · exact hall.out j h (by omega)
        clear hall
        go_wp2_with fail
        go_round
        case rel => exact ⟨k + 1, by omega, by go_num, hnext⟩
        case measure => simp [intOf]; omega
      · have hf := Lib.hid (light_no hkl h40)
        have h41 : 40 < l[k].size := by omega
        clear hall h40
        go_wp2_with fail
        go_ret
        exact ⟨ret_bool (by rw [HE.out]; exact hf.out.symm), ((Grew.refl _).alloc _).alloc _⟩
    · have hf := Lib.hid (light_yes (fun j h => hall.out j h (by rw [Hl.out] at h; omega)))
      clear hall
      go_wp2_with fail
      go_ret
      exact ⟨ret_bool (by rw [HE.out]; exact hf.out.symm), ((Grew.refl _).alloc _).alloc _⟩
theorem light_size {s : St} (h : lightS s = true) : s.head.owner.size ≤ 1000 ∧ s.head.name.size ≤ 1000 := by
  unfold lightS lightL textsOf at h
  simp at h
  omega
end Go.Proofs.YtkmpbkgmdfeicaaGreat.TblM
/- Light of a policy: what it gives, by contract. -/
namespace Go.Proofs.YtkmpbkgmdfeicaaGreat.PolLi
set_option linter.unusedVariables false
set_option linter.unusedSimpArgs false
open Go.RowKit Go.Sort Go.Lib Go.Proofs Go.Proofs.YtkmpbkgmdfeicaaGreat.Plain Go.Proofs.YtkmpbkgmdfeicaaGreat.SynP Go.Proofs.YtkmpbkgmdfeicaaGreat.TabP Go.Proofs.YtkmpbkgmdfeicaaGreat.Tab1 Go.Proofs.YtkmpbkgmdfeicaaGreat.Grown Go.Proofs.YtkmpbkgmdfeicaaGreat.QryP Go.Proofs.YtkmpbkgmdfeicaaGreat.SynJ Go.Proofs.YtkmpbkgmdfeicaaGreat.PolA Go.Proofs.YtkmpbkgmdfeicaaGreat.PolE Go.Proofs.YtkmpbkgmdfeicaaGreat.PolOp
set_option linter.unusedVariables false
set_option linter.unusedSimpArgs false
section
variable {P : Program} (w : World)
/-- An append in a region that draws its order: of a source that reads as cells, nil let in. -/
theorem step_append_from {ops : Array Oper} {o : Oper} {a : Act} {K : Act → World → Prop} {Q : Exit → Act → World → Prop} {E : Prop} (hgd : o.guard = none) (s x : Operand) (t : TypeId)
    (ho : o.op = .call { callee := .builtin .append, args := #[s, x], argTypes := #[t, t] })
    (base : Nat) (e : TypeId) (i : TypeInfo) (z : Value) (size bytes : Nat) (ht : P.underlying t = some (.slice e)) (hi : P.info? e = some i) (hz : i.zero = some z)
    (hsize : i.size = size) (hby : i.bytes = bytes) (hzs : z.cells.size = size) (hsz : 0 < size) (v : Value) (n : Nat) (xs : List Value) (hs : a.eval s = v) (hown : w.ownsRow base e size v n xs)
    (A : Option Addr) (m c : Nat) (news : List Value) (hx : a.eval x = .slice A m c) (hlen : news.length = m * size) (h0 : A = none → m = 0) (hA : ∀ ad, A = some ad → ∀ j u, news[j]? = some u → w.cell? (ad.add j) = some u) (h1 : ∀ u ∈ news, u.oneCell' = true)
    (h63 : n + m ≤ maxLen) (hbytes : (n + m) * bytes ≤ 140737488355328) (hbase : base ≤ w.heap.size)
    (h : ∀ v' w', w'.ownsRow base e size v' (n + m) (xs ++ news) → w.grownBy w' v.ownBlock → K (a.put o.dst v') w') :
    if Region.wanted o (yielded ops a.tmps) = true then Oper.wp P o a w K Q else E := by
  have hw : Region.wanted o (yielded ops a.tmps) = true := by simp [Region.wanted, hgd]
  rw [if_pos hw]
  obtain ⟨v', w', hr, h2, h3⟩ := SynC.run_append_from (P := P) w base t o.type e i z size bytes ht hi hz hsize hby hzs hsz v n xs hown A m c news hlen h0 hA h1 h63 hbytes hbase
  unfold Oper.wp execOp
  simp only [ho, resolve, invoke, builtin, Sem.run_bind, Sem.run_pure, Result.andThen_ok, List.map_toArray, List.map_cons, List.map_nil, hs, hx, hr]
  exact h v' w' h2 h3
end
theorem nx {W w1 w2 : World} (h : Below W.heap.size W w1) (hb : Below w1.heap.size w1 w2) : Below W.heap.size W w2 := h.trans (hb.mono h.size)
theorem light40 {T : List Str} (h : Tab6.lightB T = true) : T.length ≤ 40 := by
  unfold Tab6.lightB at h
  rw [Bool.and_eq_true, decide_eq_true_iff] at h
  exact h.1
theorem own_n {w : World} {B n k : Nat} {e : TypeId} {v : Value} {xs : List Value} (h : w.ownsRow B e k v n xs) : ∃ A c, v = .slice A n c := by
  rcases h.2 with ⟨rfl, rfl⟩ | ⟨g, cap, cur, rfl, _⟩
  · exact ⟨none, 0, rfl⟩
  · exact ⟨_, cap, rfl⟩
theorem rg_none {w : World} {A : Option Addr} {L : List Rl} (h : RG w A L) : A = none → L.length = 0 := fun e => by
  rcases Nat.eq_zero_or_pos L.length with h0 | h0
  · exact h0
  · obtain ⟨g, o, hA, _⟩ := h h0
    rw [e] at hA; cases hA
theorem below_grown {W w w1 : World} {B n k : Nat} {e : TypeId} {v : Value} {xs : List Value} (hb : Below W.heap.size W w) (ho : w.ownsRow B e k v n xs) (hg : w.grownBy w1 v.ownBlock) (hB : W.heap.size ≤ B) (hBw : B ≤ w.heap.size) : Below W.heap.size W w1 :=
  hb.grown hg (by omega) (fun j hj => Nat.le_trans hB (ho.lt j hj).1)
/-- What a light policy is sure to be. -/
structure Few (p : Py) : Prop where
  n1 : p.stmts.length ≤ 30
  n2 : p.grow.length ≤ 30
  n3 : p.shrink.length ≤ 30
  n4 : p.asks.length ≤ 30
  n5 : ∀ q ∈ p.asks, q.who.length ≤ 40
theorem Few.fit {p : Py} (h : Few p) (c : Came p) : p.fit := ⟨by have := h.n1; omega, by have := h.n2; omega, by have := h.n3; omega, by have := h.n4; omega, c.f1, c.f2, c.f3, c.f4, fun q hq => by have := h.n5 q hq; omega⟩
def LightPost (p : Py) (w : World) (e : Ending) (w' : World) : Prop := ∃ b, e = .returned (.bool b) ∧ (b = true → Few p) ∧ Below w.heap.size w w'
set_option maxHeartbeats 2000000 in
set_option maxRecDepth 100000 in
theorem light (p : Py) (A1 A2 A3 A4 : Option Addr) (c1 c2 c3 c4 : Nat) (w : World) (hc : Came p) (hp : PG w A1 A2 A3 A4 p) : Calls Tryz.prog 7 #[p.val A1 A2 A3 A4 c1 c2 c3 c4] w (LightPost p w) := by
  obtain ⟨S, G, H, Q⟩ := p
  have HP := Lib.hid hp
  have HC := Lib.hid hc
  have m1 := hc.n1
  have m2 := hc.n2
  have m3 := hc.n3
  have m4 := hc.n4
  unfold maxLen at m1 m2 m3 m4
  simp only at m1 m2 m3 m4
  clear hp hc
  have HZ : Hid (∀ w', Below w.heap.size w w' → LightPost ⟨S, G, H, Q⟩ w (.returned (.bool false)) w') := Lib.hid (fun w' hb => ⟨false, rfl, (fun h => by cases h), hb⟩)
  show Calls _ _ #[.agg #[.slice A1 S.length c1, .slice A2 G.length c2, .slice A3 H.length c3, .slice A4 Q.length c4]] _ _
  have hbx : Below w.heap.size w (w.alloc (.cells #[.slice A1 S.length c1, .slice A2 G.length c2, .slice A3 H.length c3, .slice A4 Q.length c4] 26)) := (Below.refl _ _).alloc (Nat.le_refl _) _
  have HB0 := Lib.hid hbx
  have HX : Hid (∀ w', Below (w.alloc (.cells #[.slice A1 S.length c1, .slice A2 G.length c2, .slice A3 H.length c3, .slice A4 Q.length c4] 26)).heap.size (w.alloc (.cells #[.slice A1 S.length c1, .slice A2 G.length c2, .slice A3 H.length c3, .slice A4 Q.length c4] 26)) w' → ∀ o, w'.cell? ⟨w.heap.size, o, none⟩ = (#[.slice A1 S.length c1, .slice A2 G.length c2, .slice A3 H.length c3, .slice A4 Q.length c4] : Array Value)[o]?) := Lib.hid (fun w' hb o => Lib.cell_of_heap ((hb.block _ (by simp)).trans (heap_alloc_new w _)) o)
  clear hbx
  go_enter Tryz.func7, Tryz.ntmps7
  go_upto_region 1 with fail
  generalize w.alloc (.cells #[.slice A1 S.length c1, .slice A2 G.length c2, .slice A3 H.length c3, .slice A4 Q.length c4] 26) = w0 at *
  have c0 := HX.out w0 (Below.refl _ _)
  by_cases g1 : 30 < S.length
  · have d1 : decide ((30 : Int) < (S.length : Int)) = true := by simp; omega
    go_wp2_with fail
    go_ret
    exact HZ.out _ HB0.out
  have d1 : decide ((30 : Int) < (S.length : Int)) = false := by simp; omega
  by_cases g2 : 30 < G.length
  · have d2 : decide ((30 : Int) < (G.length : Int)) = true := by simp; omega
    go_wp2_with fail
    go_ret
    exact HZ.out _ HB0.out
  have d2 : decide ((30 : Int) < (G.length : Int)) = false := by simp; omega
  by_cases g3 : 30 < H.length
  · have d3 : decide ((30 : Int) < (H.length : Int)) = true := by simp; omega
    go_wp2_with fail
    go_ret
    exact HZ.out _ HB0.out
  have d3 : decide ((30 : Int) < (H.length : Int)) = false := by simp; omega
  by_cases g4 : 30 < Q.length
  · have d4 : decide ((30 : Int) < (Q.length : Int)) = true := by simp; omega
    go_wp2_with fail
    go_ret
    exact HZ.out _ HB0.out
  have d4 : decide ((30 : Int) < (Q.length : Int)) = false := by simp; omega
  go_wp2_with fail
  clear d1 d2 d3 d4 c0
  go_loopw [34] (fun i wr => ∃ j : Nat, j ≤ S.length ∧ i = .int .i64 j ∧ Below w0.heap.size w0 wr) (fun i _ => S.length - (intOf i).toNat)
  case atStart => exact ⟨0, by omega, rfl, Below.refl _ _⟩
  case round =>
    obtain ⟨j, hj, rfl, hb⟩ := hrel
    by_cases hlt : j < S.length
    · have e1 : decide ((j : Int) < S.length) = true := by simp; omega
      have p0 : (0 : Int) ≤ j := by omega
      have p1 : (j : Int) < S.length := by omega
      obtain ⟨g, o, rfl, hg, hcell⟩ := (HP.out.s.below (nx HB0.out hb)) (by show 0 < S.length; omega)
      obtain ⟨a0, a1, a2, a3, a4, a5, a6, a7, a8⟩ := hcell j hlt
      have HL := Lib.hid (fun w' => TblM.light S[j] w')
      simp only at a0 a1 a2 a3 a4 a5 a6 a7 a8
      have HBk := Lib.hid hb
      clear hcell hb
      generalize S[j] = s at *
      obtain ⟨k1, ⟨ho, hn⟩, wh, ⟨ao, an⟩, ⟨bo, bn⟩, v⟩ := s
      unfold St.val at HL
      simp only at a0 a1 a2 a3 a4 a5 a6 a7 a8 HL
      generalize TblM.lightS _ = l1 at *
      have cb : ∀ o, (wr.alloc (.cells #[.int .i64 k1, .string ho, .string hn, .string wh, .string ao, .string an, .string bo, .string bn, .string v] 46)).cell? ⟨wr.heap.size, o, none⟩ = (#[.int .i64 k1, .string ho, .string hn, .string wh, .string ao, .string an, .string bo, .string bn, .string v] : Array Value)[o]? := fun o => Lib.cell_of_heap (heap_alloc_new wr _) o
      have HBb := Lib.hid (nx HBk.out ((Below.refl wr.heap.size wr).alloc (Nat.le_refl _) (.cells #[.int .i64 k1, .string ho, .string hn, .string wh, .string ao, .string an, .string bo, .string bn, .string v] 46)))
      go_wp2_with fail
      refine (HL.out _).mono ?_
      rintro e w2 ⟨rfl, hg2⟩
      have HB2 := Lib.hid (nx HBb.out hg2.below)
      clear hg2 cb a0 a1 a2 a3 a4 a5 a6 a7 a8
      cases l1
      · go_wp2_with fail
        go_ret
        exact HZ.out _ (nx HB0.out HB2.out)
      · go_wp2_with fail
        go_roundw
        case rel => exact ⟨j + 1, by omega, by go_num, HB2.out⟩
        case measure => simp [intOf]; omega
    · have e1 : decide ((j : Int) < S.length) = false := by simp; omega
      have HBk := Lib.hid hb
      have c5 := HX.out wr hb
      clear hb
      go_wp2_with fail
      clear c5
      generalize wr = w5 at *
      go_loopw [45] (fun i wr => ∃ j : Nat, j ≤ Q.length ∧ i = .int .i64 j ∧ Hid (∀ q ∈ Q.take j, q.who.length ≤ 40) ∧ Below w0.heap.size w0 wr) (fun i _ => Q.length - (intOf i).toNat)
      case atStart => exact ⟨0, by omega, rfl, Lib.hid (by simp), HBk.out⟩
      case round =>
        clear HBk
        obtain ⟨j, hj, rfl, hw, hb⟩ := hrel
        by_cases hlt : j < Q.length
        · have e1 : decide ((j : Int) < Q.length) = true := by simp; omega
          have p0 : (0 : Int) ≤ j := by omega
          have p1 : (j : Int) < Q.length := by omega
          obtain ⟨g, o, rfl, hg, hcell⟩ := (HP.out.q.below (nx HB0.out hb)) (by show 0 < Q.length; omega)
          obtain ⟨B, cB, a0, a1, a2, a3, a4, a5, hrow⟩ := hcell j hlt
          simp only at a0 a1 a2 a3 a4 a5 hrow
          have HFq := Lib.hid (HC.out.f4 Q[j] (List.getElem_mem hlt))
          have HBk := Lib.hid hb
          have HW1 : Hid (Q[j].who.length ≤ 40 → ∀ q ∈ Q.take (j + 1), q.who.length ≤ 40) := Lib.hid (fun h q hq => by
            rw [List.take_succ_eq_append_getElem hlt, List.mem_append, List.mem_singleton] at hq
            rcases hq with hq | rfl
            · exact hw.out q hq
            · exact h)
          clear hcell hb hw
          generalize Q[j] = q at *
          have HBb := Lib.hid ((Below.refl wr.heap.size wr).alloc (Nat.le_refl _) (.cells #[.int .i64 q.kind, .string q.a.owner, .string q.a.name, .string q.b.owner, .string q.b.name, .slice B q.who.length cB] 49))
          have HL := Lib.hid (QryO.light q B cB (wr.alloc (.cells #[.int .i64 q.kind, .string q.a.owner, .string q.a.name, .string q.b.owner, .string q.b.name, .slice B q.who.length cB] 49)) HFq.out (hrow.keep HBb.out))
          have HQ1 : Hid (QryO.lightQ q = true → q.who.length ≤ 40) := Lib.hid (fun h => by
            unfold QryO.lightQ at h
            rw [Bool.and_eq_true] at h
            exact light40 h.1)
          obtain ⟨k1, ⟨ao, an⟩, ⟨bo, bn⟩, T⟩ := q
          unfold Qy.val at HL
          simp only at a0 a1 a2 a3 a4 a5 HL HBb HQ1 HW1
          generalize QryO.lightQ _ = l1 at *
          have cb : ∀ o, (wr.alloc (.cells #[.int .i64 k1, .string ao, .string an, .string bo, .string bn, .slice B T.length cB] 49)).cell? ⟨wr.heap.size, o, none⟩ = (#[.int .i64 k1, .string ao, .string an, .string bo, .string bn, .slice B T.length cB] : Array Value)[o]? := fun o => Lib.cell_of_heap (heap_alloc_new wr _) o
          clear hrow HFq
          go_wp2_with fail
          refine HL.out.mono ?_
          rintro e w2 ⟨rfl, hg2⟩
          have HB2 := Lib.hid (nx HBk.out (nx HBb.out hg2.below))
          clear hg2 cb a0 a1 a2 a3 a4 a5 HL
          cases l1
          · go_wp2_with fail
            go_ret
            exact HZ.out _ (nx HB0.out HB2.out)
          · have HW2 := Lib.hid (HW1.out (HQ1.out rfl))
            go_wp2_with fail
            go_roundw
            case rel => exact ⟨j + 1, by omega, by go_num, HW2, HB2.out⟩
            case measure => simp [intOf]; omega
        · have e1 : decide ((j : Int) < Q.length) = false := by simp; omega
          have HFew : Hid (Few ⟨S, G, H, Q⟩) := Lib.hid ⟨by show S.length ≤ 30; omega, by show G.length ≤ 30; omega, by show H.length ≤ 30; omega, by show Q.length ≤ 30; omega, fun q hq => hw.out q (by rw [List.take_of_length_le (by omega)]; exact hq)⟩
          have HBk := Lib.hid hb
          have c6 := HX.out wr hb
          clear hb hw
          go_upto_region 15 with fail
          have hbA : Below w0.heap.size w0 (wr.alloc (.cells #[] 44)).drew := (HBk.out.alloc HBk.out.size _).drew
          have hd0 : ∀ o, wr.drew.cell? ⟨w.heap.size, o, none⟩ = (#[.slice A1 S.length c1, .slice A2 G.length c2, .slice A3 H.length c3, .slice A4 Q.length c4] : Array Value)[o]? := c6
          have hd1 : ∀ o, ((wr.alloc (.cells #[] 44)).drew).cell? ⟨w.heap.size, o, none⟩ = (#[.slice A1 S.length c1, .slice A2 G.length c2, .slice A3 H.length c3, .slice A4 Q.length c4] : Array Value)[o]? := HX.out _ hbA
          have hown0 : ((wr.alloc (.cells #[] 44)).drew).ownsRow wr.heap.size 44 2 (.slice (some ⟨wr.heap.size, 0, none⟩) 0 0) 0 [] := SynC.own_empty wr _ 2
          have HO0 := Lib.hid hown0
          have hG := HP.out.g.below (nx HB0.out hbA)
          have hH := HP.out.h.below (nx HB0.out hbA)
          simp only at hG hH
          have HG := Lib.hid hG
          have HH := Lib.hid hH
          have hwl : w.heap.size < wr.heap.size := by
            have := HBk.out.size
            have h2 := (HX.out w0 (Below.refl _ _) 0)
            have h3 : w0.cell? ⟨w.heap.size, 0, none⟩ = some (.slice A1 S.length c1) := h2
            have := World.block_lt_of_cell? _ _ h3
            simp only at this
            omega
          have HSz : Hid (wr.heap.size ≤ ((wr.alloc (.cells #[] 44)).drew).heap.size) := Lib.hid (by show wr.heap.size ≤ (wr.alloc _).heap.size; simp)
          have HN2 := Lib.hid (rg_none hG)
          have HN3 := Lib.hid (rg_none hH)
          have HBA := Lib.hid hbA
          obtain ⟨i0, hi, hz0, hz1, hz2⟩ := info_parts SynJ.infoRole
          clear hown0 hG hH hbA
          go_region_held3 (fun w' => ∀ o, w'.cell? ⟨w.heap.size, o, none⟩ = (#[.slice A1 S.length c1, .slice A2 G.length c2, .slice A3 H.length c3, .slice A4 Q.length c4] : Array Value)[o]?)
            (first | with_reducible assumption)
            (first | (refine step_append_from _ rfl (.tmp 53) (.tmp 55) 23 rfl wr.heap.size 44 i0 (.agg #[.string ⟨#[]⟩, .string ⟨#[]⟩]) 2 32 Tryz.underlying23 hi hz0 hz1 hz2 rfl (by decide) (.slice (some ⟨wr.heap.size, 0, none⟩) 0 0) 0 [] (by simp [Act.eval]) HO0.out A2 G.length c2 (rcells G) (by simp [Act.eval]) (rcells_len G) HN2.out (rg_cells HG.out) (rcells_one G) (by unfold maxLen; omega) (by omega) (by show wr.heap.size ≤ (wr.alloc _).heap.size; simp) ?_; intro v1 w1 hown1 hg1; have hs1 := Nat.le_trans HSz.out hg1.size; have hb1 := Lib.hid (below_grown HBA.out HO0.out hg1 HBk.out.size (by show wr.heap.size ≤ (wr.alloc _).heap.size; simp)); have hd2 := HX.out _ hb1.out)
                   | (refine step_append_from _ rfl (.tmp 56) (.tmp 58) 23 rfl wr.heap.size 44 i0 (.agg #[.string ⟨#[]⟩, .string ⟨#[]⟩]) 2 32 Tryz.underlying23 hi hz0 hz1 hz2 rfl (by decide) v1 (0 + G.length) ([] ++ rcells G) (by simp [Act.eval]) hown1 A3 H.length c3 (rcells H) (by simp [Act.eval]) (rcells_len H) HN3.out (rg_cells (HP.out.h.below (nx HB0.out hb1.out))) (rcells_one H) (by unfold maxLen; omega) (by omega) hs1 ?_; intro v2 w2 hown2 hg2; obtain ⟨A5, c5, rfl⟩ := own_n hown2; have hb2 := Lib.hid (below_grown hb1.out hown1 hg2 HBk.out.size hs1); have hd3 := HX.out _ hb2.out))
          obtain ⟨T, hT⟩ : ∃ T, T = G ++ H := ⟨_, rfl⟩
          have hTl : T.length = 0 + G.length + H.length := by rw [hT]; simp
          have hTr : rcells T = [] ++ rcells G ++ rcells H := by rw [hT, rcells_app]; simp
          rw [← hTl, ← hTr] at hown2
          rw [← hTl]
          have hRT := PolK.rg_of_own hown2
          have HRT := Lib.hid hRT
          have HB2 := hb2
          have hT60 : T.length ≤ 60 := by omega
          clear hb1 hb2 hd0 hd1 hd2 hd3 hown1 hg1 hown2 hg2 hTr hT hRT c6 hs1
          go_wp2_with fail
          go_loopw [61] (fun i wr => ∃ j : Nat, j ≤ T.length ∧ i = .int .i64 j ∧ Below w2.heap.size w2 wr) (fun i _ => T.length - (intOf i).toNat)
          case atStart => exact ⟨0, by omega, rfl, Below.refl _ _⟩
          case round =>
            obtain ⟨j, hj, rfl, hb⟩ := hrel
            have HBF := Lib.hid (nx (nx HB0.out HB2.out) hb)
            by_cases hlt : j < T.length
            · have e1 : decide ((j : Int) < T.length) = true := by simp; omega
              have e2 : decide ((j : Int) < (G.length : Int) + (H.length : Int)) = true := by simp; omega
              have p2 : (j : Int) < (G.length : Int) + (H.length : Int) := by omega
              have p0 : (0 : Int) ≤ j := by omega
              have p1 : (j : Int) < T.length := by omega
              obtain ⟨g, o, rfl, hg, hcell⟩ := (HRT.out.below hb) (by omega)
              obtain ⟨a0, a1⟩ := hcell j hlt
              have HBk := Lib.hid (nx hb ((Below.refl wr.heap.size wr).alloc (Nat.le_refl _) (.cells #[.string T[j].owner, .string T[j].name] 44)))
              have HBG := Lib.hid (nx HBF.out ((Below.refl wr.heap.size wr).alloc (Nat.le_refl _) (.cells #[.string T[j].owner, .string T[j].name] 44)))
              clear hcell hb
              generalize T[j].owner = x at *
              generalize T[j].name = y at *
              by_cases q1 : 40 < x.size
              · have f1 : decide ((40 : Int) < (x.size : Int)) = true := by simp; omega
                go_wp2_with fail
                go_ret
                exact HZ.out _ HBG.out
              · have f1 : decide ((40 : Int) < (x.size : Int)) = false := by simp; omega
                by_cases q2 : 40 < y.size
                · have f2 : decide ((40 : Int) < (y.size : Int)) = true := by simp; omega
                  go_wp2_with fail
                  go_ret
                  exact HZ.out _ HBG.out
                · have f2 : decide ((40 : Int) < (y.size : Int)) = false := by simp; omega
                  go_wp2_with fail
                  go_roundw
                  case rel => exact ⟨j + 1, by omega, by go_num, HBk.out⟩
                  case measure => simp [intOf]; omega
            · have e1 : decide ((j : Int) < T.length) = false := by simp; omega
              have e2 : decide ((j : Int) < (G.length : Int) + (H.length : Int)) = false := by simp; omega
              clear hb
              go_wp2_with fail
              go_ret
              exact ⟨true, rfl, fun _ => HFew.out, HBF.out⟩
end Go.Proofs.YtkmpbkgmdfeicaaGreat.PolLi
/- strings.Builder at this translation: a written builder's copy is refused there, so that the contracts of the library's shelf do not fit; these are walked anew. -/
namespace Go.Proofs.YtkmpbkgmdfeicaaGreat.Build
set_option linter.unusedVariables false
set_option linter.unusedSimpArgs false
open Go.RowKit
theorem sizeB : (Tryz.prog.info? 61).map (fun i => i.size) = some 2 := by kernel_rfl
theorem infoByte : (Tryz.prog.info? 5).map (fun i => (i.zero, i.size, i.bytes)) = some (some (.int .u8 0), 1, 1) := by kernel_rfl
theorem lies : liesAt Tryz.prog Tryz.prog.depth 61 (2 / Tryz.prog.cellsOf 61) 0 61 1 = true := by kernel_rfl
abbrev OK := Lib.OthersKept 5
abbrev IsB := Lib.IsBuilder 61 5
abbrev BAt := Lib.BuilderAt 61 5
theorem ownBlock_typed {w : World} {B : Nat} {e : TypeId} {size n : Nat} {v : Value} {xs : List Value} (h : w.ownsRow B e size v n xs) {g : Nat} (hg : v.ownBlock = some g) : ∃ c fz, w.heap[g]? = some (.cells c e fz) := by
  rcases h.2 with ⟨rfl, _⟩ | ⟨g', cap, cur, rfl, _, hh, _⟩
  · simp [Value.ownBlock] at hg
  · have : g' = g := by simpa [Value.ownBlock] using hg
    subst this
    exact ⟨_, _, hh⟩
theorem BAt.alloc {B b : Nat} {p : Value} {bs : List Value} {w : World} (h : BAt B b p bs w) (o : Obj) : BAt B b p bs (w.alloc o) := by
  have hlt := Lib.BuilderAt.lt h
  obtain ⟨hB, v, hbk, hown, hne⟩ := h
  exact ⟨hB, v, by rw [Lib.alloc_old w o b hlt]; exact hbk, hown.alloc o, hne⟩
theorem IsB.alloc {B b : Nat} {bs : List Value} {w : World} (h : IsB B b bs w) (o : Obj) : IsB B b bs (w.alloc o) := by
  rcases h with h | h
  · exact .inl (BAt.alloc h o)
  · exact .inr (BAt.alloc h o)
theorem IsB.lt {B b : Nat} {bs : List Value} {w : World} (h : IsB B b bs w) : b < w.heap.size := by
  rcases h with h | h <;> exact Lib.BuilderAt.lt h
/-- A variable's block above the builder, kept by its writers. -/
theorem OK.cells {b k : Nat} {w w' : World} {cs : Array Value} {t : TypeId} {fz : Nat × Nat} (h : OK (some b) w w') (hk : w.heap[k]? = some (.cells cs t fz)) (hb : k ≠ b) (ht : t ≠ 5) : w'.heap[k]? = some (.cells cs t fz) :=
  h k _ hk (fun e => hb (by injection e)) (fun c f e => ht (by injection e))
set_option maxRecDepth 100000 in
theorem copyCheck_used (b : Nat) (w : World) (h0 : w.cell? ⟨b, 0, none⟩ = some (.pointer (some ⟨b, 0, none⟩))) :
    Calls Tryz.prog 83 #[.pointer (some ⟨b, 0, none⟩)] w fun e w' => e = .returned (.tuple #[]) ∧ w = w' := by
  obtain ⟨j, hj, _⟩ := Option.map_eq_some_iff.1 sizeB
  go_enter Tryz.func83, Tryz.ntmps83
  go_wp2
  rw [Lib.run_neq_ptr_same w _ Tryz.underlying59 hj]
  go_wp2
  go_end0
  exact ⟨rfl, rfl⟩
set_option maxRecDepth 100000 in
theorem copyCheck_fresh (b : Nat) (w : World) (h0 : w.cell? ⟨b, 0, none⟩ = some (.pointer none)) (hsh : w.shape? b = some (61, 2)) (hfz : w.frozen? ⟨b, 0, none⟩ = false) :
    Calls Tryz.prog 83 #[.pointer (some ⟨b, 0, none⟩)] w fun e w' => e = .returned (.tuple #[]) ∧ w' = w.setCell ⟨b, 0, none⟩ (.pointer (some ⟨b, 0, none⟩)) := by
  obtain ⟨j, hj, hjs⟩ := Option.map_eq_some_iff.1 sizeB
  go_enter Tryz.func83, Tryz.ntmps83
  go_wp2
  rw [Lib.run_to_unsafe w ⟨b, 0, none⟩ Tryz.underlying59 Tryz.underlying137 hj (by rw [hjs]; decide) hsh (Nat.zero_lt_succ 1)]
  simp only [Result.andThen]
  rw [Oper.upon_value]
  go_wp2
  rw [run_callFunc_extern Tryz.func133 (by kernel_rfl) (by kernel_rfl) (by kernel_rfl) (e := Extern.AbiNoEscape.same) (by kernel_rfl)]
  rw [Lib.run_noEscape]
  simp only [Result.andThen]
  rw [Oper.upon_value]
  go_wp2
  rw [Lib.run_from_unsafe w ⟨b, 0, none⟩ Tryz.underlying137 Tryz.underlying59 hj hsh lies]
  simp only [Result.andThen]
  rw [Oper.upon_value]
  go_wp2
  go_end0
  exact ⟨rfl, rfl⟩
theorem copyCheck (B b : Nat) (bs : List Value) (w : World) (h : IsB B b bs w) :
    Calls Tryz.prog 83 #[.pointer (some ⟨b, 0, none⟩)] w fun e w' => e = .returned (.tuple #[]) ∧ BAt B b (.pointer (some ⟨b, 0, none⟩)) bs w' ∧ Below B w w' ∧ OK (some b) w w' := by
  rcases h with h | h
  · refine (copyCheck_fresh b w h.cell0 h.shape h.frozen0).mono ?_
    rintro e w' ⟨rfl, rfl⟩
    exact ⟨rfl, h.used _, (Below.refl B w).setCell (p := ⟨b, 0, none⟩) h.1 _, (Lib.OthersKept.refl _ _ w).setCell ⟨b, 0, none⟩ rfl _⟩
  · refine (copyCheck_used b w h.cell0).mono ?_
    rintro e w' ⟨rfl, rfl⟩
    exact ⟨rfl, h, Below.refl B _, Lib.OthersKept.refl _ _ _⟩
set_option maxRecDepth 100000 in
theorem writeString (B b : Nat) (bs : List Value) (s : ByteArray) (w : World) (h : IsB B b bs w) (hlen : bs.length + s.size ≤ 140737488355328) (hBw : B ≤ w.heap.size) :
    Calls Tryz.prog 40 #[.pointer (some ⟨b, 0, none⟩), .string s] w fun e w' => e = .returned (.tuple #[.int .i64 s.size, .nilIface]) ∧ BAt B b (.pointer (some ⟨b, 0, none⟩)) (bs ++ Lib.strCells s) w' ∧ Below B w w' ∧ OK (some b) w w' := by
  obtain ⟨i0, hi, hz0, hz1, hz2⟩ := info_parts infoByte
  go_enter Tryz.func40, Tryz.ntmps40
  go_wp2_with (go_at_call 83; refine (copyCheck B b bs _ h).mono ?_)
  rintro e w1 ⟨rfl, ⟨hB, v, hbk, hown, hne⟩, hb1, hk1⟩
  have c0 : w1.cell? ⟨b, 0, none⟩ = some (.pointer (some ⟨b, 0, none⟩)) := by rw [Lib.cell_of_heap hbk]; rfl
  have c1 : w1.cell? ⟨b, 1, none⟩ = some v := by rw [Lib.cell_of_heap hbk]; rfl
  go_wp2_with (at_builtin; refine Lib.wpList_append_own_string _ rfl _ _ 42 9 rfl B 5 i0 Tryz.underlying42 Tryz.underlying9 hi hz0 hz1 hz2 _ _ _ rfl hown s rfl ?c3 ?c4 ?c5 ?_)
  case c3 => unfold maxLen; omega
  case c4 => omega
  case c5 => have := hb1.size; omega
  intro v' w2 hown' hgrow _
  have hlt : b < w1.heap.size := Lib.BuilderAt.lt ⟨hB, v, hbk, hown, hne⟩
  have hb2 : w2.heap[b]? = some (.cells #[.pointer (some ⟨b, 0, none⟩), v] 61 (0, 0)) := by
    rw [hgrow.block b hlt (fun e => hne e.symm)]
    exact hbk
  have d0 : w2.cell? ⟨b, 0, none⟩ = some (.pointer (some ⟨b, 0, none⟩)) := by rw [Lib.cell_of_heap hb2]; rfl
  have d1 : w2.cell? ⟨b, 1, none⟩ = some v := by rw [Lib.cell_of_heap hb2]; rfl
  have f1 : w2.frozen? ⟨b, 1, none⟩ = false := Lib.frozen_of_heap hb2 1
  obtain ⟨ao, n', cap, rfl⟩ : ∃ ao n' cap, v' = .slice ao n' cap := by
    rcases hown'.2 with ⟨hv, _⟩ | ⟨g, cap, cur, hv, _⟩
    · exact ⟨_, _, _, hv⟩
    · exact ⟨_, _, _, hv⟩
  go_wp2
  go_ret2
  refine ⟨rfl, ?_, ?_, ?_⟩
  · exact Lib.BuilderAt.put hB hb2 (bs' := bs ++ Lib.strCells s) (by simpa [Lib.strCells_length] using hown') (by decide)
  · exact (hb1.grown hgrow (by have := hb1.size; omega) (fun k hk => (hown.lt k hk).1)).setCell (p := ⟨b, 1, none⟩) hB _
  · exact (hk1.grown hgrow (fun g hg => ownBlock_typed hown hg)).setCell ⟨b, 1, none⟩ rfl _
end Go.Proofs.YtkmpbkgmdfeicaaGreat.Build
/- The text of a policy that asks nothing: policy.Print, by contract. -/
namespace Go.Proofs.YtkmpbkgmdfeicaaGreat.PolV
set_option linter.unusedVariables false
set_option linter.unusedSimpArgs false
open Go.RowKit Go.Sort Go.Lib Go.Proofs Go.Proofs.YtkmpbkgmdfeicaaGreat.Plain Go.Proofs.YtkmpbkgmdfeicaaGreat.SynP Go.Proofs.YtkmpbkgmdfeicaaGreat.TabP Go.Proofs.YtkmpbkgmdfeicaaGreat.Tab1 Go.Proofs.YtkmpbkgmdfeicaaGreat.Grown Go.Proofs.YtkmpbkgmdfeicaaGreat.SynS Go.Proofs.YtkmpbkgmdfeicaaGreat.SynL Go.Proofs.YtkmpbkgmdfeicaaGreat.SynJ Go.Proofs.YtkmpbkgmdfeicaaGreat.QryP Go.Proofs.YtkmpbkgmdfeicaaGreat.QryL Go.Proofs.YtkmpbkgmdfeicaaGreat.SynW Go.Proofs.YtkmpbkgmdfeicaaGreat.QryH Go.Proofs.YtkmpbkgmdfeicaaGreat.Build Go.Proofs.YtkmpbkgmdfeicaaGreat.PolA Go.Proofs.YtkmpbkgmdfeicaaGreat.PolE Go.Proofs.YtkmpbkgmdfeicaaGreat.PolG Go.Proofs.YtkmpbkgmdfeicaaGreat.PolM
set_option linter.unusedVariables false
set_option linter.unusedSimpArgs false
theorem BAt.below {B b : Nat} {p : Value} {bs : List Value} {w w' : World} (h : BAt B b p bs w) (hb : Below w.heap.size w w') : BAt B b p bs w' := by
  have hlt := Lib.BuilderAt.lt h
  obtain ⟨hB, v, hbk, hown, hne⟩ := h
  exact ⟨hB, v, (hb.block b hlt).trans hbk, own_at hown hb, hne⟩
theorem IsB.below {B b : Nat} {bs : List Value} {w w' : World} (h : IsB B b bs w) (hb : Below w.heap.size w w') : IsB B b bs w' := by
  rcases h with h | h
  · exact .inl (BAt.below h hb)
  · exact .inr (BAt.below h hb)
def joinL (T : List Str) : List UInt8 := Lib.join T [32] ++ [10]
set_option maxHeartbeats 1000000 in
set_option maxRecDepth 100000 in
theorem put (B b : Nat) (tx : List UInt8) (A : Option Addr) (c : Nat) (T : List Str) (w : World) (h0 : 0 < T.length) (hT : T.length ≤ 2) (hs : ∀ s ∈ T, s.length ≤ 1000) (hc : T.length ≤ c) (hA : SRow w A T) (hb : IsB B b (Lib.byteCells tx) w) (hB : B ≤ w.heap.size) (hl : tx.length ≤ 10000000) (hj : (Lib.join T [32]).length ≤ 10000) :
    Calls Tryz.prog 39 #[.slice A T.length c, .pointer (some ⟨b, 0, none⟩)] w fun e w' => e = .returned (.tuple #[]) ∧ IsB B b (Lib.byteCells (tx ++ joinL T)) w' ∧ Below B w w' := by
  have HJ := Lib.hid (joinS A c T w h0 (by omega) hs hc hA)
  have HBs := Lib.hid hb
  unfold joinL
  generalize Lib.join T [32] = J at *
  have hsz : (⟨J.toArray⟩ : ByteArray).size = J.length := by show J.toArray.size = _; simp
  have hadd : ((⟨J.toArray⟩ : ByteArray) ++ (⟨#[10]⟩ : ByteArray)).data.toList = J ++ [10] := by simp
  have hsz2 : ((⟨J.toArray⟩ : ByteArray) ++ (⟨#[10]⟩ : ByteArray)).size = J.length + 1 := by
    have := congrArg List.length hadd
    rw [toList_len] at this
    simpa using this
  generalize hX : (⟨J.toArray⟩ : ByteArray) = X at *
  have HX := Lib.hid (And.intro hadd hsz2)
  have hx : ¬ (9223372036854775807 < X.size + (⟨#[10]⟩ : ByteArray).size) := by rw [hsz]; show ¬ (9223372036854775807 < J.length + 1); omega
  clear hX hadd hsz2 hb hA hsz
  go_enter Tryz.func39, Tryz.ntmps39
  go_wp2_with fail
  refine HJ.out.mono ?_
  rintro e w1 ⟨rfl, hb1⟩
  have HB1 := Lib.hid (IsB.below HBs.out hb1)
  have hz := hb1.size
  have HW := Lib.hid (writeString B b (Lib.byteCells tx) (X ++ ⟨#[10]⟩) w1 HB1.out (by rw [Lib.byteCells_length, HX.out.2]; omega) (by omega))
  have HBl := Lib.hid (hb1.mono hB)
  clear hb1
  go_wp2_with fail
  refine HW.out.mono ?_
  rintro e w2 ⟨rfl, hba, hb2, _⟩
  have hfin : IsB B b (Lib.byteCells (tx ++ (J ++ [10]))) w2 := .inr (by rw [Lib.byteCells_append, ← HX.out.1]; exact hba)
  have hbl2 := HBl.out.trans hb2
  clear hba hb2
  go_wp2_with fail
  go_end0
  exact ⟨rfl, hfin, hbl2⟩
def txS (L : List St) (k : Nat) : List UInt8 := ((L.take k).map fun s => bs (line s) ++ [10]).flatten
def txR (word : List UInt8) (L : List Rl) (k : Nat) : List UInt8 := ((L.take k).map fun r => word ++ [32] ++ bs (textR r) ++ [10]).flatten
theorem txS_succ {L : List St} {k : Nat} (h : k < L.length) : txS L (k + 1) = txS L k ++ (bs (line L[k]) ++ [10]) := by
  unfold txS
  rw [List.take_succ_eq_append_getElem h, List.map_append, List.flatten_append, List.map_singleton, List.flatten_singleton]
theorem txR_succ {word : List UInt8} {L : List Rl} {k : Nat} (h : k < L.length) : txR word L (k + 1) = txR word L k ++ (word ++ [32] ++ bs (textR L[k]) ++ [10]) := by
  unfold txR
  rw [List.take_succ_eq_append_getElem h, List.map_append, List.flatten_append, List.map_singleton, List.flatten_singleton]
set_option maxRecDepth 100000 in
theorem txS_len {L : List St} (hs : ∀ s ∈ L, (bs (line s)).length ≤ 900) : ∀ k, (txS L k).length ≤ k * 1000
  | 0 => by simp [txS]
  | k + 1 => by
    have ih := txS_len hs k
    rcases Nat.lt_or_ge k L.length with h | h
    · have := hs L[k] (List.getElem_mem _)
      rw [txS_succ h]; simp; omega
    · have : txS L (k + 1) = txS L k := by unfold txS; rw [List.take_of_length_le (by omega), List.take_of_length_le (by omega)]
      rw [this]; omega
set_option maxRecDepth 100000 in
theorem txR_len {word : List UInt8} {L : List Rl} (hw : word.length ≤ 6) (hs : ∀ r ∈ L, (bs (textR r)).length ≤ 900) : ∀ k, (txR word L k).length ≤ k * 1000
  | 0 => by simp [txR]
  | k + 1 => by
    have ih := txR_len hw hs k
    rcases Nat.lt_or_ge k L.length with h | h
    · have := hs L[k] (List.getElem_mem _)
      rw [txR_succ h]; simp; omega
    · have : txR word L (k + 1) = txR word L k := by unfold txR; rw [List.take_of_length_le (by omega), List.take_of_length_le (by omega)]
      rw [this]; omega
theorem join_one (x : Str) : joinL [x] = x ++ [10] := by unfold joinL; simp [Lib.join]
theorem join_two (x y : Str) : joinL [x, y] = x ++ [32] ++ y ++ [10] := by unfold joinL; simp [Lib.join]
theorem srow_one (X : World) {n : Nat} (hn : X.heap.size = n) (x : ByteArray) : SRow (X.alloc (.cells #[.string x] 9)) (some ⟨n, 0, none⟩) [bs x] := by
  subst hn
  intro _
  refine ⟨X.heap.size, 0, rfl, by simp, fun j hj => ?_⟩
  rw [Nat.zero_add, Lib.cell_of_heap (heap_alloc_new X _)]
  match j, hj with
  | 0, _ => show some (Value.string x) = some (Value.string ⟨(bs x).toArray⟩); rw [← bs_of]
/-- The text of such a policy. -/
def textP (S : List St) (G H : List Rl) : List UInt8 := txS S S.length ++ txR [103, 114, 111, 119] G G.length ++ txR [115, 104, 114, 105, 110, 107] H H.length
def SmallP (S : List St) (G H : List Rl) : Prop := (∀ s ∈ S, (bs (line s)).length ≤ 900) ∧ (∀ r ∈ G, r.owner.size ≤ 400 ∧ r.name.size ≤ 400) ∧ (∀ r ∈ H, r.owner.size ≤ 400 ∧ r.name.size ≤ 400)
theorem textR_small {r : Rl} (h : r.owner.size ≤ 400 ∧ r.name.size ≤ 400) : (bs (textR r)).length ≤ 900 := by
  have : (bs (textR r)).length = (textR r).size := toList_len _
  rw [this]
  unfold textR
  have e : (⟨#[46]⟩ : ByteArray).size = 1 := rfl
  simp; omega
set_option maxHeartbeats 2000000 in
set_option maxRecDepth 100000 in
theorem print (A1 A2 A3 A4 : Option Addr) (c1 c2 c3 c4 : Nat) (S : List St) (G H : List Rl) (w : World) (hf : Py.fit ⟨S, G, H, []⟩) (hp : PG w A1 A2 A3 A4 ⟨S, G, H, []⟩) (hr : rightP ⟨S, G, H, []⟩ = true) (hsm : SmallP S G H) :
    Calls Tryz.prog 13 #[.agg #[.slice A1 S.length c1, .slice A2 G.length c2, .slice A3 H.length c3, .slice A4 0 c4]] w fun e w' => e = .returned (.string ⟨(textP S G H).toArray⟩) ∧ Below w.heap.size w w' := by
  have hR : ∀ w', PG w' A1 A2 A3 A4 ⟨S, G, H, []⟩ → Calls Tryz.prog 9 #[.agg #[.slice A1 S.length c1, .slice A2 G.length c2, .slice A3 H.length c3, .slice A4 0 c4]] w' fun e w'' => e = .returned (.bool true) ∧ Below w'.heap.size w' w'' := fun w' h => by rw [← hr]; exact right ⟨S, G, H, []⟩ A1 A2 A3 A4 c1 c2 c3 c4 w' hf h
  have HR := Lib.hid hR
  have HP := Lib.hid (fun (w' : World) (h : Below w.heap.size w w') => hp.below h)
  have n1 : S.length ≤ 1000 := hf.n1
  have n2 : G.length ≤ 1000 := hf.n2
  have n3 : H.length ≤ 1000 := hf.n3
  have HFS := Lib.hid (fun s h => hf.f1 s h)
  simp only at HFS
  obtain ⟨k1, k2, k3⟩ := hsm
  have HK1 := Lib.hid k1
  have HK2 := Lib.hid k2
  have HK3 := Lib.hid k3
  have L1 := txS_len k1
  have L2 := txR_len (word := [103, 114, 111, 119]) (by simp) (fun r h => textR_small (k2 r h))
  have L3 := txR_len (word := [115, 104, 114, 105, 110, 107]) (by simp) (fun r h => textR_small (k3 r h))
  have HL1 := Lib.hid L1
  have HL2 := Lib.hid L2
  have HL3 := Lib.hid L3
  have hb0 := (Below.refl w.heap.size w).alloc (Nat.le_refl _) (.cells #[.slice A1 S.length c1, .slice A2 G.length c2, .slice A3 H.length c3, .slice A4 0 c4] 26)
  have HB0 := Lib.hid hb0
  obtain ⟨TT, hTT⟩ : ∃ TT, textP S G H = TT := ⟨_, rfl⟩
  rw [hTT]
  have HTT := Lib.hid hTT
  clear hR hp hf k1 k2 k3 hr L1 L2 L3 hb0 hTT
  go_enter Tryz.func13, Tryz.ntmps13
  go_wp2_with fail
  refine (HR.out _ (HP.out _ HB0.out)).mono ?_
  rintro e w1 ⟨rfl, hb1⟩
  have z1 : w.heap.size + 1 ≤ w1.heap.size := by have := hb1.size; simpa using this
  have hcP1 : ∀ o, w1.cell? ⟨w.heap.size, o, none⟩ = (#[.slice A1 S.length c1, .slice A2 G.length c2, .slice A3 H.length c3, .slice A4 0 c4] : Array Value)[o]? := fun o => by rw [hb1.cell (by simp), Lib.cell_of_heap (heap_alloc_new w _)]
  have hlw : Below w.heap.size w w1 := HB0.out.trans (hb1.mono (by simp))
  have HLw := Lib.hid hlw
  have HCP := Lib.hid (fun (wr : World) (h : Below w1.heap.size w1 wr) (o : Nat) => (h.cell (p := ⟨w.heap.size, o, none⟩) (by show w.heap.size < _; omega)).trans (hcP1 o))
  have hcB := Lib.hid (Lib.fresh_isBuilder 61 5 w1)
  have HCB := hcB
  clear hcP1 hlw
  have hcP := HCP.out _ ((Below.refl _ w1).alloc (Nat.le_refl _) (.cells #[.pointer none, .slice none 0 0] 61))
  go_wp2_with fail
  clear hcP
  go_loopw [20] (fun i wr => ∃ k : Nat, k ≤ S.length ∧ i = .int .i64 k ∧ Hid (IsB w1.heap.size w1.heap.size (Lib.byteCells (txS S k)) wr) ∧ Below w1.heap.size w1 wr) (fun i _ => S.length - (intOf i).toNat)
  case atStart => exact ⟨0, by omega, rfl, by simpa [txS, Lib.byteCells] using hcB, (Below.refl _ _).alloc (Nat.le_refl _) _⟩
  case round =>
    obtain ⟨k, hk, rfl, hB, hbel⟩ := hrel
    have zr := hbel.size
    by_cases hlt : k < S.length
    · have d1 : decide ((k : Int) < S.length) = true := by simp; omega
      have p1 : (0 : Int) ≤ k := by omega
      have p2 : (k : Int) < S.length := by omega
      obtain ⟨g, o, e1, hg, hc⟩ := (HP.out _ (HLw.out.trans (hbel.mono (by omega)))).s (by show 0 < S.length; omega)
      obtain rfl := e1
      obtain ⟨a0, a1, a2, a3, a4, a5, a6, a7, a8⟩ := hc k hlt
      have hPr : ∀ w', Calls Tryz.prog 42 #[.agg #[.int .i64 S[k].kind, .string S[k].head.owner, .string S[k].head.name, .string S[k].who, .string S[k].a.owner, .string S[k].a.name, .string S[k].b.owner, .string S[k].b.name, .string S[k].via]] w' fun e w'' => e = .returned (.string (line S[k])) ∧ Grew w' w'' := fun w' => SynL.print S[k] w' (HFS.out _ (List.getElem_mem _))
      have hsz := HK1.out _ (List.getElem_mem hlt)
      have Htx : Hid (txS S (k + 1) = txS S k ++ joinL [bs (line S[k])]) := Lib.hid (by rw [txS_succ hlt, join_one])
      have hln := HL1.out k
      obtain ⟨X, hX⟩ : ∃ X, line S[k] = X := ⟨_, rfl⟩
      rw [hX] at hPr hsz Htx
      have HPr := Lib.hid hPr
      have hz1 := hbel.alloc zr (.cells #[.int .i64 S[k].kind, .string S[k].head.owner, .string S[k].head.name, .string S[k].who, .string S[k].a.owner, .string S[k].a.name, .string S[k].b.owner, .string S[k].b.name, .string S[k].via] 46)
      have hB1 := Lib.hid (IsB.below hB.out ((Below.refl _ wr).alloc (Nat.le_refl _) (.cells #[.int .i64 S[k].kind, .string S[k].head.owner, .string S[k].head.name, .string S[k].who, .string S[k].a.owner, .string S[k].a.name, .string S[k].b.owner, .string S[k].b.name, .string S[k].via] 46)))
      clear hc hPr hX hB
      go_wp2_with fail
      refine (HPr.out _).mono ?_
      rintro e w2 ⟨rfl, hg2⟩
      have hb2 := hg2.below
      have hb3 := hz1.trans (hb2.mono hz1.size)
      have HS := Lib.hid (srow_one w2 rfl X)
      have hb4 := hb3.alloc hb3.size (.cells #[.string X] 9)
      have hB4 := IsB.below (IsB.below hB1.out hb2) ((Below.refl _ w2).alloc (Nat.le_refl _) (.cells #[.string X] 9))
      have HPut := Lib.hid (put w1.heap.size w1.heap.size (txS S k) (some ⟨w2.heap.size, 0, none⟩) 1 [bs X] _ (by simp) (by simp) (by intro s hs; simp at hs; subst hs; omega) (by simp) HS.out hB4 hb4.size (by omega) (by simp [Lib.join]; omega))
      have HB4 := Lib.hid hb4
      clear hg2 hb2 hb3 hz1 hB4 hb4 hbel hsz
      go_wp2_with fail
      refine HPut.out.mono ?_
      rintro e w3 ⟨rfl, hB5, hb5⟩
      have hB6 : Hid (IsB w1.heap.size w1.heap.size (Lib.byteCells (txS S (k + 1))) w3) := Lib.hid (by rw [Htx.out]; exact hB5)
      have hb6 := HB4.out.trans hb5
      clear hB5 hb5
      go_wp2_with fail
      go_roundw
      case rel => exact ⟨k + 1, by omega, by go_num, hB6, hb6⟩
      case measure => simp [intOf]; omega
    · have d1 : decide ((k : Int) < S.length) = false := by simp; omega
      have hkS : k = S.length := by omega
      subst hkS
      have hcP := HCP.out _ hbel
      have HB := hB
      have HBl := Lib.hid hbel
      have hln := HL1.out S.length
      clear hB
      obtain ⟨T1, hT1⟩ : ∃ T1, txS S S.length = T1 := ⟨_, rfl⟩
      rw [hT1] at HB hln
      have HT1 := Lib.hid hT1
      have hl1 : T1.length ≤ 1000000 := by omega
      clear hT1 hln
      go_wp2_with fail
      clear hcP
      go_loopw [33] (fun i wr => ∃ k : Nat, k ≤ G.length ∧ i = .int .i64 k ∧ Hid (IsB w1.heap.size w1.heap.size (Lib.byteCells (T1 ++ txR [103, 114, 111, 119] G k)) wr) ∧ Below w1.heap.size w1 wr) (fun i _ => G.length - (intOf i).toNat)
      case atStart => exact ⟨0, by omega, rfl, by simpa [txR] using HB, HBl.out⟩
      case round =>
        obtain ⟨k, hk, rfl, hB, hbel⟩ := hrel
        have zr := hbel.size
        by_cases hlt : k < G.length
        · have d1 : decide ((k : Int) < G.length) = true := by simp; omega
          have p1 : (0 : Int) ≤ k := by omega
          have p2 : (k : Int) < G.length := by omega
          obtain ⟨g, o, e1, hg, hc⟩ := (HP.out _ (HLw.out.trans (hbel.mono (by omega)))).g (by show 0 < G.length; omega)
          obtain rfl := e1
          obtain ⟨a0, a1⟩ := hc k hlt
          have hPr : ∀ w', Calls Tryz.prog 43 #[.agg #[.string G[k].owner, .string G[k].name]] w' fun e w'' => e = .returned (.string (textR G[k])) ∧ Grew w' w'' := fun w' => SynL.printRole' G[k].owner G[k].name w' (by have := (HK2.out _ (List.getElem_mem hlt)).1; omega) (by have := (HK2.out _ (List.getElem_mem hlt)).2; omega)
          have hsz := textR_small (HK2.out _ (List.getElem_mem hlt))
          have Htx : Hid (txR [103, 114, 111, 119] G (k + 1) = txR [103, 114, 111, 119] G k ++ joinL [bs (⟨#[103, 114, 111, 119]⟩ : ByteArray), bs (textR G[k])]) := Lib.hid (by rw [txR_succ hlt, join_two]; rfl)
          have hln := HL2.out k
          obtain ⟨X, hX⟩ : ∃ X, textR G[k] = X := ⟨_, rfl⟩
          rw [hX] at hPr hsz Htx
          have HPr := Lib.hid hPr
          have hz1 := hbel.alloc zr (.cells #[.string G[k].owner, .string G[k].name] 44)
          have hB1 := Lib.hid (IsB.below hB.out ((Below.refl _ wr).alloc (Nat.le_refl _) (.cells #[.string G[k].owner, .string G[k].name] 44)))
          clear hc hPr hX hB
          go_wp2_with fail
          refine (HPr.out _).mono ?_
          rintro e w2 ⟨rfl, hg2⟩
          have hb2 := hg2.below
          have hb3 := hz1.trans (hb2.mono hz1.size)
          have HS := Lib.hid (srow_two w2 (⟨#[103, 114, 111, 119]⟩ : ByteArray) X)
          have hb4 := hb3.alloc hb3.size (.cells #[.string (⟨#[103, 114, 111, 119]⟩ : ByteArray), .string X] 9)
          have hB4 := IsB.below (IsB.below hB1.out hb2) ((Below.refl _ w2).alloc (Nat.le_refl _) (.cells #[.string (⟨#[103, 114, 111, 119]⟩ : ByteArray), .string X] 9))
          have HPut := Lib.hid (put w1.heap.size w1.heap.size (T1 ++ txR [103, 114, 111, 119] G k) (some ⟨w2.heap.size, 0, none⟩) 2 [bs (⟨#[103, 114, 111, 119]⟩ : ByteArray), bs X] _ (by simp) (by simp) (by intro s hs; simp at hs; rcases hs with rfl | rfl; (show 4 ≤ 1000; omega); omega) (by simp) HS.out hB4 hb4.size (by simp only [List.length_append]; omega) (by simp [Lib.join]; show 4 + _ ≤ _; omega))
          have HB4 := Lib.hid hb4
          clear hg2 hb2 hb3 hz1 hB4 hb4 hbel hsz
          go_wp2_with fail
          refine HPut.out.mono ?_
          rintro e w3 ⟨rfl, hB5, hb5⟩
          have hB6 : Hid (IsB w1.heap.size w1.heap.size (Lib.byteCells (T1 ++ txR [103, 114, 111, 119] G (k + 1))) w3) := Lib.hid (by rw [Htx.out, ← List.append_assoc]; exact hB5)
          have hb6 := HB4.out.trans hb5
          clear hB5 hb5
          go_wp2_with fail
          go_roundw
          case rel => exact ⟨k + 1, by omega, by go_num, hB6, hb6⟩
          case measure => simp [intOf]; omega
        · have d1 : decide ((k : Int) < G.length) = false := by simp; omega
          have hkS : k = G.length := by omega
          subst hkS
          have hcP := HCP.out _ hbel
          have HB := hB
          have HBl := Lib.hid hbel
          have hln := HL2.out G.length
          clear hB
          obtain ⟨T2, hT2⟩ : ∃ T2, T1 ++ txR [103, 114, 111, 119] G G.length = T2 := ⟨_, rfl⟩
          rw [hT2] at HB
          have HT2 := Lib.hid hT2
          have hl2 : T2.length ≤ 2000000 := by rw [← hT2]; simp only [List.length_append]; omega
          clear hT2 hln
          go_wp2_with fail
          clear hcP
          go_loopw [46] (fun i wr => ∃ k : Nat, k ≤ H.length ∧ i = .int .i64 k ∧ Hid (IsB w1.heap.size w1.heap.size (Lib.byteCells (T2 ++ txR [115, 104, 114, 105, 110, 107] H k)) wr) ∧ Below w1.heap.size w1 wr) (fun i _ => H.length - (intOf i).toNat)
          case atStart => exact ⟨0, by omega, rfl, by simpa [txR] using HB, HBl.out⟩
          case round =>
            obtain ⟨k, hk, rfl, hB, hbel⟩ := hrel
            have zr := hbel.size
            by_cases hlt : k < H.length
            · have d1 : decide ((k : Int) < H.length) = true := by simp; omega
              have p1 : (0 : Int) ≤ k := by omega
              have p2 : (k : Int) < H.length := by omega
              obtain ⟨g, o, e1, hg, hc⟩ := (HP.out _ (HLw.out.trans (hbel.mono (by omega)))).h (by show 0 < H.length; omega)
              obtain rfl := e1
              obtain ⟨a0, a1⟩ := hc k hlt
              have hPr : ∀ w', Calls Tryz.prog 43 #[.agg #[.string H[k].owner, .string H[k].name]] w' fun e w'' => e = .returned (.string (textR H[k])) ∧ Grew w' w'' := fun w' => SynL.printRole' H[k].owner H[k].name w' (by have := (HK3.out _ (List.getElem_mem hlt)).1; omega) (by have := (HK3.out _ (List.getElem_mem hlt)).2; omega)
              have hsz := textR_small (HK3.out _ (List.getElem_mem hlt))
              have Htx : Hid (txR [115, 104, 114, 105, 110, 107] H (k + 1) = txR [115, 104, 114, 105, 110, 107] H k ++ joinL [bs (⟨#[115, 104, 114, 105, 110, 107]⟩ : ByteArray), bs (textR H[k])]) := Lib.hid (by rw [txR_succ hlt, join_two]; rfl)
              have hln := HL3.out k
              obtain ⟨X, hX⟩ : ∃ X, textR H[k] = X := ⟨_, rfl⟩
              rw [hX] at hPr hsz Htx
              have HPr := Lib.hid hPr
              have hz1 := hbel.alloc zr (.cells #[.string H[k].owner, .string H[k].name] 44)
              have hB1 := Lib.hid (IsB.below hB.out ((Below.refl _ wr).alloc (Nat.le_refl _) (.cells #[.string H[k].owner, .string H[k].name] 44)))
              clear hc hPr hX hB
              go_wp2_with fail
              refine (HPr.out _).mono ?_
              rintro e w2 ⟨rfl, hg2⟩
              have hb2 := hg2.below
              have hb3 := hz1.trans (hb2.mono hz1.size)
              have HS := Lib.hid (srow_two w2 (⟨#[115, 104, 114, 105, 110, 107]⟩ : ByteArray) X)
              have hb4 := hb3.alloc hb3.size (.cells #[.string (⟨#[115, 104, 114, 105, 110, 107]⟩ : ByteArray), .string X] 9)
              have hB4 := IsB.below (IsB.below hB1.out hb2) ((Below.refl _ w2).alloc (Nat.le_refl _) (.cells #[.string (⟨#[115, 104, 114, 105, 110, 107]⟩ : ByteArray), .string X] 9))
              have HPut := Lib.hid (put w1.heap.size w1.heap.size (T2 ++ txR [115, 104, 114, 105, 110, 107] H k) (some ⟨w2.heap.size, 0, none⟩) 2 [bs (⟨#[115, 104, 114, 105, 110, 107]⟩ : ByteArray), bs X] _ (by simp) (by simp) (by intro s hs; simp at hs; rcases hs with rfl | rfl; (show 6 ≤ 1000; omega); omega) (by simp) HS.out hB4 hb4.size (by simp only [List.length_append]; omega) (by simp [Lib.join]; show 6 + _ ≤ _; omega))
              have HB4 := Lib.hid hb4
              clear hg2 hb2 hb3 hz1 hB4 hb4 hbel hsz
              go_wp2_with fail
              refine HPut.out.mono ?_
              rintro e w3 ⟨rfl, hB5, hb5⟩
              have hB6 : Hid (IsB w1.heap.size w1.heap.size (Lib.byteCells (T2 ++ txR [115, 104, 114, 105, 110, 107] H (k + 1))) w3) := Lib.hid (by rw [Htx.out, ← List.append_assoc]; exact hB5)
              have hb6 := HB4.out.trans hb5
              clear hB5 hb5
              go_wp2_with fail
              go_roundw
              case rel => exact ⟨k + 1, by omega, by go_num, hB6, hb6⟩
              case measure => simp [intOf]; omega
            · have d1 : decide ((k : Int) < H.length) = false := by simp; omega
              have hkS : k = H.length := by omega
              subst hkS
              have hcP := HCP.out _ hbel
              have HB := hB
              have HBl := Lib.hid hbel
              have hln := HL3.out H.length
              clear hB
              have hfin : Hid (T2 ++ txR [115, 104, 114, 105, 110, 107] H H.length = TT) := Lib.hid (by rw [← HTT.out, ← HT2.out, ← HT1.out]; rfl)
              rw [hfin.out] at HB
              clear hln
              go_wp2_with fail
              clear hcP
              go_loopw [59] (fun i wx => i = .int .i64 0 ∧ wx = wr) (fun _ _ => 0)
              case atStart => exact ⟨rfl, rfl⟩
              case round =>
                obtain ⟨rfl, rfl⟩ := hrel
                have HSt := Lib.hid (Tryz.Builder_String_any _ _ _ _ HB.out HBl.out.size)
                go_wp2_with fail
                refine HSt.out.mono ?_
                rintro e w4 ⟨rfl, hb4⟩
                have hbf := HLw.out.trans ((HBl.out.trans hb4).mono (by omega : w.heap.size ≤ w1.heap.size))
                clear hb4
                go_wp2_with fail
                go_ret
                exact ⟨rfl, hbf⟩
end Go.Proofs.YtkmpbkgmdfeicaaGreat.PolV
/- The document's example of a policy. -/
namespace Go.Proofs.YtkmpbkgmdfeicaaGreat.PolLv
set_option linter.unusedVariables false
set_option linter.unusedSimpArgs false
open Go.RowKit Go.Sort Go.Lib Go.Proofs Go.Proofs.YtkmpbkgmdfeicaaGreat.Plain Go.Proofs.YtkmpbkgmdfeicaaGreat.SynP Go.Proofs.YtkmpbkgmdfeicaaGreat.TabP Go.Proofs.YtkmpbkgmdfeicaaGreat.Tab1 Go.Proofs.YtkmpbkgmdfeicaaGreat.Grown Go.Proofs.YtkmpbkgmdfeicaaGreat.Lines1 Go.Proofs.YtkmpbkgmdfeicaaGreat.Scan3 Go.Proofs.YtkmpbkgmdfeicaaGreat.SynA Go.Proofs.YtkmpbkgmdfeicaaGreat.SynR Go.Proofs.YtkmpbkgmdfeicaaGreat.SynS Go.Proofs.YtkmpbkgmdfeicaaGreat.SynL Go.Proofs.YtkmpbkgmdfeicaaGreat.SynV Go.Proofs.YtkmpbkgmdfeicaaGreat.SynY Go.Proofs.YtkmpbkgmdfeicaaGreat.SynJ Go.Proofs.YtkmpbkgmdfeicaaGreat.QryP Go.Proofs.YtkmpbkgmdfeicaaGreat.QryL Go.Proofs.YtkmpbkgmdfeicaaGreat.QryX Go.Proofs.YtkmpbkgmdfeicaaGreat.PolA Go.Proofs.YtkmpbkgmdfeicaaGreat.PolD Go.Proofs.YtkmpbkgmdfeicaaGreat.PolE Go.Proofs.YtkmpbkgmdfeicaaGreat.PolG Go.Proofs.YtkmpbkgmdfeicaaGreat.PolI Go.Proofs.YtkmpbkgmdfeicaaGreat.PolM Go.Proofs.YtkmpbkgmdfeicaaGreat.PolP Go.Proofs.YtkmpbkgmdfeicaaGreat.PolR Go.Proofs.YtkmpbkgmdfeicaaGreat.PolT Go.Proofs.YtkmpbkgmdfeicaaGreat.PolU Go.Proofs.YtkmpbkgmdfeicaaGreat.PolV
set_option linter.unusedVariables false
set_option linter.unusedSimpArgs false
def exT : ByteArray := ⟨#[103, 114, 111, 119, 32, 65, 46, 114, 10, 65, 46, 114, 32, 60, 45, 32, 66, 10, 65, 46, 114, 32, 60, 45, 32, 66, 32, 35, 32, 116, 119, 105, 99, 101, 10]⟩
def exR : Rl := ⟨⟨#[65]⟩, ⟨#[114]⟩⟩
def exS : St := ⟨1, exR, ⟨#[66]⟩, zeroR, zeroR, noText⟩
theorem ex_lines : linesOf exT = [[103, 114, 111, 119, 32, 65, 46, 114], [65, 46, 114, 32, 60, 45, 32, 66], [65, 46, 114, 32, 60, 45, 32, 66, 32, 35, 32, 116, 119, 105, 99, 101]] := by decide +kernel
theorem ex_a1 : ansOf (ln [103, 114, 111, 119, 32, 65, 46, 114]) = .ok [⟨2, ⟨#[103, 114, 111, 119]⟩, 1⟩, ⟨1, ⟨#[65]⟩, 6⟩, ⟨3, ⟨#[46]⟩, 7⟩, ⟨2, ⟨#[114]⟩, 8⟩] := by kernel_rfl
theorem ex_a2 : ansOf (ln [65, 46, 114, 32, 60, 45, 32, 66]) = .ok [⟨1, ⟨#[65]⟩, 1⟩, ⟨3, ⟨#[46]⟩, 2⟩, ⟨2, ⟨#[114]⟩, 3⟩, ⟨4, ⟨#[60, 45]⟩, 5⟩, ⟨1, ⟨#[66]⟩, 8⟩] := by kernel_rfl
theorem ex_a3 : ansOf (ln [65, 46, 114, 32, 60, 45, 32, 66, 32, 35, 32, 116, 119, 105, 99, 101]) = .ok [⟨1, ⟨#[65]⟩, 1⟩, ⟨3, ⟨#[46]⟩, 2⟩, ⟨2, ⟨#[114]⟩, 3⟩, ⟨4, ⟨#[60, 45]⟩, 5⟩, ⟨1, ⟨#[66]⟩, 8⟩] := by kernel_rfl
theorem ex_p : parseA (.ok [⟨1, ⟨#[65]⟩, 1⟩, ⟨3, ⟨#[46]⟩, 2⟩, ⟨2, ⟨#[114]⟩, 3⟩, ⟨4, ⟨#[60, 45]⟩, 5⟩, ⟨1, ⟨#[66]⟩, 8⟩]) = (exS, 0, 0) := by kernel_rfl
def e1 : Dr := ⟨[], [exR], []⟩
def e2 : Dr := ⟨[exS], [exR], []⟩
theorem ex_r1 : addR d0 [⟨2, ⟨#[103, 114, 111, 119]⟩, 1⟩, ⟨1, ⟨#[65]⟩, 6⟩, ⟨3, ⟨#[46]⟩, 7⟩, ⟨2, ⟨#[114]⟩, 8⟩] = (e1, 0, 0) := by kernel_rfl
theorem ex_r2 : addR e1 [⟨1, ⟨#[65]⟩, 1⟩, ⟨3, ⟨#[46]⟩, 2⟩, ⟨2, ⟨#[114]⟩, 3⟩, ⟨4, ⟨#[60, 45]⟩, 5⟩, ⟨1, ⟨#[66]⟩, 8⟩] = (e2, 0, 0) := by kernel_rfl
theorem ex_r3 : addR e2 [⟨1, ⟨#[65]⟩, 1⟩, ⟨3, ⟨#[46]⟩, 2⟩, ⟨2, ⟨#[114]⟩, 3⟩, ⟨4, ⟨#[60, 45]⟩, 5⟩, ⟨1, ⟨#[66]⟩, 8⟩] = (e2, 0, 0) := by kernel_rfl
theorem ex_f1 : fitsP e1.py = true := by decide +kernel
theorem ex_f2 : fitsP e2.py = true := by
  have h1 : (tab (PolH.prinsT e2.py)).length ≤ 16 := Nat.le_trans (tab_len_le _) (by decide +kernel)
  have h2 : (tab (PolH.namesT e2.py)).length ≤ 12 := Nat.le_trans (tab_len_le _) (by decide +kernel)
  have h3 : e2.py.stmts.length ≤ 80 := by decide
  have h4 : e2.py.grow.length ≤ 40 := by decide
  have h5 : e2.py.shrink.length ≤ 40 := by decide
  have h6 : e2.py.asks.length ≤ 16 := by decide
  unfold fitsP
  rw [decide_eq_true h1, decide_eq_true h2, decide_eq_true h3, decide_eq_true h4, decide_eq_true h5, decide_eq_true h6]; rfl
theorem ex_m1 : addM d0 (ansOf (ln [103, 114, 111, 119, 32, 65, 46, 114])) = (e1, 0, 0) := by
  rw [ex_a1]
  show (if _ then _ else _) = _
  rw [ex_r1]
  exact if_neg (fun h => by have := h.2; rw [show fitsP (e1, (0 : Int), (0 : Int)).1.py = true from ex_f1] at this; cases this)
theorem ex_m2 : addM e1 (ansOf (ln [65, 46, 114, 32, 60, 45, 32, 66])) = (e2, 0, 0) := by
  rw [ex_a2]
  show (if _ then _ else _) = _
  rw [ex_r2]
  exact if_neg (fun h => by have := h.2; rw [show fitsP (e2, (0 : Int), (0 : Int)).1.py = true from ex_f2] at this; cases this)
theorem ex_m3 : addM e2 (ansOf (ln [65, 46, 114, 32, 60, 45, 32, 66, 32, 35, 32, 116, 119, 105, 99, 101])) = (e2, 0, 0) := by
  rw [ex_a3]
  show (if _ then _ else _) = _
  rw [ex_r3]
  exact if_neg (fun h => by have := h.2; rw [show fitsP (e2, (0 : Int), (0 : Int)).1.py = true from ex_f2] at this; cases this)
theorem fit_e (S : List St) (h : S = [] ∨ S = [exS]) : Py.fit ⟨S, [exR], [], []⟩ := by
  have hr : exR.light := ⟨by show 1 ≤ maxLen; unfold maxLen; omega, by show 1 ≤ maxLen; unfold maxLen; omega⟩
  have hz : zeroR.light := ⟨Nat.zero_le _, Nat.zero_le _⟩
  have hs : exS.fit := ⟨hr, by show 1 ≤ maxLen; unfold maxLen; omega, hz, hz, Nat.zero_le _⟩
  refine ⟨?_, by simp, by simp, by simp, ?_, ?_, by simp, by simp, by simp⟩
  · rcases h with rfl | rfl <;> simp
  · intro s hm
    rcases h with rfl | rfl
    · simp at hm
    · simp at hm; subst hm; exact hs
  · intro r hm; simp at hm; subst hm; exact hr
theorem ex_run : runM (linesOf exT) 0 d0 = (e2, 0, 0, 0) := by
  rw [ex_lines]
  unfold runM
  rw [ex_m1]
  simp only [if_true]
  unfold runM
  rw [ex_m2]
  simp only [if_true]
  unfold runM
  rw [ex_m3]
  simp only [if_true]
  rfl
theorem ex_fine : Fine (linesOf exT) d0 := by
  rw [ex_lines]
  refine ⟨by decide, ?_, fun _ => ?_⟩
  · rw [ex_a1]
    exact ⟨by decide +kernel, by decide, by decide, by decide, fun _ => by show Py.fit (addR d0 [⟨2, ⟨#[103, 114, 111, 119]⟩, 1⟩, ⟨1, ⟨#[65]⟩, 6⟩, ⟨3, ⟨#[46]⟩, 7⟩, ⟨2, ⟨#[114]⟩, 8⟩]).1.py; rw [ex_r1]; exact fit_e [] (.inl rfl)⟩
  · rw [ex_m1]
    refine ⟨by decide, ?_, fun _ => ?_⟩
    · rw [ex_a2]
      exact ⟨by decide +kernel, by decide, by decide, by decide, fun _ => by show Py.fit (addR e1 [⟨1, ⟨#[65]⟩, 1⟩, ⟨3, ⟨#[46]⟩, 2⟩, ⟨2, ⟨#[114]⟩, 3⟩, ⟨4, ⟨#[60, 45]⟩, 5⟩, ⟨1, ⟨#[66]⟩, 8⟩]).1.py; rw [ex_r2]; exact fit_e _ (.inr rfl)⟩
    · rw [ex_m2]
      refine ⟨by decide, ?_, fun _ => ?_⟩
      · rw [ex_a3]
        exact ⟨by decide +kernel, by decide, by decide, by decide, fun _ => by show Py.fit (addR e2 [⟨1, ⟨#[65]⟩, 1⟩, ⟨3, ⟨#[46]⟩, 2⟩, ⟨2, ⟨#[114]⟩, 3⟩, ⟨4, ⟨#[60, 45]⟩, 5⟩, ⟨1, ⟨#[66]⟩, 8⟩]).1.py; rw [ex_r3]; exact fit_e _ (.inr rfl)⟩
      · rw [ex_m3]
        exact ⟨by decide, by decide, by decide⟩
theorem ex_norm : sortSt (normS e2.s e2.s.length) = [exS] ∧ sortRl e2.g = [exR] ∧ sortRl e2.h = [] := by
  refine ⟨by decide +kernel, by decide +kernel, by decide +kernel⟩
theorem ex_right : rightP ⟨[exS], [exR], [], []⟩ = true := by
  have h : fitsP ⟨[exS], [exR], [], []⟩ = true := ex_f2
  unfold rightP
  rw [h]
  decide +kernel
theorem ex_text : textP [exS] [exR] [] = [65, 46, 114, 32, 60, 45, 32, 66, 10, 103, 114, 111, 119, 32, 65, 46, 114, 10] := by decide +kernel
theorem ex_small : SmallP [exS] [exR] [] := by
  refine ⟨?_, ?_, by simp⟩
  · intro s hs; simp at hs; subst hs; decide +kernel
  · intro r hr; simp at hr; subst hr; decide +kernel
end Go.Proofs.YtkmpbkgmdfeicaaGreat.PolLv
/- The document's example of a policy, by contract. -/
namespace Go.Proofs.YtkmpbkgmdfeicaaGreat.PolLw
set_option linter.unusedVariables false
set_option linter.unusedSimpArgs false
open Go.RowKit Go.Sort Go.Lib Go.Proofs Go.Proofs.YtkmpbkgmdfeicaaGreat.Plain Go.Proofs.YtkmpbkgmdfeicaaGreat.SynP Go.Proofs.YtkmpbkgmdfeicaaGreat.TabP Go.Proofs.YtkmpbkgmdfeicaaGreat.Tab1 Go.Proofs.YtkmpbkgmdfeicaaGreat.Grown Go.Proofs.YtkmpbkgmdfeicaaGreat.SynJ Go.Proofs.YtkmpbkgmdfeicaaGreat.QryP Go.Proofs.YtkmpbkgmdfeicaaGreat.PolA Go.Proofs.YtkmpbkgmdfeicaaGreat.PolD Go.Proofs.YtkmpbkgmdfeicaaGreat.PolE Go.Proofs.YtkmpbkgmdfeicaaGreat.PolG Go.Proofs.YtkmpbkgmdfeicaaGreat.PolM Go.Proofs.YtkmpbkgmdfeicaaGreat.PolU Go.Proofs.YtkmpbkgmdfeicaaGreat.PolV Go.Proofs.YtkmpbkgmdfeicaaGreat.PolLv
set_option linter.unusedVariables false
set_option linter.unusedSimpArgs false
def ExPost (w : World) (e : Ending) (w' : World) : Prop := ∃ B1 k1 B2 k2 B3 k3, e = .returned (.tuple #[.agg #[.slice B1 1 k1, .slice B2 1 k2, .slice B3 0 k3, .slice none 0 0], .agg #[.int .i64 0, .int .i64 0, .int .i64 0]]) ∧ PG w' B1 B2 B3 none ⟨[exS], [exR], [], []⟩ ∧ Below w.heap.size w w'
theorem ex_call (w : World) : Calls Tryz.prog 24 #[.string ⟨#[103, 114, 111, 119, 32, 65, 46, 114, 10, 65, 46, 114, 32, 60, 45, 32, 66, 10, 65, 46, 114, 32, 60, 45, 32, 66, 32, 35, 32, 116, 119, 105, 99, 101, 10]⟩] w (ExPost w) := by
  refine (parse exT w (by decide +kernel) ex_fine).mono fun e w' hp => ?_
  rw [ex_run] at hp
  unfold PolPost at hp
  rw [if_pos rfl] at hp
  obtain ⟨B1, k1, B2, k2, B3, k3, he, h1, h2, h3, hb⟩ := hp
  simp only at he h1 h2 h3
  rw [ex_norm.1, ex_norm.2.1, ex_norm.2.2] at he
  rw [ex_norm.1] at h1
  rw [ex_norm.2.1] at h2
  rw [ex_norm.2.2] at h3
  exact ⟨B1, k1, B2, k2, B3, k3, he, ⟨h1, h2, h3, fun hp => by simp at hp⟩, hb⟩
theorem fitE : Py.fit ⟨[exS], [exR], [], []⟩ := fit_e [exS] (.inr rfl)
set_option maxHeartbeats 1000000 in
set_option maxRecDepth 100000 in
theorem lives (w : World) : Calls Tryz.prog 8 #[] w fun e w' => e = .returned (.bool true) ∧ Below w.heap.size w w' := by
  have HC := Lib.hid (ex_call w)
  have hR : ∀ (B1 B2 B3 : Option Addr) (k1 k2 k3 : Nat) (w' : World), PG w' B1 B2 B3 none ⟨[exS], [exR], [], []⟩ → Calls Tryz.prog 9 #[.agg #[.slice B1 1 k1, .slice B2 1 k2, .slice B3 0 k3, .slice none 0 0]] w' fun e w'' => e = .returned (.bool true) ∧ Below w'.heap.size w' w'' := fun B1 B2 B3 k1 k2 k3 w' h => by
    rw [← ex_right]; exact right ⟨[exS], [exR], [], []⟩ B1 B2 B3 none k1 k2 k3 0 w' fitE h
  have hP : ∀ (B1 B2 B3 : Option Addr) (k1 k2 k3 : Nat) (w' : World), PG w' B1 B2 B3 none ⟨[exS], [exR], [], []⟩ → Calls Tryz.prog 13 #[.agg #[.slice B1 1 k1, .slice B2 1 k2, .slice B3 0 k3, .slice none 0 0]] w' fun e w'' => e = .returned (.string ⟨#[65, 46, 114, 32, 60, 45, 32, 66, 10, 103, 114, 111, 119, 32, 65, 46, 114, 10]⟩) ∧ Below w'.heap.size w' w'' := fun B1 B2 B3 k1 k2 k3 w' h => by
    have := print B1 B2 B3 none k1 k2 k3 0 [exS] [exR] [] w' fitE h ex_right ex_small
    rw [ex_text] at this
    exact this
  have HR := Lib.hid hR
  have HP := Lib.hid hP
  clear hR hP
  go_enter Tryz.func8, Tryz.ntmps8
  go_wp2_with fail
  refine HC.out.mono ?_
  rintro e w1 ⟨B1, k1, B2, k2, B3, k3, rfl, hpg, hb1⟩
  have z1 := hb1.size
  have hbx := ((Below.refl w1.heap.size w1).alloc (Nat.le_refl _) (.cells #[.slice B1 1 k1, .slice B2 1 k2, .slice B3 0 k3, .slice none 0 0] 26)).alloc (by simp) (.cells #[.int .i64 0, .int .i64 0, .int .i64 0] 37)
  have HPG := Lib.hid (hpg.below hbx)
  have HB := Lib.hid (hb1.trans (hbx.mono z1))
  clear hpg hb1 hbx
  go_wp2_with fail
  refine (HR.out B1 B2 B3 k1 k2 k3 _ HPG.out).mono ?_
  rintro e w2 ⟨rfl, hb2⟩
  have hc2 : ∀ o, w2.cell? ⟨w1.heap.size, o, none⟩ = (#[.slice B1 1 k1, .slice B2 1 k2, .slice B3 0 k3, .slice none 0 0] : Array Value)[o]? := fun o => by
    rw [hb2.cell (by show w1.heap.size < ((w1.alloc _).alloc _).heap.size; simp only [World.size_alloc]; omega), World.cell?_alloc_past _ _ _ (by simp), Lib.cell_of_heap (heap_alloc_new w1 _)]
  have HPG2 := Lib.hid (HPG.out.below hb2)
  have HB2 := Lib.hid (HB.out.trans (hb2.mono HB.out.size))
  clear hb2
  go_wp2_with fail
  refine (HP.out B1 B2 B3 k1 k2 k3 _ HPG2.out).mono ?_
  rintro e w3 ⟨rfl, hb3⟩
  have hb4 := HB2.out.trans (hb3.mono HB2.out.size)
  clear hb3
  go_wp2_with fail
  go_ret
  exact ⟨rfl, hb4⟩
end Go.Proofs.YtkmpbkgmdfeicaaGreat.PolLw
