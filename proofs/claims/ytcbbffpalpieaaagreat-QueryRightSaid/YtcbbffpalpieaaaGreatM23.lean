/- What an argument that is a query reads as. -/
import Derived.Test.YtcbbffpalpieaaaGreatM01
import Derived.Test.YtcbbffpalpieaaaGreatM02
import Derived.ProofKit
import Derived.OpenShut
import Derived.ShutString
import Derived.ChangeOld
import Derived.Below
import Derived.Carry
import Derived.SliceStrings
namespace Go.Proofs.YtcbbffpalpieaaaGreat.QryF
set_option linter.unusedVariables false
set_option linter.unusedSimpArgs false
open Go.ChangeShapes Go.WideShapes Go.ChangeAt Go.RowKit
open Go.ChangeMaps (open_string shut_string)
open Go.Proofs.YtcbbffpalpieaaaGreat.Plain Go.Proofs.YtcbbffpalpieaaaGreat.SynP Go.Proofs.YtcbbffpalpieaaaGreat.TabP Go.Proofs.YtcbbffpalpieaaaGreat.Tab1 Go.Proofs.YtcbbffpalpieaaaGreat.QryP
set_option maxRecDepth 1000000
theorem cells3 : Tryz.prog.cellsOf 3 = 1 := by kernel_rfl
theorem cells9 : Tryz.prog.cellsOf 9 = 1 := by kernel_rfl
theorem cellsW : Tryz.prog.cellsOf 24 = 1 := by kernel_rfl
theorem cellsR : Tryz.prog.cellsOf 23 = 2 := by kernel_rfl
theorem cellsQ : Tryz.prog.cellsOf 26 = 6 := by kernel_rfl
section
variable {H : Type} {enc : TypeId × Value → H} {w : World} {fuel : Nat} {cs : List Value} {x : DataW H × List MemPlace}
theorem some_at {α : Type} {xs : List α} {n i : Nat} (h : xs.length = n) (hi : i < n) : ∃ y, xs[i]? = some y := ⟨xs[i]'(by omega), List.getElem?_eq_getElem _⟩
theorem role_cells (h : DataW.trod enc Tryz.prog w 0 (fun _ => true) true fuel 23 cs = some x) : ∃ r : Rl, cs = [.string r.owner, .string r.name] ∧ r.light := by
  obtain ⟨xs, n, _, _, hl, hxl, hf⟩ := DataW.trod_struct Tryz.underlying23 h
  rw [cellsR] at hl
  match cs, hl with
  | [c0, c1], _ =>
    have h0 : DataW.trod enc Tryz.prog w 0 (fun _ => true) true n 9 (([c0, c1].drop 0).take (Tryz.prog.cellsOf 9)) = xs[0]? := hf 0 _ rfl
    have h1 : DataW.trod enc Tryz.prog w 0 (fun _ => true) true n 9 (([c0, c1].drop 1).take (Tryz.prog.cellsOf 9)) = xs[1]? := hf 1 _ rfl
    obtain ⟨y0, e0⟩ := some_at (i := 0) hxl (by decide)
    obtain ⟨y1, e1⟩ := some_at (i := 1) hxl (by decide)
    rw [e0] at h0
    rw [e1] at h1
    rw [cells9] at h0 h1
    obtain ⟨s0, a0, _, b0⟩ := DataW.trod_string Tryz.underlying9 h0
    obtain ⟨s1, a1, _, b1⟩ := DataW.trod_string Tryz.underlying9 h1
    simp at a0 a1
    subst a0; subst a1
    exact ⟨⟨s0, s1⟩, rfl, b0, b1⟩
theorem row_cells (h : DataW.trod enc Tryz.prog w 0 (fun _ => true) true fuel 24 cs = some x) : ∃ (A : Option Addr) (c : Nat) (T : List Str), cs = [.slice A T.length c] ∧ T.length ≤ maxLen ∧ (∀ s ∈ T, s.length ≤ maxLen) ∧ SRow w A T := by
  rcases open_strings Tryz.underlying24 Tryz.underlying9 cells9 h with ⟨hcs, hx⟩ | ⟨a, nn, cap, ss, hcs, _, hl, hm, hz, hx, hcell, hws⟩
  · exact ⟨none, 0, [], hcs, by simp, by simp, fun h => by simp at h⟩
  · have hzl : ss.length = cap := by simpa using hz
    have hl2 : ((ss.take nn).map (·.data.toList)).length = nn := by simp; omega
    refine ⟨some a, cap, (ss.take nn).map (·.data.toList), by rw [hl2]; exact hcs, by rw [hl2]; omega, ?_, ?_⟩
    · intro s hs
      obtain ⟨x, hx, rfl⟩ := List.mem_map.1 hs
      exact hws x (List.mem_of_mem_take hx)
    · by_cases h0 : 0 < nn
      · have h1 := hcell 0 (by omega)
        obtain ⟨b, off, spot⟩ := a
        have hspot : spot = none := by simpa [Addr.add] using World.cell?_spot h1
        subst hspot
        have hadd : ∀ i, ((⟨b, off, none⟩ : Addr).add i) = ⟨b, off + i, none⟩ := fun i => by
          unfold Addr.add
          split
          · rename_i h; subst h; rfl
          · simp
        have hb : b < w.heap.size := World.block_lt_of_cell? _ _ h1
        refine fun hp => ⟨b, off, rfl, hb, fun j hj => ?_⟩
        rw [hl2] at hj
        have hc := hcell j (by omega)
        rw [hadd] at hc
        rw [hc]
        simp
        rw [List.getElem?_eq_getElem (by omega)]; rfl
      · intro hp
        rw [hl2] at hp
        omega
theorem query_cells (h : DataW.trod enc Tryz.prog w 0 (fun _ => true) true fuel 26 cs = some x) : ∃ (q : Qy) (A : Option Addr) (c : Nat), cs = [.int .i64 q.kind, .string q.a.owner, .string q.a.name, .string q.b.owner, .string q.b.name, .slice A q.who.length c] ∧ q.fit ∧ SRow w A q.who := by
  obtain ⟨xs, n, _, _, hl, hxl, hf⟩ := DataW.trod_struct Tryz.underlying26 h
  rw [cellsQ] at hl
  match cs, hl with
  | [c0, c1, c2, c3, c4, c5], _ =>
    have h0 : DataW.trod enc Tryz.prog w 0 (fun _ => true) true n 3 (([c0, c1, c2, c3, c4, c5].drop 0).take (Tryz.prog.cellsOf 3)) = xs[0]? := hf 0 _ rfl
    have h1 : DataW.trod enc Tryz.prog w 0 (fun _ => true) true n 23 (([c0, c1, c2, c3, c4, c5].drop 1).take (Tryz.prog.cellsOf 23)) = xs[1]? := hf 1 _ rfl
    have h2 : DataW.trod enc Tryz.prog w 0 (fun _ => true) true n 23 (([c0, c1, c2, c3, c4, c5].drop 3).take (Tryz.prog.cellsOf 23)) = xs[2]? := hf 2 _ rfl
    have h3 : DataW.trod enc Tryz.prog w 0 (fun _ => true) true n 24 (([c0, c1, c2, c3, c4, c5].drop 5).take (Tryz.prog.cellsOf 24)) = xs[3]? := hf 3 _ rfl
    obtain ⟨y0, e0⟩ := some_at (i := 0) hxl (by decide)
    obtain ⟨y1, e1⟩ := some_at (i := 1) hxl (by decide)
    obtain ⟨y2, e2⟩ := some_at (i := 2) hxl (by decide)
    obtain ⟨y3, e3⟩ := some_at (i := 3) hxl (by decide)
    rw [e0] at h0
    rw [e1] at h1
    rw [e2] at h2
    rw [e3] at h3
    rw [cells3] at h0
    rw [cellsR] at h1 h2
    rw [cellsW] at h3
    obtain ⟨k, a0, _, _⟩ := DataW.trod_int Tryz.underlying3 h0
    obtain ⟨r1, a1, b1⟩ := role_cells h1
    obtain ⟨r2, a2, b2⟩ := role_cells h2
    obtain ⟨A, c, T, a3, b3, b4, b5⟩ := row_cells h3
    simp at a0 a1 a2 a3
    obtain ⟨a11, a12⟩ := a1
    obtain ⟨a21, a22⟩ := a2
    subst a0 a11 a12 a21 a22 a3
    exact ⟨⟨k, r1, r2, T⟩, A, c, rfl, ⟨b1, b2, b3, b4⟩, b5⟩
theorem open_query {r : Reach} {b0 : Nat} {v : Value} {d : DataW H} {p : List MemPlace} (hv : Value.okWide Tryz.prog w r b0 26 v) (h : DataW.Trod enc Tryz.prog w 0 (fun _ => true) true 26 v d p) : ∃ (q : Qy) (A : Option Addr) (c : Nat), v = q.val A c ∧ q.fit ∧ SRow w A q.who := by
  obtain ⟨cs, rfl, hsz⟩ := okWide_struct Tryz.underlying26 hv
  obtain ⟨fuel, hf⟩ := h
  obtain ⟨q, A, c, hs, hfit, hr⟩ := query_cells hf
  refine ⟨q, A, c, ?_, hfit, hr⟩
  have : cs.toList = [.int .i64 q.kind, .string q.a.owner, .string q.a.name, .string q.b.owner, .string q.b.name, .slice A q.who.length c] := by simpa [Value.cells] using hs
  obtain ⟨l⟩ := cs
  simp at this
  subst this
  rfl
end
end Go.Proofs.YtcbbffpalpieaaaGreat.QryF
