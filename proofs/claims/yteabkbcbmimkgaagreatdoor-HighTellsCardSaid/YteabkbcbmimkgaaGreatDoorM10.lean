/- The normal form of a statement, in the program and in the document's answers. -/
import Derived.Test.YteabkbcbmimkgaaGreatDoorM06
import Derived.Test.YteabkbcbmimkgaaGreatDoorM04
import Derived.Test.YteabkbcbmimkgaaGreatDoorM09
import Derived.RegionTactic
import Derived.Deep.RegionHeld3
import Derived.Test.YteabkbcbmimkgaaGreatDoorM08
import Derived.ProofKit
import Derived.OpenShut
import Derived.ShutString
import Derived.ChangeOld
import Derived.Below
import Derived.Carry
set_option linter.unusedVariables false
set_option linter.unusedSimpArgs false
namespace Go.Proofs.YteabkbcbmimkgaaGreatDoor.Syn6
open Go.RowKit Go.Sort Go.Proofs Plain SynP Named RefN Grown Syn1 Syn2 Syn3 Syn4
end Go.Proofs.YteabkbcbmimkgaaGreatDoor.Syn6
namespace Go.Proofs.YteabkbcbmimkgaaGreatDoor.SynX
open Go.RowKit Go.Sort Go.Proofs Plain SynP SynQ Grown SynA SynC SynR SynW Scan3 Scan5 Syn4 SynS SynG SynU SynV
end Go.Proofs.YteabkbcbmimkgaaGreatDoor.SynX
namespace Go.Proofs.YteabkbcbmimkgaaGreatDoor.SynY
open Go.RowKit Go.Sort Go.Proofs Plain SynP SynQ Grown SynA SynC SynR SynW Scan3 Scan5 Syn4 Syn6 SynS SynG SynH SynU SynV SynX
end Go.Proofs.YteabkbcbmimkgaaGreatDoor.SynY
namespace Go.Proofs.YteabkbcbmimkgaaGreatDoor.SynZ
open Go.RowKit Plain SynP SynQ Scan2 Scan3 SynR SynW SynV SynX SynL Syn2 Syn3 Syn4
end Go.Proofs.YteabkbcbmimkgaaGreatDoor.SynZ
namespace Go.Proofs.YteabkbcbmimkgaaGreatDoor.SynN
open Go.RowKit Go.Sort Go.Proofs Plain SynP SynQ Grown SynW Scan3 Syn7 SynL SynX SynY SynZ
end Go.Proofs.YteabkbcbmimkgaaGreatDoor.SynN
namespace Go.Proofs.YteabkbcbmimkgaaGreatDoor.SynF
open Go.ChangeShapes Go.WideShapes Go.ChangeAt Go.RowKit
open Go.ChangeMaps (open_string shut_string)
open Plain SynP
set_option maxRecDepth 1000000
theorem cells9 : Tryz.prog.cellsOf 9 = 1 := by kernel_rfl
theorem cellsR : Tryz.prog.cellsOf 28 = 2 := by kernel_rfl
section
variable {H : Type} {enc : TypeId × Value → H} {w : World} {base : Nat} {spare : Nat → Bool} {held : Bool} {fuel : Nat} {cs : List Value} {x : DataW H × List MemPlace}
theorem some_at {α : Type} {xs : List α} {n i : Nat} (h : xs.length = n) (hi : i < n) : ∃ y, xs[i]? = some y := ⟨xs[i]'(by omega), List.getElem?_eq_getElem _⟩
theorem role_cells (h : DataW.trod enc Tryz.prog w base spare held fuel 28 cs = some x) : ∃ r : Rl, cs = [.string r.owner, .string r.name] ∧ r.light := by
  obtain ⟨xs, n, _, _, hl, hxl, hf⟩ := DataW.trod_struct Tryz.underlying28 h
  rw [cellsR] at hl
  match cs, hl with
  | [c0, c1], _ =>
    have h0 : DataW.trod enc Tryz.prog w base spare held n 9 (([c0, c1].drop 0).take (Tryz.prog.cellsOf 9)) = xs[0]? := hf 0 _ rfl
    have h1 : DataW.trod enc Tryz.prog w base spare held n 9 (([c0, c1].drop 1).take (Tryz.prog.cellsOf 9)) = xs[1]? := hf 1 _ rfl
    obtain ⟨y0, e0⟩ := some_at (i := 0) hxl (by decide)
    obtain ⟨y1, e1⟩ := some_at (i := 1) hxl (by decide)
    rw [e0] at h0
    rw [e1] at h1
    rw [cells9] at h0 h1
    obtain ⟨s0, a0, _, b0⟩ := DataW.trod_string Tryz.underlying9 h0
    obtain ⟨s1, a1, _, b1⟩ := DataW.trod_string Tryz.underlying9 h1
    simp at a0 a1
    subst a0; subst a1
    exact ⟨⟨s0, s1⟩, rfl, b0, b1⟩
end
end Go.Proofs.YteabkbcbmimkgaaGreatDoor.SynF
namespace Go.Proofs.YteabkbcbmimkgaaGreatDoor.SynM
open Go.RowKit Go.Sort Go.Proofs Plain SynP Grown Syn1
def textsOf (s : St) : List ByteArray := [s.who, s.via, s.head.owner, s.head.name, s.a.owner, s.a.name, s.b.owner, s.b.name]
def lightL (l : List ByteArray) : Bool := l.all fun x => decide (x.size ≤ 40)
def lightS (s : St) : Bool := lightL (textsOf s)
theorem light_no {l : List ByteArray} {k : Nat} (h : k < l.length) (hk : ¬ l[k].size ≤ 40) : lightL l = false := by
  unfold lightL
  rw [List.all_eq_false]
  exact ⟨l[k], List.getElem_mem _, by simp; omega⟩
theorem light_yes {l : List ByteArray} (h : ∀ k, (hk : k < l.length) → l[k].size ≤ 40) : lightL l = true := by
  unfold lightL
  rw [List.all_eq_true]
  intro x hx
  obtain ⟨k, hk, rfl⟩ := List.getElem_of_mem hx
  simpa using h k hk
set_option maxRecDepth 100000 in
theorem light (s : St) (w : World) : Calls Tryz.prog 81 #[s.val] w fun e w' => e = .returned (.bool (lightS s)) ∧ Grew w w' := by
  have hl : (textsOf s).length = 8 := rfl
  obtain ⟨k1, ⟨ho, hn⟩, wh, ⟨ao, an⟩, ⟨bo, bn⟩, v⟩ := s
  have hT : textsOf ⟨k1, ⟨ho, hn⟩, wh, ⟨ao, an⟩, ⟨bo, bn⟩, v⟩ = [wh, v, ho, hn, ao, an, bo, bn] := rfl
  unfold lightS
  unfold St.val
  go_enter Tryz.func81, Tryz.ntmps81
  go_wp2
  have hrow : ∀ k, (h : k < (textsOf ⟨k1, ⟨ho, hn⟩, wh, ⟨ao, an⟩, ⟨bo, bn⟩, v⟩).length) → ((w.alloc (.cells #[.int .i64 k1, .string ho, .string hn, .string wh, .string ao, .string an, .string bo, .string bn, .string v] 78)).alloc (.cells #[.string wh, .string v, .string ho, .string hn, .string ao, .string an, .string bo, .string bn] 9)).cell? ⟨w.heap.size + 1, k, none⟩ = some (.string (textsOf ⟨k1, ⟨ho, hn⟩, wh, ⟨ao, an⟩, ⟨bo, bn⟩, v⟩)[k]) := fun k h => by
    have := Lib.cell_of_heap (heap_alloc_new (w.alloc (.cells #[.int .i64 k1, .string ho, .string hn, .string wh, .string ao, .string an, .string bo, .string bn, .string v] 78)) (.cells #[.string wh, .string v, .string ho, .string hn, .string ao, .string an, .string bo, .string bn] 9)) k
    rw [World.size_alloc] at this
    rw [this]
    match k, h with
    | 0, _ => rfl
    | 1, _ => rfl
    | 2, _ => rfl
    | 3, _ => rfl
    | 4, _ => rfl
    | 5, _ => rfl
    | 6, _ => rfl
    | 7, _ => rfl
  clear hT
  have Hrow := Lib.hid hrow
  have Hl := Lib.hid hl
  clear hrow hl
  generalize hE : textsOf ⟨k1, ⟨ho, hn⟩, wh, ⟨ao, an⟩, ⟨bo, bn⟩, v⟩ = l at *
  have HE := Lib.hid hE
  clear hE
  go_loop [29] (fun i => ∃ k : Nat, k ≤ 8 ∧ i = .int .i64 k ∧ Hid (∀ j, (h : j < l.length) → j < k → l[j].size ≤ 40)) (fun i => 8 - (intOf i).toNat)
  case atStart => exact ⟨0, by omega, rfl, Lib.hid fun j _ hj => by omega⟩
  case round =>
    obtain ⟨k, hk, rfl, hall⟩ := hrel
    by_cases hlt : k < 8
    · have hkl : k < l.length := by rw [Hl.out]; exact hlt
      have hc := Hrow.out k hkl
      have p1 : (0 : Int) ≤ k := by omega
      have p2 : (k : Int) < 8 := by omega
      by_cases h40 : l[k].size ≤ 40
      · have hnext : Hid (∀ j, (h : j < l.length) → j < k + 1 → l[j].size ≤ 40) := Lib.hid fun j h hj => by
          by_cases e : j = k
          · subst e; exact h40
          · exact hall.out j h (by omega)
        clear hall
        go_wp2_with fail
        go_round
        case rel => exact ⟨k + 1, by omega, by go_num, hnext⟩
        case measure => simp [intOf]; omega
      · have hf := Lib.hid (light_no hkl h40)
        have h41 : 40 < l[k].size := by omega
        clear hall h40
        go_wp2_with fail
        go_ret
        exact ⟨ret_bool (by rw [HE.out]; exact hf.out.symm), ((Grew.refl _).alloc _).alloc _⟩
    · have hf := Lib.hid (light_yes (fun j h => hall.out j h (by rw [Hl.out] at h; omega)))
      clear hall
      go_wp2_with fail
      go_ret
      exact ⟨ret_bool (by rw [HE.out]; exact hf.out.symm), ((Grew.refl _).alloc _).alloc _⟩
end Go.Proofs.YteabkbcbmimkgaaGreatDoor.SynM
