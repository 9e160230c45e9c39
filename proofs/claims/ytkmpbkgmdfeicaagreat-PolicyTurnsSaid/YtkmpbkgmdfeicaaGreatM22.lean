/- Are all of a row such as this: policy's each, at roles, statements and queries, by contract. -/
import Derived.Test.YtkmpbkgmdfeicaaGreatM20
import Derived.Test.YtkmpbkgmdfeicaaGreatM06
import Derived.Test.YtkmpbkgmdfeicaaGreatM14
import Derived.Test.YtkmpbkgmdfeicaaGreatM11
import Derived.Shelf.SlSortCmp.WholeK
import Derived.Test.YtkmpbkgmdfeicaaGreatShelf
import Derived.Sort.WalkB12
import Derived.Lib.SliceRun
import Derived.Deep.LoopGhost
import Derived.Deep.Draws
import Derived.Shelf.RegionOpenPlain
import Derived.Deep.MidRow
import Derived.Lib.LazyBuf
import Derived.Lib.AppendZeros
namespace Go.Proofs.YtkmpbkgmdfeicaaGreat.PolL
set_option linter.unusedVariables false
set_option linter.unusedSimpArgs false
open Go.RowKit Go.Sort Go.Lib Go.Proofs Go.Proofs.YtkmpbkgmdfeicaaGreat.Plain Go.Proofs.YtkmpbkgmdfeicaaGreat.SynP Go.Proofs.YtkmpbkgmdfeicaaGreat.TabP Go.Proofs.YtkmpbkgmdfeicaaGreat.Tab1 Go.Proofs.YtkmpbkgmdfeicaaGreat.Grown Go.Proofs.YtkmpbkgmdfeicaaGreat.SynC Go.Proofs.YtkmpbkgmdfeicaaGreat.SynV Go.Proofs.YtkmpbkgmdfeicaaGreat.SynJ Go.Proofs.YtkmpbkgmdfeicaaGreat.QryP Go.Proofs.YtkmpbkgmdfeicaaGreat.PolA Go.Proofs.YtkmpbkgmdfeicaaGreat.PolE Go.Proofs.YtkmpbkgmdfeicaaGreat.PolG Go.Proofs.YtkmpbkgmdfeicaaGreat.PolK
set_option linter.unusedVariables false
set_option linter.unusedSimpArgs false
theorem all_yes {α : Type} {p : α → Bool} {T : List α} (h : ∀ j, (hj : j < T.length) → p T[j] = true) : T.all p = true := List.all_eq_true.2 fun x hx => by
  obtain ⟨j, hj, rfl⟩ := List.getElem_of_mem hx
  exact h j hj
theorem all_no {α : Type} {p : α → Bool} {T : List α} {k : Nat} (hk : k < T.length) (h : p T[k] = false) : T.all p = false := List.all_eq_false.2 ⟨T[k], List.getElem_mem _, by simp [h]⟩
set_option maxRecDepth 100000 in
theorem fnR (x : Rl) (b : Nat) (w : World) (hf : x.light) (hb : w.heap[b]? = some (.cells #[.func (.func 73) #[] #[]] 54 (0, 0))) :
    Calls Tryz.prog 126 #[.agg #[.string x.owner, .string x.name], .pointer (some ⟨b, 0, none⟩)] w fun e w' => e = .returned (.bool (!Rl.ok x)) ∧ Below w.heap.size w w' := by
  have hI : ∀ w', Calls Tryz.prog 73 #[.agg #[.string x.owner, .string x.name]] w' fun e w'' => e = .returned (.bool (Rl.ok x)) ∧ Below w'.heap.size w' w'' := fun w' => (Syn4.isRole' x.owner x.name w' hf.1 hf.2).mono fun e w'' h => ⟨h.1, h.2.below⟩
  have HI := Lib.hid hI
  have hblt : b < w.heap.size := (Array.getElem?_eq_some_iff.1 hb).1
  have hcb : ∀ o, w.cell? ⟨b, o, none⟩ = (#[.func (.func 73) #[] #[]] : Array Value)[o]? := fun o => Lib.cell_of_heap hb o
  generalize Rl.ok x = r at *
  clear hI hb hf
  go_enter Tryz.func126, Tryz.ntmps126
  go_wp2_with fail
  refine (HI.out _).mono ?_
  rintro e w1 ⟨rfl, hb1⟩
  go_wp2_with fail
  go_ret
  exact ⟨rfl, ((Below.refl w.heap.size w).alloc (Nat.le_refl _) _).trans (hb1.mono (by simp))⟩
set_option maxHeartbeats 1000000 in
set_option maxRecDepth 100000 in
theorem idxR (A : Option Addr) (ca : Nat) (T : List Rl) (b : Nat) (w : World) (hT : T.length ≤ 10000) (hf : ∀ x ∈ T, x.light) (hA : RG w A T) (hb : w.heap[b]? = some (.cells #[.func (.func 73) #[] #[]] 54 (0, 0))) :
    Calls Tryz.prog 167 #[.slice A T.length ca, .func (.func 126) #[] #[.pointer (some ⟨b, 0, none⟩)]] w fun e w' => ∃ r : Int, e = .returned (.int .i64 r) ∧ decide (0 ≤ r) = !T.all Rl.ok ∧ Below w.heap.size w w' := by
  have HA := Lib.hid hA
  have HF := Lib.hid hf
  have hblt : b < w.heap.size := (Array.getElem?_eq_some_iff.1 hb).1
  have HBk := Lib.hid (fun (wr : World) (h : Below w.heap.size w wr) => (h.block b hblt).trans hb)
  clear hA hf hb
  go_enter Tryz.func167, Tryz.ntmps167
  go_wp2_with fail
  go_loopw [8] (fun i wr => ∃ k : Nat, k ≤ T.length ∧ i = .int .i64 k ∧ Hid (∀ j, j < k → (h : j < T.length) → Rl.ok T[j] = true) ∧ Below w.heap.size w wr) (fun i _ => T.length - (intOf i).toNat)
  case atStart => exact ⟨0, by omega, rfl, Lib.hid (fun j hj => by omega), Below.refl _ _⟩
  case round =>
    obtain ⟨k, hk, rfl, hall, hbel⟩ := hrel
    by_cases hlt : k < T.length
    · obtain ⟨g, o, rfl, hg, hc⟩ := (HA.out.below hbel) (by omega)
      obtain ⟨a0, a1⟩ := hc k hlt
      have H := Lib.hid (fnR T[k] b wr (HF.out _ (List.getElem_mem _)) (HBk.out _ hbel))
      have p1 : (0 : Int) ≤ k := by omega
      have p2 : (k : Int) < T.length := by omega
      have HB := Lib.hid hbel
      clear hc hbel
      cases hp : Rl.ok T[k]
      · rw [hp] at H
        have hfin := Lib.hid (show decide ((0 : Int) ≤ k) = !T.all Rl.ok by rw [decide_eq_true p1, all_no hlt hp]; rfl)
        clear hp hall
        go_wp2_with fail
        refine H.out.mono ?_
        rintro e w1 ⟨rfl, hb1⟩
        have hb2 := HB.out.trans (hb1.mono HB.out.size)
        clear hb1
        go_wp2_with fail
        go_ret
        exact ⟨k, rfl, hfin.out, hb2⟩
      · rw [hp] at H
        have hnext : Hid (∀ j, j < k + 1 → (h : j < T.length) → Rl.ok T[j] = true) := Lib.hid fun j hj h => by
          by_cases e : j = k
          · subst e; exact hp
          · exact hall.out j (by omega) h
        clear hp hall
        go_wp2_with fail
        refine H.out.mono ?_
        rintro e w1 ⟨rfl, hb1⟩
        have hb2 := HB.out.trans (hb1.mono HB.out.size)
        clear hb1
        go_wp2_with fail
        go_roundw
        case rel => exact ⟨k + 1, by omega, by go_num, hnext, hb2⟩
        case measure => simp [intOf]; omega
    · have hfin := Lib.hid (show decide ((0 : Int) ≤ -1) = !T.all Rl.ok by rw [all_yes fun j hj => hall.out j (by omega) hj]; rfl)
      have HB := Lib.hid hbel
      clear hall hbel
      go_wp2_with fail
      go_ret
      exact ⟨-1, rfl, hfin.out, HB.out⟩
set_option maxRecDepth 100000 in
theorem conR (A : Option Addr) (ca : Nat) (T : List Rl) (b : Nat) (w : World) (hT : T.length ≤ 10000) (hf : ∀ x ∈ T, x.light) (hA : RG w A T) (hb : w.heap[b]? = some (.cells #[.func (.func 73) #[] #[]] 54 (0, 0))) :
    Calls Tryz.prog 125 #[.slice A T.length ca, .func (.func 126) #[] #[.pointer (some ⟨b, 0, none⟩)]] w fun e w' => e = .returned (.bool (!T.all Rl.ok)) ∧ Below w.heap.size w w' := by
  have H := Lib.hid (idxR A ca T b w hT hf hA hb)
  generalize (!T.all Rl.ok) = r at *
  clear hf hA hb
  go_enter Tryz.func125, Tryz.ntmps125
  go_wp2_with fail
  refine H.out.mono ?_
  rintro e w1 ⟨i, rfl, hi, hb1⟩
  have HI := Lib.hid hi
  clear hi
  go_wp2_with fail
  go_ret
  exact ⟨ret_bool HI.out, hb1⟩
set_option maxRecDepth 100000 in
theorem eachR (A : Option Addr) (ca : Nat) (T : List Rl) (w : World) (hT : T.length ≤ 10000) (hf : ∀ x ∈ T, x.light) (hA : RG w A T) :
    Calls Tryz.prog 72 #[.slice A T.length ca, .func (.func 73) #[] #[]] w fun e w' => e = .returned (.bool (T.all Rl.ok)) ∧ Below w.heap.size w w' := by
  have hb0 := (Below.refl w.heap.size w).alloc (Nat.le_refl _) (.cells #[.func (.func 73) #[] #[]] 54)
  have H := Lib.hid (conR A ca T w.heap.size (w.alloc (.cells #[.func (.func 73) #[] #[]] 54)) hT hf (hA.below hb0) (heap_alloc_new w _))
  generalize T.all Rl.ok = r at *
  have HB0 := Lib.hid hb0
  clear hf hA hb0
  go_enter Tryz.func72, Tryz.ntmps72
  go_wp2_with fail
  refine H.out.mono ?_
  rintro e w1 ⟨rfl, hb1⟩
  have hb2 := HB0.out.trans (hb1.mono (by simp))
  clear hb1
  go_wp2_with fail
  go_ret
  exact ⟨ret_bool (by simp), hb2⟩
set_option maxRecDepth 100000 in
theorem fnS (x : St) (b : Nat) (w : World) (hf : x.fit) (hb : w.heap[b]? = some (.cells #[.func (.func 71) #[] #[]] 47 (0, 0))) :
    Calls Tryz.prog 122 #[.agg #[.int .i64 x.kind, .string x.head.owner, .string x.head.name, .string x.who, .string x.a.owner, .string x.a.name, .string x.b.owner, .string x.b.name, .string x.via], .pointer (some ⟨b, 0, none⟩)] w fun e w' => e = .returned (.bool (!St.right x)) ∧ Below w.heap.size w w' := by
  have hI : ∀ w', Calls Tryz.prog 71 #[.agg #[.int .i64 x.kind, .string x.head.owner, .string x.head.name, .string x.who, .string x.a.owner, .string x.a.name, .string x.b.owner, .string x.b.name, .string x.via]] w' fun e w'' => e = .returned (.bool (St.right x)) ∧ Below w'.heap.size w' w'' := fun w' => (Syn7.right x w' hf).mono fun e w'' h => ⟨h.1, h.2.below⟩
  have HI := Lib.hid hI
  have hblt : b < w.heap.size := (Array.getElem?_eq_some_iff.1 hb).1
  have hcb : ∀ o, w.cell? ⟨b, o, none⟩ = (#[.func (.func 71) #[] #[]] : Array Value)[o]? := fun o => Lib.cell_of_heap hb o
  generalize St.right x = r at *
  clear hI hb hf
  go_enter Tryz.func122, Tryz.ntmps122
  go_wp2_with fail
  refine (HI.out _).mono ?_
  rintro e w1 ⟨rfl, hb1⟩
  go_wp2_with fail
  go_ret
  exact ⟨rfl, ((Below.refl w.heap.size w).alloc (Nat.le_refl _) _).trans (hb1.mono (by simp))⟩
set_option maxHeartbeats 1000000 in
set_option maxRecDepth 100000 in
theorem idxS (A : Option Addr) (ca : Nat) (T : List St) (b : Nat) (w : World) (hT : T.length ≤ 10000) (hf : ∀ x ∈ T, x.fit) (hA : SG w A T) (hb : w.heap[b]? = some (.cells #[.func (.func 71) #[] #[]] 47 (0, 0))) :
    Calls Tryz.prog 166 #[.slice A T.length ca, .func (.func 122) #[] #[.pointer (some ⟨b, 0, none⟩)]] w fun e w' => ∃ r : Int, e = .returned (.int .i64 r) ∧ decide (0 ≤ r) = !T.all St.right ∧ Below w.heap.size w w' := by
  have HA := Lib.hid hA
  have HF := Lib.hid hf
  have hblt : b < w.heap.size := (Array.getElem?_eq_some_iff.1 hb).1
  have HBk := Lib.hid (fun (wr : World) (h : Below w.heap.size w wr) => (h.block b hblt).trans hb)
  clear hA hf hb
  go_enter Tryz.func166, Tryz.ntmps166
  go_wp2_with fail
  go_loopw [8] (fun i wr => ∃ k : Nat, k ≤ T.length ∧ i = .int .i64 k ∧ Hid (∀ j, j < k → (h : j < T.length) → St.right T[j] = true) ∧ Below w.heap.size w wr) (fun i _ => T.length - (intOf i).toNat)
  case atStart => exact ⟨0, by omega, rfl, Lib.hid (fun j hj => by omega), Below.refl _ _⟩
  case round =>
    obtain ⟨k, hk, rfl, hall, hbel⟩ := hrel
    by_cases hlt : k < T.length
    · obtain ⟨g, o, rfl, hg, hc⟩ := (HA.out.below hbel) (by omega)
      obtain ⟨a0, a1, a2, a3, a4, a5, a6, a7, a8⟩ := hc k hlt
      have H := Lib.hid (fnS T[k] b wr (HF.out _ (List.getElem_mem _)) (HBk.out _ hbel))
      have p1 : (0 : Int) ≤ k := by omega
      have p2 : (k : Int) < T.length := by omega
      have HB := Lib.hid hbel
      clear hc hbel
      cases hp : St.right T[k]
      · rw [hp] at H
        have hfin := Lib.hid (show decide ((0 : Int) ≤ k) = !T.all St.right by rw [decide_eq_true p1, all_no hlt hp]; rfl)
        clear hp hall
        go_wp2_with fail
        refine H.out.mono ?_
        rintro e w1 ⟨rfl, hb1⟩
        have hb2 := HB.out.trans (hb1.mono HB.out.size)
        clear hb1
        go_wp2_with fail
        go_ret
        exact ⟨k, rfl, hfin.out, hb2⟩
      · rw [hp] at H
        have hnext : Hid (∀ j, j < k + 1 → (h : j < T.length) → St.right T[j] = true) := Lib.hid fun j hj h => by
          by_cases e : j = k
          · subst e; exact hp
          · exact hall.out j (by omega) h
        clear hp hall
        go_wp2_with fail
        refine H.out.mono ?_
        rintro e w1 ⟨rfl, hb1⟩
        have hb2 := HB.out.trans (hb1.mono HB.out.size)
        clear hb1
        go_wp2_with fail
        go_roundw
        case rel => exact ⟨k + 1, by omega, by go_num, hnext, hb2⟩
        case measure => simp [intOf]; omega
    · have hfin := Lib.hid (show decide ((0 : Int) ≤ -1) = !T.all St.right by rw [all_yes fun j hj => hall.out j (by omega) hj]; rfl)
      have HB := Lib.hid hbel
      clear hall hbel
      go_wp2_with fail
      go_ret
      exact ⟨-1, rfl, hfin.out, HB.out⟩
set_option maxRecDepth 100000 in
theorem conS (A : Option Addr) (ca : Nat) (T : List St) (b : Nat) (w : World) (hT : T.length ≤ 10000) (hf : ∀ x ∈ T, x.fit) (hA : SG w A T) (hb : w.heap[b]? = some (.cells #[.func (.func 71) #[] #[]] 47 (0, 0))) :
    Calls Tryz.prog 121 #[.slice A T.length ca, .func (.func 122) #[] #[.pointer (some ⟨b, 0, none⟩)]] w fun e w' => e = .returned (.bool (!T.all St.right)) ∧ Below w.heap.size w w' := by
  have H := Lib.hid (idxS A ca T b w hT hf hA hb)
  generalize (!T.all St.right) = r at *
  clear hf hA hb
  go_enter Tryz.func121, Tryz.ntmps121
  go_wp2_with fail
  refine H.out.mono ?_
  rintro e w1 ⟨i, rfl, hi, hb1⟩
  have HI := Lib.hid hi
  clear hi
  go_wp2_with fail
  go_ret
  exact ⟨ret_bool HI.out, hb1⟩
set_option maxRecDepth 100000 in
theorem eachS (A : Option Addr) (ca : Nat) (T : List St) (w : World) (hT : T.length ≤ 10000) (hf : ∀ x ∈ T, x.fit) (hA : SG w A T) :
    Calls Tryz.prog 70 #[.slice A T.length ca, .func (.func 71) #[] #[]] w fun e w' => e = .returned (.bool (T.all St.right)) ∧ Below w.heap.size w w' := by
  have hb0 := (Below.refl w.heap.size w).alloc (Nat.le_refl _) (.cells #[.func (.func 71) #[] #[]] 47)
  have H := Lib.hid (conS A ca T w.heap.size (w.alloc (.cells #[.func (.func 71) #[] #[]] 47)) hT hf (hA.below hb0) (heap_alloc_new w _))
  generalize T.all St.right = r at *
  have HB0 := Lib.hid hb0
  clear hf hA hb0
  go_enter Tryz.func70, Tryz.ntmps70
  go_wp2_with fail
  refine H.out.mono ?_
  rintro e w1 ⟨rfl, hb1⟩
  have hb2 := HB0.out.trans (hb1.mono (by simp))
  clear hb1
  go_wp2_with fail
  go_ret
  exact ⟨ret_bool (by simp), hb2⟩
set_option maxRecDepth 100000 in
theorem fnQ (x : Qy) (B : Option Addr) (cB : Nat) (b : Nat) (w : World) (hf : x.fit) (hr : SRow w B x.who) (hb : w.heap[b]? = some (.cells #[.func (.func 31) #[] #[]] 50 (0, 0))) :
    Calls Tryz.prog 75 #[.agg #[.int .i64 x.kind, .string x.a.owner, .string x.a.name, .string x.b.owner, .string x.b.name, .slice B x.who.length cB], .pointer (some ⟨b, 0, none⟩)] w fun e w' => e = .returned (.bool (!Qy.right x)) ∧ Below w.heap.size w w' := by
  have hI : ∀ w', SRow w' B x.who → Calls Tryz.prog 31 #[.agg #[.int .i64 x.kind, .string x.a.owner, .string x.a.name, .string x.b.owner, .string x.b.name, .slice B x.who.length cB]] w' fun e w'' => e = .returned (.bool (Qy.right x)) ∧ Below w'.heap.size w' w'' := fun w' hr' => Qry2.right x.kind x.a.owner x.a.name x.b.owner x.b.name B cB x.who w' hf hr'
  have HRow := Lib.hid (hr.keep ((Below.refl _ w).alloc (Nat.le_refl _) (.cells #[.int .i64 x.kind, .string x.a.owner, .string x.a.name, .string x.b.owner, .string x.b.name, .slice B x.who.length cB] 49)))
  have HI := Lib.hid hI
  have hblt : b < w.heap.size := (Array.getElem?_eq_some_iff.1 hb).1
  have hcb : ∀ o, w.cell? ⟨b, o, none⟩ = (#[.func (.func 31) #[] #[]] : Array Value)[o]? := fun o => Lib.cell_of_heap hb o
  generalize Qy.right x = r at *
  clear hI hb hf hr
  go_enter Tryz.func75, Tryz.ntmps75
  go_wp2_with fail
  refine (HI.out _ HRow.out).mono ?_
  rintro e w1 ⟨rfl, hb1⟩
  go_wp2_with fail
  go_ret
  exact ⟨rfl, ((Below.refl w.heap.size w).alloc (Nat.le_refl _) _).trans (hb1.mono (by simp))⟩
set_option maxHeartbeats 1000000 in
set_option maxRecDepth 100000 in
theorem idxQ (A : Option Addr) (ca : Nat) (T : List Qy) (b : Nat) (w : World) (hT : T.length ≤ 10000) (hf : ∀ x ∈ T, x.fit) (hA : QG w A T) (hb : w.heap[b]? = some (.cells #[.func (.func 31) #[] #[]] 50 (0, 0))) :
    Calls Tryz.prog 129 #[.slice A T.length ca, .func (.func 75) #[] #[.pointer (some ⟨b, 0, none⟩)]] w fun e w' => ∃ r : Int, e = .returned (.int .i64 r) ∧ decide (0 ≤ r) = !T.all Qy.right ∧ Below w.heap.size w w' := by
  have HA := Lib.hid hA
  have HF := Lib.hid hf
  have hblt : b < w.heap.size := (Array.getElem?_eq_some_iff.1 hb).1
  have HBk := Lib.hid (fun (wr : World) (h : Below w.heap.size w wr) => (h.block b hblt).trans hb)
  clear hA hf hb
  go_enter Tryz.func129, Tryz.ntmps129
  go_wp2_with fail
  go_loopw [8] (fun i wr => ∃ k : Nat, k ≤ T.length ∧ i = .int .i64 k ∧ Hid (∀ j, j < k → (h : j < T.length) → Qy.right T[j] = true) ∧ Below w.heap.size w wr) (fun i _ => T.length - (intOf i).toNat)
  case atStart => exact ⟨0, by omega, rfl, Lib.hid (fun j hj => by omega), Below.refl _ _⟩
  case round =>
    obtain ⟨k, hk, rfl, hall, hbel⟩ := hrel
    by_cases hlt : k < T.length
    · obtain ⟨g, o, rfl, hg, hc⟩ := (HA.out.below hbel) (by omega)
      obtain ⟨B, cB, a0, a1, a2, a3, a4, a5, hrow⟩ := hc k hlt
      have H := Lib.hid (fnQ T[k] B cB b wr (HF.out _ (List.getElem_mem _)) hrow (HBk.out _ hbel))
      clear hrow
      have p1 : (0 : Int) ≤ k := by omega
      have p2 : (k : Int) < T.length := by omega
      have HB := Lib.hid hbel
      clear hc hbel
      cases hp : Qy.right T[k]
      · rw [hp] at H
        have hfin := Lib.hid (show decide ((0 : Int) ≤ k) = !T.all Qy.right by rw [decide_eq_true p1, all_no hlt hp]; rfl)
        clear hp hall
        go_wp2_with fail
        refine H.out.mono ?_
        rintro e w1 ⟨rfl, hb1⟩
        have hb2 := HB.out.trans (hb1.mono HB.out.size)
        clear hb1
        go_wp2_with fail
        go_ret
        exact ⟨k, rfl, hfin.out, hb2⟩
      · rw [hp] at H
        have hnext : Hid (∀ j, j < k + 1 → (h : j < T.length) → Qy.right T[j] = true) := Lib.hid fun j hj h => by
          by_cases e : j = k
          · subst e; exact hp
          · exact hall.out j (by omega) h
        clear hp hall
        go_wp2_with fail
        refine H.out.mono ?_
        rintro e w1 ⟨rfl, hb1⟩
        have hb2 := HB.out.trans (hb1.mono HB.out.size)
        clear hb1
        go_wp2_with fail
        go_roundw
        case rel => exact ⟨k + 1, by omega, by go_num, hnext, hb2⟩
        case measure => simp [intOf]; omega
    · have hfin := Lib.hid (show decide ((0 : Int) ≤ -1) = !T.all Qy.right by rw [all_yes fun j hj => hall.out j (by omega) hj]; rfl)
      have HB := Lib.hid hbel
      clear hall hbel
      go_wp2_with fail
      go_ret
      exact ⟨-1, rfl, hfin.out, HB.out⟩
set_option maxRecDepth 100000 in
theorem conQ (A : Option Addr) (ca : Nat) (T : List Qy) (b : Nat) (w : World) (hT : T.length ≤ 10000) (hf : ∀ x ∈ T, x.fit) (hA : QG w A T) (hb : w.heap[b]? = some (.cells #[.func (.func 31) #[] #[]] 50 (0, 0))) :
    Calls Tryz.prog 74 #[.slice A T.length ca, .func (.func 75) #[] #[.pointer (some ⟨b, 0, none⟩)]] w fun e w' => e = .returned (.bool (!T.all Qy.right)) ∧ Below w.heap.size w w' := by
  have H := Lib.hid (idxQ A ca T b w hT hf hA hb)
  generalize (!T.all Qy.right) = r at *
  clear hf hA hb
  go_enter Tryz.func74, Tryz.ntmps74
  go_wp2_with fail
  refine H.out.mono ?_
  rintro e w1 ⟨i, rfl, hi, hb1⟩
  have HI := Lib.hid hi
  clear hi
  go_wp2_with fail
  go_ret
  exact ⟨ret_bool HI.out, hb1⟩
set_option maxRecDepth 100000 in
theorem eachQ (A : Option Addr) (ca : Nat) (T : List Qy) (w : World) (hT : T.length ≤ 10000) (hf : ∀ x ∈ T, x.fit) (hA : QG w A T) :
    Calls Tryz.prog 30 #[.slice A T.length ca, .func (.func 31) #[] #[]] w fun e w' => e = .returned (.bool (T.all Qy.right)) ∧ Below w.heap.size w w' := by
  have hb0 := (Below.refl w.heap.size w).alloc (Nat.le_refl _) (.cells #[.func (.func 31) #[] #[]] 50)
  have H := Lib.hid (conQ A ca T w.heap.size (w.alloc (.cells #[.func (.func 31) #[] #[]] 50)) hT hf (hA.below hb0) (heap_alloc_new w _))
  generalize T.all Qy.right = r at *
  have HB0 := Lib.hid hb0
  clear hf hA hb0
  go_enter Tryz.func30, Tryz.ntmps30
  go_wp2_with fail
  refine H.out.mono ?_
  rintro e w1 ⟨rfl, hb1⟩
  have hb2 := HB0.out.trans (hb1.mono (by simp))
  clear hb1
  go_wp2_with fail
  go_ret
  exact ⟨ret_bool (by simp), hb2⟩
end Go.Proofs.YtkmpbkgmdfeicaaGreat.PolL
/- How policy's order of roles stands, by contract; it fits the library's sort. -/
namespace Go.Proofs.YtkmpbkgmdfeicaaGreat.PolB
set_option linter.unusedVariables false
set_option linter.unusedSimpArgs false
open Go.RowKit Go.Sort Go.Lib Go.Proofs Go.Proofs.YtkmpbkgmdfeicaaGreat.Plain Go.Proofs.YtkmpbkgmdfeicaaGreat.SynP Go.Proofs.YtkmpbkgmdfeicaaGreat.Grown Go.Proofs.YtkmpbkgmdfeicaaGreat.SynD Go.Proofs.YtkmpbkgmdfeicaaGreat.Syn2 Go.Proofs.YtkmpbkgmdfeicaaGreat.Syn4 Go.Proofs.YtkmpbkgmdfeicaaGreat.PolA
set_option linter.unusedVariables false
set_option linter.unusedSimpArgs false
theorem cmpB_three (a b : ByteArray) : cmpB a b = -1 ∨ cmpB a b = 0 ∨ cmpB a b = 1 := by
  unfold cmpB; split
  · exact .inl rfl
  · split
    · exact .inr (.inr rfl)
    · exact .inr (.inl rfl)
theorem cmpR_three (r s : Rl) : cmpR r s = -1 ∨ cmpR r s = 0 ∨ cmpR r s = 1 := by
  have a := cmpB_three r.owner s.owner
  have b := cmpB_three r.name s.name
  unfold cmpR orL orL orL
  split
  · exact a
  · split
    · exact b
    · exact .inr (.inl rfl)
set_option maxRecDepth 100000 in
theorem order (r s : Rl) (w : World) : Calls Tryz.prog 100 #[r.val, s.val] w fun e w' => e = .returned (.int .i64 (cmpR r s)) ∧ Grew w w' := by
  obtain ⟨o1, n1⟩ := r
  obtain ⟨o2, n2⟩ := s
  have H1 := Lib.hid (fun w' => less' o1 n1 o2 n2 w')
  have H2 := Lib.hid (fun w' => less' o2 n2 o1 n1 w')
  have ha := tri_R.anti ⟨o1, n1⟩ ⟨o2, n2⟩
  have ht := cmpR_three ⟨o1, n1⟩ ⟨o2, n2⟩
  unfold Rl.val
  have gC := grow_cell
  rcases ht with h | h | h
  · rw [h] at H1 ⊢
    rw [decide_eq_true (by decide)] at H1
    clear ha h
    go_enter Tryz.func100, Tryz.ntmps100
    go_wp2_with fail
    refine (H1.out _).mono ?_
    rintro e w1 ⟨rfl, ⟨⟨q, os⟩, rfl⟩⟩
    go_wp2_with fail
    go_ret
    exact ⟨rfl, (((Grew.refl _).alloc _).alloc _).trans (Grew.mk _ _ _)⟩
  · rw [h] at H1 ha ⊢
    rw [ha] at H2
    rw [decide_eq_false (by decide)] at H1 H2
    clear ha h
    go_enter Tryz.func100, Tryz.ntmps100
    go_wp2_with fail
    refine (H1.out _).mono ?_
    rintro e w1 ⟨rfl, ⟨⟨q, os⟩, rfl⟩⟩
    go_wp2_with fail
    refine (H2.out _).mono ?_
    rintro e w2 ⟨rfl, hg2⟩
    go_wp2_with fail
    go_ret
    exact ⟨rfl, ((((Grew.refl _).alloc _).alloc _).trans (Grew.mk _ _ _)).trans hg2⟩
  · rw [h] at H1 ha ⊢
    rw [ha] at H2
    rw [decide_eq_false (by decide)] at H1
    rw [decide_eq_true (by decide)] at H2
    clear ha h
    go_enter Tryz.func100, Tryz.ntmps100
    go_wp2_with fail
    refine (H1.out _).mono ?_
    rintro e w1 ⟨rfl, ⟨⟨q, os⟩, rfl⟩⟩
    go_wp2_with fail
    refine (H2.out _).mono ?_
    rintro e w2 ⟨rfl, hg2⟩
    go_wp2_with fail
    go_ret
    exact ⟨rfl, ((((Grew.refl _).alloc _).alloc _).trans (Grew.mk _ _ _)).trans hg2⟩
theorem cmpLaysR (blk off size : Nat) (w : World) : CmpLays Tryz.prog 100 #[] Rl.cells 2 cmpR blk off size w := fun m os dk _ x y =>
  (order x y (sortWorldK Rl.cells 2 w blk off m dk os)).mono fun _ _ ⟨he, hg⟩ => ⟨he, by
    obtain ⟨⟨q, os'⟩, rfl⟩ := hg
    exact ⟨q, os', rfl⟩⟩
end Go.Proofs.YtkmpbkgmdfeicaaGreat.PolB
/- slices.Compact at roles, by contract: the library's two loops are walked. -/
namespace Go.Proofs.YtkmpbkgmdfeicaaGreat.PolC
set_option linter.unusedVariables false
set_option linter.unusedSimpArgs false
open Go.RowKit Go.Sort Go.Lib Go.Proofs Go.Proofs.YtkmpbkgmdfeicaaGreat.Plain Go.Proofs.YtkmpbkgmdfeicaaGreat.SynP Go.Proofs.YtkmpbkgmdfeicaaGreat.SynD Go.Proofs.YtkmpbkgmdfeicaaGreat.SynD7 Go.Proofs.YtkmpbkgmdfeicaaGreat.SynJ Go.Proofs.YtkmpbkgmdfeicaaGreat.PolA
set_option linter.unusedVariables false
set_option linter.unusedSimpArgs false
def CompPost (g cap : Nat) (d : Array Rl) (w : World) (e : Ending) (w' : World) : Prop :=
  e = .returned (.slice (some ⟨g, 0, none⟩) (compactUpTo d d.size).length cap) ∧ RAt w' (some ⟨g, 0, none⟩) (compactUpTo d d.size) ∧ Below g w w' ∧ w.heap.size ≤ w'.heap.size
theorem holds_drewN {w : World} {g : Nat} {d : Array Rl} (h : HoldsK Rl.cells 2 w g 0 d) (n : Nat) : HoldsK Rl.cells 2 (w.drewN n) g 0 d := holdsK_ahead Rl.cells 2 w n g 0 d h
theorem all_post {g cap : Nat} {d : Array Rl} {w : World} (hH : HoldsK Rl.cells 2 w g 0 d) (hall : ∀ j, j < d.size → keeps d j = true) (n : Nat) : CompPost g cap d w (.returned (.slice (some ⟨g, 0, none⟩) d.size cap)) (w.drewN n) := by
  have e : compactUpTo d d.size = d.toList := by rw [compactUpTo_all d _ hall, range_map_get]
  refine ⟨?_, ?_, ?_, Nat.le_refl _⟩
  · rw [e, Array.length_toList]
  · rw [e]
    refine RAt.of_holds (holds_drewN hH n) _ (by simp) fun j hj => ?_
    rw [getElem!_pos d j (by simpa using hj)]; simp
  · exact below_drewN (Below.refl _ _) _
/-- The nine cells of a row's element. -/
theorem two {w : World} {g : Nat} {d : Array Rl} (h : HoldsK Rl.cells 2 w g 0 d) (j : Nat) (hj : j < d.size) : ∀ c u, (Rl.cells d[j]!)[c]? = some u → w.cell? ⟨g, j * 2 + c, none⟩ = some u := fun c u hu => by
  have hc : c < 2 := by
    rcases Nat.lt_or_ge c 2 with h | h
    · exact h
    · rw [List.getElem?_eq_none (by show 2 ≤ c; exact h)] at hu; cases hu
  have q := (HoldsK.cell h (i := j) (c := c) hj hc).1
  rw [Nat.zero_add] at q
  rw [q, getElem!_pos _ _ (by rw [len2]; exact hc), ← List.getElem?_eq_getElem, hu]
theorem there_of {w : World} {g : Nat} {d : Array Rl} (h : HoldsK Rl.cells 2 w g 0 d) (i : Nat) (hi : i < d.size) : w.there g (i * 2) 2 := fun c hc => by
  have q := HoldsK.cell h (i := i) (c := c) hi hc
  rw [Nat.zero_add] at q
  exact ⟨by rw [q.1]; rfl, q.2⟩
theorem there_all {w : World} {g : Nat} {d : Array Rl} (h : HoldsK Rl.cells 2 w g 0 d) (i : Nat) (hi : i < d.size) : w.there g (i * 2) ((d.size - i) * 2) := fun c hc => by
  have q := HoldsK.cell h (i := i + c / 2) (c := c % 2) (by omega) (by omega)
  rw [Nat.zero_add, show (i + c / 2) * 2 + c % 2 = i * 2 + c by omega] at q
  exact ⟨by rw [q.1]; rfl, q.2⟩
theorem infoSz : (Tryz.prog.info? 44).map (·.size) = some 2 := by kernel_rfl
theorem stcell_one (x : Rl) : ∀ v ∈ (Rl.cells x), v.oneCell' = true := fun v hv => by
  simp [Rl.cells] at hv
  rcases hv with rfl | rfl <;> rfl
theorem store0 {W : World} {g : Nat} {d : Array Rl} (h : HoldsK Rl.cells 2 W g 0 d) (i : Nat) (hi : i < d.size) (x : Rl) : HoldsK Rl.cells 2 (W.setCells g (i * 2) (Rl.cells x)) g 0 (d.setIfInBounds i x) := by
  have := holdsK_store len2 (by omega) h i hi x
  rw [Nat.zero_add] at this
  exact this
def clr (n : Nat) : List Value := (Builtin.zeroCells zeroR.val.cells n).toList
theorem clr_len (n : Nat) : (clr n).length = n * 2 := by
  unfold clr Builtin.zeroCells
  simp; rfl
theorem clr_one (n : Nat) : ∀ v ∈ clr n, v.oneCell' = true := by
  intro v hv
  unfold clr Builtin.zeroCells at hv
  simp at hv
  obtain ⟨i, hi, rfl⟩ := hv
  have h9 : zeroR.val.cells.size = 2 := rfl
  have hlt : i % zeroR.val.cells.size < 2 := by rw [h9]; omega
  generalize i % zeroR.val.cells.size = r at hlt
  match r, hlt with
  | 0, _ => rfl
  | 1, _ => rfl
theorem run_clear2 (w : World) (b o n c : Nat) (hn : 0 < n) (ht : w.there b o (n * 2)) (ty : TypeId) : (Builtin.clear_ #[23] ty #[.slice (some ⟨b, o, none⟩) n c]).run Tryz.prog w = .ok (.tuple #[]) (w.setCells b o (clr n)) := by
  have hst := run_storeCells_cells (P := Tryz.prog) b o (clr n) 0 w (fun j hj => by rw [clr_len] at hj; simpa using (ht j hj).1) (fun j hj => by rw [clr_len] at hj; simpa using (ht j hj).2) (clr_one n)
  simp only [Nat.add_zero] at hst
  obtain ⟨m, rfl⟩ : ∃ m, n = m + 1 := ⟨n - 1, by omega⟩
  have hv : (zeroValue 44).run Tryz.prog w = .ok zeroR.val w := Tryz.zeroValue44 w
  have hc : (Builtin.zeroCells zeroR.val.cells (m + 1)).toList = clr (m + 1) := rfl
  simp [Builtin.clear_, run_underlying Tryz.underlying23, hv, hc, hst]
theorem wp_clear_run {P : Program} (w : World) {o : Oper} {a : Act} {K : Act → World → Prop} {Q : Exit → Act → World → Prop} (s : Operand) (t : TypeId)
    (ho : o.op = .call { callee := .builtin .clear, args := #[s], argTypes := #[t] }) (vs : Value) (hs : a.eval s = vs)
    (v' : Value) (w' : World) (hr : (Builtin.clear_ #[t] o.type #[vs]).run P w = .ok v' w') (h : K (a.put o.dst v') w') : o.wp P a w K Q := by
  unfold Oper.wp execOp
  simp only [ho, resolve, invoke, builtin, Sem.run_bind, Sem.run_pure, Result.andThen_ok, List.map_toArray, List.map_cons, List.map_nil, hs, hr]
  exact h
theorem wpList_clear_run {P : Program} (w : World) {ops : Array Oper} {rest : List Oper} {o : Oper} {a : Act} {Q : Exit → Act → World → Prop} (hgd : o.guard = none) (s : Operand) (t : TypeId)
    (ho : o.op = .call { callee := .builtin .clear, args := #[s], argTypes := #[t] }) (vs : Value) (hs : a.eval s = vs)
    (v' : Value) (w' : World) (hr : (Builtin.clear_ #[t] o.type #[vs]).run P w = .ok v' w') (h : wpList P ops Q rest (a.put o.dst v') w') : wpList P ops Q (o :: rest) a w :=
  wpList_plain hgd fun _ hK => wp_clear_run w s t ho vs hs v' w' hr (hK _ _ h)
theorem RAt.set_out {w : World} {g o : Nat} {R : List Rl} (h : RAt w (some ⟨g, 0, none⟩) R) (ho : R.length * 2 ≤ o) (vs : List Value) : RAt (w.setCells g o vs) (some ⟨g, 0, none⟩) R := fun hp => by
  obtain ⟨g', hA, hg, hc⟩ := h hp
  injection hA with hA
  injection hA with hA
  subst hA
  refine ⟨g, rfl, by rw [size_setCells]; exact hg, fun j hj => ?_⟩
  have key : ∀ i, i < R.length * 2 → (w.setCells g o vs).cell? ⟨g, i, none⟩ = w.cell? ⟨g, i, none⟩ := fun i hi => World.cell?_setCells_out g vs o w ⟨g, i, none⟩ (fun _ _ => Or.inl (by show i < o; omega))
  rw [key _ (by omega), key _ (by omega)]
  exact hc j hj
theorem clear_post {g cap kk : Nat} {d dk : Array Rl} {w wr : World} (hH : HoldsK Rl.cells 2 wr g 0 dk) (hb : Below g w wr) (hs : w.heap.size ≤ wr.heap.size) (hI : CompInv d d.size kk dk) : CompPost g cap d w (.returned (.slice (some ⟨g, 0, none⟩) kk cap)) (wr.setCells g (kk * 2) (clr (dk.size - kk))) := by
  have hk := hI.lt
  have hz := hI.size
  refine ⟨by rw [hI.len], ?_, below_setCells (Nat.le_refl _) _ _ _ hb, by rw [size_setCells]; exact hs⟩
  refine RAt.set_out (RAt.of_holds hH _ (by rw [hI.len]; omega) (inv_lowR hI rfl (by omega))) (by rw [hI.len]; exact Nat.le_refl _) _
set_option maxHeartbeats 4000000 in
set_option maxRecDepth 1000000 in
theorem compSt (g cap : Nat) (d : Array Rl) (w : World) (hH : HoldsK Rl.cells 2 w g 0 d) (hg : g < w.heap.size) (hsz : d.size ≤ 100000) (hcap : d.size ≤ cap) :
    Calls Tryz.prog 101 #[.slice (some ⟨g, 0, none⟩) d.size cap] w (CompPost g cap d w) := by
  have HH := Lib.hid hH
  clear hH
  by_cases h2 : d.size < 2
  · have HS := Lib.hid (fun n => all_post (cap := cap) HH.out (fun j hj => keeps_lt_one d j (by omega)) n)
    go_enter Tryz.func101, Tryz.ntmps101
    go_wp2_with fail
    go_ret
    exact HS.out 0
  · go_enter Tryz.func101, Tryz.ntmps101
    go_wp2_with fail
    go_loopg [3] d.size (fun gh s3 wr => ∃ k q : Nat, 1 ≤ k ∧ k ≤ d.size ∧ d.size - k ≤ gh ∧ s3 = .int .i64 k ∧ wr = w.drewN q ∧ Hid (∀ j, j < k → keeps d j = true))
    case atStart => exact ⟨1, 0, Nat.le_refl _, by omega, by omega, rfl, rfl, Lib.hid (keeps_lt_one d)⟩
    case round =>
      obtain ⟨k, q, hk1, hk, hgh, rfl, rfl, hall⟩ := hrel
      by_cases hlt : k < d.size
      · have c1 := two HH.out k hlt
        have c0 := two HH.out (k - 1) (by omega)
        generalize hx : d[k]! = x at c1
        generalize hy : d[k - 1]! = y at c0
        have B := Lib.hid (And.intro hx hy)
        clear hx hy
        obtain ⟨ho, hn⟩ := x
        obtain ⟨ho2, hn2⟩ := y
        have a0 := c1 0 _ rfl
        have a1 := c1 1 _ rfl
        have b0 := c0 0 _ rfl
        have b1 := c0 1 _ rfl
        rw [Nat.add_zero] at a0 b0
        have p1 : (0 : Int) ≤ k := by omega
        have p2 : (k : Int) < d.size := by omega
        have p3 : (0 : Int) ≤ (k : Int) - 1 := by omega
        have p4 : (k : Int) - 1 < d.size := by omega
        have p5 : ((k : Int) - 1).toNat = k - 1 := by omega
        clear c0 c1
        by_cases hdup : (⟨ho, hn⟩ : Rl) = ⟨ho2, hn2⟩
        · have hq := fun w => SynE.eqR ho hn ho2 hn2 w
          rw [decide_eq_true (p := (⟨ho, hn⟩ : Rl) = ⟨ho2, hn2⟩) hdup] at hq
          have HD := Lib.hid hdup
          clear hdup
          go_wp2_with fail
          go_quiet (fail)
          go_wp2_with fail
          clear a0 a1 b0 b1 hq p3 p4 p5
          have hst := Lib.hid (CompInv.start hall.out (keeps_neg (by omega) (by rw [B.out.1, B.out.2]; exact HD.out)))
          clear HD B
          go_loopg [3, 5] d.size (fun gh2 s3 s5 wr => ∃ (kk kq : Nat) (dk : Array Rl), s3 = .int .i64 kk ∧ s5 = .int .i64 kq ∧ 1 ≤ kq ∧ k + kq ≤ d.size ∧ d.size - (k + kq) ≤ gh2 ∧ Hid (HoldsK Rl.cells 2 wr g 0 dk) ∧ Below g w wr ∧ w.heap.size ≤ wr.heap.size ∧ Hid (CompInv d (k + kq) kk dk))
          case atStart => exact ⟨k, 1, d, rfl, rfl, Nat.le_refl _, by omega, by omega, Lib.hid (holds_drewN HH.out _), below_drewN (Below.refl _ _) _, Nat.le_refl _, hst⟩
          case round =>
            obtain ⟨kk, kq, dk, rfl, rfl, h1, hle, hg2, hHk, hbel, hszr, hI⟩ := hrel
            have hkk := hI.out.lt
            have hds := hI.out.size
            by_cases hlt2 : k + kq < d.size
            · have c1 := two hHk.out (k + kq) (by omega)
              have c0 := two hHk.out (k + kq - 1) (by omega)
              rw [hI.out.high (k + kq) (by omega)] at c1
              rw [hI.out.high (k + kq - 1) (by omega)] at c0
              generalize hx : d[k + kq]! = x at c1
              generalize hy : d[k + kq - 1]! = y at c0
              have C := Lib.hid (And.intro hx hy)
              clear hx hy
              have hth := Lib.hid (fun n => there_of (holds_drewN hHk.out n) kk (by omega))
              obtain ⟨ho, hn⟩ := x
              obtain ⟨ho2, hn2⟩ := y
              have a0 := c1 0 _ rfl
              have a1 := c1 1 _ rfl
              have b0 := c0 0 _ rfl
              have b1 := c0 1 _ rfl
              rw [Nat.add_zero] at a0 b0
              rw [show (k + kq) * 2 = k * 2 + kq * 2 by omega] at a0 a1
              rw [show (k + kq - 1) * 2 = k * 2 + (kq - 1) * 2 by omega] at b0 b1
              have q1 : (0 : Int) ≤ kq := by omega
              have q2 : (kq : Int) < (d.size - k : Nat) := by omega
              have q3 : (0 : Int) ≤ (kq : Int) - 1 := by omega
              have q4 : (kq : Int) - 1 < (d.size - k : Nat) := by omega
              have q5 : ((kq : Int) - 1).toNat = kq - 1 := by omega
              have q6 : (0 : Int) ≤ kk := by omega
              have q7 : (kk : Int) < d.size := by omega
              clear c0 c1
              by_cases hdup : (⟨ho, hn⟩ : Rl) = ⟨ho2, hn2⟩
              · have hq := fun w => SynE.neR ho hn ho2 hn2 w
                rw [decide_eq_true (p := (⟨ho, hn⟩ : Rl) = ⟨ho2, hn2⟩) hdup] at hq
                have HD := Lib.hid hdup
                clear hdup
                go_wp2_with fail
                go_quiet (fail)
                go_wp2_with fail
                go_roundg (d.size - (k + (kq + 1)))
                case measure => omega
                case rel => exact ⟨kk, kq + 1, dk, rfl, by go_num, by omega, by omega, Nat.le_refl _, Lib.hid (holds_drewN hHk.out _), below_drewN hbel _, hszr, Lib.hid (hI.out.skip (keeps_neg (by omega) (by rw [C.out.1, C.out.2]; exact HD.out)))⟩
              · have hq := fun w => SynE.neR ho hn ho2 hn2 w
                rw [decide_eq_false (p := (⟨ho, hn⟩ : Rl) = ⟨ho2, hn2⟩) hdup] at hq
                have HD := Lib.hid hdup
                clear hdup
                go_wp2_with fail
                go_quiet (fail)
                go_wp2_with ((with_reducible refine wpList_store_mid (op := ⟨none, .store 44 (.tmp 51) (.tmp 50), _, _, _, none⟩) ?_ 44 (.tmp 51) (.tmp 50) ?_ g (kk * 2) (Rl.cells ⟨ho, hn⟩).toArray ?_ ?_ ?_ ?_ ?_ ?_); (rfl); (rfl); (simp [Act.eval]); (simp [Act.eval, Rl.cells]); (exact hth.out _); (exact infoSz); (exact all_oneCell_toArray (stcell_one _)))
                go_roundg (d.size - (k + (kq + 1)))
                case measure => omega
                case rel =>
                  refine ⟨kk + 1, kq + 1, dk.setIfInBounds kk ⟨ho, hn⟩, by go_num, by go_num, by omega, by omega, Nat.le_refl _, Lib.hid ?_, below_setCells (Nat.le_refl _) _ _ _ (below_drewN hbel _), by rw [size_setCells]; exact hszr, Lib.hid ?_⟩
                  · exact store0 (holds_drewN hHk.out _) kk (by omega) _
                  · have := hI.out.keep hlt2 (keeps_pos (by rw [C.out.1, C.out.2]; exact HD.out))
                    rw [C.out.1] at this
                    exact this
            · have hend : k + kq = d.size := by omega
              have hfin := Lib.hid (clear_post (cap := cap) hHk.out hbel hszr (hend ▸ hI.out))
              have hth := Lib.hid (there_all hHk.out kk (by omega))
              have hlen := Lib.hid ((hend ▸ hI.out : CompInv d d.size kk dk).len)
              rw [hds] at hth
              clear hHk hI hend
              go_wp2_with ((with_reducible refine wpList_clear_run (o := ⟨none, .call { callee := .builtin .clear, args := #[.tmp 56], argTypes := #[23] }, _, _, _, none⟩) _ ?_ (.tmp 56) 23 ?_ (.slice (some ⟨g, kk * 2, none⟩) (d.size - kk) (cap - kk)) ?_ (.tuple #[]) (wr.setCells g (kk * 2) (clr (d.size - kk))) ?_ ?_); (rfl); (rfl); (simp [Act.eval]); (exact run_clear2 _ g (kk * 2) (d.size - kk) (cap - kk) (by omega) hth.out _))
              go_ret
              rw [hds] at hfin
              exact hfin.out
        · have hq := fun w => SynE.eqR ho hn ho2 hn2 w
          rw [decide_eq_false (p := (⟨ho, hn⟩ : Rl) = ⟨ho2, hn2⟩) hdup] at hq
          have HD := Lib.hid hdup
          clear hdup
          go_wp2_with fail
          go_quiet (fail)
          go_wp2_with fail
          go_roundg (d.size - (k + 1))
          case measure => omega
          case rel =>
            refine ⟨k + 1, _, by omega, by omega, Nat.le_refl _, by go_num, rfl, Lib.hid fun j hj => ?_⟩
            by_cases e : j = k
            · subst e
              exact keeps_pos (by rw [B.out.1, B.out.2]; exact HD.out)
            · exact hall.out j (by omega)
      · have : k = d.size := by omega
        subst this
        have HS := Lib.hid (fun n => all_post (cap := cap) HH.out hall.out n)
        clear hall
        go_wp2_with fail
        go_ret
        exact HS.out _
end Go.Proofs.YtkmpbkgmdfeicaaGreat.PolC
