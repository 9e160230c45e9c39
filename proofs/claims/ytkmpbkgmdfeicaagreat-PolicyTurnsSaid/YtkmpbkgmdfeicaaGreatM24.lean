/- slices.SortFunc at statements, by contract. -/
import Derived.Test.YtkmpbkgmdfeicaaGreatM23
import Derived.Test.YtkmpbkgmdfeicaaGreatSynD5
import Derived.Test.YtkmpbkgmdfeicaaGreatM11
import Derived.Sort.WalkB12
import Derived.Lib.SliceRun
import Derived.Deep.LoopGhost
import Derived.Deep.Draws
import Derived.Shelf.RegionOpenPlain
import Derived.Deep.MidRow
import Derived.Lib.LazyBuf
import Derived.Lib.AppendZeros
import Derived.Shelf.SlSortCmp.NoneTotal
import Derived.Test.YtkmpbkgmdfeicaaGreatM22
import Derived.Test.YtkmpbkgmdfeicaaGreatM21
import Derived.Test.YtkmpbkgmdfeicaaGreatM20
import Derived.Test.YtkmpbkgmdfeicaaGreatM10
import Derived.Deep.RegionHeld3
import Derived.RangeFuncNested
import Derived.RangeFuncBound
import Derived.RangeFuncCalls
import Derived.RangeFuncLeaves
import Derived.Test.YtkmpbkgmdfeicaaGreatM02
import Derived.Test.YtkmpbkgmdfeicaaGreatM12
namespace Go.Proofs.YtkmpbkgmdfeicaaGreat.SynD6
set_option linter.unusedVariables false
set_option linter.unusedSimpArgs false
open Go.Shelf Go.RowKit Go.Lib Go.Sort Go.Proofs Go.Proofs.YtkmpbkgmdfeicaaGreat.Plain Go.Proofs.YtkmpbkgmdfeicaaGreat.SynP Go.Proofs.YtkmpbkgmdfeicaaGreat.SynD2 Go.Proofs.YtkmpbkgmdfeicaaGreat.SynD Go.Proofs.YtkmpbkgmdfeicaaGreat.SynD4 Go.Proofs.YtkmpbkgmdfeicaaGreat.SynD5
theorem sortSt (blk off cap : Nat) (d : Array St) (w : World) (hH : HoldsK St.cells 9 w blk off d) (hblk : blk < w.heap.size) (hsz : d.size < 4611686018427387904) :
    Calls Tryz.prog 95 #[.slice (some ⟨blk, off, none⟩) d.size cap, .func (.func 96) #[] #[]] w fun e w' =>
      e = .returned (.tuple #[]) ∧ ∃ d' n os, PermIn 0 d.size d d' ∧ SortedIn (ltOf cmpS) 0 d.size d' ∧ w' = sortWorldK St.cells 9 w blk off n d' os :=
  AnyQ.slices_SortFunc laidSort 9 Tryz.isAgg46 Tryz.sizeOf46 St.cells (fun _ => rfl) (fun x v hv => by simp [St.cells] at hv; rcases hv with rfl | rfl | rfl | rfl | rfl | rfl | rfl | rfl | rfl <;> rfl) cmpS swo_S 96 #[] blk off cap d w (enters_of Tryz.func96 (by kernel_rfl) rfl) (cmpLays blk off d.size w) hH hblk hsz
end Go.Proofs.YtkmpbkgmdfeicaaGreat.SynD6
/- slices.Compact at statements, by contract: the library's two loops are walked. -/
namespace Go.Proofs.YtkmpbkgmdfeicaaGreat.SynD8
set_option linter.unusedVariables false
set_option linter.unusedSimpArgs false
open Go.RowKit Go.Sort Go.Lib Go.Proofs Go.Proofs.YtkmpbkgmdfeicaaGreat.Plain Go.Proofs.YtkmpbkgmdfeicaaGreat.SynP Go.Proofs.YtkmpbkgmdfeicaaGreat.SynE Go.Proofs.YtkmpbkgmdfeicaaGreat.SynD Go.Proofs.YtkmpbkgmdfeicaaGreat.SynD2 Go.Proofs.YtkmpbkgmdfeicaaGreat.SynD3 Go.Proofs.YtkmpbkgmdfeicaaGreat.SynD7
set_option linter.unusedVariables false
set_option linter.unusedSimpArgs false
def CompPost (g cap : Nat) (d : Array St) (w : World) (e : Ending) (w' : World) : Prop :=
  e = .returned (.slice (some ⟨g, 0, none⟩) (compactUpTo d d.size).length cap) ∧ StRow w' (some ⟨g, 0, none⟩) (compactUpTo d d.size) ∧ Below g w w' ∧ w.heap.size ≤ w'.heap.size
theorem holds_drewN {w : World} {g : Nat} {d : Array St} (h : HoldsK St.cells 9 w g 0 d) (n : Nat) : HoldsK St.cells 9 (w.drewN n) g 0 d := holdsK_ahead St.cells 9 w n g 0 d h
theorem all_post {g cap : Nat} {d : Array St} {w : World} (hH : HoldsK St.cells 9 w g 0 d) (hall : ∀ j, j < d.size → keeps d j = true) (n : Nat) : CompPost g cap d w (.returned (.slice (some ⟨g, 0, none⟩) d.size cap)) (w.drewN n) := by
  have e : compactUpTo d d.size = d.toList := by rw [compactUpTo_all d _ hall, range_map_get]
  refine ⟨?_, ?_, ?_, Nat.le_refl _⟩
  · rw [e, Array.length_toList]
  · rw [e]
    refine StRow.of_holds (holds_drewN hH n) _ (by simp) fun j hj => ?_
    rw [getElem!_pos d j (by simpa using hj)]; simp
  · exact below_drewN (Below.refl _ _) _
/-- The nine cells of a row's element. -/
theorem nine {w : World} {g : Nat} {d : Array St} (h : HoldsK St.cells 9 w g 0 d) (j : Nat) (hj : j < d.size) : ∀ c u, d[j]!.cells[c]? = some u → w.cell? ⟨g, j * 9 + c, none⟩ = some u := fun c u hu => by
  have hc : c < 9 := by
    rcases Nat.lt_or_ge c 9 with h | h
    · exact h
    · rw [List.getElem?_eq_none (by show 9 ≤ c; exact h)] at hu; cases hu
  have q := (HoldsK.cell h (i := j) (c := c) hj hc).1
  rw [Nat.zero_add] at q
  rw [q, getElem!_pos _ _ (by rw [len9]; exact hc), ← List.getElem?_eq_getElem, hu]
theorem there_of {w : World} {g : Nat} {d : Array St} (h : HoldsK St.cells 9 w g 0 d) (i : Nat) (hi : i < d.size) : w.there g (i * 9) 9 := fun c hc => by
  have q := HoldsK.cell h (i := i) (c := c) hi hc
  rw [Nat.zero_add] at q
  exact ⟨by rw [q.1]; rfl, q.2⟩
theorem there_all {w : World} {g : Nat} {d : Array St} (h : HoldsK St.cells 9 w g 0 d) (i : Nat) (hi : i < d.size) : w.there g (i * 9) ((d.size - i) * 9) := fun c hc => by
  have q := HoldsK.cell h (i := i + c / 9) (c := c % 9) (by omega) (by omega)
  rw [Nat.zero_add, show (i + c / 9) * 9 + c % 9 = i * 9 + c by omega] at q
  exact ⟨by rw [q.1]; rfl, q.2⟩
theorem infoSz : (Tryz.prog.info? 46).map (·.size) = some 9 := by kernel_rfl
theorem stcell_one (x : St) : ∀ v ∈ x.cells, v.oneCell' = true := fun v hv => by
  simp [St.cells] at hv
  rcases hv with rfl | rfl | rfl | rfl | rfl | rfl | rfl | rfl | rfl <;> rfl
theorem store0 {W : World} {g : Nat} {d : Array St} (h : HoldsK St.cells 9 W g 0 d) (i : Nat) (hi : i < d.size) (x : St) : HoldsK St.cells 9 (W.setCells g (i * 9) x.cells) g 0 (d.setIfInBounds i x) := by
  have := holdsK_store len9 (by omega) h i hi x
  rw [Nat.zero_add] at this
  exact this
def clr (n : Nat) : List Value := (Builtin.zeroCells zeroS.val.cells n).toList
theorem clr_len (n : Nat) : (clr n).length = n * 9 := by
  unfold clr Builtin.zeroCells
  simp; rfl
theorem clr_one (n : Nat) : ∀ v ∈ clr n, v.oneCell' = true := by
  intro v hv
  unfold clr Builtin.zeroCells at hv
  simp at hv
  obtain ⟨i, hi, rfl⟩ := hv
  have h9 : zeroS.val.cells.size = 9 := rfl
  have hlt : i % zeroS.val.cells.size < 9 := by rw [h9]; omega
  generalize i % zeroS.val.cells.size = r at hlt
  match r, hlt with
  | 0, _ => rfl
  | 1, _ => rfl
  | 2, _ => rfl
  | 3, _ => rfl
  | 4, _ => rfl
  | 5, _ => rfl
  | 6, _ => rfl
  | 7, _ => rfl
  | 8, _ => rfl
theorem run_clear9 (w : World) (b o n c : Nat) (hn : 0 < n) (ht : w.there b o (n * 9)) (ty : TypeId) : (Builtin.clear_ #[22] ty #[.slice (some ⟨b, o, none⟩) n c]).run Tryz.prog w = .ok (.tuple #[]) (w.setCells b o (clr n)) := by
  have hst := run_storeCells_cells (P := Tryz.prog) b o (clr n) 0 w (fun j hj => by rw [clr_len] at hj; simpa using (ht j hj).1) (fun j hj => by rw [clr_len] at hj; simpa using (ht j hj).2) (clr_one n)
  simp only [Nat.add_zero] at hst
  obtain ⟨m, rfl⟩ : ∃ m, n = m + 1 := ⟨n - 1, by omega⟩
  have hv : (zeroValue 46).run Tryz.prog w = .ok zeroS.val w := Tryz.zeroValue46 w
  have hc : (Builtin.zeroCells zeroS.val.cells (m + 1)).toList = clr (m + 1) := rfl
  simp [Builtin.clear_, run_underlying Tryz.underlying22, hv, hc, hst]
theorem wp_clear_run {P : Program} (w : World) {o : Oper} {a : Act} {K : Act → World → Prop} {Q : Exit → Act → World → Prop} (s : Operand) (t : TypeId)
    (ho : o.op = .call { callee := .builtin .clear, args := #[s], argTypes := #[t] }) (vs : Value) (hs : a.eval s = vs)
    (v' : Value) (w' : World) (hr : (Builtin.clear_ #[t] o.type #[vs]).run P w = .ok v' w') (h : K (a.put o.dst v') w') : o.wp P a w K Q := by
  unfold Oper.wp execOp
  simp only [ho, resolve, invoke, builtin, Sem.run_bind, Sem.run_pure, Result.andThen_ok, List.map_toArray, List.map_cons, List.map_nil, hs, hr]
  exact h
theorem wpList_clear_run {P : Program} (w : World) {ops : Array Oper} {rest : List Oper} {o : Oper} {a : Act} {Q : Exit → Act → World → Prop} (hgd : o.guard = none) (s : Operand) (t : TypeId)
    (ho : o.op = .call { callee := .builtin .clear, args := #[s], argTypes := #[t] }) (vs : Value) (hs : a.eval s = vs)
    (v' : Value) (w' : World) (hr : (Builtin.clear_ #[t] o.type #[vs]).run P w = .ok v' w') (h : wpList P ops Q rest (a.put o.dst v') w') : wpList P ops Q (o :: rest) a w :=
  wpList_plain hgd fun _ hK => wp_clear_run w s t ho vs hs v' w' hr (hK _ _ h)
theorem StRow.set_out {w : World} {g o : Nat} {R : List St} (h : StRow w (some ⟨g, 0, none⟩) R) (ho : R.length * 9 ≤ o) (vs : List Value) : StRow (w.setCells g o vs) (some ⟨g, 0, none⟩) R := fun hp => by
  obtain ⟨g', hA, hg, hc⟩ := h hp
  injection hA with hA
  injection hA with hA
  subst hA
  refine ⟨g, rfl, by rw [size_setCells]; exact hg, fun j hj => ?_⟩
  have key : ∀ i, i < R.length * 9 → (w.setCells g o vs).cell? ⟨g, i, none⟩ = w.cell? ⟨g, i, none⟩ := fun i hi => World.cell?_setCells_out g vs o w ⟨g, i, none⟩ (fun _ _ => Or.inl (by show i < o; omega))
  rw [key _ (by omega), key _ (by omega), key _ (by omega), key _ (by omega), key _ (by omega), key _ (by omega), key _ (by omega), key _ (by omega), key _ (by omega)]
  exact hc j hj
theorem clear_post {g cap kk : Nat} {d dk : Array St} {w wr : World} (hH : HoldsK St.cells 9 wr g 0 dk) (hb : Below g w wr) (hs : w.heap.size ≤ wr.heap.size) (hI : CompInv d d.size kk dk) : CompPost g cap d w (.returned (.slice (some ⟨g, 0, none⟩) kk cap)) (wr.setCells g (kk * 9) (clr (dk.size - kk))) := by
  have hk := hI.lt
  have hz := hI.size
  refine ⟨by rw [hI.len], ?_, below_setCells (Nat.le_refl _) _ _ _ hb, by rw [size_setCells]; exact hs⟩
  refine StRow.set_out (StRow.of_holds hH _ (by rw [hI.len]; omega) (inv_low hI rfl (by omega))) (by rw [hI.len]; exact Nat.le_refl _) _
set_option maxHeartbeats 4000000 in
set_option maxRecDepth 1000000 in
theorem compSt (g cap : Nat) (d : Array St) (w : World) (hH : HoldsK St.cells 9 w g 0 d) (hg : g < w.heap.size) (hsz : d.size ≤ 100000) (hcap : d.size ≤ cap) :
    Calls Tryz.prog 97 #[.slice (some ⟨g, 0, none⟩) d.size cap] w (CompPost g cap d w) := by
  have HH := Lib.hid hH
  clear hH
  by_cases h2 : d.size < 2
  · have HS := Lib.hid (fun n => all_post (cap := cap) HH.out (fun j hj => keeps_lt_one d j (by omega)) n)
    go_enter Tryz.func97, Tryz.ntmps97
    go_wp2_with fail
    go_ret
    exact HS.out 0
  · go_enter Tryz.func97, Tryz.ntmps97
    go_wp2_with fail
    go_loopg [3] d.size (fun gh s3 wr => ∃ k q : Nat, 1 ≤ k ∧ k ≤ d.size ∧ d.size - k ≤ gh ∧ s3 = .int .i64 k ∧ wr = w.drewN q ∧ Hid (∀ j, j < k → keeps d j = true))
    case atStart => exact ⟨1, 0, Nat.le_refl _, by omega, by omega, rfl, rfl, Lib.hid (keeps_lt_one d)⟩
    case round =>
      obtain ⟨k, q, hk1, hk, hgh, rfl, rfl, hall⟩ := hrel
      by_cases hlt : k < d.size
      · have c1 := nine HH.out k hlt
        have c0 := nine HH.out (k - 1) (by omega)
        generalize hx : d[k]! = x at c1
        generalize hy : d[k - 1]! = y at c0
        have B := Lib.hid (And.intro hx hy)
        clear hx hy
        obtain ⟨k1, ⟨ho, hn⟩, wh, ⟨ao, an⟩, ⟨bo, bn⟩, v⟩ := x
        obtain ⟨k2, ⟨ho2, hn2⟩, wh2, ⟨ao2, an2⟩, ⟨bo2, bn2⟩, v2⟩ := y
        have a0 := c1 0 _ rfl
        have a1 := c1 1 _ rfl
        have a2 := c1 2 _ rfl
        have a3 := c1 3 _ rfl
        have a4 := c1 4 _ rfl
        have a5 := c1 5 _ rfl
        have a6 := c1 6 _ rfl
        have a7 := c1 7 _ rfl
        have a8 := c1 8 _ rfl
        have b0 := c0 0 _ rfl
        have b1 := c0 1 _ rfl
        have b2 := c0 2 _ rfl
        have b3 := c0 3 _ rfl
        have b4 := c0 4 _ rfl
        have b5 := c0 5 _ rfl
        have b6 := c0 6 _ rfl
        have b7 := c0 7 _ rfl
        have b8 := c0 8 _ rfl
        rw [Nat.add_zero] at a0 b0
        have p1 : (0 : Int) ≤ k := by omega
        have p2 : (k : Int) < d.size := by omega
        have p3 : (0 : Int) ≤ (k : Int) - 1 := by omega
        have p4 : (k : Int) - 1 < d.size := by omega
        have p5 : ((k : Int) - 1).toNat = k - 1 := by omega
        clear c0 c1
        by_cases hdup : (⟨k1, ⟨ho, hn⟩, wh, ⟨ao, an⟩, ⟨bo, bn⟩, v⟩ : St) = ⟨k2, ⟨ho2, hn2⟩, wh2, ⟨ao2, an2⟩, ⟨bo2, bn2⟩, v2⟩
        · have hq := fun w => eqS k1 ho hn wh ao an bo bn v k2 ho2 hn2 wh2 ao2 an2 bo2 bn2 v2 w
          rw [decide_eq_true (p := (⟨k1, ⟨ho, hn⟩, wh, ⟨ao, an⟩, ⟨bo, bn⟩, v⟩ : St) = ⟨k2, ⟨ho2, hn2⟩, wh2, ⟨ao2, an2⟩, ⟨bo2, bn2⟩, v2⟩) hdup] at hq
          have HD := Lib.hid hdup
          clear hdup
          go_wp2_with fail
          go_quiet (fail)
          go_wp2_with fail
          clear a0 a1 a2 a3 a4 a5 a6 a7 a8 b0 b1 b2 b3 b4 b5 b6 b7 b8 hq p3 p4 p5
          have hst := Lib.hid (CompInv.start hall.out (keeps_neg (by omega) (by rw [B.out.1, B.out.2]; exact HD.out)))
          clear HD B
          go_loopg [3, 5] d.size (fun gh2 s3 s5 wr => ∃ (kk kq : Nat) (dk : Array St), s3 = .int .i64 kk ∧ s5 = .int .i64 kq ∧ 1 ≤ kq ∧ k + kq ≤ d.size ∧ d.size - (k + kq) ≤ gh2 ∧ Hid (HoldsK St.cells 9 wr g 0 dk) ∧ Below g w wr ∧ w.heap.size ≤ wr.heap.size ∧ Hid (CompInv d (k + kq) kk dk))
          case atStart => exact ⟨k, 1, d, rfl, rfl, Nat.le_refl _, by omega, by omega, Lib.hid (holds_drewN HH.out _), below_drewN (Below.refl _ _) _, Nat.le_refl _, hst⟩
          case round =>
            obtain ⟨kk, kq, dk, rfl, rfl, h1, hle, hg2, hHk, hbel, hszr, hI⟩ := hrel
            have hkk := hI.out.lt
            have hds := hI.out.size
            by_cases hlt2 : k + kq < d.size
            · have c1 := nine hHk.out (k + kq) (by omega)
              have c0 := nine hHk.out (k + kq - 1) (by omega)
              rw [hI.out.high (k + kq) (by omega)] at c1
              rw [hI.out.high (k + kq - 1) (by omega)] at c0
              generalize hx : d[k + kq]! = x at c1
              generalize hy : d[k + kq - 1]! = y at c0
              have C := Lib.hid (And.intro hx hy)
              clear hx hy
              have hth := Lib.hid (fun n => there_of (holds_drewN hHk.out n) kk (by omega))
              obtain ⟨k1, ⟨ho, hn⟩, wh, ⟨ao, an⟩, ⟨bo, bn⟩, v⟩ := x
              obtain ⟨k2, ⟨ho2, hn2⟩, wh2, ⟨ao2, an2⟩, ⟨bo2, bn2⟩, v2⟩ := y
              have a0 := c1 0 _ rfl
              have a1 := c1 1 _ rfl
              have a2 := c1 2 _ rfl
              have a3 := c1 3 _ rfl
              have a4 := c1 4 _ rfl
              have a5 := c1 5 _ rfl
              have a6 := c1 6 _ rfl
              have a7 := c1 7 _ rfl
              have a8 := c1 8 _ rfl
              have b0 := c0 0 _ rfl
              have b1 := c0 1 _ rfl
              have b2 := c0 2 _ rfl
              have b3 := c0 3 _ rfl
              have b4 := c0 4 _ rfl
              have b5 := c0 5 _ rfl
              have b6 := c0 6 _ rfl
              have b7 := c0 7 _ rfl
              have b8 := c0 8 _ rfl
              rw [Nat.add_zero] at a0 b0
              rw [show (k + kq) * 9 = k * 9 + kq * 9 by omega] at a0 a1 a2 a3 a4 a5 a6 a7 a8
              rw [show (k + kq - 1) * 9 = k * 9 + (kq - 1) * 9 by omega] at b0 b1 b2 b3 b4 b5 b6 b7 b8
              have q1 : (0 : Int) ≤ kq := by omega
              have q2 : (kq : Int) < (d.size - k : Nat) := by omega
              have q3 : (0 : Int) ≤ (kq : Int) - 1 := by omega
              have q4 : (kq : Int) - 1 < (d.size - k : Nat) := by omega
              have q5 : ((kq : Int) - 1).toNat = kq - 1 := by omega
              have q6 : (0 : Int) ≤ kk := by omega
              have q7 : (kk : Int) < d.size := by omega
              clear c0 c1
              by_cases hdup : (⟨k1, ⟨ho, hn⟩, wh, ⟨ao, an⟩, ⟨bo, bn⟩, v⟩ : St) = ⟨k2, ⟨ho2, hn2⟩, wh2, ⟨ao2, an2⟩, ⟨bo2, bn2⟩, v2⟩
              · have hq := fun w => neS k1 ho hn wh ao an bo bn v k2 ho2 hn2 wh2 ao2 an2 bo2 bn2 v2 w
                rw [decide_eq_true (p := (⟨k1, ⟨ho, hn⟩, wh, ⟨ao, an⟩, ⟨bo, bn⟩, v⟩ : St) = ⟨k2, ⟨ho2, hn2⟩, wh2, ⟨ao2, an2⟩, ⟨bo2, bn2⟩, v2⟩) hdup] at hq
                have HD := Lib.hid hdup
                clear hdup
                go_wp2_with fail
                go_quiet (fail)
                go_wp2_with fail
                go_roundg (d.size - (k + (kq + 1)))
                case measure => omega
                case rel => exact ⟨kk, kq + 1, dk, rfl, by go_num, by omega, by omega, Nat.le_refl _, Lib.hid (holds_drewN hHk.out _), below_drewN hbel _, hszr, Lib.hid (hI.out.skip (keeps_neg (by omega) (by rw [C.out.1, C.out.2]; exact HD.out)))⟩
              · have hq := fun w => neS k1 ho hn wh ao an bo bn v k2 ho2 hn2 wh2 ao2 an2 bo2 bn2 v2 w
                rw [decide_eq_false (p := (⟨k1, ⟨ho, hn⟩, wh, ⟨ao, an⟩, ⟨bo, bn⟩, v⟩ : St) = ⟨k2, ⟨ho2, hn2⟩, wh2, ⟨ao2, an2⟩, ⟨bo2, bn2⟩, v2⟩) hdup] at hq
                have HD := Lib.hid hdup
                clear hdup
                go_wp2_with fail
                go_quiet (fail)
                go_wp2_with ((with_reducible refine wpList_store_mid (op := ⟨none, .store 46 (.tmp 51) (.tmp 50), _, _, _, none⟩) ?_ 46 (.tmp 51) (.tmp 50) ?_ g (kk * 9) (St.cells ⟨k1, ⟨ho, hn⟩, wh, ⟨ao, an⟩, ⟨bo, bn⟩, v⟩).toArray ?_ ?_ ?_ ?_ ?_ ?_); (rfl); (rfl); (simp [Act.eval]); (simp [Act.eval, St.cells]); (exact hth.out _); (exact infoSz); (exact all_oneCell_toArray (stcell_one _)))
                go_roundg (d.size - (k + (kq + 1)))
                case measure => omega
                case rel =>
                  refine ⟨kk + 1, kq + 1, dk.setIfInBounds kk ⟨k1, ⟨ho, hn⟩, wh, ⟨ao, an⟩, ⟨bo, bn⟩, v⟩, by go_num, by go_num, by omega, by omega, Nat.le_refl _, Lib.hid ?_, below_setCells (Nat.le_refl _) _ _ _ (below_drewN hbel _), by rw [size_setCells]; exact hszr, Lib.hid ?_⟩
                  · exact store0 (holds_drewN hHk.out _) kk (by omega) _
                  · have := hI.out.keep hlt2 (keeps_pos (by rw [C.out.1, C.out.2]; exact HD.out))
                    rw [C.out.1] at this
                    exact this
            · have hend : k + kq = d.size := by omega
              have hfin := Lib.hid (clear_post (cap := cap) hHk.out hbel hszr (hend ▸ hI.out))
              have hth := Lib.hid (there_all hHk.out kk (by omega))
              have hlen := Lib.hid ((hend ▸ hI.out : CompInv d d.size kk dk).len)
              rw [hds] at hth
              clear hHk hI hend
              go_wp2_with ((with_reducible refine wpList_clear_run (o := ⟨none, .call { callee := .builtin .clear, args := #[.tmp 56], argTypes := #[22] }, _, _, _, none⟩) _ ?_ (.tmp 56) 22 ?_ (.slice (some ⟨g, kk * 9, none⟩) (d.size - kk) (cap - kk)) ?_ (.tuple #[]) (wr.setCells g (kk * 9) (clr (d.size - kk))) ?_ ?_); (rfl); (rfl); (simp [Act.eval]); (exact run_clear9 _ g (kk * 9) (d.size - kk) (cap - kk) (by omega) hth.out _))
              go_ret
              rw [hds] at hfin
              exact hfin.out
        · have hq := fun w => eqS k1 ho hn wh ao an bo bn v k2 ho2 hn2 wh2 ao2 an2 bo2 bn2 v2 w
          rw [decide_eq_false (p := (⟨k1, ⟨ho, hn⟩, wh, ⟨ao, an⟩, ⟨bo, bn⟩, v⟩ : St) = ⟨k2, ⟨ho2, hn2⟩, wh2, ⟨ao2, an2⟩, ⟨bo2, bn2⟩, v2⟩) hdup] at hq
          have HD := Lib.hid hdup
          clear hdup
          go_wp2_with fail
          go_quiet (fail)
          go_wp2_with fail
          go_roundg (d.size - (k + 1))
          case measure => omega
          case rel =>
            refine ⟨k + 1, _, by omega, by omega, Nat.le_refl _, by go_num, rfl, Lib.hid fun j hj => ?_⟩
            by_cases e : j = k
            · subst e
              exact keeps_pos (by rw [B.out.1, B.out.2]; exact HD.out)
            · exact hall.out j (by omega)
      · have : k = d.size := by omega
        subst this
        have HS := Lib.hid (fun n => all_post (cap := cap) HH.out hall.out n)
        clear hall
        go_wp2_with fail
        go_ret
        exact HS.out _
end Go.Proofs.YtkmpbkgmdfeicaaGreat.SynD8
/- syn.Sort, by contract. -/
namespace Go.Proofs.YtkmpbkgmdfeicaaGreat.SynD9
set_option linter.unusedVariables false
set_option linter.unusedSimpArgs false
open Go.Shelf Go.RowKit Go.Sort Go.Lib Go.Proofs Go.Proofs.YtkmpbkgmdfeicaaGreat.Plain Go.Proofs.YtkmpbkgmdfeicaaGreat.SynP Go.Proofs.YtkmpbkgmdfeicaaGreat.Grown Go.Proofs.YtkmpbkgmdfeicaaGreat.SynE Go.Proofs.YtkmpbkgmdfeicaaGreat.SynD Go.Proofs.YtkmpbkgmdfeicaaGreat.SynD2 Go.Proofs.YtkmpbkgmdfeicaaGreat.SynD3 Go.Proofs.YtkmpbkgmdfeicaaGreat.SynD5 Go.Proofs.YtkmpbkgmdfeicaaGreat.SynD6 Go.Proofs.YtkmpbkgmdfeicaaGreat.SynD7 Go.Proofs.YtkmpbkgmdfeicaaGreat.SynD8
set_option linter.unusedVariables false
set_option linter.unusedSimpArgs false
set_option maxHeartbeats 1000000 in
theorem compNone (a : Option Addr) (cap : Nat) (w : World) : Calls Tryz.prog 97 #[.slice a 0 cap] w fun e w' => e = .returned (.slice a 0 cap) ∧ w' = w := by
  go_enter Tryz.func97, Tryz.ntmps97
  go_wp2_with fail
  go_ret
  exact ⟨rfl, rfl⟩
theorem below_sortK {w : World} {g off n : Nat} {d : Array St} {os : Array Obj} (hg : g < w.heap.size) : Below g w (sortWorldK St.cells 9 w g off n d os) :=
  ⟨rfl, rfl, rfl, size_sortWorldK_c St.cells 9 w g off n d os, fun k hk => by
    unfold sortWorldK
    rw [heap_grow_old _ _ (by rw [size_putRowK]; exact Nat.lt_trans hk hg)]
    unfold putRowK putRow mapBlock
    show (Array.modify (Sort.ahead w n).heap g _)[k]? = _
    rw [Array.getElem?_modify, if_neg (by omega)]; rfl⟩
def SortPost (L : List St) (w : World) (e : Ending) (w' : World) : Prop := ∃ A c, e = .returned (.slice A (sortL cmpS [] L).length c) ∧ StRow w' A (sortL cmpS [] L) ∧ Below w.heap.size w w'
set_option maxHeartbeats 1000000 in
set_option maxRecDepth 100000 in
theorem sort (A : Option Addr) (ca : Nat) (L : List St) (w : World) (hL : L.length ≤ 1000) (hA : StAt w A L) : Calls Tryz.prog 56 #[.slice A L.length ca] w (SortPost L w) := by
  go_enter Tryz.func56, Tryz.ntmps56
  go_wp2_with fail
  refine (cloneSt A ca L w (by omega) hA).mono ?_
  rintro e w1 ⟨v, rfl, hown, hb1⟩
  rcases holds_own hown with ⟨rfl, rfl⟩ | ⟨g, cap, rfl, hc, hB, hg, hH⟩
  · clear hown
    go_wp2_with fail
    refine (AnyF.slices_SortFunc_none laidSort none 0 (.func (.func 96) #[] #[]) w1).mono ?_
    rintro e w2 ⟨rfl, rfl⟩
    go_wp2_with fail
    refine (compNone none 0 _).mono ?_
    rintro e w3 ⟨rfl, rfl⟩
    go_wp2_with fail
    go_ret
    exact ⟨none, 0, rfl, (fun h => by simp [sortL] at h), hb1⟩
  · clear hown
    have HS := Lib.hid (sortSt g 0 cap L.toArray w1 hH hg (by simp; omega))
    have HH := Lib.hid hH
    clear hH hA
    go_wp2_with fail
    refine (HS.out).mono ?_
    rintro e w2 ⟨rfl, d', n, os, hp, hs, hw2⟩
    have hz : d'.size = L.length := hp.1.trans (by simp)
    have hH2 : HoldsK St.cells 9 w2 g 0 d' := by rw [hw2]; exact holdsK_sortWorldK_c St.cells 9 w1 g 0 L.toArray d' n os HH.out hg (by rw [hz]; simp)
    have hb2 : Below g w1 w2 := by rw [hw2]; exact below_sortK hg
    have hgg : g < w2.heap.size := Nat.lt_of_lt_of_le hg (by rw [hw2]; exact size_sortWorldK_c St.cells 9 w1 g 0 n d' os)
    have HU := Lib.hid (sorted_up hp hs)
    have HC := Lib.hid (compSt g cap d' w2 hH2 hgg (by omega) (by omega))
    rw [hz] at HC
    clear hw2 hp hs hH2
    go_wp2_with fail
    refine (HC.out).mono ?_
    rintro e w3 ⟨rfl, hrow, hb3, hz3⟩
    have E : compactUpTo d' L.length = sortL cmpS [] L := by rw [← hz]; exact HU.out
    have hrow' : StRow w3 (some ⟨g, 0, none⟩) (sortL cmpS [] L) := HU.out ▸ hrow
    have HE := Lib.hid E
    clear E
    go_wp2_with fail
    go_ret
    exact ⟨some ⟨g, 0, none⟩, cap, by rw [← HE.out]; rfl, hrow', hb1.trans ((hb2.trans (hb3.mono (Nat.le_refl _))).mono hB)⟩
end Go.Proofs.YtkmpbkgmdfeicaaGreat.SynD9
/- Which policies may be: policy.Right, by contract. -/
namespace Go.Proofs.YtkmpbkgmdfeicaaGreat.PolM
set_option linter.unusedVariables false
set_option linter.unusedSimpArgs false
open Go.RowKit Go.Sort Go.Lib Go.Proofs Go.Proofs.YtkmpbkgmdfeicaaGreat.Plain Go.Proofs.YtkmpbkgmdfeicaaGreat.SynP Go.Proofs.YtkmpbkgmdfeicaaGreat.TabP Go.Proofs.YtkmpbkgmdfeicaaGreat.Tab1 Go.Proofs.YtkmpbkgmdfeicaaGreat.SynD Go.Proofs.YtkmpbkgmdfeicaaGreat.SynJ Go.Proofs.YtkmpbkgmdfeicaaGreat.QryP Go.Proofs.YtkmpbkgmdfeicaaGreat.PolA Go.Proofs.YtkmpbkgmdfeicaaGreat.PolD Go.Proofs.YtkmpbkgmdfeicaaGreat.PolE Go.Proofs.YtkmpbkgmdfeicaaGreat.PolG Go.Proofs.YtkmpbkgmdfeicaaGreat.PolI
set_option linter.unusedVariables false
set_option linter.unusedSimpArgs false
def sortSt (L : List St) : List St := sortL cmpS [] L
def okS (L : List St) : Bool := L.all St.right && decide (L = sortSt L)
def okR (L : List Rl) : Bool := L.all Rl.ok && decide (L = sortRl L)
theorem sortL_le {α : Type} [DecidableEq α] {c : α → α → Int} : ∀ (l acc : List α), (sortL c acc l).length ≤ acc.length + l.length
  | [], acc => by simp [sortL]
  | s :: t, acc => by
    unfold sortL
    have ih := sortL_le t (if s ∈ acc then acc else insL c s acc) (c := c)
    have hl : (if s ∈ acc then acc else insL c s acc).length ≤ acc.length + 1 := by
      split
      · omega
      · have : ∀ (l : List α), (insL c s l).length = l.length + 1 := by
          intro l
          induction l with
          | nil => rfl
          | cons x t ih => unfold insL; split <;> simp [ih]
        rw [this]; exact Nat.le_refl _
    simp; omega
set_option maxRecDepth 100000 in
theorem rightStmts (A : Option Addr) (ca : Nat) (T : List St) (w : World) (hT : T.length ≤ 1000) (hf : ∀ x ∈ T, x.fit) (hA : SG w A T) :
    Calls Tryz.prog 28 #[.slice A T.length ca] w fun e w' => e = .returned (.bool (okS T)) ∧ Below w.heap.size w w' := by
  have HE := Lib.hid (PolL.eachS A ca T w (by omega) hf hA)
  have hS : ∀ w, SG w A T → Calls Tryz.prog 56 #[.slice A T.length ca] w fun e w' => ∃ B c, e = .returned (.slice B (sortSt T).length c) ∧ SG w' B (sortSt T) ∧ Below w.heap.size w w' := fun w h => (SynD9.sort A ca T w (by omega) h.at_).mono fun e w' ⟨B, c, h1, h2, h3⟩ => ⟨B, c, h1, SG.of_row h2, h3⟩
  have HS := Lib.hid hS
  have hl : (sortSt T).length ≤ 1000 := by have := sortL_le T [] (c := cmpS); unfold sortSt; simp at this; omega
  have HQ := Lib.hid (fun B c w' hr hs => PolJ.equalS A B ca c T (sortSt T) w' (by omega) (by omega) hr hs)
  have HA := Lib.hid hA
  unfold okS
  generalize sortSt T = U at *
  clear hf hA hS
  cases hb : T.all St.right
  · rw [hb] at HE
    simp only [Bool.false_and]
    go_enter Tryz.func28, Tryz.ntmps28
    go_wp2_with fail
    refine HE.out.mono ?_
    rintro e w1 ⟨rfl, hb1⟩
    go_wp2_with fail
    go_ret
    exact ⟨rfl, hb1⟩
  · rw [hb] at HE
    simp only [Bool.true_and]
    generalize decide (T = U) = r at *
    go_enter Tryz.func28, Tryz.ntmps28
    go_wp2_with fail
    refine HE.out.mono ?_
    rintro e w1 ⟨rfl, hb1⟩
    have HA1 := Lib.hid (HA.out.below hb1)
    have HB1 := Lib.hid hb1
    clear hb1
    go_wp2_with fail
    refine (HS.out _ HA1.out).mono ?_
    rintro e w2 ⟨B, c, rfl, hr, hb2⟩
    have HR := Lib.hid hr
    have HA2 := Lib.hid (HA1.out.below hb2)
    have HB2 := Lib.hid (HB1.out.trans (hb2.mono HB1.out.size))
    clear hr hb2
    go_wp2_with fail
    refine (HQ.out B c _ HA2.out HR.out).mono ?_
    rintro e w3 ⟨rfl, n, rfl⟩
    go_wp2_with fail
    go_ret
    exact ⟨rfl, below_drewN HB2.out n⟩
set_option maxRecDepth 100000 in
theorem rightRoles (A : Option Addr) (ca : Nat) (T : List Rl) (w : World) (hT : T.length ≤ 1000) (hf : ∀ x ∈ T, x.light) (hA : RG w A T) :
    Calls Tryz.prog 29 #[.slice A T.length ca] w fun e w' => e = .returned (.bool (okR T)) ∧ Below w.heap.size w w' := by
  have HE := Lib.hid (PolL.eachR A ca T w (by omega) hf hA)
  have hS : ∀ w, RG w A T → Calls Tryz.prog 57 #[.slice A T.length ca] w fun e w' => ∃ B c, e = .returned (.slice B (sortRl T).length c) ∧ RG w' B (sortRl T) ∧ Below w.heap.size w w' := fun w h => (PolD.sortRoles A ca T w (by omega) h).mono fun e w' ⟨B, c, h1, h2, h3⟩ => ⟨B, c, h1, h2, h3⟩
  have HS := Lib.hid hS
  have hl : (sortRl T).length ≤ 1000 := by have := sortL_le T [] (c := cmpR); unfold sortRl; simp at this; omega
  have HQ := Lib.hid (fun B c w' hr hs => PolJ.equalR A B ca c T (sortRl T) w' (by omega) (by omega) hr hs)
  have HA := Lib.hid hA
  unfold okR
  generalize sortRl T = U at *
  clear hf hA hS
  cases hb : T.all Rl.ok
  · rw [hb] at HE
    simp only [Bool.false_and]
    go_enter Tryz.func29, Tryz.ntmps29
    go_wp2_with fail
    refine HE.out.mono ?_
    rintro e w1 ⟨rfl, hb1⟩
    go_wp2_with fail
    go_ret
    exact ⟨rfl, hb1⟩
  · rw [hb] at HE
    simp only [Bool.true_and]
    generalize decide (T = U) = r at *
    go_enter Tryz.func29, Tryz.ntmps29
    go_wp2_with fail
    refine HE.out.mono ?_
    rintro e w1 ⟨rfl, hb1⟩
    have HA1 := Lib.hid (HA.out.below hb1)
    have HB1 := Lib.hid hb1
    clear hb1
    go_wp2_with fail
    refine (HS.out _ HA1.out).mono ?_
    rintro e w2 ⟨B, c, rfl, hr, hb2⟩
    have HR := Lib.hid hr
    have HA2 := Lib.hid (HA1.out.below hb2)
    have HB2 := Lib.hid (HB1.out.trans (hb2.mono HB1.out.size))
    clear hr hb2
    go_wp2_with fail
    refine (HQ.out B c _ HA2.out HR.out).mono ?_
    rintro e w3 ⟨rfl, n, rfl⟩
    go_wp2_with fail
    go_ret
    exact ⟨rfl, below_drewN HB2.out n⟩
def rightP (p : Py) : Bool := fitsP p && okS p.stmts && okR p.grow && okR p.shrink && p.asks.all Qy.right
set_option maxHeartbeats 1000000 in
set_option maxRecDepth 100000 in
theorem right (p : Py) (A1 A2 A3 A4 : Option Addr) (c1 c2 c3 c4 : Nat) (w : World) (hf : p.fit) (hp : PG w A1 A2 A3 A4 p) : Calls Tryz.prog 9 #[p.val A1 A2 A3 A4 c1 c2 c3 c4] w fun e w' => e = .returned (.bool (rightP p)) ∧ Below w.heap.size w w' := by
  have H1 := Lib.hid (fun w' h => fits p A1 A2 A3 A4 c1 c2 c3 c4 w' hf h)
  have H2 := Lib.hid (fun w' h => rightStmts A1 c1 p.stmts w' hf.n1 hf.f1 h)
  have H3 := Lib.hid (fun w' h => rightRoles A2 c2 p.grow w' hf.n2 hf.f2 h)
  have H4 := Lib.hid (fun w' h => rightRoles A3 c3 p.shrink w' hf.n3 hf.f3 h)
  have H5 := Lib.hid (fun w' h => PolL.eachQ A4 c4 p.asks w' (by have := hf.n4; omega) hf.f4 h)
  have HP := Lib.hid (fun (w' : World) (h : Below w.heap.size w w') => hp.below h)
  unfold rightP
  generalize fitsP p = r1 at *
  generalize okS p.stmts = r2 at *
  generalize okR p.grow = r3 at *
  generalize okR p.shrink = r4 at *
  generalize p.asks.all Qy.right = r5 at *
  obtain ⟨S, G, H, Q⟩ := p
  clear hf hp
  unfold Py.val at *
  simp only at *
  have hbx := Lib.hid ((Below.refl w.heap.size w).alloc (Nat.le_refl _) (.cells #[.slice A1 S.length c1, .slice A2 G.length c2, .slice A3 H.length c3, .slice A4 Q.length c4] 26))
  cases r1
  · simp only [Bool.false_and, Bool.and_false]
    go_enter Tryz.func9, Tryz.ntmps9
    go_wp2_with fail
    refine (H1.out _ (HP.out _ hbx.out)).mono ?_
    rintro e w1 ⟨rfl, hb1⟩
    have HB1 := Lib.hid (hbx.out.trans (hb1.mono (by simp)))
    have hc1 : ∀ o, w1.cell? ⟨w.heap.size, o, none⟩ = (#[.slice A1 S.length c1, .slice A2 G.length c2, .slice A3 H.length c3, .slice A4 Q.length c4] : Array Value)[o]? := fun o => by rw [hb1.cell (by simp), Lib.cell_of_heap (heap_alloc_new w _)]
    have hz1 : w.heap.size < w1.heap.size := by have := hb1.size; simp at this; omega
    clear hb1
    go_wp2_with fail
    go_ret
    exact ⟨rfl, HB1.out⟩
  simp only [Bool.true_and]
  cases r2
  · simp only [Bool.false_and, Bool.and_false]
    go_enter Tryz.func9, Tryz.ntmps9
    go_wp2_with fail
    refine (H1.out _ (HP.out _ hbx.out)).mono ?_
    rintro e w1 ⟨rfl, hb1⟩
    have HB1 := Lib.hid (hbx.out.trans (hb1.mono (by simp)))
    have hc1 : ∀ o, w1.cell? ⟨w.heap.size, o, none⟩ = (#[.slice A1 S.length c1, .slice A2 G.length c2, .slice A3 H.length c3, .slice A4 Q.length c4] : Array Value)[o]? := fun o => by rw [hb1.cell (by simp), Lib.cell_of_heap (heap_alloc_new w _)]
    have hz1 : w.heap.size < w1.heap.size := by have := hb1.size; simp at this; omega
    clear hb1
    go_wp2_with fail
    refine (H2.out _ (HP.out _ HB1.out).s).mono ?_
    rintro e w2 ⟨rfl, hb2⟩
    have HB2 := Lib.hid (HB1.out.trans (hb2.mono HB1.out.size))
    have hc2 : ∀ o, w2.cell? ⟨w.heap.size, o, none⟩ = (#[.slice A1 S.length c1, .slice A2 G.length c2, .slice A3 H.length c3, .slice A4 Q.length c4] : Array Value)[o]? := fun o => (hb2.cell (p := ⟨w.heap.size, o, none⟩) hz1).trans (hc1 o)
    have hz2 : w.heap.size < w2.heap.size := by have := hb2.size; omega
    clear hb2 hc1
    go_wp2_with fail
    go_ret
    exact ⟨rfl, HB2.out⟩
  simp only [Bool.true_and]
  cases r3
  · simp only [Bool.false_and, Bool.and_false]
    go_enter Tryz.func9, Tryz.ntmps9
    go_wp2_with fail
    refine (H1.out _ (HP.out _ hbx.out)).mono ?_
    rintro e w1 ⟨rfl, hb1⟩
    have HB1 := Lib.hid (hbx.out.trans (hb1.mono (by simp)))
    have hc1 : ∀ o, w1.cell? ⟨w.heap.size, o, none⟩ = (#[.slice A1 S.length c1, .slice A2 G.length c2, .slice A3 H.length c3, .slice A4 Q.length c4] : Array Value)[o]? := fun o => by rw [hb1.cell (by simp), Lib.cell_of_heap (heap_alloc_new w _)]
    have hz1 : w.heap.size < w1.heap.size := by have := hb1.size; simp at this; omega
    clear hb1
    go_wp2_with fail
    refine (H2.out _ (HP.out _ HB1.out).s).mono ?_
    rintro e w2 ⟨rfl, hb2⟩
    have HB2 := Lib.hid (HB1.out.trans (hb2.mono HB1.out.size))
    have hc2 : ∀ o, w2.cell? ⟨w.heap.size, o, none⟩ = (#[.slice A1 S.length c1, .slice A2 G.length c2, .slice A3 H.length c3, .slice A4 Q.length c4] : Array Value)[o]? := fun o => (hb2.cell (p := ⟨w.heap.size, o, none⟩) hz1).trans (hc1 o)
    have hz2 : w.heap.size < w2.heap.size := by have := hb2.size; omega
    clear hb2 hc1
    go_wp2_with fail
    refine (H3.out _ (HP.out _ HB2.out).g).mono ?_
    rintro e w3 ⟨rfl, hb3⟩
    have HB3 := Lib.hid (HB2.out.trans (hb3.mono HB2.out.size))
    have hc3 : ∀ o, w3.cell? ⟨w.heap.size, o, none⟩ = (#[.slice A1 S.length c1, .slice A2 G.length c2, .slice A3 H.length c3, .slice A4 Q.length c4] : Array Value)[o]? := fun o => (hb3.cell (p := ⟨w.heap.size, o, none⟩) hz2).trans (hc2 o)
    have hz3 : w.heap.size < w3.heap.size := by have := hb3.size; omega
    clear hb3 hc2
    go_wp2_with fail
    go_ret
    exact ⟨rfl, HB3.out⟩
  simp only [Bool.true_and]
  cases r4
  · simp only [Bool.false_and, Bool.and_false]
    go_enter Tryz.func9, Tryz.ntmps9
    go_wp2_with fail
    refine (H1.out _ (HP.out _ hbx.out)).mono ?_
    rintro e w1 ⟨rfl, hb1⟩
    have HB1 := Lib.hid (hbx.out.trans (hb1.mono (by simp)))
    have hc1 : ∀ o, w1.cell? ⟨w.heap.size, o, none⟩ = (#[.slice A1 S.length c1, .slice A2 G.length c2, .slice A3 H.length c3, .slice A4 Q.length c4] : Array Value)[o]? := fun o => by rw [hb1.cell (by simp), Lib.cell_of_heap (heap_alloc_new w _)]
    have hz1 : w.heap.size < w1.heap.size := by have := hb1.size; simp at this; omega
    clear hb1
    go_wp2_with fail
    refine (H2.out _ (HP.out _ HB1.out).s).mono ?_
    rintro e w2 ⟨rfl, hb2⟩
    have HB2 := Lib.hid (HB1.out.trans (hb2.mono HB1.out.size))
    have hc2 : ∀ o, w2.cell? ⟨w.heap.size, o, none⟩ = (#[.slice A1 S.length c1, .slice A2 G.length c2, .slice A3 H.length c3, .slice A4 Q.length c4] : Array Value)[o]? := fun o => (hb2.cell (p := ⟨w.heap.size, o, none⟩) hz1).trans (hc1 o)
    have hz2 : w.heap.size < w2.heap.size := by have := hb2.size; omega
    clear hb2 hc1
    go_wp2_with fail
    refine (H3.out _ (HP.out _ HB2.out).g).mono ?_
    rintro e w3 ⟨rfl, hb3⟩
    have HB3 := Lib.hid (HB2.out.trans (hb3.mono HB2.out.size))
    have hc3 : ∀ o, w3.cell? ⟨w.heap.size, o, none⟩ = (#[.slice A1 S.length c1, .slice A2 G.length c2, .slice A3 H.length c3, .slice A4 Q.length c4] : Array Value)[o]? := fun o => (hb3.cell (p := ⟨w.heap.size, o, none⟩) hz2).trans (hc2 o)
    have hz3 : w.heap.size < w3.heap.size := by have := hb3.size; omega
    clear hb3 hc2
    go_wp2_with fail
    refine (H4.out _ (HP.out _ HB3.out).h).mono ?_
    rintro e w4 ⟨rfl, hb4⟩
    have HB4 := Lib.hid (HB3.out.trans (hb4.mono HB3.out.size))
    have hc4 : ∀ o, w4.cell? ⟨w.heap.size, o, none⟩ = (#[.slice A1 S.length c1, .slice A2 G.length c2, .slice A3 H.length c3, .slice A4 Q.length c4] : Array Value)[o]? := fun o => (hb4.cell (p := ⟨w.heap.size, o, none⟩) hz3).trans (hc3 o)
    have hz4 : w.heap.size < w4.heap.size := by have := hb4.size; omega
    clear hb4 hc3
    go_wp2_with fail
    go_ret
    exact ⟨rfl, HB4.out⟩
  simp only [Bool.true_and]
  cases r5
  all_goals
    try simp only [Bool.false_and, Bool.and_false, Bool.and_true]
    go_enter Tryz.func9, Tryz.ntmps9
    go_wp2_with fail
    refine (H1.out _ (HP.out _ hbx.out)).mono ?_
    rintro e w1 ⟨rfl, hb1⟩
    have HB1 := Lib.hid (hbx.out.trans (hb1.mono (by simp)))
    have hc1 : ∀ o, w1.cell? ⟨w.heap.size, o, none⟩ = (#[.slice A1 S.length c1, .slice A2 G.length c2, .slice A3 H.length c3, .slice A4 Q.length c4] : Array Value)[o]? := fun o => by rw [hb1.cell (by simp), Lib.cell_of_heap (heap_alloc_new w _)]
    have hz1 : w.heap.size < w1.heap.size := by have := hb1.size; simp at this; omega
    clear hb1
    go_wp2_with fail
    refine (H2.out _ (HP.out _ HB1.out).s).mono ?_
    rintro e w2 ⟨rfl, hb2⟩
    have HB2 := Lib.hid (HB1.out.trans (hb2.mono HB1.out.size))
    have hc2 : ∀ o, w2.cell? ⟨w.heap.size, o, none⟩ = (#[.slice A1 S.length c1, .slice A2 G.length c2, .slice A3 H.length c3, .slice A4 Q.length c4] : Array Value)[o]? := fun o => (hb2.cell (p := ⟨w.heap.size, o, none⟩) hz1).trans (hc1 o)
    have hz2 : w.heap.size < w2.heap.size := by have := hb2.size; omega
    clear hb2 hc1
    go_wp2_with fail
    refine (H3.out _ (HP.out _ HB2.out).g).mono ?_
    rintro e w3 ⟨rfl, hb3⟩
    have HB3 := Lib.hid (HB2.out.trans (hb3.mono HB2.out.size))
    have hc3 : ∀ o, w3.cell? ⟨w.heap.size, o, none⟩ = (#[.slice A1 S.length c1, .slice A2 G.length c2, .slice A3 H.length c3, .slice A4 Q.length c4] : Array Value)[o]? := fun o => (hb3.cell (p := ⟨w.heap.size, o, none⟩) hz2).trans (hc2 o)
    have hz3 : w.heap.size < w3.heap.size := by have := hb3.size; omega
    clear hb3 hc2
    go_wp2_with fail
    refine (H4.out _ (HP.out _ HB3.out).h).mono ?_
    rintro e w4 ⟨rfl, hb4⟩
    have HB4 := Lib.hid (HB3.out.trans (hb4.mono HB3.out.size))
    have hc4 : ∀ o, w4.cell? ⟨w.heap.size, o, none⟩ = (#[.slice A1 S.length c1, .slice A2 G.length c2, .slice A3 H.length c3, .slice A4 Q.length c4] : Array Value)[o]? := fun o => (hb4.cell (p := ⟨w.heap.size, o, none⟩) hz3).trans (hc3 o)
    have hz4 : w.heap.size < w4.heap.size := by have := hb4.size; omega
    clear hb4 hc3
    go_wp2_with fail
    refine (H5.out _ (HP.out _ HB4.out).q).mono ?_
    rintro e w5 ⟨rfl, hb5⟩
    have HB5 := Lib.hid (HB4.out.trans (hb5.mono HB4.out.size))
    have hc5 : ∀ o, w5.cell? ⟨w.heap.size, o, none⟩ = (#[.slice A1 S.length c1, .slice A2 G.length c2, .slice A3 H.length c3, .slice A4 Q.length c4] : Array Value)[o]? := fun o => (hb5.cell (p := ⟨w.heap.size, o, none⟩) hz4).trans (hc4 o)
    have hz5 : w.heap.size < w5.heap.size := by have := hb5.size; omega
    clear hb5 hc4
    go_wp2_with fail
    go_ret
    exact ⟨rfl, HB5.out⟩
end Go.Proofs.YtkmpbkgmdfeicaaGreat.PolM
/- A policy that asks nothing, in order: policy.Normal, by contract. -/
namespace Go.Proofs.YtkmpbkgmdfeicaaGreat.PolT
set_option linter.unusedVariables false
set_option linter.unusedSimpArgs false
open Go.RowKit Go.Sort Go.Lib Go.Proofs Go.Proofs.YtkmpbkgmdfeicaaGreat.Plain Go.Proofs.YtkmpbkgmdfeicaaGreat.SynP Go.Proofs.YtkmpbkgmdfeicaaGreat.TabP Go.Proofs.YtkmpbkgmdfeicaaGreat.Tab1 Go.Proofs.YtkmpbkgmdfeicaaGreat.Grown Go.Proofs.YtkmpbkgmdfeicaaGreat.SynC Go.Proofs.YtkmpbkgmdfeicaaGreat.SynD2 Go.Proofs.YtkmpbkgmdfeicaaGreat.SynD3 Go.Proofs.YtkmpbkgmdfeicaaGreat.SynS Go.Proofs.YtkmpbkgmdfeicaaGreat.SynV Go.Proofs.YtkmpbkgmdfeicaaGreat.SynJ Go.Proofs.YtkmpbkgmdfeicaaGreat.QryP Go.Proofs.YtkmpbkgmdfeicaaGreat.PolA Go.Proofs.YtkmpbkgmdfeicaaGreat.PolD Go.Proofs.YtkmpbkgmdfeicaaGreat.PolE Go.Proofs.YtkmpbkgmdfeicaaGreat.PolG Go.Proofs.YtkmpbkgmdfeicaaGreat.PolK Go.Proofs.YtkmpbkgmdfeicaaGreat.PolM
set_option linter.unusedVariables false
set_option linter.unusedSimpArgs false
def normS (L : List St) (k : Nat) : List St := (L.take k).map St.normal
theorem normS_succ {L : List St} {k : Nat} (h : k < L.length) : normS L (k + 1) = normS L k ++ [L[k].normal] := by
  unfold normS; rw [List.take_succ_eq_append_getElem h, List.map_append, List.map_singleton]
theorem normS_len (L : List St) (k : Nat) : (normS L k).length ≤ L.length := by unfold normS; simp; omega
theorem stCells_snoc (L : List St) (s : St) : stCells (L ++ [s]) = stCells L ++ s.cells := by rw [stCells_app]; simp [stCells]
def zero4 : Obj := .cells #[.slice none 0 0, .slice none 0 0, .slice none 0 0, .slice none 0 0] 26
theorem rg_set {X : World} {A : Option Addr} {L : List Rl} (h : RG X A L) {n : Nat} {a b c d : Value} {t : TypeId} (hn : X.heap[n]? = some (.cells #[a, b, c, d] t (0, 0))) (ha : (∀ s, a ≠ .string s) ∧ (∀ s, b ≠ .string s) ∧ (∀ s, c ≠ .string s) ∧ (∀ s, d ≠ .string s)) (i : Nat) (v : Value) : RG (X.setCell ⟨n, i, none⟩ v) A L := fun hp => by
  obtain ⟨g, o, e, hg, hc⟩ := h hp
  have hne : n ≠ g := by
    intro e
    subst e
    have h0 := (hc 0 hp).1
    rw [Lib.cell_of_heap hn] at h0
    obtain ⟨h1, h2, h3, h4⟩ := ha
    match hm : o + 0 * 2 with
    | 0 => rw [hm] at h0; injection h0 with h0; exact h1 _ h0
    | 1 => rw [hm] at h0; injection h0 with h0; exact h2 _ h0
    | 2 => rw [hm] at h0; injection h0 with h0; exact h3 _ h0
    | 3 => rw [hm] at h0; injection h0 with h0; exact h4 _ h0
    | k + 4 => rw [hm] at h0; simp at h0
  exact ⟨g, o, e, by rw [set_size]; exact hg, fun j hj => by rw [set_far _ _ _ _ _ _ hne, set_far _ _ _ _ _ _ hne]; exact hc j hj⟩
theorem sg_set {X : World} {A : Option Addr} {L : List St} (h : SG X A L) {n : Nat} {a b c d : Value} {t : TypeId} (hn : X.heap[n]? = some (.cells #[a, b, c, d] t (0, 0))) (ha : (∀ s, a ≠ .int .i64 s) ∧ (∀ s, b ≠ .int .i64 s) ∧ (∀ s, c ≠ .int .i64 s) ∧ (∀ s, d ≠ .int .i64 s)) (i : Nat) (v : Value) : SG (X.setCell ⟨n, i, none⟩ v) A L := fun hp => by
  obtain ⟨g, o, e, hg, hc⟩ := h hp
  have hne : n ≠ g := by
    intro e
    subst e
    have h0 := (hc 0 hp).1
    rw [Lib.cell_of_heap hn] at h0
    obtain ⟨h1, h2, h3, h4⟩ := ha
    match hm : o + 0 * 9 with
    | 0 => rw [hm] at h0; injection h0 with h0; exact h1 _ h0
    | 1 => rw [hm] at h0; injection h0 with h0; exact h2 _ h0
    | 2 => rw [hm] at h0; injection h0 with h0; exact h3 _ h0
    | 3 => rw [hm] at h0; injection h0 with h0; exact h4 _ h0
    | k + 4 => rw [hm] at h0; simp at h0
  refine ⟨g, o, e, by rw [set_size]; exact hg, fun j hj => ?_⟩
  rw [set_far _ _ _ _ _ _ hne, set_far _ _ _ _ _ _ hne, set_far _ _ _ _ _ _ hne, set_far _ _ _ _ _ _ hne, set_far _ _ _ _ _ _ hne, set_far _ _ _ _ _ _ hne, set_far _ _ _ _ _ _ hne, set_far _ _ _ _ _ _ hne, set_far _ _ _ _ _ _ hne]; exact hc j hj
theorem slice_ne (A : Option Addr) (n c : Nat) : (∀ s, Value.slice A n c ≠ .string s) ∧ (∀ s, Value.slice A n c ≠ .int .i64 s) := ⟨(fun s h => by cases h), (fun s h => by cases h)⟩
def NormPost (S : List St) (G H : List Rl) (w : World) (e : Ending) (w' : World) : Prop := ∃ B1 k1 B2 k2 B3 k3, e = .returned (.agg #[.slice B1 (sortSt (normS S S.length)).length k1, .slice B2 (sortRl G).length k2, .slice B3 (sortRl H).length k3, .slice none 0 0]) ∧ SG w' B1 (sortSt (normS S S.length)) ∧ RG w' B2 (sortRl G) ∧ RG w' B3 (sortRl H) ∧ Below w.heap.size w w'
theorem keepN {w x y : World} {B : Nat} {u v : Value} (h : Below w.heap.size w x ∧ x.cell? ⟨w.heap.size, 1, none⟩ = some u ∧ x.cell? ⟨w.heap.size, 2, none⟩ = some v) (hb : Below B x y) (hB : w.heap.size < B) : Below w.heap.size w y ∧ y.cell? ⟨w.heap.size, 1, none⟩ = some u ∧ y.cell? ⟨w.heap.size, 2, none⟩ = some v :=
  ⟨h.1.trans (hb.mono (by omega)), (hb.cell (p := ⟨w.heap.size, 1, none⟩) hB).trans h.2.1, (hb.cell (p := ⟨w.heap.size, 2, none⟩) hB).trans h.2.2⟩
theorem keepN' {w x y : World} {u v : Value} (h : Below w.heap.size w x ∧ x.cell? ⟨w.heap.size, 1, none⟩ = some u ∧ x.cell? ⟨w.heap.size, 2, none⟩ = some v) (hb : Below x.heap.size x y) : Below w.heap.size w y ∧ y.cell? ⟨w.heap.size, 1, none⟩ = some u ∧ y.cell? ⟨w.heap.size, 2, none⟩ = some v :=
  keepN h hb (World.block_lt_of_cell? _ _ h.2.1)
theorem keepN4 {w x : World} {n : Nat} {u v : Value} (h : Below w.heap.size w x ∧ x.cell? ⟨w.heap.size, 1, none⟩ = some u ∧ x.cell? ⟨w.heap.size, 2, none⟩ = some v) (hn : w.heap.size < n) (a b c d : Value) : Below w.heap.size w ((((x.setCell ⟨n, 0, none⟩ a).setCell ⟨n, 1, none⟩ b).setCell ⟨n, 2, none⟩ c).setCell ⟨n, 3, none⟩ d) ∧ ((((x.setCell ⟨n, 0, none⟩ a).setCell ⟨n, 1, none⟩ b).setCell ⟨n, 2, none⟩ c).setCell ⟨n, 3, none⟩ d).cell? ⟨w.heap.size, 1, none⟩ = some u ∧ ((((x.setCell ⟨n, 0, none⟩ a).setCell ⟨n, 1, none⟩ b).setCell ⟨n, 2, none⟩ c).setCell ⟨n, 3, none⟩ d).cell? ⟨w.heap.size, 2, none⟩ = some v := by
  have hne : n ≠ w.heap.size := by omega
  refine ⟨(((h.1.setCell (by show w.heap.size ≤ n; omega) _).setCell (by show w.heap.size ≤ n; omega) _).setCell (by show w.heap.size ≤ n; omega) _).setCell (by show w.heap.size ≤ n; omega) _, ?_, ?_⟩
  · rw [set_far _ _ _ _ _ _ hne, set_far _ _ _ _ _ _ hne, set_far _ _ _ _ _ _ hne, set_far _ _ _ _ _ _ hne]; exact h.2.1
  · rw [set_far _ _ _ _ _ _ hne, set_far _ _ _ _ _ _ hne, set_far _ _ _ _ _ _ hne, set_far _ _ _ _ _ _ hne]; exact h.2.2
set_option maxHeartbeats 2000000 in
set_option maxRecDepth 100000 in
theorem normal0 (A1 A2 A3 A4 : Option Addr) (c1 c2 c3 c4 : Nat) (S : List St) (G H : List Rl) (w : World) (n1 : S.length ≤ 1000) (n2 : G.length ≤ 1000) (n3 : H.length ≤ 1000) (h1 : SG w A1 S) (h2 : RG w A2 G) (h3 : RG w A3 H) :
    Calls Tryz.prog 17 #[.agg #[.slice A1 S.length c1, .slice A2 G.length c2, .slice A3 H.length c3, .slice A4 0 c4]] w (NormPost S G H w) := by
  obtain ⟨i0, hi, hz0, hz1, hz2⟩ := info_parts infoStB
  unfold NormPost
  have H1 := Lib.hid (fun (wr : World) (h : Below w.heap.size w wr) => h1.below h)
  have H2 := Lib.hid (fun (wr : World) (h : Below w.heap.size w wr) => h2.below h)
  have H3 := Lib.hid (fun (wr : World) (h : Below w.heap.size w wr) => h3.below h)
  have hb0 : Below (w.heap.size + 2) ((w.alloc (.cells #[.slice A1 S.length c1, .slice A2 G.length c2, .slice A3 H.length c3, .slice A4 0 c4] 26)).alloc zero4) ((w.alloc (.cells #[.slice A1 S.length c1, .slice A2 G.length c2, .slice A3 H.length c3, .slice A4 0 c4] 26)).alloc zero4) := Below.refl _ _
  have hlow : ∀ wr, Below (w.heap.size + 2) ((w.alloc (.cells #[.slice A1 S.length c1, .slice A2 G.length c2, .slice A3 H.length c3, .slice A4 0 c4] 26)).alloc zero4) wr → Below w.heap.size w wr ∧ (∀ o, wr.cell? ⟨w.heap.size, o, none⟩ = (#[.slice A1 S.length c1, .slice A2 G.length c2, .slice A3 H.length c3, .slice A4 0 c4] : Array Value)[o]?) ∧ wr.heap[w.heap.size + 1]? = some zero4 ∧ w.heap.size + 2 ≤ wr.heap.size := fun wr h => by
    refine ⟨(((Below.refl w.heap.size w).alloc (Nat.le_refl _) _).alloc (by simp) _).trans (h.mono (by omega)), fun o => ?_, ?_, by have := h.size; simpa using this⟩
    · rw [h.cell (by simp), World.cell?_alloc_past _ _ _ (by simp), Lib.cell_of_heap (heap_alloc_new w _)]
    · rw [h.block _ (by omega)]
      have := heap_alloc_new (w.alloc (.cells #[.slice A1 S.length c1, .slice A2 G.length c2, .slice A3 H.length c3, .slice A4 0 c4] 26)) zero4
      rwa [World.size_alloc] at this
  have HLow := Lib.hid hlow
  clear h1 h2 h3 hlow
  go_enter Tryz.func17, Tryz.ntmps17
  go_wp2_with fail
  go_loopw [3, 12] (fun l i wr => ∃ (k : Nat) (v : Value), k ≤ S.length ∧ l = v ∧ i = .int .i64 k ∧ Hid (wr.ownsRow (w.heap.size + 2) 46 9 v (normS S k).length (stCells (normS S k))) ∧ Below (w.heap.size + 2) ((w.alloc (.cells #[.slice A1 S.length c1, .slice A2 G.length c2, .slice A3 H.length c3, .slice A4 0 c4] 26)).alloc zero4) wr) (fun _ i _ => S.length - (intOf i).toNat)
  case atStart => exact ⟨0, _, by omega, rfl, rfl, Lib.hid (World.ownsRow_nil _ _ _ _), Below.refl _ _⟩
  case round =>
    obtain ⟨k, v1, hk, rfl, rfl, hown, hbel⟩ := hrel
    obtain ⟨hlw, hcw, hrw, zr⟩ := HLow.out _ hbel
    have hln := normS_len S k
    by_cases hlt : k < S.length
    · have d1 : decide ((k : Int) < S.length) = true := by simp; omega
      have p1 : (0 : Int) ≤ k := by omega
      have p2 : (k : Int) < S.length := by omega
      obtain ⟨g, o, e1, hg, hc⟩ := (H1.out _ hlw) (by omega)
      obtain rfl := e1
      obtain ⟨a0, a1, a2, a3, a4, a5, a6, a7, a8⟩ := hc k hlt
      have hN : ∀ w', Calls Tryz.prog 54 #[.agg #[.int .i64 S[k].kind, .string S[k].head.owner, .string S[k].head.name, .string S[k].who, .string S[k].a.owner, .string S[k].a.name, .string S[k].b.owner, .string S[k].b.name, .string S[k].via]] w' fun e w'' => e = .returned S[k].normal.val ∧ Grew w' w'' := fun w' => Syn6.normal S[k] w'
      obtain ⟨N, hNe⟩ : ∃ N, S[k].normal = N := ⟨_, rfl⟩
      rw [hNe] at hN
      have HN := Lib.hid hN
      have Hs : Hid (normS S (k + 1) = normS S k ++ [N]) := Lib.hid (by rw [normS_succ hlt, hNe])
      unfold St.val at HN
      clear hc hrw hcw hN hNe
      go_wp2_with fail
      refine (HN.out _).mono ?_
      rintro e w2 ⟨rfl, hg2⟩
      have hb2 : Below wr.heap.size wr (w2.alloc (.cells #[.int .i64 N.kind, .string N.head.owner, .string N.head.name, .string N.who, .string N.a.owner, .string N.a.name, .string N.b.owner, .string N.b.name, .string N.via] 46)) := (((Below.refl _ wr).alloc (Nat.le_refl _) (.cells #[.int .i64 S[k].kind, .string S[k].head.owner, .string S[k].head.name, .string S[k].who, .string S[k].a.owner, .string S[k].a.name, .string S[k].b.owner, .string S[k].b.name, .string S[k].via] 46)).trans (hg2.below.mono (by simp))).alloc (by have := hg2.below.size; simp at this; omega) _
      have hownW := own_at hown.out hb2
      have hbelW := hbel.trans (hb2.mono zr)
      have zW : w.heap.size + 2 ≤ (w2.alloc (.cells #[.int .i64 N.kind, .string N.head.owner, .string N.head.name, .string N.who, .string N.a.owner, .string N.a.name, .string N.b.owner, .string N.b.name, .string N.via] 46)).heap.size := Nat.le_trans zr hb2.size
      have Hsrc := Lib.hid (src_new (X := w2) rfl [.int .i64 N.kind, .string N.head.owner, .string N.head.name, .string N.who, .string N.a.owner, .string N.a.name, .string N.b.owner, .string N.b.name, .string N.via] 46)
      clear hg2 hb2 hown hbel a0 a1 a2 a3 a4 a5 a6 a7 a8
      go_wp2_with (at_builtin; refine wpList_append_from _ rfl _ _ 22 rfl (w.heap.size + 2) 46 i0 zeroS.val 9 136 Tryz.underlying22 hi hz0 hz1 hz2 rfl (by decide) _ _ _ rfl hownW (some ⟨w2.heap.size, 0, none⟩) 1 1 [.int .i64 N.kind, .string N.head.owner, .string N.head.name, .string N.who, .string N.a.owner, .string N.a.name, .string N.b.owner, .string N.b.name, .string N.via] rfl rfl (fun h => by cases h) Hsrc.out (fun u hu => by simp at hu; rcases hu with rfl | rfl | rfl | rfl | rfl | rfl | rfl | rfl | rfl <;> rfl) (by unfold maxLen; omega) (by omega) zW ?_)
      intro v2 w3 hown3 hgrow
      have hbel3 := hbelW.grown hgrow zW (fun k hk => (hownW.lt k hk).1)
      have HO4 : Hid (w3.ownsRow (w.heap.size + 2) 46 9 v2 (normS S (k + 1)).length (stCells (normS S (k + 1)))) := Lib.hid (by
        rw [Hs.out, List.length_append, stCells_snoc]; exact hown3)
      clear hownW hbelW hgrow hown3
      go_wp2_with fail
      go_roundw
      case rel => exact ⟨k + 1, v2, by omega, rfl, by go_num, HO4, hbel3⟩
      case measure => simp [intOf]; omega
    · have d1 : decide ((k : Int) < S.length) = false := by simp; omega
      have hkS : k = S.length := by omega
      subst hkS
      have HB := Lib.hid hbel
      have HO := hown
      obtain ⟨N, hNe⟩ : ∃ N, normS S S.length = N := ⟨_, rfl⟩
      rw [hNe] at HO hln
      have HNe := Lib.hid hNe
      have hnS : N.length ≤ 1000 := by omega
      obtain ⟨AN, cN, rfl, _, hNr⟩ := StRow.of_own HO.out
      have HNr := Lib.hid hNr
      clear hown hbel hNe hrw hNr
      go_wp2_with fail
      clear hcw
      go_loopw [6, 25] (fun l i wx => l = .slice none 0 0 ∧ i = .int .i64 0 ∧ wx = wr) (fun _ _ _ => 0)
      case atStart => exact ⟨rfl, rfl, rfl⟩
      case round =>
        obtain ⟨rfl, rfl, rfl⟩ := hrel
        obtain ⟨hlw, hcw, hrw, zr⟩ := HLow.out _ HB.out
        have x1 := hcw 1
        have x2 := hcw 2
        have hst : Below w.heap.size w wr.drew ∧ wr.drew.cell? ⟨w.heap.size, 1, none⟩ = some (.slice A2 G.length c2) ∧ wr.drew.cell? ⟨w.heap.size, 2, none⟩ = some (.slice A3 H.length c3) := ⟨hlw.drew, x1, x2⟩
        have HSo := Lib.hid (fun w' h => SynD9.sort AN cN N w' hnS h)
        have HS2 := Lib.hid (fun w' h => sortRoles A2 c2 G w' n2 h)
        have HS3 := Lib.hid (fun w' h => sortRoles A3 c3 H w' n3 h)
        have hn1 : w.heap.size < w.heap.size + 1 := by omega
        have HNd : Hid (StAt wr.drew AN N) := Lib.hid (SG.at_ (SG.of_row HNr.out))
        have hrwH := Lib.hid hrw
        clear hlw x1 x2 hrw hcw
        go_wp2_with fail
        have HrB := Lib.hid (fun (x : World) (h : Below w.heap.size w x ∧ x.cell? ⟨w.heap.size, 1, none⟩ = some (.slice A2 G.length c2) ∧ x.cell? ⟨w.heap.size, 2, none⟩ = some (.slice A3 H.length c3)) => h.1)
        go_region_held3 (fun x => Below w.heap.size w x ∧ x.cell? ⟨w.heap.size, 1, none⟩ = some (.slice A2 G.length c2) ∧ x.cell? ⟨w.heap.size, 2, none⟩ = some (.slice A3 H.length c3)) (first | with_reducible exact hst | with_reducible assumption | exact keepN' hst hb1 | exact keepN' (keepN' hst hb1) hb2 | exact keepN' (keepN' (keepN' hst hb1) hb2) hb3 | exact keepN4 (keepN' (keepN' (keepN' hst hb1) hb2) hb3) hn1 _ _ _ _) (first | (go_at_call 56; refine (HSo.out _ HNd.out).mono ?_; rintro e w5 ⟨B1, k1, rfl, hr1, hb1⟩) | (go_at_call 57; ((with_reducible refine (HS2.out _ ?pre).mono ?_); (case pre => exact H2.out _ (keepN' hst hb1).1); rintro e w6 ⟨B2, k2, rfl, hr2, hb2⟩)) | (go_at_call 57; ((with_reducible refine (HS3.out _ ?pre).mono ?_); (case pre => exact H3.out _ (keepN' (keepN' hst hb1) hb2).1); rintro e w7 ⟨B3, k3, rfl, hr3, hb3⟩; have zw5 : w.heap.size + 2 ≤ w5.heap.size := Nat.le_trans zr hb1.size; have zw6 : w.heap.size + 2 ≤ w6.heap.size := Nat.le_trans zw5 hb2.size; have hr7 : w7.heap[w.heap.size + 1]? = some zero4 := blk_below (blk_below (blk_below (w := wr.drew) hrwH.out hb1 (by show w.heap.size + 1 < wr.heap.size; omega)) hb2 (by omega)) hb3 (by omega); have hc7 := fun o => Lib.cell_of_heap hr7 o; have hf7 := blk_frozen hr7)))
        have q0 : w7.heap[w.heap.size + 1]? = some (.cells #[.slice none 0 0, .slice none 0 0, .slice none 0 0, .slice none 0 0] 26 (0, 0)) := hr7
        have q1 : (w7.setCell ⟨w.heap.size + 1, 0, none⟩ (.slice B1 (SynD.sortL cmpS [] N).length k1)).heap[w.heap.size + 1]? = some (.cells #[.slice B1 (SynD.sortL cmpS [] N).length k1, .slice none 0 0, .slice none 0 0, .slice none 0 0] 26 (0, 0)) := blk_set q0 0 (.slice B1 (SynD.sortL cmpS [] N).length k1)
        have q2 : ((w7.setCell ⟨w.heap.size + 1, 0, none⟩ (.slice B1 (SynD.sortL cmpS [] N).length k1)).setCell ⟨w.heap.size + 1, 1, none⟩ (.slice B2 (sortRl G).length k2)).heap[w.heap.size + 1]? = some (.cells #[.slice B1 (SynD.sortL cmpS [] N).length k1, .slice B2 (sortRl G).length k2, .slice none 0 0, .slice none 0 0] 26 (0, 0)) := blk_set q1 1 (.slice B2 (sortRl G).length k2)
        have q3 : (((w7.setCell ⟨w.heap.size + 1, 0, none⟩ (.slice B1 (SynD.sortL cmpS [] N).length k1)).setCell ⟨w.heap.size + 1, 1, none⟩ (.slice B2 (sortRl G).length k2)).setCell ⟨w.heap.size + 1, 2, none⟩ (.slice B3 (sortRl H).length k3)).heap[w.heap.size + 1]? = some (.cells #[.slice B1 (SynD.sortL cmpS [] N).length k1, .slice B2 (sortRl G).length k2, .slice B3 (sortRl H).length k3, .slice none 0 0] 26 (0, 0)) := blk_set q2 2 (.slice B3 (sortRl H).length k3)
        have q4 : ((((w7.setCell ⟨w.heap.size + 1, 0, none⟩ (.slice B1 (SynD.sortL cmpS [] N).length k1)).setCell ⟨w.heap.size + 1, 1, none⟩ (.slice B2 (sortRl G).length k2)).setCell ⟨w.heap.size + 1, 2, none⟩ (.slice B3 (sortRl H).length k3)).setCell ⟨w.heap.size + 1, 3, none⟩ (.slice none 0 0)).heap[w.heap.size + 1]? = some (.cells #[.slice B1 (SynD.sortL cmpS [] N).length k1, .slice B2 (sortRl G).length k2, .slice B3 (sortRl H).length k3, .slice none 0 0] 26 (0, 0)) := blk_set q3 3 (.slice none 0 0)
        have sl := fun (A : Option Addr) (n c : Nat) => (slice_ne A n c).1
        have si := fun (A : Option Addr) (n c : Nat) => (slice_ne A n c).2
        have s1 : SG ((((w7.setCell ⟨w.heap.size + 1, 0, none⟩ (.slice B1 (SynD.sortL cmpS [] N).length k1)).setCell ⟨w.heap.size + 1, 1, none⟩ (.slice B2 (sortRl G).length k2)).setCell ⟨w.heap.size + 1, 2, none⟩ (.slice B3 (sortRl H).length k3)).setCell ⟨w.heap.size + 1, 3, none⟩ (.slice none 0 0)) B1 (SynD.sortL cmpS [] N) := sg_set (sg_set (sg_set (sg_set ((SG.of_row hr1 |>.below hb2).below hb3) q0 ⟨si _ _ _, si _ _ _, si _ _ _, si _ _ _⟩ 0 _) q1 ⟨si _ _ _, si _ _ _, si _ _ _, si _ _ _⟩ 1 _) q2 ⟨si _ _ _, si _ _ _, si _ _ _, si _ _ _⟩ 2 _) q3 ⟨si _ _ _, si _ _ _, si _ _ _, si _ _ _⟩ 3 _
        have s2 : RG ((((w7.setCell ⟨w.heap.size + 1, 0, none⟩ (.slice B1 (SynD.sortL cmpS [] N).length k1)).setCell ⟨w.heap.size + 1, 1, none⟩ (.slice B2 (sortRl G).length k2)).setCell ⟨w.heap.size + 1, 2, none⟩ (.slice B3 (sortRl H).length k3)).setCell ⟨w.heap.size + 1, 3, none⟩ (.slice none 0 0)) B2 (sortRl G) := rg_set (rg_set (rg_set (rg_set (hr2.below hb3) q0 ⟨sl _ _ _, sl _ _ _, sl _ _ _, sl _ _ _⟩ 0 _) q1 ⟨sl _ _ _, sl _ _ _, sl _ _ _, sl _ _ _⟩ 1 _) q2 ⟨sl _ _ _, sl _ _ _, sl _ _ _, sl _ _ _⟩ 2 _) q3 ⟨sl _ _ _, sl _ _ _, sl _ _ _, sl _ _ _⟩ 3 _
        have s3 : RG ((((w7.setCell ⟨w.heap.size + 1, 0, none⟩ (.slice B1 (SynD.sortL cmpS [] N).length k1)).setCell ⟨w.heap.size + 1, 1, none⟩ (.slice B2 (sortRl G).length k2)).setCell ⟨w.heap.size + 1, 2, none⟩ (.slice B3 (sortRl H).length k3)).setCell ⟨w.heap.size + 1, 3, none⟩ (.slice none 0 0)) B3 (sortRl H) := rg_set (rg_set (rg_set (rg_set hr3 q0 ⟨sl _ _ _, sl _ _ _, sl _ _ _, sl _ _ _⟩ 0 _) q1 ⟨sl _ _ _, sl _ _ _, sl _ _ _, sl _ _ _⟩ 1 _) q2 ⟨sl _ _ _, sl _ _ _, sl _ _ _, sl _ _ _⟩ 2 _) q3 ⟨sl _ _ _, sl _ _ _, sl _ _ _, sl _ _ _⟩ 3 _
        have hbZ : Below w.heap.size w ((((w7.setCell ⟨w.heap.size + 1, 0, none⟩ (.slice B1 (SynD.sortL cmpS [] N).length k1)).setCell ⟨w.heap.size + 1, 1, none⟩ (.slice B2 (sortRl G).length k2)).setCell ⟨w.heap.size + 1, 2, none⟩ (.slice B3 (sortRl H).length k3)).setCell ⟨w.heap.size + 1, 3, none⟩ (.slice none 0 0)) := (keepN4 (keepN' (keepN' (keepN' hst hb1) hb2) hb3) hn1 _ _ _ _).1
        have hcZ := fun o => Lib.cell_of_heap q4 o
        have hE := HNe.out
        clear q0 q1 q2 q3 q4 hc7 hf7
        go_wp2_with fail
        refine bodyPost_ret (v := .agg #[.slice B1 (SynD.sortL cmpS [] N).length k1, .slice B2 (sortRl G).length k2, .slice B3 (sortRl H).length k3, .slice none 0 0]) (by simp [results, Tryz.results17, go_sem, hcZ]) rfl ⟨B1, k1, B2, k2, B3, k3, ?_, ?_, s2, s3, hbZ⟩
        · rw [hE]; rfl
        · rw [hE]; exact s1
end Go.Proofs.YtkmpbkgmdfeicaaGreat.PolT
/- A range over a function whose iterator keeps state of its own in cells: the rounds all go on. -/
namespace Go.Proofs.YtkmpbkgmdfeicaaGreat.Range
set_option linter.unusedVariables false
set_option linter.unusedSimpArgs false
open Go.RowKit
/-- Rounds that always go on: what the caller's cells hold (I) is all that the iterator has to let stand, beside what is no cells. -/
theorem rangeAll {α : Type} {n : Nat} {P : Program} {g : Operand} {ps : Array Tmp} {assign body : Code} {Q : Exit → Act → World → Prop} {a : Act} {w : World} (h1 : 1 ≤ n)
    {gf : Nat} {lb : Array Value} (hg : a.eval g = .func (.func gf) #[] lb) (eg : ∀ args w, (callFunc gf args).run P w = .ok (.enter gf args) w)
    {encs : α → Array Value} (hps : ∀ x, (encs x).size = ps.size) {S : List α → Prop} {N : Nat} {Ok : α → Prop} {Kp : World → World → Prop} (hKt : ∀ {A B C : World}, Kp A B → Kp B C → Kp A C)
    (hKb : ∀ (W : World) (l : Nat) (o o' : Obj), w.heap.size ≤ l → W.heap[l]? = some o → o.isCells = false → Kp W (W.putObj l o'))
    (I : List α → World → Prop) (hI : OwnFrom w.heap.size I) (h0 : I [] w) (a₁ : α → Act)
    (hassign : ∀ (l : Nat) (x : α) (W : World) (K : Act → World → Prop), K (a₁ x) W →
      assign.wpIn (Fence.wide.inRound l) (n - 1 - 1) P (Exit.then K (fun _ _ _ => False)) { tmps := (ps.zip (encs x)).foldl (fun t (p, v) => t.setIfInBounds p v) a.tmps, defers := [] } W)
    (hbody : ∀ (l : Nat) (pre : List α) (x : α) (W : World), I pre W → pre.length < N → Ok x → body.wpIn (Fence.wide.inRound l) (n - 1 - 1) P (ownPostK Kp I (fun _ _ _ => False) (pre ++ [x]) W) (a₁ x) W)
    (hseq : ∀ (l : Nat) (J : List α → World → Prop) (W : World), Below w.heap.size w W → (∀ pre W1, J pre W1 → I pre W1) → (∀ pre W1 W2, J pre W1 → KeepsOthers W1 W2 → I pre W2 → J pre W2) →
      (∀ pre x W1, J pre W1 → pre.length < N → Ok x → YieldAt Fence.wide (n - 1 - 1) P l (encs x) W1 fun e W2 => e = .returned (.bool true) ∧ J (pre ++ [x]) W2 ∧ Kp W1 W2) → J [] W →
      CallsIn Fence.wide (n - 1) P gf (#[.func (.yield l) #[] #[]] ++ lb) W fun e W2 => (∃ v, e = .returned v) ∧ ∃ xs, S xs ∧ J xs W2)
    (hdone : ∀ (D : Nat) (xs : List α) (W : World), w.heap.size ≤ D → S xs → I xs W → W.heap[D]? = some (.deferred (some [])) → Q .normal { a with defers := { target := .collected D, args := #[] } :: a.defers } W) :
    (Code.rangeFunc g ps assign body).wpIn Fence.wide n P Q a w := by
  refine wpIn_rangeFunc ?_
  intro fn hfn
  obtain ⟨rc, hrc⟩ : ∃ rc : LoopState → Loop, rc = fun st => { state := st, pending := none, fn, tmps := a.tmps, params := ps, assign, body, defers := w.heap.size } := ⟨_, rfl⟩
  obtain ⟨W1, hW1⟩ : ∃ W1, (w.alloc (.deferred (some []))).alloc (.loop (rc .ready)) = W1 := ⟨_, rfl⟩
  obtain ⟨l, hl⟩ : ∃ l, l = w.heap.size + 1 := ⟨_, rfl⟩
  have hL1 : W1.heap[l]? = some (.loop (rc .ready)) := by
    rw [← hW1, hl]
    have := World.alloc_heap_new (w.alloc (.deferred (some []))) (.loop (rc .ready))
    rwa [World.size_alloc] at this
  have hK1 : W1.heap[w.heap.size]? = some (.deferred (some [])) := by
    rw [← hW1]
    exact (Below.heap_alloc _ _ _ (by simp)).trans (World.alloc_heap_new w _)
  have hI1 : I [] W1 := by rw [← hW1]; exact hI.alloc _ (hI.alloc _ h0)
  have hb1 : Below w.heap.size w W1 := by rw [← hW1]; exact ((Below.refl _ w).alloc (Nat.le_refl _) _).alloc (by simp) _
  refine ⟨l, [{ target := .collected w.heap.size, args := #[] }], W1, { target := .fn (.func gf) lb, args := #[.func (.yield l) #[] #[]] }, W1, gf,
    #[.func (.yield l) #[] #[]] ++ lb, W1, ?_, ?_, ?_, ?_, fun _ => h1, ?_⟩
  · rw [← hW1, hrc, hl]; exact run_enterLoop_outer _ _ _ _ _
  · simp only [resolve, hg]
    simp [go_sem]
  · intro f' _; trivial
  · simp [invoke, go_sem, eg]
  · refine (hseq l (fun pre W => I pre W ∧ W.heap[l]? = some (.loop (rc .ready)) ∧ W.heap[w.heap.size]? = some (.deferred (some []))) W1 hb1 (fun _ _ h => h.1)
      (fun pre A B h hk hi => ⟨hi, hk.same _ _ h.2.1 rfl, hk.same _ _ h.2.2 rfl⟩) ?_ ⟨hI1, hL1, hK1⟩).mono ?_
    · rintro pre x W ⟨hi, hL, hK⟩ hN hOk
      have hy := run_yield (P := P) (args := encs x) hL (by rw [hrc]; exact hps x)
      rw [hrc] at hy
      refine ⟨fn, _, assign, body, hy, roundIn_of_wpIn hfn (hassign _ x W _ ⟨_, run_beginRound hL (by rw [hrc]), ?_⟩)⟩
      have hlt : l < W.heap.size := (Array.getElem?_eq_some_iff.1 hL).1
      have hL2 : (W.putObj l (.loop { rc .ready with state := .busy })).heap[l]? = some (.loop { rc .ready with state := .busy }) := World.putObj_heap_same hlt
      have hK2 : (W.putObj l (.loop { rc .ready with state := .busy })).heap[w.heap.size]? = some (.deferred (some [])) := (World.putObj_heap_other (by omega)).trans hK
      have hp2 : Kp W (W.putObj l (.loop { rc .ready with state := .busy })) := hKb _ _ _ _ (by omega) hL rfl
      refine wpIn_mono (hbody _ pre x _ (hI.putObj _ hi (by omega) hL rfl) hN hOk) ?_
      rintro e a3 W3 hp
      cases e with
      | normal =>
        obtain ⟨hk3, hp3, hi3⟩ := hp
        have hL3 := hk3.same _ _ hL2 rfl
        have hr := run_endRound (P := P) none hL3
        have hlt3 : l < W3.heap.size := (Array.getElem?_eq_some_iff.1 hL3).1
        rw [hrc] at hr
        refine ⟨_, _, hr, rfl, ⟨hI.putObj _ hi3 (by omega) hL3 rfl, ?_, (World.putObj_heap_other (by omega)).trans (hk3.same _ _ hK2 rfl)⟩, hKt (hKt hp2 hp3) (hKb _ _ _ _ (by omega) hL3 rfl)⟩
        rw [hrc]
        exact World.putObj_heap_same hlt3
      | ret => exact hp.2.elim
      | exit id => exact hp.2.elim
      | goto t => exact hp.2.elim
      | panic ch => exact hp.elim
      | outgrown => exact hp.elim
    · rintro e W2 ⟨⟨v, rfl⟩, xs, hS, hi, hL, hK⟩
      have := run_endLoop (P := P) hL (by rw [hrc]; simp)
      rw [hrc] at this
      exact ⟨none, _, this, hdone _ xs _ (Nat.le_refl _) hS (hI.putObj _ hi (by omega) hL rfl) ((World.putObj_heap_other (by omega)).trans hK)⟩
end Go.Proofs.YtkmpbkgmdfeicaaGreat.Range
/- A line without its comment and the blanks around it, in the program and in the document's answers. -/
namespace Go.Proofs.YtkmpbkgmdfeicaaGreat.Trim
set_option linter.unusedVariables false
set_option linter.unusedSimpArgs false
open Go.RowKit Go.Proofs.YtkmpbkgmdfeicaaGreat.Plain Go.Proofs.YtkmpbkgmdfeicaaGreat.Leaf Go.Proofs.YtkmpbkgmdfeicaaGreat.Named Go.Proofs.YtkmpbkgmdfeicaaGreat.Scan1 Go.Proofs.YtkmpbkgmdfeicaaGreat.Scan2
def tL (l : List UInt8) : List UInt8 := l.dropWhile (fun x => x == 32)
def tR (l : List UInt8) : List UInt8 := (tL l.reverse).reverse
theorem tL_blank {l : List UInt8} : tL (32 :: l) = tL l := by unfold tL; rw [List.dropWhile_cons, if_pos (by decide)]
theorem tL_other {c : UInt8} {l : List UInt8} (h : c ≠ 32) : tL (c :: l) = c :: l := by unfold tL; rw [List.dropWhile_cons, if_neg (by simpa using h)]
theorem tL_snoc_other {c : UInt8} (h : c ≠ 32) (l : List UInt8) : tL (l ++ [c]) = tL l ++ [c] := by
  induction l with
  | nil => exact tL_other h
  | cons a l ih =>
    by_cases e : a = 32
    · subst e; rw [List.cons_append, tL_blank, tL_blank, ih]
    · rw [List.cons_append, tL_other e, tL_other e]; rfl
theorem tL_snoc_blank (l : List UInt8) : tL (l ++ [32]) = if tL l = [] then [] else tL l ++ [32] := by
  induction l with
  | nil => decide
  | cons a l ih =>
    by_cases e : a = 32
    · subst e; rw [List.cons_append, tL_blank, tL_blank, ih]
    · rw [List.cons_append, tL_other e, tL_other e, if_neg (by simp)]; rfl
theorem tR_cons_other {c : UInt8} (h : c ≠ 32) (l : List UInt8) : tR (c :: l) = c :: tR l := by
  unfold tR; rw [List.reverse_cons, tL_snoc_other h, List.reverse_append]; rfl
theorem tR_cons_blank (l : List UInt8) : tR (32 :: l) = if tR l = [] then [] else 32 :: tR l := by
  unfold tR
  rw [List.reverse_cons, tL_snoc_blank]
  by_cases e : tL l.reverse = []
  · rw [if_pos e, e]; rfl
  · rw [if_neg e, if_neg (by simpa using e), List.reverse_append]; rfl
theorem trims (l : List UInt8) : tL (tR l) = tR (tL l) := by
  induction l with
  | nil => rfl
  | cons a l ih =>
    by_cases e : a = 32
    · subst e
      rw [tL_blank, tR_cons_blank, ← ih]
      by_cases e : tR l = []
      · rw [if_pos e, e]
      · rw [if_neg e, tL_blank]
    · rw [tL_other e, tR_cons_other e, tL_other e]
theorem tR_blank (l : List UInt8) : tR (l ++ [32]) = tR l := by unfold tR; rw [List.reverse_append]; show (tL (32 :: l.reverse)).reverse = _; rw [tL_blank]
theorem tR_other {c : UInt8} (h : c ≠ 32) (l : List UInt8) : tR (l ++ [c]) = l ++ [c] := by
  unfold tR; rw [List.reverse_append]; show (tL (c :: l.reverse)).reverse = _; rw [tL_other h, List.reverse_cons, List.reverse_reverse]
/-- The text as bytes. -/
def strOf (l : List UInt8) : ByteArray := ⟨l.toArray⟩
theorem strOf_data (b : ByteArray) : strOf b.data.toList = b := by unfold strOf; simp
/-- b's first byte, and what follows. -/
theorem cons_of {b : ByteArray} (h : 0 < b.size) : b.data.toList = b[0] :: (b.extract 1 b.size).data.toList := by
  have hl := toList_len b
  rw [ByteArray.data_extract]
  have : b.data.toList ≠ [] := fun e => by rw [e] at hl; simp at hl; omega
  obtain ⟨a, l, e⟩ := List.exists_cons_of_ne_nil this
  have ha : b[0] = a := by
    have h0 : b[0] = b.data.toList[0]'(by omega) := rfl
    rw [h0]; simp [e]
  rw [ha, e]
  congr 1
  rw [Array.toList_extract]
  simp [List.extract, e]
  rw [show b.size - 1 = l.length from by rw [e] at hl; simp at hl; omega]
  simp
theorem snoc_of {b : ByteArray} (h : 0 < b.size) : b.data.toList = (b.extract 0 (b.size - 1)).data.toList ++ [b[b.size - 1]] := by
  have hl := toList_len b
  rw [ByteArray.data_extract, Array.toList_extract]
  have h0 : b[b.size - 1] = b.data.toList[b.size - 1]'(by omega) := rfl
  rw [h0]
  simp only [List.extract, Nat.sub_zero, List.drop_zero]
  conv => lhs; rw [← List.take_append_drop (b.size - 1) b.data.toList]
  rw [List.drop_eq_getElem_cons (by omega), List.drop_eq_nil_of_le (by omega)]
theorem bare_size (s : ByteArray) : (bare s).size ≤ s.size := by
  have h : (bare s).data.toList.length ≤ s.data.toList.length := by
    unfold bare
    show ((s.data.toList.takeWhile _).toArray.toList).length ≤ _
    rw [List.toList_toArray]
    exact (List.takeWhile_sublist _).length_le
  rw [toList_len, toList_len] at h
  exact h
theorem blank_toNat {x : UInt8} : ((x.toNat : Int) == 32) = true ↔ x = 32 := by
  rw [beq_iff_eq]
  constructor
  · intro h; exact UInt8.toNat_inj.1 (by show x.toNat = 32; omega)
  · intro h; subst h; rfl
theorem ext_size (b : ByteArray) (i j : Nat) : (b.extract i j).size = min j b.size - i := ByteArray.size_extract
theorem strOf_size (l : List UInt8) : (strOf l).size = l.length := by unfold strOf; rfl
theorem tL_len (l : List UInt8) : (tL l).length ≤ l.length := (List.dropWhile_sublist _).length_le
theorem tR_len (l : List UInt8) : (tR l).length ≤ l.length := by unfold tR; rw [List.length_reverse]; have := tL_len l.reverse; rw [List.length_reverse] at this; exact this
theorem strOf_toList (l : List UInt8) : (strOf l).data.toList = l := by unfold strOf; rfl
end Go.Proofs.YtkmpbkgmdfeicaaGreat.Trim
/- A text's lines, in the document's answers. -/
namespace Go.Proofs.YtkmpbkgmdfeicaaGreat.Lines1
set_option linter.unusedVariables false
set_option linter.unusedSimpArgs false
open Go.RowKit Go.Sort Go.Proofs Go.Proofs.YtkmpbkgmdfeicaaGreat.Plain Go.Proofs.YtkmpbkgmdfeicaaGreat.Leaf Go.Proofs.YtkmpbkgmdfeicaaGreat.Named Go.Proofs.YtkmpbkgmdfeicaaGreat.Trim Go.Proofs.YtkmpbkgmdfeicaaGreat.TabP Go.Proofs.YtkmpbkgmdfeicaaGreat.Tab1 Go.Proofs.YtkmpbkgmdfeicaaGreat.Tab2 Go.Proofs.YtkmpbkgmdfeicaaGreat.Tab3 Go.Proofs.YtkmpbkgmdfeicaaGreat.Tab4 Go.Proofs.YtkmpbkgmdfeicaaGreat.Tab5 Go.Proofs.YtkmpbkgmdfeicaaGreat.Tab6
/-- The lines of acc and what follows it. -/
def lnA (acc : Str) : List UInt8 → List Str
  | [] => if acc = [] then [] else [acc]
  | c :: l => if c = 10 then acc :: lnA [] l else lnA (acc ++ [c]) l
def linesOf (s : ByteArray) : List Str := lnA [] s.data.toList
theorem lnA_len (acc : Str) (l : List UInt8) : (lnA acc l).length ≤ l.length + 1 := by
  induction l generalizing acc with
  | nil => unfold lnA; split <;> simp
  | cons c l ih =>
    unfold lnA
    split
    · have := ih []; simp; omega
    · have := ih (acc ++ [c]); simp; omega
theorem linesOf_len (s : ByteArray) : (linesOf s).length ≤ s.size + 1 := by have := lnA_len [] s.data.toList; rw [toList_len] at this; exact this
theorem encStr_data (b : ByteArray) : encStr b.data.toList = .string b := by unfold encStr; simp
theorem drop_at {s : ByteArray} {k : Nat} (h : k < s.size) : s.data.toList.drop k = s[k] :: s.data.toList.drop (k + 1) := by
  rw [List.drop_eq_getElem_cons (by rw [toList_len]; exact h)]
  rfl
theorem ext_list (s : ByteArray) (f k : Nat) : (s.extract f k).data.toList = (s.data.toList.drop f).take (k - f) := by
  rw [ByteArray.data_extract, Array.toList_extract]
theorem ext_next {s : ByteArray} {f k : Nat} (hf : f ≤ k) (h : k < s.size) : (s.extract f (k + 1)).data.toList = (s.extract f k).data.toList ++ [s[k]] := by
  rw [ext_list, ext_list, show k + 1 - f = (k - f) + 1 from by omega, List.take_add_one, List.getElem?_drop, show f + (k - f) = k from by omega, List.getElem?_eq_getElem (by rw [toList_len]; exact h)]
  rfl
theorem ext_self (s : ByteArray) (k : Nat) : (s.extract k k).data.toList = [] := by rw [ext_list]; simp
theorem newline_toNat {x : UInt8} : ((x.toNat : Int) == 10) = true ↔ x = 10 := by
  rw [beq_iff_eq]
  constructor
  · intro h; exact UInt8.toNat_inj.1 (by show x.toNat = 10; omega)
  · intro h; subst h; rfl
theorem step_nl {s : ByteArray} {f k : Nat} {D : List Str} (h : k < s.size) (hc : s[k] = 10) (hd : D ++ lnA (s.extract f k).data.toList (s.data.toList.drop k) = linesOf s) :
    (D ++ [(s.extract f k).data.toList]) ++ lnA (s.extract (k + 1) (k + 1)).data.toList (s.data.toList.drop (k + 1)) = linesOf s := by
  rw [← hd, drop_at h, hc]
  conv => rhs; unfold lnA
  rw [if_pos rfl, ext_self, List.append_assoc]
  rfl
theorem step_other {s : ByteArray} {f k : Nat} {D : List Str} (hf : f ≤ k) (h : k < s.size) (hc : s[k] ≠ 10) (hd : D ++ lnA (s.extract f k).data.toList (s.data.toList.drop k) = linesOf s) :
    D ++ lnA (s.extract f (k + 1)).data.toList (s.data.toList.drop (k + 1)) = linesOf s := by
  rw [← hd, drop_at h]
  conv => rhs; unfold lnA
  rw [if_neg hc, ext_next hf h]
theorem step_end {s : ByteArray} {f : Nat} {D : List Str} (hf : f ≤ s.size) (hd : D ++ lnA (s.extract f s.size).data.toList (s.data.toList.drop s.size) = linesOf s) :
    (f < s.size → linesOf s = D ++ [(s.extract f s.size).data.toList]) ∧ (¬ f < s.size → linesOf s = D) := by
  have hl : (s.extract f s.size).data.toList.length = s.size - f := by rw [toList_len, ext_size]; omega
  rw [List.drop_eq_nil_of_le (by rw [toList_len]; exact Nat.le_refl _)] at hd
  unfold lnA at hd
  constructor
  · intro h
    rw [if_neg (by intro e; rw [e] at hl; simp at hl; omega)] at hd
    exact hd.symm
  · intro h
    rw [if_pos (List.eq_nil_of_length_eq_zero (by omega)), List.append_nil] at hd
    exact hd.symm
theorem linesRef (s : ByteArray) (w : World) (hs : s.size ≤ 100000) : Calls Tryz.prog 67 #[.string s] w (RowPost (linesOf s) w) := by
  obtain ⟨i0, hi, hz0, hz1, hz2⟩ := info_parts infoStr
  go_enter Tryz.func67, Tryz.ntmps67
  go_wp2_with fail
  go_loopw [3, 4, 5] (fun v f i wr => ∃ (fn k : Nat) (D : List Str), f = .int .i64 fn ∧ i = .int .i64 k ∧ fn ≤ k ∧ k ≤ s.size ∧ D.length ≤ k ∧ Hid (D ++ lnA (s.extract fn k).data.toList (s.data.toList.drop k) = linesOf s) ∧ wr.ownsRow w.heap.size 9 1 v D.length (D.map encStr) ∧ Below w.heap.size w wr) (fun _ _ i _ => s.size - (intOf i).toNat)
  case atStart => exact ⟨0, 0, [], rfl, rfl, by omega, by omega, by simp, Lib.hid (by rw [ext_self]; rfl), World.ownsRow_nil _ _ _ _, Below.refl _ _⟩
  case round =>
    obtain ⟨fn, k, D, rfl, rfl, hfk, hk, hDk, hd, hown, hbel⟩ := hrel
    by_cases hlt : k < s.size
    · by_cases hc : s[k] = 10
      · have hc' : ((s[k].toNat : Int) == 10) = true := newline_toNat.2 hc
        have hn := Lib.hid (step_nl hlt hc hd.out)
        clear hc hd
        go_wp2_with (at_builtin; refine wpList_append_own _ rfl _ _ 33 rfl w.heap.size 9 i0 (.string ⟨#[]⟩) 1 16 Tryz.underlying33 hi hz0 hz1 hz2 rfl (by decide) _ _ _ rfl (hown.alloc _) ⟨wr.heap.size, 0, none⟩ 1 1 [.string (s.extract fn k)] rfl rfl ?c1 ?c2 ?c3 ?c4 ?c5 ?_)
        case c1 => exact new_cell1 _ _ _
        case c2 => intro u hu; simp at hu; subst hu; rfl
        case c3 => unfold maxLen; omega
        case c4 => omega
        case c5 => have := hbel.size; simp; omega
        intro v' w3 hown3 hgrow _
        have hbel3 := (hbel.alloc hbel.size _).grown hgrow (by have := hbel.size; simp; omega) (fun k hk => (hown.lt k hk).1)
        rw [← encStr_data] at hown3
        have hown4 := own_app hown3 rfl
        clear hown hown3 hgrow hbel hc'
        go_wp2_with fail
        go_roundw
        case rel => exact ⟨k + 1, k + 1, _, by go_num, by go_num, by omega, by omega, by simp; omega, hn, hown4, hbel3⟩
        case measure => simp [intOf]; omega
      · have hc' : ((s[k].toNat : Int) == 10) = false := by rw [Bool.eq_false_iff]; exact fun h => hc (newline_toNat.1 h)
        have hn := Lib.hid (step_other hfk hlt hc hd.out)
        clear hc hd
        go_wp2_with fail
        go_roundw
        case rel => exact ⟨fn, k + 1, D, rfl, by go_num, by omega, by omega, by omega, hn, hown, hbel⟩
        case measure => simp [intOf]; omega
    · have e : k = s.size := by omega
      subst e
      have hend := step_end hfk hd.out
      by_cases hf : fn < s.size
      · have hn := Lib.hid (hend.1 hf)
        clear hend hd
        go_wp2_with (at_builtin; refine wpList_append_own _ rfl _ _ 33 rfl w.heap.size 9 i0 (.string ⟨#[]⟩) 1 16 Tryz.underlying33 hi hz0 hz1 hz2 rfl (by decide) _ _ _ rfl (hown.alloc _) ⟨wr.heap.size, 0, none⟩ 1 1 [.string (s.extract fn s.size)] rfl rfl ?d1 ?d2 ?d3 ?d4 ?d5 ?_)
        case d1 => exact new_cell1 _ _ _
        case d2 => intro u hu; simp at hu; subst hu; rfl
        case d3 => unfold maxLen; omega
        case d4 => omega
        case d5 => have := hbel.size; simp; omega
        intro v' w3 hown3 hgrow _
        have hbel3 := (hbel.alloc hbel.size _).grown hgrow (by have := hbel.size; simp; omega) (fun k hk => (hown.lt k hk).1)
        rw [← encStr_data] at hown3
        have hown4 := own_app hown3 hn.out
        clear hown hown3 hgrow hbel
        go_wp2_with fail
        go_ret
        exact ⟨_, rfl, hown4, hbel3⟩
      · have hn := Lib.hid (hend.2 hf)
        clear hend hd
        go_wp2_with fail
        go_ret
        exact ⟨_, rfl, by rw [hn.out]; exact hown, hbel⟩
end Go.Proofs.YtkmpbkgmdfeicaaGreat.Lines1
