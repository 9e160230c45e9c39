/- slices.Compact at statements, by contract: the library's two loops are walked. -/
import Derived.Test.YtofhiolmaojihaaSynD7
import Derived.Sort.WalkB12
import Derived.Lib.SliceRun
import Derived.Deep.LoopGhost
import Derived.Deep.Draws
import Derived.Shelf.RegionOpenPlain
import Derived.Deep.MidRow
import Derived.Lib.LazyBuf
import Derived.Lib.AppendZeros
namespace Go.Proofs.Ytofhiolmaojihaa.SynD8
open Go.RowKit Go.Sort Go.Lib Go.Proofs Go.Proofs.Ytofhiolmaojihaa.Plain Go.Proofs.Ytofhiolmaojihaa.SynP Go.Proofs.Ytofhiolmaojihaa.SynE Go.Proofs.Ytofhiolmaojihaa.SynD Go.Proofs.Ytofhiolmaojihaa.SynD2 Go.Proofs.Ytofhiolmaojihaa.SynD3 Go.Proofs.Ytofhiolmaojihaa.SynD7
set_option linter.unusedVariables false
set_option linter.unusedSimpArgs false
def CompPost (g cap : Nat) (d : Array St) (w : World) (e : Ending) (w' : World) : Prop :=
  e = .returned (.slice (some ⟨g, 0, none⟩) (compactUpTo d d.size).length cap) ∧ StRow w' (some ⟨g, 0, none⟩) (compactUpTo d d.size) ∧ Below g w w' ∧ w.heap.size ≤ w'.heap.size
theorem holds_drewN {w : World} {g : Nat} {d : Array St} (h : HoldsK St.cells 9 w g 0 d) (n : Nat) : HoldsK St.cells 9 (w.drewN n) g 0 d := holdsK_ahead St.cells 9 w n g 0 d h
theorem all_post {g cap : Nat} {d : Array St} {w : World} (hH : HoldsK St.cells 9 w g 0 d) (hall : ∀ j, j < d.size → keeps d j = true) (n : Nat) : CompPost g cap d w (.returned (.slice (some ⟨g, 0, none⟩) d.size cap)) (w.drewN n) := by
  have e : compactUpTo d d.size = d.toList := by rw [compactUpTo_all d _ hall, range_map_get]
  refine ⟨?_, ?_, ?_, Nat.le_refl _⟩
  · rw [e, Array.length_toList]
  · rw [e]
    refine StRow.of_holds (holds_drewN hH n) _ (by simp) fun j hj => ?_
    rw [getElem!_pos d j (by simpa using hj)]; simp
  · exact below_drewN (Below.refl _ _) _
/-- The nine cells of a row's element. -/
theorem nine {w : World} {g : Nat} {d : Array St} (h : HoldsK St.cells 9 w g 0 d) (j : Nat) (hj : j < d.size) : ∀ c u, d[j]!.cells[c]? = some u → w.cell? ⟨g, j * 9 + c, none⟩ = some u := fun c u hu => by
  have hc : c < 9 := by
    rcases Nat.lt_or_ge c 9 with h | h
    · exact h
    · rw [List.getElem?_eq_none (by show 9 ≤ c; exact h)] at hu; cases hu
  have q := (HoldsK.cell h (i := j) (c := c) hj hc).1
  rw [Nat.zero_add] at q
  rw [q, getElem!_pos _ _ (by rw [len9]; exact hc), ← List.getElem?_eq_getElem, hu]
theorem there_of {w : World} {g : Nat} {d : Array St} (h : HoldsK St.cells 9 w g 0 d) (i : Nat) (hi : i < d.size) : w.there g (i * 9) 9 := fun c hc => by
  have q := HoldsK.cell h (i := i) (c := c) hi hc
  rw [Nat.zero_add] at q
  exact ⟨by rw [q.1]; rfl, q.2⟩
theorem there_all {w : World} {g : Nat} {d : Array St} (h : HoldsK St.cells 9 w g 0 d) (i : Nat) (hi : i < d.size) : w.there g (i * 9) ((d.size - i) * 9) := fun c hc => by
  have q := HoldsK.cell h (i := i + c / 9) (c := c % 9) (by omega) (by omega)
  rw [Nat.zero_add, show (i + c / 9) * 9 + c % 9 = i * 9 + c by omega] at q
  exact ⟨by rw [q.1]; rfl, q.2⟩
theorem infoSz : (Try.prog.info? 25).map (·.size) = some 9 := by kernel_rfl
theorem stcell_one (x : St) : ∀ v ∈ x.cells, v.oneCell' = true := fun v hv => by
  simp [St.cells] at hv
  rcases hv with rfl | rfl | rfl | rfl | rfl | rfl | rfl | rfl | rfl <;> rfl
theorem store0 {W : World} {g : Nat} {d : Array St} (h : HoldsK St.cells 9 W g 0 d) (i : Nat) (hi : i < d.size) (x : St) : HoldsK St.cells 9 (W.setCells g (i * 9) x.cells) g 0 (d.setIfInBounds i x) := by
  have := holdsK_store len9 (by omega) h i hi x
  rw [Nat.zero_add] at this
  exact this
def clr (n : Nat) : List Value := (Builtin.zeroCells zeroS.val.cells n).toList
theorem clr_len (n : Nat) : (clr n).length = n * 9 := by
  unfold clr Builtin.zeroCells
  simp; rfl
theorem clr_one (n : Nat) : ∀ v ∈ clr n, v.oneCell' = true := by
  intro v hv
  unfold clr Builtin.zeroCells at hv
  simp at hv
  obtain ⟨i, hi, rfl⟩ := hv
  have h9 : zeroS.val.cells.size = 9 := rfl
  have hlt : i % zeroS.val.cells.size < 9 := by rw [h9]; omega
  generalize i % zeroS.val.cells.size = r at hlt
  match r, hlt with
  | 0, _ => rfl
  | 1, _ => rfl
  | 2, _ => rfl
  | 3, _ => rfl
  | 4, _ => rfl
  | 5, _ => rfl
  | 6, _ => rfl
  | 7, _ => rfl
  | 8, _ => rfl
theorem run_clear9 (w : World) (b o n c : Nat) (hn : 0 < n) (ht : w.there b o (n * 9)) (ty : TypeId) : (Builtin.clear_ #[35] ty #[.slice (some ⟨b, o, none⟩) n c]).run Try.prog w = .ok (.tuple #[]) (w.setCells b o (clr n)) := by
  have hst := run_storeCells_cells (P := Try.prog) b o (clr n) 0 w (fun j hj => by rw [clr_len] at hj; simpa using (ht j hj).1) (fun j hj => by rw [clr_len] at hj; simpa using (ht j hj).2) (clr_one n)
  simp only [Nat.add_zero] at hst
  obtain ⟨m, rfl⟩ : ∃ m, n = m + 1 := ⟨n - 1, by omega⟩
  have hv : (zeroValue 25).run Try.prog w = .ok zeroS.val w := Try.zeroValue25 w
  have hc : (Builtin.zeroCells zeroS.val.cells (m + 1)).toList = clr (m + 1) := rfl
  simp [Builtin.clear_, run_underlying Try.underlying35, hv, hc, hst]
theorem wp_clear_run {P : Program} (w : World) {o : Oper} {a : Act} {K : Act → World → Prop} {Q : Exit → Act → World → Prop} (s : Operand) (t : TypeId)
    (ho : o.op = .call { callee := .builtin .clear, args := #[s], argTypes := #[t] }) (vs : Value) (hs : a.eval s = vs)
    (v' : Value) (w' : World) (hr : (Builtin.clear_ #[t] o.type #[vs]).run P w = .ok v' w') (h : K (a.put o.dst v') w') : o.wp P a w K Q := by
  unfold Oper.wp execOp
  simp only [ho, resolve, invoke, builtin, Sem.run_bind, Sem.run_pure, Result.andThen_ok, List.map_toArray, List.map_cons, List.map_nil, hs, hr]
  exact h
theorem wpList_clear_run {P : Program} (w : World) {ops : Array Oper} {rest : List Oper} {o : Oper} {a : Act} {Q : Exit → Act → World → Prop} (hgd : o.guard = none) (s : Operand) (t : TypeId)
    (ho : o.op = .call { callee := .builtin .clear, args := #[s], argTypes := #[t] }) (vs : Value) (hs : a.eval s = vs)
    (v' : Value) (w' : World) (hr : (Builtin.clear_ #[t] o.type #[vs]).run P w = .ok v' w') (h : wpList P ops Q rest (a.put o.dst v') w') : wpList P ops Q (o :: rest) a w :=
  wpList_plain hgd fun _ hK => wp_clear_run w s t ho vs hs v' w' hr (hK _ _ h)
theorem StRow.set_out {w : World} {g o : Nat} {R : List St} (h : StRow w (some ⟨g, 0, none⟩) R) (ho : R.length * 9 ≤ o) (vs : List Value) : StRow (w.setCells g o vs) (some ⟨g, 0, none⟩) R := fun hp => by
  obtain ⟨g', hA, hg, hc⟩ := h hp
  injection hA with hA
  injection hA with hA
  subst hA
  refine ⟨g, rfl, by rw [size_setCells]; exact hg, fun j hj => ?_⟩
  have key : ∀ i, i < R.length * 9 → (w.setCells g o vs).cell? ⟨g, i, none⟩ = w.cell? ⟨g, i, none⟩ := fun i hi => World.cell?_setCells_out g vs o w ⟨g, i, none⟩ (fun _ _ => Or.inl (by show i < o; omega))
  rw [key _ (by omega), key _ (by omega), key _ (by omega), key _ (by omega), key _ (by omega), key _ (by omega), key _ (by omega), key _ (by omega), key _ (by omega)]
  exact hc j hj
theorem clear_post {g cap kk : Nat} {d dk : Array St} {w wr : World} (hH : HoldsK St.cells 9 wr g 0 dk) (hb : Below g w wr) (hs : w.heap.size ≤ wr.heap.size) (hI : CompInv d d.size kk dk) : CompPost g cap d w (.returned (.slice (some ⟨g, 0, none⟩) kk cap)) (wr.setCells g (kk * 9) (clr (dk.size - kk))) := by
  have hk := hI.lt
  have hz := hI.size
  refine ⟨by rw [hI.len], ?_, below_setCells (Nat.le_refl _) _ _ _ hb, by rw [size_setCells]; exact hs⟩
  refine StRow.set_out (StRow.of_holds hH _ (by rw [hI.len]; omega) (inv_low hI rfl (by omega))) (by rw [hI.len]; exact Nat.le_refl _) _
set_option maxHeartbeats 4000000 in
set_option maxRecDepth 1000000 in
theorem compSt (g cap : Nat) (d : Array St) (w : World) (hH : HoldsK St.cells 9 w g 0 d) (hg : g < w.heap.size) (hsz : d.size ≤ 100000) (hcap : d.size ≤ cap) :
    Calls Try.prog 44 #[.slice (some ⟨g, 0, none⟩) d.size cap] w (CompPost g cap d w) := by
  have HH := Lib.hid hH
  clear hH
  by_cases h2 : d.size < 2
  · have HS := Lib.hid (fun n => all_post (cap := cap) HH.out (fun j hj => keeps_lt_one d j (by omega)) n)
    go_enter Try.func44, Try.ntmps44
    go_wp2_with fail
    go_ret
    exact HS.out 0
  · go_enter Try.func44, Try.ntmps44
    go_wp2_with fail
    go_loopg [3] d.size (fun gh s3 wr => ∃ k q : Nat, 1 ≤ k ∧ k ≤ d.size ∧ d.size - k ≤ gh ∧ s3 = .int .i64 k ∧ wr = w.drewN q ∧ Hid (∀ j, j < k → keeps d j = true))
    case atStart => exact ⟨1, 0, Nat.le_refl _, by omega, by omega, rfl, rfl, Lib.hid (keeps_lt_one d)⟩
    case round =>
      obtain ⟨k, q, hk1, hk, hgh, rfl, rfl, hall⟩ := hrel
      by_cases hlt : k < d.size
      · have c1 := nine HH.out k hlt
        have c0 := nine HH.out (k - 1) (by omega)
        generalize hx : d[k]! = x at c1
        generalize hy : d[k - 1]! = y at c0
        have B := Lib.hid (And.intro hx hy)
        clear hx hy
        obtain ⟨k1, ⟨ho, hn⟩, wh, ⟨ao, an⟩, ⟨bo, bn⟩, v⟩ := x
        obtain ⟨k2, ⟨ho2, hn2⟩, wh2, ⟨ao2, an2⟩, ⟨bo2, bn2⟩, v2⟩ := y
        have a0 := c1 0 _ rfl
        have a1 := c1 1 _ rfl
        have a2 := c1 2 _ rfl
        have a3 := c1 3 _ rfl
        have a4 := c1 4 _ rfl
        have a5 := c1 5 _ rfl
        have a6 := c1 6 _ rfl
        have a7 := c1 7 _ rfl
        have a8 := c1 8 _ rfl
        have b0 := c0 0 _ rfl
        have b1 := c0 1 _ rfl
        have b2 := c0 2 _ rfl
        have b3 := c0 3 _ rfl
        have b4 := c0 4 _ rfl
        have b5 := c0 5 _ rfl
        have b6 := c0 6 _ rfl
        have b7 := c0 7 _ rfl
        have b8 := c0 8 _ rfl
        rw [Nat.add_zero] at a0 b0
        have p1 : (0 : Int) ≤ k := by omega
        have p2 : (k : Int) < d.size := by omega
        have p3 : (0 : Int) ≤ (k : Int) - 1 := by omega
        have p4 : (k : Int) - 1 < d.size := by omega
        have p5 : ((k : Int) - 1).toNat = k - 1 := by omega
        clear c0 c1
        by_cases hdup : (⟨k1, ⟨ho, hn⟩, wh, ⟨ao, an⟩, ⟨bo, bn⟩, v⟩ : St) = ⟨k2, ⟨ho2, hn2⟩, wh2, ⟨ao2, an2⟩, ⟨bo2, bn2⟩, v2⟩
        · have hq := fun w => eqS k1 ho hn wh ao an bo bn v k2 ho2 hn2 wh2 ao2 an2 bo2 bn2 v2 w
          rw [decide_eq_true (p := (⟨k1, ⟨ho, hn⟩, wh, ⟨ao, an⟩, ⟨bo, bn⟩, v⟩ : St) = ⟨k2, ⟨ho2, hn2⟩, wh2, ⟨ao2, an2⟩, ⟨bo2, bn2⟩, v2⟩) hdup] at hq
          have HD := Lib.hid hdup
          clear hdup
          go_wp2_with fail
          go_quiet (fail)
          go_wp2_with fail
          clear a0 a1 a2 a3 a4 a5 a6 a7 a8 b0 b1 b2 b3 b4 b5 b6 b7 b8 hq p3 p4 p5
          have hst := Lib.hid (CompInv.start hall.out (keeps_neg (by omega) (by rw [B.out.1, B.out.2]; exact HD.out)))
          clear HD B
          go_loopg [3, 5] d.size (fun gh2 s3 s5 wr => ∃ (kk kq : Nat) (dk : Array St), s3 = .int .i64 kk ∧ s5 = .int .i64 kq ∧ 1 ≤ kq ∧ k + kq ≤ d.size ∧ d.size - (k + kq) ≤ gh2 ∧ Hid (HoldsK St.cells 9 wr g 0 dk) ∧ Below g w wr ∧ w.heap.size ≤ wr.heap.size ∧ Hid (CompInv d (k + kq) kk dk))
          case atStart => exact ⟨k, 1, d, rfl, rfl, Nat.le_refl _, by omega, by omega, Lib.hid (holds_drewN HH.out _), below_drewN (Below.refl _ _) _, Nat.le_refl _, hst⟩
          case round =>
            obtain ⟨kk, kq, dk, rfl, rfl, h1, hle, hg2, hHk, hbel, hszr, hI⟩ := hrel
            have hkk := hI.out.lt
            have hds := hI.out.size
            by_cases hlt2 : k + kq < d.size
            · have c1 := nine hHk.out (k + kq) (by omega)
              have c0 := nine hHk.out (k + kq - 1) (by omega)
              rw [hI.out.high (k + kq) (by omega)] at c1
              rw [hI.out.high (k + kq - 1) (by omega)] at c0
              generalize hx : d[k + kq]! = x at c1
              generalize hy : d[k + kq - 1]! = y at c0
              have C := Lib.hid (And.intro hx hy)
              clear hx hy
              have hth := Lib.hid (fun n => there_of (holds_drewN hHk.out n) kk (by omega))
              obtain ⟨k1, ⟨ho, hn⟩, wh, ⟨ao, an⟩, ⟨bo, bn⟩, v⟩ := x
              obtain ⟨k2, ⟨ho2, hn2⟩, wh2, ⟨ao2, an2⟩, ⟨bo2, bn2⟩, v2⟩ := y
              have a0 := c1 0 _ rfl
              have a1 := c1 1 _ rfl
              have a2 := c1 2 _ rfl
              have a3 := c1 3 _ rfl
              have a4 := c1 4 _ rfl
              have a5 := c1 5 _ rfl
              have a6 := c1 6 _ rfl
              have a7 := c1 7 _ rfl
              have a8 := c1 8 _ rfl
              have b0 := c0 0 _ rfl
              have b1 := c0 1 _ rfl
              have b2 := c0 2 _ rfl
              have b3 := c0 3 _ rfl
              have b4 := c0 4 _ rfl
              have b5 := c0 5 _ rfl
              have b6 := c0 6 _ rfl
              have b7 := c0 7 _ rfl
              have b8 := c0 8 _ rfl
              rw [Nat.add_zero] at a0 b0
              rw [show (k + kq) * 9 = k * 9 + kq * 9 by omega] at a0 a1 a2 a3 a4 a5 a6 a7 a8
              rw [show (k + kq - 1) * 9 = k * 9 + (kq - 1) * 9 by omega] at b0 b1 b2 b3 b4 b5 b6 b7 b8
              have q1 : (0 : Int) ≤ kq := by omega
              have q2 : (kq : Int) < (d.size - k : Nat) := by omega
              have q3 : (0 : Int) ≤ (kq : Int) - 1 := by omega
              have q4 : (kq : Int) - 1 < (d.size - k : Nat) := by omega
              have q5 : ((kq : Int) - 1).toNat = kq - 1 := by omega
              have q6 : (0 : Int) ≤ kk := by omega
              have q7 : (kk : Int) < d.size := by omega
              clear c0 c1
              by_cases hdup : (⟨k1, ⟨ho, hn⟩, wh, ⟨ao, an⟩, ⟨bo, bn⟩, v⟩ : St) = ⟨k2, ⟨ho2, hn2⟩, wh2, ⟨ao2, an2⟩, ⟨bo2, bn2⟩, v2⟩
              · have hq := fun w => neS k1 ho hn wh ao an bo bn v k2 ho2 hn2 wh2 ao2 an2 bo2 bn2 v2 w
                rw [decide_eq_true (p := (⟨k1, ⟨ho, hn⟩, wh, ⟨ao, an⟩, ⟨bo, bn⟩, v⟩ : St) = ⟨k2, ⟨ho2, hn2⟩, wh2, ⟨ao2, an2⟩, ⟨bo2, bn2⟩, v2⟩) hdup] at hq
                have HD := Lib.hid hdup
                clear hdup
                go_wp2_with fail
                go_quiet (fail)
                go_wp2_with fail
                go_roundg (d.size - (k + (kq + 1)))
                case measure => omega
                case rel => exact ⟨kk, kq + 1, dk, rfl, by go_num, by omega, by omega, Nat.le_refl _, Lib.hid (holds_drewN hHk.out _), below_drewN hbel _, hszr, Lib.hid (hI.out.skip (keeps_neg (by omega) (by rw [C.out.1, C.out.2]; exact HD.out)))⟩
              · have hq := fun w => neS k1 ho hn wh ao an bo bn v k2 ho2 hn2 wh2 ao2 an2 bo2 bn2 v2 w
                rw [decide_eq_false (p := (⟨k1, ⟨ho, hn⟩, wh, ⟨ao, an⟩, ⟨bo, bn⟩, v⟩ : St) = ⟨k2, ⟨ho2, hn2⟩, wh2, ⟨ao2, an2⟩, ⟨bo2, bn2⟩, v2⟩) hdup] at hq
                have HD := Lib.hid hdup
                clear hdup
                go_wp2_with fail
                go_quiet (fail)
                go_wp2_with ((with_reducible refine wpList_store_mid (op := ⟨none, .store 25 (.tmp 51) (.tmp 50), _, _, _, none⟩) ?_ 25 (.tmp 51) (.tmp 50) ?_ g (kk * 9) (St.cells ⟨k1, ⟨ho, hn⟩, wh, ⟨ao, an⟩, ⟨bo, bn⟩, v⟩).toArray ?_ ?_ ?_ ?_ ?_ ?_); (rfl); (rfl); (simp [Act.eval]); (simp [Act.eval, St.cells]); (exact hth.out _); (exact infoSz); (exact all_oneCell_toArray (stcell_one _)))
                go_roundg (d.size - (k + (kq + 1)))
                case measure => omega
                case rel =>
                  refine ⟨kk + 1, kq + 1, dk.setIfInBounds kk ⟨k1, ⟨ho, hn⟩, wh, ⟨ao, an⟩, ⟨bo, bn⟩, v⟩, by go_num, by go_num, by omega, by omega, Nat.le_refl _, Lib.hid ?_, below_setCells (Nat.le_refl _) _ _ _ (below_drewN hbel _), by rw [size_setCells]; exact hszr, Lib.hid ?_⟩
                  · exact store0 (holds_drewN hHk.out _) kk (by omega) _
                  · have := hI.out.keep hlt2 (keeps_pos (by rw [C.out.1, C.out.2]; exact HD.out))
                    rw [C.out.1] at this
                    exact this
            · have hend : k + kq = d.size := by omega
              have hfin := Lib.hid (clear_post (cap := cap) hHk.out hbel hszr (hend ▸ hI.out))
              have hth := Lib.hid (there_all hHk.out kk (by omega))
              have hlen := Lib.hid ((hend ▸ hI.out : CompInv d d.size kk dk).len)
              rw [hds] at hth
              clear hHk hI hend
              go_wp2_with ((with_reducible refine wpList_clear_run (o := ⟨none, .call { callee := .builtin .clear, args := #[.tmp 56], argTypes := #[35] }, _, _, _, none⟩) _ ?_ (.tmp 56) 35 ?_ (.slice (some ⟨g, kk * 9, none⟩) (d.size - kk) (cap - kk)) ?_ (.tuple #[]) (wr.setCells g (kk * 9) (clr (d.size - kk))) ?_ ?_); (rfl); (rfl); (simp [Act.eval]); (exact run_clear9 _ g (kk * 9) (d.size - kk) (cap - kk) (by omega) hth.out _))
              go_ret
              rw [hds] at hfin
              exact hfin.out
        · have hq := fun w => eqS k1 ho hn wh ao an bo bn v k2 ho2 hn2 wh2 ao2 an2 bo2 bn2 v2 w
          rw [decide_eq_false (p := (⟨k1, ⟨ho, hn⟩, wh, ⟨ao, an⟩, ⟨bo, bn⟩, v⟩ : St) = ⟨k2, ⟨ho2, hn2⟩, wh2, ⟨ao2, an2⟩, ⟨bo2, bn2⟩, v2⟩) hdup] at hq
          have HD := Lib.hid hdup
          clear hdup
          go_wp2_with fail
          go_quiet (fail)
          go_wp2_with fail
          go_roundg (d.size - (k + 1))
          case measure => omega
          case rel =>
            refine ⟨k + 1, _, by omega, by omega, Nat.le_refl _, by go_num, rfl, Lib.hid fun j hj => ?_⟩
            by_cases e : j = k
            · subst e
              exact keeps_pos (by rw [B.out.1, B.out.2]; exact HD.out)
            · exact hall.out j (by omega)
      · have : k = d.size := by omega
        subst this
        have HS := Lib.hid (fun n => all_post (cap := cap) HH.out hall.out n)
        clear hall
        go_wp2_with fail
        go_ret
        exact HS.out _
end Go.Proofs.Ytofhiolmaojihaa.SynD8
