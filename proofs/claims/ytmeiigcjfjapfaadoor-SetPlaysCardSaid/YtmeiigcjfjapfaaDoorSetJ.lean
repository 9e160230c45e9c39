/- The list of a set, by contract. -/
import Derived.Test.YtmeiigcjfjapfaaDoorSetD
import Derived.Test.YtmeiigcjfjapfaaDoorSetM
import Derived.Shelf.Spec.TrailingZeros
import Derived.Laws.AppendOwn
import Derived.Laws.OwnMore
import Derived.OwnWalk
namespace Go.Proofs.YtmeiigcjfjapfaaDoor.SetJ
open Go.RowKit Go.Lib Go.Proofs Go.Proofs.YtmeiigcjfjapfaaDoor.SetPop Go.Proofs.YtmeiigcjfjapfaaDoor.SetA Go.Proofs.YtmeiigcjfjapfaaDoor.SetB Go.Proofs.YtmeiigcjfjapfaaDoor.SetC Go.Proofs.YtmeiigcjfjapfaaDoor.SetD Go.Proofs.YtmeiigcjfjapfaaDoor.SetM
set_option linter.unusedVariables false
set_option linter.unusedSimpArgs false
/-- Numbers as cells. -/
def encK (l : List Nat) : List Value := l.map fun n : Nat => Value.int .i64 n
theorem encK_snoc (l : List Nat) (n : Nat) : encK (l ++ [n]) = encK l ++ [.int .i64 n] := by unfold encK; simp
theorem encK_len (l : List Nat) : (encK l).length = l.length := by unfold encK; simp
/-- The library's table stands as it is laid. -/
def Tab (w : World) : Prop := ∀ j, j < 64 → w.cell? ⟨0, j, none⟩ = some (.int .u8 (deBruijn64tab.getD j 0 : Nat))
theorem Tab.below {w w' : World} (h : Tab w) (hb : Below w.heap.size w w') : Tab w' := fun j hj =>
  (hb.cell (World.block_lt_of_cell? _ _ (h j hj))).trans (h j hj)
set_option maxRecDepth 100000 in
theorem tz_core (x k idx : Nat) (w : World) (hx0 : ((x : Int) == 0) = false)
    (key : IntKind.u64.wrap (bits BinOp.and IntKind.u64 (x : Int) (IntKind.u64.wrap (-(x : Int))) * 285870213051353865) / 288230376151711744 = (idx : Int))
    (hi : idx < 64) (hk : k < 64) (hcell : w.cell? ⟨0, idx, none⟩ = some (.int .u8 k)) :
    Calls Tryd.prog 31 #[.int .u64 x] w fun e w' => e = .returned (.int .i64 k) ∧ w = w' := by
  go_enter Tryd.func31, Tryd.ntmps31
  go_wp2_with (simp only [key])
  go_ret
  exact ⟨rfl, rfl⟩
theorem tz (x : Nat) (h0 : x ≠ 0) (h : x < 18446744073709551616) (w : World) (hT : Tab w) : Calls Tryd.prog 31 #[.int .u64 x] w fun e w' => e = .returned (.int .i64 (ctz 64 x)) ∧ w = w' := by
  obtain ⟨hlow, hk⟩ := lowest_bit 64 x h0 h
  obtain ⟨hi, htab⟩ := deBruijn64_at _ hk
  have hcell := hT _ hi
  rw [htab] at hcell
  exact tz_core x _ _ w (by simp; omega) (tz64_key x _ h h0 hlow) hi hk hcell
theorem infoInt : (Tryd.prog.info? 3).map (fun i => (i.zero, i.size, i.bytes)) = some (some (.int .i64 0), 1, 8) := by kernel_rfl
theorem new_cell1 (w : World) (a : Value) (t : TypeId) : ∀ j u, [a][j]? = some u → (w.alloc (.cells #[a] t)).cell? ((⟨w.heap.size, 0, none⟩ : Addr).add j) = some u := by
  intro j u hu
  have h : (w.alloc (.cells #[a] t)).cell? ⟨w.heap.size, j, none⟩ = #[a][j]? := Lib.cell_of_heap (heap_alloc_new w _) j
  have e : ((⟨w.heap.size, 0, none⟩ : Addr).add j) = ⟨w.heap.size, j, none⟩ := by
    unfold Addr.add
    split
    · rename_i h0; rw [h0]
    · simp
  rw [e, h, ← hu]
  simp
theorem below_own {a w w1 : World} {e : TypeId} {size n : Nat} {v : Value} {xs : List Value} {o : Obj} (hb : Below a.heap.size a w) (hown : w.ownsRow a.heap.size e size v n xs) (hg : (w.alloc o).grownBy w1 v.ownBlock) : Below a.heap.size a w1 :=
  (hb.alloc hb.size o).grown hg (by have := hb.size; simp; omega) (fun k hk => (hown.lt k hk).1)
theorem and_key (x : Nat) (h0 : x ≠ 0) (h : x < 18446744073709551616) : bits BinOp.and IntKind.u64 (x : Int) ((x : Int) - 1) = ((x &&& (x - 1) : Nat) : Int) := by
  have e1 : ((x : Int) - 1) = ((x - 1 : Nat) : Int) := by omega
  rw [e1]
  exact bits_and_u64_nat x (x - 1) h (by omega)
def ListPost (L : List Nat) (w : World) (e : Ending) (w' : World) : Prop := ∃ v, e = .returned v ∧ w'.ownsRow w.heap.size 3 1 v L.length (encK L) ∧ Below w.heap.size w w'
theorem nums_le {T L R : List Nat} {k : Nat} (h : L ++ R = numsOf T k) : L.length + R.length ≤ k * 64 := by
  have e : (numsOf T k).length ≤ k * 64 := by
    rw [numsOf_eq]
    refine Nat.le_trans (List.length_filter_le _ _) ?_
    simp
  rw [← h, List.length_append] at e
  exact e
set_option maxHeartbeats 1000000 in
set_option maxRecDepth 100000 in
theorem list_at (v : Value) (T : List Nat) (r : Int) (w : World) (hl : T.length = 16) (hs : ∀ x ∈ T, x < 18446744073709551616) (hT : Tab w) (ha : Calls Tryd.prog 28 #[v, .int .i64 r] w fun e w' => e = .returned (.agg (encM T)) ∧ Below w.heap.size w w') : Calls Tryd.prog 19 #[v, .int .i64 r] w (ListPost (numsOf T 16) w) := by
  have HA := Lib.hid ha
  clear ha
  have HI := Lib.hid (fun k hk w => idx T k hl hk w)
  have HS := Lib.hid (fun k (hk : k < 16) => (show T.getD k 0 < 18446744073709551616 from by
    rw [List.getD_eq_getElem?_getD, List.getElem?_eq_getElem (by omega)]
    exact hs _ (List.getElem_mem _)))
  have HN := Lib.hid (numsOf_succ T)
  have HT := Lib.hid (fun (wr : World) (hb : Below w.heap.size w wr) => hT.below hb)
  have HLE := Lib.hid (fun k (L R : List Nat) (h : L ++ R = numsOf T k) => nums_le h)
  have H0 : Hid (numsOf T 0 = []) := Lib.hid rfl
  have HTZ := Lib.hid tz
  have HLW := Lib.hid low
  clear hs hl hT
  obtain ⟨i0, hi, hz0, hz1, hz2⟩ := info_parts infoInt
  go_enter Tryd.func19, Tryd.ntmps19
  go_wp2_with fail
  refine HA.out.mono ?_
  rintro e w1 ⟨rfl, hb⟩
  have HB := Lib.hid hb
  clear hb
  go_wp2_with fail
  generalize encM T = E at *
  generalize hF : numsOf T = F at *
  go_loopw [5, 11] (fun l i wr => ∃ (k : Nat) (L : List Nat), k ≤ 16 ∧ i = .int .i64 k ∧ Hid (L = F k) ∧ wr.ownsRow w.heap.size 3 1 l L.length (encK L) ∧ Below w.heap.size w wr) (fun _ i _ => 16 - (intOf i).toNat)
  case atStart => exact ⟨0, [], by omega, rfl, Lib.hid H0.out.symm, World.ownsRow_nil _ _ _ _, HB.out⟩
  case round =>
    obtain ⟨k, L, hk, rfl, hLF, hown, hbel⟩ := hrel
    by_cases hlt : k < 16
    · have hi1 := HI.out k hlt
      have d1 : decide ((k : Int) < 16) = true := by simp; omega
      have hx := HS.out k hlt
      have hN := HN.out k
      generalize T.getD k 0 = x0 at *
      have HX := Lib.hid (And.intro hLF.out hN)
      have HO := Lib.hid hown
      have HB1 := Lib.hid hbel
      clear hLF hN hown hbel
      go_wp2_with fail
      go_loopw [5, 7] (fun l y wr => ∃ (L : List Nat) (x : Nat), y = .int .u64 x ∧ x < 18446744073709551616 ∧ Hid (L ++ (bitsOf x).map (k * 64 + ·) = F (k + 1)) ∧ wr.ownsRow w.heap.size 3 1 l L.length (encK L) ∧ Below w.heap.size w wr) (fun _ y _ => (intOf y).toNat)
      case atStart => exact ⟨L, x0, rfl, hx, Lib.hid (by rw [HX.out.2, HX.out.1]), HO.out, HB1.out⟩
      case round =>
        clear HO HB1 HX
        obtain ⟨L1, x, rfl, hx1, hLF, hown, hbel⟩ := hrel
        by_cases hx0 : x = 0
        · subst hx0
          have hF1 : Hid (L1 = F (k + 1)) := Lib.hid (by rw [← hLF.out, bitsOf_zero]; simp)
          clear hLF
          have HO := Lib.hid hown
          have HB1 := Lib.hid hbel
          clear hown hbel
          go_wp2_with fail
          go_roundw
          case rel => exact ⟨k + 1, L1, by omega, by go_num, hF1, HO.out, HB1.out⟩
          case measure => simp [intOf]; omega
        · have HZ := Lib.hid (HTZ.out x hx0 hx1 _ (HT.out _ hbel))
          obtain ⟨hj, _, _, _⟩ := HLW.out x hx0 hx1
          have hkey := and_key x hx0 hx1
          have hst := bitsOf_step x hx0 hx1
          have hlt2 := and_less x hx0
          have hle : Hid (L1.length + (bitsOf x).length ≤ (k + 1) * 64) := Lib.hid (by have := HLE.out (k + 1) L1 _ hLF.out; simpa using this)
          have hln : L1.length ≤ 1024 := by have := hle.out; omega
          have hn0 : ((x : Int) != 0) = true := by simp; omega
          rw [hst] at hLF
          have HLF := Lib.hid hLF.out
          have HLT := Lib.hid (And.intro hlt2 (and_small x hx1))
          clear hLF hst hle hlt2
          generalize ctz 64 x = j at *
          generalize hy : (x &&& (x - 1)) = y at *
          clear hy
          go_wp2_with (first | ((with_reducible refine HZ.out.mono ?_); rintro e w' ⟨rfl, rfl⟩) | (at_builtin; refine wpList_append_own _ rfl _ _ 33 rfl w.heap.size 3 i0 (.int .i64 0) 1 8 Tryd.underlying33 hi hz0 hz1 hz2 rfl (by decide) _ _ _ rfl (hown.alloc _) ⟨wr.heap.size, 0, none⟩ 1 1 [.int .i64 ((k : Int) * 64 + (j : Int))] rfl rfl ?c1 ?c2 ?c3 ?c4 ?c5 ?_) | (simp only [hkey]))
          case c1 => exact new_cell1 _ _ _
          case c2 => intro u hu; simp at hu; subst hu; rfl
          case c3 => unfold maxLen; omega
          case c4 => omega
          case c5 => have := hbel.size; simp; omega
          intro v' w2 hown' hgrow _
          have hown2 : w2.ownsRow w.heap.size 3 1 v' (L1 ++ [k * 64 + j]).length (encK (L1 ++ [k * 64 + j])) := by
            rw [encK_snoc, List.length_append]
            have e1 : (((k * 64 + j : Nat)) : Int) = (k : Int) * 64 + j := by simp
            rw [e1]
            simpa using hown'
          have hbel2 := below_own hbel hown hgrow
          clear hown' hown hbel hgrow HZ
          go_wp2_with fail
          try rw [hkey]
          go_roundw
          case rel => exact ⟨L1 ++ [k * 64 + j], y, rfl, HLT.out.2, Lib.hid (by rw [← HLF.out]; simp), hown2, hbel2⟩
          case measure => have := HLT.out.1; simp [intOf]; omega
    · have hk16 : k = 16 := by omega
      subst hk16
      have hL : L = F 16 := hLF.out
      subst hL
      have HO := Lib.hid hown
      have HB1 := Lib.hid hbel
      clear hown hbel hLF
      go_wp2_with fail
      go_ret
      exact ⟨_, rfl, HO.out, HB1.out⟩
end Go.Proofs.YtmeiigcjfjapfaaDoor.SetJ
