/- The walk of the law of copies. -/
import Derived.Test.YtmeiigcjfjapfaaDoorSetF
import Derived.Test.YtmeiigcjfjapfaaDoorSetH
namespace Go.Proofs.YtmeiigcjfjapfaaDoor.SetI
open Go.RowKit Go.Lib Go.Proofs Go.Proofs.YtmeiigcjfjapfaaDoor.SetPop Go.Proofs.YtmeiigcjfjapfaaDoor.SetA Go.Proofs.YtmeiigcjfjapfaaDoor.SetB Go.Proofs.YtmeiigcjfjapfaaDoor.SetC Go.Proofs.YtmeiigcjfjapfaaDoor.SetD Go.Proofs.YtmeiigcjfjapfaaDoor.SetE Go.Proofs.YtmeiigcjfjapfaaDoor.SetF Go.Proofs.YtmeiigcjfjapfaaDoor.SetG Go.Proofs.YtmeiigcjfjapfaaDoor.SetH
set_option linter.unusedVariables false
set_option linter.unusedSimpArgs false
theorem w00 : (within 0 5000).toNat = 0 := by decide
theorem w01 : (within 0 1000).toNat = 0 := by decide
theorem Fam.far {w w' : World} {B R n c : Nat} {M : List Nat} {R2 : Nat} (h : Fam w B R n c M) (hg : w.grownBy w' (some R2)) (hB : B ≠ R2) (hR : R ≠ R2) : Fam w' B R n c M :=
  h.keep (hg.block _ h.lt.1 (by simpa using hB)) (hg.block _ h.lt.2 (by simpa using hR))
set_option maxHeartbeats 1000000 in
set_option maxRecDepth 100000 in
theorem copies (rows cols : Int) (A : Option Addr) (ca : Nat) (L : List (Int × Int)) (w : World) (hL : L.length ≤ maxLen) (hca : L.length ≤ ca) (hm : ca ≤ maxLen) (hA : PrG w A L) : Calls Tryd.prog 4 #[.int .i64 rows, .int .i64 cols, .slice A L.length ca] w fun e w' => e = .returned (.bool true) ∧ Below w.heap.size w w' := by
  unfold maxLen at hL hm
  obtain ⟨m, hmm⟩ : ∃ m, min L.length 60 = m := ⟨_, rfl⟩
  have HE : Hid ((if (60 : Int) < (L.length : Int) then (60 : Int) else (L.length : Int)) = (m : Int)) := Lib.hid (by split <;> omega)
  have hm60 : m ≤ 60 := by omega
  have hTl : (L.take m).length = m := by simp; omega
  have HA := Lib.hid (hA.take m)
  have HLV := Lib.hid lives
  clear hmm hA
  generalize L.take m = T at *
  have HTl := Lib.hid hTl
  clear hTl
  go_enter Tryd.func4, Tryd.ntmps4
  go_upto_region 2 with fail
  rw [HE.out]
  generalize L.length = ln at *
  clear HE hL hca
  obtain ⟨n, hn⟩ : ∃ n, (within rows 5000).toNat = n := ⟨_, rfl⟩
  obtain ⟨c, hc⟩ : ∃ n, (within cols 1000).toNat = n := ⟨_, rfl⟩
  have HN := Lib.hid (new_ rows cols w)
  unfold NewPost at HN
  rw [hn, hc] at HN
  have hn8 : n ≤ 5000 := by have := within_le rows 5000 (by omega); omega
  have hc100 : c ≤ 1000 := by have := within_le cols 1000 (by omega); omega
  clear hn hc
  go_wp2_with fail
  refine HN.out.mono ?_
  rintro e w1 ⟨B, R, rfl, hf, hb, hB, hR⟩
  have HF := Lib.hid hf
  have HB := Lib.hid hb
  have HR := Lib.hid hR
  clear hf hb hR hB
  go_wp2_with fail
  go_loopw [23] (fun i wr => ∃ (k : Nat) (M : List Nat), k ≤ m ∧ i = .int .i64 k ∧ Hid (k = 0 → M = List.replicate (n * 16) 0) ∧ Hid (Fam wr B R n c M) ∧ Below w.heap.size w wr) (fun i _ => m - (intOf i).toNat)
  case atStart => exact ⟨0, _, by omega, rfl, Lib.hid (fun _ => rfl), HF, HB.out⟩
  case round =>
    clear HF HB
    obtain ⟨k, M, hk, rfl, hz0, hf, hb⟩ := hrel
    by_cases hlt : k < m
    · have d1 : decide ((k : Int) < m) = true := by simp; omega
      have p0 : (0 : Int) ≤ k := by omega
      have p1 : (k : Int) < m := by omega
      have hkT : k < T.length := by rw [HTl.out]; exact hlt
      obtain ⟨g, o, rfl, hg, hcell⟩ := (HA.out.below hb) (by omega)
      obtain ⟨a0, a1⟩ := hcell k hkT
      generalize T[k].1 = x at *
      generalize T[k].2 = y at *
      have hbox : Below wr.heap.size wr (wr.alloc (.cells #[.int .i64 x, .int .i64 y] 27)) := (Below.refl _ wr).alloc (Nat.le_refl _) _
      have HFk := Lib.hid (hf.out.below hbox)
      have HBk := Lib.hid (hb.trans (hbox.mono hb.size))
      have HX : Hid (∀ wx : World, wx.heap[wr.heap.size]? = some (.cells #[.int .i64 x, .int .i64 y] 27 (0, 0)) → wx.cell? ⟨wr.heap.size, 0, none⟩ = some (.int .i64 x) ∧ wx.cell? ⟨wr.heap.size, 1, none⟩ = some (.int .i64 y)) := Lib.hid (fun wx h => by
        constructor <;> (rw [Lib.cell_of_heap h]; rfl))
      have hX3 : (wr.alloc (.cells #[.int .i64 x, .int .i64 y] 27)).heap[wr.heap.size]? = some (.cells #[.int .i64 x, .int .i64 y] 27 (0, 0)) := heap_alloc_new wr _
      have hRlt : R < wr.heap.size := hf.out.lt.2
      have hl := hf.out.len
      have hs := hf.out.small
      have hT0 : k = 0 → tot n M n = 0 := fun e => by rw [hz0.out e]; exact tot_zero n n n
      have HT0 := Lib.hid hT0
      have HTb := Lib.hid (tot_le hl n)
      have HW1 := Lib.hid (within_add n c M x y hl hs)
      have HW2 := Lib.hid (within_back n c M x y hl hc100 hs)
      have HTa := Lib.hid (fun h => tot_add n c M x y hl hc100 h)
      have HNo := Lib.hid (fun h => addN_no (n := n) (c := c) (M := M) (r := x) (k := y) h)
      have HHa := Lib.hid (fun h => has_of_add (n := n) (c := c) (M := M) (r := x) (k := y) h)
      have HCopy := Lib.hid (copy_ B R n c M _ HFk.out)
      have HAdd := Lib.hid (fun wx h => add_ B R n c M x y wx h)
      unfold AddPost at HAdd
      clear hcell hbox hT0 hl hs hz0
      generalize hW : wr.alloc (.cells #[.int .i64 x, .int .i64 y] 27) = w3 at *
      have hz3 : w3.heap.size = wr.heap.size + 1 := by rw [← hW]; simp
      have HX3 := Lib.hid hX3
      clear hb hf hX3
      go_wp2_with fail
      clear hW
      refine HCopy.out.mono ?_
      rintro e w4 ⟨B2, R2, rfl, hf2, hb4, hB2, hR2⟩
      have hne1 : B2 ≠ R := by omega
      have hne2 : R2 ≠ R := by omega
      have HX4 := Lib.hid ((hb4.block wr.heap.size (by omega)).trans HX3.out)
      have HF4 := Lib.hid (HFk.out.below hb4)
      have HG4 := Lib.hid hf2
      have HB4 := Lib.hid (HBk.out.trans (hb4.mono HBk.out.size))
      obtain ⟨x0, x1⟩ := HX.out w4 HX4.out
      clear hb4 hf2 hB2 hR2
      go_wp2_with fail
      refine (HAdd.out _ HF4.out).mono ?_
      rintro e w5 ⟨rfl, hf5, hg5⟩
      clear x0 x1
      have HX5 := Lib.hid ((hg5.block wr.heap.size (by have := HG4.out.lt; have := (Array.getElem?_eq_some_iff.1 HX4.out).1; omega) (by simp; omega)).trans HX4.out)
      have HF5 := Lib.hid hf5
      have HG5 := Lib.hid (Fam.far HG4.out hg5 hne1 hne2)
      have HB5 := Lib.hid (Fam.grown HB4.out hg5 HR.out)
      have HWi1 := Lib.hid (fun wx h1 h2 => within_fam B2 R2 B R n c M (addN n c M x y) wx h1 h2)
      have HWi2 := Lib.hid (fun wx h1 h2 => within_fam B R B2 R2 n c (addN n c M x y) M wx h1 h2)
      have HHs := Lib.hid (fun wx h1 => has_ B2 R2 n c M x y wx h1)
      have HTg := Lib.hid (fun wx h1 => total B2 R2 n c M wx h1)
      have HTf := Lib.hid (fun wx h1 => total B R n c (addN n c M x y) wx h1)
      rw [HW1.out] at HWi1
      rw [HW2.out] at HWi2
      unfold InsidePost at HWi1 HWi2
      have hcase : (addB n c M x y = true ∧ hasB n c M x y = false ∧ tot n (addN n c M x y) n = tot n M n + 1) ∨ (addB n c M x y = false ∧ tot n (addN n c M x y) n = tot n M n) := by
        cases hb : addB n c M x y with
        | true => exact Or.inl ⟨rfl, HHa.out hb, HTa.out hb⟩
        | false => exact Or.inr ⟨rfl, by rw [HNo.out hb]⟩
      have HTb2 := HTb.out
      have HT02 := HT0.out
      clear hf5 hg5 HF4 HG4 HB4 HX4 HW1 HW2 HTa HNo HHa HTb HT0 HAdd HCopy HFk HBk HX3 hne1 hne2
      generalize addN n c M x y = M2 at *
      generalize addB n c M x y = bb at *
      generalize hasB n c M x y = hh at *
      generalize tot n M n = t at *
      generalize tot n M2 n = t2 at *
      have HM2 : Hid (k + 1 = 0 → M2 = List.replicate (n * 16) 0) := Lib.hid (fun h => absurd h (by omega))
      have hth : ((t : Int) + 1 == (t : Int)) = false := by simp; omega
      by_cases hk0 : k = 0
      · have hkz : ((k : Int) == 0) = true := by simp; omega
        obtain rfl : t = 0 := HT02 hk0
        clear HT02 hk0
        rcases hcase with ⟨rfl, rfl, rfl⟩ | ⟨rfl, rfl⟩
        rotate_left
        cases hh
        all_goals
          go_wp2_with fail
          refine (HWi1.out _ HG5.out HF5.out).mono ?_
          rintro e w6 ⟨rfl, hb6⟩
          have HF6 := Lib.hid (HF5.out.below hb6)
          have HG6 := Lib.hid (HG5.out.below hb6)
          have HB6 := Lib.hid (HB5.out.trans (hb6.mono HB5.out.size))
          have HX6 := Lib.hid ((hb6.block wr.heap.size (Array.getElem?_eq_some_iff.1 HX5.out).1).trans HX5.out)
          clear hb6 HF5 HG5 HB5 HX5
          go_wp2_with fail
          refine (HWi2.out _ HF6.out HG6.out).mono ?_
          rintro e w7 ⟨rfl, hb7⟩
          have HF7 := Lib.hid (HF6.out.below hb7)
          have HG7 := Lib.hid (HG6.out.below hb7)
          have HB7 := Lib.hid (HB6.out.trans (hb7.mono HB6.out.size))
          have HX7 := Lib.hid ((hb7.block wr.heap.size (Array.getElem?_eq_some_iff.1 HX6.out).1).trans HX6.out)
          obtain ⟨x0, x1⟩ := HX.out w7 HX7.out
          clear hb7 HF6 HG6 HB6 HX6
          go_wp2_with fail
          refine (HHs.out _ HG7.out).mono ?_
          rintro e w8 ⟨rfl, q, rfl⟩
          have HF8 := Lib.hid (HF7.out.drewN q)
          have HG8 := Lib.hid (HG7.out.drewN q)
          have HB8 := Lib.hid (below_drewN HB7.out q)
          clear x0 x1 HF7 HG7 HB7 HX7
          go_wp2_with fail
          refine (HTg.out _ HG8.out).mono ?_
          rintro e w9 ⟨rfl, hb9⟩
          have HF9 := Lib.hid (HF8.out.below hb9)
          have HG9 := Lib.hid (HG8.out.below hb9)
          have HB9 := Lib.hid (HB8.out.trans (hb9.mono HB8.out.size))
          clear hb9 HF8 HG8 HB8
          go_wp2_with fail
          refine (HTf.out _ HF9.out).mono ?_
          rintro e w10 ⟨rfl, hb10⟩
          have HF10 := Lib.hid (HF9.out.below hb10)
          have HG10 := Lib.hid (HG9.out.below hb10)
          have HB10 := Lib.hid (HB9.out.trans (hb10.mono HB9.out.size))
          clear hb10 HF9 HG9 HB9
          go_wp2_with fail
          refine (HTf.out _ HF10.out).mono ?_
          rintro e w11 ⟨rfl, hb11⟩
          have HF11 := Lib.hid (HF10.out.below hb11)
          have HG11 := Lib.hid (HG10.out.below hb11)
          have HB11 := Lib.hid (HB10.out.trans (hb11.mono HB10.out.size))
          clear hb11 HF10 HG10 HB10
          go_wp2_with fail
          refine (HTg.out _ HG11.out).mono ?_
          rintro e w12 ⟨rfl, hb12⟩
          have HF12 := Lib.hid (HF11.out.below hb12)
          have HG12 := Lib.hid (HG11.out.below hb12)
          have HB12 := Lib.hid (HB11.out.trans (hb12.mono HB11.out.size))
          clear hb12 HF11 HG11 HB11
          go_wp2_with fail
          refine (HTg.out _ HG12.out).mono ?_
          rintro e w13 ⟨rfl, hb13⟩
          have HF13 := Lib.hid (HF12.out.below hb13)
          have HB13 := Lib.hid (HB12.out.trans (hb13.mono HB12.out.size))
          clear hb13 HF12 HG12 HB12
          go_wp2_with fail
          go_roundw
          case rel => exact ⟨k + 1, M2, by omega, by go_num, HM2, HF13, HB13.out⟩
          case measure => simp [intOf]; omega

      · have hkz : ((k : Int) == 0) = false := by simp; omega
        have HN0 := Lib.hid hk0
        clear HT02 hk0
        have hq1 : ((t : Int) == (t : Int) + 1) = false := by simp; omega
        have hq2 : decide ((t : Int) + 1 < (t : Int)) = false := by simp; omega
        have hq3 : decide (t + 1 < t) = false := by simp
        rcases hcase with ⟨rfl, rfl, rfl⟩ | ⟨rfl, rfl⟩
        rotate_left
        cases hh
        all_goals
          go_wp2_with fail
          refine (HWi1.out _ HG5.out HF5.out).mono ?_
          rintro e w6 ⟨rfl, hb6⟩
          have HF6 := Lib.hid (HF5.out.below hb6)
          have HG6 := Lib.hid (HG5.out.below hb6)
          have HB6 := Lib.hid (HB5.out.trans (hb6.mono HB5.out.size))
          have HX6 := Lib.hid ((hb6.block wr.heap.size (Array.getElem?_eq_some_iff.1 HX5.out).1).trans HX5.out)
          clear hb6 HF5 HG5 HB5 HX5
          go_wp2_with fail
          refine (HWi2.out _ HF6.out HG6.out).mono ?_
          rintro e w7 ⟨rfl, hb7⟩
          have HF7 := Lib.hid (HF6.out.below hb7)
          have HG7 := Lib.hid (HG6.out.below hb7)
          have HB7 := Lib.hid (HB6.out.trans (hb7.mono HB6.out.size))
          have HX7 := Lib.hid ((hb7.block wr.heap.size (Array.getElem?_eq_some_iff.1 HX6.out).1).trans HX6.out)
          obtain ⟨x0, x1⟩ := HX.out w7 HX7.out
          clear hb7 HF6 HG6 HB6 HX6
          go_wp2_with fail
          refine (HHs.out _ HG7.out).mono ?_
          rintro e w8 ⟨rfl, q, rfl⟩
          have HF8 := Lib.hid (HF7.out.drewN q)
          have HG8 := Lib.hid (HG7.out.drewN q)
          have HB8 := Lib.hid (below_drewN HB7.out q)
          clear x0 x1 HF7 HG7 HB7 HX7
          go_wp2_with fail
          refine (HTg.out _ HG8.out).mono ?_
          rintro e w9 ⟨rfl, hb9⟩
          have HF9 := Lib.hid (HF8.out.below hb9)
          have HG9 := Lib.hid (HG8.out.below hb9)
          have HB9 := Lib.hid (HB8.out.trans (hb9.mono HB8.out.size))
          clear hb9 HF8 HG8 HB8
          go_wp2_with fail
          refine (HTf.out _ HF9.out).mono ?_
          rintro e w10 ⟨rfl, hb10⟩
          have HF10 := Lib.hid (HF9.out.below hb10)
          have HG10 := Lib.hid (HG9.out.below hb10)
          have HB10 := Lib.hid (HB9.out.trans (hb10.mono HB9.out.size))
          clear hb10 HF9 HG9 HB9
          go_wp2_with fail
          refine (HTf.out _ HF10.out).mono ?_
          rintro e w11 ⟨rfl, hb11⟩
          have HF11 := Lib.hid (HF10.out.below hb11)
          have HG11 := Lib.hid (HG10.out.below hb11)
          have HB11 := Lib.hid (HB10.out.trans (hb11.mono HB10.out.size))
          clear hb11 HF10 HG10 HB10
          go_wp2_with fail
          refine (HTg.out _ HG11.out).mono ?_
          rintro e w12 ⟨rfl, hb12⟩
          have HF12 := Lib.hid (HF11.out.below hb12)
          have HG12 := Lib.hid (HG11.out.below hb12)
          have HB12 := Lib.hid (HB11.out.trans (hb12.mono HB11.out.size))
          clear hb12 HF11 HG11 HB11
          go_wp2_with fail
          go_roundw
          case rel => exact ⟨k + 1, M2, by omega, by go_num, HM2, HF12, HB12.out⟩
          case measure => simp [intOf]; omega

    · have d1 : decide ((k : Int) < m) = false := by simp; omega
      have HB := Lib.hid hb
      clear hb hf hz0
      go_wp2_with fail
      refine (add0 _).mono ?_
      rintro e w2 ⟨rfl, rfl⟩
      go_wp2_with fail
      refine (has0 _).mono ?_
      rintro e w2 ⟨rfl, q, rfl⟩
      have HB2 := Lib.hid (below_drewN HB.out q)
      clear HB
      go_wp2_with fail
      refine (rows0 _).mono ?_
      rintro e w3 ⟨rfl, rfl⟩
      go_wp2_with fail
      refine (cols0 _).mono ?_
      rintro e w3 ⟨rfl, rfl⟩
      go_wp2_with fail
      refine (len0 _).mono ?_
      rintro e w3 ⟨rfl, hb3⟩
      have HB3 := Lib.hid (HB2.out.trans (hb3.mono HB2.out.size))
      clear hb3
      go_wp2_with fail
      refine (total0 _).mono ?_
      rintro e w4 ⟨rfl, rfl⟩
      go_wp2_with fail
      refine (list0 _).mono ?_
      rintro e w4 ⟨rfl, hb4⟩
      have HB4 := Lib.hid (HB3.out.trans (hb4.mono HB3.out.size))
      clear hb4
      go_wp2_with fail
      refine (within0 _).mono ?_
      rintro e w5 ⟨rfl, rfl⟩
      go_wp2_with fail
      refine (inside0 _).mono ?_
      rintro e w5 ⟨rfl, hb5⟩
      have HB5 := Lib.hid (HB4.out.trans (hb5.mono HB4.out.size))
      clear hb5
      go_wp2_with fail
      refine (meets0 _).mono ?_
      rintro e w6 ⟨rfl, hb6⟩
      have HB6 := Lib.hid (HB5.out.trans (hb6.mono HB5.out.size))
      clear hb6
      go_wp2_with fail
      refine (copy0 _).mono ?_
      rintro e w7 ⟨B2, R2, rfl, hf7, hb7, _, _⟩
      rw [w00, w01] at hf7
      have HR7 := Lib.hid (SetB.rows B2 R2 0 0 _ w7 hf7)
      have HB7 := Lib.hid (HB6.out.trans (hb7.mono HB6.out.size))
      clear hb7 hf7
      go_wp2_with fail
      refine HR7.out.mono ?_
      rintro e w8 ⟨rfl, rfl⟩
      go_wp2_with fail
      refine (HLV.out _).mono ?_
      rintro e w8 ⟨rfl, hb8⟩
      have HB8 := Lib.hid (HB7.out.trans (hb8.mono HB7.out.size))
      clear hb8
      go_wp2_with fail
      go_ret
      exact ⟨rfl, HB8.out⟩
end Go.Proofs.YtmeiigcjfjapfaaDoor.SetI
