/- The walk of the law of sums. -/
import Derived.Test.YtmeiigcjfjapfaaSetE
import Derived.ChangeKeysEq
import Derived.Deep.CutBlock
import Derived.Deep.LoopGhost
namespace Go.Proofs.Ytmeiigcjfjapfaa.SetF
open Go.RowKit Go.Lib Go.Proofs Go.Proofs.Ytmeiigcjfjapfaa.SetPop Go.Proofs.Ytmeiigcjfjapfaa.SetA Go.Proofs.Ytmeiigcjfjapfaa.SetB Go.Proofs.Ytmeiigcjfjapfaa.SetC Go.Proofs.Ytmeiigcjfjapfaa.SetD Go.Proofs.Ytmeiigcjfjapfaa.SetE
set_option linter.unusedVariables false
set_option linter.unusedSimpArgs false
/-- A slice value that reads as pairs of numbers, wherever it lies. -/
def PrG (w : World) (A : Option Addr) (L : List (Int × Int)) : Prop :=
  0 < L.length → ∃ g o, A = some ⟨g, o, none⟩ ∧ g < w.heap.size ∧ ∀ j, (h : j < L.length) → w.cell? ⟨g, o + j * 2, none⟩ = some (.int .i64 L[j].1) ∧ w.cell? ⟨g, o + j * 2 + 1, none⟩ = some (.int .i64 L[j].2)
theorem PrG.below {w w' : World} {A : Option Addr} {L : List (Int × Int)} (h : PrG w A L) (hb : Below w.heap.size w w') : PrG w' A L := fun hp => by
  obtain ⟨g, o, hA, hg, hc⟩ := h hp
  refine ⟨g, o, hA, Nat.lt_of_lt_of_le hg hb.size, fun j hj => ?_⟩
  obtain ⟨a, b⟩ := hc j hj
  exact ⟨(hb.cell (p := ⟨g, o + j * 2, none⟩) hg).trans a, (hb.cell (p := ⟨g, o + j * 2 + 1, none⟩) hg).trans b⟩
theorem PrG.take {w : World} {A : Option Addr} {L : List (Int × Int)} (h : PrG w A L) (m : Nat) : PrG w A (L.take m) := fun hp => by
  obtain ⟨g, o, hA, hg, hc⟩ := h (by simp at hp; omega)
  refine ⟨g, o, hA, hg, fun j hj => ?_⟩
  rw [List.getElem_take]
  exact hc j (by simp at hj; omega)
theorem eqI (d : Nat) (a b : Int) (w : World) : (Op.equalIn (d + 1) 3 (.int .i64 a) (.int .i64 b)).run Try.prog w = .ok (a == b) w := by
  simp [Op.equalIn, run_underlying Try.underlying3]
theorem keyI : (Try.prog).plainKey 3 = true := by kernel_rfl
theorem cellsI : (Try.prog).cellsOf 3 = 1 := by kernel_rfl
theorem infoI : ∃ i, (Try.prog).info? 3 = some i := by
  cases h : (Try.prog).info? 3 with
  | none => exact absurd h (by intro h; have : ((Try.prog).info? 3).isSome = true := by kernel_rfl
                               rw [h] at this; cases this)
  | some i => exact ⟨i, rfl⟩
theorem eqP (a b a2 b2 : Int) (w : World) : (binOp .eql 26 (.agg #[.int .i64 a, .int .i64 b]) (.agg #[.int .i64 a2, .int .i64 b2])).run Try.prog w = .ok (.bool (decide (a = a2 ∧ b = b2))) w := by
  obtain ⟨i, hi⟩ := infoI
  have h := run_equalIn_array (P := Try.prog) w 9999 #[.int .i64 a, .int .i64 b] #[.int .i64 a2, .int .i64 b2] Try.underlying26 hi
  have h2 : (Op.equalIn 10000 26 (.agg #[.int .i64 a, .int .i64 b]) (.agg #[.int .i64 a2, .int .i64 b2])).run Try.prog w = .ok (decide (a = a2 ∧ b = b2)) w := by
    refine h.trans ?_
    rw [cellsI]
    have p0 := run_part_plain (P := Try.prog) w keyI (xs := #[.int .i64 a, .int .i64 b]) (off := 0) (v := .int .i64 a) rfl
    have p1 := run_part_plain (P := Try.prog) w keyI (xs := #[.int .i64 a, .int .i64 b]) (off := 1) (v := .int .i64 b) rfl
    have q0 := run_part_plain (P := Try.prog) w keyI (xs := #[.int .i64 a2, .int .i64 b2]) (off := 0) (v := .int .i64 a2) rfl
    have q1 := run_part_plain (P := Try.prog) w keyI (xs := #[.int .i64 a2, .int .i64 b2]) (off := 1) (v := .int .i64 b2) rfl
    have e0 : (Op.equalIn 9999 3 (.int .i64 a) (.int .i64 a2)).run Try.prog w = .ok (a == a2) w := eqI 9998 a a2 w
    have e1 : (Op.equalIn 9999 3 (.int .i64 b) (.int .i64 b2)).run Try.prog w = .ok (b == b2) w := eqI 9998 b b2 w
    simp only [List.range, List.range.loop, Op.eqItems, Sem.run_bind, Nat.zero_mul, Nat.one_mul, p0, p1, q0, q1, Result.andThen_ok, e0, e1]
    by_cases h0 : a = a2
    rotate_left
    · simp [h0]
    subst h0
    by_cases h1 : b = b2
    · subst h1
      simp [p1, q1, e1]
    · simp [p1, q1, e1, h1]
  clear h
  simp only [go_sem]
  go_simp
set_option maxHeartbeats 1000000 in
set_option maxRecDepth 100000 in
theorem sums (rows cols : Int) (A : Option Addr) (ca : Nat) (L : List (Int × Int)) (w : World) (hL : L.length ≤ maxLen) (hca : L.length ≤ ca) (hm : ca ≤ maxLen) (hA : PrG w A L) : Calls Try.prog 3 #[.int .i64 rows, .int .i64 cols, .slice A L.length ca] w fun e w' => e = .returned (.bool true) ∧ Below w.heap.size w w' := by
  unfold maxLen at hL hm
  obtain ⟨m, hmm⟩ : ∃ m, min L.length 60 = m := ⟨_, rfl⟩
  have HE : Hid ((if (60 : Int) < (L.length : Int) then (60 : Int) else (L.length : Int)) = (m : Int)) := Lib.hid (by split <;> omega)
  have hm60 : m ≤ 60 := by omega
  have hTl : (L.take m).length = m := by simp; omega
  have HA := Lib.hid (hA.take m)
  have HLV := Lib.hid lives
  clear hmm hA
  generalize L.take m = T at *
  have HTl := Lib.hid hTl
  clear hTl
  go_enter Try.func3, Try.ntmps3
  go_upto_region 2 with fail
  rw [HE.out]
  generalize L.length = ln at *
  clear HE hL hca
  by_cases h8 : 8 < rows
  · go_wp2_with ((with_reducible refine (HLV.out _).mono ?_); rintro e w' ⟨rfl, hb⟩)
    go_ret
    exact ⟨rfl, hb⟩
  by_cases h100 : 100 < cols
  · go_wp2_with ((with_reducible refine (HLV.out _).mono ?_); rintro e w' ⟨rfl, hb⟩)
    go_ret
    exact ⟨rfl, hb⟩
  have h8' : rows ≤ 8 := by omega
  have h100' : cols ≤ 100 := by omega
  clear h8 h100
  obtain ⟨n, hn⟩ : ∃ n, (within rows 5000).toNat = n := ⟨_, rfl⟩
  obtain ⟨c, hc⟩ : ∃ n, (within cols 1000).toNat = n := ⟨_, rfl⟩
  have HN := Lib.hid (new_ rows cols w)
  unfold NewPost at HN
  rw [hn, hc] at HN
  have hnr : max rows 0 = (n : Int) := by unfold within at hn; omega
  have hcr : max cols 0 = (c : Int) := by unfold within at hc; omega
  have hn8 : n ≤ 8 := by omega
  have hc100 : c ≤ 100 := by omega
  have HNR : Hid ((if rows < 0 then (0 : Int) else rows) = n) := Lib.hid (by split <;> omega)
  have HCR : Hid ((if cols < 0 then (0 : Int) else cols) = c) := Lib.hid (by split <;> omega)
  clear hn hc hnr hcr
  go_wp2_with fail
  refine HN.out.mono ?_
  rintro e w1 ⟨B, R, rfl, hf, hb, hB, hR⟩
  have HF := Lib.hid hf
  have HB := Lib.hid hb
  have HR := Lib.hid hR
  clear hf hb hR hB
  go_wp2_with fail
  go_loopw [33] (fun i wr => ∃ k : Nat, k ≤ m ∧ i = .int .i64 k ∧ Hid (Fam wr B R n c (addL n c (List.replicate (n * 16) 0) (T.take k))) ∧ Below w.heap.size w wr) (fun i _ => m - (intOf i).toNat)
  case atStart => exact ⟨0, by omega, rfl, Lib.hid HF.out, HB.out⟩
  case round =>
    obtain ⟨k, hk, rfl, hf, hb⟩ := hrel
    by_cases hlt : k < m
    · have d1 : decide ((k : Int) < m) = true := by simp; omega
      have p0 : (0 : Int) ≤ k := by omega
      have p1 : (k : Int) < m := by omega
      have hkT : k < T.length := by rw [HTl.out]; exact hlt
      obtain ⟨g, o, rfl, hg, hcell⟩ := (HA.out.below hb) (by omega)
      obtain ⟨a0, a1⟩ := hcell k hkT
      have HS : Hid (addN n c (addL n c (List.replicate (n * 16) 0) (T.take k)) T[k].1 T[k].2 = addL n c (List.replicate (n * 16) 0) (T.take (k + 1))) := Lib.hid (by
        rw [List.take_succ_eq_append_getElem hkT, addL_snoc])
      have HFk := Lib.hid (hf.out.below ((Below.refl _ wr).alloc (Nat.le_refl _) (.cells #[.int .i64 T[k].1, .int .i64 T[k].2] 26)))
      have HBk := Lib.hid (hb.alloc hb.size (.cells #[.int .i64 T[k].1, .int .i64 T[k].2] 26))
      clear hcell hf hb
      generalize T[k].1 = x at *
      generalize T[k].2 = y at *
      go_wp2_with fail
      refine (add_ B R n c _ x y _ HFk.out).mono ?_
      rintro e w3 ⟨rfl, hf, hg3⟩
      rw [HS.out] at hf
      have HF3 := Lib.hid hf
      have HB3 := Lib.hid (Fam.grown HBk.out hg3 HR.out)
      clear hf hg3
      go_wp2_with fail
      go_roundw
      case rel => exact ⟨k + 1, by omega, by go_num, HF3, HB3.out⟩
      case measure => simp [intOf]; omega
    · have d1 : decide ((k : Int) < m) = false := by simp; omega
      have hkm := Lib.hid (show k = m by omega)
      have HM : Hid (∀ i j, i < n → j < c → bitAt (addL n c (List.replicate (n * 16) 0) (T.take k)) i j = decide (((i : Int), (j : Int)) ∈ T)) := Lib.hid (fun i j hi hj => by
        rw [bit_addL n c (by omega) _ _ i j (by simp) hi hj, bit_zero, Bool.false_or, hkm.out, List.take_of_length_le (by rw [HTl.out]; omega)])
      have HF2 := hf
      have HB2 := Lib.hid hb
      clear hf hb HF HB
      generalize addL n c (List.replicate (n * 16) 0) (T.take k) = M at *
      have HFr : Hid (∀ wr, Below wr.heap.size wr wr → True) := Lib.hid (fun _ _ => trivial)
      clear HFr
      have HLn := Lib.hid (fun (wr : World) (i : Nat) (h : Fam wr B R n c M) => len_ B R n c M i wr h)
      have HTo := Lib.hid (fun (wr : World) (h : Fam wr B R n c M) => total B R n c M wr h)
      have HHas := Lib.hid (fun (wr : World) (i j : Nat) (h : Fam wr B R n c M) (hi : i < n) (hj : j < c) => has_yes B R n c M i j wr h hi hj)
      have HIn := Lib.hid (fun (wr : World) (i : Nat) (h : Fam wr B R n c M) => inside_ B R n c M i i wr h)
      have HMe := Lib.hid (fun (wr : World) (i : Nat) (h : Fam wr B R n c M) => meets_ B R n c M i i wr h)
      unfold InsidePost at HIn HMe
      have hself : ∀ i : Nat, insideB (rowI n M i) (rowI n M i) = true ∧ meetsB (rowI n M i) (rowI n M i) = decide (0 < cnt (rowI n M i)) := fun i => ⟨inside_self _ (rowI_len HF2.out.len i) (rowI_small HF2.out i), meets_self _ (rowI_len HF2.out.len i) (rowI_small HF2.out i)⟩
      have HSe := Lib.hid hself
      have HTs := Lib.hid (fun k => tot_succ n M k)
      have HTb := Lib.hid (fun k => tot_le HF2.out.len k)
      have HCb := Lib.hid (fun (k : Nat) => cntI_le HF2.out.len (k : Int))
      clear hself
      go_upto_block 2 with fail
      rw [HNR.out]
      go_wp2_with fail
      go_loopw [10, 46] (fun s i wx => ∃ k : Nat, k ≤ n ∧ i = .int .i64 k ∧ s = .int .i64 (tot n M k) ∧ Hid (Fam wx B R n c M) ∧ Below w.heap.size w wx) (fun _ i _ => n - (intOf i).toNat)
      case atStart => exact ⟨0, by omega, rfl, rfl, HF2, HB2.out⟩
      case round =>
        clear HF2 HB2
        obtain ⟨i, hi, rfl, rfl, hf, hb⟩ := hrel
        by_cases hlt : i < n
        · have d1 : decide ((i : Int) < n) = true := by simp; omega
          have b1 := HTb.out i
          have b2 := HCb.out i
          have HLni := Lib.hid (HLn.out wr i hf.out)
          have HTsi := Lib.hid (HTs.out i)
          obtain ⟨q1, q2⟩ := HSe.out i
          have HIni := Lib.hid (fun wr h => HIn.out wr i h)
          have HMei := Lib.hid (fun wr h => HMe.out wr i h)
          have HLn2 := Lib.hid (fun wr h => HLn.out wr i h)
          rw [q1] at HIni
          rw [q2] at HMei
          have HB := Lib.hid hb
          clear hb q1 q2
          generalize cnt (rowI n M i) = x at *
          go_wp2_with fail
          refine HLni.out.mono ?_
          rintro e w2 ⟨rfl, hb2⟩
          have HF2 := Lib.hid (hf.out.below hb2)
          have HB2 := Lib.hid (HB.out.trans (hb2.mono HB.out.size))
          clear hb2 hf HB
          go_upto_block 4 with fail
          rw [HCR.out]
          go_wp2_with fail
          go_loopw [56] (fun s wx => ∃ j : Nat, j ≤ c ∧ s = .int .i64 j ∧ Hid (Fam wx B R n c M) ∧ Below w.heap.size w wx) (fun s _ => c - (intOf s).toNat)
          case atStart => exact ⟨0, by omega, rfl, HF2, HB2.out⟩
          case round =>
            clear HF2 HB2
            obtain ⟨j, hj, rfl, hf, hb⟩ := hrel
            by_cases hltj : j < c
            · have d2 : decide ((j : Int) < c) = true := by simp; omega
              have HMij := Lib.hid (HM.out i j hlt hltj)
              have HHij := Lib.hid (fun wr h => HHas.out wr i j h hlt hltj)
              rw [HMij.out] at HHij
              have HF := hf
              have HB := Lib.hid hb
              clear hf hb HMij
              go_wp2_with fail
              go_loopw [13, 61] (fun p s wx => ∃ q : Nat, q ≤ m ∧ s = .int .i64 q ∧ p = .bool (decide (((i : Int), (j : Int)) ∈ T.take q)) ∧ Hid (Fam wx B R n c M) ∧ Below w.heap.size w wx) (fun _ s _ => m - (intOf s).toNat)
              case atStart => exact ⟨0, by omega, rfl, by simp, HF, HB.out⟩
              case round =>
                clear HF HB
                obtain ⟨q, hq, rfl, rfl, hf, hb⟩ := hrel
                by_cases hltq : q < m
                · have d3 : decide ((q : Int) < m) = true := by simp; omega
                  have p0 : (0 : Int) ≤ q := by omega
                  have p1 : (q : Int) < m := by omega
                  have hqT : q < T.length := by rw [HTl.out]; exact hltq
                  obtain ⟨g, o, rfl, hg, hcell⟩ := (HA.out.below hb) (by omega)
                  obtain ⟨a0, a1⟩ := hcell q hqT
                  have HFk := Lib.hid (hf.out.below ((Below.refl _ wr).alloc (Nat.le_refl _) (.cells #[.int .i64 T[q].1, .int .i64 T[q].2] 26)))
                  have HBk := Lib.hid (hb.alloc hb.size (.cells #[.int .i64 T[q].1, .int .i64 T[q].2] 26))
                  have he := fun w => eqP T[q].1 T[q].2 i j w
                  have HS : Hid (decide (((i : Int), (j : Int)) ∈ T.take (q + 1)) = (decide (((i : Int), (j : Int)) ∈ T.take q) || decide (T[q].1 = i ∧ T[q].2 = j))) := Lib.hid (by
                    rw [List.take_succ_eq_append_getElem hqT, Bool.eq_iff_iff]
                    simp only [Bool.or_eq_true, decide_eq_true_eq, List.mem_append, List.mem_singleton]
                    refine or_congr Iff.rfl ?_
                    rw [Prod.ext_iff]
                    exact ⟨fun h => ⟨h.1.symm, h.2.symm⟩, fun h => ⟨h.1.symm, h.2.symm⟩⟩)
                  clear hcell hf hb
                  generalize decide (T[q].1 = i ∧ T[q].2 = j) = b1 at *
                  generalize decide (((i : Int), (j : Int)) ∈ T.take q) = b2 at *
                  generalize T[q].1 = x1 at *
                  generalize T[q].2 = y1 at *
                  cases b2
                  all_goals
                    go_wp2_with fail
                    go_roundw
                    case rel => exact ⟨q + 1, by omega, by go_num, by rw [HS.out]; first | rfl | simp, HFk, HBk.out⟩
                    case measure => simp [intOf]; omega
                · have d3 : decide ((q : Int) < m) = false := by simp; omega
                  have hqm : T.take q = T := List.take_of_length_le (by rw [HTl.out]; omega)
                  rw [hqm]
                  have HFq := hf
                  have HBq := Lib.hid hb
                  clear hqm hf hb
                  generalize decide (((i : Int), (j : Int)) ∈ T) = bb at *
                  cases bb
                  all_goals
                    go_wp2_with fail
                    refine (HHij.out _ HFq.out).mono ?_
                    rintro e w5 ⟨rfl, qq, rfl⟩
                    have HF5 := Lib.hid (HFq.out.drewN qq)
                    have HB5 := Lib.hid (below_drewN HBq.out qq)
                    go_wp2_with fail
                    go_roundw
                    case rel => exact ⟨j + 1, by omega, by go_num, HF5, HB5.out⟩
                    case measure => simp [intOf]; omega
            · have d2 : decide ((j : Int) < c) = false := by simp; omega
              have HF := hf
              have HB := Lib.hid hb
              clear hf hb
              go_wp2_with fail
              refine (HIni.out _ HF.out).mono ?_
              rintro e w5 ⟨rfl, hb5⟩
              have HF5 := Lib.hid (HF.out.below hb5)
              have HB5 := Lib.hid (HB.out.trans (hb5.mono HB.out.size))
              clear hb5
              go_wp2_with fail
              refine (HMei.out _ HF5.out).mono ?_
              rintro e w6 ⟨rfl, hb6⟩
              have HF6 := Lib.hid (HF5.out.below hb6)
              have HB6 := Lib.hid (HB5.out.trans (hb6.mono HB5.out.size))
              clear hb6
              go_wp2_with fail
              refine (HLn2.out _ HF6.out).mono ?_
              rintro e w7 ⟨rfl, hb7⟩
              have HF7 := Lib.hid (HF6.out.below hb7)
              have HB7 := Lib.hid (HB6.out.trans (hb7.mono HB6.out.size))
              clear hb7
              by_cases hx0 : 0 < x
              · have hz : decide ((0 : Int) < (x : Int)) = true := by simp; omega
                have hz2 : decide (0 < x) = true := by simp; omega
                go_wp2_with fail
                go_roundw
                case rel => exact ⟨i + 1, by omega, by go_num, by rw [HTsi.out]; go_num, HF7, HB7.out⟩
                case measure => simp [intOf]; omega
              · have hz : decide ((0 : Int) < (x : Int)) = false := by simp; omega
                have hz2 : decide (0 < x) = false := by simp; omega
                go_wp2_with fail
                go_roundw
                case rel => exact ⟨i + 1, by omega, by go_num, by rw [HTsi.out]; go_num, HF7, HB7.out⟩
                case measure => simp [intOf]; omega
        · have d1 : decide ((i : Int) < n) = false := by simp; omega
          have hin : tot n M i = tot n M n := by rw [show i = n by omega]
          rw [hin]
          have HTn := Lib.hid (HTo.out _ hf.out)
          have HB := Lib.hid hb
          have hxb := HTb.out n
          clear hb hf hin
          generalize tot n M n = x at *
          go_wp2_with fail
          refine HTn.out.mono ?_
          rintro e w5 ⟨rfl, hb5⟩
          have HB5 := Lib.hid (HB.out.trans (hb5.mono HB.out.size))
          clear hb5
          go_wp2_with fail
          refine (HLV.out _).mono ?_
          rintro e w6 ⟨rfl, hb6⟩
          have HB6 := Lib.hid (HB5.out.trans (hb6.mono HB5.out.size))
          clear hb6
          go_wp2_with fail
          go_ret
          exact ⟨rfl, HB6.out⟩
end Go.Proofs.Ytmeiigcjfjapfaa.SetF
