/- The walk of the law of sizes of the cache. -/
import Derived.Test.YtekgegpholcdcaaCaF
import Derived.ChangeKeysEq
import Derived.Deep.CutBlock
import Derived.Deep.LoopGhost
namespace Go.Proofs.Ytekgegpholcdcaa.CaG
open Go.RowKit Go.Lib Go.Proofs Go.Proofs.Ytekgegpholcdcaa.CaA Go.Proofs.Ytekgegpholcdcaa.CaB Go.Proofs.Ytekgegpholcdcaa.CaC Go.Proofs.Ytekgegpholcdcaa.CaD Go.Proofs.Ytekgegpholcdcaa.CaE Go.Proofs.Ytekgegpholcdcaa.CaF
set_option linter.unusedVariables false
set_option linter.unusedSimpArgs false
set_option maxHeartbeats 1000000 in
set_option maxRecDepth 100000 in
theorem sizes (size : Int) (A : Option Addr) (ca : Nat) (L : List Int) (w : World) (hL : L.length ≤ maxLen) (hca : L.length ≤ ca) (hm : ca ≤ maxLen) (hA : KG w A L) : Calls Try.prog 7 #[.int .i64 size, .slice A L.length ca] w fun e w' => e = .returned (.bool true) ∧ Below w.heap.size w w' := by
  unfold maxLen at hL hm
  obtain ⟨m, hmm⟩ : ∃ m, min L.length 60 = m := ⟨_, rfl⟩
  have hmi : min (L.length : Int) 60 = (m : Int) := by omega
  have hm60 : m ≤ 60 := by omega
  have hmc : m ≤ ca := by omega
  have hTl : (L.take m).length = m := by simp; omega
  have HA := Lib.hid (hA.take m)
  have HLV := Lib.hid lives
  clear hmm hA
  generalize L.take m = T at *
  have HTl := Lib.hid hTl
  clear hTl
  generalize L.length = ln at *
  obtain ⟨t, ht⟩ : ∃ t, min size 65536 = t := ⟨_, rfl⟩
  have HN := Lib.hid (new_ size w)
  unfold NewPost at HN
  rw [ht] at HN
  go_enter Try.func7, Try.ntmps7
  go_wp2_with fail
  refine HN.out.mono ?_
  rintro e w1 ⟨B, R, k, rfl, hk, hl, hu, hc, hb, hB, hR⟩
  clear HN
  have htw := two_le hk
  have hand := two_and ⟨k, by omega⟩
  simp only at hand
  have hpos := htw.1
  have hhalf : k ≠ 0 → ((2 ^ k / 2 : Nat) : Int) < t := fun h => by
    rw [half h]
    rcases hl with rfl | hl
    · exact absurd rfl h
    · exact hl
  have hone : (2 : Nat) ^ k > 1 → k ≠ 0 := fun h e => by rw [e] at h; simp at h
  have HSz := Lib.hid (fun w H => size_ B R (2 ^ k) (fun _ => Pl.zero) 0 w H)
  have HP := Lib.hid (fun M x w H => put B R k M 0 (qk x) x w hk H)
  unfold PutPost at HP
  have HGt := Lib.hid (fun M x h w hh H => get B R k M h (qk x) w hk hh H)
  have HPi := Lib.hid (fun j h => putL_take k T j h)
  have H0 : Hid (putL k (T.take 0) = fun _ => Pl.zero) := Lib.hid (by simp [putL])
  have HF := Lib.hid hc
  have HB := Lib.hid hb
  have HR := Lib.hid (And.intro hB hR)
  have HK := Lib.hid hk
  clear hc hb hB hR hk hl
  obtain ⟨p, hp⟩ : ∃ p, (2 : Nat) ^ k = p := ⟨_, rfl⟩
  have HPp := Lib.hid hp
  rw [hp] at hand hpos hhalf hone hu htw HSz HF
  obtain ⟨p1, p2⟩ := htw
  obtain ⟨W0, hW0⟩ : ∃ W0, max 1 t = W0 := ⟨_, rfl⟩
  have dA : decide ((p : Int) < W0) = false := decide_eq_false (by omega)
  have dB : p > 1 → decide (W0 ≤ (p : Int) / 2) = false := fun h => decide_eq_false (by have := hhalf (hone h); omega)
  clear hhalf hone hpos
  have HBody : Hid (∀ (u v : Nat), True) := Lib.hid (fun _ _ => trivial)
  clear HBody
  have HPf : Hid (∀ Z : List Nat, Z.length ≤ 2 ^ k → Z.length ≤ p) := Lib.hid (fun Z h => by rw [← hp]; exact h)
  simp only [hp] at HP HGt
  clear hp
  go_wp2_with fail
  refine (HSz.out _ HF.out).mono ?_
  rintro e w2 ⟨rfl, rfl⟩
  clear HSz
  have hcase : (p > 1 ∧ decide (1 < p) = true ∧ decide (W0 ≤ (p : Int) / 2) = false) ∨ (¬ 1 < p ∧ decide (1 < p) = false) ∨ p = 0 := by
    by_cases h : p > 1
    · exact Or.inl ⟨h, decide_eq_true h, dB h⟩
    · exact Or.inr (by by_cases h1 : p = 1; exact Or.inl ⟨by omega, decide_eq_false h⟩; exact Or.inr (by omega))
  have HP0 : Hid (0 < p) := Lib.hid (by omega)
  rcases hcase with ⟨hq, e1, e2⟩ | ⟨hq, e1⟩ | h0
  rotate_left 2
  · omega
  all_goals
    go_wp2_with fail
    clear hq e1 hand dA dB hW0 hu ht
    try clear e2
    go_loopw [52] (fun i wr => ∃ j : Nat, j ≤ m ∧ i = .int .i64 j ∧ Hid (Ca wr B R p (putL k (T.take j)) 0) ∧ Below w.heap.size w wr) (fun i _ => m - (RowKit.intOf i).toNat)
    case atStart => exact ⟨0, by omega, rfl, Lib.hid (by rw [H0.out]; exact HF.out), HB.out⟩
    case round =>
      clear HF HB
      obtain ⟨j, hj, rfl, hf, hb⟩ := hrel
      by_cases hlt : j < m
      · have d1 : decide ((j : Int) < m) = true := by simp; omega
        have q0 : (0 : Int) ≤ j := by omega
        have q1 : (j : Int) < m := by omega
        have hjT : j < T.length := by rw [HTl.out]; exact hlt
        obtain ⟨g, o, rfl, hg, hcell⟩ := (HA.out.below hb) (by omega)
        have a0 := hcell j hjT
        have HPj := Lib.hid (HPi.out j hjT)
        have HB := Lib.hid hb
        clear hcell hb
        generalize T[j] = x at *
        go_wp2_with fail
        refine (HP.out _ x _ hf.out).mono ?_
        rintro e w3 ⟨rfl, hf3, hg3⟩
        rw [← HPj.out] at hf3
        have HF3 := Lib.hid hf3
        have HB3 := Lib.hid (grown_from HB.out hg3 HR.out.2)
        clear hf3 hg3 a0
        go_wp2_with fail
        go_roundw
        case rel => exact ⟨j + 1, by omega, by go_num, HF3, HB3.out⟩
        case measure => simp [RowKit.intOf]; omega
      · have d1 : decide ((j : Int) < m) = false := by simp; omega
        have hT : Hid (T.take j = T) := Lib.hid (List.take_of_length_le (by rw [HTl.out]; omega))
        have HF := Lib.hid (show Ca wr B R p (putL k T) 0 by rw [← hT.out]; rw [hT.out]; exact hT.out ▸ hf.out)
        have HB := Lib.hid hb
        clear hf hb HP HPi hT H0
        go_wp2_with fail
        go_loopw [10, 63] (fun c i wr => ∃ (j z : Nat) (Z : List Nat) (h : Nat), j ≤ m ∧ i = .int .i64 j ∧ c = .int .i64 z ∧ Hid (z = Z.length) ∧ z ≤ j ∧ h ≤ j ∧ Hid (Cn k T j Z) ∧ Hid (Ca wr B R p (putL k T) h) ∧ Below w.heap.size w wr) (fun _ i _ => m - (RowKit.intOf i).toNat)
        case atStart => exact ⟨0, 0, [], 0, by omega, rfl, rfl, Lib.hid rfl, by omega, by omega, Lib.hid (Cn.start k T), HF, HB.out⟩
        case round =>
          clear HF HB
          obtain ⟨j, z, Z, h, hj, rfl, rfl, hz, hzj, hhj, hcn, hf, hb⟩ := hrel
          by_cases hlt : j < m
          · have d1 : decide ((j : Int) < m) = true := by simp; omega
            have q0 : (0 : Int) ≤ j := by omega
            have q1 : (j : Int) < m := by omega
            have q2 : (j : Int) ≤ ca := by omega
            have hjT : j < T.length := by rw [HTl.out]; exact hlt
            obtain ⟨g, o, rfl, hg, hcell⟩ := (HA.out.below hb) (by omega)
            have a0 := hcell j hjT
            have HC := Lib.hid hcell
            have HB := Lib.hid hb
            clear hcell hb
            obtain ⟨x, hx⟩ : ∃ x, T[j] = x := ⟨_, rfl⟩
            rw [hx] at a0
            have HX := Lib.hid hx
            clear hx
            go_wp2_with fail
            go_loop [13, 72] (fun b s => ∃ q : Nat, q ≤ j ∧ s = .int .i64 q ∧ b = .bool (decide (x ∈ T.take q))) (fun _ s => j - (RowKit.intOf s).toNat)
            case atStart => exact ⟨0, by omega, rfl, by simp⟩
            case round =>
              obtain ⟨q, hq, rfl, rfl⟩ := hrel
              by_cases hltq : q < j
              · have d2 : decide ((q : Int) < j) = true := by simp; omega
                have r0 : (0 : Int) ≤ q := by omega
                have r1 : (q : Int) < j := by omega
                have hqT : q < T.length := by omega
                have a1 := HC.out q hqT
                have HS : Hid (decide (x ∈ T.take (q + 1)) = (decide (x ∈ T.take q) || decide (T[q] = x))) := Lib.hid (by
                  rw [Bool.eq_iff_iff]
                  simp only [Bool.or_eq_true, decide_eq_true_eq]
                  rw [mem_take_succ hqT]
                  exact or_congr Iff.rfl ⟨fun h => h.symm, fun h => h.symm⟩)
                generalize decide (x ∈ T.take q) = b2 at *
                generalize T[q] = y at *
                cases b2
                all_goals
                  go_wp2_with fail
                  go_round
                  case rel => exact ⟨q + 1, by omega, by go_num, by rw [HS.out]; first | rfl | simp | (congr 1; simp; rfl)⟩
                  case measure => simp [RowKit.intOf]; omega
              · have d2 : decide ((q : Int) < j) = false := by simp; omega
                have hqj : q = j := by omega
                have HG := Lib.hid (HGt.out _ x h _ (by omega) hf.out)
                have HIx : Hid (∀ (w : World) (e : Ending) (w' : World), GetPost B R k (putL k T) h (qk x) w e w' → (hit k T x ∧ e = .returned (.tuple #[.int .i64 (putL k T (ix k (qk x))).ans, .bool true]) ∧ Ca w' B R (2 ^ k) (putL k T) (h + 1) ∧ w.grownBy w' (some B)) ∨ (¬ hit k T x ∧ e = .returned (.tuple #[.int .i64 0, .bool false]) ∧ Below w.heap.size w w')) := Lib.hid (fun w e w' hp => by
                  unfold GetPost at hp
                  by_cases hc : (putL k T (ix k (qk x))).kept = true ∧ (putL k T (ix k (qk x))).q = qk x
                  · rw [if_pos hc] at hp
                    exact Or.inl ⟨hc, hp⟩
                  · rw [if_neg hc] at hp
                    exact Or.inr ⟨hc, hp⟩)
                rw [HPp.out] at HIx
                have HB' := HB
                subst hqj
                generalize hb2 : decide (x ∈ T.take q) = b2
                have HB2 := Lib.hid hb2
                clear hb2 a0
                go_wp2_with fail
                refine HG.out.mono ?_
                intro e w4 hpost
                have hqT : q < T.length := by rw [HTl.out]; exact hlt
                rcases HIx.out _ _ _ hpost with ⟨hh, rfl, hf4, hg4⟩ | ⟨hh, rfl, hb4⟩
                · have HF4 := Lib.hid hf4
                  have HB4 := Lib.hid (grown_from HB.out hg4 HR.out.1)
                  have HCn : Hid ((b2 = true → Cn k T (q + 1) Z) ∧ (b2 = false → Cn k T (q + 1) (ix k (qk x) :: Z))) := Lib.hid ⟨fun e => hcn.out.skip hqT (Or.inl (by rw [HX.out]; exact of_decide_eq_true (HB2.out.trans e))), fun e => by
                    have := hcn.out.put HK.out hqT (by rw [HX.out]; exact of_decide_eq_false (HB2.out.trans e)) (by rw [HX.out]; exact hh)
                    rw [HX.out] at this
                    exact this⟩
                  clear hpost hf4 hg4 hh HIx HG HB2
                  generalize (putL k T (ix k (qk x))).ans = v4 at *
                  cases b2
                  · have hc2 := Lib.hid (HCn.out.2 rfl)
                    go_wp2_with fail
                    go_roundw
                    case rel => exact ⟨q + 1, z + 1, _, h + 1, by omega, by go_num, by go_num, Lib.hid (by rw [hz.out, List.length_cons]), by omega, by omega, hc2, HF4, HB4.out⟩
                    case measure => simp [RowKit.intOf]; omega
                  · have hc2 := Lib.hid (HCn.out.1 rfl)
                    go_wp2_with fail
                    go_roundw
                    case rel => exact ⟨q + 1, z, _, h + 1, by omega, by go_num, rfl, hz, by omega, by omega, hc2, HF4, HB4.out⟩
                    case measure => simp [RowKit.intOf]; omega
                · have HF4 := Lib.hid (hf.out.below hb4)
                  have HB4 := Lib.hid (HB.out.trans (hb4.mono HB.out.size))
                  have hc2 := Lib.hid (hcn.out.skip hqT (Or.inr (by rw [HX.out]; exact hh)))
                  clear hpost hb4 hh HIx HG HB2
                  go_wp2_with fail
                  go_roundw
                  case rel => exact ⟨q + 1, z, _, h, by omega, by go_num, rfl, hz, by omega, by omega, hc2, HF4, HB4.out⟩
                  case measure => simp [RowKit.intOf]; omega
          · have d1 : decide ((j : Int) < m) = false := by simp; omega
            have hjm : j = T.length := by rw [HTl.out]; omega
            have hzp : z ≤ p := by rw [hz.out]; exact HPf.out Z hcn.out.le
            have hpos : m ≠ 0 → 0 < z := fun h0 => by
              rw [hz.out]
              have hc := hcn.out
              rw [hjm] at hc
              exact hc.pos (fun e => h0 (by rw [← HTl.out, e]; rfl))
            have d3 : decide ((z : Int) ≤ p) = true := by simp; omega
            have HB := Lib.hid hb
            clear hb hf hcn hz hjm
            by_cases hm0 : m = 0
            · have d4 : ((m : Int) == 0) = true := by simp; omega
              clear hpos hm0
              go_wp2_with fail
              refine (HLV.out _).mono ?_
              rintro e w5 ⟨rfl, hb5⟩
              have HB5 := Lib.hid (HB.out.trans (hb5.mono HB.out.size))
              clear hb5
              go_wp2_with fail
              go_ret
              exact ⟨rfl, HB5.out⟩
            · have d4 : ((m : Int) == 0) = false := by simp; omega
              have hz0 := hpos hm0
              have d5 : decide (0 < z) = true := by simp; omega
              have d6 : decide ((0 : Int) < z) = true := by simp; omega
              clear hpos hm0
              go_wp2_with fail
              refine (HLV.out _).mono ?_
              rintro e w5 ⟨rfl, hb5⟩
              have HB5 := Lib.hid (HB.out.trans (hb5.mono HB.out.size))
              clear hb5
              go_wp2_with fail
              go_ret
              exact ⟨rfl, HB5.out⟩
end Go.Proofs.Ytekgegpholcdcaa.CaG
