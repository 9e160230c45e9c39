/- The tokens of a line, in the document's answers. -/
import Derived.Test.YtkmpbkgmdfeicaaGreatM02
namespace Go.Proofs.YtkmpbkgmdfeicaaGreat.Scan4
set_option linter.unusedVariables false
set_option linter.unusedSimpArgs false
open Go.RowKit Go.Proofs.YtkmpbkgmdfeicaaGreat.Plain Go.Proofs.YtkmpbkgmdfeicaaGreat.Leaf Go.Proofs.YtkmpbkgmdfeicaaGreat.Scan1 Go.Proofs.YtkmpbkgmdfeicaaGreat.Scan2 Go.Proofs.YtkmpbkgmdfeicaaGreat.Scan3
section
variable {t : ByteArray} {k : Nat} (h : k < t.size)
theorem pre_iff : Lib.hasPrefix (t.data.toList.drop k) [60, 45] = true ↔ t[k] = 60 ∧ ∃ h2 : k + 1 < t.size, t[k + 1] = 45 := by
  unfold Lib.hasPrefix
  rw [drop_cons h]
  by_cases h2 : k + 1 < t.size
  · rw [drop_cons h2]
    simp [h2]
    constructor <;> (rintro ⟨a, b⟩; exact ⟨a.symm, b.symm⟩)
  · rw [List.drop_of_length_le (by rw [toList_len]; omega)]
    simp [h2]
theorem st_46 (e : t[k] = 46) : tkStep t k h = .tok 3 0 := by
  unfold tkStep
  rw [if_neg (by rw [e]; decide), if_neg (by rw [e]; decide), if_neg (by rw [e]; decide), if_pos e]
theorem st_38 (e : t[k] = 38) : tkStep t k h = .tok 5 0 := by
  unfold tkStep
  rw [if_neg (by rw [e]; decide), if_neg (by rw [e]; decide), if_neg (by rw [e]; decide), if_neg (by rw [e]; decide), if_pos e]
theorem st_60 (e : t[k] = 60) (h2 : k + 1 < t.size) (e2 : t[k + 1] = 45) : tkStep t k h = .tok 4 1 := by
  unfold tkStep
  rw [if_neg (by rw [e]; decide), if_neg (by rw [e]; decide), if_neg (by rw [e]; decide), if_neg (by rw [e]; decide), if_neg (by rw [e]; decide), if_pos ((pre_iff h).2 ⟨e, h2, e2⟩)]
theorem st_no (h32 : t[k] ≠ 32) (h46 : t[k] ≠ 46) (h38 : t[k] ≠ 38) (h1 : capB t[k].toNat = false) (h2 : smallB t[k].toNat = false) (hn : ¬ (t[k] = 60 ∧ ∃ h2 : k + 1 < t.size, t[k + 1] = 45)) : tkStep t k h = .bad 1 := by
  unfold tkStep
  rw [if_neg h32, if_neg (by rw [h1]; decide), if_neg (by rw [h2]; decide), if_neg h46, if_neg h38, if_neg (fun e => hn ((pre_iff h).1 e))]
theorem st_cap (h32 : t[k] ≠ 32) (h1 : capB t[k].toNat = true) : tkStep t k h = if wlen t k > 8 then .bad 4 else .tok 1 (wlen t k - 1) := by
  unfold tkStep
  rw [if_neg h32, if_pos h1, wlen_succ h (word_of_cap h1)]; rfl
theorem st_small (h32 : t[k] ≠ 32) (h1 : capB t[k].toNat = false) (h2 : smallB t[k].toNat = true) : tkStep t k h = if wlen t k > 8 then .bad 4 else .tok 2 (wlen t k - 1) := by
  unfold tkStep
  rw [if_neg h32, if_neg (by rw [h1]; decide), if_pos h2, wlen_succ h (word_of_small h2)]; rfl
theorem text1 {n : UInt8} (e : t[k] = n) : t.extract k (k + (0 + 1)) = ⟨#[n]⟩ := by
  apply ByteArray.ext
  apply Array.ext'
  rw [show k + (0 + 1) = k + 1 from rfl, one_byte t k h, e]
theorem text2 (e : t[k] = 60) (h2 : k + 1 < t.size) (e2 : t[k + 1] = 45) : t.extract k (k + (1 + 1)) = ⟨#[60, 45]⟩ := by
  apply ByteArray.ext
  apply Array.ext'
  rw [ByteArray.data_extract, Array.toList_extract, List.extract_eq_take_drop, show k + (1 + 1) - k = 2 from by omega, drop_cons h, drop_cons h2, e, e2]
  rfl
end
set_option maxHeartbeats 2000000 in
set_option maxRecDepth 100000 in
theorem tokensRef (s : ByteArray) (w : World) (hs : s.size ≤ 1000000) : Calls Tryz.prog 117 #[.string s] w (TokPost (ansOf s) w) := by
  obtain ⟨i0, hi, hz0, hz1, hz2⟩ := info_parts infoTok
  have hsm : s.size ≤ maxLen := by unfold maxLen; omega
  by_cases h2 : 200 < s.size
  · have ha : Hid (ansOf s = .bad 201 4) := Lib.hid (by unfold ansOf; rw [if_pos h2])
    go_enter Tryz.func117, Tryz.ntmps117
    go_wp2
    go_ret3
    exact ⟨_, by rw [ha.out]; rfl, by rw [ha.out]; exact World.ownsRow_nil _ _ _ _, Below.refl _ _⟩
  · have ha : Hid (ansOf s = tkRun (bare s) 0 []) := Lib.hid (by unfold ansOf; rw [if_neg h2])
    have hle := bare_le s
    go_enter Tryz.func117, Tryz.ntmps117
    go_wp2_with (go_at_call 158; refine (bareRef _ _ hsm).mono ?_; rintro e w' ⟨rfl, rfl⟩)
    generalize bare s = t at *
    go_loopw [6, 7] (fun v i wr => ∃ (k : Nat) (L : List Tk), k ≤ t.size ∧ i = .int .i64 k ∧ L.length ≤ k ∧ Hid (tkRun t 0 [] = tkRun t k L) ∧ wr.ownsRow w.heap.size 127 3 v L.length (tkCells L) ∧ Below w.heap.size w wr) (fun _ i _ => t.size - (intOf i).toNat)
    case atStart => exact ⟨0, [], by omega, rfl, by simp, Lib.hid rfl, World.ownsRow_nil _ _ _ _, Below.refl _ _⟩
    case round =>
      obtain ⟨k, L, hk, rfl, hL, hrun, hown, hbel⟩ := hrel
      by_cases hlt : k < t.size
      · by_cases h32 : t[k] = 32
        · have hnext : Hid (tkRun t 0 [] = tkRun t (k + 1) L) := Lib.hid (by rw [hrun.out, tkRun_skip hlt (by unfold tkStep; rw [if_pos h32])])
          have e32 : ((t[k].toNat : Int) == 32) = true := i8_eq (n := 32) rfl h32
          clear hrun h32
          go_wp2_with fail
          go_roundw
          case rel => exact ⟨k + 1, L, by omega, by go_num, by omega, hnext, hown, hbel⟩
          case measure => simp [intOf]; omega
        have e32 : ((t[k].toNat : Int) == 32) = false := i8_ne (n := 32) rfl h32
        by_cases h46 : t[k] = 46
        · have hnext : Hid (tkRun t 0 [] = tkRun t (k + 0 + 1) (L ++ [⟨3, ⟨#[46]⟩, k + 1⟩])) := Lib.hid (by rw [hrun.out, tkRun_tok hlt (st_46 hlt h46), text1 hlt h46])
          have e46 : ((t[k].toNat : Int) == 46) = true := i8_eq (n := 46) rfl h46
          clear hrun h32 h46
          go_wp2_with (at_builtin; refine wpList_append_own _ rfl _ _ 120 rfl w.heap.size 127 i0 (.agg #[.int .i64 0, .string ⟨#[]⟩, .int .i64 0]) 3 32 Tryz.underlying120 hi hz0 hz1 hz2 rfl (by decide) _ _ _ rfl (hown.alloc _) ⟨wr.heap.size, 0, none⟩ 1 1 [.int .i64 3, .string ⟨#[46]⟩, .int .i64 (k + 1)] rfl rfl ?c1 ?c2 ?c3 ?c4 ?c5 ?_)
          case c1 => exact new_cells3 _ _ _ _ _
          case c2 => intro u hu; simp at hu; rcases hu with rfl | rfl | rfl <;> rfl
          case c3 => unfold maxLen; omega
          case c4 => omega
          case c5 => have := hbel.size; simp; omega
          intro v' w1 hown' hgrow _
          have hown2 := own_snoc (t := ⟨3, ⟨#[46]⟩, k + 1⟩) (by simpa using hown')
          have hbel2 := below_own hbel hown hgrow
          clear hown' hown hbel hgrow
          go_wp2_with fail
          go_roundw
          case rel => exact ⟨k + 0 + 1, L ++ [⟨3, ⟨#[46]⟩, k + 1⟩], by omega, by go_num, by simp; omega, hnext, hown2, hbel2⟩
          case measure => simp [intOf]; omega
        have e46 : ((t[k].toNat : Int) == 46) = false := i8_ne (n := 46) rfl h46
        by_cases h38 : t[k] = 38
        · have hnext : Hid (tkRun t 0 [] = tkRun t (k + 0 + 1) (L ++ [⟨5, ⟨#[38]⟩, k + 1⟩])) := Lib.hid (by rw [hrun.out, tkRun_tok hlt (st_38 hlt h38), text1 hlt h38])
          have e38 : ((t[k].toNat : Int) == 38) = true := i8_eq (n := 38) rfl h38
          clear hrun h32 h38 h46
          go_wp2_with (at_builtin; refine wpList_append_own _ rfl _ _ 120 rfl w.heap.size 127 i0 (.agg #[.int .i64 0, .string ⟨#[]⟩, .int .i64 0]) 3 32 Tryz.underlying120 hi hz0 hz1 hz2 rfl (by decide) _ _ _ rfl (hown.alloc _) ⟨wr.heap.size, 0, none⟩ 1 1 [.int .i64 5, .string ⟨#[38]⟩, .int .i64 (k + 1)] rfl rfl ?c1 ?c2 ?c3 ?c4 ?c5 ?_)
          case c1 => exact new_cells3 _ _ _ _ _
          case c2 => intro u hu; simp at hu; rcases hu with rfl | rfl | rfl <;> rfl
          case c3 => unfold maxLen; omega
          case c4 => omega
          case c5 => have := hbel.size; simp; omega
          intro v' w1 hown' hgrow _
          have hown2 := own_snoc (t := ⟨5, ⟨#[38]⟩, k + 1⟩) (by simpa using hown')
          have hbel2 := below_own hbel hown hgrow
          clear hown' hown hbel hgrow
          go_wp2_with fail
          go_roundw
          case rel => exact ⟨k + 0 + 1, L ++ [⟨5, ⟨#[38]⟩, k + 1⟩], by omega, by go_num, by simp; omega, hnext, hown2, hbel2⟩
          case measure => simp [intOf]; omega
        have e38 : ((t[k].toNat : Int) == 38) = false := i8_ne (n := 38) rfl h38
        cases h1 : capB t[k].toNat
        · cases h2 : smallB t[k].toNat
          · by_cases h60 : t[k] = 60 ∧ ∃ h2 : k + 1 < t.size, t[k + 1] = 45
            · obtain ⟨e6, hk1, e4⟩ := h60
              have hnext : Hid (tkRun t 0 [] = tkRun t (k + 1 + 1) (L ++ [⟨4, ⟨#[60, 45]⟩, k + 1⟩])) := Lib.hid (by rw [hrun.out, tkRun_tok hlt (st_60 hlt e6 hk1 e4), text2 hlt e6 hk1 e4])
              have e60 : ((t[k].toNat : Int) == 60) = true := i8_eq (n := 60) rfl e6
              have e45 : ((t[k + 1].toNat : Int) == 45) = true := i8_eq (n := 45) rfl e4
              clear hrun h32 h46 h38 e6 e4
              go_wp2_with (first | (at_builtin; refine wpList_append_own _ rfl _ _ 120 rfl w.heap.size 127 i0 (.agg #[.int .i64 0, .string ⟨#[]⟩, .int .i64 0]) 3 32 Tryz.underlying120 hi hz0 hz1 hz2 rfl (by decide) _ _ _ rfl (hown.alloc _) ⟨wr.heap.size, 0, none⟩ 1 1 [.int .i64 4, .string ⟨#[60, 45]⟩, .int .i64 (k + 1)] rfl rfl ?c1 ?c2 ?c3 ?c4 ?c5 ?_) | (go_at_call 159; refine (big _ _).mono ?_; rintro e w' ⟨rfl, rfl⟩) | (go_at_call 160; refine (small _ _).mono ?_; rintro e w' ⟨rfl, rfl⟩) | (go_at_call 161; refine (figure _ _).mono ?_; rintro e w' ⟨rfl, rfl⟩))
              case c1 => exact new_cells3 _ _ _ _ _
              case c2 => intro u hu; simp at hu; rcases hu with rfl | rfl | rfl <;> rfl
              case c3 => unfold maxLen; omega
              case c4 => omega
              case c5 => have := hbel.size; simp; omega
              intro v' w1 hown' hgrow _
              have hown2 := own_snoc (t := ⟨4, ⟨#[60, 45]⟩, k + 1⟩) (by simpa using hown')
              have hbel2 := below_own hbel hown hgrow
              clear hown' hown hbel hgrow
              go_wp2_with fail
              go_roundw
              case rel => exact ⟨k + 1 + 1, L ++ [⟨4, ⟨#[60, 45]⟩, k + 1⟩], by omega, by go_num, by simp; omega, hnext, hown2, hbel2⟩
              case measure => simp [intOf]; omega
            · have hfin : Hid (tkRun t 0 [] = .bad (k + 1) 1) := Lib.hid (by rw [hrun.out, tkRun_bad hlt (st_no hlt h32 h46 h38 h1 h2 h60)])
              clear hrun h32 h46 h38 hown
              by_cases e6 : t[k] = 60
              · have e60 : ((t[k].toNat : Int) == 60) = true := i8_eq (n := 60) rfl e6
                by_cases hk1 : k + 1 < t.size
                · have e45 : ((t[k + 1].toNat : Int) == 45) = false := i8_ne (n := 45) rfl (fun e => h60 ⟨e6, hk1, e⟩)
                  clear h60 e6
                  go_wp2_with (first | (go_at_call 159; refine (big _ _).mono ?_; rintro e w' ⟨rfl, rfl⟩) | (go_at_call 160; refine (small _ _).mono ?_; rintro e w' ⟨rfl, rfl⟩) | (go_at_call 161; refine (figure _ _).mono ?_; rintro e w' ⟨rfl, rfl⟩))
                  go_ret3
                  exact ⟨_, by rw [ha.out, hfin.out]; rfl, by rw [ha.out, hfin.out]; exact World.ownsRow_nil _ _ _ _, hbel⟩
                · clear h60 e6
                  go_wp2_with (first | (go_at_call 159; refine (big _ _).mono ?_; rintro e w' ⟨rfl, rfl⟩) | (go_at_call 160; refine (small _ _).mono ?_; rintro e w' ⟨rfl, rfl⟩) | (go_at_call 161; refine (figure _ _).mono ?_; rintro e w' ⟨rfl, rfl⟩))
                  go_ret3
                  exact ⟨_, by rw [ha.out, hfin.out]; rfl, by rw [ha.out, hfin.out]; exact World.ownsRow_nil _ _ _ _, hbel⟩
              · have e60 : ((t[k].toNat : Int) == 60) = false := i8_ne (n := 60) rfl e6
                clear h60 e6
                go_wp2_with (first | (go_at_call 159; refine (big _ _).mono ?_; rintro e w' ⟨rfl, rfl⟩) | (go_at_call 160; refine (small _ _).mono ?_; rintro e w' ⟨rfl, rfl⟩) | (go_at_call 161; refine (figure _ _).mono ?_; rintro e w' ⟨rfl, rfl⟩))
                go_ret3
                exact ⟨_, by rw [ha.out, hfin.out]; rfl, by rw [ha.out, hfin.out]; exact World.ownsRow_nil _ _ _ _, hbel⟩
          ·
            have hst : Hid (tkStep t k hlt = if wlen t k > 8 then .bad 4 else .tok 2 (wlen t k - 1)) := Lib.hid (st_small hlt h32 h1 h2)
            have e60 : ((t[k].toNat : Int) == 60) = false := i8_ne (n := 60) (b := 60) rfl (fun e => by rw [e] at h2; revert h2; decide)
            have hwk := Lib.hid (show wordB t[k].toNat = true from word_of_small h2)
            clear h32 h46 h38
            go_wp2_with (first | (go_at_call 159; refine (big _ _).mono ?_; rintro e w' ⟨rfl, rfl⟩) | (go_at_call 160; refine (small _ _).mono ?_; rintro e w' ⟨rfl, rfl⟩) | (go_at_call 161; refine (figure _ _).mono ?_; rintro e w' ⟨rfl, rfl⟩))
            have Hrun := hrun
            go_loop [9] (fun j => ∃ m : Nat, k + m ≤ t.size ∧ j = .int .i64 ((k + m : Nat) : Int) ∧ Hid (wlen t k = m + wlen t (k + m))) (fun j => t.size - (intOf j).toNat)
            case atStart => exact ⟨0, by omega, by simp, Lib.hid (by simp)⟩
            case round =>
              obtain ⟨m, hm, rfl, hw⟩ := hrel
              by_cases hmt : k + m < t.size
              · cases hwm : wordB t[k + m].toNat
                · have hlen : Hid (wlen t k = m) := Lib.hid (by rw [hw.out, wlen_stop hmt hwm]; rfl)
                  have h3 := hwm
                  simp only [wordB, Bool.or_eq_false_iff] at h3
                  obtain ⟨⟨g1, g2⟩, g3⟩ := h3
                  clear hw hwm
                  have hm1 : 1 ≤ m := by
                    rcases Nat.eq_zero_or_pos m with e | e
                    · have := wlen_succ hlt hwk.out; rw [hlen.out] at this; omega
                    · exact e
                  by_cases h8 : m ≤ 8
                  · have hd : decide ((8 : Int) < (k : Int) + (m : Int) - (k : Int)) = false := by rw [decide_eq_false_iff_not]; omega
                    have hnext : Hid (tkRun t 0 [] = tkRun t (k + m) (L ++ [⟨2, t.extract k (k + m), k + 1⟩])) := Lib.hid (by
                      have e1 := hst.out
                      rw [hlen.out, if_neg (by omega)] at e1
                      rw [hrun.out, tkRun_tok hlt e1, show k + (m - 1) + 1 = k + m from by omega, show m - 1 + 1 = m from by omega])
                    clear hrun Hrun hst hlen hwk
                    go_wp2_with (first | (at_builtin; refine wpList_append_own _ rfl _ _ 120 rfl w.heap.size 127 i0 (.agg #[.int .i64 0, .string ⟨#[]⟩, .int .i64 0]) 3 32 Tryz.underlying120 hi hz0 hz1 hz2 rfl (by decide) _ _ _ rfl (hown.alloc _) ⟨wr.heap.size, 0, none⟩ 1 1 [.int .i64 2, .string (t.extract k (k + m)), .int .i64 (k + 1)] rfl rfl ?c1 ?c2 ?c3 ?c4 ?c5 ?_) | (go_at_call 159; refine (big _ _).mono ?_; rintro e w' ⟨rfl, rfl⟩) | (go_at_call 160; refine (small _ _).mono ?_; rintro e w' ⟨rfl, rfl⟩) | (go_at_call 161; refine (figure _ _).mono ?_; rintro e w' ⟨rfl, rfl⟩))
                    case c1 => exact new_cells3 _ _ _ _ _
                    case c2 => intro u hu; simp at hu; rcases hu with rfl | rfl | rfl <;> rfl
                    case c3 => unfold maxLen; omega
                    case c4 => omega
                    case c5 => have := hbel.size; simp; omega
                    intro v' w1 hown' hgrow _
                    have hown2 := own_snoc (t := ⟨2, t.extract k (k + m), k + 1⟩) (by simpa using hown')
                    have hbel2 := below_own hbel hown hgrow
                    clear hown' hown hbel hgrow
                    go_wp2_with fail
                    go_roundw
                    case rel => exact ⟨k + m, L ++ [⟨2, t.extract k (k + m), k + 1⟩], by omega, by go_num, by simp; omega, hnext, hown2, hbel2⟩
                    case measure => simp [intOf]; omega
                  · have hd : decide ((8 : Int) < (k : Int) + (m : Int) - (k : Int)) = true := by rw [decide_eq_true_iff]; omega
                    have hfin : Hid (tkRun t 0 [] = .bad (k + 1) 4) := Lib.hid (by
                      have e1 := hst.out
                      rw [hlen.out, if_pos (by omega)] at e1
                      rw [hrun.out, tkRun_bad hlt e1])
                    clear hrun Hrun hst hlen hwk hown
                    go_wp2_with (first | (go_at_call 159; refine (big _ _).mono ?_; rintro e w' ⟨rfl, rfl⟩) | (go_at_call 160; refine (small _ _).mono ?_; rintro e w' ⟨rfl, rfl⟩) | (go_at_call 161; refine (figure _ _).mono ?_; rintro e w' ⟨rfl, rfl⟩))
                    go_ret3
                    exact ⟨_, by rw [ha.out, hfin.out]; rfl, by rw [ha.out, hfin.out]; exact World.ownsRow_nil _ _ _ _, hbel⟩
                · have hnw : Hid (wlen t k = (m + 1) + wlen t (k + (m + 1))) := Lib.hid (by rw [hw.out, wlen_succ hmt hwm]; rw [show k + (m + 1) = k + m + 1 from rfl]; omega)
                  clear hw hst hwk
                  cases g1 : capB t[k + m].toNat <;> cases g2 : smallB t[k + m].toNat <;> cases g3 : digB t[k + m].toNat <;> first | (simp [wordB, g1, g2, g3] at hwm; done) | skip
                  all_goals
                    clear hwm
                    go_wp2_with (first | (go_at_call 159; refine (big _ _).mono ?_; rintro e w' ⟨rfl, rfl⟩) | (go_at_call 160; refine (small _ _).mono ?_; rintro e w' ⟨rfl, rfl⟩) | (go_at_call 161; refine (figure _ _).mono ?_; rintro e w' ⟨rfl, rfl⟩))
                    go_round
                    case rel => exact ⟨m + 1, by omega, by go_num, hnw⟩
                    case measure => simp [intOf]; omega
              · have hlen : Hid (wlen t k = m) := Lib.hid (by rw [hw.out, wlen_end hmt]; rfl)
                clear hw
                have hm1 : 1 ≤ m := by
                  rcases Nat.eq_zero_or_pos m with e | e
                  · have := wlen_succ hlt hwk.out; rw [hlen.out] at this; omega
                  · exact e
                by_cases h8 : m ≤ 8
                · have hd : decide ((8 : Int) < (k : Int) + (m : Int) - (k : Int)) = false := by rw [decide_eq_false_iff_not]; omega
                  have hnext : Hid (tkRun t 0 [] = tkRun t (k + m) (L ++ [⟨2, t.extract k (k + m), k + 1⟩])) := Lib.hid (by
                    have e1 := hst.out
                    rw [hlen.out, if_neg (by omega)] at e1
                    rw [hrun.out, tkRun_tok hlt e1, show k + (m - 1) + 1 = k + m from by omega, show m - 1 + 1 = m from by omega])
                  clear hrun Hrun hst hlen hwk
                  go_wp2_with (first | (at_builtin; refine wpList_append_own _ rfl _ _ 120 rfl w.heap.size 127 i0 (.agg #[.int .i64 0, .string ⟨#[]⟩, .int .i64 0]) 3 32 Tryz.underlying120 hi hz0 hz1 hz2 rfl (by decide) _ _ _ rfl (hown.alloc _) ⟨wr.heap.size, 0, none⟩ 1 1 [.int .i64 2, .string (t.extract k (k + m)), .int .i64 (k + 1)] rfl rfl ?c1 ?c2 ?c3 ?c4 ?c5 ?_) | (go_at_call 159; refine (big _ _).mono ?_; rintro e w' ⟨rfl, rfl⟩) | (go_at_call 160; refine (small _ _).mono ?_; rintro e w' ⟨rfl, rfl⟩) | (go_at_call 161; refine (figure _ _).mono ?_; rintro e w' ⟨rfl, rfl⟩))
                  case c1 => exact new_cells3 _ _ _ _ _
                  case c2 => intro u hu; simp at hu; rcases hu with rfl | rfl | rfl <;> rfl
                  case c3 => unfold maxLen; omega
                  case c4 => omega
                  case c5 => have := hbel.size; simp; omega
                  intro v' w1 hown' hgrow _
                  have hown2 := own_snoc (t := ⟨2, t.extract k (k + m), k + 1⟩) (by simpa using hown')
                  have hbel2 := below_own hbel hown hgrow
                  clear hown' hown hbel hgrow
                  go_wp2_with fail
                  go_roundw
                  case rel => exact ⟨k + m, L ++ [⟨2, t.extract k (k + m), k + 1⟩], by omega, by go_num, by simp; omega, hnext, hown2, hbel2⟩
                  case measure => simp [intOf]; omega
                · have hd : decide ((8 : Int) < (k : Int) + (m : Int) - (k : Int)) = true := by rw [decide_eq_true_iff]; omega
                  have hfin : Hid (tkRun t 0 [] = .bad (k + 1) 4) := Lib.hid (by
                    have e1 := hst.out
                    rw [hlen.out, if_pos (by omega)] at e1
                    rw [hrun.out, tkRun_bad hlt e1])
                  clear hrun Hrun hst hlen hwk hown
                  go_wp2_with (first | (go_at_call 159; refine (big _ _).mono ?_; rintro e w' ⟨rfl, rfl⟩) | (go_at_call 160; refine (small _ _).mono ?_; rintro e w' ⟨rfl, rfl⟩) | (go_at_call 161; refine (figure _ _).mono ?_; rintro e w' ⟨rfl, rfl⟩))
                  go_ret3
                  exact ⟨_, by rw [ha.out, hfin.out]; rfl, by rw [ha.out, hfin.out]; exact World.ownsRow_nil _ _ _ _, hbel⟩
        ·
          have hst : Hid (tkStep t k hlt = if wlen t k > 8 then .bad 4 else .tok 1 (wlen t k - 1)) := Lib.hid (st_cap hlt h32 h1)
          have e60 : ((t[k].toNat : Int) == 60) = false := i8_ne (n := 60) (b := 60) rfl (fun e => by rw [e] at h1; revert h1; decide)
          have hwk := Lib.hid (show wordB t[k].toNat = true from word_of_cap h1)
          clear h32 h46 h38
          go_wp2_with (first | (go_at_call 159; refine (big _ _).mono ?_; rintro e w' ⟨rfl, rfl⟩) | (go_at_call 160; refine (small _ _).mono ?_; rintro e w' ⟨rfl, rfl⟩) | (go_at_call 161; refine (figure _ _).mono ?_; rintro e w' ⟨rfl, rfl⟩))
          have Hrun := hrun
          go_loop [9] (fun j => ∃ m : Nat, k + m ≤ t.size ∧ j = .int .i64 ((k + m : Nat) : Int) ∧ Hid (wlen t k = m + wlen t (k + m))) (fun j => t.size - (intOf j).toNat)
          case atStart => exact ⟨0, by omega, by simp, Lib.hid (by simp)⟩
          case round =>
            obtain ⟨m, hm, rfl, hw⟩ := hrel
            by_cases hmt : k + m < t.size
            · cases hwm : wordB t[k + m].toNat
              · have hlen : Hid (wlen t k = m) := Lib.hid (by rw [hw.out, wlen_stop hmt hwm]; rfl)
                have h3 := hwm
                simp only [wordB, Bool.or_eq_false_iff] at h3
                obtain ⟨⟨g1, g2⟩, g3⟩ := h3
                clear hw hwm
                have hm1 : 1 ≤ m := by
                  rcases Nat.eq_zero_or_pos m with e | e
                  · have := wlen_succ hlt hwk.out; rw [hlen.out] at this; omega
                  · exact e
                by_cases h8 : m ≤ 8
                · have hd : decide ((8 : Int) < (k : Int) + (m : Int) - (k : Int)) = false := by rw [decide_eq_false_iff_not]; omega
                  have hnext : Hid (tkRun t 0 [] = tkRun t (k + m) (L ++ [⟨1, t.extract k (k + m), k + 1⟩])) := Lib.hid (by
                    have e1 := hst.out
                    rw [hlen.out, if_neg (by omega)] at e1
                    rw [hrun.out, tkRun_tok hlt e1, show k + (m - 1) + 1 = k + m from by omega, show m - 1 + 1 = m from by omega])
                  clear hrun Hrun hst hlen hwk
                  go_wp2_with (first | (at_builtin; refine wpList_append_own _ rfl _ _ 120 rfl w.heap.size 127 i0 (.agg #[.int .i64 0, .string ⟨#[]⟩, .int .i64 0]) 3 32 Tryz.underlying120 hi hz0 hz1 hz2 rfl (by decide) _ _ _ rfl (hown.alloc _) ⟨wr.heap.size, 0, none⟩ 1 1 [.int .i64 1, .string (t.extract k (k + m)), .int .i64 (k + 1)] rfl rfl ?c1 ?c2 ?c3 ?c4 ?c5 ?_) | (go_at_call 159; refine (big _ _).mono ?_; rintro e w' ⟨rfl, rfl⟩) | (go_at_call 160; refine (small _ _).mono ?_; rintro e w' ⟨rfl, rfl⟩) | (go_at_call 161; refine (figure _ _).mono ?_; rintro e w' ⟨rfl, rfl⟩))
                  case c1 => exact new_cells3 _ _ _ _ _
                  case c2 => intro u hu; simp at hu; rcases hu with rfl | rfl | rfl <;> rfl
                  case c3 => unfold maxLen; omega
                  case c4 => omega
                  case c5 => have := hbel.size; simp; omega
                  intro v' w1 hown' hgrow _
                  have hown2 := own_snoc (t := ⟨1, t.extract k (k + m), k + 1⟩) (by simpa using hown')
                  have hbel2 := below_own hbel hown hgrow
                  clear hown' hown hbel hgrow
                  go_wp2_with fail
                  go_roundw
                  case rel => exact ⟨k + m, L ++ [⟨1, t.extract k (k + m), k + 1⟩], by omega, by go_num, by simp; omega, hnext, hown2, hbel2⟩
                  case measure => simp [intOf]; omega
                · have hd : decide ((8 : Int) < (k : Int) + (m : Int) - (k : Int)) = true := by rw [decide_eq_true_iff]; omega
                  have hfin : Hid (tkRun t 0 [] = .bad (k + 1) 4) := Lib.hid (by
                    have e1 := hst.out
                    rw [hlen.out, if_pos (by omega)] at e1
                    rw [hrun.out, tkRun_bad hlt e1])
                  clear hrun Hrun hst hlen hwk hown
                  go_wp2_with (first | (go_at_call 159; refine (big _ _).mono ?_; rintro e w' ⟨rfl, rfl⟩) | (go_at_call 160; refine (small _ _).mono ?_; rintro e w' ⟨rfl, rfl⟩) | (go_at_call 161; refine (figure _ _).mono ?_; rintro e w' ⟨rfl, rfl⟩))
                  go_ret3
                  exact ⟨_, by rw [ha.out, hfin.out]; rfl, by rw [ha.out, hfin.out]; exact World.ownsRow_nil _ _ _ _, hbel⟩
              · have hnw : Hid (wlen t k = (m + 1) + wlen t (k + (m + 1))) := Lib.hid (by rw [hw.out, wlen_succ hmt hwm]; rw [show k + (m + 1) = k + m + 1 from rfl]; omega)
                clear hw hst hwk
                cases g1 : capB t[k + m].toNat <;> cases g2 : smallB t[k + m].toNat <;> cases g3 : digB t[k + m].toNat <;> first | (simp [wordB, g1, g2, g3] at hwm; done) | skip
                all_goals
                  clear hwm
                  go_wp2_with (first | (go_at_call 159; refine (big _ _).mono ?_; rintro e w' ⟨rfl, rfl⟩) | (go_at_call 160; refine (small _ _).mono ?_; rintro e w' ⟨rfl, rfl⟩) | (go_at_call 161; refine (figure _ _).mono ?_; rintro e w' ⟨rfl, rfl⟩))
                  go_round
                  case rel => exact ⟨m + 1, by omega, by go_num, hnw⟩
                  case measure => simp [intOf]; omega
            · have hlen : Hid (wlen t k = m) := Lib.hid (by rw [hw.out, wlen_end hmt]; rfl)
              clear hw
              have hm1 : 1 ≤ m := by
                rcases Nat.eq_zero_or_pos m with e | e
                · have := wlen_succ hlt hwk.out; rw [hlen.out] at this; omega
                · exact e
              by_cases h8 : m ≤ 8
              · have hd : decide ((8 : Int) < (k : Int) + (m : Int) - (k : Int)) = false := by rw [decide_eq_false_iff_not]; omega
                have hnext : Hid (tkRun t 0 [] = tkRun t (k + m) (L ++ [⟨1, t.extract k (k + m), k + 1⟩])) := Lib.hid (by
                  have e1 := hst.out
                  rw [hlen.out, if_neg (by omega)] at e1
                  rw [hrun.out, tkRun_tok hlt e1, show k + (m - 1) + 1 = k + m from by omega, show m - 1 + 1 = m from by omega])
                clear hrun Hrun hst hlen hwk
                go_wp2_with (first | (at_builtin; refine wpList_append_own _ rfl _ _ 120 rfl w.heap.size 127 i0 (.agg #[.int .i64 0, .string ⟨#[]⟩, .int .i64 0]) 3 32 Tryz.underlying120 hi hz0 hz1 hz2 rfl (by decide) _ _ _ rfl (hown.alloc _) ⟨wr.heap.size, 0, none⟩ 1 1 [.int .i64 1, .string (t.extract k (k + m)), .int .i64 (k + 1)] rfl rfl ?c1 ?c2 ?c3 ?c4 ?c5 ?_) | (go_at_call 159; refine (big _ _).mono ?_; rintro e w' ⟨rfl, rfl⟩) | (go_at_call 160; refine (small _ _).mono ?_; rintro e w' ⟨rfl, rfl⟩) | (go_at_call 161; refine (figure _ _).mono ?_; rintro e w' ⟨rfl, rfl⟩))
                case c1 => exact new_cells3 _ _ _ _ _
                case c2 => intro u hu; simp at hu; rcases hu with rfl | rfl | rfl <;> rfl
                case c3 => unfold maxLen; omega
                case c4 => omega
                case c5 => have := hbel.size; simp; omega
                intro v' w1 hown' hgrow _
                have hown2 := own_snoc (t := ⟨1, t.extract k (k + m), k + 1⟩) (by simpa using hown')
                have hbel2 := below_own hbel hown hgrow
                clear hown' hown hbel hgrow
                go_wp2_with fail
                go_roundw
                case rel => exact ⟨k + m, L ++ [⟨1, t.extract k (k + m), k + 1⟩], by omega, by go_num, by simp; omega, hnext, hown2, hbel2⟩
                case measure => simp [intOf]; omega
              · have hd : decide ((8 : Int) < (k : Int) + (m : Int) - (k : Int)) = true := by rw [decide_eq_true_iff]; omega
                have hfin : Hid (tkRun t 0 [] = .bad (k + 1) 4) := Lib.hid (by
                  have e1 := hst.out
                  rw [hlen.out, if_pos (by omega)] at e1
                  rw [hrun.out, tkRun_bad hlt e1])
                clear hrun Hrun hst hlen hwk hown
                go_wp2_with (first | (go_at_call 159; refine (big _ _).mono ?_; rintro e w' ⟨rfl, rfl⟩) | (go_at_call 160; refine (small _ _).mono ?_; rintro e w' ⟨rfl, rfl⟩) | (go_at_call 161; refine (figure _ _).mono ?_; rintro e w' ⟨rfl, rfl⟩))
                go_ret3
                exact ⟨_, by rw [ha.out, hfin.out]; rfl, by rw [ha.out, hfin.out]; exact World.ownsRow_nil _ _ _ _, hbel⟩
      · have hfin : Hid (tkRun t 0 [] = .ok L) := Lib.hid (by rw [hrun.out, tkRun_end hlt])
        clear hrun
        go_wp2_with fail
        go_ret3
        exact ⟨_, by rw [ha.out, hfin.out]; rfl, by rw [ha.out, hfin.out]; exact hown, hbel⟩
end Go.Proofs.YtkmpbkgmdfeicaaGreat.Scan4
