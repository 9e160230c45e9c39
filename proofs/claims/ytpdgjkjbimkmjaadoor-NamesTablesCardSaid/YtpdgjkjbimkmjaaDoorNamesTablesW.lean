/- The walk of the law NamesTables. -/
import Derived.Test.YtpdgjkjbimkmjaaDoorTab8
import Derived.Deep.QuietTactic
import Derived.BigQuiet
import Derived.Deep.RegionWith
namespace Go.Proofs.YtpdgjkjbimkmjaaDoor.NamesTablesW
open Go.RowKit Go.Sort Go.Proofs Go.Proofs.YtpdgjkjbimkmjaaDoor.Plain Go.Proofs.YtpdgjkjbimkmjaaDoor.Named Go.Proofs.YtpdgjkjbimkmjaaDoor.Tab1 Go.Proofs.YtpdgjkjbimkmjaaDoor.Tab2 Go.Proofs.YtpdgjkjbimkmjaaDoor.Tab3 Go.Proofs.YtpdgjkjbimkmjaaDoor.Tab4 Go.Proofs.YtpdgjkjbimkmjaaDoor.Tab5 Go.Proofs.YtpdgjkjbimkmjaaDoor.Tab6 Go.Proofs.YtpdgjkjbimkmjaaDoor.Tab7 Go.Proofs.YtpdgjkjbimkmjaaDoor.Tab8 Go.Proofs.YtpdgjkjbimkmjaaDoor.TabP Go.Proofs.YtpdgjkjbimkmjaaDoor.Ref1 Go.Proofs.YtpdgjkjbimkmjaaDoor.Laid
theorem tab_with (T U : List Str) : tab (tab T ++ U) = tab (T ++ U) := eq_of_rising (tab_sorted _) (tab_sorted _) fun x => by
  simp only [mem_tab, List.mem_append]
/-- The last place below k where s stands is a. -/
def Last (T : List Str) (s : Str) (k : Nat) (a : Int) : Prop := (a = -1 ∧ ∀ j, (h : j < T.length) → j < k → T[j] ≠ s) ∨ ∃ j : Nat, ∃ h : j < T.length, a = j ∧ T[j] = s
theorem Last.findI {T : List Str} {s : Str} {a : Int} (h : Last T s T.length a) (hs : T.Pairwise (· < ·)) : findI T s = a := by
  rcases h with ⟨rfl, h⟩ | ⟨j, hj, rfl, e⟩
  · exact findI_miss fun hm => by
      obtain ⟨j, hj, e⟩ := List.getElem_of_mem hm
      exact h j hj hj e
  · exact findI_hit hs hj e
theorem Last.next {T : List Str} {s : Str} {k : Nat} {a : Int} (h : Last T s k a) (hne : ∀ h : k < T.length, T[k] ≠ s) : Last T s (k + 1) a := by
  rcases h with ⟨rfl, h⟩ | h
  · exact .inl ⟨rfl, fun j hj hjk => by
      by_cases e : j = k
      · subst e; exact hne hj
      · exact h j hj (by omega)⟩
  · exact .inr h
set_option maxHeartbeats 1000000 in
set_option maxRecDepth 100000 in
theorem walk (A0 : Option Addr) (c0 : Nat) (T0 : List Str) (A1 : Option Addr) (c1 : Nat) (T1 : List Str) (n : Int) (w : World) (hn0 : -9223372036854775808 ≤ n) (hn1 : n ≤ 9223372036854775807)
    (hL0 : T0.length ≤ maxLen) (hw0 : ∀ s ∈ T0, s.length ≤ maxLen) (hA0 : SRow w A0 T0) (hL1 : T1.length ≤ maxLen) (hw1 : ∀ s ∈ T1, s.length ≤ maxLen) (hA1 : SRow w A1 T1) (hp : Pow w) :
    Calls Tryd.prog 4 #[.slice A0 T0.length c0, .slice A1 T1.length c1, .int .i64 n] w fun e w' => e = .returned (.bool true) ∧ Below w.heap.size w w' := by
  have hg := pow_lt hp
  obtain ⟨i0, hi, hz0, hz1, hz2⟩ := info_parts infoStr
  have HA0 := Lib.hid hA0
  have HW0 := Lib.hid hw0
  have HA1 := Lib.hid hA1
  have HW1 := Lib.hid hw1
  have HP := Lib.hid hp
  have hL0' := hL0
  have hL1' := hL1
  clear hA0 hw0 hA1 hw1 hp
  unfold maxLen at hL0 hL1
  cases hlight0 : lightB T0
  · go_enter Tryd.func4, Tryd.ntmps4
    go_wp2_with (first | (go_at_call_of 12 (Value.slice A0 T0.length c0); refine (light A0 c0 T0 _ hL0' HW0.out HA0.out).mono ?_; rintro e w' ⟨rfl, rfl⟩) | (go_at_call 11; refine (lives _ HP.out hg).mono ?_; rintro e w' ⟨rfl, hb⟩))
    go_ret
    exact ⟨rfl, hb⟩
  cases hlight1 : lightB T1
  · go_enter Tryd.func4, Tryd.ntmps4
    go_wp2_with (first | (go_at_call_of 12 (Value.slice A0 T0.length c0); refine (light A0 c0 T0 _ hL0' HW0.out HA0.out).mono ?_; rintro e w' ⟨rfl, rfl⟩) | (go_at_call_of 12 (Value.slice A1 T1.length c1); refine (light A1 c1 T1 _ hL1' HW1.out HA1.out).mono ?_; rintro e w' ⟨rfl, rfl⟩) | (go_at_call 11; refine (lives _ HP.out hg).mono ?_; rintro e w' ⟨rfl, hb⟩))
    go_ret
    exact ⟨rfl, hb⟩
  have h40 : T0.length ≤ 40 := by
    unfold lightB at hlight0
    rw [Bool.and_eq_true, decide_eq_true_iff] at hlight0
    exact hlight0.1
  have h41 : T1.length ≤ 40 := by
    unfold lightB at hlight1
    rw [Bool.and_eq_true, decide_eq_true_iff] at hlight1
    exact hlight1.1
  go_enter Tryd.func4, Tryd.ntmps4
  go_wp2_with (first | (go_at_call_of 12 (Value.slice A0 T0.length c0); refine (light A0 c0 T0 _ hL0' HW0.out HA0.out).mono ?_; rintro e w' ⟨rfl, rfl⟩) | (go_at_call_of 12 (Value.slice A1 T1.length c1); refine (light A1 c1 T1 _ hL1' HW1.out HA1.out).mono ?_; rintro e w' ⟨rfl, rfl⟩) | (go_at_call 13; refine (new A0 c0 T0 _ (by omega) HA0.out).mono ?_; rintro e w1 ⟨p, rfl, htab, hb1⟩))
  have hnk : ∃ nk : Int, nk = min n 60 := ⟨_, rfl⟩
  obtain ⟨nk, hnk⟩ := hnk
  rw [← hnk]
  have hT := Tbl.of htab (by have := tab_len_le T0; omega) (tab_sorted T0)
  have h60 : nk ≤ 60 := by omega
  have hm0 : -9223372036854775808 ≤ nk := by omega
  clear hnk htab
  refine (hT.with_ A1 c1 T1 w1 (by omega) (Below.refl _ _) (HA1.out.keep hb1)).mono ?_
  rintro e w2 ⟨p2, rfl, htab2, hb2⟩
  rw [tab_with] at htab2
  have hb2' := hb1.trans (hb2.mono hb1.size)
  have hU := Tbl.of htab2 (by have := tab_len_le (T0 ++ T1); rw [List.length_append] at this; omega) (tab_sorted _)
  have hTb := hT.keep hb2
  clear htab2 hT hb2
  go_wp2_with fail
  refine (newRef A0 c0 T0 w2 (by omega) (HA0.out.keep hb2')).mono ?_
  rintro e w3 ⟨v3, rfl, hown3, hb3⟩
  obtain ⟨A3, c3, rfl, _, hr3⟩ := SRow.of_own hown3
  have hb3' := hb2'.trans (hb3.mono hb2'.size)
  have hUb := hU.keep hb3
  have hTb := hTb.keep hb3
  clear hown3 hU hb3 hb2'
  have HB0 := Lib.hid (HA0.out.keep hb3')
  have HB1 := Lib.hid (HA1.out.keep hb3')
  clear HA0 HA1
  have hown0 : (w3.alloc (.cells #[] 9)).ownsRow w3.heap.size 9 1 (.slice (some ⟨w3.heap.size, 0, none⟩) 0 0) ([] : List Str).length (([] : List Str).map encStr) := World.ownsRow_made w3 #[] 0 (Nat.le_refl _) (by decide) rfl
  have hb0 : Below w3.heap.size w3 (w3.alloc (.cells #[] 9)) := (Below.refl _ _).alloc (Nat.le_refl _) _
  go_wp2_with (at_builtin; refine wpList_append_src _ rfl _ _ 24 rfl w3.heap.size 9 i0 (.string ⟨#[]⟩) Tryd.underlying24 hi hz0 hz1 hz2 rfl _ [] rfl hown0 A0 c0 T0 rfl (HB0.out.keep hb0) (by simp; omega) hb0.size ?_)
  intro v4 w4 hown4 hgrow4
  have hb4 := hb0.grown hgrow4 hb0.size (fun k hk => (hown0.lt k hk).1)
  clear hown0 hgrow4 hb0
  go_wp2_with (at_builtin; refine wpList_append_src _ rfl _ _ 24 rfl w3.heap.size 9 i0 (.string ⟨#[]⟩) Tryd.underlying24 hi hz0 hz1 hz2 rfl _ T0 rfl hown4 A1 c1 T1 rfl (HB1.out.keep hb4) (by omega) hb4.size ?_)
  intro v5 w5 hown5 hgrow5
  have hb5 := hb4.grown hgrow5 hb4.size (fun k hk => (hown4.lt k hk).1)
  obtain ⟨A5, c5, rfl, _, hr5⟩ := SRow.of_own (T := T0 ++ T1) (by rw [List.length_append, List.map_append]; simpa using hown5)
  clear hown4 hown5 hgrow5 hb4
  have hTT : (T0 ++ T1).length ≤ 80 := by rw [List.length_append]; omega
  generalize T0 ++ T1 = TT at *
  go_wp2_with fail
  refine (newRef A5 c5 TT w5 (by omega) hr5).mono ?_
  rintro e w6 ⟨v6, rfl, hown6, hb6⟩
  obtain ⟨A6, c6, rfl, _, hr6⟩ := SRow.of_own hown6
  have hb6' := hb5.trans (hb6.mono hb5.size)
  have hT := hTb.keep hb6'
  have hU := hUb.keep hb6'
  have hrx := hr3.keep hb6'
  have hRY := Lib.hid hr6
  have HB1' := Lib.hid (HB1.out.keep hb6')
  have hbel6 := hb3'.trans (hb6'.mono hb3'.size)
  have hs0 := Lib.hid (tab_sorted T0)
  have hul : (tab T0).length ≤ 40 := by have := tab_len_le T0; omega
  have hvl : (tab TT).length ≤ 80 := by have := tab_len_le TT; omega
  clear hown6 hb6 hb6' hb5 hr5 hr3 hTb hUb HB0 HB1 hb3' hTT hr6
  generalize tab T0 = X at *
  generalize tab TT = Y at *
  have HX := Lib.hid hrx
  clear hrx
  have HPw := Lib.hid (HP.out.keep hg hbel6)
  have hg6 : 0 < w6.heap.size := Nat.lt_of_lt_of_le hg hbel6.size
  have HBEL := Lib.hid hbel6
  clear hbel6 HP
  go_wp2_with fail
  go_loopw [42] (fun i wr => ∃ k : Nat, k ≤ T1.length ∧ i = .int .i64 k ∧ Below w6.heap.size w6 wr) (fun i _ => T1.length - (intOf i).toNat)
  case atStart => exact ⟨0, by omega, rfl, Below.refl _ _⟩
  case round =>
    obtain ⟨k, hk, rfl, hbel⟩ := hrel
    by_cases hlt : k < T1.length
    · obtain ⟨g, off, rfl, hg1, hcell⟩ := HB1'.out (by omega)
      obtain ⟨sb, hsb⟩ : ∃ sb : ByteArray, sb = ⟨T1[k].toArray⟩ := ⟨_, rfl⟩
      have hx : wr.cell? ⟨g, off + k, none⟩ = some (.string sb) := by rw [hsb]; exact (hbel.cell (p := ⟨g, off + k, none⟩) hg1).trans (hcell k hlt)
      clear hcell hsb
      go_wp2_with fail
      go_loopw [13, 48] (fun a i wr2 => ∃ (m : Nat) (z : Int), m ≤ X.length ∧ i = .int .i64 m ∧ a = .int .i64 z ∧ Hid (Last X sb.toList m z) ∧ wr2 = wr) (fun _ i _ => X.length - (intOf i).toNat)
      case atStart => exact ⟨0, -1, by omega, rfl, rfl, Lib.hid (.inl ⟨rfl, fun j _ h => by omega⟩), rfl⟩
      case round =>
        obtain ⟨m, z, hm, rfl, rfl, hlast, rfl⟩ := hrel
        clear hx
        by_cases hlm : m < X.length
        · obtain ⟨g2, off2, rfl, hg2, hcell2⟩ := HX.out (by omega)
          have hx2 := (hbel.cell (p := ⟨g2, off2 + m, none⟩) hg2).trans (hcell2 m hlm)
          clear hcell2
          by_cases he : X[m] = sb.toList
          · have hnext : Hid (Last X sb.toList (m + 1) m) := Lib.hid (.inr ⟨m, hlm, rfl, he⟩)
            have e1 : (X[m] == sb.toList) = true := by simpa using he
            clear he hlast
            go_wp2_with fail
            go_roundw
            case rel => exact ⟨m + 1, m, by omega, by go_num, rfl, hnext, trivial⟩
            case measure => simp [intOf]; omega
          · have hnext : Hid (Last X sb.toList (m + 1) z) := Lib.hid (hlast.out.next fun _ => he)
            have e1 : (X[m] == sb.toList) = false := by simpa using he
            clear he hlast
            go_wp2_with fail
            go_roundw
            case rel => exact ⟨m + 1, z, by omega, by go_num, rfl, hnext, trivial⟩
            case measure => simp [intOf]; omega
        · have e : m = X.length := by omega
          subst e
          have hf := Lib.hid (hlast.out.findI hs0.out)
          clear hlast hlm hm
          go_wp2_with fail
          refine (hT.find _ _ hbel).mono ?_
          rintro e w7 ⟨rfl, hb7⟩
          rw [hf.out]
          have hbel7 := hbel.trans (hb7.mono hbel.size)
          clear hb7 hbel
          go_wp2_with fail
          go_roundw
          case rel => exact ⟨k + 1, by omega, by go_num, hbel7⟩
          case measure => simp [intOf]; omega
    · go_wp2_with fail
      clear hlt hk HB1'
      go_loopw [67] (fun i wr2 => ∃ k : Nat, k ≤ X.length ∧ i = .int .i64 k ∧ Below w6.heap.size w6 wr2) (fun i _ => X.length - (intOf i).toNat)
      case atStart => exact ⟨0, by omega, rfl, hbel⟩
      case round =>
        obtain ⟨k, hk, rfl, hbelq⟩ := hrel
        clear hbel
        by_cases hlt : k < X.length
        · obtain ⟨g, off, rfl, hg1, hcell⟩ := HX.out (by omega)
          have hx := (hbelq.cell (p := ⟨g, off + k, none⟩) hg1).trans (hcell k hlt)
          clear hcell
          go_wp2_with fail
          go_quiet ((go_at_call 17; exact Calls.quiet_of_same ((hT.at_in k hlt _ (below_drewN hbelq _)).mono fun e w' h => ⟨h.1, h.2.symm⟩)))
          go_wp2_with fail
          go_roundw
          case rel => exact ⟨k + 1, by omega, by go_num, below_drewN hbelq _⟩
          case measure => simp [intOf]; omega
        · go_wp2_with fail
          clear hlt hk
          refine (hT.all _ hbelq).mono ?_
          rintro e w7 ⟨v7, rfl, hown7, hb7⟩
          obtain ⟨A7, c7, rfl, _, hr7⟩ := SRow.of_own hown7
          have hbel7 := hbelq.trans (hb7.mono hbelq.size)
          clear hown7 hb7 hbelq
          go_wp2_with fail
          refine (same A7 A3 c7 c3 X _ (by omega) hr7 (HX.out.keep hbel7)).mono ?_
          rintro e w8 ⟨rfl, q, rfl⟩
          have hbel8 := below_drewN hbel7 q
          clear hbel7 hr7
          generalize w7.drewN q = w8 at *
          go_wp2_with fail
          refine (hU.all _ hbel8).mono ?_
          rintro e w9 ⟨v9, rfl, hown9, hb9⟩
          obtain ⟨A9, c9, rfl, _, hr9⟩ := SRow.of_own hown9
          have hbel9 := hbel8.trans (hb9.mono hbel8.size)
          clear hown9 hb9 hbel8
          go_wp2_with fail
          refine (same A9 A6 c9 c6 Y _ (by omega) hr9 (hRY.out.keep hbel9)).mono ?_
          rintro e w10 ⟨rfl, q2, rfl⟩
          have hbel10 := below_drewN hbel9 q2
          clear hbel9 hr9 hRY hU
          generalize w9.drewN q2 = w10 at *
          go_wp2_with (go_at_call 20; refine (hT.len _ hbel10).mono ?_; rintro e w' ⟨rfl, rfl⟩)
          refine (hT.at_out (-1) _ (by omega) hbel10).mono ?_
          rintro e w' ⟨rfl, rfl⟩
          go_wp2_with fail
          refine (hT.at_out X.length _ (by omega) hbel10).mono ?_
          rintro e w' ⟨rfl, rfl⟩
          go_wp2_with fail
          refine (hT.fresh nk _ hm0 (by omega) hbel10 (HPw.out.keep hg6 hbel10)).mono ?_
          rintro e w11 ⟨v11, rfl, hown11, hb11⟩
          obtain ⟨A11, c11, rfl, _, hr11⟩ := SRow.of_own hown11
          have hbel11 := hbel10.trans (hb11.mono hbel10.size)
          clear hown11 hb11 hbel10
          go_wp2_with fail
          refine (freshRef A3 c3 X nk _ (by omega) (HX.out.keep hbel11)).mono ?_
          rintro e w12 ⟨v12, rfl, hown12, hb12⟩
          obtain ⟨A12, c12, rfl, _, hr12⟩ := SRow.of_own hown12
          have hr11' := hr11.keep hb12
          have hbel12 := hbel11.trans (hb12.mono hbel11.size)
          have hlfn : (fr X nk (1000 + X.length)).length ≤ 1000 := (fr_len X nk _).2.1
          clear hown12 hb12 hbel11 hr11
          generalize fr X nk (1000 + X.length) = F at *
          go_wp2_with fail
          refine (same A11 A12 c11 c12 F _ (by omega) hr11' hr12).mono ?_
          rintro e w13 ⟨rfl, q3, rfl⟩
          have hbel13 := below_drewN hbel12 q3
          clear hbel12 hr11' hr12
          generalize w12.drewN q3 = w13 at *
          go_wp2_with (go_at_call 11; refine (lives _ (HPw.out.keep hg6 hbel13) (Nat.lt_of_lt_of_le hg6 hbel13.size)).mono ?_; rintro e w14 ⟨rfl, hb14⟩)
          go_ret
          exact ⟨rfl, HBEL.out.trans ((hbel13.trans (hb14.mono hbel13.size)).mono HBEL.out.size)⟩
end Go.Proofs.YtpdgjkjbimkmjaaDoor.NamesTablesW
