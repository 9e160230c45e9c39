/- The walk of the law NamesBack. -/
import Derived.Test.YtpdgjkjbimkmjaaDoorTab8
import Derived.Deep.AppendLies
import Derived.Deep.RegionLaw
namespace Go.Proofs.YtpdgjkjbimkmjaaDoor.NamesBackW
open Go.RowKit Go.Sort Go.Proofs Go.Proofs.YtpdgjkjbimkmjaaDoor.Plain Go.Proofs.YtpdgjkjbimkmjaaDoor.Named Go.Proofs.YtpdgjkjbimkmjaaDoor.Tab1 Go.Proofs.YtpdgjkjbimkmjaaDoor.Tab2 Go.Proofs.YtpdgjkjbimkmjaaDoor.Tab3 Go.Proofs.YtpdgjkjbimkmjaaDoor.Tab4 Go.Proofs.YtpdgjkjbimkmjaaDoor.Tab5 Go.Proofs.YtpdgjkjbimkmjaaDoor.Tab6 Go.Proofs.YtpdgjkjbimkmjaaDoor.Tab7 Go.Proofs.YtpdgjkjbimkmjaaDoor.Tab8 Go.Proofs.YtpdgjkjbimkmjaaDoor.TabP Go.Proofs.YtpdgjkjbimkmjaaDoor.Ref1 Go.Proofs.YtpdgjkjbimkmjaaDoor.Laid
/-- Of the first k places: the text as far from the end, and the text itself. -/
def tw (T : List Str) : Nat → List Str
  | 0 => []
  | k + 1 => tw T k ++ [T.getD (T.length - 1 - k) [], T.getD k []]
theorem tw_len (T : List Str) (k : Nat) : (tw T k).length = 2 * k := by
  induction k with
  | zero => rfl
  | succ k ih => unfold tw; rw [List.length_append, ih]; rfl
theorem mem_tw (T : List Str) (x : Str) (k : Nat) (hk : k ≤ T.length) : x ∈ tw T k ↔ ∃ j, j < k ∧ (x = T.getD (T.length - 1 - j) [] ∨ x = T.getD j []) := by
  induction k with
  | zero => simp [tw]
  | succ k ih =>
    unfold tw
    rw [List.mem_append, ih (by omega)]
    constructor
    · rintro (⟨j, hj, h⟩ | h)
      · exact ⟨j, by omega, h⟩
      · exact ⟨k, by omega, by simpa using h⟩
    · rintro ⟨j, hj, h⟩
      by_cases e : j = k
      · subst e; exact .inr (by simpa using h)
      · exact .inl ⟨j, by omega, h⟩
theorem getD_mem {T : List Str} {j : Nat} (h : j < T.length) : T.getD j [] ∈ T := by
  rw [List.getD_eq_getElem?_getD, List.getElem?_eq_getElem h]
  exact List.getElem_mem _
theorem tab_tw (T : List Str) : tab (tw T T.length) = tab T := eq_of_rising (tab_sorted _) (tab_sorted _) fun x => by
  rw [mem_tab, mem_tab, mem_tw T x _ (Nat.le_refl _)]
  constructor
  · rintro ⟨j, hj, h | h⟩
    · rw [h]; exact getD_mem (by omega)
    · rw [h]; exact getD_mem hj
  · intro hx
    obtain ⟨j, hj, e⟩ := List.getElem_of_mem hx
    exact ⟨j, hj, .inr (by rw [List.getD_eq_getElem?_getD, List.getElem?_eq_getElem hj]; exact e.symm)⟩
set_option maxHeartbeats 1000000 in
set_option maxRecDepth 100000 in
theorem walk (A : Option Addr) (c : Nat) (T : List Str) (n : Int) (w : World) (hn0 : -9223372036854775808 ≤ n) (hn1 : n ≤ 9223372036854775807) (hL : T.length ≤ maxLen) (hw : ∀ s ∈ T, s.length ≤ maxLen) (hA : SRow w A T) (hp : Pow w) :
    Calls Tryd.prog 5 #[.slice A T.length c, .int .i64 n] w fun e w' => e = .returned (.bool true) ∧ Below w.heap.size w w' := by
  have hg := pow_lt hp
  obtain ⟨i0, hi, hz0, hz1, hz2⟩ := info_parts infoStr
  have HA := Lib.hid hA
  have HW := Lib.hid hw
  have HP := Lib.hid hp
  have hL' := hL
  clear hA hw hp
  unfold maxLen at hL
  cases hlight : lightB T
  · go_enter Tryd.func5, Tryd.ntmps5
    go_wp2_with (first | (go_at_call 12; refine (light A c T _ hL' HW.out HA.out).mono ?_; rintro e w' ⟨rfl, rfl⟩) | (go_at_call 11; refine (lives _ HP.out hg).mono ?_; rintro e w' ⟨rfl, hb⟩))
    go_ret
    exact ⟨rfl, hb⟩
  · have h40 : T.length ≤ 40 := by
      unfold lightB at hlight
      rw [Bool.and_eq_true, decide_eq_true_iff] at hlight
      exact hlight.1
    go_enter Tryd.func5, Tryd.ntmps5
    go_wp2_with (first | (go_at_call 12; refine (light A c T _ hL' HW.out HA.out).mono ?_; rintro e w' ⟨rfl, rfl⟩) | (go_at_call 13; refine (new A c T _ (by omega) HA.out).mono ?_; rintro e w1 ⟨p, rfl, htab, hb1⟩))
    have hnk : ∃ nk : Int, nk = min n 60 := ⟨_, rfl⟩
    obtain ⟨nk, hnk⟩ := hnk
    rw [← hnk]
    have hT := Tbl.of htab (by have := tab_len_le T; omega) (tab_sorted T)
    have h60 : nk ≤ 60 := by omega
    have hm0 : -9223372036854775808 ≤ nk := by omega
    clear hnk htab
    go_loopw [6, 22] (fun v i wr => ∃ k : Nat, k ≤ T.length ∧ i = .int .i64 k ∧ wr.ownsRow w1.heap.size 9 1 v (tw T k).length ((tw T k).map encStr) ∧ Below w1.heap.size w1 wr) (fun _ i _ => T.length - (intOf i).toNat)
    case atStart => exact ⟨0, by omega, rfl, World.ownsRow_nil _ _ _ _, Below.refl _ _⟩
    case round =>
      obtain ⟨k, hk, rfl, hown, hbel⟩ := hrel
      by_cases hlt : k < T.length
      · have hrow := HA.out.keep (hb1.trans (hbel.mono hb1.size))
        obtain ⟨g, off, rfl, hg1, hcell⟩ := hrow (by omega)
        have hx := hcell k hlt
        obtain ⟨j, hj⟩ : ∃ j : Nat, j = T.length - 1 - k := ⟨_, rfl⟩
        have hjl : j < T.length := by omega
        have hy := hcell j hjl
        have hji : (T.length : Int) - 1 - (k : Int) = (j : Int) := by omega
        have hn := Lib.hid (show tw T (k + 1) = tw T k ++ [T[j], T[k]] from by
          show tw T k ++ [T.getD (T.length - 1 - k) [], T.getD k []] = _
          rw [← hj, List.getD_eq_getElem?_getD, List.getD_eq_getElem?_getD, List.getElem?_eq_getElem hjl, List.getElem?_eq_getElem hlt]
          rfl)
        have htl := tw_len T k
        have hb40 : (tw T k).length ≤ 80 := by omega
        have hw1 : IntKind.i64.wrap ((T.length : Int) - 1) = (T.length : Int) - 1 := IntWalk.i64_in _ (by omega)
        have hw2 : IntKind.i64.wrap ((T.length : Int) - 1 - (k : Int)) = (j : Int) := by rw [hji]; exact IntWalk.i64_in _ (by omega)
        clear hcell hj htl hji
        go_wp2_with fail
        go_region_law ((refine step_append_lies _ rfl (.tmp 25) (.tmp 38) 24 rfl w1.heap.size 9 i0 (.string ⟨#[]⟩) 1 16 Tryd.underlying24 hi hz0 hz1 hz2 rfl (by decide) u6 (tw T k).length ((tw T k).map encStr) (by simp [Act.eval]) (by exact hown.alloc _) ⟨wr.heap.size, 0, none⟩ 2 2 [.string ⟨T[j].toArray⟩, .string ⟨T[k].toArray⟩] (by simp [Act.eval]) rfl (by exact cell_two_new _ _ _ _) (by intro u hu; simp at hu; rcases hu with rfl | rfl <;> rfl) (by decide) (by unfold maxLen; omega) (by omega) (by have := hbel.size; simp; omega) _ rfl ?_; intro g' cap' w2 hown2 hgrow _ _))
        all_goals
          have hbel2 : Below w1.heap.size w1 w2 := (hbel.drew.alloc hbel.size _).grown hgrow (by have := hbel.size; simp; omega) (fun j hj => (hown.lt j hj).1)
          have hown3 := own_app2 hown2 (show tw T (k + 1) = tw T k ++ [T[j]] ++ [T[k]] from by rw [hn.out, List.append_assoc]; rfl)
          clear hown hown2 hbel hgrow hx hy hrow hw1 hw2
          go_wp2_with fail
          go_roundw
          case rel => exact ⟨k + 1, by omega, by go_num, hown3, hbel2⟩
          case measure => simp [intOf]; omega
      · have e : k = T.length := by omega
        subst e
        obtain ⟨A2, c2, rfl, _, hr2⟩ := SRow.of_own hown
        have htl : (tw T T.length).length ≤ 1000 := by rw [tw_len]; omega
        clear hown
        go_wp2_with (go_at_call 13; refine (new A2 c2 _ _ (by omega) hr2).mono ?_; rintro e w2 ⟨p2, rfl, htab2, hb2⟩)
        rw [tab_tw] at htab2
        have hT2 := Tbl.of htab2 (by have := tab_len_le T; omega) (tab_sorted T)
        have hbel2 := hbel.trans (hb2.mono hbel.size)
        have hup := tab_sorted T
        have hul : (tab T).length ≤ 40 := by have := tab_len_le T; omega
        have hpw : Pow w1 := HP.out.keep hg hb1
        clear htab2 hr2 hbel hb2 htl
        generalize tab T = U at *
        have HU := Lib.hid hup
        have HPw := Lib.hid hpw
        clear hup hpw
        refine (hT2.all w2 (Below.refl _ _)).mono ?_
        rintro e w3 ⟨v3, rfl, hown3, hb3⟩
        obtain ⟨A3, c3, rfl, _, hr3⟩ := SRow.of_own hown3
        have hbel3 := hbel2.trans (hb3.mono hbel2.size)
        clear hown3 hb3 hbel2 hT2
        go_wp2_with fail
        refine (hT.all w3 hbel3).mono ?_
        rintro e w4 ⟨v4, rfl, hown4, hb4⟩
        obtain ⟨A4, c4, rfl, _, hr4⟩ := SRow.of_own hown4
        have hr3' := hr3.keep hb4
        have hbel4 := hbel3.trans (hb4.mono hbel3.size)
        clear hown4 hb4 hbel3 hr3
        go_wp2_with (go_at_call 18; refine (same A3 A4 c3 c4 U _ (by omega) hr3' hr4).mono ?_)
        rintro e w5 ⟨rfl, q, rfl⟩
        have hbel5 := below_drewN hbel4 q
        clear hbel4 hr3' hr4
        generalize w4.drewN q = w5 at *
        go_wp2_with (go_at_call 20; refine (hT.len _ hbel5).mono ?_; rintro e w' ⟨rfl, rfl⟩)
        go_loopw [50] (fun i wr => ∃ k : Nat, k ≤ U.length ∧ i = .int .i64 k ∧ Below w1.heap.size w1 wr) (fun i _ => U.length - (intOf i).toNat)
        case atStart => exact ⟨0, by omega, rfl, hbel5⟩
        case round =>
          obtain ⟨k, hk, rfl, hbel⟩ := hrel
          clear hbel5
          by_cases hlt : k < U.length
          · have hf : findI U (⟨U[k].toArray⟩ : ByteArray).toList = k := by
              rw [Go.ByteArray.toList_eq]
              exact findI_hit HU.out hlt rfl
            have Hf := Lib.hid hf
            clear hf
            go_wp2_with (go_at_call 17; refine (hT.at_in k hlt _ hbel).mono ?_; rintro e w' ⟨rfl, rfl⟩)
            refine (hT.find _ _ hbel).mono ?_
            rintro e w6 ⟨rfl, hb6⟩
            rw [Hf.out]
            have hbel6 := hbel.trans (hb6.mono hbel.size)
            clear hbel hb6
            go_wp2_with fail
            go_roundw
            case rel => exact ⟨k + 1, by omega, by go_num, hbel6⟩
            case measure => simp [intOf]; omega
          · go_wp2_with fail
            clear hlt hk
            refine (hT.fresh nk _ hm0 (by omega) hbel (HPw.out.keep (Nat.lt_of_lt_of_le hg hb1.size) hbel)).mono ?_
            rintro e w6 ⟨v6, rfl, hown6, hb6⟩
            obtain ⟨A6, c6, rfl, _, hr6⟩ := SRow.of_own hown6
            have hbel6 := hbel.trans (hb6.mono hbel.size)
            clear hown6 hb6 hbel
            have HF := Lib.hid (fun x hx => mem_fr U nk (1000 + U.length) x hx)
            have hlf := len_fr (T := U) (n := nk) (by omega)
            have hlfn : (fr U nk (1000 + U.length)).length ≤ 1000 := (fr_len U nk _).2.1
            have HL := Lib.hid hlf
            clear hlf
            have HR := Lib.hid hr6
            clear hr6
            have Hfr : Hid (∃ F, F = fr U nk (1000 + U.length)) := Lib.hid ⟨_, rfl⟩
            go_wp2_with fail
            go_loopw [65] (fun i wr => ∃ k : Nat, k ≤ (fr U nk (1000 + U.length)).length ∧ i = .int .i64 k ∧ Below w6.heap.size w6 wr) (fun i _ => (fr U nk (1000 + U.length)).length - (intOf i).toNat)
            case atStart => exact ⟨0, by omega, rfl, Below.refl _ _⟩
            case round =>
              obtain ⟨k, hk, rfl, hbel⟩ := hrel
              by_cases hlt : k < (fr U nk (1000 + U.length)).length
              · obtain ⟨g, off, rfl, hg6, hcell⟩ := HR.out (by omega)
                obtain ⟨sb, hsb⟩ : ∃ sb : ByteArray, sb = ⟨(fr U nk (1000 + U.length))[k].toArray⟩ := ⟨_, rfl⟩
                have hx : wr.cell? ⟨g, off + k, none⟩ = some (.string sb) := by rw [hsb]; exact (hbel.cell (p := ⟨g, off + k, none⟩) hg6).trans (hcell k hlt)
                obtain ⟨hnot, m, hm1, hm2, hxm⟩ := HF.out _ (List.getElem_mem hlt)
                have hf : Hid (findI U sb.toList = -1) := Lib.hid (by rw [hsb, Go.ByteArray.toList_eq]; exact findI_miss hnot)
                have hpr : named capB sb.data.toList = true := by
                  rw [hsb]
                  show named capB (fr U nk (1000 + U.length))[k] = true
                  rw [hxm]
                  exact prin_xs m (by omega) hm1
                have hsz : sb.size ≤ maxLen := by
                  have h1 := hpr
                  unfold named at h1
                  rw [Bool.and_eq_true, Bool.and_eq_true, decide_eq_true_iff, toList_len] at h1
                  unfold maxLen
                  omega
                have hbel2 := hbel6.trans (hbel.mono hbel6.size)
                clear hcell hnot hxm hsb
                go_wp2_with fail
                refine (hT.find _ _ hbel2).mono ?_
                rintro e w7 ⟨rfl, hb7⟩
                rw [hf.out]
                have hbel7 := hbel.trans (hb7.mono hbel.size)
                clear hbel hb7 hbel2 hx
                go_wp2_with (go_at_call 7; refine (isPrin sb _ hsz).mono ?_; rintro e w' ⟨rfl, rfl⟩)
                go_roundw
                case rel => exact ⟨k + 1, by omega, by go_num, hbel7⟩
                case measure => simp [intOf]; omega
              · have hbel2 := hbel6.trans (hbel.mono hbel6.size)
                clear hbel
                go_wp2_with fail
                clear hlt hk
                refine (hT.fresh nk _ hm0 (by omega) hbel2 (HPw.out.keep (Nat.lt_of_lt_of_le hg hb1.size) hbel2)).mono ?_
                rintro e w8 ⟨v8, rfl, hown8, hb8⟩
                obtain ⟨A8, c8, rfl, _, hr8⟩ := SRow.of_own hown8
                have hbel8 := hbel2.trans (hb8.mono hbel2.size)
                have he : (((fr U nk (1000 + U.length)).length : Int) == max nk 0) = true := by rw [beq_iff_eq]; exact HL.out
                clear hown8 hb8 hbel2 hr8 hbel6
                go_wp2_with (first | (go_at_call 20; refine (Tab1.len_nil _).mono ?_; rintro e w' ⟨rfl, rfl⟩))
                refine (find_nil ⟨#[97]⟩ w8).mono ?_
                rintro e w9 ⟨rfl, hb9⟩
                rw [show findI [] (⟨#[97]⟩ : ByteArray).toList = -1 from findI_miss (by simp)]
                have hbel9 := hbel8.trans (hb9.mono hbel8.size)
                clear hbel8 hb9
                go_wp2_with (first | (go_at_call 17; refine (at_nil _ _).mono ?_; rintro e w' ⟨rfl, rfl⟩) | (go_at_call 19; refine (all_nil _).mono ?_; rintro e w' ⟨rfl, rfl⟩))
                have hrow9 : SRow (w9.alloc (.cells #[.string ⟨#[97]⟩] 9)) (some ⟨w9.heap.size, 0, none⟩) [[97]] := fun _ =>
                  ⟨w9.heap.size, 0, rfl, by simp, fun j hj => by
                    rw [Lib.cell_of_heap (heap_alloc_new w9 _), Nat.zero_add]
                    match j, hj with
                    | 0, _ => rfl⟩
                refine (with_row (.pointer none) none _ 0 _ [] [[97]] _ (by simp) (by simp) (fun h => by simp at h) hrow9 (kept_nil _)).mono ?_
                rintro e w10 ⟨p10, rfl, htab10, hb10⟩
                have e1 : tab ([] ++ [[97]]) = [[97]] := eq_of_rising (tab_sorted _) (by simp) (fun x => by rw [mem_tab]; simp)
                rw [e1] at htab10
                have hT10 := Tbl.of htab10 (by simp) (by simp)
                have hbel10 := hbel9.trans (((Below.refl w9.heap.size w9).alloc (Nat.le_refl _) (.cells #[.string ⟨#[97]⟩] 9)).trans (hb10.mono (by simp)) |>.mono hbel9.size)
                clear htab10 hb10 hrow9 hbel9 e1
                go_wp2_with (first | (go_at_call 20; refine (hT10.len _ (Below.refl _ _)).mono ?_; rintro e w' ⟨rfl, rfl⟩) | (go_at_call 11; refine (lives _ (HPw.out.keep (Nat.lt_of_lt_of_le hg hb1.size) hbel10) (Nat.lt_of_lt_of_le (Nat.lt_of_lt_of_le hg hb1.size) hbel10.size)).mono ?_; rintro e w11 ⟨rfl, hb11⟩))
                go_ret
                exact ⟨rfl, hb1.trans ((hbel10.trans (hb11.mono hbel10.size)).mono hb1.size)⟩
end Go.Proofs.YtpdgjkjbimkmjaaDoor.NamesBackW
