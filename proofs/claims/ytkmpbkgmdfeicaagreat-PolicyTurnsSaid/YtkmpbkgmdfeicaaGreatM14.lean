/- Which principals may be asked about, by contract. -/
import Derived.Test.YtkmpbkgmdfeicaaGreatM11
import Derived.Test.YtkmpbkgmdfeicaaGreatM12
import Derived.Test.YtkmpbkgmdfeicaaGreatM04
import Derived.Test.YtkmpbkgmdfeicaaGreatM06
import Derived.Test.YtkmpbkgmdfeicaaGreatM08
import Derived.Test.YtkmpbkgmdfeicaaGreatM13
import Derived.Deep.RegionHeld3
namespace Go.Proofs.YtkmpbkgmdfeicaaGreat.Qry1
set_option linter.unusedVariables false
set_option linter.unusedSimpArgs false
open Go.RowKit Go.Sort Go.Proofs Go.Proofs.YtkmpbkgmdfeicaaGreat.Plain Go.Proofs.YtkmpbkgmdfeicaaGreat.Named Go.Proofs.YtkmpbkgmdfeicaaGreat.SynP Go.Proofs.YtkmpbkgmdfeicaaGreat.TabP Go.Proofs.YtkmpbkgmdfeicaaGreat.Tab1 Go.Proofs.YtkmpbkgmdfeicaaGreat.Tab3 Go.Proofs.YtkmpbkgmdfeicaaGreat.Tab7 Go.Proofs.YtkmpbkgmdfeicaaGreat.Grown Go.Proofs.YtkmpbkgmdfeicaaGreat.QryP
set_option linter.unusedVariables false
set_option linter.unusedSimpArgs false
theorem whoFn (s : Str) (w : World) (hs : s.length ≤ maxLen) : Calls Tryz.prog 130 #[.string ⟨s.toArray⟩] w fun e w' => e = .returned (.bool (!prinS s)) ∧ w = w' := by
  have H := Lib.hid (isPrin ⟨s.toArray⟩ w (by simpa [ByteArray.size] using hs))
  go_enter Tryz.func130, Tryz.ntmps130
  go_wp2_with (go_at_call 127; refine H.out.mono ?_; rintro e w' ⟨rfl, rfl⟩)
  go_ret
  exact ⟨rfl, rfl⟩
def IdxPost (T : List Str) (w : World) (e : Ending) (w' : World) : Prop := ∃ r : Int, e = .returned (.int .i64 r) ∧ decide (0 ≤ r) = !T.all prinS ∧ w = w'
set_option maxHeartbeats 1000000 in
theorem indexFn (A : Option Addr) (c : Nat) (T : List Str) (w : World) (hL : T.length ≤ 1000000) (hs : ∀ s ∈ T, s.length ≤ maxLen) (hA : SRow w A T) :
    Calls Tryz.prog 171 #[.slice A T.length c, .func (.func 130) #[] #[]] w (IdxPost T w) := by
  go_enter Tryz.func171, Tryz.ntmps171
  go_wp2_with fail
  go_loop [8] (fun i => ∃ k : Nat, k ≤ T.length ∧ i = .int .i64 k ∧ Hid (∀ j, j < k → (h : j < T.length) → prinS T[j] = true)) (fun i => T.length - (intOf i).toNat)
  case atStart => exact ⟨0, by omega, rfl, Lib.hid fun j hj => by omega⟩
  case round =>
    obtain ⟨k, hk, rfl, hall⟩ := hrel
    by_cases hlt : k < T.length
    · obtain ⟨g, off, rfl, hg, hcell⟩ := hA (by omega)
      have hx := hcell k hlt
      have p1 : (0 : Int) ≤ k := by omega
      have p2 : (k : Int) < T.length := by omega
      have H := Lib.hid (whoFn T[k] w (hs _ (List.getElem_mem _)))
      clear hcell
      cases hp : prinS T[k]
      · rw [hp] at H
        have hfin := Lib.hid ((who_bad hlt hp : _) |> fun _ => (show decide ((0 : Int) ≤ k) = !T.all prinS by
          rw [decide_eq_true p1, List.all_eq_false.2 ⟨T[k], List.getElem_mem _, by simp [hp]⟩]; rfl))
        clear hp hall
        go_wp2_with (go_at_call 130; refine H.out.mono ?_; rintro e w' ⟨rfl, rfl⟩)
        go_ret
        exact ⟨k, rfl, hfin.out, rfl⟩
      · rw [hp] at H
        have hnext : Hid (∀ j, j < k + 1 → (h : j < T.length) → prinS T[j] = true) := Lib.hid fun j hj h => by
          by_cases e : j = k
          · subst e; exact hp
          · exact hall.out j (by omega) h
        clear hp hall
        go_wp2_with (go_at_call 130; refine H.out.mono ?_; rintro e w' ⟨rfl, rfl⟩)
        go_round
        case rel => exact ⟨k + 1, by omega, by go_num, hnext⟩
        case measure => simp [intOf]; omega
    · have hfin := Lib.hid (show decide ((0 : Int) ≤ -1) = !T.all prinS by
        have : T.all prinS = true := List.all_eq_true.2 fun x hx => by
          obtain ⟨j, hj, rfl⟩ := List.getElem_of_mem hx
          exact hall.out j (by omega) hj
        rw [this]; rfl)
      clear hall
      go_wp2_with fail
      go_ret
      exact ⟨-1, rfl, hfin.out, rfl⟩
theorem containsFn (A : Option Addr) (c : Nat) (T : List Str) (w : World) (hL : T.length ≤ 1000000) (hs : ∀ s ∈ T, s.length ≤ maxLen) (hA : SRow w A T) :
    Calls Tryz.prog 131 #[.slice A T.length c, .func (.func 130) #[] #[]] w fun e w' => e = .returned (.bool (!T.all prinS)) ∧ w = w' := by
  have H := Lib.hid (indexFn A c T w hL hs hA)
  go_enter Tryz.func131, Tryz.ntmps131
  go_wp2_with (go_at_call 171; refine H.out.mono ?_; rintro e w' ⟨r, rfl, hr, rfl⟩)
  go_ret
  exact ⟨rfl, rfl⟩
/-- slices.Equal at rows of texts. -/
theorem equalS (A B : Option Addr) (c d : Nat) (T U : List Str) (w : World) (hT : T.length ≤ 1000000) (hU : U.length ≤ 1000000) (hA : SRow w A T) (hB : SRow w B U) :
    Calls Tryz.prog 91 #[.slice A T.length c, .slice B U.length d] w fun e w' => e = .returned (.bool (decide (T = U))) ∧ ∃ q, w' = w.drewN q := by
  by_cases hl : T.length = U.length
  · rcases Nat.eq_zero_or_pos T.length with h0 | h0
    · have e1 : T = [] := List.eq_nil_of_length_eq_zero h0
      have e2 : U = [] := List.eq_nil_of_length_eq_zero (by omega)
      subst e1; subst e2
      refine (Tryz.slices_Equal_string_empty A B c 0 d w (by decide)).mono ?_
      rintro e w' ⟨rfl, rfl⟩
      exact ⟨by simp, 0, rfl⟩
    · obtain ⟨b1, o1, rfl, _, hc1⟩ := hA h0
      obtain ⟨b2, o2, rfl, _, hc2⟩ := hB (by omega)
      have := Tryz.slices_Equal_string b1 o1 T.length c b2 o2 U.length d (T.map enB) (U.map enB) w (by simp) (by simp) (by omega) (by omega) (fun j hj => by
        rw [List.length_map] at hj
        rw [hc1 j hj, List.getD_eq_getElem?_getD, List.getElem?_map, List.getElem?_eq_getElem hj]; rfl) (fun j hj => by
        rw [List.length_map] at hj
        rw [hc2 j hj, List.getD_eq_getElem?_getD, List.getElem?_map, List.getElem?_eq_getElem hj]; rfl)
      refine this.mono ?_
      rintro e w' ⟨rfl, hq⟩
      refine ⟨ret_bool ?_, hq⟩
      rw [List.take_of_length_le (by simp), List.take_of_length_le (by simp)]
      have inj : ∀ x y : Str, enB x = enB y → x = y := fun x y h => by
        have := congrArg (fun z : ByteArray => z.data.toList) h
        simpa [enB] using this
      exact decide_eq_decide.2 ⟨fun h => List.map_inj_right (fun x y => inj x y) |>.1 h, fun h => by rw [h]⟩
  · refine (Tryz.slices_Equal_string_lens A B T.length c U.length d w hl).mono ?_
    rintro e w' ⟨rfl, rfl⟩
    exact ⟨ret_bool (decide_eq_false (fun h => hl (by rw [h]))).symm, 0, rfl⟩
theorem all_len {T : List Str} {n : Nat} (h : T.length ≤ n) : (tab T).length ≤ n := Nat.le_trans (tab_len_le T) h
set_option maxHeartbeats 1000000 in
set_option maxRecDepth 100000 in
theorem rightWho (A : Option Addr) (c : Nat) (T : List Str) (w : World) (hL : T.length ≤ maxLen) (hs : ∀ s ∈ T, s.length ≤ maxLen) (hA : SRow w A T) :
    Calls Tryz.prog 76 #[.slice A T.length c] w fun e w' => e = .returned (.bool (whoOk T)) ∧ Below w.heap.size w w' := by
  have hL' : T.length ≤ 9223372036854775807 := hL
  unfold whoOk
  by_cases h12 : T.length ≤ 12
  · have H := Lib.hid (containsFn A c T w (by omega) hs hA)
    have HA := Lib.hid hA
    have d0 : decide ((T.length : Int) ≤ 12) = true := by simp; omega
    rw [decide_eq_true h12, Bool.true_and]
    clear hA
    cases hp : T.all prinS
    · rw [hp] at H
      clear hp
      go_enter Tryz.func76, Tryz.ntmps76
      go_wp2_with (go_at_call 131; refine H.out.mono ?_; rintro e w' ⟨rfl, rfl⟩)
      go_ret
      exact ⟨rfl, Below.refl _ _⟩
    · rw [hp] at H
      have HN := Lib.hid (new A c T w (by omega) HA.out)
      have HT := Lib.hid (tab_len_le T)
      clear hp
      go_enter Tryz.func76, Tryz.ntmps76
      go_wp2_with (first | (go_at_call 131; refine H.out.mono ?_; rintro e w' ⟨rfl, rfl⟩) | (go_at_call 61; refine HN.out.mono ?_))
      rintro e w1 ⟨p, rfl, ⟨t, v, rfl, ht, hh, hown⟩, hb1⟩
      obtain ⟨A1, c1, rfl, _, hr1⟩ := SRow.of_own hown
      have hcell : w1.cell? ⟨t, 0, none⟩ = some (.slice A1 (tab T).length c1) := by rw [Lib.cell_of_heap hh]; rfl
      have HAL := Lib.hid (all t A1 (tab T) c1 w1 hcell (by have := HT.out; omega) hr1)
      clear hown hr1 hh hcell
      go_wp2_with (go_at_call 62; refine HAL.out.mono ?_)
      rintro e w2 ⟨v2, rfl, hown2, hb2⟩
      obtain ⟨A2, c2, rfl, _, hr2⟩ := SRow.of_own hown2
      have hb := hb1.trans (hb2.mono hb1.size)
      have HE := Lib.hid (equalS A A2 c c2 T (tab T) w2 (by omega) (by have := HT.out; omega) (HA.out.keep hb) hr2)
      generalize hd : decide (T = tab T) = dd at *
      have HD := Lib.hid hd
      clear hown2 hr2 hd
      go_wp2_with (go_at_call 91; refine HE.out.mono ?_)
      rintro e w3 ⟨rfl, n, rfl⟩
      go_wp2_with fail
      go_ret
      exact ⟨ret_bool (by rw [Bool.true_and]; exact HD.out.symm), below_drewN hb _⟩
  · have d0 : decide ((T.length : Int) ≤ 12) = false := by simp; omega
    rw [decide_eq_false h12, Bool.false_and]
    clear hA
    go_enter Tryz.func76, Tryz.ntmps76
    go_wp2_with fail
    go_ret
    exact ⟨rfl, Below.refl _ _⟩
end Go.Proofs.YtkmpbkgmdfeicaaGreat.Qry1
/- Which queries are right, as the program tells it, by contract. -/
namespace Go.Proofs.YtkmpbkgmdfeicaaGreat.Qry2
set_option linter.unusedVariables false
set_option linter.unusedSimpArgs false
open Go.RowKit Go.Sort Go.Proofs Go.Proofs.YtkmpbkgmdfeicaaGreat.Plain Go.Proofs.YtkmpbkgmdfeicaaGreat.SynP Go.Proofs.YtkmpbkgmdfeicaaGreat.TabP Go.Proofs.YtkmpbkgmdfeicaaGreat.Tab1 Go.Proofs.YtkmpbkgmdfeicaaGreat.Grown Go.Proofs.YtkmpbkgmdfeicaaGreat.SynE Go.Proofs.YtkmpbkgmdfeicaaGreat.Syn1 Go.Proofs.YtkmpbkgmdfeicaaGreat.QryP Go.Proofs.YtkmpbkgmdfeicaaGreat.Qry1
set_option linter.unusedVariables false
set_option linter.unusedSimpArgs false
theorem isRole' (o n : ByteArray) (w : World) (h1 : o.size ≤ maxLen) (h2 : n.size ≤ maxLen) : Calls Tryz.prog 73 #[.agg #[.string o, .string n]] w fun e w' => e = .returned (.bool (Rl.ok ⟨o, n⟩)) ∧ Grew w w' := isRole ⟨o, n⟩ w ⟨h1, h2⟩
theorem isRoleRef' (o n : ByteArray) (w : World) (h1 : o.size ≤ maxLen) (h2 : n.size ≤ maxLen) : Calls Tryz.prog 33 #[.agg #[.string o, .string n]] w fun e w' => e = .returned (.bool (Rl.ok ⟨o, n⟩)) ∧ Grew w w' := isRoleRef ⟨o, n⟩ w ⟨h1, h2⟩
theorem bcell {W w1 : World} (hb : Below W.heap.size W w1) : (∀ b o, b < W.heap.size → w1.cell? ⟨b, o, none⟩ = W.cell? ⟨b, o, none⟩) ∧ (∀ b o, b < W.heap.size → w1.frozen? ⟨b, o, none⟩ = W.frozen? ⟨b, o, none⟩) :=
  ⟨fun b o h => hb.cell (p := ⟨b, o, none⟩) h, fun b o h => hb.frozen (p := ⟨b, o, none⟩) h⟩
def RightPost (q : Qy) (w : World) (e : Ending) (w' : World) : Prop := e = .returned (.bool q.right) ∧ Below w.heap.size w w'
theorem right_k {k : Int} {a b : Rl} {T : List Str} {r : Bool} (h : Qy.right ⟨k, a, b, T⟩ = r) : Ending.returned (.bool r) = .returned (.bool (Qy.right ⟨k, a, b, T⟩)) := by rw [h]
set_option maxHeartbeats 1000000 in
set_option maxRecDepth 100000 in
theorem right (k : Int) (ao an bo bn : ByteArray) (A : Option Addr) (c : Nat) (T : List Str) (w : World) (hf : Qy.fit ⟨k, ⟨ao, an⟩, ⟨bo, bn⟩, T⟩) (hA : SRow w A T) :
    Calls Tryz.prog 31 #[.agg #[.int .i64 k, .string ao, .string an, .string bo, .string bn, .slice A T.length c]] w (RightPost ⟨k, ⟨ao, an⟩, ⟨bo, bn⟩, T⟩ w) := by
  obtain ⟨fa, fb, fT, fs⟩ := hf
  have HR := Lib.hid (fun w => isRole' ao an w fa.1 fa.2)
  have HB := Lib.hid (fun w => isRole' bo bn w fb.1 fb.2)
  have HW := Lib.hid (fun (w' : World) (hb : Below w.heap.size w w') => rightWho A c T w' fT fs (hA.keep hb))
  have fT' : T.length ≤ 9223372036854775807 := fT
  have hq := eqR bo bn ⟨#[]⟩ ⟨#[]⟩
  have hz : decide ((⟨bo, bn⟩ : Rl) = ⟨⟨#[]⟩, ⟨#[]⟩⟩) = decide ((⟨bo, bn⟩ : Rl) = zeroR) := rfl
  rw [hz] at hq
  cases ha : Rl.ok ⟨ao, an⟩
  · rw [ha] at HR
    have hr : Qy.right ⟨k, ⟨ao, an⟩, ⟨bo, bn⟩, T⟩ = false := by unfold Qy.right; rw [ha]; rfl
    have HF := Lib.hid hr
    clear ha hr hq hz hA fa fb fT fs
    go_enter Tryz.func31, Tryz.ntmps31
    go_wp2_with (go_at_call 73; refine (HR.out _).mono ?_; rintro e w1 ⟨rfl, hg⟩)
    go_ret
    exact ⟨right_k HF.out, ((Below.refl _ _).alloc (Nat.le_refl _) _).trans (hg.below.mono (by simp))⟩
  · rw [ha] at HR
    have hwk : ∃ b, whoOk T = b := ⟨_, rfl⟩
    obtain ⟨wk, hwk⟩ := hwk
    rw [hwk] at HW
    obtain ⟨bz, hbz⟩ : ∃ b, decide ((⟨bo, bn⟩ : Rl) = zeroR) = b := ⟨_, rfl⟩
    rw [hbz] at hq
    obtain ⟨br, hbr⟩ : ∃ b, Rl.ok ⟨bo, bn⟩ = b := ⟨_, rfl⟩
    rw [hbr] at HB
    have HQ := Lib.hid hq
    clear hz hA fa fb fT fs hq
    rcases kinds6 k with rfl | rfl | rfl | rfl | rfl | rfl | hk
    · rcases Nat.eq_zero_or_pos T.length with h0 | h0
      · obtain rfl : T = [] := List.eq_nil_of_length_eq_zero h0
        clear h0
        have HF : Hid (Qy.right ⟨1, ⟨ao, an⟩, ⟨bo, bn⟩, []⟩ = false) := Lib.hid (by unfold Qy.right; simp [ha, hwk, hbz, hbr])
        clear ha hwk hbz hbr
        go_enter Tryz.func31, Tryz.ntmps31
        go_wp2_with fail
        refine (HR.out _).mono ?_
        rintro e w1 ⟨rfl, hg⟩
        obtain ⟨hc1, hf1, hz1⟩ := hg.use
        have hz2 : w.heap.size < w1.heap.size := by rw [World.size_alloc] at hz1; omega
        have hb1 : Below w.heap.size w w1 := ((Below.refl _ _).alloc (Nat.le_refl _) _).trans (hg.below.mono (by simp))
        clear hg
        have hq := HQ.out
        go_wp2_with fail
        go_ret
        exact ⟨right_k HF.out, hb1⟩
      · cases wk
        · have HF : Hid (Qy.right ⟨1, ⟨ao, an⟩, ⟨bo, bn⟩, T⟩ = false) := Lib.hid (by unfold Qy.right; simp [ha, hwk, hbz, hbr, h0])
          clear ha hwk hbz hbr
          go_enter Tryz.func31, Tryz.ntmps31
          go_wp2_with fail
          refine (HR.out _).mono ?_
          rintro e w1 ⟨rfl, hg⟩
          obtain ⟨hc1, hf1, hz1⟩ := hg.use
          have hz2 : w.heap.size < w1.heap.size := by rw [World.size_alloc] at hz1; omega
          have hb1 : Below w.heap.size w w1 := ((Below.refl _ _).alloc (Nat.le_refl _) _).trans (hg.below.mono (by simp))
          clear hg
          have hq := HQ.out
          go_wp2_with fail
          refine (HW.out _ hb1).mono ?_
          rintro e w2 ⟨rfl, hb2⟩
          obtain ⟨hc2, hf2⟩ := bcell hb2
          have hbb := hb1.trans (hb2.mono hb1.size)
          clear hb2
          go_wp2_with fail
          go_ret
          exact ⟨right_k HF.out, hbb⟩
        · have HF : Hid (Qy.right ⟨1, ⟨ao, an⟩, ⟨bo, bn⟩, T⟩ = bz) := Lib.hid (by unfold Qy.right; simp [ha, hwk, hbz, hbr, h0])
          clear ha hwk hbz hbr
          go_enter Tryz.func31, Tryz.ntmps31
          go_wp2_with fail
          refine (HR.out _).mono ?_
          rintro e w1 ⟨rfl, hg⟩
          obtain ⟨hc1, hf1, hz1⟩ := hg.use
          have hz2 : w.heap.size < w1.heap.size := by rw [World.size_alloc] at hz1; omega
          have hb1 : Below w.heap.size w w1 := ((Below.refl _ _).alloc (Nat.le_refl _) _).trans (hg.below.mono (by simp))
          clear hg
          have hq := HQ.out
          go_wp2_with fail
          refine (HW.out _ hb1).mono ?_
          rintro e w2 ⟨rfl, hb2⟩
          obtain ⟨hc2, hf2⟩ := bcell hb2
          have hbb := hb1.trans (hb2.mono hb1.size)
          clear hb2
          go_wp2_with fail
          go_ret
          exact ⟨right_k HF.out, hbb⟩
    · rcases Nat.eq_zero_or_pos T.length with h0 | h0
      · obtain rfl : T = [] := List.eq_nil_of_length_eq_zero h0
        clear h0
        have HF : Hid (Qy.right ⟨2, ⟨ao, an⟩, ⟨bo, bn⟩, []⟩ = false) := Lib.hid (by unfold Qy.right; simp [ha, hwk, hbz, hbr])
        clear ha hwk hbz hbr
        go_enter Tryz.func31, Tryz.ntmps31
        go_wp2_with fail
        refine (HR.out _).mono ?_
        rintro e w1 ⟨rfl, hg⟩
        obtain ⟨hc1, hf1, hz1⟩ := hg.use
        have hz2 : w.heap.size < w1.heap.size := by rw [World.size_alloc] at hz1; omega
        have hb1 : Below w.heap.size w w1 := ((Below.refl _ _).alloc (Nat.le_refl _) _).trans (hg.below.mono (by simp))
        clear hg
        have hq := HQ.out
        go_wp2_with fail
        go_ret
        exact ⟨right_k HF.out, hb1⟩
      · cases wk
        · have HF : Hid (Qy.right ⟨2, ⟨ao, an⟩, ⟨bo, bn⟩, T⟩ = false) := Lib.hid (by unfold Qy.right; simp [ha, hwk, hbz, hbr, h0])
          clear ha hwk hbz hbr
          go_enter Tryz.func31, Tryz.ntmps31
          go_wp2_with fail
          refine (HR.out _).mono ?_
          rintro e w1 ⟨rfl, hg⟩
          obtain ⟨hc1, hf1, hz1⟩ := hg.use
          have hz2 : w.heap.size < w1.heap.size := by rw [World.size_alloc] at hz1; omega
          have hb1 : Below w.heap.size w w1 := ((Below.refl _ _).alloc (Nat.le_refl _) _).trans (hg.below.mono (by simp))
          clear hg
          have hq := HQ.out
          go_wp2_with fail
          refine (HW.out _ hb1).mono ?_
          rintro e w2 ⟨rfl, hb2⟩
          obtain ⟨hc2, hf2⟩ := bcell hb2
          have hbb := hb1.trans (hb2.mono hb1.size)
          clear hb2
          go_wp2_with fail
          go_ret
          exact ⟨right_k HF.out, hbb⟩
        · have HF : Hid (Qy.right ⟨2, ⟨ao, an⟩, ⟨bo, bn⟩, T⟩ = bz) := Lib.hid (by unfold Qy.right; simp [ha, hwk, hbz, hbr, h0])
          clear ha hwk hbz hbr
          go_enter Tryz.func31, Tryz.ntmps31
          go_wp2_with fail
          refine (HR.out _).mono ?_
          rintro e w1 ⟨rfl, hg⟩
          obtain ⟨hc1, hf1, hz1⟩ := hg.use
          have hz2 : w.heap.size < w1.heap.size := by rw [World.size_alloc] at hz1; omega
          have hb1 : Below w.heap.size w w1 := ((Below.refl _ _).alloc (Nat.le_refl _) _).trans (hg.below.mono (by simp))
          clear hg
          have hq := HQ.out
          go_wp2_with fail
          refine (HW.out _ hb1).mono ?_
          rintro e w2 ⟨rfl, hb2⟩
          obtain ⟨hc2, hf2⟩ := bcell hb2
          have hbb := hb1.trans (hb2.mono hb1.size)
          clear hb2
          go_wp2_with fail
          go_ret
          exact ⟨right_k HF.out, hbb⟩
    · cases wk
      · have HF : Hid (Qy.right ⟨3, ⟨ao, an⟩, ⟨bo, bn⟩, T⟩ = false) := Lib.hid (by unfold Qy.right; simp [ha, hwk, hbz, hbr])
        clear ha hwk hbz hbr
        go_enter Tryz.func31, Tryz.ntmps31
        go_wp2_with fail
        refine (HR.out _).mono ?_
        rintro e w1 ⟨rfl, hg⟩
        obtain ⟨hc1, hf1, hz1⟩ := hg.use
        have hz2 : w.heap.size < w1.heap.size := by rw [World.size_alloc] at hz1; omega
        have hb1 : Below w.heap.size w w1 := ((Below.refl _ _).alloc (Nat.le_refl _) _).trans (hg.below.mono (by simp))
        clear hg
        have hq := HQ.out
        go_wp2_with fail
        refine (HW.out _ hb1).mono ?_
        rintro e w2 ⟨rfl, hb2⟩
        obtain ⟨hc2, hf2⟩ := bcell hb2
        have hbb := hb1.trans (hb2.mono hb1.size)
        clear hb2
        go_wp2_with fail
        go_ret
        exact ⟨right_k HF.out, hbb⟩
      · have HF : Hid (Qy.right ⟨3, ⟨ao, an⟩, ⟨bo, bn⟩, T⟩ = bz) := Lib.hid (by unfold Qy.right; simp [ha, hwk, hbz, hbr])
        clear ha hwk hbz hbr
        go_enter Tryz.func31, Tryz.ntmps31
        go_wp2_with fail
        refine (HR.out _).mono ?_
        rintro e w1 ⟨rfl, hg⟩
        obtain ⟨hc1, hf1, hz1⟩ := hg.use
        have hz2 : w.heap.size < w1.heap.size := by rw [World.size_alloc] at hz1; omega
        have hb1 : Below w.heap.size w w1 := ((Below.refl _ _).alloc (Nat.le_refl _) _).trans (hg.below.mono (by simp))
        clear hg
        have hq := HQ.out
        go_wp2_with fail
        refine (HW.out _ hb1).mono ?_
        rintro e w2 ⟨rfl, hb2⟩
        obtain ⟨hc2, hf2⟩ := bcell hb2
        have hbb := hb1.trans (hb2.mono hb1.size)
        clear hb2
        go_wp2_with fail
        go_ret
        exact ⟨right_k HF.out, hbb⟩
    · rcases Nat.eq_zero_or_pos T.length with h0 | h0
      · obtain rfl : T = [] := List.eq_nil_of_length_eq_zero h0
        clear h0
        have HF : Hid (Qy.right ⟨4, ⟨ao, an⟩, ⟨bo, bn⟩, []⟩ = bz) := Lib.hid (by unfold Qy.right; simp [ha, hwk, hbz, hbr])
        clear ha hwk hbz hbr
        go_enter Tryz.func31, Tryz.ntmps31
        go_wp2_with fail
        refine (HR.out _).mono ?_
        rintro e w1 ⟨rfl, hg⟩
        obtain ⟨hc1, hf1, hz1⟩ := hg.use
        have hz2 : w.heap.size < w1.heap.size := by rw [World.size_alloc] at hz1; omega
        have hb1 : Below w.heap.size w w1 := ((Below.refl _ _).alloc (Nat.le_refl _) _).trans (hg.below.mono (by simp))
        clear hg
        have hq := HQ.out
        go_wp2_with fail
        go_ret
        exact ⟨right_k HF.out, hb1⟩
      · have hn : (T.length : Int) ≠ 0 := by omega
        have d0 : ((T.length : Int) == 0) = false := by simpa using hn
        have d1 : T.length ≠ 0 := by omega
        have HN := Lib.hid d1
        clear hn d1
        have HF : Hid (Qy.right ⟨4, ⟨ao, an⟩, ⟨bo, bn⟩, T⟩ = false) := Lib.hid (by unfold Qy.right; simp [ha, hwk, hbz, hbr, HN.out])
        clear ha hwk hbz hbr
        go_enter Tryz.func31, Tryz.ntmps31
        go_wp2_with fail
        refine (HR.out _).mono ?_
        rintro e w1 ⟨rfl, hg⟩
        obtain ⟨hc1, hf1, hz1⟩ := hg.use
        have hz2 : w.heap.size < w1.heap.size := by rw [World.size_alloc] at hz1; omega
        have hb1 : Below w.heap.size w w1 := ((Below.refl _ _).alloc (Nat.le_refl _) _).trans (hg.below.mono (by simp))
        clear hg
        have hq := HQ.out
        go_wp2_with fail
        go_ret
        exact ⟨right_k HF.out, hb1⟩
    · rcases Nat.eq_zero_or_pos T.length with h0 | h0
      · obtain rfl : T = [] := List.eq_nil_of_length_eq_zero h0
        clear h0
        have HF : Hid (Qy.right ⟨5, ⟨ao, an⟩, ⟨bo, bn⟩, []⟩ = br) := Lib.hid (by unfold Qy.right; simp [ha, hwk, hbz, hbr])
        clear ha hwk hbz hbr
        go_enter Tryz.func31, Tryz.ntmps31
        go_wp2_with fail
        refine (HR.out _).mono ?_
        rintro e w1 ⟨rfl, hg⟩
        obtain ⟨hc1, hf1, hz1⟩ := hg.use
        have hz2 : w.heap.size < w1.heap.size := by rw [World.size_alloc] at hz1; omega
        have hb1 : Below w.heap.size w w1 := ((Below.refl _ _).alloc (Nat.le_refl _) _).trans (hg.below.mono (by simp))
        clear hg
        have hq := HQ.out
        go_wp2_with fail
        refine (HB.out _).mono ?_
        rintro e w2 ⟨rfl, hg2⟩
        have hbb := hb1.trans (hg2.below.mono hb1.size)
        clear hg2
        go_wp2_with fail
        go_ret
        exact ⟨right_k HF.out, hbb⟩
      · have hn : (T.length : Int) ≠ 0 := by omega
        have d0 : ((T.length : Int) == 0) = false := by simpa using hn
        have d1 : T.length ≠ 0 := by omega
        have HN := Lib.hid d1
        clear hn d1
        have HF : Hid (Qy.right ⟨5, ⟨ao, an⟩, ⟨bo, bn⟩, T⟩ = false) := Lib.hid (by unfold Qy.right; simp [ha, hwk, hbz, hbr, HN.out])
        clear ha hwk hbz hbr
        go_enter Tryz.func31, Tryz.ntmps31
        go_wp2_with fail
        refine (HR.out _).mono ?_
        rintro e w1 ⟨rfl, hg⟩
        obtain ⟨hc1, hf1, hz1⟩ := hg.use
        have hz2 : w.heap.size < w1.heap.size := by rw [World.size_alloc] at hz1; omega
        have hb1 : Below w.heap.size w w1 := ((Below.refl _ _).alloc (Nat.le_refl _) _).trans (hg.below.mono (by simp))
        clear hg
        have hq := HQ.out
        go_wp2_with fail
        go_ret
        exact ⟨right_k HF.out, hb1⟩
    · rcases Nat.eq_zero_or_pos T.length with h0 | h0
      · obtain rfl : T = [] := List.eq_nil_of_length_eq_zero h0
        clear h0
        have HF : Hid (Qy.right ⟨6, ⟨ao, an⟩, ⟨bo, bn⟩, []⟩ = br) := Lib.hid (by unfold Qy.right; simp [ha, hwk, hbz, hbr])
        clear ha hwk hbz hbr
        go_enter Tryz.func31, Tryz.ntmps31
        go_wp2_with fail
        refine (HR.out _).mono ?_
        rintro e w1 ⟨rfl, hg⟩
        obtain ⟨hc1, hf1, hz1⟩ := hg.use
        have hz2 : w.heap.size < w1.heap.size := by rw [World.size_alloc] at hz1; omega
        have hb1 : Below w.heap.size w w1 := ((Below.refl _ _).alloc (Nat.le_refl _) _).trans (hg.below.mono (by simp))
        clear hg
        have hq := HQ.out
        go_wp2_with fail
        refine (HB.out _).mono ?_
        rintro e w2 ⟨rfl, hg2⟩
        have hbb := hb1.trans (hg2.below.mono hb1.size)
        clear hg2
        go_wp2_with fail
        go_ret
        exact ⟨right_k HF.out, hbb⟩
      · have hn : (T.length : Int) ≠ 0 := by omega
        have d0 : ((T.length : Int) == 0) = false := by simpa using hn
        have d1 : T.length ≠ 0 := by omega
        have HN := Lib.hid d1
        clear hn d1
        have HF : Hid (Qy.right ⟨6, ⟨ao, an⟩, ⟨bo, bn⟩, T⟩ = false) := Lib.hid (by unfold Qy.right; simp [ha, hwk, hbz, hbr, HN.out])
        clear ha hwk hbz hbr
        go_enter Tryz.func31, Tryz.ntmps31
        go_wp2_with fail
        refine (HR.out _).mono ?_
        rintro e w1 ⟨rfl, hg⟩
        obtain ⟨hc1, hf1, hz1⟩ := hg.use
        have hz2 : w.heap.size < w1.heap.size := by rw [World.size_alloc] at hz1; omega
        have hb1 : Below w.heap.size w w1 := ((Below.refl _ _).alloc (Nat.le_refl _) _).trans (hg.below.mono (by simp))
        clear hg
        have hq := HQ.out
        go_wp2_with fail
        go_ret
        exact ⟨right_k HF.out, hb1⟩
    · have e1 : (k == 1) = false := by simp; omega
      have e2 : (k == 2) = false := by simp; omega
      have e3 : (k == 3) = false := by simp; omega
      have e4 : (k == 4) = false := by simp; omega
      have e5 : (k == 5) = false := by simp; omega
      have e6 : (k == 6) = false := by simp; omega
      have HF : Hid (Qy.right ⟨k, ⟨ao, an⟩, ⟨bo, bn⟩, T⟩ = false) := Lib.hid (by
        unfold Qy.right
        rw [ha]
        simp only [Bool.true_and]
        rw [if_neg (show ¬ (k = 1 ∨ k = 2) by omega), if_neg (show ¬ k = 3 by omega), if_neg (show ¬ k = 4 by omega), if_neg (show ¬ (k = 5 ∨ k = 6) by omega)])
      clear ha hwk hbz hbr hk
      go_enter Tryz.func31, Tryz.ntmps31
      go_wp2_with fail
      refine (HR.out _).mono ?_
      rintro e w1 ⟨rfl, hg⟩
      obtain ⟨hc1, hf1, hz1⟩ := hg.use
      have hz2 : w.heap.size < w1.heap.size := by rw [World.size_alloc] at hz1; omega
      have hb1 : Below w.heap.size w w1 := ((Below.refl _ _).alloc (Nat.le_refl _) _).trans (hg.below.mono (by simp))
      clear hg
      have hq := HQ.out
      go_wp2_with fail
      go_ret
      exact ⟨right_k HF.out, hb1⟩
end Go.Proofs.YtkmpbkgmdfeicaaGreat.Qry2
/- What is asked by kind: Universal, Words and the rest, by contract. -/
namespace Go.Proofs.YtkmpbkgmdfeicaaGreat.Qry6
set_option linter.unusedVariables false
set_option linter.unusedSimpArgs false
open Go.RowKit Go.Sort Go.Proofs Go.Proofs.YtkmpbkgmdfeicaaGreat.Plain Go.Proofs.YtkmpbkgmdfeicaaGreat.SynP Go.Proofs.YtkmpbkgmdfeicaaGreat.TabP Go.Proofs.YtkmpbkgmdfeicaaGreat.Tab1 Go.Proofs.YtkmpbkgmdfeicaaGreat.Grown Go.Proofs.YtkmpbkgmdfeicaaGreat.SynA Go.Proofs.YtkmpbkgmdfeicaaGreat.SynC Go.Proofs.YtkmpbkgmdfeicaaGreat.QryP Go.Proofs.YtkmpbkgmdfeicaaGreat.Qry4 Go.Proofs.YtkmpbkgmdfeicaaGreat.Qry5 Go.Proofs.YtkmpbkgmdfeicaaGreat.QryG
set_option linter.unusedVariables false
set_option linter.unusedSimpArgs false
theorem srow_new (w : World) (T : List Str) (t : TypeId) : SRow (w.alloc (.cells (T.map encStr).toArray t)) (some ⟨w.heap.size, 0, none⟩) T := fun _ =>
  ⟨w.heap.size, 0, rfl, by simp, fun j hj => by
    rw [Lib.cell_of_heap (heap_alloc_new w _), Nat.zero_add]
    simp [hj]⟩
theorem others {k : Int} (h : k < 1 ∨ 6 < k) : (k == 1) = false ∧ (k == 2) = false ∧ (k == 3) = false ∧ (k == 4) = false ∧ (k == 5) = false ∧ (k == 6) = false := by
  refine ⟨?_, ?_, ?_, ?_, ?_, ?_⟩ <;> (simp; omega)
theorem universal (k : Int) (w : World) : Calls Tryz.prog 136 #[.int .i64 k] w fun e w' => e = .returned (.bool (univ k)) ∧ ∃ n, w' = w.drewN n := by
  rcases kinds6 k with rfl | rfl | rfl | rfl | rfl | rfl | hk
  · go_enter Tryz.func136, Tryz.ntmps136
    go_wp2
    go_ret
    exact ⟨rfl, 0, rfl⟩
  · go_enter Tryz.func136, Tryz.ntmps136
    go_wp2
    go_ret
    exact ⟨rfl, 0, rfl⟩
  · go_enter Tryz.func136, Tryz.ntmps136
    go_wp2
    go_ret
    exact ⟨rfl, 0, rfl⟩
  · go_enter Tryz.func136, Tryz.ntmps136
    go_wp2
    go_ret
    exact ⟨rfl, 0, rfl⟩
  · go_enter Tryz.func136, Tryz.ntmps136
    go_wp2
    go_ret
    exact ⟨rfl, 0, rfl⟩
  · go_enter Tryz.func136, Tryz.ntmps136
    go_wp2
    go_ret
    exact ⟨rfl, 0, rfl⟩
  · have hf : univ k = false := by unfold univ; exact decide_eq_false (by omega)
    obtain ⟨e1, e2, e3, e4, e5, e6⟩ := others hk
    rw [hf]
    clear hf hk
    go_enter Tryz.func136, Tryz.ntmps136
    go_wp2
    go_ret
    exact ⟨rfl, 0, rfl⟩
theorem universalRef (k : Int) (w : World) : Calls Tryz.prog 89 #[.int .i64 k] w fun e w' => e = .returned (.bool (univ k)) ∧ ∃ n, w' = w.drewN n := by
  rcases kinds6 k with rfl | rfl | rfl | rfl | rfl | rfl | hk
  · go_enter Tryz.func89, Tryz.ntmps89
    go_wp2
    go_ret
    exact ⟨rfl, 0, rfl⟩
  · go_enter Tryz.func89, Tryz.ntmps89
    go_wp2
    go_ret
    exact ⟨rfl, 0, rfl⟩
  · go_enter Tryz.func89, Tryz.ntmps89
    go_wp2
    go_ret
    exact ⟨rfl, 0, rfl⟩
  · go_enter Tryz.func89, Tryz.ntmps89
    go_wp2
    go_ret
    exact ⟨rfl, 0, rfl⟩
  · go_enter Tryz.func89, Tryz.ntmps89
    go_wp2
    go_ret
    exact ⟨rfl, 0, rfl⟩
  · go_enter Tryz.func89, Tryz.ntmps89
    go_wp2
    go_ret
    exact ⟨rfl, 0, rfl⟩
  · have hf : univ k = false := by unfold univ; exact decide_eq_false (by omega)
    obtain ⟨e1, e2, e3, e4, e5, e6⟩ := others hk
    rw [hf]
    clear hf hk
    go_enter Tryz.func89, Tryz.ntmps89
    go_wp2
    go_ret
    exact ⟨rfl, 0, rfl⟩
theorem hasB (k : Int) (w : World) : Calls Tryz.prog 88 #[.int .i64 k] w fun e w' => e = .returned (.bool (hasBk k)) ∧ ∃ n, w' = w.drewN n := by
  rcases kinds6 k with rfl | rfl | rfl | rfl | rfl | rfl | hk
  · go_enter Tryz.func88, Tryz.ntmps88
    go_wp2
    go_ret
    exact ⟨rfl, 0, rfl⟩
  · go_enter Tryz.func88, Tryz.ntmps88
    go_wp2
    go_ret
    exact ⟨rfl, 0, rfl⟩
  · go_enter Tryz.func88, Tryz.ntmps88
    go_wp2
    go_ret
    exact ⟨rfl, 0, rfl⟩
  · go_enter Tryz.func88, Tryz.ntmps88
    go_wp2
    go_ret
    exact ⟨rfl, 0, rfl⟩
  · go_enter Tryz.func88, Tryz.ntmps88
    go_wp2
    go_ret
    exact ⟨rfl, 0, rfl⟩
  · go_enter Tryz.func88, Tryz.ntmps88
    go_wp2
    go_ret
    exact ⟨rfl, 0, rfl⟩
  · have hf : hasBk k = false := by unfold hasBk; exact decide_eq_false (by omega)
    obtain ⟨e1, e2, e3, e4, e5, e6⟩ := others hk
    rw [hf]
    clear hf hk
    go_enter Tryz.func88, Tryz.ntmps88
    go_wp2
    go_ret
    exact ⟨rfl, 0, rfl⟩
theorem hasWho (k : Int) (w : World) : Calls Tryz.prog 238 #[.int .i64 k] w fun e w' => e = .returned (.bool (hasWk k)) ∧ ∃ n, w' = w.drewN n := by
  rcases kinds6 k with rfl | rfl | rfl | rfl | rfl | rfl | hk
  · go_enter Tryz.func238, Tryz.ntmps238
    go_wp2
    go_ret
    exact ⟨rfl, 0, rfl⟩
  · go_enter Tryz.func238, Tryz.ntmps238
    go_wp2
    go_ret
    exact ⟨rfl, 0, rfl⟩
  · go_enter Tryz.func238, Tryz.ntmps238
    go_wp2
    go_ret
    exact ⟨rfl, 0, rfl⟩
  · go_enter Tryz.func238, Tryz.ntmps238
    go_wp2
    go_ret
    exact ⟨rfl, 0, rfl⟩
  · go_enter Tryz.func238, Tryz.ntmps238
    go_wp2
    go_ret
    exact ⟨rfl, 0, rfl⟩
  · go_enter Tryz.func238, Tryz.ntmps238
    go_wp2
    go_ret
    exact ⟨rfl, 0, rfl⟩
  · have hf : hasWk k = false := by unfold hasWk; exact decide_eq_false (by omega)
    obtain ⟨e1, e2, e3, e4, e5, e6⟩ := others hk
    rw [hf]
    clear hf hk
    go_enter Tryz.func238, Tryz.ntmps238
    go_wp2
    go_ret
    exact ⟨rfl, 0, rfl⟩
theorem lead (k : Int) (w : World) : Calls Tryz.prog 86 #[.int .i64 k] w fun e w' => e = .returned (.string (leadT k)) ∧ ∃ n, w' = w.drewN n := by
  have H := Lib.hid (universal k w)
  unfold leadT
  cases hu : univ k
  all_goals
    rw [hu] at H
    clear hu
    go_enter Tryz.func86, Tryz.ntmps86
    go_wp2_with (go_at_call 136; refine H.out.mono ?_; rintro e w1 ⟨rfl, n, rfl⟩)
    go_ret
    exact ⟨rfl, n, rfl⟩
def WordsPost (k : Int) (w : World) (e : Ending) (w' : World) : Prop := ∃ A c, e = .returned (.slice A (wordsL k).length c) ∧ SRow w' A (wordsL k) ∧ Grew w w'
set_option maxRecDepth 100000 in
theorem words_ (k : Int) (ao an bo bn : ByteArray) (A : Option Addr) (n c : Nat) (w : World) : Calls Tryz.prog 87 #[.agg #[.int .i64 k, .string ao, .string an, .string bo, .string bn, .slice A n c]] w (WordsPost k w) := by
  rcases kinds6 k with rfl | rfl | rfl | rfl | rfl | rfl | hk
  · go_enter Tryz.func87, Tryz.ntmps87
    go_wp2
    go_ret
    have h := srow_new (w.alloc (.cells #[.int .i64 1, .string ao, .string an, .string bo, .string bn, .slice A n c] 49)) (wordsL 1) 9
    rw [World.size_alloc] at h
    exact ⟨_, _, rfl, h, ((Grew.refl _).alloc _).alloc _⟩
  · go_enter Tryz.func87, Tryz.ntmps87
    go_wp2
    go_ret
    have h := srow_new (w.alloc (.cells #[.int .i64 2, .string ao, .string an, .string bo, .string bn, .slice A n c] 49)) (wordsL 2) 9
    rw [World.size_alloc] at h
    exact ⟨_, _, rfl, h, ((Grew.refl _).alloc _).alloc _⟩
  · go_enter Tryz.func87, Tryz.ntmps87
    go_wp2
    go_ret
    have h := srow_new (w.alloc (.cells #[.int .i64 3, .string ao, .string an, .string bo, .string bn, .slice A n c] 49)) (wordsL 3) 9
    rw [World.size_alloc] at h
    exact ⟨_, _, rfl, h, ((Grew.refl _).alloc _).alloc _⟩
  · go_enter Tryz.func87, Tryz.ntmps87
    go_wp2
    go_ret
    have h := srow_new (w.alloc (.cells #[.int .i64 4, .string ao, .string an, .string bo, .string bn, .slice A n c] 49)) (wordsL 4) 9
    rw [World.size_alloc] at h
    exact ⟨_, _, rfl, h, ((Grew.refl _).alloc _).alloc _⟩
  · go_enter Tryz.func87, Tryz.ntmps87
    go_wp2
    go_ret
    have h := srow_new (w.alloc (.cells #[.int .i64 5, .string ao, .string an, .string bo, .string bn, .slice A n c] 49)) (wordsL 5) 9
    rw [World.size_alloc] at h
    exact ⟨_, _, rfl, h, ((Grew.refl _).alloc _).alloc _⟩
  · go_enter Tryz.func87, Tryz.ntmps87
    go_wp2
    go_ret
    have h := srow_new (w.alloc (.cells #[.int .i64 6, .string ao, .string an, .string bo, .string bn, .slice A n c] 49)) (wordsL 6) 9
    rw [World.size_alloc] at h
    exact ⟨_, _, rfl, h, ((Grew.refl _).alloc _).alloc _⟩
  · have hf : wordsL k = [] := by
      unfold wordsL
      rw [if_neg (by omega), if_neg (by omega), if_neg (by omega), if_neg (by omega), if_neg (by omega), if_neg (by omega)]
    obtain ⟨e1, e2, e3, e4, e5, e6⟩ := others hk
    unfold WordsPost
    rw [hf]
    clear hf hk
    go_enter Tryz.func87, Tryz.ntmps87
    go_wp2
    go_ret
    exact ⟨none, 0, rfl, (fun h => by simp at h), (Grew.refl _).alloc _⟩
end Go.Proofs.YtkmpbkgmdfeicaaGreat.Qry6
/- What fits the places of the lines of a kind, by contract. -/
namespace Go.Proofs.YtkmpbkgmdfeicaaGreat.Qry7
set_option linter.unusedVariables false
set_option linter.unusedSimpArgs false
open Go.RowKit Go.Sort Go.Proofs Go.Proofs.YtkmpbkgmdfeicaaGreat.Plain Go.Proofs.YtkmpbkgmdfeicaaGreat.SynP Go.Proofs.YtkmpbkgmdfeicaaGreat.TabP Go.Proofs.YtkmpbkgmdfeicaaGreat.Tab1 Go.Proofs.YtkmpbkgmdfeicaaGreat.Grown Go.Proofs.YtkmpbkgmdfeicaaGreat.SynA Go.Proofs.YtkmpbkgmdfeicaaGreat.SynC Go.Proofs.YtkmpbkgmdfeicaaGreat.QryP Go.Proofs.YtkmpbkgmdfeicaaGreat.Qry4 Go.Proofs.YtkmpbkgmdfeicaaGreat.Qry5 Go.Proofs.YtkmpbkgmdfeicaaGreat.QryG Go.Proofs.YtkmpbkgmdfeicaaGreat.Qry6
set_option linter.unusedVariables false
set_option linter.unusedSimpArgs false
def leadS (k : Int) : Str := if univ k then [97, 108, 119, 97, 121, 115] else [99, 97, 110]
theorem leadT_S (k : Int) : leadT k = ⟨(leadS k).toArray⟩ := by
  unfold leadT leadS; split <;> rfl
def roleF : List Ft := [.kind 1, .kind 3, .kind 2]
def shapeF (k : Int) : List Ft := [.word (leadS k)] ++ roleF ++ (wordsL k).map .word ++ (if hasBk k then roleF else [])
theorem iat_new (w : World) (l : List Int) (t : TypeId) : IAt (w.alloc (.cells (l.map (Value.int .i64)).toArray t)) (some ⟨w.heap.size, 0, none⟩) l := fun _ =>
  ⟨w.heap.size, 0, rfl, by simp, fun k hk => by
    rw [Lib.cell_of_heap (heap_alloc_new w _), Nat.zero_add]
    simp [hk]⟩
theorem keepQ {W w1 w2 : World} {n : Nat} {f : Nat → Option Value} (h : RowKit.Below W.heap.size W w1 ∧ (∀ o, w1.cell? ⟨n, o, none⟩ = f o)) (hn : n < W.heap.size) (hb : RowKit.Below w1.heap.size w1 w2) : RowKit.Below W.heap.size W w2 ∧ (∀ o, w2.cell? ⟨n, o, none⟩ = f o) := by
  have hs := h.1.size
  exact ⟨h.1.trans (hb.mono hs), fun o => (hb.cell (p := ⟨n, o, none⟩) (by show n < _; omega)).trans (h.2 o)⟩
theorem keepA {W w1 : World} {n : Nat} {f : Nat → Option Value} {o' : Obj} (h : RowKit.Below W.heap.size W w1 ∧ (∀ o, w1.cell? ⟨n, o, none⟩ = f o)) (hn : n < W.heap.size) : RowKit.Below W.heap.size W (w1.alloc o') ∧ (∀ o, (w1.alloc o').cell? ⟨n, o, none⟩ = f o) :=
  keepQ h hn ((Below.refl _ _).alloc (Nat.le_refl _) _)
theorem srow_one (X : World) (s : Str) : SRow (X.alloc (.cells #[.string ⟨s.toArray⟩] 9)) (some ⟨X.heap.size, 0, none⟩) [s] := srow_new X [s] _
theorem wordsOne (s : Str) (X : World) (n : Nat) (hn : n = X.heap.size) : Calls Tryz.prog 152 #[.slice (some ⟨n, 0, none⟩) 1 1] (X.alloc (.cells #[.string ⟨s.toArray⟩] 9)) (FitsPost [.word s] (X.alloc (.cells #[.string ⟨s.toArray⟩] 9))) := by
  subst hn
  exact words _ 1 [s] _ (by simp) (srow_one X s)
/-- Three rows of functions behind one another. -/
theorem concat3 (X : World) (n : Nat) (hn : n = X.heap.size) (A0 A1 A3 : Option Addr) (c0 c1 c3 : Nat) (m0 m1 m3 : Nat) (v0 v1 v3 : List Value) (F0 F1 F3 : List Ft) (h0 : FnsAt X v0 F0) (h1 : FnsAt X v1 F1) (h3 : FnsAt X v3 F3) (e0 : F0.length = m0) (e1 : F1.length = m1) (e3 : F3.length = m3) (b0 : m0 ≤ 1000) (b1 : m1 ≤ 1000) (b3 : m3 ≤ 1000) (r0 : VRow X A0 v0) (r1 : VRow X A1 v1) (r3 : VRow X A3 v3) :
    Calls Tryz.prog 250 #[.slice (some ⟨n, 0, none⟩) 3 3] (X.alloc (.cells #[.slice A0 m0 c0, .slice A1 m1 c1, .slice A3 m3 c3] 156)) fun e w' => ∃ v, e = .returned v ∧ w'.ownsRow (X.alloc (.cells #[.slice A0 m0 c0, .slice A1 m1 c1, .slice A3 m3 c3] 156)).heap.size 199 1 v (F0 ++ F1 ++ F3).length (v0 ++ v1 ++ v3) ∧ FnsAt w' (v0 ++ v1 ++ v3) (F0 ++ F1 ++ F3) ∧ Below (X.alloc (.cells #[.slice A0 m0 c0, .slice A1 m1 c1, .slice A3 m3 c3] 156)).heap.size (X.alloc (.cells #[.slice A0 m0 c0, .slice A1 m1 c1, .slice A3 m3 c3] 156)) w' := by
  subst hn
  have one : ∀ v F, FnsAt X v F → ∀ u ∈ v, u.oneCell' = true := fun v F h u hu => by
    obtain ⟨j, hj, rfl⟩ := List.getElem_of_mem hu
    have hj2 : j < F.length := by rw [← h.1]; exact hj
    have q := h.2 j v[j] F[j] (List.getElem?_eq_getElem hj) (List.getElem?_eq_getElem hj2)
    generalize F[j] = f at q
    cases f with
    | word s => obtain ⟨b, _, e⟩ := q; rw [e]; rfl
    | kind s => obtain ⟨b, _, e⟩ := q; rw [e]; rfl
  have l0 : v0.length = m0 := h0.1.trans e0
  have l1 : v1.length = m1 := h1.1.trans e1
  have l3 : v3.length = m3 := h3.1.trans e3
  have hq := concatFit X.heap.size 3 [⟨A0, c0, v0⟩, ⟨A1, c1, v1⟩, ⟨A3, c3, v3⟩] (X.alloc (.cells #[.slice A0 m0 c0, .slice A1 m1 c1, .slice A3 m3 c3] 156)) (by simp) (by simp only [List.mem_cons, List.not_mem_nil, or_false]; rintro r (rfl | rfl | rfl) <;> (dsimp only; omega)) (by simp) (fun j hj => by
    rw [Lib.cell_of_heap (heap_alloc_new X _)]
    match j, hj with
    | 0, _ => show some (Value.slice A0 m0 c0) = some (.slice A0 v0.length c0); rw [l0]
    | 1, _ => show some (Value.slice A1 m1 c1) = some (.slice A1 v1.length c1); rw [l1]
    | 2, _ => show some (Value.slice A3 m3 c3) = some (.slice A3 v3.length c3); rw [l3]) (by
    simp only [List.mem_cons, List.not_mem_nil, or_false]
    rintro r (rfl | rfl | rfl)
    · exact QryG.VRow.alloc r0 _
    · exact QryG.VRow.alloc r1 _
    · exact QryG.VRow.alloc r3 _) (by
    simp only [List.mem_cons, List.not_mem_nil, or_false]
    rintro r (rfl | rfl | rfl)
    · exact one _ _ h0
    · exact one _ _ h1
    · exact one _ _ h3)
  refine hq.mono ?_
  rintro e w' ⟨v, rfl, hown, hb⟩
  have hfl : flatTo [⟨A0, c0, v0⟩, ⟨A1, c1, v1⟩, ⟨A3, c3, v3⟩] ([⟨A0, c0, v0⟩, ⟨A1, c1, v1⟩, ⟨A3, c3, v3⟩] : List RowV).length = v0 ++ v1 ++ v3 := by simp [flatTo]
  rw [hfl] at hown
  have hfn : FnsAt X (v0 ++ v1 ++ v3) (F0 ++ F1 ++ F3) := (h0.app h1).app h3
  refine ⟨v, rfl, ?_, ?_, hb⟩
  · rw [← hfn.1]; exact hown
  · exact hfn.keep (keep_below (((Below.refl X.heap.size X).alloc (Nat.le_refl _) _).trans (hb.mono (by simp))))
theorem own_more {w : World} {B B' : Nat} {e : TypeId} {size n : Nat} {v : Value} {xs : List Value} (h : w.ownsRow B e size v n xs) (hB : B' ≤ B) : w.ownsRow B' e size v n xs := by
  refine ⟨h.1, ?_⟩
  rcases h.2 with hn | ⟨g, cap, cur, rfl, hb, rest⟩
  · exact .inl hn
  · exact .inr ⟨g, cap, cur, rfl, by omega, rest⟩
theorem fns_one {X : World} {v : List Value} {F : List Ft} (h : FnsAt X v F) : ∀ u ∈ v, u.oneCell' = true := fun u hu => by
  obtain ⟨j, hj, rfl⟩ := List.getElem_of_mem hu
  have hj2 : j < F.length := by rw [← h.1]; exact hj
  have q := h.2 j v[j] F[j] (List.getElem?_eq_getElem hj) (List.getElem?_eq_getElem hj2)
  generalize F[j] = f at q
  cases f with
  | word s => obtain ⟨b, _, e⟩ := q; rw [e]; rfl
  | kind s => obtain ⟨b, _, e⟩ := q; rw [e]; rfl
theorem chain {w1 wz wa wb wc : World} {o : Obj} (hz : RowKit.Below w1.drew.heap.size w1.drew wz) (h1 : RowKit.Below (wz.alloc o).heap.size (wz.alloc o) wa) (h2 : RowKit.Below wa.heap.size wa wb) (h3 : RowKit.Below wb.heap.size wb wc) : RowKit.Below w1.heap.size w1 wc ∧ RowKit.Below wa.heap.size wa wc := by
  have a : RowKit.Below wa.heap.size wa wc := h2.trans (h3.mono h2.size)
  have b : RowKit.Below w1.heap.size w1 wz := ((Below.refl w1.heap.size w1).drew).trans hz
  have c : RowKit.Below w1.heap.size w1 wa := (b.alloc b.size o).trans (h1.mono (by have := b.size; simp; omega))
  exact ⟨c.trans (a.mono c.size), a⟩
set_option maxHeartbeats 2000000 in
set_option maxRecDepth 100000 in
theorem shape (k : Int) (ao an bo bn : ByteArray) (A : Option Addr) (n c : Nat) (w : World) : Calls Tryz.prog 237 #[.agg #[.int .i64 k, .string ao, .string an, .string bo, .string bn, .slice A n c]] w (FitsPost (shapeF k) w) := by
  obtain ⟨i0, hi0, hz0, hz1, hz2⟩ := info_parts infoFit
  have hk1 := iat_new (w.alloc (.cells #[.int .i64 k, .string ao, .string an, .string bo, .string bn, .slice A n c] 49)) [1, 3, 2] 3
  rw [World.size_alloc] at hk1
  have HK := Lib.hid (kinds _ 3 [1, 3, 2] _ (by simp) hk1)
  have HL := Lib.hid (lead k)
  have HW := Lib.hid (words_ k ao an bo bn A n c)
  have HB := Lib.hid (hasB k)
  clear hk1
  go_enter Tryz.func237, Tryz.ntmps237
  go_wp2_with fail
  refine HK.out.mono ?_
  rintro e w1 ⟨v1, vs1, rfl, hown1, hfn1, hb1⟩
  obtain ⟨A1, c1, rfl, hle1, hr1⟩ := VRow.of_own hown1
  have hbox : ∀ o, w1.cell? ⟨w.heap.size, o, none⟩ = (#[.int .i64 k, .string ao, .string an, .string bo, .string bn, .slice A n c] : Array Value)[o]? := fun o => (hb1.cell (p := ⟨w.heap.size, o, none⟩) (by simp; omega)).trans ((World.cell?_alloc_past _ _ _ (by simp)).trans (Lib.cell_of_heap (heap_alloc_new w _) o))
  have c0 := hbox 0
  have c1' := hbox 1
  have c2 := hbox 2
  have c3 := hbox 3
  have c4 := hbox 4
  have c5 := hbox 5
  simp only [List.getElem?_toArray, List.getElem?_cons_zero, List.getElem?_cons_succ] at c0 c1' c2 c3 c4 c5
  have hbw := Lib.hid ((((Below.refl w.heap.size w).alloc (Nat.le_refl _) (.cells #[.int .i64 k, .string ao, .string an, .string bo, .string bn, .slice A n c] 49)).alloc (by simp) (.cells #[.int .i64 1, .int .i64 3, .int .i64 2] 3)).trans (hb1.mono (by simp; omega)))
  have hz1' := hb1.size
  simp only [World.size_alloc] at hz1'
  have hzz : w.heap.size < w1.heap.size := by omega
  have HO1 := Lib.hid hown1
  have HF1 := Lib.hid hfn1
  have HR1 := Lib.hid hr1
  have HBX := Lib.hid hbox
  clear hbox hown1 hfn1 hr1 hb1
  go_wp2_with fail
  have HL' : Hid (∀ w', Calls Tryz.prog 86 #[.int .i64 k] w' fun e w'' => e = .returned (.string ⟨(leadS k).toArray⟩) ∧ RowKit.Below w'.heap.size w' w'') := Lib.hid (fun w' => (HL.out w').mono fun e w'' ⟨he, m, hm⟩ => ⟨by rw [he, leadT_S], by rw [hm]; exact below_drewN (Below.refl _ _) _⟩)
  have hst : RowKit.Below w1.heap.size w1 w1.drew ∧ (∀ o, w1.drew.cell? ⟨w.heap.size, o, none⟩ = (#[.int .i64 k, .string ao, .string an, .string bo, .string bn, .slice A n c] : Array Value)[o]?) := ⟨(Below.refl _ _).drew, HBX.out⟩
  have hwl : (wordsL k).length ≤ 1000 := by unfold wordsL; (repeat' split) <;> decide
  have HWL := Lib.hid hwl
  clear c0 c1' c2 c3 c4 c5 HL hwl
  go_region_held3 (fun w' => RowKit.Below w1.heap.size w1 w' ∧ (∀ o, w'.cell? ⟨w.heap.size, o, none⟩ = (#[.int .i64 k, .string ao, .string an, .string bo, .string bn, .slice A n c] : Array Value)[o]?))
    (first | with_reducible exact hst | with_reducible assumption | exact keepQ (by with_reducible assumption) hzz (by with_reducible assumption) | exact keepA (by with_reducible assumption) hzz)
    (first | (go_at_call 86; refine (HL'.out _).mono ?_; rintro e wz ⟨rfl, hgbz⟩) | (go_at_call 152; (with_reducible refine (wordsOne (leadS k) _ _ rfl).mono ?_); rintro e wa ⟨v0, vs0, rfl, hown0, hfn0, hgb1⟩; obtain ⟨A0, c0, rfl, _, hr0⟩ := VRow.of_own hown0; clear hown0) | (go_at_call 87; refine (HW.out _).mono ?_; rintro e wb ⟨Ab, cb, rfl, hrb, hg⟩; have hgb2 := hg.below; clear hg) | (go_at_call 152; refine (words Ab cb (wordsL k) _ HWL.out hrb).mono ?_; rintro e wc ⟨v3, vs3, rfl, hown3, hfn3, hgb3⟩; obtain ⟨A3, c3, rfl, _, hr3⟩ := VRow.of_own hown3; clear hown3) | (go_at_call 250; obtain ⟨q1, q2⟩ := chain hgbz hgb1 hgb2 hgb3; refine (concat3 wc _ rfl A0 A1 A3 c0 c1 c3 1 3 (wordsL k).length vs0 vs1 vs3 [.word (leadS k)] roleF ((wordsL k).map .word) (hfn0.keep (keep_below q2)) (HF1.out.keep (keep_below q1)) hfn3 rfl rfl (List.length_map ..) (by decide) (by decide) HWL.out (hr0.below q2) (HR1.out.below q1) hr3).mono ?_; rintro e wd ⟨v4, rfl, hown4, hfn4, hgb4⟩))
  rename_i hHeld
  have hbd := Lib.hid (hbw.out.trans (hHeld.1.mono (by omega)))
  have hsd := Lib.hid hHeld.1
  have c0 := hHeld.2 0
  simp only [List.getElem?_toArray, List.getElem?_cons_zero] at c0
  have hownD := Lib.hid (own_more hown4 (show w.heap.size ≤ _ by
    have a1 := q1.size
    simp; omega))
  have hfnD := Lib.hid hfn4
  have hr1D := Lib.hid (HR1.out.below hsd.out)
  have hf1D := Lib.hid (HF1.out.keep (keep_below hsd.out))
  have hzd : w.heap.size ≤ wd.heap.size := hbd.out.size
  clear hown4 hfn4 hHeld hgbz hgb1 hgb2 hgb3 hgb4 q1 q2 hrb hr0 hr3 hfn0 hfn3 hst HBX HR1 HF1 HO1 HW
  cases hbk : hasBk k
  · rw [hbk] at HB
    have hsh : Hid (shapeF k = [.word (leadS k)] ++ roleF ++ (wordsL k).map .word) := Lib.hid (by unfold shapeF; rw [hbk]; simp)
    clear hbk
    go_wp2_with fail
    refine (HB.out _).mono ?_
    rintro e we ⟨rfl, m, rfl⟩
    go_wp2_with fail
    go_ret
    refine ⟨v4, vs0 ++ vs1 ++ vs3, rfl, ?_, ?_, below_drewN hbd.out _⟩
    · rw [hsh.out]; exact hownD.out
    · rw [hsh.out]; exact hfnD.out
  · rw [hbk] at HB
    have hsh : Hid (shapeF k = ([.word (leadS k)] ++ roleF ++ (wordsL k).map .word) ++ roleF) := Lib.hid (by unfold shapeF; rw [hbk]; simp)
    have hl1 := hf1D.out.1
    have hone := Lib.hid (fns_one hf1D.out)
    have hlen : ([Ft.word (leadS k)] ++ roleF ++ (wordsL k).map Ft.word).length ≤ 1004 := by
      have := HWL.out
      simp [roleF]; omega
    have hvc := Lib.hid (vrow_cells hr1D.out)
    have hvn : Hid (A1 = none → False) := Lib.hid (fun h => by have q := hr1D.out; rw [h] at q; have q2 := vrow_none q; rw [hl1] at q2; exact absurd q2 (by decide))
    clear hbk
    go_wp2_with fail
    refine (HB.out _).mono ?_
    rintro e we ⟨rfl, m, rfl⟩
    go_wp2_with (at_builtin; refine wpList_append_from _ rfl _ _ 156 rfl w.heap.size 199 i0 .nilFunc 1 8 Tryz.underlying156 hi0 hz0 hz1 hz2 rfl (by decide) v4 _ (vs0 ++ vs1 ++ vs3) rfl hownD.out A1 3 c1 vs1 rfl (by rw [hl1]; rfl) (fun h => (hvn.out h).elim) hvc.out hone.out (by unfold maxLen; omega) (by omega) hzd ?_)
    intro v5 w5 hown5 hgrow5
    have hownE : (wd.drewN m).ownsRow w.heap.size 199 1 v4 _ (vs0 ++ vs1 ++ vs3) := hownD.out
    have hfn5 := Lib.hid (((hfnD.out.app hf1D.out).keep (w' := wd.drewN m) (fun b c e h _ => h)).keep (keep_grown hownE hgrow5))
    have hb5 := (below_drewN hbd.out m).grown hgrow5 hzd (fun q hq => (hownD.out.lt q hq).1)
    go_wp2_with fail
    go_ret
    refine ⟨v5, vs0 ++ vs1 ++ vs3 ++ vs1, rfl, ?_, ?_, hb5⟩
    · have e : ([Ft.word (leadS k)] ++ roleF ++ (wordsL k).map Ft.word ++ roleF).length = roleF.length + (wordsL k).length + 1 + 3 := by simp [roleF]; omega
      rw [hsh.out, e]; simp only [List.append_assoc]; exact hown5
    · rw [hsh.out]; exact hfn5.out
end Go.Proofs.YtkmpbkgmdfeicaaGreat.Qry7
