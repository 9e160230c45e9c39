/- Which statements are right, and their normal form, in the program and in the document's answers. -/
import Derived.Test.YtcbbffpalpieaaaGreatM07
import Derived.Test.YtcbbffpalpieaaaGreatM05
namespace Go.Proofs.YtcbbffpalpieaaaGreat.Syn4
set_option linter.unusedVariables false
set_option linter.unusedSimpArgs false
open Go.RowKit Go.Sort Go.Proofs Go.Proofs.YtcbbffpalpieaaaGreat.Plain Go.Proofs.YtcbbffpalpieaaaGreat.SynP Go.Proofs.YtcbbffpalpieaaaGreat.Named Go.Proofs.YtcbbffpalpieaaaGreat.RefN Go.Proofs.YtcbbffpalpieaaaGreat.Grown Go.Proofs.YtcbbffpalpieaaaGreat.Syn1 Go.Proofs.YtcbbffpalpieaaaGreat.Syn2 Go.Proofs.YtcbbffpalpieaaaGreat.Syn3
theorem kinds (k : Int) : k = 1 ∨ k = 2 ∨ k = 3 ∨ k = 4 ∨ (k ≠ 1 ∧ k ≠ 2 ∧ k ≠ 3 ∧ k ≠ 4) := by omega
theorem isRole' (o n : ByteArray) (w : World) (h1 : o.size ≤ maxLen) (h2 : n.size ≤ maxLen) : Calls Tryz.prog 27 #[.agg #[.string o, .string n]] w fun e w' => e = .returned (.bool (Rl.ok ⟨o, n⟩)) ∧ Grew w w' := isRole ⟨o, n⟩ w ⟨h1, h2⟩
theorem isRoleRef' (o n : ByteArray) (w : World) (h1 : o.size ≤ maxLen) (h2 : n.size ≤ maxLen) : Calls Tryz.prog 29 #[.agg #[.string o, .string n]] w fun e w' => e = .returned (.bool (Rl.ok ⟨o, n⟩)) ∧ Grew w w' := isRoleRef ⟨o, n⟩ w ⟨h1, h2⟩
end Go.Proofs.YtcbbffpalpieaaaGreat.Syn4
/- Which queries are right, as the program tells it, by contract. -/
namespace Go.Proofs.YtcbbffpalpieaaaGreat.Qry2
set_option linter.unusedVariables false
set_option linter.unusedSimpArgs false
open Go.RowKit Go.Sort Go.Proofs Go.Proofs.YtcbbffpalpieaaaGreat.Plain Go.Proofs.YtcbbffpalpieaaaGreat.SynP Go.Proofs.YtcbbffpalpieaaaGreat.TabP Go.Proofs.YtcbbffpalpieaaaGreat.Tab1 Go.Proofs.YtcbbffpalpieaaaGreat.Grown Go.Proofs.YtcbbffpalpieaaaGreat.SynE Go.Proofs.YtcbbffpalpieaaaGreat.Syn1 Go.Proofs.YtcbbffpalpieaaaGreat.QryP Go.Proofs.YtcbbffpalpieaaaGreat.Qry1
set_option linter.unusedVariables false
set_option linter.unusedSimpArgs false
theorem isRole' (o n : ByteArray) (w : World) (h1 : o.size ≤ maxLen) (h2 : n.size ≤ maxLen) : Calls Tryz.prog 27 #[.agg #[.string o, .string n]] w fun e w' => e = .returned (.bool (Rl.ok ⟨o, n⟩)) ∧ Grew w w' := isRole ⟨o, n⟩ w ⟨h1, h2⟩
theorem isRoleRef' (o n : ByteArray) (w : World) (h1 : o.size ≤ maxLen) (h2 : n.size ≤ maxLen) : Calls Tryz.prog 29 #[.agg #[.string o, .string n]] w fun e w' => e = .returned (.bool (Rl.ok ⟨o, n⟩)) ∧ Grew w w' := isRoleRef ⟨o, n⟩ w ⟨h1, h2⟩
theorem bcell {W w1 : World} (hb : Below W.heap.size W w1) : (∀ b o, b < W.heap.size → w1.cell? ⟨b, o, none⟩ = W.cell? ⟨b, o, none⟩) ∧ (∀ b o, b < W.heap.size → w1.frozen? ⟨b, o, none⟩ = W.frozen? ⟨b, o, none⟩) :=
  ⟨fun b o h => hb.cell (p := ⟨b, o, none⟩) h, fun b o h => hb.frozen (p := ⟨b, o, none⟩) h⟩
def RightPost (q : Qy) (w : World) (e : Ending) (w' : World) : Prop := e = .returned (.bool q.right) ∧ Below w.heap.size w w'
theorem right_k {k : Int} {a b : Rl} {T : List Str} {r : Bool} (h : Qy.right ⟨k, a, b, T⟩ = r) : Ending.returned (.bool r) = .returned (.bool (Qy.right ⟨k, a, b, T⟩)) := by rw [h]
set_option maxHeartbeats 1000000 in
set_option maxRecDepth 100000 in
theorem right (k : Int) (ao an bo bn : ByteArray) (A : Option Addr) (c : Nat) (T : List Str) (w : World) (hf : Qy.fit ⟨k, ⟨ao, an⟩, ⟨bo, bn⟩, T⟩) (hA : SRow w A T) :
    Calls Tryz.prog 9 #[.agg #[.int .i64 k, .string ao, .string an, .string bo, .string bn, .slice A T.length c]] w (RightPost ⟨k, ⟨ao, an⟩, ⟨bo, bn⟩, T⟩ w) := by
  obtain ⟨fa, fb, fT, fs⟩ := hf
  have HR := Lib.hid (fun w => isRole' ao an w fa.1 fa.2)
  have HB := Lib.hid (fun w => isRole' bo bn w fb.1 fb.2)
  have HW := Lib.hid (fun (w' : World) (hb : Below w.heap.size w w') => rightWho A c T w' fT fs (hA.keep hb))
  have fT' : T.length ≤ 9223372036854775807 := fT
  have hq := eqR bo bn ⟨#[]⟩ ⟨#[]⟩
  have hz : decide ((⟨bo, bn⟩ : Rl) = ⟨⟨#[]⟩, ⟨#[]⟩⟩) = decide ((⟨bo, bn⟩ : Rl) = zeroR) := rfl
  rw [hz] at hq
  cases ha : Rl.ok ⟨ao, an⟩
  · rw [ha] at HR
    have hr : Qy.right ⟨k, ⟨ao, an⟩, ⟨bo, bn⟩, T⟩ = false := by unfold Qy.right; rw [ha]; rfl
    have HF := Lib.hid hr
    clear ha hr hq hz hA fa fb fT fs
    go_enter Tryz.func9, Tryz.ntmps9
    go_wp2_with (go_at_call 27; refine (HR.out _).mono ?_; rintro e w1 ⟨rfl, hg⟩)
    go_ret
    exact ⟨right_k HF.out, ((Below.refl _ _).alloc (Nat.le_refl _) _).trans (hg.below.mono (by simp))⟩
  · rw [ha] at HR
    have hwk : ∃ b, whoOk T = b := ⟨_, rfl⟩
    obtain ⟨wk, hwk⟩ := hwk
    rw [hwk] at HW
    obtain ⟨bz, hbz⟩ : ∃ b, decide ((⟨bo, bn⟩ : Rl) = zeroR) = b := ⟨_, rfl⟩
    rw [hbz] at hq
    obtain ⟨br, hbr⟩ : ∃ b, Rl.ok ⟨bo, bn⟩ = b := ⟨_, rfl⟩
    rw [hbr] at HB
    have HQ := Lib.hid hq
    clear hz hA fa fb fT fs hq
    rcases kinds6 k with rfl | rfl | rfl | rfl | rfl | rfl | hk
    · rcases Nat.eq_zero_or_pos T.length with h0 | h0
      · obtain rfl : T = [] := List.eq_nil_of_length_eq_zero h0
        clear h0
        have HF : Hid (Qy.right ⟨1, ⟨ao, an⟩, ⟨bo, bn⟩, []⟩ = false) := Lib.hid (by unfold Qy.right; simp [ha, hwk, hbz, hbr])
        clear ha hwk hbz hbr
        go_enter Tryz.func9, Tryz.ntmps9
        go_wp2_with fail
        refine (HR.out _).mono ?_
        rintro e w1 ⟨rfl, hg⟩
        obtain ⟨hc1, hf1, hz1⟩ := hg.use
        have hz2 : w.heap.size < w1.heap.size := by rw [World.size_alloc] at hz1; omega
        have hb1 : Below w.heap.size w w1 := ((Below.refl _ _).alloc (Nat.le_refl _) _).trans (hg.below.mono (by simp))
        clear hg
        have hq := HQ.out
        go_wp2_with fail
        go_ret
        exact ⟨right_k HF.out, hb1⟩
      · cases wk
        · have HF : Hid (Qy.right ⟨1, ⟨ao, an⟩, ⟨bo, bn⟩, T⟩ = false) := Lib.hid (by unfold Qy.right; simp [ha, hwk, hbz, hbr, h0])
          clear ha hwk hbz hbr
          go_enter Tryz.func9, Tryz.ntmps9
          go_wp2_with fail
          refine (HR.out _).mono ?_
          rintro e w1 ⟨rfl, hg⟩
          obtain ⟨hc1, hf1, hz1⟩ := hg.use
          have hz2 : w.heap.size < w1.heap.size := by rw [World.size_alloc] at hz1; omega
          have hb1 : Below w.heap.size w w1 := ((Below.refl _ _).alloc (Nat.le_refl _) _).trans (hg.below.mono (by simp))
          clear hg
          have hq := HQ.out
          go_wp2_with fail
          refine (HW.out _ hb1).mono ?_
          rintro e w2 ⟨rfl, hb2⟩
          obtain ⟨hc2, hf2⟩ := bcell hb2
          have hbb := hb1.trans (hb2.mono hb1.size)
          clear hb2
          go_wp2_with fail
          go_ret
          exact ⟨right_k HF.out, hbb⟩
        · have HF : Hid (Qy.right ⟨1, ⟨ao, an⟩, ⟨bo, bn⟩, T⟩ = bz) := Lib.hid (by unfold Qy.right; simp [ha, hwk, hbz, hbr, h0])
          clear ha hwk hbz hbr
          go_enter Tryz.func9, Tryz.ntmps9
          go_wp2_with fail
          refine (HR.out _).mono ?_
          rintro e w1 ⟨rfl, hg⟩
          obtain ⟨hc1, hf1, hz1⟩ := hg.use
          have hz2 : w.heap.size < w1.heap.size := by rw [World.size_alloc] at hz1; omega
          have hb1 : Below w.heap.size w w1 := ((Below.refl _ _).alloc (Nat.le_refl _) _).trans (hg.below.mono (by simp))
          clear hg
          have hq := HQ.out
          go_wp2_with fail
          refine (HW.out _ hb1).mono ?_
          rintro e w2 ⟨rfl, hb2⟩
          obtain ⟨hc2, hf2⟩ := bcell hb2
          have hbb := hb1.trans (hb2.mono hb1.size)
          clear hb2
          go_wp2_with fail
          go_ret
          exact ⟨right_k HF.out, hbb⟩
    · rcases Nat.eq_zero_or_pos T.length with h0 | h0
      · obtain rfl : T = [] := List.eq_nil_of_length_eq_zero h0
        clear h0
        have HF : Hid (Qy.right ⟨2, ⟨ao, an⟩, ⟨bo, bn⟩, []⟩ = false) := Lib.hid (by unfold Qy.right; simp [ha, hwk, hbz, hbr])
        clear ha hwk hbz hbr
        go_enter Tryz.func9, Tryz.ntmps9
        go_wp2_with fail
        refine (HR.out _).mono ?_
        rintro e w1 ⟨rfl, hg⟩
        obtain ⟨hc1, hf1, hz1⟩ := hg.use
        have hz2 : w.heap.size < w1.heap.size := by rw [World.size_alloc] at hz1; omega
        have hb1 : Below w.heap.size w w1 := ((Below.refl _ _).alloc (Nat.le_refl _) _).trans (hg.below.mono (by simp))
        clear hg
        have hq := HQ.out
        go_wp2_with fail
        go_ret
        exact ⟨right_k HF.out, hb1⟩
      · cases wk
        · have HF : Hid (Qy.right ⟨2, ⟨ao, an⟩, ⟨bo, bn⟩, T⟩ = false) := Lib.hid (by unfold Qy.right; simp [ha, hwk, hbz, hbr, h0])
          clear ha hwk hbz hbr
          go_enter Tryz.func9, Tryz.ntmps9
          go_wp2_with fail
          refine (HR.out _).mono ?_
          rintro e w1 ⟨rfl, hg⟩
          obtain ⟨hc1, hf1, hz1⟩ := hg.use
          have hz2 : w.heap.size < w1.heap.size := by rw [World.size_alloc] at hz1; omega
          have hb1 : Below w.heap.size w w1 := ((Below.refl _ _).alloc (Nat.le_refl _) _).trans (hg.below.mono (by simp))
          clear hg
          have hq := HQ.out
          go_wp2_with fail
          refine (HW.out _ hb1).mono ?_
          rintro e w2 ⟨rfl, hb2⟩
          obtain ⟨hc2, hf2⟩ := bcell hb2
          have hbb := hb1.trans (hb2.mono hb1.size)
          clear hb2
          go_wp2_with fail
          go_ret
          exact ⟨right_k HF.out, hbb⟩
        · have HF : Hid (Qy.right ⟨2, ⟨ao, an⟩, ⟨bo, bn⟩, T⟩ = bz) := Lib.hid (by unfold Qy.right; simp [ha, hwk, hbz, hbr, h0])
          clear ha hwk hbz hbr
          go_enter Tryz.func9, Tryz.ntmps9
          go_wp2_with fail
          refine (HR.out _).mono ?_
          rintro e w1 ⟨rfl, hg⟩
          obtain ⟨hc1, hf1, hz1⟩ := hg.use
          have hz2 : w.heap.size < w1.heap.size := by rw [World.size_alloc] at hz1; omega
          have hb1 : Below w.heap.size w w1 := ((Below.refl _ _).alloc (Nat.le_refl _) _).trans (hg.below.mono (by simp))
          clear hg
          have hq := HQ.out
          go_wp2_with fail
          refine (HW.out _ hb1).mono ?_
          rintro e w2 ⟨rfl, hb2⟩
          obtain ⟨hc2, hf2⟩ := bcell hb2
          have hbb := hb1.trans (hb2.mono hb1.size)
          clear hb2
          go_wp2_with fail
          go_ret
          exact ⟨right_k HF.out, hbb⟩
    · cases wk
      · have HF : Hid (Qy.right ⟨3, ⟨ao, an⟩, ⟨bo, bn⟩, T⟩ = false) := Lib.hid (by unfold Qy.right; simp [ha, hwk, hbz, hbr])
        clear ha hwk hbz hbr
        go_enter Tryz.func9, Tryz.ntmps9
        go_wp2_with fail
        refine (HR.out _).mono ?_
        rintro e w1 ⟨rfl, hg⟩
        obtain ⟨hc1, hf1, hz1⟩ := hg.use
        have hz2 : w.heap.size < w1.heap.size := by rw [World.size_alloc] at hz1; omega
        have hb1 : Below w.heap.size w w1 := ((Below.refl _ _).alloc (Nat.le_refl _) _).trans (hg.below.mono (by simp))
        clear hg
        have hq := HQ.out
        go_wp2_with fail
        refine (HW.out _ hb1).mono ?_
        rintro e w2 ⟨rfl, hb2⟩
        obtain ⟨hc2, hf2⟩ := bcell hb2
        have hbb := hb1.trans (hb2.mono hb1.size)
        clear hb2
        go_wp2_with fail
        go_ret
        exact ⟨right_k HF.out, hbb⟩
      · have HF : Hid (Qy.right ⟨3, ⟨ao, an⟩, ⟨bo, bn⟩, T⟩ = bz) := Lib.hid (by unfold Qy.right; simp [ha, hwk, hbz, hbr])
        clear ha hwk hbz hbr
        go_enter Tryz.func9, Tryz.ntmps9
        go_wp2_with fail
        refine (HR.out _).mono ?_
        rintro e w1 ⟨rfl, hg⟩
        obtain ⟨hc1, hf1, hz1⟩ := hg.use
        have hz2 : w.heap.size < w1.heap.size := by rw [World.size_alloc] at hz1; omega
        have hb1 : Below w.heap.size w w1 := ((Below.refl _ _).alloc (Nat.le_refl _) _).trans (hg.below.mono (by simp))
        clear hg
        have hq := HQ.out
        go_wp2_with fail
        refine (HW.out _ hb1).mono ?_
        rintro e w2 ⟨rfl, hb2⟩
        obtain ⟨hc2, hf2⟩ := bcell hb2
        have hbb := hb1.trans (hb2.mono hb1.size)
        clear hb2
        go_wp2_with fail
        go_ret
        exact ⟨right_k HF.out, hbb⟩
    · rcases Nat.eq_zero_or_pos T.length with h0 | h0
      · obtain rfl : T = [] := List.eq_nil_of_length_eq_zero h0
        clear h0
        have HF : Hid (Qy.right ⟨4, ⟨ao, an⟩, ⟨bo, bn⟩, []⟩ = bz) := Lib.hid (by unfold Qy.right; simp [ha, hwk, hbz, hbr])
        clear ha hwk hbz hbr
        go_enter Tryz.func9, Tryz.ntmps9
        go_wp2_with fail
        refine (HR.out _).mono ?_
        rintro e w1 ⟨rfl, hg⟩
        obtain ⟨hc1, hf1, hz1⟩ := hg.use
        have hz2 : w.heap.size < w1.heap.size := by rw [World.size_alloc] at hz1; omega
        have hb1 : Below w.heap.size w w1 := ((Below.refl _ _).alloc (Nat.le_refl _) _).trans (hg.below.mono (by simp))
        clear hg
        have hq := HQ.out
        go_wp2_with fail
        go_ret
        exact ⟨right_k HF.out, hb1⟩
      · have hn : (T.length : Int) ≠ 0 := by omega
        have d0 : ((T.length : Int) == 0) = false := by simpa using hn
        have d1 : T.length ≠ 0 := by omega
        have HN := Lib.hid d1
        clear hn d1
        have HF : Hid (Qy.right ⟨4, ⟨ao, an⟩, ⟨bo, bn⟩, T⟩ = false) := Lib.hid (by unfold Qy.right; simp [ha, hwk, hbz, hbr, HN.out])
        clear ha hwk hbz hbr
        go_enter Tryz.func9, Tryz.ntmps9
        go_wp2_with fail
        refine (HR.out _).mono ?_
        rintro e w1 ⟨rfl, hg⟩
        obtain ⟨hc1, hf1, hz1⟩ := hg.use
        have hz2 : w.heap.size < w1.heap.size := by rw [World.size_alloc] at hz1; omega
        have hb1 : Below w.heap.size w w1 := ((Below.refl _ _).alloc (Nat.le_refl _) _).trans (hg.below.mono (by simp))
        clear hg
        have hq := HQ.out
        go_wp2_with fail
        go_ret
        exact ⟨right_k HF.out, hb1⟩
    · rcases Nat.eq_zero_or_pos T.length with h0 | h0
      · obtain rfl : T = [] := List.eq_nil_of_length_eq_zero h0
        clear h0
        have HF : Hid (Qy.right ⟨5, ⟨ao, an⟩, ⟨bo, bn⟩, []⟩ = br) := Lib.hid (by unfold Qy.right; simp [ha, hwk, hbz, hbr])
        clear ha hwk hbz hbr
        go_enter Tryz.func9, Tryz.ntmps9
        go_wp2_with fail
        refine (HR.out _).mono ?_
        rintro e w1 ⟨rfl, hg⟩
        obtain ⟨hc1, hf1, hz1⟩ := hg.use
        have hz2 : w.heap.size < w1.heap.size := by rw [World.size_alloc] at hz1; omega
        have hb1 : Below w.heap.size w w1 := ((Below.refl _ _).alloc (Nat.le_refl _) _).trans (hg.below.mono (by simp))
        clear hg
        have hq := HQ.out
        go_wp2_with fail
        refine (HB.out _).mono ?_
        rintro e w2 ⟨rfl, hg2⟩
        have hbb := hb1.trans (hg2.below.mono hb1.size)
        clear hg2
        go_wp2_with fail
        go_ret
        exact ⟨right_k HF.out, hbb⟩
      · have hn : (T.length : Int) ≠ 0 := by omega
        have d0 : ((T.length : Int) == 0) = false := by simpa using hn
        have d1 : T.length ≠ 0 := by omega
        have HN := Lib.hid d1
        clear hn d1
        have HF : Hid (Qy.right ⟨5, ⟨ao, an⟩, ⟨bo, bn⟩, T⟩ = false) := Lib.hid (by unfold Qy.right; simp [ha, hwk, hbz, hbr, HN.out])
        clear ha hwk hbz hbr
        go_enter Tryz.func9, Tryz.ntmps9
        go_wp2_with fail
        refine (HR.out _).mono ?_
        rintro e w1 ⟨rfl, hg⟩
        obtain ⟨hc1, hf1, hz1⟩ := hg.use
        have hz2 : w.heap.size < w1.heap.size := by rw [World.size_alloc] at hz1; omega
        have hb1 : Below w.heap.size w w1 := ((Below.refl _ _).alloc (Nat.le_refl _) _).trans (hg.below.mono (by simp))
        clear hg
        have hq := HQ.out
        go_wp2_with fail
        go_ret
        exact ⟨right_k HF.out, hb1⟩
    · rcases Nat.eq_zero_or_pos T.length with h0 | h0
      · obtain rfl : T = [] := List.eq_nil_of_length_eq_zero h0
        clear h0
        have HF : Hid (Qy.right ⟨6, ⟨ao, an⟩, ⟨bo, bn⟩, []⟩ = br) := Lib.hid (by unfold Qy.right; simp [ha, hwk, hbz, hbr])
        clear ha hwk hbz hbr
        go_enter Tryz.func9, Tryz.ntmps9
        go_wp2_with fail
        refine (HR.out _).mono ?_
        rintro e w1 ⟨rfl, hg⟩
        obtain ⟨hc1, hf1, hz1⟩ := hg.use
        have hz2 : w.heap.size < w1.heap.size := by rw [World.size_alloc] at hz1; omega
        have hb1 : Below w.heap.size w w1 := ((Below.refl _ _).alloc (Nat.le_refl _) _).trans (hg.below.mono (by simp))
        clear hg
        have hq := HQ.out
        go_wp2_with fail
        refine (HB.out _).mono ?_
        rintro e w2 ⟨rfl, hg2⟩
        have hbb := hb1.trans (hg2.below.mono hb1.size)
        clear hg2
        go_wp2_with fail
        go_ret
        exact ⟨right_k HF.out, hbb⟩
      · have hn : (T.length : Int) ≠ 0 := by omega
        have d0 : ((T.length : Int) == 0) = false := by simpa using hn
        have d1 : T.length ≠ 0 := by omega
        have HN := Lib.hid d1
        clear hn d1
        have HF : Hid (Qy.right ⟨6, ⟨ao, an⟩, ⟨bo, bn⟩, T⟩ = false) := Lib.hid (by unfold Qy.right; simp [ha, hwk, hbz, hbr, HN.out])
        clear ha hwk hbz hbr
        go_enter Tryz.func9, Tryz.ntmps9
        go_wp2_with fail
        refine (HR.out _).mono ?_
        rintro e w1 ⟨rfl, hg⟩
        obtain ⟨hc1, hf1, hz1⟩ := hg.use
        have hz2 : w.heap.size < w1.heap.size := by rw [World.size_alloc] at hz1; omega
        have hb1 : Below w.heap.size w w1 := ((Below.refl _ _).alloc (Nat.le_refl _) _).trans (hg.below.mono (by simp))
        clear hg
        have hq := HQ.out
        go_wp2_with fail
        go_ret
        exact ⟨right_k HF.out, hb1⟩
    · have e1 : (k == 1) = false := by simp; omega
      have e2 : (k == 2) = false := by simp; omega
      have e3 : (k == 3) = false := by simp; omega
      have e4 : (k == 4) = false := by simp; omega
      have e5 : (k == 5) = false := by simp; omega
      have e6 : (k == 6) = false := by simp; omega
      have HF : Hid (Qy.right ⟨k, ⟨ao, an⟩, ⟨bo, bn⟩, T⟩ = false) := Lib.hid (by
        unfold Qy.right
        rw [ha]
        simp only [Bool.true_and]
        rw [if_neg (show ¬ (k = 1 ∨ k = 2) by omega), if_neg (show ¬ k = 3 by omega), if_neg (show ¬ k = 4 by omega), if_neg (show ¬ (k = 5 ∨ k = 6) by omega)])
      clear ha hwk hbz hbr hk
      go_enter Tryz.func9, Tryz.ntmps9
      go_wp2_with fail
      refine (HR.out _).mono ?_
      rintro e w1 ⟨rfl, hg⟩
      obtain ⟨hc1, hf1, hz1⟩ := hg.use
      have hz2 : w.heap.size < w1.heap.size := by rw [World.size_alloc] at hz1; omega
      have hb1 : Below w.heap.size w w1 := ((Below.refl _ _).alloc (Nat.le_refl _) _).trans (hg.below.mono (by simp))
      clear hg
      have hq := HQ.out
      go_wp2_with fail
      go_ret
      exact ⟨right_k HF.out, hb1⟩
end Go.Proofs.YtcbbffpalpieaaaGreat.Qry2
/- What is asked by kind: Universal, Words and the rest, by contract. -/
namespace Go.Proofs.YtcbbffpalpieaaaGreat.Qry6
set_option linter.unusedVariables false
set_option linter.unusedSimpArgs false
open Go.RowKit Go.Sort Go.Proofs Go.Proofs.YtcbbffpalpieaaaGreat.Plain Go.Proofs.YtcbbffpalpieaaaGreat.SynP Go.Proofs.YtcbbffpalpieaaaGreat.TabP Go.Proofs.YtcbbffpalpieaaaGreat.Tab1 Go.Proofs.YtcbbffpalpieaaaGreat.Grown Go.Proofs.YtcbbffpalpieaaaGreat.SynA Go.Proofs.YtcbbffpalpieaaaGreat.SynC Go.Proofs.YtcbbffpalpieaaaGreat.QryP Go.Proofs.YtcbbffpalpieaaaGreat.Qry4 Go.Proofs.YtcbbffpalpieaaaGreat.Qry5 Go.Proofs.YtcbbffpalpieaaaGreat.QryG
set_option linter.unusedVariables false
set_option linter.unusedSimpArgs false
theorem srow_new (w : World) (T : List Str) (t : TypeId) : SRow (w.alloc (.cells (T.map encStr).toArray t)) (some ⟨w.heap.size, 0, none⟩) T := fun _ =>
  ⟨w.heap.size, 0, rfl, by simp, fun j hj => by
    rw [Lib.cell_of_heap (heap_alloc_new w _), Nat.zero_add]
    simp [hj]⟩
theorem others {k : Int} (h : k < 1 ∨ 6 < k) : (k == 1) = false ∧ (k == 2) = false ∧ (k == 3) = false ∧ (k == 4) = false ∧ (k == 5) = false ∧ (k == 6) = false := by
  refine ⟨?_, ?_, ?_, ?_, ?_, ?_⟩ <;> (simp; omega)
theorem universal (k : Int) (w : World) : Calls Tryz.prog 11 #[.int .i64 k] w fun e w' => e = .returned (.bool (univ k)) ∧ ∃ n, w' = w.drewN n := by
  rcases kinds6 k with rfl | rfl | rfl | rfl | rfl | rfl | hk
  · go_enter Tryz.func11, Tryz.ntmps11
    go_wp2
    go_ret
    exact ⟨rfl, 0, rfl⟩
  · go_enter Tryz.func11, Tryz.ntmps11
    go_wp2
    go_ret
    exact ⟨rfl, 0, rfl⟩
  · go_enter Tryz.func11, Tryz.ntmps11
    go_wp2
    go_ret
    exact ⟨rfl, 0, rfl⟩
  · go_enter Tryz.func11, Tryz.ntmps11
    go_wp2
    go_ret
    exact ⟨rfl, 0, rfl⟩
  · go_enter Tryz.func11, Tryz.ntmps11
    go_wp2
    go_ret
    exact ⟨rfl, 0, rfl⟩
  · go_enter Tryz.func11, Tryz.ntmps11
    go_wp2
    go_ret
    exact ⟨rfl, 0, rfl⟩
  · have hf : univ k = false := by unfold univ; exact decide_eq_false (by omega)
    obtain ⟨e1, e2, e3, e4, e5, e6⟩ := others hk
    rw [hf]
    clear hf hk
    go_enter Tryz.func11, Tryz.ntmps11
    go_wp2
    go_ret
    exact ⟨rfl, 0, rfl⟩
theorem universalRef (k : Int) (w : World) : Calls Tryz.prog 12 #[.int .i64 k] w fun e w' => e = .returned (.bool (univ k)) ∧ ∃ n, w' = w.drewN n := by
  rcases kinds6 k with rfl | rfl | rfl | rfl | rfl | rfl | hk
  · go_enter Tryz.func12, Tryz.ntmps12
    go_wp2
    go_ret
    exact ⟨rfl, 0, rfl⟩
  · go_enter Tryz.func12, Tryz.ntmps12
    go_wp2
    go_ret
    exact ⟨rfl, 0, rfl⟩
  · go_enter Tryz.func12, Tryz.ntmps12
    go_wp2
    go_ret
    exact ⟨rfl, 0, rfl⟩
  · go_enter Tryz.func12, Tryz.ntmps12
    go_wp2
    go_ret
    exact ⟨rfl, 0, rfl⟩
  · go_enter Tryz.func12, Tryz.ntmps12
    go_wp2
    go_ret
    exact ⟨rfl, 0, rfl⟩
  · go_enter Tryz.func12, Tryz.ntmps12
    go_wp2
    go_ret
    exact ⟨rfl, 0, rfl⟩
  · have hf : univ k = false := by unfold univ; exact decide_eq_false (by omega)
    obtain ⟨e1, e2, e3, e4, e5, e6⟩ := others hk
    rw [hf]
    clear hf hk
    go_enter Tryz.func12, Tryz.ntmps12
    go_wp2
    go_ret
    exact ⟨rfl, 0, rfl⟩
theorem hasB (k : Int) (w : World) : Calls Tryz.prog 34 #[.int .i64 k] w fun e w' => e = .returned (.bool (hasBk k)) ∧ ∃ n, w' = w.drewN n := by
  rcases kinds6 k with rfl | rfl | rfl | rfl | rfl | rfl | hk
  · go_enter Tryz.func34, Tryz.ntmps34
    go_wp2
    go_ret
    exact ⟨rfl, 0, rfl⟩
  · go_enter Tryz.func34, Tryz.ntmps34
    go_wp2
    go_ret
    exact ⟨rfl, 0, rfl⟩
  · go_enter Tryz.func34, Tryz.ntmps34
    go_wp2
    go_ret
    exact ⟨rfl, 0, rfl⟩
  · go_enter Tryz.func34, Tryz.ntmps34
    go_wp2
    go_ret
    exact ⟨rfl, 0, rfl⟩
  · go_enter Tryz.func34, Tryz.ntmps34
    go_wp2
    go_ret
    exact ⟨rfl, 0, rfl⟩
  · go_enter Tryz.func34, Tryz.ntmps34
    go_wp2
    go_ret
    exact ⟨rfl, 0, rfl⟩
  · have hf : hasBk k = false := by unfold hasBk; exact decide_eq_false (by omega)
    obtain ⟨e1, e2, e3, e4, e5, e6⟩ := others hk
    rw [hf]
    clear hf hk
    go_enter Tryz.func34, Tryz.ntmps34
    go_wp2
    go_ret
    exact ⟨rfl, 0, rfl⟩
theorem hasWho (k : Int) (w : World) : Calls Tryz.prog 68 #[.int .i64 k] w fun e w' => e = .returned (.bool (hasWk k)) ∧ ∃ n, w' = w.drewN n := by
  rcases kinds6 k with rfl | rfl | rfl | rfl | rfl | rfl | hk
  · go_enter Tryz.func68, Tryz.ntmps68
    go_wp2
    go_ret
    exact ⟨rfl, 0, rfl⟩
  · go_enter Tryz.func68, Tryz.ntmps68
    go_wp2
    go_ret
    exact ⟨rfl, 0, rfl⟩
  · go_enter Tryz.func68, Tryz.ntmps68
    go_wp2
    go_ret
    exact ⟨rfl, 0, rfl⟩
  · go_enter Tryz.func68, Tryz.ntmps68
    go_wp2
    go_ret
    exact ⟨rfl, 0, rfl⟩
  · go_enter Tryz.func68, Tryz.ntmps68
    go_wp2
    go_ret
    exact ⟨rfl, 0, rfl⟩
  · go_enter Tryz.func68, Tryz.ntmps68
    go_wp2
    go_ret
    exact ⟨rfl, 0, rfl⟩
  · have hf : hasWk k = false := by unfold hasWk; exact decide_eq_false (by omega)
    obtain ⟨e1, e2, e3, e4, e5, e6⟩ := others hk
    rw [hf]
    clear hf hk
    go_enter Tryz.func68, Tryz.ntmps68
    go_wp2
    go_ret
    exact ⟨rfl, 0, rfl⟩
theorem lead (k : Int) (w : World) : Calls Tryz.prog 32 #[.int .i64 k] w fun e w' => e = .returned (.string (leadT k)) ∧ ∃ n, w' = w.drewN n := by
  have H := Lib.hid (universal k w)
  unfold leadT
  cases hu : univ k
  all_goals
    rw [hu] at H
    clear hu
    go_enter Tryz.func32, Tryz.ntmps32
    go_wp2_with (go_at_call 11; refine H.out.mono ?_; rintro e w1 ⟨rfl, n, rfl⟩)
    go_ret
    exact ⟨rfl, n, rfl⟩
def WordsPost (k : Int) (w : World) (e : Ending) (w' : World) : Prop := ∃ A c, e = .returned (.slice A (wordsL k).length c) ∧ SRow w' A (wordsL k) ∧ Grew w w'
set_option maxRecDepth 100000 in
theorem words_ (k : Int) (ao an bo bn : ByteArray) (A : Option Addr) (n c : Nat) (w : World) : Calls Tryz.prog 8 #[.agg #[.int .i64 k, .string ao, .string an, .string bo, .string bn, .slice A n c]] w (WordsPost k w) := by
  rcases kinds6 k with rfl | rfl | rfl | rfl | rfl | rfl | hk
  · go_enter Tryz.func8, Tryz.ntmps8
    go_wp2
    go_ret
    have h := srow_new (w.alloc (.cells #[.int .i64 1, .string ao, .string an, .string bo, .string bn, .slice A n c] 26)) (wordsL 1) 9
    rw [World.size_alloc] at h
    exact ⟨_, _, rfl, h, ((Grew.refl _).alloc _).alloc _⟩
  · go_enter Tryz.func8, Tryz.ntmps8
    go_wp2
    go_ret
    have h := srow_new (w.alloc (.cells #[.int .i64 2, .string ao, .string an, .string bo, .string bn, .slice A n c] 26)) (wordsL 2) 9
    rw [World.size_alloc] at h
    exact ⟨_, _, rfl, h, ((Grew.refl _).alloc _).alloc _⟩
  · go_enter Tryz.func8, Tryz.ntmps8
    go_wp2
    go_ret
    have h := srow_new (w.alloc (.cells #[.int .i64 3, .string ao, .string an, .string bo, .string bn, .slice A n c] 26)) (wordsL 3) 9
    rw [World.size_alloc] at h
    exact ⟨_, _, rfl, h, ((Grew.refl _).alloc _).alloc _⟩
  · go_enter Tryz.func8, Tryz.ntmps8
    go_wp2
    go_ret
    have h := srow_new (w.alloc (.cells #[.int .i64 4, .string ao, .string an, .string bo, .string bn, .slice A n c] 26)) (wordsL 4) 9
    rw [World.size_alloc] at h
    exact ⟨_, _, rfl, h, ((Grew.refl _).alloc _).alloc _⟩
  · go_enter Tryz.func8, Tryz.ntmps8
    go_wp2
    go_ret
    have h := srow_new (w.alloc (.cells #[.int .i64 5, .string ao, .string an, .string bo, .string bn, .slice A n c] 26)) (wordsL 5) 9
    rw [World.size_alloc] at h
    exact ⟨_, _, rfl, h, ((Grew.refl _).alloc _).alloc _⟩
  · go_enter Tryz.func8, Tryz.ntmps8
    go_wp2
    go_ret
    have h := srow_new (w.alloc (.cells #[.int .i64 6, .string ao, .string an, .string bo, .string bn, .slice A n c] 26)) (wordsL 6) 9
    rw [World.size_alloc] at h
    exact ⟨_, _, rfl, h, ((Grew.refl _).alloc _).alloc _⟩
  · have hf : wordsL k = [] := by
      unfold wordsL
      rw [if_neg (by omega), if_neg (by omega), if_neg (by omega), if_neg (by omega), if_neg (by omega), if_neg (by omega)]
    obtain ⟨e1, e2, e3, e4, e5, e6⟩ := others hk
    unfold WordsPost
    rw [hf]
    clear hf hk
    go_enter Tryz.func8, Tryz.ntmps8
    go_wp2
    go_ret
    exact ⟨none, 0, rfl, (fun h => by simp at h), (Grew.refl _).alloc _⟩
end Go.Proofs.YtcbbffpalpieaaaGreat.Qry6
