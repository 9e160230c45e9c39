/- Which statements are right, and their normal form, in the program and in the document's answers. -/
import Derived.Test.YtblapgfilbmdhaaGreatDoorM05
import Derived.RegionTactic
import Derived.ChangeAlike
import Derived.Test.YtblapgfilbmdhaaGreatDoorM04
set_option linter.unusedVariables false
set_option linter.unusedSimpArgs false
namespace Go.Proofs.YtblapgfilbmdhaaGreatDoor.Syn4
open Go.RowKit Go.Sort Go.Proofs Plain SynP Named RefN Grown Syn1 Syn2 Syn3
theorem kinds (k : Int) : k = 1 ∨ k = 2 ∨ k = 3 ∨ k = 4 ∨ (k ≠ 1 ∧ k ≠ 2 ∧ k ≠ 3 ∧ k ≠ 4) := by omega
theorem less' (o1 n1 o2 n2 : ByteArray) (w : World) : Calls Tryz.prog 231 #[.agg #[.string o1, .string n1], .agg #[.string o2, .string n2]] w fun e w' => e = .returned (.bool (decide (cmpR ⟨o1, n1⟩ ⟨o2, n2⟩ < 0))) ∧ Grew w w' := less ⟨o1, n1⟩ ⟨o2, n2⟩ w
theorem isRole' (o n : ByteArray) (w : World) (h1 : o.size ≤ maxLen) (h2 : n.size ≤ maxLen) : Calls Tryz.prog 109 #[.agg #[.string o, .string n]] w fun e w' => e = .returned (.bool (Rl.ok ⟨o, n⟩)) ∧ Grew w w' := isRole ⟨o, n⟩ w ⟨h1, h2⟩
theorem isRoleRef' (o n : ByteArray) (w : World) (h1 : o.size ≤ maxLen) (h2 : n.size ≤ maxLen) : Calls Tryz.prog 68 #[.agg #[.string o, .string n]] w fun e w' => e = .returned (.bool (Rl.ok ⟨o, n⟩)) ∧ Grew w w' := isRoleRef ⟨o, n⟩ w ⟨h1, h2⟩
set_option maxRecDepth 100000 in
theorem saysRight (s : St) (w : World) (hf : s.fit) : Calls Tryz.prog 189 #[s.val] w fun e w' => e = .returned (.bool s.says) ∧ Grew w w' := by
  obtain ⟨k1, ⟨ho, hn⟩, wh, ⟨ao, an⟩, ⟨bo, bn⟩, v⟩ := s
  obtain ⟨⟨f1, f2⟩, f3, ⟨f4, f5⟩, ⟨f6, f7⟩, f8⟩ := hf
  simp only at f1 f2 f3 f4 f5 f6 f7 f8
  unfold St.val
  rcases kinds k1 with rfl | rfl | rfl | rfl | ⟨h1, h2, h3, h4⟩
  · have H : Hid (St.says ⟨1, ⟨ho, hn⟩, wh, ⟨ao, an⟩, ⟨bo, bn⟩, v⟩ = named capB wh.data.toList) := Lib.hid rfl
    go_enter Tryz.func189, Tryz.ntmps189
    go_wp2_with (go_at_call 153; refine (isPrin _ _ f3).mono ?_; rintro e w' ⟨rfl, rfl⟩)
    go_ret
    exact ⟨ret_bool H.out.symm, (Grew.refl _).alloc _⟩
  · have H : Hid (St.says ⟨2, ⟨ho, hn⟩, wh, ⟨ao, an⟩, ⟨bo, bn⟩, v⟩ = Rl.ok ⟨ao, an⟩) := Lib.hid rfl
    go_enter Tryz.func189, Tryz.ntmps189
    go_wp2_with (go_at_call 109; refine (isRole' _ _ _ f4 f5).mono ?_; rintro e w' ⟨rfl, hg⟩)
    go_ret
    exact ⟨ret_bool H.out.symm, ((Grew.refl _).alloc _).trans hg⟩
  · cases ha : Rl.ok ⟨ao, an⟩
    all_goals
      have H : Hid (St.says ⟨3, ⟨ho, hn⟩, wh, ⟨ao, an⟩, ⟨bo, bn⟩, v⟩ = (_ && named smallB v.data.toList)) := Lib.hid (show (Rl.ok ⟨ao, an⟩ && named smallB v.data.toList) = _ by rw [ha])
      go_enter Tryz.func189, Tryz.ntmps189
      go_wp2_with (first | (go_at_call 109; refine (isRole' _ _ _ f4 f5).mono ?_; rintro e w' ⟨rfl, hg⟩; obtain ⟨hc, hz, hs⟩ := hg.use) | (go_at_call 154; refine (isName _ _ f8).mono ?_; rintro e w' ⟨rfl, rfl⟩))
      go_ret
      exact ⟨ret_bool H.out.symm, ((Grew.refl _).alloc _).trans hg⟩
  · cases ha : Rl.ok ⟨ao, an⟩
    · have H : Hid (St.says ⟨4, ⟨ho, hn⟩, wh, ⟨ao, an⟩, ⟨bo, bn⟩, v⟩ = false) := Lib.hid (show (Rl.ok ⟨ao, an⟩ && Rl.ok ⟨bo, bn⟩ && !decide (cmpR ⟨bo, bn⟩ ⟨ao, an⟩ < 0)) = _ by rw [ha]; rfl)
      go_enter Tryz.func189, Tryz.ntmps189
      go_wp2_with (go_at_call 109; refine (isRole' _ _ _ f4 f5).mono ?_; rintro e w' ⟨rfl, hg⟩; obtain ⟨hc, hz, hs⟩ := hg.use)
      go_ret
      exact ⟨ret_bool H.out.symm, ((Grew.refl _).alloc _).trans hg⟩
    · cases hb : Rl.ok ⟨bo, bn⟩
      · have H : Hid (St.says ⟨4, ⟨ho, hn⟩, wh, ⟨ao, an⟩, ⟨bo, bn⟩, v⟩ = false) := Lib.hid (show (Rl.ok ⟨ao, an⟩ && Rl.ok ⟨bo, bn⟩ && !decide (cmpR ⟨bo, bn⟩ ⟨ao, an⟩ < 0)) = _ by rw [ha, hb]; rfl)
        go_enter Tryz.func189, Tryz.ntmps189
        go_wp2_with fail
        refine (isRole' _ _ _ f4 f5).mono ?_
        rintro e w1 ⟨rfl, hg⟩
        obtain ⟨hc, hz, hs⟩ := hg.use
        simp at hs
        have hs' : w.heap.size < w1.heap.size := hs
        go_wp2_with fail
        refine (isRole' _ _ _ f6 f7).mono ?_
        rintro e w2 ⟨rfl, hg2⟩
        go_wp2_with fail
        go_ret
        exact ⟨ret_bool H.out.symm, (((Grew.refl _).alloc _).trans hg).trans hg2⟩
      · have H : Hid (St.says ⟨4, ⟨ho, hn⟩, wh, ⟨ao, an⟩, ⟨bo, bn⟩, v⟩ = !decide (cmpR ⟨bo, bn⟩ ⟨ao, an⟩ < 0)) := Lib.hid (show (Rl.ok ⟨ao, an⟩ && Rl.ok ⟨bo, bn⟩ && !decide (cmpR ⟨bo, bn⟩ ⟨ao, an⟩ < 0)) = _ by rw [ha, hb]; rfl)
        have HL := Lib.hid (less' bo bn ao an)
        generalize decide (cmpR ⟨bo, bn⟩ ⟨ao, an⟩ < 0) = r at *
        go_enter Tryz.func189, Tryz.ntmps189
        go_wp2_with fail
        refine (isRole' _ _ _ f4 f5).mono ?_
        rintro e w1 ⟨rfl, hg⟩
        obtain ⟨hc, hz, hs⟩ := hg.use
        simp at hs
        have hs' : w.heap.size < w1.heap.size := hs
        go_wp2_with fail
        refine (isRole' _ _ _ f6 f7).mono ?_
        rintro e w2 ⟨rfl, hg2⟩
        obtain ⟨hc2, hz2, hs2⟩ := hg2.use
        go_wp2_with fail
        refine (HL.out _).mono ?_
        rintro e w3 ⟨rfl, hg3⟩
        go_wp2_with fail
        go_ret
        exact ⟨ret_bool H.out.symm, ((((Grew.refl _).alloc _).trans hg).trans hg2).trans hg3⟩
  · have H : Hid (St.says ⟨k1, ⟨ho, hn⟩, wh, ⟨ao, an⟩, ⟨bo, bn⟩, v⟩ = false) := Lib.hid (by unfold St.says; rw [if_neg h1, if_neg h2, if_neg h3, if_neg h4])
    have e1 : (k1 == 1) = false := by simpa using h1
    have e2 : (k1 == 2) = false := by simpa using h2
    have e3 : (k1 == 3) = false := by simpa using h3
    have e4 : (k1 == 4) = false := by simpa using h4
    clear h1 h2 h3 h4
    go_enter Tryz.func189, Tryz.ntmps189
    go_wp2_with fail
    go_ret
    exact ⟨ret_bool H.out.symm, (Grew.refl _).alloc _⟩
end Go.Proofs.YtblapgfilbmdhaaGreatDoor.Syn4
namespace Go.Proofs.YtblapgfilbmdhaaGreatDoor.Syn5
open Go.RowKit Go.Sort Go.Proofs Plain SynP Named RefN Grown Syn1 Syn2 Syn3 Syn4
set_option maxRecDepth 100000 in
theorem bare1 (ho hn wh ao an bo bn v : ByteArray) (w : World) : Calls Tryz.prog 190 #[.agg #[.int .i64 1, .string ho, .string hn, .string wh, .string ao, .string an, .string bo, .string bn, .string v]] w fun e w' => e = .returned (.agg #[.int .i64 1, .string ho, .string hn, .string wh, .string noText, .string noText, .string noText, .string noText, .string noText]) ∧ Grew w w' := by
  go_enter Tryz.func190, Tryz.ntmps190
  go_wp2
  exact bodyPost_ret (v := .agg #[.int .i64 1, .string ho, .string hn, .string wh, .string noText, .string noText, .string noText, .string noText, .string noText]) (by simp [results, Tryz.results190, go_sem, noText]) rfl ⟨rfl, ((((Grew.refl _).alloc _).alloc _).alloc _)⟩
set_option maxRecDepth 100000 in
theorem bare2 (ho hn wh ao an bo bn v : ByteArray) (w : World) : Calls Tryz.prog 190 #[.agg #[.int .i64 2, .string ho, .string hn, .string wh, .string ao, .string an, .string bo, .string bn, .string v]] w fun e w' => e = .returned (.agg #[.int .i64 2, .string ho, .string hn, .string noText, .string ao, .string an, .string noText, .string noText, .string noText]) ∧ Grew w w' := by
  go_enter Tryz.func190, Tryz.ntmps190
  go_wp2
  exact bodyPost_ret (v := .agg #[.int .i64 2, .string ho, .string hn, .string noText, .string ao, .string an, .string noText, .string noText, .string noText]) (by simp [results, Tryz.results190, go_sem, noText]) rfl ⟨rfl, ((((Grew.refl _).alloc _).alloc _).alloc _)⟩
set_option maxRecDepth 100000 in
theorem bare3 (ho hn wh ao an bo bn v : ByteArray) (w : World) : Calls Tryz.prog 190 #[.agg #[.int .i64 3, .string ho, .string hn, .string wh, .string ao, .string an, .string bo, .string bn, .string v]] w fun e w' => e = .returned (.agg #[.int .i64 3, .string ho, .string hn, .string noText, .string ao, .string an, .string noText, .string noText, .string v]) ∧ Grew w w' := by
  go_enter Tryz.func190, Tryz.ntmps190
  go_wp2
  go_region
  all_goals go_wp2
  exact bodyPost_ret (v := .agg #[.int .i64 3, .string ho, .string hn, .string noText, .string ao, .string an, .string noText, .string noText, .string v]) (by simp [results, Tryz.results190, go_sem, noText]) rfl ⟨rfl, ((((Grew.refl _).alloc _).alloc _).alloc _).drew⟩
set_option maxRecDepth 100000 in
theorem bare4 (ho hn wh ao an bo bn v : ByteArray) (w : World) : Calls Tryz.prog 190 #[.agg #[.int .i64 4, .string ho, .string hn, .string wh, .string ao, .string an, .string bo, .string bn, .string v]] w fun e w' => e = .returned (.agg #[.int .i64 4, .string ho, .string hn, .string noText, .string ao, .string an, .string bo, .string bn, .string noText]) ∧ Grew w w' := by
  go_enter Tryz.func190, Tryz.ntmps190
  go_wp2
  go_region
  all_goals go_wp2
  exact bodyPost_ret (v := .agg #[.int .i64 4, .string ho, .string hn, .string noText, .string ao, .string an, .string bo, .string bn, .string noText]) (by simp [results, Tryz.results190, go_sem, noText]) rfl ⟨rfl, ((((Grew.refl _).alloc _).alloc _).alloc _).drew⟩
set_option maxRecDepth 100000 in
theorem bare5 (k : Int) (ho hn wh ao an bo bn v : ByteArray) (w : World) (h1 : (k == 1) = false) (h2 : (k == 2) = false) (h3 : (k == 3) = false) (h4 : (k == 4) = false) : Calls Tryz.prog 190 #[.agg #[.int .i64 k, .string ho, .string hn, .string wh, .string ao, .string an, .string bo, .string bn, .string v]] w fun e w' => e = .returned (.agg #[.int .i64 k, .string ho, .string hn, .string noText, .string noText, .string noText, .string noText, .string noText, .string noText]) ∧ Grew w w' := by
  go_enter Tryz.func190, Tryz.ntmps190
  go_wp2
  exact bodyPost_ret (v := .agg #[.int .i64 k, .string ho, .string hn, .string noText, .string noText, .string noText, .string noText, .string noText, .string noText]) (by simp [results, Tryz.results190, go_sem, noText]) rfl ⟨rfl, ((((Grew.refl _).alloc _).alloc _).alloc _)⟩
theorem bare (s : St) (w : World) : Calls Tryz.prog 190 #[s.val] w fun e w' => e = .returned s.own.val ∧ Grew w w' := by
  obtain ⟨k1, ⟨ho, hn⟩, wh, ⟨ao, an⟩, ⟨bo, bn⟩, v⟩ := s
  rcases kinds k1 with rfl | rfl | rfl | rfl | ⟨h1, h2, h3, h4⟩
  · exact bare1 ho hn wh ao an bo bn v w
  · exact bare2 ho hn wh ao an bo bn v w
  · exact bare3 ho hn wh ao an bo bn v w
  · exact bare4 ho hn wh ao an bo bn v w
  · have : St.own ⟨k1, ⟨ho, hn⟩, wh, ⟨ao, an⟩, ⟨bo, bn⟩, v⟩ = ⟨k1, ⟨ho, hn⟩, noText, zeroR, zeroR, noText⟩ := by unfold St.own; rw [if_neg h1, if_neg h2, if_neg h3, if_neg h4]
    rw [this]
    exact bare5 k1 ho hn wh ao an bo bn v w (by simpa using h1) (by simpa using h2) (by simpa using h3) (by simpa using h4)
end Go.Proofs.YtblapgfilbmdhaaGreatDoor.Syn5
namespace Go.Proofs.YtblapgfilbmdhaaGreatDoor.SynE
open Go.RowKit Go.Sort Go.Proofs Plain SynP Syn1
theorem text_eq (a b : ByteArray) : (a.toList = b.toList) = (a = b) := by
  rw [Go.ByteArray.toList_eq, Go.ByteArray.toList_eq]; exact propext ⟨ba_ext, fun h => by rw [h]⟩
set_option maxHeartbeats 1000000 in
set_option maxRecDepth 100000 in
theorem eqS (k : Int) (ho hn wh ao an bo bn v : ByteArray) (k2 : Int) (ho2 hn2 wh2 ao2 an2 bo2 bn2 v2 : ByteArray) (w : World) :
    (binOp .eql 67 (.agg #[.int .i64 k, .string ho, .string hn, .string wh, .string ao, .string an, .string bo, .string bn, .string v]) (.agg #[.int .i64 k2, .string ho2, .string hn2, .string wh2, .string ao2, .string an2, .string bo2, .string bn2, .string v2])).run Tryz.prog w = .ok (.bool (decide ((⟨k, ⟨ho, hn⟩, wh, ⟨ao, an⟩, ⟨bo, bn⟩, v⟩ : St) = ⟨k2, ⟨ho2, hn2⟩, wh2, ⟨ao2, an2⟩, ⟨bo2, bn2⟩, v2⟩))) w := by
  have e := text_eq
  simp only [go_sem, St.mk.injEq, Rl.mk.injEq, same_eq]
  go_simp
  by_cases h0 : k = k2
  rotate_left
  · simp [h0]
  subst h0
  by_cases h1 : ho = ho2
  rotate_left
  · simp [h1]
  subst h1
  by_cases h2 : hn = hn2
  rotate_left
  · simp [h2]
  subst h2
  by_cases h3 : wh = wh2
  rotate_left
  · simp [h3]
  subst h3
  by_cases h4 : ao = ao2
  rotate_left
  · simp [h4]
  subst h4
  by_cases h5 : an = an2
  rotate_left
  · simp [h5]
  subst h5
  by_cases h6 : bo = bo2
  rotate_left
  · simp [h6]
  subst h6
  by_cases h7 : bn = bn2
  rotate_left
  · simp [h7]
  subst h7
  by_cases h8 : v = v2
  rotate_left
  · simp [h8]
  subst h8
  simp
set_option maxHeartbeats 1000000 in
theorem eqR (o n o2 n2 : ByteArray) (w : World) : (binOp .eql 28 (.agg #[.string o, .string n]) (.agg #[.string o2, .string n2])).run Tryz.prog w = .ok (.bool (decide ((⟨o, n⟩ : Rl) = ⟨o2, n2⟩))) w := by
  have e := text_eq
  simp only [go_sem, Rl.mk.injEq, same_eq]
  go_simp
  by_cases h0 : o = o2
  rotate_left
  · simp [h0]
  subst h0
  by_cases h1 : n = n2
  rotate_left
  · simp [h1]
  subst h1
  simp
set_option maxHeartbeats 1000000 in
set_option maxRecDepth 100000 in
theorem neS (k : Int) (ho hn wh ao an bo bn v : ByteArray) (k2 : Int) (ho2 hn2 wh2 ao2 an2 bo2 bn2 v2 : ByteArray) (w : World) :
    (binOp .neq 67 (.agg #[.int .i64 k, .string ho, .string hn, .string wh, .string ao, .string an, .string bo, .string bn, .string v]) (.agg #[.int .i64 k2, .string ho2, .string hn2, .string wh2, .string ao2, .string an2, .string bo2, .string bn2, .string v2])).run Tryz.prog w = .ok (.bool (!decide ((⟨k, ⟨ho, hn⟩, wh, ⟨ao, an⟩, ⟨bo, bn⟩, v⟩ : St) = ⟨k2, ⟨ho2, hn2⟩, wh2, ⟨ao2, an2⟩, ⟨bo2, bn2⟩, v2⟩))) w := by
  have e := text_eq
  simp only [go_sem, St.mk.injEq, Rl.mk.injEq, same_eq]
  go_simp
  by_cases h0 : k = k2
  rotate_left
  · simp [h0]
  subst h0
  by_cases h1 : ho = ho2
  rotate_left
  · simp [h1]
  subst h1
  by_cases h2 : hn = hn2
  rotate_left
  · simp [h2]
  subst h2
  by_cases h3 : wh = wh2
  rotate_left
  · simp [h3]
  subst h3
  by_cases h4 : ao = ao2
  rotate_left
  · simp [h4]
  subst h4
  by_cases h5 : an = an2
  rotate_left
  · simp [h5]
  subst h5
  by_cases h6 : bo = bo2
  rotate_left
  · simp [h6]
  subst h6
  by_cases h7 : bn = bn2
  rotate_left
  · simp [h7]
  subst h7
  by_cases h8 : v = v2
  rotate_left
  · simp [h8]
  subst h8
  simp
set_option maxHeartbeats 1000000 in
theorem neR (o n o2 n2 : ByteArray) (w : World) : (binOp .neq 28 (.agg #[.string o, .string n]) (.agg #[.string o2, .string n2])).run Tryz.prog w = .ok (.bool (!decide ((⟨o, n⟩ : Rl) = ⟨o2, n2⟩))) w := by
  have e := text_eq
  simp only [go_sem, Rl.mk.injEq, same_eq]
  go_simp
  by_cases h0 : o = o2
  rotate_left
  · simp [h0]
  subst h0
  by_cases h1 : n = n2
  rotate_left
  · simp [h1]
  subst h1
  simp
end Go.Proofs.YtblapgfilbmdhaaGreatDoor.SynE
namespace Go.Proofs.YtblapgfilbmdhaaGreatDoor.Syn7
open Go.RowKit Go.Sort Go.Proofs Plain SynP Named RefN Grown Syn1 Syn2 Syn3 Syn4 Syn5 SynE
theorem mixed : Tryz.prog.follows .mixedOrders = true := by kernel_rfl
set_option maxRecDepth 100000 in
theorem right_head (k : Int) (ho hn wh ao an bo bn v : ByteArray) (w : World) (f1 : ho.size ≤ maxLen) (f2 : hn.size ≤ maxLen) (h : Rl.ok ⟨ho, hn⟩ = false) : Calls Tryz.prog 144 #[.agg #[.int .i64 k, .string ho, .string hn, .string wh, .string ao, .string an, .string bo, .string bn, .string v]] w fun e w' => e = .returned (.bool false) ∧ Grew w w' := by
  have HR := Lib.hid (isRole' ho hn · f1 f2)
  rw [h] at HR
  clear h
  have hm := mixed
  have gC := grow_cell
  go_enter Tryz.func144, Tryz.ntmps144
  go_wp2
  go_quiet_grown ((go_at_call 109; exact grewCall (HR.out _)))
  go_wp2
  go_ret
  exact ⟨rfl, ((Grew.refl _).alloc _).trans (Grew.mk _ _ _)⟩
set_option maxRecDepth 100000 in
theorem right_says (k : Int) (ho hn wh ao an bo bn v : ByteArray) (w : World) (hf : St.fit ⟨k, ⟨ho, hn⟩, wh, ⟨ao, an⟩, ⟨bo, bn⟩, v⟩) (h : Rl.ok ⟨ho, hn⟩ = true) (h2 : St.says ⟨k, ⟨ho, hn⟩, wh, ⟨ao, an⟩, ⟨bo, bn⟩, v⟩ = false) : Calls Tryz.prog 144 #[.agg #[.int .i64 k, .string ho, .string hn, .string wh, .string ao, .string an, .string bo, .string bn, .string v]] w fun e w' => e = .returned (.bool false) ∧ Grew w w' := by
  have HR := Lib.hid (isRole' ho hn · hf.1.1 hf.1.2)
  have HS := Lib.hid (saysRight ⟨k, ⟨ho, hn⟩, wh, ⟨ao, an⟩, ⟨bo, bn⟩, v⟩ · hf)
  rw [h] at HR
  rw [h2] at HS
  clear h h2 hf
  have hm := mixed
  have gC := grow_cell
  go_enter Tryz.func144, Tryz.ntmps144
  go_wp2
  go_quiet_grown (first | (go_at_call 109; exact grewCall (HR.out _)) | (go_at_call 189; exact grewCall (HS.out _)))
  go_wp2
  go_ret
  exact ⟨rfl, ((Grew.refl _).alloc _).trans (Grew.mk _ _ _)⟩
set_option maxRecDepth 100000 in
theorem right_own (k : Int) (ho hn wh ao an bo bn v wh2 ao2 an2 bo2 bn2 v2 : ByteArray) (w : World) (hf : St.fit ⟨k, ⟨ho, hn⟩, wh, ⟨ao, an⟩, ⟨bo, bn⟩, v⟩) (h : Rl.ok ⟨ho, hn⟩ = true) (h2 : St.says ⟨k, ⟨ho, hn⟩, wh, ⟨ao, an⟩, ⟨bo, bn⟩, v⟩ = true) (ho2 : St.own ⟨k, ⟨ho, hn⟩, wh, ⟨ao, an⟩, ⟨bo, bn⟩, v⟩ = ⟨k, ⟨ho, hn⟩, wh2, ⟨ao2, an2⟩, ⟨bo2, bn2⟩, v2⟩) : Calls Tryz.prog 144 #[.agg #[.int .i64 k, .string ho, .string hn, .string wh, .string ao, .string an, .string bo, .string bn, .string v]] w fun e w' => e = .returned (.bool (decide ((⟨k, ⟨ho, hn⟩, wh, ⟨ao, an⟩, ⟨bo, bn⟩, v⟩ : St) = ⟨k, ⟨ho, hn⟩, wh2, ⟨ao2, an2⟩, ⟨bo2, bn2⟩, v2⟩))) ∧ Grew w w' := by
  have HR := Lib.hid (isRole' ho hn · hf.1.1 hf.1.2)
  have HS := Lib.hid (saysRight ⟨k, ⟨ho, hn⟩, wh, ⟨ao, an⟩, ⟨bo, bn⟩, v⟩ · hf)
  have hb := bare ⟨k, ⟨ho, hn⟩, wh, ⟨ao, an⟩, ⟨bo, bn⟩, v⟩
  rw [ho2] at hb
  unfold St.val at hb
  have HB := Lib.hid hb
  clear hb
  rw [h] at HR
  rw [h2] at HS
  clear h h2 hf ho2
  have hm := mixed
  have gC := grow_cell
  have hq := fun w => eqS k ho hn wh ao an bo bn v k ho hn wh2 ao2 an2 bo2 bn2 v2 w
  generalize hres : decide ((⟨k, ⟨ho, hn⟩, wh, ⟨ao, an⟩, ⟨bo, bn⟩, v⟩ : St) = ⟨k, ⟨ho, hn⟩, wh2, ⟨ao2, an2⟩, ⟨bo2, bn2⟩, v2⟩) = res
  rw [hres] at hq
  clear hres
  go_enter Tryz.func144, Tryz.ntmps144
  go_wp2
  go_quiet_grown (first | (go_at_call 109; exact grewCall (HR.out _)) | (go_at_call 189; exact grewCall (HS.out _)) | (go_at_call 190; exact grewCall (HB.out _)))
  go_wp2
  go_ret
  exact ⟨rfl, ((Grew.refl _).alloc _).trans (Grew.mk _ _ _)⟩
theorem own_parts (s : St) : ∃ wh2 ao2 an2 bo2 bn2 v2, s.own = ⟨s.kind, s.head, wh2, ⟨ao2, an2⟩, ⟨bo2, bn2⟩, v2⟩ := by
  obtain ⟨k1, ⟨ho, hn⟩, wh, ⟨ao, an⟩, ⟨bo, bn⟩, v⟩ := s
  unfold St.own zeroR
  split
  · exact ⟨_, _, _, _, _, _, rfl⟩
  split
  · exact ⟨_, _, _, _, _, _, rfl⟩
  split
  · exact ⟨_, _, _, _, _, _, rfl⟩
  split <;> exact ⟨_, _, _, _, _, _, rfl⟩
theorem right (s : St) (w : World) (hf : s.fit) : Calls Tryz.prog 144 #[s.val] w fun e w' => e = .returned (.bool s.right) ∧ Grew w w' := by
  obtain ⟨wh2, ao2, an2, bo2, bn2, v2, hown⟩ := own_parts s
  obtain ⟨k1, ⟨ho, hn⟩, wh, ⟨ao, an⟩, ⟨bo, bn⟩, v⟩ := s
  cases h1 : Rl.ok ⟨ho, hn⟩
  · refine (right_head k1 ho hn wh ao an bo bn v w hf.1.1 hf.1.2 h1).mono ?_
    rintro e w' ⟨rfl, hg⟩
    exact ⟨ret_bool (by unfold St.right; simp only [h1]; rfl), hg⟩
  cases h2 : St.says ⟨k1, ⟨ho, hn⟩, wh, ⟨ao, an⟩, ⟨bo, bn⟩, v⟩
  · refine (right_says k1 ho hn wh ao an bo bn v w hf h1 h2).mono ?_
    rintro e w' ⟨rfl, hg⟩
    exact ⟨ret_bool (by unfold St.right; simp only [h1, h2]; rfl), hg⟩
  · refine (right_own k1 ho hn wh ao an bo bn v _ _ _ _ _ _ w hf h1 h2 hown).mono ?_
    rintro e w' ⟨rfl, hg⟩
    exact ⟨ret_bool (by unfold St.right; rw [hown]; simp only [h1, h2]; rfl), hg⟩
end Go.Proofs.YtblapgfilbmdhaaGreatDoor.Syn7
