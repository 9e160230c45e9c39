/- How two statements stand: Order, and the document's Before. -/
import Derived.Test.YtblapgfilbmdhaaGreatDoorM04
set_option linter.unusedVariables false
set_option linter.unusedSimpArgs false
namespace Go.Proofs.YtblapgfilbmdhaaGreatDoor.Syn3
open Go.RowKit Go.Sort Go.Proofs Plain SynP Grown Syn1 Syn2
theorem orderRoles' (o1 n1 o2 n2 : ByteArray) (w : World) : Calls Tryz.prog 206 #[.agg #[.string o1, .string n1], .agg #[.string o2, .string n2]] w fun e w' => e = .returned (.int .i64 (cmpR ⟨o1, n1⟩ ⟨o2, n2⟩)) ∧ Grew w w' := orderRoles ⟨o1, n1⟩ ⟨o2, n2⟩ w
set_option maxRecDepth 100000 in
set_option maxHeartbeats 1000000 in
theorem order (s t : St) (w : World) : Calls Tryz.prog 162 #[s.val, t.val] w fun e w' => e = .returned (.int .i64 (cmpS s t)) ∧ Grew w w' := by
  obtain ⟨k1, ⟨ho1, hn1⟩, wh1, ⟨ao1, an1⟩, ⟨bo1, bn1⟩, v1⟩ := s
  obtain ⟨k2, ⟨ho2, hn2⟩, wh2, ⟨ao2, an2⟩, ⟨bo2, bn2⟩, v2⟩ := t
  have hor : ∀ (w' : World) (n : Nat), n = w'.heap.size → Calls Tryz.prog 205 #[.slice (some ⟨n, 0, none⟩) 6 6] (w'.alloc (.cells #[.int .i64 (cmpR ⟨ho1, hn1⟩ ⟨ho2, hn2⟩), .int .i64 (cmpN k1 k2), .int .i64 (cmpB wh1 wh2), .int .i64 (cmpR ⟨ao1, an1⟩ ⟨ao2, an2⟩), .int .i64 (cmpR ⟨bo1, bn1⟩ ⟨bo2, bn2⟩), .int .i64 (cmpB v1 v2)] 3)) fun e w2 => e = .returned (.int .i64 (cmpS ⟨k1, ⟨ho1, hn1⟩, wh1, ⟨ao1, an1⟩, ⟨bo1, bn1⟩, v1⟩ ⟨k2, ⟨ho2, hn2⟩, wh2, ⟨ao2, an2⟩, ⟨bo2, bn2⟩, v2⟩)) ∧ (w'.alloc (.cells #[.int .i64 (cmpR ⟨ho1, hn1⟩ ⟨ho2, hn2⟩), .int .i64 (cmpN k1 k2), .int .i64 (cmpB wh1 wh2), .int .i64 (cmpR ⟨ao1, an1⟩ ⟨ao2, an2⟩), .int .i64 (cmpR ⟨bo1, bn1⟩ ⟨bo2, bn2⟩), .int .i64 (cmpB v1 v2)] 3)) = w2 := fun w' n hn =>
    or_ n 6 [cmpR ⟨ho1, hn1⟩ ⟨ho2, hn2⟩, cmpN k1 k2, cmpB wh1 wh2, cmpR ⟨ao1, an1⟩ ⟨ao2, an2⟩, cmpR ⟨bo1, bn1⟩ ⟨bo2, bn2⟩, cmpB v1 v2] _ (by simp) (irow_new0 w' [cmpR ⟨ho1, hn1⟩ ⟨ho2, hn2⟩, cmpN k1 k2, cmpB wh1 wh2, cmpR ⟨ao1, an1⟩ ⟨ao2, an2⟩, cmpR ⟨bo1, bn1⟩ ⟨bo2, bn2⟩, cmpB v1 v2] _ hn)
  have Hor := Lib.hid hor
  clear hor
  generalize cmpS ⟨k1, ⟨ho1, hn1⟩, wh1, ⟨ao1, an1⟩, ⟨bo1, bn1⟩, v1⟩ ⟨k2, ⟨ho2, hn2⟩, wh2, ⟨ao2, an2⟩, ⟨bo2, bn2⟩, v2⟩ = res at *
  unfold St.val
  go_enter Tryz.func162, Tryz.ntmps162
  go_wp2
  have hst := start2 w #[.int .i64 k1, .string ho1, .string hn1, .string wh1, .string ao1, .string an1, .string bo1, .string bn1, .string v1] #[.int .i64 k2, .string ho2, .string hn2, .string wh2, .string ao2, .string an2, .string bo2, .string bn2, .string v2] 67
  go_region_held3 (fun w' => Grew ((w.alloc (.cells #[.int .i64 k1, .string ho1, .string hn1, .string wh1, .string ao1, .string an1, .string bo1, .string bn1, .string v1] 67)).alloc (.cells #[.int .i64 k2, .string ho2, .string hn2, .string wh2, .string ao2, .string an2, .string bo2, .string bn2, .string v2] 67)) w' ∧ (∀ o, w'.cell? ⟨w.heap.size, o, none⟩ = (#[.int .i64 k1, .string ho1, .string hn1, .string wh1, .string ao1, .string an1, .string bo1, .string bn1, .string v1] : Array Value)[o]?) ∧ (∀ o, w'.cell? ⟨w.heap.size + 1, o, none⟩ = (#[.int .i64 k2, .string ho2, .string hn2, .string wh2, .string ao2, .string an2, .string bo2, .string bn2, .string v2] : Array Value)[o]?))
    (first | exact hst | assumption | exact keep2 (by assumption) (by simp) (by assumption) | exact keep2 (by assumption) (by simp) ((Grew.refl _).alloc _))
    (first | (go_at_call 208; ((with_reducible refine (compareS _ _ _).mono ?_); rintro e w' ⟨rfl, rfl⟩)) | (go_at_call 207; ((with_reducible refine (compareN _ _ _).mono ?_); rintro e w' ⟨rfl, rfl⟩)) | (go_at_call 205; refine (Hor.out _ _ (by simp)).mono ?_; rintro e w' ⟨rfl, rfl⟩) | (go_at_call 206; ((with_reducible refine (orderRoles' _ _ _ _ _).mono ?_); rintro e w' ⟨rfl, hg⟩)))
  rename_i hHeld
  go_wp2
  go_ret
  exact ⟨rfl, (((Grew.refl _).alloc _).alloc _).trans hHeld.1⟩
theorem rl_cases (o1 n1 o2 n2 : ByteArray) : (o1 ≠ o2) ∨ (o1 = o2 ∧ n1 ≠ n2) ∨ (o1 = o2 ∧ n1 = n2) := by
  by_cases h : o1 = o2
  · by_cases h2 : n1 = n2
    · exact .inr (.inr ⟨h, h2⟩)
    · exact .inr (.inl ⟨h, h2⟩)
  · exact .inl h
theorem toList_ne {a b : ByteArray} (h : a ≠ b) : ¬ a.toList = b.toList := by
  rw [Go.ByteArray.toList_eq, Go.ByteArray.toList_eq]; exact fun e => h (ba_ext e)
theorem toList_neb {a b : ByteArray} (h : a ≠ b) : (a.toList == b.toList) = false := by rw [same_eq]; exact decide_eq_false h
theorem cmpR_eq {r s : Rl} : cmpR r s = 0 ↔ r = s := by
  unfold cmpR
  constructor
  · intro h
    by_cases h1 : cmpB r.owner s.owner = 0
    · rw [h1, orL_cons0, orL_one] at h
      exact rl_eq (cmpB_eq.1 h1) (cmpB_eq.1 h)
    · rw [orL_cons1 _ h1] at h; exact absurd h h1
  · rintro rfl; rw [cmpB_eq.2 rfl, orL_cons0, orL_one, cmpB_eq.2 rfl]
theorem cmpR_ne {r s : Rl} (h : r ≠ s) : cmpR r s ≠ 0 := fun e => h (cmpR_eq.1 e)
theorem cmpN_eq {a b : Int} : cmpN a b = 0 ↔ a = b := by
  unfold cmpN
  split
  · constructor <;> intro h <;> omega
  · split <;> (constructor <;> intro h <;> omega)
theorem cmpN_lt {a b : Int} : cmpN a b < 0 ↔ a < b := by
  unfold cmpN
  split
  · constructor <;> intro h <;> omega
  · split <;> (constructor <;> intro h <;> omega)
theorem cmpN_same (a : Int) : cmpN a a = 0 := cmpN_eq.2 rfl
theorem cmpB_same (a : ByteArray) : cmpB a a = 0 := cmpB_eq.2 rfl
theorem cmpR_same (a : Rl) : cmpR a a = 0 := cmpR_eq.2 rfl
theorem lessRef' (o1 n1 o2 n2 : ByteArray) (w : World) : Calls Tryz.prog 44 #[.agg #[.string o1, .string n1], .agg #[.string o2, .string n2]] w fun e w' => e = .returned (.bool (decide (cmpR ⟨o1, n1⟩ ⟨o2, n2⟩ < 0))) ∧ Grew w w' := lessRef ⟨o1, n1⟩ ⟨o2, n2⟩ w
theorem dec_lt {a b : Int} {p : Bool} (h : a = b) (h2 : b < 0 ↔ p = true) : decide (a < 0) = p := by
  rw [h, Bool.eq_iff_iff, decide_eq_true_iff]; exact h2
set_option maxRecDepth 100000 in
theorem b_head1 (k1 k2 : Int) (ho1 hn1 wh1 ao1 an1 bo1 bn1 v1 ho2 hn2 wh2 ao2 an2 bo2 bn2 v2 : ByteArray) (w : World) (h : ¬ ho1.toList = ho2.toList) :
    Calls Tryz.prog 113 #[.agg #[.int .i64 k1, .string ho1, .string hn1, .string wh1, .string ao1, .string an1, .string bo1, .string bn1, .string v1], .agg #[.int .i64 k2, .string ho2, .string hn2, .string wh2, .string ao2, .string an2, .string bo2, .string bn2, .string v2]] w fun e w' => e = .returned (.bool (decide (cmpR ⟨ho1, hn1⟩ ⟨ho2, hn2⟩ < 0))) ∧ Grew w w' := by
  generalize hres : (decide (cmpR ⟨ho1, hn1⟩ ⟨ho2, hn2⟩ < 0) : Bool) = res
  have Hc := Lib.hid (fun w => lessRef' ho1 hn1 ho2 hn2 w)
  rw [hres] at Hc
  clear hres
  go_enter Tryz.func113, Tryz.ntmps113
  go_wp2_with (go_at_call 44; refine (Hc.out _).mono ?_; rintro e w' ⟨rfl, hg⟩)
  go_ret
  exact ⟨rfl, (((Grew.refl _).alloc _).alloc _).trans hg⟩
set_option maxRecDepth 100000 in
theorem b_head2 (k1 k2 : Int) (ho1 hn1 wh1 ao1 an1 bo1 bn1 v1 hn2 wh2 ao2 an2 bo2 bn2 v2 : ByteArray) (w : World) (h : ¬ hn1.toList = hn2.toList) :
    Calls Tryz.prog 113 #[.agg #[.int .i64 k1, .string ho1, .string hn1, .string wh1, .string ao1, .string an1, .string bo1, .string bn1, .string v1], .agg #[.int .i64 k2, .string ho1, .string hn2, .string wh2, .string ao2, .string an2, .string bo2, .string bn2, .string v2]] w fun e w' => e = .returned (.bool (decide (cmpR ⟨ho1, hn1⟩ ⟨ho1, hn2⟩ < 0))) ∧ Grew w w' := by
  generalize hres : (decide (cmpR ⟨ho1, hn1⟩ ⟨ho1, hn2⟩ < 0) : Bool) = res
  have Hc := Lib.hid (fun w => lessRef' ho1 hn1 ho1 hn2 w)
  rw [hres] at Hc
  clear hres
  go_enter Tryz.func113, Tryz.ntmps113
  go_wp2_with (go_at_call 44; refine (Hc.out _).mono ?_; rintro e w' ⟨rfl, hg⟩)
  go_ret
  exact ⟨rfl, (((Grew.refl _).alloc _).alloc _).trans hg⟩
set_option maxRecDepth 100000 in
theorem b_kind (k1 k2 : Int) (ho1 hn1 wh1 ao1 an1 bo1 bn1 v1 wh2 ao2 an2 bo2 bn2 v2 : ByteArray) (w : World) (h : (k1 != k2) = true) :
    Calls Tryz.prog 113 #[.agg #[.int .i64 k1, .string ho1, .string hn1, .string wh1, .string ao1, .string an1, .string bo1, .string bn1, .string v1], .agg #[.int .i64 k2, .string ho1, .string hn1, .string wh2, .string ao2, .string an2, .string bo2, .string bn2, .string v2]] w fun e w' => e = .returned (.bool (decide (k1 < k2))) ∧ Grew w w' := by
  go_enter Tryz.func113, Tryz.ntmps113
  go_wp2
  go_ret
  exact ⟨rfl, ((Grew.refl _).alloc _).alloc _⟩
set_option maxRecDepth 100000 in
theorem b_who (k1 : Int) (ho1 hn1 wh1 ao1 an1 bo1 bn1 v1 wh2 ao2 an2 bo2 bn2 v2 : ByteArray) (w : World) (h : (wh1.toList == wh2.toList) = false) :
    Calls Tryz.prog 113 #[.agg #[.int .i64 k1, .string ho1, .string hn1, .string wh1, .string ao1, .string an1, .string bo1, .string bn1, .string v1], .agg #[.int .i64 k1, .string ho1, .string hn1, .string wh2, .string ao2, .string an2, .string bo2, .string bn2, .string v2]] w fun e w' => e = .returned (.bool (Op.bytesLess wh1.toList wh2.toList)) ∧ Grew w w' := by
  go_enter Tryz.func113, Tryz.ntmps113
  go_wp2
  go_ret
  exact ⟨rfl, ((Grew.refl _).alloc _).alloc _⟩
set_option maxRecDepth 100000 in
theorem b_a1 (k1 : Int) (ho1 hn1 wh1 ao1 an1 bo1 bn1 v1 ao2 an2 bo2 bn2 v2 : ByteArray) (w : World) (h : ¬ ao1.toList = ao2.toList) :
    Calls Tryz.prog 113 #[.agg #[.int .i64 k1, .string ho1, .string hn1, .string wh1, .string ao1, .string an1, .string bo1, .string bn1, .string v1], .agg #[.int .i64 k1, .string ho1, .string hn1, .string wh1, .string ao2, .string an2, .string bo2, .string bn2, .string v2]] w fun e w' => e = .returned (.bool (decide (cmpR ⟨ao1, an1⟩ ⟨ao2, an2⟩ < 0))) ∧ Grew w w' := by
  generalize hres : (decide (cmpR ⟨ao1, an1⟩ ⟨ao2, an2⟩ < 0) : Bool) = res
  have Hc := Lib.hid (fun w => lessRef' ao1 an1 ao2 an2 w)
  rw [hres] at Hc
  clear hres
  go_enter Tryz.func113, Tryz.ntmps113
  go_wp2_with (go_at_call 44; refine (Hc.out _).mono ?_; rintro e w' ⟨rfl, hg⟩)
  go_ret
  exact ⟨rfl, (((Grew.refl _).alloc _).alloc _).trans hg⟩
set_option maxRecDepth 100000 in
theorem b_a2 (k1 : Int) (ho1 hn1 wh1 ao1 an1 bo1 bn1 v1 an2 bo2 bn2 v2 : ByteArray) (w : World) (h : ¬ an1.toList = an2.toList) :
    Calls Tryz.prog 113 #[.agg #[.int .i64 k1, .string ho1, .string hn1, .string wh1, .string ao1, .string an1, .string bo1, .string bn1, .string v1], .agg #[.int .i64 k1, .string ho1, .string hn1, .string wh1, .string ao1, .string an2, .string bo2, .string bn2, .string v2]] w fun e w' => e = .returned (.bool (decide (cmpR ⟨ao1, an1⟩ ⟨ao1, an2⟩ < 0))) ∧ Grew w w' := by
  generalize hres : (decide (cmpR ⟨ao1, an1⟩ ⟨ao1, an2⟩ < 0) : Bool) = res
  have Hc := Lib.hid (fun w => lessRef' ao1 an1 ao1 an2 w)
  rw [hres] at Hc
  clear hres
  go_enter Tryz.func113, Tryz.ntmps113
  go_wp2_with (go_at_call 44; refine (Hc.out _).mono ?_; rintro e w' ⟨rfl, hg⟩)
  go_ret
  exact ⟨rfl, (((Grew.refl _).alloc _).alloc _).trans hg⟩
set_option maxRecDepth 100000 in
theorem b_b1 (k1 : Int) (ho1 hn1 wh1 ao1 an1 bo1 bn1 v1 bo2 bn2 v2 : ByteArray) (w : World) (h : ¬ bo1.toList = bo2.toList) :
    Calls Tryz.prog 113 #[.agg #[.int .i64 k1, .string ho1, .string hn1, .string wh1, .string ao1, .string an1, .string bo1, .string bn1, .string v1], .agg #[.int .i64 k1, .string ho1, .string hn1, .string wh1, .string ao1, .string an1, .string bo2, .string bn2, .string v2]] w fun e w' => e = .returned (.bool (decide (cmpR ⟨bo1, bn1⟩ ⟨bo2, bn2⟩ < 0))) ∧ Grew w w' := by
  generalize hres : (decide (cmpR ⟨bo1, bn1⟩ ⟨bo2, bn2⟩ < 0) : Bool) = res
  have Hc := Lib.hid (fun w => lessRef' bo1 bn1 bo2 bn2 w)
  rw [hres] at Hc
  clear hres
  go_enter Tryz.func113, Tryz.ntmps113
  go_wp2_with (go_at_call 44; refine (Hc.out _).mono ?_; rintro e w' ⟨rfl, hg⟩)
  go_ret
  exact ⟨rfl, (((Grew.refl _).alloc _).alloc _).trans hg⟩
set_option maxRecDepth 100000 in
theorem b_b2 (k1 : Int) (ho1 hn1 wh1 ao1 an1 bo1 bn1 v1 bn2 v2 : ByteArray) (w : World) (h : ¬ bn1.toList = bn2.toList) :
    Calls Tryz.prog 113 #[.agg #[.int .i64 k1, .string ho1, .string hn1, .string wh1, .string ao1, .string an1, .string bo1, .string bn1, .string v1], .agg #[.int .i64 k1, .string ho1, .string hn1, .string wh1, .string ao1, .string an1, .string bo1, .string bn2, .string v2]] w fun e w' => e = .returned (.bool (decide (cmpR ⟨bo1, bn1⟩ ⟨bo1, bn2⟩ < 0))) ∧ Grew w w' := by
  generalize hres : (decide (cmpR ⟨bo1, bn1⟩ ⟨bo1, bn2⟩ < 0) : Bool) = res
  have Hc := Lib.hid (fun w => lessRef' bo1 bn1 bo1 bn2 w)
  rw [hres] at Hc
  clear hres
  go_enter Tryz.func113, Tryz.ntmps113
  go_wp2_with (go_at_call 44; refine (Hc.out _).mono ?_; rintro e w' ⟨rfl, hg⟩)
  go_ret
  exact ⟨rfl, (((Grew.refl _).alloc _).alloc _).trans hg⟩
set_option maxRecDepth 100000 in
theorem b_via (k1 : Int) (ho1 hn1 wh1 ao1 an1 bo1 bn1 v1 v2 : ByteArray) (w : World)  :
    Calls Tryz.prog 113 #[.agg #[.int .i64 k1, .string ho1, .string hn1, .string wh1, .string ao1, .string an1, .string bo1, .string bn1, .string v1], .agg #[.int .i64 k1, .string ho1, .string hn1, .string wh1, .string ao1, .string an1, .string bo1, .string bn1, .string v2]] w fun e w' => e = .returned (.bool (Op.bytesLess v1.toList v2.toList)) ∧ Grew w w' := by
  go_enter Tryz.func113, Tryz.ntmps113
  go_wp2
  go_ret
  exact ⟨rfl, ((Grew.refl _).alloc _).alloc _⟩
theorem before (s t : St) (w : World) : Calls Tryz.prog 113 #[s.val, t.val] w fun e w' => e = .returned (.bool (decide (cmpS s t < 0))) ∧ Grew w w' := by
  obtain ⟨k1, ⟨ho1, hn1⟩, wh1, ⟨ao1, an1⟩, ⟨bo1, bn1⟩, v1⟩ := s
  obtain ⟨k2, ⟨ho2, hn2⟩, wh2, ⟨ao2, an2⟩, ⟨bo2, bn2⟩, v2⟩ := t
  have key : ∀ {p q : Bool}, p = q → ∀ {w' : World}, Calls Tryz.prog 113 #[St.val ⟨k1, ⟨ho1, hn1⟩, wh1, ⟨ao1, an1⟩, ⟨bo1, bn1⟩, v1⟩, St.val ⟨k2, ⟨ho2, hn2⟩, wh2, ⟨ao2, an2⟩, ⟨bo2, bn2⟩, v2⟩] w (fun e w' => e = .returned (.bool p) ∧ Grew w w') → Calls Tryz.prog 113 #[St.val ⟨k1, ⟨ho1, hn1⟩, wh1, ⟨ao1, an1⟩, ⟨bo1, bn1⟩, v1⟩, St.val ⟨k2, ⟨ho2, hn2⟩, wh2, ⟨ao2, an2⟩, ⟨bo2, bn2⟩, v2⟩] w (fun e w' => e = .returned (.bool q) ∧ Grew w w') := by
    rintro p q rfl _ h; exact h
  unfold cmpS
  rcases rl_cases ho1 hn1 ho2 hn2 with h | ⟨rfl, h⟩ | ⟨rfl, rfl⟩
  · exact key (by rw [orL_cons1]; exact cmpR_ne (fun e => h (congrArg Rl.owner e))) (w' := w) (b_head1 _ _ _ _ _ _ _ _ _ _ _ _ _ _ _ _ _ _ _ (toList_ne h))
  · exact key (by rw [orL_cons1]; exact cmpR_ne (fun e => h (congrArg Rl.name e))) (w' := w) (b_head2 _ _ _ _ _ _ _ _ _ _ _ _ _ _ _ _ _ _ (toList_ne h))
  simp only [cmpR_same, orL_cons0]
  by_cases h : k1 = k2
  rotate_left
  · exact key (by rw [orL_cons1 _ (fun e => h (cmpN_eq.1 e))]; exact (dec_lt rfl (by rw [cmpN_lt, decide_eq_true_iff])).symm) (w' := w) (b_kind _ _ _ _ _ _ _ _ _ _ _ _ _ _ _ _ _ (by simpa using h))
  subst h
  simp only [cmpN_same, orL_cons0]
  by_cases h : wh1 = wh2
  rotate_left
  · exact key (by rw [orL_cons1 _ (fun e => h (cmpB_eq.1 e)), less_eq]; exact (dec_lt rfl cmpB_lt).symm) (w' := w) (b_who _ _ _ _ _ _ _ _ _ _ _ _ _ _ _ _ (toList_neb h))
  subst h
  simp only [cmpB_same, orL_cons0]
  rcases rl_cases ao1 an1 ao2 an2 with h | ⟨rfl, h⟩ | ⟨rfl, rfl⟩
  · exact key (by rw [orL_cons1]; exact cmpR_ne (fun e => h (congrArg Rl.owner e))) (w' := w) (b_a1 _ _ _ _ _ _ _ _ _ _ _ _ _ _ _ (toList_ne h))
  · exact key (by rw [orL_cons1]; exact cmpR_ne (fun e => h (congrArg Rl.name e))) (w' := w) (b_a2 _ _ _ _ _ _ _ _ _ _ _ _ _ _ (toList_ne h))
  simp only [cmpR_same, orL_cons0]
  rcases rl_cases bo1 bn1 bo2 bn2 with h | ⟨rfl, h⟩ | ⟨rfl, rfl⟩
  · exact key (by rw [orL_cons1]; exact cmpR_ne (fun e => h (congrArg Rl.owner e))) (w' := w) (b_b1 _ _ _ _ _ _ _ _ _ _ _ _ _ (toList_ne h))
  · exact key (by rw [orL_cons1]; exact cmpR_ne (fun e => h (congrArg Rl.name e))) (w' := w) (b_b2 _ _ _ _ _ _ _ _ _ _ _ _ (toList_ne h))
  simp only [cmpR_same, orL_cons0, orL_one]
  exact key (by rw [less_eq]; exact (dec_lt rfl cmpB_lt).symm) (w' := w) (b_via _ _ _ _ _ _ _ _ _ _ _)
end Go.Proofs.YtblapgfilbmdhaaGreatDoor.Syn3
