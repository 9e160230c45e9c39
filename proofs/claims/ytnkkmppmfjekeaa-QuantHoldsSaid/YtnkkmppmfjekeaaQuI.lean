/- Some, Each, Restrict, Put, by contract. -/
import Derived.Test.YtnkkmppmfjekeaaQuH
namespace Go.Proofs.Ytnkkmppmfjekeaa.QuI
open Go.RowKit Go.Lib Go.Proofs Go.Proofs.Ytnkkmppmfjekeaa.CaA Go.Proofs.Ytnkkmppmfjekeaa.NdA Go.Proofs.Ytnkkmppmfjekeaa.NdB Go.Proofs.Ytnkkmppmfjekeaa.NdC Go.Proofs.Ytnkkmppmfjekeaa.NdE Go.Proofs.Ytnkkmppmfjekeaa.NdG Go.Proofs.Ytnkkmppmfjekeaa.NdI Go.Proofs.Ytnkkmppmfjekeaa.NdL Go.Proofs.Ytnkkmppmfjekeaa.ItA Go.Proofs.Ytnkkmppmfjekeaa.ItB Go.Proofs.Ytnkkmppmfjekeaa.ItD Go.Proofs.Ytnkkmppmfjekeaa.ItH Go.Proofs.Ytnkkmppmfjekeaa.ItI Go.Proofs.Ytnkkmppmfjekeaa.ItK Go.Proofs.Ytnkkmppmfjekeaa.QuA Go.Proofs.Ytnkkmppmfjekeaa.QuB Go.Proofs.Ytnkkmppmfjekeaa.QuC Go.Proofs.Ytnkkmppmfjekeaa.QuM Go.Proofs.Ytnkkmppmfjekeaa.QuD Go.Proofs.Ytnkkmppmfjekeaa.QuH
set_option linter.unusedVariables false
set_option linter.unusedSimpArgs false
def anyS (K : Nat) (l : List Int) : Nat → Bool := fun i => l.any fun v => decide (v = (i : Int) ∧ i < K)
def someF (s : St) (l : List Int) (f : Int) : ItA.Fn := EL (anyS s.vars l) QuE.J s.vars (fun b => ev s.L b f)
def eachF (s : St) (l : List Int) (f : Int) : ItA.Fn := EL (anyS s.vars l) QuF.J s.vars (fun b => ev s.L b f)
def resF (s : St) (v : Int) (so : Bool) (f : Int) : ItA.Fn := fun b => if 0 ≤ v ∧ v < s.vars then ev s.L (put b v.toNat so) f else ev s.L b f
def putF (s : St) (v g f : Int) : ItA.Fn := fun b => if 0 ≤ v ∧ v < s.vars then (if ev s.L b g then ev s.L (put b v.toNat true) f else ev s.L (put b v.toNat false) f) else ev s.L b f
theorem any_one {K : Nat} {v : Int} (h : 0 ≤ v ∧ v < K) (i : Nat) : anyS K [v] i = decide (i = v.toNat) := by
  unfold anyS
  simp only [List.any_cons, List.any_nil, Bool.or_false]
  rw [decide_eq_decide]
  omega
theorem any_out {K : Nat} {v : Int} (h : ¬ (0 ≤ v ∧ v < K)) (i : Nat) : anyS K [v] i = false := by
  unfold anyS
  simp only [List.any_cons, List.any_nil, Bool.or_false]
  rw [decide_eq_false_iff_not]
  omega
theorem el_v {K : Nat} {v : Int} {J : Jn} (F : ItA.Fn) (b : Nat → Bool) : EL (anyS K [v]) J K F b = if 0 ≤ v ∧ v < K then J (cof F v.toNat false b) (cof F v.toNat true b) else F b := by
  by_cases h : 0 ≤ v ∧ v < K
  · rw [if_pos h, el_one (v := v.toNat) (by omega) (any_one h)]
  · rw [if_neg h, el_nil (fun i _ => any_out h i)]
section
variable {D : Nat} {x : Bx} {c : Nat} {s : St} {N : Nat} {w : World}
theorem QPost.ahead {w1 : World} {C K : Nat} {F : ItA.Fn} (hb : Below w.heap.size w w1) {e : Ending} {w' : World} (h : QPost D x c s N C K F w1 e w') : QPost D x c s N C K F w e w' := by
  obtain ⟨a, s', c', h1, h2, h3, h4, h5, h6⟩ := h
  exact ⟨a, s', c', h1, h2, h3, h4, h5, Upto.trans (Frm.of_below hb) (fun j hj => Or.inl hj) h6⟩
set_option maxRecDepth 100000 in
theorem some_ (A : Option Addr) (ca : Nat) (l : List Int) (f : Int) (hf : isB s f = true) (hs : s.spent = false) (hA : RowJ w A l) (hl : l.length ≤ 1000) (hbu : s.L.length + s.vars * 2 ^ s.vars ≤ s.budget) (hL : s.L.length + s.vars * 2 ^ s.vars ≤ 119900) (hN : N + s.vars * 2 ^ s.vars ≤ 900000) (hc : c + 2 * 2 ^ s.vars ≤ 1000000) (H : Bd w D x c s N) :
    Calls Try.prog 16 #[.pointer (some ⟨D, 0, none⟩), .int .i64 f, .slice A l.length ca] w (QPost D x c s N (s.vars * 2 ^ s.vars) (2 * 2 ^ s.vars) (someF s l f) w) := by
  have hmf : ∀ (fn : Fn) (first cap : Array Value) (w : World), (Instr.makeFunc fn first cap).run Try.prog w = .ok (.func fn first cap) w := fun _ _ _ _ => rfl
  have HW := Lib.hid (or_ A ca l f hf hs hA hl hbu hL hN hc H)
  unfold someF anyS
  clear hf hs hA hl hbu hL hN hc H
  generalize (EL (fun i : Nat => l.any fun v => decide (v = (i : Int) ∧ i < s.vars)) _ s.vars (fun b => ev s.L b f)) = F at *
  unfold QPost at *
  go_enter Try.func16, Try.ntmps16
  go_wp2_with fail
  refine HW.out.mono ?_
  rintro e w' ⟨a, s', c', rfl, k2, k3, k4, k5, k6⟩
  have HE := Lib.hid (And.intro k2 (And.intro k3 (And.intro k4 k6)))
  clear k2 k3 k4 k6 HW
  go_wp2_with fail
  go_ret
  exact ⟨a, s', c', rfl, HE.out.1, HE.out.2.1, HE.out.2.2.1, k5, HE.out.2.2.2⟩
set_option maxRecDepth 100000 in
theorem each_ (A : Option Addr) (ca : Nat) (l : List Int) (f : Int) (hf : isB s f = true) (hs : s.spent = false) (hA : RowJ w A l) (hl : l.length ≤ 1000) (hbu : s.L.length + s.vars * 2 ^ s.vars ≤ s.budget) (hL : s.L.length + s.vars * 2 ^ s.vars ≤ 119900) (hN : N + s.vars * 2 ^ s.vars ≤ 900000) (hc : c + 2 * 2 ^ s.vars ≤ 1000000) (H : Bd w D x c s N) :
    Calls Try.prog 18 #[.pointer (some ⟨D, 0, none⟩), .int .i64 f, .slice A l.length ca] w (QPost D x c s N (s.vars * 2 ^ s.vars) (2 * 2 ^ s.vars) (eachF s l f) w) := by
  have hmf : ∀ (fn : Fn) (first cap : Array Value) (w : World), (Instr.makeFunc fn first cap).run Try.prog w = .ok (.func fn first cap) w := fun _ _ _ _ => rfl
  have HW := Lib.hid (and_ A ca l f hf hs hA hl hbu hL hN hc H)
  unfold eachF anyS
  clear hf hs hA hl hbu hL hN hc H
  generalize (EL (fun i : Nat => l.any fun v => decide (v = (i : Int) ∧ i < s.vars)) _ s.vars (fun b => ev s.L b f)) = F at *
  unfold QPost at *
  go_enter Try.func18, Try.ntmps18
  go_wp2_with fail
  refine HW.out.mono ?_
  rintro e w' ⟨a, s', c', rfl, k2, k3, k4, k5, k6⟩
  have HE := Lib.hid (And.intro k2 (And.intro k3 (And.intro k4 k6)))
  clear k2 k3 k4 k6 HW
  go_wp2_with fail
  go_ret
  exact ⟨a, s', c', rfl, HE.out.1, HE.out.2.1, HE.out.2.2.1, k5, HE.out.2.2.2⟩
set_option maxRecDepth 100000 in
theorem restrict_ (f v : Int) (so : Bool) (hf : isB s f = true) (hs : s.spent = false) (hbu : s.L.length + s.vars * 2 ^ s.vars ≤ s.budget) (hL : s.L.length + s.vars * 2 ^ s.vars ≤ 119900) (hN : N + s.vars * 2 ^ s.vars ≤ 900000) (hc : c + 2 * 2 ^ s.vars ≤ 1000000) (H : Bd w D x c s N) :
    Calls Try.prog 13 #[.pointer (some ⟨D, 0, none⟩), .int .i64 f, .int .i64 v, .bool so] w (QPost D x c s N (s.vars * 2 ^ s.vars) (2 * 2 ^ s.vars) (resF s v so f) w) := by
  have hmf : ∀ (fn : Fn) (first cap : Array Value) (w : World), (Instr.makeFunc fn first cap).run Try.prog w = .ok (.func fn first cap) w := fun _ _ _ _ => rfl
  have hb : Below w.heap.size w ((w.alloc (.cells #[.bool so] 4)).alloc (.cells #[.int .i64 v] 3)) := ((Below.refl _ _).alloc (Nat.le_refl _) _).alloc (by simp) _
  have hr : RowJ ((w.alloc (.cells #[.bool so] 4)).alloc (.cells #[.int .i64 v] 3)) (some ⟨w.heap.size + 1, 0, none⟩) [v] := fun _ => ⟨w.heap.size + 1, 0, rfl, by simp, fun j hj => by
    have hj' : j = 0 := by simp at hj; omega
    subst hj'
    simp⟩
  have hP := (pick_ (some ⟨w.heap.size + 1, 0, none⟩) 1 [v] f w.heap.size so (by simpa using heap_alloc2_old w (.cells #[.bool so] 4) (.cells #[.int .i64 v] 3)) (fun h => absurd (H.foot h) (Nat.lt_irrefl _)) hf hs hr (by simp) hbu hL hN hc (H.below hb))
  have he : EL (fun i : Nat => [v].any fun v => decide (v = (i : Int) ∧ i < s.vars)) (QuG.J so) s.vars (fun b => ev s.L b f) = resF s v so f := by
    funext b
    have := el_v (K := s.vars) (v := v) (J := QuG.J so) (fun b => ev s.L b f) b
    unfold anyS at this
    rw [this]
    unfold resF QuG.J cof
    cases so <;> rfl
  rw [he] at hP
  have HW := Lib.hid (hP.mono fun e w' h => QPost.ahead hb h)
  clear hP he hr hb hf hs hbu hL hN hc H
  generalize resF s v so f = F at *
  unfold QPost at *
  go_enter Try.func13, Try.ntmps13
  go_wp2_with fail
  refine HW.out.mono ?_
  rintro e w' ⟨a, s', c', rfl, k2, k3, k4, k5, k6⟩
  have HE := Lib.hid (And.intro k2 (And.intro k3 (And.intro k4 k6)))
  clear k2 k3 k4 k6 HW
  go_wp2_with fail
  go_ret
  exact ⟨a, s', c', rfl, HE.out.1, HE.out.2.1, HE.out.2.2.1, k5, HE.out.2.2.2⟩
set_option maxHeartbeats 1000000 in
set_option maxRecDepth 100000 in
theorem put_ (f v g : Int) (hf : isB s f = true) (hg : isB s g = true) (hs : s.spent = false) (hv6 : s.vars ≤ 6) (hbu : s.L.length + 2 * (s.vars * 2 ^ s.vars) + 64 ≤ s.budget) (hL : s.L.length + 2 * (s.vars * 2 ^ s.vars) + 64 ≤ 119900) (hN : N + 2 * (s.vars * 2 ^ s.vars) + 64 ≤ 900000) (hc : c + 4 * 2 ^ s.vars + 3 ≤ 1000000) (H : Bd w D x c s N) :
    Calls Try.prog 14 #[.pointer (some ⟨D, 0, none⟩), .int .i64 f, .int .i64 v, .int .i64 g] w (QPost D x c s N (2 * (s.vars * 2 ^ s.vars) + 64) (4 * 2 ^ s.vars + 1) (putF s v g f) w) := by
  have hlen := H.tk.tb.len
  obtain ⟨r1, r2⟩ := is_range (by omega) hf
  obtain ⟨r3, r4⟩ := is_range (by omega) hg
  have HI := Lib.hid (is_ f r1 r2 H)
  have HG := Lib.hid (is_ g r3 r4 H)
  rw [hf] at HI
  rw [hg] at HG
  have HV := Lib.hid (vars_ H)
  by_cases hv : 0 ≤ v ∧ v < s.vars
  · have d0 : decide (v < 0) = false := by simp; omega
    have d1 : decide (v ≥ (s.vars : Int)) = false := by simp; omega
    have d2 : decide ((s.vars : Int) ≤ v) = false := by simp; omega
    have HR1 := Lib.hid (restrict_ f v true hf hs (by omega) (by omega) (by omega) (by omega) H)
    have HR2 := Lib.hid (fun w1 x1 c1 s1 (hB : Bd w1 D x1 c1 s1 (N + s.vars * 2 ^ s.vars)) (he : Ext s s1 (s.vars * 2 ^ s.vars)) (hk : c1 ≤ c + 2 * 2 ^ s.vars) => restrict_ (s := s1) f v false (he.is hf) he.sp (by rw [he.vars, he.bud]; have := he.len; omega) (by rw [he.vars]; have := he.len; omega) (by rw [he.vars]; omega) (by rw [he.vars]; omega) hB)
    have HI3 := Lib.hid (fun w2 x2 c2 s2 N2 a1 a2 (hB : Bd w2 D x2 c2 s2 N2) (hN2 : N2 = N + s.vars * 2 ^ s.vars + s.vars * 2 ^ s.vars) (he : Ext s s2 (s.vars * 2 ^ s.vars + s.vars * 2 ^ s.vars)) (hk : c2 ≤ c + 4 * 2 ^ s.vars) (h1 : isB s2 a1 = true) (h2 : isB s2 a2 = true) => iten_ (s := s2) g a1 a2 (he.is hg) h1 h2 (by rw [he.vars]; exact hv6) he.sp (by rw [he.bud]; have := he.len; omega) (by have := he.len; omega) (by omega) (by omega) hB)
    unfold AnsPost at HI3
    unfold QPost at HR1 HR2 ⊢
    have hev : ∀ (s1 s2 s3 : St) (C1 C2 : Nat) (a1 a2 a3 : Int), Ext s s1 C1 → Ext s1 s2 C2 → isB s1 a1 = true → (∀ b, ev s1.L b a1 = resF s v true f b) → (∀ b, ev s2.L b a2 = resF s1 v false f b) → (∀ b, ev s3.L b a3 = iteF s2.L g a1 a2 b) → ∀ b, ev s3.L b a3 = putF s v g f b := fun s1 s2 s3 C1 C2 a1 a2 a3 e1 e2 i1 h1 h2 h3 b => by
      rw [h3 b]
      unfold iteF putF
      have hv1 : 0 ≤ v ∧ v < (s1.vars : Int) := by rw [e1.vars]; exact hv
      rw [(e1.trans e2).ev hg, e2.ev i1, h1 b, h2 b]
      unfold resF
      simp only [if_pos hv, if_pos hv1, e1.ev hf]
    have HEv := Lib.hid hev
    have HNum := Lib.hid (And.intro hv6 (And.intro hbu (And.intro hL (And.intro hN hc))))
    clear hev H hbu hL hN hc hlen hf hg hs hv6 hv
    go_enter Try.func14, Try.ntmps14
    go_wp2_with fail
    refine HI.out.mono ?_
    rintro e w' ⟨rfl, rfl⟩
    go_wp2_with fail
    refine HG.out.mono ?_
    rintro e w' ⟨rfl, rfl⟩
    go_wp2_with fail
    refine HV.out.mono ?_
    rintro e w' ⟨rfl, rfl⟩
    clear HI HG HV
    go_wp2_with fail
    refine HR1.out.mono ?_
    rintro e w1 ⟨a1, s1, c1, rfl, k2, k3, k4, k5, x1, kb, kf, kk⟩
    have HC2 := Lib.hid (HR2.out w1 x1 c1 s1 kb k2 k5)
    have HK1 := Lib.hid (And.intro k2 (And.intro k3 (And.intro k4 (And.intro k5 (And.intro kf kk)))))
    clear k2 k3 k4 k5 kb kf kk HR1 HR2
    go_wp2_with fail
    refine HC2.out.mono ?_
    rintro e w2 ⟨a2, s2, c2, rfl, k2, k3, k4, k5, x2, kb, kf, kk⟩
    obtain ⟨j2, j3, j4, j5, jf, jk⟩ := HK1.out
    rw [j2.vars] at k2 k5 kb
    have HC3 := Lib.hid (HI3.out w2 x2 c2 s2 _ a1 a2 kb rfl (j2.trans k2) (by omega) (k2.is j3) k3)
    have HK2 := Lib.hid (And.intro k2 (And.intro k3 (And.intro k4 (And.intro k5 (And.intro kf kk)))))
    clear k2 k3 k4 k5 kb kf kk HC2 j2 j3 j4 j5 jf jk HI3
    go_wp2_with fail
    refine HC3.out.mono ?_
    rintro e w3 ⟨a3, s3, c3, rfl, hA, hc3, hU⟩
    obtain ⟨j2, j3, j4, j5, jf, jk⟩ := HK1.out
    obtain ⟨k2, k3, k4, k5, kf, kk⟩ := HK2.out
    have HE : Hid (Ext s s3 (2 * (s.vars * 2 ^ s.vars) + 64) ∧ isB s3 a3 = true ∧ (∀ b, ev s3.L b a3 = putF s v g f b) ∧ Upto D x w w3 c3 s3 (N + (2 * (s.vars * 2 ^ s.vars) + 64))) := Lib.hid ⟨((j2.trans k2).trans hA.ext).more (by omega), hA.dg.is, HEv.out s1 s2 s3 _ _ a1 a2 a3 j2 k2 j3 j4 k4 hA.ev, up_more (Upto.trans jf jk (Upto.trans kf kk hU)) (by omega)⟩
    have hc4 : c3 ≤ c + (4 * 2 ^ s.vars + 1) := by omega
    clear hA hU hc3 j2 j3 j4 j5 jf jk k2 k3 k4 k5 kf kk HC3 HK1 HK2 HEv
    go_wp2_with fail
    go_ret
    exact ⟨a3, s3, c3, rfl, HE.out.1, HE.out.2.1, HE.out.2.2.1, hc4, HE.out.2.2.2⟩
  · have HE : Hid (QPost D x c s N (2 * (s.vars * 2 ^ s.vars) + 64) (4 * 2 ^ s.vars + 1) (putF s v g f) w (.returned (.int .i64 f)) w) := Lib.hid ⟨f, s, c, rfl, Ext.refl hs _, hf, fun b => by unfold putF; rw [if_neg hv], by omega, up_more (H.upto (Below.refl _ w)) (by omega)⟩
    by_cases h0 : v < 0
    · have d0 : decide (v < 0) = true := decide_eq_true h0
      clear H hbu hL hN hc hlen hf hg hs hv6 hv
      go_enter Try.func14, Try.ntmps14
      go_wp2_with fail
      refine HI.out.mono ?_
      rintro e w' ⟨rfl, rfl⟩
      go_wp2_with fail
      refine HG.out.mono ?_
      rintro e w' ⟨rfl, rfl⟩
      go_wp2_with fail
      go_ret
      exact HE.out
    · have d0 : decide (v < 0) = false := decide_eq_false h0
      have d1 : decide (v ≥ (s.vars : Int)) = true := by simp; omega
      have d2 : decide ((s.vars : Int) ≤ v) = true := by simp; omega
      clear H hbu hL hN hc hlen hf hg hs hv6 hv
      go_enter Try.func14, Try.ntmps14
      go_wp2_with fail
      refine HI.out.mono ?_
      rintro e w' ⟨rfl, rfl⟩
      go_wp2_with fail
      refine HG.out.mono ?_
      rintro e w' ⟨rfl, rfl⟩
      go_wp2_with fail
      refine HV.out.mono ?_
      rintro e w' ⟨rfl, rfl⟩
      go_wp2_with fail
      go_ret
      exact HE.out
end
end Go.Proofs.Ytnkkmppmfjekeaa.QuI
