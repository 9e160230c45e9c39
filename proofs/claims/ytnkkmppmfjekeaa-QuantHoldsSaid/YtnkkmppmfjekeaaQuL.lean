/- Diagrams that one makes more and more of: what stays, and what they cost; the document's example of layer 17. -/
import Derived.Test.YtnkkmppmfjekeaaQuK
import Derived.Test.YtnkkmppmfjekeaaItU
namespace Go.Proofs.Ytnkkmppmfjekeaa.QuL
open Go.RowKit Go.Lib Go.Proofs Go.Proofs.Ytnkkmppmfjekeaa.CaA Go.Proofs.Ytnkkmppmfjekeaa.NdA Go.Proofs.Ytnkkmppmfjekeaa.NdB Go.Proofs.Ytnkkmppmfjekeaa.NdC Go.Proofs.Ytnkkmppmfjekeaa.NdE Go.Proofs.Ytnkkmppmfjekeaa.NdG Go.Proofs.Ytnkkmppmfjekeaa.NdI Go.Proofs.Ytnkkmppmfjekeaa.NdL Go.Proofs.Ytnkkmppmfjekeaa.ItA Go.Proofs.Ytnkkmppmfjekeaa.ItB Go.Proofs.Ytnkkmppmfjekeaa.ItD Go.Proofs.Ytnkkmppmfjekeaa.ItF Go.Proofs.Ytnkkmppmfjekeaa.ItH Go.Proofs.Ytnkkmppmfjekeaa.ItI Go.Proofs.Ytnkkmppmfjekeaa.ItK Go.Proofs.Ytnkkmppmfjekeaa.ItL Go.Proofs.Ytnkkmppmfjekeaa.ItM Go.Proofs.Ytnkkmppmfjekeaa.QuA Go.Proofs.Ytnkkmppmfjekeaa.QuB Go.Proofs.Ytnkkmppmfjekeaa.QuC Go.Proofs.Ytnkkmppmfjekeaa.QuD Go.Proofs.Ytnkkmppmfjekeaa.QuH Go.Proofs.Ytnkkmppmfjekeaa.QuI Go.Proofs.Ytnkkmppmfjekeaa.QuJ Go.Proofs.Ytnkkmppmfjekeaa.QuK
set_option linter.unusedVariables false
set_option linter.unusedSimpArgs false
/-- Diagrams behind W: of at most q nodes, and at most j calls and hits. -/
def Lq (W : World) (D : Nat) (x0 : Bx) (K b : Nat) (w : World) (s : St) (q j : Nat) : Prop := ∃ x c N, Bd w D x c s N ∧ c ≤ j ∧ N ≤ j ∧ s.L.length ≤ q ∧ s.spent = false ∧ s.vars = K ∧ s.budget = b ∧ Frm (FootD D x0) W w ∧ ∀ i, FootD D x i → FootD D x0 i ∨ W.heap.size ≤ i
def LqPost (W : World) (D : Nat) (x0 : Bx) (K b : Nat) (s : St) (q j : Nat) (F : ItA.Fn) (e : Ending) (w' : World) : Prop := ∃ a s', e = .returned (.int .i64 a) ∧ isB s' a = true ∧ (∀ b, ev s'.L b a = F b) ∧ Ext s s' q ∧ Lq W D x0 K b w' s' q j
section
variable {W : World} {D : Nat} {x0 : Bx} {K b : Nat} {w : World} {s : St} {q j : Nat}
theorem Lq.wf (H : Lq W D x0 K b w s q j) : WF s := by
  obtain ⟨x, c, N, h, _⟩ := H
  exact h.tk.tb.wf
theorem Lq.below {w' : World} (H : Lq W D x0 K b w s q j) (hb : Below w.heap.size w w') : Lq W D x0 K b w' s q j := by
  obtain ⟨x, c, N, h1, h2, h3, h4, h5, h6, h7, h8, h9⟩ := H
  exact ⟨x, c, N, h1.below hb, h2, h3, h4, h5, h6, h7, h8.trans (Frm.of_below (F := fun _ => False) hb) (fun k hk => absurd hk id), h9⟩
theorem Lq.old (H : Lq W D x0 K b w s q j) {i : Nat} (hi : i < W.heap.size) (hn : ¬ FootD D x0 i) : w.heap[i]? = W.heap[i]? := by
  obtain ⟨x, c, N, h1, h2, h3, h4, h5, h6, h7, h8, h9⟩ := H
  exact h8.block i hi hn
theorem Lq.more {q' j' : Nat} (H : Lq W D x0 K b w s q j) (hq : q ≤ q') (hj : j ≤ j') : Lq W D x0 K b w s q' j' := by
  obtain ⟨x, c, N, h1, h2, h3, h4, h⟩ := H
  exact ⟨x, c, N, h1, by omega, by omega, by omega, h⟩
theorem Lq.rng (H : Lq W D x0 K b w s q j) {f : Int} (hf : isB s f = true) : -9223372036854775808 ≤ f ∧ f ≤ 9223372036854775807 := by
  obtain ⟨x, c, N, h1, _⟩ := H
  exact is_range (by have := h1.tk.tb.len; omega) hf
/-- Two that are true at the same are one number. -/
theorem same_num {s : St} (H : WF s) {a b : Int} (ha : isB s a = true) (hb : isB s b = true) (h : ∀ g, ev s.L g a = ev s.L g b) : a = b := by
  obtain ⟨a0, a1⟩ := isB_iff.1 ha
  obtain ⟨b0, b1⟩ := isB_iff.1 hb
  have ea : ((a.toNat : Nat) : Int) = a := by omega
  have eb : ((b.toNat : Nat) : Int) = b := by omega
  have := once (s := s) H (a := a.toNat) (b := b.toNat) (by omega) (by omega) (fun g => by rw [ea, eb]; exact h g)
  omega
theorem Lq.up {x : Bx} {c N C k q' j' c' : Nat} {s' : St} {w' : World} (h1 : Bd w D x c s N) (hl : s.L.length ≤ q) (h6 : s.vars = K) (h7 : s.budget = b) (h8 : Frm (FootD D x0) W w) (h9 : ∀ i, FootD D x i → FootD D x0 i ∨ W.heap.size ≤ i) (he : Ext s s' C) (hU : Upto D x w w' c' s' k) (hc : c' ≤ j') (hk : k ≤ j') (hq : q + C ≤ q') : Lq W D x0 K b w' s' q' j' := by
  obtain ⟨x', b1, b2, b3⟩ := hU
  refine ⟨x', c', k, b1, hc, hk, by have := he.len; omega, he.sp, he.vars.trans h6, he.bud.trans h7, h8.trans b2 h9, fun i hi => ?_⟩
  rcases b3 i hi with h | h
  · exact h9 i h
  · exact Or.inr (Nat.le_trans h8.size h)
theorem lq_of {C k : Nat} {F : ItA.Fn} {fid : Nat} {args : Array Value} (h : ∀ x c N, Bd w D x c s N → c ≤ j → N ≤ j → Calls Try.prog fid args w (QPost D x c s N C k F w)) (H : Lq W D x0 K b w s q j) : Calls Try.prog fid args w (LqPost W D x0 K b s (q + C) (j + C + k) F) := by
  obtain ⟨x, c, N, h1, h2, h3, h4, h5, h6, h7, h8, h9⟩ := H
  refine (h x c N h1 h2 h3).mono ?_
  rintro e w' ⟨a, s', c', rfl, k1, k2, k3, k4, k5⟩
  exact ⟨a, s', rfl, k2, k3, k1.more (by omega), Lq.up h1 h4 h6 h7 h8 h9 k1 k5 (by omega) (by omega) (by omega)⟩
theorem kc {K : Nat} (h : K ≤ 6) : K * 2 ^ K ≤ 384 ∧ 2 ^ K ≤ 64 := by
  have h2 : 2 ^ K ≤ 2 ^ 6 := Nat.pow_le_pow_right (by omega) h
  exact ⟨Nat.le_trans (Nat.mul_le_mul h h2) (by omega), h2⟩
theorem lq_some (A : Option Addr) (ca : Nat) (l : List Int) (f : Int) (hK : K ≤ 6) (hf : isB s f = true) (hA : RowJ w A l) (hl : l.length ≤ 1000) (hb : q + K * 2 ^ K ≤ b) (hq : q + 384 ≤ 119900) (hj : j + 384 ≤ 900000) (H : Lq W D x0 K b w s q j) :
    Calls Try.prog 16 #[.pointer (some ⟨D, 0, none⟩), .int .i64 f, .slice A l.length ca] w (LqPost W D x0 K b s (q + K * 2 ^ K) (j + 512) (someF s l f)) := by
  obtain ⟨k1, k2⟩ := kc hK
  have H2 := H
  obtain ⟨x, c, N, h1, h2, h3, h4, h5, h6, h7, h8, h9⟩ := H2
  subst h6
  refine (lq_of (C := s.vars * 2 ^ s.vars) (k := 2 * 2 ^ s.vars) (fun x c N g1 g2 g3 => some_ A ca l f hf h5 hA hl (by omega) (by omega) (by omega) (by omega) g1) H).mono ?_
  rintro e w' ⟨a, s', rfl, k3, k4, k5, k6⟩
  exact ⟨a, s', rfl, k3, k4, k5, k6.more (Nat.le_refl _) (by omega)⟩
theorem lq_each (A : Option Addr) (ca : Nat) (l : List Int) (f : Int) (hK : K ≤ 6) (hf : isB s f = true) (hA : RowJ w A l) (hl : l.length ≤ 1000) (hb : q + K * 2 ^ K ≤ b) (hq : q + 384 ≤ 119900) (hj : j + 384 ≤ 900000) (H : Lq W D x0 K b w s q j) :
    Calls Try.prog 18 #[.pointer (some ⟨D, 0, none⟩), .int .i64 f, .slice A l.length ca] w (LqPost W D x0 K b s (q + K * 2 ^ K) (j + 512) (eachF s l f)) := by
  obtain ⟨k1, k2⟩ := kc hK
  have H2 := H
  obtain ⟨x, c, N, h1, h2, h3, h4, h5, h6, h7, h8, h9⟩ := H2
  subst h6
  refine (lq_of (C := s.vars * 2 ^ s.vars) (k := 2 * 2 ^ s.vars) (fun x c N g1 g2 g3 => each_ A ca l f hf h5 hA hl (by omega) (by omega) (by omega) (by omega) g1) H).mono ?_
  rintro e w' ⟨a, s', rfl, k3, k4, k5, k6⟩
  exact ⟨a, s', rfl, k3, k4, k5, k6.more (Nat.le_refl _) (by omega)⟩
theorem lq_restrict (f v : Int) (so : Bool) (hK : K ≤ 6) (hf : isB s f = true) (hb : q + K * 2 ^ K ≤ b) (hq : q + 384 ≤ 119900) (hj : j + 384 ≤ 900000) (H : Lq W D x0 K b w s q j) :
    Calls Try.prog 13 #[.pointer (some ⟨D, 0, none⟩), .int .i64 f, .int .i64 v, .bool so] w (LqPost W D x0 K b s (q + K * 2 ^ K) (j + 512) (resF s v so f)) := by
  obtain ⟨k1, k2⟩ := kc hK
  have H2 := H
  obtain ⟨x, c, N, h1, h2, h3, h4, h5, h6, h7, h8, h9⟩ := H2
  subst h6
  refine (lq_of (C := s.vars * 2 ^ s.vars) (k := 2 * 2 ^ s.vars) (fun x c N g1 g2 g3 => restrict_ f v so hf h5 (by omega) (by omega) (by omega) (by omega) g1) H).mono ?_
  rintro e w' ⟨a, s', rfl, k3, k4, k5, k6⟩
  exact ⟨a, s', rfl, k3, k4, k5, k6.more (Nat.le_refl _) (by omega)⟩
theorem lq_put (f v g : Int) (hK : K ≤ 6) (hf : isB s f = true) (hg : isB s g = true) (hb : q + 832 ≤ b) (hq : q + 832 ≤ 119900) (hj : j + 832 ≤ 900000) (H : Lq W D x0 K b w s q j) :
    Calls Try.prog 14 #[.pointer (some ⟨D, 0, none⟩), .int .i64 f, .int .i64 v, .int .i64 g] w (LqPost W D x0 K b s (q + 832) (j + 1200) (putF s v g f)) := by
  obtain ⟨k1, k2⟩ := kc hK
  have H2 := H
  obtain ⟨x, c, N, h1, h2, h3, h4, h5, h6, h7, h8, h9⟩ := H2
  subst h6
  refine (lq_of (C := 2 * (s.vars * 2 ^ s.vars) + 64) (k := 4 * 2 ^ s.vars + 1) (fun x c N g1 g2 g3 => put_ f v g hf hg h5 hK (by omega) (by omega) (by omega) (by omega) g1) H).mono ?_
  rintro e w' ⟨a, s', rfl, k3, k4, k5, k6⟩
  exact ⟨a, s', rfl, k3, k4, k5.more (by omega), k6.more (by omega) (by omega)⟩
theorem qpost_ans {x : Bx} {c N n C M k : Nat} {F : ItA.Fn} {e : Ending} {w' : World} (hCM : M ≤ C) (h : AnsPost D x c s N n C M k F w e w') : QPost D x c s N C k F w e w' := by
  obtain ⟨a, s', c', h1, h2, h3, h4⟩ := h
  exact ⟨a, s', c', h1, h2.ext, h2.dg.is, h2.ev, h3, up_more h4 (by omega)⟩
theorem lq_not (f : Int) (hK : K ≤ 6) (hf : isB s f = true) (hb : q + 64 ≤ b) (hq : q + 64 ≤ 119900) (hj : j + 64 ≤ 900000) (H : Lq W D x0 K b w s q j) :
    Calls Try.prog 23 #[.pointer (some ⟨D, 0, none⟩), .int .i64 f] w (LqPost W D x0 K b s (q + 64) (j + 65) (iteF s.L f 0 1)) := by
  have H2 := H
  obtain ⟨x, c, N, h1, h2, h3, h4, h5, h6, h7, h8, h9⟩ := H2
  subst h6
  exact lq_of (C := 64) (k := 1) (fun x c N g1 g2 g3 => (notn_ f hf hK h5 (by omega) (by omega) (by omega) (by omega) g1).mono (fun e w' h => qpost_ans (Nat.le_refl _) h)) H
theorem lit_dep (K v : Nat) : Dep K 0 (litF K v) := fun b c h => by
  unfold litF
  by_cases hv : v < K
  · rw [h v (Nat.zero_le _) hv]
  · simp [hv]
theorem lq_lit (v : Nat) (hK : K ≤ 6) (hb : q + 2 ^ K ≤ b) (hq : q + 64 ≤ 119900) (hj : j + 64 ≤ 900000) (H : Lq W D x0 K b w s q j) :
    Calls Try.prog 27 #[.pointer (some ⟨D, 0, none⟩), .int .i64 v] w (LqPost W D x0 K b s (q + 2 ^ K) (j + 129) (litF K v)) := by
  obtain ⟨k1, k2⟩ := kc hK
  obtain ⟨x, c, N, h1, h2, h3, h4, h5, h6, h7, h8, h9⟩ := H
  subst h6
  refine (lit_ v (by omega) (by omega) (by omega) h1).mono ?_
  rintro e w' ⟨a, s', rfl, hR, hU⟩
  have hA := ans_of h1.tk.tb.wf h5 (by omega) (Nat.le_refl _) (by rw [Nat.sub_self]; exact lit_dep s.vars v) hR
  exact ⟨a, s', rfl, hA.dg.is, hA.ev, hA.ext.more (by omega), Lq.up h1 h4 rfl h7 h8 h9 hA.ext hU (by omega) (by omega) (by omega)⟩
theorem lq_and2 (f g : Int) (hK : K ≤ 6) (hf : isB s f = true) (hg : isB s g = true) (hb : q + 2 * 2 ^ K ≤ b) (hq : q + 128 ≤ 119900) (hj : j + 128 ≤ 900000) (H : Lq W D x0 K b w s q j) :
    Calls Try.prog 44 #[.pointer (some ⟨D, 0, none⟩), .slice (some ⟨w.heap.size, 0, none⟩) 2 2] (w.alloc (.cells #[.int .i64 f, .int .i64 g] 3)) (LqPost W D x0 K b s (q + 2 * 2 ^ K) (j + 130) (allF s.L [f, g])) := by
  obtain ⟨k1, k2⟩ := kc hK
  have hba := (Below.refl w.heap.size w).alloc (Nat.le_refl _) (.cells #[.int .i64 f, .int .i64 g] 3)
  have H2 := H
  obtain ⟨x, c, N, h1, h2, h3, h4, h5, h6, h7, h8, h9⟩ := H2
  subst h6
  have hall : ∀ y ∈ [f, g], Dg s s.vars y := fun y hy => by
    simp only [List.mem_cons, List.not_mem_nil, or_false] at hy
    rcases hy with rfl | rfl
    · exact dg_top h1.tk.tb.wf hf
    · exact dg_top h1.tk.tb.wf hg
  refine (andn_ s.vars (some ⟨w.heap.size, 0, none⟩) 2 [f, g] (by simp) hall (rowI_new w [f, g] 3) (fun a ha hq => by
    injection ha with ha
    subst ha
    exact absurd (h1.foot hq) (Nat.lt_irrefl _)) (fun h => by cases h) (Nat.le_refl _) h5 (by show s.L.length + 2 ^ s.vars * 2 ≤ _; omega) (by show s.L.length + 2 ^ s.vars * 2 ≤ _; omega) (by show N + 2 ^ s.vars * 2 ≤ _; omega) (by show c + 2 ≤ _; omega) (h1.below hba)).mono ?_
  rintro e w' ⟨a, s', c', rfl, hA, hc, hU⟩
  have hc' : c' ≤ c + 2 := hc
  have hA2 : Ext s s' (2 ^ s.vars * 2) := hA.ext
  have hU2 : Upto D x _ w' c' s' (N + 2 ^ s.vars * 2) := hU
  exact ⟨a, s', rfl, hA.dg.is, hA.ev, hA2.more (by omega), Lq.up (h1.below hba) h4 rfl h7 (h8.trans (Frm.of_below (F := fun _ => False) hba) (fun k hk => absurd hk id)) h9 hA2 hU2 (by omega) (by omega) (by omega)⟩
theorem lq_size (f : Int) (hf : isB s f = true) (H : Lq W D x0 K b w s q j) : Calls Try.prog 24 #[.pointer (some ⟨D, 0, none⟩), .int .i64 f] w fun e w' => ∃ R : List Int, e = .returned (.int .i64 R.length) ∧ All s R f ∧ Lq W D x0 K b w' s q j := by
  have hr := H.rng hf
  have H2 := H
  obtain ⟨x, c, N, h1, _⟩ := H2
  refine (size_ f hr h1).mono ?_
  rintro e w' ⟨R, rfl, h2, h3⟩
  exact ⟨R, rfl, h2, H.below h3⟩
end
end Go.Proofs.Ytnkkmppmfjekeaa.QuL
