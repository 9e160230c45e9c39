/- Diagrams: the document's example. -/
import Derived.Test.YtnkkmppmfjekeaaItP
namespace Go.Proofs.Ytnkkmppmfjekeaa.ItU
open Go.RowKit Go.Lib Go.Proofs Go.Proofs.Ytnkkmppmfjekeaa.CaA Go.Proofs.Ytnkkmppmfjekeaa.NdA Go.Proofs.Ytnkkmppmfjekeaa.NdB Go.Proofs.Ytnkkmppmfjekeaa.NdC Go.Proofs.Ytnkkmppmfjekeaa.NdE Go.Proofs.Ytnkkmppmfjekeaa.NdG Go.Proofs.Ytnkkmppmfjekeaa.NdI Go.Proofs.Ytnkkmppmfjekeaa.ItA Go.Proofs.Ytnkkmppmfjekeaa.ItB Go.Proofs.Ytnkkmppmfjekeaa.ItD Go.Proofs.Ytnkkmppmfjekeaa.ItF Go.Proofs.Ytnkkmppmfjekeaa.ItH Go.Proofs.Ytnkkmppmfjekeaa.ItI Go.Proofs.Ytnkkmppmfjekeaa.ItK Go.Proofs.Ytnkkmppmfjekeaa.ItL Go.Proofs.Ytnkkmppmfjekeaa.ItM
set_option linter.unusedVariables false
set_option linter.unusedSimpArgs false
theorem res_un {s s' : St} {r a : Int} {M : List Nd} (h : Res s r M a s') (hs : s.spent = false) (hl : M.length ≤ s.budget) : a = r ∧ s' = { s with L := M } := by
  rcases h with ⟨_, _, h3, h4⟩ | ⟨h1, _, _⟩
  · exact ⟨h3, h4⟩
  · rcases h1 with h1 | h1
    · rw [hs] at h1; cases h1
    · omega
/-- Diagrams of one's own, behind so many calls. -/
def Lv (w0 : World) (D : Nat) (s : St) (j : Nat) (w : World) : Prop := ∃ x c N, Bd w D x c s N ∧ c ≤ 3 * j ∧ N ≤ 192 * j ∧ Below w0.heap.size w0 w ∧ ∀ q, FootD D x q → w0.heap.size ≤ q
theorem Lv.up {w0 w w' : World} {D : Nat} {x : Bx} {c N j : Nat} {s : St} (hb : Below w0.heap.size w0 w) (hf : ∀ q, FootD D x q → w0.heap.size ≤ q) (hU : Upto D x w w' c s N) (hc : c ≤ 3 * j) (hN : N ≤ 192 * j) : Lv w0 D s j w' := by
  obtain ⟨x', h1, h2, h3⟩ := hU
  exact ⟨x', c, N, h1, hc, hN, Frm.below hb h2 hf, fun q hq => by
    rcases h3 q hq with e | e
    · exact hf q e
    · exact Nat.le_trans hb.size e⟩
theorem Lv.foot {w0 w : World} {D : Nat} {s : St} {j : Nat} (h : Lv w0 D s j w) : Below w0.heap.size w0 w := by
  obtain ⟨x, c, N, h1, h2, h3, h4, h5⟩ := h
  exact h4
theorem lv_lit {w0 w : World} {D : Nat} {s : St} {j v : Nat} {r : Int} {M : List Nd} (H : Lv w0 D s j w) (hj : j ≤ 20) (hL : s.L.length ≤ 100) (hs : s.spent = false) (hl : M.length ≤ s.budget) (he : top s.vars s.L (litF s.vars v) = (r, M)) :
    Calls Try.prog 27 #[.pointer (some ⟨D, 0, none⟩), .int .i64 v] w fun e w' => e = .returned (.int .i64 r) ∧ Lv w0 D { s with L := M } (j + 1) w' := by
  obtain ⟨x, c, N, hB, hc, hN, hb, hf⟩ := H
  refine (lit_ v (by omega) (by omega) (by omega) hB).mono ?_
  rintro e w' ⟨a, s', rfl, hR, hU⟩
  rw [he] at hR
  obtain ⟨rfl, rfl⟩ := res_un hR hs hl
  exact ⟨rfl, Lv.up hb hf hU (by omega) (by omega)⟩
theorem lv_not {w0 w : World} {D : Nat} {s : St} {j : Nat} {f r : Int} {M : List Nd} (H : Lv w0 D s j w) (hj : j ≤ 20) (hv : s.vars ≤ 6) (hL : s.L.length ≤ 100) (hf0 : isB s f = true) (hs : s.spent = false) (hl : M.length ≤ s.budget) (he : top s.vars s.L (iteF s.L f 0 1) = (r, M)) :
    Calls Try.prog 23 #[.pointer (some ⟨D, 0, none⟩), .int .i64 f] w fun e w' => e = .returned (.int .i64 r) ∧ Lv w0 D { s with L := M } (j + 1) w' := by
  obtain ⟨x, c, N, hB, hc, hN, hb, hf⟩ := H
  refine (not_ f hf0 hv (by omega) (by omega) (by omega) hB).mono ?_
  rintro e w' ⟨a, s', rfl, hR, hU⟩
  rw [he] at hR
  obtain ⟨rfl, rfl⟩ := res_un hR hs hl
  exact ⟨rfl, Lv.up hb hf hU (by omega) (by omega)⟩
theorem two_all {s : St} {f g : Int} (hf : isB s f = true) (hg : isB s g = true) : ∀ y ∈ [f, g], isB s y = true := fun y hy => by
  simp only [List.mem_cons, List.not_mem_nil, or_false] at hy
  rcases hy with rfl | rfl
  · exact hf
  · exact hg
theorem lv_and {w0 w : World} {D : Nat} {s : St} {j : Nat} {f g r : Int} {M : List Nd} (H : Lv w0 D s j w) (hj : j ≤ 20) (hv : s.vars ≤ 6) (hL : s.L.length ≤ 100) (hf0 : isB s f = true) (hg0 : isB s g = true) (hs : s.spent = false) (hl : M.length ≤ s.budget) (he : (srtI s.vars s.L [f, g]).foldl (stA s.vars) (1, s.L) = (r, M)) :
    Calls Try.prog 44 #[.pointer (some ⟨D, 0, none⟩), .slice (some ⟨w.heap.size, 0, none⟩) 2 2] (w.alloc (.cells #[.int .i64 f, .int .i64 g] 3)) fun e w' => e = .returned (.int .i64 r) ∧ Lv w0 D { s with L := M } (j + 1) w' := by
  obtain ⟨x, c, N, hB, hc, hN, hb, hf⟩ := H
  have hba := (Below.refl w.heap.size w).alloc (Nat.le_refl _) (.cells #[.int .i64 f, .int .i64 g] 3)
  refine (and_ (some ⟨w.heap.size, 0, none⟩) 2 [f, g] (by simp) (two_all hf0 hg0) (rowI_new w [f, g] 3) (fun a ha hq => by
    injection ha with ha
    subst ha
    have := hB.foot hq
    simp at this) (fun h => by cases h) hv (by simp; omega) (by simp; omega) (by omega) (hB.below hba)).mono ?_
  rintro e w' ⟨a, s', rfl, hR, hU⟩
  rw [he] at hR
  obtain ⟨rfl, rfl⟩ := res_un hR hs hl
  exact ⟨rfl, Lv.up (hb.trans (hba.mono hb.size)) hf hU (by simp; omega) (by simp; omega)⟩
theorem lv_or {w0 w : World} {D : Nat} {s : St} {j : Nat} {f g r : Int} {M : List Nd} (H : Lv w0 D s j w) (hj : j ≤ 20) (hv : s.vars ≤ 6) (hL : s.L.length ≤ 100) (hf0 : isB s f = true) (hg0 : isB s g = true) (hs : s.spent = false) (hl : M.length ≤ s.budget) (he : (srtI s.vars s.L [f, g]).foldl (stO s.vars) (0, s.L) = (r, M)) :
    Calls Try.prog 45 #[.pointer (some ⟨D, 0, none⟩), .slice (some ⟨w.heap.size, 0, none⟩) 2 2] (w.alloc (.cells #[.int .i64 f, .int .i64 g] 3)) fun e w' => e = .returned (.int .i64 r) ∧ Lv w0 D { s with L := M } (j + 1) w' := by
  obtain ⟨x, c, N, hB, hc, hN, hb, hf⟩ := H
  have hba := (Below.refl w.heap.size w).alloc (Nat.le_refl _) (.cells #[.int .i64 f, .int .i64 g] 3)
  refine (or_ (some ⟨w.heap.size, 0, none⟩) 2 [f, g] (by simp) (two_all hf0 hg0) (rowI_new w [f, g] 3) (fun a ha hq => by
    injection ha with ha
    subst ha
    have := hB.foot hq
    simp at this) (fun h => by cases h) hv (by simp; omega) (by simp; omega) (by omega) (hB.below hba)).mono ?_
  rintro e w' ⟨a, s', rfl, hR, hU⟩
  rw [he] at hR
  obtain ⟨rfl, rfl⟩ := res_un hR hs hl
  exact ⟨rfl, Lv.up (hb.trans (hba.mono hb.size)) hf hU (by simp; omega) (by simp; omega)⟩
theorem srtI_nil (K : Nat) (L : List Nd) : srtI K L [] = [] := List.length_eq_zero_iff.1 (srtI_len K L [])
theorem lv_and0 {w0 w : World} {D : Nat} {s : St} {j : Nat} (H : Lv w0 D s j w) (hj : j ≤ 20) (hv : s.vars ≤ 6) (hL : s.L.length ≤ 100) (hs : s.spent = false) (hl : s.L.length ≤ s.budget) :
    Calls Try.prog 44 #[.pointer (some ⟨D, 0, none⟩), .slice none 0 0] w fun e w' => e = .returned (.int .i64 1) ∧ Lv w0 D s (j + 1) w' := by
  obtain ⟨x, c, N, hB, hc, hN, hb, hf⟩ := H
  refine (and_ none 0 [] (by simp) (fun f hf => absurd hf (by simp)) (rowI_nil w) (fun a ha => by cases ha) (fun _ => ⟨rfl, rfl⟩) hv (by simp; omega) (by simp; omega) (by omega) hB).mono ?_
  rintro e w' ⟨a, s', rfl, hR, hU⟩
  rw [srtI_nil] at hR
  obtain ⟨h1, h2⟩ := res_un hR hs hl
  subst h1 h2
  exact ⟨rfl, Lv.up hb hf hU (by simp; omega) (by simp; omega)⟩
theorem lv_or0 {w0 w : World} {D : Nat} {s : St} {j : Nat} (H : Lv w0 D s j w) (hj : j ≤ 20) (hv : s.vars ≤ 6) (hL : s.L.length ≤ 100) (hs : s.spent = false) (hl : s.L.length ≤ s.budget) :
    Calls Try.prog 45 #[.pointer (some ⟨D, 0, none⟩), .slice none 0 0] w fun e w' => e = .returned (.int .i64 0) ∧ Lv w0 D s (j + 1) w' := by
  obtain ⟨x, c, N, hB, hc, hN, hb, hf⟩ := H
  refine (or_ none 0 [] (by simp) (fun f hf => absurd hf (by simp)) (rowI_nil w) (fun a ha => by cases ha) (fun _ => ⟨rfl, rfl⟩) hv (by simp; omega) (by simp; omega) (by omega) hB).mono ?_
  rintro e w' ⟨a, s', rfl, hR, hU⟩
  rw [srtI_nil] at hR
  obtain ⟨h1, h2⟩ := res_un hR hs hl
  subst h1 h2
  exact ⟨rfl, Lv.up hb hf hU (by simp; omega) (by simp; omega)⟩
theorem lv_len {w0 w : World} {D : Nat} {s : St} {j : Nat} (H : Lv w0 D s j w) :
    Calls Try.prog 25 #[.pointer (some ⟨D, 0, none⟩)] w fun e w' => e = .returned (.int .i64 s.L.length) ∧ w = w' := by
  obtain ⟨x, c, N, hB, hc, hN, hb, hf⟩ := H
  exact len_ hB
theorem perm2 {a b : Int} {l : List Int} (h : l.Perm [a, b]) : l = [a, b] ∨ l = [b, a] := by
  have hl := h.length_eq
  match l, hl with
  | [x, y], _ =>
    have hx : x ∈ [a, b] := h.mem_iff.1 (by simp)
    simp only [List.mem_cons, List.not_mem_nil, or_false] at hx
    rcases hx with rfl | rfl
    · have := List.perm_singleton.1 (h.cons_inv)
      injection this with this
      subst this
      exact Or.inl rfl
    · have := List.perm_singleton.1 ((h.trans (List.Perm.swap x a [])).cons_inv)
      injection this with this
      subst this
      exact Or.inr rfl
def n1 : Nd := ⟨0, 0, 1⟩
def n2 : Nd := ⟨0, 1, 0⟩
theorem t_lit : top 2 [] (litF 2 0) = (2, [n1]) := by decide +kernel
theorem t_not : top 2 [n1] (iteF [n1] 2 0 1) = (3, [n1, n2]) := by decide +kernel
theorem t_not2 : top 2 [n1, n2] (iteF [n1, n2] 2 0 1) = (3, [n1, n2]) := by decide +kernel
theorem t_and : (srtI 2 [n1, n2] [2, 3]).foldl (stA 2) (1, [n1, n2]) = (0, [n1, n2]) := by
  rcases perm2 (srtI_perm (K := 2) (L := [n1, n2]) (l := [2, 3]) (fun n hn => by simp at hn; omega)) with e | e
  · rw [e]; decide +kernel
  · rw [e]; decide +kernel
theorem t_or : (srtI 2 [n1, n2] [2, 3]).foldl (stO 2) (0, [n1, n2]) = (1, [n1, n2]) := by
  rcases perm2 (srtI_perm (K := 2) (L := [n1, n2]) (l := [2, 3]) (fun n hn => by simp at hn; omega)) with e | e
  · rw [e]; decide +kernel
  · rw [e]; decide +kernel
end Go.Proofs.Ytnkkmppmfjekeaa.ItU
