/- New, and what is asked of diagrams: Lit, Ite, Not, Xor, Less, by contract. -/
import Derived.Test.YtnkkmppmfjekeaaItJ
namespace Go.Proofs.Ytnkkmppmfjekeaa.ItK
open Go.RowKit Go.Lib Go.Proofs Go.Proofs.Ytnkkmppmfjekeaa.CaA Go.Proofs.Ytnkkmppmfjekeaa.NdA Go.Proofs.Ytnkkmppmfjekeaa.NdB Go.Proofs.Ytnkkmppmfjekeaa.NdC Go.Proofs.Ytnkkmppmfjekeaa.NdE Go.Proofs.Ytnkkmppmfjekeaa.NdG Go.Proofs.Ytnkkmppmfjekeaa.NdI Go.Proofs.Ytnkkmppmfjekeaa.ItA Go.Proofs.Ytnkkmppmfjekeaa.ItB Go.Proofs.Ytnkkmppmfjekeaa.ItD Go.Proofs.Ytnkkmppmfjekeaa.ItE Go.Proofs.Ytnkkmppmfjekeaa.ItF Go.Proofs.Ytnkkmppmfjekeaa.ItH Go.Proofs.Ytnkkmppmfjekeaa.ItI Go.Proofs.Ytnkkmppmfjekeaa.ItJ
set_option linter.unusedVariables false
set_option linter.unusedSimpArgs false
def OpPost (D : Nat) (x : Bx) (c k : Nat) (s : St) (N : Nat) (F : ItA.Fn) (w : World) (e : Ending) (w' : World) : Prop := ∃ a s', e = .returned (.int .i64 a) ∧ Res s (top s.vars s.L F).1 (top s.vars s.L F).2 a s' ∧ Upto D x w w' (c + k) s' (N + 64)
theorem rowI_new (w : World) (l : List Int) (t : TypeId) : RowI (w.alloc (.cells (l.map (Value.int .i64)).toArray t)) (some ⟨w.heap.size, 0, none⟩) l := fun _ => by
  have h := ItC.irow_new0 w l t (n := w.heap.size) rfl
  exact ⟨w.heap.size, rfl, h.1, h.2⟩
theorem rowI_nil (w : World) : RowI w none [] := fun h => absurd h (Nat.lt_irrefl 0)
theorem dg_top {s : St} (H : WF s) {f : Int} (h : isB s f = true) : Dg s s.vars f := ⟨h, by have := var_nn H h; omega⟩
theorem pow6 {k : Nat} (h : k ≤ 6) : 2 ^ k ≤ 64 := Nat.pow_le_pow_right (n := 2) (by omega) h
/-- Where a variable is true. -/
def litF (K v : Nat) : ItA.Fn := fun b => decide (v < K) && b v
theorem top_lit {K : Nat} {L : List Nd} (H : WF (T K L)) (v : Nat) : top K L (litF K v) = if v < K then ins L v 0 1 else (0, L) := by
  by_cases h : v < K
  · rw [if_pos h]
    have hd : Dep K v (litF K v) := fun b c hbc => by
      unfold litF
      rw [hbc v (Nat.le_refl _) h]
    have e0 : ItA.cof (litF K v) v false = fun _ => false := by
      funext b
      unfold ItA.cof litF NdL.put
      simp
    have e1 : ItA.cof (litF K v) v true = fun _ => true := by
      funext b
      unfold ItA.cof litF NdL.put
      simp [h]
    have t0 : top K L (fun _ => false) = (0, L) := top_id H (zero_is (T K L)) (fun b => ev_zero L b)
    have t1 : top K L (fun _ => true) = (1, L) := top_id H (one_is (T K L)) (fun b => ev_one L b)
    rw [top_step H h hd, e0, e1, t0]
    simp only
    rw [t1]
  · rw [if_neg h]
    refine top_id H (zero_is (T K L)) (fun b => ?_)
    rw [ev_zero]
    unfold litF
    simp [h]
theorem lit_res {s : St} (H : WF s) (hI : Inv s) (v : Nat) : Res s (top s.vars s.L (litF s.vars v)).1 (top s.vars s.L (litF s.vars v)).2 (mkA s v 0 1) (mkS s v 0 1) := by
  rw [top_lit (T_wf H)]
  by_cases h : v < s.vars
  · rw [if_pos h]
    have e0 : varI s 0 = s.vars := varI_small (K := s.vars) (L := s.L) (by omega)
    have e1 : varI s 1 = s.vars := varI_small (K := s.vars) (L := s.L) (by omega)
    exact mk_res hI (mayB_iff.2 ⟨by omega, zero_is s, one_is s, by omega, by omega⟩)
  · rw [if_neg h]
    have e0 : varI s 0 = s.vars := varI_small (K := s.vars) (L := s.L) (by omega)
    have hm : mayB s v 0 1 = false := by
      cases hm : mayB s v 0 1 with
      | false => rfl
      | true =>
        have := (mayB_iff.1 hm).2.2.2.1
        omega
    have ea : mkA s v 0 1 = 0 := by unfold mkA; rw [hm]; rfl
    have es : mkS s v 0 1 = s := by unfold mkS; rw [hm]; rfl
    rw [ea, es]
    cases hs : s.spent with
    | false => exact Or.inl ⟨hs, hI.len, rfl, rfl⟩
    | true => exact res_spent hI hs _ _
section
variable {D : Nat} {x : Bx} {c : Nat} {s : St} {N : Nat} {w : World}
set_option maxHeartbeats 1000000 in
set_option maxRecDepth 100000 in
theorem lit_ (v : Nat) (hL : s.L.length + 64 ≤ 119900) (hN : N + 64 ≤ 900000) (hc : c + 3 ≤ 1000000) (H : Bd w D x c s N) :
    Calls Try.prog 27 #[.pointer (some ⟨D, 0, none⟩), .int .i64 v] w (OpPost D x c 1 s N (litF s.vars v) w) := by
  unfold OpPost
  have hR := lit_res H.tk.tb.wf H.inv v
  have HBg := Lib.hid (begin_ 1 none 0 [] (by simp) (fun f hf => absurd hf (by simp)) (rowI_nil w) (by omega) H)
  have HMk := Lib.hid (fun w1 x1 (hB : Bd w1 D x1 (c + 1) s N) => ItB.make_ (v : Int) 0 1 (by omega) (by omega) (by omega) (by omega) (by omega) hB)
  generalize mkA s v 0 1 = r at *
  generalize mkS s v 0 1 = s' at *
  have HR := Lib.hid hR
  clear hR H hL hN hc
  go_enter Try.func27, Try.ntmps27
  go_wp2_with fail
  refine HBg.out.mono ?_
  rintro e w1 ⟨rfl, x1, hB1, hF1, hk1⟩
  have HM := Lib.hid (HMk.out w1 x1 hB1)
  have HW := Lib.hid (fun w2 hU => up_more (N' := N + 64) (Upto.trans (w2 := w2) (c := c + 1) (s := s') (N := N) hF1 hk1 hU) (by omega))
  clear hB1 hF1 hk1 HMk HBg
  go_wp2_with fail
  refine HM.out.mono ?_
  rintro e w2 ⟨rfl, hU⟩
  have HE := Lib.hid (HW.out w2 hU)
  clear hU HW HM
  go_wp2_with fail
  go_ret
  exact ⟨_, _, rfl, HR.out, HE.out⟩
set_option maxHeartbeats 1000000 in
set_option maxRecDepth 100000 in
theorem ite_ (f g h : Int) (hf : isB s f = true) (hg : isB s g = true) (hh : isB s h = true) (hv : s.vars ≤ 6) (hL : s.L.length + 64 ≤ 119900) (hN : N + 64 ≤ 900000) (hc : c + 3 ≤ 1000000) (H : Bd w D x c s N) :
    Calls Try.prog 43 #[.pointer (some ⟨D, 0, none⟩), .int .i64 f, .int .i64 g, .int .i64 h] w (OpPost D x c 1 s N (iteF s.L f g h) w) := by
  unfold OpPost
  have hp := pow6 hv
  have hwf := H.tk.tb.wf
  have hb := (Below.refl w.heap.size w).alloc (Nat.le_refl _) (.cells #[.int .i64 f, .int .i64 g, .int .i64 h] 3)
  have hall : ∀ y ∈ [f, g, h], isB s y = true := fun y hy => by
    simp only [List.mem_cons, List.not_mem_nil, or_false] at hy
    rcases hy with rfl | rfl | rfl
    · exact hf
    · exact hg
    · exact hh
  have HBg := Lib.hid (begin_ 1 (some ⟨w.heap.size, 0, none⟩) 3 [f, g, h] (by simp) hall (rowI_new w [f, g, h] 3) (by omega) (H.below hb))
  have HC := Lib.hid (fun w1 x1 (hB : Bd w1 D x1 (c + 1) s N) => choose_ D (c + 1) s.vars x1 s N w1 f g h hB (dg_top hwf hf) (dg_top hwf hg) (dg_top hwf hh) (by omega) (by omega))
  unfold ChPost at HC
  have HW := Lib.hid (fun x1 w1 w2 s' (hF1 : Frm (FootD D x) (w.alloc (.cells #[.int .i64 f, .int .i64 g, .int .i64 h] 3)) w1) (hk1 : ∀ j, FootD D x1 j → FootD D x j ∨ (w.alloc (.cells #[.int .i64 f, .int .i64 g, .int .i64 h] 3)).heap.size ≤ j) (hU : Upto D x1 w1 w2 (c + 1) s' (N + 2 ^ s.vars)) => up_more (N' := N + 64) (Upto.trans (Frm.of_below hb) (fun j hj => Or.inl hj) (Upto.trans hF1 hk1 hU)) (by omega))
  clear H hL hN hc hb hwf hall hp hv
  go_enter Try.func43, Try.ntmps43
  go_wp2_with fail
  refine HBg.out.mono ?_
  rintro e w1 ⟨rfl, x1, hB1, hF1, hk1⟩
  have HCx := Lib.hid (HC.out w1 x1 hB1)
  have HWx := Lib.hid (fun w2 s' hU => HW.out x1 w1 w2 s' hF1 hk1 hU)
  clear hB1 hF1 hk1 HC HW HBg
  go_wp2_with fail
  refine HCx.out.mono ?_
  rintro e w2 ⟨a, s', rfl, hR, hU⟩
  have HE := Lib.hid (And.intro hR (HWx.out w2 s' hU))
  clear hR hU HCx HWx
  go_wp2_with fail
  go_ret
  exact ⟨_, _, rfl, HE.out.1, HE.out.2⟩
set_option maxHeartbeats 1000000 in
set_option maxRecDepth 100000 in
theorem not_ (f : Int) (hf : isB s f = true) (hv : s.vars ≤ 6) (hL : s.L.length + 64 ≤ 119900) (hN : N + 64 ≤ 900000) (hc : c + 3 ≤ 1000000) (H : Bd w D x c s N) :
    Calls Try.prog 23 #[.pointer (some ⟨D, 0, none⟩), .int .i64 f] w (OpPost D x c 1 s N (iteF s.L f 0 1) w) := by
  unfold OpPost
  have hp := pow6 hv
  have hwf := H.tk.tb.wf
  have hb := (Below.refl w.heap.size w).alloc (Nat.le_refl _) (.cells #[.int .i64 f] 3)
  have hall : ∀ y ∈ [f], isB s y = true := fun y hy => by
    simp only [List.mem_cons, List.not_mem_nil, or_false] at hy
    rw [hy]
    exact hf
  have HBg := Lib.hid (begin_ 1 (some ⟨w.heap.size, 0, none⟩) 1 [f] (by simp) hall (rowI_new w [f] 3) (by omega) (H.below hb))
  have HC := Lib.hid (fun w1 x1 (hB : Bd w1 D x1 (c + 1) s N) => choose_ D (c + 1) s.vars x1 s N w1 f 0 1 hB (dg_top hwf hf) (zero_dg s _) (one_dg s _) (by omega) (by omega))
  unfold ChPost at HC
  have HW := Lib.hid (fun x1 w1 w2 s' (hF1 : Frm (FootD D x) (w.alloc (.cells #[.int .i64 f] 3)) w1) (hk1 : ∀ j, FootD D x1 j → FootD D x j ∨ (w.alloc (.cells #[.int .i64 f] 3)).heap.size ≤ j) (hU : Upto D x1 w1 w2 (c + 1) s' (N + 2 ^ s.vars)) => up_more (N' := N + 64) (Upto.trans (Frm.of_below hb) (fun j hj => Or.inl hj) (Upto.trans hF1 hk1 hU)) (by omega))
  clear H hL hN hc hb hwf hall hp hv
  go_enter Try.func23, Try.ntmps23
  go_wp2_with fail
  refine HBg.out.mono ?_
  rintro e w1 ⟨rfl, x1, hB1, hF1, hk1⟩
  have HCx := Lib.hid (HC.out w1 x1 hB1)
  have HWx := Lib.hid (fun w2 s' hU => HW.out x1 w1 w2 s' hF1 hk1 hU)
  clear hB1 hF1 hk1 HC HW HBg
  go_wp2_with fail
  refine HCx.out.mono ?_
  rintro e w2 ⟨a, s', rfl, hR, hU⟩
  have HE := Lib.hid (And.intro hR (HWx.out w2 s' hU))
  clear hR hU HCx HWx
  go_wp2_with fail
  go_ret
  exact ⟨_, _, rfl, HE.out.1, HE.out.2⟩
set_option maxHeartbeats 1000000 in
set_option maxRecDepth 100000 in
theorem xor_ (f g : Int) (hf : isB s f = true) (hg : isB s g = true) (hv : s.vars ≤ 6) (hL : s.L.length + 64 ≤ 119900) (hN : N + 64 ≤ 900000) (hc : c + 3 ≤ 1000000) (H : Bd w D x c s N) :
    Calls Try.prog 46 #[.pointer (some ⟨D, 0, none⟩), .int .i64 f, .int .i64 g] w (OpPost D x c 1 s N (xorF s.L f g) w) := by
  unfold OpPost
  have hp := pow6 hv
  have hwf := H.tk.tb.wf
  have hb := (Below.refl w.heap.size w).alloc (Nat.le_refl _) (.cells #[.int .i64 f, .int .i64 g] 3)
  have hall : ∀ y ∈ [f, g], isB s y = true := fun y hy => by
    simp only [List.mem_cons, List.not_mem_nil, or_false] at hy
    rcases hy with rfl | rfl
    · exact hf
    · exact hg
  have HBg := Lib.hid (begin_ 1 (some ⟨w.heap.size, 0, none⟩) 2 [f, g] (by simp) hall (rowI_new w [f, g] 3) (by omega) (H.below hb))
  have HC := Lib.hid (fun w1 x1 (hB : Bd w1 D x1 (c + 1) s N) => differ_ D (c + 1) s.vars x1 s N w1 f g hB (dg_top hwf hf) (dg_top hwf hg) (by omega) (by omega))
  unfold ChPost at HC
  have HW := Lib.hid (fun x1 w1 w2 s' (hF1 : Frm (FootD D x) (w.alloc (.cells #[.int .i64 f, .int .i64 g] 3)) w1) (hk1 : ∀ j, FootD D x1 j → FootD D x j ∨ (w.alloc (.cells #[.int .i64 f, .int .i64 g] 3)).heap.size ≤ j) (hU : Upto D x1 w1 w2 (c + 1) s' (N + 2 ^ s.vars)) => up_more (N' := N + 64) (Upto.trans (Frm.of_below hb) (fun j hj => Or.inl hj) (Upto.trans hF1 hk1 hU)) (by omega))
  clear H hL hN hc hb hwf hall hp hv
  go_enter Try.func46, Try.ntmps46
  go_wp2_with fail
  refine HBg.out.mono ?_
  rintro e w1 ⟨rfl, x1, hB1, hF1, hk1⟩
  have HCx := Lib.hid (HC.out w1 x1 hB1)
  have HWx := Lib.hid (fun w2 s' hU => HW.out x1 w1 w2 s' hF1 hk1 hU)
  clear hB1 hF1 hk1 HC HW HBg
  go_wp2_with fail
  refine HCx.out.mono ?_
  rintro e w2 ⟨a, s', rfl, hR, hU⟩
  have HE := Lib.hid (And.intro hR (HWx.out w2 s' hU))
  clear hR hU HCx HWx
  go_wp2_with fail
  go_ret
  exact ⟨_, _, rfl, HE.out.1, HE.out.2⟩
set_option maxHeartbeats 1000000 in
set_option maxRecDepth 100000 in
theorem less_ (f g : Int) (hf : isB s f = true) (hg : isB s g = true) (hv : s.vars ≤ 6) (hL : s.L.length + 64 ≤ 119900) (hN : N + 64 ≤ 900000) (hc : c + 3 ≤ 1000000) (H : Bd w D x c s N) :
    Calls Try.prog 47 #[.pointer (some ⟨D, 0, none⟩), .int .i64 f, .int .i64 g] w (OpPost D x c 1 s N (iteF s.L f 0 g) w) := by
  unfold OpPost
  have hp := pow6 hv
  have hwf := H.tk.tb.wf
  have hb := (Below.refl w.heap.size w).alloc (Nat.le_refl _) (.cells #[.int .i64 f, .int .i64 g] 3)
  have hall : ∀ y ∈ [f, g], isB s y = true := fun y hy => by
    simp only [List.mem_cons, List.not_mem_nil, or_false] at hy
    rcases hy with rfl | rfl
    · exact hf
    · exact hg
  have HBg := Lib.hid (begin_ 1 (some ⟨w.heap.size, 0, none⟩) 2 [f, g] (by simp) hall (rowI_new w [f, g] 3) (by omega) (H.below hb))
  have HC := Lib.hid (fun w1 x1 (hB : Bd w1 D x1 (c + 1) s N) => choose_ D (c + 1) s.vars x1 s N w1 f 0 g hB (dg_top hwf hf) (zero_dg s _) (dg_top hwf hg) (by omega) (by omega))
  unfold ChPost at HC
  have HW := Lib.hid (fun x1 w1 w2 s' (hF1 : Frm (FootD D x) (w.alloc (.cells #[.int .i64 f, .int .i64 g] 3)) w1) (hk1 : ∀ j, FootD D x1 j → FootD D x j ∨ (w.alloc (.cells #[.int .i64 f, .int .i64 g] 3)).heap.size ≤ j) (hU : Upto D x1 w1 w2 (c + 1) s' (N + 2 ^ s.vars)) => up_more (N' := N + 64) (Upto.trans (Frm.of_below hb) (fun j hj => Or.inl hj) (Upto.trans hF1 hk1 hU)) (by omega))
  clear H hL hN hc hb hwf hall hp hv
  go_enter Try.func47, Try.ntmps47
  go_wp2_with fail
  refine HBg.out.mono ?_
  rintro e w1 ⟨rfl, x1, hB1, hF1, hk1⟩
  have HCx := Lib.hid (HC.out w1 x1 hB1)
  have HWx := Lib.hid (fun w2 s' hU => HW.out x1 w1 w2 s' hF1 hk1 hU)
  clear hB1 hF1 hk1 HC HW HBg
  go_wp2_with fail
  refine HCx.out.mono ?_
  rintro e w2 ⟨a, s', rfl, hR, hU⟩
  have HE := Lib.hid (And.intro hR (HWx.out w2 s' hU))
  clear hR hU HCx HWx
  go_wp2_with fail
  go_ret
  exact ⟨_, _, rfl, HE.out.1, HE.out.2⟩
end
def NewPost (k b : Nat) (w : World) (e : Ending) (w' : World) : Prop := ∃ D x, e = .returned (.pointer (some ⟨D, 0, none⟩)) ∧ Bd w' D x 0 ⟨k, b, false, []⟩ 0 ∧ Below w.heap.size w w' ∧ ∀ j, FootD D x j → w.heap.size ≤ j
theorem bd_new {w w1 w2 : World} {k b B R E X q : Nat} (hk : k ≤ 61) (hT : Tk w1 B R (.slice none 0 0) 16 (fun _ => 0) (NdG.start k b)) (hb1 : Below w.heap.size w w1) (hB : w.heap.size ≤ B) (hR : w.heap.size ≤ R) (hq : q ≤ 16) (h64 : 64 ≤ 2 ^ q) (hC : Ca w2 E X (2 ^ q) (fun _ => Pl.zero) 0) (hb2 : Below w1.heap.size w1 w2) (hE : w1.heap.size ≤ E) (hX : w1.heap.size ≤ X) :
    Bd (w2.alloc (.cells #[.pointer (some ⟨B, 0, none⟩), .pointer (some ⟨E, 0, none⟩), .int .i64 0] 71)) w2.heap.size ⟨B, R, .slice none 0 0, 16, fun _ => 0, E, X, q, fun _ => Pl.zero, 0⟩ 0 ⟨k, b, false, []⟩ 0 ∧ Below w.heap.size w (w2.alloc (.cells #[.pointer (some ⟨B, 0, none⟩), .pointer (some ⟨E, 0, none⟩), .int .i64 0] 71)) ∧ ∀ j, FootD w2.heap.size ⟨B, R, .slice none 0 0, 16, fun _ => 0, E, X, q, fun _ => Pl.zero, 0⟩ j → w.heap.size ≤ j := by
  have e : NdG.start k b = ⟨k, b, false, []⟩ := by
    unfold NdG.start
    have h1 : (max 0 (min (k : Int) 61)).toNat = k := by omega
    have h2 : (max 0 (b : Int)).toNat = b := by omega
    rw [h1, h2]
  rw [e] at hT
  have hs1 := hb1.size
  have hs2 := hb2.size
  have hba := (Below.refl w2.heap.size w2).alloc (Nat.le_refl _) (.cells #[.pointer (some ⟨B, 0, none⟩), .pointer (some ⟨E, 0, none⟩), .int .i64 0] 71)
  have hBl := hT.tb.bl
  have hRl := hT.tb.rl
  have hEl := hC.bl
  have hXl := hC.rl
  have nf : ∀ j, w1.heap.size ≤ j → ¬ Foot B R (.slice none 0 0) j := fun j hj h => by
    rcases h with h | h | h
    · omega
    · omega
    · cases h
  refine ⟨⟨heap_alloc_new w2 _, (hT.below hb2).below hba, hC.below hba, ⟨six_le h64, hq⟩, nf _ hs2, ⟨by show w2.heap.size ≠ E; omega, by show w2.heap.size ≠ X; omega⟩, ⟨nf _ hE, nf _ hX⟩, ⟨Nat.zero_le _, fun h => by cases h⟩, fun i hi h => (by cases h), Nat.le_refl _, Nat.zero_le _⟩, (hb1.trans (hb2.mono hs1)).trans (hba.mono (by omega)), fun j hj => ?_⟩
  rcases hj with h | h | h | h
  · omega
  · rcases h with h | h | h
    · have h' : j = B := h
      omega
    · have h' : j = R := h
      omega
    · cases h
  · have h' : j = E := h
    omega
  · have h' : j = X := h
    omega
set_option maxHeartbeats 1000000 in
set_option maxRecDepth 100000 in
theorem new_ (k b : Nat) (hk : k ≤ 61) (hb : b ≤ 9223372036854775807) (w : World) : Calls Try.prog 9 #[.int .i64 k, .int .i64 b] w (NewPost k b w) := by
  unfold NewPost
  have HN := Lib.hid (NdG.new_ (k : Int) (b : Int) (by omega) w)
  have HC := Lib.hid (fun w => CaA.new_ 64 w)
  unfold NdG.NewPost at HN
  unfold CaA.NewPost at HC
  have HK := Lib.hid hk
  clear hb hk
  go_enter Try.func9, Try.ntmps9
  go_wp2_with fail
  refine HN.out.mono ?_
  rintro e w1 ⟨B, R, rfl, hT, hb1, hB, hR⟩
  have HA := Lib.hid (And.intro hT (And.intro hb1 (And.intro hB hR)))
  clear hT hb1 hB hR HN
  go_wp2_with fail
  refine (HC.out _).mono ?_
  rintro e w2 ⟨E, X, q, rfl, hq, -, h64, hC, hb2, hE, hX⟩
  obtain ⟨hT, hb1, hB, hR⟩ := HA.out
  have HE := Lib.hid (bd_new HK.out hT hb1 hB hR hq (by omega) hC hb2 hE hX)
  clear hT hb1 hB hR hC hb2 hE hX h64 hq HA HC
  go_wp2_with fail
  go_ret
  exact ⟨_, _, rfl, HE.out.1, HE.out.2.1, HE.out.2.2⟩
end Go.Proofs.Ytnkkmppmfjekeaa.ItK
