/- An answer is kept (keep), by contract. -/
import Derived.Test.YtnkkmppmfjekeaaItE
namespace Go.Proofs.Ytnkkmppmfjekeaa.ItF
open Go.RowKit Go.Lib Go.Proofs Go.Proofs.Ytnkkmppmfjekeaa.CaA Go.Proofs.Ytnkkmppmfjekeaa.CaB Go.Proofs.Ytnkkmppmfjekeaa.CaC Go.Proofs.Ytnkkmppmfjekeaa.CaD Go.Proofs.Ytnkkmppmfjekeaa.NdA Go.Proofs.Ytnkkmppmfjekeaa.NdB Go.Proofs.Ytnkkmppmfjekeaa.NdC Go.Proofs.Ytnkkmppmfjekeaa.NdE Go.Proofs.Ytnkkmppmfjekeaa.NdG Go.Proofs.Ytnkkmppmfjekeaa.ItA Go.Proofs.Ytnkkmppmfjekeaa.ItB Go.Proofs.Ytnkkmppmfjekeaa.ItD
set_option linter.unusedVariables false
set_option linter.unusedSimpArgs false
section
variable {D : Nat} {x : Bx} {c : Nat} {s : St} {N : Nat} {w : World}
/-- The cache has changed alone. -/
theorem recache (H : Bd w D x c s N) {w' : World} {M : Nat → Pl} {h N' : Nat} (hC : Ca w' x.E x.X (2 ^ x.k) M h) (hf : Frm (fun k => k = x.E ∨ k = x.X) w w') (hr : ∀ i, i < 2 ^ x.k → (M i).kept = true → Okq s.L (M i).q (M i).ans) (hh : h ≤ N') : Upto D x w w' c s N' := by
  have no : ∀ k, Foot x.B x.R x.v k → ¬ (k = x.E ∨ k = x.X) := fun k hk e => by
    rcases e with rfl | rfl
    · exact H.nt.1 hk
    · exact H.nt.2 hk
  refine ⟨⟨x.B, x.R, x.v, x.m, x.Q, x.E, x.X, x.k, M, h⟩, ⟨(hf.block D H.lt (fun e => e.elim H.ne.1 H.ne.2)).trans H.fb, H.tk.frm hf no, hC, H.k1, H.nd, H.ne, H.nt, H.inv, hr, hh, H.cb⟩, hf.mono (fun k hk => ?_), fun j hj => Or.inl hj⟩
  rcases hk with rfl | rfl
  · exact Or.inr (Or.inr (Or.inl rfl))
  · exact Or.inr (Or.inr (Or.inr rfl))
theorem put_upto (H : Bd w D x c s N) {w' : World} {q : Qn} {a : Int} (hq : Okq s.L q a) (hC : Ca w' x.E x.X (2 ^ x.k) (upd x.M (ix x.k q) ⟨q, a, true⟩) x.h) (hg : w.grownBy w' (some x.X)) : Upto D x w w' c s N := by
  refine recache H hC (Frm.of_grown hg (fun k hk => Or.inr (by injection hk with e; exact e.symm))) (fun i hi hk => ?_) H.hb
  unfold upd at hk ⊢
  split
  · exact hq
  · rename_i hne
    rw [if_neg hne] at hk
    exact H.right i hi hk
theorem hit_upto (H : Bd w D x c s N) {w' : World} (hC : Ca w' x.E x.X (2 ^ x.k) x.M (x.h + 1)) (hg : w.grownBy w' (some x.E)) : Upto D x w w' c s (N + 1) :=
  recache H hC (Frm.of_grown hg (fun k hk => Or.inl (by injection hk with e; exact e.symm))) H.right (Nat.succ_le_succ H.hb)
/-- A new cache. -/
theorem renew (H : Bd w D x c s N) {w1 : World} {E X k : Nat} (hk : 6 ≤ k ∧ k ≤ 16) (hC : Ca w1 E X (2 ^ k) (fun _ => Pl.zero) 0) (hb : Below w.heap.size w w1) (hE : w.heap.size ≤ E) (hX : w.heap.size ≤ X) :
    Bd (w1.setCell ⟨D, 1, none⟩ (.pointer (some ⟨E, 0, none⟩))) D ⟨x.B, x.R, x.v, x.m, x.Q, E, X, k, fun _ => Pl.zero, 0⟩ c s N ∧ Frm (FootD D x) w (w1.setCell ⟨D, 1, none⟩ (.pointer (some ⟨E, 0, none⟩))) ∧ ∀ j, FootD D ⟨x.B, x.R, x.v, x.m, x.Q, E, X, k, fun _ => Pl.zero, 0⟩ j → FootD D x j ∨ w.heap.size ≤ j := by
  have H1 := H.below hb
  have hD := H.lt
  have hs : w1.heap.size ≤ (w1.setCell ⟨D, 1, none⟩ (.pointer (some ⟨E, 0, none⟩))).heap.size := by show _ ≤ (w1.heap.modify _ _).size; rw [Array.size_modify]; exact Nat.le_refl _
  have hj : ∀ j, j ≠ D → (w1.setCell ⟨D, 1, none⟩ (.pointer (some ⟨E, 0, none⟩))).heap[j]? = w1.heap[j]? := fun j hj => Below.heap_setCell _ _ _ _ hj
  have hE1 : ¬ Foot x.B x.R x.v E := fun h => by have := H.tk.tb.foot h; omega
  have hX1 : ¬ Foot x.B x.R x.v X := fun h => by have := H.tk.tb.foot h; omega
  refine ⟨⟨set1 _ H1.fb, ⟨H1.tk.tb.keep (fun k h => hj k (fun e => H.nd (e ▸ h))), H.tk.room, H.tk.m16⟩, hC.keep hs (hj _ (by omega)) (hj _ (by omega)), hk, H.nd, ⟨by show D ≠ E; omega, by show D ≠ X; omega⟩, ⟨hE1, hX1⟩, H.inv, fun i hi h => (by cases h), Nat.zero_le _, H.cb⟩, ⟨hb.os, hb.tape, hb.output, Nat.le_trans hb.size hs, fun k hk hn => (hj k (fun e => hn (Or.inl e))).trans (hb.block k hk)⟩, fun j hj => ?_⟩
  rcases hj with h | h | h | h
  · exact Or.inl (Or.inl h)
  · exact Or.inl (Or.inr (Or.inl h))
  · exact Or.inr (by have : j = E := h; omega)
  · exact Or.inr (by have : j = X := h; omega)
theorem two_pow_le {k : Nat} (h : 6 ≤ k ∧ k ≤ 16) : 64 ≤ 2 ^ k ∧ 2 ^ k ≤ 65536 := ⟨Nat.pow_le_pow_right (n := 2) (by omega) h.1, Nat.pow_le_pow_right (n := 2) (by omega) h.2⟩
theorem six_le {k : Nat} (h : 64 ≤ 2 ^ k) : 6 ≤ k := by
  apply Classical.byContradiction
  intro hn
  have : 2 ^ k ≤ 2 ^ 5 := Nat.pow_le_pow_right (by omega) (by omega)
  omega
def KeepPost (D : Nat) (x : Bx) (c : Nat) (s : St) (N : Nat) (a : Int) (w : World) (e : Ending) (w' : World) : Prop := e = .returned (.int .i64 (if s.spent then 0 else a)) ∧ Upto D x w w' c s N
set_option maxHeartbeats 4000000 in
set_option maxRecDepth 100000 in
theorem keep_ (op f g h a : Int) (hOk : s.spent = false → Okq s.L ⟨op, f, g, h⟩ a) (H : Bd w D x c s N) :
    Calls Try.prog 78 #[.pointer (some ⟨D, 0, none⟩), .int .i64 op, .int .i64 f, .int .i64 g, .int .i64 h, .int .i64 a] w (KeepPost D x c s N a w) := by
  unfold KeepPost
  have HSp := Lib.hid (spent_ H)
  cases hs : s.spent with
  | true =>
    rw [hs] at HSp
    have HU := Lib.hid (H.upto (Below.refl _ w))
    clear H hOk hs
    go_enter Try.func78, Try.ntmps78
    go_wp2_with ((with_reducible refine HSp.out.mono ?_); rintro e w' ⟨rfl, rfl⟩)
    go_ret
    exact ⟨rfl, HU.out⟩
  | false =>
    rw [hs] at HSp
    have hq := hOk hs
    clear hOk
    have HSz := Lib.hid (size_ x.E x.X (2 ^ x.k) x.M x.h w H.ca)
    have HLn := Lib.hid (len_ H)
    have hlen := H.tk.tb.len
    obtain ⟨c0, c1, c2⟩ := H.cells
    have HT := Lib.hid H
    have hk2 := two_pow_le H.k1
    have HPut := Lib.hid (put x.E x.X x.k x.M x.h ⟨op, f, g, h⟩ a w H.k1.2 H.ca)
    have HPu := Lib.hid (fun w' hC hg => put_upto (w' := w') H hq hC hg)
    have HRn := Lib.hid (fun w1 E X k hk hC hb hE hX => renew (w1 := w1) (E := E) (X := X) (k := k) H hk hC hb hE hX)
    have HQ := Lib.hid hq
    have hlt := H.lt
    have hfr := H.free 1
    unfold PutPost at HPut
    obtain ⟨n, hn⟩ : ∃ n, 2 ^ x.k = n := ⟨_, rfl⟩
    have HNn := Lib.hid hn
    rw [hn] at HSz hk2
    obtain ⟨l, hl⟩ : ∃ l, s.L.length = l := ⟨_, rfl⟩
    rw [hl] at HLn hlen
    obtain ⟨n64, n65⟩ := hk2
    have N64 := Lib.hid n64
    have N65 := Lib.hid n65
    clear H hs hq hn hl n64 n65
    by_cases hbig : (n : Int) < 65536 ∧ (n : Int) < l
    · have d1 : decide ((n : Int) < 65536) = true := decide_eq_true hbig.1
      have d2 : decide (n < l) = true := decide_eq_true (by have := hbig.2; omega)
      have hw2 : IntKind.i64.wrap (2 * (n : Int)) = 2 * (n : Int) := by have := N65.out; rw [IntKind.wrap_i64]; omega
      have HNew := Lib.hid (CaA.new_ (2 * (n : Int)) w)
      unfold CaA.NewPost at HNew
      have hb2 : min (2 * (n : Int)) 65536 ≥ 64 := by have := N64.out; omega
      have HB2 := Lib.hid hb2
      clear hbig hb2 HPut HPu hlen N64 N65 HNn
      go_enter Try.func78, Try.ntmps78
      go_wp2_with fail
      refine HSp.out.mono ?_
      rintro e w' ⟨rfl, rfl⟩
      go_wp2_with fail
      refine HSz.out.mono ?_
      rintro e w' ⟨rfl, rfl⟩
      go_wp2_with fail
      refine HSz.out.mono ?_
      rintro e w' ⟨rfl, rfl⟩
      clear d1
      go_wp2_with fail
      refine HLn.out.mono ?_
      rintro e w' ⟨rfl, rfl⟩
      go_wp2_with fail
      refine HSz.out.mono ?_
      rintro e w' ⟨rfl, rfl⟩
      go_wp2_with fail
      refine HNew.out.mono ?_
      rintro e w1 ⟨E, X, k, rfl, hk16, -, hk2, hC, hb, hE, hX⟩
      have hk6 : 6 ≤ k := six_le (by have := HB2.out; omega)
      have hR := HRn.out w1 E X k ⟨hk6, hk16⟩ hC hb hE hX
      have HR := Lib.hid hR
      have d1' : w1.cell? ⟨D, 1, none⟩ = some (.pointer (some ⟨x.E, 0, none⟩)) := (hb.cell (p := ⟨D, 1, none⟩) hlt).trans c1
      have f1' : w1.frozen? ⟨D, 1, none⟩ = false := (hb.frozen (p := ⟨D, 1, none⟩) hlt).trans hfr
      have HP := Lib.hid (put E X k (fun _ => Pl.zero) 0 ⟨op, f, g, h⟩ a _ hk16 hR.1.ca)
      unfold PutPost at HP
      clear hR hC hb hk2 HSp HSz HLn HT HB2 HRn c0 c1 c2 hfr
      go_wp2_with ((with_reducible refine HP.out.mono ?_); rintro e w2 ⟨rfl, hC2, hg2⟩)
      have HE := Lib.hid (Upto.trans HR.out.2.1 HR.out.2.2 (put_upto HR.out.1 HQ.out hC2 hg2))
      clear hC2 hg2 HP
      go_wp2_with fail
      go_ret
      exact ⟨rfl, HE.out⟩
    · by_cases h1 : (n : Int) < 65536
      · have h2 : ¬ (n : Int) < l := fun h => hbig ⟨h1, h⟩
        have d1 : decide ((n : Int) < 65536) = true := decide_eq_true h1
        have d2 : decide (n < l) = false := decide_eq_false (by omega)
        clear hbig HRn h1 h2 hlen N64 N65 HNn HT
        go_enter Try.func78, Try.ntmps78
        go_wp2_with fail
        refine HSp.out.mono ?_
        rintro e w' ⟨rfl, rfl⟩
        go_wp2_with fail
        refine HSz.out.mono ?_
        rintro e w' ⟨rfl, rfl⟩
        go_wp2_with fail
        refine HSz.out.mono ?_
        rintro e w' ⟨rfl, rfl⟩
        clear d1
        go_wp2_with fail
        refine HLn.out.mono ?_
        rintro e w' ⟨rfl, rfl⟩
        go_wp2_with fail
        refine HPut.out.mono ?_
        rintro e w2 ⟨rfl, hC2, hg2⟩
        have HE := Lib.hid (HPu.out _ hC2 hg2)
        clear hC2 hg2 HPut
        go_wp2_with fail
        go_ret
        exact ⟨rfl, HE.out⟩
      · have d1 : decide ((n : Int) < 65536) = false := decide_eq_false h1
        clear hbig HRn h1 hlen N64 N65 HNn HT
        go_enter Try.func78, Try.ntmps78
        go_wp2_with fail
        refine HSp.out.mono ?_
        rintro e w' ⟨rfl, rfl⟩
        go_wp2_with fail
        refine HSz.out.mono ?_
        rintro e w' ⟨rfl, rfl⟩
        go_wp2_with fail
        refine HPut.out.mono ?_
        rintro e w2 ⟨rfl, hC2, hg2⟩
        clear d1
        have HE := Lib.hid (HPu.out _ hC2 hg2)
        clear hC2 hg2 HPut
        go_wp2_with fail
        go_ret
        exact ⟨rfl, HE.out⟩
end
end Go.Proofs.Ytnkkmppmfjekeaa.ItF
