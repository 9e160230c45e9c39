/- Diagrams in memory: the small calls, by contract. -/
import Derived.Test.YtnkkmppmfjekeaaItA
import Derived.Test.YtnkkmppmfjekeaaCaD
import Derived.Test.YtnkkmppmfjekeaaCaC
namespace Go.Proofs.Ytnkkmppmfjekeaa.ItB
open Go.RowKit Go.Lib Go.Proofs Go.Proofs.Ytnkkmppmfjekeaa.CaA Go.Proofs.Ytnkkmppmfjekeaa.CaB Go.Proofs.Ytnkkmppmfjekeaa.CaC Go.Proofs.Ytnkkmppmfjekeaa.CaD Go.Proofs.Ytnkkmppmfjekeaa.NdA Go.Proofs.Ytnkkmppmfjekeaa.NdB Go.Proofs.Ytnkkmppmfjekeaa.NdC Go.Proofs.Ytnkkmppmfjekeaa.NdE Go.Proofs.Ytnkkmppmfjekeaa.NdG Go.Proofs.Ytnkkmppmfjekeaa.NdI Go.Proofs.Ytnkkmppmfjekeaa.ItA
set_option linter.unusedVariables false
set_option linter.unusedSimpArgs false
/-- What is kept is right. -/
def Okq (L : List Nd) (q : Qn) (a : Int) : Prop :=
  (q.op = 1 ∧ isB (T 0 L) q.a = true ∧ isB (T 0 L) q.b = true ∧ isB (T 0 L) q.d = true ∧ isB (T 0 L) a = true ∧ ∀ b, ev L b a = if ev L b q.a then ev L b q.b else ev L b q.d) ∨
  (q.op = 2 ∧ isB (T 0 L) q.a = true ∧ isB (T 0 L) q.b = true ∧ isB (T 0 L) a = true ∧ ∀ b, ev L b a = (ev L b q.a != ev L b q.b))
theorem Okq.app {L X : List Nd} {q : Qn} {a : Int} (h : Okq L q a) : Okq (L ++ X) q a := by
  rcases h with ⟨h0, h1, h2, h3, h4, h5⟩ | ⟨h0, h1, h2, h4, h5⟩
  · exact Or.inl ⟨h0, is_app h1, is_app h2, is_app h3, is_app h4, fun b => by rw [ev_app h1, ev_app h2, ev_app h3, ev_app h4]; exact h5 b⟩
  · exact Or.inr ⟨h0, is_app h1, is_app h2, is_app h4, fun b => by rw [ev_app h1, ev_app h2, ev_app h4]; exact h5 b⟩
/-- Where it lies. -/
structure Bx where
  B : Nat
  R : Nat
  v : Value
  m : Nat
  Q : Nat → Nat
  E : Nat
  X : Nat
  k : Nat
  M : Nat → Pl
  h : Nat
structure Bd (w : World) (D : Nat) (x : Bx) (c : Nat) (s : St) (N : Nat) : Prop where
  fb : w.heap[D]? = some (.cells #[.pointer (some ⟨x.B, 0, none⟩), .pointer (some ⟨x.E, 0, none⟩), .int .i64 c] 71 (0, 0))
  tk : Tk w x.B x.R x.v x.m x.Q s
  ca : Ca w x.E x.X (2 ^ x.k) x.M x.h
  k1 : 6 ≤ x.k ∧ x.k ≤ 16
  nd : ¬ Foot x.B x.R x.v D
  ne : D ≠ x.E ∧ D ≠ x.X
  nt : ¬ Foot x.B x.R x.v x.E ∧ ¬ Foot x.B x.R x.v x.X
  inv : Inv s
  right : ∀ i, i < 2 ^ x.k → (x.M i).kept = true → Okq s.L (x.M i).q (x.M i).ans
  hb : x.h ≤ N
  cb : c ≤ 1000000
def FootD (D : Nat) (x : Bx) (j : Nat) : Prop := j = D ∨ Foot x.B x.R x.v j ∨ j = x.E ∨ j = x.X
def Upto (D : Nat) (x : Bx) (w w' : World) (c : Nat) (s : St) (N : Nat) : Prop := ∃ x', Bd w' D x' c s N ∧ Frm (FootD D x) w w' ∧ ∀ j, FootD D x' j → FootD D x j ∨ w.heap.size ≤ j
theorem Upto.trans {D : Nat} {x x1 : Bx} {w w1 w2 : World} {c : Nat} {s : St} {N : Nat} (hf : Frm (FootD D x) w w1) (hk : ∀ j, FootD D x1 j → FootD D x j ∨ w.heap.size ≤ j) (h : Upto D x1 w1 w2 c s N) : Upto D x w w2 c s N := by
  obtain ⟨x2, h1, h2, h3⟩ := h
  refine ⟨x2, h1, hf.trans h2 hk, fun j hj => ?_⟩
  rcases h3 j hj with e | e
  · exact hk j e
  · exact Or.inr (Nat.le_trans hf.size e)
section
variable {D : Nat} {x : Bx} {c : Nat} {s : St} {N : Nat} {w : World}
theorem Bd.lt (H : Bd w D x c s N) : D < w.heap.size := (Array.getElem?_eq_some_iff.1 H.fb).1
theorem Bd.foot (H : Bd w D x c s N) {j : Nat} (hj : FootD D x j) : j < w.heap.size := by
  rcases hj with rfl | h | rfl | rfl
  · exact H.lt
  · exact H.tk.tb.foot h
  · exact H.ca.bl
  · exact H.ca.rl
theorem Bd.keep {w' : World} (H : Bd w D x c s N) (hs : w.heap.size ≤ w'.heap.size) (hk : ∀ j, FootD D x j → w'.heap[j]? = w.heap[j]?) : Bd w' D x c s N :=
  ⟨(hk D (Or.inl rfl)).trans H.fb, ⟨H.tk.tb.keep (fun k h => hk k (Or.inr (Or.inl h))), H.tk.room, H.tk.m16⟩, H.ca.keep hs (hk _ (Or.inr (Or.inr (Or.inl rfl)))) (hk _ (Or.inr (Or.inr (Or.inr rfl)))), H.k1, H.nd, H.ne, H.nt, H.inv, H.right, H.hb, H.cb⟩
theorem Bd.below {w' : World} (H : Bd w D x c s N) (hb : Below w.heap.size w w') : Bd w' D x c s N := H.keep hb.size (fun j hj => hb.block j (H.foot hj))
theorem Bd.upto {w' : World} (H : Bd w D x c s N) (hb : Below w.heap.size w w') : Upto D x w w' c s N := ⟨x, H.below hb, Frm.of_below hb, fun j hj => Or.inl hj⟩
theorem Bd.more {N' : Nat} (H : Bd w D x c s N) (h : N ≤ N') : Bd w D x c s N' := ⟨H.fb, H.tk, H.ca, H.k1, H.nd, H.ne, H.nt, H.inv, H.right, Nat.le_trans H.hb h, H.cb⟩
theorem Bd.cells (H : Bd w D x c s N) : w.cell? ⟨D, 0, none⟩ = some (.pointer (some ⟨x.B, 0, none⟩)) ∧ w.cell? ⟨D, 1, none⟩ = some (.pointer (some ⟨x.E, 0, none⟩)) ∧ w.cell? ⟨D, 2, none⟩ = some (.int .i64 c) := by
  refine ⟨?_, ?_, ?_⟩ <;> (rw [Lib.cell_of_heap H.fb]; rfl)
theorem Bd.free (H : Bd w D x c s N) (o : Nat) : w.frozen? ⟨D, o, none⟩ = false := by
  unfold World.frozen?
  rw [H.fb]
  rfl
set_option maxRecDepth 100000 in
theorem table_ (H : Bd w D x c s N) : Calls Try.prog 56 #[.pointer (some ⟨D, 0, none⟩)] w fun e w' => e = .returned (.pointer (some ⟨x.B, 0, none⟩)) ∧ w = w' := by
  have c0 := H.cells.1
  clear H
  go_enter Try.func56, Try.ntmps56
  go_wp2
  go_ret
  exact ⟨rfl, rfl⟩
set_option maxRecDepth 100000 in
theorem is_ (n : Int) (hn : -9223372036854775808 ≤ n) (hn2 : n ≤ 9223372036854775807) (H : Bd w D x c s N) : Calls Try.prog 26 #[.pointer (some ⟨D, 0, none⟩), .int .i64 n] w fun e w' => e = .returned (.bool (isB s n)) ∧ w = w' := by
  have HT := Lib.hid (table_ H)
  have HI := Lib.hid (NdB.is_ n hn hn2 H.tk.tb)
  clear H
  go_enter Try.func26, Try.ntmps26
  go_wp2_with (first | ((with_reducible refine HT.out.mono ?_); rintro e w' ⟨rfl, rfl⟩) | ((with_reducible refine HI.out.mono ?_); rintro e w' ⟨rfl, rfl⟩))
  go_ret
  exact ⟨rfl, rfl⟩
set_option maxRecDepth 100000 in
theorem len_ (H : Bd w D x c s N) : Calls Try.prog 25 #[.pointer (some ⟨D, 0, none⟩)] w fun e w' => e = .returned (.int .i64 s.L.length) ∧ w = w' := by
  have HT := Lib.hid (table_ H)
  have HI := Lib.hid (NdB.len_ H.tk.tb)
  clear H
  go_enter Try.func25, Try.ntmps25
  go_wp2_with (first | ((with_reducible refine HT.out.mono ?_); rintro e w' ⟨rfl, rfl⟩) | ((with_reducible refine HI.out.mono ?_); rintro e w' ⟨rfl, rfl⟩))
  go_ret
  exact ⟨rfl, rfl⟩
set_option maxRecDepth 100000 in
theorem vars_ (H : Bd w D x c s N) : Calls Try.prog 52 #[.pointer (some ⟨D, 0, none⟩)] w fun e w' => e = .returned (.int .i64 s.vars) ∧ w = w' := by
  have HT := Lib.hid (table_ H)
  have HI := Lib.hid (NdB.vars_ H.tk.tb)
  clear H
  go_enter Try.func52, Try.ntmps52
  go_wp2_with (first | ((with_reducible refine HT.out.mono ?_); rintro e w' ⟨rfl, rfl⟩) | ((with_reducible refine HI.out.mono ?_); rintro e w' ⟨rfl, rfl⟩))
  go_ret
  exact ⟨rfl, rfl⟩
set_option maxRecDepth 100000 in
theorem spent_ (H : Bd w D x c s N) : Calls Try.prog 74 #[.pointer (some ⟨D, 0, none⟩)] w fun e w' => e = .returned (.bool s.spent) ∧ w = w' := by
  have HT := Lib.hid (table_ H)
  have HI := Lib.hid (NdB.spent_ H.tk.tb)
  clear H
  go_enter Try.func74, Try.ntmps74
  go_wp2_with (first | ((with_reducible refine HT.out.mono ?_); rintro e w' ⟨rfl, rfl⟩) | ((with_reducible refine HI.out.mono ?_); rintro e w' ⟨rfl, rfl⟩))
  go_ret
  exact ⟨rfl, rfl⟩
set_option maxRecDepth 100000 in
theorem at__ (n : Int) (hn : -9223372036854775808 ≤ n) (hn2 : n ≤ 9223372036854775807) (y : Nat) (hy : y < 18446744073709551616) (H : Bd w D x c s N) : Calls Try.prog 49 #[.pointer (some ⟨D, 0, none⟩), .int .i64 n, .int .u64 y] w fun e w' => e = .returned (.bool (ev s.L (fun i => y.testBit i) n)) ∧ Below w.heap.size w w' := by
  have HT := Lib.hid (table_ H)
  have HI := Lib.hid (NdI.at__ n hn hn2 y hy H.tk)
  clear H hy
  generalize ev s.L (fun i => y.testBit i) n = r at *
  go_enter Try.func49, Try.ntmps49
  go_wp2_with fail
  refine HT.out.mono ?_
  rintro e w' ⟨rfl, rfl⟩
  go_wp2_with fail
  refine HI.out.mono ?_
  rintro e w' ⟨rfl, hb⟩
  have HB := Lib.hid hb
  clear hb
  go_wp2_with fail
  go_ret
  exact ⟨rfl, HB.out⟩
/-- The table behind one more node: the whole. -/
theorem Bd.made (H : Bd w D x c s N) {w' : World} {s' : St} {R' : Nat} {v' : Value} {m' : Nat} {Q' : Nat → Nat} (hT : Tk w' x.B R' v' m' Q' s') (hf : Frm (Foot x.B x.R x.v) w w') (hk : ∀ k, Foot x.B R' v' k → Foot x.B x.R x.v k ∨ w.heap.size ≤ k) (hi : Inv s') (hp : ∃ X, s'.L = s.L ++ X) : Upto D x w w' c s' N := by
  have hD := H.lt
  have hE := H.ca.bl
  have hX := H.ca.rl
  have no : ∀ j, j < w.heap.size → ¬ Foot x.B x.R x.v j → ¬ Foot x.B R' v' j := fun j hj hn h => by
    rcases hk j h with e | e
    · exact hn e
    · omega
  obtain ⟨Z, hZ⟩ := hp
  refine ⟨⟨x.B, R', v', m', Q', x.E, x.X, x.k, x.M, x.h⟩, ⟨(hf.block D hD H.nd).trans H.fb, hT, H.ca.keep hf.size (hf.block _ hE H.nt.1) (hf.block _ hX H.nt.2), H.k1, no D hD H.nd, H.ne, ⟨no _ hE H.nt.1, no _ hX H.nt.2⟩, hi, fun i hi hkp => ?_, H.hb, H.cb⟩, hf.mono (fun k h => Or.inr (Or.inl h)), fun j hj => ?_⟩
  · rw [hZ]
    exact (H.right i hi hkp).app
  · rcases hj with h | h | h | h
    · exact Or.inl (Or.inl h)
    · rcases hk j h with e | e
      · exact Or.inl (Or.inr (Or.inl e))
      · exact Or.inr e
    · exact Or.inl (Or.inr (Or.inr (Or.inl h)))
    · exact Or.inl (Or.inr (Or.inr (Or.inr h)))
theorem mkS_pre (s : St) (v lo hi : Int) : ∃ X, (mkS s v lo hi).L = s.L ++ X := by
  unfold mkS
  split
  · split
    · exact ⟨[], by simp⟩
    · split
      · exact ⟨[], by simp⟩
      · split
        · exact ⟨[], by simp⟩
        · exact ⟨_, rfl⟩
  · exact ⟨[], by simp⟩
theorem mkS_inv {s : St} (h : Inv s) (v lo hi : Int) : Inv (mkS s v lo hi) := by
  cases hm : mayB s v lo hi with
  | true => exact (mk_res h hm).inv
  | false =>
    unfold mkS
    rw [hm]
    exact h
set_option maxHeartbeats 1000000 in
set_option maxRecDepth 100000 in
theorem make_ (a lo hi : Int) (l1 : -9223372036854775808 ≤ lo) (l2 : lo ≤ 9223372036854775807) (h1 : -9223372036854775808 ≤ hi) (h2 : hi ≤ 9223372036854775807) (hl : s.L.length < 119900) (H : Bd w D x c s N) :
    Calls Try.prog 59 #[.pointer (some ⟨D, 0, none⟩), .int .i64 a, .int .i64 lo, .int .i64 hi] w fun e w' => e = .returned (.int .i64 (mkA s a lo hi)) ∧ Upto D x w w' c (mkS s a lo hi) N := by
  have HT := Lib.hid (table_ H)
  have HI := Lib.hid (NdG.make_ a lo hi l1 l2 h1 h2 hl H.tk)
  have HU := Lib.hid (fun (w' : World) (R' : Nat) (v' : Value) (m' : Nat) (Q' : Nat → Nat) (hT : Tk w' x.B R' v' m' Q' (mkS s a lo hi)) hf hk => H.made hT hf hk (mkS_inv H.inv a lo hi) (mkS_pre s a lo hi))
  clear H hl l1 l2 h1 h2
  unfold NdG.MakePost at HI
  generalize mkA s a lo hi = r at *
  generalize mkE s a lo hi = r2 at *
  generalize mkS s a lo hi = s' at *
  go_enter Try.func59, Try.ntmps59
  go_wp2_with fail
  refine HT.out.mono ?_
  rintro e w' ⟨rfl, rfl⟩
  go_wp2_with fail
  refine HI.out.mono ?_
  rintro e w' ⟨rfl, R', v', m', Q', hT, hf, hk⟩
  have HE := Lib.hid (HU.out w' R' v' m' Q' hT hf hk)
  clear hT hf hk HI
  go_wp2_with fail
  go_ret
  exact ⟨rfl, HE.out⟩
theorem set1 {w : World} {g o : Nat} {cs : Array Value} {t : TypeId} {f : Nat × Nat} (u : Value) (h : w.heap[g]? = some (.cells cs t f)) : (w.setCell ⟨g, o, none⟩ u).heap[g]? = some (.cells (cs.set! o u) t f) := by
  show (w.heap.modify g _)[g]? = _
  rw [Array.getElem?_modify, if_pos rfl, h]
  rfl
theorem set3 (w : World) (g : Nat) (t : TypeId) (x y z a b d : Value) (h : w.heap[g]? = some (.cells #[x, y, z] t (0, 0))) : (((w.setCell ⟨g, 0, none⟩ a).setCell ⟨g, 1, none⟩ b).setCell ⟨g, 2, none⟩ d).heap[g]? = some (.cells #[a, b, d] t (0, 0)) := set1 d (set1 b (set1 a h))
def partsA (s : St) (f v : Int) (b : Bool) : Int := if nodeB s f = true ∧ (at_ s f).v = v then (if b then (at_ s f).hi else (at_ s f).lo) else f
set_option maxHeartbeats 2000000 in
set_option maxRecDepth 100000 in
theorem made_yes (f : Int) (hn : -9223372036854775808 ≤ f) (hn2 : f ≤ 9223372036854775807) (H : Bd w D x c s N) (hy : nodeB s f = true) : Calls Try.prog 61 #[.pointer (some ⟨D, 0, none⟩), .int .i64 f] w fun e w' => e = .returned (.tuple #[.agg #[.int .i64 (at_ s f).v, .int .i64 (at_ s f).lo, .int .i64 (at_ s f).hi], .bool true]) ∧ Below w.heap.size w w' := by
  have hb := (Below.refl w.heap.size w).alloc (Nat.le_refl _) (.cells #[.int .i64 0, .int .i64 0, .int .i64 0] 89)
  have HT := Lib.hid (fun w' (hb : Below w.heap.size w w') => table_ (H.below hb))
  have HG := Lib.hid (fun w' (hb : Below w.heap.size w w') => get_yes f hn hn2 (H.below hb).tk.tb hy)
  have HB := Lib.hid hb
  clear H hb hy
  generalize (at_ s f).v = y0 at *
  generalize (at_ s f).lo = y1 at *
  generalize (at_ s f).hi = y2 at *
  have h0 := heap_alloc_new w (.cells #[.int .i64 0, .int .i64 0, .int .i64 0] 89)
  have hsz : (w.alloc (.cells #[.int .i64 0, .int .i64 0, .int .i64 0] 89)).heap.size = w.heap.size + 1 := by simp
  go_enter Try.func61, Try.ntmps61
  go_wp2_with fail
  generalize w.alloc (.cells #[.int .i64 0, .int .i64 0, .int .i64 0] 89) = wa at *
  refine (HT.out _ HB.out).mono ?_
  rintro e w1 ⟨rfl, rfl⟩
  go_wp2_with fail
  refine (HG.out _ HB.out).mono ?_
  rintro e w1 ⟨rfl, hb1⟩
  have c0 := fun o => (hb1.cell (p := ⟨w.heap.size, o, none⟩) (by show w.heap.size < wa.heap.size; omega)).trans (Lib.cell_of_heap h0 o)
  have HFr : w1.frozen? ⟨w.heap.size, 0, none⟩ = false ∧ w1.frozen? ⟨w.heap.size, 1, none⟩ = false ∧ w1.frozen? ⟨w.heap.size, 2, none⟩ = false := by
    have e : w1.heap[w.heap.size]? = wa.heap[w.heap.size]? := hb1.block _ (by omega)
    refine ⟨?_, ?_, ?_⟩ <;> (unfold World.frozen?; rw [e, h0]; rfl)
  obtain ⟨fr0, fr1, fr2⟩ := HFr
  have HB1 := Lib.hid (HB.out.trans (hb1.mono HB.out.size))
  have HE : Hid (∀ (a b d : Value), Below w.heap.size w (((w1.setCell ⟨w.heap.size, 0, none⟩ a).setCell ⟨w.heap.size, 1, none⟩ b).setCell ⟨w.heap.size, 2, none⟩ d)) := Lib.hid (fun a b d => by
    have k0 : ∀ (y : World) (o : Nat) (u : Value), Below w.heap.size w y → Below w.heap.size w (y.setCell ⟨w.heap.size, o, none⟩ u) := fun y o u h => h.setCell (p := ⟨w.heap.size, o, none⟩) (Nat.le_refl _) u
    exact k0 _ _ _ (k0 _ _ _ (k0 _ _ _ HB1.out)))
  have HC := Lib.hid (show ∀ (a b d : Value), ((((w1.setCell ⟨w.heap.size, 0, none⟩ a).setCell ⟨w.heap.size, 1, none⟩ b).setCell ⟨w.heap.size, 2, none⟩ d)).heap[w.heap.size]? = some (.cells #[a, b, d] 89 (0, 0)) from fun a b d => by
    have e : w1.heap[w.heap.size]? = some (.cells #[.int .i64 0, .int .i64 0, .int .i64 0] 89 (0, 0)) := (hb1.block _ (by omega)).trans h0
    exact set3 w1 w.heap.size _ _ _ _ a b d e)
  clear hb1 h0 hsz
  go_wp2_with fail
  have hl := fun o => Lib.cell_of_heap (HC.out (.int .i64 y0) (.int .i64 y1) (.int .i64 y2)) o
  refine bodyPost_ret (v := .tuple #[.agg #[.int .i64 y0, .int .i64 y1, .int .i64 y2], .bool true]) (by simp [results, Try.results61, go_sem, hl]) rfl ⟨rfl, HE.out _ _ _⟩
end
end Go.Proofs.Ytnkkmppmfjekeaa.ItB
