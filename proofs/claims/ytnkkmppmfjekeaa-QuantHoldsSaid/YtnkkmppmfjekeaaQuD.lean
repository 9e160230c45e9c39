/- The work of a walk that lets variables go: what holds of memory at each step. -/
import Derived.Test.YtnkkmppmfjekeaaQuC
import Derived.Test.YtnkkmppmfjekeaaQuM
namespace Go.Proofs.Ytnkkmppmfjekeaa.QuD
open Go.RowKit Go.Lib Go.Proofs Go.Proofs.Ytnkkmppmfjekeaa.CaA Go.Proofs.Ytnkkmppmfjekeaa.NdA Go.Proofs.Ytnkkmppmfjekeaa.NdB Go.Proofs.Ytnkkmppmfjekeaa.NdC Go.Proofs.Ytnkkmppmfjekeaa.NdE Go.Proofs.Ytnkkmppmfjekeaa.NdG Go.Proofs.Ytnkkmppmfjekeaa.NdI Go.Proofs.Ytnkkmppmfjekeaa.ItA Go.Proofs.Ytnkkmppmfjekeaa.ItB Go.Proofs.Ytnkkmppmfjekeaa.ItD Go.Proofs.Ytnkkmppmfjekeaa.ItH Go.Proofs.Ytnkkmppmfjekeaa.ItI Go.Proofs.Ytnkkmppmfjekeaa.QuA Go.Proofs.Ytnkkmppmfjekeaa.QuB Go.Proofs.Ytnkkmppmfjekeaa.QuC Go.Proofs.Ytnkkmppmfjekeaa.QuM
set_option linter.unusedVariables false
set_option linter.unusedSimpArgs false
theorem Ext.varI {s s' : St} {C : Nat} (h : Ext s s' C) {f : Int} (hf : isB s f = true) : NdA.varI s' f = NdA.varI s f := by
  obtain ⟨X, hX⟩ := h.pre
  have e1 : NdA.varI s' f = NdA.varI (T s.vars (s.L ++ X)) f := by
    show (if (decide (2 ≤ f) && decide (f < 2 + (s'.L.length : Int))) = true then (s'.L.getD (f - 2).toNat ⟨0, 0, 0⟩).v else (s'.vars : Int)) = _
    rw [hX, h.vars]
    rfl
  rw [e1, varI_app (K := s.vars) (L := s.L) hf]
  rfl
/-- What a number of the map is. -/
def Kept (S : Nat → Bool) (J : Jn) (s : St) (n : Int) (v : Value) : Prop := ∃ a, v = .int .i64 a ∧ isB s n = true ∧ isB s a = true ∧ varI s n ≤ varI s a ∧ ∀ b, ev s.L b a = EL S J s.vars (fun b => ev s.L b n) b
theorem Kept.ext {S : Nat → Bool} {J : Jn} {s s' : St} {C : Nat} {n : Int} {v : Value} (h : Kept S J s n v) (he : Ext s s' C) : Kept S J s' n v := by
  obtain ⟨a, rfl, h1, h2, h3, h4⟩ := h
  refine ⟨a, rfl, he.is h1, he.is h2, by rw [Ext.varI he h1, Ext.varI he h2]; exact h3, fun b => ?_⟩
  rw [he.ev h2, h4 b, he.vars]
  have : (fun b => ev s'.L b n) = fun b => ev s.L b n := by funext b; exact he.ev h1 b
  rw [this]
structure Wq (W : World) (D : Nat) (x0 : Bx) (m : Nat) (S : Nat → Bool) (J : Jn) (w : World) (x : Bx) (c : Nat) (s : St) (N cnt : Nat) (M : Int → Option Value) : Prop where
  bd : Bd w D x c s N
  frm : Frm (fun j => FootD D x0 j ∨ j = m) W w
  foot : ∀ j, FootD D x j → FootD D x0 j ∨ W.heap.size ≤ j
  m0 : m < W.heap.size
  nm : ¬ FootD D x0 m
  mp : MapV w 3 iv m cnt M
  sp : s.spent = false
  mem : ∀ n v, M n = some v → Kept S J s n v
section
variable {W : World} {D : Nat} {x0 : Bx} {m : Nat} {S : Nat → Bool} {J : Jn} {w : World} {x : Bx} {c : Nat} {s : St} {N cnt : Nat} {M : Int → Option Value}
theorem Wq.off (H : Wq W D x0 m S J w x c s N cnt M) : ¬ FootD D x m := fun h => by
  rcases H.foot m h with h | h
  · exact H.nm h
  · have := H.m0; omega
theorem Wq.below {w' : World} (H : Wq W D x0 m S J w x c s N cnt M) (hb : Below w.heap.size w w') : Wq W D x0 m S J w' x c s N cnt M :=
  ⟨H.bd.below hb, H.frm.trans (Frm.of_below (F := fun _ => False) hb) (fun k hk => absurd hk id), H.foot, H.m0, H.nm, H.mp.below hb, H.sp, H.mem⟩
theorem Wq.up {w' : World} {c' N' C : Nat} {s' : St} (H : Wq W D x0 m S J w x c s N cnt M) (hU : Upto D x w w' c' s' N') (he : Ext s s' C) : ∃ x', Wq W D x0 m S J w' x' c' s' N' cnt M := by
  obtain ⟨x', hb, hf, hk⟩ := hU
  have hsz := H.frm.size
  refine ⟨x', hb, H.frm.trans hf (fun j hj => ?_), fun j hj => ?_, H.m0, H.nm, H.mp.heap (hf.block m (by have := H.m0; omega) H.off), he.sp, fun n v hv => (H.mem n v hv).ext he⟩
  · rcases H.foot j hj with h | h
    · exact Or.inl (Or.inl h)
    · exact Or.inr h
  · rcases hk j hj with h | h
    · exact H.foot j h
    · exact Or.inr (by omega)
/-- A block that lay there, apart from all that changes, is as it was. -/
theorem Wq.old (H : Wq W D x0 m S J w x c s N cnt M) {j : Nat} (hj : j < W.heap.size) (h1 : ¬ FootD D x0 j) (h2 : j ≠ m) : w.heap[j]? = W.heap[j]? := H.frm.block j hj (fun h => by
  rcases h with h | h
  · exact h1 h
  · exact h2 h)
set_option maxRecDepth 100000
theorem Wq.look_ok (H : Wq W D x0 m S J w x c s N cnt M) {n : Int} (hn : -9223372036854775808 ≤ n ∧ n ≤ 9223372036854775807) : (Instr.lookup 82 (.map (some m)) (.int .i64 n) true).run Try.prog w = .ok (.tuple #[(M n).getD (.int .i64 0), .bool (M n).isSome]) w :=
  H.mp.look_ok lawI Try.underlying82 (zeroI w) (f := n) (keyI hn)
theorem Wq.look (H : Wq W D x0 m S J w x c s N cnt M) {n : Int} (hn : -9223372036854775808 ≤ n ∧ n ≤ 9223372036854775807) : (Instr.lookup 82 (.map (some m)) (.int .i64 n) false).run Try.prog w = .ok ((M n).getD (.int .i64 0)) w :=
  H.mp.look lawI Try.underlying82 (zeroI w) (f := n) (keyI hn)
theorem Wq.store (H : Wq W D x0 m S J w x c s N cnt M) {n : Int} (hn : -9223372036854775808 ≤ n ∧ n ≤ 9223372036854775807) (hc : cnt < maxLen) {v : Value} (hk : Kept S J s n v) : ∃ w', (Instr.mapUpdate 82 (.map (some m)) (.int .i64 n) v).run Try.prog w = .ok () w' ∧ Wq W D x0 m S J w' x c s N (cnt + 1) (putK M n v) := by
  obtain ⟨w', h1, h2, h3⟩ := H.mp.store lawI Try.underlying82 hc iv_inj (f := n) (keyI hn) v
  have hg := h3.grown
  have hm : ∀ k, FootD D x k → w'.heap[k]? = w.heap[k]? := fun k hk => hg.block k (H.bd.foot hk) (fun e => by
    injection e with e
    subst e
    exact H.off hk)
  refine ⟨w', h1, H.bd.keep hg.size hm, H.frm.trans (Frm.of_grown (F := fun j => j = m) hg (fun k hk => by injection hk with hk; exact hk.symm)) (fun j hj => Or.inl (Or.inr hj)), H.foot, H.m0, H.nm, h2, H.sp, fun k u hu => ?_⟩
  unfold putK at hu
  split at hu
  · rename_i e
    subst e
    injection hu with hu
    subst hu
    exact hk
  · exact H.mem k u hu
end
/-- A block that lies apart from all that changes. -/
structure Lies (w : World) (D : Nat) (x : Bx) (m b : Nat) (cs : Array Value) (t : TypeId) : Prop where
  blk : w.heap[b]? = some (.cells cs t (0, 0))
  off : ¬ FootD D x b
  ne : b ≠ m
theorem Lies.lt {w : World} {D : Nat} {x : Bx} {m b : Nat} {cs : Array Value} {t : TypeId} (h : Lies w D x m b cs t) : b < w.heap.size := (Array.getElem?_eq_some_iff.1 h.blk).1
theorem Lies.cell {w : World} {D : Nat} {x : Bx} {m b : Nat} {cs : Array Value} {t : TypeId} (h : Lies w D x m b cs t) (o : Nat) : w.cell? ⟨b, o, none⟩ = cs[o]? := Lib.cell_of_heap h.blk o
section
variable {W : World} {D : Nat} {x0 : Bx} {m : Nat} {S : Nat → Bool} {J : Jn} {w : World} {x : Bx} {c : Nat} {s : St} {N cnt : Nat} {M : Int → Option Value}
theorem Lies.next {b : Nat} {cs : Array Value} {t : TypeId} (h : Lies W D x0 m b cs t) (H : Wq W D x0 m S J w x c s N cnt M) : Lies w D x m b cs t :=
  ⟨(H.old h.lt h.off h.ne).trans h.blk, fun e => by
    rcases H.foot b e with e | e
    · exact h.off e
    · have := h.lt; omega, h.ne⟩
theorem Lies.below {w' : World} {b : Nat} {cs : Array Value} {t : TypeId} (h : Lies w D x m b cs t) (hb : Below w.heap.size w w') : Lies w' D x m b cs t := ⟨(hb.block b h.lt).trans h.blk, h.off, h.ne⟩
/-- What is new lies apart. -/
theorem Lies.new (H : Wq W D x0 m S J w x c s N cnt M) (cs : Array Value) (t : TypeId) : Lies (w.alloc (.cells cs t)) D x m w.heap.size cs t :=
  ⟨heap_alloc_new w _, fun e => by have := H.bd.foot e; omega, by have := H.m0; have := H.frm.size; omega⟩
theorem Wq.start (H : Wq W D x0 m S J w x c s N cnt M) : Wq w D x m S J w x c s N cnt M := ⟨H.bd, Frm.refl _ w, fun j h => Or.inl h, by have := H.m0; have := H.frm.size; omega, H.off, H.mp, H.sp, H.mem⟩
theorem Wq.rebase {w' : World} {x' : Bx} {c' N' cnt' : Nat} {s' : St} {M' : Int → Option Value} (H : Wq W D x0 m S J w x c s N cnt M) (H' : Wq w D x m S J w' x' c' s' N' cnt' M') : Wq W D x0 m S J w' x' c' s' N' cnt' M' :=
  ⟨H'.bd, H.frm.trans H'.frm (fun j hj => by
    rcases hj with hj | hj
    · rcases H.foot j hj with h | h
      · exact Or.inl (Or.inl h)
      · exact Or.inr h
    · exact Or.inl (Or.inr hj)), fun j hj => by
    rcases H'.foot j hj with h | h
    · exact H.foot j h
    · exact Or.inr (by have := H.frm.size; omega), H.m0, H.nm, H'.mp, H'.sp, H'.mem⟩
theorem Wq.more {N' : Nat} (H : Wq W D x0 m S J w x c s N cnt M) (h : N ≤ N') : Wq W D x0 m S J w x c s N' cnt M := ⟨H.bd.more h, H.frm, H.foot, H.m0, H.nm, H.mp, H.sp, H.mem⟩
end
/-- The boxes of a walk. -/
structure Boxes (w : World) (D : Nat) (x : Bx) (m : Nat) (bd bg bm bw bj gl : Nat) (jv : Value) : Prop where
  xd : Lies w D x m bd #[.pointer (some ⟨D, 0, none⟩)] 28
  xg : Lies w D x m bg #[.int .u64 gl] 54
  xm : Lies w D x m bm #[.map (some m)] 82
  xw : Lies w D x m bw #[.func (.func 68) #[] #[.pointer (some ⟨bd, 0, none⟩), .pointer (some ⟨bg, 0, none⟩), .pointer (some ⟨bm, 0, none⟩), .pointer (some ⟨bw, 0, none⟩), .pointer (some ⟨bj, 0, none⟩)]] 47
  xj : Lies w D x m bj #[jv] 77
theorem Boxes.next {W : World} {D : Nat} {x0 : Bx} {m : Nat} {S : Nat → Bool} {J : Jn} {w : World} {x : Bx} {c : Nat} {s : St} {N cnt : Nat} {M : Int → Option Value} {bd bg bm bw bj gl : Nat} {jv : Value} (h : Boxes W D x0 m bd bg bm bw bj gl jv) (H : Wq W D x0 m S J w x c s N cnt M) : Boxes w D x m bd bg bm bw bj gl jv := ⟨h.xd.next H, h.xg.next H, h.xm.next H, h.xw.next H, h.xj.next H⟩
/-- What a walk from n answers, and leaves: so many nodes and hits more, and so many calls, and nodes that were. -/
def WalkPost (w : World) (D : Nat) (x : Bx) (m : Nat) (S : Nat → Bool) (J : Jn) (c : Nat) (s : St) (N cnt : Nat) (n : Int) (d : Nat) (e : Ending) (w' : World) : Prop := ∃ a x' c' s' M' cnt', e = .returned (.int .i64 a) ∧ Wq w D x m S J w' x' c' s' (N + d * 2 ^ d) cnt' M' ∧ c' + 2 ≤ c + 2 * 2 ^ d ∧ cnt' + 1 ≤ cnt + 2 ^ d ∧ Ext s s' (d * 2 ^ d) ∧ isB s' a = true ∧ varI s n ≤ varI s' a ∧ ∀ b, ev s'.L b a = EL S J s.vars (fun b => ev s.L b n) b
theorem kept_of {S : Nat → Bool} {J : Jn} {s s' : St} {C : Nat} {n a : Int} (he : Ext s s' C) (hn : isB s n = true) (ha : isB s' a = true) (hv : varI s n ≤ varI s' a) (h : ∀ b, ev s'.L b a = EL S J s.vars (fun b => ev s.L b n) b) : Kept S J s' n (.int .i64 a) := by
  refine ⟨a, rfl, he.is hn, ha, by rw [Ext.varI he hn]; exact hv, fun b => ?_⟩
  rw [h b, he.vars]
  have : (fun b => ev s'.L b n) = fun b => ev s.L b n := by funext b; exact he.ev hn b
  rw [this]
theorem kept_not {S : Nat → Bool} {J : Jn} {s : St} {n : Int} {v : Value} (h : Kept S J s n v) : ∃ a, v = .int .i64 a ∧ isB s a = true ∧ varI s n ≤ varI s a ∧ ∀ b, ev s.L b a = EL S J s.vars (fun b => ev s.L b n) b := by
  obtain ⟨a, h1, _, h3, h4, h5⟩ := h
  exact ⟨a, h1, h3, h4, h5⟩
/-- What was of a diagram is, with more nodes. -/
theorem el_ext {S : Nat → Bool} {J : Jn} {s s' : St} {C : Nat} (he : Ext s s' C) {f : Int} (hf : isB s f = true) : EL S J s'.vars (fun b => ev s'.L b f) = EL S J s.vars (fun b => ev s.L b f) := by
  have : (fun b => ev s'.L b f) = fun b => ev s.L b f := by funext b; exact he.ev hf b
  rw [this, he.vars]
def StepPost (w : World) (D : Nat) (x : Bx) (m : Nat) (S : Nat → Bool) (J : Jn) (c : Nat) (s : St) (N cnt : Nat) (n : Int) (d : Nat) (P : World → Prop) (e : Ending) (w5 : World) : Prop := ∃ a w6, e = .returned (.int .i64 a) ∧ P w5 ∧ (Instr.mapUpdate 82 (.map (some m)) (.int .i64 n) (.int .i64 a)).run Try.prog w5 = .ok () w6 ∧ P w6 ∧ (Instr.lookup 82 (.map (some m)) (.int .i64 n) false).run Try.prog w6 = .ok (.int .i64 a) w6 ∧ WalkPost w D x m S J c s N cnt n d (.returned (.int .i64 a)) w6
/-- What is answered is kept, and told. -/
theorem finish {w w2 w5 : World} {D : Nat} {x : Bx} {m : Nat} {S : Nat → Bool} {J : Jn} {c : Nat} {s : St} {N cnt : Nat} {M : Int → Option Value} {x3 : Bx} {c3 N3 cnt3 C : Nat} {s3 : St} {M3 : Int → Option Value} {n a : Int} {d : Nat} {P : World → Prop}
    (H2 : Wq w D x m S J w2 x c s N cnt M) (H5 : Wq w2 D x m S J w5 x3 c3 s3 N3 cnt3 M3) (hn : -9223372036854775808 ≤ n ∧ n ≤ 9223372036854775807) (hcm : cnt3 < maxLen) (hx : Ext s s3 C) (inn : isB s n = true) (ia : isB s3 a = true) (hv : varI s n ≤ varI s3 a) (hev : ∀ b, ev s3.L b a = EL S J s.vars (fun b => ev s.L b n) b)
    (hN : N3 ≤ N + d * 2 ^ d) (hC : C ≤ d * 2 ^ d) (hc : c3 + 2 ≤ c + 2 * 2 ^ d) (hcn : cnt3 + 2 ≤ cnt + 2 ^ d) (hP : ∀ wz x1 c1 s1 N1 cnt1 M1, Wq w2 D x m S J wz x1 c1 s1 N1 cnt1 M1 → P wz) : StepPost w D x m S J c s N cnt n d P (.returned (.int .i64 a)) w5 := by
  obtain ⟨w6, h1, h2⟩ := H5.store hn hcm (kept_of hx inn ia hv hev)
  have hl := h2.look hn
  rw [show (putK M3 n (.int .i64 a)) n = some (.int .i64 a) from by unfold putK; rw [if_pos rfl]] at hl
  exact ⟨a, w6, rfl, hP _ _ _ _ _ _ _ H5, h1, hP _ _ _ _ _ _ _ h2, hl, a, x3, c3, s3, _, _, rfl, (H2.rebase h2).more hN, hc, by omega, hx.more hC, ia, hv, hev⟩
theorem cost_succ (d : Nat) : (d + 1) * 2 ^ (d + 1) = 2 * (d * 2 ^ d) + 2 ^ (d + 1) := by
  rw [Nat.succ_mul, Nat.pow_succ, ← Nat.mul_assoc]
  omega
theorem cost_mono {d e : Nat} (h : d ≤ e) : d * 2 ^ d ≤ e * 2 ^ e := Nat.mul_le_mul h (Nat.pow_le_pow_right (by omega) h)
/-- What is there of a node. -/
theorem node_parts {s : St} (H : WF s) {n : Int} (hy : nodeB s n = true) : ∃ (i p : Nat) (lo hi : Int), n = ((i + 2 : Nat) : Int) ∧ at_ s n = ⟨(p : Int), lo, hi⟩ ∧ p < s.vars ∧ p < 61 ∧ varI s n = p ∧ isB s lo = true ∧ isB s hi = true ∧ (p : Int) + 1 ≤ varI s lo ∧ (p : Int) + 1 ≤ varI s hi ∧ lo ≠ hi ∧ isB s n = true ∧
    ∀ S J, Same1 J → ∀ b, EL S J s.vars (fun b => ev s.L b n) b = if S p then J (EL S J s.vars (fun b => ev s.L b lo) b) (EL S J s.vars (fun b => ev s.L b hi) b) else if b p then EL S J s.vars (fun b => ev s.L b hi) b else EL S J s.vars (fun b => ev s.L b lo) b := by
  obtain ⟨h1, h2⟩ := nodeB_iff.1 hy
  obtain ⟨i, rfl⟩ : ∃ i : Nat, n = ((i + 2 : Nat) : Int) := ⟨(n - 2).toNat, by omega⟩
  have hi : i < s.L.length := by omega
  have ea : at_ s ((i + 2 : Nat) : Int) = s.L[i] := NdL.at_idx hi
  have hok := H.ok i hi
  have hv := NdL.varI_idx (s := s) hi
  obtain ⟨p, hp⟩ : ∃ p : Nat, s.L[i].v = p := ⟨s.L[i].v.toNat, by have := hok.1; omega⟩
  have h61 := H.v61
  refine ⟨i, p, s.L[i].lo, s.L[i].hi, rfl, ?_, by have := hok.2.1; omega, by have := hok.2.1; omega, by rw [hv, hp], isB_iff.2 ⟨hok.2.2.1, by have := hok.2.2.2.1; omega⟩, isB_iff.2 ⟨hok.2.2.2.2.1, by have := hok.2.2.2.2.2.1; omega⟩, by have := hok.2.2.2.2.2.2.2.1; omega, by have := hok.2.2.2.2.2.2.2.2; omega, hok.2.2.2.2.2.2.1, isB_iff.2 ⟨by omega, by omega⟩, fun S J hJ b => ?_⟩
  · rw [ea, ← hp]
  · rw [el_node hJ H hi, hp, Int.toNat_natCast]
/-- A node that is made of two, where there is budget enough. -/
theorem mk_ans {s : St} (H : WF s) (hI : Inv s) (hs : s.spent = false) {p : Nat} (hp : p < s.vars) {lo hi : Int} (hl : isB s lo = true) (hh : isB s hi = true) (vl : (p : Int) + 1 ≤ varI s lo) (vh : (p : Int) + 1 ≤ varI s hi) (hb : s.L.length + 2 ^ (s.vars - p) ≤ s.budget) :
    Ans s (mkS s p lo hi) (2 ^ (s.vars - p)) (s.vars - p) (fun b => if b p then ev s.L b hi else ev s.L b lo) (mkA s p lo hi) := by
  have hm : mayB s p lo hi = true := mayB_iff.2 ⟨by omega, hl, hh, by omega, by omega⟩
  have hR := mk_res hI hm
  have dl := dep_ev H hl (v := p + 1) (by omega)
  have dh := dep_ev H hh (v := p + 1) (by omega)
  have hd : Dep s.vars p (fun b => if b p then ev s.L b hi else ev s.L b lo) := fun b c hbc => by
    have h1 := dl b c (fun i h1 h2 => hbc i (by omega) h2)
    have h2 := dh b c (fun i h1 h2 => hbc i (by omega) h2)
    simp only at h1 h2 ⊢
    rw [h1, h2, hbc p (Nat.le_refl _) hp]
  have e0 : cof (fun b => if b p then ev s.L b hi else ev s.L b lo) p false = fun b => ev s.L b lo := by
    have := dl.cof_eq (Nat.lt_succ_self p) false
    funext b
    have h2 := congrFun this b
    unfold cof at h2 ⊢
    simp only at h2 ⊢
    rw [show NdL.put b p false p = false from by unfold NdL.put; rw [if_pos rfl], if_neg (by simp)]
    exact h2
  have e1 : cof (fun b => if b p then ev s.L b hi else ev s.L b lo) p true = fun b => ev s.L b hi := by
    have := dh.cof_eq (Nat.lt_succ_self p) true
    funext b
    have h2 := congrFun this b
    unfold cof at h2 ⊢
    simp only at h2 ⊢
    rw [show NdL.put b p true p = true from by unfold NdL.put; rw [if_pos rfl], if_pos rfl]
    exact h2
  have t0 : top s.vars s.L (fun b => ev s.L b lo) = (lo, s.L) := top_id (T_wf H) hl (fun b => rfl)
  have t1 : top s.vars s.L (fun b => ev s.L b hi) = (hi, s.L) := top_id (T_wf H) hh (fun b => rfl)
  have ht := top_step (T_wf H) hp hd
  rw [e0, e1, t0] at ht
  simp only at ht
  rw [t1] at ht
  simp only at ht
  rw [← ht] at hR
  exact ans_of H hs hb (by omega) (by rw [show s.vars - (s.vars - p) = p by omega]; exact hd) hR
/-- Whether no variable that goes is behind p. -/
theorem none_above {g p K : Nat} (hg : g < 2 ^ K) : (g / 2 ^ p = 0) ↔ ∀ i, p ≤ i → i < K → g.testBit i = false := by
  constructor
  · intro h i hi _
    have hlt : g < 2 ^ p := by
      have := Nat.lt_of_div_eq_zero (Nat.two_pow_pos p) h
      exact this
    exact Nat.testBit_lt_two_pow (Nat.lt_of_lt_of_le hlt (Nat.pow_le_pow_right (by omega) hi))
  · intro h
    refine Nat.div_eq_of_lt ?_
    refine Nat.lt_pow_two_of_testBit g (fun i hi => ?_)
    by_cases hk : i < K
    · exact h i hi hk
    · exact Nat.testBit_lt_two_pow (Nat.lt_of_lt_of_le hg (Nat.pow_le_pow_right (by omega) (by omega)))
end Go.Proofs.Ytnkkmppmfjekeaa.QuD
