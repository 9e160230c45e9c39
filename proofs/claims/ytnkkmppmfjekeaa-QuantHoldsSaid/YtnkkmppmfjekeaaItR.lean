/- Play: as many diagrams as one likes, made of one another, by contract. -/
import Derived.Test.YtnkkmppmfjekeaaItQ
namespace Go.Proofs.Ytnkkmppmfjekeaa.ItR
open Go.RowKit Go.Lib Go.Proofs Go.Proofs.Ytnkkmppmfjekeaa.CaA Go.Proofs.Ytnkkmppmfjekeaa.NdA Go.Proofs.Ytnkkmppmfjekeaa.NdB Go.Proofs.Ytnkkmppmfjekeaa.NdC Go.Proofs.Ytnkkmppmfjekeaa.NdE Go.Proofs.Ytnkkmppmfjekeaa.NdG Go.Proofs.Ytnkkmppmfjekeaa.NdI Go.Proofs.Ytnkkmppmfjekeaa.ItA Go.Proofs.Ytnkkmppmfjekeaa.ItB Go.Proofs.Ytnkkmppmfjekeaa.ItD Go.Proofs.Ytnkkmppmfjekeaa.ItF Go.Proofs.Ytnkkmppmfjekeaa.ItH Go.Proofs.Ytnkkmppmfjekeaa.ItI Go.Proofs.Ytnkkmppmfjekeaa.ItK Go.Proofs.Ytnkkmppmfjekeaa.ItL Go.Proofs.Ytnkkmppmfjekeaa.ItM Go.Proofs.Ytnkkmppmfjekeaa.ItN Go.Proofs.Ytnkkmppmfjekeaa.ItP Go.Proofs.Ytnkkmppmfjekeaa.ItQ
set_option linter.unusedVariables false
set_option linter.unusedSimpArgs false
theorem infoSl : (Try.prog.info? 33).map (fun i => (i.zero, i.size, i.bytes)) = some (some (.slice none 0 0), 1, 24) := by kernel_rfl
theorem infoInt : (Try.prog.info? 3).map (fun i => (i.zero, i.size, i.bytes)) = some (some (.int .i64 0), 1, 8) := by kernel_rfl
theorem pl_below {K b D : Nat} {x0 x : Bx} {w0 wr w' : World} {ops : List Op4} {k : Nat} {vl vr : Value} {lv : List Int} {gs : List Nat} {s : St} (H : PlayAt K b D x0 w0 ops k vl vr wr lv gs x s) (hb : Below wr.heap.size wr w') : PlayAt K b D x0 w0 ops k vl vr w' lv gs x s :=
  ⟨H.bd.below hb, H.res, H.same, H.len, H.is, own_block H.ol (fun g hg => hb.block g (H.ol.lt g hg).2), own_block H.or (fun g hg => hb.block g (H.or.lt g hg).2), H.gl, fun i h => ⟨(H.rows i h).1.below hb, (H.rows i h).2⟩, H.fl, H.fr, H.frm.trans (Frm.of_below (F := fun _ => False) hb) (fun k hk => absurd hk id), H.foot⟩
def PlayPost (K b D : Nat) (x0 : Bx) (ops : List Op4) (w : World) (e : Ending) (w' : World) : Prop := ∃ vl vr lv gs x s, e = .returned (.tuple #[vl, vr, .int .i64 (upK K ops (min 30 ops.length)).c]) ∧ PlayAt K b D x0 w ops (min 30 ops.length) vl vr w' lv gs x s
theorem play_start {K b D : Nat} {x0 : Bx} {w w1 w2 w3 : World} {ops : List Op4} {g0 g1 : Nat} (hK : K ≤ 6) (H : Bd w D x0 0 ⟨K, b, false, []⟩ 0) (h1 : w1 = w.alloc (.cells #[.int .i64 0, .int .i64 1] 3)) (r0 : RB w2 g0 (2 ^ K) (fun _ => false)) (b2 : Below w1.heap.size w1 w2) (l0 : w1.heap.size ≤ g0) (r1 : RB w3 g1 (2 ^ K) (fun _ => true)) (b3 : Below w2.heap.size w2 w3) (l1 : w2.heap.size ≤ g1) :
    PlayAt K b D x0 w ops 0 (.slice (some ⟨w.heap.size, 0, none⟩) 2 2) (.slice (some ⟨w3.heap.size, 0, none⟩) 2 2) (w3.alloc (.cells #[.slice (some ⟨g0, 0, none⟩) (2 ^ K) (2 ^ K), .slice (some ⟨g1, 0, none⟩) (2 ^ K) (2 ^ K)] 33)) [0, 1] [g0, g1] x0 ⟨K, b, false, []⟩ := by
  have s1 : w1.heap.size = w.heap.size + 1 := by rw [h1]; simp
  have s2 := b2.size
  have s3 := b3.size
  have hb1 : Below w.heap.size w w1 := by rw [h1]; exact (Below.refl _ w).alloc (Nat.le_refl _) _
  have hb4 := (Below.refl w3.heap.size w3).alloc (Nat.le_refl _) (.cells #[.slice (some ⟨g0, 0, none⟩) (2 ^ K) (2 ^ K), .slice (some ⟨g1, 0, none⟩) (2 ^ K) (2 ^ K)] 33)
  have hbb : Below w.heap.size w w3 := (hb1.trans (b2.mono (by omega))).trans (b3.mono (by omega))
  have hba := hbb.trans (hb4.mono (by omega))
  have hc : w1.heap[w.heap.size]? = some (.cells #[.int .i64 0, .int .i64 1] 3 (0, 0)) := by rw [h1]; exact heap_alloc_new w _
  have ol : w1.ownsRow w.heap.size 3 1 (.slice (some ⟨w.heap.size, 0, none⟩) 2 2) 2 [.int .i64 0, .int .i64 1] := by
    rw [h1]
    exact World.ownsRow_lit (base := w.heap.size) (e := 3) (size := 1) w #[.int .i64 0, .int .i64 1] 2 (Nat.le_refl _) (by decide) rfl
  have or : (w3.alloc (.cells #[.slice (some ⟨g0, 0, none⟩) (2 ^ K) (2 ^ K), .slice (some ⟨g1, 0, none⟩) (2 ^ K) (2 ^ K)] 33)).ownsRow w.heap.size 33 1 (.slice (some ⟨w3.heap.size, 0, none⟩) 2 2) 2 [.slice (some ⟨g0, 0, none⟩) (2 ^ K) (2 ^ K), .slice (some ⟨g1, 0, none⟩) (2 ^ K) (2 ^ K)] :=
    World.ownsRow_lit (base := w.heap.size) (e := 33) (size := 1) w3 #[.slice (some ⟨g0, 0, none⟩) (2 ^ K) (2 ^ K), .slice (some ⟨g1, 0, none⟩) (2 ^ K) (2 ^ K)] 2 (by omega) (by decide) rfl
  have nf : ∀ j, w.heap.size ≤ j → ¬ FootD D x0 j := fun j hj h => by have := H.foot h; omega
  have r0' := (r0.below b3).below hb4
  have r1' := r1.below hb4
  refine ⟨H.below hba, Or.inl ⟨rfl, Nat.zero_le _, rfl, rfl⟩, fun _ => rfl, rfl, fun f hf => ?_, own_block ol (fun g hg => ?_), or, rfl, fun i h => ?_, fun j hj => ?_, fun j hj => ?_, Frm.of_below hba, fun j hj => Or.inl hj⟩
  · simp only [List.mem_cons, List.not_mem_nil, or_false] at hf
    rcases hf with rfl | rfl
    · exact zero_is _
    · exact one_is _
  · injection hg with hg
    have e : w.heap.size = g := hg
    subst e
    exact (hb4.block _ (by omega)).trans ((b3.block _ (by omega)).trans (b2.block _ (by omega)))
  · match i, h with
    | 0, _ => exact ⟨r0', by show w.heap.size ≤ g0; omega, nf _ (by show w.heap.size ≤ g0; omega)⟩
    | 1, _ => exact ⟨r1', by show w.heap.size ≤ g1; omega, nf _ (by show w.heap.size ≤ g1; omega)⟩
  · injection hj with hj
    have e : w.heap.size = j := hj
    exact nf j (by omega)
  · injection hj with hj
    have e : w3.heap.size = j := hj
    exact nf j (by omega)
/-- Where the two rows lie. -/
theorem play_rows {K b D : Nat} {x0 x : Bx} {w0 wr : World} {ops : List Op4} {k : Nat} {vl vr : Value} {lv : List Int} {gs : List Nat} {s : St} (H : PlayAt K b D x0 w0 ops k vl vr wr lv gs x s) : ∃ bl cl br cr, vl = .slice (some ⟨bl, 0, none⟩) (k + 2) cl ∧ vr = .slice (some ⟨br, 0, none⟩) (k + 2) cr ∧ bl < wr.heap.size ∧ br < wr.heap.size ∧ ¬ FootD D x bl ∧ ¬ FootD D x br ∧
    (∀ i, (h : i < k + 2) → wr.cell? ⟨bl, i, none⟩ = some (.int .i64 (lv[i]'(by rw [H.len]; exact h)))) ∧ (∀ i, (h : i < k + 2) → wr.cell? ⟨br, i, none⟩ = some (slV (2 ^ K) (gs[i]'(by rw [H.gl]; exact h)))) := by
  obtain ⟨bl, cl, hl⟩ : ∃ bl cl, vl = .slice (some ⟨bl, 0, none⟩) (k + 2) cl := by
    rcases H.ol.2 with ⟨_, h⟩ | ⟨g, cap, cur, h, _⟩
    · omega
    · exact ⟨g, cap, h⟩
  obtain ⟨br, cr, hr⟩ : ∃ br cr, vr = .slice (some ⟨br, 0, none⟩) (k + 2) cr := by
    rcases H.or.2 with ⟨_, h⟩ | ⟨g, cap, cur, h, _⟩
    · omega
    · exact ⟨g, cap, h⟩
  have ol := H.ol
  have or := H.or
  have fl := H.fl
  have fr := H.fr
  subst hl hr
  refine ⟨bl, cl, br, cr, rfl, rfl, (ol.lt bl rfl).2, (or.lt br rfl).2, fl bl rfl, fr br rfl, fun i h => ?_, fun i h => ?_⟩
  · rw [ol.cellAt i (by omega), List.getElem?_map, List.getElem?_eq_getElem (by rw [H.len]; exact h)]
    rfl
  · rw [or.cellAt i (by omega), List.getElem?_map, List.getElem?_eq_getElem (by rw [H.gl]; exact h)]
    rfl
theorem play_pick {K b D : Nat} {x0 x : Bx} {w0 wr : World} {ops : List Op4} {k bl cl br cr : Nat} {lv : List Int} {gs : List Nat} {s : St} (hk : k ≤ ops.length) (hK : K ≤ 6) (h30 : k ≤ 30) (H : PlayAt K b D x0 w0 ops k (.slice (some ⟨bl, 0, none⟩) (k + 2) cl) (.slice (some ⟨br, 0, none⟩) (k + 2) cr) wr lv gs x s) (i : Nat) :
    ∃ (la : Int) (ga : Nat), wr.cell? ⟨bl, i % (k + 2), none⟩ = some (.int .i64 la) ∧ wr.cell? ⟨br, i % (k + 2), none⟩ = some (slV (2 ^ K) ga) ∧ isB s la = true ∧ (s.spent = false → la = pick (upK K ops k).l i) ∧ RB wr ga (2 ^ K) (pickR (upK K ops k).R i) ∧ w0.heap.size ≤ ga ∧ ¬ FootD D x ga := by
  obtain ⟨bl', cl', br', cr', e1, e2, -, -, -, -, h1, h2⟩ := play_rows H
  injection e1 with e1 _ e1c
  injection e1 with e1
  injection e1 with e1 _ _
  injection e2 with e2 _ e2c
  injection e2 with e2
  injection e2 with e2 _ _
  subst e1 e2
  have hi : i % (k + 2) < k + 2 := Nat.mod_lt _ (by omega)
  have hU := upK_inv hK (ops := ops) k hk h30
  have hlU := (upK_len (K := K) (ops := ops) k hk).1
  refine ⟨_, _, h1 _ hi, h2 _ hi, H.is _ (List.getElem_mem _), fun hs => ?_, ?_, (H.rows _ (by rw [H.gl]; exact hi)).2.1, (H.rows _ (by rw [H.gl]; exact hi)).2.2⟩
  · unfold pick
    have e := H.same hs
    rw [hlU, List.getD_eq_getElem?_getD, ← e, List.getElem?_eq_getElem (by rw [H.len]; exact hi)]
    rfl
  · have := (H.rows _ (by rw [H.gl]; exact hi)).1
    unfold pickR
    rw [hU.1.len, hlU]
    exact this
theorem upK_01 {K : Nat} {ops : List Op4} : ∀ k, k ≤ ops.length → 2 ≤ (upK K ops k).R.length ∧ (upK K ops k).R.getD 0 (fun _ => false) = (fun _ => false) ∧ (upK K ops k).R.getD 1 (fun _ => false) = (fun _ => true)
  | 0, _ => ⟨Nat.le_refl _, rfl, rfl⟩
  | k + 1, h => by
    obtain ⟨h1, h2, h3⟩ := upK_01 (K := K) (ops := ops) k (by omega)
    rw [upK_succ (show k < ops.length by omega)]
    refine ⟨?_, ?_, ?_⟩
    · show 2 ≤ ((upK K ops k).R ++ [_]).length
      rw [List.length_append]
      omega
    · show ((upK K ops k).R ++ [_]).getD 0 _ = _
      rw [getD_app (by omega)]
      exact h2
    · show ((upK K ops k).R ++ [_]).getD 1 _ = _
      rw [getD_app (by omega)]
      exact h3
theorem play_01 {K b D : Nat} {x0 x : Bx} {w0 wr : World} {ops : List Op4} {k bl cl br cr : Nat} {lv : List Int} {gs : List Nat} {s : St} (hk : k ≤ ops.length) (H : PlayAt K b D x0 w0 ops k (.slice (some ⟨bl, 0, none⟩) (k + 2) cl) (.slice (some ⟨br, 0, none⟩) (k + 2) cr) wr lv gs x s) :
    ∃ (g0 g1 : Nat), wr.cell? ⟨br, 0, none⟩ = some (slV (2 ^ K) g0) ∧ wr.cell? ⟨br, 1, none⟩ = some (slV (2 ^ K) g1) ∧ RB wr g0 (2 ^ K) (fun _ => false) ∧ RB wr g1 (2 ^ K) (fun _ => true) ∧ w0.heap.size ≤ g1 ∧ ¬ FootD D x g1 := by
  obtain ⟨bl', cl', br', cr', e1, e2, -, -, -, -, h1, h2⟩ := play_rows H
  injection e2 with e2 _ e2c
  injection e2 with e2
  injection e2 with e2 _ _
  subst e2
  obtain ⟨u1, u2, u3⟩ := upK_01 (K := K) (ops := ops) k hk
  have r0 := (H.rows 0 (by rw [H.gl]; omega)).1
  have r1 := H.rows 1 (by rw [H.gl]; omega)
  rw [u2] at r0
  rw [u3] at r1
  exact ⟨_, _, h2 0 (by omega), h2 1 (by omega), r0, r1.1, r1.2.1, r1.2.2⟩
/-- All that is known where a step's diagram is asked for. -/
structure FW (K b D n : Nat) (x0 : Bx) (w0 wr W : World) (ops : List Op4) (k bl cl br cr : Nat) (lv : List Int) (gs : List Nat) (x : Bx) (s : St) (o : Op4) (la lb lc : Int) (ga gb gc gn gy : Nat) : Prop where
  pl : PlayAt K b D x0 w0 ops k (.slice (some ⟨bl, 0, none⟩) (k + 2) cl) (.slice (some ⟨br, 0, none⟩) (k + 2) cr) W lv gs x s
  bel : Below wr.heap.size wr W
  ox : ∀ j, W.cell? ⟨wr.heap.size, j, none⟩ = (#[.int .u64 o.kind, .int .u64 o.a, .int .u64 o.b, .int .u64 o.c] : Array Value)[j]?
  a1 : W.cell? ⟨bl, o.a % (k + 2), none⟩ = some (.int .i64 la)
  a2 : W.cell? ⟨br, o.a % (k + 2), none⟩ = some (.slice (some ⟨ga, 0, none⟩) n n)
  b1 : W.cell? ⟨bl, o.b % (k + 2), none⟩ = some (.int .i64 lb)
  b2 : W.cell? ⟨br, o.b % (k + 2), none⟩ = some (.slice (some ⟨gb, 0, none⟩) n n)
  c1 : W.cell? ⟨bl, o.c % (k + 2), none⟩ = some (.int .i64 lc)
  c2 : W.cell? ⟨br, o.c % (k + 2), none⟩ = some (.slice (some ⟨gc, 0, none⟩) n n)
  y0 : W.cell? ⟨br, 0, none⟩ = some (.slice (some ⟨gn, 0, none⟩) n n)
  y1 : W.cell? ⟨br, 1, none⟩ = some (.slice (some ⟨gy, 0, none⟩) n n)
  ra : RB W ga n (pickR (upK K ops k).R o.a)
  rb : RB W gb n (pickR (upK K ops k).R o.b)
  rc : RB W gc n (pickR (upK K ops k).R o.c)
  rn : RB W gn n (fun _ => false)
  ry : RB W gy n (fun _ => true)
  fa : ¬ FootD D x ga
  fb : ¬ FootD D x gb
  fc : ¬ FootD D x gc
  fn : ¬ FootD D x gn
  fy : ¬ FootD D x gy
  wy : w0.heap.size ≤ gy
  fl : ¬ FootD D x bl
  fr : ¬ FootD D x br
  ll : bl < W.heap.size
  lr : br < W.heap.size
  ia : isB s la = true
  ib : isB s lb = true
  ic : isB s lc = true
  sa : s.spent = false → la = pick (upK K ops k).l o.a
  sb : s.spent = false → lb = pick (upK K ops k).l o.b
  sc : s.spent = false → lc = pick (upK K ops k).l o.c
theorem FW.drewN {K b D n : Nat} {x0 : Bx} {w0 wr W : World} {ops : List Op4} {k bl cl br cr : Nat} {lv : List Int} {gs : List Nat} {x : Bx} {s : St} {o : Op4} {la lb lc : Int} {ga gb gc gn gy : Nat} (H : FW K b D n x0 w0 wr W ops k bl cl br cr lv gs x s o la lb lc ga gb gc gn gy) (q : Nat) : FW K b D n x0 w0 wr (W.drewN q) ops k bl cl br cr lv gs x s o la lb lc ga gb gc gn gy :=
  ⟨pl_below H.pl (below_drewN (Below.refl _ _) q), below_drewN H.bel q, H.ox, H.a1, H.a2, H.b1, H.b2, H.c1, H.c2, H.y0, H.y1, H.ra, H.rb, H.rc, H.rn, H.ry, H.fa, H.fb, H.fc, H.fn, H.fy, H.wy, H.fl, H.fr, H.ll, H.lr, H.ia, H.ib, H.ic, H.sa, H.sb, H.sc⟩
theorem FW.drew {K b D n : Nat} {x0 : Bx} {w0 wr W : World} {ops : List Op4} {k bl cl br cr : Nat} {lv : List Int} {gs : List Nat} {x : Bx} {s : St} {o : Op4} {la lb lc : Int} {ga gb gc gn gy : Nat} (H : FW K b D n x0 w0 wr W ops k bl cl br cr lv gs x s o la lb lc ga gb gc gn gy) : FW K b D n x0 w0 wr W.drew ops k bl cl br cr lv gs x s o la lb lc ga gb gc gn gy := H.drewN 1
theorem pl_L {K b D : Nat} {x0 x : Bx} {w0 wr : World} {ops : List Op4} {k : Nat} {vl vr : Value} {lv : List Int} {gs : List Nat} {s : St} (H : PlayAt K b D x0 w0 ops k vl vr wr lv gs x s) : s.vars = K ∧ (s.spent = false → s.L = (upK K ops k).M) := by
  refine ⟨H.res.vars.1, fun hs => ?_⟩
  rcases H.res with ⟨_, _, _, h4⟩ | ⟨_, _, h3⟩
  · rw [h4]
  · rw [h3.sp] at hs; cases hs
theorem pl_small {K b D : Nat} {x0 x : Bx} {w0 wr : World} {ops : List Op4} {k : Nat} {vl vr : Value} {lv : List Int} {gs : List Nat} {s : St} (hk : k ≤ ops.length) (hK : K ≤ 6) (h30 : k ≤ 30) (H : PlayAt K b D x0 w0 ops k vl vr wr lv gs x s) : s.L.length ≤ 5760 ∧ (upK K ops k).c ≤ 90 := by
  have h1 := (upK_inv hK (ops := ops) k hk h30).2
  have h2 := (upK_len (K := K) (ops := ops) k hk).2
  refine ⟨?_, by omega⟩
  rcases H.res with ⟨_, _, _, h4⟩ | ⟨h3, _, h5⟩
  · rw [h4]; exact h1
  · rcases h3 with h3 | h3
    · cases h3
    · have h3' : b < (upK K ops k).M.length := h3
      have h6 : s.L.length = b := h5.len
      omega
theorem res_no {s s' : St} {r a : Int} {M : List Nd} (h : Res s r M a s') (hs : s.spent = true) : isB s' a = true ∧ Sp s s' := by
  rcases h with ⟨h1, _⟩ | ⟨_, h2, h3⟩
  · rw [hs] at h1; cases h1
  · exact ⟨h2, h3⟩
/-- A diagram was made, and its row behind it. -/
theorem done_fresh {K b D : Nat} {x0 x : Bx} {w0 wr y w1 w2 : World} {ops : List Op4} {k : Nat} {vl vr : Value} {lv : List Int} {gs : List Nat} {s s' : St} {o : Op4} {r0 a : Int} {M0 : List Nd} {g : Nat} {G : Nat → Bool}
    (hP : PlayAt K b D x0 w0 ops k vl vr wr lv gs x s) (hb : Below wr.heap.size wr y) (hU : Upto D x y w1 ((upK K ops k).c + opC o) s' (192 * k + 192)) (h2 : Below w1.heap.size w1 w2) (hR : RB w2 g (2 ^ K) G) (hg : w1.heap.size ≤ g) (hG : G = opR K (upK K ops k).R o)
    (hS : Res s r0 M0 a s') (hE : s.spent = false → (r0, M0) = opU K (upK K ops k).l (upK K ops k).M o) : ∃ x', OpDone K D x w0 wr (upK K ops k) o k s a g w2 x' s' := by
  obtain ⟨x', hB, hF, hk⟩ := hU
  have s0 := hb.size
  have s1 := hF.size
  have sp := hP.frm.size
  refine ⟨x', (hB.below h2).more (by omega), ((Frm.of_below (F := FootD D x) hb).trans hF (fun j hj => Or.inl hj)).trans (Frm.of_below (F := fun _ => False) h2) (fun j hj => absurd hj id), fun j hj => ?_, fun hs => ?_, fun hs => res_no hS hs, hG ▸ hR, by omega, fun hf => by have := hB.foot hf; omega⟩
  · rcases hk j hj with e | e
    · exact Or.inl e
    · exact Or.inr (by omega)
  · rw [← hE hs]
    exact hS
/-- A diagram was made; its row is one that was there. -/
theorem done_old {K b D : Nat} {x0 x : Bx} {w0 wr y w2 : World} {ops : List Op4} {k : Nat} {vl vr : Value} {lv : List Int} {gs : List Nat} {s s' : St} {o : Op4} {r0 a : Int} {M0 : List Nd} {g : Nat} {G : Nat → Bool}
    (hP : PlayAt K b D x0 w0 ops k vl vr wr lv gs x s) (hb : Below wr.heap.size wr y) (hU : Upto D x y w2 ((upK K ops k).c + opC o) s' (192 * k + 192)) (hR : RB y g (2 ^ K) G) (hl : w0.heap.size ≤ g) (hn : ¬ FootD D x g) (hG : G = opR K (upK K ops k).R o)
    (hS : Res s r0 M0 a s') (hE : s.spent = false → (r0, M0) = opU K (upK K ops k).l (upK K ops k).M o) : ∃ x', OpDone K D x w0 wr (upK K ops k) o k s a g w2 x' s' := by
  obtain ⟨x', hB, hF, hk⟩ := hU
  have s0 := hb.size
  refine ⟨x', hB.more (by omega), (Frm.of_below (F := FootD D x) hb).trans hF (fun j hj => Or.inl hj), fun j hj => ?_, fun hs => ?_, fun hs => res_no hS hs, hG ▸ (hR.keep (hF.block _ hR.lt hn)), hl, fun hf => ?_⟩
  · rcases hk j hj with e | e
    · exact Or.inl e
    · exact Or.inr (by omega)
  · rw [← hE hs]
    exact hS
  · rcases hk g hf with e | e
    · exact hn e
    · have := hR.lt; omega
theorem frm_up {D : Nat} {x : Bx} {wr y w1 : World} {c : Nat} {s : St} {N : Nat} (h : Frm (FootD D x) wr y) (hU : Upto D x y w1 c s N) : Frm (FootD D x) wr w1 := by
  obtain ⟨x', hB, hF, hk⟩ := hU
  exact h.trans hF (fun j hj => Or.inl hj)
theorem frm_below {F : Nat → Prop} {wr y w1 : World} (h : Frm F wr y) (hb : Below y.heap.size y w1) : Frm F wr w1 := h.trans (Frm.of_below (F := fun _ => False) hb) (fun j hj => absurd hj id)
theorem frm_alloc {F : Nat → Prop} {wr y : World} (h : Frm F wr y) (o : Obj) : Frm F wr (y.alloc o) := frm_below h ((Below.refl _ y).alloc (Nat.le_refl _) o)
theorem wrap_idx (q m : Nat) (h : m ≤ 1000) (h0 : 0 < m) : wrap64 ((q : Int) % (m : Int)) = ((q % m : Nat) : Int) := by
  have := Nat.mod_lt q h0
  unfold wrap64
  omega
end Go.Proofs.Ytnkkmppmfjekeaa.ItR
