/- As many diagrams as one likes, made of one another: what holds behind so many steps of Play. -/
import Derived.Test.YtnkkmppmfjekeaaItP
import Derived.Maps.AppendAt
import Derived.Laws.OwnMore
namespace Go.Proofs.Ytnkkmppmfjekeaa.ItQ
open Go.RowKit Go.Lib Go.Proofs Go.Proofs.Ytnkkmppmfjekeaa.CaA Go.Proofs.Ytnkkmppmfjekeaa.NdA Go.Proofs.Ytnkkmppmfjekeaa.NdB Go.Proofs.Ytnkkmppmfjekeaa.NdC Go.Proofs.Ytnkkmppmfjekeaa.NdE Go.Proofs.Ytnkkmppmfjekeaa.NdG Go.Proofs.Ytnkkmppmfjekeaa.NdI Go.Proofs.Ytnkkmppmfjekeaa.ItA Go.Proofs.Ytnkkmppmfjekeaa.ItB Go.Proofs.Ytnkkmppmfjekeaa.ItD Go.Proofs.Ytnkkmppmfjekeaa.ItF Go.Proofs.Ytnkkmppmfjekeaa.ItH Go.Proofs.Ytnkkmppmfjekeaa.ItI Go.Proofs.Ytnkkmppmfjekeaa.ItK Go.Proofs.Ytnkkmppmfjekeaa.ItL Go.Proofs.Ytnkkmppmfjekeaa.ItM Go.Proofs.Ytnkkmppmfjekeaa.ItN Go.Proofs.Ytnkkmppmfjekeaa.ItP
set_option linter.unusedVariables false
set_option linter.unusedSimpArgs false
def Op4.cells (o : Op4) : List Value := [.int .u64 o.kind, .int .u64 o.a, .int .u64 o.b, .int .u64 o.c]
/-- A row of ops in memory. -/
def OpsAt (w : World) (A : Option Addr) (ops : List Op4) : Prop := 0 < ops.length → ∃ b o, A = some ⟨b, o, none⟩ ∧ b < w.heap.size ∧ ∀ i, (h : i < ops.length) → ∀ j u, (Op4.cells ops[i])[j]? = some u → w.cell? ⟨b, o + i * 4 + j, none⟩ = some u
def slV (n : Nat) (g : Nat) : Value := .slice (some ⟨g, 0, none⟩) n n
/-- Behind k steps. -/
structure PlayAt (K b : Nat) (D : Nat) (x0 : Bx) (w0 : World) (ops : List Op4) (k : Nat) (vl vr : Value) (wr : World) (lv : List Int) (gs : List Nat) (x : Bx) (s : St) : Prop where
  bd : Bd wr D x (upK K ops k).c s (192 * k)
  res : Res ⟨K, b, false, []⟩ 0 (upK K ops k).M 0 s
  same : s.spent = false → lv = (upK K ops k).l
  len : lv.length = k + 2
  is : ∀ f ∈ lv, isB s f = true
  ol : wr.ownsRow w0.heap.size 3 1 vl (k + 2) (lv.map (Value.int .i64))
  or : wr.ownsRow w0.heap.size 33 1 vr (k + 2) (gs.map (slV (2 ^ K)))
  gl : gs.length = k + 2
  rows : ∀ i, (h : i < gs.length) → RB wr gs[i] (2 ^ K) ((upK K ops k).R.getD i (fun _ => false)) ∧ w0.heap.size ≤ gs[i] ∧ ¬ FootD D x gs[i]
  fl : ∀ j, vl.ownBlock = some j → ¬ FootD D x j
  fr : ∀ j, vr.ownBlock = some j → ¬ FootD D x j
  frm : Frm (FootD D x0) w0 wr
  foot : ∀ j, FootD D x j → FootD D x0 j ∨ w0.heap.size ≤ j
theorem own_type {w : World} {b n k g : Nat} {e : TypeId} {v : Value} {xs : List Value} (h : w.ownsRow b e k v n xs) (hg : v.ownBlock = some g) : ∃ cur, w.heap[g]? = some (.cells cur e (0, 0)) := by
  rcases h.2 with ⟨rfl, _⟩ | ⟨g', cap, cur, rfl, _, hgg, _⟩
  · cases hg
  · injection hg with hg
    have hg' : g' = g := hg
    subst hg'
    exact ⟨cur, hgg⟩
theorem own_ne {w : World} {b b' n n' k k' : Nat} {e e' : TypeId} {v v' : Value} {xs xs' : List Value} (h : w.ownsRow b e k v n xs) (h' : w.ownsRow b' e' k' v' n' xs') (he : e ≠ e') {g : Nat} (hg : v.ownBlock = some g) : v'.ownBlock ≠ some g := fun hg' => by
  obtain ⟨c, hc⟩ := own_type h hg
  obtain ⟨c', hc'⟩ := own_type h' hg'
  rw [hc] at hc'
  injection hc' with hc'
  injection hc' with _ h
  exact he h
theorem own_rb {w : World} {b n k m g : Nat} {e : TypeId} {v : Value} {xs : List Value} {G : Nat → Bool} (h : w.ownsRow b e k v n xs) (he : e ≠ 4) (hr : RB w g m G) : v.ownBlock ≠ some g := fun hg => by
  obtain ⟨c, hc⟩ := own_type h hg
  rw [hr] at hc
  injection hc with hc
  injection hc with _ h
  exact he h.symm
/-- What a step's diagram, and its row, leave. -/
structure OpDone (K : Nat) (D : Nat) (x : Bx) (w0 wr : World) (p : PSt) (o : Op4) (k : Nat) (s : St) (a : Int) (g : Nat) (w2 : World) (x' : Bx) (s' : St) : Prop where
  bd : Bd w2 D x' (p.c + opC o) s' (192 * (k + 1))
  frm : Frm (FootD D x) wr w2
  foot : ∀ j, FootD D x' j → FootD D x j ∨ wr.heap.size ≤ j
  ok : s.spent = false → Res s (opU K p.l p.M o).1 (opU K p.l p.M o).2 a s'
  no : s.spent = true → isB s' a = true ∧ Sp s s'
  row : RB w2 g (2 ^ K) (opR K p.R o)
  new : w0.heap.size ≤ g
  off : ¬ FootD D x' g
theorem getD_app {R : List (Nat → Bool)} {r : Nat → Bool} {i : Nat} (h : i < R.length) : (R ++ [r]).getD i (fun _ => false) = R.getD i (fun _ => false) := by
  rw [List.getD_eq_getElem?_getD, List.getElem?_append_left h, ← List.getD_eq_getElem?_getD]
theorem getD_last {R : List (Nat → Bool)} {r : Nat → Bool} : (R ++ [r]).getD R.length (fun _ => false) = r := by
  rw [List.getD_eq_getElem?_getD, List.getElem?_append_right (Nat.le_refl _)]
  simp
theorem alloc_keep (w : World) (o : Obj) {k : Nat} (h : k < w.heap.size) : (w.alloc o).heap[k]? = w.heap[k]? := heap_alloc_old w o h
theorem grown_keep {w w' : World} {r : Option Nat} (h : w.grownBy w' r) {k : Nat} (hk : k < w.heap.size) (hr : r ≠ some k) : w'.heap[k]? = w.heap[k]? := h.block k hk (fun e => hr e.symm)
theorem play_next {K b D : Nat} {x0 x x' : Bx} {w0 wr w2 w4 w6 : World} {ops : List Op4} {k : Nat} (hk : k < ops.length) {vl vr vl' vr' : Value} {lv : List Int} {gs : List Nat} {s s' : St} {a : Int} {g : Nat} (hK : K ≤ 6) (hk30 : k < 30)
    (H : PlayAt K b D x0 w0 ops k vl vr wr lv gs x s) (hD : OpDone K D x w0 wr (upK K ops k) ops[k] k s a g w2 x' s') {oa ob : Obj}
    (o4 : w4.ownsRow w0.heap.size 3 1 vl' (k + 2 + 1) (lv.map (Value.int .i64) ++ [.int .i64 a])) (g4 : (w2.alloc oa).grownBy w4 vl.ownBlock) (e4 : vl'.ownBlock = vl.ownBlock ∨ vl'.ownBlock = some (w2.alloc oa).heap.size)
    (o6 : w6.ownsRow w0.heap.size 33 1 vr' (k + 2 + 1) (gs.map (slV (2 ^ K)) ++ [slV (2 ^ K) g])) (g6 : (w4.alloc ob).grownBy w6 vr.ownBlock) (e6 : vr'.ownBlock = vr.ownBlock ∨ vr'.ownBlock = some (w4.alloc ob).heap.size) :
    PlayAt K b D x0 w0 ops (k + 1) vl' vr' w6 (lv ++ [a]) (gs ++ [g]) x' s' := by
  have hI := upK_inv hK (ops := ops) k (by omega) (by omega)
  have hw := hD.frm.size
  have hw0 := H.frm.size
  have sa : (w2.alloc oa).heap.size = w2.heap.size + 1 := by simp
  have sb : (w4.alloc ob).heap.size = w4.heap.size + 1 := by simp
  have s4 := g4.size
  have s6 := g6.size
  have bl : ∀ j, vl.ownBlock = some j → w0.heap.size ≤ j ∧ j < wr.heap.size := fun j hj => H.ol.lt j hj
  have br : ∀ j, vr.ownBlock = some j → w0.heap.size ≤ j ∧ j < wr.heap.size := fun j hj => H.or.lt j hj
  have fl' : ∀ j, vl.ownBlock = some j → ¬ FootD D x' j := fun j hj h => by
    rcases hD.foot j h with e | e
    · exact H.fl j hj e
    · have := (bl j hj).2; omega
  have fr' : ∀ j, vr.ownBlock = some j → ¬ FootD D x' j := fun j hj h => by
    rcases hD.foot j h with e | e
    · exact H.fr j hj e
    · have := (br j hj).2; omega
  -- what neither of the two appends touches
  have keep : ∀ j, j < w2.heap.size → vl.ownBlock ≠ some j → vr.ownBlock ≠ some j → w6.heap[j]? = w2.heap[j]? := fun j hj h1 h2 =>
    (grown_keep g6 (by omega) h2).trans ((alloc_keep w4 ob (by omega)).trans ((grown_keep g4 (by omega) h1).trans (alloc_keep w2 oa hj)))
  have hbd : Bd w6 D x' ((upK K ops k).c + opC ops[k]) s' (192 * (k + 1)) := hD.bd.keep (by omega) (fun j hj => keep j (hD.bd.foot hj) (fun e => fl' j e hj) (fun e => fr' j e hj))
  have okl : w2.ownsRow w0.heap.size 3 1 vl (k + 2) (lv.map (Value.int .i64)) := own_block H.ol (fun g hg => hD.frm.block g (bl g hg).2 (H.fl g hg))
  have okr : w2.ownsRow w0.heap.size 33 1 vr (k + 2) (gs.map (slV (2 ^ K))) := own_block H.or (fun g hg => hD.frm.block g (br g hg).2 (H.fr g hg))
  have rb6 : ∀ {q : Nat} {G : Nat → Bool}, RB w2 q (2 ^ K) G → RB w6 q (2 ^ K) G := fun h => h.keep (keep _ h.lt (own_rb okl (by decide) h) (own_rb okr (by decide) h))
  have hsv : s.vars = K := H.res.vars.1
  have e1 : upK K ops (k + 1) = stepU K (upK K ops k) ops[k] := upK_succ hk
  have hpl := H.res
  have hpre : ∃ X, (opU K (upK K ops k).l (upK K ops k).M ops[k]).2 = (upK K ops k).M ++ X ∧ isB (T K (opU K (upK K ops k).l (upK K ops k).M ops[k]).2) (opU K (upK K ops k).l (upK K ops k).M ops[k]).1 = true := by
    have hst := step_inv (pow6 hK) hI.1 (by omega) ops[k]
    have hpp : ∃ X, (opU K (upK K ops k).l (upK K ops k).M ops[k]).2 = (upK K ops k).M ++ X := step_pre (pow6 hK) hI.1 (by omega) ops[k]
    obtain ⟨X, hX⟩ := hpp
    exact ⟨X, hX, hst.is _ (List.mem_append.2 (Or.inr (by simp)))⟩
  have hres : Res ⟨K, b, false, []⟩ 0 (stepU K (upK K ops k) ops[k]).M 0 s' ∧ (s'.spent = false → lv ++ [a] = (stepU K (upK K ops k) ops[k]).l) ∧ (∀ f ∈ lv ++ [a], isB s' f = true) := by
    obtain ⟨X, hX, hXi⟩ := hpre
    cases hs : s.spent with
    | true =>
      obtain ⟨ia, hsp⟩ := hD.no hs
      have hb : Res ⟨K, b, false, []⟩ 0 (stepU K (upK K ops k) ops[k]).M 0 s' := by
        rcases hpl with ⟨_, _, _, h4⟩ | ⟨h1, h2, h3⟩
        · rw [h4] at hs; cases hs
        · refine Or.inr ⟨?_, zero_is s', h3.trans hsp⟩
          rcases h1 with h1 | h1
          · cases h1
          · refine Or.inr ?_
            show b < (opU K (upK K ops k).l (upK K ops k).M ops[k]).2.length
            rw [hX, List.length_append]
            have h1' : b < (upK K ops k).M.length := h1
            omega
      refine ⟨hb, (fun h => absurd (hsp.sp.symm.trans h) (by simp)), fun f hf => ?_⟩
      rcases List.mem_append.1 hf with hf | hf
      · exact is_more (H.is f hf) hsp.pre
      · rw [List.mem_singleton] at hf
        rw [hf]
        exact ia
    | false =>
      have hr := hD.ok hs
      have hl := H.same hs
      have hsL : s = { (⟨K, b, false, []⟩ : St) with L := (upK K ops k).M } := by
        rcases hpl with ⟨_, _, _, h4⟩ | ⟨_, _, h3⟩
        · exact h4
        · rw [h3.sp] at hs; cases hs
      have hsl : s.L = (upK K ops k).M := by rw [hsL]
      have hsb : s.budget = b := by rw [hsL]
      have hp : ∃ X, s'.L = s.L ++ X := hr.pre ⟨X, by rw [hsl]; exact hX⟩
      have hia : isB s' a = true := hr.is (by rw [hsv]; exact hXi)
      refine ⟨?_, fun h => ?_, fun f hf => ?_⟩
      · rcases hr with ⟨k1, k2, k3, k4⟩ | ⟨k1, k2, k3⟩
        · refine Or.inl ⟨rfl, ?_, rfl, ?_⟩
          · show (opU K (upK K ops k).l (upK K ops k).M ops[k]).2.length ≤ b
            rw [← hsb]; exact k2
          · rw [k4, hsL]
            rfl
        · refine Or.inr ⟨?_, zero_is s', ⟨k3.sp, k3.vars.trans hsv, k3.bud.trans hsb, k3.len.trans hsb, ?_⟩⟩
          · rcases k1 with k1 | k1
            · rw [hs] at k1; cases k1
            · rw [hsb] at k1
              exact Or.inr k1
          · exact ⟨s'.L, by simp⟩
      · rcases hr with ⟨k1, k2, k3, k4⟩ | ⟨k1, k2, k3⟩
        · show _ = (upK K ops k).l ++ [(opU K (upK K ops k).l (upK K ops k).M ops[k]).1]
          rw [hl, k3]
        · rw [k3.sp] at h; cases h
      · rcases List.mem_append.1 hf with hf | hf
        · exact is_more (H.is f hf) hp
        · rw [List.mem_singleton] at hf
          rw [hf]
          exact hia
  have o4' : w6.ownsRow w0.heap.size 3 1 vl' (k + 2 + 1) (lv.map (Value.int .i64) ++ [.int .i64 a]) := own_block o4 (fun j hj => by
    have hj4 := (o4.lt j hj).2
    refine (grown_keep g6 (by omega) (fun e => ?_)).trans (alloc_keep w4 ob hj4)
    have hjr := br j e
    rcases e4 with e4 | e4
    · rw [e4] at hj
      exact own_ne okl okr (by decide) hj e
    · rw [e4] at hj
      injection hj with hj
      omega)
  refine ⟨by rw [e1]; exact hbd, by rw [e1]; exact hres.1, by rw [e1]; exact hres.2.1, by rw [List.length_append, H.len]; rfl, hres.2.2, by rw [List.map_append]; exact o4', by rw [List.map_append]; exact o6, by rw [List.length_append, H.gl]; rfl, fun i h => ?_, fun j hj hf => ?_, fun j hj hf => ?_, ?_, fun j hj => ?_⟩
  · rw [e1]
    show RB w6 (gs ++ [g])[i] (2 ^ K) (((upK K ops k).R ++ [opR K (upK K ops k).R ops[k]]).getD i (fun _ => false)) ∧ _ ∧ _
    have hRl : (upK K ops k).R.length = gs.length := by rw [hI.1.len, (upK_len k (by omega)).1, H.gl]
    by_cases hi : i < gs.length
    · obtain ⟨r1, r2, r3⟩ := H.rows i hi
      rw [List.getElem_append_left hi, getD_app (by rw [hRl]; exact hi)]
      exact ⟨rb6 (r1.keep (hD.frm.block _ r1.lt r3)), r2, fun hf => by
        rcases hD.foot _ hf with e | e
        · exact r3 e
        · have := r1.lt; omega⟩
    · rw [List.length_append, List.length_singleton] at h
      have e : i = gs.length := by omega
      subst e
      rw [List.getElem_append_right (Nat.le_refl _)]
      simp only [Nat.sub_self, List.getElem_singleton]
      have : ((upK K ops k).R ++ [opR K (upK K ops k).R ops[k]]).getD gs.length (fun _ => false) = opR K (upK K ops k).R ops[k] := by rw [← hRl]; exact getD_last
      rw [this]
      exact ⟨rb6 hD.row, hD.new, hD.off⟩
  · rcases e4 with e4 | e4
    · exact fl' j (e4 ▸ hj) hf
    · rw [e4] at hj
      injection hj with hj
      have := hD.bd.foot hf
      omega
  · rcases e6 with e6 | e6
    · exact fr' j (e6 ▸ hj) hf
    · rw [e6] at hj
      injection hj with hj
      have := hD.bd.foot hf
      omega
  · have f2 : Frm (FootD D x0) w0 w2 := H.frm.trans hD.frm H.foot
    refine ⟨g6.os.trans (g4.os.trans f2.os), g6.tape.trans (g4.tape.trans f2.tape), g6.output.trans (g4.output.trans f2.output), by omega, fun j hj hn => ?_⟩
    refine (keep j (by have := f2.size; omega) (fun e => by have := (bl j e).1; omega) (fun e => by have := (br j e).1; omega)).trans (f2.block j hj hn)
  · rcases hD.foot j hj with e | e
    · exact H.foot j e
    · exact Or.inr (by omega)
end Go.Proofs.Ytnkkmppmfjekeaa.ItQ
