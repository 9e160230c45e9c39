/- Diagrams made of one another: the walk of IteTells. -/
import Derived.Test.YtnkkmppmfjekeaaItT
import Derived.Test.YtnkkmppmfjekeaaItU
namespace Go.Proofs.Ytnkkmppmfjekeaa.ItV
open Go.RowKit Go.Lib Go.Proofs Go.Proofs.Ytnkkmppmfjekeaa.CaA Go.Proofs.Ytnkkmppmfjekeaa.NdA Go.Proofs.Ytnkkmppmfjekeaa.NdB Go.Proofs.Ytnkkmppmfjekeaa.NdC Go.Proofs.Ytnkkmppmfjekeaa.NdE Go.Proofs.Ytnkkmppmfjekeaa.NdG Go.Proofs.Ytnkkmppmfjekeaa.NdI Go.Proofs.Ytnkkmppmfjekeaa.NdL Go.Proofs.Ytnkkmppmfjekeaa.ItA Go.Proofs.Ytnkkmppmfjekeaa.ItB Go.Proofs.Ytnkkmppmfjekeaa.ItD Go.Proofs.Ytnkkmppmfjekeaa.ItF Go.Proofs.Ytnkkmppmfjekeaa.ItH Go.Proofs.Ytnkkmppmfjekeaa.ItI Go.Proofs.Ytnkkmppmfjekeaa.ItK Go.Proofs.Ytnkkmppmfjekeaa.ItL Go.Proofs.Ytnkkmppmfjekeaa.ItM Go.Proofs.Ytnkkmppmfjekeaa.ItN Go.Proofs.Ytnkkmppmfjekeaa.ItP Go.Proofs.Ytnkkmppmfjekeaa.ItQ Go.Proofs.Ytnkkmppmfjekeaa.ItR Go.Proofs.Ytnkkmppmfjekeaa.ItU
set_option linter.unusedVariables false
set_option linter.unusedSimpArgs false
set_option maxRecDepth 100000 in
theorem many_ (v : Nat) (hv : v < 18446744073709551616) (w : World) : Calls Try.prog 8 #[.int .u64 v] w fun e w' => e = .returned (.int .i64 ((v % 7 : Nat) : Int)) ∧ w = w' := by
  have e7 : (((v % 7 : Nat) : Int)) = (v : Int) % 7 := by omega
  rw [e7]
  have hm : 0 ≤ (v : Int) % 7 ∧ (v : Int) % 7 < 7 := by omega
  go_enter Try.func8, Try.ntmps8
  go_wp2
  go_ret
  exact ⟨rfl, rfl⟩
/-- Two diagrams are one number just if their rows are the same. -/
theorem pair_eq {K : Nat} {p : PSt} (H : PInv K p) {i j : Nat} (hi : i < p.l.length) (hj : j < p.l.length) : (p.l[j] == p.l[i]) = sameR (2 ^ K) (p.R.getD j (fun _ => false)) (p.R.getD i (fun _ => false)) := by
  rw [Bool.eq_iff_iff, sameR_iff, beq_iff_eq]
  constructor
  · intro e q hq
    rw [H.ev j hj q hq, H.ev i hi q hq, e]
  · intro h
    have ij := H.is _ (List.getElem_mem hj)
    have ii := H.is _ (List.getElem_mem hi)
    obtain ⟨j0, j1⟩ := isB_iff.1 ij
    obtain ⟨i0, i1⟩ := isB_iff.1 ii
    have dj := dep_ev (s := T K p.M) H.wf ij (v := 0) (by have := var_nn (s := T K p.M) H.wf ij; omega)
    have di := dep_ev (s := T K p.M) H.wf ii (v := 0) (by have := var_nn (s := T K p.M) H.wf ii; omega)
    have key : ∀ g : Nat → Bool, NdI.ev p.M g p.l[j] = NdI.ev p.M g p.l[i] := fun g => by
      have hlt := bitsOf_lt g K
      have hb := bitsOf_bit g K
      have e1 : NdI.ev p.M g p.l[j] = NdI.ev p.M (fun v => (bitsOf g K).testBit v) p.l[j] := dj _ _ (fun v _ hv => (hb v hv).symm)
      have e2 : NdI.ev p.M g p.l[i] = NdI.ev p.M (fun v => (bitsOf g K).testBit v) p.l[i] := di _ _ (fun v _ hv => (hb v hv).symm)
      rw [e1, e2, ← H.ev j hj _ hlt, ← H.ev i hi _ hlt]
      exact h _ hlt
    have j1' : p.l[j] < 2 + (p.M.length : Int) := j1
    have i1' : p.l[i] < 2 + (p.M.length : Int) := i1
    have ej : ((p.l[j].toNat : Nat) : Int) = p.l[j] := by omega
    have ei : ((p.l[i].toNat : Nat) : Int) = p.l[i] := by omega
    have := once (s := T K p.M) H.wf (a := p.l[j].toNat) (b := p.l[i].toNat) (by show _ < p.M.length + 2; omega) (by show _ < p.M.length + 2; omega) (fun g => by rw [ej, ei]; exact key g)
    omega
/-- What is known once all is played, and there was budget enough. -/
structure Told (K b D : Nat) (x0 : Bx) (w0 : World) (ops : List Op4) (m bl cl br cr : Nat) (lv : List Int) (gs : List Nat) (x : Bx) (wr : World) : Prop where
  pl : PlayAt K b D x0 w0 ops m (.slice (some ⟨bl, 0, none⟩) (m + 2) cl) (.slice (some ⟨br, 0, none⟩) (m + 2) cr) wr lv gs x ⟨K, b, false, (upK K ops m).M⟩
  lu : lv = (upK K ops m).l
theorem Told.below {K b D : Nat} {x0 : Bx} {w0 : World} {ops : List Op4} {m bl cl br cr : Nat} {lv : List Int} {gs : List Nat} {x : Bx} {wr w' : World} (H : Told K b D x0 w0 ops m bl cl br cr lv gs x wr) (hb : Below wr.heap.size wr w') : Told K b D x0 w0 ops m bl cl br cr lv gs x w' := ⟨pl_below H.pl hb, H.lu⟩
theorem told_of {K b D : Nat} {x0 x : Bx} {w0 wr : World} {ops : List Op4} {m : Nat} {vl vr : Value} {lv : List Int} {gs : List Nat} {s : St} (hm : m ≤ ops.length) (hK : K ≤ 6) (h30 : m ≤ 30) (hb : 5760 ≤ b) (H : PlayAt K b D x0 w0 ops m vl vr wr lv gs x s) : ∃ bl cl br cr, vl = .slice (some ⟨bl, 0, none⟩) (m + 2) cl ∧ vr = .slice (some ⟨br, 0, none⟩) (m + 2) cr ∧ Told K b D x0 w0 ops m bl cl br cr lv gs x wr := by
  obtain ⟨bl, cl, br, cr, rfl, rfl, -⟩ := play_rows H
  have hU := upK_inv hK (ops := ops) m hm h30
  obtain ⟨_, hs⟩ := res_un H.res rfl (by show (upK K ops m).M.length ≤ b; omega)
  have hl := H.same (by rw [hs])
  subst hs
  exact ⟨bl, cl, br, cr, rfl, rfl, H, hl⟩
/-- One of them. -/
theorem Told.at {K b D : Nat} {x0 : Bx} {w0 : World} {ops : List Op4} {m bl cl br cr : Nat} {lv : List Int} {gs : List Nat} {x : Bx} {wr : World} (hm : m ≤ ops.length) (hK : K ≤ 6) (h30 : m ≤ 30) (H : Told K b D x0 w0 ops m bl cl br cr lv gs x wr) (i : Nat) (hi : i < m + 2) : ∃ (f : Int) (g : Nat) (G : Nat → Bool), f = (upK K ops m).l.getD i 0 ∧ G = (upK K ops m).R.getD i (fun _ => false) ∧ wr.cell? ⟨bl, i, none⟩ = some (.int .i64 f) ∧ wr.cell? ⟨br, i, none⟩ = some (.slice (some ⟨g, 0, none⟩) (2 ^ K) (2 ^ K)) ∧ RB wr g (2 ^ K) G ∧ isB ⟨K, b, false, (upK K ops m).M⟩ f = true ∧ bl < wr.heap.size ∧ br < wr.heap.size ∧ ∀ q, q < 2 ^ K → NdI.ev (upK K ops m).M (fun v => q.testBit v) f = G q := by
  obtain ⟨bl', cl', br', cr', e1, e2, l1, l2, -, -, h1, h2⟩ := play_rows H.pl
  injection e1 with e1 _ e1c
  injection e1 with e1
  injection e1 with e1 _ _
  injection e2 with e2 _ e2c
  injection e2 with e2
  injection e2 with e2 _ _
  subst e1 e2
  have hU := upK_inv hK (ops := ops) m hm h30
  have hlU := (upK_len (K := K) (ops := ops) m hm).1
  have hil : i < (upK K ops m).l.length := by rw [hlU]; exact hi
  have ef : (lv[i]'(by rw [H.pl.len]; exact hi)) = (upK K ops m).l.getD i 0 := by
    rw [List.getD_eq_getElem?_getD, ← H.lu, List.getElem?_eq_getElem (by rw [H.pl.len]; exact hi)]
    rfl
  have eg : (upK K ops m).l.getD i 0 = (upK K ops m).l[i] := by
    rw [List.getD_eq_getElem?_getD, List.getElem?_eq_getElem hil]
    rfl
  refine ⟨_, gs[i]'(by rw [H.pl.gl]; exact hi), _, ef, rfl, h1 i hi, h2 i hi, (H.pl.rows i (by rw [H.pl.gl]; exact hi)).1, H.pl.is _ (List.getElem_mem _), l1, l2, fun q hq => ?_⟩
  rw [ef, eg]
  exact (hU.1.ev i hil q hq).symm
theorem told_pair {K : Nat} {ops : List Op4} {m : Nat} (hm : m ≤ ops.length) (hK : K ≤ 6) (h30 : m ≤ 30) {i j : Nat} (hi : i < m + 2) (hj : j < m + 2) : ((upK K ops m).l.getD j 0 == (upK K ops m).l.getD i 0) = sameR (2 ^ K) ((upK K ops m).R.getD j (fun _ => false)) ((upK K ops m).R.getD i (fun _ => false)) := by
  have hU := upK_inv hK (ops := ops) m hm h30
  have hlU := (upK_len (K := K) (ops := ops) m hm).1
  have hil : i < (upK K ops m).l.length := by rw [hlU]; exact hi
  have hjl : j < (upK K ops m).l.length := by rw [hlU]; exact hj
  have ei : (upK K ops m).l.getD i 0 = (upK K ops m).l[i] := by
    rw [List.getD_eq_getElem?_getD, List.getElem?_eq_getElem hil]
    rfl
  have ej : (upK K ops m).l.getD j 0 = (upK K ops m).l[j] := by
    rw [List.getD_eq_getElem?_getD, List.getElem?_eq_getElem hjl]
    rfl
  rw [ei, ej]
  exact pair_eq hU.1 hil hjl
end Go.Proofs.Ytnkkmppmfjekeaa.ItV
