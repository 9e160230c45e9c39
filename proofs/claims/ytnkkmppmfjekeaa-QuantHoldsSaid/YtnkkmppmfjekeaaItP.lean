/- As many diagrams as one likes, made of one another: the maths of Play. -/
import Derived.Test.YtnkkmppmfjekeaaItN
namespace Go.Proofs.Ytnkkmppmfjekeaa.ItP
open Go.Proofs.Ytnkkmppmfjekeaa.NdA Go.Proofs.Ytnkkmppmfjekeaa.NdC Go.Proofs.Ytnkkmppmfjekeaa.NdI Go.Proofs.Ytnkkmppmfjekeaa.ItA Go.Proofs.Ytnkkmppmfjekeaa.ItH Go.Proofs.Ytnkkmppmfjekeaa.ItI Go.Proofs.Ytnkkmppmfjekeaa.ItK Go.Proofs.Ytnkkmppmfjekeaa.ItL Go.Proofs.Ytnkkmppmfjekeaa.ItM Go.Proofs.Ytnkkmppmfjekeaa.ItN
set_option linter.unusedVariables false
structure Op4 where
  kind : Nat
  a : Nat
  b : Nat
  c : Nat
structure Op4.InR (o : Op4) : Prop where
  k : o.kind < 18446744073709551616
  a : o.a < 18446744073709551616
  b : o.b < 18446744073709551616
  c : o.c < 18446744073709551616
def pick (l : List Int) (i : Nat) : Int := l.getD (i % l.length) 0
def pickR (R : List (Nat → Bool)) (i : Nat) : Nat → Bool := R.getD (i % R.length) (fun _ => false)
/-- One diagram more, without a budget. -/
def opU (K : Nat) (l : List Int) (M : List Nd) (o : Op4) : Int × List Nd :=
  if o.kind % 8 = 0 then top K M (litF K (o.a % 8))
  else if o.kind % 8 = 1 then top K M (iteF M (pick l o.a) (pick l o.b) (pick l o.c))
  else if o.kind % 8 = 2 then top K M (iteF M (pick l o.a) 0 1)
  else if o.kind % 8 = 3 then (srtI K M [pick l o.a, pick l o.b, pick l o.c]).foldl (stA K) (1, M)
  else if o.kind % 8 = 4 then (srtI K M [pick l o.a, pick l o.b, pick l o.c]).foldl (stO K) (0, M)
  else if o.kind % 8 = 5 then top K M (xorF M (pick l o.a) (pick l o.b))
  else if o.kind % 8 = 6 then top K M (iteF M (pick l o.a) 0 (pick l o.b))
  else (1, M)
/-- The document's row of it. -/
def opR (K : Nat) (R : List (Nat → Bool)) (o : Op4) : Nat → Bool :=
  if o.kind % 8 = 0 then litB K (o.a % 8)
  else if o.kind % 8 = 1 then fun q => if pickR R o.a q then pickR R o.b q else pickR R o.c q
  else if o.kind % 8 = 2 then fun q => if pickR R o.a q then false else true
  else if o.kind % 8 = 3 then fun q => if pickR R o.a q then (if pickR R o.b q then pickR R o.c q else false) else false
  else if o.kind % 8 = 4 then fun q => if pickR R o.a q then true else (if pickR R o.b q then true else pickR R o.c q)
  else if o.kind % 8 = 5 then fun q => if pickR R o.a q then (if pickR R o.b q then false else true) else pickR R o.b q
  else if o.kind % 8 = 6 then fun q => if pickR R o.a q then false else pickR R o.b q
  else fun _ => true
def opC (o : Op4) : Nat := if o.kind % 8 = 3 then 3 else if o.kind % 8 = 4 then 3 else if o.kind % 8 = 7 then 0 else 1
theorem opC_le (o : Op4) : opC o ≤ 3 := by
  unfold opC
  split
  · omega
  · split
    · omega
    · split <;> omega
structure PSt where
  l : List Int
  M : List Nd
  R : List (Nat → Bool)
  c : Nat
def stepU (K : Nat) (p : PSt) (o : Op4) : PSt := ⟨p.l ++ [(opU K p.l p.M o).1], (opU K p.l p.M o).2, p.R ++ [opR K p.R o], p.c + opC o⟩
def start0 : PSt := ⟨[0, 1], [], [fun _ => false, fun _ => true], 0⟩
def playU (K : Nat) (ops : List Op4) : PSt := (ops.take 30).foldl (stepU K) start0
structure PInv (K : Nat) (p : PSt) : Prop where
  wf : WF (T K p.M)
  two : 2 ≤ p.l.length
  len : p.R.length = p.l.length
  is : ∀ f ∈ p.l, isB (T K p.M) f = true
  ev : ∀ i, (h : i < p.l.length) → ∀ q, q < 2 ^ K → (p.R.getD i (fun _ => false)) q = ev p.M (fun v => q.testBit v) p.l[i]
  few : p.M.length ≤ p.c * 2 ^ K
theorem inv0 {K : Nat} (hK : K ≤ 61) : PInv K start0 := by
  refine ⟨⟨List.nodup_nil, fun i h => absurd h (Nat.not_lt_zero i), hK⟩, by decide, rfl, fun f hf => ?_, fun i hi q hq => ?_, Nat.zero_le _⟩
  · simp only [start0, List.mem_cons, List.not_mem_nil, or_false] at hf
    rcases hf with rfl | rfl
    · exact zero_is _
    · exact one_is _
  · match i, hi with
    | 0, _ => exact (ev_zero _ _).symm
    | 1, _ => exact (ev_one _ _).symm
theorem pick_is {K : Nat} {p : PSt} (H : PInv K p) (i : Nat) : isB (T K p.M) (pick p.l i) = true := by
  have h := H.two
  have hlt : i % p.l.length < p.l.length := Nat.mod_lt _ (by omega)
  unfold pick
  rw [List.getD_eq_getElem?_getD, List.getElem?_eq_getElem hlt]
  exact H.is _ (List.getElem_mem hlt)
theorem pick_ev {K : Nat} {p : PSt} (H : PInv K p) (i : Nat) {q : Nat} (hq : q < 2 ^ K) : NdI.ev p.M (fun v => q.testBit v) (pick p.l i) = pickR p.R i q := by
  have h := H.two
  have hlt : i % p.l.length < p.l.length := Nat.mod_lt _ (by omega)
  have := H.ev _ hlt q hq
  unfold pick pickR
  rw [H.len, this, List.getD_eq_getElem?_getD, List.getElem?_eq_getElem hlt]
  rfl
/-- What a step leaves, if its diagram is right. -/
theorem PInv.next {K : Nat} {p : PSt} (H : PInv K p) {o : Op4} (hp : ∃ X, (opU K p.l p.M o).2 = p.M ++ X) (hw : WF (T K (opU K p.l p.M o).2)) (hi : isB (T K (opU K p.l p.M o).2) (opU K p.l p.M o).1 = true) (he : ∀ q, q < 2 ^ K → NdI.ev (opU K p.l p.M o).2 (fun v => q.testBit v) (opU K p.l p.M o).1 = opR K p.R o q) (hl : (opU K p.l p.M o).2.length ≤ p.M.length + opC o * 2 ^ K) : PInv K (stepU K p o) := by
  obtain ⟨X, hX⟩ := hp
  refine ⟨hw, ?_, ?_, fun f hf => ?_, fun i h q hq => ?_, ?_⟩
  · show 2 ≤ (p.l ++ [_]).length
    have := H.two
    rw [List.length_append]
    omega
  · show (p.R ++ [_]).length = (p.l ++ [_]).length
    rw [List.length_append, List.length_append, H.len]
    rfl
  · rcases List.mem_append.1 hf with hf | hf
    · show isB (T K (opU K p.l p.M o).2) f = true
      rw [hX]
      exact is_app (H.is f hf)
    · rw [List.mem_singleton] at hf
      rw [hf]
      exact hi
  · have h' : i < (p.l ++ [(opU K p.l p.M o).1]).length := h
    show ((p.R ++ [opR K p.R o]).getD i (fun _ => false)) q = NdI.ev (opU K p.l p.M o).2 (fun v => q.testBit v) ((p.l ++ [(opU K p.l p.M o).1])[i]'h')
    by_cases hlt : i < p.l.length
    · rw [List.getElem_append_left hlt, List.getD_eq_getElem?_getD, List.getElem?_append_left (by rw [H.len]; exact hlt), ← List.getD_eq_getElem?_getD, H.ev i hlt q hq, hX]
      exact (ev_app (K := K) (H.is _ (List.getElem_mem hlt)) _).symm
    · rw [List.length_append, List.length_singleton] at h'
      have e : i = p.l.length := by omega
      subst e
      rw [List.getElem_append_right (Nat.le_refl _), List.getD_eq_getElem?_getD, List.getElem?_append_right (by rw [H.len]; exact Nat.le_refl _)]
      have : p.l.length - p.R.length = 0 := by rw [H.len]; omega
      rw [this]
      simp only [Nat.sub_self, List.getElem_singleton, List.getElem?_cons_zero, Option.getD_some]
      exact (he q hq).symm
  · show (opU K p.l p.M o).2.length ≤ (p.c + opC o) * 2 ^ K
    have := H.few
    rw [Nat.add_mul]
    omega
theorem top_all {K : Nat} {M : List Nd} (hw : WF (T K M)) {F : ItA.Fn} (hd : Dep K 0 F) : (∃ X, (top K M F).2 = M ++ X) ∧ WF (T K (top K M F).2) ∧ isB (T K (top K M F).2) (top K M F).1 = true ∧ (∀ b, NdI.ev (top K M F).2 b (top K M F).1 = F b) ∧ (top K M F).2.length ≤ M.length + 2 ^ K := by
  have h := top_good (v := 0) (n := K) hw (by omega) hd
  exact ⟨h.pre, h.wf, h.is, h.ev, by have := h.len; omega⟩
theorem foldA_ev {K : Nat} {L : List Nd} : ∀ (l : List Int) (p : Int × List Nd), Gp K L p → (∀ f ∈ l, isB (T K L) f = true) → Gp K L (l.foldl (stA K) p) ∧ (∃ X, (l.foldl (stA K) p).2 = p.2 ++ X) ∧ (l.foldl (stA K) p).2.length ≤ p.2.length + l.length * 2 ^ K ∧ ∀ b, NdI.ev (l.foldl (stA K) p).2 b (l.foldl (stA K) p).1 = ((l.all fun f => NdI.ev L b f) && NdI.ev p.2 b p.1)
  | [], p, H, _ => ⟨H, ⟨[], by simp⟩, by simp, fun b => by simp⟩
  | f :: l, p, H, hl => by
    obtain ⟨h1, ⟨X, hX⟩, h3, h4⟩ := stA_gp H (hl f (by simp))
    obtain ⟨k1, ⟨Y, hY⟩, k3, k4⟩ := foldA_ev l (stA K p f) h1 (fun y hy => hl y (by simp [hy]))
    refine ⟨k1, ⟨X ++ Y, ?_⟩, ?_, fun b => ?_⟩
    · show (l.foldl (stA K) (stA K p f)).2 = _
      rw [hY, hX, List.append_assoc]
    · show (l.foldl (stA K) (stA K p f)).2.length ≤ _
      rw [List.length_cons, Nat.add_mul]
      omega
    · show NdI.ev (l.foldl (stA K) (stA K p f)).2 b (l.foldl (stA K) (stA K p f)).1 = _
      rw [k4 b, h4 b, List.all_cons]
      cases NdI.ev L b f <;> cases (l.all fun f => NdI.ev L b f) <;> simp
theorem foldO_ev {K : Nat} {L : List Nd} : ∀ (l : List Int) (p : Int × List Nd), Gp K L p → (∀ f ∈ l, isB (T K L) f = true) → Gp K L (l.foldl (stO K) p) ∧ (∃ X, (l.foldl (stO K) p).2 = p.2 ++ X) ∧ (l.foldl (stO K) p).2.length ≤ p.2.length + l.length * 2 ^ K ∧ ∀ b, NdI.ev (l.foldl (stO K) p).2 b (l.foldl (stO K) p).1 = ((l.any fun f => NdI.ev L b f) || NdI.ev p.2 b p.1)
  | [], p, H, _ => ⟨H, ⟨[], by simp⟩, by simp, fun b => by simp⟩
  | f :: l, p, H, hl => by
    obtain ⟨h1, ⟨X, hX⟩, h3, h4⟩ := stO_gp H (hl f (by simp))
    obtain ⟨k1, ⟨Y, hY⟩, k3, k4⟩ := foldO_ev l (stO K p f) h1 (fun y hy => hl y (by simp [hy]))
    refine ⟨k1, ⟨X ++ Y, ?_⟩, ?_, fun b => ?_⟩
    · show (l.foldl (stO K) (stO K p f)).2 = _
      rw [hY, hX, List.append_assoc]
    · show (l.foldl (stO K) (stO K p f)).2.length ≤ _
      rw [List.length_cons, Nat.add_mul]
      omega
    · show NdI.ev (l.foldl (stO K) (stO K p f)).2 b (l.foldl (stO K) (stO K p f)).1 = _
      rw [k4 b, h4 b, List.any_cons]
      cases NdI.ev L b f <;> cases (l.any fun f => NdI.ev L b f) <;> simp
theorem perm_all {l l' : List Int} (h : l.Perm l') (p : Int → Bool) : l.all p = l'.all p := by
  rw [Bool.eq_iff_iff, List.all_eq_true, List.all_eq_true]
  exact ⟨fun k x hx => k x (h.mem_iff.2 hx), fun k x hx => k x (h.mem_iff.1 hx)⟩
theorem perm_any {l l' : List Int} (h : l.Perm l') (p : Int → Bool) : l.any p = l'.any p := by
  rw [Bool.eq_iff_iff, List.any_eq_true, List.any_eq_true]
  exact ⟨fun ⟨x, hx, k⟩ => ⟨x, h.mem_iff.1 hx, k⟩, fun ⟨x, hx, k⟩ => ⟨x, h.mem_iff.2 hx, k⟩⟩
theorem is_rng {K : Nat} {M : List Nd} {f : Int} (hM : M.length ≤ 100000) (h : isB (T K M) f = true) : -9223372036854775808 ≤ f ∧ f ≤ 9223372036854775807 := by
  obtain ⟨h1, h2⟩ := isB_iff.1 h
  have h2' : f < 2 + (M.length : Int) := h2
  omega
theorem dep0 {K : Nat} {M : List Nd} (hw : WF (T K M)) {f g h : Int} (hf : isB (T K M) f = true) (hg : isB (T K M) g = true) (hh : isB (T K M) h = true) : Dep K 0 (iteF M f g h) :=
  dep_ite (s := T K M) hw hf hg hh (v := 0) (by have := var_nn (s := T K M) hw hf; omega) (by have := var_nn (s := T K M) hw hg; omega) (by have := var_nn (s := T K M) hw hh; omega)
theorem dep0x {K : Nat} {M : List Nd} (hw : WF (T K M)) {f g : Int} (hf : isB (T K M) f = true) (hg : isB (T K M) g = true) : Dep K 0 (xorF M f g) :=
  dep_xor (s := T K M) hw hf hg (v := 0) (by have := var_nn (s := T K M) hw hf; omega) (by have := var_nn (s := T K M) hw hg; omega)
theorem dep0l (K v : Nat) : Dep K 0 (litF K v) := fun b c hbc => by
  unfold litF
  by_cases h : v < K
  · rw [hbc v (Nat.zero_le _) h]
  · simp [h]
/-- A step's diagram is right. -/
theorem step_inv {K : Nat} (hK : 2 ^ K ≤ 64) {p : PSt} (H : PInv K p) (hM : p.M.length ≤ 100000) (o : Op4) : PInv K (stepU K p o) := by
  have ia := pick_is H o.a
  have ib := pick_is H o.b
  have ic := pick_is H o.c
  have z := zero_is (T K p.M)
  have n1 := one_is (T K p.M)
  have hlt : o.kind % 8 < 8 := Nat.mod_lt _ (by omega)
  have ea := fun q (hq : q < 2 ^ K) => pick_ev H o.a hq
  have eb := fun q (hq : q < 2 ^ K) => pick_ev H o.b hq
  have ec := fun q (hq : q < 2 ^ K) => pick_ev H o.c hq
  have hc1 : o.kind % 8 ≠ 3 → o.kind % 8 ≠ 4 → o.kind % 8 ≠ 7 → opC o * 2 ^ K = 2 ^ K := fun h1 h2 h3 => by unfold opC; rw [if_neg h1, if_neg h2, if_neg h3, Nat.one_mul]
  rcases (show o.kind % 8 = 0 ∨ o.kind % 8 = 1 ∨ o.kind % 8 = 2 ∨ o.kind % 8 = 3 ∨ o.kind % 8 = 4 ∨ o.kind % 8 = 5 ∨ o.kind % 8 = 6 ∨ o.kind % 8 = 7 by omega) with k | k | k | k | k | k | k | k
  · obtain ⟨t1, t2, t3, t4, t5⟩ := top_all H.wf (dep0l K (o.a % 8))
    have e : opU K p.l p.M o = top K p.M (litF K (o.a % 8)) := by unfold opU; simp only [k, if_true]
    refine H.next (by rw [e]; exact t1) (by rw [e]; exact t2) (by rw [e]; exact t3) (fun q hq => ?_) (by rw [e, hc1 (by omega) (by omega) (by omega)]; exact t5)
    rw [e, t4]
    unfold opR litF litB
    simp only [k, if_true]
  · obtain ⟨t1, t2, t3, t4, t5⟩ := top_all H.wf (dep0 H.wf ia ib ic)
    have e : opU K p.l p.M o = top K p.M (iteF p.M (pick p.l o.a) (pick p.l o.b) (pick p.l o.c)) := by unfold opU; simp [k]
    refine H.next (by rw [e]; exact t1) (by rw [e]; exact t2) (by rw [e]; exact t3) (fun q hq => ?_) (by rw [e, hc1 (by omega) (by omega) (by omega)]; exact t5)
    rw [e, t4]
    unfold opR iteF
    rw [ea q hq, eb q hq, ec q hq]
    simp [k]
  · obtain ⟨t1, t2, t3, t4, t5⟩ := top_all H.wf (dep0 H.wf ia z n1)
    have e : opU K p.l p.M o = top K p.M (iteF p.M (pick p.l o.a) 0 1) := by unfold opU; simp [k]
    refine H.next (by rw [e]; exact t1) (by rw [e]; exact t2) (by rw [e]; exact t3) (fun q hq => ?_) (by rw [e, hc1 (by omega) (by omega) (by omega)]; exact t5)
    rw [e, t4]
    unfold opR iteF
    rw [ea q hq, ev_zero, ev_one]
    simp [k]
  · have hall : ∀ f ∈ [pick p.l o.a, pick p.l o.b, pick p.l o.c], isB (T K p.M) f = true := fun f hf => by
      simp only [List.mem_cons, List.not_mem_nil, or_false] at hf
      rcases hf with rfl | rfl | rfl
      · exact ia
      · exact ib
      · exact ic
    have hpm := srtI_perm (K := K) (L := p.M) (fun f hf => is_rng hM (hall f hf))
    obtain ⟨t1, t2, t3, t4⟩ := foldA_ev (srtI K p.M [pick p.l o.a, pick p.l o.b, pick p.l o.c]) (1, p.M) ⟨⟨[], by simp⟩, H.wf, n1⟩ (fun f hf => hall f (hpm.subset hf))
    have e : opU K p.l p.M o = (srtI K p.M [pick p.l o.a, pick p.l o.b, pick p.l o.c]).foldl (stA K) (1, p.M) := by unfold opU; simp [k]
    refine H.next (by rw [e]; exact t2) (by rw [e]; exact t1.wf) (by rw [e]; exact t1.is) (fun q hq => ?_) (by
      rw [e]
      rw [srtI_len] at t3
      unfold opC
      rw [if_pos k]
      exact t3)
    have er : opR K p.R o q = if pickR p.R o.a q then (if pickR p.R o.b q then pickR p.R o.c q else false) else false := by
      unfold opR
      rw [if_neg (by omega), if_neg (by omega), if_neg (by omega), if_pos k]
    rw [e, t4, perm_all hpm, er]
    simp only [List.all_cons, List.all_nil]
    rw [ea q hq, eb q hq, ec q hq, ev_one]
    generalize pickR p.R o.a q = x
    generalize pickR p.R o.b q = y
    generalize pickR p.R o.c q = z
    cases x <;> cases y <;> cases z <;> rfl
  · have hall : ∀ f ∈ [pick p.l o.a, pick p.l o.b, pick p.l o.c], isB (T K p.M) f = true := fun f hf => by
      simp only [List.mem_cons, List.not_mem_nil, or_false] at hf
      rcases hf with rfl | rfl | rfl
      · exact ia
      · exact ib
      · exact ic
    have hpm := srtI_perm (K := K) (L := p.M) (fun f hf => is_rng hM (hall f hf))
    obtain ⟨t1, t2, t3, t4⟩ := foldO_ev (srtI K p.M [pick p.l o.a, pick p.l o.b, pick p.l o.c]) (0, p.M) ⟨⟨[], by simp⟩, H.wf, z⟩ (fun f hf => hall f (hpm.subset hf))
    have e : opU K p.l p.M o = (srtI K p.M [pick p.l o.a, pick p.l o.b, pick p.l o.c]).foldl (stO K) (0, p.M) := by unfold opU; simp [k]
    refine H.next (by rw [e]; exact t2) (by rw [e]; exact t1.wf) (by rw [e]; exact t1.is) (fun q hq => ?_) (by
      rw [e]
      rw [srtI_len] at t3
      unfold opC
      rw [if_neg (by omega), if_pos k]
      exact t3)
    have er : opR K p.R o q = if pickR p.R o.a q then true else (if pickR p.R o.b q then true else pickR p.R o.c q) := by
      unfold opR
      rw [if_neg (by omega), if_neg (by omega), if_neg (by omega), if_neg (by omega), if_pos k]
    rw [e, t4, perm_any hpm, er]
    simp only [List.any_cons, List.any_nil]
    rw [ea q hq, eb q hq, ec q hq, ev_zero]
    generalize pickR p.R o.a q = x
    generalize pickR p.R o.b q = y
    generalize pickR p.R o.c q = z
    cases x <;> cases y <;> cases z <;> rfl
  · obtain ⟨t1, t2, t3, t4, t5⟩ := top_all H.wf (dep0x H.wf ia ib)
    have e : opU K p.l p.M o = top K p.M (xorF p.M (pick p.l o.a) (pick p.l o.b)) := by unfold opU; simp [k]
    refine H.next (by rw [e]; exact t1) (by rw [e]; exact t2) (by rw [e]; exact t3) (fun q hq => ?_) (by rw [e, hc1 (by omega) (by omega) (by omega)]; exact t5)
    have er : opR K p.R o q = if pickR p.R o.a q then (if pickR p.R o.b q then false else true) else pickR p.R o.b q := by
      unfold opR
      rw [if_neg (by omega), if_neg (by omega), if_neg (by omega), if_neg (by omega), if_neg (by omega), if_pos k]
    rw [e, t4, er]
    unfold xorF
    rw [ea q hq, eb q hq]
    generalize pickR p.R o.a q = x
    generalize pickR p.R o.b q = y
    cases x <;> cases y <;> rfl
  · obtain ⟨t1, t2, t3, t4, t5⟩ := top_all H.wf (dep0 H.wf ia z ib)
    have e : opU K p.l p.M o = top K p.M (iteF p.M (pick p.l o.a) 0 (pick p.l o.b)) := by unfold opU; simp [k]
    refine H.next (by rw [e]; exact t1) (by rw [e]; exact t2) (by rw [e]; exact t3) (fun q hq => ?_) (by rw [e, hc1 (by omega) (by omega) (by omega)]; exact t5)
    rw [e, t4]
    unfold opR iteF
    rw [ea q hq, eb q hq, ev_zero]
    simp [k]
  · have e : opU K p.l p.M o = (1, p.M) := by unfold opU; simp [k]
    refine H.next (by rw [e]; exact ⟨[], by simp⟩) (by rw [e]; exact H.wf) (by rw [e]; exact n1) (fun q hq => ?_) (by rw [e]; exact Nat.le_add_right _ _)
    rw [e]
    unfold opR
    simp only [k]
    rw [ev_one]
    simp
theorem step_pre {K : Nat} (hK : 2 ^ K ≤ 64) {p : PSt} (H : PInv K p) (hM : p.M.length ≤ 100000) (o : Op4) : ∃ X, (opU K p.l p.M o).2 = p.M ++ X := by
  have ia := pick_is H o.a
  have ib := pick_is H o.b
  have ic := pick_is H o.c
  have z := zero_is (T K p.M)
  have n1 := one_is (T K p.M)
  have hall : ∀ f ∈ [pick p.l o.a, pick p.l o.b, pick p.l o.c], isB (T K p.M) f = true := fun f hf => by
    simp only [List.mem_cons, List.not_mem_nil, or_false] at hf
    rcases hf with rfl | rfl | rfl
    · exact ia
    · exact ib
    · exact ic
  have hpm := srtI_perm (K := K) (L := p.M) (fun f hf => is_rng hM (hall f hf))
  unfold opU
  split
  · exact (top_all H.wf (dep0l K (o.a % 8))).1
  · split
    · exact (top_all H.wf (dep0 H.wf ia ib ic)).1
    · split
      · exact (top_all H.wf (dep0 H.wf ia z n1)).1
      · split
        · exact (foldA_ev (srtI K p.M [pick p.l o.a, pick p.l o.b, pick p.l o.c]) (1, p.M) ⟨⟨[], by simp⟩, H.wf, n1⟩ (fun f hf => hall f (hpm.subset hf))).2.1
        · split
          · exact (foldO_ev (srtI K p.M [pick p.l o.a, pick p.l o.b, pick p.l o.c]) (0, p.M) ⟨⟨[], by simp⟩, H.wf, z⟩ (fun f hf => hall f (hpm.subset hf))).2.1
          · split
            · exact (top_all H.wf (dep0x H.wf ia ib)).1
            · split
              · exact (top_all H.wf (dep0 H.wf ia z ib)).1
              · exact ⟨[], by simp⟩
/-- Behind k steps. -/
def upK (K : Nat) (ops : List Op4) (k : Nat) : PSt := (ops.take k).foldl (stepU K) start0
theorem upK_succ {K : Nat} {ops : List Op4} {k : Nat} (h : k < ops.length) : upK K ops (k + 1) = stepU K (upK K ops k) ops[k] := by
  unfold upK
  rw [List.take_succ_eq_append_getElem h, List.foldl_append]
  rfl
theorem upK_len {K : Nat} {ops : List Op4} : ∀ k, k ≤ ops.length → (upK K ops k).l.length = k + 2 ∧ (upK K ops k).c ≤ 3 * k
  | 0, _ => ⟨rfl, Nat.le_refl _⟩
  | k + 1, h => by
    obtain ⟨h1, h2⟩ := upK_len (K := K) (ops := ops) k (by omega)
    rw [upK_succ (show k < ops.length by omega)]
    have := opC_le ops[k]
    constructor
    · show ((upK K ops k).l ++ [_]).length = _
      rw [List.length_append, h1]
      rfl
    · show (upK K ops k).c + opC ops[k] ≤ _
      omega
theorem upK_inv {K : Nat} (hK : K ≤ 6) {ops : List Op4} : ∀ k, k ≤ ops.length → k ≤ 30 → PInv K (upK K ops k) ∧ (upK K ops k).M.length ≤ 5760
  | 0, _, _ => ⟨inv0 (by omega), Nat.zero_le _⟩
  | k + 1, h, h30 => by
    obtain ⟨h1, h2⟩ := upK_inv hK (ops := ops) k (by omega) (by omega)
    have hp := pow6 hK
    have h3 := step_inv hp h1 (by omega) ops[k]
    rw [upK_succ (show k < ops.length by omega)]
    refine ⟨h3, ?_⟩
    have h4 := h3.few
    have h5 := (upK_len (K := K) (ops := ops) (k + 1) h).2
    rw [upK_succ (show k < ops.length by omega)] at h5
    have : (stepU K (upK K ops k) ops[k]).c * 2 ^ K ≤ 90 * 64 := Nat.mul_le_mul (by omega) hp
    omega
end Go.Proofs.Ytnkkmppmfjekeaa.ItP
