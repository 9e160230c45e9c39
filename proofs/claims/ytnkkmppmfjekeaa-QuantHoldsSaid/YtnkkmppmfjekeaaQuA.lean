/- Diagrams without some of their variables: the maths. -/
import Derived.Test.YtnkkmppmfjekeaaItM
namespace Go.Proofs.Ytnkkmppmfjekeaa.QuA
open Go.Proofs.Ytnkkmppmfjekeaa.NdA Go.Proofs.Ytnkkmppmfjekeaa.NdC Go.Proofs.Ytnkkmppmfjekeaa.NdI Go.Proofs.Ytnkkmppmfjekeaa.NdL Go.Proofs.Ytnkkmppmfjekeaa.ItA Go.Proofs.Ytnkkmppmfjekeaa.ItB Go.Proofs.Ytnkkmppmfjekeaa.ItH
set_option linter.unusedVariables false
abbrev Jn := Bool → Bool → Bool
/-- F without the variables of S among the n from v on. -/
def elim (S : Nat → Bool) (J : Jn) : Nat → Nat → ItA.Fn → ItA.Fn
  | 0, _, F => F
  | n + 1, v, F => fun b => if S v then J (elim S J n (v + 1) (cof F v false) b) (elim S J n (v + 1) (cof F v true) b) else if b v then elim S J n (v + 1) (cof F v true) b else elim S J n (v + 1) (cof F v false) b
/-- F without those of S, of K variables. -/
def EL (S : Nat → Bool) (J : Jn) (K : Nat) (F : ItA.Fn) : ItA.Fn := elim S J K 0 F
def Same1 (J : Jn) : Prop := ∀ x, J x x = x
theorem elim_none {S : Nat → Bool} {J : Jn} : ∀ (n v : Nat) (F : ItA.Fn), (∀ i, v ≤ i → i < v + n → S i = false) → elim S J n v F = F := fun n => by
  induction n with
  | zero => intro v F _; rfl
  | succ n ih =>
    intro v F h
    funext b
    unfold elim
    rw [h v (by omega) (by omega), ih (v + 1) _ (fun i h1 h2 => h i (by omega) (by omega)), ih (v + 1) _ (fun i h1 h2 => h i (by omega) (by omega))]
    rw [if_neg (by simp)]
    exact (cof_if F v b).symm
theorem elim_skip {K : Nat} {S : Nat → Bool} {J : Jn} (hJ : Same1 J) {n v : Nat} {F : ItA.Fn} (hd : Dep K (v + 1) F) : elim S J (n + 1) v F = elim S J n (v + 1) F := by
  funext b
  show (if S v then J (elim S J n (v + 1) (cof F v false) b) (elim S J n (v + 1) (cof F v true) b) else if b v then elim S J n (v + 1) (cof F v true) b else elim S J n (v + 1) (cof F v false) b) = _
  rw [hd.cof_eq (Nat.lt_succ_self v), hd.cof_eq (Nat.lt_succ_self v), hJ]
  split
  · rfl
  · split <;> rfl
theorem elim_far {K : Nat} {S : Nat → Bool} {J : Jn} (hJ : Same1 J) : ∀ (d n v : Nat) (F : ItA.Fn), Dep K (v + d) F → elim S J (d + n) v F = elim S J n (v + d) F := fun d => by
  induction d with
  | zero => intro n v F _; rw [Nat.zero_add]; rfl
  | succ d ih =>
    intro n v F hd
    rw [show d + 1 + n = (d + n) + 1 by omega, elim_skip hJ (K := K) (hd.mono (by omega)), ih n (v + 1) F (by rw [show v + 1 + d = v + (d + 1) by omega]; exact hd), show v + 1 + d = v + (d + 1) by omega]
theorem el_at {K : Nat} {S : Nat → Bool} {J : Jn} (hJ : Same1 J) {n v : Nat} {F : ItA.Fn} (hd : Dep K v F) (hv : v + n = K) : EL S J K F = elim S J n v F := by
  unfold EL
  have := elim_far (S := S) hJ v n 0 F (by rw [Nat.zero_add]; exact hd)
  rw [hv, Nat.zero_add] at this
  exact this
theorem elim_dep {K : Nat} {S : Nat → Bool} {J : Jn} : ∀ (n v : Nat) (F : ItA.Fn), v + n = K → Dep K v F → Dep K v (elim S J n v F) := fun n => by
  induction n with
  | zero => intro v F _ h; exact h
  | succ n ih =>
    intro v F hv h b c hbc
    have h0 := ih (v + 1) _ (by omega) (h.cof false) b c (fun i h1 h2 => hbc i (by omega) h2)
    have h1 := ih (v + 1) _ (by omega) (h.cof true) b c (fun i h1 h2 => hbc i (by omega) h2)
    unfold elim
    rw [h0, h1, hbc v (Nat.le_refl _) (by omega)]
theorem el_dep {K : Nat} {S : Nat → Bool} {J : Jn} (hJ : Same1 J) {v : Nat} {F : ItA.Fn} (hd : Dep K v F) (hv : v ≤ K) : Dep K v (EL S J K F) := by
  rw [el_at hJ (n := K - v) hd (by omega)]
  exact elim_dep _ _ _ (by omega) hd
section
variable {s : St}
/-- Of what is no node, or has no variable that goes. -/
theorem el_keep {S : Nat → Bool} {J : Jn} (hJ : Same1 J) (H : WF s) {f : Int} (hf : isB s f = true) (h : ∀ i : Nat, varI s f ≤ (i : Int) → i < s.vars → S i = false) : EL S J s.vars (fun b => ev s.L b f) = fun b => ev s.L b f := by
  have hv := varI_le H f
  have h0 := ItI.var_nn H hf
  obtain ⟨v, hv2⟩ : ∃ v : Nat, varI s f = v := ⟨(varI s f).toNat, by omega⟩
  rw [el_at hJ (n := s.vars - v) (dep_ev H hf (v := v) (by omega)) (by omega)]
  exact elim_none _ _ _ (fun i h1 h2 => h i (by omega) (by omega))
/-- Of a node: by what it goes on with. -/
theorem el_node {S : Nat → Bool} {J : Jn} (hJ : Same1 J) (H : WF s) {i : Nat} (hi : i < s.L.length) : EL S J s.vars (fun b => ev s.L b ((i + 2 : Nat) : Int)) = fun b => if S s.L[i].v.toNat then J (EL S J s.vars (fun b => ev s.L b s.L[i].lo) b) (EL S J s.vars (fun b => ev s.L b s.L[i].hi) b) else if b s.L[i].v.toNat then EL S J s.vars (fun b => ev s.L b s.L[i].hi) b else EL S J s.vars (fun b => ev s.L b s.L[i].lo) b := by
  have hok := H.ok i hi
  obtain ⟨p, hp⟩ : ∃ p : Nat, s.L[i].v = p := ⟨s.L[i].v.toNat, by have := hok.1; omega⟩
  have hpK : p < s.vars := by have := hok.2.1; omega
  have hvi := varI_idx (s := s) hi
  have il : isB s s.L[i].lo = true := isB_iff.2 ⟨hok.2.2.1, by have := hok.2.2.2.1; omega⟩
  have ih : isB s s.L[i].hi = true := isB_iff.2 ⟨hok.2.2.2.2.1, by have := hok.2.2.2.2.2.1; omega⟩
  have inode : isB s ((i + 2 : Nat) : Int) = true := isB_iff.2 ⟨by omega, by omega⟩
  have dn := dep_ev H inode (v := p) (by rw [hvi, hp]; exact Int.le_refl _)
  have dl := dep_ev H il (v := p + 1) (by have := hok.2.2.2.2.2.2.2.1; omega)
  have dh := dep_ev H ih (v := p + 1) (by have := hok.2.2.2.2.2.2.2.2; omega)
  have lo := low H hi
  have hh := high H hi
  rw [hp] at lo hh ⊢
  rw [Int.toNat_natCast] at lo hh ⊢
  rw [el_at hJ (n := (s.vars - p - 1) + 1) dn (by omega), el_at hJ (n := s.vars - p - 1) dl (by omega), el_at hJ (n := s.vars - p - 1) dh (by omega)]
  have e0 : cof (fun b => ev s.L b ((i + 2 : Nat) : Int)) p false = fun b => ev s.L b s.L[i].lo := by funext b; exact lo b
  have e1 : cof (fun b => ev s.L b ((i + 2 : Nat) : Int)) p true = fun b => ev s.L b s.L[i].hi := by funext b; exact hh b
  funext b
  show (if S p then J (elim S J (s.vars - p - 1) (p + 1) (cof _ p false) b) (elim S J (s.vars - p - 1) (p + 1) (cof _ p true) b) else if b p then elim S J (s.vars - p - 1) (p + 1) (cof _ p true) b else elim S J (s.vars - p - 1) (p + 1) (cof _ p false) b) = _
  rw [e0, e1]
end
/-- With one variable that goes. -/
theorem elim_one {S : Nat → Bool} {J : Jn} {v : Nat} (hS : ∀ i, S i = decide (i = v)) : ∀ (n u : Nat) (F : ItA.Fn), u ≤ v → v < u + n → ∀ b, elim S J n u F b = J (cof F v false b) (cof F v true b) := fun n => by
  induction n with
  | zero => intro u F h1 h2; omega
  | succ n ih =>
    intro u F h1 h2 b
    unfold elim
    by_cases e : u = v
    · subst e
      rw [hS u, if_pos (by simp), elim_none _ _ _ (fun i h1 h2 => by rw [hS i]; simp; omega), elim_none _ _ _ (fun i h1 h2 => by rw [hS i]; simp; omega)]
    · rw [hS u, if_neg (by simp [e])]
      have key : ∀ y, cof (cof F u (b u)) v y b = cof F v y b := fun y => by
        unfold cof
        congr 1
        funext i
        unfold put
        split
        · rename_i h
          subst h
          rw [if_neg (by omega)]
        · rfl
      cases hb : b u with
      | true =>
        rw [if_pos rfl, ih (u + 1) _ (by omega) (by omega) b]
        have := key
        rw [hb] at this
        rw [this, this]
      | false =>
        rw [if_neg (by simp), ih (u + 1) _ (by omega) (by omega) b]
        have := key
        rw [hb] at this
        rw [this, this]
theorem el_one {S : Nat → Bool} {J : Jn} {v K : Nat} (hv : v < K) (hS : ∀ i, S i = decide (i = v)) (F : ItA.Fn) (b : Nat → Bool) : EL S J K F b = J (cof F v false b) (cof F v true b) := elim_one hS K 0 F (by omega) (by omega) b
theorem el_nil {S : Nat → Bool} {J : Jn} {K : Nat} (hS : ∀ i, i < K → S i = false) (F : ItA.Fn) : EL S J K F = F := elim_none K 0 F (fun i _ h => hS i (by omega))
/-- A state with more nodes. -/
structure Ext (s s' : St) (C : Nat) : Prop where
  sp : s'.spent = false
  vars : s'.vars = s.vars
  bud : s'.budget = s.budget
  pre : ∃ X, s'.L = s.L ++ X
  len : s'.L.length ≤ s.L.length + C
theorem Ext.refl {s : St} (h : s.spent = false) (C : Nat) : Ext s s C := ⟨h, rfl, rfl, ⟨[], by simp⟩, by omega⟩
theorem Ext.trans {s s1 s2 : St} {C D : Nat} (h : Ext s s1 C) (h2 : Ext s1 s2 D) : Ext s s2 (C + D) := by
  obtain ⟨X, hX⟩ := h.pre
  obtain ⟨Y, hY⟩ := h2.pre
  exact ⟨h2.sp, h2.vars.trans h.vars, h2.bud.trans h.bud, ⟨X ++ Y, by rw [hY, hX, List.append_assoc]⟩, by have := h.len; have := h2.len; omega⟩
theorem Ext.more {s s' : St} {C D : Nat} (h : Ext s s' C) (hC : C ≤ D) : Ext s s' D := ⟨h.sp, h.vars, h.bud, h.pre, by have := h.len; omega⟩
theorem Ext.ev {s s' : St} {C : Nat} (h : Ext s s' C) {f : Int} (hf : isB s f = true) (b : Nat → Bool) : ev s'.L b f = ev s.L b f := by
  obtain ⟨X, hX⟩ := h.pre
  rw [hX, ev_app (K := s.vars) hf]
theorem Ext.is {s s' : St} {C : Nat} (h : Ext s s' C) {f : Int} (hf : isB s f = true) : isB s' f = true := is_more hf h.pre
theorem Ext.dg {s s' : St} {C n : Nat} (h : Ext s s' C) {f : Int} (hf : Dg s n f) : Dg s' n f := hf.app h.pre h.vars
/-- What is answered where there is budget enough. -/
structure Ans (s s' : St) (C n : Nat) (F : ItA.Fn) (a : Int) : Prop where
  ext : Ext s s' C
  dg : Dg s' n a
  ev : ∀ b, NdI.ev s'.L b a = F b
theorem ans_of {s s' : St} {n : Nat} {F : ItA.Fn} {a : Int} (H : WF s) (hs : s.spent = false) (hb : s.L.length + 2 ^ n ≤ s.budget) (hn : n ≤ s.vars) (hd : Dep s.vars (s.vars - n) F) (h : Res s (top s.vars s.L F).1 (top s.vars s.L F).2 a s') : Ans s s' (2 ^ n) n F a := by
  have hG := top_good (K := s.vars) (L := s.L) (F := F) (v := s.vars - n) (n := n) (T_wf H) (by omega) hd
  have hl := hG.len
  rcases h with ⟨h1, h2, rfl, rfl⟩ | ⟨h1, h2, h3⟩
  · refine ⟨⟨hs, rfl, rfl, hG.pre, by show (top s.vars s.L F).2.length ≤ _; omega⟩, ⟨hG.is, ?_⟩, hG.ev⟩
    have := hG.var
    show ((s.vars : Nat) : Int) ≤ varI (T s.vars (top s.vars s.L F).2) (top s.vars s.L F).1 + n
    omega
  · rcases h1 with h1 | h1
    · rw [hs] at h1; cases h1
    · omega
end Go.Proofs.Ytnkkmppmfjekeaa.QuA
