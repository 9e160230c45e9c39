/- Steps of proofs, and the looking for them: the maths. -/
import Derived.Test.YtddjbchlpfaggaaPfS
namespace Go.Proofs.Ytddjbchlpfaggaa.PfM
open Go.Proofs.Ytddjbchlpfaggaa.TblB Go.Proofs.Ytddjbchlpfaggaa.TblC Go.Proofs.Ytddjbchlpfaggaa.TblV Go.Proofs.Ytddjbchlpfaggaa.TblP Go.Proofs.Ytddjbchlpfaggaa.TblQ Go.Proofs.Ytddjbchlpfaggaa.SemA
set_option linter.unusedVariables false
set_option linter.unusedSimpArgs false
/-- A step. -/
structure Sp where
  rule : Int
  role : Int
  who : Int
  mid : Int
/-- A fact: a role, and who is in it. -/
abbrev Fa := Int × Int
def Sp.fa (s : Sp) : Fa := (s.role, s.who)
/-- What a step by a rule stands on. -/
def under (K : Int) (u : Ru) (s : Sp) : List Fa :=
  if u.kind = 2 then [(u.a, s.who)] else if u.kind = 3 then [(u.a, s.mid), (s.mid * K + u.via, s.who)] else if u.kind = 4 then [(u.a, s.who), (u.b, s.who)] else []
/-- The rule at a place, if it may be. -/
def ruleAt (P K : Nat) (L : List Ru) (i : Int) : Option Ru := if i < 0 then none else (L[i.toNat]?).filter (rightU P K)
/-- A step such as its rule asks for. -/
def fitB (P : Int) (u : Ru) (s : Sp) : Bool :=
  decide (u.head = s.role) && (decide (0 ≤ s.who ∧ s.who < P) && ((!decide (u.kind = 1) || decide (u.who = s.who)) && (if u.kind = 3 then decide (0 ≤ s.mid ∧ s.mid < P) else decide (s.mid = 0))))
def hasS (A : List Sp) (f : Fa) : Bool := A.any fun s => decide (s.fa = f)
def okS (P K : Nat) (L : List Ru) (A : List Sp) (s : Sp) : Bool :=
  match ruleAt P K L s.rule with
  | none => false
  | some u => fitB P u s && (under K u s).all (hasS A)
/-- Are these steps right, each behind those ahead, and none twice? -/
def chk (P K : Nat) (L : List Ru) : List Sp → List Sp → Bool
  | _, [] => true
  | A, s :: r => (okS P K L A s && !hasS A s.fa) && chk P K L (A ++ [s]) r
theorem hasS_iff {A : List Sp} {f : Fa} : hasS A f = true ↔ ∃ s ∈ A, s.fa = f := by unfold hasS; simp
theorem hasS_app {A B : List Sp} {f : Fa} : hasS (A ++ B) f = (hasS A f || hasS B f) := by unfold hasS; simp
theorem hasS_mono {A B : List Sp} {f : Fa} (h : hasS A f = true) : hasS (A ++ B) f = true := by rw [hasS_app, h]; rfl
theorem hasS_one {s : Sp} {f : Fa} : hasS [s] f = decide (s.fa = f) := by unfold hasS; simp
theorem ruleAt_some {P K : Nat} {L : List Ru} {i : Int} {u : Ru} (h : ruleAt P K L i = some u) : 0 ≤ i ∧ i.toNat < L.length ∧ L[i.toNat]? = some u ∧ rightU P K u = true := by
  unfold ruleAt at h
  split at h
  · cases h
  · rw [Option.filter_eq_some_iff] at h
    exact ⟨by omega, (List.getElem?_eq_some_iff.1 h.1).1, h.1, h.2⟩
theorem ruleAt_nat {P K : Nat} {L : List Ru} {i : Nat} {u : Ru} (h : L[i]? = some u) : ruleAt P K L (i : Int) = if rightU P K u then some u else none := by
  unfold ruleAt
  rw [if_neg (by omega), Int.toNat_natCast, h]
  simp [Option.filter]
theorem chk_snoc (P K : Nat) (L : List Ru) (s : Sp) : ∀ (l A : List Sp), chk P K L A (l ++ [s]) = (chk P K L A l && (okS P K L (A ++ l) s && !hasS (A ++ l) s.fa))
  | [], A => by simp [chk]
  | x :: l, A => by
    have := chk_snoc P K L s l (A ++ [x])
    simp only [List.cons_append, chk, this, List.append_assoc, List.nil_append, Bool.and_assoc, List.singleton_append]
theorem okS_mono {P K : Nat} {L : List Ru} {A B : List Sp} {s : Sp} (hs : ∀ f, hasS A f = true → hasS B f = true) (h : okS P K L A s = true) : okS P K L B s = true := by
  unfold okS at *
  split at h
  · cases h
  · rename_i u hu
    simp only [Bool.and_eq_true, List.all_eq_true] at h ⊢
    exact ⟨h.1, fun f hf => hs f (h.2 f hf)⟩
/-- Right rules are of their ranges. -/
theorem right_r {P K : Nat} {u : Ru} (h : rightU P K u = true) : (u.kind = 1 ∨ u.kind = 2 ∨ u.kind = 3 ∨ u.kind = 4) ∧ (0 ≤ u.head ∧ u.head < ((P * K : Nat) : Int)) ∧ (0 ≤ u.who ∧ u.who < P) ∧ (0 ≤ u.a ∧ u.a < ((P * K : Nat) : Int)) ∧ (0 ≤ u.b ∧ u.b < ((P * K : Nat) : Int)) ∧ (0 ≤ u.via ∧ u.via < K) := by
  unfold rightU at h
  simp only [Bool.and_eq_true, decide_eq_true_eq] at h
  obtain ⟨h1, h2, h3, h4, h5⟩ := h
  have a3 := List.all_eq_true.1 h3
  have a4 := List.all_eq_true.1 h4
  have a5 := List.all_eq_true.1 h5
  have k1 : inB _ u.head = true := a3 _ (by simp)
  have k2 : inB _ u.a = true := a3 _ (by simp)
  have k3 : inB _ u.b = true := a3 _ (by simp)
  have k4 : inB _ u.who = true := a4 _ (by simp)
  have k5 : inB _ u.via = true := a5 _ (by simp)
  unfold inB at k1 k2 k3 k4 k5
  simp only [decide_eq_true_eq] at k1 k2 k3 k4 k5
  unfold bareK at h1
  simp only [Bool.or_eq_true, decide_eq_true_eq] at h1
  refine ⟨by omega, k1, k4, k2, k3, k5⟩
theorem okS_rng {P K : Nat} {L : List Ru} {A : List Sp} {s : Sp} (h : okS P K L A s = true) : ∃ u, ruleAt P K L s.rule = some u ∧ fitB P u s = true ∧ (∀ f ∈ under K u s, hasS A f = true) ∧ (0 ≤ s.role ∧ s.role < ((P * K : Nat) : Int)) ∧ 0 ≤ s.who ∧ s.who < P ∧ u.head = s.role := by
  unfold okS at h
  split at h
  · cases h
  · rename_i u hu
    simp only [Bool.and_eq_true, List.all_eq_true] at h
    have hr := (right_r (ruleAt_some hu).2.2.2).2.1
    have hf := h.1
    unfold fitB at hf
    simp only [Bool.and_eq_true, decide_eq_true_eq] at hf
    exact ⟨u, hu, h.1, h.2, by rw [← hf.1]; exact hr, hf.2.1.1, hf.2.1.2, hf.1⟩
/-- What right steps tell follows from the rules that they use. -/
theorem ok_der {P K : Nat} {L L' : List Ru} {A : List Sp} {s : Sp} (h : okS P K L A s = true) (hA : ∀ f : Fa, hasS A f = true → Der K L' f.1 f.2) (hu : ∀ u, ruleAt P K L s.rule = some u → u ∈ L') : Der K L' s.role s.who := by
  obtain ⟨u, h1, h2, h3, _, _, _, h4⟩ := okS_rng h
  have hm := hu u h1
  have hk := (right_r (ruleAt_some h1).2.2.2).1
  unfold fitB at h2
  simp only [Bool.and_eq_true, Bool.or_eq_true, Bool.not_eq_true', decide_eq_true_eq, decide_eq_false_iff_not] at h2
  rw [← h4]
  rcases hk with k | k | k | k
  · rcases h2.2.2.1 with q | q
    · exact absurd k q
    · rw [← q]; exact .mem u hm k
  · unfold under at h3
    rw [if_pos k] at h3
    exact .incl u _ hm k (hA (u.a, s.who) (h3 _ (by simp)))
  · unfold under at h3
    rw [if_neg (by omega), if_pos k] at h3
    exact .link u s.mid _ hm k (hA (u.a, s.mid) (h3 _ (by simp))) (hA (s.mid * K + u.via, s.who) (h3 _ (by simp)))
  · unfold under at h3
    rw [if_neg (by omega), if_neg (by omega), if_pos k] at h3
    exact .both u _ hm k (hA (u.a, s.who) (h3 _ (by simp))) (hA (u.b, s.who) (h3 _ (by simp)))
theorem chk_der {P K : Nat} {L L' : List Ru} : ∀ (l A : List Sp), chk P K L A l = true → (∀ f : Fa, hasS A f = true → Der K L' f.1 f.2) → (∀ s ∈ l, ∀ u, ruleAt P K L s.rule = some u → u ∈ L') → ∀ f : Fa, hasS (A ++ l) f = true → Der K L' f.1 f.2
  | [], A, _, hA, _ => by simpa using hA
  | s :: l, A, h, hA, hu => by
    simp only [chk, Bool.and_eq_true] at h
    have hs := ok_der h.1.1 hA (hu s (by simp))
    have := chk_der l (A ++ [s]) h.2 (fun f hf => by
      rw [hasS_app, Bool.or_eq_true, hasS_one, decide_eq_true_eq] at hf
      rcases hf with hf | rfl
      · exact hA f hf
      · exact hs) (fun x hx => hu x (by simp [hx]))
    intro f hf
    exact this f (by simpa using hf)
theorem chk_sound {P K : Nat} {L : List Ru} {l : List Sp} (h : chk P K L [] l = true) {f : Fa} (hf : hasS l f = true) : Der K (L.filter (rightU P K)) f.1 f.2 :=
  chk_der l [] h (fun f hf => by simp [hasS] at hf) (fun s hs u hu => by
    obtain ⟨_, _, h1, h2⟩ := ruleAt_some hu
    exact List.mem_filter.2 ⟨List.mem_of_getElem? h1, h2⟩) f (by simpa using hf)
/-! ### the state of the looking -/
structure Ss where
  known : List Sp
  nw : Nat
  watch : Int → List (Int × Int)
def putM (t : Ss) (s : Sp) : Ss := if hasS t.known s.fa then t else { t with known := t.known ++ [s] }
def watchM (t : Ss) (r : Int) (x : Int × Int) : Ss := { t with nw := t.nw + 1, watch := fun i => if i = r then t.watch i ++ [x] else t.watch i }
def ruleD (L : List Ru) (i : Int) : Ru := L.getD i.toNat zeroU
def lkM (t : Ss) (r i h mid : Int) (who : Nat) : Ss := if hasS t.known (r, (who : Int)) then putM t ⟨i, h, who, mid⟩ else t
def linkM (P K : Nat) (L : List Ru) (t : Ss) (i mid : Int) : Ss :=
  (List.range P).foldl (lkM · (mid * K + (ruleD L i).via) i (ruleD L i).head mid) (watchM t (mid * K + (ruleD L i).via) (i, mid))
def stepM (P K : Nat) (L : List Ru) (t : Ss) (x : Int) (y : Int × Int) : Ss :=
  let u := ruleD L y.1
  if u.kind = 3 then (if y.2 = -1 then linkM P K L t y.1 x else putM t ⟨y.1, u.head, x, y.2⟩)
  else if u.kind = 2 then putM t ⟨y.1, u.head, x, 0⟩
  else if hasS t.known (u.a, x) && hasS t.known (u.b, x) then putM t ⟨y.1, u.head, x, 0⟩ else t
def followM (P K : Nat) (L : List Ru) (t : Ss) (f : Fa) : Ss := (t.watch f.1).foldl (stepM P K L · f.2) t
def beginM (t : Ss) (i : Int) (u : Ru) : Ss :=
  if u.kind = 1 then putM t ⟨i, u.head, u.who, 0⟩ else
  if u.kind = 4 ∧ u.b ≠ u.a then watchM (watchM t u.a (i, -1)) u.b (i, -1) else watchM t u.a (i, -1)
/-- What a watch brings for one who was followed into its role; hist: what was followed. -/
def Done (P K : Nat) (L : List Ru) (t : Ss) (hist : List Sp) (x : Int) (y : Int × Int) : Prop :=
  ((ruleD L y.1).kind = 2 → hasS t.known ((ruleD L y.1).head, x) = true) ∧
  ((ruleD L y.1).kind = 4 → hasS hist ((ruleD L y.1).a, x) = true → hasS hist ((ruleD L y.1).b, x) = true → hasS t.known ((ruleD L y.1).head, x) = true) ∧
  ((ruleD L y.1).kind = 3 → y.2 = -1 → (y.1, x) ∈ t.watch (x * K + (ruleD L y.1).via)) ∧
  ((ruleD L y.1).kind = 3 → y.2 ≠ -1 → hasS t.known ((ruleD L y.1).head, x) = true)
/-- A watch that may be, at a role. -/
structure WOk (P K : Nat) (L : List Ru) (t : Ss) (r : Int) (y : Int × Int) : Prop where
  at_ : ∃ u, ruleAt P K L y.1 = some u
  k1 : (ruleD L y.1).kind ≠ 1
  any : y.2 = -1 → (ruleD L y.1).a = r ∨ ((ruleD L y.1).kind = 4 ∧ (ruleD L y.1).b = r)
  mid : y.2 ≠ -1 → (ruleD L y.1).kind = 3 ∧ 0 ≤ y.2 ∧ y.2 < P ∧ r = y.2 * K + (ruleD L y.1).via ∧ hasS t.known ((ruleD L y.1).a, y.2) = true
def anyN (l : List (Int × Int)) : Nat := (l.filter fun y => decide (y.2 = -1)).length
structure Inv (P K : Nat) (L : List Ru) (T : Nat) (h : Nat) (pend : List (Int × Int)) (c : Nat) (t : Ss) : Prop where
  le : h ≤ t.known.length
  ck : chk P K L [] t.known = true
  wok : ∀ r, ∀ y ∈ t.watch r, WOk P K L t r y
  stat : ∀ i : Nat, i < T → ∀ u, ruleAt P K L i = some u → (u.kind = 1 → hasS t.known (u.head, u.who) = true) ∧ (u.kind ≠ 1 → ((i : Int), -1) ∈ t.watch u.a) ∧ (u.kind = 4 → ((i : Int), -1) ∈ t.watch u.b)
  cl : ∀ j, j < h → ∀ s, t.known[j]? = some s → ∀ y ∈ t.watch s.role, (y ∈ pend ∧ j + 1 = h) ∨ Done P K L t (t.known.take (j + 1)) s.who y
  any : ∀ r, anyN (t.watch r) ≤ 2 * T
  len : ∀ r, (t.watch r).length ≤ t.nw
  cnt : t.nw ≤ 2 * T + c
theorem Done.mono {P K : Nat} {L : List Ru} {t t' : Ss} {hist : List Sp} {x : Int} {y : Int × Int} (h : Done P K L t hist x y) (hk : ∀ f, hasS t.known f = true → hasS t'.known f = true) (hw : ∀ r, ∀ z ∈ t.watch r, z ∈ t'.watch r) : Done P K L t' hist x y :=
  ⟨fun k => hk _ (h.1 k), fun k a b => hk _ (h.2.1 k a b), fun k e => hw _ _ (h.2.2.1 k e), fun k e => hk _ (h.2.2.2 k e)⟩
theorem WOk.mono {P K : Nat} {L : List Ru} {t t' : Ss} {r : Int} {y : Int × Int} (h : WOk P K L t r y) (hk : ∀ f, hasS t.known f = true → hasS t'.known f = true) : WOk P K L t' r y :=
  ⟨h.at_, h.k1, h.any, fun e => by obtain ⟨a, b, c, d, f⟩ := h.mid e; exact ⟨a, b, c, d, hk _ f⟩⟩
end Go.Proofs.Ytddjbchlpfaggaa.PfM
