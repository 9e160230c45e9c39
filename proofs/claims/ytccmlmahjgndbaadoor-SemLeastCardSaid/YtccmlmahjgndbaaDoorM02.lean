/- Who is in which role: the worklist's maths. What was put in follows from the rules; when nobody is left to be followed all that follows is in; how often the loops went round, at most. -/
import Derived.Test.YtccmlmahjgndbaaDoorM01
import Derived.Laws.AppendOwn
import Derived.OwnWalk
import Derived.Shelf.Spec.TrailingZeros
import Derived.Laws.OwnMore
import Derived.Maps.AppendAt
import Derived.Lib.AppendZeros
import Derived.StillTailTactics
import Derived.Laws.Rows
import Derived.Deep.MidRow
namespace Go.Proofs.YtccmlmahjgndbaaDoor.SemA
set_option linter.unusedVariables false
set_option linter.unusedSimpArgs false
open Go.Proofs.YtccmlmahjgndbaaDoor.SetB Go.Proofs.YtccmlmahjgndbaaDoor.SetN Go.Proofs.YtccmlmahjgndbaaDoor.TblC
set_option linter.unusedVariables false
set_option linter.unusedSimpArgs false
abbrev Pr := Int × Int
/-- Who is in which role, by rules. -/
inductive Der (K : Nat) (L : List Ru) : Int → Int → Prop
  | mem (u : Ru) : u ∈ L → u.kind = 1 → Der K L u.head u.who
  | incl (u : Ru) (x : Int) : u ∈ L → u.kind = 2 → Der K L u.a x → Der K L u.head x
  | link (u : Ru) (x y : Int) : u ∈ L → u.kind = 3 → Der K L u.a x → Der K L (x * K + u.via) y → Der K L u.head y
  | both (u : Ru) (x : Int) : u ∈ L → u.kind = 4 → Der K L u.a x → Der K L u.b x → Der K L u.head x
theorem Der.mono {K : Nat} {L L' : List Ru} (h : ∀ u ∈ L, u ∈ L') {r x : Int} (d : Der K L r x) : Der K L' r x := by
  induction d with
  | mem u hu hk => exact .mem u (h u hu) hk
  | incl u x hu hk _ ih => exact .incl u x (h u hu) hk ih
  | link u x y hu hk _ _ i1 i2 => exact .link u x y (h u hu) hk i1 i2
  | both u x hu hk _ _ i1 i2 => exact .both u x (h u hu) hk i1 i2
/-- What the worklist holds: who came in, in order; the rules that look at each role; how often loops went round. -/
structure Sm where
  all : List Pr
  look : List (List Ru)
  steps : Nat
def Sm.at (s : Sm) (i : Int) : List Ru := s.look.getD i.toNat []
def inclU (h a : Int) : Ru := ⟨2, h, 0, a, 0, 0⟩
def putM (n P : Nat) (s : Sm) (r x : Int) : Sm := { s with all := putL n P s.all r x }
def lookM (s : Sm) (i : Int) (u : Ru) : Sm := { s with look := s.look.modify i.toNat (· ++ [u]) }
def tick (s : Sm) : Sm := { s with steps := s.steps + 1 }
def incM (n P : Nat) (s : Sm) (h : Int) (l : List Nat) : Sm := l.foldl (fun s (x : Nat) => putM n P (tick s) h x) s
def includeM (n P : Nat) (s : Sm) (h a : Int) : Sm := incM n P (lookM s a (inclU h a)) h (listL P s.all a)
def stepM (n P K : Nat) (s : Sm) (y : Int) (u : Ru) : Sm :=
  if u.kind = 2 then putM n P (tick s) u.head y
  else if u.kind = 3 then includeM n P (tick s) u.head (y * K + u.via)
  else if u.kind = 4 then (if hasL s.all u.a y && hasL s.all u.b y then putM n P (tick s) u.head y else tick s)
  else tick s
def followM (n P K : Nat) (s : Sm) (y : Int) (l : List Ru) : Sm := l.foldl (fun s u => stepM n P K s y u) s
def takeM (n P : Nat) (s : Sm) (u : Ru) : Sm :=
  if u.kind = 1 then putM n P s u.head u.who
  else if u.kind = 4 ∧ u.b ≠ u.a then lookM (lookM s u.a u) u.b u
  else lookM s u.a u
/-- A rule of roles, principals and names that there are. -/
structure Ok (n P K : Nat) (u : Ru) : Prop where
  k : u.kind = 1 ∨ u.kind = 2 ∨ u.kind = 3 ∨ u.kind = 4
  h : 0 ≤ u.head ∧ u.head < n
  a : 0 ≤ u.a ∧ u.a < n
  b : 0 ≤ u.b ∧ u.b < n
  w : 0 ≤ u.who ∧ u.who < P
  v : 0 ≤ u.via ∧ u.via < K
theorem mem_put {n P : Nat} {L : List Pr} {r x : Int} (hm : mayB n P r x = true) (p : Pr) : p ∈ putL n P L r x ↔ p ∈ L ∨ p = (r, x) := by
  unfold putL
  rw [hm]
  cases hh : hasL L r x with
  | true =>
    simp
    rintro rfl
    exact hasL_iff.1 hh
  | false => simp
theorem put_pre (n P : Nat) (L : List Pr) (r x : Int) : L <+: putL n P L r x := by
  unfold putL
  split
  · exact List.prefix_append _ _
  · exact List.prefix_refl _
theorem put_nd {n P : Nat} {L : List Pr} {r x : Int} (h : L.Nodup) : (putL n P L r x).Nodup := by
  unfold putL
  split
  · rename_i hc
    rw [List.nodup_append]
    refine ⟨h, by simp, ?_⟩
    intro a ha b hb
    simp at hb
    subst hb
    rintro rfl
    have := hasL_iff.2 ha
    simp [this] at hc
  · exact h
theorem mem_list {P : Nat} {L : List Pr} {r : Int} {k : Nat} : k ∈ listL P L r ↔ k < P ∧ (r, (k : Int)) ∈ L := by
  unfold listL
  rw [List.mem_filter, List.mem_range, hasL_iff]
theorem getD_modify (l : List (List Ru)) (i j : Nat) (f : List Ru → List Ru) : (l.modify i f).getD j [] = if i = j ∧ j < l.length then f (l.getD j []) else l.getD j [] := by
  simp only [List.getD_eq_getElem?_getD, List.getElem?_modify]
  by_cases hj : j < l.length
  · rw [List.getElem?_eq_getElem hj]
    by_cases hi : i = j
    · subst hi; simp [hj]
    · simp [hi]
  · rw [List.getElem?_eq_none (by omega)]
    simp [hj]
theorem sum_modify (g : List Ru → Nat) : ∀ (l : List (List Ru)) (i : Nat) (f : List Ru → List Ru), i < l.length → ((l.modify i f).map g).sum + g (l.getD i []) = (l.map g).sum + g (f (l.getD i []))
  | [], i, f, h => by simp at h
  | x :: l, 0, f, h => by simp; omega
  | x :: l, i + 1, f, h => by
    have := sum_modify g l i f (by simpa using h)
    simp only [List.modify_succ_cons, List.map_cons, List.sum_cons, List.getD_cons_succ]
    omega
def wt (P : Nat) (u : Ru) : Nat := if u.kind = 3 then 1 + P else 1
def lw (u : Ru) : Nat := if u.kind = 3 then 1 else 0
def ws (P : Nat) (l : List Ru) : Nat := (l.map (wt P)).sum
def links (l : List Ru) : Nat := (l.map lw).sum
theorem ws_app (P : Nat) (l : List Ru) (u : Ru) : ws P (l ++ [u]) = ws P l + wt P u := by unfold ws; simp
theorem links_app (l : List Ru) (u : Ru) : links (l ++ [u]) = links l + lw u := by unfold links; simp
def Sound (K : Nat) (L : List Ru) (u : Ru) : Prop :=
  (u.kind = 2 → ∀ x, Der K L u.a x → Der K L u.head x) ∧ (u.kind = 3 → ∀ x y, Der K L u.a x → Der K L (x * K + u.via) y → Der K L u.head y) ∧ (u.kind = 4 → ∀ x, Der K L u.a x → Der K L u.b x → Der K L u.head x)
theorem sound_mem {K : Nat} {L : List Ru} {u : Ru} (h : u ∈ L) : Sound K L u :=
  ⟨fun hk x => .incl u x h hk, fun hk x y => .link u x y h hk, fun hk x => .both u x h hk⟩
/-- What a rule that looks at a role brings for one who was followed is in. -/
def Closed (K : Nat) (s : Sm) (hist : List Pr) (u : Ru) (x : Int) : Prop :=
  (u.kind = 2 → (u.head, x) ∈ s.all) ∧ (u.kind = 3 → ∃ v ∈ s.at (x * K + u.via), v.kind = 2 ∧ v.head = u.head ∧ v.a = x * K + u.via) ∧ (u.kind = 4 → (u.a, x) ∈ hist → (u.b, x) ∈ hist → (u.head, x) ∈ s.all)
structure Inv (n P K : Nat) (L T : List Ru) (hist : List Pr) (pend cp : List Ru) (y : Int) (s : Sm) : Prop where
  pre : hist <+: s.all
  nd : s.all.Nodup
  rng : ∀ p ∈ s.all, mayB n P p.1 p.2 = true
  snd : ∀ p ∈ s.all, Der K L p.1 p.2
  len : s.look.length = n
  lok : ∀ i : Nat, ∀ u ∈ s.look.getD i [], Ok n P K u ∧ u.kind ≠ 1 ∧ (u.a = i ∨ u.kind = 4 ∧ u.b = i) ∧ Sound K L u ∧ (u.kind = 4 → u ∈ s.at u.a ∧ u ∈ s.at u.b)
  stat : ∀ u ∈ T, (u.kind = 1 → (u.head, u.who) ∈ s.all) ∧ (u.kind ≠ 1 → u ∈ s.at u.a)
  pd : ∀ u ∈ pend, ∃ i : Nat, u ∈ s.look.getD i []
  cl : ∀ p ∈ hist, ∀ u ∈ s.at p.1, (u ∈ pend ∧ p.2 = y) ∨ Closed K s hist u p.2
  st : s.steps + ws P cp ≤ T.length + (hist.map fun p => 1 + ws P (s.at p.1)).sum
  lk : (s.look.map (ws P)).sum + links cp ≤ T.length * (2 + P) + (hist.map fun p => links (s.at p.1)).sum
  ll : (s.look.map links).sum ≤ T.length
  lo : T.length ≤ s.steps
theorem sum_le {α : Type} (f g : α → Nat) : ∀ (l : List α), (∀ x ∈ l, f x ≤ g x) → (l.map f).sum ≤ (l.map g).sum
  | [], _ => by simp
  | x :: l, h => by
    have := sum_le f g l (fun y hy => h y (by simp [hy]))
    have := h x (by simp)
    simp only [List.map_cons, List.sum_cons]
    omega
theorem Closed.mono {K : Nat} {s s' : Sm} {hist : List Pr} {u : Ru} {x : Int} (h : Closed K s hist u x) (ha : ∀ p ∈ s.all, p ∈ s'.all) (hl : ∀ i, ∀ v ∈ s.at i, v ∈ s'.at i) : Closed K s' hist u x := by
  obtain ⟨h1, h2, h3⟩ := h
  refine ⟨fun e => ha _ (h1 e), fun e => ?_, fun e a b => ha _ (h3 e a b)⟩
  obtain ⟨v, hv, r⟩ := h2 e
  exact ⟨v, hl _ v hv, r⟩
theorem pre_mem {α : Type} {l m : List α} (h : l <+: m) {x : α} (hx : x ∈ l) : x ∈ m := h.subset hx
/-- One more is in: what stands, stands. -/
theorem Inv.put {n P K : Nat} {L T : List Ru} {hist : List Pr} {pend cp : List Ru} {y : Int} {s : Sm} (h : Inv n P K L T hist pend cp y s) {r x : Int} (hm : mayB n P r x = true) (hd : Der K L r x) : Inv n P K L T hist pend cp y (putM n P s r x) := by
  have hp := put_pre n P s.all r x
  exact {
    pre := List.IsPrefix.trans h.pre hp
    nd := put_nd h.nd
    rng := fun p h2 => by
      rcases (mem_put hm p).1 h2 with h3 | rfl
      · exact h.rng p h3
      · exact hm
    snd := fun p h2 => by
      rcases (mem_put hm p).1 h2 with h3 | rfl
      · exact h.snd p h3
      · exact hd
    len := h.len
    lok := h.lok
    stat := fun u hu => ⟨fun e => pre_mem hp ((h.stat u hu).1 e), (h.stat u hu).2⟩
    pd := h.pd
    cl := fun p h2 u hu => (h.cl p h2 u hu).imp id fun c => c.mono (fun q hq => pre_mem hp hq) fun i v hv => hv
    st := h.st
    lk := h.lk
    ll := h.ll
    lo := h.lo }
theorem at_look {s : Sm} {n : Nat} (hl : s.look.length = n) {i : Int} (hi : 0 ≤ i ∧ i < n) (u : Ru) {j : Int} (hj : 0 ≤ j) : (lookM s i u).at j = if j = i then s.at i ++ [u] else s.at j := by
  unfold Sm.at lookM
  simp only [getD_modify]
  by_cases e : j = i
  · subst e
    rw [if_pos ⟨rfl, by omega⟩, if_pos rfl]
  · rw [if_neg (by omega), if_neg e]
theorem at_look_mem {s : Sm} {i : Int} {u v : Ru} {j : Nat} (h : v ∈ s.look.getD j []) : v ∈ (lookM s i u).look.getD j [] := by
  unfold lookM
  simp only [getD_modify]
  split
  · rw [List.mem_append]; exact .inl h
  · exact h
theorem mem_look {s : Sm} {i : Int} {u v : Ru} {j : Nat} (h : v ∈ (lookM s i u).look.getD j []) : v ∈ s.look.getD j [] ∨ v = u ∧ i.toNat = j := by
  unfold lookM at h
  simp only [getD_modify] at h
  split at h
  · rename_i hc
    simp at h
    rcases h with h | h
    · left; simpa using h
    · exact .inr ⟨h, hc.1⟩
  · exact .inl h
/-- A row of puts in one role. -/
theorem inc_all {n P : Nat} (h : Int) : ∀ (l : List Nat) (s : Sm), (∀ x ∈ l, mayB n P h x = true) → (incM n P s h l).look = s.look ∧ (incM n P s h l).steps = s.steps + l.length ∧ ∀ p, p ∈ (incM n P s h l).all ↔ p ∈ s.all ∨ ∃ x ∈ l, p = (h, (x : Int))
  | [], s, _ => by simp [incM]
  | x :: l, s, hm => by
    have ih := inc_all (n := n) (P := P) h l (putM n P (tick s) h x) (fun z hz => hm z (by simp [hz]))
    have e : incM n P s h (x :: l) = incM n P (putM n P (tick s) h x) h l := rfl
    rw [e]
    obtain ⟨i1, i2, i3⟩ := ih
    refine ⟨i1.trans rfl, ?_, fun p => ?_⟩
    · rw [i2]
      show s.steps + 1 + l.length = _
      simp only [List.length_cons]; omega
    · rw [i3]
      have := mem_put (L := s.all) (hm x (by simp)) p
      show p ∈ putL n P s.all h x ∨ _ ↔ _
      rw [this]
      constructor
      · rintro ((a | a) | ⟨z, hz, a⟩)
        · exact .inl a
        · exact .inr ⟨x, by simp, a⟩
        · exact .inr ⟨z, by simp [hz], a⟩
      · rintro (a | ⟨z, hz, a⟩)
        · exact .inl (.inl a)
        · simp at hz
          rcases hz with rfl | hz
          · exact .inl (.inr a)
          · exact .inr ⟨z, hz, a⟩
theorem of_range {P K : Nat} {x v : Int} (hx : 0 ≤ x ∧ x < P) (hv : 0 ≤ v ∧ v < K) : 0 ≤ x * K + v ∧ x * K + v < ((P * K : Nat) : Int) := by
  obtain ⟨a, rfl⟩ := Int.eq_ofNat_of_zero_le hx.1
  obtain ⟨b, rfl⟩ := Int.eq_ofNat_of_zero_le hv.1
  have ha : a < P := by omega
  have hb : b < K := by omega
  have : (a + 1) * K ≤ P * K := Nat.mul_le_mul_right _ ha
  rw [Nat.add_mul, Nat.one_mul] at this
  constructor
  · have := Int.natCast_nonneg (a * K + b)
    simpa using this
  · have h2 : a * K + b < P * K := by omega
    exact_mod_cast h2
theorem at_mem_nat {s : Sm} {i : Int} {u : Ru} (h : u ∈ s.at i) : ∃ j : Nat, u ∈ s.look.getD j [] := ⟨_, h⟩
/-- An inclusion of the worklist's own begins to look. -/
theorem Inv.include {n P K : Nat} {L T : List Ru} {hist : List Pr} {pend cp : List Ru} {y : Int} {s : Sm} (h : Inv n P K L T hist pend cp y s) {hd a : Int} (h1 : 0 ≤ hd ∧ hd < n) (h2 : 0 ≤ a ∧ a < n) (hz : 0 < P ∧ 0 < K) (hn : n = P * K)
    (hs : ∀ x, Der K L a x → Der K L hd x) (hB : s.steps + P + ws P cp ≤ T.length + (hist.map fun p => 1 + ws P (s.at p.1)).sum)
    (hC : (s.look.map (ws P)).sum + 1 + links cp ≤ T.length * (2 + P) + (hist.map fun p => links (s.at p.1)).sum) :
    Inv n P K L T hist pend cp y (includeM n P s hd a) ∧ (∀ p ∈ s.all, p ∈ (includeM n P s hd a).all) ∧ (∀ i, ∀ v ∈ s.at i, v ∈ (includeM n P s hd a).at i) ∧ inclU hd a ∈ (includeM n P s hd a).at a := by
  have hml : ∀ x ∈ listL P s.all a, mayB n P hd x = true ∧ Der K L hd x := fun x hx => by
    obtain ⟨hx1, hx2⟩ := mem_list.1 hx
    exact ⟨mayB_iff.2 ⟨h1.1, h1.2, by omega, by omega⟩, hs _ (h.snd _ hx2)⟩
  obtain ⟨i1, i2, i3⟩ := inc_all hd (listL P s.all a) (lookM s a (inclU hd a)) (fun x hx => (hml x hx).1)
  have hall : ∀ p ∈ s.all, p ∈ (includeM n P s hd a).all := fun p hp => (i3 p).2 (.inl hp)
  have hat : ∀ i : Int, (includeM n P s hd a).at i = (lookM s a (inclU hd a)).at i := fun i => by
    show (includeM n P s hd a).look.getD _ _ = _
    unfold includeM
    rw [i1]
    rfl
  have hlk : ∀ i, ∀ v ∈ s.at i, v ∈ (includeM n P s hd a).at i := fun i v hv => by
    rw [hat]
    exact at_look_mem hv
  have hin : inclU hd a ∈ (includeM n P s hd a).at a := by
    rw [hat, at_look h.len h2 _ h2.1, if_pos rfl]
    simp
  refine ⟨?_, hall, hlk, hin⟩
  have hwt : wt P (inclU hd a) = 1 := by unfold wt inclU; simp
  have hlw : lw (inclU hd a) = 0 := by unfold lw inclU; simp
  have hsm : ∀ g : List Ru → Nat, ((lookM s a (inclU hd a)).look.map g).sum + g (s.at a) = (s.look.map g).sum + g (s.at a ++ [inclU hd a]) := fun g => sum_modify g s.look a.toNat _ (by rw [h.len]; omega)
  have hll : (listL P s.all a).length ≤ P := listL_len _ _ _
  have mono1 : ∀ p ∈ hist, ws P (s.at p.1) ≤ ws P ((lookM s a (inclU hd a)).at p.1) := fun p hp => by
    have hr := mayB_iff.1 (h.rng p (pre_mem h.pre hp))
    rw [at_look h.len h2 _ hr.1]
    split
    · rename_i e; rw [e, ws_app]; omega
    · exact Nat.le_refl _
  have mono2 : ∀ p ∈ hist, links (s.at p.1) ≤ links ((lookM s a (inclU hd a)).at p.1) := fun p hp => by
    have hr := mayB_iff.1 (h.rng p (pre_mem h.pre hp))
    rw [at_look h.len h2 _ hr.1]
    split
    · rename_i e; rw [e, links_app]; omega
    · exact Nat.le_refl _
  have hpre : s.all <+: (includeM n P s hd a).all := by
    unfold includeM
    generalize listL P s.all a = l
    have : ∀ (l : List Nat) (s : Sm), s.all <+: (incM n P s hd l).all := by
      intro l
      induction l with
      | nil => intro s; exact List.prefix_refl _
      | cons x l ih => intro s; exact List.IsPrefix.trans (put_pre n P s.all hd x) (ih (putM n P (tick s) hd x))
    exact this l (lookM s a (inclU hd a))
  have hnd : (includeM n P s hd a).all.Nodup := by
    unfold includeM
    generalize listL P s.all a = l
    have : ∀ (l : List Nat) (s : Sm), s.all.Nodup → (incM n P s hd l).all.Nodup := by
      intro l
      induction l with
      | nil => intro s h; exact h
      | cons x l ih => intro s h; exact ih _ (put_nd (L := (tick s).all) h)
    exact this l (lookM s a (inclU hd a)) h.nd
  exact {
    pre := List.IsPrefix.trans h.pre hpre
    nd := hnd
    rng := fun p hp => by
      rcases (i3 p).1 hp with hp | ⟨x, hx, rfl⟩
      · exact h.rng p hp
      · exact (hml x hx).1
    snd := fun p hp => by
      rcases (i3 p).1 hp with hp | ⟨x, hx, rfl⟩
      · exact h.snd p hp
      · exact (hml x hx).2
    len := by
      show (includeM n P s hd a).look.length = n
      unfold includeM
      rw [i1]
      simp [lookM, h.len]
    lok := fun i u hu => by
      have hu2 : u ∈ (lookM s a (inclU hd a)).look.getD i [] := by rw [← i1]; exact hu
      rcases mem_look hu2 with hu3 | ⟨rfl, e⟩
      · obtain ⟨a1, a2, a3, a4, a5⟩ := h.lok i u hu3
        exact ⟨a1, a2, a3, a4, fun e => ⟨hlk _ _ (a5 e).1, hlk _ _ (a5 e).2⟩⟩
      · have h1a : (0 : Int) ≤ 0 ∧ (0 : Int) < n := by
          have : 0 < n := by rw [hn]; exact Nat.mul_pos hz.1 hz.2
          omega
        refine ⟨⟨.inr (.inl rfl), h1, h2, h1a, by show (0 : Int) ≤ 0 ∧ (0 : Int) < P; omega, by show (0 : Int) ≤ 0 ∧ (0 : Int) < K; omega⟩, by show (2 : Int) ≠ 1; omega, .inl (by show a = i; omega), ⟨fun _ => hs, fun e => ?_, fun e => ?_⟩, fun e => ?_⟩
        · exact absurd (show (2 : Int) = 3 from e) (by omega)
        · exact absurd (show (2 : Int) = 4 from e) (by omega)
        · exact absurd (show (2 : Int) = 4 from e) (by omega)
    stat := fun u hu => ⟨fun e => hall _ ((h.stat u hu).1 e), fun e => hlk _ _ ((h.stat u hu).2 e)⟩
    pd := fun u hu => by
      obtain ⟨i, hi⟩ := h.pd u hu
      have : u ∈ s.at (i : Int) := by unfold Sm.at; simpa using hi
      exact ⟨_, hlk i u this⟩
    cl := fun p hp u hu => by
      have hr := mayB_iff.1 (h.rng p (pre_mem h.pre hp))
      have hu2 := hu
      rw [hat, at_look h.len h2 _ hr.1] at hu2
      have old : u ∈ s.at p.1 → (u ∈ pend ∧ p.2 = y) ∨ Closed K (includeM n P s hd a) hist u p.2 := fun h3 => (h.cl p hp u h3).imp id fun c => c.mono hall hlk
      split at hu2
      · rename_i e
        rw [List.mem_append, List.mem_singleton] at hu2
        rcases hu2 with hu2 | rfl
        · exact old (by rw [e]; exact hu2)
        · right
          refine ⟨fun _ => ?_, fun e => absurd (show (2 : Int) = 3 from e) (by omega), fun e => absurd (show (2 : Int) = 4 from e) (by omega)⟩
          refine (i3 _).2 (.inr ⟨p.2.toNat, mem_list.2 ⟨by omega, ?_⟩, ?_⟩)
          · have := pre_mem h.pre hp
            rw [Int.toNat_of_nonneg hr.2.2.1, ← e]
            exact this
          · rw [Int.toNat_of_nonneg hr.2.2.1]
            rfl
      · exact old hu2
    st := by
      show (includeM n P s hd a).steps + _ ≤ _
      have e1 : (includeM n P s hd a).steps = s.steps + (listL P s.all a).length := by unfold includeM; rw [i2]; rfl
      rw [e1]
      have := sum_le (fun p : Pr => 1 + ws P (s.at p.1)) (fun p : Pr => 1 + ws P ((includeM n P s hd a).at p.1)) hist (fun p hp => by
        have := mono1 p hp
        rw [← hat] at this
        omega)
      omega
    lk := by
      show ((includeM n P s hd a).look.map (ws P)).sum + _ ≤ _
      have e1 : (includeM n P s hd a).look = (lookM s a (inclU hd a)).look := by unfold includeM; rw [i1]
      rw [e1]
      have e2 := hsm (ws P)
      rw [ws_app, hwt] at e2
      have := sum_le (fun p : Pr => links (s.at p.1)) (fun p : Pr => links ((includeM n P s hd a).at p.1)) hist (fun p hp => by
        have := mono2 p hp
        rw [← hat] at this
        exact this)
      omega
    ll := by
      show ((includeM n P s hd a).look.map links).sum ≤ _
      have e1 : (includeM n P s hd a).look = (lookM s a (inclU hd a)).look := by unfold includeM; rw [i1]
      rw [e1]
      have e2 := hsm links
      rw [links_app, hlw] at e2
      have := h.ll
      omega
    lo := by
      show T.length ≤ (includeM n P s hd a).steps
      have e1 : (includeM n P s hd a).steps = s.steps + (listL P s.all a).length := by unfold includeM; rw [i2]; rfl
      have := h.lo
      omega }
/-- What may be pending is less by one that is closed. -/
theorem Inv.less {n P K : Nat} {L T : List Ru} {hist : List Pr} {u : Ru} {pend cp : List Ru} {y : Int} {s : Sm} (h : Inv n P K L T hist (u :: pend) cp y s) (hc : Closed K s hist u y) : Inv n P K L T hist pend cp y s :=
  { h with
    pd := fun v hv => h.pd v (by simp [hv])
    cl := fun p hp v hv => by
      rcases h.cl p hp v hv with ⟨h1, h2⟩ | h1
      · simp at h1
        rcases h1 with rfl | h1
        · exact .inr (by rw [h2]; exact hc)
        · exact .inl ⟨h1, h2⟩
      · exact .inr h1 }
/-- One rule that looks at a role is asked for one who came into it. -/
theorem Inv.step {n P K : Nat} {L T : List Ru} {hist : List Pr} {u : Ru} {pend : List Ru} {c y : Int} {s : Sm} (hn : n = P * K) (h : Inv n P K L T hist (u :: pend) (u :: pend) y s) (hcur : (c, y) ∈ hist) (hu : u ∈ s.at c) : Inv n P K L T hist pend pend y (stepM n P K s y u) ∧ (∀ i, ∀ v ∈ s.at i, v ∈ (stepM n P K s y u).at i) := by
  obtain ⟨ok, k1, hab, hs, h4⟩ := h.lok _ u hu
  have hin : (c, y) ∈ s.all := pre_mem h.pre hcur
  have hr := mayB_iff.1 (h.rng _ hin)
  simp only at hr
  have hz : 0 < P ∧ 0 < K := by have := ok.v; have := ok.w; omega
  have hst := h.st
  have hlk := h.lk
  have ew : ws P (u :: pend) = wt P u + ws P pend := by unfold ws; simp
  have el : links (u :: pend) = lw u + links pend := by unfold links; simp
  rw [ew] at hst
  rw [el] at hlk
  have hc1 : (c.toNat : Int) = c := Int.toNat_of_nonneg hr.1
  rw [hc1] at hab
  have hwt : 1 ≤ wt P u := by unfold wt; split <;> omega
  have hT : Inv n P K L T hist (u :: pend) pend y (tick s) := { h with
    st := by show s.steps + 1 + _ ≤ _; exact Nat.le_trans (by omega) hst
    lk := by show (s.look.map (ws P)).sum + _ ≤ _; exact Nat.le_trans (by omega) hlk
    lo := by show T.length ≤ s.steps + 1; have := h.lo; omega }
  unfold stepM
  by_cases e2 : u.kind = 2
  · rw [if_pos e2]
    have ha : u.a = c := by rcases hab with h | ⟨h, _⟩ <;> omega
    have hm : mayB n P u.head y = true := mayB_iff.2 ⟨ok.h.1, ok.h.2, hr.2.2.1, hr.2.2.2⟩
    have := hT.put hm (hs.1 e2 y (by rw [ha]; exact h.snd _ hin))
    exact ⟨this.less ⟨fun _ => (mem_put hm _).2 (.inr rfl), fun e => by omega, fun e => by omega⟩, fun i v hv => hv⟩
  · rw [if_neg e2]
    by_cases e3 : u.kind = 3
    · rw [if_pos e3]
      have ha : u.a = c := by rcases hab with h | ⟨h, _⟩ <;> omega
      have hw3 : wt P u = 1 + P := by unfold wt; rw [if_pos e3]
      have hl3 : lw u = 1 := by unfold lw; rw [if_pos e3]
      have hof := of_range ⟨hr.2.2.1, hr.2.2.2⟩ ok.v
      rw [← hn] at hof
      obtain ⟨g1, g2, g3, g4⟩ := hT.include (hd := u.head) (a := y * K + u.via) ok.h hof hz hn
        (fun x hx => hs.2.1 e3 y x (by rw [ha]; exact h.snd _ hin) hx) (by show s.steps + 1 + P + _ ≤ _; exact Nat.le_trans (by omega) hst) (by show (s.look.map (ws P)).sum + 1 + _ ≤ _; exact Nat.le_trans (by omega) hlk)
      exact ⟨g1.less ⟨fun e => by omega, fun _ => ⟨_, g4, rfl, rfl, rfl⟩, fun e => by omega⟩, g3⟩
    · rw [if_neg e3]
      have e4 : u.kind = 4 := by have := ok.k; omega
      rw [if_pos e4]
      by_cases hb : (hasL s.all u.a y && hasL s.all u.b y) = true
      · rw [if_pos hb]
        rw [Bool.and_eq_true, hasL_iff, hasL_iff] at hb
        have hm : mayB n P u.head y = true := mayB_iff.2 ⟨ok.h.1, ok.h.2, hr.2.2.1, hr.2.2.2⟩
        have := hT.put hm (hs.2.2 e4 y (h.snd _ hb.1) (h.snd _ hb.2))
        exact ⟨this.less ⟨fun e => by omega, fun e => by omega, fun _ _ _ => (mem_put hm _).2 (.inr rfl)⟩, fun i v hv => hv⟩
      · rw [if_neg hb]
        refine ⟨hT.less ⟨fun e => by omega, fun e => by omega, fun _ h1 h2 => ?_⟩, fun i v hv => hv⟩
        exfalso
        apply hb
        rw [Bool.and_eq_true, hasL_iff, hasL_iff]
        exact ⟨pre_mem h.pre h1, pre_mem h.pre h2⟩
theorem Inv.follow {n P K : Nat} {L T : List Ru} {hist : List Pr} {c y : Int} (hn : n = P * K) (hcur : (c, y) ∈ hist) : ∀ (l : List Ru) (s : Sm), Inv n P K L T hist l l y s → (∀ u ∈ l, u ∈ s.at c) → Inv n P K L T hist [] [] y (followM n P K s y l)
  | [], s, h, _ => h
  | u :: l, s, h, hu => by
    obtain ⟨h1, h2⟩ := h.step hn hcur (hu u (by simp))
    exact Inv.follow hn hcur l _ h1 fun v hv => h2 _ _ (hu v (by simp [hv]))
theorem Inv.follow_part {n P K : Nat} {L T : List Ru} {hist : List Pr} {c y : Int} (hn : n = P * K) (hcur : (c, y) ∈ hist) : ∀ (l l' : List Ru) (s : Sm), Inv n P K L T hist (l ++ l') (l ++ l') y s → (∀ u ∈ l, u ∈ s.at c) → Inv n P K L T hist l' l' y (followM n P K s y l)
  | [], l', s, h, _ => h
  | u :: l, l', s, h, hu => by
    obtain ⟨h1, h2⟩ := h.step (pend := l ++ l') hn hcur (hu u (by simp))
    exact Inv.follow_part hn hcur l l' _ h1 fun v hv => h2 _ _ (hu v (by simp [hv]))
/-- The next one who came in is taken from the queue. -/
theorem Inv.pop {n P K : Nat} {L T : List Ru} {hist rest : List Pr} {cur : Pr} {y : Int} {s : Sm} (h : Inv n P K L T hist [] [] y s) (hq : s.all = hist ++ cur :: rest) : Inv n P K L T (hist ++ [cur]) (s.at cur.1) (s.at cur.1) cur.2 (tick s) :=
  { h with
    pre := by show hist ++ [cur] <+: s.all; rw [hq]; exact ⟨rest, by simp⟩
    pd := fun u hu => ⟨_, hu⟩
    cl := fun p hp u hu => by
      rw [List.mem_append, List.mem_singleton] at hp
      rcases hp with hp | rfl
      · rcases h.cl p hp u hu with ⟨h1, _⟩ | ⟨c1, c2, c3⟩
        · simp at h1
        · obtain ⟨ok, k1, hab, hs, h4⟩ := h.lok _ u hu
          by_cases e4 : u.kind = 4
          · by_cases hx : (u.a, p.2) = cur ∨ (u.b, p.2) = cur
            · left
              obtain ⟨i1, i2⟩ := h4 e4
              rcases hx with rfl | rfl
              · exact ⟨i1, rfl⟩
              · exact ⟨i2, rfl⟩
            · right
              refine ⟨c1, c2, fun e a b => ?_⟩
              rw [List.mem_append, List.mem_singleton] at a b
              rcases a with a | a
              · rcases b with b | b
                · exact c3 e a b
                · exact absurd (.inr b) hx
              · exact absurd (.inl a) hx
          · exact .inr ⟨c1, c2, fun e => absurd e e4⟩
      · exact .inl ⟨hu, rfl⟩
    st := by
      have := h.st
      have e0 : ws P [] = 0 := rfl
      rw [e0] at this
      show s.steps + 1 + _ ≤ T.length + ((hist ++ [cur]).map fun p => 1 + ws P (s.at p.1)).sum
      rw [List.map_append, List.sum_append]
      simp only [List.map_cons, List.map_nil, List.sum_cons, List.sum_nil]
      omega
    lk := by
      have := h.lk
      have e0 : links [] = 0 := rfl
      rw [e0] at this
      show (s.look.map (ws P)).sum + _ ≤ T.length * (2 + P) + ((hist ++ [cur]).map fun p => links (s.at p.1)).sum
      rw [List.map_append, List.sum_append]
      simp only [List.map_cons, List.map_nil, List.sum_cons, List.sum_nil]
      omega
    lo := by show T.length ≤ s.steps + 1; have := h.lo; omega }
/-- When nobody is left to be followed, all that follows is in, and nothing else. -/
theorem Inv.all {n P K : Nat} {L : List Ru} {hist : List Pr} {y : Int} {s : Sm} (h : Inv n P K L L hist [] [] y s) (hq : s.all = hist) (hok : ∀ u ∈ L, Ok n P K u) (r x : Int) : (r, x) ∈ s.all ↔ Der K L r x := by
  refine ⟨fun hm => h.snd _ hm, fun d => ?_⟩
  have cl : ∀ p ∈ s.all, ∀ u ∈ s.at p.1, Closed K s hist u p.2 := fun p hp u hu => by
    rcases h.cl p (hq ▸ hp) u hu with ⟨h1, _⟩ | h1
    · simp at h1
    · exact h1
  induction d with
  | mem u hu hk => exact (h.stat u hu).1 hk
  | incl u x hu hk _ ih => exact (cl _ ih u ((h.stat u hu).2 (by omega))).1 hk
  | link u x y hu hk _ _ i1 i2 =>
    obtain ⟨v, hv, k, e1, e2⟩ := (cl _ i1 u ((h.stat u hu).2 (by omega))).2.1 hk
    have := (cl _ i2 v hv).1 k
    rw [e1] at this
    exact this
  | both u x hu hk _ _ i1 i2 => exact (cl _ i1 u ((h.stat u hu).2 (by omega))).2.2 hk (hq ▸ i1) (hq ▸ i2)
def start (n : Nat) : Sm := ⟨[], List.replicate n [], 0⟩
theorem getD_rep (n i : Nat) : (List.replicate n ([] : List Ru)).getD i [] = [] := by
  rw [List.getD_eq_getElem?_getD, List.getElem?_replicate]
  split <;> rfl
theorem Inv.start (n P K : Nat) (L : List Ru) : Inv n P K L [] [] [] [] 0 (start n) where
  pre := List.prefix_refl _
  nd := List.nodup_nil
  rng := fun p hp => by cases hp
  snd := fun p hp => by cases hp
  len := by simp [SemA.start]
  lok := fun i u hu => by
    have : u ∈ (List.replicate n ([] : List Ru)).getD i [] := hu
    rw [getD_rep] at this
    cases this
  stat := fun u hu => by cases hu
  pd := fun u hu => by cases hu
  cl := fun p hp => by cases hp
  st := by simp [SemA.start, ws]
  lk := by
    have : ws P [] = 0 := rfl
    simp [SemA.start, links, this]
  ll := by
    have : links [] = 0 := rfl
    simp [SemA.start, this]
  lo := by simp [SemA.start]
/-- A rule is begun with. -/
theorem Inv.take {n P K : Nat} {L T : List Ru} {y : Int} {s : Sm} (h : Inv n P K L T [] [] [] y s) {u : Ru} (hu : u ∈ L) (ok : Ok n P K u) : Inv n P K L (T ++ [u]) [] [] [] y (takeM n P (tick s) u) := by
  have hst := h.st
  have hlk := h.lk
  have hll := h.ll
  have e0 : ws P [] = 0 := rfl
  have e1 : links [] = 0 := rfl
  simp only [List.map_nil, List.sum_nil, e0, e1] at hst hlk
  have hlen : (T ++ [u]).length = T.length + 1 := by simp
  have hmul : (T ++ [u]).length * (2 + P) = T.length * (2 + P) + (2 + P) := by rw [hlen, Nat.add_mul, Nat.one_mul]
  have hw : wt P u ≤ 1 + P := by unfold wt; split <;> omega
  have hlw : lw u ≤ 1 := by unfold lw; split <;> omega
  unfold takeM
  by_cases k1 : u.kind = 1
  · rw [if_pos k1]
    have hm : mayB n P u.head u.who = true := mayB_iff.2 ⟨ok.h.1, ok.h.2, ok.w.1, ok.w.2⟩
    have hp := put_pre n P s.all u.head u.who
    exact {
      pre := ⟨_, rfl⟩
      nd := put_nd h.nd
      rng := fun p h2 => by
        rcases (mem_put hm p).1 h2 with h3 | rfl
        · exact h.rng p h3
        · exact hm
      snd := fun p h2 => by
        rcases (mem_put hm p).1 h2 with h3 | rfl
        · exact h.snd p h3
        · exact .mem u hu k1
      len := h.len
      lok := h.lok
      stat := fun v hv => by
        rw [List.mem_append, List.mem_singleton] at hv
        rcases hv with hv | rfl
        · exact ⟨fun e => pre_mem hp ((h.stat v hv).1 e), (h.stat v hv).2⟩
        · exact ⟨fun _ => (mem_put hm _).2 (.inr rfl), fun e => absurd k1 e⟩
      pd := fun v hv => by cases hv
      cl := fun p hp => by cases hp
      st := by show s.steps + 1 + ws P [] ≤ _; rw [e0, hlen]; simp only [List.map_nil, List.sum_nil]; omega
      lk := by show (s.look.map (ws P)).sum + links [] ≤ _; rw [e1, hmul]; simp only [List.map_nil, List.sum_nil]; omega
      ll := by show (s.look.map links).sum ≤ _; rw [hlen]; omega
      lo := by show _ ≤ s.steps + 1; rw [hlen]; have := h.lo; omega }
  · rw [if_neg k1]
    have ha := ok.a
    have hb := ok.b
    have hs1 : ∀ g : List Ru → Nat, ((lookM (tick s) u.a u).look.map g).sum + g (s.at u.a) = (s.look.map g).sum + g (s.at u.a ++ [u]) := fun g => sum_modify g s.look u.a.toNat _ (by rw [h.len]; omega)
    have hl1 : (lookM (tick s) u.a u).look.length = n := by simp [lookM, tick, h.len]
    by_cases k4 : u.kind = 4 ∧ u.b ≠ u.a
    · rw [if_pos k4]
      have hs2 : ∀ g : List Ru → Nat, ((lookM (lookM (tick s) u.a u) u.b u).look.map g).sum + g ((lookM (tick s) u.a u).at u.b) = ((lookM (tick s) u.a u).look.map g).sum + g ((lookM (tick s) u.a u).at u.b ++ [u]) := fun g => sum_modify g (lookM (tick s) u.a u).look u.b.toNat _ (by rw [hl1]; omega)
      have hw4 : wt P u = 1 := by unfold wt; rw [if_neg (by omega)]
      have hl4 : lw u = 0 := by unfold lw; rw [if_neg (by omega)]
      have at1 : ∀ j : Int, ∀ v ∈ s.at j, v ∈ (lookM (lookM (tick s) u.a u) u.b u).at j := fun j v hv => at_look_mem (at_look_mem hv)
      have ia : u ∈ (lookM (lookM (tick s) u.a u) u.b u).at u.a := at_look_mem (by
        show u ∈ (lookM (tick s) u.a u).at u.a
        rw [at_look (s := tick s) h.len ha u ha.1, if_pos rfl]; simp)
      have ib : u ∈ (lookM (lookM (tick s) u.a u) u.b u).at u.b := by
        rw [at_look hl1 hb u hb.1, if_pos rfl]; simp
      exact {
        pre := ⟨_, rfl⟩
        nd := h.nd
        rng := h.rng
        snd := h.snd
        len := by simp [lookM, tick, h.len]
        lok := fun i v hv => by
          have : v ∈ s.look.getD i [] ∨ v = u ∧ (u.a.toNat = i ∨ u.b.toNat = i) := by
            rcases mem_look hv with hv | ⟨rfl, e⟩
            · rcases mem_look hv with hv | ⟨rfl, e⟩
              · exact .inl hv
              · exact .inr ⟨rfl, .inl e⟩
            · exact .inr ⟨rfl, .inr e⟩
          rcases this with hv | ⟨rfl, e⟩
          · obtain ⟨a1, a2, a3, a4, a5⟩ := h.lok i v hv
            exact ⟨a1, a2, a3, a4, fun e => ⟨at1 _ _ (a5 e).1, at1 _ _ (a5 e).2⟩⟩
          · refine ⟨ok, k1, ?_, sound_mem hu, fun _ => ⟨ia, ib⟩⟩
            rcases e with e | e
            · exact .inl (by omega)
            · exact .inr ⟨k4.1, by omega⟩
        stat := fun v hv => by
          rw [List.mem_append, List.mem_singleton] at hv
          rcases hv with hv | rfl
          · exact ⟨(h.stat v hv).1, fun e => at1 _ _ ((h.stat v hv).2 e)⟩
          · exact ⟨fun e => absurd e k1, fun _ => ia⟩
        pd := fun v hv => by cases hv
        cl := fun p hp => by cases hp
        st := by show s.steps + 1 + ws P [] ≤ _; rw [e0, hlen]; simp only [List.map_nil, List.sum_nil]; omega
        lk := by
          have a1 := hs1 (ws P)
          have a2 := hs2 (ws P)
          rw [ws_app, hw4] at a1 a2
          rw [e1, hmul]; simp only [List.map_nil, List.sum_nil]; omega
        ll := by
          have a1 := hs1 links
          have a2 := hs2 links
          rw [links_app, hl4] at a1 a2
          rw [hlen]; omega
        lo := by show _ ≤ s.steps + 1; rw [hlen]; have := h.lo; omega }
    · rw [if_neg k4]
      have at1 : ∀ j : Int, ∀ v ∈ s.at j, v ∈ (lookM (tick s) u.a u).at j := fun j v hv => at_look_mem hv
      have ia : u ∈ (lookM (tick s) u.a u).at u.a := by
        rw [at_look (s := tick s) h.len ha u ha.1, if_pos rfl]; simp
      exact {
        pre := ⟨_, rfl⟩
        nd := h.nd
        rng := h.rng
        snd := h.snd
        len := hl1
        lok := fun i v hv => by
          rcases mem_look hv with hv | ⟨rfl, e⟩
          · obtain ⟨a1, a2, a3, a4, a5⟩ := h.lok i v hv
            exact ⟨a1, a2, a3, a4, fun e => ⟨at1 _ _ (a5 e).1, at1 _ _ (a5 e).2⟩⟩
          · refine ⟨ok, k1, .inl (by omega), sound_mem hu, fun e4 => ⟨ia, ?_⟩⟩
            have : v.b = v.a := Classical.byContradiction fun hne => k4 ⟨e4, hne⟩
            rw [this]
            exact ia
        stat := fun v hv => by
          rw [List.mem_append, List.mem_singleton] at hv
          rcases hv with hv | rfl
          · exact ⟨(h.stat v hv).1, fun e => at1 _ _ ((h.stat v hv).2 e)⟩
          · exact ⟨fun e => absurd e k1, fun _ => ia⟩
        pd := fun v hv => by cases hv
        cl := fun p hp => by cases hp
        st := by show s.steps + 1 + ws P [] ≤ _; rw [e0, hlen]; simp only [List.map_nil, List.sum_nil]; omega
        lk := by
          have a1 := hs1 (ws P)
          rw [ws_app] at a1
          rw [e1, hmul]; simp only [List.map_nil, List.sum_nil]; omega
        ll := by
          have a1 := hs1 links
          rw [links_app] at a1
          rw [hlen]; omega
        lo := by show _ ≤ s.steps + 1; rw [hlen]; have := h.lo; omega }
def takesM (n P : Nat) (s : Sm) (l : List Ru) : Sm := l.foldl (fun s u => takeM n P (tick s) u) s
theorem Inv.takes {n P K : Nat} {L : List Ru} {y : Int} : ∀ (l T : List Ru) (s : Sm), Inv n P K L T [] [] [] y s → (∀ u ∈ l, u ∈ L ∧ Ok n P K u) → Inv n P K L (T ++ l) [] [] [] y (takesM n P s l)
  | [], T, s, h, _ => by rw [List.append_nil]; exact h
  | u :: l, T, s, h, hl => by
    have := Inv.takes l (T ++ [u]) _ (h.take (hl u (by simp)).1 (hl u (by simp)).2) fun v hv => hl v (by simp [hv])
    rw [List.append_assoc] at this
    exact this
theorem sum_sub {α : Type} [DecidableEq α] (f : α → Nat) : ∀ (l m : List α), l.Nodup → (∀ x ∈ l, x ∈ m) → (l.map f).sum ≤ (m.map f).sum
  | [], m, _, _ => by simp
  | x :: l, m, hn, hs => by
    have hx := hs x (by simp)
    rw [List.nodup_cons] at hn
    have := sum_sub f l (m.erase x) hn.2 fun y hy => by
      have hne : y ≠ x := fun e => hn.1 (e ▸ hy)
      exact (List.mem_erase_of_ne hne).2 (hs y (by simp [hy]))
    have hp := ((List.perm_cons_erase hx).map f).sum_nat
    rw [hp, List.map_cons, List.map_cons, List.sum_cons, List.sum_cons]
    omega
def grid (n P : Nat) : List Pr := (List.range n).flatMap fun r : Nat => (List.range P).map fun x : Nat => ((r : Int), (x : Int))
theorem mem_grid {n P : Nat} {p : Pr} (h : mayB n P p.1 p.2 = true) : p ∈ grid n P := by
  obtain ⟨a, b, c, d⟩ := mayB_iff.1 h
  unfold grid
  rw [List.mem_flatMap]
  refine ⟨p.1.toNat, List.mem_range.2 (by omega), List.mem_map.2 ⟨p.2.toNat, List.mem_range.2 (by omega), ?_⟩⟩
  obtain ⟨x, y⟩ := p
  simp only at a c
  rw [Int.toNat_of_nonneg a, Int.toNat_of_nonneg c]
theorem grid_sum (g : Nat → Nat) (P : Nat) : ∀ n, ((grid n P).map fun p => g p.1.toNat).sum = P * ((List.range n).map g).sum
  | 0 => by simp [grid]
  | n + 1 => by
    have ih := grid_sum g P n
    have e : grid (n + 1) P = grid n P ++ (List.range P).map fun x : Nat => ((n : Int), (x : Int)) := by unfold grid; rw [List.range_succ, List.flatMap_append]; simp
    rw [e, List.map_append, List.sum_append, ih, List.range_succ, List.map_append, List.sum_append, Nat.mul_add, List.map_map]
    congr 1
    have : ((fun p : Pr => g p.1.toNat) ∘ fun x : Nat => ((n : Int), (x : Int))) = fun _ => g n := by funext x; simp
    rw [this]
    have h2 : ∀ P, ((List.range P).map fun _ => g n).sum = P * g n := fun P => by
      induction P with
      | zero => simp
      | succ k ih => rw [List.range_succ, List.map_append, List.sum_append, ih, Nat.add_mul]; simp
    rw [h2]
    simp
theorem range_look (g : List Ru → Nat) : ∀ (l : List (List Ru)), ((List.range l.length).map fun i => g (l.getD i [])).sum = (l.map g).sum
  | [] => by simp
  | x :: l => by
    have := range_look g l
    rw [List.length_cons, List.range_succ_eq_map, List.map_cons, List.sum_cons, List.map_map]
    simp only [List.getD_cons_zero, List.map_cons, List.sum_cons]
    have e : ((fun i => g ((x :: l).getD i [])) ∘ Nat.succ) = fun i => g (l.getD i []) := by funext i; simp
    rw [e, this]
theorem hist_sum {n P K : Nat} {L T : List Ru} {hist : List Pr} {pend cp : List Ru} {y : Int} {s : Sm} (h : Inv n P K L T hist pend cp y s) (g : List Ru → Nat) : (hist.map fun p => g (s.at p.1)).sum ≤ P * (s.look.map g).sum := by
  have hnd : hist.Nodup := h.pre.sublist.nodup h.nd
  have h1 := sum_sub (fun p : Pr => g (s.at p.1)) hist (grid n P) hnd fun p hp => mem_grid (h.rng p (pre_mem h.pre hp))
  have h2 := grid_sum (fun i => g (s.look.getD i [])) P n
  have h3 := range_look g s.look
  rw [h.len] at h3
  rw [h3] at h2
  exact Nat.le_trans h1 (Nat.le_of_eq h2)
theorem grid_len (n P : Nat) : (grid n P).length = P * n := by
  have := grid_sum (fun _ => 1) P n
  have e1 : ∀ {α : Type} (l : List α), (l.map fun _ => 1).sum = l.length := fun l => by
    induction l with
    | nil => rfl
    | cons x l ih => simp only [List.map_cons, List.sum_cons, List.length_cons, ih]; omega
  rw [e1, e1, List.length_range] at this
  exact this
theorem all_len {n P K : Nat} {L T : List Ru} {hist : List Pr} {pend cp : List Ru} {y : Int} {s : Sm} (h : Inv n P K L T hist pend cp y s) : s.all.length ≤ P * n := by
  have h1 := sum_sub (fun _ : Pr => 1) s.all (grid n P) h.nd fun p hp => mem_grid (h.rng p hp)
  have e1 : ∀ {α : Type} (l : List α), (l.map fun _ => 1).sum = l.length := fun l => by
    induction l with
    | nil => rfl
    | cons x l ih => simp only [List.map_cons, List.sum_cons, List.length_cons, ih]; omega
  rw [e1, e1, grid_len] at h1
  exact h1
/-- How often the loops went round, at most. -/
theorem Inv.bound {n P K : Nat} {L T : List Ru} {hist : List Pr} {pend cp : List Ru} {y : Int} {s : Sm} (hn : n = P * K) (h : Inv n P K L T hist pend cp y s) : s.steps ≤ T.length + P * (P * K + T.length * (2 + 2 * P)) := by
  have h1 := h.st
  have h2 := h.lk
  have h3 := h.ll
  have s1 : (hist.map fun p => 1 + ws P (s.at p.1)).sum ≤ P * (s.look.map fun l => 1 + ws P l).sum := hist_sum h (fun l => 1 + ws P l)
  have s2 := hist_sum h links
  have s3 : ∀ l : List (List Ru), (l.map fun l => 1 + ws P l).sum = l.length + (l.map (ws P)).sum := fun l => by
    induction l with
    | nil => rfl
    | cons x l ih => simp only [List.map_cons, List.sum_cons, List.length_cons, ih]; omega
  rw [s3, h.len] at s1
  have m1 : P * (s.look.map links).sum ≤ P * T.length := Nat.mul_le_mul_left _ h3
  have m2 : (s.look.map (ws P)).sum ≤ T.length * (2 + P) + P * T.length := by omega
  have m3 : T.length * (2 + 2 * P) = T.length * (2 + P) + P * T.length := by
    rw [Nat.mul_comm P T.length, ← Nat.mul_add]
    congr 1
    omega
  have m4 : P * (n + (s.look.map (ws P)).sum) ≤ P * (P * K + T.length * (2 + 2 * P)) := Nat.mul_le_mul_left _ (by rw [m3, hn]; omega)
  omega
theorem len_ws (P : Nat) (l : List Ru) : l.length ≤ ws P l := by
  induction l with
  | nil => simp [ws]
  | cons u l ih =>
    have : ws P (u :: l) = wt P u + ws P l := by unfold ws; simp
    rw [this, List.length_cons]
    have : 1 ≤ wt P u := by unfold wt; split <;> omega
    omega
theorem getD_sum (g : List Ru → Nat) (h0 : g [] = 0) : ∀ (l : List (List Ru)) (i : Nat), g (l.getD i []) ≤ (l.map g).sum
  | [], i => by simp [h0]
  | x :: l, 0 => by simp
  | x :: l, i + 1 => by
    have := getD_sum g h0 l i
    simp only [List.getD_cons_succ, List.map_cons, List.sum_cons]
    omega
theorem Inv.look_len {n P K : Nat} {L T : List Ru} {hist : List Pr} {pend cp : List Ru} {y : Int} {s : Sm} (h : Inv n P K L T hist pend cp y s) (i : Nat) : (s.look.getD i []).length ≤ T.length * (2 + 2 * P) := by
  have h2 := h.lk
  have h3 := h.ll
  have s2 := hist_sum h links
  have m1 : P * (s.look.map links).sum ≤ P * T.length := Nat.mul_le_mul_left _ h3
  have m3 : T.length * (2 + 2 * P) = T.length * (2 + P) + P * T.length := by
    rw [Nat.mul_comm P T.length, ← Nat.mul_add]
    congr 1
    omega
  have a1 := len_ws P (s.look.getD i [])
  have a2 := getD_sum (ws P) rfl s.look i
  omega
theorem bound_le (P K N : Nat) : N + P * (P * K + N * (2 + 2 * P)) ≤ 4 * (P + 1) * (P + 1) * (P + 1) * (K + 1) * (K + 1) * (N + 1) := by
  obtain ⟨A, hA⟩ : ∃ A, A = P + 1 := ⟨_, rfl⟩
  obtain ⟨B, hB⟩ : ∃ B, B = K + 1 := ⟨_, rfl⟩
  rw [← hA, ← hB]
  have b1 : 1 ≤ B * B := Nat.mul_pos (by omega) (by omega)
  have c1 : P * (P * K) ≤ A * A * A * (B * B) := by
    have : P * (P * K) = P * P * K := by rw [Nat.mul_assoc]
    rw [this]
    have h1 : P * P * K ≤ A * A * B := Nat.mul_le_mul (Nat.mul_le_mul (by omega) (by omega)) (by omega)
    have h2 : A * A * B ≤ A * A * A * (B * B) := Nat.mul_le_mul (Nat.le_mul_of_pos_right _ (by omega)) (Nat.le_mul_of_pos_right _ (by omega))
    omega
  have c2 : 1 + P * (2 + 2 * P) ≤ 4 * (A * A * A * (B * B)) := by
    have h1 : P * (2 + 2 * P) ≤ 2 * (A * A) := by
      have : 2 + 2 * P = 2 * A := by omega
      rw [this, Nat.mul_left_comm]
      exact Nat.mul_le_mul_left _ (Nat.mul_le_mul_right _ (by omega))
    have h2 : A * A ≤ A * A * A * (B * B) := Nat.le_trans (Nat.le_mul_of_pos_right _ (by omega)) (Nat.le_mul_of_pos_right _ b1)
    have h3 : 1 ≤ A * A := Nat.mul_pos (by omega) (by omega)
    omega
  have c3 : N * (1 + P * (2 + 2 * P)) ≤ N * (4 * (A * A * A * (B * B))) := Nat.mul_le_mul_left _ c2
  have e1 : N + P * (P * K + N * (2 + 2 * P)) = P * (P * K) + N * (1 + P * (2 + 2 * P)) := by
    have : P * (N * (2 + 2 * P)) = N * (P * (2 + 2 * P)) := Nat.mul_left_comm _ _ _
    rw [Nat.mul_add, this, Nat.mul_add N 1, Nat.mul_one]
    omega
  have e2 : 4 * A * A * A * B * B * (N + 1) = N * (4 * (A * A * A * (B * B))) + 4 * (A * A * A * (B * B)) := by
    rw [Nat.mul_add, Nat.mul_one, Nat.mul_comm _ N]
    simp only [Nat.mul_assoc]
  rw [e1, e2]
  omega
end Go.Proofs.YtccmlmahjgndbaaDoor.SemA
/- The document's family of pairs: New, Has, Inside, Meets, by contract. -/
namespace Go.Proofs.YtccmlmahjgndbaaDoor.SetQ
set_option linter.unusedVariables false
set_option linter.unusedSimpArgs false
open Go.RowKit Go.Lib Go.Proofs Go.Proofs.YtccmlmahjgndbaaDoor.SetPop Go.Proofs.YtccmlmahjgndbaaDoor.SetA Go.Proofs.YtccmlmahjgndbaaDoor.SetB Go.Proofs.YtccmlmahjgndbaaDoor.SetF Go.Proofs.YtccmlmahjgndbaaDoor.SetN
set_option linter.unusedVariables false
set_option linter.unusedSimpArgs false
/-- Pairs as cells. -/
def encP : List (Int × Int) → List Value
  | [] => []
  | p :: l => .int .i64 p.1 :: .int .i64 p.2 :: encP l
theorem encP_len : ∀ l, (encP l).length = l.length * 2
  | [] => rfl
  | p :: l => by simp [encP, encP_len l]; omega
theorem encP_app : ∀ l k, encP (l ++ k) = encP l ++ encP k
  | [], _ => rfl
  | p :: l, k => by simp [encP, encP_app l k]
theorem encP_at : ∀ (l : List (Int × Int)) (j : Nat) (h : j < l.length), (encP l)[j * 2]? = some (.int .i64 l[j].1) ∧ (encP l)[j * 2 + 1]? = some (.int .i64 l[j].2)
  | [], _, h => absurd h (Nat.not_lt_zero _)
  | p :: l, 0, _ => ⟨rfl, rfl⟩
  | p :: l, j + 1, h => by
    have := encP_at l j (by simpa using h)
    have e : (j + 1) * 2 = j * 2 + 1 + 1 := by omega
    rw [e]
    simpa [encP] using this
theorem prG_own {w : World} {B : Nat} {v : Value} {L : List (Int × Int)} {t : TypeId} (h : w.ownsRow B t 2 v L.length (encP L)) : ∃ A ca, v = .slice A L.length ca ∧ PrG w A L := by
  have h0 := h
  rcases h.2 with ⟨rfl, hn⟩ | ⟨g, cap, cur, rfl, hb, hg, _⟩
  · exact ⟨none, 0, by rw [hn], fun hp => by omega⟩
  · refine ⟨_, cap, rfl, fun hp => ⟨g, 0, rfl, (Array.getElem?_eq_some_iff.1 hg).1, fun j hj => ?_⟩⟩
    have k := h0.cells (g := g) rfl
    obtain ⟨a, b⟩ := encP_at L j hj
    have e : ∀ i, ((⟨g, 0, none⟩ : Addr).add i) = ⟨g, i, none⟩ := fun i => by unfold Addr.add; split <;> simp_all
    have k1 := k _ _ a
    have k2 := k _ _ b
    rw [e] at k1 k2
    rw [Nat.zero_add]
    exact ⟨k1, k2⟩
def BoolPost (b : Bool) (w : World) (e : Ending) (w' : World) : Prop := e = .returned (.bool b) ∧ Below w.heap.size w w'
end Go.Proofs.YtccmlmahjgndbaaDoor.SetQ
/- The list of a set, by contract. -/
namespace Go.Proofs.YtccmlmahjgndbaaDoor.SetJ
set_option linter.unusedVariables false
set_option linter.unusedSimpArgs false
open Go.RowKit Go.Lib Go.Proofs Go.Proofs.YtccmlmahjgndbaaDoor.SetPop Go.Proofs.YtccmlmahjgndbaaDoor.SetA Go.Proofs.YtccmlmahjgndbaaDoor.SetB Go.Proofs.YtccmlmahjgndbaaDoor.SetC Go.Proofs.YtccmlmahjgndbaaDoor.SetD Go.Proofs.YtccmlmahjgndbaaDoor.SetM
set_option linter.unusedVariables false
set_option linter.unusedSimpArgs false
/-- Numbers as cells. -/
def encK (l : List Nat) : List Value := l.map fun n : Nat => Value.int .i64 n
theorem encK_snoc (l : List Nat) (n : Nat) : encK (l ++ [n]) = encK l ++ [.int .i64 n] := by unfold encK; simp
theorem encK_len (l : List Nat) : (encK l).length = l.length := by unfold encK; simp
/-- The library's table stands as it is laid. -/
def Tab (w : World) : Prop := ∀ j, j < 64 → w.cell? ⟨0, j, none⟩ = some (.int .u8 (deBruijn64tab.getD j 0 : Nat))
theorem Tab.below {w w' : World} (h : Tab w) (hb : Below w.heap.size w w') : Tab w' := fun j hj =>
  (hb.cell (World.block_lt_of_cell? _ _ (h j hj))).trans (h j hj)
set_option maxRecDepth 100000 in
theorem tz_core (x k idx : Nat) (w : World) (hx0 : ((x : Int) == 0) = false)
    (key : IntKind.u64.wrap (bits BinOp.and IntKind.u64 (x : Int) (IntKind.u64.wrap (-(x : Int))) * 285870213051353865) / 288230376151711744 = (idx : Int))
    (hi : idx < 64) (hk : k < 64) (hcell : w.cell? ⟨0, idx, none⟩ = some (.int .u8 k)) :
    Calls Tryd.prog 48 #[.int .u64 x] w fun e w' => e = .returned (.int .i64 k) ∧ w = w' := by
  go_enter Tryd.func48, Tryd.ntmps48
  go_wp2_with (simp only [key])
  go_ret
  exact ⟨rfl, rfl⟩
theorem tz (x : Nat) (h0 : x ≠ 0) (h : x < 18446744073709551616) (w : World) (hT : Tab w) : Calls Tryd.prog 48 #[.int .u64 x] w fun e w' => e = .returned (.int .i64 (ctz 64 x)) ∧ w = w' := by
  obtain ⟨hlow, hk⟩ := lowest_bit 64 x h0 h
  obtain ⟨hi, htab⟩ := deBruijn64_at _ hk
  have hcell := hT _ hi
  rw [htab] at hcell
  exact tz_core x _ _ w (by simp; omega) (tz64_key x _ h h0 hlow) hi hk hcell
theorem infoInt : (Tryd.prog.info? 3).map (fun i => (i.zero, i.size, i.bytes)) = some (some (.int .i64 0), 1, 8) := by kernel_rfl
theorem new_cell1 (w : World) (a : Value) (t : TypeId) : ∀ j u, [a][j]? = some u → (w.alloc (.cells #[a] t)).cell? ((⟨w.heap.size, 0, none⟩ : Addr).add j) = some u := by
  intro j u hu
  have h : (w.alloc (.cells #[a] t)).cell? ⟨w.heap.size, j, none⟩ = #[a][j]? := Lib.cell_of_heap (heap_alloc_new w _) j
  have e : ((⟨w.heap.size, 0, none⟩ : Addr).add j) = ⟨w.heap.size, j, none⟩ := by
    unfold Addr.add
    split
    · rename_i h0; rw [h0]
    · simp
  rw [e, h, ← hu]
  simp
theorem below_own {a w w1 : World} {e : TypeId} {size n : Nat} {v : Value} {xs : List Value} {o : Obj} (hb : Below a.heap.size a w) (hown : w.ownsRow a.heap.size e size v n xs) (hg : (w.alloc o).grownBy w1 v.ownBlock) : Below a.heap.size a w1 :=
  (hb.alloc hb.size o).grown hg (by have := hb.size; simp; omega) (fun k hk => (hown.lt k hk).1)
theorem and_key (x : Nat) (h0 : x ≠ 0) (h : x < 18446744073709551616) : bits BinOp.and IntKind.u64 (x : Int) ((x : Int) - 1) = ((x &&& (x - 1) : Nat) : Int) := by
  have e1 : ((x : Int) - 1) = ((x - 1 : Nat) : Int) := by omega
  rw [e1]
  exact bits_and_u64_nat x (x - 1) h (by omega)
def ListPost (L : List Nat) (w : World) (e : Ending) (w' : World) : Prop := ∃ v, e = .returned v ∧ w'.ownsRow w.heap.size 3 1 v L.length (encK L) ∧ Below w.heap.size w w'
theorem nums_le {T L R : List Nat} {k : Nat} (h : L ++ R = numsOf T k) : L.length + R.length ≤ k * 64 := by
  have e : (numsOf T k).length ≤ k * 64 := by
    rw [numsOf_eq]
    refine Nat.le_trans (List.length_filter_le _ _) ?_
    simp
  rw [← h, List.length_append] at e
  exact e
set_option maxHeartbeats 1000000 in
set_option maxRecDepth 100000 in
theorem list_at (v : Value) (T : List Nat) (r : Int) (w : World) (hl : T.length = 16) (hs : ∀ x ∈ T, x < 18446744073709551616) (hT : Tab w) (ha : Calls Tryd.prog 47 #[v, .int .i64 r] w fun e w' => e = .returned (.agg (encM T)) ∧ Below w.heap.size w w') : Calls Tryd.prog 27 #[v, .int .i64 r] w (ListPost (numsOf T 16) w) := by
  have HA := Lib.hid ha
  clear ha
  have HI := Lib.hid (fun k hk w => idx T k hl hk w)
  have HS := Lib.hid (fun k (hk : k < 16) => (show T.getD k 0 < 18446744073709551616 from by
    rw [List.getD_eq_getElem?_getD, List.getElem?_eq_getElem (by omega)]
    exact hs _ (List.getElem_mem _)))
  have HN := Lib.hid (numsOf_succ T)
  have HT := Lib.hid (fun (wr : World) (hb : Below w.heap.size w wr) => hT.below hb)
  have HLE := Lib.hid (fun k (L R : List Nat) (h : L ++ R = numsOf T k) => nums_le h)
  have H0 : Hid (numsOf T 0 = []) := Lib.hid rfl
  have HTZ := Lib.hid tz
  have HLW := Lib.hid low
  clear hs hl hT
  obtain ⟨i0, hi, hz0, hz1, hz2⟩ := info_parts infoInt
  go_enter Tryd.func27, Tryd.ntmps27
  go_wp2_with fail
  refine HA.out.mono ?_
  rintro e w1 ⟨rfl, hb⟩
  have HB := Lib.hid hb
  clear hb
  go_wp2_with fail
  generalize encM T = E at *
  generalize hF : numsOf T = F at *
  go_loopw [5, 11] (fun l i wr => ∃ (k : Nat) (L : List Nat), k ≤ 16 ∧ i = .int .i64 k ∧ Hid (L = F k) ∧ wr.ownsRow w.heap.size 3 1 l L.length (encK L) ∧ Below w.heap.size w wr) (fun _ i _ => 16 - (intOf i).toNat)
  case atStart => exact ⟨0, [], by omega, rfl, Lib.hid H0.out.symm, World.ownsRow_nil _ _ _ _, HB.out⟩
  case round =>
    obtain ⟨k, L, hk, rfl, hLF, hown, hbel⟩ := hrel
    by_cases hlt : k < 16
    · have hi1 := HI.out k hlt
      have d1 : decide ((k : Int) < 16) = true := by simp; omega
      have hx := HS.out k hlt
      have hN := HN.out k
      generalize T.getD k 0 = x0 at *
      have HX := Lib.hid (And.intro hLF.out hN)
      have HO := Lib.hid hown
      have HB1 := Lib.hid hbel
      clear hLF hN hown hbel
      go_wp2_with fail
      go_loopw [5, 7] (fun l y wr => ∃ (L : List Nat) (x : Nat), y = .int .u64 x ∧ x < 18446744073709551616 ∧ Hid (L ++ (bitsOf x).map (k * 64 + ·) = F (k + 1)) ∧ wr.ownsRow w.heap.size 3 1 l L.length (encK L) ∧ Below w.heap.size w wr) (fun _ y _ => (intOf y).toNat)
      case atStart => exact ⟨L, x0, rfl, hx, Lib.hid (by rw [HX.out.2, HX.out.1]), HO.out, HB1.out⟩
      case round =>
        clear HO HB1 HX
        obtain ⟨L1, x, rfl, hx1, hLF, hown, hbel⟩ := hrel
        by_cases hx0 : x = 0
        · subst hx0
          have hF1 : Hid (L1 = F (k + 1)) := Lib.hid (by rw [← hLF.out, bitsOf_zero]; simp)
          clear hLF
          have HO := Lib.hid hown
          have HB1 := Lib.hid hbel
          clear hown hbel
          go_wp2_with fail
          go_roundw
          case rel => exact ⟨k + 1, L1, by omega, by go_num, hF1, HO.out, HB1.out⟩
          case measure => simp [intOf]; omega
        · have HZ := Lib.hid (HTZ.out x hx0 hx1 _ (HT.out _ hbel))
          obtain ⟨hj, _, _, _⟩ := HLW.out x hx0 hx1
          have hkey := and_key x hx0 hx1
          have hst := bitsOf_step x hx0 hx1
          have hlt2 := and_less x hx0
          have hle : Hid (L1.length + (bitsOf x).length ≤ (k + 1) * 64) := Lib.hid (by have := HLE.out (k + 1) L1 _ hLF.out; simpa using this)
          have hln : L1.length ≤ 1024 := by have := hle.out; omega
          have hn0 : ((x : Int) != 0) = true := by simp; omega
          rw [hst] at hLF
          have HLF := Lib.hid hLF.out
          have HLT := Lib.hid (And.intro hlt2 (and_small x hx1))
          clear hLF hst hle hlt2
          generalize ctz 64 x = j at *
          generalize hy : (x &&& (x - 1)) = y at *
          clear hy
          go_wp2_with (first | ((with_reducible refine HZ.out.mono ?_); rintro e w' ⟨rfl, rfl⟩) | (at_builtin; refine wpList_append_own _ rfl _ _ 37 rfl w.heap.size 3 i0 (.int .i64 0) 1 8 Tryd.underlying37 hi hz0 hz1 hz2 rfl (by decide) _ _ _ rfl (hown.alloc _) ⟨wr.heap.size, 0, none⟩ 1 1 [.int .i64 ((k : Int) * 64 + (j : Int))] rfl rfl ?c1 ?c2 ?c3 ?c4 ?c5 ?_) | (simp only [hkey]))
          case c1 => exact new_cell1 _ _ _
          case c2 => intro u hu; simp at hu; subst hu; rfl
          case c3 => unfold maxLen; omega
          case c4 => omega
          case c5 => have := hbel.size; simp; omega
          intro v' w2 hown' hgrow _
          have hown2 : w2.ownsRow w.heap.size 3 1 v' (L1 ++ [k * 64 + j]).length (encK (L1 ++ [k * 64 + j])) := by
            rw [encK_snoc, List.length_append]
            have e1 : (((k * 64 + j : Nat)) : Int) = (k : Int) * 64 + j := by simp
            rw [e1]
            simpa using hown'
          have hbel2 := below_own hbel hown hgrow
          clear hown' hown hbel hgrow HZ
          go_wp2_with fail
          try rw [hkey]
          go_roundw
          case rel => exact ⟨L1 ++ [k * 64 + j], y, rfl, HLT.out.2, Lib.hid (by rw [← HLF.out]; simp), hown2, hbel2⟩
          case measure => have := HLT.out.1; simp [intOf]; omega
    · have hk16 : k = 16 := by omega
      subst hk16
      have hL : L = F 16 := hLF.out
      subst hL
      have HO := Lib.hid hown
      have HB1 := Lib.hid hbel
      clear hown hbel hLF
      go_wp2_with fail
      go_ret
      exact ⟨_, rfl, HO.out, HB1.out⟩
end Go.Proofs.YtccmlmahjgndbaaDoor.SetJ
/- The document's family of pairs: List, Add and the comparison of two lists, by contract. -/
namespace Go.Proofs.YtccmlmahjgndbaaDoor.SetR
set_option linter.unusedVariables false
set_option linter.unusedSimpArgs false
open Go.RowKit Go.Lib Go.Proofs Go.Proofs.YtccmlmahjgndbaaDoor.SetPop Go.Proofs.YtccmlmahjgndbaaDoor.SetA Go.Proofs.YtccmlmahjgndbaaDoor.SetB Go.Proofs.YtccmlmahjgndbaaDoor.SetF Go.Proofs.YtccmlmahjgndbaaDoor.SetJ Go.Proofs.YtccmlmahjgndbaaDoor.SetN Go.Proofs.YtccmlmahjgndbaaDoor.SetQ
set_option linter.unusedVariables false
set_option linter.unusedSimpArgs false
theorem own_below {w w' : World} {B n : Nat} {e : TypeId} {k : Nat} {v : Value} {xs : List Value} (h : w.ownsRow B e k v n xs) (hb : Below w.heap.size w w') : w'.ownsRow B e k v n xs :=
  h.kept (World.grownBy.mk hb.os hb.tape hb.output hb.size (fun k hk _ => hb.block k hk) : w.grownBy w' none) (by cases hv : v.ownBlock <;> simp)
/-- A slice value that reads as numbers, wherever it lies. -/
def NG (w : World) (A : Option Addr) (L : List Nat) : Prop :=
  0 < L.length → ∃ g o, A = some ⟨g, o, none⟩ ∧ g < w.heap.size ∧ ∀ j, (h : j < L.length) → w.cell? ⟨g, o + j, none⟩ = some (.int .i64 L[j])
theorem NG.below {w w' : World} {A : Option Addr} {L : List Nat} (h : NG w A L) (hb : Below w.heap.size w w') : NG w' A L := fun hp => by
  obtain ⟨g, o, hA, hg, hc⟩ := h hp
  exact ⟨g, o, hA, Nat.lt_of_lt_of_le hg hb.size, fun j hj => (hb.cell (p := ⟨g, o + j, none⟩) hg).trans (hc j hj)⟩
theorem ng_own {w : World} {B : Nat} {v : Value} {L : List Nat} {t : TypeId} (h : w.ownsRow B t 1 v L.length (encK L)) : ∃ A ca, v = .slice A L.length ca ∧ NG w A L := by
  have h0 := h
  rcases h.2 with ⟨rfl, hn⟩ | ⟨g, cap, cur, rfl, hb, hg, _⟩
  · exact ⟨none, 0, by rw [hn], fun hp => by omega⟩
  · refine ⟨_, cap, rfl, fun hp => ⟨g, 0, rfl, (Array.getElem?_eq_some_iff.1 hg).1, fun j hj => ?_⟩⟩
    have k := h0.cells (g := g) rfl j (.int .i64 L[j]) (by unfold encK; simp [List.getElem?_eq_getElem hj])
    have e : ((⟨g, 0, none⟩ : Addr).add j) = ⟨g, j, none⟩ := by unfold Addr.add; split <;> simp_all
    rw [e] at k
    rw [Nat.zero_add]
    exact k
set_option maxHeartbeats 1000000 in
set_option maxRecDepth 100000 in
theorem sameL (A B : Option Addr) (ca cb : Nat) (L : List Nat) (w : World) (hL : L.length ≤ 10000) (hA : NG w A L) (hB : NG w B L) : Calls Tryd.prog 11 #[.slice A L.length ca, .slice B L.length cb] w (BoolPost true w) := by
  unfold BoolPost
  have HA := Lib.hid hA
  have HB := Lib.hid hB
  clear hA hB
  go_enter Tryd.func11, Tryd.ntmps11
  go_wp2_with fail
  go_loopw [13] (fun i wr => ∃ j : Nat, j ≤ L.length ∧ i = .int .i64 j ∧ Below w.heap.size w wr) (fun i _ => L.length - (intOf i).toNat)
  case atStart => exact ⟨0, by omega, rfl, Below.refl _ _⟩
  case round =>
    obtain ⟨j, hj, rfl, hb⟩ := hrel
    by_cases hlt : j < L.length
    · have d1 : decide ((j : Int) < L.length) = true := by simp; omega
      have p0 : (0 : Int) ≤ j := by omega
      have p1 : (j : Int) < L.length := by omega
      obtain ⟨g, o, rfl, hg, hcell⟩ := (HA.out.below hb) (by omega)
      obtain ⟨g2, o2, rfl, hg2, hcell2⟩ := (HB.out.below hb) (by omega)
      have a1 := hcell j hlt
      have a2 := hcell2 j hlt
      have HBk := Lib.hid hb
      clear hcell hcell2 hb
      generalize L[j] = x at *
      have e1 : ((x : Int) != (x : Int)) = false := by simp
      go_wp2_with fail
      go_quiet (fail)
      go_wp2_with fail
      go_roundw
      case rel => exact ⟨j + 1, by omega, by go_num, below_drewN HBk.out _⟩
      case measure => simp [intOf]; omega
    · have d1 : decide ((j : Int) < L.length) = false := by simp; omega
      have HBk := Lib.hid hb
      clear hb
      go_wp2_with fail
      go_ret
      exact ⟨rfl, HBk.out⟩
def NumPost (L : List Nat) (w : World) (e : Ending) (w' : World) : Prop := ∃ v, e = .returned v ∧ w'.ownsRow w.heap.size 3 1 v L.length (encK L) ∧ Below w.heap.size w w'
theorem listL_succ (j : Nat) (L : List (Int × Int)) (r : Int) : listL (j + 1) L r = if hasL L r j then listL j L r ++ [j] else listL j L r := by
  unfold listL
  rw [List.range_succ, List.filter_append]
  cases h : hasL L r j <;> simp [h]
/-- The block of a row that was appended to: the old one, or one that is new. -/
def Moves (w : World) (b b' : Option Nat) : Prop := b' = b ∨ ∃ g, b' = some g ∧ w.heap.size ≤ g
section
variable {P : Program} (w : World)
theorem wpList_append_at {ops : Array Oper} {rest : List Oper} {o : Oper} {a : Act} {Q : Exit → Act → World → Prop} (hgd : o.guard = none) (s x : Operand) (t : TypeId)
    (ho : o.op = .call { callee := .builtin .append, args := #[s, x], argTypes := #[t, t] })
    (base : Nat) (e : TypeId) (i : TypeInfo) (z : Value) (size bytes : Nat) (ht : P.underlying t = some (.slice e)) (hi : P.info? e = some i) (hz : i.zero = some z)
    (hsize : i.size = size) (hby : i.bytes = bytes) (hzs : z.cells.size = size) (hsz : 0 < size) (v : Value) (n : Nat) (xs : List Value) (hs : a.eval s = v) (hown : w.ownsRow base e size v n xs)
    (ad : Addr) (m c : Nat) (news : List Value) (hx : a.eval x = .slice (some ad) m c) (hlen : news.length = m * size) (hA : ∀ ad', some ad = some ad' → ∀ j u, news[j]? = some u → w.cell? (ad'.add j) = some u) (h1 : ∀ u ∈ news, u.oneCell' = true)
    (h63 : n + m ≤ maxLen) (hbytes : (n + m) * bytes ≤ 140737488355328) (hbase : base ≤ w.heap.size)
    (h : ∀ v' w', w'.ownsRow base e size v' (n + m) (xs ++ news) → w.grownBy w' v.ownBlock → Moves w v.ownBlock v'.ownBlock → wpList P ops Q rest (a.put o.dst v') w') : wpList P ops Q (o :: rest) a w := by
  obtain ⟨v', w', hrun, h2, h3, _, h5⟩ := run_append_own_at (P := P) w base t o.type e i z size bytes ht hi hz hsize hby hzs hsz v n xs hown ad m c news hlen (hA ad rfl) h1 h63 hbytes hbase
  refine Lib.wpList_append_run w hgd s x t t ho v _ hs hx v' w' hrun (h v' w' h2 h3 ?_)
  rcases h5 with h | h
  · exact .inl h
  · exact .inr ⟨_, h, Nat.le_refl _⟩
end
theorem infoPair : (Tryd.prog.info? 22).map (fun i => (i.zero, i.size, i.bytes)) = some (some (.agg #[.int .i64 0, .int .i64 0]), 2, 16) := by kernel_rfl
end Go.Proofs.YtccmlmahjgndbaaDoor.SetR
/- Whether numbers are within a bound (below), by contract. -/
namespace Go.Proofs.YtccmlmahjgndbaaDoor.TblB
set_option linter.unusedVariables false
set_option linter.unusedSimpArgs false
open Go.RowKit Go.Lib Go.Proofs Go.Proofs.YtccmlmahjgndbaaDoor.Plain
set_option linter.unusedVariables false
set_option linter.unusedSimpArgs false
/-- A slice value that reads as numbers, wherever it lies. -/
def IG (w : World) (A : Option Addr) (zs : List Int) : Prop :=
  0 < zs.length → ∃ g o, A = some ⟨g, o, none⟩ ∧ g < w.heap.size ∧ ∀ j, (h : j < zs.length) → w.cell? ⟨g, o + j, none⟩ = some (.int .i64 zs[j])
theorem IG.below {w w' : World} {A : Option Addr} {zs : List Int} (h : IG w A zs) (hb : RowKit.Below w.heap.size w w') : IG w' A zs := fun hp => by
  obtain ⟨g, o, hA, hg, hc⟩ := h hp
  exact ⟨g, o, hA, Nat.lt_of_lt_of_le hg hb.size, fun j hj => (hb.cell (p := ⟨g, o + j, none⟩) hg).trans (hc j hj)⟩
theorem IG.lit (X : World) (g : Nat) (zs : List Int) (t : TypeId) (hg : X.heap[g]? = some (.cells (zs.map fun z => Value.int .i64 z).toArray t (0, 0))) : IG X (some ⟨g, 0, none⟩) zs := fun _ => by
  refine ⟨g, 0, rfl, (Array.getElem?_eq_some_iff.1 hg).1, fun j hj => ?_⟩
  rw [Lib.cell_of_heap hg, Nat.zero_add]
  simp [hj]
def inB (n z : Int) : Bool := decide (0 ≤ z ∧ z < n)
def allB (n : Int) (zs : List Int) : Bool := zs.all (inB n)
section
set_option maxRecDepth 100000
theorem fnB (z n : Int) (b : Nat) (w : World) (hb : w.cell? ⟨b, 0, none⟩ = some (.int .i64 n)) :
    Calls Tryd.prog 60 #[.int .i64 z, .pointer (some ⟨b, 0, none⟩)] w fun e w' => e = .returned (.bool (!inB n z)) ∧ w = w' := by
  by_cases h0 : z < 0
  · have hf : inB n z = false := decide_eq_false (by omega)
    rw [hf]
    clear hf
    go_enter Tryd.func60, Tryd.ntmps60
    go_wp2
    go_ret
    exact ⟨rfl, rfl⟩
  · by_cases h1 : n ≤ z
    · have hf : inB n z = false := decide_eq_false (by omega)
      rw [hf]
      clear hf
      go_enter Tryd.func60, Tryd.ntmps60
      go_wp2
      go_ret
      exact ⟨rfl, rfl⟩
    · have hf : inB n z = true := decide_eq_true (by omega)
      rw [hf]
      clear hf
      go_enter Tryd.func60, Tryd.ntmps60
      go_wp2
      go_ret
      exact ⟨rfl, rfl⟩
theorem all_no {n : Int} {zs : List Int} {k : Nat} (h : k < zs.length) (hk : inB n zs[k] = false) : allB n zs = false := by
  unfold allB
  rw [List.all_eq_false]
  exact ⟨zs[k], List.getElem_mem _, by simp [hk]⟩
theorem all_yes {n : Int} {zs : List Int} (h : ∀ k, (hk : k < zs.length) → inB n zs[k] = true) : allB n zs = true := by
  unfold allB
  rw [List.all_eq_true]
  intro x hx
  obtain ⟨k, hk, rfl⟩ := List.getElem_of_mem hx
  exact h k hk
theorem idxB (A : Option Addr) (ca : Nat) (zs : List Int) (n : Int) (b : Nat) (w : World) (hT : zs.length ≤ 10000) (hA : IG w A zs) (hb : w.cell? ⟨b, 0, none⟩ = some (.int .i64 n)) :
    Calls Tryd.prog 61 #[.slice A zs.length ca, .func (.func 60) #[] #[.pointer (some ⟨b, 0, none⟩)]] w fun e w' => ∃ r : Int, e = .returned (.int .i64 r) ∧ decide (0 ≤ r) = !allB n zs ∧ w = w' := by
  have HA := Lib.hid hA
  have HB := Lib.hid hb
  clear hA hb
  go_enter Tryd.func61, Tryd.ntmps61
  go_wp2_with fail
  go_loop [8] (fun i => ∃ k : Nat, k ≤ zs.length ∧ i = .int .i64 k ∧ Hid (∀ j, j < k → (h : j < zs.length) → inB n zs[j] = true)) (fun i => zs.length - (intOf i).toNat)
  case atStart => exact ⟨0, by omega, rfl, Lib.hid (fun j hj => by omega)⟩
  case round =>
    obtain ⟨k, hk, rfl, hall⟩ := hrel
    by_cases hlt : k < zs.length
    · obtain ⟨g, o, rfl, hg, hc⟩ := HA.out (by omega)
      have a0 := hc k hlt
      have H := Lib.hid (fnB zs[k] n b w HB.out)
      have p1 : (0 : Int) ≤ k := by omega
      have p2 : (k : Int) < zs.length := by omega
      clear hc
      cases hp : inB n zs[k]
      · rw [hp] at H
        have hfin := Lib.hid (show decide ((0 : Int) ≤ k) = !allB n zs by rw [decide_eq_true p1, all_no hlt hp]; rfl)
        clear hp hall
        go_wp2_with fail
        refine H.out.mono ?_
        rintro e w1 ⟨rfl, rfl⟩
        go_wp2_with fail
        go_ret
        exact ⟨k, rfl, hfin.out, rfl⟩
      · rw [hp] at H
        have hnext : Hid (∀ j, j < k + 1 → (h : j < zs.length) → inB n zs[j] = true) := Lib.hid fun j hj h => by
          by_cases e : j = k
          · subst e; exact hp
          · exact hall.out j (by omega) h
        clear hp hall
        go_wp2_with fail
        refine H.out.mono ?_
        rintro e w1 ⟨rfl, rfl⟩
        go_wp2_with fail
        go_round
        case rel => exact ⟨k + 1, by omega, by go_num, hnext⟩
        case measure => simp [intOf]; omega
    · have hfin := Lib.hid (show decide ((0 : Int) ≤ -1) = !allB n zs by rw [all_yes fun j hj => hall.out j (by omega) hj]; rfl)
      clear hall
      go_wp2_with fail
      go_ret
      exact ⟨-1, rfl, hfin.out, rfl⟩
theorem conB (A : Option Addr) (ca : Nat) (zs : List Int) (n : Int) (b : Nat) (w : World) (hT : zs.length ≤ 10000) (hA : IG w A zs) (hb : w.cell? ⟨b, 0, none⟩ = some (.int .i64 n)) :
    Calls Tryd.prog 52 #[.slice A zs.length ca, .func (.func 60) #[] #[.pointer (some ⟨b, 0, none⟩)]] w fun e w' => e = .returned (.bool (!allB n zs)) ∧ w = w' := by
  have H := Lib.hid (idxB A ca zs n b w hT hA hb)
  generalize (!allB n zs) = r at *
  clear hA hb
  go_enter Tryd.func52, Tryd.ntmps52
  go_wp2_with fail
  refine H.out.mono ?_
  rintro e w1 ⟨i, rfl, hi, rfl⟩
  have HI := Lib.hid hi
  clear hi
  go_wp2_with fail
  go_ret
  exact ⟨ret_bool HI.out, rfl⟩
theorem below (A : Option Addr) (ca : Nat) (zs : List Int) (n : Int) (w : World) (hT : zs.length ≤ 10000) (hA : IG w A zs) :
    Calls Tryd.prog 50 #[.int .i64 n, .slice A zs.length ca] w fun e w' => e = .returned (.bool (allB n zs)) ∧ RowKit.Below w.heap.size w w' := by
  have hmf : ∀ (fn : Fn) (first cap : Array Value) (w : World), (Instr.makeFunc fn first cap).run Tryd.prog w = .ok (.func fn first cap) w := fun _ _ _ _ => rfl
  have H := Lib.hid (conB A ca zs n w.heap.size (w.alloc (.cells #[.int .i64 n] 3)) hT (hA.below ((Below.refl _ _).alloc (Nat.le_refl _) _)) (by rw [Lib.cell_of_heap (heap_alloc_new w _)]; rfl))
  generalize allB n zs = r at *
  clear hA
  go_enter Tryd.func50, Tryd.ntmps50
  go_wp2_with fail
  refine H.out.mono ?_
  rintro e w1 ⟨rfl, rfl⟩
  go_wp2_with fail
  go_ret
  exact ⟨by simp, (Below.refl _ _).alloc (Nat.le_refl _) _⟩
end
end Go.Proofs.YtccmlmahjgndbaaDoor.TblB
