/- The looking for steps: what stands while it goes on. -/
import Derived.Test.YtihhojgnilbfnaaM01
import Derived.Maps.OwnSet
import Derived.DeepKeys4
import Derived.DeepKeys5
import Derived.WideKeyArgs2
import Derived.BigQuiet
import Derived.BigRegion
import Derived.RegionTactic
import Derived.StillTailTactics
import Derived.Deep.CutBlock
namespace Go.Proofs.Ytihhojgnilbfnaa.PfN
set_option linter.unusedVariables false
set_option linter.unusedSimpArgs false
open Go.Proofs.Ytihhojgnilbfnaa.TblB Go.Proofs.Ytihhojgnilbfnaa.TblC Go.Proofs.Ytihhojgnilbfnaa.TblV Go.Proofs.Ytihhojgnilbfnaa.TblP Go.Proofs.Ytihhojgnilbfnaa.TblQ Go.Proofs.Ytihhojgnilbfnaa.SemA Go.Proofs.Ytihhojgnilbfnaa.PfM
set_option linter.unusedVariables false
set_option linter.unusedSimpArgs false
variable {P K : Nat} {L : List Ru} {T h c : Nat} {pend : List (Int × Int)} {t : Ss}
theorem put_known (t : Ss) (s : Sp) : ∃ l, (putM t s).known = t.known ++ l := by
  unfold putM
  split
  · exact ⟨[], by simp⟩
  · exact ⟨[s], rfl⟩
theorem put_watch (t : Ss) (s : Sp) : (putM t s).watch = t.watch := by unfold putM; split <;> rfl
theorem put_nw (t : Ss) (s : Sp) : (putM t s).nw = t.nw := by unfold putM; split <;> rfl
theorem put_has (t : Ss) (s : Sp) : hasS (putM t s).known s.fa = true := by
  unfold putM
  split
  · rename_i h; exact h
  · simp only; rw [hasS_app, hasS_one]; simp
theorem pre_has {A B : List Sp} {f : Fa} (h : ∃ l, B = A ++ l) (hf : hasS A f = true) : hasS B f = true := by
  obtain ⟨l, rfl⟩ := h
  exact hasS_mono hf
theorem has_take {A : List Sp} {n : Nat} {f : Fa} (h : hasS (A.take n) f = true) : hasS A f = true := by
  obtain ⟨s, hs, e⟩ := hasS_iff.1 h
  exact hasS_iff.2 ⟨s, List.mem_of_mem_take hs, e⟩
/-- One more is known: what stands, stands. -/
theorem Inv.put (hi : Inv P K L T h pend c t) {s : Sp} (ho : okS P K L t.known s = true) : Inv P K L T h pend c (putM t s) := by
  have hk := put_known t s
  have hw := put_watch t s
  have hm : ∀ f, hasS t.known f = true → hasS (putM t s).known f = true := fun f hf => pre_has hk hf
  have htk : ∀ j, j < h → (putM t s).known.take (j + 1) = t.known.take (j + 1) := fun j hj => by
    obtain ⟨l, e⟩ := hk
    have := hi.le
    rw [e, List.take_append_of_le_length (by omega)]
  exact {
    le := by obtain ⟨l, e⟩ := hk; rw [e, List.length_append]; have := hi.le; omega
    ck := by
      unfold putM
      split
      · exact hi.ck
      · rename_i hn
        simp only
        rw [chk_snoc, hi.ck, List.nil_append, ho]
        simp [hn]
    wok := fun r y hy => (hi.wok r y (by rw [hw] at hy; exact hy)).mono hm
    stat := fun i hiT u hu => by
      obtain ⟨a, b, d⟩ := hi.stat i hiT u hu
      rw [hw]
      exact ⟨fun e => hm _ (a e), b, d⟩
    cl := fun j hj x hx y hy => by
      rw [htk j hj]
      have hx' : t.known[j]? = some x := by
        obtain ⟨l, e⟩ := hk
        rw [e, List.getElem?_append_left (Nat.lt_of_lt_of_le hj hi.le)] at hx
        exact hx
      rcases hi.cl j hj x hx' y (by rw [hw] at hy; exact hy) with q | q
      · exact .inl q
      · exact .inr (q.mono hm (fun r z hz => by rw [hw]; exact hz))
    any := by rw [hw]; exact hi.any
    len := by rw [hw, put_nw]; exact hi.len
    cnt := by rw [put_nw]; exact hi.cnt }
/-- One more watches. -/
theorem Inv.watch {b : Nat} (hi : Inv P K L T h pend c t) {r : Int} {y : Int × Int} (hw : WOk P K L t r y)
    (hcl : ∀ j, j < h → ∀ s, t.known[j]? = some s → s.role = r → Done P K L (watchM t r y) (t.known.take (j + 1)) s.who y)
    (ha : ∀ i, anyN ((watchM t r y).watch i) ≤ 2 * T) (hl : t.nw + 1 ≤ 2 * T + b) : Inv P K L T h pend b (watchM t r y) := by
  have hm : ∀ i, ∀ z ∈ t.watch i, z ∈ (watchM t r y).watch i := fun i z hz => by
    unfold watchM
    simp only
    split
    · exact List.mem_append_left _ hz
    · exact hz
  have hin : ∀ i, ∀ z ∈ (watchM t r y).watch i, z ∈ t.watch i ∨ (i = r ∧ z = y) := fun i z hz => by
    unfold watchM at hz
    simp only at hz
    split at hz
    · rename_i e
      rcases List.mem_append.1 hz with q | q
      · exact .inl q
      · exact .inr ⟨e, by simpa using q⟩
    · exact .inl hz
  exact {
    le := hi.le
    ck := hi.ck
    wok := fun i z hz => by
      rcases hin i z hz with q | ⟨rfl, rfl⟩
      · exact (hi.wok i z q).mono (fun f hf => hf)
      · exact hw.mono (fun f hf => hf)
    stat := fun i hiT u hu => by
      obtain ⟨a, b, d⟩ := hi.stat i hiT u hu
      exact ⟨a, fun e => hm _ _ (b e), fun e => hm _ _ (d e)⟩
    cl := fun j hj x hx z hz => by
      rcases hin x.role z hz with q | ⟨e, rfl⟩
      · rcases hi.cl j hj x hx z q with q2 | q2
        · exact .inl q2
        · exact .inr (q2.mono (fun f hf => hf) hm)
      · exact .inr (hcl j hj x hx e)
    any := ha
    len := fun i => by
      have := hi.len i
      unfold watchM
      simp only
      split <;> simp <;> omega
    cnt := hl }
theorem anyN_app (l : List (Int × Int)) (y : Int × Int) : anyN (l ++ [y]) = anyN l + if y.2 = -1 then 1 else 0 := by
  unfold anyN
  rw [List.filter_append, List.length_append]
  by_cases e : y.2 = -1
  · simp [e]
  · simp [e]
theorem lk_watch (t : Ss) (r : Int) (y : Int × Int) (a i hd mid : Int) (who : Nat) : lkM (watchM t r y) a i hd mid who = watchM (lkM t a i hd mid who) r y := by
  unfold lkM
  have e : (watchM t r y).known = t.known := rfl
  rw [e]
  split
  · unfold putM
    rw [e]
    split <;> rfl
  · rfl
theorem lks_watch (r : Int) (y : Int × Int) (a i hd mid : Int) : ∀ (l : List Nat) (t : Ss), l.foldl (lkM · a i hd mid) (watchM t r y) = watchM (l.foldl (lkM · a i hd mid) t) r y
  | [], t => rfl
  | x :: l, t => by
    simp only [List.foldl_cons]
    rw [lk_watch, lks_watch r y a i hd mid l]
/-- All who are in the linked role come in. -/
theorem Inv.lks {a i hd mid : Int} {u : Ru} (hu : ruleAt P K L i = some u) (hk : u.kind = 3) (hh : hd = u.head) (hmid : 0 ≤ mid ∧ mid < P) (ha : a = mid * K + u.via) : ∀ (l : List Nat) (t : Ss), (∀ x ∈ l, x < P) → hasS t.known (u.a, mid) = true → Inv P K L T h pend c t →
    Inv P K L T h pend c (l.foldl (lkM · a i hd mid) t) ∧ (∃ k, (l.foldl (lkM · a i hd mid) t).known = t.known ++ k) ∧ ((l.foldl (lkM · a i hd mid) t).watch = t.watch ∧ (l.foldl (lkM · a i hd mid) t).nw = t.nw) ∧ ∀ x ∈ l, hasS t.known (a, (x : Int)) = true → hasS (l.foldl (lkM · a i hd mid) t).known (hd, (x : Int)) = true
  | [], t, _, _, hi => ⟨hi, ⟨[], by simp⟩, ⟨rfl, rfl⟩, fun x hx => by cases hx⟩
  | x :: l, t, hl, hA, hi => by
    simp only [List.foldl_cons]
    have step : Inv P K L T h pend c (lkM t a i hd mid x) ∧ (∃ k, (lkM t a i hd mid x).known = t.known ++ k) ∧ ((lkM t a i hd mid x).watch = t.watch ∧ (lkM t a i hd mid x).nw = t.nw) ∧ (hasS t.known (a, (x : Int)) = true → hasS (lkM t a i hd mid x).known (hd, (x : Int)) = true) := by
      unfold lkM
      split
      · rename_i hx
        refine ⟨Inv.put hi ?_, put_known _ _, ⟨put_watch _ _, put_nw _ _⟩, fun _ => put_has t ⟨i, hd, x, mid⟩⟩
        unfold okS
        simp only [hu]
        unfold fitB under
        simp only [hk, hh]
        have hxP := hl x (by simp)
        simp only [Bool.and_eq_true, decide_eq_true_eq, List.all_eq_true]
        refine ⟨⟨trivial, ⟨by omega, by omega⟩, by simp, by simp; omega⟩, fun f hf => ?_⟩
        simp at hf
        rcases hf with rfl | rfl
        · exact hA
        · rw [← ha]; exact hx
      · rename_i hx
        exact ⟨hi, ⟨[], by simp⟩, ⟨rfl, rfl⟩, fun h2 => absurd h2 hx⟩
    obtain ⟨s1, ⟨k1, e1⟩, s3, s4⟩ := step
    obtain ⟨r1, ⟨k2, e2⟩, r3, r4⟩ := Inv.lks hu hk hh hmid ha l (lkM t a i hd mid x) (fun z hz => hl z (by simp [hz])) (by rw [e1]; exact hasS_mono hA) s1
    refine ⟨r1, ⟨k1 ++ k2, by rw [e2, e1, List.append_assoc]⟩, ⟨r3.1.trans s3.1, r3.2.trans s3.2⟩, fun z hz hz2 => ?_⟩
    rcases List.mem_cons.1 hz with rfl | hz
    · rw [e2]; exact hasS_mono (s4 hz2)
    · exact r4 z hz (by rw [e1]; exact hasS_mono hz2)
theorem ruleD_of {i : Int} {u : Ru} (hu : ruleAt P K L i = some u) : ruleD L i = u := by
  obtain ⟨_, h1, h2, _⟩ := ruleAt_some hu
  unfold ruleD
  rw [List.getD_eq_getElem?_getD, h2]
  rfl
theorem linkM_eq (P K : Nat) (L : List Ru) (t : Ss) (i mid : Int) : linkM P K L t i mid = watchM ((List.range P).foldl (lkM · (mid * K + (ruleD L i).via) i (ruleD L i).head mid) t) (mid * K + (ruleD L i).via) (i, mid) := by
  unfold linkM
  rw [lks_watch]
theorem watch_at (t : Ss) (r : Int) (y : Int × Int) : y ∈ (watchM t r y).watch r := by
  unfold watchM
  simp
theorem watch_sub (t : Ss) (r : Int) (y : Int × Int) (i : Int) : ∀ z ∈ t.watch i, z ∈ (watchM t r y).watch i := fun z hz => by
  unfold watchM
  simp only
  split
  · exact List.mem_append_left _ hz
  · exact hz
theorem watch_any (t : Ss) (r : Int) (y : Int × Int) (i : Int) : anyN ((watchM t r y).watch i) = anyN (t.watch i) + if i = r ∧ y.2 = -1 then 1 else 0 := by
  unfold watchM
  simp only
  by_cases e : i = r
  · rw [if_pos e, anyN_app]
    by_cases e2 : y.2 = -1 <;> simp [e, e2]
  · rw [if_neg e]; simp [e]
theorem watch_len (t : Ss) (r : Int) (y : Int × Int) (i : Int) : ((watchM t r y).watch i).length ≤ (t.watch i).length + 1 := by
  unfold watchM
  simp only
  split <;> simp
def bump (y : Int × Int) : Nat := if y.2 = -1 then 1 else 0
/-- The watch that was asked is done with. -/
theorem Inv.done {y : Int × Int} {rest : List (Int × Int)} {b : Nat} {t t' : Ss} {x : Sp} (hi : Inv P K L T h (y :: rest) c t) (hi' : Inv P K L T h (y :: rest) b t') (h1 : 1 ≤ h) (hs : t'.known[h - 1]? = some x) (hd : Done P K L t' (t'.known.take h) x.who y) : Inv P K L T h rest b t' where
  le := hi'.le
  ck := hi'.ck
  wok := hi'.wok
  stat := hi'.stat
  cl := fun j hj s hs2 z hz => by
    rcases hi'.cl j hj s hs2 z hz with ⟨q, e⟩ | q
    · rcases List.mem_cons.1 q with rfl | q
      · have : j = h - 1 := by omega
        subst this
        rw [hs] at hs2
        cases hs2
        have e3 : h - 1 + 1 = h := by omega
        rw [e3]
        exact .inr hd
      · exact .inl ⟨q, e⟩
    · exact .inr q
  any := hi'.any
  len := hi'.len
  cnt := hi'.cnt
theorem Inv.more {b : Nat} (hi : Inv P K L T h pend c t) (hb : c ≤ b) : Inv P K L T h pend b t :=
  { hi with cnt := Nat.le_trans hi.cnt (by omega) }
/-- One watch more is asked. -/
theorem Inv.step {y : Int × Int} {rest : List (Int × Int)} {s : Sp} (hi : Inv P K L T h (y :: rest) c t) (h1 : 1 ≤ h) (hs : t.known[h - 1]? = some s) (hy : y ∈ t.watch s.role) :
    Inv P K L T h rest (c + bump y) (stepM P K L t s.who y) ∧ (∃ l, (stepM P K L t s.who y).known = t.known ++ l) ∧ ∀ i, ∀ z ∈ t.watch i, z ∈ (stepM P K L t s.who y).watch i := by
  obtain ⟨⟨u, hu⟩, k1, hany, hmid⟩ := hi.wok _ y hy
  have hD := ruleD_of hu
  have hr := (ruleAt_some hu).2.2.2
  obtain ⟨hk, rh, rw_, ra, rb, rv⟩ := right_r hr
  rw [hD] at k1 hany hmid
  have hin : hasS t.known (s.role, s.who) = true := hasS_iff.2 ⟨s, List.mem_of_getElem? hs, rfl⟩
  have hsw : 0 ≤ s.who ∧ s.who < P := by
    have : ∀ (l A : List Sp), chk P K L A l = true → ∀ x ∈ l, 0 ≤ x.who ∧ x.who < P := by
      intro l
      induction l with
      | nil => intro A _ x hx; cases hx
      | cons a l ih =>
        intro A hc x hx
        simp only [chk, Bool.and_eq_true] at hc
        rcases List.mem_cons.1 hx with rfl | hx
        · obtain ⟨_, _, _, _, _, q1, q2, _⟩ := okS_rng hc.1.1
          exact ⟨q1, q2⟩
        · exact ih _ hc.2 x hx
    exact this _ _ hi.ck s (List.mem_of_getElem? hs)
  have hget : ∀ {t' : Ss}, (∃ l, t'.known = t.known ++ l) → t'.known[h - 1]? = some s := fun {t'} e => by
    obtain ⟨l, e⟩ := e
    have := hi.le
    rw [e, List.getElem?_append_left (by omega)]
    exact hs
  have hput : ∀ x : Sp, okS P K L t.known x = true → Done P K L (putM t x) ((putM t x).known.take h) s.who y → Inv P K L T h rest (c + bump y) (putM t x) ∧ (∃ l, (putM t x).known = t.known ++ l) ∧ ∀ i, ∀ z ∈ t.watch i, z ∈ (putM t x).watch i := fun x ho hd =>
    ⟨Inv.more (Inv.done hi (Inv.put hi ho) h1 (hget (put_known t x)) hd) (Nat.le_add_right _ _), put_known t x, fun i z hz => by rw [put_watch]; exact hz⟩
  have hok : ∀ m : Int, fitB P u ⟨y.1, u.head, s.who, m⟩ = true → (∀ f ∈ under K u ⟨y.1, u.head, s.who, m⟩, hasS t.known f = true) → okS P K L t.known ⟨y.1, u.head, s.who, m⟩ = true := fun m a b => by
    unfold okS
    simp only [hu, a, Bool.true_and, List.all_eq_true]
    exact b
  unfold stepM
  simp only [hD]
  rcases hk with k | k | k | k
  · exact absurd k k1
  · rw [if_neg (by omega), if_pos k]
    have e2 : y.2 = -1 := Classical.byContradiction fun q => by have := (hmid q).1; omega
    have ea : u.a = s.role := by rcases hany e2 with q | q <;> omega
    refine hput _ (hok 0 ?_ ?_) ⟨fun _ => ?_, fun q => ?_, fun q => ?_, fun q => ?_⟩
    · unfold fitB; simp [k]; omega
    · unfold under
      rw [if_pos k]
      intro f hf
      simp at hf
      subst hf
      rw [ea]; exact hin
    · rw [hD]; exact put_has t ⟨y.1, u.head, s.who, 0⟩
    · rw [hD] at q; omega
    · rw [hD] at q; omega
    · rw [hD] at q; omega
  · rw [if_pos k]
    by_cases e2 : y.2 = -1
    · rw [if_pos e2, linkM_eq, hD]
      have ea : u.a = s.role := by rcases hany e2 with q | q <;> omega
      obtain ⟨r1, r2, r3, r4⟩ := Inv.lks (a := s.who * K + u.via) (i := y.1) (hd := u.head) (mid := s.who) hu k rfl hsw rfl (List.range P) t (fun x hx => by simpa using hx) (by rw [ea]; exact hin) hi
      generalize hg : (List.range P).foldl (lkM · (s.who * K + u.via) y.1 u.head s.who) t = t1 at *
      have hne : s.who ≠ -1 := by omega
      have hw1 : Inv P K L T h (y :: rest) (c + 1) (watchM t1 (s.who * K + u.via) (y.1, s.who)) := Inv.watch r1
        ⟨⟨u, hu⟩, by rw [hD]; omega, fun q => absurd q hne, fun _ => by rw [hD]; exact ⟨k, hsw.1, hsw.2, rfl, by rw [ea]; exact pre_has r2 hin⟩⟩
        (fun j hj x hx e => by
          refine ⟨fun q => ?_, fun q => ?_, fun _ q => absurd q hne, fun _ _ => ?_⟩
          · rw [hD] at q; omega
          · rw [hD] at q; omega
          · rw [hD]
            have hx' : t.known[j]? = some x := by
              obtain ⟨l, e⟩ := r2
              rw [e, List.getElem?_append_left (Nat.lt_of_lt_of_le hj hi.le)] at hx
              exact hx
            have hxw : 0 ≤ x.who ∧ x.who < P := by
              have : ∀ (l A : List Sp), chk P K L A l = true → ∀ x ∈ l, 0 ≤ x.who ∧ x.who < P := by
                intro l
                induction l with
                | nil => intro A _ x hx; cases hx
                | cons a l ih =>
                  intro A hc x hx
                  simp only [chk, Bool.and_eq_true] at hc
                  rcases List.mem_cons.1 hx with rfl | hx
                  · obtain ⟨_, _, _, _, _, q1, q2, _⟩ := okS_rng hc.1.1
                    exact ⟨q1, q2⟩
                  · exact ih _ hc.2 x hx
              exact this _ _ hi.ck x (List.mem_of_getElem? hx')
            have h5 := r4 x.who.toNat (by simp; omega)
            have e6 : ((x.who.toNat : Nat) : Int) = x.who := by omega
            rw [e6] at h5
            exact h5 (hasS_iff.2 ⟨x, List.mem_of_getElem? hx', by unfold Sp.fa; rw [e]⟩))
        (fun i => by
          rw [watch_any, r3.1]
          have := hi.any i
          simp [hne]
          exact this)
        (by rw [r3.2]; have := hi.cnt; omega)
      have hb : bump y = 1 := by unfold bump; rw [if_pos e2]
      rw [hb]
      refine ⟨Inv.done hi hw1 h1 (hget (t' := watchM t1 (s.who * K + u.via) (y.1, s.who)) r2) ⟨fun q => ?_, fun q => ?_, fun _ _ => ?_, fun _ q => absurd e2 q⟩, r2, fun i z hz => watch_sub _ _ _ _ _ (by rw [r3.1]; exact hz)⟩
      · rw [hD] at q; omega
      · rw [hD] at q; omega
      · rw [hD]; exact watch_at _ _ _
    · rw [if_neg e2]
      obtain ⟨_, m1, m2, m3, m4⟩ := hmid e2
      refine hput _ (hok y.2 ?_ ?_) ⟨fun q => ?_, fun q => ?_, fun _ q => absurd q e2, fun _ _ => ?_⟩
      · unfold fitB; simp [k]; omega
      · unfold under
        rw [if_neg (by omega), if_pos k]
        intro f hf
        simp at hf
        rcases hf with rfl | rfl
        · exact m4
        · rw [← m3]; exact hin
      · rw [hD] at q; omega
      · rw [hD] at q; omega
      · rw [hD]; exact put_has t ⟨y.1, u.head, s.who, y.2⟩
  · rw [if_neg (by omega), if_neg (by omega)]
    have e2 : y.2 = -1 := Classical.byContradiction fun q => by have := (hmid q).1; omega
    split
    · rename_i hb
      simp only [Bool.and_eq_true] at hb
      refine hput _ (hok 0 ?_ ?_) ⟨fun q => ?_, fun _ _ _ => ?_, fun q => ?_, fun q => ?_⟩
      · unfold fitB; simp [k]; omega
      · unfold under
        rw [if_neg (by omega), if_neg (by omega), if_pos k]
        intro f hf
        simp at hf
        rcases hf with rfl | rfl
        · exact hb.1
        · exact hb.2
      · rw [hD] at q; omega
      · rw [hD]; exact put_has t ⟨y.1, u.head, s.who, 0⟩
      · rw [hD] at q; omega
      · rw [hD] at q; omega
    · rename_i hb
      refine ⟨Inv.more (Inv.done hi hi h1 hs ⟨fun q => ?_, fun _ a b => ?_, fun q => ?_, fun q => ?_⟩) (Nat.le_add_right _ _), ⟨[], by simp⟩, fun i z hz => hz⟩
      · rw [hD] at q; omega
      · rw [hD] at a b
        exact absurd (by rw [has_take a, has_take b]; rfl) hb
      · rw [hD] at q; omega
      · rw [hD] at q; omega
end Go.Proofs.Ytihhojgnilbfnaa.PfN
/- The looking for steps: begun, gone through, ended: all that follows is known. -/
namespace Go.Proofs.Ytihhojgnilbfnaa.PfO
set_option linter.unusedVariables false
set_option linter.unusedSimpArgs false
open Go.Proofs.Ytihhojgnilbfnaa.TblB Go.Proofs.Ytihhojgnilbfnaa.TblC Go.Proofs.Ytihhojgnilbfnaa.TblV Go.Proofs.Ytihhojgnilbfnaa.TblP Go.Proofs.Ytihhojgnilbfnaa.TblQ Go.Proofs.Ytihhojgnilbfnaa.SemA Go.Proofs.Ytihhojgnilbfnaa.SemGa Go.Proofs.Ytihhojgnilbfnaa.PfM Go.Proofs.Ytihhojgnilbfnaa.PfN
set_option linter.unusedVariables false
set_option linter.unusedSimpArgs false
variable {P K : Nat} {L : List Ru} {T h c : Nat} {pend : List (Int × Int)} {t : Ss}
def ss0 : Ss := ⟨[], 0, fun _ => []⟩
theorem Inv.start (P K : Nat) (L : List Ru) : Inv P K L 0 0 [] 0 ss0 where
  le := Nat.le_refl _
  ck := rfl
  wok := fun r y hy => by cases hy
  stat := fun i hi => by omega
  cl := fun j hj => by omega
  any := fun r => Nat.le_refl _
  len := fun r => Nat.le_refl _
  cnt := Nat.le_refl _
theorem Inv.up {T' : Nat} (hi : Inv P K L T h pend c t) (hT : T ≤ T') (hs : ∀ i : Nat, i < T' → ∀ u, ruleAt P K L i = some u → (u.kind = 1 → hasS t.known (u.head, u.who) = true) ∧ (u.kind ≠ 1 → ((i : Int), -1) ∈ t.watch u.a) ∧ (u.kind = 4 → ((i : Int), -1) ∈ t.watch u.b)) : Inv P K L T' h pend c t :=
  { hi with stat := hs, any := fun r => Nat.le_trans (hi.any r) (by omega), cnt := Nat.le_trans hi.cnt (by omega) }
theorem begin_none (hi : Inv P K L T 0 [] 0 t) (hn : ruleAt P K L T = none) : Inv P K L (T + 1) 0 [] 0 t :=
  Inv.up hi (Nat.le_succ _) fun i hiT u hu => by
    by_cases e : i = T
    · subst e; rw [hn] at hu; cases hu
    · exact hi.stat i (by omega) u hu
theorem begin_some {u : Ru} (hi : Inv P K L T 0 [] 0 t) (hu : ruleAt P K L T = some u) : Inv P K L (T + 1) 0 [] 0 (beginM t T u) := by
  have hD := ruleD_of hu
  have hr := (ruleAt_some hu).2.2.2
  obtain ⟨hk, rh, rw_, ra, rb, rv⟩ := right_r hr
  unfold beginM
  by_cases k1 : u.kind = 1
  · rw [if_pos k1]
    have ho : okS P K L t.known ⟨(T : Int), u.head, u.who, 0⟩ = true := by
      unfold okS
      simp only [hu]
      unfold fitB under
      simp [k1]
      omega
    have h1 := Inv.put hi ho
    refine Inv.up h1 (Nat.le_succ _) fun i hiT v hv => ?_
    by_cases e : i = T
    · subst e
      rw [hu] at hv
      cases hv
      exact ⟨fun _ => put_has t ⟨(i : Int), u.head, u.who, 0⟩, fun q => absurd k1 q, fun q => by omega⟩
    · exact h1.stat i (by omega) v hv
  · rw [if_neg k1]
    have w1 : WOk P K L t u.a ((T : Int), -1) := ⟨⟨u, hu⟩, by rw [hD]; exact k1, fun _ => by rw [hD]; exact .inl rfl, fun q => absurd rfl q⟩
    have a2 : ∀ i, anyN ((watchM t u.a ((T : Int), -1)).watch i) ≤ 2 * T + 1 := fun i => by
      rw [watch_any]
      have := hi.any i
      split <;> omega
    have a3 : ∀ (t : Ss) r y, (∀ i, (t.watch i).length ≤ t.nw) → ∀ i, ((watchM t r y).watch i).length ≤ (watchM t r y).nw := fun t r y h i => by
      have h1 := watch_len t r y i
      have h2 := h i
      show _ ≤ t.nw + 1
      omega
    have hc := hi.cnt
    have step : ∀ t' : Ss, t'.known = t.known → (∀ r, ∀ z ∈ t'.watch r, WOk P K L t' r z) → (∀ i, ∀ z ∈ t.watch i, z ∈ t'.watch i) → (∀ i, anyN (t'.watch i) ≤ 2 * (T + 1)) → (∀ i, (t'.watch i).length ≤ t'.nw) → t'.nw ≤ 2 * (T + 1) + 0 → (((T : Int), -1) ∈ t'.watch u.a) → (u.kind = 4 → ((T : Int), -1) ∈ t'.watch u.b) → Inv P K L (T + 1) 0 [] 0 t' := fun t' ek hw hs ha hl hn b1 b2 => {
      le := Nat.zero_le _
      ck := by rw [ek]; exact hi.ck
      wok := hw
      stat := fun i hiT v hv => by
        rw [ek]
        by_cases e : i = T
        · subst e
          rw [hu] at hv
          cases hv
          exact ⟨fun q => absurd q k1, fun _ => b1, b2⟩
        · obtain ⟨q1, q2, q3⟩ := hi.stat i (by omega) v hv
          exact ⟨q1, fun q => hs _ _ (q2 q), fun q => hs _ _ (q3 q)⟩
      cl := fun j hj => by omega
      any := ha
      len := hl
      cnt := hn }
    have hin : ∀ (t : Ss) (r : Int) (y : Int × Int) (i : Int), ∀ z ∈ (watchM t r y).watch i, z ∈ t.watch i ∨ (i = r ∧ z = y) := fun t r y i z hz => by
      unfold watchM at hz
      simp only at hz
      split at hz
      · rename_i e
        rcases List.mem_append.1 hz with q | q
        · exact .inl q
        · exact .inr ⟨e, by simpa using q⟩
      · exact .inl hz
    split
    · rename_i h4
      refine step _ rfl (fun r z hz => ?_) (fun i z hz => watch_sub _ _ _ _ _ (watch_sub _ _ _ _ _ hz)) (fun i => ?_) (a3 _ _ _ (a3 _ _ _ hi.len)) (by show t.nw + 1 + 1 ≤ _; omega) (watch_sub _ _ _ _ _ (watch_at _ _ _)) (fun _ => watch_at _ _ _)
      · rcases hin _ _ _ _ z hz with q | ⟨e1, e2⟩
        · rcases hin _ _ _ _ z q with q | ⟨e1, e2⟩
          · exact (hi.wok r z q).mono (fun f hf => hf)
          · subst e1; subst e2; exact w1.mono (fun f hf => hf)
        · subst e1; subst e2
          exact ⟨⟨u, hu⟩, by rw [hD]; exact k1, fun _ => by rw [hD]; exact .inr ⟨h4.1, rfl⟩, fun q => absurd rfl q⟩
      · rw [watch_any]
        have := a2 i
        split <;> omega
    · rename_i h4
      refine step _ rfl (fun r z hz => ?_) (fun i z hz => watch_sub _ _ _ _ _ hz) (fun i => ?_) (a3 _ _ _ hi.len) (by show t.nw + 1 ≤ _; omega) (watch_at _ _ _) (fun k4 => ?_)
      · rcases hin _ _ _ _ z hz with q | ⟨e1, e2⟩
        · exact (hi.wok r z q).mono (fun f hf => hf)
        · subst e1; subst e2; exact w1.mono (fun f hf => hf)
      · have := a2 i; omega
      · have e : u.b = u.a := Classical.byContradiction fun q => h4 ⟨k4, q⟩
        rw [e]
        exact watch_at _ _ _
/-- The next one is followed. -/
theorem Inv.pop {s : Sp} (hi : Inv P K L T h [] c t) (hs : t.known[h]? = some s) : Inv P K L T (h + 1) (t.watch s.role) c t where
  le := (List.getElem?_eq_some_iff.1 hs).1
  ck := hi.ck
  wok := hi.wok
  stat := hi.stat
  cl := fun j hj x hx y hy => by
    by_cases e : j = h
    · subst e
      rw [hs] at hx
      cases hx
      exact .inl ⟨hy, rfl⟩
    · rcases hi.cl j (by omega) x hx y hy with ⟨q, _⟩ | q
      · cases q
      · exact .inr q
  any := hi.any
  len := hi.len
  cnt := hi.cnt
theorem Inv.steps {s : Sp} : ∀ (l : List (Int × Int)) (t : Ss) (c : Nat), Inv P K L T h l c t → 1 ≤ h → t.known[h - 1]? = some s → (∀ y ∈ l, y ∈ t.watch s.role) →
    Inv P K L T h [] (c + anyN l) (l.foldl (stepM P K L · s.who) t) ∧ ∃ k, (l.foldl (stepM P K L · s.who) t).known = t.known ++ k
  | [], t, c, hi, _, _, _ => ⟨hi, [], by simp⟩
  | y :: l, t, c, hi, h1, hs, hy => by
    obtain ⟨r1, ⟨k, r2⟩, r3⟩ := Inv.step hi h1 hs (hy y (by simp))
    have hlt := hi.le
    obtain ⟨q1, k', q2⟩ := Inv.steps l (stepM P K L t s.who y) (c + bump y) r1 h1 (by rw [r2, List.getElem?_append_left (by omega)]; exact hs) (fun z hz => r3 _ _ (hy z (by simp [hz])))
    have e : c + bump y + anyN l = c + anyN (y :: l) := by
      have : anyN (y :: l) = bump y + anyN l := by
        unfold anyN bump
        rw [List.filter_cons]
        by_cases e : y.2 = -1
        · simp [e]; omega
        · simp [e]
      omega
    rw [e] at q1
    exact ⟨q1, k ++ k', by rw [List.foldl_cons, q2, r2, List.append_assoc]⟩
theorem Inv.follow {s : Sp} (hi : Inv P K L T h [] c t) (hs : t.known[h]? = some s) : Inv P K L T (h + 1) [] (c + 2 * T) (followM P K L t s.fa) ∧ ∃ k, (followM P K L t s.fa).known = t.known ++ k := by
  obtain ⟨q1, q2⟩ := Inv.steps (t.watch s.role) t c (Inv.pop hi hs) (by omega) (by simpa using hs) (fun y hy => hy)
  exact ⟨Inv.more q1 (by have := hi.any s.role; omega), q2⟩
theorem chk_nd : ∀ (l A : List Sp), chk P K L A l = true → (A.map Sp.fa).Nodup → ((A ++ l).map Sp.fa).Nodup
  | [], A, _, hn => by simpa using hn
  | s :: l, A, hc, hn => by
    simp only [chk, Bool.and_eq_true, Bool.not_eq_true'] at hc
    have := chk_nd l (A ++ [s]) hc.2 (by
      rw [List.map_append, List.nodup_append]
      refine ⟨hn, by simp, fun a ha b hb => ?_⟩
      simp at hb
      subst hb
      rintro rfl
      obtain ⟨x, hx, e⟩ := List.mem_map.1 ha
      have : hasS A s.fa = true := hasS_iff.2 ⟨x, hx, e⟩
      rw [hc.1.2] at this
      cases this)
    simpa using this
theorem chk_rng : ∀ (l A : List Sp), chk P K L A l = true → ∀ s ∈ l, (0 ≤ s.role ∧ s.role < ((P * K : Nat) : Int)) ∧ (0 ≤ s.who ∧ s.who < P) ∧ ∃ u, ruleAt P K L s.rule = some u ∧ fitB P u s = true
  | [], A, _, s, hs => by cases hs
  | x :: l, A, hc, s, hs => by
    simp only [chk, Bool.and_eq_true, Bool.not_eq_true'] at hc
    rcases List.mem_cons.1 hs with rfl | hs
    · obtain ⟨u, h1, h2, h3, h4, h5, h6, h7⟩ := okS_rng hc.1.1
      exact ⟨h4, ⟨h5, h6⟩, u, h1, h2⟩
    · exact chk_rng l (A ++ [x]) hc.2 s hs
theorem chk_len {l : List Sp} (hc : chk P K L [] l = true) : l.length ≤ P * K * P := by
  have hn := chk_nd l [] hc (by simp)
  have hs := SemA.sum_sub (fun _ => 1) (([] ++ l).map Sp.fa) (SemA.grid (P * K) P) hn (fun f hf => by
    simp only [List.nil_append] at hf
    obtain ⟨s, hs, rfl⟩ := List.mem_map.1 hf
    obtain ⟨h1, h2, _⟩ := chk_rng l [] hc s hs
    unfold SemA.grid
    simp only [List.mem_flatMap, List.mem_map, List.mem_range]
    refine ⟨s.role.toNat, by omega, s.who.toNat, by omega, ?_⟩
    unfold Sp.fa
    rw [Prod.mk.injEq]
    omega)
  have e1 : ∀ (l : List Fa), (l.map fun _ => 1).sum = l.length := fun l => by induction l with
    | nil => rfl
    | cons a l ih => simp [ih]; omega
  rw [e1, e1] at hs
  have e2 : (SemA.grid (P * K) P).length = P * K * P := by
    unfold SemA.grid
    rw [List.length_flatMap]
    have e3 : ∀ n : Nat, ((List.range n).map fun _ => P).sum = n * P := fun n => by
      induction n with
      | zero => simp
      | succ n ih => rw [List.range_succ, List.map_append, List.sum_append_nat, ih, Nat.succ_mul]; simp
    simpa using e3 (P * K)
  rw [e2] at hs
  simpa using hs
/-- When nobody is left to be followed, all that follows is known. -/
theorem Inv.all (hi : Inv P K L L.length t.known.length [] c t) {r x : Int} (d : Der K (L.filter (rightU P K)) r x) : hasS t.known (r, x) = true := by
  have hrule : ∀ u ∈ L.filter (rightU P K), ∃ i : Nat, i < L.length ∧ ruleAt P K L i = some u := fun u hu => by
    obtain ⟨h1, h2⟩ := List.mem_filter.1 hu
    obtain ⟨i, hlt, e⟩ := List.getElem_of_mem h1
    exact ⟨i, hlt, by rw [ruleAt_nat (by rw [List.getElem?_eq_getElem hlt, e]), h2]; rfl⟩
  have hdone : ∀ {f : Fa}, hasS t.known f = true → ∃ j, ∃ s : Sp, t.known[j]? = some s ∧ s.fa = f ∧ j < t.known.length ∧ ∀ y ∈ t.watch f.1, Done P K L t (t.known.take (j + 1)) f.2 y := fun {f} hf => by
    obtain ⟨s, hs, rfl⟩ := hasS_iff.1 hf
    obtain ⟨j, hlt, e⟩ := List.getElem_of_mem hs
    have e2 : t.known[j]? = some s := by rw [List.getElem?_eq_getElem hlt, e]
    refine ⟨j, s, e2, rfl, hlt, fun y hy => ?_⟩
    rcases hi.cl j hlt s e2 y hy with ⟨q, _⟩ | q
    · cases q
    · exact q
  have hin : ∀ {j k : Nat} {s : Sp}, t.known[j]? = some s → j < k → hasS (t.known.take k) s.fa = true := fun {j k s} e hjk => hasS_iff.2 ⟨s, by
    have : (t.known.take k)[j]? = some s := by rw [List.getElem?_take_of_lt hjk]; exact e
    exact List.mem_of_getElem? this, rfl⟩
  induction d with
  | mem u hu k =>
    obtain ⟨i, hlt, e⟩ := hrule u hu
    exact (hi.stat i hlt u e).1 k
  | incl u x hu k _ ih =>
    obtain ⟨i, hlt, e⟩ := hrule u hu
    obtain ⟨j, s, _, _, _, hd⟩ := hdone ih
    have := hd _ ((hi.stat i hlt u e).2.1 (by omega))
    have hD := ruleD_of e
    unfold Done at this
    simp only [hD] at this
    exact this.1 k
  | link u x y hu k _ _ i1 i2 =>
    obtain ⟨i, hlt, e⟩ := hrule u hu
    have hD := ruleD_of e
    obtain ⟨j, s, e1, e2, _, hd⟩ := hdone i1
    have h1 := hd _ ((hi.stat i hlt u e).2.1 (by omega))
    unfold Done at h1
    simp only [hD] at h1
    have h2 := h1.2.2.1 k trivial
    obtain ⟨j2, s2, _, _, _, hd2⟩ := hdone i2
    have h3 := hd2 _ h2
    unfold Done at h3
    simp only [hD] at h3
    refine h3.2.2.2 k ?_
    have := (chk_rng _ _ hi.ck s (List.mem_of_getElem? e1)).2.1
    have e3 : s.who = x := congrArg Prod.snd e2
    omega
  | both u x hu k _ _ i1 i2 =>
    obtain ⟨i, hlt, e⟩ := hrule u hu
    have hD := ruleD_of e
    obtain ⟨j1, s1, a1, a2, a3, hd1⟩ := hdone i1
    obtain ⟨j2, s2, b1, b2, b3, hd2⟩ := hdone i2
    by_cases hj : j1 ≤ j2
    · have h1 := hd2 _ ((hi.stat i hlt u e).2.2 k)
      unfold Done at h1
      simp only [hD] at h1
      exact h1.2.1 k (a2 ▸ hin a1 (by omega)) (b2 ▸ hin b1 (by omega))
    · have h1 := hd1 _ ((hi.stat i hlt u e).2.1 (by omega))
      unfold Done at h1
      simp only [hD] at h1
      exact h1.2.1 k (a2 ▸ hin a1 (by omega)) (b2 ▸ hin b1 (by omega))
theorem Inv.der (hi : Inv P K L L.length t.known.length [] c t) (r x : Int) : hasS t.known (r, x) = derB P K L r x := by
  rw [Bool.eq_iff_iff, derB_iff]
  exact ⟨fun h => chk_sound hi.ck (f := (r, x)) h, fun d => Inv.all hi d⟩
end Go.Proofs.Ytihhojgnilbfnaa.PfO
/- Telling a proof: the maths. Steps are told each behind those that it stands on. -/
namespace Go.Proofs.Ytihhojgnilbfnaa.PfJ
set_option linter.unusedVariables false
set_option linter.unusedSimpArgs false
open Go.Proofs.Ytihhojgnilbfnaa.TblB Go.Proofs.Ytihhojgnilbfnaa.TblC Go.Proofs.Ytihhojgnilbfnaa.TblV Go.Proofs.Ytihhojgnilbfnaa.TblP Go.Proofs.Ytihhojgnilbfnaa.TblQ Go.Proofs.Ytihhojgnilbfnaa.SemA Go.Proofs.Ytihhojgnilbfnaa.PfM Go.Proofs.Ytihhojgnilbfnaa.PfN Go.Proofs.Ytihhojgnilbfnaa.PfO
set_option linter.unusedVariables false
set_option linter.unusedSimpArgs false
/-- A step stands on a fact. -/
def needs (K : Nat) (L : List Ru) (x : Sp) (f : Fa) : Prop := f ∈ under K (ruleD L x.rule) x
/-- Each of these steps is asked for, or a later one stands on it. -/
def Need (K : Nat) (L : List Ru) (D : List Sp) (l : List Fa) : Prop := ∀ (a : Nat) (x : Sp), D[a]? = some x → x.fa ∈ l ∨ ∃ b y, a < b ∧ D[b]? = some y ∧ needs K L y x.fa
theorem Need.nil (K : Nat) (L : List Ru) (l : List Fa) : Need K L [] l := fun a x h => by simp at h
theorem Need.mono {K : Nat} {L : List Ru} {D : List Sp} {l l' : List Fa} (h : Need K L D l) (hl : ∀ f ∈ l, f ∈ l') : Need K L D l' := fun a x hx => (h a x hx).imp (hl _) id
theorem Need.app {K : Nat} {L : List Ru} {D E : List Sp} {l : List Fa} (h : Need K L D l) (h2 : Need K L E l) : Need K L (D ++ E) l := fun a x hx => by
  by_cases ha : a < D.length
  · rw [List.getElem?_append_left ha] at hx
    rcases h a x hx with q | ⟨b, y, q1, q2, q3⟩
    · exact .inl q
    · exact .inr ⟨b, y, q1, by rw [List.getElem?_append_left (List.getElem?_eq_some_iff.1 q2).1]; exact q2, q3⟩
  · rw [List.getElem?_append_right (by omega)] at hx
    rcases h2 _ x hx with q | ⟨b, y, q1, q2, q3⟩
    · exact .inl q
    · exact .inr ⟨D.length + b, y, by omega, by rw [List.getElem?_append_right (by omega), Nat.add_sub_cancel_left]; exact q2, q3⟩
/-- The step that stands on all that was asked for comes last. -/
theorem Need.last {K : Nat} {L : List Ru} {D : List Sp} {s : Sp} (h : Need K L D (under K (ruleD L s.rule) s)) : Need K L (D ++ [s]) [s.fa] := fun a x hx => by
  by_cases ha : a < D.length
  · rw [List.getElem?_append_left ha] at hx
    rcases h a x hx with q | ⟨b, y, q1, q2, q3⟩
    · exact .inr ⟨D.length, s, ha, by rw [List.getElem?_append_right (by omega)]; simp, q⟩
    · exact .inr ⟨b, y, q1, by rw [List.getElem?_append_left (List.getElem?_eq_some_iff.1 q2).1]; exact q2, q3⟩
  · rw [List.getElem?_append_right (by omega)] at hx
    have : a - D.length = 0 := by
      rcases Nat.eq_zero_or_pos (a - D.length) with h | h
      · exact h
      · rw [List.getElem?_eq_none (by simp; omega)] at hx; cases hx
    rw [this] at hx
    simp at hx
    subst hx
    exact .inl (by simp)
structure Ctx where
  P : Nat
  K : Nat
  L : List Ru
  kn : List Sp
  ck : chk P K L [] kn = true
/-- What was told: facts that are told, or are being told (pend); the steps. -/
structure TolS (c : Ctx) (told : List Fa) (T : List Sp) (pend : List Fa) : Prop where
  ck : chk c.P c.K c.L [] T = true
  sub : ∀ s ∈ T, s ∈ c.kn
  mem : ∀ f, f ∈ told ↔ hasS T f = true ∨ f ∈ pend
  nd : told.Nodup
  tk : ∀ f ∈ told, hasS c.kn f = true
  pn : ∀ f ∈ pend, hasS T f = false
theorem nodup_len {A B : List Fa} (hn : A.Nodup) (h : ∀ f ∈ A, f ∈ B) : A.length ≤ B.length := by
  have := SemA.sum_sub (fun _ => 1) A B hn h
  have e1 : ∀ (l : List Fa), (l.map fun _ => 1).sum = l.length := fun l => by induction l with
    | nil => rfl
    | cons a l ih => simp [ih]; omega
  rwa [e1, e1] at this
theorem TolS.len {c : Ctx} {told : List Fa} {T : List Sp} {pend : List Fa} (h : TolS c told T pend) : told.length ≤ c.P * c.K * c.P ∧ T.length ≤ c.P * c.K * c.P := by
  refine ⟨?_, chk_len h.ck⟩
  have h1 := nodup_len (B := c.kn.map Sp.fa) h.nd (fun f hf => by
    obtain ⟨s, hs, e⟩ := hasS_iff.1 (h.tk f hf)
    exact List.mem_map.2 ⟨s, hs, e⟩)
  rw [List.length_map] at h1
  exact Nat.le_trans h1 (chk_len c.ck)
/-- What telling one leaves. -/
structure TellTo (c : Ctx) (i : Nat) (f : Fa) (told : List Fa) (T : List Sp) (pend : List Fa) (told' : List Fa) (T' : List Sp) (D : List Sp) : Prop where
  eq : T' = T ++ D
  td : TolS c told' T' pend
  inn : ∀ s ∈ D, s ∈ c.kn.take (i + 1)
  has : hasS T' f = true
  need : Need c.K c.L D [f]
  last : f ∉ told → ∃ D' s, D = D' ++ [s] ∧ s.fa = f
theorem nd_kn (c : Ctx) : (c.kn.map Sp.fa).Nodup := by simpa using chk_nd c.kn [] c.ck (by simp)
theorem kn_one {c : Ctx} {i j : Nat} {s x : Sp} (h : c.kn[i]? = some s) (h' : c.kn[j]? = some x) (e : s.fa = x.fa) : i = j := by
  have hn := nd_kn c
  obtain ⟨l1, e1⟩ := List.getElem?_eq_some_iff.1 h
  obtain ⟨l2, e2⟩ := List.getElem?_eq_some_iff.1 h'
  have := List.getElem_inj (xs := c.kn.map Sp.fa) (i := i) (j := j) (h₀ := by simpa using l1) (h₁ := by simpa using l2) hn
  rw [← this]
  simp [e1, e2, e]
theorem not_take {c : Ctx} {i : Nat} {s : Sp} (h : c.kn[i]? = some s) {A : List Sp} (hA : ∀ x ∈ A, x ∈ c.kn.take i) : hasS A s.fa = false := by
  rw [Bool.eq_false_iff]
  intro q
  obtain ⟨x, hx, e⟩ := hasS_iff.1 q
  obtain ⟨j, hj, ej⟩ := List.getElem_of_mem (hA x hx)
  rw [List.length_take] at hj
  have : c.kn[j]? = some x := by
    rw [List.getElem_take] at ej
    rw [List.getElem?_eq_getElem (by omega), ej]
  have := kn_one h this e.symm
  omega
/-- The steps of what is known stand on those ahead. -/
theorem chk_at {P K : Nat} {L : List Ru} : ∀ (l A : List Sp) (i : Nat) (s : Sp), chk P K L A l = true → l[i]? = some s → okS P K L (A ++ l.take i) s = true
  | [], A, i, s, _, h => by simp at h
  | x :: l, A, 0, s, hc, h => by
    simp only [chk, Bool.and_eq_true] at hc
    simp at h
    subst h
    simpa using hc.1.1
  | x :: l, A, i + 1, s, hc, h => by
    simp only [chk, Bool.and_eq_true] at hc
    have := chk_at l (A ++ [x]) i s hc.2 (by simpa using h)
    simpa using this
theorem ctx_at (c : Ctx) {i : Nat} {s : Sp} (h : c.kn[i]? = some s) : ∃ u, ruleAt c.P c.K c.L s.rule = some u ∧ fitB c.P u s = true ∧ (∀ f ∈ under c.K u s, hasS (c.kn.take i) f = true) ∧ okS c.P c.K c.L (c.kn.take i) s = true := by
  have h1 := chk_at c.kn [] i s c.ck h
  rw [List.nil_append] at h1
  obtain ⟨u, a1, a2, a3, _⟩ := okS_rng h1
  exact ⟨u, a1, a2, a3, h1⟩
/-- It was told already. -/
theorem TellTo.already {c : Ctx} {i : Nat} {f : Fa} {told : List Fa} {T : List Sp} {pend : List Fa} (h : TolS c told T pend) (hf : f ∈ told) (hp : f ∉ pend) : TellTo c i f told T pend told T [] :=
  ⟨by simp, h, (fun s hs => by cases hs), ((h.mem f).1 hf).resolve_right hp, Need.nil _ _ _, fun q => absurd hf q⟩
/-- It is being told. -/
theorem TolS.begin {c : Ctx} {i : Nat} {s : Sp} {told : List Fa} {T : List Sp} {pend : List Fa} (h : TolS c told T pend) (hs : c.kn[i]? = some s) (hn : s.fa ∉ told) : TolS c (told ++ [s.fa]) T (s.fa :: pend) where
  ck := h.ck
  sub := h.sub
  mem := fun f => by
    rw [List.mem_append, h.mem, List.mem_singleton, List.mem_cons]
    constructor
    · rintro ((q | q) | q)
      · exact .inl q
      · exact .inr (.inr q)
      · exact .inr (.inl q)
    · rintro (q | q | q)
      · exact .inl (.inl q)
      · exact .inr q
      · exact .inl (.inr q)
  nd := by
    rw [List.nodup_append]
    refine ⟨h.nd, by simp, fun a ha b hb => ?_⟩
    simp at hb
    subst hb
    rintro rfl
    exact hn ha
  tk := fun f hf => by
    rcases List.mem_append.1 hf with q | q
    · exact h.tk f q
    · simp at q
      subst q
      exact hasS_iff.2 ⟨s, List.mem_of_getElem? hs, rfl⟩
  pn := fun f hf => by
    rcases List.mem_cons.1 hf with rfl | q
    · rw [Bool.eq_false_iff]
      exact fun q => hn ((h.mem _).2 (.inl q))
    · exact h.pn f q
/-- What stands while those that the step stands on are told. -/
structure Mid (c : Ctx) (i : Nat) (s : Sp) (l : List Fa) (told0 : List Fa) (T0 : List Sp) (pend : List Fa) (told : List Fa) (T : List Sp) : Prop where
  ex : ∃ D, T = T0 ++ D ∧ (∀ x ∈ D, x ∈ c.kn.take i) ∧ Need c.K c.L D l ∧ (∀ f ∈ l, hasS T f = true)
  td : TolS c told T (s.fa :: pend)
theorem Mid.start {c : Ctx} {i : Nat} {s : Sp} {told : List Fa} {T : List Sp} {pend : List Fa} (h : TolS c told T pend) (hs : c.kn[i]? = some s) (hn : s.fa ∉ told) : Mid c i s [] told T pend (told ++ [s.fa]) T :=
  ⟨⟨[], by simp, (fun x hx => by cases hx), Need.nil _ _ _, fun f hf => by cases hf⟩, h.begin hs hn⟩
theorem Mid.next {c : Ctx} {i k : Nat} {s : Sp} {l : List Fa} {f : Fa} {told0 : List Fa} {T0 : List Sp} {pend : List Fa} {told told' : List Fa} {T T' D : List Sp} (h : Mid c i s l told0 T0 pend told T) (hk : k < i) (ht : TellTo c k f told T (s.fa :: pend) told' T' D) : Mid c i s (l ++ [f]) told0 T0 pend told' T' := by
  obtain ⟨⟨D0, e0, i0, n0, a0⟩, td⟩ := h
  refine ⟨⟨D0 ++ D, by rw [ht.eq, e0, List.append_assoc], fun x hx => ?_, ?_, fun g hg => ?_⟩, ht.td⟩
  · rcases List.mem_append.1 hx with q | q
    · exact i0 x q
    · have := ht.inn x q
      have e : c.kn.take (k + 1) = (c.kn.take i).take (k + 1) := by rw [List.take_take]; congr 1; omega
      rw [e] at this
      exact List.mem_of_mem_take this
  · exact Need.app (n0.mono (fun g hg => List.mem_append_left _ hg)) (ht.need.mono (fun g hg => List.mem_append_right _ hg))
  · rcases List.mem_append.1 hg with q | q
    · rw [ht.eq]; exact hasS_mono (a0 g q)
    · simp at q; subst q; exact ht.has
theorem Mid.done {c : Ctx} {i : Nat} {s : Sp} {u : Ru} {told0 : List Fa} {T0 : List Sp} {pend : List Fa} {told : List Fa} {T : List Sp} (hs : c.kn[i]? = some s) (hu : ruleAt c.P c.K c.L s.rule = some u) (h0 : TolS c told0 T0 pend) (hn : s.fa ∉ told0) (h : Mid c i s (under c.K u s) told0 T0 pend told T) : ∃ D, TellTo c i s.fa told0 T0 pend told (T ++ [s]) D := by
  obtain ⟨⟨D0, e0, i0, n0, a0⟩, td⟩ := h
  obtain ⟨u', hu', hf, _, hok⟩ := ctx_at c hs
  rw [hu] at hu'
  cases hu'
  have hnT : hasS T s.fa = false := td.pn _ (by simp)
  have hD := ruleD_of hu
  refine ⟨D0 ++ [s], by rw [e0, List.append_assoc], ?_, fun x hx => ?_, by rw [hasS_app, hasS_one]; simp, ?_, fun _ => ⟨D0, s, rfl, rfl⟩⟩
  · exact {
      ck := by
        rw [chk_snoc, td.ck, List.nil_append, hnT]
        have : okS c.P c.K c.L T s = true := by
          unfold okS
          simp only [hu, hf, Bool.true_and, List.all_eq_true]
          exact a0
        rw [this]; rfl
      sub := fun x hx => by
        rcases List.mem_append.1 hx with q | q
        · exact td.sub x q
        · simp at q; subst q; exact List.mem_of_getElem? hs
      mem := fun f => by
        rw [td.mem, hasS_app, hasS_one, Bool.or_eq_true, decide_eq_true_eq, List.mem_cons]
        constructor
        · rintro (q | q | q)
          · exact .inl (.inl q)
          · exact .inl (.inr q.symm)
          · exact .inr q
        · rintro ((q | q) | q)
          · exact .inl q
          · exact .inr (.inl q.symm)
          · exact .inr (.inr q)
      nd := td.nd
      tk := td.tk
      pn := fun f hf2 => by
        rw [hasS_app, td.pn f (by simp [hf2]), hasS_one, Bool.false_or, decide_eq_false_iff_not]
        rintro rfl
        exact hn ((h0.mem _).2 (.inr hf2)) }
  · rcases List.mem_append.1 hx with q | q
    · have := i0 x q
      have e : c.kn.take i = (c.kn.take (i + 1)).take i := by rw [List.take_take]; congr 1; omega
      rw [e] at this
      exact List.mem_of_mem_take this
    · simp at q
      rw [q]
      have : (c.kn.take (i + 1))[i]? = some s := by rw [List.getElem?_take_of_lt (by omega)]; exact hs
      exact List.mem_of_getElem? this
  · refine Need.last ?_
    rw [hD]; exact n0
end Go.Proofs.Ytihhojgnilbfnaa.PfJ
/- The looking for steps: each watch of the one who is followed, in turn. -/
namespace Go.Proofs.Ytihhojgnilbfnaa.PfP
set_option linter.unusedVariables false
set_option linter.unusedSimpArgs false
open Go.Proofs.Ytihhojgnilbfnaa.TblB Go.Proofs.Ytihhojgnilbfnaa.TblC Go.Proofs.Ytihhojgnilbfnaa.TblV Go.Proofs.Ytihhojgnilbfnaa.TblP Go.Proofs.Ytihhojgnilbfnaa.TblQ Go.Proofs.Ytihhojgnilbfnaa.SemA Go.Proofs.Ytihhojgnilbfnaa.PfM Go.Proofs.Ytihhojgnilbfnaa.PfN Go.Proofs.Ytihhojgnilbfnaa.PfO
set_option linter.unusedVariables false
set_option linter.unusedSimpArgs false
variable {P K : Nat} {L : List Ru} {T h c : Nat} {t : Ss}
def foT (P K : Nat) (L : List Ru) (l : List (Int × Int)) (x : Int) (t : Ss) (k : Nat) : Ss := (l.take k).foldl (stepM P K L · x) t
theorem foT_succ (l : List (Int × Int)) (x : Int) (t : Ss) {k : Nat} (hk : k < l.length) : foT P K L l x t (k + 1) = stepM P K L (foT P K L l x t k) x l[k] := by
  unfold foT
  rw [List.take_succ_eq_append_getElem hk, List.foldl_append]
  rfl
theorem foT_all (l : List (Int × Int)) (x : Int) (t : Ss) : foT P K L l x t l.length = l.foldl (stepM P K L · x) t := by
  unfold foT
  rw [List.take_length]
theorem anyN_cons (y : Int × Int) (l : List (Int × Int)) : anyN (y :: l) = bump y + anyN l := by
  unfold anyN bump
  rw [List.filter_cons]
  by_cases e : y.2 = -1
  · simp [e]; omega
  · simp [e]
theorem anyN_append (l m : List (Int × Int)) : anyN (l ++ m) = anyN l + anyN m := by unfold anyN; simp
theorem follow_at {s : Sp} (hi : Inv P K L T h [] c t) (hs : t.known[h]? = some s) : ∀ k, k ≤ (t.watch s.role).length →
    Inv P K L T (h + 1) ((t.watch s.role).drop k) (c + anyN ((t.watch s.role).take k)) (foT P K L (t.watch s.role) s.who t k) ∧ (foT P K L (t.watch s.role) s.who t k).known[h]? = some s ∧ ∀ z ∈ t.watch s.role, z ∈ (foT P K L (t.watch s.role) s.who t k).watch s.role
  | 0, _ => ⟨by simpa [foT, anyN] using Inv.pop hi hs, by simpa [foT] using hs, fun z hz => by simpa [foT] using hz⟩
  | k + 1, hk => by
    obtain ⟨h1, h2, h3⟩ := follow_at hi hs k (by omega)
    rw [foT_succ _ _ _ (by omega)]
    have hd : (t.watch s.role).drop k = (t.watch s.role)[k] :: (t.watch s.role).drop (k + 1) := List.drop_eq_getElem_cons (by omega)
    rw [hd] at h1
    obtain ⟨g1, ⟨l, g2⟩, g3⟩ := Inv.step h1 (by omega) (by simpa using h2) (h3 _ (List.getElem_mem _))
    have he : anyN ((t.watch s.role).take (k + 1)) = anyN ((t.watch s.role).take k) + bump (t.watch s.role)[k] := by
      rw [List.take_succ_eq_append_getElem (by omega), anyN_append, anyN_cons]
      simp [anyN]
    rw [he, ← Nat.add_assoc]
    have hlt := h1.le
    exact ⟨g1, by rw [g2, List.getElem?_append_left (by omega)]; exact h2, fun z hz => g3 _ _ (h3 z hz)⟩
theorem anyN_take (l : List (Int × Int)) (k : Nat) : anyN (l.take k) ≤ anyN l := by
  have := anyN_append (l.take k) (l.drop k)
  rw [List.take_append_drop] at this
  omega
/-- What the walk wants of a watch that comes up. -/
structure AtK (P K : Nat) (L : List Ru) (t : Ss) (y : Int × Int) : Prop where
  i0 : 0 ≤ y.1
  i1 : y.1.toNat < L.length
  rt : rightU P K (ruleD L y.1) = true
  k1 : (ruleD L y.1).kind ≠ 1
  m3 : (ruleD L y.1).kind ≠ 3 → y.2 = -1
  kn : t.known.length ≤ P * K * P
  ln : ∀ r, (t.watch r).length ≤ t.nw
theorem at_k {s : Sp} (hi : Inv P K L T h [] c t) (hs : t.known[h]? = some s) (k : Nat) (hk : k < (t.watch s.role).length) :
    AtK P K L (foT P K L (t.watch s.role) s.who t k) (t.watch s.role)[k] ∧ (foT P K L (t.watch s.role) s.who t k).nw ≤ 2 * T + c + 2 * T ∧ (0 ≤ s.who ∧ s.who < P) := by
  obtain ⟨h1, h2, h3⟩ := follow_at hi hs k (by omega)
  have hw := h1.wok _ _ (h3 _ (List.getElem_mem hk))
  obtain ⟨⟨u, hu⟩, k1, hany, hmid⟩ := hw
  have hD := ruleD_of hu
  obtain ⟨r1, r2, r3, r4⟩ := ruleAt_some hu
  have ha := anyN_take (t.watch s.role) k
  have hb := hi.any s.role
  have hc := h1.cnt
  exact ⟨⟨r1, r2, by rw [hD]; exact r4, k1, fun q => Classical.byContradiction fun e => q (hmid e).1, chk_len h1.ck, h1.len⟩, by omega, (chk_rng _ _ h1.ck s (List.mem_of_getElem? h2)).2.1⟩
end Go.Proofs.Ytihhojgnilbfnaa.PfP
/- Maps by what they hold: values by keys. -/
namespace Go.Proofs.Ytihhojgnilbfnaa.PfA
set_option linter.unusedVariables false
set_option linter.unusedSimpArgs false
open Go.RowKit Go.Lib Go.Proofs Go.Maps Go.Proofs.Ytihhojgnilbfnaa.SemB
set_option linter.unusedVariables false
set_option linter.unusedSimpArgs false
theorem laidOut : laidOutB Try.prog = true := by kernel_rfl
abbrev RV (v : Value) : Option (DataW Value × List MemPlace) := some (.held v, [])
/-- Block b is a map of at most n entries, with these values by these keys. -/
def MapV {κ : Type} (w : World) (k : TypeId) (key : κ → Value) (b n : Nat) (M : κ → Option Value) : Prop :=
  ∃ D : DataW Value, w.ownsMap Try.prog k RV b n D ∧ ∀ f kl, keyOf Try.prog k (key f) = some kl → Maps.has D kl = (M f).isSome ∧ ∀ v, M f = some v → ∀ z, D.atKey kl z = .held v
section
variable {κ : Type} {w w' : World} {k t e : TypeId} {key : κ → Value} {b n : Nat} {M : κ → Option Value}
theorem MapV.made (w : World) (k : TypeId) (key : κ → Value) : MapV (w.alloc (.map #[] 0)) k key w.heap.size 0 (fun _ => none) :=
  ⟨.map [], World.ownsMap_made _ _ _ _, fun f kl h => ⟨rfl, fun v h => by cases h⟩⟩
theorem MapV.heap (h : MapV w k key b n M) (hb : w'.heap[b]? = w.heap[b]?) : MapV w' k key b n M := by
  obtain ⟨D, ⟨es, clock, h1, h2⟩, h3⟩ := h
  exact ⟨D, ⟨es, clock, hb.trans h1, h2⟩, h3⟩
theorem MapV.blk (h : MapV w k key b n M) : ∃ es clock, w.heap[b]? = some (.map es clock) := by
  obtain ⟨D, ⟨es, clock, h1, h2⟩, h3⟩ := h
  exact ⟨es, clock, h1⟩
theorem MapV.lt (h : MapV w k key b n M) : b < w.heap.size := by
  obtain ⟨es, clock, h⟩ := h.blk
  exact (Array.getElem?_eq_some_iff.1 h).1
theorem MapV.below (h : MapV w k key b n M) (hb : Below w.heap.size w w') : MapV w' k key b n M := h.heap (hb.block _ h.lt)
theorem MapV.mono {n' : Nat} (h : MapV w k key b n M) (hn : n ≤ n') : MapV w k key b n' M := by
  obtain ⟨D, h1, h3⟩ := h
  exact ⟨D, h1.mono hn, h3⟩
theorem MapV.look_ok (h : MapV w k key b n M) (K : Keyed Try.prog k) (ht : Try.prog.underlying t = some (.map k e)) {z : Value} (hz : (zeroValue e).run Try.prog w = .ok z w) {f : κ} {kl : Lit} (hkey : keyOf Try.prog k (key f) = some kl) :
    (Instr.lookup t (.map (some b)) (key f) true).run Try.prog w = .ok (.tuple #[(M f).getD z, .bool (M f).isSome]) w := by
  obtain ⟨D, h1, h2⟩ := h
  obtain ⟨v, ps, hr, hv⟩ := h1.look_ok K ht hz (zd := .held z) (zp := []) rfl hkey
  obtain ⟨a1, a2⟩ := h2 f kl hkey
  rw [hr, a1]
  simp only [RV, Option.some.injEq, Prod.mk.injEq] at hv
  cases hm : M f with
  | none =>
    rw [hm] at a1
    rw [atKey_of_not_has a1] at hv
    simp only [DataW.held.injEq] at hv
    rw [hv.1]; rfl
  | some x =>
    rw [a2 x hm] at hv
    simp only [DataW.held.injEq] at hv
    rw [hv.1]; rfl
theorem MapV.look (h : MapV w k key b n M) (K : Keyed Try.prog k) (ht : Try.prog.underlying t = some (.map k e)) {z : Value} (hz : (zeroValue e).run Try.prog w = .ok z w) {f : κ} {kl : Lit} (hkey : keyOf Try.prog k (key f) = some kl) :
    (Instr.lookup t (.map (some b)) (key f) false).run Try.prog w = .ok ((M f).getD z) w := by
  obtain ⟨D, h1, h2⟩ := h
  obtain ⟨v, ps, hr, hv⟩ := h1.lookup K ht hz (zd := .held z) (zp := []) rfl hkey
  obtain ⟨a1, a2⟩ := h2 f kl hkey
  rw [hr]
  simp only [RV, Option.some.injEq, Prod.mk.injEq] at hv
  cases hm : M f with
  | none =>
    rw [hm] at a1
    rw [atKey_of_not_has a1] at hv
    simp only [DataW.held.injEq] at hv
    rw [hv.1]; rfl
  | some x =>
    rw [a2 x hm] at hv
    simp only [DataW.held.injEq] at hv
    rw [hv.1]; rfl
def putK [DecidableEq κ] (M : κ → Option Value) (f : κ) (v : Value) : κ → Option Value := fun g => if g = f then some v else M g
theorem MapV.store [DecidableEq κ] (h : MapV w k key b n M) (K : Keyed Try.prog k) (ht : Try.prog.underlying t = some (.map k e)) (hn : n < maxLen) (hinj : ∀ f g, key f = key g → f = g) {f : κ} {kl : Lit} (hkey : keyOf Try.prog k (key f) = some kl) (v : Value) :
    ∃ w', (Instr.mapUpdate t (.map (some b)) (key f) v).run Try.prog w = .ok () w' ∧ MapV w' k key b (n + 1) (putK M f v) ∧ w.mapTurned w' b := by
  obtain ⟨D, h1, h2⟩ := h
  obtain ⟨w', r1, r2, r3⟩ := h1.store K ht hn hkey (val := v) (d := .held v) (ps := []) rfl
  refine ⟨w', r1, ⟨_, r2, fun g gl hg => ?_⟩, r3⟩
  unfold putK
  by_cases e : g = f
  · subst e
    rw [hkey] at hg
    cases hg
    rw [if_pos rfl]
    exact ⟨has_put_same h1.isMap (K.key hkey) _, fun x hx z => by cases hx; exact atKey_put_same h1.isMap (K.key hkey) _ z⟩
  · rw [if_neg e]
    have hne : gl ≠ kl := fun q => by
      subst q
      exact e (hinj _ _ (K.inj hg hkey))
    rw [has_put_other hne]
    refine ⟨(h2 g gl hg).1, fun x hx z => ?_⟩
    rw [atKey_put_other hne]
    exact (h2 g gl hg).2 x hx z
end
/-! ### facts as keys -/
set_option maxRecDepth 100000
def fv (f : Int × Int) : Value := .agg #[.int .i64 f.1, .int .i64 f.2]
def iv (r : Int) : Value := .int .i64 r
theorem fv_inj (f g : Int × Int) (h : fv f = fv g) : f = g := by
  unfold fv at h
  obtain ⟨a, b⟩ := f
  obtain ⟨c, d⟩ := g
  simp at h
  simp [h]
theorem iv_inj (f g : Int) (h : iv f = iv g) : f = g := by
  unfold iv at h
  simpa using h
theorem factRow : (53 : TypeId) < Try.prog.types.size := of_decide_eq_true (by kernel_rfl)
theorem factWide : (match Try.prog.underlying 53 with | some (.array _ _) | some (.struct _) => true | _ => false) = true := by kernel_rfl
theorem lawF : Keyed Try.prog 53 := Keyed.of_law (deep_law_laid laidOut (m := 2) (by omega) factRow (by kernel_rfl) factWide)
theorem lawI : Keyed Try.prog 3 := int_keyed Try.underlying3
theorem keyI {r : Int} (h : -9223372036854775808 ≤ r ∧ r ≤ 9223372036854775807) : keyOf Try.prog 3 (iv r) = some (.int .i64 r) := keyOf_int_mk Try.underlying3 (WalkArith.wf_i64 (by omega))
theorem cellsF : Try.prog.cellsOf 53 = 2 := by kernel_rfl
theorem cellsI : Try.prog.cellsOf 3 = 1 := by kernel_rfl
theorem keyTF : Try.prog.keyType 53 = true := by kernel_rfl
theorem sizeT : ∃ m, Try.prog.types.size + 1 = m + 2 := by
  have h : (0 : Nat) < Try.prog.types.size := Nat.lt_of_le_of_lt (Nat.zero_le _) factRow
  generalize Try.prog.types.size = s at h
  exact ⟨s - 1, by omega⟩
theorem litsF {a b : Int} (w1 : (Lit.int .i64 a).wf = true) (w2 : (Lit.int .i64 b).wf = true) (d : Nat) : Try.prog.keyLits (d + 2) 53 [.int .i64 a, .int .i64 b] = some [.int .i64 a, .int .i64 b] := by
  simp [Program.keyLits, Try.underlying53, Try.underlying3, cellsF, cellsI, w1, w2]
theorem keyF {f : Int × Int} (h1 : -9223372036854775808 ≤ f.1 ∧ f.1 ≤ 9223372036854775807) (h2 : -9223372036854775808 ≤ f.2 ∧ f.2 ≤ 9223372036854775807) : ∃ kl, keyOf Try.prog 53 (fv f) = some kl := by
  have w1 : (Lit.int .i64 f.1).wf = true := WalkArith.wf_i64 (by omega)
  have w2 : (Lit.int .i64 f.2).wf = true := WalkArith.wf_i64 (by omega)
  obtain ⟨m, hm⟩ := sizeT
  have hf : (fv f).formed Try.prog 53 = true := by simp [Value.formed, fv, Try.underlying53, cellsF]
  unfold keyOf
  rw [Try.underlying53]
  simp only [keyTF, hf, Bool.and_self, if_true]
  rw [hm]
  have e : (fv f).cells.toList = [.int .i64 f.1, .int .i64 f.2] := rfl
  rw [e, litsF w1 w2]
  exact ⟨_, rfl⟩
end Go.Proofs.Ytihhojgnilbfnaa.PfA
/- Pairs as cells. -/
namespace Go.Proofs.Ytihhojgnilbfnaa.SetQ
set_option linter.unusedVariables false
set_option linter.unusedSimpArgs false
open Go.RowKit Go.Lib Go.Proofs Go.Proofs.Ytihhojgnilbfnaa.Plain Go.Proofs.Ytihhojgnilbfnaa.TblB Go.Proofs.Ytihhojgnilbfnaa.TblC Go.Proofs.Ytihhojgnilbfnaa.TblF Go.Proofs.Ytihhojgnilbfnaa.TblV
set_option linter.unusedVariables false
set_option linter.unusedSimpArgs false
/-- Pairs as cells. -/
def encP : List (Int × Int) → List Value
  | [] => []
  | p :: l => .int .i64 p.1 :: .int .i64 p.2 :: encP l
theorem encP_len : ∀ l, (encP l).length = l.length * 2
  | [] => rfl
  | p :: l => by simp [encP, encP_len l]; omega
theorem encP_app : ∀ l k, encP (l ++ k) = encP l ++ encP k
  | [], _ => rfl
  | p :: l, k => by simp [encP, encP_app l k]
theorem encP_at : ∀ (l : List (Int × Int)) (j : Nat) (h : j < l.length), (encP l)[j * 2]? = some (.int .i64 l[j].1) ∧ (encP l)[j * 2 + 1]? = some (.int .i64 l[j].2)
  | [], _, h => absurd h (Nat.not_lt_zero _)
  | p :: l, 0, _ => ⟨rfl, rfl⟩
  | p :: l, j + 1, h => by
    have := encP_at l j (by simpa using h)
    have e : (j + 1) * 2 = j * 2 + 1 + 1 := by omega
    rw [e]
    simpa [encP] using this
end Go.Proofs.Ytihhojgnilbfnaa.SetQ
/- The search in memory: its map of what is known, its queue, the watches of each role; what a step leaves of it. -/
namespace Go.Proofs.Ytihhojgnilbfnaa.PfB
set_option linter.unusedVariables false
set_option linter.unusedSimpArgs false
open Go.RowKit Go.Lib Go.Proofs Go.Maps Go.Proofs.Ytihhojgnilbfnaa.SetQ Go.Proofs.Ytihhojgnilbfnaa.SetR Go.Proofs.Ytihhojgnilbfnaa.TblC Go.Proofs.Ytihhojgnilbfnaa.TblV Go.Proofs.Ytihhojgnilbfnaa.SemB Go.Proofs.Ytihhojgnilbfnaa.SemC Go.Proofs.Ytihhojgnilbfnaa.SemD Go.Proofs.Ytihhojgnilbfnaa.PfM Go.Proofs.Ytihhojgnilbfnaa.PfA
set_option linter.unusedVariables false
set_option linter.unusedSimpArgs false
/-- A slice value, of the call's own, that reads as pairs: it may begin within its block. -/
def Qu (w : World) (base : Nat) (v : Value) (L : List Fa) : Prop :=
  (v = .slice none 0 0 ∧ L = []) ∨ ∃ g o cap cur, v = .slice (some ⟨g, o, none⟩) L.length cap ∧ base ≤ g ∧ w.heap[g]? = some (.cells cur 53 (0, 0)) ∧ L.length ≤ cap ∧ cap ≤ maxLen ∧ o + cap * 2 ≤ cur.size ∧ ∀ j, (h : j < L.length) → cur[o + j * 2]? = some (.int .i64 L[j].1) ∧ cur[o + j * 2 + 1]? = some (.int .i64 L[j].2)
theorem Qu.keep {w w' : World} {base : Nat} {v : Value} {L : List Fa} (h : Qu w base v L) (hk : ∀ g, v.ownBlock = some g → w'.heap[g]? = w.heap[g]?) : Qu w' base v L := by
  rcases h with h | ⟨g, o, cap, cur, rfl, hb, hg, r⟩
  · exact .inl h
  · exact .inr ⟨g, o, cap, cur, rfl, hb, (hk g rfl).trans hg, r⟩
theorem Qu.blk {w : World} {base : Nat} {v : Value} {L : List Fa} (h : Qu w base v L) {g : Nat} (hg : v.ownBlock = some g) : base ≤ g ∧ ∃ cur, w.heap[g]? = some (.cells cur 53 (0, 0)) := by
  rcases h with ⟨rfl, _⟩ | ⟨g', o, cap, cur, rfl, hb, hh, r⟩
  · simp [Value.ownBlock] at hg
  · simp [Value.ownBlock] at hg
    subst hg
    exact ⟨hb, cur, hh⟩
theorem infoFa : (Try.prog.info? 53).map (fun i => (i.zero, i.size, i.bytes)) = some (some (.agg #[.int .i64 0, .int .i64 0]), 2, 16) := by kernel_rfl
/-- One who came in is put behind the queue. -/
theorem run_append_qu {w : World} {base : Nat} {qv : Value} {q : List Fa} (ty : TypeId) (hq : Qu w base qv q) (hb : base ≤ w.heap.size) (hl : q.length ≤ 100000000) (r x : Int) (ad : Addr) (c : Nat)
    (hnews : ∀ j u, ([.int .i64 r, .int .i64 x] : List Value)[j]? = some u → w.cell? (ad.add j) = some u) :
    ∃ v' w', (Builtin.append_ #[60, 60] ty #[qv, .slice (some ad) 1 c]).run Try.prog w = .ok v' w' ∧ Qu w' base v' (q ++ [(r, x)]) ∧ w.grownBy w' qv.ownBlock ∧ Moves w qv.ownBlock v'.ownBlock := by
  obtain ⟨i0, hi, hz0, hz1, hz2⟩ := info_parts infoFa
  have hm : maxLen = 9223372036854775807 := rfl
  rcases hq with ⟨rfl, rfl⟩ | ⟨g, o, cap, cur, rfl, hB, hg, hc, hcm, hs, hat⟩
  · have hr := run_append_nil (P := Try.prog) w 60 ty 53 i0 (.agg #[.int .i64 0, .int .i64 0]) Try.underlying60 hi hz0 ad 1 c [.int .i64 r, .int .i64 x] (by rw [hz1]; rfl) hnews (by omega) (by omega) (by rw [hz2]; omega)
    refine ⟨_, _, hr, .inr ⟨w.heap.size, 0, _, _, rfl, hb, heap_alloc_new w.drew _, grownCap_ge w 1 0 _, grownCap_le_maxLen w 1 0 _ (by omega), ?_, ?_⟩, ⟨rfl, rfl, rfl, by simp, fun k hk _ => heap_alloc_old w.drew _ hk⟩, .inr ⟨_, rfl, Nat.le_refl _⟩⟩
    · have := grownCap_ge w 1 0 53
      have h2 : (Value.agg #[.int .i64 0, .int .i64 0]).cells.size = 2 := rfl
      simp only [Array.size_append, List.size_toArray, size_zeroCells, h2, List.length_cons, List.length_nil]
      omega
    · intro j hj
      have : j = 0 := by simp at hj; omega
      subst this
      exact ⟨by rw [Array.getElem?_append_left (by simp)]; rfl, by rw [Array.getElem?_append_left (by simp)]; rfl⟩
  · have hcs : cur.toList.length = cur.size := by simp
    by_cases hroom : q.length + 1 ≤ cap
    · have hr := run_append_room_off (P := Try.prog) w 60 ty 53 i0 Try.underlying60 hi g o q.length cap cur hg ad 1 c [.int .i64 r, .int .i64 x] (by rw [hz1]; rfl) hnews (fun u hu => by simp at hu; rcases hu with rfl | rfl <;> rfl) hroom (by rw [hz1]; simp; omega)
      rw [hz1] at hr
      have hsz : (cur.toList.take (o + q.length * 2) ++ [Value.int .i64 r, .int .i64 x] ++ cur.toList.drop (o + q.length * 2 + 2)).length = cur.size := by
        simp only [List.length_append, List.length_take, List.length_drop, Array.length_toList, List.length_cons, List.length_nil]
        omega
      refine ⟨_, _, hr, .inr ⟨g, o, cap, _, by rw [List.length_append]; rfl, hB, setRow_heap w g cur _ _ _ hg, by rw [List.length_append]; exact hroom, hcm, by simp only [List.size_toArray]; exact Nat.le_trans hs (Nat.le_of_eq hsz.symm), ?_⟩, ⟨rfl, rfl, rfl, by simp, fun k _ hk => setRow_other w g k _ (fun e => hk (by simp [Value.ownBlock, e]))⟩, .inl rfl⟩
      intro j hj
      have htl : (cur.toList.take (o + q.length * 2)).length = o + q.length * 2 := by rw [List.length_take, hcs]; omega
      simp only [List.getElem?_toArray, List.append_assoc]
      by_cases hjl : j < q.length
      · obtain ⟨a1, a2⟩ := hat j hjl
        rw [List.getElem?_append_left (by rw [htl]; omega), List.getElem?_append_left (by rw [htl]; omega), List.getElem?_take_of_lt (by omega), List.getElem?_take_of_lt (by omega), List.getElem_append_left hjl]
        simp only [Array.getElem?_toList]
        exact ⟨a1, a2⟩
      · have : j = q.length := by simp at hj; omega
        subst this
        obtain ⟨m1, m2⟩ := mid_two (cur.toList.take (o + q.length * 2)) (cur.toList.drop (o + q.length * 2 + 2)) (.int .i64 r) (.int .i64 x) htl
        refine ⟨m1.trans ?_, m2.trans ?_⟩ <;> simp
    · have hcl : ∀ j u, (encP q)[j]? = some u → w.cell? ((⟨g, o, none⟩ : Addr).add j) = some u := fun j u hu => by
        have hj : j < q.length * 2 := by
          rw [← encP_len]
          rcases Nat.lt_or_ge j (encP q).length with h | h
          · exact h
          · rw [List.getElem?_eq_none h] at hu; cases hu
        obtain ⟨b1, b2⟩ := encP_at q (j / 2) (by omega)
        obtain ⟨a1, a2⟩ := hat (j / 2) (by omega)
        rw [add_off, Lib.cell_of_heap hg]
        rcases (by omega : j = j / 2 * 2 ∨ j = j / 2 * 2 + 1) with e | e
        · rw [← e] at a1 b1; rw [a1, ← b1, hu]
        · rw [Nat.add_assoc, ← e] at a2; rw [← e] at b2; rw [a2, ← b2, hu]
      have hr := run_append_grow (P := Try.prog) w 60 ty 53 i0 (.agg #[.int .i64 0, .int .i64 0]) Try.underlying60 hi hz0 ⟨g, o, none⟩ q.length cap (encP q) (by rw [hz1, encP_len]) hcl ad 1 c [.int .i64 r, .int .i64 x] (by rw [hz1]; rfl) hnews (by omega) (by omega) (growslice_fits (by omega) (by rw [hz2]; omega))
      have hge := grownCap_ge w (q.length + 1) cap 53
      refine ⟨_, _, hr, .inr ⟨w.heap.size, 0, _, _, by rw [List.length_append]; rfl, hb, heap_alloc_new w.drew _, by rw [List.length_append]; exact hge, grownCap_le_maxLen w (q.length + 1) cap _ (by omega), ?_, ?_⟩, ⟨rfl, rfl, rfl, by simp, fun k hk _ => heap_alloc_old w.drew _ hk⟩, .inr ⟨_, rfl, Nat.le_refl _⟩⟩
      · have h2 : (Value.agg #[.int .i64 0, .int .i64 0]).cells.size = 2 := rfl
        simp only [Array.size_append, List.size_toArray, size_zeroCells, h2, List.length_cons, List.length_nil, encP_len]
        omega
      · intro j hj
        have e : (encP q).toArray ++ #[Value.int .i64 r, .int .i64 x] = (encP (q ++ [(r, x)])).toArray := by rw [encP_app]; simp [encP]
        have e2 : (encP q).toArray ++ [Value.int .i64 r, .int .i64 x].toArray = (encP (q ++ [(r, x)])).toArray := e
        rw [e2]
        obtain ⟨b1, b2⟩ := encP_at (q ++ [(r, x)]) j hj
        have hsz : (encP (q ++ [(r, x)])).toArray.size = (q ++ [(r, x)]).length * 2 := by simp [encP_len]
        rw [Array.getElem?_append_left (by rw [hsz]; omega), Array.getElem?_append_left (by rw [hsz]; omega), Nat.zero_add]
        simp only [List.getElem?_toArray]
        exact ⟨b1, b2⟩
/-- The queue's head, and what is behind it. -/
theorem qu_pop {w : World} {base : Nat} {qv : Value} {cur : Fa} {rest : List Fa} (h : Qu w base qv (cur :: rest)) : ∃ g o cap, qv = .slice (some ⟨g, o, none⟩) (rest.length + 1) cap ∧ rest.length + 1 ≤ cap ∧ cap ≤ maxLen ∧
    ∀ w', Qu w' base qv (cur :: rest) → w'.cell? ⟨g, o, none⟩ = some (.int .i64 cur.1) ∧ w'.cell? ⟨g, o + 1, none⟩ = some (.int .i64 cur.2) ∧ (cap = 1 → Qu w' base (.slice (some ⟨g, o, none⟩) 0 0) rest) ∧ (cap ≠ 1 → Qu w' base (.slice (some ⟨g, o + 2, none⟩) rest.length (cap - 1)) rest) := by
  rcases h with ⟨rfl, h0⟩ | ⟨g, o, cap, arr, rfl, hb, hh, hc, hm, hs, hat⟩
  · cases h0
  · simp only [List.length_cons] at hc
    refine ⟨g, o, cap, rfl, hc, hm, fun w' h' => ?_⟩
    rcases h' with ⟨e, _⟩ | ⟨g', o', cap', arr', e, hb', hh', hc', hm', hs', hat'⟩
    · cases e
    · injection e with e1 e2 e3
      injection e1 with e1
      injection e1 with e1 e4 _
      subst e1; subst e3; subst e4
      obtain ⟨a1, a2⟩ := hat' 0 (by simp)
      rw [Nat.zero_mul, Nat.add_zero] at a1 a2
      refine ⟨by rw [Lib.cell_of_heap hh']; exact a1, by rw [Lib.cell_of_heap hh']; exact a2, fun hc1 => ?_, fun hc1 => ?_⟩
      · have hr : rest = [] := List.eq_nil_of_length_eq_zero (by omega)
        subst hr
        exact .inr ⟨g, o, 0, arr', rfl, hb', hh', Nat.le_refl _, Nat.zero_le _, by omega, fun j hj => by simp at hj⟩
      · refine .inr ⟨g, o + 2, cap - 1, arr', rfl, hb', hh', by omega, by omega, by omega, fun j hj => ?_⟩
        obtain ⟨b1, b2⟩ := hat' (j + 1) (by simp; omega)
        have e5 : o + (j + 1) * 2 = o + 2 + j * 2 := by omega
        rw [e5] at b1 b2
        exact ⟨b1, b2⟩

def Sp.cells (s : Sp) : Array Value := #[.int .i64 s.rule, .int .i64 s.role, .int .i64 s.who, .int .i64 s.mid]
def Sp.val (s : Sp) : Value := .agg #[.int .i64 s.rule, .int .i64 s.role, .int .i64 s.who, .int .i64 s.mid]
/-- What is known, as a map. -/
def kmap (kn : List Sp) (f : Fa) : Option Value := (kn.find? fun s => decide (s.fa = f)).map Sp.val
theorem kmap_some (kn : List Sp) (f : Fa) : (kmap kn f).isSome = hasS kn f := by
  unfold kmap hasS
  rw [Option.isSome_map]
  induction kn with
  | nil => rfl
  | cons s l ih =>
    rw [List.find?_cons, List.any_cons]
    cases decide (s.fa = f)
    · simpa using ih
    · rfl
theorem kmap_put {kn : List Sp} {s : Sp} (h : hasS kn s.fa = false) : putK (kmap kn) s.fa (Sp.val s) = kmap (kn ++ [s]) := by
  funext g
  unfold putK
  by_cases e : g = s.fa
  · subst e
    rw [if_pos rfl]
    unfold kmap
    have hn : kn.find? (fun x => decide (x.fa = s.fa)) = none := by
      rw [List.find?_eq_none]
      intro x hx q
      have : hasS kn s.fa = true := hasS_iff.2 ⟨x, hx, by simpa using q⟩
      rw [h] at this
      cases this
    rw [List.find?_append, hn]
    simp
  · rw [if_neg e]
    unfold kmap
    rw [List.find?_append]
    cases kn.find? (fun x => decide (x.fa = g)) with
    | some x => rfl
    | none => simp [Ne.symm e]
def nilS : Value := .slice none 0 0
def rowV (M : Int → Option Value) (r : Int) : Value := (M r).getD nilS
/-- Where the search lies, and its numbers. -/
structure Ad where
  ws : Nat
  bk : Nat
  bw : Nat
  d0 : Int
  d1 : Int
  A : Option Addr
  ca : Nat
  L : List Ru
/-- The search in memory, above W. -/
structure Wk (W w : World) (a : Ad) (kn : List Sp) (q : List Fa) (wt : Int → List (Int × Int)) (nw : Nat) (qv : Value) (M : Int → Option Value) : Prop where
  bel : Below W.heap.size W w
  wb : w.heap[a.ws]? = some (.cells #[.int .i64 a.d0, .int .i64 a.d1, .slice a.A a.L.length a.ca, .map (some a.bk), qv, .map (some a.bw)] 81 (0, 0))
  ug : UG W a.A a.L
  km : MapV w 53 fv a.bk kn.length (kmap kn)
  wm : MapV w 3 iv a.bw nw M
  ne : a.bk ≠ a.bw
  qu : Qu w W.heap.size qv q
  rows : ∀ r, w.ownsRow W.heap.size 100 2 (rowV M r) (wt r).length (encP (wt r))
  apart : ∀ r s, r ≠ s → ∀ g, (rowV M r).ownBlock = some g → (rowV M s).ownBlock ≠ some g
  up : W.heap.size ≤ a.ws ∧ W.heap.size ≤ a.bk ∧ W.heap.size ≤ a.bw
variable {W w : World} {a : Ad} {kn : List Sp} {q : List Fa} {wt : Int → List (Int × Int)} {nw : Nat} {qv : Value} {M : Int → Option Value}
/-- All cells of the blocks that the search stands on but b stay. -/
theorem Wk.keep {w' : World} (h : Wk W w a kn q wt nw qv M) (hbel : Below W.heap.size W w') (hk : ∀ b o, w.heap[b]? = some o → W.heap.size ≤ b → w'.heap[b]? = some o) : Wk W w' a kn q wt nw qv M where
  bel := hbel
  wb := hk _ _ h.wb h.up.1
  ug := h.ug
  km := h.km.heap (by obtain ⟨es, c, e⟩ := h.km.blk; rw [hk _ _ e h.up.2.1, e])
  wm := h.wm.heap (by obtain ⟨es, c, e⟩ := h.wm.blk; rw [hk _ _ e h.up.2.2, e])
  ne := h.ne
  qu := h.qu.keep fun g hg => by
    obtain ⟨h1, cur, h2⟩ := h.qu.blk hg
    rw [hk _ _ h2 h1, h2]
  rows := fun r => own_keep (h.rows r) fun g hg => by
    obtain ⟨h1, cur, h2⟩ := own_blk (h.rows r) hg
    rw [hk _ _ h2 h1, h2]
  apart := h.apart
  up := h.up
theorem Wk.below {w' : World} (h : Wk W w a kn q wt nw qv M) (hb : Below w.heap.size w w') : Wk W w' a kn q wt nw qv M :=
  h.keep (h.bel.trans (hb.mono h.bel.size)) fun b o e _ => (hb.block _ (lt_of e)).trans e
theorem obj_ne {w : World} {b c : Nat} {o o' : Obj} (h : w.heap[b]? = some o) (h' : w.heap[c]? = some o') (hne : o ≠ o') : b ≠ c := by
  rintro rfl
  rw [h] at h'
  exact hne (by simpa using h')
theorem map_ne {w : World} {b c : Nat} {es : Array MapEntry} {k : Nat} {x : Array Value} {t : TypeId} {f : Nat × Nat} (h : w.heap[b]? = some (.map es k)) (h' : w.heap[c]? = some (.cells x t f)) : b ≠ c :=
  obj_ne h h' (by simp)
/-- A step more is known. -/
theorem Wk.know {w' : World} {s : Sp} (h : Wk W w a kn q wt nw qv M) (hm : MapV w' 53 fv a.bk (kn.length + 1) (kmap (kn ++ [s]))) (ht : w.mapTurned w' a.bk) : Wk W w' a (kn ++ [s]) q wt nw qv M := by
  have hg := ht.grown
  obtain ⟨es, c, e⟩ := h.km.blk
  have hk : ∀ {b : Nat}, b < w.heap.size → b ≠ a.bk → w'.heap[b]? = w.heap[b]? := fun {b} hb hne => hg.block b hb (fun e => hne (by simpa using e))
  exact {
    bel := h.bel.grown hg h.bel.size (fun k hk => by simp at hk; subst hk; exact h.up.2.1)
    wb := (hk (lt_of h.wb) (Ne.symm (map_ne e h.wb))).trans h.wb
    ug := h.ug
    km := by rw [List.length_append]; exact hm
    wm := h.wm.heap (hk h.wm.lt (Ne.symm h.ne))
    ne := h.ne
    qu := h.qu.keep fun g hg2 => by
      obtain ⟨h1, cur, h2⟩ := h.qu.blk hg2
      exact hk (lt_of h2) (Ne.symm (map_ne e h2))
    rows := fun r => own_keep (h.rows r) fun g hg2 => by
      obtain ⟨h1, cur, h2⟩ := own_blk (h.rows r) hg2
      exact hk (lt_of h2) (Ne.symm (map_ne e h2))
    apart := h.apart
    up := h.up }
/-- Another queue. -/
theorem Wk.queue {w' : World} {q' : List Fa} {qv' : Value} (h : Wk W w a kn q wt nw qv M) (hg : w.grownBy w' qv.ownBlock) (hq : Qu w' W.heap.size qv' q') : Wk W (w'.setCell ⟨a.ws, 4, none⟩ qv') a kn q' wt nw qv' M := by
  have hk0 : ∀ {g : Nat} {o : Obj}, w.heap[g]? = some o → (∀ cur, o ≠ .cells cur 53 (0, 0)) → w'.heap[g]? = w.heap[g]? := fun {g o} hx hne =>
    hg.block g (lt_of hx) (fun e => by
      obtain ⟨_, cur, hc⟩ := h.qu.blk e.symm
      rw [hc] at hx
      exact hne cur (by simpa using hx.symm))
  have hw := (hk0 h.wb (fun cur q => by injection q with _ q2 _; exact absurd q2 (by show (_ : Nat) ≠ _; decide))).trans h.wb
  have hk : ∀ {g : Nat} {o : Obj}, w.heap[g]? = some o → (∀ cur, o ≠ .cells cur 53 (0, 0)) → g ≠ a.ws → (w'.setCell ⟨a.ws, 4, none⟩ qv').heap[g]? = w.heap[g]? := fun {g o} hx hne hne2 =>
    (set_other w' _ _ _ hne2).trans (hk0 hx hne)
  obtain ⟨es, c, e⟩ := h.km.blk
  obtain ⟨es2, c2, e2⟩ := h.wm.blk
  exact {
    bel := (h.bel.grown hg h.bel.size (fun k hk => (h.qu.blk hk).1)).setCell h.up.1 _
    wb := by rw [heap_setCell_same _ _ _ _ _ _ hw]; rfl
    ug := h.ug
    km := h.km.heap (hk e (fun cur q => by cases q) (map_ne e h.wb))
    wm := h.wm.heap (hk e2 (fun cur q => by cases q) (map_ne e2 h.wb))
    ne := h.ne
    qu := hq.keep fun g hg => set_other w' _ _ _ (by
      obtain ⟨_, cur, hc⟩ := hq.blk hg
      exact (ne_of_type hc hw (by show (_ : Nat) ≠ _; decide)))
    rows := fun r => own_keep (h.rows r) fun g hg2 => by
      obtain ⟨h1, cur, h2⟩ := own_blk (h.rows r) hg2
      exact hk h2 (fun cur q => by injection q with _ q2 _; exact absurd q2 (by show (_ : Nat) ≠ _; decide)) (ne_of_type h2 h.wb (by show (_ : Nat) ≠ _; decide))
    apart := h.apart
    up := h.up }
def watchF (wt : Int → List (Int × Int)) (r : Int) (x : Int × Int) : Int → List (Int × Int) := fun i => if i = r then wt i ++ [x] else wt i
theorem rowV_put (M : Int → Option Value) (r : Int) (v : Value) (i : Int) : rowV (putK M r v) i = if i = r then v else rowV M i := by
  unfold rowV putK
  split <;> rfl
/-- One more watches: the row was appended to, then the map took it. -/
theorem Wk.watch {w1 w' : World} {r : Int} {v' : Value} {x : Int × Int} (h : Wk W w a kn q wt nw qv M) (hg : w.grownBy w1 (rowV M r).ownBlock) (hm : Moves w (rowV M r).ownBlock v'.ownBlock)
    (ho : w1.ownsRow W.heap.size 100 2 v' ((wt r).length + 1) (encP (wt r) ++ [.int .i64 x.1, .int .i64 x.2]))
    (hv : MapV w' 3 iv a.bw (nw + 1) (putK M r v')) (ht : w1.mapTurned w' a.bw) : Wk W w' a kn q (watchF wt r x) (nw + 1) qv (putK M r v') := by
  have hrow := h.rows r
  have hg2 := ht.grown
  obtain ⟨es, c, e⟩ := h.km.blk
  obtain ⟨es2, c2, e2⟩ := h.wm.blk
  have hk0 : ∀ {g : Nat} {o : Obj}, w.heap[g]? = some o → (rowV M r).ownBlock ≠ some g → w1.heap[g]? = some o := fun {g o} hx hne =>
    (hg.block g (lt_of hx) (fun e => hne e.symm)).trans hx
  have hb1 := hk0 e2 (fun q => by
    obtain ⟨_, cur, hc⟩ := own_blk hrow q
    exact map_ne e2 hc rfl)
  have hk1 : ∀ {g : Nat} {o : Obj}, w1.heap[g]? = some o → g ≠ a.bw → w'.heap[g]? = some o := fun {g o} hx hne =>
    (hg2.block g (lt_of hx) (fun e => hne (by simpa using e))).trans hx
  have hk : ∀ {g : Nat} {o : Obj}, w.heap[g]? = some o → (rowV M r).ownBlock ≠ some g → g ≠ a.bw → w'.heap[g]? = w.heap[g]? := fun {g o} hx hne hne2 => (hk1 (hk0 hx hne) hne2).trans hx.symm
  have hnr : ∀ {g : Nat} {y : Array Value} {t : TypeId} {f : Nat × Nat}, w.heap[g]? = some (.cells y t f) → t ≠ 100 → (rowV M r).ownBlock ≠ some g := fun {g y t f} hx hne q => by
    obtain ⟨_, cur, hc⟩ := own_blk hrow q
    exact ne_of_type hx hc hne rfl
  have hother : ∀ s, s ≠ r → w'.ownsRow W.heap.size 100 2 (rowV M s) (wt s).length (encP (wt s)) := fun s hs =>
    own_keep (h.rows s) fun g hg3 => by
      obtain ⟨h1, cur, h2⟩ := own_blk (h.rows s) hg3
      exact hk h2 (fun q => h.apart r s (Ne.symm hs) g q hg3) (Ne.symm (map_ne e2 h2))
  have hnew : ∀ s, s ≠ r → ∀ g, v'.ownBlock = some g → (rowV M s).ownBlock ≠ some g := fun s hs g hg1 hg2 => by
    rcases hm with e | ⟨g', e, hge⟩
    · exact h.apart r s (Ne.symm hs) g (e ▸ hg1) hg2
    · rw [e] at hg1
      injection hg1 with hg1
      have := lt_of (own_blk (h.rows s) hg2).2.choose_spec
      omega
  have hcz : encP (wt r) ++ [.int .i64 x.1, .int .i64 x.2] = encP (wt r ++ [x]) := by rw [encP_app]; rfl
  exact {
    bel := (h.bel.grown hg h.bel.size (fun k hk => (own_blk hrow hk).1)).grown hg2 (Nat.le_trans h.bel.size hg.size) (fun k hk => by simp at hk; subst hk; exact h.up.2.2)
    wb := (hk h.wb (hnr h.wb (by show (_ : Nat) ≠ _; decide)) (Ne.symm (map_ne e2 h.wb))).trans h.wb
    ug := h.ug
    km := h.km.heap (hk e (fun q => by
      obtain ⟨_, cur, hc⟩ := own_blk hrow q
      exact map_ne e hc rfl) h.ne)
    wm := hv
    ne := h.ne
    qu := h.qu.keep fun g hg3 => by
      obtain ⟨h1, cur, h2⟩ := h.qu.blk hg3
      exact hk h2 (hnr h2 (by show (_ : Nat) ≠ _; decide)) (Ne.symm (map_ne e2 h2))
    rows := fun s => by
      rw [rowV_put]
      unfold watchF
      by_cases es : s = r
      · subst es
        rw [if_pos rfl, if_pos rfl, List.length_append, ← hcz]
        exact own_keep ho fun g hg3 => by
          obtain ⟨h1, cur, h2⟩ := own_blk ho hg3
          exact (hk1 h2 (Ne.symm (map_ne hb1 h2))).trans h2.symm
      · rw [if_neg es, if_neg es]
        exact hother s es
    apart := fun s u hne g => by
      rw [rowV_put, rowV_put]
      by_cases es : s = r
      · rw [if_pos es, if_neg (fun q => hne (es.trans q.symm))]
        exact fun q1 q2 => hnew u (fun q => hne (es.trans q.symm)) g q1 q2
      · rw [if_neg es]
        by_cases eu : u = r
        · rw [if_pos eu]
          exact fun q1 q2 => hnew s es g q2 q1
        · rw [if_neg eu]
          exact h.apart s u hne g
    up := h.up }
/-- A row of watches that is gone through while others come behind it. -/
structure Snap (w : World) (M : Int → Option Value) (wt : Int → List (Int × Int)) (g : Nat) (T : List (Int × Int)) : Prop where
  ty : ∃ cur, w.heap[g]? = some (.cells cur 100 (0, 0))
  at_ : ∀ j v, (encP T)[j]? = some v → w.cell? ⟨g, j, none⟩ = some v
  own : ∀ r, (rowV M r).ownBlock = some g → T <+: wt r
/-- What is to stay meanwhile: boxes, and rows of watches. -/
structure Frm where
  box : List (Nat × Array Value × TypeId)
  snap : List (Nat × List (Int × Int))
structure Frm.ok (F : Frm) (w : World) (a : Ad) (wt : Int → List (Int × Int)) (qv : Value) (M : Int → Option Value) : Prop where
  b : ∀ p ∈ F.box, w.heap[p.1]? = some (.cells p.2.1 p.2.2 (0, 0)) ∧ p.1 ≠ a.ws ∧ qv.ownBlock ≠ some p.1 ∧ ∀ r, (rowV M r).ownBlock ≠ some p.1
  s : ∀ p ∈ F.snap, Snap w M wt p.1 p.2
variable {F : Frm}
theorem Frm.ok.keep {w' : World} (h : F.ok w a wt qv M) (hb : ∀ p ∈ F.box, w'.heap[p.1]? = w.heap[p.1]?) (hs : ∀ p ∈ F.snap, w'.heap[p.1]? = w.heap[p.1]?) : F.ok w' a wt qv M :=
  ⟨fun p hp => ⟨(hb p hp).trans (h.b p hp).1, (h.b p hp).2⟩, fun p hp => by
    obtain ⟨⟨cur, h1⟩, h2, h3⟩ := h.s p hp
    refine ⟨⟨cur, (hs p hp).trans h1⟩, fun j v hv => ?_, h3⟩
    rw [← h2 j v hv, Lib.cell_of_heap ((hs p hp).trans h1), Lib.cell_of_heap h1]⟩
theorem Frm.ok.below {w' : World} (h : F.ok w a wt qv M) (hb : Below w.heap.size w w') : F.ok w' a wt qv M :=
  h.keep (fun p hp => hb.block _ (lt_of (h.b p hp).1)) (fun p hp => hb.block _ (lt_of (h.s p hp).ty.choose_spec))
theorem Frm.ok.map {w' : World} {b : Nat} (h : F.ok w a wt qv M) (ht : w.mapTurned w' b) : F.ok w' a wt qv M := by
  obtain ⟨es, c, _, _, e, _⟩ := id ht
  have hg := ht.grown
  exact h.keep (fun p hp => hg.block _ (lt_of (h.b p hp).1) (fun q => map_ne e (h.b p hp).1 (by simpa using q.symm)))
    (fun p hp => hg.block _ (lt_of (h.s p hp).ty.choose_spec) (fun q => map_ne e (h.s p hp).ty.choose_spec (by simpa using q.symm)))
/-- Another queue. -/
theorem Frm.ok.queue {w' : World} {qv' : Value} (hk : Wk W w a kn q wt nw qv M) (h : F.ok w a wt qv M) (hg : w.grownBy w' qv.ownBlock) (hm : Moves w qv.ownBlock qv'.ownBlock) : F.ok (w'.setCell ⟨a.ws, 4, none⟩ qv') a wt qv' M := by
  have h1 : F.ok w' a wt qv M := h.keep (fun p hp => hg.block _ (lt_of (h.b p hp).1) (fun e => (h.b p hp).2.2.1 e.symm))
    (fun p hp => hg.block _ (lt_of (h.s p hp).ty.choose_spec) (fun e => by
      obtain ⟨_, cur, hc⟩ := hk.qu.blk e.symm
      exact ne_of_type hc (h.s p hp).ty.choose_spec (by show (_ : Nat) ≠ _; decide) rfl))
  have hw : w'.heap[a.ws]? = _ := (hg.block _ (lt_of hk.wb) (fun e => by
    obtain ⟨_, cur, hc⟩ := hk.qu.blk e.symm
    exact ne_of_type hc hk.wb (by show (_ : Nat) ≠ _; decide) rfl)).trans hk.wb
  have h2 : F.ok (w'.setCell ⟨a.ws, 4, none⟩ qv') a wt qv M := h1.keep (fun p hp => set_other w' _ _ _ (h.b p hp).2.1)
    (fun p hp => set_other w' _ _ _ (ne_of_type (h1.s p hp).ty.choose_spec hw (by show (_ : Nat) ≠ _; decide)))
  refine ⟨fun p hp => ?_, h2.s⟩
  obtain ⟨b1, b2, b3, b4⟩ := h2.b p hp
  refine ⟨b1, b2, fun e => ?_, b4⟩
  rcases hm with hm | ⟨g', hm, hge⟩
  · exact b3 (hm.symm.trans e)
  · rw [hm] at e
    injection e with e
    have := lt_of (h.b p hp).1
    omega
/-- One more watches. -/
theorem Frm.ok.watch {w1 w' : World} {r : Int} {v' : Value} {x : Int × Int} (hk : Wk W w a kn q wt nw qv M) (h : F.ok w a wt qv M) (hg : w.grownBy w1 (rowV M r).ownBlock) (hm : Moves w (rowV M r).ownBlock v'.ownBlock)
    (hold : Old w w1 (rowV M r) ((wt r).length * 2) 100) (ht : w1.mapTurned w' a.bw) : F.ok w' a (watchF wt r x) qv (putK M r v') := by
  have h1 : ∀ p ∈ F.box, w1.heap[p.1]? = w.heap[p.1]? := fun p hp => hg.block _ (lt_of (h.b p hp).1) (fun e => (h.b p hp).2.2.2 r e.symm)
  have ht2 := id ht
  obtain ⟨es, c, _, _, e, _⟩ := ht2
  have hg2 := ht.grown
  refine ⟨fun p hp => ?_, fun p hp => ?_⟩
  · obtain ⟨b1, b2, b3, b4⟩ := h.b p hp
    have hb1 := (h1 p hp).trans b1
    refine ⟨(hg2.block _ (lt_of hb1) (fun q => map_ne e hb1 (by simpa using q.symm))).trans hb1, b2, b3, fun s => ?_⟩
    rw [rowV_put]
    split
    · rcases hm with hm | ⟨g', hm, hge⟩
      · rw [hm]; exact b4 r
      · rw [hm]
        intro q
        injection q with q
        have := lt_of b1
        omega
    · exact b4 s
  · obtain ⟨⟨cur, g1⟩, g2, g3⟩ := h.s p hp
    have hpl : (rowV M r).ownBlock = some p.1 → p.2.length ≤ (wt r).length := fun e => (g3 r e).length_le
    have hty : ∃ cur, w1.heap[p.1]? = some (.cells cur 100 (0, 0)) := by
      by_cases e : (rowV M r).ownBlock = some p.1
      · exact (hold _ e).1
      · exact ⟨cur, (hg.block _ (lt_of g1) (fun q => e q.symm)).trans g1⟩
    obtain ⟨cur1, hty1⟩ := hty
    have hty2 : w'.heap[p.1]? = some (.cells cur1 100 (0, 0)) := (hg2.block _ (lt_of hty1) (fun q => map_ne e hty1 (by simpa using q.symm))).trans hty1
    refine ⟨⟨cur1, hty2⟩, fun j v hv => ?_, fun s hs => ?_⟩
    · have hj : j < p.2.length * 2 := by
        rw [← encP_len]
        rcases Nat.lt_or_ge j (encP p.2).length with h | h
        · exact h
        · rw [List.getElem?_eq_none h] at hv; cases hv
      rw [← g2 j v hv, Lib.cell_of_heap hty2, ← Lib.cell_of_heap hty1]
      by_cases e : (rowV M r).ownBlock = some p.1
      · exact (hold _ e).2 j (by have := hpl e; omega)
      · rw [Lib.cell_of_heap ((hg.block _ (lt_of g1) (fun q => e q.symm)).trans g1), Lib.cell_of_heap g1]
    · rw [rowV_put] at hs
      unfold watchF
      by_cases es : s = r
      · subst es
        rw [if_pos rfl] at hs ⊢
        rcases hm with hm | ⟨g', hm, hge⟩
        · exact List.IsPrefix.trans (g3 s (hm ▸ hs)) (List.prefix_append _ _)
        · rw [hm] at hs
          injection hs with hs
          have := lt_of g1
          omega
      · rw [if_neg es] at hs ⊢
        exact g3 s hs
/-- The search in memory, wherever its rows lie; h of what is known were followed. -/
def Wq (W w : World) (a : Ad) (t : Ss) (h : Nat) (F : Frm) : Prop := h ≤ t.known.length ∧ ∃ qv M, Wk W w a t.known ((t.known.drop h).map Sp.fa) t.watch t.nw qv M ∧ F.ok w a t.watch qv M
def WPost (W : World) (a : Ad) (t : Ss) (h : Nat) (F : Frm) (e : Ending) (w' : World) : Prop := e = .returned (.tuple #[]) ∧ Wq W w' a t h F
theorem Wq.below {t : Ss} {h : Nat} {w' : World} (hq : Wq W w a t h F) (hb : Below w.heap.size w w') : Wq W w' a t h F := by
  obtain ⟨h1, qv, M, h2, h3⟩ := hq
  exact ⟨h1, qv, M, h2.below hb, h3.below hb⟩
/-- A box of one's own. -/
theorem with_box {t : Ss} {h : Nat} (hq : Wq W w a t h F) (cs : Array Value) (ty : TypeId) : ∃ F' : Frm, Wq W (w.alloc (.cells cs ty)) a t h F' ∧ (∀ w' t' h', Wq W w' a t' h' F' → Wq W w' a t' h' F) ∧ ∀ w' t' h', Wq W w' a t' h' F' → w'.heap[w.heap.size]? = some (.cells cs ty (0, 0)) := by
  have hb := Wq.below hq ((Below.refl w.heap.size w).alloc (Nat.le_refl _) (.cells cs ty))
  obtain ⟨_, qv0, M0, g2, g3⟩ := hq
  obtain ⟨h1, qv, M, h2, h3⟩ := hb
  have hq0 := Wk.below g2 ((Below.refl w.heap.size w).alloc (Nat.le_refl _) (.cells cs ty))
  have hf0 := Frm.ok.below g3 ((Below.refl w.heap.size w).alloc (Nat.le_refl _) (.cells cs ty))
  have hn := heap_alloc_new w (.cells cs ty)
  refine ⟨⟨(w.heap.size, cs, ty) :: F.box, F.snap⟩, ⟨h1, qv0, M0, hq0, fun p hp => ?_, hf0.s⟩, ?_, ?_⟩
  · simp only [List.mem_cons] at hp
    rcases hp with rfl | hp
    · refine ⟨hn, fun e => ?_, fun e => ?_, fun r e => ?_⟩
      · have := lt_of g2.wb; simp only at e; omega
      · have := lt_of (g2.qu.blk e).2.choose_spec; simp only at this; omega
      · have := lt_of (own_blk (g2.rows r) e).2.choose_spec; simp only at this; omega
    · exact hf0.b p hp
  · rintro w' t' h' ⟨k1, qv', M', k2, k3⟩
    exact ⟨k1, qv', M', k2, fun p hp => k3.b p (by simp [hp]), k3.s⟩
  · rintro w' t' h' ⟨k1, qv', M', k2, k3⟩
    exact (k3.b (w.heap.size, cs, ty) (by simp)).1
theorem kmap_at {kn : List Sp} {s : Sp} (h : s ∈ kn) (hn : (kn.map Sp.fa).Nodup) : kmap kn s.fa = some (Sp.val s) := by
  unfold kmap
  induction kn with
  | nil => cases h
  | cons x l ih =>
    simp only [List.map_cons, List.nodup_cons] at hn
    rw [List.find?_cons]
    by_cases e : x.fa = s.fa
    · rw [decide_eq_true e]
      rcases List.mem_cons.1 h with rfl | h
      · rfl
      · exact absurd (List.mem_map.2 ⟨s, h, e.symm⟩) hn.1
    · rw [decide_eq_false e]
      rcases List.mem_cons.1 h with rfl | h
      · exact absurd rfl e
      · exact ih h hn.2
end Go.Proofs.Ytihhojgnilbfnaa.PfB
/- The search: knows, by contract. -/
namespace Go.Proofs.Ytihhojgnilbfnaa.PfC
set_option linter.unusedVariables false
set_option linter.unusedSimpArgs false
open Go.RowKit Go.Lib Go.Proofs Go.Maps Go.Proofs.Ytihhojgnilbfnaa.SetQ Go.Proofs.Ytihhojgnilbfnaa.SetR Go.Proofs.Ytihhojgnilbfnaa.TblC Go.Proofs.Ytihhojgnilbfnaa.TblV Go.Proofs.Ytihhojgnilbfnaa.SemB Go.Proofs.Ytihhojgnilbfnaa.SemC Go.Proofs.Ytihhojgnilbfnaa.SemD Go.Proofs.Ytihhojgnilbfnaa.PfM Go.Proofs.Ytihhojgnilbfnaa.PfA Go.Proofs.Ytihhojgnilbfnaa.PfB
set_option linter.unusedVariables false
set_option linter.unusedSimpArgs false
theorem zeroS (w : World) : (zeroValue 30).run Try.prog w = .ok (.agg #[.int .i64 0, .int .i64 0, .int .i64 0, .int .i64 0]) w := by kernel_rfl
theorem zeroR (w : World) : (zeroValue 101).run Try.prog w = .ok (.slice none 0 0) w := by kernel_rfl
theorem kmap_val (kn : List Sp) (f : Fa) : ∃ s : Sp, (kmap kn f).getD (.agg #[.int .i64 0, .int .i64 0, .int .i64 0, .int .i64 0]) = .agg #[.int .i64 s.rule, .int .i64 s.role, .int .i64 s.who, .int .i64 s.mid] := by
  unfold kmap
  cases kn.find? (fun s => decide (s.fa = f)) with
  | none => exact ⟨⟨0, 0, 0, 0⟩, rfl⟩
  | some s => exact ⟨s, rfl⟩
/-- A fact of numbers that there are. -/
def InR (f : Fa) : Prop := (-9223372036854775808 ≤ f.1 ∧ f.1 ≤ 9223372036854775807) ∧ (-9223372036854775808 ≤ f.2 ∧ f.2 ≤ 9223372036854775807)
theorem Wk.cells {W w : World} {a : Ad} {kn : List Sp} {q : List Fa} {wt : Int → List (Int × Int)} {nw : Nat} {qv : Value} {M : Int → Option Value} (h : Wk W w a kn q wt nw qv M) : ∀ o, w.cell? ⟨a.ws, o, none⟩ = (#[.int .i64 a.d0, .int .i64 a.d1, .slice a.A a.L.length a.ca, .map (some a.bk), qv, .map (some a.bw)] : Array Value)[o]? := fun o => Lib.cell_of_heap h.wb o
set_option maxHeartbeats 1000000 in
set_option maxRecDepth 100000 in
theorem knows (W w : World) (a : Ad) (t : Ss) (h : Nat) (F : Frm) (f : Fa) (hw : Wq W w a t h F) (hf : InR f) :
    Calls Try.prog 53 #[.pointer (some ⟨a.ws, 0, none⟩), .agg #[.int .i64 f.1, .int .i64 f.2]] w fun e w' => e = .returned (.bool (hasS t.known f)) ∧ Below w.heap.size w w' := by
  obtain ⟨_, qv, M, hk, _⟩ := hw
  obtain ⟨kl, hkl⟩ := keyF hf.1 hf.2
  obtain ⟨s, hs⟩ := kmap_val t.known f
  have hkA := hk.below ((Below.refl w.heap.size w).alloc (Nat.le_refl _) (.cells #[.int .i64 f.1, .int .i64 f.2] 53))
  have LK : ∀ X : World, MapV X 53 fv a.bk t.known.length (kmap t.known) → (Instr.lookup 51 (.map (some a.bk)) (.agg #[.int .i64 f.1, .int .i64 f.2]) true).run Try.prog X = .ok (.tuple #[.agg #[.int .i64 s.rule, .int .i64 s.role, .int .i64 s.who, .int .i64 s.mid], .bool (hasS t.known f)]) X := fun X hX => by
    have := hX.look_ok lawF Try.underlying51 (zeroS X) hkl
    rw [hs, kmap_some] at this
    exact this
  have l1 := LK _ (hkA.below ((Below.refl _ _).drew)).km
  have c1 := Wk.cells hkA
  have hkB := hkA.below ((Below.refl (w.alloc (.cells #[.int .i64 f.1, .int .i64 f.2] 53)).heap.size _).alloc (Nat.le_refl _) (.cells #[.int .i64 0, .int .i64 0, .int .i64 0, .int .i64 0] 30))
  have l2 := LK _ (hkB.below ((Below.refl _ _).drew)).km
  have c2 := Wk.cells hkB
  have HB := Lib.hid ((Below.refl w.heap.size w).alloc (Nat.le_refl _) (.cells #[.int .i64 f.1, .int .i64 f.2] 53))
  generalize hasS t.known f = ans at *
  obtain ⟨f1, f2⟩ := f
  simp only at *
  clear hs hkl hf hk hkA hkB LK
  go_enter Try.func53, Try.ntmps53
  go_upto_region 1 with fail
  go_region
  all_goals go_wp2_with fail
  all_goals go_ret
  all_goals exact ⟨rfl, (HB.out.alloc (by simp) _).drew⟩
section
variable {P : Program} (w : World)
/-- append behind the queue, in a region that draws its order. -/
theorem step_append_qu {ops : Array Oper} {o : Oper} {a : Act} {K : Act → World → Prop} {Q : Exit → Act → World → Prop} {E : Prop} (hgd : o.guard = none) (s x : Operand)
    (ho : o.op = .call { callee := .builtin .append, args := #[s, x], argTypes := #[60, 60] })
    (base : Nat) (qv : Value) (q : List Fa) (hs : a.eval s = qv) (hq : Qu w base qv q) (hb : base ≤ w.heap.size) (hl : q.length ≤ 100000000) (r y : Int)
    (ad : Addr) (c : Nat) (hx : a.eval x = .slice (some ad) 1 c) (hA : ∀ j u, ([.int .i64 r, .int .i64 y] : List Value)[j]? = some u → w.cell? (ad.add j) = some u)
    (h : ∀ v' w', Qu w' base v' (q ++ [(r, y)]) → w.grownBy w' qv.ownBlock → Moves w qv.ownBlock v'.ownBlock → K (a.put o.dst v') w') :
    if Region.wanted o (yielded ops a.tmps) = true then Oper.wp Try.prog o a w K Q else E := by
  have hw : Region.wanted o (yielded ops a.tmps) = true := by simp [Region.wanted, hgd]
  rw [if_pos hw]
  obtain ⟨v', w', hr, h2, h3, h4⟩ := run_append_qu o.type hq hb hl r y ad c hA
  unfold Oper.wp execOp
  simp only [ho, resolve, invoke, builtin, Sem.run_bind, Sem.run_pure, Result.andThen_ok, List.map_toArray, List.map_cons, List.map_nil, hs, hx, hr]
  exact h v' w' h2 h3 h4
end
theorem Qu.slice {w : World} {base : Nat} {v : Value} {L : List Fa} (h : Qu w base v L) : ∃ A n c, v = .slice A n c := by
  rcases h with ⟨rfl, _⟩ | ⟨g, o, cap, cur, rfl, _⟩ <;> exact ⟨_, _, _, rfl⟩
set_option maxHeartbeats 2000000 in
set_option maxRecDepth 100000 in
theorem put (W w : World) (a : Ad) (t : Ss) (h : Nat) (F : Frm) (s : Sp) (hw : Wq W w a t h F) (hf : InR s.fa) (hl : t.known.length ≤ 1000000) :
    Calls Try.prog 50 #[.pointer (some ⟨a.ws, 0, none⟩), .agg #[.int .i64 s.rule, .int .i64 s.role, .int .i64 s.who, .int .i64 s.mid]] w (WPost W a (putM t s) h F) := by
  obtain ⟨F1, hq1, hb1, hc1⟩ := with_box hw #[.int .i64 s.rule, .int .i64 s.role, .int .i64 s.who, .int .i64 s.mid] 30
  obtain ⟨F2, hq2, hb2, hc2⟩ := with_box hq1 #[.int .i64 s.role, .int .i64 s.who] 53
  have hz : (w.alloc (.cells #[.int .i64 s.rule, .int .i64 s.role, .int .i64 s.who, .int .i64 s.mid] 30)).heap.size = w.heap.size + 1 := by simp
  rw [hz] at hc2
  have HK := Lib.hid (knows W _ a t h F2 s.fa hq2 hf)
  have HQ2 := Lib.hid hq2
  have HC1 : Hid (∀ w', Wq W w' a t h F2 → w'.heap[w.heap.size]? = some (.cells #[.int .i64 s.rule, .int .i64 s.role, .int .i64 s.who, .int .i64 s.mid] 30 (0, 0)) ∧ w'.heap[w.heap.size + 1]? = some (.cells #[.int .i64 s.role, .int .i64 s.who] 53 (0, 0))) := Lib.hid (fun w' hx => ⟨hc1 w' t h (hb2 _ _ _ hx), hc2 w' t h hx⟩)
  have HBK : Hid (∀ w' t', Wq W w' a t' h F2 → Wq W w' a t' h F) := Lib.hid (fun w' t' hx => hb1 _ _ _ (hb2 _ _ _ hx))
  have HF := Lib.hid hf
  clear hq1 hq2 hb1 hb2 hc1 hc2 hz hw hf
  obtain ⟨s0, s1, s2, s3⟩ := s
  unfold Sp.fa at HK HF
  simp only at HK HQ2 HC1 HF ⊢
  unfold WPost putM
  cases hh : hasS t.known (Sp.fa ⟨s0, s1, s2, s3⟩) with
  | true =>
    unfold Sp.fa at hh
    simp only at hh
    rw [hh] at HK
    rw [if_pos rfl]
    clear hh HC1
    go_enter Try.func50, Try.ntmps50
    go_wp2_with fail
    refine HK.out.mono ?_
    rintro e w1 ⟨rfl, hb1⟩
    have HE := Lib.hid (HBK.out _ _ (Wq.below HQ2.out hb1))
    clear hb1 HK
    go_wp2_with fail
    go_end0
    exact ⟨rfl, HE.out⟩
  | false =>
    have HH := Lib.hid hh
    unfold Sp.fa at hh
    simp only at hh
    rw [hh] at HK
    rw [if_neg (by simp)]
    clear hh
    go_enter Try.func50, Try.ntmps50
    go_wp2_with fail
    refine HK.out.mono ?_
    rintro e w1 ⟨rfl, hb1⟩
    obtain ⟨hle, qv, M, hk, hfr⟩ := Wq.below HQ2.out hb1
    obtain ⟨x1, x2⟩ := HC1.out w1 ⟨hle, qv, M, hk, hfr⟩
    obtain ⟨kl, hkl⟩ := keyF (f := (s1, s2)) HF.out.1 HF.out.2
    obtain ⟨w2, hr2, hm2, ht2⟩ := (hk.below ((Below.refl _ _).drew)).km.store lawF Try.underlying51 (by unfold maxLen; omega) fv_inj hkl (Sp.val ⟨s0, s1, s2, s3⟩)
    have hkn := kmap_put (s := ⟨s0, s1, s2, s3⟩) HH.out
    unfold Sp.fa at hkn
    simp only at hkn
    rw [hkn] at hm2
    have hk2 := Wk.know (hk.below ((Below.refl _ _).drew)) hm2 ht2
    have hf2 := Frm.ok.map (hfr.below ((Below.refl _ _).drew)) ht2
    have cw1 := Wk.cells hk
    have cx1 := fun o => Lib.cell_of_heap x1 o
    have cx2 := fun o => Lib.cell_of_heap x2 o
    unfold fv Sp.val at hr2
    simp only at hr2
    have hbk1 : ∃ es c, w1.heap[a.bk]? = some (.map es c) := hk.km.blk
    have hx2 : w2.heap[w.heap.size + 1]? = some (.cells #[.int .i64 s1, .int .i64 s2] 53 (0, 0)) := (ht2.grown.block _ (lt_of x2) (fun e => by
      obtain ⟨es, c, e2⟩ := hbk1
      exact map_ne e2 x2 (by simpa using e.symm))).trans x2
    have hkB := hk2.below ((Below.refl w2.heap.size w2).alloc (Nat.le_refl _) (.cells #[.int .i64 s1, .int .i64 s2] 53)).drew
    have hfB := hf2.below ((Below.refl w2.heap.size w2).alloc (Nat.le_refl _) (.cells #[.int .i64 s1, .int .i64 s2] 53)).drew
    have hxB : (w2.alloc (.cells #[.int .i64 s1, .int .i64 s2] 53)).heap[w.heap.size + 1]? = some (.cells #[.int .i64 s1, .int .i64 s2] 53 (0, 0)) := (heap_alloc_old w2 _ (lt_of hx2)).trans hx2
    have ca0 := Wk.cells hk2
    have ca1 : ∀ o, (w2.alloc (.cells #[.int .i64 s1, .int .i64 s2] 53)).cell? ⟨a.ws, o, none⟩ = (#[.int .i64 a.d0, .int .i64 a.d1, .slice a.A a.L.length a.ca, .map (some a.bk), qv, .map (some a.bw)] : Array Value)[o]? := fun o => Wk.cells hkB o
    have cb0 := fun o => Lib.cell_of_heap hx2 o
    have cb1 := fun o => Lib.cell_of_heap hxB o
    have hnews : ∀ j u, ([.int .i64 s1, .int .i64 s2] : List Value)[j]? = some u → ((w2.alloc (.cells #[.int .i64 s1, .int .i64 s2] 53)).drew).cell? ((⟨w2.heap.size, 0, none⟩ : Addr).add j) = some u := fun j u hu => by
      have hq : ((w2.alloc (.cells #[.int .i64 s1, .int .i64 s2] 53)).drew).heap[w2.heap.size]? = some (.cells #[.int .i64 s1, .int .i64 s2] 53 (0, 0)) := heap_alloc_new _ _
      rw [add_off, Lib.cell_of_heap hq, ← hu]
      simp
    have HN := Lib.hid hnews
    have HQU := Lib.hid hkB.qu
    have HSZ := Lib.hid hkB.bel.size
    have HFin : Hid (∀ w3 A2 n2 c2, Qu w3 W.heap.size (.slice A2 n2 c2) ((t.known.drop h).map Sp.fa ++ [(s1, s2)]) → ((w2.alloc (.cells #[.int .i64 s1, .int .i64 s2] 53)).drew).grownBy w3 qv.ownBlock → Moves ((w2.alloc (.cells #[.int .i64 s1, .int .i64 s2] 53)).drew) qv.ownBlock (Value.slice A2 n2 c2).ownBlock →
        Wq W (w3.setCell ⟨a.ws, 4, none⟩ (.slice A2 n2 c2)) a { t with known := t.known ++ [⟨s0, s1, s2, s3⟩] } h F ∧ (∀ o, w3.cell? ⟨a.ws, o, none⟩ = (#[.int .i64 a.d0, .int .i64 a.d1, .slice a.A a.L.length a.ca, .map (some a.bk), qv, .map (some a.bw)] : Array Value)[o]?) ∧ ∀ o, w3.frozen? ⟨a.ws, o, none⟩ = false) := Lib.hid (fun w3 A2 n2 c2 hq3 hg3 hm3 => by
      have hw3 : w3.heap[a.ws]? = _ := (hg3.block _ (lt_of hkB.wb) (fun e => by
        obtain ⟨_, cur, hc⟩ := hkB.qu.blk e.symm
        exact ne_of_type hc hkB.wb (by show (_ : Nat) ≠ _; decide) rfl)).trans hkB.wb
      have hth := Wk.queue hkB hg3 hq3
      have e : (t.known.drop h).map Sp.fa ++ [(s1, s2)] = ((t.known ++ [(⟨s0, s1, s2, s3⟩ : Sp)]).drop h).map Sp.fa := by
        rw [List.drop_append_of_le_length hle, List.map_append]; rfl
      rw [e] at hth
      have hwq : Wq W (w3.setCell ⟨a.ws, 4, none⟩ (.slice A2 n2 c2)) a { t with known := t.known ++ [⟨s0, s1, s2, s3⟩] } h F2 := ⟨by simp; omega, _, M, hth, Frm.ok.queue hkB hfB hg3 hm3⟩
      exact ⟨HBK.out _ _ hwq, fun o => Lib.cell_of_heap hw3 o, fun o => frozen_of_row _ _ _ _ _ hw3⟩)
    have hql : ((t.known.drop h).map Sp.fa).length ≤ 100000000 := by simp; omega
    have HQL := Lib.hid hql
    clear hb1 HK hk hfr hm2 ht2 hkn x1 x2 hkl hk2 hf2 hkB hfB hx2 hxB hnews hbk1 hql HQ2 HC1 HBK HH HF
    generalize (t.known.drop h).map Sp.fa = q at *
    go_wp2_with fail
    go_region
    go_wp2_with fail
    go_region_law ((refine step_append_qu _ rfl (.tmp 24) (.tmp 26) rfl W.heap.size qv q (by simp [Act.eval]) HQU.out HSZ.out HQL.out s1 s2 ⟨w2.heap.size, 0, none⟩ 1 (by simp [Act.eval]) HN.out ?_); intro v' w3 hq3 hg3 hm3; obtain ⟨A2, n2, c2, rfl⟩ := Qu.slice hq3; obtain ⟨F0, F1, F2⟩ := HFin.out w3 A2 n2 c2 hq3 hg3 hm3)
    all_goals
      have HF0 := Lib.hid F0
      clear F0 F1 F2
      go_wp2_with fail
      go_end0
      exact ⟨rfl, HF0.out⟩
end Go.Proofs.Ytihhojgnilbfnaa.PfC
/- The search: watch, by contract. -/
namespace Go.Proofs.Ytihhojgnilbfnaa.PfD
set_option linter.unusedVariables false
set_option linter.unusedSimpArgs false
open Go.RowKit Go.Lib Go.Proofs Go.Maps Go.Proofs.Ytihhojgnilbfnaa.SetQ Go.Proofs.Ytihhojgnilbfnaa.SetR Go.Proofs.Ytihhojgnilbfnaa.TblC Go.Proofs.Ytihhojgnilbfnaa.TblV Go.Proofs.Ytihhojgnilbfnaa.SemB Go.Proofs.Ytihhojgnilbfnaa.SemC Go.Proofs.Ytihhojgnilbfnaa.SemD Go.Proofs.Ytihhojgnilbfnaa.SemGa Go.Proofs.Ytihhojgnilbfnaa.PfM Go.Proofs.Ytihhojgnilbfnaa.PfA Go.Proofs.Ytihhojgnilbfnaa.PfB Go.Proofs.Ytihhojgnilbfnaa.PfC
set_option linter.unusedVariables false
set_option linter.unusedSimpArgs false
theorem infoW : (Try.prog.info? 100).map (fun i => (i.zero, i.size, i.bytes)) = some (some (.agg #[.int .i64 0, .int .i64 0]), 2, 16) := by kernel_rfl
theorem watchM_eq (t : Ss) (r : Int) (x : Int × Int) : watchM t r x = { t with nw := t.nw + 1, watch := watchF t.watch r x } := rfl
set_option maxHeartbeats 2000000 in
set_option maxRecDepth 100000 in
theorem watch (W w : World) (a : Ad) (t : Ss) (h : Nat) (F : Frm) (r i m : Int) (hw : Wq W w a t h F) (hr : -9223372036854775808 ≤ r ∧ r ≤ 9223372036854775807) (hn : t.nw ≤ 1000000) (hl : (t.watch r).length ≤ 1000000) :
    Calls Try.prog 51 #[.pointer (some ⟨a.ws, 0, none⟩), .int .i64 r, .agg #[.int .i64 i, .int .i64 m]] w (WPost W a (watchM t r (i, m)) h F) := by
  obtain ⟨i0, hi, hz0, hz1, hz2⟩ := info_parts infoW
  obtain ⟨hh, qv, M, hK0, hfr0⟩ := hw
  have hkey := keyI (r := r) hr
  obtain ⟨A, c, hv⟩ := own_n (hK0.rows r)
  have hK1 := hK0.below ((Below.refl w.heap.size w).alloc (Nat.le_refl _) (.cells #[.int .i64 i, .int .i64 m] 100))
  have hK2 := hK1.below (((Below.refl (w.alloc (.cells #[.int .i64 i, .int .i64 m] 100)).heap.size (w.alloc (.cells #[.int .i64 i, .int .i64 m] 100))).alloc (Nat.le_refl _) (.cells #[.int .i64 i, .int .i64 m] 100)).drew)
  have hF2 := (hfr0.below ((Below.refl w.heap.size w).alloc (Nat.le_refl _) (.cells #[.int .i64 i, .int .i64 m] 100))).below (((Below.refl (w.alloc (.cells #[.int .i64 i, .int .i64 m] 100)).heap.size (w.alloc (.cells #[.int .i64 i, .int .i64 m] 100))).alloc (Nat.le_refl _) (.cells #[.int .i64 i, .int .i64 m] 100)).drew)
  have LK : ∀ X : World, MapV X 3 iv a.bw t.nw M → (Instr.lookup 79 (.map (some a.bw)) (.int .i64 r) false).run Try.prog X = .ok (.slice A (t.watch r).length c) X := fun X hX => by
    have := hX.look lawI Try.underlying79 (zeroR X) hkey
    have e : (M r).getD (.slice none 0 0) = .slice A (t.watch r).length c := hv
    rw [e] at this
    exact this
  have l1 := LK _ (hK1.below ((Below.refl _ _).drew)).wm
  have l2 := LK _ hK2.wm
  have c1 := Wk.cells hK1
  have c2 : ∀ o, ((w.alloc (.cells #[.int .i64 i, .int .i64 m] 100)).alloc (.cells #[.int .i64 i, .int .i64 m] 100)).cell? ⟨a.ws, o, none⟩ = (#[.int .i64 a.d0, .int .i64 a.d1, .slice a.A a.L.length a.ca, .map (some a.bk), qv, .map (some a.bw)] : Array Value)[o]? := fun o => Wk.cells hK2 o
  have b1 : ∀ o, (w.alloc (.cells #[.int .i64 i, .int .i64 m] 100)).cell? ⟨w.heap.size, o, none⟩ = (#[.int .i64 i, .int .i64 m] : Array Value)[o]? := fun o => Lib.cell_of_heap (heap_alloc_new w _) o
  have hcl : ∀ j x, ([.int .i64 i, .int .i64 m] : List Value)[j]? = some x → (((w.alloc (.cells #[.int .i64 i, .int .i64 m] 100)).alloc (.cells #[.int .i64 i, .int .i64 m] 100)).drew).cell? ((⟨(w.alloc (.cells #[.int .i64 i, .int .i64 m] 100)).heap.size, 0, none⟩ : Addr).add j) = some x := fun j x hx => by
    have hq : (((w.alloc (.cells #[.int .i64 i, .int .i64 m] 100)).alloc (.cells #[.int .i64 i, .int .i64 m] 100)).drew).heap[(w.alloc (.cells #[.int .i64 i, .int .i64 m] 100)).heap.size]? = some (.cells #[.int .i64 i, .int .i64 m] 100 (0, 0)) := heap_alloc_new _ _
    rw [Go.Proofs.Ytihhojgnilbfnaa.SemC.add_off, Lib.cell_of_heap hq, ← hx]
    simp
  have hrow := hK2.rows r
  rw [hv] at hrow
  have HFin : Hid (∀ w3 A2 n2 c2, (((w.alloc (.cells #[.int .i64 i, .int .i64 m] 100)).alloc (.cells #[.int .i64 i, .int .i64 m] 100)).drew).grownBy w3 (Value.slice A (t.watch r).length c).ownBlock → Moves (((w.alloc (.cells #[.int .i64 i, .int .i64 m] 100)).alloc (.cells #[.int .i64 i, .int .i64 m] 100)).drew) (Value.slice A (t.watch r).length c).ownBlock (Value.slice A2 n2 c2).ownBlock →
      w3.ownsRow W.heap.size 100 2 (.slice A2 n2 c2) ((t.watch r).length + 1) (encP (t.watch r) ++ [.int .i64 i, .int .i64 m]) → Old (((w.alloc (.cells #[.int .i64 i, .int .i64 m] 100)).alloc (.cells #[.int .i64 i, .int .i64 m] 100)).drew) w3 (Value.slice A (t.watch r).length c) ((t.watch r).length * 2) 100 →
      ∃ w4, (Instr.mapUpdate 79 (.map (some a.bw)) (.int .i64 r) (.slice A2 n2 c2)).run Try.prog w3 = .ok () w4 ∧ WPost W a (watchM t r (i, m)) h F (.returned (.tuple #[])) w4 ∧ ∀ o, w3.cell? ⟨a.ws, o, none⟩ = (#[.int .i64 a.d0, .int .i64 a.d1, .slice a.A a.L.length a.ca, .map (some a.bk), qv, .map (some a.bw)] : Array Value)[o]?) := Lib.hid (fun w3 A2 n2 c2 hg hmv ho hold => by
    rw [← hv] at hg hmv hold
    have hwm3 : MapV w3 3 iv a.bw t.nw M := hK2.wm.heap (hg.block _ hK2.wm.lt (fun e => by
      obtain ⟨_, cur, hc⟩ := own_blk (hK2.rows r) e.symm
      obtain ⟨es, cc, e2⟩ := hK2.wm.blk
      exact map_ne e2 hc rfl))
    obtain ⟨w4, hr4, hm4, ht4⟩ := hwm3.store lawI Try.underlying79 (by unfold maxLen; omega) iv_inj hkey (.slice A2 n2 c2)
    have hw3 : w3.heap[a.ws]? = _ := (hg.block _ (lt_of hK2.wb) (fun e => by
      obtain ⟨_, cur, hc⟩ := own_blk (hK2.rows r) e.symm
      exact ne_of_type hc hK2.wb (by show (_ : Nat) ≠ _; decide) rfl)).trans hK2.wb
    exact ⟨w4, hr4, ⟨rfl, hh, qv, putK M r (.slice A2 n2 c2), Wk.watch (x := (i, m)) hK2 hg hmv ho hm4 ht4, Frm.ok.watch (x := (i, m)) hK2 hF2 hg hmv hold ht4⟩, fun o => Lib.cell_of_heap hw3 o⟩)
  have HR := Lib.hid hrow
  have HCL := Lib.hid hcl
  have HB2 := Lib.hid hK2.bel.size
  have hm : maxLen = 9223372036854775807 := rfl
  clear hF2 hK0 hfr0 hK1 hK2 hrow hcl LK hv hkey
  generalize (t.watch r).length = n0 at *
  generalize encP (t.watch r) = xs0 at *
  go_enter Try.func51, Try.ntmps51
  go_upto_region 1 with fail
  generalize w.alloc (.cells #[.int .i64 i, .int .i64 m] 100) = w0 at *
  go_region_law ((refine step_append_at _ rfl (.tmp 16) (.tmp 18) 101 rfl W.heap.size 100 i0 (.agg #[.int .i64 0, .int .i64 0]) 2 16 Try.underlying101 hi hz0 hz1 hz2 rfl (by decide) (.slice A n0 c) n0 xs0 (by simp [Act.eval]) HR.out ⟨w0.heap.size, 0, none⟩ 1 1 [.int .i64 i, .int .i64 m] (by simp [Act.eval]) rfl HCL.out (fun u hu => by simp at hu; rcases hu with rfl | rfl <;> rfl) (by omega) (by omega) HB2.out ?_); intro v' w3 hown3 hg3 hm3 hold3; obtain ⟨A2, n2, c2, rfl⟩ : ∃ A n c, v' = Value.slice A n c := (by rcases hown3.2 with ⟨rfl, _⟩ | ⟨g, cap, cur, rfl, _⟩ <;> exact ⟨_, _, _, rfl⟩); obtain ⟨w4, F0, F1, F2⟩ := HFin.out w3 A2 n2 c2 hg3 hm3 hown3 hold3)
  all_goals
    have HF1 := Lib.hid F1
    clear F1 F0 F2
    go_wp2_with fail
    go_end0
    exact HF1.out
end Go.Proofs.Ytihhojgnilbfnaa.PfD
