/- The looking for steps: what stands while it goes on. -/
import Derived.Test.YtddjbchlpfaggaaPfM
namespace Go.Proofs.Ytddjbchlpfaggaa.PfN
open Go.Proofs.Ytddjbchlpfaggaa.TblB Go.Proofs.Ytddjbchlpfaggaa.TblC Go.Proofs.Ytddjbchlpfaggaa.TblV Go.Proofs.Ytddjbchlpfaggaa.TblP Go.Proofs.Ytddjbchlpfaggaa.TblQ Go.Proofs.Ytddjbchlpfaggaa.SemA Go.Proofs.Ytddjbchlpfaggaa.PfM
set_option linter.unusedVariables false
set_option linter.unusedSimpArgs false
variable {P K : Nat} {L : List Ru} {T h c : Nat} {pend : List (Int × Int)} {t : Ss}
theorem put_known (t : Ss) (s : Sp) : ∃ l, (putM t s).known = t.known ++ l := by
  unfold putM
  split
  · exact ⟨[], by simp⟩
  · exact ⟨[s], rfl⟩
theorem put_watch (t : Ss) (s : Sp) : (putM t s).watch = t.watch := by unfold putM; split <;> rfl
theorem put_nw (t : Ss) (s : Sp) : (putM t s).nw = t.nw := by unfold putM; split <;> rfl
theorem put_has (t : Ss) (s : Sp) : hasS (putM t s).known s.fa = true := by
  unfold putM
  split
  · rename_i h; exact h
  · simp only; rw [hasS_app, hasS_one]; simp
theorem pre_has {A B : List Sp} {f : Fa} (h : ∃ l, B = A ++ l) (hf : hasS A f = true) : hasS B f = true := by
  obtain ⟨l, rfl⟩ := h
  exact hasS_mono hf
theorem has_take {A : List Sp} {n : Nat} {f : Fa} (h : hasS (A.take n) f = true) : hasS A f = true := by
  obtain ⟨s, hs, e⟩ := hasS_iff.1 h
  exact hasS_iff.2 ⟨s, List.mem_of_mem_take hs, e⟩
/-- One more is known: what stands, stands. -/
theorem Inv.put (hi : Inv P K L T h pend c t) {s : Sp} (ho : okS P K L t.known s = true) : Inv P K L T h pend c (putM t s) := by
  have hk := put_known t s
  have hw := put_watch t s
  have hm : ∀ f, hasS t.known f = true → hasS (putM t s).known f = true := fun f hf => pre_has hk hf
  have htk : ∀ j, j < h → (putM t s).known.take (j + 1) = t.known.take (j + 1) := fun j hj => by
    obtain ⟨l, e⟩ := hk
    have := hi.le
    rw [e, List.take_append_of_le_length (by omega)]
  exact {
    le := by obtain ⟨l, e⟩ := hk; rw [e, List.length_append]; have := hi.le; omega
    ck := by
      unfold putM
      split
      · exact hi.ck
      · rename_i hn
        simp only
        rw [chk_snoc, hi.ck, List.nil_append, ho]
        simp [hn]
    wok := fun r y hy => (hi.wok r y (by rw [hw] at hy; exact hy)).mono hm
    stat := fun i hiT u hu => by
      obtain ⟨a, b, d⟩ := hi.stat i hiT u hu
      rw [hw]
      exact ⟨fun e => hm _ (a e), b, d⟩
    cl := fun j hj x hx y hy => by
      rw [htk j hj]
      have hx' : t.known[j]? = some x := by
        obtain ⟨l, e⟩ := hk
        rw [e, List.getElem?_append_left (Nat.lt_of_lt_of_le hj hi.le)] at hx
        exact hx
      rcases hi.cl j hj x hx' y (by rw [hw] at hy; exact hy) with q | q
      · exact .inl q
      · exact .inr (q.mono hm (fun r z hz => by rw [hw]; exact hz))
    any := by rw [hw]; exact hi.any
    len := by rw [hw, put_nw]; exact hi.len
    cnt := by rw [put_nw]; exact hi.cnt }
/-- One more watches. -/
theorem Inv.watch {b : Nat} (hi : Inv P K L T h pend c t) {r : Int} {y : Int × Int} (hw : WOk P K L t r y)
    (hcl : ∀ j, j < h → ∀ s, t.known[j]? = some s → s.role = r → Done P K L (watchM t r y) (t.known.take (j + 1)) s.who y)
    (ha : ∀ i, anyN ((watchM t r y).watch i) ≤ 2 * T) (hl : t.nw + 1 ≤ 2 * T + b) : Inv P K L T h pend b (watchM t r y) := by
  have hm : ∀ i, ∀ z ∈ t.watch i, z ∈ (watchM t r y).watch i := fun i z hz => by
    unfold watchM
    simp only
    split
    · exact List.mem_append_left _ hz
    · exact hz
  have hin : ∀ i, ∀ z ∈ (watchM t r y).watch i, z ∈ t.watch i ∨ (i = r ∧ z = y) := fun i z hz => by
    unfold watchM at hz
    simp only at hz
    split at hz
    · rename_i e
      rcases List.mem_append.1 hz with q | q
      · exact .inl q
      · exact .inr ⟨e, by simpa using q⟩
    · exact .inl hz
  exact {
    le := hi.le
    ck := hi.ck
    wok := fun i z hz => by
      rcases hin i z hz with q | ⟨rfl, rfl⟩
      · exact (hi.wok i z q).mono (fun f hf => hf)
      · exact hw.mono (fun f hf => hf)
    stat := fun i hiT u hu => by
      obtain ⟨a, b, d⟩ := hi.stat i hiT u hu
      exact ⟨a, fun e => hm _ _ (b e), fun e => hm _ _ (d e)⟩
    cl := fun j hj x hx z hz => by
      rcases hin x.role z hz with q | ⟨e, rfl⟩
      · rcases hi.cl j hj x hx z q with q2 | q2
        · exact .inl q2
        · exact .inr (q2.mono (fun f hf => hf) hm)
      · exact .inr (hcl j hj x hx e)
    any := ha
    len := fun i => by
      have := hi.len i
      unfold watchM
      simp only
      split <;> simp <;> omega
    cnt := hl }
theorem anyN_app (l : List (Int × Int)) (y : Int × Int) : anyN (l ++ [y]) = anyN l + if y.2 = -1 then 1 else 0 := by
  unfold anyN
  rw [List.filter_append, List.length_append]
  by_cases e : y.2 = -1
  · simp [e]
  · simp [e]
theorem lk_watch (t : Ss) (r : Int) (y : Int × Int) (a i hd mid : Int) (who : Nat) : lkM (watchM t r y) a i hd mid who = watchM (lkM t a i hd mid who) r y := by
  unfold lkM
  have e : (watchM t r y).known = t.known := rfl
  rw [e]
  split
  · unfold putM
    rw [e]
    split <;> rfl
  · rfl
theorem lks_watch (r : Int) (y : Int × Int) (a i hd mid : Int) : ∀ (l : List Nat) (t : Ss), l.foldl (lkM · a i hd mid) (watchM t r y) = watchM (l.foldl (lkM · a i hd mid) t) r y
  | [], t => rfl
  | x :: l, t => by
    simp only [List.foldl_cons]
    rw [lk_watch, lks_watch r y a i hd mid l]
/-- All who are in the linked role come in. -/
theorem Inv.lks {a i hd mid : Int} {u : Ru} (hu : ruleAt P K L i = some u) (hk : u.kind = 3) (hh : hd = u.head) (hmid : 0 ≤ mid ∧ mid < P) (ha : a = mid * K + u.via) : ∀ (l : List Nat) (t : Ss), (∀ x ∈ l, x < P) → hasS t.known (u.a, mid) = true → Inv P K L T h pend c t →
    Inv P K L T h pend c (l.foldl (lkM · a i hd mid) t) ∧ (∃ k, (l.foldl (lkM · a i hd mid) t).known = t.known ++ k) ∧ ((l.foldl (lkM · a i hd mid) t).watch = t.watch ∧ (l.foldl (lkM · a i hd mid) t).nw = t.nw) ∧ ∀ x ∈ l, hasS t.known (a, (x : Int)) = true → hasS (l.foldl (lkM · a i hd mid) t).known (hd, (x : Int)) = true
  | [], t, _, _, hi => ⟨hi, ⟨[], by simp⟩, ⟨rfl, rfl⟩, fun x hx => by cases hx⟩
  | x :: l, t, hl, hA, hi => by
    simp only [List.foldl_cons]
    have step : Inv P K L T h pend c (lkM t a i hd mid x) ∧ (∃ k, (lkM t a i hd mid x).known = t.known ++ k) ∧ ((lkM t a i hd mid x).watch = t.watch ∧ (lkM t a i hd mid x).nw = t.nw) ∧ (hasS t.known (a, (x : Int)) = true → hasS (lkM t a i hd mid x).known (hd, (x : Int)) = true) := by
      unfold lkM
      split
      · rename_i hx
        refine ⟨Inv.put hi ?_, put_known _ _, ⟨put_watch _ _, put_nw _ _⟩, fun _ => put_has t ⟨i, hd, x, mid⟩⟩
        unfold okS
        simp only [hu]
        unfold fitB under
        simp only [hk, hh]
        have hxP := hl x (by simp)
        simp only [Bool.and_eq_true, decide_eq_true_eq, List.all_eq_true]
        refine ⟨⟨trivial, ⟨by omega, by omega⟩, by simp, by simp; omega⟩, fun f hf => ?_⟩
        simp at hf
        rcases hf with rfl | rfl
        · exact hA
        · rw [← ha]; exact hx
      · rename_i hx
        exact ⟨hi, ⟨[], by simp⟩, ⟨rfl, rfl⟩, fun h2 => absurd h2 hx⟩
    obtain ⟨s1, ⟨k1, e1⟩, s3, s4⟩ := step
    obtain ⟨r1, ⟨k2, e2⟩, r3, r4⟩ := Inv.lks hu hk hh hmid ha l (lkM t a i hd mid x) (fun z hz => hl z (by simp [hz])) (by rw [e1]; exact hasS_mono hA) s1
    refine ⟨r1, ⟨k1 ++ k2, by rw [e2, e1, List.append_assoc]⟩, ⟨r3.1.trans s3.1, r3.2.trans s3.2⟩, fun z hz hz2 => ?_⟩
    rcases List.mem_cons.1 hz with rfl | hz
    · rw [e2]; exact hasS_mono (s4 hz2)
    · exact r4 z hz (by rw [e1]; exact hasS_mono hz2)
theorem ruleD_of {i : Int} {u : Ru} (hu : ruleAt P K L i = some u) : ruleD L i = u := by
  obtain ⟨_, h1, h2, _⟩ := ruleAt_some hu
  unfold ruleD
  rw [List.getD_eq_getElem?_getD, h2]
  rfl
theorem linkM_eq (P K : Nat) (L : List Ru) (t : Ss) (i mid : Int) : linkM P K L t i mid = watchM ((List.range P).foldl (lkM · (mid * K + (ruleD L i).via) i (ruleD L i).head mid) t) (mid * K + (ruleD L i).via) (i, mid) := by
  unfold linkM
  rw [lks_watch]
theorem watch_at (t : Ss) (r : Int) (y : Int × Int) : y ∈ (watchM t r y).watch r := by
  unfold watchM
  simp
theorem watch_sub (t : Ss) (r : Int) (y : Int × Int) (i : Int) : ∀ z ∈ t.watch i, z ∈ (watchM t r y).watch i := fun z hz => by
  unfold watchM
  simp only
  split
  · exact List.mem_append_left _ hz
  · exact hz
theorem watch_any (t : Ss) (r : Int) (y : Int × Int) (i : Int) : anyN ((watchM t r y).watch i) = anyN (t.watch i) + if i = r ∧ y.2 = -1 then 1 else 0 := by
  unfold watchM
  simp only
  by_cases e : i = r
  · rw [if_pos e, anyN_app]
    by_cases e2 : y.2 = -1 <;> simp [e, e2]
  · rw [if_neg e]; simp [e]
theorem watch_len (t : Ss) (r : Int) (y : Int × Int) (i : Int) : ((watchM t r y).watch i).length ≤ (t.watch i).length + 1 := by
  unfold watchM
  simp only
  split <;> simp
def bump (y : Int × Int) : Nat := if y.2 = -1 then 1 else 0
/-- The watch that was asked is done with. -/
theorem Inv.done {y : Int × Int} {rest : List (Int × Int)} {b : Nat} {t t' : Ss} {x : Sp} (hi : Inv P K L T h (y :: rest) c t) (hi' : Inv P K L T h (y :: rest) b t') (h1 : 1 ≤ h) (hs : t'.known[h - 1]? = some x) (hd : Done P K L t' (t'.known.take h) x.who y) : Inv P K L T h rest b t' where
  le := hi'.le
  ck := hi'.ck
  wok := hi'.wok
  stat := hi'.stat
  cl := fun j hj s hs2 z hz => by
    rcases hi'.cl j hj s hs2 z hz with ⟨q, e⟩ | q
    · rcases List.mem_cons.1 q with rfl | q
      · have : j = h - 1 := by omega
        subst this
        rw [hs] at hs2
        cases hs2
        have e3 : h - 1 + 1 = h := by omega
        rw [e3]
        exact .inr hd
      · exact .inl ⟨q, e⟩
    · exact .inr q
  any := hi'.any
  len := hi'.len
  cnt := hi'.cnt
theorem Inv.more {b : Nat} (hi : Inv P K L T h pend c t) (hb : c ≤ b) : Inv P K L T h pend b t :=
  { hi with cnt := Nat.le_trans hi.cnt (by omega) }
/-- One watch more is asked. -/
theorem Inv.step {y : Int × Int} {rest : List (Int × Int)} {s : Sp} (hi : Inv P K L T h (y :: rest) c t) (h1 : 1 ≤ h) (hs : t.known[h - 1]? = some s) (hy : y ∈ t.watch s.role) :
    Inv P K L T h rest (c + bump y) (stepM P K L t s.who y) ∧ (∃ l, (stepM P K L t s.who y).known = t.known ++ l) ∧ ∀ i, ∀ z ∈ t.watch i, z ∈ (stepM P K L t s.who y).watch i := by
  obtain ⟨⟨u, hu⟩, k1, hany, hmid⟩ := hi.wok _ y hy
  have hD := ruleD_of hu
  have hr := (ruleAt_some hu).2.2.2
  obtain ⟨hk, rh, rw_, ra, rb, rv⟩ := right_r hr
  rw [hD] at k1 hany hmid
  have hin : hasS t.known (s.role, s.who) = true := hasS_iff.2 ⟨s, List.mem_of_getElem? hs, rfl⟩
  have hsw : 0 ≤ s.who ∧ s.who < P := by
    have : ∀ (l A : List Sp), chk P K L A l = true → ∀ x ∈ l, 0 ≤ x.who ∧ x.who < P := by
      intro l
      induction l with
      | nil => intro A _ x hx; cases hx
      | cons a l ih =>
        intro A hc x hx
        simp only [chk, Bool.and_eq_true] at hc
        rcases List.mem_cons.1 hx with rfl | hx
        · obtain ⟨_, _, _, _, _, q1, q2, _⟩ := okS_rng hc.1.1
          exact ⟨q1, q2⟩
        · exact ih _ hc.2 x hx
    exact this _ _ hi.ck s (List.mem_of_getElem? hs)
  have hget : ∀ {t' : Ss}, (∃ l, t'.known = t.known ++ l) → t'.known[h - 1]? = some s := fun {t'} e => by
    obtain ⟨l, e⟩ := e
    have := hi.le
    rw [e, List.getElem?_append_left (by omega)]
    exact hs
  have hput : ∀ x : Sp, okS P K L t.known x = true → Done P K L (putM t x) ((putM t x).known.take h) s.who y → Inv P K L T h rest (c + bump y) (putM t x) ∧ (∃ l, (putM t x).known = t.known ++ l) ∧ ∀ i, ∀ z ∈ t.watch i, z ∈ (putM t x).watch i := fun x ho hd =>
    ⟨Inv.more (Inv.done hi (Inv.put hi ho) h1 (hget (put_known t x)) hd) (Nat.le_add_right _ _), put_known t x, fun i z hz => by rw [put_watch]; exact hz⟩
  have hok : ∀ m : Int, fitB P u ⟨y.1, u.head, s.who, m⟩ = true → (∀ f ∈ under K u ⟨y.1, u.head, s.who, m⟩, hasS t.known f = true) → okS P K L t.known ⟨y.1, u.head, s.who, m⟩ = true := fun m a b => by
    unfold okS
    simp only [hu, a, Bool.true_and, List.all_eq_true]
    exact b
  unfold stepM
  simp only [hD]
  rcases hk with k | k | k | k
  · exact absurd k k1
  · rw [if_neg (by omega), if_pos k]
    have e2 : y.2 = -1 := Classical.byContradiction fun q => by have := (hmid q).1; omega
    have ea : u.a = s.role := by rcases hany e2 with q | q <;> omega
    refine hput _ (hok 0 ?_ ?_) ⟨fun _ => ?_, fun q => ?_, fun q => ?_, fun q => ?_⟩
    · unfold fitB; simp [k]; omega
    · unfold under
      rw [if_pos k]
      intro f hf
      simp at hf
      subst hf
      rw [ea]; exact hin
    · rw [hD]; exact put_has t ⟨y.1, u.head, s.who, 0⟩
    · rw [hD] at q; omega
    · rw [hD] at q; omega
    · rw [hD] at q; omega
  · rw [if_pos k]
    by_cases e2 : y.2 = -1
    · rw [if_pos e2, linkM_eq, hD]
      have ea : u.a = s.role := by rcases hany e2 with q | q <;> omega
      obtain ⟨r1, r2, r3, r4⟩ := Inv.lks (a := s.who * K + u.via) (i := y.1) (hd := u.head) (mid := s.who) hu k rfl hsw rfl (List.range P) t (fun x hx => by simpa using hx) (by rw [ea]; exact hin) hi
      generalize hg : (List.range P).foldl (lkM · (s.who * K + u.via) y.1 u.head s.who) t = t1 at *
      have hne : s.who ≠ -1 := by omega
      have hw1 : Inv P K L T h (y :: rest) (c + 1) (watchM t1 (s.who * K + u.via) (y.1, s.who)) := Inv.watch r1
        ⟨⟨u, hu⟩, by rw [hD]; omega, fun q => absurd q hne, fun _ => by rw [hD]; exact ⟨k, hsw.1, hsw.2, rfl, by rw [ea]; exact pre_has r2 hin⟩⟩
        (fun j hj x hx e => by
          refine ⟨fun q => ?_, fun q => ?_, fun _ q => absurd q hne, fun _ _ => ?_⟩
          · rw [hD] at q; omega
          · rw [hD] at q; omega
          · rw [hD]
            have hx' : t.known[j]? = some x := by
              obtain ⟨l, e⟩ := r2
              rw [e, List.getElem?_append_left (Nat.lt_of_lt_of_le hj hi.le)] at hx
              exact hx
            have hxw : 0 ≤ x.who ∧ x.who < P := by
              have : ∀ (l A : List Sp), chk P K L A l = true → ∀ x ∈ l, 0 ≤ x.who ∧ x.who < P := by
                intro l
                induction l with
                | nil => intro A _ x hx; cases hx
                | cons a l ih =>
                  intro A hc x hx
                  simp only [chk, Bool.and_eq_true] at hc
                  rcases List.mem_cons.1 hx with rfl | hx
                  · obtain ⟨_, _, _, _, _, q1, q2, _⟩ := okS_rng hc.1.1
                    exact ⟨q1, q2⟩
                  · exact ih _ hc.2 x hx
              exact this _ _ hi.ck x (List.mem_of_getElem? hx')
            have h5 := r4 x.who.toNat (by simp; omega)
            have e6 : ((x.who.toNat : Nat) : Int) = x.who := by omega
            rw [e6] at h5
            exact h5 (hasS_iff.2 ⟨x, List.mem_of_getElem? hx', by unfold Sp.fa; rw [e]⟩))
        (fun i => by
          rw [watch_any, r3.1]
          have := hi.any i
          simp [hne]
          exact this)
        (by rw [r3.2]; have := hi.cnt; omega)
      have hb : bump y = 1 := by unfold bump; rw [if_pos e2]
      rw [hb]
      refine ⟨Inv.done hi hw1 h1 (hget (t' := watchM t1 (s.who * K + u.via) (y.1, s.who)) r2) ⟨fun q => ?_, fun q => ?_, fun _ _ => ?_, fun _ q => absurd e2 q⟩, r2, fun i z hz => watch_sub _ _ _ _ _ (by rw [r3.1]; exact hz)⟩
      · rw [hD] at q; omega
      · rw [hD] at q; omega
      · rw [hD]; exact watch_at _ _ _
    · rw [if_neg e2]
      obtain ⟨_, m1, m2, m3, m4⟩ := hmid e2
      refine hput _ (hok y.2 ?_ ?_) ⟨fun q => ?_, fun q => ?_, fun _ q => absurd q e2, fun _ _ => ?_⟩
      · unfold fitB; simp [k]; omega
      · unfold under
        rw [if_neg (by omega), if_pos k]
        intro f hf
        simp at hf
        rcases hf with rfl | rfl
        · exact m4
        · rw [← m3]; exact hin
      · rw [hD] at q; omega
      · rw [hD] at q; omega
      · rw [hD]; exact put_has t ⟨y.1, u.head, s.who, y.2⟩
  · rw [if_neg (by omega), if_neg (by omega)]
    have e2 : y.2 = -1 := Classical.byContradiction fun q => by have := (hmid q).1; omega
    split
    · rename_i hb
      simp only [Bool.and_eq_true] at hb
      refine hput _ (hok 0 ?_ ?_) ⟨fun q => ?_, fun _ _ _ => ?_, fun q => ?_, fun q => ?_⟩
      · unfold fitB; simp [k]; omega
      · unfold under
        rw [if_neg (by omega), if_neg (by omega), if_pos k]
        intro f hf
        simp at hf
        rcases hf with rfl | rfl
        · exact hb.1
        · exact hb.2
      · rw [hD] at q; omega
      · rw [hD]; exact put_has t ⟨y.1, u.head, s.who, 0⟩
      · rw [hD] at q; omega
      · rw [hD] at q; omega
    · rename_i hb
      refine ⟨Inv.more (Inv.done hi hi h1 hs ⟨fun q => ?_, fun _ a b => ?_, fun q => ?_, fun q => ?_⟩) (Nat.le_add_right _ _), ⟨[], by simp⟩, fun i z hz => hz⟩
      · rw [hD] at q; omega
      · rw [hD] at a b
        exact absurd (by rw [has_take a, has_take b]; rfl) hb
      · rw [hD] at q; omega
      · rw [hD] at q; omega
end Go.Proofs.Ytddjbchlpfaggaa.PfN
