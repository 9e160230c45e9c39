/- The nodes that one comes to, by contract. -/
import Derived.Test.YtnkkmppmfjekeaaQuI
import Derived.Maps.RangeWalk
namespace Go.Proofs.Ytnkkmppmfjekeaa.QuJ
open Go.RowKit Go.Lib Go.Proofs Go.Maps Go.Proofs.Ytnkkmppmfjekeaa.CaA Go.Proofs.Ytnkkmppmfjekeaa.NdA Go.Proofs.Ytnkkmppmfjekeaa.NdB Go.Proofs.Ytnkkmppmfjekeaa.NdC Go.Proofs.Ytnkkmppmfjekeaa.NdE Go.Proofs.Ytnkkmppmfjekeaa.NdG Go.Proofs.Ytnkkmppmfjekeaa.NdI Go.Proofs.Ytnkkmppmfjekeaa.ItA Go.Proofs.Ytnkkmppmfjekeaa.ItB Go.Proofs.Ytnkkmppmfjekeaa.ItD Go.Proofs.Ytnkkmppmfjekeaa.ItH Go.Proofs.Ytnkkmppmfjekeaa.ItI Go.Proofs.Ytnkkmppmfjekeaa.ItK Go.Proofs.Ytnkkmppmfjekeaa.QuA Go.Proofs.Ytnkkmppmfjekeaa.QuB Go.Proofs.Ytnkkmppmfjekeaa.QuC Go.Proofs.Ytnkkmppmfjekeaa.QuM Go.Proofs.Ytnkkmppmfjekeaa.QuD
set_option linter.unusedVariables false
set_option linter.unusedSimpArgs false
def Rng (n : Int) : Prop := -9223372036854775808 ≤ n ∧ n ≤ 9223372036854775807
noncomputable abbrev PE : Value → Option (DataW Unit × List MemPlace) := plainElem Try.prog 3
set_option maxRecDepth 100000 in
theorem pe_int {a : Int} (h : Rng a) : PE (.int .i64 a) = some (.lit (.int .i64 a), []) := plainElem_int Try.underlying3 (WalkArith.wf_i64 (by unfold Rng at h; omega))
/-- Block m is a map of just the nodes of R, each with its variable. -/
def MapR (w : World) (m : Nat) (R : List Int) (s : St) : Prop :=
  ∃ D : DataW Unit, w.ownsMap Try.prog 3 PE m R.length D ∧ Maps.size D = R.length ∧ ∀ n, Rng n → Maps.has D (.int .i64 n) = decide (n ∈ R) ∧ (n ∈ R → ∀ z, D.atKey (.int .i64 n) z = .lit (.int .i64 (at_ s n).v))
theorem MapR.heap {w w' : World} {m : Nat} {R : List Int} {s : St} (h : MapR w m R s) (hb : w'.heap[m]? = w.heap[m]?) : MapR w' m R s := by
  obtain ⟨D, ⟨es, clock, h1, h2⟩, h3⟩ := h
  exact ⟨D, ⟨es, clock, hb.trans h1, h2⟩, h3⟩
theorem MapR.lt {w : World} {m : Nat} {R : List Int} {s : St} (h : MapR w m R s) : m < w.heap.size := by
  obtain ⟨D, ⟨es, clock, h1, h2⟩, h3⟩ := h
  exact (Array.getElem?_eq_some_iff.1 h1).1
theorem MapR.made (w : World) (s : St) : MapR (w.alloc (.map #[] 0)) w.heap.size [] s :=
  ⟨.map [], World.ownsMap_made _ _ _ _, rfl, fun n _ => ⟨rfl, fun h => by cases h⟩⟩
theorem lit_inj {a b : Int} (h : Lit.int .i64 a = Lit.int .i64 b) : a = b := by injection h
set_option maxRecDepth 100000 in
theorem MapR.look {w : World} {m : Nat} {R : List Int} {s : St} (h : MapR w m R s) {n : Int} (hn : Rng n) : ∃ v, (Instr.lookup 82 (.map (some m)) (.int .i64 n) true).run Try.prog w = .ok (.tuple #[v, .bool (decide (n ∈ R))]) w := by
  obtain ⟨D, h1, h2, h3⟩ := h
  obtain ⟨v, ps, hr, _⟩ := h1.look_ok lawI Try.underlying82 (zeroI w) (pe_int (by unfold Rng; omega)) (keyI hn)
  rw [(h3 n hn).1] at hr
  exact ⟨v, hr⟩
set_option maxRecDepth 100000 in
theorem MapR.store {w : World} {m : Nat} {R : List Int} {s : St} (h : MapR w m R s) {n : Int} (hn : Rng n) (hv : Rng (at_ s n).v) (hR : R.length < maxLen) (hnr : n ∉ R) : ∃ w', (Instr.mapUpdate 82 (.map (some m)) (.int .i64 n) (.int .i64 (at_ s n).v)).run Try.prog w = .ok () w' ∧ MapR w' m (n :: R) s ∧ w.mapTurned w' m := by
  obtain ⟨D, h1, h2, h3⟩ := h
  obtain ⟨w', r1, r2, r3⟩ := h1.store lawI Try.underlying82 hR (keyI hn) (pe_int hv)
  refine ⟨w', r1, ⟨_, r2, ?_, fun g hg => ?_⟩, r3⟩
  · obtain ⟨es, rfl, hp, hk⟩ := h1.entries lawI
    rw [Maps.size_put ⟨es, rfl, hp⟩, (h3 n hn).1, decide_eq_false hnr, h2]
    simp
  · by_cases e : g = n
    · subst e
      refine ⟨?_, fun _ z => atKey_put_same h1.isMap (lawI.key (keyI hn)) _ z⟩
      rw [has_put_same h1.isMap (lawI.key (keyI hn))]
      simp
    · have hne : Lit.int .i64 g ≠ Lit.int .i64 n := fun q => e (lit_inj q)
      refine ⟨?_, fun hm z => ?_⟩
      · rw [has_put_other hne, (h3 g hg).1]
        simp [e]
      · rw [atKey_put_other hne]
        exact (h3 g hg).2 (by
          rcases List.mem_cons.1 hm with h | h
          · exact absurd h e
          · exact h) z
/-- x is come to from n. -/
inductive Rch (s : St) : Int → Int → Prop
  | here {n : Int} : nodeB s n = true → Rch s n n
  | lo {n x : Int} : nodeB s n = true → Rch s (at_ s n).lo x → Rch s n x
  | hi {n x : Int} : nodeB s n = true → Rch s (at_ s n).hi x → Rch s n x
/-- What a walk from n has found more. -/
structure Went (s : St) (R R' : List Int) (n : Int) : Prop where
  sub : ∀ x ∈ R, x ∈ R'
  mem : nodeB s n = true → n ∈ R'
  closed : ∀ x ∈ R', x ∉ R → (nodeB s (at_ s x).lo = true → (at_ s x).lo ∈ R') ∧ (nodeB s (at_ s x).hi = true → (at_ s x).hi ∈ R')
  from_ : ∀ x ∈ R', x ∉ R → Rch s n x
theorem Went.no {s : St} {R : List Int} {n : Int} (h : nodeB s n = false) : Went s R R n := ⟨fun x h => h, fun k => by (rw [h] at k; cases k), fun x h1 h2 => absurd h1 h2, fun x h1 h2 => absurd h1 h2⟩
theorem Went.was {s : St} {R : List Int} {n : Int} (h : n ∈ R) : Went s R R n := ⟨fun x h => h, fun _ => h, fun x h1 h2 => absurd h1 h2, fun x h1 h2 => absurd h1 h2⟩
theorem Went.both {s : St} {R R2 R3 : List Int} {n : Int} (hn : nodeB s n = true) (h2 : Went s (n :: R) R2 (at_ s n).lo) (h3 : Went s R2 R3 (at_ s n).hi) : Went s R R3 n := by
  refine ⟨fun x h => h3.sub x (h2.sub x (by simp [h])), fun _ => h3.sub n (h2.sub n (by simp)), fun x hx hr => ?_, fun x hx hr => ?_⟩
  · by_cases e2 : x ∈ R2
    · by_cases e1 : x ∈ n :: R
      · rcases List.mem_cons.1 e1 with rfl | e1
        · exact ⟨fun h => h3.sub _ (h2.mem h), fun h => h3.mem h⟩
        · exact absurd e1 hr
      · obtain ⟨a, b⟩ := h2.closed x e2 e1
        exact ⟨fun h => h3.sub _ (a h), fun h => h3.sub _ (b h)⟩
    · exact h3.closed x hx e2
  · by_cases e2 : x ∈ R2
    · by_cases e1 : x ∈ n :: R
      · rcases List.mem_cons.1 e1 with rfl | e1
        · exact .here hn
        · exact absurd e1 hr
      · exact .lo hn (h2.from_ x e2 e1)
    · exact .hi hn (h3.from_ x hx e2)
/-- The work of the walk. -/
structure Rq (W : World) (D : Nat) (x : Bx) (m : Nat) (w : World) (c : Nat) (s : St) (N : Nat) (R : List Int) : Prop where
  bd : Bd w D x c s N
  frm : Frm (fun j => j = m) W w
  m0 : m < W.heap.size
  off : ¬ FootD D x m
  mp : MapR w m R s
  nd : R.Nodup
  nodes : ∀ n ∈ R, nodeB s n = true
section
variable {W : World} {D : Nat} {x : Bx} {m : Nat} {w : World} {c : Nat} {s : St} {N : Nat} {R : List Int}
theorem Rq.start (H : Rq W D x m w c s N R) : Rq w D x m w c s N R := ⟨H.bd, Frm.refl _ w, Nat.lt_of_lt_of_le H.m0 H.frm.size, H.off, H.mp, H.nd, H.nodes⟩
theorem Rq.below {w' : World} (H : Rq W D x m w c s N R) (hb : Below w.heap.size w w') : Rq W D x m w' c s N R :=
  ⟨H.bd.below hb, H.frm.trans (Frm.of_below (F := fun _ => False) hb) (fun k hk => absurd hk id), H.m0, H.off, H.mp.heap (hb.block m H.mp.lt), H.nd, H.nodes⟩
theorem Rq.rebase {w' : World} {R' : List Int} (H : Rq W D x m w c s N R) (H' : Rq w D x m w' c s N R') : Rq W D x m w' c s N R' := ⟨H'.bd, H.frm.trans H'.frm (fun j hj => Or.inl hj), H.m0, H.off, H'.mp, H'.nd, H'.nodes⟩
theorem Lies.frm {w' : World} {b : Nat} {cs : Array Value} {t : TypeId} (h : Lies w D x m b cs t) (hf : Frm (fun j => j = m) w w') : Lies w' D x m b cs t := ⟨(hf.block b h.lt h.ne).trans h.blk, h.off, h.ne⟩
theorem Rq.next {b : Nat} {cs : Array Value} {t : TypeId} (H : Rq W D x m w c s N R) (h : Lies W D x m b cs t) : Lies w D x m b cs t := Lies.frm h H.frm
theorem Rq.new (H : Rq W D x m w c s N R) (cs : Array Value) (t : TypeId) : Lies (w.alloc (.cells cs t)) D x m w.heap.size cs t :=
  ⟨heap_alloc_new w _, fun e => by have := H.bd.foot e; omega, by have := H.mp.lt; omega⟩
theorem len_of_nodes {s : St} {R : List Int} (hd : R.Nodup) (hn : ∀ n ∈ R, nodeB s n = true) : R.length ≤ s.L.length := by
  have key : ∀ (k : Nat) (R : List Int), R.Nodup → (∀ n ∈ R, 2 ≤ n ∧ n < 2 + (k : Int)) → R.length ≤ k := fun k => by
    induction k with
    | zero =>
      intro R _ h
      cases R with
      | nil => exact Nat.le_refl _
      | cons a l => have := h a (by simp); omega
    | succ k ih =>
      intro R hd h
      by_cases hm : (2 + (k : Int)) ∈ R
      · have h1 := ih (R.erase (2 + (k : Int))) (hd.erase _) (fun n hn => by
          have h2 := (hd.mem_erase_iff).1 hn
          have h3 := h n h2.2
          have h4 : n ≠ 2 + (k : Int) := h2.1
          omega)
        rw [List.length_erase_of_mem hm] at h1
        omega
      · have := ih R hd (fun n hn => by
          have h3 := h n hn
          have h4 : n ≠ 2 + (k : Int) := fun e => hm (e ▸ hn)
          omega)
        omega
  exact key s.L.length R hd (fun n h => by obtain ⟨a, b⟩ := nodeB_iff.1 (hn n h); omega)
set_option maxRecDepth 100000 in
theorem Rq.store (H : Rq W D x m w c s N R) {n : Int} (hn : Rng n) (hv : Rng (at_ s n).v) (hR : R.length < maxLen) (hnr : n ∉ R) (hnd : nodeB s n = true) : ∃ w', (Instr.mapUpdate 82 (.map (some m)) (.int .i64 n) (.int .i64 (at_ s n).v)).run Try.prog w = .ok () w' ∧ Rq W D x m w' c s N (n :: R) := by
  obtain ⟨w', h1, h2, h3⟩ := H.mp.store hn hv hR hnr
  have hg := h3.grown
  refine ⟨w', h1, H.bd.keep hg.size (fun k hk => hg.block k (H.bd.foot hk) (fun e => by
    injection e with e
    subst e
    exact H.off hk)), H.frm.trans (Frm.of_grown (F := fun j => j = m) hg (fun k hk => by injection hk with hk; exact hk.symm)) (fun j hj => Or.inl hj), H.m0, H.off, h2, List.nodup_cons.2 ⟨hnr, H.nd⟩, fun k hk => ?_⟩
  rcases List.mem_cons.1 hk with rfl | hk
  · exact hnd
  · exact H.nodes k hk
end
set_option maxRecDepth 100000 in
/-- The boxes of the walk. -/
structure RBoxes (w : World) (D : Nat) (x : Bx) (m : Nat) (bd bm bw : Nat) : Prop where
  xd : Lies w D x m bd #[.pointer (some ⟨D, 0, none⟩)] 28
  xm : Lies w D x m bm #[.map (some m)] 82
  xw : Lies w D x m bw #[.func (.func 70) #[] #[.pointer (some ⟨bd, 0, none⟩), .pointer (some ⟨bm, 0, none⟩), .pointer (some ⟨bw, 0, none⟩)]] 104
theorem RBoxes.next {W : World} {D : Nat} {x : Bx} {m : Nat} {w : World} {c : Nat} {s : St} {N : Nat} {R : List Int} {bd bm bw : Nat} (h : RBoxes W D x m bd bm bw) (H : Rq W D x m w c s N R) : RBoxes w D x m bd bm bw := ⟨H.next h.xd, H.next h.xm, H.next h.xw⟩
def WentPost (w : World) (D : Nat) (x : Bx) (m : Nat) (c : Nat) (s : St) (N : Nat) (R : List Int) (n : Int) (e : Ending) (w' : World) : Prop := e = .returned (.tuple #[]) ∧ ∃ R', Rq w D x m w' c s N R' ∧ Went s R R' n
set_option maxHeartbeats 2000000 in
set_option maxRecDepth 100000 in
theorem walk (D m bd bm bw c : Nat) (x : Bx) (s : St) (N : Nat) : ∀ (k : Nat) (n : Int) (w : World) (R : List Int), n < k → Rng n → Rq w D x m w c s N R → RBoxes w D x m bd bm bw →
    Calls Try.prog 70 #[.int .i64 n, .pointer (some ⟨bd, 0, none⟩), .pointer (some ⟨bm, 0, none⟩), .pointer (some ⟨bw, 0, none⟩)] w (WentPost w D x m c s N R n) := fun k => by
  induction k using Nat.strongRecOn with
  | _ k ih =>
    intro n w R hk hr H B
    have hwf := H.bd.tk.tb.wf
    have hlen := H.bd.tk.tb.len
    have cd := B.xd.cell
    unfold WentPost
    cases hy : nodeB s n with
    | false =>
      have HM := Lib.hid (made_no n hr.1 hr.2 H.bd hy)
      have HC := Lib.hid (fun w1 (hb1 : Below w.heap.size w w1) => (H.below (hb1.alloc hb1.size (.cells #[.int .i64 0, .int .i64 0, .int .i64 0] 89))))
      have HB := Lib.hid B
      have HW := Lib.hid (Went.no (R := R) hy)
      clear H B ih hwf hlen hk
      go_enter Try.func70, Try.ntmps70
      go_wp2_with fail
      refine HM.out.mono ?_
      rintro e w1 ⟨rfl, hb1⟩
      have h2 := HC.out w1 hb1
      have cm := (HB.out.next h2).xm.cell
      obtain ⟨v, lk⟩ := h2.mp.look hr
      have HE := Lib.hid h2
      clear h2 HC HB HM hb1 cd
      cases hd : decide (n ∈ R) with
      | false =>
        rw [hd] at lk
        go_wp2_with fail
        refine bodyPost_ret (results_none rfl _ _ _) rfl ?_
        exact ⟨rfl, R, HE.out, HW.out⟩
      | true =>
        rw [hd] at lk
        go_wp2_with fail
        refine bodyPost_ret (results_none rfl _ _ _) rfl ?_
        exact ⟨rfl, R, HE.out, HW.out⟩
    | true =>
      obtain ⟨i, p, lo, hi, hn, hat, hpK, hp61, hvn, il, ih', vl, vh, hne, inn, hel⟩ := node_parts hwf hy
      obtain ⟨l1, l2⟩ := is_range (by omega) il
      obtain ⟨g1, g2⟩ := is_range (by omega) ih'
      have hlt : lo < n ∧ hi < n := by
        have hi2 : i < s.L.length := by obtain ⟨_, b⟩ := nodeB_iff.1 hy; omega
        have hok := hwf.ok i hi2
        have ea : at_ s n = s.L[i] := by rw [hn]; exact NdL.at_idx hi2
        rw [hat] at ea
        have e1 : lo = s.L[i].lo := by rw [← ea]
        have e2 : hi = s.L[i].hi := by rw [← ea]
        have := hok.2.2.2.1
        have := hok.2.2.2.2.2.1
        omega
      have hlo0 := (isB_iff.1 il).1
      have HM := Lib.hid (made_yes n hr.1 hr.2 H.bd hy)
      rw [hat] at HM
      simp only at HM
      have HC := Lib.hid (fun w1 (hb1 : Below w.heap.size w w1) => And.intro (H.below (hb1.alloc hb1.size (.cells #[.int .i64 p, .int .i64 lo, .int .i64 hi] 89))) ((H.below hb1).new #[.int .i64 p, .int .i64 lo, .int .i64 hi] 89))
      have HB := Lib.hid B
      by_cases hin : n ∈ R
      · have HW := Lib.hid (Went.was (s := s) hin)
        clear H B ih hwf hlen hk hlt hlo0 l1 l2 g1 g2 hne hel inn vl vh il ih' hvn hat hn hy
        go_enter Try.func70, Try.ntmps70
        go_wp2_with fail
        refine HM.out.mono ?_
        rintro e w1 ⟨rfl, hb1⟩
        obtain ⟨h2, -⟩ := HC.out w1 hb1
        have cm := (HB.out.next h2).xm.cell
        obtain ⟨v, lk⟩ := h2.mp.look hr
        rw [decide_eq_true hin] at lk
        have HE := Lib.hid h2
        clear h2 HC HB HM hb1 cd
        go_wp2_with fail
        refine bodyPost_ret (results_none rfl _ _ _) rfl ?_
        exact ⟨rfl, R, HE.out, HW.out⟩
      · have HI1 := Lib.hid (fun w3 (h : Rq w D x m w3 c s N (n :: R)) => ih (lo.toNat + 1) (by omega) lo w3 (n :: R) (by omega) ⟨l1, l2⟩ h.start (B.next h))
        have HI2 := Lib.hid (fun w4 R2 (h : Rq w D x m w4 c s N R2) => ih (hi.toNat + 1) (by have := (isB_iff.1 ih').1; omega) hi w4 R2 (by omega) ⟨g1, g2⟩ h.start (B.next h))
        unfold WentPost at HI1 HI2
        have hRl : R.length < maxLen := by
          have := len_of_nodes H.nd H.nodes
          unfold maxLen
          omega
        have HSt : Hid (∀ w2, Rq w D x m w2 c s N R → ∃ w', (Instr.mapUpdate 82 (.map (some m)) (.int .i64 n) (.int .i64 p)).run Try.prog w2 = .ok () w' ∧ Rq w2 D x m w' c s N (n :: R)) := Lib.hid (fun w2 h => by
          have h2 := h.start.store (n := n) hr (by rw [hat]; unfold Rng; simp only; omega) hRl hin hy
          rw [hat] at h2
          exact h2)
        have HBo := Lib.hid (fun R2 R3 (h2 : Went s (n :: R) R2 lo) (h3 : Went s R2 R3 hi) => Went.both hy (by rw [hat]; exact h2) (by rw [hat]; exact h3))
        clear H B ih hwf hlen hk hlt hlo0 l1 l2 g1 g2 hne hel inn vl vh il ih' hvn hat hn hy hRl
        go_enter Try.func70, Try.ntmps70
        go_wp2_with fail
        refine HM.out.mono ?_
        rintro e w1 ⟨rfl, hb1⟩
        obtain ⟨h2, hL2⟩ := HC.out w1 hb1
        have cm := (HB.out.next h2).xm.cell
        have cp := hL2.cell
        obtain ⟨v, lk⟩ := h2.mp.look hr
        rw [decide_eq_false hin] at lk
        obtain ⟨w3, hr3, h3⟩ := HSt.out _ h2
        have hL3 := h3.next hL2
        have h03 := h2.rebase h3
        have hB3 := HB.out.next h03
        have cw3 := hB3.xw.cell
        have cp3 := hL3.cell
        have HJ1 := Lib.hid (HI1.out _ h03)
        have HH3 := Lib.hid (And.intro h03 hL3)
        clear h2 hL2 HM HC hb1 cd h3 h03 hL3 hB3 HI1 HSt
        go_wp2_with fail
        refine HJ1.out.mono ?_
        rintro e w4 ⟨rfl, R2, h4, g2⟩
        have h04 := HH3.out.1.rebase h4
        have hL4 := h4.next HH3.out.2
        have hB4 := HB.out.next h04
        have cw4 := hB4.xw.cell
        have cp4 := hL4.cell
        have HJ2 := Lib.hid (HI2.out _ _ h04)
        have HH4 := Lib.hid (And.intro h04 g2)
        clear h4 h04 hL4 hB4 HH3 HI2 HJ1 cw3 cp3 cm cp lk hr3 g2
        go_wp2_with fail
        refine HJ2.out.mono ?_
        rintro e w5 ⟨rfl, R3, h5, g3⟩
        have HE := Lib.hid (And.intro (HH4.out.1.rebase h5) (HBo.out R2 R3 HH4.out.2 g3))
        clear h5 g3 HH4 HJ2 cw4 cp4 HBo
        go_wp2_with fail
        go_end0
        exact ⟨rfl, R3, HE.out.1, HE.out.2⟩
end Go.Proofs.Ytnkkmppmfjekeaa.QuJ
