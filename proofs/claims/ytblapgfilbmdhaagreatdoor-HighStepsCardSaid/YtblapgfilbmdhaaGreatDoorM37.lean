/- The document's Right of policies, by contract. -/
import Derived.Test.YtblapgfilbmdhaaGreatDoorM26
import Derived.Test.YtblapgfilbmdhaaGreatDoorM36
import Derived.Test.YtblapgfilbmdhaaGreatDoorM19
import Derived.Test.YtblapgfilbmdhaaGreatDoorM08
import Derived.Deep.RegionHeld3
import Derived.Deep.Cut
set_option linter.unusedVariables false
set_option linter.unusedSimpArgs false
namespace Go.Proofs.YtblapgfilbmdhaaGreatDoor.StR
open Go.RowKit Go.Sort Go.Lib Go.Proofs Plain SynP TabP Tab1 Grown SynC SynD SynD2 SynD3 SynJ QryP PolA PolE PolI RolA
theorem nx {W w1 w2 : World} (h : Below W.heap.size W w1) (hb : Below w1.heap.size w1 w2) : Below W.heap.size W w2 := h.trans (hb.mono h.size)
theorem rf_of {w : World} {A : Option Addr} {L : List Rl} (h : RG w A L) : RF w A L := fun hp => by
  obtain ⟨g, o, hA, hg, hc⟩ := h hp
  refine ⟨g, o, hA, hg, fun j u hu => ?_⟩
  have hj : j < (rcells L).length := by
    rcases Nat.lt_or_ge j (rcells L).length with h | h
    · exact h
    · rw [List.getElem?_eq_none h] at hu; cases hu
  rw [rcells_len] at hj
  have q := rcells_get L (j / 2) (j % 2) (by omega) (by omega)
  rw [show j / 2 * 2 + j % 2 = j by omega, hu] at q
  obtain ⟨a, b⟩ := hc (j / 2) (by omega)
  rcases Nat.mod_two_eq_zero_or_one j with hm | hm
  · rw [hm] at q
    rw [show o + j / 2 * 2 = o + j by omega] at a
    rw [a]; exact q.symm
  · rw [hm] at q
    rw [show o + j / 2 * 2 + 1 = o + j by omega] at b
    rw [b]; exact q.symm
def rightR (p : Py) : Bool := p.stmts.all St.right && ((p.grow ++ p.shrink).all Rl.ok && (p.asks.all Qy.right && (decide (p.stmts = sortL cmpS [] p.stmts) && (decide (p.grow = sortL cmpR [] p.grow) && (decide (p.shrink = sortL cmpR [] p.shrink) && fitsP p)))))
theorem all_false {α : Type} {T : List α} {q : α → Bool} {j : Nat} (h : j < T.length) (hq : q T[j] = false) : T.all q = false := by
  rw [Bool.eq_false_iff]
  intro ha
  rw [List.all_eq_true] at ha
  rw [ha _ (List.getElem_mem h)] at hq
  cases hq
theorem all_true {α : Type} {T : List α} {q : α → Bool} (h : ∀ k, k < T.length → ∀ hk : k < T.length, q T[k] = true) : T.all q = true := by
  rw [List.all_eq_true]
  intro x hx
  obtain ⟨k, hk, rfl⟩ := List.getElem_of_mem hx
  exact h k hk hk
theorem own_n {w : World} {B n k : Nat} {e : TypeId} {v : Value} {xs : List Value} (h : w.ownsRow B e k v n xs) : ∃ A c, v = .slice A n c := by
  rcases h.2 with ⟨rfl, rfl⟩ | ⟨g, cap, cur, rfl, _⟩
  · exact ⟨none, 0, rfl⟩
  · exact ⟨_, cap, rfl⟩
theorem rg_none {w : World} {A : Option Addr} {L : List Rl} (h : RG w A L) : A = none → L.length = 0 := fun e => by
  rcases Nat.eq_zero_or_pos L.length with h0 | h0
  · exact h0
  · obtain ⟨g, o, hA, _⟩ := h h0
    rw [e] at hA; cases hA
theorem below_grown {W w w1 : World} {B n k : Nat} {e : TypeId} {v : Value} {xs : List Value} (hb : Below W.heap.size W w) (ho : w.ownsRow B e k v n xs) (hg : w.grownBy w1 v.ownBlock) (hB : W.heap.size ≤ B) (hBw : B ≤ w.heap.size) : Below W.heap.size W w1 :=
  hb.grown hg (by omega) (fun j hj => Nat.le_trans hB (ho.lt j hj).1)
section
variable {P : Program} (w : World)
theorem step_append_from {ops : Array Oper} {o : Oper} {a : Act} {K : Act → World → Prop} {Q : Exit → Act → World → Prop} {E : Prop} (hgd : o.guard = none) (s x : Operand) (t : TypeId)
    (ho : o.op = .call { callee := .builtin .append, args := #[s, x], argTypes := #[t, t] })
    (base : Nat) (e : TypeId) (i : TypeInfo) (z : Value) (size bytes : Nat) (ht : P.underlying t = some (.slice e)) (hi : P.info? e = some i) (hz : i.zero = some z)
    (hsize : i.size = size) (hby : i.bytes = bytes) (hzs : z.cells.size = size) (hsz : 0 < size) (v : Value) (n : Nat) (xs : List Value) (hs : a.eval s = v) (hown : w.ownsRow base e size v n xs)
    (A : Option Addr) (m c : Nat) (news : List Value) (hx : a.eval x = .slice A m c) (hlen : news.length = m * size) (h0 : A = none → m = 0) (hA : ∀ ad, A = some ad → ∀ j u, news[j]? = some u → w.cell? (ad.add j) = some u) (h1 : ∀ u ∈ news, u.oneCell' = true)
    (h63 : n + m ≤ maxLen) (hbytes : (n + m) * bytes ≤ 140737488355328) (hbase : base ≤ w.heap.size)
    (h : ∀ v' w', w'.ownsRow base e size v' (n + m) (xs ++ news) → w.grownBy w' v.ownBlock → K (a.put o.dst v') w') :
    if Region.wanted o (yielded ops a.tmps) = true then Oper.wp P o a w K Q else E := by
  have hw : Region.wanted o (yielded ops a.tmps) = true := by simp [Region.wanted, hgd]
  rw [if_pos hw]
  obtain ⟨v', w', hr, h2, h3⟩ := SynC.run_append_from (P := P) w base t o.type e i z size bytes ht hi hz hsize hby hzs hsz v n xs hown A m c news hlen h0 hA h1 h63 hbytes hbase
  unfold Oper.wp execOp
  simp only [ho, resolve, invoke, builtin, Sem.run_bind, Sem.run_pure, Result.andThen_ok, List.map_toArray, List.map_cons, List.map_nil, hs, hx, hr]
  exact h v' w' h2 h3
end
theorem rsort_len (L : List Rl) : (sortL cmpR [] L).length ≤ L.length := by
  have := SynDA.sortL_len (c := cmpR) L []
  simpa using this
theorem ssort_len (L : List St) : (sortL cmpS [] L).length ≤ L.length := by
  have := SynDA.sortL_len (c := cmpS) L []
  simpa using this
set_option maxHeartbeats 4000000 in
set_option maxRecDepth 100000 in
theorem rightRef5 (p : Py) (A1 A2 A3 A4 : Option Addr) (c1 c2 c3 c4 : Nat) (w : World) (hf : p.fit) (hp : PG w A1 A2 A3 A4 p) :
    Calls Tryz.prog 28 #[p.val A1 A2 A3 A4 c1 c2 c3 c4] w fun e w' => e = .returned (.bool (rightR p)) ∧ Below w.heap.size w w' := by
  have HFi := Lib.hid (fun w' (hb : Below w.heap.size w w') => RefFi.fitsRef p A1 A2 A3 A4 c1 c2 c3 c4 w' hf (hp.below hb))
  unfold rightR
  obtain ⟨fi, hfi⟩ : ∃ fi, fitsP p = fi := ⟨_, rfl⟩
  rw [hfi] at HFi ⊢
  have m1 := hf.n1
  have m2 := hf.n2
  have m3 := hf.n3
  have m4 := hf.n4
  have HF1 := Lib.hid hf.f1
  have HF2 := Lib.hid hf.f2
  have HF3 := Lib.hid hf.f3
  have HF4 := Lib.hid hf.f4
  have H1 := Lib.hid (fun w' (hb : Below w.heap.size w w') => hp.s.below hb)
  have H2 := Lib.hid (fun w' (hb : Below w.heap.size w w') => hp.g.below hb)
  have H3 := Lib.hid (fun w' (hb : Below w.heap.size w w') => hp.h.below hb)
  have H4 := Lib.hid (fun w' (hb : Below w.heap.size w w') => hp.q.below hb)
  unfold Py.val at HFi ⊢
  obtain ⟨S, G, H, Q⟩ := p
  clear hf hp hfi
  dsimp only at HFi m1 m2 m3 m4 HF1 HF2 HF3 HF4 H1 H2 H3 H4 ⊢
  obtain ⟨d1, hd1⟩ : ∃ d1, decide (S = sortL cmpS [] S) = d1 := ⟨_, rfl⟩
  obtain ⟨d2, hd2⟩ : ∃ d2, decide (G = sortL cmpR [] G) = d2 := ⟨_, rfl⟩
  obtain ⟨d3, hd3⟩ : ∃ d3, decide (H = sortL cmpR [] H) = d3 := ⟨_, rfl⟩
  obtain ⟨ans, hans⟩ : ∃ ans, (S.all St.right && ((G ++ H).all Rl.ok && (Q.all Qy.right && (d1 && (d2 && (d3 && fi)))))) = ans := ⟨_, rfl⟩
  have K1 : Hid (∀ w', Below w.heap.size w w' → Calls Tryz.prog 71 #[.slice A1 S.length c1] w' fun e wx => ∃ A c, e = .returned (.slice A (sortL cmpS [] S).length c) ∧ SG wx A (sortL cmpS [] S) ∧ Below w'.heap.size w' wx) := Lib.hid (fun w' hb => (SynDB.sortRef A1 c1 S w' m1 (H1.out w' hb).at_).mono fun e wx ⟨A', c', he, hr, hb⟩ => ⟨A', c', he, SG.of_row hr, hb⟩)
  have K2 : Hid (∀ w' A5 c5, Below w.heap.size w w' → SG w' A5 (sortL cmpS [] S) → Calls Tryz.prog 30 #[.slice A1 S.length c1, .slice A5 (sortL cmpS [] S).length c5] w' fun e wx => e = .returned (.bool d1) ∧ Below w'.heap.size w' wx) := Lib.hid (fun w' A5 c5 hb h5 => by
    have h := RefSm.sameSS A1 A5 c1 c5 S (sortL cmpS [] S) w' (by omega) (by have := ssort_len S; omega) (H1.out w' hb) h5
    rw [hd1] at h
    exact h.mono fun e wx ⟨he, n, hw⟩ => ⟨he, by rw [hw]; exact below_drewN (Below.refl _ _) n⟩)
  have K3 : Hid (∀ w', Below w.heap.size w w' → Calls Tryz.prog 13 #[.slice A2 G.length c2] w' fun e wx => ∃ A c, e = .returned (.slice A (sortL cmpR [] G).length c) ∧ RG wx A (sortL cmpR [] G) ∧ Below w'.heap.size w' wx) := Lib.hid (fun w' hb => (RolB.sortRef A2 c2 G w' m2 (rf_of (H2.out w' hb))).mono fun e wx ⟨A', c', he, hr, hb⟩ => ⟨A', c', he, RG.of_rat hr, hb⟩)
  have K4 : Hid (∀ w' A5 c5, Below w.heap.size w w' → RG w' A5 (sortL cmpR [] G) → Calls Tryz.prog 72 #[.slice A2 G.length c2, .slice A5 (sortL cmpR [] G).length c5] w' fun e wx => e = .returned (.bool d2) ∧ Below w'.heap.size w' wx) := Lib.hid (fun w' A5 c5 hb h5 => by
    have h := RefSm.sameRR A2 A5 c2 c5 G (sortL cmpR [] G) w' (by omega) (by have := rsort_len G; omega) (H2.out w' hb) h5
    rw [hd2] at h
    exact h.mono fun e wx ⟨he, n, hw⟩ => ⟨he, by rw [hw]; exact below_drewN (Below.refl _ _) n⟩)
  have K5 : Hid (∀ w', Below w.heap.size w w' → Calls Tryz.prog 13 #[.slice A3 H.length c3] w' fun e wx => ∃ A c, e = .returned (.slice A (sortL cmpR [] H).length c) ∧ RG wx A (sortL cmpR [] H) ∧ Below w'.heap.size w' wx) := Lib.hid (fun w' hb => (RolB.sortRef A3 c3 H w' m3 (rf_of (H3.out w' hb))).mono fun e wx ⟨A', c', he, hr, hb⟩ => ⟨A', c', he, RG.of_rat hr, hb⟩)
  have K6 : Hid (∀ w' A5 c5, Below w.heap.size w w' → RG w' A5 (sortL cmpR [] H) → Calls Tryz.prog 72 #[.slice A3 H.length c3, .slice A5 (sortL cmpR [] H).length c5] w' fun e wx => e = .returned (.bool d3) ∧ Below w'.heap.size w' wx) := Lib.hid (fun w' A5 c5 hb h5 => by
    have h := RefSm.sameRR A3 A5 c3 c5 H (sortL cmpR [] H) w' (by omega) (by have := rsort_len H; omega) (H3.out w' hb) h5
    rw [hd3] at h
    exact h.mono fun e wx ⟨he, n, hw⟩ => ⟨he, by rw [hw]; exact below_drewN (Below.refl _ _) n⟩)
  rw [hd1, hd2, hd3, hans]
  have HN1 : Hid (∀ j, (h : j < S.length) → St.right S[j] = false → ans = false) := Lib.hid (fun j h hq => by rw [← hans, all_false h hq]; rfl)
  have HN2 : Hid (∀ j, (h : j < (G ++ H).length) → Rl.ok (G ++ H)[j] = false → ans = false) := Lib.hid (fun j h hq => by rw [← hans, all_false h hq]; simp)
  have HN3 : Hid (∀ j, (h : j < Q.length) → Qy.right Q[j] = false → ans = false) := Lib.hid (fun j h hq => by rw [← hans, all_false h hq]; simp)
  have HY : Hid ((∀ k, k < S.length → ∀ hk : k < S.length, St.right S[k] = true) → (∀ k, k < (G ++ H).length → ∀ hk : k < (G ++ H).length, Rl.ok (G ++ H)[k] = true) → (∀ k, k < Q.length → ∀ hk : k < Q.length, Qy.right Q[k] = true) → ans = (d1 && (d2 && (d3 && fi)))) := Lib.hid (fun a b c => by rw [← hans, all_true a, all_true b, all_true c]; simp)
  have HLR : Hid (∀ r ∈ G ++ H, r.light) := Lib.hid (fun r hr => by
    rw [List.mem_append] at hr
    rcases hr with h | h
    · exact HF2.out r h
    · exact HF3.out r h)
  clear hd1 hd2 hd3 hans HF2 HF3
  obtain ⟨T9, hT9⟩ : ∃ T9, T9 = G ++ H := ⟨_, rfl⟩
  rw [← hT9] at HN2 HY HLR
  have hTl : T9.length = 0 + G.length + H.length := by rw [hT9]; simp
  have hTr : rcells T9 = [] ++ rcells G ++ rcells H := by rw [hT9, rcells_app]; simp
  have HTL := Lib.hid (And.intro hTl hTr)
  clear hT9 hTr hTl
  have hbX := (Below.refl w.heap.size w).alloc (Nat.le_refl _) (.cells #[.slice A1 S.length c1, .slice A2 G.length c2, .slice A3 H.length c3, .slice A4 Q.length c4] 26)
  have hX := heap_alloc_new w (.cells #[.slice A1 S.length c1, .slice A2 G.length c2, .slice A3 H.length c3, .slice A4 Q.length c4] 26)
  have HB0 := Lib.hid hbX
  have HX := Lib.hid hX
  clear hbX hX
  go_enter Tryz.func28, Tryz.ntmps28
  go_upto_region 1 with fail
  obtain ⟨b0, hb0⟩ : ∃ b0, w.heap.size = b0 := ⟨_, rfl⟩
  rw [hb0] at HX
  simp only [hb0] at ⊢
  generalize w.alloc (.cells #[.slice A1 S.length c1, .slice A2 G.length c2, .slice A3 H.length c3, .slice A4 Q.length c4] 26) = w0 at *
  have HD := Lib.hid (fun w' (hb : Below w0.heap.size w0 w') (o : Nat) => Lib.cell_of_heap ((hb.block b0 (Array.getElem?_eq_some_iff.1 HX.out).1).trans HX.out) o)
  have c0 := HD.out w0 (Below.refl _ _)
  clear HX hb0
  go_wp2_with fail
  clear c0
  go_loopw [12] (fun i wr => ∃ j : Nat, j ≤ S.length ∧ i = .int .i64 j ∧ Below w0.heap.size w0 wr ∧ Hid (∀ k, k < j → ∀ hk : k < S.length, St.right S[k] = true)) (fun i _ => S.length - (intOf i).toNat)
  case atStart => exact ⟨0, by omega, rfl, Below.refl _ _, Lib.hid (fun k hk => by omega)⟩
  case round =>
    obtain ⟨j, hj, rfl, hb, hall⟩ := hrel
    by_cases hlt : j < S.length
    · have e1 : decide ((j : Int) < S.length) = true := by simp; omega
      obtain ⟨g, o, rfl, hg, hc⟩ := H1.out _ (nx HB0.out hb) (by omega)
      obtain ⟨a0, a1, a2, a3, a4, a5, a6, a7, a8⟩ := hc j hlt
      have p1 : (0 : Int) ≤ j := by omega
      have p2 : (j : Int) < S.length := by omega
      have HNo := Lib.hid (HN1.out j hlt)
      have HNx : Hid (St.right S[j] = true → ∀ k, k < j + 1 → ∀ hk : k < S.length, St.right S[k] = true) := Lib.hid (fun h k hk hk2 => by
        by_cases e : k = j
        · subst e; exact h
        · exact hall.out k (by omega) hk2)
      have hfx := HF1.out S[j] (List.getElem_mem hlt)
      have HR := Lib.hid (fun w' => Syn9.rightRef S[j] w' hfx)
      have HB := Lib.hid hb
      clear hc hb hg hall hfx
      generalize S[j] = x at *
      generalize x.right = r at *
      obtain ⟨k1, ⟨ho, hn⟩, wh, ⟨ao, an⟩, ⟨bo, bn⟩, v1⟩ := x
      unfold St.val at HR
      dsimp only at HR a0 a1 a2 a3 a4 a5 a6 a7 a8
      have hbX := (Below.refl wr.heap.size wr).alloc (Nat.le_refl _) (.cells #[.int .i64 k1, .string ho, .string hn, .string wh, .string ao, .string an, .string bo, .string bn, .string v1] 67)
      have cx := fun o => Lib.cell_of_heap (heap_alloc_new wr (.cells #[.int .i64 k1, .string ho, .string hn, .string wh, .string ao, .string an, .string bo, .string bn, .string v1] 67)) o
      have HBX := Lib.hid (nx HB.out hbX)
      clear hbX
      go_upto_region 4 with fail
      generalize wr.alloc (.cells #[.int .i64 k1, .string ho, .string hn, .string wh, .string ao, .string an, .string bo, .string bn, .string v1] 67) = w1 at *
      clear a0 a1 a2 a3 a4 a5 a6 a7 a8
      cases r with
      | false =>
        have hno := HNo.out rfl
        go_wp2_with fail
        refine (HR.out _).mono ?_
        rintro e w2 ⟨rfl, hg2⟩
        have HB2 := Lib.hid (nx HB0.out (nx HBX.out hg2.below))
        clear hg2 cx HR
        go_wp2_with fail
        go_ret
        exact ⟨ret_bool hno.symm, HB2.out⟩
      | true =>
        have hnx := HNx.out rfl
        go_wp2_with fail
        refine (HR.out _).mono ?_
        rintro e w2 ⟨rfl, hg2⟩
        have HB2 := Lib.hid (nx HBX.out hg2.below)
        clear hg2 cx HR
        go_wp2_with fail
        go_roundw
        case rel => exact ⟨j + 1, by omega, by go_num, HB2.out, Lib.hid hnx⟩
        case measure => simp [intOf]; omega
    · have e1 : decide ((j : Int) < S.length) = false := by simp; omega
      have HY1 := Lib.hid (HY.out (fun k hk hk2 => hall.out k (by omega) hk2))
      have HBk := Lib.hid hb
      have c6 := HD.out wr hb
      clear hb hall HY HN1 HF1
      go_upto_region 7 with fail
      have hbA : Below w0.heap.size w0 (wr.alloc (.cells #[] 28)).drew := (HBk.out.alloc HBk.out.size _).drew
      have hd0 : ∀ o, wr.drew.cell? ⟨b0, o, none⟩ = (#[.slice A1 S.length c1, .slice A2 G.length c2, .slice A3 H.length c3, .slice A4 Q.length c4] : Array Value)[o]? := c6
      have hd1 : ∀ o, ((wr.alloc (.cells #[] 28)).drew).cell? ⟨b0, o, none⟩ = (#[.slice A1 S.length c1, .slice A2 G.length c2, .slice A3 H.length c3, .slice A4 Q.length c4] : Array Value)[o]? := HD.out _ hbA
      have hown0 : ((wr.alloc (.cells #[] 28)).drew).ownsRow wr.heap.size 28 2 (.slice (some ⟨wr.heap.size, 0, none⟩) 0 0) 0 [] := SynC.own_empty wr _ 2
      have HO0 := Lib.hid hown0
      have HG := Lib.hid (H2.out _ (nx HB0.out hbA))
      have HH := Lib.hid (H3.out _ (nx HB0.out hbA))
      have HSz : Hid (wr.heap.size ≤ ((wr.alloc (.cells #[] 28)).drew).heap.size) := Lib.hid (by show wr.heap.size ≤ (wr.alloc _).heap.size; simp)
      have HN4 := Lib.hid (rg_none HG.out)
      have HN5 := Lib.hid (rg_none HH.out)
      have HBA := Lib.hid hbA
      obtain ⟨i0, hi, hz0, hz1, hz2⟩ := info_parts SynJ.infoRole
      clear hown0 hbA e1 hlt
      go_region_held3 (fun w' => ∀ o, w'.cell? ⟨b0, o, none⟩ = (#[.slice A1 S.length c1, .slice A2 G.length c2, .slice A3 H.length c3, .slice A4 Q.length c4] : Array Value)[o]?)
        (first | with_reducible assumption)
        (first | (refine step_append_from _ rfl (.tmp 20) (.tmp 22) 23 rfl wr.heap.size 28 i0 (.agg #[.string ⟨#[]⟩, .string ⟨#[]⟩]) 2 32 Tryz.underlying23 hi hz0 hz1 hz2 rfl (by decide) (.slice (some ⟨wr.heap.size, 0, none⟩) 0 0) 0 [] (by simp [Act.eval]) HO0.out A2 G.length c2 (rcells G) (by simp [Act.eval]) (rcells_len G) HN4.out (rg_cells HG.out) (rcells_one G) (by unfold maxLen; omega) (by omega) (by show wr.heap.size ≤ (wr.alloc _).heap.size; simp) ?_; intro v1 w1 hown1 hg1; have hs1 := Nat.le_trans HSz.out hg1.size; have hb1 := Lib.hid (below_grown HBA.out HO0.out hg1 HBk.out.size (by show wr.heap.size ≤ (wr.alloc _).heap.size; simp)); have hd2 := HD.out _ hb1.out)
               | (refine step_append_from _ rfl (.tmp 23) (.tmp 25) 23 rfl wr.heap.size 28 i0 (.agg #[.string ⟨#[]⟩, .string ⟨#[]⟩]) 2 32 Tryz.underlying23 hi hz0 hz1 hz2 rfl (by decide) v1 (0 + G.length) ([] ++ rcells G) (by simp [Act.eval]) hown1 A3 H.length c3 (rcells H) (by simp [Act.eval]) (rcells_len H) HN5.out (rg_cells (H3.out _ (nx HB0.out hb1.out))) (rcells_one H) (by unfold maxLen; omega) (by omega) hs1 ?_; intro v2 w2 hown2 hg2; obtain ⟨A5, c5, rfl⟩ := own_n hown2; have hb2 := Lib.hid (below_grown hb1.out hown1 hg2 HBk.out.size hs1); have hd3 := HD.out _ hb2.out))
      rw [← HTL.out.1, ← HTL.out.2] at hown2
      rw [← HTL.out.1]
      have hRT := PolK.rg_of_own hown2
      have HRT := Lib.hid (fun w' (hb : Below w2.heap.size w2 w') => RG.below hRT hb)
      have HB2 := Lib.hid hb2.out
      have hT60 : T9.length ≤ 2000 := by have := HTL.out.1; omega
      clear hd0 hd1 hd2 hd3 hown1 hown2 hg1 hg2 hs1 hb1 hb2 hRT HO0 HG HH HSz HN4 HN5 HBA hi hz0 hz1 hz2 c6 HBk
      go_wp2_with fail
      go_loopw [28] (fun i wr => ∃ j : Nat, j ≤ T9.length ∧ i = .int .i64 j ∧ Below w2.heap.size w2 wr ∧ Hid (∀ k, k < j → ∀ hk : k < T9.length, Rl.ok T9[k] = true)) (fun i _ => T9.length - (intOf i).toNat)
      case atStart => exact ⟨0, by omega, rfl, Below.refl _ _, Lib.hid (fun k hk => by omega)⟩
      case round =>
        obtain ⟨j, hj, rfl, hb, hall⟩ := hrel
        by_cases hlt : j < T9.length
        · have e1 : decide ((j : Int) < T9.length) = true := by simp; omega
          have e2 : decide ((j : Int) < (G.length : Int) + (H.length : Int)) = true := by have := HTL.out.1; simp; omega
          have p3 : (j : Int) < (G.length : Int) + (H.length : Int) := by have := HTL.out.1; omega
          obtain ⟨g, o, rfl, hg, hc⟩ := HRT.out _ hb (by omega)
          obtain ⟨a0, a1⟩ := hc j hlt
          have p1 : (0 : Int) ≤ j := by omega
          have p2 : (j : Int) < T9.length := by omega
          have HNo := Lib.hid (HN2.out j hlt)
          have HNx : Hid (Rl.ok T9[j] = true → ∀ k, k < j + 1 → ∀ hk : k < T9.length, Rl.ok T9[k] = true) := Lib.hid (fun h k hk hk2 => by
            by_cases e : k = j
            · subst e; exact h
            · exact hall.out k (by omega) hk2)
          have hfx := HLR.out T9[j] (List.getElem_mem hlt)
          have HB := Lib.hid hb
          clear hc hb hg hall
          generalize T9[j] = x at *
          obtain ⟨ro, rn⟩ := x
          have HR := Lib.hid (fun w' => Syn4.isRoleRef' ro rn w' hfx.1 hfx.2)
          clear hfx
          generalize Rl.ok ⟨ro, rn⟩ = r at *
          dsimp only at a0 a1
          have hbX := (Below.refl wr.heap.size wr).alloc (Nat.le_refl _) (.cells #[.string ro, .string rn] 28)
          have cx := fun o => Lib.cell_of_heap (heap_alloc_new wr (.cells #[.string ro, .string rn] 28)) o
          have HBX := Lib.hid (nx HB.out hbX)
          clear hbX
          go_upto_region 10 with fail
          generalize wr.alloc (.cells #[.string ro, .string rn] 28) = w3 at *
          clear a0 a1
          cases r with
          | false =>
            have hno := HNo.out rfl
            go_wp2_with fail
            refine (HR.out _).mono ?_
            rintro e w4 ⟨rfl, hg4⟩
            have HB4 := Lib.hid (nx HB0.out (nx HB2.out (nx HBX.out hg4.below)))
            clear hg4 cx HR
            go_wp2_with fail
            go_ret
            exact ⟨ret_bool hno.symm, HB4.out⟩
          | true =>
            have hnx := HNx.out rfl
            go_wp2_with fail
            refine (HR.out _).mono ?_
            rintro e w4 ⟨rfl, hg4⟩
            have HB4 := Lib.hid (nx HBX.out hg4.below)
            clear hg4 cx HR
            go_wp2_with fail
            go_roundw
            case rel => exact ⟨j + 1, by omega, by go_num, HB4.out, Lib.hid hnx⟩
            case measure => simp [intOf]; omega
        · have e1 : decide ((j : Int) < T9.length) = false := by simp; omega
          have e2 : decide ((j : Int) < (G.length : Int) + (H.length : Int)) = false := by have := HTL.out.1; simp; omega
          have HY2 := Lib.hid (HY1.out (fun k hk hk2 => hall.out k (by omega) hk2))
          have HBk := Lib.hid (nx HB2.out hb)
          have c6 := HD.out wr (nx HB2.out hb)
          clear hb hall HY1 HN2 HLR HRT HB2
          go_wp2_with fail
          clear c6 e1 e2 hlt hj
          go_loopw [39] (fun i wk => ∃ j : Nat, j ≤ Q.length ∧ i = .int .i64 j ∧ Below w0.heap.size w0 wk ∧ Hid (∀ k, k < j → ∀ hk : k < Q.length, Qy.right Q[k] = true)) (fun i _ => Q.length - (intOf i).toNat)
          case atStart => exact ⟨0, by omega, rfl, HBk.out, Lib.hid (fun k hk => by omega)⟩
          case round =>
            obtain ⟨j, hj, rfl, hb, hall⟩ := hrel
            by_cases hlt : j < Q.length
            · have e1 : decide ((j : Int) < Q.length) = true := by simp; omega
              obtain ⟨g, o, rfl, hg, hc⟩ := H4.out _ (nx HB0.out hb) (by omega)
              obtain ⟨Bq, cB, a0, a1, a2, a3, a4, a5, hrow⟩ := hc j hlt
              have p1 : (0 : Int) ≤ j := by omega
              have p2 : (j : Int) < Q.length := by omega
              have HNo := Lib.hid (HN3.out j hlt)
              have HNx : Hid (Qy.right Q[j] = true → ∀ k, k < j + 1 → ∀ hk : k < Q.length, Qy.right Q[k] = true) := Lib.hid (fun h k hk hk2 => by
                by_cases e : k = j
                · subst e; exact h
                · exact hall.out k (by omega) hk2)
              have hfx := HF4.out Q[j] (List.getElem_mem hlt)
              have HB := Lib.hid hb
              have HRow := Lib.hid (fun w' (hb' : Below wr.heap.size wr w') => hrow.keep hb')
              clear hc hb hg hall hrow
              generalize Q[j] = q at *
              obtain ⟨k2, ⟨ao, an⟩, ⟨bo, bn⟩, T⟩ := q
              have HR := Lib.hid (fun w' h => Qry3.rightRef k2 ao an bo bn Bq cB T w' hfx h)
              unfold Qry2.RightPost at HR
              generalize Qy.right ⟨k2, ⟨ao, an⟩, ⟨bo, bn⟩, T⟩ = r at *
              dsimp only at a0 a1 a2 a3 a4 a5 HRow
              have hbX := (Below.refl wr.heap.size wr).alloc (Nat.le_refl _) (.cells #[.int .i64 k2, .string ao, .string an, .string bo, .string bn, .slice Bq T.length cB] 42)
              have cx := fun o => Lib.cell_of_heap (heap_alloc_new wr (.cells #[.int .i64 k2, .string ao, .string an, .string bo, .string bn, .slice Bq T.length cB] 42)) o
              have HBX := Lib.hid (nx HB.out hbX)
              have HR1 := Lib.hid (HR.out _ (HRow.out _ hbX))
              clear hbX HR HRow hfx
              go_upto_region 16 with fail
              generalize wr.alloc (.cells #[.int .i64 k2, .string ao, .string an, .string bo, .string bn, .slice Bq T.length cB] 42) = w3 at *
              clear a0 a1 a2 a3 a4 a5
              cases r with
              | false =>
                have hno := HNo.out rfl
                go_wp2_with fail
                refine HR1.out.mono ?_
                rintro e w4 ⟨rfl, hb4⟩
                have HB4 := Lib.hid (nx HB0.out (nx HBX.out hb4))
                clear hb4 cx HR1
                go_wp2_with fail
                go_ret
                exact ⟨ret_bool hno.symm, HB4.out⟩
              | true =>
                have hnx := HNx.out rfl
                go_wp2_with fail
                refine HR1.out.mono ?_
                rintro e w4 ⟨rfl, hb4⟩
                have HB4 := Lib.hid (nx HBX.out hb4)
                clear hb4 cx HR1
                go_wp2_with fail
                go_roundw
                case rel => exact ⟨j + 1, by omega, by go_num, HB4.out, Lib.hid hnx⟩
                case measure => simp [intOf]; omega
            · have e1 : decide ((j : Int) < Q.length) = false := by simp; omega
              have HYY := Lib.hid (HY2.out (fun k hk hk2 => hall.out k (by omega) hk2))
              have HB9 := Lib.hid hb
              have K7 : Hid (∀ w', Below wr.heap.size wr w' → Calls Tryz.prog 73 #[.agg #[.slice A1 S.length c1, .slice A2 G.length c2, .slice A3 H.length c3, .slice A4 Q.length c4]] w' fun e wx => e = .returned (.bool fi) ∧ Below w'.heap.size w' wx) := Lib.hid (fun w' hx => HFi.out w' (nx HB0.out (nx HB9.out hx)))
              have HW : Hid (∀ w', Below wr.heap.size wr w' → Below w.heap.size w w') := Lib.hid (fun w' hx => nx HB0.out (nx HB9.out hx))
              have K1 := Lib.hid (fun w' (hx : Below wr.heap.size wr w') => K1.out w' (HW.out w' hx))
              have K2 := Lib.hid (fun w' A5 c5 (hx : Below wr.heap.size wr w') => K2.out w' A5 c5 (HW.out w' hx))
              have K3 := Lib.hid (fun w' (hx : Below wr.heap.size wr w') => K3.out w' (HW.out w' hx))
              have K4 := Lib.hid (fun w' A5 c5 (hx : Below wr.heap.size wr w') => K4.out w' A5 c5 (HW.out w' hx))
              have K5 := Lib.hid (fun w' (hx : Below wr.heap.size wr w') => K5.out w' (HW.out w' hx))
              have K6 := Lib.hid (fun w' A5 c5 (hx : Below wr.heap.size wr w') => K6.out w' A5 c5 (HW.out w' hx))
              have HK : Hid (∀ w', Below wr.heap.size wr w' → Below wr.heap.size wr w' ∧ ∀ o, w'.cell? ⟨b0, o, none⟩ = (#[.slice A1 S.length c1, .slice A2 G.length c2, .slice A3 H.length c3, .slice A4 Q.length c4] : Array Value)[o]?) := Lib.hid (fun w' hx => ⟨hx, HD.out w' (nx HB9.out hx)⟩)
              have HS := Lib.hid (HK.out _ ((Below.refl wr.heap.size wr).drew))
              have c9 := HD.out wr hb
              clear hb hall HY2 HN3 HF4 HBk HFi H1 H2 H3 H4 HD HW m1 m2 m3 m4
              generalize sortL cmpS [] S = SS at *
              generalize sortL cmpR [] G = GG at *
              generalize sortL cmpR [] H = HHH at *
              go_upto_region 19 with fail
              clear e1 hlt hj
              cases d1 with
              | false =>
                refine wp_region_held_drew (S := fun w' => Below wr.heap.size wr w' ∧ ∀ o, w'.cell? ⟨b0, o, none⟩ = (#[.slice A1 S.length c1, .slice A2 G.length c2, .slice A3 H.length c3, .slice A4 Q.length c4] : Array Value)[o]?) (by kernel_rfl) HS.out (fun hHeld => ?_)
                refine wpAnyH_take (i := 0) (v := ?_) rfl (by kernel_rfl) (by kernel_rfl) (by kernel_rfl) (fun _ _ _ h => h) (Or.inl ⟨by kernel_rfl, ?_⟩) (by assumption) ?_
                rotate_left
                · intro w hSw; obtain ⟨_, hSw⟩ := hSw; (try dsimp only at hSw); go_simp; try with_reducible rfl
                try simp only [Act.put, List.setIfInBounds_toArray, List.set_cons_zero, List.set_cons_succ]
                refine wpAnyH_take (i := 1) (v := ?_) rfl (by kernel_rfl) (by kernel_rfl) (by kernel_rfl) (fun _ _ _ h => h) (Or.inl ⟨by kernel_rfl, ?_⟩) (by assumption) ?_
                rotate_left
                · intro w hSw; obtain ⟨_, hSw⟩ := hSw; (try dsimp only at hSw); go_simp; try with_reducible rfl
                try simp only [Act.put, List.setIfInBounds_toArray, List.set_cons_zero, List.set_cons_succ]
                refine wpAnyH_take (i := 2) (v := ?_) rfl (by kernel_rfl) (by kernel_rfl) (by kernel_rfl) (fun _ _ _ h => h) (Or.inl ⟨by kernel_rfl, ?_⟩) (by assumption) ?_
                rotate_left
                · intro w hSw; obtain ⟨_, hSw⟩ := hSw; (try dsimp only at hSw); go_simp; try with_reducible rfl
                try simp only [Act.put, List.setIfInBounds_toArray, List.set_cons_zero, List.set_cons_succ]
                refine wpAnyH_take (i := 3) (v := ?_) rfl (by kernel_rfl) (by kernel_rfl) (by kernel_rfl) (fun _ _ _ h => h) (Or.inl ⟨by kernel_rfl, ?_⟩) (by assumption) ?_
                rotate_left
                · intro w hSw; obtain ⟨_, hSw⟩ := hSw; (try dsimp only at hSw); go_simp; try with_reducible rfl
                try simp only [Act.put, List.setIfInBounds_toArray, List.set_cons_zero, List.set_cons_succ]
                refine wpAnyH_ready (rs := [4]) (by kernel_rfl) (by simp) ?_
                refine AllReadyH.cons rfl (fun K hK => ?_) AllReadyH.nil
                go_simp
                go_wp2_with ((with_reducible refine (K1.out _ hHeld.1).mono ?_); rintro e wa ⟨Aa, ca, rfl, hsa, hba⟩)
                refine hK.out _ _ (HK.out _ (nx hHeld.1 hba)) (fun hHeld => ?_)
                clear hK K
                refine wpAnyH_ready (rs := [5]) (by kernel_rfl) (by simp) ?_
                refine AllReadyH.cons rfl (fun K hK => ?_) AllReadyH.nil
                go_simp
                go_wp2_with ((with_reducible refine (K2.out _ _ _ hHeld.1 hsa).mono ?_); rintro e wb ⟨rfl, hbb⟩)
                refine hK.out _ _ (HK.out _ (nx hHeld.1 hbb)) (fun hHeld => ?_)
                clear hK K
                refine wpAnyH_take (i := 6) (v := ?_) rfl (by kernel_rfl) (by kernel_rfl) (by kernel_rfl) (fun _ _ _ h => h) (Or.inl ⟨by kernel_rfl, ?_⟩) (by assumption) ?_
                rotate_left
                · intro w hSw; obtain ⟨_, hSw⟩ := hSw; (try dsimp only at hSw); go_simp; try with_reducible rfl
                try simp only [Act.put, List.setIfInBounds_toArray, List.set_cons_zero, List.set_cons_succ]
                refine wpAnyH_take (i := 7) (v := undef) rfl (by kernel_rfl) (by kernel_rfl) (by kernel_rfl) (fun _ _ _ h => h) (Or.inr ⟨by kernel_rfl, rfl⟩) (by assumption) ?_
                try simp only [Act.put, List.setIfInBounds_toArray, List.set_cons_zero, List.set_cons_succ]
                refine wpAnyH_take (i := 8) (v := undef) rfl (by kernel_rfl) (by kernel_rfl) (by kernel_rfl) (fun _ _ _ h => h) (Or.inr ⟨by kernel_rfl, rfl⟩) (by assumption) ?_
                try simp only [Act.put, List.setIfInBounds_toArray, List.set_cons_zero, List.set_cons_succ]
                refine wpAnyH_take (i := 9) (v := undef) rfl (by kernel_rfl) (by kernel_rfl) (by kernel_rfl) (fun _ _ _ h => h) (Or.inr ⟨by kernel_rfl, rfl⟩) (by assumption) ?_
                try simp only [Act.put, List.setIfInBounds_toArray, List.set_cons_zero, List.set_cons_succ]
                refine wpAnyH_take (i := 10) (v := undef) rfl (by kernel_rfl) (by kernel_rfl) (by kernel_rfl) (fun _ _ _ h => h) (Or.inr ⟨by kernel_rfl, rfl⟩) (by assumption) ?_
                try simp only [Act.put, List.setIfInBounds_toArray, List.set_cons_zero, List.set_cons_succ]
                refine wpAnyH_take (i := 11) (v := undef) rfl (by kernel_rfl) (by kernel_rfl) (by kernel_rfl) (fun _ _ _ h => h) (Or.inr ⟨by kernel_rfl, rfl⟩) (by assumption) ?_
                try simp only [Act.put, List.setIfInBounds_toArray, List.set_cons_zero, List.set_cons_succ]
                refine wpAnyH_take (i := 12) (v := undef) rfl (by kernel_rfl) (by kernel_rfl) (by kernel_rfl) (fun _ _ _ h => h) (Or.inr ⟨by kernel_rfl, rfl⟩) (by assumption) ?_
                try simp only [Act.put, List.setIfInBounds_toArray, List.set_cons_zero, List.set_cons_succ]
                refine wpAnyH_take (i := 13) (v := ?_) rfl (by kernel_rfl) (by kernel_rfl) (by kernel_rfl) (fun _ _ _ h => h) (Or.inl ⟨by kernel_rfl, ?_⟩) (by assumption) ?_
                rotate_left
                · intro w hSw; obtain ⟨_, hSw⟩ := hSw; (try dsimp only at hSw); go_simp; try with_reducible rfl
                try simp only [Act.put, List.setIfInBounds_toArray, List.set_cons_zero, List.set_cons_succ]
                refine wpAnyH_take (i := 14) (v := ?_) rfl (by kernel_rfl) (by kernel_rfl) (by kernel_rfl) (fun _ _ _ h => h) (Or.inl ⟨by kernel_rfl, ?_⟩) (by assumption) ?_
                rotate_left
                · intro w hSw; obtain ⟨_, hSw⟩ := hSw; (try dsimp only at hSw); go_simp; try with_reducible rfl
                try simp only [Act.put, List.setIfInBounds_toArray, List.set_cons_zero, List.set_cons_succ]
                refine wpAnyH_take (i := 15) (v := undef) rfl (by kernel_rfl) (by kernel_rfl) (by kernel_rfl) (fun _ _ _ h => h) (Or.inr ⟨by kernel_rfl, rfl⟩) (by assumption) ?_
                try simp only [Act.put, List.setIfInBounds_toArray, List.set_cons_zero, List.set_cons_succ]
                refine wpAnyH_take (i := 16) (v := undef) rfl (by kernel_rfl) (by kernel_rfl) (by kernel_rfl) (fun _ _ _ h => h) (Or.inr ⟨by kernel_rfl, rfl⟩) (by assumption) ?_
                try simp only [Act.put, List.setIfInBounds_toArray, List.set_cons_zero, List.set_cons_succ]
                refine wpAnyH_take (i := 17) (v := undef) rfl (by kernel_rfl) (by kernel_rfl) (by kernel_rfl) (fun _ _ _ h => h) (Or.inr ⟨by kernel_rfl, rfl⟩) (by assumption) ?_
                try simp only [Act.put, List.setIfInBounds_toArray, List.set_cons_zero, List.set_cons_succ]
                refine wpAnyH_take (i := 18) (v := undef) rfl (by kernel_rfl) (by kernel_rfl) (by kernel_rfl) (fun _ _ _ h => h) (Or.inr ⟨by kernel_rfl, rfl⟩) (by assumption) ?_
                try simp only [Act.put, List.setIfInBounds_toArray, List.set_cons_zero, List.set_cons_succ]
                refine wpAnyH_take (i := 19) (v := undef) rfl (by kernel_rfl) (by kernel_rfl) (by kernel_rfl) (fun _ _ _ h => h) (Or.inr ⟨by kernel_rfl, rfl⟩) (by assumption) ?_
                try simp only [Act.put, List.setIfInBounds_toArray, List.set_cons_zero, List.set_cons_succ]
                refine wpAnyH_take (i := 20) (v := undef) rfl (by kernel_rfl) (by kernel_rfl) (by kernel_rfl) (fun _ _ _ h => h) (Or.inr ⟨by kernel_rfl, rfl⟩) (by assumption) ?_
                try simp only [Act.put, List.setIfInBounds_toArray, List.set_cons_zero, List.set_cons_succ]
                refine wpAnyH_take (i := 21) (v := ?_) rfl (by kernel_rfl) (by kernel_rfl) (by kernel_rfl) (fun _ _ _ h => h) (Or.inl ⟨by kernel_rfl, ?_⟩) (by assumption) ?_
                rotate_left
                · intro w hSw; obtain ⟨_, hSw⟩ := hSw; (try dsimp only at hSw); go_simp; try with_reducible rfl
                try simp only [Act.put, List.setIfInBounds_toArray, List.set_cons_zero, List.set_cons_succ]
                refine wpAnyH_take (i := 22) (v := ?_) rfl (by kernel_rfl) (by kernel_rfl) (by kernel_rfl) (fun _ _ _ h => h) (Or.inl ⟨by kernel_rfl, ?_⟩) (by assumption) ?_
                rotate_left
                · intro w hSw; obtain ⟨_, hSw⟩ := hSw; (try dsimp only at hSw); go_simp; try with_reducible rfl
                try simp only [Act.put, List.setIfInBounds_toArray, List.set_cons_zero, List.set_cons_succ]
                refine wpAnyH_take (i := 23) (v := undef) rfl (by kernel_rfl) (by kernel_rfl) (by kernel_rfl) (fun _ _ _ h => h) (Or.inr ⟨by kernel_rfl, rfl⟩) (by assumption) ?_
                try simp only [Act.put, List.setIfInBounds_toArray, List.set_cons_zero, List.set_cons_succ]
                refine wpAnyH_take (i := 24) (v := undef) rfl (by kernel_rfl) (by kernel_rfl) (by kernel_rfl) (fun _ _ _ h => h) (Or.inr ⟨by kernel_rfl, rfl⟩) (by assumption) ?_
                try simp only [Act.put, List.setIfInBounds_toArray, List.set_cons_zero, List.set_cons_succ]
                refine wpAnyH_ready (rs := [25]) (by kernel_rfl) (by simp) ?_
                refine AllReadyH.cons rfl (fun K hK => ?_) AllReadyH.nil
                go_simp
                refine hK.out _ _ hHeld (fun hHeld => ?_)
                clear hK K
                refine wpAnyH_ready (rs := [26]) (by kernel_rfl) (by simp) ?_
                refine AllReadyH.cons rfl (fun K hK => ?_) AllReadyH.nil
                go_simp
                refine hK.out _ _ hHeld (fun hHeld => ?_)
                clear hK K
                refine wpAnyH_done (by kernel_rfl) ?_ _
                have HF := Lib.hid (nx HB0.out (nx HB9.out hHeld.1))
                clear hHeld
                go_wp2_with fail
                go_ret
                have hans0 : ans = false := by rw [HYY.out]; first | rfl | simp
                rw [hans0]
                exact ⟨congrArg Ending.returned (by kernel_rfl), HF.out⟩
              | true =>
              cases d2 with
              | false =>
                refine wp_region_held_drew (S := fun w' => Below wr.heap.size wr w' ∧ ∀ o, w'.cell? ⟨b0, o, none⟩ = (#[.slice A1 S.length c1, .slice A2 G.length c2, .slice A3 H.length c3, .slice A4 Q.length c4] : Array Value)[o]?) (by kernel_rfl) HS.out (fun hHeld => ?_)
                refine wpAnyH_take (i := 0) (v := ?_) rfl (by kernel_rfl) (by kernel_rfl) (by kernel_rfl) (fun _ _ _ h => h) (Or.inl ⟨by kernel_rfl, ?_⟩) (by assumption) ?_
                rotate_left
                · intro w hSw; obtain ⟨_, hSw⟩ := hSw; (try dsimp only at hSw); go_simp; try with_reducible rfl
                try simp only [Act.put, List.setIfInBounds_toArray, List.set_cons_zero, List.set_cons_succ]
                refine wpAnyH_take (i := 1) (v := ?_) rfl (by kernel_rfl) (by kernel_rfl) (by kernel_rfl) (fun _ _ _ h => h) (Or.inl ⟨by kernel_rfl, ?_⟩) (by assumption) ?_
                rotate_left
                · intro w hSw; obtain ⟨_, hSw⟩ := hSw; (try dsimp only at hSw); go_simp; try with_reducible rfl
                try simp only [Act.put, List.setIfInBounds_toArray, List.set_cons_zero, List.set_cons_succ]
                refine wpAnyH_take (i := 2) (v := ?_) rfl (by kernel_rfl) (by kernel_rfl) (by kernel_rfl) (fun _ _ _ h => h) (Or.inl ⟨by kernel_rfl, ?_⟩) (by assumption) ?_
                rotate_left
                · intro w hSw; obtain ⟨_, hSw⟩ := hSw; (try dsimp only at hSw); go_simp; try with_reducible rfl
                try simp only [Act.put, List.setIfInBounds_toArray, List.set_cons_zero, List.set_cons_succ]
                refine wpAnyH_take (i := 3) (v := ?_) rfl (by kernel_rfl) (by kernel_rfl) (by kernel_rfl) (fun _ _ _ h => h) (Or.inl ⟨by kernel_rfl, ?_⟩) (by assumption) ?_
                rotate_left
                · intro w hSw; obtain ⟨_, hSw⟩ := hSw; (try dsimp only at hSw); go_simp; try with_reducible rfl
                try simp only [Act.put, List.setIfInBounds_toArray, List.set_cons_zero, List.set_cons_succ]
                refine wpAnyH_ready (rs := [4]) (by kernel_rfl) (by simp) ?_
                refine AllReadyH.cons rfl (fun K hK => ?_) AllReadyH.nil
                go_simp
                go_wp2_with ((with_reducible refine (K1.out _ hHeld.1).mono ?_); rintro e wa ⟨Aa, ca, rfl, hsa, hba⟩)
                refine hK.out _ _ (HK.out _ (nx hHeld.1 hba)) (fun hHeld => ?_)
                clear hK K
                refine wpAnyH_ready (rs := [5]) (by kernel_rfl) (by simp) ?_
                refine AllReadyH.cons rfl (fun K hK => ?_) AllReadyH.nil
                go_simp
                go_wp2_with ((with_reducible refine (K2.out _ _ _ hHeld.1 hsa).mono ?_); rintro e wb ⟨rfl, hbb⟩)
                refine hK.out _ _ (HK.out _ (nx hHeld.1 hbb)) (fun hHeld => ?_)
                clear hK K
                refine wpAnyH_take (i := 6) (v := ?_) rfl (by kernel_rfl) (by kernel_rfl) (by kernel_rfl) (fun _ _ _ h => h) (Or.inl ⟨by kernel_rfl, ?_⟩) (by assumption) ?_
                rotate_left
                · intro w hSw; obtain ⟨_, hSw⟩ := hSw; (try dsimp only at hSw); go_simp; try with_reducible rfl
                try simp only [Act.put, List.setIfInBounds_toArray, List.set_cons_zero, List.set_cons_succ]
                refine wpAnyH_take (i := 7) (v := ?_) rfl (by kernel_rfl) (by kernel_rfl) (by kernel_rfl) (fun _ _ _ h => h) (Or.inl ⟨by kernel_rfl, ?_⟩) (by assumption) ?_
                rotate_left
                · intro w hSw; obtain ⟨_, hSw⟩ := hSw; (try dsimp only at hSw); go_simp; try with_reducible rfl
                try simp only [Act.put, List.setIfInBounds_toArray, List.set_cons_zero, List.set_cons_succ]
                refine wpAnyH_take (i := 8) (v := ?_) rfl (by kernel_rfl) (by kernel_rfl) (by kernel_rfl) (fun _ _ _ h => h) (Or.inl ⟨by kernel_rfl, ?_⟩) (by assumption) ?_
                rotate_left
                · intro w hSw; obtain ⟨_, hSw⟩ := hSw; (try dsimp only at hSw); go_simp; try with_reducible rfl
                try simp only [Act.put, List.setIfInBounds_toArray, List.set_cons_zero, List.set_cons_succ]
                refine wpAnyH_take (i := 9) (v := ?_) rfl (by kernel_rfl) (by kernel_rfl) (by kernel_rfl) (fun _ _ _ h => h) (Or.inl ⟨by kernel_rfl, ?_⟩) (by assumption) ?_
                rotate_left
                · intro w hSw; obtain ⟨_, hSw⟩ := hSw; (try dsimp only at hSw); go_simp; try with_reducible rfl
                try simp only [Act.put, List.setIfInBounds_toArray, List.set_cons_zero, List.set_cons_succ]
                refine wpAnyH_take (i := 10) (v := ?_) rfl (by kernel_rfl) (by kernel_rfl) (by kernel_rfl) (fun _ _ _ h => h) (Or.inl ⟨by kernel_rfl, ?_⟩) (by assumption) ?_
                rotate_left
                · intro w hSw; obtain ⟨_, hSw⟩ := hSw; (try dsimp only at hSw); go_simp; try with_reducible rfl
                try simp only [Act.put, List.setIfInBounds_toArray, List.set_cons_zero, List.set_cons_succ]
                refine wpAnyH_ready (rs := [11]) (by kernel_rfl) (by simp) ?_
                refine AllReadyH.cons rfl (fun K hK => ?_) AllReadyH.nil
                go_simp
                go_wp2_with ((with_reducible refine (K3.out _ hHeld.1).mono ?_); rintro e wd ⟨Ad, cd, rfl, hsd, hbd⟩)
                refine hK.out _ _ (HK.out _ (nx hHeld.1 hbd)) (fun hHeld => ?_)
                clear hK K
                refine wpAnyH_ready (rs := [12]) (by kernel_rfl) (by simp) ?_
                refine AllReadyH.cons rfl (fun K hK => ?_) AllReadyH.nil
                go_simp
                go_wp2_with ((with_reducible refine (K4.out _ _ _ hHeld.1 hsd).mono ?_); rintro e we ⟨rfl, hbe⟩)
                refine hK.out _ _ (HK.out _ (nx hHeld.1 hbe)) (fun hHeld => ?_)
                clear hK K
                refine wpAnyH_take (i := 13) (v := ?_) rfl (by kernel_rfl) (by kernel_rfl) (by kernel_rfl) (fun _ _ _ h => h) (Or.inl ⟨by kernel_rfl, ?_⟩) (by assumption) ?_
                rotate_left
                · intro w hSw; obtain ⟨_, hSw⟩ := hSw; (try dsimp only at hSw); go_simp; try with_reducible rfl
                try simp only [Act.put, List.setIfInBounds_toArray, List.set_cons_zero, List.set_cons_succ]
                refine wpAnyH_take (i := 14) (v := ?_) rfl (by kernel_rfl) (by kernel_rfl) (by kernel_rfl) (fun _ _ _ h => h) (Or.inl ⟨by kernel_rfl, ?_⟩) (by assumption) ?_
                rotate_left
                · intro w hSw; obtain ⟨_, hSw⟩ := hSw; (try dsimp only at hSw); go_simp; try with_reducible rfl
                try simp only [Act.put, List.setIfInBounds_toArray, List.set_cons_zero, List.set_cons_succ]
                refine wpAnyH_take (i := 15) (v := undef) rfl (by kernel_rfl) (by kernel_rfl) (by kernel_rfl) (fun _ _ _ h => h) (Or.inr ⟨by kernel_rfl, rfl⟩) (by assumption) ?_
                try simp only [Act.put, List.setIfInBounds_toArray, List.set_cons_zero, List.set_cons_succ]
                refine wpAnyH_take (i := 16) (v := undef) rfl (by kernel_rfl) (by kernel_rfl) (by kernel_rfl) (fun _ _ _ h => h) (Or.inr ⟨by kernel_rfl, rfl⟩) (by assumption) ?_
                try simp only [Act.put, List.setIfInBounds_toArray, List.set_cons_zero, List.set_cons_succ]
                refine wpAnyH_take (i := 17) (v := undef) rfl (by kernel_rfl) (by kernel_rfl) (by kernel_rfl) (fun _ _ _ h => h) (Or.inr ⟨by kernel_rfl, rfl⟩) (by assumption) ?_
                try simp only [Act.put, List.setIfInBounds_toArray, List.set_cons_zero, List.set_cons_succ]
                refine wpAnyH_take (i := 18) (v := undef) rfl (by kernel_rfl) (by kernel_rfl) (by kernel_rfl) (fun _ _ _ h => h) (Or.inr ⟨by kernel_rfl, rfl⟩) (by assumption) ?_
                try simp only [Act.put, List.setIfInBounds_toArray, List.set_cons_zero, List.set_cons_succ]
                refine wpAnyH_take (i := 19) (v := undef) rfl (by kernel_rfl) (by kernel_rfl) (by kernel_rfl) (fun _ _ _ h => h) (Or.inr ⟨by kernel_rfl, rfl⟩) (by assumption) ?_
                try simp only [Act.put, List.setIfInBounds_toArray, List.set_cons_zero, List.set_cons_succ]
                refine wpAnyH_take (i := 20) (v := undef) rfl (by kernel_rfl) (by kernel_rfl) (by kernel_rfl) (fun _ _ _ h => h) (Or.inr ⟨by kernel_rfl, rfl⟩) (by assumption) ?_
                try simp only [Act.put, List.setIfInBounds_toArray, List.set_cons_zero, List.set_cons_succ]
                refine wpAnyH_take (i := 21) (v := ?_) rfl (by kernel_rfl) (by kernel_rfl) (by kernel_rfl) (fun _ _ _ h => h) (Or.inl ⟨by kernel_rfl, ?_⟩) (by assumption) ?_
                rotate_left
                · intro w hSw; obtain ⟨_, hSw⟩ := hSw; (try dsimp only at hSw); go_simp; try with_reducible rfl
                try simp only [Act.put, List.setIfInBounds_toArray, List.set_cons_zero, List.set_cons_succ]
                refine wpAnyH_take (i := 22) (v := ?_) rfl (by kernel_rfl) (by kernel_rfl) (by kernel_rfl) (fun _ _ _ h => h) (Or.inl ⟨by kernel_rfl, ?_⟩) (by assumption) ?_
                rotate_left
                · intro w hSw; obtain ⟨_, hSw⟩ := hSw; (try dsimp only at hSw); go_simp; try with_reducible rfl
                try simp only [Act.put, List.setIfInBounds_toArray, List.set_cons_zero, List.set_cons_succ]
                refine wpAnyH_take (i := 23) (v := undef) rfl (by kernel_rfl) (by kernel_rfl) (by kernel_rfl) (fun _ _ _ h => h) (Or.inr ⟨by kernel_rfl, rfl⟩) (by assumption) ?_
                try simp only [Act.put, List.setIfInBounds_toArray, List.set_cons_zero, List.set_cons_succ]
                refine wpAnyH_take (i := 24) (v := undef) rfl (by kernel_rfl) (by kernel_rfl) (by kernel_rfl) (fun _ _ _ h => h) (Or.inr ⟨by kernel_rfl, rfl⟩) (by assumption) ?_
                try simp only [Act.put, List.setIfInBounds_toArray, List.set_cons_zero, List.set_cons_succ]
                refine wpAnyH_ready (rs := [25]) (by kernel_rfl) (by simp) ?_
                refine AllReadyH.cons rfl (fun K hK => ?_) AllReadyH.nil
                go_simp
                refine hK.out _ _ hHeld (fun hHeld => ?_)
                clear hK K
                refine wpAnyH_ready (rs := [26]) (by kernel_rfl) (by simp) ?_
                refine AllReadyH.cons rfl (fun K hK => ?_) AllReadyH.nil
                go_simp
                refine hK.out _ _ hHeld (fun hHeld => ?_)
                clear hK K
                refine wpAnyH_done (by kernel_rfl) ?_ _
                have HF := Lib.hid (nx HB0.out (nx HB9.out hHeld.1))
                clear hHeld
                go_wp2_with fail
                go_ret
                have hans0 : ans = false := by rw [HYY.out]; first | rfl | simp
                rw [hans0]
                exact ⟨congrArg Ending.returned (by kernel_rfl), HF.out⟩
              | true =>
              cases d3 with
              | false =>
                refine wp_region_held_drew (S := fun w' => Below wr.heap.size wr w' ∧ ∀ o, w'.cell? ⟨b0, o, none⟩ = (#[.slice A1 S.length c1, .slice A2 G.length c2, .slice A3 H.length c3, .slice A4 Q.length c4] : Array Value)[o]?) (by kernel_rfl) HS.out (fun hHeld => ?_)
                refine wpAnyH_take (i := 0) (v := ?_) rfl (by kernel_rfl) (by kernel_rfl) (by kernel_rfl) (fun _ _ _ h => h) (Or.inl ⟨by kernel_rfl, ?_⟩) (by assumption) ?_
                rotate_left
                · intro w hSw; obtain ⟨_, hSw⟩ := hSw; (try dsimp only at hSw); go_simp; try with_reducible rfl
                try simp only [Act.put, List.setIfInBounds_toArray, List.set_cons_zero, List.set_cons_succ]
                refine wpAnyH_take (i := 1) (v := ?_) rfl (by kernel_rfl) (by kernel_rfl) (by kernel_rfl) (fun _ _ _ h => h) (Or.inl ⟨by kernel_rfl, ?_⟩) (by assumption) ?_
                rotate_left
                · intro w hSw; obtain ⟨_, hSw⟩ := hSw; (try dsimp only at hSw); go_simp; try with_reducible rfl
                try simp only [Act.put, List.setIfInBounds_toArray, List.set_cons_zero, List.set_cons_succ]
                refine wpAnyH_take (i := 2) (v := ?_) rfl (by kernel_rfl) (by kernel_rfl) (by kernel_rfl) (fun _ _ _ h => h) (Or.inl ⟨by kernel_rfl, ?_⟩) (by assumption) ?_
                rotate_left
                · intro w hSw; obtain ⟨_, hSw⟩ := hSw; (try dsimp only at hSw); go_simp; try with_reducible rfl
                try simp only [Act.put, List.setIfInBounds_toArray, List.set_cons_zero, List.set_cons_succ]
                refine wpAnyH_take (i := 3) (v := ?_) rfl (by kernel_rfl) (by kernel_rfl) (by kernel_rfl) (fun _ _ _ h => h) (Or.inl ⟨by kernel_rfl, ?_⟩) (by assumption) ?_
                rotate_left
                · intro w hSw; obtain ⟨_, hSw⟩ := hSw; (try dsimp only at hSw); go_simp; try with_reducible rfl
                try simp only [Act.put, List.setIfInBounds_toArray, List.set_cons_zero, List.set_cons_succ]
                refine wpAnyH_ready (rs := [4]) (by kernel_rfl) (by simp) ?_
                refine AllReadyH.cons rfl (fun K hK => ?_) AllReadyH.nil
                go_simp
                go_wp2_with ((with_reducible refine (K1.out _ hHeld.1).mono ?_); rintro e wa ⟨Aa, ca, rfl, hsa, hba⟩)
                refine hK.out _ _ (HK.out _ (nx hHeld.1 hba)) (fun hHeld => ?_)
                clear hK K
                refine wpAnyH_ready (rs := [5]) (by kernel_rfl) (by simp) ?_
                refine AllReadyH.cons rfl (fun K hK => ?_) AllReadyH.nil
                go_simp
                go_wp2_with ((with_reducible refine (K2.out _ _ _ hHeld.1 hsa).mono ?_); rintro e wb ⟨rfl, hbb⟩)
                refine hK.out _ _ (HK.out _ (nx hHeld.1 hbb)) (fun hHeld => ?_)
                clear hK K
                refine wpAnyH_take (i := 6) (v := ?_) rfl (by kernel_rfl) (by kernel_rfl) (by kernel_rfl) (fun _ _ _ h => h) (Or.inl ⟨by kernel_rfl, ?_⟩) (by assumption) ?_
                rotate_left
                · intro w hSw; obtain ⟨_, hSw⟩ := hSw; (try dsimp only at hSw); go_simp; try with_reducible rfl
                try simp only [Act.put, List.setIfInBounds_toArray, List.set_cons_zero, List.set_cons_succ]
                refine wpAnyH_take (i := 7) (v := ?_) rfl (by kernel_rfl) (by kernel_rfl) (by kernel_rfl) (fun _ _ _ h => h) (Or.inl ⟨by kernel_rfl, ?_⟩) (by assumption) ?_
                rotate_left
                · intro w hSw; obtain ⟨_, hSw⟩ := hSw; (try dsimp only at hSw); go_simp; try with_reducible rfl
                try simp only [Act.put, List.setIfInBounds_toArray, List.set_cons_zero, List.set_cons_succ]
                refine wpAnyH_take (i := 8) (v := ?_) rfl (by kernel_rfl) (by kernel_rfl) (by kernel_rfl) (fun _ _ _ h => h) (Or.inl ⟨by kernel_rfl, ?_⟩) (by assumption) ?_
                rotate_left
                · intro w hSw; obtain ⟨_, hSw⟩ := hSw; (try dsimp only at hSw); go_simp; try with_reducible rfl
                try simp only [Act.put, List.setIfInBounds_toArray, List.set_cons_zero, List.set_cons_succ]
                refine wpAnyH_take (i := 9) (v := ?_) rfl (by kernel_rfl) (by kernel_rfl) (by kernel_rfl) (fun _ _ _ h => h) (Or.inl ⟨by kernel_rfl, ?_⟩) (by assumption) ?_
                rotate_left
                · intro w hSw; obtain ⟨_, hSw⟩ := hSw; (try dsimp only at hSw); go_simp; try with_reducible rfl
                try simp only [Act.put, List.setIfInBounds_toArray, List.set_cons_zero, List.set_cons_succ]
                refine wpAnyH_take (i := 10) (v := ?_) rfl (by kernel_rfl) (by kernel_rfl) (by kernel_rfl) (fun _ _ _ h => h) (Or.inl ⟨by kernel_rfl, ?_⟩) (by assumption) ?_
                rotate_left
                · intro w hSw; obtain ⟨_, hSw⟩ := hSw; (try dsimp only at hSw); go_simp; try with_reducible rfl
                try simp only [Act.put, List.setIfInBounds_toArray, List.set_cons_zero, List.set_cons_succ]
                refine wpAnyH_ready (rs := [11]) (by kernel_rfl) (by simp) ?_
                refine AllReadyH.cons rfl (fun K hK => ?_) AllReadyH.nil
                go_simp
                go_wp2_with ((with_reducible refine (K3.out _ hHeld.1).mono ?_); rintro e wd ⟨Ad, cd, rfl, hsd, hbd⟩)
                refine hK.out _ _ (HK.out _ (nx hHeld.1 hbd)) (fun hHeld => ?_)
                clear hK K
                refine wpAnyH_ready (rs := [12]) (by kernel_rfl) (by simp) ?_
                refine AllReadyH.cons rfl (fun K hK => ?_) AllReadyH.nil
                go_simp
                go_wp2_with ((with_reducible refine (K4.out _ _ _ hHeld.1 hsd).mono ?_); rintro e we ⟨rfl, hbe⟩)
                refine hK.out _ _ (HK.out _ (nx hHeld.1 hbe)) (fun hHeld => ?_)
                clear hK K
                refine wpAnyH_take (i := 13) (v := ?_) rfl (by kernel_rfl) (by kernel_rfl) (by kernel_rfl) (fun _ _ _ h => h) (Or.inl ⟨by kernel_rfl, ?_⟩) (by assumption) ?_
                rotate_left
                · intro w hSw; obtain ⟨_, hSw⟩ := hSw; (try dsimp only at hSw); go_simp; try with_reducible rfl
                try simp only [Act.put, List.setIfInBounds_toArray, List.set_cons_zero, List.set_cons_succ]
                refine wpAnyH_take (i := 14) (v := ?_) rfl (by kernel_rfl) (by kernel_rfl) (by kernel_rfl) (fun _ _ _ h => h) (Or.inl ⟨by kernel_rfl, ?_⟩) (by assumption) ?_
                rotate_left
                · intro w hSw; obtain ⟨_, hSw⟩ := hSw; (try dsimp only at hSw); go_simp; try with_reducible rfl
                try simp only [Act.put, List.setIfInBounds_toArray, List.set_cons_zero, List.set_cons_succ]
                refine wpAnyH_take (i := 15) (v := ?_) rfl (by kernel_rfl) (by kernel_rfl) (by kernel_rfl) (fun _ _ _ h => h) (Or.inl ⟨by kernel_rfl, ?_⟩) (by assumption) ?_
                rotate_left
                · intro w hSw; obtain ⟨_, hSw⟩ := hSw; (try dsimp only at hSw); go_simp; try with_reducible rfl
                try simp only [Act.put, List.setIfInBounds_toArray, List.set_cons_zero, List.set_cons_succ]
                refine wpAnyH_take (i := 16) (v := ?_) rfl (by kernel_rfl) (by kernel_rfl) (by kernel_rfl) (fun _ _ _ h => h) (Or.inl ⟨by kernel_rfl, ?_⟩) (by assumption) ?_
                rotate_left
                · intro w hSw; obtain ⟨_, hSw⟩ := hSw; (try dsimp only at hSw); go_simp; try with_reducible rfl
                try simp only [Act.put, List.setIfInBounds_toArray, List.set_cons_zero, List.set_cons_succ]
                refine wpAnyH_take (i := 17) (v := ?_) rfl (by kernel_rfl) (by kernel_rfl) (by kernel_rfl) (fun _ _ _ h => h) (Or.inl ⟨by kernel_rfl, ?_⟩) (by assumption) ?_
                rotate_left
                · intro w hSw; obtain ⟨_, hSw⟩ := hSw; (try dsimp only at hSw); go_simp; try with_reducible rfl
                try simp only [Act.put, List.setIfInBounds_toArray, List.set_cons_zero, List.set_cons_succ]
                refine wpAnyH_take (i := 18) (v := ?_) rfl (by kernel_rfl) (by kernel_rfl) (by kernel_rfl) (fun _ _ _ h => h) (Or.inl ⟨by kernel_rfl, ?_⟩) (by assumption) ?_
                rotate_left
                · intro w hSw; obtain ⟨_, hSw⟩ := hSw; (try dsimp only at hSw); go_simp; try with_reducible rfl
                try simp only [Act.put, List.setIfInBounds_toArray, List.set_cons_zero, List.set_cons_succ]
                refine wpAnyH_ready (rs := [19]) (by kernel_rfl) (by simp) ?_
                refine AllReadyH.cons rfl (fun K hK => ?_) AllReadyH.nil
                go_simp
                go_wp2_with ((with_reducible refine (K5.out _ hHeld.1).mono ?_); rintro e wf ⟨Af, cf, rfl, hsf, hbf⟩)
                refine hK.out _ _ (HK.out _ (nx hHeld.1 hbf)) (fun hHeld => ?_)
                clear hK K
                refine wpAnyH_ready (rs := [20]) (by kernel_rfl) (by simp) ?_
                refine AllReadyH.cons rfl (fun K hK => ?_) AllReadyH.nil
                go_simp
                go_wp2_with ((with_reducible refine (K6.out _ _ _ hHeld.1 hsf).mono ?_); rintro e wg ⟨rfl, hbg⟩)
                refine hK.out _ _ (HK.out _ (nx hHeld.1 hbg)) (fun hHeld => ?_)
                clear hK K
                refine wpAnyH_take (i := 21) (v := ?_) rfl (by kernel_rfl) (by kernel_rfl) (by kernel_rfl) (fun _ _ _ h => h) (Or.inl ⟨by kernel_rfl, ?_⟩) (by assumption) ?_
                rotate_left
                · intro w hSw; obtain ⟨_, hSw⟩ := hSw; (try dsimp only at hSw); go_simp; try with_reducible rfl
                try simp only [Act.put, List.setIfInBounds_toArray, List.set_cons_zero, List.set_cons_succ]
                refine wpAnyH_take (i := 22) (v := ?_) rfl (by kernel_rfl) (by kernel_rfl) (by kernel_rfl) (fun _ _ _ h => h) (Or.inl ⟨by kernel_rfl, ?_⟩) (by assumption) ?_
                rotate_left
                · intro w hSw; obtain ⟨_, hSw⟩ := hSw; (try dsimp only at hSw); go_simp; try with_reducible rfl
                try simp only [Act.put, List.setIfInBounds_toArray, List.set_cons_zero, List.set_cons_succ]
                refine wpAnyH_take (i := 23) (v := undef) rfl (by kernel_rfl) (by kernel_rfl) (by kernel_rfl) (fun _ _ _ h => h) (Or.inr ⟨by kernel_rfl, rfl⟩) (by assumption) ?_
                try simp only [Act.put, List.setIfInBounds_toArray, List.set_cons_zero, List.set_cons_succ]
                refine wpAnyH_take (i := 24) (v := undef) rfl (by kernel_rfl) (by kernel_rfl) (by kernel_rfl) (fun _ _ _ h => h) (Or.inr ⟨by kernel_rfl, rfl⟩) (by assumption) ?_
                try simp only [Act.put, List.setIfInBounds_toArray, List.set_cons_zero, List.set_cons_succ]
                refine wpAnyH_ready (rs := [25]) (by kernel_rfl) (by simp) ?_
                refine AllReadyH.cons rfl (fun K hK => ?_) AllReadyH.nil
                go_simp
                refine hK.out _ _ hHeld (fun hHeld => ?_)
                clear hK K
                refine wpAnyH_ready (rs := [26]) (by kernel_rfl) (by simp) ?_
                refine AllReadyH.cons rfl (fun K hK => ?_) AllReadyH.nil
                go_simp
                refine hK.out _ _ hHeld (fun hHeld => ?_)
                clear hK K
                refine wpAnyH_done (by kernel_rfl) ?_ _
                have HF := Lib.hid (nx HB0.out (nx HB9.out hHeld.1))
                clear hHeld
                go_wp2_with fail
                go_ret
                have hans0 : ans = false := by rw [HYY.out]; first | rfl | simp
                rw [hans0]
                exact ⟨congrArg Ending.returned (by kernel_rfl), HF.out⟩
              | true =>
                go_region_held3 (fun w' => Below wr.heap.size wr w' ∧ ∀ o, w'.cell? ⟨b0, o, none⟩ = (#[.slice A1 S.length c1, .slice A2 G.length c2, .slice A3 H.length c3, .slice A4 Q.length c4] : Array Value)[o]?)
                  (first | with_reducible assumption | exact HS.out | exact HK.out _ (nx (by apply And.left; with_reducible assumption) (by with_reducible assumption)))
                  (first | ((with_reducible refine (K1.out _ (by apply And.left; with_reducible assumption)).mono ?_); rintro e wa ⟨Aa, ca, rfl, hsa, hba⟩)
                         | ((with_reducible refine (K2.out _ _ _ (by apply And.left; with_reducible assumption) (by first | with_reducible exact hsa | exact SG.below hsa (by with_reducible assumption))).mono ?_); rintro e wb ⟨rfl, hbb⟩)
                         | ((with_reducible refine (K3.out _ (by apply And.left; with_reducible assumption)).mono ?_); rintro e wd ⟨Ad, cd, rfl, hsd, hbd⟩)
                         | ((with_reducible refine (K4.out _ _ _ (by apply And.left; with_reducible assumption) (by first | with_reducible exact hsd | exact RG.below hsd (by with_reducible assumption))).mono ?_); rintro e we ⟨rfl, hbe⟩)
                         | ((with_reducible refine (K5.out _ (by apply And.left; with_reducible assumption)).mono ?_); rintro e wf ⟨Af, cf, rfl, hsf, hbf⟩)
                         | ((with_reducible refine (K6.out _ _ _ (by apply And.left; with_reducible assumption) (by first | with_reducible exact hsf | exact RG.below hsf (by with_reducible assumption))).mono ?_); rintro e wg ⟨rfl, hbg⟩)
                         | ((with_reducible refine (K7.out _ (by apply And.left; with_reducible assumption)).mono ?_); rintro e wh ⟨rfl, hbh⟩))
                all_goals rename_i hHeld
                all_goals (have HF := Lib.hid (nx HB0.out (nx HB9.out hHeld.1)); clear hHeld; go_wp2_with fail; go_ret; exact ⟨ret_bool (by rw [HYY.out]; first | rfl | simp), HF.out⟩)
end Go.Proofs.YtblapgfilbmdhaaGreatDoor.StR
