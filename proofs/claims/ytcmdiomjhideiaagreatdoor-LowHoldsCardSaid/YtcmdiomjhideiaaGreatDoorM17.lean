/- Light of a policy: what it gives, by contract. -/
import Derived.Test.YtcmdiomjhideiaaGreatDoorM08
import Derived.Test.YtcmdiomjhideiaaGreatDoorM14
import Derived.Test.YtcmdiomjhideiaaGreatDoorM16
import Derived.Test.YtcmdiomjhideiaaGreatDoorM04
import Derived.Test.YtcmdiomjhideiaaGreatDoorM15
import Derived.Deep.RegionHeld3
import Derived.Deep.Cut
import Derived.Maps.AppendAt
import Derived.Test.YtcmdiomjhideiaaGreatDoorM13
import Derived.Test.YtcmdiomjhideiaaGreatDoorM11
import Derived.Test.YtcmdiomjhideiaaGreatDoorM10
namespace Go.Proofs.YtcmdiomjhideiaaGreatDoor.PolLi
set_option linter.unusedVariables false
set_option linter.unusedSimpArgs false
open Go.RowKit Go.Sort Go.Lib Go.Proofs Go.Proofs.YtcmdiomjhideiaaGreatDoor.Plain Go.Proofs.YtcmdiomjhideiaaGreatDoor.SynP Go.Proofs.YtcmdiomjhideiaaGreatDoor.TabP Go.Proofs.YtcmdiomjhideiaaGreatDoor.Tab1 Go.Proofs.YtcmdiomjhideiaaGreatDoor.Grown Go.Proofs.YtcmdiomjhideiaaGreatDoor.QryP Go.Proofs.YtcmdiomjhideiaaGreatDoor.SynJ Go.Proofs.YtcmdiomjhideiaaGreatDoor.PolA Go.Proofs.YtcmdiomjhideiaaGreatDoor.PolE Go.Proofs.YtcmdiomjhideiaaGreatDoor.PolOp
set_option linter.unusedVariables false
set_option linter.unusedSimpArgs false
section
variable {P : Program} (w : World)
/-- An append in a region that draws its order: of a source that reads as cells, nil let in. -/
theorem step_append_from {ops : Array Oper} {o : Oper} {a : Act} {K : Act → World → Prop} {Q : Exit → Act → World → Prop} {E : Prop} (hgd : o.guard = none) (s x : Operand) (t : TypeId)
    (ho : o.op = .call { callee := .builtin .append, args := #[s, x], argTypes := #[t, t] })
    (base : Nat) (e : TypeId) (i : TypeInfo) (z : Value) (size bytes : Nat) (ht : P.underlying t = some (.slice e)) (hi : P.info? e = some i) (hz : i.zero = some z)
    (hsize : i.size = size) (hby : i.bytes = bytes) (hzs : z.cells.size = size) (hsz : 0 < size) (v : Value) (n : Nat) (xs : List Value) (hs : a.eval s = v) (hown : w.ownsRow base e size v n xs)
    (A : Option Addr) (m c : Nat) (news : List Value) (hx : a.eval x = .slice A m c) (hlen : news.length = m * size) (h0 : A = none → m = 0) (hA : ∀ ad, A = some ad → ∀ j u, news[j]? = some u → w.cell? (ad.add j) = some u) (h1 : ∀ u ∈ news, u.oneCell' = true)
    (h63 : n + m ≤ maxLen) (hbytes : (n + m) * bytes ≤ 140737488355328) (hbase : base ≤ w.heap.size)
    (h : ∀ v' w', w'.ownsRow base e size v' (n + m) (xs ++ news) → w.grownBy w' v.ownBlock → K (a.put o.dst v') w') :
    if Region.wanted o (yielded ops a.tmps) = true then Oper.wp P o a w K Q else E := by
  have hw : Region.wanted o (yielded ops a.tmps) = true := by simp [Region.wanted, hgd]
  rw [if_pos hw]
  obtain ⟨v', w', hr, h2, h3⟩ := SynC.run_append_from (P := P) w base t o.type e i z size bytes ht hi hz hsize hby hzs hsz v n xs hown A m c news hlen h0 hA h1 h63 hbytes hbase
  unfold Oper.wp execOp
  simp only [ho, resolve, invoke, builtin, Sem.run_bind, Sem.run_pure, Result.andThen_ok, List.map_toArray, List.map_cons, List.map_nil, hs, hx, hr]
  exact h v' w' h2 h3
end
theorem nx {W w1 w2 : World} (h : Below W.heap.size W w1) (hb : Below w1.heap.size w1 w2) : Below W.heap.size W w2 := h.trans (hb.mono h.size)
theorem light40 {T : List Str} (h : Tab6.lightB T = true) : T.length ≤ 40 := by
  unfold Tab6.lightB at h
  rw [Bool.and_eq_true, decide_eq_true_iff] at h
  exact h.1
theorem own_n {w : World} {B n k : Nat} {e : TypeId} {v : Value} {xs : List Value} (h : w.ownsRow B e k v n xs) : ∃ A c, v = .slice A n c := by
  rcases h.2 with ⟨rfl, rfl⟩ | ⟨g, cap, cur, rfl, _⟩
  · exact ⟨none, 0, rfl⟩
  · exact ⟨_, cap, rfl⟩
theorem rg_none {w : World} {A : Option Addr} {L : List Rl} (h : RG w A L) : A = none → L.length = 0 := fun e => by
  rcases Nat.eq_zero_or_pos L.length with h0 | h0
  · exact h0
  · obtain ⟨g, o, hA, _⟩ := h h0
    rw [e] at hA; cases hA
theorem below_grown {W w w1 : World} {B n k : Nat} {e : TypeId} {v : Value} {xs : List Value} (hb : Below W.heap.size W w) (ho : w.ownsRow B e k v n xs) (hg : w.grownBy w1 v.ownBlock) (hB : W.heap.size ≤ B) (hBw : B ≤ w.heap.size) : Below W.heap.size W w1 :=
  hb.grown hg (by omega) (fun j hj => Nat.le_trans hB (ho.lt j hj).1)
/-- What a light policy is sure to be. -/
structure Few (p : Py) : Prop where
  n1 : p.stmts.length ≤ 30
  n2 : p.grow.length ≤ 30
  n3 : p.shrink.length ≤ 30
  n4 : p.asks.length ≤ 30
  n5 : ∀ q ∈ p.asks, q.who.length ≤ 40
theorem Few.fit {p : Py} (h : Few p) (c : Came p) : p.fit := ⟨by have := h.n1; omega, by have := h.n2; omega, by have := h.n3; omega, by have := h.n4; omega, c.f1, c.f2, c.f3, c.f4, fun q hq => by have := h.n5 q hq; omega⟩
def LightPost (p : Py) (w : World) (e : Ending) (w' : World) : Prop := ∃ b, e = .returned (.bool b) ∧ (b = true → Few p) ∧ Below w.heap.size w w'
set_option maxHeartbeats 2000000 in
set_option maxRecDepth 100000 in
theorem light (p : Py) (A1 A2 A3 A4 : Option Addr) (c1 c2 c3 c4 : Nat) (w : World) (hc : Came p) (hp : PG w A1 A2 A3 A4 p) : Calls Tryz.prog 12 #[p.val A1 A2 A3 A4 c1 c2 c3 c4] w (LightPost p w) := by
  obtain ⟨S, G, H, Q⟩ := p
  have HP := Lib.hid hp
  have HC := Lib.hid hc
  have m1 := hc.n1
  have m2 := hc.n2
  have m3 := hc.n3
  have m4 := hc.n4
  unfold maxLen at m1 m2 m3 m4
  simp only at m1 m2 m3 m4
  clear hp hc
  have HZ : Hid (∀ w', Below w.heap.size w w' → LightPost ⟨S, G, H, Q⟩ w (.returned (.bool false)) w') := Lib.hid (fun w' hb => ⟨false, rfl, (fun h => by cases h), hb⟩)
  show Calls _ _ #[.agg #[.slice A1 S.length c1, .slice A2 G.length c2, .slice A3 H.length c3, .slice A4 Q.length c4]] _ _
  have hbx : Below w.heap.size w (w.alloc (.cells #[.slice A1 S.length c1, .slice A2 G.length c2, .slice A3 H.length c3, .slice A4 Q.length c4] 26)) := (Below.refl _ _).alloc (Nat.le_refl _) _
  have HB0 := Lib.hid hbx
  have HX : Hid (∀ w', Below (w.alloc (.cells #[.slice A1 S.length c1, .slice A2 G.length c2, .slice A3 H.length c3, .slice A4 Q.length c4] 26)).heap.size (w.alloc (.cells #[.slice A1 S.length c1, .slice A2 G.length c2, .slice A3 H.length c3, .slice A4 Q.length c4] 26)) w' → ∀ o, w'.cell? ⟨w.heap.size, o, none⟩ = (#[.slice A1 S.length c1, .slice A2 G.length c2, .slice A3 H.length c3, .slice A4 Q.length c4] : Array Value)[o]?) := Lib.hid (fun w' hb o => Lib.cell_of_heap ((hb.block _ (by simp)).trans (heap_alloc_new w _)) o)
  clear hbx
  go_enter Tryz.func12, Tryz.ntmps12
  go_upto_region 1 with fail
  generalize w.alloc (.cells #[.slice A1 S.length c1, .slice A2 G.length c2, .slice A3 H.length c3, .slice A4 Q.length c4] 26) = w0 at *
  have c0 := HX.out w0 (Below.refl _ _)
  by_cases g1 : 30 < S.length
  · have d1 : decide ((30 : Int) < (S.length : Int)) = true := by simp; omega
    go_wp2_with fail
    go_ret
    exact HZ.out _ HB0.out
  have d1 : decide ((30 : Int) < (S.length : Int)) = false := by simp; omega
  by_cases g2 : 30 < G.length
  · have d2 : decide ((30 : Int) < (G.length : Int)) = true := by simp; omega
    go_wp2_with fail
    go_ret
    exact HZ.out _ HB0.out
  have d2 : decide ((30 : Int) < (G.length : Int)) = false := by simp; omega
  by_cases g3 : 30 < H.length
  · have d3 : decide ((30 : Int) < (H.length : Int)) = true := by simp; omega
    go_wp2_with fail
    go_ret
    exact HZ.out _ HB0.out
  have d3 : decide ((30 : Int) < (H.length : Int)) = false := by simp; omega
  by_cases g4 : 30 < Q.length
  · have d4 : decide ((30 : Int) < (Q.length : Int)) = true := by simp; omega
    go_wp2_with fail
    go_ret
    exact HZ.out _ HB0.out
  have d4 : decide ((30 : Int) < (Q.length : Int)) = false := by simp; omega
  go_wp2_with fail
  clear d1 d2 d3 d4 c0
  go_loopw [34] (fun i wr => ∃ j : Nat, j ≤ S.length ∧ i = .int .i64 j ∧ Below w0.heap.size w0 wr) (fun i _ => S.length - (intOf i).toNat)
  case atStart => exact ⟨0, by omega, rfl, Below.refl _ _⟩
  case round =>
    obtain ⟨j, hj, rfl, hb⟩ := hrel
    by_cases hlt : j < S.length
    · have e1 : decide ((j : Int) < S.length) = true := by simp; omega
      have p0 : (0 : Int) ≤ j := by omega
      have p1 : (j : Int) < S.length := by omega
      obtain ⟨g, o, rfl, hg, hcell⟩ := (HP.out.s.below (nx HB0.out hb)) (by show 0 < S.length; omega)
      obtain ⟨a0, a1, a2, a3, a4, a5, a6, a7, a8⟩ := hcell j hlt
      have HL := Lib.hid (fun w' => TblM.light S[j] w')
      simp only at a0 a1 a2 a3 a4 a5 a6 a7 a8
      have HBk := Lib.hid hb
      clear hcell hb
      generalize S[j] = s at *
      obtain ⟨k1, ⟨ho, hn⟩, wh, ⟨ao, an⟩, ⟨bo, bn⟩, v⟩ := s
      unfold St.val at HL
      simp only at a0 a1 a2 a3 a4 a5 a6 a7 a8 HL
      generalize TblM.lightS _ = l1 at *
      have cb : ∀ o, (wr.alloc (.cells #[.int .i64 k1, .string ho, .string hn, .string wh, .string ao, .string an, .string bo, .string bn, .string v] 55)).cell? ⟨wr.heap.size, o, none⟩ = (#[.int .i64 k1, .string ho, .string hn, .string wh, .string ao, .string an, .string bo, .string bn, .string v] : Array Value)[o]? := fun o => Lib.cell_of_heap (heap_alloc_new wr _) o
      have HBb := Lib.hid (nx HBk.out ((Below.refl wr.heap.size wr).alloc (Nat.le_refl _) (.cells #[.int .i64 k1, .string ho, .string hn, .string wh, .string ao, .string an, .string bo, .string bn, .string v] 55)))
      go_wp2_with fail
      refine (HL.out _).mono ?_
      rintro e w2 ⟨rfl, hg2⟩
      have HB2 := Lib.hid (nx HBb.out hg2.below)
      clear hg2 cb a0 a1 a2 a3 a4 a5 a6 a7 a8
      cases l1
      · go_wp2_with fail
        go_ret
        exact HZ.out _ (nx HB0.out HB2.out)
      · go_wp2_with fail
        go_roundw
        case rel => exact ⟨j + 1, by omega, by go_num, HB2.out⟩
        case measure => simp [intOf]; omega
    · have e1 : decide ((j : Int) < S.length) = false := by simp; omega
      have HBk := Lib.hid hb
      have c5 := HX.out wr hb
      clear hb
      go_wp2_with fail
      clear c5
      generalize wr = w5 at *
      go_loopw [45] (fun i wr => ∃ j : Nat, j ≤ Q.length ∧ i = .int .i64 j ∧ Hid (∀ q ∈ Q.take j, q.who.length ≤ 40) ∧ Below w0.heap.size w0 wr) (fun i _ => Q.length - (intOf i).toNat)
      case atStart => exact ⟨0, by omega, rfl, Lib.hid (by simp), HBk.out⟩
      case round =>
        clear HBk
        obtain ⟨j, hj, rfl, hw, hb⟩ := hrel
        by_cases hlt : j < Q.length
        · have e1 : decide ((j : Int) < Q.length) = true := by simp; omega
          have p0 : (0 : Int) ≤ j := by omega
          have p1 : (j : Int) < Q.length := by omega
          obtain ⟨g, o, rfl, hg, hcell⟩ := (HP.out.q.below (nx HB0.out hb)) (by show 0 < Q.length; omega)
          obtain ⟨B, cB, a0, a1, a2, a3, a4, a5, hrow⟩ := hcell j hlt
          simp only at a0 a1 a2 a3 a4 a5 hrow
          have HFq := Lib.hid (HC.out.f4 Q[j] (List.getElem_mem hlt))
          have HBk := Lib.hid hb
          have HW1 : Hid (Q[j].who.length ≤ 40 → ∀ q ∈ Q.take (j + 1), q.who.length ≤ 40) := Lib.hid (fun h q hq => by
            rw [List.take_succ_eq_append_getElem hlt, List.mem_append, List.mem_singleton] at hq
            rcases hq with hq | rfl
            · exact hw.out q hq
            · exact h)
          clear hcell hb hw
          generalize Q[j] = q at *
          have HBb := Lib.hid ((Below.refl wr.heap.size wr).alloc (Nat.le_refl _) (.cells #[.int .i64 q.kind, .string q.a.owner, .string q.a.name, .string q.b.owner, .string q.b.name, .slice B q.who.length cB] 67))
          have HL := Lib.hid (QryO.light q B cB (wr.alloc (.cells #[.int .i64 q.kind, .string q.a.owner, .string q.a.name, .string q.b.owner, .string q.b.name, .slice B q.who.length cB] 67)) HFq.out (hrow.keep HBb.out))
          have HQ1 : Hid (QryO.lightQ q = true → q.who.length ≤ 40) := Lib.hid (fun h => by
            unfold QryO.lightQ at h
            rw [Bool.and_eq_true] at h
            exact light40 h.1)
          obtain ⟨k1, ⟨ao, an⟩, ⟨bo, bn⟩, T⟩ := q
          unfold Qy.val at HL
          simp only at a0 a1 a2 a3 a4 a5 HL HBb HQ1 HW1
          generalize QryO.lightQ _ = l1 at *
          have cb : ∀ o, (wr.alloc (.cells #[.int .i64 k1, .string ao, .string an, .string bo, .string bn, .slice B T.length cB] 67)).cell? ⟨wr.heap.size, o, none⟩ = (#[.int .i64 k1, .string ao, .string an, .string bo, .string bn, .slice B T.length cB] : Array Value)[o]? := fun o => Lib.cell_of_heap (heap_alloc_new wr _) o
          clear hrow HFq
          go_wp2_with fail
          refine HL.out.mono ?_
          rintro e w2 ⟨rfl, hg2⟩
          have HB2 := Lib.hid (nx HBk.out (nx HBb.out hg2.below))
          clear hg2 cb a0 a1 a2 a3 a4 a5 HL
          cases l1
          · go_wp2_with fail
            go_ret
            exact HZ.out _ (nx HB0.out HB2.out)
          · have HW2 := Lib.hid (HW1.out (HQ1.out rfl))
            go_wp2_with fail
            go_roundw
            case rel => exact ⟨j + 1, by omega, by go_num, HW2, HB2.out⟩
            case measure => simp [intOf]; omega
        · have e1 : decide ((j : Int) < Q.length) = false := by simp; omega
          have HFew : Hid (Few ⟨S, G, H, Q⟩) := Lib.hid ⟨by show S.length ≤ 30; omega, by show G.length ≤ 30; omega, by show H.length ≤ 30; omega, by show Q.length ≤ 30; omega, fun q hq => hw.out q (by rw [List.take_of_length_le (by omega)]; exact hq)⟩
          have HBk := Lib.hid hb
          have c6 := HX.out wr hb
          clear hb hw
          go_upto_region 15 with fail
          have hbA : Below w0.heap.size w0 (wr.alloc (.cells #[] 28)).drew := (HBk.out.alloc HBk.out.size _).drew
          have hd0 : ∀ o, wr.drew.cell? ⟨w.heap.size, o, none⟩ = (#[.slice A1 S.length c1, .slice A2 G.length c2, .slice A3 H.length c3, .slice A4 Q.length c4] : Array Value)[o]? := c6
          have hd1 : ∀ o, ((wr.alloc (.cells #[] 28)).drew).cell? ⟨w.heap.size, o, none⟩ = (#[.slice A1 S.length c1, .slice A2 G.length c2, .slice A3 H.length c3, .slice A4 Q.length c4] : Array Value)[o]? := HX.out _ hbA
          have hown0 : ((wr.alloc (.cells #[] 28)).drew).ownsRow wr.heap.size 28 2 (.slice (some ⟨wr.heap.size, 0, none⟩) 0 0) 0 [] := SynC.own_empty wr _ 2
          have HO0 := Lib.hid hown0
          have hG := HP.out.g.below (nx HB0.out hbA)
          have hH := HP.out.h.below (nx HB0.out hbA)
          simp only at hG hH
          have HG := Lib.hid hG
          have HH := Lib.hid hH
          have hwl : w.heap.size < wr.heap.size := by
            have := HBk.out.size
            have h2 := (HX.out w0 (Below.refl _ _) 0)
            have h3 : w0.cell? ⟨w.heap.size, 0, none⟩ = some (.slice A1 S.length c1) := h2
            have := World.block_lt_of_cell? _ _ h3
            simp only at this
            omega
          have HSz : Hid (wr.heap.size ≤ ((wr.alloc (.cells #[] 28)).drew).heap.size) := Lib.hid (by show wr.heap.size ≤ (wr.alloc _).heap.size; simp)
          have HN2 := Lib.hid (rg_none hG)
          have HN3 := Lib.hid (rg_none hH)
          have HBA := Lib.hid hbA
          obtain ⟨i0, hi, hz0, hz1, hz2⟩ := info_parts SynJ.infoRole
          clear hown0 hG hH hbA
          go_region_held3 (fun w' => ∀ o, w'.cell? ⟨w.heap.size, o, none⟩ = (#[.slice A1 S.length c1, .slice A2 G.length c2, .slice A3 H.length c3, .slice A4 Q.length c4] : Array Value)[o]?)
            (first | with_reducible assumption)
            (first | (refine step_append_from _ rfl (.tmp 53) (.tmp 55) 23 rfl wr.heap.size 28 i0 (.agg #[.string ⟨#[]⟩, .string ⟨#[]⟩]) 2 32 Tryz.underlying23 hi hz0 hz1 hz2 rfl (by decide) (.slice (some ⟨wr.heap.size, 0, none⟩) 0 0) 0 [] (by simp [Act.eval]) HO0.out A2 G.length c2 (rcells G) (by simp [Act.eval]) (rcells_len G) HN2.out (rg_cells HG.out) (rcells_one G) (by unfold maxLen; omega) (by omega) (by show wr.heap.size ≤ (wr.alloc _).heap.size; simp) ?_; intro v1 w1 hown1 hg1; have hs1 := Nat.le_trans HSz.out hg1.size; have hb1 := Lib.hid (below_grown HBA.out HO0.out hg1 HBk.out.size (by show wr.heap.size ≤ (wr.alloc _).heap.size; simp)); have hd2 := HX.out _ hb1.out)
                   | (refine step_append_from _ rfl (.tmp 56) (.tmp 58) 23 rfl wr.heap.size 28 i0 (.agg #[.string ⟨#[]⟩, .string ⟨#[]⟩]) 2 32 Tryz.underlying23 hi hz0 hz1 hz2 rfl (by decide) v1 (0 + G.length) ([] ++ rcells G) (by simp [Act.eval]) hown1 A3 H.length c3 (rcells H) (by simp [Act.eval]) (rcells_len H) HN3.out (rg_cells (HP.out.h.below (nx HB0.out hb1.out))) (rcells_one H) (by unfold maxLen; omega) (by omega) hs1 ?_; intro v2 w2 hown2 hg2; obtain ⟨A5, c5, rfl⟩ := own_n hown2; have hb2 := Lib.hid (below_grown hb1.out hown1 hg2 HBk.out.size hs1); have hd3 := HX.out _ hb2.out))
          obtain ⟨T, hT⟩ : ∃ T, T = G ++ H := ⟨_, rfl⟩
          have hTl : T.length = 0 + G.length + H.length := by rw [hT]; simp
          have hTr : rcells T = [] ++ rcells G ++ rcells H := by rw [hT, rcells_app]; simp
          rw [← hTl, ← hTr] at hown2
          rw [← hTl]
          have hRT := PolK.rg_of_own hown2
          have HRT := Lib.hid hRT
          have HB2 := hb2
          have hT60 : T.length ≤ 60 := by omega
          clear hb1 hb2 hd0 hd1 hd2 hd3 hown1 hg1 hown2 hg2 hTr hT hRT c6 hs1
          go_wp2_with fail
          go_loopw [61] (fun i wr => ∃ j : Nat, j ≤ T.length ∧ i = .int .i64 j ∧ Below w2.heap.size w2 wr) (fun i _ => T.length - (intOf i).toNat)
          case atStart => exact ⟨0, by omega, rfl, Below.refl _ _⟩
          case round =>
            obtain ⟨j, hj, rfl, hb⟩ := hrel
            have HBF := Lib.hid (nx (nx HB0.out HB2.out) hb)
            by_cases hlt : j < T.length
            · have e1 : decide ((j : Int) < T.length) = true := by simp; omega
              have e2 : decide ((j : Int) < (G.length : Int) + (H.length : Int)) = true := by simp; omega
              have p2 : (j : Int) < (G.length : Int) + (H.length : Int) := by omega
              have p0 : (0 : Int) ≤ j := by omega
              have p1 : (j : Int) < T.length := by omega
              obtain ⟨g, o, rfl, hg, hcell⟩ := (HRT.out.below hb) (by omega)
              obtain ⟨a0, a1⟩ := hcell j hlt
              have HBk := Lib.hid (nx hb ((Below.refl wr.heap.size wr).alloc (Nat.le_refl _) (.cells #[.string T[j].owner, .string T[j].name] 28)))
              have HBG := Lib.hid (nx HBF.out ((Below.refl wr.heap.size wr).alloc (Nat.le_refl _) (.cells #[.string T[j].owner, .string T[j].name] 28)))
              clear hcell hb
              generalize T[j].owner = x at *
              generalize T[j].name = y at *
              by_cases q1 : 40 < x.size
              · have f1 : decide ((40 : Int) < (x.size : Int)) = true := by simp; omega
                go_wp2_with fail
                go_ret
                exact HZ.out _ HBG.out
              · have f1 : decide ((40 : Int) < (x.size : Int)) = false := by simp; omega
                by_cases q2 : 40 < y.size
                · have f2 : decide ((40 : Int) < (y.size : Int)) = true := by simp; omega
                  go_wp2_with fail
                  go_ret
                  exact HZ.out _ HBG.out
                · have f2 : decide ((40 : Int) < (y.size : Int)) = false := by simp; omega
                  go_wp2_with fail
                  go_roundw
                  case rel => exact ⟨j + 1, by omega, by go_num, HBk.out⟩
                  case measure => simp [intOf]; omega
            · have e1 : decide ((j : Int) < T.length) = false := by simp; omega
              have e2 : decide ((j : Int) < (G.length : Int) + (H.length : Int)) = false := by simp; omega
              clear hb
              go_wp2_with fail
              go_ret
              exact ⟨true, rfl, fun _ => HFew.out, HBF.out⟩
end Go.Proofs.YtcmdiomjhideiaaGreatDoor.PolLi
/- Rows of the call's own that lie beside one another: what an append leaves of the others. -/
namespace Go.Proofs.YtcmdiomjhideiaaGreatDoor.PolO
set_option linter.unusedVariables false
set_option linter.unusedSimpArgs false
open Go.RowKit Go.Sort Go.Lib Go.Proofs Go.Proofs.YtcmdiomjhideiaaGreatDoor.Plain Go.Proofs.YtcmdiomjhideiaaGreatDoor.SynP Go.Proofs.YtcmdiomjhideiaaGreatDoor.TabP Go.Proofs.YtcmdiomjhideiaaGreatDoor.Tab1 Go.Proofs.YtcmdiomjhideiaaGreatDoor.Grown Go.Proofs.YtcmdiomjhideiaaGreatDoor.SynC Go.Proofs.YtcmdiomjhideiaaGreatDoor.SynD2 Go.Proofs.YtcmdiomjhideiaaGreatDoor.SynJ Go.Proofs.YtcmdiomjhideiaaGreatDoor.QryP Go.Proofs.YtcmdiomjhideiaaGreatDoor.PolA Go.Proofs.YtcmdiomjhideiaaGreatDoor.PolE Go.Proofs.YtcmdiomjhideiaaGreatDoor.PolG Go.Proofs.YtcmdiomjhideiaaGreatDoor.PolK
set_option linter.unusedVariables false
set_option linter.unusedSimpArgs false
/-- The block of a row that was appended to: the old one, or one that is new. -/
def Moves (w : World) (b b' : Option Nat) : Prop := b' = b ∨ ∃ g, b' = some g ∧ w.heap.size ≤ g
section
variable {P : Program} (w : World)
theorem wpList_append_at {ops : Array Oper} {rest : List Oper} {o : Oper} {a : Act} {Q : Exit → Act → World → Prop} (hgd : o.guard = none) (s x : Operand) (t : TypeId)
    (ho : o.op = .call { callee := .builtin .append, args := #[s, x], argTypes := #[t, t] })
    (base : Nat) (e : TypeId) (i : TypeInfo) (z : Value) (size bytes : Nat) (ht : P.underlying t = some (.slice e)) (hi : P.info? e = some i) (hz : i.zero = some z)
    (hsize : i.size = size) (hby : i.bytes = bytes) (hzs : z.cells.size = size) (hsz : 0 < size) (v : Value) (n : Nat) (xs : List Value) (hs : a.eval s = v) (hown : w.ownsRow base e size v n xs)
    (ad : Addr) (m c : Nat) (news : List Value) (hx : a.eval x = .slice (some ad) m c) (hlen : news.length = m * size) (hA : ∀ ad', some ad = some ad' → ∀ j u, news[j]? = some u → w.cell? (ad'.add j) = some u) (h1 : ∀ u ∈ news, u.oneCell' = true)
    (h63 : n + m ≤ maxLen) (hbytes : (n + m) * bytes ≤ 140737488355328) (hbase : base ≤ w.heap.size)
    (h : ∀ v' w', w'.ownsRow base e size v' (n + m) (xs ++ news) → w.grownBy w' v.ownBlock → Moves w v.ownBlock v'.ownBlock → wpList P ops Q rest (a.put o.dst v') w') : wpList P ops Q (o :: rest) a w := by
  obtain ⟨v', w', hrun, h2, h3, _, h5⟩ := run_append_own_at (P := P) w base t o.type e i z size bytes ht hi hz hsize hby hzs hsz v n xs hown ad m c news hlen (hA ad rfl) h1 h63 hbytes hbase
  refine Lib.wpList_append_run w hgd s x t t ho v _ hs hx v' w' hrun (h v' w' h2 h3 ?_)
  rcases h5 with h | h
  · exact .inl h
  · exact .inr ⟨_, h, Nat.le_refl _⟩
end
end Go.Proofs.YtcmdiomjhideiaaGreatDoor.PolO
/- Whether two queries are the very same, in the program and in the document's answers, by contract. -/
namespace Go.Proofs.YtcmdiomjhideiaaGreatDoor.QryS
set_option linter.unusedVariables false
set_option linter.unusedSimpArgs false
open Go.RowKit Go.Sort Go.Proofs Go.Proofs.YtcmdiomjhideiaaGreatDoor.Plain Go.Proofs.YtcmdiomjhideiaaGreatDoor.SynP Go.Proofs.YtcmdiomjhideiaaGreatDoor.TabP Go.Proofs.YtcmdiomjhideiaaGreatDoor.Tab1 Go.Proofs.YtcmdiomjhideiaaGreatDoor.Grown Go.Proofs.YtcmdiomjhideiaaGreatDoor.SynE Go.Proofs.YtcmdiomjhideiaaGreatDoor.QryP Go.Proofs.YtcmdiomjhideiaaGreatDoor.Qry1
set_option linter.unusedVariables false
set_option linter.unusedSimpArgs false
theorem neS (x y : ByteArray) (w : World) : (binOp .neq 9 (.string x) (.string y)).run Tryz.prog w = .ok (.bool (!decide (x = y))) w := by
  have e := text_eq
  go_simp
  by_cases h : x = y
  · subst h; simp
  · simp [h, e]
end Go.Proofs.YtcmdiomjhideiaaGreatDoor.QryS
/- Are two policies the very same: policy.Same, by contract. -/
namespace Go.Proofs.YtcmdiomjhideiaaGreatDoor.PolN
set_option linter.unusedVariables false
set_option linter.unusedSimpArgs false
open Go.RowKit Go.Sort Go.Lib Go.Proofs Go.Proofs.YtcmdiomjhideiaaGreatDoor.Plain Go.Proofs.YtcmdiomjhideiaaGreatDoor.SynP Go.Proofs.YtcmdiomjhideiaaGreatDoor.TabP Go.Proofs.YtcmdiomjhideiaaGreatDoor.Tab1 Go.Proofs.YtcmdiomjhideiaaGreatDoor.SynJ Go.Proofs.YtcmdiomjhideiaaGreatDoor.QryP Go.Proofs.YtcmdiomjhideiaaGreatDoor.PolA Go.Proofs.YtcmdiomjhideiaaGreatDoor.PolE Go.Proofs.YtcmdiomjhideiaaGreatDoor.PolG Go.Proofs.YtcmdiomjhideiaaGreatDoor.PolJ
set_option linter.unusedVariables false
set_option linter.unusedSimpArgs false
end Go.Proofs.YtcmdiomjhideiaaGreatDoor.PolN
/- Are two policies the very same: the document's Same, by contract. -/
namespace Go.Proofs.YtcmdiomjhideiaaGreatDoor.RefSm
set_option linter.unusedVariables false
set_option linter.unusedSimpArgs false
open Go.RowKit Go.Sort Go.Lib Go.Proofs Go.Proofs.YtcmdiomjhideiaaGreatDoor.Plain Go.Proofs.YtcmdiomjhideiaaGreatDoor.SynP Go.Proofs.YtcmdiomjhideiaaGreatDoor.TabP Go.Proofs.YtcmdiomjhideiaaGreatDoor.Tab1 Go.Proofs.YtcmdiomjhideiaaGreatDoor.SynJ Go.Proofs.YtcmdiomjhideiaaGreatDoor.QryP Go.Proofs.YtcmdiomjhideiaaGreatDoor.PolA Go.Proofs.YtcmdiomjhideiaaGreatDoor.PolE Go.Proofs.YtcmdiomjhideiaaGreatDoor.PolG Go.Proofs.YtcmdiomjhideiaaGreatDoor.PolJ Go.Proofs.YtcmdiomjhideiaaGreatDoor.PolN
set_option linter.unusedVariables false
set_option linter.unusedSimpArgs false
set_option maxHeartbeats 1000000 in
set_option maxRecDepth 100000 in
theorem sameRR (A B : Option Addr) (ca cb : Nat) (T U : List Rl) (w : World) (hT : T.length ≤ 10000) (hU : U.length ≤ 10000) (hA : RG w A T) (hB : RG w B U) :
    Calls Tryz.prog 40 #[.slice A T.length ca, .slice B U.length cb] w fun e w' => e = .returned (.bool (decide (T = U))) ∧ ∃ n, w' = w.drewN n := by
  by_cases hl : T.length = U.length
  · have HL := Lib.hid hl
    have d0 : ((T.length : Int) != U.length) = false := by rw [hl]; simp
    have d0' : (T.length != U.length) = false := by rw [hl]; simp
    have HA := Lib.hid hA
    have HB := Lib.hid hB
    have hul : U.length ≤ T.length := by omega
    have htl : T.length ≤ U.length := by omega
    clear hl hA hB
    go_enter Tryz.func40, Tryz.ntmps40
    go_wp2_with fail
    go_loopw [13] (fun i wr => ∃ k : Nat, k ≤ T.length ∧ i = .int .i64 k ∧ Hid (∀ j, j < k → T[j]? = U[j]?) ∧ ∃ n, wr = w.drewN n) (fun i _ => T.length - (intOf i).toNat)
    case atStart => exact ⟨0, by omega, rfl, Lib.hid (fun j hj => by omega), 0, rfl⟩
    case round =>
      obtain ⟨k, hk, rfl, hall, n, rfl⟩ := hrel
      by_cases hlt : k < T.length
      · have hlu : k < U.length := by omega
        obtain ⟨g1, o1, rfl, _, h1⟩ := HA.out (by omega)
        obtain ⟨g2, o2, rfl, _, h2⟩ := HB.out (by omega)
        obtain ⟨a0, a1⟩ := h1 k hlt
        obtain ⟨b0, b1⟩ := h2 k hlu
        have p1 : (0 : Int) ≤ k := by omega
        have p2 : (k : Int) < T.length := by omega
        have p3 : (k : Int) < U.length := by omega
        have hq := fun w => SynE.neR T[k].owner T[k].name U[k].owner U[k].name w
        clear h1 h2
        by_cases he : T[k] = U[k]
        · have hnext : Hid (∀ j, j < k + 1 → T[j]? = U[j]?) := Lib.hid (fun j hj => by
            by_cases e : j = k
            · subst e; rw [List.getElem?_eq_getElem hlt, List.getElem?_eq_getElem hlu, he]
            · exact hall.out j (by omega))
          rw [decide_eq_true (p := (⟨T[k].owner, T[k].name⟩ : Rl) = (⟨U[k].owner, U[k].name⟩)) he] at hq
          clear he hall
          go_wp2_with fail
          go_quiet (fail)
          go_wp2_with fail
          go_roundw
          case rel => exact ⟨k + 1, by omega, by go_num, hnext, _, rfl⟩
          case measure => simp [intOf]; omega
        · have hfin : Hid (decide (T = U) = false) := Lib.hid (decide_eq_false (fun h => he (by subst h; rfl)))
          rw [decide_eq_false (p := (⟨T[k].owner, T[k].name⟩ : Rl) = (⟨U[k].owner, U[k].name⟩)) he] at hq
          clear he hall
          go_wp2_with fail
          go_quiet (fail)
          go_wp2_with fail
          go_ret
          exact ⟨ret_bool hfin.out.symm, _, World.drewN_drewN _ _ _⟩
      · have hfin : Hid (decide (T = U) = true) := Lib.hid (decide_eq_true (same_all HL.out fun j hj => hall.out j (by omega)))
        clear hall
        go_wp2_with fail
        go_ret
        exact ⟨ret_bool hfin.out.symm, _, rfl⟩
  · have d0 : ((T.length : Int) != U.length) = true := by rw [bne_iff_ne]; omega
    have d0' : (T.length != U.length) = true := by rw [bne_iff_ne]; exact hl
    rw [decide_eq_false (fun h : T = U => hl (by rw [h]))]
    clear hl hA hB
    go_enter Tryz.func40, Tryz.ntmps40
    go_wp2_with fail
    go_ret
    exact ⟨rfl, 0, rfl⟩
set_option maxHeartbeats 1000000 in
set_option maxRecDepth 100000 in
theorem sameSS (A B : Option Addr) (ca cb : Nat) (T U : List St) (w : World) (hT : T.length ≤ 10000) (hU : U.length ≤ 10000) (hA : SG w A T) (hB : SG w B U) :
    Calls Tryz.prog 22 #[.slice A T.length ca, .slice B U.length cb] w fun e w' => e = .returned (.bool (decide (T = U))) ∧ ∃ n, w' = w.drewN n := by
  by_cases hl : T.length = U.length
  · have HL := Lib.hid hl
    have d0 : ((T.length : Int) != U.length) = false := by rw [hl]; simp
    have d0' : (T.length != U.length) = false := by rw [hl]; simp
    have HA := Lib.hid hA
    have HB := Lib.hid hB
    have hul : U.length ≤ T.length := by omega
    have htl : T.length ≤ U.length := by omega
    clear hl hA hB
    go_enter Tryz.func22, Tryz.ntmps22
    go_wp2_with fail
    go_loopw [13] (fun i wr => ∃ k : Nat, k ≤ T.length ∧ i = .int .i64 k ∧ Hid (∀ j, j < k → T[j]? = U[j]?) ∧ ∃ n, wr = w.drewN n) (fun i _ => T.length - (intOf i).toNat)
    case atStart => exact ⟨0, by omega, rfl, Lib.hid (fun j hj => by omega), 0, rfl⟩
    case round =>
      obtain ⟨k, hk, rfl, hall, n, rfl⟩ := hrel
      by_cases hlt : k < T.length
      · have hlu : k < U.length := by omega
        obtain ⟨g1, o1, rfl, _, h1⟩ := HA.out (by omega)
        obtain ⟨g2, o2, rfl, _, h2⟩ := HB.out (by omega)
        obtain ⟨a0, a1, a2, a3, a4, a5, a6, a7, a8⟩ := h1 k hlt
        obtain ⟨b0, b1, b2, b3, b4, b5, b6, b7, b8⟩ := h2 k hlu
        have p1 : (0 : Int) ≤ k := by omega
        have p2 : (k : Int) < T.length := by omega
        have p3 : (k : Int) < U.length := by omega
        have hq := fun w => SynE.neS T[k].kind T[k].head.owner T[k].head.name T[k].who T[k].a.owner T[k].a.name T[k].b.owner T[k].b.name T[k].via U[k].kind U[k].head.owner U[k].head.name U[k].who U[k].a.owner U[k].a.name U[k].b.owner U[k].b.name U[k].via w
        clear h1 h2
        by_cases he : T[k] = U[k]
        · have hnext : Hid (∀ j, j < k + 1 → T[j]? = U[j]?) := Lib.hid (fun j hj => by
            by_cases e : j = k
            · subst e; rw [List.getElem?_eq_getElem hlt, List.getElem?_eq_getElem hlu, he]
            · exact hall.out j (by omega))
          rw [decide_eq_true (p := (⟨T[k].kind, ⟨T[k].head.owner, T[k].head.name⟩, T[k].who, ⟨T[k].a.owner, T[k].a.name⟩, ⟨T[k].b.owner, T[k].b.name⟩, T[k].via⟩ : St) = (⟨U[k].kind, ⟨U[k].head.owner, U[k].head.name⟩, U[k].who, ⟨U[k].a.owner, U[k].a.name⟩, ⟨U[k].b.owner, U[k].b.name⟩, U[k].via⟩)) he] at hq
          clear he hall
          go_wp2_with fail
          go_quiet (fail)
          go_wp2_with fail
          go_roundw
          case rel => exact ⟨k + 1, by omega, by go_num, hnext, _, rfl⟩
          case measure => simp [intOf]; omega
        · have hfin : Hid (decide (T = U) = false) := Lib.hid (decide_eq_false (fun h => he (by subst h; rfl)))
          rw [decide_eq_false (p := (⟨T[k].kind, ⟨T[k].head.owner, T[k].head.name⟩, T[k].who, ⟨T[k].a.owner, T[k].a.name⟩, ⟨T[k].b.owner, T[k].b.name⟩, T[k].via⟩ : St) = (⟨U[k].kind, ⟨U[k].head.owner, U[k].head.name⟩, U[k].who, ⟨U[k].a.owner, U[k].a.name⟩, ⟨U[k].b.owner, U[k].b.name⟩, U[k].via⟩)) he] at hq
          clear he hall
          go_wp2_with fail
          go_quiet (fail)
          go_wp2_with fail
          go_ret
          exact ⟨ret_bool hfin.out.symm, _, World.drewN_drewN _ _ _⟩
      · have hfin : Hid (decide (T = U) = true) := Lib.hid (decide_eq_true (same_all HL.out fun j hj => hall.out j (by omega)))
        clear hall
        go_wp2_with fail
        go_ret
        exact ⟨ret_bool hfin.out.symm, _, rfl⟩
  · have d0 : ((T.length : Int) != U.length) = true := by rw [bne_iff_ne]; omega
    have d0' : (T.length != U.length) = true := by rw [bne_iff_ne]; exact hl
    rw [decide_eq_false (fun h : T = U => hl (by rw [h]))]
    clear hl hA hB
    go_enter Tryz.func22, Tryz.ntmps22
    go_wp2_with fail
    go_ret
    exact ⟨rfl, 0, rfl⟩
end Go.Proofs.YtcmdiomjhideiaaGreatDoor.RefSm
/- All roles that a policy names: the document's Roles, by contract. -/
namespace Go.Proofs.YtcmdiomjhideiaaGreatDoor.RefRo
set_option linter.unusedVariables false
set_option linter.unusedSimpArgs false
open Go.RowKit Go.Sort Go.Lib Go.Proofs Go.Proofs.YtcmdiomjhideiaaGreatDoor.Plain Go.Proofs.YtcmdiomjhideiaaGreatDoor.SynP Go.Proofs.YtcmdiomjhideiaaGreatDoor.TabP Go.Proofs.YtcmdiomjhideiaaGreatDoor.Tab1 Go.Proofs.YtcmdiomjhideiaaGreatDoor.Grown Go.Proofs.YtcmdiomjhideiaaGreatDoor.SynC Go.Proofs.YtcmdiomjhideiaaGreatDoor.SynJ Go.Proofs.YtcmdiomjhideiaaGreatDoor.QryP Go.Proofs.YtcmdiomjhideiaaGreatDoor.PolA Go.Proofs.YtcmdiomjhideiaaGreatDoor.PolE Go.Proofs.YtcmdiomjhideiaaGreatDoor.PolG Go.Proofs.YtcmdiomjhideiaaGreatDoor.PolO
set_option linter.unusedVariables false
set_option linter.unusedSimpArgs false
def snoc (R : List Rl) (r : Rl) : List Rl := R ++ [r]
def cat (R L : List Rl) (k : Nat) : List Rl := R ++ L.take k
def catQ (R : List Rl) (L : List Qy) (k : Nat) : List Rl := R ++ rolesA L k
theorem snoc_len (R : List Rl) (r : Rl) : (snoc R r).length = R.length + 1 := by simp [snoc]
theorem cat_len (R L : List Rl) (k : Nat) : (cat R L k).length ≤ R.length + L.length := by simp [cat]; omega
theorem cat_succ (R L : List Rl) (k : Nat) (h : k < L.length) : cat R L (k + 1) = snoc (cat R L k) L[k] := by unfold cat snoc; rw [List.take_succ_eq_append_getElem h, List.append_assoc]
theorem catQ_len (R : List Rl) (L : List Qy) (k : Nat) : (catQ R L k).length ≤ R.length + k * 2 := by unfold catQ; have := rolesA_len L k; simp; omega
def rolesR (p : Py) : List Rl := rolesS p.stmts p.stmts.length ++ p.grow ++ p.shrink ++ rolesA p.asks p.asks.length
/-- No block of the row is the block D. -/
def Apart (v : Value) (D : Nat) : Prop := ∀ g, v.ownBlock = some g → g ≠ D
theorem Apart.moves {w : World} {v v' : Value} {D : Nat} (h : Apart v D) (hm : Moves w v.ownBlock v'.ownBlock) (hD : D < w.heap.size) : Apart v' D := fun g e => by
  rcases hm with hm | ⟨g', hm, hg⟩
  · exact h g (hm ▸ e)
  · rw [e] at hm; injection hm with hm; omega
theorem Apart.of_own {w : World} {B n : Nat} {e : TypeId} {k : Nat} {v : Value} {xs : List Value} {D : Nat} (h : w.ownsRow B e k v n xs) (hD : w.heap.size ≤ D) : Apart v D := fun g hg => by
  have := (h.lt g hg).2; omega
theorem kept {w w' : World} {v : Value} {D o : Nat} (hg : w.grownBy w' v.ownBlock) (ha : Apart v D) (hD : D < w.heap.size) : w'.cell? ⟨D, o, none⟩ = w.cell? ⟨D, o, none⟩ := by
  have h := hg.block D hD (fun e => ha D e.symm rfl)
  unfold World.cell?
  rw [h]
section
variable {w : World}
set_option maxRecDepth 100000 in
theorem wp_app1 {ops : Array Oper} {rest : List Oper} {o : Oper} {a : Act} {Q : Exit → Act → World → Prop} (hgd : o.guard = none) (s x : Operand)
    (ho : o.op = .call { callee := .builtin .append, args := #[s, x], argTypes := #[23, 23] })
    (B : Nat) (v : Value) (R : List Rl) (hs : a.eval s = v) (hown : w.ownsRow B 28 2 v R.length (rcells R)) (g : Nat) (r : Rl) (hx : a.eval x = .slice (some ⟨g, 0, none⟩) 1 1)
    (hc : ∀ j u, (Rl.cells r)[j]? = some u → w.cell? ⟨g, j, none⟩ = some u) (hR : R.length ≤ 100000) (hB : B ≤ w.heap.size)
    (h : ∀ v' w', w'.ownsRow B 28 2 v' (snoc R r).length (rcells (snoc R r)) → w.grownBy w' v.ownBlock → Moves w v.ownBlock v'.ownBlock → wpList Tryz.prog ops Q rest (a.put o.dst v') w') : wpList Tryz.prog ops Q (o :: rest) a w := by
  obtain ⟨i0, hi, hz0, hz1, hz2⟩ := info_parts infoRole
  refine wpList_append_at w hgd s x 23 ho B 28 i0 (.agg #[.string ⟨#[]⟩, .string ⟨#[]⟩]) 2 32 Tryz.underlying23 hi hz0 hz1 hz2 rfl (by decide) v R.length (rcells R) hs hown ⟨g, 0, none⟩ 1 1 (Rl.cells r) hx rfl ?_ ?_ (by unfold maxLen; omega) (by omega) hB ?_
  · intro ad e j u hu
    injection e with e; subst e
    rw [add_off, Nat.zero_add]; exact hc j u hu
  · intro u hu
    simp [Rl.cells] at hu
    rcases hu with rfl | rfl <;> rfl
  · intro v' w' h1 h2 h3
    refine h v' w' ?_ h2 h3
    have e : rcells (snoc R r) = rcells R ++ Rl.cells r := by unfold snoc; rw [rcells_app]; simp [rcells, Rl.cells]
    rw [e, snoc_len]; exact h1
end
theorem lit (X : World) (r : Rl) (n : Nat) (hn : X.heap.size = n) : ∀ j u, (Rl.cells r)[j]? = some u → (X.alloc (.cells #[.string r.owner, .string r.name] 28)).cell? ⟨n, j, none⟩ = some u := fun j u hu => by
  subst hn
  rw [Lib.cell_of_heap (heap_alloc_new X _), ← hu]
  show ([Value.string r.owner, Value.string r.name].toArray)[j]? = _
  rw [List.getElem?_toArray]; rfl
theorem first_cell (w : World) (C : Array Value) (t : TypeId) (o : Obj) (j : Nat) : ((w.alloc (.cells C t)).alloc o).cell? ⟨w.heap.size, j, none⟩ = C[j]? := by
  rw [World.cell?_alloc_past _ _ _ (by simp), Lib.cell_of_heap (heap_alloc_new w _)]
theorem grown_low {w w' : World} {B n : Nat} {v : Value} {xs : List Value} {e : TypeId} {k : Nat} {w0 : World} (hb : Below B w0 w) (ho : w.ownsRow B e k v n xs) (hg : w.grownBy w' v.ownBlock) (hB : B ≤ w.heap.size) : Below B w0 w' :=
  hb.grown hg hB (fun j hj => (ho.lt j hj).1)
set_option maxHeartbeats 2000000 in
set_option maxRecDepth 100000 in
/-- The loops over a row of roles and what is left behind, told once: after the row. -/
theorem rolesRef (p : Py) (A1 A2 A3 A4 : Option Addr) (c1 c2 c3 c4 : Nat) (w : World) (hf : p.fit) (hp : PG w A1 A2 A3 A4 p) : Calls Tryz.prog 89 #[p.val A1 A2 A3 A4 c1 c2 c3 c4] w fun e w' => ∃ A c, e = .returned (.slice A (rolesR p).length c) ∧ RAt w' A (rolesR p) ∧ Below w.heap.size w w' := by
  obtain ⟨S, G, H, Q⟩ := p
  unfold rolesR
  have HP := Lib.hid hp
  obtain ⟨n1, n2, n3, n4, _, _, _, _, _⟩ := hf
  simp only at n1 n2 n3 n4
  clear hp
  show Calls _ _ #[.agg #[.slice A1 S.length c1, .slice A2 G.length c2, .slice A3 H.length c3, .slice A4 Q.length c4]] _ _
  simp only
  have hcP := box_cell (Below.refl (w.heap.size + 1) (w.alloc (.cells #[.slice A1 S.length c1, .slice A2 G.length c2, .slice A3 H.length c3, .slice A4 Q.length c4] 26)))
  go_enter Tryz.func89, Tryz.ntmps89
  go_wp2_with fail
  clear hcP
  go_loopw [3, 15] (fun l i wx => ∃ (k : Nat) (v : Value), k ≤ S.length ∧ l = v ∧ i = .int .i64 k ∧ Hid (wx.ownsRow (w.heap.size + 1) 28 2 v (rolesS S k).length (rcells (rolesS S k))) ∧ Below (w.heap.size + 1) (w.alloc (.cells #[.slice A1 S.length c1, .slice A2 G.length c2, .slice A3 H.length c3, .slice A4 Q.length c4] 26)) wx) (fun _ i _ => S.length - (intOf i).toNat)
  case atStart => exact ⟨0, _, by omega, rfl, rfl, Lib.hid (by simpa [rolesS, rcells] using World.ownsRow_nil (w.alloc (.cells #[.slice A1 S.length c1, .slice A2 G.length c2, .slice A3 H.length c3, .slice A4 Q.length c4] 26)) (w.heap.size + 1) 28 2), Below.refl _ _⟩
  case round =>
    obtain ⟨k, v1, hk, rfl, rfl, hown, hbel⟩ := hrel
    have zr : w.heap.size + 1 ≤ wr.heap.size := by have := hbel.size; simpa using this
    have hlk := rolesS_len S k
    by_cases hlt : k < S.length
    · have d1 : decide ((k : Int) < S.length) = true := by simp; omega
      have p1 : (0 : Int) ≤ k := by omega
      have p2 : (k : Int) < S.length := by omega
      have hs := HP.out.s.below (low hbel)
      obtain ⟨g, o, e1, hg, hc⟩ := hs (by show 0 < S.length; omega)
      obtain rfl := e1
      obtain ⟨a0, a1, a2, a3, a4, a5, a6, a7, a8⟩ := hc k hlt
      have Hs := rolesS_succ hlt
      simp only at Hs a0 a1 a2 a3 a4 a5 a6 a7 a8
      generalize S[k] = s at Hs a0 a1 a2 a3 a4 a5 a6 a7 a8
      obtain ⟨k1, ⟨ho, hn⟩, wh, ⟨ao, an⟩, ⟨bo, bn⟩, via⟩ := s
      have HS := Lib.hid Hs
      clear hs hc Hs
      simp only at a0 a1 a2 a3 a4 a5 a6 a7 a8
      have hb1 : Below wr.heap.size wr ((wr.alloc (.cells #[.int .i64 k1, .string ho, .string hn, .string wh, .string ao, .string an, .string bo, .string bn, .string via] 55)).alloc (.cells #[.string ho, .string hn] 28)) := ((Below.refl _ wr).alloc (Nat.le_refl _) _).alloc (by simp) _
      have hap := Apart.of_own hown.out (Nat.le_refl wr.heap.size)
      have hownX := own_at hown.out hb1
      have hbX := hbel.trans (hb1.mono zr)
      have hL1 := lit (wr.alloc (.cells #[.int .i64 k1, .string ho, .string hn, .string wh, .string ao, .string an, .string bo, .string bn, .string via] 55)) ⟨ho, hn⟩ (wr.heap.size + 1) (by simp)
      have HL1 := Lib.hid hL1
      have HX := Lib.hid hownX
      have HBX := Lib.hid hbX
      clear hown hbel hb1 hL1 hownX hbX
      go_wp2_with (at_builtin; refine wp_app1 rfl _ _ rfl (w.heap.size + 1) _ (rolesS S k) rfl HX.out _ ⟨ho, hn⟩ rfl HL1.out (by omega) (by simp; omega) ?_)
      intro v2 w3 hown3 hg3 hm3
      have hap3 := hap.moves hm3 (by simp; omega)
      have hD3 : wr.heap.size < w3.heap.size := by have := hg3.size; simp only [World.size_alloc] at this; omega
      have hB3 := grown_low HBX.out HX.out hg3 (by simp; omega)
      have f : ∀ o u, (#[.int .i64 k1, .string ho, .string hn, .string wh, .string ao, .string an, .string bo, .string bn, .string via] : Array Value)[o]? = some u → w3.cell? ⟨wr.heap.size, o, none⟩ = some u := fun o u hu => by
        rw [kept hg3 hap (by simp; omega), first_cell]; exact hu
      have f0 := f 0 _ rfl
      have f4 := f 4 _ rfl
      have f5 := f 5 _ rfl
      have f6 := f 6 _ rfl
      have f7 := f 7 _ rfl
      have HO3 := Lib.hid hown3
      have HB3 := Lib.hid hB3
      clear hown3 hg3 hm3 hap HX HBX HL1 f hB3
      by_cases hk : k1 = 2 ∨ k1 = 3
      · have HF1 : Hid (rolesS S (k + 1) = snoc (snoc (rolesS S k) ⟨ho, hn⟩) ⟨ao, an⟩) := Lib.hid (by rw [HS.out]; unfold rolesL snoc; rw [if_pos hk]; simp)
        have hd : decide ((2 : Int) ≤ k1) = true := by rcases hk with rfl | rfl <;> rfl
        have hd2 : decide (k1 ≤ (4 : Int)) = true := by rcases hk with rfl | rfl <;> rfl
        have hd3 : (k1 == 4) = false := by rcases hk with rfl | rfl <;> rfl
        clear hk HS
        have hb4 : Below w3.heap.size w3 (w3.alloc (.cells #[.string ao, .string an] 28)) := (Below.refl _ _).alloc (Nat.le_refl _) _
        have zr3 : w.heap.size + 1 ≤ w3.heap.size := by omega
        have HO4 := Lib.hid (own_at HO3.out hb4)
        have HB4 := Lib.hid (HB3.out.trans (hb4.mono zr3))
        have HL4 := Lib.hid (lit w3 ⟨ao, an⟩ w3.heap.size rfl)
        have hl4 : (snoc (rolesS S k) ⟨ho, hn⟩).length ≤ 100000 := by rw [snoc_len]; omega
        clear hb4
        go_wp2_with (at_builtin; refine wp_app1 rfl _ _ rfl (w.heap.size + 1) _ (snoc (rolesS S k) ⟨ho, hn⟩) rfl HO4.out _ ⟨ao, an⟩ rfl HL4.out hl4 (by simp; omega) ?_)
        intro v4 w5 hown5 hg5 hm5
        have g0 := (kept (o := 0) hg5 hap3 (by simp; omega)).trans ((World.cell?_alloc_past _ _ _ hD3).trans f0)
        have HF := Lib.hid hown5
        have HFB := Lib.hid (grown_low HB4.out HO4.out hg5 (by simp; omega))
        rw [← HF1.out] at HF
        clear hown5 hg5 hm5 f0 f4 f5 f6 f7
        go_wp2_with fail
        go_roundw
        case rel => exact ⟨k + 1, _, by omega, rfl, by go_num, HF, HFB.out⟩
        case measure => simp [intOf]; omega
      · by_cases hk4 : k1 = 4
        · subst hk4
          have HF1 : Hid (rolesS S (k + 1) = snoc (snoc (snoc (rolesS S k) ⟨ho, hn⟩) ⟨ao, an⟩) ⟨bo, bn⟩) := Lib.hid (by rw [HS.out]; unfold rolesL snoc; simp)
          clear hk HS
          have hb4 : Below w3.heap.size w3 (w3.alloc (.cells #[.string ao, .string an] 28)) := (Below.refl _ _).alloc (Nat.le_refl _) _
          have zr3 : w.heap.size + 1 ≤ w3.heap.size := by omega
          have HO4 := Lib.hid (own_at HO3.out hb4)
          have HB4 := Lib.hid (HB3.out.trans (hb4.mono zr3))
          have HL4 := Lib.hid (lit w3 ⟨ao, an⟩ w3.heap.size rfl)
          have hl4 : (snoc (rolesS S k) ⟨ho, hn⟩).length ≤ 100000 := by rw [snoc_len]; omega
          clear hb4
          go_wp2_with (at_builtin; refine wp_app1 rfl _ _ rfl (w.heap.size + 1) _ (snoc (rolesS S k) ⟨ho, hn⟩) rfl HO4.out _ ⟨ao, an⟩ rfl HL4.out hl4 (by simp; omega) ?_)
          intro v4 w5 hown5 hg5 hm5
          have g0 := (kept (o := 0) hg5 hap3 (by simp; omega)).trans ((World.cell?_alloc_past _ _ _ hD3).trans f0)
          have g6 := (kept (o := 6) hg5 hap3 (by simp; omega)).trans ((World.cell?_alloc_past _ _ _ hD3).trans f6)
          have g7 := (kept (o := 7) hg5 hap3 (by simp; omega)).trans ((World.cell?_alloc_past _ _ _ hD3).trans f7)
          have hB5 := grown_low HB4.out HO4.out hg5 (by simp; omega)
          have zr5 : w.heap.size + 1 ≤ w5.heap.size := by have := hg5.size; simp only [World.size_alloc] at this; omega
          have hb6 : Below w5.heap.size w5 (w5.alloc (.cells #[.string bo, .string bn] 28)) := (Below.refl _ _).alloc (Nat.le_refl _) _
          have HO6 := Lib.hid (own_at hown5 hb6)
          have HB6 := Lib.hid (hB5.trans (hb6.mono zr5))
          have HL6 := Lib.hid (lit w5 ⟨bo, bn⟩ w5.heap.size rfl)
          have hl6 : (snoc (snoc (rolesS S k) ⟨ho, hn⟩) ⟨ao, an⟩).length ≤ 100000 := by rw [snoc_len, snoc_len]; omega
          clear hown5 hg5 hm5 f0 f4 f5 f6 f7 hb6 hB5
          go_wp2_with (at_builtin; refine wp_app1 rfl _ _ rfl (w.heap.size + 1) _ (snoc (snoc (rolesS S k) ⟨ho, hn⟩) ⟨ao, an⟩) rfl HO6.out _ ⟨bo, bn⟩ rfl HL6.out hl6 (by simp; omega) ?_)
          intro v6 w7 hown7 hg7 hm7
          have HF := Lib.hid hown7
          have HFB := Lib.hid (grown_low HB6.out HO6.out hg7 (by simp; omega))
          rw [← HF1.out] at HF
          clear hown7 hg7 hm7 g0 g6 g7
          go_wp2_with fail
          go_roundw
          case rel => exact ⟨k + 1, _, by omega, rfl, by go_num, HF, HFB.out⟩
          case measure => simp [intOf]; omega
        · have HF1 : Hid (rolesS S (k + 1) = snoc (rolesS S k) ⟨ho, hn⟩) := Lib.hid (by rw [HS.out]; unfold rolesL snoc; rw [if_neg hk, if_neg hk4])
          have hd3 : (k1 == 4) = false := by simpa using hk4
          have HF := Lib.hid HO3.out
          rw [← HF1.out] at HF
          by_cases hk2 : (2 : Int) ≤ k1
          · have hd : decide ((2 : Int) ≤ k1) = true := decide_eq_true hk2
            have hd2 : decide (k1 ≤ (4 : Int)) = false := decide_eq_false (by omega)
            clear hk HS hk2 hk4
            go_wp2_with fail
            go_roundw
            case rel => exact ⟨k + 1, _, by omega, rfl, by go_num, HF, HB3.out⟩
            case measure => simp [intOf]; omega
          · have hd : decide ((2 : Int) ≤ k1) = false := decide_eq_false hk2
            clear hk HS hk2 hk4
            go_wp2_with fail
            go_roundw
            case rel => exact ⟨k + 1, _, by omega, rfl, by go_num, HF, HB3.out⟩
            case measure => simp [intOf]; omega
    · have d1 : decide ((k : Int) < S.length) = false := by simp; omega
      have hkL : k = S.length := by omega
      subst hkL
      have hcP := box_cell hbel
      have hR : (rolesS S S.length).length ≤ 4000 := by have := rolesS_len S S.length; omega
      obtain ⟨R1, hRe⟩ : ∃ R, rolesS S S.length = R := ⟨_, rfl⟩
      have hown' := hown.out
      rw [hRe] at hown'
      rw [hRe] at hR
      have HR1 := Lib.hid hRe
      have HO := Lib.hid hown'
      have HB := Lib.hid hbel
      clear hRe hown hown' hbel
      go_wp2_with fail
      clear hcP
      go_loopw [3, 49] (fun l i wx => ∃ (k : Nat) (v : Value), k ≤ G.length ∧ l = v ∧ i = .int .i64 k ∧ Hid (wx.ownsRow (w.heap.size + 1) 28 2 v (cat R1 G k).length (rcells (cat R1 G k))) ∧ Below (w.heap.size + 1) (w.alloc (.cells #[.slice A1 S.length c1, .slice A2 G.length c2, .slice A3 H.length c3, .slice A4 Q.length c4] 26)) wx) (fun _ i _ => G.length - (intOf i).toNat)
      case atStart => exact ⟨0, _, by omega, rfl, rfl, Lib.hid (by have := HO.out; simpa [cat] using this), HB.out⟩
      case round =>
        clear HO HB
        obtain ⟨k, v1, hk, rfl, rfl, hown, hbel⟩ := hrel
        have zr : w.heap.size + 1 ≤ wr.heap.size := by have := hbel.size; simpa using this
        by_cases hlt : k < G.length
        · have d1 : decide ((k : Int) < G.length) = true := by simp; omega
          have p1 : (0 : Int) ≤ k := by omega
          have p2 : (k : Int) < G.length := by omega
          have hs := HP.out.g.below (low hbel)
          obtain ⟨g, o, e1, hg, hc⟩ := hs (by show 0 < G.length; omega)
          obtain rfl := e1
          obtain ⟨a0, a1⟩ := hc k hlt
          have Hs : cat R1 G (k + 1) = snoc (cat R1 G k) G[k] := cat_succ _ _ _ hlt
          simp only at Hs a0 a1
          generalize G[k] = s at Hs a0 a1
          obtain ⟨ho, hn⟩ := s
          have HS := Lib.hid Hs
          clear hs hc Hs
          simp only at a0 a1
          have hb1 : Below wr.heap.size wr ((wr.alloc (.cells #[.string ho, .string hn] 28)).alloc (.cells #[.string ho, .string hn] 28)) := ((Below.refl _ wr).alloc (Nat.le_refl _) _).alloc (by simp) _
          have HX := Lib.hid (own_at hown.out hb1)
          have HBX := Lib.hid (hbel.trans (hb1.mono zr))
          have HL1 := Lib.hid (lit (wr.alloc (.cells #[.string ho, .string hn] 28)) ⟨ho, hn⟩ (wr.heap.size + 1) (by simp))
          have hl : (cat R1 G k).length ≤ 100000 := by have := cat_len R1 G k; omega
          clear hown hbel hb1
          go_wp2_with (at_builtin; refine wp_app1 rfl _ _ rfl (w.heap.size + 1) _ (cat R1 G k) rfl HX.out _ ⟨ho, hn⟩ rfl HL1.out hl (by simp; omega) ?_)
          intro v2 w3 hown3 hg3 hm3
          have HF := Lib.hid hown3
          have HFB := Lib.hid (grown_low HBX.out HX.out hg3 (by simp; omega))
          rw [← HS.out] at HF
          clear hown3 hg3 hm3
          go_wp2_with fail
          go_roundw
          case rel => exact ⟨k + 1, _, by omega, rfl, by go_num, HF, HFB.out⟩
          case measure => simp [intOf]; omega
        · have d1 : decide ((k : Int) < G.length) = false := by simp; omega
          have hkL : k = G.length := by omega
          subst hkL
          have hcP := box_cell hbel
          have hR : (cat R1 G G.length).length ≤ 6000 := by have := cat_len R1 G G.length; omega
          obtain ⟨R2, hRe⟩ : ∃ R, cat R1 G G.length = R := ⟨_, rfl⟩
          have hown' := hown.out
          rw [hRe] at hown'
          rw [hRe] at hR
          have HR2 := Lib.hid hRe
          have HO := Lib.hid hown'
          have HB := Lib.hid hbel
          clear hRe hown hown' hbel
          go_wp2_with fail
          clear hcP
          go_loopw [3, 61] (fun l i wx => ∃ (k : Nat) (v : Value), k ≤ H.length ∧ l = v ∧ i = .int .i64 k ∧ Hid (wx.ownsRow (w.heap.size + 1) 28 2 v (cat R2 H k).length (rcells (cat R2 H k))) ∧ Below (w.heap.size + 1) (w.alloc (.cells #[.slice A1 S.length c1, .slice A2 G.length c2, .slice A3 H.length c3, .slice A4 Q.length c4] 26)) wx) (fun _ i _ => H.length - (intOf i).toNat)
          case atStart => exact ⟨0, _, by omega, rfl, rfl, Lib.hid (by have := HO.out; simpa [cat] using this), HB.out⟩
          case round =>
            clear HO HB
            obtain ⟨k, v1, hk, rfl, rfl, hown, hbel⟩ := hrel
            have zr : w.heap.size + 1 ≤ wr.heap.size := by have := hbel.size; simpa using this
            by_cases hlt : k < H.length
            · have d1 : decide ((k : Int) < H.length) = true := by simp; omega
              have p1 : (0 : Int) ≤ k := by omega
              have p2 : (k : Int) < H.length := by omega
              have hs := HP.out.h.below (low hbel)
              obtain ⟨g, o, e1, hg, hc⟩ := hs (by show 0 < H.length; omega)
              obtain rfl := e1
              obtain ⟨a0, a1⟩ := hc k hlt
              have Hs : cat R2 H (k + 1) = snoc (cat R2 H k) H[k] := cat_succ _ _ _ hlt
              simp only at Hs a0 a1
              generalize H[k] = s at Hs a0 a1
              obtain ⟨ho, hn⟩ := s
              have HS := Lib.hid Hs
              clear hs hc Hs
              simp only at a0 a1
              have hb1 : Below wr.heap.size wr ((wr.alloc (.cells #[.string ho, .string hn] 28)).alloc (.cells #[.string ho, .string hn] 28)) := ((Below.refl _ wr).alloc (Nat.le_refl _) _).alloc (by simp) _
              have HX := Lib.hid (own_at hown.out hb1)
              have HBX := Lib.hid (hbel.trans (hb1.mono zr))
              have HL1 := Lib.hid (lit (wr.alloc (.cells #[.string ho, .string hn] 28)) ⟨ho, hn⟩ (wr.heap.size + 1) (by simp))
              have hl : (cat R2 H k).length ≤ 100000 := by have := cat_len R2 H k; omega
              clear hown hbel hb1
              go_wp2_with (at_builtin; refine wp_app1 rfl _ _ rfl (w.heap.size + 1) _ (cat R2 H k) rfl HX.out _ ⟨ho, hn⟩ rfl HL1.out hl (by simp; omega) ?_)
              intro v2 w3 hown3 hg3 hm3
              have HF := Lib.hid hown3
              have HFB := Lib.hid (grown_low HBX.out HX.out hg3 (by simp; omega))
              rw [← HS.out] at HF
              clear hown3 hg3 hm3
              go_wp2_with fail
              go_roundw
              case rel => exact ⟨k + 1, _, by omega, rfl, by go_num, HF, HFB.out⟩
              case measure => simp [intOf]; omega
            · have d1 : decide ((k : Int) < H.length) = false := by simp; omega
              have hkL : k = H.length := by omega
              subst hkL
              have hcP := box_cell hbel
              have hR : (cat R2 H H.length).length ≤ 8000 := by have := cat_len R2 H H.length; omega
              obtain ⟨R3, hRe⟩ : ∃ R, cat R2 H H.length = R := ⟨_, rfl⟩
              have hown' := hown.out
              rw [hRe] at hown'
              rw [hRe] at hR
              have HR3 := Lib.hid hRe
              have HO := Lib.hid hown'
              have HB := Lib.hid hbel
              clear hRe hown hown' hbel
              go_wp2_with fail
              clear hcP
              go_loopw [3, 73] (fun l i wx => ∃ (k : Nat) (v : Value), k ≤ Q.length ∧ l = v ∧ i = .int .i64 k ∧ Hid (wx.ownsRow (w.heap.size + 1) 28 2 v (catQ R3 Q k).length (rcells (catQ R3 Q k))) ∧ Below (w.heap.size + 1) (w.alloc (.cells #[.slice A1 S.length c1, .slice A2 G.length c2, .slice A3 H.length c3, .slice A4 Q.length c4] 26)) wx) (fun _ i _ => Q.length - (intOf i).toNat)
              case atStart => exact ⟨0, _, by omega, rfl, rfl, Lib.hid (by have := HO.out; simpa [catQ, rolesA] using this), HB.out⟩
              case round =>
                clear HO HB
                obtain ⟨k, v1, hk, rfl, rfl, hown, hbel⟩ := hrel
                have zr : w.heap.size + 1 ≤ wr.heap.size := by have := hbel.size; simpa using this
                have hlk := catQ_len R3 Q k
                by_cases hlt : k < Q.length
                · have d1 : decide ((k : Int) < Q.length) = true := by simp; omega
                  have p1 : (0 : Int) ≤ k := by omega
                  have p2 : (k : Int) < Q.length := by omega
                  have hs := HP.out.q.below (low hbel)
                  obtain ⟨g, o, e1, hg, hc⟩ := hs (by show 0 < Q.length; omega)
                  obtain rfl := e1
                  obtain ⟨B, cB, a0, a1, a2, a3, a4, a5, _⟩ := hc k hlt
                  have Hs := rolesA_succ hlt
                  simp only at Hs a0 a1 a2 a3 a4 a5
                  generalize Q[k] = s at Hs a0 a1 a2 a3 a4 a5
                  obtain ⟨qk, ⟨ao, an⟩, ⟨bo, bn⟩, T⟩ := s
                  have HS := Lib.hid Hs
                  clear hs hc Hs
                  simp only at a0 a1 a2 a3 a4 a5
                  have hb1 : Below wr.heap.size wr ((wr.alloc (.cells #[.int .i64 qk, .string ao, .string an, .string bo, .string bn, .slice B T.length cB] 67)).alloc (.cells #[.string ao, .string an] 28)) := ((Below.refl _ wr).alloc (Nat.le_refl _) _).alloc (by simp) _
                  have hap := Apart.of_own hown.out (Nat.le_refl wr.heap.size)
                  have HX := Lib.hid (own_at hown.out hb1)
                  have HBX := Lib.hid (hbel.trans (hb1.mono zr))
                  have HL1 := Lib.hid (lit (wr.alloc (.cells #[.int .i64 qk, .string ao, .string an, .string bo, .string bn, .slice B T.length cB] 67)) ⟨ao, an⟩ (wr.heap.size + 1) (by simp))
                  have hl : (catQ R3 Q k).length ≤ 100000 := by omega
                  clear hown hbel hb1
                  go_wp2_with (at_builtin; refine wp_app1 rfl _ _ rfl (w.heap.size + 1) _ (catQ R3 Q k) rfl HX.out _ ⟨ao, an⟩ rfl HL1.out hl (by simp; omega) ?_)
                  intro v2 w3 hown3 hg3 hm3
                  have hap3 := hap.moves hm3 (by simp; omega)
                  have hD3 : wr.heap.size < w3.heap.size := by have := hg3.size; simp only [World.size_alloc] at this; omega
                  have f : ∀ o u, (#[.int .i64 qk, .string ao, .string an, .string bo, .string bn, .slice B T.length cB] : Array Value)[o]? = some u → w3.cell? ⟨wr.heap.size, o, none⟩ = some u := fun o u hu => by
                    rw [kept hg3 hap (by simp; omega), first_cell]; exact hu
                  have f0 := f 0 _ rfl
                  have f3 := f 3 _ rfl
                  have f4 := f 4 _ rfl
                  have HO3 := Lib.hid hown3
                  have HB3 := Lib.hid (grown_low HBX.out HX.out hg3 (by simp; omega))
                  clear hown3 hg3 hm3 hap HX HBX HL1 f
                  by_cases hq : qk = 5 ∨ qk = 6
                  · have HF1 : Hid (catQ R3 Q (k + 1) = snoc (snoc (catQ R3 Q k) ⟨ao, an⟩) ⟨bo, bn⟩) := Lib.hid (by unfold catQ; rw [HS.out]; unfold QryO.rolesQ hasBk snoc; rw [if_pos (by simpa using hq)]; simp)
                    have hb4 : Below w3.heap.size w3 (w3.alloc (.cells #[.string bo, .string bn] 28)) := (Below.refl _ _).alloc (Nat.le_refl _) _
                    have zr3 : w.heap.size + 1 ≤ w3.heap.size := by omega
                    have HO4 := Lib.hid (own_at HO3.out hb4)
                    have HB4 := Lib.hid (HB3.out.trans (hb4.mono zr3))
                    have HL4 := Lib.hid (lit w3 ⟨bo, bn⟩ w3.heap.size rfl)
                    have hl4 : (snoc (catQ R3 Q k) ⟨ao, an⟩).length ≤ 100000 := by rw [snoc_len]; omega
                    clear hb4 HS
                    rcases hq with rfl | rfl
                    all_goals
                      go_wp2_with (at_builtin; refine wp_app1 rfl _ _ rfl (w.heap.size + 1) _ (snoc (catQ R3 Q k) ⟨ao, an⟩) rfl HO4.out _ ⟨bo, bn⟩ rfl HL4.out hl4 (by simp; omega) ?_)
                      intro v4 w5 hown5 hg5 hm5
                      have HF := Lib.hid hown5
                      have HFB := Lib.hid (grown_low HB4.out HO4.out hg5 (by simp; omega))
                      rw [← HF1.out] at HF
                      clear hown5 hg5 hm5 f0 f3 f4
                      go_wp2_with fail
                      go_roundw
                      case rel => exact ⟨k + 1, _, by omega, rfl, by go_num, HF, HFB.out⟩
                      case measure => simp [intOf]; omega
                  · have HF1 : Hid (catQ R3 Q (k + 1) = snoc (catQ R3 Q k) ⟨ao, an⟩) := Lib.hid (by unfold catQ; rw [HS.out]; unfold QryO.rolesQ hasBk snoc; rw [if_neg (by simpa using hq)]; simp)
                    have hd5 : (qk == 5) = false := by simp; omega
                    have hd6 : (qk == 6) = false := by simp; omega
                    have HF := Lib.hid HO3.out
                    rw [← HF1.out] at HF
                    clear hq HS
                    go_wp2_with fail
                    go_roundw
                    case rel => exact ⟨k + 1, _, by omega, rfl, by go_num, HF, HB3.out⟩
                    case measure => simp [intOf]; omega
                · have d1 : decide ((k : Int) < Q.length) = false := by simp; omega
                  have hkQ : k = Q.length := by omega
                  subst hkQ
                  obtain ⟨A', c', rfl, hrat⟩ := rat_own hown.out
                  have hE : catQ R3 Q Q.length = rolesS S S.length ++ G ++ H ++ rolesA Q Q.length := by
                    unfold catQ; rw [← HR3.out, ← HR2.out, ← HR1.out]; simp [cat]
                  have hfin : Hid (RAt wr A' (rolesS S S.length ++ G ++ H ++ rolesA Q Q.length) ∧ (catQ R3 Q Q.length).length = (rolesS S S.length ++ G ++ H ++ rolesA Q Q.length).length) := Lib.hid (by rw [← hE]; exact ⟨hrat, rfl⟩)
                  have hlow := Lib.hid (low hbel)
                  clear hrat hown hbel hE
                  go_wp2_with fail
                  go_ret
                  exact ⟨A', c', by rw [← hfin.out.2]; rfl, hfin.out.1, hlow.out⟩
end Go.Proofs.YtcmdiomjhideiaaGreatDoor.RefRo
/- All principals, and all names, that a policy names: policy.Prins and Names, by contract. -/
namespace Go.Proofs.YtcmdiomjhideiaaGreatDoor.PolH
set_option linter.unusedVariables false
set_option linter.unusedSimpArgs false
open Go.RowKit Go.Sort Go.Lib Go.Proofs Go.Proofs.YtcmdiomjhideiaaGreatDoor.Plain Go.Proofs.YtcmdiomjhideiaaGreatDoor.SynP Go.Proofs.YtcmdiomjhideiaaGreatDoor.TabP Go.Proofs.YtcmdiomjhideiaaGreatDoor.Tab1 Go.Proofs.YtcmdiomjhideiaaGreatDoor.Tab5 Go.Proofs.YtcmdiomjhideiaaGreatDoor.Grown Go.Proofs.YtcmdiomjhideiaaGreatDoor.SynC Go.Proofs.YtcmdiomjhideiaaGreatDoor.SynJ Go.Proofs.YtcmdiomjhideiaaGreatDoor.QryP Go.Proofs.YtcmdiomjhideiaaGreatDoor.PolA Go.Proofs.YtcmdiomjhideiaaGreatDoor.PolE Go.Proofs.YtcmdiomjhideiaaGreatDoor.PolG
set_option linter.unusedVariables false
set_option linter.unusedSimpArgs false
def bt (x : ByteArray) : Str := x.data.toList
theorem enc_bt (x : ByteArray) : encStr (bt x) = .string x := by
  show Value.string ⟨(bt x).toArray⟩ = _
  unfold bt; rfl
theorem tab_all {w : World} {B : Nat} {p : Value} {T : List Str} (h : TabAt w B p T) (hT : T.length ≤ 1000000) : Calls Tryz.prog 27 #[p] w (RowPost T w) := by
  obtain ⟨t, v, rfl, _, hh, hown⟩ := h
  obtain ⟨A, c, rfl, _, hr⟩ := SRow.of_own hown
  exact Tab7.all t A T c w (by rw [Lib.cell_of_heap hh]; rfl) hT hr
theorem srow_none_len {w : World} {T : List Str} (h : SRow w none T) : T.length = 0 := by
  rcases Nat.eq_zero_or_pos T.length with h0 | h0
  · exact h0
  · obtain ⟨_, _, e, _⟩ := h h0; cases e
theorem srow_cells {w : World} {A : Option Addr} {T : List Str} (h : SRow w A T) : ∀ ad, A = some ad → ∀ j u, (T.map encStr)[j]? = some u → w.cell? (ad.add j) = some u := by
  rintro ad rfl j u hu
  have hj : j < T.length := by
    rcases Nat.lt_or_ge j T.length with h | h
    · exact h
    · rw [List.getElem?_eq_none (by simpa using h)] at hu; cases hu
  obtain ⟨g, o, e, _, hc⟩ := h (by omega)
  injection e with e
  subst e
  rw [add_off, hc j hj, ← hu, List.getElem?_map, List.getElem?_eq_getElem hj]; rfl
theorem enc_one (T : List Str) : ∀ u ∈ T.map encStr, u.oneCell' = true := by
  intro u hu
  obtain ⟨x, _, rfl⟩ := List.mem_map.1 hu
  rfl
theorem one_src {X : World} {n : Nat} (hn : X.heap.size = n) (x : ByteArray) (t : TypeId) : ∀ ad, some (⟨n, 0, none⟩ : Addr) = some ad → ∀ j u, [Value.string x][j]? = some u → (X.alloc (.cells #[.string x] t)).cell? (ad.add j) = some u := by
  subst hn
  rintro ad e j u hu
  injection e with e
  subst e
  rw [add_off, Nat.zero_add, Lib.cell_of_heap (heap_alloc_new X _)]
  match j, hu with
  | 0, hu => exact hu
def ownersR (R : List Rl) (k : Nat) : List Str := (R.take k).map fun r => bt r.owner
def namesR (R : List Rl) (k : Nat) : List Str := (R.take k).map fun r => bt r.name
theorem ownersR_succ {R : List Rl} {k : Nat} (h : k < R.length) : ownersR R (k + 1) = ownersR R k ++ [bt R[k].owner] := by
  unfold ownersR; rw [List.take_succ_eq_append_getElem h, List.map_append, List.map_singleton]
theorem namesR_succ {R : List Rl} {k : Nat} (h : k < R.length) : namesR R (k + 1) = namesR R k ++ [bt R[k].name] := by
  unfold namesR; rw [List.take_succ_eq_append_getElem h, List.map_append, List.map_singleton]
theorem ownersR_len (R : List Rl) (k : Nat) : (ownersR R k).length ≤ R.length := by unfold ownersR; simp; omega
theorem namesR_len (R : List Rl) (k : Nat) : (namesR R k).length ≤ R.length := by unfold namesR; simp; omega
def whosS (L : List St) (k : Nat) : List Str := ((L.take k).filter fun s => decide (s.kind = 1)).map fun s => bt s.who
def viasS (L : List St) (k : Nat) : List Str := ((L.take k).filter fun s => decide (s.kind = 3)).map fun s => bt s.via
theorem whosS_yes {L : List St} {k : Nat} (h : k < L.length) (hk : L[k].kind = 1) : whosS L (k + 1) = whosS L k ++ [bt L[k].who] := by
  unfold whosS
  have e : List.filter (fun s : St => decide (s.kind = 1)) [L[k]] = [L[k]] := by simp [hk]
  rw [List.take_succ_eq_append_getElem h, List.filter_append, e, List.map_append, List.map_singleton]
theorem whosS_no {L : List St} {k : Nat} (h : k < L.length) (hk : ¬ L[k].kind = 1) : whosS L (k + 1) = whosS L k := by
  unfold whosS
  have e : List.filter (fun s : St => decide (s.kind = 1)) [L[k]] = [] := by simp [hk]
  rw [List.take_succ_eq_append_getElem h, List.filter_append, e, List.append_nil]
theorem viasS_yes {L : List St} {k : Nat} (h : k < L.length) (hk : L[k].kind = 3) : viasS L (k + 1) = viasS L k ++ [bt L[k].via] := by
  unfold viasS
  have e : List.filter (fun s : St => decide (s.kind = 3)) [L[k]] = [L[k]] := by simp [hk]
  rw [List.take_succ_eq_append_getElem h, List.filter_append, e, List.map_append, List.map_singleton]
theorem viasS_no {L : List St} {k : Nat} (h : k < L.length) (hk : ¬ L[k].kind = 3) : viasS L (k + 1) = viasS L k := by
  unfold viasS
  have e : List.filter (fun s : St => decide (s.kind = 3)) [L[k]] = [] := by simp [hk]
  rw [List.take_succ_eq_append_getElem h, List.filter_append, e, List.append_nil]
theorem whosS_len (L : List St) (k : Nat) : (whosS L k).length ≤ L.length := by
  unfold whosS
  have := List.length_filter_le (fun s : St => decide (s.kind = 1)) (L.take k)
  simp at this ⊢; omega
theorem viasS_len (L : List St) (k : Nat) : (viasS L k).length ≤ L.length := by
  unfold viasS
  have := List.length_filter_le (fun s : St => decide (s.kind = 3)) (L.take k)
  simp at this ⊢; omega
def whosA (L : List Qy) (k : Nat) : List Str := ((L.take k).map Qy.who).flatten
theorem whosA_succ {L : List Qy} {k : Nat} (h : k < L.length) : whosA L (k + 1) = whosA L k ++ L[k].who := by
  unfold whosA
  rw [List.take_succ_eq_append_getElem h, List.map_append, List.flatten_append, List.map_singleton, List.flatten_singleton]
theorem whosA_len {L : List Qy} (hq : ∀ q ∈ L, q.who.length ≤ 100) : ∀ k, (whosA L k).length ≤ k * 100
  | 0 => by simp [whosA]
  | k + 1 => by
    have ih := whosA_len hq k
    rcases Nat.lt_or_ge k L.length with h | h
    · have := hq L[k] (List.getElem_mem _)
      rw [whosA_succ h, List.length_append]; omega
    · have : whosA L (k + 1) = whosA L k := by unfold whosA; rw [List.take_of_length_le (by omega), List.take_of_length_le (by omega)]
      rw [this]; omega
theorem rolesP_len {p : Py} (hf : p.fit) : (rolesP p).length ≤ 7000 := by
  have a := rolesS_len p.stmts p.stmts.length
  have b := rolesA_len p.asks p.asks.length
  have := hf.n1
  have := hf.n2
  have := hf.n3
  have := hf.n4
  unfold rolesP; simp; omega
def prinsT (p : Py) : List Str := ownersR (rolesP p) (rolesP p).length ++ whosS p.stmts p.stmts.length ++ whosA p.asks p.asks.length
def namesT (p : Py) : List Str := namesR (rolesP p) (rolesP p).length ++ viasS p.stmts p.stmts.length
set_option maxHeartbeats 2000000 in
set_option maxRecDepth 100000 in
theorem prins (p : Py) (A1 A2 A3 A4 : Option Addr) (c1 c2 c3 c4 : Nat) (w : World) (hf : p.fit) (hp : PG w A1 A2 A3 A4 p) : Calls Tryz.prog 94 #[p.val A1 A2 A3 A4 c1 c2 c3 c4] w (RowPost (tab (prinsT p)) w) := by
  obtain ⟨i0, hi, hz0, hz1, hz2⟩ := info_parts Tab3.infoStr
  have HRO := Lib.hid (fun w' h => PolG.roles p A1 A2 A3 A4 c1 c2 c3 c4 w' hf h)
  have hRl := rolesP_len hf
  have hal := whosA_len hf.f5
  have n1 := hf.n1
  have n4 := hf.n4
  have HP := Lib.hid hp
  obtain ⟨TT, hTT⟩ : ∃ TT, prinsT p = TT := ⟨_, rfl⟩
  rw [hTT]
  unfold prinsT at hTT
  have HT := Lib.hid hTT
  clear hTT
  generalize hRR : rolesP p = R at *
  unfold RolesP at HRO
  rw [hRR] at HRO
  obtain ⟨S, G, H, Q⟩ := p
  simp only at n1 n4 HT hal
  have HAL := Lib.hid hal
  clear hp hf hRR hal
  unfold Py.val at *
  simp only at HRO ⊢
  go_enter Tryz.func94, Tryz.ntmps94
  go_wp2_with fail
  refine (HRO.out _ (HP.out.below ((Below.refl _ _).alloc (Nat.le_refl _) _))).mono ?_
  rintro e w1 ⟨A, cA, rfl, hrat, hb1⟩
  have hcP1 : ∀ o, w1.cell? ⟨w.heap.size, o, none⟩ = (#[.slice A1 S.length c1, .slice A2 G.length c2, .slice A3 H.length c3, .slice A4 Q.length c4] : Array Value)[o]? := fun o => by rw [hb1.cell (by simp), Lib.cell_of_heap (heap_alloc_new w _)]
  have z1 : w.heap.size + 1 ≤ w1.heap.size := by have := hb1.size; simpa using this
  have hb01 : Below w.heap.size w w1 := ((Below.refl w.heap.size w).alloc (Nat.le_refl _) _).trans (hb1.mono (by simp))
  have HPW := Lib.hid (fun (wr : World) (h : Below w1.heap.size w1 wr) => (HP.out.below (hb01.trans (h.mono (by omega)))))
  have HCP := Lib.hid (fun (wr : World) (h : Below w1.heap.size w1 wr) (o : Nat) => (h.cell (p := ⟨w.heap.size, o, none⟩) (by show w.heap.size < _; omega)).trans (hcP1 o))
  have HRT := Lib.hid (RG.of_rat hrat)
  have HB0 := Lib.hid hb01
  clear hrat hb1 hb01 hcP1 HP
  go_wp2_with fail
  go_loopw [3, 13] (fun l i wr => ∃ (k : Nat) (v : Value), k ≤ R.length ∧ l = v ∧ i = .int .i64 k ∧ Hid (wr.ownsRow w1.heap.size 9 1 v (ownersR R k).length ((ownersR R k).map encStr)) ∧ Below w1.heap.size w1 wr) (fun _ i _ => R.length - (intOf i).toNat)
  case atStart => exact ⟨0, _, by omega, rfl, rfl, Lib.hid (World.ownsRow_nil _ _ _ _), Below.refl _ _⟩
  case round =>
    obtain ⟨k, v1, hk, rfl, rfl, hown, hbel⟩ := hrel
    have zr := hbel.size
    have hlk := ownersR_len R k
    by_cases hlt : k < R.length
    · have d1 : decide ((k : Int) < R.length) = true := by simp; omega
      have p1 : (0 : Int) ≤ k := by omega
      have p2 : (k : Int) < R.length := by omega
      obtain ⟨g, o, e1, hg, hc⟩ := (HRT.out.below hbel) (by omega)
      obtain rfl := e1
      obtain ⟨a0, a1⟩ := hc k hlt
      have Hs := Lib.hid (ownersR_succ hlt)
      have hb2 : Below wr.heap.size wr ((wr.alloc (.cells #[.string R[k].owner, .string R[k].name] 28)).alloc (.cells #[.string R[k].owner] 9)) := ((Below.refl _ wr).alloc (Nat.le_refl _) _).alloc (by simp) _
      have hownW := own_at hown.out hb2
      have hbelW := hbel.trans (hb2.mono zr)
      have zW : w1.heap.size ≤ ((wr.alloc (.cells #[.string R[k].owner, .string R[k].name] 28)).alloc (.cells #[.string R[k].owner] 9)).heap.size := by simp; omega
      have H1 := Lib.hid (one_src (X := wr.alloc (.cells #[.string R[k].owner, .string R[k].name] 28)) (n := wr.heap.size + 1) (by simp) R[k].owner 9)
      clear hc hb2 hown hbel
      go_wp2_with (at_builtin; refine wpList_append_from _ rfl _ _ 41 rfl w1.heap.size 9 i0 (.string ⟨#[]⟩) 1 16 Tryz.underlying41 hi hz0 hz1 hz2 rfl (by decide) _ _ _ rfl hownW (some ⟨wr.heap.size + 1, 0, none⟩) 1 1 [Value.string R[k].owner] rfl rfl (fun h => by cases h) H1.out (fun u hu => by simp at hu; subst hu; rfl) (by unfold maxLen; first | omega | (simp only [List.length_append]; omega)) (by first | omega | (simp only [List.length_append]; omega)) zW ?_)
      intro v2 w3 hown3 hgrow
      have hbel3 := hbelW.grown hgrow (by simpa using zW) (fun k hk => (hownW.lt k hk).1)
      have HO4 : Hid (w3.ownsRow w1.heap.size 9 1 v2 (ownersR R (k + 1)).length ((ownersR R (k + 1)).map encStr)) := Lib.hid (by
        rw [Hs.out, List.length_append, List.map_append]; simpa [enc_bt] using hown3)
      clear hownW hbelW hgrow hown3
      go_wp2_with fail
      go_roundw
      case rel => exact ⟨k + 1, v2, by omega, rfl, by go_num, HO4, hbel3⟩
      case measure => simp [intOf]; omega
    · have d1 : decide ((k : Int) < R.length) = false := by simp; omega
      have hkR : k = R.length := by omega
      subst hkR
      have hcP := HCP.out _ hbel
      obtain ⟨T0, hT0⟩ : ∃ T0, ownersR R R.length = T0 := ⟨_, rfl⟩
      rw [hT0] at hown HT hlk
      have HO := hown
      have HB := Lib.hid hbel
      clear hT0 hown hbel
      go_wp2_with fail
      clear hcP
      go_loopw [3, 26] (fun l i wr => ∃ (k : Nat) (v : Value), k ≤ S.length ∧ l = v ∧ i = .int .i64 k ∧ Hid (wr.ownsRow w1.heap.size 9 1 v (T0 ++ whosS S k).length ((T0 ++ whosS S k).map encStr)) ∧ Below w1.heap.size w1 wr) (fun _ i _ => S.length - (intOf i).toNat)
      case atStart => exact ⟨0, _, by omega, rfl, rfl, by simpa [whosS] using HO, HB.out⟩
      case round =>
        obtain ⟨k, v1, hk, rfl, rfl, hown, hbel⟩ := hrel
        have zr := hbel.size
        have hls := whosS_len S k
        by_cases hlt : k < S.length
        · have d1 : decide ((k : Int) < S.length) = true := by simp; omega
          have p1 : (0 : Int) ≤ k := by omega
          have p2 : (k : Int) < S.length := by omega
          obtain ⟨g, o, e1, hg, hc⟩ := (HPW.out _ hbel).s (by show 0 < S.length; omega)
          obtain rfl := e1
          obtain ⟨a0, a1, a2, a3, a4, a5, a6, a7, a8⟩ := hc k hlt
          by_cases hkd : S[k].kind = 1
          · have Hs := Lib.hid (whosS_yes hlt hkd)
            have d2 : (S[k].kind == 1) = true := by simp [hkd]
            have hb2 : Below wr.heap.size wr ((wr.alloc (.cells #[.int .i64 S[k].kind, .string S[k].head.owner, .string S[k].head.name, .string S[k].who, .string S[k].a.owner, .string S[k].a.name, .string S[k].b.owner, .string S[k].b.name, .string S[k].via] 55)).alloc (.cells #[.string S[k].who] 9)) := ((Below.refl _ wr).alloc (Nat.le_refl _) _).alloc (by simp) _
            have hownW := own_at hown.out hb2
            have hbelW := hbel.trans (hb2.mono zr)
            have zW : w1.heap.size ≤ ((wr.alloc (.cells #[.int .i64 S[k].kind, .string S[k].head.owner, .string S[k].head.name, .string S[k].who, .string S[k].a.owner, .string S[k].a.name, .string S[k].b.owner, .string S[k].b.name, .string S[k].via] 55)).alloc (.cells #[.string S[k].who] 9)).heap.size := by simp; omega
            have H1 := Lib.hid (one_src (X := wr.alloc (.cells #[.int .i64 S[k].kind, .string S[k].head.owner, .string S[k].head.name, .string S[k].who, .string S[k].a.owner, .string S[k].a.name, .string S[k].b.owner, .string S[k].b.name, .string S[k].via] 55)) (n := wr.heap.size + 1) (by simp) S[k].who 9)
            clear hc hb2 hown hbel hkd
            go_wp2_with (at_builtin; refine wpList_append_from _ rfl _ _ 41 rfl w1.heap.size 9 i0 (.string ⟨#[]⟩) 1 16 Tryz.underlying41 hi hz0 hz1 hz2 rfl (by decide) _ _ _ rfl hownW (some ⟨wr.heap.size + 1, 0, none⟩) 1 1 [Value.string S[k].who] rfl rfl (fun h => by cases h) H1.out (fun u hu => by simp at hu; subst hu; rfl) (by unfold maxLen; first | omega | (simp only [List.length_append]; omega)) (by first | omega | (simp only [List.length_append]; omega)) zW ?_)
            intro v2 w3 hown3 hgrow
            have hbel3 := hbelW.grown hgrow (by simpa using zW) (fun k hk => (hownW.lt k hk).1)
            have HO4 : Hid (w3.ownsRow w1.heap.size 9 1 v2 (T0 ++ whosS S (k + 1)).length ((T0 ++ whosS S (k + 1)).map encStr)) := Lib.hid (by
              rw [Hs.out, ← List.append_assoc, List.length_append, List.length_append, List.map_append]; simpa [enc_bt] using hown3)
            clear hownW hbelW hgrow hown3
            go_wp2_with fail
            go_roundw
            case rel => exact ⟨k + 1, v2, by omega, rfl, by go_num, HO4, hbel3⟩
            case measure => simp [intOf]; omega
          · have HO4 := hown
            rw [← whosS_no hlt hkd] at HO4
            have d2 : (S[k].kind == 1) = false := by simpa using hkd
            have HOB := Lib.hid (own_at HO4.out ((Below.refl _ wr).alloc (Nat.le_refl _) (.cells #[.int .i64 S[k].kind, .string S[k].head.owner, .string S[k].head.name, .string S[k].who, .string S[k].a.owner, .string S[k].a.name, .string S[k].b.owner, .string S[k].b.name, .string S[k].via] 55)))
            have hbelW := hbel.alloc zr (.cells #[.int .i64 S[k].kind, .string S[k].head.owner, .string S[k].head.name, .string S[k].who, .string S[k].a.owner, .string S[k].a.name, .string S[k].b.owner, .string S[k].b.name, .string S[k].via] 55)
            clear hc hown hbel hkd HO4
            go_wp2_with fail
            go_roundw
            case rel => exact ⟨k + 1, _, by omega, rfl, by go_num, HOB, hbelW⟩
            case measure => simp [intOf]; omega
        · have d1 : decide ((k : Int) < S.length) = false := by simp; omega
          have hkS : k = S.length := by omega
          subst hkS
          have hcP := HCP.out _ hbel
          have hl1 : (T0 ++ whosS S S.length).length ≤ 8000 := by simp; omega
          obtain ⟨T1, hT1⟩ : ∃ T1, T0 ++ whosS S S.length = T1 := ⟨_, rfl⟩
          rw [hT1] at hown HT hl1
          have HO1 := hown
          have HB1 := Lib.hid hbel
          clear hT1 hown hbel HO HB
          go_wp2_with fail
          clear hcP
          go_loopw [3, 42] (fun l i wr => ∃ (k : Nat) (v : Value), k ≤ Q.length ∧ l = v ∧ i = .int .i64 k ∧ Hid (wr.ownsRow w1.heap.size 9 1 v (T1 ++ whosA Q k).length ((T1 ++ whosA Q k).map encStr)) ∧ Below w1.heap.size w1 wr) (fun _ i _ => Q.length - (intOf i).toNat)
          case atStart => exact ⟨0, _, by omega, rfl, rfl, by simpa [whosA] using HO1, HB1.out⟩
          case round =>
            obtain ⟨k, v1, hk, rfl, rfl, hown, hbel⟩ := hrel
            have zr := hbel.size
            have hlq := HAL.out k
            by_cases hlt : k < Q.length
            · have d1 : decide ((k : Int) < Q.length) = true := by simp; omega
              have p1 : (0 : Int) ≤ k := by omega
              have p2 : (k : Int) < Q.length := by omega
              have hlq2 := HAL.out (k + 1)
              rw [whosA_succ hlt, List.length_append] at hlq2
              obtain ⟨g, o, e1, hg, hc⟩ := (HPW.out _ hbel).q (by show 0 < Q.length; omega)
              obtain rfl := e1
              obtain ⟨B, cB, a0, a1, a2, a3, a4, a5, hrow⟩ := hc k hlt
              have HR : Hid (∀ w', SRow w' B Q[k].who → Calls Tryz.prog 144 #[.agg #[.int .i64 Q[k].kind, .string Q[k].a.owner, .string Q[k].a.name, .string Q[k].b.owner, .string Q[k].b.name, .slice B Q[k].who.length cB]] w' (QryO.PrinsPost Q[k].who w')) := Lib.hid (fun w' hr => QryO.prins Q[k] B cB w' (by omega) hr)
              have Hs := Lib.hid (whosA_succ hlt)
              have HRow := Lib.hid (hrow.keep ((Below.refl _ wr).alloc (Nat.le_refl _) (.cells #[.int .i64 Q[k].kind, .string Q[k].a.owner, .string Q[k].a.name, .string Q[k].b.owner, .string Q[k].b.name, .slice B Q[k].who.length cB] 67)))
              clear hc hrow
              go_wp2_with fail
              refine (HR.out _ HRow.out).mono ?_
              rintro e w2 ⟨A5, c5, rfl, hr, hg2⟩
              have hb2 : Below wr.heap.size wr w2 := ((Below.refl _ wr).alloc (Nat.le_refl _) _).trans (hg2.mono (by simp))
              have hownW := own_at hown.out hb2
              have hbelW := hbel.trans (hb2.mono zr)
              have zW : w1.heap.size ≤ w2.heap.size := by have := hb2.size; omega
              have H0 := Lib.hid (fun h : A5 = none => by rw [h] at hr; exact srow_none_len hr)
              have H1 := Lib.hid (srow_cells hr)
              clear hr hg2 hb2 hown hbel a0 a1 a2 a3 a4 a5
              go_wp2_with (at_builtin; refine wpList_append_from _ rfl _ _ 41 rfl w1.heap.size 9 i0 (.string ⟨#[]⟩) 1 16 Tryz.underlying41 hi hz0 hz1 hz2 rfl (by decide) _ _ _ rfl hownW A5 Q[k].who.length c5 (Q[k].who.map encStr) rfl (by simp) H0.out H1.out (enc_one _) (by unfold maxLen; first | omega | (simp only [List.length_append]; omega)) (by first | omega | (simp only [List.length_append]; omega)) zW ?_)
              intro v2 w3 hown3 hgrow
              have hbel3 := hbelW.grown hgrow (by simpa using zW) (fun k hk => (hownW.lt k hk).1)
              have HO4 : Hid (w3.ownsRow w1.heap.size 9 1 v2 (T1 ++ whosA Q (k + 1)).length ((T1 ++ whosA Q (k + 1)).map encStr)) := Lib.hid (by
                rw [Hs.out, ← List.append_assoc, List.length_append, List.length_append, List.map_append, List.map_append]; simpa using hown3)
              clear hownW hbelW hgrow hown3
              go_wp2_with fail
              go_roundw
              case rel => exact ⟨k + 1, v2, by omega, rfl, by go_num, HO4, hbel3⟩
              case measure => simp [intOf]; omega
            · have d1 : decide ((k : Int) < Q.length) = false := by simp; omega
              have hkQ : k = Q.length := by omega
              subst hkQ
              obtain ⟨A', c', rfl, _, hrow⟩ := SRow.of_own hown.out
              have HN := Lib.hid (Tab1.new A' c' (T1 ++ whosA Q Q.length) wr (by simp; omega) hrow)
              have HTT : Hid (T1 ++ whosA Q Q.length = TT) := HT
              have hlen : (T1 ++ whosA Q Q.length).length ≤ 1000000 := by simp; omega
              have HB2 := Lib.hid (HB0.out.trans (hbel.mono (by omega : w.heap.size ≤ w1.heap.size)))
              generalize T1 ++ whosA Q Q.length = TL at *
              obtain rfl := HTT.out
              have zq := HB2.out.size
              clear hrow hown hbel HTT
              go_wp2_with fail
              refine HN.out.mono ?_
              rintro e w4 ⟨q, rfl, htab, hb4⟩
              have HA := Lib.hid (tab_all htab (Nat.le_trans (tab_len_le _) hlen))
              clear htab
              go_wp2_with fail
              refine HA.out.mono ?_
              rintro e w5 ⟨v5, rfl, hown5, hb5⟩
              have hfin : w5.ownsRow w.heap.size 9 1 v5 (tab TL).length ((tab TL).map encStr) := SynH.own_base hown5 (by have := hb4.size; omega)
              have hbf := HB2.out.trans ((hb4.trans (hb5.mono hb4.size)).mono zq)
              clear hown5 hb4 hb5
              go_wp2_with fail
              go_ret
              exact ⟨v5, rfl, hfin, hbf⟩
set_option maxHeartbeats 2000000 in
set_option maxRecDepth 100000 in
theorem names (p : Py) (A1 A2 A3 A4 : Option Addr) (c1 c2 c3 c4 : Nat) (w : World) (hf : p.fit) (hp : PG w A1 A2 A3 A4 p) : Calls Tryz.prog 97 #[p.val A1 A2 A3 A4 c1 c2 c3 c4] w (RowPost (tab (namesT p)) w) := by
  obtain ⟨i0, hi, hz0, hz1, hz2⟩ := info_parts Tab3.infoStr
  have HRO := Lib.hid (fun w' h => PolG.roles p A1 A2 A3 A4 c1 c2 c3 c4 w' hf h)
  have hRl := rolesP_len hf
  have hal := whosA_len hf.f5
  have n1 := hf.n1
  have n4 := hf.n4
  have HP := Lib.hid hp
  obtain ⟨TT, hTT⟩ : ∃ TT, namesT p = TT := ⟨_, rfl⟩
  rw [hTT]
  unfold namesT at hTT
  have HT := Lib.hid hTT
  clear hTT
  generalize hRR : rolesP p = R at *
  unfold RolesP at HRO
  rw [hRR] at HRO
  obtain ⟨S, G, H, Q⟩ := p
  simp only at n1 n4 HT hal
  have HAL := Lib.hid hal
  clear hp hf hRR hal
  unfold Py.val at *
  simp only at HRO ⊢
  go_enter Tryz.func97, Tryz.ntmps97
  go_wp2_with fail
  refine (HRO.out _ (HP.out.below ((Below.refl _ _).alloc (Nat.le_refl _) _))).mono ?_
  rintro e w1 ⟨A, cA, rfl, hrat, hb1⟩
  have hcP1 : ∀ o, w1.cell? ⟨w.heap.size, o, none⟩ = (#[.slice A1 S.length c1, .slice A2 G.length c2, .slice A3 H.length c3, .slice A4 Q.length c4] : Array Value)[o]? := fun o => by rw [hb1.cell (by simp), Lib.cell_of_heap (heap_alloc_new w _)]
  have z1 : w.heap.size + 1 ≤ w1.heap.size := by have := hb1.size; simpa using this
  have hb01 : Below w.heap.size w w1 := ((Below.refl w.heap.size w).alloc (Nat.le_refl _) _).trans (hb1.mono (by simp))
  have HPW := Lib.hid (fun (wr : World) (h : Below w1.heap.size w1 wr) => (HP.out.below (hb01.trans (h.mono (by omega)))))
  have HCP := Lib.hid (fun (wr : World) (h : Below w1.heap.size w1 wr) (o : Nat) => (h.cell (p := ⟨w.heap.size, o, none⟩) (by show w.heap.size < _; omega)).trans (hcP1 o))
  have HRT := Lib.hid (RG.of_rat hrat)
  have HB0 := Lib.hid hb01
  clear hrat hb1 hb01 hcP1 HP
  go_wp2_with fail
  go_loopw [3, 11] (fun l i wr => ∃ (k : Nat) (v : Value), k ≤ R.length ∧ l = v ∧ i = .int .i64 k ∧ Hid (wr.ownsRow w1.heap.size 9 1 v (namesR R k).length ((namesR R k).map encStr)) ∧ Below w1.heap.size w1 wr) (fun _ i _ => R.length - (intOf i).toNat)
  case atStart => exact ⟨0, _, by omega, rfl, rfl, Lib.hid (World.ownsRow_nil _ _ _ _), Below.refl _ _⟩
  case round =>
    obtain ⟨k, v1, hk, rfl, rfl, hown, hbel⟩ := hrel
    have zr := hbel.size
    have hlk := namesR_len R k
    by_cases hlt : k < R.length
    · have d1 : decide ((k : Int) < R.length) = true := by simp; omega
      have p1 : (0 : Int) ≤ k := by omega
      have p2 : (k : Int) < R.length := by omega
      obtain ⟨g, o, e1, hg, hc⟩ := (HRT.out.below hbel) (by omega)
      obtain rfl := e1
      obtain ⟨a0, a1⟩ := hc k hlt
      have Hs := Lib.hid (namesR_succ hlt)
      have hb2 : Below wr.heap.size wr ((wr.alloc (.cells #[.string R[k].owner, .string R[k].name] 28)).alloc (.cells #[.string R[k].name] 9)) := ((Below.refl _ wr).alloc (Nat.le_refl _) _).alloc (by simp) _
      have hownW := own_at hown.out hb2
      have hbelW := hbel.trans (hb2.mono zr)
      have zW : w1.heap.size ≤ ((wr.alloc (.cells #[.string R[k].owner, .string R[k].name] 28)).alloc (.cells #[.string R[k].name] 9)).heap.size := by simp; omega
      have H1 := Lib.hid (one_src (X := wr.alloc (.cells #[.string R[k].owner, .string R[k].name] 28)) (n := wr.heap.size + 1) (by simp) R[k].name 9)
      clear hc hb2 hown hbel
      go_wp2_with (at_builtin; refine wpList_append_from _ rfl _ _ 41 rfl w1.heap.size 9 i0 (.string ⟨#[]⟩) 1 16 Tryz.underlying41 hi hz0 hz1 hz2 rfl (by decide) _ _ _ rfl hownW (some ⟨wr.heap.size + 1, 0, none⟩) 1 1 [Value.string R[k].name] rfl rfl (fun h => by cases h) H1.out (fun u hu => by simp at hu; subst hu; rfl) (by unfold maxLen; first | omega | (simp only [List.length_append]; omega)) (by first | omega | (simp only [List.length_append]; omega)) zW ?_)
      intro v2 w3 hown3 hgrow
      have hbel3 := hbelW.grown hgrow (by simpa using zW) (fun k hk => (hownW.lt k hk).1)
      have HO4 : Hid (w3.ownsRow w1.heap.size 9 1 v2 (namesR R (k + 1)).length ((namesR R (k + 1)).map encStr)) := Lib.hid (by
        rw [Hs.out, List.length_append, List.map_append]; simpa [enc_bt] using hown3)
      clear hownW hbelW hgrow hown3
      go_wp2_with fail
      go_roundw
      case rel => exact ⟨k + 1, v2, by omega, rfl, by go_num, HO4, hbel3⟩
      case measure => simp [intOf]; omega
    · have d1 : decide ((k : Int) < R.length) = false := by simp; omega
      have hkR : k = R.length := by omega
      subst hkR
      have hcP := HCP.out _ hbel
      obtain ⟨T0, hT0⟩ : ∃ T0, namesR R R.length = T0 := ⟨_, rfl⟩
      rw [hT0] at hown HT hlk
      have HO := hown
      have HB := Lib.hid hbel
      clear hT0 hown hbel
      go_wp2_with fail
      clear hcP
      go_loopw [3, 24] (fun l i wr => ∃ (k : Nat) (v : Value), k ≤ S.length ∧ l = v ∧ i = .int .i64 k ∧ Hid (wr.ownsRow w1.heap.size 9 1 v (T0 ++ viasS S k).length ((T0 ++ viasS S k).map encStr)) ∧ Below w1.heap.size w1 wr) (fun _ i _ => S.length - (intOf i).toNat)
      case atStart => exact ⟨0, _, by omega, rfl, rfl, by simpa [viasS] using HO, HB.out⟩
      case round =>
        obtain ⟨k, v1, hk, rfl, rfl, hown, hbel⟩ := hrel
        have zr := hbel.size
        have hls := viasS_len S k
        by_cases hlt : k < S.length
        · have d1 : decide ((k : Int) < S.length) = true := by simp; omega
          have p1 : (0 : Int) ≤ k := by omega
          have p2 : (k : Int) < S.length := by omega
          obtain ⟨g, o, e1, hg, hc⟩ := (HPW.out _ hbel).s (by show 0 < S.length; omega)
          obtain rfl := e1
          obtain ⟨a0, a1, a2, a3, a4, a5, a6, a7, a8⟩ := hc k hlt
          by_cases hkd : S[k].kind = 3
          · have Hs := Lib.hid (viasS_yes hlt hkd)
            have d2 : (S[k].kind == 3) = true := by simp [hkd]
            have hb2 : Below wr.heap.size wr ((wr.alloc (.cells #[.int .i64 S[k].kind, .string S[k].head.owner, .string S[k].head.name, .string S[k].who, .string S[k].a.owner, .string S[k].a.name, .string S[k].b.owner, .string S[k].b.name, .string S[k].via] 55)).alloc (.cells #[.string S[k].via] 9)) := ((Below.refl _ wr).alloc (Nat.le_refl _) _).alloc (by simp) _
            have hownW := own_at hown.out hb2
            have hbelW := hbel.trans (hb2.mono zr)
            have zW : w1.heap.size ≤ ((wr.alloc (.cells #[.int .i64 S[k].kind, .string S[k].head.owner, .string S[k].head.name, .string S[k].who, .string S[k].a.owner, .string S[k].a.name, .string S[k].b.owner, .string S[k].b.name, .string S[k].via] 55)).alloc (.cells #[.string S[k].via] 9)).heap.size := by simp; omega
            have H1 := Lib.hid (one_src (X := wr.alloc (.cells #[.int .i64 S[k].kind, .string S[k].head.owner, .string S[k].head.name, .string S[k].who, .string S[k].a.owner, .string S[k].a.name, .string S[k].b.owner, .string S[k].b.name, .string S[k].via] 55)) (n := wr.heap.size + 1) (by simp) S[k].via 9)
            clear hc hb2 hown hbel hkd
            go_wp2_with (at_builtin; refine wpList_append_from _ rfl _ _ 41 rfl w1.heap.size 9 i0 (.string ⟨#[]⟩) 1 16 Tryz.underlying41 hi hz0 hz1 hz2 rfl (by decide) _ _ _ rfl hownW (some ⟨wr.heap.size + 1, 0, none⟩) 1 1 [Value.string S[k].via] rfl rfl (fun h => by cases h) H1.out (fun u hu => by simp at hu; subst hu; rfl) (by unfold maxLen; first | omega | (simp only [List.length_append]; omega)) (by first | omega | (simp only [List.length_append]; omega)) zW ?_)
            intro v2 w3 hown3 hgrow
            have hbel3 := hbelW.grown hgrow (by simpa using zW) (fun k hk => (hownW.lt k hk).1)
            have HO4 : Hid (w3.ownsRow w1.heap.size 9 1 v2 (T0 ++ viasS S (k + 1)).length ((T0 ++ viasS S (k + 1)).map encStr)) := Lib.hid (by
              rw [Hs.out, ← List.append_assoc, List.length_append, List.length_append, List.map_append]; simpa [enc_bt] using hown3)
            clear hownW hbelW hgrow hown3
            go_wp2_with fail
            go_roundw
            case rel => exact ⟨k + 1, v2, by omega, rfl, by go_num, HO4, hbel3⟩
            case measure => simp [intOf]; omega
          · have HO4 := hown
            rw [← viasS_no hlt hkd] at HO4
            have d2 : (S[k].kind == 3) = false := by simpa using hkd
            have HOB := Lib.hid (own_at HO4.out ((Below.refl _ wr).alloc (Nat.le_refl _) (.cells #[.int .i64 S[k].kind, .string S[k].head.owner, .string S[k].head.name, .string S[k].who, .string S[k].a.owner, .string S[k].a.name, .string S[k].b.owner, .string S[k].b.name, .string S[k].via] 55)))
            have hbelW := hbel.alloc zr (.cells #[.int .i64 S[k].kind, .string S[k].head.owner, .string S[k].head.name, .string S[k].who, .string S[k].a.owner, .string S[k].a.name, .string S[k].b.owner, .string S[k].b.name, .string S[k].via] 55)
            clear hc hown hbel hkd HO4
            go_wp2_with fail
            go_roundw
            case rel => exact ⟨k + 1, _, by omega, rfl, by go_num, HOB, hbelW⟩
            case measure => simp [intOf]; omega
        · have d1 : decide ((k : Int) < S.length) = false := by simp; omega
          have hkS : k = S.length := by omega
          subst hkS
          obtain ⟨A', c', rfl, _, hrow⟩ := SRow.of_own hown.out
          have HN := Lib.hid (Tab1.new A' c' (T0 ++ viasS S S.length) wr (by simp; omega) hrow)
          have HTT : Hid (T0 ++ viasS S S.length = TT) := HT
          have hlen : (T0 ++ viasS S S.length).length ≤ 1000000 := by simp; omega
          have HB2 := Lib.hid (HB0.out.trans (hbel.mono (by omega : w.heap.size ≤ w1.heap.size)))
          generalize T0 ++ viasS S S.length = TL at *
          obtain rfl := HTT.out
          have zq := HB2.out.size
          clear hrow hown hbel HTT
          go_wp2_with fail
          refine HN.out.mono ?_
          rintro e w4 ⟨q, rfl, htab, hb4⟩
          have HA := Lib.hid (tab_all htab (Nat.le_trans (tab_len_le _) hlen))
          clear htab
          go_wp2_with fail
          refine HA.out.mono ?_
          rintro e w5 ⟨v5, rfl, hown5, hb5⟩
          have hfin : w5.ownsRow w.heap.size 9 1 v5 (tab TL).length ((tab TL).map encStr) := SynH.own_base hown5 (by have := hb4.size; omega)
          have hbf := HB2.out.trans ((hb4.trans (hb5.mono hb4.size)).mono zq)
          clear hown5 hb4 hb5
          go_wp2_with fail
          go_ret
          exact ⟨v5, rfl, hfin, hbf⟩
end Go.Proofs.YtcmdiomjhideiaaGreatDoor.PolH
/- The principals and the names of a policy: the document's Names, by contract. -/
namespace Go.Proofs.YtcmdiomjhideiaaGreatDoor.RefPr
set_option linter.unusedVariables false
set_option linter.unusedSimpArgs false
open Go.RowKit Go.Sort Go.Lib Go.Proofs Go.Proofs.YtcmdiomjhideiaaGreatDoor.Plain Go.Proofs.YtcmdiomjhideiaaGreatDoor.SynP Go.Proofs.YtcmdiomjhideiaaGreatDoor.TabP Go.Proofs.YtcmdiomjhideiaaGreatDoor.Tab1 Go.Proofs.YtcmdiomjhideiaaGreatDoor.Tab4 Go.Proofs.YtcmdiomjhideiaaGreatDoor.Tab5 Go.Proofs.YtcmdiomjhideiaaGreatDoor.Grown Go.Proofs.YtcmdiomjhideiaaGreatDoor.SynC Go.Proofs.YtcmdiomjhideiaaGreatDoor.SynJ Go.Proofs.YtcmdiomjhideiaaGreatDoor.QryP Go.Proofs.YtcmdiomjhideiaaGreatDoor.PolA Go.Proofs.YtcmdiomjhideiaaGreatDoor.PolE Go.Proofs.YtcmdiomjhideiaaGreatDoor.PolG Go.Proofs.YtcmdiomjhideiaaGreatDoor.PolH Go.Proofs.YtcmdiomjhideiaaGreatDoor.RefRo
set_option linter.unusedVariables false
set_option linter.unusedSimpArgs false
/-- The texts of a list, each put where it belongs. -/
def fold (T : List Str) : List Str := T.foldl putL []
theorem fold_snoc (T : List Str) (s : Str) : fold (T ++ [s]) = putL (fold T) s := by unfold fold; rw [List.foldl_append]; rfl
theorem fold_len (T : List Str) : (fold T).length ≤ T.length := by
  have := newTo_len T T.length (Nat.le_refl _)
  unfold newTo at this
  rwa [List.take_length] at this
theorem fold_tab (T : List Str) : fold T = tab T := by
  have := newTo_tab T
  unfold newTo at this
  rwa [List.take_length] at this
theorem rolesR_len {p : Py} (hf : p.fit) : (rolesR p).length ≤ 7000 := by
  have h := rolesP_len hf
  unfold rolesP at h; unfold rolesR
  simp only [List.length_append] at h ⊢; omega
def viasF (P : List Str) (S : List St) (k : Nat) : List Str := fold (P ++ viasS S k)
def whosF (P : List Str) (S : List St) (k : Nat) : List Str := fold (P ++ whosS S k)
def namesF (R : List Rl) (k : Nat) : List Str := fold (namesR R k)
def ownersF (R : List Rl) (k : Nat) : List Str := fold (ownersR R k)
def namesD (p : Py) : List Str := namesR (rolesR p) (rolesR p).length ++ viasS p.stmts p.stmts.length
theorem bt_list (x : ByteArray) : x.toList = bt x := by rw [Go.ByteArray.toList_eq]; rfl
set_option maxHeartbeats 2000000 in
set_option maxRecDepth 100000 in
theorem namesRef (p : Py) (A1 A2 A3 A4 : Option Addr) (c1 c2 c3 c4 : Nat) (w : World) (hf : p.fit) (hp : PG w A1 A2 A3 A4 p) : Calls Tryz.prog 45 #[p.val A1 A2 A3 A4 c1 c2 c3 c4] w (RowPost (fold (namesD p)) w) := by
  have HRO := Lib.hid (fun w' h => rolesRef p A1 A2 A3 A4 c1 c2 c3 c4 w' hf h)
  have hRl := rolesR_len hf
  have n1 := hf.n1
  have HP := Lib.hid hp
  unfold namesD
  generalize rolesR p = R at *
  obtain ⟨S, G, H, Q⟩ := p
  simp only at n1
  clear hp hf
  unfold Py.val at *
  simp only at HRO ⊢
  obtain ⟨TT, hTT⟩ : ∃ TT, fold (namesR R R.length ++ viasS S S.length) = TT := ⟨_, rfl⟩
  rw [hTT]
  have HT := Lib.hid hTT
  clear hTT
  go_enter Tryz.func45, Tryz.ntmps45
  go_wp2_with fail
  refine (HRO.out _ (HP.out.below ((Below.refl _ _).alloc (Nat.le_refl _) _))).mono ?_
  rintro e w1 ⟨A, cA, rfl, hrat, hb1⟩
  have hcP1 : ∀ o, w1.cell? ⟨w.heap.size, o, none⟩ = (#[.slice A1 S.length c1, .slice A2 G.length c2, .slice A3 H.length c3, .slice A4 Q.length c4] : Array Value)[o]? := fun o => by rw [hb1.cell (by simp), Lib.cell_of_heap (heap_alloc_new w _)]
  have z1 : w.heap.size + 1 ≤ w1.heap.size := by have := hb1.size; simpa using this
  have hb01 : Below w.heap.size w w1 := ((Below.refl w.heap.size w).alloc (Nat.le_refl _) _).trans (hb1.mono (by simp))
  have HPW := Lib.hid (fun (wr : World) (h : Below w1.heap.size w1 wr) => (HP.out.below (hb01.trans (h.mono (by omega)))))
  have HCP := Lib.hid (fun (wr : World) (h : Below w1.heap.size w1 wr) (o : Nat) => (h.cell (p := ⟨w.heap.size, o, none⟩) (by show w.heap.size < w1.heap.size; omega)).trans (hcP1 o))
  have HR := Lib.hid (fun (wr : World) (h : Below w1.heap.size w1 wr) => hrat.below h)
  have HB0 := Lib.hid hb01
  clear hrat hb1 hcP1 hb01
  go_wp2_with fail
  go_loopw [3, 11] (fun l i wr => ∃ (k : Nat) (v : Value), k ≤ R.length ∧ l = v ∧ i = .int .i64 k ∧ Hid (wr.ownsRow w1.heap.size 9 1 v (namesF R k).length ((namesF R k).map encStr)) ∧ Below w1.heap.size w1 wr) (fun _ i _ => R.length - (intOf i).toNat)
  case atStart => exact ⟨0, _, by omega, rfl, rfl, Lib.hid (by simpa [namesF, namesR, fold] using World.ownsRow_nil w1 w1.heap.size 9 1), Below.refl _ _⟩
  case round =>
    obtain ⟨k, v1, hk, rfl, rfl, hown, hbel⟩ := hrel
    have zr := hbel.size
    have hlen : (namesF R k).length ≤ R.length := by unfold namesF; have := fold_len (namesR R k); have := namesR_len R k; omega
    by_cases hlt : k < R.length
    · have d1 : decide ((k : Int) < R.length) = true := by simp; omega
      have p1 : (0 : Int) ≤ k := by omega
      have p2 : (k : Int) < R.length := by omega
      obtain ⟨g, e1, hg, hc⟩ := (HR.out _ hbel) (by omega)
      obtain rfl := e1
      obtain ⟨a0, a1⟩ := hc k hlt
      have HS : Hid (namesF R (k + 1) = putL (namesF R k) (bt R[k].name)) := Lib.hid (by unfold namesF; rw [namesR_succ hlt, fold_snoc])
      have hb2 : Below wr.heap.size wr (wr.alloc (.cells #[.string R[k].owner, .string R[k].name] 28)) := (Below.refl _ wr).alloc (Nat.le_refl _) _
      have hownW := own_at hown.out hb2
      have hbelW := Lib.hid (hbel.trans (hb2.mono zr))
      obtain ⟨A1', k1', rfl, _, _⟩ := SRow.of_own hownW
      have HPut := Lib.hid (put w1.heap.size A1' k1' _ R[k].name _ (by omega) hbelW.out.size hownW)
      clear hc hown hbel hb2 hownW
      go_wp2_with fail
      refine HPut.out.mono ?_
      rintro e w3 ⟨v3, rfl, hown3, hb3⟩
      rw [bt_list, ← HS.out] at hown3
      have HO3 := Lib.hid hown3
      have HB3 := Lib.hid (hbelW.out.trans hb3)
      clear hown3 hb3 a0 a1
      go_wp2_with fail
      go_roundw
      case rel => exact ⟨k + 1, v3, by omega, rfl, by go_num, HO3, HB3.out⟩
      case measure => simp [intOf]; omega
    · have d1 : decide ((k : Int) < R.length) = false := by simp; omega
      have hkR : k = R.length := by omega
      subst hkR
      have hcP := HCP.out _ hbel
      obtain ⟨T0, hT0⟩ : ∃ T0, namesR R R.length = T0 := ⟨_, rfl⟩
      have hl0 : T0.length ≤ R.length := by rw [← hT0]; exact namesR_len R R.length
      have hown0 := hown.out
      unfold namesF at hown0
      have e0 : fold (namesR R R.length) = viasF T0 S 0 := by rw [hT0]; unfold viasF; simp [viasS]
      rw [e0] at hown0
      clear e0
      rw [hT0] at HT
      have HO := Lib.hid hown0
      have HB := Lib.hid hbel
      clear hT0 hown hbel hown0
      go_wp2_with fail
      clear hcP
      go_loopw [3, 23] (fun l i wr => ∃ (k : Nat) (v : Value), k ≤ S.length ∧ l = v ∧ i = .int .i64 k ∧ Hid (wr.ownsRow w1.heap.size 9 1 v (viasF T0 S k).length ((viasF T0 S k).map encStr)) ∧ Below w1.heap.size w1 wr) (fun _ i _ => S.length - (intOf i).toNat)
      case atStart => exact ⟨0, _, by omega, rfl, rfl, HO, HB.out⟩
      case round =>
        clear HO HB hlen
        obtain ⟨k, v1, hk, rfl, rfl, hown, hbel⟩ := hrel
        have zr := hbel.size
        have hlen : (viasF T0 S k).length ≤ T0.length + S.length := by unfold viasF; have h := fold_len (T0 ++ viasS S k); have h2 := viasS_len S k; rw [List.length_append] at h; omega
        by_cases hlt : k < S.length
        · have d1 : decide ((k : Int) < S.length) = true := by simp; omega
          have p1 : (0 : Int) ≤ k := by omega
          have p2 : (k : Int) < S.length := by omega
          obtain ⟨g, o, e1, hg, hc⟩ := (HPW.out _ hbel).s (by show 0 < S.length; omega)
          obtain rfl := e1
          obtain ⟨a0, a1, a2, a3, a4, a5, a6, a7, a8⟩ := hc k hlt
          simp only at a0 a1 a2 a3 a4 a5 a6 a7 a8
          have hb2 : Below wr.heap.size wr (wr.alloc (.cells #[.int .i64 S[k].kind, .string S[k].head.owner, .string S[k].head.name, .string S[k].who, .string S[k].a.owner, .string S[k].a.name, .string S[k].b.owner, .string S[k].b.name, .string S[k].via] 55)) := (Below.refl _ wr).alloc (Nat.le_refl _) _
          have hownW := own_at hown.out hb2
          have hbelW := Lib.hid (hbel.trans (hb2.mono zr))
          clear hc
          by_cases hkd : S[k].kind = 3
          · have HS : Hid (viasF T0 S (k + 1) = putL (viasF T0 S k) (bt S[k].via)) := Lib.hid (by unfold viasF; rw [viasS_yes hlt hkd, ← List.append_assoc, fold_snoc])
            have d2 : (S[k].kind == 3) = true := by simpa using hkd
            obtain ⟨A1', k1', rfl, _, _⟩ := SRow.of_own hownW
            have HPut := Lib.hid (put w1.heap.size A1' k1' _ S[k].via _ (by omega) hbelW.out.size hownW)
            clear hown hbel hb2 hownW hkd
            go_wp2_with fail
            refine HPut.out.mono ?_
            rintro e w3 ⟨v3, rfl, hown3, hb3⟩
            rw [bt_list, ← HS.out] at hown3
            have HO3 := Lib.hid hown3
            have HB3 := Lib.hid (hbelW.out.trans hb3)
            clear hown3 hb3 a0 a1 a2 a3 a4 a5 a6 a7 a8
            go_wp2_with fail
            go_roundw
            case rel => exact ⟨k + 1, v3, by omega, rfl, by go_num, HO3, HB3.out⟩
            case measure => simp [intOf]; omega
          · have HS : Hid (viasF T0 S (k + 1) = viasF T0 S k) := Lib.hid (by unfold viasF; rw [viasS_no hlt hkd])
            have d2 : (S[k].kind == 3) = false := by simpa using hkd
            rw [← HS.out] at hownW
            have HO3 := Lib.hid hownW
            clear hown hbel hb2 hownW hkd
            go_wp2_with fail
            go_roundw
            case rel => exact ⟨k + 1, _, by omega, rfl, by go_num, HO3, hbelW.out⟩
            case measure => simp [intOf]; omega
        · have d1 : decide ((k : Int) < S.length) = false := by simp; omega
          have hkS : k = S.length := by omega
          subst hkS
          have h := hown.out
          unfold viasF at h
          rw [HT.out] at h
          have hfin := Lib.hid (SynH.own_base h (B' := w.heap.size) (by omega))
          have hbf := Lib.hid (HB0.out.trans (hbel.mono (by omega)))
          clear h hown hbel
          go_wp2_with fail
          go_ret
          exact ⟨_, rfl, hfin.out, hbf.out⟩
end Go.Proofs.YtcmdiomjhideiaaGreatDoor.RefPr
/- The principals and the names of a policy: the document's Prins, by contract. -/
namespace Go.Proofs.YtcmdiomjhideiaaGreatDoor.RefPq
set_option linter.unusedVariables false
set_option linter.unusedSimpArgs false
open Go.RowKit Go.Sort Go.Lib Go.Proofs Go.Proofs.YtcmdiomjhideiaaGreatDoor.Plain Go.Proofs.YtcmdiomjhideiaaGreatDoor.SynP Go.Proofs.YtcmdiomjhideiaaGreatDoor.TabP Go.Proofs.YtcmdiomjhideiaaGreatDoor.Tab1 Go.Proofs.YtcmdiomjhideiaaGreatDoor.Tab4 Go.Proofs.YtcmdiomjhideiaaGreatDoor.Tab5 Go.Proofs.YtcmdiomjhideiaaGreatDoor.Grown Go.Proofs.YtcmdiomjhideiaaGreatDoor.SynC Go.Proofs.YtcmdiomjhideiaaGreatDoor.SynJ Go.Proofs.YtcmdiomjhideiaaGreatDoor.QryP Go.Proofs.YtcmdiomjhideiaaGreatDoor.PolA Go.Proofs.YtcmdiomjhideiaaGreatDoor.PolE Go.Proofs.YtcmdiomjhideiaaGreatDoor.PolG Go.Proofs.YtcmdiomjhideiaaGreatDoor.PolH Go.Proofs.YtcmdiomjhideiaaGreatDoor.RefRo Go.Proofs.YtcmdiomjhideiaaGreatDoor.RefPr
set_option linter.unusedVariables false
set_option linter.unusedSimpArgs false
def whosAF (P : List Str) (Q : List Qy) (k : Nat) : List Str := fold (P ++ whosA Q k)
def innF (P : List Str) (Q : List Qy) (k : Nat) (U : List Str) (j : Nat) : List Str := fold (P ++ whosA Q k ++ U.take j)
theorem innF_succ (P : List Str) (Q : List Qy) (k : Nat) (U : List Str) (j : Nat) (h : j < U.length) : innF P Q k U (j + 1) = putL (innF P Q k U j) U[j] := by
  unfold innF; rw [List.take_succ_eq_append_getElem h, ← List.append_assoc, fold_snoc]
theorem innF_len (P : List Str) (Q : List Qy) (k : Nat) (U : List Str) (j : Nat) : (innF P Q k U j).length ≤ P.length + (whosA Q k).length + U.length := by
  unfold innF
  have h := fold_len (P ++ whosA Q k ++ U.take j)
  simp only [List.length_append, List.length_take] at h; omega
def prinsD (p : Py) : List Str := ownersR (rolesR p) (rolesR p).length ++ whosS p.stmts p.stmts.length ++ whosA p.asks p.asks.length
set_option maxHeartbeats 2000000 in
set_option maxRecDepth 100000 in
theorem prinsRef (p : Py) (A1 A2 A3 A4 : Option Addr) (c1 c2 c3 c4 : Nat) (w : World) (hf : p.fit) (h4 : p.asks.length ≤ 500) (hp : PG w A1 A2 A3 A4 p) : Calls Tryz.prog 28 #[p.val A1 A2 A3 A4 c1 c2 c3 c4] w (RowPost (fold (prinsD p)) w) := by
  have HRO := Lib.hid (fun w' h => rolesRef p A1 A2 A3 A4 c1 c2 c3 c4 w' hf h)
  have hRl := rolesR_len hf
  have n1 := hf.n1
  have n4 := hf.n4
  have hal := whosA_len hf.f5
  have hf5 := hf.f5
  have HP := Lib.hid hp
  unfold prinsD
  generalize rolesR p = R at *
  obtain ⟨S, G, H, Q⟩ := p
  simp only at n1 n4 hal hf5 h4
  have HAL := Lib.hid hal
  have HF5 := Lib.hid hf5
  clear hal hf5
  clear hp hf
  unfold Py.val at *
  simp only at HRO ⊢
  obtain ⟨TT, hTT⟩ : ∃ TT, fold (ownersR R R.length ++ whosS S S.length ++ whosA Q Q.length) = TT := ⟨_, rfl⟩
  rw [hTT]
  have HT := Lib.hid hTT
  clear hTT
  go_enter Tryz.func28, Tryz.ntmps28
  go_wp2_with fail
  refine (HRO.out _ (HP.out.below ((Below.refl _ _).alloc (Nat.le_refl _) _))).mono ?_
  rintro e w1 ⟨A, cA, rfl, hrat, hb1⟩
  have hcP1 : ∀ o, w1.cell? ⟨w.heap.size, o, none⟩ = (#[.slice A1 S.length c1, .slice A2 G.length c2, .slice A3 H.length c3, .slice A4 Q.length c4] : Array Value)[o]? := fun o => by rw [hb1.cell (by simp), Lib.cell_of_heap (heap_alloc_new w _)]
  have z1 : w.heap.size + 1 ≤ w1.heap.size := by have := hb1.size; simpa using this
  have hb01 : Below w.heap.size w w1 := ((Below.refl w.heap.size w).alloc (Nat.le_refl _) _).trans (hb1.mono (by simp))
  have HPW := Lib.hid (fun (wr : World) (h : Below w1.heap.size w1 wr) => (HP.out.below (hb01.trans (h.mono (by omega)))))
  have HCP := Lib.hid (fun (wr : World) (h : Below w1.heap.size w1 wr) (o : Nat) => (h.cell (p := ⟨w.heap.size, o, none⟩) (by show w.heap.size < w1.heap.size; omega)).trans (hcP1 o))
  have HR := Lib.hid (fun (wr : World) (h : Below w1.heap.size w1 wr) => hrat.below h)
  have HB0 := Lib.hid hb01
  clear hrat hb1 hcP1 hb01
  go_wp2_with fail
  go_loopw [3, 15] (fun l i wr => ∃ (k : Nat) (v : Value), k ≤ R.length ∧ l = v ∧ i = .int .i64 k ∧ Hid (wr.ownsRow w1.heap.size 9 1 v (ownersF R k).length ((ownersF R k).map encStr)) ∧ Below w1.heap.size w1 wr) (fun _ i _ => R.length - (intOf i).toNat)
  case atStart => exact ⟨0, _, by omega, rfl, rfl, Lib.hid (by simpa [ownersF, ownersR, fold] using World.ownsRow_nil w1 w1.heap.size 9 1), Below.refl _ _⟩
  case round =>
    obtain ⟨k, v1, hk, rfl, rfl, hown, hbel⟩ := hrel
    have zr := hbel.size
    have hlen : (ownersF R k).length ≤ R.length := by unfold ownersF; have := fold_len (ownersR R k); have := ownersR_len R k; omega
    by_cases hlt : k < R.length
    · have d1 : decide ((k : Int) < R.length) = true := by simp; omega
      have p1 : (0 : Int) ≤ k := by omega
      have p2 : (k : Int) < R.length := by omega
      obtain ⟨g, e1, hg, hc⟩ := (HR.out _ hbel) (by omega)
      obtain rfl := e1
      obtain ⟨a0, a1⟩ := hc k hlt
      have HS : Hid (ownersF R (k + 1) = putL (ownersF R k) (bt R[k].owner)) := Lib.hid (by unfold ownersF; rw [ownersR_succ hlt, fold_snoc])
      have hb2 : Below wr.heap.size wr (wr.alloc (.cells #[.string R[k].owner, .string R[k].name] 28)) := (Below.refl _ wr).alloc (Nat.le_refl _) _
      have hownW := own_at hown.out hb2
      have hbelW := Lib.hid (hbel.trans (hb2.mono zr))
      obtain ⟨A1', k1', rfl, _, _⟩ := SRow.of_own hownW
      have HPut := Lib.hid (put w1.heap.size A1' k1' _ R[k].owner _ (by omega) hbelW.out.size hownW)
      clear hc hown hbel hb2 hownW
      go_wp2_with fail
      refine HPut.out.mono ?_
      rintro e w3 ⟨v3, rfl, hown3, hb3⟩
      rw [bt_list, ← HS.out] at hown3
      have HO3 := Lib.hid hown3
      have HB3 := Lib.hid (hbelW.out.trans hb3)
      clear hown3 hb3 a0 a1
      go_wp2_with fail
      go_roundw
      case rel => exact ⟨k + 1, v3, by omega, rfl, by go_num, HO3, HB3.out⟩
      case measure => simp [intOf]; omega
    · have d1 : decide ((k : Int) < R.length) = false := by simp; omega
      have hkR : k = R.length := by omega
      subst hkR
      have hcP := HCP.out _ hbel
      obtain ⟨T0, hT0⟩ : ∃ T0, ownersR R R.length = T0 := ⟨_, rfl⟩
      have hl0 : T0.length ≤ R.length := by rw [← hT0]; exact ownersR_len R R.length
      have hown0 := hown.out
      unfold ownersF at hown0
      have e0 : fold (ownersR R R.length) = whosF T0 S 0 := by rw [hT0]; unfold whosF; simp [whosS]
      rw [e0] at hown0
      clear e0
      rw [hT0] at HT
      have HO := Lib.hid hown0
      have HB := Lib.hid hbel
      clear hT0 hown hbel hown0
      go_wp2_with fail
      clear hcP
      go_loopw [3, 27] (fun l i wr => ∃ (k : Nat) (v : Value), k ≤ S.length ∧ l = v ∧ i = .int .i64 k ∧ Hid (wr.ownsRow w1.heap.size 9 1 v (whosF T0 S k).length ((whosF T0 S k).map encStr)) ∧ Below w1.heap.size w1 wr) (fun _ i _ => S.length - (intOf i).toNat)
      case atStart => exact ⟨0, _, by omega, rfl, rfl, HO, HB.out⟩
      case round =>
        clear HO HB hlen
        obtain ⟨k, v1, hk, rfl, rfl, hown, hbel⟩ := hrel
        have zr := hbel.size
        have hlen : (whosF T0 S k).length ≤ T0.length + S.length := by unfold whosF; have h := fold_len (T0 ++ whosS S k); have h2 := whosS_len S k; rw [List.length_append] at h; omega
        by_cases hlt : k < S.length
        · have d1 : decide ((k : Int) < S.length) = true := by simp; omega
          have p1 : (0 : Int) ≤ k := by omega
          have p2 : (k : Int) < S.length := by omega
          obtain ⟨g, o, e1, hg, hc⟩ := (HPW.out _ hbel).s (by show 0 < S.length; omega)
          obtain rfl := e1
          obtain ⟨a0, a1, a2, a3, a4, a5, a6, a7, a8⟩ := hc k hlt
          simp only at a0 a1 a2 a3 a4 a5 a6 a7 a8
          have hb2 : Below wr.heap.size wr (wr.alloc (.cells #[.int .i64 S[k].kind, .string S[k].head.owner, .string S[k].head.name, .string S[k].who, .string S[k].a.owner, .string S[k].a.name, .string S[k].b.owner, .string S[k].b.name, .string S[k].via] 55)) := (Below.refl _ wr).alloc (Nat.le_refl _) _
          have hownW := own_at hown.out hb2
          have hbelW := Lib.hid (hbel.trans (hb2.mono zr))
          clear hc
          by_cases hkd : S[k].kind = 1
          · have HS : Hid (whosF T0 S (k + 1) = putL (whosF T0 S k) (bt S[k].who)) := Lib.hid (by unfold whosF; rw [whosS_yes hlt hkd, ← List.append_assoc, fold_snoc])
            have d2 : (S[k].kind == 1) = true := by simpa using hkd
            obtain ⟨A1', k1', rfl, _, _⟩ := SRow.of_own hownW
            have HPut := Lib.hid (put w1.heap.size A1' k1' _ S[k].who _ (by omega) hbelW.out.size hownW)
            clear hown hbel hb2 hownW hkd
            go_wp2_with fail
            refine HPut.out.mono ?_
            rintro e w3 ⟨v3, rfl, hown3, hb3⟩
            rw [bt_list, ← HS.out] at hown3
            have HO3 := Lib.hid hown3
            have HB3 := Lib.hid (hbelW.out.trans hb3)
            clear hown3 hb3 a0 a1 a2 a3 a4 a5 a6 a7 a8
            go_wp2_with fail
            go_roundw
            case rel => exact ⟨k + 1, v3, by omega, rfl, by go_num, HO3, HB3.out⟩
            case measure => simp [intOf]; omega
          · have HS : Hid (whosF T0 S (k + 1) = whosF T0 S k) := Lib.hid (by unfold whosF; rw [whosS_no hlt hkd])
            have d2 : (S[k].kind == 1) = false := by simpa using hkd
            rw [← HS.out] at hownW
            have HO3 := Lib.hid hownW
            clear hown hbel hb2 hownW hkd
            go_wp2_with fail
            go_roundw
            case rel => exact ⟨k + 1, _, by omega, rfl, by go_num, HO3, hbelW.out⟩
            case measure => simp [intOf]; omega
        · have d1 : decide ((k : Int) < S.length) = false := by simp; omega
          have hkS : k = S.length := by omega
          subst hkS
          have hcP := HCP.out _ hbel
          obtain ⟨T1, hT1⟩ : ∃ T1, T0 ++ whosS S S.length = T1 := ⟨_, rfl⟩
          have hl1 : T1.length ≤ R.length + S.length := by rw [← hT1, List.length_append]; have := whosS_len S S.length; omega
          have hown0 := hown.out
          unfold whosF at hown0
          have e0 : fold (T0 ++ whosS S S.length) = whosAF T1 Q 0 := by rw [hT1]; unfold whosAF; simp [whosA]
          rw [e0] at hown0
          rw [hT1] at HT
          have HO := Lib.hid hown0
          have HB := Lib.hid hbel
          clear e0 hT1 hown hbel hown0
          go_wp2_with fail
          clear hcP
          go_loopw [3, 42] (fun l i wr => ∃ (k : Nat) (v : Value), k ≤ Q.length ∧ l = v ∧ i = .int .i64 k ∧ Hid (wr.ownsRow w1.heap.size 9 1 v (whosAF T1 Q k).length ((whosAF T1 Q k).map encStr)) ∧ Below w1.heap.size w1 wr) (fun _ i _ => Q.length - (intOf i).toNat)
          case atStart => exact ⟨0, _, by omega, rfl, rfl, HO, HB.out⟩
          case round =>
            clear HO HB hlen
            obtain ⟨k, v1, hk, rfl, rfl, hown, hbel⟩ := hrel
            have zr := hbel.size
            by_cases hlt : k < Q.length
            · have d1 : decide ((k : Int) < Q.length) = true := by simp; omega
              have p1 : (0 : Int) ≤ k := by omega
              have p2 : (k : Int) < Q.length := by omega
              have hq100 := HF5.out Q[k] (List.getElem_mem hlt)
              have hlq := HAL.out k
              obtain ⟨g, o, e1, hg, hc⟩ := (HPW.out w1 (Below.refl _ _)).q (by show 0 < Q.length; omega)
              obtain rfl := e1
              obtain ⟨B, cB, b0, b1, b2, b3, b4, b5, hrow⟩ := hc k hlt
              simp only at b0 b1 b2 b3 b4 b5 hrow
              have kk : ∀ {i : Nat} {u : Value}, w1.cell? ⟨g, i, none⟩ = some u → wr.cell? ⟨g, i, none⟩ = some u := fun {i u} e => (hbel.cell (p := ⟨g, i, none⟩) hg).trans e
              have a0 := kk b0
              have a1 := kk b1
              have a2 := kk b2
              have a3 := kk b3
              have a4 := kk b4
              have a5 := kk b5
              clear kk b0 b1 b2 b3 b4 b5
              have hb2 : Below wr.heap.size wr (wr.alloc (.cells #[.int .i64 Q[k].kind, .string Q[k].a.owner, .string Q[k].a.name, .string Q[k].b.owner, .string Q[k].b.name, .slice B Q[k].who.length cB] 67)) := (Below.refl _ wr).alloc (Nat.le_refl _) _
              have HO := Lib.hid (own_at hown.out hb2)
              have HBW := Lib.hid (hbel.trans (hb2.mono zr))
              have HRW := Lib.hid hrow
              have HS0 : Hid (innF T1 Q k Q[k].who 0 = whosAF T1 Q k) := Lib.hid (by unfold innF whosAF; simp)
              have HS1 : Hid (innF T1 Q k Q[k].who Q[k].who.length = whosAF T1 Q (k + 1)) := Lib.hid (by unfold innF whosAF; rw [whosA_succ hlt, List.take_length, List.append_assoc])
              rw [← HS0.out] at HO
              clear hc hown hbel hb2 hrow HS0
              obtain ⟨W2, hW2⟩ : ∃ W2, wr.alloc (.cells #[.int .i64 Q[k].kind, .string Q[k].a.owner, .string Q[k].a.name, .string Q[k].b.owner, .string Q[k].b.name, .slice B Q[k].who.length cB] 67) = W2 := ⟨_, rfl⟩
              have HW2 := Lib.hid hW2
              rw [hW2] at HO HBW
              clear hW2
              go_wp2_with fail
              rw [HW2.out]
              generalize Q[k].who = U at *
              go_loopw [3, 49] (fun l i wr => ∃ (j : Nat) (v : Value), j ≤ U.length ∧ l = v ∧ i = .int .i64 j ∧ Hid (wr.ownsRow w1.heap.size 9 1 v (innF T1 Q k U j).length ((innF T1 Q k U j).map encStr)) ∧ Below w1.heap.size w1 wr) (fun _ i _ => U.length - (intOf i).toNat)
              case atStart => exact ⟨0, _, by omega, rfl, rfl, HO, HBW.out⟩
              case round =>
                clear HO HBW HW2
                obtain ⟨j, v2, hj, rfl, rfl, hown, hbel⟩ := hrel
                have zr2 := hbel.size
                have hlen := innF_len T1 Q k U j
                by_cases hlu : j < U.length
                · have d2 : decide ((j : Int) < U.length) = true := by simp; omega
                  have p3 : (0 : Int) ≤ j := by omega
                  have p4 : (j : Int) < U.length := by omega
                  obtain ⟨g2, off, rfl, hg2, hcell⟩ := HRW.out (by omega)
                  have hx := (hbel.cell (p := ⟨g2, off + j, none⟩) hg2).trans (hcell j hlu)
                  have HS2 := Lib.hid (innF_succ T1 Q k U j hlu)
                  have he := Lib.hid (show (⟨U[j].toArray⟩ : ByteArray).toList = U[j] from by rw [Go.ByteArray.toList_eq])
                  have hown2 := hown.out
                  obtain ⟨A1', k1', rfl, _, _⟩ := SRow.of_own hown2
                  have HPut := Lib.hid (put w1.heap.size A1' k1' _ ⟨U[j].toArray⟩ _ (by omega) hbel.size hown2)
                  have HBE := Lib.hid hbel
                  clear hcell hown hown2 hbel a0 a1 a2 a3 a4 a5
                  go_wp2_with fail
                  refine HPut.out.mono ?_
                  rintro e w3 ⟨v3, rfl, hown3, hb3⟩
                  rw [he.out, ← HS2.out] at hown3
                  have HO3 := Lib.hid hown3
                  have HB3 := Lib.hid (HBE.out.trans hb3)
                  clear hown3 hb3
                  go_wp2_with fail
                  go_roundw
                  case rel => exact ⟨j + 1, v3, by omega, rfl, by go_num, HO3, HB3.out⟩
                  case measure => simp [intOf]; omega
                · have d2 : decide ((j : Int) < U.length) = false := by simp; omega
                  have hjU : j = U.length := by omega
                  subst hjU
                  have hown2 := hown.out
                  rw [HS1.out] at hown2
                  have HO3 := Lib.hid hown2
                  have HB3 := Lib.hid hbel
                  clear hown hown2 hbel a0 a1 a2 a3 a4 a5
                  go_wp2_with fail
                  go_roundw
                  case rel => exact ⟨k + 1, _, by omega, rfl, by go_num, HO3, HB3.out⟩
                  case measure => simp [intOf]; omega
            · have d1 : decide ((k : Int) < Q.length) = false := by simp; omega
              have hkQ : k = Q.length := by omega
              subst hkQ
              have h := hown.out
              unfold whosAF at h
              rw [HT.out] at h
              have hfin := Lib.hid (SynH.own_base h (B' := w.heap.size) (by omega))
              have hbf := Lib.hid (HB0.out.trans (hbel.mono (by omega)))
              clear h hown hbel
              go_wp2_with fail
              go_ret
              exact ⟨_, rfl, hfin.out, hbf.out⟩
end Go.Proofs.YtcmdiomjhideiaaGreatDoor.RefPq
