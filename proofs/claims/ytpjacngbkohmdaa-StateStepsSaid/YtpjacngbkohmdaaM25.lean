/- Light of a policy: what it gives, by contract. -/
import Derived.Test.YtpjacngbkohmdaaM24
import Derived.Test.YtpjacngbkohmdaaM20
import Derived.Test.YtpjacngbkohmdaaM02
import Derived.Test.YtpjacngbkohmdaaM12
import Derived.Test.YtpjacngbkohmdaaM21
import Derived.Deep.RegionHeld3
import Derived.Deep.Cut
namespace Go.Proofs.Ytpjacngbkohmdaa.PolLi
set_option linter.unusedVariables false
set_option linter.unusedSimpArgs false
open Go.RowKit Go.Sort Go.Lib Go.Proofs Go.Proofs.Ytpjacngbkohmdaa.Plain Go.Proofs.Ytpjacngbkohmdaa.SynP Go.Proofs.Ytpjacngbkohmdaa.TabP Go.Proofs.Ytpjacngbkohmdaa.Tab1 Go.Proofs.Ytpjacngbkohmdaa.Grown Go.Proofs.Ytpjacngbkohmdaa.QryP Go.Proofs.Ytpjacngbkohmdaa.SynJ Go.Proofs.Ytpjacngbkohmdaa.PolA Go.Proofs.Ytpjacngbkohmdaa.PolE Go.Proofs.Ytpjacngbkohmdaa.PolOp
set_option linter.unusedVariables false
set_option linter.unusedSimpArgs false
section
variable {P : Program} (w : World)
/-- An append in a region that draws its order: of a source that reads as cells, nil let in. -/
theorem step_append_from {ops : Array Oper} {o : Oper} {a : Act} {K : Act → World → Prop} {Q : Exit → Act → World → Prop} {E : Prop} (hgd : o.guard = none) (s x : Operand) (t : TypeId)
    (ho : o.op = .call { callee := .builtin .append, args := #[s, x], argTypes := #[t, t] })
    (base : Nat) (e : TypeId) (i : TypeInfo) (z : Value) (size bytes : Nat) (ht : P.underlying t = some (.slice e)) (hi : P.info? e = some i) (hz : i.zero = some z)
    (hsize : i.size = size) (hby : i.bytes = bytes) (hzs : z.cells.size = size) (hsz : 0 < size) (v : Value) (n : Nat) (xs : List Value) (hs : a.eval s = v) (hown : w.ownsRow base e size v n xs)
    (A : Option Addr) (m c : Nat) (news : List Value) (hx : a.eval x = .slice A m c) (hlen : news.length = m * size) (h0 : A = none → m = 0) (hA : ∀ ad, A = some ad → ∀ j u, news[j]? = some u → w.cell? (ad.add j) = some u) (h1 : ∀ u ∈ news, u.oneCell' = true)
    (h63 : n + m ≤ maxLen) (hbytes : (n + m) * bytes ≤ 140737488355328) (hbase : base ≤ w.heap.size)
    (h : ∀ v' w', w'.ownsRow base e size v' (n + m) (xs ++ news) → w.grownBy w' v.ownBlock → K (a.put o.dst v') w') :
    if Region.wanted o (yielded ops a.tmps) = true then Oper.wp P o a w K Q else E := by
  have hw : Region.wanted o (yielded ops a.tmps) = true := by simp [Region.wanted, hgd]
  rw [if_pos hw]
  obtain ⟨v', w', hr, h2, h3⟩ := SynC.run_append_from (P := P) w base t o.type e i z size bytes ht hi hz hsize hby hzs hsz v n xs hown A m c news hlen h0 hA h1 h63 hbytes hbase
  unfold Oper.wp execOp
  simp only [ho, resolve, invoke, builtin, Sem.run_bind, Sem.run_pure, Result.andThen_ok, List.map_toArray, List.map_cons, List.map_nil, hs, hx, hr]
  exact h v' w' h2 h3
end
theorem nx {W w1 w2 : World} (h : Below W.heap.size W w1) (hb : Below w1.heap.size w1 w2) : Below W.heap.size W w2 := h.trans (hb.mono h.size)
theorem light40 {T : List Str} (h : Tab6.lightB T = true) : T.length ≤ 40 := by
  unfold Tab6.lightB at h
  rw [Bool.and_eq_true, decide_eq_true_iff] at h
  exact h.1
theorem own_n {w : World} {B n k : Nat} {e : TypeId} {v : Value} {xs : List Value} (h : w.ownsRow B e k v n xs) : ∃ A c, v = .slice A n c := by
  rcases h.2 with ⟨rfl, rfl⟩ | ⟨g, cap, cur, rfl, _⟩
  · exact ⟨none, 0, rfl⟩
  · exact ⟨_, cap, rfl⟩
theorem rg_none {w : World} {A : Option Addr} {L : List Rl} (h : RG w A L) : A = none → L.length = 0 := fun e => by
  rcases Nat.eq_zero_or_pos L.length with h0 | h0
  · exact h0
  · obtain ⟨g, o, hA, _⟩ := h h0
    rw [e] at hA; cases hA
theorem below_grown {W w w1 : World} {B n k : Nat} {e : TypeId} {v : Value} {xs : List Value} (hb : Below W.heap.size W w) (ho : w.ownsRow B e k v n xs) (hg : w.grownBy w1 v.ownBlock) (hB : W.heap.size ≤ B) (hBw : B ≤ w.heap.size) : Below W.heap.size W w1 :=
  hb.grown hg (by omega) (fun j hj => Nat.le_trans hB (ho.lt j hj).1)
/-- What a light policy is sure to be. -/
structure Few (p : Py) : Prop where
  n1 : p.stmts.length ≤ 30
  n2 : p.grow.length ≤ 30
  n3 : p.shrink.length ≤ 30
  n4 : p.asks.length ≤ 30
  n5 : ∀ q ∈ p.asks, q.who.length ≤ 40
theorem Few.fit {p : Py} (h : Few p) (c : Came p) : p.fit := ⟨by have := h.n1; omega, by have := h.n2; omega, by have := h.n3; omega, by have := h.n4; omega, c.f1, c.f2, c.f3, c.f4, fun q hq => by have := h.n5 q hq; omega⟩
def LightPost (p : Py) (w : World) (e : Ending) (w' : World) : Prop := ∃ b, e = .returned (.bool b) ∧ (b = true → Few p) ∧ Below w.heap.size w w'
set_option maxHeartbeats 2000000 in
set_option maxRecDepth 100000 in
theorem light (p : Py) (A1 A2 A3 A4 : Option Addr) (c1 c2 c3 c4 : Nat) (w : World) (hc : Came p) (hp : PG w A1 A2 A3 A4 p) : Calls Try.prog 21 #[p.val A1 A2 A3 A4 c1 c2 c3 c4] w (LightPost p w) := by
  obtain ⟨S, G, H, Q⟩ := p
  have HP := Lib.hid hp
  have HC := Lib.hid hc
  have m1 := hc.n1
  have m2 := hc.n2
  have m3 := hc.n3
  have m4 := hc.n4
  unfold maxLen at m1 m2 m3 m4
  simp only at m1 m2 m3 m4
  clear hp hc
  have HZ : Hid (∀ w', Below w.heap.size w w' → LightPost ⟨S, G, H, Q⟩ w (.returned (.bool false)) w') := Lib.hid (fun w' hb => ⟨false, rfl, (fun h => by cases h), hb⟩)
  show Calls _ _ #[.agg #[.slice A1 S.length c1, .slice A2 G.length c2, .slice A3 H.length c3, .slice A4 Q.length c4]] _ _
  have hbx : Below w.heap.size w (w.alloc (.cells #[.slice A1 S.length c1, .slice A2 G.length c2, .slice A3 H.length c3, .slice A4 Q.length c4] 40)) := (Below.refl _ _).alloc (Nat.le_refl _) _
  have HB0 := Lib.hid hbx
  have HX : Hid (∀ w', Below (w.alloc (.cells #[.slice A1 S.length c1, .slice A2 G.length c2, .slice A3 H.length c3, .slice A4 Q.length c4] 40)).heap.size (w.alloc (.cells #[.slice A1 S.length c1, .slice A2 G.length c2, .slice A3 H.length c3, .slice A4 Q.length c4] 40)) w' → ∀ o, w'.cell? ⟨w.heap.size, o, none⟩ = (#[.slice A1 S.length c1, .slice A2 G.length c2, .slice A3 H.length c3, .slice A4 Q.length c4] : Array Value)[o]?) := Lib.hid (fun w' hb o => Lib.cell_of_heap ((hb.block _ (by simp)).trans (heap_alloc_new w _)) o)
  clear hbx
  go_enter Try.func21, Try.ntmps21
  go_upto_region 1 with fail
  generalize w.alloc (.cells #[.slice A1 S.length c1, .slice A2 G.length c2, .slice A3 H.length c3, .slice A4 Q.length c4] 40) = w0 at *
  have c0 := HX.out w0 (Below.refl _ _)
  by_cases g1 : 30 < S.length
  · have d1 : decide ((30 : Int) < (S.length : Int)) = true := by simp; omega
    go_wp2_with fail
    go_ret
    exact HZ.out _ HB0.out
  have d1 : decide ((30 : Int) < (S.length : Int)) = false := by simp; omega
  by_cases g2 : 30 < G.length
  · have d2 : decide ((30 : Int) < (G.length : Int)) = true := by simp; omega
    go_wp2_with fail
    go_ret
    exact HZ.out _ HB0.out
  have d2 : decide ((30 : Int) < (G.length : Int)) = false := by simp; omega
  by_cases g3 : 30 < H.length
  · have d3 : decide ((30 : Int) < (H.length : Int)) = true := by simp; omega
    go_wp2_with fail
    go_ret
    exact HZ.out _ HB0.out
  have d3 : decide ((30 : Int) < (H.length : Int)) = false := by simp; omega
  by_cases g4 : 30 < Q.length
  · have d4 : decide ((30 : Int) < (Q.length : Int)) = true := by simp; omega
    go_wp2_with fail
    go_ret
    exact HZ.out _ HB0.out
  have d4 : decide ((30 : Int) < (Q.length : Int)) = false := by simp; omega
  go_wp2_with fail
  clear d1 d2 d3 d4 c0
  go_loopw [34] (fun i wr => ∃ j : Nat, j ≤ S.length ∧ i = .int .i64 j ∧ Below w0.heap.size w0 wr) (fun i _ => S.length - (intOf i).toNat)
  case atStart => exact ⟨0, by omega, rfl, Below.refl _ _⟩
  case round =>
    obtain ⟨j, hj, rfl, hb⟩ := hrel
    by_cases hlt : j < S.length
    · have e1 : decide ((j : Int) < S.length) = true := by simp; omega
      have p0 : (0 : Int) ≤ j := by omega
      have p1 : (j : Int) < S.length := by omega
      obtain ⟨g, o, rfl, hg, hcell⟩ := (HP.out.s.below (nx HB0.out hb)) (by show 0 < S.length; omega)
      obtain ⟨a0, a1, a2, a3, a4, a5, a6, a7, a8⟩ := hcell j hlt
      have HL := Lib.hid (fun w' => TblM.light S[j] w')
      simp only at a0 a1 a2 a3 a4 a5 a6 a7 a8
      have HBk := Lib.hid hb
      clear hcell hb
      generalize S[j] = s at *
      obtain ⟨k1, ⟨ho, hn⟩, wh, ⟨ao, an⟩, ⟨bo, bn⟩, v⟩ := s
      unfold St.val at HL
      simp only at a0 a1 a2 a3 a4 a5 a6 a7 a8 HL
      generalize TblM.lightS _ = l1 at *
      have cb : ∀ o, (wr.alloc (.cells #[.int .i64 k1, .string ho, .string hn, .string wh, .string ao, .string an, .string bo, .string bn, .string v] 26)).cell? ⟨wr.heap.size, o, none⟩ = (#[.int .i64 k1, .string ho, .string hn, .string wh, .string ao, .string an, .string bo, .string bn, .string v] : Array Value)[o]? := fun o => Lib.cell_of_heap (heap_alloc_new wr _) o
      have HBb := Lib.hid (nx HBk.out ((Below.refl wr.heap.size wr).alloc (Nat.le_refl _) (.cells #[.int .i64 k1, .string ho, .string hn, .string wh, .string ao, .string an, .string bo, .string bn, .string v] 26)))
      go_wp2_with fail
      refine (HL.out _).mono ?_
      rintro e w2 ⟨rfl, hg2⟩
      have HB2 := Lib.hid (nx HBb.out hg2.below)
      clear hg2 cb a0 a1 a2 a3 a4 a5 a6 a7 a8
      cases l1
      · go_wp2_with fail
        go_ret
        exact HZ.out _ (nx HB0.out HB2.out)
      · go_wp2_with fail
        go_roundw
        case rel => exact ⟨j + 1, by omega, by go_num, HB2.out⟩
        case measure => simp [intOf]; omega
    · have e1 : decide ((j : Int) < S.length) = false := by simp; omega
      have HBk := Lib.hid hb
      have c5 := HX.out wr hb
      clear hb
      go_wp2_with fail
      clear c5
      generalize wr = w5 at *
      go_loopw [45] (fun i wr => ∃ j : Nat, j ≤ Q.length ∧ i = .int .i64 j ∧ Hid (∀ q ∈ Q.take j, q.who.length ≤ 40) ∧ Below w0.heap.size w0 wr) (fun i _ => Q.length - (intOf i).toNat)
      case atStart => exact ⟨0, by omega, rfl, Lib.hid (by simp), HBk.out⟩
      case round =>
        clear HBk
        obtain ⟨j, hj, rfl, hw, hb⟩ := hrel
        by_cases hlt : j < Q.length
        · have e1 : decide ((j : Int) < Q.length) = true := by simp; omega
          have p0 : (0 : Int) ≤ j := by omega
          have p1 : (j : Int) < Q.length := by omega
          obtain ⟨g, o, rfl, hg, hcell⟩ := (HP.out.q.below (nx HB0.out hb)) (by show 0 < Q.length; omega)
          obtain ⟨B, cB, a0, a1, a2, a3, a4, a5, hrow⟩ := hcell j hlt
          simp only at a0 a1 a2 a3 a4 a5 hrow
          have HFq := Lib.hid (HC.out.f4 Q[j] (List.getElem_mem hlt))
          have HBk := Lib.hid hb
          have HW1 : Hid (Q[j].who.length ≤ 40 → ∀ q ∈ Q.take (j + 1), q.who.length ≤ 40) := Lib.hid (fun h q hq => by
            rw [List.take_succ_eq_append_getElem hlt, List.mem_append, List.mem_singleton] at hq
            rcases hq with hq | rfl
            · exact hw.out q hq
            · exact h)
          clear hcell hb hw
          generalize Q[j] = q at *
          have HBb := Lib.hid ((Below.refl wr.heap.size wr).alloc (Nat.le_refl _) (.cells #[.int .i64 q.kind, .string q.a.owner, .string q.a.name, .string q.b.owner, .string q.b.name, .slice B q.who.length cB] 61))
          have HL := Lib.hid (QryO.light q B cB (wr.alloc (.cells #[.int .i64 q.kind, .string q.a.owner, .string q.a.name, .string q.b.owner, .string q.b.name, .slice B q.who.length cB] 61)) HFq.out (hrow.keep HBb.out))
          have HQ1 : Hid (QryO.lightQ q = true → q.who.length ≤ 40) := Lib.hid (fun h => by
            unfold QryO.lightQ at h
            rw [Bool.and_eq_true] at h
            exact light40 h.1)
          obtain ⟨k1, ⟨ao, an⟩, ⟨bo, bn⟩, T⟩ := q
          unfold Qy.val at HL
          simp only at a0 a1 a2 a3 a4 a5 HL HBb HQ1 HW1
          generalize QryO.lightQ _ = l1 at *
          have cb : ∀ o, (wr.alloc (.cells #[.int .i64 k1, .string ao, .string an, .string bo, .string bn, .slice B T.length cB] 61)).cell? ⟨wr.heap.size, o, none⟩ = (#[.int .i64 k1, .string ao, .string an, .string bo, .string bn, .slice B T.length cB] : Array Value)[o]? := fun o => Lib.cell_of_heap (heap_alloc_new wr _) o
          clear hrow HFq
          go_wp2_with fail
          refine HL.out.mono ?_
          rintro e w2 ⟨rfl, hg2⟩
          have HB2 := Lib.hid (nx HBk.out (nx HBb.out hg2.below))
          clear hg2 cb a0 a1 a2 a3 a4 a5 HL
          cases l1
          · go_wp2_with fail
            go_ret
            exact HZ.out _ (nx HB0.out HB2.out)
          · have HW2 := Lib.hid (HW1.out (HQ1.out rfl))
            go_wp2_with fail
            go_roundw
            case rel => exact ⟨j + 1, by omega, by go_num, HW2, HB2.out⟩
            case measure => simp [intOf]; omega
        · have e1 : decide ((j : Int) < Q.length) = false := by simp; omega
          have HFew : Hid (Few ⟨S, G, H, Q⟩) := Lib.hid ⟨by show S.length ≤ 30; omega, by show G.length ≤ 30; omega, by show H.length ≤ 30; omega, by show Q.length ≤ 30; omega, fun q hq => hw.out q (by rw [List.take_of_length_le (by omega)]; exact hq)⟩
          have HBk := Lib.hid hb
          have c6 := HX.out wr hb
          clear hb hw
          go_upto_region 15 with fail
          have hbA : Below w0.heap.size w0 (wr.alloc (.cells #[] 24)).drew := (HBk.out.alloc HBk.out.size _).drew
          have hd0 : ∀ o, wr.drew.cell? ⟨w.heap.size, o, none⟩ = (#[.slice A1 S.length c1, .slice A2 G.length c2, .slice A3 H.length c3, .slice A4 Q.length c4] : Array Value)[o]? := c6
          have hd1 : ∀ o, ((wr.alloc (.cells #[] 24)).drew).cell? ⟨w.heap.size, o, none⟩ = (#[.slice A1 S.length c1, .slice A2 G.length c2, .slice A3 H.length c3, .slice A4 Q.length c4] : Array Value)[o]? := HX.out _ hbA
          have hown0 : ((wr.alloc (.cells #[] 24)).drew).ownsRow wr.heap.size 24 2 (.slice (some ⟨wr.heap.size, 0, none⟩) 0 0) 0 [] := SynC.own_empty wr _ 2
          have HO0 := Lib.hid hown0
          have hG := HP.out.g.below (nx HB0.out hbA)
          have hH := HP.out.h.below (nx HB0.out hbA)
          simp only at hG hH
          have HG := Lib.hid hG
          have HH := Lib.hid hH
          have hwl : w.heap.size < wr.heap.size := by
            have := HBk.out.size
            have h2 := (HX.out w0 (Below.refl _ _) 0)
            have h3 : w0.cell? ⟨w.heap.size, 0, none⟩ = some (.slice A1 S.length c1) := h2
            have := World.block_lt_of_cell? _ _ h3
            simp only at this
            omega
          have HSz : Hid (wr.heap.size ≤ ((wr.alloc (.cells #[] 24)).drew).heap.size) := Lib.hid (by show wr.heap.size ≤ (wr.alloc _).heap.size; simp)
          have HN2 := Lib.hid (rg_none hG)
          have HN3 := Lib.hid (rg_none hH)
          have HBA := Lib.hid hbA
          obtain ⟨i0, hi, hz0, hz1, hz2⟩ := info_parts SynJ.infoRole
          clear hown0 hG hH hbA
          go_region_held3 (fun w' => ∀ o, w'.cell? ⟨w.heap.size, o, none⟩ = (#[.slice A1 S.length c1, .slice A2 G.length c2, .slice A3 H.length c3, .slice A4 Q.length c4] : Array Value)[o]?)
            (first | with_reducible assumption)
            (first | (refine step_append_from _ rfl (.tmp 53) (.tmp 55) 37 rfl wr.heap.size 24 i0 (.agg #[.string ⟨#[]⟩, .string ⟨#[]⟩]) 2 32 Try.underlying37 hi hz0 hz1 hz2 rfl (by decide) (.slice (some ⟨wr.heap.size, 0, none⟩) 0 0) 0 [] (by simp [Act.eval]) HO0.out A2 G.length c2 (rcells G) (by simp [Act.eval]) (rcells_len G) HN2.out (rg_cells HG.out) (rcells_one G) (by unfold maxLen; omega) (by omega) (by show wr.heap.size ≤ (wr.alloc _).heap.size; simp) ?_; intro v1 w1 hown1 hg1; have hs1 := Nat.le_trans HSz.out hg1.size; have hb1 := Lib.hid (below_grown HBA.out HO0.out hg1 HBk.out.size (by show wr.heap.size ≤ (wr.alloc _).heap.size; simp)); have hd2 := HX.out _ hb1.out)
                   | (refine step_append_from _ rfl (.tmp 56) (.tmp 58) 37 rfl wr.heap.size 24 i0 (.agg #[.string ⟨#[]⟩, .string ⟨#[]⟩]) 2 32 Try.underlying37 hi hz0 hz1 hz2 rfl (by decide) v1 (0 + G.length) ([] ++ rcells G) (by simp [Act.eval]) hown1 A3 H.length c3 (rcells H) (by simp [Act.eval]) (rcells_len H) HN3.out (rg_cells (HP.out.h.below (nx HB0.out hb1.out))) (rcells_one H) (by unfold maxLen; omega) (by omega) hs1 ?_; intro v2 w2 hown2 hg2; obtain ⟨A5, c5, rfl⟩ := own_n hown2; have hb2 := Lib.hid (below_grown hb1.out hown1 hg2 HBk.out.size hs1); have hd3 := HX.out _ hb2.out))
          obtain ⟨T, hT⟩ : ∃ T, T = G ++ H := ⟨_, rfl⟩
          have hTl : T.length = 0 + G.length + H.length := by rw [hT]; simp
          have hTr : rcells T = [] ++ rcells G ++ rcells H := by rw [hT, rcells_app]; simp
          rw [← hTl, ← hTr] at hown2
          rw [← hTl]
          have hRT := PolK.rg_of_own hown2
          have HRT := Lib.hid hRT
          have HB2 := hb2
          have hT60 : T.length ≤ 60 := by omega
          clear hb1 hb2 hd0 hd1 hd2 hd3 hown1 hg1 hown2 hg2 hTr hT hRT c6 hs1
          go_wp2_with fail
          go_loopw [61] (fun i wr => ∃ j : Nat, j ≤ T.length ∧ i = .int .i64 j ∧ Below w2.heap.size w2 wr) (fun i _ => T.length - (intOf i).toNat)
          case atStart => exact ⟨0, by omega, rfl, Below.refl _ _⟩
          case round =>
            obtain ⟨j, hj, rfl, hb⟩ := hrel
            have HBF := Lib.hid (nx (nx HB0.out HB2.out) hb)
            by_cases hlt : j < T.length
            · have e1 : decide ((j : Int) < T.length) = true := by simp; omega
              have e2 : decide ((j : Int) < (G.length : Int) + (H.length : Int)) = true := by simp; omega
              have p2 : (j : Int) < (G.length : Int) + (H.length : Int) := by omega
              have p0 : (0 : Int) ≤ j := by omega
              have p1 : (j : Int) < T.length := by omega
              obtain ⟨g, o, rfl, hg, hcell⟩ := (HRT.out.below hb) (by omega)
              obtain ⟨a0, a1⟩ := hcell j hlt
              have HBk := Lib.hid (nx hb ((Below.refl wr.heap.size wr).alloc (Nat.le_refl _) (.cells #[.string T[j].owner, .string T[j].name] 24)))
              have HBG := Lib.hid (nx HBF.out ((Below.refl wr.heap.size wr).alloc (Nat.le_refl _) (.cells #[.string T[j].owner, .string T[j].name] 24)))
              clear hcell hb
              generalize T[j].owner = x at *
              generalize T[j].name = y at *
              by_cases q1 : 40 < x.size
              · have f1 : decide ((40 : Int) < (x.size : Int)) = true := by simp; omega
                go_wp2_with fail
                go_ret
                exact HZ.out _ HBG.out
              · have f1 : decide ((40 : Int) < (x.size : Int)) = false := by simp; omega
                by_cases q2 : 40 < y.size
                · have f2 : decide ((40 : Int) < (y.size : Int)) = true := by simp; omega
                  go_wp2_with fail
                  go_ret
                  exact HZ.out _ HBG.out
                · have f2 : decide ((40 : Int) < (y.size : Int)) = false := by simp; omega
                  go_wp2_with fail
                  go_roundw
                  case rel => exact ⟨j + 1, by omega, by go_num, HBk.out⟩
                  case measure => simp [intOf]; omega
            · have e1 : decide ((j : Int) < T.length) = false := by simp; omega
              have e2 : decide ((j : Int) < (G.length : Int) + (H.length : Int)) = false := by simp; omega
              clear hb
              go_wp2_with fail
              go_ret
              exact ⟨true, rfl, fun _ => HFew.out, HBF.out⟩
end Go.Proofs.Ytpjacngbkohmdaa.PolLi
