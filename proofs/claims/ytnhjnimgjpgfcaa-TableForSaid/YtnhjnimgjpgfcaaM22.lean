/- All roles that a policy names, as often as it does: policy.roles, by contract. -/
import Derived.Test.YtnhjnimgjpgfcaaM14
import Derived.Test.YtnhjnimgjpgfcaaM21
import Derived.Test.YtnhjnimgjpgfcaaM02
import Derived.Test.YtnhjnimgjpgfcaaM12
import Derived.Deep.LoopGhost
import Derived.Test.YtnhjnimgjpgfcaaM05
import Derived.Test.YtnhjnimgjpgfcaaM10
import Derived.Deep.RegionHeld3
import Derived.Maps.AppendAt
namespace Go.Proofs.Ytnhjnimgjpgfcaa.PolG
set_option linter.unusedVariables false
set_option linter.unusedSimpArgs false
open Go.RowKit Go.Sort Go.Lib Go.Proofs Go.Proofs.Ytnhjnimgjpgfcaa.Plain Go.Proofs.Ytnhjnimgjpgfcaa.SynP Go.Proofs.Ytnhjnimgjpgfcaa.TabP Go.Proofs.Ytnhjnimgjpgfcaa.Tab1 Go.Proofs.Ytnhjnimgjpgfcaa.Grown Go.Proofs.Ytnhjnimgjpgfcaa.SynC Go.Proofs.Ytnhjnimgjpgfcaa.SynJ Go.Proofs.Ytnhjnimgjpgfcaa.QryP Go.Proofs.Ytnhjnimgjpgfcaa.PolA Go.Proofs.Ytnhjnimgjpgfcaa.PolE
set_option linter.unusedVariables false
set_option linter.unusedSimpArgs false
def rolesS (L : List St) (k : Nat) : List Rl := ((L.take k).map rolesL).flatten
def rolesA (L : List Qy) (k : Nat) : List Rl := ((L.take k).map QryO.rolesQ).flatten
theorem rolesS_succ {L : List St} {k : Nat} (h : k < L.length) : rolesS L (k + 1) = rolesS L k ++ rolesL L[k] := by
  unfold rolesS
  rw [List.take_succ_eq_append_getElem h, List.map_append, List.flatten_append, List.map_singleton, List.flatten_singleton]
theorem rolesA_succ {L : List Qy} {k : Nat} (h : k < L.length) : rolesA L (k + 1) = rolesA L k ++ QryO.rolesQ L[k] := by
  unfold rolesA
  rw [List.take_succ_eq_append_getElem h, List.map_append, List.flatten_append, List.map_singleton, List.flatten_singleton]
theorem rolesL_len (s : St) : (rolesL s).length ≤ 3 := by
  unfold rolesL; split
  · simp
  · split <;> simp
theorem rolesQ_len (q : Qy) : (QryO.rolesQ q).length ≤ 2 := by
  unfold QryO.rolesQ; split <;> simp
theorem rolesS_len (L : List St) : ∀ k, (rolesS L k).length ≤ k * 3
  | 0 => by simp [rolesS]
  | k + 1 => by
    have ih := rolesS_len L k
    rcases Nat.lt_or_ge k L.length with h | h
    · have := rolesL_len L[k]
      rw [rolesS_succ h, List.length_append]; omega
    · have : rolesS L (k + 1) = rolesS L k := by unfold rolesS; rw [List.take_of_length_le (by omega), List.take_of_length_le (by omega)]
      rw [this]; omega
theorem rolesA_len (L : List Qy) : ∀ k, (rolesA L k).length ≤ k * 2
  | 0 => by simp [rolesA]
  | k + 1 => by
    have ih := rolesA_len L k
    rcases Nat.lt_or_ge k L.length with h | h
    · have := rolesQ_len L[k]
      rw [rolesA_succ h, List.length_append]; omega
    · have : rolesA L (k + 1) = rolesA L k := by unfold rolesA; rw [List.take_of_length_le (by omega), List.take_of_length_le (by omega)]
      rw [this]; omega
def rolesP (p : Py) : List Rl := (p.grow ++ p.shrink) ++ rolesS p.stmts p.stmts.length ++ rolesA p.asks p.asks.length
def RolesP (p : Py) (w : World) (e : Ending) (w' : World) : Prop := ∃ A c, e = .returned (.slice A (rolesP p).length c) ∧ RAt w' A (rolesP p) ∧ Below w.heap.size w w'
theorem box_cell {w wr : World} {C : Array Value} {t : TypeId} (hb : Below (w.heap.size + 1) (w.alloc (.cells C t)) wr) (o : Nat) : wr.cell? ⟨w.heap.size, o, none⟩ = C[o]? := by
  rw [hb.cell (by simp), Lib.cell_of_heap (heap_alloc_new w _)]
theorem pair_cell (w : World) (C D : Array Value) (t u : TypeId) (j : Nat) : ((w.alloc (.cells C t)).alloc (.cells D u)).cell? ⟨w.heap.size + 1, j, none⟩ = D[j]? := by
  have h := Lib.cell_of_heap (heap_alloc_new (w.alloc (.cells C t)) (.cells D u)) j
  rwa [World.size_alloc] at h
theorem low {w wr : World} {o : Obj} (hb : Below (w.heap.size + 1) (w.alloc o) wr) : Below w.heap.size w wr := ((Below.refl w.heap.size w).alloc (Nat.le_refl _) o).trans (hb.mono (by omega))
theorem own_at {w w' : World} {base : Nat} {e : TypeId} {size : Nat} {v : Value} {n : Nat} {xs : List Value} (h : w.ownsRow base e size v n xs) (hb : Below w.heap.size w w') : w'.ownsRow base e size v n xs := Tab3.own_keep h hb
set_option maxHeartbeats 2000000 in
set_option maxRecDepth 100000 in
theorem roles (p : Py) (A1 A2 A3 A4 : Option Addr) (c1 c2 c3 c4 : Nat) (w : World) (hf : p.fit) (hp : PG w A1 A2 A3 A4 p) : Calls Try.prog 66 #[p.val A1 A2 A3 A4 c1 c2 c3 c4] w (RolesP p w) := by
  obtain ⟨i0, hi, hz0, hz1, hz2⟩ := info_parts infoRole
  unfold RolesP rolesP
  obtain ⟨S, G, H, Q⟩ := p
  have HP := Lib.hid hp
  obtain ⟨n1, n2, n3, n4, _, _, _, _, _⟩ := hf
  simp only at n1 n2 n3 n4
  clear hp
  show Calls _ _ #[.agg #[.slice A1 S.length c1, .slice A2 G.length c2, .slice A3 H.length c3, .slice A4 Q.length c4]] _ _
  simp only
  have hl0 : (G ++ H).length ≤ 2000 := by simp; omega
  obtain ⟨R0, hR0⟩ : ∃ R0, G ++ H = R0 := ⟨_, rfl⟩
  rw [hR0] at hl0 ⊢
  have HR0 := Lib.hid hR0
  clear hR0
  go_enter Try.func66, Try.ntmps66
  go_wp2_with fail
  refine (PolF.concatR (w.heap.size + 1) 2 [⟨A2, c2, G⟩, ⟨A3, c3, H⟩] _ (by simp) ?ca (by simp) ?cb ?cc).mono ?_
  case ca => intro r hr; rcases (by simpa using hr : r = ⟨A2, c2, G⟩ ∨ r = ⟨A3, c3, H⟩) with rfl | rfl <;> assumption
  case cb =>
    intro j hj
    rw [pair_cell]
    match j, hj with
    | 0, _ => rfl
    | 1, _ => rfl
  case cc =>
    have hb := ((Below.refl w.heap.size w).alloc (Nat.le_refl _) (.cells #[.slice A1 S.length c1, .slice A2 G.length c2, .slice A3 H.length c3, .slice A4 Q.length c4] 49)).alloc (by simp) (.cells #[.slice A2 G.length c2, .slice A3 H.length c3] 46)
    intro r hr
    rcases (by simpa using hr : r = ⟨A2, c2, G⟩ ∨ r = ⟨A3, c3, H⟩) with rfl | rfl
    · exact HP.out.g.below hb
    · exact HP.out.h.below hb
  rintro e w1 ⟨v, rfl, hown, hb1⟩
  have hb2 : Below (w.heap.size + 1) (w.alloc (.cells #[.slice A1 S.length c1, .slice A2 G.length c2, .slice A3 H.length c3, .slice A4 Q.length c4] 49)) w1 := ((Below.refl _ _).alloc (by simp) _).trans (hb1.mono (by simp))
  have hfl : PolF.flatTo [⟨A2, c2, G⟩, ⟨A3, c3, H⟩] 2 = G ++ H := by simp [PolF.flatTo]
  have hown2 : w1.ownsRow (w.heap.size + 1) 24 2 v (G ++ H).length (rcells (G ++ H)) := by
    have h := SynH.own_base hown (B' := w.heap.size + 1) (by simp)
    rw [← hfl]; exact h
  have HO := Lib.hid hown2
  have HB := Lib.hid hb2
  have hcP := box_cell hb2
  rw [HR0.out] at HO
  clear hown hown2 hb1 hb2 hfl
  go_wp2_with fail
  clear hcP
  go_loopw [3, 17] (fun l i wr => ∃ (k : Nat) (v : Value), k ≤ S.length ∧ l = v ∧ i = .int .i64 k ∧ Hid (wr.ownsRow (w.heap.size + 1) 24 2 v (R0 ++ rolesS S k).length (rcells (R0 ++ rolesS S k))) ∧ Below (w.heap.size + 1) (w.alloc (.cells #[.slice A1 S.length c1, .slice A2 G.length c2, .slice A3 H.length c3, .slice A4 Q.length c4] 49)) wr) (fun _ i _ => S.length - (intOf i).toNat)
  case atStart => exact ⟨0, _, by omega, rfl, rfl, by simpa [rolesS] using HO, HB.out⟩
  case round =>
    obtain ⟨k, v1, hk, rfl, rfl, hown, hbel⟩ := hrel
    have zr : w.heap.size + 1 ≤ wr.heap.size := by have := hbel.size; simpa using this
    have hlk := rolesS_len S k
    by_cases hlt : k < S.length
    · have d1 : decide ((k : Int) < S.length) = true := by simp; omega
      have p1 : (0 : Int) ≤ k := by omega
      have p2 : (k : Int) < S.length := by omega
      have hs := HP.out.s.below (low hbel)
      obtain ⟨g, o, e1, hg, hc⟩ := hs (by show 0 < S.length; omega)
      obtain rfl := e1
      obtain ⟨a0, a1, a2, a3, a4, a5, a6, a7, a8⟩ := hc k hlt
      have HR : Hid (∀ w', Calls Try.prog 76 #[.agg #[.int .i64 S[k].kind, .string S[k].head.owner, .string S[k].head.name, .string S[k].who, .string S[k].a.owner, .string S[k].a.name, .string S[k].b.owner, .string S[k].b.name, .string S[k].via]] w' (SynJ.RolesPost S[k] w')) := Lib.hid (fun w' => SynJ.roles S[k] w')
      have Hs := Lib.hid (rolesS_succ hlt)
      have h3 := rolesL_len S[k]
      clear hs hc
      go_wp2_with fail
      refine (HR.out _).mono ?_
      rintro e w2 ⟨A, rfl, hr, hg2⟩
      have hb2 : Below wr.heap.size wr w2 := ((Below.refl _ wr).alloc (Nat.le_refl _) _).trans (hg2.below.mono (by simp))
      have hownW := own_at hown.out hb2
      have hbelW := hbel.trans (hb2.mono zr)
      have zW : w.heap.size + 1 ≤ w2.heap.size := by have := hb2.size; omega
      have H0 := Lib.hid (fun h : A = none => by rw [h] at hr; exact PolF.rg_none_len (RG.of_rat hr))
      have H1 := Lib.hid (rg_cells (RG.of_rat hr))
      clear hr hg2 hb2 hown hbel a0 a1 a2 a3 a4 a5 a6 a7 a8
      go_wp2_with (at_builtin; refine wpList_append_from _ rfl _ _ 46 rfl (w.heap.size + 1) 24 i0 (.agg #[.string ⟨#[]⟩, .string ⟨#[]⟩]) 2 32 Try.underlying46 hi hz0 hz1 hz2 rfl (by decide) _ _ _ rfl hownW A (rolesL S[k]).length (rolesL S[k]).length (rcells (rolesL S[k])) rfl (rcells_len _) H0.out H1.out (rcells_one _) (by unfold maxLen; simp; omega) (by simp; omega) zW ?_)
      intro v2 w3 hown3 hgrow
      have hbel3 := hbelW.grown hgrow (by simpa using zW) (fun k hk => (hownW.lt k hk).1)
      have hown4 : w3.ownsRow (w.heap.size + 1) 24 2 v2 (R0 ++ rolesS S (k + 1)).length (rcells (R0 ++ rolesS S (k + 1))) := by
        rw [Hs.out, ← List.append_assoc, List.length_append, List.length_append, rcells_app]; exact hown3
      have HO4 := Lib.hid hown4
      clear hownW hbelW hgrow hown3 hown4
      go_wp2_with fail
      go_roundw
      case rel => exact ⟨k + 1, v2, by omega, rfl, by go_num, HO4, hbel3⟩
      case measure => simp [intOf]; omega
    · have d1 : decide ((k : Int) < S.length) = false := by simp; omega
      have hkS : k = S.length := by omega
      subst hkS
      have hcP := box_cell hbel
      have hR1 : (R0 ++ rolesS S S.length).length ≤ 6000 := by simp; omega
      obtain ⟨R1, hR1e⟩ : ∃ R1, R0 ++ rolesS S S.length = R1 := ⟨_, rfl⟩
      rw [hR1e] at hown hR1
      have HR1 := Lib.hid hR1e
      clear hR1e
      have HO1 := hown
      have HB1 := Lib.hid hbel
      clear hown hbel hlk HO HB
      go_wp2_with fail
      clear hcP
      go_loopw [3, 29] (fun l i wx => ∃ (k : Nat) (v : Value), k ≤ Q.length ∧ l = v ∧ i = .int .i64 k ∧ Hid (wx.ownsRow (w.heap.size + 1) 24 2 v (R1 ++ rolesA Q k).length (rcells (R1 ++ rolesA Q k))) ∧ Below (w.heap.size + 1) (w.alloc (.cells #[.slice A1 S.length c1, .slice A2 G.length c2, .slice A3 H.length c3, .slice A4 Q.length c4] 49)) wx) (fun _ i _ => Q.length - (intOf i).toNat)
      case atStart => exact ⟨0, _, by omega, rfl, rfl, by simpa [rolesA] using HO1, HB1.out⟩
      case round =>
        obtain ⟨k, v3, hk, rfl, rfl, hown, hbel⟩ := hrel
        have zr : w.heap.size + 1 ≤ wr.heap.size := by have := hbel.size; simpa using this
        have hlk := rolesA_len Q k
        by_cases hlt : k < Q.length
        · have d1 : decide ((k : Int) < Q.length) = true := by simp; omega
          have p1 : (0 : Int) ≤ k := by omega
          have p2 : (k : Int) < Q.length := by omega
          have hs := HP.out.q.below (low hbel)
          obtain ⟨g, o, e1, hg, hc⟩ := hs (by show 0 < Q.length; omega)
          obtain rfl := e1
          obtain ⟨B, cB, a0, a1, a2, a3, a4, a5, _⟩ := hc k hlt
          have HR : Hid (∀ w', Calls Try.prog 77 #[.agg #[.int .i64 Q[k].kind, .string Q[k].a.owner, .string Q[k].a.name, .string Q[k].b.owner, .string Q[k].b.name, .slice B Q[k].who.length cB]] w' (QryO.RolesPostQ Q[k] w')) := Lib.hid (fun w' => QryO.rolesOf Q[k] B cB w')
          have Hs := Lib.hid (rolesA_succ hlt)
          have h3 := rolesQ_len Q[k]
          clear hs hc
          go_wp2_with fail
          refine (HR.out _).mono ?_
          rintro e w2 ⟨A, rfl, hr, hg2⟩
          have hb2 : Below wr.heap.size wr w2 := ((Below.refl _ wr).alloc (Nat.le_refl _) _).trans (hg2.mono (by simp))
          have hownW := own_at hown.out hb2
          have hbelW := hbel.trans (hb2.mono zr)
          have zW : w.heap.size + 1 ≤ w2.heap.size := by have := hb2.size; omega
          have H0 := Lib.hid (fun h : A = none => by rw [h] at hr; exact PolF.rg_none_len (RG.of_rat hr))
          have H1 := Lib.hid (rg_cells (RG.of_rat hr))
          clear hr hg2 hb2 hown hbel a0 a1 a2 a3 a4 a5
          go_wp2_with (at_builtin; refine wpList_append_from _ rfl _ _ 46 rfl (w.heap.size + 1) 24 i0 (.agg #[.string ⟨#[]⟩, .string ⟨#[]⟩]) 2 32 Try.underlying46 hi hz0 hz1 hz2 rfl (by decide) _ _ _ rfl hownW A (QryO.rolesQ Q[k]).length (QryO.rolesQ Q[k]).length (rcells (QryO.rolesQ Q[k])) rfl (rcells_len _) H0.out H1.out (rcells_one _) (by unfold maxLen; simp; omega) (by simp; omega) zW ?_)
          intro v2 w3 hown3 hgrow
          have hbel3 := hbelW.grown hgrow (by simpa using zW) (fun k hk => (hownW.lt k hk).1)
          have hown4 : w3.ownsRow (w.heap.size + 1) 24 2 v2 (R1 ++ rolesA Q (k + 1)).length (rcells (R1 ++ rolesA Q (k + 1))) := by
            rw [Hs.out, ← List.append_assoc, List.length_append, List.length_append, rcells_app]; exact hown3
          have HO4 := Lib.hid hown4
          clear hownW hbelW hgrow hown3 hown4
          go_wp2_with fail
          go_roundw
          case rel => exact ⟨k + 1, v2, by omega, rfl, by go_num, HO4, hbel3⟩
          case measure => simp [intOf]; omega
        · have d1 : decide ((k : Int) < Q.length) = false := by simp; omega
          have hkQ : k = Q.length := by omega
          subst hkQ
          obtain ⟨A', c', rfl, hrat⟩ := rat_own hown.out
          have hfin : Hid (RAt wr A' (R0 ++ rolesS S S.length ++ rolesA Q Q.length) ∧ (R1 ++ rolesA Q Q.length).length = (R0 ++ rolesS S S.length ++ rolesA Q Q.length).length) := Lib.hid (by rw [HR1.out]; exact ⟨hrat, rfl⟩)
          have hlow := Lib.hid (low hbel)
          clear hrat hown hbel
          go_wp2_with fail
          go_ret
          exact ⟨A', c', by rw [← hfin.out.2]; rfl, hfin.out.1, hlow.out⟩
end Go.Proofs.Ytnhjnimgjpgfcaa.PolG
/- Rows of roles and of statements: are two the same, is one there, the row with one more; by contract. -/
namespace Go.Proofs.Ytnhjnimgjpgfcaa.PolJ
set_option linter.unusedVariables false
set_option linter.unusedSimpArgs false
open Go.RowKit Go.Sort Go.Lib Go.Proofs Go.Proofs.Ytnhjnimgjpgfcaa.Plain Go.Proofs.Ytnhjnimgjpgfcaa.SynP Go.Proofs.Ytnhjnimgjpgfcaa.Grown Go.Proofs.Ytnhjnimgjpgfcaa.SynC Go.Proofs.Ytnhjnimgjpgfcaa.SynD2 Go.Proofs.Ytnhjnimgjpgfcaa.SynD3 Go.Proofs.Ytnhjnimgjpgfcaa.SynJ Go.Proofs.Ytnhjnimgjpgfcaa.QryP Go.Proofs.Ytnhjnimgjpgfcaa.PolA Go.Proofs.Ytnhjnimgjpgfcaa.PolE Go.Proofs.Ytnhjnimgjpgfcaa.PolG
set_option linter.unusedVariables false
set_option linter.unusedSimpArgs false
theorem same_all {α : Type} {T U : List α} (hl : T.length = U.length) (h : ∀ j, j < T.length → T[j]? = U[j]?) : T = U := List.ext_getElem? fun j => by
  by_cases hj : j < T.length
  · exact h j hj
  · rw [List.getElem?_eq_none (by omega), List.getElem?_eq_none (by omega)]
end Go.Proofs.Ytnhjnimgjpgfcaa.PolJ
/- Is a role, a statement, in a row; the row with one more; by contract. -/
namespace Go.Proofs.Ytnhjnimgjpgfcaa.PolK
set_option linter.unusedVariables false
set_option linter.unusedSimpArgs false
open Go.RowKit Go.Sort Go.Lib Go.Proofs Go.Proofs.Ytnhjnimgjpgfcaa.Plain Go.Proofs.Ytnhjnimgjpgfcaa.SynP Go.Proofs.Ytnhjnimgjpgfcaa.Grown Go.Proofs.Ytnhjnimgjpgfcaa.SynC Go.Proofs.Ytnhjnimgjpgfcaa.SynD2 Go.Proofs.Ytnhjnimgjpgfcaa.SynD3 Go.Proofs.Ytnhjnimgjpgfcaa.SynJ Go.Proofs.Ytnhjnimgjpgfcaa.QryP Go.Proofs.Ytnhjnimgjpgfcaa.PolA Go.Proofs.Ytnhjnimgjpgfcaa.PolE Go.Proofs.Ytnhjnimgjpgfcaa.PolG
set_option linter.unusedVariables false
set_option linter.unusedSimpArgs false
def Rl.cellsL (r : Rl) : List Value := [.string r.owner, .string r.name]
def St.cellsL (s : St) : List Value := s.cells
def Rl.cellsA (r : Rl) : Array Value := #[.string r.owner, .string r.name]
def St.cellsA (s : St) : Array Value := s.cells.toArray
def addL {α : Type} [DecidableEq α] (T : List α) (x : α) : List α := if x ∈ T then T else T ++ [x]
theorem infoStB : (Try.prog.info? 26).map (fun i => (i.zero, i.size, i.bytes)) = some (some zeroS.val, 9, 136) := by kernel_rfl
theorem rg_of_own {w : World} {B : Nat} {A : Option Addr} {ca : Nat} {T : List Rl} (h : w.ownsRow B 24 2 (.slice A T.length ca) T.length (rcells T)) : RG w A T := by
  obtain ⟨A', c', e, hr⟩ := rat_own h
  injection e with e1
  subst e1
  exact RG.of_rat hr
theorem sg_of_own {w : World} {B : Nat} {A : Option Addr} {ca : Nat} {T : List St} (h : w.ownsRow B 26 9 (.slice A T.length ca) T.length (stCells T)) : SG w A T := by
  obtain ⟨A', c', e, _, hr⟩ := StRow.of_own h
  injection e with e1
  subst e1
  exact SG.of_row hr
theorem src_new {X : World} {n : Nat} (hn : X.heap.size = n) (cs : List Value) (t : TypeId) : ∀ ad, some (⟨n, 0, none⟩ : Addr) = some ad → ∀ j u, cs[j]? = some u → (X.alloc (.cells cs.toArray t)).cell? (ad.add j) = some u := by
  subst hn
  rintro ad e j u hu
  injection e with e
  subst e
  rw [add_off, Nat.zero_add, Lib.cell_of_heap (heap_alloc_new X _), List.getElem?_toArray]
  exact hu
end Go.Proofs.Ytnhjnimgjpgfcaa.PolK
/- Light of a policy: what it gives, by contract. -/
namespace Go.Proofs.Ytnhjnimgjpgfcaa.PolLi
set_option linter.unusedVariables false
set_option linter.unusedSimpArgs false
open Go.RowKit Go.Sort Go.Lib Go.Proofs Go.Proofs.Ytnhjnimgjpgfcaa.Plain Go.Proofs.Ytnhjnimgjpgfcaa.SynP Go.Proofs.Ytnhjnimgjpgfcaa.TabP Go.Proofs.Ytnhjnimgjpgfcaa.Tab1 Go.Proofs.Ytnhjnimgjpgfcaa.Grown Go.Proofs.Ytnhjnimgjpgfcaa.QryP Go.Proofs.Ytnhjnimgjpgfcaa.SynJ Go.Proofs.Ytnhjnimgjpgfcaa.PolA Go.Proofs.Ytnhjnimgjpgfcaa.PolE Go.Proofs.Ytnhjnimgjpgfcaa.PolOp
set_option linter.unusedVariables false
set_option linter.unusedSimpArgs false
section
variable {P : Program} (w : World)
/-- An append in a region that draws its order: of a source that reads as cells, nil let in. -/
theorem step_append_from {ops : Array Oper} {o : Oper} {a : Act} {K : Act → World → Prop} {Q : Exit → Act → World → Prop} {E : Prop} (hgd : o.guard = none) (s x : Operand) (t : TypeId)
    (ho : o.op = .call { callee := .builtin .append, args := #[s, x], argTypes := #[t, t] })
    (base : Nat) (e : TypeId) (i : TypeInfo) (z : Value) (size bytes : Nat) (ht : P.underlying t = some (.slice e)) (hi : P.info? e = some i) (hz : i.zero = some z)
    (hsize : i.size = size) (hby : i.bytes = bytes) (hzs : z.cells.size = size) (hsz : 0 < size) (v : Value) (n : Nat) (xs : List Value) (hs : a.eval s = v) (hown : w.ownsRow base e size v n xs)
    (A : Option Addr) (m c : Nat) (news : List Value) (hx : a.eval x = .slice A m c) (hlen : news.length = m * size) (h0 : A = none → m = 0) (hA : ∀ ad, A = some ad → ∀ j u, news[j]? = some u → w.cell? (ad.add j) = some u) (h1 : ∀ u ∈ news, u.oneCell' = true)
    (h63 : n + m ≤ maxLen) (hbytes : (n + m) * bytes ≤ 140737488355328) (hbase : base ≤ w.heap.size)
    (h : ∀ v' w', w'.ownsRow base e size v' (n + m) (xs ++ news) → w.grownBy w' v.ownBlock → K (a.put o.dst v') w') :
    if Region.wanted o (yielded ops a.tmps) = true then Oper.wp P o a w K Q else E := by
  have hw : Region.wanted o (yielded ops a.tmps) = true := by simp [Region.wanted, hgd]
  rw [if_pos hw]
  obtain ⟨v', w', hr, h2, h3⟩ := SynC.run_append_from (P := P) w base t o.type e i z size bytes ht hi hz hsize hby hzs hsz v n xs hown A m c news hlen h0 hA h1 h63 hbytes hbase
  unfold Oper.wp execOp
  simp only [ho, resolve, invoke, builtin, Sem.run_bind, Sem.run_pure, Result.andThen_ok, List.map_toArray, List.map_cons, List.map_nil, hs, hx, hr]
  exact h v' w' h2 h3
end
theorem nx {W w1 w2 : World} (h : Below W.heap.size W w1) (hb : Below w1.heap.size w1 w2) : Below W.heap.size W w2 := h.trans (hb.mono h.size)
theorem light40 {T : List Str} (h : Tab6.lightB T = true) : T.length ≤ 40 := by
  unfold Tab6.lightB at h
  rw [Bool.and_eq_true, decide_eq_true_iff] at h
  exact h.1
theorem own_n {w : World} {B n k : Nat} {e : TypeId} {v : Value} {xs : List Value} (h : w.ownsRow B e k v n xs) : ∃ A c, v = .slice A n c := by
  rcases h.2 with ⟨rfl, rfl⟩ | ⟨g, cap, cur, rfl, _⟩
  · exact ⟨none, 0, rfl⟩
  · exact ⟨_, cap, rfl⟩
theorem rg_none {w : World} {A : Option Addr} {L : List Rl} (h : RG w A L) : A = none → L.length = 0 := fun e => by
  rcases Nat.eq_zero_or_pos L.length with h0 | h0
  · exact h0
  · obtain ⟨g, o, hA, _⟩ := h h0
    rw [e] at hA; cases hA
theorem below_grown {W w w1 : World} {B n k : Nat} {e : TypeId} {v : Value} {xs : List Value} (hb : Below W.heap.size W w) (ho : w.ownsRow B e k v n xs) (hg : w.grownBy w1 v.ownBlock) (hB : W.heap.size ≤ B) (hBw : B ≤ w.heap.size) : Below W.heap.size W w1 :=
  hb.grown hg (by omega) (fun j hj => Nat.le_trans hB (ho.lt j hj).1)
/-- What a light policy is sure to be. -/
structure Few (p : Py) : Prop where
  n1 : p.stmts.length ≤ 30
  n2 : p.grow.length ≤ 30
  n3 : p.shrink.length ≤ 30
  n4 : p.asks.length ≤ 30
  n5 : ∀ q ∈ p.asks, q.who.length ≤ 40
theorem Few.fit {p : Py} (h : Few p) (c : Came p) : p.fit := ⟨by have := h.n1; omega, by have := h.n2; omega, by have := h.n3; omega, by have := h.n4; omega, c.f1, c.f2, c.f3, c.f4, fun q hq => by have := h.n5 q hq; omega⟩
def LightPost (p : Py) (w : World) (e : Ending) (w' : World) : Prop := ∃ b, e = .returned (.bool b) ∧ (b = true → Few p) ∧ Below w.heap.size w w'
set_option maxHeartbeats 2000000 in
set_option maxRecDepth 100000 in
theorem light (p : Py) (A1 A2 A3 A4 : Option Addr) (c1 c2 c3 c4 : Nat) (w : World) (hc : Came p) (hp : PG w A1 A2 A3 A4 p) : Calls Try.prog 20 #[p.val A1 A2 A3 A4 c1 c2 c3 c4] w (LightPost p w) := by
  obtain ⟨S, G, H, Q⟩ := p
  have HP := Lib.hid hp
  have HC := Lib.hid hc
  have m1 := hc.n1
  have m2 := hc.n2
  have m3 := hc.n3
  have m4 := hc.n4
  unfold maxLen at m1 m2 m3 m4
  simp only at m1 m2 m3 m4
  clear hp hc
  have HZ : Hid (∀ w', Below w.heap.size w w' → LightPost ⟨S, G, H, Q⟩ w (.returned (.bool false)) w') := Lib.hid (fun w' hb => ⟨false, rfl, (fun h => by cases h), hb⟩)
  show Calls _ _ #[.agg #[.slice A1 S.length c1, .slice A2 G.length c2, .slice A3 H.length c3, .slice A4 Q.length c4]] _ _
  have hbx : Below w.heap.size w (w.alloc (.cells #[.slice A1 S.length c1, .slice A2 G.length c2, .slice A3 H.length c3, .slice A4 Q.length c4] 49)) := (Below.refl _ _).alloc (Nat.le_refl _) _
  have HB0 := Lib.hid hbx
  have HX : Hid (∀ w', Below (w.alloc (.cells #[.slice A1 S.length c1, .slice A2 G.length c2, .slice A3 H.length c3, .slice A4 Q.length c4] 49)).heap.size (w.alloc (.cells #[.slice A1 S.length c1, .slice A2 G.length c2, .slice A3 H.length c3, .slice A4 Q.length c4] 49)) w' → ∀ o, w'.cell? ⟨w.heap.size, o, none⟩ = (#[.slice A1 S.length c1, .slice A2 G.length c2, .slice A3 H.length c3, .slice A4 Q.length c4] : Array Value)[o]?) := Lib.hid (fun w' hb o => Lib.cell_of_heap ((hb.block _ (by simp)).trans (heap_alloc_new w _)) o)
  clear hbx
  go_enter Try.func20, Try.ntmps20
  go_upto_region 1 with fail
  generalize w.alloc (.cells #[.slice A1 S.length c1, .slice A2 G.length c2, .slice A3 H.length c3, .slice A4 Q.length c4] 49) = w0 at *
  have c0 := HX.out w0 (Below.refl _ _)
  by_cases g1 : 30 < S.length
  · have d1 : decide ((30 : Int) < (S.length : Int)) = true := by simp; omega
    go_wp2_with fail
    go_ret
    exact HZ.out _ HB0.out
  have d1 : decide ((30 : Int) < (S.length : Int)) = false := by simp; omega
  by_cases g2 : 30 < G.length
  · have d2 : decide ((30 : Int) < (G.length : Int)) = true := by simp; omega
    go_wp2_with fail
    go_ret
    exact HZ.out _ HB0.out
  have d2 : decide ((30 : Int) < (G.length : Int)) = false := by simp; omega
  by_cases g3 : 30 < H.length
  · have d3 : decide ((30 : Int) < (H.length : Int)) = true := by simp; omega
    go_wp2_with fail
    go_ret
    exact HZ.out _ HB0.out
  have d3 : decide ((30 : Int) < (H.length : Int)) = false := by simp; omega
  by_cases g4 : 30 < Q.length
  · have d4 : decide ((30 : Int) < (Q.length : Int)) = true := by simp; omega
    go_wp2_with fail
    go_ret
    exact HZ.out _ HB0.out
  have d4 : decide ((30 : Int) < (Q.length : Int)) = false := by simp; omega
  go_wp2_with fail
  clear d1 d2 d3 d4 c0
  go_loopw [34] (fun i wr => ∃ j : Nat, j ≤ S.length ∧ i = .int .i64 j ∧ Below w0.heap.size w0 wr) (fun i _ => S.length - (intOf i).toNat)
  case atStart => exact ⟨0, by omega, rfl, Below.refl _ _⟩
  case round =>
    obtain ⟨j, hj, rfl, hb⟩ := hrel
    by_cases hlt : j < S.length
    · have e1 : decide ((j : Int) < S.length) = true := by simp; omega
      have p0 : (0 : Int) ≤ j := by omega
      have p1 : (j : Int) < S.length := by omega
      obtain ⟨g, o, rfl, hg, hcell⟩ := (HP.out.s.below (nx HB0.out hb)) (by show 0 < S.length; omega)
      obtain ⟨a0, a1, a2, a3, a4, a5, a6, a7, a8⟩ := hcell j hlt
      have HL := Lib.hid (fun w' => TblM.light S[j] w')
      simp only at a0 a1 a2 a3 a4 a5 a6 a7 a8
      have HBk := Lib.hid hb
      clear hcell hb
      generalize S[j] = s at *
      obtain ⟨k1, ⟨ho, hn⟩, wh, ⟨ao, an⟩, ⟨bo, bn⟩, v⟩ := s
      unfold St.val at HL
      simp only at a0 a1 a2 a3 a4 a5 a6 a7 a8 HL
      generalize TblM.lightS _ = l1 at *
      have cb : ∀ o, (wr.alloc (.cells #[.int .i64 k1, .string ho, .string hn, .string wh, .string ao, .string an, .string bo, .string bn, .string v] 26)).cell? ⟨wr.heap.size, o, none⟩ = (#[.int .i64 k1, .string ho, .string hn, .string wh, .string ao, .string an, .string bo, .string bn, .string v] : Array Value)[o]? := fun o => Lib.cell_of_heap (heap_alloc_new wr _) o
      have HBb := Lib.hid (nx HBk.out ((Below.refl wr.heap.size wr).alloc (Nat.le_refl _) (.cells #[.int .i64 k1, .string ho, .string hn, .string wh, .string ao, .string an, .string bo, .string bn, .string v] 26)))
      go_wp2_with fail
      refine (HL.out _).mono ?_
      rintro e w2 ⟨rfl, hg2⟩
      have HB2 := Lib.hid (nx HBb.out hg2.below)
      clear hg2 cb a0 a1 a2 a3 a4 a5 a6 a7 a8
      cases l1
      · go_wp2_with fail
        go_ret
        exact HZ.out _ (nx HB0.out HB2.out)
      · go_wp2_with fail
        go_roundw
        case rel => exact ⟨j + 1, by omega, by go_num, HB2.out⟩
        case measure => simp [intOf]; omega
    · have e1 : decide ((j : Int) < S.length) = false := by simp; omega
      have HBk := Lib.hid hb
      have c5 := HX.out wr hb
      clear hb
      go_wp2_with fail
      clear c5
      generalize wr = w5 at *
      go_loopw [45] (fun i wr => ∃ j : Nat, j ≤ Q.length ∧ i = .int .i64 j ∧ Hid (∀ q ∈ Q.take j, q.who.length ≤ 40) ∧ Below w0.heap.size w0 wr) (fun i _ => Q.length - (intOf i).toNat)
      case atStart => exact ⟨0, by omega, rfl, Lib.hid (by simp), HBk.out⟩
      case round =>
        clear HBk
        obtain ⟨j, hj, rfl, hw, hb⟩ := hrel
        by_cases hlt : j < Q.length
        · have e1 : decide ((j : Int) < Q.length) = true := by simp; omega
          have p0 : (0 : Int) ≤ j := by omega
          have p1 : (j : Int) < Q.length := by omega
          obtain ⟨g, o, rfl, hg, hcell⟩ := (HP.out.q.below (nx HB0.out hb)) (by show 0 < Q.length; omega)
          obtain ⟨B, cB, a0, a1, a2, a3, a4, a5, hrow⟩ := hcell j hlt
          simp only at a0 a1 a2 a3 a4 a5 hrow
          have HFq := Lib.hid (HC.out.f4 Q[j] (List.getElem_mem hlt))
          have HBk := Lib.hid hb
          have HW1 : Hid (Q[j].who.length ≤ 40 → ∀ q ∈ Q.take (j + 1), q.who.length ≤ 40) := Lib.hid (fun h q hq => by
            rw [List.take_succ_eq_append_getElem hlt, List.mem_append, List.mem_singleton] at hq
            rcases hq with hq | rfl
            · exact hw.out q hq
            · exact h)
          clear hcell hb hw
          generalize Q[j] = q at *
          have HBb := Lib.hid ((Below.refl wr.heap.size wr).alloc (Nat.le_refl _) (.cells #[.int .i64 q.kind, .string q.a.owner, .string q.a.name, .string q.b.owner, .string q.b.name, .slice B q.who.length cB] 78))
          have HL := Lib.hid (QryO.light q B cB (wr.alloc (.cells #[.int .i64 q.kind, .string q.a.owner, .string q.a.name, .string q.b.owner, .string q.b.name, .slice B q.who.length cB] 78)) HFq.out (hrow.keep HBb.out))
          have HQ1 : Hid (QryO.lightQ q = true → q.who.length ≤ 40) := Lib.hid (fun h => by
            unfold QryO.lightQ at h
            rw [Bool.and_eq_true] at h
            exact light40 h.1)
          obtain ⟨k1, ⟨ao, an⟩, ⟨bo, bn⟩, T⟩ := q
          unfold Qy.val at HL
          simp only at a0 a1 a2 a3 a4 a5 HL HBb HQ1 HW1
          generalize QryO.lightQ _ = l1 at *
          have cb : ∀ o, (wr.alloc (.cells #[.int .i64 k1, .string ao, .string an, .string bo, .string bn, .slice B T.length cB] 78)).cell? ⟨wr.heap.size, o, none⟩ = (#[.int .i64 k1, .string ao, .string an, .string bo, .string bn, .slice B T.length cB] : Array Value)[o]? := fun o => Lib.cell_of_heap (heap_alloc_new wr _) o
          clear hrow HFq
          go_wp2_with fail
          refine HL.out.mono ?_
          rintro e w2 ⟨rfl, hg2⟩
          have HB2 := Lib.hid (nx HBk.out (nx HBb.out hg2.below))
          clear hg2 cb a0 a1 a2 a3 a4 a5 HL
          cases l1
          · go_wp2_with fail
            go_ret
            exact HZ.out _ (nx HB0.out HB2.out)
          · have HW2 := Lib.hid (HW1.out (HQ1.out rfl))
            go_wp2_with fail
            go_roundw
            case rel => exact ⟨j + 1, by omega, by go_num, HW2, HB2.out⟩
            case measure => simp [intOf]; omega
        · have e1 : decide ((j : Int) < Q.length) = false := by simp; omega
          have HFew : Hid (Few ⟨S, G, H, Q⟩) := Lib.hid ⟨by show S.length ≤ 30; omega, by show G.length ≤ 30; omega, by show H.length ≤ 30; omega, by show Q.length ≤ 30; omega, fun q hq => hw.out q (by rw [List.take_of_length_le (by omega)]; exact hq)⟩
          have HBk := Lib.hid hb
          have c6 := HX.out wr hb
          clear hb hw
          go_upto_region 15 with fail
          have hbA : Below w0.heap.size w0 (wr.alloc (.cells #[] 24)).drew := (HBk.out.alloc HBk.out.size _).drew
          have hd0 : ∀ o, wr.drew.cell? ⟨w.heap.size, o, none⟩ = (#[.slice A1 S.length c1, .slice A2 G.length c2, .slice A3 H.length c3, .slice A4 Q.length c4] : Array Value)[o]? := c6
          have hd1 : ∀ o, ((wr.alloc (.cells #[] 24)).drew).cell? ⟨w.heap.size, o, none⟩ = (#[.slice A1 S.length c1, .slice A2 G.length c2, .slice A3 H.length c3, .slice A4 Q.length c4] : Array Value)[o]? := HX.out _ hbA
          have hown0 : ((wr.alloc (.cells #[] 24)).drew).ownsRow wr.heap.size 24 2 (.slice (some ⟨wr.heap.size, 0, none⟩) 0 0) 0 [] := SynC.own_empty wr _ 2
          have HO0 := Lib.hid hown0
          have hG := HP.out.g.below (nx HB0.out hbA)
          have hH := HP.out.h.below (nx HB0.out hbA)
          simp only at hG hH
          have HG := Lib.hid hG
          have HH := Lib.hid hH
          have hwl : w.heap.size < wr.heap.size := by
            have := HBk.out.size
            have h2 := (HX.out w0 (Below.refl _ _) 0)
            have h3 : w0.cell? ⟨w.heap.size, 0, none⟩ = some (.slice A1 S.length c1) := h2
            have := World.block_lt_of_cell? _ _ h3
            simp only at this
            omega
          have HSz : Hid (wr.heap.size ≤ ((wr.alloc (.cells #[] 24)).drew).heap.size) := Lib.hid (by show wr.heap.size ≤ (wr.alloc _).heap.size; simp)
          have HN2 := Lib.hid (rg_none hG)
          have HN3 := Lib.hid (rg_none hH)
          have HBA := Lib.hid hbA
          obtain ⟨i0, hi, hz0, hz1, hz2⟩ := info_parts SynJ.infoRole
          clear hown0 hG hH hbA
          go_region_held3 (fun w' => ∀ o, w'.cell? ⟨w.heap.size, o, none⟩ = (#[.slice A1 S.length c1, .slice A2 G.length c2, .slice A3 H.length c3, .slice A4 Q.length c4] : Array Value)[o]?)
            (first | with_reducible assumption)
            (first | (refine step_append_from _ rfl (.tmp 53) (.tmp 55) 46 rfl wr.heap.size 24 i0 (.agg #[.string ⟨#[]⟩, .string ⟨#[]⟩]) 2 32 Try.underlying46 hi hz0 hz1 hz2 rfl (by decide) (.slice (some ⟨wr.heap.size, 0, none⟩) 0 0) 0 [] (by simp [Act.eval]) HO0.out A2 G.length c2 (rcells G) (by simp [Act.eval]) (rcells_len G) HN2.out (rg_cells HG.out) (rcells_one G) (by unfold maxLen; omega) (by omega) (by show wr.heap.size ≤ (wr.alloc _).heap.size; simp) ?_; intro v1 w1 hown1 hg1; have hs1 := Nat.le_trans HSz.out hg1.size; have hb1 := Lib.hid (below_grown HBA.out HO0.out hg1 HBk.out.size (by show wr.heap.size ≤ (wr.alloc _).heap.size; simp)); have hd2 := HX.out _ hb1.out)
                   | (refine step_append_from _ rfl (.tmp 56) (.tmp 58) 46 rfl wr.heap.size 24 i0 (.agg #[.string ⟨#[]⟩, .string ⟨#[]⟩]) 2 32 Try.underlying46 hi hz0 hz1 hz2 rfl (by decide) v1 (0 + G.length) ([] ++ rcells G) (by simp [Act.eval]) hown1 A3 H.length c3 (rcells H) (by simp [Act.eval]) (rcells_len H) HN3.out (rg_cells (HP.out.h.below (nx HB0.out hb1.out))) (rcells_one H) (by unfold maxLen; omega) (by omega) hs1 ?_; intro v2 w2 hown2 hg2; obtain ⟨A5, c5, rfl⟩ := own_n hown2; have hb2 := Lib.hid (below_grown hb1.out hown1 hg2 HBk.out.size hs1); have hd3 := HX.out _ hb2.out))
          obtain ⟨T, hT⟩ : ∃ T, T = G ++ H := ⟨_, rfl⟩
          have hTl : T.length = 0 + G.length + H.length := by rw [hT]; simp
          have hTr : rcells T = [] ++ rcells G ++ rcells H := by rw [hT, rcells_app]; simp
          rw [← hTl, ← hTr] at hown2
          rw [← hTl]
          have hRT := PolK.rg_of_own hown2
          have HRT := Lib.hid hRT
          have HB2 := hb2
          have hT60 : T.length ≤ 60 := by omega
          clear hb1 hb2 hd0 hd1 hd2 hd3 hown1 hg1 hown2 hg2 hTr hT hRT c6 hs1
          go_wp2_with fail
          go_loopw [61] (fun i wr => ∃ j : Nat, j ≤ T.length ∧ i = .int .i64 j ∧ Below w2.heap.size w2 wr) (fun i _ => T.length - (intOf i).toNat)
          case atStart => exact ⟨0, by omega, rfl, Below.refl _ _⟩
          case round =>
            obtain ⟨j, hj, rfl, hb⟩ := hrel
            have HBF := Lib.hid (nx (nx HB0.out HB2.out) hb)
            by_cases hlt : j < T.length
            · have e1 : decide ((j : Int) < T.length) = true := by simp; omega
              have e2 : decide ((j : Int) < (G.length : Int) + (H.length : Int)) = true := by simp; omega
              have p2 : (j : Int) < (G.length : Int) + (H.length : Int) := by omega
              have p0 : (0 : Int) ≤ j := by omega
              have p1 : (j : Int) < T.length := by omega
              obtain ⟨g, o, rfl, hg, hcell⟩ := (HRT.out.below hb) (by omega)
              obtain ⟨a0, a1⟩ := hcell j hlt
              have HBk := Lib.hid (nx hb ((Below.refl wr.heap.size wr).alloc (Nat.le_refl _) (.cells #[.string T[j].owner, .string T[j].name] 24)))
              have HBG := Lib.hid (nx HBF.out ((Below.refl wr.heap.size wr).alloc (Nat.le_refl _) (.cells #[.string T[j].owner, .string T[j].name] 24)))
              clear hcell hb
              generalize T[j].owner = x at *
              generalize T[j].name = y at *
              by_cases q1 : 40 < x.size
              · have f1 : decide ((40 : Int) < (x.size : Int)) = true := by simp; omega
                go_wp2_with fail
                go_ret
                exact HZ.out _ HBG.out
              · have f1 : decide ((40 : Int) < (x.size : Int)) = false := by simp; omega
                by_cases q2 : 40 < y.size
                · have f2 : decide ((40 : Int) < (y.size : Int)) = true := by simp; omega
                  go_wp2_with fail
                  go_ret
                  exact HZ.out _ HBG.out
                · have f2 : decide ((40 : Int) < (y.size : Int)) = false := by simp; omega
                  go_wp2_with fail
                  go_roundw
                  case rel => exact ⟨j + 1, by omega, by go_num, HBk.out⟩
                  case measure => simp [intOf]; omega
            · have e1 : decide ((j : Int) < T.length) = false := by simp; omega
              have e2 : decide ((j : Int) < (G.length : Int) + (H.length : Int)) = false := by simp; omega
              clear hb
              go_wp2_with fail
              go_ret
              exact ⟨true, rfl, fun _ => HFew.out, HBF.out⟩
end Go.Proofs.Ytnhjnimgjpgfcaa.PolLi
/- Rows of the call's own that lie beside one another: what an append leaves of the others. -/
namespace Go.Proofs.Ytnhjnimgjpgfcaa.PolO
set_option linter.unusedVariables false
set_option linter.unusedSimpArgs false
open Go.RowKit Go.Sort Go.Lib Go.Proofs Go.Proofs.Ytnhjnimgjpgfcaa.Plain Go.Proofs.Ytnhjnimgjpgfcaa.SynP Go.Proofs.Ytnhjnimgjpgfcaa.TabP Go.Proofs.Ytnhjnimgjpgfcaa.Tab1 Go.Proofs.Ytnhjnimgjpgfcaa.Grown Go.Proofs.Ytnhjnimgjpgfcaa.SynC Go.Proofs.Ytnhjnimgjpgfcaa.SynD2 Go.Proofs.Ytnhjnimgjpgfcaa.SynJ Go.Proofs.Ytnhjnimgjpgfcaa.QryP Go.Proofs.Ytnhjnimgjpgfcaa.PolA Go.Proofs.Ytnhjnimgjpgfcaa.PolE Go.Proofs.Ytnhjnimgjpgfcaa.PolG Go.Proofs.Ytnhjnimgjpgfcaa.PolK
set_option linter.unusedVariables false
set_option linter.unusedSimpArgs false
/-- The block of a row that was appended to: the old one, or one that is new. -/
def Moves (w : World) (b b' : Option Nat) : Prop := b' = b ∨ ∃ g, b' = some g ∧ w.heap.size ≤ g
section
variable {P : Program} (w : World)
theorem wpList_append_at {ops : Array Oper} {rest : List Oper} {o : Oper} {a : Act} {Q : Exit → Act → World → Prop} (hgd : o.guard = none) (s x : Operand) (t : TypeId)
    (ho : o.op = .call { callee := .builtin .append, args := #[s, x], argTypes := #[t, t] })
    (base : Nat) (e : TypeId) (i : TypeInfo) (z : Value) (size bytes : Nat) (ht : P.underlying t = some (.slice e)) (hi : P.info? e = some i) (hz : i.zero = some z)
    (hsize : i.size = size) (hby : i.bytes = bytes) (hzs : z.cells.size = size) (hsz : 0 < size) (v : Value) (n : Nat) (xs : List Value) (hs : a.eval s = v) (hown : w.ownsRow base e size v n xs)
    (ad : Addr) (m c : Nat) (news : List Value) (hx : a.eval x = .slice (some ad) m c) (hlen : news.length = m * size) (hA : ∀ ad', some ad = some ad' → ∀ j u, news[j]? = some u → w.cell? (ad'.add j) = some u) (h1 : ∀ u ∈ news, u.oneCell' = true)
    (h63 : n + m ≤ maxLen) (hbytes : (n + m) * bytes ≤ 140737488355328) (hbase : base ≤ w.heap.size)
    (h : ∀ v' w', w'.ownsRow base e size v' (n + m) (xs ++ news) → w.grownBy w' v.ownBlock → Moves w v.ownBlock v'.ownBlock → wpList P ops Q rest (a.put o.dst v') w') : wpList P ops Q (o :: rest) a w := by
  obtain ⟨v', w', hrun, h2, h3, _, h5⟩ := run_append_own_at (P := P) w base t o.type e i z size bytes ht hi hz hsize hby hzs hsz v n xs hown ad m c news hlen (hA ad rfl) h1 h63 hbytes hbase
  refine Lib.wpList_append_run w hgd s x t t ho v _ hs hx v' w' hrun (h v' w' h2 h3 ?_)
  rcases h5 with h | h
  · exact .inl h
  · exact .inr ⟨_, h, Nat.le_refl _⟩
end
/-- Beside one row all that lies stays. -/
theorem beside_own {w w' : World} {b : Option Nat} {base : Nat} {e : TypeId} {size : Nat} {v : Value} {n : Nat} {xs : List Value} (h : w.ownsRow base e size v n xs) (hg : w.grownBy w' b) (hd : ∀ g, v.ownBlock = some g → b ≠ some g) : w'.ownsRow base e size v n xs := by
  refine ⟨h.1, ?_⟩
  rcases h.2 with h0 | ⟨g, cap, cur, rfl, hB, hh, hc⟩
  · exact .inl h0
  · refine .inr ⟨g, cap, cur, rfl, hB, ?_, hc⟩
    have hlt : g < w.heap.size := (Array.getElem?_eq_some_iff.1 hh).1
    rw [hg.block g hlt (fun e => hd g rfl e.symm)]
    exact hh
theorem grown_trans {w w1 w2 : World} {b : Option Nat} (h : w.grownBy w1 b) (k : w1.grownBy w2 b) : w.grownBy w2 b :=
  ⟨k.os.trans h.os, k.tape.trans h.tape, k.output.trans h.output, Nat.le_trans h.size k.size, fun j hj hb => (k.block j (Nat.lt_of_lt_of_le hj h.size) hb).trans (h.block j hj hb)⟩
theorem grown_below {w w1 : World} {b : Option Nat} (h : Below w.heap.size w w1) : w.grownBy w1 b :=
  ⟨h.os, h.tape, h.output, h.size, fun j hj _ => h.block j hj⟩
theorem below_of_grown {w w1 : World} {b : Option Nat} {B : Nat} (h : w.grownBy w1 b) (hb : ∀ g, b = some g → B ≤ g) (hB : B ≤ w.heap.size) : Below B w w1 :=
  (Below.refl B w).grown h hB hb
end Go.Proofs.Ytnhjnimgjpgfcaa.PolO
/- Plain mathematics: what a kind that a line's tokens go on as comes to, in the document's words. -/
namespace Go.Proofs.Ytnhjnimgjpgfcaa.QryRm
set_option linter.unusedVariables false
set_option linter.unusedSimpArgs false
open Go.RowKit Go.Sort Go.Proofs.Ytnhjnimgjpgfcaa.Plain Go.Proofs.Ytnhjnimgjpgfcaa.SynP Go.Proofs.Ytnhjnimgjpgfcaa.TabP Go.Proofs.Ytnhjnimgjpgfcaa.SynR Go.Proofs.Ytnhjnimgjpgfcaa.SynV Go.Proofs.Ytnhjnimgjpgfcaa.SynZ Go.Proofs.Ytnhjnimgjpgfcaa.QryP Go.Proofs.Ytnhjnimgjpgfcaa.Qry4 Go.Proofs.Ytnhjnimgjpgfcaa.Qry5 Go.Proofs.Ytnhjnimgjpgfcaa.Qry7 Go.Proofs.Ytnhjnimgjpgfcaa.QryA Go.Proofs.Ytnhjnimgjpgfcaa.QryB Go.Proofs.Ytnhjnimgjpgfcaa.QryC Go.Proofs.Ytnhjnimgjpgfcaa.QryD Go.Proofs.Ytnhjnimgjpgfcaa.QryM
theorem good1 {t : Tk} (h : goodTk t) (k : t.kind = 1) : named capB t.text.data.toList = true := by
  rcases h with h | h | h | h | h
  · exact h.2
  all_goals (have := h.1; omega)
theorem good2 {t : Tk} (h : goodTk t) (k : t.kind = 2) : named smallB t.text.data.toList = true := by
  rcases h with h | h | h | h | h
  · have := h.1; omega
  · exact h.2
  all_goals (have := h.1; omega)
theorem readW_lt : ∀ (L : List Tk) (T : List Str), (readW L T).2.2 = true → (readW L T).2.1 < L.length
  | [], T, h => by simp [readW] at h
  | t :: L, T, h => by
    unfold readW at h ⊢
    by_cases hk : t.kind = 1
    · rw [if_pos hk] at h ⊢
      by_cases hs : strOf t.text ∈ T
      · rw [if_pos hs] at h ⊢
        have := readW_lt L T h
        simp; omega
      · rw [if_neg hs] at h ⊢
        by_cases h12 : T.length = 12
        · rw [if_pos h12]; simp
        · rw [if_neg h12] at h ⊢
          have := readW_lt L _ h
          simp; omega
    · rw [if_neg hk] at h
      simp at h
theorem who_ok {L : List Tk} (hg : ∀ t ∈ L, goodTk t) : whoOk (readW L []).1 = true := by
  obtain ⟨a, b, _, d⟩ := readW_ok L [] (by simp) List.Pairwise.nil
  unfold whoOk
  have h1 : (readW L []).1.all prinS = true := by
    rw [List.all_eq_true]
    intro s hs
    rcases d s hs with h | ⟨t, ht, hk, rfl⟩
    · simp at h
    · exact good1 (hg t ht) hk
  rw [h1, decide_eq_true a, decide_eq_true (tab_id.2 b)]; rfl
theorem hit8 {k : Int} (hk : k = 5 ∨ k = 6) {L : List Tk} (hg : ∀ t ∈ L, goodTk t) (h : agreeF L (shapeF k) = (shapeF k).length) : agreeF L (shapeF k) = 8 ∧ 8 ≤ L.length ∧ lastQ L (readQ k L) = if 8 < L.length then (zeroQ, (SynQ.colAt L 8 : Int), 2) else (⟨k, ⟨textAt L 1, textAt L 3⟩, ⟨textAt L 5, textAt L 7⟩, []⟩, 0, 0) := by
  obtain ⟨s, hw, hsh, hB, hW⟩ := shape8 hk
  have h0 := h
  have hm : (shapeF k).length = 8 := by rw [hsh]; rfl
  rw [hsh] at h
  obtain ⟨t0, L1, rfl, a0, h⟩ := agreeF_cons h
  obtain ⟨t1, L2, rfl, a1, h⟩ := agreeF_cons h
  obtain ⟨t2, L3, rfl, a2, h⟩ := agreeF_cons h
  obtain ⟨t3, L4, rfl, a3, h⟩ := agreeF_cons h
  obtain ⟨t4, L5, rfl, a4, h⟩ := agreeF_cons h
  obtain ⟨t5, L6, rfl, a5, h⟩ := agreeF_cons h
  obtain ⟨t6, L7, rfl, a6, h⟩ := agreeF_cons h
  obtain ⟨t7, M, rfl, a7, h⟩ := agreeF_cons h
  have h8 : agreeF (t0 :: t1 :: t2 :: t3 :: t4 :: t5 :: t6 :: t7 :: M) (shapeF k) = 8 := by rw [h0, hm]
  refine ⟨h8, by simp, ?_⟩
  rw [read8_eq hk h8]
  have hr : Qy.right ⟨k, ⟨t1.text, t3.text⟩, ⟨t5.text, t7.text⟩, []⟩ = true := by
    have r1 := good1 (hg t1 (by simp)) (fitsK a1)
    have r3 := good2 (hg t3 (by simp)) (fitsK a3)
    have r5 := good1 (hg t5 (by simp)) (fitsK a5)
    have r7 := good2 (hg t7 (by simp)) (fitsK a7)
    rcases hk with rfl | rfl <;> simp [Qy.right, Rl.ok, r1, r3, r5, r7]
  have hl : (t0 :: t1 :: t2 :: t3 :: t4 :: t5 :: t6 :: t7 :: M).length = M.length + 8 := rfl
  rw [hl, hr]
  unfold lastQ placeOf
  rw [hl]
  by_cases hlt : 8 < M.length + 8
  · simp [hlt]
  · simp [hlt]; exact ⟨⟨rfl, rfl⟩, rfl, rfl⟩
theorem hit4 {L : List Tk} (hg : ∀ t ∈ L, goodTk t) (h : agreeF L (shapeF 4) = (shapeF 4).length) : agreeF L (shapeF 4) = 6 ∧ 6 ≤ L.length ∧ lastQ L (readQ 4 L) = if 6 < L.length then (zeroQ, (SynQ.colAt L 6 : Int), 2) else (⟨4, ⟨textAt L 1, textAt L 3⟩, zeroR, []⟩, 0, 0) := by
  obtain ⟨hsh, hB, hW⟩ := shape4
  have h0 := h
  have hm : (shapeF 4).length = 6 := by rw [hsh]; rfl
  rw [hsh] at h
  obtain ⟨t0, L1, rfl, a0, h⟩ := agreeF_cons h
  obtain ⟨t1, L2, rfl, a1, h⟩ := agreeF_cons h
  obtain ⟨t2, L3, rfl, a2, h⟩ := agreeF_cons h
  obtain ⟨t3, L4, rfl, a3, h⟩ := agreeF_cons h
  obtain ⟨t4, L5, rfl, a4, h⟩ := agreeF_cons h
  obtain ⟨t5, M, rfl, a5, h⟩ := agreeF_cons h
  have h6 : agreeF (t0 :: t1 :: t2 :: t3 :: t4 :: t5 :: M) (shapeF 4) = 6 := by rw [h0, hm]
  refine ⟨h6, by simp, ?_⟩
  rw [read4_eq h6]
  have hr : Qy.right ⟨4, ⟨t1.text, t3.text⟩, zeroR, []⟩ = true := by
    have r1 := good1 (hg t1 (by simp)) (fitsK a1)
    have r3 := good2 (hg t3 (by simp)) (fitsK a3)
    simp [Qy.right, Rl.ok, r1, r3]
  have hl : (t0 :: t1 :: t2 :: t3 :: t4 :: t5 :: M).length = M.length + 6 := rfl
  rw [hl, hr]
  unfold lastQ placeOf
  rw [hl]
  by_cases hlt : 6 < M.length + 6
  · simp [hlt]
  · simp [hlt]; exact ⟨rfl, rfl⟩
theorem hit3 {k : Int} (hk : k = 1 ∨ k = 2 ∨ k = 3) {L : List Tk} (hg : ∀ t ∈ L, goodTk t) (h : agreeF L (shapeF k) = (shapeF k).length) : agreeF L (shapeF k) = 5 ∧ 5 ≤ L.length ∧ lastQ L (readQ k L) = if (readW (L.drop 5) []).2.2 = true then (zeroQ, (SynQ.colAt L (5 + (readW (L.drop 5) []).2.1) : Int), 5) else if 5 + (readW (L.drop 5) []).2.1 < L.length then (zeroQ, (SynQ.colAt L (5 + (readW (L.drop 5) []).2.1) : Int), 2) else if k ≤ 2 ∧ (readW (L.drop 5) []).1.length = 0 then (zeroQ, (SynQ.behindOf L : Int), 3) else (⟨k, ⟨textAt L 1, textAt L 3⟩, zeroR, (readW (L.drop 5) []).1⟩, 0, 0) := by
  obtain ⟨s, hw, hsh, hB, hW⟩ := shape3 hk
  have h0 := h
  have hm : (shapeF k).length = 5 := by rw [hsh]; rfl
  rw [hsh] at h
  obtain ⟨t0, L1, rfl, a0, h⟩ := agreeF_cons h
  obtain ⟨t1, L2, rfl, a1, h⟩ := agreeF_cons h
  obtain ⟨t2, L3, rfl, a2, h⟩ := agreeF_cons h
  obtain ⟨t3, L4, rfl, a3, h⟩ := agreeF_cons h
  obtain ⟨t4, M, rfl, a4, h⟩ := agreeF_cons h
  have h5 : agreeF (t0 :: t1 :: t2 :: t3 :: t4 :: M) (shapeF k) = 5 := by rw [h0, hm]
  refine ⟨h5, by simp, ?_⟩
  rw [read3_eq hk h5]
  have hd : (t0 :: t1 :: t2 :: t3 :: t4 :: M).drop 5 = M := rfl
  have hl : (t0 :: t1 :: t2 :: t3 :: t4 :: M).length = M.length + 5 := rfl
  rw [hd, hl]
  have hlt := readW_lt M []
  have hle := (readW_ok M [] (by simp) List.Pairwise.nil).2.2.1
  have hwo := who_ok (L := M) (fun t ht => hg t (by simp [ht]))
  have r1 := good1 (hg t1 (by simp)) (fitsK a1)
  have r3 := good2 (hg t3 (by simp)) (fitsK a3)
  have hr : Qy.right ⟨k, ⟨t1.text, t3.text⟩, zeroR, (readW M []).1⟩ = !decide (k ≤ 2 ∧ (readW M []).1.length = 0) := by
    rcases hk with rfl | rfl | rfl <;> simp [Qy.right, Rl.ok, r1, r3, hwo, Nat.pos_iff_ne_zero]
  rw [hr]
  unfold lastQ placeOf
  rw [hl]
  generalize (readW M []).1 = T at *
  generalize (readW M []).2.1 = d at *
  generalize (readW M []).2.2 = m at *
  cases m
  · by_cases h1 : 5 + d < M.length + 5
    · simp [h1]
    · simp only [Bool.false_eq_true, if_false, if_neg h1]
      by_cases h2 : k ≤ 2 ∧ T.length = 0
      · rw [decide_eq_true h2, if_pos h2]; rfl
      · rw [decide_eq_false h2, if_neg h2]; rfl
  · have := hlt rfl
    simp only [if_true]
    rw [if_neg (by decide), if_pos (by omega)]
theorem putL_told {T : List Str} {s : Str} (h : s ∈ T) : Tab4.putL T s = T := by unfold Tab4.putL; rw [if_pos h]
theorem putL_new {T : List Str} {s : Str} (hT : T.Pairwise (· < ·)) (h : s ∉ T) : Tab4.putL T s = Qry8.putIn T s := by
  obtain ⟨a, b⟩ := Tab5.putL_rising (s := s) hT
  refine eq_of_rising a (Qry8.putIn_rising hT h) fun x => ?_
  rw [b, Qry8.mem_putIn, or_comm]
section
variable {k : Int} (hk : k = 1 ∨ k = 2 ∨ k = 3) {L : List Tk} (hg : ∀ t ∈ L, goodTk t) (h : agreeF L (shapeF k) = (shapeF k).length) {T : List Str} {m : Nat} (hm : 5 ≤ m)
include hk hg h hm
theorem fin3_many (hr : readW (L.drop 5) [] = addN (T, 0, true) (m - 5)) : lastQ L (readQ k L) = (zeroQ, (SynQ.colAt L m : Int), 5) := by
  rw [(hit3 hk hg h).2.2, hr]
  unfold addN
  simp only [if_true]
  rw [show 5 + (0 + (m - 5)) = m by omega]
theorem fin3_form (hr : readW (L.drop 5) [] = addN (T, 0, false) (m - 5)) (hlt : m < L.length) : lastQ L (readQ k L) = (zeroQ, (SynQ.colAt L m : Int), 2) := by
  rw [(hit3 hk hg h).2.2, hr]
  unfold addN
  simp only [Bool.false_eq_true, if_false]
  rw [show 5 + (0 + (m - 5)) = m by omega, if_pos hlt]
theorem fin3_end (hr : readW (L.drop 5) [] = addN (T, 0, false) (m - 5)) (hlt : ¬ m < L.length) (h0 : k ≤ 2 ∧ T.length = 0) : lastQ L (readQ k L) = (zeroQ, (SynQ.behindOf L : Int), 3) := by
  rw [(hit3 hk hg h).2.2, hr]
  unfold addN
  simp only [Bool.false_eq_true, if_false]
  rw [show 5 + (0 + (m - 5)) = m by omega, if_neg hlt, if_pos h0]
theorem fin3_ok (hr : readW (L.drop 5) [] = addN (T, 0, false) (m - 5)) (hlt : ¬ m < L.length) (h0 : ¬ (k ≤ 2 ∧ T.length = 0)) : lastQ L (readQ k L) = (⟨k, ⟨textAt L 1, textAt L 3⟩, zeroR, T⟩, 0, 0) := by
  rw [(hit3 hk hg h).2.2, hr]
  unfold addN
  simp only [Bool.false_eq_true, if_false]
  rw [show 5 + (0 + (m - 5)) = m by omega, if_neg hlt, if_neg h0]
end
end Go.Proofs.Ytnhjnimgjpgfcaa.QryRm
