/- All roles that a policy names, as often as it does: policy.roles, by contract. -/
import Derived.Test.YtcmdiomjhideiaaGreatDoorM08
import Derived.Test.YtcmdiomjhideiaaGreatDoorM10
import Derived.Test.YtcmdiomjhideiaaGreatDoorM14
import Derived.Test.YtcmdiomjhideiaaGreatDoorM07
import Derived.Deep.LoopGhost
import Derived.Test.YtcmdiomjhideiaaGreatDoorM05
import Derived.Test.YtcmdiomjhideiaaGreatDoorM04
namespace Go.Proofs.YtcmdiomjhideiaaGreatDoor.PolG
set_option linter.unusedVariables false
set_option linter.unusedSimpArgs false
open Go.RowKit Go.Sort Go.Lib Go.Proofs Go.Proofs.YtcmdiomjhideiaaGreatDoor.Plain Go.Proofs.YtcmdiomjhideiaaGreatDoor.SynP Go.Proofs.YtcmdiomjhideiaaGreatDoor.TabP Go.Proofs.YtcmdiomjhideiaaGreatDoor.Tab1 Go.Proofs.YtcmdiomjhideiaaGreatDoor.Grown Go.Proofs.YtcmdiomjhideiaaGreatDoor.SynC Go.Proofs.YtcmdiomjhideiaaGreatDoor.SynJ Go.Proofs.YtcmdiomjhideiaaGreatDoor.QryP Go.Proofs.YtcmdiomjhideiaaGreatDoor.PolA Go.Proofs.YtcmdiomjhideiaaGreatDoor.PolE
set_option linter.unusedVariables false
set_option linter.unusedSimpArgs false
def rolesS (L : List St) (k : Nat) : List Rl := ((L.take k).map rolesL).flatten
def rolesA (L : List Qy) (k : Nat) : List Rl := ((L.take k).map QryO.rolesQ).flatten
theorem rolesS_succ {L : List St} {k : Nat} (h : k < L.length) : rolesS L (k + 1) = rolesS L k ++ rolesL L[k] := by
  unfold rolesS
  rw [List.take_succ_eq_append_getElem h, List.map_append, List.flatten_append, List.map_singleton, List.flatten_singleton]
theorem rolesA_succ {L : List Qy} {k : Nat} (h : k < L.length) : rolesA L (k + 1) = rolesA L k ++ QryO.rolesQ L[k] := by
  unfold rolesA
  rw [List.take_succ_eq_append_getElem h, List.map_append, List.flatten_append, List.map_singleton, List.flatten_singleton]
theorem rolesL_len (s : St) : (rolesL s).length ≤ 3 := by
  unfold rolesL; split
  · simp
  · split <;> simp
theorem rolesQ_len (q : Qy) : (QryO.rolesQ q).length ≤ 2 := by
  unfold QryO.rolesQ; split <;> simp
theorem rolesS_len (L : List St) : ∀ k, (rolesS L k).length ≤ k * 3
  | 0 => by simp [rolesS]
  | k + 1 => by
    have ih := rolesS_len L k
    rcases Nat.lt_or_ge k L.length with h | h
    · have := rolesL_len L[k]
      rw [rolesS_succ h, List.length_append]; omega
    · have : rolesS L (k + 1) = rolesS L k := by unfold rolesS; rw [List.take_of_length_le (by omega), List.take_of_length_le (by omega)]
      rw [this]; omega
theorem rolesA_len (L : List Qy) : ∀ k, (rolesA L k).length ≤ k * 2
  | 0 => by simp [rolesA]
  | k + 1 => by
    have ih := rolesA_len L k
    rcases Nat.lt_or_ge k L.length with h | h
    · have := rolesQ_len L[k]
      rw [rolesA_succ h, List.length_append]; omega
    · have : rolesA L (k + 1) = rolesA L k := by unfold rolesA; rw [List.take_of_length_le (by omega), List.take_of_length_le (by omega)]
      rw [this]; omega
def rolesP (p : Py) : List Rl := (p.grow ++ p.shrink) ++ rolesS p.stmts p.stmts.length ++ rolesA p.asks p.asks.length
def RolesP (p : Py) (w : World) (e : Ending) (w' : World) : Prop := ∃ A c, e = .returned (.slice A (rolesP p).length c) ∧ RAt w' A (rolesP p) ∧ Below w.heap.size w w'
theorem box_cell {w wr : World} {C : Array Value} {t : TypeId} (hb : Below (w.heap.size + 1) (w.alloc (.cells C t)) wr) (o : Nat) : wr.cell? ⟨w.heap.size, o, none⟩ = C[o]? := by
  rw [hb.cell (by simp), Lib.cell_of_heap (heap_alloc_new w _)]
theorem pair_cell (w : World) (C D : Array Value) (t u : TypeId) (j : Nat) : ((w.alloc (.cells C t)).alloc (.cells D u)).cell? ⟨w.heap.size + 1, j, none⟩ = D[j]? := by
  have h := Lib.cell_of_heap (heap_alloc_new (w.alloc (.cells C t)) (.cells D u)) j
  rwa [World.size_alloc] at h
theorem low {w wr : World} {o : Obj} (hb : Below (w.heap.size + 1) (w.alloc o) wr) : Below w.heap.size w wr := ((Below.refl w.heap.size w).alloc (Nat.le_refl _) o).trans (hb.mono (by omega))
theorem own_at {w w' : World} {base : Nat} {e : TypeId} {size : Nat} {v : Value} {n : Nat} {xs : List Value} (h : w.ownsRow base e size v n xs) (hb : Below w.heap.size w w') : w'.ownsRow base e size v n xs := Tab3.own_keep h hb
set_option maxHeartbeats 2000000 in
set_option maxRecDepth 100000 in
theorem roles (p : Py) (A1 A2 A3 A4 : Option Addr) (c1 c2 c3 c4 : Nat) (w : World) (hf : p.fit) (hp : PG w A1 A2 A3 A4 p) : Calls Tryz.prog 143 #[p.val A1 A2 A3 A4 c1 c2 c3 c4] w (RolesP p w) := by
  obtain ⟨i0, hi, hz0, hz1, hz2⟩ := info_parts infoRole
  unfold RolesP rolesP
  obtain ⟨S, G, H, Q⟩ := p
  have HP := Lib.hid hp
  obtain ⟨n1, n2, n3, n4, _, _, _, _, _⟩ := hf
  simp only at n1 n2 n3 n4
  clear hp
  show Calls _ _ #[.agg #[.slice A1 S.length c1, .slice A2 G.length c2, .slice A3 H.length c3, .slice A4 Q.length c4]] _ _
  simp only
  have hl0 : (G ++ H).length ≤ 2000 := by simp; omega
  obtain ⟨R0, hR0⟩ : ∃ R0, G ++ H = R0 := ⟨_, rfl⟩
  rw [hR0] at hl0 ⊢
  have HR0 := Lib.hid hR0
  clear hR0
  go_enter Tryz.func143, Tryz.ntmps143
  go_wp2_with fail
  refine (PolF.concatR (w.heap.size + 1) 2 [⟨A2, c2, G⟩, ⟨A3, c3, H⟩] _ (by simp) ?ca (by simp) ?cb ?cc).mono ?_
  case ca => intro r hr; rcases (by simpa using hr : r = ⟨A2, c2, G⟩ ∨ r = ⟨A3, c3, H⟩) with rfl | rfl <;> assumption
  case cb =>
    intro j hj
    rw [pair_cell]
    match j, hj with
    | 0, _ => rfl
    | 1, _ => rfl
  case cc =>
    have hb := ((Below.refl w.heap.size w).alloc (Nat.le_refl _) (.cells #[.slice A1 S.length c1, .slice A2 G.length c2, .slice A3 H.length c3, .slice A4 Q.length c4] 26)).alloc (by simp) (.cells #[.slice A2 G.length c2, .slice A3 H.length c3] 23)
    intro r hr
    rcases (by simpa using hr : r = ⟨A2, c2, G⟩ ∨ r = ⟨A3, c3, H⟩) with rfl | rfl
    · exact HP.out.g.below hb
    · exact HP.out.h.below hb
  rintro e w1 ⟨v, rfl, hown, hb1⟩
  have hb2 : Below (w.heap.size + 1) (w.alloc (.cells #[.slice A1 S.length c1, .slice A2 G.length c2, .slice A3 H.length c3, .slice A4 Q.length c4] 26)) w1 := ((Below.refl _ _).alloc (by simp) _).trans (hb1.mono (by simp))
  have hfl : PolF.flatTo [⟨A2, c2, G⟩, ⟨A3, c3, H⟩] 2 = G ++ H := by simp [PolF.flatTo]
  have hown2 : w1.ownsRow (w.heap.size + 1) 28 2 v (G ++ H).length (rcells (G ++ H)) := by
    have h := SynH.own_base hown (B' := w.heap.size + 1) (by simp)
    rw [← hfl]; exact h
  have HO := Lib.hid hown2
  have HB := Lib.hid hb2
  have hcP := box_cell hb2
  rw [HR0.out] at HO
  clear hown hown2 hb1 hb2 hfl
  go_wp2_with fail
  clear hcP
  go_loopw [3, 17] (fun l i wr => ∃ (k : Nat) (v : Value), k ≤ S.length ∧ l = v ∧ i = .int .i64 k ∧ Hid (wr.ownsRow (w.heap.size + 1) 28 2 v (R0 ++ rolesS S k).length (rcells (R0 ++ rolesS S k))) ∧ Below (w.heap.size + 1) (w.alloc (.cells #[.slice A1 S.length c1, .slice A2 G.length c2, .slice A3 H.length c3, .slice A4 Q.length c4] 26)) wr) (fun _ i _ => S.length - (intOf i).toNat)
  case atStart => exact ⟨0, _, by omega, rfl, rfl, by simpa [rolesS] using HO, HB.out⟩
  case round =>
    obtain ⟨k, v1, hk, rfl, rfl, hown, hbel⟩ := hrel
    have zr : w.heap.size + 1 ≤ wr.heap.size := by have := hbel.size; simpa using this
    have hlk := rolesS_len S k
    by_cases hlt : k < S.length
    · have d1 : decide ((k : Int) < S.length) = true := by simp; omega
      have p1 : (0 : Int) ≤ k := by omega
      have p2 : (k : Int) < S.length := by omega
      have hs := HP.out.s.below (low hbel)
      obtain ⟨g, o, e1, hg, hc⟩ := hs (by show 0 < S.length; omega)
      obtain rfl := e1
      obtain ⟨a0, a1, a2, a3, a4, a5, a6, a7, a8⟩ := hc k hlt
      have HR : Hid (∀ w', Calls Tryz.prog 186 #[.agg #[.int .i64 S[k].kind, .string S[k].head.owner, .string S[k].head.name, .string S[k].who, .string S[k].a.owner, .string S[k].a.name, .string S[k].b.owner, .string S[k].b.name, .string S[k].via]] w' (SynJ.RolesPost S[k] w')) := Lib.hid (fun w' => SynJ.roles S[k] w')
      have Hs := Lib.hid (rolesS_succ hlt)
      have h3 := rolesL_len S[k]
      clear hs hc
      go_wp2_with fail
      refine (HR.out _).mono ?_
      rintro e w2 ⟨A, rfl, hr, hg2⟩
      have hb2 : Below wr.heap.size wr w2 := ((Below.refl _ wr).alloc (Nat.le_refl _) _).trans (hg2.below.mono (by simp))
      have hownW := own_at hown.out hb2
      have hbelW := hbel.trans (hb2.mono zr)
      have zW : w.heap.size + 1 ≤ w2.heap.size := by have := hb2.size; omega
      have H0 := Lib.hid (fun h : A = none => by rw [h] at hr; exact PolF.rg_none_len (RG.of_rat hr))
      have H1 := Lib.hid (rg_cells (RG.of_rat hr))
      clear hr hg2 hb2 hown hbel a0 a1 a2 a3 a4 a5 a6 a7 a8
      go_wp2_with (at_builtin; refine wpList_append_from _ rfl _ _ 23 rfl (w.heap.size + 1) 28 i0 (.agg #[.string ⟨#[]⟩, .string ⟨#[]⟩]) 2 32 Tryz.underlying23 hi hz0 hz1 hz2 rfl (by decide) _ _ _ rfl hownW A (rolesL S[k]).length (rolesL S[k]).length (rcells (rolesL S[k])) rfl (rcells_len _) H0.out H1.out (rcells_one _) (by unfold maxLen; simp; omega) (by simp; omega) zW ?_)
      intro v2 w3 hown3 hgrow
      have hbel3 := hbelW.grown hgrow (by simpa using zW) (fun k hk => (hownW.lt k hk).1)
      have hown4 : w3.ownsRow (w.heap.size + 1) 28 2 v2 (R0 ++ rolesS S (k + 1)).length (rcells (R0 ++ rolesS S (k + 1))) := by
        rw [Hs.out, ← List.append_assoc, List.length_append, List.length_append, rcells_app]; exact hown3
      have HO4 := Lib.hid hown4
      clear hownW hbelW hgrow hown3 hown4
      go_wp2_with fail
      go_roundw
      case rel => exact ⟨k + 1, v2, by omega, rfl, by go_num, HO4, hbel3⟩
      case measure => simp [intOf]; omega
    · have d1 : decide ((k : Int) < S.length) = false := by simp; omega
      have hkS : k = S.length := by omega
      subst hkS
      have hcP := box_cell hbel
      have hR1 : (R0 ++ rolesS S S.length).length ≤ 6000 := by simp; omega
      obtain ⟨R1, hR1e⟩ : ∃ R1, R0 ++ rolesS S S.length = R1 := ⟨_, rfl⟩
      rw [hR1e] at hown hR1
      have HR1 := Lib.hid hR1e
      clear hR1e
      have HO1 := hown
      have HB1 := Lib.hid hbel
      clear hown hbel hlk HO HB
      go_wp2_with fail
      clear hcP
      go_loopw [3, 29] (fun l i wx => ∃ (k : Nat) (v : Value), k ≤ Q.length ∧ l = v ∧ i = .int .i64 k ∧ Hid (wx.ownsRow (w.heap.size + 1) 28 2 v (R1 ++ rolesA Q k).length (rcells (R1 ++ rolesA Q k))) ∧ Below (w.heap.size + 1) (w.alloc (.cells #[.slice A1 S.length c1, .slice A2 G.length c2, .slice A3 H.length c3, .slice A4 Q.length c4] 26)) wx) (fun _ i _ => Q.length - (intOf i).toNat)
      case atStart => exact ⟨0, _, by omega, rfl, rfl, by simpa [rolesA] using HO1, HB1.out⟩
      case round =>
        obtain ⟨k, v3, hk, rfl, rfl, hown, hbel⟩ := hrel
        have zr : w.heap.size + 1 ≤ wr.heap.size := by have := hbel.size; simpa using this
        have hlk := rolesA_len Q k
        by_cases hlt : k < Q.length
        · have d1 : decide ((k : Int) < Q.length) = true := by simp; omega
          have p1 : (0 : Int) ≤ k := by omega
          have p2 : (k : Int) < Q.length := by omega
          have hs := HP.out.q.below (low hbel)
          obtain ⟨g, o, e1, hg, hc⟩ := hs (by show 0 < Q.length; omega)
          obtain rfl := e1
          obtain ⟨B, cB, a0, a1, a2, a3, a4, a5, _⟩ := hc k hlt
          have HR : Hid (∀ w', Calls Tryz.prog 187 #[.agg #[.int .i64 Q[k].kind, .string Q[k].a.owner, .string Q[k].a.name, .string Q[k].b.owner, .string Q[k].b.name, .slice B Q[k].who.length cB]] w' (QryO.RolesPostQ Q[k] w')) := Lib.hid (fun w' => QryO.rolesOf Q[k] B cB w')
          have Hs := Lib.hid (rolesA_succ hlt)
          have h3 := rolesQ_len Q[k]
          clear hs hc
          go_wp2_with fail
          refine (HR.out _).mono ?_
          rintro e w2 ⟨A, rfl, hr, hg2⟩
          have hb2 : Below wr.heap.size wr w2 := ((Below.refl _ wr).alloc (Nat.le_refl _) _).trans (hg2.mono (by simp))
          have hownW := own_at hown.out hb2
          have hbelW := hbel.trans (hb2.mono zr)
          have zW : w.heap.size + 1 ≤ w2.heap.size := by have := hb2.size; omega
          have H0 := Lib.hid (fun h : A = none => by rw [h] at hr; exact PolF.rg_none_len (RG.of_rat hr))
          have H1 := Lib.hid (rg_cells (RG.of_rat hr))
          clear hr hg2 hb2 hown hbel a0 a1 a2 a3 a4 a5
          go_wp2_with (at_builtin; refine wpList_append_from _ rfl _ _ 23 rfl (w.heap.size + 1) 28 i0 (.agg #[.string ⟨#[]⟩, .string ⟨#[]⟩]) 2 32 Tryz.underlying23 hi hz0 hz1 hz2 rfl (by decide) _ _ _ rfl hownW A (QryO.rolesQ Q[k]).length (QryO.rolesQ Q[k]).length (rcells (QryO.rolesQ Q[k])) rfl (rcells_len _) H0.out H1.out (rcells_one _) (by unfold maxLen; simp; omega) (by simp; omega) zW ?_)
          intro v2 w3 hown3 hgrow
          have hbel3 := hbelW.grown hgrow (by simpa using zW) (fun k hk => (hownW.lt k hk).1)
          have hown4 : w3.ownsRow (w.heap.size + 1) 28 2 v2 (R1 ++ rolesA Q (k + 1)).length (rcells (R1 ++ rolesA Q (k + 1))) := by
            rw [Hs.out, ← List.append_assoc, List.length_append, List.length_append, rcells_app]; exact hown3
          have HO4 := Lib.hid hown4
          clear hownW hbelW hgrow hown3 hown4
          go_wp2_with fail
          go_roundw
          case rel => exact ⟨k + 1, v2, by omega, rfl, by go_num, HO4, hbel3⟩
          case measure => simp [intOf]; omega
        · have d1 : decide ((k : Int) < Q.length) = false := by simp; omega
          have hkQ : k = Q.length := by omega
          subst hkQ
          obtain ⟨A', c', rfl, hrat⟩ := rat_own hown.out
          have hfin : Hid (RAt wr A' (R0 ++ rolesS S S.length ++ rolesA Q Q.length) ∧ (R1 ++ rolesA Q Q.length).length = (R0 ++ rolesS S S.length ++ rolesA Q Q.length).length) := Lib.hid (by rw [HR1.out]; exact ⟨hrat, rfl⟩)
          have hlow := Lib.hid (low hbel)
          clear hrat hown hbel
          go_wp2_with fail
          go_ret
          exact ⟨A', c', by rw [← hfin.out.2]; rfl, hfin.out.1, hlow.out⟩
end Go.Proofs.YtcmdiomjhideiaaGreatDoor.PolG
/- Rows of roles and of statements: are two the same, is one there, the row with one more; by contract. -/
namespace Go.Proofs.YtcmdiomjhideiaaGreatDoor.PolJ
set_option linter.unusedVariables false
set_option linter.unusedSimpArgs false
open Go.RowKit Go.Sort Go.Lib Go.Proofs Go.Proofs.YtcmdiomjhideiaaGreatDoor.Plain Go.Proofs.YtcmdiomjhideiaaGreatDoor.SynP Go.Proofs.YtcmdiomjhideiaaGreatDoor.Grown Go.Proofs.YtcmdiomjhideiaaGreatDoor.SynC Go.Proofs.YtcmdiomjhideiaaGreatDoor.SynD2 Go.Proofs.YtcmdiomjhideiaaGreatDoor.SynD3 Go.Proofs.YtcmdiomjhideiaaGreatDoor.SynJ Go.Proofs.YtcmdiomjhideiaaGreatDoor.QryP Go.Proofs.YtcmdiomjhideiaaGreatDoor.PolA Go.Proofs.YtcmdiomjhideiaaGreatDoor.PolE Go.Proofs.YtcmdiomjhideiaaGreatDoor.PolG
set_option linter.unusedVariables false
set_option linter.unusedSimpArgs false
theorem same_all {α : Type} {T U : List α} (hl : T.length = U.length) (h : ∀ j, j < T.length → T[j]? = U[j]?) : T = U := List.ext_getElem? fun j => by
  by_cases hj : j < T.length
  · exact h j hj
  · rw [List.getElem?_eq_none (by omega), List.getElem?_eq_none (by omega)]
set_option maxHeartbeats 1000000 in
set_option maxRecDepth 100000 in
theorem equalS (A B : Option Addr) (ca cb : Nat) (T U : List St) (w : World) (hT : T.length ≤ 10000) (hU : U.length ≤ 10000) (hA : SG w A T) (hB : SG w B U) :
    Calls Tryz.prog 192 #[.slice A T.length ca, .slice B U.length cb] w fun e w' => e = .returned (.bool (decide (T = U))) ∧ ∃ n, w' = w.drewN n := by
  by_cases hl : T.length = U.length
  · have HL := Lib.hid hl
    have d0 : ((T.length : Int) != U.length) = false := by rw [hl]; simp
    have d0' : (T.length != U.length) = false := by rw [hl]; simp
    have HA := Lib.hid hA
    have HB := Lib.hid hB
    have hul : U.length ≤ T.length := by omega
    have htl : T.length ≤ U.length := by omega
    clear hl hA hB
    go_enter Tryz.func192, Tryz.ntmps192
    go_wp2_with fail
    go_loopw [13] (fun i wr => ∃ k : Nat, k ≤ T.length ∧ i = .int .i64 k ∧ Hid (∀ j, j < k → T[j]? = U[j]?) ∧ ∃ n, wr = w.drewN n) (fun i _ => T.length - (intOf i).toNat)
    case atStart => exact ⟨0, by omega, rfl, Lib.hid (fun j hj => by omega), 0, rfl⟩
    case round =>
      obtain ⟨k, hk, rfl, hall, n, rfl⟩ := hrel
      by_cases hlt : k < T.length
      · have hlu : k < U.length := by omega
        obtain ⟨g1, o1, rfl, _, h1⟩ := HA.out (by omega)
        obtain ⟨g2, o2, rfl, _, h2⟩ := HB.out (by omega)
        obtain ⟨a0, a1, a2, a3, a4, a5, a6, a7, a8⟩ := h1 k hlt
        obtain ⟨b0, b1, b2, b3, b4, b5, b6, b7, b8⟩ := h2 k hlu
        have p1 : (0 : Int) ≤ k := by omega
        have p2 : (k : Int) < T.length := by omega
        have p3 : (k : Int) < U.length := by omega
        have hq := fun w => SynE.neS T[k].kind T[k].head.owner T[k].head.name T[k].who T[k].a.owner T[k].a.name T[k].b.owner T[k].b.name T[k].via U[k].kind U[k].head.owner U[k].head.name U[k].who U[k].a.owner U[k].a.name U[k].b.owner U[k].b.name U[k].via w
        clear h1 h2
        by_cases he : T[k] = U[k]
        · have hnext : Hid (∀ j, j < k + 1 → T[j]? = U[j]?) := Lib.hid (fun j hj => by
            by_cases e : j = k
            · subst e; rw [List.getElem?_eq_getElem hlt, List.getElem?_eq_getElem hlu, he]
            · exact hall.out j (by omega))
          rw [decide_eq_true (p := (⟨T[k].kind, ⟨T[k].head.owner, T[k].head.name⟩, T[k].who, ⟨T[k].a.owner, T[k].a.name⟩, ⟨T[k].b.owner, T[k].b.name⟩, T[k].via⟩ : St) = (⟨U[k].kind, ⟨U[k].head.owner, U[k].head.name⟩, U[k].who, ⟨U[k].a.owner, U[k].a.name⟩, ⟨U[k].b.owner, U[k].b.name⟩, U[k].via⟩)) he] at hq
          clear he hall
          go_wp2_with fail
          go_quiet (fail)
          go_wp2_with fail
          go_roundw
          case rel => exact ⟨k + 1, by omega, by go_num, hnext, _, rfl⟩
          case measure => simp [intOf]; omega
        · have hfin : Hid (decide (T = U) = false) := Lib.hid (decide_eq_false (fun h => he (by subst h; rfl)))
          rw [decide_eq_false (p := (⟨T[k].kind, ⟨T[k].head.owner, T[k].head.name⟩, T[k].who, ⟨T[k].a.owner, T[k].a.name⟩, ⟨T[k].b.owner, T[k].b.name⟩, T[k].via⟩ : St) = (⟨U[k].kind, ⟨U[k].head.owner, U[k].head.name⟩, U[k].who, ⟨U[k].a.owner, U[k].a.name⟩, ⟨U[k].b.owner, U[k].b.name⟩, U[k].via⟩)) he] at hq
          clear he hall
          go_wp2_with fail
          go_quiet (fail)
          go_wp2_with fail
          go_ret
          exact ⟨ret_bool hfin.out.symm, _, World.drewN_drewN _ _ _⟩
      · have hfin : Hid (decide (T = U) = true) := Lib.hid (decide_eq_true (same_all HL.out fun j hj => hall.out j (by omega)))
        clear hall
        go_wp2_with fail
        go_ret
        exact ⟨ret_bool hfin.out.symm, _, rfl⟩
  · have d0 : ((T.length : Int) != U.length) = true := by rw [bne_iff_ne]; omega
    have d0' : (T.length != U.length) = true := by rw [bne_iff_ne]; exact hl
    rw [decide_eq_false (fun h : T = U => hl (by rw [h]))]
    clear hl hA hB
    go_enter Tryz.func192, Tryz.ntmps192
    go_wp2_with fail
    go_ret
    exact ⟨rfl, 0, rfl⟩
end Go.Proofs.YtcmdiomjhideiaaGreatDoor.PolJ
/- Is a role, a statement, in a row; the row with one more; by contract. -/
namespace Go.Proofs.YtcmdiomjhideiaaGreatDoor.PolK
set_option linter.unusedVariables false
set_option linter.unusedSimpArgs false
open Go.RowKit Go.Sort Go.Lib Go.Proofs Go.Proofs.YtcmdiomjhideiaaGreatDoor.Plain Go.Proofs.YtcmdiomjhideiaaGreatDoor.SynP Go.Proofs.YtcmdiomjhideiaaGreatDoor.Grown Go.Proofs.YtcmdiomjhideiaaGreatDoor.SynC Go.Proofs.YtcmdiomjhideiaaGreatDoor.SynD2 Go.Proofs.YtcmdiomjhideiaaGreatDoor.SynD3 Go.Proofs.YtcmdiomjhideiaaGreatDoor.SynJ Go.Proofs.YtcmdiomjhideiaaGreatDoor.QryP Go.Proofs.YtcmdiomjhideiaaGreatDoor.PolA Go.Proofs.YtcmdiomjhideiaaGreatDoor.PolE Go.Proofs.YtcmdiomjhideiaaGreatDoor.PolG
set_option linter.unusedVariables false
set_option linter.unusedSimpArgs false
theorem rg_of_own {w : World} {B : Nat} {A : Option Addr} {ca : Nat} {T : List Rl} (h : w.ownsRow B 28 2 (.slice A T.length ca) T.length (rcells T)) : RG w A T := by
  obtain ⟨A', c', e, hr⟩ := rat_own h
  injection e with e1
  subst e1
  exact RG.of_rat hr
set_option maxHeartbeats 1000000 in
set_option maxRecDepth 100000 in
theorem indexR (A : Option Addr) (ca : Nat) (T : List Rl) (x : Rl) (w : World) (hT : T.length ≤ 10000) (hA : RG w A T) :
    Calls Tryz.prog 189 #[.slice A T.length ca, x.val] w fun e w' => ∃ r : Int, e = .returned (.int .i64 r) ∧ decide (0 ≤ r) = decide (x ∈ T) ∧ Below w.heap.size w w' := by
  obtain ⟨o1, n1⟩ := x
  have hown : ∀ (wr : World), Below (w.heap.size + 1) (w.alloc (.cells #[.string o1, .string n1] 28)) wr → ∀ o, wr.cell? ⟨w.heap.size, o, none⟩ = (#[.string o1, .string n1] : Array Value)[o]? := fun wr hb o => box_cell hb o
  have HO := Lib.hid hown
  have HA := Lib.hid hA
  clear hown hA
  show Calls _ _ #[_, .agg #[.string o1, .string n1]] _ _
  go_enter Tryz.func189, Tryz.ntmps189
  go_wp2_with fail
  go_loopw [8] (fun i wr => ∃ k : Nat, k ≤ T.length ∧ i = .int .i64 k ∧ Hid ((⟨o1, n1⟩ : Rl) ∉ T.take k) ∧ Below (w.heap.size + 1) (w.alloc (.cells #[.string o1, .string n1] 28)) wr) (fun i _ => T.length - (intOf i).toNat)
  case atStart => exact ⟨0, by omega, rfl, Lib.hid (by simp), Below.refl _ _⟩
  case round =>
    obtain ⟨k, hk, rfl, hrun, hbel⟩ := hrel
    have hb0 := low hbel
    by_cases hlt : k < T.length
    · obtain ⟨g1, o1', rfl, hg1, h1⟩ := (HA.out.below hb0) (by omega)
      obtain ⟨a0, a1⟩ := h1 k hlt
      have hbo := HO.out _ hbel
      have p1 : (0 : Int) ≤ k := by omega
      have p2 : (k : Int) < T.length := by omega
      have hq := fun w => SynE.eqR o1 n1 T[k].owner T[k].name w
      clear h1
      by_cases he : (⟨o1, n1⟩ : Rl) = T[k]
      · have hfin : Hid (decide ((0 : Int) ≤ k) = decide ((⟨o1, n1⟩ : Rl) ∈ T)) := Lib.hid (by rw [decide_eq_true p1, decide_eq_true (he ▸ List.getElem_mem hlt)])
        rw [decide_eq_true (p := (⟨o1, n1⟩ : Rl) = ⟨T[k].owner, T[k].name⟩) he] at hq
        clear hrun he
        go_wp2_with fail
        go_quiet (fail)
        go_wp2_with fail
        go_ret
        exact ⟨k, rfl, hfin.out, below_drewN hb0 _⟩
      · have hnext : Hid ((⟨o1, n1⟩ : Rl) ∉ T.take (k + 1)) := Lib.hid (by
          rw [List.take_succ_eq_append_getElem hlt, List.mem_append, List.mem_singleton]
          rintro (h | h)
          · exact hrun.out h
          · exact he h)
        rw [decide_eq_false (p := (⟨o1, n1⟩ : Rl) = ⟨T[k].owner, T[k].name⟩) he] at hq
        clear hrun he
        go_wp2_with fail
        go_quiet (fail)
        go_wp2_with fail
        go_roundw
        case rel => exact ⟨k + 1, by omega, by go_num, hnext, below_drewN hbel _⟩
        case measure => simp [intOf]; omega
    · have hfin : Hid (decide ((0 : Int) ≤ -1) = decide ((⟨o1, n1⟩ : Rl) ∈ T)) := Lib.hid (by
        have := hrun.out
        rw [List.take_of_length_le (by omega)] at this
        rw [decide_eq_false this]; rfl)
      clear hrun
      go_wp2_with fail
      go_ret
      exact ⟨-1, rfl, hfin.out, hb0⟩
set_option maxRecDepth 100000 in
theorem hasR (A : Option Addr) (ca : Nat) (T : List Rl) (x : Rl) (w : World) (hT : T.length ≤ 10000) (hA : RG w A T) :
    Calls Tryz.prog 147 #[.slice A T.length ca, x.val] w fun e w' => e = .returned (.bool (decide (x ∈ T))) ∧ Below w.heap.size w w' := by
  have HI := Lib.hid (fun w' h => indexR A ca T x w' hT h)
  generalize decide (x ∈ T) = b at *
  obtain ⟨o1, n1⟩ := x
  have hI : ∀ w', RG w' A T → Calls Tryz.prog 189 #[.slice A T.length ca, .agg #[.string o1, .string n1]] w' fun e w'' => ∃ r : Int, e = .returned (.int .i64 r) ∧ decide (0 ≤ r) = b ∧ Below w'.heap.size w' w'' := HI.out
  have HI2 := Lib.hid hI
  have HA := Lib.hid (hA.below ((Below.refl _ w).alloc (Nat.le_refl _) (.cells #[.string o1, .string n1] 28)))
  clear hI HI hA
  show Calls _ _ #[_, .agg #[.string o1, .string n1]] _ _
  go_enter Tryz.func147, Tryz.ntmps147
  go_wp2_with fail
  refine (HI2.out _ HA.out).mono ?_
  rintro e w1 ⟨r, rfl, hr, hb⟩
  have HB := Lib.hid (((Below.refl w.heap.size w).alloc (Nat.le_refl _) (.cells #[.string o1, .string n1] 28)).trans (hb.mono (by simp)))
  have HR := Lib.hid hr
  clear hr hb
  go_wp2_with fail
  go_ret
  exact ⟨ret_bool HR.out, HB.out⟩
set_option maxRecDepth 100000 in
theorem has_ (A : Option Addr) (ca : Nat) (T : List Rl) (x : Rl) (w : World) (hT : T.length ≤ 10000) (hA : RG w A T) :
    Calls Tryz.prog 100 #[.slice A T.length ca, x.val] w fun e w' => e = .returned (.bool (decide (x ∈ T))) ∧ Below w.heap.size w w' := by
  have HI := Lib.hid (fun w' h => hasR A ca T x w' hT h)
  generalize decide (x ∈ T) = b at *
  obtain ⟨o1, n1⟩ := x
  have hI : ∀ w', RG w' A T → Calls Tryz.prog 147 #[.slice A T.length ca, .agg #[.string o1, .string n1]] w' fun e w'' => e = .returned (.bool b) ∧ Below w'.heap.size w' w'' := HI.out
  have HI2 := Lib.hid hI
  have HA := Lib.hid (hA.below ((Below.refl _ w).alloc (Nat.le_refl _) (.cells #[.string o1, .string n1] 28)))
  clear hI HI hA
  show Calls _ _ #[_, .agg #[.string o1, .string n1]] _ _
  go_enter Tryz.func100, Tryz.ntmps100
  go_wp2_with fail
  refine (HI2.out _ HA.out).mono ?_
  rintro e w1 ⟨rfl, hb⟩
  go_wp2_with fail
  go_ret
  exact ⟨rfl, ((Below.refl w.heap.size w).alloc (Nat.le_refl _) _).trans (hb.mono (by simp))⟩
end Go.Proofs.YtcmdiomjhideiaaGreatDoor.PolK
/- Rows of statements put one behind the other: slices.Grow, slices.Concat. -/
namespace Go.Proofs.YtcmdiomjhideiaaGreatDoor.StA
set_option linter.unusedVariables false
set_option linter.unusedSimpArgs false
open Go.RowKit Go.Sort Go.Proofs.YtcmdiomjhideiaaGreatDoor.Plain Go.Proofs.YtcmdiomjhideiaaGreatDoor.SynP Go.Proofs.YtcmdiomjhideiaaGreatDoor.Grown Go.Proofs.YtcmdiomjhideiaaGreatDoor.SynA Go.Proofs.YtcmdiomjhideiaaGreatDoor.SynC Go.Proofs.YtcmdiomjhideiaaGreatDoor.SynD2 Go.Proofs.YtcmdiomjhideiaaGreatDoor.SynD3 Go.Proofs.YtcmdiomjhideiaaGreatDoor.SynJ Go.Proofs.YtcmdiomjhideiaaGreatDoor.PolA Go.Proofs.YtcmdiomjhideiaaGreatDoor.PolE
set_option linter.unusedVariables false
/-- A row of the call's own that holds statements. -/
def SPost (l : List St) (w : World) (e : Ending) (w' : World) : Prop := ∃ v, e = .returned v ∧ w'.ownsRow w.heap.size 55 9 v l.length (stCells l) ∧ Below w.heap.size w w'
/-- A slice value, its room, and the statements as which it reads. -/
structure RowS where
  A : Option Addr
  c : Nat
  l : List St
/-- The statements of the first rows. -/
def flatTo (R : List RowS) (k : Nat) : List St := ((R.take k).map RowS.l).flatten
theorem flatTo_succ {R : List RowS} {k : Nat} (h : k < R.length) : flatTo R (k + 1) = flatTo R k ++ R[k].l := by
  unfold flatTo
  rw [List.take_succ_eq_append_getElem h, List.map_append, List.flatten_append, List.map_singleton, List.flatten_singleton]
theorem flatTo_len {R : List RowS} (h : ∀ r ∈ R, r.l.length ≤ 1000) : ∀ k, (flatTo R k).length ≤ k * 1000 := by
  intro k
  induction k with
  | zero => simp [flatTo]
  | succ k ih =>
    rcases Nat.lt_or_ge k R.length with hk | hk
    · rw [flatTo_succ hk, List.length_append]
      have h1 := h R[k] (List.getElem_mem _)
      rw [Nat.succ_mul]
      exact Nat.add_le_add ih h1
    · have : flatTo R (k + 1) = flatTo R k := by unfold flatTo; rw [List.take_of_length_le (by omega), List.take_of_length_le (by omega)]
      rw [this, Nat.succ_mul]
      exact Nat.le_add_right_of_le ih
end Go.Proofs.YtcmdiomjhideiaaGreatDoor.StA
/- syn.Sort with where its row lies; gather, by contract. -/
namespace Go.Proofs.YtcmdiomjhideiaaGreatDoor.StB
set_option linter.unusedVariables false
set_option linter.unusedSimpArgs false
open Go.Shelf Go.RowKit Go.Sort Go.Lib Go.Proofs Go.Proofs.YtcmdiomjhideiaaGreatDoor.Plain Go.Proofs.YtcmdiomjhideiaaGreatDoor.SynP Go.Proofs.YtcmdiomjhideiaaGreatDoor.Grown Go.Proofs.YtcmdiomjhideiaaGreatDoor.SynE Go.Proofs.YtcmdiomjhideiaaGreatDoor.SynD Go.Proofs.YtcmdiomjhideiaaGreatDoor.SynD2 Go.Proofs.YtcmdiomjhideiaaGreatDoor.SynD3 Go.Proofs.YtcmdiomjhideiaaGreatDoor.SynD5 Go.Proofs.YtcmdiomjhideiaaGreatDoor.SynD6 Go.Proofs.YtcmdiomjhideiaaGreatDoor.SynD7 Go.Proofs.YtcmdiomjhideiaaGreatDoor.SynD8 Go.Proofs.YtcmdiomjhideiaaGreatDoor.SynD9 Go.Proofs.YtcmdiomjhideiaaGreatDoor.PolE Go.Proofs.YtcmdiomjhideiaaGreatDoor.StA
set_option linter.unusedVariables false
set_option linter.unusedSimpArgs false
/-- A row of the call's own: nil, or at the head of a block from B on. -/
def OwnS (B : Nat) (w : World) (v : Value) (L : List St) : Prop :=
  (v = .slice none 0 0 ∧ L = []) ∨ ∃ (g cap : Nat) (d : Array St), v = .slice (some ⟨g, 0, none⟩) d.size cap ∧ d.toList = L ∧ d.size ≤ cap ∧ cap ≤ maxLen ∧ B ≤ g ∧ g < w.heap.size ∧ HoldsK St.cells 9 w g 0 d
def OwnPost (L : List St) (w : World) (e : Ending) (w' : World) : Prop := ∃ v, e = .returned v ∧ OwnS w.heap.size w' v L ∧ Below w.heap.size w w'
theorem OwnS.mono {B B' : Nat} {w : World} {v : Value} {L : List St} (h : OwnS B w v L) (hB : B' ≤ B) : OwnS B' w v L := by
  rcases h with h | ⟨g, cap, d, e, h1, h2, h3, h4, h5, h6⟩
  · exact .inl h
  · exact .inr ⟨g, cap, d, e, h1, h2, h3, by omega, h5, h6⟩
theorem holds_block {w w' : World} {g : Nat} {d : Array St} (h : HoldsK St.cells 9 w g 0 d) (hg : w'.heap[g]? = w.heap[g]?) : HoldsK St.cells 9 w' g 0 d := fun t ht => by
  obtain ⟨a, b⟩ := h t ht
  exact ⟨(World.cell?_of_block (a := ⟨g, 0 + t, none⟩) hg).trans a, (World.frozen?_of_block (a := ⟨g, 0 + t, none⟩) hg).trans b⟩
theorem OwnS.form {B : Nat} {w : World} {v : Value} {L : List St} (h : OwnS B w v L) : ∃ A c, v = .slice A L.length c ∧ SG w A L := by
  rcases h with ⟨rfl, rfl⟩ | ⟨g, cap, d, rfl, rfl, h2, h3, h4, h5, h6⟩
  · exact ⟨none, 0, rfl, fun h => by simp at h⟩
  · refine ⟨_, cap, rfl, SG.of_row (StRow.of_holds h6 _ (by simp) fun j hj => ?_)⟩
    rw [getElem!_pos d j (by simpa using hj)]; simp
theorem nx {W w1 w2 : World} (h : Below W.heap.size W w1) (hb : Below w1.heap.size w1 w2) : Below W.heap.size W w2 := h.trans (hb.mono h.size)
theorem OwnPost.nx {L : List St} {w w1 : World} {e : Ending} {w' : World} (h : OwnPost L w1 e w') (hb : Below w.heap.size w w1) : OwnPost L w e w' := by
  obtain ⟨v, he, ho, hb1⟩ := h
  exact ⟨v, he, ho.mono hb.size, StB.nx hb hb1⟩
theorem below_alloc (w : World) (o : Obj) : Below w.heap.size w (w.alloc o) := (Below.refl _ _).alloc (Nat.le_refl _) _
end Go.Proofs.YtcmdiomjhideiaaGreatDoor.StB
/- What picks statements: a function value that answers, not, IndexFunc, ContainsFunc, DeleteFunc, each and pick, by contract. -/
namespace Go.Proofs.YtcmdiomjhideiaaGreatDoor.StC
set_option linter.unusedVariables false
set_option linter.unusedSimpArgs false
open Go.Shelf Go.RowKit Go.Sort Go.Lib Go.Proofs Go.Proofs.YtcmdiomjhideiaaGreatDoor.Plain Go.Proofs.YtcmdiomjhideiaaGreatDoor.SynP Go.Proofs.YtcmdiomjhideiaaGreatDoor.Grown Go.Proofs.YtcmdiomjhideiaaGreatDoor.SynC Go.Proofs.YtcmdiomjhideiaaGreatDoor.SynD Go.Proofs.YtcmdiomjhideiaaGreatDoor.SynD2 Go.Proofs.YtcmdiomjhideiaaGreatDoor.SynD3 Go.Proofs.YtcmdiomjhideiaaGreatDoor.SynD7 Go.Proofs.YtcmdiomjhideiaaGreatDoor.SynD8 Go.Proofs.YtcmdiomjhideiaaGreatDoor.PolE Go.Proofs.YtcmdiomjhideiaaGreatDoor.StA Go.Proofs.YtcmdiomjhideiaaGreatDoor.StB
set_option linter.unusedVariables false
set_option linter.unusedSimpArgs false
/-- A function value that answers p of each statement, in every world that is below B as w is. -/
def Such (B : Nat) (w : World) (v : Value) (p : St → Bool) : Prop := ∃ (F : Nat) (caps : Array Value), v = .func (.func F) #[] caps ∧ (∀ args w, (callFunc F args).run Tryz.prog w = .ok (.enter F args) w) ∧ ∀ w', Below B w w' → ∀ s : St, s.fit → Calls Tryz.prog F (#[s.val] ++ caps) w' fun e wx => e = .returned (.bool (p s)) ∧ Below w'.heap.size w' wx
theorem Such.mono {B B' : Nat} {w : World} {v : Value} {p : St → Bool} (h : Such B w v p) (hB : B ≤ B') : Such B' w v p := by
  obtain ⟨F, caps, e, eg, h⟩ := h
  exact ⟨F, caps, e, eg, fun w' hb => h w' (hb.mono hB)⟩
theorem Such.later {B : Nat} {w w1 : World} {v : Value} {p : St → Bool} (h : Such B w v p) (hb : Below B w w1) : Such B w1 v p := by
  obtain ⟨F, caps, e, eg, h⟩ := h
  exact ⟨F, caps, e, eg, fun w' hb' => h w' (hb.trans hb')⟩
def IdxPost (p : St → Bool) (T : List St) (w : World) (e : Ending) (w' : World) : Prop :=
  Below w.heap.size w w' ∧ ((e = .returned (.int .i64 (-1)) ∧ T.all p = true) ∨ ∃ k : Nat, ∃ h : k < T.length, e = .returned (.int .i64 k) ∧ (∀ j, (hj : j < k) → p (T[j]'(by omega)) = true) ∧ p T[k] = false)
end Go.Proofs.YtcmdiomjhideiaaGreatDoor.StC
/- slices.DeleteFunc at statements, with not's closure, and pick, by contract. -/
namespace Go.Proofs.YtcmdiomjhideiaaGreatDoor.StD
set_option linter.unusedVariables false
set_option linter.unusedSimpArgs false
open Go.Shelf Go.RowKit Go.Sort Go.Lib Go.Proofs Go.Proofs.YtcmdiomjhideiaaGreatDoor.Plain Go.Proofs.YtcmdiomjhideiaaGreatDoor.SynP Go.Proofs.YtcmdiomjhideiaaGreatDoor.Grown Go.Proofs.YtcmdiomjhideiaaGreatDoor.SynC Go.Proofs.YtcmdiomjhideiaaGreatDoor.SynD Go.Proofs.YtcmdiomjhideiaaGreatDoor.SynD2 Go.Proofs.YtcmdiomjhideiaaGreatDoor.SynD3 Go.Proofs.YtcmdiomjhideiaaGreatDoor.SynD7 Go.Proofs.YtcmdiomjhideiaaGreatDoor.SynD8 Go.Proofs.YtcmdiomjhideiaaGreatDoor.PolE Go.Proofs.YtcmdiomjhideiaaGreatDoor.StA Go.Proofs.YtcmdiomjhideiaaGreatDoor.StB Go.Proofs.YtcmdiomjhideiaaGreatDoor.StC
set_option linter.unusedVariables false
set_option linter.unusedSimpArgs false
/-- What DeleteFunc's loop keeps: of the first m those that may be, at the row's front. -/
structure DelInv (p : St → Bool) (d : Array St) (m k : Nat) (dk : Array St) : Prop where
  size : dk.size = d.size
  lt : k < m
  le : m ≤ d.size
  low : dk.toList.take k = (d.toList.take m).filter p
  len : ((d.toList.take m).filter p).length = k
  high : ∀ j, m ≤ j → dk[j]! = d[j]!
theorem take_snoc (d : Array St) {m : Nat} (hm : m < d.size) : d.toList.take (m + 1) = d.toList.take m ++ [d[m]!] := by
  rw [List.take_succ_eq_append_getElem (by simpa using hm), getElem!_pos d m hm]
  simp
theorem DelInv.start {p : St → Bool} {d : Array St} {i : Nat} (hi : i < d.size) (hall : ∀ j, j < i → p d[j]! = true) (hno : p d[i]! = false) : DelInv p d (i + 1) i d := by
  have hf : (d.toList.take i).filter p = d.toList.take i := by
    rw [List.filter_eq_self]
    intro x hx
    obtain ⟨j, hj, rfl⟩ := List.getElem_of_mem hx
    rw [List.length_take, Array.length_toList] at hj
    have := hall j (by omega)
    rw [getElem!_pos d j (by omega)] at this
    simpa using this
  refine ⟨rfl, by omega, by omega, ?_, ?_, fun _ _ => rfl⟩
  · rw [take_snoc d hi, List.filter_append, hf]; simp [hno]
  · rw [take_snoc d hi, List.filter_append, hf]; simp [hno]; omega
theorem DelInv.skip {p : St → Bool} {d dk : Array St} {m k : Nat} (h : DelInv p d m k dk) (hm : m < d.size) (hno : p d[m]! = false) : DelInv p d (m + 1) k dk := by
  refine ⟨h.size, by have := h.lt; omega, by omega, ?_, ?_, fun j hj => h.high j (by omega)⟩
  · rw [take_snoc d hm, List.filter_append, ← h.low]; simp [hno]
  · rw [take_snoc d hm, List.filter_append, List.length_append, h.len]; simp [hno]
theorem DelInv.keep {p : St → Bool} {d dk : Array St} {m k : Nat} (h : DelInv p d m k dk) (hm : m < d.size) (hp : p d[m]! = true) : DelInv p d (m + 1) (k + 1) (dk.setIfInBounds k d[m]!) := by
  have hlt := h.lt
  have hsz := h.size
  refine ⟨by simpa using h.size, by omega, by omega, ?_, ?_, fun j hj => ?_⟩
  · rw [take_snoc d hm, List.filter_append, ← h.low]
    have e : (dk.setIfInBounds k d[m]!).toList = dk.toList.set k d[m]! := by simp
    rw [e, List.take_succ_eq_append_getElem (by simp; omega)]
    simp [hp, List.take_set_of_le]
  · rw [take_snoc d hm, List.filter_append, List.length_append, h.len]; simp [hp]
  · rw [← h.high j (by omega)]
    by_cases hj2 : j < dk.size
    · rw [getElem!_pos (dk.setIfInBounds k d[m]!) j (by simpa using hj2), getElem!_pos dk j hj2, Array.getElem_setIfInBounds_ne (by simpa using hj2) (by omega)]
    · rw [getElem!_neg (dk.setIfInBounds k d[m]!) j (by simpa using hj2), getElem!_neg dk j hj2]
theorem DelInv.done {p : St → Bool} {d dk : Array St} {k : Nat} (h : DelInv p d d.size k dk) : dk.toList.take k = d.toList.filter p := by
  rw [h.low, List.take_of_length_le (by simp)]

/-- Below g all stays, and block b. -/
structure BX (g b : Nat) (w w' : World) : Prop where
  lo : Below g w w'
  k : w'.heap[b]? = w.heap[b]?
theorem BX.refl (g b : Nat) (w : World) : BX g b w w := ⟨Below.refl _ _, rfl⟩
theorem BX.below {g b : Nat} {w w1 w2 : World} (h : BX g b w w1) (hg : g < w1.heap.size) (hb : b < w1.heap.size) (hx : Below w1.heap.size w1 w2) : BX g b w w2 := ⟨h.lo.trans (hx.mono (Nat.le_of_lt hg)), (hx.block b hb).trans h.k⟩
theorem heap_setCells_ne (g : Nat) : ∀ (vs : List Value) (o : Nat) (w : World) (b : Nat), b ≠ g → (w.setCells g o vs).heap[b]? = w.heap[b]?
  | [], o, w, b, h => rfl
  | v :: r, o, w, b, h => (heap_setCells_ne g r (o + 1) (w.setCell ⟨g, o, none⟩ v) b h).trans (heap_setCell_other w ⟨g, o, none⟩ b v h)
theorem BX.setCells {g b : Nat} {w w1 : World} (h : BX g b w w1) (hne : b ≠ g) (o : Nat) (vs : List Value) : BX g b w (w1.setCells g o vs) := ⟨below_setCells (Nat.le_refl _) _ _ _ h.lo, (heap_setCells_ne g vs o w1 b hne).trans h.k⟩
def DelPost (g cap b : Nat) (p : St → Bool) (d : Array St) (w : World) (e : Ending) (w' : World) : Prop :=
  ∃ d' : Array St, e = .returned (.slice (some ⟨g, 0, none⟩) d'.size cap) ∧ d'.toList = d.toList.filter p ∧ HoldsK St.cells 9 w' g 0 d' ∧ BX g b w w' ∧ w.heap.size ≤ w'.heap.size
theorem del_none {g cap b : Nat} {p : St → Bool} {d : Array St} {w w' : World} (hH : HoldsK St.cells 9 w g 0 d) (hg : g < w.heap.size) (hlb : b < w.heap.size) (hb : Below w.heap.size w w') (h : d.toList.all p = true) : DelPost g cap b p d w (.returned (.slice (some ⟨g, 0, none⟩) d.size cap)) w' := by
  refine ⟨d, rfl, ?_, holds_block hH (hb.block g hg), (BX.refl g b w).below hg hlb hb, hb.size⟩
  symm
  rw [List.filter_eq_self]
  intro x hx
  exact List.all_eq_true.1 h x hx
theorem holds_take {w : World} {g k : Nat} {d : Array St} (h : HoldsK St.cells 9 w g 0 d) (hk : k ≤ d.size) : HoldsK St.cells 9 w g 0 (d.toList.take k).toArray :=
  holds_low h _ (by rw [List.length_take, Array.length_toList]; omega) fun j hj => by
    rw [List.length_take, Array.length_toList] at hj
    rw [getElem!_pos d j (by omega)]; simp
theorem del_end {g cap kk b : Nat} {p : St → Bool} {d dk : Array St} {w wr : World} (hH : HoldsK St.cells 9 wr g 0 dk) (hb : BX g b w wr) (hne : b ≠ g) (hs : w.heap.size ≤ wr.heap.size) (hI : DelInv p d d.size kk dk) : DelPost g cap b p d w (.returned (.slice (some ⟨g, 0, none⟩) kk cap)) (wr.setCells g (kk * 9) (clr (d.size - kk))) := by
  have hlt := hI.lt
  have hsz := hI.size
  have hz : (dk.toList.take kk).toArray.size = kk := by simp; omega
  refine ⟨(dk.toList.take kk).toArray, by rw [hz], ?_, SynD8.holds_out (holds_take hH (by omega)) (by rw [hz]; exact Nat.le_refl _) _, hb.setCells hne _ _, by rw [size_setCells]; exact hs⟩
  rw [hI.low, show d.toList.take d.size = d.toList from List.take_of_length_le (by simp)]
theorem start_of {p : St → Bool} {d : Array St} {k : Nat} (hk : k < d.toList.length) (hall : ∀ j, (hj : j < k) → p (d.toList[j]'(by omega)) = true) (hno : p d.toList[k] = false) : DelInv p d (k + 1) k d := by
  have hk2 : k < d.size := by simpa using hk
  refine DelInv.start hk2 (fun j hj => ?_) ?_
  · have := hall j hj
    rw [getElem!_pos d j (by omega)]
    simpa using this
  · rw [getElem!_pos d k hk2]
    simpa using hno
theorem sg_of_holds {w : World} {g : Nat} {d : Array St} (h : HoldsK St.cells 9 w g 0 d) : SG w (some ⟨g, 0, none⟩) d.toList :=
  SG.of_row (StRow.of_holds h _ (by simp) fun j hj => by rw [getElem!_pos d j (by simpa using hj)]; simp)
set_option maxHeartbeats 1000000 in
theorem idxNone (f : Value) (w : World) : Calls Tryz.prog 179 #[.slice none 0 0, f] w fun e w' => e = .returned (.int .i64 (-1)) ∧ w' = w := by
  go_enter Tryz.func179, Tryz.ntmps179
  go_wp2_with fail
  go_loop [8] (fun i => i = .int .i64 0) (fun i => 0)
  case atStart => rfl
  case round =>
    subst hrel
    go_wp2_with fail
    go_ret
    exact ⟨rfl, rfl⟩
theorem delNone (f : Value) (w : World) : Calls Tryz.prog 134 #[.slice none 0 0, f] w fun e w' => e = .returned (.slice none 0 0) ∧ w' = w := by
  have HI := Lib.hid (idxNone f w)
  go_enter Tryz.func134, Tryz.ntmps134
  go_wp2_with fail
  refine HI.out.mono ?_
  rintro e w1 ⟨rfl, rfl⟩
  go_wp2_with fail
  go_ret
  exact ⟨rfl, rfl⟩
end Go.Proofs.YtcmdiomjhideiaaGreatDoor.StD
/- slices.BinarySearchFunc at statements that rise, by contract; among. -/
namespace Go.Proofs.YtcmdiomjhideiaaGreatDoor.StE
set_option linter.unusedVariables false
set_option linter.unusedSimpArgs false
open Go.Shelf Go.RowKit Go.Sort Go.Lib Go.Proofs Go.Proofs.YtcmdiomjhideiaaGreatDoor.Plain Go.Proofs.YtcmdiomjhideiaaGreatDoor.SynP Go.Proofs.YtcmdiomjhideiaaGreatDoor.Grown Go.Proofs.YtcmdiomjhideiaaGreatDoor.SynC Go.Proofs.YtcmdiomjhideiaaGreatDoor.SynD Go.Proofs.YtcmdiomjhideiaaGreatDoor.SynD2 Go.Proofs.YtcmdiomjhideiaaGreatDoor.SynD3 Go.Proofs.YtcmdiomjhideiaaGreatDoor.SynD7 Go.Proofs.YtcmdiomjhideiaaGreatDoor.SynD8 Go.Proofs.YtcmdiomjhideiaaGreatDoor.PolE Go.Proofs.YtcmdiomjhideiaaGreatDoor.StA Go.Proofs.YtcmdiomjhideiaaGreatDoor.StB Go.Proofs.YtcmdiomjhideiaaGreatDoor.StC Go.Proofs.YtcmdiomjhideiaaGreatDoor.StD
set_option linter.unusedVariables false
set_option linter.unusedSimpArgs false
end Go.Proofs.YtcmdiomjhideiaaGreatDoor.StE
