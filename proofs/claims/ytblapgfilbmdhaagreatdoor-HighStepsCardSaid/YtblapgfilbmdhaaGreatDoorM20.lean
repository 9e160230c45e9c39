/- The line of a query, in the document's answers, by contract. -/
import Derived.Test.YtblapgfilbmdhaaGreatDoorM18
import Derived.Test.YtblapgfilbmdhaaGreatDoorM19
import Derived.Test.YtblapgfilbmdhaaGreatDoorM16
import Derived.Test.YtblapgfilbmdhaaGreatDoorM17
import Derived.Test.YtblapgfilbmdhaaGreatDoorM10
import Derived.Test.YtblapgfilbmdhaaGreatDoorM11
import Derived.Test.YtblapgfilbmdhaaGreatDoorM12
import Derived.Test.YtblapgfilbmdhaaGreatDoorM02
import Derived.Test.YtblapgfilbmdhaaGreatDoorM09
import Derived.Deep.LoopGhost
import Derived.Test.YtblapgfilbmdhaaGreatDoorM06
set_option linter.unusedVariables false
set_option linter.unusedSimpArgs false
namespace Go.Proofs.YtblapgfilbmdhaaGreatDoor.QryJ
open Go.RowKit Go.Sort Go.Proofs Plain SynP TabP Tab1 Grown SynC SynW QryP Qry2 Qry4 Qry5 QryG Qry6 Qry7 QryA QryL QryH QryI
end Go.Proofs.YtblapgfilbmdhaaGreatDoor.QryJ
namespace Go.Proofs.YtblapgfilbmdhaaGreatDoor.QryM
open Go.RowKit Go.Sort Plain SynP TabP SynR SynV SynZ QryP Qry4 Qry5 Qry7 QryA QryB QryC QryD
end Go.Proofs.YtblapgfilbmdhaaGreatDoor.QryM
namespace Go.Proofs.YtblapgfilbmdhaaGreatDoor.QryN
open Go.RowKit Go.Sort Plain SynP TabP Scan2 Scan3 SynR SynV SynW QryP Qry4 Qry5 Qry7 QryA QryB QryC QryD QryL QryM
end Go.Proofs.YtblapgfilbmdhaaGreatDoor.QryN
namespace Go.Proofs.YtblapgfilbmdhaaGreatDoor.QryO
open Go.RowKit Go.Sort Go.Proofs Plain SynP TabP Tab1 Grown Scan3 SynS SynW SynJ QryP Qry6 QryC QryE QryL QryH QryI QryN
def lightQ (q : Qy) : Bool := Tab6.lightB q.who && Tab6.lightB [bs q.a.owner, bs q.a.name, bs q.b.owner, bs q.b.name]
theorem srow_four (X : World) (x y z u : ByteArray) : SRow (X.alloc (.cells #[.string x, .string y, .string z, .string u] 9)) (some ⟨X.heap.size, 0, none⟩) [bs x, bs y, bs z, bs u] := by
  have h := srow_new X [bs x, bs y, bs z, bs u] 9
  have e : ((([bs x, bs y, bs z, bs u] : List Str).map encStr).toArray : Array Value) = #[.string x, .string y, .string z, .string u] := by
    have a := bs_of x
    have b := bs_of y
    have c := bs_of z
    have d := bs_of u
    show #[Value.string ⟨(bs x).toArray⟩, Value.string ⟨(bs y).toArray⟩, Value.string ⟨(bs z).toArray⟩, Value.string ⟨(bs u).toArray⟩] = _
    rw [← a, ← b, ← c, ← d]
  rw [e] at h
  exact h
set_option maxHeartbeats 1000000 in
set_option maxRecDepth 100000 in
theorem light (q : Qy) (A : Option Addr) (c : Nat) (w : World) (hf : q.fit) (hA : SRow w A q.who) : Calls Tryz.prog 20 #[q.val A c] w fun e w' => e = .returned (.bool (lightQ q)) ∧ Grew w w' := by
  obtain ⟨k, ⟨ao, an⟩, ⟨bo, bn⟩, T⟩ := q
  obtain ⟨fa, fb, fT, fs⟩ := hf
  unfold lightQ
  have H1 := Lib.hid (fun (w' : World) (hr : SRow w' A T) => Tab6.light A c T w' fT fs hr)
  have hl4 : ∀ s ∈ [bs ao, bs an, bs bo, bs bn], s.length ≤ maxLen := by
    intro s hs
    rcases (by simpa using hs : s = bs ao ∨ s = bs an ∨ s = bs bo ∨ s = bs bn) with rfl | rfl | rfl | rfl
    · exact fa.1
    · exact fa.2
    · exact fb.1
    · exact fb.2
  have H2 := Lib.hid (fun (B : Option Addr) (w' : World) (hr : SRow w' B [bs ao, bs an, bs bo, bs bn]) => Tab6.light B 4 [bs ao, bs an, bs bo, bs bn] w' (by simp; unfold maxLen; decide) hl4 hr)
  have HA := Lib.hid (hA.keep ((Below.refl _ _).alloc (Nat.le_refl _) (.cells #[.int .i64 k, .string ao, .string an, .string bo, .string bn, .slice A T.length c] 42)))
  have hn4 := srow_four (w.alloc (.cells #[.int .i64 k, .string ao, .string an, .string bo, .string bn, .slice A T.length c] 42)) ao an bo bn
  rw [World.size_alloc] at hn4
  have HN := Lib.hid hn4
  show Calls _ _ #[.agg #[.int .i64 k, .string ao, .string an, .string bo, .string bn, .slice A T.length c]] _ _
  simp only
  generalize Tab6.lightB T = l1 at *
  generalize Tab6.lightB [bs ao, bs an, bs bo, bs bn] = l2 at *
  clear fa fb fT fs hA hl4 hn4
  cases l1
  · go_enter Tryz.func20, Tryz.ntmps20
    go_wp2_with fail
    refine (H1.out _ HA.out).mono ?_
    rintro e w1 ⟨rfl, rfl⟩
    go_wp2_with fail
    go_ret
    exact ⟨rfl, (Grew.refl _).alloc _⟩
  · go_enter Tryz.func20, Tryz.ntmps20
    go_wp2_with fail
    refine (H1.out _ HA.out).mono ?_
    rintro e w1 ⟨rfl, rfl⟩
    go_wp2_with fail
    refine (H2.out _ _ HN.out).mono ?_
    rintro e w1 ⟨rfl, rfl⟩
    go_wp2_with fail
    go_ret
    exact ⟨rfl, ((Grew.refl _).alloc _).alloc _⟩
def rolesQ (q : Qy) : List Rl := if hasBk q.kind = true then [q.a, q.b] else [q.a]
def RolesPostQ (q : Qy) (w : World) (e : Ending) (w' : World) : Prop := ∃ A, e = .returned (.slice A (rolesQ q).length (rolesQ q).length) ∧ RAt w' A (rolesQ q) ∧ RowKit.Below w.heap.size w w'
set_option maxRecDepth 100000 in
theorem rolesOf (q : Qy) (A : Option Addr) (c : Nat) (w : World) : Calls Tryz.prog 165 #[q.val A c] w (RolesPostQ q w) := by
  obtain ⟨k, ⟨ao, an⟩, ⟨bo, bn⟩, T⟩ := q
  have HB := Lib.hid (fun w' => hasB k w')
  show Calls _ _ #[.agg #[.int .i64 k, .string ao, .string an, .string bo, .string bn, .slice A T.length c]] _ _
  have hn2 : ∀ n, RAt (((w.alloc (.cells #[.int .i64 k, .string ao, .string an, .string bo, .string bn, .slice A T.length c] 42)).drewN n).alloc (.cells #[.string ao, .string an, .string bo, .string bn] 28)) (some ⟨w.heap.size + 1, 0, none⟩) [⟨ao, an⟩, ⟨bo, bn⟩] := fun n => by
    have h := rat_new ((w.alloc (.cells #[.int .i64 k, .string ao, .string an, .string bo, .string bn, .slice A T.length c] 42)).drewN n) [⟨ao, an⟩, ⟨bo, bn⟩] 28
    have e : ((w.alloc (.cells #[.int .i64 k, .string ao, .string an, .string bo, .string bn, .slice A T.length c] 42)).drewN n).heap.size = w.heap.size + 1 := World.size_alloc _ _
    rw [e] at h
    exact h
  have hn1 : ∀ n, RAt (((w.alloc (.cells #[.int .i64 k, .string ao, .string an, .string bo, .string bn, .slice A T.length c] 42)).drewN n).alloc (.cells #[.string ao, .string an] 28)) (some ⟨w.heap.size + 1, 0, none⟩) [⟨ao, an⟩] := fun n => by
    have h := rat_new ((w.alloc (.cells #[.int .i64 k, .string ao, .string an, .string bo, .string bn, .slice A T.length c] 42)).drewN n) [⟨ao, an⟩] 28
    have e : ((w.alloc (.cells #[.int .i64 k, .string ao, .string an, .string bo, .string bn, .slice A T.length c] 42)).drewN n).heap.size = w.heap.size + 1 := World.size_alloc _ _
    rw [e] at h
    exact h
  have H2 := Lib.hid hn2
  have H1 := Lib.hid hn1
  have hb0 := Lib.hid (fun n => below_drewN ((Below.refl w.heap.size w).alloc (Nat.le_refl _) (.cells #[.int .i64 k, .string ao, .string an, .string bo, .string bn, .slice A T.length c] 42)) n)
  unfold RolesPostQ rolesQ
  simp only
  clear hn1 hn2
  cases hbk : hasBk k
  · rw [hbk] at HB
    simp only [Bool.false_eq_true, if_false]
    clear hbk
    go_enter Tryz.func165, Tryz.ntmps165
    go_wp2_with fail
    refine (HB.out _).mono ?_
    rintro e w1 ⟨rfl, n, rfl⟩
    go_wp2_with fail
    go_ret
    exact ⟨_, rfl, H1.out n, (hb0.out n).alloc (hb0.out n).size _⟩
  · rw [hbk] at HB
    simp only [if_true]
    clear hbk
    go_enter Tryz.func165, Tryz.ntmps165
    go_wp2_with fail
    refine (HB.out _).mono ?_
    rintro e w1 ⟨rfl, n, rfl⟩
    go_wp2_with fail
    go_ret
    exact ⟨_, rfl, H2.out n, (hb0.out n).alloc (hb0.out n).size _⟩
def PrinsPost (T : List Str) (w : World) (e : Ending) (w' : World) : Prop := ∃ A c, e = .returned (.slice A T.length c) ∧ SRow w' A T ∧ RowKit.Below w.heap.size w w'
set_option maxRecDepth 100000 in
theorem prins (q : Qy) (A : Option Addr) (c : Nat) (w : World) (hT : q.who.length ≤ 1000000) (hA : SRow w A q.who) : Calls Tryz.prog 128 #[q.val A c] w (PrinsPost q.who w) := by
  obtain ⟨k, ⟨ao, an⟩, ⟨bo, bn⟩, T⟩ := q
  show Calls _ _ #[.agg #[.int .i64 k, .string ao, .string an, .string bo, .string bn, .slice A T.length c]] _ _
  have HC := Lib.hid (Tab7.cloneC A c T _ hT (hA.keep ((Below.refl _ _).alloc (Nat.le_refl _) (.cells #[.int .i64 k, .string ao, .string an, .string bo, .string bn, .slice A T.length c] 42))))
  clear hA
  go_enter Tryz.func128, Tryz.ntmps128
  go_wp2_with fail
  refine HC.out.mono ?_
  rintro e w1 ⟨v, rfl, hown, hb⟩
  obtain ⟨A', c', rfl, _, hr⟩ := SRow.of_own hown
  clear hown
  go_wp2_with fail
  go_ret
  exact ⟨A', c', rfl, hr, ((Below.refl _ _).alloc (Nat.le_refl _) _).trans (hb.mono (by simp))⟩
end Go.Proofs.YtblapgfilbmdhaaGreatDoor.QryO
namespace Go.Proofs.YtblapgfilbmdhaaGreatDoor.PolG
open Go.RowKit Go.Sort Go.Lib Go.Proofs Plain SynP TabP Tab1 Grown SynC SynJ QryP PolA PolE
def rolesS (L : List St) (k : Nat) : List Rl := ((L.take k).map rolesL).flatten
def rolesA (L : List Qy) (k : Nat) : List Rl := ((L.take k).map QryO.rolesQ).flatten
theorem rolesS_succ {L : List St} {k : Nat} (h : k < L.length) : rolesS L (k + 1) = rolesS L k ++ rolesL L[k] := by
  unfold rolesS
  rw [List.take_succ_eq_append_getElem h, List.map_append, List.flatten_append, List.map_singleton, List.flatten_singleton]
theorem rolesA_succ {L : List Qy} {k : Nat} (h : k < L.length) : rolesA L (k + 1) = rolesA L k ++ QryO.rolesQ L[k] := by
  unfold rolesA
  rw [List.take_succ_eq_append_getElem h, List.map_append, List.flatten_append, List.map_singleton, List.flatten_singleton]
theorem rolesL_len (s : St) : (rolesL s).length ≤ 3 := by
  unfold rolesL; split
  · simp
  · split <;> simp
theorem rolesQ_len (q : Qy) : (QryO.rolesQ q).length ≤ 2 := by
  unfold QryO.rolesQ; split <;> simp
theorem rolesS_len (L : List St) : ∀ k, (rolesS L k).length ≤ k * 3
  | 0 => by simp [rolesS]
  | k + 1 => by
    have ih := rolesS_len L k
    rcases Nat.lt_or_ge k L.length with h | h
    · have := rolesL_len L[k]
      rw [rolesS_succ h, List.length_append]; omega
    · have : rolesS L (k + 1) = rolesS L k := by unfold rolesS; rw [List.take_of_length_le (by omega), List.take_of_length_le (by omega)]
      rw [this]; omega
theorem rolesA_len (L : List Qy) : ∀ k, (rolesA L k).length ≤ k * 2
  | 0 => by simp [rolesA]
  | k + 1 => by
    have ih := rolesA_len L k
    rcases Nat.lt_or_ge k L.length with h | h
    · have := rolesQ_len L[k]
      rw [rolesA_succ h, List.length_append]; omega
    · have : rolesA L (k + 1) = rolesA L k := by unfold rolesA; rw [List.take_of_length_le (by omega), List.take_of_length_le (by omega)]
      rw [this]; omega
def rolesP (p : Py) : List Rl := (p.grow ++ p.shrink) ++ rolesS p.stmts p.stmts.length ++ rolesA p.asks p.asks.length
def RolesP (p : Py) (w : World) (e : Ending) (w' : World) : Prop := ∃ A c, e = .returned (.slice A (rolesP p).length c) ∧ RAt w' A (rolesP p) ∧ Below w.heap.size w w'
theorem box_cell {w wr : World} {C : Array Value} {t : TypeId} (hb : Below (w.heap.size + 1) (w.alloc (.cells C t)) wr) (o : Nat) : wr.cell? ⟨w.heap.size, o, none⟩ = C[o]? := by
  rw [hb.cell (by simp), Lib.cell_of_heap (heap_alloc_new w _)]
theorem pair_cell (w : World) (C D : Array Value) (t u : TypeId) (j : Nat) : ((w.alloc (.cells C t)).alloc (.cells D u)).cell? ⟨w.heap.size + 1, j, none⟩ = D[j]? := by
  have h := Lib.cell_of_heap (heap_alloc_new (w.alloc (.cells C t)) (.cells D u)) j
  rwa [World.size_alloc] at h
theorem low {w wr : World} {o : Obj} (hb : Below (w.heap.size + 1) (w.alloc o) wr) : Below w.heap.size w wr := ((Below.refl w.heap.size w).alloc (Nat.le_refl _) o).trans (hb.mono (by omega))
theorem own_at {w w' : World} {base : Nat} {e : TypeId} {size : Nat} {v : Value} {n : Nat} {xs : List Value} (h : w.ownsRow base e size v n xs) (hb : Below w.heap.size w w') : w'.ownsRow base e size v n xs := Tab3.own_keep h hb
set_option maxHeartbeats 2000000 in
set_option maxRecDepth 100000 in
theorem roles (p : Py) (A1 A2 A3 A4 : Option Addr) (c1 c2 c3 c4 : Nat) (w : World) (hf : p.fit) (hp : PG w A1 A2 A3 A4 p) : Calls Tryz.prog 122 #[p.val A1 A2 A3 A4 c1 c2 c3 c4] w (RolesP p w) := by
  obtain ⟨i0, hi, hz0, hz1, hz2⟩ := info_parts infoRole
  unfold RolesP rolesP
  obtain ⟨S, G, H, Q⟩ := p
  have HP := Lib.hid hp
  obtain ⟨n1, n2, n3, n4, _, _, _, _, _⟩ := hf
  simp only at n1 n2 n3 n4
  clear hp
  show Calls _ _ #[.agg #[.slice A1 S.length c1, .slice A2 G.length c2, .slice A3 H.length c3, .slice A4 Q.length c4]] _ _
  simp only
  have hl0 : (G ++ H).length ≤ 2000 := by simp; omega
  obtain ⟨R0, hR0⟩ : ∃ R0, G ++ H = R0 := ⟨_, rfl⟩
  rw [hR0] at hl0 ⊢
  have HR0 := Lib.hid hR0
  clear hR0
  go_enter Tryz.func122, Tryz.ntmps122
  go_wp2_with fail
  refine (PolF.concatR (w.heap.size + 1) 2 [⟨A2, c2, G⟩, ⟨A3, c3, H⟩] _ (by simp) ?ca (by simp) ?cb ?cc).mono ?_
  case ca => intro r hr; rcases (by simpa using hr : r = ⟨A2, c2, G⟩ ∨ r = ⟨A3, c3, H⟩) with rfl | rfl <;> assumption
  case cb =>
    intro j hj
    rw [pair_cell]
    match j, hj with
    | 0, _ => rfl
    | 1, _ => rfl
  case cc =>
    have hb := ((Below.refl w.heap.size w).alloc (Nat.le_refl _) (.cells #[.slice A1 S.length c1, .slice A2 G.length c2, .slice A3 H.length c3, .slice A4 Q.length c4] 26)).alloc (by simp) (.cells #[.slice A2 G.length c2, .slice A3 H.length c3] 23)
    intro r hr
    rcases (by simpa using hr : r = ⟨A2, c2, G⟩ ∨ r = ⟨A3, c3, H⟩) with rfl | rfl
    · exact HP.out.g.below hb
    · exact HP.out.h.below hb
  rintro e w1 ⟨v, rfl, hown, hb1⟩
  have hb2 : Below (w.heap.size + 1) (w.alloc (.cells #[.slice A1 S.length c1, .slice A2 G.length c2, .slice A3 H.length c3, .slice A4 Q.length c4] 26)) w1 := ((Below.refl _ _).alloc (by simp) _).trans (hb1.mono (by simp))
  have hfl : PolF.flatTo [⟨A2, c2, G⟩, ⟨A3, c3, H⟩] 2 = G ++ H := by simp [PolF.flatTo]
  have hown2 : w1.ownsRow (w.heap.size + 1) 28 2 v (G ++ H).length (rcells (G ++ H)) := by
    have h := SynH.own_base hown (B' := w.heap.size + 1) (by simp)
    rw [← hfl]; exact h
  have HO := Lib.hid hown2
  have HB := Lib.hid hb2
  have hcP := box_cell hb2
  rw [HR0.out] at HO
  clear hown hown2 hb1 hb2 hfl
  go_wp2_with fail
  clear hcP
  go_loopw [3, 17] (fun l i wr => ∃ (k : Nat) (v : Value), k ≤ S.length ∧ l = v ∧ i = .int .i64 k ∧ Hid (wr.ownsRow (w.heap.size + 1) 28 2 v (R0 ++ rolesS S k).length (rcells (R0 ++ rolesS S k))) ∧ Below (w.heap.size + 1) (w.alloc (.cells #[.slice A1 S.length c1, .slice A2 G.length c2, .slice A3 H.length c3, .slice A4 Q.length c4] 26)) wr) (fun _ i _ => S.length - (intOf i).toNat)
  case atStart => exact ⟨0, _, by omega, rfl, rfl, by simpa [rolesS] using HO, HB.out⟩
  case round =>
    obtain ⟨k, v1, hk, rfl, rfl, hown, hbel⟩ := hrel
    have zr : w.heap.size + 1 ≤ wr.heap.size := by have := hbel.size; simpa using this
    have hlk := rolesS_len S k
    by_cases hlt : k < S.length
    · have d1 : decide ((k : Int) < S.length) = true := by simp; omega
      have p1 : (0 : Int) ≤ k := by omega
      have p2 : (k : Int) < S.length := by omega
      have hs := HP.out.s.below (low hbel)
      obtain ⟨g, o, e1, hg, hc⟩ := hs (by show 0 < S.length; omega)
      obtain rfl := e1
      obtain ⟨a0, a1, a2, a3, a4, a5, a6, a7, a8⟩ := hc k hlt
      have HR : Hid (∀ w', Calls Tryz.prog 164 #[.agg #[.int .i64 S[k].kind, .string S[k].head.owner, .string S[k].head.name, .string S[k].who, .string S[k].a.owner, .string S[k].a.name, .string S[k].b.owner, .string S[k].b.name, .string S[k].via]] w' (SynJ.RolesPost S[k] w')) := Lib.hid (fun w' => SynJ.roles S[k] w')
      have Hs := Lib.hid (rolesS_succ hlt)
      have h3 := rolesL_len S[k]
      clear hs hc
      go_wp2_with fail
      refine (HR.out _).mono ?_
      rintro e w2 ⟨A, rfl, hr, hg2⟩
      have hb2 : Below wr.heap.size wr w2 := ((Below.refl _ wr).alloc (Nat.le_refl _) _).trans (hg2.below.mono (by simp))
      have hownW := own_at hown.out hb2
      have hbelW := hbel.trans (hb2.mono zr)
      have zW : w.heap.size + 1 ≤ w2.heap.size := by have := hb2.size; omega
      have H0 := Lib.hid (fun h : A = none => by rw [h] at hr; exact PolF.rg_none_len (RG.of_rat hr))
      have H1 := Lib.hid (rg_cells (RG.of_rat hr))
      clear hr hg2 hb2 hown hbel a0 a1 a2 a3 a4 a5 a6 a7 a8
      go_wp2_with (at_builtin; refine wpList_append_from _ rfl _ _ 23 rfl (w.heap.size + 1) 28 i0 (.agg #[.string ⟨#[]⟩, .string ⟨#[]⟩]) 2 32 Tryz.underlying23 hi hz0 hz1 hz2 rfl (by decide) _ _ _ rfl hownW A (rolesL S[k]).length (rolesL S[k]).length (rcells (rolesL S[k])) rfl (rcells_len _) H0.out H1.out (rcells_one _) (by unfold maxLen; simp; omega) (by simp; omega) zW ?_)
      intro v2 w3 hown3 hgrow
      have hbel3 := hbelW.grown hgrow (by simpa using zW) (fun k hk => (hownW.lt k hk).1)
      have hown4 : w3.ownsRow (w.heap.size + 1) 28 2 v2 (R0 ++ rolesS S (k + 1)).length (rcells (R0 ++ rolesS S (k + 1))) := by
        rw [Hs.out, ← List.append_assoc, List.length_append, List.length_append, rcells_app]; exact hown3
      have HO4 := Lib.hid hown4
      clear hownW hbelW hgrow hown3 hown4
      go_wp2_with fail
      go_roundw
      case rel => exact ⟨k + 1, v2, by omega, rfl, by go_num, HO4, hbel3⟩
      case measure => simp [intOf]; omega
    · have d1 : decide ((k : Int) < S.length) = false := by simp; omega
      have hkS : k = S.length := by omega
      subst hkS
      have hcP := box_cell hbel
      have hR1 : (R0 ++ rolesS S S.length).length ≤ 6000 := by simp; omega
      obtain ⟨R1, hR1e⟩ : ∃ R1, R0 ++ rolesS S S.length = R1 := ⟨_, rfl⟩
      rw [hR1e] at hown hR1
      have HR1 := Lib.hid hR1e
      clear hR1e
      have HO1 := hown
      have HB1 := Lib.hid hbel
      clear hown hbel hlk HO HB
      go_wp2_with fail
      clear hcP
      go_loopw [3, 29] (fun l i wx => ∃ (k : Nat) (v : Value), k ≤ Q.length ∧ l = v ∧ i = .int .i64 k ∧ Hid (wx.ownsRow (w.heap.size + 1) 28 2 v (R1 ++ rolesA Q k).length (rcells (R1 ++ rolesA Q k))) ∧ Below (w.heap.size + 1) (w.alloc (.cells #[.slice A1 S.length c1, .slice A2 G.length c2, .slice A3 H.length c3, .slice A4 Q.length c4] 26)) wx) (fun _ i _ => Q.length - (intOf i).toNat)
      case atStart => exact ⟨0, _, by omega, rfl, rfl, by simpa [rolesA] using HO1, HB1.out⟩
      case round =>
        obtain ⟨k, v3, hk, rfl, rfl, hown, hbel⟩ := hrel
        have zr : w.heap.size + 1 ≤ wr.heap.size := by have := hbel.size; simpa using this
        have hlk := rolesA_len Q k
        by_cases hlt : k < Q.length
        · have d1 : decide ((k : Int) < Q.length) = true := by simp; omega
          have p1 : (0 : Int) ≤ k := by omega
          have p2 : (k : Int) < Q.length := by omega
          have hs := HP.out.q.below (low hbel)
          obtain ⟨g, o, e1, hg, hc⟩ := hs (by show 0 < Q.length; omega)
          obtain rfl := e1
          obtain ⟨B, cB, a0, a1, a2, a3, a4, a5, _⟩ := hc k hlt
          have HR : Hid (∀ w', Calls Tryz.prog 165 #[.agg #[.int .i64 Q[k].kind, .string Q[k].a.owner, .string Q[k].a.name, .string Q[k].b.owner, .string Q[k].b.name, .slice B Q[k].who.length cB]] w' (QryO.RolesPostQ Q[k] w')) := Lib.hid (fun w' => QryO.rolesOf Q[k] B cB w')
          have Hs := Lib.hid (rolesA_succ hlt)
          have h3 := rolesQ_len Q[k]
          clear hs hc
          go_wp2_with fail
          refine (HR.out _).mono ?_
          rintro e w2 ⟨A, rfl, hr, hg2⟩
          have hb2 : Below wr.heap.size wr w2 := ((Below.refl _ wr).alloc (Nat.le_refl _) _).trans (hg2.mono (by simp))
          have hownW := own_at hown.out hb2
          have hbelW := hbel.trans (hb2.mono zr)
          have zW : w.heap.size + 1 ≤ w2.heap.size := by have := hb2.size; omega
          have H0 := Lib.hid (fun h : A = none => by rw [h] at hr; exact PolF.rg_none_len (RG.of_rat hr))
          have H1 := Lib.hid (rg_cells (RG.of_rat hr))
          clear hr hg2 hb2 hown hbel a0 a1 a2 a3 a4 a5
          go_wp2_with (at_builtin; refine wpList_append_from _ rfl _ _ 23 rfl (w.heap.size + 1) 28 i0 (.agg #[.string ⟨#[]⟩, .string ⟨#[]⟩]) 2 32 Tryz.underlying23 hi hz0 hz1 hz2 rfl (by decide) _ _ _ rfl hownW A (QryO.rolesQ Q[k]).length (QryO.rolesQ Q[k]).length (rcells (QryO.rolesQ Q[k])) rfl (rcells_len _) H0.out H1.out (rcells_one _) (by unfold maxLen; simp; omega) (by simp; omega) zW ?_)
          intro v2 w3 hown3 hgrow
          have hbel3 := hbelW.grown hgrow (by simpa using zW) (fun k hk => (hownW.lt k hk).1)
          have hown4 : w3.ownsRow (w.heap.size + 1) 28 2 v2 (R1 ++ rolesA Q (k + 1)).length (rcells (R1 ++ rolesA Q (k + 1))) := by
            rw [Hs.out, ← List.append_assoc, List.length_append, List.length_append, rcells_app]; exact hown3
          have HO4 := Lib.hid hown4
          clear hownW hbelW hgrow hown3 hown4
          go_wp2_with fail
          go_roundw
          case rel => exact ⟨k + 1, v2, by omega, rfl, by go_num, HO4, hbel3⟩
          case measure => simp [intOf]; omega
        · have d1 : decide ((k : Int) < Q.length) = false := by simp; omega
          have hkQ : k = Q.length := by omega
          subst hkQ
          obtain ⟨A', c', rfl, hrat⟩ := rat_own hown.out
          have hfin : Hid (RAt wr A' (R0 ++ rolesS S S.length ++ rolesA Q Q.length) ∧ (R1 ++ rolesA Q Q.length).length = (R0 ++ rolesS S S.length ++ rolesA Q Q.length).length) := Lib.hid (by rw [HR1.out]; exact ⟨hrat, rfl⟩)
          have hlow := Lib.hid (low hbel)
          clear hrat hown hbel
          go_wp2_with fail
          go_ret
          exact ⟨A', c', by rw [← hfin.out.2]; rfl, hfin.out.1, hlow.out⟩
end Go.Proofs.YtblapgfilbmdhaaGreatDoor.PolG
namespace Go.Proofs.YtblapgfilbmdhaaGreatDoor.PolJ
open Go.RowKit Go.Sort Go.Lib Go.Proofs Plain SynP Grown SynC SynD2 SynD3 SynJ QryP PolA PolE PolG
theorem same_all {α : Type} {T U : List α} (hl : T.length = U.length) (h : ∀ j, j < T.length → T[j]? = U[j]?) : T = U := List.ext_getElem? fun j => by
  by_cases hj : j < T.length
  · exact h j hj
  · rw [List.getElem?_eq_none (by omega), List.getElem?_eq_none (by omega)]
end Go.Proofs.YtblapgfilbmdhaaGreatDoor.PolJ
