/- Whether two queries are the very same, in the program and in the document's answers, by contract. -/
import Derived.Test.YtblapgfilbmdhaaGreatDoorM17
import Derived.Test.YtblapgfilbmdhaaGreatDoorM14
import Derived.Test.YtblapgfilbmdhaaGreatDoorM20
import Derived.Test.YtblapgfilbmdhaaGreatDoorM24
set_option linter.unusedVariables false
set_option linter.unusedSimpArgs false
namespace Go.Proofs.YtblapgfilbmdhaaGreatDoor.QryS
open Go.RowKit Go.Sort Go.Proofs Plain SynP TabP Tab1 Grown SynE QryP Qry1
end Go.Proofs.YtblapgfilbmdhaaGreatDoor.QryS
namespace Go.Proofs.YtblapgfilbmdhaaGreatDoor.PolN
open Go.RowKit Go.Sort Go.Lib Go.Proofs Plain SynP TabP Tab1 SynJ QryP PolA PolE PolG PolJ
end Go.Proofs.YtblapgfilbmdhaaGreatDoor.PolN
namespace Go.Proofs.YtblapgfilbmdhaaGreatDoor.RefSm
open Go.RowKit Go.Sort Go.Lib Go.Proofs Plain SynP TabP Tab1 SynJ QryP PolA PolE PolG PolJ PolN
set_option maxHeartbeats 1000000 in
set_option maxRecDepth 100000 in
theorem sameRR (A B : Option Addr) (ca cb : Nat) (T U : List Rl) (w : World) (hT : T.length ≤ 10000) (hU : U.length ≤ 10000) (hA : RG w A T) (hB : RG w B U) :
    Calls Tryz.prog 72 #[.slice A T.length ca, .slice B U.length cb] w fun e w' => e = .returned (.bool (decide (T = U))) ∧ ∃ n, w' = w.drewN n := by
  by_cases hl : T.length = U.length
  · have HL := Lib.hid hl
    have d0 : ((T.length : Int) != U.length) = false := by rw [hl]; simp
    have d0' : (T.length != U.length) = false := by rw [hl]; simp
    have HA := Lib.hid hA
    have HB := Lib.hid hB
    have hul : U.length ≤ T.length := by omega
    have htl : T.length ≤ U.length := by omega
    clear hl hA hB
    go_enter Tryz.func72, Tryz.ntmps72
    go_wp2_with fail
    go_loopw [13] (fun i wr => ∃ k : Nat, k ≤ T.length ∧ i = .int .i64 k ∧ Hid (∀ j, j < k → T[j]? = U[j]?) ∧ ∃ n, wr = w.drewN n) (fun i _ => T.length - (intOf i).toNat)
    case atStart => exact ⟨0, by omega, rfl, Lib.hid (fun j hj => by omega), 0, rfl⟩
    case round =>
      obtain ⟨k, hk, rfl, hall, n, rfl⟩ := hrel
      by_cases hlt : k < T.length
      · have hlu : k < U.length := by omega
        obtain ⟨g1, o1, rfl, _, h1⟩ := HA.out (by omega)
        obtain ⟨g2, o2, rfl, _, h2⟩ := HB.out (by omega)
        obtain ⟨a0, a1⟩ := h1 k hlt
        obtain ⟨b0, b1⟩ := h2 k hlu
        have p1 : (0 : Int) ≤ k := by omega
        have p2 : (k : Int) < T.length := by omega
        have p3 : (k : Int) < U.length := by omega
        have hq := fun w => SynE.neR T[k].owner T[k].name U[k].owner U[k].name w
        clear h1 h2
        by_cases he : T[k] = U[k]
        · have hnext : Hid (∀ j, j < k + 1 → T[j]? = U[j]?) := Lib.hid (fun j hj => by
            by_cases e : j = k
            · subst e; rw [List.getElem?_eq_getElem hlt, List.getElem?_eq_getElem hlu, he]
            · exact hall.out j (by omega))
          rw [decide_eq_true (p := (⟨T[k].owner, T[k].name⟩ : Rl) = (⟨U[k].owner, U[k].name⟩)) he] at hq
          clear he hall
          go_wp2_with fail
          go_quiet (fail)
          go_wp2_with fail
          go_roundw
          case rel => exact ⟨k + 1, by omega, by go_num, hnext, _, rfl⟩
          case measure => simp [intOf]; omega
        · have hfin : Hid (decide (T = U) = false) := Lib.hid (decide_eq_false (fun h => he (by subst h; rfl)))
          rw [decide_eq_false (p := (⟨T[k].owner, T[k].name⟩ : Rl) = (⟨U[k].owner, U[k].name⟩)) he] at hq
          clear he hall
          go_wp2_with fail
          go_quiet (fail)
          go_wp2_with fail
          go_ret
          exact ⟨ret_bool hfin.out.symm, _, World.drewN_drewN _ _ _⟩
      · have hfin : Hid (decide (T = U) = true) := Lib.hid (decide_eq_true (same_all HL.out fun j hj => hall.out j (by omega)))
        clear hall
        go_wp2_with fail
        go_ret
        exact ⟨ret_bool hfin.out.symm, _, rfl⟩
  · have d0 : ((T.length : Int) != U.length) = true := by rw [bne_iff_ne]; omega
    have d0' : (T.length != U.length) = true := by rw [bne_iff_ne]; exact hl
    rw [decide_eq_false (fun h : T = U => hl (by rw [h]))]
    clear hl hA hB
    go_enter Tryz.func72, Tryz.ntmps72
    go_wp2_with fail
    go_ret
    exact ⟨rfl, 0, rfl⟩
set_option maxHeartbeats 1000000 in
set_option maxRecDepth 100000 in
theorem sameSS (A B : Option Addr) (ca cb : Nat) (T U : List St) (w : World) (hT : T.length ≤ 10000) (hU : U.length ≤ 10000) (hA : SG w A T) (hB : SG w B U) :
    Calls Tryz.prog 30 #[.slice A T.length ca, .slice B U.length cb] w fun e w' => e = .returned (.bool (decide (T = U))) ∧ ∃ n, w' = w.drewN n := by
  by_cases hl : T.length = U.length
  · have HL := Lib.hid hl
    have d0 : ((T.length : Int) != U.length) = false := by rw [hl]; simp
    have d0' : (T.length != U.length) = false := by rw [hl]; simp
    have HA := Lib.hid hA
    have HB := Lib.hid hB
    have hul : U.length ≤ T.length := by omega
    have htl : T.length ≤ U.length := by omega
    clear hl hA hB
    go_enter Tryz.func30, Tryz.ntmps30
    go_wp2_with fail
    go_loopw [13] (fun i wr => ∃ k : Nat, k ≤ T.length ∧ i = .int .i64 k ∧ Hid (∀ j, j < k → T[j]? = U[j]?) ∧ ∃ n, wr = w.drewN n) (fun i _ => T.length - (intOf i).toNat)
    case atStart => exact ⟨0, by omega, rfl, Lib.hid (fun j hj => by omega), 0, rfl⟩
    case round =>
      obtain ⟨k, hk, rfl, hall, n, rfl⟩ := hrel
      by_cases hlt : k < T.length
      · have hlu : k < U.length := by omega
        obtain ⟨g1, o1, rfl, _, h1⟩ := HA.out (by omega)
        obtain ⟨g2, o2, rfl, _, h2⟩ := HB.out (by omega)
        obtain ⟨a0, a1, a2, a3, a4, a5, a6, a7, a8⟩ := h1 k hlt
        obtain ⟨b0, b1, b2, b3, b4, b5, b6, b7, b8⟩ := h2 k hlu
        have p1 : (0 : Int) ≤ k := by omega
        have p2 : (k : Int) < T.length := by omega
        have p3 : (k : Int) < U.length := by omega
        have hq := fun w => SynE.neS T[k].kind T[k].head.owner T[k].head.name T[k].who T[k].a.owner T[k].a.name T[k].b.owner T[k].b.name T[k].via U[k].kind U[k].head.owner U[k].head.name U[k].who U[k].a.owner U[k].a.name U[k].b.owner U[k].b.name U[k].via w
        clear h1 h2
        by_cases he : T[k] = U[k]
        · have hnext : Hid (∀ j, j < k + 1 → T[j]? = U[j]?) := Lib.hid (fun j hj => by
            by_cases e : j = k
            · subst e; rw [List.getElem?_eq_getElem hlt, List.getElem?_eq_getElem hlu, he]
            · exact hall.out j (by omega))
          rw [decide_eq_true (p := (⟨T[k].kind, ⟨T[k].head.owner, T[k].head.name⟩, T[k].who, ⟨T[k].a.owner, T[k].a.name⟩, ⟨T[k].b.owner, T[k].b.name⟩, T[k].via⟩ : St) = (⟨U[k].kind, ⟨U[k].head.owner, U[k].head.name⟩, U[k].who, ⟨U[k].a.owner, U[k].a.name⟩, ⟨U[k].b.owner, U[k].b.name⟩, U[k].via⟩)) he] at hq
          clear he hall
          go_wp2_with fail
          go_quiet (fail)
          go_wp2_with fail
          go_roundw
          case rel => exact ⟨k + 1, by omega, by go_num, hnext, _, rfl⟩
          case measure => simp [intOf]; omega
        · have hfin : Hid (decide (T = U) = false) := Lib.hid (decide_eq_false (fun h => he (by subst h; rfl)))
          rw [decide_eq_false (p := (⟨T[k].kind, ⟨T[k].head.owner, T[k].head.name⟩, T[k].who, ⟨T[k].a.owner, T[k].a.name⟩, ⟨T[k].b.owner, T[k].b.name⟩, T[k].via⟩ : St) = (⟨U[k].kind, ⟨U[k].head.owner, U[k].head.name⟩, U[k].who, ⟨U[k].a.owner, U[k].a.name⟩, ⟨U[k].b.owner, U[k].b.name⟩, U[k].via⟩)) he] at hq
          clear he hall
          go_wp2_with fail
          go_quiet (fail)
          go_wp2_with fail
          go_ret
          exact ⟨ret_bool hfin.out.symm, _, World.drewN_drewN _ _ _⟩
      · have hfin : Hid (decide (T = U) = true) := Lib.hid (decide_eq_true (same_all HL.out fun j hj => hall.out j (by omega)))
        clear hall
        go_wp2_with fail
        go_ret
        exact ⟨ret_bool hfin.out.symm, _, rfl⟩
  · have d0 : ((T.length : Int) != U.length) = true := by rw [bne_iff_ne]; omega
    have d0' : (T.length != U.length) = true := by rw [bne_iff_ne]; exact hl
    rw [decide_eq_false (fun h : T = U => hl (by rw [h]))]
    clear hl hA hB
    go_enter Tryz.func30, Tryz.ntmps30
    go_wp2_with fail
    go_ret
    exact ⟨rfl, 0, rfl⟩
end Go.Proofs.YtblapgfilbmdhaaGreatDoor.RefSm
namespace Go.Proofs.YtblapgfilbmdhaaGreatDoor.RefRo
open Go.RowKit Go.Sort Go.Lib Go.Proofs Plain SynP TabP Tab1 Grown SynC SynJ QryP PolA PolE PolG PolO
def snoc (R : List Rl) (r : Rl) : List Rl := R ++ [r]
def cat (R L : List Rl) (k : Nat) : List Rl := R ++ L.take k
def catQ (R : List Rl) (L : List Qy) (k : Nat) : List Rl := R ++ rolesA L k
theorem snoc_len (R : List Rl) (r : Rl) : (snoc R r).length = R.length + 1 := by simp [snoc]
theorem cat_len (R L : List Rl) (k : Nat) : (cat R L k).length ≤ R.length + L.length := by simp [cat]; omega
theorem cat_succ (R L : List Rl) (k : Nat) (h : k < L.length) : cat R L (k + 1) = snoc (cat R L k) L[k] := by unfold cat snoc; rw [List.take_succ_eq_append_getElem h, List.append_assoc]
theorem catQ_len (R : List Rl) (L : List Qy) (k : Nat) : (catQ R L k).length ≤ R.length + k * 2 := by unfold catQ; have := rolesA_len L k; simp; omega
def rolesR (p : Py) : List Rl := rolesS p.stmts p.stmts.length ++ p.grow ++ p.shrink ++ rolesA p.asks p.asks.length
def Apart (v : Value) (D : Nat) : Prop := ∀ g, v.ownBlock = some g → g ≠ D
theorem Apart.moves {w : World} {v v' : Value} {D : Nat} (h : Apart v D) (hm : Moves w v.ownBlock v'.ownBlock) (hD : D < w.heap.size) : Apart v' D := fun g e => by
  rcases hm with hm | ⟨g', hm, hg⟩
  · exact h g (hm ▸ e)
  · rw [e] at hm; injection hm with hm; omega
theorem Apart.of_own {w : World} {B n : Nat} {e : TypeId} {k : Nat} {v : Value} {xs : List Value} {D : Nat} (h : w.ownsRow B e k v n xs) (hD : w.heap.size ≤ D) : Apart v D := fun g hg => by
  have := (h.lt g hg).2; omega
theorem kept {w w' : World} {v : Value} {D o : Nat} (hg : w.grownBy w' v.ownBlock) (ha : Apart v D) (hD : D < w.heap.size) : w'.cell? ⟨D, o, none⟩ = w.cell? ⟨D, o, none⟩ := by
  have h := hg.block D hD (fun e => ha D e.symm rfl)
  unfold World.cell?
  rw [h]
section
variable {w : World}
set_option maxRecDepth 100000 in
theorem wp_app1 {ops : Array Oper} {rest : List Oper} {o : Oper} {a : Act} {Q : Exit → Act → World → Prop} (hgd : o.guard = none) (s x : Operand)
    (ho : o.op = .call { callee := .builtin .append, args := #[s, x], argTypes := #[23, 23] })
    (B : Nat) (v : Value) (R : List Rl) (hs : a.eval s = v) (hown : w.ownsRow B 28 2 v R.length (rcells R)) (g : Nat) (r : Rl) (hx : a.eval x = .slice (some ⟨g, 0, none⟩) 1 1)
    (hc : ∀ j u, (Rl.cells r)[j]? = some u → w.cell? ⟨g, j, none⟩ = some u) (hR : R.length ≤ 100000) (hB : B ≤ w.heap.size)
    (h : ∀ v' w', w'.ownsRow B 28 2 v' (snoc R r).length (rcells (snoc R r)) → w.grownBy w' v.ownBlock → Moves w v.ownBlock v'.ownBlock → wpList Tryz.prog ops Q rest (a.put o.dst v') w') : wpList Tryz.prog ops Q (o :: rest) a w := by
  obtain ⟨i0, hi, hz0, hz1, hz2⟩ := info_parts infoRole
  refine wpList_append_at w hgd s x 23 ho B 28 i0 (.agg #[.string ⟨#[]⟩, .string ⟨#[]⟩]) 2 32 Tryz.underlying23 hi hz0 hz1 hz2 rfl (by decide) v R.length (rcells R) hs hown ⟨g, 0, none⟩ 1 1 (Rl.cells r) hx rfl ?_ ?_ (by unfold maxLen; omega) (by omega) hB ?_
  · intro ad e j u hu
    injection e with e; subst e
    rw [add_off, Nat.zero_add]; exact hc j u hu
  · intro u hu
    simp [Rl.cells] at hu
    rcases hu with rfl | rfl <;> rfl
  · intro v' w' h1 h2 h3
    refine h v' w' ?_ h2 h3
    have e : rcells (snoc R r) = rcells R ++ Rl.cells r := by unfold snoc; rw [rcells_app]; simp [rcells, Rl.cells]
    rw [e, snoc_len]; exact h1
end
theorem lit (X : World) (r : Rl) (n : Nat) (hn : X.heap.size = n) : ∀ j u, (Rl.cells r)[j]? = some u → (X.alloc (.cells #[.string r.owner, .string r.name] 28)).cell? ⟨n, j, none⟩ = some u := fun j u hu => by
  subst hn
  rw [Lib.cell_of_heap (heap_alloc_new X _), ← hu]
  show ([Value.string r.owner, Value.string r.name].toArray)[j]? = _
  rw [List.getElem?_toArray]; rfl
theorem first_cell (w : World) (C : Array Value) (t : TypeId) (o : Obj) (j : Nat) : ((w.alloc (.cells C t)).alloc o).cell? ⟨w.heap.size, j, none⟩ = C[j]? := by
  rw [World.cell?_alloc_past _ _ _ (by simp), Lib.cell_of_heap (heap_alloc_new w _)]
theorem grown_low {w w' : World} {B n : Nat} {v : Value} {xs : List Value} {e : TypeId} {k : Nat} {w0 : World} (hb : Below B w0 w) (ho : w.ownsRow B e k v n xs) (hg : w.grownBy w' v.ownBlock) (hB : B ≤ w.heap.size) : Below B w0 w' :=
  hb.grown hg hB (fun j hj => (ho.lt j hj).1)
set_option maxHeartbeats 2000000 in
set_option maxRecDepth 100000 in
theorem rolesRef (p : Py) (A1 A2 A3 A4 : Option Addr) (c1 c2 c3 c4 : Nat) (w : World) (hf : p.fit) (hp : PG w A1 A2 A3 A4 p) : Calls Tryz.prog 41 #[p.val A1 A2 A3 A4 c1 c2 c3 c4] w fun e w' => ∃ A c, e = .returned (.slice A (rolesR p).length c) ∧ RAt w' A (rolesR p) ∧ Below w.heap.size w w' := by
  obtain ⟨S, G, H, Q⟩ := p
  unfold rolesR
  have HP := Lib.hid hp
  obtain ⟨n1, n2, n3, n4, _, _, _, _, _⟩ := hf
  simp only at n1 n2 n3 n4
  clear hp
  show Calls _ _ #[.agg #[.slice A1 S.length c1, .slice A2 G.length c2, .slice A3 H.length c3, .slice A4 Q.length c4]] _ _
  simp only
  have hcP := box_cell (Below.refl (w.heap.size + 1) (w.alloc (.cells #[.slice A1 S.length c1, .slice A2 G.length c2, .slice A3 H.length c3, .slice A4 Q.length c4] 26)))
  go_enter Tryz.func41, Tryz.ntmps41
  go_wp2_with fail
  clear hcP
  go_loopw [3, 15] (fun l i wx => ∃ (k : Nat) (v : Value), k ≤ S.length ∧ l = v ∧ i = .int .i64 k ∧ Hid (wx.ownsRow (w.heap.size + 1) 28 2 v (rolesS S k).length (rcells (rolesS S k))) ∧ Below (w.heap.size + 1) (w.alloc (.cells #[.slice A1 S.length c1, .slice A2 G.length c2, .slice A3 H.length c3, .slice A4 Q.length c4] 26)) wx) (fun _ i _ => S.length - (intOf i).toNat)
  case atStart => exact ⟨0, _, by omega, rfl, rfl, Lib.hid (by simpa [rolesS, rcells] using World.ownsRow_nil (w.alloc (.cells #[.slice A1 S.length c1, .slice A2 G.length c2, .slice A3 H.length c3, .slice A4 Q.length c4] 26)) (w.heap.size + 1) 28 2), Below.refl _ _⟩
  case round =>
    obtain ⟨k, v1, hk, rfl, rfl, hown, hbel⟩ := hrel
    have zr : w.heap.size + 1 ≤ wr.heap.size := by have := hbel.size; simpa using this
    have hlk := rolesS_len S k
    by_cases hlt : k < S.length
    · have d1 : decide ((k : Int) < S.length) = true := by simp; omega
      have p1 : (0 : Int) ≤ k := by omega
      have p2 : (k : Int) < S.length := by omega
      have hs := HP.out.s.below (low hbel)
      obtain ⟨g, o, e1, hg, hc⟩ := hs (by show 0 < S.length; omega)
      obtain rfl := e1
      obtain ⟨a0, a1, a2, a3, a4, a5, a6, a7, a8⟩ := hc k hlt
      have Hs := rolesS_succ hlt
      simp only at Hs a0 a1 a2 a3 a4 a5 a6 a7 a8
      generalize S[k] = s at Hs a0 a1 a2 a3 a4 a5 a6 a7 a8
      obtain ⟨k1, ⟨ho, hn⟩, wh, ⟨ao, an⟩, ⟨bo, bn⟩, via⟩ := s
      have HS := Lib.hid Hs
      clear hs hc Hs
      simp only at a0 a1 a2 a3 a4 a5 a6 a7 a8
      have hb1 : Below wr.heap.size wr ((wr.alloc (.cells #[.int .i64 k1, .string ho, .string hn, .string wh, .string ao, .string an, .string bo, .string bn, .string via] 67)).alloc (.cells #[.string ho, .string hn] 28)) := ((Below.refl _ wr).alloc (Nat.le_refl _) _).alloc (by simp) _
      have hap := Apart.of_own hown.out (Nat.le_refl wr.heap.size)
      have hownX := own_at hown.out hb1
      have hbX := hbel.trans (hb1.mono zr)
      have hL1 := lit (wr.alloc (.cells #[.int .i64 k1, .string ho, .string hn, .string wh, .string ao, .string an, .string bo, .string bn, .string via] 67)) ⟨ho, hn⟩ (wr.heap.size + 1) (by simp)
      have HL1 := Lib.hid hL1
      have HX := Lib.hid hownX
      have HBX := Lib.hid hbX
      clear hown hbel hb1 hL1 hownX hbX
      go_wp2_with (at_builtin; refine wp_app1 rfl _ _ rfl (w.heap.size + 1) _ (rolesS S k) rfl HX.out _ ⟨ho, hn⟩ rfl HL1.out (by omega) (by simp; omega) ?_)
      intro v2 w3 hown3 hg3 hm3
      have hap3 := hap.moves hm3 (by simp; omega)
      have hD3 : wr.heap.size < w3.heap.size := by have := hg3.size; simp only [World.size_alloc] at this; omega
      have hB3 := grown_low HBX.out HX.out hg3 (by simp; omega)
      have f : ∀ o u, (#[.int .i64 k1, .string ho, .string hn, .string wh, .string ao, .string an, .string bo, .string bn, .string via] : Array Value)[o]? = some u → w3.cell? ⟨wr.heap.size, o, none⟩ = some u := fun o u hu => by
        rw [kept hg3 hap (by simp; omega), first_cell]; exact hu
      have f0 := f 0 _ rfl
      have f4 := f 4 _ rfl
      have f5 := f 5 _ rfl
      have f6 := f 6 _ rfl
      have f7 := f 7 _ rfl
      have HO3 := Lib.hid hown3
      have HB3 := Lib.hid hB3
      clear hown3 hg3 hm3 hap HX HBX HL1 f hB3
      by_cases hk : k1 = 2 ∨ k1 = 3
      · have HF1 : Hid (rolesS S (k + 1) = snoc (snoc (rolesS S k) ⟨ho, hn⟩) ⟨ao, an⟩) := Lib.hid (by rw [HS.out]; unfold rolesL snoc; rw [if_pos hk]; simp)
        have hd : decide ((2 : Int) ≤ k1) = true := by rcases hk with rfl | rfl <;> rfl
        have hd2 : decide (k1 ≤ (4 : Int)) = true := by rcases hk with rfl | rfl <;> rfl
        have hd3 : (k1 == 4) = false := by rcases hk with rfl | rfl <;> rfl
        clear hk HS
        have hb4 : Below w3.heap.size w3 (w3.alloc (.cells #[.string ao, .string an] 28)) := (Below.refl _ _).alloc (Nat.le_refl _) _
        have zr3 : w.heap.size + 1 ≤ w3.heap.size := by omega
        have HO4 := Lib.hid (own_at HO3.out hb4)
        have HB4 := Lib.hid (HB3.out.trans (hb4.mono zr3))
        have HL4 := Lib.hid (lit w3 ⟨ao, an⟩ w3.heap.size rfl)
        have hl4 : (snoc (rolesS S k) ⟨ho, hn⟩).length ≤ 100000 := by rw [snoc_len]; omega
        clear hb4
        go_wp2_with (at_builtin; refine wp_app1 rfl _ _ rfl (w.heap.size + 1) _ (snoc (rolesS S k) ⟨ho, hn⟩) rfl HO4.out _ ⟨ao, an⟩ rfl HL4.out hl4 (by simp; omega) ?_)
        intro v4 w5 hown5 hg5 hm5
        have g0 := (kept (o := 0) hg5 hap3 (by simp; omega)).trans ((World.cell?_alloc_past _ _ _ hD3).trans f0)
        have HF := Lib.hid hown5
        have HFB := Lib.hid (grown_low HB4.out HO4.out hg5 (by simp; omega))
        rw [← HF1.out] at HF
        clear hown5 hg5 hm5 f0 f4 f5 f6 f7
        go_wp2_with fail
        go_roundw
        case rel => exact ⟨k + 1, _, by omega, rfl, by go_num, HF, HFB.out⟩
        case measure => simp [intOf]; omega
      · by_cases hk4 : k1 = 4
        · subst hk4
          have HF1 : Hid (rolesS S (k + 1) = snoc (snoc (snoc (rolesS S k) ⟨ho, hn⟩) ⟨ao, an⟩) ⟨bo, bn⟩) := Lib.hid (by rw [HS.out]; unfold rolesL snoc; simp)
          clear hk HS
          have hb4 : Below w3.heap.size w3 (w3.alloc (.cells #[.string ao, .string an] 28)) := (Below.refl _ _).alloc (Nat.le_refl _) _
          have zr3 : w.heap.size + 1 ≤ w3.heap.size := by omega
          have HO4 := Lib.hid (own_at HO3.out hb4)
          have HB4 := Lib.hid (HB3.out.trans (hb4.mono zr3))
          have HL4 := Lib.hid (lit w3 ⟨ao, an⟩ w3.heap.size rfl)
          have hl4 : (snoc (rolesS S k) ⟨ho, hn⟩).length ≤ 100000 := by rw [snoc_len]; omega
          clear hb4
          go_wp2_with (at_builtin; refine wp_app1 rfl _ _ rfl (w.heap.size + 1) _ (snoc (rolesS S k) ⟨ho, hn⟩) rfl HO4.out _ ⟨ao, an⟩ rfl HL4.out hl4 (by simp; omega) ?_)
          intro v4 w5 hown5 hg5 hm5
          have g0 := (kept (o := 0) hg5 hap3 (by simp; omega)).trans ((World.cell?_alloc_past _ _ _ hD3).trans f0)
          have g6 := (kept (o := 6) hg5 hap3 (by simp; omega)).trans ((World.cell?_alloc_past _ _ _ hD3).trans f6)
          have g7 := (kept (o := 7) hg5 hap3 (by simp; omega)).trans ((World.cell?_alloc_past _ _ _ hD3).trans f7)
          have hB5 := grown_low HB4.out HO4.out hg5 (by simp; omega)
          have zr5 : w.heap.size + 1 ≤ w5.heap.size := by have := hg5.size; simp only [World.size_alloc] at this; omega
          have hb6 : Below w5.heap.size w5 (w5.alloc (.cells #[.string bo, .string bn] 28)) := (Below.refl _ _).alloc (Nat.le_refl _) _
          have HO6 := Lib.hid (own_at hown5 hb6)
          have HB6 := Lib.hid (hB5.trans (hb6.mono zr5))
          have HL6 := Lib.hid (lit w5 ⟨bo, bn⟩ w5.heap.size rfl)
          have hl6 : (snoc (snoc (rolesS S k) ⟨ho, hn⟩) ⟨ao, an⟩).length ≤ 100000 := by rw [snoc_len, snoc_len]; omega
          clear hown5 hg5 hm5 f0 f4 f5 f6 f7 hb6 hB5
          go_wp2_with (at_builtin; refine wp_app1 rfl _ _ rfl (w.heap.size + 1) _ (snoc (snoc (rolesS S k) ⟨ho, hn⟩) ⟨ao, an⟩) rfl HO6.out _ ⟨bo, bn⟩ rfl HL6.out hl6 (by simp; omega) ?_)
          intro v6 w7 hown7 hg7 hm7
          have HF := Lib.hid hown7
          have HFB := Lib.hid (grown_low HB6.out HO6.out hg7 (by simp; omega))
          rw [← HF1.out] at HF
          clear hown7 hg7 hm7 g0 g6 g7
          go_wp2_with fail
          go_roundw
          case rel => exact ⟨k + 1, _, by omega, rfl, by go_num, HF, HFB.out⟩
          case measure => simp [intOf]; omega
        · have HF1 : Hid (rolesS S (k + 1) = snoc (rolesS S k) ⟨ho, hn⟩) := Lib.hid (by rw [HS.out]; unfold rolesL snoc; rw [if_neg hk, if_neg hk4])
          have hd3 : (k1 == 4) = false := by simpa using hk4
          have HF := Lib.hid HO3.out
          rw [← HF1.out] at HF
          by_cases hk2 : (2 : Int) ≤ k1
          · have hd : decide ((2 : Int) ≤ k1) = true := decide_eq_true hk2
            have hd2 : decide (k1 ≤ (4 : Int)) = false := decide_eq_false (by omega)
            clear hk HS hk2 hk4
            go_wp2_with fail
            go_roundw
            case rel => exact ⟨k + 1, _, by omega, rfl, by go_num, HF, HB3.out⟩
            case measure => simp [intOf]; omega
          · have hd : decide ((2 : Int) ≤ k1) = false := decide_eq_false hk2
            clear hk HS hk2 hk4
            go_wp2_with fail
            go_roundw
            case rel => exact ⟨k + 1, _, by omega, rfl, by go_num, HF, HB3.out⟩
            case measure => simp [intOf]; omega
    · have d1 : decide ((k : Int) < S.length) = false := by simp; omega
      have hkL : k = S.length := by omega
      subst hkL
      have hcP := box_cell hbel
      have hR : (rolesS S S.length).length ≤ 4000 := by have := rolesS_len S S.length; omega
      obtain ⟨R1, hRe⟩ : ∃ R, rolesS S S.length = R := ⟨_, rfl⟩
      have hown' := hown.out
      rw [hRe] at hown'
      rw [hRe] at hR
      have HR1 := Lib.hid hRe
      have HO := Lib.hid hown'
      have HB := Lib.hid hbel
      clear hRe hown hown' hbel
      go_wp2_with fail
      clear hcP
      go_loopw [3, 49] (fun l i wx => ∃ (k : Nat) (v : Value), k ≤ G.length ∧ l = v ∧ i = .int .i64 k ∧ Hid (wx.ownsRow (w.heap.size + 1) 28 2 v (cat R1 G k).length (rcells (cat R1 G k))) ∧ Below (w.heap.size + 1) (w.alloc (.cells #[.slice A1 S.length c1, .slice A2 G.length c2, .slice A3 H.length c3, .slice A4 Q.length c4] 26)) wx) (fun _ i _ => G.length - (intOf i).toNat)
      case atStart => exact ⟨0, _, by omega, rfl, rfl, Lib.hid (by have := HO.out; simpa [cat] using this), HB.out⟩
      case round =>
        clear HO HB
        obtain ⟨k, v1, hk, rfl, rfl, hown, hbel⟩ := hrel
        have zr : w.heap.size + 1 ≤ wr.heap.size := by have := hbel.size; simpa using this
        by_cases hlt : k < G.length
        · have d1 : decide ((k : Int) < G.length) = true := by simp; omega
          have p1 : (0 : Int) ≤ k := by omega
          have p2 : (k : Int) < G.length := by omega
          have hs := HP.out.g.below (low hbel)
          obtain ⟨g, o, e1, hg, hc⟩ := hs (by show 0 < G.length; omega)
          obtain rfl := e1
          obtain ⟨a0, a1⟩ := hc k hlt
          have Hs : cat R1 G (k + 1) = snoc (cat R1 G k) G[k] := cat_succ _ _ _ hlt
          simp only at Hs a0 a1
          generalize G[k] = s at Hs a0 a1
          obtain ⟨ho, hn⟩ := s
          have HS := Lib.hid Hs
          clear hs hc Hs
          simp only at a0 a1
          have hb1 : Below wr.heap.size wr ((wr.alloc (.cells #[.string ho, .string hn] 28)).alloc (.cells #[.string ho, .string hn] 28)) := ((Below.refl _ wr).alloc (Nat.le_refl _) _).alloc (by simp) _
          have HX := Lib.hid (own_at hown.out hb1)
          have HBX := Lib.hid (hbel.trans (hb1.mono zr))
          have HL1 := Lib.hid (lit (wr.alloc (.cells #[.string ho, .string hn] 28)) ⟨ho, hn⟩ (wr.heap.size + 1) (by simp))
          have hl : (cat R1 G k).length ≤ 100000 := by have := cat_len R1 G k; omega
          clear hown hbel hb1
          go_wp2_with (at_builtin; refine wp_app1 rfl _ _ rfl (w.heap.size + 1) _ (cat R1 G k) rfl HX.out _ ⟨ho, hn⟩ rfl HL1.out hl (by simp; omega) ?_)
          intro v2 w3 hown3 hg3 hm3
          have HF := Lib.hid hown3
          have HFB := Lib.hid (grown_low HBX.out HX.out hg3 (by simp; omega))
          rw [← HS.out] at HF
          clear hown3 hg3 hm3
          go_wp2_with fail
          go_roundw
          case rel => exact ⟨k + 1, _, by omega, rfl, by go_num, HF, HFB.out⟩
          case measure => simp [intOf]; omega
        · have d1 : decide ((k : Int) < G.length) = false := by simp; omega
          have hkL : k = G.length := by omega
          subst hkL
          have hcP := box_cell hbel
          have hR : (cat R1 G G.length).length ≤ 6000 := by have := cat_len R1 G G.length; omega
          obtain ⟨R2, hRe⟩ : ∃ R, cat R1 G G.length = R := ⟨_, rfl⟩
          have hown' := hown.out
          rw [hRe] at hown'
          rw [hRe] at hR
          have HR2 := Lib.hid hRe
          have HO := Lib.hid hown'
          have HB := Lib.hid hbel
          clear hRe hown hown' hbel
          go_wp2_with fail
          clear hcP
          go_loopw [3, 61] (fun l i wx => ∃ (k : Nat) (v : Value), k ≤ H.length ∧ l = v ∧ i = .int .i64 k ∧ Hid (wx.ownsRow (w.heap.size + 1) 28 2 v (cat R2 H k).length (rcells (cat R2 H k))) ∧ Below (w.heap.size + 1) (w.alloc (.cells #[.slice A1 S.length c1, .slice A2 G.length c2, .slice A3 H.length c3, .slice A4 Q.length c4] 26)) wx) (fun _ i _ => H.length - (intOf i).toNat)
          case atStart => exact ⟨0, _, by omega, rfl, rfl, Lib.hid (by have := HO.out; simpa [cat] using this), HB.out⟩
          case round =>
            clear HO HB
            obtain ⟨k, v1, hk, rfl, rfl, hown, hbel⟩ := hrel
            have zr : w.heap.size + 1 ≤ wr.heap.size := by have := hbel.size; simpa using this
            by_cases hlt : k < H.length
            · have d1 : decide ((k : Int) < H.length) = true := by simp; omega
              have p1 : (0 : Int) ≤ k := by omega
              have p2 : (k : Int) < H.length := by omega
              have hs := HP.out.h.below (low hbel)
              obtain ⟨g, o, e1, hg, hc⟩ := hs (by show 0 < H.length; omega)
              obtain rfl := e1
              obtain ⟨a0, a1⟩ := hc k hlt
              have Hs : cat R2 H (k + 1) = snoc (cat R2 H k) H[k] := cat_succ _ _ _ hlt
              simp only at Hs a0 a1
              generalize H[k] = s at Hs a0 a1
              obtain ⟨ho, hn⟩ := s
              have HS := Lib.hid Hs
              clear hs hc Hs
              simp only at a0 a1
              have hb1 : Below wr.heap.size wr ((wr.alloc (.cells #[.string ho, .string hn] 28)).alloc (.cells #[.string ho, .string hn] 28)) := ((Below.refl _ wr).alloc (Nat.le_refl _) _).alloc (by simp) _
              have HX := Lib.hid (own_at hown.out hb1)
              have HBX := Lib.hid (hbel.trans (hb1.mono zr))
              have HL1 := Lib.hid (lit (wr.alloc (.cells #[.string ho, .string hn] 28)) ⟨ho, hn⟩ (wr.heap.size + 1) (by simp))
              have hl : (cat R2 H k).length ≤ 100000 := by have := cat_len R2 H k; omega
              clear hown hbel hb1
              go_wp2_with (at_builtin; refine wp_app1 rfl _ _ rfl (w.heap.size + 1) _ (cat R2 H k) rfl HX.out _ ⟨ho, hn⟩ rfl HL1.out hl (by simp; omega) ?_)
              intro v2 w3 hown3 hg3 hm3
              have HF := Lib.hid hown3
              have HFB := Lib.hid (grown_low HBX.out HX.out hg3 (by simp; omega))
              rw [← HS.out] at HF
              clear hown3 hg3 hm3
              go_wp2_with fail
              go_roundw
              case rel => exact ⟨k + 1, _, by omega, rfl, by go_num, HF, HFB.out⟩
              case measure => simp [intOf]; omega
            · have d1 : decide ((k : Int) < H.length) = false := by simp; omega
              have hkL : k = H.length := by omega
              subst hkL
              have hcP := box_cell hbel
              have hR : (cat R2 H H.length).length ≤ 8000 := by have := cat_len R2 H H.length; omega
              obtain ⟨R3, hRe⟩ : ∃ R, cat R2 H H.length = R := ⟨_, rfl⟩
              have hown' := hown.out
              rw [hRe] at hown'
              rw [hRe] at hR
              have HR3 := Lib.hid hRe
              have HO := Lib.hid hown'
              have HB := Lib.hid hbel
              clear hRe hown hown' hbel
              go_wp2_with fail
              clear hcP
              go_loopw [3, 73] (fun l i wx => ∃ (k : Nat) (v : Value), k ≤ Q.length ∧ l = v ∧ i = .int .i64 k ∧ Hid (wx.ownsRow (w.heap.size + 1) 28 2 v (catQ R3 Q k).length (rcells (catQ R3 Q k))) ∧ Below (w.heap.size + 1) (w.alloc (.cells #[.slice A1 S.length c1, .slice A2 G.length c2, .slice A3 H.length c3, .slice A4 Q.length c4] 26)) wx) (fun _ i _ => Q.length - (intOf i).toNat)
              case atStart => exact ⟨0, _, by omega, rfl, rfl, Lib.hid (by have := HO.out; simpa [catQ, rolesA] using this), HB.out⟩
              case round =>
                clear HO HB
                obtain ⟨k, v1, hk, rfl, rfl, hown, hbel⟩ := hrel
                have zr : w.heap.size + 1 ≤ wr.heap.size := by have := hbel.size; simpa using this
                have hlk := catQ_len R3 Q k
                by_cases hlt : k < Q.length
                · have d1 : decide ((k : Int) < Q.length) = true := by simp; omega
                  have p1 : (0 : Int) ≤ k := by omega
                  have p2 : (k : Int) < Q.length := by omega
                  have hs := HP.out.q.below (low hbel)
                  obtain ⟨g, o, e1, hg, hc⟩ := hs (by show 0 < Q.length; omega)
                  obtain rfl := e1
                  obtain ⟨B, cB, a0, a1, a2, a3, a4, a5, _⟩ := hc k hlt
                  have Hs := rolesA_succ hlt
                  simp only at Hs a0 a1 a2 a3 a4 a5
                  generalize Q[k] = s at Hs a0 a1 a2 a3 a4 a5
                  obtain ⟨qk, ⟨ao, an⟩, ⟨bo, bn⟩, T⟩ := s
                  have HS := Lib.hid Hs
                  clear hs hc Hs
                  simp only at a0 a1 a2 a3 a4 a5
                  have hb1 : Below wr.heap.size wr ((wr.alloc (.cells #[.int .i64 qk, .string ao, .string an, .string bo, .string bn, .slice B T.length cB] 42)).alloc (.cells #[.string ao, .string an] 28)) := ((Below.refl _ wr).alloc (Nat.le_refl _) _).alloc (by simp) _
                  have hap := Apart.of_own hown.out (Nat.le_refl wr.heap.size)
                  have HX := Lib.hid (own_at hown.out hb1)
                  have HBX := Lib.hid (hbel.trans (hb1.mono zr))
                  have HL1 := Lib.hid (lit (wr.alloc (.cells #[.int .i64 qk, .string ao, .string an, .string bo, .string bn, .slice B T.length cB] 42)) ⟨ao, an⟩ (wr.heap.size + 1) (by simp))
                  have hl : (catQ R3 Q k).length ≤ 100000 := by omega
                  clear hown hbel hb1
                  go_wp2_with (at_builtin; refine wp_app1 rfl _ _ rfl (w.heap.size + 1) _ (catQ R3 Q k) rfl HX.out _ ⟨ao, an⟩ rfl HL1.out hl (by simp; omega) ?_)
                  intro v2 w3 hown3 hg3 hm3
                  have hap3 := hap.moves hm3 (by simp; omega)
                  have hD3 : wr.heap.size < w3.heap.size := by have := hg3.size; simp only [World.size_alloc] at this; omega
                  have f : ∀ o u, (#[.int .i64 qk, .string ao, .string an, .string bo, .string bn, .slice B T.length cB] : Array Value)[o]? = some u → w3.cell? ⟨wr.heap.size, o, none⟩ = some u := fun o u hu => by
                    rw [kept hg3 hap (by simp; omega), first_cell]; exact hu
                  have f0 := f 0 _ rfl
                  have f3 := f 3 _ rfl
                  have f4 := f 4 _ rfl
                  have HO3 := Lib.hid hown3
                  have HB3 := Lib.hid (grown_low HBX.out HX.out hg3 (by simp; omega))
                  clear hown3 hg3 hm3 hap HX HBX HL1 f
                  by_cases hq : qk = 5 ∨ qk = 6
                  · have HF1 : Hid (catQ R3 Q (k + 1) = snoc (snoc (catQ R3 Q k) ⟨ao, an⟩) ⟨bo, bn⟩) := Lib.hid (by unfold catQ; rw [HS.out]; unfold QryO.rolesQ hasBk snoc; rw [if_pos (by simpa using hq)]; simp)
                    have hb4 : Below w3.heap.size w3 (w3.alloc (.cells #[.string bo, .string bn] 28)) := (Below.refl _ _).alloc (Nat.le_refl _) _
                    have zr3 : w.heap.size + 1 ≤ w3.heap.size := by omega
                    have HO4 := Lib.hid (own_at HO3.out hb4)
                    have HB4 := Lib.hid (HB3.out.trans (hb4.mono zr3))
                    have HL4 := Lib.hid (lit w3 ⟨bo, bn⟩ w3.heap.size rfl)
                    have hl4 : (snoc (catQ R3 Q k) ⟨ao, an⟩).length ≤ 100000 := by rw [snoc_len]; omega
                    clear hb4 HS
                    rcases hq with rfl | rfl
                    all_goals
                      go_wp2_with (at_builtin; refine wp_app1 rfl _ _ rfl (w.heap.size + 1) _ (snoc (catQ R3 Q k) ⟨ao, an⟩) rfl HO4.out _ ⟨bo, bn⟩ rfl HL4.out hl4 (by simp; omega) ?_)
                      intro v4 w5 hown5 hg5 hm5
                      have HF := Lib.hid hown5
                      have HFB := Lib.hid (grown_low HB4.out HO4.out hg5 (by simp; omega))
                      rw [← HF1.out] at HF
                      clear hown5 hg5 hm5 f0 f3 f4
                      go_wp2_with fail
                      go_roundw
                      case rel => exact ⟨k + 1, _, by omega, rfl, by go_num, HF, HFB.out⟩
                      case measure => simp [intOf]; omega
                  · have HF1 : Hid (catQ R3 Q (k + 1) = snoc (catQ R3 Q k) ⟨ao, an⟩) := Lib.hid (by unfold catQ; rw [HS.out]; unfold QryO.rolesQ hasBk snoc; rw [if_neg (by simpa using hq)]; simp)
                    have hd5 : (qk == 5) = false := by simp; omega
                    have hd6 : (qk == 6) = false := by simp; omega
                    have HF := Lib.hid HO3.out
                    rw [← HF1.out] at HF
                    clear hq HS
                    go_wp2_with fail
                    go_roundw
                    case rel => exact ⟨k + 1, _, by omega, rfl, by go_num, HF, HB3.out⟩
                    case measure => simp [intOf]; omega
                · have d1 : decide ((k : Int) < Q.length) = false := by simp; omega
                  have hkQ : k = Q.length := by omega
                  subst hkQ
                  obtain ⟨A', c', rfl, hrat⟩ := rat_own hown.out
                  have hE : catQ R3 Q Q.length = rolesS S S.length ++ G ++ H ++ rolesA Q Q.length := by
                    unfold catQ; rw [← HR3.out, ← HR2.out, ← HR1.out]; simp [cat]
                  have hfin : Hid (RAt wr A' (rolesS S S.length ++ G ++ H ++ rolesA Q Q.length) ∧ (catQ R3 Q Q.length).length = (rolesS S S.length ++ G ++ H ++ rolesA Q Q.length).length) := Lib.hid (by rw [← hE]; exact ⟨hrat, rfl⟩)
                  have hlow := Lib.hid (low hbel)
                  clear hrat hown hbel hE
                  go_wp2_with fail
                  go_ret
                  exact ⟨A', c', by rw [← hfin.out.2]; rfl, hfin.out.1, hlow.out⟩
end Go.Proofs.YtblapgfilbmdhaaGreatDoor.RefRo
