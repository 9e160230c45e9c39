/- Are two policies the very same: policy.Same, by contract. -/
import Derived.Test.YtnhjnimgjpgfcaaM22
import Derived.Test.YtnhjnimgjpgfcaaM23
import Derived.Test.YtnhjnimgjpgfcaaM02
namespace Go.Proofs.Ytnhjnimgjpgfcaa.PolN
set_option linter.unusedVariables false
set_option linter.unusedSimpArgs false
open Go.RowKit Go.Sort Go.Lib Go.Proofs Go.Proofs.Ytnhjnimgjpgfcaa.Plain Go.Proofs.Ytnhjnimgjpgfcaa.SynP Go.Proofs.Ytnhjnimgjpgfcaa.TabP Go.Proofs.Ytnhjnimgjpgfcaa.Tab1 Go.Proofs.Ytnhjnimgjpgfcaa.SynJ Go.Proofs.Ytnhjnimgjpgfcaa.QryP Go.Proofs.Ytnhjnimgjpgfcaa.PolA Go.Proofs.Ytnhjnimgjpgfcaa.PolE Go.Proofs.Ytnhjnimgjpgfcaa.PolG Go.Proofs.Ytnhjnimgjpgfcaa.PolJ
set_option linter.unusedVariables false
set_option linter.unusedSimpArgs false
instance decQ : DecidableEq Qy := fun a b => decidable_of_iff (QryS.sameB a b = true) QryS.sameB_eq
theorem sameB_dec (a b : Qy) : QryS.sameB a b = decide (a = b) := by
  cases h : QryS.sameB a b
  · exact (decide_eq_false (fun e => by rw [QryS.sameB_eq.2 e] at h; cases h)).symm
  · exact (decide_eq_true (QryS.sameB_eq.1 h)).symm
def samePy (p q : Py) : Bool := decide (p.stmts = q.stmts) && decide (p.grow = q.grow) && decide (p.shrink = q.shrink) && decide (p.asks = q.asks)
end Go.Proofs.Ytnhjnimgjpgfcaa.PolN
/- Are two policies the very same: the document's Same, by contract. -/
namespace Go.Proofs.Ytnhjnimgjpgfcaa.RefSm
set_option linter.unusedVariables false
set_option linter.unusedSimpArgs false
open Go.RowKit Go.Sort Go.Lib Go.Proofs Go.Proofs.Ytnhjnimgjpgfcaa.Plain Go.Proofs.Ytnhjnimgjpgfcaa.SynP Go.Proofs.Ytnhjnimgjpgfcaa.TabP Go.Proofs.Ytnhjnimgjpgfcaa.Tab1 Go.Proofs.Ytnhjnimgjpgfcaa.SynJ Go.Proofs.Ytnhjnimgjpgfcaa.QryP Go.Proofs.Ytnhjnimgjpgfcaa.PolA Go.Proofs.Ytnhjnimgjpgfcaa.PolE Go.Proofs.Ytnhjnimgjpgfcaa.PolG Go.Proofs.Ytnhjnimgjpgfcaa.PolJ Go.Proofs.Ytnhjnimgjpgfcaa.PolN
set_option linter.unusedVariables false
set_option linter.unusedSimpArgs false
end Go.Proofs.Ytnhjnimgjpgfcaa.RefSm
/- All roles that a policy names: the document's Roles, by contract. -/
namespace Go.Proofs.Ytnhjnimgjpgfcaa.RefRo
set_option linter.unusedVariables false
set_option linter.unusedSimpArgs false
open Go.RowKit Go.Sort Go.Lib Go.Proofs Go.Proofs.Ytnhjnimgjpgfcaa.Plain Go.Proofs.Ytnhjnimgjpgfcaa.SynP Go.Proofs.Ytnhjnimgjpgfcaa.TabP Go.Proofs.Ytnhjnimgjpgfcaa.Tab1 Go.Proofs.Ytnhjnimgjpgfcaa.Grown Go.Proofs.Ytnhjnimgjpgfcaa.SynC Go.Proofs.Ytnhjnimgjpgfcaa.SynJ Go.Proofs.Ytnhjnimgjpgfcaa.QryP Go.Proofs.Ytnhjnimgjpgfcaa.PolA Go.Proofs.Ytnhjnimgjpgfcaa.PolE Go.Proofs.Ytnhjnimgjpgfcaa.PolG Go.Proofs.Ytnhjnimgjpgfcaa.PolO
set_option linter.unusedVariables false
set_option linter.unusedSimpArgs false
def snoc (R : List Rl) (r : Rl) : List Rl := R ++ [r]
def cat (R L : List Rl) (k : Nat) : List Rl := R ++ L.take k
def catQ (R : List Rl) (L : List Qy) (k : Nat) : List Rl := R ++ rolesA L k
theorem snoc_len (R : List Rl) (r : Rl) : (snoc R r).length = R.length + 1 := by simp [snoc]
theorem cat_len (R L : List Rl) (k : Nat) : (cat R L k).length ≤ R.length + L.length := by simp [cat]; omega
theorem cat_succ (R L : List Rl) (k : Nat) (h : k < L.length) : cat R L (k + 1) = snoc (cat R L k) L[k] := by unfold cat snoc; rw [List.take_succ_eq_append_getElem h, List.append_assoc]
theorem catQ_len (R : List Rl) (L : List Qy) (k : Nat) : (catQ R L k).length ≤ R.length + k * 2 := by unfold catQ; have := rolesA_len L k; simp; omega
def rolesR (p : Py) : List Rl := rolesS p.stmts p.stmts.length ++ p.grow ++ p.shrink ++ rolesA p.asks p.asks.length
/-- No block of the row is the block D. -/
def Apart (v : Value) (D : Nat) : Prop := ∀ g, v.ownBlock = some g → g ≠ D
theorem Apart.moves {w : World} {v v' : Value} {D : Nat} (h : Apart v D) (hm : Moves w v.ownBlock v'.ownBlock) (hD : D < w.heap.size) : Apart v' D := fun g e => by
  rcases hm with hm | ⟨g', hm, hg⟩
  · exact h g (hm ▸ e)
  · rw [e] at hm; injection hm with hm; omega
theorem Apart.of_own {w : World} {B n : Nat} {e : TypeId} {k : Nat} {v : Value} {xs : List Value} {D : Nat} (h : w.ownsRow B e k v n xs) (hD : w.heap.size ≤ D) : Apart v D := fun g hg => by
  have := (h.lt g hg).2; omega
theorem kept {w w' : World} {v : Value} {D o : Nat} (hg : w.grownBy w' v.ownBlock) (ha : Apart v D) (hD : D < w.heap.size) : w'.cell? ⟨D, o, none⟩ = w.cell? ⟨D, o, none⟩ := by
  have h := hg.block D hD (fun e => ha D e.symm rfl)
  unfold World.cell?
  rw [h]
section
variable {w : World}
set_option maxRecDepth 100000 in
theorem wp_app1 {ops : Array Oper} {rest : List Oper} {o : Oper} {a : Act} {Q : Exit → Act → World → Prop} (hgd : o.guard = none) (s x : Operand)
    (ho : o.op = .call { callee := .builtin .append, args := #[s, x], argTypes := #[46, 46] })
    (B : Nat) (v : Value) (R : List Rl) (hs : a.eval s = v) (hown : w.ownsRow B 24 2 v R.length (rcells R)) (g : Nat) (r : Rl) (hx : a.eval x = .slice (some ⟨g, 0, none⟩) 1 1)
    (hc : ∀ j u, (Rl.cells r)[j]? = some u → w.cell? ⟨g, j, none⟩ = some u) (hR : R.length ≤ 100000) (hB : B ≤ w.heap.size)
    (h : ∀ v' w', w'.ownsRow B 24 2 v' (snoc R r).length (rcells (snoc R r)) → w.grownBy w' v.ownBlock → Moves w v.ownBlock v'.ownBlock → wpList Try.prog ops Q rest (a.put o.dst v') w') : wpList Try.prog ops Q (o :: rest) a w := by
  obtain ⟨i0, hi, hz0, hz1, hz2⟩ := info_parts infoRole
  refine wpList_append_at w hgd s x 46 ho B 24 i0 (.agg #[.string ⟨#[]⟩, .string ⟨#[]⟩]) 2 32 Try.underlying46 hi hz0 hz1 hz2 rfl (by decide) v R.length (rcells R) hs hown ⟨g, 0, none⟩ 1 1 (Rl.cells r) hx rfl ?_ ?_ (by unfold maxLen; omega) (by omega) hB ?_
  · intro ad e j u hu
    injection e with e; subst e
    rw [add_off, Nat.zero_add]; exact hc j u hu
  · intro u hu
    simp [Rl.cells] at hu
    rcases hu with rfl | rfl <;> rfl
  · intro v' w' h1 h2 h3
    refine h v' w' ?_ h2 h3
    have e : rcells (snoc R r) = rcells R ++ Rl.cells r := by unfold snoc; rw [rcells_app]; simp [rcells, Rl.cells]
    rw [e, snoc_len]; exact h1
end
theorem lit (X : World) (r : Rl) (n : Nat) (hn : X.heap.size = n) : ∀ j u, (Rl.cells r)[j]? = some u → (X.alloc (.cells #[.string r.owner, .string r.name] 24)).cell? ⟨n, j, none⟩ = some u := fun j u hu => by
  subst hn
  rw [Lib.cell_of_heap (heap_alloc_new X _), ← hu]
  show ([Value.string r.owner, Value.string r.name].toArray)[j]? = _
  rw [List.getElem?_toArray]; rfl
theorem first_cell (w : World) (C : Array Value) (t : TypeId) (o : Obj) (j : Nat) : ((w.alloc (.cells C t)).alloc o).cell? ⟨w.heap.size, j, none⟩ = C[j]? := by
  rw [World.cell?_alloc_past _ _ _ (by simp), Lib.cell_of_heap (heap_alloc_new w _)]
theorem grown_low {w w' : World} {B n : Nat} {v : Value} {xs : List Value} {e : TypeId} {k : Nat} {w0 : World} (hb : Below B w0 w) (ho : w.ownsRow B e k v n xs) (hg : w.grownBy w' v.ownBlock) (hB : B ≤ w.heap.size) : Below B w0 w' :=
  hb.grown hg hB (fun j hj => (ho.lt j hj).1)
set_option maxHeartbeats 2000000 in
set_option maxRecDepth 100000 in
/-- The loops over a row of roles and what is left behind, told once: after the row. -/
theorem rolesRef (p : Py) (A1 A2 A3 A4 : Option Addr) (c1 c2 c3 c4 : Nat) (w : World) (hf : p.fit) (hp : PG w A1 A2 A3 A4 p) : Calls Try.prog 47 #[p.val A1 A2 A3 A4 c1 c2 c3 c4] w fun e w' => ∃ A c, e = .returned (.slice A (rolesR p).length c) ∧ RAt w' A (rolesR p) ∧ Below w.heap.size w w' := by
  obtain ⟨S, G, H, Q⟩ := p
  unfold rolesR
  have HP := Lib.hid hp
  obtain ⟨n1, n2, n3, n4, _, _, _, _, _⟩ := hf
  simp only at n1 n2 n3 n4
  clear hp
  show Calls _ _ #[.agg #[.slice A1 S.length c1, .slice A2 G.length c2, .slice A3 H.length c3, .slice A4 Q.length c4]] _ _
  simp only
  have hcP := box_cell (Below.refl (w.heap.size + 1) (w.alloc (.cells #[.slice A1 S.length c1, .slice A2 G.length c2, .slice A3 H.length c3, .slice A4 Q.length c4] 49)))
  go_enter Try.func47, Try.ntmps47
  go_wp2_with fail
  clear hcP
  go_loopw [3, 15] (fun l i wx => ∃ (k : Nat) (v : Value), k ≤ S.length ∧ l = v ∧ i = .int .i64 k ∧ Hid (wx.ownsRow (w.heap.size + 1) 24 2 v (rolesS S k).length (rcells (rolesS S k))) ∧ Below (w.heap.size + 1) (w.alloc (.cells #[.slice A1 S.length c1, .slice A2 G.length c2, .slice A3 H.length c3, .slice A4 Q.length c4] 49)) wx) (fun _ i _ => S.length - (intOf i).toNat)
  case atStart => exact ⟨0, _, by omega, rfl, rfl, Lib.hid (by simpa [rolesS, rcells] using World.ownsRow_nil (w.alloc (.cells #[.slice A1 S.length c1, .slice A2 G.length c2, .slice A3 H.length c3, .slice A4 Q.length c4] 49)) (w.heap.size + 1) 24 2), Below.refl _ _⟩
  case round =>
    obtain ⟨k, v1, hk, rfl, rfl, hown, hbel⟩ := hrel
    have zr : w.heap.size + 1 ≤ wr.heap.size := by have := hbel.size; simpa using this
    have hlk := rolesS_len S k
    by_cases hlt : k < S.length
    · have d1 : decide ((k : Int) < S.length) = true := by simp; omega
      have p1 : (0 : Int) ≤ k := by omega
      have p2 : (k : Int) < S.length := by omega
      have hs := HP.out.s.below (low hbel)
      obtain ⟨g, o, e1, hg, hc⟩ := hs (by show 0 < S.length; omega)
      obtain rfl := e1
      obtain ⟨a0, a1, a2, a3, a4, a5, a6, a7, a8⟩ := hc k hlt
      have Hs := rolesS_succ hlt
      simp only at Hs a0 a1 a2 a3 a4 a5 a6 a7 a8
      generalize S[k] = s at Hs a0 a1 a2 a3 a4 a5 a6 a7 a8
      obtain ⟨k1, ⟨ho, hn⟩, wh, ⟨ao, an⟩, ⟨bo, bn⟩, via⟩ := s
      have HS := Lib.hid Hs
      clear hs hc Hs
      simp only at a0 a1 a2 a3 a4 a5 a6 a7 a8
      have hb1 : Below wr.heap.size wr ((wr.alloc (.cells #[.int .i64 k1, .string ho, .string hn, .string wh, .string ao, .string an, .string bo, .string bn, .string via] 26)).alloc (.cells #[.string ho, .string hn] 24)) := ((Below.refl _ wr).alloc (Nat.le_refl _) _).alloc (by simp) _
      have hap := Apart.of_own hown.out (Nat.le_refl wr.heap.size)
      have hownX := own_at hown.out hb1
      have hbX := hbel.trans (hb1.mono zr)
      have hL1 := lit (wr.alloc (.cells #[.int .i64 k1, .string ho, .string hn, .string wh, .string ao, .string an, .string bo, .string bn, .string via] 26)) ⟨ho, hn⟩ (wr.heap.size + 1) (by simp)
      have HL1 := Lib.hid hL1
      have HX := Lib.hid hownX
      have HBX := Lib.hid hbX
      clear hown hbel hb1 hL1 hownX hbX
      go_wp2_with (at_builtin; refine wp_app1 rfl _ _ rfl (w.heap.size + 1) _ (rolesS S k) rfl HX.out _ ⟨ho, hn⟩ rfl HL1.out (by omega) (by simp; omega) ?_)
      intro v2 w3 hown3 hg3 hm3
      have hap3 := hap.moves hm3 (by simp; omega)
      have hD3 : wr.heap.size < w3.heap.size := by have := hg3.size; simp only [World.size_alloc] at this; omega
      have hB3 := grown_low HBX.out HX.out hg3 (by simp; omega)
      have f : ∀ o u, (#[.int .i64 k1, .string ho, .string hn, .string wh, .string ao, .string an, .string bo, .string bn, .string via] : Array Value)[o]? = some u → w3.cell? ⟨wr.heap.size, o, none⟩ = some u := fun o u hu => by
        rw [kept hg3 hap (by simp; omega), first_cell]; exact hu
      have f0 := f 0 _ rfl
      have f4 := f 4 _ rfl
      have f5 := f 5 _ rfl
      have f6 := f 6 _ rfl
      have f7 := f 7 _ rfl
      have HO3 := Lib.hid hown3
      have HB3 := Lib.hid hB3
      clear hown3 hg3 hm3 hap HX HBX HL1 f hB3
      by_cases hk : k1 = 2 ∨ k1 = 3
      · have HF1 : Hid (rolesS S (k + 1) = snoc (snoc (rolesS S k) ⟨ho, hn⟩) ⟨ao, an⟩) := Lib.hid (by rw [HS.out]; unfold rolesL snoc; rw [if_pos hk]; simp)
        have hd : decide ((2 : Int) ≤ k1) = true := by rcases hk with rfl | rfl <;> rfl
        have hd2 : decide (k1 ≤ (4 : Int)) = true := by rcases hk with rfl | rfl <;> rfl
        have hd3 : (k1 == 4) = false := by rcases hk with rfl | rfl <;> rfl
        clear hk HS
        have hb4 : Below w3.heap.size w3 (w3.alloc (.cells #[.string ao, .string an] 24)) := (Below.refl _ _).alloc (Nat.le_refl _) _
        have zr3 : w.heap.size + 1 ≤ w3.heap.size := by omega
        have HO4 := Lib.hid (own_at HO3.out hb4)
        have HB4 := Lib.hid (HB3.out.trans (hb4.mono zr3))
        have HL4 := Lib.hid (lit w3 ⟨ao, an⟩ w3.heap.size rfl)
        have hl4 : (snoc (rolesS S k) ⟨ho, hn⟩).length ≤ 100000 := by rw [snoc_len]; omega
        clear hb4
        go_wp2_with (at_builtin; refine wp_app1 rfl _ _ rfl (w.heap.size + 1) _ (snoc (rolesS S k) ⟨ho, hn⟩) rfl HO4.out _ ⟨ao, an⟩ rfl HL4.out hl4 (by simp; omega) ?_)
        intro v4 w5 hown5 hg5 hm5
        have g0 := (kept (o := 0) hg5 hap3 (by simp; omega)).trans ((World.cell?_alloc_past _ _ _ hD3).trans f0)
        have HF := Lib.hid hown5
        have HFB := Lib.hid (grown_low HB4.out HO4.out hg5 (by simp; omega))
        rw [← HF1.out] at HF
        clear hown5 hg5 hm5 f0 f4 f5 f6 f7
        go_wp2_with fail
        go_roundw
        case rel => exact ⟨k + 1, _, by omega, rfl, by go_num, HF, HFB.out⟩
        case measure => simp [intOf]; omega
      · by_cases hk4 : k1 = 4
        · subst hk4
          have HF1 : Hid (rolesS S (k + 1) = snoc (snoc (snoc (rolesS S k) ⟨ho, hn⟩) ⟨ao, an⟩) ⟨bo, bn⟩) := Lib.hid (by rw [HS.out]; unfold rolesL snoc; simp)
          clear hk HS
          have hb4 : Below w3.heap.size w3 (w3.alloc (.cells #[.string ao, .string an] 24)) := (Below.refl _ _).alloc (Nat.le_refl _) _
          have zr3 : w.heap.size + 1 ≤ w3.heap.size := by omega
          have HO4 := Lib.hid (own_at HO3.out hb4)
          have HB4 := Lib.hid (HB3.out.trans (hb4.mono zr3))
          have HL4 := Lib.hid (lit w3 ⟨ao, an⟩ w3.heap.size rfl)
          have hl4 : (snoc (rolesS S k) ⟨ho, hn⟩).length ≤ 100000 := by rw [snoc_len]; omega
          clear hb4
          go_wp2_with (at_builtin; refine wp_app1 rfl _ _ rfl (w.heap.size + 1) _ (snoc (rolesS S k) ⟨ho, hn⟩) rfl HO4.out _ ⟨ao, an⟩ rfl HL4.out hl4 (by simp; omega) ?_)
          intro v4 w5 hown5 hg5 hm5
          have g0 := (kept (o := 0) hg5 hap3 (by simp; omega)).trans ((World.cell?_alloc_past _ _ _ hD3).trans f0)
          have g6 := (kept (o := 6) hg5 hap3 (by simp; omega)).trans ((World.cell?_alloc_past _ _ _ hD3).trans f6)
          have g7 := (kept (o := 7) hg5 hap3 (by simp; omega)).trans ((World.cell?_alloc_past _ _ _ hD3).trans f7)
          have hB5 := grown_low HB4.out HO4.out hg5 (by simp; omega)
          have zr5 : w.heap.size + 1 ≤ w5.heap.size := by have := hg5.size; simp only [World.size_alloc] at this; omega
          have hb6 : Below w5.heap.size w5 (w5.alloc (.cells #[.string bo, .string bn] 24)) := (Below.refl _ _).alloc (Nat.le_refl _) _
          have HO6 := Lib.hid (own_at hown5 hb6)
          have HB6 := Lib.hid (hB5.trans (hb6.mono zr5))
          have HL6 := Lib.hid (lit w5 ⟨bo, bn⟩ w5.heap.size rfl)
          have hl6 : (snoc (snoc (rolesS S k) ⟨ho, hn⟩) ⟨ao, an⟩).length ≤ 100000 := by rw [snoc_len, snoc_len]; omega
          clear hown5 hg5 hm5 f0 f4 f5 f6 f7 hb6 hB5
          go_wp2_with (at_builtin; refine wp_app1 rfl _ _ rfl (w.heap.size + 1) _ (snoc (snoc (rolesS S k) ⟨ho, hn⟩) ⟨ao, an⟩) rfl HO6.out _ ⟨bo, bn⟩ rfl HL6.out hl6 (by simp; omega) ?_)
          intro v6 w7 hown7 hg7 hm7
          have HF := Lib.hid hown7
          have HFB := Lib.hid (grown_low HB6.out HO6.out hg7 (by simp; omega))
          rw [← HF1.out] at HF
          clear hown7 hg7 hm7 g0 g6 g7
          go_wp2_with fail
          go_roundw
          case rel => exact ⟨k + 1, _, by omega, rfl, by go_num, HF, HFB.out⟩
          case measure => simp [intOf]; omega
        · have HF1 : Hid (rolesS S (k + 1) = snoc (rolesS S k) ⟨ho, hn⟩) := Lib.hid (by rw [HS.out]; unfold rolesL snoc; rw [if_neg hk, if_neg hk4])
          have hd3 : (k1 == 4) = false := by simpa using hk4
          have HF := Lib.hid HO3.out
          rw [← HF1.out] at HF
          by_cases hk2 : (2 : Int) ≤ k1
          · have hd : decide ((2 : Int) ≤ k1) = true := decide_eq_true hk2
            have hd2 : decide (k1 ≤ (4 : Int)) = false := decide_eq_false (by omega)
            clear hk HS hk2 hk4
            go_wp2_with fail
            go_roundw
            case rel => exact ⟨k + 1, _, by omega, rfl, by go_num, HF, HB3.out⟩
            case measure => simp [intOf]; omega
          · have hd : decide ((2 : Int) ≤ k1) = false := decide_eq_false hk2
            clear hk HS hk2 hk4
            go_wp2_with fail
            go_roundw
            case rel => exact ⟨k + 1, _, by omega, rfl, by go_num, HF, HB3.out⟩
            case measure => simp [intOf]; omega
    · have d1 : decide ((k : Int) < S.length) = false := by simp; omega
      have hkL : k = S.length := by omega
      subst hkL
      have hcP := box_cell hbel
      have hR : (rolesS S S.length).length ≤ 4000 := by have := rolesS_len S S.length; omega
      obtain ⟨R1, hRe⟩ : ∃ R, rolesS S S.length = R := ⟨_, rfl⟩
      have hown' := hown.out
      rw [hRe] at hown'
      rw [hRe] at hR
      have HR1 := Lib.hid hRe
      have HO := Lib.hid hown'
      have HB := Lib.hid hbel
      clear hRe hown hown' hbel
      go_wp2_with fail
      clear hcP
      go_loopw [3, 49] (fun l i wx => ∃ (k : Nat) (v : Value), k ≤ G.length ∧ l = v ∧ i = .int .i64 k ∧ Hid (wx.ownsRow (w.heap.size + 1) 24 2 v (cat R1 G k).length (rcells (cat R1 G k))) ∧ Below (w.heap.size + 1) (w.alloc (.cells #[.slice A1 S.length c1, .slice A2 G.length c2, .slice A3 H.length c3, .slice A4 Q.length c4] 49)) wx) (fun _ i _ => G.length - (intOf i).toNat)
      case atStart => exact ⟨0, _, by omega, rfl, rfl, Lib.hid (by have := HO.out; simpa [cat] using this), HB.out⟩
      case round =>
        clear HO HB
        obtain ⟨k, v1, hk, rfl, rfl, hown, hbel⟩ := hrel
        have zr : w.heap.size + 1 ≤ wr.heap.size := by have := hbel.size; simpa using this
        by_cases hlt : k < G.length
        · have d1 : decide ((k : Int) < G.length) = true := by simp; omega
          have p1 : (0 : Int) ≤ k := by omega
          have p2 : (k : Int) < G.length := by omega
          have hs := HP.out.g.below (low hbel)
          obtain ⟨g, o, e1, hg, hc⟩ := hs (by show 0 < G.length; omega)
          obtain rfl := e1
          obtain ⟨a0, a1⟩ := hc k hlt
          have Hs : cat R1 G (k + 1) = snoc (cat R1 G k) G[k] := cat_succ _ _ _ hlt
          simp only at Hs a0 a1
          generalize G[k] = s at Hs a0 a1
          obtain ⟨ho, hn⟩ := s
          have HS := Lib.hid Hs
          clear hs hc Hs
          simp only at a0 a1
          have hb1 : Below wr.heap.size wr ((wr.alloc (.cells #[.string ho, .string hn] 24)).alloc (.cells #[.string ho, .string hn] 24)) := ((Below.refl _ wr).alloc (Nat.le_refl _) _).alloc (by simp) _
          have HX := Lib.hid (own_at hown.out hb1)
          have HBX := Lib.hid (hbel.trans (hb1.mono zr))
          have HL1 := Lib.hid (lit (wr.alloc (.cells #[.string ho, .string hn] 24)) ⟨ho, hn⟩ (wr.heap.size + 1) (by simp))
          have hl : (cat R1 G k).length ≤ 100000 := by have := cat_len R1 G k; omega
          clear hown hbel hb1
          go_wp2_with (at_builtin; refine wp_app1 rfl _ _ rfl (w.heap.size + 1) _ (cat R1 G k) rfl HX.out _ ⟨ho, hn⟩ rfl HL1.out hl (by simp; omega) ?_)
          intro v2 w3 hown3 hg3 hm3
          have HF := Lib.hid hown3
          have HFB := Lib.hid (grown_low HBX.out HX.out hg3 (by simp; omega))
          rw [← HS.out] at HF
          clear hown3 hg3 hm3
          go_wp2_with fail
          go_roundw
          case rel => exact ⟨k + 1, _, by omega, rfl, by go_num, HF, HFB.out⟩
          case measure => simp [intOf]; omega
        · have d1 : decide ((k : Int) < G.length) = false := by simp; omega
          have hkL : k = G.length := by omega
          subst hkL
          have hcP := box_cell hbel
          have hR : (cat R1 G G.length).length ≤ 6000 := by have := cat_len R1 G G.length; omega
          obtain ⟨R2, hRe⟩ : ∃ R, cat R1 G G.length = R := ⟨_, rfl⟩
          have hown' := hown.out
          rw [hRe] at hown'
          rw [hRe] at hR
          have HR2 := Lib.hid hRe
          have HO := Lib.hid hown'
          have HB := Lib.hid hbel
          clear hRe hown hown' hbel
          go_wp2_with fail
          clear hcP
          go_loopw [3, 61] (fun l i wx => ∃ (k : Nat) (v : Value), k ≤ H.length ∧ l = v ∧ i = .int .i64 k ∧ Hid (wx.ownsRow (w.heap.size + 1) 24 2 v (cat R2 H k).length (rcells (cat R2 H k))) ∧ Below (w.heap.size + 1) (w.alloc (.cells #[.slice A1 S.length c1, .slice A2 G.length c2, .slice A3 H.length c3, .slice A4 Q.length c4] 49)) wx) (fun _ i _ => H.length - (intOf i).toNat)
          case atStart => exact ⟨0, _, by omega, rfl, rfl, Lib.hid (by have := HO.out; simpa [cat] using this), HB.out⟩
          case round =>
            clear HO HB
            obtain ⟨k, v1, hk, rfl, rfl, hown, hbel⟩ := hrel
            have zr : w.heap.size + 1 ≤ wr.heap.size := by have := hbel.size; simpa using this
            by_cases hlt : k < H.length
            · have d1 : decide ((k : Int) < H.length) = true := by simp; omega
              have p1 : (0 : Int) ≤ k := by omega
              have p2 : (k : Int) < H.length := by omega
              have hs := HP.out.h.below (low hbel)
              obtain ⟨g, o, e1, hg, hc⟩ := hs (by show 0 < H.length; omega)
              obtain rfl := e1
              obtain ⟨a0, a1⟩ := hc k hlt
              have Hs : cat R2 H (k + 1) = snoc (cat R2 H k) H[k] := cat_succ _ _ _ hlt
              simp only at Hs a0 a1
              generalize H[k] = s at Hs a0 a1
              obtain ⟨ho, hn⟩ := s
              have HS := Lib.hid Hs
              clear hs hc Hs
              simp only at a0 a1
              have hb1 : Below wr.heap.size wr ((wr.alloc (.cells #[.string ho, .string hn] 24)).alloc (.cells #[.string ho, .string hn] 24)) := ((Below.refl _ wr).alloc (Nat.le_refl _) _).alloc (by simp) _
              have HX := Lib.hid (own_at hown.out hb1)
              have HBX := Lib.hid (hbel.trans (hb1.mono zr))
              have HL1 := Lib.hid (lit (wr.alloc (.cells #[.string ho, .string hn] 24)) ⟨ho, hn⟩ (wr.heap.size + 1) (by simp))
              have hl : (cat R2 H k).length ≤ 100000 := by have := cat_len R2 H k; omega
              clear hown hbel hb1
              go_wp2_with (at_builtin; refine wp_app1 rfl _ _ rfl (w.heap.size + 1) _ (cat R2 H k) rfl HX.out _ ⟨ho, hn⟩ rfl HL1.out hl (by simp; omega) ?_)
              intro v2 w3 hown3 hg3 hm3
              have HF := Lib.hid hown3
              have HFB := Lib.hid (grown_low HBX.out HX.out hg3 (by simp; omega))
              rw [← HS.out] at HF
              clear hown3 hg3 hm3
              go_wp2_with fail
              go_roundw
              case rel => exact ⟨k + 1, _, by omega, rfl, by go_num, HF, HFB.out⟩
              case measure => simp [intOf]; omega
            · have d1 : decide ((k : Int) < H.length) = false := by simp; omega
              have hkL : k = H.length := by omega
              subst hkL
              have hcP := box_cell hbel
              have hR : (cat R2 H H.length).length ≤ 8000 := by have := cat_len R2 H H.length; omega
              obtain ⟨R3, hRe⟩ : ∃ R, cat R2 H H.length = R := ⟨_, rfl⟩
              have hown' := hown.out
              rw [hRe] at hown'
              rw [hRe] at hR
              have HR3 := Lib.hid hRe
              have HO := Lib.hid hown'
              have HB := Lib.hid hbel
              clear hRe hown hown' hbel
              go_wp2_with fail
              clear hcP
              go_loopw [3, 73] (fun l i wx => ∃ (k : Nat) (v : Value), k ≤ Q.length ∧ l = v ∧ i = .int .i64 k ∧ Hid (wx.ownsRow (w.heap.size + 1) 24 2 v (catQ R3 Q k).length (rcells (catQ R3 Q k))) ∧ Below (w.heap.size + 1) (w.alloc (.cells #[.slice A1 S.length c1, .slice A2 G.length c2, .slice A3 H.length c3, .slice A4 Q.length c4] 49)) wx) (fun _ i _ => Q.length - (intOf i).toNat)
              case atStart => exact ⟨0, _, by omega, rfl, rfl, Lib.hid (by have := HO.out; simpa [catQ, rolesA] using this), HB.out⟩
              case round =>
                clear HO HB
                obtain ⟨k, v1, hk, rfl, rfl, hown, hbel⟩ := hrel
                have zr : w.heap.size + 1 ≤ wr.heap.size := by have := hbel.size; simpa using this
                have hlk := catQ_len R3 Q k
                by_cases hlt : k < Q.length
                · have d1 : decide ((k : Int) < Q.length) = true := by simp; omega
                  have p1 : (0 : Int) ≤ k := by omega
                  have p2 : (k : Int) < Q.length := by omega
                  have hs := HP.out.q.below (low hbel)
                  obtain ⟨g, o, e1, hg, hc⟩ := hs (by show 0 < Q.length; omega)
                  obtain rfl := e1
                  obtain ⟨B, cB, a0, a1, a2, a3, a4, a5, _⟩ := hc k hlt
                  have Hs := rolesA_succ hlt
                  simp only at Hs a0 a1 a2 a3 a4 a5
                  generalize Q[k] = s at Hs a0 a1 a2 a3 a4 a5
                  obtain ⟨qk, ⟨ao, an⟩, ⟨bo, bn⟩, T⟩ := s
                  have HS := Lib.hid Hs
                  clear hs hc Hs
                  simp only at a0 a1 a2 a3 a4 a5
                  have hb1 : Below wr.heap.size wr ((wr.alloc (.cells #[.int .i64 qk, .string ao, .string an, .string bo, .string bn, .slice B T.length cB] 78)).alloc (.cells #[.string ao, .string an] 24)) := ((Below.refl _ wr).alloc (Nat.le_refl _) _).alloc (by simp) _
                  have hap := Apart.of_own hown.out (Nat.le_refl wr.heap.size)
                  have HX := Lib.hid (own_at hown.out hb1)
                  have HBX := Lib.hid (hbel.trans (hb1.mono zr))
                  have HL1 := Lib.hid (lit (wr.alloc (.cells #[.int .i64 qk, .string ao, .string an, .string bo, .string bn, .slice B T.length cB] 78)) ⟨ao, an⟩ (wr.heap.size + 1) (by simp))
                  have hl : (catQ R3 Q k).length ≤ 100000 := by omega
                  clear hown hbel hb1
                  go_wp2_with (at_builtin; refine wp_app1 rfl _ _ rfl (w.heap.size + 1) _ (catQ R3 Q k) rfl HX.out _ ⟨ao, an⟩ rfl HL1.out hl (by simp; omega) ?_)
                  intro v2 w3 hown3 hg3 hm3
                  have hap3 := hap.moves hm3 (by simp; omega)
                  have hD3 : wr.heap.size < w3.heap.size := by have := hg3.size; simp only [World.size_alloc] at this; omega
                  have f : ∀ o u, (#[.int .i64 qk, .string ao, .string an, .string bo, .string bn, .slice B T.length cB] : Array Value)[o]? = some u → w3.cell? ⟨wr.heap.size, o, none⟩ = some u := fun o u hu => by
                    rw [kept hg3 hap (by simp; omega), first_cell]; exact hu
                  have f0 := f 0 _ rfl
                  have f3 := f 3 _ rfl
                  have f4 := f 4 _ rfl
                  have HO3 := Lib.hid hown3
                  have HB3 := Lib.hid (grown_low HBX.out HX.out hg3 (by simp; omega))
                  clear hown3 hg3 hm3 hap HX HBX HL1 f
                  by_cases hq : qk = 5 ∨ qk = 6
                  · have HF1 : Hid (catQ R3 Q (k + 1) = snoc (snoc (catQ R3 Q k) ⟨ao, an⟩) ⟨bo, bn⟩) := Lib.hid (by unfold catQ; rw [HS.out]; unfold QryO.rolesQ hasBk snoc; rw [if_pos (by simpa using hq)]; simp)
                    have hb4 : Below w3.heap.size w3 (w3.alloc (.cells #[.string bo, .string bn] 24)) := (Below.refl _ _).alloc (Nat.le_refl _) _
                    have zr3 : w.heap.size + 1 ≤ w3.heap.size := by omega
                    have HO4 := Lib.hid (own_at HO3.out hb4)
                    have HB4 := Lib.hid (HB3.out.trans (hb4.mono zr3))
                    have HL4 := Lib.hid (lit w3 ⟨bo, bn⟩ w3.heap.size rfl)
                    have hl4 : (snoc (catQ R3 Q k) ⟨ao, an⟩).length ≤ 100000 := by rw [snoc_len]; omega
                    clear hb4 HS
                    rcases hq with rfl | rfl
                    all_goals
                      go_wp2_with (at_builtin; refine wp_app1 rfl _ _ rfl (w.heap.size + 1) _ (snoc (catQ R3 Q k) ⟨ao, an⟩) rfl HO4.out _ ⟨bo, bn⟩ rfl HL4.out hl4 (by simp; omega) ?_)
                      intro v4 w5 hown5 hg5 hm5
                      have HF := Lib.hid hown5
                      have HFB := Lib.hid (grown_low HB4.out HO4.out hg5 (by simp; omega))
                      rw [← HF1.out] at HF
                      clear hown5 hg5 hm5 f0 f3 f4
                      go_wp2_with fail
                      go_roundw
                      case rel => exact ⟨k + 1, _, by omega, rfl, by go_num, HF, HFB.out⟩
                      case measure => simp [intOf]; omega
                  · have HF1 : Hid (catQ R3 Q (k + 1) = snoc (catQ R3 Q k) ⟨ao, an⟩) := Lib.hid (by unfold catQ; rw [HS.out]; unfold QryO.rolesQ hasBk snoc; rw [if_neg (by simpa using hq)]; simp)
                    have hd5 : (qk == 5) = false := by simp; omega
                    have hd6 : (qk == 6) = false := by simp; omega
                    have HF := Lib.hid HO3.out
                    rw [← HF1.out] at HF
                    clear hq HS
                    go_wp2_with fail
                    go_roundw
                    case rel => exact ⟨k + 1, _, by omega, rfl, by go_num, HF, HB3.out⟩
                    case measure => simp [intOf]; omega
                · have d1 : decide ((k : Int) < Q.length) = false := by simp; omega
                  have hkQ : k = Q.length := by omega
                  subst hkQ
                  obtain ⟨A', c', rfl, hrat⟩ := rat_own hown.out
                  have hE : catQ R3 Q Q.length = rolesS S S.length ++ G ++ H ++ rolesA Q Q.length := by
                    unfold catQ; rw [← HR3.out, ← HR2.out, ← HR1.out]; simp [cat]
                  have hfin : Hid (RAt wr A' (rolesS S S.length ++ G ++ H ++ rolesA Q Q.length) ∧ (catQ R3 Q Q.length).length = (rolesS S S.length ++ G ++ H ++ rolesA Q Q.length).length) := Lib.hid (by rw [← hE]; exact ⟨hrat, rfl⟩)
                  have hlow := Lib.hid (low hbel)
                  clear hrat hown hbel hE
                  go_wp2_with fail
                  go_ret
                  exact ⟨A', c', by rw [← hfin.out.2]; rfl, hfin.out.1, hlow.out⟩
end Go.Proofs.Ytnhjnimgjpgfcaa.RefRo
/- All principals, and all names, that a policy names: policy.Prins and Names, by contract. -/
namespace Go.Proofs.Ytnhjnimgjpgfcaa.PolH
set_option linter.unusedVariables false
set_option linter.unusedSimpArgs false
open Go.RowKit Go.Sort Go.Lib Go.Proofs Go.Proofs.Ytnhjnimgjpgfcaa.Plain Go.Proofs.Ytnhjnimgjpgfcaa.SynP Go.Proofs.Ytnhjnimgjpgfcaa.TabP Go.Proofs.Ytnhjnimgjpgfcaa.Tab1 Go.Proofs.Ytnhjnimgjpgfcaa.Tab5 Go.Proofs.Ytnhjnimgjpgfcaa.Grown Go.Proofs.Ytnhjnimgjpgfcaa.SynC Go.Proofs.Ytnhjnimgjpgfcaa.SynJ Go.Proofs.Ytnhjnimgjpgfcaa.QryP Go.Proofs.Ytnhjnimgjpgfcaa.PolA Go.Proofs.Ytnhjnimgjpgfcaa.PolE Go.Proofs.Ytnhjnimgjpgfcaa.PolG
set_option linter.unusedVariables false
set_option linter.unusedSimpArgs false
def bt (x : ByteArray) : Str := x.data.toList
theorem enc_bt (x : ByteArray) : encStr (bt x) = .string x := by
  show Value.string ⟨(bt x).toArray⟩ = _
  unfold bt; rfl
theorem tab_all {w : World} {B : Nat} {p : Value} {T : List Str} (h : TabAt w B p T) (hT : T.length ≤ 1000000) : Calls Try.prog 25 #[p] w (RowPost T w) := by
  obtain ⟨t, v, rfl, _, hh, hown⟩ := h
  obtain ⟨A, c, rfl, _, hr⟩ := SRow.of_own hown
  exact Tab7.all t A T c w (by rw [Lib.cell_of_heap hh]; rfl) hT hr
theorem srow_none_len {w : World} {T : List Str} (h : SRow w none T) : T.length = 0 := by
  rcases Nat.eq_zero_or_pos T.length with h0 | h0
  · exact h0
  · obtain ⟨_, _, e, _⟩ := h h0; cases e
theorem srow_cells {w : World} {A : Option Addr} {T : List Str} (h : SRow w A T) : ∀ ad, A = some ad → ∀ j u, (T.map encStr)[j]? = some u → w.cell? (ad.add j) = some u := by
  rintro ad rfl j u hu
  have hj : j < T.length := by
    rcases Nat.lt_or_ge j T.length with h | h
    · exact h
    · rw [List.getElem?_eq_none (by simpa using h)] at hu; cases hu
  obtain ⟨g, o, e, _, hc⟩ := h (by omega)
  injection e with e
  subst e
  rw [add_off, hc j hj, ← hu, List.getElem?_map, List.getElem?_eq_getElem hj]; rfl
theorem enc_one (T : List Str) : ∀ u ∈ T.map encStr, u.oneCell' = true := by
  intro u hu
  obtain ⟨x, _, rfl⟩ := List.mem_map.1 hu
  rfl
theorem one_src {X : World} {n : Nat} (hn : X.heap.size = n) (x : ByteArray) (t : TypeId) : ∀ ad, some (⟨n, 0, none⟩ : Addr) = some ad → ∀ j u, [Value.string x][j]? = some u → (X.alloc (.cells #[.string x] t)).cell? (ad.add j) = some u := by
  subst hn
  rintro ad e j u hu
  injection e with e
  subst e
  rw [add_off, Nat.zero_add, Lib.cell_of_heap (heap_alloc_new X _)]
  match j, hu with
  | 0, hu => exact hu
def ownersR (R : List Rl) (k : Nat) : List Str := (R.take k).map fun r => bt r.owner
def namesR (R : List Rl) (k : Nat) : List Str := (R.take k).map fun r => bt r.name
theorem ownersR_succ {R : List Rl} {k : Nat} (h : k < R.length) : ownersR R (k + 1) = ownersR R k ++ [bt R[k].owner] := by
  unfold ownersR; rw [List.take_succ_eq_append_getElem h, List.map_append, List.map_singleton]
theorem namesR_succ {R : List Rl} {k : Nat} (h : k < R.length) : namesR R (k + 1) = namesR R k ++ [bt R[k].name] := by
  unfold namesR; rw [List.take_succ_eq_append_getElem h, List.map_append, List.map_singleton]
theorem ownersR_len (R : List Rl) (k : Nat) : (ownersR R k).length ≤ R.length := by unfold ownersR; simp; omega
theorem namesR_len (R : List Rl) (k : Nat) : (namesR R k).length ≤ R.length := by unfold namesR; simp; omega
def whosS (L : List St) (k : Nat) : List Str := ((L.take k).filter fun s => decide (s.kind = 1)).map fun s => bt s.who
def viasS (L : List St) (k : Nat) : List Str := ((L.take k).filter fun s => decide (s.kind = 3)).map fun s => bt s.via
theorem whosS_yes {L : List St} {k : Nat} (h : k < L.length) (hk : L[k].kind = 1) : whosS L (k + 1) = whosS L k ++ [bt L[k].who] := by
  unfold whosS
  have e : List.filter (fun s : St => decide (s.kind = 1)) [L[k]] = [L[k]] := by simp [hk]
  rw [List.take_succ_eq_append_getElem h, List.filter_append, e, List.map_append, List.map_singleton]
theorem whosS_no {L : List St} {k : Nat} (h : k < L.length) (hk : ¬ L[k].kind = 1) : whosS L (k + 1) = whosS L k := by
  unfold whosS
  have e : List.filter (fun s : St => decide (s.kind = 1)) [L[k]] = [] := by simp [hk]
  rw [List.take_succ_eq_append_getElem h, List.filter_append, e, List.append_nil]
theorem viasS_yes {L : List St} {k : Nat} (h : k < L.length) (hk : L[k].kind = 3) : viasS L (k + 1) = viasS L k ++ [bt L[k].via] := by
  unfold viasS
  have e : List.filter (fun s : St => decide (s.kind = 3)) [L[k]] = [L[k]] := by simp [hk]
  rw [List.take_succ_eq_append_getElem h, List.filter_append, e, List.map_append, List.map_singleton]
theorem viasS_no {L : List St} {k : Nat} (h : k < L.length) (hk : ¬ L[k].kind = 3) : viasS L (k + 1) = viasS L k := by
  unfold viasS
  have e : List.filter (fun s : St => decide (s.kind = 3)) [L[k]] = [] := by simp [hk]
  rw [List.take_succ_eq_append_getElem h, List.filter_append, e, List.append_nil]
theorem whosS_len (L : List St) (k : Nat) : (whosS L k).length ≤ L.length := by
  unfold whosS
  have := List.length_filter_le (fun s : St => decide (s.kind = 1)) (L.take k)
  simp at this ⊢; omega
theorem viasS_len (L : List St) (k : Nat) : (viasS L k).length ≤ L.length := by
  unfold viasS
  have := List.length_filter_le (fun s : St => decide (s.kind = 3)) (L.take k)
  simp at this ⊢; omega
def whosA (L : List Qy) (k : Nat) : List Str := ((L.take k).map Qy.who).flatten
theorem whosA_succ {L : List Qy} {k : Nat} (h : k < L.length) : whosA L (k + 1) = whosA L k ++ L[k].who := by
  unfold whosA
  rw [List.take_succ_eq_append_getElem h, List.map_append, List.flatten_append, List.map_singleton, List.flatten_singleton]
theorem whosA_len {L : List Qy} (hq : ∀ q ∈ L, q.who.length ≤ 100) : ∀ k, (whosA L k).length ≤ k * 100
  | 0 => by simp [whosA]
  | k + 1 => by
    have ih := whosA_len hq k
    rcases Nat.lt_or_ge k L.length with h | h
    · have := hq L[k] (List.getElem_mem _)
      rw [whosA_succ h, List.length_append]; omega
    · have : whosA L (k + 1) = whosA L k := by unfold whosA; rw [List.take_of_length_le (by omega), List.take_of_length_le (by omega)]
      rw [this]; omega
theorem rolesP_len {p : Py} (hf : p.fit) : (rolesP p).length ≤ 7000 := by
  have a := rolesS_len p.stmts p.stmts.length
  have b := rolesA_len p.asks p.asks.length
  have := hf.n1
  have := hf.n2
  have := hf.n3
  have := hf.n4
  unfold rolesP; simp; omega
def prinsT (p : Py) : List Str := ownersR (rolesP p) (rolesP p).length ++ whosS p.stmts p.stmts.length ++ whosA p.asks p.asks.length
def namesT (p : Py) : List Str := namesR (rolesP p) (rolesP p).length ++ viasS p.stmts p.stmts.length
set_option maxHeartbeats 2000000 in
set_option maxRecDepth 100000 in
theorem prins (p : Py) (A1 A2 A3 A4 : Option Addr) (c1 c2 c3 c4 : Nat) (w : World) (hf : p.fit) (hp : PG w A1 A2 A3 A4 p) : Calls Try.prog 45 #[p.val A1 A2 A3 A4 c1 c2 c3 c4] w (RowPost (tab (prinsT p)) w) := by
  obtain ⟨i0, hi, hz0, hz1, hz2⟩ := info_parts Tab3.infoStr
  have HRO := Lib.hid (fun w' h => PolG.roles p A1 A2 A3 A4 c1 c2 c3 c4 w' hf h)
  have hRl := rolesP_len hf
  have hal := whosA_len hf.f5
  have n1 := hf.n1
  have n4 := hf.n4
  have HP := Lib.hid hp
  obtain ⟨TT, hTT⟩ : ∃ TT, prinsT p = TT := ⟨_, rfl⟩
  rw [hTT]
  unfold prinsT at hTT
  have HT := Lib.hid hTT
  clear hTT
  generalize hRR : rolesP p = R at *
  unfold RolesP at HRO
  rw [hRR] at HRO
  obtain ⟨S, G, H, Q⟩ := p
  simp only at n1 n4 HT hal
  have HAL := Lib.hid hal
  clear hp hf hRR hal
  unfold Py.val at *
  simp only at HRO ⊢
  go_enter Try.func45, Try.ntmps45
  go_wp2_with fail
  refine (HRO.out _ (HP.out.below ((Below.refl _ _).alloc (Nat.le_refl _) _))).mono ?_
  rintro e w1 ⟨A, cA, rfl, hrat, hb1⟩
  have hcP1 : ∀ o, w1.cell? ⟨w.heap.size, o, none⟩ = (#[.slice A1 S.length c1, .slice A2 G.length c2, .slice A3 H.length c3, .slice A4 Q.length c4] : Array Value)[o]? := fun o => by rw [hb1.cell (by simp), Lib.cell_of_heap (heap_alloc_new w _)]
  have z1 : w.heap.size + 1 ≤ w1.heap.size := by have := hb1.size; simpa using this
  have hb01 : Below w.heap.size w w1 := ((Below.refl w.heap.size w).alloc (Nat.le_refl _) _).trans (hb1.mono (by simp))
  have HPW := Lib.hid (fun (wr : World) (h : Below w1.heap.size w1 wr) => (HP.out.below (hb01.trans (h.mono (by omega)))))
  have HCP := Lib.hid (fun (wr : World) (h : Below w1.heap.size w1 wr) (o : Nat) => (h.cell (p := ⟨w.heap.size, o, none⟩) (by show w.heap.size < _; omega)).trans (hcP1 o))
  have HRT := Lib.hid (RG.of_rat hrat)
  have HB0 := Lib.hid hb01
  clear hrat hb1 hb01 hcP1 HP
  go_wp2_with fail
  go_loopw [3, 13] (fun l i wr => ∃ (k : Nat) (v : Value), k ≤ R.length ∧ l = v ∧ i = .int .i64 k ∧ Hid (wr.ownsRow w1.heap.size 9 1 v (ownersR R k).length ((ownersR R k).map encStr)) ∧ Below w1.heap.size w1 wr) (fun _ i _ => R.length - (intOf i).toNat)
  case atStart => exact ⟨0, _, by omega, rfl, rfl, Lib.hid (World.ownsRow_nil _ _ _ _), Below.refl _ _⟩
  case round =>
    obtain ⟨k, v1, hk, rfl, rfl, hown, hbel⟩ := hrel
    have zr := hbel.size
    have hlk := ownersR_len R k
    by_cases hlt : k < R.length
    · have d1 : decide ((k : Int) < R.length) = true := by simp; omega
      have p1 : (0 : Int) ≤ k := by omega
      have p2 : (k : Int) < R.length := by omega
      obtain ⟨g, o, e1, hg, hc⟩ := (HRT.out.below hbel) (by omega)
      obtain rfl := e1
      obtain ⟨a0, a1⟩ := hc k hlt
      have Hs := Lib.hid (ownersR_succ hlt)
      have hb2 : Below wr.heap.size wr ((wr.alloc (.cells #[.string R[k].owner, .string R[k].name] 24)).alloc (.cells #[.string R[k].owner] 9)) := ((Below.refl _ wr).alloc (Nat.le_refl _) _).alloc (by simp) _
      have hownW := own_at hown.out hb2
      have hbelW := hbel.trans (hb2.mono zr)
      have zW : w1.heap.size ≤ ((wr.alloc (.cells #[.string R[k].owner, .string R[k].name] 24)).alloc (.cells #[.string R[k].owner] 9)).heap.size := by simp; omega
      have H1 := Lib.hid (one_src (X := wr.alloc (.cells #[.string R[k].owner, .string R[k].name] 24)) (n := wr.heap.size + 1) (by simp) R[k].owner 9)
      clear hc hb2 hown hbel
      go_wp2_with (at_builtin; refine wpList_append_from _ rfl _ _ 22 rfl w1.heap.size 9 i0 (.string ⟨#[]⟩) 1 16 Try.underlying22 hi hz0 hz1 hz2 rfl (by decide) _ _ _ rfl hownW (some ⟨wr.heap.size + 1, 0, none⟩) 1 1 [Value.string R[k].owner] rfl rfl (fun h => by cases h) H1.out (fun u hu => by simp at hu; subst hu; rfl) (by unfold maxLen; first | omega | (simp only [List.length_append]; omega)) (by first | omega | (simp only [List.length_append]; omega)) zW ?_)
      intro v2 w3 hown3 hgrow
      have hbel3 := hbelW.grown hgrow (by simpa using zW) (fun k hk => (hownW.lt k hk).1)
      have HO4 : Hid (w3.ownsRow w1.heap.size 9 1 v2 (ownersR R (k + 1)).length ((ownersR R (k + 1)).map encStr)) := Lib.hid (by
        rw [Hs.out, List.length_append, List.map_append]; simpa [enc_bt] using hown3)
      clear hownW hbelW hgrow hown3
      go_wp2_with fail
      go_roundw
      case rel => exact ⟨k + 1, v2, by omega, rfl, by go_num, HO4, hbel3⟩
      case measure => simp [intOf]; omega
    · have d1 : decide ((k : Int) < R.length) = false := by simp; omega
      have hkR : k = R.length := by omega
      subst hkR
      have hcP := HCP.out _ hbel
      obtain ⟨T0, hT0⟩ : ∃ T0, ownersR R R.length = T0 := ⟨_, rfl⟩
      rw [hT0] at hown HT hlk
      have HO := hown
      have HB := Lib.hid hbel
      clear hT0 hown hbel
      go_wp2_with fail
      clear hcP
      go_loopw [3, 26] (fun l i wr => ∃ (k : Nat) (v : Value), k ≤ S.length ∧ l = v ∧ i = .int .i64 k ∧ Hid (wr.ownsRow w1.heap.size 9 1 v (T0 ++ whosS S k).length ((T0 ++ whosS S k).map encStr)) ∧ Below w1.heap.size w1 wr) (fun _ i _ => S.length - (intOf i).toNat)
      case atStart => exact ⟨0, _, by omega, rfl, rfl, by simpa [whosS] using HO, HB.out⟩
      case round =>
        obtain ⟨k, v1, hk, rfl, rfl, hown, hbel⟩ := hrel
        have zr := hbel.size
        have hls := whosS_len S k
        by_cases hlt : k < S.length
        · have d1 : decide ((k : Int) < S.length) = true := by simp; omega
          have p1 : (0 : Int) ≤ k := by omega
          have p2 : (k : Int) < S.length := by omega
          obtain ⟨g, o, e1, hg, hc⟩ := (HPW.out _ hbel).s (by show 0 < S.length; omega)
          obtain rfl := e1
          obtain ⟨a0, a1, a2, a3, a4, a5, a6, a7, a8⟩ := hc k hlt
          by_cases hkd : S[k].kind = 1
          · have Hs := Lib.hid (whosS_yes hlt hkd)
            have d2 : (S[k].kind == 1) = true := by simp [hkd]
            have hb2 : Below wr.heap.size wr ((wr.alloc (.cells #[.int .i64 S[k].kind, .string S[k].head.owner, .string S[k].head.name, .string S[k].who, .string S[k].a.owner, .string S[k].a.name, .string S[k].b.owner, .string S[k].b.name, .string S[k].via] 26)).alloc (.cells #[.string S[k].who] 9)) := ((Below.refl _ wr).alloc (Nat.le_refl _) _).alloc (by simp) _
            have hownW := own_at hown.out hb2
            have hbelW := hbel.trans (hb2.mono zr)
            have zW : w1.heap.size ≤ ((wr.alloc (.cells #[.int .i64 S[k].kind, .string S[k].head.owner, .string S[k].head.name, .string S[k].who, .string S[k].a.owner, .string S[k].a.name, .string S[k].b.owner, .string S[k].b.name, .string S[k].via] 26)).alloc (.cells #[.string S[k].who] 9)).heap.size := by simp; omega
            have H1 := Lib.hid (one_src (X := wr.alloc (.cells #[.int .i64 S[k].kind, .string S[k].head.owner, .string S[k].head.name, .string S[k].who, .string S[k].a.owner, .string S[k].a.name, .string S[k].b.owner, .string S[k].b.name, .string S[k].via] 26)) (n := wr.heap.size + 1) (by simp) S[k].who 9)
            clear hc hb2 hown hbel hkd
            go_wp2_with (at_builtin; refine wpList_append_from _ rfl _ _ 22 rfl w1.heap.size 9 i0 (.string ⟨#[]⟩) 1 16 Try.underlying22 hi hz0 hz1 hz2 rfl (by decide) _ _ _ rfl hownW (some ⟨wr.heap.size + 1, 0, none⟩) 1 1 [Value.string S[k].who] rfl rfl (fun h => by cases h) H1.out (fun u hu => by simp at hu; subst hu; rfl) (by unfold maxLen; first | omega | (simp only [List.length_append]; omega)) (by first | omega | (simp only [List.length_append]; omega)) zW ?_)
            intro v2 w3 hown3 hgrow
            have hbel3 := hbelW.grown hgrow (by simpa using zW) (fun k hk => (hownW.lt k hk).1)
            have HO4 : Hid (w3.ownsRow w1.heap.size 9 1 v2 (T0 ++ whosS S (k + 1)).length ((T0 ++ whosS S (k + 1)).map encStr)) := Lib.hid (by
              rw [Hs.out, ← List.append_assoc, List.length_append, List.length_append, List.map_append]; simpa [enc_bt] using hown3)
            clear hownW hbelW hgrow hown3
            go_wp2_with fail
            go_roundw
            case rel => exact ⟨k + 1, v2, by omega, rfl, by go_num, HO4, hbel3⟩
            case measure => simp [intOf]; omega
          · have HO4 := hown
            rw [← whosS_no hlt hkd] at HO4
            have d2 : (S[k].kind == 1) = false := by simpa using hkd
            have HOB := Lib.hid (own_at HO4.out ((Below.refl _ wr).alloc (Nat.le_refl _) (.cells #[.int .i64 S[k].kind, .string S[k].head.owner, .string S[k].head.name, .string S[k].who, .string S[k].a.owner, .string S[k].a.name, .string S[k].b.owner, .string S[k].b.name, .string S[k].via] 26)))
            have hbelW := hbel.alloc zr (.cells #[.int .i64 S[k].kind, .string S[k].head.owner, .string S[k].head.name, .string S[k].who, .string S[k].a.owner, .string S[k].a.name, .string S[k].b.owner, .string S[k].b.name, .string S[k].via] 26)
            clear hc hown hbel hkd HO4
            go_wp2_with fail
            go_roundw
            case rel => exact ⟨k + 1, _, by omega, rfl, by go_num, HOB, hbelW⟩
            case measure => simp [intOf]; omega
        · have d1 : decide ((k : Int) < S.length) = false := by simp; omega
          have hkS : k = S.length := by omega
          subst hkS
          have hcP := HCP.out _ hbel
          have hl1 : (T0 ++ whosS S S.length).length ≤ 8000 := by simp; omega
          obtain ⟨T1, hT1⟩ : ∃ T1, T0 ++ whosS S S.length = T1 := ⟨_, rfl⟩
          rw [hT1] at hown HT hl1
          have HO1 := hown
          have HB1 := Lib.hid hbel
          clear hT1 hown hbel HO HB
          go_wp2_with fail
          clear hcP
          go_loopw [3, 42] (fun l i wr => ∃ (k : Nat) (v : Value), k ≤ Q.length ∧ l = v ∧ i = .int .i64 k ∧ Hid (wr.ownsRow w1.heap.size 9 1 v (T1 ++ whosA Q k).length ((T1 ++ whosA Q k).map encStr)) ∧ Below w1.heap.size w1 wr) (fun _ i _ => Q.length - (intOf i).toNat)
          case atStart => exact ⟨0, _, by omega, rfl, rfl, by simpa [whosA] using HO1, HB1.out⟩
          case round =>
            obtain ⟨k, v1, hk, rfl, rfl, hown, hbel⟩ := hrel
            have zr := hbel.size
            have hlq := HAL.out k
            by_cases hlt : k < Q.length
            · have d1 : decide ((k : Int) < Q.length) = true := by simp; omega
              have p1 : (0 : Int) ≤ k := by omega
              have p2 : (k : Int) < Q.length := by omega
              have hlq2 := HAL.out (k + 1)
              rw [whosA_succ hlt, List.length_append] at hlq2
              obtain ⟨g, o, e1, hg, hc⟩ := (HPW.out _ hbel).q (by show 0 < Q.length; omega)
              obtain rfl := e1
              obtain ⟨B, cB, a0, a1, a2, a3, a4, a5, hrow⟩ := hc k hlt
              have HR : Hid (∀ w', SRow w' B Q[k].who → Calls Try.prog 67 #[.agg #[.int .i64 Q[k].kind, .string Q[k].a.owner, .string Q[k].a.name, .string Q[k].b.owner, .string Q[k].b.name, .slice B Q[k].who.length cB]] w' (QryO.PrinsPost Q[k].who w')) := Lib.hid (fun w' hr => QryO.prins Q[k] B cB w' (by omega) hr)
              have Hs := Lib.hid (whosA_succ hlt)
              have HRow := Lib.hid (hrow.keep ((Below.refl _ wr).alloc (Nat.le_refl _) (.cells #[.int .i64 Q[k].kind, .string Q[k].a.owner, .string Q[k].a.name, .string Q[k].b.owner, .string Q[k].b.name, .slice B Q[k].who.length cB] 78)))
              clear hc hrow
              go_wp2_with fail
              refine (HR.out _ HRow.out).mono ?_
              rintro e w2 ⟨A5, c5, rfl, hr, hg2⟩
              have hb2 : Below wr.heap.size wr w2 := ((Below.refl _ wr).alloc (Nat.le_refl _) _).trans (hg2.mono (by simp))
              have hownW := own_at hown.out hb2
              have hbelW := hbel.trans (hb2.mono zr)
              have zW : w1.heap.size ≤ w2.heap.size := by have := hb2.size; omega
              have H0 := Lib.hid (fun h : A5 = none => by rw [h] at hr; exact srow_none_len hr)
              have H1 := Lib.hid (srow_cells hr)
              clear hr hg2 hb2 hown hbel a0 a1 a2 a3 a4 a5
              go_wp2_with (at_builtin; refine wpList_append_from _ rfl _ _ 22 rfl w1.heap.size 9 i0 (.string ⟨#[]⟩) 1 16 Try.underlying22 hi hz0 hz1 hz2 rfl (by decide) _ _ _ rfl hownW A5 Q[k].who.length c5 (Q[k].who.map encStr) rfl (by simp) H0.out H1.out (enc_one _) (by unfold maxLen; first | omega | (simp only [List.length_append]; omega)) (by first | omega | (simp only [List.length_append]; omega)) zW ?_)
              intro v2 w3 hown3 hgrow
              have hbel3 := hbelW.grown hgrow (by simpa using zW) (fun k hk => (hownW.lt k hk).1)
              have HO4 : Hid (w3.ownsRow w1.heap.size 9 1 v2 (T1 ++ whosA Q (k + 1)).length ((T1 ++ whosA Q (k + 1)).map encStr)) := Lib.hid (by
                rw [Hs.out, ← List.append_assoc, List.length_append, List.length_append, List.map_append, List.map_append]; simpa using hown3)
              clear hownW hbelW hgrow hown3
              go_wp2_with fail
              go_roundw
              case rel => exact ⟨k + 1, v2, by omega, rfl, by go_num, HO4, hbel3⟩
              case measure => simp [intOf]; omega
            · have d1 : decide ((k : Int) < Q.length) = false := by simp; omega
              have hkQ : k = Q.length := by omega
              subst hkQ
              obtain ⟨A', c', rfl, _, hrow⟩ := SRow.of_own hown.out
              have HN := Lib.hid (Tab1.new A' c' (T1 ++ whosA Q Q.length) wr (by simp; omega) hrow)
              have HTT : Hid (T1 ++ whosA Q Q.length = TT) := HT
              have hlen : (T1 ++ whosA Q Q.length).length ≤ 1000000 := by simp; omega
              have HB2 := Lib.hid (HB0.out.trans (hbel.mono (by omega : w.heap.size ≤ w1.heap.size)))
              generalize T1 ++ whosA Q Q.length = TL at *
              obtain rfl := HTT.out
              have zq := HB2.out.size
              clear hrow hown hbel HTT
              go_wp2_with fail
              refine HN.out.mono ?_
              rintro e w4 ⟨q, rfl, htab, hb4⟩
              have HA := Lib.hid (tab_all htab (Nat.le_trans (tab_len_le _) hlen))
              clear htab
              go_wp2_with fail
              refine HA.out.mono ?_
              rintro e w5 ⟨v5, rfl, hown5, hb5⟩
              have hfin : w5.ownsRow w.heap.size 9 1 v5 (tab TL).length ((tab TL).map encStr) := SynH.own_base hown5 (by have := hb4.size; omega)
              have hbf := HB2.out.trans ((hb4.trans (hb5.mono hb4.size)).mono zq)
              clear hown5 hb4 hb5
              go_wp2_with fail
              go_ret
              exact ⟨v5, rfl, hfin, hbf⟩
set_option maxHeartbeats 2000000 in
set_option maxRecDepth 100000 in
theorem names (p : Py) (A1 A2 A3 A4 : Option Addr) (c1 c2 c3 c4 : Nat) (w : World) (hf : p.fit) (hp : PG w A1 A2 A3 A4 p) : Calls Try.prog 46 #[p.val A1 A2 A3 A4 c1 c2 c3 c4] w (RowPost (tab (namesT p)) w) := by
  obtain ⟨i0, hi, hz0, hz1, hz2⟩ := info_parts Tab3.infoStr
  have HRO := Lib.hid (fun w' h => PolG.roles p A1 A2 A3 A4 c1 c2 c3 c4 w' hf h)
  have hRl := rolesP_len hf
  have hal := whosA_len hf.f5
  have n1 := hf.n1
  have n4 := hf.n4
  have HP := Lib.hid hp
  obtain ⟨TT, hTT⟩ : ∃ TT, namesT p = TT := ⟨_, rfl⟩
  rw [hTT]
  unfold namesT at hTT
  have HT := Lib.hid hTT
  clear hTT
  generalize hRR : rolesP p = R at *
  unfold RolesP at HRO
  rw [hRR] at HRO
  obtain ⟨S, G, H, Q⟩ := p
  simp only at n1 n4 HT hal
  have HAL := Lib.hid hal
  clear hp hf hRR hal
  unfold Py.val at *
  simp only at HRO ⊢
  go_enter Try.func46, Try.ntmps46
  go_wp2_with fail
  refine (HRO.out _ (HP.out.below ((Below.refl _ _).alloc (Nat.le_refl _) _))).mono ?_
  rintro e w1 ⟨A, cA, rfl, hrat, hb1⟩
  have hcP1 : ∀ o, w1.cell? ⟨w.heap.size, o, none⟩ = (#[.slice A1 S.length c1, .slice A2 G.length c2, .slice A3 H.length c3, .slice A4 Q.length c4] : Array Value)[o]? := fun o => by rw [hb1.cell (by simp), Lib.cell_of_heap (heap_alloc_new w _)]
  have z1 : w.heap.size + 1 ≤ w1.heap.size := by have := hb1.size; simpa using this
  have hb01 : Below w.heap.size w w1 := ((Below.refl w.heap.size w).alloc (Nat.le_refl _) _).trans (hb1.mono (by simp))
  have HPW := Lib.hid (fun (wr : World) (h : Below w1.heap.size w1 wr) => (HP.out.below (hb01.trans (h.mono (by omega)))))
  have HCP := Lib.hid (fun (wr : World) (h : Below w1.heap.size w1 wr) (o : Nat) => (h.cell (p := ⟨w.heap.size, o, none⟩) (by show w.heap.size < _; omega)).trans (hcP1 o))
  have HRT := Lib.hid (RG.of_rat hrat)
  have HB0 := Lib.hid hb01
  clear hrat hb1 hb01 hcP1 HP
  go_wp2_with fail
  go_loopw [3, 11] (fun l i wr => ∃ (k : Nat) (v : Value), k ≤ R.length ∧ l = v ∧ i = .int .i64 k ∧ Hid (wr.ownsRow w1.heap.size 9 1 v (namesR R k).length ((namesR R k).map encStr)) ∧ Below w1.heap.size w1 wr) (fun _ i _ => R.length - (intOf i).toNat)
  case atStart => exact ⟨0, _, by omega, rfl, rfl, Lib.hid (World.ownsRow_nil _ _ _ _), Below.refl _ _⟩
  case round =>
    obtain ⟨k, v1, hk, rfl, rfl, hown, hbel⟩ := hrel
    have zr := hbel.size
    have hlk := namesR_len R k
    by_cases hlt : k < R.length
    · have d1 : decide ((k : Int) < R.length) = true := by simp; omega
      have p1 : (0 : Int) ≤ k := by omega
      have p2 : (k : Int) < R.length := by omega
      obtain ⟨g, o, e1, hg, hc⟩ := (HRT.out.below hbel) (by omega)
      obtain rfl := e1
      obtain ⟨a0, a1⟩ := hc k hlt
      have Hs := Lib.hid (namesR_succ hlt)
      have hb2 : Below wr.heap.size wr ((wr.alloc (.cells #[.string R[k].owner, .string R[k].name] 24)).alloc (.cells #[.string R[k].name] 9)) := ((Below.refl _ wr).alloc (Nat.le_refl _) _).alloc (by simp) _
      have hownW := own_at hown.out hb2
      have hbelW := hbel.trans (hb2.mono zr)
      have zW : w1.heap.size ≤ ((wr.alloc (.cells #[.string R[k].owner, .string R[k].name] 24)).alloc (.cells #[.string R[k].name] 9)).heap.size := by simp; omega
      have H1 := Lib.hid (one_src (X := wr.alloc (.cells #[.string R[k].owner, .string R[k].name] 24)) (n := wr.heap.size + 1) (by simp) R[k].name 9)
      clear hc hb2 hown hbel
      go_wp2_with (at_builtin; refine wpList_append_from _ rfl _ _ 22 rfl w1.heap.size 9 i0 (.string ⟨#[]⟩) 1 16 Try.underlying22 hi hz0 hz1 hz2 rfl (by decide) _ _ _ rfl hownW (some ⟨wr.heap.size + 1, 0, none⟩) 1 1 [Value.string R[k].name] rfl rfl (fun h => by cases h) H1.out (fun u hu => by simp at hu; subst hu; rfl) (by unfold maxLen; first | omega | (simp only [List.length_append]; omega)) (by first | omega | (simp only [List.length_append]; omega)) zW ?_)
      intro v2 w3 hown3 hgrow
      have hbel3 := hbelW.grown hgrow (by simpa using zW) (fun k hk => (hownW.lt k hk).1)
      have HO4 : Hid (w3.ownsRow w1.heap.size 9 1 v2 (namesR R (k + 1)).length ((namesR R (k + 1)).map encStr)) := Lib.hid (by
        rw [Hs.out, List.length_append, List.map_append]; simpa [enc_bt] using hown3)
      clear hownW hbelW hgrow hown3
      go_wp2_with fail
      go_roundw
      case rel => exact ⟨k + 1, v2, by omega, rfl, by go_num, HO4, hbel3⟩
      case measure => simp [intOf]; omega
    · have d1 : decide ((k : Int) < R.length) = false := by simp; omega
      have hkR : k = R.length := by omega
      subst hkR
      have hcP := HCP.out _ hbel
      obtain ⟨T0, hT0⟩ : ∃ T0, namesR R R.length = T0 := ⟨_, rfl⟩
      rw [hT0] at hown HT hlk
      have HO := hown
      have HB := Lib.hid hbel
      clear hT0 hown hbel
      go_wp2_with fail
      clear hcP
      go_loopw [3, 24] (fun l i wr => ∃ (k : Nat) (v : Value), k ≤ S.length ∧ l = v ∧ i = .int .i64 k ∧ Hid (wr.ownsRow w1.heap.size 9 1 v (T0 ++ viasS S k).length ((T0 ++ viasS S k).map encStr)) ∧ Below w1.heap.size w1 wr) (fun _ i _ => S.length - (intOf i).toNat)
      case atStart => exact ⟨0, _, by omega, rfl, rfl, by simpa [viasS] using HO, HB.out⟩
      case round =>
        obtain ⟨k, v1, hk, rfl, rfl, hown, hbel⟩ := hrel
        have zr := hbel.size
        have hls := viasS_len S k
        by_cases hlt : k < S.length
        · have d1 : decide ((k : Int) < S.length) = true := by simp; omega
          have p1 : (0 : Int) ≤ k := by omega
          have p2 : (k : Int) < S.length := by omega
          obtain ⟨g, o, e1, hg, hc⟩ := (HPW.out _ hbel).s (by show 0 < S.length; omega)
          obtain rfl := e1
          obtain ⟨a0, a1, a2, a3, a4, a5, a6, a7, a8⟩ := hc k hlt
          by_cases hkd : S[k].kind = 3
          · have Hs := Lib.hid (viasS_yes hlt hkd)
            have d2 : (S[k].kind == 3) = true := by simp [hkd]
            have hb2 : Below wr.heap.size wr ((wr.alloc (.cells #[.int .i64 S[k].kind, .string S[k].head.owner, .string S[k].head.name, .string S[k].who, .string S[k].a.owner, .string S[k].a.name, .string S[k].b.owner, .string S[k].b.name, .string S[k].via] 26)).alloc (.cells #[.string S[k].via] 9)) := ((Below.refl _ wr).alloc (Nat.le_refl _) _).alloc (by simp) _
            have hownW := own_at hown.out hb2
            have hbelW := hbel.trans (hb2.mono zr)
            have zW : w1.heap.size ≤ ((wr.alloc (.cells #[.int .i64 S[k].kind, .string S[k].head.owner, .string S[k].head.name, .string S[k].who, .string S[k].a.owner, .string S[k].a.name, .string S[k].b.owner, .string S[k].b.name, .string S[k].via] 26)).alloc (.cells #[.string S[k].via] 9)).heap.size := by simp; omega
            have H1 := Lib.hid (one_src (X := wr.alloc (.cells #[.int .i64 S[k].kind, .string S[k].head.owner, .string S[k].head.name, .string S[k].who, .string S[k].a.owner, .string S[k].a.name, .string S[k].b.owner, .string S[k].b.name, .string S[k].via] 26)) (n := wr.heap.size + 1) (by simp) S[k].via 9)
            clear hc hb2 hown hbel hkd
            go_wp2_with (at_builtin; refine wpList_append_from _ rfl _ _ 22 rfl w1.heap.size 9 i0 (.string ⟨#[]⟩) 1 16 Try.underlying22 hi hz0 hz1 hz2 rfl (by decide) _ _ _ rfl hownW (some ⟨wr.heap.size + 1, 0, none⟩) 1 1 [Value.string S[k].via] rfl rfl (fun h => by cases h) H1.out (fun u hu => by simp at hu; subst hu; rfl) (by unfold maxLen; first | omega | (simp only [List.length_append]; omega)) (by first | omega | (simp only [List.length_append]; omega)) zW ?_)
            intro v2 w3 hown3 hgrow
            have hbel3 := hbelW.grown hgrow (by simpa using zW) (fun k hk => (hownW.lt k hk).1)
            have HO4 : Hid (w3.ownsRow w1.heap.size 9 1 v2 (T0 ++ viasS S (k + 1)).length ((T0 ++ viasS S (k + 1)).map encStr)) := Lib.hid (by
              rw [Hs.out, ← List.append_assoc, List.length_append, List.length_append, List.map_append]; simpa [enc_bt] using hown3)
            clear hownW hbelW hgrow hown3
            go_wp2_with fail
            go_roundw
            case rel => exact ⟨k + 1, v2, by omega, rfl, by go_num, HO4, hbel3⟩
            case measure => simp [intOf]; omega
          · have HO4 := hown
            rw [← viasS_no hlt hkd] at HO4
            have d2 : (S[k].kind == 3) = false := by simpa using hkd
            have HOB := Lib.hid (own_at HO4.out ((Below.refl _ wr).alloc (Nat.le_refl _) (.cells #[.int .i64 S[k].kind, .string S[k].head.owner, .string S[k].head.name, .string S[k].who, .string S[k].a.owner, .string S[k].a.name, .string S[k].b.owner, .string S[k].b.name, .string S[k].via] 26)))
            have hbelW := hbel.alloc zr (.cells #[.int .i64 S[k].kind, .string S[k].head.owner, .string S[k].head.name, .string S[k].who, .string S[k].a.owner, .string S[k].a.name, .string S[k].b.owner, .string S[k].b.name, .string S[k].via] 26)
            clear hc hown hbel hkd HO4
            go_wp2_with fail
            go_roundw
            case rel => exact ⟨k + 1, _, by omega, rfl, by go_num, HOB, hbelW⟩
            case measure => simp [intOf]; omega
        · have d1 : decide ((k : Int) < S.length) = false := by simp; omega
          have hkS : k = S.length := by omega
          subst hkS
          obtain ⟨A', c', rfl, _, hrow⟩ := SRow.of_own hown.out
          have HN := Lib.hid (Tab1.new A' c' (T0 ++ viasS S S.length) wr (by simp; omega) hrow)
          have HTT : Hid (T0 ++ viasS S S.length = TT) := HT
          have hlen : (T0 ++ viasS S S.length).length ≤ 1000000 := by simp; omega
          have HB2 := Lib.hid (HB0.out.trans (hbel.mono (by omega : w.heap.size ≤ w1.heap.size)))
          generalize T0 ++ viasS S S.length = TL at *
          obtain rfl := HTT.out
          have zq := HB2.out.size
          clear hrow hown hbel HTT
          go_wp2_with fail
          refine HN.out.mono ?_
          rintro e w4 ⟨q, rfl, htab, hb4⟩
          have HA := Lib.hid (tab_all htab (Nat.le_trans (tab_len_le _) hlen))
          clear htab
          go_wp2_with fail
          refine HA.out.mono ?_
          rintro e w5 ⟨v5, rfl, hown5, hb5⟩
          have hfin : w5.ownsRow w.heap.size 9 1 v5 (tab TL).length ((tab TL).map encStr) := SynH.own_base hown5 (by have := hb4.size; omega)
          have hbf := HB2.out.trans ((hb4.trans (hb5.mono hb4.size)).mono zq)
          clear hown5 hb4 hb5
          go_wp2_with fail
          go_ret
          exact ⟨v5, rfl, hfin, hbf⟩
end Go.Proofs.Ytnhjnimgjpgfcaa.PolH
