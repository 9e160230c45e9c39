/- The walk of the law that the cache keeps. -/
import Derived.Test.YtekgegpholcdcaaCaH
namespace Go.Proofs.Ytekgegpholcdcaa.CaI
open Go.BigFrame Go.RowKit Go.Lib Go.Proofs Go.Proofs.Ytekgegpholcdcaa.CaA Go.Proofs.Ytekgegpholcdcaa.CaB Go.Proofs.Ytekgegpholcdcaa.CaC Go.Proofs.Ytekgegpholcdcaa.CaD Go.Proofs.Ytekgegpholcdcaa.CaE Go.Proofs.Ytekgegpholcdcaa.CaH
set_option linter.unusedVariables false
set_option linter.unusedSimpArgs false
/-- A slice value that reads as things that are done. -/
def OG (w : World) (A : Option Addr) (L : List (Int × Qn × Int)) : Prop :=
  0 < L.length → ∃ g o, A = some ⟨g, o, none⟩ ∧ g < w.heap.size ∧ ∀ j, (h : j < L.length) → w.cell? ⟨g, o + j * 6, none⟩ = some (.int .u64 L[j].1) ∧ w.cell? ⟨g, o + j * 6 + 1, none⟩ = some (.int .i64 L[j].2.1.op) ∧ w.cell? ⟨g, o + j * 6 + 2, none⟩ = some (.int .i64 L[j].2.1.a) ∧ w.cell? ⟨g, o + j * 6 + 3, none⟩ = some (.int .i64 L[j].2.1.b) ∧ w.cell? ⟨g, o + j * 6 + 4, none⟩ = some (.int .i64 L[j].2.1.d) ∧ w.cell? ⟨g, o + j * 6 + 5, none⟩ = some (.int .i64 L[j].2.2)
theorem OG.below {w w' : World} {A : Option Addr} {L : List (Int × Qn × Int)} (h : OG w A L) (hb : Below w.heap.size w w') : OG w' A L := fun hp => by
  obtain ⟨g, o, hA, hg, hc⟩ := h hp
  have e : ∀ o, w'.cell? ⟨g, o, none⟩ = w.cell? ⟨g, o, none⟩ := fun o => hb.cell (p := ⟨g, o, none⟩) hg
  exact ⟨g, o, hA, Nat.lt_of_lt_of_le hg hb.size, fun j hj => by rw [e, e, e, e, e, e]; exact hc j hj⟩
theorem OG.take {w : World} {A : Option Addr} {L : List (Int × Qn × Int)} (h : OG w A L) (m : Nat) : OG w A (L.take m) := fun hp => by
  obtain ⟨g, o, hA, hg, hc⟩ := h (by simp at hp; omega)
  refine ⟨g, o, hA, hg, fun j hj => ?_⟩
  rw [List.getElem_take]
  exact hc j (by simp at hj; omega)
theorem infoPut : (Try.prog.info? 59).map (fun i => (i.zero, i.size, i.bytes)) = some (some (.agg #[.int .i64 0, .int .i64 0, .int .i64 0, .int .i64 0, .int .i64 0]), 5, 40) := by kernel_rfl
theorem below_own {W w w2 : World} {B n : Nat} {e : TypeId} {k : Nat} {v : Value} {xs : List Value} (hb : Below W.heap.size W w) (ho : w.ownsRow B e k v n xs) (hB : W.heap.size ≤ B) (hg : w.grownBy w2 v.ownBlock) : Below W.heap.size W w2 :=
  hb.grown hg hb.size (fun k hk => Nat.le_trans hB (ho.lt k hk).1)
theorem own_ne {w : World} {b0 n B : Nat} {e : TypeId} {k : Nat} {v : Value} {xs : List Value} (h : w.ownsRow b0 e k v n xs) (hB : B < b0) : v.ownBlock ≠ some B := fun e => by
  have := (h.lt B e).1
  omega
theorem own_far {w w' : World} {b0 n B : Nat} {e : TypeId} {k : Nat} {v : Value} {xs : List Value} (h : w.ownsRow b0 e k v n xs) (hg : w.grownBy w' (some B)) (hB : B < b0) : w'.ownsRow b0 e k v n xs := h.kept hg (Or.inr (own_ne h hB))
theorem ug_keep {w w' : World} {A : Option Addr} {P : List (Qn × Int)} {b0 B : Nat} (h : UG w A P) (hb : ∀ a, A = some a → b0 ≤ a.block) (hg : w.grownBy w' (some B)) (hB : B < b0) : UG w' A P := fun hp => by
  obtain ⟨g, hA, hlt, hc⟩ := h hp
  have := hb _ hA
  have hgb : w'.heap[g]? = w.heap[g]? := hg.block g hlt (by simp; show g ≠ B; simp only at this; omega)
  have e : ∀ o, w'.cell? ⟨g, o, none⟩ = w.cell? ⟨g, o, none⟩ := fun o => World.cell?_of_block (w := w) hgb
  exact ⟨g, hA, Nat.lt_of_lt_of_le hlt hg.size, fun j hj => by rw [e, e, e, e, e]; exact hc j hj⟩
theorem five_cells (w : World) (t : TypeId) (a b c d v : Int) : ∀ (j : Nat) (u : Value), [Value.int .i64 a, .int .i64 b, .int .i64 c, .int .i64 d, .int .i64 v][j]? = some u → (w.alloc (.cells #[.int .i64 a, .int .i64 b, .int .i64 c, .int .i64 d, .int .i64 v] t)).cell? ((⟨w.heap.size, 0, none⟩ : Addr).add j) = some u := fun j u hu => by
  have e : ((⟨w.heap.size, 0, none⟩ : Addr).add j) = ⟨w.heap.size, j, none⟩ := by unfold Addr.add; split <;> simp_all
  rw [e, Lib.cell_of_heap (heap_alloc_new w _)]
  simpa using hu
set_option maxHeartbeats 4000000 in
set_option maxRecDepth 100000 in
theorem keeps (size : Int) (A : Option Addr) (ca : Nat) (L : List (Int × Qn × Int)) (w : World) (hL : L.length ≤ maxLen) (hca : L.length ≤ ca) (hm : ca ≤ maxLen) (hA : OG w A L) : Calls Try.prog 6 #[.int .i64 size, .slice A L.length ca] w fun e w' => e = .returned (.bool true) ∧ Below w.heap.size w w' := by
  unfold maxLen at hL hm
  obtain ⟨m, hmm⟩ : ∃ m, min L.length 80 = m := ⟨_, rfl⟩
  have hmi : min (L.length : Int) 80 = (m : Int) := by omega
  have hm80 : m ≤ 80 := by omega
  have hmc : m ≤ ca := by omega
  have hTl : (L.take m).length = m := by simp; omega
  have HA := Lib.hid (hA.take m)
  have HLV := Lib.hid lives
  clear hmm hA
  generalize L.take m = T at *
  have HTl := Lib.hid hTl
  clear hTl
  generalize L.length = ln at *
  obtain ⟨i0, hi, hz0, hz1, hz2⟩ := info_parts infoPut
  have HN := Lib.hid (new_ size w)
  unfold NewPost at HN
  go_enter Try.func6, Try.ntmps6
  go_wp2_with fail
  refine HN.out.mono ?_
  rintro e w1 ⟨B, R, k, rfl, hk, hl, hu, hc, hb, hB, hR⟩
  have hBl := hc.bl
  have hRl := hc.rl
  have htw := two_le hk
  have HF := Lib.hid hc
  have HB := Lib.hid hb
  have HK := Lib.hid hk
  clear HN hc hb hk hl hu
  obtain ⟨b0, hb0⟩ : ∃ b0, w1.heap.size = b0 := ⟨_, rfl⟩
  rw [hb0] at hBl hRl
  have hbs := HB.out.size
  rw [hb0] at hbs
  have hbw1 : b0 ≤ w1.heap.size := by omega
  clear hb0
  obtain ⟨p, hp⟩ : ∃ p, (2 : Nat) ^ k = p := ⟨_, rfl⟩
  have HPp := Lib.hid hp
  rw [hp] at htw HF
  obtain ⟨p1, p2⟩ := htw
  have HPut := Lib.hid (fun M h q v w H => put B R k M h q v w HK.out H)
  unfold PutPost at HPut
  have HGt := Lib.hid (fun M q h w hh H => get B R k M h q w HK.out hh H)
  have HLa := Lib.hid (fun A ca P q w h1 h2 h3 => last_ A ca P q w h1 h2 h3)
  have HCl := Lib.hid (fun M h w H => clear_ B R p M h w (by omega) H)
  unfold ClearPost at HCl
  have HHi := Lib.hid (fun M h w H => hits_ B R p M h w H)
  have HGP : Hid (∀ (M : Nat → Pl) (h : Nat) (q : Qn) (w : World) (e : Ending) (w' : World), GetPost B R k M h q w e w' → ((M (ix k q)).kept = true ∧ (M (ix k q)).q = q ∧ e = .returned (.tuple #[.int .i64 (M (ix k q)).ans, .bool true]) ∧ Ca w' B R p M (h + 1) ∧ w.grownBy w' (some B)) ∨ (¬ ((M (ix k q)).kept = true ∧ (M (ix k q)).q = q) ∧ e = .returned (.tuple #[.int .i64 0, .bool false]) ∧ Below w.heap.size w w')) := Lib.hid (fun M h q w e w' hp2 => by
    rw [← HPp.out]
    unfold GetPost at hp2
    by_cases hc : (M (ix k q)).kept = true ∧ (M (ix k q)).q = q
    · rw [if_pos hc] at hp2
      exact Or.inl ⟨hc.1, hc.2, hp2⟩
    · rw [if_neg hc] at hp2
      exact Or.inr ⟨hc, hp2⟩)
  simp only [hp] at HPut HGt
  clear hp
  go_wp2_with fail
  go_loopw [6, 7, 27] (fun l h i wr => ∃ (j hn : Nat) (P : List (Qn × Int)) (M : Nat → Pl), j ≤ m ∧ i = .int .i64 j ∧ h = .int .i64 hn ∧ hn ≤ j ∧ P.length ≤ j ∧ Hid (Inv k M P) ∧ Hid (Ca wr B R p M hn) ∧ Hid (wr.ownsRow b0 59 5 l P.length (encP P)) ∧ Below w.heap.size w wr ∧ b0 ≤ wr.heap.size) (fun _ _ i _ => m - (RowKit.intOf i).toNat)
  case atStart => exact ⟨0, 0, [], _, by omega, rfl, rfl, by omega, by simp, Lib.hid (Inv.start k), HF, Lib.hid (World.ownsRow_nil _ _ _ _), HB.out, hbw1⟩
  case round =>
    clear HF HB hbw1
    obtain ⟨j, hn, P, M, hj, rfl, rfl, hhj, hPj, hinv, hf, hown, hb, hbw⟩ := hrel
    by_cases hlt : j < m
    · have d1 : decide ((j : Int) < m) = true := by simp; omega
      have q0 : (0 : Int) ≤ j := by omega
      have q1 : (j : Int) < m := by omega
      have hjT : j < T.length := by rw [HTl.out]; exact hlt
      obtain ⟨g, o, rfl, hg, hcell⟩ := (HA.out.below hb) (by omega)
      obtain ⟨a0, a1, a2, a3, a4, a5⟩ := hcell j hjT
      generalize T[j] = u at *
      obtain ⟨kd, ⟨k1, k2, k3, k4⟩, v⟩ := u
      simp only at a0 a1 a2 a3 a4 a5
      have HB := Lib.hid hb
      obtain ⟨A2, ca2, rfl, hug, hle, hmx, hbb⟩ := ug_own hown.out
      obtain ⟨n, hPn⟩ : ∃ n, P.length = n := ⟨_, rfl⟩
      rw [hPn] at hPj hown hle ⊢
      have HPn := Lib.hid hPn
      have hbx1 := (Below.refl wr.heap.size wr).alloc (Nat.le_refl _) (.cells #[.int .u64 kd, .int .i64 k1, .int .i64 k2, .int .i64 k3, .int .i64 k4, .int .i64 v] 54)
      have hbx := hbx1.alloc (by simp) (.cells #[.int .i64 k1, .int .i64 k2, .int .i64 k3, .int .i64 k4] 52)
      have hx0 := heap_alloc2_old wr (.cells #[.int .u64 kd, .int .i64 k1, .int .i64 k2, .int .i64 k3, .int .i64 k4, .int .i64 v] 54) (.cells #[.int .i64 k1, .int .i64 k2, .int .i64 k3, .int .i64 k4] 52)
      have hx1 := heap_alloc2_new wr (.cells #[.int .u64 kd, .int .i64 k1, .int .i64 k2, .int .i64 k3, .int .i64 k4, .int .i64 v] 54) (.cells #[.int .i64 k1, .int .i64 k2, .int .i64 k3, .int .i64 k4] 52)
      generalize hW : ((wr.alloc (.cells #[.int .u64 kd, .int .i64 k1, .int .i64 k2, .int .i64 k3, .int .i64 k4, .int .i64 v] 54)).alloc (.cells #[.int .i64 k1, .int .i64 k2, .int .i64 k3, .int .i64 k4] 52)) = w3 at *
      have hz3 : w3.heap.size = wr.heap.size + 2 := by rw [← hW]; simp
      have y0 := fun o => Lib.cell_of_heap hx0 o
      have y1 := fun o => Lib.cell_of_heap hx1 o
      have HF3 := Lib.hid (hf.out.below hbx)
      have HO3 := Lib.hid (own_below hown.out hbx)
      have HU3 := Lib.hid (hug.below hbx)
      have HB3 := Lib.hid (HB.out.trans (hbx.mono HB.out.size))
      have HX0 := Lib.hid hx0
      have HX1 := Lib.hid hx1
      have hbB : wr.heap.size ≠ B := by omega
      have hbB1 : wr.heap.size + 1 ≠ B := by omega
      have hbR : wr.heap.size ≠ R := by omega
      have hbR1 : wr.heap.size + 1 ≠ R := by omega
      clear hcell hb hPn hbx hbx1 hf hown hug HB
      have hcase : (kd.tmod 5 = 2 ∨ kd.tmod 5 = 3) ∨ kd.tmod 5 = 4 ∨ (¬ kd.tmod 5 = 2 ∧ ¬ kd.tmod 5 = 3 ∧ ¬ kd.tmod 5 = 4) := by omega
      rcases hcase with hr | hr | ⟨n2, n3, n4⟩
      · rcases hr with hr | hr
        all_goals
          go_wp2_with fail
          refine (HGt.out M ⟨k1, k2, k3, k4⟩ hn _ (by omega) HF3.out).mono ?_
          intro e w4 hpost
          clear hW hr y0 y1 hx0 hx1
          rcases HGP.out _ _ _ _ _ _ hpost with ⟨hk1, hk2, rfl, hf4, hg4⟩ | ⟨hno, rfl, hb4⟩
          · have hlast : lastP P ⟨k1, k2, k3, k4⟩ = some (M (ix k ⟨k1, k2, k3, k4⟩)).ans := by
              have := (hinv.out.at_ _ hk1).2
              rw [hk2] at this
              exact this
            have HL4 := Lib.hid (HLa.out A2 ca2 P ⟨k1, k2, k3, k4⟩ w4 (by rw [HPn.out]; omega) (by rw [HPn.out]; exact hle) (ug_keep HU3.out hbb hg4 hBl))
            unfold LastPost at HL4
            rw [hlast, HPn.out] at HL4
            simp only [Option.getD_some, Option.isSome_some] at HL4
            have HF4 := Lib.hid hf4
            have HO4 := Lib.hid (own_far HO3.out hg4 hBl)
            have HB4 := Lib.hid (grown_from HB3.out hg4 hB)
            have z1 := fun o => Lib.cell_of_heap ((hg4.block (wr.heap.size + 1) (by omega) (by simpa using hbB1)).trans HX1.out) o
            have hz4 := hg4.size
            clear hpost hf4 hg4 hlast hk1 hk2
            generalize (M (ix k ⟨k1, k2, k3, k4⟩)).ans = a9 at *
            have e1 : ((a9 : Int) != a9) = false := by simp
            go_wp2_with fail
            refine HL4.out.mono ?_
            rintro e w5 ⟨rfl, hb5⟩
            have HF5 := Lib.hid (HF4.out.below hb5)
            have HO5 := Lib.hid (own_below HO4.out hb5)
            have HB5 := Lib.hid (HB4.out.trans (hb5.mono HB4.out.size))
            have hz5 := hb5.size
            clear hb5 z1
            go_wp2_with fail
            go_quiet (fail)
            go_wp2_with fail
            refine (HHi.out M (hn + 1) _ (HF5.out.drewN nq)).mono ?_
            rintro e w6 ⟨rfl, rfl⟩
            go_wp2_with fail
            go_roundw
            case rel => exact ⟨j + 1, hn + 1, P, M, by omega, by go_num, by go_num, by omega, by rw [HPn.out]; omega, hinv, Lib.hid (HF5.out.drewN nq), Lib.hid (by rw [HPn.out]; exact own_below HO5.out (below_drewN (Below.refl _ _) nq)), below_drewN HB5.out nq, by show b0 ≤ w5.heap.size; omega⟩
            case measure => simp [RowKit.intOf]; omega
          · have HL4 := Lib.hid (HLa.out A2 ca2 P ⟨k1, k2, k3, k4⟩ w4 (by rw [HPn.out]; omega) (by rw [HPn.out]; exact hle) (HU3.out.below hb4))
            unfold LastPost at HL4
            rw [HPn.out] at HL4
            have HF4 := Lib.hid (HF3.out.below hb4)
            have HO4 := Lib.hid (own_below HO3.out hb4)
            have HU4 := Lib.hid (HU3.out.below hb4)
            have HB4 := Lib.hid (HB3.out.trans (hb4.mono HB3.out.size))
            have HX4 := Lib.hid ((hb4.block (wr.heap.size + 1) (by omega)).trans HX1.out)
            have z1 := fun o => Lib.cell_of_heap HX4.out o
            have hz4 := hb4.size
            clear hpost hb4
            have HNo := Lib.hid hno
            clear hno
            generalize (lastP P ⟨k1, k2, k3, k4⟩).getD 0 = a9 at *
            generalize (lastP P ⟨k1, k2, k3, k4⟩).isSome = b9 at *
            by_cases hn0 : n = 0
            · have e2 : decide (0 < n) = false := by simp; omega
              have e3 : decide ((0 : Int) < n) = false := by simp; omega
              clear hn0
              go_wp2_with fail
              refine HL4.out.mono ?_
              rintro e w5 ⟨rfl, hb5⟩
              have HF5 := Lib.hid (HF4.out.below hb5)
              have HO5 := Lib.hid (own_below HO4.out hb5)
              have HB5 := Lib.hid (HB4.out.trans (hb5.mono HB4.out.size))
              have hz5 := hb5.size
              clear hb5 z1
              go_wp2_with fail
              go_quiet (fail)
              go_wp2_with fail
              refine (HHi.out M hn _ (HF5.out.drewN nq)).mono ?_
              rintro e w6 ⟨rfl, rfl⟩
              go_wp2_with fail
              go_roundw
              case rel => exact ⟨j + 1, hn, P, M, by omega, by go_num, rfl, by omega, by rw [HPn.out]; omega, hinv, Lib.hid (HF5.out.drewN nq), Lib.hid (by rw [HPn.out]; exact own_below HO5.out (below_drewN (Below.refl _ _) nq)), below_drewN HB5.out nq, by show b0 ≤ w5.heap.size; omega⟩
              case measure => simp [RowKit.intOf]; omega
            · have e2 : decide (0 < n) = true := by simp; omega
              have e3 : decide ((0 : Int) < n) = true := by simp; omega
              obtain ⟨P', u, hPu⟩ : ∃ P' u, P = P' ++ [u] := ⟨P.dropLast, P.getLast (fun e => hn0 (by rw [← HPn.out, e]; rfl)), (List.dropLast_concat_getLast _).symm⟩
              obtain ⟨⟨l1, l2, l3, l4⟩, l5⟩ := u
              have hne : ¬ ((⟨l1, l2, l3, l4⟩ : Qn) = ⟨k1, k2, k3, k4⟩) := fun e => HNo.out (by
                have := hinv.out.last ⟨l1, l2, l3, l4⟩ l5 P' hPu
                rw [e] at this
                exact this)
              obtain ⟨i, hni⟩ : ∃ i, n = i + 1 := ⟨n - 1, by omega⟩
              have HPi : Hid (∀ h : i < P.length, P[i] = (⟨l1, l2, l3, l4⟩, l5)) := Lib.hid (fun h => by
                have hl : P'.length = i := by
                  have := HPn.out
                  rw [hPu, List.length_append, hni] at this
                  simpa using this
                subst hPu
                subst hl
                simp)
              have heq := fun w => eqK l1 l2 l3 l4 k1 k2 k3 k4 w
              rw [decide_eq_false hne] at heq
              have e4 : ((n : Int) - 1) = (i : Int) := by omega
              have i1 : (0 : Int) ≤ i := by omega
              have i2 : (i : Int) < n := by omega
              have HNi := Lib.hid hni
              clear hne hPu hni
              go_wp2_with fail
              refine HL4.out.mono ?_
              rintro e w5 ⟨rfl, hb5⟩
              have HF5 := Lib.hid (HF4.out.below hb5)
              have HO5 := Lib.hid (own_below HO4.out hb5)
              have HB5 := Lib.hid (HB4.out.trans (hb5.mono HB4.out.size))
              obtain ⟨g2, rfl, hg2, hc2⟩ := (HU4.out.below hb5) (by rw [HPn.out]; omega)
              obtain ⟨c0, c1, c2, c3, c4⟩ := hc2 i (by rw [HPn.out, HNi.out]; omega)
              rw [HPi.out] at c0 c1 c2 c3 c4
              simp only at c0 c1 c2 c3 c4
              have z5 := fun o => Lib.cell_of_heap ((hb5.block (wr.heap.size + 1) (by omega)).trans HX4.out) o
              have hz5 := hb5.size
              clear hb5 z1 hc2 c4
              go_wp2_with fail
              go_quiet (fail)
              go_wp2_with fail
              refine (HHi.out M hn _ (HF5.out.drewN nq)).mono ?_
              rintro e w6 ⟨rfl, rfl⟩
              go_wp2_with fail
              go_roundw
              case rel => exact ⟨j + 1, hn, P, M, by omega, by go_num, rfl, by omega, by rw [HPn.out]; omega, hinv, Lib.hid (HF5.out.drewN nq), Lib.hid (by rw [HPn.out]; exact own_below HO5.out (below_drewN (Below.refl _ _) nq)), below_drewN HB5.out nq, by show b0 ≤ w5.heap.size; omega⟩
              case measure => simp [RowKit.intOf]; omega
      · go_wp2_with fail
        refine (HCl.out M hn _ HF3.out).mono ?_
        rintro e w4 ⟨rfl, hf4, hg4⟩
        have HF4 := Lib.hid hf4
        have HB4 := Lib.hid (grown_from HB3.out hg4 hR)
        have hz4 := hg4.size
        clear hW hr y0 y1 hx0 hx1 hf4 hg4
        go_wp2_with fail
        refine (HHi.out _ hn _ HF4.out).mono ?_
        rintro e w6 ⟨rfl, rfl⟩
        go_wp2_with fail
        go_roundw
        case rel => exact ⟨j + 1, hn, [], _, by omega, by go_num, rfl, by omega, by simp, Lib.hid (Inv.start k), HF4, Lib.hid (World.ownsRow_nil _ _ _ _), HB4.out, by omega⟩
        case measure => simp [RowKit.intOf]; omega
      · go_wp2_with fail
        refine (HPut.out M hn ⟨k1, k2, k3, k4⟩ v _ HF3.out).mono ?_
        rintro e w4 ⟨rfl, hf4, hg4⟩
        have HI4 := Lib.hid (hinv.out.put ⟨k1, k2, k3, k4⟩ v)
        generalize upd M (ix k ⟨k1, k2, k3, k4⟩) ⟨⟨k1, k2, k3, k4⟩, v, true⟩ = M2 at *
        have HF4 := Lib.hid hf4
        have HO4 := Lib.hid (own_far HO3.out hg4 hRl)
        have HB4 := Lib.hid (grown_from HB3.out hg4 hR)
        have z0 := fun o => Lib.cell_of_heap ((hg4.block wr.heap.size (by omega) (by simpa using hbR)).trans HX0.out) o
        have z1 := fun o => Lib.cell_of_heap ((hg4.block (wr.heap.size + 1) (by omega) (by simpa using hbR1)).trans HX1.out) o
        have hz4 := hg4.size
        clear hW n2 n3 n4 y0 y1 hx0 hx1 hf4 hg4 hinv
        go_wp2_with (at_builtin; refine wpList_append_own _ rfl _ _ 51 rfl b0 59 i0 (.agg #[.int .i64 0, .int .i64 0, .int .i64 0, .int .i64 0, .int .i64 0]) 5 40 Try.underlying51 hi hz0 hz1 hz2 rfl (by decide) _ _ _ rfl (HO4.out.alloc _) ⟨w4.heap.size, 0, none⟩ 1 1 [.int .i64 k1, .int .i64 k2, .int .i64 k3, .int .i64 k4, .int .i64 v] rfl rfl ?c1 ?c2 ?c3 ?c4 ?c5 ?_)
        case c1 => exact five_cells w4 _ k1 k2 k3 k4 v
        case c2 => intro u hu; simp only [List.mem_cons, List.not_mem_nil, or_false] at hu; rcases hu with rfl | rfl | rfl | rfl | rfl <;> rfl
        case c3 => unfold maxLen; omega
        case c4 => omega
        case c5 => simp; omega
        intro v' w5 hown' hgrow _
        have hown5 : w5.ownsRow b0 59 5 v' (P ++ [((⟨k1, k2, k3, k4⟩ : Qn), v)]).length (encP (P ++ [((⟨k1, k2, k3, k4⟩ : Qn), v)])) := by
          rw [encP_snoc, List.length_append, HPn.out]
          exact hown'
        have hal := (Below.refl w4.heap.size w4).alloc (Nat.le_refl _) (.cells #[.int .i64 k1, .int .i64 k2, .int .i64 k3, .int .i64 k4, .int .i64 v] 59)
        have hF4a := HF4.out.below hal
        have hne := own_ne (HO4.out.alloc (.cells #[.int .i64 k1, .int .i64 k2, .int .i64 k3, .int .i64 k4, .int .i64 v] 59)) hBl
        have hne2 := own_ne (HO4.out.alloc (.cells #[.int .i64 k1, .int .i64 k2, .int .i64 k3, .int .i64 k4, .int .i64 v] 59)) hRl
        have HF5 := Lib.hid (hF4a.keep hgrow.size (hgrow.block B hF4a.bl (Ne.symm hne)) (hgrow.block R hF4a.rl (Ne.symm hne2)))
        have HB5 := Lib.hid (below_own (HB4.out.trans (hal.mono HB4.out.size)) (HO4.out.alloc _) hbs hgrow)
        have HO5 := Lib.hid hown5
        have hz5 := hgrow.size
        simp only [World.size_alloc] at hz5
        have HPl : Hid ((P ++ [((⟨k1, k2, k3, k4⟩ : Qn), v)]).length ≤ j + 1) := Lib.hid (by rw [List.length_append, HPn.out]; simp; omega)
        clear hown' hown5 hal hF4a hne hne2 hgrow z0 z1
        go_wp2_with fail
        refine (HHi.out M2 hn _ HF5.out).mono ?_
        rintro e w6 ⟨rfl, rfl⟩
        go_wp2_with fail
        go_roundw
        case rel => exact ⟨j + 1, hn, _, M2, by omega, by go_num, rfl, by omega, HPl.out, HI4, HF5, HO5, HB5.out, by omega⟩
        case measure => simp [RowKit.intOf]; omega
    · have d1 : decide ((j : Int) < m) = false := by simp; omega
      have HB := Lib.hid hb
      clear hb hf hown hinv
      go_wp2_with fail
      refine (put0 _ _ _ _ _ _).mono ?_
      rintro e w2 ⟨rfl, rfl⟩
      go_wp2_with fail
      refine (clear0 _).mono ?_
      rintro e w2 ⟨rfl, rfl⟩
      go_wp2_with fail
      refine (get0 _ _ _ _ _).mono ?_
      rintro e w2 ⟨rfl, rfl⟩
      go_wp2_with fail
      refine (hits0 _).mono ?_
      rintro e w2 ⟨rfl, rfl⟩
      go_wp2_with fail
      refine (size0 _).mono ?_
      rintro e w2 ⟨rfl, rfl⟩
      go_wp2_with fail
      refine (HLV.out _).mono ?_
      rintro e w5 ⟨rfl, hb5⟩
      have HB5 := Lib.hid (HB.out.trans (hb5.mono HB.out.size))
      clear hb5
      go_wp2_with fail
      go_ret
      exact ⟨rfl, HB5.out⟩
end Go.Proofs.Ytekgegpholcdcaa.CaI
