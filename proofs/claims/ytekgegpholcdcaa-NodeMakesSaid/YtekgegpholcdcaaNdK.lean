/- The walk of the law of budgets. -/
import Derived.Test.YtekgegpholcdcaaNdJ
namespace Go.Proofs.Ytekgegpholcdcaa.NdK
open Go.RowKit Go.Lib Go.Proofs Go.Proofs.Ytekgegpholcdcaa.NdA Go.Proofs.Ytekgegpholcdcaa.NdH Go.Proofs.Ytekgegpholcdcaa.NdB Go.Proofs.Ytekgegpholcdcaa.NdC Go.Proofs.Ytekgegpholcdcaa.NdD Go.Proofs.Ytekgegpholcdcaa.NdE Go.Proofs.Ytekgegpholcdcaa.NdG Go.Proofs.Ytekgegpholcdcaa.NdI Go.Proofs.Ytekgegpholcdcaa.NdJ
set_option linter.unusedVariables false
set_option linter.unusedSimpArgs false
theorem mk_two (V ba bb : Nat) (L : List Nd) (x lo hi : Int) (hab : ba ≤ bb) (hl : L.length ≤ ba) :
    (mkS ⟨V, ba, false, L⟩ x lo hi = ⟨V, ba, true, L⟩ ∧ mkE ⟨V, ba, false, L⟩ x lo hi = 8 ∧ L.length = ba ∧ ba ≤ (mkS ⟨V, bb, false, L⟩ x lo hi).L.length) ∨
    (∃ L', mkS ⟨V, ba, false, L⟩ x lo hi = ⟨V, ba, false, L'⟩ ∧ mkS ⟨V, bb, false, L⟩ x lo hi = ⟨V, bb, false, L'⟩ ∧ mkA ⟨V, ba, false, L⟩ x lo hi = mkA ⟨V, bb, false, L⟩ x lo hi ∧ mkE ⟨V, ba, false, L⟩ x lo hi = mkE ⟨V, bb, false, L⟩ x lo hi ∧ L'.length ≤ ba ∧ L'.length ≤ L.length + 1) := by
  have hmm : mayB ⟨V, ba, false, L⟩ x lo hi = mayB ⟨V, bb, false, L⟩ x lo hi := rfl
  unfold mkS mkE mkA
  rw [hmm]
  cases hm : mayB ⟨V, bb, false, L⟩ x lo hi with
  | false => exact Or.inr ⟨L, by simp, by simp, by simp, by simp, hl, by omega⟩
  | true =>
    by_cases he : lo = hi
    · exact Or.inr ⟨L, by simp [he], by simp [he], by simp [he], by simp [he], hl, by omega⟩
    · cases hp : posN L ⟨x, lo, hi⟩ with
      | some i => exact Or.inr ⟨L, by simp [he, hp], by simp [he, hp], by simp [he, hp], by simp [he, hp], hl, by omega⟩
      | none =>
        by_cases hb : ba ≤ L.length
        · refine Or.inl ⟨by simp [he, hp, hb], by simp [he, hp, hb], by omega, ?_⟩
          by_cases hc : bb ≤ L.length
          · simp [he, hp, hc]; omega
          · simp [he, hp, hc]; omega
        · have hc : ¬ bb ≤ L.length := by omega
          exact Or.inr ⟨L ++ [⟨x, lo, hi⟩], by simp [he, hp, hb], by simp [he, hp, hc], by simp [he, hp, hb, hc], by simp [he, hp, hb, hc], by simp; omega, by simp⟩
/-- A slice value that reads as nodes, each number in its range. -/
def NG (w : World) (A : Option Addr) (L : List Nd) : Prop :=
  0 < L.length → ∃ g o, A = some ⟨g, o, none⟩ ∧ g < w.heap.size ∧ ∀ j, (h : j < L.length) → w.cell? ⟨g, o + j * 3, none⟩ = some (.int .i64 L[j].v) ∧ w.cell? ⟨g, o + j * 3 + 1, none⟩ = some (.int .i64 L[j].lo) ∧ w.cell? ⟨g, o + j * 3 + 2, none⟩ = some (.int .i64 L[j].hi)
def InN (L : List Nd) : Prop := ∀ x ∈ L, (-9223372036854775808 ≤ x.lo ∧ x.lo ≤ 9223372036854775807) ∧ -9223372036854775808 ≤ x.hi ∧ x.hi ≤ 9223372036854775807
theorem NG.below {w w' : World} {A : Option Addr} {L : List Nd} (h : NG w A L) (hb : Below w.heap.size w w') : NG w' A L := fun hp => by
  obtain ⟨g, o, hA, hg, hc⟩ := h hp
  have e : ∀ o, w'.cell? ⟨g, o, none⟩ = w.cell? ⟨g, o, none⟩ := fun o => hb.cell (p := ⟨g, o, none⟩) hg
  exact ⟨g, o, hA, Nat.lt_of_lt_of_le hg hb.size, fun j hj => by rw [e, e, e]; exact hc j hj⟩
theorem NG.take {w : World} {A : Option Addr} {L : List Nd} (h : NG w A L) (m : Nat) : NG w A (L.take m) := fun hp => by
  obtain ⟨g, o, hA, hg, hc⟩ := h (by simp at hp; omega)
  refine ⟨g, o, hA, hg, fun j hj => ?_⟩
  rw [List.getElem_take]
  exact hc j (by simp at hj; omega)
theorem InN.take {L : List Nd} (h : InN L) (m : Nat) : InN (L.take m) := fun x hx => h x (List.mem_of_mem_take hx)
set_option maxHeartbeats 8000000 in
set_option maxRecDepth 100000 in
theorem budgets (vars u1 u2 : Int) (hu1 : 0 ≤ u1) (hu2 : 0 ≤ u2) (A : Option Addr) (ca : Nat) (L : List Nd) (w : World) (hL : L.length ≤ maxLen) (hca : L.length ≤ ca) (hm : ca ≤ maxLen) (hA : NG w A L) (hI : InN L) : Calls Try.prog 5 #[.int .i64 vars, .agg #[.int .u64 u1, .int .u64 u2], .slice A L.length ca] w fun e w' => e = .returned (.bool true) ∧ Below w.heap.size w w' := by
  unfold maxLen at hL hm
  obtain ⟨m, hmm⟩ : ∃ m, min L.length 60 = m := ⟨_, rfl⟩
  have hmi : min (L.length : Int) 60 = (m : Int) := by omega
  have hm60 : m ≤ 60 := by omega
  have hmc : m ≤ ca := by omega
  have hTl : (L.take m).length = m := by simp; omega
  have HA := Lib.hid (hA.take m)
  have HI := Lib.hid (hI.take m)
  have HLV := Lib.hid lives
  clear hmm hA hI
  generalize L.take m = T at *
  have HTl := Lib.hid hTl
  clear hTl
  generalize L.length = ln at *
  obtain ⟨r1, hr1⟩ : ∃ r1 : Nat, u1.tmod 60 = (r1 : Int) := ⟨(u1.tmod 60).toNat, by rw [Int.tmod_eq_emod_of_nonneg hu1]; omega⟩
  obtain ⟨r2, hr2⟩ : ∃ r2 : Nat, u2.tmod 60 = (r2 : Int) := ⟨(u2.tmod 60).toNat, by rw [Int.tmod_eq_emod_of_nonneg hu2]; omega⟩
  have h1 : r1 < 60 := by rw [Int.tmod_eq_emod_of_nonneg hu1] at hr1; omega
  have h2 : r2 < 60 := by rw [Int.tmod_eq_emod_of_nonneg hu2] at hr2; omega
  clear hu1 hu2
  have HN1 := Lib.hid (fun w => new_ vars r1 (by omega) w)
  have HN2 := Lib.hid (fun w => new_ vars ((r1 : Int) + r2) (by omega) w)
  unfold NdG.NewPost at HN1 HN2
  obtain ⟨V, hV⟩ : ∃ V, (max 0 (min vars 61)).toNat = V := ⟨_, rfl⟩
  rw [show NdG.start vars r1 = ⟨V, r1, false, []⟩ by unfold NdG.start; rw [hV, show (max 0 (r1 : Int)).toNat = r1 by omega]] at HN1
  rw [show NdG.start vars ((r1 : Int) + r2) = ⟨V, r1 + r2, false, []⟩ by unfold NdG.start; rw [hV, show (max 0 ((r1 : Int) + r2)).toNat = r1 + r2 by omega]] at HN2
  clear hV
  go_enter Try.func5, Try.ntmps5
  go_wp2_with fail
  have hq0 : ∀ o, (w.alloc (.cells #[.int .u64 u1, .int .u64 u2] 46)).cell? ⟨w.heap.size, o, none⟩ = (#[.int .u64 u1, .int .u64 u2] : Array Value)[o]? := fun o => Lib.cell_of_heap (heap_alloc_new w _) o
  have hsz : w.heap.size < (w.alloc (.cells #[.int .u64 u1, .int .u64 u2] 46)).heap.size := by simp
  have HB := Lib.hid ((Below.refl w.heap.size w).alloc (Nat.le_refl _) (.cells #[.int .u64 u1, .int .u64 u2] 46))
  generalize w.alloc (.cells #[.int .u64 u1, .int .u64 u2] 46) = w0 at *
  obtain ⟨bq, hbq⟩ : ∃ bq, w.heap.size = bq := ⟨_, rfl⟩
  have HZ : Hid (∀ x, Below w0.heap.size w0 x → (Below w0.heap.size w0 x ∧ ∀ o, x.cell? ⟨bq, o, none⟩ = (#[.int .u64 u1, .int .u64 u2] : Array Value)[o]?)) := Lib.hid (fun x hb => ⟨hb, fun o => by rw [← hbq]; exact (hb.cell (p := ⟨w.heap.size, o, none⟩) hsz).trans (hq0 o)⟩)
  simp only [hbq] at hq0 hsz ⊢
  have hst := HZ.out _ ((Below.refl w0.heap.size w0).drew)
  clear hq0 hsz hbq
  have hw1 : IntKind.i64.wrap (r2 : Int) = r2 := by rw [IntKind.wrap_i64]; omega
  have hw2 : IntKind.i64.wrap ((r1 : Int) + r2) = (r1 : Int) + r2 := by rw [IntKind.wrap_i64]; omega
  go_region_held3 (fun x => Below w0.heap.size w0 x ∧ ∀ o, x.cell? ⟨bq, o, none⟩ = (#[.int .u64 u1, .int .u64 u2] : Array Value)[o]?)
    (first | with_reducible exact hst | with_reducible assumption | exact HZ.out _ (Below.trans (by apply And.left; with_reducible assumption) (Below.mono (by with_reducible assumption) (Below.size (by apply And.left; with_reducible assumption)))))
    (first | ((with_reducible refine (HN1.out _).mono ?_); rintro e x1 ⟨Ba, Ra, rfl, hTa, hba, hBa, hRa⟩) | ((with_reducible refine (HN2.out _).mono ?_); rintro e x2 ⟨Bb, Rb, rfl, hTb, hbb, hBb, hRb⟩))
  all_goals rename_i hHeld
  have hsa : Ba < x1.heap.size := hTa.tb.bl
  have hsr : Ra < x1.heap.size := hTa.tb.rl
  have hBa' : w0.heap.size ≤ Ba := hBa
  have hRa' : w0.heap.size ≤ Ra := hRa
  have hw0 := HB.out.size
  have hx1 : w0.heap.size ≤ x1.heap.size := hba.size
  have HTa := Lib.hid (hTa.below hbb)
  have HTb := Lib.hid hTb
  have HB2 := Lib.hid (HB.out.trans (hHeld.1.mono HB.out.size))
  have HD := Lib.hid (show ∀ k, Foot Ba Ra (.slice none 0 0) k → ¬ Foot Bb Rb (.slice none 0 0) k from fun k h1 h2 => by
    rcases h1 with rfl | rfl | h1
    · rcases h2 with rfl | rfl | h2
      · omega
      · omega
      · cases h2
    · rcases h2 with rfl | rfl | h2
      · omega
      · omega
      · cases h2
    · cases h1)
  have HF := Lib.hid (show ∀ k, Foot Ba Ra (.slice none 0 0) k ∨ Foot Bb Rb (.slice none 0 0) k → w.heap.size ≤ k from fun k h => by
    rcases h with (rfl | rfl | h) | (rfl | rfl | h)
    · omega
    · omega
    · cases h
    · omega
    · omega
    · cases h)
  clear hTa hTb hba hbb hHeld hst hBa hRa hBb hRb hBa' hRa' hsa hsr hx1 HB HZ HN1 HN2 hr1 hr2 hw1 hw2
  go_wp2_with fail
  go_loopw [44] (fun i wr => ∃ (j : Nat) (N : List Nd) (Ra : Nat) (va : Value) (ma : Nat) (Qa : Nat → Nat) (Rb : Nat) (vb : Value) (mb : Nat) (Qb : Nat → Nat), j ≤ m ∧ i = .int .i64 j ∧ N.length ≤ j ∧ N.length ≤ r1 ∧ Hid (Tk wr Ba Ra va ma Qa ⟨V, r1, false, N⟩) ∧ Hid (Tk wr Bb Rb vb mb Qb ⟨V, r1 + r2, false, N⟩) ∧ Hid (∀ k, Foot Ba Ra va k → ¬ Foot Bb Rb vb k) ∧ Hid (∀ k, Foot Ba Ra va k ∨ Foot Bb Rb vb k → w.heap.size ≤ k) ∧ Below w.heap.size w wr) (fun i _ => m - (RowKit.intOf i).toNat)
  case atStart => exact ⟨0, [], _, _, _, _, _, _, _, _, by omega, rfl, by simp, by simp, HTa, HTb, HD, HF, HB2.out⟩
  case round =>
    clear HTa HTb HD HF HB2 hw0
    obtain ⟨j, N, Ra, va, ma, Qa, Rb, vb, mb, Qb, hj, rfl, hNj, hNr, hTa, hTb, hD, hF, hb⟩ := hrel
    by_cases hlt : j < m
    · have d1 : decide ((j : Int) < m) = true := by simp; omega
      have q0 : (0 : Int) ≤ j := by omega
      have q1 : (j : Int) < m := by omega
      have hjT : j < T.length := by rw [HTl.out]; exact hlt
      obtain ⟨g, o, rfl, hg, hcell⟩ := (HA.out.below hb) (by omega)
      obtain ⟨a0, a1, a2⟩ := hcell j hjT
      obtain ⟨⟨i1, i2⟩, i3, i4⟩ := HI.out _ (List.getElem_mem hjT)
      generalize T[j] = u at *
      obtain ⟨x, lo, hi⟩ := u
      simp only at a0 a1 a2 i1 i2 i3 i4
      have hbx := (Below.refl wr.heap.size wr).alloc (Nat.le_refl _) (.cells #[.int .i64 x, .int .i64 lo, .int .i64 hi] 28)
      have hx0 := heap_alloc_new wr (.cells #[.int .i64 x, .int .i64 lo, .int .i64 hi] 28)
      generalize hW : wr.alloc (.cells #[.int .i64 x, .int .i64 lo, .int .i64 hi] 28) = w3 at *
      have hz3 : w3.heap.size = wr.heap.size + 1 := by rw [← hW]; simp
      have y0 := fun o => Lib.cell_of_heap hx0 o
      have HTa3 := Lib.hid (hTa.out.below hbx)
      have HTb3 := Lib.hid (hTb.out.below hbx)
      have HB3 := Lib.hid (hb.trans (hbx.mono hb.size))
      have HX0 := Lib.hid hx0
      have hfa : ∀ k, Foot Ba Ra va k → k < wr.heap.size := fun k hk => hTa.out.tb.foot hk
      have hfb : ∀ k, Foot Bb Rb vb k → k < wr.heap.size := fun k hk => hTb.out.tb.foot hk
      have HMa := Lib.hid (make_ x lo hi i1 i2 i3 i4 (by show N.length < 90; omega) HTa3.out)
      unfold MakePost at HMa
      have HMb := Lib.hid (fun w (h : Tk w Bb Rb vb mb Qb ⟨V, r1 + r2, false, N⟩) => make_ x lo hi i1 i2 i3 i4 (by show N.length < 90; omega) h)
      unfold MakePost at HMb
      have H2 := Lib.hid (mk_two V r1 (r1 + r2) N x lo hi (by omega) hNr)
      clear hcell hbx hx0 hb
      go_wp2_with fail
      refine HMa.out.mono ?_
      rintro e w4 ⟨rfl, Ra4, va4, ma4, Qa4, hTa4, hFa4, hka4⟩
      have hz4 := hFa4.size
      have HTb4 := Lib.hid (HTb3.out.frm hFa4 (fun k h1 h2 => hD.out k h2 h1))
      have HX4 := Lib.hid ((hFa4.block wr.heap.size (by omega) (fun h => by have := hfa _ h; omega)).trans HX0.out)
      have HB4 := Lib.hid (Frm.below HB3.out hFa4 (fun k h => hF.out k (Or.inl h)))
      have y4 := fun o => Lib.cell_of_heap HX4.out o
      clear hW y0
      go_wp2_with fail
      refine (HMb.out _ HTb4.out).mono ?_
      rintro e w5 ⟨rfl, Rb5, vb5, mb5, Qb5, hTb5, hFb5, hkb5⟩
      have HTa5 := Lib.hid (hTa4.frm hFb5 (fun k h1 h2 => by
        rcases hka4 k h1 with h | h
        · exact hD.out k h h2
        · have := hfb k h2
          omega))
      have HTb5 := Lib.hid hTb5
      have HB5 := Lib.hid (Frm.below HB4.out hFb5 (fun k h => hF.out k (Or.inr h)))
      have hwr := HB3.out.size
      have HD5 := Lib.hid (show ∀ k, Foot Ba Ra4 va4 k → ¬ Foot Bb Rb5 vb5 k from fun k h1 h2 => by
        have hk4 : k < w4.heap.size := hTa4.tb.foot h1
        rcases hkb5 k h2 with h | h
        · rcases hka4 k h1 with h' | h'
          · exact hD.out k h' h
          · have := hfb k h
            omega
        · omega)
      have hw3 : w.heap.size ≤ w3.heap.size := HB3.out.size
      have HF5 := Lib.hid (show ∀ k, Foot Ba Ra4 va4 k ∨ Foot Bb Rb5 vb5 k → w.heap.size ≤ k from fun k h => by
        rcases h with h | h
        · rcases hka4 k h with h' | h'
          · exact hF.out k (Or.inl h')
          · omega
        · rcases hkb5 k h with h' | h'
          · exact hF.out k (Or.inr h')
          · omega)
      clear hTa4 hFa4 hka4 hTb5 hFb5 hkb5 y4 hfa hfb
      rcases H2.out with ⟨e1, e2, e3, e4⟩ | ⟨N', e1, e2, e3, e4, e5, e6⟩
      · have HLb := Lib.hid (len_ HTb5.out.tb)
        rw [e1] at HTa5
        have HLa := Lib.hid (len_ HTa5.out.tb)
        have HSa := Lib.hid (spent_ HTa5.out.tb)
        rw [show ((⟨V, r1, true, N⟩ : St).L.length : Int) = (r1 : Int) by show (N.length : Int) = r1; omega] at HLa
        rw [show (⟨V, r1, true, N⟩ : St).spent = true from rfl] at HSa
        rw [e2]
        generalize (mkS ⟨V, r1 + r2, false, N⟩ x lo hi).L.length = lb at *
        have z1 : decide ((r1 : Int) ≤ lb) = true := by simp; omega
        have z2 : decide (r1 ≤ lb) = true := by simp; omega
        generalize mkA ⟨V, r1, false, N⟩ x lo hi = A1 at *
        generalize mkA ⟨V, r1 + r2, false, N⟩ x lo hi = A2 at *
        generalize mkE ⟨V, r1 + r2, false, N⟩ x lo hi = E2 at *
        clear e1 e2 e3 e4 H2
        go_wp2_with fail
        refine HSa.out.mono ?_
        rintro e w6 ⟨rfl, rfl⟩
        go_wp2_with fail
        refine HLa.out.mono ?_
        rintro e w6 ⟨rfl, rfl⟩
        go_wp2_with fail
        refine HLb.out.mono ?_
        rintro e w6 ⟨rfl, rfl⟩
        go_wp2_with fail
        refine (HLV.out _).mono ?_
        rintro e w6 ⟨rfl, hb6⟩
        have HB6 := Lib.hid (HB5.out.trans (hb6.mono HB5.out.size))
        clear hb6
        go_wp2_with fail
        go_ret
        exact ⟨rfl, HB6.out⟩
      · rw [e1] at HTa5
        rw [e2] at HTb5
        have HLa := Lib.hid (len_ HTa5.out.tb)
        have HLb := Lib.hid (len_ HTb5.out.tb)
        have HSa := Lib.hid (spent_ HTa5.out.tb)
        obtain ⟨ln', hln'⟩ : ∃ k, N'.length = k := ⟨_, rfl⟩
        rw [show ((⟨V, r1, false, N'⟩ : St).L.length : Int) = (ln' : Int) by show (N'.length : Int) = ln'; omega] at HLa
        rw [show ((⟨V, r1 + r2, false, N'⟩ : St).L.length : Int) = (ln' : Int) by show (N'.length : Int) = ln'; omega] at HLb
        rw [show (⟨V, r1, false, N'⟩ : St).spent = false from rfl] at HSa
        rw [e3, e4]
        have HNl : Hid (N'.length ≤ j + 1 ∧ N'.length ≤ r1) := Lib.hid ⟨by omega, e5⟩
        generalize mkA ⟨V, r1 + r2, false, N⟩ x lo hi = A2 at *
        generalize mkE ⟨V, r1 + r2, false, N⟩ x lo hi = E2 at *
        have z1 : ((A2 : Int) != A2) = false := by simp
        have z2 : ((E2 : Int) != E2) = false := by simp
        have z3 : ((ln' : Int) != ln') = false := by simp
        have z4 : decide ((r1 : Int) < ln') = false := by simp; omega
        have z5 : decide (r1 < ln') = false := by simp; omega
        clear e1 e2 e3 e4 H2 hln'
        go_wp2_with fail
        refine HSa.out.mono ?_
        rintro e w6 ⟨rfl, rfl⟩
        go_wp2_with fail
        refine HLa.out.mono ?_
        rintro e w6 ⟨rfl, rfl⟩
        go_wp2_with fail
        refine HLb.out.mono ?_
        rintro e w6 ⟨rfl, rfl⟩
        go_wp2_with fail
        refine HLa.out.mono ?_
        rintro e w6 ⟨rfl, rfl⟩
        go_wp2_with fail
        go_roundw
        case rel => exact ⟨j + 1, N', _, _, _, _, _, _, _, _, by omega, by go_num, HNl.out.1, HNl.out.2, HTa5, HTb5, HD5, HF5, HB5.out⟩
        case measure => simp [RowKit.intOf]; omega
    · have d1 : decide ((j : Int) < m) = false := by simp; omega
      have HB3 := Lib.hid hb
      clear hb hTa hTb hD hF
      go_wp2_with fail
      refine (HLV.out _).mono ?_
      rintro e w5 ⟨rfl, hb5⟩
      have HB5 := Lib.hid (HB3.out.trans (hb5.mono HB3.out.size))
      clear hb5
      go_wp2_with fail
      go_ret
      exact ⟨rfl, HB5.out⟩
end Go.Proofs.Ytekgegpholcdcaa.NdK
