/- Diagrams made of one another, with two budgets: the walk of IteNodes. -/
import Derived.Test.YtobphpgembmaaaaItW
namespace Go.Proofs.Ytobphpgembmaaaa.ItX
open Go.RowKit Go.Lib Go.Proofs Go.Proofs.Ytobphpgembmaaaa.CaA Go.Proofs.Ytobphpgembmaaaa.NdA Go.Proofs.Ytobphpgembmaaaa.NdB Go.Proofs.Ytobphpgembmaaaa.NdC Go.Proofs.Ytobphpgembmaaaa.NdE Go.Proofs.Ytobphpgembmaaaa.NdG Go.Proofs.Ytobphpgembmaaaa.NdI Go.Proofs.Ytobphpgembmaaaa.ItA Go.Proofs.Ytobphpgembmaaaa.ItB Go.Proofs.Ytobphpgembmaaaa.ItD Go.Proofs.Ytobphpgembmaaaa.ItF Go.Proofs.Ytobphpgembmaaaa.ItH Go.Proofs.Ytobphpgembmaaaa.ItI Go.Proofs.Ytobphpgembmaaaa.ItK Go.Proofs.Ytobphpgembmaaaa.ItL Go.Proofs.Ytobphpgembmaaaa.ItM Go.Proofs.Ytobphpgembmaaaa.ItN Go.Proofs.Ytobphpgembmaaaa.ItP Go.Proofs.Ytobphpgembmaaaa.ItQ Go.Proofs.Ytobphpgembmaaaa.ItR Go.Proofs.Ytobphpgembmaaaa.ItU Go.Proofs.Ytobphpgembmaaaa.ItV Go.Proofs.Ytobphpgembmaaaa.ItW
set_option linter.unusedVariables false
set_option linter.unusedSimpArgs false
/-- What is known of what was played, once it is played. -/
structure Fin (m : Nat) (D : Nat) (x : Bx) (c : Nat) (s : St) (bl : Nat) (lv : List Int) (w : World) : Prop where
  bd : Bd w D x c s (192 * m)
  len : lv.length = m + 2
  ll : bl < w.heap.size
  cells : ∀ i, (h : i < lv.length) → w.cell? ⟨bl, i, none⟩ = some (.int .i64 lv[i])
theorem Fin.keep {m D : Nat} {x : Bx} {c : Nat} {s : St} {bl : Nat} {lv : List Int} {w w' : World} (H : Fin m D x c s bl lv w) (hs : w.heap.size ≤ w'.heap.size) (h1 : ∀ j, FootD D x j → w'.heap[j]? = w.heap[j]?) (h2 : w'.heap[bl]? = w.heap[bl]?) : Fin m D x c s bl lv w' :=
  ⟨H.bd.keep hs h1, H.len, Nat.lt_of_lt_of_le H.ll hs, fun i h => (World.cell?_of_block (w := w) h2).trans (H.cells i h)⟩
theorem Fin.below {m D : Nat} {x : Bx} {c : Nat} {s : St} {bl : Nat} {lv : List Int} {w w' : World} (H : Fin m D x c s bl lv w) (hb : Below w.heap.size w w') : Fin m D x c s bl lv w' := H.keep hb.size (fun j hj => hb.block j (H.bd.foot hj)) (hb.block bl H.ll)
theorem fin_of {K b D : Nat} {x0 x : Bx} {w0 wr : World} {ops : List Op4} {m : Nat} {vl vr : Value} {lv : List Int} {gs : List Nat} {s : St} (H : PlayAt K b D x0 w0 ops m vl vr wr lv gs x s) : ∃ bl cl, vl = .slice (some ⟨bl, 0, none⟩) (m + 2) cl ∧ Fin m D x (upK K ops m).c s bl lv wr ∧ w0.heap.size ≤ bl := by
  obtain ⟨bl, cl, br, cr, rfl, rfl, l1, l2, f1, f2, h1, h2⟩ := play_rows H
  exact ⟨bl, cl, rfl, ⟨H.bd, H.len, l1, fun i h => h1 i (by rw [← H.len]; exact h)⟩, (H.ol.lt bl rfl).1⟩
theorem shl_small (c K : Nat) (hc : c ≤ 90) (hK : K ≤ 6) : (c : Int) * 2 ^ (K + 1) ≤ 11520 ∧ ((c * 2 ^ (K + 1) : Nat) : Int) = (c : Int) * 2 ^ (K + 1) := by
  have h : 2 ^ (K + 1) ≤ 2 ^ 7 := Nat.pow_le_pow_right (by omega) (by omega)
  have h2 : c * 2 ^ (K + 1) ≤ 90 * 128 := Nat.mul_le_mul hc h
  have e : ((c * 2 ^ (K + 1) : Nat) : Int) = (c : Int) * 2 ^ (K + 1) := by
    rw [Int.natCast_mul, Int.natCast_pow]
    rfl
  exact ⟨by omega, e⟩
set_option maxHeartbeats 16000000 in
set_option maxRecDepth 100000 in
theorem nodes (v : Nat) (hv : v < 18446744073709551616) (bu : Nat) (hbu : bu < 18446744073709551616) (A : Option Addr) (ca : Nat) (ops : List Op4) (W : World) (hops : ∀ o ∈ ops, o.InR) (hA : OpsAt W A ops) :
    Calls Try.prog 4 #[.int .u64 v, .int .u64 bu, .slice A ops.length ca] W fun e w' => e = .returned (.bool true) ∧ Below W.heap.size W w' := by
  have HMany := Lib.hid (many_ v hv W)
  obtain ⟨K, hK⟩ : ∃ K, v % 7 = K := ⟨_, rfl⟩
  have hK6 : K ≤ 6 := by omega
  rw [hK] at HMany
  obtain ⟨be, hbe⟩ : ∃ be : Nat, (bu : Int) % 80 = be := ⟨((bu : Int) % 80).toNat, by omega⟩
  have hbe80 : be < 80 := by omega
  have HTM : Hid ((bu : Int).tmod 80 = (be : Int)) := Lib.hid ((Int.tmod_eq_emod_of_nonneg (Int.natCast_nonneg bu)).trans hbe)
  have HNew := Lib.hid (fun w => ItK.new_ K 1048576 (by omega) (by omega) w)
  have HNewE := Lib.hid (fun w => ItK.new_ K be (by omega) (by omega) w)
  unfold ItK.NewPost at HNew HNewE
  have HPlay := Lib.hid (fun b D x0 w1 (hb : Below W.heap.size W w1) (hf : ∀ j, FootD D x0 j → W.heap.size ≤ j) (H : Bd w1 D x0 0 ⟨K, b, false, []⟩ 0) => ItT.play_ K b D hK6 x0 A ca ops w1 hops (ops_below hA hb) (ops_off (w1 := w1) hA hf) H)
  unfold PlayPost at HPlay
  have HLv := Lib.hid (fun w => ItU.lives w)
  have HK6 := Lib.hid hK6
  obtain ⟨m, hm⟩ : ∃ m, min 30 ops.length = m := ⟨_, rfl⟩
  have hm1 : m ≤ ops.length := by omega
  have hm2 : m ≤ 30 := by omega
  have HMm := Lib.hid (And.intro hm1 hm2)
  rw [hm] at HPlay
  have HBE := Lib.hid hbe
  have HB80 := Lib.hid hbe80
  clear hops hA hK hK6 hv hm hm1 hm2 hbu
  go_enter Try.func4, Try.ntmps4
  go_wp2_with fail
  refine HMany.out.mono ?_
  rintro e w' ⟨rfl, rfl⟩
  clear HMany
  go_wp2_with fail
  refine (HNew.out _).mono ?_
  rintro e w1 ⟨D, x0, rfl, hB, hb, hf⟩
  have HB1 := Lib.hid (And.intro hB (And.intro hb hf))
  clear hB hb hf HNew
  go_wp2_with fail
  refine (HNewE.out _).mono ?_
  rintro e w2 ⟨E, y0, rfl, hBe, hbe2, hfe⟩
  have hz1 := HB1.out.2.1.size
  have hz2 := hbe2.size
  have HB2 := Lib.hid (And.intro (HB1.out.1.below hbe2) (And.intro (HB1.out.2.1.trans (hbe2.mono hz1)) (And.intro hBe hfe)))
  have HP1 := Lib.hid (HPlay.out 1048576 D x0 w2 HB2.out.2.1 HB1.out.2.2 HB2.out.1)
  clear hBe hbe2 hfe HNewE
  go_wp2_with fail
  refine HP1.out.mono ?_
  rintro e w3 ⟨vl, vr, lv, gs, x, s, rfl, hPl⟩
  obtain ⟨bl, cl, rfl, hFin, hbl⟩ := fin_of hPl
  have HPl := Lib.hid hPl
  have HFin := Lib.hid (And.intro hFin hbl)
  -- e's own at the third world
  have hEf : ∀ j, FootD E y0 j → w1.heap.size ≤ j ∧ j < w2.heap.size := fun j hj => ⟨HB2.out.2.2.2 j hj, HB2.out.2.2.1.foot hj⟩
  have hE3 : Bd w3 E y0 0 ⟨K, be, false, []⟩ 0 := HB2.out.2.2.1.keep hPl.frm.size (fun j hj => hPl.frm.block j (hEf j hj).2 (fun h => by
    have := HB1.out.1.foot h
    have := (hEf j hj).1
    omega))
  have hW3 : Below W.heap.size W w3 := Frm.below HB2.out.2.1 hPl.frm HB1.out.2.2
  have HW3 := Lib.hid hW3
  have HP2 := Lib.hid (HPlay.out be E y0 w3 hW3 (fun j hj => by have := (hEf j hj).1; omega) hE3)
  have HEf := Lib.hid hEf
  clear hPl hFin hbl hEf hE3 hW3 HP1 HPlay
  go_wp2_with fail
  refine HP2.out.mono ?_
  rintro e w4 ⟨vle, vre, lve, gse, y, se, rfl, hPe⟩
  obtain ⟨ble, cle, rfl, hFe, hble⟩ := fin_of hPe
  have hU := upK_inv HK6.out (ops := ops) m HMm.out.1 HMm.out.2
  have hUl := upK_len (K := K) (ops := ops) m HMm.out.1
  have hz3 := HPl.out.frm.size
  have hFd4 : Fin m D x (upK K ops m).c s bl lv w4 := HFin.out.1.keep hPe.frm.size (fun j hj => hPe.frm.block j (HFin.out.1.bd.foot hj) (fun h => by
    have h1 := HEf.out j h
    rcases HPl.out.foot j hj with e | e
    · have := HB1.out.1.foot e; omega
    · omega)) (hPe.frm.block bl HFin.out.1.ll (fun h => by have := HEf.out bl h; have := HFin.out.2; omega))
  have hW4 : Below W.heap.size W w4 := Frm.below HW3.out hPe.frm (fun j hj => by have := (HEf.out j hj).1; omega)
  obtain ⟨_, hs⟩ := res_un HPl.out.res rfl (by show (upK K ops m).M.length ≤ 1048576; omega)
  have hlv := HPl.out.same (by rw [hs])
  have hle : lve.length = m + 2 := hPe.len
  have hfew := hU.1.few
  have hse : (se.spent = false → lve = (upK K ops m).l) ∧ se.L.length ≤ be ∧ se.spent = decide (be < (upK K ops m).M.length) := by
    refine ⟨hPe.same, ?_⟩
    rcases hPe.res with ⟨_, h2, _, h4⟩ | ⟨h1, _, h3⟩
    · have h2' : (upK K ops m).M.length ≤ be := h2
      rw [h4]
      exact ⟨h2', by simp; omega⟩
    · rcases h1 with h1 | h1
      · cases h1
      · have h1' : be < (upK K ops m).M.length := h1
        have h5 : se.L.length = be := h3.len
        exact ⟨by omega, by rw [h3.sp]; simp; exact h1'⟩
  obtain ⟨hs1, hs2, hs3⟩ := hse
  have HFd := Lib.hid hFd4
  have HFe := Lib.hid hFe
  have HW4 := Lib.hid hW4
  have hsL : s.L.length = (upK K ops m).M.length := by rw [hs]
  obtain ⟨cc, hcc⟩ : ∃ cc, (upK K ops m).c = cc := ⟨_, rfl⟩
  simp only [hcc]
  rw [hcc] at hfew hUl
  obtain ⟨Ld, hLd⟩ : ∃ Ld, (upK K ops m).M.length = Ld := ⟨_, rfl⟩
  rw [hLd] at hfew hs3 hsL
  obtain ⟨Le, hLe⟩ : ∃ Le, se.L.length = Le := ⟨_, rfl⟩
  rw [hLe] at hs2
  have HLd := Lib.hid (fun w' (hb : Below w4.heap.size w4 w') => ItB.len_ (HFd.out.below hb).bd)
  have HLe := Lib.hid (fun w' (hb : Below w4.heap.size w4 w') => ItB.len_ (HFe.out.below hb).bd)
  have HSe := Lib.hid (fun w' (hb : Below w4.heap.size w4 w') => ItB.spent_ (HFe.out.below hb).bd)
  rw [hsL] at HLd
  rw [hLe] at HLe
  have hcc90 : cc ≤ 90 := by have := hUl.2; have := HMm.out.2; omega
  have hshl := shl_small cc K hcc90 HK6.out
  have hpw : cc * 2 ^ K ≤ cc * 2 ^ (K + 1) := Nat.mul_le_mul_left _ (Nat.pow_le_pow_right (by omega) (by omega))
  have hle2 : (Ld : Int) ≤ (cc : Int) * 2 ^ (K + 1) := by omega
  obtain ⟨P, hP⟩ : ∃ P, cc * 2 ^ (K + 1) = P := ⟨_, rfl⟩
  have hPi : (cc : Int) * 2 ^ (K + 1) = (P : Int) := by rw [← hshl.2, hP]
  have hPb : P ≤ 11520 := by have := hshl.1; omega
  have sh1 : IntKind.i64.wrap ((cc : Int) * 2 ^ (K + 1)) = (P : Int) := by rw [hPi, IntKind.wrap_i64]; omega
  have sh2 : IntKind.i64.wrap ((cc : Int) * 2 ^ ((K : Int) + 1).toNat) = (P : Int) := by rw [show ((K : Int) + 1).toNat = K + 1 by omega]; exact sh1
  have hK6 := HK6.out
  have wK : IntKind.i64.wrap ((K : Int) + 1) = (K : Int) + 1 := by rw [IntKind.wrap_i64]; omega
  have hsh : Op.shift BinOp.shl IntKind.i64 (cc : Int) IntKind.i64 ((K : Int) + 1) = pure (.int .i64 (P : Int)) := by
    have h := shift_shl_i64 (yk := .i64) (x := (cc : Int)) (y := (K : Int) + 1) (by omega) (by omega)
    rw [h, sh2]
  have hgt : decide (P < Ld) = false := decide_eq_false (by omega)
  have hgt' : decide ((P : Int) < Ld) = false := by simp; omega
  have hgt2 : decide ((Ld : Int) > P) = false := hgt'
  have hge : decide (be < Le) = false := decide_eq_false (by omega)
  have hge' : decide ((be : Int) < Le) = false := by simp; omega
  have hbe80 := HB80.out
  have hbe := HBE.out
  have wbe : IntKind.i64.wrap (be : Int) = be := by rw [IntKind.wrap_i64]; omega
  have wbe' : wrap64 (be : Int) = be := by unfold wrap64; omega
  have htm := HTM.out
  have wbe2 : IntKind.i64.wrap ((bu : Int) % 80) = be := by rw [hbe]; exact wbe
  have HS := Lib.hid (And.intro hs1 (And.intro hs3 (And.intro hlv hle)))
  have hll : lv.length = m + 2 := HFin.out.1.len
  have HUl := Lib.hid hUl.1
  have hst : Below w4.heap.size w4 w4.drew := (Below.refl w4.heap.size w4).drew
  obtain ⟨bs, hbs⟩ : ∃ bs, decide (be < Ld) = bs := ⟨_, rfl⟩
  rw [hs3, hbs] at HSe
  have hbs' : decide ((be : Int) < Ld) = bs := by rw [← hbs]; simp
  have HBS := Lib.hid hbs
  clear hPe hFe hble hU hUl hz3 hFd4 hW4 hs hlv hle hfew hs1 hs3 hcc hLd hLe hz1 hz2 HP2 HB2 HB1 HPl HFin HW3 HEf hpw hshl hle2 hP hPi hsL hs2
  have HLdq := Lib.hid (fun q => HLd.out _ (below_drewN (Below.refl _ w4) q))
  have HLeq := Lib.hid (fun q => HLe.out _ (below_drewN (Below.refl _ w4) q))
  have HSeq := Lib.hid (fun q => HSe.out _ (below_drewN (Below.refl _ w4) q))
  cases bs
  · as_aux_lemma =>
      go_wp2_with fail
      go_region_held3 (fun w' => Below w4.heap.size w4 w')
        (first | with_reducible exact hst | with_reducible assumption)
        (first | ((with_reducible refine (HLd.out _ (by with_reducible assumption)).mono ?_); rintro e x1 ⟨rfl, rfl⟩) | ((with_reducible refine (HLe.out _ (by with_reducible assumption)).mono ?_); rintro e x1 ⟨rfl, rfl⟩) | ((with_reducible refine (HSe.out _ (by with_reducible assumption)).mono ?_); rintro e x1 ⟨rfl, rfl⟩))
      rename_i hHeld
      have HB5 := Lib.hid hHeld
      clear hHeld hst HLd HLe HLdq HLeq HSeq sh1 sh2 hgt hgt' hgt2 hge hge' wK hsh wbe wbe' wbe2 htm hbe hbs hbs' hPb hcc90
      go_wp2_with fail
      go_loopw [77] (fun i wr => ∃ k : Nat, k ≤ m + 2 ∧ i = .int .i64 k ∧ Hid (Below w4.heap.size w4 wr)) (fun i _ => m + 2 - (intOf i).toNat)
      case atStart => exact ⟨0, by omega, rfl, HB5⟩
      case round =>
        obtain ⟨k, hk, rfl, hB⟩ := hrel
        clear HB5
        by_cases hlt : k < m + 2
        · have e1 : decide (k < m + 2) = true := decide_eq_true hlt
          have e1' : decide ((k : Int) < (m : Int) + 2) = true := by simp; omega
          have q0 : (0 : Int) ≤ k := by omega
          have q1 : (k : Int) < (m : Int) + 2 := by omega
          have hw1 : IntKind.i64.wrap ((k : Int) + 1) = (k : Int) + 1 := by have := HMm.out.2; rw [IntKind.wrap_i64]; omega
          have HSr := Lib.hid (fun q => HSe.out _ (below_drewN hB.out q))
          have HBn := Lib.hid (fun q => below_drewN hB.out q)
          have cd := (HFd.out.below hB.out).cells k (by have := HFd.out.len; omega)
          have ce := (HFe.out.below hB.out).cells k (by have := HFe.out.len; omega)
          have hle : lve = lv := (HS.out.1 (by rw [HS.out.2.1]; exact HBS.out)).trans HS.out.2.2.1.symm
          subst hle
          generalize lve[k]'(by have := HFe.out.len; omega) = f at *
          clear hB
          go_wp2_with fail
          go_quiet ((with_reducible exact Calls.quiet_of_same ((HSr.out _).mono fun e w' h => ⟨h.1, h.2.symm⟩)))
          go_wp2_with fail
          go_roundw
          first
            | (case rel => exact ⟨k + 1, by omega, by go_num, Lib.hid (HBn.out _)⟩
               case measure => simp [intOf]; omega)
            | exact ⟨⟨k + 1, by omega, by go_num, Lib.hid (HBn.out _)⟩, by simp [intOf]; omega⟩
        · have e1 : decide (k < m + 2) = false := decide_eq_false hlt
          have e1' : decide ((k : Int) < (m : Int) + 2) = false := by simp; omega
          clear hlt
          go_wp2_with fail
          refine (HLv.out _).mono ?_
          rintro e w' ⟨rfl, hbl⟩
          have hb5 := HW4.out.trans (hB.out.mono HW4.out.size)
          have HE := Lib.hid (hb5.trans (hbl.mono hb5.size))
          clear hbl hb5
          go_wp2_with fail
          go_ret
          exact ⟨rfl, HE.out⟩
  · as_aux_lemma =>
      go_wp2_with fail
      go_region_held3 (fun w' => Below w4.heap.size w4 w')
        (first | with_reducible exact hst | with_reducible assumption)
        (first | ((with_reducible refine (HLd.out _ (by with_reducible assumption)).mono ?_); rintro e x1 ⟨rfl, rfl⟩) | ((with_reducible refine (HLe.out _ (by with_reducible assumption)).mono ?_); rintro e x1 ⟨rfl, rfl⟩) | ((with_reducible refine (HSe.out _ (by with_reducible assumption)).mono ?_); rintro e x1 ⟨rfl, rfl⟩))
      rename_i hHeld
      have HB5 := Lib.hid hHeld
      clear hHeld hst HLd HLe HLdq HLeq HSeq sh1 sh2 hgt hgt' hgt2 hge hge' wK hsh wbe wbe' wbe2 htm hbe hbs hbs' hPb hcc90
      go_wp2_with fail
      go_loopw [77] (fun i wr => ∃ k : Nat, k ≤ m + 2 ∧ i = .int .i64 k ∧ Hid (Below w4.heap.size w4 wr)) (fun i _ => m + 2 - (intOf i).toNat)
      case atStart => exact ⟨0, by omega, rfl, HB5⟩
      case round =>
        obtain ⟨k, hk, rfl, hB⟩ := hrel
        clear HB5
        by_cases hlt : k < m + 2
        · have e1 : decide (k < m + 2) = true := decide_eq_true hlt
          have e1' : decide ((k : Int) < (m : Int) + 2) = true := by simp; omega
          have q0 : (0 : Int) ≤ k := by omega
          have q1 : (k : Int) < (m : Int) + 2 := by omega
          have hw1 : IntKind.i64.wrap ((k : Int) + 1) = (k : Int) + 1 := by have := HMm.out.2; rw [IntKind.wrap_i64]; omega
          have HSr := Lib.hid (fun q => HSe.out _ (below_drewN hB.out q))
          have HBn := Lib.hid (fun q => below_drewN hB.out q)
          clear hB
          go_wp2_with fail
          go_quiet ((with_reducible exact Calls.quiet_of_same ((HSr.out _).mono fun e w' h => ⟨h.1, h.2.symm⟩)))
          go_wp2_with fail
          go_roundw
          first
            | (case rel => exact ⟨k + 1, by omega, by go_num, Lib.hid (HBn.out _)⟩
               case measure => simp [intOf]; omega)
            | exact ⟨⟨k + 1, by omega, by go_num, Lib.hid (HBn.out _)⟩, by simp [intOf]; omega⟩
        · have e1 : decide (k < m + 2) = false := decide_eq_false hlt
          have e1' : decide ((k : Int) < (m : Int) + 2) = false := by simp; omega
          clear hlt
          go_wp2_with fail
          refine (HLv.out _).mono ?_
          rintro e w' ⟨rfl, hbl⟩
          have hb5 := HW4.out.trans (hB.out.mono HW4.out.size)
          have HE := Lib.hid (hb5.trans (hbl.mono hb5.size))
          clear hbl hb5
          go_wp2_with fail
          go_ret
          exact ⟨rfl, HE.out⟩
end Go.Proofs.Ytobphpgembmaaaa.ItX
