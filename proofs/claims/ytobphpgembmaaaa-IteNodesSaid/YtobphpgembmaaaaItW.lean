/- Diagrams made of one another: the walk of IteTells. -/
import Derived.Test.YtobphpgembmaaaaItV
namespace Go.Proofs.Ytobphpgembmaaaa.ItW
open Go.RowKit Go.Lib Go.Proofs Go.Proofs.Ytobphpgembmaaaa.CaA Go.Proofs.Ytobphpgembmaaaa.NdA Go.Proofs.Ytobphpgembmaaaa.NdB Go.Proofs.Ytobphpgembmaaaa.NdC Go.Proofs.Ytobphpgembmaaaa.NdE Go.Proofs.Ytobphpgembmaaaa.NdG Go.Proofs.Ytobphpgembmaaaa.NdI Go.Proofs.Ytobphpgembmaaaa.ItA Go.Proofs.Ytobphpgembmaaaa.ItB Go.Proofs.Ytobphpgembmaaaa.ItD Go.Proofs.Ytobphpgembmaaaa.ItF Go.Proofs.Ytobphpgembmaaaa.ItH Go.Proofs.Ytobphpgembmaaaa.ItI Go.Proofs.Ytobphpgembmaaaa.ItK Go.Proofs.Ytobphpgembmaaaa.ItL Go.Proofs.Ytobphpgembmaaaa.ItM Go.Proofs.Ytobphpgembmaaaa.ItN Go.Proofs.Ytobphpgembmaaaa.ItP Go.Proofs.Ytobphpgembmaaaa.ItQ Go.Proofs.Ytobphpgembmaaaa.ItR Go.Proofs.Ytobphpgembmaaaa.ItU Go.Proofs.Ytobphpgembmaaaa.ItV
set_option linter.unusedVariables false
set_option linter.unusedSimpArgs false
theorem ops_off {W w1 : World} {A : Option Addr} {ops : List Op4} {D : Nat} {x0 : Bx} (hA : OpsAt W A ops) (hf : ∀ j, FootD D x0 j → W.heap.size ≤ j) : 0 < ops.length → ∀ a, A = some a → ¬ FootD D x0 a.block := fun h0 a ha hq => by
  obtain ⟨b, o, e, hl, _⟩ := hA h0
  rw [e] at ha
  injection ha with ha
  subst ha
  have := hf _ hq
  have : W.heap.size ≤ b := this
  omega
theorem ops_below {W w1 : World} {A : Option Addr} {ops : List Op4} (hA : OpsAt W A ops) (hb : Below W.heap.size W w1) : OpsAt w1 A ops := fun h0 => by
  obtain ⟨b, o, e, hl, hc⟩ := hA h0
  exact ⟨b, o, e, Nat.lt_of_lt_of_le hl hb.size, fun i hi j u hu => (hb.cell (p := ⟨b, _, none⟩) hl).trans (hc i hi j u hu)⟩
set_option maxHeartbeats 16000000 in
set_option maxRecDepth 100000 in
theorem tells (v : Nat) (hv : v < 18446744073709551616) (A : Option Addr) (ca : Nat) (ops : List Op4) (W : World) (hops : ∀ o ∈ ops, o.InR) (hA : OpsAt W A ops) :
    Calls Try.prog 3 #[.int .u64 v, .slice A ops.length ca] W fun e w' => e = .returned (.bool true) ∧ Below W.heap.size W w' := by
  have HMany := Lib.hid (many_ v hv W)
  obtain ⟨K, hK⟩ : ∃ K, v % 7 = K := ⟨_, rfl⟩
  have hK6 : K ≤ 6 := by omega
  rw [hK] at HMany
  have HNew := Lib.hid (ItK.new_ K 1048576 (by omega) (by omega) W)
  unfold ItK.NewPost at HNew
  have HPlay := Lib.hid (fun D x0 w1 (hb : Below W.heap.size W w1) (hf : ∀ j, FootD D x0 j → W.heap.size ≤ j) (H : Bd w1 D x0 0 ⟨K, 1048576, false, []⟩ 0) => ItT.play_ K 1048576 D hK6 x0 A ca ops w1 hops (ops_below hA hb) (ops_off (w1 := w1) hA hf) H)
  unfold PlayPost at HPlay
  have HLv := Lib.hid (fun w => ItU.lives w)
  have HK6 := Lib.hid hK6
  obtain ⟨m, hm⟩ : ∃ m, min 30 ops.length = m := ⟨_, rfl⟩
  have hm1 : m ≤ ops.length := by omega
  have hm2 : m ≤ 30 := by omega
  have HMm := Lib.hid (And.intro hm1 hm2)
  rw [hm] at HPlay
  clear hops hA hK hK6 hv hm hm1 hm2
  go_enter Try.func3, Try.ntmps3
  go_wp2_with fail
  refine HMany.out.mono ?_
  rintro e w' ⟨rfl, rfl⟩
  clear HMany
  go_wp2_with fail
  refine HNew.out.mono ?_
  rintro e w1 ⟨D, x0, rfl, hB, hb, hf⟩
  have HP1 := Lib.hid (HPlay.out D x0 w1 hb hf hB)
  have HB1 := Lib.hid (And.intro hb hf)
  clear hB hb hf HPlay HNew
  go_wp2_with fail
  refine HP1.out.mono ?_
  rintro e w2 ⟨vl, vr, lv, gs, x, s, rfl, hPl⟩
  obtain ⟨bl, cl, br, cr, rfl, rfl, hT⟩ := told_of HMm.out.1 HK6.out HMm.out.2 (by omega) hPl
  have HT := Lib.hid hT
  obtain ⟨cc, hcc⟩ : ∃ cc, (upK K ops m).c = cc := ⟨_, rfl⟩
  have HCC := Lib.hid hcc
  simp only [hcc]
  have hc90 : cc ≤ 90 := by
    have := (upK_len (K := K) (ops := ops) m HMm.out.1).2
    have := HMm.out.2
    omega
  obtain ⟨n, hn⟩ : ∃ n, 2 ^ K = n := ⟨_, rfl⟩
  have HN := Lib.hid hn
  have hn64 : n ≤ 64 := by rw [← hn]; exact pow6 HK6.out
  have hm30 := HMm.out.2
  clear hT hPl hcc hn HP1
  go_wp2_with fail
  go_loopw [30] (fun i wr => ∃ k : Nat, k ≤ m + 2 ∧ i = .int .i64 k ∧ Hid (ItV.Told K 1048576 D x0 w1 ops m bl cl br cr lv gs x wr)) (fun i _ => m + 2 - (intOf i).toNat)
  case atStart => exact ⟨0, by omega, rfl, HT⟩
  case round =>
    obtain ⟨k, hk, rfl, hTr⟩ := hrel
    clear HT
    by_cases hlt : k < m + 2
    · obtain ⟨f, g, G, ef, eG, cf, cg, rG, hif, lbl, lbr, hev⟩ := ItV.Told.at HMm.out.1 HK6.out HMm.out.2 hTr.out k hlt
      have e1 : decide (k < m + 2) = true := decide_eq_true hlt
      have e1' : decide ((k : Int) < (m : Int) + 2) = true := by simp; omega
      have q0 : (0 : Int) ≤ k := by omega
      have q1 : (k : Int) < (m : Int) + 2 := by omega
      have hw1 : IntKind.i64.wrap ((k : Int) + 1) = (k : Int) + 1 := by rw [IntKind.wrap_i64]; omega
      have hrg := is_range (s := ⟨K, 1048576, false, (upK K ops m).M⟩) (by have h : (upK K ops m).M.length ≤ 5760 := (pl_small HMm.out.1 HK6.out HMm.out.2 hTr.out.pl).1; show (upK K ops m).M.length ≤ 100000; omega) hif
      have HIs := Lib.hid (ItB.is_ f hrg.1 hrg.2 hTr.out.pl.bd)
      have HSp := Lib.hid (ItB.spent_ hTr.out.pl.bd)
      rw [hif] at HIs
      rw [HN.out] at cg
      have HF := Lib.hid (And.intro ef (And.intro eG (And.intro hrg hev)))
      clear rG hif lbl lbr hev ef eG hrg
      go_wp2_with fail
      refine HIs.out.mono ?_
      rintro e w' ⟨rfl, rfl⟩
      go_wp2_with fail
      refine HSp.out.mono ?_
      rintro e w' ⟨rfl, rfl⟩
      clear HIs HSp
      go_wp2_with fail
      go_loopw [48] (fun i wq => ∃ q : Nat, q ≤ n ∧ i = .int .i64 q ∧ Hid (ItV.Told K 1048576 D x0 w1 ops m bl cl br cr lv gs x wq)) (fun i _ => n - (intOf i).toNat)
      case atStart => exact ⟨0, by omega, rfl, hTr⟩
      case round =>
        obtain ⟨q, hq, rfl, hTq⟩ := hrel
        clear hTr cf cg
        by_cases hql : q < n
        · obtain ⟨f', g', G', ef', eG', cf', cg', rG', hif', lbl', lbr', hev'⟩ := ItV.Told.at HMm.out.1 HK6.out HMm.out.2 hTq.out k hlt
          obtain rfl : f' = f := by rw [ef', HF.out.1]
          have f1 : decide (q < n) = true := decide_eq_true hql
          have f1' : decide ((q : Int) < n) = true := by simp; omega
          have p0 : (0 : Int) ≤ q := by omega
          have p1 : (q : Int) < n := by omega
          have hw2 : IntKind.i64.wrap ((q : Int) + 1) = (q : Int) + 1 := by rw [IntKind.wrap_i64]; omega
          have hwu : IntKind.u64.wrap (q : Int) = q := CaA.wrap_u64 (by omega) (by omega)
          rw [HN.out] at cg' rG'
          have cG := rG'.cell hql
          have lg := rG'.lt
          have HAt := Lib.hid (fun wy (hb : Below wr.heap.size wr wy) => ItB.at__ f' HF.out.2.2.1.1 HF.out.2.2.1.2 q (by omega) (hTq.out.below hb).pl.bd)
          have hyy : ∃ y, G' q = y := ⟨_, rfl⟩
          obtain ⟨y, hy⟩ := hyy
          have hev2 := hev' q (by rw [HN.out]; exact hql)
          rw [hy] at cG hev2
          simp only [hev2] at HAt
          have HZ : Hid (∀ wy, Below wr.heap.size wr wy → Below wr.heap.size wr wy ∧ wy.cell? ⟨br, k, none⟩ = some (.slice (some ⟨g', 0, none⟩) n n) ∧ wy.cell? ⟨g', q, none⟩ = some (.bool y)) := Lib.hid (fun wy hb => ⟨hb, (hb.cell (p := ⟨br, k, none⟩) lbr').trans cg', (hb.cell (p := ⟨g', q, none⟩) lg).trans cG⟩)
          have hst := HZ.out _ (Below.refl wr.heap.size wr).drew
          have HTq := Lib.hid (fun wy (hb : Below wr.heap.size wr wy) => hTq.out.below hb)
          clear cf' cg' rG' hif' lbl' lbr' hev' ef' eG' cG lg hy hev2 hTq
          cases y with
          | false =>
            go_wp2_with fail
            go_region_held3 (fun wy => Below wr.heap.size wr wy ∧ wy.cell? ⟨br, k, none⟩ = some (.slice (some ⟨g', 0, none⟩) n n) ∧ wy.cell? ⟨g', q, none⟩ = some (.bool false))
              (first | with_reducible exact hst | with_reducible assumption | exact HZ.out _ (Below.trans (by apply And.left; with_reducible assumption) (Below.mono (by with_reducible assumption) (Below.size (by apply And.left; with_reducible assumption)))))
              (first | ((with_reducible refine (HAt.out _ (by apply And.left; with_reducible assumption)).mono ?_); rintro e x1 ⟨rfl, hb⟩))
            rename_i hHeld
            have HE := Lib.hid (HTq.out _ hHeld.1)
            clear hHeld hst HZ HAt HTq
            go_wp2_with fail
            go_roundw
            case rel => exact ⟨q + 1, by omega, by go_num, HE⟩
            case measure => simp [intOf]; omega
          | true =>
            go_wp2_with fail
            go_region_held3 (fun wy => Below wr.heap.size wr wy ∧ wy.cell? ⟨br, k, none⟩ = some (.slice (some ⟨g', 0, none⟩) n n) ∧ wy.cell? ⟨g', q, none⟩ = some (.bool true))
              (first | with_reducible exact hst | with_reducible assumption | exact HZ.out _ (Below.trans (by apply And.left; with_reducible assumption) (Below.mono (by with_reducible assumption) (Below.size (by apply And.left; with_reducible assumption)))))
              (first | ((with_reducible refine (HAt.out _ (by apply And.left; with_reducible assumption)).mono ?_); rintro e x1 ⟨rfl, hb⟩))
            rename_i hHeld
            have HE := Lib.hid (HTq.out _ hHeld.1)
            clear hHeld hst HZ HAt HTq
            go_wp2_with fail
            go_roundw
            case rel => exact ⟨q + 1, by omega, by go_num, HE⟩
            case measure => simp [intOf]; omega
        · have f1 : decide (q < n) = false := decide_eq_false hql
          have f1' : decide ((q : Int) < n) = false := by simp; omega
          clear hql
          go_wp2_with fail
          go_loopw [66] (fun i wz => ∃ j : Nat, j ≤ k ∧ i = .int .i64 j ∧ Hid (ItV.Told K 1048576 D x0 w1 ops m bl cl br cr lv gs x wz)) (fun i _ => k - (intOf i).toNat)
          case atStart => exact ⟨0, by omega, rfl, hTq⟩
          case round =>
            obtain ⟨j, hj, rfl, hTz⟩ := hrel
            clear hTq
            by_cases hjl : j < k
            · obtain ⟨fk, gk, Gk, efk, eGk, cfk, cgk, rGk, hifk, lblk, lbrk, hevk⟩ := ItV.Told.at HMm.out.1 HK6.out HMm.out.2 hTz.out k hlt
              obtain ⟨fj, gj, Gj, efj, eGj, cfj, cgj, rGj, hifj, lblj, lbrj, hevj⟩ := ItV.Told.at HMm.out.1 HK6.out HMm.out.2 hTz.out j (by omega)
              obtain rfl : fk = f := by rw [efk, HF.out.1]
              have f2 : decide (j < k) = true := decide_eq_true hjl
              have f2' : decide ((j : Int) < k) = true := by simp; omega
              have p0 : (0 : Int) ≤ j := by omega
              have p1 : (j : Int) < (m : Int) + 2 := by omega
              have p2 : (j : Int) < k := by omega
              have hw2 : IntKind.i64.wrap ((j : Int) + 1) = (j : Int) + 1 := by rw [IntKind.wrap_i64]; omega
              have hpair := told_pair (K := K) (ops := ops) HMm.out.1 HK6.out HMm.out.2 hlt (show j < m + 2 by omega)
              rw [← efk, ← efj, ← eGk, ← eGj, HN.out] at hpair
              rw [HN.out] at cgk cgj rGk rGj
              have HSm := Lib.hid (fun wy (hb : Below wr.heap.size wr wy) => ItN.same_ n hn64 gj gk n n Gj Gk wy (rGj.below hb) (rGk.below hb))
              simp only [← hpair] at HSm
              have HZ : Hid (∀ wy, Below wr.heap.size wr wy → Below wr.heap.size wr wy ∧ wy.cell? ⟨bl, j, none⟩ = some (.int .i64 fj) ∧ wy.cell? ⟨br, j, none⟩ = some (.slice (some ⟨gj, 0, none⟩) n n) ∧ wy.cell? ⟨br, k, none⟩ = some (.slice (some ⟨gk, 0, none⟩) n n)) := Lib.hid (fun wy hb => ⟨hb, (hb.cell (p := ⟨bl, j, none⟩) lblk).trans cfj, (hb.cell (p := ⟨br, j, none⟩) lbrk).trans cgj, (hb.cell (p := ⟨br, k, none⟩) lbrk).trans cgk⟩)
              have hst := HZ.out _ (Below.refl wr.heap.size wr).drew
              have HTz := Lib.hid (fun wy (hb : Below wr.heap.size wr wy) => hTz.out.below hb)
              clear efk eGk cfk cgk rGk hifk lblk lbrk hevk efj eGj cfj cgj rGj hifj lblj lbrj hevj hpair hTz
              by_cases hff : fj = fk
              · subst hff
                simp only [beq_self_eq_true] at HSm
                go_wp2_with fail
                go_region_held3 (fun wy => Below wr.heap.size wr wy ∧ wy.cell? ⟨bl, j, none⟩ = some (.int .i64 fj) ∧ wy.cell? ⟨br, j, none⟩ = some (.slice (some ⟨gj, 0, none⟩) n n) ∧ wy.cell? ⟨br, k, none⟩ = some (.slice (some ⟨gk, 0, none⟩) n n))
                  (first | with_reducible exact hst | with_reducible assumption | exact HZ.out _ (Below.trans (by apply And.left; with_reducible assumption) (Below.mono (by with_reducible assumption) (Below.size (by apply And.left; with_reducible assumption)))))
                  (first | ((with_reducible refine (HSm.out _ (by apply And.left; with_reducible assumption)).mono ?_); rintro e x1 ⟨rfl, hb⟩))
                rename_i hHeld
                have HE := Lib.hid (HTz.out _ hHeld.1)
                clear hHeld hst HZ HSm HTz
                go_wp2_with fail
                go_roundw
                case rel => exact ⟨j + 1, by omega, by go_num, HE⟩
                case measure => simp [intOf]; omega
              · have hne : (fj == fk) = false := by simp [hff]
                simp only [hne] at HSm
                go_wp2_with fail
                go_region_held3 (fun wy => Below wr.heap.size wr wy ∧ wy.cell? ⟨bl, j, none⟩ = some (.int .i64 fj) ∧ wy.cell? ⟨br, j, none⟩ = some (.slice (some ⟨gj, 0, none⟩) n n) ∧ wy.cell? ⟨br, k, none⟩ = some (.slice (some ⟨gk, 0, none⟩) n n))
                  (first | with_reducible exact hst | with_reducible assumption | exact HZ.out _ (Below.trans (by apply And.left; with_reducible assumption) (Below.mono (by with_reducible assumption) (Below.size (by apply And.left; with_reducible assumption)))))
                  (first | ((with_reducible refine (HSm.out _ (by apply And.left; with_reducible assumption)).mono ?_); rintro e x1 ⟨rfl, hb⟩))
                rename_i hHeld
                have HE := Lib.hid (HTz.out _ hHeld.1)
                clear hHeld hst HZ HSm HTz
                go_wp2_with fail
                go_roundw
                case rel => exact ⟨j + 1, by omega, by go_num, HE⟩
                case measure => simp [intOf]; omega
            · have f2 : decide (j < k) = false := decide_eq_false hjl
              have f2' : decide ((j : Int) < k) = false := by simp; omega
              clear hjl
              go_wp2_with fail
              go_roundw
              case rel => exact ⟨k + 1, by omega, by go_num, hTz⟩
              case measure => simp [intOf]; omega
    · have e1 : decide (k < m + 2) = false := decide_eq_false hlt
      have e1' : decide ((k : Int) < (m : Int) + 2) = false := by simp; omega
      have HCl := Lib.hid (ItB.calls_ hTr.out.pl.bd)
      rw [HCC.out] at HCl
      have HVr := Lib.hid (ItB.vars_ hTr.out.pl.bd)
      have HBw := Lib.hid (Frm.below HB1.out.1 hTr.out.pl.frm HB1.out.2)
      clear hTr hlt
      go_wp2_with fail
      refine HCl.out.mono ?_
      rintro e w' ⟨rfl, rfl⟩
      go_wp2_with fail
      refine HVr.out.mono ?_
      rintro e w' ⟨rfl, rfl⟩
      go_wp2_with fail
      refine (HLv.out _).mono ?_
      rintro e w' ⟨rfl, hbl⟩
      have HE := Lib.hid (HBw.out.trans (hbl.mono HBw.out.size))
      clear hbl
      go_wp2_with fail
      go_ret
      exact ⟨rfl, HE.out⟩
end Go.Proofs.Ytobphpgembmaaaa.ItW
