/- The search: link, by contract. -/
import Derived.Test.YtddjbchlpfaggaaPfE
namespace Go.Proofs.Ytddjbchlpfaggaa.PfF
open Go.RowKit Go.Lib Go.Proofs Go.Maps Go.Proofs.Ytddjbchlpfaggaa.SetQ Go.Proofs.Ytddjbchlpfaggaa.SetR Go.Proofs.Ytddjbchlpfaggaa.TblC Go.Proofs.Ytddjbchlpfaggaa.TblV Go.Proofs.Ytddjbchlpfaggaa.TblQ Go.Proofs.Ytddjbchlpfaggaa.SemB Go.Proofs.Ytddjbchlpfaggaa.SemC Go.Proofs.Ytddjbchlpfaggaa.SemD Go.Proofs.Ytddjbchlpfaggaa.SemGa Go.Proofs.Ytddjbchlpfaggaa.SemJ Go.Proofs.Ytddjbchlpfaggaa.PfM Go.Proofs.Ytddjbchlpfaggaa.PfN Go.Proofs.Ytddjbchlpfaggaa.PfA Go.Proofs.Ytddjbchlpfaggaa.PfB Go.Proofs.Ytddjbchlpfaggaa.PfC Go.Proofs.Ytddjbchlpfaggaa.PfD
set_option linter.unusedVariables false
set_option linter.unusedSimpArgs false
theorem lk_len (t : Ss) (a i hd mid : Int) (x : Nat) : (lkM t a i hd mid x).known.length ≤ t.known.length + 1 ∧ (lkM t a i hd mid x).nw = t.nw ∧ (lkM t a i hd mid x).watch = t.watch := by
  unfold lkM putM
  split
  · split
    · exact ⟨by omega, rfl, rfl⟩
    · exact ⟨by simp, rfl, rfl⟩
  · exact ⟨by omega, rfl, rfl⟩
theorem lks_len (a i hd mid : Int) : ∀ (l : List Nat) (t : Ss), (l.foldl (lkM · a i hd mid) t).known.length ≤ t.known.length + l.length ∧ (l.foldl (lkM · a i hd mid) t).nw = t.nw ∧ (l.foldl (lkM · a i hd mid) t).watch = t.watch
  | [], t => ⟨by simp, rfl, rfl⟩
  | x :: l, t => by
    obtain ⟨h1, h2, h3⟩ := lk_len t a i hd mid x
    obtain ⟨g1, g2, g3⟩ := lks_len a i hd mid l (lkM t a i hd mid x)
    simp only [List.foldl_cons, List.length_cons]
    exact ⟨by omega, g2.trans h2, g3.trans h3⟩
theorem lk_succ (a i hd mid : Int) (k : Nat) (t : Ss) : (List.range (k + 1)).foldl (lkM · a i hd mid) t = lkM ((List.range k).foldl (lkM · a i hd mid) t) a i hd mid k := by
  rw [List.range_succ, List.foldl_append]; rfl
theorem Wq.cells {W w : World} {a : Ad} {t : Ss} {h : Nat} {F : Frm} (hq : Wq W w a t h F) : ∃ qv, (∀ o, w.cell? ⟨a.ws, o, none⟩ = (#[.int .i64 a.d0, .int .i64 a.d1, .slice a.A a.L.length a.ca, .map (some a.bk), qv, .map (some a.bw)] : Array Value)[o]?) ∧ Below W.heap.size W w ∧ UG w a.A a.L := by
  obtain ⟨_, qv, M, hk, _⟩ := hq
  exact ⟨qv, Wk.cells hk, hk.bel, hk.ug.below hk.bel⟩
theorem mul_small {P K : Nat} (hP : P ≤ 64) (hK : K ≤ 64) : P * K ≤ 4096 := Nat.le_trans (Nat.mul_le_mul hP hK) (by omega)
set_option maxHeartbeats 800000 in
set_option maxRecDepth 100000 in
theorem link (W w : World) (a : Ad) (t : Ss) (h : Nat) (F : Frm) (P K i mid : Nat) (hP : a.d0 = P) (hK : a.d1 = K) (lP : P ≤ 64) (lK : K ≤ 64) (hi : i < a.L.length) (hw : Wq W w a t h F) (hu : rightU P K (ruleD a.L i) = true) (hm : mid < P)
    (hn : t.nw ≤ 1000000) (hl : (t.watch ((mid : Int) * K + (ruleD a.L i).via)).length ≤ 1000000) (hkn : t.known.length ≤ 900000) :
    Calls Try.prog 52 #[.pointer (some ⟨a.ws, 0, none⟩), .int .i64 i, .int .i64 mid] w (WPost W a (linkM P K a.L t i mid) h F) := by
  obtain ⟨hk0, rh, rw_, ra, rb, rv⟩ := right_r hu
  have hLu : ruleD a.L i = a.L[i] := by unfold ruleD; rw [Int.toNat_natCast, List.getD_eq_getElem?_getD, List.getElem?_eq_getElem hi]; rfl
  have hpk := mul_small lP lK
  obtain ⟨v, hv⟩ : ∃ v : Nat, (ruleD a.L i).via = v := ⟨(ruleD a.L i).via.toNat, by omega⟩
  obtain ⟨hd, hhd⟩ : ∃ v : Nat, (ruleD a.L i).head = v := ⟨(ruleD a.L i).head.toNat, by omega⟩
  have hmk : mid * K ≤ 4096 := mul_small (by omega) lK
  have hdb : hd < 4096 := by omega
  obtain ⟨r, hr⟩ : ∃ r : Nat, (mid : Int) * K + (ruleD a.L i).via = r := ⟨mid * K + v, by rw [hv]; simp⟩
  have hr2 : r = mid * K + v := by
    have : (r : Int) = ((mid * K + v : Nat) : Int) := by rw [← hr, hv]; simp
    omega
  have hvK : v < K := by omega
  have HRV : Hid ((mid : Int) * (K : Int) + (v : Int) = (r : Int)) := Lib.hid (by rw [← hr, hv])
  have hw1 : IntKind.i64.wrap ((mid : Int) * (K : Int)) = ((mid * K : Nat) : Int) := wrapN rfl (by omega)
  have hw2 : IntKind.i64.wrap (((mid * K : Nat) : Int) + (v : Int)) = (r : Int) := by rw [IntKind.wrap_i64]; omega
  unfold linkM
  rw [hr, hhd]
  rw [hr] at hl
  have HT : Hid (∀ k, k ≤ P → ((List.range k).foldl (lkM · (r : Int) (i : Int) (hd : Int) (mid : Int)) (watchM t r ((i : Int), (mid : Int)))).known.length ≤ 1000000) := Lib.hid (fun k hk => by
    have := (lks_len (r : Int) (i : Int) (hd : Int) (mid : Int) (List.range k) (watchM t r ((i : Int), (mid : Int)))).1
    have e : (watchM t r ((i : Int), (mid : Int))).known = t.known := rfl
    rw [e, List.length_range] at this
    omega)
  have HSucc := Lib.hid (fun k => lk_succ (r : Int) (i : Int) (hd : Int) (mid : Int) k (watchM t r ((i : Int), (mid : Int))))
  obtain ⟨fT, hfT⟩ : ∃ f : Nat → Ss, f = fun k => (List.range k).foldl (lkM · (r : Int) (i : Int) (hd : Int) (mid : Int)) (watchM t r ((i : Int), (mid : Int))) := ⟨_, rfl⟩
  have HT2 : Hid (∀ k, k ≤ P → (fT k).known.length ≤ 1000000) := Lib.hid (by rw [hfT]; exact HT.out)
  have HSucc2 : Hid (∀ k, fT (k + 1) = lkM (fT k) r i hd mid k) := Lib.hid (by rw [hfT]; exact HSucc.out)
  have HF0 : Hid (fT 0 = watchM t r ((i : Int), (mid : Int))) := Lib.hid (by rw [hfT]; rfl)
  have HFP : Hid ((List.range P).foldl (lkM · (r : Int) (i : Int) (hd : Int) (mid : Int)) (watchM t r ((i : Int), (mid : Int))) = fT P) := Lib.hid (by rw [hfT])
  rw [HFP.out]
  clear HT HSucc HFP hfT
  obtain ⟨F1, hq1, hb1, hc1⟩ := with_box hw #[.int .i64 a.L[i].kind, .int .i64 a.L[i].head, .int .i64 a.L[i].who, .int .i64 a.L[i].a, .int .i64 a.L[i].b, .int .i64 a.L[i].via] 44
  obtain ⟨qv, c0, hbel, hug⟩ := Wq.cells hw
  obtain ⟨g, o, hA, hg, hcell⟩ := hug (by omega)
  have hrow := hcell i hi
  rw [hLu] at hv hhd hu
  clear hLu hcell hug hr
  generalize hel : a.L[i] = u at *
  obtain ⟨u0, u1, u2, u3, u4, u5⟩ := u
  simp only [Ru.cells] at hrow hv hhd hq1 hc1
  subst hv
  subst hhd
  have k0 : w.cell? ⟨g, o + i * 6, none⟩ = some (.int .i64 u0) := hrow 0 (by omega)
  have k1 : w.cell? ⟨g, o + i * 6 + 1, none⟩ = some (.int .i64 (hd : Int)) := hrow 1 (by omega)
  have k2 : w.cell? ⟨g, o + i * 6 + 2, none⟩ = some (.int .i64 u2) := hrow 2 (by omega)
  have k3 : w.cell? ⟨g, o + i * 6 + 3, none⟩ = some (.int .i64 u3) := hrow 3 (by omega)
  have k4 : w.cell? ⟨g, o + i * 6 + 4, none⟩ = some (.int .i64 u4) := hrow 4 (by omega)
  have k5 : w.cell? ⟨g, o + i * 6 + 5, none⟩ = some (.int .i64 (v : Int)) := hrow 5 (by omega)
  obtain ⟨ws, bk, bw, d0, d1, A, ca, L⟩ := a
  simp only at *
  subst hP
  subst hK
  subst hA
  have hi2 : i < L.length := hi
  have q0 : (0 : Int) ≤ i := by omega
  have q1 : (i : Int) < L.length := by omega
  have HQ1 := Lib.hid hq1
  have HC1 := Lib.hid hc1
  have HB1 := Lib.hid (fun w' t' => hb1 w' t' h)
  obtain ⟨qv1, c1, _, _⟩ := Wq.cells hq1
  have r1 := fun o => Lib.cell_of_heap (hc1 _ t h hq1) o
  have HW : Hid (Calls Try.prog 51 #[.pointer (some ⟨ws, 0, none⟩), .int .i64 (r : Int), .agg #[.int .i64 (i : Int), .int .i64 (mid : Int)]] (w.alloc (.cells #[.int .i64 u0, .int .i64 hd, .int .i64 u2, .int .i64 u3, .int .i64 u4, .int .i64 v] 44)).drew (WPost W ⟨ws, bk, bw, P, K, some ⟨g, o, none⟩, ca, L⟩ (watchM t r ((i : Int), (mid : Int))) h F1)) := Lib.hid (PfD.watch W _ ⟨ws, bk, bw, P, K, some ⟨g, o, none⟩, ca, L⟩ t h F1 r i mid (hq1.below ((Below.refl _ _).drew)) (by omega) hn hl)
  have HKn := Lib.hid (fun w' t' (hq : Wq W w' ⟨ws, bk, bw, P, K, some ⟨g, o, none⟩, ca, L⟩ t' h F1) (x : Nat) (hx : x < P) => PfC.knows W w' _ t' h F1 ((r : Int), (x : Int)) hq ⟨by simp only; omega, by simp only; omega⟩)
  have HPu := Lib.hid (fun w' t' (hq : Wq W w' ⟨ws, bk, bw, P, K, some ⟨g, o, none⟩, ca, L⟩ t' h F1) (x : Nat) (hx : x < P) hl => PfC.put W w' _ t' h F1 ⟨i, hd, x, mid⟩ hq ⟨by unfold Sp.fa; simp only; omega, by unfold Sp.fa; simp only; omega⟩ hl)
  dsimp only at HKn HPu
  clear hrow hel hq1 hc1 hb1 hw hu hk0 rw_ ra rb rv hl hn hkn hr2 hpk
  go_enter Try.func52, Try.ntmps52
  go_upto_region 1 with fail
  clear c0 k0 k1 k2 k3 k4 k5
  obtain ⟨bx, hbx⟩ : ∃ bx, w.heap.size = bx := ⟨_, rfl⟩
  simp only [hbx] at HC1 r1 ⊢
  generalize w.alloc (.cells #[.int .i64 u0, .int .i64 hd, .int .i64 u2, .int .i64 u3, .int .i64 u4, .int .i64 v] 44) = w0 at *
  go_region
  go_wp2_with fail
  simp only [HRV.out]
  clear hmk hvK
  refine HW.out.mono ?_
  rintro e w1 ⟨rfl, hq2⟩
  have HQ2 := Lib.hid hq2
  obtain ⟨qv2, c2, _, _⟩ := Wq.cells hq2
  clear HW c1 r1 hq2 HQ1
  rw [← HF0.out] at HQ2
  go_wp2_with fail
  go_loopw [38] (fun x wr => ∃ k : Nat, k ≤ P ∧ x = .int .i64 k ∧ Hid (Wq W wr ⟨ws, bk, bw, P, K, some ⟨g, o, none⟩, ca, L⟩ (fT k) h F1)) (fun x _ => P - (intOf x).toNat)
  case atStart => exact ⟨0, by omega, rfl, HQ2⟩
  case round =>
    clear c2 HQ2
    obtain ⟨k, hk, rfl, HQ⟩ := hrel
    by_cases hlt : k < P
    · have e1 : decide ((k : Int) < P) = true := by simp; omega
      have HA := Lib.hid (HKn.out wr (fT k) HQ.out k hlt)
      have HStep := HSucc2.out k
      unfold lkM at HStep
      cases hb : hasS (fT k).known ((r : Int), (k : Int)) with
      | true =>
        rw [hb, if_pos rfl] at HStep
        rw [hb] at HA
        clear hb
        go_wp2_with fail
        refine HA.out.mono ?_
        rintro e w2 ⟨rfl, hb2⟩
        have hq3 := Wq.below HQ.out hb2
        have r2 := fun o => Lib.cell_of_heap (HC1.out _ _ _ hq3) o
        have HB := Lib.hid (HPu.out w2 (fT k) hq3 k hlt (HT2.out k (by omega)))
        rw [← HStep] at HB
        have HS := Lib.hid HStep
        clear hb2 hq3 HA HQ HStep
        go_wp2_with fail
        refine HB.out.mono ?_
        rintro e w3 ⟨rfl, hq4⟩
        have HQ4 := Lib.hid hq4
        clear hq4 HB r2
        go_wp2_with fail
        go_roundw
        case rel => exact ⟨k + 1, by omega, by go_num, HQ4⟩
        case measure => simp [intOf]; omega
      | false =>
        rw [hb, if_neg (by simp)] at HStep
        rw [hb] at HA
        have HQ3 : Hid (∀ w2, Below wr.heap.size wr w2 → Wq W w2 ⟨ws, bk, bw, P, K, some ⟨g, o, none⟩, ca, L⟩ (fT (k + 1)) h F1) := Lib.hid (fun w2 hb2 => by rw [HStep]; exact Wq.below HQ.out hb2)
        clear hb HStep HQ
        go_wp2_with fail
        refine HA.out.mono ?_
        rintro e w2 ⟨rfl, hb2⟩
        have HQ4 := Lib.hid (HQ3.out w2 hb2)
        clear hb2 HQ3 HA
        go_wp2_with fail
        go_roundw
        case rel => exact ⟨k + 1, by omega, by go_num, HQ4⟩
        case measure => simp [intOf]; omega
    · have e1 : decide ((k : Int) < P) = false := by simp; omega
      obtain rfl : k = P := by omega
      have HE := Lib.hid (HB1.out _ _ HQ.out)
      clear HQ
      go_wp2_with fail
      go_end0
      exact ⟨rfl, HE.out⟩
end Go.Proofs.Ytddjbchlpfaggaa.PfF
