/- The walk of the law of a row's parts. -/
import Derived.Test.YtpjacngbkohmdaaM24
import Derived.Test.YtpjacngbkohmdaaM25
import Derived.Deep.CutBlock
import Derived.Test.YtpjacngbkohmdaaM11
import Derived.ProofKit
import Derived.OpenShut
import Derived.ShutString
import Derived.ChangeOld
import Derived.Below
import Derived.Carry
namespace Go.Proofs.Ytpjacngbkohmdaa.StN
set_option linter.unusedVariables false
set_option linter.unusedSimpArgs false
open Go.Shelf Go.RowKit Go.Sort Go.Lib Go.Proofs Go.Proofs.Ytpjacngbkohmdaa.Plain Go.Proofs.Ytpjacngbkohmdaa.SynP Go.Proofs.Ytpjacngbkohmdaa.Grown Go.Proofs.Ytpjacngbkohmdaa.SynC Go.Proofs.Ytpjacngbkohmdaa.SynD Go.Proofs.Ytpjacngbkohmdaa.SynD2 Go.Proofs.Ytpjacngbkohmdaa.SynD3 Go.Proofs.Ytpjacngbkohmdaa.QryP Go.Proofs.Ytpjacngbkohmdaa.PolA Go.Proofs.Ytpjacngbkohmdaa.PolE Go.Proofs.Ytpjacngbkohmdaa.PolOp Go.Proofs.Ytpjacngbkohmdaa.StA Go.Proofs.Ytpjacngbkohmdaa.StB Go.Proofs.Ytpjacngbkohmdaa.StC Go.Proofs.Ytpjacngbkohmdaa.StD Go.Proofs.Ytpjacngbkohmdaa.StE Go.Proofs.Ytpjacngbkohmdaa.StF Go.Proofs.Ytpjacngbkohmdaa.StG Go.Proofs.Ytpjacngbkohmdaa.StH
open Go.Proofs.Ytpjacngbkohmdaa.PolLi (Few)
set_option linter.unusedVariables false
set_option linter.unusedSimpArgs false
theorem filt_strict {L : List St} (q : St → Bool) (h : Strict cmpS L) : Strict cmpS (L.filter q) := List.Pairwise.filter _ h
theorem same_strict {L M : List St} (h1 : Strict cmpS L) (h2 : Strict cmpS M) (h : ∀ x, x ∈ L ↔ x ∈ M) : L = M := strict_one tri_S h1 h2 h
def mi (L M : List St) : List St := (sortL cmpS [] L).filter fun s => !decide (s ∈ M)
theorem mem_mi {L M : List St} {x : St} : x ∈ mi L M ↔ x ∈ L ∧ x ∉ M := by
  unfold mi
  rw [List.mem_filter, sort_mem]
  simp
theorem mi_strict (L M : List St) : Strict cmpS (mi L M) := filt_strict _ (sort_strict L)
theorem mi_len (L M : List St) : (mi L M).length ≤ L.length := Nat.le_trans (List.length_filter_le _ _) (sort_len L)
theorem mem_both {L C : List St} {x : St} : x ∈ mi L (mi L C) ↔ x ∈ L ∧ x ∈ C := by
  rw [mem_mi, mem_mi]
  constructor
  · rintro ⟨h, h2⟩
    exact ⟨h, Classical.byContradiction fun hc => h2 ⟨h, hc⟩⟩
  · rintro ⟨h, h2⟩
    exact ⟨h, fun hc => hc.2 h2⟩
theorem part1 (L C : List St) : sortL cmpS [] (mi L (mi L C) ++ mi L C) = sortL cmpS [] (L ++ []) := same_strict (sort_strict _) (sort_strict _) fun x => by
  rw [sort_mem, sort_mem, List.mem_append, List.append_nil, mem_both, mem_mi]
  by_cases h : x ∈ C <;> simp [h]
theorem part2 (L C : List St) : mi C (mi C L) = mi L (mi L C) := same_strict (mi_strict _ _) (mi_strict _ _) fun x => by
  rw [mem_both, mem_both]
  exact and_comm
theorem part3 (L C : List St) : sortL cmpS [] (mi L (mi L C) ++ mi C L) = sortL cmpS [] (C ++ []) := same_strict (sort_strict _) (sort_strict _) fun x => by
  rw [sort_mem, sort_mem, List.mem_append, List.append_nil, mem_both, mem_mi]
  by_cases h : x ∈ L <;> simp [h]
theorem part4 (L : List St) : mi L L = [] := by
  rw [List.eq_nil_iff_forall_not_mem]
  intro x hx
  rw [mem_mi] at hx
  exact hx.2 hx.1
set_option maxHeartbeats 4000000 in
set_option maxRecDepth 100000 in
theorem walk (p : Py) (A1 A2 A3 A4 : Option Addr) (c1 c2 c3 c4 : Nat) (B : Option Addr) (cb : Nat) (C : List St) (w : World) (hcame : Came p) (hp : PG w A1 A2 A3 A4 p) (hC : C.length ≤ maxLen) (fC : ∀ s ∈ C, s.fit) (hB : SG w B C) :
    Calls Try.prog 6 #[p.val A1 A2 A3 A4 c1 c2 c3 c4, .slice B C.length cb] w fun e w' => e = .returned (.bool true) ∧ Below w.heap.size w w' := by
  obtain ⟨hbX, d0⟩ := StG.one w A1 A2 A3 A4 c1 c2 c3 c4 p.stmts p.grow p.shrink p.asks
  have hX := heap_alloc_new w (.cells #[.slice A1 p.stmts.length c1, .slice A2 p.grow.length c2, .slice A3 p.shrink.length c3, .slice A4 p.asks.length c4] 40)
  have HLp := Lib.hid (PolLi.light p A1 A2 A3 A4 c1 c2 c3 c4 _ hcame (hp.below hbX))
  have HLc := Lib.hid (fun w' (hb : Below w.heap.size w w') => StH.light B cb C w' hC (hB.below hb))
  have HLv := Lib.hid (fun w' => StK.lives w')
  have HB0 := Lib.hid hbX
  have HX := Lib.hid hX
  have H1 := Lib.hid (fun w' (hb : Below w.heap.size w w') => hp.s.below hb)
  have H4 := Lib.hid (fun w' (hb : Below w.heap.size w w') => hB.below hb)
  have HF1 := Lib.hid hcame.f1
  have HF2 := Lib.hid fC
  have HGo := Lib.hid (fun w' (hb : Below w.heap.size w w') (n1 : p.stmts.length ≤ 30) (n4 : C.length ≤ 40) => gone p A1 A2 A3 A4 B c1 c2 c3 c4 cb C w' (by omega) (by omega) (hp.s.below hb) (hB.below hb) hcame.f1)
  have HAd := Lib.hid (fun w' (hb : Below w.heap.size w w') (n1 : p.stmts.length ≤ 30) (n4 : C.length ≤ 40) => added p A1 A2 A3 A4 B c1 c2 c3 c4 cb C w' (by omega) (by omega) (hp.s.below hb) (hB.below hb) fC)
  unfold PolLi.LightPost at HLp
  unfold StH.LightPost at HLc
  unfold OwnPost at HGo HAd
  unfold Py.val at HLp HGo HAd ⊢
  have FEW : Hid (Few p → p.stmts.length ≤ 30) := Lib.hid (fun h => h.n1)
  clear hbX hX d0 hp hB hcame fC
  obtain ⟨S, G, H, Q⟩ := p
  dsimp only at HLp HX H1 HF1 HGo HAd FEW HB0 ⊢
  go_enter Try.func6, Try.ntmps6
  go_upto_region 1 with fail
  obtain ⟨b0, hb0⟩ : ∃ b0, w.heap.size = b0 := ⟨_, rfl⟩
  rw [hb0] at HX
  simp only [hb0] at ⊢
  generalize w.alloc (.cells #[.slice A1 S.length c1, .slice A2 G.length c2, .slice A3 H.length c3, .slice A4 Q.length c4] 40) = w0 at *
  have HD := Lib.hid (fun w' (hb : Below w0.heap.size w0 w') (o : Nat) => Lib.cell_of_heap ((hb.block b0 (Array.getElem?_eq_some_iff.1 HX.out).1).trans HX.out) o)
  have d0 := HD.out w0 (Below.refl _ _)
  clear HX hb0
  go_wp2_with fail
  refine HLp.out.mono ?_
  rintro e w1 ⟨bp, rfl, hfp, hb1⟩
  have HB1 := Lib.hid hb1
  have HFP := Lib.hid hfp
  have HLc1 := Lib.hid (HLc.out w1 (nx HB0.out hb1))
  clear hb1 hfp HLp HLc d0
  cases bp with
  | false =>
    clear HFP HLc1
    go_wp2_with fail
    refine (HLv.out _).mono ?_
    rintro e w2 ⟨rfl, hb2⟩
    have HF := Lib.hid (nx HB0.out (nx HB1.out hb2))
    clear hb2
    go_wp2_with fail
    go_ret
    exact ⟨rfl, HF.out⟩
  | true =>
  go_wp2_with fail
  refine HLc1.out.mono ?_
  rintro e w2 ⟨bc, rfl, hfc, hb2⟩
  have HB2 := Lib.hid (nx HB1.out hb2)
  have HFC := Lib.hid hfc
  clear hb2 hfc HLc1 HB1
  cases bc with
  | false =>
    clear HFP HFC
    go_wp2_with fail
    refine (HLv.out _).mono ?_
    rintro e w3 ⟨rfl, hb3⟩
    have HF := Lib.hid (nx HB0.out (nx HB2.out hb3))
    clear hb3
    go_wp2_with fail
    go_ret
    exact ⟨rfl, HF.out⟩
  | true =>
  have lS : S.length ≤ 30 := FEW.out (HFP.out (by trivial))
  have lC : C.length ≤ 40 := HFC.out (by trivial)
  -- what is called, with lists for rows
  have hM1 : mi S C = (sortL cmpS [] S).filter (fun s => !decide (s ∈ C)) := rfl
  have hM2 : mi C S = (sortL cmpS [] C).filter (fun s => !decide (s ∈ S)) := rfl
  have HGo1 := Lib.hid (fun w' (hb : Below w0.heap.size w0 w') => HGo.out w' (nx HB0.out hb) lS lC)
  have HAd1 := Lib.hid (fun w' (hb : Below w0.heap.size w0 w') => HAd.out w' (nx HB0.out hb) lS lC)
  rw [← hM1] at HGo1
  rw [← hM2] at HAd1
  have K1 : Hid (∀ w', Below w0.heap.size w0 w' → Calls Try.prog 18 #[.slice A1 S.length c1, .slice B C.length cb] w' (OwnPost (mi S C) w')) := Lib.hid (fun w' hb => minus A1 B c1 cb S C w' (by omega) (by omega) (H1.out _ (nx HB0.out hb)) (H4.out _ (nx HB0.out hb)) HF1.out)
  have K2 : Hid (∀ w' A5 c5, Below w0.heap.size w0 w' → SG w' A5 (mi S C) → Calls Try.prog 18 #[.slice A1 S.length c1, .slice A5 (mi S C).length c5] w' (OwnPost (mi S (mi S C)) w')) := Lib.hid (fun w' A5 c5 hb h5 => minus A1 A5 c1 c5 S (mi S C) w' (by omega) (by have := mi_len S C; omega) (H1.out _ (nx HB0.out hb)) h5 HF1.out)
  have K3 : Hid (∀ w' A5 c5 A6 c6, SG w' A5 (mi S (mi S C)) → SG w' A6 (mi S C) → Calls Try.prog 17 #[.slice A5 (mi S (mi S C)).length c5, .slice A6 (mi S C).length c6] w' (OwnPost (sortL cmpS [] (S ++ [])) w')) := Lib.hid (fun w' A5 c5 A6 c6 h5 h6 => by
    have h := union A5 A6 c5 c6 (mi S (mi S C)) (mi S C) w' (by have := mi_len S (mi S C); omega) (by have := mi_len S C; omega) h5 h6
    rw [part1] at h
    exact h)
  have K4 : Hid (∀ w', Below w0.heap.size w0 w' → Calls Try.prog 17 #[.slice A1 S.length c1, .slice none 0 0] w' (OwnPost (sortL cmpS [] (S ++ [])) w')) := Lib.hid (fun w' hb => union A1 none c1 0 S [] w' (by omega) (by simp) (H1.out _ (nx HB0.out hb)) (fun h => by simp at h))
  have K5 : Hid (∀ (M : List St) w' A5 c5 A6 c6, M.length ≤ 10000 → SG w' A5 M → SG w' A6 M → Calls Try.prog 16 #[.slice A5 M.length c5, .slice A6 M.length c6] w' fun e wx => e = .returned (.bool true) ∧ Below w'.heap.size w' wx) := Lib.hid (fun M w' A5 c5 A6 c6 hM h5 h6 => by
    have h := same A5 A6 c5 c6 M M w' hM hM h5 h6
    rw [decide_eq_true rfl] at h
    exact h)
  have K6 : Hid (∀ w', Below w0.heap.size w0 w' → Calls Try.prog 18 #[.slice B C.length cb, .slice A1 S.length c1] w' (OwnPost (mi C S) w')) := Lib.hid (fun w' hb => minus B A1 cb c1 C S w' (by omega) (by omega) (H4.out _ (nx HB0.out hb)) (H1.out _ (nx HB0.out hb)) HF2.out)
  have K7 : Hid (∀ w' A5 c5, Below w0.heap.size w0 w' → SG w' A5 (mi C S) → Calls Try.prog 18 #[.slice B C.length cb, .slice A5 (mi C S).length c5] w' (OwnPost (mi S (mi S C)) w')) := Lib.hid (fun w' A5 c5 hb h5 => by
    have h := minus B A5 cb c5 C (mi C S) w' (by omega) (by have := mi_len C S; omega) (H4.out _ (nx HB0.out hb)) h5 HF2.out
    have e : (sortL cmpS [] C).filter (fun s => !decide (s ∈ mi C S)) = mi C (mi C S) := rfl
    rw [e, part2] at h
    exact h)
  have K8 : Hid (∀ w' A5 c5 A6 c6, SG w' A5 (mi S (mi S C)) → SG w' A6 (mi C S) → Calls Try.prog 17 #[.slice A5 (mi S (mi S C)).length c5, .slice A6 (mi C S).length c6] w' (OwnPost (sortL cmpS [] (C ++ [])) w')) := Lib.hid (fun w' A5 c5 A6 c6 h5 h6 => by
    have h := union A5 A6 c5 c6 (mi S (mi S C)) (mi C S) w' (by have := mi_len S (mi S C); omega) (by have := mi_len C S; omega) h5 h6
    rw [part3] at h
    exact h)
  have K9 : Hid (∀ w', Below w0.heap.size w0 w' → Calls Try.prog 17 #[.slice B C.length cb, .slice none 0 0] w' (OwnPost (sortL cmpS [] (C ++ [])) w')) := Lib.hid (fun w' hb => union B none cb 0 C [] w' (by omega) (by simp) (H4.out _ (nx HB0.out hb)) (fun h => by simp at h))
  have K10 : Hid (∀ w', Below w0.heap.size w0 w' → Calls Try.prog 18 #[.slice A1 S.length c1, .slice A1 S.length c1] w' (OwnPost [] w')) := Lib.hid (fun w' hb => by
    have h := minus A1 A1 c1 c1 S S w' (by omega) (by omega) (H1.out _ (nx HB0.out hb)) (H1.out _ (nx HB0.out hb)) HF1.out
    have e : (sortL cmpS [] S).filter (fun s => !decide (s ∈ S)) = mi S S := rfl
    rw [e, part4] at h
    exact h)
  have K11 : Hid (∀ x ∈ mi S (mi S C), ∀ w', Below w0.heap.size w0 w' → Calls Try.prog 14 #[.slice A1 S.length c1, x.val] w' fun e wx => e = .returned (.bool true) ∧ Below w'.heap.size w' wx) := Lib.hid (fun x hx w' hb => by
    have h := has_ A1 c1 S x w' (by omega) (H1.out _ (nx HB0.out hb))
    rw [decide_eq_true (mem_both.1 hx).1] at h
    exact h)
  have K12 : Hid (∀ x ∈ mi S (mi S C), ∀ w', Below w0.heap.size w0 w' → Calls Try.prog 14 #[.slice B C.length cb, x.val] w' fun e wx => e = .returned (.bool true) ∧ Below w'.heap.size w' wx) := Lib.hid (fun x hx w' hb => by
    have h := has_ B cb C x w' (by omega) (H4.out _ (nx HB0.out hb))
    rw [decide_eq_true (mem_both.1 hx).2] at h
    exact h)
  have hl1 : (mi S (mi S C)).length ≤ 30 := by have := mi_len S (mi S C); omega
  have hl2 : (sortL cmpS [] (S ++ [])).length ≤ 10000 := by have := sort_len (S ++ []); simp at this ⊢; omega
  have hl3 : (sortL cmpS [] (C ++ [])).length ≤ 10000 := by have := sort_len (C ++ []); simp at this ⊢; omega
  clear HF1 HF2 HGo HAd FEW HFP HFC hM1 hM2 H1 H4 lS lC
  generalize mi S (mi S C) = BO at *
  generalize mi S C = M1 at *
  generalize mi C S = M2 at *
  generalize sortL cmpS [] (S ++ []) = SS at *
  generalize sortL cmpS [] (C ++ []) = CC at *
  unfold OwnPost at K1 K2 K3 K4 K6 K7 K8 K9 K10
  have d2 := HD.out w2 HB2.out
  have HB := Lib.hid HB2.out
  -- region 4
  go_wp2_with fail
  refine (K1.out w2 HB2.out).mono ?_
  rintro e w3 ⟨v3, rfl, ho3, hb3⟩
  obtain ⟨A5, c5, rfl, h5⟩ := ho3.form
  have HB3 := Lib.hid (nx HB2.out hb3)
  have K2a := Lib.hid (K2.out w3 A5 c5 HB3.out h5)
  clear ho3 hb3 h5 d2 HB
  go_wp2_with fail
  refine K2a.out.mono ?_
  rintro e w4 ⟨v4, rfl, ho4, hb4⟩
  obtain ⟨A6, c6, rfl, h6⟩ := ho4.form
  have HB4 := Lib.hid (nx HB3.out hb4)
  have H6 := Lib.hid (fun w' (hb : Below w4.heap.size w4 w') => h6.below hb)
  clear ho4 hb4 h6 K2a HB3 HB2
  -- region 5
  go_wp2_with fail
  refine (K1.out w4 HB4.out).mono ?_
  rintro e w5 ⟨v5, rfl, ho5, hb5⟩
  obtain ⟨A7, c7, rfl, h7⟩ := ho5.form
  have HB5 := Lib.hid hb5
  have K3a := Lib.hid (K3.out w5 A6 c6 A7 c7 (H6.out w5 hb5) h7)
  clear ho5 hb5 h7 K1 K3
  go_wp2_with fail
  refine K3a.out.mono ?_
  rintro e w6 ⟨v6, rfl, ho6, hb6⟩
  obtain ⟨A8, c8, rfl, h8⟩ := ho6.form
  have HB6 := Lib.hid (nx HB5.out hb6)
  have H8 := Lib.hid (fun w' (hb : Below w6.heap.size w6 w') => h8.below hb)
  clear ho6 hb6 h8 K3a HB5
  go_wp2_with fail
  refine (K4.out w6 (nx HB4.out HB6.out)).mono ?_
  rintro e w7 ⟨v7, rfl, ho7, hb7⟩
  obtain ⟨A9, c9, rfl, h9⟩ := ho7.form
  have K5a := Lib.hid (K5.out SS w7 A8 c8 A9 c9 hl2 (H8.out w7 hb7) h9)
  have HB7 := Lib.hid (nx HB6.out hb7)
  clear ho7 hb7 h9 K4 H8 HB6
  go_wp2_with fail
  refine K5a.out.mono ?_
  rintro e w8 ⟨rfl, hb8⟩
  have HB8 := Lib.hid (nx HB7.out hb8)
  clear hb8 K5a HB7
  go_wp2_with fail
  refine (K6.out w8 (nx HB4.out HB8.out)).mono ?_
  rintro e w9 ⟨v9, rfl, ho9, hb9⟩
  obtain ⟨A10, c10, rfl, h10⟩ := ho9.form
  have HB9 := Lib.hid (nx HB8.out hb9)
  have K7a := Lib.hid (K7.out w9 A10 c10 (nx HB4.out HB9.out) h10)
  clear ho9 hb9 h10 K6 K7 HB8
  go_wp2_with fail
  refine K7a.out.mono ?_
  rintro e w10 ⟨v10, rfl, ho10, hb10⟩
  obtain ⟨A11, c11, rfl, h11⟩ := ho10.form
  have HB10 := Lib.hid (nx HB9.out hb10)
  have K5b := Lib.hid (K5.out BO w10 A11 c11 A6 c6 (by omega) h11 (H6.out w10 HB10.out))
  clear ho10 hb10 h11 K7a HB9
  go_wp2_with fail
  refine K5b.out.mono ?_
  rintro e w11 ⟨rfl, hb11⟩
  have HB11 := Lib.hid (nx HB10.out hb11)
  clear hb11 K5b HB10
  -- region 7
  have d11 := HD.out w11 (nx HB4.out HB11.out)
  go_upto_region 7 with fail
  go_cut [7] from 45 to 53 (fun v wx => ∃ A c, v = .slice A CC.length c ∧ Hid (SG wx A CC ∧ Below w11.heap.size w11 wx))
  case first =>
    have HK : Hid (∀ w', Below w11.heap.size w11 w' → Below w11.heap.size w11 w' ∧ ∀ o, w'.cell? ⟨b0, o, none⟩ = (#[.slice A1 S.length c1, .slice A2 G.length c2, .slice A3 H.length c3, .slice A4 Q.length c4] : Array Value)[o]?) := Lib.hid (fun w' hb => ⟨hb, HD.out w' (nx HB4.out (nx HB11.out hb))⟩)
    have HS := Lib.hid (HK.out _ ((Below.refl w11.heap.size w11).drew))
    have HW : Hid (∀ w', Below w11.heap.size w11 w' → Below w0.heap.size w0 w') := Lib.hid (fun w' hb => nx HB4.out (nx HB11.out hb))
    clear K5 K9 K10 K11 K12 HD H6
    go_region_held3 (fun w' => Below w11.heap.size w11 w' ∧ ∀ o, w'.cell? ⟨b0, o, none⟩ = (#[.slice A1 S.length c1, .slice A2 G.length c2, .slice A3 H.length c3, .slice A4 Q.length c4] : Array Value)[o]?)
      (first | with_reducible assumption | exact HS.out | exact HK.out _ (nx (by apply And.left; with_reducible assumption) (by with_reducible assumption)))
      (first | ((with_reducible refine (HGo1.out _ (HW.out _ (by apply And.left; with_reducible assumption))).mono ?_); rintro e wa ⟨va, rfl, hoa, hba⟩; obtain ⟨Aa, ca, rfl, ha⟩ := hoa.form)
             | ((with_reducible refine (HAd1.out _ (HW.out _ (by apply And.left; with_reducible assumption))).mono ?_); rintro e wb ⟨vb, rfl, hob, hbb⟩; obtain ⟨Ab, cbb, rfl, hbS⟩ := hob.form)
             | ((with_reducible refine (K2.out _ _ _ (HW.out _ (by apply And.left; with_reducible assumption)) (by first | with_reducible assumption | exact SG.below ha (by with_reducible assumption))).mono ?_); rintro e wc ⟨vc, rfl, hoc, hbc⟩; obtain ⟨Ac, cc, rfl, hcS⟩ := hoc.form)
             | ((with_reducible refine (K8.out _ _ _ _ _ (by first | with_reducible assumption | exact SG.below hcS (by with_reducible assumption)) (by first | with_reducible assumption | exact SG.below hbS (by with_reducible assumption) | exact SG.below (SG.below hbS (by with_reducible assumption)) (by with_reducible assumption))).mono ?_); rintro e wd ⟨vd, rfl, hod, hbd⟩; obtain ⟨Ad, cd, rfl, hdS⟩ := hod.form))
    all_goals rename_i hHeld
    all_goals (have HE := Lib.hid (And.intro hdS hHeld.1); clear hHeld; go_wp2_with fail; go_meet)
    all_goals
      case rel => exact ⟨_, _, rfl, HE⟩
  case rest =>
    obtain ⟨A12, c12, rfl, hcut⟩ := hcut
    have HBc := Lib.hid (nx HB11.out hcut.out.2)
    have H12 := Lib.hid (fun w' (hb : Below wc.heap.size wc w') => hcut.out.1.below hb)
    clear hcut d11 HGo1 HAd1 K2 K8 HB11
    go_wp2_with fail
    go_loopw [56] (fun i wr => ∃ j : Nat, j ≤ BO.length ∧ i = .int .i64 j ∧ Below wc.heap.size wc wr) (fun i _ => BO.length - (intOf i).toNat)
    case atStart => exact ⟨0, by omega, rfl, Below.refl _ _⟩
    case round =>
      obtain ⟨j, hj, rfl, hb⟩ := hrel
      by_cases hlt : j < BO.length
      · have e1 : decide ((j : Int) < BO.length) = true := by simp; omega
        obtain ⟨g, o, rfl, hg, hc⟩ := H6.out _ (nx HBc.out hb) (by omega)
        obtain ⟨a0, a1, a2, a3, a4, a5, a6, a7, a8⟩ := hc j hlt
        have p1 : (0 : Int) ≤ j := by omega
        have p2 : (j : Int) < BO.length := by omega
        have Ka := Lib.hid (K11.out BO[j] (List.getElem_mem hlt))
        have Kb := Lib.hid (K12.out BO[j] (List.getElem_mem hlt))
        have HBr := Lib.hid hb
        clear hc hb hg
        generalize BO[j] = x at *
        obtain ⟨k1, ⟨ho, hn⟩, wh, ⟨ao, an⟩, ⟨bo, bn⟩, v1⟩ := x
        unfold St.val at Ka Kb
        dsimp only at Ka Kb a0 a1 a2 a3 a4 a5 a6 a7 a8
        have hbX := below_alloc wr (.cells #[.int .i64 k1, .string ho, .string hn, .string wh, .string ao, .string an, .string bo, .string bn, .string v1] 26)
        have HX := Lib.hid (heap_alloc_new wr (.cells #[.int .i64 k1, .string ho, .string hn, .string wh, .string ao, .string an, .string bo, .string bn, .string v1] 26))
        have HBX := Lib.hid (nx HBr.out hbX)
        have hz : (wr.alloc (.cells #[.int .i64 k1, .string ho, .string hn, .string wh, .string ao, .string an, .string bo, .string bn, .string v1] 26)).heap.size = wr.heap.size + 1 := by simp
        clear hbX
        go_upto_region 11 with fail
        obtain ⟨bx, hbx⟩ : ∃ bx, wr.heap.size = bx := ⟨_, rfl⟩
        rw [hbx] at HX hz
        simp only [hbx] at ⊢
        generalize wr.alloc (.cells #[.int .i64 k1, .string ho, .string hn, .string wh, .string ao, .string an, .string bo, .string bn, .string v1] 26) = wx at *
        have HC := Lib.hid (fun w' (hb : Below wx.heap.size wx w') (o : Nat) => Lib.cell_of_heap ((hb.block bx (by omega)).trans HX.out) o)
        have cx := HC.out wx (Below.refl _ _)
        clear a0 a1 a2 a3 a4 a5 a6 a7 a8 hbx hz HX
        go_wp2_with fail
        refine (Ka.out _ (nx HB4.out (nx HBc.out HBX.out))).mono ?_
        rintro e wy ⟨rfl, hby⟩
        have HBy := Lib.hid (nx HBX.out hby)
        have cy := HC.out wy hby
        clear hby cx Ka HC
        go_wp2_with fail
        refine (Kb.out _ (nx HB4.out (nx HBc.out HBy.out))).mono ?_
        rintro e wz ⟨rfl, hbz⟩
        have HBz := Lib.hid (nx HBy.out hbz)
        clear hbz cy Kb
        go_wp2_with fail
        go_roundw
        case rel => exact ⟨j + 1, by omega, by go_num, HBz.out⟩
        case measure => simp [intOf]; omega
      · have e1 : decide ((j : Int) < BO.length) = false := by simp; omega
        have HBr := Lib.hid (nx HBc.out hb)
        have H13 := Lib.hid (fun w' (hb' : Below wr.heap.size wr w') => H12.out w' (nx hb hb'))
        clear hb K11 K12 H12 HBc H6
        go_wp2_with fail
        refine (K9.out wr (nx HB4.out HBr.out)).mono ?_
        rintro e wa ⟨va, rfl, hoa, hba⟩
        obtain ⟨Aa, ca, rfl, ha⟩ := hoa.form
        have K5a := Lib.hid (K5.out CC wa A12 c12 Aa ca hl3 (H13.out wa hba) ha)
        have HBa := Lib.hid (nx HBr.out hba)
        clear hoa hba ha K9 H13 HBr
        go_wp2_with fail
        refine K5a.out.mono ?_
        rintro e wb ⟨rfl, hbb⟩
        have HBb := Lib.hid (nx HBa.out hbb)
        clear hbb K5a HBa
        go_wp2_with fail
        refine (K10.out wb (nx HB4.out HBb.out)).mono ?_
        rintro e wd ⟨vd, rfl, hod, hbd⟩
        obtain ⟨Ad, cd, rfl, hd⟩ := hod.form
        have K5c : Hid (Calls Try.prog 16 #[.slice Ad 0 cd, .slice none 0 0] wd fun e wx => e = .returned (.bool true) ∧ Below wd.heap.size wd wx) := Lib.hid (K5.out [] wd Ad cd none 0 (by simp) hd (fun h => by simp at h))
        have HBd := Lib.hid (nx HBb.out hbd)
        clear hod hbd hd K10 HBb
        go_wp2_with fail
        refine K5c.out.mono ?_
        rintro e we ⟨rfl, hbe⟩
        have HBe := Lib.hid (nx HBd.out hbe)
        clear hbe K5c HBd
        go_wp2_with fail
        refine (HLv.out _).mono ?_
        rintro e wf ⟨rfl, hbf⟩
        have HF := Lib.hid (nx HB0.out (nx HB4.out (nx HBe.out hbf)))
        clear hbf
        go_wp2_with fail
        go_ret
        exact ⟨rfl, HF.out⟩
end Go.Proofs.Ytpjacngbkohmdaa.StN
/- What an argument that is a statement reads as. -/
namespace Go.Proofs.Ytpjacngbkohmdaa.SynF
set_option linter.unusedVariables false
set_option linter.unusedSimpArgs false
open Go.ChangeShapes Go.WideShapes Go.ChangeAt Go.RowKit
open Go.ChangeMaps (open_string shut_string)
open Go.Proofs.Ytpjacngbkohmdaa.Plain Go.Proofs.Ytpjacngbkohmdaa.SynP
set_option maxRecDepth 1000000
theorem cells3 : Try.prog.cellsOf 3 = 1 := by kernel_rfl
theorem cells9 : Try.prog.cellsOf 9 = 1 := by kernel_rfl
theorem cellsR : Try.prog.cellsOf 24 = 2 := by kernel_rfl
theorem cellsS : Try.prog.cellsOf 26 = 9 := by kernel_rfl
section
variable {H : Type} {enc : TypeId × Value → H} {w : World} {base : Nat} {spare : Nat → Bool} {held : Bool} {fuel : Nat} {cs : List Value} {x : DataW H × List MemPlace}
theorem some_at {α : Type} {xs : List α} {n i : Nat} (h : xs.length = n) (hi : i < n) : ∃ y, xs[i]? = some y := ⟨xs[i]'(by omega), List.getElem?_eq_getElem _⟩
theorem role_cells (h : DataW.trod enc Try.prog w base spare held fuel 24 cs = some x) : ∃ r : Rl, cs = [.string r.owner, .string r.name] ∧ r.light := by
  obtain ⟨xs, n, _, _, hl, hxl, hf⟩ := DataW.trod_struct Try.underlying24 h
  rw [cellsR] at hl
  match cs, hl with
  | [c0, c1], _ =>
    have h0 : DataW.trod enc Try.prog w base spare held n 9 (([c0, c1].drop 0).take (Try.prog.cellsOf 9)) = xs[0]? := hf 0 _ rfl
    have h1 : DataW.trod enc Try.prog w base spare held n 9 (([c0, c1].drop 1).take (Try.prog.cellsOf 9)) = xs[1]? := hf 1 _ rfl
    obtain ⟨y0, e0⟩ := some_at (i := 0) hxl (by decide)
    obtain ⟨y1, e1⟩ := some_at (i := 1) hxl (by decide)
    rw [e0] at h0
    rw [e1] at h1
    rw [cells9] at h0 h1
    obtain ⟨s0, a0, _, b0⟩ := DataW.trod_string Try.underlying9 h0
    obtain ⟨s1, a1, _, b1⟩ := DataW.trod_string Try.underlying9 h1
    simp at a0 a1
    subst a0; subst a1
    exact ⟨⟨s0, s1⟩, rfl, b0, b1⟩
theorem stmt_cells (h : DataW.trod enc Try.prog w base spare held fuel 26 cs = some x) : ∃ s : St, cs = s.cells ∧ s.fit := by
  obtain ⟨xs, n, _, _, hl, hxl, hf⟩ := DataW.trod_struct Try.underlying26 h
  rw [cellsS] at hl
  match cs, hl with
  | [c0, c1, c2, c3, c4, c5, c6, c7, c8], _ =>
    have h0 : DataW.trod enc Try.prog w base spare held n 3 (([c0, c1, c2, c3, c4, c5, c6, c7, c8].drop 0).take (Try.prog.cellsOf 3)) = xs[0]? := hf 0 _ rfl
    have h1 : DataW.trod enc Try.prog w base spare held n 24 (([c0, c1, c2, c3, c4, c5, c6, c7, c8].drop 1).take (Try.prog.cellsOf 24)) = xs[1]? := hf 1 _ rfl
    have h2 : DataW.trod enc Try.prog w base spare held n 9 (([c0, c1, c2, c3, c4, c5, c6, c7, c8].drop 3).take (Try.prog.cellsOf 9)) = xs[2]? := hf 2 _ rfl
    have h3 : DataW.trod enc Try.prog w base spare held n 24 (([c0, c1, c2, c3, c4, c5, c6, c7, c8].drop 4).take (Try.prog.cellsOf 24)) = xs[3]? := hf 3 _ rfl
    have h4 : DataW.trod enc Try.prog w base spare held n 24 (([c0, c1, c2, c3, c4, c5, c6, c7, c8].drop 6).take (Try.prog.cellsOf 24)) = xs[4]? := hf 4 _ rfl
    have h5 : DataW.trod enc Try.prog w base spare held n 9 (([c0, c1, c2, c3, c4, c5, c6, c7, c8].drop 8).take (Try.prog.cellsOf 9)) = xs[5]? := hf 5 _ rfl
    obtain ⟨y0, e0⟩ := some_at (i := 0) hxl (by decide)
    obtain ⟨y1, e1⟩ := some_at (i := 1) hxl (by decide)
    obtain ⟨y2, e2⟩ := some_at (i := 2) hxl (by decide)
    obtain ⟨y3, e3⟩ := some_at (i := 3) hxl (by decide)
    obtain ⟨y4, e4⟩ := some_at (i := 4) hxl (by decide)
    obtain ⟨y5, e5⟩ := some_at (i := 5) hxl (by decide)
    rw [e0] at h0
    rw [e1] at h1
    rw [e2] at h2
    rw [e3] at h3
    rw [e4] at h4
    rw [e5] at h5
    rw [cells3] at h0
    rw [cellsR] at h1 h3 h4
    rw [cells9] at h2 h5
    obtain ⟨k, a0, _, _⟩ := DataW.trod_int Try.underlying3 h0
    obtain ⟨r1, a1, b1⟩ := role_cells h1
    obtain ⟨s2, a2, _, b2⟩ := DataW.trod_string Try.underlying9 h2
    obtain ⟨r3, a3, b3⟩ := role_cells h3
    obtain ⟨r4, a4, b4⟩ := role_cells h4
    obtain ⟨s5, a5, _, b5⟩ := DataW.trod_string Try.underlying9 h5
    simp at a0 a1 a2 a3 a4 a5
    obtain ⟨a11, a12⟩ := a1
    obtain ⟨a31, a32⟩ := a3
    obtain ⟨a41, a42⟩ := a4
    subst a0 a11 a12 a2 a31 a32 a41 a42 a5
    exact ⟨⟨k, r1, s2, r3, r4, s5⟩, rfl, b1, b2, b3, b4, b5⟩
theorem open_stmt {r : Reach} {b0 : Nat} {v : Value} {d : DataW H} {p : List MemPlace} (hv : Value.okWide Try.prog w r b0 26 v) (h : DataW.Trod enc Try.prog w base spare held 26 v d p) : ∃ s : St, v = s.val ∧ s.fit := by
  obtain ⟨cs, rfl, hsz⟩ := okWide_struct Try.underlying26 hv
  obtain ⟨fuel, hf⟩ := h
  obtain ⟨s, hs, hfit⟩ := stmt_cells hf
  refine ⟨s, ?_, hfit⟩
  have : cs.toList = s.cells := by simpa [Value.cells] using hs
  obtain ⟨l⟩ := cs
  simp at this
  subst this
  rfl
end
end Go.Proofs.Ytpjacngbkohmdaa.SynF
/- What an argument that is a row of statements reads as. -/
namespace Go.Proofs.Ytpjacngbkohmdaa.StO
set_option linter.unusedVariables false
set_option linter.unusedSimpArgs false
open Go.ChangeShapes Go.WideShapes Go.ChangeAt Go.RowKit
open Go.Proofs.Ytpjacngbkohmdaa.SynP Go.Proofs.Ytpjacngbkohmdaa.PolE Go.Proofs.Ytpjacngbkohmdaa.PolOp
set_option linter.unusedVariables false
set_option maxRecDepth 1000000
theorem open_stmts {H : Type} {enc : TypeId × Value → H} {W : World} {base : Nat} {v : Value} {d : DataW H} {p : List MemPlace}
    (hval : Value.okWide Try.prog W .any base 22 v) (h : DataW.Trod enc Try.prog W 0 (fun _ => true) true 22 v d p) :
    ∃ (A : Option Addr) (c : Nat) (L : List St), v = .slice A L.length c ∧ L.length ≤ maxLen ∧ (∀ s ∈ L, s.fit) ∧ SG W A L := by
  obtain ⟨a0, len, cap, rfl⟩ := okWide_slice Try.underlying22 hval
  obtain ⟨fuel, hf⟩ := h
  exact stmts_cell hf
end Go.Proofs.Ytpjacngbkohmdaa.StO
