/- high.Eval by contract: the greatest state's table and model. -/
import Derived.Test.YteabkbcbmimkgaaGreatDoorM39
import Derived.Test.YteabkbcbmimkgaaGreatDoorM38
import Derived.Test.YteabkbcbmimkgaaGreatDoorM34
set_option linter.unusedVariables false
set_option linter.unusedSimpArgs false
namespace Go.Proofs.YteabkbcbmimkgaaGreatDoor.HiG
open Go.Shelf Go.RowKit Go.Sort Go.Lib Go.Proofs Plain SynP TabP Tab1 QryP PolA PolE PolG PolH PolLi PolOp TblB TblC TblI TblV TblW LwH HiA
open StB (OwnPost OwnS)
abbrev nx6 := @LwH.nx
theorem role_light {p : Py} (hc : Came p) : ∀ r ∈ rolesP p, r.light := by
  intro r hr
  unfold rolesP at hr
  simp only [List.mem_append] at hr
  rcases hr with ((h | h) | h) | h
  · exact hc.f2 r h
  · exact hc.f3 r h
  · unfold rolesS at h
    rw [List.take_length] at h
    obtain ⟨l, hl, hr⟩ := List.mem_flatten.1 h
    obtain ⟨s, hs, rfl⟩ := List.mem_map.1 hl
    obtain ⟨f1, f2, f3, f4, f5⟩ := hc.f1 s hs
    unfold SynJ.rolesL at hr
    split at hr
    · simp at hr
      rcases hr with rfl | rfl
      · exact f1
      · exact f3
    · split at hr
      · simp at hr
        rcases hr with rfl | rfl | rfl
        · exact f1
        · exact f3
        · exact f4
      · simp at hr
        subst hr
        exact f1
  · unfold rolesA at h
    rw [List.take_length] at h
    obtain ⟨l, hl, hr⟩ := List.mem_flatten.1 h
    obtain ⟨q, hq, rfl⟩ := List.mem_map.1 hl
    obtain ⟨f1, f2, _, _⟩ := hc.f4 q hq
    unfold QryO.rolesQ at hr
    split at hr
    · simp at hr
      rcases hr with rfl | rfl
      · exact f1
      · exact f2
    · simp at hr
      subst hr
      exact f1
theorem prin_short {p : Py} (hc : Came p) : ∀ x ∈ PT p, x.length ≤ maxLen := by
  intro x hx
  unfold PT at hx
  rw [mem_tab] at hx
  unfold prinsT at hx
  simp only [List.mem_append] at hx
  rcases hx with (h | h) | h
  · unfold ownersR at h
    rw [List.take_length] at h
    obtain ⟨r, hr, rfl⟩ := List.mem_map.1 h
    exact (role_light hc r hr).1
  · unfold whosS at h
    rw [List.take_length] at h
    obtain ⟨s, hs, rfl⟩ := List.mem_map.1 h
    exact (hc.f1 s (List.mem_filter.1 hs).1).2.1
  · unfold whosA at h
    rw [List.take_length] at h
    obtain ⟨l, hl, hr⟩ := List.mem_flatten.1 h
    obtain ⟨q, hq, rfl⟩ := List.mem_map.1 hl
    exact (hc.f4 q hq).2.2.2 x hr
theorem name_short {p : Py} (hc : Came p) : ∀ x ∈ NT p, x.length ≤ maxLen := by
  intro x hx
  unfold NT at hx
  rw [mem_tab] at hx
  unfold namesT at hx
  simp only [List.mem_append] at hx
  rcases hx with h | h
  · unfold namesR at h
    rw [List.take_length] at h
    obtain ⟨r, hr, rfl⟩ := List.mem_map.1 h
    exact (role_light hc r hr).2
  · unfold viasS at h
    rw [List.take_length] at h
    obtain ⟨s, hs, rfl⟩ := List.mem_map.1 h
    exact (hc.f1 s (List.mem_filter.1 hs).1).2.2.2.2
theorem fresh_short {p : Py} (hf : Few p) (hc : Came p) : (FT p).length ≤ maxLen := by
  obtain ⟨_, k, _, hk, e⟩ := mem_fr (PT p) 1 (1000 + (PT p).length) (FT p) (by rw [fr_eq]; simp)
  have := HiB.pt_small hf hc
  rw [e]
  unfold xs
  have hd : (Lib.decDigits k).length ≤ 20 := by rw [Lib.decDigits_length]; exact Lib.nDigits_le20 k (by omega)
  rw [List.length_cons]
  unfold maxLen
  omega
theorem max_fit {p : Py} (hf : Few p) (hc : Came p) : ∀ s ∈ maxS p, s.fit := by
  intro s hs
  rcases mem_max.1 hs with h | h
  · exact hc.f1 s h
  · obtain ⟨r, hr, x, hx, rfl⟩ := mem_hp.1 h
    have hE : ∀ x ∈ ET p, x.length ≤ maxLen := fun x hx => by
      rcases et_mem.1 hx with h | rfl
      · exact prin_short hc x h
      · exact fresh_short hf hc
    obtain ⟨h1, h2, _⟩ := mem_hr.1 hr
    exact ⟨⟨hE _ h1, name_short hc _ h2⟩, hE _ hx, ⟨Nat.zero_le _, Nat.zero_le _⟩, ⟨Nat.zero_le _, Nat.zero_le _⟩, Nat.zero_le _⟩
set_option maxHeartbeats 4000000 in
set_option maxRecDepth 100000 in
theorem highEval (p : Py) (A1 A2 A3 A4 : Option Addr) (c1 c2 c3 c4 : Nat) (w : World) (hT : SetJ.Tab w) (hw : Tab3.Pow w) (hf : Few p) (hc : Came p) (hp : PG w A1 A2 A3 A4 p) (hE : (ET p).length ≤ 7) (hN : (NT p).length ≤ 4) :
    Calls Tryz.prog 13 #[p.val A1 A2 A3 A4 c1 c2 c3 c4] w (TMPost (ET p) (NT p) (rulesOf (ET p) (NT p) (maxS p)) w) := by
  have n1 := hf.n1
  have HFr := Lib.hid (fun w' (hb : Below w.heap.size w w') => HiB.fresh p A1 A2 A3 A4 c1 c2 c3 c4 w' (Tab3.Pow.keep hw (Laid.pow_lt hw) hb) hf hc (hp.below hb))
  have HFo : Hid (∀ A c w', Below w.heap.size w w' → SRow w' A [FT p] → Calls Tryz.prog 55 #[p.val A1 A2 A3 A4 c1 c2 c3 c4, .slice A 1 c] w' (NewTPost (ET p) (NT p) w')) := Lib.hid (fun A c w' hb hr => forT p A1 A2 A3 A4 c1 c2 c3 c4 A c [FT p] w' hf hc (hp.below hb) (by simp) hr)
  have HMi := Lib.hid (fun w' (hb : Below w.heap.size w w') => HiF.maximal p A1 A2 A3 A4 c1 c2 c3 c4 w' (Tab3.Pow.keep hw (Laid.pow_lt hw) hb) hf hc (hp.below hb) hE hN)
  have hml : (maxS p).length ≤ 226 := Nat.le_trans (max_len p) (by have := hp_len hE hN; omega)
  have HFM := Lib.hid (max_fit hf hc)
  have HTab := Lib.hid (fun w' (hb : Below w.heap.size w w') => SetJ.Tab.below hT hb)
  have HS1 : Hid (∀ (w' : World), SRow (w'.alloc (.cells #[.string (TblR.txt (FT p))] 9)) (some ⟨w'.heap.size, 0, none⟩) [FT p]) := Lib.hid (fun w' _ => ⟨w'.heap.size, 0, rfl, by simp, fun j hj => by
    have : j = 0 := by simp at hj; omega
    subst this
    rw [Lib.cell_of_heap (heap_alloc_new w' _)]; rfl⟩)
  unfold TMPost
  generalize FT p = X at *
  generalize ET p = PP at *
  generalize NT p = NN at *
  obtain ⟨M, hM⟩ : ∃ M, maxS p = M := ⟨_, rfl⟩
  rw [hM] at HMi HFM hml ⊢
  obtain ⟨R, hR⟩ : ∃ R, rulesOf PP NN M = R := ⟨_, rfl⟩
  have hrl := rulesOf_len PP NN M
  have HR := Lib.hid hR
  rw [hR] at hrl ⊢
  unfold NewTPost at HFo
  unfold OwnPost at HMi
  obtain ⟨S, G, H, Q⟩ := p
  unfold Py.val at *
  dsimp only at *
  have hbX := (Below.refl w.heap.size w).alloc (Nat.le_refl _) (.cells #[.slice A1 S.length c1, .slice A2 G.length c2, .slice A3 H.length c3, .slice A4 Q.length c4] 26)
  have hcl := heap_alloc_new w (.cells #[.slice A1 S.length c1, .slice A2 G.length c2, .slice A3 H.length c3, .slice A4 Q.length c4] 26)
  have HB := Lib.hid hbX
  clear hbX hf hc hp hT hw hM hR n1
  go_enter Tryz.func13, Tryz.ntmps13
  go_upto_region 1 with fail
  obtain ⟨bp, hbp⟩ : ∃ bp, w.heap.size = bp := ⟨_, rfl⟩
  simp only [hbp] at hcl ⊢
  generalize w.alloc (.cells #[.slice A1 S.length c1, .slice A2 G.length c2, .slice A3 H.length c3, .slice A4 Q.length c4] 26) = w0 at *
  have HBW : Hid (bp < w0.heap.size) := Lib.hid (Array.getElem?_eq_some_iff.1 hcl).1
  have HKK : Hid (∀ w', Below w0.heap.size w0 w' → Below w0.heap.size w0 w' ∧ (∀ o, w'.cell? ⟨bp, o, none⟩ = (#[.slice A1 S.length c1, .slice A2 G.length c2, .slice A3 H.length c3, .slice A4 Q.length c4] : Array Value)[o]?)) := Lib.hid (fun w' hb => ⟨hb, fun o => Lib.cell_of_heap ((hb.block bp (Array.getElem?_eq_some_iff.1 hcl).1).trans hcl) o⟩)
  have hst := HKK.out w0.drew ((Below.refl _ _).drew)
  have M1 := Lib.hid (fun w' (hb' : Below w0.heap.size w0 w') => HFr.out w' (nx6 HB.out hb'))
  have M2 := Lib.hid (fun A c w' (hb' : Below w0.heap.size w0 w') hr => HFo.out A c w' (nx6 HB.out hb') hr)
  clear hcl HFr HFo
  go_region_held3 (fun w' => Below w0.heap.size w0 w' ∧ (∀ o, w'.cell? ⟨bp, o, none⟩ = (#[.slice A1 S.length c1, .slice A2 G.length c2, .slice A3 H.length c3, .slice A4 Q.length c4] : Array Value)[o]?))
    (first | with_reducible exact hst | with_reducible assumption | exact HKK.out _ (nx6 (by apply And.left; with_reducible assumption) (by with_reducible assumption)) | exact HKK.out _ (nx6 (by apply And.left; with_reducible assumption) (LwL.below_alloc _ _)))
    (first | ((with_reducible refine (M1.out _ (by apply And.left; with_reducible assumption)).mono ?_); rintro e x1 ⟨rfl, hb1⟩)
           | ((with_reducible refine (M2.out _ _ _ (by apply And.left; with_reducible assumption) (HS1.out _)).mono ?_); rintro e x2 ⟨t, a, b, B1, d1, B2, d2, rfl, htb, hb2⟩))
  all_goals rename_i hHeld
  all_goals
    obtain ⟨hbz, hcz⟩ := hHeld
    have HT1 := Lib.hid htb
    have HB1 := Lib.hid (nx6 HB.out hbz)
    have HKZ : Hid (∀ w', Below x2.heap.size x2 w' → Below x2.heap.size x2 w' ∧ (∀ o, w'.cell? ⟨bp, o, none⟩ = (#[.slice A1 S.length c1, .slice A2 G.length c2, .slice A3 H.length c3, .slice A4 Q.length c4] : Array Value)[o]?)) := Lib.hid (fun w' hb => ⟨hb, (HKK.out w' (nx6 hbz hb)).2⟩)
    clear htb hbz hcz hb1 hb2 hst M1 M2 HKK
    have H1 := Lib.hid (fun w' (hb : Below x2.heap.size x2 w') => TblA.prins (HT1.out.keep hb))
    have H2 := Lib.hid (fun w' (hb : Below x2.heap.size x2 w') => TblA.links (HT1.out.keep hb))
    have H3 := Lib.hid (fun w' (hb : Below x2.heap.size x2 w') => Tab1.len w' a B1 PP.length d1 (HT1.out.keep hb).a0)
    have H4 := Lib.hid (fun w' (hb : Below x2.heap.size x2 w') => Tab1.len w' b B2 NN.length d2 (HT1.out.keep hb).b0)
    have H5 := Lib.hid (fun w' (hb : Below x2.heap.size x2 w') => HMi.out w' (nx6 HB1.out hb))
    have H6 := Lib.hid (fun w' (hb : Below x2.heap.size x2 w') A ca hA => TblW.rules w' (HT1.out.keep hb) A ca M (by omega) HFM.out hA)
    have ert : rulesT PP NN M M.length = R := HR.out
    rw [ert] at H6
    have H7 := Lib.hid (fun w' (hb : Below x2.heap.size x2 w') A ca (hA : UG w' A R) => evalS PP.length NN.length (by omega) (by omega) A ca R w' (HTab.out w' (nx6 HB1.out hb)) (by omega) hA)
    have HTK := Lib.hid (fun w' (hb : Below x2.heap.size x2 w') => HT1.out.keep hb)
    unfold RulesPost at H6
    unfold SPost at H7
    clear ert HMi HTab HR
    have hst := HKZ.out x2.drew ((Below.refl _ _).drew)
    go_wp2_with fail
    go_region_held3 (fun w' => Below x2.heap.size x2 w' ∧ ∀ o, w'.cell? ⟨bp, o, none⟩ = (#[.slice A1 S.length c1, .slice A2 G.length c2, .slice A3 H.length c3, .slice A4 Q.length c4] : Array Value)[o]?)
      (first | with_reducible exact hst | with_reducible assumption | exact HKZ.out _ (nx6 (by apply And.left; with_reducible assumption) (by with_reducible assumption)))
      (first | ((with_reducible refine (H1.out _ (by apply And.left; with_reducible assumption)).mono ?_); rintro e w' ⟨rfl, rfl⟩)
             | ((with_reducible refine (H2.out _ (by apply And.left; with_reducible assumption)).mono ?_); rintro e w' ⟨rfl, rfl⟩)
             | ((with_reducible refine (H3.out _ (by apply And.left; with_reducible assumption)).mono ?_); rintro e w' ⟨rfl, rfl⟩)
             | ((with_reducible refine (H4.out _ (by apply And.left; with_reducible assumption)).mono ?_); rintro e w' ⟨rfl, rfl⟩)
             | ((with_reducible refine (H5.out _ (by apply And.left; with_reducible assumption)).mono ?_); rintro e w5 ⟨v5, rfl, ho5, hb5⟩; obtain ⟨A5, k5, rfl, hsg5⟩ := ho5.form)
             | ((with_reducible refine (H6.out _ (by apply And.left; with_reducible assumption) A5 k5 hsg5).mono ?_); rintro e w6 ⟨A6, k6, rfl, hug6, hb6⟩)
             | ((with_reducible refine (H7.out _ (by apply And.left; with_reducible assumption) A6 k6 hug6).mono ?_); rintro e w7 ⟨mo, st, rfl, hmo, hb7⟩))
    all_goals rename_i hHeld
    all_goals (have HF : Hid (TM w7 (.pointer (some ⟨t, 0, none⟩)) (.pointer (some ⟨mo, 0, none⟩)) PP NN R ∧ Below w.heap.size w w7) := Lib.hid ⟨⟨t, a, b, B1, d1, B2, d2, mo, st, rfl, rfl, HTK.out _ hHeld.1, hmo⟩, nx6 HB1.out hHeld.1⟩)
    all_goals clear hHeld hmo
    all_goals go_wp2_with fail
    all_goals go_ret2
    all_goals exact ⟨_, _, rfl, HF.out.1, HF.out.2⟩
end Go.Proofs.YteabkbcbmimkgaaGreatDoor.HiG
namespace Go.Proofs.YteabkbcbmimkgaaGreatDoor.HiH
open Go.RowKit Go.Sort Go.Lib Go.Proofs Plain SynP TabP Tab1 Tab5 PolA PolE PolG PolH PolOp PolLi TblA TblB TblC TblI TblV TblW TblQ TblP TblF TblG TblH SetB SetJ SetN SetR SemA SemH SemGa StB LwG
open LwH
abbrev nx7 := @TblW.nx
set_option maxHeartbeats 2000000 in
set_option maxRecDepth 100000 in
theorem highMembers (p : Py) (A1 A2 A3 A4 : Option Addr) (c1 c2 c3 c4 : Nat) (s : Rl) (PP NN : List Str) (T : List Ru) (w : World) (hT : Tab w) (hP : PP.length ≤ 64)
    (hE : ∀ w', Below w.heap.size w w' → Calls Tryz.prog 13 #[p.val A1 A2 A3 A4 c1 c2 c3 c4] w' (TMPost PP NN T w')) :
    Calls Tryz.prog 22 #[p.val A1 A2 A3 A4 c1 c2 c3 c4, s.val] w (RowPost (memT PP NN T s) w) := by
  have HE := Lib.hid hE
  have HTab := Lib.hid (fun w' (hb : Below w.heap.size w w') => Tab.below hT hb)
  obtain ⟨i0, hi, hz0, hz1, hz2⟩ := info_parts Tab3.infoStr
  unfold RowPost
  unfold TMPost TM at HE
  obtain ⟨MT, hMT⟩ : ∃ MT, memT PP NN T s = MT := ⟨_, rfl⟩
  have HMT := Lib.hid hMT
  rw [hMT]
  unfold memT at HMT
  have HRo := Lib.hid (fun (w' : World) t a b A1 c1 A2 c2 (h : TblK w' t a b A1 c1 A2 c2 PP NN) => TblA.role h s)
  obtain ⟨ri, hri⟩ : ∃ ri, roleI PP NN s = ri := ⟨_, rfl⟩
  rw [hri] at HMT HRo
  have HMe := Lib.hid (fun (w' : World) mo st (h : MoS w' mo PP.length NN.length T st) (hb : Below w.heap.size w w') => membersM h.mo (HTab.out w' hb) ri)
  have HLt : Hid (∀ x ∈ memD PP.length NN.length T ri, x < PP.length) := Lib.hid (fun x hx => (mem_memD.1 hx).1)
  have hml := memD_len PP.length NN.length T ri
  obtain ⟨D, hD⟩ : ∃ D, memD PP.length NN.length T ri = D := ⟨_, rfl⟩
  rw [hD] at HMT HMe HLt hml
  obtain ⟨S, G, H, Q⟩ := p
  obtain ⟨ho, hn⟩ := s
  unfold Py.val Rl.val ListPost at *
  dsimp only at HE HRo ⊢
  have hb0 := ((Below.refl w.heap.size w).alloc (Nat.le_refl _) (.cells #[.slice A1 S.length c1, .slice A2 G.length c2, .slice A3 H.length c3, .slice A4 Q.length c4] 26)).alloc (by simp) (.cells #[.string ho, .string hn] 28)
  have cp := fun o => Lib.cell_of_heap (heap_alloc2_old w (.cells #[.slice A1 S.length c1, .slice A2 G.length c2, .slice A3 H.length c3, .slice A4 Q.length c4] 26) (.cells #[.string ho, .string hn] 28)) o
  have cr := fun o => Lib.cell_of_heap (heap_alloc2_new w (.cells #[.slice A1 S.length c1, .slice A2 G.length c2, .slice A3 H.length c3, .slice A4 Q.length c4] 26) (.cells #[.string ho, .string hn] 28)) o
  have hlt : w.heap.size + 1 < ((w.alloc (.cells #[.slice A1 S.length c1, .slice A2 G.length c2, .slice A3 H.length c3, .slice A4 Q.length c4] 26)).alloc (.cells #[.string ho, .string hn] 28)).heap.size := by simp
  have HB0 := Lib.hid hb0
  have HCR := Lib.hid cr
  clear hb0 hMT hri hD hE hT cr
  go_enter Tryz.func22, Tryz.ntmps22
  go_upto_region 1 with fail
  obtain ⟨bp, hbp⟩ : ∃ bp, w.heap.size = bp := ⟨_, rfl⟩
  simp only [hbp] at cp HCR hlt ⊢
  generalize (w.alloc (.cells #[.slice A1 S.length c1, .slice A2 G.length c2, .slice A3 H.length c3, .slice A4 Q.length c4] 26)).alloc (.cells #[.string ho, .string hn] 28) = w0 at *
  go_wp2_with fail
  refine (HE.out _ HB0.out).mono ?_
  rintro e w1 ⟨v1, v2, rfl, ⟨t, a, b, B1, d1, B2, d2, mo, st, rfl, rfl, htb, hmo⟩, hb1⟩
  have HT1 := Lib.hid htb
  have HM1 := Lib.hid hmo
  have HB1 := Lib.hid (nx7 HB0.out hb1)
  have cr1 : ∀ o, w1.cell? ⟨bp + 1, o, none⟩ = (#[.string ho, .string hn] : Array Value)[o]? := fun o => (hb1.cell (p := ⟨bp + 1, o, none⟩) hlt).trans (HCR.out o)
  clear htb hmo hb1 cp HCR hlt HE
  go_wp2_with fail
  refine (HRo.out _ _ _ _ _ _ _ _ HT1.out).mono ?_
  rintro e w2 ⟨rfl, hb2⟩
  have HT2 := Lib.hid (HT1.out.keep hb2)
  have HM2 := Lib.hid (HM1.out.below hb2)
  have HB2 := Lib.hid (nx7 HB1.out hb2)
  clear hb2 cr1 HT1 HM1 HRo
  go_wp2_with fail
  refine (HMe.out _ _ _ HM2.out HB2.out).mono ?_
  rintro e w3 ⟨v3, rfl, hown3, hb3⟩
  obtain ⟨A5, k5, rfl, hng⟩ := ng_own hown3
  have HT3 := Lib.hid (HT2.out.keep hb3)
  have HB3 := Lib.hid (nx7 HB2.out hb3)
  have HNG := Lib.hid hng
  have HPr := Lib.hid (fun w' (hb : Below w3.heap.size w3 w') => TblA.prins (HT3.out.keep hb))
  have HAt := Lib.hid (fun w' (hb : Below w3.heap.size w3 w') k hk => Tab7.at_in a B1 PP d1 k w' (HT3.out.keep hb).a0 (by omega) (HT3.out.keep hb).ra hk)
  clear hown3 hng hb3 HT2 HM2 HMe
  go_wp2_with fail
  go_loopw [7, 21] (fun v i wr => ∃ j : Nat, j ≤ D.length ∧ i = .int .i64 j ∧ Hid (wr.ownsRow w3.heap.size 9 1 v (((D.take j).map fun i => PP.getD i []).length) (((D.take j).map fun i => PP.getD i []).map encStr)) ∧ Below w3.heap.size w3 wr) (fun _ i _ => D.length - (intOf i).toNat)
  case atStart => exact ⟨0, by omega, rfl, Lib.hid (by simpa using World.ownsRow_nil _ _ _ _), Below.refl _ _⟩
  case round =>
    obtain ⟨j, hj, rfl, hown, hb⟩ := hrel
    by_cases hlt : j < D.length
    · have d1 : decide ((j : Int) < D.length) = true := by simp; omega
      obtain ⟨g, o, rfl, hg, hc⟩ := (HNG.out.below hb) (by omega)
      have y0 := hc j hlt
      have hk := HLt.out D[j] (List.getElem_mem hlt)
      have HTk : Hid (D.take (j + 1) = D.take j ++ [D[j]]) := Lib.hid (List.take_succ_eq_append_getElem hlt)
      have p1 : (0 : Int) ≤ j := by omega
      have p2 : (j : Int) < D.length := by omega
      have hlj : ((D.take j).map fun i => PP.getD i []).length = j := by rw [List.length_map, List.length_take]; omega
      clear hc
      generalize D[j] = k at *
      have H1 := Lib.hid (HPr.out wr hb)
      have H2 := Lib.hid (HAt.out wr hb k hk)
      have HG : Hid (PP.getD k [] = PP[k]) := Lib.hid (by rw [List.getD_eq_getElem?_getD, List.getElem?_eq_getElem hk]; rfl)
      have hown2 := hown.out
      obtain ⟨F0, hF0⟩ : ∃ F0, ((D.take j).map fun i => PP.getD i []) = F0 := ⟨_, rfl⟩
      rw [hF0] at hown2 hlj
      have HF0 := Lib.hid hF0
      have HBr := Lib.hid hb
      have hzr := hb.size
      clear hown hb hF0
      generalize PP[k] = x at *
      go_wp2_with fail
      refine H1.out.mono ?_
      rintro e w4 ⟨rfl, rfl⟩
      clear y0
      go_wp2_with fail
      refine H2.out.mono ?_
      rintro e w4 ⟨rfl, rfl⟩
      clear H1 H2
      go_wp2_with (at_builtin; refine wpList_append_own _ rfl _ _ 43 rfl w3.heap.size 9 i0 (.string ⟨#[]⟩) 1 16 Tryz.underlying43 hi hz0 hz1 hz2 rfl (by decide) _ _ _ rfl (hown2.alloc _) ⟨wr.heap.size, 0, none⟩ 1 1 [.string ⟨x.toArray⟩] rfl rfl ?c1 ?c2 ?c3 ?c4 ?c5 ?_)
      case c1 => exact new_cell1 _ _ _
      case c2 => intro u hu; simp at hu; subst hu; rfl
      case c3 => unfold maxLen; omega
      case c4 => omega
      case c5 => simp; omega
      intro v' w5 hown' hgrow _
      have HO5 : Hid (w5.ownsRow w3.heap.size 9 1 v' (((D.take (j + 1)).map fun i => PP.getD i []).length) (((D.take (j + 1)).map fun i => PP.getD i []).map encStr)) := Lib.hid (by
        rw [HTk.out, List.map_append, HF0.out, List.map_append, List.length_append]
        simp only [List.map_cons, List.map_nil, List.length_singleton]
        rw [HG.out, hlj]
        exact hown')
      have HB5 := Lib.hid (below_own HBr.out (Nat.le_refl _) hown2 hgrow)
      clear hown' hown2 hgrow
      go_wp2_with fail
      go_roundw
      case rel => exact ⟨j + 1, by omega, by go_num, HO5, HB5.out⟩
      case measure => simp [intOf]; omega
    · have d1 : decide ((j : Int) < D.length) = false := by simp; omega
      have hjD : j = D.length := by omega
      subst hjD
      have hown2 := hown.out
      rw [List.take_length, HMT.out] at hown2
      have HO3 := Lib.hid (Tab4.own_base hown2 HB3.out.size)
      have HF := Lib.hid (nx7 HB3.out hb)
      clear hown hown2 hb
      go_wp2_with fail
      go_ret
      exact ⟨_, rfl, by first | exact HO3.out | (rw [← hbp]; exact HO3.out), by first | exact HF.out | (rw [← hbp]; exact HF.out)⟩
set_option maxHeartbeats 1000000 in
set_option maxRecDepth 100000 in
theorem highSteps (p : Py) (A1 A2 A3 A4 : Option Addr) (c1 c2 c3 c4 : Nat) (PP NN : List Str) (T : List Ru) (w : World)
    (hE : ∀ w', Below w.heap.size w w' → Calls Tryz.prog 13 #[p.val A1 A2 A3 A4 c1 c2 c3 c4] w' (TMPost PP NN T w')) :
    Calls Tryz.prog 33 #[p.val A1 A2 A3 A4 c1 c2 c3 c4] w fun e w' => ∃ st : Nat, e = .returned (.int .i64 st) ∧ STF PP.length NN.length T st ∧ Below w.heap.size w w' := by
  have HE := Lib.hid hE
  unfold TMPost TM at HE
  obtain ⟨S, G, H, Q⟩ := p
  unfold Py.val at *
  dsimp only at HE ⊢
  have hb0 := ((Below.refl w.heap.size w).alloc (Nat.le_refl _) (.cells #[.slice A1 S.length c1, .slice A2 G.length c2, .slice A3 H.length c3, .slice A4 Q.length c4] 26))
  have cp := fun o => Lib.cell_of_heap (heap_alloc_new w (.cells #[.slice A1 S.length c1, .slice A2 G.length c2, .slice A3 H.length c3, .slice A4 Q.length c4] 26)) o
  have HB0 := Lib.hid hb0
  clear hb0 hE
  go_enter Tryz.func33, Tryz.ntmps33
  go_upto_region 1 with fail
  generalize w.alloc (.cells #[.slice A1 S.length c1, .slice A2 G.length c2, .slice A3 H.length c3, .slice A4 Q.length c4] 26) = w0 at *
  go_wp2_with fail
  refine (HE.out _ HB0.out).mono ?_
  rintro e w1 ⟨v1, v2, rfl, ⟨t, a, b, B1, d1, B2, d2, mo, st, rfl, rfl, htb, hmo⟩, hb1⟩
  obtain ⟨B, R, M, all, hm, hd, hs⟩ := hmo
  have HS := Lib.hid (SemJ.steps hm)
  have HF : Hid (STF PP.length NN.length T st ∧ Below w.heap.size w w1) := Lib.hid ⟨hs, nx7 HB0.out hb1⟩
  clear htb hm hd hs hb1 cp HE
  go_wp2_with fail
  refine HS.out.mono ?_
  rintro e w2 ⟨rfl, rfl⟩
  clear HS
  go_wp2_with fail
  go_ret
  exact ⟨st, rfl, HF.out.1, HF.out.2⟩
end Go.Proofs.YteabkbcbmimkgaaGreatDoor.HiH
namespace Go.Proofs.YteabkbcbmimkgaaGreatDoor.HiO
open Go.RowKit Go.Sort Go.Lib Go.Proofs Plain SynP TabP Tab1 Tab5 QryP PolA PolE PolG PolH PolLi PolOp LwH HiA HiN
open LwL (rR sA z0 lt0 lt1 rg_nil qg_nil below_alloc)
abbrev nx12 := @LwH.nx
theorem sg_one {w : World} {g : Nat} (h : w.heap[g]? = some (.cells #[.int .i64 1, .string ⟨#[65]⟩, .string ⟨#[114]⟩, .string ⟨#[66]⟩, .string ⟨#[]⟩, .string ⟨#[]⟩, .string ⟨#[]⟩, .string ⟨#[]⟩, .string ⟨#[]⟩] 78 (0, 0))) : SG w (some ⟨g, 0, none⟩) [sA] := fun _ => by
  refine ⟨g, 0, rfl, (Array.getElem?_eq_some_iff.1 h).1, fun j hj => ?_⟩
  have : j = 0 := by simp at hj; omega
  subst this
  exact ⟨Lib.cell_of_heap h 0, Lib.cell_of_heap h 1, Lib.cell_of_heap h 2, Lib.cell_of_heap h 3, Lib.cell_of_heap h 4, Lib.cell_of_heap h 5, Lib.cell_of_heap h 6, Lib.cell_of_heap h 7, Lib.cell_of_heap h 8⟩
theorem rg_one {w : World} {g : Nat} (h : w.heap[g]? = some (.cells #[.string ⟨#[65]⟩, .string ⟨#[114]⟩] 28 (0, 0))) : RG w (some ⟨g, 0, none⟩) [rR] := fun _ => by
  refine ⟨g, 0, rfl, (Array.getElem?_eq_some_iff.1 h).1, fun j hj => ?_⟩
  have : j = 0 := by simp at hj; omega
  subst this
  exact ⟨Lib.cell_of_heap h 0, Lib.cell_of_heap h 1⟩
theorem srow1 {w : World} {n : Nat} (hn : w.heap[n]? = some (.cells #[.string ⟨#[66]⟩] 9 (0, 0))) : SRow w (some ⟨n, 0, none⟩) [[66]] := fun _ => ⟨n, 0, rfl, (Array.getElem?_eq_some_iff.1 hn).1, fun j hj => by
    have : j = 0 := by simp at hj; omega
    subst this
    exact Lib.cell_of_heap hn 0⟩
theorem srow3 {w : World} {n : Nat} (hn : w.heap[n]? = some (.cells #[.string ⟨#[65]⟩, .string ⟨#[66]⟩, .string ⟨#[88, 49]⟩] 9 (0, 0))) : SRow w (some ⟨n, 0, none⟩) eT := fun _ => ⟨n, 0, rfl, (Array.getElem?_eq_some_iff.1 hn).1, fun j hj => by
    have : j = 0 ∨ j = 1 ∨ j = 2 := by unfold eT at hj; simp at hj; omega
    rcases this with rfl | rfl | rfl
    · exact Lib.cell_of_heap hn 0
    · exact Lib.cell_of_heap hn 1
    · exact Lib.cell_of_heap hn 2⟩
theorem same_ (A B : Option Addr) (ca cb : Nat) (T : List Str) (w : World) (hL : T.length ≤ 1000) (hA : SRow w A T) (hB : SRow w B T) : Calls Tryz.prog 21 #[.slice A T.length ca, .slice B T.length cb] w fun e w' => e = .returned (.bool true) ∧ Below w.heap.size w w' := by
  refine (Tab3.same A B ca cb T w (by omega) hA hB).mono ?_
  rintro e w' ⟨he, q, rfl⟩
  exact ⟨he, below_drewN (Below.refl _ _) q⟩
set_option maxHeartbeats 4000000 in
set_option maxRecDepth 100000 in
theorem lives (w : World) (hT : SetJ.Tab w) (hw : Tab3.Pow w) : Calls Tryz.prog 10 #[] w fun e w' => e = .returned (.bool true) ∧ Below w.heap.size w w' := by
  have HTab := Lib.hid (fun w' (hb : Below w.heap.size w w') => SetJ.Tab.below hT hb)
  have HPow := Lib.hid (fun w' (hb : Below w.heap.size w w') => Tab3.Pow.keep hw (Laid.pow_lt hw) hb)
  clear hT hw
  go_enter Tryz.func10, Tryz.ntmps10
  go_upto_region 2 with fail
  obtain ⟨b1, hb1⟩ : ∃ b, w.heap.size = b := ⟨_, rfl⟩
  go_upto_region 3 with fail
  go_upto_region 4 with fail
  go_upto_region 5 with fail
  obtain ⟨wa, hwa⟩ : ∃ x, w.alloc (.cells #[.string ⟨#[65]⟩, .string ⟨#[114]⟩] 28) = x := ⟨_, rfl⟩
  have za : wa.heap.size = b1 + 1 := by rw [← hwa, ← hb1]; simp
  have ha : wa.heap[b1]? = some (.cells #[.string ⟨#[65]⟩, .string ⟨#[114]⟩] 28 (0, 0)) := by rw [← hwa, ← hb1]; exact heap_alloc_new w _
  have ba : Below w.heap.size w wa := by rw [← hwa]; exact below_alloc w _
  rw [hwa]
  obtain ⟨wb, hwb⟩ : ∃ x, wa.alloc (.cells #[.int .i64 1, .string ⟨#[65]⟩, .string ⟨#[114]⟩, .string ⟨#[66]⟩, .string ⟨#[]⟩, .string ⟨#[]⟩, .string ⟨#[]⟩, .string ⟨#[]⟩, .string ⟨#[]⟩] 78) = x := ⟨_, rfl⟩
  have zb : wb.heap.size = b1 + 1 + 1 := by rw [← hwb, ← za]; simp
  have hb : wb.heap[b1 + 1]? = some (.cells #[.int .i64 1, .string ⟨#[65]⟩, .string ⟨#[114]⟩, .string ⟨#[66]⟩, .string ⟨#[]⟩, .string ⟨#[]⟩, .string ⟨#[]⟩, .string ⟨#[]⟩, .string ⟨#[]⟩] 78 (0, 0)) := by rw [← hwb, ← za]; exact heap_alloc_new wa _
  have bb : Below wa.heap.size wa wb := by rw [← hwb]; exact below_alloc wa _
  rw [hwb]
  obtain ⟨wc, hwc⟩ : ∃ x, wb.alloc (.cells #[.string ⟨#[65]⟩, .string ⟨#[114]⟩] 28) = x := ⟨_, rfl⟩
  have zc : wc.heap.size = b1 + 1 + 1 + 1 := by rw [← hwc, ← zb]; simp
  have hc : wc.heap[b1 + 1 + 1]? = some (.cells #[.string ⟨#[65]⟩, .string ⟨#[114]⟩] 28 (0, 0)) := by rw [← hwc, ← zb]; exact heap_alloc_new wb _
  have bc : Below wb.heap.size wb wc := by rw [← hwc]; exact below_alloc wb _
  rw [hwc]
  obtain ⟨wd, hwd⟩ : ∃ x, wc.alloc (.cells #[.slice (some ⟨b1 + 1, 0, none⟩) 1 1, .slice (some ⟨b1 + 1 + 1, 0, none⟩) 1 1, .slice none 0 0, .slice none 0 0] 26) = x := ⟨_, rfl⟩
  have zd : wd.heap.size = b1 + 1 + 1 + 1 + 1 := by rw [← hwd, ← zc]; simp
  have hd : wd.heap[b1 + 1 + 1 + 1]? = some (.cells #[.slice (some ⟨b1 + 1, 0, none⟩) 1 1, .slice (some ⟨b1 + 1 + 1, 0, none⟩) 1 1, .slice none 0 0, .slice none 0 0] 26 (0, 0)) := by rw [← hwd, ← zc]; exact heap_alloc_new wc _
  have bd : Below wc.heap.size wc wd := by rw [← hwd]; exact below_alloc wc _
  rw [hwd]
  obtain ⟨we, hwe⟩ : ∃ x, wd.alloc (.cells #[.slice (some ⟨b1 + 1, 0, none⟩) 1 1, .slice none 0 0, .slice none 0 0, .slice none 0 0] 26) = x := ⟨_, rfl⟩
  have ze : we.heap.size = b1 + 1 + 1 + 1 + 1 + 1 := by rw [← hwe, ← zd]; simp
  have he : we.heap[b1 + 1 + 1 + 1 + 1]? = some (.cells #[.slice (some ⟨b1 + 1, 0, none⟩) 1 1, .slice none 0 0, .slice none 0 0, .slice none 0 0] 26 (0, 0)) := by rw [← hwe, ← zd]; exact heap_alloc_new wd _
  have be : Below wd.heap.size wd we := by rw [← hwe]; exact below_alloc wd _
  rw [hwe]
  have HW := Lib.hid (nx12 ba (nx12 bb (nx12 bc (nx12 bd be))))
  have ka : we.heap[b1]? = some (.cells #[.string ⟨#[65]⟩, .string ⟨#[114]⟩] 28 (0, 0)) := ((nx12 bb (nx12 bc (nx12 bd be))).block b1 (by omega)).trans ha
  have kb : we.heap[b1 + 1]? = some (.cells #[.int .i64 1, .string ⟨#[65]⟩, .string ⟨#[114]⟩, .string ⟨#[66]⟩, .string ⟨#[]⟩, .string ⟨#[]⟩, .string ⟨#[]⟩, .string ⟨#[]⟩, .string ⟨#[]⟩] 78 (0, 0)) := ((nx12 bc (nx12 bd be)).block (b1 + 1) (by omega)).trans hb
  have kc : we.heap[b1 + 1 + 1]? = some (.cells #[.string ⟨#[65]⟩, .string ⟨#[114]⟩] 28 (0, 0)) := ((nx12 bd be).block (b1 + 1 + 1) (by omega)).trans hc
  have kd : we.heap[b1 + 1 + 1 + 1]? = some (.cells #[.slice (some ⟨b1 + 1, 0, none⟩) 1 1, .slice (some ⟨b1 + 1 + 1, 0, none⟩) 1 1, .slice none 0 0, .slice none 0 0] 26 (0, 0)) := (be.block (b1 + 1 + 1 + 1) (by omega)).trans hd
  clear ha hb hc hd ba bb bc bd be za zb zc zd hwa hwb hwc hwd hwe
  simp only [hb1] at ⊢
  obtain ⟨b2, e2⟩ : ∃ b, b1 + 1 = b := ⟨_, rfl⟩
  simp only [e2] at *
  obtain ⟨b3, e3⟩ : ∃ b, b2 + 1 = b := ⟨_, rfl⟩
  simp only [e3] at *
  obtain ⟨bp, e4⟩ : ∃ b, b3 + 1 = b := ⟨_, rfl⟩
  simp only [e4] at *
  obtain ⟨bq, e5⟩ : ∃ b, bp + 1 = b := ⟨_, rfl⟩
  simp only [e5] at *
  have HPG : Hid (∀ w', Below we.heap.size we w' → PG w' (some ⟨b2, 0, none⟩) (some ⟨b3, 0, none⟩) none none pE) := Lib.hid (fun w' hb => ⟨(sg_one kb).below hb, (rg_one kc).below hb, rg_nil _, qg_nil _⟩)
  have HQG : Hid (∀ w', Below we.heap.size we w' → PG w' (some ⟨b2, 0, none⟩) none none none qE) := Lib.hid (fun w' hb => ⟨(sg_one kb).below hb, rg_nil _, rg_nil _, qg_nil _⟩)
  have HK : Hid (∀ w', Below we.heap.size we w' → (∀ o, w'.cell? ⟨b1, o, none⟩ = (#[.string ⟨#[65]⟩, .string ⟨#[114]⟩] : Array Value)[o]?) ∧ (∀ o, w'.cell? ⟨bp, o, none⟩ = (#[.slice (some ⟨b2, 0, none⟩) 1 1, .slice (some ⟨b3, 0, none⟩) 1 1, .slice none 0 0, .slice none 0 0] : Array Value)[o]?) ∧ ∀ o, w'.cell? ⟨bq, o, none⟩ = (#[.slice (some ⟨b2, 0, none⟩) 1 1, .slice none 0 0, .slice none 0 0, .slice none 0 0] : Array Value)[o]?) := Lib.hid (fun w' hb => ⟨fun o => Lib.cell_of_heap ((hb.block b1 (Array.getElem?_eq_some_iff.1 ka).1).trans ka) o, fun o => Lib.cell_of_heap ((hb.block bp (Array.getElem?_eq_some_iff.1 kd).1).trans kd) o, fun o => Lib.cell_of_heap ((hb.block bq (Array.getElem?_eq_some_iff.1 he).1).trans he) o⟩)
  have HEp : Hid (∀ w', Below we.heap.size we w' → ∀ w'', Below w'.heap.size w' w'' → Calls Tryz.prog 13 #[pE.val (some ⟨b2, 0, none⟩) (some ⟨b3, 0, none⟩) none none 1 1 0 0] w'' (TMPost (ET pE) (NT pE) (RuE pE) w'')) := Lib.hid (fun w' hb w'' hb2 => HiG.highEval pE (some ⟨b2, 0, none⟩) (some ⟨b3, 0, none⟩) none none 1 1 0 0 w'' (HTab.out w'' (nx12 HW.out (nx12 hb hb2))) (HPow.out w'' (nx12 HW.out (nx12 hb hb2))) few_p came_p (HPG.out w'' (nx12 hb hb2)) e7_p n4_p)
  have HEq : Hid (∀ w', Below we.heap.size we w' → ∀ w'', Below w'.heap.size w' w'' → Calls Tryz.prog 13 #[qE.val (some ⟨b2, 0, none⟩) none none none 1 0 0 0] w'' (TMPost (ET qE) (NT qE) (RuE qE) w'')) := Lib.hid (fun w' hb w'' hb2 => HiG.highEval qE (some ⟨b2, 0, none⟩) none none none 1 0 0 0 w'' (HTab.out w'' (nx12 HW.out (nx12 hb hb2))) (HPow.out w'' (nx12 HW.out (nx12 hb hb2))) few_q came_q (HQG.out w'' (nx12 hb hb2)) e7_q n4_q)
  have HMp : Hid (∀ w', Below we.heap.size we w' → Calls Tryz.prog 22 #[.agg #[.slice (some ⟨b2, 0, none⟩) 1 1, .slice (some ⟨b3, 0, none⟩) 1 1, .slice none 0 0, .slice none 0 0], .agg #[.string ⟨#[65]⟩, .string ⟨#[114]⟩]] w' fun e w'' => ∃ A c, e = .returned (.slice A 1 c) ∧ SRow w'' A [[66]] ∧ Below w'.heap.size w' w'') := Lib.hid (fun w' hb => by
    have h := HiH.highMembers pE (some ⟨b2, 0, none⟩) (some ⟨b3, 0, none⟩) none none 1 1 0 0 rR (ET pE) (NT pE) (RuE pE) w' (HTab.out w' (nx12 HW.out hb)) (Nat.le_trans e7_p (by omega)) (HEp.out w' hb)
    rw [mem_p] at h
    refine h.mono ?_
    rintro e w'' ⟨v, rfl, ho, hb⟩
    obtain ⟨A, c, rfl, _, hr⟩ := SRow.of_own ho
    exact ⟨A, c, rfl, hr, hb⟩)
  have HMq : Hid (∀ w', Below we.heap.size we w' → Calls Tryz.prog 22 #[.agg #[.slice (some ⟨b2, 0, none⟩) 1 1, .slice none 0 0, .slice none 0 0, .slice none 0 0], .agg #[.string ⟨#[65]⟩, .string ⟨#[114]⟩]] w' fun e w'' => ∃ A c, e = .returned (.slice A 3 c) ∧ SRow w'' A eT ∧ Below w'.heap.size w' w'') := Lib.hid (fun w' hb => by
    have h := HiH.highMembers qE (some ⟨b2, 0, none⟩) none none none 1 0 0 0 rR (ET qE) (NT qE) (RuE qE) w' (HTab.out w' (nx12 HW.out hb)) (Nat.le_trans e7_q (by omega)) (HEq.out w' hb)
    rw [mem_q] at h
    refine h.mono ?_
    rintro e w'' ⟨v, rfl, ho, hb⟩
    obtain ⟨A, c, rfl, _, hr⟩ := SRow.of_own ho
    exact ⟨A, c, rfl, hr, hb⟩)
  have HSt : Hid (∀ w', Below we.heap.size we w' → Calls Tryz.prog 33 #[.agg #[.slice (some ⟨b2, 0, none⟩) 1 1, .slice none 0 0, .slice none 0 0, .slice none 0 0]] w' fun e w'' => ∃ st : Nat, e = .returned (.int .i64 st) ∧ 0 < st ∧ Below w'.heap.size w' w'') := Lib.hid (fun w' hb => by
    have h := HiH.highSteps qE (some ⟨b2, 0, none⟩) none none none 1 0 0 0 (ET qE) (NT qE) (RuE qE) w' (HEq.out w' hb)
    refine h.mono ?_
    rintro e w'' ⟨st, rfl, hs, hb⟩
    exact ⟨st, rfl, hs.2 rl_ne, hb⟩)
  have HS1 : Hid (∀ A B ca cb w', SRow w' A [[66]] → SRow w' B [[66]] → Calls Tryz.prog 21 #[.slice A 1 ca, .slice B 1 cb] w' fun e w'' => e = .returned (.bool true) ∧ Below w'.heap.size w' w'') := Lib.hid (fun A B ca cb w' h1 h2 => same_ A B ca cb [[66]] w' (by decide) h1 h2)
  have HS3 : Hid (∀ A B ca cb w', SRow w' A eT → SRow w' B eT → Calls Tryz.prog 21 #[.slice A 3 ca, .slice B 3 cb] w' fun e w'' => e = .returned (.bool true) ∧ Below w'.heap.size w' w'') := Lib.hid (fun A B ca cb w' h1 h2 => same_ A B ca cb eT w' (by decide) h1 h2)
  have cs := HK.out we (Below.refl _ _)
  obtain ⟨cr, cp, cq⟩ := cs
  clear ka kb kc kd he HPG HQG HEp HEq HTab HPow
  go_wp2_with fail
  refine (HMp.out we (Below.refl _ _)).mono ?_
  rintro e w1 ⟨A5, c5, rfl, hr5, hb5⟩
  have HB1 := Lib.hid (nx12 hb5 (below_alloc w1 (.cells #[.string ⟨#[66]⟩] 9)))
  have HR1 := Lib.hid (And.intro (hr5.keep (below_alloc w1 (.cells #[.string ⟨#[66]⟩] 9))) (srow1 (heap_alloc_new w1 (.cells #[.string ⟨#[66]⟩] 9))))
  clear hr5 hb5 cr cp cq
  go_wp2_with fail
  refine (HS1.out _ _ _ _ _ HR1.out.1 HR1.out.2).mono ?_
  rintro e w2 ⟨rfl, hb2⟩
  have HB2 := Lib.hid (nx12 HB1.out hb2)
  obtain ⟨cr, cp, cq⟩ := HK.out w2 HB2.out
  clear hb2 HB1 HR1
  go_wp2_with fail
  refine (HMq.out w2 HB2.out).mono ?_
  rintro e w3 ⟨A6, c6, rfl, hr6, hb6⟩
  have HB3 := Lib.hid (nx12 (nx12 HB2.out hb6) (below_alloc w3 (.cells #[.string ⟨#[65]⟩, .string ⟨#[66]⟩, .string ⟨#[88, 49]⟩] 9)))
  have HR3 := Lib.hid (And.intro (hr6.keep (below_alloc w3 (.cells #[.string ⟨#[65]⟩, .string ⟨#[66]⟩, .string ⟨#[88, 49]⟩] 9))) (srow3 (heap_alloc_new w3 (.cells #[.string ⟨#[65]⟩, .string ⟨#[66]⟩, .string ⟨#[88, 49]⟩] 9))))
  clear hr6 hb6 cr cp cq HB2
  go_wp2_with fail
  refine (HS3.out _ _ _ _ _ HR3.out.1 HR3.out.2).mono ?_
  rintro e w4 ⟨rfl, hb4⟩
  have HB4 := Lib.hid (nx12 HB3.out hb4)
  obtain ⟨cr, cp, cq⟩ := HK.out w4 HB4.out
  clear hb4 HB3 HR3
  go_wp2_with fail
  refine (HSt.out w4 HB4.out).mono ?_
  rintro e w5 ⟨st, rfl, hst, hb5⟩
  have d1 : decide (0 < st) = true := decide_eq_true hst
  have d2 : decide ((0 : Int) < st) = true := by simp; omega
  have HF := Lib.hid (nx12 HW.out (nx12 HB4.out hb5))
  clear hb5 cr cp cq HB4
  go_wp2_with fail
  go_ret
  exact ⟨rfl, HF.out⟩
end Go.Proofs.YteabkbcbmimkgaaGreatDoor.HiO
namespace Go.Proofs.YteabkbcbmimkgaaGreatDoor.StJ
open Go.Shelf Go.RowKit Go.Sort Go.Lib Go.Proofs Plain SynP Grown SynC SynD SynD2 SynD3 QryP PolA PolE StA StB StC StD StE StF StG StH StI
def ok1 (S : List St) (G : List Rl) (s : St) : Bool := s.right && (decide (s ∈ S) || !decide (s.head ∈ G))
def ok2 (C : List St) (H : List Rl) (s : St) : Bool := !decide (s.head ∈ H) || decide (s ∈ C)
theorem reach_ref (p : Py) (C : List St) : reach p C = (C.all (ok1 p.stmts p.grow) && p.stmts.all (ok2 C p.shrink)) := by
  unfold reach
  congr 1
  · congr 1
    funext s
    unfold ok1 come
    cases s.right <;> simp
  · rw [Bool.eq_iff_iff, List.all_eq_true, List.all_eq_true]
    constructor
    · intro h s hs
      unfold ok2
      by_cases hc : s ∈ C
      · simp [hc]
      · have := h s (List.mem_filter.2 ⟨sort_mem.2 hs, by simp [hc]⟩)
        unfold go_ at this
        simp [this]
    · intro h s hs
      obtain ⟨h1, h2⟩ := List.mem_filter.1 hs
      have := h s (sort_mem.1 h1)
      unfold ok2 at this
      unfold go_
      simp at h2
      simpa [h2] using this
theorem all_false {α : Type} {T : List α} {q : α → Bool} {j : Nat} (h : j < T.length) (hq : q T[j] = false) : T.all q = false := by
  rw [Bool.eq_false_iff]
  intro ha
  rw [List.all_eq_true] at ha
  rw [ha _ (List.getElem_mem h)] at hq
  cases hq
theorem all_true {α : Type} {T : List α} {q : α → Bool} {j : Nat} (hj : T.length ≤ j) (h : ∀ k, k < j → ∀ hk : k < T.length, q T[k] = true) : T.all q = true := by
  rw [List.all_eq_true]
  intro x hx
  obtain ⟨k, hk, rfl⟩ := List.getElem_of_mem hx
  exact h k (by omega) hk
set_option maxHeartbeats 2000000 in
set_option maxRecDepth 100000 in
theorem refReaches (p : Py) (A1 A2 A3 A4 B : Option Addr) (c1 c2 c3 c4 cb : Nat) (C : List St) (w : World) (n1 : p.stmts.length ≤ 1000) (n2 : p.grow.length ≤ 1000) (n3 : p.shrink.length ≤ 1000) (n4 : C.length ≤ 1000) (h1 : SG w A1 p.stmts) (h2 : RG w A2 p.grow) (h3 : RG w A3 p.shrink) (hB : SG w B C) (f2 : ∀ s ∈ C, s.fit) :
    Calls Tryz.prog 28 #[p.val A1 A2 A3 A4 c1 c2 c3 c4, .slice B C.length cb] w fun e w' => e = .returned (.bool (reach p C)) ∧ Below w.heap.size w w' := by
  rw [reach_ref]
  obtain ⟨S, G, H, Q⟩ := p
  dsimp only at n1 n2 n3 h1 h2 h3 ⊢
  obtain ⟨ans, hans⟩ : ∃ ans, (C.all (ok1 S G) && S.all (ok2 C H)) = ans := ⟨_, rfl⟩
  rw [hans]
  have HN1 : Hid (∀ j, (h : j < C.length) → ok1 S G C[j] = false → ans = false) := Lib.hid (fun j h hq => by rw [← hans, all_false h hq]; rfl)
  have HN2 : Hid (∀ j, (h : j < S.length) → ok2 C H S[j] = false → ans = false) := Lib.hid (fun j h hq => by rw [← hans, all_false h hq, Bool.and_false])
  have HY : Hid ((∀ k, k < C.length → ∀ hk : k < C.length, ok1 S G C[k] = true) → (∀ k, k < S.length → ∀ hk : k < S.length, ok2 C H S[k] = true) → ans = true) := Lib.hid (fun a b => by rw [← hans, all_true (Nat.le_refl _) a, all_true (Nat.le_refl _) b]; rfl)
  obtain ⟨hbX, d0⟩ := StG.one w A1 A2 A3 A4 c1 c2 c3 c4 S G H Q
  have hX := heap_alloc_new w (.cells #[.slice A1 S.length c1, .slice A2 G.length c2, .slice A3 H.length c3, .slice A4 Q.length c4] 26)
  have HB0 := Lib.hid hbX
  have HX := Lib.hid hX
  have H1 := Lib.hid (fun w' (hb : Below w.heap.size w w') => h1.below hb)
  have H2 := Lib.hid (fun w' (hb : Below w.heap.size w w') => h2.below hb)
  have H3 := Lib.hid (fun w' (hb : Below w.heap.size w w') => h3.below hb)
  have H4 := Lib.hid (fun w' (hb : Below w.heap.size w w') => hB.below hb)
  have HF := Lib.hid f2
  clear hbX hX h1 h2 h3 hB f2 hans
  show Calls _ _ #[.agg #[.slice A1 S.length c1, .slice A2 G.length c2, .slice A3 H.length c3, .slice A4 Q.length c4], _] _ _
  go_enter Tryz.func28, Tryz.ntmps28
  go_upto_region 1 with fail
  obtain ⟨b0, hb0⟩ : ∃ b0, w.heap.size = b0 := ⟨_, rfl⟩
  rw [hb0] at HX d0
  simp only [hb0] at ⊢
  generalize w.alloc (.cells #[.slice A1 S.length c1, .slice A2 G.length c2, .slice A3 H.length c3, .slice A4 Q.length c4] 26) = w0 at *
  have HD := Lib.hid (fun w' (hb : Below w0.heap.size w0 w') (o : Nat) => Lib.cell_of_heap ((hb.block b0 (Array.getElem?_eq_some_iff.1 HX.out).1).trans HX.out) o)
  clear hb0 HX
  go_wp2_with fail
  clear d0
  go_loopw [11] (fun i wr => ∃ j : Nat, j ≤ C.length ∧ i = .int .i64 j ∧ Below w0.heap.size w0 wr ∧ Hid (∀ k, k < j → ∀ hk : k < C.length, ok1 S G C[k] = true)) (fun i _ => C.length - (intOf i).toNat)
  case atStart => exact ⟨0, by omega, rfl, Below.refl _ _, Lib.hid (fun k hk => by omega)⟩
  case round =>
    obtain ⟨j, hj, rfl, hb, hall⟩ := hrel
    by_cases hlt : j < C.length
    · have e1 : decide ((j : Int) < C.length) = true := by simp; omega
      obtain ⟨g, o, rfl, hg, hc⟩ := H4.out _ (nx HB0.out hb) (by omega)
      obtain ⟨a0, a1, a2, a3, a4, a5, a6, a7, a8⟩ := hc j hlt
      have p1 : (0 : Int) ≤ j := by omega
      have p2 : (j : Int) < C.length := by omega
      have HNo := Lib.hid (HN1.out j hlt)
      have HNx : Hid (ok1 S G C[j] = true → ∀ k, k < j + 1 → ∀ hk : k < C.length, ok1 S G C[k] = true) := Lib.hid (fun h k hk hk2 => by
        by_cases e : k = j
        · subst e; exact h
        · exact hall.out k (by omega) hk2)
      have hfx := HF.out C[j] (List.getElem_mem hlt)
      have HR := Lib.hid (fun w' => Syn9.rightRef C[j] w' hfx)
      have HH := Lib.hid (fun w' (h : SG w' A1 S) => hasG A1 c1 S C[j] w' n1 h)
      have HG := Lib.hid (fun w' (h : RG w' A2 G) => hasRefG A2 c2 G C[j].head w' n2 h)
      have HB := Lib.hid hb
      clear hc hb hg hall hfx
      unfold ok1 at HNo
      have HNx2 : Hid ((C[j].right && (decide (C[j] ∈ S) || !decide (C[j].head ∈ G))) = true → ∀ k, k < j + 1 → ∀ hk : k < C.length, ok1 S G C[k] = true) := HNx
      clear HNx
      generalize C[j] = x at *
      generalize x.right = r at *
      obtain ⟨k1, ⟨ho, hn⟩, wh, ⟨ao, an⟩, ⟨bo, bn⟩, v1⟩ := x
      unfold St.val at HH HR
      unfold Rl.val at HG
      dsimp only at HH HR HG HNo HNx2 a0 a1 a2 a3 a4 a5 a6 a7 a8
      generalize decide ((⟨k1, ⟨ho, hn⟩, wh, ⟨ao, an⟩, ⟨bo, bn⟩, v1⟩ : St) ∈ S) = d at *
      generalize decide ((⟨ho, hn⟩ : Rl) ∈ G) = m at *
      have hbX := below_alloc wr (.cells #[.int .i64 k1, .string ho, .string hn, .string wh, .string ao, .string an, .string bo, .string bn, .string v1] 78)
      have HX := Lib.hid (heap_alloc_new wr (.cells #[.int .i64 k1, .string ho, .string hn, .string wh, .string ao, .string an, .string bo, .string bn, .string v1] 78))
      have HBX := Lib.hid (nx HB.out hbX)
      have hz : (wr.alloc (.cells #[.int .i64 k1, .string ho, .string hn, .string wh, .string ao, .string an, .string bo, .string bn, .string v1] 78)).heap.size = wr.heap.size + 1 := by simp
      clear hbX
      go_upto_region 4 with fail
      obtain ⟨bx, hbx⟩ : ∃ bx, wr.heap.size = bx := ⟨_, rfl⟩
      rw [hbx] at HX hz
      simp only [hbx] at ⊢
      generalize wr.alloc (.cells #[.int .i64 k1, .string ho, .string hn, .string wh, .string ao, .string an, .string bo, .string bn, .string v1] 78) = w1 at *
      have HC := Lib.hid (fun w' (hb : Below w1.heap.size w1 w') (o : Nat) => Lib.cell_of_heap ((hb.block bx (by omega)).trans HX.out) o)
      have cx := HC.out w1 (Below.refl _ _)
      clear a0 a1 a2 a3 a4 a5 a6 a7 a8 hbx hz HX
      cases r with
      | false =>
        have hno := HNo.out (by simp)
        go_wp2_with fail
        refine (HR.out _).mono ?_
        rintro e w2 ⟨rfl, hg2⟩
        have HB2 := Lib.hid (nx HB0.out (nx HBX.out hg2.below))
        clear hg2 cx HR HH HG
        go_wp2_with fail
        go_ret
        exact ⟨ret_bool hno.symm, HB2.out⟩
      | true =>
        go_wp2_with fail
        refine (HR.out _).mono ?_
        rintro e w2 ⟨rfl, hg2⟩
        have HB2 := Lib.hid (nx HBX.out hg2.below)
        have cx2 := HC.out w2 hg2.below
        have d2 := HD.out w2 HB2.out
        have HH2 := Lib.hid (HH.out w2 (H1.out _ (nx HB0.out HB2.out)))
        have HC2 := Lib.hid (fun w' (hb : Below w2.heap.size w2 w') => HC.out w' (nx hg2.below hb))
        clear hg2 cx HR HH HC
        cases d with
        | true =>
          have hnx := HNx2.out (by simp)
          go_wp2_with fail
          refine HH2.out.mono ?_
          rintro e w3 ⟨rfl, hb3⟩
          have HB3 := Lib.hid (nx HB2.out hb3)
          clear hb3 cx2 d2 HH2 HG
          go_wp2_with fail
          go_roundw
          case rel => exact ⟨j + 1, by omega, by go_num, HB3.out, Lib.hid hnx⟩
          case measure => simp [intOf]; omega
        | false =>
          go_wp2_with fail
          refine HH2.out.mono ?_
          rintro e w3 ⟨rfl, hb3⟩
          have HB3 := Lib.hid (nx HB2.out hb3)
          have cx3 := HC2.out w3 hb3
          have d3 := HD.out w3 HB3.out
          have HG3 := Lib.hid (HG.out w3 (H2.out _ (nx HB0.out HB3.out)))
          clear hb3 cx2 d2 HH2 HG
          cases m with
          | true =>
            have hno := HNo.out (by simp)
            go_wp2_with fail
            refine HG3.out.mono ?_
            rintro e w4 ⟨rfl, hb4⟩
            have HB4 := Lib.hid (nx HB0.out (nx HB3.out hb4))
            clear hb4 cx3 d3 HG3
            go_wp2_with fail
            go_ret
            exact ⟨ret_bool hno.symm, HB4.out⟩
          | false =>
            have hnx := HNx2.out (by simp)
            go_wp2_with fail
            refine HG3.out.mono ?_
            rintro e w4 ⟨rfl, hb4⟩
            have HB4 := Lib.hid (nx HB3.out hb4)
            clear hb4 cx3 d3 HG3
            go_wp2_with fail
            go_roundw
            case rel => exact ⟨j + 1, by omega, by go_num, HB4.out, Lib.hid hnx⟩
            case measure => simp [intOf]; omega
    · have e1 : decide ((j : Int) < C.length) = false := by simp; omega
      have HY2 : Hid ((∀ k, k < S.length → ∀ hk : k < S.length, ok2 C H S[k] = true) → ans = true) := Lib.hid (HY.out (fun k hk hk2 => hall.out k (by omega) hk2))
      have HBj := Lib.hid hb
      have d1 := HD.out _ hb
      clear hall hb HY HN1 H2
      go_wp2_with fail
      clear d1
      go_loopw [34] (fun i wr => ∃ j : Nat, j ≤ S.length ∧ i = .int .i64 j ∧ Below w0.heap.size w0 wr ∧ Hid (∀ k, k < j → ∀ hk : k < S.length, ok2 C H S[k] = true)) (fun i _ => S.length - (intOf i).toNat)
      case atStart => exact ⟨0, by omega, rfl, HBj.out, Lib.hid (fun k hk => by omega)⟩
      case round =>
        obtain ⟨j2, hj2, rfl, hb, hall⟩ := hrel
        by_cases hlt2 : j2 < S.length
        · have e2 : decide ((j2 : Int) < S.length) = true := by simp; omega
          obtain ⟨g, o, rfl, hg, hc⟩ := H1.out _ (nx HB0.out hb) (by omega)
          obtain ⟨a0, a1, a2, a3, a4, a5, a6, a7, a8⟩ := hc j2 hlt2
          have p1 : (0 : Int) ≤ j2 := by omega
          have p2 : (j2 : Int) < S.length := by omega
          have HNo := Lib.hid (HN2.out j2 hlt2)
          have HNx : Hid (ok2 C H S[j2] = true → ∀ k, k < j2 + 1 → ∀ hk : k < S.length, ok2 C H S[k] = true) := Lib.hid (fun h k hk hk2 => by
            by_cases e : k = j2
            · subst e; exact h
            · exact hall.out k (by omega) hk2)
          have HG := Lib.hid (fun w' (h : RG w' A3 H) => hasRefG A3 c3 H S[j2].head w' n3 h)
          have HH := Lib.hid (fun w' (h : SG w' B C) => hasG B cb C S[j2] w' n4 h)
          have HB := Lib.hid hb
          clear hc hb hg hall
          unfold ok2 at HNo
          have HNx2 : Hid ((!decide (S[j2].head ∈ H) || decide (S[j2] ∈ C)) = true → ∀ k, k < j2 + 1 → ∀ hk : k < S.length, ok2 C H S[k] = true) := HNx
          clear HNx
          generalize S[j2] = x at *
          obtain ⟨k1, ⟨ho, hn⟩, wh, ⟨ao, an⟩, ⟨bo, bn⟩, v1⟩ := x
          unfold St.val at HH
          unfold Rl.val at HG
          dsimp only at HH HG HNo HNx2 a0 a1 a2 a3 a4 a5 a6 a7 a8
          generalize decide ((⟨k1, ⟨ho, hn⟩, wh, ⟨ao, an⟩, ⟨bo, bn⟩, v1⟩ : St) ∈ C) = d at *
          generalize decide ((⟨ho, hn⟩ : Rl) ∈ H) = m at *
          have hbX := below_alloc wr (.cells #[.int .i64 k1, .string ho, .string hn, .string wh, .string ao, .string an, .string bo, .string bn, .string v1] 78)
          have HX := Lib.hid (heap_alloc_new wr (.cells #[.int .i64 k1, .string ho, .string hn, .string wh, .string ao, .string an, .string bo, .string bn, .string v1] 78))
          have HBX := Lib.hid (nx HB.out hbX)
          have hz : (wr.alloc (.cells #[.int .i64 k1, .string ho, .string hn, .string wh, .string ao, .string an, .string bo, .string bn, .string v1] 78)).heap.size = wr.heap.size + 1 := by simp
          clear hbX
          go_upto_region 12 with fail
          obtain ⟨bx, hbx⟩ : ∃ bx, wr.heap.size = bx := ⟨_, rfl⟩
          rw [hbx] at HX hz
          simp only [hbx] at ⊢
          generalize wr.alloc (.cells #[.int .i64 k1, .string ho, .string hn, .string wh, .string ao, .string an, .string bo, .string bn, .string v1] 78) = w1 at *
          have HC := Lib.hid (fun w' (hb : Below w1.heap.size w1 w') (o : Nat) => Lib.cell_of_heap ((hb.block bx (by omega)).trans HX.out) o)
          have cx := HC.out w1 (Below.refl _ _)
          have dx := HD.out w1 HBX.out
          have HG2 := Lib.hid (HG.out w1 (H3.out _ (nx HB0.out HBX.out)))
          clear a0 a1 a2 a3 a4 a5 a6 a7 a8 hbx hz HX HG
          cases m with
          | false =>
            have hnx := HNx2.out (by simp)
            go_wp2_with fail
            refine HG2.out.mono ?_
            rintro e w2 ⟨rfl, hb2⟩
            have HB2 := Lib.hid (nx HBX.out hb2)
            clear hb2 cx dx HG2 HH
            go_wp2_with fail
            go_roundw
            case rel => exact ⟨j2 + 1, by omega, by go_num, HB2.out, Lib.hid hnx⟩
            case measure => simp [intOf]; omega
          | true =>
            go_wp2_with fail
            refine HG2.out.mono ?_
            rintro e w2 ⟨rfl, hb2⟩
            have HB2 := Lib.hid (nx HBX.out hb2)
            have cx2 := HC.out w2 hb2
            have HH2 := Lib.hid (HH.out w2 (H4.out _ (nx HB0.out HB2.out)))
            clear hb2 cx dx HG2 HH
            cases d with
            | true =>
              have hnx := HNx2.out (by simp)
              go_wp2_with fail
              refine HH2.out.mono ?_
              rintro e w3 ⟨rfl, hb3⟩
              have HB3 := Lib.hid (nx HB2.out hb3)
              clear hb3 cx2 HH2
              go_wp2_with fail
              go_roundw
              case rel => exact ⟨j2 + 1, by omega, by go_num, HB3.out, Lib.hid hnx⟩
              case measure => simp [intOf]; omega
            | false =>
              have hno := HNo.out (by simp)
              go_wp2_with fail
              refine HH2.out.mono ?_
              rintro e w3 ⟨rfl, hb3⟩
              have HB3 := Lib.hid (nx HB0.out (nx HB2.out hb3))
              clear hb3 cx2 HH2
              go_wp2_with fail
              go_ret
              exact ⟨ret_bool hno.symm, HB3.out⟩
        · have e2 : decide ((j2 : Int) < S.length) = false := by simp; omega
          have hy := HY2.out (fun k hk hk2 => hall.out k (by omega) hk2)
          have HB := Lib.hid (nx HB0.out hb)
          clear hall hb
          go_wp2_with fail
          go_ret
          exact ⟨ret_bool hy.symm, HB.out⟩
end Go.Proofs.YteabkbcbmimkgaaGreatDoor.StJ
namespace Go.Proofs.YteabkbcbmimkgaaGreatDoor.HiR
open Go.RowKit Go.Sort Go.Lib Go.Proofs Plain SynP SynJ TabP QryP PolE PolG PolH TblR LwA LwH LwM HiA HiL
noncomputable def who (p : Py) (x : ByteArray) : ByteArray := if bt x ∈ PT p then x else txt (FT p)
noncomputable def rol (p : Py) (r : Rl) : Rl := ⟨who p r.owner, r.name⟩
theorem who_et (p : Py) (x : ByteArray) : bt (who p x) ∈ ET p := by
  unfold who
  split
  · rename_i h; exact et_mem.2 (.inl h)
  · rw [bt_txt]; exact et_mem.2 (.inr rfl)
theorem who_in {p : Py} {x : ByteArray} (h : bt x ∈ PT p) : who p x = x := by unfold who; rw [if_pos h]
theorem who_out {p : Py} {x : ByteArray} (h : bt x ∉ PT p) : who p x = txt (FT p) := by unfold who; rw [if_neg h]
theorem rol_in {p : Py} {r : Rl} (h : bt r.owner ∈ PT p) : rol p r = r := by unfold rol; rw [who_in h]
theorem named_pt {p : Py} {r : Rl} (h : r ∈ rolesP p) : bt r.owner ∈ PT p ∧ bt r.name ∈ NT p := by
  obtain ⟨a, b⟩ := role_in h
  rw [RefPr.bt_list] at a b
  exact ⟨a, b⟩
theorem grow_pt {p : Py} {r : Rl} (h : r ∈ p.grow) : bt r.owner ∈ PT p ∧ bt r.name ∈ NT p := named_pt (by unfold rolesP; simp [h])
theorem rol_hr {p : Py} {r : Rl} (hn : bt r.name ∈ NT p) (hg : r ∉ p.grow) : rol p r ∈ hRoles p := by
  refine mem_hr.2 ⟨who_et p r.owner, hn, fun h => ?_⟩
  by_cases ho : bt r.owner ∈ PT p
  · rw [rol_in ho] at h
    exact hg h
  · have h1 := (grow_pt h).1
    have h2 : bt (rol p r).owner = FT p := by
      show bt (who p r.owner) = _
      rw [who_out ho, bt_txt]
    rw [h2] at h1
    exact ft_new p h1
theorem free_der {p : Py} {r : Rl} (hn : bt r.name ∈ NT p) (hg : r ∉ p.grow) (x : ByteArray) : DerN (maxS p) (rol p r) (who p x) := by
  have h := DerN.mem (S := maxS p) (memP (rol p r) (bt (who p x))) (mem_max.2 (.inr (mem_hp.2 ⟨_, rol_hr hn hg, _, who_et p x, rfl⟩))) rfl
  have e : (memP (rol p r) (bt (who p x))).who = who p x := by show txt (bt (who p x)) = _; rw [txt_bt]
  rw [e] at h
  exact h
theorem stmt_pt {p : Py} {s : St} (hs : s ∈ p.stmts) {r : Rl} (hr : r ∈ rolesL s) : bt r.owner ∈ PT p ∧ bt r.name ∈ NT p := named_pt (stmt_role hs hr)
theorem head_in (s : St) : s.head ∈ rolesL s := by
  unfold rolesL
  split
  · simp
  · split <;> simp
theorem a_in {s : St} (h : s.kind = 2 ∨ s.kind = 3 ∨ s.kind = 4) : s.a ∈ rolesL s := by
  unfold rolesL
  split
  · simp
  · split
    · simp
    · exfalso; omega
theorem b_in {s : St} (h : s.kind = 4) : s.b ∈ rolesL s := by
  unfold rolesL
  rw [if_neg (by omega), if_pos h]; simp
theorem who_pt {p : Py} {s : St} (hs : s ∈ p.stmts) (h : s.kind = 1) : bt s.who ∈ PT p := by
  unfold PT
  rw [mem_tab]
  unfold prinsT whosS
  rw [List.mem_append, List.mem_append, List.take_length (l := p.stmts)]
  exact .inl (.inr (List.mem_map.2 ⟨s, List.mem_filter.2 ⟨hs, by simp [h]⟩, rfl⟩))
theorem via_nt {p : Py} {s : St} (hs : s ∈ p.stmts) (h : s.kind = 3) : bt s.via ∈ NT p := by
  unfold NT
  rw [mem_tab]
  unfold namesT viasS
  rw [List.mem_append, List.take_length (l := p.stmts)]
  exact .inr (List.mem_map.2 ⟨s, List.mem_filter.2 ⟨hs, by simp [h]⟩, rfl⟩)
theorem holds_max {p : Py} {C : List St} (hC : ∀ s ∈ C, s ∈ p.stmts ∨ s.head ∉ p.grow) {r : Rl} {x : ByteArray} (d : DerN C r x) : bt r.name ∈ NT p → DerN (maxS p) (rol p r) (who p x) := by
  induction d with
  | mem s hs hk =>
    intro hn
    rcases hC s hs with h | h
    · rw [rol_in (stmt_pt h (head_in s)).1, who_in (who_pt h hk)]
      exact .mem s (mem_max.2 (.inl h)) hk
    · exact free_der hn h _
  | incl s x hs hk _ ih =>
    intro hn
    rcases hC s hs with h | h
    · have ha := stmt_pt h (a_in (s := s) (by omega))
      have i := ih ha.2
      rw [rol_in ha.1] at i
      rw [rol_in (stmt_pt h (head_in s)).1]
      exact .incl s _ (mem_max.2 (.inl h)) hk i
    · exact free_der hn h _
  | link s x y hs hk _ _ i1 i2 =>
    intro hn
    rcases hC s hs with h | h
    · have ha := stmt_pt h (a_in (s := s) (by omega))
      have j1 := i1 ha.2
      have j2 := i2 (via_nt h hk)
      rw [rol_in ha.1] at j1
      rw [rol_in (stmt_pt h (head_in s)).1]
      exact .link s _ _ (mem_max.2 (.inl h)) hk j1 j2
    · exact free_der hn h _
  | both s x hs hk _ _ i1 i2 =>
    intro hn
    rcases hC s hs with h | h
    · have ha := stmt_pt h (a_in (s := s) (by omega))
      have hb := stmt_pt h (b_in (s := s) hk)
      have j1 := i1 ha.2
      have j2 := i2 hb.2
      rw [rol_in ha.1] at j1
      rw [rol_in hb.1] at j2
      rw [rol_in (stmt_pt h (head_in s)).1]
      exact .both s _ (mem_max.2 (.inl h)) hk j1 j2
    · exact free_der hn h _
theorem free_of {p : Py} {C : List St} (h : C.all (StJ.ok1 p.stmts p.grow) = true) : ∀ s ∈ C, s ∈ p.stmts ∨ s.head ∉ p.grow := fun s hs => by
  have h1 := List.all_eq_true.1 h s hs
  unfold StJ.ok1 at h1
  simp only [Bool.and_eq_true, Bool.or_eq_true, decide_eq_true_eq, Bool.not_eq_true', decide_eq_false_iff_not] at h1
  exact h1.2
theorem reach_max {p : Py} (h : Rp p) : ((maxS p).all (StJ.ok1 p.stmts p.grow) && p.stmts.all (StJ.ok2 (maxS p) p.shrink)) = true := by
  rw [Bool.and_eq_true]
  constructor
  · rw [List.all_eq_true]
    intro s hs
    have hr : s.right = true := by
      have h1 := max_ok h s hs
      unfold TblF.ruleOk at h1
      simp only [Bool.and_eq_true] at h1
      exact h1.1.1
    unfold StJ.ok1
    simp only [Bool.and_eq_true, Bool.or_eq_true, decide_eq_true_eq, Bool.not_eq_true', decide_eq_false_iff_not]
    refine ⟨hr, ?_⟩
    rcases mem_max.1 hs with hs | hs
    · exact .inl hs
    · obtain ⟨r, hm, x, _, rfl⟩ := mem_hp.1 hs
      exact .inr (mem_hr.1 hm).2.2
  · rw [List.all_eq_true]
    intro s hs
    unfold StJ.ok2
    rw [decide_eq_true (mem_max.2 (.inl hs)), Bool.or_true]
theorem most_has {p : Py} {C : List St} {X : List Pa} (h : Rp p) (hC : ∀ s ∈ C, s ∈ p.stmts ∨ s.head ∉ p.grow) (hX : ∀ r x, (⟨r, x⟩ : Pa) ∈ X ↔ DerN C r x) {a n y : Str} (ha : a ∈ PT p) (hn : n ∈ NT p) (hy : y ∈ LwE.memF X ⟨txt a, txt n⟩) : (if y ∈ PT p then y else FT p) ∈ memT (ET p) (NT p) (rulesOf (ET p) (NT p) (maxS p)) ⟨txt a, txt n⟩ := by
  rw [mem_memT (et_up p) (max_ok h)]
  have d := holds_max hC ((mem_memF hX _ _).1 hy) (by rw [bt_txt]; exact hn)
  rw [rol_in (by rw [bt_txt]; exact ha)] at d
  split
  · rename_i hp
    rw [who_in (by rw [bt_txt]; exact hp)] at d
    exact d
  · rename_i hp
    rw [who_out (by rw [bt_txt]; exact hp)] at d
    exact d
end Go.Proofs.YteabkbcbmimkgaaGreatDoor.HiR
