/- Diagrams' nodes: the document's example. -/
import Derived.Test.YtekgegpholcdcaaNdI
namespace Go.Proofs.Ytekgegpholcdcaa.NdJ
open Go.RowKit Go.Lib Go.Proofs Go.Proofs.Ytekgegpholcdcaa.NdA Go.Proofs.Ytekgegpholcdcaa.NdH Go.Proofs.Ytekgegpholcdcaa.NdB Go.Proofs.Ytekgegpholcdcaa.NdC Go.Proofs.Ytekgegpholcdcaa.NdD Go.Proofs.Ytekgegpholcdcaa.NdE Go.Proofs.Ytekgegpholcdcaa.NdG Go.Proofs.Ytekgegpholcdcaa.NdI
set_option linter.unusedVariables false
set_option linter.unusedSimpArgs false
def s0 : St := NdG.start 3 9
def s1 : St := ⟨3, 9, false, [⟨0, 0, 1⟩]⟩
theorem a0 : mkA s0 0 0 1 = 2 := by decide +kernel
theorem e0 : mkE s0 0 0 1 = 0 := by decide +kernel
theorem m0 : mkS s0 0 0 1 = s1 := by rfl
theorem a1 : mkA s1 0 0 1 = 2 := by decide +kernel
theorem e1 : mkE s1 0 0 1 = 0 := by decide +kernel
theorem m1 : mkS s1 0 0 1 = s1 := by rfl
theorem v1 : ev s1.L (fun i => (1 : Nat).testBit i) 2 = true := by decide +kernel
theorem v2 : ev s1.L (fun i => (2 : Nat).testBit i) 2 = false := by decide +kernel
theorem make_below {W w w' : World} {B R : Nat} {v : Value} (hb : Below W.heap.size W w) (h : Frm (Foot B R v) w w') (hF : ∀ k, Foot B R v k → W.heap.size ≤ k) : Below W.heap.size W w' := Frm.below hb h hF
set_option maxRecDepth 100000 in
theorem lives (w : World) : Calls Try.prog 22 #[] w fun e w' => e = .returned (.bool true) ∧ Below w.heap.size w w' := by
  have HN := Lib.hid (new_ 3 9 (by omega) w)
  unfold NewPost at HN
  rw [show NdG.start 3 9 = s0 from rfl] at HN
  have HM0 := Lib.hid (fun B R v m Q w (H : Tk w B R v m Q s0) => make_ 0 0 1 (by omega) (by omega) (by omega) (by omega) (by show 0 < 90; omega) H)
  have HM1 := Lib.hid (fun B R v m Q w (H : Tk w B R v m Q s1) => make_ 0 0 1 (by omega) (by omega) (by omega) (by omega) (by show 1 < 90; omega) H)
  unfold MakePost at HM0 HM1
  rw [a0, e0, m0] at HM0
  rw [a1, e1, m1] at HM1
  have HV1 := Lib.hid (fun B R v m Q w (H : Tk w B R v m Q s1) => at__ 2 (by omega) (by omega) 1 (by omega) H)
  have HV2 := Lib.hid (fun B R v m Q w (H : Tk w B R v m Q s1) => at__ 2 (by omega) (by omega) 2 (by omega) H)
  rw [v1] at HV1
  rw [v2] at HV2
  have HL := Lib.hid (fun B R v m Q w (H : Tk w B R v m Q s1) => len_ H.tb)
  rw [show ((s1.L.length : Nat) : Int) = 1 from rfl] at HL
  go_enter Try.func22, Try.ntmps22
  go_wp2_with fail
  refine HN.out.mono ?_
  rintro e w1 ⟨B, R, rfl, hT, hb, hB, hR⟩
  have hF0 : ∀ k, Foot B R (.slice none 0 0) k → w.heap.size ≤ k := fun k hk => by
    rcases hk with rfl | rfl | h
    · exact hB
    · exact hR
    · cases h
  have HT1 := Lib.hid hT
  have HB1 := Lib.hid hb
  have HF1 := Lib.hid hF0
  clear hT hb hF0
  go_wp2_with fail
  refine (HM0.out _ _ _ _ _ _ HT1.out).mono ?_
  rintro e w2 ⟨rfl, R2, v2', m2, Q2, hT, hf, hk⟩
  have HT2 := Lib.hid hT
  have HB2 := Lib.hid (Frm.below HB1.out hf HF1.out)
  have HF2 := Lib.hid (show ∀ k, Foot B R2 v2' k → w.heap.size ≤ k from fun k h => by
    rcases hk k h with e | e
    · exact HF1.out k e
    · have := HB1.out.size
      omega)
  clear hT hf hk
  go_wp2_with fail
  refine (HM1.out _ _ _ _ _ _ HT2.out).mono ?_
  rintro e w3 ⟨rfl, R3, v3', m3, Q3, hT, hf, hk⟩
  have HT3 := Lib.hid hT
  have HB3 := Lib.hid (Frm.below HB2.out hf HF2.out)
  clear hT hf hk
  go_wp2_with fail
  refine (HL.out _ _ _ _ _ _ HT3.out).mono ?_
  rintro e w4 ⟨rfl, rfl⟩
  go_wp2_with fail
  refine (HV1.out _ _ _ _ _ _ HT3.out).mono ?_
  rintro e w4 ⟨rfl, hb⟩
  have HT4 := Lib.hid (HT3.out.below hb)
  have HB4 := Lib.hid (HB3.out.trans (hb.mono HB3.out.size))
  clear hb
  go_wp2_with fail
  refine (HV2.out _ _ _ _ _ _ HT4.out).mono ?_
  rintro e w5 ⟨rfl, hb⟩
  have HB5 := Lib.hid (HB4.out.trans (hb.mono HB4.out.size))
  clear hb
  go_wp2_with fail
  go_ret
  exact ⟨rfl, HB5.out⟩
end Go.Proofs.Ytekgegpholcdcaa.NdJ
