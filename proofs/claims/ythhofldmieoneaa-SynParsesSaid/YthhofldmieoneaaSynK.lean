/- The place behind a line, in the document's answers; the shapes of the tokens of lines. -/
import Derived.Test.YthhofldmieoneaaSynX
namespace Go.Proofs.Ythhofldmieoneaa.SynK
open Go.RowKit Go.Sort Go.Proofs Go.Proofs.Ythhofldmieoneaa.Plain Go.Proofs.Ythhofldmieoneaa.SynP Go.Proofs.Ythhofldmieoneaa.SynQ Go.Proofs.Ythhofldmieoneaa.Grown Go.Proofs.Ythhofldmieoneaa.SynA Go.Proofs.Ythhofldmieoneaa.Scan1 Go.Proofs.Ythhofldmieoneaa.Scan2 Go.Proofs.Ythhofldmieoneaa.Scan3 Go.Proofs.Ythhofldmieoneaa.SynG Go.Proofs.Ythhofldmieoneaa.SynH Go.Proofs.Ythhofldmieoneaa.SynR
set_option linter.unusedVariables false
set_option linter.unusedSimpArgs false
/-- How long a row of bytes is without the blanks at its end. -/
def endL (l : List UInt8) : Nat := (l.reverse.dropWhile (· == 32)).length
theorem endL_sp (l : List UInt8) : endL (l ++ [32]) = endL l := by unfold endL; simp
theorem endL_ne (l : List UInt8) {c : UInt8} (h : c ≠ 32) : endL (l ++ [c]) = l.length + 1 := by
  unfold endL
  simp [List.dropWhile_cons, h]
theorem take_last {l : List UInt8} {k : Nat} (h : k < l.length) : l.take (k + 1) = l.take k ++ [l[k]] := List.take_succ_eq_append_getElem h
theorem ne32_word {c : UInt8} (h : wordB c.toNat = true) : c ≠ 32 := by rintro rfl; exact absurd h (by decide)
theorem good_ne32 {t : Tk} (h : goodTk t) : ∀ c ∈ t.text.data.toList, c ≠ 32 := by
  have nm : ∀ {f : Int → Bool}, named f t.text.data.toList = true → ∀ c ∈ t.text.data.toList, c ≠ 32 := by
    intro f hn c hc
    unfold named at hn
    simp only [Bool.and_eq_true] at hn
    exact ne32_word (List.all_eq_true.1 hn.2 c hc)
  rcases h with ⟨_, h⟩ | ⟨_, h⟩ | ⟨_, h⟩ | ⟨_, h⟩ | ⟨_, h⟩
  · exact nm h
  · exact nm h
  · rw [h]; intro c hc; rcases (by simpa [dot] using hc : c = 46) with rfl; decide
  · rw [h]; intro c hc; rcases (by simpa [arrow] using hc : c = 60 ∨ c = 45) with rfl | rfl <;> decide
  · rw [h]; intro c hc; rcases (by simpa [amp] using hc : c = 38) with rfl; decide
theorem behind_snoc (L : List Tk) (t : Tk) : behindOf (L ++ [t]) = t.col + t.text.size := by unfold behindOf; simp
theorem run_end (s : ByteArray) : ∀ (n k : Nat) (L L' : List Tk), s.size - k ≤ n → k ≤ s.size → behindOf L = endL (s.data.toList.take k) + 1 → tkRun s k L = .ok L' → behindOf L' = endL s.data.toList + 1 := by
  intro n
  induction n with
  | zero =>
    intro k L L' hn hk hb hr
    rw [tkRun_end (by omega)] at hr
    injection hr with e
    subst e
    rw [hb, List.take_of_length_le (by rw [toList_len]; omega)]
  | succ n ih =>
    intro k L L' hn hk hb hr
    by_cases h : k < s.size
    · cases hs : tkStep s k h with
      | skip =>
        rw [tkRun_skip h hs] at hr
        refine ih (k + 1) L L' (by omega) (by omega) ?_ hr
        have h32 : s[k] = 32 := by
          unfold tkStep at hs
          split at hs
          · assumption
          split at hs
          · split at hs <;> cases hs
          split at hs
          · split at hs <;> cases hs
          split at hs
          · cases hs
          split at hs
          · cases hs
          split at hs <;> cases hs
        have e : s.data.toList[k]'(by rw [toList_len]; exact h) = 32 := h32
        rw [take_last (by rw [toList_len]; exact h), e, endL_sp, hb]
      | tok kind m =>
        rw [tkRun_tok h hs] at hr
        obtain ⟨hg, h2, h3⟩ := step_good h hs
        refine ih (k + m + 1) _ L' (by omega) (by omega) ?_ hr
        have hlt : k + m < s.data.toList.length := by rw [toList_len]; omega
        have hmem : s.data.toList[k + m] ∈ (s.extract k (k + (m + 1))).data.toList := by
          rw [ext_list]
          have : ((s.data.toList.drop k).take (m + 1))[m]? = some s.data.toList[k + m] := by
            rw [List.getElem?_take_of_lt (by omega), List.getElem?_drop, List.getElem?_eq_getElem hlt]
          exact List.mem_of_getElem? this
        rw [behind_snoc, take_last hlt, endL_ne _ (good_ne32 hg _ hmem), List.length_take_of_le (by omega)]
        show k + 1 + (s.extract k (k + (m + 1))).size = _
        rw [ByteArray.size_extract]; omega
      | bad e => rw [tkRun_bad h hs] at hr; cases hr
    · rw [tkRun_end h] at hr
      injection hr with e
      subst e
      rw [hb, List.take_of_length_le (by rw [toList_len]; omega)]
theorem ans_end {s : ByteArray} {L : List Tk} (h : ansOf s = .ok L) : behindOf L = endL (bare s).data.toList + 1 := by
  unfold ansOf at h
  split at h
  · cases h
  · exact run_end (bare s) (bare s).size 0 [] L (by omega) (by omega) rfl h
theorem toList_last {u : ByteArray} (h : 0 < u.size) : u.data.toList = (u.extract 0 (u.size - 1)).data.toList ++ [u[u.size - 1]] := by
  have e := take_last (l := u.data.toList) (k := u.size - 1) (by rw [toList_len]; omega)
  rw [show u.size - 1 + 1 = u.size by omega, List.take_of_length_le (by rw [toList_len]; omega)] at e
  have e2 := ext_list u 0 (u.size - 1)
  rw [Nat.zero_add, List.drop_zero] at e2
  rw [e2]; exact e
set_option maxRecDepth 100000 in
theorem endRef (s : ByteArray) (w : World) (hs : s.size ≤ 1000000) : Calls Try.prog 53 #[.string s] w fun e w' => e = .returned (.int .i64 (endL (bare s).data.toList + 1 : Nat)) ∧ w = w' := by
  have hbl := bare_le s
  go_enter Try.func53, Try.ntmps53
  go_wp2_with (go_at_call 54; refine (bareRef s _ (by unfold maxLen; omega)).mono ?_; rintro e w' ⟨rfl, rfl⟩)
  generalize hB : bare s = t at *
  have HB := Lib.hid hB
  clear hB
  go_loop [3] (fun v => ∃ u : ByteArray, v = .string u ∧ u.size ≤ 1000000 ∧ Hid (endL t.data.toList = endL u.data.toList)) (fun v => match v with | .string u => u.size | _ => 0)
  case atStart => exact ⟨t, rfl, by omega, Lib.hid rfl⟩
  case round =>
    obtain ⟨u, rfl, hu, hrun⟩ := hrel
    by_cases h0 : 0 < u.size
    · obtain ⟨m, hm⟩ : ∃ m, u.size = m + 1 := ⟨u.size - 1, by omega⟩
      have hml : m < u.size := by omega
      have hl : u.data.toList = (u.extract 0 m).data.toList ++ [u[m]] := by
        have e := take_last (l := u.data.toList) (k := m) (by rw [toList_len]; omega)
        rw [← hm, List.take_of_length_le (by rw [toList_len]; omega)] at e
        have e2 := ext_list u 0 m
        rw [Nat.zero_add, List.drop_zero] at e2
        rw [e2]; exact e
      have hes : (u.extract 0 m).size = m := by rw [ByteArray.size_extract]; omega
      by_cases h32 : u[m] = 32
      · have hnext : Hid (endL t.data.toList = endL (u.extract 0 m).data.toList) := Lib.hid (by rw [hrun.out, hl, h32, endL_sp])
        have e32 : ((u[m].toNat : Int) == 32) = true := i8_eq (n := 32) rfl h32
        have hle : Hid ((u.extract 0 m).size ≤ 1000000) := Lib.hid (by omega)
        have hlt : Hid ((u.extract 0 m).size < u.size) := Lib.hid (by omega)
        clear hrun hl h32 hes
        go_wp2_with fail
        exact ⟨⟨_, rfl, hle.out, hnext⟩, hlt.out⟩
      · have hfin : Hid (endL t.data.toList = m + 1) := Lib.hid (by rw [hrun.out, hl, endL_ne _ h32, toList_len, hes])
        have e32 : ((u[m].toNat : Int) == 32) = false := i8_ne (n := 32) rfl h32
        clear hrun hl h32 hes
        go_wp2_with fail
        go_ret
        exact ⟨ret_int (by rw [HB.out, hfin.out]; rfl), rfl⟩
    · have hfin : Hid (endL t.data.toList = 0) := Lib.hid (by
        rw [hrun.out]
        have : u.data.toList = [] := List.eq_nil_of_length_eq_zero (by rw [toList_len]; omega)
        rw [this]; rfl)
      have hz : u.size = 0 := by omega
      clear hrun
      go_wp2_with fail
      go_ret
      exact ⟨ret_int (by rw [HB.out, hfin.out]; rfl), rfl⟩
end Go.Proofs.Ythhofldmieoneaa.SynK
