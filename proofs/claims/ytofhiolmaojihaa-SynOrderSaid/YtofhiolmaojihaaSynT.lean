/- Tokens compared, and the role that tokens begin with. -/
import Derived.Test.YtofhiolmaojihaaSynW
import Derived.Test.YtofhiolmaojihaaSynC
import Derived.Test.YtofhiolmaojihaaSynL
import Derived.Test.YtofhiolmaojihaaSynS
namespace Go.Proofs.Ytofhiolmaojihaa.SynT
open Go.RowKit Go.Sort Go.Proofs Go.Proofs.Ytofhiolmaojihaa.Plain Go.Proofs.Ytofhiolmaojihaa.SynP Go.Proofs.Ytofhiolmaojihaa.SynQ Go.Proofs.Ytofhiolmaojihaa.Grown Go.Proofs.Ytofhiolmaojihaa.SynA Go.Proofs.Ytofhiolmaojihaa.SynC Go.Proofs.Ytofhiolmaojihaa.SynR Go.Proofs.Ytofhiolmaojihaa.SynW Go.Proofs.Ytofhiolmaojihaa.Scan3 Go.Proofs.Ytofhiolmaojihaa.Scan5 Go.Proofs.Ytofhiolmaojihaa.Syn1 Go.Proofs.Ytofhiolmaojihaa.Syn2 Go.Proofs.Ytofhiolmaojihaa.Syn4 Go.Proofs.Ytofhiolmaojihaa.SynL Go.Proofs.Ytofhiolmaojihaa.SynS
set_option linter.unusedVariables false
set_option linter.unusedSimpArgs false
def kts (L : List Tk) : List (Int × ByteArray) := L.map fun t => (t.kind, t.text)
theorem same1 (k1 : Int) (t1 : ByteArray) (c1 : Int) (k2 : Int) (t2 : ByteArray) (c2 : Int) (w : World) : Calls Try.prog 73 #[.agg #[.int .i64 k1, .string t1, .int .i64 c1], .agg #[.int .i64 k2, .string t2, .int .i64 c2]] w fun e w' => e = .returned (.bool (decide ((k1, t1) = (k2, t2)))) ∧ Grew w w' := by
  by_cases hk : k1 = k2
  · subst hk
    have H : Hid (decide ((k1, t1) = (k1, t2)) = (t1.toList == t2.toList)) := Lib.hid (by rw [same_eq]; simp)
    go_enter Try.func73, Try.ntmps73
    go_wp2
    go_ret
    exact ⟨ret_bool H.out.symm, ((Grew.refl _).alloc _).alloc _⟩
  · have H : Hid (decide ((k1, t1) = (k2, t2)) = false) := Lib.hid (by simp [hk])
    have h1 : (k1 == k2) = false := by simpa using hk
    clear hk
    go_enter Try.func73, Try.ntmps73
    go_wp2
    go_ret
    exact ⟨ret_bool H.out.symm, ((Grew.refl _).alloc _).alloc _⟩
theorem kts_len (L : List Tk) : (kts L).length = L.length := List.length_map ..
theorem take_next {α : Type} {a b : List α} {k : Nat} (h1 : k < a.length) (h2 : k < b.length) (h : a.take k = b.take k) (he : a[k] = b[k]) : a.take (k + 1) = b.take (k + 1) := by
  rw [List.take_succ_eq_append_getElem h1, List.take_succ_eq_append_getElem h2, h, he]
set_option maxHeartbeats 800000 in
set_option maxRecDepth 100000 in
theorem equalFunc (A B : Option Addr) (ca cb : Nat) (L M : List Tk) (w : World) (hL : L.length ≤ 100000) (hM : M.length ≤ 100000) (hA : TkAt w A L) (hB : TkAt w B M) :
    Calls Try.prog 72 #[.slice A L.length ca, .slice B M.length cb, .func (.func 73) #[] #[]] w fun e w' => e = .returned (.bool (decide (kts L = kts M))) ∧ Below w.heap.size w w' := by
  by_cases hlen : L.length = M.length
  · have HA := Lib.hid hA
    have HB := Lib.hid hB
    have Hlen := Lib.hid hlen
    clear hA hB
    rw [← hlen] at hM
    have hMl : Hid (M.length = L.length) := Lib.hid hlen.symm
    have e0 : (.slice B M.length cb : Value) = .slice B L.length cb := by rw [hlen]
    rw [e0]
    clear hlen e0
    go_enter Try.func72, Try.ntmps72
    go_wp2_with fail
    go_loopw [17] (fun i wr => ∃ k : Nat, k ≤ L.length ∧ i = .int .i64 k ∧ Hid ((kts L).take k = (kts M).take k) ∧ Below w.heap.size w wr) (fun i _ => L.length - (intOf i).toNat)
    case atStart => exact ⟨0, by omega, rfl, Lib.hid (by simp), Below.refl _ _⟩
    case round =>
      obtain ⟨k, hk, rfl, hrun, hbel⟩ := hrel
      by_cases hlt : k < L.length
      · have hltM : k < M.length := by rw [hMl.out]; exact hlt
        obtain ⟨g1, o1, rfl, hg1, h1⟩ := (HA.out.below hbel) (by omega)
        obtain ⟨g2, o2, rfl, hg2, h2⟩ := (HB.out.below hbel) (by omega)
        obtain ⟨a1, b1, c1⟩ := h1 k hlt
        obtain ⟨a2, b2, c2⟩ := h2 k hltM
        have f1 : (kts L)[k]'(by rw [kts_len]; exact hlt) = (L[k].kind, L[k].text) := List.getElem_map ..
        have f2 : (kts M)[k]'(by rw [kts_len]; exact hltM) = (M[k].kind, M[k].text) := List.getElem_map ..
        clear h1 h2
        have p1 : (0 : Int) ≤ k := by omega
        by_cases he : (L[k].kind, L[k].text) = (M[k].kind, M[k].text)
        · have hnext : Hid ((kts L).take (k + 1) = (kts M).take (k + 1)) := Lib.hid (take_next (by rw [kts_len]; exact hlt) (by rw [kts_len]; exact hltM) hrun.out (by rw [f1, f2, he]))
          have HS := Lib.hid (same1 L[k].kind L[k].text L[k].col M[k].kind M[k].text M[k].col)
          rw [decide_eq_true he] at HS
          clear hrun f1 f2 he
          go_wp2_with (go_at_call 73; refine (HS.out _).mono ?_; rintro e w1 ⟨rfl, hg⟩)
          have hb2 : Below w.heap.size w w1 := ((hbel.alloc hbel.size _).alloc (by have := hbel.size; simp; omega) _).trans (hg.below.mono (by have := hbel.size; simp; omega))
          clear hg
          go_roundw
          case rel => exact ⟨k + 1, by omega, by go_num, hnext, hb2⟩
          case measure => simp [intOf]; omega
        · have hfin : Hid (decide (kts L = kts M) = false) := Lib.hid (decide_eq_false (fun e => he (by rw [← f1, ← f2]; simp only [e])))
          have HS := Lib.hid (same1 L[k].kind L[k].text L[k].col M[k].kind M[k].text M[k].col)
          rw [decide_eq_false he] at HS
          clear hrun f1 f2 he
          go_wp2_with (go_at_call 73; refine (HS.out _).mono ?_; rintro e w1 ⟨rfl, hg⟩)
          have hb2 : Below w.heap.size w w1 := ((hbel.alloc hbel.size _).alloc (by have := hbel.size; simp; omega) _).trans (hg.below.mono (by have := hbel.size; simp; omega))
          go_ret
          exact ⟨ret_bool hfin.out.symm, hb2⟩
      · have hfin : Hid (decide (kts L = kts M) = true) := Lib.hid (decide_eq_true (by
          have := hrun.out
          rw [List.take_of_length_le (by rw [kts_len]; omega), List.take_of_length_le (by rw [kts_len, hMl.out]; omega)] at this
          exact this))
        clear hrun
        go_wp2_with fail
        go_ret
        exact ⟨ret_bool hfin.out.symm, hbel⟩
  · have H : Hid (decide (kts L = kts M) = false) := Lib.hid (decide_eq_false (fun e => hlen (by rw [← kts_len, e, kts_len])))
    have h1 : ((L.length : Int) != M.length) = true := by simp; omega
    clear hlen
    go_enter Try.func72, Try.ntmps72
    go_wp2_with fail
    go_ret
    exact ⟨ret_bool H.out.symm, Below.refl _ _⟩
theorem same (A B : Option Addr) (ca cb : Nat) (L M : List Tk) (w : World) (hL : L.length ≤ 100000) (hM : M.length ≤ 100000) (hA : TkAt w A L) (hB : TkAt w B M) :
    Calls Try.prog 58 #[.slice A L.length ca, .slice B M.length cb] w fun e w' => e = .returned (.bool (decide (kts L = kts M))) ∧ Below w.heap.size w w' := by
  have H := Lib.hid (equalFunc A B ca cb L M w hL hM hA hB)
  clear hA hB
  generalize decide (kts L = kts M) = r at *
  go_enter Try.func58, Try.ntmps58
  go_wp2_with (go_at_call 72; refine H.out.mono ?_; rintro e w1 ⟨rfl, hb⟩)
  go_ret
  exact ⟨rfl, hb⟩
/-- The tokens of a good role's text. -/
theorem roleTokens (r : Rl) (w : World) (h : r.ok = true) : Calls Try.prog 59 #[r.val] w (ClonePost (roleTk r 0) w) := by
  obtain ⟨o, n⟩ := r
  have hs := role_size h
  have H := Lib.hid (tokens (textR ⟨o, n⟩) · (by omega))
  have HA := Lib.hid (role_toks h)
  have b0 := ok_small h
  clear hs h
  unfold Rl.val
  go_enter Try.func59, Try.ntmps59
  go_wp2_with (first | (go_at_call 19; refine (printRole' _ _ _ b0.1 b0.2).mono ?_; rintro e w1 ⟨rfl, hg⟩) | (go_at_call 46; refine (H.out _).mono ?_; rintro e w2 ⟨v, rfl, hown, hb⟩))
  rw [HA.out] at hown
  have hb2 : Below w.heap.size w w2 := ((Below.refl _ _).alloc (Nat.le_refl _) _).trans ((hg.below.mono (by simp)).trans (hb.mono (by have := hg.size; simp at this; omega)))
  go_wp2_with fail
  go_ret
  exact ⟨_, rfl, by
    have hz := hg.size
    simp at hz
    refine ⟨hown.1, ?_⟩
    rcases hown.2 with h0 | ⟨g, cap, cur, hv, hgg, rr⟩
    · exact .inl h0
    · exact .inr ⟨g, cap, cur, hv, by omega, rr⟩, hb2⟩
end Go.Proofs.Ytofhiolmaojihaa.SynT
