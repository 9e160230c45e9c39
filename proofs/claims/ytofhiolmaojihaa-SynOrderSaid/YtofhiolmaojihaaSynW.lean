/- Plain mathematics: the tokens of words that stand one behind the other. -/
import Derived.Test.YtofhiolmaojihaaSynR
namespace Go.Proofs.Ytofhiolmaojihaa.SynW
open Go.RowKit Go.Proofs.Ytofhiolmaojihaa.Plain Go.Proofs.Ytofhiolmaojihaa.SynP Go.Proofs.Ytofhiolmaojihaa.SynQ Go.Proofs.Ytofhiolmaojihaa.Scan1 Go.Proofs.Ytofhiolmaojihaa.Scan2 Go.Proofs.Ytofhiolmaojihaa.Scan3 Go.Proofs.Ytofhiolmaojihaa.Scan4 Go.Proofs.Ytofhiolmaojihaa.SynR
/-- No letter or digit stands first. -/
def Stops (l : List UInt8) : Prop := ∀ c, l.head? = some c → wordB c.toNat = false
theorem takeWhile_word (a : List UInt8) (rest : List UInt8) (ha : a.all (fun c => wordB c.toNat) = true) (hr : Stops rest) : (a ++ rest).takeWhile (fun c => wordB c.toNat) = a := by
  induction a with
  | nil =>
    cases rest with
    | nil => rfl
    | cons c l =>
      have := hr c rfl
      simp [List.takeWhile_cons, this]
  | cons x a ih =>
    simp only [List.all_cons, Bool.and_eq_true] at ha
    rw [List.cons_append, List.takeWhile_cons, if_pos ha.1, ih ha.2]
theorem drop_at {s : ByteArray} {k : Nat} {c : UInt8} {l : List UInt8} (h : s.data.toList.drop k = c :: l) : ∃ hk : k < s.size, s[k] = c ∧ s.data.toList.drop (k + 1) = l := by
  have hk : k < s.size := by
    rcases Nat.lt_or_ge k s.size with h1 | h1
    · exact h1
    · rw [List.drop_of_length_le (by rw [toList_len]; exact h1)] at h; cases h
  rw [drop_cons hk] at h
  injection h with h1 h2
  exact ⟨hk, h1, h2⟩
theorem named_cons {f : Int → Bool} {w : ByteArray} (h : named f w.data.toList = true) : ∃ c l, w.data.toList = c :: l ∧ f c.toNat = true ∧ wordB c.toNat = true ∧ l.all (fun c => wordB c.toNat) = true ∧ w.size ≤ 8 ∧ w.size = l.length + 1 := by
  unfold named at h
  simp only [Bool.and_eq_true, decide_eq_true_eq] at h
  obtain ⟨⟨⟨h1, h2⟩, h3⟩, h4⟩ := h
  cases e : w.data.toList with
  | nil => rw [e] at h1; simp at h1
  | cons c l =>
    rw [e] at h1 h2 h3 h4
    simp only [List.all_cons, Bool.and_eq_true] at h4
    refine ⟨c, l, rfl, h3, h4.1, h4.2, ?_, ?_⟩
    · rw [← toList_len, e]; exact h2
    · rw [← toList_len, e]; rfl
theorem drop_app {s : ByteArray} {k : Nat} {w rest : List UInt8} (h : s.data.toList.drop k = w ++ rest) : s.data.toList.drop (k + w.length) = rest := by
  rw [← List.drop_drop, h, List.drop_left]
theorem ext_app {s : ByteArray} {k : Nat} {w : ByteArray} {rest : List UInt8} (h : s.data.toList.drop k = w.data.toList ++ rest) : s.extract k (k + w.size) = w := by
  apply ba_ext
  rw [ext_list, h, ← toList_len, List.take_left]
theorem step_cap {s : ByteArray} {k m : Nat} (hk : k < s.size) (h32 : s[k] ≠ 32) (hc : capB s[k].toNat = true) (h8 : m + 1 ≤ 8) (hw : wlen s (k + 1) = m) : tkStep s k hk = .tok 1 m := by
  unfold tkStep
  rw [if_neg h32, if_pos hc, hw, if_neg (by omega)]
theorem cap_not_small {n : Int} (h : smallB n = true) : capB n = false := by
  unfold smallB at h; unfold capB
  rw [decide_eq_true_eq] at h
  exact decide_eq_false (by omega)
theorem step_small {s : ByteArray} {k m : Nat} (hk : k < s.size) (h32 : s[k] ≠ 32) (hc : smallB s[k].toNat = true) (h8 : m + 1 ≤ 8) (hw : wlen s (k + 1) = m) : tkStep s k hk = .tok 2 m := by
  unfold tkStep
  rw [if_neg h32, if_neg (by rw [cap_not_small hc]; decide), if_pos hc, hw, if_neg (by omega)]
theorem run_cap {s : ByteArray} {k : Nat} {L : List Tk} {w : ByteArray} {rest : List UInt8} (h : s.data.toList.drop k = w.data.toList ++ rest) (hn : named capB w.data.toList = true) (hr : Stops rest) :
    tkRun s k L = tkRun s (k + w.size) (L ++ [⟨1, w, k + 1⟩]) ∧ s.data.toList.drop (k + w.size) = rest := by
  obtain ⟨c, l, e, hc, hw, hl, h8, hs⟩ := named_cons hn
  have h' := h
  rw [e, List.cons_append] at h'
  obtain ⟨hk, hck, hd⟩ := drop_at h'
  have hwl : wlen s (k + 1) = l.length := by
    unfold wlen
    rw [hd, takeWhile_word l rest hl hr]
  have hst : tkStep s k hk = .tok 1 l.length := by
    have e32 : s[k] ≠ 32 := by
      rintro e32
      rw [← hck, e32] at hw
      exact absurd hw (by decide)
    subst hck
    exact step_cap hk e32 hc (by omega) hwl
  refine ⟨?_, ?_⟩
  · rw [tkRun_tok hk hst, show k + l.length + 1 = k + w.size by omega]
    have : s.extract k (k + (l.length + 1)) = w := by rw [show l.length + 1 = w.size by omega]; exact ext_app h
    rw [this]
  · have := drop_app h
    rwa [toList_len] at this
theorem run_small {s : ByteArray} {k : Nat} {L : List Tk} {w : ByteArray} {rest : List UInt8} (h : s.data.toList.drop k = w.data.toList ++ rest) (hn : named smallB w.data.toList = true) (hr : Stops rest) :
    tkRun s k L = tkRun s (k + w.size) (L ++ [⟨2, w, k + 1⟩]) ∧ s.data.toList.drop (k + w.size) = rest := by
  obtain ⟨c, l, e, hc, hw, hl, h8, hs⟩ := named_cons hn
  have h' := h
  rw [e, List.cons_append] at h'
  obtain ⟨hk, hck, hd⟩ := drop_at h'
  have hwl : wlen s (k + 1) = l.length := by
    unfold wlen
    rw [hd, takeWhile_word l rest hl hr]
  have hst : tkStep s k hk = .tok 2 l.length := by
    have e32 : s[k] ≠ 32 := by
      rintro e32
      rw [← hck, e32] at hw
      exact absurd hw (by decide)
    subst hck
    exact step_small hk e32 hc (by omega) hwl
  refine ⟨?_, ?_⟩
  · rw [tkRun_tok hk hst, show k + l.length + 1 = k + w.size by omega]
    have : s.extract k (k + (l.length + 1)) = w := by rw [show l.length + 1 = w.size by omega]; exact ext_app h
    rw [this]
  · have := drop_app h
    rwa [toList_len] at this
theorem run_sp {s : ByteArray} {k : Nat} {L : List Tk} {rest : List UInt8} (h : s.data.toList.drop k = 32 :: rest) : tkRun s k L = tkRun s (k + 1) L ∧ s.data.toList.drop (k + 1) = rest := by
  obtain ⟨hk, hck, hd⟩ := drop_at h
  exact ⟨tkRun_skip hk (by unfold tkStep; rw [if_pos hck]), hd⟩
theorem run_dot {s : ByteArray} {k : Nat} {L : List Tk} {rest : List UInt8} (h : s.data.toList.drop k = 46 :: rest) : tkRun s k L = tkRun s (k + 1) (L ++ [⟨3, dot, k + 1⟩]) ∧ s.data.toList.drop (k + 1) = rest := by
  obtain ⟨hk, hck, hd⟩ := drop_at h
  exact ⟨by rw [tkRun_tok hk (st_46 hk hck), text1 hk hck]; rfl, hd⟩
theorem run_amp {s : ByteArray} {k : Nat} {L : List Tk} {rest : List UInt8} (h : s.data.toList.drop k = 38 :: rest) : tkRun s k L = tkRun s (k + 1) (L ++ [⟨5, amp, k + 1⟩]) ∧ s.data.toList.drop (k + 1) = rest := by
  obtain ⟨hk, hck, hd⟩ := drop_at h
  exact ⟨by rw [tkRun_tok hk (st_38 hk hck), text1 hk hck]; rfl, hd⟩
theorem run_arrow {s : ByteArray} {k : Nat} {L : List Tk} {rest : List UInt8} (h : s.data.toList.drop k = 60 :: 45 :: rest) : tkRun s k L = tkRun s (k + 2) (L ++ [⟨4, arrow, k + 1⟩]) ∧ s.data.toList.drop (k + 2) = rest := by
  obtain ⟨hk, hck, hd⟩ := drop_at h
  obtain ⟨hk2, hck2, hd2⟩ := drop_at hd
  exact ⟨by rw [tkRun_tok hk (st_60 hk hck hk2 hck2), text2 hk hck hk2 hck2]; rfl, hd2⟩
theorem run_done {s : ByteArray} {k : Nat} {L : List Tk} (h : s.data.toList.drop k = []) : tkRun s k L = .ok L := by
  refine tkRun_end ?_
  intro hk
  rw [drop_cons hk] at h; cases h
theorem stops_nil : Stops [] := fun c h => by cases h
theorem stops_sp (l : List UInt8) : Stops (32 :: l) := fun c h => by injection h with h; subst h; decide
theorem stops_dot (l : List UInt8) : Stops (46 :: l) := fun c h => by injection h with h; subst h; decide
/-- A role's text. -/
def textR (r : Rl) : ByteArray := r.owner ++ ⟨#[46]⟩ ++ r.name
theorem textR_list (r : Rl) : (textR r).data.toList = r.owner.data.toList ++ (46 :: r.name.data.toList) := by
  unfold textR
  rw [ByteArray.data_append, ByteArray.data_append, Array.toList_append, Array.toList_append, List.append_assoc]
  rfl
theorem textR_size (r : Rl) : (textR r).size = r.owner.size + 1 + r.name.size := by
  unfold textR
  rw [ByteArray.size_append, ByteArray.size_append]; rfl
def roleTk (r : Rl) (k : Nat) : List Tk := [⟨1, r.owner, k + 1⟩, ⟨3, dot, k + r.owner.size + 1⟩, ⟨2, r.name, k + r.owner.size + 1 + 1⟩]
theorem run_role {s : ByteArray} {k : Nat} {L : List Tk} {r : Rl} {rest : List UInt8} (h : s.data.toList.drop k = (textR r).data.toList ++ rest) (hn : r.ok = true) (hr : Stops rest) :
    tkRun s k L = tkRun s (k + (textR r).size) (L ++ roleTk r k) ∧ s.data.toList.drop (k + (textR r).size) = rest := by
  unfold Rl.ok at hn
  rw [Bool.and_eq_true] at hn
  rw [textR_list, List.append_assoc, List.cons_append] at h
  obtain ⟨a1, b1⟩ := run_cap (L := L) h hn.1 (stops_dot _)
  obtain ⟨a2, b2⟩ := run_dot (L := L ++ [⟨1, r.owner, k + 1⟩]) b1
  obtain ⟨a3, b3⟩ := run_small (L := L ++ [⟨1, r.owner, k + 1⟩] ++ [⟨3, dot, k + r.owner.size + 1⟩]) b2 hn.2 hr
  rw [textR_size]
  refine ⟨?_, ?_⟩
  · rw [a1, a2, a3, show k + (r.owner.size + 1 + r.name.size) = k + r.owner.size + 1 + r.name.size by omega]
    unfold roleTk
    simp
  · rw [show k + (r.owner.size + 1 + r.name.size) = k + r.owner.size + 1 + r.name.size by omega]; exact b3
theorem word_ne35 {c : UInt8} (h : wordB c.toNat = true) : c ≠ 35 := by
  rintro rfl; exact absurd h (by decide)
theorem named_ne35 {f : Int → Bool} {w : ByteArray} (h : named f w.data.toList = true) : ∀ c ∈ w.data.toList, c ≠ 35 := by
  obtain ⟨c, l, e, _, hw, hl, _⟩ := named_cons h
  rw [e]
  intro x hx
  rcases List.mem_cons.1 hx with rfl | hx
  · exact word_ne35 hw
  · exact word_ne35 (List.all_eq_true.1 hl x hx)
theorem bare_no35 {s : ByteArray} (h : ∀ c ∈ s.data.toList, c ≠ 35) : bare s = s := bare_all (takeWhile_all h)
theorem role_ne35 {r : Rl} (h : r.ok = true) : ∀ c ∈ (textR r).data.toList, c ≠ 35 := by
  unfold Rl.ok at h
  rw [Bool.and_eq_true] at h
  rw [textR_list]
  intro c hc
  rcases List.mem_append.1 hc with hc | hc
  · exact named_ne35 h.1 c hc
  · rcases List.mem_cons.1 hc with rfl | hc
    · decide
    · exact named_ne35 h.2 c hc
theorem role_size {r : Rl} (h : r.ok = true) : (textR r).size ≤ 17 := by
  unfold Rl.ok at h
  rw [Bool.and_eq_true] at h
  obtain ⟨_, _, _, _, _, _, h1, _⟩ := named_cons h.1
  obtain ⟨_, _, _, _, _, _, h2, _⟩ := named_cons h.2
  rw [textR_size]; omega
/-- The tokens of a role's text. -/
theorem role_toks {r : Rl} (h : r.ok = true) : ansOf (textR r) = .ok (roleTk r 0) := by
  have hs := role_size h
  unfold ansOf
  rw [if_neg (by omega), bare_no35 (role_ne35 h)]
  obtain ⟨a, b⟩ := run_role (s := textR r) (k := 0) (L := []) (rest := []) (by simp) h stops_nil
  rw [a]
  exact run_done b
end Go.Proofs.Ytofhiolmaojihaa.SynW
