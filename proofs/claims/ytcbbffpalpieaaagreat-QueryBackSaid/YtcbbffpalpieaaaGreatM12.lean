/- Plain mathematics: the tokens of a line are good ones; the tokens of words that stand one behind the other. -/
import Derived.Test.YtcbbffpalpieaaaGreatM03
import Derived.Test.YtcbbffpalpieaaaGreatM11
import Derived.Test.YtcbbffpalpieaaaGreatM08
import Derived.RegionTactic
import Derived.ChangeAlike
import Derived.Test.YtcbbffpalpieaaaGreatM04
import Derived.Test.YtcbbffpalpieaaaGreatM05
import Derived.Test.YtcbbffpalpieaaaGreatM07
namespace Go.Proofs.YtcbbffpalpieaaaGreat.SynR
set_option linter.unusedVariables false
set_option linter.unusedSimpArgs false
open Go.RowKit Go.Proofs.YtcbbffpalpieaaaGreat.Plain Go.Proofs.YtcbbffpalpieaaaGreat.SynP Go.Proofs.YtcbbffpalpieaaaGreat.SynQ Go.Proofs.YtcbbffpalpieaaaGreat.Scan1 Go.Proofs.YtcbbffpalpieaaaGreat.Scan2 Go.Proofs.YtcbbffpalpieaaaGreat.Scan3 Go.Proofs.YtcbbffpalpieaaaGreat.Scan4
def dot : ByteArray := ⟨#[46]⟩
def amp : ByteArray := ⟨#[38]⟩
def arrow : ByteArray := ⟨#[60, 45]⟩
def goodTk (t : Tk) : Prop := (t.kind = 1 ∧ named capB t.text.data.toList = true) ∨ (t.kind = 2 ∧ named smallB t.text.data.toList = true) ∨ (t.kind = 3 ∧ t.text = dot) ∨ (t.kind = 4 ∧ t.text = arrow) ∨ (t.kind = 5 ∧ t.text = amp)
theorem ext_list (s : ByteArray) (k m : Nat) : (s.extract k (k + m)).data.toList = (s.data.toList.drop k).take m := by
  rw [ByteArray.data_extract, Array.toList_extract, List.extract_eq_take_drop, show k + m - k = m by omega]
theorem take_takeWhile (p : UInt8 → Bool) : ∀ l : List UInt8, l.take (l.takeWhile p).length = l.takeWhile p
  | [] => rfl
  | a :: l => by
    rw [List.takeWhile_cons]
    split
    · simp [take_takeWhile p l]
    · rfl
theorem word_named {s : ByteArray} {k : Nat} (h : k < s.size) (f : Int → Bool) (hf : f s[k].toNat = true) (hw : wordB s[k].toNat = true) (h8 : ¬ wlen s (k + 1) + 1 > 8) : named f (s.extract k (k + (wlen s (k + 1) + 1))).data.toList = true := by
  have e : (s.extract k (k + (wlen s (k + 1) + 1))).data.toList = s[k] :: (s.data.toList.drop (k + 1)).takeWhile (fun c => wordB c.toNat) := by
    rw [ext_list, drop_cons h, List.take_succ_cons]
    unfold wlen
    rw [take_takeWhile]
  have hl : ((s.data.toList.drop (k + 1)).takeWhile (fun c => wordB c.toNat)).length = wlen s (k + 1) := rfl
  rw [e]
  unfold named
  simp only [List.length_cons, hl, List.headD_cons, hf, List.all_cons, hw, Bool.true_and, Bool.and_true, Bool.and_eq_true, decide_eq_true_eq]
  refine ⟨⟨by omega, by omega⟩, ?_⟩
  exact List.all_takeWhile
theorem step_good {s : ByteArray} {k : Nat} (h : k < s.size) {kind : Int} {m : Nat} (hs : tkStep s k h = .tok kind m) : goodTk ⟨kind, s.extract k (k + (m + 1)), k + 1⟩ ∧ k + m + 1 ≤ s.size ∧ m + 1 ≤ 8 := by
  have hle := wlen_le s (k + 1)
  unfold tkStep at hs
  split at hs
  · cases hs
  split at hs
  · rename_i h1
    split at hs
    · cases hs
    · rename_i h8
      injection hs with e1 e2
      subst e1; subst e2
      exact ⟨.inl ⟨rfl, word_named h capB h1 (word_of_cap h1) h8⟩, by omega, by omega⟩
  split at hs
  · rename_i h1
    split at hs
    · cases hs
    · rename_i h8
      injection hs with e1 e2
      subst e1; subst e2
      exact ⟨.inr (.inl ⟨rfl, word_named h smallB h1 (word_of_small h1) h8⟩), by omega, by omega⟩
  split at hs
  · rename_i h1
    injection hs with e1 e2
    subst e1; subst e2
    exact ⟨.inr (.inr (.inl ⟨rfl, text1 h h1⟩)), by omega, by omega⟩
  split at hs
  · rename_i h1
    injection hs with e1 e2
    subst e1; subst e2
    exact ⟨.inr (.inr (.inr (.inr ⟨rfl, text1 h h1⟩))), by omega, by omega⟩
  split at hs
  · rename_i h1
    injection hs with e1 e2
    subst e1; subst e2
    obtain ⟨a, h2, b⟩ := (pre_iff h).1 h1
    exact ⟨.inr (.inr (.inr (.inl ⟨rfl, text2 h a h2 b⟩))), by omega, by omega⟩
  · cases hs
/-- Tokens are good, and lie in a line of this size. -/
def GoodL (n : Nat) (L : List Tk) : Prop := ∀ t ∈ L, goodTk t ∧ t.col ≤ n ∧ t.text.size ≤ 8
theorem run_good (s : ByteArray) : ∀ (n k : Nat) (L L' : List Tk), s.size - k ≤ n → GoodL s.size L → tkRun s k L = .ok L' → GoodL s.size L' := by
  intro n
  induction n with
  | zero =>
    intro k L L' hn hL hr
    rw [tkRun_end (by omega)] at hr
    injection hr with e
    subst e; exact hL
  | succ n ih =>
    intro k L L' hn hL hr
    by_cases h : k < s.size
    · cases hs : tkStep s k h with
      | skip =>
        rw [tkRun_skip h hs] at hr
        exact ih (k + 1) L L' (by omega) hL hr
      | tok kind m =>
        rw [tkRun_tok h hs] at hr
        obtain ⟨h1, h2, h3⟩ := step_good h hs
        refine ih (k + m + 1) _ L' (by omega) ?_ hr
        intro t ht
        rw [List.mem_append, List.mem_singleton] at ht
        rcases ht with ht | rfl
        · exact hL t ht
        · refine ⟨h1, by show k + 1 ≤ _; omega, ?_⟩
          show (s.extract k (k + (m + 1))).size ≤ 8
          rw [ByteArray.size_extract]; omega
      | bad e => rw [tkRun_bad h hs] at hr; cases hr
    · rw [tkRun_end h] at hr
      injection hr with e
      subst e; exact hL
theorem ans_good {s : ByteArray} {L : List Tk} (h : ansOf s = .ok L) : GoodL 200 L := by
  unfold ansOf at h
  split at h
  · cases h
  · rename_i h2
    have := run_good (bare s) (bare s).size 0 [] L (by omega) (by intro t ht; cases ht) h
    have hb := bare_le s
    exact fun t ht => ⟨(this t ht).1, by have := (this t ht).2.1; omega, (this t ht).2.2⟩
theorem run_len (s : ByteArray) : ∀ (n k : Nat) (L L' : List Tk), s.size - k ≤ n → tkRun s k L = .ok L' → L'.length ≤ L.length + n := by
  intro n
  induction n with
  | zero =>
    intro k L L' hn hr
    rw [tkRun_end (by omega)] at hr
    injection hr with e
    subst e; omega
  | succ n ih =>
    intro k L L' hn hr
    by_cases h : k < s.size
    · cases hs : tkStep s k h with
      | skip =>
        rw [tkRun_skip h hs] at hr
        have := ih (k + 1) L L' (by omega) hr; omega
      | tok kind m =>
        rw [tkRun_tok h hs] at hr
        have := ih (k + m + 1) _ L' (by omega) hr
        rw [List.length_append, List.length_singleton] at this
        omega
      | bad e => rw [tkRun_bad h hs] at hr; cases hr
    · rw [tkRun_end h] at hr
      injection hr with e
      subst e; omega
theorem ans_len {s : ByteArray} {L : List Tk} (h : ansOf s = .ok L) : L.length ≤ 200 := by
  unfold ansOf at h
  split at h
  · cases h
  · have := run_len (bare s) (bare s).size 0 [] L (by omega) h
    have hb := bare_le s
    simp at this
    omega
end Go.Proofs.YtcbbffpalpieaaaGreat.SynR
/- Plain mathematics: the tokens of words that stand one behind the other. -/
namespace Go.Proofs.YtcbbffpalpieaaaGreat.SynW
set_option linter.unusedVariables false
set_option linter.unusedSimpArgs false
open Go.RowKit Go.Proofs.YtcbbffpalpieaaaGreat.Plain Go.Proofs.YtcbbffpalpieaaaGreat.SynP Go.Proofs.YtcbbffpalpieaaaGreat.SynQ Go.Proofs.YtcbbffpalpieaaaGreat.Scan1 Go.Proofs.YtcbbffpalpieaaaGreat.Scan2 Go.Proofs.YtcbbffpalpieaaaGreat.Scan3 Go.Proofs.YtcbbffpalpieaaaGreat.Scan4 Go.Proofs.YtcbbffpalpieaaaGreat.SynR
/-- No letter or digit stands first. -/
def Stops (l : List UInt8) : Prop := ∀ c, l.head? = some c → wordB c.toNat = false
theorem takeWhile_word (a : List UInt8) (rest : List UInt8) (ha : a.all (fun c => wordB c.toNat) = true) (hr : Stops rest) : (a ++ rest).takeWhile (fun c => wordB c.toNat) = a := by
  induction a with
  | nil =>
    cases rest with
    | nil => rfl
    | cons c l =>
      have := hr c rfl
      simp [List.takeWhile_cons, this]
  | cons x a ih =>
    simp only [List.all_cons, Bool.and_eq_true] at ha
    rw [List.cons_append, List.takeWhile_cons, if_pos ha.1, ih ha.2]
theorem drop_at {s : ByteArray} {k : Nat} {c : UInt8} {l : List UInt8} (h : s.data.toList.drop k = c :: l) : ∃ hk : k < s.size, s[k] = c ∧ s.data.toList.drop (k + 1) = l := by
  have hk : k < s.size := by
    rcases Nat.lt_or_ge k s.size with h1 | h1
    · exact h1
    · rw [List.drop_of_length_le (by rw [toList_len]; exact h1)] at h; cases h
  rw [drop_cons hk] at h
  injection h with h1 h2
  exact ⟨hk, h1, h2⟩
theorem named_cons {f : Int → Bool} {w : ByteArray} (h : named f w.data.toList = true) : ∃ c l, w.data.toList = c :: l ∧ f c.toNat = true ∧ wordB c.toNat = true ∧ l.all (fun c => wordB c.toNat) = true ∧ w.size ≤ 8 ∧ w.size = l.length + 1 := by
  unfold named at h
  simp only [Bool.and_eq_true, decide_eq_true_eq] at h
  obtain ⟨⟨⟨h1, h2⟩, h3⟩, h4⟩ := h
  cases e : w.data.toList with
  | nil => rw [e] at h1; simp at h1
  | cons c l =>
    rw [e] at h1 h2 h3 h4
    simp only [List.all_cons, Bool.and_eq_true] at h4
    refine ⟨c, l, rfl, h3, h4.1, h4.2, ?_, ?_⟩
    · rw [← toList_len, e]; exact h2
    · rw [← toList_len, e]; rfl
theorem drop_app {s : ByteArray} {k : Nat} {w rest : List UInt8} (h : s.data.toList.drop k = w ++ rest) : s.data.toList.drop (k + w.length) = rest := by
  rw [← List.drop_drop, h, List.drop_left]
theorem ext_app {s : ByteArray} {k : Nat} {w : ByteArray} {rest : List UInt8} (h : s.data.toList.drop k = w.data.toList ++ rest) : s.extract k (k + w.size) = w := by
  apply ba_ext
  rw [ext_list, h, ← toList_len, List.take_left]
theorem step_cap {s : ByteArray} {k m : Nat} (hk : k < s.size) (h32 : s[k] ≠ 32) (hc : capB s[k].toNat = true) (h8 : m + 1 ≤ 8) (hw : wlen s (k + 1) = m) : tkStep s k hk = .tok 1 m := by
  unfold tkStep
  rw [if_neg h32, if_pos hc, hw, if_neg (by omega)]
theorem cap_not_small {n : Int} (h : smallB n = true) : capB n = false := by
  unfold smallB at h; unfold capB
  rw [decide_eq_true_eq] at h
  exact decide_eq_false (by omega)
theorem step_small {s : ByteArray} {k m : Nat} (hk : k < s.size) (h32 : s[k] ≠ 32) (hc : smallB s[k].toNat = true) (h8 : m + 1 ≤ 8) (hw : wlen s (k + 1) = m) : tkStep s k hk = .tok 2 m := by
  unfold tkStep
  rw [if_neg h32, if_neg (by rw [cap_not_small hc]; decide), if_pos hc, hw, if_neg (by omega)]
theorem run_cap {s : ByteArray} {k : Nat} {L : List Tk} {w : ByteArray} {rest : List UInt8} (h : s.data.toList.drop k = w.data.toList ++ rest) (hn : named capB w.data.toList = true) (hr : Stops rest) :
    tkRun s k L = tkRun s (k + w.size) (L ++ [⟨1, w, k + 1⟩]) ∧ s.data.toList.drop (k + w.size) = rest := by
  obtain ⟨c, l, e, hc, hw, hl, h8, hs⟩ := named_cons hn
  have h' := h
  rw [e, List.cons_append] at h'
  obtain ⟨hk, hck, hd⟩ := drop_at h'
  have hwl : wlen s (k + 1) = l.length := by
    unfold wlen
    rw [hd, takeWhile_word l rest hl hr]
  have hst : tkStep s k hk = .tok 1 l.length := by
    have e32 : s[k] ≠ 32 := by
      rintro e32
      rw [← hck, e32] at hw
      exact absurd hw (by decide)
    subst hck
    exact step_cap hk e32 hc (by omega) hwl
  refine ⟨?_, ?_⟩
  · rw [tkRun_tok hk hst, show k + l.length + 1 = k + w.size by omega]
    have : s.extract k (k + (l.length + 1)) = w := by rw [show l.length + 1 = w.size by omega]; exact ext_app h
    rw [this]
  · have := drop_app h
    rwa [toList_len] at this
theorem run_small {s : ByteArray} {k : Nat} {L : List Tk} {w : ByteArray} {rest : List UInt8} (h : s.data.toList.drop k = w.data.toList ++ rest) (hn : named smallB w.data.toList = true) (hr : Stops rest) :
    tkRun s k L = tkRun s (k + w.size) (L ++ [⟨2, w, k + 1⟩]) ∧ s.data.toList.drop (k + w.size) = rest := by
  obtain ⟨c, l, e, hc, hw, hl, h8, hs⟩ := named_cons hn
  have h' := h
  rw [e, List.cons_append] at h'
  obtain ⟨hk, hck, hd⟩ := drop_at h'
  have hwl : wlen s (k + 1) = l.length := by
    unfold wlen
    rw [hd, takeWhile_word l rest hl hr]
  have hst : tkStep s k hk = .tok 2 l.length := by
    have e32 : s[k] ≠ 32 := by
      rintro e32
      rw [← hck, e32] at hw
      exact absurd hw (by decide)
    subst hck
    exact step_small hk e32 hc (by omega) hwl
  refine ⟨?_, ?_⟩
  · rw [tkRun_tok hk hst, show k + l.length + 1 = k + w.size by omega]
    have : s.extract k (k + (l.length + 1)) = w := by rw [show l.length + 1 = w.size by omega]; exact ext_app h
    rw [this]
  · have := drop_app h
    rwa [toList_len] at this
theorem run_sp {s : ByteArray} {k : Nat} {L : List Tk} {rest : List UInt8} (h : s.data.toList.drop k = 32 :: rest) : tkRun s k L = tkRun s (k + 1) L ∧ s.data.toList.drop (k + 1) = rest := by
  obtain ⟨hk, hck, hd⟩ := drop_at h
  exact ⟨tkRun_skip hk (by unfold tkStep; rw [if_pos hck]), hd⟩
theorem run_dot {s : ByteArray} {k : Nat} {L : List Tk} {rest : List UInt8} (h : s.data.toList.drop k = 46 :: rest) : tkRun s k L = tkRun s (k + 1) (L ++ [⟨3, dot, k + 1⟩]) ∧ s.data.toList.drop (k + 1) = rest := by
  obtain ⟨hk, hck, hd⟩ := drop_at h
  exact ⟨by rw [tkRun_tok hk (st_46 hk hck), text1 hk hck]; rfl, hd⟩
theorem run_amp {s : ByteArray} {k : Nat} {L : List Tk} {rest : List UInt8} (h : s.data.toList.drop k = 38 :: rest) : tkRun s k L = tkRun s (k + 1) (L ++ [⟨5, amp, k + 1⟩]) ∧ s.data.toList.drop (k + 1) = rest := by
  obtain ⟨hk, hck, hd⟩ := drop_at h
  exact ⟨by rw [tkRun_tok hk (st_38 hk hck), text1 hk hck]; rfl, hd⟩
theorem run_arrow {s : ByteArray} {k : Nat} {L : List Tk} {rest : List UInt8} (h : s.data.toList.drop k = 60 :: 45 :: rest) : tkRun s k L = tkRun s (k + 2) (L ++ [⟨4, arrow, k + 1⟩]) ∧ s.data.toList.drop (k + 2) = rest := by
  obtain ⟨hk, hck, hd⟩ := drop_at h
  obtain ⟨hk2, hck2, hd2⟩ := drop_at hd
  exact ⟨by rw [tkRun_tok hk (st_60 hk hck hk2 hck2), text2 hk hck hk2 hck2]; rfl, hd2⟩
theorem run_done {s : ByteArray} {k : Nat} {L : List Tk} (h : s.data.toList.drop k = []) : tkRun s k L = .ok L := by
  refine tkRun_end ?_
  intro hk
  rw [drop_cons hk] at h; cases h
theorem stops_nil : Stops [] := fun c h => by cases h
theorem stops_sp (l : List UInt8) : Stops (32 :: l) := fun c h => by injection h with h; subst h; decide
theorem stops_dot (l : List UInt8) : Stops (46 :: l) := fun c h => by injection h with h; subst h; decide
/-- A role's text. -/
def textR (r : Rl) : ByteArray := r.owner ++ ⟨#[46]⟩ ++ r.name
theorem textR_list (r : Rl) : (textR r).data.toList = r.owner.data.toList ++ (46 :: r.name.data.toList) := by
  unfold textR
  rw [ByteArray.data_append, ByteArray.data_append, Array.toList_append, Array.toList_append, List.append_assoc]
  rfl
theorem textR_size (r : Rl) : (textR r).size = r.owner.size + 1 + r.name.size := by
  unfold textR
  rw [ByteArray.size_append, ByteArray.size_append]; rfl
def roleTk (r : Rl) (k : Nat) : List Tk := [⟨1, r.owner, k + 1⟩, ⟨3, dot, k + r.owner.size + 1⟩, ⟨2, r.name, k + r.owner.size + 1 + 1⟩]
theorem run_role {s : ByteArray} {k : Nat} {L : List Tk} {r : Rl} {rest : List UInt8} (h : s.data.toList.drop k = (textR r).data.toList ++ rest) (hn : r.ok = true) (hr : Stops rest) :
    tkRun s k L = tkRun s (k + (textR r).size) (L ++ roleTk r k) ∧ s.data.toList.drop (k + (textR r).size) = rest := by
  unfold Rl.ok at hn
  rw [Bool.and_eq_true] at hn
  rw [textR_list, List.append_assoc, List.cons_append] at h
  obtain ⟨a1, b1⟩ := run_cap (L := L) h hn.1 (stops_dot _)
  obtain ⟨a2, b2⟩ := run_dot (L := L ++ [⟨1, r.owner, k + 1⟩]) b1
  obtain ⟨a3, b3⟩ := run_small (L := L ++ [⟨1, r.owner, k + 1⟩] ++ [⟨3, dot, k + r.owner.size + 1⟩]) b2 hn.2 hr
  rw [textR_size]
  refine ⟨?_, ?_⟩
  · rw [a1, a2, a3, show k + (r.owner.size + 1 + r.name.size) = k + r.owner.size + 1 + r.name.size by omega]
    unfold roleTk
    simp
  · rw [show k + (r.owner.size + 1 + r.name.size) = k + r.owner.size + 1 + r.name.size by omega]; exact b3
theorem word_ne35 {c : UInt8} (h : wordB c.toNat = true) : c ≠ 35 := by
  rintro rfl; exact absurd h (by decide)
theorem named_ne35 {f : Int → Bool} {w : ByteArray} (h : named f w.data.toList = true) : ∀ c ∈ w.data.toList, c ≠ 35 := by
  obtain ⟨c, l, e, _, hw, hl, _⟩ := named_cons h
  rw [e]
  intro x hx
  rcases List.mem_cons.1 hx with rfl | hx
  · exact word_ne35 hw
  · exact word_ne35 (List.all_eq_true.1 hl x hx)
theorem bare_no35 {s : ByteArray} (h : ∀ c ∈ s.data.toList, c ≠ 35) : bare s = s := bare_all (takeWhile_all h)
theorem role_ne35 {r : Rl} (h : r.ok = true) : ∀ c ∈ (textR r).data.toList, c ≠ 35 := by
  unfold Rl.ok at h
  rw [Bool.and_eq_true] at h
  rw [textR_list]
  intro c hc
  rcases List.mem_append.1 hc with hc | hc
  · exact named_ne35 h.1 c hc
  · rcases List.mem_cons.1 hc with rfl | hc
    · decide
    · exact named_ne35 h.2 c hc
theorem role_size {r : Rl} (h : r.ok = true) : (textR r).size ≤ 17 := by
  unfold Rl.ok at h
  rw [Bool.and_eq_true] at h
  obtain ⟨_, _, _, _, _, _, h1, _⟩ := named_cons h.1
  obtain ⟨_, _, _, _, _, _, h2, _⟩ := named_cons h.2
  rw [textR_size]; omega
/-- The tokens of a role's text. -/
theorem role_toks {r : Rl} (h : r.ok = true) : ansOf (textR r) = .ok (roleTk r 0) := by
  have hs := role_size h
  unfold ansOf
  rw [if_neg (by omega), bare_no35 (role_ne35 h)]
  obtain ⟨a, b⟩ := run_role (s := textR r) (k := 0) (L := []) (rest := []) (by simp) h stops_nil
  rw [a]
  exact run_done b
end Go.Proofs.YtcbbffpalpieaaaGreat.SynW
/- A statement with nothing but its own, and its normal form, in the program and in the document's answers. -/
namespace Go.Proofs.YtcbbffpalpieaaaGreat.Syn5
set_option linter.unusedVariables false
set_option linter.unusedSimpArgs false
open Go.RowKit Go.Sort Go.Proofs Go.Proofs.YtcbbffpalpieaaaGreat.Plain Go.Proofs.YtcbbffpalpieaaaGreat.SynP Go.Proofs.YtcbbffpalpieaaaGreat.Named Go.Proofs.YtcbbffpalpieaaaGreat.RefN Go.Proofs.YtcbbffpalpieaaaGreat.Grown Go.Proofs.YtcbbffpalpieaaaGreat.Syn1 Go.Proofs.YtcbbffpalpieaaaGreat.Syn2 Go.Proofs.YtcbbffpalpieaaaGreat.Syn3 Go.Proofs.YtcbbffpalpieaaaGreat.Syn4
end Go.Proofs.YtcbbffpalpieaaaGreat.Syn5
/- Which statements are right, in the program and in the document's answers. -/
namespace Go.Proofs.YtcbbffpalpieaaaGreat.Syn7
set_option linter.unusedVariables false
set_option linter.unusedSimpArgs false
open Go.RowKit Go.Sort Go.Proofs Go.Proofs.YtcbbffpalpieaaaGreat.Plain Go.Proofs.YtcbbffpalpieaaaGreat.SynP Go.Proofs.YtcbbffpalpieaaaGreat.Named Go.Proofs.YtcbbffpalpieaaaGreat.RefN Go.Proofs.YtcbbffpalpieaaaGreat.Grown Go.Proofs.YtcbbffpalpieaaaGreat.Syn1 Go.Proofs.YtcbbffpalpieaaaGreat.Syn2 Go.Proofs.YtcbbffpalpieaaaGreat.Syn3 Go.Proofs.YtcbbffpalpieaaaGreat.Syn4 Go.Proofs.YtcbbffpalpieaaaGreat.Syn5 Go.Proofs.YtcbbffpalpieaaaGreat.SynE
set_option linter.unusedSimpArgs false
set_option linter.unusedVariables false
theorem mixed : Tryz.prog.follows .mixedOrders = true := by kernel_rfl
theorem own_parts (s : St) : ∃ wh2 ao2 an2 bo2 bn2 v2, s.own = ⟨s.kind, s.head, wh2, ⟨ao2, an2⟩, ⟨bo2, bn2⟩, v2⟩ := by
  obtain ⟨k1, ⟨ho, hn⟩, wh, ⟨ao, an⟩, ⟨bo, bn⟩, v⟩ := s
  unfold St.own zeroR
  split
  · exact ⟨_, _, _, _, _, _, rfl⟩
  split
  · exact ⟨_, _, _, _, _, _, rfl⟩
  split
  · exact ⟨_, _, _, _, _, _, rfl⟩
  split <;> exact ⟨_, _, _, _, _, _, rfl⟩
end Go.Proofs.YtcbbffpalpieaaaGreat.Syn7
/- Which statements are right, in the document's answers. -/
namespace Go.Proofs.YtcbbffpalpieaaaGreat.Syn8
set_option linter.unusedVariables false
set_option linter.unusedSimpArgs false
open Go.RowKit Go.Sort Go.Proofs Go.Proofs.YtcbbffpalpieaaaGreat.Plain Go.Proofs.YtcbbffpalpieaaaGreat.SynP Go.Proofs.YtcbbffpalpieaaaGreat.Named Go.Proofs.YtcbbffpalpieaaaGreat.RefN Go.Proofs.YtcbbffpalpieaaaGreat.Grown Go.Proofs.YtcbbffpalpieaaaGreat.Syn1 Go.Proofs.YtcbbffpalpieaaaGreat.Syn2 Go.Proofs.YtcbbffpalpieaaaGreat.Syn3 Go.Proofs.YtcbbffpalpieaaaGreat.Syn4 Go.Proofs.YtcbbffpalpieaaaGreat.Syn5 Go.Proofs.YtcbbffpalpieaaaGreat.SynE
set_option linter.unusedSimpArgs false
set_option linter.unusedVariables false
theorem eqR0 (o n : ByteArray) (w : World) : (binOp .eql 23 (.agg #[.string o, .string n]) (.agg #[.string ⟨#[]⟩, .string ⟨#[]⟩])).run Tryz.prog w = .ok (.bool (decide ((⟨o, n⟩ : Rl) = zeroR))) w := eqR o n ⟨#[]⟩ ⟨#[]⟩ w
theorem empty_eq (a : ByteArray) : a.toList.isEmpty = decide (a = noText) := by
  rw [Bool.eq_iff_iff, decide_eq_true_iff, List.isEmpty_iff, Go.ByteArray.toList_eq]
  exact ⟨fun h => ba_ext h, fun h => by rw [h]; rfl⟩
end Go.Proofs.YtcbbffpalpieaaaGreat.Syn8
/- The lines of statements, in the program and in the document's answers. -/
namespace Go.Proofs.YtcbbffpalpieaaaGreat.Syn9
set_option linter.unusedVariables false
set_option linter.unusedSimpArgs false
open Go.RowKit Go.Sort Go.Proofs Go.Proofs.YtcbbffpalpieaaaGreat.Plain Go.Proofs.YtcbbffpalpieaaaGreat.SynP Go.Proofs.YtcbbffpalpieaaaGreat.Named Go.Proofs.YtcbbffpalpieaaaGreat.RefN Go.Proofs.YtcbbffpalpieaaaGreat.Grown Go.Proofs.YtcbbffpalpieaaaGreat.Syn1 Go.Proofs.YtcbbffpalpieaaaGreat.Syn2 Go.Proofs.YtcbbffpalpieaaaGreat.Syn3 Go.Proofs.YtcbbffpalpieaaaGreat.Syn4 Go.Proofs.YtcbbffpalpieaaaGreat.Syn5 Go.Proofs.YtcbbffpalpieaaaGreat.SynE Go.Proofs.YtcbbffpalpieaaaGreat.Syn7 Go.Proofs.YtcbbffpalpieaaaGreat.Syn8
set_option linter.unusedSimpArgs false
set_option linter.unusedVariables false
theorem right_iff (k : Int) (ho hn wh ao an bo bn v : ByteArray) (h : Rl.ok ⟨ho, hn⟩ = true) : St.right ⟨k, ⟨ho, hn⟩, wh, ⟨ao, an⟩, ⟨bo, bn⟩, v⟩ = (St.says ⟨k, ⟨ho, hn⟩, wh, ⟨ao, an⟩, ⟨bo, bn⟩, v⟩ && decide ((⟨k, ⟨ho, hn⟩, wh, ⟨ao, an⟩, ⟨bo, bn⟩, v⟩ : St) = St.own ⟨k, ⟨ho, hn⟩, wh, ⟨ao, an⟩, ⟨bo, bn⟩, v⟩)) := by
  unfold St.right; simp only [h, Bool.true_and]
end Go.Proofs.YtcbbffpalpieaaaGreat.Syn9
/- The lines of statements, in the program and in the document's answers. -/
namespace Go.Proofs.YtcbbffpalpieaaaGreat.SynL
set_option linter.unusedVariables false
set_option linter.unusedSimpArgs false
open Go.RowKit Go.Sort Go.Proofs Go.Proofs.YtcbbffpalpieaaaGreat.Plain Go.Proofs.YtcbbffpalpieaaaGreat.SynP Go.Proofs.YtcbbffpalpieaaaGreat.Named Go.Proofs.YtcbbffpalpieaaaGreat.RefN Go.Proofs.YtcbbffpalpieaaaGreat.Grown Go.Proofs.YtcbbffpalpieaaaGreat.Syn1 Go.Proofs.YtcbbffpalpieaaaGreat.Syn2 Go.Proofs.YtcbbffpalpieaaaGreat.Syn3 Go.Proofs.YtcbbffpalpieaaaGreat.Syn4 Go.Proofs.YtcbbffpalpieaaaGreat.Syn5 Go.Proofs.YtcbbffpalpieaaaGreat.SynE Go.Proofs.YtcbbffpalpieaaaGreat.Syn7 Go.Proofs.YtcbbffpalpieaaaGreat.Syn8 Go.Proofs.YtcbbffpalpieaaaGreat.Syn9
set_option linter.unusedSimpArgs false
set_option linter.unusedVariables false
def text (r : Rl) : ByteArray := r.owner ++ ⟨#[46]⟩ ++ r.name
/-- What stands behind the arrow. -/
def body (s : St) : ByteArray := if s.kind = 1 then s.who else if s.kind = 2 then text s.a else if s.kind = 3 then text s.a ++ ⟨#[46]⟩ ++ s.via else text s.a ++ ⟨#[32, 38, 32]⟩ ++ text s.b
/-- A statement's line: nothing, if it isn't right. -/
def line (s : St) : ByteArray := if s.right = true then text s.head ++ ⟨#[32, 60, 45, 32]⟩ ++ body s else noText
theorem right_kind {s : St} (h : s.right = true) : s.kind = 1 ∨ s.kind = 2 ∨ s.kind = 3 ∨ s.kind = 4 := by
  rcases kinds s.kind with h1 | h1 | h1 | h1 | ⟨h1, h2, h3, h4⟩
  · exact .inl h1
  · exact .inr (.inl h1)
  · exact .inr (.inr (.inl h1))
  · exact .inr (.inr (.inr h1))
  · unfold St.right St.says at h
    rw [if_neg h1, if_neg h2, if_neg h3, if_neg h4] at h
    simp at h
theorem addS (a b : ByteArray) (h : a.size + b.size ≤ 100000) (w : World) : (binOp .add 9 (.string a) (.string b)).run Tryz.prog w = .ok (.string (a ++ b)) w := by
  go_simp
  omega
theorem sz46 : (⟨#[46]⟩ : ByteArray).size = 1 := rfl
theorem sz38 : (⟨#[32, 38, 32]⟩ : ByteArray).size = 3 := rfl
theorem szA : (⟨#[32, 60, 45, 32]⟩ : ByteArray).size = 4 := rfl
theorem named_small {f} {s : ByteArray} (h : named f s.data.toList = true) : s.size ≤ 1000 := by
  rcases Nat.lt_or_ge 1000 s.size with hlt | hge
  · rw [named_len (by omega)] at h; cases h
  · exact hge
theorem ok_small {o n : ByteArray} (h : Rl.ok ⟨o, n⟩ = true) : o.size ≤ 1000 ∧ n.size ≤ 1000 := by
  unfold Rl.ok at h
  rw [Bool.and_eq_true] at h
  exact ⟨named_small h.1, named_small h.2⟩
theorem right_parts {k : Int} {ho hn wh ao an bo bn v : ByteArray} (h : St.right ⟨k, ⟨ho, hn⟩, wh, ⟨ao, an⟩, ⟨bo, bn⟩, v⟩ = true) : Rl.ok ⟨ho, hn⟩ = true ∧ (k = 1 → named capB wh.data.toList = true) ∧ ((k = 2 ∨ k = 3 ∨ k = 4) → Rl.ok ⟨ao, an⟩ = true) ∧ (k = 3 → named smallB v.data.toList = true) ∧ (k = 4 → Rl.ok ⟨bo, bn⟩ = true) := by
  unfold St.right at h
  simp only [Bool.and_eq_true] at h
  obtain ⟨⟨h1, h2⟩, h3⟩ := h
  unfold St.says at h2
  refine ⟨h1, ?_, ?_, ?_, ?_⟩
  · rintro rfl; exact h2
  · rintro (rfl | rfl | rfl)
    · exact h2
    · exact (Bool.and_eq_true _ _ ▸ h2 : _ ∧ _).1
    · have := (Bool.and_eq_true _ _ ▸ h2 : _ ∧ _).1
      exact (Bool.and_eq_true _ _ ▸ this : _ ∧ _).1
  · rintro rfl; exact (Bool.and_eq_true _ _ ▸ h2 : _ ∧ _).2
  · rintro rfl
    have := (Bool.and_eq_true _ _ ▸ h2 : _ ∧ _).1
    exact (Bool.and_eq_true _ _ ▸ this : _ ∧ _).2
theorem printRole' (o n : ByteArray) (w : World) (h1 : o.size ≤ 1000) (h2 : n.size ≤ 1000) : Calls Tryz.prog 33 #[.agg #[.string o, .string n]] w fun e w' => e = .returned (.string (o ++ ⟨#[46]⟩ ++ n)) ∧ Grew w w' := printRole ⟨o, n⟩ w ⟨h1, h2⟩
theorem printRoleRef' (o n : ByteArray) (w : World) (h1 : o.size ≤ 1000) (h2 : n.size ≤ 1000) : Calls Tryz.prog 36 #[.agg #[.string o, .string n]] w fun e w' => e = .returned (.string (o ++ ⟨#[46]⟩ ++ n)) ∧ Grew w w' := printRoleRef ⟨o, n⟩ w ⟨h1, h2⟩
end Go.Proofs.YtcbbffpalpieaaaGreat.SynL
/- Tokens compared, and the role that tokens begin with. -/
namespace Go.Proofs.YtcbbffpalpieaaaGreat.SynT
set_option linter.unusedVariables false
set_option linter.unusedSimpArgs false
open Go.RowKit Go.Sort Go.Proofs Go.Proofs.YtcbbffpalpieaaaGreat.Plain Go.Proofs.YtcbbffpalpieaaaGreat.SynP Go.Proofs.YtcbbffpalpieaaaGreat.SynQ Go.Proofs.YtcbbffpalpieaaaGreat.Grown Go.Proofs.YtcbbffpalpieaaaGreat.SynA Go.Proofs.YtcbbffpalpieaaaGreat.SynC Go.Proofs.YtcbbffpalpieaaaGreat.SynR Go.Proofs.YtcbbffpalpieaaaGreat.SynW Go.Proofs.YtcbbffpalpieaaaGreat.Scan3 Go.Proofs.YtcbbffpalpieaaaGreat.Scan5 Go.Proofs.YtcbbffpalpieaaaGreat.Syn1 Go.Proofs.YtcbbffpalpieaaaGreat.Syn2 Go.Proofs.YtcbbffpalpieaaaGreat.Syn4 Go.Proofs.YtcbbffpalpieaaaGreat.SynL Go.Proofs.YtcbbffpalpieaaaGreat.SynS
set_option linter.unusedVariables false
set_option linter.unusedSimpArgs false
def kts (L : List Tk) : List (Int × ByteArray) := L.map fun t => (t.kind, t.text)
theorem same1 (k1 : Int) (t1 : ByteArray) (c1 : Int) (k2 : Int) (t2 : ByteArray) (c2 : Int) (w : World) : Calls Tryz.prog 104 #[.agg #[.int .i64 k1, .string t1, .int .i64 c1], .agg #[.int .i64 k2, .string t2, .int .i64 c2]] w fun e w' => e = .returned (.bool (decide ((k1, t1) = (k2, t2)))) ∧ Grew w w' := by
  by_cases hk : k1 = k2
  · subst hk
    have H : Hid (decide ((k1, t1) = (k1, t2)) = (t1.toList == t2.toList)) := Lib.hid (by rw [same_eq]; simp)
    go_enter Tryz.func104, Tryz.ntmps104
    go_wp2
    go_ret
    exact ⟨ret_bool H.out.symm, ((Grew.refl _).alloc _).alloc _⟩
  · have H : Hid (decide ((k1, t1) = (k2, t2)) = false) := Lib.hid (by simp [hk])
    have h1 : (k1 == k2) = false := by simpa using hk
    clear hk
    go_enter Tryz.func104, Tryz.ntmps104
    go_wp2
    go_ret
    exact ⟨ret_bool H.out.symm, ((Grew.refl _).alloc _).alloc _⟩
theorem kts_len (L : List Tk) : (kts L).length = L.length := List.length_map ..
theorem take_next {α : Type} {a b : List α} {k : Nat} (h1 : k < a.length) (h2 : k < b.length) (h : a.take k = b.take k) (he : a[k] = b[k]) : a.take (k + 1) = b.take (k + 1) := by
  rw [List.take_succ_eq_append_getElem h1, List.take_succ_eq_append_getElem h2, h, he]
set_option maxHeartbeats 800000 in
set_option maxRecDepth 100000 in
theorem equalFunc (A B : Option Addr) (ca cb : Nat) (L M : List Tk) (w : World) (hL : L.length ≤ 100000) (hM : M.length ≤ 100000) (hA : TkAt w A L) (hB : TkAt w B M) :
    Calls Tryz.prog 103 #[.slice A L.length ca, .slice B M.length cb, .func (.func 104) #[] #[]] w fun e w' => e = .returned (.bool (decide (kts L = kts M))) ∧ Below w.heap.size w w' := by
  by_cases hlen : L.length = M.length
  · have HA := Lib.hid hA
    have HB := Lib.hid hB
    have Hlen := Lib.hid hlen
    clear hA hB
    rw [← hlen] at hM
    have hMl : Hid (M.length = L.length) := Lib.hid hlen.symm
    have e0 : (.slice B M.length cb : Value) = .slice B L.length cb := by rw [hlen]
    rw [e0]
    clear hlen e0
    go_enter Tryz.func103, Tryz.ntmps103
    go_wp2_with fail
    go_loopw [17] (fun i wr => ∃ k : Nat, k ≤ L.length ∧ i = .int .i64 k ∧ Hid ((kts L).take k = (kts M).take k) ∧ Below w.heap.size w wr) (fun i _ => L.length - (intOf i).toNat)
    case atStart => exact ⟨0, by omega, rfl, Lib.hid (by simp), Below.refl _ _⟩
    case round =>
      obtain ⟨k, hk, rfl, hrun, hbel⟩ := hrel
      by_cases hlt : k < L.length
      · have hltM : k < M.length := by rw [hMl.out]; exact hlt
        obtain ⟨g1, o1, rfl, hg1, h1⟩ := (HA.out.below hbel) (by omega)
        obtain ⟨g2, o2, rfl, hg2, h2⟩ := (HB.out.below hbel) (by omega)
        obtain ⟨a1, b1, c1⟩ := h1 k hlt
        obtain ⟨a2, b2, c2⟩ := h2 k hltM
        have f1 : (kts L)[k]'(by rw [kts_len]; exact hlt) = (L[k].kind, L[k].text) := List.getElem_map ..
        have f2 : (kts M)[k]'(by rw [kts_len]; exact hltM) = (M[k].kind, M[k].text) := List.getElem_map ..
        clear h1 h2
        have p1 : (0 : Int) ≤ k := by omega
        by_cases he : (L[k].kind, L[k].text) = (M[k].kind, M[k].text)
        · have hnext : Hid ((kts L).take (k + 1) = (kts M).take (k + 1)) := Lib.hid (take_next (by rw [kts_len]; exact hlt) (by rw [kts_len]; exact hltM) hrun.out (by rw [f1, f2, he]))
          have HS := Lib.hid (same1 L[k].kind L[k].text L[k].col M[k].kind M[k].text M[k].col)
          rw [decide_eq_true he] at HS
          clear hrun f1 f2 he
          go_wp2_with (go_at_call 104; refine (HS.out _).mono ?_; rintro e w1 ⟨rfl, hg⟩)
          have hb2 : Below w.heap.size w w1 := ((hbel.alloc hbel.size _).alloc (by have := hbel.size; simp; omega) _).trans (hg.below.mono (by have := hbel.size; simp; omega))
          clear hg
          go_roundw
          case rel => exact ⟨k + 1, by omega, by go_num, hnext, hb2⟩
          case measure => simp [intOf]; omega
        · have hfin : Hid (decide (kts L = kts M) = false) := Lib.hid (decide_eq_false (fun e => he (by rw [← f1, ← f2]; simp only [e])))
          have HS := Lib.hid (same1 L[k].kind L[k].text L[k].col M[k].kind M[k].text M[k].col)
          rw [decide_eq_false he] at HS
          clear hrun f1 f2 he
          go_wp2_with (go_at_call 104; refine (HS.out _).mono ?_; rintro e w1 ⟨rfl, hg⟩)
          have hb2 : Below w.heap.size w w1 := ((hbel.alloc hbel.size _).alloc (by have := hbel.size; simp; omega) _).trans (hg.below.mono (by have := hbel.size; simp; omega))
          go_ret
          exact ⟨ret_bool hfin.out.symm, hb2⟩
      · have hfin : Hid (decide (kts L = kts M) = true) := Lib.hid (decide_eq_true (by
          have := hrun.out
          rw [List.take_of_length_le (by rw [kts_len]; omega), List.take_of_length_le (by rw [kts_len, hMl.out]; omega)] at this
          exact this))
        clear hrun
        go_wp2_with fail
        go_ret
        exact ⟨ret_bool hfin.out.symm, hbel⟩
  · have H : Hid (decide (kts L = kts M) = false) := Lib.hid (decide_eq_false (fun e => hlen (by rw [← kts_len, e, kts_len])))
    have h1 : ((L.length : Int) != M.length) = true := by simp; omega
    clear hlen
    go_enter Tryz.func103, Tryz.ntmps103
    go_wp2_with fail
    go_ret
    exact ⟨ret_bool H.out.symm, Below.refl _ _⟩
theorem same (A B : Option Addr) (ca cb : Nat) (L M : List Tk) (w : World) (hL : L.length ≤ 100000) (hM : M.length ≤ 100000) (hA : TkAt w A L) (hB : TkAt w B M) :
    Calls Tryz.prog 88 #[.slice A L.length ca, .slice B M.length cb] w fun e w' => e = .returned (.bool (decide (kts L = kts M))) ∧ Below w.heap.size w w' := by
  have H := Lib.hid (equalFunc A B ca cb L M w hL hM hA hB)
  clear hA hB
  generalize decide (kts L = kts M) = r at *
  go_enter Tryz.func88, Tryz.ntmps88
  go_wp2_with (go_at_call 103; refine H.out.mono ?_; rintro e w1 ⟨rfl, hb⟩)
  go_ret
  exact ⟨rfl, hb⟩
/-- The tokens of a good role's text. -/
theorem roleTokens (r : Rl) (w : World) (h : r.ok = true) : Calls Tryz.prog 89 #[r.val] w (ClonePost (roleTk r 0) w) := by
  obtain ⟨o, n⟩ := r
  have hs := role_size h
  have H := Lib.hid (tokens (textR ⟨o, n⟩) · (by omega))
  have HA := Lib.hid (role_toks h)
  have b0 := ok_small h
  clear hs h
  unfold Rl.val
  go_enter Tryz.func89, Tryz.ntmps89
  go_wp2_with (first | (go_at_call 33; refine (printRole' _ _ _ b0.1 b0.2).mono ?_; rintro e w1 ⟨rfl, hg⟩) | (go_at_call 38; refine (H.out _).mono ?_; rintro e w2 ⟨v, rfl, hown, hb⟩))
  rw [HA.out] at hown
  have hb2 : Below w.heap.size w w2 := ((Below.refl _ _).alloc (Nat.le_refl _) _).trans ((hg.below.mono (by simp)).trans (hb.mono (by have := hg.size; simp at this; omega)))
  go_wp2_with fail
  go_ret
  exact ⟨_, rfl, by
    have hz := hg.size
    simp at hz
    refine ⟨hown.1, ?_⟩
    rcases hown.2 with h0 | ⟨g, cap, cur, hv, hgg, rr⟩
    · exact .inl h0
    · exact .inr ⟨g, cap, cur, hv, by omega, rr⟩, hb2⟩
end Go.Proofs.YtcbbffpalpieaaaGreat.SynT
