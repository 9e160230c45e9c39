/- Plain mathematics: the tokens of a line are good ones; the tokens of words that stand one behind the other. -/
import Derived.Test.YtpjacngbkohmdaaM01
import Derived.Test.YtpjacngbkohmdaaM06
import Derived.Test.YtpjacngbkohmdaaM04
import Derived.RegionTactic
import Derived.ChangeAlike
import Derived.Test.YtpjacngbkohmdaaM02
import Derived.Test.YtpjacngbkohmdaaM03
namespace Go.Proofs.Ytpjacngbkohmdaa.SynR
set_option linter.unusedVariables false
set_option linter.unusedSimpArgs false
open Go.RowKit Go.Proofs.Ytpjacngbkohmdaa.Plain Go.Proofs.Ytpjacngbkohmdaa.SynP Go.Proofs.Ytpjacngbkohmdaa.SynQ Go.Proofs.Ytpjacngbkohmdaa.Scan1 Go.Proofs.Ytpjacngbkohmdaa.Scan2 Go.Proofs.Ytpjacngbkohmdaa.Scan3 Go.Proofs.Ytpjacngbkohmdaa.Scan4
def dot : ByteArray := ⟨#[46]⟩
def amp : ByteArray := ⟨#[38]⟩
def arrow : ByteArray := ⟨#[60, 45]⟩
def goodTk (t : Tk) : Prop := (t.kind = 1 ∧ named capB t.text.data.toList = true) ∨ (t.kind = 2 ∧ named smallB t.text.data.toList = true) ∨ (t.kind = 3 ∧ t.text = dot) ∨ (t.kind = 4 ∧ t.text = arrow) ∨ (t.kind = 5 ∧ t.text = amp)
theorem ext_list (s : ByteArray) (k m : Nat) : (s.extract k (k + m)).data.toList = (s.data.toList.drop k).take m := by
  rw [ByteArray.data_extract, Array.toList_extract, List.extract_eq_take_drop, show k + m - k = m by omega]
theorem take_takeWhile (p : UInt8 → Bool) : ∀ l : List UInt8, l.take (l.takeWhile p).length = l.takeWhile p
  | [] => rfl
  | a :: l => by
    rw [List.takeWhile_cons]
    split
    · simp [take_takeWhile p l]
    · rfl
theorem word_named {s : ByteArray} {k : Nat} (h : k < s.size) (f : Int → Bool) (hf : f s[k].toNat = true) (hw : wordB s[k].toNat = true) (h8 : ¬ wlen s (k + 1) + 1 > 8) : named f (s.extract k (k + (wlen s (k + 1) + 1))).data.toList = true := by
  have e : (s.extract k (k + (wlen s (k + 1) + 1))).data.toList = s[k] :: (s.data.toList.drop (k + 1)).takeWhile (fun c => wordB c.toNat) := by
    rw [ext_list, drop_cons h, List.take_succ_cons]
    unfold wlen
    rw [take_takeWhile]
  have hl : ((s.data.toList.drop (k + 1)).takeWhile (fun c => wordB c.toNat)).length = wlen s (k + 1) := rfl
  rw [e]
  unfold named
  simp only [List.length_cons, hl, List.headD_cons, hf, List.all_cons, hw, Bool.true_and, Bool.and_true, Bool.and_eq_true, decide_eq_true_eq]
  refine ⟨⟨by omega, by omega⟩, ?_⟩
  exact List.all_takeWhile
theorem step_good {s : ByteArray} {k : Nat} (h : k < s.size) {kind : Int} {m : Nat} (hs : tkStep s k h = .tok kind m) : goodTk ⟨kind, s.extract k (k + (m + 1)), k + 1⟩ ∧ k + m + 1 ≤ s.size ∧ m + 1 ≤ 8 := by
  have hle := wlen_le s (k + 1)
  unfold tkStep at hs
  split at hs
  · cases hs
  split at hs
  · rename_i h1
    split at hs
    · cases hs
    · rename_i h8
      injection hs with e1 e2
      subst e1; subst e2
      exact ⟨.inl ⟨rfl, word_named h capB h1 (word_of_cap h1) h8⟩, by omega, by omega⟩
  split at hs
  · rename_i h1
    split at hs
    · cases hs
    · rename_i h8
      injection hs with e1 e2
      subst e1; subst e2
      exact ⟨.inr (.inl ⟨rfl, word_named h smallB h1 (word_of_small h1) h8⟩), by omega, by omega⟩
  split at hs
  · rename_i h1
    injection hs with e1 e2
    subst e1; subst e2
    exact ⟨.inr (.inr (.inl ⟨rfl, text1 h h1⟩)), by omega, by omega⟩
  split at hs
  · rename_i h1
    injection hs with e1 e2
    subst e1; subst e2
    exact ⟨.inr (.inr (.inr (.inr ⟨rfl, text1 h h1⟩))), by omega, by omega⟩
  split at hs
  · rename_i h1
    injection hs with e1 e2
    subst e1; subst e2
    obtain ⟨a, h2, b⟩ := (pre_iff h).1 h1
    exact ⟨.inr (.inr (.inr (.inl ⟨rfl, text2 h a h2 b⟩))), by omega, by omega⟩
  · cases hs
/-- Tokens are good, and lie in a line of this size. -/
def GoodL (n : Nat) (L : List Tk) : Prop := ∀ t ∈ L, goodTk t ∧ t.col ≤ n ∧ t.text.size ≤ 8
theorem run_good (s : ByteArray) : ∀ (n k : Nat) (L L' : List Tk), s.size - k ≤ n → GoodL s.size L → tkRun s k L = .ok L' → GoodL s.size L' := by
  intro n
  induction n with
  | zero =>
    intro k L L' hn hL hr
    rw [tkRun_end (by omega)] at hr
    injection hr with e
    subst e; exact hL
  | succ n ih =>
    intro k L L' hn hL hr
    by_cases h : k < s.size
    · cases hs : tkStep s k h with
      | skip =>
        rw [tkRun_skip h hs] at hr
        exact ih (k + 1) L L' (by omega) hL hr
      | tok kind m =>
        rw [tkRun_tok h hs] at hr
        obtain ⟨h1, h2, h3⟩ := step_good h hs
        refine ih (k + m + 1) _ L' (by omega) ?_ hr
        intro t ht
        rw [List.mem_append, List.mem_singleton] at ht
        rcases ht with ht | rfl
        · exact hL t ht
        · refine ⟨h1, by show k + 1 ≤ _; omega, ?_⟩
          show (s.extract k (k + (m + 1))).size ≤ 8
          rw [ByteArray.size_extract]; omega
      | bad e => rw [tkRun_bad h hs] at hr; cases hr
    · rw [tkRun_end h] at hr
      injection hr with e
      subst e; exact hL
theorem ans_good {s : ByteArray} {L : List Tk} (h : ansOf s = .ok L) : GoodL 200 L := by
  unfold ansOf at h
  split at h
  · cases h
  · rename_i h2
    have := run_good (bare s) (bare s).size 0 [] L (by omega) (by intro t ht; cases ht) h
    have hb := bare_le s
    exact fun t ht => ⟨(this t ht).1, by have := (this t ht).2.1; omega, (this t ht).2.2⟩
theorem run_len (s : ByteArray) : ∀ (n k : Nat) (L L' : List Tk), s.size - k ≤ n → tkRun s k L = .ok L' → L'.length ≤ L.length + n := by
  intro n
  induction n with
  | zero =>
    intro k L L' hn hr
    rw [tkRun_end (by omega)] at hr
    injection hr with e
    subst e; omega
  | succ n ih =>
    intro k L L' hn hr
    by_cases h : k < s.size
    · cases hs : tkStep s k h with
      | skip =>
        rw [tkRun_skip h hs] at hr
        have := ih (k + 1) L L' (by omega) hr; omega
      | tok kind m =>
        rw [tkRun_tok h hs] at hr
        have := ih (k + m + 1) _ L' (by omega) hr
        rw [List.length_append, List.length_singleton] at this
        omega
      | bad e => rw [tkRun_bad h hs] at hr; cases hr
    · rw [tkRun_end h] at hr
      injection hr with e
      subst e; omega
theorem ans_len {s : ByteArray} {L : List Tk} (h : ansOf s = .ok L) : L.length ≤ 200 := by
  unfold ansOf at h
  split at h
  · cases h
  · have := run_len (bare s) (bare s).size 0 [] L (by omega) h
    have hb := bare_le s
    simp at this
    omega
end Go.Proofs.Ytpjacngbkohmdaa.SynR
/- Plain mathematics: the tokens of words that stand one behind the other. -/
namespace Go.Proofs.Ytpjacngbkohmdaa.SynW
set_option linter.unusedVariables false
set_option linter.unusedSimpArgs false
open Go.RowKit Go.Proofs.Ytpjacngbkohmdaa.Plain Go.Proofs.Ytpjacngbkohmdaa.SynP Go.Proofs.Ytpjacngbkohmdaa.SynQ Go.Proofs.Ytpjacngbkohmdaa.Scan1 Go.Proofs.Ytpjacngbkohmdaa.Scan2 Go.Proofs.Ytpjacngbkohmdaa.Scan3 Go.Proofs.Ytpjacngbkohmdaa.Scan4 Go.Proofs.Ytpjacngbkohmdaa.SynR
/-- No letter or digit stands first. -/
def Stops (l : List UInt8) : Prop := ∀ c, l.head? = some c → wordB c.toNat = false
theorem takeWhile_word (a : List UInt8) (rest : List UInt8) (ha : a.all (fun c => wordB c.toNat) = true) (hr : Stops rest) : (a ++ rest).takeWhile (fun c => wordB c.toNat) = a := by
  induction a with
  | nil =>
    cases rest with
    | nil => rfl
    | cons c l =>
      have := hr c rfl
      simp [List.takeWhile_cons, this]
  | cons x a ih =>
    simp only [List.all_cons, Bool.and_eq_true] at ha
    rw [List.cons_append, List.takeWhile_cons, if_pos ha.1, ih ha.2]
theorem drop_at {s : ByteArray} {k : Nat} {c : UInt8} {l : List UInt8} (h : s.data.toList.drop k = c :: l) : ∃ hk : k < s.size, s[k] = c ∧ s.data.toList.drop (k + 1) = l := by
  have hk : k < s.size := by
    rcases Nat.lt_or_ge k s.size with h1 | h1
    · exact h1
    · rw [List.drop_of_length_le (by rw [toList_len]; exact h1)] at h; cases h
  rw [drop_cons hk] at h
  injection h with h1 h2
  exact ⟨hk, h1, h2⟩
theorem named_cons {f : Int → Bool} {w : ByteArray} (h : named f w.data.toList = true) : ∃ c l, w.data.toList = c :: l ∧ f c.toNat = true ∧ wordB c.toNat = true ∧ l.all (fun c => wordB c.toNat) = true ∧ w.size ≤ 8 ∧ w.size = l.length + 1 := by
  unfold named at h
  simp only [Bool.and_eq_true, decide_eq_true_eq] at h
  obtain ⟨⟨⟨h1, h2⟩, h3⟩, h4⟩ := h
  cases e : w.data.toList with
  | nil => rw [e] at h1; simp at h1
  | cons c l =>
    rw [e] at h1 h2 h3 h4
    simp only [List.all_cons, Bool.and_eq_true] at h4
    refine ⟨c, l, rfl, h3, h4.1, h4.2, ?_, ?_⟩
    · rw [← toList_len, e]; exact h2
    · rw [← toList_len, e]; rfl
theorem drop_app {s : ByteArray} {k : Nat} {w rest : List UInt8} (h : s.data.toList.drop k = w ++ rest) : s.data.toList.drop (k + w.length) = rest := by
  rw [← List.drop_drop, h, List.drop_left]
theorem ext_app {s : ByteArray} {k : Nat} {w : ByteArray} {rest : List UInt8} (h : s.data.toList.drop k = w.data.toList ++ rest) : s.extract k (k + w.size) = w := by
  apply ba_ext
  rw [ext_list, h, ← toList_len, List.take_left]
theorem step_cap {s : ByteArray} {k m : Nat} (hk : k < s.size) (h32 : s[k] ≠ 32) (hc : capB s[k].toNat = true) (h8 : m + 1 ≤ 8) (hw : wlen s (k + 1) = m) : tkStep s k hk = .tok 1 m := by
  unfold tkStep
  rw [if_neg h32, if_pos hc, hw, if_neg (by omega)]
theorem cap_not_small {n : Int} (h : smallB n = true) : capB n = false := by
  unfold smallB at h; unfold capB
  rw [decide_eq_true_eq] at h
  exact decide_eq_false (by omega)
theorem step_small {s : ByteArray} {k m : Nat} (hk : k < s.size) (h32 : s[k] ≠ 32) (hc : smallB s[k].toNat = true) (h8 : m + 1 ≤ 8) (hw : wlen s (k + 1) = m) : tkStep s k hk = .tok 2 m := by
  unfold tkStep
  rw [if_neg h32, if_neg (by rw [cap_not_small hc]; decide), if_pos hc, hw, if_neg (by omega)]
theorem run_cap {s : ByteArray} {k : Nat} {L : List Tk} {w : ByteArray} {rest : List UInt8} (h : s.data.toList.drop k = w.data.toList ++ rest) (hn : named capB w.data.toList = true) (hr : Stops rest) :
    tkRun s k L = tkRun s (k + w.size) (L ++ [⟨1, w, k + 1⟩]) ∧ s.data.toList.drop (k + w.size) = rest := by
  obtain ⟨c, l, e, hc, hw, hl, h8, hs⟩ := named_cons hn
  have h' := h
  rw [e, List.cons_append] at h'
  obtain ⟨hk, hck, hd⟩ := drop_at h'
  have hwl : wlen s (k + 1) = l.length := by
    unfold wlen
    rw [hd, takeWhile_word l rest hl hr]
  have hst : tkStep s k hk = .tok 1 l.length := by
    have e32 : s[k] ≠ 32 := by
      rintro e32
      rw [← hck, e32] at hw
      exact absurd hw (by decide)
    subst hck
    exact step_cap hk e32 hc (by omega) hwl
  refine ⟨?_, ?_⟩
  · rw [tkRun_tok hk hst, show k + l.length + 1 = k + w.size by omega]
    have : s.extract k (k + (l.length + 1)) = w := by rw [show l.length + 1 = w.size by omega]; exact ext_app h
    rw [this]
  · have := drop_app h
    rwa [toList_len] at this
theorem run_small {s : ByteArray} {k : Nat} {L : List Tk} {w : ByteArray} {rest : List UInt8} (h : s.data.toList.drop k = w.data.toList ++ rest) (hn : named smallB w.data.toList = true) (hr : Stops rest) :
    tkRun s k L = tkRun s (k + w.size) (L ++ [⟨2, w, k + 1⟩]) ∧ s.data.toList.drop (k + w.size) = rest := by
  obtain ⟨c, l, e, hc, hw, hl, h8, hs⟩ := named_cons hn
  have h' := h
  rw [e, List.cons_append] at h'
  obtain ⟨hk, hck, hd⟩ := drop_at h'
  have hwl : wlen s (k + 1) = l.length := by
    unfold wlen
    rw [hd, takeWhile_word l rest hl hr]
  have hst : tkStep s k hk = .tok 2 l.length := by
    have e32 : s[k] ≠ 32 := by
      rintro e32
      rw [← hck, e32] at hw
      exact absurd hw (by decide)
    subst hck
    exact step_small hk e32 hc (by omega) hwl
  refine ⟨?_, ?_⟩
  · rw [tkRun_tok hk hst, show k + l.length + 1 = k + w.size by omega]
    have : s.extract k (k + (l.length + 1)) = w := by rw [show l.length + 1 = w.size by omega]; exact ext_app h
    rw [this]
  · have := drop_app h
    rwa [toList_len] at this
theorem run_sp {s : ByteArray} {k : Nat} {L : List Tk} {rest : List UInt8} (h : s.data.toList.drop k = 32 :: rest) : tkRun s k L = tkRun s (k + 1) L ∧ s.data.toList.drop (k + 1) = rest := by
  obtain ⟨hk, hck, hd⟩ := drop_at h
  exact ⟨tkRun_skip hk (by unfold tkStep; rw [if_pos hck]), hd⟩
theorem run_dot {s : ByteArray} {k : Nat} {L : List Tk} {rest : List UInt8} (h : s.data.toList.drop k = 46 :: rest) : tkRun s k L = tkRun s (k + 1) (L ++ [⟨3, dot, k + 1⟩]) ∧ s.data.toList.drop (k + 1) = rest := by
  obtain ⟨hk, hck, hd⟩ := drop_at h
  exact ⟨by rw [tkRun_tok hk (st_46 hk hck), text1 hk hck]; rfl, hd⟩
theorem run_amp {s : ByteArray} {k : Nat} {L : List Tk} {rest : List UInt8} (h : s.data.toList.drop k = 38 :: rest) : tkRun s k L = tkRun s (k + 1) (L ++ [⟨5, amp, k + 1⟩]) ∧ s.data.toList.drop (k + 1) = rest := by
  obtain ⟨hk, hck, hd⟩ := drop_at h
  exact ⟨by rw [tkRun_tok hk (st_38 hk hck), text1 hk hck]; rfl, hd⟩
theorem run_arrow {s : ByteArray} {k : Nat} {L : List Tk} {rest : List UInt8} (h : s.data.toList.drop k = 60 :: 45 :: rest) : tkRun s k L = tkRun s (k + 2) (L ++ [⟨4, arrow, k + 1⟩]) ∧ s.data.toList.drop (k + 2) = rest := by
  obtain ⟨hk, hck, hd⟩ := drop_at h
  obtain ⟨hk2, hck2, hd2⟩ := drop_at hd
  exact ⟨by rw [tkRun_tok hk (st_60 hk hck hk2 hck2), text2 hk hck hk2 hck2]; rfl, hd2⟩
theorem run_done {s : ByteArray} {k : Nat} {L : List Tk} (h : s.data.toList.drop k = []) : tkRun s k L = .ok L := by
  refine tkRun_end ?_
  intro hk
  rw [drop_cons hk] at h; cases h
theorem stops_nil : Stops [] := fun c h => by cases h
theorem stops_sp (l : List UInt8) : Stops (32 :: l) := fun c h => by injection h with h; subst h; decide
theorem stops_dot (l : List UInt8) : Stops (46 :: l) := fun c h => by injection h with h; subst h; decide
/-- A role's text. -/
def textR (r : Rl) : ByteArray := r.owner ++ ⟨#[46]⟩ ++ r.name
theorem textR_list (r : Rl) : (textR r).data.toList = r.owner.data.toList ++ (46 :: r.name.data.toList) := by
  unfold textR
  rw [ByteArray.data_append, ByteArray.data_append, Array.toList_append, Array.toList_append, List.append_assoc]
  rfl
theorem textR_size (r : Rl) : (textR r).size = r.owner.size + 1 + r.name.size := by
  unfold textR
  rw [ByteArray.size_append, ByteArray.size_append]; rfl
def roleTk (r : Rl) (k : Nat) : List Tk := [⟨1, r.owner, k + 1⟩, ⟨3, dot, k + r.owner.size + 1⟩, ⟨2, r.name, k + r.owner.size + 1 + 1⟩]
theorem run_role {s : ByteArray} {k : Nat} {L : List Tk} {r : Rl} {rest : List UInt8} (h : s.data.toList.drop k = (textR r).data.toList ++ rest) (hn : r.ok = true) (hr : Stops rest) :
    tkRun s k L = tkRun s (k + (textR r).size) (L ++ roleTk r k) ∧ s.data.toList.drop (k + (textR r).size) = rest := by
  unfold Rl.ok at hn
  rw [Bool.and_eq_true] at hn
  rw [textR_list, List.append_assoc, List.cons_append] at h
  obtain ⟨a1, b1⟩ := run_cap (L := L) h hn.1 (stops_dot _)
  obtain ⟨a2, b2⟩ := run_dot (L := L ++ [⟨1, r.owner, k + 1⟩]) b1
  obtain ⟨a3, b3⟩ := run_small (L := L ++ [⟨1, r.owner, k + 1⟩] ++ [⟨3, dot, k + r.owner.size + 1⟩]) b2 hn.2 hr
  rw [textR_size]
  refine ⟨?_, ?_⟩
  · rw [a1, a2, a3, show k + (r.owner.size + 1 + r.name.size) = k + r.owner.size + 1 + r.name.size by omega]
    unfold roleTk
    simp
  · rw [show k + (r.owner.size + 1 + r.name.size) = k + r.owner.size + 1 + r.name.size by omega]; exact b3
theorem word_ne35 {c : UInt8} (h : wordB c.toNat = true) : c ≠ 35 := by
  rintro rfl; exact absurd h (by decide)
theorem named_ne35 {f : Int → Bool} {w : ByteArray} (h : named f w.data.toList = true) : ∀ c ∈ w.data.toList, c ≠ 35 := by
  obtain ⟨c, l, e, _, hw, hl, _⟩ := named_cons h
  rw [e]
  intro x hx
  rcases List.mem_cons.1 hx with rfl | hx
  · exact word_ne35 hw
  · exact word_ne35 (List.all_eq_true.1 hl x hx)
theorem bare_no35 {s : ByteArray} (h : ∀ c ∈ s.data.toList, c ≠ 35) : bare s = s := bare_all (takeWhile_all h)
theorem role_ne35 {r : Rl} (h : r.ok = true) : ∀ c ∈ (textR r).data.toList, c ≠ 35 := by
  unfold Rl.ok at h
  rw [Bool.and_eq_true] at h
  rw [textR_list]
  intro c hc
  rcases List.mem_append.1 hc with hc | hc
  · exact named_ne35 h.1 c hc
  · rcases List.mem_cons.1 hc with rfl | hc
    · decide
    · exact named_ne35 h.2 c hc
theorem role_size {r : Rl} (h : r.ok = true) : (textR r).size ≤ 17 := by
  unfold Rl.ok at h
  rw [Bool.and_eq_true] at h
  obtain ⟨_, _, _, _, _, _, h1, _⟩ := named_cons h.1
  obtain ⟨_, _, _, _, _, _, h2, _⟩ := named_cons h.2
  rw [textR_size]; omega
/-- The tokens of a role's text. -/
theorem role_toks {r : Rl} (h : r.ok = true) : ansOf (textR r) = .ok (roleTk r 0) := by
  have hs := role_size h
  unfold ansOf
  rw [if_neg (by omega), bare_no35 (role_ne35 h)]
  obtain ⟨a, b⟩ := run_role (s := textR r) (k := 0) (L := []) (rest := []) (by simp) h stops_nil
  rw [a]
  exact run_done b
end Go.Proofs.Ytpjacngbkohmdaa.SynW
/- Which statements are right, and their normal form, in the program and in the document's answers. -/
namespace Go.Proofs.Ytpjacngbkohmdaa.Syn4
set_option linter.unusedVariables false
set_option linter.unusedSimpArgs false
open Go.RowKit Go.Sort Go.Proofs Go.Proofs.Ytpjacngbkohmdaa.Plain Go.Proofs.Ytpjacngbkohmdaa.SynP Go.Proofs.Ytpjacngbkohmdaa.Named Go.Proofs.Ytpjacngbkohmdaa.RefN Go.Proofs.Ytpjacngbkohmdaa.Grown Go.Proofs.Ytpjacngbkohmdaa.Syn1 Go.Proofs.Ytpjacngbkohmdaa.Syn2 Go.Proofs.Ytpjacngbkohmdaa.Syn3
theorem kinds (k : Int) : k = 1 ∨ k = 2 ∨ k = 3 ∨ k = 4 ∨ (k ≠ 1 ∧ k ≠ 2 ∧ k ≠ 3 ∧ k ≠ 4) := by omega
theorem less' (o1 n1 o2 n2 : ByteArray) (w : World) : Calls Try.prog 76 #[.agg #[.string o1, .string n1], .agg #[.string o2, .string n2]] w fun e w' => e = .returned (.bool (decide (cmpR ⟨o1, n1⟩ ⟨o2, n2⟩ < 0))) ∧ Grew w w' := less ⟨o1, n1⟩ ⟨o2, n2⟩ w
theorem isRole' (o n : ByteArray) (w : World) (h1 : o.size ≤ maxLen) (h2 : n.size ≤ maxLen) : Calls Try.prog 57 #[.agg #[.string o, .string n]] w fun e w' => e = .returned (.bool (Rl.ok ⟨o, n⟩)) ∧ Grew w w' := isRole ⟨o, n⟩ w ⟨h1, h2⟩
theorem isRoleRef' (o n : ByteArray) (w : World) (h1 : o.size ≤ maxLen) (h2 : n.size ≤ maxLen) : Calls Try.prog 33 #[.agg #[.string o, .string n]] w fun e w' => e = .returned (.bool (Rl.ok ⟨o, n⟩)) ∧ Grew w w' := isRoleRef ⟨o, n⟩ w ⟨h1, h2⟩
set_option maxRecDepth 100000 in
theorem saysRight (s : St) (w : World) (hf : s.fit) : Calls Try.prog 58 #[s.val] w fun e w' => e = .returned (.bool s.says) ∧ Grew w w' := by
  obtain ⟨k1, ⟨ho, hn⟩, wh, ⟨ao, an⟩, ⟨bo, bn⟩, v⟩ := s
  obtain ⟨⟨f1, f2⟩, f3, ⟨f4, f5⟩, ⟨f6, f7⟩, f8⟩ := hf
  simp only at f1 f2 f3 f4 f5 f6 f7 f8
  unfold St.val
  rcases kinds k1 with rfl | rfl | rfl | rfl | ⟨h1, h2, h3, h4⟩
  · have H : Hid (St.says ⟨1, ⟨ho, hn⟩, wh, ⟨ao, an⟩, ⟨bo, bn⟩, v⟩ = named capB wh.data.toList) := Lib.hid rfl
    go_enter Try.func58, Try.ntmps58
    go_wp2_with (go_at_call 74; refine (isPrin _ _ f3).mono ?_; rintro e w' ⟨rfl, rfl⟩)
    go_ret
    exact ⟨ret_bool H.out.symm, (Grew.refl _).alloc _⟩
  · have H : Hid (St.says ⟨2, ⟨ho, hn⟩, wh, ⟨ao, an⟩, ⟨bo, bn⟩, v⟩ = Rl.ok ⟨ao, an⟩) := Lib.hid rfl
    go_enter Try.func58, Try.ntmps58
    go_wp2_with (go_at_call 57; refine (isRole' _ _ _ f4 f5).mono ?_; rintro e w' ⟨rfl, hg⟩)
    go_ret
    exact ⟨ret_bool H.out.symm, ((Grew.refl _).alloc _).trans hg⟩
  · cases ha : Rl.ok ⟨ao, an⟩
    all_goals
      have H : Hid (St.says ⟨3, ⟨ho, hn⟩, wh, ⟨ao, an⟩, ⟨bo, bn⟩, v⟩ = (_ && named smallB v.data.toList)) := Lib.hid (show (Rl.ok ⟨ao, an⟩ && named smallB v.data.toList) = _ by rw [ha])
      go_enter Try.func58, Try.ntmps58
      go_wp2_with (first | (go_at_call 57; refine (isRole' _ _ _ f4 f5).mono ?_; rintro e w' ⟨rfl, hg⟩; obtain ⟨hc, hz, hs⟩ := hg.use) | (go_at_call 75; refine (isName _ _ f8).mono ?_; rintro e w' ⟨rfl, rfl⟩))
      go_ret
      exact ⟨ret_bool H.out.symm, ((Grew.refl _).alloc _).trans hg⟩
  · cases ha : Rl.ok ⟨ao, an⟩
    · have H : Hid (St.says ⟨4, ⟨ho, hn⟩, wh, ⟨ao, an⟩, ⟨bo, bn⟩, v⟩ = false) := Lib.hid (show (Rl.ok ⟨ao, an⟩ && Rl.ok ⟨bo, bn⟩ && !decide (cmpR ⟨bo, bn⟩ ⟨ao, an⟩ < 0)) = _ by rw [ha]; rfl)
      go_enter Try.func58, Try.ntmps58
      go_wp2_with (go_at_call 57; refine (isRole' _ _ _ f4 f5).mono ?_; rintro e w' ⟨rfl, hg⟩; obtain ⟨hc, hz, hs⟩ := hg.use)
      go_ret
      exact ⟨ret_bool H.out.symm, ((Grew.refl _).alloc _).trans hg⟩
    · cases hb : Rl.ok ⟨bo, bn⟩
      · have H : Hid (St.says ⟨4, ⟨ho, hn⟩, wh, ⟨ao, an⟩, ⟨bo, bn⟩, v⟩ = false) := Lib.hid (show (Rl.ok ⟨ao, an⟩ && Rl.ok ⟨bo, bn⟩ && !decide (cmpR ⟨bo, bn⟩ ⟨ao, an⟩ < 0)) = _ by rw [ha, hb]; rfl)
        go_enter Try.func58, Try.ntmps58
        go_wp2_with fail
        refine (isRole' _ _ _ f4 f5).mono ?_
        rintro e w1 ⟨rfl, hg⟩
        obtain ⟨hc, hz, hs⟩ := hg.use
        simp at hs
        have hs' : w.heap.size < w1.heap.size := hs
        go_wp2_with fail
        refine (isRole' _ _ _ f6 f7).mono ?_
        rintro e w2 ⟨rfl, hg2⟩
        go_wp2_with fail
        go_ret
        exact ⟨ret_bool H.out.symm, (((Grew.refl _).alloc _).trans hg).trans hg2⟩
      · have H : Hid (St.says ⟨4, ⟨ho, hn⟩, wh, ⟨ao, an⟩, ⟨bo, bn⟩, v⟩ = !decide (cmpR ⟨bo, bn⟩ ⟨ao, an⟩ < 0)) := Lib.hid (show (Rl.ok ⟨ao, an⟩ && Rl.ok ⟨bo, bn⟩ && !decide (cmpR ⟨bo, bn⟩ ⟨ao, an⟩ < 0)) = _ by rw [ha, hb]; rfl)
        have HL := Lib.hid (less' bo bn ao an)
        generalize decide (cmpR ⟨bo, bn⟩ ⟨ao, an⟩ < 0) = r at *
        go_enter Try.func58, Try.ntmps58
        go_wp2_with fail
        refine (isRole' _ _ _ f4 f5).mono ?_
        rintro e w1 ⟨rfl, hg⟩
        obtain ⟨hc, hz, hs⟩ := hg.use
        simp at hs
        have hs' : w.heap.size < w1.heap.size := hs
        go_wp2_with fail
        refine (isRole' _ _ _ f6 f7).mono ?_
        rintro e w2 ⟨rfl, hg2⟩
        obtain ⟨hc2, hz2, hs2⟩ := hg2.use
        go_wp2_with fail
        refine (HL.out _).mono ?_
        rintro e w3 ⟨rfl, hg3⟩
        go_wp2_with fail
        go_ret
        exact ⟨ret_bool H.out.symm, ((((Grew.refl _).alloc _).trans hg).trans hg2).trans hg3⟩
  · have H : Hid (St.says ⟨k1, ⟨ho, hn⟩, wh, ⟨ao, an⟩, ⟨bo, bn⟩, v⟩ = false) := Lib.hid (by unfold St.says; rw [if_neg h1, if_neg h2, if_neg h3, if_neg h4])
    have e1 : (k1 == 1) = false := by simpa using h1
    have e2 : (k1 == 2) = false := by simpa using h2
    have e3 : (k1 == 3) = false := by simpa using h3
    have e4 : (k1 == 4) = false := by simpa using h4
    clear h1 h2 h3 h4
    go_enter Try.func58, Try.ntmps58
    go_wp2_with fail
    go_ret
    exact ⟨ret_bool H.out.symm, (Grew.refl _).alloc _⟩
end Go.Proofs.Ytpjacngbkohmdaa.Syn4
/- A statement with nothing but its own, and its normal form, in the program and in the document's answers. -/
namespace Go.Proofs.Ytpjacngbkohmdaa.Syn5
set_option linter.unusedVariables false
set_option linter.unusedSimpArgs false
open Go.RowKit Go.Sort Go.Proofs Go.Proofs.Ytpjacngbkohmdaa.Plain Go.Proofs.Ytpjacngbkohmdaa.SynP Go.Proofs.Ytpjacngbkohmdaa.Named Go.Proofs.Ytpjacngbkohmdaa.RefN Go.Proofs.Ytpjacngbkohmdaa.Grown Go.Proofs.Ytpjacngbkohmdaa.Syn1 Go.Proofs.Ytpjacngbkohmdaa.Syn2 Go.Proofs.Ytpjacngbkohmdaa.Syn3 Go.Proofs.Ytpjacngbkohmdaa.Syn4
set_option maxRecDepth 100000 in
theorem bare1 (ho hn wh ao an bo bn v : ByteArray) (w : World) : Calls Try.prog 59 #[.agg #[.int .i64 1, .string ho, .string hn, .string wh, .string ao, .string an, .string bo, .string bn, .string v]] w fun e w' => e = .returned (.agg #[.int .i64 1, .string ho, .string hn, .string wh, .string noText, .string noText, .string noText, .string noText, .string noText]) ∧ Grew w w' := by
  go_enter Try.func59, Try.ntmps59
  go_wp2
  exact bodyPost_ret (v := .agg #[.int .i64 1, .string ho, .string hn, .string wh, .string noText, .string noText, .string noText, .string noText, .string noText]) (by simp [results, Try.results59, go_sem, noText]) rfl ⟨rfl, ((((Grew.refl _).alloc _).alloc _).alloc _)⟩
set_option maxRecDepth 100000 in
theorem bare2 (ho hn wh ao an bo bn v : ByteArray) (w : World) : Calls Try.prog 59 #[.agg #[.int .i64 2, .string ho, .string hn, .string wh, .string ao, .string an, .string bo, .string bn, .string v]] w fun e w' => e = .returned (.agg #[.int .i64 2, .string ho, .string hn, .string noText, .string ao, .string an, .string noText, .string noText, .string noText]) ∧ Grew w w' := by
  go_enter Try.func59, Try.ntmps59
  go_wp2
  exact bodyPost_ret (v := .agg #[.int .i64 2, .string ho, .string hn, .string noText, .string ao, .string an, .string noText, .string noText, .string noText]) (by simp [results, Try.results59, go_sem, noText]) rfl ⟨rfl, ((((Grew.refl _).alloc _).alloc _).alloc _)⟩
set_option maxRecDepth 100000 in
theorem bare3 (ho hn wh ao an bo bn v : ByteArray) (w : World) : Calls Try.prog 59 #[.agg #[.int .i64 3, .string ho, .string hn, .string wh, .string ao, .string an, .string bo, .string bn, .string v]] w fun e w' => e = .returned (.agg #[.int .i64 3, .string ho, .string hn, .string noText, .string ao, .string an, .string noText, .string noText, .string v]) ∧ Grew w w' := by
  go_enter Try.func59, Try.ntmps59
  go_wp2
  go_region
  all_goals go_wp2
  exact bodyPost_ret (v := .agg #[.int .i64 3, .string ho, .string hn, .string noText, .string ao, .string an, .string noText, .string noText, .string v]) (by simp [results, Try.results59, go_sem, noText]) rfl ⟨rfl, ((((Grew.refl _).alloc _).alloc _).alloc _).drew⟩
set_option maxRecDepth 100000 in
theorem bare4 (ho hn wh ao an bo bn v : ByteArray) (w : World) : Calls Try.prog 59 #[.agg #[.int .i64 4, .string ho, .string hn, .string wh, .string ao, .string an, .string bo, .string bn, .string v]] w fun e w' => e = .returned (.agg #[.int .i64 4, .string ho, .string hn, .string noText, .string ao, .string an, .string bo, .string bn, .string noText]) ∧ Grew w w' := by
  go_enter Try.func59, Try.ntmps59
  go_wp2
  go_region
  all_goals go_wp2
  exact bodyPost_ret (v := .agg #[.int .i64 4, .string ho, .string hn, .string noText, .string ao, .string an, .string bo, .string bn, .string noText]) (by simp [results, Try.results59, go_sem, noText]) rfl ⟨rfl, ((((Grew.refl _).alloc _).alloc _).alloc _).drew⟩
set_option maxRecDepth 100000 in
theorem bare5 (k : Int) (ho hn wh ao an bo bn v : ByteArray) (w : World) (h1 : (k == 1) = false) (h2 : (k == 2) = false) (h3 : (k == 3) = false) (h4 : (k == 4) = false) : Calls Try.prog 59 #[.agg #[.int .i64 k, .string ho, .string hn, .string wh, .string ao, .string an, .string bo, .string bn, .string v]] w fun e w' => e = .returned (.agg #[.int .i64 k, .string ho, .string hn, .string noText, .string noText, .string noText, .string noText, .string noText, .string noText]) ∧ Grew w w' := by
  go_enter Try.func59, Try.ntmps59
  go_wp2
  exact bodyPost_ret (v := .agg #[.int .i64 k, .string ho, .string hn, .string noText, .string noText, .string noText, .string noText, .string noText, .string noText]) (by simp [results, Try.results59, go_sem, noText]) rfl ⟨rfl, ((((Grew.refl _).alloc _).alloc _).alloc _)⟩
theorem bare (s : St) (w : World) : Calls Try.prog 59 #[s.val] w fun e w' => e = .returned s.own.val ∧ Grew w w' := by
  obtain ⟨k1, ⟨ho, hn⟩, wh, ⟨ao, an⟩, ⟨bo, bn⟩, v⟩ := s
  rcases kinds k1 with rfl | rfl | rfl | rfl | ⟨h1, h2, h3, h4⟩
  · exact bare1 ho hn wh ao an bo bn v w
  · exact bare2 ho hn wh ao an bo bn v w
  · exact bare3 ho hn wh ao an bo bn v w
  · exact bare4 ho hn wh ao an bo bn v w
  · have : St.own ⟨k1, ⟨ho, hn⟩, wh, ⟨ao, an⟩, ⟨bo, bn⟩, v⟩ = ⟨k1, ⟨ho, hn⟩, noText, zeroR, zeroR, noText⟩ := by unfold St.own; rw [if_neg h1, if_neg h2, if_neg h3, if_neg h4]
    rw [this]
    exact bare5 k1 ho hn wh ao an bo bn v w (by simpa using h1) (by simpa using h2) (by simpa using h3) (by simpa using h4)
end Go.Proofs.Ytpjacngbkohmdaa.Syn5
/- Which statements are right, in the program and in the document's answers. -/
namespace Go.Proofs.Ytpjacngbkohmdaa.Syn7
set_option linter.unusedVariables false
set_option linter.unusedSimpArgs false
open Go.RowKit Go.Sort Go.Proofs Go.Proofs.Ytpjacngbkohmdaa.Plain Go.Proofs.Ytpjacngbkohmdaa.SynP Go.Proofs.Ytpjacngbkohmdaa.Named Go.Proofs.Ytpjacngbkohmdaa.RefN Go.Proofs.Ytpjacngbkohmdaa.Grown Go.Proofs.Ytpjacngbkohmdaa.Syn1 Go.Proofs.Ytpjacngbkohmdaa.Syn2 Go.Proofs.Ytpjacngbkohmdaa.Syn3 Go.Proofs.Ytpjacngbkohmdaa.Syn4 Go.Proofs.Ytpjacngbkohmdaa.Syn5 Go.Proofs.Ytpjacngbkohmdaa.SynE
set_option linter.unusedSimpArgs false
set_option linter.unusedVariables false
theorem mixed : Try.prog.follows .mixedOrders = true := by kernel_rfl
set_option maxRecDepth 100000 in
theorem right_head (k : Int) (ho hn wh ao an bo bn v : ByteArray) (w : World) (f1 : ho.size ≤ maxLen) (f2 : hn.size ≤ maxLen) (h : Rl.ok ⟨ho, hn⟩ = false) : Calls Try.prog 38 #[.agg #[.int .i64 k, .string ho, .string hn, .string wh, .string ao, .string an, .string bo, .string bn, .string v]] w fun e w' => e = .returned (.bool false) ∧ Grew w w' := by
  have HR := Lib.hid (isRole' ho hn · f1 f2)
  rw [h] at HR
  clear h
  have hm := mixed
  have gC := grow_cell
  go_enter Try.func38, Try.ntmps38
  go_wp2
  go_quiet_grown ((go_at_call 57; exact grewCall (HR.out _)))
  go_wp2
  go_ret
  exact ⟨rfl, ((Grew.refl _).alloc _).trans (Grew.mk _ _ _)⟩
set_option maxRecDepth 100000 in
theorem right_says (k : Int) (ho hn wh ao an bo bn v : ByteArray) (w : World) (hf : St.fit ⟨k, ⟨ho, hn⟩, wh, ⟨ao, an⟩, ⟨bo, bn⟩, v⟩) (h : Rl.ok ⟨ho, hn⟩ = true) (h2 : St.says ⟨k, ⟨ho, hn⟩, wh, ⟨ao, an⟩, ⟨bo, bn⟩, v⟩ = false) : Calls Try.prog 38 #[.agg #[.int .i64 k, .string ho, .string hn, .string wh, .string ao, .string an, .string bo, .string bn, .string v]] w fun e w' => e = .returned (.bool false) ∧ Grew w w' := by
  have HR := Lib.hid (isRole' ho hn · hf.1.1 hf.1.2)
  have HS := Lib.hid (saysRight ⟨k, ⟨ho, hn⟩, wh, ⟨ao, an⟩, ⟨bo, bn⟩, v⟩ · hf)
  rw [h] at HR
  rw [h2] at HS
  clear h h2 hf
  have hm := mixed
  have gC := grow_cell
  go_enter Try.func38, Try.ntmps38
  go_wp2
  go_quiet_grown (first | (go_at_call 57; exact grewCall (HR.out _)) | (go_at_call 58; exact grewCall (HS.out _)))
  go_wp2
  go_ret
  exact ⟨rfl, ((Grew.refl _).alloc _).trans (Grew.mk _ _ _)⟩
set_option maxRecDepth 100000 in
theorem right_own (k : Int) (ho hn wh ao an bo bn v wh2 ao2 an2 bo2 bn2 v2 : ByteArray) (w : World) (hf : St.fit ⟨k, ⟨ho, hn⟩, wh, ⟨ao, an⟩, ⟨bo, bn⟩, v⟩) (h : Rl.ok ⟨ho, hn⟩ = true) (h2 : St.says ⟨k, ⟨ho, hn⟩, wh, ⟨ao, an⟩, ⟨bo, bn⟩, v⟩ = true) (ho2 : St.own ⟨k, ⟨ho, hn⟩, wh, ⟨ao, an⟩, ⟨bo, bn⟩, v⟩ = ⟨k, ⟨ho, hn⟩, wh2, ⟨ao2, an2⟩, ⟨bo2, bn2⟩, v2⟩) : Calls Try.prog 38 #[.agg #[.int .i64 k, .string ho, .string hn, .string wh, .string ao, .string an, .string bo, .string bn, .string v]] w fun e w' => e = .returned (.bool (decide ((⟨k, ⟨ho, hn⟩, wh, ⟨ao, an⟩, ⟨bo, bn⟩, v⟩ : St) = ⟨k, ⟨ho, hn⟩, wh2, ⟨ao2, an2⟩, ⟨bo2, bn2⟩, v2⟩))) ∧ Grew w w' := by
  have HR := Lib.hid (isRole' ho hn · hf.1.1 hf.1.2)
  have HS := Lib.hid (saysRight ⟨k, ⟨ho, hn⟩, wh, ⟨ao, an⟩, ⟨bo, bn⟩, v⟩ · hf)
  have hb := bare ⟨k, ⟨ho, hn⟩, wh, ⟨ao, an⟩, ⟨bo, bn⟩, v⟩
  rw [ho2] at hb
  unfold St.val at hb
  have HB := Lib.hid hb
  clear hb
  rw [h] at HR
  rw [h2] at HS
  clear h h2 hf ho2
  have hm := mixed
  have gC := grow_cell
  have hq := fun w => eqS k ho hn wh ao an bo bn v k ho hn wh2 ao2 an2 bo2 bn2 v2 w
  generalize hres : decide ((⟨k, ⟨ho, hn⟩, wh, ⟨ao, an⟩, ⟨bo, bn⟩, v⟩ : St) = ⟨k, ⟨ho, hn⟩, wh2, ⟨ao2, an2⟩, ⟨bo2, bn2⟩, v2⟩) = res
  rw [hres] at hq
  clear hres
  go_enter Try.func38, Try.ntmps38
  go_wp2
  go_quiet_grown (first | (go_at_call 57; exact grewCall (HR.out _)) | (go_at_call 58; exact grewCall (HS.out _)) | (go_at_call 59; exact grewCall (HB.out _)))
  go_wp2
  go_ret
  exact ⟨rfl, ((Grew.refl _).alloc _).trans (Grew.mk _ _ _)⟩
theorem own_parts (s : St) : ∃ wh2 ao2 an2 bo2 bn2 v2, s.own = ⟨s.kind, s.head, wh2, ⟨ao2, an2⟩, ⟨bo2, bn2⟩, v2⟩ := by
  obtain ⟨k1, ⟨ho, hn⟩, wh, ⟨ao, an⟩, ⟨bo, bn⟩, v⟩ := s
  unfold St.own zeroR
  split
  · exact ⟨_, _, _, _, _, _, rfl⟩
  split
  · exact ⟨_, _, _, _, _, _, rfl⟩
  split
  · exact ⟨_, _, _, _, _, _, rfl⟩
  split <;> exact ⟨_, _, _, _, _, _, rfl⟩
theorem right (s : St) (w : World) (hf : s.fit) : Calls Try.prog 38 #[s.val] w fun e w' => e = .returned (.bool s.right) ∧ Grew w w' := by
  obtain ⟨wh2, ao2, an2, bo2, bn2, v2, hown⟩ := own_parts s
  obtain ⟨k1, ⟨ho, hn⟩, wh, ⟨ao, an⟩, ⟨bo, bn⟩, v⟩ := s
  cases h1 : Rl.ok ⟨ho, hn⟩
  · refine (right_head k1 ho hn wh ao an bo bn v w hf.1.1 hf.1.2 h1).mono ?_
    rintro e w' ⟨rfl, hg⟩
    exact ⟨ret_bool (by unfold St.right; simp only [h1]; rfl), hg⟩
  cases h2 : St.says ⟨k1, ⟨ho, hn⟩, wh, ⟨ao, an⟩, ⟨bo, bn⟩, v⟩
  · refine (right_says k1 ho hn wh ao an bo bn v w hf h1 h2).mono ?_
    rintro e w' ⟨rfl, hg⟩
    exact ⟨ret_bool (by unfold St.right; simp only [h1, h2]; rfl), hg⟩
  · refine (right_own k1 ho hn wh ao an bo bn v _ _ _ _ _ _ w hf h1 h2 hown).mono ?_
    rintro e w' ⟨rfl, hg⟩
    exact ⟨ret_bool (by unfold St.right; rw [hown]; simp only [h1, h2]; rfl), hg⟩
end Go.Proofs.Ytpjacngbkohmdaa.Syn7
