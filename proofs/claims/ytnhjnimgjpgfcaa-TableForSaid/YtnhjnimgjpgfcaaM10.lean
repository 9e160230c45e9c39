/- Plain mathematics: the tokens of a line are good ones; the tokens of words that stand one behind the other. -/
import Derived.Test.YtnhjnimgjpgfcaaM08
import Derived.Test.YtnhjnimgjpgfcaaM09
import Derived.Test.YtnhjnimgjpgfcaaM05
import Derived.Lib.AppendZeros
import Derived.OwnWalk
import Derived.WalkSpells
namespace Go.Proofs.Ytnhjnimgjpgfcaa.SynR
set_option linter.unusedVariables false
set_option linter.unusedSimpArgs false
open Go.RowKit Go.Proofs.Ytnhjnimgjpgfcaa.Plain Go.Proofs.Ytnhjnimgjpgfcaa.SynP Go.Proofs.Ytnhjnimgjpgfcaa.SynQ Go.Proofs.Ytnhjnimgjpgfcaa.Scan1 Go.Proofs.Ytnhjnimgjpgfcaa.Scan2 Go.Proofs.Ytnhjnimgjpgfcaa.Scan3 Go.Proofs.Ytnhjnimgjpgfcaa.Scan4
def dot : ByteArray := ⟨#[46]⟩
def amp : ByteArray := ⟨#[38]⟩
def arrow : ByteArray := ⟨#[60, 45]⟩
def goodTk (t : Tk) : Prop := (t.kind = 1 ∧ named capB t.text.data.toList = true) ∨ (t.kind = 2 ∧ named smallB t.text.data.toList = true) ∨ (t.kind = 3 ∧ t.text = dot) ∨ (t.kind = 4 ∧ t.text = arrow) ∨ (t.kind = 5 ∧ t.text = amp)
theorem ext_list (s : ByteArray) (k m : Nat) : (s.extract k (k + m)).data.toList = (s.data.toList.drop k).take m := by
  rw [ByteArray.data_extract, Array.toList_extract, List.extract_eq_take_drop, show k + m - k = m by omega]
theorem take_takeWhile (p : UInt8 → Bool) : ∀ l : List UInt8, l.take (l.takeWhile p).length = l.takeWhile p
  | [] => rfl
  | a :: l => by
    rw [List.takeWhile_cons]
    split
    · simp [take_takeWhile p l]
    · rfl
theorem word_named {s : ByteArray} {k : Nat} (h : k < s.size) (f : Int → Bool) (hf : f s[k].toNat = true) (hw : wordB s[k].toNat = true) (h8 : ¬ wlen s (k + 1) + 1 > 8) : named f (s.extract k (k + (wlen s (k + 1) + 1))).data.toList = true := by
  have e : (s.extract k (k + (wlen s (k + 1) + 1))).data.toList = s[k] :: (s.data.toList.drop (k + 1)).takeWhile (fun c => wordB c.toNat) := by
    rw [ext_list, drop_cons h, List.take_succ_cons]
    unfold wlen
    rw [take_takeWhile]
  have hl : ((s.data.toList.drop (k + 1)).takeWhile (fun c => wordB c.toNat)).length = wlen s (k + 1) := rfl
  rw [e]
  unfold named
  simp only [List.length_cons, hl, List.headD_cons, hf, List.all_cons, hw, Bool.true_and, Bool.and_true, Bool.and_eq_true, decide_eq_true_eq]
  refine ⟨⟨by omega, by omega⟩, ?_⟩
  exact List.all_takeWhile
theorem step_good {s : ByteArray} {k : Nat} (h : k < s.size) {kind : Int} {m : Nat} (hs : tkStep s k h = .tok kind m) : goodTk ⟨kind, s.extract k (k + (m + 1)), k + 1⟩ ∧ k + m + 1 ≤ s.size ∧ m + 1 ≤ 8 := by
  have hle := wlen_le s (k + 1)
  unfold tkStep at hs
  split at hs
  · cases hs
  split at hs
  · rename_i h1
    split at hs
    · cases hs
    · rename_i h8
      injection hs with e1 e2
      subst e1; subst e2
      exact ⟨.inl ⟨rfl, word_named h capB h1 (word_of_cap h1) h8⟩, by omega, by omega⟩
  split at hs
  · rename_i h1
    split at hs
    · cases hs
    · rename_i h8
      injection hs with e1 e2
      subst e1; subst e2
      exact ⟨.inr (.inl ⟨rfl, word_named h smallB h1 (word_of_small h1) h8⟩), by omega, by omega⟩
  split at hs
  · rename_i h1
    injection hs with e1 e2
    subst e1; subst e2
    exact ⟨.inr (.inr (.inl ⟨rfl, text1 h h1⟩)), by omega, by omega⟩
  split at hs
  · rename_i h1
    injection hs with e1 e2
    subst e1; subst e2
    exact ⟨.inr (.inr (.inr (.inr ⟨rfl, text1 h h1⟩))), by omega, by omega⟩
  split at hs
  · rename_i h1
    injection hs with e1 e2
    subst e1; subst e2
    obtain ⟨a, h2, b⟩ := (pre_iff h).1 h1
    exact ⟨.inr (.inr (.inr (.inl ⟨rfl, text2 h a h2 b⟩))), by omega, by omega⟩
  · cases hs
/-- Tokens are good, and lie in a line of this size. -/
def GoodL (n : Nat) (L : List Tk) : Prop := ∀ t ∈ L, goodTk t ∧ t.col ≤ n ∧ t.text.size ≤ 8
theorem run_good (s : ByteArray) : ∀ (n k : Nat) (L L' : List Tk), s.size - k ≤ n → GoodL s.size L → tkRun s k L = .ok L' → GoodL s.size L' := by
  intro n
  induction n with
  | zero =>
    intro k L L' hn hL hr
    rw [tkRun_end (by omega)] at hr
    injection hr with e
    subst e; exact hL
  | succ n ih =>
    intro k L L' hn hL hr
    by_cases h : k < s.size
    · cases hs : tkStep s k h with
      | skip =>
        rw [tkRun_skip h hs] at hr
        exact ih (k + 1) L L' (by omega) hL hr
      | tok kind m =>
        rw [tkRun_tok h hs] at hr
        obtain ⟨h1, h2, h3⟩ := step_good h hs
        refine ih (k + m + 1) _ L' (by omega) ?_ hr
        intro t ht
        rw [List.mem_append, List.mem_singleton] at ht
        rcases ht with ht | rfl
        · exact hL t ht
        · refine ⟨h1, by show k + 1 ≤ _; omega, ?_⟩
          show (s.extract k (k + (m + 1))).size ≤ 8
          rw [ByteArray.size_extract]; omega
      | bad e => rw [tkRun_bad h hs] at hr; cases hr
    · rw [tkRun_end h] at hr
      injection hr with e
      subst e; exact hL
theorem ans_good {s : ByteArray} {L : List Tk} (h : ansOf s = .ok L) : GoodL 200 L := by
  unfold ansOf at h
  split at h
  · cases h
  · rename_i h2
    have := run_good (bare s) (bare s).size 0 [] L (by omega) (by intro t ht; cases ht) h
    have hb := bare_le s
    exact fun t ht => ⟨(this t ht).1, by have := (this t ht).2.1; omega, (this t ht).2.2⟩
theorem run_len (s : ByteArray) : ∀ (n k : Nat) (L L' : List Tk), s.size - k ≤ n → tkRun s k L = .ok L' → L'.length ≤ L.length + n := by
  intro n
  induction n with
  | zero =>
    intro k L L' hn hr
    rw [tkRun_end (by omega)] at hr
    injection hr with e
    subst e; omega
  | succ n ih =>
    intro k L L' hn hr
    by_cases h : k < s.size
    · cases hs : tkStep s k h with
      | skip =>
        rw [tkRun_skip h hs] at hr
        have := ih (k + 1) L L' (by omega) hr; omega
      | tok kind m =>
        rw [tkRun_tok h hs] at hr
        have := ih (k + m + 1) _ L' (by omega) hr
        rw [List.length_append, List.length_singleton] at this
        omega
      | bad e => rw [tkRun_bad h hs] at hr; cases hr
    · rw [tkRun_end h] at hr
      injection hr with e
      subst e; omega
theorem ans_len {s : ByteArray} {L : List Tk} (h : ansOf s = .ok L) : L.length ≤ 200 := by
  unfold ansOf at h
  split at h
  · cases h
  · have := run_len (bare s) (bare s).size 0 [] L (by omega) h
    have hb := bare_le s
    simp at this
    omega
end Go.Proofs.Ytnhjnimgjpgfcaa.SynR
/- Plain mathematics: the tokens of words that stand one behind the other. -/
namespace Go.Proofs.Ytnhjnimgjpgfcaa.SynW
set_option linter.unusedVariables false
set_option linter.unusedSimpArgs false
open Go.RowKit Go.Proofs.Ytnhjnimgjpgfcaa.Plain Go.Proofs.Ytnhjnimgjpgfcaa.SynP Go.Proofs.Ytnhjnimgjpgfcaa.SynQ Go.Proofs.Ytnhjnimgjpgfcaa.Scan1 Go.Proofs.Ytnhjnimgjpgfcaa.Scan2 Go.Proofs.Ytnhjnimgjpgfcaa.Scan3 Go.Proofs.Ytnhjnimgjpgfcaa.Scan4 Go.Proofs.Ytnhjnimgjpgfcaa.SynR
/-- No letter or digit stands first. -/
def Stops (l : List UInt8) : Prop := ∀ c, l.head? = some c → wordB c.toNat = false
theorem takeWhile_word (a : List UInt8) (rest : List UInt8) (ha : a.all (fun c => wordB c.toNat) = true) (hr : Stops rest) : (a ++ rest).takeWhile (fun c => wordB c.toNat) = a := by
  induction a with
  | nil =>
    cases rest with
    | nil => rfl
    | cons c l =>
      have := hr c rfl
      simp [List.takeWhile_cons, this]
  | cons x a ih =>
    simp only [List.all_cons, Bool.and_eq_true] at ha
    rw [List.cons_append, List.takeWhile_cons, if_pos ha.1, ih ha.2]
theorem drop_at {s : ByteArray} {k : Nat} {c : UInt8} {l : List UInt8} (h : s.data.toList.drop k = c :: l) : ∃ hk : k < s.size, s[k] = c ∧ s.data.toList.drop (k + 1) = l := by
  have hk : k < s.size := by
    rcases Nat.lt_or_ge k s.size with h1 | h1
    · exact h1
    · rw [List.drop_of_length_le (by rw [toList_len]; exact h1)] at h; cases h
  rw [drop_cons hk] at h
  injection h with h1 h2
  exact ⟨hk, h1, h2⟩
theorem named_cons {f : Int → Bool} {w : ByteArray} (h : named f w.data.toList = true) : ∃ c l, w.data.toList = c :: l ∧ f c.toNat = true ∧ wordB c.toNat = true ∧ l.all (fun c => wordB c.toNat) = true ∧ w.size ≤ 8 ∧ w.size = l.length + 1 := by
  unfold named at h
  simp only [Bool.and_eq_true, decide_eq_true_eq] at h
  obtain ⟨⟨⟨h1, h2⟩, h3⟩, h4⟩ := h
  cases e : w.data.toList with
  | nil => rw [e] at h1; simp at h1
  | cons c l =>
    rw [e] at h1 h2 h3 h4
    simp only [List.all_cons, Bool.and_eq_true] at h4
    refine ⟨c, l, rfl, h3, h4.1, h4.2, ?_, ?_⟩
    · rw [← toList_len, e]; exact h2
    · rw [← toList_len, e]; rfl
theorem drop_app {s : ByteArray} {k : Nat} {w rest : List UInt8} (h : s.data.toList.drop k = w ++ rest) : s.data.toList.drop (k + w.length) = rest := by
  rw [← List.drop_drop, h, List.drop_left]
theorem ext_app {s : ByteArray} {k : Nat} {w : ByteArray} {rest : List UInt8} (h : s.data.toList.drop k = w.data.toList ++ rest) : s.extract k (k + w.size) = w := by
  apply ba_ext
  rw [ext_list, h, ← toList_len, List.take_left]
theorem step_cap {s : ByteArray} {k m : Nat} (hk : k < s.size) (h32 : s[k] ≠ 32) (hc : capB s[k].toNat = true) (h8 : m + 1 ≤ 8) (hw : wlen s (k + 1) = m) : tkStep s k hk = .tok 1 m := by
  unfold tkStep
  rw [if_neg h32, if_pos hc, hw, if_neg (by omega)]
theorem cap_not_small {n : Int} (h : smallB n = true) : capB n = false := by
  unfold smallB at h; unfold capB
  rw [decide_eq_true_eq] at h
  exact decide_eq_false (by omega)
theorem step_small {s : ByteArray} {k m : Nat} (hk : k < s.size) (h32 : s[k] ≠ 32) (hc : smallB s[k].toNat = true) (h8 : m + 1 ≤ 8) (hw : wlen s (k + 1) = m) : tkStep s k hk = .tok 2 m := by
  unfold tkStep
  rw [if_neg h32, if_neg (by rw [cap_not_small hc]; decide), if_pos hc, hw, if_neg (by omega)]
theorem run_cap {s : ByteArray} {k : Nat} {L : List Tk} {w : ByteArray} {rest : List UInt8} (h : s.data.toList.drop k = w.data.toList ++ rest) (hn : named capB w.data.toList = true) (hr : Stops rest) :
    tkRun s k L = tkRun s (k + w.size) (L ++ [⟨1, w, k + 1⟩]) ∧ s.data.toList.drop (k + w.size) = rest := by
  obtain ⟨c, l, e, hc, hw, hl, h8, hs⟩ := named_cons hn
  have h' := h
  rw [e, List.cons_append] at h'
  obtain ⟨hk, hck, hd⟩ := drop_at h'
  have hwl : wlen s (k + 1) = l.length := by
    unfold wlen
    rw [hd, takeWhile_word l rest hl hr]
  have hst : tkStep s k hk = .tok 1 l.length := by
    have e32 : s[k] ≠ 32 := by
      rintro e32
      rw [← hck, e32] at hw
      exact absurd hw (by decide)
    subst hck
    exact step_cap hk e32 hc (by omega) hwl
  refine ⟨?_, ?_⟩
  · rw [tkRun_tok hk hst, show k + l.length + 1 = k + w.size by omega]
    have : s.extract k (k + (l.length + 1)) = w := by rw [show l.length + 1 = w.size by omega]; exact ext_app h
    rw [this]
  · have := drop_app h
    rwa [toList_len] at this
theorem run_small {s : ByteArray} {k : Nat} {L : List Tk} {w : ByteArray} {rest : List UInt8} (h : s.data.toList.drop k = w.data.toList ++ rest) (hn : named smallB w.data.toList = true) (hr : Stops rest) :
    tkRun s k L = tkRun s (k + w.size) (L ++ [⟨2, w, k + 1⟩]) ∧ s.data.toList.drop (k + w.size) = rest := by
  obtain ⟨c, l, e, hc, hw, hl, h8, hs⟩ := named_cons hn
  have h' := h
  rw [e, List.cons_append] at h'
  obtain ⟨hk, hck, hd⟩ := drop_at h'
  have hwl : wlen s (k + 1) = l.length := by
    unfold wlen
    rw [hd, takeWhile_word l rest hl hr]
  have hst : tkStep s k hk = .tok 2 l.length := by
    have e32 : s[k] ≠ 32 := by
      rintro e32
      rw [← hck, e32] at hw
      exact absurd hw (by decide)
    subst hck
    exact step_small hk e32 hc (by omega) hwl
  refine ⟨?_, ?_⟩
  · rw [tkRun_tok hk hst, show k + l.length + 1 = k + w.size by omega]
    have : s.extract k (k + (l.length + 1)) = w := by rw [show l.length + 1 = w.size by omega]; exact ext_app h
    rw [this]
  · have := drop_app h
    rwa [toList_len] at this
theorem run_sp {s : ByteArray} {k : Nat} {L : List Tk} {rest : List UInt8} (h : s.data.toList.drop k = 32 :: rest) : tkRun s k L = tkRun s (k + 1) L ∧ s.data.toList.drop (k + 1) = rest := by
  obtain ⟨hk, hck, hd⟩ := drop_at h
  exact ⟨tkRun_skip hk (by unfold tkStep; rw [if_pos hck]), hd⟩
theorem run_dot {s : ByteArray} {k : Nat} {L : List Tk} {rest : List UInt8} (h : s.data.toList.drop k = 46 :: rest) : tkRun s k L = tkRun s (k + 1) (L ++ [⟨3, dot, k + 1⟩]) ∧ s.data.toList.drop (k + 1) = rest := by
  obtain ⟨hk, hck, hd⟩ := drop_at h
  exact ⟨by rw [tkRun_tok hk (st_46 hk hck), text1 hk hck]; rfl, hd⟩
theorem run_amp {s : ByteArray} {k : Nat} {L : List Tk} {rest : List UInt8} (h : s.data.toList.drop k = 38 :: rest) : tkRun s k L = tkRun s (k + 1) (L ++ [⟨5, amp, k + 1⟩]) ∧ s.data.toList.drop (k + 1) = rest := by
  obtain ⟨hk, hck, hd⟩ := drop_at h
  exact ⟨by rw [tkRun_tok hk (st_38 hk hck), text1 hk hck]; rfl, hd⟩
theorem run_arrow {s : ByteArray} {k : Nat} {L : List Tk} {rest : List UInt8} (h : s.data.toList.drop k = 60 :: 45 :: rest) : tkRun s k L = tkRun s (k + 2) (L ++ [⟨4, arrow, k + 1⟩]) ∧ s.data.toList.drop (k + 2) = rest := by
  obtain ⟨hk, hck, hd⟩ := drop_at h
  obtain ⟨hk2, hck2, hd2⟩ := drop_at hd
  exact ⟨by rw [tkRun_tok hk (st_60 hk hck hk2 hck2), text2 hk hck hk2 hck2]; rfl, hd2⟩
theorem run_done {s : ByteArray} {k : Nat} {L : List Tk} (h : s.data.toList.drop k = []) : tkRun s k L = .ok L := by
  refine tkRun_end ?_
  intro hk
  rw [drop_cons hk] at h; cases h
theorem stops_nil : Stops [] := fun c h => by cases h
theorem stops_sp (l : List UInt8) : Stops (32 :: l) := fun c h => by injection h with h; subst h; decide
theorem stops_dot (l : List UInt8) : Stops (46 :: l) := fun c h => by injection h with h; subst h; decide
/-- A role's text. -/
def textR (r : Rl) : ByteArray := r.owner ++ ⟨#[46]⟩ ++ r.name
theorem textR_list (r : Rl) : (textR r).data.toList = r.owner.data.toList ++ (46 :: r.name.data.toList) := by
  unfold textR
  rw [ByteArray.data_append, ByteArray.data_append, Array.toList_append, Array.toList_append, List.append_assoc]
  rfl
theorem textR_size (r : Rl) : (textR r).size = r.owner.size + 1 + r.name.size := by
  unfold textR
  rw [ByteArray.size_append, ByteArray.size_append]; rfl
def roleTk (r : Rl) (k : Nat) : List Tk := [⟨1, r.owner, k + 1⟩, ⟨3, dot, k + r.owner.size + 1⟩, ⟨2, r.name, k + r.owner.size + 1 + 1⟩]
theorem run_role {s : ByteArray} {k : Nat} {L : List Tk} {r : Rl} {rest : List UInt8} (h : s.data.toList.drop k = (textR r).data.toList ++ rest) (hn : r.ok = true) (hr : Stops rest) :
    tkRun s k L = tkRun s (k + (textR r).size) (L ++ roleTk r k) ∧ s.data.toList.drop (k + (textR r).size) = rest := by
  unfold Rl.ok at hn
  rw [Bool.and_eq_true] at hn
  rw [textR_list, List.append_assoc, List.cons_append] at h
  obtain ⟨a1, b1⟩ := run_cap (L := L) h hn.1 (stops_dot _)
  obtain ⟨a2, b2⟩ := run_dot (L := L ++ [⟨1, r.owner, k + 1⟩]) b1
  obtain ⟨a3, b3⟩ := run_small (L := L ++ [⟨1, r.owner, k + 1⟩] ++ [⟨3, dot, k + r.owner.size + 1⟩]) b2 hn.2 hr
  rw [textR_size]
  refine ⟨?_, ?_⟩
  · rw [a1, a2, a3, show k + (r.owner.size + 1 + r.name.size) = k + r.owner.size + 1 + r.name.size by omega]
    unfold roleTk
    simp
  · rw [show k + (r.owner.size + 1 + r.name.size) = k + r.owner.size + 1 + r.name.size by omega]; exact b3
theorem word_ne35 {c : UInt8} (h : wordB c.toNat = true) : c ≠ 35 := by
  rintro rfl; exact absurd h (by decide)
theorem named_ne35 {f : Int → Bool} {w : ByteArray} (h : named f w.data.toList = true) : ∀ c ∈ w.data.toList, c ≠ 35 := by
  obtain ⟨c, l, e, _, hw, hl, _⟩ := named_cons h
  rw [e]
  intro x hx
  rcases List.mem_cons.1 hx with rfl | hx
  · exact word_ne35 hw
  · exact word_ne35 (List.all_eq_true.1 hl x hx)
theorem bare_no35 {s : ByteArray} (h : ∀ c ∈ s.data.toList, c ≠ 35) : bare s = s := bare_all (takeWhile_all h)
theorem role_ne35 {r : Rl} (h : r.ok = true) : ∀ c ∈ (textR r).data.toList, c ≠ 35 := by
  unfold Rl.ok at h
  rw [Bool.and_eq_true] at h
  rw [textR_list]
  intro c hc
  rcases List.mem_append.1 hc with hc | hc
  · exact named_ne35 h.1 c hc
  · rcases List.mem_cons.1 hc with rfl | hc
    · decide
    · exact named_ne35 h.2 c hc
theorem role_size {r : Rl} (h : r.ok = true) : (textR r).size ≤ 17 := by
  unfold Rl.ok at h
  rw [Bool.and_eq_true] at h
  obtain ⟨_, _, _, _, _, _, h1, _⟩ := named_cons h.1
  obtain ⟨_, _, _, _, _, _, h2, _⟩ := named_cons h.2
  rw [textR_size]; omega
/-- The tokens of a role's text. -/
theorem role_toks {r : Rl} (h : r.ok = true) : ansOf (textR r) = .ok (roleTk r 0) := by
  have hs := role_size h
  unfold ansOf
  rw [if_neg (by omega), bare_no35 (role_ne35 h)]
  obtain ⟨a, b⟩ := run_role (s := textR r) (k := 0) (L := []) (rest := []) (by simp) h stops_nil
  rw [a]
  exact run_done b
end Go.Proofs.Ytnhjnimgjpgfcaa.SynW
/- Two rows of the same tokens are alike. -/
namespace Go.Proofs.Ytnhjnimgjpgfcaa.Scan5
set_option linter.unusedVariables false
set_option linter.unusedSimpArgs false
open Go.RowKit Go.Proofs.Ytnhjnimgjpgfcaa.Plain Go.Proofs.Ytnhjnimgjpgfcaa.Leaf Go.Proofs.Ytnhjnimgjpgfcaa.Scan1 Go.Proofs.Ytnhjnimgjpgfcaa.Scan2 Go.Proofs.Ytnhjnimgjpgfcaa.Scan3
/-- A slice value that reads as tokens. -/
def TkRow (w : World) (A : Option Addr) (L : List Tk) : Prop :=
  0 < L.length → ∃ g, A = some ⟨g, 0, none⟩ ∧ g < w.heap.size ∧ ∀ j, (h : j < L.length) → w.cell? ⟨g, j * 3, none⟩ = some (.int .i64 L[j].kind) ∧ w.cell? ⟨g, j * 3 + 1, none⟩ = some (.string L[j].text) ∧ w.cell? ⟨g, j * 3 + 2, none⟩ = some (.int .i64 L[j].col)
theorem tkCells_at (L : List Tk) (j : Nat) (h : j < L.length) : (tkCells L)[j * 3]? = some (.int .i64 L[j].kind) ∧ (tkCells L)[j * 3 + 1]? = some (.string L[j].text) ∧ (tkCells L)[j * 3 + 2]? = some (.int .i64 L[j].col) := by
  induction L generalizing j with
  | nil => simp at h
  | cons t L ih =>
    have e : tkCells (t :: L) = t.cells ++ tkCells L := by unfold tkCells; simp
    have hl : t.cells.length = 3 := rfl
    rw [e]
    cases j with
    | zero =>
      refine ⟨?_, ?_, ?_⟩ <;> rw [List.getElem?_append_left (by rw [hl]; omega)] <;> rfl
    | succ j =>
      obtain ⟨a, b, c⟩ := ih j (by simpa using h)
      refine ⟨?_, ?_, ?_⟩ <;> rw [List.getElem?_append_right (by rw [hl]; omega), hl]
      · rw [show (j + 1) * 3 - 3 = j * 3 from by omega]; exact a
      · rw [show (j + 1) * 3 + 1 - 3 = j * 3 + 1 from by omega]; exact b
      · rw [show (j + 1) * 3 + 2 - 3 = j * 3 + 2 from by omega]; exact c
theorem TkRow.of_own {w : World} {B : Nat} {e : TypeId} {v : Value} {L : List Tk} (h : w.ownsRow B e 3 v L.length (tkCells L)) : ∃ A cap, v = .slice A L.length cap ∧ L.length ≤ cap ∧ TkRow w A L := by
  rcases h.2 with ⟨rfl, h0⟩ | ⟨g, cap, cur, rfl, hB, hh, hc, hm, hs, ht⟩
  · exact ⟨none, 0, by rw [h0], by omega, fun hp => by omega⟩
  · refine ⟨_, _, rfl, hc, fun hp => ⟨g, rfl, ?_, fun j hj => ?_⟩⟩
    · exact (h.lt g rfl).2
    · obtain ⟨a, b, c⟩ := tkCells_at L j hj
      rw [← ht] at a b c
      rw [List.getElem?_take_of_lt (by omega)] at a b c
      refine ⟨?_, ?_, ?_⟩ <;> rw [Lib.cell_of_heap hh]
      · rw [← Array.getElem?_toList]; exact a
      · rw [← Array.getElem?_toList]; exact b
      · rw [← Array.getElem?_toList]; exact c
theorem TkRow.below {w w' : World} {A : Option Addr} {L : List Tk} (h : TkRow w A L) (hb : Below w.heap.size w w') : TkRow w' A L := fun hp => by
  obtain ⟨g, hA, hg, hc⟩ := h hp
  refine ⟨g, hA, Nat.lt_of_lt_of_le hg hb.size, fun j hj => ?_⟩
  obtain ⟨a, b, c⟩ := hc j hj
  exact ⟨(hb.cell (p := ⟨g, j * 3, none⟩) hg).trans a, (hb.cell (p := ⟨g, j * 3 + 1, none⟩) hg).trans b, (hb.cell (p := ⟨g, j * 3 + 2, none⟩) hg).trans c⟩
end Go.Proofs.Ytnhjnimgjpgfcaa.Scan5
/- How many tokens are of the kinds of a shape; the place behind the last token. -/
namespace Go.Proofs.Ytnhjnimgjpgfcaa.SynA
set_option linter.unusedVariables false
set_option linter.unusedSimpArgs false
open Go.RowKit Go.Sort Go.Proofs.Ytnhjnimgjpgfcaa.Plain Go.Proofs.Ytnhjnimgjpgfcaa.SynP Go.Proofs.Ytnhjnimgjpgfcaa.SynQ Go.Proofs.Ytnhjnimgjpgfcaa.Grown
set_option linter.unusedVariables false
/-- A slice value that reads as tokens, wherever it begins. -/
def TkAt (w : World) (A : Option Addr) (L : List Tk) : Prop :=
  0 < L.length → ∃ g o, A = some ⟨g, o, none⟩ ∧ g < w.heap.size ∧ ∀ j, (h : j < L.length) → w.cell? ⟨g, o + j * 3, none⟩ = some (.int .i64 L[j].kind) ∧ w.cell? ⟨g, o + j * 3 + 1, none⟩ = some (.string L[j].text) ∧ w.cell? ⟨g, o + j * 3 + 2, none⟩ = some (.int .i64 L[j].col)
/-- A slice value that reads as numbers. -/
def IAt (w : World) (A : Option Addr) (l : List Int) : Prop :=
  0 < l.length → ∃ g o, A = some ⟨g, o, none⟩ ∧ g < w.heap.size ∧ ∀ k, (h : k < l.length) → w.cell? ⟨g, o + k, none⟩ = some (.int .i64 l[k])
theorem TkAt.below {w w' : World} {A : Option Addr} {L : List Tk} (h : TkAt w A L) (hb : Below w.heap.size w w') : TkAt w' A L := fun hp => by
  obtain ⟨g, o, hA, hg, hc⟩ := h hp
  refine ⟨g, o, hA, Nat.lt_of_lt_of_le hg hb.size, fun j hj => ?_⟩
  obtain ⟨a, b, c⟩ := hc j hj
  exact ⟨(hb.cell (p := ⟨g, o + j * 3, none⟩) hg).trans a, (hb.cell (p := ⟨g, o + j * 3 + 1, none⟩) hg).trans b, (hb.cell (p := ⟨g, o + j * 3 + 2, none⟩) hg).trans c⟩
theorem IAt.below {w w' : World} {A : Option Addr} {l : List Int} (h : IAt w A l) (hb : Below w.heap.size w w') : IAt w' A l := fun hp => by
  obtain ⟨g, o, hA, hg, hc⟩ := h hp
  exact ⟨g, o, hA, Nat.lt_of_lt_of_le hg hb.size, fun k hk => (hb.cell (p := ⟨g, o + k, none⟩) hg).trans (hc k hk)⟩
theorem TkAt.of_row {w : World} {A : Option Addr} {L : List Tk} (h : Scan5.TkRow w A L) : TkAt w A L := fun hp => by
  obtain ⟨g, hA, hg, hc⟩ := h hp
  exact ⟨g, 0, hA, hg, fun j hj => by simpa using hc j hj⟩
theorem behindOf_nil : behindOf [] = 1 := rfl
theorem behindOf_last {L : List Tk} (h : 0 < L.length) : behindOf L = L[L.length - 1].col + L[L.length - 1].text.size := by
  unfold behindOf
  rw [List.getLast?_eq_getElem?, List.getElem?_eq_getElem (by omega)]
/-- The columns and sizes of tokens are small. -/
def SmallTk (L : List Tk) : Prop := ∀ t ∈ L, t.col ≤ 1000000 ∧ t.text.size ≤ 1000000
end Go.Proofs.Ytnhjnimgjpgfcaa.SynA
/- append of a slice that reads as cells, onto a row of the call's own; a copy of tokens. -/
namespace Go.Proofs.Ytnhjnimgjpgfcaa.SynC
set_option linter.unusedVariables false
set_option linter.unusedSimpArgs false
open Go.RowKit Go.Sort Go.Proofs.Ytnhjnimgjpgfcaa.Plain Go.Proofs.Ytnhjnimgjpgfcaa.SynP Go.Proofs.Ytnhjnimgjpgfcaa.SynQ Go.Proofs.Ytnhjnimgjpgfcaa.Grown Go.Proofs.Ytnhjnimgjpgfcaa.SynA Go.Proofs.Ytnhjnimgjpgfcaa.Scan3
set_option linter.unusedVariables false
section
variable {P : Program} (w : World)
theorem run_append_from (base : Nat) (t ty e : TypeId) (i : TypeInfo) (z : Value) (size bytes : Nat) (ht : P.underlying t = some (.slice e)) (hi : P.info? e = some i) (hz : i.zero = some z)
    (hsize : i.size = size) (hby : i.bytes = bytes) (hzs : z.cells.size = size) (hsz : 0 < size) (v : Value) (n : Nat) (xs : List Value) (hown : w.ownsRow base e size v n xs)
    (A : Option Addr) (m c : Nat) (news : List Value) (hlen : news.length = m * size) (h0 : A = none → m = 0) (hA : ∀ ad, A = some ad → ∀ j u, news[j]? = some u → w.cell? (ad.add j) = some u) (h1 : ∀ u ∈ news, u.oneCell' = true)
    (h63 : n + m ≤ maxLen) (hbytes : (n + m) * bytes ≤ 140737488355328) (hbase : base ≤ w.heap.size) :
    ∃ v' w', (Builtin.append_ #[t, t] ty #[v, .slice A m c]).run P w = .ok v' w' ∧ w'.ownsRow base e size v' (n + m) (xs ++ news) ∧ w.grownBy w' v.ownBlock := by
  cases A with
  | none =>
    have hm := h0 rfl
    subst hm
    have hn : news = [] := List.eq_nil_of_length_eq_zero (by omega)
    subst hn
    refine ⟨v, w, ?_, by simpa using hown, World.grownBy.refl w _⟩
    rcases hown.2 with ⟨rfl, rfl⟩ | ⟨g, cap, cur, rfl, _, _, hnc, _⟩
    · simp [Builtin.append_, run_underlying ht, sizeOf, typeInfo, hi, Builtin.lenOf, Builtin.firstCells]
    · simp [Builtin.append_, run_underlying ht, sizeOf, typeInfo, hi, Builtin.lenOf, Builtin.firstCells, hnc, storeCells]
  | some ad =>
    obtain ⟨v', w', hrun, h2, h3, _⟩ := run_append_own (P := P) w base t ty e i z size bytes ht hi hz hsize hby hzs hsz v n xs hown ad m c news hlen (hA ad rfl) h1 h63 hbytes hbase
    exact ⟨v', w', hrun, h2, h3⟩
theorem wpList_append_from {ops : Array Oper} {rest : List Oper} {o : Oper} {a : Act} {Q : Exit → Act → World → Prop} (hgd : o.guard = none) (s x : Operand) (t : TypeId)
    (ho : o.op = .call { callee := .builtin .append, args := #[s, x], argTypes := #[t, t] })
    (base : Nat) (e : TypeId) (i : TypeInfo) (z : Value) (size bytes : Nat) (ht : P.underlying t = some (.slice e)) (hi : P.info? e = some i) (hz : i.zero = some z)
    (hsize : i.size = size) (hby : i.bytes = bytes) (hzs : z.cells.size = size) (hsz : 0 < size) (v : Value) (n : Nat) (xs : List Value) (hs : a.eval s = v) (hown : w.ownsRow base e size v n xs)
    (A : Option Addr) (m c : Nat) (news : List Value) (hx : a.eval x = .slice A m c) (hlen : news.length = m * size) (h0 : A = none → m = 0) (hA : ∀ ad, A = some ad → ∀ j u, news[j]? = some u → w.cell? (ad.add j) = some u) (h1 : ∀ u ∈ news, u.oneCell' = true)
    (h63 : n + m ≤ maxLen) (hbytes : (n + m) * bytes ≤ 140737488355328) (hbase : base ≤ w.heap.size)
    (h : ∀ v' w', w'.ownsRow base e size v' (n + m) (xs ++ news) → w.grownBy w' v.ownBlock → wpList P ops Q rest (a.put o.dst v') w') : wpList P ops Q (o :: rest) a w := by
  obtain ⟨v', w', hrun, h2, h3⟩ := run_append_from (P := P) w base t o.type e i z size bytes ht hi hz hsize hby hzs hsz v n xs hown A m c news hlen h0 hA h1 h63 hbytes hbase
  exact Lib.wpList_append_run w hgd s x t t ho v _ hs hx v' w' hrun (h v' w' h2 h3)
end
theorem add_off (b off j : Nat) : ((⟨b, off, none⟩ : Addr).add j) = ⟨b, off + j, none⟩ := by
  unfold Addr.add
  split
  · rename_i h; subst h; rfl
  · simp
theorem own_empty (w : World) (t : TypeId) (size : Nat) : (w.alloc (.cells #[] t)).ownsRow w.heap.size t size (.slice (some ⟨w.heap.size, 0, none⟩) 0 0) 0 [] := by
  refine ⟨by simp, .inr ⟨w.heap.size, 0, #[], rfl, Nat.le_refl _, heap_alloc_new w _, by omega, ?_⟩⟩
  simp
theorem tkCells_cons (t : Tk) (L : List Tk) : tkCells (t :: L) = t.cells ++ tkCells L := by unfold tkCells; simp
theorem tkCells_len (L : List Tk) : (tkCells L).length = L.length * 3 := by
  induction L with
  | nil => rfl
  | cons t L ih => rw [tkCells_cons, List.length_append, ih, List.length_cons, Nat.succ_mul]; show 3 + _ = _; omega
theorem tkCells_one (L : List Tk) : ∀ u ∈ tkCells L, u.oneCell' = true := by
  intro u hu
  unfold tkCells at hu
  rw [List.mem_flatten] at hu
  obtain ⟨l, hl, hu⟩ := hu
  obtain ⟨t, _, rfl⟩ := List.mem_map.1 hl
  simp [Tk.cells] at hu
  rcases hu with rfl | rfl | rfl <;> rfl
/-- Cells of tokens, one by one. -/
theorem tkCells_get {w : World} {g o : Nat} : ∀ (L : List Tk), (∀ j, (h : j < L.length) → w.cell? ⟨g, o + j * 3, none⟩ = some (.int .i64 L[j].kind) ∧ w.cell? ⟨g, o + j * 3 + 1, none⟩ = some (.string L[j].text) ∧ w.cell? ⟨g, o + j * 3 + 2, none⟩ = some (.int .i64 L[j].col)) →
    ∀ j u, (tkCells L)[j]? = some u → w.cell? ⟨g, o + j, none⟩ = some u := by
  intro L hc j u hu
  have hj : j < (tkCells L).length := by
    rcases Nat.lt_or_ge j (tkCells L).length with h | h
    · exact h
    · rw [List.getElem?_eq_none h] at hu; cases hu
  rw [tkCells_len] at hj
  have hq : j / 3 < L.length := by omega
  obtain ⟨a, b, c⟩ := hc (j / 3) hq
  obtain ⟨a', b', c'⟩ := Scan5.tkCells_at L (j / 3) hq
  rcases (show j = j / 3 * 3 ∨ j = j / 3 * 3 + 1 ∨ j = j / 3 * 3 + 2 by omega) with h | h | h
  · rw [h] at hu; rw [a'] at hu; rw [h]; rw [a, hu]
  · rw [h] at hu; rw [b'] at hu; rw [h]; rw [← Nat.add_assoc, b, hu]
  · rw [h] at hu; rw [c'] at hu; rw [h]; rw [← Nat.add_assoc, c, hu]
end Go.Proofs.Ytnhjnimgjpgfcaa.SynC
/- The lines of statements, in the program and in the document's answers. -/
namespace Go.Proofs.Ytnhjnimgjpgfcaa.SynL
set_option linter.unusedVariables false
set_option linter.unusedSimpArgs false
open Go.RowKit Go.Sort Go.Proofs Go.Proofs.Ytnhjnimgjpgfcaa.Plain Go.Proofs.Ytnhjnimgjpgfcaa.SynP Go.Proofs.Ytnhjnimgjpgfcaa.Named Go.Proofs.Ytnhjnimgjpgfcaa.RefN Go.Proofs.Ytnhjnimgjpgfcaa.Grown Go.Proofs.Ytnhjnimgjpgfcaa.Syn1 Go.Proofs.Ytnhjnimgjpgfcaa.Syn2 Go.Proofs.Ytnhjnimgjpgfcaa.Syn3 Go.Proofs.Ytnhjnimgjpgfcaa.Syn4 Go.Proofs.Ytnhjnimgjpgfcaa.Syn5 Go.Proofs.Ytnhjnimgjpgfcaa.SynE Go.Proofs.Ytnhjnimgjpgfcaa.Syn7 Go.Proofs.Ytnhjnimgjpgfcaa.Syn8 Go.Proofs.Ytnhjnimgjpgfcaa.Syn9
set_option linter.unusedSimpArgs false
set_option linter.unusedVariables false
def text (r : Rl) : ByteArray := r.owner ++ ⟨#[46]⟩ ++ r.name
/-- What stands behind the arrow. -/
def body (s : St) : ByteArray := if s.kind = 1 then s.who else if s.kind = 2 then text s.a else if s.kind = 3 then text s.a ++ ⟨#[46]⟩ ++ s.via else text s.a ++ ⟨#[32, 38, 32]⟩ ++ text s.b
/-- A statement's line: nothing, if it isn't right. -/
def line (s : St) : ByteArray := if s.right = true then text s.head ++ ⟨#[32, 60, 45, 32]⟩ ++ body s else noText
theorem right_kind {s : St} (h : s.right = true) : s.kind = 1 ∨ s.kind = 2 ∨ s.kind = 3 ∨ s.kind = 4 := by
  rcases kinds s.kind with h1 | h1 | h1 | h1 | ⟨h1, h2, h3, h4⟩
  · exact .inl h1
  · exact .inr (.inl h1)
  · exact .inr (.inr (.inl h1))
  · exact .inr (.inr (.inr h1))
  · unfold St.right St.says at h
    rw [if_neg h1, if_neg h2, if_neg h3, if_neg h4] at h
    simp at h
theorem addS (a b : ByteArray) (h : a.size + b.size ≤ 100000) (w : World) : (binOp .add 9 (.string a) (.string b)).run Try.prog w = .ok (.string (a ++ b)) w := by
  go_simp
  omega
theorem sz46 : (⟨#[46]⟩ : ByteArray).size = 1 := rfl
theorem sz38 : (⟨#[32, 38, 32]⟩ : ByteArray).size = 3 := rfl
theorem szA : (⟨#[32, 60, 45, 32]⟩ : ByteArray).size = 4 := rfl
theorem named_small {f} {s : ByteArray} (h : named f s.data.toList = true) : s.size ≤ 1000 := by
  rcases Nat.lt_or_ge 1000 s.size with hlt | hge
  · rw [named_len (by omega)] at h; cases h
  · exact hge
theorem ok_small {o n : ByteArray} (h : Rl.ok ⟨o, n⟩ = true) : o.size ≤ 1000 ∧ n.size ≤ 1000 := by
  unfold Rl.ok at h
  rw [Bool.and_eq_true] at h
  exact ⟨named_small h.1, named_small h.2⟩
theorem right_parts {k : Int} {ho hn wh ao an bo bn v : ByteArray} (h : St.right ⟨k, ⟨ho, hn⟩, wh, ⟨ao, an⟩, ⟨bo, bn⟩, v⟩ = true) : Rl.ok ⟨ho, hn⟩ = true ∧ (k = 1 → named capB wh.data.toList = true) ∧ ((k = 2 ∨ k = 3 ∨ k = 4) → Rl.ok ⟨ao, an⟩ = true) ∧ (k = 3 → named smallB v.data.toList = true) ∧ (k = 4 → Rl.ok ⟨bo, bn⟩ = true) := by
  unfold St.right at h
  simp only [Bool.and_eq_true] at h
  obtain ⟨⟨h1, h2⟩, h3⟩ := h
  unfold St.says at h2
  refine ⟨h1, ?_, ?_, ?_, ?_⟩
  · rintro rfl; exact h2
  · rintro (rfl | rfl | rfl)
    · exact h2
    · exact (Bool.and_eq_true _ _ ▸ h2 : _ ∧ _).1
    · have := (Bool.and_eq_true _ _ ▸ h2 : _ ∧ _).1
      exact (Bool.and_eq_true _ _ ▸ this : _ ∧ _).1
  · rintro rfl; exact (Bool.and_eq_true _ _ ▸ h2 : _ ∧ _).2
  · rintro rfl
    have := (Bool.and_eq_true _ _ ▸ h2 : _ ∧ _).1
    exact (Bool.and_eq_true _ _ ▸ this : _ ∧ _).2
end Go.Proofs.Ytnhjnimgjpgfcaa.SynL
/- Tokens compared, and the role that tokens begin with. -/
namespace Go.Proofs.Ytnhjnimgjpgfcaa.SynT
set_option linter.unusedVariables false
set_option linter.unusedSimpArgs false
open Go.RowKit Go.Sort Go.Proofs Go.Proofs.Ytnhjnimgjpgfcaa.Plain Go.Proofs.Ytnhjnimgjpgfcaa.SynP Go.Proofs.Ytnhjnimgjpgfcaa.SynQ Go.Proofs.Ytnhjnimgjpgfcaa.Grown Go.Proofs.Ytnhjnimgjpgfcaa.SynA Go.Proofs.Ytnhjnimgjpgfcaa.SynC Go.Proofs.Ytnhjnimgjpgfcaa.SynR Go.Proofs.Ytnhjnimgjpgfcaa.SynW Go.Proofs.Ytnhjnimgjpgfcaa.Scan3 Go.Proofs.Ytnhjnimgjpgfcaa.Scan5 Go.Proofs.Ytnhjnimgjpgfcaa.Syn1 Go.Proofs.Ytnhjnimgjpgfcaa.Syn2 Go.Proofs.Ytnhjnimgjpgfcaa.Syn4 Go.Proofs.Ytnhjnimgjpgfcaa.SynL Go.Proofs.Ytnhjnimgjpgfcaa.SynS
set_option linter.unusedVariables false
set_option linter.unusedSimpArgs false
def kts (L : List Tk) : List (Int × ByteArray) := L.map fun t => (t.kind, t.text)
theorem kts_len (L : List Tk) : (kts L).length = L.length := List.length_map ..
theorem take_next {α : Type} {a b : List α} {k : Nat} (h1 : k < a.length) (h2 : k < b.length) (h : a.take k = b.take k) (he : a[k] = b[k]) : a.take (k + 1) = b.take (k + 1) := by
  rw [List.take_succ_eq_append_getElem h1, List.take_succ_eq_append_getElem h2, h, he]
end Go.Proofs.Ytnhjnimgjpgfcaa.SynT
