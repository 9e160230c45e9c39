/- Plain mathematics: the tokens of a line are good ones; the tokens of words that stand one behind the other. -/
import Derived.Test.YtkmpbkgmdfeicaaGreatM01
import Derived.Test.YtkmpbkgmdfeicaaGreatM03
import Derived.Test.YtkmpbkgmdfeicaaGreatM02
import Derived.WalkKit
import Derived.Below
import Derived.Sort.Grow
import Derived.Shelf.SlSortCmp.QuietGrown
import Derived.Sort.Walk7
import Derived.Lib.AppendZeros
import Derived.OwnWalk
import Derived.WalkSpells
import Derived.Test.YtkmpbkgmdfeicaaGreatShelf
import Derived.Outline
import Derived.WalkLawsBesides
import Derived.Deep.QuietTactic
import Derived.BigQuiet
import Derived.Sort.Walk0
import Derived.Deep.RegionHeld3
namespace Go.Proofs.YtkmpbkgmdfeicaaGreat.SynR
set_option linter.unusedVariables false
set_option linter.unusedSimpArgs false
open Go.RowKit Go.Proofs.YtkmpbkgmdfeicaaGreat.Plain Go.Proofs.YtkmpbkgmdfeicaaGreat.SynP Go.Proofs.YtkmpbkgmdfeicaaGreat.SynQ Go.Proofs.YtkmpbkgmdfeicaaGreat.Scan1 Go.Proofs.YtkmpbkgmdfeicaaGreat.Scan2 Go.Proofs.YtkmpbkgmdfeicaaGreat.Scan3 Go.Proofs.YtkmpbkgmdfeicaaGreat.Scan4
def dot : ByteArray := ⟨#[46]⟩
def amp : ByteArray := ⟨#[38]⟩
def arrow : ByteArray := ⟨#[60, 45]⟩
def goodTk (t : Tk) : Prop := (t.kind = 1 ∧ named capB t.text.data.toList = true) ∨ (t.kind = 2 ∧ named smallB t.text.data.toList = true) ∨ (t.kind = 3 ∧ t.text = dot) ∨ (t.kind = 4 ∧ t.text = arrow) ∨ (t.kind = 5 ∧ t.text = amp)
theorem ext_list (s : ByteArray) (k m : Nat) : (s.extract k (k + m)).data.toList = (s.data.toList.drop k).take m := by
  rw [ByteArray.data_extract, Array.toList_extract, List.extract_eq_take_drop, show k + m - k = m by omega]
theorem take_takeWhile (p : UInt8 → Bool) : ∀ l : List UInt8, l.take (l.takeWhile p).length = l.takeWhile p
  | [] => rfl
  | a :: l => by
    rw [List.takeWhile_cons]
    split
    · simp [take_takeWhile p l]
    · rfl
theorem word_named {s : ByteArray} {k : Nat} (h : k < s.size) (f : Int → Bool) (hf : f s[k].toNat = true) (hw : wordB s[k].toNat = true) (h8 : ¬ wlen s (k + 1) + 1 > 8) : named f (s.extract k (k + (wlen s (k + 1) + 1))).data.toList = true := by
  have e : (s.extract k (k + (wlen s (k + 1) + 1))).data.toList = s[k] :: (s.data.toList.drop (k + 1)).takeWhile (fun c => wordB c.toNat) := by
    rw [ext_list, drop_cons h, List.take_succ_cons]
    unfold wlen
    rw [take_takeWhile]
  have hl : ((s.data.toList.drop (k + 1)).takeWhile (fun c => wordB c.toNat)).length = wlen s (k + 1) := rfl
  rw [e]
  unfold named
  simp only [List.length_cons, hl, List.headD_cons, hf, List.all_cons, hw, Bool.true_and, Bool.and_true, Bool.and_eq_true, decide_eq_true_eq]
  refine ⟨⟨by omega, by omega⟩, ?_⟩
  exact List.all_takeWhile
theorem step_good {s : ByteArray} {k : Nat} (h : k < s.size) {kind : Int} {m : Nat} (hs : tkStep s k h = .tok kind m) : goodTk ⟨kind, s.extract k (k + (m + 1)), k + 1⟩ ∧ k + m + 1 ≤ s.size ∧ m + 1 ≤ 8 := by
  have hle := wlen_le s (k + 1)
  unfold tkStep at hs
  split at hs
  · cases hs
  split at hs
  · rename_i h1
    split at hs
    · cases hs
    · rename_i h8
      injection hs with e1 e2
      subst e1; subst e2
      exact ⟨.inl ⟨rfl, word_named h capB h1 (word_of_cap h1) h8⟩, by omega, by omega⟩
  split at hs
  · rename_i h1
    split at hs
    · cases hs
    · rename_i h8
      injection hs with e1 e2
      subst e1; subst e2
      exact ⟨.inr (.inl ⟨rfl, word_named h smallB h1 (word_of_small h1) h8⟩), by omega, by omega⟩
  split at hs
  · rename_i h1
    injection hs with e1 e2
    subst e1; subst e2
    exact ⟨.inr (.inr (.inl ⟨rfl, text1 h h1⟩)), by omega, by omega⟩
  split at hs
  · rename_i h1
    injection hs with e1 e2
    subst e1; subst e2
    exact ⟨.inr (.inr (.inr (.inr ⟨rfl, text1 h h1⟩))), by omega, by omega⟩
  split at hs
  · rename_i h1
    injection hs with e1 e2
    subst e1; subst e2
    obtain ⟨a, h2, b⟩ := (pre_iff h).1 h1
    exact ⟨.inr (.inr (.inr (.inl ⟨rfl, text2 h a h2 b⟩))), by omega, by omega⟩
  · cases hs
/-- Tokens are good, and lie in a line of this size. -/
def GoodL (n : Nat) (L : List Tk) : Prop := ∀ t ∈ L, goodTk t ∧ t.col ≤ n ∧ t.text.size ≤ 8
theorem run_good (s : ByteArray) : ∀ (n k : Nat) (L L' : List Tk), s.size - k ≤ n → GoodL s.size L → tkRun s k L = .ok L' → GoodL s.size L' := by
  intro n
  induction n with
  | zero =>
    intro k L L' hn hL hr
    rw [tkRun_end (by omega)] at hr
    injection hr with e
    subst e; exact hL
  | succ n ih =>
    intro k L L' hn hL hr
    by_cases h : k < s.size
    · cases hs : tkStep s k h with
      | skip =>
        rw [tkRun_skip h hs] at hr
        exact ih (k + 1) L L' (by omega) hL hr
      | tok kind m =>
        rw [tkRun_tok h hs] at hr
        obtain ⟨h1, h2, h3⟩ := step_good h hs
        refine ih (k + m + 1) _ L' (by omega) ?_ hr
        intro t ht
        rw [List.mem_append, List.mem_singleton] at ht
        rcases ht with ht | rfl
        · exact hL t ht
        · refine ⟨h1, by show k + 1 ≤ _; omega, ?_⟩
          show (s.extract k (k + (m + 1))).size ≤ 8
          rw [ByteArray.size_extract]; omega
      | bad e => rw [tkRun_bad h hs] at hr; cases hr
    · rw [tkRun_end h] at hr
      injection hr with e
      subst e; exact hL
theorem ans_good {s : ByteArray} {L : List Tk} (h : ansOf s = .ok L) : GoodL 200 L := by
  unfold ansOf at h
  split at h
  · cases h
  · rename_i h2
    have := run_good (bare s) (bare s).size 0 [] L (by omega) (by intro t ht; cases ht) h
    have hb := bare_le s
    exact fun t ht => ⟨(this t ht).1, by have := (this t ht).2.1; omega, (this t ht).2.2⟩
theorem run_len (s : ByteArray) : ∀ (n k : Nat) (L L' : List Tk), s.size - k ≤ n → tkRun s k L = .ok L' → L'.length ≤ L.length + n := by
  intro n
  induction n with
  | zero =>
    intro k L L' hn hr
    rw [tkRun_end (by omega)] at hr
    injection hr with e
    subst e; omega
  | succ n ih =>
    intro k L L' hn hr
    by_cases h : k < s.size
    · cases hs : tkStep s k h with
      | skip =>
        rw [tkRun_skip h hs] at hr
        have := ih (k + 1) L L' (by omega) hr; omega
      | tok kind m =>
        rw [tkRun_tok h hs] at hr
        have := ih (k + m + 1) _ L' (by omega) hr
        rw [List.length_append, List.length_singleton] at this
        omega
      | bad e => rw [tkRun_bad h hs] at hr; cases hr
    · rw [tkRun_end h] at hr
      injection hr with e
      subst e; omega
theorem ans_len {s : ByteArray} {L : List Tk} (h : ansOf s = .ok L) : L.length ≤ 200 := by
  unfold ansOf at h
  split at h
  · cases h
  · have := run_len (bare s) (bare s).size 0 [] L (by omega) h
    have hb := bare_le s
    simp at this
    omega
end Go.Proofs.YtkmpbkgmdfeicaaGreat.SynR
/- Plain mathematics: the tokens of words that stand one behind the other. -/
namespace Go.Proofs.YtkmpbkgmdfeicaaGreat.SynW
set_option linter.unusedVariables false
set_option linter.unusedSimpArgs false
open Go.RowKit Go.Proofs.YtkmpbkgmdfeicaaGreat.Plain Go.Proofs.YtkmpbkgmdfeicaaGreat.SynP Go.Proofs.YtkmpbkgmdfeicaaGreat.SynQ Go.Proofs.YtkmpbkgmdfeicaaGreat.Scan1 Go.Proofs.YtkmpbkgmdfeicaaGreat.Scan2 Go.Proofs.YtkmpbkgmdfeicaaGreat.Scan3 Go.Proofs.YtkmpbkgmdfeicaaGreat.Scan4 Go.Proofs.YtkmpbkgmdfeicaaGreat.SynR
/-- No letter or digit stands first. -/
def Stops (l : List UInt8) : Prop := ∀ c, l.head? = some c → wordB c.toNat = false
theorem takeWhile_word (a : List UInt8) (rest : List UInt8) (ha : a.all (fun c => wordB c.toNat) = true) (hr : Stops rest) : (a ++ rest).takeWhile (fun c => wordB c.toNat) = a := by
  induction a with
  | nil =>
    cases rest with
    | nil => rfl
    | cons c l =>
      have := hr c rfl
      simp [List.takeWhile_cons, this]
  | cons x a ih =>
    simp only [List.all_cons, Bool.and_eq_true] at ha
    rw [List.cons_append, List.takeWhile_cons, if_pos ha.1, ih ha.2]
theorem drop_at {s : ByteArray} {k : Nat} {c : UInt8} {l : List UInt8} (h : s.data.toList.drop k = c :: l) : ∃ hk : k < s.size, s[k] = c ∧ s.data.toList.drop (k + 1) = l := by
  have hk : k < s.size := by
    rcases Nat.lt_or_ge k s.size with h1 | h1
    · exact h1
    · rw [List.drop_of_length_le (by rw [toList_len]; exact h1)] at h; cases h
  rw [drop_cons hk] at h
  injection h with h1 h2
  exact ⟨hk, h1, h2⟩
theorem named_cons {f : Int → Bool} {w : ByteArray} (h : named f w.data.toList = true) : ∃ c l, w.data.toList = c :: l ∧ f c.toNat = true ∧ wordB c.toNat = true ∧ l.all (fun c => wordB c.toNat) = true ∧ w.size ≤ 8 ∧ w.size = l.length + 1 := by
  unfold named at h
  simp only [Bool.and_eq_true, decide_eq_true_eq] at h
  obtain ⟨⟨⟨h1, h2⟩, h3⟩, h4⟩ := h
  cases e : w.data.toList with
  | nil => rw [e] at h1; simp at h1
  | cons c l =>
    rw [e] at h1 h2 h3 h4
    simp only [List.all_cons, Bool.and_eq_true] at h4
    refine ⟨c, l, rfl, h3, h4.1, h4.2, ?_, ?_⟩
    · rw [← toList_len, e]; exact h2
    · rw [← toList_len, e]; rfl
theorem drop_app {s : ByteArray} {k : Nat} {w rest : List UInt8} (h : s.data.toList.drop k = w ++ rest) : s.data.toList.drop (k + w.length) = rest := by
  rw [← List.drop_drop, h, List.drop_left]
theorem ext_app {s : ByteArray} {k : Nat} {w : ByteArray} {rest : List UInt8} (h : s.data.toList.drop k = w.data.toList ++ rest) : s.extract k (k + w.size) = w := by
  apply ba_ext
  rw [ext_list, h, ← toList_len, List.take_left]
theorem step_cap {s : ByteArray} {k m : Nat} (hk : k < s.size) (h32 : s[k] ≠ 32) (hc : capB s[k].toNat = true) (h8 : m + 1 ≤ 8) (hw : wlen s (k + 1) = m) : tkStep s k hk = .tok 1 m := by
  unfold tkStep
  rw [if_neg h32, if_pos hc, hw, if_neg (by omega)]
theorem cap_not_small {n : Int} (h : smallB n = true) : capB n = false := by
  unfold smallB at h; unfold capB
  rw [decide_eq_true_eq] at h
  exact decide_eq_false (by omega)
theorem step_small {s : ByteArray} {k m : Nat} (hk : k < s.size) (h32 : s[k] ≠ 32) (hc : smallB s[k].toNat = true) (h8 : m + 1 ≤ 8) (hw : wlen s (k + 1) = m) : tkStep s k hk = .tok 2 m := by
  unfold tkStep
  rw [if_neg h32, if_neg (by rw [cap_not_small hc]; decide), if_pos hc, hw, if_neg (by omega)]
theorem run_cap {s : ByteArray} {k : Nat} {L : List Tk} {w : ByteArray} {rest : List UInt8} (h : s.data.toList.drop k = w.data.toList ++ rest) (hn : named capB w.data.toList = true) (hr : Stops rest) :
    tkRun s k L = tkRun s (k + w.size) (L ++ [⟨1, w, k + 1⟩]) ∧ s.data.toList.drop (k + w.size) = rest := by
  obtain ⟨c, l, e, hc, hw, hl, h8, hs⟩ := named_cons hn
  have h' := h
  rw [e, List.cons_append] at h'
  obtain ⟨hk, hck, hd⟩ := drop_at h'
  have hwl : wlen s (k + 1) = l.length := by
    unfold wlen
    rw [hd, takeWhile_word l rest hl hr]
  have hst : tkStep s k hk = .tok 1 l.length := by
    have e32 : s[k] ≠ 32 := by
      rintro e32
      rw [← hck, e32] at hw
      exact absurd hw (by decide)
    subst hck
    exact step_cap hk e32 hc (by omega) hwl
  refine ⟨?_, ?_⟩
  · rw [tkRun_tok hk hst, show k + l.length + 1 = k + w.size by omega]
    have : s.extract k (k + (l.length + 1)) = w := by rw [show l.length + 1 = w.size by omega]; exact ext_app h
    rw [this]
  · have := drop_app h
    rwa [toList_len] at this
theorem run_small {s : ByteArray} {k : Nat} {L : List Tk} {w : ByteArray} {rest : List UInt8} (h : s.data.toList.drop k = w.data.toList ++ rest) (hn : named smallB w.data.toList = true) (hr : Stops rest) :
    tkRun s k L = tkRun s (k + w.size) (L ++ [⟨2, w, k + 1⟩]) ∧ s.data.toList.drop (k + w.size) = rest := by
  obtain ⟨c, l, e, hc, hw, hl, h8, hs⟩ := named_cons hn
  have h' := h
  rw [e, List.cons_append] at h'
  obtain ⟨hk, hck, hd⟩ := drop_at h'
  have hwl : wlen s (k + 1) = l.length := by
    unfold wlen
    rw [hd, takeWhile_word l rest hl hr]
  have hst : tkStep s k hk = .tok 2 l.length := by
    have e32 : s[k] ≠ 32 := by
      rintro e32
      rw [← hck, e32] at hw
      exact absurd hw (by decide)
    subst hck
    exact step_small hk e32 hc (by omega) hwl
  refine ⟨?_, ?_⟩
  · rw [tkRun_tok hk hst, show k + l.length + 1 = k + w.size by omega]
    have : s.extract k (k + (l.length + 1)) = w := by rw [show l.length + 1 = w.size by omega]; exact ext_app h
    rw [this]
  · have := drop_app h
    rwa [toList_len] at this
theorem run_sp {s : ByteArray} {k : Nat} {L : List Tk} {rest : List UInt8} (h : s.data.toList.drop k = 32 :: rest) : tkRun s k L = tkRun s (k + 1) L ∧ s.data.toList.drop (k + 1) = rest := by
  obtain ⟨hk, hck, hd⟩ := drop_at h
  exact ⟨tkRun_skip hk (by unfold tkStep; rw [if_pos hck]), hd⟩
theorem run_dot {s : ByteArray} {k : Nat} {L : List Tk} {rest : List UInt8} (h : s.data.toList.drop k = 46 :: rest) : tkRun s k L = tkRun s (k + 1) (L ++ [⟨3, dot, k + 1⟩]) ∧ s.data.toList.drop (k + 1) = rest := by
  obtain ⟨hk, hck, hd⟩ := drop_at h
  exact ⟨by rw [tkRun_tok hk (st_46 hk hck), text1 hk hck]; rfl, hd⟩
theorem run_amp {s : ByteArray} {k : Nat} {L : List Tk} {rest : List UInt8} (h : s.data.toList.drop k = 38 :: rest) : tkRun s k L = tkRun s (k + 1) (L ++ [⟨5, amp, k + 1⟩]) ∧ s.data.toList.drop (k + 1) = rest := by
  obtain ⟨hk, hck, hd⟩ := drop_at h
  exact ⟨by rw [tkRun_tok hk (st_38 hk hck), text1 hk hck]; rfl, hd⟩
theorem run_arrow {s : ByteArray} {k : Nat} {L : List Tk} {rest : List UInt8} (h : s.data.toList.drop k = 60 :: 45 :: rest) : tkRun s k L = tkRun s (k + 2) (L ++ [⟨4, arrow, k + 1⟩]) ∧ s.data.toList.drop (k + 2) = rest := by
  obtain ⟨hk, hck, hd⟩ := drop_at h
  obtain ⟨hk2, hck2, hd2⟩ := drop_at hd
  exact ⟨by rw [tkRun_tok hk (st_60 hk hck hk2 hck2), text2 hk hck hk2 hck2]; rfl, hd2⟩
theorem run_done {s : ByteArray} {k : Nat} {L : List Tk} (h : s.data.toList.drop k = []) : tkRun s k L = .ok L := by
  refine tkRun_end ?_
  intro hk
  rw [drop_cons hk] at h; cases h
theorem stops_nil : Stops [] := fun c h => by cases h
theorem stops_sp (l : List UInt8) : Stops (32 :: l) := fun c h => by injection h with h; subst h; decide
theorem stops_dot (l : List UInt8) : Stops (46 :: l) := fun c h => by injection h with h; subst h; decide
/-- A role's text. -/
def textR (r : Rl) : ByteArray := r.owner ++ ⟨#[46]⟩ ++ r.name
theorem textR_list (r : Rl) : (textR r).data.toList = r.owner.data.toList ++ (46 :: r.name.data.toList) := by
  unfold textR
  rw [ByteArray.data_append, ByteArray.data_append, Array.toList_append, Array.toList_append, List.append_assoc]
  rfl
theorem textR_size (r : Rl) : (textR r).size = r.owner.size + 1 + r.name.size := by
  unfold textR
  rw [ByteArray.size_append, ByteArray.size_append]; rfl
def roleTk (r : Rl) (k : Nat) : List Tk := [⟨1, r.owner, k + 1⟩, ⟨3, dot, k + r.owner.size + 1⟩, ⟨2, r.name, k + r.owner.size + 1 + 1⟩]
theorem run_role {s : ByteArray} {k : Nat} {L : List Tk} {r : Rl} {rest : List UInt8} (h : s.data.toList.drop k = (textR r).data.toList ++ rest) (hn : r.ok = true) (hr : Stops rest) :
    tkRun s k L = tkRun s (k + (textR r).size) (L ++ roleTk r k) ∧ s.data.toList.drop (k + (textR r).size) = rest := by
  unfold Rl.ok at hn
  rw [Bool.and_eq_true] at hn
  rw [textR_list, List.append_assoc, List.cons_append] at h
  obtain ⟨a1, b1⟩ := run_cap (L := L) h hn.1 (stops_dot _)
  obtain ⟨a2, b2⟩ := run_dot (L := L ++ [⟨1, r.owner, k + 1⟩]) b1
  obtain ⟨a3, b3⟩ := run_small (L := L ++ [⟨1, r.owner, k + 1⟩] ++ [⟨3, dot, k + r.owner.size + 1⟩]) b2 hn.2 hr
  rw [textR_size]
  refine ⟨?_, ?_⟩
  · rw [a1, a2, a3, show k + (r.owner.size + 1 + r.name.size) = k + r.owner.size + 1 + r.name.size by omega]
    unfold roleTk
    simp
  · rw [show k + (r.owner.size + 1 + r.name.size) = k + r.owner.size + 1 + r.name.size by omega]; exact b3
theorem word_ne35 {c : UInt8} (h : wordB c.toNat = true) : c ≠ 35 := by
  rintro rfl; exact absurd h (by decide)
theorem named_ne35 {f : Int → Bool} {w : ByteArray} (h : named f w.data.toList = true) : ∀ c ∈ w.data.toList, c ≠ 35 := by
  obtain ⟨c, l, e, _, hw, hl, _⟩ := named_cons h
  rw [e]
  intro x hx
  rcases List.mem_cons.1 hx with rfl | hx
  · exact word_ne35 hw
  · exact word_ne35 (List.all_eq_true.1 hl x hx)
theorem bare_no35 {s : ByteArray} (h : ∀ c ∈ s.data.toList, c ≠ 35) : bare s = s := bare_all (takeWhile_all h)
theorem role_ne35 {r : Rl} (h : r.ok = true) : ∀ c ∈ (textR r).data.toList, c ≠ 35 := by
  unfold Rl.ok at h
  rw [Bool.and_eq_true] at h
  rw [textR_list]
  intro c hc
  rcases List.mem_append.1 hc with hc | hc
  · exact named_ne35 h.1 c hc
  · rcases List.mem_cons.1 hc with rfl | hc
    · decide
    · exact named_ne35 h.2 c hc
theorem role_size {r : Rl} (h : r.ok = true) : (textR r).size ≤ 17 := by
  unfold Rl.ok at h
  rw [Bool.and_eq_true] at h
  obtain ⟨_, _, _, _, _, _, h1, _⟩ := named_cons h.1
  obtain ⟨_, _, _, _, _, _, h2, _⟩ := named_cons h.2
  rw [textR_size]; omega
/-- The tokens of a role's text. -/
theorem role_toks {r : Rl} (h : r.ok = true) : ansOf (textR r) = .ok (roleTk r 0) := by
  have hs := role_size h
  unfold ansOf
  rw [if_neg (by omega), bare_no35 (role_ne35 h)]
  obtain ⟨a, b⟩ := run_role (s := textR r) (k := 0) (L := []) (rest := []) (by simp) h stops_nil
  rw [a]
  exact run_done b
end Go.Proofs.YtkmpbkgmdfeicaaGreat.SynW
/- Two rows of the same tokens are alike. -/
namespace Go.Proofs.YtkmpbkgmdfeicaaGreat.Scan5
set_option linter.unusedVariables false
set_option linter.unusedSimpArgs false
open Go.RowKit Go.Proofs.YtkmpbkgmdfeicaaGreat.Plain Go.Proofs.YtkmpbkgmdfeicaaGreat.Leaf Go.Proofs.YtkmpbkgmdfeicaaGreat.Scan1 Go.Proofs.YtkmpbkgmdfeicaaGreat.Scan2 Go.Proofs.YtkmpbkgmdfeicaaGreat.Scan3
/-- A slice value that reads as tokens. -/
def TkRow (w : World) (A : Option Addr) (L : List Tk) : Prop :=
  0 < L.length → ∃ g, A = some ⟨g, 0, none⟩ ∧ g < w.heap.size ∧ ∀ j, (h : j < L.length) → w.cell? ⟨g, j * 3, none⟩ = some (.int .i64 L[j].kind) ∧ w.cell? ⟨g, j * 3 + 1, none⟩ = some (.string L[j].text) ∧ w.cell? ⟨g, j * 3 + 2, none⟩ = some (.int .i64 L[j].col)
theorem tkCells_at (L : List Tk) (j : Nat) (h : j < L.length) : (tkCells L)[j * 3]? = some (.int .i64 L[j].kind) ∧ (tkCells L)[j * 3 + 1]? = some (.string L[j].text) ∧ (tkCells L)[j * 3 + 2]? = some (.int .i64 L[j].col) := by
  induction L generalizing j with
  | nil => simp at h
  | cons t L ih =>
    have e : tkCells (t :: L) = t.cells ++ tkCells L := by unfold tkCells; simp
    have hl : t.cells.length = 3 := rfl
    rw [e]
    cases j with
    | zero =>
      refine ⟨?_, ?_, ?_⟩ <;> rw [List.getElem?_append_left (by rw [hl]; omega)] <;> rfl
    | succ j =>
      obtain ⟨a, b, c⟩ := ih j (by simpa using h)
      refine ⟨?_, ?_, ?_⟩ <;> rw [List.getElem?_append_right (by rw [hl]; omega), hl]
      · rw [show (j + 1) * 3 - 3 = j * 3 from by omega]; exact a
      · rw [show (j + 1) * 3 + 1 - 3 = j * 3 + 1 from by omega]; exact b
      · rw [show (j + 1) * 3 + 2 - 3 = j * 3 + 2 from by omega]; exact c
theorem TkRow.of_own {w : World} {B : Nat} {e : TypeId} {v : Value} {L : List Tk} (h : w.ownsRow B e 3 v L.length (tkCells L)) : ∃ A cap, v = .slice A L.length cap ∧ L.length ≤ cap ∧ TkRow w A L := by
  rcases h.2 with ⟨rfl, h0⟩ | ⟨g, cap, cur, rfl, hB, hh, hc, hm, hs, ht⟩
  · exact ⟨none, 0, by rw [h0], by omega, fun hp => by omega⟩
  · refine ⟨_, _, rfl, hc, fun hp => ⟨g, rfl, ?_, fun j hj => ?_⟩⟩
    · exact (h.lt g rfl).2
    · obtain ⟨a, b, c⟩ := tkCells_at L j hj
      rw [← ht] at a b c
      rw [List.getElem?_take_of_lt (by omega)] at a b c
      refine ⟨?_, ?_, ?_⟩ <;> rw [Lib.cell_of_heap hh]
      · rw [← Array.getElem?_toList]; exact a
      · rw [← Array.getElem?_toList]; exact b
      · rw [← Array.getElem?_toList]; exact c
theorem TkRow.below {w w' : World} {A : Option Addr} {L : List Tk} (h : TkRow w A L) (hb : Below w.heap.size w w') : TkRow w' A L := fun hp => by
  obtain ⟨g, hA, hg, hc⟩ := h hp
  refine ⟨g, hA, Nat.lt_of_lt_of_le hg hb.size, fun j hj => ?_⟩
  obtain ⟨a, b, c⟩ := hc j hj
  exact ⟨(hb.cell (p := ⟨g, j * 3, none⟩) hg).trans a, (hb.cell (p := ⟨g, j * 3 + 1, none⟩) hg).trans b, (hb.cell (p := ⟨g, j * 3 + 2, none⟩) hg).trans c⟩
end Go.Proofs.YtkmpbkgmdfeicaaGreat.Scan5
/- Worlds that are another one after some draws, with some blocks laid behind it; what such a world holds. -/
namespace Go.Proofs.YtkmpbkgmdfeicaaGreat.Grown
set_option linter.unusedVariables false
set_option linter.unusedSimpArgs false
open Go.RowKit Go.Sort
/-- w' is w after some draws, with some blocks laid behind it. -/
def Grew (w w' : World) : Prop := ∃ p : GrownBy, w' = grow (w.drewN p.n) p.os
theorem Grew.refl (w : World) : Grew w w := ⟨⟨0, #[]⟩, by rw [grow_empty]; rfl⟩
theorem Grew.mk (w : World) (n : Nat) (os : Array Obj) : Grew w (grow (w.drewN n) os) := ⟨⟨n, os⟩, rfl⟩
theorem Grew.drewN {w w' : World} (h : Grew w w') (n : Nat) : Grew w (w'.drewN n) := by
  obtain ⟨⟨m, os⟩, rfl⟩ := h
  exact ⟨⟨m + n, os⟩, by show grow ((w.drewN m).drewN n) os = _; rw [World.drewN_drewN]⟩
theorem Grew.drew {w w' : World} (h : Grew w w') : Grew w w'.drew := h.drewN 1
theorem Grew.alloc {w w' : World} (h : Grew w w') (o : Obj) : Grew w (w'.alloc o) := by
  obtain ⟨⟨m, os⟩, rfl⟩ := h
  exact ⟨⟨m, os ++ #[o]⟩, by rw [alloc_eq_grow, grow_grow]⟩
theorem Grew.alloc_drew (w : World) (o : Obj) : Grew w.drew (w.alloc o).drew := (Grew.refl w.drew).alloc o
theorem Grew.trans {a b c : World} (h : Grew a b) (h2 : Grew b c) : Grew a c := by
  obtain ⟨⟨m, os⟩, rfl⟩ := h
  obtain ⟨⟨n, os2⟩, rfl⟩ := h2
  exact ⟨⟨m + n, os ++ os2⟩, by show grow (grow ((a.drewN m).drewN n) os) os2 = _; rw [grow_grow, World.drewN_drewN]⟩
theorem Grew.size {w w' : World} (h : Grew w w') : w.heap.size ≤ w'.heap.size := by
  obtain ⟨⟨m, os⟩, rfl⟩ := h
  simp
theorem Grew.cell {w w' : World} (h : Grew w w') {a : Addr} (ha : a.block < w.heap.size) : w'.cell? a = w.cell? a := by
  obtain ⟨⟨m, os⟩, rfl⟩ := h
  rw [cell?_grow _ _ _ (by exact ha)]; rfl
theorem Grew.frozen {w w' : World} (h : Grew w w') {a : Addr} (ha : a.block < w.heap.size) : w'.frozen? a = w.frozen? a := by
  obtain ⟨⟨m, os⟩, rfl⟩ := h
  rw [frozen?_grow _ _ _ (by exact ha)]; rfl
theorem Grew.cells {w w' : World} (h : Grew w w') : (∀ b o, b < w.heap.size → w'.cell? ⟨b, o, none⟩ = w.cell? ⟨b, o, none⟩) ∧ (∀ b o, b < w.heap.size → w'.frozen? ⟨b, o, none⟩ = w.frozen? ⟨b, o, none⟩) :=
  ⟨fun b o hb => h.cell (a := ⟨b, o, none⟩) hb, fun b o hb => h.frozen (a := ⟨b, o, none⟩) hb⟩
theorem Grew.use {w w' : World} (h : Grew w w') : (∀ b o, b < w.heap.size → w'.cell? ⟨b, o, none⟩ = w.cell? ⟨b, o, none⟩) ∧ (∀ b o, b < w.heap.size → w'.frozen? ⟨b, o, none⟩ = w.frozen? ⟨b, o, none⟩) ∧ w.heap.size ≤ w'.heap.size := ⟨h.cells.1, h.cells.2, h.size⟩
theorem Grew.below {w w' : World} (h : Grew w w') : Below w.heap.size w w' := by
  obtain ⟨⟨m, os⟩, rfl⟩ := h
  exact ⟨rfl, rfl, rfl, by simp, fun k hk => by rw [heap_grow_old _ _ (by exact hk)]; rfl⟩
theorem Grew.old {w w' : World} (h : Grew w w') {k : Nat} (hk : k < w.heap.size) : w'.heap[k]? = w.heap[k]? := h.below.block k hk
end Go.Proofs.YtkmpbkgmdfeicaaGreat.Grown
/- What a world with blocks laid behind it holds; stores into it. -/
namespace Go.Proofs.YtkmpbkgmdfeicaaGreat.Grown
set_option linter.unusedVariables false
set_option linter.unusedSimpArgs false
open Go.RowKit Go.Sort
/-- A store into a block that was there, in a world with blocks laid behind it. -/
theorem grow_set (n : Nat) (os : Array Obj) : ∀ (X : World) (b i : Nat) (v : Value), b < X.heap.size → (grow (X.drewN n) os).setCell ⟨b, i, none⟩ v = grow ((X.setCell ⟨b, i, none⟩ v).drewN n) os := fun X b i v hb => by
  rw [setCell_grow _ _ _ _ _ (by exact hb)]; rfl
theorem grow_cell (n : Nat) (os : Array Obj) : ∀ (X : World) (b i : Nat), b < X.heap.size → (grow (X.drewN n) os).cell? ⟨b, i, none⟩ = X.cell? ⟨b, i, none⟩ := fun X b i hb => by
  rw [cell?_grow _ _ _ (by exact hb)]; rfl
theorem grow_frozen (n : Nat) (os : Array Obj) : ∀ (X : World) (b i : Nat), b < X.heap.size → (grow (X.drewN n) os).frozen? ⟨b, i, none⟩ = X.frozen? ⟨b, i, none⟩ := fun X b i hb => by
  rw [frozen?_grow _ _ _ (by exact hb)]; rfl
theorem grow_size (n : Nat) (os : Array Obj) : ∀ X : World, (grow (X.drewN n) os).heap.size = X.heap.size + os.size := fun _ => size_grow _ _
theorem grewCall {P : Program} {f : FuncId} {args : Array Value} {w : World} {n : Nat} {os : Array Obj} {v : Value} (h : Calls P f args (grow (w.drewN n) os) fun e w' => e = .returned v ∧ Grew (grow (w.drewN n) os) w') : Calls P f args (grow (w.drewN n) os) fun e w'' => e = .returned v ∧ ∃ p : GrownBy, w'' = grow (w.drewN p.n) p.os :=
  h.mono fun _ _ ⟨he, hg⟩ => ⟨he, (Grew.mk w n os).trans hg⟩
end Go.Proofs.YtkmpbkgmdfeicaaGreat.Grown
/- How many tokens are of the kinds of a shape; the place behind the last token. -/
namespace Go.Proofs.YtkmpbkgmdfeicaaGreat.SynA
set_option linter.unusedVariables false
set_option linter.unusedSimpArgs false
open Go.RowKit Go.Sort Go.Proofs.YtkmpbkgmdfeicaaGreat.Plain Go.Proofs.YtkmpbkgmdfeicaaGreat.SynP Go.Proofs.YtkmpbkgmdfeicaaGreat.SynQ Go.Proofs.YtkmpbkgmdfeicaaGreat.Grown
set_option linter.unusedVariables false
/-- A slice value that reads as tokens, wherever it begins. -/
def TkAt (w : World) (A : Option Addr) (L : List Tk) : Prop :=
  0 < L.length → ∃ g o, A = some ⟨g, o, none⟩ ∧ g < w.heap.size ∧ ∀ j, (h : j < L.length) → w.cell? ⟨g, o + j * 3, none⟩ = some (.int .i64 L[j].kind) ∧ w.cell? ⟨g, o + j * 3 + 1, none⟩ = some (.string L[j].text) ∧ w.cell? ⟨g, o + j * 3 + 2, none⟩ = some (.int .i64 L[j].col)
/-- A slice value that reads as numbers. -/
def IAt (w : World) (A : Option Addr) (l : List Int) : Prop :=
  0 < l.length → ∃ g o, A = some ⟨g, o, none⟩ ∧ g < w.heap.size ∧ ∀ k, (h : k < l.length) → w.cell? ⟨g, o + k, none⟩ = some (.int .i64 l[k])
theorem TkAt.below {w w' : World} {A : Option Addr} {L : List Tk} (h : TkAt w A L) (hb : Below w.heap.size w w') : TkAt w' A L := fun hp => by
  obtain ⟨g, o, hA, hg, hc⟩ := h hp
  refine ⟨g, o, hA, Nat.lt_of_lt_of_le hg hb.size, fun j hj => ?_⟩
  obtain ⟨a, b, c⟩ := hc j hj
  exact ⟨(hb.cell (p := ⟨g, o + j * 3, none⟩) hg).trans a, (hb.cell (p := ⟨g, o + j * 3 + 1, none⟩) hg).trans b, (hb.cell (p := ⟨g, o + j * 3 + 2, none⟩) hg).trans c⟩
theorem IAt.below {w w' : World} {A : Option Addr} {l : List Int} (h : IAt w A l) (hb : Below w.heap.size w w') : IAt w' A l := fun hp => by
  obtain ⟨g, o, hA, hg, hc⟩ := h hp
  exact ⟨g, o, hA, Nat.lt_of_lt_of_le hg hb.size, fun k hk => (hb.cell (p := ⟨g, o + k, none⟩) hg).trans (hc k hk)⟩
theorem TkAt.of_row {w : World} {A : Option Addr} {L : List Tk} (h : Scan5.TkRow w A L) : TkAt w A L := fun hp => by
  obtain ⟨g, hA, hg, hc⟩ := h hp
  exact ⟨g, 0, hA, hg, fun j hj => by simpa using hc j hj⟩
set_option maxRecDepth 100000 in
theorem agree (A : Option Addr) (ca : Nat) (L : List Tk) (S : Option Addr) (cs : Nat) (l : List Int) (w : World) (hL : L.length ≤ 100000) (hl : l.length ≤ 1000) (hA : TkAt w A L) (hS : IAt w S l) :
    Calls Tryz.prog 216 #[.slice A L.length ca, .slice S l.length cs] w fun e w' => e = .returned (.int .i64 (agreeN (kindsOf L) l)) ∧ ∃ n, w' = w.drewN n := by
  go_enter Tryz.func216, Tryz.ntmps216
  go_wp2
  go_loopw [5] (fun i wr => ∃ k : Nat, k ≤ L.length ∧ k ≤ l.length ∧ i = .int .i64 k ∧ Hid (agreeN (kindsOf L) l = agreeN ((kindsOf L).drop k) (l.drop k) + k) ∧ ∃ n, wr = w.drewN n) (fun i _ => L.length - (intOf i).toNat)
  case atStart => exact ⟨0, by omega, by omega, rfl, Lib.hid (by simp), 0, rfl⟩
  case round =>
    obtain ⟨k, hk, hk2, rfl, hrun, n, rfl⟩ := hrel
    by_cases hlt : k < L.length
    · have d1 : decide ((k : Int) < L.length) = true := by simp; omega
      by_cases hlt2 : k < l.length
      · have d2 : decide ((k : Int) < l.length) = true := by simp; omega
        obtain ⟨g1, o1, rfl, _, h1⟩ := hA (by omega)
        obtain ⟨g2, o2, rfl, _, h2⟩ := hS (by omega)
        have a1 := (h1 k hlt).1
        have a2 := h2 k hlt2
        have hkl : k < (kindsOf L).length := by rw [kinds_len]; exact hlt
        have hke : (kindsOf L)[k] = L[k].kind := List.getElem_map ..
        clear h1 h2 hA hS
        have p1 : (0 : Int) ≤ k := by omega
        by_cases he : L[k].kind = l[k]
        · have hnext : Hid (agreeN (kindsOf L) l = agreeN ((kindsOf L).drop (k + 1)) (l.drop (k + 1)) + (k + 1)) := Lib.hid (by rw [hrun.out, agree_step hkl hlt2 (hke.trans he)]; omega)
          rw [he] at a1
          clear hrun hke he hkl
          go_wp2_with fail
          try go_quiet (fail)
          go_wp2_with fail
          go_roundw
          case rel => exact ⟨k + 1, by omega, by omega, by go_num, hnext, _, rfl⟩
          case measure => simp [intOf]; omega
        · have hfin : Hid (agreeN (kindsOf L) l = k) := Lib.hid (by rw [hrun.out, agree_ne hkl hlt2 (by rw [hke]; exact he)]; omega)
          have d3 : (L[k].kind == l[k]) = false := by simpa using he
          clear hrun hke he hkl
          go_wp2_with fail
          try go_quiet (fail)
          go_wp2_with fail
          go_ret
          exact ⟨ret_int (by rw [hfin.out]), _, World.drewN_drewN _ _ _⟩
      · have hfin : Hid (agreeN (kindsOf L) l = k) := Lib.hid (by rw [hrun.out, agree_end2 (by omega)]; omega)
        have d2 : decide ((k : Int) < l.length) = false := by simp; omega
        clear hrun hA hS
        go_wp2_with fail
        try go_quiet (fail)
        go_wp2_with fail
        go_ret
        exact ⟨ret_int (by rw [hfin.out]), _, World.drewN_drewN _ _ _⟩
    · have hfin : Hid (agreeN (kindsOf L) l = k) := Lib.hid (by rw [hrun.out, agree_end1 (by rw [kinds_len]; omega)]; omega)
      have d1 : decide ((k : Int) < L.length) = false := by simp; omega
      clear hrun hA hS
      go_wp2_with fail
      try go_quiet (fail)
      go_wp2_with fail
      go_ret
      exact ⟨ret_int (by rw [hfin.out]), _, World.drewN_drewN _ _ _⟩
set_option maxRecDepth 100000 in
theorem fits (A : Option Addr) (ca : Nat) (L : List Tk) (S : Option Addr) (cs : Nat) (l : List Int) (w : World) (hL : L.length ≤ 100000) (hl : l.length ≤ 1000) (hA : TkAt w A L) (hS : IAt w S l) :
    Calls Tryz.prog 165 #[.slice A L.length ca, .slice S l.length cs] w fun e w' => e = .returned (.int .i64 (agreeN (kindsOf L) l)) ∧ ∃ n, w' = w.drewN n := by
  go_enter Tryz.func165, Tryz.ntmps165
  go_wp2
  go_loopw [5] (fun i wr => ∃ k : Nat, k ≤ L.length ∧ k ≤ l.length ∧ i = .int .i64 k ∧ Hid (agreeN (kindsOf L) l = agreeN ((kindsOf L).drop k) (l.drop k) + k) ∧ ∃ n, wr = w.drewN n) (fun i _ => L.length - (intOf i).toNat)
  case atStart => exact ⟨0, by omega, by omega, rfl, Lib.hid (by simp), 0, rfl⟩
  case round =>
    obtain ⟨k, hk, hk2, rfl, hrun, n, rfl⟩ := hrel
    by_cases hlt : k < L.length
    · have d1 : decide ((k : Int) < L.length) = true := by simp; omega
      by_cases hlt2 : k < l.length
      · have d2 : decide ((k : Int) < l.length) = true := by simp; omega
        obtain ⟨g1, o1, rfl, _, h1⟩ := hA (by omega)
        obtain ⟨g2, o2, rfl, _, h2⟩ := hS (by omega)
        have a1 := (h1 k hlt).1
        have a2 := h2 k hlt2
        have hkl : k < (kindsOf L).length := by rw [kinds_len]; exact hlt
        have hke : (kindsOf L)[k] = L[k].kind := List.getElem_map ..
        clear h1 h2 hA hS
        have p1 : (0 : Int) ≤ k := by omega
        by_cases he : L[k].kind = l[k]
        · have hnext : Hid (agreeN (kindsOf L) l = agreeN ((kindsOf L).drop (k + 1)) (l.drop (k + 1)) + (k + 1)) := Lib.hid (by rw [hrun.out, agree_step hkl hlt2 (hke.trans he)]; omega)
          rw [he] at a1
          clear hrun hke he hkl
          go_wp2_with fail
          try go_quiet (fail)
          go_wp2_with fail
          go_roundw
          case rel => exact ⟨k + 1, by omega, by omega, by go_num, hnext, _, rfl⟩
          case measure => simp [intOf]; omega
        · have hfin : Hid (agreeN (kindsOf L) l = k) := Lib.hid (by rw [hrun.out, agree_ne hkl hlt2 (by rw [hke]; exact he)]; omega)
          have d3 : (L[k].kind == l[k]) = false := by simpa using he
          clear hrun hke he hkl
          go_wp2_with fail
          try go_quiet (fail)
          go_wp2_with fail
          go_ret
          exact ⟨ret_int (by rw [hfin.out]), _, World.drewN_drewN _ _ _⟩
      · have hfin : Hid (agreeN (kindsOf L) l = k) := Lib.hid (by rw [hrun.out, agree_end2 (by omega)]; omega)
        have d2 : decide ((k : Int) < l.length) = false := by simp; omega
        clear hrun hA hS
        go_wp2_with fail
        try go_quiet (fail)
        go_wp2_with fail
        go_ret
        exact ⟨ret_int (by rw [hfin.out]), _, World.drewN_drewN _ _ _⟩
    · have hfin : Hid (agreeN (kindsOf L) l = k) := Lib.hid (by rw [hrun.out, agree_end1 (by rw [kinds_len]; omega)]; omega)
      have d1 : decide ((k : Int) < L.length) = false := by simp; omega
      clear hrun hA hS
      go_wp2_with fail
      try go_quiet (fail)
      go_wp2_with fail
      go_ret
      exact ⟨ret_int (by rw [hfin.out]), _, World.drewN_drewN _ _ _⟩
theorem behindOf_nil : behindOf [] = 1 := rfl
theorem behindOf_last {L : List Tk} (h : 0 < L.length) : behindOf L = L[L.length - 1].col + L[L.length - 1].text.size := by
  unfold behindOf
  rw [List.getLast?_eq_getElem?, List.getElem?_eq_getElem (by omega)]
/-- The columns and sizes of tokens are small. -/
def SmallTk (L : List Tk) : Prop := ∀ t ∈ L, t.col ≤ 1000000 ∧ t.text.size ≤ 1000000
theorem behind (A : Option Addr) (ca : Nat) (L : List Tk) (w : World) (hL : L.length ≤ 100000) (hA : TkAt w A L) (hs : SmallTk L) : Calls Tryz.prog 218 #[.slice A L.length ca] w fun e w' => e = .returned (.int .i64 (behindOf L)) ∧ Below w.heap.size w w' := by
  by_cases h0 : 0 < L.length
  · obtain ⟨g, o, rfl, hg, hc⟩ := hA h0
    have hb := Lib.hid (behindOf_last h0)
    obtain ⟨s1, s2⟩ := hs L[L.length - 1] (List.getElem_mem _)
    obtain ⟨a, b, c⟩ := hc (L.length - 1) (by omega)
    obtain ⟨m, hm⟩ : ∃ m, L.length = m + 1 := ⟨L.length - 1, by omega⟩
    clear hc hA hs
    generalize L[L.length - 1] = t at *
    have e1 : (L.length : Int) - 1 = m := by omega
    rw [show L.length - 1 = m by omega] at a b c
    have w1 : ((L.length : Int) == 0) = false := by
      rw [beq_eq_false_iff_ne]; omega
    have w2 : decide ((m : Int) < L.length) = true := decide_eq_true (by omega)
    have w3 : m < L.length := by omega
    have HM := Lib.hid hm
    clear hm
    go_enter Tryz.func218, Tryz.ntmps218
    go_wp2_with fail
    go_ret
    exact ⟨ret_int (by rw [hb.out]; simp), (Below.refl _ _).alloc (Nat.le_refl _) _⟩
  · have : L = [] := List.eq_nil_of_length_eq_zero (by omega)
    subst this
    go_enter Tryz.func218, Tryz.ntmps218
    go_wp2_with fail
    go_ret
    exact ⟨rfl, Below.refl _ _⟩
end Go.Proofs.YtkmpbkgmdfeicaaGreat.SynA
/- append of a slice that reads as cells, onto a row of the call's own; a copy of tokens. -/
namespace Go.Proofs.YtkmpbkgmdfeicaaGreat.SynC
set_option linter.unusedVariables false
set_option linter.unusedSimpArgs false
open Go.RowKit Go.Sort Go.Proofs.YtkmpbkgmdfeicaaGreat.Plain Go.Proofs.YtkmpbkgmdfeicaaGreat.SynP Go.Proofs.YtkmpbkgmdfeicaaGreat.SynQ Go.Proofs.YtkmpbkgmdfeicaaGreat.Grown Go.Proofs.YtkmpbkgmdfeicaaGreat.SynA Go.Proofs.YtkmpbkgmdfeicaaGreat.Scan3
set_option linter.unusedVariables false
section
variable {P : Program} (w : World)
theorem run_append_from (base : Nat) (t ty e : TypeId) (i : TypeInfo) (z : Value) (size bytes : Nat) (ht : P.underlying t = some (.slice e)) (hi : P.info? e = some i) (hz : i.zero = some z)
    (hsize : i.size = size) (hby : i.bytes = bytes) (hzs : z.cells.size = size) (hsz : 0 < size) (v : Value) (n : Nat) (xs : List Value) (hown : w.ownsRow base e size v n xs)
    (A : Option Addr) (m c : Nat) (news : List Value) (hlen : news.length = m * size) (h0 : A = none → m = 0) (hA : ∀ ad, A = some ad → ∀ j u, news[j]? = some u → w.cell? (ad.add j) = some u) (h1 : ∀ u ∈ news, u.oneCell' = true)
    (h63 : n + m ≤ maxLen) (hbytes : (n + m) * bytes ≤ 140737488355328) (hbase : base ≤ w.heap.size) :
    ∃ v' w', (Builtin.append_ #[t, t] ty #[v, .slice A m c]).run P w = .ok v' w' ∧ w'.ownsRow base e size v' (n + m) (xs ++ news) ∧ w.grownBy w' v.ownBlock := by
  cases A with
  | none =>
    have hm := h0 rfl
    subst hm
    have hn : news = [] := List.eq_nil_of_length_eq_zero (by omega)
    subst hn
    refine ⟨v, w, ?_, by simpa using hown, World.grownBy.refl w _⟩
    rcases hown.2 with ⟨rfl, rfl⟩ | ⟨g, cap, cur, rfl, _, _, hnc, _⟩
    · simp [Builtin.append_, run_underlying ht, sizeOf, typeInfo, hi, Builtin.lenOf, Builtin.firstCells]
    · simp [Builtin.append_, run_underlying ht, sizeOf, typeInfo, hi, Builtin.lenOf, Builtin.firstCells, hnc, storeCells]
  | some ad =>
    obtain ⟨v', w', hrun, h2, h3, _⟩ := run_append_own (P := P) w base t ty e i z size bytes ht hi hz hsize hby hzs hsz v n xs hown ad m c news hlen (hA ad rfl) h1 h63 hbytes hbase
    exact ⟨v', w', hrun, h2, h3⟩
theorem wpList_append_from {ops : Array Oper} {rest : List Oper} {o : Oper} {a : Act} {Q : Exit → Act → World → Prop} (hgd : o.guard = none) (s x : Operand) (t : TypeId)
    (ho : o.op = .call { callee := .builtin .append, args := #[s, x], argTypes := #[t, t] })
    (base : Nat) (e : TypeId) (i : TypeInfo) (z : Value) (size bytes : Nat) (ht : P.underlying t = some (.slice e)) (hi : P.info? e = some i) (hz : i.zero = some z)
    (hsize : i.size = size) (hby : i.bytes = bytes) (hzs : z.cells.size = size) (hsz : 0 < size) (v : Value) (n : Nat) (xs : List Value) (hs : a.eval s = v) (hown : w.ownsRow base e size v n xs)
    (A : Option Addr) (m c : Nat) (news : List Value) (hx : a.eval x = .slice A m c) (hlen : news.length = m * size) (h0 : A = none → m = 0) (hA : ∀ ad, A = some ad → ∀ j u, news[j]? = some u → w.cell? (ad.add j) = some u) (h1 : ∀ u ∈ news, u.oneCell' = true)
    (h63 : n + m ≤ maxLen) (hbytes : (n + m) * bytes ≤ 140737488355328) (hbase : base ≤ w.heap.size)
    (h : ∀ v' w', w'.ownsRow base e size v' (n + m) (xs ++ news) → w.grownBy w' v.ownBlock → wpList P ops Q rest (a.put o.dst v') w') : wpList P ops Q (o :: rest) a w := by
  obtain ⟨v', w', hrun, h2, h3⟩ := run_append_from (P := P) w base t o.type e i z size bytes ht hi hz hsize hby hzs hsz v n xs hown A m c news hlen h0 hA h1 h63 hbytes hbase
  exact Lib.wpList_append_run w hgd s x t t ho v _ hs hx v' w' hrun (h v' w' h2 h3)
end
theorem add_off (b off j : Nat) : ((⟨b, off, none⟩ : Addr).add j) = ⟨b, off + j, none⟩ := by
  unfold Addr.add
  split
  · rename_i h; subst h; rfl
  · simp
theorem own_empty (w : World) (t : TypeId) (size : Nat) : (w.alloc (.cells #[] t)).ownsRow w.heap.size t size (.slice (some ⟨w.heap.size, 0, none⟩) 0 0) 0 [] := by
  refine ⟨by simp, .inr ⟨w.heap.size, 0, #[], rfl, Nat.le_refl _, heap_alloc_new w _, by omega, ?_⟩⟩
  simp
theorem tkCells_cons (t : Tk) (L : List Tk) : tkCells (t :: L) = t.cells ++ tkCells L := by unfold tkCells; simp
theorem tkCells_len (L : List Tk) : (tkCells L).length = L.length * 3 := by
  induction L with
  | nil => rfl
  | cons t L ih => rw [tkCells_cons, List.length_append, ih, List.length_cons, Nat.succ_mul]; show 3 + _ = _; omega
theorem tkCells_one (L : List Tk) : ∀ u ∈ tkCells L, u.oneCell' = true := by
  intro u hu
  unfold tkCells at hu
  rw [List.mem_flatten] at hu
  obtain ⟨l, hl, hu⟩ := hu
  obtain ⟨t, _, rfl⟩ := List.mem_map.1 hl
  simp [Tk.cells] at hu
  rcases hu with rfl | rfl | rfl <;> rfl
/-- Cells of tokens, one by one. -/
theorem tkCells_get {w : World} {g o : Nat} : ∀ (L : List Tk), (∀ j, (h : j < L.length) → w.cell? ⟨g, o + j * 3, none⟩ = some (.int .i64 L[j].kind) ∧ w.cell? ⟨g, o + j * 3 + 1, none⟩ = some (.string L[j].text) ∧ w.cell? ⟨g, o + j * 3 + 2, none⟩ = some (.int .i64 L[j].col)) →
    ∀ j u, (tkCells L)[j]? = some u → w.cell? ⟨g, o + j, none⟩ = some u := by
  intro L hc j u hu
  have hj : j < (tkCells L).length := by
    rcases Nat.lt_or_ge j (tkCells L).length with h | h
    · exact h
    · rw [List.getElem?_eq_none h] at hu; cases hu
  rw [tkCells_len] at hj
  have hq : j / 3 < L.length := by omega
  obtain ⟨a, b, c⟩ := hc (j / 3) hq
  obtain ⟨a', b', c'⟩ := Scan5.tkCells_at L (j / 3) hq
  rcases (show j = j / 3 * 3 ∨ j = j / 3 * 3 + 1 ∨ j = j / 3 * 3 + 2 by omega) with h | h | h
  · rw [h] at hu; rw [a'] at hu; rw [h]; rw [a, hu]
  · rw [h] at hu; rw [b'] at hu; rw [h]; rw [← Nat.add_assoc, b, hu]
  · rw [h] at hu; rw [c'] at hu; rw [h]; rw [← Nat.add_assoc, c, hu]
def ClonePost (L : List Tk) (w : World) (e : Ending) (w' : World) : Prop := ∃ v, e = .returned v ∧ w'.ownsRow w.heap.size 127 3 v L.length (tkCells L) ∧ Below w.heap.size w w'
set_option maxRecDepth 100000 in
theorem cloneTk (A : Option Addr) (ca : Nat) (L : List Tk) (w : World) (hL : L.length ≤ 100000) (hA : TkAt w A L) : Calls Tryz.prog 213 #[.slice A L.length ca] w (ClonePost L w) := by
  obtain ⟨i0, hi, hz0, hz1, hz2⟩ := info_parts infoTok
  cases A with
  | none =>
    have : L = [] := by
      rcases Nat.eq_zero_or_pos L.length with h | h
      · exact List.eq_nil_of_length_eq_zero h
      · obtain ⟨g, o, h, _⟩ := hA h; cases h
    subst this
    have es := fun (w : World) (a : Option Addr) (n c : Nat) => Lib.run_eql_slice_nil (P := Tryz.prog) w 120 127 a n c 0 0 Tryz.underlying120
    go_enter Tryz.func213, Tryz.ntmps213
    go_wp2_with fail
    go_ret
    exact ⟨_, rfl, World.ownsRow_nil _ _ _ _, Below.refl _ _⟩
  | some ad =>
    have hcells : ∀ ad', some ad = some ad' → ∀ j u, (tkCells L)[j]? = some u → (w.alloc (.cells #[] 127)).cell? (ad'.add j) = some u := by
      rintro ad' ⟨⟩ j u hu
      have hj : 0 < L.length := by
        rcases Nat.eq_zero_or_pos L.length with h | h
        · have : L = [] := List.eq_nil_of_length_eq_zero h
          subst this; simp [tkCells] at hu
        · exact h
      obtain ⟨g, o, h, hg, hc⟩ := hA hj
      injection h with h
      subst h
      rw [add_off, World.cell?_alloc_past _ _ _ hg]
      exact tkCells_get L hc j u hu
    have Hc := Lib.hid hcells
    clear hcells hA
    have es := fun (w : World) (a : Option Addr) (n c : Nat) => Lib.run_eql_slice_nil (P := Tryz.prog) w 120 127 a n c 0 0 Tryz.underlying120
    go_enter Tryz.func213, Tryz.ntmps213
    go_wp2_with (at_builtin; refine wpList_append_from _ rfl _ _ 120 rfl w.heap.size 127 i0 (.agg #[.int .i64 0, .string ⟨#[]⟩, .int .i64 0]) 3 32 Tryz.underlying120 hi hz0 hz1 hz2 rfl (by decide) _ _ _ rfl (own_empty w _ 3) (some ad) L.length ca (tkCells L) rfl (tkCells_len L) (fun h => by cases h) Hc.out (tkCells_one L) (by unfold maxLen; omega) (by omega) (by simp) ?_)
    intro v' w1 hown hgrow
    have hb : Below w.heap.size w w1 := ((Below.refl _ _).alloc (Nat.le_refl _) _).grown hgrow (by simp) (fun k hk => by simp [Value.ownBlock] at hk; omega)
    go_wp2_with fail
    go_ret
    exact ⟨_, rfl, by simpa using hown, hb⟩
end Go.Proofs.YtkmpbkgmdfeicaaGreat.SynC
/- Which texts are names, by the document's answers. -/
namespace Go.Proofs.YtkmpbkgmdfeicaaGreat.RefN
set_option linter.unusedVariables false
set_option linter.unusedSimpArgs false
open Go.RowKit Go.Proofs.YtkmpbkgmdfeicaaGreat.Plain Go.Proofs.YtkmpbkgmdfeicaaGreat.Leaf Go.Proofs.YtkmpbkgmdfeicaaGreat.Named
theorem letter (n : Int) (w : World) : Calls Tryz.prog 172 #[.int .u8 n] w fun e w' => e = .returned (.bool (wordB n)) ∧ w = w' := by
  go_enter Tryz.func172, Tryz.ntmps172
  go_wp2
  all_goals go_ret
  all_goals refine ⟨ret_bool ?_, rfl⟩
  all_goals
    unfold wordB capB smallB digB
    rw [Bool.eq_iff_iff]
    simp
    omega
def between (lo hi n : Int) : Bool := decide (lo ≤ n ∧ n ≤ hi)
theorem is_ (s : ByteArray) (lo hi : Int) (w : World) (hs : s.size ≤ maxLen) :
    Calls Tryz.prog 132 #[.string s, .int .u8 lo, .int .u8 hi] w fun e w' => e = .returned (.bool (named (between lo hi) s.data.toList)) ∧ w = w' := by
  unfold maxLen at hs
  by_cases h1 : 0 < s.size
  · by_cases h8 : s.size ≤ 8
    · by_cases hlo : lo ≤ s[0].toNat
      · by_cases hhi : s[0].toNat ≤ hi
        · have Hc := Lib.hid (show between lo hi s[0].toNat = true from decide_eq_true ⟨hlo, hhi⟩)
          go_enter Tryz.func132, Tryz.ntmps132
          go_wp2_with fail
          go_loop [7] (fun i => ∃ k : Nat, k ≤ s.size ∧ i = .int .i64 k ∧ Hid (∀ j, (h : j < s.size) → j < k → wordB s[j].toNat = true)) (fun i => s.size - (intOf i).toNat)
          case atStart => exact ⟨0, by omega, rfl, Lib.hid fun j _ hj => by omega⟩
          case round =>
            obtain ⟨k, hk, rfl, hall⟩ := hrel
            by_cases hlt : k < s.size
            · cases hw : wordB s[k].toNat
              · have Hw := Lib.hid (named_bad (f := between lo hi) k hlt hw)
                clear hall
                go_wp2_with (go_at_call 172; refine (letter _ _).mono ?_; rintro e w' ⟨rfl, rfl⟩)
                go_ret
                exact ⟨ret_bool Hw.out.symm, rfl⟩
              · have hnext : Hid (∀ j, (h : j < s.size) → j < k + 1 → wordB s[j].toNat = true) := Lib.hid fun j h hj => by
                  by_cases e : j = k
                  · subst e; exact hw
                  · exact hall.out j h (by omega)
                clear hall
                go_wp2_with (go_at_call 172; refine (letter _ _).mono ?_; rintro e w' ⟨rfl, rfl⟩)
                go_round
                case rel => exact ⟨k + 1, by omega, by go_num, hnext⟩
                case measure => simp [intOf]; omega
            · go_wp2_with fail
              go_ret
              exact ⟨ret_bool (named_ok h1 h8 Hc.out (fun j h => hall.out j h (by omega))).symm, rfl⟩
        · have Hc := Lib.hid (named_head (f := between lo hi) h1 (decide_eq_false (fun h => hhi h.2)))
          go_enter Tryz.func132, Tryz.ntmps132
          go_wp2_with fail
          go_ret
          exact ⟨ret_bool Hc.out.symm, rfl⟩
      · have Hc := Lib.hid (named_head (f := between lo hi) h1 (decide_eq_false (fun h => hlo h.1)))
        go_enter Tryz.func132, Tryz.ntmps132
        go_wp2_with fail
        go_ret
        exact ⟨ret_bool Hc.out.symm, rfl⟩
    · go_enter Tryz.func132, Tryz.ntmps132
      go_wp2_with fail
      go_ret
      exact ⟨ret_bool (named_len (by omega)).symm, rfl⟩
  · go_enter Tryz.func132, Tryz.ntmps132
    go_wp2_with fail
    go_ret
    exact ⟨ret_bool (named_len (by omega)).symm, rfl⟩
theorem refIsPrin (s : ByteArray) (w : World) (hs : s.size ≤ maxLen) : Calls Tryz.prog 77 #[.string s] w fun e w' => e = .returned (.bool (named capB s.data.toList)) ∧ w = w' := by
  go_enter Tryz.func77, Tryz.ntmps77
  go_wp2_with (go_at_call 132; refine (is_ _ _ _ _ hs).mono ?_; rintro e w' ⟨rfl, rfl⟩)
  go_ret
  exact ⟨ret_bool (show named (between 65 90) _ = named capB _ from rfl), rfl⟩
theorem refIsName (s : ByteArray) (w : World) (hs : s.size ≤ maxLen) : Calls Tryz.prog 78 #[.string s] w fun e w' => e = .returned (.bool (named smallB s.data.toList)) ∧ w = w' := by
  go_enter Tryz.func78, Tryz.ntmps78
  go_wp2_with (go_at_call 132; refine (is_ _ _ _ _ hs).mono ?_; rintro e w' ⟨rfl, rfl⟩)
  go_ret
  exact ⟨ret_bool (show named (between 97 122) _ = named smallB _ from rfl), rfl⟩
end Go.Proofs.YtkmpbkgmdfeicaaGreat.RefN
/- Roles: which are right, their texts, how two stand. -/
namespace Go.Proofs.YtkmpbkgmdfeicaaGreat.Syn1
set_option linter.unusedVariables false
set_option linter.unusedSimpArgs false
open Go.RowKit Go.Sort Go.Proofs Go.Proofs.YtkmpbkgmdfeicaaGreat.Plain Go.Proofs.YtkmpbkgmdfeicaaGreat.SynP Go.Proofs.YtkmpbkgmdfeicaaGreat.Named Go.Proofs.YtkmpbkgmdfeicaaGreat.RefN Go.Proofs.YtkmpbkgmdfeicaaGreat.Grown
theorem isRole (r : Rl) (w : World) (h : r.light) : Calls Tryz.prog 73 #[r.val] w fun e w' => e = .returned (.bool r.ok) ∧ Grew w w' := by
  obtain ⟨o, n⟩ := r
  obtain ⟨h1, h2⟩ := h
  simp only at h1 h2
  cases e1 : named capB o.data.toList
  all_goals
    have He := Lib.hid e1
    clear e1
    unfold Rl.val
    go_enter Tryz.func73, Tryz.ntmps73
    go_wp2_with (first | (go_at_call 127; refine (isPrin _ _ h1).mono ?_; rintro e w' ⟨rfl, rfl⟩; rw [He.out]) | (go_at_call 128; refine (isName _ _ h2).mono ?_; rintro e w' ⟨rfl, rfl⟩))
    go_ret
    exact ⟨ret_bool (by unfold Rl.ok; simp only [He.out]; rfl), (Grew.refl _).alloc _⟩
theorem isRoleRef (r : Rl) (w : World) (h : r.light) : Calls Tryz.prog 33 #[r.val] w fun e w' => e = .returned (.bool r.ok) ∧ Grew w w' := by
  obtain ⟨o, n⟩ := r
  obtain ⟨h1, h2⟩ := h
  simp only at h1 h2
  cases e1 : named capB o.data.toList
  all_goals
    have He := Lib.hid e1
    clear e1
    unfold Rl.val
    go_enter Tryz.func33, Tryz.ntmps33
    go_wp2_with (first | (go_at_call 77; refine (refIsPrin _ _ h1).mono ?_; rintro e w' ⟨rfl, rfl⟩; rw [He.out]) | (go_at_call 78; refine (refIsName _ _ h2).mono ?_; rintro e w' ⟨rfl, rfl⟩))
    go_ret
    exact ⟨ret_bool (by unfold Rl.ok; simp only [He.out]; rfl), (Grew.refl _).alloc _⟩
theorem printRole (r : Rl) (w : World) (h : r.owner.size ≤ 1000 ∧ r.name.size ≤ 1000) : Calls Tryz.prog 43 #[r.val] w fun e w' => e = .returned (.string (r.owner ++ ⟨#[46]⟩ ++ r.name)) ∧ Grew w w' := by
  obtain ⟨o, n⟩ := r
  obtain ⟨h1, h2⟩ := h
  simp only at h1 h2
  unfold Rl.val
  go_enter Tryz.func43, Tryz.ntmps43
  go_wp2
  go_ret
  exact ⟨rfl, (Grew.refl _).alloc _⟩
theorem printRoleRef (r : Rl) (w : World) (h : r.owner.size ≤ 1000 ∧ r.name.size ≤ 1000) : Calls Tryz.prog 47 #[r.val] w fun e w' => e = .returned (.string (r.owner ++ ⟨#[46]⟩ ++ r.name)) ∧ Grew w w' := by
  obtain ⟨o, n⟩ := r
  obtain ⟨h1, h2⟩ := h
  simp only at h1 h2
  unfold Rl.val
  go_enter Tryz.func47, Tryz.ntmps47
  go_wp2
  go_ret
  exact ⟨rfl, (Grew.refl _).alloc _⟩
theorem isNaN (a : ByteArray) (w : World) : Calls Tryz.prog 185 #[.string a] w fun e w' => e = .returned (.bool false) ∧ w = w' := by
  go_enter Tryz.func185, Tryz.ntmps185
  go_wp2
  go_ret
  exact ⟨rfl, rfl⟩
theorem less_eq (a b : ByteArray) : Op.bytesLess a.toList b.toList = strLt a b := by
  rw [bytesLess_eq, Go.ByteArray.toList_eq, Go.ByteArray.toList_eq]; rfl
theorem same_eq (a b : ByteArray) : (a.toList == b.toList) = decide (a = b) := by
  rw [Bool.eq_iff_iff, decide_eq_true_iff, beq_iff_eq, Go.ByteArray.toList_eq, Go.ByteArray.toList_eq]
  exact ⟨ba_ext, fun h => by rw [h]⟩
theorem compareS (a b : ByteArray) (w : World) : Calls Tryz.prog 142 #[.string a, .string b] w fun e w' => e = .returned (.int .i64 (cmpB a b)) ∧ w = w' := by
  cases h1 : strLt a b
  · cases h2 : strLt b a
    · have H : Hid (cmpB a b = 0) := Lib.hid (by unfold cmpB; rw [h1, h2]; rfl)
      have h3 : (a.toList == b.toList) = true := by rw [same_eq]; exact decide_eq_true (strLt_total h1 h2)
      rw [← less_eq] at h1 h2
      go_enter Tryz.func142, Tryz.ntmps142
      go_wp2_with (go_at_call 185; refine (isNaN _ _).mono ?_; rintro e w' ⟨rfl, rfl⟩)
      go_ret
      exact ⟨ret_int H.out.symm, rfl⟩
    · have H : Hid (cmpB a b = 1) := Lib.hid (by unfold cmpB; rw [h1, h2]; rfl)
      have h3 : (a.toList == b.toList) = false := by rw [same_eq]; exact decide_eq_false (by rintro rfl; rw [strLt_irrefl] at h2; cases h2)
      rw [← less_eq] at h1 h2
      go_enter Tryz.func142, Tryz.ntmps142
      go_wp2_with (go_at_call 185; refine (isNaN _ _).mono ?_; rintro e w' ⟨rfl, rfl⟩)
      go_ret
      exact ⟨ret_int H.out.symm, rfl⟩
  · have H : Hid (cmpB a b = -1) := Lib.hid (by unfold cmpB; rw [h1]; rfl)
    rw [← less_eq] at h1
    go_enter Tryz.func142, Tryz.ntmps142
    go_wp2_with (go_at_call 185; refine (isNaN _ _).mono ?_; rintro e w' ⟨rfl, rfl⟩)
    go_ret
    exact ⟨ret_int H.out.symm, rfl⟩
theorem compareN (a b : Int) (w : World) : Calls Tryz.prog 141 #[.int .i64 a, .int .i64 b] w fun e w' => e = .returned (.int .i64 (cmpN a b)) ∧ w = w' :=
  (Tryz.cmp_Compare_int a b w).mono fun _ _ ⟨he, hw⟩ => ⟨he, hw.symm⟩
/-- The first that isn't 0, of a row of numbers. -/
def IRow (w : World) (g : Nat) (l : List Int) : Prop := g < w.heap.size ∧ ∀ k, (h : k < l.length) → w.cell? ⟨g, k, none⟩ = some (.int .i64 l[k])
theorem orL_skip {l : List Int} {k : Nat} (h : k < l.length) (h0 : l[k] = 0) : orL (l.drop k) = orL (l.drop (k + 1)) := by
  rw [List.drop_eq_getElem_cons h]; simp [orL, h0]
theorem orL_stop {l : List Int} {k : Nat} (h : k < l.length) (h0 : l[k] ≠ 0) : orL (l.drop k) = l[k] := by
  rw [List.drop_eq_getElem_cons h]; simp [orL, h0]
theorem or_ (g cap : Nat) (l : List Int) (w : World) (hl : l.length ≤ 1000) (hr : IRow w g l) : Calls Tryz.prog 140 #[.slice (some ⟨g, 0, none⟩) l.length cap] w fun e w' => e = .returned (.int .i64 (orL l)) ∧ w = w' := by
  go_enter Tryz.func140, Tryz.ntmps140
  go_wp2
  go_loop [8] (fun i => ∃ k : Nat, k ≤ l.length ∧ i = .int .i64 k ∧ Hid (orL l = orL (l.drop k))) (fun i => l.length - (intOf i).toNat)
  case atStart => exact ⟨0, by omega, rfl, Lib.hid (by simp)⟩
  case round =>
    obtain ⟨k, hk, rfl, hrun⟩ := hrel
    by_cases hlt : k < l.length
    · have hc := hr.2 k hlt
      by_cases h0 : l[k] = 0
      · have hnext : Hid (orL l = orL (l.drop (k + 1))) := Lib.hid (by rw [hrun.out, orL_skip hlt h0])
        rw [h0] at hc
        clear hrun h0
        go_wp2_with fail
        go_round
        case rel => exact ⟨k + 1, by omega, by go_num, hnext⟩
        case measure => simp [intOf]; omega
      · have hfin : Hid (orL l = l[k]) := Lib.hid (by rw [hrun.out, orL_stop hlt h0])
        have h1 : (l[k] != 0) = true := by simpa using h0
        clear hrun h0
        go_wp2_with fail
        go_ret
        exact ⟨ret_int hfin.out.symm, rfl⟩
    · have hfin : Hid (orL l = 0) := Lib.hid (by rw [hrun.out, List.drop_of_length_le (by omega)]; rfl)
      clear hrun
      go_wp2_with fail
      go_ret
      exact ⟨ret_int hfin.out.symm, rfl⟩
end Go.Proofs.YtkmpbkgmdfeicaaGreat.Syn1
/- How two roles, and two statements, stand: orderRoles, Less, Order. -/
namespace Go.Proofs.YtkmpbkgmdfeicaaGreat.Syn2
set_option linter.unusedVariables false
set_option linter.unusedSimpArgs false
open Go.RowKit Go.Sort Go.Proofs Go.Proofs.YtkmpbkgmdfeicaaGreat.Plain Go.Proofs.YtkmpbkgmdfeicaaGreat.SynP Go.Proofs.YtkmpbkgmdfeicaaGreat.Named Go.Proofs.YtkmpbkgmdfeicaaGreat.RefN Go.Proofs.YtkmpbkgmdfeicaaGreat.Grown Go.Proofs.YtkmpbkgmdfeicaaGreat.Syn1
theorem keep2 {W w1 w2 : World} {n : Nat} {f g : Nat → Option Value} (h : Grew W w1 ∧ (∀ o, w1.cell? ⟨n, o, none⟩ = f o) ∧ (∀ o, w1.cell? ⟨n + 1, o, none⟩ = g o)) (hn : n + 1 < W.heap.size) (hg : Grew w1 w2) :
    Grew W w2 ∧ (∀ o, w2.cell? ⟨n, o, none⟩ = f o) ∧ (∀ o, w2.cell? ⟨n + 1, o, none⟩ = g o) := by
  have hs := h.1.size
  exact ⟨h.1.trans hg, fun o => (hg.cell (a := ⟨n, o, none⟩) (by show n < _; omega)).trans (h.2.1 o), fun o => (hg.cell (a := ⟨n + 1, o, none⟩) (by show n + 1 < _; omega)).trans (h.2.2 o)⟩
theorem start2 (w : World) (A B : Array Value) (t : TypeId) : Grew ((w.alloc (.cells A t)).alloc (.cells B t)) ((w.alloc (.cells A t)).alloc (.cells B t)).drew ∧ (∀ o, ((w.alloc (.cells A t)).alloc (.cells B t)).drew.cell? ⟨w.heap.size, o, none⟩ = A[o]?) ∧ (∀ o, ((w.alloc (.cells A t)).alloc (.cells B t)).drew.cell? ⟨w.heap.size + 1, o, none⟩ = B[o]?) := by
  refine ⟨(Grew.refl _).drew, fun o => ?_, fun o => ?_⟩
  · exact (((Grew.refl (w.alloc (.cells A t))).alloc (.cells B t)).drew.cell (a := ⟨w.heap.size, o, none⟩) (by simp)).trans (Lib.cell_of_heap (heap_alloc_new w _) o)
  · have := Lib.cell_of_heap (heap_alloc_new (w.alloc (.cells A t)) (.cells B t)) o
    rw [← this]; simp
theorem irow_new (w : World) (l : List Int) (t : TypeId) {n : Nat} (hn : n = w.heap.size) : IRow (w.alloc (.cells (l.map (Value.int .i64)).toArray t)).drew n l := by
  subst hn
  exact ⟨by simp, fun k hk => by
    have := Lib.cell_of_heap (heap_alloc_new w (.cells (l.map (Value.int .i64)).toArray t)) k
    show (w.alloc _).cell? _ = _
    rw [this]; simp [hk]⟩
theorem irow_new0 (w : World) (l : List Int) (t : TypeId) {n : Nat} (hn : n = w.heap.size) : IRow (w.alloc (.cells (l.map (Value.int .i64)).toArray t)) n l := by
  subst hn
  exact ⟨by simp, fun k hk => by
    rw [Lib.cell_of_heap (heap_alloc_new w (.cells (l.map (Value.int .i64)).toArray t)) k]; simp [hk]⟩
set_option maxRecDepth 100000 in
theorem orderRoles (r s : Rl) (w : World) : Calls Tryz.prog 137 #[r.val, s.val] w fun e w' => e = .returned (.int .i64 (cmpR r s)) ∧ Grew w w' := by
  obtain ⟨o1, n1⟩ := r
  obtain ⟨o2, n2⟩ := s
  have hor : ∀ (w' : World) (n : Nat), n = w'.heap.size → Calls Tryz.prog 140 #[.slice (some ⟨n, 0, none⟩) 2 2] (w'.alloc (.cells #[.int .i64 (cmpB o1 o2), .int .i64 (cmpB n1 n2)] 3)).drew fun e w2 => e = .returned (.int .i64 (cmpR ⟨o1, n1⟩ ⟨o2, n2⟩)) ∧ (w'.alloc (.cells #[.int .i64 (cmpB o1 o2), .int .i64 (cmpB n1 n2)] 3)).drew = w2 := fun w' n hn =>
    or_ n 2 [cmpB o1 o2, cmpB n1 n2] _ (by simp) (irow_new w' [cmpB o1 o2, cmpB n1 n2] _ hn)
  have Hor := Lib.hid hor
  clear hor
  generalize cmpR ⟨o1, n1⟩ ⟨o2, n2⟩ = res at *
  unfold Rl.val
  go_enter Tryz.func137, Tryz.ntmps137
  go_wp2
  have hst := start2 w #[.string o1, .string n1] #[.string o2, .string n2] 44
  go_region_held3 (fun w' => Grew ((w.alloc (.cells #[.string o1, .string n1] 44)).alloc (.cells #[.string o2, .string n2] 44)) w' ∧ (∀ o, w'.cell? ⟨w.heap.size, o, none⟩ = (#[.string o1, .string n1] : Array Value)[o]?) ∧ (∀ o, w'.cell? ⟨w.heap.size + 1, o, none⟩ = (#[.string o2, .string n2] : Array Value)[o]?))
    (first | exact hst | assumption | exact keep2 (by assumption) (by simp) (Grew.alloc_drew _ _))
    (first | (go_at_call 142; refine (compareS _ _ _).mono ?_; rintro e w' ⟨rfl, rfl⟩) | (go_at_call 140; refine (Hor.out _ _ (by simp)).mono ?_; rintro e w' ⟨rfl, rfl⟩))
  rename_i hHeld
  go_wp2
  go_ret
  exact ⟨rfl, (((Grew.refl _).alloc _).alloc _).trans hHeld.1⟩
theorem less (r s : Rl) (w : World) : Calls Tryz.prog 93 #[r.val, s.val] w fun e w' => e = .returned (.bool (decide (cmpR r s < 0))) ∧ Grew w w' := by
  obtain ⟨o1, n1⟩ := r
  obtain ⟨o2, n2⟩ := s
  have H := Lib.hid (orderRoles ⟨o1, n1⟩ ⟨o2, n2⟩)
  generalize cmpR ⟨o1, n1⟩ ⟨o2, n2⟩ = res at *
  unfold Rl.val at *
  go_enter Tryz.func93, Tryz.ntmps93
  go_wp2_with (go_at_call 137; refine (H.out _).mono ?_; rintro e w' ⟨rfl, hg⟩)
  go_ret
  exact ⟨rfl, (((Grew.refl _).alloc _).alloc _).trans hg⟩
theorem rl_eq {r s : Rl} (h : r.owner = s.owner) (h2 : r.name = s.name) : r = s := by cases r; cases s; simp_all
theorem orL_cons0 (l : List Int) : orL (0 :: l) = orL l := by simp [orL]
theorem orL_cons1 {x : Int} (l : List Int) (h : x ≠ 0) : orL (x :: l) = x := by simp [orL, h]
theorem orL_one (x : Int) : orL [x] = x := by
  by_cases h : x = 0
  · subst h; rfl
  · exact orL_cons1 [] h
theorem cmpR_lt {r s : Rl} : (decide (cmpR r s < 0) : Bool) = if r.owner ≠ s.owner then strLt r.owner s.owner else strLt r.name s.name := by
  unfold cmpR
  by_cases h : r.owner = s.owner
  · rw [if_neg (fun e => e h), h, cmpB_eq.2 rfl, orL_cons0, orL_one, Bool.eq_iff_iff, decide_eq_true_iff, cmpB_lt]
  · rw [orL_cons1 _ (fun e => h (cmpB_eq.1 e)), if_pos h, Bool.eq_iff_iff, decide_eq_true_iff, cmpB_lt]
theorem lessRef (r s : Rl) (w : World) : Calls Tryz.prog 79 #[r.val, s.val] w fun e w' => e = .returned (.bool (decide (cmpR r s < 0))) ∧ Grew w w' := by
  obtain ⟨o1, n1⟩ := r
  obtain ⟨o2, n2⟩ := s
  have H := Lib.hid (cmpR_lt (r := ⟨o1, n1⟩) (s := ⟨o2, n2⟩))
  by_cases h : o1 = o2
  · have e1 : (o1.toList == o2.toList) = true := by rw [same_eq]; exact decide_eq_true h
    have H2 := Lib.hid (H.out.trans (if_neg (by simpa using h)))
    clear h
    unfold Rl.val at *
    go_enter Tryz.func79, Tryz.ntmps79
    go_wp2
    go_ret
    exact ⟨ret_bool (by rw [H2.out]; exact less_eq _ _), ((Grew.refl _).alloc _).alloc _⟩
  · have e1 : (o1.toList == o2.toList) = false := by rw [same_eq]; exact decide_eq_false h
    have H2 := Lib.hid (H.out.trans (if_pos h))
    clear h
    unfold Rl.val at *
    go_enter Tryz.func79, Tryz.ntmps79
    go_wp2
    go_ret
    exact ⟨ret_bool (by rw [H2.out]; exact less_eq _ _), ((Grew.refl _).alloc _).alloc _⟩
end Go.Proofs.YtkmpbkgmdfeicaaGreat.Syn2
