/- Plain mathematics: the tokens of a line are good ones; the tokens of words that stand one behind the other. -/
import Derived.Test.YtofhiolmaojihaaSynQ
import Derived.Test.YtofhiolmaojihaaScan4
namespace Go.Proofs.Ytofhiolmaojihaa.SynR
open Go.RowKit Go.Proofs.Ytofhiolmaojihaa.Plain Go.Proofs.Ytofhiolmaojihaa.SynP Go.Proofs.Ytofhiolmaojihaa.SynQ Go.Proofs.Ytofhiolmaojihaa.Scan1 Go.Proofs.Ytofhiolmaojihaa.Scan2 Go.Proofs.Ytofhiolmaojihaa.Scan3 Go.Proofs.Ytofhiolmaojihaa.Scan4
def dot : ByteArray := ⟨#[46]⟩
def amp : ByteArray := ⟨#[38]⟩
def arrow : ByteArray := ⟨#[60, 45]⟩
def goodTk (t : Tk) : Prop := (t.kind = 1 ∧ named capB t.text.data.toList = true) ∨ (t.kind = 2 ∧ named smallB t.text.data.toList = true) ∨ (t.kind = 3 ∧ t.text = dot) ∨ (t.kind = 4 ∧ t.text = arrow) ∨ (t.kind = 5 ∧ t.text = amp)
theorem ext_list (s : ByteArray) (k m : Nat) : (s.extract k (k + m)).data.toList = (s.data.toList.drop k).take m := by
  rw [ByteArray.data_extract, Array.toList_extract, List.extract_eq_take_drop, show k + m - k = m by omega]
theorem take_takeWhile (p : UInt8 → Bool) : ∀ l : List UInt8, l.take (l.takeWhile p).length = l.takeWhile p
  | [] => rfl
  | a :: l => by
    rw [List.takeWhile_cons]
    split
    · simp [take_takeWhile p l]
    · rfl
theorem word_named {s : ByteArray} {k : Nat} (h : k < s.size) (f : Int → Bool) (hf : f s[k].toNat = true) (hw : wordB s[k].toNat = true) (h8 : ¬ wlen s (k + 1) + 1 > 8) : named f (s.extract k (k + (wlen s (k + 1) + 1))).data.toList = true := by
  have e : (s.extract k (k + (wlen s (k + 1) + 1))).data.toList = s[k] :: (s.data.toList.drop (k + 1)).takeWhile (fun c => wordB c.toNat) := by
    rw [ext_list, drop_cons h, List.take_succ_cons]
    unfold wlen
    rw [take_takeWhile]
  have hl : ((s.data.toList.drop (k + 1)).takeWhile (fun c => wordB c.toNat)).length = wlen s (k + 1) := rfl
  rw [e]
  unfold named
  simp only [List.length_cons, hl, List.headD_cons, hf, List.all_cons, hw, Bool.true_and, Bool.and_true, Bool.and_eq_true, decide_eq_true_eq]
  refine ⟨⟨by omega, by omega⟩, ?_⟩
  exact List.all_takeWhile
theorem step_good {s : ByteArray} {k : Nat} (h : k < s.size) {kind : Int} {m : Nat} (hs : tkStep s k h = .tok kind m) : goodTk ⟨kind, s.extract k (k + (m + 1)), k + 1⟩ ∧ k + m + 1 ≤ s.size ∧ m + 1 ≤ 8 := by
  have hle := wlen_le s (k + 1)
  unfold tkStep at hs
  split at hs
  · cases hs
  split at hs
  · rename_i h1
    split at hs
    · cases hs
    · rename_i h8
      injection hs with e1 e2
      subst e1; subst e2
      exact ⟨.inl ⟨rfl, word_named h capB h1 (word_of_cap h1) h8⟩, by omega, by omega⟩
  split at hs
  · rename_i h1
    split at hs
    · cases hs
    · rename_i h8
      injection hs with e1 e2
      subst e1; subst e2
      exact ⟨.inr (.inl ⟨rfl, word_named h smallB h1 (word_of_small h1) h8⟩), by omega, by omega⟩
  split at hs
  · rename_i h1
    injection hs with e1 e2
    subst e1; subst e2
    exact ⟨.inr (.inr (.inl ⟨rfl, text1 h h1⟩)), by omega, by omega⟩
  split at hs
  · rename_i h1
    injection hs with e1 e2
    subst e1; subst e2
    exact ⟨.inr (.inr (.inr (.inr ⟨rfl, text1 h h1⟩))), by omega, by omega⟩
  split at hs
  · rename_i h1
    injection hs with e1 e2
    subst e1; subst e2
    obtain ⟨a, h2, b⟩ := (pre_iff h).1 h1
    exact ⟨.inr (.inr (.inr (.inl ⟨rfl, text2 h a h2 b⟩))), by omega, by omega⟩
  · cases hs
/-- Tokens are good, and lie in a line of this size. -/
def GoodL (n : Nat) (L : List Tk) : Prop := ∀ t ∈ L, goodTk t ∧ t.col ≤ n ∧ t.text.size ≤ 8
theorem run_good (s : ByteArray) : ∀ (n k : Nat) (L L' : List Tk), s.size - k ≤ n → GoodL s.size L → tkRun s k L = .ok L' → GoodL s.size L' := by
  intro n
  induction n with
  | zero =>
    intro k L L' hn hL hr
    rw [tkRun_end (by omega)] at hr
    injection hr with e
    subst e; exact hL
  | succ n ih =>
    intro k L L' hn hL hr
    by_cases h : k < s.size
    · cases hs : tkStep s k h with
      | skip =>
        rw [tkRun_skip h hs] at hr
        exact ih (k + 1) L L' (by omega) hL hr
      | tok kind m =>
        rw [tkRun_tok h hs] at hr
        obtain ⟨h1, h2, h3⟩ := step_good h hs
        refine ih (k + m + 1) _ L' (by omega) ?_ hr
        intro t ht
        rw [List.mem_append, List.mem_singleton] at ht
        rcases ht with ht | rfl
        · exact hL t ht
        · refine ⟨h1, by show k + 1 ≤ _; omega, ?_⟩
          show (s.extract k (k + (m + 1))).size ≤ 8
          rw [ByteArray.size_extract]; omega
      | bad e => rw [tkRun_bad h hs] at hr; cases hr
    · rw [tkRun_end h] at hr
      injection hr with e
      subst e; exact hL
theorem ans_good {s : ByteArray} {L : List Tk} (h : ansOf s = .ok L) : GoodL 200 L := by
  unfold ansOf at h
  split at h
  · cases h
  · rename_i h2
    have := run_good (bare s) (bare s).size 0 [] L (by omega) (by intro t ht; cases ht) h
    have hb := bare_le s
    exact fun t ht => ⟨(this t ht).1, by have := (this t ht).2.1; omega, (this t ht).2.2⟩
theorem run_len (s : ByteArray) : ∀ (n k : Nat) (L L' : List Tk), s.size - k ≤ n → tkRun s k L = .ok L' → L'.length ≤ L.length + n := by
  intro n
  induction n with
  | zero =>
    intro k L L' hn hr
    rw [tkRun_end (by omega)] at hr
    injection hr with e
    subst e; omega
  | succ n ih =>
    intro k L L' hn hr
    by_cases h : k < s.size
    · cases hs : tkStep s k h with
      | skip =>
        rw [tkRun_skip h hs] at hr
        have := ih (k + 1) L L' (by omega) hr; omega
      | tok kind m =>
        rw [tkRun_tok h hs] at hr
        have := ih (k + m + 1) _ L' (by omega) hr
        rw [List.length_append, List.length_singleton] at this
        omega
      | bad e => rw [tkRun_bad h hs] at hr; cases hr
    · rw [tkRun_end h] at hr
      injection hr with e
      subst e; omega
theorem ans_len {s : ByteArray} {L : List Tk} (h : ansOf s = .ok L) : L.length ≤ 200 := by
  unfold ansOf at h
  split at h
  · cases h
  · have := run_len (bare s) (bare s).size 0 [] L (by omega) h
    have hb := bare_le s
    simp at this
    omega
end Go.Proofs.Ytofhiolmaojihaa.SynR
