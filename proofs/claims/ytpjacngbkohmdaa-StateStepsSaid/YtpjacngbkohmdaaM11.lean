/- The normal form of a statement, in the program and in the document's answers. -/
import Derived.Test.YtpjacngbkohmdaaM07
import Derived.Test.YtpjacngbkohmdaaM02
import Derived.Test.YtpjacngbkohmdaaM10
import Derived.RegionTactic
import Derived.Deep.RegionHeld3
import Derived.Test.YtpjacngbkohmdaaM09
namespace Go.Proofs.Ytpjacngbkohmdaa.Syn6
set_option linter.unusedVariables false
set_option linter.unusedSimpArgs false
open Go.RowKit Go.Sort Go.Proofs Go.Proofs.Ytpjacngbkohmdaa.Plain Go.Proofs.Ytpjacngbkohmdaa.SynP Go.Proofs.Ytpjacngbkohmdaa.Named Go.Proofs.Ytpjacngbkohmdaa.RefN Go.Proofs.Ytpjacngbkohmdaa.Grown Go.Proofs.Ytpjacngbkohmdaa.Syn1 Go.Proofs.Ytpjacngbkohmdaa.Syn2 Go.Proofs.Ytpjacngbkohmdaa.Syn3 Go.Proofs.Ytpjacngbkohmdaa.Syn4
set_option linter.unusedSimpArgs false
set_option linter.unusedVariables false
end Go.Proofs.Ytpjacngbkohmdaa.Syn6
/- A line as a statement, in the program. -/
namespace Go.Proofs.Ytpjacngbkohmdaa.SynX
set_option linter.unusedVariables false
set_option linter.unusedSimpArgs false
open Go.RowKit Go.Sort Go.Proofs Go.Proofs.Ytpjacngbkohmdaa.Plain Go.Proofs.Ytpjacngbkohmdaa.SynP Go.Proofs.Ytpjacngbkohmdaa.SynQ Go.Proofs.Ytpjacngbkohmdaa.Grown Go.Proofs.Ytpjacngbkohmdaa.SynA Go.Proofs.Ytpjacngbkohmdaa.SynC Go.Proofs.Ytpjacngbkohmdaa.SynR Go.Proofs.Ytpjacngbkohmdaa.SynW Go.Proofs.Ytpjacngbkohmdaa.Scan3 Go.Proofs.Ytpjacngbkohmdaa.Scan5 Go.Proofs.Ytpjacngbkohmdaa.Syn4 Go.Proofs.Ytpjacngbkohmdaa.SynS Go.Proofs.Ytpjacngbkohmdaa.SynG Go.Proofs.Ytpjacngbkohmdaa.SynU Go.Proofs.Ytpjacngbkohmdaa.SynV
set_option linter.unusedVariables false
set_option linter.unusedSimpArgs false
theorem len_of_kinds {L : List Tk} {l : List Int} (h : kindsOf L = l) : L.length = l.length := by rw [← h, kinds_len]
theorem kind_at {L : List Tk} {l : List Int} (h : kindsOf L = l) (i : Nat) (hi : i < L.length) : L[i].kind = l[i]'(by rw [← len_of_kinds h]; exact hi) := by
  subst h
  exact (List.getElem_map ..).symm
/-- The first shape that a line's tokens have is the only one. -/
theorem parseL_hit {L : List Tk} {k : Nat} (h1 : 1 ≤ k) (h4 : k ≤ 4) (hk : kindsOf L = shapeK k) : parseL L = ((stmtOf k L).normal, 0, 0) := by
  unfold parseL
  match k, h1, h4, hk with
  | 1, _, _, hk => rw [if_pos hk]
  | 2, _, _, hk => rw [if_neg (by rw [hk]; decide), if_pos hk]
  | 3, _, _, hk => rw [if_neg (by rw [hk]; decide), if_neg (by rw [hk]; decide), if_pos hk]
  | 4, _, _, hk => rw [if_neg (by rw [hk]; decide), if_neg (by rw [hk]; decide), if_neg (by rw [hk]; decide), if_pos hk]
theorem parseL_miss {L : List Tk} (h : ∀ j, j < 4 → kindsOf L ≠ shapeK (j + 1)) : parseL L = if bestOf L 4 < L.length then (zeroS, (colAt L (bestOf L 4) : Int), 2) else (zeroS, (behindOf L : Int), 3) := by
  unfold parseL
  rw [if_neg (h 0 (by omega)), if_neg (h 1 (by omega)), if_neg (h 2 (by omega)), if_neg (h 3 (by omega))]
theorem best_le (L : List Tk) : ∀ k, bestOf L k ≤ L.length
  | 0 => Nat.zero_le _
  | k + 1 => by
    have := best_le L k
    have h2 := agree_le1 (kindsOf L) (shapeK (k + 1))
    rw [kinds_len] at h2
    unfold bestOf; omega
theorem shape_len (k : Nat) : (shapeK k).length ≤ 11 := by
  unfold shapeK; split <;> simp
theorem ans_bad {s : ByteArray} {c : Nat} {e : Int} (h : ansOf s = .bad c e) : e = 1 ∨ e = 4 := by
  unfold ansOf at h
  split at h
  · injection h with _ h; exact .inr h.symm
  · revert h
    generalize bare s = t
    have : ∀ (n k : Nat) (L : List Tk), t.size - k ≤ n → tkRun t k L = .bad c e → e = 1 ∨ e = 4 := by
      intro n
      induction n with
      | zero => intro k L hn h; rw [tkRun_end (by omega)] at h; cases h
      | succ n ih =>
        intro k L hn h
        by_cases hk : k < t.size
        · cases hs : tkStep t k hk with
          | skip => rw [tkRun_skip hk hs] at h; exact ih _ _ (by omega) h
          | tok kind m => rw [tkRun_tok hk hs] at h; exact ih _ _ (by omega) h
          | bad e' =>
            rw [tkRun_bad hk hs] at h
            injection h with _ h
            subst h
            unfold tkStep at hs
            split at hs
            · cases hs
            split at hs
            · split at hs <;> first | (cases hs; done) | (injection hs with hs; exact .inr hs.symm)
            split at hs
            · split at hs <;> first | (cases hs; done) | (injection hs with hs; exact .inr hs.symm)
            split at hs
            · cases hs
            split at hs
            · cases hs
            split at hs
            · cases hs
            · injection hs with hs; exact .inl hs.symm
        · rw [tkRun_end hk] at h; cases h
    exact this t.size 0 [] (by omega)
end Go.Proofs.Ytpjacngbkohmdaa.SynX
/- A line as a statement, in the program. -/
namespace Go.Proofs.Ytpjacngbkohmdaa.SynY
set_option linter.unusedVariables false
set_option linter.unusedSimpArgs false
open Go.RowKit Go.Sort Go.Proofs Go.Proofs.Ytpjacngbkohmdaa.Plain Go.Proofs.Ytpjacngbkohmdaa.SynP Go.Proofs.Ytpjacngbkohmdaa.SynQ Go.Proofs.Ytpjacngbkohmdaa.Grown Go.Proofs.Ytpjacngbkohmdaa.SynA Go.Proofs.Ytpjacngbkohmdaa.SynC Go.Proofs.Ytpjacngbkohmdaa.SynR Go.Proofs.Ytpjacngbkohmdaa.SynW Go.Proofs.Ytpjacngbkohmdaa.Scan3 Go.Proofs.Ytpjacngbkohmdaa.Scan5 Go.Proofs.Ytpjacngbkohmdaa.Syn4 Go.Proofs.Ytpjacngbkohmdaa.Syn6 Go.Proofs.Ytpjacngbkohmdaa.SynS Go.Proofs.Ytpjacngbkohmdaa.SynG Go.Proofs.Ytpjacngbkohmdaa.SynH Go.Proofs.Ytpjacngbkohmdaa.SynU Go.Proofs.Ytpjacngbkohmdaa.SynV Go.Proofs.Ytpjacngbkohmdaa.SynX
set_option linter.unusedVariables false
set_option linter.unusedSimpArgs false
/-- What a line is parsed as. -/
def parseA : TkAns → St × Int × Int
  | .bad c e => (zeroS, c, e)
  | .ok L => parseL L
def ParsePost (p : St × Int × Int) (w : World) (e : Ending) (w' : World) : Prop := e = .returned (.tuple #[p.1.val, .int .i64 p.2.1, .int .i64 p.2.2]) ∧ Below w.heap.size w w'
def zeroC : Obj := .cells #[.int .i64 0, .string ⟨#[]⟩, .string ⟨#[]⟩, .string ⟨#[]⟩, .string ⟨#[]⟩, .string ⟨#[]⟩, .string ⟨#[]⟩, .string ⟨#[]⟩, .string ⟨#[]⟩] 26
theorem set9_far (X : World) (n g i : Nat) (v0 v1 v2 v3 v4 v5 v6 v7 v8 : Value) (h : n ≠ g) : (((((((((X.setCell ⟨n, 0, none⟩ v0).setCell ⟨n, 1, none⟩ v1).setCell ⟨n, 2, none⟩ v2).setCell ⟨n, 3, none⟩ v3).setCell ⟨n, 4, none⟩ v4).setCell ⟨n, 5, none⟩ v5).setCell ⟨n, 6, none⟩ v6).setCell ⟨n, 7, none⟩ v7).setCell ⟨n, 8, none⟩ v8).cell? ⟨g, i, none⟩ = X.cell? ⟨g, i, none⟩ := by
  rw [set_far _ _ _ _ _ _ h, set_far _ _ _ _ _ _ h, set_far _ _ _ _ _ _ h, set_far _ _ _ _ _ _ h, set_far _ _ _ _ _ _ h, set_far _ _ _ _ _ _ h, set_far _ _ _ _ _ _ h, set_far _ _ _ _ _ _ h, set_far _ _ _ _ _ _ h]
theorem drew_cell (Y : World) (a : Addr) : Y.drew.cell? a = Y.cell? a := rfl
theorem set9_fard (X : World) (n g i : Nat) (v0 v1 v2 v3 v4 v5 v6 v7 v8 : Value) (h : n ≠ g) : (((((((((X.setCell ⟨n, 0, none⟩ v0).setCell ⟨n, 1, none⟩ v1).setCell ⟨n, 2, none⟩ v2).setCell ⟨n, 3, none⟩ v3).setCell ⟨n, 4, none⟩ v4).setCell ⟨n, 5, none⟩ v5).setCell ⟨n, 6, none⟩ v6).setCell ⟨n, 7, none⟩ v7).setCell ⟨n, 8, none⟩ v8).drew.cell? ⟨g, i, none⟩ = X.cell? ⟨g, i, none⟩ := by
  rw [drew_cell]; exact set9_far X n g i v0 v1 v2 v3 v4 v5 v6 v7 v8 h
theorem max_cast (a b : Nat) : (max (a : Int) (b : Int)) = ((max a b : Nat) : Int) := by omega
end Go.Proofs.Ytpjacngbkohmdaa.SynY
/- Plain mathematics: the tokens of a statement's line; a statement that is right is parsed from its line; what is parsed is right. -/
namespace Go.Proofs.Ytpjacngbkohmdaa.SynZ
set_option linter.unusedVariables false
set_option linter.unusedSimpArgs false
open Go.RowKit Go.Proofs.Ytpjacngbkohmdaa.Plain Go.Proofs.Ytpjacngbkohmdaa.SynP Go.Proofs.Ytpjacngbkohmdaa.SynQ Go.Proofs.Ytpjacngbkohmdaa.Scan2 Go.Proofs.Ytpjacngbkohmdaa.Scan3 Go.Proofs.Ytpjacngbkohmdaa.SynR Go.Proofs.Ytpjacngbkohmdaa.SynW Go.Proofs.Ytpjacngbkohmdaa.SynV Go.Proofs.Ytpjacngbkohmdaa.SynX Go.Proofs.Ytpjacngbkohmdaa.SynL Go.Proofs.Ytpjacngbkohmdaa.Syn2 Go.Proofs.Ytpjacngbkohmdaa.Syn3 Go.Proofs.Ytpjacngbkohmdaa.Syn4
def arr : ByteArray := ⟨#[32, 60, 45, 32]⟩
def ampS : ByteArray := ⟨#[32, 38, 32]⟩
theorem app_list (a b : ByteArray) : (a ++ b).data.toList = a.data.toList ++ b.data.toList := by
  rw [ByteArray.data_append, Array.toList_append]
theorem text_eqR (r : Rl) : text r = textR r := rfl
/-- What stands ahead of a statement's body. -/
theorem run_head {h : Rl} {body : ByteArray} (hh : h.ok = true) : ∃ k L, (textR h ++ arr ++ body).data.toList.drop k = body.data.toList ∧ L = roleTk h 0 ++ [⟨4, arrow, (textR h).size + 1 + 1⟩] ∧ tkRun (textR h ++ arr ++ body) 0 [] = tkRun (textR h ++ arr ++ body) k L ∧ k = (textR h).size + 4 := by
  have e : (textR h ++ arr ++ body).data.toList = (textR h).data.toList ++ (32 :: 60 :: 45 :: 32 :: body.data.toList) := by
    rw [app_list, app_list, List.append_assoc]; rfl
  obtain ⟨a1, b1⟩ := run_role (s := textR h ++ arr ++ body) (k := 0) (L := []) (rest := 32 :: 60 :: 45 :: 32 :: body.data.toList) (by rw [List.drop_zero]; exact e) hh (stops_sp _)
  obtain ⟨a2, b2⟩ := run_sp (L := [] ++ roleTk h 0) b1
  obtain ⟨a3, b3⟩ := run_arrow (L := [] ++ roleTk h 0) b2
  obtain ⟨a4, b4⟩ := run_sp (L := [] ++ roleTk h 0 ++ [⟨4, arrow, 0 + (textR h).size + 1 + 1⟩]) b3
  refine ⟨_, _, b4, ?_, by rw [a1, a2, a3, a4], by omega⟩
  simp
theorem body_ne35 {h : Rl} {body : ByteArray} (hh : h.ok = true) (hb : ∀ c ∈ body.data.toList, c ≠ 35) : ∀ c ∈ (textR h ++ arr ++ body).data.toList, c ≠ 35 := by
  intro c hc
  rw [app_list, app_list] at hc
  rcases List.mem_append.1 hc with hc | hc
  · rcases List.mem_append.1 hc with hc | hc
    · exact role_ne35 hh c hc
    · rcases (by simpa [arr] using hc : c = 32 ∨ c = 60 ∨ c = 45 ∨ c = 32) with rfl | rfl | rfl | rfl <;> decide
  · exact hb c hc
/-- The tokens of a line, out of those of its body. -/
theorem line_toks {h : Rl} {body : ByteArray} (hh : h.ok = true) (hb : ∀ c ∈ body.data.toList, c ≠ 35) (hs : body.size ≤ 100) {k : Nat} (hk : k = (textR h).size + 4) {M : List Tk}
    (hM : ∀ (s : ByteArray) (L : List Tk), s.data.toList.drop k = body.data.toList → tkRun s k L = .ok (L ++ M)) : ansOf (textR h ++ arr ++ body) = .ok (roleTk h 0 ++ [⟨4, arrow, (textR h).size + 1 + 1⟩] ++ M) := by
  obtain ⟨k', L, h1, h2, h3, h4⟩ := run_head (body := body) hh
  have hz := role_size hh
  have e : (textR h ++ arr ++ body).size = (textR h).size + 4 + body.size := by rw [ByteArray.size_append, ByteArray.size_append]; rfl
  unfold ansOf
  rw [if_neg (by omega), bare_no35 (body_ne35 hh hb), h3, h4, ← hk, ← h2]
  exact hM _ L (by rw [hk, ← h4]; exact h1)
theorem toks1 {h : Rl} {w : ByteArray} (hh : h.ok = true) (hw : named capB w.data.toList = true) : ansOf (textR h ++ arr ++ w) = .ok (roleTk h 0 ++ [⟨4, arrow, (textR h).size + 1 + 1⟩] ++ [⟨1, w, (textR h).size + 4 + 1⟩]) := by
  obtain ⟨_, _, _, _, _, _, h8, _⟩ := named_cons hw
  refine line_toks hh (named_ne35 hw) (by omega) rfl ?_
  intro s L hd
  obtain ⟨a, b⟩ := run_cap (L := L) (w := w) (rest := []) (by simpa using hd) hw stops_nil
  rw [a]; exact run_done b
theorem toks2 {h a : Rl} (hh : h.ok = true) (ha : a.ok = true) : ansOf (textR h ++ arr ++ textR a) = .ok (roleTk h 0 ++ [⟨4, arrow, (textR h).size + 1 + 1⟩] ++ roleTk a ((textR h).size + 4)) := by
  have := role_size ha
  refine line_toks hh (role_ne35 ha) (by omega) rfl ?_
  intro s L hd
  obtain ⟨x, y⟩ := run_role (L := L) (r := a) (rest := []) (by simpa using hd) ha stops_nil
  rw [x]; exact run_done y
theorem toks3 {h a : Rl} {v : ByteArray} (hh : h.ok = true) (ha : a.ok = true) (hv : named smallB v.data.toList = true) : ∃ c1 c2, ansOf (textR h ++ arr ++ (textR a ++ ⟨#[46]⟩ ++ v)) = .ok (roleTk h 0 ++ [⟨4, arrow, (textR h).size + 1 + 1⟩] ++ (roleTk a ((textR h).size + 4) ++ [⟨3, dot, c1⟩] ++ [⟨2, v, c2⟩])) := by
  have := role_size ha
  obtain ⟨_, _, _, _, _, _, h8, _⟩ := named_cons hv
  refine ⟨(textR h).size + 4 + (textR a).size + 1, (textR h).size + 4 + (textR a).size + 1 + 1, line_toks hh ?_ (by rw [ByteArray.size_append, ByteArray.size_append]; show _ + 1 + _ ≤ _; omega) rfl ?_⟩
  · intro c hc
    rw [app_list, app_list] at hc
    rcases List.mem_append.1 hc with hc | hc
    · rcases List.mem_append.1 hc with hc | hc
      · exact role_ne35 ha c hc
      · rcases (by simpa using hc : c = 46) with rfl; decide
    · exact named_ne35 hv c hc
  · intro s L hd
    have hd' : s.data.toList.drop ((textR h).size + 4) = (textR a).data.toList ++ (46 :: (v.data.toList ++ [])) := by
      rw [hd, app_list, app_list]; simp
    obtain ⟨x1, y1⟩ := run_role (L := L) (r := a) hd' ha (stops_dot _)
    obtain ⟨x2, y2⟩ := run_dot (L := L ++ roleTk a ((textR h).size + 4)) y1
    obtain ⟨x3, y3⟩ := run_small (L := L ++ roleTk a ((textR h).size + 4) ++ [⟨3, dot, (textR h).size + 4 + (textR a).size + 1⟩]) y2 hv stops_nil
    rw [x1, x2, x3, run_done y3]; simp
theorem toks4 {h a b : Rl} (hh : h.ok = true) (ha : a.ok = true) (hb : b.ok = true) : ∃ c1 c2, ansOf (textR h ++ arr ++ (textR a ++ ampS ++ textR b)) = .ok (roleTk h 0 ++ [⟨4, arrow, (textR h).size + 1 + 1⟩] ++ (roleTk a ((textR h).size + 4) ++ [⟨5, amp, c1⟩] ++ roleTk b c2)) := by
  have := role_size ha
  have := role_size hb
  refine ⟨(textR h).size + 4 + (textR a).size + 1 + 1, (textR h).size + 4 + (textR a).size + 1 + 1 + 1, line_toks hh ?_ (by rw [ByteArray.size_append, ByteArray.size_append]; show _ + 3 + _ ≤ _; omega) rfl ?_⟩
  · intro c hc
    rw [app_list, app_list] at hc
    rcases List.mem_append.1 hc with hc | hc
    · rcases List.mem_append.1 hc with hc | hc
      · exact role_ne35 ha c hc
      · rcases (by simpa [ampS] using hc : c = 32 ∨ c = 38 ∨ c = 32) with rfl | rfl | rfl <;> decide
    · exact role_ne35 hb c hc
  · intro s L hd
    have hd' : s.data.toList.drop ((textR h).size + 4) = (textR a).data.toList ++ (32 :: 38 :: 32 :: ((textR b).data.toList ++ [])) := by
      rw [hd, app_list, app_list]; simp [ampS]
    obtain ⟨x1, y1⟩ := run_role (L := L) (r := a) hd' ha (stops_sp _)
    obtain ⟨x2, y2⟩ := run_sp (L := L ++ roleTk a ((textR h).size + 4)) y1
    obtain ⟨x3, y3⟩ := run_amp (L := L ++ roleTk a ((textR h).size + 4)) y2
    obtain ⟨x4, y4⟩ := run_sp (L := L ++ roleTk a ((textR h).size + 4) ++ [⟨5, amp, (textR h).size + 4 + (textR a).size + 1 + 1⟩]) y3
    obtain ⟨x5, y5⟩ := run_role (L := L ++ roleTk a ((textR h).size + 4) ++ [⟨5, amp, (textR h).size + 4 + (textR a).size + 1 + 1⟩]) (r := b) y4 hb stops_nil
    rw [x1, x2, x3, x4, x5, run_done y5]; simp
theorem cmpR_anti (a b : Rl) : cmpR b a = - cmpR a b := by
  unfold cmpR
  rw [cmpB_anti a.owner b.owner, cmpB_anti a.name b.name]
  by_cases h : cmpB a.owner b.owner = 0
  · rw [h, Int.neg_zero, orL_cons0, orL_cons0, orL_one, orL_one]
  · rw [orL_cons1 _ h, orL_cons1 _ (by omega)]
theorem normal_other {s : St} (h : s.kind ≠ 4) : s.normal = s := if_neg (fun e => h e.1)
theorem parsed {t : ByteArray} {L : List Tk} {k : Nat} (h : ansOf t = .ok L) (h1 : 1 ≤ k) (h4 : k ≤ 4) (hk : kindsOf L = shapeK k) : ansOf t = .ok L ∧ parseL L = ((stmtOf k L).normal, 0, 0) := ⟨h, parseL_hit h1 h4 hk⟩
/-- A right statement's parts. -/
theorem right_all {s : St} (h : s.right = true) : s.head.ok = true ∧ ((s.kind = 1 ∧ named capB s.who.data.toList = true ∧ s.a = zeroR ∧ s.b = zeroR ∧ s.via = noText) ∨ (s.kind = 2 ∧ s.who = noText ∧ s.a.ok = true ∧ s.b = zeroR ∧ s.via = noText) ∨
    (s.kind = 3 ∧ s.who = noText ∧ s.a.ok = true ∧ s.b = zeroR ∧ named smallB s.via.data.toList = true) ∨ (s.kind = 4 ∧ s.who = noText ∧ s.a.ok = true ∧ s.b.ok = true ∧ ¬ cmpR s.b s.a < 0 ∧ s.via = noText)) := by
  obtain ⟨k, hd, wh, a, b, v⟩ := s
  unfold St.right at h
  simp only [Bool.and_eq_true, decide_eq_true_eq] at h
  obtain ⟨⟨h1, h2⟩, h3⟩ := h
  refine ⟨h1, ?_⟩
  rcases kinds k with rfl | rfl | rfl | rfl | ⟨n1, n2, n3, n4⟩
  rotate_left 4
  · unfold St.says at h2
    rw [if_neg n1, if_neg n2, if_neg n3, if_neg n4] at h2; cases h2
  · have h3' : (⟨1, hd, wh, a, b, v⟩ : St) = ⟨1, hd, wh, zeroR, zeroR, noText⟩ := h3
    injection h3' with _ _ _ ea eb ev
    exact .inl ⟨rfl, h2, ea, eb, ev⟩
  · have h3' : (⟨2, hd, wh, a, b, v⟩ : St) = ⟨2, hd, noText, a, zeroR, noText⟩ := h3
    injection h3' with _ _ ew _ eb ev
    exact .inr (.inl ⟨rfl, ew, h2, eb, ev⟩)
  · have h3' : (⟨3, hd, wh, a, b, v⟩ : St) = ⟨3, hd, noText, a, zeroR, v⟩ := h3
    injection h3' with _ _ ew _ eb _
    have h2' : (a.ok && named smallB v.data.toList) = true := h2
    rw [Bool.and_eq_true] at h2'
    exact .inr (.inr (.inl ⟨rfl, ew, h2'.1, eb, h2'.2⟩))
  · have h3' : (⟨4, hd, wh, a, b, v⟩ : St) = ⟨4, hd, noText, a, b, noText⟩ := h3
    injection h3' with _ _ ew _ _ ev
    have h2' : (a.ok && b.ok && !decide (cmpR b a < 0)) = true := h2
    simp only [Bool.and_eq_true, Bool.not_eq_true', decide_eq_false_iff_not] at h2'
    exact .inr (.inr (.inr ⟨rfl, ew, h2'.1.1, h2'.1.2, h2'.2, ev⟩))
theorem line_right {s : St} (h : s.right = true) : line s = textR s.head ++ arr ++ body s := if_pos h
/-- A right statement is parsed from its line. -/
theorem parse_line {s : St} (h : s.right = true) : ∃ L, ansOf (line s) = .ok L ∧ parseL L = (s, 0, 0) := by
  obtain ⟨hh, hc⟩ := right_all h
  rw [line_right h]
  obtain ⟨k, hd, wh, a, b, v⟩ := s
  simp only at hh hc
  rcases hc with ⟨rfl, hw, rfl, rfl, rfl⟩ | ⟨rfl, rfl, ha, rfl, rfl⟩ | ⟨rfl, rfl, ha, rfl, hv⟩ | ⟨rfl, rfl, ha, hb, hle, rfl⟩
  · obtain ⟨e1, e2⟩ := parsed (k := 1) (toks1 hh hw) (by omega) (by omega) rfl
    refine ⟨_, e1, ?_⟩
    rw [e2]
    rw [normal_other (show ((1 : Nat) : Int) ≠ 4 by decide)]; rfl
  · obtain ⟨e1, e2⟩ := parsed (k := 2) (toks2 hh ha) (by omega) (by omega) rfl
    refine ⟨_, e1, ?_⟩
    rw [e2]
    rw [normal_other (show ((2 : Nat) : Int) ≠ 4 by decide)]; rfl
  · obtain ⟨c1, c2, ht⟩ := toks3 hh ha hv
    obtain ⟨e1, e2⟩ := parsed (k := 3) ht (by omega) (by omega) rfl
    refine ⟨_, e1, ?_⟩
    rw [e2]
    rw [normal_other (show ((3 : Nat) : Int) ≠ 4 by decide)]; rfl
  · obtain ⟨c1, c2, ht⟩ := toks4 hh ha hb
    obtain ⟨e1, e2⟩ := parsed (k := 4) ht (by omega) (by omega) rfl
    refine ⟨_, e1, ?_⟩
    rw [e2]
    unfold St.normal; rw [if_neg (fun e => hle e.2)]; rfl
theorem role_ok {a c : Tk} (ha : goodTk a) (hc : goodTk c) (ka : a.kind = 1) (kc : c.kind = 2) : Rl.ok ⟨a.text, c.text⟩ = true := by
  unfold Rl.ok; rw [Bool.and_eq_true]; exact ⟨good1 ha ka, good2 hc kc⟩
theorem right_of {s : St} (h1 : s.head.ok = true) (h2 : s.says = true) (h3 : s = s.own) : s.right = true := by
  unfold St.right; rw [h1, h2, decide_eq_true h3]; rfl
/-- What good tokens are parsed as may be. -/
theorem stmt_right {L : List Tk} {k : Nat} (h1 : 1 ≤ k) (h4 : k ≤ 4) (hg : ∀ t ∈ L, goodTk t) (hk : kindsOf L = shapeK k) : (stmtOf k L).normal.right = true := by
  have hl := len_of_kinds hk
  match k, h1, h4, hk, hl with
  | 1, _, _, hk, hl =>
    match L, hl, hk, hg with
    | [t0, t1, t2, t3, t4], _, hk, hg =>
      have e : (stmtOf 1 [t0, t1, t2, t3, t4]).normal = ⟨1, ⟨t0.text, t2.text⟩, t4.text, zeroR, zeroR, noText⟩ := normal_other (show ((1 : Nat) : Int) ≠ 4 by decide)
      rw [e]
      exact right_of (role_ok (hg t0 (by simp)) (hg t2 (by simp)) (kind_at hk 0 (by simp)) (kind_at hk 2 (by simp))) (good1 (hg t4 (by simp)) (kind_at hk 4 (by simp))) rfl
  | 2, _, _, hk, hl =>
    match L, hl, hk, hg with
    | [t0, t1, t2, t3, t4, t5, t6], _, hk, hg =>
      have e : (stmtOf 2 [t0, t1, t2, t3, t4, t5, t6]).normal = ⟨2, ⟨t0.text, t2.text⟩, noText, ⟨t4.text, t6.text⟩, zeroR, noText⟩ := normal_other (show ((2 : Nat) : Int) ≠ 4 by decide)
      rw [e]
      exact right_of (role_ok (hg t0 (by simp)) (hg t2 (by simp)) (kind_at hk 0 (by simp)) (kind_at hk 2 (by simp))) (role_ok (hg t4 (by simp)) (hg t6 (by simp)) (kind_at hk 4 (by simp)) (kind_at hk 6 (by simp))) rfl
  | 3, _, _, hk, hl =>
    match L, hl, hk, hg with
    | [t0, t1, t2, t3, t4, t5, t6, t7, t8], _, hk, hg =>
      have e : (stmtOf 3 [t0, t1, t2, t3, t4, t5, t6, t7, t8]).normal = ⟨3, ⟨t0.text, t2.text⟩, noText, ⟨t4.text, t6.text⟩, zeroR, t8.text⟩ := normal_other (show ((3 : Nat) : Int) ≠ 4 by decide)
      rw [e]
      refine right_of (role_ok (hg t0 (by simp)) (hg t2 (by simp)) (kind_at hk 0 (by simp)) (kind_at hk 2 (by simp))) ?_ rfl
      show (Rl.ok ⟨t4.text, t6.text⟩ && named smallB t8.text.data.toList) = true
      rw [role_ok (hg t4 (by simp)) (hg t6 (by simp)) (kind_at hk 4 (by simp)) (kind_at hk 6 (by simp)), good2 (hg t8 (by simp)) (kind_at hk 8 (by simp))]; rfl
  | 4, _, _, hk, hl =>
    match L, hl, hk, hg with
    | [t0, t1, t2, t3, t4, t5, t6, t7, t8, t9, t10], _, hk, hg =>
      have r1 := role_ok (hg t4 (by simp)) (hg t6 (by simp)) (kind_at hk 4 (by simp)) (kind_at hk 6 (by simp))
      have r2 := role_ok (hg t8 (by simp)) (hg t10 (by simp)) (kind_at hk 8 (by simp)) (kind_at hk 10 (by simp))
      have r0 := role_ok (hg t0 (by simp)) (hg t2 (by simp)) (kind_at hk 0 (by simp)) (kind_at hk 2 (by simp))
      by_cases hc : cmpR ⟨t8.text, t10.text⟩ ⟨t4.text, t6.text⟩ < 0
      · have e : (stmtOf 4 [t0, t1, t2, t3, t4, t5, t6, t7, t8, t9, t10]).normal = ⟨4, ⟨t0.text, t2.text⟩, noText, ⟨t8.text, t10.text⟩, ⟨t4.text, t6.text⟩, noText⟩ := if_pos ⟨rfl, hc⟩
        rw [e]
        refine right_of r0 ?_ rfl
        show (Rl.ok ⟨t8.text, t10.text⟩ && Rl.ok ⟨t4.text, t6.text⟩ && !decide (cmpR ⟨t4.text, t6.text⟩ ⟨t8.text, t10.text⟩ < 0)) = true
        rw [r1, r2, decide_eq_false (by rw [cmpR_anti ⟨t8.text, t10.text⟩ ⟨t4.text, t6.text⟩]; omega)]; rfl
      · have e : (stmtOf 4 [t0, t1, t2, t3, t4, t5, t6, t7, t8, t9, t10]).normal = ⟨4, ⟨t0.text, t2.text⟩, noText, ⟨t4.text, t6.text⟩, ⟨t8.text, t10.text⟩, noText⟩ := if_neg (fun e => hc e.2)
        rw [e]
        refine right_of r0 ?_ rfl
        show (Rl.ok ⟨t4.text, t6.text⟩ && Rl.ok ⟨t8.text, t10.text⟩ && !decide (cmpR ⟨t8.text, t10.text⟩ ⟨t4.text, t6.text⟩ < 0)) = true
        rw [r1, r2, decide_eq_false hc]; rfl
end Go.Proofs.Ytpjacngbkohmdaa.SynZ
/- The document's example of a statement. -/
namespace Go.Proofs.Ytpjacngbkohmdaa.SynN
set_option linter.unusedVariables false
set_option linter.unusedSimpArgs false
open Go.RowKit Go.Sort Go.Proofs Go.Proofs.Ytpjacngbkohmdaa.Plain Go.Proofs.Ytpjacngbkohmdaa.SynP Go.Proofs.Ytpjacngbkohmdaa.SynQ Go.Proofs.Ytpjacngbkohmdaa.Grown Go.Proofs.Ytpjacngbkohmdaa.SynW Go.Proofs.Ytpjacngbkohmdaa.Scan3 Go.Proofs.Ytpjacngbkohmdaa.Syn7 Go.Proofs.Ytpjacngbkohmdaa.SynL Go.Proofs.Ytpjacngbkohmdaa.SynX Go.Proofs.Ytpjacngbkohmdaa.SynY Go.Proofs.Ytpjacngbkohmdaa.SynZ
set_option linter.unusedVariables false
set_option linter.unusedSimpArgs false
def ex : ByteArray := ⟨#[65, 46, 114, 32, 60, 45, 32, 66, 46, 115, 32, 38, 32, 65, 46, 115]⟩
def exH : Rl := ⟨⟨#[65]⟩, ⟨#[114]⟩⟩
def exA : Rl := ⟨⟨#[65]⟩, ⟨#[115]⟩⟩
def exB : Rl := ⟨⟨#[66]⟩, ⟨#[115]⟩⟩
def exS : St := ⟨4, exH, noText, exA, exB, noText⟩
theorem ex_eq : ex = textR exH ++ arr ++ (textR exB ++ ampS ++ textR exA) := by
  apply ba_ext; decide +kernel
theorem ex_okH : exH.ok = true := by decide +kernel
theorem ex_okA : exA.ok = true := by decide +kernel
theorem ex_okB : exB.ok = true := by decide +kernel
theorem ex_lt : cmpR exA exB < 0 := by decide +kernel
theorem ex_parse : parseA (ansOf ex) = (exS, 0, 0) := by
  obtain ⟨c1, c2, ht⟩ := toks4 ex_okH ex_okB ex_okA
  obtain ⟨e1, e2⟩ := parsed (k := 4) ht (by omega) (by omega) rfl
  rw [ex_eq, e1]
  show parseL _ = _
  rw [e2]
  have : (stmtOf 4 (roleTk exH 0 ++ [⟨4, SynR.arrow, (textR exH).size + 1 + 1⟩] ++ (roleTk exB ((textR exH).size + 4) ++ [⟨5, SynR.amp, c1⟩] ++ roleTk exA c2))) = ⟨4, exH, noText, exB, exA, noText⟩ := rfl
  rw [this]
  have h : St.normal ⟨4, exH, noText, exB, exA, noText⟩ = ⟨4, exH, noText, exA, exB, noText⟩ := if_pos ⟨rfl, ex_lt⟩
  rw [h]; rfl
theorem ex_right : exS.right = true := by
  refine right_of ex_okH ?_ rfl
  show (exA.ok && exB.ok && !decide (cmpR exB exA < 0)) = true
  rw [ex_okA, ex_okB, decide_eq_false (by have := ex_lt; rw [cmpR_anti exA exB]; omega)]; rfl
theorem ex_line : line exS = ⟨#[65, 46, 114, 32, 60, 45, 32, 65, 46, 115, 32, 38, 32, 66, 46, 115]⟩ := by
  rw [line_right ex_right]
  apply ba_ext; decide +kernel
theorem ex_fit : exS.fit := by
  refine ⟨⟨?_, ?_⟩, ?_, ⟨?_, ?_⟩, ⟨?_, ?_⟩, ?_⟩ <;> (show _ ≤ 9223372036854775807; decide)
end Go.Proofs.Ytpjacngbkohmdaa.SynN
/- Which statements are light. -/
namespace Go.Proofs.Ytpjacngbkohmdaa.SynM
set_option linter.unusedVariables false
set_option linter.unusedSimpArgs false
open Go.RowKit Go.Sort Go.Proofs Go.Proofs.Ytpjacngbkohmdaa.Plain Go.Proofs.Ytpjacngbkohmdaa.SynP Go.Proofs.Ytpjacngbkohmdaa.Grown Go.Proofs.Ytpjacngbkohmdaa.Syn1
set_option linter.unusedVariables false
set_option linter.unusedSimpArgs false
def textsOf (s : St) : List ByteArray := [s.who, s.via, s.head.owner, s.head.name, s.a.owner, s.a.name, s.b.owner, s.b.name]
def lightL (l : List ByteArray) : Bool := l.all fun x => decide (x.size ≤ 40)
def lightS (s : St) : Bool := lightL (textsOf s)
theorem light_no {l : List ByteArray} {k : Nat} (h : k < l.length) (hk : ¬ l[k].size ≤ 40) : lightL l = false := by
  unfold lightL
  rw [List.all_eq_false]
  exact ⟨l[k], List.getElem_mem _, by simp; omega⟩
theorem light_yes {l : List ByteArray} (h : ∀ k, (hk : k < l.length) → l[k].size ≤ 40) : lightL l = true := by
  unfold lightL
  rw [List.all_eq_true]
  intro x hx
  obtain ⟨k, hk, rfl⟩ := List.getElem_of_mem hx
  simpa using h k hk
set_option maxRecDepth 100000 in
theorem light (s : St) (w : World) : Calls Try.prog 8 #[s.val] w fun e w' => e = .returned (.bool (lightS s)) ∧ Grew w w' := by
  have hl : (textsOf s).length = 8 := rfl
  obtain ⟨k1, ⟨ho, hn⟩, wh, ⟨ao, an⟩, ⟨bo, bn⟩, v⟩ := s
  have hT : textsOf ⟨k1, ⟨ho, hn⟩, wh, ⟨ao, an⟩, ⟨bo, bn⟩, v⟩ = [wh, v, ho, hn, ao, an, bo, bn] := rfl
  unfold lightS
  unfold St.val
  go_enter Try.func8, Try.ntmps8
  go_wp2
  have hrow : ∀ k, (h : k < (textsOf ⟨k1, ⟨ho, hn⟩, wh, ⟨ao, an⟩, ⟨bo, bn⟩, v⟩).length) → ((w.alloc (.cells #[.int .i64 k1, .string ho, .string hn, .string wh, .string ao, .string an, .string bo, .string bn, .string v] 26)).alloc (.cells #[.string wh, .string v, .string ho, .string hn, .string ao, .string an, .string bo, .string bn] 9)).cell? ⟨w.heap.size + 1, k, none⟩ = some (.string (textsOf ⟨k1, ⟨ho, hn⟩, wh, ⟨ao, an⟩, ⟨bo, bn⟩, v⟩)[k]) := fun k h => by
    have := Lib.cell_of_heap (heap_alloc_new (w.alloc (.cells #[.int .i64 k1, .string ho, .string hn, .string wh, .string ao, .string an, .string bo, .string bn, .string v] 26)) (.cells #[.string wh, .string v, .string ho, .string hn, .string ao, .string an, .string bo, .string bn] 9)) k
    rw [World.size_alloc] at this
    rw [this]
    match k, h with
    | 0, _ => rfl
    | 1, _ => rfl
    | 2, _ => rfl
    | 3, _ => rfl
    | 4, _ => rfl
    | 5, _ => rfl
    | 6, _ => rfl
    | 7, _ => rfl
  clear hT
  have Hrow := Lib.hid hrow
  have Hl := Lib.hid hl
  clear hrow hl
  generalize hE : textsOf ⟨k1, ⟨ho, hn⟩, wh, ⟨ao, an⟩, ⟨bo, bn⟩, v⟩ = l at *
  have HE := Lib.hid hE
  clear hE
  go_loop [29] (fun i => ∃ k : Nat, k ≤ 8 ∧ i = .int .i64 k ∧ Hid (∀ j, (h : j < l.length) → j < k → l[j].size ≤ 40)) (fun i => 8 - (intOf i).toNat)
  case atStart => exact ⟨0, by omega, rfl, Lib.hid fun j _ hj => by omega⟩
  case round =>
    obtain ⟨k, hk, rfl, hall⟩ := hrel
    by_cases hlt : k < 8
    · have hkl : k < l.length := by rw [Hl.out]; exact hlt
      have hc := Hrow.out k hkl
      have p1 : (0 : Int) ≤ k := by omega
      have p2 : (k : Int) < 8 := by omega
      by_cases h40 : l[k].size ≤ 40
      · have hnext : Hid (∀ j, (h : j < l.length) → j < k + 1 → l[j].size ≤ 40) := Lib.hid fun j h hj => by
          by_cases e : j = k
          · subst e; exact h40
          · exact hall.out j h (by omega)
        clear hall
        go_wp2_with fail
        go_round
        case rel => exact ⟨k + 1, by omega, by go_num, hnext⟩
        case measure => simp [intOf]; omega
      · have hf := Lib.hid (light_no hkl h40)
        have h41 : 40 < l[k].size := by omega
        clear hall h40
        go_wp2_with fail
        go_ret
        exact ⟨ret_bool (by rw [HE.out]; exact hf.out.symm), ((Grew.refl _).alloc _).alloc _⟩
    · have hf := Lib.hid (light_yes (fun j h => hall.out j h (by rw [Hl.out] at h; omega)))
      clear hall
      go_wp2_with fail
      go_ret
      exact ⟨ret_bool (by rw [HE.out]; exact hf.out.symm), ((Grew.refl _).alloc _).alloc _⟩
theorem light_size {s : St} (h : lightS s = true) : s.head.owner.size ≤ 1000 ∧ s.head.name.size ≤ 1000 := by
  unfold lightS lightL textsOf at h
  simp at h
  omega
end Go.Proofs.Ytpjacngbkohmdaa.SynM
