/- Plain mathematics: the tokens of a statement's line; a statement that is right is parsed from its line; what is parsed is right. -/
import Derived.Test.YtofhiolmaojihaaSynX
import Derived.Test.YtofhiolmaojihaaSynL
namespace Go.Proofs.Ytofhiolmaojihaa.SynZ
open Go.RowKit Go.Proofs.Ytofhiolmaojihaa.Plain Go.Proofs.Ytofhiolmaojihaa.SynP Go.Proofs.Ytofhiolmaojihaa.SynQ Go.Proofs.Ytofhiolmaojihaa.Scan2 Go.Proofs.Ytofhiolmaojihaa.Scan3 Go.Proofs.Ytofhiolmaojihaa.SynR Go.Proofs.Ytofhiolmaojihaa.SynW Go.Proofs.Ytofhiolmaojihaa.SynV Go.Proofs.Ytofhiolmaojihaa.SynX Go.Proofs.Ytofhiolmaojihaa.SynL Go.Proofs.Ytofhiolmaojihaa.Syn2 Go.Proofs.Ytofhiolmaojihaa.Syn3 Go.Proofs.Ytofhiolmaojihaa.Syn4
def arr : ByteArray := ⟨#[32, 60, 45, 32]⟩
def ampS : ByteArray := ⟨#[32, 38, 32]⟩
theorem app_list (a b : ByteArray) : (a ++ b).data.toList = a.data.toList ++ b.data.toList := by
  rw [ByteArray.data_append, Array.toList_append]
theorem text_eqR (r : Rl) : text r = textR r := rfl
/-- What stands ahead of a statement's body. -/
theorem run_head {h : Rl} {body : ByteArray} (hh : h.ok = true) : ∃ k L, (textR h ++ arr ++ body).data.toList.drop k = body.data.toList ∧ L = roleTk h 0 ++ [⟨4, arrow, (textR h).size + 1 + 1⟩] ∧ tkRun (textR h ++ arr ++ body) 0 [] = tkRun (textR h ++ arr ++ body) k L ∧ k = (textR h).size + 4 := by
  have e : (textR h ++ arr ++ body).data.toList = (textR h).data.toList ++ (32 :: 60 :: 45 :: 32 :: body.data.toList) := by
    rw [app_list, app_list, List.append_assoc]; rfl
  obtain ⟨a1, b1⟩ := run_role (s := textR h ++ arr ++ body) (k := 0) (L := []) (rest := 32 :: 60 :: 45 :: 32 :: body.data.toList) (by rw [List.drop_zero]; exact e) hh (stops_sp _)
  obtain ⟨a2, b2⟩ := run_sp (L := [] ++ roleTk h 0) b1
  obtain ⟨a3, b3⟩ := run_arrow (L := [] ++ roleTk h 0) b2
  obtain ⟨a4, b4⟩ := run_sp (L := [] ++ roleTk h 0 ++ [⟨4, arrow, 0 + (textR h).size + 1 + 1⟩]) b3
  refine ⟨_, _, b4, ?_, by rw [a1, a2, a3, a4], by omega⟩
  simp
theorem body_ne35 {h : Rl} {body : ByteArray} (hh : h.ok = true) (hb : ∀ c ∈ body.data.toList, c ≠ 35) : ∀ c ∈ (textR h ++ arr ++ body).data.toList, c ≠ 35 := by
  intro c hc
  rw [app_list, app_list] at hc
  rcases List.mem_append.1 hc with hc | hc
  · rcases List.mem_append.1 hc with hc | hc
    · exact role_ne35 hh c hc
    · rcases (by simpa [arr] using hc : c = 32 ∨ c = 60 ∨ c = 45 ∨ c = 32) with rfl | rfl | rfl | rfl <;> decide
  · exact hb c hc
/-- The tokens of a line, out of those of its body. -/
theorem line_toks {h : Rl} {body : ByteArray} (hh : h.ok = true) (hb : ∀ c ∈ body.data.toList, c ≠ 35) (hs : body.size ≤ 100) {k : Nat} (hk : k = (textR h).size + 4) {M : List Tk}
    (hM : ∀ (s : ByteArray) (L : List Tk), s.data.toList.drop k = body.data.toList → tkRun s k L = .ok (L ++ M)) : ansOf (textR h ++ arr ++ body) = .ok (roleTk h 0 ++ [⟨4, arrow, (textR h).size + 1 + 1⟩] ++ M) := by
  obtain ⟨k', L, h1, h2, h3, h4⟩ := run_head (body := body) hh
  have hz := role_size hh
  have e : (textR h ++ arr ++ body).size = (textR h).size + 4 + body.size := by rw [ByteArray.size_append, ByteArray.size_append]; rfl
  unfold ansOf
  rw [if_neg (by omega), bare_no35 (body_ne35 hh hb), h3, h4, ← hk, ← h2]
  exact hM _ L (by rw [hk, ← h4]; exact h1)
theorem toks1 {h : Rl} {w : ByteArray} (hh : h.ok = true) (hw : named capB w.data.toList = true) : ansOf (textR h ++ arr ++ w) = .ok (roleTk h 0 ++ [⟨4, arrow, (textR h).size + 1 + 1⟩] ++ [⟨1, w, (textR h).size + 4 + 1⟩]) := by
  obtain ⟨_, _, _, _, _, _, h8, _⟩ := named_cons hw
  refine line_toks hh (named_ne35 hw) (by omega) rfl ?_
  intro s L hd
  obtain ⟨a, b⟩ := run_cap (L := L) (w := w) (rest := []) (by simpa using hd) hw stops_nil
  rw [a]; exact run_done b
theorem toks2 {h a : Rl} (hh : h.ok = true) (ha : a.ok = true) : ansOf (textR h ++ arr ++ textR a) = .ok (roleTk h 0 ++ [⟨4, arrow, (textR h).size + 1 + 1⟩] ++ roleTk a ((textR h).size + 4)) := by
  have := role_size ha
  refine line_toks hh (role_ne35 ha) (by omega) rfl ?_
  intro s L hd
  obtain ⟨x, y⟩ := run_role (L := L) (r := a) (rest := []) (by simpa using hd) ha stops_nil
  rw [x]; exact run_done y
theorem toks3 {h a : Rl} {v : ByteArray} (hh : h.ok = true) (ha : a.ok = true) (hv : named smallB v.data.toList = true) : ∃ c1 c2, ansOf (textR h ++ arr ++ (textR a ++ ⟨#[46]⟩ ++ v)) = .ok (roleTk h 0 ++ [⟨4, arrow, (textR h).size + 1 + 1⟩] ++ (roleTk a ((textR h).size + 4) ++ [⟨3, dot, c1⟩] ++ [⟨2, v, c2⟩])) := by
  have := role_size ha
  obtain ⟨_, _, _, _, _, _, h8, _⟩ := named_cons hv
  refine ⟨(textR h).size + 4 + (textR a).size + 1, (textR h).size + 4 + (textR a).size + 1 + 1, line_toks hh ?_ (by rw [ByteArray.size_append, ByteArray.size_append]; show _ + 1 + _ ≤ _; omega) rfl ?_⟩
  · intro c hc
    rw [app_list, app_list] at hc
    rcases List.mem_append.1 hc with hc | hc
    · rcases List.mem_append.1 hc with hc | hc
      · exact role_ne35 ha c hc
      · rcases (by simpa using hc : c = 46) with rfl; decide
    · exact named_ne35 hv c hc
  · intro s L hd
    have hd' : s.data.toList.drop ((textR h).size + 4) = (textR a).data.toList ++ (46 :: (v.data.toList ++ [])) := by
      rw [hd, app_list, app_list]; simp
    obtain ⟨x1, y1⟩ := run_role (L := L) (r := a) hd' ha (stops_dot _)
    obtain ⟨x2, y2⟩ := run_dot (L := L ++ roleTk a ((textR h).size + 4)) y1
    obtain ⟨x3, y3⟩ := run_small (L := L ++ roleTk a ((textR h).size + 4) ++ [⟨3, dot, (textR h).size + 4 + (textR a).size + 1⟩]) y2 hv stops_nil
    rw [x1, x2, x3, run_done y3]; simp
theorem toks4 {h a b : Rl} (hh : h.ok = true) (ha : a.ok = true) (hb : b.ok = true) : ∃ c1 c2, ansOf (textR h ++ arr ++ (textR a ++ ampS ++ textR b)) = .ok (roleTk h 0 ++ [⟨4, arrow, (textR h).size + 1 + 1⟩] ++ (roleTk a ((textR h).size + 4) ++ [⟨5, amp, c1⟩] ++ roleTk b c2)) := by
  have := role_size ha
  have := role_size hb
  refine ⟨(textR h).size + 4 + (textR a).size + 1 + 1, (textR h).size + 4 + (textR a).size + 1 + 1 + 1, line_toks hh ?_ (by rw [ByteArray.size_append, ByteArray.size_append]; show _ + 3 + _ ≤ _; omega) rfl ?_⟩
  · intro c hc
    rw [app_list, app_list] at hc
    rcases List.mem_append.1 hc with hc | hc
    · rcases List.mem_append.1 hc with hc | hc
      · exact role_ne35 ha c hc
      · rcases (by simpa [ampS] using hc : c = 32 ∨ c = 38 ∨ c = 32) with rfl | rfl | rfl <;> decide
    · exact role_ne35 hb c hc
  · intro s L hd
    have hd' : s.data.toList.drop ((textR h).size + 4) = (textR a).data.toList ++ (32 :: 38 :: 32 :: ((textR b).data.toList ++ [])) := by
      rw [hd, app_list, app_list]; simp [ampS]
    obtain ⟨x1, y1⟩ := run_role (L := L) (r := a) hd' ha (stops_sp _)
    obtain ⟨x2, y2⟩ := run_sp (L := L ++ roleTk a ((textR h).size + 4)) y1
    obtain ⟨x3, y3⟩ := run_amp (L := L ++ roleTk a ((textR h).size + 4)) y2
    obtain ⟨x4, y4⟩ := run_sp (L := L ++ roleTk a ((textR h).size + 4) ++ [⟨5, amp, (textR h).size + 4 + (textR a).size + 1 + 1⟩]) y3
    obtain ⟨x5, y5⟩ := run_role (L := L ++ roleTk a ((textR h).size + 4) ++ [⟨5, amp, (textR h).size + 4 + (textR a).size + 1 + 1⟩]) (r := b) y4 hb stops_nil
    rw [x1, x2, x3, x4, x5, run_done y5]; simp
theorem cmpR_anti (a b : Rl) : cmpR b a = - cmpR a b := by
  unfold cmpR
  rw [cmpB_anti a.owner b.owner, cmpB_anti a.name b.name]
  by_cases h : cmpB a.owner b.owner = 0
  · rw [h, Int.neg_zero, orL_cons0, orL_cons0, orL_one, orL_one]
  · rw [orL_cons1 _ h, orL_cons1 _ (by omega)]
theorem normal_other {s : St} (h : s.kind ≠ 4) : s.normal = s := if_neg (fun e => h e.1)
theorem parsed {t : ByteArray} {L : List Tk} {k : Nat} (h : ansOf t = .ok L) (h1 : 1 ≤ k) (h4 : k ≤ 4) (hk : kindsOf L = shapeK k) : ansOf t = .ok L ∧ parseL L = ((stmtOf k L).normal, 0, 0) := ⟨h, parseL_hit h1 h4 hk⟩
/-- A right statement's parts. -/
theorem right_all {s : St} (h : s.right = true) : s.head.ok = true ∧ ((s.kind = 1 ∧ named capB s.who.data.toList = true ∧ s.a = zeroR ∧ s.b = zeroR ∧ s.via = noText) ∨ (s.kind = 2 ∧ s.who = noText ∧ s.a.ok = true ∧ s.b = zeroR ∧ s.via = noText) ∨
    (s.kind = 3 ∧ s.who = noText ∧ s.a.ok = true ∧ s.b = zeroR ∧ named smallB s.via.data.toList = true) ∨ (s.kind = 4 ∧ s.who = noText ∧ s.a.ok = true ∧ s.b.ok = true ∧ ¬ cmpR s.b s.a < 0 ∧ s.via = noText)) := by
  obtain ⟨k, hd, wh, a, b, v⟩ := s
  unfold St.right at h
  simp only [Bool.and_eq_true, decide_eq_true_eq] at h
  obtain ⟨⟨h1, h2⟩, h3⟩ := h
  refine ⟨h1, ?_⟩
  rcases kinds k with rfl | rfl | rfl | rfl | ⟨n1, n2, n3, n4⟩
  rotate_left 4
  · unfold St.says at h2
    rw [if_neg n1, if_neg n2, if_neg n3, if_neg n4] at h2; cases h2
  · have h3' : (⟨1, hd, wh, a, b, v⟩ : St) = ⟨1, hd, wh, zeroR, zeroR, noText⟩ := h3
    injection h3' with _ _ _ ea eb ev
    exact .inl ⟨rfl, h2, ea, eb, ev⟩
  · have h3' : (⟨2, hd, wh, a, b, v⟩ : St) = ⟨2, hd, noText, a, zeroR, noText⟩ := h3
    injection h3' with _ _ ew _ eb ev
    exact .inr (.inl ⟨rfl, ew, h2, eb, ev⟩)
  · have h3' : (⟨3, hd, wh, a, b, v⟩ : St) = ⟨3, hd, noText, a, zeroR, v⟩ := h3
    injection h3' with _ _ ew _ eb _
    have h2' : (a.ok && named smallB v.data.toList) = true := h2
    rw [Bool.and_eq_true] at h2'
    exact .inr (.inr (.inl ⟨rfl, ew, h2'.1, eb, h2'.2⟩))
  · have h3' : (⟨4, hd, wh, a, b, v⟩ : St) = ⟨4, hd, noText, a, b, noText⟩ := h3
    injection h3' with _ _ ew _ _ ev
    have h2' : (a.ok && b.ok && !decide (cmpR b a < 0)) = true := h2
    simp only [Bool.and_eq_true, Bool.not_eq_true', decide_eq_false_iff_not] at h2'
    exact .inr (.inr (.inr ⟨rfl, ew, h2'.1.1, h2'.1.2, h2'.2, ev⟩))
theorem line_right {s : St} (h : s.right = true) : line s = textR s.head ++ arr ++ body s := if_pos h
/-- A right statement is parsed from its line. -/
theorem parse_line {s : St} (h : s.right = true) : ∃ L, ansOf (line s) = .ok L ∧ parseL L = (s, 0, 0) := by
  obtain ⟨hh, hc⟩ := right_all h
  rw [line_right h]
  obtain ⟨k, hd, wh, a, b, v⟩ := s
  simp only at hh hc
  rcases hc with ⟨rfl, hw, rfl, rfl, rfl⟩ | ⟨rfl, rfl, ha, rfl, rfl⟩ | ⟨rfl, rfl, ha, rfl, hv⟩ | ⟨rfl, rfl, ha, hb, hle, rfl⟩
  · obtain ⟨e1, e2⟩ := parsed (k := 1) (toks1 hh hw) (by omega) (by omega) rfl
    refine ⟨_, e1, ?_⟩
    rw [e2]
    rw [normal_other (show ((1 : Nat) : Int) ≠ 4 by decide)]; rfl
  · obtain ⟨e1, e2⟩ := parsed (k := 2) (toks2 hh ha) (by omega) (by omega) rfl
    refine ⟨_, e1, ?_⟩
    rw [e2]
    rw [normal_other (show ((2 : Nat) : Int) ≠ 4 by decide)]; rfl
  · obtain ⟨c1, c2, ht⟩ := toks3 hh ha hv
    obtain ⟨e1, e2⟩ := parsed (k := 3) ht (by omega) (by omega) rfl
    refine ⟨_, e1, ?_⟩
    rw [e2]
    rw [normal_other (show ((3 : Nat) : Int) ≠ 4 by decide)]; rfl
  · obtain ⟨c1, c2, ht⟩ := toks4 hh ha hb
    obtain ⟨e1, e2⟩ := parsed (k := 4) ht (by omega) (by omega) rfl
    refine ⟨_, e1, ?_⟩
    rw [e2]
    unfold St.normal; rw [if_neg (fun e => hle e.2)]; rfl
theorem role_ok {a c : Tk} (ha : goodTk a) (hc : goodTk c) (ka : a.kind = 1) (kc : c.kind = 2) : Rl.ok ⟨a.text, c.text⟩ = true := by
  unfold Rl.ok; rw [Bool.and_eq_true]; exact ⟨good1 ha ka, good2 hc kc⟩
theorem right_of {s : St} (h1 : s.head.ok = true) (h2 : s.says = true) (h3 : s = s.own) : s.right = true := by
  unfold St.right; rw [h1, h2, decide_eq_true h3]; rfl
/-- What good tokens are parsed as may be. -/
theorem stmt_right {L : List Tk} {k : Nat} (h1 : 1 ≤ k) (h4 : k ≤ 4) (hg : ∀ t ∈ L, goodTk t) (hk : kindsOf L = shapeK k) : (stmtOf k L).normal.right = true := by
  have hl := len_of_kinds hk
  match k, h1, h4, hk, hl with
  | 1, _, _, hk, hl =>
    match L, hl, hk, hg with
    | [t0, t1, t2, t3, t4], _, hk, hg =>
      have e : (stmtOf 1 [t0, t1, t2, t3, t4]).normal = ⟨1, ⟨t0.text, t2.text⟩, t4.text, zeroR, zeroR, noText⟩ := normal_other (show ((1 : Nat) : Int) ≠ 4 by decide)
      rw [e]
      exact right_of (role_ok (hg t0 (by simp)) (hg t2 (by simp)) (kind_at hk 0 (by simp)) (kind_at hk 2 (by simp))) (good1 (hg t4 (by simp)) (kind_at hk 4 (by simp))) rfl
  | 2, _, _, hk, hl =>
    match L, hl, hk, hg with
    | [t0, t1, t2, t3, t4, t5, t6], _, hk, hg =>
      have e : (stmtOf 2 [t0, t1, t2, t3, t4, t5, t6]).normal = ⟨2, ⟨t0.text, t2.text⟩, noText, ⟨t4.text, t6.text⟩, zeroR, noText⟩ := normal_other (show ((2 : Nat) : Int) ≠ 4 by decide)
      rw [e]
      exact right_of (role_ok (hg t0 (by simp)) (hg t2 (by simp)) (kind_at hk 0 (by simp)) (kind_at hk 2 (by simp))) (role_ok (hg t4 (by simp)) (hg t6 (by simp)) (kind_at hk 4 (by simp)) (kind_at hk 6 (by simp))) rfl
  | 3, _, _, hk, hl =>
    match L, hl, hk, hg with
    | [t0, t1, t2, t3, t4, t5, t6, t7, t8], _, hk, hg =>
      have e : (stmtOf 3 [t0, t1, t2, t3, t4, t5, t6, t7, t8]).normal = ⟨3, ⟨t0.text, t2.text⟩, noText, ⟨t4.text, t6.text⟩, zeroR, t8.text⟩ := normal_other (show ((3 : Nat) : Int) ≠ 4 by decide)
      rw [e]
      refine right_of (role_ok (hg t0 (by simp)) (hg t2 (by simp)) (kind_at hk 0 (by simp)) (kind_at hk 2 (by simp))) ?_ rfl
      show (Rl.ok ⟨t4.text, t6.text⟩ && named smallB t8.text.data.toList) = true
      rw [role_ok (hg t4 (by simp)) (hg t6 (by simp)) (kind_at hk 4 (by simp)) (kind_at hk 6 (by simp)), good2 (hg t8 (by simp)) (kind_at hk 8 (by simp))]; rfl
  | 4, _, _, hk, hl =>
    match L, hl, hk, hg with
    | [t0, t1, t2, t3, t4, t5, t6, t7, t8, t9, t10], _, hk, hg =>
      have r1 := role_ok (hg t4 (by simp)) (hg t6 (by simp)) (kind_at hk 4 (by simp)) (kind_at hk 6 (by simp))
      have r2 := role_ok (hg t8 (by simp)) (hg t10 (by simp)) (kind_at hk 8 (by simp)) (kind_at hk 10 (by simp))
      have r0 := role_ok (hg t0 (by simp)) (hg t2 (by simp)) (kind_at hk 0 (by simp)) (kind_at hk 2 (by simp))
      by_cases hc : cmpR ⟨t8.text, t10.text⟩ ⟨t4.text, t6.text⟩ < 0
      · have e : (stmtOf 4 [t0, t1, t2, t3, t4, t5, t6, t7, t8, t9, t10]).normal = ⟨4, ⟨t0.text, t2.text⟩, noText, ⟨t8.text, t10.text⟩, ⟨t4.text, t6.text⟩, noText⟩ := if_pos ⟨rfl, hc⟩
        rw [e]
        refine right_of r0 ?_ rfl
        show (Rl.ok ⟨t8.text, t10.text⟩ && Rl.ok ⟨t4.text, t6.text⟩ && !decide (cmpR ⟨t4.text, t6.text⟩ ⟨t8.text, t10.text⟩ < 0)) = true
        rw [r1, r2, decide_eq_false (by rw [cmpR_anti ⟨t8.text, t10.text⟩ ⟨t4.text, t6.text⟩]; omega)]; rfl
      · have e : (stmtOf 4 [t0, t1, t2, t3, t4, t5, t6, t7, t8, t9, t10]).normal = ⟨4, ⟨t0.text, t2.text⟩, noText, ⟨t4.text, t6.text⟩, ⟨t8.text, t10.text⟩, noText⟩ := if_neg (fun e => hc e.2)
        rw [e]
        refine right_of r0 ?_ rfl
        show (Rl.ok ⟨t4.text, t6.text⟩ && Rl.ok ⟨t8.text, t10.text⟩ && !decide (cmpR ⟨t8.text, t10.text⟩ ⟨t4.text, t6.text⟩ < 0)) = true
        rw [r1, r2, decide_eq_false hc]; rfl
end Go.Proofs.Ytofhiolmaojihaa.SynZ
