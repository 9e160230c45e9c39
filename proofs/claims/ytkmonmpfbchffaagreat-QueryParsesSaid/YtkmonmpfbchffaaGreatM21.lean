/- Which tokens a query's line may have at a place, in the document's answers, by contract. -/
import Derived.Test.YtkmonmpfbchffaaGreatM19
import Derived.Test.YtkmonmpfbchffaaGreatM07
import Derived.Test.YtkmonmpfbchffaaGreatM03
import Derived.BigQuiet
import Derived.Test.YtkmonmpfbchffaaGreatM16
import Derived.Test.YtkmonmpfbchffaaGreatM15
import Derived.Deep.RegionHeld3
import Derived.Test.YtkmonmpfbchffaaGreatM12
namespace Go.Proofs.YtkmonmpfbchffaaGreat.QryZ
set_option linter.unusedVariables false
set_option linter.unusedSimpArgs false
open Go.BigFrame Go.Proofs.YtkmonmpfbchffaaGreat.QryW Go.RowKit Go.Sort Go.Proofs Go.Proofs.YtkmonmpfbchffaaGreat.Plain Go.Proofs.YtkmonmpfbchffaaGreat.SynP Go.Proofs.YtkmonmpfbchffaaGreat.TabP Go.Proofs.YtkmonmpfbchffaaGreat.Grown Go.Proofs.YtkmonmpfbchffaaGreat.SynE Go.Proofs.YtkmonmpfbchffaaGreat.QryP Go.Proofs.YtkmonmpfbchffaaGreat.Qry4 Go.Proofs.YtkmonmpfbchffaaGreat.Qry5 Go.Proofs.YtkmonmpfbchffaaGreat.Qry6 Go.Proofs.YtkmonmpfbchffaaGreat.Qry7 Go.Proofs.YtkmonmpfbchffaaGreat.QryJ
set_option linter.unusedVariables false
set_option linter.unusedSimpArgs false
set_option maxHeartbeats 1000000 in
set_option maxRecDepth 100000 in
theorem goes4E (tk : Int) (x : ByteArray) (c : Int) (w : World) : Calls Tryz.prog 43 #[.int .i64 4, .int .i64 4, .agg #[.int .i64 tk, .string x, .int .i64 c]] w (GoesP (nameB tk x ⟨#[98, 101]⟩) w) := by
  have hN := fun w' => nameG tk x c ⟨#[98, 101]⟩ w'
  generalize nameB tk x ⟨#[98, 101]⟩ = b at *
  have HN := Lib.hid hN
  clear hN
  have hm := mixed
  have gC := grow_cell
  cases b
  · skip
    go_enter Tryz.func43, Tryz.ntmps43
    go_wp2_with fail
    refine wp_region_quiet_grown hm (by kernel_rfl) ?_
    repeat (first | go_big_quiet_skip | (quiet_step (((go_at_call 105; exact grewCall (HN.out _))))))
    refine wpQuiet_nil ?_
    intro _ hw'
    obtain ⟨⟨nq, osq⟩, hw''⟩ := hw'
    subst hw''
    go_wp2_with fail
    go_ret
    exact ⟨rfl, (((Grew.refl _).alloc _).trans (Grew.mk _ _ _)).below⟩
  · skip
    go_enter Tryz.func43, Tryz.ntmps43
    go_wp2_with fail
    refine wp_region_quiet_grown hm (by kernel_rfl) ?_
    repeat (first | go_big_quiet_skip | (quiet_step (((go_at_call 105; exact grewCall (HN.out _))))))
    refine wpQuiet_nil ?_
    intro _ hw'
    obtain ⟨⟨nq, osq⟩, hw''⟩ := hw'
    subst hw''
    go_wp2_with fail
    go_ret
    exact ⟨rfl, (((Grew.refl _).alloc _).trans (Grew.mk _ _ _)).below⟩
set_option maxHeartbeats 1000000 in
set_option maxRecDepth 100000 in
theorem goes4W (k : Int) (hk : (k == 4) = false) (hk2 : (k != 4) = true) (tk : Int) (x : ByteArray) (c : Int) (w : World) : Calls Tryz.prog 43 #[.int .i64 k, .int .i64 4, .agg #[.int .i64 tk, .string x, .int .i64 c]] w (GoesP (nameB tk x (wordsT k)) w) := by
  have hN := fun w' => nameG tk x c (wordsT k) w'
  have hW : ∀ w', Calls Tryz.prog 106 #[.int .i64 k] w' fun e w'' => e = .returned (.string (wordsT k)) ∧ Grew w' w'' := fun w' => (wordsRef k w').mono (fun e w'' ⟨he, n, hn⟩ => ⟨he, by rw [hn]; exact (Grew.refl _).drewN n⟩)
  generalize wordsT k = wk at *
  generalize nameB tk x wk = b at *
  have HN := Lib.hid hN
  have HW := Lib.hid hW
  clear hN hW
  have hm := mixed
  have gC := grow_cell
  cases b
  · skip
    go_enter Tryz.func43, Tryz.ntmps43
    go_wp2_with fail
    refine wp_region_quiet_grown hm (by kernel_rfl) ?_
    repeat (first | go_big_quiet_skip | (quiet_step ((first | (go_at_call 105; exact grewCall (HN.out _)) | (go_at_call 106; exact grewCall (HW.out _))))))
    refine wpQuiet_nil ?_
    intro _ hw'
    obtain ⟨⟨nq, osq⟩, hw''⟩ := hw'
    subst hw''
    go_wp2_with fail
    go_ret
    exact ⟨rfl, (((Grew.refl _).alloc _).trans (Grew.mk _ _ _)).below⟩
  · skip
    go_enter Tryz.func43, Tryz.ntmps43
    go_wp2_with fail
    refine wp_region_quiet_grown hm (by kernel_rfl) ?_
    repeat (first | go_big_quiet_skip | (quiet_step ((first | (go_at_call 105; exact grewCall (HN.out _)) | (go_at_call 106; exact grewCall (HW.out _))))))
    refine wpQuiet_nil ?_
    intro _ hw'
    obtain ⟨⟨nq, osq⟩, hw''⟩ := hw'
    subst hw''
    go_wp2_with fail
    go_ret
    exact ⟨rfl, (((Grew.refl _).alloc _).trans (Grew.mk _ _ _)).below⟩
theorem name_word (t : Tk) (s : Str) : nameB t.kind t.text ⟨s.toArray⟩ = Ft.fits t (.word s) := rfl
theorem name_kind (t : Tk) (n : Int) : decide (t.kind = n) = Ft.fits t (.kind n) := rfl
/-- What may stand at a place of a kind's line. -/
theorem goes (k : Int) (h1 : 1 ≤ k) (h6 : k ≤ 6) (i : Nat) (hi : i < (shapeF k).length) (t : Tk) (w : World) : Calls Tryz.prog 43 #[.int .i64 k, .int .i64 i, .agg #[.int .i64 t.kind, .string t.text, .int .i64 t.col]] w (GoesP (Ft.fits t (shapeF k)[i]) w) := by
  have hk : k = 1 ∨ k = 2 ∨ k = 3 ∨ k = 4 ∨ k = 5 ∨ k = 6 := by omega
  rcases hk with rfl | rfl | rfl | rfl | rfl | rfl
  · have hi' : i < 5 := hi
    match i, hi', hi with
    | 0, _, _ => exact goes0A 1 rfl _ _ _ w
    | 1, _, _ => exact goes1 1 _ _ _ w
    | 2, _, _ => exact goes2 1 _ _ _ w
    | 3, _, _ => exact goes3 1 _ _ _ w
    | 4, _, _ => exact goes4W 1 rfl rfl _ _ _ w
  · have hi' : i < 5 := hi
    match i, hi', hi with
    | 0, _, _ => exact goes0C 2 rfl _ _ _ w
    | 1, _, _ => exact goes1 2 _ _ _ w
    | 2, _, _ => exact goes2 2 _ _ _ w
    | 3, _, _ => exact goes3 2 _ _ _ w
    | 4, _, _ => exact goes4W 2 rfl rfl _ _ _ w
  · have hi' : i < 5 := hi
    match i, hi', hi with
    | 0, _, _ => exact goes0A 3 rfl _ _ _ w
    | 1, _, _ => exact goes1 3 _ _ _ w
    | 2, _, _ => exact goes2 3 _ _ _ w
    | 3, _, _ => exact goes3 3 _ _ _ w
    | 4, _, _ => exact goes4W 3 rfl rfl _ _ _ w
  · have hi' : i < 6 := hi
    match i, hi', hi with
    | 0, _, _ => exact goes0C 4 rfl _ _ _ w
    | 1, _, _ => exact goes1 4 _ _ _ w
    | 2, _, _ => exact goes2 4 _ _ _ w
    | 3, _, _ => exact goes3 4 _ _ _ w
    | 4, _, _ => exact goes4E _ _ _ w
    | 5, _, _ => exact goes5E _ _ _ w
  · have hi' : i < 8 := hi
    match i, hi', hi with
    | 0, _, _ => exact goes0A 5 rfl _ _ _ w
    | 1, _, _ => exact goes1 5 _ _ _ w
    | 2, _, _ => exact goes2 5 _ _ _ w
    | 3, _, _ => exact goes3 5 _ _ _ w
    | 4, _, _ => exact goes4W 5 rfl rfl _ _ _ w
    | 5, _, _ => exact goes5 5 (by omega) _ _ _ w
    | 6, _, _ => exact goes6 5 (by omega) _ _ _ w
    | 7, _, _ => exact goes7 5 (by omega) _ _ _ w
  · have hi' : i < 8 := hi
    match i, hi', hi with
    | 0, _, _ => exact goes0A 6 rfl _ _ _ w
    | 1, _, _ => exact goes1 6 _ _ _ w
    | 2, _, _ => exact goes2 6 _ _ _ w
    | 3, _, _ => exact goes3 6 _ _ _ w
    | 4, _, _ => exact goes4W 6 rfl rfl _ _ _ w
    | 5, _, _ => exact goes5 6 (by omega) _ _ _ w
    | 6, _, _ => exact goes6 6 (by omega) _ _ _ w
    | 7, _, _ => exact goes7 6 (by omega) _ _ _ w
end Go.Proofs.YtkmonmpfbchffaaGreat.QryZ
/- Plain mathematics: the tokens of a query's line; a query that may be is parsed from its line. -/
namespace Go.Proofs.YtkmonmpfbchffaaGreat.QryN
set_option linter.unusedVariables false
set_option linter.unusedSimpArgs false
open Go.RowKit Go.Sort Go.Proofs.YtkmonmpfbchffaaGreat.Plain Go.Proofs.YtkmonmpfbchffaaGreat.SynP Go.Proofs.YtkmonmpfbchffaaGreat.TabP Go.Proofs.YtkmonmpfbchffaaGreat.Scan2 Go.Proofs.YtkmonmpfbchffaaGreat.Scan3 Go.Proofs.YtkmonmpfbchffaaGreat.SynR Go.Proofs.YtkmonmpfbchffaaGreat.SynV Go.Proofs.YtkmonmpfbchffaaGreat.SynW Go.Proofs.YtkmonmpfbchffaaGreat.QryP Go.Proofs.YtkmonmpfbchffaaGreat.Qry4 Go.Proofs.YtkmonmpfbchffaaGreat.Qry5 Go.Proofs.YtkmonmpfbchffaaGreat.Qry7 Go.Proofs.YtkmonmpfbchffaaGreat.QryA Go.Proofs.YtkmonmpfbchffaaGreat.QryB Go.Proofs.YtkmonmpfbchffaaGreat.QryC Go.Proofs.YtkmonmpfbchffaaGreat.QryD Go.Proofs.YtkmonmpfbchffaaGreat.QryL Go.Proofs.YtkmonmpfbchffaaGreat.QryM
/-- The tokens of texts of a kind, each with a blank ahead, from the k-th byte on. -/
def wordTks (n : Int) : List Str → Nat → List Tk
  | [], _ => []
  | s :: T, k => ⟨n, ⟨s.toArray⟩, k + 1 + 1⟩ :: wordTks n T (k + 1 + s.length)
theorem stops_tail (T : List Str) {rest : List UInt8} (h : Stops rest) : Stops (tailW T ++ rest) := by
  cases T with
  | nil => exact h
  | cons s T => exact stops_sp _
theorem bs_mk (s : Str) : (⟨s.toArray⟩ : ByteArray).data.toList = s := rfl
theorem run_caps {s : ByteArray} : ∀ (T : List Str) {k : Nat} {L : List Tk} {rest : List UInt8}, s.data.toList.drop k = tailW T ++ rest → (∀ x ∈ T, named capB x = true) → Stops rest →
    tkRun s k L = tkRun s (k + (tailW T).length) (L ++ wordTks 1 T k) ∧ s.data.toList.drop (k + (tailW T).length) = rest
  | [], k, L, rest, h, hn, hr => by
    rw [tailW_nil] at *
    exact ⟨by simp [wordTks], h⟩
  | x :: T, k, L, rest, h, hn, hr => by
    have h1 : s.data.toList.drop k = 32 :: (x ++ (tailW T ++ rest)) := by rw [h, tailW_cons]; simp
    obtain ⟨a1, b1⟩ := run_sp (L := L) h1
    have hx := hn x (List.mem_cons_self ..)
    obtain ⟨a2, b2⟩ := run_cap (L := L) (w := ⟨x.toArray⟩) (rest := tailW T ++ rest) b1 hx (stops_tail T hr)
    have hsz : (⟨x.toArray⟩ : ByteArray).size = x.length := rfl
    rw [hsz] at a2 b2
    obtain ⟨a3, b3⟩ := run_caps T (L := L ++ [⟨1, ⟨x.toArray⟩, k + 1 + 1⟩]) b2 (fun y hy => hn y (List.mem_cons_of_mem _ hy)) hr
    have e : k + (tailW (x :: T)).length = k + 1 + x.length + (tailW T).length := by rw [tailW_cons]; simp; omega
    rw [a1, a2, a3, e]
    refine ⟨?_, b3⟩
    congr 1
    simp [wordTks]
theorem run_smalls {s : ByteArray} : ∀ (T : List Str) {k : Nat} {L : List Tk} {rest : List UInt8}, s.data.toList.drop k = tailW T ++ rest → (∀ x ∈ T, named smallB x = true) → Stops rest →
    tkRun s k L = tkRun s (k + (tailW T).length) (L ++ wordTks 2 T k) ∧ s.data.toList.drop (k + (tailW T).length) = rest
  | [], k, L, rest, h, hn, hr => by
    rw [tailW_nil] at *
    exact ⟨by simp [wordTks], h⟩
  | x :: T, k, L, rest, h, hn, hr => by
    have h1 : s.data.toList.drop k = 32 :: (x ++ (tailW T ++ rest)) := by rw [h, tailW_cons]; simp
    obtain ⟨a1, b1⟩ := run_sp (L := L) h1
    have hx := hn x (List.mem_cons_self ..)
    obtain ⟨a2, b2⟩ := run_small (L := L) (w := ⟨x.toArray⟩) (rest := tailW T ++ rest) b1 hx (stops_tail T hr)
    have hsz : (⟨x.toArray⟩ : ByteArray).size = x.length := rfl
    rw [hsz] at a2 b2
    obtain ⟨a3, b3⟩ := run_smalls T (L := L ++ [⟨2, ⟨x.toArray⟩, k + 1 + 1⟩]) b2 (fun y hy => hn y (List.mem_cons_of_mem _ hy)) hr
    have e : k + (tailW (x :: T)).length = k + 1 + x.length + (tailW T).length := by rw [tailW_cons]; simp; omega
    rw [a1, a2, a3, e]
    refine ⟨?_, b3⟩
    congr 1
    simp [wordTks]
theorem words_small {k : Int} (h : k = 1 ∨ k = 2 ∨ k = 3 ∨ k = 4 ∨ k = 5 ∨ k = 6) : ∀ x ∈ wordsL k, named smallB x = true := by
  rcases h with rfl | rfl | rfl | rfl | rfl | rfl <;> decide +kernel
theorem lead_small (k : Int) : named smallB (bs (leadT k)) = true := by
  unfold leadT; split <;> decide +kernel
/-- Where the tokens of a line begin. -/
def linesTk (q : Qy) : List Tk := [⟨2, leadT q.kind, 1⟩] ++ roleTk q.a ((leadT q.kind).size + 1) ++ wordTks 2 (wordsL q.kind) ((leadT q.kind).size + 1 + (textR q.a).size) ++ (if hasBk q.kind = true then roleTk q.b ((leadT q.kind).size + 1 + (textR q.a).size + (tailW (wordsL q.kind)).length + 1) else []) ++ wordTks 1 q.who ((leadT q.kind).size + 1 + (textR q.a).size + (tailW (wordsL q.kind)).length + (if hasBk q.kind = true then (textR q.b).size + 1 else 0))
/-- What a line is made of: a query, its principals in any order. -/
def form (q : Qy) : Prop := (q.kind = 1 ∨ q.kind = 2 ∨ q.kind = 3 ∨ q.kind = 4 ∨ q.kind = 5 ∨ q.kind = 6) ∧ q.a.ok = true ∧ (hasBk q.kind = true → q.b.ok = true) ∧ (∀ s ∈ q.who, prinS s = true) ∧ q.who.length ≤ 12
theorem form_of {q : Qy} (h : q.right = true) : form q := by
  obtain ⟨ha, hc⟩ := right_parts h
  refine ⟨right_kind h, ha, ?_, ?_, ?_⟩
  · intro hb
    rcases hc with ⟨_, e, _⟩ | ⟨e, _, _⟩ | ⟨_, _, _, e⟩
    · rw [e] at hb; cases hb
    · rw [e] at hb; exact absurd hb (by decide)
    · exact e
  · rcases hc with ⟨_, _, hw, _, _⟩ | ⟨_, hw, _⟩ | ⟨_, _, hw, _⟩
    · exact (who_parts hw).2.1
    · rw [hw]; intro s hs; simp at hs
    · rw [hw]; intro s hs; simp at hs
  · rcases hc with ⟨_, _, hw, _, _⟩ | ⟨_, hw, _⟩ | ⟨_, _, hw, _⟩
    · exact (who_parts hw).1
    · rw [hw]; decide
    · rw [hw]; decide
theorem leadT_len (k : Int) : (leadT k).size ≤ 6 := by unfold leadT; split <;> decide
theorem words_len5 {k : Int} (h : k = 1 ∨ k = 2 ∨ k = 3 ∨ k = 4 ∨ k = 5 ∨ k = 6) : (tailW (wordsL k)).length ≤ 9 := by
  rcases h with rfl | rfl | rfl | rfl | rfl | rfl <;> decide
theorem lineL_form {q : Qy} (h : form q) : lineL q = bs (leadT q.kind) ++ (32 :: (bs (textR q.a) ++ (tailW (wordsL q.kind) ++ ((if hasBk q.kind = true then 32 :: bs (textR q.b) else []) ++ (tailW q.who ++ []))))) := by
  unfold lineL
  rw [words_tail h.1]
  split <;> simp [tailW]
theorem stops_if {c : Bool} {x rest : List UInt8} (h : Stops rest) : Stops ((if c = true then 32 :: x else []) ++ rest) := by
  cases c
  · exact h
  · exact stops_sp _
theorem mem_tail {T : List Str} {c : UInt8} (h : c ∈ tailW T) : c = 32 ∨ ∃ s ∈ T, c ∈ s := by
  unfold tailW at h
  obtain ⟨l, hl, hc⟩ := List.mem_flatten.1 h
  obtain ⟨s, hs, rfl⟩ := List.mem_map.1 hl
  rcases List.mem_cons.1 hc with e | e
  · exact .inl e
  · exact .inr ⟨s, hs, e⟩
theorem toks_line {q : Qy} (h : form q) : ansOf ⟨(lineL q).toArray⟩ = .ok (linesTk q) := by
  obtain ⟨hk, ha, hb, hw, h12⟩ := h
  have hf := lineL_form ⟨hk, ha, hb, hw, h12⟩
  have n35 : ∀ c ∈ lineL q, c ≠ 35 := by
    intro c hc
    rw [hf] at hc
    simp only [List.mem_append, List.mem_cons, List.not_mem_nil, or_false] at hc
    rcases hc with hc | rfl | hc | hc | hc | hc
    · exact named_ne35 (w := leadT q.kind) (lead_small _) c hc
    · decide
    · exact role_ne35 ha c hc
    · rcases mem_tail hc with rfl | ⟨s, hs, hc⟩
      · decide
      · exact named_ne35 (w := ⟨s.toArray⟩) (words_small hk s hs) c hc
    · split at hc
      · rename_i hbk
        rcases List.mem_cons.1 hc with rfl | hc
        · decide
        · exact role_ne35 (hb hbk) c hc
      · simp at hc
    · rcases mem_tail hc with rfl | ⟨s, hs, hc⟩
      · decide
      · exact named_ne35 (w := ⟨s.toArray⟩) (hw s hs) c hc
  have hsz : (⟨(lineL q).toArray⟩ : ByteArray).size ≤ 200 := by
    show (lineL q).length ≤ 200
    rw [hf]
    have e1 : (bs (leadT q.kind)).length = (leadT q.kind).size := toList_len _
    have e2 : (bs (textR q.a)).length = (textR q.a).size := toList_len _
    have l1 := leadT_len q.kind
    have l2 := role_size ha
    have l3 := words_len5 hk
    have l4 := tailW_len (T := q.who) (m := 8) fun s hs => prin_len (hw s hs)
    have l5 : (if hasBk q.kind = true then 32 :: bs (textR q.b) else []).length ≤ 18 := by
      split
      · rename_i hbk
        have e3 : (bs (textR q.b)).length = (textR q.b).size := toList_len _
        have := role_size (hb hbk)
        simp; omega
      · simp
    have l6 : q.who.length * 9 ≤ 12 * 9 := Nat.mul_le_mul_right _ h12
    simp only [List.length_append, List.length_cons, List.length_nil]
    omega
  have hbare : bare ⟨(lineL q).toArray⟩ = ⟨(lineL q).toArray⟩ := bare_no35 n35
  unfold ansOf
  rw [if_neg (by omega), hbare]
  have d0 : (⟨(lineL q).toArray⟩ : ByteArray).data.toList.drop 0 = bs (leadT q.kind) ++ (32 :: (bs (textR q.a) ++ (tailW (wordsL q.kind) ++ ((if hasBk q.kind = true then 32 :: bs (textR q.b) else []) ++ (tailW q.who ++ []))))) := hf
  generalize (⟨(lineL q).toArray⟩ : ByteArray) = s at *
  obtain ⟨a1, b1⟩ := run_small (L := []) (w := leadT q.kind) d0 (lead_small _) (stops_sp _)
  obtain ⟨a2, b2⟩ := run_sp (L := [] ++ [⟨2, leadT q.kind, 0 + 1⟩]) b1
  obtain ⟨a3, b3⟩ := run_role (L := [] ++ [⟨2, leadT q.kind, 0 + 1⟩]) (r := q.a) b2 ha (stops_tail _ (stops_if (stops_tail _ stops_nil)))
  obtain ⟨a4, b4⟩ := run_smalls (wordsL q.kind) (L := [] ++ [⟨2, leadT q.kind, 0 + 1⟩] ++ roleTk q.a (0 + (leadT q.kind).size + 1)) b3 (words_small hk) (stops_if (stops_tail _ stops_nil))
  unfold linesTk
  cases hbk : hasBk q.kind
  · rw [hbk] at b4
    simp only [Bool.false_eq_true, if_false, List.nil_append] at b4 ⊢
    obtain ⟨a5, b5⟩ := run_caps q.who (L := [] ++ [⟨2, leadT q.kind, 0 + 1⟩] ++ roleTk q.a (0 + (leadT q.kind).size + 1) ++ wordTks 2 (wordsL q.kind) (0 + (leadT q.kind).size + 1 + (textR q.a).size)) b4 hw stops_nil
    rw [a1, a2, a3, a4, a5, run_done b5]
    simp
  · rw [hbk] at b4
    simp only [if_true, List.cons_append] at b4 ⊢
    obtain ⟨a5, b5⟩ := run_sp (L := [] ++ [⟨2, leadT q.kind, 0 + 1⟩] ++ roleTk q.a (0 + (leadT q.kind).size + 1) ++ wordTks 2 (wordsL q.kind) (0 + (leadT q.kind).size + 1 + (textR q.a).size)) b4
    obtain ⟨a6, b6⟩ := run_role (L := [] ++ [⟨2, leadT q.kind, 0 + 1⟩] ++ roleTk q.a (0 + (leadT q.kind).size + 1) ++ wordTks 2 (wordsL q.kind) (0 + (leadT q.kind).size + 1 + (textR q.a).size)) (r := q.b) b5 (hb hbk) (stops_tail _ stops_nil)
    obtain ⟨a7, b7⟩ := run_caps q.who (L := [] ++ [⟨2, leadT q.kind, 0 + 1⟩] ++ roleTk q.a (0 + (leadT q.kind).size + 1) ++ wordTks 2 (wordsL q.kind) (0 + (leadT q.kind).size + 1 + (textR q.a).size) ++ roleTk q.b (0 + (leadT q.kind).size + 1 + (textR q.a).size + (tailW (wordsL q.kind)).length + 1)) b6 hw stops_nil
    rw [a1, a2, a3, a4, a5, a6, a7, run_done b7]
    have e : (leadT q.kind).size + 1 + (textR q.a).size + (tailW (wordsL q.kind)).length + 1 + (textR q.b).size = (leadT q.kind).size + 1 + (textR q.a).size + (tailW (wordsL q.kind)).length + ((textR q.b).size + 1) := by omega
    simp only [Nat.zero_add, List.nil_append, List.append_assoc, e]
    rfl
/-- Principals in order are read as they stand. -/
theorem readW_rise : ∀ (T T0 : List Str) (c : Nat), (T0 ++ T).Pairwise (· < ·) → (T0 ++ T).length ≤ 12 → readW (wordTks 1 T c) T0 = (T0 ++ T, (wordTks 1 T c).length, false)
  | [], T0, c, h, hl => by simp [wordTks, readW]
  | s :: T, T0, c, h, hl => by
    have e : T0 ++ s :: T = (T0 ++ [s]) ++ T := by simp
    have hp := List.pairwise_append.1 h
    have hs : s ∉ T0 := fun hm => List.lt_irrefl s (hp.2.2 s hm s (List.mem_cons_self ..))
    have h12 : T0.length ≠ 12 := by simp at hl; omega
    have ht : tab (T0 ++ [s]) = T0 ++ [s] := by
      rw [e] at h
      exact (tab_id.2 (List.pairwise_append.1 h).1).symm
    have ih := readW_rise T (T0 ++ [s]) (c + 1 + s.length) (by rw [← e]; exact h) (by rw [← e]; exact hl)
    have hstr : strOf (⟨s.toArray⟩ : ByteArray) = s := rfl
    show (if (1 : Int) = 1 then (if strOf ⟨s.toArray⟩ ∈ T0 then _ else _) else _) = _
    rw [if_pos rfl, hstr, if_neg hs, if_neg h12, ht, ih, e]
    simp [wordTks]
theorem whoOk_of {T : List Str} (h1 : T.length ≤ 12) (h2 : ∀ s ∈ T, prinS s = true) (h3 : T.Pairwise (· < ·)) : whoOk T = true := by
  unfold whoOk
  rw [decide_eq_true h1, decide_eq_true (tab_id.2 h3), List.all_eq_true.2 h2]; rfl
theorem wordTks_len (n : Int) : ∀ (T : List Str) (c : Nat), (wordTks n T c).length = T.length
  | [], c => rfl
  | s :: T, c => by
    show (wordTks n T (c + 1 + s.length)).length + 1 = _
    rw [wordTks_len n T]; rfl
theorem fit_word {s : Str} {c : Nat} : Ft.fits ⟨2, ⟨s.toArray⟩, c⟩ (.word s) = true := by simp [Ft.fits]
theorem fit_lead {k : Int} {c : Nat} : Ft.fits ⟨2, leadT k, c⟩ (.word (leadS k)) = true := by rw [leadT_S]; exact fit_word
theorem fit_kind {n : Int} {x : ByteArray} {c : Nat} : Ft.fits ⟨n, x, c⟩ (.kind n) = true := by simp [Ft.fits]
theorem agreeF_step {t : Tk} {L : List Tk} {f : Ft} {F : List Ft} (h : Ft.fits t f = true) : agreeF (t :: L) (f :: F) = agreeF L F + 1 := by
  show (if f.fits t = true then agreeF L F + 1 else 0) = _
  rw [if_pos h]
theorem agreeF_nil (L : List Tk) : agreeF L [] = 0 := by cases L <;> rfl
theorem kindNat {k : Int} (h1 : 1 ≤ k) : ∃ K : Nat, k = K := ⟨k.toNat, by omega⟩
theorem lastQ_ok {L : List Tk} {r : Qy × Nat × Int} (h : r.2.2 = 0) : lastQ L r = (r.1, 0, 0) := by unfold lastQ; rw [if_pos h]
/-- A line with principals is asked as what they are in order. -/
theorem parse3 {k : Int} (hk : k = 1 ∨ k = 2 ∨ k = 3) {a : Rl} {T T' : List Str} (hr : ∀ c, readW (wordTks 1 T c) [] = (T', T.length, false)) (hright : Qy.right ⟨k, a, zeroR, T'⟩ = true) : parseQ (linesTk ⟨k, a, zeroR, T⟩) = (⟨k, a, zeroR, T'⟩, 0, 0) := by
  obtain ⟨s, hws, hsh, hB, hW⟩ := shape3 hk
  obtain ⟨c1, c2, c3, c4, c5, e⟩ : ∃ c1 c2 c3 c4 c5, linesTk ⟨k, a, zeroR, T⟩ = ⟨2, leadT k, 1⟩ :: ⟨1, a.owner, c1⟩ :: ⟨3, dot, c2⟩ :: ⟨2, a.name, c3⟩ :: ⟨2, ⟨s.toArray⟩, c4⟩ :: wordTks 1 T c5 := by
    refine ⟨(leadT k).size + 1 + 1, (leadT k).size + 1 + a.owner.size + 1, (leadT k).size + 1 + a.owner.size + 1 + 1, (leadT k).size + 1 + (textR a).size + 1 + 1, (leadT k).size + 1 + (textR a).size + (tailW [s]).length, ?_⟩
    unfold linesTk
    simp only [hws, hB, roleTk, wordTks, Bool.false_eq_true, if_false, List.append_nil, List.cons_append, List.nil_append, Nat.add_zero]
  have ha : agreeF (linesTk ⟨k, a, zeroR, T⟩) (shapeF k) = 5 := by
    rw [e, hsh, agreeF_step fit_lead, agreeF_step fit_kind, agreeF_step fit_kind, agreeF_step fit_kind, agreeF_step fit_word, agreeF_nil]
  have hf : fullQ (linesTk ⟨k, a, zeroR, T⟩) k := by unfold fullQ; rw [ha, hsh]; rfl
  obtain ⟨K, rfl⟩ := kindNat (k := k) (by omega)
  rw [parseQ_at (K := K) (by omega) (by omega) hf]
  rw [e] at ha ⊢
  have hrd := read3_eq hk ha
  rw [hr c5] at hrd
  simp only at hrd
  rw [wordTks_len, if_neg (by decide), if_neg (by omega), if_pos hright] at hrd
  rw [hrd]
  exact lastQ_ok rfl
theorem parse4 {a : Rl} (hright : Qy.right ⟨4, a, zeroR, []⟩ = true) : parseQ (linesTk ⟨4, a, zeroR, []⟩) = (⟨4, a, zeroR, []⟩, 0, 0) := by
  obtain ⟨hsh, hB, hW⟩ := shape4
  obtain ⟨c1, c2, c3, c4, c5, e⟩ : ∃ c1 c2 c3 c4 c5, linesTk ⟨4, a, zeroR, []⟩ = [⟨2, leadT 4, 1⟩, ⟨1, a.owner, c1⟩, ⟨3, dot, c2⟩, ⟨2, a.name, c3⟩, ⟨2, ⟨#[98, 101]⟩, c4⟩, ⟨2, ⟨#[101, 109, 112, 116, 121]⟩, c5⟩] := ⟨_, _, _, _, _, rfl⟩
  have ha : agreeF (linesTk ⟨4, a, zeroR, []⟩) (shapeF 4) = 6 := by
    rw [e, hsh, agreeF_step fit_lead, agreeF_step fit_kind, agreeF_step fit_kind, agreeF_step fit_kind, agreeF_step fit_word, agreeF_step fit_word, agreeF_nil]
  have hf : fullQ (linesTk ⟨4, a, zeroR, []⟩) ((4 : Nat) : Int) := by
    show agreeF (linesTk ⟨4, a, zeroR, []⟩) (shapeF 4) = (shapeF 4).length
    rw [ha]; rfl
  rw [parseQ_at (K := 4) (by omega) (by omega) hf]
  rw [e] at ha ⊢
  have hrd := read4_eq ha
  rw [if_neg (by simp), if_pos hright] at hrd
  show lastQ _ (readQ 4 _) = _
  rw [hrd]
  exact lastQ_ok rfl
theorem parse8 {k : Int} (hk : k = 5 ∨ k = 6) {a b : Rl} (hright : Qy.right ⟨k, a, b, []⟩ = true) : parseQ (linesTk ⟨k, a, b, []⟩) = (⟨k, a, b, []⟩, 0, 0) := by
  obtain ⟨s, hws, hsh, hB, hW⟩ := shape8 hk
  obtain ⟨c1, c2, c3, c4, c5, c6, c7, e⟩ : ∃ c1 c2 c3 c4 c5 c6 c7, linesTk ⟨k, a, b, []⟩ = [⟨2, leadT k, 1⟩, ⟨1, a.owner, c1⟩, ⟨3, dot, c2⟩, ⟨2, a.name, c3⟩, ⟨2, ⟨s.toArray⟩, c4⟩, ⟨1, b.owner, c5⟩, ⟨3, dot, c6⟩, ⟨2, b.name, c7⟩] := by
    refine ⟨(leadT k).size + 1 + 1, (leadT k).size + 1 + a.owner.size + 1, (leadT k).size + 1 + a.owner.size + 1 + 1, (leadT k).size + 1 + (textR a).size + 1 + 1, (leadT k).size + 1 + (textR a).size + (tailW [s]).length + 1 + 1, (leadT k).size + 1 + (textR a).size + (tailW [s]).length + 1 + b.owner.size + 1, (leadT k).size + 1 + (textR a).size + (tailW [s]).length + 1 + b.owner.size + 1 + 1, ?_⟩
    unfold linesTk
    simp only [hws, hB, roleTk, wordTks, if_true, List.append_nil, List.cons_append, List.nil_append]
  have ha : agreeF (linesTk ⟨k, a, b, []⟩) (shapeF k) = 8 := by
    rw [e, hsh, agreeF_step fit_lead, agreeF_step fit_kind, agreeF_step fit_kind, agreeF_step fit_kind, agreeF_step fit_word, agreeF_step fit_kind, agreeF_step fit_kind, agreeF_step fit_kind, agreeF_nil]
  have hf : fullQ (linesTk ⟨k, a, b, []⟩) k := by unfold fullQ; rw [ha, hsh]; rfl
  obtain ⟨K, rfl⟩ := kindNat (k := k) (by omega)
  rw [parseQ_at (K := K) (by omega) (by omega) hf]
  rw [e] at ha ⊢
  have hrd := read8_eq hk ha
  rw [if_neg (by simp), if_pos hright] at hrd
  rw [hrd]
  exact lastQ_ok rfl
/-- A query that may be is parsed from its line's tokens. -/
theorem parse_toks {q : Qy} (h : q.right = true) : parseQ (linesTk q) = (q, 0, 0) := by
  have hp := (right_parts h).2
  obtain ⟨k, a, b, T⟩ := q
  rcases hp with ⟨hW, hB, hw, hb, _⟩ | ⟨hk, hw, hb⟩ | ⟨hB, hW, hw, _⟩
  · simp only at hW hB hw hb
    subst hb
    have hk : k = 1 ∨ k = 2 ∨ k = 3 := by simpa [hasWk] using hW
    obtain ⟨w1, w2, w3⟩ := who_parts hw
    exact parse3 hk (fun c => by have := readW_rise T [] c (by simpa using w3) (by simpa using w1); rw [this, wordTks_len]; rfl) h
  · simp only at hk hw hb
    subst hk; subst hw; subst hb
    exact parse4 h
  · simp only at hB hw
    subst hw
    have hk : k = 5 ∨ k = 6 := by simpa [hasBk] using hB
    exact parse8 hk h
/-- The document's example. -/
def exA : Rl := ⟨⟨#[65]⟩, ⟨#[114]⟩⟩
def exQ : Qy := ⟨3, exA, zeroR, [[66], [67]]⟩
def exT : ByteArray := ⟨#[97, 108, 119, 97, 121, 115, 32, 65, 46, 114, 32, 119, 105, 116, 104, 105, 110, 32, 67, 32, 66]⟩
def exL : ByteArray := ⟨#[97, 108, 119, 97, 121, 115, 32, 65, 46, 114, 32, 119, 105, 116, 104, 105, 110, 32, 66, 32, 67]⟩
theorem ex_okA : exA.ok = true := by decide +kernel
theorem ex_who : whoOk [[66], [67]] = true := whoOk_of (by decide) (by decide +kernel) (by decide)
theorem ex_right : exQ.right = true := by
  show (exA.ok && (whoOk [[66], [67]] && decide (zeroR = zeroR))) = true
  rw [ex_okA, ex_who, decide_eq_true rfl]; rfl
theorem ex_form : form ⟨3, exA, zeroR, [[67], [66]]⟩ := ⟨.inr (.inr (.inl rfl)), ex_okA, (fun h => by cases h), by decide +kernel, by decide⟩
theorem ex_text : (⟨(lineL ⟨3, exA, zeroR, [[67], [66]]⟩).toArray⟩ : ByteArray) = exT := by
  apply ba_ext; decide +kernel
theorem ex_line : lineQ exQ = exL := by
  unfold lineQ
  rw [if_pos ex_right]
  apply ba_ext; decide +kernel
theorem ex_read (c : Nat) : readW (wordTks 1 [[67], [66]] c) [] = ([[66], [67]], 2, false) := by
  have t1 : tab ([] ++ [[67]]) = ([[67]] : List Str) := (tab_id.2 (by decide)).symm
  have t2 : tab ([[67]] ++ [[66]]) = ([[66], [67]] : List Str) := eq_of_rising (tab_sorted _) (by decide) (fun x => by rw [mem_tab]; simp; exact Or.comm)
  show (if (1 : Int) = 1 then (if strOf ⟨#[67]⟩ ∈ ([] : List Str) then _ else _) else _) = _
  have s1 : strOf (⟨#[67]⟩ : ByteArray) = [67] := rfl
  have s2 : strOf (⟨#[66]⟩ : ByteArray) = [66] := rfl
  rw [if_pos rfl, s1, if_neg (by simp), if_neg (by simp), t1]
  have h2 : readW (wordTks 1 [[66]] (c + 1 + 1)) [[67]] = ([[66], [67]], 1, false) := by
    show (if (1 : Int) = 1 then (if strOf ⟨#[66]⟩ ∈ ([[67]] : List Str) then _ else _) else _) = _
    rw [if_pos rfl, s2, if_neg (by decide), if_neg (by simp), t2]
    rfl
  have h3 : readW (wordTks 1 [[66]] (c + 1 + ([67] : Str).length)) [[67]] = ([[66], [67]], 1, false) := h2
  rw [h3]
theorem ex_parse : ∃ L, ansOf exT = .ok L ∧ parseQ L = (exQ, 0, 0) := by
  refine ⟨_, ?_, parse3 (.inr (.inr rfl)) ex_read ex_right⟩
  rw [← ex_text]; exact toks_line ex_form
theorem parse_line {q : Qy} (h : q.right = true) : ∃ L, ansOf (lineQ q) = .ok L ∧ parseQ L = (q, 0, 0) := by
  refine ⟨_, ?_, parse_toks h⟩
  unfold lineQ
  rw [if_pos h]; exact toks_line (form_of h)
end Go.Proofs.YtkmonmpfbchffaaGreat.QryN
/- A line as a statement, in the program. -/
namespace Go.Proofs.YtkmonmpfbchffaaGreat.SynY
set_option linter.unusedVariables false
set_option linter.unusedSimpArgs false
open Go.RowKit Go.Sort Go.Proofs Go.Proofs.YtkmonmpfbchffaaGreat.Plain Go.Proofs.YtkmonmpfbchffaaGreat.SynP Go.Proofs.YtkmonmpfbchffaaGreat.SynQ Go.Proofs.YtkmonmpfbchffaaGreat.Grown Go.Proofs.YtkmonmpfbchffaaGreat.SynA Go.Proofs.YtkmonmpfbchffaaGreat.SynC Go.Proofs.YtkmonmpfbchffaaGreat.SynR Go.Proofs.YtkmonmpfbchffaaGreat.SynW Go.Proofs.YtkmonmpfbchffaaGreat.Scan3 Go.Proofs.YtkmonmpfbchffaaGreat.Scan5 Go.Proofs.YtkmonmpfbchffaaGreat.Syn4 Go.Proofs.YtkmonmpfbchffaaGreat.Syn6 Go.Proofs.YtkmonmpfbchffaaGreat.SynS Go.Proofs.YtkmonmpfbchffaaGreat.SynG Go.Proofs.YtkmonmpfbchffaaGreat.SynH Go.Proofs.YtkmonmpfbchffaaGreat.SynU Go.Proofs.YtkmonmpfbchffaaGreat.SynV Go.Proofs.YtkmonmpfbchffaaGreat.SynX
set_option linter.unusedVariables false
set_option linter.unusedSimpArgs false
/-- What a line is parsed as. -/
def parseA : TkAns → St × Int × Int
  | .bad c e => (zeroS, c, e)
  | .ok L => parseL L
def ParsePost (p : St × Int × Int) (w : World) (e : Ending) (w' : World) : Prop := e = .returned (.tuple #[p.1.val, .int .i64 p.2.1, .int .i64 p.2.2]) ∧ Below w.heap.size w w'
def zeroC : Obj := .cells #[.int .i64 0, .string ⟨#[]⟩, .string ⟨#[]⟩, .string ⟨#[]⟩, .string ⟨#[]⟩, .string ⟨#[]⟩, .string ⟨#[]⟩, .string ⟨#[]⟩, .string ⟨#[]⟩] 72
set_option maxHeartbeats 1000000 in
set_option maxRecDepth 100000 in
theorem parse_bad (s : ByteArray) (w : World) (hs : s.size ≤ 1000000) (c : Nat) (er : Int) (h : ansOf s = .bad c er) : Calls Tryz.prog 195 #[.string s] w (ParsePost (parseA (.bad c er)) w) := by
  have HT := Lib.hid (tokens s · hs)
  rw [h] at HT
  have he := ans_bad h
  have e1 : (er != 0) = true := by rcases he with rfl | rfl <;> rfl
  clear h he
  go_enter Tryz.func195, Tryz.ntmps195
  go_wp2_with fail
  refine (HT.out _).mono ?_
  rintro e w1 ⟨v, rfl, hown, hb1⟩
  have bR := blk_below (heap_alloc_new w zeroC) hb1 (by simp)
  unfold zeroC at bR
  have hcR := fun o => Lib.cell_of_heap bR o
  have hfR := blk_frozen bR
  have hb0 := ((Below.refl w.heap.size w).alloc (Nat.le_refl _) zeroC).trans (hb1.mono (by simp))
  have gc := set_cell
  simp only [okErr, okCol]
  clear hown bR hb1
  go_wp2_with fail
  exact bodyPost_ret (v := .tuple #[.agg #[.int .i64 0, .string ⟨#[]⟩, .string ⟨#[]⟩, .string ⟨#[]⟩, .string ⟨#[]⟩, .string ⟨#[]⟩, .string ⟨#[]⟩, .string ⟨#[]⟩, .string ⟨#[]⟩], .int .i64 c, .int .i64 er]) (by simp [results, Tryz.results195, go_sem, set9, hcR]) rfl ⟨rfl, ((((((((((hb0).setCell (by simp) _).setCell (by simp) _).setCell (by simp) _).setCell (by simp) _).setCell (by simp) _).setCell (by simp) _).setCell (by simp) _).setCell (by simp) _).setCell (by simp) _)⟩
theorem set9_far (X : World) (n g i : Nat) (v0 v1 v2 v3 v4 v5 v6 v7 v8 : Value) (h : n ≠ g) : (((((((((X.setCell ⟨n, 0, none⟩ v0).setCell ⟨n, 1, none⟩ v1).setCell ⟨n, 2, none⟩ v2).setCell ⟨n, 3, none⟩ v3).setCell ⟨n, 4, none⟩ v4).setCell ⟨n, 5, none⟩ v5).setCell ⟨n, 6, none⟩ v6).setCell ⟨n, 7, none⟩ v7).setCell ⟨n, 8, none⟩ v8).cell? ⟨g, i, none⟩ = X.cell? ⟨g, i, none⟩ := by
  rw [set_far _ _ _ _ _ _ h, set_far _ _ _ _ _ _ h, set_far _ _ _ _ _ _ h, set_far _ _ _ _ _ _ h, set_far _ _ _ _ _ _ h, set_far _ _ _ _ _ _ h, set_far _ _ _ _ _ _ h, set_far _ _ _ _ _ _ h, set_far _ _ _ _ _ _ h]
theorem drew_cell (Y : World) (a : Addr) : Y.drew.cell? a = Y.cell? a := rfl
theorem set9_fard (X : World) (n g i : Nat) (v0 v1 v2 v3 v4 v5 v6 v7 v8 : Value) (h : n ≠ g) : (((((((((X.setCell ⟨n, 0, none⟩ v0).setCell ⟨n, 1, none⟩ v1).setCell ⟨n, 2, none⟩ v2).setCell ⟨n, 3, none⟩ v3).setCell ⟨n, 4, none⟩ v4).setCell ⟨n, 5, none⟩ v5).setCell ⟨n, 6, none⟩ v6).setCell ⟨n, 7, none⟩ v7).setCell ⟨n, 8, none⟩ v8).drew.cell? ⟨g, i, none⟩ = X.cell? ⟨g, i, none⟩ := by
  rw [drew_cell]; exact set9_far X n g i v0 v1 v2 v3 v4 v5 v6 v7 v8 h
theorem max_cast (a b : Nat) : (max (a : Int) (b : Int)) = ((max a b : Nat) : Int) := by omega
set_option maxHeartbeats 2000000 in
set_option maxRecDepth 100000 in
theorem parse_ok (s : ByteArray) (w : World) (hs : s.size ≤ 1000000) (L : List Tk) (h : ansOf s = .ok L) : Calls Tryz.prog 195 #[.string s] w (ParsePost (parseL L) w) := by
  have hgood := ans_good h
  have hlen := ans_len h
  have Hg := Lib.hid (fun t ht => (hgood t ht).1)
  have Hs : Hid (SmallTk L) := Lib.hid (fun t ht => ⟨by have := (hgood t ht).2.1; omega, by have := (hgood t ht).2.2; omega⟩)
  have HT := Lib.hid (tokens s · hs)
  rw [h] at HT
  clear h hgood
  go_enter Tryz.func195, Tryz.ntmps195
  go_wp2_with fail
  refine (HT.out _).mono ?_
  rintro e w1 ⟨v, rfl, hown, hb1⟩
  obtain ⟨A, ca, rfl, hca, hA⟩ := of_rowTk hown
  simp only [okErr, okCol, okToks] at hca hA ⊢
  have bR := blk_below (heap_alloc_new w zeroC) hb1 (by simp)
  unfold zeroC at bR
  have hb0 := ((Below.refl w.heap.size w).alloc (Nat.le_refl _) zeroC).trans (hb1.mono (by simp))
  have z1 := hb1.size
  simp only [World.size_alloc] at z1
  have BR := Lib.hid bR
  have HA := Lib.hid hA
  have hfresh : ∀ g o, A = some ⟨g, o, none⟩ → w.heap.size + 1 ≤ g := fun g o e => by
    subst e
    have := (hown.lt g rfl).1
    simpa using this
  have HF := Lib.hid hfresh
  clear hown bR hb1 hA hfresh
  go_wp2_with fail
  go_loopw [8, 9] (fun f kd wr => ∃ k : Nat, k ≤ 4 ∧ kd = .int .i64 ((k + 1 : Nat) : Int) ∧ f = .int .i64 (bestOf L k : Nat) ∧ Hid (∀ j, j < k → kindsOf L ≠ shapeK (j + 1)) ∧ Below w1.heap.size w1 wr) (fun _ kd _ => 5 - (intOf kd).toNat)
  case atStart => exact ⟨0, by omega, rfl, rfl, Lib.hid (fun j hj => by omega), Below.refl _ _⟩
  case round =>
    obtain ⟨k, hk, rfl, rfl, hno, hbel⟩ := hrel
    have hbst := best_le L k
    by_cases hlt : k < 4
    · have z2 := hbel.size
      have HSh := Lib.hid (shapeOf (k + 1) (by omega) (by omega))
      have hslen := shape_len (k + 1)
      go_wp2_with fail
      refine (HSh.out _).mono ?_
      rintro e w2 ⟨v2, rfl, hown2, hb2⟩
      obtain ⟨S, cs, rfl, hS⟩ := iat_of_own hown2
      have hbw2 := hbel.trans (hb2.mono z2)
      have HAg := Lib.hid (agree A ca L S cs (shapeK (k + 1)) w2 (by omega) (by omega) (HA.out.below hbw2) hS)
      have ha1 := agree_le1 (kindsOf L) (shapeK (k + 1))
      rw [kinds_len] at ha1
      have ha2 := agree_le2 (kindsOf L) (shapeK (k + 1))
      clear hown2 hS hb2 hbel
      by_cases hhit : kindsOf L = shapeK (k + 1)
      · have e1 : agreeN (kindsOf L) (shapeK (k + 1)) = L.length := by rw [← hhit, agree_self, kinds_len]
        have e2 : (shapeK (k + 1)).length = L.length := by rw [← hhit, kinds_len]
        have Hst := Lib.hid (fun (w3 : World) (hb : RowKit.Below w1.heap.size w1 w3) => stmt (k + 1) (by omega) (by omega) A ca L w3 hca hhit Hg.out Hs.out (HA.out.below hb))
        have Hfin := Lib.hid (parseL_hit (by omega) (by omega) hhit)
        rw [e1] at HAg
        rw [e2] at HAg ⊢
        clear e1 e2 hhit ha1 ha2 hslen
        go_wp2_with (go_at_call 244; refine HAg.out.mono ?_; rintro e w3 ⟨rfl, m, rfl⟩)
        refine (Hst.out _ (hbw2.trans (below_drewN (Below.refl _ _) m))).mono ?_
        rintro e w3 ⟨rfl, hb3⟩
        have hbw3 := (hbw2.trans (below_drewN (Below.refl _ _) m)).trans (hb3.mono (by have := hbw2.size; simp; omega))
        clear hb3 hbw2
        go_wp2_with fail
        refine (normal _ _).mono ?_
        rintro e w4 ⟨rfl, hg4⟩
        have hbw4 := hbw3.trans (hg4.below.mono hbw3.size)
        have bR := blk_below BR.out hbw4 (by omega)
        have hcR := fun o => Lib.cell_of_heap bR o
        have hfR := blk_frozen bR
        have hbf := hb0.trans (hbw4.mono (by omega : w.heap.size ≤ w1.heap.size))
        have gc := set_cell
        unfold St.val
        clear bR hbw4 hg4 hbw3
        go_wp2_with fail
        refine bodyPost_ret (v := .tuple #[(stmtOf (k + 1) L).normal.val, .int .i64 0, .int .i64 0]) (by unfold St.val; simp [results, Tryz.results195, go_sem, set9, hcR]) rfl ⟨by rw [Hfin.out], ((((((((((hbf).setCell (by simp) _).setCell (by simp) _).setCell (by simp) _).setCell (by simp) _).setCell (by simp) _).setCell (by simp) _).setCell (by simp) _).setCell (by simp) _).setCell (by simp) _)⟩
      · have hnext : Hid (∀ j, j < k + 1 → kindsOf L ≠ shapeK (j + 1)) := Lib.hid (fun j hj => by
          rcases Nat.lt_or_ge j k with h | h
          · exact hno.out j h
          · obtain rfl : j = k := by omega
            exact hhit)
        have hbest : Hid (bestOf L (k + 1) = max (bestOf L k) (agreeN (kindsOf L) (shapeK (k + 1)))) := Lib.hid rfl
        have hne : ¬ (agreeN (kindsOf L) (shapeK (k + 1)) = L.length ∧ agreeN (kindsOf L) (shapeK (k + 1)) = (shapeK (k + 1)).length) := fun e => hhit (agree_all _ _ (by rw [kinds_len]; exact e.1) e.2)
        clear hhit hno
        generalize agreeN (kindsOf L) (shapeK (k + 1)) = n at *
        generalize (shapeK (k + 1)).length = sl at *
        by_cases h1 : n = L.length
        · have h2 : ¬ n = sl := fun e => hne ⟨h1, e⟩
          have d1 : ((n : Int) == L.length) = true := by simp; omega
          have d2 : ((n : Int) == sl) = false := by simp; omega
          clear hne h1 h2
          go_wp2_with (go_at_call 244; refine HAg.out.mono ?_; rintro e w3 ⟨rfl, m, rfl⟩)
          go_roundw
          case rel => exact ⟨k + 1, by omega, by go_num, by rw [hbest.out, ← max_cast], hnext, hbw2.trans (below_drewN (Below.refl _ _) m)⟩
          case measure => simp [intOf]; omega
        · have d1 : ((n : Int) == L.length) = false := by simp; omega
          clear hne h1
          go_wp2_with (go_at_call 244; refine HAg.out.mono ?_; rintro e w3 ⟨rfl, m, rfl⟩)
          go_roundw
          case rel => exact ⟨k + 1, by omega, by go_num, by rw [hbest.out, ← max_cast], hnext, hbw2.trans (below_drewN (Below.refl _ _) m)⟩
          case measure => simp [intOf]; omega
    · obtain rfl : k = 4 := by omega
      have Hmiss := Lib.hid (parseL_miss hno.out)
      have bR := blk_below BR.out hbel (by omega)
      have hcR := fun o => Lib.cell_of_heap bR o
      have hfR := blk_frozen bR
      have hbf := hb0.trans (hbel.mono (by omega : w.heap.size ≤ w1.heap.size))
      have hA2 := HA.out.below hbel
      have gc := set_cell
      clear hno hlt
      by_cases hb4 : bestOf L 4 < L.length
      · have Hm2 := Lib.hid (Hmiss.out.trans (if_pos hb4))
        obtain ⟨g, o, rfl, hg, hc⟩ := hA2 (by omega)
        obtain ⟨_, _, x2⟩ := hc (bestOf L 4) hb4
        have hgw := HF.out g o rfl
        have hcol := Lib.hid (colAt_eq hb4)
        have d1 : decide ((bestOf L 4 : Int) < L.length) = true := by simp; omega
        have d2 : (0 : Int) ≤ bestOf L 4 := by omega
        have d3 : ((bestOf L 4 : Nat) : Int) < (L.length : Int) := by omega
        rw [← hcol.out] at x2
        clear hc hbel
        generalize colAt L (bestOf L 4) = col at *
        generalize bestOf L 4 = b at *
        go_wp2_with fail
        have hst : wr.drew.cell? ⟨g, o + b * 3 + 2, none⟩ = some (.int .i64 col) := x2
        go_region_held3 (fun x => x.cell? ⟨g, o + b * 3 + 2, none⟩ = some (.int .i64 col)) (first | with_reducible exact hst | with_reducible assumption | (rw [set9_fard _ _ _ _ _ _ _ _ _ _ _ _ _ (by omega)]; with_reducible exact x2) | (rw [set9_far _ _ _ _ _ _ _ _ _ _ _ _ _ (by omega)]; with_reducible exact hst)) (fail)
        go_wp2_with fail
        exact bodyPost_ret (v := .tuple #[.agg #[.int .i64 0, .string ⟨#[]⟩, .string ⟨#[]⟩, .string ⟨#[]⟩, .string ⟨#[]⟩, .string ⟨#[]⟩, .string ⟨#[]⟩, .string ⟨#[]⟩, .string ⟨#[]⟩], .int .i64 col, .int .i64 2]) (by simp [results, Tryz.results195, go_sem, set9, hcR]) rfl ⟨by rw [Hm2.out]; rfl, ((((((((((hbf).setCell (by simp) _).setCell (by simp) _).setCell (by simp) _).setCell (by simp) _).setCell (by simp) _).setCell (by simp) _).setCell (by simp) _).setCell (by simp) _).setCell (by simp) _).drew⟩
      · have Hm2 := Lib.hid (Hmiss.out.trans (if_neg hb4))
        have d1 : decide (bestOf L 4 < L.length) = false := decide_eq_false hb4
        have HB := Lib.hid (behind A ca L wr (by omega) hA2 Hs.out)
        clear hb4 hA2
        go_wp2_with fail
        refine HB.out.mono ?_
        rintro e w3 ⟨rfl, hb3⟩
        have bR3 := blk_below bR hb3 (by have := hbel.size; omega)
        have hcR3 := fun o => Lib.cell_of_heap bR3 o
        have hfR3 := blk_frozen bR3
        have hbf3 := hbf.trans (hb3.mono (by have := hbel.size; omega))
        clear bR hcR hfR hb3 hbf bR3 hbel
        go_wp2_with fail
        exact bodyPost_ret (v := .tuple #[.agg #[.int .i64 0, .string ⟨#[]⟩, .string ⟨#[]⟩, .string ⟨#[]⟩, .string ⟨#[]⟩, .string ⟨#[]⟩, .string ⟨#[]⟩, .string ⟨#[]⟩, .string ⟨#[]⟩], .int .i64 (behindOf L), .int .i64 3]) (by simp [results, Tryz.results195, go_sem, set9, hcR3]) rfl ⟨by rw [Hm2.out]; rfl, ((((((((((hbf3).setCell (by simp) _).setCell (by simp) _).setCell (by simp) _).setCell (by simp) _).setCell (by simp) _).setCell (by simp) _).setCell (by simp) _).setCell (by simp) _).setCell (by simp) _)⟩
theorem parse (s : ByteArray) (w : World) (hs : s.size ≤ 1000000) : Calls Tryz.prog 195 #[.string s] w (ParsePost (parseA (ansOf s)) w) := by
  cases h : ansOf s with
  | bad c e => exact parse_bad s w hs c e h
  | ok L => exact parse_ok s w hs L h
end Go.Proofs.YtkmonmpfbchffaaGreat.SynY
/- The document's example of a statement. -/
namespace Go.Proofs.YtkmonmpfbchffaaGreat.SynN
set_option linter.unusedVariables false
set_option linter.unusedSimpArgs false
open Go.RowKit Go.Sort Go.Proofs Go.Proofs.YtkmonmpfbchffaaGreat.Plain Go.Proofs.YtkmonmpfbchffaaGreat.SynP Go.Proofs.YtkmonmpfbchffaaGreat.SynQ Go.Proofs.YtkmonmpfbchffaaGreat.Grown Go.Proofs.YtkmonmpfbchffaaGreat.SynW Go.Proofs.YtkmonmpfbchffaaGreat.Scan3 Go.Proofs.YtkmonmpfbchffaaGreat.Syn7 Go.Proofs.YtkmonmpfbchffaaGreat.SynL Go.Proofs.YtkmonmpfbchffaaGreat.SynX Go.Proofs.YtkmonmpfbchffaaGreat.SynY Go.Proofs.YtkmonmpfbchffaaGreat.SynZ
set_option linter.unusedVariables false
set_option linter.unusedSimpArgs false
def ex : ByteArray := ⟨#[65, 46, 114, 32, 60, 45, 32, 66, 46, 115, 32, 38, 32, 65, 46, 115]⟩
def exH : Rl := ⟨⟨#[65]⟩, ⟨#[114]⟩⟩
def exA : Rl := ⟨⟨#[65]⟩, ⟨#[115]⟩⟩
def exB : Rl := ⟨⟨#[66]⟩, ⟨#[115]⟩⟩
def exS : St := ⟨4, exH, noText, exA, exB, noText⟩
theorem ex_eq : ex = textR exH ++ arr ++ (textR exB ++ ampS ++ textR exA) := by
  apply ba_ext; decide +kernel
theorem ex_okH : exH.ok = true := by decide +kernel
theorem ex_okA : exA.ok = true := by decide +kernel
theorem ex_okB : exB.ok = true := by decide +kernel
theorem ex_lt : cmpR exA exB < 0 := by decide +kernel
theorem ex_parse : parseA (ansOf ex) = (exS, 0, 0) := by
  obtain ⟨c1, c2, ht⟩ := toks4 ex_okH ex_okB ex_okA
  obtain ⟨e1, e2⟩ := parsed (k := 4) ht (by omega) (by omega) rfl
  rw [ex_eq, e1]
  show parseL _ = _
  rw [e2]
  have : (stmtOf 4 (roleTk exH 0 ++ [⟨4, SynR.arrow, (textR exH).size + 1 + 1⟩] ++ (roleTk exB ((textR exH).size + 4) ++ [⟨5, SynR.amp, c1⟩] ++ roleTk exA c2))) = ⟨4, exH, noText, exB, exA, noText⟩ := rfl
  rw [this]
  have h : St.normal ⟨4, exH, noText, exB, exA, noText⟩ = ⟨4, exH, noText, exA, exB, noText⟩ := if_pos ⟨rfl, ex_lt⟩
  rw [h]; rfl
theorem ex_right : exS.right = true := by
  refine right_of ex_okH ?_ rfl
  show (exA.ok && exB.ok && !decide (cmpR exB exA < 0)) = true
  rw [ex_okA, ex_okB, decide_eq_false (by have := ex_lt; rw [cmpR_anti exA exB]; omega)]; rfl
theorem ex_line : line exS = ⟨#[65, 46, 114, 32, 60, 45, 32, 65, 46, 115, 32, 38, 32, 66, 46, 115]⟩ := by
  rw [line_right ex_right]
  apply ba_ext; decide +kernel
theorem ex_fit : exS.fit := by
  refine ⟨⟨?_, ?_⟩, ?_, ⟨?_, ?_⟩, ⟨?_, ?_⟩, ?_⟩ <;> (show _ ≤ 9223372036854775807; decide)
end Go.Proofs.YtkmonmpfbchffaaGreat.SynN
/- Which statements are light. -/
namespace Go.Proofs.YtkmonmpfbchffaaGreat.SynM
set_option linter.unusedVariables false
set_option linter.unusedSimpArgs false
open Go.RowKit Go.Sort Go.Proofs Go.Proofs.YtkmonmpfbchffaaGreat.Plain Go.Proofs.YtkmonmpfbchffaaGreat.SynP Go.Proofs.YtkmonmpfbchffaaGreat.Grown Go.Proofs.YtkmonmpfbchffaaGreat.Syn1
set_option linter.unusedVariables false
set_option linter.unusedSimpArgs false
def textsOf (s : St) : List ByteArray := [s.who, s.via, s.head.owner, s.head.name, s.a.owner, s.a.name, s.b.owner, s.b.name]
def lightL (l : List ByteArray) : Bool := l.all fun x => decide (x.size ≤ 40)
def lightS (s : St) : Bool := lightL (textsOf s)
theorem light_no {l : List ByteArray} {k : Nat} (h : k < l.length) (hk : ¬ l[k].size ≤ 40) : lightL l = false := by
  unfold lightL
  rw [List.all_eq_false]
  exact ⟨l[k], List.getElem_mem _, by simp; omega⟩
theorem light_yes {l : List ByteArray} (h : ∀ k, (hk : k < l.length) → l[k].size ≤ 40) : lightL l = true := by
  unfold lightL
  rw [List.all_eq_true]
  intro x hx
  obtain ⟨k, hk, rfl⟩ := List.getElem_of_mem hx
  simpa using h k hk
set_option maxRecDepth 100000 in
theorem light (s : St) (w : World) : Calls Tryz.prog 53 #[s.val] w fun e w' => e = .returned (.bool (lightS s)) ∧ Grew w w' := by
  have hl : (textsOf s).length = 8 := rfl
  obtain ⟨k1, ⟨ho, hn⟩, wh, ⟨ao, an⟩, ⟨bo, bn⟩, v⟩ := s
  have hT : textsOf ⟨k1, ⟨ho, hn⟩, wh, ⟨ao, an⟩, ⟨bo, bn⟩, v⟩ = [wh, v, ho, hn, ao, an, bo, bn] := rfl
  unfold lightS
  unfold St.val
  go_enter Tryz.func53, Tryz.ntmps53
  go_wp2
  have hrow : ∀ k, (h : k < (textsOf ⟨k1, ⟨ho, hn⟩, wh, ⟨ao, an⟩, ⟨bo, bn⟩, v⟩).length) → ((w.alloc (.cells #[.int .i64 k1, .string ho, .string hn, .string wh, .string ao, .string an, .string bo, .string bn, .string v] 72)).alloc (.cells #[.string wh, .string v, .string ho, .string hn, .string ao, .string an, .string bo, .string bn] 9)).cell? ⟨w.heap.size + 1, k, none⟩ = some (.string (textsOf ⟨k1, ⟨ho, hn⟩, wh, ⟨ao, an⟩, ⟨bo, bn⟩, v⟩)[k]) := fun k h => by
    have := Lib.cell_of_heap (heap_alloc_new (w.alloc (.cells #[.int .i64 k1, .string ho, .string hn, .string wh, .string ao, .string an, .string bo, .string bn, .string v] 72)) (.cells #[.string wh, .string v, .string ho, .string hn, .string ao, .string an, .string bo, .string bn] 9)) k
    rw [World.size_alloc] at this
    rw [this]
    match k, h with
    | 0, _ => rfl
    | 1, _ => rfl
    | 2, _ => rfl
    | 3, _ => rfl
    | 4, _ => rfl
    | 5, _ => rfl
    | 6, _ => rfl
    | 7, _ => rfl
  clear hT
  have Hrow := Lib.hid hrow
  have Hl := Lib.hid hl
  clear hrow hl
  generalize hE : textsOf ⟨k1, ⟨ho, hn⟩, wh, ⟨ao, an⟩, ⟨bo, bn⟩, v⟩ = l at *
  have HE := Lib.hid hE
  clear hE
  go_loop [29] (fun i => ∃ k : Nat, k ≤ 8 ∧ i = .int .i64 k ∧ Hid (∀ j, (h : j < l.length) → j < k → l[j].size ≤ 40)) (fun i => 8 - (intOf i).toNat)
  case atStart => exact ⟨0, by omega, rfl, Lib.hid fun j _ hj => by omega⟩
  case round =>
    obtain ⟨k, hk, rfl, hall⟩ := hrel
    by_cases hlt : k < 8
    · have hkl : k < l.length := by rw [Hl.out]; exact hlt
      have hc := Hrow.out k hkl
      have p1 : (0 : Int) ≤ k := by omega
      have p2 : (k : Int) < 8 := by omega
      by_cases h40 : l[k].size ≤ 40
      · have hnext : Hid (∀ j, (h : j < l.length) → j < k + 1 → l[j].size ≤ 40) := Lib.hid fun j h hj => by
          by_cases e : j = k
          · subst e; exact h40
          · exact hall.out j h (by omega)
        clear hall
        go_wp2_with fail
        go_round
        case rel => exact ⟨k + 1, by omega, by go_num, hnext⟩
        case measure => simp [intOf]; omega
      · have hf := Lib.hid (light_no hkl h40)
        have h41 : 40 < l[k].size := by omega
        clear hall h40
        go_wp2_with fail
        go_ret
        exact ⟨ret_bool (by rw [HE.out]; exact hf.out.symm), ((Grew.refl _).alloc _).alloc _⟩
    · have hf := Lib.hid (light_yes (fun j h => hall.out j h (by rw [Hl.out] at h; omega)))
      clear hall
      go_wp2_with fail
      go_ret
      exact ⟨ret_bool (by rw [HE.out]; exact hf.out.symm), ((Grew.refl _).alloc _).alloc _⟩
theorem light_size {s : St} (h : lightS s = true) : s.head.owner.size ≤ 1000 ∧ s.head.name.size ≤ 1000 := by
  unfold lightS lightL textsOf at h
  simp at h
  omega
end Go.Proofs.YtkmonmpfbchffaaGreat.SynM
/- A row of roles: those of a statement, and whether two rows are the very same. -/
namespace Go.Proofs.YtkmonmpfbchffaaGreat.SynJ
set_option linter.unusedVariables false
set_option linter.unusedSimpArgs false
open Go.RowKit Go.Sort Go.Proofs Go.Proofs.YtkmonmpfbchffaaGreat.Plain Go.Proofs.YtkmonmpfbchffaaGreat.SynP Go.Proofs.YtkmonmpfbchffaaGreat.Grown Go.Proofs.YtkmonmpfbchffaaGreat.SynE Go.Proofs.YtkmonmpfbchffaaGreat.Syn4
set_option linter.unusedVariables false
set_option linter.unusedSimpArgs false
theorem infoRole : (Tryz.prog.info? 23).map (fun i => (i.zero, i.size, i.bytes)) = some (some (.agg #[.string ⟨#[]⟩, .string ⟨#[]⟩]), 2, 32) := by kernel_rfl
def rcells (l : List Rl) : List Value := (l.map fun r => [Value.string r.owner, Value.string r.name]).flatten
/-- A slice value that reads as roles. -/
def RAt (w : World) (A : Option Addr) (l : List Rl) : Prop := 0 < l.length → ∃ g, A = some ⟨g, 0, none⟩ ∧ g < w.heap.size ∧ ∀ j, (h : j < l.length) → w.cell? ⟨g, j * 2, none⟩ = some (.string l[j].owner) ∧ w.cell? ⟨g, j * 2 + 1, none⟩ = some (.string l[j].name)
theorem RAt.below {w w' : World} {A : Option Addr} {l : List Rl} (h : RAt w A l) (hb : RowKit.Below w.heap.size w w') : RAt w' A l := fun hp => by
  obtain ⟨g, hA, hg, hc⟩ := h hp
  refine ⟨g, hA, Nat.lt_of_lt_of_le hg hb.size, fun j hj => ?_⟩
  obtain ⟨a, b⟩ := hc j hj
  exact ⟨(hb.cell (p := ⟨g, j * 2, none⟩) hg).trans a, (hb.cell (p := ⟨g, j * 2 + 1, none⟩) hg).trans b⟩
theorem rcells_at (L : List Rl) (j : Nat) (h : j < L.length) : (rcells L)[j * 2]? = some (.string L[j].owner) ∧ (rcells L)[j * 2 + 1]? = some (.string L[j].name) := by
  induction L generalizing j with
  | nil => simp at h
  | cons t L ih =>
    have e : rcells (t :: L) = [Value.string t.owner, Value.string t.name] ++ rcells L := by unfold rcells; simp
    rw [e]
    cases j with
    | zero => exact ⟨rfl, rfl⟩
    | succ j =>
      obtain ⟨a, b⟩ := ih j (by simpa using h)
      refine ⟨?_, ?_⟩ <;> rw [List.getElem?_append_right (by simp; omega)]
      · rw [show (j + 1) * 2 - [Value.string t.owner, Value.string t.name].length = j * 2 from by simp; omega]; exact a
      · rw [show (j + 1) * 2 + 1 - [Value.string t.owner, Value.string t.name].length = j * 2 + 1 from by simp; omega]; exact b
theorem rat_own {w : World} {B : Nat} {e : TypeId} {v : Value} {L : List Rl} (h : w.ownsRow B e 2 v L.length (rcells L)) : ∃ A cap, v = .slice A L.length cap ∧ RAt w A L := by
  rcases h.2 with ⟨rfl, h0⟩ | ⟨g, cap, cur, rfl, hB, hh, hc, hm, hs, ht⟩
  · exact ⟨none, 0, by rw [h0], fun hp => by omega⟩
  · refine ⟨_, _, rfl, fun hp => ⟨g, rfl, (h.lt g rfl).2, fun j hj => ?_⟩⟩
    obtain ⟨a, b⟩ := rcells_at L j hj
    rw [← ht] at a b
    rw [List.getElem?_take_of_lt (by omega)] at a b
    refine ⟨?_, ?_⟩ <;> rw [Lib.cell_of_heap hh]
    · rw [← Array.getElem?_toList]; exact a
    · rw [← Array.getElem?_toList]; exact b
theorem rat_new (w : World) (L : List Rl) (t : TypeId) : RAt (w.alloc (.cells (rcells L).toArray t)) (some ⟨w.heap.size, 0, none⟩) L := fun _ =>
  ⟨w.heap.size, rfl, by simp, fun j hj => by
    obtain ⟨a, b⟩ := rcells_at L j hj
    exact ⟨by rw [Lib.cell_of_heap (heap_alloc_new w _), List.getElem?_toArray]; exact a, by rw [Lib.cell_of_heap (heap_alloc_new w _), List.getElem?_toArray]; exact b⟩⟩
set_option maxRecDepth 100000 in
theorem sameRoles (A B : Option Addr) (ca cb : Nat) (L : List Rl) (w : World) (hL : L.length ≤ 1000) (hA : RAt w A L) (hB : RAt w B L) :
    Calls Tryz.prog 32 #[.slice A L.length ca, .slice B L.length cb] w fun e w' => e = .returned (.bool true) ∧ RowKit.Below w.heap.size w w' := by
  go_enter Tryz.func32, Tryz.ntmps32
  go_wp2
  go_loopw [13] (fun i wr => ∃ k : Nat, k ≤ L.length ∧ i = .int .i64 k ∧ ∃ n, wr = w.drewN n) (fun i _ => L.length - (intOf i).toNat)
  case atStart => exact ⟨0, by omega, rfl, 0, rfl⟩
  case round =>
    obtain ⟨k, hk, rfl, n, rfl⟩ := hrel
    by_cases hlt : k < L.length
    · obtain ⟨g1, rfl, _, h1⟩ := hA (by omega)
      obtain ⟨g2, rfl, _, h2⟩ := hB (by omega)
      obtain ⟨a1, b1⟩ := h1 k hlt
      obtain ⟨a2, b2⟩ := h2 k hlt
      have p1 : (0 : Int) ≤ k := by omega
      have p2 : (k : Int) < L.length := by omega
      have hq := fun w => neR L[k].owner L[k].name L[k].owner L[k].name w
      rw [decide_eq_true rfl] at hq
      clear h1 h2 hA hB
      go_wp2_with fail
      go_quiet (fail)
      go_wp2_with fail
      go_roundw
      case rel => exact ⟨k + 1, by omega, by go_num, _, rfl⟩
      case measure => simp [intOf]; omega
    · go_wp2_with fail
      go_ret
      exact ⟨rfl, below_drewN (Below.refl _ _) _⟩
/-- The roles of a statement: its head, and what its body names. -/
def rolesL (s : St) : List Rl := if s.kind = 2 ∨ s.kind = 3 then [s.head, s.a] else if s.kind = 4 then [s.head, s.a, s.b] else [s.head]
def RolesPost (s : St) (w : World) (e : Ending) (w' : World) : Prop := ∃ A, e = .returned (.slice A (rolesL s).length (rolesL s).length) ∧ RAt w' A (rolesL s) ∧ Grew w w'
set_option maxRecDepth 100000 in
theorem roles (s : St) (w : World) : Calls Tryz.prog 133 #[s.val] w (RolesPost s w) := by
  obtain ⟨k1, ⟨ho, hn⟩, wh, ⟨ao, an⟩, ⟨bo, bn⟩, v⟩ := s
  rcases kinds k1 with rfl | rfl | rfl | rfl | ⟨h1, h2, h3, h4⟩
  · have hn1 := rat_new (w.alloc (.cells #[.int .i64 1, .string ho, .string hn, .string wh, .string ao, .string an, .string bo, .string bn, .string v] 72)) [⟨ho, hn⟩] 23
    rw [World.size_alloc] at hn1
    have HN := Lib.hid hn1
    clear hn1
    have hr : Hid (rolesL ⟨1, ⟨ho, hn⟩, wh, ⟨ao, an⟩, ⟨bo, bn⟩, v⟩ = [⟨ho, hn⟩]) := Lib.hid rfl
    unfold St.val
    go_enter Tryz.func133, Tryz.ntmps133
    go_wp2
    go_ret
    exact ⟨_, by rw [hr.out]; rfl, by rw [hr.out]; exact HN.out, ((Grew.refl _).alloc _).alloc _⟩
  · have hn1 := rat_new (w.alloc (.cells #[.int .i64 2, .string ho, .string hn, .string wh, .string ao, .string an, .string bo, .string bn, .string v] 72)) [⟨ho, hn⟩, ⟨ao, an⟩] 23
    rw [World.size_alloc] at hn1
    have HN := Lib.hid hn1
    clear hn1
    have hr : Hid (rolesL ⟨2, ⟨ho, hn⟩, wh, ⟨ao, an⟩, ⟨bo, bn⟩, v⟩ = [⟨ho, hn⟩, ⟨ao, an⟩]) := Lib.hid rfl
    unfold St.val
    go_enter Tryz.func133, Tryz.ntmps133
    go_wp2
    go_ret
    exact ⟨_, by rw [hr.out]; rfl, by rw [hr.out]; exact HN.out, ((Grew.refl _).alloc _).alloc _⟩
  · have hn1 := rat_new (w.alloc (.cells #[.int .i64 3, .string ho, .string hn, .string wh, .string ao, .string an, .string bo, .string bn, .string v] 72)) [⟨ho, hn⟩, ⟨ao, an⟩] 23
    rw [World.size_alloc] at hn1
    have HN := Lib.hid hn1
    clear hn1
    have hr : Hid (rolesL ⟨3, ⟨ho, hn⟩, wh, ⟨ao, an⟩, ⟨bo, bn⟩, v⟩ = [⟨ho, hn⟩, ⟨ao, an⟩]) := Lib.hid rfl
    unfold St.val
    go_enter Tryz.func133, Tryz.ntmps133
    go_wp2
    go_ret
    exact ⟨_, by rw [hr.out]; rfl, by rw [hr.out]; exact HN.out, ((Grew.refl _).alloc _).alloc _⟩
  · have hn1 := rat_new (w.alloc (.cells #[.int .i64 4, .string ho, .string hn, .string wh, .string ao, .string an, .string bo, .string bn, .string v] 72)) [⟨ho, hn⟩, ⟨ao, an⟩, ⟨bo, bn⟩] 23
    rw [World.size_alloc] at hn1
    have HN := Lib.hid hn1
    clear hn1
    have hr : Hid (rolesL ⟨4, ⟨ho, hn⟩, wh, ⟨ao, an⟩, ⟨bo, bn⟩, v⟩ = [⟨ho, hn⟩, ⟨ao, an⟩, ⟨bo, bn⟩]) := Lib.hid rfl
    unfold St.val
    go_enter Tryz.func133, Tryz.ntmps133
    go_wp2
    go_ret
    exact ⟨_, by rw [hr.out]; rfl, by rw [hr.out]; exact HN.out, ((Grew.refl _).alloc _).alloc _⟩
  · have hn1 := rat_new (w.alloc (.cells #[.int .i64 k1, .string ho, .string hn, .string wh, .string ao, .string an, .string bo, .string bn, .string v] 72)) [⟨ho, hn⟩] 23
    rw [World.size_alloc] at hn1
    have HN := Lib.hid hn1
    clear hn1
    have e2 : (k1 == 2) = false := by simpa using h2
    have e3 : (k1 == 3) = false := by simpa using h3
    have e4 : (k1 == 4) = false := by simpa using h4
    have hr : Hid (rolesL ⟨k1, ⟨ho, hn⟩, wh, ⟨ao, an⟩, ⟨bo, bn⟩, v⟩ = [⟨ho, hn⟩]) := Lib.hid (by unfold rolesL; rw [if_neg (fun e => e.elim h2 h3), if_neg h4])
    clear h1 h2 h3 h4
    unfold St.val
    go_enter Tryz.func133, Tryz.ntmps133
    go_wp2
    go_ret
    exact ⟨_, by rw [hr.out]; rfl, by rw [hr.out]; exact HN.out, ((Grew.refl _).alloc _).alloc _⟩
end Go.Proofs.YtkmonmpfbchffaaGreat.SynJ
