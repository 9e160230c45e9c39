/- A line's tokens read as those of one kind that they go on as, by contract. -/
import Derived.Test.YtpjacngbkohmdaaM16
import Derived.Test.YtpjacngbkohmdaaM11
import Derived.Test.YtpjacngbkohmdaaM12
import Derived.Test.YtpjacngbkohmdaaM07
import Derived.Lib.Join
namespace Go.Proofs.Ytpjacngbkohmdaa.QryD
set_option linter.unusedVariables false
set_option linter.unusedSimpArgs false
open Go.RowKit Go.Sort Go.Proofs Go.Proofs.Ytpjacngbkohmdaa.Plain Go.Proofs.Ytpjacngbkohmdaa.SynP Go.Proofs.Ytpjacngbkohmdaa.TabP Go.Proofs.Ytpjacngbkohmdaa.Tab1 Go.Proofs.Ytpjacngbkohmdaa.Grown Go.Proofs.Ytpjacngbkohmdaa.SynA Go.Proofs.Ytpjacngbkohmdaa.SynC Go.Proofs.Ytpjacngbkohmdaa.SynR Go.Proofs.Ytpjacngbkohmdaa.SynS Go.Proofs.Ytpjacngbkohmdaa.SynV Go.Proofs.Ytpjacngbkohmdaa.QryP Go.Proofs.Ytpjacngbkohmdaa.Qry4 Go.Proofs.Ytpjacngbkohmdaa.Qry5 Go.Proofs.Ytpjacngbkohmdaa.Qry6 Go.Proofs.Ytpjacngbkohmdaa.Qry7 Go.Proofs.Ytpjacngbkohmdaa.QryA Go.Proofs.Ytpjacngbkohmdaa.QryB
set_option linter.unusedVariables false
set_option linter.unusedSimpArgs false
theorem agreeF_cons {L : List Tk} {f : Ft} {F : List Ft} (h : agreeF L (f :: F) = F.length + 1) : ∃ t M, L = t :: M ∧ f.fits t = true ∧ agreeF M F = F.length := by
  cases L with
  | nil => simp [agreeF] at h
  | cons t M =>
    refine ⟨t, M, rfl, ?_⟩
    have h' : (if f.fits t = true then agreeF M F + 1 else 0) = F.length + 1 := h
    by_cases hf : f.fits t = true
    · rw [if_pos hf] at h'; exact ⟨hf, by omega⟩
    · rw [if_neg hf] at h'; omega
theorem fitsK {t : Tk} {n : Int} (h : Ft.fits t (.kind n) = true) : t.kind = n := by simpa [Ft.fits] using h
theorem shape3 {k : Int} (hk : k = 1 ∨ k = 2 ∨ k = 3) : ∃ s, wordsL k = [s] ∧ shapeF k = [.word (leadS k), .kind 1, .kind 3, .kind 2, .word s] ∧ hasBk k = false ∧ hasWk k = true := by
  rcases hk with rfl | rfl | rfl <;> exact ⟨_, rfl, rfl, rfl, rfl⟩
theorem shape4 : shapeF 4 = [.word (leadS 4), .kind 1, .kind 3, .kind 2, .word [98, 101], .word [101, 109, 112, 116, 121]] ∧ hasBk 4 = false ∧ hasWk 4 = false := ⟨rfl, rfl, rfl⟩
theorem shape8 {k : Int} (hk : k = 5 ∨ k = 6) : ∃ s, wordsL k = [s] ∧ shapeF k = [.word (leadS k), .kind 1, .kind 3, .kind 2, .word s, .kind 1, .kind 3, .kind 2] ∧ hasBk k = true ∧ hasWk k = false := by
  rcases hk with rfl | rfl <;> exact ⟨_, rfl, rfl, rfl, rfl⟩
/-- What is read of principals is rising, in order, and no more than twelve. -/
theorem readW_ok : ∀ (L : List Tk) (T : List Str), T.length ≤ 12 → T.Pairwise (· < ·) → (readW L T).1.length ≤ 12 ∧ (readW L T).1.Pairwise (· < ·) ∧ (readW L T).2.1 ≤ L.length ∧ ∀ s ∈ (readW L T).1, s ∈ T ∨ ∃ t ∈ L, t.kind = 1 ∧ s = strOf t.text
  | [], T, h1, h2 => ⟨h1, h2, Nat.zero_le _, fun s hs => .inl hs⟩
  | t :: L, T, h1, h2 => by
    unfold readW
    by_cases hk : t.kind = 1
    · rw [if_pos hk]
      by_cases hs : strOf t.text ∈ T
      · rw [if_pos hs]
        obtain ⟨a, b, c, d⟩ := readW_ok L T h1 h2
        refine ⟨a, b, by simp; omega, fun s hm => ?_⟩
        rcases d s hm with h | ⟨u, hu, e⟩
        · exact .inl h
        · exact .inr ⟨u, List.mem_cons_of_mem _ hu, e⟩
      · rw [if_neg hs]
        by_cases h12 : T.length = 12
        · rw [if_pos h12]; exact ⟨h1, h2, by simp, fun s hm => .inl hm⟩
        · rw [if_neg h12]
          have hl : (tab (T ++ [strOf t.text])).length ≤ 12 := by
            have := tab_len_le (T ++ [strOf t.text])
            simp at this; omega
          obtain ⟨a, b, c, d⟩ := readW_ok L _ hl (tab_sorted _)
          refine ⟨a, b, by simp; omega, fun s hm => ?_⟩
          rcases d s hm with h | ⟨u, hu, e⟩
          · rw [mem_tab] at h
            rcases List.mem_append.1 h with h | h
            · exact .inl h
            · exact .inr ⟨t, List.mem_cons_self .., hk, by simpa using h⟩
          · exact .inr ⟨u, List.mem_cons_of_mem _ hu, e⟩
    · rw [if_neg hk]; exact ⟨h1, h2, by simp, fun s hm => .inl hm⟩
theorem who_fit {L : List Tk} (hs : SmallTk L) : ∀ s ∈ (readW L []).1, s.length ≤ maxLen := fun s hm => by
  obtain ⟨_, _, _, d⟩ := readW_ok L [] (by simp) List.Pairwise.nil
  rcases d s hm with h | ⟨t, ht, _, rfl⟩
  · simp at h
  · have := (hs t ht).2
    have e : (strOf t.text).length = t.text.size := toList_len _
    rw [e]; unfold maxLen; omega
theorem srow_set6 {X : World} {A : Option Addr} {T : List Str} (h : SRow X A T) {b : Nat} (hb : ∀ g o, A = some ⟨g, o, none⟩ → b ≠ g) (v0 v1 v2 v3 v4 v5 : Value) : SRow ((((((X.setCell ⟨b, 0, none⟩ v0).setCell ⟨b, 1, none⟩ v1).setCell ⟨b, 2, none⟩ v2).setCell ⟨b, 3, none⟩ v3).setCell ⟨b, 4, none⟩ v4).setCell ⟨b, 5, none⟩ v5) A T :=
  srow_set (srow_set (srow_set (srow_set (srow_set (srow_set h hb _ _) hb _ _) hb _ _) hb _ _) hb _ _) hb _ _
theorem below_set6 {w X : World} {B b : Nat} (h : RowKit.Below B w X) (hb : B ≤ b) (v0 v1 v2 v3 v4 v5 : Value) : RowKit.Below B w ((((((X.setCell ⟨b, 0, none⟩ v0).setCell ⟨b, 1, none⟩ v1).setCell ⟨b, 2, none⟩ v2).setCell ⟨b, 3, none⟩ v3).setCell ⟨b, 4, none⟩ v4).setCell ⟨b, 5, none⟩ v5) :=
  (((((h.setCell hb _).setCell hb _).setCell hb _).setCell hb _).setCell hb _).setCell hb _
theorem read3_eq {k : Int} (hk : k = 1 ∨ k = 2 ∨ k = 3) {t0 t1 t2 t3 t4 : Tk} {M : List Tk} (h : agreeF (t0 :: t1 :: t2 :: t3 :: t4 :: M) (shapeF k) = 5) : readQ k (t0 :: t1 :: t2 :: t3 :: t4 :: M) = (⟨k, ⟨t1.text, t3.text⟩, zeroR, (readW M []).1⟩, 5 + (readW M []).2.1, if (readW M []).2.2 = true then 5 else if 5 + (readW M []).2.1 < M.length + 5 then 2 else if Qy.right ⟨k, ⟨t1.text, t3.text⟩, zeroR, (readW M []).1⟩ = true then 0 else 3) := by
  obtain ⟨s, hw, hsh, hB, hW⟩ := shape3 hk
  have hm : (shapeF k).length = 5 := by rw [hsh]; rfl
  have hdr : (t0 :: t1 :: t2 :: t3 :: t4 :: M).drop 5 = M := rfl
  unfold readQ
  simp only []
  rw [h, hm, if_pos rfl, hW, hB]
  rfl
theorem read4_eq {t0 t1 t2 t3 t4 t5 : Tk} {M : List Tk} (h : agreeF (t0 :: t1 :: t2 :: t3 :: t4 :: t5 :: M) (shapeF 4) = 6) : readQ 4 (t0 :: t1 :: t2 :: t3 :: t4 :: t5 :: M) = ((⟨4, ⟨t1.text, t3.text⟩, zeroR, []⟩ : Qy), 6, if 6 < M.length + 6 then 2 else if Qy.right (⟨4, ⟨t1.text, t3.text⟩, zeroR, []⟩ : Qy) = true then 0 else 3) := by
  obtain ⟨hsh, hB, hW⟩ := shape4
  have hm : (shapeF 4).length = 6 := by rw [hsh]; rfl
  unfold readQ
  simp only []
  rw [h, hm, if_pos rfl, hW, hB]
  rfl
theorem read8_eq {k : Int} (hk : k = 5 ∨ k = 6) {t0 t1 t2 t3 t4 t5 t6 t7 : Tk} {M : List Tk} (h : agreeF (t0 :: t1 :: t2 :: t3 :: t4 :: t5 :: t6 :: t7 :: M) (shapeF k) = 8) : readQ k (t0 :: t1 :: t2 :: t3 :: t4 :: t5 :: t6 :: t7 :: M) = ((⟨k, ⟨t1.text, t3.text⟩, ⟨t5.text, t7.text⟩, []⟩ : Qy), 8, if 8 < M.length + 8 then 2 else if Qy.right (⟨k, ⟨t1.text, t3.text⟩, ⟨t5.text, t7.text⟩, []⟩ : Qy) = true then 0 else 3) := by
  obtain ⟨s, hw, hsh, hB, hW⟩ := shape8 hk
  have hm : (shapeF k).length = 8 := by rw [hsh]; rfl
  unfold readQ
  simp only []
  rw [h, hm, if_pos rfl, hW, hB]
  rfl
end Go.Proofs.Ytpjacngbkohmdaa.QryD
/- A line as a query, in the program, by contract. -/
namespace Go.Proofs.Ytpjacngbkohmdaa.QryE
set_option linter.unusedVariables false
set_option linter.unusedSimpArgs false
open Go.RowKit Go.Sort Go.Proofs Go.Proofs.Ytpjacngbkohmdaa.Plain Go.Proofs.Ytpjacngbkohmdaa.SynP Go.Proofs.Ytpjacngbkohmdaa.SynQ Go.Proofs.Ytpjacngbkohmdaa.TabP Go.Proofs.Ytpjacngbkohmdaa.Tab1 Go.Proofs.Ytpjacngbkohmdaa.Grown Go.Proofs.Ytpjacngbkohmdaa.Scan3 Go.Proofs.Ytpjacngbkohmdaa.SynA Go.Proofs.Ytpjacngbkohmdaa.SynC Go.Proofs.Ytpjacngbkohmdaa.SynR Go.Proofs.Ytpjacngbkohmdaa.SynS Go.Proofs.Ytpjacngbkohmdaa.SynU Go.Proofs.Ytpjacngbkohmdaa.SynV Go.Proofs.Ytpjacngbkohmdaa.SynX Go.Proofs.Ytpjacngbkohmdaa.QryP Go.Proofs.Ytpjacngbkohmdaa.Qry4 Go.Proofs.Ytpjacngbkohmdaa.Qry5 Go.Proofs.Ytpjacngbkohmdaa.Qry6 Go.Proofs.Ytpjacngbkohmdaa.Qry7 Go.Proofs.Ytpjacngbkohmdaa.QryA Go.Proofs.Ytpjacngbkohmdaa.QryB Go.Proofs.Ytpjacngbkohmdaa.QryC Go.Proofs.Ytpjacngbkohmdaa.QryD
set_option linter.unusedVariables false
set_option linter.unusedSimpArgs false
theorem kinds3 {k : Int} (h1 : 1 ≤ k) (h6 : k ≤ 6) : (k = 1 ∨ k = 2 ∨ k = 3) ∨ k = 4 ∨ (k = 5 ∨ k = 6) := by omega
theorem readQ_le (k : Int) (L : List Tk) : (readQ k L).2.1 ≤ L.length := by
  have h1 := agreeF_le L (shapeF k)
  by_cases h : agreeF L (shapeF k) = (shapeF k).length
  · unfold readQ
    simp only []
    rw [if_pos h]
    have h2 := (readW_ok (L.drop (agreeF L (shapeF k))) [] (by simp) List.Pairwise.nil).2.2.1
    rw [List.length_drop] at h2
    show agreeF L (shapeF k) + _ ≤ _
    split
    · omega
    · simp; omega
  · rw [read_no_eq h]; exact h1.1
/-- What a line is asked as. -/
def askA : TkAns → Qy × Int × Int
  | .bad c e => (zeroQ, c, e)
  | .ok L => parseQ L
def AskPost (p : Qy × Int × Int) (w : World) (e : Ending) (w' : World) : Prop := ∃ A c, e = .returned (.tuple #[p.1.val A c, .int .i64 p.2.1, .int .i64 p.2.2]) ∧ SRow w' A p.1.who ∧ (∀ g o, A = some ⟨g, o, none⟩ → w.heap.size ≤ g) ∧ RowKit.Below w.heap.size w w'
end Go.Proofs.Ytpjacngbkohmdaa.QryE
/- Plain mathematics: the lines of queries. -/
namespace Go.Proofs.Ytpjacngbkohmdaa.QryL
set_option linter.unusedVariables false
set_option linter.unusedSimpArgs false
open Go.RowKit Go.Sort Go.Proofs.Ytpjacngbkohmdaa.Plain Go.Proofs.Ytpjacngbkohmdaa.SynP Go.Proofs.Ytpjacngbkohmdaa.TabP Go.Proofs.Ytpjacngbkohmdaa.SynW Go.Proofs.Ytpjacngbkohmdaa.QryP
def bs (x : ByteArray) : Str := x.data.toList
/-- Texts, each with a blank ahead. -/
def tailW (T : List Str) : Str := (T.map fun s => 32 :: s).flatten
/-- A query's line, if it may be. -/
def lineL (q : Qy) : Str := bs (leadT q.kind) ++ tailW [bs (textR q.a)] ++ (32 :: bs (wordsT q.kind)) ++ (if hasBk q.kind = true then tailW [bs (textR q.b)] else []) ++ tailW q.who
def lineQ (q : Qy) : ByteArray := if q.right = true then ⟨(lineL q).toArray⟩ else noText
theorem tailW_nil : tailW [] = [] := rfl
theorem tailW_app (S T : List Str) : tailW (S ++ T) = tailW S ++ tailW T := by unfold tailW; rw [List.map_append, List.flatten_append]
theorem tailW_cons (s : Str) (T : List Str) : tailW (s :: T) = 32 :: s ++ tailW T := rfl
theorem join_tail (x : Str) : ∀ T : List Str, Lib.join (x :: T) [32] = x ++ tailW T
  | [] => by rw [Lib.join_one, tailW_nil, List.append_nil]
  | y :: T => by
    have ih := join_tail y T
    have e : Lib.join (x :: y :: T) [32] = x ++ ([32] ++ Lib.join (y :: T) [32]) := by
      unfold Lib.join; rw [List.intercalate_cons_cons]; simp
    rw [e, ih, tailW_cons]; simp
/-- The words of a kind that is one, each with a blank ahead. -/
theorem words_tail {k : Int} (h : k = 1 ∨ k = 2 ∨ k = 3 ∨ k = 4 ∨ k = 5 ∨ k = 6) : tailW (wordsL k) = 32 :: bs (wordsT k) := by
  rcases h with rfl | rfl | rfl | rfl | rfl | rfl <;> rfl
theorem right_kind {q : Qy} (h : q.right = true) : q.kind = 1 ∨ q.kind = 2 ∨ q.kind = 3 ∨ q.kind = 4 ∨ q.kind = 5 ∨ q.kind = 6 := by
  rcases kinds6 q.kind with h1 | h1 | h1 | h1 | h1 | h1 | h1
  · exact .inl h1
  · exact .inr (.inl h1)
  · exact .inr (.inr (.inl h1))
  · exact .inr (.inr (.inr (.inl h1)))
  · exact .inr (.inr (.inr (.inr (.inl h1))))
  · exact .inr (.inr (.inr (.inr (.inr h1))))
  · unfold Qy.right at h
    rw [if_neg (by omega), if_neg (by omega), if_neg (by omega), if_neg (by omega)] at h
    simp at h
/-- What a query that may be is made of. -/
theorem right_parts {q : Qy} (h : q.right = true) : q.a.ok = true ∧ ((hasWk q.kind = true ∧ hasBk q.kind = false ∧ whoOk q.who = true ∧ q.b = zeroR ∧ (q.kind ≠ 3 → 0 < q.who.length)) ∨ (q.kind = 4 ∧ q.who = [] ∧ q.b = zeroR) ∨ (hasBk q.kind = true ∧ hasWk q.kind = false ∧ q.who = [] ∧ q.b.ok = true)) := by
  obtain ⟨k, a, b, T⟩ := q
  have hk := right_kind h
  unfold Qy.right at h
  rw [Bool.and_eq_true] at h
  refine ⟨h.1, ?_⟩
  have h2 := h.2
  simp only at hk h2 ⊢
  rcases hk with rfl | rfl | rfl | rfl | rfl | rfl
  · simp at h2
    exact .inl ⟨rfl, rfl, h2.1.2, h2.2, fun _ => h2.1.1⟩
  · simp at h2
    exact .inl ⟨rfl, rfl, h2.1.2, h2.2, fun _ => h2.1.1⟩
  · simp at h2
    exact .inl ⟨rfl, rfl, h2.1, h2.2, fun h => absurd rfl h⟩
  · simp at h2
    exact .inr (.inl ⟨rfl, h2.1, h2.2⟩)
  · simp at h2
    exact .inr (.inr ⟨rfl, rfl, h2.1, h2.2⟩)
  · simp at h2
    exact .inr (.inr ⟨rfl, rfl, h2.1, h2.2⟩)
theorem who_parts {T : List Str} (h : whoOk T = true) : T.length ≤ 12 ∧ (∀ s ∈ T, prinS s = true) ∧ T.Pairwise (· < ·) := by
  unfold whoOk at h
  simp only [Bool.and_eq_true, decide_eq_true_eq, List.all_eq_true] at h
  exact ⟨h.1.1, h.1.2, tab_id.1 h.2⟩
theorem prin_len {s : Str} (h : prinS s = true) : s.length ≤ 8 := by
  obtain ⟨c, l, e, _, _, _, h8, _⟩ := named_cons (w := ⟨s.toArray⟩) (f := capB) (by simpa [prinS] using h)
  have : (⟨s.toArray⟩ : ByteArray).size = s.length := by simp [ByteArray.size]
  omega
theorem tailW_len {T : List Str} {m : Nat} (h : ∀ s ∈ T, s.length ≤ m) : (tailW T).length ≤ T.length * (m + 1) := by
  induction T with
  | nil => simp [tailW]
  | cons s T ih =>
    rw [tailW_cons]
    have h1 := h s (List.mem_cons_self ..)
    have h2 := ih fun s hs => h s (List.mem_cons_of_mem _ hs)
    simp only [List.length_append, List.length_cons]
    rw [Nat.add_mul]; omega
end Go.Proofs.Ytpjacngbkohmdaa.QryL
