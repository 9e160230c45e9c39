/- The line of a query, in the document's answers, by contract. -/
import Derived.Test.YtpjacngbkohmdaaM18
import Derived.Test.YtpjacngbkohmdaaM19
import Derived.Test.YtpjacngbkohmdaaM16
import Derived.Test.YtpjacngbkohmdaaM17
import Derived.Test.YtpjacngbkohmdaaM11
import Derived.Test.YtpjacngbkohmdaaM12
import Derived.Test.YtpjacngbkohmdaaM10
import Derived.Deep.LoopGhost
import Derived.Test.YtpjacngbkohmdaaM03
namespace Go.Proofs.Ytpjacngbkohmdaa.QryJ
set_option linter.unusedVariables false
set_option linter.unusedSimpArgs false
open Go.RowKit Go.Sort Go.Proofs Go.Proofs.Ytpjacngbkohmdaa.Plain Go.Proofs.Ytpjacngbkohmdaa.SynP Go.Proofs.Ytpjacngbkohmdaa.TabP Go.Proofs.Ytpjacngbkohmdaa.Tab1 Go.Proofs.Ytpjacngbkohmdaa.Grown Go.Proofs.Ytpjacngbkohmdaa.SynC Go.Proofs.Ytpjacngbkohmdaa.SynW Go.Proofs.Ytpjacngbkohmdaa.QryP Go.Proofs.Ytpjacngbkohmdaa.Qry2 Go.Proofs.Ytpjacngbkohmdaa.Qry4 Go.Proofs.Ytpjacngbkohmdaa.Qry5 Go.Proofs.Ytpjacngbkohmdaa.QryG Go.Proofs.Ytpjacngbkohmdaa.Qry6 Go.Proofs.Ytpjacngbkohmdaa.Qry7 Go.Proofs.Ytpjacngbkohmdaa.QryA Go.Proofs.Ytpjacngbkohmdaa.QryL Go.Proofs.Ytpjacngbkohmdaa.QryH Go.Proofs.Ytpjacngbkohmdaa.QryI
set_option linter.unusedVariables false
set_option linter.unusedSimpArgs false
theorem size_str (s : Str) : (⟨s.toArray⟩ : ByteArray).size = s.length := rfl
theorem bs_app (a b : ByteArray) : bs (a ++ b) = bs a ++ bs b := by
  unfold bs; rw [ByteArray.data_append, Array.toList_append]
theorem bs_str (s : Str) : bs ⟨s.toArray⟩ = s := rfl
theorem wordsT_len (k : Int) : (wordsT k).size ≤ 8 := by unfold wordsT; (repeat' split) <;> decide
theorem ge5 {q : Qy} (h : q.right = true) : decide (5 ≤ q.kind) = hasBk q.kind := by
  rcases right_kind h with e | e | e | e | e | e <;> rw [e] <;> rfl
/-- The text of a line behind k principals. -/
def lineTo (q : Qy) (k : Nat) : Str := bs (leadT q.kind) ++ tailW [bs (textR q.a)] ++ (32 :: bs (wordsT q.kind)) ++ (if hasBk q.kind = true then tailW [bs (textR q.b)] else []) ++ tailW (q.who.take k)
theorem lineTo_succ {q : Qy} {k : Nat} (h : k < q.who.length) : lineTo q (k + 1) = lineTo q k ++ (32 :: q.who[k]) := by
  unfold lineTo
  rw [List.take_succ_eq_append_getElem h, tailW_app, ← List.append_assoc]
  congr 1
  rw [tailW_cons, tailW_nil, List.append_nil]
theorem lineTo_all {q : Qy} (h : q.right = true) : (⟨(lineTo q q.who.length).toArray⟩ : ByteArray) = lineQ q := by
  unfold lineQ lineTo lineL
  rw [if_pos h, List.take_length]
theorem who_small {q : Qy} (h : q.right = true) : ∀ s ∈ q.who, s.length ≤ 8 := by
  intro s hs
  rcases (right_parts h).2 with ⟨_, _, hw, _, _⟩ | ⟨_, hw, _⟩ | ⟨_, _, hw, _⟩
  · exact prin_len ((who_parts hw).2.1 s hs)
  · rw [hw] at hs; simp at hs
  · rw [hw] at hs; simp at hs
end Go.Proofs.Ytpjacngbkohmdaa.QryJ
/- Plain mathematics: the one kind that a line's tokens go on as; the document's way is the program's. -/
namespace Go.Proofs.Ytpjacngbkohmdaa.QryM
set_option linter.unusedVariables false
set_option linter.unusedSimpArgs false
open Go.RowKit Go.Sort Go.Proofs.Ytpjacngbkohmdaa.Plain Go.Proofs.Ytpjacngbkohmdaa.SynP Go.Proofs.Ytpjacngbkohmdaa.TabP Go.Proofs.Ytpjacngbkohmdaa.SynR Go.Proofs.Ytpjacngbkohmdaa.SynV Go.Proofs.Ytpjacngbkohmdaa.SynZ Go.Proofs.Ytpjacngbkohmdaa.QryP Go.Proofs.Ytpjacngbkohmdaa.Qry4 Go.Proofs.Ytpjacngbkohmdaa.Qry5 Go.Proofs.Ytpjacngbkohmdaa.Qry7 Go.Proofs.Ytpjacngbkohmdaa.QryA Go.Proofs.Ytpjacngbkohmdaa.QryB Go.Proofs.Ytpjacngbkohmdaa.QryC Go.Proofs.Ytpjacngbkohmdaa.QryD
/-- Do the tokens go on as a kind's line, to what is behind it? -/
def fullQ (L : List Tk) (k : Int) : Prop := agreeF L (shapeF k) = (shapeF k).length
def errOf (L : List Tk) (f : Nat) : Int := if f < L.length then 2 else 3
theorem errOf_ne (L : List Tk) (f : Nat) : errOf L f ≠ 0 := by unfold errOf; split <;> decide
theorem readQ_no {L : List Tk} {k : Int} (h : ¬ fullQ L k) : readQ k L = (⟨k, zeroR, zeroR, []⟩, agreeF L (shapeF k), errOf L (agreeF L (shapeF k))) := read_no_eq h
/-- How far was read of the kinds behind the k-th. -/
def bestQ (L : List Tk) : Nat → Nat → Nat → Nat
  | 0, _, f => f
  | m + 1, k, f => bestQ L m (k + 1) (max f (agreeF L (shapeF ((k + 1 : Nat) : Int))))
theorem goQ_none (L : List Tk) : ∀ (m k f : Nat) (y : Int), (∀ j : Nat, k < j → j ≤ k + m → ¬ fullQ L (j : Int)) → y = errOf L f → goQ L m k f y = (zeroQ, (placeOf L (bestQ L m k f) : Int), errOf L (bestQ L m k f))
  | 0, k, f, y, h, e => by rw [e]; rfl
  | m + 1, k, f, y, h, e => by
    have hn := readQ_no (h (k + 1) (by omega) (by omega))
    by_cases hf : f ≤ agreeF L (shapeF ((k + 1 : Nat) : Int))
    · rw [goQ_far (by rw [hn]; exact errOf_ne _ _) (by rw [hn]; exact hf), hn]
      have em : max f (agreeF L (shapeF ((k + 1 : Nat) : Int))) = agreeF L (shapeF ((k + 1 : Nat) : Int)) := by omega
      unfold bestQ
      rw [em]
      exact goQ_none L m (k + 1) _ _ (fun j h1 h2 => h j (by omega) (by omega)) rfl
    · rw [goQ_near (by rw [hn]; exact errOf_ne _ _) (by rw [hn]; exact hf)]
      have em : max f (agreeF L (shapeF ((k + 1 : Nat) : Int))) = f := by omega
      unfold bestQ
      rw [em]
      exact goQ_none L m (k + 1) f y (fun j h1 h2 => h j (by omega) (by omega)) e
theorem goQ_after (L : List Tk) : ∀ (m k f : Nat) (y : Int), (∀ j : Nat, k < j → j ≤ k + m → ¬ fullQ L (j : Int) ∧ agreeF L (shapeF (j : Int)) < f) → goQ L m k f y = (zeroQ, (placeOf L f : Int), y)
  | 0, k, f, y, h => rfl
  | m + 1, k, f, y, h => by
    obtain ⟨h1, h2⟩ := h (k + 1) (by omega) (by omega)
    have hn := readQ_no h1
    rw [goQ_near (by rw [hn]; exact errOf_ne _ _) (by rw [hn]; show ¬ f ≤ agreeF L (shapeF ((k + 1 : Nat) : Int)); omega)]
    exact goQ_after L m (k + 1) f y (fun j h1 h2 => h j (by omega) (by omega))
theorem goQ_before (L : List Tk) : ∀ (d m k f : Nat) (y : Int), f ≤ 4 → (∀ j : Nat, k < j → j ≤ k + d → ¬ fullQ L (j : Int) ∧ agreeF L (shapeF (j : Int)) ≤ 4) → ∃ f' y', f' ≤ 4 ∧ goQ L (d + m) k f y = goQ L m (k + d) f' y'
  | 0, m, k, f, y, hf, h => ⟨f, y, hf, by rw [Nat.zero_add]; rfl⟩
  | d + 1, m, k, f, y, hf, h => by
    obtain ⟨h1, h2⟩ := h (k + 1) (by omega) (by omega)
    have hn := readQ_no h1
    rw [show d + 1 + m = (d + m) + 1 by omega, show k + (d + 1) = k + 1 + d by omega]
    by_cases hg : f ≤ agreeF L (shapeF ((k + 1 : Nat) : Int))
    · rw [goQ_far (by rw [hn]; exact errOf_ne _ _) (by rw [hn]; exact hg), hn]
      exact goQ_before L d m (k + 1) _ _ h2 (fun j h1 h2 => h j (by omega) (by omega))
    · rw [goQ_near (by rw [hn]; exact errOf_ne _ _) (by rw [hn]; exact hg)]
      exact goQ_before L d m (k + 1) _ _ hf (fun j h1 h2 => h j (by omega) (by omega))
/-- The answer of a kind that the tokens go on as. -/
def lastQ (L : List Tk) (r : Qy × Nat × Int) : Qy × Int × Int := if r.2.2 = 0 then (r.1, 0, 0) else (zeroQ, (placeOf L r.2.1 : Int), r.2.2)
theorem parseQ_full {L : List Tk} {K : Nat} (h1 : 1 ≤ K) (h6 : K ≤ 6) (hother : ∀ j : Nat, 1 ≤ j → j ≤ 6 → j ≠ K → ¬ fullQ L (j : Int) ∧ agreeF L (shapeF (j : Int)) ≤ 4) (hfar : 5 ≤ (readQ (K : Int) L).2.1) : parseQ L = lastQ L (readQ (K : Int) L) := by
  obtain ⟨k, rfl⟩ : ∃ k, K = k + 1 := ⟨K - 1, by omega⟩
  obtain ⟨f', y', hf', e⟩ := goQ_before L k (5 - k + 1) 0 0 0 (by omega) (fun j h1 h2 => hother j (by omega) (by omega) (by omega))
  unfold parseQ
  rw [show (6 : Nat) = k + (5 - k + 1) by omega, e, Nat.zero_add]
  unfold lastQ
  by_cases h0 : (readQ ((k + 1 : Nat) : Int) L).2.2 = 0
  · rw [goQ_hit h0, if_pos h0]
  · rw [if_neg h0, goQ_far h0 (by omega)]
    exact goQ_after L (5 - k) (k + 1) _ _ (fun j h1 h2 => by
      obtain ⟨a, b⟩ := hother j (by omega) (by omega) (by omega)
      exact ⟨a, by omega⟩)
theorem parseQ_none {L : List Tk} (h : ∀ j : Nat, 1 ≤ j → j ≤ 6 → ¬ fullQ L (j : Int)) : parseQ L = (zeroQ, (placeOf L (bestQ L 6 0 0) : Int), errOf L (bestQ L 6 0 0)) := by
  have hn := readQ_no (h 1 (by omega) (by omega))
  have e : bestQ L 6 0 0 = bestQ L 5 1 (agreeF L (shapeF ((1 : Nat) : Int))) := by
    show bestQ L 5 1 (max 0 _) = _
    rw [Nat.zero_max]
  unfold parseQ
  rw [goQ_far (m := 5) (k := 0) (by show (readQ ((1 : Nat) : Int) L).2.2 ≠ 0; rw [hn]; exact errOf_ne _ _) (Nat.zero_le _), e]
  show goQ L 5 1 (readQ ((1 : Nat) : Int) L).2.1 (readQ ((1 : Nat) : Int) L).2.2 = _
  rw [hn]
  exact goQ_none L 5 1 _ _ (fun j h1 h2 => h j (by omega) (by omega)) rfl
theorem fitsW {t : Tk} {s : Str} (h : Ft.fits t (.word s) = true) : t.kind = 2 ∧ t.text = ⟨s.toArray⟩ := by simpa [Ft.fits] using h
/-- The first five tokens of a kind's line. -/
theorem first5 {L : List Tk} {k : Nat} (h1 : 1 ≤ k) (h6 : k ≤ 6) (h : fullQ L (k : Int)) : ∃ t0 t1 t2 t3 t4 M s, L = t0 :: t1 :: t2 :: t3 :: t4 :: M ∧ t0.kind = 2 ∧ t0.text = ⟨(leadS (k : Int)).toArray⟩ ∧ t1.kind = 1 ∧ t2.kind = 3 ∧ t3.kind = 2 ∧ t4.kind = 2 ∧ t4.text = ⟨s.toArray⟩ ∧ (wordsL (k : Int)).head? = some s := by
  unfold fullQ at h
  have hsh : ∃ s R, (wordsL (k : Int)).head? = some s ∧ shapeF (k : Int) = .word (leadS (k : Int)) :: .kind 1 :: .kind 3 :: .kind 2 :: .word s :: R := by
    match k, h1, h6 with
    | 1, _, _ => exact ⟨_, _, rfl, rfl⟩
    | 2, _, _ => exact ⟨_, _, rfl, rfl⟩
    | 3, _, _ => exact ⟨_, _, rfl, rfl⟩
    | 4, _, _ => exact ⟨_, _, rfl, rfl⟩
    | 5, _, _ => exact ⟨_, _, rfl, rfl⟩
    | 6, _, _ => exact ⟨_, _, rfl, rfl⟩
  obtain ⟨s, R, hs, e⟩ := hsh
  rw [e] at h
  obtain ⟨t0, L1, rfl, a0, h⟩ := agreeF_cons h
  obtain ⟨t1, L2, rfl, a1, h⟩ := agreeF_cons h
  obtain ⟨t2, L3, rfl, a2, h⟩ := agreeF_cons h
  obtain ⟨t3, L4, rfl, a3, h⟩ := agreeF_cons h
  obtain ⟨t4, L5, rfl, a4, h⟩ := agreeF_cons h
  exact ⟨t0, t1, t2, t3, t4, L5, s, rfl, (fitsW a0).1, (fitsW a0).2, fitsK a1, fitsK a2, fitsK a3, (fitsW a4).1, (fitsW a4).2, hs⟩
theorem other5 {t0 t1 t2 t3 t4 : Tk} {M : List Tk} {j : Nat} (h1 : 1 ≤ j) (h6 : j ≤ 6) (h : t0.text ≠ ⟨(leadS (j : Int)).toArray⟩ ∨ ∀ s, (wordsL (j : Int)).head? = some s → t4.text ≠ ⟨s.toArray⟩) : ¬ fullQ (t0 :: t1 :: t2 :: t3 :: t4 :: M) (j : Int) ∧ agreeF (t0 :: t1 :: t2 :: t3 :: t4 :: M) (shapeF (j : Int)) ≤ 4 := by
  have hsh : ∃ s R, (wordsL (j : Int)).head? = some s ∧ shapeF (j : Int) = .word (leadS (j : Int)) :: .kind 1 :: .kind 3 :: .kind 2 :: .word s :: R := by
    match j, h1, h6 with
    | 1, _, _ => exact ⟨_, _, rfl, rfl⟩
    | 2, _, _ => exact ⟨_, _, rfl, rfl⟩
    | 3, _, _ => exact ⟨_, _, rfl, rfl⟩
    | 4, _, _ => exact ⟨_, _, rfl, rfl⟩
    | 5, _, _ => exact ⟨_, _, rfl, rfl⟩
    | 6, _, _ => exact ⟨_, _, rfl, rfl⟩
  obtain ⟨s, R, hs, e⟩ := hsh
  have hle : agreeF (t0 :: t1 :: t2 :: t3 :: t4 :: M) (shapeF (j : Int)) ≤ 4 := by
    rw [e]
    rcases h with h | h
    · have : Ft.fits t0 (.word (leadS (j : Int))) = false := by simp [Ft.fits, h]
      show (if _ then _ else _) ≤ _
      rw [if_neg (by rw [this]; decide)]; omega
    · have : Ft.fits t4 (.word s) = false := by simp [Ft.fits, h s hs]
      have h4 : agreeF (t4 :: M) (.word s :: R) = 0 := by
        show (if _ then _ else _) = _
        rw [if_neg (by rw [this]; decide)]
      have st : ∀ (t : Tk) (L : List Tk) (f : Ft) (F : List Ft), agreeF (t :: L) (f :: F) ≤ agreeF L F + 1 := fun t L f F => by
        show (if f.fits t = true then agreeF L F + 1 else 0) ≤ agreeF L F + 1
        split
        · exact Nat.le_refl _
        · exact Nat.zero_le _
      have a := st t0 (t1 :: t2 :: t3 :: t4 :: M) (.word (leadS (j : Int))) (.kind 1 :: .kind 3 :: .kind 2 :: .word s :: R)
      have b := st t1 (t2 :: t3 :: t4 :: M) (.kind 1) (.kind 3 :: .kind 2 :: .word s :: R)
      have c := st t2 (t3 :: t4 :: M) (.kind 3) (.kind 2 :: .word s :: R)
      have d := st t3 (t4 :: M) (.kind 2) (.word s :: R)
      omega
  refine ⟨fun hf => ?_, hle⟩
  unfold fullQ at hf
  rw [hf, e] at hle
  simp at hle
/-- Tokens that go on as one kind go on as no other one. -/
theorem others {L : List Tk} {K : Nat} (h1 : 1 ≤ K) (h6 : K ≤ 6) (h : fullQ L (K : Int)) : ∀ j : Nat, 1 ≤ j → j ≤ 6 → j ≠ K → ¬ fullQ L (j : Int) ∧ agreeF L (shapeF (j : Int)) ≤ 4 := by
  obtain ⟨t0, t1, t2, t3, t4, M, s, rfl, _, e0, _, _, _, _, e4, hs⟩ := first5 h1 h6 h
  intro j j1 j6 hne
  refine other5 j1 j6 ?_
  rw [e0]
  by_cases hl : leadS (K : Int) = leadS (j : Int)
  · right
    intro u hu
    rw [e4]
    intro hx
    have hsu : s = u := by
      have := congrArg (fun z : ByteArray => z.data.toList) hx
      simpa using this
    subst hsu
    have key : ∀ a b : Nat, 1 ≤ a → a ≤ 6 → 1 ≤ b → b ≤ 6 → (wordsL (a : Int)).head? = (wordsL (b : Int)).head? → a = b := by
      have : ∀ a : Fin 7, ∀ b : Fin 7, 1 ≤ a.1 → 1 ≤ b.1 → (wordsL (a.1 : Int)).head? = (wordsL (b.1 : Int)).head? → a.1 = b.1 := by decide +kernel
      intro a b a1 a6 b1 b6 e
      exact this ⟨a, by omega⟩ ⟨b, by omega⟩ a1 b1 e
    exact hne (key j K j1 j6 h1 h6 (by rw [hu, hs]))
  · left
    intro hx
    apply hl
    have := congrArg (fun z : ByteArray => z.data.toList) hx
    simpa using this
theorem readQ_far {L : List Tk} {K : Nat} (h1 : 1 ≤ K) (h6 : K ≤ 6) (h : fullQ L (K : Int)) : 5 ≤ (readQ (K : Int) L).2.1 := by
  have hl : 5 ≤ (shapeF (K : Int)).length := by
    match K, h1, h6 with
    | 1, _, _ => decide
    | 2, _, _ => decide
    | 3, _, _ => decide
    | 4, _, _ => decide
    | 5, _, _ => decide
    | 6, _, _ => decide
  unfold fullQ at h
  unfold readQ
  simp only []
  rw [if_pos h, h]
  show 5 ≤ (shapeF (K : Int)).length + _
  omega
theorem parseQ_at {L : List Tk} {K : Nat} (h1 : 1 ≤ K) (h6 : K ≤ 6) (h : fullQ L (K : Int)) : parseQ L = lastQ L (readQ (K : Int) L) := parseQ_full h1 h6 (others h1 h6 h) (readQ_far h1 h6 h)
/-- The document's way: the kinds behind the k-th, with how far was read. -/
def docQ (L : List Tk) : Nat → Nat → Nat → Qy × Int × Int
  | 0, _, f => if f = L.length then (zeroQ, (SynQ.behindOf L : Int), 3) else (zeroQ, (SynQ.colAt L f : Int), 2)
  | m + 1, k, f => if agreeF L (shapeF ((k + 1 : Nat) : Int)) < (shapeF ((k + 1 : Nat) : Int)).length then docQ L m (k + 1) (max f (agreeF L (shapeF ((k + 1 : Nat) : Int)))) else lastQ L (readQ ((k + 1 : Nat) : Int) L)
theorem bestQ_le (L : List Tk) : ∀ (m k f : Nat), f ≤ L.length → bestQ L m k f ≤ L.length
  | 0, _, f, h => h
  | m + 1, k, f, h => bestQ_le L m (k + 1) _ (by have := (agreeF_le L (shapeF ((k + 1 : Nat) : Int))).1; omega)
theorem docQ_none (L : List Tk) : ∀ (m k f : Nat), f ≤ L.length → (∀ j : Nat, k < j → j ≤ k + m → ¬ fullQ L (j : Int)) → docQ L m k f = (zeroQ, (placeOf L (bestQ L m k f) : Int), errOf L (bestQ L m k f))
  | 0, k, f, hf, h => by
    show (if _ then _ else _) = _
    unfold bestQ placeOf errOf
    by_cases e : f = L.length
    · rw [if_pos e, if_neg (by omega), if_neg (by omega)]
    · rw [if_neg e, if_pos (by omega), if_pos (by omega)]
  | m + 1, k, f, hf, h => by
    have hn := h (k + 1) (by omega) (by omega)
    have hle := agreeF_le L (shapeF ((k + 1 : Nat) : Int))
    unfold fullQ at hn
    show (if _ then _ else _) = _
    rw [if_pos (by omega)]
    unfold bestQ
    exact docQ_none L m (k + 1) _ (by omega) (fun j h1 h2 => h j (by omega) (by omega))
theorem docQ_full {L : List Tk} {K : Nat} (h : fullQ L (K : Int)) : ∀ (d m k f : Nat), k + d + 1 = K → (∀ j : Nat, k < j → j < K → ¬ fullQ L (j : Int)) → docQ L (d + m + 1) k f = lastQ L (readQ (K : Int) L)
  | 0, m, k, f, e, hn => by
    subst e
    have h' : ¬ (agreeF L (shapeF ((k + 1 : Nat) : Int)) < (shapeF ((k + 1 : Nat) : Int)).length) := by
      have : agreeF L (shapeF ((k + 1 : Nat) : Int)) = (shapeF ((k + 1 : Nat) : Int)).length := h
      omega
    rw [Nat.zero_add]
    show (if _ then _ else _) = _
    rw [if_neg h']
  | d + 1, m, k, f, e, hn => by
    have h1 := hn (k + 1) (by omega) (by omega)
    have hle := agreeF_le L (shapeF ((k + 1 : Nat) : Int))
    unfold fullQ at h1
    rw [show d + 1 + m + 1 = (d + m + 1) + 1 by omega]
    show (if _ then _ else _) = _
    rw [if_pos (by omega)]
    exact docQ_full h d m (k + 1) _ (by omega) (fun j a b => hn j (by omega) b)
/-- The document's way comes to what the program's way comes to. -/
theorem docQ_parseQ (L : List Tk) : docQ L 6 0 0 = parseQ L := by
  by_cases h : ∃ K : Nat, 1 ≤ K ∧ K ≤ 6 ∧ fullQ L (K : Int)
  · obtain ⟨K, h1, h6, hf⟩ := h
    rw [parseQ_at h1 h6 hf]
    have := docQ_full hf (K - 1) (6 - K) 0 0 (by omega) (fun j a b => (others h1 h6 hf j (by omega) (by omega) (by omega)).1)
    rw [show K - 1 + (6 - K) + 1 = 6 by omega] at this
    exact this
  · have hn : ∀ j : Nat, 1 ≤ j → j ≤ 6 → ¬ fullQ L (j : Int) := fun j a b c => h ⟨j, a, b, c⟩
    rw [parseQ_none hn]
    exact docQ_none L 6 0 0 (Nat.zero_le _) (fun j a b => hn j (by omega) (by omega))
end Go.Proofs.Ytpjacngbkohmdaa.QryM
/- Plain mathematics: the tokens of a query's line; a query that may be is parsed from its line. -/
namespace Go.Proofs.Ytpjacngbkohmdaa.QryN
set_option linter.unusedVariables false
set_option linter.unusedSimpArgs false
open Go.RowKit Go.Sort Go.Proofs.Ytpjacngbkohmdaa.Plain Go.Proofs.Ytpjacngbkohmdaa.SynP Go.Proofs.Ytpjacngbkohmdaa.TabP Go.Proofs.Ytpjacngbkohmdaa.Scan2 Go.Proofs.Ytpjacngbkohmdaa.Scan3 Go.Proofs.Ytpjacngbkohmdaa.SynR Go.Proofs.Ytpjacngbkohmdaa.SynV Go.Proofs.Ytpjacngbkohmdaa.SynW Go.Proofs.Ytpjacngbkohmdaa.QryP Go.Proofs.Ytpjacngbkohmdaa.Qry4 Go.Proofs.Ytpjacngbkohmdaa.Qry5 Go.Proofs.Ytpjacngbkohmdaa.Qry7 Go.Proofs.Ytpjacngbkohmdaa.QryA Go.Proofs.Ytpjacngbkohmdaa.QryB Go.Proofs.Ytpjacngbkohmdaa.QryC Go.Proofs.Ytpjacngbkohmdaa.QryD Go.Proofs.Ytpjacngbkohmdaa.QryL Go.Proofs.Ytpjacngbkohmdaa.QryM
/-- The tokens of texts of a kind, each with a blank ahead, from the k-th byte on. -/
def wordTks (n : Int) : List Str → Nat → List Tk
  | [], _ => []
  | s :: T, k => ⟨n, ⟨s.toArray⟩, k + 1 + 1⟩ :: wordTks n T (k + 1 + s.length)
theorem stops_tail (T : List Str) {rest : List UInt8} (h : Stops rest) : Stops (tailW T ++ rest) := by
  cases T with
  | nil => exact h
  | cons s T => exact stops_sp _
theorem bs_mk (s : Str) : (⟨s.toArray⟩ : ByteArray).data.toList = s := rfl
theorem run_caps {s : ByteArray} : ∀ (T : List Str) {k : Nat} {L : List Tk} {rest : List UInt8}, s.data.toList.drop k = tailW T ++ rest → (∀ x ∈ T, named capB x = true) → Stops rest →
    tkRun s k L = tkRun s (k + (tailW T).length) (L ++ wordTks 1 T k) ∧ s.data.toList.drop (k + (tailW T).length) = rest
  | [], k, L, rest, h, hn, hr => by
    rw [tailW_nil] at *
    exact ⟨by simp [wordTks], h⟩
  | x :: T, k, L, rest, h, hn, hr => by
    have h1 : s.data.toList.drop k = 32 :: (x ++ (tailW T ++ rest)) := by rw [h, tailW_cons]; simp
    obtain ⟨a1, b1⟩ := run_sp (L := L) h1
    have hx := hn x (List.mem_cons_self ..)
    obtain ⟨a2, b2⟩ := run_cap (L := L) (w := ⟨x.toArray⟩) (rest := tailW T ++ rest) b1 hx (stops_tail T hr)
    have hsz : (⟨x.toArray⟩ : ByteArray).size = x.length := rfl
    rw [hsz] at a2 b2
    obtain ⟨a3, b3⟩ := run_caps T (L := L ++ [⟨1, ⟨x.toArray⟩, k + 1 + 1⟩]) b2 (fun y hy => hn y (List.mem_cons_of_mem _ hy)) hr
    have e : k + (tailW (x :: T)).length = k + 1 + x.length + (tailW T).length := by rw [tailW_cons]; simp; omega
    rw [a1, a2, a3, e]
    refine ⟨?_, b3⟩
    congr 1
    simp [wordTks]
theorem run_smalls {s : ByteArray} : ∀ (T : List Str) {k : Nat} {L : List Tk} {rest : List UInt8}, s.data.toList.drop k = tailW T ++ rest → (∀ x ∈ T, named smallB x = true) → Stops rest →
    tkRun s k L = tkRun s (k + (tailW T).length) (L ++ wordTks 2 T k) ∧ s.data.toList.drop (k + (tailW T).length) = rest
  | [], k, L, rest, h, hn, hr => by
    rw [tailW_nil] at *
    exact ⟨by simp [wordTks], h⟩
  | x :: T, k, L, rest, h, hn, hr => by
    have h1 : s.data.toList.drop k = 32 :: (x ++ (tailW T ++ rest)) := by rw [h, tailW_cons]; simp
    obtain ⟨a1, b1⟩ := run_sp (L := L) h1
    have hx := hn x (List.mem_cons_self ..)
    obtain ⟨a2, b2⟩ := run_small (L := L) (w := ⟨x.toArray⟩) (rest := tailW T ++ rest) b1 hx (stops_tail T hr)
    have hsz : (⟨x.toArray⟩ : ByteArray).size = x.length := rfl
    rw [hsz] at a2 b2
    obtain ⟨a3, b3⟩ := run_smalls T (L := L ++ [⟨2, ⟨x.toArray⟩, k + 1 + 1⟩]) b2 (fun y hy => hn y (List.mem_cons_of_mem _ hy)) hr
    have e : k + (tailW (x :: T)).length = k + 1 + x.length + (tailW T).length := by rw [tailW_cons]; simp; omega
    rw [a1, a2, a3, e]
    refine ⟨?_, b3⟩
    congr 1
    simp [wordTks]
theorem words_small {k : Int} (h : k = 1 ∨ k = 2 ∨ k = 3 ∨ k = 4 ∨ k = 5 ∨ k = 6) : ∀ x ∈ wordsL k, named smallB x = true := by
  rcases h with rfl | rfl | rfl | rfl | rfl | rfl <;> decide +kernel
theorem lead_small (k : Int) : named smallB (bs (leadT k)) = true := by
  unfold leadT; split <;> decide +kernel
/-- Where the tokens of a line begin. -/
def linesTk (q : Qy) : List Tk := [⟨2, leadT q.kind, 1⟩] ++ roleTk q.a ((leadT q.kind).size + 1) ++ wordTks 2 (wordsL q.kind) ((leadT q.kind).size + 1 + (textR q.a).size) ++ (if hasBk q.kind = true then roleTk q.b ((leadT q.kind).size + 1 + (textR q.a).size + (tailW (wordsL q.kind)).length + 1) else []) ++ wordTks 1 q.who ((leadT q.kind).size + 1 + (textR q.a).size + (tailW (wordsL q.kind)).length + (if hasBk q.kind = true then (textR q.b).size + 1 else 0))
/-- What a line is made of: a query, its principals in any order. -/
def form (q : Qy) : Prop := (q.kind = 1 ∨ q.kind = 2 ∨ q.kind = 3 ∨ q.kind = 4 ∨ q.kind = 5 ∨ q.kind = 6) ∧ q.a.ok = true ∧ (hasBk q.kind = true → q.b.ok = true) ∧ (∀ s ∈ q.who, prinS s = true) ∧ q.who.length ≤ 12
theorem form_of {q : Qy} (h : q.right = true) : form q := by
  obtain ⟨ha, hc⟩ := right_parts h
  refine ⟨right_kind h, ha, ?_, ?_, ?_⟩
  · intro hb
    rcases hc with ⟨_, e, _⟩ | ⟨e, _, _⟩ | ⟨_, _, _, e⟩
    · rw [e] at hb; cases hb
    · rw [e] at hb; exact absurd hb (by decide)
    · exact e
  · rcases hc with ⟨_, _, hw, _, _⟩ | ⟨_, hw, _⟩ | ⟨_, _, hw, _⟩
    · exact (who_parts hw).2.1
    · rw [hw]; intro s hs; simp at hs
    · rw [hw]; intro s hs; simp at hs
  · rcases hc with ⟨_, _, hw, _, _⟩ | ⟨_, hw, _⟩ | ⟨_, _, hw, _⟩
    · exact (who_parts hw).1
    · rw [hw]; decide
    · rw [hw]; decide
theorem leadT_len (k : Int) : (leadT k).size ≤ 6 := by unfold leadT; split <;> decide
theorem words_len5 {k : Int} (h : k = 1 ∨ k = 2 ∨ k = 3 ∨ k = 4 ∨ k = 5 ∨ k = 6) : (tailW (wordsL k)).length ≤ 9 := by
  rcases h with rfl | rfl | rfl | rfl | rfl | rfl <;> decide
theorem lineL_form {q : Qy} (h : form q) : lineL q = bs (leadT q.kind) ++ (32 :: (bs (textR q.a) ++ (tailW (wordsL q.kind) ++ ((if hasBk q.kind = true then 32 :: bs (textR q.b) else []) ++ (tailW q.who ++ []))))) := by
  unfold lineL
  rw [words_tail h.1]
  split <;> simp [tailW]
theorem stops_if {c : Bool} {x rest : List UInt8} (h : Stops rest) : Stops ((if c = true then 32 :: x else []) ++ rest) := by
  cases c
  · exact h
  · exact stops_sp _
theorem mem_tail {T : List Str} {c : UInt8} (h : c ∈ tailW T) : c = 32 ∨ ∃ s ∈ T, c ∈ s := by
  unfold tailW at h
  obtain ⟨l, hl, hc⟩ := List.mem_flatten.1 h
  obtain ⟨s, hs, rfl⟩ := List.mem_map.1 hl
  rcases List.mem_cons.1 hc with e | e
  · exact .inl e
  · exact .inr ⟨s, hs, e⟩
theorem toks_line {q : Qy} (h : form q) : ansOf ⟨(lineL q).toArray⟩ = .ok (linesTk q) := by
  obtain ⟨hk, ha, hb, hw, h12⟩ := h
  have hf := lineL_form ⟨hk, ha, hb, hw, h12⟩
  have n35 : ∀ c ∈ lineL q, c ≠ 35 := by
    intro c hc
    rw [hf] at hc
    simp only [List.mem_append, List.mem_cons, List.not_mem_nil, or_false] at hc
    rcases hc with hc | rfl | hc | hc | hc | hc
    · exact named_ne35 (w := leadT q.kind) (lead_small _) c hc
    · decide
    · exact role_ne35 ha c hc
    · rcases mem_tail hc with rfl | ⟨s, hs, hc⟩
      · decide
      · exact named_ne35 (w := ⟨s.toArray⟩) (words_small hk s hs) c hc
    · split at hc
      · rename_i hbk
        rcases List.mem_cons.1 hc with rfl | hc
        · decide
        · exact role_ne35 (hb hbk) c hc
      · simp at hc
    · rcases mem_tail hc with rfl | ⟨s, hs, hc⟩
      · decide
      · exact named_ne35 (w := ⟨s.toArray⟩) (hw s hs) c hc
  have hsz : (⟨(lineL q).toArray⟩ : ByteArray).size ≤ 200 := by
    show (lineL q).length ≤ 200
    rw [hf]
    have e1 : (bs (leadT q.kind)).length = (leadT q.kind).size := toList_len _
    have e2 : (bs (textR q.a)).length = (textR q.a).size := toList_len _
    have l1 := leadT_len q.kind
    have l2 := role_size ha
    have l3 := words_len5 hk
    have l4 := tailW_len (T := q.who) (m := 8) fun s hs => prin_len (hw s hs)
    have l5 : (if hasBk q.kind = true then 32 :: bs (textR q.b) else []).length ≤ 18 := by
      split
      · rename_i hbk
        have e3 : (bs (textR q.b)).length = (textR q.b).size := toList_len _
        have := role_size (hb hbk)
        simp; omega
      · simp
    have l6 : q.who.length * 9 ≤ 12 * 9 := Nat.mul_le_mul_right _ h12
    simp only [List.length_append, List.length_cons, List.length_nil]
    omega
  have hbare : bare ⟨(lineL q).toArray⟩ = ⟨(lineL q).toArray⟩ := bare_no35 n35
  unfold ansOf
  rw [if_neg (by omega), hbare]
  have d0 : (⟨(lineL q).toArray⟩ : ByteArray).data.toList.drop 0 = bs (leadT q.kind) ++ (32 :: (bs (textR q.a) ++ (tailW (wordsL q.kind) ++ ((if hasBk q.kind = true then 32 :: bs (textR q.b) else []) ++ (tailW q.who ++ []))))) := hf
  generalize (⟨(lineL q).toArray⟩ : ByteArray) = s at *
  obtain ⟨a1, b1⟩ := run_small (L := []) (w := leadT q.kind) d0 (lead_small _) (stops_sp _)
  obtain ⟨a2, b2⟩ := run_sp (L := [] ++ [⟨2, leadT q.kind, 0 + 1⟩]) b1
  obtain ⟨a3, b3⟩ := run_role (L := [] ++ [⟨2, leadT q.kind, 0 + 1⟩]) (r := q.a) b2 ha (stops_tail _ (stops_if (stops_tail _ stops_nil)))
  obtain ⟨a4, b4⟩ := run_smalls (wordsL q.kind) (L := [] ++ [⟨2, leadT q.kind, 0 + 1⟩] ++ roleTk q.a (0 + (leadT q.kind).size + 1)) b3 (words_small hk) (stops_if (stops_tail _ stops_nil))
  unfold linesTk
  cases hbk : hasBk q.kind
  · rw [hbk] at b4
    simp only [Bool.false_eq_true, if_false, List.nil_append] at b4 ⊢
    obtain ⟨a5, b5⟩ := run_caps q.who (L := [] ++ [⟨2, leadT q.kind, 0 + 1⟩] ++ roleTk q.a (0 + (leadT q.kind).size + 1) ++ wordTks 2 (wordsL q.kind) (0 + (leadT q.kind).size + 1 + (textR q.a).size)) b4 hw stops_nil
    rw [a1, a2, a3, a4, a5, run_done b5]
    simp
  · rw [hbk] at b4
    simp only [if_true, List.cons_append] at b4 ⊢
    obtain ⟨a5, b5⟩ := run_sp (L := [] ++ [⟨2, leadT q.kind, 0 + 1⟩] ++ roleTk q.a (0 + (leadT q.kind).size + 1) ++ wordTks 2 (wordsL q.kind) (0 + (leadT q.kind).size + 1 + (textR q.a).size)) b4
    obtain ⟨a6, b6⟩ := run_role (L := [] ++ [⟨2, leadT q.kind, 0 + 1⟩] ++ roleTk q.a (0 + (leadT q.kind).size + 1) ++ wordTks 2 (wordsL q.kind) (0 + (leadT q.kind).size + 1 + (textR q.a).size)) (r := q.b) b5 (hb hbk) (stops_tail _ stops_nil)
    obtain ⟨a7, b7⟩ := run_caps q.who (L := [] ++ [⟨2, leadT q.kind, 0 + 1⟩] ++ roleTk q.a (0 + (leadT q.kind).size + 1) ++ wordTks 2 (wordsL q.kind) (0 + (leadT q.kind).size + 1 + (textR q.a).size) ++ roleTk q.b (0 + (leadT q.kind).size + 1 + (textR q.a).size + (tailW (wordsL q.kind)).length + 1)) b6 hw stops_nil
    rw [a1, a2, a3, a4, a5, a6, a7, run_done b7]
    have e : (leadT q.kind).size + 1 + (textR q.a).size + (tailW (wordsL q.kind)).length + 1 + (textR q.b).size = (leadT q.kind).size + 1 + (textR q.a).size + (tailW (wordsL q.kind)).length + ((textR q.b).size + 1) := by omega
    simp only [Nat.zero_add, List.nil_append, List.append_assoc, e]
    rfl
/-- Principals in order are read as they stand. -/
theorem readW_rise : ∀ (T T0 : List Str) (c : Nat), (T0 ++ T).Pairwise (· < ·) → (T0 ++ T).length ≤ 12 → readW (wordTks 1 T c) T0 = (T0 ++ T, (wordTks 1 T c).length, false)
  | [], T0, c, h, hl => by simp [wordTks, readW]
  | s :: T, T0, c, h, hl => by
    have e : T0 ++ s :: T = (T0 ++ [s]) ++ T := by simp
    have hp := List.pairwise_append.1 h
    have hs : s ∉ T0 := fun hm => List.lt_irrefl s (hp.2.2 s hm s (List.mem_cons_self ..))
    have h12 : T0.length ≠ 12 := by simp at hl; omega
    have ht : tab (T0 ++ [s]) = T0 ++ [s] := by
      rw [e] at h
      exact (tab_id.2 (List.pairwise_append.1 h).1).symm
    have ih := readW_rise T (T0 ++ [s]) (c + 1 + s.length) (by rw [← e]; exact h) (by rw [← e]; exact hl)
    have hstr : strOf (⟨s.toArray⟩ : ByteArray) = s := rfl
    show (if (1 : Int) = 1 then (if strOf ⟨s.toArray⟩ ∈ T0 then _ else _) else _) = _
    rw [if_pos rfl, hstr, if_neg hs, if_neg h12, ht, ih, e]
    simp [wordTks]
theorem whoOk_of {T : List Str} (h1 : T.length ≤ 12) (h2 : ∀ s ∈ T, prinS s = true) (h3 : T.Pairwise (· < ·)) : whoOk T = true := by
  unfold whoOk
  rw [decide_eq_true h1, decide_eq_true (tab_id.2 h3), List.all_eq_true.2 h2]; rfl
theorem wordTks_len (n : Int) : ∀ (T : List Str) (c : Nat), (wordTks n T c).length = T.length
  | [], c => rfl
  | s :: T, c => by
    show (wordTks n T (c + 1 + s.length)).length + 1 = _
    rw [wordTks_len n T]; rfl
theorem fit_word {s : Str} {c : Nat} : Ft.fits ⟨2, ⟨s.toArray⟩, c⟩ (.word s) = true := by simp [Ft.fits]
theorem fit_lead {k : Int} {c : Nat} : Ft.fits ⟨2, leadT k, c⟩ (.word (leadS k)) = true := by rw [leadT_S]; exact fit_word
theorem fit_kind {n : Int} {x : ByteArray} {c : Nat} : Ft.fits ⟨n, x, c⟩ (.kind n) = true := by simp [Ft.fits]
theorem agreeF_step {t : Tk} {L : List Tk} {f : Ft} {F : List Ft} (h : Ft.fits t f = true) : agreeF (t :: L) (f :: F) = agreeF L F + 1 := by
  show (if f.fits t = true then agreeF L F + 1 else 0) = _
  rw [if_pos h]
theorem agreeF_nil (L : List Tk) : agreeF L [] = 0 := by cases L <;> rfl
theorem kindNat {k : Int} (h1 : 1 ≤ k) : ∃ K : Nat, k = K := ⟨k.toNat, by omega⟩
theorem lastQ_ok {L : List Tk} {r : Qy × Nat × Int} (h : r.2.2 = 0) : lastQ L r = (r.1, 0, 0) := by unfold lastQ; rw [if_pos h]
/-- A line with principals is asked as what they are in order. -/
theorem parse3 {k : Int} (hk : k = 1 ∨ k = 2 ∨ k = 3) {a : Rl} {T T' : List Str} (hr : ∀ c, readW (wordTks 1 T c) [] = (T', T.length, false)) (hright : Qy.right ⟨k, a, zeroR, T'⟩ = true) : parseQ (linesTk ⟨k, a, zeroR, T⟩) = (⟨k, a, zeroR, T'⟩, 0, 0) := by
  obtain ⟨s, hws, hsh, hB, hW⟩ := shape3 hk
  obtain ⟨c1, c2, c3, c4, c5, e⟩ : ∃ c1 c2 c3 c4 c5, linesTk ⟨k, a, zeroR, T⟩ = ⟨2, leadT k, 1⟩ :: ⟨1, a.owner, c1⟩ :: ⟨3, dot, c2⟩ :: ⟨2, a.name, c3⟩ :: ⟨2, ⟨s.toArray⟩, c4⟩ :: wordTks 1 T c5 := by
    refine ⟨(leadT k).size + 1 + 1, (leadT k).size + 1 + a.owner.size + 1, (leadT k).size + 1 + a.owner.size + 1 + 1, (leadT k).size + 1 + (textR a).size + 1 + 1, (leadT k).size + 1 + (textR a).size + (tailW [s]).length, ?_⟩
    unfold linesTk
    simp only [hws, hB, roleTk, wordTks, Bool.false_eq_true, if_false, List.append_nil, List.cons_append, List.nil_append, Nat.add_zero]
  have ha : agreeF (linesTk ⟨k, a, zeroR, T⟩) (shapeF k) = 5 := by
    rw [e, hsh, agreeF_step fit_lead, agreeF_step fit_kind, agreeF_step fit_kind, agreeF_step fit_kind, agreeF_step fit_word, agreeF_nil]
  have hf : fullQ (linesTk ⟨k, a, zeroR, T⟩) k := by unfold fullQ; rw [ha, hsh]; rfl
  obtain ⟨K, rfl⟩ := kindNat (k := k) (by omega)
  rw [parseQ_at (K := K) (by omega) (by omega) hf]
  rw [e] at ha ⊢
  have hrd := read3_eq hk ha
  rw [hr c5] at hrd
  simp only at hrd
  rw [wordTks_len, if_neg (by decide), if_neg (by omega), if_pos hright] at hrd
  rw [hrd]
  exact lastQ_ok rfl
theorem parse4 {a : Rl} (hright : Qy.right ⟨4, a, zeroR, []⟩ = true) : parseQ (linesTk ⟨4, a, zeroR, []⟩) = (⟨4, a, zeroR, []⟩, 0, 0) := by
  obtain ⟨hsh, hB, hW⟩ := shape4
  obtain ⟨c1, c2, c3, c4, c5, e⟩ : ∃ c1 c2 c3 c4 c5, linesTk ⟨4, a, zeroR, []⟩ = [⟨2, leadT 4, 1⟩, ⟨1, a.owner, c1⟩, ⟨3, dot, c2⟩, ⟨2, a.name, c3⟩, ⟨2, ⟨#[98, 101]⟩, c4⟩, ⟨2, ⟨#[101, 109, 112, 116, 121]⟩, c5⟩] := ⟨_, _, _, _, _, rfl⟩
  have ha : agreeF (linesTk ⟨4, a, zeroR, []⟩) (shapeF 4) = 6 := by
    rw [e, hsh, agreeF_step fit_lead, agreeF_step fit_kind, agreeF_step fit_kind, agreeF_step fit_kind, agreeF_step fit_word, agreeF_step fit_word, agreeF_nil]
  have hf : fullQ (linesTk ⟨4, a, zeroR, []⟩) ((4 : Nat) : Int) := by
    show agreeF (linesTk ⟨4, a, zeroR, []⟩) (shapeF 4) = (shapeF 4).length
    rw [ha]; rfl
  rw [parseQ_at (K := 4) (by omega) (by omega) hf]
  rw [e] at ha ⊢
  have hrd := read4_eq ha
  rw [if_neg (by simp), if_pos hright] at hrd
  show lastQ _ (readQ 4 _) = _
  rw [hrd]
  exact lastQ_ok rfl
theorem parse8 {k : Int} (hk : k = 5 ∨ k = 6) {a b : Rl} (hright : Qy.right ⟨k, a, b, []⟩ = true) : parseQ (linesTk ⟨k, a, b, []⟩) = (⟨k, a, b, []⟩, 0, 0) := by
  obtain ⟨s, hws, hsh, hB, hW⟩ := shape8 hk
  obtain ⟨c1, c2, c3, c4, c5, c6, c7, e⟩ : ∃ c1 c2 c3 c4 c5 c6 c7, linesTk ⟨k, a, b, []⟩ = [⟨2, leadT k, 1⟩, ⟨1, a.owner, c1⟩, ⟨3, dot, c2⟩, ⟨2, a.name, c3⟩, ⟨2, ⟨s.toArray⟩, c4⟩, ⟨1, b.owner, c5⟩, ⟨3, dot, c6⟩, ⟨2, b.name, c7⟩] := by
    refine ⟨(leadT k).size + 1 + 1, (leadT k).size + 1 + a.owner.size + 1, (leadT k).size + 1 + a.owner.size + 1 + 1, (leadT k).size + 1 + (textR a).size + 1 + 1, (leadT k).size + 1 + (textR a).size + (tailW [s]).length + 1 + 1, (leadT k).size + 1 + (textR a).size + (tailW [s]).length + 1 + b.owner.size + 1, (leadT k).size + 1 + (textR a).size + (tailW [s]).length + 1 + b.owner.size + 1 + 1, ?_⟩
    unfold linesTk
    simp only [hws, hB, roleTk, wordTks, if_true, List.append_nil, List.cons_append, List.nil_append]
  have ha : agreeF (linesTk ⟨k, a, b, []⟩) (shapeF k) = 8 := by
    rw [e, hsh, agreeF_step fit_lead, agreeF_step fit_kind, agreeF_step fit_kind, agreeF_step fit_kind, agreeF_step fit_word, agreeF_step fit_kind, agreeF_step fit_kind, agreeF_step fit_kind, agreeF_nil]
  have hf : fullQ (linesTk ⟨k, a, b, []⟩) k := by unfold fullQ; rw [ha, hsh]; rfl
  obtain ⟨K, rfl⟩ := kindNat (k := k) (by omega)
  rw [parseQ_at (K := K) (by omega) (by omega) hf]
  rw [e] at ha ⊢
  have hrd := read8_eq hk ha
  rw [if_neg (by simp), if_pos hright] at hrd
  rw [hrd]
  exact lastQ_ok rfl
/-- A query that may be is parsed from its line's tokens. -/
theorem parse_toks {q : Qy} (h : q.right = true) : parseQ (linesTk q) = (q, 0, 0) := by
  have hp := (right_parts h).2
  obtain ⟨k, a, b, T⟩ := q
  rcases hp with ⟨hW, hB, hw, hb, _⟩ | ⟨hk, hw, hb⟩ | ⟨hB, hW, hw, _⟩
  · simp only at hW hB hw hb
    subst hb
    have hk : k = 1 ∨ k = 2 ∨ k = 3 := by simpa [hasWk] using hW
    obtain ⟨w1, w2, w3⟩ := who_parts hw
    exact parse3 hk (fun c => by have := readW_rise T [] c (by simpa using w3) (by simpa using w1); rw [this, wordTks_len]; rfl) h
  · simp only at hk hw hb
    subst hk; subst hw; subst hb
    exact parse4 h
  · simp only at hB hw
    subst hw
    have hk : k = 5 ∨ k = 6 := by simpa [hasBk] using hB
    exact parse8 hk h
/-- The document's example. -/
def exA : Rl := ⟨⟨#[65]⟩, ⟨#[114]⟩⟩
def exQ : Qy := ⟨3, exA, zeroR, [[66], [67]]⟩
def exT : ByteArray := ⟨#[97, 108, 119, 97, 121, 115, 32, 65, 46, 114, 32, 119, 105, 116, 104, 105, 110, 32, 67, 32, 66]⟩
def exL : ByteArray := ⟨#[97, 108, 119, 97, 121, 115, 32, 65, 46, 114, 32, 119, 105, 116, 104, 105, 110, 32, 66, 32, 67]⟩
theorem ex_okA : exA.ok = true := by decide +kernel
theorem ex_who : whoOk [[66], [67]] = true := whoOk_of (by decide) (by decide +kernel) (by decide)
theorem ex_right : exQ.right = true := by
  show (exA.ok && (whoOk [[66], [67]] && decide (zeroR = zeroR))) = true
  rw [ex_okA, ex_who, decide_eq_true rfl]; rfl
theorem ex_form : form ⟨3, exA, zeroR, [[67], [66]]⟩ := ⟨.inr (.inr (.inl rfl)), ex_okA, (fun h => by cases h), by decide +kernel, by decide⟩
theorem ex_text : (⟨(lineL ⟨3, exA, zeroR, [[67], [66]]⟩).toArray⟩ : ByteArray) = exT := by
  apply ba_ext; decide +kernel
theorem ex_line : lineQ exQ = exL := by
  unfold lineQ
  rw [if_pos ex_right]
  apply ba_ext; decide +kernel
theorem ex_read (c : Nat) : readW (wordTks 1 [[67], [66]] c) [] = ([[66], [67]], 2, false) := by
  have t1 : tab ([] ++ [[67]]) = ([[67]] : List Str) := (tab_id.2 (by decide)).symm
  have t2 : tab ([[67]] ++ [[66]]) = ([[66], [67]] : List Str) := eq_of_rising (tab_sorted _) (by decide) (fun x => by rw [mem_tab]; simp; exact Or.comm)
  show (if (1 : Int) = 1 then (if strOf ⟨#[67]⟩ ∈ ([] : List Str) then _ else _) else _) = _
  have s1 : strOf (⟨#[67]⟩ : ByteArray) = [67] := rfl
  have s2 : strOf (⟨#[66]⟩ : ByteArray) = [66] := rfl
  rw [if_pos rfl, s1, if_neg (by simp), if_neg (by simp), t1]
  have h2 : readW (wordTks 1 [[66]] (c + 1 + 1)) [[67]] = ([[66], [67]], 1, false) := by
    show (if (1 : Int) = 1 then (if strOf ⟨#[66]⟩ ∈ ([[67]] : List Str) then _ else _) else _) = _
    rw [if_pos rfl, s2, if_neg (by decide), if_neg (by simp), t2]
    rfl
  have h3 : readW (wordTks 1 [[66]] (c + 1 + ([67] : Str).length)) [[67]] = ([[66], [67]], 1, false) := h2
  rw [h3]
theorem ex_parse : ∃ L, ansOf exT = .ok L ∧ parseQ L = (exQ, 0, 0) := by
  refine ⟨_, ?_, parse3 (.inr (.inr rfl)) ex_read ex_right⟩
  rw [← ex_text]; exact toks_line ex_form
theorem parse_line {q : Qy} (h : q.right = true) : ∃ L, ansOf (lineQ q) = .ok L ∧ parseQ L = (q, 0, 0) := by
  refine ⟨_, ?_, parse_toks h⟩
  unfold lineQ
  rw [if_pos h]; exact toks_line (form_of h)
end Go.Proofs.Ytpjacngbkohmdaa.QryN
/- The document's example of a query; which queries are light; a query's roles and principals. -/
namespace Go.Proofs.Ytpjacngbkohmdaa.QryO
set_option linter.unusedVariables false
set_option linter.unusedSimpArgs false
open Go.RowKit Go.Sort Go.Proofs Go.Proofs.Ytpjacngbkohmdaa.Plain Go.Proofs.Ytpjacngbkohmdaa.SynP Go.Proofs.Ytpjacngbkohmdaa.TabP Go.Proofs.Ytpjacngbkohmdaa.Tab1 Go.Proofs.Ytpjacngbkohmdaa.Grown Go.Proofs.Ytpjacngbkohmdaa.Scan3 Go.Proofs.Ytpjacngbkohmdaa.SynS Go.Proofs.Ytpjacngbkohmdaa.SynW Go.Proofs.Ytpjacngbkohmdaa.SynJ Go.Proofs.Ytpjacngbkohmdaa.QryP Go.Proofs.Ytpjacngbkohmdaa.Qry6 Go.Proofs.Ytpjacngbkohmdaa.QryC Go.Proofs.Ytpjacngbkohmdaa.QryE Go.Proofs.Ytpjacngbkohmdaa.QryL Go.Proofs.Ytpjacngbkohmdaa.QryH Go.Proofs.Ytpjacngbkohmdaa.QryI Go.Proofs.Ytpjacngbkohmdaa.QryN
set_option linter.unusedVariables false
set_option linter.unusedSimpArgs false
def ExPost (w : World) (e : Ending) (w' : World) : Prop := ∃ A c, e = .returned (.tuple #[.agg #[.int .i64 3, .string ⟨#[65]⟩, .string ⟨#[114]⟩, .string ⟨#[]⟩, .string ⟨#[]⟩, .slice A 2 c], .int .i64 0, .int .i64 0]) ∧ SRow w' A [[66], [67]] ∧ RowKit.Below w.heap.size w w'
def lightQ (q : Qy) : Bool := Tab6.lightB q.who && Tab6.lightB [bs q.a.owner, bs q.a.name, bs q.b.owner, bs q.b.name]
theorem srow_four (X : World) (x y z u : ByteArray) : SRow (X.alloc (.cells #[.string x, .string y, .string z, .string u] 9)) (some ⟨X.heap.size, 0, none⟩) [bs x, bs y, bs z, bs u] := by
  have h := srow_new X [bs x, bs y, bs z, bs u] 9
  have e : ((([bs x, bs y, bs z, bs u] : List Str).map encStr).toArray : Array Value) = #[.string x, .string y, .string z, .string u] := by
    have a := bs_of x
    have b := bs_of y
    have c := bs_of z
    have d := bs_of u
    show #[Value.string ⟨(bs x).toArray⟩, Value.string ⟨(bs y).toArray⟩, Value.string ⟨(bs z).toArray⟩, Value.string ⟨(bs u).toArray⟩] = _
    rw [← a, ← b, ← c, ← d]
  rw [e] at h
  exact h
set_option maxHeartbeats 1000000 in
set_option maxRecDepth 100000 in
theorem light (q : Qy) (A : Option Addr) (c : Nat) (w : World) (hf : q.fit) (hA : SRow w A q.who) : Calls Try.prog 46 #[q.val A c] w fun e w' => e = .returned (.bool (lightQ q)) ∧ Grew w w' := by
  obtain ⟨k, ⟨ao, an⟩, ⟨bo, bn⟩, T⟩ := q
  obtain ⟨fa, fb, fT, fs⟩ := hf
  unfold lightQ
  have H1 := Lib.hid (fun (w' : World) (hr : SRow w' A T) => Tab6.light A c T w' fT fs hr)
  have hl4 : ∀ s ∈ [bs ao, bs an, bs bo, bs bn], s.length ≤ maxLen := by
    intro s hs
    rcases (by simpa using hs : s = bs ao ∨ s = bs an ∨ s = bs bo ∨ s = bs bn) with rfl | rfl | rfl | rfl
    · exact fa.1
    · exact fa.2
    · exact fb.1
    · exact fb.2
  have H2 := Lib.hid (fun (B : Option Addr) (w' : World) (hr : SRow w' B [bs ao, bs an, bs bo, bs bn]) => Tab6.light B 4 [bs ao, bs an, bs bo, bs bn] w' (by simp; unfold maxLen; decide) hl4 hr)
  have HA := Lib.hid (hA.keep ((Below.refl _ _).alloc (Nat.le_refl _) (.cells #[.int .i64 k, .string ao, .string an, .string bo, .string bn, .slice A T.length c] 61)))
  have hn4 := srow_four (w.alloc (.cells #[.int .i64 k, .string ao, .string an, .string bo, .string bn, .slice A T.length c] 61)) ao an bo bn
  rw [World.size_alloc] at hn4
  have HN := Lib.hid hn4
  show Calls _ _ #[.agg #[.int .i64 k, .string ao, .string an, .string bo, .string bn, .slice A T.length c]] _ _
  simp only
  generalize Tab6.lightB T = l1 at *
  generalize Tab6.lightB [bs ao, bs an, bs bo, bs bn] = l2 at *
  clear fa fb fT fs hA hl4 hn4
  cases l1
  · go_enter Try.func46, Try.ntmps46
    go_wp2_with fail
    refine (H1.out _ HA.out).mono ?_
    rintro e w1 ⟨rfl, rfl⟩
    go_wp2_with fail
    go_ret
    exact ⟨rfl, (Grew.refl _).alloc _⟩
  · go_enter Try.func46, Try.ntmps46
    go_wp2_with fail
    refine (H1.out _ HA.out).mono ?_
    rintro e w1 ⟨rfl, rfl⟩
    go_wp2_with fail
    refine (H2.out _ _ HN.out).mono ?_
    rintro e w1 ⟨rfl, rfl⟩
    go_wp2_with fail
    go_ret
    exact ⟨rfl, ((Grew.refl _).alloc _).alloc _⟩
def rolesQ (q : Qy) : List Rl := if hasBk q.kind = true then [q.a, q.b] else [q.a]
def RolesPostQ (q : Qy) (w : World) (e : Ending) (w' : World) : Prop := ∃ A, e = .returned (.slice A (rolesQ q).length (rolesQ q).length) ∧ RAt w' A (rolesQ q) ∧ RowKit.Below w.heap.size w w'
def PrinsPost (T : List Str) (w : World) (e : Ending) (w' : World) : Prop := ∃ A c, e = .returned (.slice A T.length c) ∧ SRow w' A T ∧ RowKit.Below w.heap.size w w'
end Go.Proofs.Ytpjacngbkohmdaa.QryO
/- All roles that a policy names, as often as it does: policy.roles, by contract. -/
namespace Go.Proofs.Ytpjacngbkohmdaa.PolG
set_option linter.unusedVariables false
set_option linter.unusedSimpArgs false
open Go.RowKit Go.Sort Go.Lib Go.Proofs Go.Proofs.Ytpjacngbkohmdaa.Plain Go.Proofs.Ytpjacngbkohmdaa.SynP Go.Proofs.Ytpjacngbkohmdaa.TabP Go.Proofs.Ytpjacngbkohmdaa.Tab1 Go.Proofs.Ytpjacngbkohmdaa.Grown Go.Proofs.Ytpjacngbkohmdaa.SynC Go.Proofs.Ytpjacngbkohmdaa.SynJ Go.Proofs.Ytpjacngbkohmdaa.QryP Go.Proofs.Ytpjacngbkohmdaa.PolA Go.Proofs.Ytpjacngbkohmdaa.PolE
set_option linter.unusedVariables false
set_option linter.unusedSimpArgs false
def rolesS (L : List St) (k : Nat) : List Rl := ((L.take k).map rolesL).flatten
def rolesA (L : List Qy) (k : Nat) : List Rl := ((L.take k).map QryO.rolesQ).flatten
theorem rolesS_succ {L : List St} {k : Nat} (h : k < L.length) : rolesS L (k + 1) = rolesS L k ++ rolesL L[k] := by
  unfold rolesS
  rw [List.take_succ_eq_append_getElem h, List.map_append, List.flatten_append, List.map_singleton, List.flatten_singleton]
theorem rolesA_succ {L : List Qy} {k : Nat} (h : k < L.length) : rolesA L (k + 1) = rolesA L k ++ QryO.rolesQ L[k] := by
  unfold rolesA
  rw [List.take_succ_eq_append_getElem h, List.map_append, List.flatten_append, List.map_singleton, List.flatten_singleton]
theorem rolesL_len (s : St) : (rolesL s).length ≤ 3 := by
  unfold rolesL; split
  · simp
  · split <;> simp
theorem rolesQ_len (q : Qy) : (QryO.rolesQ q).length ≤ 2 := by
  unfold QryO.rolesQ; split <;> simp
theorem rolesS_len (L : List St) : ∀ k, (rolesS L k).length ≤ k * 3
  | 0 => by simp [rolesS]
  | k + 1 => by
    have ih := rolesS_len L k
    rcases Nat.lt_or_ge k L.length with h | h
    · have := rolesL_len L[k]
      rw [rolesS_succ h, List.length_append]; omega
    · have : rolesS L (k + 1) = rolesS L k := by unfold rolesS; rw [List.take_of_length_le (by omega), List.take_of_length_le (by omega)]
      rw [this]; omega
theorem rolesA_len (L : List Qy) : ∀ k, (rolesA L k).length ≤ k * 2
  | 0 => by simp [rolesA]
  | k + 1 => by
    have ih := rolesA_len L k
    rcases Nat.lt_or_ge k L.length with h | h
    · have := rolesQ_len L[k]
      rw [rolesA_succ h, List.length_append]; omega
    · have : rolesA L (k + 1) = rolesA L k := by unfold rolesA; rw [List.take_of_length_le (by omega), List.take_of_length_le (by omega)]
      rw [this]; omega
def rolesP (p : Py) : List Rl := (p.grow ++ p.shrink) ++ rolesS p.stmts p.stmts.length ++ rolesA p.asks p.asks.length
def RolesP (p : Py) (w : World) (e : Ending) (w' : World) : Prop := ∃ A c, e = .returned (.slice A (rolesP p).length c) ∧ RAt w' A (rolesP p) ∧ Below w.heap.size w w'
theorem box_cell {w wr : World} {C : Array Value} {t : TypeId} (hb : Below (w.heap.size + 1) (w.alloc (.cells C t)) wr) (o : Nat) : wr.cell? ⟨w.heap.size, o, none⟩ = C[o]? := by
  rw [hb.cell (by simp), Lib.cell_of_heap (heap_alloc_new w _)]
theorem pair_cell (w : World) (C D : Array Value) (t u : TypeId) (j : Nat) : ((w.alloc (.cells C t)).alloc (.cells D u)).cell? ⟨w.heap.size + 1, j, none⟩ = D[j]? := by
  have h := Lib.cell_of_heap (heap_alloc_new (w.alloc (.cells C t)) (.cells D u)) j
  rwa [World.size_alloc] at h
theorem low {w wr : World} {o : Obj} (hb : Below (w.heap.size + 1) (w.alloc o) wr) : Below w.heap.size w wr := ((Below.refl w.heap.size w).alloc (Nat.le_refl _) o).trans (hb.mono (by omega))
theorem own_at {w w' : World} {base : Nat} {e : TypeId} {size : Nat} {v : Value} {n : Nat} {xs : List Value} (h : w.ownsRow base e size v n xs) (hb : Below w.heap.size w w') : w'.ownsRow base e size v n xs := Tab3.own_keep h hb
end Go.Proofs.Ytpjacngbkohmdaa.PolG
/- Rows of roles and of statements: are two the same, is one there, the row with one more; by contract. -/
namespace Go.Proofs.Ytpjacngbkohmdaa.PolJ
set_option linter.unusedVariables false
set_option linter.unusedSimpArgs false
open Go.RowKit Go.Sort Go.Lib Go.Proofs Go.Proofs.Ytpjacngbkohmdaa.Plain Go.Proofs.Ytpjacngbkohmdaa.SynP Go.Proofs.Ytpjacngbkohmdaa.Grown Go.Proofs.Ytpjacngbkohmdaa.SynC Go.Proofs.Ytpjacngbkohmdaa.SynD2 Go.Proofs.Ytpjacngbkohmdaa.SynD3 Go.Proofs.Ytpjacngbkohmdaa.SynJ Go.Proofs.Ytpjacngbkohmdaa.QryP Go.Proofs.Ytpjacngbkohmdaa.PolA Go.Proofs.Ytpjacngbkohmdaa.PolE Go.Proofs.Ytpjacngbkohmdaa.PolG
set_option linter.unusedVariables false
set_option linter.unusedSimpArgs false
theorem same_all {α : Type} {T U : List α} (hl : T.length = U.length) (h : ∀ j, j < T.length → T[j]? = U[j]?) : T = U := List.ext_getElem? fun j => by
  by_cases hj : j < T.length
  · exact h j hj
  · rw [List.getElem?_eq_none (by omega), List.getElem?_eq_none (by omega)]
set_option maxHeartbeats 1000000 in
set_option maxRecDepth 100000 in
theorem equalS (A B : Option Addr) (ca cb : Nat) (T U : List St) (w : World) (hT : T.length ≤ 10000) (hU : U.length ≤ 10000) (hA : SG w A T) (hB : SG w B U) :
    Calls Try.prog 41 #[.slice A T.length ca, .slice B U.length cb] w fun e w' => e = .returned (.bool (decide (T = U))) ∧ ∃ n, w' = w.drewN n := by
  by_cases hl : T.length = U.length
  · have HL := Lib.hid hl
    have d0 : ((T.length : Int) != U.length) = false := by rw [hl]; simp
    have d0' : (T.length != U.length) = false := by rw [hl]; simp
    have HA := Lib.hid hA
    have HB := Lib.hid hB
    have hul : U.length ≤ T.length := by omega
    have htl : T.length ≤ U.length := by omega
    clear hl hA hB
    go_enter Try.func41, Try.ntmps41
    go_wp2_with fail
    go_loopw [13] (fun i wr => ∃ k : Nat, k ≤ T.length ∧ i = .int .i64 k ∧ Hid (∀ j, j < k → T[j]? = U[j]?) ∧ ∃ n, wr = w.drewN n) (fun i _ => T.length - (intOf i).toNat)
    case atStart => exact ⟨0, by omega, rfl, Lib.hid (fun j hj => by omega), 0, rfl⟩
    case round =>
      obtain ⟨k, hk, rfl, hall, n, rfl⟩ := hrel
      by_cases hlt : k < T.length
      · have hlu : k < U.length := by omega
        obtain ⟨g1, o1, rfl, _, h1⟩ := HA.out (by omega)
        obtain ⟨g2, o2, rfl, _, h2⟩ := HB.out (by omega)
        obtain ⟨a0, a1, a2, a3, a4, a5, a6, a7, a8⟩ := h1 k hlt
        obtain ⟨b0, b1, b2, b3, b4, b5, b6, b7, b8⟩ := h2 k hlu
        have p1 : (0 : Int) ≤ k := by omega
        have p2 : (k : Int) < T.length := by omega
        have p3 : (k : Int) < U.length := by omega
        have hq := fun w => SynE.neS T[k].kind T[k].head.owner T[k].head.name T[k].who T[k].a.owner T[k].a.name T[k].b.owner T[k].b.name T[k].via U[k].kind U[k].head.owner U[k].head.name U[k].who U[k].a.owner U[k].a.name U[k].b.owner U[k].b.name U[k].via w
        clear h1 h2
        by_cases he : T[k] = U[k]
        · have hnext : Hid (∀ j, j < k + 1 → T[j]? = U[j]?) := Lib.hid (fun j hj => by
            by_cases e : j = k
            · subst e; rw [List.getElem?_eq_getElem hlt, List.getElem?_eq_getElem hlu, he]
            · exact hall.out j (by omega))
          rw [decide_eq_true (p := (⟨T[k].kind, ⟨T[k].head.owner, T[k].head.name⟩, T[k].who, ⟨T[k].a.owner, T[k].a.name⟩, ⟨T[k].b.owner, T[k].b.name⟩, T[k].via⟩ : St) = (⟨U[k].kind, ⟨U[k].head.owner, U[k].head.name⟩, U[k].who, ⟨U[k].a.owner, U[k].a.name⟩, ⟨U[k].b.owner, U[k].b.name⟩, U[k].via⟩)) he] at hq
          clear he hall
          go_wp2_with fail
          go_quiet (fail)
          go_wp2_with fail
          go_roundw
          case rel => exact ⟨k + 1, by omega, by go_num, hnext, _, rfl⟩
          case measure => simp [intOf]; omega
        · have hfin : Hid (decide (T = U) = false) := Lib.hid (decide_eq_false (fun h => he (by subst h; rfl)))
          rw [decide_eq_false (p := (⟨T[k].kind, ⟨T[k].head.owner, T[k].head.name⟩, T[k].who, ⟨T[k].a.owner, T[k].a.name⟩, ⟨T[k].b.owner, T[k].b.name⟩, T[k].via⟩ : St) = (⟨U[k].kind, ⟨U[k].head.owner, U[k].head.name⟩, U[k].who, ⟨U[k].a.owner, U[k].a.name⟩, ⟨U[k].b.owner, U[k].b.name⟩, U[k].via⟩)) he] at hq
          clear he hall
          go_wp2_with fail
          go_quiet (fail)
          go_wp2_with fail
          go_ret
          exact ⟨ret_bool hfin.out.symm, _, World.drewN_drewN _ _ _⟩
      · have hfin : Hid (decide (T = U) = true) := Lib.hid (decide_eq_true (same_all HL.out fun j hj => hall.out j (by omega)))
        clear hall
        go_wp2_with fail
        go_ret
        exact ⟨ret_bool hfin.out.symm, _, rfl⟩
  · have d0 : ((T.length : Int) != U.length) = true := by rw [bne_iff_ne]; omega
    have d0' : (T.length != U.length) = true := by rw [bne_iff_ne]; exact hl
    rw [decide_eq_false (fun h : T = U => hl (by rw [h]))]
    clear hl hA hB
    go_enter Try.func41, Try.ntmps41
    go_wp2_with fail
    go_ret
    exact ⟨rfl, 0, rfl⟩
end Go.Proofs.Ytpjacngbkohmdaa.PolJ
