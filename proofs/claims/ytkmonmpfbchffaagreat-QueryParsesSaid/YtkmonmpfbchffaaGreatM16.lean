/- Plain mathematics: the one kind that a line's tokens go on as; the document's way is the program's. -/
import Derived.Test.YtkmonmpfbchffaaGreatM13
import Derived.Test.YtkmonmpfbchffaaGreatM14
import Derived.Test.YtkmonmpfbchffaaGreatM15
import Derived.Test.YtkmonmpfbchffaaGreatM09
import Derived.Test.YtkmonmpfbchffaaGreatM01
import Derived.Test.YtkmonmpfbchffaaGreatM10
import Derived.Lib.Join
namespace Go.Proofs.YtkmonmpfbchffaaGreat.QryM
set_option linter.unusedVariables false
set_option linter.unusedSimpArgs false
open Go.RowKit Go.Sort Go.Proofs.YtkmonmpfbchffaaGreat.Plain Go.Proofs.YtkmonmpfbchffaaGreat.SynP Go.Proofs.YtkmonmpfbchffaaGreat.TabP Go.Proofs.YtkmonmpfbchffaaGreat.SynR Go.Proofs.YtkmonmpfbchffaaGreat.SynV Go.Proofs.YtkmonmpfbchffaaGreat.SynZ Go.Proofs.YtkmonmpfbchffaaGreat.QryP Go.Proofs.YtkmonmpfbchffaaGreat.Qry4 Go.Proofs.YtkmonmpfbchffaaGreat.Qry5 Go.Proofs.YtkmonmpfbchffaaGreat.Qry7 Go.Proofs.YtkmonmpfbchffaaGreat.QryA Go.Proofs.YtkmonmpfbchffaaGreat.QryB Go.Proofs.YtkmonmpfbchffaaGreat.QryC Go.Proofs.YtkmonmpfbchffaaGreat.QryD
/-- Do the tokens go on as a kind's line, to what is behind it? -/
def fullQ (L : List Tk) (k : Int) : Prop := agreeF L (shapeF k) = (shapeF k).length
def errOf (L : List Tk) (f : Nat) : Int := if f < L.length then 2 else 3
theorem errOf_ne (L : List Tk) (f : Nat) : errOf L f ≠ 0 := by unfold errOf; split <;> decide
theorem readQ_no {L : List Tk} {k : Int} (h : ¬ fullQ L k) : readQ k L = (⟨k, zeroR, zeroR, []⟩, agreeF L (shapeF k), errOf L (agreeF L (shapeF k))) := read_no_eq h
/-- How far was read of the kinds behind the k-th. -/
def bestQ (L : List Tk) : Nat → Nat → Nat → Nat
  | 0, _, f => f
  | m + 1, k, f => bestQ L m (k + 1) (max f (agreeF L (shapeF ((k + 1 : Nat) : Int))))
theorem goQ_none (L : List Tk) : ∀ (m k f : Nat) (y : Int), (∀ j : Nat, k < j → j ≤ k + m → ¬ fullQ L (j : Int)) → y = errOf L f → goQ L m k f y = (zeroQ, (placeOf L (bestQ L m k f) : Int), errOf L (bestQ L m k f))
  | 0, k, f, y, h, e => by rw [e]; rfl
  | m + 1, k, f, y, h, e => by
    have hn := readQ_no (h (k + 1) (by omega) (by omega))
    by_cases hf : f ≤ agreeF L (shapeF ((k + 1 : Nat) : Int))
    · rw [goQ_far (by rw [hn]; exact errOf_ne _ _) (by rw [hn]; exact hf), hn]
      have em : max f (agreeF L (shapeF ((k + 1 : Nat) : Int))) = agreeF L (shapeF ((k + 1 : Nat) : Int)) := by omega
      unfold bestQ
      rw [em]
      exact goQ_none L m (k + 1) _ _ (fun j h1 h2 => h j (by omega) (by omega)) rfl
    · rw [goQ_near (by rw [hn]; exact errOf_ne _ _) (by rw [hn]; exact hf)]
      have em : max f (agreeF L (shapeF ((k + 1 : Nat) : Int))) = f := by omega
      unfold bestQ
      rw [em]
      exact goQ_none L m (k + 1) f y (fun j h1 h2 => h j (by omega) (by omega)) e
theorem goQ_after (L : List Tk) : ∀ (m k f : Nat) (y : Int), (∀ j : Nat, k < j → j ≤ k + m → ¬ fullQ L (j : Int) ∧ agreeF L (shapeF (j : Int)) < f) → goQ L m k f y = (zeroQ, (placeOf L f : Int), y)
  | 0, k, f, y, h => rfl
  | m + 1, k, f, y, h => by
    obtain ⟨h1, h2⟩ := h (k + 1) (by omega) (by omega)
    have hn := readQ_no h1
    rw [goQ_near (by rw [hn]; exact errOf_ne _ _) (by rw [hn]; show ¬ f ≤ agreeF L (shapeF ((k + 1 : Nat) : Int)); omega)]
    exact goQ_after L m (k + 1) f y (fun j h1 h2 => h j (by omega) (by omega))
theorem goQ_before (L : List Tk) : ∀ (d m k f : Nat) (y : Int), f ≤ 4 → (∀ j : Nat, k < j → j ≤ k + d → ¬ fullQ L (j : Int) ∧ agreeF L (shapeF (j : Int)) ≤ 4) → ∃ f' y', f' ≤ 4 ∧ goQ L (d + m) k f y = goQ L m (k + d) f' y'
  | 0, m, k, f, y, hf, h => ⟨f, y, hf, by rw [Nat.zero_add]; rfl⟩
  | d + 1, m, k, f, y, hf, h => by
    obtain ⟨h1, h2⟩ := h (k + 1) (by omega) (by omega)
    have hn := readQ_no h1
    rw [show d + 1 + m = (d + m) + 1 by omega, show k + (d + 1) = k + 1 + d by omega]
    by_cases hg : f ≤ agreeF L (shapeF ((k + 1 : Nat) : Int))
    · rw [goQ_far (by rw [hn]; exact errOf_ne _ _) (by rw [hn]; exact hg), hn]
      exact goQ_before L d m (k + 1) _ _ h2 (fun j h1 h2 => h j (by omega) (by omega))
    · rw [goQ_near (by rw [hn]; exact errOf_ne _ _) (by rw [hn]; exact hg)]
      exact goQ_before L d m (k + 1) _ _ hf (fun j h1 h2 => h j (by omega) (by omega))
/-- The answer of a kind that the tokens go on as. -/
def lastQ (L : List Tk) (r : Qy × Nat × Int) : Qy × Int × Int := if r.2.2 = 0 then (r.1, 0, 0) else (zeroQ, (placeOf L r.2.1 : Int), r.2.2)
theorem parseQ_full {L : List Tk} {K : Nat} (h1 : 1 ≤ K) (h6 : K ≤ 6) (hother : ∀ j : Nat, 1 ≤ j → j ≤ 6 → j ≠ K → ¬ fullQ L (j : Int) ∧ agreeF L (shapeF (j : Int)) ≤ 4) (hfar : 5 ≤ (readQ (K : Int) L).2.1) : parseQ L = lastQ L (readQ (K : Int) L) := by
  obtain ⟨k, rfl⟩ : ∃ k, K = k + 1 := ⟨K - 1, by omega⟩
  obtain ⟨f', y', hf', e⟩ := goQ_before L k (5 - k + 1) 0 0 0 (by omega) (fun j h1 h2 => hother j (by omega) (by omega) (by omega))
  unfold parseQ
  rw [show (6 : Nat) = k + (5 - k + 1) by omega, e, Nat.zero_add]
  unfold lastQ
  by_cases h0 : (readQ ((k + 1 : Nat) : Int) L).2.2 = 0
  · rw [goQ_hit h0, if_pos h0]
  · rw [if_neg h0, goQ_far h0 (by omega)]
    exact goQ_after L (5 - k) (k + 1) _ _ (fun j h1 h2 => by
      obtain ⟨a, b⟩ := hother j (by omega) (by omega) (by omega)
      exact ⟨a, by omega⟩)
theorem parseQ_none {L : List Tk} (h : ∀ j : Nat, 1 ≤ j → j ≤ 6 → ¬ fullQ L (j : Int)) : parseQ L = (zeroQ, (placeOf L (bestQ L 6 0 0) : Int), errOf L (bestQ L 6 0 0)) := by
  have hn := readQ_no (h 1 (by omega) (by omega))
  have e : bestQ L 6 0 0 = bestQ L 5 1 (agreeF L (shapeF ((1 : Nat) : Int))) := by
    show bestQ L 5 1 (max 0 _) = _
    rw [Nat.zero_max]
  unfold parseQ
  rw [goQ_far (m := 5) (k := 0) (by show (readQ ((1 : Nat) : Int) L).2.2 ≠ 0; rw [hn]; exact errOf_ne _ _) (Nat.zero_le _), e]
  show goQ L 5 1 (readQ ((1 : Nat) : Int) L).2.1 (readQ ((1 : Nat) : Int) L).2.2 = _
  rw [hn]
  exact goQ_none L 5 1 _ _ (fun j h1 h2 => h j (by omega) (by omega)) rfl
theorem fitsW {t : Tk} {s : Str} (h : Ft.fits t (.word s) = true) : t.kind = 2 ∧ t.text = ⟨s.toArray⟩ := by simpa [Ft.fits] using h
/-- The first five tokens of a kind's line. -/
theorem first5 {L : List Tk} {k : Nat} (h1 : 1 ≤ k) (h6 : k ≤ 6) (h : fullQ L (k : Int)) : ∃ t0 t1 t2 t3 t4 M s, L = t0 :: t1 :: t2 :: t3 :: t4 :: M ∧ t0.kind = 2 ∧ t0.text = ⟨(leadS (k : Int)).toArray⟩ ∧ t1.kind = 1 ∧ t2.kind = 3 ∧ t3.kind = 2 ∧ t4.kind = 2 ∧ t4.text = ⟨s.toArray⟩ ∧ (wordsL (k : Int)).head? = some s := by
  unfold fullQ at h
  have hsh : ∃ s R, (wordsL (k : Int)).head? = some s ∧ shapeF (k : Int) = .word (leadS (k : Int)) :: .kind 1 :: .kind 3 :: .kind 2 :: .word s :: R := by
    match k, h1, h6 with
    | 1, _, _ => exact ⟨_, _, rfl, rfl⟩
    | 2, _, _ => exact ⟨_, _, rfl, rfl⟩
    | 3, _, _ => exact ⟨_, _, rfl, rfl⟩
    | 4, _, _ => exact ⟨_, _, rfl, rfl⟩
    | 5, _, _ => exact ⟨_, _, rfl, rfl⟩
    | 6, _, _ => exact ⟨_, _, rfl, rfl⟩
  obtain ⟨s, R, hs, e⟩ := hsh
  rw [e] at h
  obtain ⟨t0, L1, rfl, a0, h⟩ := agreeF_cons h
  obtain ⟨t1, L2, rfl, a1, h⟩ := agreeF_cons h
  obtain ⟨t2, L3, rfl, a2, h⟩ := agreeF_cons h
  obtain ⟨t3, L4, rfl, a3, h⟩ := agreeF_cons h
  obtain ⟨t4, L5, rfl, a4, h⟩ := agreeF_cons h
  exact ⟨t0, t1, t2, t3, t4, L5, s, rfl, (fitsW a0).1, (fitsW a0).2, fitsK a1, fitsK a2, fitsK a3, (fitsW a4).1, (fitsW a4).2, hs⟩
theorem other5 {t0 t1 t2 t3 t4 : Tk} {M : List Tk} {j : Nat} (h1 : 1 ≤ j) (h6 : j ≤ 6) (h : t0.text ≠ ⟨(leadS (j : Int)).toArray⟩ ∨ ∀ s, (wordsL (j : Int)).head? = some s → t4.text ≠ ⟨s.toArray⟩) : ¬ fullQ (t0 :: t1 :: t2 :: t3 :: t4 :: M) (j : Int) ∧ agreeF (t0 :: t1 :: t2 :: t3 :: t4 :: M) (shapeF (j : Int)) ≤ 4 := by
  have hsh : ∃ s R, (wordsL (j : Int)).head? = some s ∧ shapeF (j : Int) = .word (leadS (j : Int)) :: .kind 1 :: .kind 3 :: .kind 2 :: .word s :: R := by
    match j, h1, h6 with
    | 1, _, _ => exact ⟨_, _, rfl, rfl⟩
    | 2, _, _ => exact ⟨_, _, rfl, rfl⟩
    | 3, _, _ => exact ⟨_, _, rfl, rfl⟩
    | 4, _, _ => exact ⟨_, _, rfl, rfl⟩
    | 5, _, _ => exact ⟨_, _, rfl, rfl⟩
    | 6, _, _ => exact ⟨_, _, rfl, rfl⟩
  obtain ⟨s, R, hs, e⟩ := hsh
  have hle : agreeF (t0 :: t1 :: t2 :: t3 :: t4 :: M) (shapeF (j : Int)) ≤ 4 := by
    rw [e]
    rcases h with h | h
    · have : Ft.fits t0 (.word (leadS (j : Int))) = false := by simp [Ft.fits, h]
      show (if _ then _ else _) ≤ _
      rw [if_neg (by rw [this]; decide)]; omega
    · have : Ft.fits t4 (.word s) = false := by simp [Ft.fits, h s hs]
      have h4 : agreeF (t4 :: M) (.word s :: R) = 0 := by
        show (if _ then _ else _) = _
        rw [if_neg (by rw [this]; decide)]
      have st : ∀ (t : Tk) (L : List Tk) (f : Ft) (F : List Ft), agreeF (t :: L) (f :: F) ≤ agreeF L F + 1 := fun t L f F => by
        show (if f.fits t = true then agreeF L F + 1 else 0) ≤ agreeF L F + 1
        split
        · exact Nat.le_refl _
        · exact Nat.zero_le _
      have a := st t0 (t1 :: t2 :: t3 :: t4 :: M) (.word (leadS (j : Int))) (.kind 1 :: .kind 3 :: .kind 2 :: .word s :: R)
      have b := st t1 (t2 :: t3 :: t4 :: M) (.kind 1) (.kind 3 :: .kind 2 :: .word s :: R)
      have c := st t2 (t3 :: t4 :: M) (.kind 3) (.kind 2 :: .word s :: R)
      have d := st t3 (t4 :: M) (.kind 2) (.word s :: R)
      omega
  refine ⟨fun hf => ?_, hle⟩
  unfold fullQ at hf
  rw [hf, e] at hle
  simp at hle
/-- Tokens that go on as one kind go on as no other one. -/
theorem others {L : List Tk} {K : Nat} (h1 : 1 ≤ K) (h6 : K ≤ 6) (h : fullQ L (K : Int)) : ∀ j : Nat, 1 ≤ j → j ≤ 6 → j ≠ K → ¬ fullQ L (j : Int) ∧ agreeF L (shapeF (j : Int)) ≤ 4 := by
  obtain ⟨t0, t1, t2, t3, t4, M, s, rfl, _, e0, _, _, _, _, e4, hs⟩ := first5 h1 h6 h
  intro j j1 j6 hne
  refine other5 j1 j6 ?_
  rw [e0]
  by_cases hl : leadS (K : Int) = leadS (j : Int)
  · right
    intro u hu
    rw [e4]
    intro hx
    have hsu : s = u := by
      have := congrArg (fun z : ByteArray => z.data.toList) hx
      simpa using this
    subst hsu
    have key : ∀ a b : Nat, 1 ≤ a → a ≤ 6 → 1 ≤ b → b ≤ 6 → (wordsL (a : Int)).head? = (wordsL (b : Int)).head? → a = b := by
      have : ∀ a : Fin 7, ∀ b : Fin 7, 1 ≤ a.1 → 1 ≤ b.1 → (wordsL (a.1 : Int)).head? = (wordsL (b.1 : Int)).head? → a.1 = b.1 := by decide +kernel
      intro a b a1 a6 b1 b6 e
      exact this ⟨a, by omega⟩ ⟨b, by omega⟩ a1 b1 e
    exact hne (key j K j1 j6 h1 h6 (by rw [hu, hs]))
  · left
    intro hx
    apply hl
    have := congrArg (fun z : ByteArray => z.data.toList) hx
    simpa using this
theorem readQ_far {L : List Tk} {K : Nat} (h1 : 1 ≤ K) (h6 : K ≤ 6) (h : fullQ L (K : Int)) : 5 ≤ (readQ (K : Int) L).2.1 := by
  have hl : 5 ≤ (shapeF (K : Int)).length := by
    match K, h1, h6 with
    | 1, _, _ => decide
    | 2, _, _ => decide
    | 3, _, _ => decide
    | 4, _, _ => decide
    | 5, _, _ => decide
    | 6, _, _ => decide
  unfold fullQ at h
  unfold readQ
  simp only []
  rw [if_pos h, h]
  show 5 ≤ (shapeF (K : Int)).length + _
  omega
theorem parseQ_at {L : List Tk} {K : Nat} (h1 : 1 ≤ K) (h6 : K ≤ 6) (h : fullQ L (K : Int)) : parseQ L = lastQ L (readQ (K : Int) L) := parseQ_full h1 h6 (others h1 h6 h) (readQ_far h1 h6 h)
/-- The document's way: the kinds behind the k-th, with how far was read. -/
def docQ (L : List Tk) : Nat → Nat → Nat → Qy × Int × Int
  | 0, _, f => if f = L.length then (zeroQ, (SynQ.behindOf L : Int), 3) else (zeroQ, (SynQ.colAt L f : Int), 2)
  | m + 1, k, f => if agreeF L (shapeF ((k + 1 : Nat) : Int)) < (shapeF ((k + 1 : Nat) : Int)).length then docQ L m (k + 1) (max f (agreeF L (shapeF ((k + 1 : Nat) : Int)))) else lastQ L (readQ ((k + 1 : Nat) : Int) L)
theorem bestQ_le (L : List Tk) : ∀ (m k f : Nat), f ≤ L.length → bestQ L m k f ≤ L.length
  | 0, _, f, h => h
  | m + 1, k, f, h => bestQ_le L m (k + 1) _ (by have := (agreeF_le L (shapeF ((k + 1 : Nat) : Int))).1; omega)
theorem docQ_none (L : List Tk) : ∀ (m k f : Nat), f ≤ L.length → (∀ j : Nat, k < j → j ≤ k + m → ¬ fullQ L (j : Int)) → docQ L m k f = (zeroQ, (placeOf L (bestQ L m k f) : Int), errOf L (bestQ L m k f))
  | 0, k, f, hf, h => by
    show (if _ then _ else _) = _
    unfold bestQ placeOf errOf
    by_cases e : f = L.length
    · rw [if_pos e, if_neg (by omega), if_neg (by omega)]
    · rw [if_neg e, if_pos (by omega), if_pos (by omega)]
  | m + 1, k, f, hf, h => by
    have hn := h (k + 1) (by omega) (by omega)
    have hle := agreeF_le L (shapeF ((k + 1 : Nat) : Int))
    unfold fullQ at hn
    show (if _ then _ else _) = _
    rw [if_pos (by omega)]
    unfold bestQ
    exact docQ_none L m (k + 1) _ (by omega) (fun j h1 h2 => h j (by omega) (by omega))
theorem docQ_full {L : List Tk} {K : Nat} (h : fullQ L (K : Int)) : ∀ (d m k f : Nat), k + d + 1 = K → (∀ j : Nat, k < j → j < K → ¬ fullQ L (j : Int)) → docQ L (d + m + 1) k f = lastQ L (readQ (K : Int) L)
  | 0, m, k, f, e, hn => by
    subst e
    have h' : ¬ (agreeF L (shapeF ((k + 1 : Nat) : Int)) < (shapeF ((k + 1 : Nat) : Int)).length) := by
      have : agreeF L (shapeF ((k + 1 : Nat) : Int)) = (shapeF ((k + 1 : Nat) : Int)).length := h
      omega
    rw [Nat.zero_add]
    show (if _ then _ else _) = _
    rw [if_neg h']
  | d + 1, m, k, f, e, hn => by
    have h1 := hn (k + 1) (by omega) (by omega)
    have hle := agreeF_le L (shapeF ((k + 1 : Nat) : Int))
    unfold fullQ at h1
    rw [show d + 1 + m + 1 = (d + m + 1) + 1 by omega]
    show (if _ then _ else _) = _
    rw [if_pos (by omega)]
    exact docQ_full h d m (k + 1) _ (by omega) (fun j a b => hn j (by omega) b)
/-- The document's way comes to what the program's way comes to. -/
theorem docQ_parseQ (L : List Tk) : docQ L 6 0 0 = parseQ L := by
  by_cases h : ∃ K : Nat, 1 ≤ K ∧ K ≤ 6 ∧ fullQ L (K : Int)
  · obtain ⟨K, h1, h6, hf⟩ := h
    rw [parseQ_at h1 h6 hf]
    have := docQ_full hf (K - 1) (6 - K) 0 0 (by omega) (fun j a b => (others h1 h6 hf j (by omega) (by omega) (by omega)).1)
    rw [show K - 1 + (6 - K) + 1 = 6 by omega] at this
    exact this
  · have hn : ∀ j : Nat, 1 ≤ j → j ≤ 6 → ¬ fullQ L (j : Int) := fun j a b c => h ⟨j, a, b, c⟩
    rw [parseQ_none hn]
    exact docQ_none L 6 0 0 (Nat.zero_le _) (fun j a b => hn j (by omega) (by omega))
end Go.Proofs.YtkmonmpfbchffaaGreat.QryM
/- The place behind a line, in the document's answers; the shapes of the tokens of lines. -/
namespace Go.Proofs.YtkmonmpfbchffaaGreat.SynK
set_option linter.unusedVariables false
set_option linter.unusedSimpArgs false
open Go.RowKit Go.Sort Go.Proofs Go.Proofs.YtkmonmpfbchffaaGreat.Plain Go.Proofs.YtkmonmpfbchffaaGreat.SynP Go.Proofs.YtkmonmpfbchffaaGreat.SynQ Go.Proofs.YtkmonmpfbchffaaGreat.Grown Go.Proofs.YtkmonmpfbchffaaGreat.SynA Go.Proofs.YtkmonmpfbchffaaGreat.Scan1 Go.Proofs.YtkmonmpfbchffaaGreat.Scan2 Go.Proofs.YtkmonmpfbchffaaGreat.Scan3 Go.Proofs.YtkmonmpfbchffaaGreat.SynG Go.Proofs.YtkmonmpfbchffaaGreat.SynH Go.Proofs.YtkmonmpfbchffaaGreat.SynR
set_option linter.unusedVariables false
set_option linter.unusedSimpArgs false
/-- How long a row of bytes is without the blanks at its end. -/
def endL (l : List UInt8) : Nat := (l.reverse.dropWhile (· == 32)).length
theorem endL_sp (l : List UInt8) : endL (l ++ [32]) = endL l := by unfold endL; simp
theorem endL_ne (l : List UInt8) {c : UInt8} (h : c ≠ 32) : endL (l ++ [c]) = l.length + 1 := by
  unfold endL
  simp [List.dropWhile_cons, h]
theorem take_last {l : List UInt8} {k : Nat} (h : k < l.length) : l.take (k + 1) = l.take k ++ [l[k]] := List.take_succ_eq_append_getElem h
theorem ne32_word {c : UInt8} (h : wordB c.toNat = true) : c ≠ 32 := by rintro rfl; exact absurd h (by decide)
theorem good_ne32 {t : Tk} (h : goodTk t) : ∀ c ∈ t.text.data.toList, c ≠ 32 := by
  have nm : ∀ {f : Int → Bool}, named f t.text.data.toList = true → ∀ c ∈ t.text.data.toList, c ≠ 32 := by
    intro f hn c hc
    unfold named at hn
    simp only [Bool.and_eq_true] at hn
    exact ne32_word (List.all_eq_true.1 hn.2 c hc)
  rcases h with ⟨_, h⟩ | ⟨_, h⟩ | ⟨_, h⟩ | ⟨_, h⟩ | ⟨_, h⟩
  · exact nm h
  · exact nm h
  · rw [h]; intro c hc; rcases (by simpa [dot] using hc : c = 46) with rfl; decide
  · rw [h]; intro c hc; rcases (by simpa [arrow] using hc : c = 60 ∨ c = 45) with rfl | rfl <;> decide
  · rw [h]; intro c hc; rcases (by simpa [amp] using hc : c = 38) with rfl; decide
theorem behind_snoc (L : List Tk) (t : Tk) : behindOf (L ++ [t]) = t.col + t.text.size := by unfold behindOf; simp
theorem run_end (s : ByteArray) : ∀ (n k : Nat) (L L' : List Tk), s.size - k ≤ n → k ≤ s.size → behindOf L = endL (s.data.toList.take k) + 1 → tkRun s k L = .ok L' → behindOf L' = endL s.data.toList + 1 := by
  intro n
  induction n with
  | zero =>
    intro k L L' hn hk hb hr
    rw [tkRun_end (by omega)] at hr
    injection hr with e
    subst e
    rw [hb, List.take_of_length_le (by rw [toList_len]; omega)]
  | succ n ih =>
    intro k L L' hn hk hb hr
    by_cases h : k < s.size
    · cases hs : tkStep s k h with
      | skip =>
        rw [tkRun_skip h hs] at hr
        refine ih (k + 1) L L' (by omega) (by omega) ?_ hr
        have h32 : s[k] = 32 := by
          unfold tkStep at hs
          split at hs
          · assumption
          split at hs
          · split at hs <;> cases hs
          split at hs
          · split at hs <;> cases hs
          split at hs
          · cases hs
          split at hs
          · cases hs
          split at hs <;> cases hs
        have e : s.data.toList[k]'(by rw [toList_len]; exact h) = 32 := h32
        rw [take_last (by rw [toList_len]; exact h), e, endL_sp, hb]
      | tok kind m =>
        rw [tkRun_tok h hs] at hr
        obtain ⟨hg, h2, h3⟩ := step_good h hs
        refine ih (k + m + 1) _ L' (by omega) (by omega) ?_ hr
        have hlt : k + m < s.data.toList.length := by rw [toList_len]; omega
        have hmem : s.data.toList[k + m] ∈ (s.extract k (k + (m + 1))).data.toList := by
          rw [ext_list]
          have : ((s.data.toList.drop k).take (m + 1))[m]? = some s.data.toList[k + m] := by
            rw [List.getElem?_take_of_lt (by omega), List.getElem?_drop, List.getElem?_eq_getElem hlt]
          exact List.mem_of_getElem? this
        rw [behind_snoc, take_last hlt, endL_ne _ (good_ne32 hg _ hmem), List.length_take_of_le (by omega)]
        show k + 1 + (s.extract k (k + (m + 1))).size = _
        rw [ByteArray.size_extract]; omega
      | bad e => rw [tkRun_bad h hs] at hr; cases hr
    · rw [tkRun_end h] at hr
      injection hr with e
      subst e
      rw [hb, List.take_of_length_le (by rw [toList_len]; omega)]
theorem ans_end {s : ByteArray} {L : List Tk} (h : ansOf s = .ok L) : behindOf L = endL (bare s).data.toList + 1 := by
  unfold ansOf at h
  split at h
  · cases h
  · exact run_end (bare s) (bare s).size 0 [] L (by omega) (by omega) rfl h
theorem toList_last {u : ByteArray} (h : 0 < u.size) : u.data.toList = (u.extract 0 (u.size - 1)).data.toList ++ [u[u.size - 1]] := by
  have e := take_last (l := u.data.toList) (k := u.size - 1) (by rw [toList_len]; omega)
  rw [show u.size - 1 + 1 = u.size by omega, List.take_of_length_le (by rw [toList_len]; omega)] at e
  have e2 := ext_list u 0 (u.size - 1)
  rw [Nat.zero_add, List.drop_zero] at e2
  rw [e2]; exact e
set_option maxRecDepth 100000 in
theorem endRef (s : ByteArray) (w : World) (hs : s.size ≤ 1000000) : Calls Tryz.prog 45 #[.string s] w fun e w' => e = .returned (.int .i64 (endL (bare s).data.toList + 1 : Nat)) ∧ w = w' := by
  have hbl := bare_le s
  go_enter Tryz.func45, Tryz.ntmps45
  go_wp2_with (go_at_call 46; refine (bareRef s _ (by unfold maxLen; omega)).mono ?_; rintro e w' ⟨rfl, rfl⟩)
  generalize hB : bare s = t at *
  have HB := Lib.hid hB
  clear hB
  go_loop [3] (fun v => ∃ u : ByteArray, v = .string u ∧ u.size ≤ 1000000 ∧ Hid (endL t.data.toList = endL u.data.toList)) (fun v => match v with | .string u => u.size | _ => 0)
  case atStart => exact ⟨t, rfl, by omega, Lib.hid rfl⟩
  case round =>
    obtain ⟨u, rfl, hu, hrun⟩ := hrel
    by_cases h0 : 0 < u.size
    · obtain ⟨m, hm⟩ : ∃ m, u.size = m + 1 := ⟨u.size - 1, by omega⟩
      have hml : m < u.size := by omega
      have hl : u.data.toList = (u.extract 0 m).data.toList ++ [u[m]] := by
        have e := take_last (l := u.data.toList) (k := m) (by rw [toList_len]; omega)
        rw [← hm, List.take_of_length_le (by rw [toList_len]; omega)] at e
        have e2 := ext_list u 0 m
        rw [Nat.zero_add, List.drop_zero] at e2
        rw [e2]; exact e
      have hes : (u.extract 0 m).size = m := by rw [ByteArray.size_extract]; omega
      by_cases h32 : u[m] = 32
      · have hnext : Hid (endL t.data.toList = endL (u.extract 0 m).data.toList) := Lib.hid (by rw [hrun.out, hl, h32, endL_sp])
        have e32 : ((u[m].toNat : Int) == 32) = true := i8_eq (n := 32) rfl h32
        have hle : Hid ((u.extract 0 m).size ≤ 1000000) := Lib.hid (by omega)
        have hlt : Hid ((u.extract 0 m).size < u.size) := Lib.hid (by omega)
        clear hrun hl h32 hes
        go_wp2_with fail
        exact ⟨⟨_, rfl, hle.out, hnext⟩, hlt.out⟩
      · have hfin : Hid (endL t.data.toList = m + 1) := Lib.hid (by rw [hrun.out, hl, endL_ne _ h32, toList_len, hes])
        have e32 : ((u[m].toNat : Int) == 32) = false := i8_ne (n := 32) rfl h32
        clear hrun hl h32 hes
        go_wp2_with fail
        go_ret
        exact ⟨ret_int (by rw [HB.out, hfin.out]; rfl), rfl⟩
    · have hfin : Hid (endL t.data.toList = 0) := Lib.hid (by
        rw [hrun.out]
        have : u.data.toList = [] := List.eq_nil_of_length_eq_zero (by rw [toList_len]; omega)
        rw [this]; rfl)
      have hz : u.size = 0 := by omega
      clear hrun
      go_wp2_with fail
      go_ret
      exact ⟨ret_int (by rw [HB.out, hfin.out]; rfl), rfl⟩
end Go.Proofs.YtkmonmpfbchffaaGreat.SynK
/- A line as a query, in the document's answers, by contract. -/
namespace Go.Proofs.YtkmonmpfbchffaaGreat.QryRp
set_option linter.unusedVariables false
set_option linter.unusedSimpArgs false
open Go.Proofs.YtkmonmpfbchffaaGreat.QryE Go.Proofs.YtkmonmpfbchffaaGreat.Scan4 Go.Proofs.YtkmonmpfbchffaaGreat.QryM Go.RowKit Go.Sort Go.Proofs Go.Proofs.YtkmonmpfbchffaaGreat.Plain Go.Proofs.YtkmonmpfbchffaaGreat.SynP Go.Proofs.YtkmonmpfbchffaaGreat.SynQ Go.Proofs.YtkmonmpfbchffaaGreat.TabP Go.Proofs.YtkmonmpfbchffaaGreat.Tab1 Go.Proofs.YtkmonmpfbchffaaGreat.Grown Go.Proofs.YtkmonmpfbchffaaGreat.Scan3 Go.Proofs.YtkmonmpfbchffaaGreat.SynA Go.Proofs.YtkmonmpfbchffaaGreat.SynC Go.Proofs.YtkmonmpfbchffaaGreat.SynR Go.Proofs.YtkmonmpfbchffaaGreat.SynS Go.Proofs.YtkmonmpfbchffaaGreat.SynU Go.Proofs.YtkmonmpfbchffaaGreat.SynV Go.Proofs.YtkmonmpfbchffaaGreat.SynX Go.Proofs.YtkmonmpfbchffaaGreat.QryP Go.Proofs.YtkmonmpfbchffaaGreat.Qry4 Go.Proofs.YtkmonmpfbchffaaGreat.Qry5 Go.Proofs.YtkmonmpfbchffaaGreat.Qry6 Go.Proofs.YtkmonmpfbchffaaGreat.Qry7 Go.Proofs.YtkmonmpfbchffaaGreat.QryA Go.Proofs.YtkmonmpfbchffaaGreat.QryB Go.Proofs.YtkmonmpfbchffaaGreat.QryC Go.Proofs.YtkmonmpfbchffaaGreat.QryD
set_option linter.unusedVariables false
set_option linter.unusedSimpArgs false
set_option maxHeartbeats 1000000 in
set_option maxRecDepth 100000 in
theorem parseRef_bad (s : ByteArray) (w : World) (hs : s.size ≤ 1000000) (c : Nat) (er : Int) (h : ansOf s = .bad c er) : Calls Tryz.prog 10 #[.string s] w (AskPost (askA (.bad c er)) w) := by
  have HT := Lib.hid (tokensRef s · hs)
  rw [h] at HT
  have he := ans_bad h
  have e1 : (er != 0) = true := by rcases he with rfl | rfl <;> rfl
  have HZ := Lib.hid (show (askA (.bad c er)).1.val none 0 = .agg #[.int .i64 0, .string ⟨#[]⟩, .string ⟨#[]⟩, .string ⟨#[]⟩, .string ⟨#[]⟩, .slice none 0 0] from rfl)
  clear h he
  go_enter Tryz.func10, Tryz.ntmps10
  go_wp2_with fail
  refine (HT.out _).mono ?_
  rintro e w1 ⟨v, rfl, hown, hb1⟩
  have bR := blk_below (heap_alloc_new w zero6) hb1 (by simp)
  unfold zero6 at bR
  have hcR := fun o => Lib.cell_of_heap bR o
  have hfR := blk_frozen bR
  have hb0 := ((Below.refl w.heap.size w).alloc (Nat.le_refl _) zero6).trans (hb1.mono (by simp))
  have gc := set_cell
  simp only [okErr, okCol]
  clear hown bR hb1
  go_wp2_with fail
  refine bodyPost_ret (v := .tuple #[.agg #[.int .i64 0, .string ⟨#[]⟩, .string ⟨#[]⟩, .string ⟨#[]⟩, .string ⟨#[]⟩, .slice none 0 0], .int .i64 c, .int .i64 er]) (by simp [results, Tryz.results10, go_sem, set6, hcR]) rfl ⟨none, 0, by rw [HZ.out]; rfl, (fun h => by simp [askA, zeroQ] at h), (fun g o e => by cases e), ?_⟩
  exact (((((hb0.setCell (by simp) _).setCell (by simp) _).setCell (by simp) _).setCell (by simp) _).setCell (by simp) _).setCell (by simp) _
end Go.Proofs.YtkmonmpfbchffaaGreat.QryRp
/- Plain mathematics: what a kind that a line's tokens go on as comes to, in the document's words. -/
namespace Go.Proofs.YtkmonmpfbchffaaGreat.QryRm
set_option linter.unusedVariables false
set_option linter.unusedSimpArgs false
open Go.RowKit Go.Sort Go.Proofs.YtkmonmpfbchffaaGreat.Plain Go.Proofs.YtkmonmpfbchffaaGreat.SynP Go.Proofs.YtkmonmpfbchffaaGreat.TabP Go.Proofs.YtkmonmpfbchffaaGreat.SynR Go.Proofs.YtkmonmpfbchffaaGreat.SynV Go.Proofs.YtkmonmpfbchffaaGreat.SynZ Go.Proofs.YtkmonmpfbchffaaGreat.QryP Go.Proofs.YtkmonmpfbchffaaGreat.Qry4 Go.Proofs.YtkmonmpfbchffaaGreat.Qry5 Go.Proofs.YtkmonmpfbchffaaGreat.Qry7 Go.Proofs.YtkmonmpfbchffaaGreat.QryA Go.Proofs.YtkmonmpfbchffaaGreat.QryB Go.Proofs.YtkmonmpfbchffaaGreat.QryC Go.Proofs.YtkmonmpfbchffaaGreat.QryD Go.Proofs.YtkmonmpfbchffaaGreat.QryM
theorem good1 {t : Tk} (h : goodTk t) (k : t.kind = 1) : named capB t.text.data.toList = true := by
  rcases h with h | h | h | h | h
  · exact h.2
  all_goals (have := h.1; omega)
theorem good2 {t : Tk} (h : goodTk t) (k : t.kind = 2) : named smallB t.text.data.toList = true := by
  rcases h with h | h | h | h | h
  · have := h.1; omega
  · exact h.2
  all_goals (have := h.1; omega)
theorem readW_lt : ∀ (L : List Tk) (T : List Str), (readW L T).2.2 = true → (readW L T).2.1 < L.length
  | [], T, h => by simp [readW] at h
  | t :: L, T, h => by
    unfold readW at h ⊢
    by_cases hk : t.kind = 1
    · rw [if_pos hk] at h ⊢
      by_cases hs : strOf t.text ∈ T
      · rw [if_pos hs] at h ⊢
        have := readW_lt L T h
        simp; omega
      · rw [if_neg hs] at h ⊢
        by_cases h12 : T.length = 12
        · rw [if_pos h12]; simp
        · rw [if_neg h12] at h ⊢
          have := readW_lt L _ h
          simp; omega
    · rw [if_neg hk] at h
      simp at h
theorem who_ok {L : List Tk} (hg : ∀ t ∈ L, goodTk t) : whoOk (readW L []).1 = true := by
  obtain ⟨a, b, _, d⟩ := readW_ok L [] (by simp) List.Pairwise.nil
  unfold whoOk
  have h1 : (readW L []).1.all prinS = true := by
    rw [List.all_eq_true]
    intro s hs
    rcases d s hs with h | ⟨t, ht, hk, rfl⟩
    · simp at h
    · exact good1 (hg t ht) hk
  rw [h1, decide_eq_true a, decide_eq_true (tab_id.2 b)]; rfl
theorem hit8 {k : Int} (hk : k = 5 ∨ k = 6) {L : List Tk} (hg : ∀ t ∈ L, goodTk t) (h : agreeF L (shapeF k) = (shapeF k).length) : agreeF L (shapeF k) = 8 ∧ 8 ≤ L.length ∧ lastQ L (readQ k L) = if 8 < L.length then (zeroQ, (SynQ.colAt L 8 : Int), 2) else (⟨k, ⟨textAt L 1, textAt L 3⟩, ⟨textAt L 5, textAt L 7⟩, []⟩, 0, 0) := by
  obtain ⟨s, hw, hsh, hB, hW⟩ := shape8 hk
  have h0 := h
  have hm : (shapeF k).length = 8 := by rw [hsh]; rfl
  rw [hsh] at h
  obtain ⟨t0, L1, rfl, a0, h⟩ := agreeF_cons h
  obtain ⟨t1, L2, rfl, a1, h⟩ := agreeF_cons h
  obtain ⟨t2, L3, rfl, a2, h⟩ := agreeF_cons h
  obtain ⟨t3, L4, rfl, a3, h⟩ := agreeF_cons h
  obtain ⟨t4, L5, rfl, a4, h⟩ := agreeF_cons h
  obtain ⟨t5, L6, rfl, a5, h⟩ := agreeF_cons h
  obtain ⟨t6, L7, rfl, a6, h⟩ := agreeF_cons h
  obtain ⟨t7, M, rfl, a7, h⟩ := agreeF_cons h
  have h8 : agreeF (t0 :: t1 :: t2 :: t3 :: t4 :: t5 :: t6 :: t7 :: M) (shapeF k) = 8 := by rw [h0, hm]
  refine ⟨h8, by simp, ?_⟩
  rw [read8_eq hk h8]
  have hr : Qy.right ⟨k, ⟨t1.text, t3.text⟩, ⟨t5.text, t7.text⟩, []⟩ = true := by
    have r1 := good1 (hg t1 (by simp)) (fitsK a1)
    have r3 := good2 (hg t3 (by simp)) (fitsK a3)
    have r5 := good1 (hg t5 (by simp)) (fitsK a5)
    have r7 := good2 (hg t7 (by simp)) (fitsK a7)
    rcases hk with rfl | rfl <;> simp [Qy.right, Rl.ok, r1, r3, r5, r7]
  have hl : (t0 :: t1 :: t2 :: t3 :: t4 :: t5 :: t6 :: t7 :: M).length = M.length + 8 := rfl
  rw [hl, hr]
  unfold lastQ placeOf
  rw [hl]
  by_cases hlt : 8 < M.length + 8
  · simp [hlt]
  · simp [hlt]; exact ⟨⟨rfl, rfl⟩, rfl, rfl⟩
theorem hit4 {L : List Tk} (hg : ∀ t ∈ L, goodTk t) (h : agreeF L (shapeF 4) = (shapeF 4).length) : agreeF L (shapeF 4) = 6 ∧ 6 ≤ L.length ∧ lastQ L (readQ 4 L) = if 6 < L.length then (zeroQ, (SynQ.colAt L 6 : Int), 2) else (⟨4, ⟨textAt L 1, textAt L 3⟩, zeroR, []⟩, 0, 0) := by
  obtain ⟨hsh, hB, hW⟩ := shape4
  have h0 := h
  have hm : (shapeF 4).length = 6 := by rw [hsh]; rfl
  rw [hsh] at h
  obtain ⟨t0, L1, rfl, a0, h⟩ := agreeF_cons h
  obtain ⟨t1, L2, rfl, a1, h⟩ := agreeF_cons h
  obtain ⟨t2, L3, rfl, a2, h⟩ := agreeF_cons h
  obtain ⟨t3, L4, rfl, a3, h⟩ := agreeF_cons h
  obtain ⟨t4, L5, rfl, a4, h⟩ := agreeF_cons h
  obtain ⟨t5, M, rfl, a5, h⟩ := agreeF_cons h
  have h6 : agreeF (t0 :: t1 :: t2 :: t3 :: t4 :: t5 :: M) (shapeF 4) = 6 := by rw [h0, hm]
  refine ⟨h6, by simp, ?_⟩
  rw [read4_eq h6]
  have hr : Qy.right ⟨4, ⟨t1.text, t3.text⟩, zeroR, []⟩ = true := by
    have r1 := good1 (hg t1 (by simp)) (fitsK a1)
    have r3 := good2 (hg t3 (by simp)) (fitsK a3)
    simp [Qy.right, Rl.ok, r1, r3]
  have hl : (t0 :: t1 :: t2 :: t3 :: t4 :: t5 :: M).length = M.length + 6 := rfl
  rw [hl, hr]
  unfold lastQ placeOf
  rw [hl]
  by_cases hlt : 6 < M.length + 6
  · simp [hlt]
  · simp [hlt]; exact ⟨rfl, rfl⟩
theorem hit3 {k : Int} (hk : k = 1 ∨ k = 2 ∨ k = 3) {L : List Tk} (hg : ∀ t ∈ L, goodTk t) (h : agreeF L (shapeF k) = (shapeF k).length) : agreeF L (shapeF k) = 5 ∧ 5 ≤ L.length ∧ lastQ L (readQ k L) = if (readW (L.drop 5) []).2.2 = true then (zeroQ, (SynQ.colAt L (5 + (readW (L.drop 5) []).2.1) : Int), 5) else if 5 + (readW (L.drop 5) []).2.1 < L.length then (zeroQ, (SynQ.colAt L (5 + (readW (L.drop 5) []).2.1) : Int), 2) else if k ≤ 2 ∧ (readW (L.drop 5) []).1.length = 0 then (zeroQ, (SynQ.behindOf L : Int), 3) else (⟨k, ⟨textAt L 1, textAt L 3⟩, zeroR, (readW (L.drop 5) []).1⟩, 0, 0) := by
  obtain ⟨s, hw, hsh, hB, hW⟩ := shape3 hk
  have h0 := h
  have hm : (shapeF k).length = 5 := by rw [hsh]; rfl
  rw [hsh] at h
  obtain ⟨t0, L1, rfl, a0, h⟩ := agreeF_cons h
  obtain ⟨t1, L2, rfl, a1, h⟩ := agreeF_cons h
  obtain ⟨t2, L3, rfl, a2, h⟩ := agreeF_cons h
  obtain ⟨t3, L4, rfl, a3, h⟩ := agreeF_cons h
  obtain ⟨t4, M, rfl, a4, h⟩ := agreeF_cons h
  have h5 : agreeF (t0 :: t1 :: t2 :: t3 :: t4 :: M) (shapeF k) = 5 := by rw [h0, hm]
  refine ⟨h5, by simp, ?_⟩
  rw [read3_eq hk h5]
  have hd : (t0 :: t1 :: t2 :: t3 :: t4 :: M).drop 5 = M := rfl
  have hl : (t0 :: t1 :: t2 :: t3 :: t4 :: M).length = M.length + 5 := rfl
  rw [hd, hl]
  have hlt := readW_lt M []
  have hle := (readW_ok M [] (by simp) List.Pairwise.nil).2.2.1
  have hwo := who_ok (L := M) (fun t ht => hg t (by simp [ht]))
  have r1 := good1 (hg t1 (by simp)) (fitsK a1)
  have r3 := good2 (hg t3 (by simp)) (fitsK a3)
  have hr : Qy.right ⟨k, ⟨t1.text, t3.text⟩, zeroR, (readW M []).1⟩ = !decide (k ≤ 2 ∧ (readW M []).1.length = 0) := by
    rcases hk with rfl | rfl | rfl <;> simp [Qy.right, Rl.ok, r1, r3, hwo, Nat.pos_iff_ne_zero]
  rw [hr]
  unfold lastQ placeOf
  rw [hl]
  generalize (readW M []).1 = T at *
  generalize (readW M []).2.1 = d at *
  generalize (readW M []).2.2 = m at *
  cases m
  · by_cases h1 : 5 + d < M.length + 5
    · simp [h1]
    · simp only [Bool.false_eq_true, if_false, if_neg h1]
      by_cases h2 : k ≤ 2 ∧ T.length = 0
      · rw [decide_eq_true h2, if_pos h2]; rfl
      · rw [decide_eq_false h2, if_neg h2]; rfl
  · have := hlt rfl
    simp only [if_true]
    rw [if_neg (by decide), if_pos (by omega)]
theorem putL_told {T : List Str} {s : Str} (h : s ∈ T) : Tab4.putL T s = T := by unfold Tab4.putL; rw [if_pos h]
theorem putL_new {T : List Str} {s : Str} (hT : T.Pairwise (· < ·)) (h : s ∉ T) : Tab4.putL T s = Qry8.putIn T s := by
  obtain ⟨a, b⟩ := Tab5.putL_rising (s := s) hT
  refine eq_of_rising a (Qry8.putIn_rising hT h) fun x => ?_
  rw [b, Qry8.mem_putIn, or_comm]
section
variable {k : Int} (hk : k = 1 ∨ k = 2 ∨ k = 3) {L : List Tk} (hg : ∀ t ∈ L, goodTk t) (h : agreeF L (shapeF k) = (shapeF k).length) {T : List Str} {m : Nat} (hm : 5 ≤ m)
include hk hg h hm
theorem fin3_many (hr : readW (L.drop 5) [] = addN (T, 0, true) (m - 5)) : lastQ L (readQ k L) = (zeroQ, (SynQ.colAt L m : Int), 5) := by
  rw [(hit3 hk hg h).2.2, hr]
  unfold addN
  simp only [if_true]
  rw [show 5 + (0 + (m - 5)) = m by omega]
theorem fin3_form (hr : readW (L.drop 5) [] = addN (T, 0, false) (m - 5)) (hlt : m < L.length) : lastQ L (readQ k L) = (zeroQ, (SynQ.colAt L m : Int), 2) := by
  rw [(hit3 hk hg h).2.2, hr]
  unfold addN
  simp only [Bool.false_eq_true, if_false]
  rw [show 5 + (0 + (m - 5)) = m by omega, if_pos hlt]
theorem fin3_end (hr : readW (L.drop 5) [] = addN (T, 0, false) (m - 5)) (hlt : ¬ m < L.length) (h0 : k ≤ 2 ∧ T.length = 0) : lastQ L (readQ k L) = (zeroQ, (SynQ.behindOf L : Int), 3) := by
  rw [(hit3 hk hg h).2.2, hr]
  unfold addN
  simp only [Bool.false_eq_true, if_false]
  rw [show 5 + (0 + (m - 5)) = m by omega, if_neg hlt, if_pos h0]
theorem fin3_ok (hr : readW (L.drop 5) [] = addN (T, 0, false) (m - 5)) (hlt : ¬ m < L.length) (h0 : ¬ (k ≤ 2 ∧ T.length = 0)) : lastQ L (readQ k L) = (⟨k, ⟨textAt L 1, textAt L 3⟩, zeroR, T⟩, 0, 0) := by
  rw [(hit3 hk hg h).2.2, hr]
  unfold addN
  simp only [Bool.false_eq_true, if_false]
  rw [show 5 + (0 + (m - 5)) = m by omega, if_neg hlt, if_neg h0]
end
end Go.Proofs.YtkmonmpfbchffaaGreat.QryRm
/- Plain mathematics: the lines of queries. -/
namespace Go.Proofs.YtkmonmpfbchffaaGreat.QryL
set_option linter.unusedVariables false
set_option linter.unusedSimpArgs false
open Go.RowKit Go.Sort Go.Proofs.YtkmonmpfbchffaaGreat.Plain Go.Proofs.YtkmonmpfbchffaaGreat.SynP Go.Proofs.YtkmonmpfbchffaaGreat.TabP Go.Proofs.YtkmonmpfbchffaaGreat.SynW Go.Proofs.YtkmonmpfbchffaaGreat.QryP
def bs (x : ByteArray) : Str := x.data.toList
/-- Texts, each with a blank ahead. -/
def tailW (T : List Str) : Str := (T.map fun s => 32 :: s).flatten
/-- A query's line, if it may be. -/
def lineL (q : Qy) : Str := bs (leadT q.kind) ++ tailW [bs (textR q.a)] ++ (32 :: bs (wordsT q.kind)) ++ (if hasBk q.kind = true then tailW [bs (textR q.b)] else []) ++ tailW q.who
def lineQ (q : Qy) : ByteArray := if q.right = true then ⟨(lineL q).toArray⟩ else noText
theorem tailW_nil : tailW [] = [] := rfl
theorem tailW_app (S T : List Str) : tailW (S ++ T) = tailW S ++ tailW T := by unfold tailW; rw [List.map_append, List.flatten_append]
theorem tailW_cons (s : Str) (T : List Str) : tailW (s :: T) = 32 :: s ++ tailW T := rfl
theorem join_tail (x : Str) : ∀ T : List Str, Lib.join (x :: T) [32] = x ++ tailW T
  | [] => by rw [Lib.join_one, tailW_nil, List.append_nil]
  | y :: T => by
    have ih := join_tail y T
    have e : Lib.join (x :: y :: T) [32] = x ++ ([32] ++ Lib.join (y :: T) [32]) := by
      unfold Lib.join; rw [List.intercalate_cons_cons]; simp
    rw [e, ih, tailW_cons]; simp
/-- The words of a kind that is one, each with a blank ahead. -/
theorem words_tail {k : Int} (h : k = 1 ∨ k = 2 ∨ k = 3 ∨ k = 4 ∨ k = 5 ∨ k = 6) : tailW (wordsL k) = 32 :: bs (wordsT k) := by
  rcases h with rfl | rfl | rfl | rfl | rfl | rfl <;> rfl
theorem right_kind {q : Qy} (h : q.right = true) : q.kind = 1 ∨ q.kind = 2 ∨ q.kind = 3 ∨ q.kind = 4 ∨ q.kind = 5 ∨ q.kind = 6 := by
  rcases kinds6 q.kind with h1 | h1 | h1 | h1 | h1 | h1 | h1
  · exact .inl h1
  · exact .inr (.inl h1)
  · exact .inr (.inr (.inl h1))
  · exact .inr (.inr (.inr (.inl h1)))
  · exact .inr (.inr (.inr (.inr (.inl h1))))
  · exact .inr (.inr (.inr (.inr (.inr h1))))
  · unfold Qy.right at h
    rw [if_neg (by omega), if_neg (by omega), if_neg (by omega), if_neg (by omega)] at h
    simp at h
/-- What a query that may be is made of. -/
theorem right_parts {q : Qy} (h : q.right = true) : q.a.ok = true ∧ ((hasWk q.kind = true ∧ hasBk q.kind = false ∧ whoOk q.who = true ∧ q.b = zeroR ∧ (q.kind ≠ 3 → 0 < q.who.length)) ∨ (q.kind = 4 ∧ q.who = [] ∧ q.b = zeroR) ∨ (hasBk q.kind = true ∧ hasWk q.kind = false ∧ q.who = [] ∧ q.b.ok = true)) := by
  obtain ⟨k, a, b, T⟩ := q
  have hk := right_kind h
  unfold Qy.right at h
  rw [Bool.and_eq_true] at h
  refine ⟨h.1, ?_⟩
  have h2 := h.2
  simp only at hk h2 ⊢
  rcases hk with rfl | rfl | rfl | rfl | rfl | rfl
  · simp at h2
    exact .inl ⟨rfl, rfl, h2.1.2, h2.2, fun _ => h2.1.1⟩
  · simp at h2
    exact .inl ⟨rfl, rfl, h2.1.2, h2.2, fun _ => h2.1.1⟩
  · simp at h2
    exact .inl ⟨rfl, rfl, h2.1, h2.2, fun h => absurd rfl h⟩
  · simp at h2
    exact .inr (.inl ⟨rfl, h2.1, h2.2⟩)
  · simp at h2
    exact .inr (.inr ⟨rfl, rfl, h2.1, h2.2⟩)
  · simp at h2
    exact .inr (.inr ⟨rfl, rfl, h2.1, h2.2⟩)
theorem who_parts {T : List Str} (h : whoOk T = true) : T.length ≤ 12 ∧ (∀ s ∈ T, prinS s = true) ∧ T.Pairwise (· < ·) := by
  unfold whoOk at h
  simp only [Bool.and_eq_true, decide_eq_true_eq, List.all_eq_true] at h
  exact ⟨h.1.1, h.1.2, tab_id.1 h.2⟩
theorem prin_len {s : Str} (h : prinS s = true) : s.length ≤ 8 := by
  obtain ⟨c, l, e, _, _, _, h8, _⟩ := named_cons (w := ⟨s.toArray⟩) (f := capB) (by simpa [prinS] using h)
  have : (⟨s.toArray⟩ : ByteArray).size = s.length := by simp [ByteArray.size]
  omega
theorem tailW_len {T : List Str} {m : Nat} (h : ∀ s ∈ T, s.length ≤ m) : (tailW T).length ≤ T.length * (m + 1) := by
  induction T with
  | nil => simp [tailW]
  | cons s T ih =>
    rw [tailW_cons]
    have h1 := h s (List.mem_cons_self ..)
    have h2 := ih fun s hs => h s (List.mem_cons_of_mem _ hs)
    simp only [List.length_append, List.length_cons]
    rw [Nat.add_mul]; omega
end Go.Proofs.YtkmonmpfbchffaaGreat.QryL
