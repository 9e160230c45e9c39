/- Principals put in by the library's search and Insert: what a row of texts is behind it. -/
import Derived.Test.YtpjacngbkohmdaaM12
import Derived.Test.YtpjacngbkohmdaaM13
import Derived.Test.YtpjacngbkohmdaaMore
import Derived.Shelf.SlSortFuncK.RowK2
import Derived.Lib.LazyBuf
import Derived.Test.YtpjacngbkohmdaaM14
import Derived.OwnWalk
import Derived.Test.YtpjacngbkohmdaaM15
import Derived.Test.YtpjacngbkohmdaaM10
import Derived.Test.YtpjacngbkohmdaaM01
namespace Go.Proofs.Ytpjacngbkohmdaa.Qry8
set_option linter.unusedVariables false
set_option linter.unusedSimpArgs false
open Go.RowKit Go.Sort Go.Proofs Go.Proofs.Ytpjacngbkohmdaa.Plain Go.Proofs.Ytpjacngbkohmdaa.SynP Go.Proofs.Ytpjacngbkohmdaa.TabP Go.Proofs.Ytpjacngbkohmdaa.Tab1 Go.Proofs.Ytpjacngbkohmdaa.QryP
set_option linter.unusedVariables false
set_option linter.unusedSimpArgs false
/-- How many of a rising row stand ahead of a text. -/
def posOf (T : List Str) (s : Str) : Nat := T.findIdx fun y => decide (¬ y < s)
theorem pos_le (T : List Str) (s : Str) : posOf T s ≤ T.length := List.findIdx_le_length
theorem pos_lt {T : List Str} {s : Str} {t : Nat} (h : t < posOf T s) (ht : t < T.length) : T[t] < s := by
  have := List.not_of_lt_findIdx h
  simpa using this
theorem pos_ge {T : List Str} {s : Str} (hT : T.Pairwise (· < ·)) {t : Nat} (h : posOf T s ≤ t) (ht : t < T.length) : ¬ T[t] < s := by
  have hk : posOf T s < T.length := by omega
  have h0 : ¬ T[posOf T s] < s := by
    have := List.findIdx_getElem (xs := T) (p := fun y => decide (¬ y < s)) (w := hk)
    simpa [posOf] using this
  rcases Nat.lt_or_ge (posOf T s) t with hlt | hge
  · intro hc
    exact h0 (List.lt_trans ((List.pairwise_iff_getElem.1 hT) _ _ hk ht hlt) hc)
  · have : t = posOf T s := by omega
    subst this; exact h0
theorem pos_mem {T : List Str} {s : Str} (hT : T.Pairwise (· < ·)) : (∃ h : posOf T s < T.length, T[posOf T s] = s) ↔ s ∈ T := by
  constructor
  · rintro ⟨h, e⟩; rw [← e]; exact List.getElem_mem _
  · intro hs
    obtain ⟨j, hj, e⟩ := List.getElem_of_mem hs
    have h1 : posOf T s = j := by
      rcases Nat.lt_trichotomy (posOf T s) j with h | h | h
      · have hp : posOf T s < T.length := by omega
        have a := pos_ge hT (Nat.le_refl _) hp (s := s)
        have b := (List.pairwise_iff_getElem.1 hT) _ _ hp hj h
        rw [e] at b
        exact absurd b a
      · exact h
      · have := pos_lt h hj
        rw [e] at this
        exact absurd this (List.lt_irrefl _)
    subst h1
    exact ⟨hj, e⟩
/-- A text put in its place. -/
def putIn (T : List Str) (s : Str) : List Str := T.take (posOf T s) ++ s :: T.drop (posOf T s)
theorem mem_putIn (T : List Str) (s x : Str) : x ∈ putIn T s ↔ x = s ∨ x ∈ T := by
  unfold putIn
  rw [List.mem_append, List.mem_cons]
  have : x ∈ T ↔ x ∈ T.take (posOf T s) ∨ x ∈ T.drop (posOf T s) := by rw [← List.mem_append, List.take_append_drop]
  rw [this]
  constructor
  · rintro (h | h | h)
    · exact .inr (.inl h)
    · exact .inl h
    · exact .inr (.inr h)
  · rintro (h | h | h)
    · exact .inr (.inl h)
    · exact .inl h
    · exact .inr (.inr h)
theorem le_total' {a b : Str} (h : ¬ a < b) (hne : a ≠ b) : b < a := by
  by_cases h1 : b < a
  · exact h1
  · exact absurd (List.le_antisymm (List.not_lt.1 h1) (List.not_lt.1 h)) hne
theorem putIn_rising {T : List Str} {s : Str} (hT : T.Pairwise (· < ·)) (hs : s ∉ T) : (putIn T s).Pairwise (· < ·) := by
  unfold putIn
  rw [List.pairwise_append]
  refine ⟨hT.sublist (List.take_sublist _ _), List.pairwise_cons.2 ⟨fun x hx => ?_, hT.sublist (List.drop_sublist _ _)⟩, fun x hx y hy => ?_⟩
  · obtain ⟨j, hj, rfl⟩ := List.getElem_of_mem hx
    rw [List.getElem_drop]
    rw [List.length_drop] at hj
    exact le_total' (pos_ge hT (by omega) (by omega)) (fun e => hs (by rw [← e]; exact List.getElem_mem _))
  · obtain ⟨i, hi, rfl⟩ := List.getElem_of_mem hx
    rw [List.getElem_take]
    rw [List.length_take] at hi
    have a := pos_lt (T := T) (s := s) (t := i) (by omega) (by omega)
    rcases List.mem_cons.1 hy with rfl | hy
    · exact a
    · obtain ⟨j, hj, rfl⟩ := List.getElem_of_mem hy
      rw [List.getElem_drop]
      rw [List.length_drop] at hj
      exact (List.pairwise_iff_getElem.1 hT) _ _ _ _ (by omega)
theorem putIn_tab {T : List Str} {s : Str} (hT : T.Pairwise (· < ·)) (hs : s ∉ T) : putIn T s = tab (T ++ [s]) :=
  eq_of_rising (putIn_rising hT hs) (tab_sorted _) fun x => by
    rw [mem_putIn, mem_tab, List.mem_append, List.mem_singleton, or_comm]
theorem putIn_len (T : List Str) (s : Str) : (putIn T s).length = T.length + 1 := by
  have := pos_le T s
  unfold putIn; simp; omega
/-- A row from its cells. -/
theorem own_of {w : World} {B g n cap : Nat} {e : TypeId} {cur : Array Value} {xs : List Value} (hB : B ≤ g) (hh : w.heap[g]? = some (.cells cur e (0, 0))) (hs : cur.size = cap) (hn : n ≤ cap) (hm : cap ≤ maxLen) (hl : xs.length = n) (hc : ∀ j u, xs[j]? = some u → w.cell? ⟨g, j, none⟩ = some u) : w.ownsRow B e 1 (.slice (some ⟨g, 0, none⟩) n cap) n xs := by
  refine ⟨by omega, .inr ⟨g, cap, cur, rfl, hB, hh, hn, hm, by omega, ?_⟩⟩
  apply List.ext_getElem?
  intro j
  by_cases hj : j < n
  · rw [List.getElem?_take_of_lt (by omega)]
    have hj2 : j < xs.length := by omega
    have q := hc j xs[j] (List.getElem?_eq_getElem hj2)
    rw [Lib.cell_of_heap hh] at q
    rw [Array.getElem?_toList, q, List.getElem?_eq_getElem hj2]
  · rw [List.getElem?_eq_none (by rw [List.length_take]; omega), List.getElem?_eq_none (by omega)]
theorem heap_setCells {b : Nat} {e : TypeId} {f : Nat × Nat} : ∀ (vs : List Value) (o : Nat) (w : World) (c : Array Value), w.heap[b]? = some (.cells c e f) → ∃ c', (w.setCells b o vs).heap[b]? = some (.cells c' e f) ∧ c'.size = c.size
  | [], _, _, c, h => ⟨c, h, rfl⟩
  | v :: r, o, w, c, h => by
    have h1 : (w.setCell ⟨b, o, none⟩ v).heap[b]? = some (.cells (c.setIfInBounds o v) e f) := by
      unfold World.setCell
      simp [Array.getElem?_modify, h]
    obtain ⟨c', h2, h3⟩ := heap_setCells r (o + 1) _ _ h1
    exact ⟨c', h2, by rw [h3]; simp⟩
/-- What the row of texts is that slices.Insert leaves. -/
def InsPost (B : Nat) (T : List Str) (s : Str) (w : World) (e : Ending) (w' : World) : Prop := ∃ A c, e = .returned (.slice A (putIn T s).length c) ∧ w'.ownsRow B 9 1 (.slice A (putIn T s).length c) (putIn T s).length ((putIn T s).map encStr) ∧ Below B w w'
theorem enc_one (T : List Str) : ∀ v ∈ T.map encStr, v.oneCell' = true := fun v hv => by
  obtain ⟨x, _, rfl⟩ := List.mem_map.1 hv; rfl
theorem putIn_cells (T : List Str) (s : Str) : (putIn T s).map encStr = ((T.map encStr).take (posOf T s) ++ [encStr s]) ++ (T.map encStr).drop (posOf T s) := by
  unfold putIn; simp
theorem get_put {T : List Str} {s : Str} {j : Nat} {u : Value} (h : ((putIn T s).map encStr)[j]? = some u) : (j < posOf T s ∧ (T.map encStr)[j]? = some u) ∨ (j = posOf T s ∧ u = encStr s) ∨ (posOf T s < j ∧ (T.map encStr)[j - 1]? = some u) := by
  have hp := pos_le T s
  have ht : ((T.map encStr).take (posOf T s)).length = posOf T s := by simp; omega
  rw [putIn_cells, List.append_assoc] at h
  rcases Nat.lt_trichotomy j (posOf T s) with hj | hj | hj
  · rw [List.getElem?_append_left (by rw [ht]; exact hj), List.getElem?_take_of_lt hj] at h
    exact .inl ⟨hj, h⟩
  · subst hj
    rw [List.getElem?_append_right (by rw [ht]; exact Nat.le_refl _), ht, Nat.sub_self] at h
    simp at h
    exact .inr (.inl ⟨rfl, h.symm⟩)
  · rw [List.getElem?_append_right (by rw [ht]; omega), ht, List.getElem?_append_right (by simp; omega), List.getElem?_drop] at h
    refine .inr (.inr ⟨hj, ?_⟩)
    rw [← h]; congr 1; simp; omega
end Go.Proofs.Ytpjacngbkohmdaa.Qry8
/- slices.Insert and slices.BinarySearch at a rising row of texts, by contract. -/
namespace Go.Proofs.Ytpjacngbkohmdaa.Qry9
set_option linter.unusedVariables false
set_option linter.unusedSimpArgs false
open Go.RowKit Go.Lib Go.Sort Go.Proofs Go.Proofs.Ytpjacngbkohmdaa.Plain Go.Proofs.Ytpjacngbkohmdaa.SynP Go.Proofs.Ytpjacngbkohmdaa.TabP Go.Proofs.Ytpjacngbkohmdaa.Tab1 Go.Proofs.Ytpjacngbkohmdaa.QryP Go.Proofs.Ytpjacngbkohmdaa.Qry8
set_option linter.unusedVariables false
set_option linter.unusedSimpArgs false
theorem new_cell0 {w : World} {vb : Nat} {s : Str} (h : w.heap[vb]? = some (.cells #[.string ⟨s.toArray⟩] 9 (0, 0))) : ∀ j v, [encStr s][j]? = some v → w.cell? ⟨vb, 0 + j, none⟩ = some v := fun j v hu => by
  have hj : j = 0 := by
    have := (List.getElem?_eq_some_iff.1 hu).1
    simp at this; omega
  subst hj
  simp at hu
  rw [Lib.cell_of_heap h, ← hu]; rfl
theorem one_new (s : Str) : ∀ v ∈ [encStr s], v.oneCell' = true := fun v h => by simp at h; subst h; rfl
end Go.Proofs.Ytpjacngbkohmdaa.Qry9
/- The principals that stand at a line's end, by contract. -/
namespace Go.Proofs.Ytpjacngbkohmdaa.QryA
set_option linter.unusedVariables false
set_option linter.unusedSimpArgs false
open Go.RowKit Go.Sort Go.Proofs Go.Proofs.Ytpjacngbkohmdaa.Plain Go.Proofs.Ytpjacngbkohmdaa.SynP Go.Proofs.Ytpjacngbkohmdaa.TabP Go.Proofs.Ytpjacngbkohmdaa.Tab1 Go.Proofs.Ytpjacngbkohmdaa.SynA Go.Proofs.Ytpjacngbkohmdaa.QryP Go.Proofs.Ytpjacngbkohmdaa.Qry8 Go.Proofs.Ytpjacngbkohmdaa.Qry9
set_option linter.unusedVariables false
set_option linter.unusedSimpArgs false
def strOf (x : ByteArray) : Str := x.data.toList
/-- The principals that tokens begin with, how many tokens these are, and whether one too many follows. -/
def readW : List Tk → List Str → List Str × Nat × Bool
  | [], T => (T, 0, false)
  | t :: L, T => if t.kind = 1 then (if strOf t.text ∈ T then ((readW L T).1, (readW L T).2.1 + 1, (readW L T).2.2) else if T.length = 12 then (T, 0, true) else ((readW L (tab (T ++ [strOf t.text]))).1, (readW L (tab (T ++ [strOf t.text]))).2.1 + 1, (readW L (tab (T ++ [strOf t.text]))).2.2)) else (T, 0, false)
def addN (r : List Str × Nat × Bool) (d : Nat) : List Str × Nat × Bool := (r.1, r.2.1 + d, r.2.2)
theorem addN_add (r : List Str × Nat × Bool) (d e : Nat) : addN (addN r d) e = addN r (d + e) := by unfold addN; simp; omega
theorem readW_told {L : List Tk} {T : List Str} {k : Nat} (h : k < L.length) (hk : L[k].kind = 1) (hs : strOf L[k].text ∈ T) : readW (L.drop k) T = addN (readW (L.drop (k + 1)) T) 1 := by
  rw [List.drop_eq_getElem_cons h]
  show (if _ then _ else _) = _
  rw [if_pos hk, if_pos hs]; rfl
theorem readW_many {L : List Tk} {T : List Str} {k : Nat} (h : k < L.length) (hk : L[k].kind = 1) (hs : strOf L[k].text ∉ T) (h12 : T.length = 12) : readW (L.drop k) T = (T, 0, true) := by
  rw [List.drop_eq_getElem_cons h]
  show (if _ then _ else _) = _
  rw [if_pos hk, if_neg hs, if_pos h12]
theorem readW_put {L : List Tk} {T : List Str} {k : Nat} (h : k < L.length) (hk : L[k].kind = 1) (hs : strOf L[k].text ∉ T) (h12 : T.length ≠ 12) (hT : T.Pairwise (· < ·)) : readW (L.drop k) T = addN (readW (L.drop (k + 1)) (putIn T (strOf L[k].text))) 1 := by
  rw [putIn_tab hT hs, List.drop_eq_getElem_cons h]
  show (if _ then _ else _) = _
  rw [if_pos hk, if_neg hs, if_neg h12]; rfl
theorem readW_stop {L : List Tk} {T : List Str} {k : Nat} (h : ∀ h : k < L.length, L[k].kind ≠ 1) : readW (L.drop k) T = (T, 0, false) := by
  by_cases hk : k < L.length
  · rw [List.drop_eq_getElem_cons hk]
    show (if _ then _ else _) = _
    rw [if_neg (h hk)]
  · rw [List.drop_of_length_le (by omega)]; rfl
theorem text_of (x : ByteArray) : x = ⟨(strOf x).toArray⟩ := by unfold strOf; apply ByteArray.ext; simp
def WhoPost (r : List Str × Nat × Bool) (n0 : Nat) (w : World) (e : Ending) (w' : World) : Prop := ∃ A c, e = .returned (.tuple #[.slice A r.1.length c, .int .i64 (n0 + r.2.1 : Nat), .bool r.2.2]) ∧ w'.ownsRow w.heap.size 9 1 (.slice A r.1.length c) r.1.length (r.1.map encStr) ∧ Below w.heap.size w w'
theorem who_fin {L : List Tk} {n0 n c : Nat} {A : Option Addr} {T : List Str} {m : Bool} {w wr : World} (hr : readW (L.drop n0) [] = addN (T, 0, m) (n - n0)) (hn : n0 ≤ n) (hown : wr.ownsRow w.heap.size 9 1 (.slice A T.length c) T.length (T.map encStr)) (hb : Below w.heap.size w wr) : WhoPost (readW (L.drop n0) []) n0 w (.returned (.tuple #[.slice A T.length c, .int .i64 n, .bool m])) wr := by
  rw [hr]
  refine ⟨A, c, ?_, hown, hb⟩
  show Ending.returned (.tuple #[.slice A T.length c, .int .i64 (n : Nat), .bool m]) = .returned (.tuple #[.slice A T.length c, .int .i64 ((n0 + (0 + (n - n0)) : Nat) : Int), .bool m])
  rw [show n0 + (0 + (n - n0)) = n by omega]
end Go.Proofs.Ytpjacngbkohmdaa.QryA
/- A line's tokens read as those of one kind, by contract. -/
namespace Go.Proofs.Ytpjacngbkohmdaa.QryB
set_option linter.unusedVariables false
set_option linter.unusedSimpArgs false
open Go.RowKit Go.Sort Go.Proofs Go.Proofs.Ytpjacngbkohmdaa.Plain Go.Proofs.Ytpjacngbkohmdaa.SynP Go.Proofs.Ytpjacngbkohmdaa.SynQ Go.Proofs.Ytpjacngbkohmdaa.TabP Go.Proofs.Ytpjacngbkohmdaa.Tab1 Go.Proofs.Ytpjacngbkohmdaa.Grown Go.Proofs.Ytpjacngbkohmdaa.SynA Go.Proofs.Ytpjacngbkohmdaa.SynC Go.Proofs.Ytpjacngbkohmdaa.SynR Go.Proofs.Ytpjacngbkohmdaa.SynS Go.Proofs.Ytpjacngbkohmdaa.SynV Go.Proofs.Ytpjacngbkohmdaa.QryP Go.Proofs.Ytpjacngbkohmdaa.Qry4 Go.Proofs.Ytpjacngbkohmdaa.Qry5 Go.Proofs.Ytpjacngbkohmdaa.Qry6 Go.Proofs.Ytpjacngbkohmdaa.Qry7 Go.Proofs.Ytpjacngbkohmdaa.QryA
set_option linter.unusedVariables false
set_option linter.unusedSimpArgs false
def textAt (L : List Tk) (k : Nat) : ByteArray := ((L[k]?).map Tk.text).getD noText
/-- The query, how many tokens go on so, and why it is none (0, 2, 3, 5: OK, ErrForm, ErrEnd, ErrMany). -/
def readQ (k : Int) (L : List Tk) : Qy × Nat × Int :=
  let n := agreeF L (shapeF k)
  if n = (shapeF k).length then
    let r := if hasWk k then readW (L.drop n) [] else ([], 0, false)
    let q : Qy := ⟨k, ⟨textAt L 1, textAt L 3⟩, if hasBk k then ⟨textAt L (n - 3), textAt L (n - 1)⟩ else zeroR, r.1⟩
    (q, n + r.2.1, if r.2.2 then 5 else if n + r.2.1 < L.length then 2 else if q.right then 0 else 3)
  else (⟨k, zeroR, zeroR, []⟩, n, if n < L.length then 2 else 3)
def ReadPost (r : Qy × Nat × Int) (w : World) (e : Ending) (w' : World) : Prop := ∃ A c, e = .returned (.tuple #[r.1.val A c, .int .i64 r.2.1, .int .i64 r.2.2]) ∧ SRow w' A r.1.who ∧ (∀ g o, A = some ⟨g, o, none⟩ → w.heap.size ≤ g) ∧ Below w.heap.size w w'
theorem read_no_eq {k : Int} {L : List Tk} (h : agreeF L (shapeF k) ≠ (shapeF k).length) : readQ k L = (⟨k, zeroR, zeroR, []⟩, agreeF L (shapeF k), if agreeF L (shapeF k) < L.length then 2 else 3) := by
  unfold readQ
  simp only []
  rw [if_neg h]
theorem zero_right (k : Int) : Qy.right ⟨k, zeroR, zeroR, []⟩ = false := by
  unfold Qy.right
  have : zeroR.ok = false := by decide +kernel
  rw [this]; rfl
theorem shape_len (k : Int) : (shapeF k).length ≤ 20 := by
  unfold shapeF roleF wordsL
  simp
  (repeat' split) <;> simp
theorem some_at {X : World} {n : Nat} (h : (X.cell? ⟨n, 5, none⟩).isSome = true) (i : Nat) (hi : i ≤ 5) : ∃ u, X.cell? ⟨n, i, none⟩ = some u := by
  unfold World.cell? at *
  cases hx : X.heap[n]? with
  | none => rw [hx] at h; simp at h
  | some x =>
    rw [hx] at h
    cases x with
    | cells c e f =>
      simp at h ⊢
      exact ⟨_, Array.getElem?_eq_getElem (by omega)⟩
    | _ => simp at h
set_option maxHeartbeats 1000000 in
/-- Six stores into a block of six cells. -/
theorem set6 (X : World) (n : Nat) (v0 v1 v2 v3 v4 v5 : Value) (o : Nat) (ho : o < 6) (h : (X.cell? ⟨n, 5, none⟩).isSome = true) : ((((((X.setCell ⟨n, 0, none⟩ v0).setCell ⟨n, 1, none⟩ v1).setCell ⟨n, 2, none⟩ v2).setCell ⟨n, 3, none⟩ v3).setCell ⟨n, 4, none⟩ v4).setCell ⟨n, 5, none⟩ v5).cell? ⟨n, o, none⟩ = (#[v0, v1, v2, v3, v4, v5] : Array Value)[o]? := by
  obtain ⟨u0, h0⟩ := some_at h 0 (by omega)
  obtain ⟨u1, h1⟩ := some_at h 1 (by omega)
  obtain ⟨u2, h2⟩ := some_at h 2 (by omega)
  obtain ⟨u3, h3⟩ := some_at h 3 (by omega)
  obtain ⟨u4, h4⟩ := some_at h 4 (by omega)
  obtain ⟨u5, h5⟩ := some_at h 5 (by omega)
  match o, ho with
  | 0, _ => simp [set_cell, h0, h1, h2, h3, h4, h5]
  | 1, _ => simp [set_cell, h0, h1, h2, h3, h4, h5]
  | 2, _ => simp [set_cell, h0, h1, h2, h3, h4, h5]
  | 3, _ => simp [set_cell, h0, h1, h2, h3, h4, h5]
  | 4, _ => simp [set_cell, h0, h1, h2, h3, h4, h5]
  | 5, _ => simp [set_cell, h0, h1, h2, h3, h4, h5]
theorem set6_far (X : World) (n g i : Nat) (v0 v1 v2 v3 v4 v5 : Value) (h : n ≠ g) : ((((((X.setCell ⟨n, 0, none⟩ v0).setCell ⟨n, 1, none⟩ v1).setCell ⟨n, 2, none⟩ v2).setCell ⟨n, 3, none⟩ v3).setCell ⟨n, 4, none⟩ v4).setCell ⟨n, 5, none⟩ v5).cell? ⟨g, i, none⟩ = X.cell? ⟨g, i, none⟩ := by
  rw [set_far _ _ _ _ _ _ h, set_far _ _ _ _ _ _ h, set_far _ _ _ _ _ _ h, set_far _ _ _ _ _ _ h, set_far _ _ _ _ _ _ h, set_far _ _ _ _ _ _ h]
theorem srow_set {w : World} {A : Option Addr} {T : List Str} (h : SRow w A T) {b : Nat} (hb : ∀ g o, A = some ⟨g, o, none⟩ → b ≠ g) (i : Nat) (v : Value) : SRow (w.setCell ⟨b, i, none⟩ v) A T := fun hp => by
  obtain ⟨g, o, e, hg, hc⟩ := h hp
  exact ⟨g, o, e, by rw [set_size]; exact hg, fun j hj => (set_far _ _ _ _ _ _ (hb g o e)).trans (hc j hj)⟩
def zero6 : Obj := .cells #[.int .i64 0, .string ⟨#[]⟩, .string ⟨#[]⟩, .string ⟨#[]⟩, .string ⟨#[]⟩, .slice none 0 0] 61
def kind6 (k : Int) : Obj := .cells #[.int .i64 k, .string ⟨#[]⟩, .string ⟨#[]⟩, .string ⟨#[]⟩, .string ⟨#[]⟩, .slice none 0 0] 61
/-- The two boxes behind the calls of shape and agree. -/
structure Boxes (k : Int) (w w2 : World) : Prop where
  res : w2.heap[w.heap.size]? = some (.cells #[.int .i64 0, .string ⟨#[]⟩, .string ⟨#[]⟩, .string ⟨#[]⟩, .string ⟨#[]⟩, .slice none 0 0] 61 (0, 0))
  box : w2.heap[w.heap.size + 1]? = some (.cells #[.int .i64 k, .string ⟨#[]⟩, .string ⟨#[]⟩, .string ⟨#[]⟩, .string ⟨#[]⟩, .slice none 0 0] 61 (0, 0))
  below : RowKit.Below w.heap.size w w2
  size : w.heap.size + 1 < w2.heap.size
theorem boxes {k : Int} {w w1 w2 : World} (h1 : RowKit.Below ((w.alloc zero6).alloc (kind6 k)).heap.size ((w.alloc zero6).alloc (kind6 k)) w1) (h2 : Grew w1 w2) : Boxes k w w2 := by
  have h := h1.trans (h2.below.mono h1.size)
  have hz := h.size
  simp only [World.size_alloc] at hz
  have r := heap_alloc_new (w.alloc zero6) (kind6 k)
  rw [World.size_alloc] at r
  refine ⟨?_, ?_, (((Below.refl _ _).alloc (Nat.le_refl _) _).alloc (by simp) _).trans (h.mono (by simp; omega)), by omega⟩
  · exact (h.block _ (by simp; omega)).trans ((Below.heap_alloc _ _ _ (by simp)).trans (heap_alloc_new w zero6))
  · exact (h.block _ (by simp)).trans r
end Go.Proofs.Ytpjacngbkohmdaa.QryB
/- Plain mathematics: what a line's tokens are asked as, kind by kind. -/
namespace Go.Proofs.Ytpjacngbkohmdaa.QryC
set_option linter.unusedVariables false
set_option linter.unusedSimpArgs false
open Go.RowKit Go.Sort Go.Proofs.Ytpjacngbkohmdaa.Plain Go.Proofs.Ytpjacngbkohmdaa.SynP Go.Proofs.Ytpjacngbkohmdaa.TabP Go.Proofs.Ytpjacngbkohmdaa.SynR Go.Proofs.Ytpjacngbkohmdaa.QryP Go.Proofs.Ytpjacngbkohmdaa.Qry4 Go.Proofs.Ytpjacngbkohmdaa.Qry5 Go.Proofs.Ytpjacngbkohmdaa.Qry7 Go.Proofs.Ytpjacngbkohmdaa.QryA Go.Proofs.Ytpjacngbkohmdaa.QryB
def zeroQ : Qy := ⟨0, zeroR, zeroR, []⟩
/-- Where the n-th token begins, or the place behind the last one. -/
def placeOf (L : List Tk) (n : Nat) : Nat := if n < L.length then SynQ.colAt L n else SynQ.behindOf L
/-- The kinds behind the first k, with how far was read, and why it is none. -/
def goQ (L : List Tk) : Nat → Nat → Nat → Int → Qy × Int × Int
  | 0, _, f, y => (zeroQ, placeOf L f, y)
  | m + 1, k, f, y => let r := readQ ((k + 1 : Nat) : Int) L
    if r.2.2 = 0 then (r.1, 0, 0) else if f ≤ r.2.1 then goQ L m (k + 1) r.2.1 r.2.2 else goQ L m (k + 1) f y
def parseQ (L : List Tk) : Qy × Int × Int := goQ L 6 0 0 0
theorem goQ_hit {L : List Tk} {m k f : Nat} {y : Int} (h : (readQ ((k + 1 : Nat) : Int) L).2.2 = 0) : goQ L (m + 1) k f y = ((readQ ((k + 1 : Nat) : Int) L).1, 0, 0) := by
  show (if _ then _ else _) = _
  rw [if_pos h]
theorem goQ_far {L : List Tk} {m k f : Nat} {y : Int} (h : (readQ ((k + 1 : Nat) : Int) L).2.2 ≠ 0) (hf : f ≤ (readQ ((k + 1 : Nat) : Int) L).2.1) : goQ L (m + 1) k f y = goQ L m (k + 1) (readQ ((k + 1 : Nat) : Int) L).2.1 (readQ ((k + 1 : Nat) : Int) L).2.2 := by
  show (if _ then _ else _) = _
  rw [if_neg h, if_pos hf]
theorem goQ_near {L : List Tk} {m k f : Nat} {y : Int} (h : (readQ ((k + 1 : Nat) : Int) L).2.2 ≠ 0) (hf : ¬ f ≤ (readQ ((k + 1 : Nat) : Int) L).2.1) : goQ L (m + 1) k f y = goQ L m (k + 1) f y := by
  show (if _ then _ else _) = _
  rw [if_neg h, if_neg hf]
end Go.Proofs.Ytpjacngbkohmdaa.QryC
