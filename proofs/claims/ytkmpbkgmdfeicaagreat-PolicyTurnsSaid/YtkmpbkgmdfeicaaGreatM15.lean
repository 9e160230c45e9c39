/- Principals put in by the library's search and Insert: what a row of texts is behind it. -/
import Derived.Test.YtkmpbkgmdfeicaaGreatM11
import Derived.Test.YtkmpbkgmdfeicaaGreatM12
import Derived.Test.YtkmpbkgmdfeicaaGreatMore
import Derived.Shelf.SlSortFuncK.RowK2
import Derived.Lib.LazyBuf
import Derived.Test.YtkmpbkgmdfeicaaGreatM13
import Derived.OwnWalk
import Derived.Test.YtkmpbkgmdfeicaaGreatM14
import Derived.Test.YtkmpbkgmdfeicaaGreatM09
import Derived.Test.YtkmpbkgmdfeicaaGreatM01
namespace Go.Proofs.YtkmpbkgmdfeicaaGreat.Qry8
set_option linter.unusedVariables false
set_option linter.unusedSimpArgs false
open Go.RowKit Go.Sort Go.Proofs Go.Proofs.YtkmpbkgmdfeicaaGreat.Plain Go.Proofs.YtkmpbkgmdfeicaaGreat.SynP Go.Proofs.YtkmpbkgmdfeicaaGreat.TabP Go.Proofs.YtkmpbkgmdfeicaaGreat.Tab1 Go.Proofs.YtkmpbkgmdfeicaaGreat.QryP
set_option linter.unusedVariables false
set_option linter.unusedSimpArgs false
/-- How many of a rising row stand ahead of a text. -/
def posOf (T : List Str) (s : Str) : Nat := T.findIdx fun y => decide (¬ y < s)
theorem pos_le (T : List Str) (s : Str) : posOf T s ≤ T.length := List.findIdx_le_length
theorem pos_lt {T : List Str} {s : Str} {t : Nat} (h : t < posOf T s) (ht : t < T.length) : T[t] < s := by
  have := List.not_of_lt_findIdx h
  simpa using this
theorem pos_ge {T : List Str} {s : Str} (hT : T.Pairwise (· < ·)) {t : Nat} (h : posOf T s ≤ t) (ht : t < T.length) : ¬ T[t] < s := by
  have hk : posOf T s < T.length := by omega
  have h0 : ¬ T[posOf T s] < s := by
    have := List.findIdx_getElem (xs := T) (p := fun y => decide (¬ y < s)) (w := hk)
    simpa [posOf] using this
  rcases Nat.lt_or_ge (posOf T s) t with hlt | hge
  · intro hc
    exact h0 (List.lt_trans ((List.pairwise_iff_getElem.1 hT) _ _ hk ht hlt) hc)
  · have : t = posOf T s := by omega
    subst this; exact h0
theorem pos_mem {T : List Str} {s : Str} (hT : T.Pairwise (· < ·)) : (∃ h : posOf T s < T.length, T[posOf T s] = s) ↔ s ∈ T := by
  constructor
  · rintro ⟨h, e⟩; rw [← e]; exact List.getElem_mem _
  · intro hs
    obtain ⟨j, hj, e⟩ := List.getElem_of_mem hs
    have h1 : posOf T s = j := by
      rcases Nat.lt_trichotomy (posOf T s) j with h | h | h
      · have hp : posOf T s < T.length := by omega
        have a := pos_ge hT (Nat.le_refl _) hp (s := s)
        have b := (List.pairwise_iff_getElem.1 hT) _ _ hp hj h
        rw [e] at b
        exact absurd b a
      · exact h
      · have := pos_lt h hj
        rw [e] at this
        exact absurd this (List.lt_irrefl _)
    subst h1
    exact ⟨hj, e⟩
/-- A text put in its place. -/
def putIn (T : List Str) (s : Str) : List Str := T.take (posOf T s) ++ s :: T.drop (posOf T s)
theorem mem_putIn (T : List Str) (s x : Str) : x ∈ putIn T s ↔ x = s ∨ x ∈ T := by
  unfold putIn
  rw [List.mem_append, List.mem_cons]
  have : x ∈ T ↔ x ∈ T.take (posOf T s) ∨ x ∈ T.drop (posOf T s) := by rw [← List.mem_append, List.take_append_drop]
  rw [this]
  constructor
  · rintro (h | h | h)
    · exact .inr (.inl h)
    · exact .inl h
    · exact .inr (.inr h)
  · rintro (h | h | h)
    · exact .inr (.inl h)
    · exact .inl h
    · exact .inr (.inr h)
theorem le_total' {a b : Str} (h : ¬ a < b) (hne : a ≠ b) : b < a := by
  by_cases h1 : b < a
  · exact h1
  · exact absurd (List.le_antisymm (List.not_lt.1 h1) (List.not_lt.1 h)) hne
theorem putIn_rising {T : List Str} {s : Str} (hT : T.Pairwise (· < ·)) (hs : s ∉ T) : (putIn T s).Pairwise (· < ·) := by
  unfold putIn
  rw [List.pairwise_append]
  refine ⟨hT.sublist (List.take_sublist _ _), List.pairwise_cons.2 ⟨fun x hx => ?_, hT.sublist (List.drop_sublist _ _)⟩, fun x hx y hy => ?_⟩
  · obtain ⟨j, hj, rfl⟩ := List.getElem_of_mem hx
    rw [List.getElem_drop]
    rw [List.length_drop] at hj
    exact le_total' (pos_ge hT (by omega) (by omega)) (fun e => hs (by rw [← e]; exact List.getElem_mem _))
  · obtain ⟨i, hi, rfl⟩ := List.getElem_of_mem hx
    rw [List.getElem_take]
    rw [List.length_take] at hi
    have a := pos_lt (T := T) (s := s) (t := i) (by omega) (by omega)
    rcases List.mem_cons.1 hy with rfl | hy
    · exact a
    · obtain ⟨j, hj, rfl⟩ := List.getElem_of_mem hy
      rw [List.getElem_drop]
      rw [List.length_drop] at hj
      exact (List.pairwise_iff_getElem.1 hT) _ _ _ _ (by omega)
theorem putIn_tab {T : List Str} {s : Str} (hT : T.Pairwise (· < ·)) (hs : s ∉ T) : putIn T s = tab (T ++ [s]) :=
  eq_of_rising (putIn_rising hT hs) (tab_sorted _) fun x => by
    rw [mem_putIn, mem_tab, List.mem_append, List.mem_singleton, or_comm]
theorem putIn_len (T : List Str) (s : Str) : (putIn T s).length = T.length + 1 := by
  have := pos_le T s
  unfold putIn; simp; omega
/-- A row from its cells. -/
theorem own_of {w : World} {B g n cap : Nat} {e : TypeId} {cur : Array Value} {xs : List Value} (hB : B ≤ g) (hh : w.heap[g]? = some (.cells cur e (0, 0))) (hs : cur.size = cap) (hn : n ≤ cap) (hm : cap ≤ maxLen) (hl : xs.length = n) (hc : ∀ j u, xs[j]? = some u → w.cell? ⟨g, j, none⟩ = some u) : w.ownsRow B e 1 (.slice (some ⟨g, 0, none⟩) n cap) n xs := by
  refine ⟨by omega, .inr ⟨g, cap, cur, rfl, hB, hh, hn, hm, by omega, ?_⟩⟩
  apply List.ext_getElem?
  intro j
  by_cases hj : j < n
  · rw [List.getElem?_take_of_lt (by omega)]
    have hj2 : j < xs.length := by omega
    have q := hc j xs[j] (List.getElem?_eq_getElem hj2)
    rw [Lib.cell_of_heap hh] at q
    rw [Array.getElem?_toList, q, List.getElem?_eq_getElem hj2]
  · rw [List.getElem?_eq_none (by rw [List.length_take]; omega), List.getElem?_eq_none (by omega)]
theorem heap_setCells {b : Nat} {e : TypeId} {f : Nat × Nat} : ∀ (vs : List Value) (o : Nat) (w : World) (c : Array Value), w.heap[b]? = some (.cells c e f) → ∃ c', (w.setCells b o vs).heap[b]? = some (.cells c' e f) ∧ c'.size = c.size
  | [], _, _, c, h => ⟨c, h, rfl⟩
  | v :: r, o, w, c, h => by
    have h1 : (w.setCell ⟨b, o, none⟩ v).heap[b]? = some (.cells (c.setIfInBounds o v) e f) := by
      unfold World.setCell
      simp [Array.getElem?_modify, h]
    obtain ⟨c', h2, h3⟩ := heap_setCells r (o + 1) _ _ h1
    exact ⟨c', h2, by rw [h3]; simp⟩
/-- What the row of texts is that slices.Insert leaves. -/
def InsPost (B : Nat) (T : List Str) (s : Str) (w : World) (e : Ending) (w' : World) : Prop := ∃ A c, e = .returned (.slice A (putIn T s).length c) ∧ w'.ownsRow B 9 1 (.slice A (putIn T s).length c) (putIn T s).length ((putIn T s).map encStr) ∧ Below B w w'
theorem enc_one (T : List Str) : ∀ v ∈ T.map encStr, v.oneCell' = true := fun v hv => by
  obtain ⟨x, _, rfl⟩ := List.mem_map.1 hv; rfl
theorem putIn_cells (T : List Str) (s : Str) : (putIn T s).map encStr = ((T.map encStr).take (posOf T s) ++ [encStr s]) ++ (T.map encStr).drop (posOf T s) := by
  unfold putIn; simp
theorem get_put {T : List Str} {s : Str} {j : Nat} {u : Value} (h : ((putIn T s).map encStr)[j]? = some u) : (j < posOf T s ∧ (T.map encStr)[j]? = some u) ∨ (j = posOf T s ∧ u = encStr s) ∨ (posOf T s < j ∧ (T.map encStr)[j - 1]? = some u) := by
  have hp := pos_le T s
  have ht : ((T.map encStr).take (posOf T s)).length = posOf T s := by simp; omega
  rw [putIn_cells, List.append_assoc] at h
  rcases Nat.lt_trichotomy j (posOf T s) with hj | hj | hj
  · rw [List.getElem?_append_left (by rw [ht]; exact hj), List.getElem?_take_of_lt hj] at h
    exact .inl ⟨hj, h⟩
  · subst hj
    rw [List.getElem?_append_right (by rw [ht]; exact Nat.le_refl _), ht, Nat.sub_self] at h
    simp at h
    exact .inr (.inl ⟨rfl, h.symm⟩)
  · rw [List.getElem?_append_right (by rw [ht]; omega), ht, List.getElem?_append_right (by simp; omega), List.getElem?_drop] at h
    refine .inr (.inr ⟨hj, ?_⟩)
    rw [← h]; congr 1; simp; omega
end Go.Proofs.YtkmpbkgmdfeicaaGreat.Qry8
/- slices.Insert and slices.BinarySearch at a rising row of texts, by contract. -/
namespace Go.Proofs.YtkmpbkgmdfeicaaGreat.Qry9
set_option linter.unusedVariables false
set_option linter.unusedSimpArgs false
open Go.RowKit Go.Lib Go.Sort Go.Proofs Go.Proofs.YtkmpbkgmdfeicaaGreat.Plain Go.Proofs.YtkmpbkgmdfeicaaGreat.SynP Go.Proofs.YtkmpbkgmdfeicaaGreat.TabP Go.Proofs.YtkmpbkgmdfeicaaGreat.Tab1 Go.Proofs.YtkmpbkgmdfeicaaGreat.QryP Go.Proofs.YtkmpbkgmdfeicaaGreat.Qry8
set_option linter.unusedVariables false
set_option linter.unusedSimpArgs false
/-- A row of its own behind the last one: the text at its end. -/
theorem ins_end_grow (B : Nat) (A : Option Addr) (c vb : Nat) (T : List Str) (s : Str) (w : World) (hT : T.length ≤ 1000) (hB : B ≤ w.heap.size) (hown : w.ownsRow B 9 1 (.slice A T.length c) T.length (T.map encStr)) (hv : w.heap[vb]? = some (.cells #[.string ⟨s.toArray⟩] 9 (0, 0))) (hp : posOf T s = T.length) (hc : c < T.length + 1) :
    Calls Tryz.prog 252 #[.slice A T.length c, .int .i64 (posOf T s), .slice (some ⟨vb, 0, none⟩) 1 1] w (InsPost B T s w) := by
  have hcells : ∀ a, A = some a → ∀ j v, (T.map encStr)[j]? = some v → w.cell? (a.add j) = some v := by
    rintro a rfl j v hv
    rcases hown.2 with ⟨e, _⟩ | ⟨g, cap, cur, e, _⟩
    · cases e
    · injection e with e1 e2 e3
      injection e1 with e1
      subst e1
      exact hown.cells (g := g) rfl j v hv
  have hnil : A = none → T.length = 0 := by
    rintro rfl
    rcases hown.2 with ⟨e, h0⟩ | ⟨g, cap, cur, e, _⟩
    · exact h0
    · cases e
  have hnc : T.length ≤ c := by
    rcases hown.2 with ⟨e, h0⟩ | ⟨g, cap, cur, e, _, _, h, _⟩
    · omega
    · injection e with e1 e2 e3
      omega
  have hq := Any2.slices_Insert_string_end_grow More.laysIns A T.length c vb 0 1 1 (T.map encStr) [encStr s] w (by omega) hnc hc (by omega) (by simp) rfl hnil hcells (fun j v h => by
    have hj : j = 0 := by
      have := (List.getElem?_eq_some_iff.1 h).1
      simp at this; omega
    subst hj
    simp at h
    rw [Lib.cell_of_heap hv, ← h]; rfl) (by intro v h; simp at h; subst h; rfl)
  rw [hp]
  refine hq.mono ?_
  rintro e w' ⟨rfl, rfl⟩
  have hg := grownCap_ge w (T.length + 1) c 9
  have hm := grownCap_le_maxLen w (T.length + 1) c 9 (by unfold maxLen; omega)
  have hpc : (putIn T s).map encStr = T.map encStr ++ [encStr s] := by
    rw [putIn_cells, hp, List.take_of_length_le (by simp), List.drop_of_length_le (by simp), List.append_nil]
  have hl := putIn_len T s
  refine ⟨some ⟨w.heap.size, 0, none⟩, grownCap w (T.length + 1) c 9, by rw [hl]; rfl, ?_, ((Below.refl _ _).drew).alloc hB _⟩
  rw [hl]
  refine own_of hB (heap_alloc_new w.drew _) ?_ hg hm (by simp [hl]) fun j u hu => ?_
  · rw [Array.size_append, size_zeroCells]
    simp
    show T.length + 1 + (grownCap w (T.length + 1) c 9 - (T.length + 1)) * 1 = grownCap w (T.length + 1) c 9
    rw [Nat.mul_one]; exact Nat.add_sub_cancel' hg
  · rw [hpc] at hu
    show (w.drew.alloc _).cell? ⟨w.drew.heap.size, j, none⟩ = some u
    rw [Lib.cell_of_heap (heap_alloc_new w.drew _), Array.getElem?_append_left (by have := (List.getElem?_eq_some_iff.1 hu).1; simpa using this)]
    simpa using hu
/-- What is asked of the row and of the new text's block. -/
structure InsAt (B g c vb : Nat) (T : List Str) (s : Str) (w : World) : Prop where
  own : w.ownsRow B 9 1 (.slice (some ⟨g, 0, none⟩) T.length c) T.length (T.map encStr)
  new : w.heap[vb]? = some (.cells #[.string ⟨s.toArray⟩] 9 (0, 0))
  far : vb ≠ g
theorem InsAt.cur {B g c vb : Nat} {T : List Str} {s : Str} {w : World} (h : InsAt B g c vb T s w) : ∃ cur, B ≤ g ∧ w.heap[g]? = some (.cells cur 9 (0, 0)) ∧ T.length ≤ c ∧ c ≤ maxLen ∧ cur.size = c ∧ ∀ j u, (T.map encStr)[j]? = some u → w.cell? ⟨g, j, none⟩ = some u := by
  have hc := h.own.cells (g := g) rfl
  rcases h.own.2 with ⟨e, _⟩ | ⟨g', cap, cur, e, hB, hh, h1, h2, h3, _⟩
  · cases e
  · injection e with e1 e2 e3
    injection e1 with e1
    injection e1 with e1
    subst e1; subst e3
    refine ⟨cur, hB, hh, h1, h2, by omega, fun j u hu => ?_⟩
    have := hc j u hu
    rwa [SynC.add_off, Nat.zero_add] at this
theorem new_cell0 {w : World} {vb : Nat} {s : Str} (h : w.heap[vb]? = some (.cells #[.string ⟨s.toArray⟩] 9 (0, 0))) : ∀ j v, [encStr s][j]? = some v → w.cell? ⟨vb, 0 + j, none⟩ = some v := fun j v hu => by
  have hj : j = 0 := by
    have := (List.getElem?_eq_some_iff.1 hu).1
    simp at this; omega
  subst hj
  simp at hu
  rw [Lib.cell_of_heap h, ← hu]; rfl
theorem one_new (s : Str) : ∀ v ∈ [encStr s], v.oneCell' = true := fun v h => by simp at h; subst h; rfl
/-- There is room at the row's end. -/
theorem ins_end_room (B g c vb : Nat) (T : List Str) (s : Str) (w : World) (hT : T.length ≤ 1000) (h : InsAt B g c vb T s w) (hp : posOf T s = T.length) (hc : T.length + 1 ≤ c) :
    Calls Tryz.prog 252 #[.slice (some ⟨g, 0, none⟩) T.length c, .int .i64 (posOf T s), .slice (some ⟨vb, 0, none⟩) 1 1] w (InsPost B T s w) := by
  obtain ⟨cur, hB, hh, hn, hm, hsz, hcs⟩ := h.cur
  have hlt : ∀ j, j < c → (w.cell? ⟨g, j, none⟩).isSome = true := fun j hj => by rw [Lib.cell_of_heap hh, Array.getElem?_eq_getElem (by omega)]; rfl
  have hfz : ∀ j, w.frozen? ⟨g, j, none⟩ = false := fun j => by simp [World.frozen?, hh]
  have hm' : c ≤ 9223372036854775807 := hm
  have hq := Any2.slices_Insert_string_end_room More.laysIns g 0 T.length c vb 0 1 1 [encStr s] w (by omega) hc hm' rfl (fun j hj => hlt _ (by omega)) (fun j _ => hfz _) (new_cell0 h.new) (one_new s)
  rw [hp]
  refine hq.mono ?_
  rintro e w' ⟨rfl, rfl⟩
  have hpc : (putIn T s).map encStr = T.map encStr ++ [encStr s] := by
    rw [putIn_cells, hp, List.take_of_length_le (by simp), List.drop_of_length_le (by simp), List.append_nil]
  have hl := putIn_len T s
  obtain ⟨cur', hh', hs'⟩ := heap_setCells [encStr s] (0 + T.length) w cur hh
  refine ⟨some ⟨g, 0, none⟩, c, by rw [hl], ?_, below_setCells hB _ _ _ (Below.refl _ _)⟩
  rw [hl]
  refine own_of hB hh' (by omega) hc hm (by simp [hl]) fun j u hu => ?_
  rw [hpc] at hu
  by_cases hj : j < T.length
  · rw [List.getElem?_append_left (by simpa using hj)] at hu
    rw [World.cell?_setCells_out g _ _ _ _ (fun _ _ => Or.inl (by show j < _; omega))]
    exact hcs j u hu
  · have hj2 : j = T.length := by
      have := (List.getElem?_eq_some_iff.1 hu).1
      simp at this; omega
    subst hj2
    rw [List.getElem?_append_right (by simp)] at hu
    simp at hu
    have q := World.cell?_setCells_in g [encStr s] (0 + T.length) w (fun i hi => hlt _ (by simp at hi; omega)) 0 (by simp)
    simp only [Nat.zero_add, Nat.add_zero, List.getElem_cons_zero] at q
    rw [Nat.zero_add, q, hu]
/-- The text goes between others, and there is room. -/
theorem ins_shift (B g c vb : Nat) (T : List Str) (s : Str) (w : World) (hT : T.length ≤ 1000) (h : InsAt B g c vb T s w) (hp : posOf T s < T.length) (hc : T.length + 1 ≤ c) :
    Calls Tryz.prog 252 #[.slice (some ⟨g, 0, none⟩) T.length c, .int .i64 (posOf T s), .slice (some ⟨vb, 0, none⟩) 1 1] w (InsPost B T s w) := by
  obtain ⟨cur, hB, hh, hn, hm, hsz, hcs⟩ := h.cur
  have hlt : ∀ j, j < c → (w.cell? ⟨g, j, none⟩).isSome = true := fun j hj => by rw [Lib.cell_of_heap hh, Array.getElem?_eq_getElem (by omega)]; rfl
  have hfz : ∀ j, w.frozen? ⟨g, j, none⟩ = false := fun j => by simp [World.frozen?, hh]
  have hm' : c ≤ 9223372036854775807 := hm
  have hq := Any2.slices_Insert_string_shift More.laysIns g 0 T.length c (posOf T s) vb 0 1 1 (T.map encStr) [encStr s] w hp (by omega) hc hm' h.far (by simp) rfl (fun j v hu => by rw [Nat.zero_add]; exact hcs j v hu) (fun j hj => hlt _ (by omega)) (fun j _ => hfz _) (new_cell0 h.new) (enc_one T) (one_new s) 9 9 1 c (by simp [World.shape?, h.new]) (by simp [World.shape?, hh, hsz]) (by omega) (by simp [World.frozen?, h.new]) (by simp [World.frozen?, h.new])
  refine hq.mono ?_
  rintro e w' ⟨rfl, rfl⟩
  have hl := putIn_len T s
  generalize hk : posOf T s = k at *
  obtain ⟨c1, hh1, hs1⟩ := heap_setCells ((T.map encStr).drop k) (0 + (k + 1)) w.drew cur hh
  obtain ⟨c2, hh2, hs2⟩ := heap_setCells [encStr s] (0 + k) _ c1 hh1
  refine ⟨some ⟨g, 0, none⟩, c, by rw [hl], ?_, below_setCells hB _ _ _ (below_setCells hB _ _ _ ((Below.refl _ _).drew))⟩
  rw [hl]
  refine own_of hB hh2 (by omega) hc hm (by simp [hl]) fun j u hu => ?_
  have hlt1 : ∀ j, j < c → ((w.drew.setCells g (0 + (k + 1)) ((T.map encStr).drop k)).cell? ⟨g, j, none⟩).isSome = true := fun j hj => by rw [Lib.cell_of_heap hh1, Array.getElem?_eq_getElem (by omega)]; rfl
  rcases get_put hu with ⟨hj, hu⟩ | ⟨hj, hu⟩ | ⟨hj, hu⟩
  · rw [hk] at hj
    rw [World.cell?_setCells_out g _ _ _ _ (fun _ _ => Or.inl (by show j < _; omega)), World.cell?_setCells_out g _ _ _ _ (fun _ _ => Or.inl (by show j < _; omega))]
    exact hcs j u hu
  · rw [hk] at hj
    subst hj
    have q := World.cell?_setCells_in g [encStr s] (0 + j) (w.drew.setCells g (0 + (j + 1)) ((T.map encStr).drop j)) (fun i hi => hlt1 _ (by simp at hi; omega)) 0 (by simp)
    simp only [Nat.zero_add, Nat.add_zero, List.getElem_cons_zero] at q
    rw [Nat.zero_add, Nat.zero_add, q, hu]
  · rw [hk] at hj
    have hjl : j - 1 < T.length := by
      have := (List.getElem?_eq_some_iff.1 hu).1
      simpa using this
    have hdl : j - (k + 1) < ((T.map encStr).drop k).length := by simp; omega
    have q := World.cell?_setCells_in g ((T.map encStr).drop k) (0 + (k + 1)) w.drew (fun i hi => hlt _ (by simp at hi; omega)) (j - (k + 1)) hdl
    rw [show 0 + (k + 1) + (j - (k + 1)) = j by omega, List.getElem_drop] at q
    rw [World.cell?_setCells_out g _ _ _ _ (fun _ _ => Or.inr (by show _ ≤ j; simp; omega)), q]
    rw [List.getElem?_eq_getElem (by simpa using hjl)] at hu
    rw [← hu]; congr 2; omega
/-- The text goes between others, and there is no room. -/
theorem ins_grow (B g c vb : Nat) (T : List Str) (s : Str) (w : World) (hT : T.length ≤ 1000) (hBw : B ≤ w.heap.size) (h : InsAt B g c vb T s w) (hp : posOf T s < T.length) (hc : c < T.length + 1) :
    Calls Tryz.prog 252 #[.slice (some ⟨g, 0, none⟩) T.length c, .int .i64 (posOf T s), .slice (some ⟨vb, 0, none⟩) 1 1] w (InsPost B T s w) := by
  obtain ⟨cur, hB, hh, hn, hm, hsz, hcs⟩ := h.cur
  have hq := Any2.slices_Insert_string_grow More.laysIns g 0 T.length c (posOf T s) vb 0 1 1 (T.map encStr) [encStr s] w hp (by omega) hn hc (by omega) (by simp) rfl (fun j v hu => by rw [Nat.zero_add]; exact hcs j v hu) (new_cell0 h.new) (enc_one T) (one_new s)
  refine hq.mono ?_
  rintro e w' ⟨rfl, rfl⟩
  have hgc : T.length + 1 ≤ grownCap w (T.length + 1) c 9 := grownCap_ge w (T.length + 1) c 9
  have hgm : grownCap w (T.length + 1) c 9 ≤ maxLen := grownCap_le_maxLen w (T.length + 1) c 9 (by unfold maxLen; omega)
  have hl := putIn_len T s
  show InsPost B T s w (.returned (.slice (some ⟨w.heap.size, 0, none⟩) (T.length + 1) (grownCap w (T.length + 1) c 9))) ((((w.alloc (.cells (((T.map encStr).take (posOf T s)).toArray ++ Builtin.zeroCells (Value.string ⟨#[]⟩).cells (T.length + 1 - posOf T s) ++ Builtin.zeroCells (Value.string ⟨#[]⟩).cells (grownCap w (T.length + 1) c 9 - (T.length + 1))) 9)).drew.setCells w.heap.size (posOf T s) [encStr s]).drew).setCells w.heap.size (posOf T s + 1) ((T.map encStr).drop (posOf T s)))
  generalize hgg : grownCap w (T.length + 1) c 9 = gc at *
  generalize hk : posOf T s = k at *
  have hasz : (((T.map encStr).take k).toArray ++ Builtin.zeroCells (Value.string ⟨#[]⟩).cells (T.length + 1 - k) ++ Builtin.zeroCells (Value.string ⟨#[]⟩).cells (gc - (T.length + 1))).size = gc := by
    rw [Array.size_append, Array.size_append, size_zeroCells, size_zeroCells]
    show ((T.map encStr).take k).toArray.size + (T.length + 1 - k) * 1 + (gc - (T.length + 1)) * 1 = gc
    simp; omega
  have h0 := heap_alloc_new w (.cells (((T.map encStr).take k).toArray ++ Builtin.zeroCells (Value.string ⟨#[]⟩).cells (T.length + 1 - k) ++ Builtin.zeroCells (Value.string ⟨#[]⟩).cells (gc - (T.length + 1))) 9)
  have hpre : ∀ j u, j < k → (T.map encStr)[j]? = some u → (w.alloc (.cells (((T.map encStr).take k).toArray ++ Builtin.zeroCells (Value.string ⟨#[]⟩).cells (T.length + 1 - k) ++ Builtin.zeroCells (Value.string ⟨#[]⟩).cells (gc - (T.length + 1))) 9)).cell? ⟨w.heap.size, j, none⟩ = some u := fun j u hj hu => by
    have a1 : j < ((T.map encStr).take k).toArray.size := by simp; omega
    rw [Lib.cell_of_heap h0, Array.getElem?_append_left (by rw [Array.size_append]; omega), Array.getElem?_append_left a1]
    simp only [List.getElem?_toArray]
    rw [List.getElem?_take_of_lt hj]; exact hu
  generalize (((T.map encStr).take k).toArray ++ Builtin.zeroCells (Value.string ⟨#[]⟩).cells (T.length + 1 - k) ++ Builtin.zeroCells (Value.string ⟨#[]⟩).cells (gc - (T.length + 1))) = C at *
  have hlt : ∀ j, j < gc → ((w.alloc (.cells C 9)).cell? ⟨w.heap.size, j, none⟩).isSome = true := fun j hj => by rw [Lib.cell_of_heap h0, Array.getElem?_eq_getElem (by omega)]; rfl
  obtain ⟨c1, hh1, hs1⟩ := heap_setCells [encStr s] k (w.alloc (.cells C 9)).drew C h0
  obtain ⟨c2, hh2, hs2⟩ := heap_setCells ((T.map encStr).drop k) (k + 1) ((w.alloc (.cells C 9)).drew.setCells w.heap.size k [encStr s]).drew c1 hh1
  have hlt1 : ∀ j, j < gc → (((w.alloc (.cells C 9)).drew.setCells w.heap.size k [encStr s]).cell? ⟨w.heap.size, j, none⟩).isSome = true := fun j hj => by rw [Lib.cell_of_heap hh1, Array.getElem?_eq_getElem (by omega)]; rfl
  refine ⟨some ⟨w.heap.size, 0, none⟩, gc, by rw [hl], ?_, below_setCells hBw _ _ _ ((below_setCells hBw _ _ _ (((Below.refl B w).alloc hBw _).drew)).drew)⟩
  rw [hl]
  refine own_of hBw hh2 (by omega) hgc hgm (by simp [hl]) fun j u hu => ?_
  rcases get_put hu with ⟨hj, hu⟩ | ⟨hj, hu⟩ | ⟨hj, hu⟩
  · rw [hk] at hj
    rw [World.cell?_setCells_out _ _ _ _ _ (fun _ _ => Or.inl (by show j < _; omega))]
    show ((w.alloc (.cells C 9)).drew.setCells w.heap.size k [encStr s]).cell? _ = _
    rw [World.cell?_setCells_out _ _ _ _ _ (fun _ _ => Or.inl (by show j < _; omega))]
    exact hpre j u hj hu
  · rw [hk] at hj
    subst hj
    rw [World.cell?_setCells_out _ _ _ _ _ (fun _ _ => Or.inl (by show j < _; omega))]
    show ((w.alloc (.cells C 9)).drew.setCells w.heap.size j [encStr s]).cell? _ = _
    have q := World.cell?_setCells_in w.heap.size [encStr s] j (w.alloc (.cells C 9)).drew (fun i hi => hlt _ (by simp at hi; omega)) 0 (by simp)
    simp only [Nat.add_zero, List.getElem_cons_zero] at q
    rw [q, hu]
  · rw [hk] at hj
    have hjl : j - 1 < T.length := by
      have := (List.getElem?_eq_some_iff.1 hu).1
      simpa using this
    have hdl : j - (k + 1) < ((T.map encStr).drop k).length := by simp; omega
    have q := World.cell?_setCells_in w.heap.size ((T.map encStr).drop k) (k + 1) ((w.alloc (.cells C 9)).drew.setCells w.heap.size k [encStr s]).drew (fun i hi => hlt1 _ (by simp at hi; omega)) (j - (k + 1)) hdl
    rw [show k + 1 + (j - (k + 1)) = j by omega, List.getElem_drop] at q
    rw [q]
    rw [List.getElem?_eq_getElem (by simpa using hjl)] at hu
    rw [← hu]; congr 2; omega
/-- slices.Insert puts a text in its place. -/
theorem insertS (B : Nat) (A : Option Addr) (c vb : Nat) (T : List Str) (s : Str) (w : World) (hT : T.length ≤ 1000) (hB : B ≤ w.heap.size) (hown : w.ownsRow B 9 1 (.slice A T.length c) T.length (T.map encStr)) (hv : w.heap[vb]? = some (.cells #[.string ⟨s.toArray⟩] 9 (0, 0))) (hfar : ∀ g, A = some ⟨g, 0, none⟩ → vb ≠ g) :
    Calls Tryz.prog 252 #[.slice A T.length c, .int .i64 (posOf T s), .slice (some ⟨vb, 0, none⟩) 1 1] w (InsPost B T s w) := by
  have hp := pos_le T s
  by_cases hc : c < T.length + 1
  · by_cases he : posOf T s = T.length
    · exact ins_end_grow B A c vb T s w hT hB hown hv he hc
    · rcases hown.2 with ⟨e, h0⟩ | ⟨g, cap, cur, e, _⟩
      · omega
      · injection e with e1 e2 e3
        subst e1
        exact ins_grow B g c vb T s w hT hB ⟨hown, hv, hfar g rfl⟩ (by omega) hc
  · rcases hown.2 with ⟨e, h0⟩ | ⟨g, cap, cur, e, _⟩
    · injection e with e1 e2 e3
      omega
    · injection e with e1 e2 e3
      subst e1
      by_cases he : posOf T s = T.length
      · exact ins_end_room B g c vb T s w hT ⟨hown, hv, hfar g rfl⟩ he (by omega)
      · exact ins_shift B g c vb T s w hT ⟨hown, hv, hfar g rfl⟩ (by omega) (by omega)
/-- slices.BinarySearch tells a text's place in a rising row. -/
theorem searchS (A : Option Addr) (c : Nat) (T : List Str) (s : Str) (w : World) (hT : T.length ≤ 1000) (hr : T.Pairwise (· < ·)) (hA : SRow w A T) :
    Calls Tryz.prog 251 #[.slice A T.length c, .string ⟨s.toArray⟩] w fun e w' => e = .returned (.tuple #[.int .i64 (posOf T s), .bool (decide (s ∈ T))]) ∧ ∃ q, w' = w.drewN q := by
  rcases Nat.eq_zero_or_pos T.length with h0 | h0
  · obtain rfl : T = [] := List.eq_nil_of_length_eq_zero h0
    refine (Any2.slices_BinarySearch_string_empty More.laysBin A c ⟨s.toArray⟩ w).mono ?_
    rintro e w' ⟨rfl, rfl⟩
    exact ⟨by simp [posOf], 0, rfl⟩
  · obtain ⟨b, off, rfl, _, hc⟩ := hA h0
    have hq := Any2.slices_BinarySearch_string More.laysBin b off T.length c (fun j => if h : j < T.length then ⟨T[j].toArray⟩ else ⟨s.toArray⟩) ⟨s.toArray⟩ w (by omega) (fun j hj => by rw [hc j hj, dif_pos hj])
    have hless : ∀ t, Op.bytesLess (if h : t < T.length then (⟨T[t].toArray⟩ : ByteArray) else ⟨s.toArray⟩).toList (⟨s.toArray⟩ : ByteArray).toList = decide (t < posOf T s) := fun t => by
      rw [bytesLess_eq, Go.ByteArray.toList_eq, Go.ByteArray.toList_eq]
      by_cases ht : t < T.length
      · rw [dif_pos ht]
        show decide (T[t] < s) = _
        by_cases hp : t < posOf T s
        · rw [decide_eq_true hp, decide_eq_true (pos_lt hp ht)]
        · rw [decide_eq_false hp, decide_eq_false (pos_ge hr (by omega) ht)]
      · rw [dif_neg ht]
        have := pos_le T s
        show decide (s < s) = _
        rw [decide_eq_false (List.lt_irrefl s), decide_eq_false (by omega)]
    have hbs : Lib.bsGo (fun t => Op.bytesLess (if h : t < T.length then (⟨T[t].toArray⟩ : ByteArray) else ⟨s.toArray⟩).toList (⟨s.toArray⟩ : ByteArray).toList) T.length 0 T.length = posOf T s :=
      Lib.bsGo_spec _ (posOf T s) (fun t ht => by rw [hless]; exact decide_eq_true ht) (fun t ht => by rw [hless]; exact decide_eq_false (by omega)) _ _ _ (by omega) (Nat.zero_le _) (pos_le T s)
    rw [hbs] at hq
    refine hq.mono ?_
    rintro e w' ⟨rfl, hw⟩
    refine ⟨?_, hw⟩
    have hd : decide (posOf T s < T.length ∧ (if h : posOf T s < T.length then (⟨T[posOf T s].toArray⟩ : ByteArray) else ⟨s.toArray⟩) = ⟨s.toArray⟩) = decide (s ∈ T) := by
      refine decide_eq_decide.2 ⟨fun ⟨h1, h2⟩ => ?_, fun h => ?_⟩
      · rw [dif_pos h1] at h2
        refine (pos_mem hr).1 ⟨h1, ?_⟩
        have := congrArg (fun z : ByteArray => z.data.toList) h2
        simpa using this
      · obtain ⟨h1, h2⟩ := (pos_mem hr).2 h
        exact ⟨h1, by rw [dif_pos h1, h2]⟩
    rw [hd]
end Go.Proofs.YtkmpbkgmdfeicaaGreat.Qry9
/- The principals that stand at a line's end, by contract. -/
namespace Go.Proofs.YtkmpbkgmdfeicaaGreat.QryA
set_option linter.unusedVariables false
set_option linter.unusedSimpArgs false
open Go.RowKit Go.Sort Go.Proofs Go.Proofs.YtkmpbkgmdfeicaaGreat.Plain Go.Proofs.YtkmpbkgmdfeicaaGreat.SynP Go.Proofs.YtkmpbkgmdfeicaaGreat.TabP Go.Proofs.YtkmpbkgmdfeicaaGreat.Tab1 Go.Proofs.YtkmpbkgmdfeicaaGreat.SynA Go.Proofs.YtkmpbkgmdfeicaaGreat.QryP Go.Proofs.YtkmpbkgmdfeicaaGreat.Qry8 Go.Proofs.YtkmpbkgmdfeicaaGreat.Qry9
set_option linter.unusedVariables false
set_option linter.unusedSimpArgs false
def strOf (x : ByteArray) : Str := x.data.toList
/-- The principals that tokens begin with, how many tokens these are, and whether one too many follows. -/
def readW : List Tk → List Str → List Str × Nat × Bool
  | [], T => (T, 0, false)
  | t :: L, T => if t.kind = 1 then (if strOf t.text ∈ T then ((readW L T).1, (readW L T).2.1 + 1, (readW L T).2.2) else if T.length = 12 then (T, 0, true) else ((readW L (tab (T ++ [strOf t.text]))).1, (readW L (tab (T ++ [strOf t.text]))).2.1 + 1, (readW L (tab (T ++ [strOf t.text]))).2.2)) else (T, 0, false)
def addN (r : List Str × Nat × Bool) (d : Nat) : List Str × Nat × Bool := (r.1, r.2.1 + d, r.2.2)
theorem addN_add (r : List Str × Nat × Bool) (d e : Nat) : addN (addN r d) e = addN r (d + e) := by unfold addN; simp; omega
theorem readW_told {L : List Tk} {T : List Str} {k : Nat} (h : k < L.length) (hk : L[k].kind = 1) (hs : strOf L[k].text ∈ T) : readW (L.drop k) T = addN (readW (L.drop (k + 1)) T) 1 := by
  rw [List.drop_eq_getElem_cons h]
  show (if _ then _ else _) = _
  rw [if_pos hk, if_pos hs]; rfl
theorem readW_many {L : List Tk} {T : List Str} {k : Nat} (h : k < L.length) (hk : L[k].kind = 1) (hs : strOf L[k].text ∉ T) (h12 : T.length = 12) : readW (L.drop k) T = (T, 0, true) := by
  rw [List.drop_eq_getElem_cons h]
  show (if _ then _ else _) = _
  rw [if_pos hk, if_neg hs, if_pos h12]
theorem readW_put {L : List Tk} {T : List Str} {k : Nat} (h : k < L.length) (hk : L[k].kind = 1) (hs : strOf L[k].text ∉ T) (h12 : T.length ≠ 12) (hT : T.Pairwise (· < ·)) : readW (L.drop k) T = addN (readW (L.drop (k + 1)) (putIn T (strOf L[k].text))) 1 := by
  rw [putIn_tab hT hs, List.drop_eq_getElem_cons h]
  show (if _ then _ else _) = _
  rw [if_pos hk, if_neg hs, if_neg h12]; rfl
theorem readW_stop {L : List Tk} {T : List Str} {k : Nat} (h : ∀ h : k < L.length, L[k].kind ≠ 1) : readW (L.drop k) T = (T, 0, false) := by
  by_cases hk : k < L.length
  · rw [List.drop_eq_getElem_cons hk]
    show (if _ then _ else _) = _
    rw [if_neg (h hk)]
  · rw [List.drop_of_length_le (by omega)]; rfl
theorem text_of (x : ByteArray) : x = ⟨(strOf x).toArray⟩ := by unfold strOf; apply ByteArray.ext; simp
def WhoPost (r : List Str × Nat × Bool) (n0 : Nat) (w : World) (e : Ending) (w' : World) : Prop := ∃ A c, e = .returned (.tuple #[.slice A r.1.length c, .int .i64 (n0 + r.2.1 : Nat), .bool r.2.2]) ∧ w'.ownsRow w.heap.size 9 1 (.slice A r.1.length c) r.1.length (r.1.map encStr) ∧ Below w.heap.size w w'
theorem who_fin {L : List Tk} {n0 n c : Nat} {A : Option Addr} {T : List Str} {m : Bool} {w wr : World} (hr : readW (L.drop n0) [] = addN (T, 0, m) (n - n0)) (hn : n0 ≤ n) (hown : wr.ownsRow w.heap.size 9 1 (.slice A T.length c) T.length (T.map encStr)) (hb : Below w.heap.size w wr) : WhoPost (readW (L.drop n0) []) n0 w (.returned (.tuple #[.slice A T.length c, .int .i64 n, .bool m])) wr := by
  rw [hr]
  refine ⟨A, c, ?_, hown, hb⟩
  show Ending.returned (.tuple #[.slice A T.length c, .int .i64 (n : Nat), .bool m]) = .returned (.tuple #[.slice A T.length c, .int .i64 ((n0 + (0 + (n - n0)) : Nat) : Int), .bool m])
  rw [show n0 + (0 + (n - n0)) = n by omega]
set_option maxHeartbeats 2000000 in
set_option maxRecDepth 100000 in
theorem readWho (B : Option Addr) (ca : Nat) (L : List Tk) (n0 : Nat) (w : World) (hL : L.length ≤ 1000) (h0 : n0 ≤ L.length) (hB : TkAt w B L) :
    Calls Tryz.prog 239 #[.slice B L.length ca, .int .i64 n0] w (WhoPost (readW (L.drop n0) []) n0 w) := by
  have HB := Lib.hid hB
  clear hB
  go_enter Tryz.func239, Tryz.ntmps239
  go_wp2_with fail
  go_loopw [1, 7] (fun u1 u7 wr => ∃ (n c : Nat) (A : Option Addr) (T : List Str), n0 ≤ n ∧ n ≤ L.length ∧ u1 = .int .i64 n ∧ u7 = .slice A T.length c ∧ T.length ≤ 12 ∧ Hid (T.Pairwise (· < ·)) ∧ Hid (wr.ownsRow w.heap.size 9 1 (.slice A T.length c) T.length (T.map encStr)) ∧ Below w.heap.size w wr ∧ Hid (readW (L.drop n0) [] = addN (readW (L.drop n) T) (n - n0))) (fun u1 _ _ => L.length - (intOf u1).toNat)
  case atStart => exact ⟨n0, 0, none, [], Nat.le_refl _, h0, rfl, rfl, by simp, Lib.hid List.Pairwise.nil, Lib.hid (World.ownsRow_nil _ _ _ _), Below.refl _ _, Lib.hid (by simp [addN])⟩
  case round =>
    obtain ⟨n, c, A, T, hn0, hn, rfl, rfl, h12, hT, hown, hb, hrun⟩ := hrel
    by_cases hlt : n < L.length
    · have d1 : decide ((n : Int) < L.length) = true := by simp; omega
      obtain ⟨g, off, rfl, hg, hc⟩ := (HB.out.below hb) (by omega)
      obtain ⟨a0, a1, _⟩ := hc n hlt
      have p1 : (0 : Int) ≤ n := by omega
      have p2 : (n : Int) < L.length := by omega
      clear hc
      by_cases hk : L[n].kind = 1
      · rw [text_of L[n].text] at a1
        have ht : readW (L.drop n) T = _ := rfl
        have R1 := Lib.hid (fun h => readW_told (T := T) hlt hk h)
        have R2 := Lib.hid (fun h => readW_many (T := T) hlt hk h)
        have R3 := Lib.hid (fun h h' => readW_put (T := T) hlt hk h h' hT.out)
        rw [hk] at a0
        generalize strOf L[n].text = s at *
        have hA : SRow wr A T := by
          obtain ⟨A', c', e, _, hr⟩ := SRow.of_own hown.out
          injection e with e1
          subst e1; exact hr
        have HS := Lib.hid (searchS A c T s wr (by omega) hT.out hA)
        clear ht hA hk
        by_cases hs : s ∈ T
        · rw [decide_eq_true hs] at HS
          have hnext : Hid (readW (L.drop n0) [] = addN (readW (L.drop (n + 1)) T) (n + 1 - n0)) := Lib.hid (by rw [hrun.out, R1.out hs, addN_add]; congr 1; omega)
          clear hs R1 R2 R3 hrun
          go_wp2_with fail
          refine HS.out.mono ?_
          rintro e w1 ⟨rfl, q, rfl⟩
          go_wp2_with fail
          go_roundw
          case rel => exact ⟨n + 1, c, A, T, by omega, by omega, by go_num, rfl, h12, hT, Lib.hid hown.out, below_drewN hb _, hnext⟩
          case measure => simp [intOf]; omega
        · rw [decide_eq_false hs] at HS
          by_cases he : T.length = 12
          · have hd : ((T.length : Int) == 12) = true := by simp; omega
            have hfin := Lib.hid (fun q => who_fin (m := true) (wr := wr.drewN q) (by rw [hrun.out, R2.out hs he]) hn0 hown.out (below_drewN hb q))
            clear hs R1 R2 R3 hrun he
            go_wp2_with fail
            refine HS.out.mono ?_
            rintro e w1 ⟨rfl, q, rfl⟩
            go_wp2_with fail
            go_ret3
            exact hfin.out q
          · have hd' : (T.length : Int) ≠ 12 := by omega
            have hd : ((T.length : Int) == 12) = false := by simpa using hd'
            have hnext : Hid (readW (L.drop n0) [] = addN (readW (L.drop (n + 1)) (putIn T s)) (n + 1 - n0)) := Lib.hid (by rw [hrun.out, R3.out hs he, addN_add]; congr 1; omega)
            have hrise := Lib.hid (putIn_rising hT.out hs)
            have hl := putIn_len T s
            have hl12 : (putIn T s).length ≤ 12 := by omega
            clear hs R1 R2 R3 hrun he hd' hl
            go_wp2_with fail
            refine HS.out.mono ?_
            rintro e w1 ⟨rfl, q, rfl⟩
            go_wp2_with fail
            have hownX := (show (wr.drewN q).ownsRow w.heap.size 9 1 (.slice A T.length c) T.length (T.map encStr) from hown.out).alloc (.cells #[.string ⟨s.toArray⟩] 9)
            have hbX := (below_drewN hb q).alloc hb.size (.cells #[.string ⟨s.toArray⟩] 9)
            refine (insertS w.heap.size A c wr.heap.size T s ((wr.drewN q).alloc (.cells #[.string ⟨s.toArray⟩] 9)) (by omega) hbX.size hownX (heap_alloc_new (wr.drewN q) _) (fun g hg => by have := (hown.out.lt g (by rw [hg]; rfl)).2; omega)).mono ?_
            rintro e w2 ⟨A2, c2, rfl, hown2, hb2⟩
            have hown3 := Lib.hid hown2
            clear hownX hown2
            go_wp2_with fail
            go_roundw
            case rel => exact ⟨n + 1, c2, A2, putIn T s, by omega, by omega, by go_num, rfl, hl12, hrise, hown3, hbX.trans hb2, hnext⟩
            case measure => simp [intOf]; omega
      · have hk' : (L[n].kind == 1) = false := by simpa using hk
        have hfin := Lib.hid (who_fin (m := false) (by rw [hrun.out, readW_stop (fun _ => hk)]) hn0 hown.out hb)
        clear hk hrun
        go_wp2_with fail
        go_ret3
        exact hfin.out
    · have d1 : decide ((n : Int) < L.length) = false := by simp; omega
      have hfin := Lib.hid (who_fin (m := false) (by rw [hrun.out, readW_stop (fun h => absurd h hlt)]) hn0 hown.out hb)
      clear hrun
      go_wp2_with fail
      go_ret3
      exact hfin.out
end Go.Proofs.YtkmpbkgmdfeicaaGreat.QryA
/- A line's tokens read as those of one kind, by contract. -/
namespace Go.Proofs.YtkmpbkgmdfeicaaGreat.QryB
set_option linter.unusedVariables false
set_option linter.unusedSimpArgs false
open Go.RowKit Go.Sort Go.Proofs Go.Proofs.YtkmpbkgmdfeicaaGreat.Plain Go.Proofs.YtkmpbkgmdfeicaaGreat.SynP Go.Proofs.YtkmpbkgmdfeicaaGreat.SynQ Go.Proofs.YtkmpbkgmdfeicaaGreat.TabP Go.Proofs.YtkmpbkgmdfeicaaGreat.Tab1 Go.Proofs.YtkmpbkgmdfeicaaGreat.Grown Go.Proofs.YtkmpbkgmdfeicaaGreat.SynA Go.Proofs.YtkmpbkgmdfeicaaGreat.SynC Go.Proofs.YtkmpbkgmdfeicaaGreat.SynR Go.Proofs.YtkmpbkgmdfeicaaGreat.SynS Go.Proofs.YtkmpbkgmdfeicaaGreat.SynV Go.Proofs.YtkmpbkgmdfeicaaGreat.QryP Go.Proofs.YtkmpbkgmdfeicaaGreat.Qry4 Go.Proofs.YtkmpbkgmdfeicaaGreat.Qry5 Go.Proofs.YtkmpbkgmdfeicaaGreat.Qry6 Go.Proofs.YtkmpbkgmdfeicaaGreat.Qry7 Go.Proofs.YtkmpbkgmdfeicaaGreat.QryA
set_option linter.unusedVariables false
set_option linter.unusedSimpArgs false
def textAt (L : List Tk) (k : Nat) : ByteArray := ((L[k]?).map Tk.text).getD noText
/-- The query, how many tokens go on so, and why it is none (0, 2, 3, 5: OK, ErrForm, ErrEnd, ErrMany). -/
def readQ (k : Int) (L : List Tk) : Qy × Nat × Int :=
  let n := agreeF L (shapeF k)
  if n = (shapeF k).length then
    let r := if hasWk k then readW (L.drop n) [] else ([], 0, false)
    let q : Qy := ⟨k, ⟨textAt L 1, textAt L 3⟩, if hasBk k then ⟨textAt L (n - 3), textAt L (n - 1)⟩ else zeroR, r.1⟩
    (q, n + r.2.1, if r.2.2 then 5 else if n + r.2.1 < L.length then 2 else if q.right then 0 else 3)
  else (⟨k, zeroR, zeroR, []⟩, n, if n < L.length then 2 else 3)
def ReadPost (r : Qy × Nat × Int) (w : World) (e : Ending) (w' : World) : Prop := ∃ A c, e = .returned (.tuple #[r.1.val A c, .int .i64 r.2.1, .int .i64 r.2.2]) ∧ SRow w' A r.1.who ∧ (∀ g o, A = some ⟨g, o, none⟩ → w.heap.size ≤ g) ∧ Below w.heap.size w w'
theorem read_no_eq {k : Int} {L : List Tk} (h : agreeF L (shapeF k) ≠ (shapeF k).length) : readQ k L = (⟨k, zeroR, zeroR, []⟩, agreeF L (shapeF k), if agreeF L (shapeF k) < L.length then 2 else 3) := by
  unfold readQ
  simp only []
  rw [if_neg h]
theorem zero_right (k : Int) : Qy.right ⟨k, zeroR, zeroR, []⟩ = false := by
  unfold Qy.right
  have : zeroR.ok = false := by decide +kernel
  rw [this]; rfl
theorem shape_len (k : Int) : (shapeF k).length ≤ 20 := by
  unfold shapeF roleF wordsL
  simp
  (repeat' split) <;> simp
theorem some_at {X : World} {n : Nat} (h : (X.cell? ⟨n, 5, none⟩).isSome = true) (i : Nat) (hi : i ≤ 5) : ∃ u, X.cell? ⟨n, i, none⟩ = some u := by
  unfold World.cell? at *
  cases hx : X.heap[n]? with
  | none => rw [hx] at h; simp at h
  | some x =>
    rw [hx] at h
    cases x with
    | cells c e f =>
      simp at h ⊢
      exact ⟨_, Array.getElem?_eq_getElem (by omega)⟩
    | _ => simp at h
set_option maxHeartbeats 1000000 in
/-- Six stores into a block of six cells. -/
theorem set6 (X : World) (n : Nat) (v0 v1 v2 v3 v4 v5 : Value) (o : Nat) (ho : o < 6) (h : (X.cell? ⟨n, 5, none⟩).isSome = true) : ((((((X.setCell ⟨n, 0, none⟩ v0).setCell ⟨n, 1, none⟩ v1).setCell ⟨n, 2, none⟩ v2).setCell ⟨n, 3, none⟩ v3).setCell ⟨n, 4, none⟩ v4).setCell ⟨n, 5, none⟩ v5).cell? ⟨n, o, none⟩ = (#[v0, v1, v2, v3, v4, v5] : Array Value)[o]? := by
  obtain ⟨u0, h0⟩ := some_at h 0 (by omega)
  obtain ⟨u1, h1⟩ := some_at h 1 (by omega)
  obtain ⟨u2, h2⟩ := some_at h 2 (by omega)
  obtain ⟨u3, h3⟩ := some_at h 3 (by omega)
  obtain ⟨u4, h4⟩ := some_at h 4 (by omega)
  obtain ⟨u5, h5⟩ := some_at h 5 (by omega)
  match o, ho with
  | 0, _ => simp [set_cell, h0, h1, h2, h3, h4, h5]
  | 1, _ => simp [set_cell, h0, h1, h2, h3, h4, h5]
  | 2, _ => simp [set_cell, h0, h1, h2, h3, h4, h5]
  | 3, _ => simp [set_cell, h0, h1, h2, h3, h4, h5]
  | 4, _ => simp [set_cell, h0, h1, h2, h3, h4, h5]
  | 5, _ => simp [set_cell, h0, h1, h2, h3, h4, h5]
theorem set6_far (X : World) (n g i : Nat) (v0 v1 v2 v3 v4 v5 : Value) (h : n ≠ g) : ((((((X.setCell ⟨n, 0, none⟩ v0).setCell ⟨n, 1, none⟩ v1).setCell ⟨n, 2, none⟩ v2).setCell ⟨n, 3, none⟩ v3).setCell ⟨n, 4, none⟩ v4).setCell ⟨n, 5, none⟩ v5).cell? ⟨g, i, none⟩ = X.cell? ⟨g, i, none⟩ := by
  rw [set_far _ _ _ _ _ _ h, set_far _ _ _ _ _ _ h, set_far _ _ _ _ _ _ h, set_far _ _ _ _ _ _ h, set_far _ _ _ _ _ _ h, set_far _ _ _ _ _ _ h]
theorem srow_set {w : World} {A : Option Addr} {T : List Str} (h : SRow w A T) {b : Nat} (hb : ∀ g o, A = some ⟨g, o, none⟩ → b ≠ g) (i : Nat) (v : Value) : SRow (w.setCell ⟨b, i, none⟩ v) A T := fun hp => by
  obtain ⟨g, o, e, hg, hc⟩ := h hp
  exact ⟨g, o, e, by rw [set_size]; exact hg, fun j hj => (set_far _ _ _ _ _ _ (hb g o e)).trans (hc j hj)⟩
def zero6 : Obj := .cells #[.int .i64 0, .string ⟨#[]⟩, .string ⟨#[]⟩, .string ⟨#[]⟩, .string ⟨#[]⟩, .slice none 0 0] 49
def kind6 (k : Int) : Obj := .cells #[.int .i64 k, .string ⟨#[]⟩, .string ⟨#[]⟩, .string ⟨#[]⟩, .string ⟨#[]⟩, .slice none 0 0] 49
/-- The two boxes behind the calls of shape and agree. -/
structure Boxes (k : Int) (w w2 : World) : Prop where
  res : w2.heap[w.heap.size]? = some (.cells #[.int .i64 0, .string ⟨#[]⟩, .string ⟨#[]⟩, .string ⟨#[]⟩, .string ⟨#[]⟩, .slice none 0 0] 49 (0, 0))
  box : w2.heap[w.heap.size + 1]? = some (.cells #[.int .i64 k, .string ⟨#[]⟩, .string ⟨#[]⟩, .string ⟨#[]⟩, .string ⟨#[]⟩, .slice none 0 0] 49 (0, 0))
  below : RowKit.Below w.heap.size w w2
  size : w.heap.size + 1 < w2.heap.size
theorem boxes {k : Int} {w w1 w2 : World} (h1 : RowKit.Below ((w.alloc zero6).alloc (kind6 k)).heap.size ((w.alloc zero6).alloc (kind6 k)) w1) (h2 : Grew w1 w2) : Boxes k w w2 := by
  have h := h1.trans (h2.below.mono h1.size)
  have hz := h.size
  simp only [World.size_alloc] at hz
  have r := heap_alloc_new (w.alloc zero6) (kind6 k)
  rw [World.size_alloc] at r
  refine ⟨?_, ?_, (((Below.refl _ _).alloc (Nat.le_refl _) _).alloc (by simp) _).trans (h.mono (by simp; omega)), by omega⟩
  · exact (h.block _ (by simp; omega)).trans ((Below.heap_alloc _ _ _ (by simp)).trans (heap_alloc_new w zero6))
  · exact (h.block _ (by simp)).trans r
set_option maxHeartbeats 2000000 in
set_option maxRecDepth 100000 in
theorem read_no (k : Int) (A : Option Addr) (ca : Nat) (L : List Tk) (w : World) (hL : L.length ≤ 1000) (hA : TkAt w A L) (h : agreeF L (shapeF k) ≠ (shapeF k).length) :
    Calls Tryz.prog 209 #[.int .i64 k, .slice A L.length ca] w (ReadPost (readQ k L) w) := by
  rw [read_no_eq h]
  generalize her : (if agreeF L (shapeF k) < L.length then (2 : Int) else 3) = er
  have HER := Lib.hid her
  have HN := Lib.hid h
  have HA := Lib.hid hA
  have hle := agreeF_le L (shapeF k)
  have hsl := shape_len k
  have HS := Lib.hid (Qry7.shape k ⟨#[]⟩ ⟨#[]⟩ ⟨#[]⟩ ⟨#[]⟩ none 0 0)
  have HG := Lib.hid (fun (V : Option Addr) (cv : Nat) (vs : List Value) (w' : World) (hb : RowKit.Below w.heap.size w w') (hv : VRow w' V vs) (hf : FnsAt w' vs (shapeF k)) => Qry5.agree A ca L V cv vs (shapeF k) w' hL (by omega) (HA.out.below hb) hv hf)
  clear hA h her
  go_enter Tryz.func209, Tryz.ntmps209
  go_wp2_with fail
  refine (HS.out _).mono ?_
  rintro e w1 ⟨v1, vs1, rfl, hown, hfn, hb1⟩
  obtain ⟨V, cv, rfl, _, hvr⟩ := VRow.of_own hown
  have hbw : RowKit.Below w.heap.size w w1 := (((Below.refl _ _).alloc (Nat.le_refl _) _).alloc (by simp) _).trans (hb1.mono (by simp; omega))
  have HGG := Lib.hid (HG.out V cv vs1 w1 hbw hvr hfn)
  have HB1 := Lib.hid hb1
  clear hown hfn hvr hbw hb1 HA
  go_wp2_with fail
  refine HGG.out.mono ?_
  rintro e w2 ⟨rfl, hg⟩
  have hbx := boxes (k := k) HB1.out hg
  generalize hn : agreeF L (shapeF k) = n at *
  generalize hm : (shapeF k).length = m at *
  have hnm := HN.out
  have d1 : ((n : Int) == m) = false := by simp; omega
  clear hg HGG HG HS hn hm HB1 hnm
  have bR := hbx.res
  have bQ := hbx.box
  have HB2 := Lib.hid hbx.below
  have z2 := hbx.size
  have hcR := fun o => Lib.cell_of_heap bR o
  have hfR := blk_frozen bR
  have hcQ := fun o => Lib.cell_of_heap bQ o
  have z3 : w.heap.size < w2.heap.size := by omega
  have HZ := Lib.hid (show Qy.val ⟨k, zeroR, zeroR, []⟩ none 0 = .agg #[.int .i64 k, .string ⟨#[]⟩, .string ⟨#[]⟩, .string ⟨#[]⟩, .string ⟨#[]⟩, .slice none 0 0] from rfl)
  by_cases hlt : n < L.length
  · have he : er = 2 := by have := HER.out; rw [if_pos hlt] at this; exact this.symm
    subst he
    clear HER hbx bR bQ
    have gc := set_cell
    go_wp2_with fail
    refine bodyPost_ret (v := .tuple #[.agg #[.int .i64 k, .string ⟨#[]⟩, .string ⟨#[]⟩, .string ⟨#[]⟩, .string ⟨#[]⟩, .slice none 0 0], .int .i64 n, .int .i64 2]) (by simp [results, Tryz.results209, go_sem, set6, hcR]) rfl ⟨none, 0, by rw [HZ.out], (fun h => by simp at h), (fun g o e => by cases e), ?_⟩
    exact (((((HB2.out.setCell (by simp) _).setCell (by simp) _).setCell (by simp) _).setCell (by simp) _).setCell (by simp) _).setCell (by simp) _
  · have he : er = 3 := by have := HER.out; rw [if_neg hlt] at this; exact this.symm
    subst he
    have HR := Lib.hid (Qry2.right k ⟨#[]⟩ ⟨#[]⟩ ⟨#[]⟩ ⟨#[]⟩ none 0 [] w2 ⟨⟨Nat.zero_le _, Nat.zero_le _⟩, ⟨Nat.zero_le _, Nat.zero_le _⟩, Nat.zero_le _, fun s h => by simp at h⟩ (fun h => by simp at h))
    have HF := Lib.hid (zero_right k)
    clear HER
    go_wp2_with fail
    refine HR.out.mono ?_
    rintro e w3 ⟨rfl, hb3⟩
    have hf' := HF.out
    unfold zeroR noText at hf'
    rw [hf']
    have bR3 := blk_below bR hb3 (by omega)
    have bQ3 := blk_below bQ hb3 (by omega)
    have HB3 := Lib.hid (HB2.out.trans (hb3.mono (by omega)))
    clear hcR hfR hcQ bR bQ hb3 hbx hf'
    have hcR := fun o => Lib.cell_of_heap bR3 o
    have hfR := blk_frozen bR3
    have hcQ := fun o => Lib.cell_of_heap bQ3 o
    have gc := set_cell
    clear bR3 bQ3
    go_wp2_with fail
    refine bodyPost_ret (v := .tuple #[.agg #[.int .i64 k, .string ⟨#[]⟩, .string ⟨#[]⟩, .string ⟨#[]⟩, .string ⟨#[]⟩, .slice none 0 0], .int .i64 n, .int .i64 3]) (by simp [results, Tryz.results209, go_sem, set6, hcR]) rfl ⟨none, 0, by rw [HZ.out], (fun h => by simp at h), (fun g o e => by cases e), ?_⟩
    exact (((((HB3.out.setCell (by simp) _).setCell (by simp) _).setCell (by simp) _).setCell (by simp) _).setCell (by simp) _).setCell (by simp) _
end Go.Proofs.YtkmpbkgmdfeicaaGreat.QryB
/- Plain mathematics: what a line's tokens are asked as, kind by kind. -/
namespace Go.Proofs.YtkmpbkgmdfeicaaGreat.QryC
set_option linter.unusedVariables false
set_option linter.unusedSimpArgs false
open Go.RowKit Go.Sort Go.Proofs.YtkmpbkgmdfeicaaGreat.Plain Go.Proofs.YtkmpbkgmdfeicaaGreat.SynP Go.Proofs.YtkmpbkgmdfeicaaGreat.TabP Go.Proofs.YtkmpbkgmdfeicaaGreat.SynR Go.Proofs.YtkmpbkgmdfeicaaGreat.QryP Go.Proofs.YtkmpbkgmdfeicaaGreat.Qry4 Go.Proofs.YtkmpbkgmdfeicaaGreat.Qry5 Go.Proofs.YtkmpbkgmdfeicaaGreat.Qry7 Go.Proofs.YtkmpbkgmdfeicaaGreat.QryA Go.Proofs.YtkmpbkgmdfeicaaGreat.QryB
def zeroQ : Qy := ⟨0, zeroR, zeroR, []⟩
/-- Where the n-th token begins, or the place behind the last one. -/
def placeOf (L : List Tk) (n : Nat) : Nat := if n < L.length then SynQ.colAt L n else SynQ.behindOf L
/-- The kinds behind the first k, with how far was read, and why it is none. -/
def goQ (L : List Tk) : Nat → Nat → Nat → Int → Qy × Int × Int
  | 0, _, f, y => (zeroQ, placeOf L f, y)
  | m + 1, k, f, y => let r := readQ ((k + 1 : Nat) : Int) L
    if r.2.2 = 0 then (r.1, 0, 0) else if f ≤ r.2.1 then goQ L m (k + 1) r.2.1 r.2.2 else goQ L m (k + 1) f y
def parseQ (L : List Tk) : Qy × Int × Int := goQ L 6 0 0 0
theorem goQ_hit {L : List Tk} {m k f : Nat} {y : Int} (h : (readQ ((k + 1 : Nat) : Int) L).2.2 = 0) : goQ L (m + 1) k f y = ((readQ ((k + 1 : Nat) : Int) L).1, 0, 0) := by
  show (if _ then _ else _) = _
  rw [if_pos h]
theorem goQ_far {L : List Tk} {m k f : Nat} {y : Int} (h : (readQ ((k + 1 : Nat) : Int) L).2.2 ≠ 0) (hf : f ≤ (readQ ((k + 1 : Nat) : Int) L).2.1) : goQ L (m + 1) k f y = goQ L m (k + 1) (readQ ((k + 1 : Nat) : Int) L).2.1 (readQ ((k + 1 : Nat) : Int) L).2.2 := by
  show (if _ then _ else _) = _
  rw [if_neg h, if_pos hf]
theorem goQ_near {L : List Tk} {m k f : Nat} {y : Int} (h : (readQ ((k + 1 : Nat) : Int) L).2.2 ≠ 0) (hf : ¬ f ≤ (readQ ((k + 1 : Nat) : Int) L).2.1) : goQ L (m + 1) k f y = goQ L m (k + 1) f y := by
  show (if _ then _ else _) = _
  rw [if_neg h, if_neg hf]
end Go.Proofs.YtkmpbkgmdfeicaaGreat.QryC
