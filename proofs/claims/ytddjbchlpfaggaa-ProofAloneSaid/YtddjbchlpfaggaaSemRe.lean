/- The document's Eval: its rows, as they are laid. -/
import Derived.Test.YtddjbchlpfaggaaSemRd
import Derived.Deep.RegionHeld3
namespace Go.Proofs.Ytddjbchlpfaggaa.SemRe
open Go.RowKit Go.Lib Go.Proofs Go.Proofs.Ytddjbchlpfaggaa.TblB Go.Proofs.Ytddjbchlpfaggaa.TblC Go.Proofs.Ytddjbchlpfaggaa.TblV Go.Proofs.Ytddjbchlpfaggaa.TblP Go.Proofs.Ytddjbchlpfaggaa.TblQ Go.Proofs.Ytddjbchlpfaggaa.SemA Go.Proofs.Ytddjbchlpfaggaa.SemB Go.Proofs.Ytddjbchlpfaggaa.SemJ Go.Proofs.Ytddjbchlpfaggaa.SemR Go.Proofs.Ytddjbchlpfaggaa.SemRa Go.Proofs.Ytddjbchlpfaggaa.SemRb Go.Proofs.Ytddjbchlpfaggaa.SemRd
set_option linter.unusedVariables false
set_option linter.unusedSimpArgs false
def rv (P b : Nat) : Value := .slice (some ⟨b, 0, none⟩) P P
def nobody (P : Nat) : Obj := .cells (Array.replicate P (.bool false)) 4
structure Rs (w : World) (B mo P K : Nat) (v : Value) (xs : List Nat) : Prop where
  own : w.ownsRow B 65 1 v xs.length (xs.map (rv P))
  h0 : w.heap[mo]? = some (.cells #[.int .i64 P, .int .i64 K, v] 64 (0, 0))
  mb : mo < B
  bs : B ≤ w.heap.size
  row : ∀ b ∈ xs, B ≤ b ∧ w.heap[b]? = some (nobody P)
  nd : xs.Nodup
  e : xs = [] → v = .slice none 0 0
theorem ty_ne : (4 : TypeId) ≠ 65 := by decide
/-- Where the row lies: no row's own block. -/
theorem Rs.apart {w : World} {B mo P K : Nat} {v : Value} {xs : List Nat} (h : Rs w B mo P K v xs) {g : Nat} (hg : v.ownBlock = some g) : B ≤ g ∧ g < w.heap.size ∧ (∃ cur, w.heap[g]? = some (.cells cur 65 (0, 0))) ∧ g ∉ xs := by
  rcases h.own.2 with ⟨rfl, _⟩ | ⟨g', cap, cur, rfl, h1, h2, _⟩
  · cases hg
  · injection hg with hg
    subst hg
    refine ⟨h1, (Array.getElem?_eq_some_iff.1 h2).1, ⟨cur, h2⟩, fun hm => ?_⟩
    have := (h.row _ hm).2
    rw [h2] at this
    unfold nobody at this
    injection this with this
    injection this with _ e _
    exact ty_ne e.symm
theorem own_keep {w w' : World} {base : Nat} {e : TypeId} {size : Nat} {v : Value} {n : Nat} {xs : List Value} (h : w.ownsRow base e size v n xs) (hb : Below w.heap.size w w') : w'.ownsRow base e size v n xs := by
  refine ⟨h.1, ?_⟩
  rcases h.2 with hn | ⟨g, cap, cur, hv, h1, hg, rest⟩
  · exact .inl hn
  · exact .inr ⟨g, cap, cur, hv, h1, (hb.block g (heap_lt hg)).trans hg, rest⟩
theorem Rs.below {w w' : World} {B mo P K : Nat} {v : Value} {xs : List Nat} (h : Rs w B mo P K v xs) (hb : Below w.heap.size w w') : Rs w' B mo P K v xs :=
  ⟨own_keep h.own hb, (hb.block _ (by have := h.mb; have := h.bs; omega)).trans h.h0, h.mb, Nat.le_trans h.bs hb.size, fun b hm => ⟨(h.row b hm).1, (hb.block _ (heap_lt (h.row b hm).2)).trans (h.row b hm).2⟩, h.nd, h.e⟩
theorem own_set {w : World} {B : Nat} {e : TypeId} {k n : Nat} {v : Value} {xs : List Value} (h : w.ownsRow B e k v n xs) (mo o : Nat) (hm : mo < B) (u : Value) : (w.setCell ⟨mo, o, none⟩ u).ownsRow B e k v n xs := by
  refine ⟨h.1, ?_⟩
  rcases h.2 with hn | ⟨g, cap, cur, hv, hb, hg, rest⟩
  · exact .inl hn
  · exact .inr ⟨g, cap, cur, hv, hb, (heap_setCell_other w ⟨mo, o, none⟩ g _ (by show g ≠ mo; omega)).trans hg, rest⟩
def X1 (w : World) (P : Nat) : World := w.alloc (nobody P)
def X2 (w : World) (P : Nat) : World := (X1 w P).alloc (.cells #[rv P w.heap.size] 65)
theorem X2_below (w : World) (P : Nat) : Below w.heap.size w (X2 w P) := ((Below.refl _ _).alloc (Nat.le_refl _) _).alloc (by simp) _
theorem X2_size (w : World) (P : Nat) : (X2 w P).heap.size = w.heap.size + 2 := by unfold X2 X1; simp
theorem Rs.kept {w w1 : World} {B mo P K : Nat} {v : Value} {xs : List Nat} (h : Rs w B mo P K v xs) (hg : (X2 w P).grownBy w1 v.ownBlock) (v1 : Value) :
    w1.cell? ⟨mo, 0, none⟩ = some (.int .i64 P) ∧ w1.frozen? ⟨mo, 2, none⟩ = false ∧ (w1.setCell ⟨mo, 2, none⟩ v1).cell? ⟨mo, 0, none⟩ = some (.int .i64 P) ∧ w1.cell? ⟨mo, 2, none⟩ = some v := by
  have hX := h.below (X2_below w P)
  have hs := X2_size w P
  have hmo : w1.heap[mo]? = some (.cells #[.int .i64 P, .int .i64 K, v] 64 (0, 0)) := by
    rw [hg.block mo (by have := h.mb; have := h.bs; omega) (fun e => by have := (h.apart e.symm).1; have := h.mb; omega)]
    exact hX.h0
  exact ⟨Lib.cell_of_heap hmo 0, frozen_of_row _ _ _ _ _ hmo, Lib.cell_of_heap (heap_setCell_same _ _ _ _ _ _ hmo) 0, Lib.cell_of_heap hmo 2⟩
theorem Rs.push {w w1 : World} {B mo P K : Nat} {v v1 : Value} {xs : List Nat} (h : Rs w B mo P K v xs) (ho : w1.ownsRow B 65 1 v1 (xs.length + 1) (xs.map (rv P) ++ [rv P w.heap.size])) (hg : (X2 w P).grownBy w1 v.ownBlock) :
    Rs (w1.setCell ⟨mo, 2, none⟩ v1) B mo P K v1 (xs ++ [w.heap.size]) := by
  have hX := h.below (X2_below w P)
  have hs := X2_size w P
  have hmo : w1.heap[mo]? = some (.cells #[.int .i64 P, .int .i64 K, v] 64 (0, 0)) := by
    rw [hg.block mo (by have := h.mb; have := h.bs; omega) (fun e => by have := (h.apart e.symm).1; have := h.mb; omega)]
    exact hX.h0
  refine ⟨?_, ?_, h.mb, ?_, fun b hm => ?_, ?_, fun q => (by simp at q)⟩
  · have := own_set ho mo 2 h.mb v1
    rw [List.length_append, List.length_singleton, List.map_append, List.map_singleton]
    exact this
  · exact heap_setCell_same _ _ _ _ _ _ hmo
  · show B ≤ (w1.setCell _ _).heap.size
    have := hg.size
    have := h.bs
    simp [World.setCell]
    omega
  · have hb : B ≤ b ∧ (X2 w P).heap[b]? = some (nobody P) := by
      rcases List.mem_append.1 hm with q | q
      · exact hX.row b q
      · rw [List.mem_singleton] at q
        subst q
        refine ⟨h.bs, ?_⟩
        unfold X2
        rw [Below.heap_alloc _ _ _ (by unfold X1; simp)]
        exact heap_alloc_new w _
    refine ⟨hb.1, ?_⟩
    rw [heap_setCell_other _ _ _ _ (by show b ≠ mo; have := h.mb; omega)]
    rw [hg.block b (heap_lt hb.2) (fun e => ?_)]
    · exact hb.2
    · obtain ⟨_, q2, _, q4⟩ := h.apart e.symm
      rcases List.mem_append.1 hm with q | q
      · exact q4 q
      · rw [List.mem_singleton] at q; omega
  · rw [List.nodup_append]
    refine ⟨h.nd, by simp, fun a ha b hb e => ?_⟩
    rw [List.mem_singleton] at hb
    have := heap_lt (h.row a ha).2
    omega
theorem Rs.push_below {w0 w w1 : World} {B mo P K : Nat} {v v1 : Value} {xs : List Nat} (h : Rs w B mo P K v xs) (hb : Below w0.heap.size w0 w) (hm : w0.heap.size ≤ mo) (hg : (X2 w P).grownBy w1 v.ownBlock) : Below w0.heap.size w0 (w1.setCell ⟨mo, 2, none⟩ v1) := by
  have hX := X2_below w P
  have hs := X2_size w P
  refine ⟨hg.os.trans (hX.os.trans hb.os), hg.tape.trans (hX.tape.trans hb.tape), hg.output.trans (hX.output.trans hb.output), ?_, fun k hk => ?_⟩
  · have := hg.size; have := hb.size; simp [World.setCell]; omega
  · have := hb.size
    rw [heap_setCell_other _ _ _ _ (by show k ≠ mo; omega), hg.block k (by omega) (fun e => by have := (h.apart e.symm).1; have := h.mb; omega), hX.block k (by omega), hb.block k hk]
/-- All rows laid: a model that nobody is in. -/
theorem Rs.model {w : World} {B mo P K n : Nat} {v : Value} {xs : List Nat} (h : Rs w B mo P K v xs) (hn : xs.length = n) : ∃ gi ca, v = .slice (if n = 0 then none else some ⟨gi, 0, none⟩) n ca ∧ MR w mo gi ca P K n (fun r => xs.getD r 0) (fun _ _ => false) ∧ (0 < n → B ≤ gi) ∧ ∀ r, r < n → B ≤ xs.getD r 0 := by
  have hget : ∀ r, r < n → xs.getD r 0 ∈ xs := fun r hr => by
    rw [List.getD_eq_getElem?_getD, List.getElem?_eq_getElem (by omega)]
    exact List.getElem_mem _
  have hinj : ∀ r s, r < n → s < n → xs.getD r 0 = xs.getD s 0 → r = s := fun r s hr hs e => by
    rw [List.getD_eq_getElem?_getD, List.getD_eq_getElem?_getD, List.getElem?_eq_getElem (by omega), List.getElem?_eq_getElem (by omega)] at e
    exact (List.getElem_inj h.nd).1 e
  have hrow : ∀ r, r < n → ∃ vs, w.heap[xs.getD r 0]? = some (.cells vs 4 (0, 0)) ∧ ∀ x, x < P → vs[x]? = some (.bool ((fun _ _ => false : Rel) r x)) := fun r hr => ⟨_, (h.row _ (hget r hr)).2, fun x hx => by
    rw [Array.getElem?_replicate, if_pos hx]⟩
  by_cases h0 : n = 0
  · obtain rfl : xs = [] := List.eq_nil_of_length_eq_zero (by omega)
    subst h0
    obtain rfl := h.e rfl
    refine ⟨0, 0, rfl, ⟨?_, fun r hr => by omega, fun q => by omega, fun r hr => by omega, fun r s hr => by omega, fun r hr => by omega⟩, fun q => by omega, fun r hr => by omega⟩
    exact h.h0
  · rcases h.own.2 with ⟨rfl, hz⟩ | ⟨g, cap, cur, rfl, h1, h2, h3, h4, h5, h6⟩
    · omega
    · have hlt := (Array.getElem?_eq_some_iff.1 h2).1
      refine ⟨g, cap, by rw [if_neg h0, hn], ⟨?_, fun r hr => ⟨P, ?_⟩, fun q => ⟨hlt, by have := h.mb; omega⟩, hrow, hinj, fun r hr => ⟨by have := (h.row _ (hget r hr)).1; have := h.mb; omega, fun e => (h.apart (g := g) rfl).2.2.2 (by rw [← e]; exact hget r hr)⟩⟩, fun _ => h1, fun r hr => (h.row _ (hget r hr)).1⟩
      · rw [if_neg h0, ← hn]; exact h.h0
      · rw [Lib.cell_of_heap h2]
        have e : (cur.toList.take (xs.length * 1))[r]? = (xs.map (rv P))[r]? := by rw [h6]
        rw [List.getElem?_take, if_pos (by omega), List.getElem?_map, List.getElem?_eq_getElem (l := xs) (by omega), Array.getElem?_toList] at e
        rw [e, List.getD_eq_getElem?_getD, List.getElem?_eq_getElem (by omega)]
        rfl
end Go.Proofs.Ytddjbchlpfaggaa.SemRe
