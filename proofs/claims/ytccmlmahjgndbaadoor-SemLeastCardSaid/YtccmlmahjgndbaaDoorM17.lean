/- That a rule holds: the program's way and the document's way say the same. -/
import Derived.Test.YtccmlmahjgndbaaDoorM15
import Derived.Test.YtccmlmahjgndbaaDoorM16
namespace Go.Proofs.YtccmlmahjgndbaaDoor.SemRj
set_option linter.unusedVariables false
set_option linter.unusedSimpArgs false
open Go.RowKit Go.Lib Go.Proofs Go.Proofs.YtccmlmahjgndbaaDoor.TblB Go.Proofs.YtccmlmahjgndbaaDoor.TblC Go.Proofs.YtccmlmahjgndbaaDoor.TblV Go.Proofs.YtccmlmahjgndbaaDoor.TblP Go.Proofs.YtccmlmahjgndbaaDoor.TblQ Go.Proofs.YtccmlmahjgndbaaDoor.SetA Go.Proofs.YtccmlmahjgndbaaDoor.SetN Go.Proofs.YtccmlmahjgndbaaDoor.SemA Go.Proofs.YtccmlmahjgndbaaDoor.SemJ Go.Proofs.YtccmlmahjgndbaaDoor.SemR Go.Proofs.YtccmlmahjgndbaaDoor.SemRa Go.Proofs.YtccmlmahjgndbaaDoor.SemRd Go.Proofs.YtccmlmahjgndbaaDoor.SemRf Go.Proofs.YtccmlmahjgndbaaDoor.SemRh Go.Proofs.YtccmlmahjgndbaaDoor.SemGa Go.Proofs.YtccmlmahjgndbaaDoor.SemHp Go.Proofs.YtccmlmahjgndbaaDoor.SemMo
set_option linter.unusedVariables false
set_option linter.unusedSimpArgs false
theorem inside_iff {all : List Pr} {r q : Int} : insideL all r q = true ↔ ∀ x, (r, x) ∈ all → (q, x) ∈ all := by
  refine ⟨fun h x hx => ?_, inside_of⟩
  unfold insideL at h
  rw [List.all_eq_true] at h
  have := h _ hx
  simp at this
  exact hasL_iff.1 this
/-- A rule holds of a model: whoever comes in by it is in. -/
def Closd (P K : Nat) (f : Rel) (u : Ru) : Prop := ∀ x, x < P → cnd P K f u x = true → f u.head.toNat x = true
theorem hold_iff {P K : Nat} {L : List Ru} {all : List Pr} {f : Rel} (hd : ∀ r x, (r, x) ∈ all ↔ Der K (L.filter (rightU P K)) r x) (hf : ∀ r x : Nat, f r x = true ↔ Der K (L.filter (rightU P K)) r x) {u : Ru} (hr : rightU P K u = true) :
    holdK P K all u = true ↔ Closd P K f u := by
  have hRR := (SemR.right_iff P K u).1 hr
  obtain ⟨⟨h1, h2⟩, hk⟩ := hRR
  have eh : ((u.head.toNat : Nat) : Int) = u.head := by omega
  have hm : ∀ (r x : Nat) (r' x' : Int), (r : Int) = r' → (x : Int) = x' → ((r', x') ∈ all ↔ f r x = true) := fun r x r' x' e1 e2 => by
    rw [← e1, ← e2, hd, hf]
  have hx : ∀ r x, (r, x) ∈ all → 0 ≤ x ∧ x < (P : Int) := fun r x h => by
    have := der_in ((hd _ _).1 h)
    omega
  have hin : ∀ (a : Nat) (a' : Int), (a : Int) = a' → (insideL all a' u.head = true ↔ ∀ x, x < P → f a x = true → f u.head.toNat x = true) := fun a a' e => by
    rw [inside_iff]
    refine ⟨fun h x hxP hfx => (hm _ _ _ _ eh rfl).1 (h _ ((hm a x a' x e rfl).2 hfx)), fun h x hxa => ?_⟩
    obtain ⟨q1, q2⟩ := hx _ _ hxa
    have e2 : ((x.toNat : Nat) : Int) = x := by omega
    exact (hm _ _ _ _ eh e2).2 (h x.toNat (by omega) ((hm a x.toNat a' x e e2).1 hxa))
  unfold holdK Closd cnd
  rcases hk with ⟨k, q⟩ | ⟨k, q⟩ | ⟨k, q⟩ | ⟨k, q⟩
  · rw [if_pos k, hasL_iff]
    simp only [if_pos k, decide_eq_true_eq]
    rw [hm u.head.toNat u.who.toNat _ _ eh (by omega)]
    refine ⟨fun h x hxP e => ?_, fun h => h _ (by omega) (by omega)⟩
    rw [show x = u.who.toNat by omega]
    exact h
  · have k1 : ¬ u.kind = 1 := by omega
    simp only [if_neg k1, if_pos k]
    exact hin u.a.toNat u.a (by omega)
  · have k1 : ¬ u.kind = 1 := by omega
    have k2 : ¬ u.kind = 2 := by omega
    simp only [if_neg k1, if_neg k2, if_pos k, List.all_eq_true, List.any_eq_true, Bool.and_eq_true]
    refine ⟨fun h x hxP ⟨y, hy, h3, h4⟩ => ?_, fun h y hy => ?_⟩
    · exact (hin (y * K + u.via.toNat) _ rfl).1 (h y (List.mem_filter.2 ⟨hy, hasL_iff.2 ((hm u.a.toNat y _ _ (by omega) rfl).2 h3)⟩)) x hxP h4
    · obtain ⟨hy1, hy2⟩ := List.mem_filter.1 hy
      exact (hin (y * K + u.via.toNat) _ rfl).2 fun x hxP hfx => h x hxP ⟨y, hy1, (hm u.a.toNat y _ _ (by omega) rfl).1 (hasL_iff.1 hy2), hfx⟩
  · have k1 : ¬ u.kind = 1 := by omega
    have k2 : ¬ u.kind = 2 := by omega
    have k3 : ¬ u.kind = 3 := by omega
    simp only [if_neg k1, if_neg k2, if_neg k3, List.all_eq_true, Bool.and_eq_true]
    refine ⟨fun h x hxP h3 => ?_, fun h y hy => ?_⟩
    · have := h x (List.mem_filter.2 ⟨List.mem_range.2 hxP, hasL_iff.2 ((hm u.a.toNat x _ _ (by omega) rfl).2 h3.1)⟩)
      rw [hasL_iff.2 ((hm u.b.toNat x u.b x (by omega) rfl).2 h3.2)] at this
      exact (hm _ _ _ _ eh rfl).1 (hasL_iff.1 (by simpa using this))
    · obtain ⟨hy1, hy2⟩ := List.mem_filter.1 hy
      cases hb : hasL all u.b (y : Int)
      · rfl
      · have := h y (List.mem_range.1 hy1) ⟨(hm u.a.toNat y _ _ (by omega) rfl).1 (hasL_iff.1 hy2), (hm u.b.toNat y u.b y (by omega) rfl).1 (hasL_iff.1 hb)⟩
        rw [hasL_iff.2 ((hm _ _ _ _ eh rfl).2 this)]
        rfl
/-- A run of a rule tells whether it holds. -/
theorem mid_closed {P K : Nat} {f g : Rel} {u : Ru} {b : Bool} (h : Mid P K f u P g b) : (!b) = true ↔ Closd P K f u := by
  cases b with
  | false => exact ⟨fun _ => (h.no rfl).2, fun _ => rfl⟩
  | true =>
    obtain ⟨x, h1, h2, h3, _⟩ := h.yes rfl
    refine ⟨fun q => (by cases q), fun q => ?_⟩
    rw [q x h1 h2] at h3
    cases h3
end Go.Proofs.YtccmlmahjgndbaaDoor.SemRj
/- The document's Holds: a copy of the rows, as it is laid. -/
namespace Go.Proofs.YtccmlmahjgndbaaDoor.SemRk
set_option linter.unusedVariables false
set_option linter.unusedSimpArgs false
open Go.RowKit Go.Lib Go.Proofs Go.Proofs.YtccmlmahjgndbaaDoor.TblB Go.Proofs.YtccmlmahjgndbaaDoor.TblC Go.Proofs.YtccmlmahjgndbaaDoor.TblV Go.Proofs.YtccmlmahjgndbaaDoor.TblP Go.Proofs.YtccmlmahjgndbaaDoor.TblQ Go.Proofs.YtccmlmahjgndbaaDoor.SemA Go.Proofs.YtccmlmahjgndbaaDoor.SemR Go.Proofs.YtccmlmahjgndbaaDoor.SemRa Go.Proofs.YtccmlmahjgndbaaDoor.SemRb Go.Proofs.YtccmlmahjgndbaaDoor.SemRd Go.Proofs.YtccmlmahjgndbaaDoor.SemRe Go.Proofs.YtccmlmahjgndbaaDoor.SemRf
set_option linter.unusedVariables false
set_option linter.unusedSimpArgs false
def cv (P : Nat) (b : Nat × Nat) : Value := .slice (some ⟨b.1, 0, none⟩) P b.2
/-- A block that reads as who is in a row. -/
def RowIs (w : World) (b P : Nat) (g : Nat → Bool) : Prop := ∃ vs, w.heap[b]? = some (.cells vs 4 (0, 0)) ∧ ∀ x, x < P → vs[x]? = some (.bool (g x))
theorem RowIs.lt {w : World} {b P : Nat} {g : Nat → Bool} (h : RowIs w b P g) : b < w.heap.size := by
  obtain ⟨vs, h1, _⟩ := h
  exact heap_lt h1
/-- The first rows of f, copied; pairs of a block and a capacity. -/
structure Cp (w : World) (B mo P K : Nat) (f : Rel) (v : Value) (xs : List (Nat × Nat)) : Prop where
  own : w.ownsRow B 61 1 v xs.length (xs.map (cv P))
  h0 : w.heap[mo]? = some (.cells #[.int .i64 P, .int .i64 K, v] 34 (0, 0))
  mb : mo < B
  bs : B ≤ w.heap.size
  row : ∀ k, (h : k < xs.length) → B ≤ xs[k].1 ∧ RowIs w xs[k].1 P (f k)
  nd : (xs.map Prod.fst).Nodup
  e : xs = [] → v = .slice none 0 0
theorem Cp.apart {w : World} {B mo P K : Nat} {f : Rel} {v : Value} {xs : List (Nat × Nat)} (h : Cp w B mo P K f v xs) {g : Nat} (hg : v.ownBlock = some g) : B ≤ g ∧ g < w.heap.size ∧ ∀ k, (hk : k < xs.length) → xs[k].1 ≠ g := by
  rcases h.own.2 with ⟨rfl, _⟩ | ⟨g', cap, cur, rfl, h1, h2, _⟩
  · cases hg
  · injection hg with hg
    subst hg
    refine ⟨h1, (Array.getElem?_eq_some_iff.1 h2).1, fun k hk e => ?_⟩
    obtain ⟨_, vs, h3, _⟩ := h.row k hk
    rw [e, h2] at h3
    injection h3 with h3
    injection h3 with _ e2 _
    exact ty_ne e2.symm
theorem RowIs.block {w w' : World} {b P : Nat} {g : Nat → Bool} (h : RowIs w b P g) (e : w'.heap[b]? = w.heap[b]?) : RowIs w' b P g := by
  obtain ⟨vs, h1, h2⟩ := h
  exact ⟨vs, e.trans h1, h2⟩
theorem Cp.below {w w' : World} {B mo P K : Nat} {f : Rel} {v : Value} {xs : List (Nat × Nat)} (h : Cp w B mo P K f v xs) (hb : Below w.heap.size w w') : Cp w' B mo P K f v xs :=
  ⟨own_keep h.own hb, (hb.block _ (by have := h.mb; have := h.bs; omega)).trans h.h0, h.mb, Nat.le_trans h.bs hb.size, fun k hk => ⟨(h.row k hk).1, (h.row k hk).2.block (hb.block _ (h.row k hk).2.lt)⟩, h.nd, h.e⟩
/-- A row more: w2 is the world with the new row and the literal laid, w1 the one behind the append. -/
theorem Cp.push {w w2 w1 : World} {B mo P K : Nat} {f : Rel} {v v1 : Value} {xs : List (Nat × Nat)} (h : Cp w B mo P K f v xs) (hb : Below w.heap.size w w2) {b c : Nat} (hnb : w.heap.size ≤ b) (hrow : RowIs w2 b P (f xs.length))
    (ho : w1.ownsRow B 61 1 v1 (xs.length + 1) (xs.map (cv P) ++ [cv P (b, c)])) (hg : w2.grownBy w1 v.ownBlock) : Cp (w1.setCell ⟨mo, 2, none⟩ v1) B mo P K f v1 (xs ++ [(b, c)]) := by
  have hX := h.below hb
  have hsz := hb.size
  have hmo : w1.heap[mo]? = some (.cells #[.int .i64 P, .int .i64 K, v] 34 (0, 0)) := by
    rw [hg.block mo (by have := h.mb; have := h.bs; omega) (fun e => by have := (h.apart e.symm).1; have := h.mb; omega)]
    exact hX.h0
  refine ⟨?_, ?_, h.mb, ?_, fun k hk => ?_, ?_, fun q => (by simp at q)⟩
  · have := own_set ho mo 2 h.mb v1
    rw [List.length_append, List.length_singleton, List.map_append, List.map_singleton]
    exact this
  · exact heap_setCell_same _ _ _ _ _ _ hmo
  · show B ≤ (w1.setCell _ _).heap.size
    have := hg.size
    have := h.bs
    simp [World.setCell]
    omega
  · have key : B ≤ (xs ++ [(b, c)])[k].1 ∧ RowIs w2 (xs ++ [(b, c)])[k].1 P (f k) ∧ ∀ g, v.ownBlock = some g → (xs ++ [(b, c)])[k].1 ≠ g := by
      rw [List.length_append, List.length_singleton] at hk
      by_cases e : k < xs.length
      · rw [List.getElem_append_left e]
        exact ⟨(h.row k e).1, (hX.row k e).2, fun g hg => (h.apart hg).2.2 k e⟩
      · obtain rfl : k = xs.length := by omega
        rw [List.getElem_append_right (Nat.le_refl _)]
        simp only [Nat.sub_self, List.getElem_cons_zero]
        exact ⟨Nat.le_trans h.bs hnb, hrow, fun g hg => by have := (h.apart hg).2.1; omega⟩
    obtain ⟨k1, k2, k3⟩ := key
    refine ⟨k1, k2.block ?_⟩
    rw [heap_setCell_other _ _ _ _ (by show _ ≠ mo; have := h.mb; omega)]
    exact hg.block _ k2.lt (fun e => k3 _ e.symm rfl)
  · rw [List.map_append, List.nodup_append]
    refine ⟨h.nd, by simp, fun a ha b' hb' e => ?_⟩
    obtain ⟨p, hp, rfl⟩ := List.mem_map.1 ha
    obtain ⟨k, hk, rfl⟩ := List.getElem_of_mem hp
    have := (h.row k hk).2.lt
    simp at hb'
    omega
theorem Cp.kept {w w2 w1 : World} {B mo P K : Nat} {f : Rel} {v : Value} {xs : List (Nat × Nat)} (h : Cp w B mo P K f v xs) (hb : Below w.heap.size w w2) (hg : w2.grownBy w1 v.ownBlock) (v1 : Value) :
    w1.cell? ⟨mo, 0, none⟩ = some (.int .i64 P) ∧ w1.frozen? ⟨mo, 2, none⟩ = false ∧ (w1.setCell ⟨mo, 2, none⟩ v1).cell? ⟨mo, 0, none⟩ = some (.int .i64 P) ∧ w1.cell? ⟨mo, 2, none⟩ = some v := by
  have hsz := hb.size
  have hmo : w1.heap[mo]? = some (.cells #[.int .i64 P, .int .i64 K, v] 34 (0, 0)) := by
    rw [hg.block mo (by have := h.mb; have := h.bs; omega) (fun e => by have := (h.apart e.symm).1; have := h.mb; omega)]
    exact (h.below hb).h0
  exact ⟨Lib.cell_of_heap hmo 0, frozen_of_row _ _ _ _ _ hmo, Lib.cell_of_heap (heap_setCell_same _ _ _ _ _ _ hmo) 0, Lib.cell_of_heap hmo 2⟩
theorem Cp.push_below {w0 w w2 w1 : World} {B mo P K : Nat} {f : Rel} {v v1 : Value} {xs : List (Nat × Nat)} (h : Cp w B mo P K f v xs) (h0 : Below w0.heap.size w0 w) (hb : Below w.heap.size w w2) (hm : w0.heap.size ≤ mo) (hg : w2.grownBy w1 v.ownBlock) : Below w0.heap.size w0 (w1.setCell ⟨mo, 2, none⟩ v1) := by
  refine ⟨hg.os.trans (hb.os.trans h0.os), hg.tape.trans (hb.tape.trans h0.tape), hg.output.trans (hb.output.trans h0.output), ?_, fun k hk => ?_⟩
  · have := hg.size; have := hb.size; have := h0.size; simp [World.setCell]; omega
  · have := h0.size
    have := hb.size
    rw [heap_setCell_other _ _ _ _ (by show k ≠ mo; omega), hg.block k (by omega) (fun e => by have := (h.apart e.symm).1; have := h.mb; omega), hb.block k (by omega), h0.block k hk]
/-- All rows copied: a model of its own that says what f says. -/
theorem Cp.model {w : World} {B mo P K n : Nat} {f : Rel} {v : Value} {xs : List (Nat × Nat)} (h : Cp w B mo P K f v xs) (hn : xs.length = n) : ∃ gi ca R, v = .slice (if n = 0 then none else some ⟨gi, 0, none⟩) n ca ∧ MR w mo gi ca P K n R f ∧ ∀ r, r < n → B ≤ R r := by
  obtain ⟨R, hR⟩ : ∃ R : Nat → Nat, R = fun r => (xs.getD r (0, 0)).1 := ⟨_, rfl⟩
  have hget : ∀ r, (hr : r < xs.length) → R r = xs[r].1 := fun r hr => by
    rw [hR]
    show (xs.getD r (0, 0)).1 = _
    rw [List.getD_eq_getElem?_getD, List.getElem?_eq_getElem hr]
    rfl
  have hinj : ∀ r s, r < n → s < n → R r = R s → r = s := fun r s hr hs e => by
    rw [hget r (by omega), hget s (by omega)] at e
    have := (List.getElem_inj (i := r) (j := s) (h₀ := by simp; omega) (h₁ := by simp; omega) h.nd).1 (by simpa using e)
    exact this
  have hrow : ∀ r, r < n → ∃ vs, w.heap[R r]? = some (.cells vs 4 (0, 0)) ∧ ∀ x, x < P → vs[x]? = some (.bool (f r x)) := fun r hr => by
    rw [hget r (by omega)]
    exact (h.row r (by omega)).2
  have hlow : ∀ r, r < n → B ≤ R r := fun r hr => by
    rw [hget r (by omega)]
    exact (h.row r (by omega)).1
  clear hR
  by_cases h0 : n = 0
  · obtain rfl : xs = [] := List.eq_nil_of_length_eq_zero (by omega)
    subst h0
    obtain rfl := h.e rfl
    exact ⟨0, 0, R, rfl, ⟨h.h0, fun r hr => by omega, fun q => by omega, fun r hr => by omega, fun r s hr => by omega, fun r hr => by omega⟩, fun r hr => by omega⟩
  · rcases h.own.2 with ⟨rfl, hz⟩ | ⟨g, cap, cur, rfl, h1, h2, h3, h4, h5, h6⟩
    · omega
    · have hlt := (Array.getElem?_eq_some_iff.1 h2).1
      refine ⟨g, cap, R, by rw [if_neg h0, hn], ⟨?_, fun r hr => ?_, fun q => ⟨hlt, by have := h.mb; omega⟩, hrow, hinj, fun r hr => ⟨by have := hlow r hr; have := h.mb; omega, fun e => (h.apart (g := g) rfl).2.2 r (by omega) (by rw [← e, hget r (by omega)])⟩⟩, hlow⟩
      · rw [if_neg h0, ← hn]; exact h.h0
      · refine ⟨(xs[r]'(by omega)).2, ?_⟩
        rw [Lib.cell_of_heap h2]
        have e : (cur.toList.take (xs.length * 1))[r]? = (xs.map (cv P))[r]? := by rw [h6]
        rw [List.getElem?_take, if_pos (by omega), List.getElem?_map, List.getElem?_eq_getElem (l := xs) (by omega), Array.getElem?_toList] at e
        rw [e, hget r (by omega)]
        rfl
end Go.Proofs.YtccmlmahjgndbaaDoor.SemRk
/- The document's Holds by contract. -/
namespace Go.Proofs.YtccmlmahjgndbaaDoor.SemRl
set_option linter.unusedVariables false
set_option linter.unusedSimpArgs false
open Go.RowKit Go.Lib Go.Proofs Go.Proofs.YtccmlmahjgndbaaDoor.TblB Go.Proofs.YtccmlmahjgndbaaDoor.TblC Go.Proofs.YtccmlmahjgndbaaDoor.TblV Go.Proofs.YtccmlmahjgndbaaDoor.TblP Go.Proofs.YtccmlmahjgndbaaDoor.TblQ Go.Proofs.YtccmlmahjgndbaaDoor.SemA Go.Proofs.YtccmlmahjgndbaaDoor.SemB Go.Proofs.YtccmlmahjgndbaaDoor.SemH Go.Proofs.YtccmlmahjgndbaaDoor.SemR Go.Proofs.YtccmlmahjgndbaaDoor.SemRa Go.Proofs.YtccmlmahjgndbaaDoor.SemRb Go.Proofs.YtccmlmahjgndbaaDoor.SemRd Go.Proofs.YtccmlmahjgndbaaDoor.SemRe Go.Proofs.YtccmlmahjgndbaaDoor.SemRf Go.Proofs.YtccmlmahjgndbaaDoor.SemRj Go.Proofs.YtccmlmahjgndbaaDoor.SemRk Go.Proofs.YtccmlmahjgndbaaDoor.SemGa
set_option linter.unusedVariables false
set_option linter.unusedSimpArgs false
theorem own_nil (w : World) : ((w.alloc (.cells #[] 4)).drew).ownsRow w.heap.size 4 1 (.slice (some ⟨w.heap.size, 0, none⟩) 0 0) 0 [] := by
  refine ⟨rfl, .inr ⟨w.heap.size, 0, #[], rfl, Nat.le_refl _, heap_alloc_new w _, Nat.le_refl _, Nat.zero_le _, rfl, rfl⟩⟩
theorem lit_below (w2 : World) {X : World} (hb : Below X.heap.size X w2) (P b c : Nat) : Below X.heap.size X (w2.alloc (.cells #[.slice (some ⟨b, 0, none⟩) P c] 61)) := hb.alloc hb.size _
theorem lit_cell (w2 : World) (P b c : Nat) : ∀ ad, some (⟨w2.heap.size, 0, none⟩ : Addr) = some ad → ∀ j u, [cv P (b, c)][j]? = some u → (w2.alloc (.cells #[.slice (some ⟨b, 0, none⟩) P c] 61)).cell? (ad.add j) = some u := fun ad q j u hu => by
  injection q with q
  subst q
  have h2 := Lib.cell_of_heap (heap_alloc_new w2 (.cells #[.slice (some ⟨b, 0, none⟩) P c] 61)) j
  rw [SemC.add_off, Nat.zero_add]
  refine Eq.trans h2 ?_
  rw [← hu]
  show ([cv P (b, c)].toArray)[j]? = _
  rw [List.getElem?_toArray]
theorem one_cv (P b c : Nat) : ∀ u ∈ [cv P (b, c)], u.oneCell' = true := fun u hu => by rw [List.mem_singleton] at hu; subst hu; rfl
theorem lit_row {w2 : World} {P b c : Nat} {g : Nat → Bool} (h : RowIs w2 b P g) : RowIs (w2.alloc (.cells #[.slice (some ⟨b, 0, none⟩) P c] 61)) b P g := h.block (Below.heap_alloc _ _ _ h.lt)
def newsR (P : Nat) (g : Nat → Bool) : List Value := (List.range P).map fun x => .bool (g x)
theorem newsR_len (P : Nat) (g : Nat → Bool) : (newsR P g).length = P * 1 := by unfold newsR; simp
theorem newsR_one (P : Nat) (g : Nat → Bool) : ∀ u ∈ newsR P g, u.oneCell' = true := fun u hu => by
  unfold newsR at hu
  obtain ⟨x, _, rfl⟩ := List.mem_map.1 hu
  rfl
theorem newsR_at {P : Nat} {g : Nat → Bool} {x : Nat} (h : x < P) : (newsR P g)[x]? = some (.bool (g x)) := by
  unfold newsR
  rw [List.getElem?_map, List.getElem?_range h]
  rfl
/-- What the append of a row to an empty literal leaves: the row in a block of its own. -/
theorem row_new {X w2 : World} {P : Nat} {g : Nat → Bool} {v2 : Value} (hP : 0 < P) (ho : w2.ownsRow X.heap.size 4 1 v2 (0 + P) ([] ++ newsR P g)) (hg : ((X.alloc (.cells #[] 4)).drew).grownBy w2 (some X.heap.size)) :
    ∃ b c, v2 = .slice (some ⟨b, 0, none⟩) P c ∧ X.heap.size ≤ b ∧ RowIs w2 b P g ∧ Below X.heap.size X w2 := by
  rcases ho.2 with ⟨_, hz⟩ | ⟨b, cap, cur, rfl, h1, h2, h3, h4, h5, h6⟩
  · omega
  · refine ⟨b, cap, by rw [Nat.zero_add], h1, ⟨cur, h2, fun x hx => ?_⟩, ?_⟩
    · have e : (cur.toList.take ((0 + P) * 1))[x]? = (newsR P g)[x]? := by rw [h6]; rfl
      rw [List.getElem?_take, if_pos (by omega), Array.getElem?_toList, newsR_at hx] at e
      exact e
    · have hb : Below X.heap.size X ((X.alloc (.cells #[] 4)).drew) := ((Below.refl _ _).alloc (Nat.le_refl _) _).drew
      exact ⟨hg.os.trans hb.os, hg.tape.trans hb.tape, hg.output.trans hb.output, Nat.le_trans hb.size hg.size, fun k hk => (hg.block k (Nat.lt_of_lt_of_le hk hb.size) (fun e => by injection e with e; omega)).trans (hb.block k hk)⟩
set_option maxHeartbeats 4000000 in
set_option maxRecDepth 100000 in
theorem holdsR {w : World} {mo gi cg P K n : Nat} {R : Nat → Nat} {f : Rel} (hm : MR w mo gi cg P K n R f) (hP : P ≤ 64) (hK : K ≤ 64) (hnn : n = P * K) (u : Ru) (ans : Bool) (hans : ∀ g b, Mid P K f u P g b → rightU P K u = true → (!b) = ans) (hno : rightU P K u = false → ans = false) :
    Calls Tryd.prog 15 #[.pointer (some ⟨mo, 0, none⟩), u.val] w fun e w' => e = .returned (.bool ans) ∧ Below w.heap.size w w' := by
  have HRi := Lib.hid (fun w' => SemR.rightR P K u w' (by omega) (by omega))
  have HOn := Lib.hid (fun mo' gi' cg' R' w' (hm : MR w' mo' gi' cg' P K n R' f) hr => once u w' hm (by omega) (by omega) hnn hr)
  have ln : n ≤ 4096 := by rw [hnn]; exact Nat.mul_le_mul hP hK
  have HPn : Hid (0 < n → 0 < P) := Lib.hid (fun h => by rw [hnn] at h; exact Nat.pos_of_mul_pos_right h)
  have HA : Hid (∀ g b, Mid P K f u P g b → rightU P K u = true → (!b) = ans) := Lib.hid hans
  have HN0 : Hid (rightU P K u = false → ans = false) := Lib.hid hno
  clear hans hno hnn
  generalize rightU P K u = rr at *
  unfold OncePost at HOn
  generalize hMd : Mid P K f u P = Md at *
  clear hMd
  obtain ⟨u0, u1, u2, u3, u4, u5⟩ := u
  unfold Ru.val at HRi HOn ⊢
  dsimp only [Ru.cells] at HRi HOn ⊢
  have hb0 : Below w.heap.size w (w.alloc (.cells #[.int .i64 u0, .int .i64 u1, .int .i64 u2, .int .i64 u3, .int .i64 u4, .int .i64 u5] 25)) := (Below.refl _ _).alloc (Nat.le_refl _) _
  have HX := Lib.hid (heap_alloc_new w (.cells #[.int .i64 u0, .int .i64 u1, .int .i64 u2, .int .i64 u3, .int .i64 u4, .int .i64 u5] 25))
  have HM := Lib.hid (hm.below hb0)
  have HB0 := Lib.hid hb0
  clear hm hb0
  go_enter Tryd.func15, Tryd.ntmps15
  go_upto_region 1 with fail
  obtain ⟨bx, hbx⟩ : ∃ bx, w.heap.size = bx := ⟨_, rfl⟩
  rw [hbx] at HX
  simp only [hbx] at ⊢
  generalize w.alloc (.cells #[.int .i64 u0, .int .i64 u1, .int .i64 u2, .int .i64 u3, .int .i64 u4, .int .i64 u5] 25) = w0 at *
  have HS1 : Hid (∀ w', Below w0.heap.size w0 w' → (w'.cell? ⟨mo, 0, none⟩ = some (.int .i64 P) ∧ w'.cell? ⟨mo, 1, none⟩ = some (.int .i64 K)) ∧ ∀ o, w'.cell? ⟨bx, o, none⟩ = (#[.int .i64 u0, .int .i64 u1, .int .i64 u2, .int .i64 u3, .int .i64 u4, .int .i64 u5] : Array Value)[o]?) := Lib.hid (fun w' hb => ⟨⟨Lib.cell_of_heap (HM.out.below hb).h0 0, Lib.cell_of_heap (HM.out.below hb).h0 1⟩, fun o => Lib.cell_of_heap ((hb.block _ (lt_of HX.out)).trans HX.out) o⟩)
  have HBX : Hid (∀ w' n' R', Fr n' R' w0 w' → (∀ r, r < n' → bx ≠ R' r) → ∀ o, w'.cell? ⟨bx, o, none⟩ = (#[.int .i64 u0, .int .i64 u1, .int .i64 u2, .int .i64 u3, .int .i64 u4, .int .i64 u5] : Array Value)[o]?) := Lib.hid (fun w' n' R' hb hne o => Lib.cell_of_heap ((hb.block bx (lt_of HX.out) hne).trans HX.out) o)
  clear HX
  refine wp_region_held_drew (S := fun w' => (w'.cell? ⟨mo, 0, none⟩ = some (.int .i64 P) ∧ w'.cell? ⟨mo, 1, none⟩ = some (.int .i64 K)) ∧ ∀ o, w'.cell? ⟨bx, o, none⟩ = (#[.int .i64 u0, .int .i64 u1, .int .i64 u2, .int .i64 u3, .int .i64 u4, .int .i64 u5] : Array Value)[o]?) (by kernel_rfl) (HS1.out _ (bwd w0)) (fun hHeld => ?_)
  refine wpAnyH_take (i := 0) (v := ?_) rfl (by kernel_rfl) (by kernel_rfl) (by kernel_rfl) (fun _ _ _ h => h) (Or.inl ⟨by kernel_rfl, ?_⟩) (by assumption) ?_
  rotate_left
  · intro w hSw; (try dsimp only at hSw); go_simp; try with_reducible rfl
  try simp only [Act.put, List.setIfInBounds_toArray, List.set_cons_zero, List.set_cons_succ]
  refine wpAnyH_take (i := 1) (v := ?_) rfl (by kernel_rfl) (by kernel_rfl) (by kernel_rfl) (fun _ _ _ h => h) (Or.inl ⟨by kernel_rfl, ?_⟩) (by assumption) ?_
  rotate_left
  · intro w hSw; (try dsimp only at hSw); go_simp; try with_reducible rfl
  try simp only [Act.put, List.setIfInBounds_toArray, List.set_cons_zero, List.set_cons_succ]
  refine wpAnyH_take (i := 4) (v := ?_) rfl (by kernel_rfl) (by kernel_rfl) (by kernel_rfl) (fun _ _ _ h => h) (Or.inl ⟨by kernel_rfl, ?_⟩) (by assumption) ?_
  rotate_left
  · intro w hSw; (try dsimp only at hSw); go_simp; try with_reducible rfl
  try simp only [Act.put, List.setIfInBounds_toArray, List.set_cons_zero, List.set_cons_succ]
  refine wpAnyH_take (i := 5) (v := ?_) rfl (by kernel_rfl) (by kernel_rfl) (by kernel_rfl) (fun _ _ _ h => h) (Or.inl ⟨by kernel_rfl, ?_⟩) (by assumption) ?_
  rotate_left
  · intro w hSw; (try dsimp only at hSw); go_simp; try with_reducible rfl
  try simp only [Act.put, List.setIfInBounds_toArray, List.set_cons_zero, List.set_cons_succ]
  refine wpAnyH_take (i := 2) (v := ?_) rfl (by kernel_rfl) (by kernel_rfl) (by kernel_rfl) (fun _ _ _ h => h) (Or.inl ⟨by kernel_rfl, ?_⟩) (by assumption) ?_
  rotate_left
  · intro w hSw; (try dsimp only at hSw); go_simp; try with_reducible rfl
  try simp only [Act.put, List.setIfInBounds_toArray, List.set_cons_zero, List.set_cons_succ]
  refine wpAnyH_take (i := 6) (v := ?_) rfl (by kernel_rfl) (by kernel_rfl) (by kernel_rfl) (fun _ _ _ h => h) (Or.inl ⟨by kernel_rfl, ?_⟩) (by assumption) ?_
  rotate_left
  · intro w hSw; (try dsimp only at hSw); go_simp; try with_reducible rfl
  try simp only [Act.put, List.setIfInBounds_toArray, List.set_cons_zero, List.set_cons_succ]
  refine wpAnyH_take (i := 3) (v := ?_) rfl (by kernel_rfl) (by kernel_rfl) (by kernel_rfl) (fun _ _ _ h => h) (Or.inl ⟨by kernel_rfl, ?_⟩) (by assumption) ?_
  rotate_left
  · intro w hSw; (try dsimp only at hSw); go_simp; try with_reducible rfl
  try simp only [Act.put, List.setIfInBounds_toArray, List.set_cons_zero, List.set_cons_succ]
  refine wpAnyH_take (i := 7) (v := ?_) rfl (by kernel_rfl) (by kernel_rfl) (by kernel_rfl) (fun _ _ _ h => h) (Or.inl ⟨by kernel_rfl, ?_⟩) (by assumption) ?_
  rotate_left
  · intro w hSw; (try dsimp only at hSw); go_simp; try with_reducible rfl
  try simp only [Act.put, List.setIfInBounds_toArray, List.set_cons_zero, List.set_cons_succ]
  refine wpAnyH_take (i := 8) (v := ?_) rfl (by kernel_rfl) (by kernel_rfl) (by kernel_rfl) (fun _ _ _ h => h) (Or.inl ⟨by kernel_rfl, ?_⟩) (by assumption) ?_
  rotate_left
  · intro w hSw; (try dsimp only at hSw); go_simp; try with_reducible rfl
  try simp only [Act.put, List.setIfInBounds_toArray, List.set_cons_zero, List.set_cons_succ]
  cases rr with
  | false =>
    refine wpAnyH_ready (rs := [9]) (by kernel_rfl) (by simp) ?_
    refine AllReadyH.cons rfl (fun K hK => ?_) AllReadyH.nil
    go_simp
    go_wp2_with (((with_reducible refine (HRi.out _).mono ?_); rintro e w4 ⟨rfl, hb4⟩; have HB4 := Lib.hid (SemI.nx (bwd w0) hb4)))
    refine hK.out _ _ (HS1.out _ HB4.out) (fun hHeld => ?_)
    clear hK K
    try simp only [Act.put, List.setIfInBounds_toArray, List.set_cons_zero, List.set_cons_succ]
    refine wpAnyH_ready (rs := [10]) (by kernel_rfl) (by simp) ?_
    refine AllReadyH.cons rfl (fun K hK => ?_) AllReadyH.nil
    go_simp
    refine hK.out _ _ (HS1.out _ HB4.out) (fun hHeld => ?_)
    clear hK K
    try simp only [Act.put, List.setIfInBounds_toArray, List.set_cons_zero, List.set_cons_succ]
    refine wpAnyH_done (by kernel_rfl) ?_ _
    have HF := Lib.hid (SemI.nx HB0.out HB4.out)
    clear HRi HOn HS1 hHeld
    go_wp2_with fail
    go_ret
    exact ⟨SetB.ret_bool (HN0.out (by first | rfl | trivial)).symm, HF.out⟩
  | true =>
    refine wpAnyH_ready (rs := [9]) (by kernel_rfl) (by simp) ?_
    refine AllReadyH.cons rfl (fun K hK => ?_) AllReadyH.nil
    go_simp
    go_wp2_with (((with_reducible refine (HRi.out _).mono ?_); rintro e w4 ⟨rfl, hb4⟩; have HB4 := Lib.hid (SemI.nx (bwd w0) hb4)))
    refine hK.out _ _ (HS1.out _ HB4.out) (fun hHeld => ?_)
    clear hK K
    try simp only [Act.put, List.setIfInBounds_toArray, List.set_cons_zero, List.set_cons_succ]
    refine wpAnyH_ready (rs := [10]) (by kernel_rfl) (by simp) ?_
    refine AllReadyH.cons rfl (fun K hK => ?_) AllReadyH.nil
    go_simp
    refine hK.out _ _ (HS1.out _ HB4.out) (fun hHeld => ?_)
    clear hK K
    try simp only [Act.put, List.setIfInBounds_toArray, List.set_cons_zero, List.set_cons_succ]
    refine wpAnyH_done (by kernel_rfl) ?_ _
    have HBr := Lib.hid (SemI.nx HB0.out HB4.out)
    have HM4 := Lib.hid (HM.out.below HB4.out)
    have HBX4 : Hid (∀ w' n' R', Fr n' R' w4 w' → (∀ r, r < n' → bx ≠ R' r) → ∀ o, w'.cell? ⟨bx, o, none⟩ = (#[.int .i64 u0, .int .i64 u1, .int .i64 u2, .int .i64 u3, .int .i64 u4, .int .i64 u5] : Array Value)[o]?) := Lib.hid (fun w' n' R' hb hne o => HBX.out w' n' R' (Fr.start HB4.out hb) hne o)
    have hbx4 : bx < w4.heap.size := by
      have := (HS1.out w4 HB4.out).2 0
      exact World.block_lt_of_cell? (a := ⟨bx, 0, none⟩) _ this
    clear HRi HS1 hHeld HN0 HBX HM HB0 HB4 hb4
    have c0 : w4.cell? ⟨mo, 0, none⟩ = some (.int .i64 P) := Lib.cell_of_heap HM4.out.h0 0
    have c1 : w4.cell? ⟨mo, 1, none⟩ = some (.int .i64 K) := Lib.cell_of_heap HM4.out.h0 1
    have hbM : Below w4.heap.size w4 (w4.alloc (.cells #[.int .i64 P, .int .i64 K, .slice none 0 0] 34)) := (Below.refl _ _).alloc (Nat.le_refl _) _
    have g0 : w4.drew.cell? ⟨mo, 0, none⟩ = some (.int .i64 P) := c0
    have g1 : w4.drew.cell? ⟨mo, 1, none⟩ = some (.int .i64 K) := c1
    have g2 : (w4.alloc (.cells #[.int .i64 P, .int .i64 K, .slice none 0 0] 34)).drew.cell? ⟨mo, 0, none⟩ = some (.int .i64 P) := Lib.cell_of_heap (HM4.out.below hbM).h0 0
    have g3 : (w4.alloc (.cells #[.int .i64 P, .int .i64 K, .slice none 0 0] 34)).drew.cell? ⟨mo, 1, none⟩ = some (.int .i64 K) := Lib.cell_of_heap (HM4.out.below hbM).h0 1
    have HMM := Lib.hid ((HM4.out.below hbM).below (bwd _))
    have HBM := Lib.hid (hbM.drew)
    have hX0 : (w4.alloc (.cells #[.int .i64 P, .int .i64 K, .slice none 0 0] 34)).drew.heap[w4.heap.size]? = some (.cells #[.int .i64 P, .int .i64 K, .slice none 0 0] 34 (0, 0)) := heap_alloc_new w4 _
    have hXs : (w4.alloc (.cells #[.int .i64 P, .int .i64 K, .slice none 0 0] 34)).drew.heap.size = w4.heap.size + 1 := by
      show (w4.alloc _).heap.size = _
      simp
    have HC0 : Hid (Cp (w4.alloc (.cells #[.int .i64 P, .int .i64 K, .slice none 0 0] 34)).drew (w4.heap.size + 1) w4.heap.size P K f (.slice none 0 0) []) := Lib.hid ⟨own_none _ _ _, hX0, by omega, by rw [hXs]; exact Nat.le_refl _, fun k hk => by simp at hk, List.nodup_nil, fun _ => rfl⟩
    clear hbM hX0 hXs
    go_wp2_with fail
    go_region_held3 (fun w' => w'.cell? ⟨mo, 0, none⟩ = some (.int .i64 P) ∧ w'.cell? ⟨mo, 1, none⟩ = some (.int .i64 K))
      (first | exact ⟨by assumption, by assumption⟩)
      (first | fail)
    go_upto_region 4 with fail
    obtain ⟨m2, hm2⟩ : ∃ m2, w4.heap.size = m2 := ⟨_, rfl⟩
    simp only [hm2] at HC0 ⊢
    generalize (w4.alloc (.cells #[.int .i64 P, .int .i64 K, .slice none 0 0] 34)).drew = w5 at *
    have q2 : w5.cell? ⟨mo, 2, none⟩ = some (.slice (if n = 0 then none else some ⟨gi, 0, none⟩) n cg) := Lib.cell_of_heap HMM.out.h0 2
    have HPt : Hid (0 < n → (if n = 0 then none else some (⟨gi, 0, none⟩ : Addr)) = some ⟨gi, 0, none⟩) := Lib.hid (fun h => if_neg (by omega))
    generalize (if n = 0 then none else some (⟨gi, 0, none⟩ : Addr)) = pt at *
    obtain ⟨i0, hi, hz0, hz1, hz2⟩ := info_parts infoBools
    obtain ⟨i1, hj, hy0, hy1, hy2⟩ := info_parts infoBool
    clear c0 c1 g0 g1 g2 g3 HMM
    go_wp2_with fail
    clear q2
    go_loopw [34] (fun i wr => ∃ (xs : List (Nat × Nat)) (v : Value), xs.length ≤ n ∧ i = .int .i64 xs.length ∧ Hid (Cp wr (m2 + 1) m2 P K f v xs) ∧ Hid (Below w4.heap.size w4 wr)) (fun i _ => n - (intOf i).toNat)
    case atStart => exact ⟨[], .slice none 0 0, by simp, rfl, HC0, HBM⟩
    case round =>
      clear HC0 HBM
      obtain ⟨xs, v, hk, rfl, HCp, HB⟩ := hrel
      by_cases hlt : xs.length < n
      · have e1 : decide ((xs.length : Int) < n) = true := by simp; omega
        have p0 : (0 : Int) ≤ xs.length := by omega
        have p1 : (xs.length : Int) < n := by omega
        obtain rfl := HPt.out (by omega)
        have HMr := Lib.hid (HM4.out.below HB.out)
        obtain ⟨cr, r0⟩ := HMr.out.hi xs.length hlt
        have hrow := HMr.out.hr xs.length hlt
        have hP0 := HPn.out (by omega)
        go_upto_region 7 with fail
        clear r0
        generalize wr = X at *
        have hm1 := HCp.out.bs
        have hbE : Below X.heap.size X (X.alloc (.cells #[] 4)).drew := ((Below.refl _ _).alloc (Nat.le_refl _) _).drew
        have HC2 : Hid (∀ w', Below X.heap.size X w' → w'.cell? ⟨m2, 0, none⟩ = some (.int .i64 P) ∧ w'.cell? ⟨m2, 2, none⟩ = some v) := Lib.hid (fun w' hb => ⟨Lib.cell_of_heap (HCp.out.below hb).h0 0, Lib.cell_of_heap (HCp.out.below hb).h0 2⟩)
        obtain ⟨a0, a2⟩ := HC2.out X.drew (bwd X)
        obtain ⟨b0, b2⟩ := HC2.out _ hbE
        have HE := Lib.hid (own_nil X)
        have HEs : Hid (X.heap.size ≤ (X.alloc (.cells #[] 4)).drew.heap.size) := Lib.hid hbE.size
        have HIn : Hid (∀ v2 w2, w2.ownsRow X.heap.size 4 1 v2 (0 + P) ([] ++ newsR P (f xs.length)) → ((X.alloc (.cells #[] 4)).drew).grownBy w2 (Value.slice (some ⟨X.heap.size, 0, none⟩) 0 0).ownBlock → ∃ b c, v2 = .slice (some ⟨b, 0, none⟩) P c ∧ X.heap.size ≤ b ∧ RowIs w2 b P (f xs.length) ∧ Below X.heap.size X w2) := Lib.hid (fun v2 w2 ho hg => row_new hP0 ho hg)
        have HNl := Lib.hid (newsR_len P (f xs.length))
        have HN1 := Lib.hid (newsR_one P (f xs.length))
        have HNc : Hid (∀ ad, some (⟨R xs.length, 0, none⟩ : Addr) = some ad → ∀ j u, (newsR P (f xs.length))[j]? = some u → (X.alloc (.cells #[] 4)).drew.cell? (ad.add j) = some u) := Lib.hid (fun ad q j u hu => by
          injection q with q
          subst q
          obtain ⟨vs, h1, h2⟩ := hrow
          have hj : j < P := by
            have := (List.getElem?_eq_some_iff.1 hu).1
            rw [newsR_len] at this
            omega
          rw [SemC.add_off, Nat.zero_add, Lib.cell_of_heap ((hbE.block _ (heap_lt h1)).trans h1) j, h2 j hj]
          rw [newsR_at hj] at hu
          exact hu)
        have HOw : Hid (∀ w', Below X.heap.size X w' → w'.ownsRow (m2 + 1) 61 1 v xs.length (xs.map (cv P))) := Lib.hid (fun w' hb => (HCp.out.below hb).own)
        have HKp : Hid (∀ w' w1 v1, Below X.heap.size X w' → w'.grownBy w1 v.ownBlock → w1.cell? ⟨m2, 0, none⟩ = some (.int .i64 P) ∧ w1.frozen? ⟨m2, 2, none⟩ = false ∧ (w1.setCell ⟨m2, 2, none⟩ v1).cell? ⟨m2, 0, none⟩ = some (.int .i64 P) ∧ w1.cell? ⟨m2, 2, none⟩ = some v) := Lib.hid (fun w' w1 v1 hb hg => HCp.out.kept hb hg v1)
        have HPu : Hid (∀ w' w1 v1 b c, Below X.heap.size X w' → X.heap.size ≤ b → RowIs w' b P (f xs.length) → w1.ownsRow (m2 + 1) 61 1 v1 (xs.length + 1) (xs.map (cv P) ++ [cv P (b, c)]) → w'.grownBy w1 v.ownBlock → Cp (w1.setCell ⟨m2, 2, none⟩ v1) (m2 + 1) m2 P K f v1 (xs ++ [(b, c)])) := Lib.hid (fun w' w1 v1 b c hb hn hr ho hg => HCp.out.push hb hn hr ho hg)
        have HPb : Hid (∀ w' w1 v1, Below X.heap.size X w' → w'.grownBy w1 v.ownBlock → Below w4.heap.size w4 (w1.setCell ⟨m2, 2, none⟩ v1)) := Lib.hid (fun w' w1 v1 hb hg => HCp.out.push_below HB.out hb (by omega) hg)
        obtain ⟨news, hnews⟩ : ∃ news, newsR P (f xs.length) = news := ⟨_, rfl⟩
        rw [hnews] at HIn HNl HN1 HNc
        clear hnews hbE hrow e1 HMr
        generalize f xs.length = gk at *
        refine wp_region_held_drew (S := fun w' => w'.cell? ⟨m2, 0, none⟩ = some (.int .i64 P)) (by kernel_rfl) a0 (fun hHeld => ?_)
        refine wpAnyH_take (i := 0) (v := ?_) rfl (by kernel_rfl) (by kernel_rfl) (by kernel_rfl) (fun _ _ _ h => h) (Or.inl ⟨by kernel_rfl, ?_⟩) (by assumption) ?_
        rotate_left
        · intro w hSw; (try dsimp only at hSw); go_simp; try with_reducible rfl
        try simp only [Act.put, List.setIfInBounds_toArray, List.set_cons_zero, List.set_cons_succ]
        refine wpAnyH_take (i := 1) (v := ?_) rfl (by kernel_rfl) (by kernel_rfl) (by kernel_rfl) (fun _ _ _ h => h) (Or.inl ⟨by kernel_rfl, ?_⟩) (by assumption) ?_
        rotate_left
        · intro w hSw; (try dsimp only at hSw); go_simp; try with_reducible rfl
        try simp only [Act.put, List.setIfInBounds_toArray, List.set_cons_zero, List.set_cons_succ]
        refine wpAnyH_take (i := 2) (v := ?_) rfl (by kernel_rfl) (by kernel_rfl) (by kernel_rfl) (fun _ _ _ h => h) (Or.inl ⟨by kernel_rfl, ?_⟩) (by assumption) ?_
        rotate_left
        · intro w hSw; (try dsimp only at hSw); go_simp; try with_reducible rfl
        try simp only [Act.put, List.setIfInBounds_toArray, List.set_cons_zero, List.set_cons_succ]
        refine wpAnyH_take (i := 3) (v := ?_) rfl (by kernel_rfl) (by kernel_rfl) (by kernel_rfl) (fun _ _ _ h => h) (Or.inl ⟨by kernel_rfl, ?_⟩) (by assumption) ?_
        rotate_left
        · intro w hSw; (try dsimp only at hSw); go_simp; try with_reducible rfl
        try simp only [Act.put, List.setIfInBounds_toArray, List.set_cons_zero, List.set_cons_succ]
        refine wpAnyH_take (i := 6) (v := ?_) rfl (by kernel_rfl) (by kernel_rfl) (by kernel_rfl) (fun _ _ _ h => h) (Or.inl ⟨by kernel_rfl, ?_⟩) (by assumption) ?_
        rotate_left
        · intro w hSw; (try dsimp only at hSw); go_simp; try with_reducible rfl
        try simp only [Act.put, List.setIfInBounds_toArray, List.set_cons_zero, List.set_cons_succ]
        refine wpAnyH_ready (rs := [4, 5]) (by kernel_rfl) (by simp) ?_
        refine AllReadyH.cons rfl (fun K hK => ?_) (AllReadyH.cons rfl (fun K hK => ?_) AllReadyH.nil)
        · go_simp
          refine hK.out _ _ a0 (fun hHeld => ?_)
          clear hK K
          try simp only [Act.put, List.setIfInBounds_toArray, List.set_cons_zero, List.set_cons_succ]
          refine wpAnyH_ready (rs := [5]) (by kernel_rfl) (by simp) ?_
          refine AllReadyH.cons rfl (fun K hK => ?_) AllReadyH.nil
          go_simp
          refine hK.out _ _ b0 (fun hHeld => ?_)
          clear hK K
          try simp only [Act.put, List.setIfInBounds_toArray, List.set_cons_zero, List.set_cons_succ]
          refine wpAnyH_ready (rs := [7]) (by kernel_rfl) (by simp) ?_
          refine AllReadyH.cons rfl (fun K hK => ?_) AllReadyH.nil
          refine step_append_from _ rfl (.tmp 43) (.tmp 44) 61 rfl X.heap.size 4 i1 (.bool false) 1 1 Tryd.underlying61 hj hy0 hy1 hy2 rfl (by decide) (.slice (some ⟨X.heap.size, 0, none⟩) 0 0) 0 [] (by simp [Act.eval]) HE.out (some ⟨R xs.length, 0, none⟩) P cr news (by simp [Act.eval]) HNl.out (fun q => by cases q) HNc.out HN1.out (by unfold maxLen; omega) (by omega) HEs.out ?_
          intro v2 w2 hown2 hg2
          obtain ⟨b, c, rfl, hb1, hb2, hb3⟩ := HIn.out v2 w2 hown2 hg2
          obtain ⟨e0, e2⟩ := HC2.out w2 hb3
          obtain ⟨f0, f2⟩ := HC2.out _ (lit_below w2 hb3 P b c)
          refine hK.out _ _ e0 (fun hHeld => ?_)
          clear hK K
          try simp only [Act.put, List.setIfInBounds_toArray, List.set_cons_zero, List.set_cons_succ]
          refine wpAnyH_ready (rs := [8]) (by kernel_rfl) (by simp) ?_
          refine AllReadyH.cons rfl (fun K hK => ?_) AllReadyH.nil
          go_simp
          refine hK.out _ _ f0 (fun hHeld => ?_)
          clear hK K
          try simp only [Act.put, List.setIfInBounds_toArray, List.set_cons_zero, List.set_cons_succ]
          refine wpAnyH_ready (rs := [9]) (by kernel_rfl) (by simp) ?_
          refine AllReadyH.cons rfl (fun K hK => ?_) AllReadyH.nil
          have hs2 := hb3.size
          refine step_append_from _ rfl (.tmp 42) (.tmp 46) 32 rfl (m2 + 1) 61 i0 (.slice none 0 0) 1 24 Tryd.underlying32 hi hz0 hz1 hz2 rfl (by decide) v xs.length (xs.map (cv P)) (by simp [Act.eval]) (HOw.out _ (lit_below w2 hb3 P b c)) (some ⟨w2.heap.size, 0, none⟩) 1 1 [cv P (b, c)] (by simp [Act.eval]) rfl (fun q => by cases q) (lit_cell w2 P b c) (one_cv P b c) (by unfold maxLen; omega) (by omega) (by simp; omega) ?_
          intro v1 w1 hown1 hg1
          obtain ⟨A5, c5, rfl⟩ := own_n hown1
          obtain ⟨k1, k2, k3, k4⟩ := HKp.out _ w1 (.slice A5 (xs.length + 1) c5) (lit_below w2 hb3 P b c) hg1
          refine hK.out _ _ k1 (fun hHeld => ?_)
          clear hK K
          try simp only [Act.put, List.setIfInBounds_toArray, List.set_cons_zero, List.set_cons_succ]
          refine wpAnyH_ready (rs := [10]) (by kernel_rfl) (by simp) ?_
          refine AllReadyH.cons rfl (fun K hK => ?_) AllReadyH.nil
          go_simp
          refine hK.out _ _ k1 (fun hHeld => ?_)
          clear hK K
          try simp only [Act.put, List.setIfInBounds_toArray, List.set_cons_zero, List.set_cons_succ]
          refine wpAnyH_ready (rs := [11]) (by kernel_rfl) (by simp) ?_
          refine AllReadyH.cons rfl (fun K hK => ?_) AllReadyH.nil
          go_simp
          refine hK.out _ _ k1 (fun hHeld => ?_)
          clear hK K
          try simp only [Act.put, List.setIfInBounds_toArray, List.set_cons_zero, List.set_cons_succ]
          refine wpAnyH_ready (rs := [12]) (by kernel_rfl) (by simp) ?_
          refine AllReadyH.cons rfl (fun K hK => ?_) AllReadyH.nil
          go_simp
          refine hK.out _ _ k3 (fun hHeld => ?_)
          clear hK K
          try simp only [Act.put, List.setIfInBounds_toArray, List.set_cons_zero, List.set_cons_succ]
          refine wpAnyH_done (by kernel_rfl) ?_ _
          have HR2 := Lib.hid (HPu.out _ w1 _ b c (lit_below w2 hb3 P b c) hb1 (lit_row hb2) hown1 hg1)
          have HB2 := Lib.hid (HPb.out _ w1 (.slice A5 (xs.length + 1) c5) (lit_below w2 hb3 P b c) hg1)
          clear hown1 hg1 k1 k2 k3 k4 hHeld HE HNl HNc HN1 HEs HIn HC2 HOw HKp HPu HPb HCp HB e0 e2 f0 f2 hb1 hb2 hb3 hown2 hg2 a0 a2 b0 b2
          go_wp2_with fail
          go_roundw
          · exact ⟨xs ++ [(b, c)], _, by simp; omega, by simp, HR2, HB2⟩
          · simp [intOf]; omega
        · go_simp
          refine hK.out _ _ b0 (fun hHeld => ?_)
          clear hK K
          try simp only [Act.put, List.setIfInBounds_toArray, List.set_cons_zero, List.set_cons_succ]
          refine wpAnyH_ready (rs := [4, 7]) (by kernel_rfl) (by simp) ?_
          refine AllReadyH.cons rfl (fun K hK => ?_) (AllReadyH.cons rfl (fun K hK => ?_) AllReadyH.nil)
          · go_simp
            refine hK.out _ _ b0 (fun hHeld => ?_)
            clear hK K
            try simp only [Act.put, List.setIfInBounds_toArray, List.set_cons_zero, List.set_cons_succ]
            refine wpAnyH_ready (rs := [7]) (by kernel_rfl) (by simp) ?_
            refine AllReadyH.cons rfl (fun K hK => ?_) AllReadyH.nil
            refine step_append_from _ rfl (.tmp 43) (.tmp 44) 61 rfl X.heap.size 4 i1 (.bool false) 1 1 Tryd.underlying61 hj hy0 hy1 hy2 rfl (by decide) (.slice (some ⟨X.heap.size, 0, none⟩) 0 0) 0 [] (by simp [Act.eval]) HE.out (some ⟨R xs.length, 0, none⟩) P cr news (by simp [Act.eval]) HNl.out (fun q => by cases q) HNc.out HN1.out (by unfold maxLen; omega) (by omega) HEs.out ?_
            intro v2 w2 hown2 hg2
            obtain ⟨b, c, rfl, hb1, hb2, hb3⟩ := HIn.out v2 w2 hown2 hg2
            obtain ⟨e0, e2⟩ := HC2.out w2 hb3
            obtain ⟨f0, f2⟩ := HC2.out _ (lit_below w2 hb3 P b c)
            refine hK.out _ _ e0 (fun hHeld => ?_)
            clear hK K
            try simp only [Act.put, List.setIfInBounds_toArray, List.set_cons_zero, List.set_cons_succ]
            refine wpAnyH_ready (rs := [8]) (by kernel_rfl) (by simp) ?_
            refine AllReadyH.cons rfl (fun K hK => ?_) AllReadyH.nil
            go_simp
            refine hK.out _ _ f0 (fun hHeld => ?_)
            clear hK K
            try simp only [Act.put, List.setIfInBounds_toArray, List.set_cons_zero, List.set_cons_succ]
            refine wpAnyH_ready (rs := [9]) (by kernel_rfl) (by simp) ?_
            refine AllReadyH.cons rfl (fun K hK => ?_) AllReadyH.nil
            have hs2 := hb3.size
            refine step_append_from _ rfl (.tmp 42) (.tmp 46) 32 rfl (m2 + 1) 61 i0 (.slice none 0 0) 1 24 Tryd.underlying32 hi hz0 hz1 hz2 rfl (by decide) v xs.length (xs.map (cv P)) (by simp [Act.eval]) (HOw.out _ (lit_below w2 hb3 P b c)) (some ⟨w2.heap.size, 0, none⟩) 1 1 [cv P (b, c)] (by simp [Act.eval]) rfl (fun q => by cases q) (lit_cell w2 P b c) (one_cv P b c) (by unfold maxLen; omega) (by omega) (by simp; omega) ?_
            intro v1 w1 hown1 hg1
            obtain ⟨A5, c5, rfl⟩ := own_n hown1
            obtain ⟨k1, k2, k3, k4⟩ := HKp.out _ w1 (.slice A5 (xs.length + 1) c5) (lit_below w2 hb3 P b c) hg1
            refine hK.out _ _ k1 (fun hHeld => ?_)
            clear hK K
            try simp only [Act.put, List.setIfInBounds_toArray, List.set_cons_zero, List.set_cons_succ]
            refine wpAnyH_ready (rs := [10]) (by kernel_rfl) (by simp) ?_
            refine AllReadyH.cons rfl (fun K hK => ?_) AllReadyH.nil
            go_simp
            refine hK.out _ _ k1 (fun hHeld => ?_)
            clear hK K
            try simp only [Act.put, List.setIfInBounds_toArray, List.set_cons_zero, List.set_cons_succ]
            refine wpAnyH_ready (rs := [11]) (by kernel_rfl) (by simp) ?_
            refine AllReadyH.cons rfl (fun K hK => ?_) AllReadyH.nil
            go_simp
            refine hK.out _ _ k1 (fun hHeld => ?_)
            clear hK K
            try simp only [Act.put, List.setIfInBounds_toArray, List.set_cons_zero, List.set_cons_succ]
            refine wpAnyH_ready (rs := [12]) (by kernel_rfl) (by simp) ?_
            refine AllReadyH.cons rfl (fun K hK => ?_) AllReadyH.nil
            go_simp
            refine hK.out _ _ k3 (fun hHeld => ?_)
            clear hK K
            try simp only [Act.put, List.setIfInBounds_toArray, List.set_cons_zero, List.set_cons_succ]
            refine wpAnyH_done (by kernel_rfl) ?_ _
            have HR2 := Lib.hid (HPu.out _ w1 _ b c (lit_below w2 hb3 P b c) hb1 (lit_row hb2) hown1 hg1)
            have HB2 := Lib.hid (HPb.out _ w1 (.slice A5 (xs.length + 1) c5) (lit_below w2 hb3 P b c) hg1)
            clear hown1 hg1 k1 k2 k3 k4 hHeld HE HNl HNc HN1 HEs HIn HC2 HOw HKp HPu HPb HCp HB e0 e2 f0 f2 hb1 hb2 hb3 hown2 hg2 a0 a2 b0 b2
            go_wp2_with fail
            go_roundw
            · exact ⟨xs ++ [(b, c)], _, by simp; omega, by simp, HR2, HB2⟩
            · simp [intOf]; omega
          · refine step_append_from _ rfl (.tmp 43) (.tmp 44) 61 rfl X.heap.size 4 i1 (.bool false) 1 1 Tryd.underlying61 hj hy0 hy1 hy2 rfl (by decide) (.slice (some ⟨X.heap.size, 0, none⟩) 0 0) 0 [] (by simp [Act.eval]) HE.out (some ⟨R xs.length, 0, none⟩) P cr news (by simp [Act.eval]) HNl.out (fun q => by cases q) HNc.out HN1.out (by unfold maxLen; omega) (by omega) HEs.out ?_
            intro v2 w2 hown2 hg2
            obtain ⟨b, c, rfl, hb1, hb2, hb3⟩ := HIn.out v2 w2 hown2 hg2
            obtain ⟨e0, e2⟩ := HC2.out w2 hb3
            obtain ⟨f0, f2⟩ := HC2.out _ (lit_below w2 hb3 P b c)
            refine hK.out _ _ e0 (fun hHeld => ?_)
            clear hK K
            try simp only [Act.put, List.setIfInBounds_toArray, List.set_cons_zero, List.set_cons_succ]
            refine wpAnyH_ready (rs := [4, 8]) (by kernel_rfl) (by simp) ?_
            refine AllReadyH.cons rfl (fun K hK => ?_) (AllReadyH.cons rfl (fun K hK => ?_) AllReadyH.nil)
            · go_simp
              refine hK.out _ _ e0 (fun hHeld => ?_)
              clear hK K
              try simp only [Act.put, List.setIfInBounds_toArray, List.set_cons_zero, List.set_cons_succ]
              refine wpAnyH_ready (rs := [8]) (by kernel_rfl) (by simp) ?_
              refine AllReadyH.cons rfl (fun K hK => ?_) AllReadyH.nil
              go_simp
              refine hK.out _ _ f0 (fun hHeld => ?_)
              clear hK K
              try simp only [Act.put, List.setIfInBounds_toArray, List.set_cons_zero, List.set_cons_succ]
              refine wpAnyH_ready (rs := [9]) (by kernel_rfl) (by simp) ?_
              refine AllReadyH.cons rfl (fun K hK => ?_) AllReadyH.nil
              have hs2 := hb3.size
              refine step_append_from _ rfl (.tmp 42) (.tmp 46) 32 rfl (m2 + 1) 61 i0 (.slice none 0 0) 1 24 Tryd.underlying32 hi hz0 hz1 hz2 rfl (by decide) v xs.length (xs.map (cv P)) (by simp [Act.eval]) (HOw.out _ (lit_below w2 hb3 P b c)) (some ⟨w2.heap.size, 0, none⟩) 1 1 [cv P (b, c)] (by simp [Act.eval]) rfl (fun q => by cases q) (lit_cell w2 P b c) (one_cv P b c) (by unfold maxLen; omega) (by omega) (by simp; omega) ?_
              intro v1 w1 hown1 hg1
              obtain ⟨A5, c5, rfl⟩ := own_n hown1
              obtain ⟨k1, k2, k3, k4⟩ := HKp.out _ w1 (.slice A5 (xs.length + 1) c5) (lit_below w2 hb3 P b c) hg1
              refine hK.out _ _ k1 (fun hHeld => ?_)
              clear hK K
              try simp only [Act.put, List.setIfInBounds_toArray, List.set_cons_zero, List.set_cons_succ]
              refine wpAnyH_ready (rs := [10]) (by kernel_rfl) (by simp) ?_
              refine AllReadyH.cons rfl (fun K hK => ?_) AllReadyH.nil
              go_simp
              refine hK.out _ _ k1 (fun hHeld => ?_)
              clear hK K
              try simp only [Act.put, List.setIfInBounds_toArray, List.set_cons_zero, List.set_cons_succ]
              refine wpAnyH_ready (rs := [11]) (by kernel_rfl) (by simp) ?_
              refine AllReadyH.cons rfl (fun K hK => ?_) AllReadyH.nil
              go_simp
              refine hK.out _ _ k1 (fun hHeld => ?_)
              clear hK K
              try simp only [Act.put, List.setIfInBounds_toArray, List.set_cons_zero, List.set_cons_succ]
              refine wpAnyH_ready (rs := [12]) (by kernel_rfl) (by simp) ?_
              refine AllReadyH.cons rfl (fun K hK => ?_) AllReadyH.nil
              go_simp
              refine hK.out _ _ k3 (fun hHeld => ?_)
              clear hK K
              try simp only [Act.put, List.setIfInBounds_toArray, List.set_cons_zero, List.set_cons_succ]
              refine wpAnyH_done (by kernel_rfl) ?_ _
              have HR2 := Lib.hid (HPu.out _ w1 _ b c (lit_below w2 hb3 P b c) hb1 (lit_row hb2) hown1 hg1)
              have HB2 := Lib.hid (HPb.out _ w1 (.slice A5 (xs.length + 1) c5) (lit_below w2 hb3 P b c) hg1)
              clear hown1 hg1 k1 k2 k3 k4 hHeld HE HNl HNc HN1 HEs HIn HC2 HOw HKp HPu HPb HCp HB e0 e2 f0 f2 hb1 hb2 hb3 hown2 hg2 a0 a2 b0 b2
              go_wp2_with fail
              go_roundw
              · exact ⟨xs ++ [(b, c)], _, by simp; omega, by simp, HR2, HB2⟩
              · simp [intOf]; omega
            · go_simp
              refine hK.out _ _ f0 (fun hHeld => ?_)
              clear hK K
              try simp only [Act.put, List.setIfInBounds_toArray, List.set_cons_zero, List.set_cons_succ]
              refine wpAnyH_ready (rs := [4]) (by kernel_rfl) (by simp) ?_
              refine AllReadyH.cons rfl (fun K hK => ?_) AllReadyH.nil
              go_simp
              refine hK.out _ _ f0 (fun hHeld => ?_)
              clear hK K
              try simp only [Act.put, List.setIfInBounds_toArray, List.set_cons_zero, List.set_cons_succ]
              refine wpAnyH_ready (rs := [9]) (by kernel_rfl) (by simp) ?_
              refine AllReadyH.cons rfl (fun K hK => ?_) AllReadyH.nil
              have hs2 := hb3.size
              refine step_append_from _ rfl (.tmp 42) (.tmp 46) 32 rfl (m2 + 1) 61 i0 (.slice none 0 0) 1 24 Tryd.underlying32 hi hz0 hz1 hz2 rfl (by decide) v xs.length (xs.map (cv P)) (by simp [Act.eval]) (HOw.out _ (lit_below w2 hb3 P b c)) (some ⟨w2.heap.size, 0, none⟩) 1 1 [cv P (b, c)] (by simp [Act.eval]) rfl (fun q => by cases q) (lit_cell w2 P b c) (one_cv P b c) (by unfold maxLen; omega) (by omega) (by simp; omega) ?_
              intro v1 w1 hown1 hg1
              obtain ⟨A5, c5, rfl⟩ := own_n hown1
              obtain ⟨k1, k2, k3, k4⟩ := HKp.out _ w1 (.slice A5 (xs.length + 1) c5) (lit_below w2 hb3 P b c) hg1
              refine hK.out _ _ k1 (fun hHeld => ?_)
              clear hK K
              try simp only [Act.put, List.setIfInBounds_toArray, List.set_cons_zero, List.set_cons_succ]
              refine wpAnyH_ready (rs := [10]) (by kernel_rfl) (by simp) ?_
              refine AllReadyH.cons rfl (fun K hK => ?_) AllReadyH.nil
              go_simp
              refine hK.out _ _ k1 (fun hHeld => ?_)
              clear hK K
              try simp only [Act.put, List.setIfInBounds_toArray, List.set_cons_zero, List.set_cons_succ]
              refine wpAnyH_ready (rs := [11]) (by kernel_rfl) (by simp) ?_
              refine AllReadyH.cons rfl (fun K hK => ?_) AllReadyH.nil
              go_simp
              refine hK.out _ _ k1 (fun hHeld => ?_)
              clear hK K
              try simp only [Act.put, List.setIfInBounds_toArray, List.set_cons_zero, List.set_cons_succ]
              refine wpAnyH_ready (rs := [12]) (by kernel_rfl) (by simp) ?_
              refine AllReadyH.cons rfl (fun K hK => ?_) AllReadyH.nil
              go_simp
              refine hK.out _ _ k3 (fun hHeld => ?_)
              clear hK K
              try simp only [Act.put, List.setIfInBounds_toArray, List.set_cons_zero, List.set_cons_succ]
              refine wpAnyH_done (by kernel_rfl) ?_ _
              have HR2 := Lib.hid (HPu.out _ w1 _ b c (lit_below w2 hb3 P b c) hb1 (lit_row hb2) hown1 hg1)
              have HB2 := Lib.hid (HPb.out _ w1 (.slice A5 (xs.length + 1) c5) (lit_below w2 hb3 P b c) hg1)
              clear hown1 hg1 k1 k2 k3 k4 hHeld HE HNl HNc HN1 HEs HIn HC2 HOw HKp HPu HPb HCp HB e0 e2 f0 f2 hb1 hb2 hb3 hown2 hg2 a0 a2 b0 b2
              go_wp2_with fail
              go_roundw
              · exact ⟨xs ++ [(b, c)], _, by simp; omega, by simp, HR2, HB2⟩
              · simp [intOf]; omega
      · have e1 : decide ((xs.length : Int) < n) = false := by simp; omega
        obtain ⟨gj, cj, R2, rfl, hm, hlow⟩ := HCp.out.model (by omega : xs.length = n)
        have hbx2 : ∀ r, r < n → bx ≠ R2 r := fun r hr => by have := hlow r hr; omega
        have cx := HBX4.out wr 0 R ((Fr.refl 0 R w4).below HB.out) (fun r hr => by omega)
        have HOw := Lib.hid (HOn.out m2 gj cj R2 wr hm (by first | rfl | trivial))
        have HLw := Lib.hid hlow
        clear HOn HCp hm hlow hbx2 HPt hi hj hz0 hz1 hz2 hy0 hy1 hy2
        go_wp2_with fail
        refine HOw.out.mono ?_
        rintro e w6 ⟨g, b, rfl, hm6, hf6, hd6⟩
        have HF := Lib.hid (SemI.nx HBr.out (below_fr HB.out hf6 HLw.out (by omega)))
        have HAn := Lib.hid (HA.out g b hd6 (by first | rfl | trivial))
        clear HA HOw hm6 hf6 hd6 cx
        go_wp2_with fail
        go_ret
        exact ⟨SetB.ret_bool (by first | exact HAn.out | simpa using HAn.out), by first | exact HF.out | (rw [← hbx]; exact HF.out)⟩
end Go.Proofs.YtccmlmahjgndbaaDoor.SemRl
/- The walk of the law that the program's model is the document's. -/
namespace Go.Proofs.YtccmlmahjgndbaaDoor.SemLw
set_option linter.unusedVariables false
set_option linter.unusedSimpArgs false
open Go.RowKit Go.Lib Go.Proofs Go.Proofs.YtccmlmahjgndbaaDoor.SetA Go.Proofs.YtccmlmahjgndbaaDoor.SetB Go.Proofs.YtccmlmahjgndbaaDoor.SetC Go.Proofs.YtccmlmahjgndbaaDoor.SetD Go.Proofs.YtccmlmahjgndbaaDoor.SetJ Go.Proofs.YtccmlmahjgndbaaDoor.SetN Go.Proofs.YtccmlmahjgndbaaDoor.SetQ Go.Proofs.YtccmlmahjgndbaaDoor.SetR Go.Proofs.YtccmlmahjgndbaaDoor.TblB Go.Proofs.YtccmlmahjgndbaaDoor.TblC Go.Proofs.YtccmlmahjgndbaaDoor.TblV Go.Proofs.YtccmlmahjgndbaaDoor.TblP Go.Proofs.YtccmlmahjgndbaaDoor.TblQ Go.Proofs.YtccmlmahjgndbaaDoor.SemA Go.Proofs.YtccmlmahjgndbaaDoor.SemB Go.Proofs.YtccmlmahjgndbaaDoor.SemH Go.Proofs.YtccmlmahjgndbaaDoor.SemI Go.Proofs.YtccmlmahjgndbaaDoor.SemJ Go.Proofs.YtccmlmahjgndbaaDoor.SemK Go.Proofs.YtccmlmahjgndbaaDoor.SemSw Go.Proofs.YtccmlmahjgndbaaDoor.SemGa Go.Proofs.YtccmlmahjgndbaaDoor.SemHo Go.Proofs.YtccmlmahjgndbaaDoor.SemHp Go.Proofs.YtccmlmahjgndbaaDoor.SemMo Go.Proofs.YtccmlmahjgndbaaDoor.SemRa Go.Proofs.YtccmlmahjgndbaaDoor.SemRf Go.Proofs.YtccmlmahjgndbaaDoor.SemRh Go.Proofs.YtccmlmahjgndbaaDoor.SemRi Go.Proofs.YtccmlmahjgndbaaDoor.SemRj Go.Proofs.YtccmlmahjgndbaaDoor.SemRl
set_option linter.unusedVariables false
set_option linter.unusedSimpArgs false
noncomputable def holdB (P K : Nat) (L : List Ru) (u : Ru) : Bool := rightU P K u && @decide (Closd P K (fun r x => derB P K L r x) u) (Classical.propDecidable _)
theorem fun_der {P K : Nat} {L : List Ru} {f : Rel} (hd : ∀ r x : Nat, f r x = true ↔ Der K (L.filter (rightU P K)) r x) : f = fun r x : Nat => derB P K L r x := by
  funext r x
  rw [Bool.eq_iff_iff, hd, derB_iff]
theorem holdsM {w : World} {mo P K : Nat} {L : List Ru} (h : Mo w mo P K L) (hT : Tab w) (hP : P ≤ 64) (hK : K ≤ 64) (u : Ru) :
    Calls Tryd.prog 14 #[.pointer (some ⟨mo, 0, none⟩), u.val] w fun e w' => e = .returned (.bool (holdB P K L u)) ∧ Below w.heap.size w w' := by
  obtain ⟨B, R, M, all, st, hm, hd⟩ := h
  have h2 := holds hm hT (by omega) (by omega) u
  have e : (rightU P K u && holdK P K all u) = holdB P K L u := by
    unfold holdB
    cases hr : rightU P K u with
    | false => rfl
    | true =>
      rw [Bool.true_and, Bool.true_and, Bool.eq_iff_iff, @decide_eq_true_iff _ (Classical.propDecidable _)]
      exact hold_iff hd (fun r x => derB_iff) hr
  rw [e] at h2
  exact h2
theorem holdsR' {w : World} {mo P K : Nat} {L : List Ru} (h : MoR w mo P K L) (hP : P ≤ 64) (hK : K ≤ 64) (u : Ru) :
    Calls Tryd.prog 15 #[.pointer (some ⟨mo, 0, none⟩), u.val] w fun e w' => e = .returned (.bool (holdB P K L u)) ∧ Below w.heap.size w w' := by
  obtain ⟨gi, cg, R, f, hm, hd⟩ := h
  obtain rfl := fun_der hd
  refine holdsR hm hP hK rfl u _ (fun g b hmid hr => ?_) (fun hr => ?_)
  · unfold holdB
    rw [hr, Bool.true_and, Bool.eq_iff_iff, @decide_eq_true_iff _ (Classical.propDecidable _)]
    exact mid_closed hmid
  · unfold holdB
    rw [hr]; rfl
theorem len_of {w : World} {mo P K n : Nat} {L : List Ru} (h : MoR w mo P K L) (hn : P * K = n) : ∃ pt cg, w.cell? ⟨mo, 2, none⟩ = some (.slice pt n cg) ∧ w.cell? ⟨mo, 0, none⟩ = some (.int .i64 P) := by
  obtain ⟨gi, cg, R, f, hm, hd⟩ := h
  subst hn
  exact ⟨_, cg, Lib.cell_of_heap hm.h0 2, Lib.cell_of_heap hm.h0 0⟩
set_option maxHeartbeats 4000000 in
set_option maxRecDepth 100000 in
theorem law (d0 d1 : Int) (A : Option Addr) (ca : Nat) (L : List Ru) (u : Ru) (w : World) (hT : Tab w) (hL : L.length ≤ maxLen) (hA : UG w A L) :
    Calls Tryd.prog 3 #[.agg #[.int .i64 d0, .int .i64 d1], .slice A L.length ca, u.val] w fun e w' => e = .returned (.bool true) ∧ Below w.heap.size w w' := by
  have HHm := Lib.hid (fun P K mo w' (h : Mo w' mo P K L) (hT : Tab w') hP hK => holdsM h hT hP hK u)
  have HHr := Lib.hid (fun P K mo w' (h : MoR w' mo P K L) hP hK => holdsR' h hP hK u)
  generalize hhb : (fun P K => holdB P K L u) = hB at *
  have HHm2 : Hid (∀ P K mo w', Mo w' mo P K L → Tab w' → P ≤ 64 → K ≤ 64 → Calls Tryd.prog 14 #[.pointer (some ⟨mo, 0, none⟩), u.val] w' fun e w'' => e = .returned (.bool (hB P K)) ∧ Below w'.heap.size w' w'') := Lib.hid (by rw [← hhb]; exact HHm.out)
  have HHr2 : Hid (∀ P K mo w', MoR w' mo P K L → P ≤ 64 → K ≤ 64 → Calls Tryd.prog 15 #[.pointer (some ⟨mo, 0, none⟩), u.val] w' fun e w'' => e = .returned (.bool (hB P K)) ∧ Below w'.heap.size w' w'') := Lib.hid (by rw [← hhb]; exact HHr.out)
  clear HHm HHr hhb
  obtain ⟨u0, u1, u2, u3, u4, u5⟩ := u
  unfold Ru.val at HHm2 HHr2 ⊢
  dsimp only at HHm2 HHr2 ⊢
  have hb0 : Below w.heap.size w ((w.alloc (.cells #[.int .i64 d0, .int .i64 d1] 22)).alloc (.cells #[.int .i64 u0, .int .i64 u1, .int .i64 u2, .int .i64 u3, .int .i64 u4, .int .i64 u5] 25)) := ((Below.refl _ _).alloc (Nat.le_refl _) _).alloc (by simp) _
  have hd1 := heap_alloc2_old w (.cells #[.int .i64 d0, .int .i64 d1] 22) (.cells #[.int .i64 u0, .int .i64 u1, .int .i64 u2, .int .i64 u3, .int .i64 u4, .int .i64 u5] 25)
  have hd2 := heap_alloc2_new w (.cells #[.int .i64 d0, .int .i64 d1] 22) (.cells #[.int .i64 u0, .int .i64 u1, .int .i64 u2, .int .i64 u3, .int .i64 u4, .int .i64 u5] 25)
  have HD1 := Lib.hid hd1
  have HD2 := Lib.hid hd2
  have HSm := Lib.hid (fun w' => small d0 d1 A ca L.length (by unfold maxLen at hL; exact hL) w')
  have HLv := Lib.hid (fun w' hb => lives w' (hT.below hb))
  have HB0 := Lib.hid hb0
  have HUA := Lib.hid (hA.below hb0)
  have HTB := Lib.hid (hT.below hb0)
  clear hT hb0 hA hd1 hd2
  cases hs : smallB d0 d1 L.length
  · rw [hs] at HSm
    clear hs HUA HTB HHm2 HHr2
    go_enter Tryd.func3, Tryd.ntmps3
    go_upto_region 1 with fail
    obtain ⟨bx, hbx⟩ : ∃ bx, w.heap.size = bx := ⟨_, rfl⟩
    simp only [hbx] at HD1 HD2 ⊢
    generalize (w.alloc (.cells #[.int .i64 d0, .int .i64 d1] 22)).alloc (.cells #[.int .i64 u0, .int .i64 u1, .int .i64 u2, .int .i64 u3, .int .i64 u4, .int .i64 u5] 25) = w0 at *
    have c0 := fun o => Lib.cell_of_heap HD1.out o
    go_wp2_with fail
    refine (HSm.out _).mono ?_
    rintro e w1 ⟨rfl, rfl⟩
    clear c0 HD1 HD2 HSm
    go_wp2_with fail
    refine (HLv.out _ HB0.out).mono ?_
    rintro e w2 ⟨rfl, hb⟩
    have HF := Lib.hid (SemI.nx HB0.out hb)
    clear hb HLv HB0
    go_wp2_with fail
    go_ret
    exact ⟨rfl, by first | exact HF.out | (rw [← hbx]; exact HF.out)⟩
  · rw [hs] at HSm
    unfold smallB at hs
    simp only [Bool.and_eq_true, decide_eq_true_eq] at hs
    obtain ⟨s1, s2, s3⟩ := hs
    obtain ⟨P, hP⟩ : ∃ P : Nat, max 0 (min d0 64) = (P : Int) := ⟨(max 0 (min d0 64)).toNat, by omega⟩
    obtain ⟨K, hK⟩ : ∃ K : Nat, max 0 (min d1 64) = (K : Int) := ⟨(max 0 (min d1 64)).toNat, by omega⟩
    have wP : (SetA.within d0 64).toNat = P := by unfold SetA.within; omega
    have wK : (SetA.within d1 64).toNat = K := by unfold SetA.within; omega
    have lP : P ≤ 10 := by omega
    have lK : K ≤ 6 := by omega
    have HEv := Lib.hid (fun w' hb hu => evalM d0 d1 A ca L w' (HTB.out.below hb) (by omega) hu)
    unfold MPost at HEv
    rw [wP, wK] at HEv
    have HEr := Lib.hid (fun w' hu => evalR d0 d1 A ca L w' (by omega) hu P K hP hK)
    obtain ⟨n, hn⟩ : ∃ n, P * K = n := ⟨_, rfl⟩
    have hn60 : P * K ≤ 10 * 6 := Nat.mul_le_mul lP lK
    have hn2 : n ≤ 60 := by omega
    have HN := Lib.hid hn
    have HHm := Lib.hid (fun mo w' hm hT => HHm2.out P K mo w' hm hT (by omega) (by omega))
    have HHr := Lib.hid (fun mo w' hm => HHr2.out P K mo w' hm (by omega) (by omega))
    generalize hB P K = hb at *
    clear hn hn60 wP wK s1 s2 hP hK HHm2 HHr2
    go_enter Tryd.func3, Tryd.ntmps3
    go_upto_region 1 with fail
    obtain ⟨bx, hbx⟩ : ∃ bx, w.heap.size = bx := ⟨_, rfl⟩
    simp only [hbx] at HD1 HD2 ⊢
    generalize (w.alloc (.cells #[.int .i64 d0, .int .i64 d1] 22)).alloc (.cells #[.int .i64 u0, .int .i64 u1, .int .i64 u2, .int .i64 u3, .int .i64 u4, .int .i64 u5] 25) = w0 at *
    have HC1 := Lib.hid (fun w' (hb : Below w0.heap.size w0 w') (o : Nat) => Lib.cell_of_heap ((hb.block _ (lt_of HD1.out)).trans HD1.out) o)
    have HC2 := Lib.hid (fun w' (hb : Below w0.heap.size w0 w') (o : Nat) => Lib.cell_of_heap ((hb.block _ (lt_of HD2.out)).trans HD2.out) o)
    clear HD1 HD2
    have c0 := HC1.out w0 (Below.refl _ _)
    go_wp2_with fail
    refine (HSm.out _).mono ?_
    rintro e w1 ⟨rfl, rfl⟩
    clear HSm
    go_upto_region 3 with fail
    go_cut [7, 8] from 19 to 30 (fun p q wx => ∃ m1 m2 : Nat, p = .pointer (some ⟨m1, 0, none⟩) ∧ q = .pointer (some ⟨m2, 0, none⟩) ∧ Hid (Mo wx m1 P K L ∧ MoR wx m2 P K L ∧ Below w0.heap.size w0 wx))
    case first =>
      have kp : ∀ o, w0.drew.cell? ⟨bx, o, none⟩ = (#[.int .i64 d0, .int .i64 d1] : Array Value)[o]? := c0
      have HBE := Lib.hid ((Below.refl w0.heap.size w0).drew)
      have hst : Below w0.heap.size w0 w0.drew ∧ (∀ o, w0.drew.cell? ⟨bx, o, none⟩ = (#[.int .i64 d0, .int .i64 d1] : Array Value)[o]?) := ⟨HBE.out, kp⟩
      have HKK := Lib.hid (fun w' (hb : Below w0.heap.size w0 w') => And.intro hb (HC1.out w' hb))
      have HE1 := Lib.hid (fun w' (hb : Below w0.heap.size w0 w') => HEv.out w' hb (HUA.out.below hb))
      have HE2 := Lib.hid (fun w' (hb : Below w0.heap.size w0 w') => HEr.out w' (HUA.out.below hb))
      go_region_held3 (fun w' => Below w0.heap.size w0 w' ∧ ∀ o, w'.cell? ⟨bx, o, none⟩ = (#[.int .i64 d0, .int .i64 d1] : Array Value)[o]?)
        (first | with_reducible exact hst | with_reducible assumption | exact HKK.out _ (SemI.nx (by apply And.left; with_reducible assumption) (by with_reducible assumption)))
        (first | ((with_reducible refine (HE1.out _ (by apply And.left; with_reducible assumption)).mono ?_); rintro e w2 ⟨m1, rfl, hm1, hb1⟩)
               | ((with_reducible refine (HE2.out _ (by apply And.left; with_reducible assumption)).mono ?_); rintro e w3 ⟨m2, rfl, hm2, hb2⟩))
      all_goals rename_i hHeld
      all_goals (go_wp2_with fail; go_meet)
      all_goals (case rel => refine ⟨m1, m2, rfl, rfl, Lib.hid ?_⟩; first | exact ⟨hm1.below hb2, hm2, hHeld.1⟩ | exact ⟨hm1, hm2.below hb1, hHeld.1⟩)
    case rest =>
      obtain ⟨m1, m2, rfl, rfl, hcut⟩ := hcut
      have HM := Lib.hid (fun w' (hb : Below wc.heap.size wc w') => Mo.below hcut.out.1 hb)
      have HR := Lib.hid (fun w' (hb : Below wc.heap.size wc w') => MoR.below hcut.out.2.1 hb)
      have HBc := Lib.hid (fun w' (hb : Below wc.heap.size wc w') => SemI.nx hcut.out.2.2 hb)
      have HT := Lib.hid (fun w' (hb : Below wc.heap.size wc w') => HTB.out.below (SemI.nx hcut.out.2.2 hb))
      have HLV := Lib.hid (fun w' (hb : Below wc.heap.size wc w') => HLv.out w' (SemI.nx HB0.out (HBc.out w' hb)))
      have HFI := Lib.hid (fun w' (hb : Below wc.heap.size wc w') => SemI.nx HB0.out (HBc.out w' hb))
      have HC3 := Lib.hid (fun w' (hb : Below wc.heap.size wc w') => HC2.out w' (HBc.out w' hb))
      clear hcut c0 HC1 HC2 HEv HEr HUA HTB HLv HB0 HBc
      go_wp2_with fail
      go_loopw [9] (fun i wr => ∃ r : Int, -1 ≤ r ∧ r ≤ n + 1 ∧ i = .int .i64 r ∧ Below wc.heap.size wc wr) (fun i _ => ((n : Int) + 1 - intOf i).toNat)
      case atStart => exact ⟨-1, by omega, by omega, rfl, Below.refl _ _⟩
      case round =>
        obtain ⟨r, hr1, hr2, rfl, hb⟩ := hrel
        obtain ⟨pt, cg, l2, l0⟩ := len_of (HR.out _ hb) HN.out
        have HBr := Lib.hid hb
        by_cases hlt : r ≤ (n : Int)
        · have e1 : decide (r ≤ (n : Int)) = true := decide_eq_true hlt
          have hw : IntKind.i64.wrap (r + 1) = r + 1 := by rw [IntKind.wrap_i64]; omega
          clear hb
          go_wp2_with fail
          clear l2 l0
          go_loopw [10] (fun i wr2 => ∃ x : Int, -1 ≤ x ∧ x ≤ P + 1 ∧ i = .int .i64 x ∧ Below wc.heap.size wc wr2) (fun i _ => ((P : Int) + 1 - intOf i).toNat)
          case atStart => exact ⟨-1, by omega, by omega, rfl, HBr.out⟩
          case round =>
            obtain ⟨x, hx1, hx2, rfl, hb⟩ := hrel
            obtain ⟨pt, cg, l2, l0⟩ := len_of (HR.out _ hb) HN.out
            have HBx := Lib.hid hb
            by_cases hlx : x ≤ (P : Int)
            · have e2 : decide (x ≤ (P : Int)) = true := decide_eq_true hlx
              have hwx : IntKind.i64.wrap (x + 1) = x + 1 := by rw [IntKind.wrap_i64]; omega
              have H1 := Lib.hid (inM (HM.out _ hb) r x)
              have H2 := Lib.hid (fun w' (hb2 : Below wc.heap.size wc w') => hasR (HR.out w' hb2) r x)
              generalize derB P K L r x = b at *
              clear hb
              go_wp2_with fail
              refine H1.out.mono ?_
              rintro e w4 ⟨rfl, q, rfl⟩
              have HB4 := Lib.hid (SemI.nx HBx.out (SemK.bw _ q))
              have H3 := Lib.hid (H2.out _ HB4.out)
              clear H1 H2 l0 l2 e2
              go_wp2_with fail
              refine H3.out.mono ?_
              rintro e w5 ⟨rfl, hb5⟩
              have HB5 := Lib.hid (SemI.nx HB4.out hb5)
              clear hb5 H3 HB4
              cases b
              all_goals go_wp2_with fail
              all_goals go_roundw
              all_goals first | exact ⟨x + 1, by omega, by omega, by first | rfl | simp, HB5.out⟩ | (simp [intOf]; omega)
            · have e2 : decide (x ≤ (P : Int)) = false := decide_eq_false hlx
              have HL1 := Lib.hid (membersM (HM.out _ hb) (HT.out _ hb) r)
              have HL2 := Lib.hid (fun w' (hb2 : Below wc.heap.size wc w') => membersR (HR.out w' hb2) (by omega) r)
              have hlen := memD_len P K L r
              unfold ListPost at HL1 HL2
              generalize memD P K L r = D at *
              clear hb
              go_wp2_with fail
              refine HL1.out.mono ?_
              rintro e w4 ⟨x1, rfl, hown4, hb4⟩
              obtain ⟨A4, c4, rfl, hn4⟩ := ng_own hown4
              have HB4 := Lib.hid (SemI.nx HBx.out hb4)
              have HN4 := Lib.hid (fun w' (hb : Below w4.heap.size w4 w') => NG.below hn4 hb)
              have H5 := Lib.hid (HL2.out _ HB4.out)
              clear hown4 hb4 hn4 HL1 HL2 l0 l2 e2
              go_wp2_with fail
              refine H5.out.mono ?_
              rintro e w5 ⟨x2, rfl, hown5, hb5⟩
              obtain ⟨A5, c5, rfl, hn5⟩ := ng_own hown5
              have HB5 := Lib.hid (SemI.nx HB4.out hb5)
              have H6 := Lib.hid (sameL A4 A5 c4 c5 D w5 (by omega) (HN4.out _ hb5) hn5)
              unfold BoolPost at H6
              clear hown5 hb5 hn5 HN4 H5 HB4
              go_wp2_with fail
              refine H6.out.mono ?_
              rintro e w6 ⟨rfl, hb6⟩
              have HB6 := Lib.hid (SemI.nx HB5.out hb6)
              clear hb6 H6 HB5
              go_wp2_with fail
              go_roundw
              · exact ⟨r + 1, by omega, by omega, by first | rfl | simp, HB6.out⟩
              · simp [intOf]; omega
        · have e1 : decide (r ≤ (n : Int)) = false := decide_eq_false hlt
          clear hb
          go_upto_region 14 with fail
          clear l2 l0
          have HBE := Lib.hid ((Below.refl wr.heap.size wr).drew)
          have kp : ∀ o, wr.drew.cell? ⟨bx + 1, o, none⟩ = (#[.int .i64 u0, .int .i64 u1, .int .i64 u2, .int .i64 u3, .int .i64 u4, .int .i64 u5] : Array Value)[o]? := HC3.out _ (HBr.out.drew)
          have hst : Below wc.heap.size wc wr.drew ∧ (∀ o, wr.drew.cell? ⟨bx + 1, o, none⟩ = (#[.int .i64 u0, .int .i64 u1, .int .i64 u2, .int .i64 u3, .int .i64 u4, .int .i64 u5] : Array Value)[o]?) := ⟨HBr.out.drew, kp⟩
          have HKK := Lib.hid (fun w' (hb : Below wc.heap.size wc w') => And.intro hb (HC3.out w' hb))
          have HE1 := Lib.hid (fun w' (hb : Below wc.heap.size wc w') => HHm.out m1 w' (HM.out w' hb) (HT.out w' hb))
          have HE2 := Lib.hid (fun w' (hb : Below wc.heap.size wc w') => HHr.out m2 w' (HR.out w' hb))
          clear kp HBE HHm HHr
          go_region_held3 (fun w' => Below wc.heap.size wc w' ∧ ∀ o, w'.cell? ⟨bx + 1, o, none⟩ = (#[.int .i64 u0, .int .i64 u1, .int .i64 u2, .int .i64 u3, .int .i64 u4, .int .i64 u5] : Array Value)[o]?)
            (first | with_reducible exact hst | with_reducible assumption | exact HKK.out _ (SemI.nx (by apply And.left; with_reducible assumption) (by with_reducible assumption)))
            (first | ((with_reducible refine (HE1.out _ (by apply And.left; with_reducible assumption)).mono ?_); rintro e w2 ⟨rfl, hb1⟩)
                   | ((with_reducible refine (HE2.out _ (by apply And.left; with_reducible assumption)).mono ?_); rintro e w3 ⟨rfl, hb2⟩)
                   | ((with_reducible refine (HLV.out _ (by apply And.left; with_reducible assumption)).mono ?_); rintro e w4 ⟨rfl, hb3⟩))
          all_goals rename_i hHeld
          all_goals have HF := Lib.hid (HFI.out _ hHeld.1)
          all_goals go_wp2_with fail
          all_goals go_ret
          all_goals exact ⟨rfl, by first | exact HF.out | (rw [← hbx]; exact HF.out)⟩
end Go.Proofs.YtccmlmahjgndbaaDoor.SemLw
