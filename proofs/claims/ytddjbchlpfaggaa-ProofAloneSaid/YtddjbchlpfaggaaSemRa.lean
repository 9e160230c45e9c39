/- The document's model in memory: rows by roles, of whether each principal is in. -/
import Derived.Test.YtddjbchlpfaggaaSemR
namespace Go.Proofs.Ytddjbchlpfaggaa.SemRa
open Go.RowKit Go.Lib Go.Proofs Go.Proofs.Ytddjbchlpfaggaa.TblB Go.Proofs.Ytddjbchlpfaggaa.TblC Go.Proofs.Ytddjbchlpfaggaa.TblV Go.Proofs.Ytddjbchlpfaggaa.TblP Go.Proofs.Ytddjbchlpfaggaa.TblQ Go.Proofs.Ytddjbchlpfaggaa.SemA Go.Proofs.Ytddjbchlpfaggaa.SemJ
set_option linter.unusedVariables false
set_option linter.unusedSimpArgs false
abbrev Rel := Nat → Nat → Bool
def upd (f : Rel) (h x : Nat) : Rel := fun r y => if r = h ∧ y = x then true else f r y
theorem upd_same (f : Rel) (h x : Nat) : upd f h x h x = true := by unfold upd; simp
theorem upd_le (f : Rel) (h x : Nat) {r y : Nat} (hf : f r y = true) : upd f h x r y = true := by
  unfold upd
  split
  · rfl
  · exact hf
/-- Who comes in by a rule, of who is in. -/
def cnd (P K : Nat) (f : Rel) (u : Ru) (x : Nat) : Bool :=
  if u.kind = 1 then decide ((x : Int) = u.who) else if u.kind = 2 then f u.a.toNat x else if u.kind = 3 then (List.range P).any fun y => f u.a.toNat y && f (y * K + u.via.toNat) x else f u.a.toNat x && f u.b.toNat x
/-- The document's model: P principals, K names, n roles; R: the rows' blocks. -/
structure MR (w : World) (mo gi ca P K n : Nat) (R : Nat → Nat) (f : Rel) : Prop where
  h0 : w.heap[mo]? = some (.cells #[.int .i64 P, .int .i64 K, .slice (if n = 0 then none else some ⟨gi, 0, none⟩) n ca] 64 (0, 0))
  hi : ∀ r, r < n → ∃ c, w.cell? ⟨gi, r, none⟩ = some (.slice (some ⟨R r, 0, none⟩) P c)
  hg : 0 < n → gi < w.heap.size ∧ gi ≠ mo
  hr : ∀ r, r < n → ∃ vs, w.heap[R r]? = some (.cells vs 4 (0, 0)) ∧ ∀ x, x < P → vs[x]? = some (.bool (f r x))
  inj : ∀ r s, r < n → s < n → R r = R s → r = s
  nm : ∀ r, r < n → R r ≠ mo ∧ R r ≠ gi
theorem heap_lt {w : World} {b : Nat} {o : Obj} (h : w.heap[b]? = some o) : b < w.heap.size := (Array.getElem?_eq_some_iff.1 h).1
theorem MR.lt {w : World} {mo gi ca P K n : Nat} {R : Nat → Nat} {f : Rel} (h : MR w mo gi ca P K n R f) {r : Nat} (hr : r < n) : R r < w.heap.size := by
  obtain ⟨vs, h1, h2⟩ := h.hr r hr
  exact heap_lt h1
theorem MR.below {w w' : World} {mo gi ca P K n : Nat} {R : Nat → Nat} {f : Rel} (h : MR w mo gi ca P K n R f) (hb : Below w.heap.size w w') : MR w' mo gi ca P K n R f := by
  refine ⟨(hb.block _ (heap_lt h.h0)).trans h.h0, fun r hr => ?_, fun hn => ⟨Nat.lt_of_lt_of_le (h.hg hn).1 hb.size, (h.hg hn).2⟩, fun r hr => ?_, h.inj, h.nm⟩
  · obtain ⟨c, hc⟩ := h.hi r hr
    exact ⟨c, (hb.cell (p := ⟨gi, r, none⟩) (h.hg (by omega)).1).trans hc⟩
  · obtain ⟨vs, h1, h2⟩ := h.hr r hr
    exact ⟨vs, (hb.block _ (heap_lt h1)).trans h1, h2⟩
theorem MR.put {w : World} {mo gi ca P K n : Nat} {R : Nat → Nat} {f : Rel} (h : MR w mo gi ca P K n R f) {r x : Nat} (hr : r < n) (hx : x < P) : MR (w.setCell ⟨R r, x, none⟩ (.bool true)) mo gi ca P K n R (upd f r x) := by
  obtain ⟨n1, n2⟩ := h.nm r hr
  refine ⟨(heap_setCell_other w ⟨R r, x, none⟩ mo _ (Ne.symm n1)).trans h.h0, fun s hs => ?_, fun hn => ⟨by simpa [World.setCell] using (h.hg hn).1, (h.hg hn).2⟩, fun s hs => ?_, h.inj, h.nm⟩
  · obtain ⟨c, hc⟩ := h.hi s hs
    exact ⟨c, (World.cell?_of_block (a := ⟨gi, s, none⟩) (heap_setCell_other w ⟨R r, x, none⟩ gi _ (Ne.symm n2))).trans hc⟩
  · obtain ⟨vs, h1, h2⟩ := h.hr s hs
    by_cases e : s = r
    · subst e
      refine ⟨_, heap_setCell_same w (R s) x _ _ _ h1, fun y hy => ?_⟩
      rw [Array.getElem?_setIfInBounds]
      unfold upd
      by_cases e2 : x = y
      · subst e2
        have : x < vs.size := (Array.getElem?_eq_some_iff.1 (h2 x hy)).1
        simp [this]
      · rw [if_neg e2, h2 y hy]
        simp [Ne.symm e2]
    · have hne : R s ≠ R r := fun q => e (h.inj s r hs hr q)
      refine ⟨vs, (heap_setCell_other w ⟨R r, x, none⟩ (R s) _ hne).trans h1, fun y hy => ?_⟩
      rw [h2 y hy]
      unfold upd
      rw [if_neg (fun q => e q.1)]
/-- All but the rows stays. -/
structure Fr (n : Nat) (R : Nat → Nat) (w w' : World) : Prop where
  os : w'.os = w.os
  tape : w'.tape = w.tape
  output : w'.output = w.output
  size : w.heap.size ≤ w'.heap.size
  block : ∀ b, b < w.heap.size → (∀ r, r < n → b ≠ R r) → w'.heap[b]? = w.heap[b]?
theorem Fr.refl (n : Nat) (R : Nat → Nat) (w : World) : Fr n R w w := ⟨rfl, rfl, rfl, Nat.le_refl _, fun _ _ _ => rfl⟩
theorem Fr.trans {n : Nat} {R : Nat → Nat} {a b c : World} (h : Fr n R a b) (k : Fr n R b c) : Fr n R a c :=
  ⟨k.os.trans h.os, k.tape.trans h.tape, k.output.trans h.output, Nat.le_trans h.size k.size, fun i hi hr => (k.block i (Nat.lt_of_lt_of_le hi h.size) hr).trans (h.block i hi hr)⟩
theorem Fr.below {n : Nat} {R : Nat → Nat} {a b c : World} (h : Fr n R a b) (k : Below b.heap.size b c) : Fr n R a c :=
  h.trans ⟨k.os, k.tape, k.output, k.size, fun i hi _ => k.block i hi⟩
theorem Fr.set {n : Nat} {R : Nat → Nat} {a b : World} (h : Fr n R a b) {r : Nat} (hr : r < n) (x : Nat) (v : Value) : Fr n R a (b.setCell ⟨R r, x, none⟩ v) :=
  h.trans ⟨rfl, rfl, rfl, by simp [World.setCell], fun i hi hr2 => heap_setCell_other b ⟨R r, x, none⟩ i v (hr2 r hr)⟩
theorem Fr.start {n : Nat} {R : Nat → Nat} {a b c : World} (h : Below a.heap.size a b) (k : Fr n R b c) : Fr n R a c :=
  ⟨k.os.trans h.os, k.tape.trans h.tape, k.output.trans h.output, Nat.le_trans h.size k.size, fun i hi hr => (k.block i (Nat.lt_of_lt_of_le hi h.size) hr).trans (h.block i hi)⟩
/-- Where all rows are from B on, what is below B stays. -/
theorem Fr.low {n : Nat} {R : Nat → Nat} {w w' : World} {B : Nat} (h : Fr n R w w') (hB : B ≤ w.heap.size) (hR : ∀ r, r < n → B ≤ R r) : Below B w w' :=
  ⟨h.os, h.tape, h.output, h.size, fun k hk => h.block k (by omega) (fun r hr => by have := hR r hr; omega)⟩
theorem MR.cells {w : World} {mo gi ca P K n : Nat} {R : Nat → Nat} {f : Rel} (h : MR w mo gi ca P K n R f) (hn : 0 < n) : ∀ o, w.cell? ⟨mo, o, none⟩ = (#[.int .i64 P, .int .i64 K, .slice (some ⟨gi, 0, none⟩) n ca] : Array Value)[o]? := fun o => by
  rw [Lib.cell_of_heap h.h0, if_neg (by omega)]
theorem MR.row {w : World} {mo gi ca P K n : Nat} {R : Nat → Nat} {f : Rel} (h : MR w mo gi ca P K n R f) {r x : Nat} (hr : r < n) (hx : x < P) : w.cell? ⟨R r, x, none⟩ = some (.bool (f r x)) ∧ w.frozen? ⟨R r, x, none⟩ = false := by
  obtain ⟨vs, h1, h2⟩ := h.hr r hr
  exact ⟨by rw [Lib.cell_of_heap h1, h2 x hx], frozen_of_row _ _ _ _ _ h1⟩
/-- What a run of a rule over those in front of j leaves: b tells whether something came in. -/
structure Mid (P K : Nat) (f : Rel) (u : Ru) (j : Nat) (g : Rel) (b : Bool) : Prop where
  no : b = false → g = f ∧ ∀ x, x < j → cnd P K f u x = true → f u.head.toNat x = true
  yes : b = true → ∃ x, x < P ∧ cnd P K f u x = true ∧ f u.head.toNat x = false ∧ g u.head.toNat x = true
  le : ∀ r y, f r y = true → g r y = true
  ind : ∀ J : Rel → Prop, J f → (∀ g x, x < P → J g → cnd P K g u x = true → J (upd g u.head.toNat x)) → J g
theorem Mid.start (P K : Nat) (f : Rel) (u : Ru) : Mid P K f u 0 f false :=
  ⟨fun _ => ⟨rfl, fun x hx => by omega⟩, fun h => (by cases h), fun _ _ h => h, fun J h _ => h⟩
theorem Mid.skip {P K : Nat} {f : Rel} {u : Ru} {j : Nat} {g : Rel} {b : Bool} (h : Mid P K f u j g b) (hs : cnd P K g u j = false ∨ g u.head.toNat j = true) : Mid P K f u (j + 1) g b := by
  refine ⟨fun hb => ?_, h.yes, h.le, h.ind⟩
  obtain ⟨rfl, h2⟩ := h.no hb
  refine ⟨rfl, fun x hx hc => ?_⟩
  by_cases e : x = j
  · subst e
    rcases hs with q | q
    · rw [q] at hc; cases hc
    · exact q
  · exact h2 x (by omega) hc
theorem Mid.put {P K : Nat} {f : Rel} {u : Ru} {j : Nat} {g : Rel} {b : Bool} (h : Mid P K f u j g b) (hj : j < P) (hc : cnd P K g u j = true) (hf : g u.head.toNat j = false) : Mid P K f u (j + 1) (upd g u.head.toNat j) true := by
  refine ⟨fun q => (by cases q), fun _ => ?_, fun r y q => upd_le _ _ _ (h.le r y q), fun J h1 h2 => h2 g j hj (h.ind J h1 h2) hc⟩
  cases b with
  | false =>
    obtain ⟨rfl, h2⟩ := h.no rfl
    exact ⟨j, hj, hc, hf, upd_same _ _ _⟩
  | true =>
    obtain ⟨x, h1, h2, h3, h4⟩ := h.yes rfl
    exact ⟨x, h1, h2, h3, upd_le _ _ _ h4⟩
def OncePost (mo gi ca P K n : Nat) (R : Nat → Nat) (f : Rel) (u : Ru) (w : World) (e : Ending) (w' : World) : Prop :=
  ∃ g b, e = .returned (.bool b) ∧ MR w' mo gi ca P K n R g ∧ Fr n R w w' ∧ Mid P K f u P g b
end Go.Proofs.Ytddjbchlpfaggaa.SemRa
