/- Maps by what they hold: values by keys that are numbers. -/
import Derived.Test.YtnkkmppmfjekeaaQuB
import Derived.Maps.OwnSet
namespace Go.Proofs.Ytnkkmppmfjekeaa.QuM
open Go.RowKit Go.Lib Go.Proofs Go.Maps
set_option linter.unusedVariables false
set_option linter.unusedSimpArgs false
theorem laidOut : laidOutB Try.prog = true := by kernel_rfl
abbrev RV (v : Value) : Option (DataW Value × List MemPlace) := some (.held v, [])
/-- Block b is a map of at most n entries, with these values by these keys. -/
def MapV {κ : Type} (w : World) (k : TypeId) (key : κ → Value) (b n : Nat) (M : κ → Option Value) : Prop :=
  ∃ D : DataW Value, w.ownsMap Try.prog k RV b n D ∧ ∀ f kl, keyOf Try.prog k (key f) = some kl → Maps.has D kl = (M f).isSome ∧ ∀ v, M f = some v → ∀ z, D.atKey kl z = .held v
section
variable {κ : Type} {w w' : World} {k t e : TypeId} {key : κ → Value} {b n : Nat} {M : κ → Option Value}
theorem MapV.made (w : World) (k : TypeId) (key : κ → Value) : MapV (w.alloc (.map #[] 0)) k key w.heap.size 0 (fun _ => none) :=
  ⟨.map [], World.ownsMap_made _ _ _ _, fun f kl h => ⟨rfl, fun v h => by cases h⟩⟩
theorem MapV.heap (h : MapV w k key b n M) (hb : w'.heap[b]? = w.heap[b]?) : MapV w' k key b n M := by
  obtain ⟨D, ⟨es, clock, h1, h2⟩, h3⟩ := h
  exact ⟨D, ⟨es, clock, hb.trans h1, h2⟩, h3⟩
theorem MapV.blk (h : MapV w k key b n M) : ∃ es clock, w.heap[b]? = some (.map es clock) := by
  obtain ⟨D, ⟨es, clock, h1, h2⟩, h3⟩ := h
  exact ⟨es, clock, h1⟩
theorem MapV.lt (h : MapV w k key b n M) : b < w.heap.size := by
  obtain ⟨es, clock, h⟩ := h.blk
  exact (Array.getElem?_eq_some_iff.1 h).1
theorem MapV.below (h : MapV w k key b n M) (hb : Below w.heap.size w w') : MapV w' k key b n M := h.heap (hb.block _ h.lt)
theorem MapV.mono {n' : Nat} (h : MapV w k key b n M) (hn : n ≤ n') : MapV w k key b n' M := by
  obtain ⟨D, h1, h3⟩ := h
  exact ⟨D, h1.mono hn, h3⟩
theorem MapV.look_ok (h : MapV w k key b n M) (K : Keyed Try.prog k) (ht : Try.prog.underlying t = some (.map k e)) {z : Value} (hz : (zeroValue e).run Try.prog w = .ok z w) {f : κ} {kl : Lit} (hkey : keyOf Try.prog k (key f) = some kl) :
    (Instr.lookup t (.map (some b)) (key f) true).run Try.prog w = .ok (.tuple #[(M f).getD z, .bool (M f).isSome]) w := by
  obtain ⟨D, h1, h2⟩ := h
  obtain ⟨v, ps, hr, hv⟩ := h1.look_ok K ht hz (zd := .held z) (zp := []) rfl hkey
  obtain ⟨a1, a2⟩ := h2 f kl hkey
  rw [hr, a1]
  simp only [RV, Option.some.injEq, Prod.mk.injEq] at hv
  cases hm : M f with
  | none =>
    rw [hm] at a1
    rw [atKey_of_not_has a1] at hv
    simp only [DataW.held.injEq] at hv
    rw [hv.1]; rfl
  | some x =>
    rw [a2 x hm] at hv
    simp only [DataW.held.injEq] at hv
    rw [hv.1]; rfl
theorem MapV.look (h : MapV w k key b n M) (K : Keyed Try.prog k) (ht : Try.prog.underlying t = some (.map k e)) {z : Value} (hz : (zeroValue e).run Try.prog w = .ok z w) {f : κ} {kl : Lit} (hkey : keyOf Try.prog k (key f) = some kl) :
    (Instr.lookup t (.map (some b)) (key f) false).run Try.prog w = .ok ((M f).getD z) w := by
  obtain ⟨D, h1, h2⟩ := h
  obtain ⟨v, ps, hr, hv⟩ := h1.lookup K ht hz (zd := .held z) (zp := []) rfl hkey
  obtain ⟨a1, a2⟩ := h2 f kl hkey
  rw [hr]
  simp only [RV, Option.some.injEq, Prod.mk.injEq] at hv
  cases hm : M f with
  | none =>
    rw [hm] at a1
    rw [atKey_of_not_has a1] at hv
    simp only [DataW.held.injEq] at hv
    rw [hv.1]; rfl
  | some x =>
    rw [a2 x hm] at hv
    simp only [DataW.held.injEq] at hv
    rw [hv.1]; rfl
def putK [DecidableEq κ] (M : κ → Option Value) (f : κ) (v : Value) : κ → Option Value := fun g => if g = f then some v else M g
theorem MapV.store [DecidableEq κ] (h : MapV w k key b n M) (K : Keyed Try.prog k) (ht : Try.prog.underlying t = some (.map k e)) (hn : n < maxLen) (hinj : ∀ f g, key f = key g → f = g) {f : κ} {kl : Lit} (hkey : keyOf Try.prog k (key f) = some kl) (v : Value) :
    ∃ w', (Instr.mapUpdate t (.map (some b)) (key f) v).run Try.prog w = .ok () w' ∧ MapV w' k key b (n + 1) (putK M f v) ∧ w.mapTurned w' b := by
  obtain ⟨D, h1, h2⟩ := h
  obtain ⟨w', r1, r2, r3⟩ := h1.store K ht hn hkey (val := v) (d := .held v) (ps := []) rfl
  refine ⟨w', r1, ⟨_, r2, fun g gl hg => ?_⟩, r3⟩
  unfold putK
  by_cases e : g = f
  · subst e
    rw [hkey] at hg
    cases hg
    rw [if_pos rfl]
    exact ⟨has_put_same h1.isMap (K.key hkey) _, fun x hx z => by cases hx; exact atKey_put_same h1.isMap (K.key hkey) _ z⟩
  · rw [if_neg e]
    have hne : gl ≠ kl := fun q => by
      subst q
      exact e (hinj _ _ (K.inj hg hkey))
    rw [has_put_other hne]
    refine ⟨(h2 g gl hg).1, fun x hx z => ?_⟩
    rw [atKey_put_other hne]
    exact (h2 g gl hg).2 x hx z
end
set_option maxRecDepth 100000
def iv (r : Int) : Value := .int .i64 r
theorem iv_inj (f g : Int) (h : iv f = iv g) : f = g := by
  unfold iv at h
  simpa using h
theorem lawI : Keyed Try.prog 3 := int_keyed Try.underlying3
theorem keyI {r : Int} (h : -9223372036854775808 ≤ r ∧ r ≤ 9223372036854775807) : keyOf Try.prog 3 (iv r) = some (.int .i64 r) := keyOf_int_mk Try.underlying3 (WalkArith.wf_i64 (by omega))
theorem zeroI (w : World) : (zeroValue 3).run Try.prog w = .ok (.int .i64 0) w := by kernel_rfl
end Go.Proofs.Ytnkkmppmfjekeaa.QuM
