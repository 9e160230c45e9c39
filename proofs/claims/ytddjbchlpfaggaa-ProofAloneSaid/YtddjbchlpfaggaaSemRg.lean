/- The document's Eval: rounds over the rules; what is not in yet. -/
import Derived.Test.YtddjbchlpfaggaaSemRe
namespace Go.Proofs.Ytddjbchlpfaggaa.SemRg
open Go.RowKit Go.Lib Go.Proofs Go.Proofs.Ytddjbchlpfaggaa.TblB Go.Proofs.Ytddjbchlpfaggaa.TblC Go.Proofs.Ytddjbchlpfaggaa.TblV Go.Proofs.Ytddjbchlpfaggaa.TblP Go.Proofs.Ytddjbchlpfaggaa.TblQ Go.Proofs.Ytddjbchlpfaggaa.SemA Go.Proofs.Ytddjbchlpfaggaa.SemB Go.Proofs.Ytddjbchlpfaggaa.SemJ Go.Proofs.Ytddjbchlpfaggaa.SemR Go.Proofs.Ytddjbchlpfaggaa.SemRa Go.Proofs.Ytddjbchlpfaggaa.SemRb Go.Proofs.Ytddjbchlpfaggaa.SemRd Go.Proofs.Ytddjbchlpfaggaa.SemRe
set_option linter.unusedVariables false
set_option linter.unusedSimpArgs false
theorem countP_lt {α : Type} {p q : α → Bool} : ∀ {l : List α}, (∀ x ∈ l, q x = true → p x = true) → (∃ x ∈ l, p x = true ∧ q x = false) → l.countP q < l.countP p
  | [], _, ⟨x, hx, _⟩ => by cases hx
  | a :: l, h, ⟨x, hx, h1, h2⟩ => by
    have hle : l.countP q ≤ l.countP p := List.countP_mono_left (fun y hy => h y (List.mem_cons_of_mem _ hy))
    rw [List.countP_cons, List.countP_cons]
    rcases List.mem_cons.1 hx with rfl | hx
    · rw [h1, h2]; simp; omega
    · have := countP_lt (fun y hy => h y (List.mem_cons_of_mem _ hy)) ⟨x, hx, h1, h2⟩
      have h3 := h a (List.mem_cons_self ..)
      cases hq : q a
      · simp; omega
      · rw [h3 hq]; simp; omega
/-- How many aren't in yet, as the world has it. -/
def isIn : Option Value → Bool
  | some (.bool true) => true
  | _ => false
def outW (n P : Nat) (R : Nat → Nat) (w : World) : Nat := (List.range (n * P)).countP fun i => !isIn (w.cell? ⟨R (i / P), i % P, none⟩)
def outF (n P : Nat) (f : Rel) : Nat := (List.range (n * P)).countP fun i => !f (i / P) (i % P)
theorem at_lt {n P i : Nat} (h : i < n * P) : i / P < n ∧ i % P < P := by
  have hP : 0 < P := Nat.pos_of_mul_pos_left (Nat.lt_of_le_of_lt (Nat.zero_le _) h)
  exact ⟨(Nat.div_lt_iff_lt_mul hP).2 h, Nat.mod_lt _ hP⟩
theorem outW_eq {w : World} {mo gi ca P K n : Nat} {R : Nat → Nat} {f : Rel} (h : MR w mo gi ca P K n R f) : outW n P R w = outF n P f := by
  unfold outW outF
  refine List.countP_congr fun i hi => ?_
  obtain ⟨h1, h2⟩ := at_lt (List.mem_range.1 hi)
  rw [(h.row h1 h2).1]
  cases f (i / P) (i % P) <;> simp [isIn]
theorem outF_lt {n P : Nat} {f g : Rel} (hle : ∀ r x, f r x = true → g r x = true) {r x : Nat} (hr : r < n) (hx : x < P) (h1 : f r x = false) (h2 : g r x = true) : outF n P g < outF n P f := by
  refine countP_lt (fun i _ hq => ?_) ⟨r * P + x, List.mem_range.2 ?_, ?_, ?_⟩
  · cases hf : f (i / P) (i % P)
    · rfl
    · rw [hle _ _ hf] at hq; cases hq
  · calc r * P + x < r * P + P := by omega
      _ = (r + 1) * P := by rw [Nat.succ_mul]
      _ ≤ n * P := Nat.mul_le_mul_right P hr
  · rw [show (r * P + x) / P = r by rw [Nat.mul_comm, Nat.mul_add_div (by omega), Nat.div_eq_of_lt hx, Nat.add_zero], show (r * P + x) % P = x by rw [Nat.mul_comm, Nat.mul_add_mod, Nat.mod_eq_of_lt hx], h1]; rfl
  · rw [show (r * P + x) / P = r by rw [Nat.mul_comm, Nat.mul_add_div (by omega), Nat.div_eq_of_lt hx, Nat.add_zero], show (r * P + x) % P = x by rw [Nat.mul_comm, Nat.mul_add_mod, Nat.mod_eq_of_lt hx], h2]; rfl
/-- A round over the rules in front of j, from f0 on. -/
structure Rd (P K n : Nat) (L : List Ru) (f0 : Rel) (j : Nat) (f : Rel) (b : Bool) : Prop where
  no : b = false → f = f0 ∧ ∀ k, (h : k < L.length) → k < j → rightU P K L[k] = true → ∀ x, x < P → cnd P K f0 L[k] x = true → f0 L[k].head.toNat x = true
  yes : b = true → ∃ r x, r < n ∧ x < P ∧ f0 r x = false ∧ f r x = true
  le : ∀ r x, f0 r x = true → f r x = true
  snd : Snd K (L.filter (rightU P K)) f
theorem Rd.start {P K n : Nat} {L : List Ru} {f0 : Rel} (h : Snd K (L.filter (rightU P K)) f0) : Rd P K n L f0 0 f0 false :=
  ⟨fun _ => ⟨rfl, fun k hk h0 => by omega⟩, fun h => (by cases h), fun _ _ h => h, h⟩
theorem Rd.skip {P K n : Nat} {L : List Ru} {f0 f : Rel} {j : Nat} {b : Bool} (h : Rd P K n L f0 j f b) (hj : j < L.length) (hr : rightU P K L[j] = false) : Rd P K n L f0 (j + 1) f b := by
  refine ⟨fun hb => ?_, h.yes, h.le, h.snd⟩
  obtain ⟨e, h2⟩ := h.no hb
  refine ⟨e, fun k hk hkj hrk => ?_⟩
  by_cases e : k = j
  · subst e; rw [hr] at hrk; cases hrk
  · exact h2 k hk (by omega) hrk
theorem Rd.next {P K n : Nat} {L : List Ru} {f0 f g : Rel} {j : Nat} {b c : Bool} (hn : n = P * K) (h : Rd P K n L f0 j f b) (hj : j < L.length) (hr : rightU P K L[j] = true) (hm : Mid P K f L[j] P g c) : Rd P K n L f0 (j + 1) g (c || b) := by
  have hh : L[j].head.toNat < n := by
    have := (right_iff P K L[j]).1 hr
    obtain ⟨⟨h1, h2⟩, _⟩ := this
    rw [hn]; omega
  have hs : Snd K (L.filter (rightU P K)) g := hm.ind _ h.snd (fun g' x hx hJ hc => Snd.step (List.mem_filter.2 ⟨List.getElem_mem hj, hr⟩) hr g' x hJ hc)
  cases c with
  | true =>
    refine ⟨fun q => (by cases q), fun _ => ?_, fun r x q => hm.le _ _ (h.le _ _ q), hs⟩
    obtain ⟨x, h1, h2, h3, h4⟩ := hm.yes rfl
    refine ⟨L[j].head.toNat, x, hh, h1, ?_, h4⟩
    cases hq : f0 L[j].head.toNat x
    · rfl
    · rw [h.le _ _ hq] at h3; cases h3
  | false =>
    obtain ⟨rfl, h2⟩ := hm.no rfl
    refine ⟨fun q => ?_, h.yes, h.le, hs⟩
    obtain ⟨rfl, h3⟩ := h.no q
    refine ⟨rfl, fun k hk hkj hrk => ?_⟩
    by_cases e : k = j
    · subst e; exact h2
    · exact h3 k hk (by omega) hrk
theorem Rd.close {P K n : Nat} {L : List Ru} {f0 f : Rel} (h : Rd P K n L f0 L.length f false) : Clo P K (L.filter (rightU P K)) f := by
  obtain ⟨rfl, h2⟩ := h.no rfl
  intro u hu
  obtain ⟨h3, h4⟩ := List.mem_filter.1 hu
  obtain ⟨k, hk, rfl⟩ := List.getElem_of_mem h3
  exact h2 k hk hk h4
end Go.Proofs.Ytddjbchlpfaggaa.SemRg
