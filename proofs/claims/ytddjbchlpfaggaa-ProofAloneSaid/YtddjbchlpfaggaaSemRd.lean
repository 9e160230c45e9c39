/- The document's once at right rules; what runs of it come to. -/
import Derived.Test.YtddjbchlpfaggaaSemRc
namespace Go.Proofs.Ytddjbchlpfaggaa.SemRd
open Go.RowKit Go.Lib Go.Proofs Go.Proofs.Ytddjbchlpfaggaa.TblB Go.Proofs.Ytddjbchlpfaggaa.TblC Go.Proofs.Ytddjbchlpfaggaa.TblV Go.Proofs.Ytddjbchlpfaggaa.TblP Go.Proofs.Ytddjbchlpfaggaa.TblQ Go.Proofs.Ytddjbchlpfaggaa.SemA Go.Proofs.Ytddjbchlpfaggaa.SemJ Go.Proofs.Ytddjbchlpfaggaa.SemR Go.Proofs.Ytddjbchlpfaggaa.SemRa Go.Proofs.Ytddjbchlpfaggaa.SemRb Go.Proofs.Ytddjbchlpfaggaa.SemRc
set_option linter.unusedVariables false
set_option linter.unusedSimpArgs false
theorem once {mo gi ca P K n : Nat} {R : Nat → Nat} {f : Rel} (u : Ru) (w : World) (hm : MR w mo gi ca P K n R f) (hP : P ≤ 1000) (hK : K ≤ 1000) (hnn : n = P * K) (hr : rightU P K u = true) :
    Calls Try.prog 27 #[.pointer (some ⟨mo, 0, none⟩), u.val] w (OncePost mo gi ca P K n R f u w) := by
  have hn : n ≤ 1000000 := by rw [hnn]; exact Nat.mul_le_mul hP hK
  rw [right_iff, ← hnn] at hr
  obtain ⟨k, h, x, a, b, v⟩ := u
  obtain ⟨⟨h1, h2⟩, hk⟩ := hr
  dsimp only at h1 h2 hk
  obtain ⟨hd, rfl⟩ : ∃ hd : Nat, h = hd := ⟨h.toNat, by omega⟩
  rcases hk with ⟨rfl, q1, q2, rfl, rfl, rfl⟩ | ⟨rfl, rfl, q1, rfl, rfl⟩ | ⟨rfl, rfl, q1, rfl, q2, q3⟩ | ⟨rfl, rfl, q1, rfl, q2, q3⟩
  · obtain ⟨y, rfl⟩ : ∃ y : Nat, x = y := ⟨x.toNat, by omega⟩
    exact once1 hd y w hm hP hn (by omega)
  · obtain ⟨a', rfl⟩ : ∃ y : Nat, a = y := ⟨a.toNat, by omega⟩
    exact once2 hd a' w hm hP hn (by omega) (by omega)
  · obtain ⟨a', rfl⟩ : ∃ y : Nat, a = y := ⟨a.toNat, by omega⟩
    obtain ⟨v', rfl⟩ : ∃ y : Nat, v = y := ⟨v.toNat, by omega⟩
    exact once3 hd a' v' w hm hP hn (by omega) (by omega) (by omega) hK hnn
  · obtain ⟨a', rfl⟩ : ∃ y : Nat, a = y := ⟨a.toNat, by omega⟩
    obtain ⟨c', rfl⟩ : ∃ y : Nat, b = y := ⟨b.toNat, by omega⟩
    exact once4 hd a' c' w hm hP hn (by omega) (by omega) (by omega)
/-- Nobody is in but by the rules. -/
def Snd (K : Nat) (L : List Ru) (f : Rel) : Prop := ∀ r x, f r x = true → Der K L r x
theorem Snd.start (K : Nat) (L : List Ru) : Snd K L (fun _ _ => false) := fun r x h => by cases h
theorem Snd.step {P K : Nat} {L : List Ru} {u : Ru} (hu : u ∈ L) (hr : rightU P K u = true) (g : Rel) (x : Nat) (hg : Snd K L g) (hc : cnd P K g u x = true) : Snd K L (upd g u.head.toNat x) := by
  intro r y hf
  unfold upd at hf
  split at hf
  · rename_i e
    obtain ⟨rfl, rfl⟩ := e
    rw [right_iff] at hr
    obtain ⟨⟨h1, h2⟩, hk⟩ := hr
    have eh : ((u.head.toNat : Nat) : Int) = u.head := by omega
    rw [eh]
    unfold cnd at hc
    rcases hk with ⟨k, q⟩ | ⟨k, q⟩ | ⟨k, q⟩ | ⟨k, q⟩
    · rw [if_pos k, decide_eq_true_eq] at hc
      rw [hc]
      exact Der.mem u hu k
    · rw [if_neg (by omega), if_pos k] at hc
      have := hg _ _ hc
      rw [show ((u.a.toNat : Nat) : Int) = u.a by omega] at this
      exact Der.incl u y hu k this
    · rw [if_neg (by omega), if_neg (by omega), if_pos k, List.any_eq_true] at hc
      obtain ⟨z, hz, h3⟩ := hc
      rw [Bool.and_eq_true] at h3
      have d1 := hg _ _ h3.1
      have d2 := hg _ _ h3.2
      rw [show ((u.a.toNat : Nat) : Int) = u.a by omega] at d1
      rw [show ((z * K + u.via.toNat : Nat) : Int) = (z : Int) * K + u.via by rw [Int.natCast_add, Int.natCast_mul]; omega] at d2
      exact Der.link u z y hu k d1 d2
    · rw [if_neg (by omega), if_neg (by omega), if_neg (by omega), Bool.and_eq_true] at hc
      have d1 := hg _ _ hc.1
      have d2 := hg _ _ hc.2
      rw [show ((u.a.toNat : Nat) : Int) = u.a by omega] at d1
      rw [show ((u.b.toNat : Nat) : Int) = u.b by omega] at d2
      exact Der.both u y hu k d1 d2
  · exact hg r y hf
/-- Nothing more comes in. -/
def Clo (P K : Nat) (L : List Ru) (f : Rel) : Prop := ∀ u ∈ L, ∀ x, x < P → cnd P K f u x = true → f u.head.toNat x = true
theorem Clo.der {P K : Nat} {L : List Ru} {f : Rel} (hr : ∀ u ∈ L, rightU P K u = true) (hc : Clo P K L f) {r x : Int} (d : Der K L r x) : ∃ (r' x' : Nat), r = r' ∧ x = x' ∧ r' < P * K ∧ x' < P ∧ f r' x' = true := by
  induction d with
  | mem u hu hk =>
    have h := hr u hu
    rw [right_iff] at h
    obtain ⟨⟨h1, h2⟩, hq⟩ := h
    refine ⟨u.head.toNat, u.who.toNat, by omega, by omega, by omega, by omega, ?_⟩
    refine hc u hu _ (by omega) ?_
    unfold cnd
    rw [if_pos hk, decide_eq_true_eq]
    omega
  | incl u x hu hk d ih =>
    have h := hr u hu
    rw [right_iff] at h
    obtain ⟨⟨h1, h2⟩, hq⟩ := h
    obtain ⟨r', x', e1, rfl, h3, h4, h5⟩ := ih
    refine ⟨u.head.toNat, x', by omega, rfl, by omega, h4, ?_⟩
    refine hc u hu _ h4 ?_
    unfold cnd
    rw [if_neg (by omega), if_pos hk, e1]
    exact h5
  | link u x y hu hk d1 d2 ih1 ih2 =>
    have h := hr u hu
    rw [right_iff] at h
    obtain ⟨⟨h1, h2⟩, hq⟩ := h
    obtain ⟨r', x', e1, rfl, h3, h4, h5⟩ := ih1
    obtain ⟨r2, y', e2, rfl, h6, h7, h8⟩ := ih2
    refine ⟨u.head.toNat, y', by omega, rfl, by omega, h7, ?_⟩
    refine hc u hu _ h7 ?_
    unfold cnd
    rw [if_neg (by omega), if_neg (by omega), if_pos hk, List.any_eq_true]
    refine ⟨x', List.mem_range.2 h4, ?_⟩
    have e3 : x' * K + u.via.toNat = r2 := by
      have : ((x' * K + u.via.toNat : Nat) : Int) = r2 := by rw [← e2, Int.natCast_add, Int.natCast_mul]; omega
      omega
    rw [e3, h8, e1]
    simpa using h5
  | both u x hu hk d1 d2 ih1 ih2 =>
    have h := hr u hu
    rw [right_iff] at h
    obtain ⟨⟨h1, h2⟩, hq⟩ := h
    obtain ⟨r', x', e1, rfl, h3, h4, h5⟩ := ih1
    obtain ⟨r2, x2, e2, e3, h6, h7, h8⟩ := ih2
    obtain rfl : x' = x2 := by omega
    refine ⟨u.head.toNat, x', by omega, rfl, by omega, h4, ?_⟩
    refine hc u hu _ h4 ?_
    unfold cnd
    rw [if_neg (by omega), if_neg (by omega), if_neg (by omega), e1, e2]
    simp [h5, h8]
/-- A closed model that holds nobody but by the rules holds just what follows. -/
theorem is_der {P K : Nat} {L : List Ru} {f : Rel} (hr : ∀ u ∈ L, rightU P K u = true) (hs : Snd K L f) (hc : Clo P K L f) (r x : Nat) : f r x = true ↔ Der K L r x := by
  refine ⟨hs r x, fun d => ?_⟩
  obtain ⟨r', x', e1, e2, _, _, h⟩ := hc.der hr d
  obtain rfl : r = r' := by omega
  obtain rfl : x = x' := by omega
  exact h
/-- How many aren't in yet. -/
def outs (n P : Nat) (f : Rel) : Nat := ((List.range n).map fun r => ((List.range P).filter fun x => !f r x).length).sum
end Go.Proofs.Ytddjbchlpfaggaa.SemRd
