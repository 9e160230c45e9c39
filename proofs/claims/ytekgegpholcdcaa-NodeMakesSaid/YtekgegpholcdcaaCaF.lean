/- The cache: what some answers that were put leave; no more are kept than there are places. -/
import Derived.Test.YtekgegpholcdcaaCaE
namespace Go.Proofs.Ytekgegpholcdcaa.CaF
open Go.RowKit Go.Lib Go.Proofs Go.Proofs.Ytekgegpholcdcaa.CaA Go.Proofs.Ytekgegpholcdcaa.CaB Go.Proofs.Ytekgegpholcdcaa.CaC Go.Proofs.Ytekgegpholcdcaa.CaD
set_option linter.unusedVariables false
/-- The question of the law of sizes. -/
def qk (x : Int) : Qn := ⟨1, x, 0, 0⟩
theorem qk_inj {x y : Int} (h : qk x = qk y) : x = y := by injection h
/-- What is there when the keys were put. -/
def putL (k : Nat) (T : List Int) : Nat → Pl := T.foldl (fun M x => upd M (ix k (qk x)) ⟨qk x, x, true⟩) (fun _ => Pl.zero)
theorem putL_snoc (k : Nat) (T : List Int) (x : Int) : putL k (T ++ [x]) = upd (putL k T) (ix k (qk x)) ⟨qk x, x, true⟩ := by
  unfold putL
  rw [List.foldl_append]
  rfl
theorem putL_take (k : Nat) (T : List Int) (j : Nat) (h : j < T.length) : putL k (T.take (j + 1)) = upd (putL k (T.take j)) (ix k (qk T[j])) ⟨qk T[j], T[j], true⟩ := by
  rw [List.take_succ_eq_append_getElem h, putL_snoc]
/-- Is it kept? -/
def hit (k : Nat) (T : List Int) (x : Int) : Prop := (putL k T (ix k (qk x))).kept = true ∧ (putL k T (ix k (qk x))).q = qk x
theorem hit_last (k : Nat) (T : List Int) (x : Int) : hit k (T ++ [x]) x := by
  unfold hit
  rw [putL_snoc]
  unfold upd
  rw [if_pos rfl]
  exact ⟨rfl, rfl⟩
theorem hit_same (k : Nat) (T : List Int) (x y : Int) (hx : hit k T x) (hy : hit k T y) (h : ix k (qk x) = ix k (qk y)) : x = y := by
  have a := hx.2
  have b := hy.2
  rw [h, b] at a
  exact (qk_inj a).symm
theorem pigeon : ∀ (n : Nat) (l : List Nat), l.Nodup → (∀ x ∈ l, x < n) → l.length ≤ n
  | 0, [], _, _ => Nat.le_refl _
  | 0, a :: l, _, h => absurd (h a (by simp)) (by omega)
  | n + 1, l, hd, h => by
    by_cases hn : n ∈ l
    · have h1 := pigeon n (l.erase n) (hd.erase n) (fun x hx => by
        have := (hd.mem_erase_iff).1 hx
        have := h x this.2
        omega)
      rw [List.length_erase_of_mem hn] at h1
      omega
    · have := pigeon n l hd (fun x hx => by
        have := h x hx
        have : x ≠ n := fun e => hn (e ▸ hx)
        omega)
      omega
/-- What the law of sizes has counted of the first i keys: where they are. -/
structure Cn (k : Nat) (T : List Int) (i : Nat) (Z : List Nat) : Prop where
  nodup : Z.Nodup
  lt : ∀ z ∈ Z, z < 2 ^ k
  src : ∀ z ∈ Z, ∃ x ∈ T.take i, hit k T x ∧ z = ix k (qk x)
  has : ∀ x ∈ T.take i, hit k T x → ix k (qk x) ∈ Z
theorem Cn.start (k : Nat) (T : List Int) : Cn k T 0 [] := ⟨List.nodup_nil, (fun z h => by cases h), (fun z h => by cases h), (fun x h => by simp at h)⟩
theorem mem_take_succ {T : List Int} {i : Nat} (h : i < T.length) (x : Int) : x ∈ T.take (i + 1) ↔ x ∈ T.take i ∨ x = T[i] := by
  rw [List.take_succ_eq_append_getElem h, List.mem_append, List.mem_singleton]
theorem Cn.skip {k : Nat} {T : List Int} {i : Nat} {Z : List Nat} (h : Cn k T i Z) (hi : i < T.length) (hs : T[i] ∈ T.take i ∨ ¬ hit k T T[i]) : Cn k T (i + 1) Z :=
  ⟨h.nodup, h.lt, fun z hz => by
    obtain ⟨x, hx, a, b⟩ := h.src z hz
    exact ⟨x, (mem_take_succ hi x).2 (Or.inl hx), a, b⟩, fun x hx hh => by
    rcases (mem_take_succ hi x).1 hx with hx | rfl
    · exact h.has x hx hh
    · rcases hs with hs | hs
      · exact h.has _ hs hh
      · exact absurd hh hs⟩
theorem Cn.put {k : Nat} {T : List Int} {i : Nat} {Z : List Nat} (hk : k ≤ 16) (h : Cn k T i Z) (hi : i < T.length) (hn : T[i] ∉ T.take i) (hh : hit k T T[i]) : Cn k T (i + 1) (ix k (qk T[i]) :: Z) :=
  ⟨List.nodup_cons.2 ⟨fun hz => by
      obtain ⟨x, hx, a, b⟩ := h.src _ hz
      exact hn (hit_same k T _ _ hh a b ▸ hx), h.nodup⟩, fun z hz => by
    rcases List.mem_cons.1 hz with rfl | hz
    · exact ix_lt k hk _
    · exact h.lt z hz, fun z hz => by
    rcases List.mem_cons.1 hz with rfl | hz
    · exact ⟨_, (mem_take_succ hi _).2 (Or.inr rfl), hh, rfl⟩
    · obtain ⟨x, hx, a, b⟩ := h.src z hz
      exact ⟨x, (mem_take_succ hi x).2 (Or.inl hx), a, b⟩, fun x hx h2 => by
    rcases (mem_take_succ hi x).1 hx with hx | rfl
    · exact List.mem_cons_of_mem _ (h.has x hx h2)
    · exact List.mem_cons_self⟩
theorem Cn.le {k : Nat} {T : List Int} {i : Nat} {Z : List Nat} (h : Cn k T i Z) : Z.length ≤ 2 ^ k := pigeon _ _ h.nodup h.lt
theorem Cn.pos {k : Nat} {T : List Int} {Z : List Nat} (h : Cn k T T.length Z) (hT : T ≠ []) : 0 < Z.length := by
  obtain ⟨S, x, rfl⟩ : ∃ S x, T = S ++ [x] := ⟨T.dropLast, T.getLast hT, (List.dropLast_concat_getLast hT).symm⟩
  have := h.has x (by rw [List.take_length]; simp) (hit_last k S x)
  exact List.length_pos_of_mem this
/-- The size is as it is to be. -/
theorem two_and : ∀ k : Fin 17, bits .and .i64 ((2 ^ k.val : Nat) : Int) (((2 ^ k.val : Nat) : Int) - 1) = 0 := by decide +kernel
theorem half {k : Nat} (h : k ≠ 0) : 2 ^ k / 2 = 2 ^ (k - 1) := by
  obtain ⟨j, rfl⟩ : ∃ j, k = j + 1 := ⟨k - 1, by omega⟩
  rw [Nat.pow_succ, Nat.add_sub_cancel]
  omega
/-- A slice value that reads as numbers, wherever it lies. -/
def KG (w : World) (A : Option Addr) (L : List Int) : Prop :=
  0 < L.length → ∃ g o, A = some ⟨g, o, none⟩ ∧ g < w.heap.size ∧ ∀ j, (h : j < L.length) → w.cell? ⟨g, o + j, none⟩ = some (.int .i64 L[j])
theorem KG.below {w w' : World} {A : Option Addr} {L : List Int} (h : KG w A L) (hb : Below w.heap.size w w') : KG w' A L := fun hp => by
  obtain ⟨g, o, hA, hg, hc⟩ := h hp
  exact ⟨g, o, hA, Nat.lt_of_lt_of_le hg hb.size, fun j hj => (hb.cell (p := ⟨g, o + j, none⟩) hg).trans (hc j hj)⟩
theorem KG.take {w : World} {A : Option Addr} {L : List Int} (h : KG w A L) (m : Nat) : KG w A (L.take m) := fun hp => by
  obtain ⟨g, o, hA, hg, hc⟩ := h (by simp at hp; omega)
  refine ⟨g, o, hA, hg, fun j hj => ?_⟩
  rw [List.getElem_take]
  exact hc j (by simp at hj; omega)
end Go.Proofs.Ytekgegpholcdcaa.CaF
