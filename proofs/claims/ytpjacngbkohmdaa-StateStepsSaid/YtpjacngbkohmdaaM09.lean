/- The lines of statements, in the program and in the document's answers. -/
import Derived.Test.YtpjacngbkohmdaaM08
import Derived.Test.YtpjacngbkohmdaaM02
import Derived.Test.YtpjacngbkohmdaaM07
import Derived.RegionTactic
import Derived.ChangeAlike
namespace Go.Proofs.Ytpjacngbkohmdaa.Syn9
set_option linter.unusedVariables false
set_option linter.unusedSimpArgs false
open Go.RowKit Go.Sort Go.Proofs Go.Proofs.Ytpjacngbkohmdaa.Plain Go.Proofs.Ytpjacngbkohmdaa.SynP Go.Proofs.Ytpjacngbkohmdaa.Named Go.Proofs.Ytpjacngbkohmdaa.RefN Go.Proofs.Ytpjacngbkohmdaa.Grown Go.Proofs.Ytpjacngbkohmdaa.Syn1 Go.Proofs.Ytpjacngbkohmdaa.Syn2 Go.Proofs.Ytpjacngbkohmdaa.Syn3 Go.Proofs.Ytpjacngbkohmdaa.Syn4 Go.Proofs.Ytpjacngbkohmdaa.Syn5 Go.Proofs.Ytpjacngbkohmdaa.SynE Go.Proofs.Ytpjacngbkohmdaa.Syn7 Go.Proofs.Ytpjacngbkohmdaa.Syn8
set_option linter.unusedSimpArgs false
set_option linter.unusedVariables false
theorem right_iff (k : Int) (ho hn wh ao an bo bn v : ByteArray) (h : Rl.ok ⟨ho, hn⟩ = true) : St.right ⟨k, ⟨ho, hn⟩, wh, ⟨ao, an⟩, ⟨bo, bn⟩, v⟩ = (St.says ⟨k, ⟨ho, hn⟩, wh, ⟨ao, an⟩, ⟨bo, bn⟩, v⟩ && decide ((⟨k, ⟨ho, hn⟩, wh, ⟨ao, an⟩, ⟨bo, bn⟩, v⟩ : St) = St.own ⟨k, ⟨ho, hn⟩, wh, ⟨ao, an⟩, ⟨bo, bn⟩, v⟩)) := by
  unfold St.right; simp only [h, Bool.true_and]
theorem rightRef (s : St) (w : World) (hf : s.fit) : Calls Try.prog 12 #[s.val] w fun e w' => e = .returned (.bool s.right) ∧ Grew w w' := by
  obtain ⟨k1, ⟨ho, hn⟩, wh, ⟨ao, an⟩, ⟨bo, bn⟩, v⟩ := s
  cases h1 : Rl.ok ⟨ho, hn⟩
  · refine (ref_head k1 ho hn wh ao an bo bn v w hf.1.1 hf.1.2 h1).mono ?_
    rintro e w' ⟨rfl, hg⟩
    exact ⟨ret_bool (by unfold St.right; simp only [h1]; rfl), hg⟩
  rcases kinds k1 with rfl | rfl | rfl | rfl | hk
  · refine (ref_1 ho hn wh ao an bo bn v w hf h1).mono ?_
    rintro e w' ⟨rfl, hg⟩
    refine ⟨ret_bool ?_, hg⟩
    rw [right_iff _ _ _ _ _ _ _ _ _ h1]
    simp only [St.says, St.own, zeroR]
    simp
    try (rw [Bool.eq_iff_iff]; simp; try grind)
  · refine (ref_2 ho hn wh ao an bo bn v w hf h1).mono ?_
    rintro e w' ⟨rfl, hg⟩
    refine ⟨ret_bool ?_, hg⟩
    rw [right_iff _ _ _ _ _ _ _ _ _ h1]
    simp only [St.says, St.own, zeroR]
    simp
    try (rw [Bool.eq_iff_iff]; simp; try grind)
  · refine (ref_3 ho hn wh ao an bo bn v w hf h1).mono ?_
    rintro e w' ⟨rfl, hg⟩
    refine ⟨ret_bool ?_, hg⟩
    rw [right_iff _ _ _ _ _ _ _ _ _ h1]
    simp only [St.says, St.own, zeroR]
    simp
    try (rw [Bool.eq_iff_iff]; simp; try grind)
  · refine (ref_4 ho hn wh ao an bo bn v w hf h1).mono ?_
    rintro e w' ⟨rfl, hg⟩
    refine ⟨ret_bool ?_, hg⟩
    rw [right_iff _ _ _ _ _ _ _ _ _ h1]
    simp only [St.says, St.own, zeroR]
    simp
    try (rw [Bool.eq_iff_iff]; simp; try grind)
  · refine (ref_5 k1 ho hn wh ao an bo bn v w hf.1.1 hf.1.2 h1 (by omega)).mono ?_
    rintro e w' ⟨rfl, hg⟩
    refine ⟨ret_bool ?_, hg⟩
    rw [right_iff _ _ _ _ _ _ _ _ _ h1]
    simp only [St.says, if_neg hk.1, if_neg hk.2.1, if_neg hk.2.2.1, if_neg hk.2.2.2, Bool.false_and]
end Go.Proofs.Ytpjacngbkohmdaa.Syn9
/- The lines of statements, in the program and in the document's answers. -/
namespace Go.Proofs.Ytpjacngbkohmdaa.SynL
set_option linter.unusedVariables false
set_option linter.unusedSimpArgs false
open Go.RowKit Go.Sort Go.Proofs Go.Proofs.Ytpjacngbkohmdaa.Plain Go.Proofs.Ytpjacngbkohmdaa.SynP Go.Proofs.Ytpjacngbkohmdaa.Named Go.Proofs.Ytpjacngbkohmdaa.RefN Go.Proofs.Ytpjacngbkohmdaa.Grown Go.Proofs.Ytpjacngbkohmdaa.Syn1 Go.Proofs.Ytpjacngbkohmdaa.Syn2 Go.Proofs.Ytpjacngbkohmdaa.Syn3 Go.Proofs.Ytpjacngbkohmdaa.Syn4 Go.Proofs.Ytpjacngbkohmdaa.Syn5 Go.Proofs.Ytpjacngbkohmdaa.SynE Go.Proofs.Ytpjacngbkohmdaa.Syn7 Go.Proofs.Ytpjacngbkohmdaa.Syn8 Go.Proofs.Ytpjacngbkohmdaa.Syn9
set_option linter.unusedSimpArgs false
set_option linter.unusedVariables false
def text (r : Rl) : ByteArray := r.owner ++ ⟨#[46]⟩ ++ r.name
/-- What stands behind the arrow. -/
def body (s : St) : ByteArray := if s.kind = 1 then s.who else if s.kind = 2 then text s.a else if s.kind = 3 then text s.a ++ ⟨#[46]⟩ ++ s.via else text s.a ++ ⟨#[32, 38, 32]⟩ ++ text s.b
/-- A statement's line: nothing, if it isn't right. -/
def line (s : St) : ByteArray := if s.right = true then text s.head ++ ⟨#[32, 60, 45, 32]⟩ ++ body s else noText
theorem right_kind {s : St} (h : s.right = true) : s.kind = 1 ∨ s.kind = 2 ∨ s.kind = 3 ∨ s.kind = 4 := by
  rcases kinds s.kind with h1 | h1 | h1 | h1 | ⟨h1, h2, h3, h4⟩
  · exact .inl h1
  · exact .inr (.inl h1)
  · exact .inr (.inr (.inl h1))
  · exact .inr (.inr (.inr h1))
  · unfold St.right St.says at h
    rw [if_neg h1, if_neg h2, if_neg h3, if_neg h4] at h
    simp at h
theorem addS (a b : ByteArray) (h : a.size + b.size ≤ 100000) (w : World) : (binOp .add 9 (.string a) (.string b)).run Try.prog w = .ok (.string (a ++ b)) w := by
  go_simp
  omega
theorem sz46 : (⟨#[46]⟩ : ByteArray).size = 1 := rfl
theorem sz38 : (⟨#[32, 38, 32]⟩ : ByteArray).size = 3 := rfl
theorem szA : (⟨#[32, 60, 45, 32]⟩ : ByteArray).size = 4 := rfl
theorem named_small {f} {s : ByteArray} (h : named f s.data.toList = true) : s.size ≤ 1000 := by
  rcases Nat.lt_or_ge 1000 s.size with hlt | hge
  · rw [named_len (by omega)] at h; cases h
  · exact hge
theorem ok_small {o n : ByteArray} (h : Rl.ok ⟨o, n⟩ = true) : o.size ≤ 1000 ∧ n.size ≤ 1000 := by
  unfold Rl.ok at h
  rw [Bool.and_eq_true] at h
  exact ⟨named_small h.1, named_small h.2⟩
theorem right_parts {k : Int} {ho hn wh ao an bo bn v : ByteArray} (h : St.right ⟨k, ⟨ho, hn⟩, wh, ⟨ao, an⟩, ⟨bo, bn⟩, v⟩ = true) : Rl.ok ⟨ho, hn⟩ = true ∧ (k = 1 → named capB wh.data.toList = true) ∧ ((k = 2 ∨ k = 3 ∨ k = 4) → Rl.ok ⟨ao, an⟩ = true) ∧ (k = 3 → named smallB v.data.toList = true) ∧ (k = 4 → Rl.ok ⟨bo, bn⟩ = true) := by
  unfold St.right at h
  simp only [Bool.and_eq_true] at h
  obtain ⟨⟨h1, h2⟩, h3⟩ := h
  unfold St.says at h2
  refine ⟨h1, ?_, ?_, ?_, ?_⟩
  · rintro rfl; exact h2
  · rintro (rfl | rfl | rfl)
    · exact h2
    · exact (Bool.and_eq_true _ _ ▸ h2 : _ ∧ _).1
    · have := (Bool.and_eq_true _ _ ▸ h2 : _ ∧ _).1
      exact (Bool.and_eq_true _ _ ▸ this : _ ∧ _).1
  · rintro rfl; exact (Bool.and_eq_true _ _ ▸ h2 : _ ∧ _).2
  · rintro rfl
    have := (Bool.and_eq_true _ _ ▸ h2 : _ ∧ _).1
    exact (Bool.and_eq_true _ _ ▸ this : _ ∧ _).2
end Go.Proofs.Ytpjacngbkohmdaa.SynL
/- Stores into a block that a world, known by its cells alone, holds. -/
namespace Go.Proofs.Ytpjacngbkohmdaa.SynS
set_option linter.unusedVariables false
set_option linter.unusedSimpArgs false
open Go.RowKit Go.Sort
theorem set_cell (w : World) (b i o : Nat) (v : Value) : (w.setCell ⟨b, i, none⟩ v).cell? ⟨b, o, none⟩ = if o = i then (w.cell? ⟨b, i, none⟩).map (fun _ => v) else w.cell? ⟨b, o, none⟩ := by
  unfold World.setCell World.cell?
  simp only [Array.getElem?_modify, if_true]
  cases h : w.heap[b]? with
  | none => simp
  | some x =>
    cases x <;> simp
    rename_i c e f
    by_cases hi : o = i
    · subst hi
      simp
      by_cases hs : o < c.size
      · simp [hs]
      · simp [hs]
    · simp [hi, Array.getElem?_setIfInBounds, Ne.symm hi]
theorem set_far (w : World) (b b' i o : Nat) (v : Value) (h : b ≠ b') : (w.setCell ⟨b, i, none⟩ v).cell? ⟨b', o, none⟩ = w.cell? ⟨b', o, none⟩ := by
  unfold World.setCell World.cell?
  simp only [Array.getElem?_modify]
  rw [if_neg h]
theorem set_frozen (w : World) (b i b' o : Nat) (v : Value) : (w.setCell ⟨b, i, none⟩ v).frozen? ⟨b', o, none⟩ = w.frozen? ⟨b', o, none⟩ := World.frozen?_setCell ..
theorem set_size (w : World) (b i : Nat) (v : Value) : (w.setCell ⟨b, i, none⟩ v).heap.size = w.heap.size := by simp [World.setCell]
theorem some_below {X : World} {n : Nat} (h : (X.cell? ⟨n, 8, none⟩).isSome = true) (i : Nat) (hi : i ≤ 8) : ∃ u, X.cell? ⟨n, i, none⟩ = some u := by
  unfold World.cell? at *
  cases hx : X.heap[n]? with
  | none => rw [hx] at h; simp at h
  | some x =>
    rw [hx] at h
    cases x with
    | cells c e f =>
      simp at h ⊢
      exact ⟨_, Array.getElem?_eq_getElem (by omega)⟩
    | _ => simp at h
set_option maxHeartbeats 1000000 in
/-- Nine stores into a block of nine cells. -/
theorem set9 (X : World) (n : Nat) (v0 v1 v2 v3 v4 v5 v6 v7 v8 : Value) (o : Nat) (ho : o < 9) (h : (X.cell? ⟨n, 8, none⟩).isSome = true) : (((((((((X.setCell ⟨n, 0, none⟩ v0).setCell ⟨n, 1, none⟩ v1).setCell ⟨n, 2, none⟩ v2).setCell ⟨n, 3, none⟩ v3).setCell ⟨n, 4, none⟩ v4).setCell ⟨n, 5, none⟩ v5).setCell ⟨n, 6, none⟩ v6).setCell ⟨n, 7, none⟩ v7).setCell ⟨n, 8, none⟩ v8).cell? ⟨n, o, none⟩ = (#[v0, v1, v2, v3, v4, v5, v6, v7, v8] : Array Value)[o]? := by
  obtain ⟨u0, h0⟩ := some_below h 0 (by omega)
  obtain ⟨u1, h1⟩ := some_below h 1 (by omega)
  obtain ⟨u2, h2⟩ := some_below h 2 (by omega)
  obtain ⟨u3, h3⟩ := some_below h 3 (by omega)
  obtain ⟨u4, h4⟩ := some_below h 4 (by omega)
  obtain ⟨u5, h5⟩ := some_below h 5 (by omega)
  obtain ⟨u6, h6⟩ := some_below h 6 (by omega)
  obtain ⟨u7, h7⟩ := some_below h 7 (by omega)
  obtain ⟨u8, h8⟩ := some_below h 8 (by omega)
  match o, ho with
  | 0, _ => simp [set_cell, h0, h1, h2, h3, h4, h5, h6, h7, h8]
  | 1, _ => simp [set_cell, h0, h1, h2, h3, h4, h5, h6, h7, h8]
  | 2, _ => simp [set_cell, h0, h1, h2, h3, h4, h5, h6, h7, h8]
  | 3, _ => simp [set_cell, h0, h1, h2, h3, h4, h5, h6, h7, h8]
  | 4, _ => simp [set_cell, h0, h1, h2, h3, h4, h5, h6, h7, h8]
  | 5, _ => simp [set_cell, h0, h1, h2, h3, h4, h5, h6, h7, h8]
  | 6, _ => simp [set_cell, h0, h1, h2, h3, h4, h5, h6, h7, h8]
  | 7, _ => simp [set_cell, h0, h1, h2, h3, h4, h5, h6, h7, h8]
  | 8, _ => simp [set_cell, h0, h1, h2, h3, h4, h5, h6, h7, h8]
open Go.Proofs.Ytpjacngbkohmdaa.Grown
theorem grewCall1 {P : Program} {f : FuncId} {args : Array Value} {w : World} {m n : Nat} {os : Array Obj} {v : Value} (h : Calls P f args (grow (w.drewN (m + n)) os) fun e w' => e = .returned v ∧ Grew (grow (w.drewN (m + n)) os) w') : Calls P f args (grow (w.drewN (m + n)) os) fun e w'' => e = .returned v ∧ ∃ p : GrownBy, w'' = grow (w.drewN (m + p.n)) p.os :=
  h.mono fun _ _ ⟨he, ⟨⟨q, os'⟩, hq⟩⟩ => ⟨he, ⟨n + q, os ++ os'⟩, by
    rw [hq]
    show grow (grow ((w.drewN (m + n)).drewN q) os) os' = _
    rw [grow_grow, World.drewN_drewN, Nat.add_assoc]⟩
end Go.Proofs.Ytpjacngbkohmdaa.SynS
/- Tokens compared, and the role that tokens begin with. -/
namespace Go.Proofs.Ytpjacngbkohmdaa.SynT
set_option linter.unusedVariables false
set_option linter.unusedSimpArgs false
open Go.RowKit Go.Sort Go.Proofs Go.Proofs.Ytpjacngbkohmdaa.Plain Go.Proofs.Ytpjacngbkohmdaa.SynP Go.Proofs.Ytpjacngbkohmdaa.SynQ Go.Proofs.Ytpjacngbkohmdaa.Grown Go.Proofs.Ytpjacngbkohmdaa.SynA Go.Proofs.Ytpjacngbkohmdaa.SynC Go.Proofs.Ytpjacngbkohmdaa.SynR Go.Proofs.Ytpjacngbkohmdaa.SynW Go.Proofs.Ytpjacngbkohmdaa.Scan3 Go.Proofs.Ytpjacngbkohmdaa.Scan5 Go.Proofs.Ytpjacngbkohmdaa.Syn1 Go.Proofs.Ytpjacngbkohmdaa.Syn2 Go.Proofs.Ytpjacngbkohmdaa.Syn4 Go.Proofs.Ytpjacngbkohmdaa.SynL Go.Proofs.Ytpjacngbkohmdaa.SynS
set_option linter.unusedVariables false
set_option linter.unusedSimpArgs false
def kts (L : List Tk) : List (Int × ByteArray) := L.map fun t => (t.kind, t.text)
theorem kts_len (L : List Tk) : (kts L).length = L.length := List.length_map ..
theorem take_next {α : Type} {a b : List α} {k : Nat} (h1 : k < a.length) (h2 : k < b.length) (h : a.take k = b.take k) (he : a[k] = b[k]) : a.take (k + 1) = b.take (k + 1) := by
  rw [List.take_succ_eq_append_getElem h1, List.take_succ_eq_append_getElem h2, h, he]
end Go.Proofs.Ytpjacngbkohmdaa.SynT
/- The role that tokens begin with. -/
namespace Go.Proofs.Ytpjacngbkohmdaa.SynU
set_option linter.unusedVariables false
set_option linter.unusedSimpArgs false
open Go.RowKit Go.Sort Go.Proofs Go.Proofs.Ytpjacngbkohmdaa.Plain Go.Proofs.Ytpjacngbkohmdaa.SynP Go.Proofs.Ytpjacngbkohmdaa.SynQ Go.Proofs.Ytpjacngbkohmdaa.Grown Go.Proofs.Ytpjacngbkohmdaa.SynA Go.Proofs.Ytpjacngbkohmdaa.SynC Go.Proofs.Ytpjacngbkohmdaa.SynR Go.Proofs.Ytpjacngbkohmdaa.SynW Go.Proofs.Ytpjacngbkohmdaa.Scan3 Go.Proofs.Ytpjacngbkohmdaa.Scan5 Go.Proofs.Ytpjacngbkohmdaa.Syn1 Go.Proofs.Ytpjacngbkohmdaa.Syn2 Go.Proofs.Ytpjacngbkohmdaa.Syn4 Go.Proofs.Ytpjacngbkohmdaa.SynL Go.Proofs.Ytpjacngbkohmdaa.SynS Go.Proofs.Ytpjacngbkohmdaa.SynT Go.Proofs.Ytpjacngbkohmdaa.Syn7
set_option linter.unusedVariables false
set_option linter.unusedSimpArgs false
/-- The role that tokens begin with, what is behind it, and whether there is one. -/
def readR : List Tk → Rl × List Tk × Bool
  | a :: b :: c :: rest => if (⟨a.text, c.text⟩ : Rl).ok = true ∧ kts [a, b, c] = kts (roleTk ⟨a.text, c.text⟩ 0) then (⟨a.text, c.text⟩, rest, true) else (zeroR, a :: b :: c :: rest, false)
  | L => (zeroR, L, false)
theorem readR_short {L : List Tk} (h : L.length < 3) : readR L = (zeroR, L, false) := by
  match L, h with
  | [], _ => rfl
  | [_], _ => rfl
  | [_, _], _ => rfl
theorem own_more {w : World} {B B' : Nat} {e : TypeId} {size n : Nat} {v : Value} {xs : List Value} (h : w.ownsRow B e size v n xs) (hB : B' ≤ B) : w.ownsRow B' e size v n xs := by
  refine ⟨h.1, ?_⟩
  rcases h.2 with h0 | ⟨g, cap, cur, hv, hg, r⟩
  · exact .inl h0
  · exact .inr ⟨g, cap, cur, hv, Nat.le_trans hB hg, r⟩
/-- A store into a block ahead of a row's. -/
theorem own_set {w : World} {B : Nat} {e : TypeId} {size n : Nat} {v : Value} {xs : List Value} {p : Addr} (h : w.ownsRow B e size v n xs) (hp : p.block < B) (u : Value) : (w.setCell p u).ownsRow B e size v n xs := by
  refine ⟨h.1, ?_⟩
  rcases h.2 with h0 | ⟨g, cap, cur, hv, hg, hh, r⟩
  · exact .inl h0
  · exact .inr ⟨g, cap, cur, hv, hg, by rw [Below.heap_setCell _ _ _ _ (by omega)]; exact hh, r⟩
theorem readR_no {a b c : Tk} {rest : List Tk} (h : (⟨a.text, c.text⟩ : Rl).ok = false) : readR (a :: b :: c :: rest) = (zeroR, a :: b :: c :: rest, false) :=
  if_neg (fun e => by rw [h] at e; cases e.1)
theorem readR_ne {a b c : Tk} {rest : List Tk} (h : kts [a, b, c] ≠ kts (roleTk ⟨a.text, c.text⟩ 0)) : readR (a :: b :: c :: rest) = (zeroR, a :: b :: c :: rest, false) :=
  if_neg (fun e => h e.2)
theorem readR_yes {a b c : Tk} {rest : List Tk} (h : (⟨a.text, c.text⟩ : Rl).ok = true) (h2 : kts [a, b, c] = kts (roleTk ⟨a.text, c.text⟩ 0)) : readR (a :: b :: c :: rest) = (⟨a.text, c.text⟩, rest, true) :=
  if_pos ⟨h, h2⟩
theorem keepB {W w1 w2 : World} {n k : Nat} {x y : Option Value} (h : RowKit.Below k W w1 ∧ w1.cell? ⟨n, 0, none⟩ = x ∧ w1.cell? ⟨n, 1, none⟩ = y) (hn : n < k) (hk : k ≤ W.heap.size) (hb : RowKit.Below w1.heap.size w1 w2) :
    RowKit.Below k W w2 ∧ w2.cell? ⟨n, 0, none⟩ = x ∧ w2.cell? ⟨n, 1, none⟩ = y := by
  have hs := h.1.size
  exact ⟨h.1.trans (hb.mono (by omega)), (hb.cell (p := ⟨n, 0, none⟩) (by show n < _; omega)).trans h.2.1, (hb.cell (p := ⟨n, 1, none⟩) (by show n < _; omega)).trans h.2.2⟩
theorem keepFar {w : World} {n : Nat} {x y : Option Value} {a b : Value} (h : w.cell? ⟨n + 1, 0, none⟩ = x ∧ w.cell? ⟨n + 1, 1, none⟩ = y) (_ : 0 = 0) : ((w.setCell ⟨n, 0, none⟩ a).setCell ⟨n, 1, none⟩ b).cell? ⟨n + 1, 0, none⟩ = x ∧ ((w.setCell ⟨n, 0, none⟩ a).setCell ⟨n, 1, none⟩ b).cell? ⟨n + 1, 1, none⟩ = y :=
  ⟨by rw [set_far _ _ _ _ _ _ (by omega), set_far _ _ _ _ _ _ (by omega)]; exact h.1, by rw [set_far _ _ _ _ _ _ (by omega), set_far _ _ _ _ _ _ (by omega)]; exact h.2⟩
theorem tk_three {w : World} {A : Option Addr} {a b c : Tk} {rest : List Tk} (h : TkAt w A (a :: b :: c :: rest)) : TkAt w A [a, b, c] := fun _ => by
  obtain ⟨g, o, e, hg, hc⟩ := h (by simp)
  exact ⟨g, o, e, hg, fun j hj => match j, hj with
    | 0, _ => hc 0 (by simp)
    | 1, _ => hc 1 (by simp)
    | 2, _ => hc 2 (by simp)⟩
theorem tk_rest {w : World} {g o : Nat} {a b c : Tk} {rest : List Tk} (h : TkAt w (some ⟨g, o, none⟩) (a :: b :: c :: rest)) : TkAt w (some ⟨g, o + 9, none⟩) rest := fun _ => by
  obtain ⟨g', o', e, hg, hc⟩ := h (by simp)
  injection e with e
  injection e with e1 e2
  subst e1; subst e2
  refine ⟨g, o + 9, rfl, hg, fun j hj => ?_⟩
  obtain ⟨x, y, z⟩ := hc (j + 3) (by simp; omega)
  simp only [List.getElem_cons_succ] at x y z
  rw [show o + (j + 3) * 3 = o + 9 + j * 3 by omega] at x y z
  exact ⟨x, y, z⟩
end Go.Proofs.Ytpjacngbkohmdaa.SynU
