/- All that a table object answers, in whatever world that keeps it; and what the laws of names lean on. -/
import Derived.Test.YtpdgjkjbimkmjaaDoorTab7
import Derived.Test.YtpdgjkjbimkmjaaDoorRef1
import Derived.Test.YtpdgjkjbimkmjaaDoorLaid
import Derived.ProofKit
import Derived.OpenShut
namespace Go.Proofs.YtpdgjkjbimkmjaaDoor.Tab8
open Go.RowKit Go.Sort Go.Proofs Go.Proofs.YtpdgjkjbimkmjaaDoor.Plain Go.Proofs.YtpdgjkjbimkmjaaDoor.Named Go.Proofs.YtpdgjkjbimkmjaaDoor.Tab1 Go.Proofs.YtpdgjkjbimkmjaaDoor.Tab2 Go.Proofs.YtpdgjkjbimkmjaaDoor.Tab3 Go.Proofs.YtpdgjkjbimkmjaaDoor.Tab4 Go.Proofs.YtpdgjkjbimkmjaaDoor.Tab5 Go.Proofs.YtpdgjkjbimkmjaaDoor.Tab6 Go.Proofs.YtpdgjkjbimkmjaaDoor.Tab7 Go.Proofs.YtpdgjkjbimkmjaaDoor.TabP Go.Proofs.YtpdgjkjbimkmjaaDoor.Ref1 Go.Proofs.YtpdgjkjbimkmjaaDoor.Laid
/-- The table object p has the texts T, in w and in every world that keeps what w has. -/
structure Tbl (p : Value) (T : List Str) (w : World) : Prop where
  find : ∀ (s : ByteArray) w', Below w.heap.size w w' → Calls Tryd.prog 16 #[p, .string s] w' (FindPost T s.toList w')
  len : ∀ w', Below w.heap.size w w' → Calls Tryd.prog 20 #[p] w' fun e w'' => e = .returned (.int .i64 T.length) ∧ w' = w''
  at_in : ∀ (k : Nat) (h : k < T.length) w', Below w.heap.size w w' → Calls Tryd.prog 17 #[p, .int .i64 k] w' fun e w'' => e = .returned (.string ⟨T[k].toArray⟩) ∧ w' = w''
  at_out : ∀ (i : Int) w', i < 0 ∨ (T.length : Int) ≤ i → Below w.heap.size w w' → Calls Tryd.prog 17 #[p, .int .i64 i] w' fun e w'' => e = .returned (.string ⟨#[]⟩) ∧ w' = w''
  all : ∀ w', Below w.heap.size w w' → Calls Tryd.prog 19 #[p] w' (RowPost T w')
  with_ : ∀ (A : Option Addr) (c : Nat) (U : List Str) w', U.length ≤ 100000 → Below w.heap.size w w' → SRow w' A U → Calls Tryd.prog 14 #[p, .slice A U.length c] w' (NewPost (T ++ U) w')
  fresh : ∀ (n : Int) w', -9223372036854775808 ≤ n → n ≤ 9223372036854775807 → Below w.heap.size w w' → Pow w' → Calls Tryd.prog 21 #[p, .int .i64 n] w' (FreshPost T n w')
theorem Tbl.keep {p : Value} {T : List Str} {w w1 : World} (h : Tbl p T w) (hb : Below w.heap.size w w1) : Tbl p T w1 where
  find s w' h1 := h.find s w' (hb.trans (h1.mono hb.size))
  len w' h1 := h.len w' (hb.trans (h1.mono hb.size))
  at_in k hk w' h1 := h.at_in k hk w' (hb.trans (h1.mono hb.size))
  at_out i w' hi h1 := h.at_out i w' hi (hb.trans (h1.mono hb.size))
  all w' h1 := h.all w' (hb.trans (h1.mono hb.size))
  with_ A c U w' hU h1 hr := h.with_ A c U w' hU (hb.trans (h1.mono hb.size)) hr
  fresh n w' h0 h2 h1 hp := h.fresh n w' h0 h2 (hb.trans (h1.mono hb.size)) hp
theorem Tbl.of {w : World} {B : Nat} {p : Value} {T : List Str} (h : TabAt w B p T) (hT : T.length ≤ 100000) (hs : T.Pairwise (· < ·)) : Tbl p T w := by
  obtain ⟨t, v, rfl, _, htb, hown⟩ := h
  obtain ⟨A, c, rfl, _, hrow⟩ := SRow.of_own hown
  have htl : t < w.heap.size := (Array.getElem?_eq_some_iff.1 htb).1
  have hcell : w.cell? ⟨t, 0, none⟩ = some (.slice A T.length c) := by rw [Lib.cell_of_heap htb]; rfl
  have hc : ∀ w', Below w.heap.size w w' → w'.cell? ⟨t, 0, none⟩ = some (.slice A T.length c) := fun w' hb => (hb.cell (p := ⟨t, 0, none⟩) htl).trans hcell
  have hf : ∀ (s : ByteArray) w', Below w.heap.size w w' → Calls Tryd.prog 16 #[.pointer (some ⟨t, 0, none⟩), .string s] w' (FindPost T s.toList w') := fun s w' hb =>
    Tab2.find t T A c s w' (by omega) hs (hrow.keep hb) (Nat.lt_of_lt_of_le htl hb.size) (hc w' hb)
  exact {
    find := hf
    len := fun w' hb => Tab1.len w' t A _ c (hc w' hb)
    at_in := fun k hk w' hb => Tab7.at_in t A T c k w' (hc w' hb) (by omega) (hrow.keep hb) hk
    at_out := fun i w' hi hb => Tab7.at_out t A _ c i w' (hc w' hb) hi
    all := fun w' hb => Tab7.all t A T c w' (hc w' hb) (by omega) (hrow.keep hb)
    with_ := fun A2 c2 U w' hU hb hr => with_row _ A A2 c c2 T U w' hT hU (hrow.keep hb) hr (Tab1.kept w' t _ (hc w' hb))
    fresh := fun n w' h0 h1 hb hp => Tab3.fresh _ T n w' h0 h1 hT hp (pow_lt hp) (fun s w'' hb2 => hf s w'' (hb.trans (hb2.mono hb.size))) }
theorem len_fr {T : List Str} {n : Int} (h : n ≤ 1000) : ((fr T n (1000 + T.length)).length : Int) = max n 0 := by
  have h1 := fr_len T n (1000 + T.length)
  by_cases hc : ((fr T n (1000 + T.length)).length : Int) < n ∧ (fr T n (1000 + T.length)).length < 1000
  · have := fr_enough T n _ hc.1 hc.2
    omega
  · omega
theorem dec_word (u : Nat) : ∀ c ∈ Lib.decDigits u, wordB c.toNat = true := by
  have hd : ∀ k : Nat, k < 10 → wordB (UInt8.ofNat (48 + k)).toNat = true := by
    intro k hk
    rw [digit_toNat k hk]
    have : digB ((48 + k : Nat) : Int) = true := decide_eq_true ⟨by omega, by omega⟩
    unfold wordB
    rw [this]; simp
  induction u using Nat.strongRecOn with
  | ind u ih =>
    intro c hc
    rw [Lib.decDigits] at hc
    split at hc
    · rename_i h
      rw [List.mem_singleton] at hc
      subst hc
      exact hd u h
    · rename_i h
      rw [List.mem_append, List.mem_singleton] at hc
      rcases hc with hc | hc
      · exact ih (u / 10) (by omega) c hc
      · subst hc
        exact hd (u % 10) (Nat.mod_lt _ (by omega))
theorem pow_le_of_nDigits (k : Nat) (hk : 1 ≤ k) : 10 ^ (Lib.nDigits k - 1) ≤ k := by
  induction k using Nat.strongRecOn with
  | ind k ih =>
    by_cases h : k < 10
    · rw [Lib.nDigits_small h]; simp; omega
    · rw [Lib.nDigits_big h, Nat.add_sub_cancel]
      have h1 := ih (k / 10) (by omega) (by omega)
      have h2 := Lib.nDigits_pos (k / 10)
      rw [show Lib.nDigits (k / 10) = (Lib.nDigits (k / 10) - 1) + 1 from by omega, Nat.pow_succ]
      omega
theorem prin_xs (k : Nat) (h : k < 10000000) (hk : 1 ≤ k) : named capB (xs k) = true := by
  have hl : (Lib.decDigits k).length ≤ 7 := by
    rw [Lib.decDigits_length]
    rcases Nat.lt_or_ge 7 (Lib.nDigits k) with h7 | h7
    · exfalso
      have h1 : 10 ^ (Lib.nDigits k - 1) ≤ k := pow_le_of_nDigits k hk
      have h2 : 10 ^ 7 ≤ 10 ^ (Lib.nDigits k - 1) := Nat.pow_le_pow_right (by omega) (by omega)
      omega
    · exact h7
  unfold named
  have e1 : decide (0 < (xs k).length ∧ (xs k).length ≤ 8) = true := decide_eq_true (by unfold xs; simp; omega)
  have e2 : ((xs k).all fun c => wordB c.toNat) = true := by
    rw [List.all_eq_true]
    intro c hc
    unfold xs at hc
    rw [List.mem_cons] at hc
    rcases hc with hc | hc
    · subst hc; decide
    · exact dec_word k c hc
  rw [e1, e2]
  rfl
/-- A row of strings that came in. -/
theorem row_of_strings {w : World} {b off n m : Nat} {ss : List ByteArray} (hn : n ≤ m) (hm : ss.length = m) (hb : 0 < n → b < w.heap.size) (hcell : ∀ i, i < ss.length → w.cell? ⟨b, off + i, none⟩ = some (.string (ss.getD i ByteArray.empty))) :
    SRow w (some ⟨b, off, none⟩) ((ss.take n).map (·.data.toList)) := fun hp => by
  have hl : ((ss.take n).map (·.data.toList)).length = n := by simp; omega
  refine ⟨b, off, rfl, hb (by omega), fun j hj => ?_⟩
  rw [hl] at hj
  rw [hcell j (by omega), List.getD_eq_getElem?_getD, List.getElem?_eq_getElem (by omega)]
  simp
end Go.Proofs.YtpdgjkjbimkmjaaDoor.Tab8
