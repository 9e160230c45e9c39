/- How many tokens are of the kinds of a shape; the place behind the last token. -/
import Derived.Test.YtofhiolmaojihaaSynQ
import Derived.Test.YtofhiolmaojihaaTkRow
import Derived.Test.YtofhiolmaojihaaGrown2
namespace Go.Proofs.Ytofhiolmaojihaa.SynA
open Go.RowKit Go.Sort Go.Proofs.Ytofhiolmaojihaa.Plain Go.Proofs.Ytofhiolmaojihaa.SynP Go.Proofs.Ytofhiolmaojihaa.SynQ Go.Proofs.Ytofhiolmaojihaa.Grown
set_option linter.unusedVariables false
/-- A slice value that reads as tokens, wherever it begins. -/
def TkAt (w : World) (A : Option Addr) (L : List Tk) : Prop :=
  0 < L.length → ∃ g o, A = some ⟨g, o, none⟩ ∧ g < w.heap.size ∧ ∀ j, (h : j < L.length) → w.cell? ⟨g, o + j * 3, none⟩ = some (.int .i64 L[j].kind) ∧ w.cell? ⟨g, o + j * 3 + 1, none⟩ = some (.string L[j].text) ∧ w.cell? ⟨g, o + j * 3 + 2, none⟩ = some (.int .i64 L[j].col)
/-- A slice value that reads as numbers. -/
def IAt (w : World) (A : Option Addr) (l : List Int) : Prop :=
  0 < l.length → ∃ g o, A = some ⟨g, o, none⟩ ∧ g < w.heap.size ∧ ∀ k, (h : k < l.length) → w.cell? ⟨g, o + k, none⟩ = some (.int .i64 l[k])
theorem TkAt.below {w w' : World} {A : Option Addr} {L : List Tk} (h : TkAt w A L) (hb : Below w.heap.size w w') : TkAt w' A L := fun hp => by
  obtain ⟨g, o, hA, hg, hc⟩ := h hp
  refine ⟨g, o, hA, Nat.lt_of_lt_of_le hg hb.size, fun j hj => ?_⟩
  obtain ⟨a, b, c⟩ := hc j hj
  exact ⟨(hb.cell (p := ⟨g, o + j * 3, none⟩) hg).trans a, (hb.cell (p := ⟨g, o + j * 3 + 1, none⟩) hg).trans b, (hb.cell (p := ⟨g, o + j * 3 + 2, none⟩) hg).trans c⟩
theorem IAt.below {w w' : World} {A : Option Addr} {l : List Int} (h : IAt w A l) (hb : Below w.heap.size w w') : IAt w' A l := fun hp => by
  obtain ⟨g, o, hA, hg, hc⟩ := h hp
  exact ⟨g, o, hA, Nat.lt_of_lt_of_le hg hb.size, fun k hk => (hb.cell (p := ⟨g, o + k, none⟩) hg).trans (hc k hk)⟩
theorem TkAt.of_row {w : World} {A : Option Addr} {L : List Tk} (h : Scan5.TkRow w A L) : TkAt w A L := fun hp => by
  obtain ⟨g, hA, hg, hc⟩ := h hp
  exact ⟨g, 0, hA, hg, fun j hj => by simpa using hc j hj⟩
set_option maxRecDepth 100000 in
theorem agree (A : Option Addr) (ca : Nat) (L : List Tk) (S : Option Addr) (cs : Nat) (l : List Int) (w : World) (hL : L.length ≤ 100000) (hl : l.length ≤ 1000) (hA : TkAt w A L) (hS : IAt w S l) :
    Calls Try.prog 48 #[.slice A L.length ca, .slice S l.length cs] w fun e w' => e = .returned (.int .i64 (agreeN (kindsOf L) l)) ∧ ∃ n, w' = w.drewN n := by
  go_enter Try.func48, Try.ntmps48
  go_wp2
  go_loopw [5] (fun i wr => ∃ k : Nat, k ≤ L.length ∧ k ≤ l.length ∧ i = .int .i64 k ∧ Hid (agreeN (kindsOf L) l = agreeN ((kindsOf L).drop k) (l.drop k) + k) ∧ ∃ n, wr = w.drewN n) (fun i _ => L.length - (intOf i).toNat)
  case atStart => exact ⟨0, by omega, by omega, rfl, Lib.hid (by simp), 0, rfl⟩
  case round =>
    obtain ⟨k, hk, hk2, rfl, hrun, n, rfl⟩ := hrel
    by_cases hlt : k < L.length
    · have d1 : decide ((k : Int) < L.length) = true := by simp; omega
      by_cases hlt2 : k < l.length
      · have d2 : decide ((k : Int) < l.length) = true := by simp; omega
        obtain ⟨g1, o1, rfl, _, h1⟩ := hA (by omega)
        obtain ⟨g2, o2, rfl, _, h2⟩ := hS (by omega)
        have a1 := (h1 k hlt).1
        have a2 := h2 k hlt2
        have hkl : k < (kindsOf L).length := by rw [kinds_len]; exact hlt
        have hke : (kindsOf L)[k] = L[k].kind := List.getElem_map ..
        clear h1 h2 hA hS
        have p1 : (0 : Int) ≤ k := by omega
        by_cases he : L[k].kind = l[k]
        · have hnext : Hid (agreeN (kindsOf L) l = agreeN ((kindsOf L).drop (k + 1)) (l.drop (k + 1)) + (k + 1)) := Lib.hid (by rw [hrun.out, agree_step hkl hlt2 (hke.trans he)]; omega)
          rw [he] at a1
          clear hrun hke he hkl
          go_wp2_with fail
          try go_quiet (fail)
          go_wp2_with fail
          go_roundw
          case rel => exact ⟨k + 1, by omega, by omega, by go_num, hnext, _, rfl⟩
          case measure => simp [intOf]; omega
        · have hfin : Hid (agreeN (kindsOf L) l = k) := Lib.hid (by rw [hrun.out, agree_ne hkl hlt2 (by rw [hke]; exact he)]; omega)
          have d3 : (L[k].kind == l[k]) = false := by simpa using he
          clear hrun hke he hkl
          go_wp2_with fail
          try go_quiet (fail)
          go_wp2_with fail
          go_ret
          exact ⟨ret_int (by rw [hfin.out]), _, World.drewN_drewN _ _ _⟩
      · have hfin : Hid (agreeN (kindsOf L) l = k) := Lib.hid (by rw [hrun.out, agree_end2 (by omega)]; omega)
        have d2 : decide ((k : Int) < l.length) = false := by simp; omega
        clear hrun hA hS
        go_wp2_with fail
        try go_quiet (fail)
        go_wp2_with fail
        go_ret
        exact ⟨ret_int (by rw [hfin.out]), _, World.drewN_drewN _ _ _⟩
    · have hfin : Hid (agreeN (kindsOf L) l = k) := Lib.hid (by rw [hrun.out, agree_end1 (by rw [kinds_len]; omega)]; omega)
      have d1 : decide ((k : Int) < L.length) = false := by simp; omega
      clear hrun hA hS
      go_wp2_with fail
      try go_quiet (fail)
      go_wp2_with fail
      go_ret
      exact ⟨ret_int (by rw [hfin.out]), _, World.drewN_drewN _ _ _⟩
set_option maxRecDepth 100000 in
theorem fits (A : Option Addr) (ca : Nat) (L : List Tk) (S : Option Addr) (cs : Nat) (l : List Int) (w : World) (hL : L.length ≤ 100000) (hl : l.length ≤ 1000) (hA : TkAt w A L) (hS : IAt w S l) :
    Calls Try.prog 52 #[.slice A L.length ca, .slice S l.length cs] w fun e w' => e = .returned (.int .i64 (agreeN (kindsOf L) l)) ∧ ∃ n, w' = w.drewN n := by
  go_enter Try.func52, Try.ntmps52
  go_wp2
  go_loopw [5] (fun i wr => ∃ k : Nat, k ≤ L.length ∧ k ≤ l.length ∧ i = .int .i64 k ∧ Hid (agreeN (kindsOf L) l = agreeN ((kindsOf L).drop k) (l.drop k) + k) ∧ ∃ n, wr = w.drewN n) (fun i _ => L.length - (intOf i).toNat)
  case atStart => exact ⟨0, by omega, by omega, rfl, Lib.hid (by simp), 0, rfl⟩
  case round =>
    obtain ⟨k, hk, hk2, rfl, hrun, n, rfl⟩ := hrel
    by_cases hlt : k < L.length
    · have d1 : decide ((k : Int) < L.length) = true := by simp; omega
      by_cases hlt2 : k < l.length
      · have d2 : decide ((k : Int) < l.length) = true := by simp; omega
        obtain ⟨g1, o1, rfl, _, h1⟩ := hA (by omega)
        obtain ⟨g2, o2, rfl, _, h2⟩ := hS (by omega)
        have a1 := (h1 k hlt).1
        have a2 := h2 k hlt2
        have hkl : k < (kindsOf L).length := by rw [kinds_len]; exact hlt
        have hke : (kindsOf L)[k] = L[k].kind := List.getElem_map ..
        clear h1 h2 hA hS
        have p1 : (0 : Int) ≤ k := by omega
        by_cases he : L[k].kind = l[k]
        · have hnext : Hid (agreeN (kindsOf L) l = agreeN ((kindsOf L).drop (k + 1)) (l.drop (k + 1)) + (k + 1)) := Lib.hid (by rw [hrun.out, agree_step hkl hlt2 (hke.trans he)]; omega)
          rw [he] at a1
          clear hrun hke he hkl
          go_wp2_with fail
          try go_quiet (fail)
          go_wp2_with fail
          go_roundw
          case rel => exact ⟨k + 1, by omega, by omega, by go_num, hnext, _, rfl⟩
          case measure => simp [intOf]; omega
        · have hfin : Hid (agreeN (kindsOf L) l = k) := Lib.hid (by rw [hrun.out, agree_ne hkl hlt2 (by rw [hke]; exact he)]; omega)
          have d3 : (L[k].kind == l[k]) = false := by simpa using he
          clear hrun hke he hkl
          go_wp2_with fail
          try go_quiet (fail)
          go_wp2_with fail
          go_ret
          exact ⟨ret_int (by rw [hfin.out]), _, World.drewN_drewN _ _ _⟩
      · have hfin : Hid (agreeN (kindsOf L) l = k) := Lib.hid (by rw [hrun.out, agree_end2 (by omega)]; omega)
        have d2 : decide ((k : Int) < l.length) = false := by simp; omega
        clear hrun hA hS
        go_wp2_with fail
        try go_quiet (fail)
        go_wp2_with fail
        go_ret
        exact ⟨ret_int (by rw [hfin.out]), _, World.drewN_drewN _ _ _⟩
    · have hfin : Hid (agreeN (kindsOf L) l = k) := Lib.hid (by rw [hrun.out, agree_end1 (by rw [kinds_len]; omega)]; omega)
      have d1 : decide ((k : Int) < L.length) = false := by simp; omega
      clear hrun hA hS
      go_wp2_with fail
      try go_quiet (fail)
      go_wp2_with fail
      go_ret
      exact ⟨ret_int (by rw [hfin.out]), _, World.drewN_drewN _ _ _⟩
theorem behindOf_nil : behindOf [] = 1 := rfl
theorem behindOf_last {L : List Tk} (h : 0 < L.length) : behindOf L = L[L.length - 1].col + L[L.length - 1].text.size := by
  unfold behindOf
  rw [List.getLast?_eq_getElem?, List.getElem?_eq_getElem (by omega)]
/-- The columns and sizes of tokens are small. -/
def SmallTk (L : List Tk) : Prop := ∀ t ∈ L, t.col ≤ 1000000 ∧ t.text.size ≤ 1000000
theorem behind (A : Option Addr) (ca : Nat) (L : List Tk) (w : World) (hL : L.length ≤ 100000) (hA : TkAt w A L) (hs : SmallTk L) : Calls Try.prog 50 #[.slice A L.length ca] w fun e w' => e = .returned (.int .i64 (behindOf L)) ∧ Below w.heap.size w w' := by
  by_cases h0 : 0 < L.length
  · obtain ⟨g, o, rfl, hg, hc⟩ := hA h0
    have hb := Lib.hid (behindOf_last h0)
    obtain ⟨s1, s2⟩ := hs L[L.length - 1] (List.getElem_mem _)
    obtain ⟨a, b, c⟩ := hc (L.length - 1) (by omega)
    obtain ⟨m, hm⟩ : ∃ m, L.length = m + 1 := ⟨L.length - 1, by omega⟩
    clear hc hA hs
    generalize L[L.length - 1] = t at *
    have e1 : (L.length : Int) - 1 = m := by omega
    rw [show L.length - 1 = m by omega] at a b c
    have w1 : ((L.length : Int) == 0) = false := by
      rw [beq_eq_false_iff_ne]; omega
    have w2 : decide ((m : Int) < L.length) = true := decide_eq_true (by omega)
    have w3 : m < L.length := by omega
    have HM := Lib.hid hm
    clear hm
    go_enter Try.func50, Try.ntmps50
    go_wp2_with fail
    go_ret
    exact ⟨ret_int (by rw [hb.out]; simp), (Below.refl _ _).alloc (Nat.le_refl _) _⟩
  · have : L = [] := List.eq_nil_of_length_eq_zero (by omega)
    subst this
    go_enter Try.func50, Try.ntmps50
    go_wp2_with fail
    go_ret
    exact ⟨rfl, Below.refl _ _⟩
end Go.Proofs.Ytofhiolmaojihaa.SynA
