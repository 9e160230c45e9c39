/- A line as a statement, in the program. -/
import Derived.Test.YtofhiolmaojihaaSynV
import Derived.Test.YtofhiolmaojihaaSynH
import Derived.Test.YtofhiolmaojihaaSyn6
import Derived.RegionTactic
namespace Go.Proofs.Ytofhiolmaojihaa.SynX
open Go.RowKit Go.Sort Go.Proofs Go.Proofs.Ytofhiolmaojihaa.Plain Go.Proofs.Ytofhiolmaojihaa.SynP Go.Proofs.Ytofhiolmaojihaa.SynQ Go.Proofs.Ytofhiolmaojihaa.Grown Go.Proofs.Ytofhiolmaojihaa.SynA Go.Proofs.Ytofhiolmaojihaa.SynC Go.Proofs.Ytofhiolmaojihaa.SynR Go.Proofs.Ytofhiolmaojihaa.SynW Go.Proofs.Ytofhiolmaojihaa.Scan3 Go.Proofs.Ytofhiolmaojihaa.Scan5 Go.Proofs.Ytofhiolmaojihaa.Syn4 Go.Proofs.Ytofhiolmaojihaa.SynS Go.Proofs.Ytofhiolmaojihaa.SynG Go.Proofs.Ytofhiolmaojihaa.SynU Go.Proofs.Ytofhiolmaojihaa.SynV
set_option linter.unusedVariables false
set_option linter.unusedSimpArgs false
theorem len_of_kinds {L : List Tk} {l : List Int} (h : kindsOf L = l) : L.length = l.length := by rw [← h, kinds_len]
theorem kind_at {L : List Tk} {l : List Int} (h : kindsOf L = l) (i : Nat) (hi : i < L.length) : L[i].kind = l[i]'(by rw [← len_of_kinds h]; exact hi) := by
  subst h
  exact (List.getElem_map ..).symm
theorem stmt1 (A : Option Addr) (ca : Nat) (L : List Tk) (w : World) (hca : L.length ≤ ca) (hk : kindsOf L = shapeK 1) (hg : ∀ t ∈ L, goodTk t) (hs : SmallTk L) (hA : TkAt w A L) :
    Calls Try.prog 49 #[.int .i64 1, .slice A L.length ca] w (StmtPost (stmtOf 1 L) w) := by
  have hl : L.length = 5 := len_of_kinds hk
  match L, hl, hca, hk, hg, hs, hA with
  | [t0, t1, t2, t3, t4], _, hca, hk, hg, hs, hA => exact statement1 A ca t0 t1 t2 t3 t4 w hca hs (hg t0 (by simp)) (hg t1 (by simp)) (hg t2 (by simp)) (kind_at hk 0 (by simp)) (kind_at hk 1 (by simp)) (kind_at hk 2 (by simp)) hA
theorem stmt2 (A : Option Addr) (ca : Nat) (L : List Tk) (w : World) (hca : L.length ≤ ca) (hk : kindsOf L = shapeK 2) (hg : ∀ t ∈ L, goodTk t) (hs : SmallTk L) (hA : TkAt w A L) :
    Calls Try.prog 49 #[.int .i64 2, .slice A L.length ca] w (StmtPost (stmtOf 2 L) w) := by
  have hl : L.length = 7 := len_of_kinds hk
  match L, hl, hca, hk, hg, hs, hA with
  | [t0, t1, t2, t3, t4, t5, t6], _, hca, hk, hg, hs, hA => exact statement2 A ca t0 t1 t2 t3 t4 t5 t6 w hca hs (hg t0 (by simp)) (hg t1 (by simp)) (hg t2 (by simp)) (kind_at hk 0 (by simp)) (kind_at hk 1 (by simp)) (kind_at hk 2 (by simp)) (hg t4 (by simp)) (hg t5 (by simp)) (hg t6 (by simp)) (kind_at hk 4 (by simp)) (kind_at hk 5 (by simp)) (kind_at hk 6 (by simp)) hA
theorem stmt3 (A : Option Addr) (ca : Nat) (L : List Tk) (w : World) (hca : L.length ≤ ca) (hk : kindsOf L = shapeK 3) (hg : ∀ t ∈ L, goodTk t) (hs : SmallTk L) (hA : TkAt w A L) :
    Calls Try.prog 49 #[.int .i64 3, .slice A L.length ca] w (StmtPost (stmtOf 3 L) w) := by
  have hl : L.length = 9 := len_of_kinds hk
  match L, hl, hca, hk, hg, hs, hA with
  | [t0, t1, t2, t3, t4, t5, t6, t7, t8], _, hca, hk, hg, hs, hA => exact statement3 A ca t0 t1 t2 t3 t4 t5 t6 t7 t8 w hca hs (hg t0 (by simp)) (hg t1 (by simp)) (hg t2 (by simp)) (kind_at hk 0 (by simp)) (kind_at hk 1 (by simp)) (kind_at hk 2 (by simp)) (hg t4 (by simp)) (hg t5 (by simp)) (hg t6 (by simp)) (kind_at hk 4 (by simp)) (kind_at hk 5 (by simp)) (kind_at hk 6 (by simp)) hA
theorem stmt4 (A : Option Addr) (ca : Nat) (L : List Tk) (w : World) (hca : L.length ≤ ca) (hk : kindsOf L = shapeK 4) (hg : ∀ t ∈ L, goodTk t) (hs : SmallTk L) (hA : TkAt w A L) :
    Calls Try.prog 49 #[.int .i64 4, .slice A L.length ca] w (StmtPost (stmtOf 4 L) w) := by
  have hl : L.length = 11 := len_of_kinds hk
  match L, hl, hca, hk, hg, hs, hA with
  | [t0, t1, t2, t3, t4, t5, t6, t7, t8, t9, t10], _, hca, hk, hg, hs, hA => exact statement4 A ca t0 t1 t2 t3 t4 t5 t6 t7 t8 t9 t10 w hca hs (hg t0 (by simp)) (hg t1 (by simp)) (hg t2 (by simp)) (kind_at hk 0 (by simp)) (kind_at hk 1 (by simp)) (kind_at hk 2 (by simp)) (hg t4 (by simp)) (hg t5 (by simp)) (hg t6 (by simp)) (kind_at hk 4 (by simp)) (kind_at hk 5 (by simp)) (kind_at hk 6 (by simp)) (hg t8 (by simp)) (hg t9 (by simp)) (hg t10 (by simp)) (kind_at hk 8 (by simp)) (kind_at hk 9 (by simp)) (kind_at hk 10 (by simp)) hA
theorem stmt (k : Nat) (h1 : 1 ≤ k) (h4 : k ≤ 4) (A : Option Addr) (ca : Nat) (L : List Tk) (w : World) (hca : L.length ≤ ca) (hk : kindsOf L = shapeK k) (hg : ∀ t ∈ L, goodTk t) (hs : SmallTk L) (hA : TkAt w A L) :
    Calls Try.prog 49 #[.int .i64 k, .slice A L.length ca] w (StmtPost (stmtOf k L) w) := by
  match k, h1, h4, hk with
  | 1, _, _, hk => exact stmt1 A ca L w hca hk hg hs hA
  | 2, _, _, hk => exact stmt2 A ca L w hca hk hg hs hA
  | 3, _, _, hk => exact stmt3 A ca L w hca hk hg hs hA
  | 4, _, _, hk => exact stmt4 A ca L w hca hk hg hs hA
/-- The first shape that a line's tokens have is the only one. -/
theorem parseL_hit {L : List Tk} {k : Nat} (h1 : 1 ≤ k) (h4 : k ≤ 4) (hk : kindsOf L = shapeK k) : parseL L = ((stmtOf k L).normal, 0, 0) := by
  unfold parseL
  match k, h1, h4, hk with
  | 1, _, _, hk => rw [if_pos hk]
  | 2, _, _, hk => rw [if_neg (by rw [hk]; decide), if_pos hk]
  | 3, _, _, hk => rw [if_neg (by rw [hk]; decide), if_neg (by rw [hk]; decide), if_pos hk]
  | 4, _, _, hk => rw [if_neg (by rw [hk]; decide), if_neg (by rw [hk]; decide), if_neg (by rw [hk]; decide), if_pos hk]
theorem parseL_miss {L : List Tk} (h : ∀ j, j < 4 → kindsOf L ≠ shapeK (j + 1)) : parseL L = if bestOf L 4 < L.length then (zeroS, (colAt L (bestOf L 4) : Int), 2) else (zeroS, (behindOf L : Int), 3) := by
  unfold parseL
  rw [if_neg (h 0 (by omega)), if_neg (h 1 (by omega)), if_neg (h 2 (by omega)), if_neg (h 3 (by omega))]
theorem best_le (L : List Tk) : ∀ k, bestOf L k ≤ L.length
  | 0 => Nat.zero_le _
  | k + 1 => by
    have := best_le L k
    have h2 := agree_le1 (kindsOf L) (shapeK (k + 1))
    rw [kinds_len] at h2
    unfold bestOf; omega
theorem shape_len (k : Nat) : (shapeK k).length ≤ 11 := by
  unfold shapeK; split <;> simp
theorem ans_bad {s : ByteArray} {c : Nat} {e : Int} (h : ansOf s = .bad c e) : e = 1 ∨ e = 4 := by
  unfold ansOf at h
  split at h
  · injection h with _ h; exact .inr h.symm
  · revert h
    generalize bare s = t
    have : ∀ (n k : Nat) (L : List Tk), t.size - k ≤ n → tkRun t k L = .bad c e → e = 1 ∨ e = 4 := by
      intro n
      induction n with
      | zero => intro k L hn h; rw [tkRun_end (by omega)] at h; cases h
      | succ n ih =>
        intro k L hn h
        by_cases hk : k < t.size
        · cases hs : tkStep t k hk with
          | skip => rw [tkRun_skip hk hs] at h; exact ih _ _ (by omega) h
          | tok kind m => rw [tkRun_tok hk hs] at h; exact ih _ _ (by omega) h
          | bad e' =>
            rw [tkRun_bad hk hs] at h
            injection h with _ h
            subst h
            unfold tkStep at hs
            split at hs
            · cases hs
            split at hs
            · split at hs <;> first | (cases hs; done) | (injection hs with hs; exact .inr hs.symm)
            split at hs
            · split at hs <;> first | (cases hs; done) | (injection hs with hs; exact .inr hs.symm)
            split at hs
            · cases hs
            split at hs
            · cases hs
            split at hs
            · cases hs
            · injection hs with hs; exact .inl hs.symm
        · rw [tkRun_end hk] at h; cases h
    exact this t.size 0 [] (by omega)
end Go.Proofs.Ytofhiolmaojihaa.SynX
