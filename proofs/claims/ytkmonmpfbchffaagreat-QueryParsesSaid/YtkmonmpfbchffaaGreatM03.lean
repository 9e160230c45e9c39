/- The tokens of a line, in the program. -/
import Derived.Test.YtkmonmpfbchffaaGreatM02
import Derived.Laws.AppendOwn
import Derived.OwnWalk
import Derived.Lib.Builder
import Derived.WalkSmall
import Derived.Test.YtkmonmpfbchffaaGreatM01
import Derived.WalkKit
import Derived.Below
import Derived.Sort.Grow
import Derived.Shelf.SlSortCmp.QuietGrown
import Derived.Sort.Walk7
import Derived.Lib.AppendZeros
import Derived.WalkSpells
import Derived.Deep.LoopGhost
namespace Go.Proofs.YtkmonmpfbchffaaGreat.Scan3
set_option linter.unusedVariables false
set_option linter.unusedSimpArgs false
open Go.RowKit Go.Proofs.YtkmonmpfbchffaaGreat.Plain Go.Proofs.YtkmonmpfbchffaaGreat.Leaf Go.Proofs.YtkmonmpfbchffaaGreat.Named Go.Proofs.YtkmonmpfbchffaaGreat.Scan1 Go.Proofs.YtkmonmpfbchffaaGreat.Scan2
theorem rest_list (t : ByteArray) (k : Nat) : (t.extract k t.size).data.toList = t.data.toList.drop k := by
  rw [ByteArray.data_extract, Array.toList_extract, List.extract_eq_take_drop]
  apply List.take_of_length_le
  rw [List.length_drop, toList_len]
  exact Nat.le_refl _
theorem rest_size (t : ByteArray) (k : Nat) : (t.extract k t.size).size = t.size - k := by
  rw [← toList_len, rest_list, List.length_drop, toList_len]
theorem rest_head (t : ByteArray) (k : Nat) (h : k < t.size) (h0 : 0 < (t.extract k t.size).size) : (t.extract k t.size)[0] = t[k] := by
  have e := headD_eq h0
  rw [rest_list, drop_cons h] at e
  exact e.symm
theorem rest_wlen (t : ByteArray) (k : Nat) : wlen (t.extract k t.size) 0 = wlen t k := by
  unfold wlen
  rw [rest_list]; rfl
theorem word_of_cap {n : Int} (h : capB n = true) : wordB n = true := by unfold wordB; rw [h]; rfl
theorem word_of_small {n : Int} (h : smallB n = true) : wordB n = true := by unfold wordB; rw [h]; simp
theorem prefix_len (t : ByteArray) (k : Nat) (h5 : Lib.hasPrefix (t.data.toList.drop k) [60, 45] = true) : k + 2 ≤ t.size := by
  have h : [60, 45] <+: t.data.toList.drop k := by
    unfold Lib.hasPrefix at h5
    exact List.isPrefixOf_iff_prefix.1 h5
  have := h.length_le
  rw [List.length_drop, toList_len] at this
  simp at this
  omega
inductive Cases (t : ByteArray) (k : Nat) (h : k < t.size) (F : Int × Int) : Prop where
  | tok (kind : Int) (m : Nat) (hs : tkStep t k h = .tok kind m) (hF : F = (kind, ((m + 1 : Nat) : Int))) (h8 : m + 1 ≤ 8) (hk : k + (m + 1) ≤ t.size)
  | none_ (hs : tkStep t k h = .bad 1) (hF : F = (0, 0))
  | long (kind : Int) (n : Nat) (hs : tkStep t k h = .bad 4) (hF : F = (kind, (n : Int))) (h8 : 8 < n)
theorem step_cases (t : ByteArray) (k : Nat) (h : k < t.size) (h32 : t[k] ≠ 32) (h0 : 0 < (t.extract k t.size).size) : Cases t k h (firstA (t.extract k t.size) h0) := by
  have hh := rest_head t k h h0
  have hw := rest_wlen t k
  have hle := wlen_le t k
  unfold firstA
  rw [hh, hw, rest_list]
  cases h1 : capB t[k].toNat
  · rw [if_neg (by decide)]
    cases h2 : smallB t[k].toNat
    · rw [if_neg (by decide)]
      by_cases h3 : t[k] = 46
      · rw [if_pos h3]
        exact .tok 3 0 (by unfold tkStep; rw [if_neg h32, if_neg (by rw [h1]; decide), if_neg (by rw [h2]; decide), if_pos h3]) rfl (by omega) (by omega)
      · rw [if_neg h3]
        by_cases h4 : t[k] = 38
        · rw [if_pos h4]
          exact .tok 5 0 (by unfold tkStep; rw [if_neg h32, if_neg (by rw [h1]; decide), if_neg (by rw [h2]; decide), if_neg h3, if_pos h4]) rfl (by omega) (by omega)
        · rw [if_neg h4]
          cases h5 : Lib.hasPrefix (t.data.toList.drop k) [60, 45]
          · rw [if_neg (by decide)]
            exact .none_ (by unfold tkStep; rw [if_neg h32, if_neg (by rw [h1]; decide), if_neg (by rw [h2]; decide), if_neg h3, if_neg h4, if_neg (by rw [h5]; decide)]) rfl
          · rw [if_pos rfl]
            exact .tok 4 1 (by unfold tkStep; rw [if_neg h32, if_neg (by rw [h1]; decide), if_neg (by rw [h2]; decide), if_neg h3, if_neg h4, if_pos h5]) rfl (by omega) (by have := prefix_len t k h5; omega)
    · rw [if_pos rfl]
      have hs := wlen_succ h (word_of_small h2)
      by_cases h8 : wlen t (k + 1) + 1 > 8
      · exact .long 2 (wlen t k) (by unfold tkStep; rw [if_neg h32, if_neg (by rw [h1]; decide), if_pos h2, if_pos h8]) rfl (by omega)
      · exact .tok 2 (wlen t (k + 1)) (by unfold tkStep; rw [if_neg h32, if_neg (by rw [h1]; decide), if_pos h2, if_neg h8]) (by rw [hs]) (by omega) (by omega)
  · rw [if_pos rfl]
    have hs := wlen_succ h (word_of_cap h1)
    by_cases h8 : wlen t (k + 1) + 1 > 8
    · exact .long 1 (wlen t k) (by unfold tkStep; rw [if_neg h32, if_pos h1, if_pos h8]) rfl (by omega)
    · exact .tok 1 (wlen t (k + 1)) (by unfold tkStep; rw [if_neg h32, if_pos h1, if_neg h8]) (by rw [hs]) (by omega) (by omega)
theorem bare_le (s : ByteArray) : (bare s).size ≤ s.size := by
  rw [← toList_len, ← toList_len s]
  unfold bare
  exact (List.takeWhile_sublist _).length_le
theorem infoTok : (Tryz.prog.info? 34).map (fun i => (i.zero, i.size, i.bytes)) = some (some (.agg #[.int .i64 0, .string ⟨#[]⟩, .int .i64 0]), 3, 32) := by kernel_rfl

def okCol : TkAns → Int
  | .ok _ => 0
  | .bad c _ => c
def okErr : TkAns → Int
  | .ok _ => 0
  | .bad _ e => e
def okToks : TkAns → List Tk
  | .ok l => l
  | .bad _ _ => []
/-- What Tokens answers of a line. -/
def ansOf (s : ByteArray) : TkAns := if s.size > 200 then .bad 201 4 else tkRun (bare s) 0 []
def TokPost (a : TkAns) (w : World) (e : Ending) (w' : World) : Prop := ∃ v, e = .returned (.tuple #[v, .int .i64 (okCol a), .int .i64 (okErr a)]) ∧ w'.ownsRow w.heap.size 34 3 v (okToks a).length (tkCells (okToks a)) ∧ Below w.heap.size w w'
theorem new_cells3 (w : World) (a b c : Value) (t : TypeId) : ∀ j u, [a, b, c][j]? = some u → (w.alloc (.cells #[a, b, c] t)).cell? ((⟨w.heap.size, 0, none⟩ : Addr).add j) = some u := by
  intro j u hu
  have h : (w.alloc (.cells #[a, b, c] t)).cell? ⟨w.heap.size, j, none⟩ = #[a, b, c][j]? := Lib.cell_of_heap (heap_alloc_new w _) j
  have e : ((⟨w.heap.size, 0, none⟩ : Addr).add j) = ⟨w.heap.size, j, none⟩ := by
    unfold Addr.add
    split
    · rename_i h0; rw [h0]
    · simp
  rw [e, h, ← hu]
  simp
theorem own_snoc {w : World} {B : Nat} {e : TypeId} {v : Value} {L : List Tk} {t : Tk} (h : w.ownsRow B e 3 v (L.length + 1) (tkCells L ++ [.int .i64 t.kind, .string t.text, .int .i64 ((t.col : Nat) : Int)])) : w.ownsRow B e 3 v (L ++ [t]).length (tkCells (L ++ [t])) := by
  have e1 : tkCells (L ++ [t]) = tkCells L ++ [.int .i64 t.kind, .string t.text, .int .i64 ((t.col : Nat) : Int)] := by
    unfold tkCells; simp [Tk.cells]
  rw [e1, List.length_append]
  exact h
theorem below_own {a w w1 : World} {e : TypeId} {size n : Nat} {v : Value} {xs : List Value} {o : Obj} (hb : Below a.heap.size a w) (hown : w.ownsRow a.heap.size e size v n xs) (hg : (w.alloc o).grownBy w1 v.ownBlock) : Below a.heap.size a w1 :=
  (hb.alloc hb.size o).grown hg (by have := hb.size; simp; omega) (fun k hk => (hown.lt k hk).1)
set_option maxRecDepth 100000 in
theorem tokens (s : ByteArray) (w : World) (hs : s.size ≤ 1000000) : Calls Tryz.prog 39 #[.string s] w (TokPost (ansOf s) w) := by
  obtain ⟨i0, hi, hz0, hz1, hz2⟩ := info_parts infoTok
  have hsm : s.size ≤ maxLen := by unfold maxLen; omega
  by_cases h2 : 200 < s.size
  · have ha : Hid (ansOf s = .bad 201 4) := Lib.hid (by unfold ansOf; rw [if_pos h2])
    go_enter Tryz.func39, Tryz.ntmps39
    go_wp2
    go_ret3
    exact ⟨_, by rw [ha.out]; rfl, by rw [ha.out]; exact World.ownsRow_nil _ _ _ _, Below.refl _ _⟩
  · have ha : Hid (ansOf s = tkRun (bare s) 0 []) := Lib.hid (by unfold ansOf; rw [if_neg h2])
    have hle := bare_le s
    go_enter Tryz.func39, Tryz.ntmps39
    go_wp2_with (go_at_call 97; refine (uncommented _ _ hsm).mono ?_; rintro e w' ⟨rfl, n, rfl⟩)
    generalize bare s = t at *
    go_loopw [5, 6] (fun v i wr => ∃ (k : Nat) (L : List Tk), k ≤ t.size ∧ i = .int .i64 k ∧ L.length ≤ k ∧ Hid (tkRun t 0 [] = tkRun t k L) ∧ wr.ownsRow w.heap.size 34 3 v L.length (tkCells L) ∧ Below w.heap.size w wr) (fun _ i _ => t.size - (intOf i).toNat)
    case atStart => exact ⟨0, [], by omega, rfl, by simp, Lib.hid rfl, World.ownsRow_nil _ _ _ _, below_drewN (Below.refl _ _) _⟩
    case round =>
      obtain ⟨k, L, hk, rfl, hL, hrun, hown, hbel⟩ := hrel
      by_cases hlt : k < t.size
      · by_cases h32 : t[k] = 32
        · have hnext : Hid (tkRun t 0 [] = tkRun t (k + 1) L) := Lib.hid (by rw [hrun.out, tkRun_skip hlt (by unfold tkStep; rw [if_pos h32])])
          have e32 : ((t[k].toNat : Int) == 32) = true := i8_eq (n := 32) rfl h32
          clear hrun h32
          go_wp2_with fail
          go_roundw
          case rel => exact ⟨k + 1, L, by omega, by go_num, by omega, hnext, hown, hbel⟩
          case measure => simp [intOf]; omega
        · have e32 : ((t[k].toNat : Int) == 32) = false := i8_ne (n := 32) rfl h32
          have h0 : 0 < (t.extract k t.size).size := by rw [rest_size]; omega
          have hrm : (t.extract k t.size).size ≤ maxLen := by rw [rest_size]; omega
          rcases step_cases t k hlt h32 h0 with ⟨kind, m, hst, hF, h8, hkm⟩ | ⟨hst, hF⟩ | ⟨kind, n', hst, hF, h8⟩
          · have hcall : Hid (∀ w, Calls Tryz.prog 98 #[.string (t.extract k t.size)] w fun e w' => e = .returned (.tuple #[.int .i64 kind, .int .i64 ((m + 1 : Nat) : Int)]) ∧ w = w') := Lib.hid (fun w => by have := first (t.extract k t.size) w hrm h0; rw [hF] at this; exact this)
            have hnext : Hid (tkRun t 0 [] = tkRun t (k + m + 1) (L ++ [⟨kind, t.extract k (k + (m + 1)), k + 1⟩])) := Lib.hid (by rw [hrun.out, tkRun_tok hlt hst])
            clear hrun hst hF h32 h0 hrm
            go_wp2_with (first | (at_builtin; refine wpList_append_own _ rfl _ _ 30 rfl w.heap.size 34 i0 (.agg #[.int .i64 0, .string ⟨#[]⟩, .int .i64 0]) 3 32 Tryz.underlying30 hi hz0 hz1 hz2 rfl (by decide) _ _ _ rfl (hown.alloc _) ⟨wr.heap.size, 0, none⟩ 1 1 [.int .i64 kind, .string (t.extract k (k + (m + 1))), .int .i64 (k + 1)] rfl rfl ?c1 ?c2 ?c3 ?c4 ?c5 ?_) | (go_at_call 98; refine (hcall.out _).mono ?_; rintro e w' ⟨rfl, rfl⟩))
            case c1 => exact new_cells3 _ _ _ _ _
            case c2 => intro u hu; simp at hu; rcases hu with rfl | rfl | rfl <;> rfl
            case c3 => unfold maxLen; omega
            case c4 => omega
            case c5 => have := hbel.size; simp; omega
            intro v' w1 hown' hgrow _
            have hown2 := own_snoc (t := ⟨kind, t.extract k (k + (m + 1)), k + 1⟩) (by simpa using hown')
            have hbel2 := below_own hbel hown hgrow
            clear hown' hown hbel hgrow hcall
            go_wp2_with fail
            go_roundw
            case rel => exact ⟨k + m + 1, L ++ [⟨kind, t.extract k (k + (m + 1)), k + 1⟩], by omega, by go_num, by simp; omega, hnext, hown2, hbel2⟩
            case measure => simp [intOf]; omega
          · have hcall : Hid (∀ w, Calls Tryz.prog 98 #[.string (t.extract k t.size)] w fun e w' => e = .returned (.tuple #[.int .i64 0, .int .i64 0]) ∧ w = w') := Lib.hid (fun w => by have := first (t.extract k t.size) w hrm h0; rw [hF] at this; exact this)
            have hfin : Hid (tkRun t 0 [] = .bad (k + 1) 1) := Lib.hid (by rw [hrun.out, tkRun_bad hlt hst])
            clear hrun hst hF h32 h0 hrm hown
            go_wp2_with (go_at_call 98; refine (hcall.out _).mono ?_; rintro e w' ⟨rfl, rfl⟩)
            go_ret3
            exact ⟨_, by rw [ha.out, hfin.out]; rfl, by rw [ha.out, hfin.out]; exact World.ownsRow_nil _ _ _ _, hbel⟩
          · have hcall : Hid (∀ w, Calls Tryz.prog 98 #[.string (t.extract k t.size)] w fun e w' => e = .returned (.tuple #[.int .i64 kind, .int .i64 (n' : Int)]) ∧ w = w') := Lib.hid (fun w => by have := first (t.extract k t.size) w hrm h0; rw [hF] at this; exact this)
            have hfin : Hid (tkRun t 0 [] = .bad (k + 1) 4) := Lib.hid (by rw [hrun.out, tkRun_bad hlt hst])
            have hn0 : ((n' : Int) == 0) = false := by simp; omega
            clear hrun hst hF h32 h0 hrm hown
            go_wp2_with (go_at_call 98; refine (hcall.out _).mono ?_; rintro e w' ⟨rfl, rfl⟩)
            go_ret3
            exact ⟨_, by rw [ha.out, hfin.out]; rfl, by rw [ha.out, hfin.out]; exact World.ownsRow_nil _ _ _ _, hbel⟩
      · have hfin : Hid (tkRun t 0 [] = .ok L) := Lib.hid (by rw [hrun.out, tkRun_end hlt])
        clear hrun
        go_wp2_with fail
        go_ret3
        exact ⟨_, by rw [ha.out, hfin.out]; rfl, by rw [ha.out, hfin.out]; exact hown, hbel⟩
end Go.Proofs.YtkmonmpfbchffaaGreat.Scan3
/- Two rows of the same tokens are alike. -/
namespace Go.Proofs.YtkmonmpfbchffaaGreat.Scan5
set_option linter.unusedVariables false
set_option linter.unusedSimpArgs false
open Go.RowKit Go.Proofs.YtkmonmpfbchffaaGreat.Plain Go.Proofs.YtkmonmpfbchffaaGreat.Leaf Go.Proofs.YtkmonmpfbchffaaGreat.Scan1 Go.Proofs.YtkmonmpfbchffaaGreat.Scan2 Go.Proofs.YtkmonmpfbchffaaGreat.Scan3
/-- A slice value that reads as tokens. -/
def TkRow (w : World) (A : Option Addr) (L : List Tk) : Prop :=
  0 < L.length → ∃ g, A = some ⟨g, 0, none⟩ ∧ g < w.heap.size ∧ ∀ j, (h : j < L.length) → w.cell? ⟨g, j * 3, none⟩ = some (.int .i64 L[j].kind) ∧ w.cell? ⟨g, j * 3 + 1, none⟩ = some (.string L[j].text) ∧ w.cell? ⟨g, j * 3 + 2, none⟩ = some (.int .i64 L[j].col)
theorem tkCells_at (L : List Tk) (j : Nat) (h : j < L.length) : (tkCells L)[j * 3]? = some (.int .i64 L[j].kind) ∧ (tkCells L)[j * 3 + 1]? = some (.string L[j].text) ∧ (tkCells L)[j * 3 + 2]? = some (.int .i64 L[j].col) := by
  induction L generalizing j with
  | nil => simp at h
  | cons t L ih =>
    have e : tkCells (t :: L) = t.cells ++ tkCells L := by unfold tkCells; simp
    have hl : t.cells.length = 3 := rfl
    rw [e]
    cases j with
    | zero =>
      refine ⟨?_, ?_, ?_⟩ <;> rw [List.getElem?_append_left (by rw [hl]; omega)] <;> rfl
    | succ j =>
      obtain ⟨a, b, c⟩ := ih j (by simpa using h)
      refine ⟨?_, ?_, ?_⟩ <;> rw [List.getElem?_append_right (by rw [hl]; omega), hl]
      · rw [show (j + 1) * 3 - 3 = j * 3 from by omega]; exact a
      · rw [show (j + 1) * 3 + 1 - 3 = j * 3 + 1 from by omega]; exact b
      · rw [show (j + 1) * 3 + 2 - 3 = j * 3 + 2 from by omega]; exact c
theorem TkRow.of_own {w : World} {B : Nat} {e : TypeId} {v : Value} {L : List Tk} (h : w.ownsRow B e 3 v L.length (tkCells L)) : ∃ A cap, v = .slice A L.length cap ∧ L.length ≤ cap ∧ TkRow w A L := by
  rcases h.2 with ⟨rfl, h0⟩ | ⟨g, cap, cur, rfl, hB, hh, hc, hm, hs, ht⟩
  · exact ⟨none, 0, by rw [h0], by omega, fun hp => by omega⟩
  · refine ⟨_, _, rfl, hc, fun hp => ⟨g, rfl, ?_, fun j hj => ?_⟩⟩
    · exact (h.lt g rfl).2
    · obtain ⟨a, b, c⟩ := tkCells_at L j hj
      rw [← ht] at a b c
      rw [List.getElem?_take_of_lt (by omega)] at a b c
      refine ⟨?_, ?_, ?_⟩ <;> rw [Lib.cell_of_heap hh]
      · rw [← Array.getElem?_toList]; exact a
      · rw [← Array.getElem?_toList]; exact b
      · rw [← Array.getElem?_toList]; exact c
theorem TkRow.below {w w' : World} {A : Option Addr} {L : List Tk} (h : TkRow w A L) (hb : Below w.heap.size w w') : TkRow w' A L := fun hp => by
  obtain ⟨g, hA, hg, hc⟩ := h hp
  refine ⟨g, hA, Nat.lt_of_lt_of_le hg hb.size, fun j hj => ?_⟩
  obtain ⟨a, b, c⟩ := hc j hj
  exact ⟨(hb.cell (p := ⟨g, j * 3, none⟩) hg).trans a, (hb.cell (p := ⟨g, j * 3 + 1, none⟩) hg).trans b, (hb.cell (p := ⟨g, j * 3 + 2, none⟩) hg).trans c⟩
end Go.Proofs.YtkmonmpfbchffaaGreat.Scan5
/- Worlds that are another one after some draws, with some blocks laid behind it; what such a world holds. -/
namespace Go.Proofs.YtkmonmpfbchffaaGreat.Grown
set_option linter.unusedVariables false
set_option linter.unusedSimpArgs false
open Go.RowKit Go.Sort
/-- w' is w after some draws, with some blocks laid behind it. -/
def Grew (w w' : World) : Prop := ∃ p : GrownBy, w' = grow (w.drewN p.n) p.os
theorem Grew.refl (w : World) : Grew w w := ⟨⟨0, #[]⟩, by rw [grow_empty]; rfl⟩
theorem Grew.mk (w : World) (n : Nat) (os : Array Obj) : Grew w (grow (w.drewN n) os) := ⟨⟨n, os⟩, rfl⟩
theorem Grew.drewN {w w' : World} (h : Grew w w') (n : Nat) : Grew w (w'.drewN n) := by
  obtain ⟨⟨m, os⟩, rfl⟩ := h
  exact ⟨⟨m + n, os⟩, by show grow ((w.drewN m).drewN n) os = _; rw [World.drewN_drewN]⟩
theorem Grew.drew {w w' : World} (h : Grew w w') : Grew w w'.drew := h.drewN 1
theorem Grew.alloc {w w' : World} (h : Grew w w') (o : Obj) : Grew w (w'.alloc o) := by
  obtain ⟨⟨m, os⟩, rfl⟩ := h
  exact ⟨⟨m, os ++ #[o]⟩, by rw [alloc_eq_grow, grow_grow]⟩
theorem Grew.alloc_drew (w : World) (o : Obj) : Grew w.drew (w.alloc o).drew := (Grew.refl w.drew).alloc o
theorem Grew.trans {a b c : World} (h : Grew a b) (h2 : Grew b c) : Grew a c := by
  obtain ⟨⟨m, os⟩, rfl⟩ := h
  obtain ⟨⟨n, os2⟩, rfl⟩ := h2
  exact ⟨⟨m + n, os ++ os2⟩, by show grow (grow ((a.drewN m).drewN n) os) os2 = _; rw [grow_grow, World.drewN_drewN]⟩
theorem Grew.size {w w' : World} (h : Grew w w') : w.heap.size ≤ w'.heap.size := by
  obtain ⟨⟨m, os⟩, rfl⟩ := h
  simp
theorem Grew.cell {w w' : World} (h : Grew w w') {a : Addr} (ha : a.block < w.heap.size) : w'.cell? a = w.cell? a := by
  obtain ⟨⟨m, os⟩, rfl⟩ := h
  rw [cell?_grow _ _ _ (by exact ha)]; rfl
theorem Grew.frozen {w w' : World} (h : Grew w w') {a : Addr} (ha : a.block < w.heap.size) : w'.frozen? a = w.frozen? a := by
  obtain ⟨⟨m, os⟩, rfl⟩ := h
  rw [frozen?_grow _ _ _ (by exact ha)]; rfl
theorem Grew.cells {w w' : World} (h : Grew w w') : (∀ b o, b < w.heap.size → w'.cell? ⟨b, o, none⟩ = w.cell? ⟨b, o, none⟩) ∧ (∀ b o, b < w.heap.size → w'.frozen? ⟨b, o, none⟩ = w.frozen? ⟨b, o, none⟩) :=
  ⟨fun b o hb => h.cell (a := ⟨b, o, none⟩) hb, fun b o hb => h.frozen (a := ⟨b, o, none⟩) hb⟩
theorem Grew.use {w w' : World} (h : Grew w w') : (∀ b o, b < w.heap.size → w'.cell? ⟨b, o, none⟩ = w.cell? ⟨b, o, none⟩) ∧ (∀ b o, b < w.heap.size → w'.frozen? ⟨b, o, none⟩ = w.frozen? ⟨b, o, none⟩) ∧ w.heap.size ≤ w'.heap.size := ⟨h.cells.1, h.cells.2, h.size⟩
theorem Grew.below {w w' : World} (h : Grew w w') : Below w.heap.size w w' := by
  obtain ⟨⟨m, os⟩, rfl⟩ := h
  exact ⟨rfl, rfl, rfl, by simp, fun k hk => by rw [heap_grow_old _ _ (by exact hk)]; rfl⟩
theorem Grew.old {w w' : World} (h : Grew w w') {k : Nat} (hk : k < w.heap.size) : w'.heap[k]? = w.heap[k]? := h.below.block k hk
end Go.Proofs.YtkmonmpfbchffaaGreat.Grown
/- What a world with blocks laid behind it holds; stores into it. -/
namespace Go.Proofs.YtkmonmpfbchffaaGreat.Grown
set_option linter.unusedVariables false
set_option linter.unusedSimpArgs false
open Go.RowKit Go.Sort
/-- A store into a block that was there, in a world with blocks laid behind it. -/
theorem grow_set (n : Nat) (os : Array Obj) : ∀ (X : World) (b i : Nat) (v : Value), b < X.heap.size → (grow (X.drewN n) os).setCell ⟨b, i, none⟩ v = grow ((X.setCell ⟨b, i, none⟩ v).drewN n) os := fun X b i v hb => by
  rw [setCell_grow _ _ _ _ _ (by exact hb)]; rfl
theorem grow_cell (n : Nat) (os : Array Obj) : ∀ (X : World) (b i : Nat), b < X.heap.size → (grow (X.drewN n) os).cell? ⟨b, i, none⟩ = X.cell? ⟨b, i, none⟩ := fun X b i hb => by
  rw [cell?_grow _ _ _ (by exact hb)]; rfl
theorem grow_frozen (n : Nat) (os : Array Obj) : ∀ (X : World) (b i : Nat), b < X.heap.size → (grow (X.drewN n) os).frozen? ⟨b, i, none⟩ = X.frozen? ⟨b, i, none⟩ := fun X b i hb => by
  rw [frozen?_grow _ _ _ (by exact hb)]; rfl
theorem grow_size (n : Nat) (os : Array Obj) : ∀ X : World, (grow (X.drewN n) os).heap.size = X.heap.size + os.size := fun _ => size_grow _ _
theorem grewCall {P : Program} {f : FuncId} {args : Array Value} {w : World} {n : Nat} {os : Array Obj} {v : Value} (h : Calls P f args (grow (w.drewN n) os) fun e w' => e = .returned v ∧ Grew (grow (w.drewN n) os) w') : Calls P f args (grow (w.drewN n) os) fun e w'' => e = .returned v ∧ ∃ p : GrownBy, w'' = grow (w.drewN p.n) p.os :=
  h.mono fun _ _ ⟨he, hg⟩ => ⟨he, (Grew.mk w n os).trans hg⟩
end Go.Proofs.YtkmonmpfbchffaaGreat.Grown
/- How many tokens are of the kinds of a shape; the place behind the last token. -/
namespace Go.Proofs.YtkmonmpfbchffaaGreat.SynA
set_option linter.unusedVariables false
set_option linter.unusedSimpArgs false
open Go.RowKit Go.Sort Go.Proofs.YtkmonmpfbchffaaGreat.Plain Go.Proofs.YtkmonmpfbchffaaGreat.SynP Go.Proofs.YtkmonmpfbchffaaGreat.SynQ Go.Proofs.YtkmonmpfbchffaaGreat.Grown
set_option linter.unusedVariables false
/-- A slice value that reads as tokens, wherever it begins. -/
def TkAt (w : World) (A : Option Addr) (L : List Tk) : Prop :=
  0 < L.length → ∃ g o, A = some ⟨g, o, none⟩ ∧ g < w.heap.size ∧ ∀ j, (h : j < L.length) → w.cell? ⟨g, o + j * 3, none⟩ = some (.int .i64 L[j].kind) ∧ w.cell? ⟨g, o + j * 3 + 1, none⟩ = some (.string L[j].text) ∧ w.cell? ⟨g, o + j * 3 + 2, none⟩ = some (.int .i64 L[j].col)
/-- A slice value that reads as numbers. -/
def IAt (w : World) (A : Option Addr) (l : List Int) : Prop :=
  0 < l.length → ∃ g o, A = some ⟨g, o, none⟩ ∧ g < w.heap.size ∧ ∀ k, (h : k < l.length) → w.cell? ⟨g, o + k, none⟩ = some (.int .i64 l[k])
theorem TkAt.below {w w' : World} {A : Option Addr} {L : List Tk} (h : TkAt w A L) (hb : Below w.heap.size w w') : TkAt w' A L := fun hp => by
  obtain ⟨g, o, hA, hg, hc⟩ := h hp
  refine ⟨g, o, hA, Nat.lt_of_lt_of_le hg hb.size, fun j hj => ?_⟩
  obtain ⟨a, b, c⟩ := hc j hj
  exact ⟨(hb.cell (p := ⟨g, o + j * 3, none⟩) hg).trans a, (hb.cell (p := ⟨g, o + j * 3 + 1, none⟩) hg).trans b, (hb.cell (p := ⟨g, o + j * 3 + 2, none⟩) hg).trans c⟩
theorem IAt.below {w w' : World} {A : Option Addr} {l : List Int} (h : IAt w A l) (hb : Below w.heap.size w w') : IAt w' A l := fun hp => by
  obtain ⟨g, o, hA, hg, hc⟩ := h hp
  exact ⟨g, o, hA, Nat.lt_of_lt_of_le hg hb.size, fun k hk => (hb.cell (p := ⟨g, o + k, none⟩) hg).trans (hc k hk)⟩
theorem TkAt.of_row {w : World} {A : Option Addr} {L : List Tk} (h : Scan5.TkRow w A L) : TkAt w A L := fun hp => by
  obtain ⟨g, hA, hg, hc⟩ := h hp
  exact ⟨g, 0, hA, hg, fun j hj => by simpa using hc j hj⟩
set_option maxRecDepth 100000 in
theorem agree (A : Option Addr) (ca : Nat) (L : List Tk) (S : Option Addr) (cs : Nat) (l : List Int) (w : World) (hL : L.length ≤ 100000) (hl : l.length ≤ 1000) (hA : TkAt w A L) (hS : IAt w S l) :
    Calls Tryz.prog 244 #[.slice A L.length ca, .slice S l.length cs] w fun e w' => e = .returned (.int .i64 (agreeN (kindsOf L) l)) ∧ ∃ n, w' = w.drewN n := by
  go_enter Tryz.func244, Tryz.ntmps244
  go_wp2
  go_loopw [5] (fun i wr => ∃ k : Nat, k ≤ L.length ∧ k ≤ l.length ∧ i = .int .i64 k ∧ Hid (agreeN (kindsOf L) l = agreeN ((kindsOf L).drop k) (l.drop k) + k) ∧ ∃ n, wr = w.drewN n) (fun i _ => L.length - (intOf i).toNat)
  case atStart => exact ⟨0, by omega, by omega, rfl, Lib.hid (by simp), 0, rfl⟩
  case round =>
    obtain ⟨k, hk, hk2, rfl, hrun, n, rfl⟩ := hrel
    by_cases hlt : k < L.length
    · have d1 : decide ((k : Int) < L.length) = true := by simp; omega
      by_cases hlt2 : k < l.length
      · have d2 : decide ((k : Int) < l.length) = true := by simp; omega
        obtain ⟨g1, o1, rfl, _, h1⟩ := hA (by omega)
        obtain ⟨g2, o2, rfl, _, h2⟩ := hS (by omega)
        have a1 := (h1 k hlt).1
        have a2 := h2 k hlt2
        have hkl : k < (kindsOf L).length := by rw [kinds_len]; exact hlt
        have hke : (kindsOf L)[k] = L[k].kind := List.getElem_map ..
        clear h1 h2 hA hS
        have p1 : (0 : Int) ≤ k := by omega
        by_cases he : L[k].kind = l[k]
        · have hnext : Hid (agreeN (kindsOf L) l = agreeN ((kindsOf L).drop (k + 1)) (l.drop (k + 1)) + (k + 1)) := Lib.hid (by rw [hrun.out, agree_step hkl hlt2 (hke.trans he)]; omega)
          rw [he] at a1
          clear hrun hke he hkl
          go_wp2_with fail
          try go_quiet (fail)
          go_wp2_with fail
          go_roundw
          case rel => exact ⟨k + 1, by omega, by omega, by go_num, hnext, _, rfl⟩
          case measure => simp [intOf]; omega
        · have hfin : Hid (agreeN (kindsOf L) l = k) := Lib.hid (by rw [hrun.out, agree_ne hkl hlt2 (by rw [hke]; exact he)]; omega)
          have d3 : (L[k].kind == l[k]) = false := by simpa using he
          clear hrun hke he hkl
          go_wp2_with fail
          try go_quiet (fail)
          go_wp2_with fail
          go_ret
          exact ⟨ret_int (by rw [hfin.out]), _, World.drewN_drewN _ _ _⟩
      · have hfin : Hid (agreeN (kindsOf L) l = k) := Lib.hid (by rw [hrun.out, agree_end2 (by omega)]; omega)
        have d2 : decide ((k : Int) < l.length) = false := by simp; omega
        clear hrun hA hS
        go_wp2_with fail
        try go_quiet (fail)
        go_wp2_with fail
        go_ret
        exact ⟨ret_int (by rw [hfin.out]), _, World.drewN_drewN _ _ _⟩
    · have hfin : Hid (agreeN (kindsOf L) l = k) := Lib.hid (by rw [hrun.out, agree_end1 (by rw [kinds_len]; omega)]; omega)
      have d1 : decide ((k : Int) < L.length) = false := by simp; omega
      clear hrun hA hS
      go_wp2_with fail
      try go_quiet (fail)
      go_wp2_with fail
      go_ret
      exact ⟨ret_int (by rw [hfin.out]), _, World.drewN_drewN _ _ _⟩
set_option maxRecDepth 100000 in
theorem fits (A : Option Addr) (ca : Nat) (L : List Tk) (S : Option Addr) (cs : Nat) (l : List Int) (w : World) (hL : L.length ≤ 100000) (hl : l.length ≤ 1000) (hA : TkAt w A L) (hS : IAt w S l) :
    Calls Tryz.prog 198 #[.slice A L.length ca, .slice S l.length cs] w fun e w' => e = .returned (.int .i64 (agreeN (kindsOf L) l)) ∧ ∃ n, w' = w.drewN n := by
  go_enter Tryz.func198, Tryz.ntmps198
  go_wp2
  go_loopw [5] (fun i wr => ∃ k : Nat, k ≤ L.length ∧ k ≤ l.length ∧ i = .int .i64 k ∧ Hid (agreeN (kindsOf L) l = agreeN ((kindsOf L).drop k) (l.drop k) + k) ∧ ∃ n, wr = w.drewN n) (fun i _ => L.length - (intOf i).toNat)
  case atStart => exact ⟨0, by omega, by omega, rfl, Lib.hid (by simp), 0, rfl⟩
  case round =>
    obtain ⟨k, hk, hk2, rfl, hrun, n, rfl⟩ := hrel
    by_cases hlt : k < L.length
    · have d1 : decide ((k : Int) < L.length) = true := by simp; omega
      by_cases hlt2 : k < l.length
      · have d2 : decide ((k : Int) < l.length) = true := by simp; omega
        obtain ⟨g1, o1, rfl, _, h1⟩ := hA (by omega)
        obtain ⟨g2, o2, rfl, _, h2⟩ := hS (by omega)
        have a1 := (h1 k hlt).1
        have a2 := h2 k hlt2
        have hkl : k < (kindsOf L).length := by rw [kinds_len]; exact hlt
        have hke : (kindsOf L)[k] = L[k].kind := List.getElem_map ..
        clear h1 h2 hA hS
        have p1 : (0 : Int) ≤ k := by omega
        by_cases he : L[k].kind = l[k]
        · have hnext : Hid (agreeN (kindsOf L) l = agreeN ((kindsOf L).drop (k + 1)) (l.drop (k + 1)) + (k + 1)) := Lib.hid (by rw [hrun.out, agree_step hkl hlt2 (hke.trans he)]; omega)
          rw [he] at a1
          clear hrun hke he hkl
          go_wp2_with fail
          try go_quiet (fail)
          go_wp2_with fail
          go_roundw
          case rel => exact ⟨k + 1, by omega, by omega, by go_num, hnext, _, rfl⟩
          case measure => simp [intOf]; omega
        · have hfin : Hid (agreeN (kindsOf L) l = k) := Lib.hid (by rw [hrun.out, agree_ne hkl hlt2 (by rw [hke]; exact he)]; omega)
          have d3 : (L[k].kind == l[k]) = false := by simpa using he
          clear hrun hke he hkl
          go_wp2_with fail
          try go_quiet (fail)
          go_wp2_with fail
          go_ret
          exact ⟨ret_int (by rw [hfin.out]), _, World.drewN_drewN _ _ _⟩
      · have hfin : Hid (agreeN (kindsOf L) l = k) := Lib.hid (by rw [hrun.out, agree_end2 (by omega)]; omega)
        have d2 : decide ((k : Int) < l.length) = false := by simp; omega
        clear hrun hA hS
        go_wp2_with fail
        try go_quiet (fail)
        go_wp2_with fail
        go_ret
        exact ⟨ret_int (by rw [hfin.out]), _, World.drewN_drewN _ _ _⟩
    · have hfin : Hid (agreeN (kindsOf L) l = k) := Lib.hid (by rw [hrun.out, agree_end1 (by rw [kinds_len]; omega)]; omega)
      have d1 : decide ((k : Int) < L.length) = false := by simp; omega
      clear hrun hA hS
      go_wp2_with fail
      try go_quiet (fail)
      go_wp2_with fail
      go_ret
      exact ⟨ret_int (by rw [hfin.out]), _, World.drewN_drewN _ _ _⟩
theorem behindOf_nil : behindOf [] = 1 := rfl
theorem behindOf_last {L : List Tk} (h : 0 < L.length) : behindOf L = L[L.length - 1].col + L[L.length - 1].text.size := by
  unfold behindOf
  rw [List.getLast?_eq_getElem?, List.getElem?_eq_getElem (by omega)]
/-- The columns and sizes of tokens are small. -/
def SmallTk (L : List Tk) : Prop := ∀ t ∈ L, t.col ≤ 1000000 ∧ t.text.size ≤ 1000000
theorem behind (A : Option Addr) (ca : Nat) (L : List Tk) (w : World) (hL : L.length ≤ 100000) (hA : TkAt w A L) (hs : SmallTk L) : Calls Tryz.prog 246 #[.slice A L.length ca] w fun e w' => e = .returned (.int .i64 (behindOf L)) ∧ Below w.heap.size w w' := by
  by_cases h0 : 0 < L.length
  · obtain ⟨g, o, rfl, hg, hc⟩ := hA h0
    have hb := Lib.hid (behindOf_last h0)
    obtain ⟨s1, s2⟩ := hs L[L.length - 1] (List.getElem_mem _)
    obtain ⟨a, b, c⟩ := hc (L.length - 1) (by omega)
    obtain ⟨m, hm⟩ : ∃ m, L.length = m + 1 := ⟨L.length - 1, by omega⟩
    clear hc hA hs
    generalize L[L.length - 1] = t at *
    have e1 : (L.length : Int) - 1 = m := by omega
    rw [show L.length - 1 = m by omega] at a b c
    have w1 : ((L.length : Int) == 0) = false := by
      rw [beq_eq_false_iff_ne]; omega
    have w2 : decide ((m : Int) < L.length) = true := decide_eq_true (by omega)
    have w3 : m < L.length := by omega
    have HM := Lib.hid hm
    clear hm
    go_enter Tryz.func246, Tryz.ntmps246
    go_wp2_with fail
    go_ret
    exact ⟨ret_int (by rw [hb.out]; simp), (Below.refl _ _).alloc (Nat.le_refl _) _⟩
  · have : L = [] := List.eq_nil_of_length_eq_zero (by omega)
    subst this
    go_enter Tryz.func246, Tryz.ntmps246
    go_wp2_with fail
    go_ret
    exact ⟨rfl, Below.refl _ _⟩
end Go.Proofs.YtkmonmpfbchffaaGreat.SynA
/- append of a slice that reads as cells, onto a row of the call's own; a copy of tokens. -/
namespace Go.Proofs.YtkmonmpfbchffaaGreat.SynC
set_option linter.unusedVariables false
set_option linter.unusedSimpArgs false
open Go.RowKit Go.Sort Go.Proofs.YtkmonmpfbchffaaGreat.Plain Go.Proofs.YtkmonmpfbchffaaGreat.SynP Go.Proofs.YtkmonmpfbchffaaGreat.SynQ Go.Proofs.YtkmonmpfbchffaaGreat.Grown Go.Proofs.YtkmonmpfbchffaaGreat.SynA Go.Proofs.YtkmonmpfbchffaaGreat.Scan3
set_option linter.unusedVariables false
section
variable {P : Program} (w : World)
theorem run_append_from (base : Nat) (t ty e : TypeId) (i : TypeInfo) (z : Value) (size bytes : Nat) (ht : P.underlying t = some (.slice e)) (hi : P.info? e = some i) (hz : i.zero = some z)
    (hsize : i.size = size) (hby : i.bytes = bytes) (hzs : z.cells.size = size) (hsz : 0 < size) (v : Value) (n : Nat) (xs : List Value) (hown : w.ownsRow base e size v n xs)
    (A : Option Addr) (m c : Nat) (news : List Value) (hlen : news.length = m * size) (h0 : A = none → m = 0) (hA : ∀ ad, A = some ad → ∀ j u, news[j]? = some u → w.cell? (ad.add j) = some u) (h1 : ∀ u ∈ news, u.oneCell' = true)
    (h63 : n + m ≤ maxLen) (hbytes : (n + m) * bytes ≤ 140737488355328) (hbase : base ≤ w.heap.size) :
    ∃ v' w', (Builtin.append_ #[t, t] ty #[v, .slice A m c]).run P w = .ok v' w' ∧ w'.ownsRow base e size v' (n + m) (xs ++ news) ∧ w.grownBy w' v.ownBlock := by
  cases A with
  | none =>
    have hm := h0 rfl
    subst hm
    have hn : news = [] := List.eq_nil_of_length_eq_zero (by omega)
    subst hn
    refine ⟨v, w, ?_, by simpa using hown, World.grownBy.refl w _⟩
    rcases hown.2 with ⟨rfl, rfl⟩ | ⟨g, cap, cur, rfl, _, _, hnc, _⟩
    · simp [Builtin.append_, run_underlying ht, sizeOf, typeInfo, hi, Builtin.lenOf, Builtin.firstCells]
    · simp [Builtin.append_, run_underlying ht, sizeOf, typeInfo, hi, Builtin.lenOf, Builtin.firstCells, hnc, storeCells]
  | some ad =>
    obtain ⟨v', w', hrun, h2, h3, _⟩ := run_append_own (P := P) w base t ty e i z size bytes ht hi hz hsize hby hzs hsz v n xs hown ad m c news hlen (hA ad rfl) h1 h63 hbytes hbase
    exact ⟨v', w', hrun, h2, h3⟩
theorem wpList_append_from {ops : Array Oper} {rest : List Oper} {o : Oper} {a : Act} {Q : Exit → Act → World → Prop} (hgd : o.guard = none) (s x : Operand) (t : TypeId)
    (ho : o.op = .call { callee := .builtin .append, args := #[s, x], argTypes := #[t, t] })
    (base : Nat) (e : TypeId) (i : TypeInfo) (z : Value) (size bytes : Nat) (ht : P.underlying t = some (.slice e)) (hi : P.info? e = some i) (hz : i.zero = some z)
    (hsize : i.size = size) (hby : i.bytes = bytes) (hzs : z.cells.size = size) (hsz : 0 < size) (v : Value) (n : Nat) (xs : List Value) (hs : a.eval s = v) (hown : w.ownsRow base e size v n xs)
    (A : Option Addr) (m c : Nat) (news : List Value) (hx : a.eval x = .slice A m c) (hlen : news.length = m * size) (h0 : A = none → m = 0) (hA : ∀ ad, A = some ad → ∀ j u, news[j]? = some u → w.cell? (ad.add j) = some u) (h1 : ∀ u ∈ news, u.oneCell' = true)
    (h63 : n + m ≤ maxLen) (hbytes : (n + m) * bytes ≤ 140737488355328) (hbase : base ≤ w.heap.size)
    (h : ∀ v' w', w'.ownsRow base e size v' (n + m) (xs ++ news) → w.grownBy w' v.ownBlock → wpList P ops Q rest (a.put o.dst v') w') : wpList P ops Q (o :: rest) a w := by
  obtain ⟨v', w', hrun, h2, h3⟩ := run_append_from (P := P) w base t o.type e i z size bytes ht hi hz hsize hby hzs hsz v n xs hown A m c news hlen h0 hA h1 h63 hbytes hbase
  exact Lib.wpList_append_run w hgd s x t t ho v _ hs hx v' w' hrun (h v' w' h2 h3)
end
theorem add_off (b off j : Nat) : ((⟨b, off, none⟩ : Addr).add j) = ⟨b, off + j, none⟩ := by
  unfold Addr.add
  split
  · rename_i h; subst h; rfl
  · simp
theorem own_empty (w : World) (t : TypeId) (size : Nat) : (w.alloc (.cells #[] t)).ownsRow w.heap.size t size (.slice (some ⟨w.heap.size, 0, none⟩) 0 0) 0 [] := by
  refine ⟨by simp, .inr ⟨w.heap.size, 0, #[], rfl, Nat.le_refl _, heap_alloc_new w _, by omega, ?_⟩⟩
  simp
theorem tkCells_cons (t : Tk) (L : List Tk) : tkCells (t :: L) = t.cells ++ tkCells L := by unfold tkCells; simp
theorem tkCells_len (L : List Tk) : (tkCells L).length = L.length * 3 := by
  induction L with
  | nil => rfl
  | cons t L ih => rw [tkCells_cons, List.length_append, ih, List.length_cons, Nat.succ_mul]; show 3 + _ = _; omega
theorem tkCells_one (L : List Tk) : ∀ u ∈ tkCells L, u.oneCell' = true := by
  intro u hu
  unfold tkCells at hu
  rw [List.mem_flatten] at hu
  obtain ⟨l, hl, hu⟩ := hu
  obtain ⟨t, _, rfl⟩ := List.mem_map.1 hl
  simp [Tk.cells] at hu
  rcases hu with rfl | rfl | rfl <;> rfl
/-- Cells of tokens, one by one. -/
theorem tkCells_get {w : World} {g o : Nat} : ∀ (L : List Tk), (∀ j, (h : j < L.length) → w.cell? ⟨g, o + j * 3, none⟩ = some (.int .i64 L[j].kind) ∧ w.cell? ⟨g, o + j * 3 + 1, none⟩ = some (.string L[j].text) ∧ w.cell? ⟨g, o + j * 3 + 2, none⟩ = some (.int .i64 L[j].col)) →
    ∀ j u, (tkCells L)[j]? = some u → w.cell? ⟨g, o + j, none⟩ = some u := by
  intro L hc j u hu
  have hj : j < (tkCells L).length := by
    rcases Nat.lt_or_ge j (tkCells L).length with h | h
    · exact h
    · rw [List.getElem?_eq_none h] at hu; cases hu
  rw [tkCells_len] at hj
  have hq : j / 3 < L.length := by omega
  obtain ⟨a, b, c⟩ := hc (j / 3) hq
  obtain ⟨a', b', c'⟩ := Scan5.tkCells_at L (j / 3) hq
  rcases (show j = j / 3 * 3 ∨ j = j / 3 * 3 + 1 ∨ j = j / 3 * 3 + 2 by omega) with h | h | h
  · rw [h] at hu; rw [a'] at hu; rw [h]; rw [a, hu]
  · rw [h] at hu; rw [b'] at hu; rw [h]; rw [← Nat.add_assoc, b, hu]
  · rw [h] at hu; rw [c'] at hu; rw [h]; rw [← Nat.add_assoc, c, hu]
def ClonePost (L : List Tk) (w : World) (e : Ending) (w' : World) : Prop := ∃ v, e = .returned v ∧ w'.ownsRow w.heap.size 34 3 v L.length (tkCells L) ∧ Below w.heap.size w w'
set_option maxRecDepth 100000 in
theorem cloneTk (A : Option Addr) (ca : Nat) (L : List Tk) (w : World) (hL : L.length ≤ 100000) (hA : TkAt w A L) : Calls Tryz.prog 157 #[.slice A L.length ca] w (ClonePost L w) := by
  obtain ⟨i0, hi, hz0, hz1, hz2⟩ := info_parts infoTok
  cases A with
  | none =>
    have : L = [] := by
      rcases Nat.eq_zero_or_pos L.length with h | h
      · exact List.eq_nil_of_length_eq_zero h
      · obtain ⟨g, o, h, _⟩ := hA h; cases h
    subst this
    have es := fun (w : World) (a : Option Addr) (n c : Nat) => Lib.run_eql_slice_nil (P := Tryz.prog) w 30 34 a n c 0 0 Tryz.underlying30
    go_enter Tryz.func157, Tryz.ntmps157
    go_wp2_with fail
    go_ret
    exact ⟨_, rfl, World.ownsRow_nil _ _ _ _, Below.refl _ _⟩
  | some ad =>
    have hcells : ∀ ad', some ad = some ad' → ∀ j u, (tkCells L)[j]? = some u → (w.alloc (.cells #[] 34)).cell? (ad'.add j) = some u := by
      rintro ad' ⟨⟩ j u hu
      have hj : 0 < L.length := by
        rcases Nat.eq_zero_or_pos L.length with h | h
        · have : L = [] := List.eq_nil_of_length_eq_zero h
          subst this; simp [tkCells] at hu
        · exact h
      obtain ⟨g, o, h, hg, hc⟩ := hA hj
      injection h with h
      subst h
      rw [add_off, World.cell?_alloc_past _ _ _ hg]
      exact tkCells_get L hc j u hu
    have Hc := Lib.hid hcells
    clear hcells hA
    have es := fun (w : World) (a : Option Addr) (n c : Nat) => Lib.run_eql_slice_nil (P := Tryz.prog) w 30 34 a n c 0 0 Tryz.underlying30
    go_enter Tryz.func157, Tryz.ntmps157
    go_wp2_with (at_builtin; refine wpList_append_from _ rfl _ _ 30 rfl w.heap.size 34 i0 (.agg #[.int .i64 0, .string ⟨#[]⟩, .int .i64 0]) 3 32 Tryz.underlying30 hi hz0 hz1 hz2 rfl (by decide) _ _ _ rfl (own_empty w _ 3) (some ad) L.length ca (tkCells L) rfl (tkCells_len L) (fun h => by cases h) Hc.out (tkCells_one L) (by unfold maxLen; omega) (by omega) (by simp) ?_)
    intro v' w1 hown hgrow
    have hb : Below w.heap.size w w1 := ((Below.refl _ _).alloc (Nat.le_refl _) _).grown hgrow (by simp) (fun k hk => by simp [Value.ownBlock] at hk; omega)
    go_wp2_with fail
    go_ret
    exact ⟨_, rfl, by simpa using hown, hb⟩
end Go.Proofs.YtkmonmpfbchffaaGreat.SynC
/- Rows of what fits tokens: closures over a word, or over a kind. -/
namespace Go.Proofs.YtkmonmpfbchffaaGreat.Qry4
set_option linter.unusedVariables false
set_option linter.unusedSimpArgs false
open Go.RowKit Go.Sort Go.Proofs Go.Proofs.YtkmonmpfbchffaaGreat.Plain Go.Proofs.YtkmonmpfbchffaaGreat.SynP Go.Proofs.YtkmonmpfbchffaaGreat.TabP Go.Proofs.YtkmonmpfbchffaaGreat.Tab1 Go.Proofs.YtkmonmpfbchffaaGreat.Grown Go.Proofs.YtkmonmpfbchffaaGreat.SynA Go.Proofs.YtkmonmpfbchffaaGreat.QryP
set_option linter.unusedVariables false
set_option linter.unusedSimpArgs false
inductive Ft where
  | word (s : Str)
  | kind (k : Int)
/-- A token that may stand there. -/
def Ft.fits (t : Tk) : Ft → Bool
  | .word s => decide (t.kind = 2) && decide (t.text = ⟨s.toArray⟩)
  | .kind k => decide (t.kind = k)
/-- The value of such a function, its captured variable in a block of its own. -/
def FnAt (w : World) (v : Value) : Ft → Prop
  | .word s => ∃ b : Nat, w.heap[b]? = some (.cells #[.string ⟨s.toArray⟩] 9 (0, 0)) ∧ v = .func (.func 108) #[] #[.pointer (some ⟨b, 0, none⟩)]
  | .kind k => ∃ b : Nat, w.heap[b]? = some (.cells #[.int .i64 k] 3 (0, 0)) ∧ v = .func (.func 205) #[] #[.pointer (some ⟨b, 0, none⟩)]
def FnsAt (w : World) (vs : List Value) (F : List Ft) : Prop := vs.length = F.length ∧ ∀ (j : Nat) (v : Value) (f : Ft), vs[j]? = some v → F[j]? = some f → FnAt w v f
theorem heap_lt {w : World} {b : Nat} {o : Obj} (h : w.heap[b]? = some o) : b < w.heap.size := (Array.getElem?_eq_some_iff.1 h).1
/-- Blocks that are no row of such functions are kept. -/
def Keep (w w' : World) : Prop := ∀ (b : Nat) (c : Array Value) (e : TypeId), w.heap[b]? = some (Obj.cells c e (0, 0)) → e ≠ 125 → w'.heap[b]? = some (Obj.cells c e (0, 0))
theorem FnAt.keep {w w' : World} {v : Value} {f : Ft} (h : FnAt w v f) (hk : Keep w w') : FnAt w' v f := by
  cases f with
  | word s =>
    obtain ⟨b, h1, h2⟩ := h
    exact ⟨b, hk b _ _ h1 (by show (_ : Nat) ≠ _; decide), h2⟩
  | kind k =>
    obtain ⟨b, h1, h2⟩ := h
    exact ⟨b, hk b _ _ h1 (by show (_ : Nat) ≠ _; decide), h2⟩
theorem keep_below {w w' : World} (hb : Below w.heap.size w w') : Keep w w' := fun b c e h _ => (hb.block b (heap_lt h)).trans h
theorem keep_grown {w w' : World} {B n : Nat} {v : Value} {vs : List Value} (hown : w.ownsRow B 125 1 v n vs) (hg : w.grownBy w' v.ownBlock) : Keep w w' := fun b c e h he => by
  rw [hg.block b (heap_lt h) fun hb => ?_, h]
  rcases hown.2 with ⟨rfl, _⟩ | ⟨g, cap, cur, rfl, _, hh, _⟩
  · simp [Value.ownBlock] at hb
  · simp [Value.ownBlock] at hb
    subst hb
    rw [h] at hh
    injection hh with hh
    injection hh with h1 h2 h3
    exact he h2
theorem FnsAt.keep {w w' : World} {vs : List Value} {F : List Ft} (h : FnsAt w vs F) (hk : Keep w w') : FnsAt w' vs F := ⟨h.1, fun j v f a b => (h.2 j v f a b).keep hk⟩
theorem FnsAt.snoc {w : World} {vs : List Value} {F : List Ft} {v : Value} {f : Ft} (h : FnsAt w vs F) (hv : FnAt w v f) : FnsAt w (vs ++ [v]) (F ++ [f]) := by
  refine ⟨by simp [h.1], fun j u g a b => ?_⟩
  by_cases hj : j < vs.length
  · rw [List.getElem?_append_left hj] at a
    rw [List.getElem?_append_left (by rw [← h.1]; exact hj)] at b
    exact h.2 j u g a b
  · have hj2 : j = vs.length := by
      have := (List.getElem?_eq_some_iff.1 a).1
      simp at this; omega
    subst hj2
    rw [List.getElem?_append_right (Nat.le_refl _)] at a
    rw [List.getElem?_append_right (by rw [h.1]; exact Nat.le_refl _)] at b
    simp [h.1] at a b
    rw [← a, ← b]; exact hv
theorem FnsAt.app {w : World} {vs us : List Value} {F G : List Ft} (h : FnsAt w vs F) (k : FnsAt w us G) : FnsAt w (vs ++ us) (F ++ G) := by
  refine ⟨by simp [h.1, k.1], fun j u g a b => ?_⟩
  by_cases hj : j < vs.length
  · rw [List.getElem?_append_left hj] at a
    rw [List.getElem?_append_left (by rw [← h.1]; exact hj)] at b
    exact h.2 j u g a b
  · rw [List.getElem?_append_right (by omega)] at a
    rw [List.getElem?_append_right (by rw [← h.1]; omega)] at b
    rw [← h.1] at b
    exact k.2 _ u g a b
def FitsPost (F : List Ft) (w : World) (e : Ending) (w' : World) : Prop := ∃ v vs, e = .returned v ∧ w'.ownsRow w.heap.size 125 1 v F.length vs ∧ FnsAt w' vs F ∧ Below w.heap.size w w'
theorem infoFit : (Tryz.prog.info? 125).map (fun i => (i.zero, i.size, i.bytes)) = some (some .nilFunc, 1, 8) := by kernel_rfl
theorem new_fit (X : World) (v : Value) : ∀ j u, [v][j]? = some u → (X.alloc (.cells #[v] 125)).cell? ((⟨X.heap.size, 0, none⟩ : Addr).add j) = some u := fun j u hu => by
  rw [SynC.add_off, Nat.zero_add, Lib.cell_of_heap (heap_alloc_new X _)]
  simpa using hu
theorem step_fns {wr w2 : World} {B i : Nat} {v fv : Value} {vs : List Value} {F : List Ft} {f : Ft} {box : Array Value} {e : TypeId} (hown : ((wr.alloc (.cells box e)).alloc (.cells #[fv] 125)).ownsRow B 125 1 v i vs) (hg : ((wr.alloc (.cells box e)).alloc (.cells #[fv] 125)).grownBy w2 v.ownBlock) (hfn : FnsAt wr vs F) (hv : FnAt ((wr.alloc (.cells box e)).alloc (.cells #[fv] 125)) fv f) : FnsAt w2 (vs ++ [fv]) (F ++ [f]) := by
  have k1 : Keep wr ((wr.alloc (.cells box e)).alloc (.cells #[fv] 125)) := keep_below (((Below.refl _ _).alloc (Nat.le_refl _) _).alloc (by simp) _)
  have k2 := keep_grown hown hg
  exact ((hfn.keep k1).keep k2).snoc (hv.keep k2)
theorem below_step {w wr w2 : World} {i : Nat} {v : Value} {vs : List Value} {o1 o2 : Obj} (hb : Below w.heap.size w wr) (hown : wr.ownsRow w.heap.size 125 1 v i vs) (hg : ((wr.alloc o1).alloc o2).grownBy w2 v.ownBlock) : Below w.heap.size w w2 :=
  ((hb.alloc hb.size _).alloc (by have := hb.size; simp; omega) _).grown hg (by have := hb.size; simp; omega) (fun k hk => (hown.lt k hk).1)
theorem new_two (wr : World) (o : Obj) (fv : Value) : ∀ ad, (some ⟨wr.heap.size + 1, 0, none⟩ : Option Addr) = some ad → ∀ j u, [fv][j]? = some u → ((wr.alloc o).alloc (.cells #[fv] 125)).cell? (ad.add j) = some u := fun ad e j u hu => by
  injection e with e
  subst e
  have := new_fit (wr.alloc o) fv j u hu
  rw [World.size_alloc] at this
  exact this
theorem box_heap (wr : World) (o o2 : Obj) : ((wr.alloc o).alloc o2).heap[wr.heap.size]? = some o := (Below.heap_alloc _ _ _ (by simp)).trans (heap_alloc_new wr o)
set_option maxHeartbeats 1000000 in
set_option maxRecDepth 100000 in
theorem words (A : Option Addr) (c : Nat) (T : List Str) (w : World) (hT : T.length ≤ 1000) (hA : SRow w A T) : Calls Tryz.prog 51 #[.slice A T.length c] w (FitsPost (T.map Ft.word) w) := by
  obtain ⟨i0, hi0, hz0, hz1, hz2⟩ := info_parts infoFit
  have HA := Lib.hid hA
  clear hA
  go_enter Tryz.func51, Tryz.ntmps51
  go_wp2_with fail
  go_loopw [3, 8] (fun u3 u8 wr => ∃ (i : Nat) (vs : List Value), i ≤ T.length ∧ u8 = .int .i64 i ∧ Hid (wr.ownsRow w.heap.size 125 1 u3 i vs) ∧ Hid (FnsAt wr vs ((T.take i).map Ft.word)) ∧ Below w.heap.size w wr) (fun _ u8 _ => T.length - (intOf u8).toNat)
  case atStart => exact ⟨0, [], by omega, rfl, Lib.hid (World.ownsRow_nil _ _ _ _), Lib.hid ⟨by simp, fun j v f h => by simp at h⟩, Below.refl _ _⟩
  case round =>
    obtain ⟨i, vs, hi, rfl, hown, hfn, hb⟩ := hrel
    by_cases hlt : i < T.length
    · obtain ⟨g, off, rfl, hg, hcell⟩ := (HA.out.keep hb) (by omega)
      have hx := hcell i hlt
      have p1 : (0 : Int) ≤ i := by omega
      have p2 : (i : Int) < T.length := by omega
      clear hcell
      have hown' := Lib.hid ((hown.out.alloc (.cells #[.string ⟨T[i].toArray⟩] 9)).alloc (.cells #[(.func (.func 108) #[] #[.pointer (some ⟨wr.heap.size, 0, none⟩)])] 125))
      have hn := Lib.hid (new_two wr (.cells #[.string ⟨T[i].toArray⟩] 9) (.func (.func 108) #[] #[.pointer (some ⟨wr.heap.size, 0, none⟩)]))
      have hv : Hid (FnAt ((wr.alloc (.cells #[.string ⟨T[i].toArray⟩] 9)).alloc (.cells #[(.func (.func 108) #[] #[.pointer (some ⟨wr.heap.size, 0, none⟩)])] 125)) (.func (.func 108) #[] #[.pointer (some ⟨wr.heap.size, 0, none⟩)]) (Ft.word T[i])) := Lib.hid ⟨wr.heap.size, box_heap wr _ _, rfl⟩
      have htk : Hid ((T.take (i + 1)).map Ft.word = (T.take i).map Ft.word ++ [Ft.word T[i]]) := Lib.hid (by rw [List.take_succ_eq_append_getElem hlt, List.map_append]; rfl)
      go_wp2_with (at_builtin; refine SynC.wpList_append_from _ rfl _ _ 68 rfl w.heap.size 125 i0 .nilFunc 1 8 Tryz.underlying68 hi0 hz0 hz1 hz2 rfl (by decide) _ i vs rfl hown'.out (some ⟨wr.heap.size + 1, 0, none⟩) 1 1 [(.func (.func 108) #[] #[.pointer (some ⟨wr.heap.size, 0, none⟩)])] rfl rfl (fun h => by cases h) hn.out (by intro u hu; simp at hu; subst hu; rfl) (by unfold maxLen; omega) (by omega) (by have := hb.size; simp; omega) ?_)
      intro v' w2 hown2 hgrow
      have hfn2 := Lib.hid (step_fns hown'.out hgrow hfn.out hv.out)
      have hb2 := below_step hb hown.out hgrow
      have hown3 := Lib.hid hown2
      clear hown hown' hn hv hfn hgrow hown2
      go_wp2_with fail
      go_roundw
      case rel =>
        refine ⟨i + 1, _, by omega, by go_num, hown3, ?_, hb2⟩
        rw [htk.out]; exact hfn2
      case measure => simp [intOf]; omega
    · obtain rfl : i = T.length := by omega
      have hfin := Lib.hid (show FitsPost (T.map Ft.word) w (.returned _) wr from ⟨_, vs, rfl, by rw [List.length_map]; exact hown.out, by have := hfn.out; rwa [List.take_of_length_le (Nat.le_refl _)] at this, hb⟩)
      clear hown hfn hb
      go_wp2_with fail
      go_ret
      exact hfin.out
set_option maxHeartbeats 1000000 in
set_option maxRecDepth 100000 in
theorem kinds (A : Option Addr) (c : Nat) (T : List Int) (w : World) (hT : T.length ≤ 1000) (hA : IAt w A T) : Calls Tryz.prog 153 #[.slice A T.length c] w (FitsPost (T.map Ft.kind) w) := by
  obtain ⟨i0, hi0, hz0, hz1, hz2⟩ := info_parts infoFit
  have HA := Lib.hid hA
  clear hA
  go_enter Tryz.func153, Tryz.ntmps153
  go_wp2_with fail
  go_loopw [3, 8] (fun u3 u8 wr => ∃ (i : Nat) (vs : List Value), i ≤ T.length ∧ u8 = .int .i64 i ∧ Hid (wr.ownsRow w.heap.size 125 1 u3 i vs) ∧ Hid (FnsAt wr vs ((T.take i).map Ft.kind)) ∧ Below w.heap.size w wr) (fun _ u8 _ => T.length - (intOf u8).toNat)
  case atStart => exact ⟨0, [], by omega, rfl, Lib.hid (World.ownsRow_nil _ _ _ _), Lib.hid ⟨by simp, fun j v f h => by simp at h⟩, Below.refl _ _⟩
  case round =>
    obtain ⟨i, vs, hi, rfl, hown, hfn, hb⟩ := hrel
    by_cases hlt : i < T.length
    · obtain ⟨g, off, rfl, hg, hcell⟩ := (HA.out.below hb) (by omega)
      have hx := hcell i hlt
      have p1 : (0 : Int) ≤ i := by omega
      have p2 : (i : Int) < T.length := by omega
      clear hcell
      have hown' := Lib.hid ((hown.out.alloc (.cells #[.int .i64 T[i]] 3)).alloc (.cells #[(.func (.func 205) #[] #[.pointer (some ⟨wr.heap.size, 0, none⟩)])] 125))
      have hn := Lib.hid (new_two wr (.cells #[.int .i64 T[i]] 3) (.func (.func 205) #[] #[.pointer (some ⟨wr.heap.size, 0, none⟩)]))
      have hv : Hid (FnAt ((wr.alloc (.cells #[.int .i64 T[i]] 3)).alloc (.cells #[(.func (.func 205) #[] #[.pointer (some ⟨wr.heap.size, 0, none⟩)])] 125)) (.func (.func 205) #[] #[.pointer (some ⟨wr.heap.size, 0, none⟩)]) (Ft.kind T[i])) := Lib.hid ⟨wr.heap.size, box_heap wr _ _, rfl⟩
      have htk : Hid ((T.take (i + 1)).map Ft.kind = (T.take i).map Ft.kind ++ [Ft.kind T[i]]) := Lib.hid (by rw [List.take_succ_eq_append_getElem hlt, List.map_append]; rfl)
      go_wp2_with (at_builtin; refine SynC.wpList_append_from _ rfl _ _ 68 rfl w.heap.size 125 i0 .nilFunc 1 8 Tryz.underlying68 hi0 hz0 hz1 hz2 rfl (by decide) _ i vs rfl hown'.out (some ⟨wr.heap.size + 1, 0, none⟩) 1 1 [(.func (.func 205) #[] #[.pointer (some ⟨wr.heap.size, 0, none⟩)])] rfl rfl (fun h => by cases h) hn.out (by intro u hu; simp at hu; subst hu; rfl) (by unfold maxLen; omega) (by omega) (by have := hb.size; simp; omega) ?_)
      intro v' w2 hown2 hgrow
      have hfn2 := Lib.hid (step_fns hown'.out hgrow hfn.out hv.out)
      have hb2 := below_step hb hown.out hgrow
      have hown3 := Lib.hid hown2
      clear hown hown' hn hv hfn hgrow hown2
      go_wp2_with fail
      go_roundw
      case rel =>
        refine ⟨i + 1, _, by omega, by go_num, hown3, ?_, hb2⟩
        rw [htk.out]; exact hfn2
      case measure => simp [intOf]; omega
    · obtain rfl : i = T.length := by omega
      have hfin := Lib.hid (show FitsPost (T.map Ft.kind) w (.returned _) wr from ⟨_, vs, rfl, by rw [List.length_map]; exact hown.out, by have := hfn.out; rwa [List.take_of_length_le (Nat.le_refl _)] at this, hb⟩)
      clear hown hfn hb
      go_wp2_with fail
      go_ret
      exact hfin.out
end Go.Proofs.YtkmonmpfbchffaaGreat.Qry4
/- Which texts are names, by the document's answers. -/
namespace Go.Proofs.YtkmonmpfbchffaaGreat.RefN
set_option linter.unusedVariables false
set_option linter.unusedSimpArgs false
open Go.RowKit Go.Proofs.YtkmonmpfbchffaaGreat.Plain Go.Proofs.YtkmonmpfbchffaaGreat.Leaf Go.Proofs.YtkmonmpfbchffaaGreat.Named
theorem letter (n : Int) (w : World) : Calls Tryz.prog 216 #[.int .u8 n] w fun e w' => e = .returned (.bool (wordB n)) ∧ w = w' := by
  go_enter Tryz.func216, Tryz.ntmps216
  go_wp2
  all_goals go_ret
  all_goals refine ⟨ret_bool ?_, rfl⟩
  all_goals
    unfold wordB capB smallB digB
    rw [Bool.eq_iff_iff]
    simp
    omega
def between (lo hi n : Int) : Bool := decide (lo ≤ n ∧ n ≤ hi)
theorem is_ (s : ByteArray) (lo hi : Int) (w : World) (hs : s.size ≤ maxLen) :
    Calls Tryz.prog 171 #[.string s, .int .u8 lo, .int .u8 hi] w fun e w' => e = .returned (.bool (named (between lo hi) s.data.toList)) ∧ w = w' := by
  unfold maxLen at hs
  by_cases h1 : 0 < s.size
  · by_cases h8 : s.size ≤ 8
    · by_cases hlo : lo ≤ s[0].toNat
      · by_cases hhi : s[0].toNat ≤ hi
        · have Hc := Lib.hid (show between lo hi s[0].toNat = true from decide_eq_true ⟨hlo, hhi⟩)
          go_enter Tryz.func171, Tryz.ntmps171
          go_wp2_with fail
          go_loop [7] (fun i => ∃ k : Nat, k ≤ s.size ∧ i = .int .i64 k ∧ Hid (∀ j, (h : j < s.size) → j < k → wordB s[j].toNat = true)) (fun i => s.size - (intOf i).toNat)
          case atStart => exact ⟨0, by omega, rfl, Lib.hid fun j _ hj => by omega⟩
          case round =>
            obtain ⟨k, hk, rfl, hall⟩ := hrel
            by_cases hlt : k < s.size
            · cases hw : wordB s[k].toNat
              · have Hw := Lib.hid (named_bad (f := between lo hi) k hlt hw)
                clear hall
                go_wp2_with (go_at_call 216; refine (letter _ _).mono ?_; rintro e w' ⟨rfl, rfl⟩)
                go_ret
                exact ⟨ret_bool Hw.out.symm, rfl⟩
              · have hnext : Hid (∀ j, (h : j < s.size) → j < k + 1 → wordB s[j].toNat = true) := Lib.hid fun j h hj => by
                  by_cases e : j = k
                  · subst e; exact hw
                  · exact hall.out j h (by omega)
                clear hall
                go_wp2_with (go_at_call 216; refine (letter _ _).mono ?_; rintro e w' ⟨rfl, rfl⟩)
                go_round
                case rel => exact ⟨k + 1, by omega, by go_num, hnext⟩
                case measure => simp [intOf]; omega
            · go_wp2_with fail
              go_ret
              exact ⟨ret_bool (named_ok h1 h8 Hc.out (fun j h => hall.out j h (by omega))).symm, rfl⟩
        · have Hc := Lib.hid (named_head (f := between lo hi) h1 (decide_eq_false (fun h => hhi h.2)))
          go_enter Tryz.func171, Tryz.ntmps171
          go_wp2_with fail
          go_ret
          exact ⟨ret_bool Hc.out.symm, rfl⟩
      · have Hc := Lib.hid (named_head (f := between lo hi) h1 (decide_eq_false (fun h => hlo h.1)))
        go_enter Tryz.func171, Tryz.ntmps171
        go_wp2_with fail
        go_ret
        exact ⟨ret_bool Hc.out.symm, rfl⟩
    · go_enter Tryz.func171, Tryz.ntmps171
      go_wp2_with fail
      go_ret
      exact ⟨ret_bool (named_len (by omega)).symm, rfl⟩
  · go_enter Tryz.func171, Tryz.ntmps171
    go_wp2_with fail
    go_ret
    exact ⟨ret_bool (named_len (by omega)).symm, rfl⟩
theorem refIsPrin (s : ByteArray) (w : World) (hs : s.size ≤ maxLen) : Calls Tryz.prog 120 #[.string s] w fun e w' => e = .returned (.bool (named capB s.data.toList)) ∧ w = w' := by
  go_enter Tryz.func120, Tryz.ntmps120
  go_wp2_with (go_at_call 171; refine (is_ _ _ _ _ hs).mono ?_; rintro e w' ⟨rfl, rfl⟩)
  go_ret
  exact ⟨ret_bool (show named (between 65 90) _ = named capB _ from rfl), rfl⟩
theorem refIsName (s : ByteArray) (w : World) (hs : s.size ≤ maxLen) : Calls Tryz.prog 121 #[.string s] w fun e w' => e = .returned (.bool (named smallB s.data.toList)) ∧ w = w' := by
  go_enter Tryz.func121, Tryz.ntmps121
  go_wp2_with (go_at_call 171; refine (is_ _ _ _ _ hs).mono ?_; rintro e w' ⟨rfl, rfl⟩)
  go_ret
  exact ⟨ret_bool (show named (between 97 122) _ = named smallB _ from rfl), rfl⟩
end Go.Proofs.YtkmonmpfbchffaaGreat.RefN
