/- Two rows of the same tokens are alike. -/
import Derived.Test.YtcmdiomjhideiaaGreatDoorM02
import Derived.Test.YtcmdiomjhideiaaGreatDoorM01
import Derived.WalkKit
import Derived.Below
import Derived.Sort.Grow
import Derived.Shelf.SlSortCmp.QuietGrown
import Derived.Sort.Walk7
import Derived.Lib.AppendZeros
import Derived.OwnWalk
import Derived.WalkSpells
import Derived.Test.YtcmdiomjhideiaaGreatDoorShelf
import Derived.Outline
import Derived.WalkLawsBesides
import Derived.Deep.QuietTactic
import Derived.BigQuiet
import Derived.Sort.Walk0
import Derived.Deep.RegionHeld3
namespace Go.Proofs.YtcmdiomjhideiaaGreatDoor.Scan5
set_option linter.unusedVariables false
set_option linter.unusedSimpArgs false
open Go.RowKit Go.Proofs.YtcmdiomjhideiaaGreatDoor.Plain Go.Proofs.YtcmdiomjhideiaaGreatDoor.Leaf Go.Proofs.YtcmdiomjhideiaaGreatDoor.Scan1 Go.Proofs.YtcmdiomjhideiaaGreatDoor.Scan2 Go.Proofs.YtcmdiomjhideiaaGreatDoor.Scan3
/-- A slice value that reads as tokens. -/
def TkRow (w : World) (A : Option Addr) (L : List Tk) : Prop :=
  0 < L.length → ∃ g, A = some ⟨g, 0, none⟩ ∧ g < w.heap.size ∧ ∀ j, (h : j < L.length) → w.cell? ⟨g, j * 3, none⟩ = some (.int .i64 L[j].kind) ∧ w.cell? ⟨g, j * 3 + 1, none⟩ = some (.string L[j].text) ∧ w.cell? ⟨g, j * 3 + 2, none⟩ = some (.int .i64 L[j].col)
theorem tkCells_at (L : List Tk) (j : Nat) (h : j < L.length) : (tkCells L)[j * 3]? = some (.int .i64 L[j].kind) ∧ (tkCells L)[j * 3 + 1]? = some (.string L[j].text) ∧ (tkCells L)[j * 3 + 2]? = some (.int .i64 L[j].col) := by
  induction L generalizing j with
  | nil => simp at h
  | cons t L ih =>
    have e : tkCells (t :: L) = t.cells ++ tkCells L := by unfold tkCells; simp
    have hl : t.cells.length = 3 := rfl
    rw [e]
    cases j with
    | zero =>
      refine ⟨?_, ?_, ?_⟩ <;> rw [List.getElem?_append_left (by rw [hl]; omega)] <;> rfl
    | succ j =>
      obtain ⟨a, b, c⟩ := ih j (by simpa using h)
      refine ⟨?_, ?_, ?_⟩ <;> rw [List.getElem?_append_right (by rw [hl]; omega), hl]
      · rw [show (j + 1) * 3 - 3 = j * 3 from by omega]; exact a
      · rw [show (j + 1) * 3 + 1 - 3 = j * 3 + 1 from by omega]; exact b
      · rw [show (j + 1) * 3 + 2 - 3 = j * 3 + 2 from by omega]; exact c
theorem TkRow.of_own {w : World} {B : Nat} {e : TypeId} {v : Value} {L : List Tk} (h : w.ownsRow B e 3 v L.length (tkCells L)) : ∃ A cap, v = .slice A L.length cap ∧ L.length ≤ cap ∧ TkRow w A L := by
  rcases h.2 with ⟨rfl, h0⟩ | ⟨g, cap, cur, rfl, hB, hh, hc, hm, hs, ht⟩
  · exact ⟨none, 0, by rw [h0], by omega, fun hp => by omega⟩
  · refine ⟨_, _, rfl, hc, fun hp => ⟨g, rfl, ?_, fun j hj => ?_⟩⟩
    · exact (h.lt g rfl).2
    · obtain ⟨a, b, c⟩ := tkCells_at L j hj
      rw [← ht] at a b c
      rw [List.getElem?_take_of_lt (by omega)] at a b c
      refine ⟨?_, ?_, ?_⟩ <;> rw [Lib.cell_of_heap hh]
      · rw [← Array.getElem?_toList]; exact a
      · rw [← Array.getElem?_toList]; exact b
      · rw [← Array.getElem?_toList]; exact c
theorem TkRow.below {w w' : World} {A : Option Addr} {L : List Tk} (h : TkRow w A L) (hb : Below w.heap.size w w') : TkRow w' A L := fun hp => by
  obtain ⟨g, hA, hg, hc⟩ := h hp
  refine ⟨g, hA, Nat.lt_of_lt_of_le hg hb.size, fun j hj => ?_⟩
  obtain ⟨a, b, c⟩ := hc j hj
  exact ⟨(hb.cell (p := ⟨g, j * 3, none⟩) hg).trans a, (hb.cell (p := ⟨g, j * 3 + 1, none⟩) hg).trans b, (hb.cell (p := ⟨g, j * 3 + 2, none⟩) hg).trans c⟩
end Go.Proofs.YtcmdiomjhideiaaGreatDoor.Scan5
/- Worlds that are another one after some draws, with some blocks laid behind it; what such a world holds. -/
namespace Go.Proofs.YtcmdiomjhideiaaGreatDoor.Grown
set_option linter.unusedVariables false
set_option linter.unusedSimpArgs false
open Go.RowKit Go.Sort
/-- w' is w after some draws, with some blocks laid behind it. -/
def Grew (w w' : World) : Prop := ∃ p : GrownBy, w' = grow (w.drewN p.n) p.os
theorem Grew.refl (w : World) : Grew w w := ⟨⟨0, #[]⟩, by rw [grow_empty]; rfl⟩
theorem Grew.mk (w : World) (n : Nat) (os : Array Obj) : Grew w (grow (w.drewN n) os) := ⟨⟨n, os⟩, rfl⟩
theorem Grew.drewN {w w' : World} (h : Grew w w') (n : Nat) : Grew w (w'.drewN n) := by
  obtain ⟨⟨m, os⟩, rfl⟩ := h
  exact ⟨⟨m + n, os⟩, by show grow ((w.drewN m).drewN n) os = _; rw [World.drewN_drewN]⟩
theorem Grew.drew {w w' : World} (h : Grew w w') : Grew w w'.drew := h.drewN 1
theorem Grew.alloc {w w' : World} (h : Grew w w') (o : Obj) : Grew w (w'.alloc o) := by
  obtain ⟨⟨m, os⟩, rfl⟩ := h
  exact ⟨⟨m, os ++ #[o]⟩, by rw [alloc_eq_grow, grow_grow]⟩
theorem Grew.alloc_drew (w : World) (o : Obj) : Grew w.drew (w.alloc o).drew := (Grew.refl w.drew).alloc o
theorem Grew.trans {a b c : World} (h : Grew a b) (h2 : Grew b c) : Grew a c := by
  obtain ⟨⟨m, os⟩, rfl⟩ := h
  obtain ⟨⟨n, os2⟩, rfl⟩ := h2
  exact ⟨⟨m + n, os ++ os2⟩, by show grow (grow ((a.drewN m).drewN n) os) os2 = _; rw [grow_grow, World.drewN_drewN]⟩
theorem Grew.size {w w' : World} (h : Grew w w') : w.heap.size ≤ w'.heap.size := by
  obtain ⟨⟨m, os⟩, rfl⟩ := h
  simp
theorem Grew.cell {w w' : World} (h : Grew w w') {a : Addr} (ha : a.block < w.heap.size) : w'.cell? a = w.cell? a := by
  obtain ⟨⟨m, os⟩, rfl⟩ := h
  rw [cell?_grow _ _ _ (by exact ha)]; rfl
theorem Grew.frozen {w w' : World} (h : Grew w w') {a : Addr} (ha : a.block < w.heap.size) : w'.frozen? a = w.frozen? a := by
  obtain ⟨⟨m, os⟩, rfl⟩ := h
  rw [frozen?_grow _ _ _ (by exact ha)]; rfl
theorem Grew.cells {w w' : World} (h : Grew w w') : (∀ b o, b < w.heap.size → w'.cell? ⟨b, o, none⟩ = w.cell? ⟨b, o, none⟩) ∧ (∀ b o, b < w.heap.size → w'.frozen? ⟨b, o, none⟩ = w.frozen? ⟨b, o, none⟩) :=
  ⟨fun b o hb => h.cell (a := ⟨b, o, none⟩) hb, fun b o hb => h.frozen (a := ⟨b, o, none⟩) hb⟩
theorem Grew.use {w w' : World} (h : Grew w w') : (∀ b o, b < w.heap.size → w'.cell? ⟨b, o, none⟩ = w.cell? ⟨b, o, none⟩) ∧ (∀ b o, b < w.heap.size → w'.frozen? ⟨b, o, none⟩ = w.frozen? ⟨b, o, none⟩) ∧ w.heap.size ≤ w'.heap.size := ⟨h.cells.1, h.cells.2, h.size⟩
theorem Grew.below {w w' : World} (h : Grew w w') : Below w.heap.size w w' := by
  obtain ⟨⟨m, os⟩, rfl⟩ := h
  exact ⟨rfl, rfl, rfl, by simp, fun k hk => by rw [heap_grow_old _ _ (by exact hk)]; rfl⟩
theorem Grew.old {w w' : World} (h : Grew w w') {k : Nat} (hk : k < w.heap.size) : w'.heap[k]? = w.heap[k]? := h.below.block k hk
end Go.Proofs.YtcmdiomjhideiaaGreatDoor.Grown
/- What a world with blocks laid behind it holds; stores into it. -/
namespace Go.Proofs.YtcmdiomjhideiaaGreatDoor.Grown
set_option linter.unusedVariables false
set_option linter.unusedSimpArgs false
open Go.RowKit Go.Sort
theorem grow_cell (n : Nat) (os : Array Obj) : ∀ (X : World) (b i : Nat), b < X.heap.size → (grow (X.drewN n) os).cell? ⟨b, i, none⟩ = X.cell? ⟨b, i, none⟩ := fun X b i hb => by
  rw [cell?_grow _ _ _ (by exact hb)]; rfl
theorem grow_frozen (n : Nat) (os : Array Obj) : ∀ (X : World) (b i : Nat), b < X.heap.size → (grow (X.drewN n) os).frozen? ⟨b, i, none⟩ = X.frozen? ⟨b, i, none⟩ := fun X b i hb => by
  rw [frozen?_grow _ _ _ (by exact hb)]; rfl
theorem grow_size (n : Nat) (os : Array Obj) : ∀ X : World, (grow (X.drewN n) os).heap.size = X.heap.size + os.size := fun _ => size_grow _ _
theorem grewCall {P : Program} {f : FuncId} {args : Array Value} {w : World} {n : Nat} {os : Array Obj} {v : Value} (h : Calls P f args (grow (w.drewN n) os) fun e w' => e = .returned v ∧ Grew (grow (w.drewN n) os) w') : Calls P f args (grow (w.drewN n) os) fun e w'' => e = .returned v ∧ ∃ p : GrownBy, w'' = grow (w.drewN p.n) p.os :=
  h.mono fun _ _ ⟨he, hg⟩ => ⟨he, (Grew.mk w n os).trans hg⟩
end Go.Proofs.YtcmdiomjhideiaaGreatDoor.Grown
/- How many tokens are of the kinds of a shape; the place behind the last token. -/
namespace Go.Proofs.YtcmdiomjhideiaaGreatDoor.SynA
set_option linter.unusedVariables false
set_option linter.unusedSimpArgs false
open Go.RowKit Go.Sort Go.Proofs.YtcmdiomjhideiaaGreatDoor.Plain Go.Proofs.YtcmdiomjhideiaaGreatDoor.SynP Go.Proofs.YtcmdiomjhideiaaGreatDoor.SynQ Go.Proofs.YtcmdiomjhideiaaGreatDoor.Grown
set_option linter.unusedVariables false
/-- A slice value that reads as tokens, wherever it begins. -/
def TkAt (w : World) (A : Option Addr) (L : List Tk) : Prop :=
  0 < L.length → ∃ g o, A = some ⟨g, o, none⟩ ∧ g < w.heap.size ∧ ∀ j, (h : j < L.length) → w.cell? ⟨g, o + j * 3, none⟩ = some (.int .i64 L[j].kind) ∧ w.cell? ⟨g, o + j * 3 + 1, none⟩ = some (.string L[j].text) ∧ w.cell? ⟨g, o + j * 3 + 2, none⟩ = some (.int .i64 L[j].col)
/-- A slice value that reads as numbers. -/
def IAt (w : World) (A : Option Addr) (l : List Int) : Prop :=
  0 < l.length → ∃ g o, A = some ⟨g, o, none⟩ ∧ g < w.heap.size ∧ ∀ k, (h : k < l.length) → w.cell? ⟨g, o + k, none⟩ = some (.int .i64 l[k])
theorem TkAt.below {w w' : World} {A : Option Addr} {L : List Tk} (h : TkAt w A L) (hb : Below w.heap.size w w') : TkAt w' A L := fun hp => by
  obtain ⟨g, o, hA, hg, hc⟩ := h hp
  refine ⟨g, o, hA, Nat.lt_of_lt_of_le hg hb.size, fun j hj => ?_⟩
  obtain ⟨a, b, c⟩ := hc j hj
  exact ⟨(hb.cell (p := ⟨g, o + j * 3, none⟩) hg).trans a, (hb.cell (p := ⟨g, o + j * 3 + 1, none⟩) hg).trans b, (hb.cell (p := ⟨g, o + j * 3 + 2, none⟩) hg).trans c⟩
theorem IAt.below {w w' : World} {A : Option Addr} {l : List Int} (h : IAt w A l) (hb : Below w.heap.size w w') : IAt w' A l := fun hp => by
  obtain ⟨g, o, hA, hg, hc⟩ := h hp
  exact ⟨g, o, hA, Nat.lt_of_lt_of_le hg hb.size, fun k hk => (hb.cell (p := ⟨g, o + k, none⟩) hg).trans (hc k hk)⟩
theorem TkAt.of_row {w : World} {A : Option Addr} {L : List Tk} (h : Scan5.TkRow w A L) : TkAt w A L := fun hp => by
  obtain ⟨g, hA, hg, hc⟩ := h hp
  exact ⟨g, 0, hA, hg, fun j hj => by simpa using hc j hj⟩
end Go.Proofs.YtcmdiomjhideiaaGreatDoor.SynA
/- append of a slice that reads as cells, onto a row of the call's own; a copy of tokens. -/
namespace Go.Proofs.YtcmdiomjhideiaaGreatDoor.SynC
set_option linter.unusedVariables false
set_option linter.unusedSimpArgs false
open Go.RowKit Go.Sort Go.Proofs.YtcmdiomjhideiaaGreatDoor.Plain Go.Proofs.YtcmdiomjhideiaaGreatDoor.SynP Go.Proofs.YtcmdiomjhideiaaGreatDoor.SynQ Go.Proofs.YtcmdiomjhideiaaGreatDoor.Grown Go.Proofs.YtcmdiomjhideiaaGreatDoor.SynA Go.Proofs.YtcmdiomjhideiaaGreatDoor.Scan3
set_option linter.unusedVariables false
section
variable {P : Program} (w : World)
theorem run_append_from (base : Nat) (t ty e : TypeId) (i : TypeInfo) (z : Value) (size bytes : Nat) (ht : P.underlying t = some (.slice e)) (hi : P.info? e = some i) (hz : i.zero = some z)
    (hsize : i.size = size) (hby : i.bytes = bytes) (hzs : z.cells.size = size) (hsz : 0 < size) (v : Value) (n : Nat) (xs : List Value) (hown : w.ownsRow base e size v n xs)
    (A : Option Addr) (m c : Nat) (news : List Value) (hlen : news.length = m * size) (h0 : A = none → m = 0) (hA : ∀ ad, A = some ad → ∀ j u, news[j]? = some u → w.cell? (ad.add j) = some u) (h1 : ∀ u ∈ news, u.oneCell' = true)
    (h63 : n + m ≤ maxLen) (hbytes : (n + m) * bytes ≤ 140737488355328) (hbase : base ≤ w.heap.size) :
    ∃ v' w', (Builtin.append_ #[t, t] ty #[v, .slice A m c]).run P w = .ok v' w' ∧ w'.ownsRow base e size v' (n + m) (xs ++ news) ∧ w.grownBy w' v.ownBlock := by
  cases A with
  | none =>
    have hm := h0 rfl
    subst hm
    have hn : news = [] := List.eq_nil_of_length_eq_zero (by omega)
    subst hn
    refine ⟨v, w, ?_, by simpa using hown, World.grownBy.refl w _⟩
    rcases hown.2 with ⟨rfl, rfl⟩ | ⟨g, cap, cur, rfl, _, _, hnc, _⟩
    · simp [Builtin.append_, run_underlying ht, sizeOf, typeInfo, hi, Builtin.lenOf, Builtin.firstCells]
    · simp [Builtin.append_, run_underlying ht, sizeOf, typeInfo, hi, Builtin.lenOf, Builtin.firstCells, hnc, storeCells]
  | some ad =>
    obtain ⟨v', w', hrun, h2, h3, _⟩ := run_append_own (P := P) w base t ty e i z size bytes ht hi hz hsize hby hzs hsz v n xs hown ad m c news hlen (hA ad rfl) h1 h63 hbytes hbase
    exact ⟨v', w', hrun, h2, h3⟩
theorem wpList_append_from {ops : Array Oper} {rest : List Oper} {o : Oper} {a : Act} {Q : Exit → Act → World → Prop} (hgd : o.guard = none) (s x : Operand) (t : TypeId)
    (ho : o.op = .call { callee := .builtin .append, args := #[s, x], argTypes := #[t, t] })
    (base : Nat) (e : TypeId) (i : TypeInfo) (z : Value) (size bytes : Nat) (ht : P.underlying t = some (.slice e)) (hi : P.info? e = some i) (hz : i.zero = some z)
    (hsize : i.size = size) (hby : i.bytes = bytes) (hzs : z.cells.size = size) (hsz : 0 < size) (v : Value) (n : Nat) (xs : List Value) (hs : a.eval s = v) (hown : w.ownsRow base e size v n xs)
    (A : Option Addr) (m c : Nat) (news : List Value) (hx : a.eval x = .slice A m c) (hlen : news.length = m * size) (h0 : A = none → m = 0) (hA : ∀ ad, A = some ad → ∀ j u, news[j]? = some u → w.cell? (ad.add j) = some u) (h1 : ∀ u ∈ news, u.oneCell' = true)
    (h63 : n + m ≤ maxLen) (hbytes : (n + m) * bytes ≤ 140737488355328) (hbase : base ≤ w.heap.size)
    (h : ∀ v' w', w'.ownsRow base e size v' (n + m) (xs ++ news) → w.grownBy w' v.ownBlock → wpList P ops Q rest (a.put o.dst v') w') : wpList P ops Q (o :: rest) a w := by
  obtain ⟨v', w', hrun, h2, h3⟩ := run_append_from (P := P) w base t o.type e i z size bytes ht hi hz hsize hby hzs hsz v n xs hown A m c news hlen h0 hA h1 h63 hbytes hbase
  exact Lib.wpList_append_run w hgd s x t t ho v _ hs hx v' w' hrun (h v' w' h2 h3)
end
theorem add_off (b off j : Nat) : ((⟨b, off, none⟩ : Addr).add j) = ⟨b, off + j, none⟩ := by
  unfold Addr.add
  split
  · rename_i h; subst h; rfl
  · simp
theorem own_empty (w : World) (t : TypeId) (size : Nat) : (w.alloc (.cells #[] t)).ownsRow w.heap.size t size (.slice (some ⟨w.heap.size, 0, none⟩) 0 0) 0 [] := by
  refine ⟨by simp, .inr ⟨w.heap.size, 0, #[], rfl, Nat.le_refl _, heap_alloc_new w _, by omega, ?_⟩⟩
  simp
end Go.Proofs.YtcmdiomjhideiaaGreatDoor.SynC
/- Which texts are names, by the document's answers. -/
namespace Go.Proofs.YtcmdiomjhideiaaGreatDoor.RefN
set_option linter.unusedVariables false
set_option linter.unusedSimpArgs false
open Go.RowKit Go.Proofs.YtcmdiomjhideiaaGreatDoor.Plain Go.Proofs.YtcmdiomjhideiaaGreatDoor.Leaf Go.Proofs.YtcmdiomjhideiaaGreatDoor.Named
theorem letter (n : Int) (w : World) : Calls Tryz.prog 202 #[.int .u8 n] w fun e w' => e = .returned (.bool (wordB n)) ∧ w = w' := by
  go_enter Tryz.func202, Tryz.ntmps202
  go_wp2
  all_goals go_ret
  all_goals refine ⟨ret_bool ?_, rfl⟩
  all_goals
    unfold wordB capB smallB digB
    rw [Bool.eq_iff_iff]
    simp
    omega
def between (lo hi n : Int) : Bool := decide (lo ≤ n ∧ n ≤ hi)
theorem is_ (s : ByteArray) (lo hi : Int) (w : World) (hs : s.size ≤ maxLen) :
    Calls Tryz.prog 156 #[.string s, .int .u8 lo, .int .u8 hi] w fun e w' => e = .returned (.bool (named (between lo hi) s.data.toList)) ∧ w = w' := by
  unfold maxLen at hs
  by_cases h1 : 0 < s.size
  · by_cases h8 : s.size ≤ 8
    · by_cases hlo : lo ≤ s[0].toNat
      · by_cases hhi : s[0].toNat ≤ hi
        · have Hc := Lib.hid (show between lo hi s[0].toNat = true from decide_eq_true ⟨hlo, hhi⟩)
          go_enter Tryz.func156, Tryz.ntmps156
          go_wp2_with fail
          go_loop [7] (fun i => ∃ k : Nat, k ≤ s.size ∧ i = .int .i64 k ∧ Hid (∀ j, (h : j < s.size) → j < k → wordB s[j].toNat = true)) (fun i => s.size - (intOf i).toNat)
          case atStart => exact ⟨0, by omega, rfl, Lib.hid fun j _ hj => by omega⟩
          case round =>
            obtain ⟨k, hk, rfl, hall⟩ := hrel
            by_cases hlt : k < s.size
            · cases hw : wordB s[k].toNat
              · have Hw := Lib.hid (named_bad (f := between lo hi) k hlt hw)
                clear hall
                go_wp2_with (go_at_call 202; refine (letter _ _).mono ?_; rintro e w' ⟨rfl, rfl⟩)
                go_ret
                exact ⟨ret_bool Hw.out.symm, rfl⟩
              · have hnext : Hid (∀ j, (h : j < s.size) → j < k + 1 → wordB s[j].toNat = true) := Lib.hid fun j h hj => by
                  by_cases e : j = k
                  · subst e; exact hw
                  · exact hall.out j h (by omega)
                clear hall
                go_wp2_with (go_at_call 202; refine (letter _ _).mono ?_; rintro e w' ⟨rfl, rfl⟩)
                go_round
                case rel => exact ⟨k + 1, by omega, by go_num, hnext⟩
                case measure => simp [intOf]; omega
            · go_wp2_with fail
              go_ret
              exact ⟨ret_bool (named_ok h1 h8 Hc.out (fun j h => hall.out j h (by omega))).symm, rfl⟩
        · have Hc := Lib.hid (named_head (f := between lo hi) h1 (decide_eq_false (fun h => hhi h.2)))
          go_enter Tryz.func156, Tryz.ntmps156
          go_wp2_with fail
          go_ret
          exact ⟨ret_bool Hc.out.symm, rfl⟩
      · have Hc := Lib.hid (named_head (f := between lo hi) h1 (decide_eq_false (fun h => hlo h.1)))
        go_enter Tryz.func156, Tryz.ntmps156
        go_wp2_with fail
        go_ret
        exact ⟨ret_bool Hc.out.symm, rfl⟩
    · go_enter Tryz.func156, Tryz.ntmps156
      go_wp2_with fail
      go_ret
      exact ⟨ret_bool (named_len (by omega)).symm, rfl⟩
  · go_enter Tryz.func156, Tryz.ntmps156
    go_wp2_with fail
    go_ret
    exact ⟨ret_bool (named_len (by omega)).symm, rfl⟩
theorem refIsPrin (s : ByteArray) (w : World) (hs : s.size ≤ maxLen) : Calls Tryz.prog 115 #[.string s] w fun e w' => e = .returned (.bool (named capB s.data.toList)) ∧ w = w' := by
  go_enter Tryz.func115, Tryz.ntmps115
  go_wp2_with (go_at_call 156; refine (is_ _ _ _ _ hs).mono ?_; rintro e w' ⟨rfl, rfl⟩)
  go_ret
  exact ⟨ret_bool (show named (between 65 90) _ = named capB _ from rfl), rfl⟩
theorem refIsName (s : ByteArray) (w : World) (hs : s.size ≤ maxLen) : Calls Tryz.prog 120 #[.string s] w fun e w' => e = .returned (.bool (named smallB s.data.toList)) ∧ w = w' := by
  go_enter Tryz.func120, Tryz.ntmps120
  go_wp2_with (go_at_call 156; refine (is_ _ _ _ _ hs).mono ?_; rintro e w' ⟨rfl, rfl⟩)
  go_ret
  exact ⟨ret_bool (show named (between 97 122) _ = named smallB _ from rfl), rfl⟩
end Go.Proofs.YtcmdiomjhideiaaGreatDoor.RefN
/- Roles: which are right, their texts, how two stand. -/
namespace Go.Proofs.YtcmdiomjhideiaaGreatDoor.Syn1
set_option linter.unusedVariables false
set_option linter.unusedSimpArgs false
open Go.RowKit Go.Sort Go.Proofs Go.Proofs.YtcmdiomjhideiaaGreatDoor.Plain Go.Proofs.YtcmdiomjhideiaaGreatDoor.SynP Go.Proofs.YtcmdiomjhideiaaGreatDoor.Named Go.Proofs.YtcmdiomjhideiaaGreatDoor.RefN Go.Proofs.YtcmdiomjhideiaaGreatDoor.Grown
theorem isRole (r : Rl) (w : World) (h : r.light) : Calls Tryz.prog 154 #[r.val] w fun e w' => e = .returned (.bool r.ok) ∧ Grew w w' := by
  obtain ⟨o, n⟩ := r
  obtain ⟨h1, h2⟩ := h
  simp only at h1 h2
  cases e1 : named capB o.data.toList
  all_goals
    have He := Lib.hid e1
    clear e1
    unfold Rl.val
    go_enter Tryz.func154, Tryz.ntmps154
    go_wp2_with (first | (go_at_call 198; refine (isPrin _ _ h1).mono ?_; rintro e w' ⟨rfl, rfl⟩; rw [He.out]) | (go_at_call 199; refine (isName _ _ h2).mono ?_; rintro e w' ⟨rfl, rfl⟩))
    go_ret
    exact ⟨ret_bool (by unfold Rl.ok; simp only [He.out]; rfl), (Grew.refl _).alloc _⟩
theorem isRoleRef (r : Rl) (w : World) (h : r.light) : Calls Tryz.prog 66 #[r.val] w fun e w' => e = .returned (.bool r.ok) ∧ Grew w w' := by
  obtain ⟨o, n⟩ := r
  obtain ⟨h1, h2⟩ := h
  simp only at h1 h2
  cases e1 : named capB o.data.toList
  all_goals
    have He := Lib.hid e1
    clear e1
    unfold Rl.val
    go_enter Tryz.func66, Tryz.ntmps66
    go_wp2_with (first | (go_at_call 115; refine (refIsPrin _ _ h1).mono ?_; rintro e w' ⟨rfl, rfl⟩; rw [He.out]) | (go_at_call 120; refine (refIsName _ _ h2).mono ?_; rintro e w' ⟨rfl, rfl⟩))
    go_ret
    exact ⟨ret_bool (by unfold Rl.ok; simp only [He.out]; rfl), (Grew.refl _).alloc _⟩
theorem isNaN (a : ByteArray) (w : World) : Calls Tryz.prog 259 #[.string a] w fun e w' => e = .returned (.bool false) ∧ w = w' := by
  go_enter Tryz.func259, Tryz.ntmps259
  go_wp2
  go_ret
  exact ⟨rfl, rfl⟩
theorem less_eq (a b : ByteArray) : Op.bytesLess a.toList b.toList = strLt a b := by
  rw [bytesLess_eq, Go.ByteArray.toList_eq, Go.ByteArray.toList_eq]; rfl
theorem same_eq (a b : ByteArray) : (a.toList == b.toList) = decide (a = b) := by
  rw [Bool.eq_iff_iff, decide_eq_true_iff, beq_iff_eq, Go.ByteArray.toList_eq, Go.ByteArray.toList_eq]
  exact ⟨ba_ext, fun h => by rw [h]⟩
theorem compareS (a b : ByteArray) (w : World) : Calls Tryz.prog 262 #[.string a, .string b] w fun e w' => e = .returned (.int .i64 (cmpB a b)) ∧ w = w' := by
  cases h1 : strLt a b
  · cases h2 : strLt b a
    · have H : Hid (cmpB a b = 0) := Lib.hid (by unfold cmpB; rw [h1, h2]; rfl)
      have h3 : (a.toList == b.toList) = true := by rw [same_eq]; exact decide_eq_true (strLt_total h1 h2)
      rw [← less_eq] at h1 h2
      go_enter Tryz.func262, Tryz.ntmps262
      go_wp2_with (go_at_call 259; refine (isNaN _ _).mono ?_; rintro e w' ⟨rfl, rfl⟩)
      go_ret
      exact ⟨ret_int H.out.symm, rfl⟩
    · have H : Hid (cmpB a b = 1) := Lib.hid (by unfold cmpB; rw [h1, h2]; rfl)
      have h3 : (a.toList == b.toList) = false := by rw [same_eq]; exact decide_eq_false (by rintro rfl; rw [strLt_irrefl] at h2; cases h2)
      rw [← less_eq] at h1 h2
      go_enter Tryz.func262, Tryz.ntmps262
      go_wp2_with (go_at_call 259; refine (isNaN _ _).mono ?_; rintro e w' ⟨rfl, rfl⟩)
      go_ret
      exact ⟨ret_int H.out.symm, rfl⟩
  · have H : Hid (cmpB a b = -1) := Lib.hid (by unfold cmpB; rw [h1]; rfl)
    rw [← less_eq] at h1
    go_enter Tryz.func262, Tryz.ntmps262
    go_wp2_with (go_at_call 259; refine (isNaN _ _).mono ?_; rintro e w' ⟨rfl, rfl⟩)
    go_ret
    exact ⟨ret_int H.out.symm, rfl⟩
theorem compareN (a b : Int) (w : World) : Calls Tryz.prog 209 #[.int .i64 a, .int .i64 b] w fun e w' => e = .returned (.int .i64 (cmpN a b)) ∧ w = w' :=
  (Tryz.cmp_Compare_int a b w).mono fun _ _ ⟨he, hw⟩ => ⟨he, hw.symm⟩
/-- The first that isn't 0, of a row of numbers. -/
def IRow (w : World) (g : Nat) (l : List Int) : Prop := g < w.heap.size ∧ ∀ k, (h : k < l.length) → w.cell? ⟨g, k, none⟩ = some (.int .i64 l[k])
theorem orL_skip {l : List Int} {k : Nat} (h : k < l.length) (h0 : l[k] = 0) : orL (l.drop k) = orL (l.drop (k + 1)) := by
  rw [List.drop_eq_getElem_cons h]; simp [orL, h0]
theorem orL_stop {l : List Int} {k : Nat} (h : k < l.length) (h0 : l[k] ≠ 0) : orL (l.drop k) = l[k] := by
  rw [List.drop_eq_getElem_cons h]; simp [orL, h0]
theorem or_ (g cap : Nat) (l : List Int) (w : World) (hl : l.length ≤ 1000) (hr : IRow w g l) : Calls Tryz.prog 208 #[.slice (some ⟨g, 0, none⟩) l.length cap] w fun e w' => e = .returned (.int .i64 (orL l)) ∧ w = w' := by
  go_enter Tryz.func208, Tryz.ntmps208
  go_wp2
  go_loop [8] (fun i => ∃ k : Nat, k ≤ l.length ∧ i = .int .i64 k ∧ Hid (orL l = orL (l.drop k))) (fun i => l.length - (intOf i).toNat)
  case atStart => exact ⟨0, by omega, rfl, Lib.hid (by simp)⟩
  case round =>
    obtain ⟨k, hk, rfl, hrun⟩ := hrel
    by_cases hlt : k < l.length
    · have hc := hr.2 k hlt
      by_cases h0 : l[k] = 0
      · have hnext : Hid (orL l = orL (l.drop (k + 1))) := Lib.hid (by rw [hrun.out, orL_skip hlt h0])
        rw [h0] at hc
        clear hrun h0
        go_wp2_with fail
        go_round
        case rel => exact ⟨k + 1, by omega, by go_num, hnext⟩
        case measure => simp [intOf]; omega
      · have hfin : Hid (orL l = l[k]) := Lib.hid (by rw [hrun.out, orL_stop hlt h0])
        have h1 : (l[k] != 0) = true := by simpa using h0
        clear hrun h0
        go_wp2_with fail
        go_ret
        exact ⟨ret_int hfin.out.symm, rfl⟩
    · have hfin : Hid (orL l = 0) := Lib.hid (by rw [hrun.out, List.drop_of_length_le (by omega)]; rfl)
      clear hrun
      go_wp2_with fail
      go_ret
      exact ⟨ret_int hfin.out.symm, rfl⟩
end Go.Proofs.YtcmdiomjhideiaaGreatDoor.Syn1
/- How two roles, and two statements, stand: orderRoles, Less, Order. -/
namespace Go.Proofs.YtcmdiomjhideiaaGreatDoor.Syn2
set_option linter.unusedVariables false
set_option linter.unusedSimpArgs false
open Go.RowKit Go.Sort Go.Proofs Go.Proofs.YtcmdiomjhideiaaGreatDoor.Plain Go.Proofs.YtcmdiomjhideiaaGreatDoor.SynP Go.Proofs.YtcmdiomjhideiaaGreatDoor.Named Go.Proofs.YtcmdiomjhideiaaGreatDoor.RefN Go.Proofs.YtcmdiomjhideiaaGreatDoor.Grown Go.Proofs.YtcmdiomjhideiaaGreatDoor.Syn1
theorem keep2 {W w1 w2 : World} {n : Nat} {f g : Nat → Option Value} (h : Grew W w1 ∧ (∀ o, w1.cell? ⟨n, o, none⟩ = f o) ∧ (∀ o, w1.cell? ⟨n + 1, o, none⟩ = g o)) (hn : n + 1 < W.heap.size) (hg : Grew w1 w2) :
    Grew W w2 ∧ (∀ o, w2.cell? ⟨n, o, none⟩ = f o) ∧ (∀ o, w2.cell? ⟨n + 1, o, none⟩ = g o) := by
  have hs := h.1.size
  exact ⟨h.1.trans hg, fun o => (hg.cell (a := ⟨n, o, none⟩) (by show n < _; omega)).trans (h.2.1 o), fun o => (hg.cell (a := ⟨n + 1, o, none⟩) (by show n + 1 < _; omega)).trans (h.2.2 o)⟩
theorem start2 (w : World) (A B : Array Value) (t : TypeId) : Grew ((w.alloc (.cells A t)).alloc (.cells B t)) ((w.alloc (.cells A t)).alloc (.cells B t)).drew ∧ (∀ o, ((w.alloc (.cells A t)).alloc (.cells B t)).drew.cell? ⟨w.heap.size, o, none⟩ = A[o]?) ∧ (∀ o, ((w.alloc (.cells A t)).alloc (.cells B t)).drew.cell? ⟨w.heap.size + 1, o, none⟩ = B[o]?) := by
  refine ⟨(Grew.refl _).drew, fun o => ?_, fun o => ?_⟩
  · exact (((Grew.refl (w.alloc (.cells A t))).alloc (.cells B t)).drew.cell (a := ⟨w.heap.size, o, none⟩) (by simp)).trans (Lib.cell_of_heap (heap_alloc_new w _) o)
  · have := Lib.cell_of_heap (heap_alloc_new (w.alloc (.cells A t)) (.cells B t)) o
    rw [← this]; simp
theorem irow_new (w : World) (l : List Int) (t : TypeId) {n : Nat} (hn : n = w.heap.size) : IRow (w.alloc (.cells (l.map (Value.int .i64)).toArray t)).drew n l := by
  subst hn
  exact ⟨by simp, fun k hk => by
    have := Lib.cell_of_heap (heap_alloc_new w (.cells (l.map (Value.int .i64)).toArray t)) k
    show (w.alloc _).cell? _ = _
    rw [this]; simp [hk]⟩
theorem irow_new0 (w : World) (l : List Int) (t : TypeId) {n : Nat} (hn : n = w.heap.size) : IRow (w.alloc (.cells (l.map (Value.int .i64)).toArray t)) n l := by
  subst hn
  exact ⟨by simp, fun k hk => by
    rw [Lib.cell_of_heap (heap_alloc_new w (.cells (l.map (Value.int .i64)).toArray t)) k]; simp [hk]⟩
set_option maxRecDepth 100000 in
theorem orderRoles (r s : Rl) (w : World) : Calls Tryz.prog 261 #[r.val, s.val] w fun e w' => e = .returned (.int .i64 (cmpR r s)) ∧ Grew w w' := by
  obtain ⟨o1, n1⟩ := r
  obtain ⟨o2, n2⟩ := s
  have hor : ∀ (w' : World) (n : Nat), n = w'.heap.size → Calls Tryz.prog 208 #[.slice (some ⟨n, 0, none⟩) 2 2] (w'.alloc (.cells #[.int .i64 (cmpB o1 o2), .int .i64 (cmpB n1 n2)] 3)).drew fun e w2 => e = .returned (.int .i64 (cmpR ⟨o1, n1⟩ ⟨o2, n2⟩)) ∧ (w'.alloc (.cells #[.int .i64 (cmpB o1 o2), .int .i64 (cmpB n1 n2)] 3)).drew = w2 := fun w' n hn =>
    or_ n 2 [cmpB o1 o2, cmpB n1 n2] _ (by simp) (irow_new w' [cmpB o1 o2, cmpB n1 n2] _ hn)
  have Hor := Lib.hid hor
  clear hor
  generalize cmpR ⟨o1, n1⟩ ⟨o2, n2⟩ = res at *
  unfold Rl.val
  go_enter Tryz.func261, Tryz.ntmps261
  go_wp2
  have hst := start2 w #[.string o1, .string n1] #[.string o2, .string n2] 28
  go_region_held3 (fun w' => Grew ((w.alloc (.cells #[.string o1, .string n1] 28)).alloc (.cells #[.string o2, .string n2] 28)) w' ∧ (∀ o, w'.cell? ⟨w.heap.size, o, none⟩ = (#[.string o1, .string n1] : Array Value)[o]?) ∧ (∀ o, w'.cell? ⟨w.heap.size + 1, o, none⟩ = (#[.string o2, .string n2] : Array Value)[o]?))
    (first | exact hst | assumption | exact keep2 (by assumption) (by simp) (Grew.alloc_drew _ _))
    (first | (go_at_call 262; refine (compareS _ _ _).mono ?_; rintro e w' ⟨rfl, rfl⟩) | (go_at_call 208; refine (Hor.out _ _ (by simp)).mono ?_; rintro e w' ⟨rfl, rfl⟩))
  rename_i hHeld
  go_wp2
  go_ret
  exact ⟨rfl, (((Grew.refl _).alloc _).alloc _).trans hHeld.1⟩
theorem less (r s : Rl) (w : World) : Calls Tryz.prog 253 #[r.val, s.val] w fun e w' => e = .returned (.bool (decide (cmpR r s < 0))) ∧ Grew w w' := by
  obtain ⟨o1, n1⟩ := r
  obtain ⟨o2, n2⟩ := s
  have H := Lib.hid (orderRoles ⟨o1, n1⟩ ⟨o2, n2⟩)
  generalize cmpR ⟨o1, n1⟩ ⟨o2, n2⟩ = res at *
  unfold Rl.val at *
  go_enter Tryz.func253, Tryz.ntmps253
  go_wp2_with (go_at_call 261; refine (H.out _).mono ?_; rintro e w' ⟨rfl, hg⟩)
  go_ret
  exact ⟨rfl, (((Grew.refl _).alloc _).alloc _).trans hg⟩
theorem rl_eq {r s : Rl} (h : r.owner = s.owner) (h2 : r.name = s.name) : r = s := by cases r; cases s; simp_all
theorem orL_cons0 (l : List Int) : orL (0 :: l) = orL l := by simp [orL]
theorem orL_cons1 {x : Int} (l : List Int) (h : x ≠ 0) : orL (x :: l) = x := by simp [orL, h]
theorem orL_one (x : Int) : orL [x] = x := by
  by_cases h : x = 0
  · subst h; rfl
  · exact orL_cons1 [] h
theorem cmpR_lt {r s : Rl} : (decide (cmpR r s < 0) : Bool) = if r.owner ≠ s.owner then strLt r.owner s.owner else strLt r.name s.name := by
  unfold cmpR
  by_cases h : r.owner = s.owner
  · rw [if_neg (fun e => e h), h, cmpB_eq.2 rfl, orL_cons0, orL_one, Bool.eq_iff_iff, decide_eq_true_iff, cmpB_lt]
  · rw [orL_cons1 _ (fun e => h (cmpB_eq.1 e)), if_pos h, Bool.eq_iff_iff, decide_eq_true_iff, cmpB_lt]
theorem lessRef (r s : Rl) (w : World) : Calls Tryz.prog 103 #[r.val, s.val] w fun e w' => e = .returned (.bool (decide (cmpR r s < 0))) ∧ Grew w w' := by
  obtain ⟨o1, n1⟩ := r
  obtain ⟨o2, n2⟩ := s
  have H := Lib.hid (cmpR_lt (r := ⟨o1, n1⟩) (s := ⟨o2, n2⟩))
  by_cases h : o1 = o2
  · have e1 : (o1.toList == o2.toList) = true := by rw [same_eq]; exact decide_eq_true h
    have H2 := Lib.hid (H.out.trans (if_neg (by simpa using h)))
    clear h
    unfold Rl.val at *
    go_enter Tryz.func103, Tryz.ntmps103
    go_wp2
    go_ret
    exact ⟨ret_bool (by rw [H2.out]; exact less_eq _ _), ((Grew.refl _).alloc _).alloc _⟩
  · have e1 : (o1.toList == o2.toList) = false := by rw [same_eq]; exact decide_eq_false h
    have H2 := Lib.hid (H.out.trans (if_pos h))
    clear h
    unfold Rl.val at *
    go_enter Tryz.func103, Tryz.ntmps103
    go_wp2
    go_ret
    exact ⟨ret_bool (by rw [H2.out]; exact less_eq _ _), ((Grew.refl _).alloc _).alloc _⟩
end Go.Proofs.YtcmdiomjhideiaaGreatDoor.Syn2
/- How two statements stand: Order, and the document's Before. -/
namespace Go.Proofs.YtcmdiomjhideiaaGreatDoor.Syn3
set_option linter.unusedVariables false
set_option linter.unusedSimpArgs false
open Go.RowKit Go.Sort Go.Proofs Go.Proofs.YtcmdiomjhideiaaGreatDoor.Plain Go.Proofs.YtcmdiomjhideiaaGreatDoor.SynP Go.Proofs.YtcmdiomjhideiaaGreatDoor.Grown Go.Proofs.YtcmdiomjhideiaaGreatDoor.Syn1 Go.Proofs.YtcmdiomjhideiaaGreatDoor.Syn2
theorem orderRoles' (o1 n1 o2 n2 : ByteArray) (w : World) : Calls Tryz.prog 261 #[.agg #[.string o1, .string n1], .agg #[.string o2, .string n2]] w fun e w' => e = .returned (.int .i64 (cmpR ⟨o1, n1⟩ ⟨o2, n2⟩)) ∧ Grew w w' := orderRoles ⟨o1, n1⟩ ⟨o2, n2⟩ w
set_option maxRecDepth 100000 in
set_option maxHeartbeats 1000000 in
theorem order (s t : St) (w : World) : Calls Tryz.prog 228 #[s.val, t.val] w fun e w' => e = .returned (.int .i64 (cmpS s t)) ∧ Grew w w' := by
  obtain ⟨k1, ⟨ho1, hn1⟩, wh1, ⟨ao1, an1⟩, ⟨bo1, bn1⟩, v1⟩ := s
  obtain ⟨k2, ⟨ho2, hn2⟩, wh2, ⟨ao2, an2⟩, ⟨bo2, bn2⟩, v2⟩ := t
  have hor : ∀ (w' : World) (n : Nat), n = w'.heap.size → Calls Tryz.prog 208 #[.slice (some ⟨n, 0, none⟩) 6 6] (w'.alloc (.cells #[.int .i64 (cmpR ⟨ho1, hn1⟩ ⟨ho2, hn2⟩), .int .i64 (cmpN k1 k2), .int .i64 (cmpB wh1 wh2), .int .i64 (cmpR ⟨ao1, an1⟩ ⟨ao2, an2⟩), .int .i64 (cmpR ⟨bo1, bn1⟩ ⟨bo2, bn2⟩), .int .i64 (cmpB v1 v2)] 3)) fun e w2 => e = .returned (.int .i64 (cmpS ⟨k1, ⟨ho1, hn1⟩, wh1, ⟨ao1, an1⟩, ⟨bo1, bn1⟩, v1⟩ ⟨k2, ⟨ho2, hn2⟩, wh2, ⟨ao2, an2⟩, ⟨bo2, bn2⟩, v2⟩)) ∧ (w'.alloc (.cells #[.int .i64 (cmpR ⟨ho1, hn1⟩ ⟨ho2, hn2⟩), .int .i64 (cmpN k1 k2), .int .i64 (cmpB wh1 wh2), .int .i64 (cmpR ⟨ao1, an1⟩ ⟨ao2, an2⟩), .int .i64 (cmpR ⟨bo1, bn1⟩ ⟨bo2, bn2⟩), .int .i64 (cmpB v1 v2)] 3)) = w2 := fun w' n hn =>
    or_ n 6 [cmpR ⟨ho1, hn1⟩ ⟨ho2, hn2⟩, cmpN k1 k2, cmpB wh1 wh2, cmpR ⟨ao1, an1⟩ ⟨ao2, an2⟩, cmpR ⟨bo1, bn1⟩ ⟨bo2, bn2⟩, cmpB v1 v2] _ (by simp) (irow_new0 w' [cmpR ⟨ho1, hn1⟩ ⟨ho2, hn2⟩, cmpN k1 k2, cmpB wh1 wh2, cmpR ⟨ao1, an1⟩ ⟨ao2, an2⟩, cmpR ⟨bo1, bn1⟩ ⟨bo2, bn2⟩, cmpB v1 v2] _ hn)
  have Hor := Lib.hid hor
  clear hor
  generalize cmpS ⟨k1, ⟨ho1, hn1⟩, wh1, ⟨ao1, an1⟩, ⟨bo1, bn1⟩, v1⟩ ⟨k2, ⟨ho2, hn2⟩, wh2, ⟨ao2, an2⟩, ⟨bo2, bn2⟩, v2⟩ = res at *
  unfold St.val
  go_enter Tryz.func228, Tryz.ntmps228
  go_wp2
  have hst := start2 w #[.int .i64 k1, .string ho1, .string hn1, .string wh1, .string ao1, .string an1, .string bo1, .string bn1, .string v1] #[.int .i64 k2, .string ho2, .string hn2, .string wh2, .string ao2, .string an2, .string bo2, .string bn2, .string v2] 55
  go_region_held3 (fun w' => Grew ((w.alloc (.cells #[.int .i64 k1, .string ho1, .string hn1, .string wh1, .string ao1, .string an1, .string bo1, .string bn1, .string v1] 55)).alloc (.cells #[.int .i64 k2, .string ho2, .string hn2, .string wh2, .string ao2, .string an2, .string bo2, .string bn2, .string v2] 55)) w' ∧ (∀ o, w'.cell? ⟨w.heap.size, o, none⟩ = (#[.int .i64 k1, .string ho1, .string hn1, .string wh1, .string ao1, .string an1, .string bo1, .string bn1, .string v1] : Array Value)[o]?) ∧ (∀ o, w'.cell? ⟨w.heap.size + 1, o, none⟩ = (#[.int .i64 k2, .string ho2, .string hn2, .string wh2, .string ao2, .string an2, .string bo2, .string bn2, .string v2] : Array Value)[o]?))
    (first | exact hst | assumption | exact keep2 (by assumption) (by simp) (by assumption) | exact keep2 (by assumption) (by simp) ((Grew.refl _).alloc _))
    (first | (go_at_call 262; ((with_reducible refine (compareS _ _ _).mono ?_); rintro e w' ⟨rfl, rfl⟩)) | (go_at_call 209; ((with_reducible refine (compareN _ _ _).mono ?_); rintro e w' ⟨rfl, rfl⟩)) | (go_at_call 208; refine (Hor.out _ _ (by simp)).mono ?_; rintro e w' ⟨rfl, rfl⟩) | (go_at_call 261; ((with_reducible refine (orderRoles' _ _ _ _ _).mono ?_); rintro e w' ⟨rfl, hg⟩)))
  rename_i hHeld
  go_wp2
  go_ret
  exact ⟨rfl, (((Grew.refl _).alloc _).alloc _).trans hHeld.1⟩
/-- Two roles: of other owners, of one owner and other names, or one. -/
theorem rl_cases (o1 n1 o2 n2 : ByteArray) : (o1 ≠ o2) ∨ (o1 = o2 ∧ n1 ≠ n2) ∨ (o1 = o2 ∧ n1 = n2) := by
  by_cases h : o1 = o2
  · by_cases h2 : n1 = n2
    · exact .inr (.inr ⟨h, h2⟩)
    · exact .inr (.inl ⟨h, h2⟩)
  · exact .inl h
theorem toList_ne {a b : ByteArray} (h : a ≠ b) : ¬ a.toList = b.toList := by
  rw [Go.ByteArray.toList_eq, Go.ByteArray.toList_eq]; exact fun e => h (ba_ext e)
theorem toList_neb {a b : ByteArray} (h : a ≠ b) : (a.toList == b.toList) = false := by rw [same_eq]; exact decide_eq_false h
theorem cmpR_eq {r s : Rl} : cmpR r s = 0 ↔ r = s := by
  unfold cmpR
  constructor
  · intro h
    by_cases h1 : cmpB r.owner s.owner = 0
    · rw [h1, orL_cons0, orL_one] at h
      exact rl_eq (cmpB_eq.1 h1) (cmpB_eq.1 h)
    · rw [orL_cons1 _ h1] at h; exact absurd h h1
  · rintro rfl; rw [cmpB_eq.2 rfl, orL_cons0, orL_one, cmpB_eq.2 rfl]
theorem cmpR_ne {r s : Rl} (h : r ≠ s) : cmpR r s ≠ 0 := fun e => h (cmpR_eq.1 e)
theorem cmpN_eq {a b : Int} : cmpN a b = 0 ↔ a = b := by
  unfold cmpN
  split
  · constructor <;> intro h <;> omega
  · split <;> (constructor <;> intro h <;> omega)
theorem cmpN_lt {a b : Int} : cmpN a b < 0 ↔ a < b := by
  unfold cmpN
  split
  · constructor <;> intro h <;> omega
  · split <;> (constructor <;> intro h <;> omega)
theorem cmpN_same (a : Int) : cmpN a a = 0 := cmpN_eq.2 rfl
theorem cmpB_same (a : ByteArray) : cmpB a a = 0 := cmpB_eq.2 rfl
theorem cmpR_same (a : Rl) : cmpR a a = 0 := cmpR_eq.2 rfl
theorem lessRef' (o1 n1 o2 n2 : ByteArray) (w : World) : Calls Tryz.prog 103 #[.agg #[.string o1, .string n1], .agg #[.string o2, .string n2]] w fun e w' => e = .returned (.bool (decide (cmpR ⟨o1, n1⟩ ⟨o2, n2⟩ < 0))) ∧ Grew w w' := lessRef ⟨o1, n1⟩ ⟨o2, n2⟩ w
theorem dec_lt {a b : Int} {p : Bool} (h : a = b) (h2 : b < 0 ↔ p = true) : decide (a < 0) = p := by
  rw [h, Bool.eq_iff_iff, decide_eq_true_iff]; exact h2
set_option maxRecDepth 100000 in
theorem b_head1 (k1 k2 : Int) (ho1 hn1 wh1 ao1 an1 bo1 bn1 v1 ho2 hn2 wh2 ao2 an2 bo2 bn2 v2 : ByteArray) (w : World) (h : ¬ ho1.toList = ho2.toList) :
    Calls Tryz.prog 121 #[.agg #[.int .i64 k1, .string ho1, .string hn1, .string wh1, .string ao1, .string an1, .string bo1, .string bn1, .string v1], .agg #[.int .i64 k2, .string ho2, .string hn2, .string wh2, .string ao2, .string an2, .string bo2, .string bn2, .string v2]] w fun e w' => e = .returned (.bool (decide (cmpR ⟨ho1, hn1⟩ ⟨ho2, hn2⟩ < 0))) ∧ Grew w w' := by
  generalize hres : (decide (cmpR ⟨ho1, hn1⟩ ⟨ho2, hn2⟩ < 0) : Bool) = res
  have Hc := Lib.hid (fun w => lessRef' ho1 hn1 ho2 hn2 w)
  rw [hres] at Hc
  clear hres
  go_enter Tryz.func121, Tryz.ntmps121
  go_wp2_with (go_at_call 103; refine (Hc.out _).mono ?_; rintro e w' ⟨rfl, hg⟩)
  go_ret
  exact ⟨rfl, (((Grew.refl _).alloc _).alloc _).trans hg⟩
set_option maxRecDepth 100000 in
theorem b_head2 (k1 k2 : Int) (ho1 hn1 wh1 ao1 an1 bo1 bn1 v1 hn2 wh2 ao2 an2 bo2 bn2 v2 : ByteArray) (w : World) (h : ¬ hn1.toList = hn2.toList) :
    Calls Tryz.prog 121 #[.agg #[.int .i64 k1, .string ho1, .string hn1, .string wh1, .string ao1, .string an1, .string bo1, .string bn1, .string v1], .agg #[.int .i64 k2, .string ho1, .string hn2, .string wh2, .string ao2, .string an2, .string bo2, .string bn2, .string v2]] w fun e w' => e = .returned (.bool (decide (cmpR ⟨ho1, hn1⟩ ⟨ho1, hn2⟩ < 0))) ∧ Grew w w' := by
  generalize hres : (decide (cmpR ⟨ho1, hn1⟩ ⟨ho1, hn2⟩ < 0) : Bool) = res
  have Hc := Lib.hid (fun w => lessRef' ho1 hn1 ho1 hn2 w)
  rw [hres] at Hc
  clear hres
  go_enter Tryz.func121, Tryz.ntmps121
  go_wp2_with (go_at_call 103; refine (Hc.out _).mono ?_; rintro e w' ⟨rfl, hg⟩)
  go_ret
  exact ⟨rfl, (((Grew.refl _).alloc _).alloc _).trans hg⟩
set_option maxRecDepth 100000 in
theorem b_kind (k1 k2 : Int) (ho1 hn1 wh1 ao1 an1 bo1 bn1 v1 wh2 ao2 an2 bo2 bn2 v2 : ByteArray) (w : World) (h : (k1 != k2) = true) :
    Calls Tryz.prog 121 #[.agg #[.int .i64 k1, .string ho1, .string hn1, .string wh1, .string ao1, .string an1, .string bo1, .string bn1, .string v1], .agg #[.int .i64 k2, .string ho1, .string hn1, .string wh2, .string ao2, .string an2, .string bo2, .string bn2, .string v2]] w fun e w' => e = .returned (.bool (decide (k1 < k2))) ∧ Grew w w' := by
  go_enter Tryz.func121, Tryz.ntmps121
  go_wp2
  go_ret
  exact ⟨rfl, ((Grew.refl _).alloc _).alloc _⟩
set_option maxRecDepth 100000 in
theorem b_who (k1 : Int) (ho1 hn1 wh1 ao1 an1 bo1 bn1 v1 wh2 ao2 an2 bo2 bn2 v2 : ByteArray) (w : World) (h : (wh1.toList == wh2.toList) = false) :
    Calls Tryz.prog 121 #[.agg #[.int .i64 k1, .string ho1, .string hn1, .string wh1, .string ao1, .string an1, .string bo1, .string bn1, .string v1], .agg #[.int .i64 k1, .string ho1, .string hn1, .string wh2, .string ao2, .string an2, .string bo2, .string bn2, .string v2]] w fun e w' => e = .returned (.bool (Op.bytesLess wh1.toList wh2.toList)) ∧ Grew w w' := by
  go_enter Tryz.func121, Tryz.ntmps121
  go_wp2
  go_ret
  exact ⟨rfl, ((Grew.refl _).alloc _).alloc _⟩
set_option maxRecDepth 100000 in
theorem b_a1 (k1 : Int) (ho1 hn1 wh1 ao1 an1 bo1 bn1 v1 ao2 an2 bo2 bn2 v2 : ByteArray) (w : World) (h : ¬ ao1.toList = ao2.toList) :
    Calls Tryz.prog 121 #[.agg #[.int .i64 k1, .string ho1, .string hn1, .string wh1, .string ao1, .string an1, .string bo1, .string bn1, .string v1], .agg #[.int .i64 k1, .string ho1, .string hn1, .string wh1, .string ao2, .string an2, .string bo2, .string bn2, .string v2]] w fun e w' => e = .returned (.bool (decide (cmpR ⟨ao1, an1⟩ ⟨ao2, an2⟩ < 0))) ∧ Grew w w' := by
  generalize hres : (decide (cmpR ⟨ao1, an1⟩ ⟨ao2, an2⟩ < 0) : Bool) = res
  have Hc := Lib.hid (fun w => lessRef' ao1 an1 ao2 an2 w)
  rw [hres] at Hc
  clear hres
  go_enter Tryz.func121, Tryz.ntmps121
  go_wp2_with (go_at_call 103; refine (Hc.out _).mono ?_; rintro e w' ⟨rfl, hg⟩)
  go_ret
  exact ⟨rfl, (((Grew.refl _).alloc _).alloc _).trans hg⟩
set_option maxRecDepth 100000 in
theorem b_a2 (k1 : Int) (ho1 hn1 wh1 ao1 an1 bo1 bn1 v1 an2 bo2 bn2 v2 : ByteArray) (w : World) (h : ¬ an1.toList = an2.toList) :
    Calls Tryz.prog 121 #[.agg #[.int .i64 k1, .string ho1, .string hn1, .string wh1, .string ao1, .string an1, .string bo1, .string bn1, .string v1], .agg #[.int .i64 k1, .string ho1, .string hn1, .string wh1, .string ao1, .string an2, .string bo2, .string bn2, .string v2]] w fun e w' => e = .returned (.bool (decide (cmpR ⟨ao1, an1⟩ ⟨ao1, an2⟩ < 0))) ∧ Grew w w' := by
  generalize hres : (decide (cmpR ⟨ao1, an1⟩ ⟨ao1, an2⟩ < 0) : Bool) = res
  have Hc := Lib.hid (fun w => lessRef' ao1 an1 ao1 an2 w)
  rw [hres] at Hc
  clear hres
  go_enter Tryz.func121, Tryz.ntmps121
  go_wp2_with (go_at_call 103; refine (Hc.out _).mono ?_; rintro e w' ⟨rfl, hg⟩)
  go_ret
  exact ⟨rfl, (((Grew.refl _).alloc _).alloc _).trans hg⟩
set_option maxRecDepth 100000 in
theorem b_b1 (k1 : Int) (ho1 hn1 wh1 ao1 an1 bo1 bn1 v1 bo2 bn2 v2 : ByteArray) (w : World) (h : ¬ bo1.toList = bo2.toList) :
    Calls Tryz.prog 121 #[.agg #[.int .i64 k1, .string ho1, .string hn1, .string wh1, .string ao1, .string an1, .string bo1, .string bn1, .string v1], .agg #[.int .i64 k1, .string ho1, .string hn1, .string wh1, .string ao1, .string an1, .string bo2, .string bn2, .string v2]] w fun e w' => e = .returned (.bool (decide (cmpR ⟨bo1, bn1⟩ ⟨bo2, bn2⟩ < 0))) ∧ Grew w w' := by
  generalize hres : (decide (cmpR ⟨bo1, bn1⟩ ⟨bo2, bn2⟩ < 0) : Bool) = res
  have Hc := Lib.hid (fun w => lessRef' bo1 bn1 bo2 bn2 w)
  rw [hres] at Hc
  clear hres
  go_enter Tryz.func121, Tryz.ntmps121
  go_wp2_with (go_at_call 103; refine (Hc.out _).mono ?_; rintro e w' ⟨rfl, hg⟩)
  go_ret
  exact ⟨rfl, (((Grew.refl _).alloc _).alloc _).trans hg⟩
set_option maxRecDepth 100000 in
theorem b_b2 (k1 : Int) (ho1 hn1 wh1 ao1 an1 bo1 bn1 v1 bn2 v2 : ByteArray) (w : World) (h : ¬ bn1.toList = bn2.toList) :
    Calls Tryz.prog 121 #[.agg #[.int .i64 k1, .string ho1, .string hn1, .string wh1, .string ao1, .string an1, .string bo1, .string bn1, .string v1], .agg #[.int .i64 k1, .string ho1, .string hn1, .string wh1, .string ao1, .string an1, .string bo1, .string bn2, .string v2]] w fun e w' => e = .returned (.bool (decide (cmpR ⟨bo1, bn1⟩ ⟨bo1, bn2⟩ < 0))) ∧ Grew w w' := by
  generalize hres : (decide (cmpR ⟨bo1, bn1⟩ ⟨bo1, bn2⟩ < 0) : Bool) = res
  have Hc := Lib.hid (fun w => lessRef' bo1 bn1 bo1 bn2 w)
  rw [hres] at Hc
  clear hres
  go_enter Tryz.func121, Tryz.ntmps121
  go_wp2_with (go_at_call 103; refine (Hc.out _).mono ?_; rintro e w' ⟨rfl, hg⟩)
  go_ret
  exact ⟨rfl, (((Grew.refl _).alloc _).alloc _).trans hg⟩
set_option maxRecDepth 100000 in
theorem b_via (k1 : Int) (ho1 hn1 wh1 ao1 an1 bo1 bn1 v1 v2 : ByteArray) (w : World)  :
    Calls Tryz.prog 121 #[.agg #[.int .i64 k1, .string ho1, .string hn1, .string wh1, .string ao1, .string an1, .string bo1, .string bn1, .string v1], .agg #[.int .i64 k1, .string ho1, .string hn1, .string wh1, .string ao1, .string an1, .string bo1, .string bn1, .string v2]] w fun e w' => e = .returned (.bool (Op.bytesLess v1.toList v2.toList)) ∧ Grew w w' := by
  go_enter Tryz.func121, Tryz.ntmps121
  go_wp2
  go_ret
  exact ⟨rfl, ((Grew.refl _).alloc _).alloc _⟩
theorem before (s t : St) (w : World) : Calls Tryz.prog 121 #[s.val, t.val] w fun e w' => e = .returned (.bool (decide (cmpS s t < 0))) ∧ Grew w w' := by
  obtain ⟨k1, ⟨ho1, hn1⟩, wh1, ⟨ao1, an1⟩, ⟨bo1, bn1⟩, v1⟩ := s
  obtain ⟨k2, ⟨ho2, hn2⟩, wh2, ⟨ao2, an2⟩, ⟨bo2, bn2⟩, v2⟩ := t
  have key : ∀ {p q : Bool}, p = q → ∀ {w' : World}, Calls Tryz.prog 121 #[St.val ⟨k1, ⟨ho1, hn1⟩, wh1, ⟨ao1, an1⟩, ⟨bo1, bn1⟩, v1⟩, St.val ⟨k2, ⟨ho2, hn2⟩, wh2, ⟨ao2, an2⟩, ⟨bo2, bn2⟩, v2⟩] w (fun e w' => e = .returned (.bool p) ∧ Grew w w') → Calls Tryz.prog 121 #[St.val ⟨k1, ⟨ho1, hn1⟩, wh1, ⟨ao1, an1⟩, ⟨bo1, bn1⟩, v1⟩, St.val ⟨k2, ⟨ho2, hn2⟩, wh2, ⟨ao2, an2⟩, ⟨bo2, bn2⟩, v2⟩] w (fun e w' => e = .returned (.bool q) ∧ Grew w w') := by
    rintro p q rfl _ h; exact h
  unfold cmpS
  rcases rl_cases ho1 hn1 ho2 hn2 with h | ⟨rfl, h⟩ | ⟨rfl, rfl⟩
  · exact key (by rw [orL_cons1]; exact cmpR_ne (fun e => h (congrArg Rl.owner e))) (w' := w) (b_head1 _ _ _ _ _ _ _ _ _ _ _ _ _ _ _ _ _ _ _ (toList_ne h))
  · exact key (by rw [orL_cons1]; exact cmpR_ne (fun e => h (congrArg Rl.name e))) (w' := w) (b_head2 _ _ _ _ _ _ _ _ _ _ _ _ _ _ _ _ _ _ (toList_ne h))
  simp only [cmpR_same, orL_cons0]
  by_cases h : k1 = k2
  rotate_left
  · exact key (by rw [orL_cons1 _ (fun e => h (cmpN_eq.1 e))]; exact (dec_lt rfl (by rw [cmpN_lt, decide_eq_true_iff])).symm) (w' := w) (b_kind _ _ _ _ _ _ _ _ _ _ _ _ _ _ _ _ _ (by simpa using h))
  subst h
  simp only [cmpN_same, orL_cons0]
  by_cases h : wh1 = wh2
  rotate_left
  · exact key (by rw [orL_cons1 _ (fun e => h (cmpB_eq.1 e)), less_eq]; exact (dec_lt rfl cmpB_lt).symm) (w' := w) (b_who _ _ _ _ _ _ _ _ _ _ _ _ _ _ _ _ (toList_neb h))
  subst h
  simp only [cmpB_same, orL_cons0]
  rcases rl_cases ao1 an1 ao2 an2 with h | ⟨rfl, h⟩ | ⟨rfl, rfl⟩
  · exact key (by rw [orL_cons1]; exact cmpR_ne (fun e => h (congrArg Rl.owner e))) (w' := w) (b_a1 _ _ _ _ _ _ _ _ _ _ _ _ _ _ _ (toList_ne h))
  · exact key (by rw [orL_cons1]; exact cmpR_ne (fun e => h (congrArg Rl.name e))) (w' := w) (b_a2 _ _ _ _ _ _ _ _ _ _ _ _ _ _ (toList_ne h))
  simp only [cmpR_same, orL_cons0]
  rcases rl_cases bo1 bn1 bo2 bn2 with h | ⟨rfl, h⟩ | ⟨rfl, rfl⟩
  · exact key (by rw [orL_cons1]; exact cmpR_ne (fun e => h (congrArg Rl.owner e))) (w' := w) (b_b1 _ _ _ _ _ _ _ _ _ _ _ _ _ (toList_ne h))
  · exact key (by rw [orL_cons1]; exact cmpR_ne (fun e => h (congrArg Rl.name e))) (w' := w) (b_b2 _ _ _ _ _ _ _ _ _ _ _ _ (toList_ne h))
  simp only [cmpR_same, orL_cons0, orL_one]
  exact key (by rw [less_eq]; exact (dec_lt rfl cmpB_lt).symm) (w' := w) (b_via _ _ _ _ _ _ _ _ _ _ _)
end Go.Proofs.YtcmdiomjhideiaaGreatDoor.Syn3
