/- Plain mathematics: the tokens of a line are good ones; the tokens of words that stand one behind the other. -/
import Derived.Test.YtblapgfilbmdhaaGreatDoorM02
import Derived.Test.YtblapgfilbmdhaaGreatDoorM03
import Derived.Test.YtblapgfilbmdhaaGreatDoorM01
import Derived.WalkKit
import Derived.Below
import Derived.Sort.Grow
import Derived.Shelf.SlSortCmp.QuietGrown
import Derived.Sort.Walk7
import Derived.Lib.AppendZeros
import Derived.OwnWalk
import Derived.WalkSpells
import Derived.Test.YtblapgfilbmdhaaGreatDoorShelf
import Derived.Outline
import Derived.WalkLawsBesides
import Derived.Deep.QuietTactic
import Derived.BigQuiet
import Derived.Sort.Walk0
import Derived.Deep.RegionHeld3
set_option linter.unusedVariables false
set_option linter.unusedSimpArgs false
namespace Go.Proofs.YtblapgfilbmdhaaGreatDoor.SynR
open Go.RowKit Plain SynP SynQ Scan1 Scan2 Scan3 Scan4
end Go.Proofs.YtblapgfilbmdhaaGreatDoor.SynR
namespace Go.Proofs.YtblapgfilbmdhaaGreatDoor.SynW
open Go.RowKit Plain SynP SynQ Scan1 Scan2 Scan3 Scan4 SynR
end Go.Proofs.YtblapgfilbmdhaaGreatDoor.SynW
namespace Go.Proofs.YtblapgfilbmdhaaGreatDoor.Scan5
open Go.RowKit Plain Leaf Scan1 Scan2 Scan3
def TkRow (w : World) (A : Option Addr) (L : List Tk) : Prop :=
  0 < L.length → ∃ g, A = some ⟨g, 0, none⟩ ∧ g < w.heap.size ∧ ∀ j, (h : j < L.length) → w.cell? ⟨g, j * 3, none⟩ = some (.int .i64 L[j].kind) ∧ w.cell? ⟨g, j * 3 + 1, none⟩ = some (.string L[j].text) ∧ w.cell? ⟨g, j * 3 + 2, none⟩ = some (.int .i64 L[j].col)
theorem tkCells_at (L : List Tk) (j : Nat) (h : j < L.length) : (tkCells L)[j * 3]? = some (.int .i64 L[j].kind) ∧ (tkCells L)[j * 3 + 1]? = some (.string L[j].text) ∧ (tkCells L)[j * 3 + 2]? = some (.int .i64 L[j].col) := by
  induction L generalizing j with
  | nil => simp at h
  | cons t L ih =>
    have e : tkCells (t :: L) = t.cells ++ tkCells L := by unfold tkCells; simp
    have hl : t.cells.length = 3 := rfl
    rw [e]
    cases j with
    | zero =>
      refine ⟨?_, ?_, ?_⟩ <;> rw [List.getElem?_append_left (by rw [hl]; omega)] <;> rfl
    | succ j =>
      obtain ⟨a, b, c⟩ := ih j (by simpa using h)
      refine ⟨?_, ?_, ?_⟩ <;> rw [List.getElem?_append_right (by rw [hl]; omega), hl]
      · rw [show (j + 1) * 3 - 3 = j * 3 from by omega]; exact a
      · rw [show (j + 1) * 3 + 1 - 3 = j * 3 + 1 from by omega]; exact b
      · rw [show (j + 1) * 3 + 2 - 3 = j * 3 + 2 from by omega]; exact c
theorem TkRow.of_own {w : World} {B : Nat} {e : TypeId} {v : Value} {L : List Tk} (h : w.ownsRow B e 3 v L.length (tkCells L)) : ∃ A cap, v = .slice A L.length cap ∧ L.length ≤ cap ∧ TkRow w A L := by
  rcases h.2 with ⟨rfl, h0⟩ | ⟨g, cap, cur, rfl, hB, hh, hc, hm, hs, ht⟩
  · exact ⟨none, 0, by rw [h0], by omega, fun hp => by omega⟩
  · refine ⟨_, _, rfl, hc, fun hp => ⟨g, rfl, ?_, fun j hj => ?_⟩⟩
    · exact (h.lt g rfl).2
    · obtain ⟨a, b, c⟩ := tkCells_at L j hj
      rw [← ht] at a b c
      rw [List.getElem?_take_of_lt (by omega)] at a b c
      refine ⟨?_, ?_, ?_⟩ <;> rw [Lib.cell_of_heap hh]
      · rw [← Array.getElem?_toList]; exact a
      · rw [← Array.getElem?_toList]; exact b
      · rw [← Array.getElem?_toList]; exact c
theorem TkRow.below {w w' : World} {A : Option Addr} {L : List Tk} (h : TkRow w A L) (hb : Below w.heap.size w w') : TkRow w' A L := fun hp => by
  obtain ⟨g, hA, hg, hc⟩ := h hp
  refine ⟨g, hA, Nat.lt_of_lt_of_le hg hb.size, fun j hj => ?_⟩
  obtain ⟨a, b, c⟩ := hc j hj
  exact ⟨(hb.cell (p := ⟨g, j * 3, none⟩) hg).trans a, (hb.cell (p := ⟨g, j * 3 + 1, none⟩) hg).trans b, (hb.cell (p := ⟨g, j * 3 + 2, none⟩) hg).trans c⟩
end Go.Proofs.YtblapgfilbmdhaaGreatDoor.Scan5
namespace Go.Proofs.YtblapgfilbmdhaaGreatDoor.Grown
open Go.RowKit Go.Sort
def Grew (w w' : World) : Prop := ∃ p : GrownBy, w' = grow (w.drewN p.n) p.os
theorem Grew.refl (w : World) : Grew w w := ⟨⟨0, #[]⟩, by rw [grow_empty]; rfl⟩
theorem Grew.mk (w : World) (n : Nat) (os : Array Obj) : Grew w (grow (w.drewN n) os) := ⟨⟨n, os⟩, rfl⟩
theorem Grew.drewN {w w' : World} (h : Grew w w') (n : Nat) : Grew w (w'.drewN n) := by
  obtain ⟨⟨m, os⟩, rfl⟩ := h
  exact ⟨⟨m + n, os⟩, by show grow ((w.drewN m).drewN n) os = _; rw [World.drewN_drewN]⟩
theorem Grew.drew {w w' : World} (h : Grew w w') : Grew w w'.drew := h.drewN 1
theorem Grew.alloc {w w' : World} (h : Grew w w') (o : Obj) : Grew w (w'.alloc o) := by
  obtain ⟨⟨m, os⟩, rfl⟩ := h
  exact ⟨⟨m, os ++ #[o]⟩, by rw [alloc_eq_grow, grow_grow]⟩
theorem Grew.alloc_drew (w : World) (o : Obj) : Grew w.drew (w.alloc o).drew := (Grew.refl w.drew).alloc o
theorem Grew.trans {a b c : World} (h : Grew a b) (h2 : Grew b c) : Grew a c := by
  obtain ⟨⟨m, os⟩, rfl⟩ := h
  obtain ⟨⟨n, os2⟩, rfl⟩ := h2
  exact ⟨⟨m + n, os ++ os2⟩, by show grow (grow ((a.drewN m).drewN n) os) os2 = _; rw [grow_grow, World.drewN_drewN]⟩
theorem Grew.size {w w' : World} (h : Grew w w') : w.heap.size ≤ w'.heap.size := by
  obtain ⟨⟨m, os⟩, rfl⟩ := h
  simp
theorem Grew.cell {w w' : World} (h : Grew w w') {a : Addr} (ha : a.block < w.heap.size) : w'.cell? a = w.cell? a := by
  obtain ⟨⟨m, os⟩, rfl⟩ := h
  rw [cell?_grow _ _ _ (by exact ha)]; rfl
theorem Grew.frozen {w w' : World} (h : Grew w w') {a : Addr} (ha : a.block < w.heap.size) : w'.frozen? a = w.frozen? a := by
  obtain ⟨⟨m, os⟩, rfl⟩ := h
  rw [frozen?_grow _ _ _ (by exact ha)]; rfl
theorem Grew.cells {w w' : World} (h : Grew w w') : (∀ b o, b < w.heap.size → w'.cell? ⟨b, o, none⟩ = w.cell? ⟨b, o, none⟩) ∧ (∀ b o, b < w.heap.size → w'.frozen? ⟨b, o, none⟩ = w.frozen? ⟨b, o, none⟩) :=
  ⟨fun b o hb => h.cell (a := ⟨b, o, none⟩) hb, fun b o hb => h.frozen (a := ⟨b, o, none⟩) hb⟩
theorem Grew.use {w w' : World} (h : Grew w w') : (∀ b o, b < w.heap.size → w'.cell? ⟨b, o, none⟩ = w.cell? ⟨b, o, none⟩) ∧ (∀ b o, b < w.heap.size → w'.frozen? ⟨b, o, none⟩ = w.frozen? ⟨b, o, none⟩) ∧ w.heap.size ≤ w'.heap.size := ⟨h.cells.1, h.cells.2, h.size⟩
theorem Grew.below {w w' : World} (h : Grew w w') : Below w.heap.size w w' := by
  obtain ⟨⟨m, os⟩, rfl⟩ := h
  exact ⟨rfl, rfl, rfl, by simp, fun k hk => by rw [heap_grow_old _ _ (by exact hk)]; rfl⟩
theorem Grew.old {w w' : World} (h : Grew w w') {k : Nat} (hk : k < w.heap.size) : w'.heap[k]? = w.heap[k]? := h.below.block k hk
end Go.Proofs.YtblapgfilbmdhaaGreatDoor.Grown
namespace Go.Proofs.YtblapgfilbmdhaaGreatDoor.Grown
open Go.RowKit Go.Sort
theorem grow_cell (n : Nat) (os : Array Obj) : ∀ (X : World) (b i : Nat), b < X.heap.size → (grow (X.drewN n) os).cell? ⟨b, i, none⟩ = X.cell? ⟨b, i, none⟩ := fun X b i hb => by
  rw [cell?_grow _ _ _ (by exact hb)]; rfl
theorem grow_frozen (n : Nat) (os : Array Obj) : ∀ (X : World) (b i : Nat), b < X.heap.size → (grow (X.drewN n) os).frozen? ⟨b, i, none⟩ = X.frozen? ⟨b, i, none⟩ := fun X b i hb => by
  rw [frozen?_grow _ _ _ (by exact hb)]; rfl
theorem grow_size (n : Nat) (os : Array Obj) : ∀ X : World, (grow (X.drewN n) os).heap.size = X.heap.size + os.size := fun _ => size_grow _ _
theorem grewCall {P : Program} {f : FuncId} {args : Array Value} {w : World} {n : Nat} {os : Array Obj} {v : Value} (h : Calls P f args (grow (w.drewN n) os) fun e w' => e = .returned v ∧ Grew (grow (w.drewN n) os) w') : Calls P f args (grow (w.drewN n) os) fun e w'' => e = .returned v ∧ ∃ p : GrownBy, w'' = grow (w.drewN p.n) p.os :=
  h.mono fun _ _ ⟨he, hg⟩ => ⟨he, (Grew.mk w n os).trans hg⟩
end Go.Proofs.YtblapgfilbmdhaaGreatDoor.Grown
namespace Go.Proofs.YtblapgfilbmdhaaGreatDoor.SynA
open Go.RowKit Go.Sort Plain SynP SynQ Grown
def TkAt (w : World) (A : Option Addr) (L : List Tk) : Prop :=
  0 < L.length → ∃ g o, A = some ⟨g, o, none⟩ ∧ g < w.heap.size ∧ ∀ j, (h : j < L.length) → w.cell? ⟨g, o + j * 3, none⟩ = some (.int .i64 L[j].kind) ∧ w.cell? ⟨g, o + j * 3 + 1, none⟩ = some (.string L[j].text) ∧ w.cell? ⟨g, o + j * 3 + 2, none⟩ = some (.int .i64 L[j].col)
def IAt (w : World) (A : Option Addr) (l : List Int) : Prop :=
  0 < l.length → ∃ g o, A = some ⟨g, o, none⟩ ∧ g < w.heap.size ∧ ∀ k, (h : k < l.length) → w.cell? ⟨g, o + k, none⟩ = some (.int .i64 l[k])
theorem TkAt.below {w w' : World} {A : Option Addr} {L : List Tk} (h : TkAt w A L) (hb : Below w.heap.size w w') : TkAt w' A L := fun hp => by
  obtain ⟨g, o, hA, hg, hc⟩ := h hp
  refine ⟨g, o, hA, Nat.lt_of_lt_of_le hg hb.size, fun j hj => ?_⟩
  obtain ⟨a, b, c⟩ := hc j hj
  exact ⟨(hb.cell (p := ⟨g, o + j * 3, none⟩) hg).trans a, (hb.cell (p := ⟨g, o + j * 3 + 1, none⟩) hg).trans b, (hb.cell (p := ⟨g, o + j * 3 + 2, none⟩) hg).trans c⟩
theorem IAt.below {w w' : World} {A : Option Addr} {l : List Int} (h : IAt w A l) (hb : Below w.heap.size w w') : IAt w' A l := fun hp => by
  obtain ⟨g, o, hA, hg, hc⟩ := h hp
  exact ⟨g, o, hA, Nat.lt_of_lt_of_le hg hb.size, fun k hk => (hb.cell (p := ⟨g, o + k, none⟩) hg).trans (hc k hk)⟩
theorem TkAt.of_row {w : World} {A : Option Addr} {L : List Tk} (h : Scan5.TkRow w A L) : TkAt w A L := fun hp => by
  obtain ⟨g, hA, hg, hc⟩ := h hp
  exact ⟨g, 0, hA, hg, fun j hj => by simpa using hc j hj⟩
end Go.Proofs.YtblapgfilbmdhaaGreatDoor.SynA
namespace Go.Proofs.YtblapgfilbmdhaaGreatDoor.SynC
open Go.RowKit Go.Sort Plain SynP SynQ Grown SynA Scan3
section
variable {P : Program} (w : World)
theorem run_append_from (base : Nat) (t ty e : TypeId) (i : TypeInfo) (z : Value) (size bytes : Nat) (ht : P.underlying t = some (.slice e)) (hi : P.info? e = some i) (hz : i.zero = some z)
    (hsize : i.size = size) (hby : i.bytes = bytes) (hzs : z.cells.size = size) (hsz : 0 < size) (v : Value) (n : Nat) (xs : List Value) (hown : w.ownsRow base e size v n xs)
    (A : Option Addr) (m c : Nat) (news : List Value) (hlen : news.length = m * size) (h0 : A = none → m = 0) (hA : ∀ ad, A = some ad → ∀ j u, news[j]? = some u → w.cell? (ad.add j) = some u) (h1 : ∀ u ∈ news, u.oneCell' = true)
    (h63 : n + m ≤ maxLen) (hbytes : (n + m) * bytes ≤ 140737488355328) (hbase : base ≤ w.heap.size) :
    ∃ v' w', (Builtin.append_ #[t, t] ty #[v, .slice A m c]).run P w = .ok v' w' ∧ w'.ownsRow base e size v' (n + m) (xs ++ news) ∧ w.grownBy w' v.ownBlock := by
  cases A with
  | none =>
    have hm := h0 rfl
    subst hm
    have hn : news = [] := List.eq_nil_of_length_eq_zero (by omega)
    subst hn
    refine ⟨v, w, ?_, by simpa using hown, World.grownBy.refl w _⟩
    rcases hown.2 with ⟨rfl, rfl⟩ | ⟨g, cap, cur, rfl, _, _, hnc, _⟩
    · simp [Builtin.append_, run_underlying ht, sizeOf, typeInfo, hi, Builtin.lenOf, Builtin.firstCells]
    · simp [Builtin.append_, run_underlying ht, sizeOf, typeInfo, hi, Builtin.lenOf, Builtin.firstCells, hnc, storeCells]
  | some ad =>
    obtain ⟨v', w', hrun, h2, h3, _⟩ := run_append_own (P := P) w base t ty e i z size bytes ht hi hz hsize hby hzs hsz v n xs hown ad m c news hlen (hA ad rfl) h1 h63 hbytes hbase
    exact ⟨v', w', hrun, h2, h3⟩
theorem wpList_append_from {ops : Array Oper} {rest : List Oper} {o : Oper} {a : Act} {Q : Exit → Act → World → Prop} (hgd : o.guard = none) (s x : Operand) (t : TypeId)
    (ho : o.op = .call { callee := .builtin .append, args := #[s, x], argTypes := #[t, t] })
    (base : Nat) (e : TypeId) (i : TypeInfo) (z : Value) (size bytes : Nat) (ht : P.underlying t = some (.slice e)) (hi : P.info? e = some i) (hz : i.zero = some z)
    (hsize : i.size = size) (hby : i.bytes = bytes) (hzs : z.cells.size = size) (hsz : 0 < size) (v : Value) (n : Nat) (xs : List Value) (hs : a.eval s = v) (hown : w.ownsRow base e size v n xs)
    (A : Option Addr) (m c : Nat) (news : List Value) (hx : a.eval x = .slice A m c) (hlen : news.length = m * size) (h0 : A = none → m = 0) (hA : ∀ ad, A = some ad → ∀ j u, news[j]? = some u → w.cell? (ad.add j) = some u) (h1 : ∀ u ∈ news, u.oneCell' = true)
    (h63 : n + m ≤ maxLen) (hbytes : (n + m) * bytes ≤ 140737488355328) (hbase : base ≤ w.heap.size)
    (h : ∀ v' w', w'.ownsRow base e size v' (n + m) (xs ++ news) → w.grownBy w' v.ownBlock → wpList P ops Q rest (a.put o.dst v') w') : wpList P ops Q (o :: rest) a w := by
  obtain ⟨v', w', hrun, h2, h3⟩ := run_append_from (P := P) w base t o.type e i z size bytes ht hi hz hsize hby hzs hsz v n xs hown A m c news hlen h0 hA h1 h63 hbytes hbase
  exact Lib.wpList_append_run w hgd s x t t ho v _ hs hx v' w' hrun (h v' w' h2 h3)
end
theorem add_off (b off j : Nat) : ((⟨b, off, none⟩ : Addr).add j) = ⟨b, off + j, none⟩ := by
  unfold Addr.add
  split
  · rename_i h; subst h; rfl
  · simp
theorem own_empty (w : World) (t : TypeId) (size : Nat) : (w.alloc (.cells #[] t)).ownsRow w.heap.size t size (.slice (some ⟨w.heap.size, 0, none⟩) 0 0) 0 [] := by
  refine ⟨by simp, .inr ⟨w.heap.size, 0, #[], rfl, Nat.le_refl _, heap_alloc_new w _, by omega, ?_⟩⟩
  simp
end Go.Proofs.YtblapgfilbmdhaaGreatDoor.SynC
namespace Go.Proofs.YtblapgfilbmdhaaGreatDoor.RefN
open Go.RowKit Plain Leaf Named
theorem letter (n : Int) (w : World) : Calls Tryz.prog 157 #[.int .u8 n] w fun e w' => e = .returned (.bool (wordB n)) ∧ w = w' := by
  go_enter Tryz.func157, Tryz.ntmps157
  go_wp2
  all_goals go_ret
  all_goals refine ⟨ret_bool ?_, rfl⟩
  all_goals
    unfold wordB capB smallB digB
    rw [Bool.eq_iff_iff]
    simp
    omega
def between (lo hi n : Int) : Bool := decide (lo ≤ n ∧ n ≤ hi)
theorem is_ (s : ByteArray) (lo hi : Int) (w : World) (hs : s.size ≤ maxLen) :
    Calls Tryz.prog 112 #[.string s, .int .u8 lo, .int .u8 hi] w fun e w' => e = .returned (.bool (named (between lo hi) s.data.toList)) ∧ w = w' := by
  unfold maxLen at hs
  by_cases h1 : 0 < s.size
  · by_cases h8 : s.size ≤ 8
    · by_cases hlo : lo ≤ s[0].toNat
      · by_cases hhi : s[0].toNat ≤ hi
        · have Hc := Lib.hid (show between lo hi s[0].toNat = true from decide_eq_true ⟨hlo, hhi⟩)
          go_enter Tryz.func112, Tryz.ntmps112
          go_wp2_with fail
          go_loop [7] (fun i => ∃ k : Nat, k ≤ s.size ∧ i = .int .i64 k ∧ Hid (∀ j, (h : j < s.size) → j < k → wordB s[j].toNat = true)) (fun i => s.size - (intOf i).toNat)
          case atStart => exact ⟨0, by omega, rfl, Lib.hid fun j _ hj => by omega⟩
          case round =>
            obtain ⟨k, hk, rfl, hall⟩ := hrel
            by_cases hlt : k < s.size
            · cases hw : wordB s[k].toNat
              · have Hw := Lib.hid (named_bad (f := between lo hi) k hlt hw)
                clear hall
                go_wp2_with (go_at_call 157; refine (letter _ _).mono ?_; rintro e w' ⟨rfl, rfl⟩)
                go_ret
                exact ⟨ret_bool Hw.out.symm, rfl⟩
              · have hnext : Hid (∀ j, (h : j < s.size) → j < k + 1 → wordB s[j].toNat = true) := Lib.hid fun j h hj => by
                  by_cases e : j = k
                  · subst e; exact hw
                  · exact hall.out j h (by omega)
                clear hall
                go_wp2_with (go_at_call 157; refine (letter _ _).mono ?_; rintro e w' ⟨rfl, rfl⟩)
                go_round
                case rel => exact ⟨k + 1, by omega, by go_num, hnext⟩
                case measure => simp [intOf]; omega
            · go_wp2_with fail
              go_ret
              exact ⟨ret_bool (named_ok h1 h8 Hc.out (fun j h => hall.out j h (by omega))).symm, rfl⟩
        · have Hc := Lib.hid (named_head (f := between lo hi) h1 (decide_eq_false (fun h => hhi h.2)))
          go_enter Tryz.func112, Tryz.ntmps112
          go_wp2_with fail
          go_ret
          exact ⟨ret_bool Hc.out.symm, rfl⟩
      · have Hc := Lib.hid (named_head (f := between lo hi) h1 (decide_eq_false (fun h => hlo h.1)))
        go_enter Tryz.func112, Tryz.ntmps112
        go_wp2_with fail
        go_ret
        exact ⟨ret_bool Hc.out.symm, rfl⟩
    · go_enter Tryz.func112, Tryz.ntmps112
      go_wp2_with fail
      go_ret
      exact ⟨ret_bool (named_len (by omega)).symm, rfl⟩
  · go_enter Tryz.func112, Tryz.ntmps112
    go_wp2_with fail
    go_ret
    exact ⟨ret_bool (named_len (by omega)).symm, rfl⟩
theorem refIsPrin (s : ByteArray) (w : World) (hs : s.size ≤ maxLen) : Calls Tryz.prog 69 #[.string s] w fun e w' => e = .returned (.bool (named capB s.data.toList)) ∧ w = w' := by
  go_enter Tryz.func69, Tryz.ntmps69
  go_wp2_with (go_at_call 112; refine (is_ _ _ _ _ hs).mono ?_; rintro e w' ⟨rfl, rfl⟩)
  go_ret
  exact ⟨ret_bool (show named (between 65 90) _ = named capB _ from rfl), rfl⟩
theorem refIsName (s : ByteArray) (w : World) (hs : s.size ≤ maxLen) : Calls Tryz.prog 111 #[.string s] w fun e w' => e = .returned (.bool (named smallB s.data.toList)) ∧ w = w' := by
  go_enter Tryz.func111, Tryz.ntmps111
  go_wp2_with (go_at_call 112; refine (is_ _ _ _ _ hs).mono ?_; rintro e w' ⟨rfl, rfl⟩)
  go_ret
  exact ⟨ret_bool (show named (between 97 122) _ = named smallB _ from rfl), rfl⟩
end Go.Proofs.YtblapgfilbmdhaaGreatDoor.RefN
namespace Go.Proofs.YtblapgfilbmdhaaGreatDoor.Syn1
open Go.RowKit Go.Sort Go.Proofs Plain SynP Named RefN Grown
theorem isRole (r : Rl) (w : World) (h : r.light) : Calls Tryz.prog 109 #[r.val] w fun e w' => e = .returned (.bool r.ok) ∧ Grew w w' := by
  obtain ⟨o, n⟩ := r
  obtain ⟨h1, h2⟩ := h
  simp only at h1 h2
  cases e1 : named capB o.data.toList
  all_goals
    have He := Lib.hid e1
    clear e1
    unfold Rl.val
    go_enter Tryz.func109, Tryz.ntmps109
    go_wp2_with (first | (go_at_call 153; refine (isPrin _ _ h1).mono ?_; rintro e w' ⟨rfl, rfl⟩; rw [He.out]) | (go_at_call 154; refine (isName _ _ h2).mono ?_; rintro e w' ⟨rfl, rfl⟩))
    go_ret
    exact ⟨ret_bool (by unfold Rl.ok; simp only [He.out]; rfl), (Grew.refl _).alloc _⟩
theorem isRoleRef (r : Rl) (w : World) (h : r.light) : Calls Tryz.prog 68 #[r.val] w fun e w' => e = .returned (.bool r.ok) ∧ Grew w w' := by
  obtain ⟨o, n⟩ := r
  obtain ⟨h1, h2⟩ := h
  simp only at h1 h2
  cases e1 : named capB o.data.toList
  all_goals
    have He := Lib.hid e1
    clear e1
    unfold Rl.val
    go_enter Tryz.func68, Tryz.ntmps68
    go_wp2_with (first | (go_at_call 69; refine (refIsPrin _ _ h1).mono ?_; rintro e w' ⟨rfl, rfl⟩; rw [He.out]) | (go_at_call 111; refine (refIsName _ _ h2).mono ?_; rintro e w' ⟨rfl, rfl⟩))
    go_ret
    exact ⟨ret_bool (by unfold Rl.ok; simp only [He.out]; rfl), (Grew.refl _).alloc _⟩
theorem isNaN (a : ByteArray) (w : World) : Calls Tryz.prog 244 #[.string a] w fun e w' => e = .returned (.bool false) ∧ w = w' := by
  go_enter Tryz.func244, Tryz.ntmps244
  go_wp2
  go_ret
  exact ⟨rfl, rfl⟩
theorem less_eq (a b : ByteArray) : Op.bytesLess a.toList b.toList = strLt a b := by
  rw [bytesLess_eq, Go.ByteArray.toList_eq, Go.ByteArray.toList_eq]; rfl
theorem same_eq (a b : ByteArray) : (a.toList == b.toList) = decide (a = b) := by
  rw [Bool.eq_iff_iff, decide_eq_true_iff, beq_iff_eq, Go.ByteArray.toList_eq, Go.ByteArray.toList_eq]
  exact ⟨ba_ext, fun h => by rw [h]⟩
theorem compareS (a b : ByteArray) (w : World) : Calls Tryz.prog 208 #[.string a, .string b] w fun e w' => e = .returned (.int .i64 (cmpB a b)) ∧ w = w' := by
  cases h1 : strLt a b
  · cases h2 : strLt b a
    · have H : Hid (cmpB a b = 0) := Lib.hid (by unfold cmpB; rw [h1, h2]; rfl)
      have h3 : (a.toList == b.toList) = true := by rw [same_eq]; exact decide_eq_true (strLt_total h1 h2)
      rw [← less_eq] at h1 h2
      go_enter Tryz.func208, Tryz.ntmps208
      go_wp2_with (go_at_call 244; refine (isNaN _ _).mono ?_; rintro e w' ⟨rfl, rfl⟩)
      go_ret
      exact ⟨ret_int H.out.symm, rfl⟩
    · have H : Hid (cmpB a b = 1) := Lib.hid (by unfold cmpB; rw [h1, h2]; rfl)
      have h3 : (a.toList == b.toList) = false := by rw [same_eq]; exact decide_eq_false (by rintro rfl; rw [strLt_irrefl] at h2; cases h2)
      rw [← less_eq] at h1 h2
      go_enter Tryz.func208, Tryz.ntmps208
      go_wp2_with (go_at_call 244; refine (isNaN _ _).mono ?_; rintro e w' ⟨rfl, rfl⟩)
      go_ret
      exact ⟨ret_int H.out.symm, rfl⟩
  · have H : Hid (cmpB a b = -1) := Lib.hid (by unfold cmpB; rw [h1]; rfl)
    rw [← less_eq] at h1
    go_enter Tryz.func208, Tryz.ntmps208
    go_wp2_with (go_at_call 244; refine (isNaN _ _).mono ?_; rintro e w' ⟨rfl, rfl⟩)
    go_ret
    exact ⟨ret_int H.out.symm, rfl⟩
theorem compareN (a b : Int) (w : World) : Calls Tryz.prog 207 #[.int .i64 a, .int .i64 b] w fun e w' => e = .returned (.int .i64 (cmpN a b)) ∧ w = w' :=
  (Tryz.cmp_Compare_int a b w).mono fun _ _ ⟨he, hw⟩ => ⟨he, hw.symm⟩
def IRow (w : World) (g : Nat) (l : List Int) : Prop := g < w.heap.size ∧ ∀ k, (h : k < l.length) → w.cell? ⟨g, k, none⟩ = some (.int .i64 l[k])
theorem orL_skip {l : List Int} {k : Nat} (h : k < l.length) (h0 : l[k] = 0) : orL (l.drop k) = orL (l.drop (k + 1)) := by
  rw [List.drop_eq_getElem_cons h]; simp [orL, h0]
theorem orL_stop {l : List Int} {k : Nat} (h : k < l.length) (h0 : l[k] ≠ 0) : orL (l.drop k) = l[k] := by
  rw [List.drop_eq_getElem_cons h]; simp [orL, h0]
theorem or_ (g cap : Nat) (l : List Int) (w : World) (hl : l.length ≤ 1000) (hr : IRow w g l) : Calls Tryz.prog 205 #[.slice (some ⟨g, 0, none⟩) l.length cap] w fun e w' => e = .returned (.int .i64 (orL l)) ∧ w = w' := by
  go_enter Tryz.func205, Tryz.ntmps205
  go_wp2
  go_loop [8] (fun i => ∃ k : Nat, k ≤ l.length ∧ i = .int .i64 k ∧ Hid (orL l = orL (l.drop k))) (fun i => l.length - (intOf i).toNat)
  case atStart => exact ⟨0, by omega, rfl, Lib.hid (by simp)⟩
  case round =>
    obtain ⟨k, hk, rfl, hrun⟩ := hrel
    by_cases hlt : k < l.length
    · have hc := hr.2 k hlt
      by_cases h0 : l[k] = 0
      · have hnext : Hid (orL l = orL (l.drop (k + 1))) := Lib.hid (by rw [hrun.out, orL_skip hlt h0])
        rw [h0] at hc
        clear hrun h0
        go_wp2_with fail
        go_round
        case rel => exact ⟨k + 1, by omega, by go_num, hnext⟩
        case measure => simp [intOf]; omega
      · have hfin : Hid (orL l = l[k]) := Lib.hid (by rw [hrun.out, orL_stop hlt h0])
        have h1 : (l[k] != 0) = true := by simpa using h0
        clear hrun h0
        go_wp2_with fail
        go_ret
        exact ⟨ret_int hfin.out.symm, rfl⟩
    · have hfin : Hid (orL l = 0) := Lib.hid (by rw [hrun.out, List.drop_of_length_le (by omega)]; rfl)
      clear hrun
      go_wp2_with fail
      go_ret
      exact ⟨ret_int hfin.out.symm, rfl⟩
end Go.Proofs.YtblapgfilbmdhaaGreatDoor.Syn1
namespace Go.Proofs.YtblapgfilbmdhaaGreatDoor.Syn2
open Go.RowKit Go.Sort Go.Proofs Plain SynP Named RefN Grown Syn1
theorem keep2 {W w1 w2 : World} {n : Nat} {f g : Nat → Option Value} (h : Grew W w1 ∧ (∀ o, w1.cell? ⟨n, o, none⟩ = f o) ∧ (∀ o, w1.cell? ⟨n + 1, o, none⟩ = g o)) (hn : n + 1 < W.heap.size) (hg : Grew w1 w2) :
    Grew W w2 ∧ (∀ o, w2.cell? ⟨n, o, none⟩ = f o) ∧ (∀ o, w2.cell? ⟨n + 1, o, none⟩ = g o) := by
  have hs := h.1.size
  exact ⟨h.1.trans hg, fun o => (hg.cell (a := ⟨n, o, none⟩) (by show n < _; omega)).trans (h.2.1 o), fun o => (hg.cell (a := ⟨n + 1, o, none⟩) (by show n + 1 < _; omega)).trans (h.2.2 o)⟩
theorem start2 (w : World) (A B : Array Value) (t : TypeId) : Grew ((w.alloc (.cells A t)).alloc (.cells B t)) ((w.alloc (.cells A t)).alloc (.cells B t)).drew ∧ (∀ o, ((w.alloc (.cells A t)).alloc (.cells B t)).drew.cell? ⟨w.heap.size, o, none⟩ = A[o]?) ∧ (∀ o, ((w.alloc (.cells A t)).alloc (.cells B t)).drew.cell? ⟨w.heap.size + 1, o, none⟩ = B[o]?) := by
  refine ⟨(Grew.refl _).drew, fun o => ?_, fun o => ?_⟩
  · exact (((Grew.refl (w.alloc (.cells A t))).alloc (.cells B t)).drew.cell (a := ⟨w.heap.size, o, none⟩) (by simp)).trans (Lib.cell_of_heap (heap_alloc_new w _) o)
  · have := Lib.cell_of_heap (heap_alloc_new (w.alloc (.cells A t)) (.cells B t)) o
    rw [← this]; simp
theorem irow_new (w : World) (l : List Int) (t : TypeId) {n : Nat} (hn : n = w.heap.size) : IRow (w.alloc (.cells (l.map (Value.int .i64)).toArray t)).drew n l := by
  subst hn
  exact ⟨by simp, fun k hk => by
    have := Lib.cell_of_heap (heap_alloc_new w (.cells (l.map (Value.int .i64)).toArray t)) k
    show (w.alloc _).cell? _ = _
    rw [this]; simp [hk]⟩
theorem irow_new0 (w : World) (l : List Int) (t : TypeId) {n : Nat} (hn : n = w.heap.size) : IRow (w.alloc (.cells (l.map (Value.int .i64)).toArray t)) n l := by
  subst hn
  exact ⟨by simp, fun k hk => by
    rw [Lib.cell_of_heap (heap_alloc_new w (.cells (l.map (Value.int .i64)).toArray t)) k]; simp [hk]⟩
set_option maxRecDepth 100000 in
theorem orderRoles (r s : Rl) (w : World) : Calls Tryz.prog 206 #[r.val, s.val] w fun e w' => e = .returned (.int .i64 (cmpR r s)) ∧ Grew w w' := by
  obtain ⟨o1, n1⟩ := r
  obtain ⟨o2, n2⟩ := s
  have hor : ∀ (w' : World) (n : Nat), n = w'.heap.size → Calls Tryz.prog 205 #[.slice (some ⟨n, 0, none⟩) 2 2] (w'.alloc (.cells #[.int .i64 (cmpB o1 o2), .int .i64 (cmpB n1 n2)] 3)).drew fun e w2 => e = .returned (.int .i64 (cmpR ⟨o1, n1⟩ ⟨o2, n2⟩)) ∧ (w'.alloc (.cells #[.int .i64 (cmpB o1 o2), .int .i64 (cmpB n1 n2)] 3)).drew = w2 := fun w' n hn =>
    or_ n 2 [cmpB o1 o2, cmpB n1 n2] _ (by simp) (irow_new w' [cmpB o1 o2, cmpB n1 n2] _ hn)
  have Hor := Lib.hid hor
  clear hor
  generalize cmpR ⟨o1, n1⟩ ⟨o2, n2⟩ = res at *
  unfold Rl.val
  go_enter Tryz.func206, Tryz.ntmps206
  go_wp2
  have hst := start2 w #[.string o1, .string n1] #[.string o2, .string n2] 28
  go_region_held3 (fun w' => Grew ((w.alloc (.cells #[.string o1, .string n1] 28)).alloc (.cells #[.string o2, .string n2] 28)) w' ∧ (∀ o, w'.cell? ⟨w.heap.size, o, none⟩ = (#[.string o1, .string n1] : Array Value)[o]?) ∧ (∀ o, w'.cell? ⟨w.heap.size + 1, o, none⟩ = (#[.string o2, .string n2] : Array Value)[o]?))
    (first | exact hst | assumption | exact keep2 (by assumption) (by simp) (Grew.alloc_drew _ _))
    (first | (go_at_call 208; refine (compareS _ _ _).mono ?_; rintro e w' ⟨rfl, rfl⟩) | (go_at_call 205; refine (Hor.out _ _ (by simp)).mono ?_; rintro e w' ⟨rfl, rfl⟩))
  rename_i hHeld
  go_wp2
  go_ret
  exact ⟨rfl, (((Grew.refl _).alloc _).alloc _).trans hHeld.1⟩
theorem less (r s : Rl) (w : World) : Calls Tryz.prog 231 #[r.val, s.val] w fun e w' => e = .returned (.bool (decide (cmpR r s < 0))) ∧ Grew w w' := by
  obtain ⟨o1, n1⟩ := r
  obtain ⟨o2, n2⟩ := s
  have H := Lib.hid (orderRoles ⟨o1, n1⟩ ⟨o2, n2⟩)
  generalize cmpR ⟨o1, n1⟩ ⟨o2, n2⟩ = res at *
  unfold Rl.val at *
  go_enter Tryz.func231, Tryz.ntmps231
  go_wp2_with (go_at_call 206; refine (H.out _).mono ?_; rintro e w' ⟨rfl, hg⟩)
  go_ret
  exact ⟨rfl, (((Grew.refl _).alloc _).alloc _).trans hg⟩
theorem rl_eq {r s : Rl} (h : r.owner = s.owner) (h2 : r.name = s.name) : r = s := by cases r; cases s; simp_all
theorem orL_cons0 (l : List Int) : orL (0 :: l) = orL l := by simp [orL]
theorem orL_cons1 {x : Int} (l : List Int) (h : x ≠ 0) : orL (x :: l) = x := by simp [orL, h]
theorem orL_one (x : Int) : orL [x] = x := by
  by_cases h : x = 0
  · subst h; rfl
  · exact orL_cons1 [] h
theorem cmpR_lt {r s : Rl} : (decide (cmpR r s < 0) : Bool) = if r.owner ≠ s.owner then strLt r.owner s.owner else strLt r.name s.name := by
  unfold cmpR
  by_cases h : r.owner = s.owner
  · rw [if_neg (fun e => e h), h, cmpB_eq.2 rfl, orL_cons0, orL_one, Bool.eq_iff_iff, decide_eq_true_iff, cmpB_lt]
  · rw [orL_cons1 _ (fun e => h (cmpB_eq.1 e)), if_pos h, Bool.eq_iff_iff, decide_eq_true_iff, cmpB_lt]
theorem lessRef (r s : Rl) (w : World) : Calls Tryz.prog 44 #[r.val, s.val] w fun e w' => e = .returned (.bool (decide (cmpR r s < 0))) ∧ Grew w w' := by
  obtain ⟨o1, n1⟩ := r
  obtain ⟨o2, n2⟩ := s
  have H := Lib.hid (cmpR_lt (r := ⟨o1, n1⟩) (s := ⟨o2, n2⟩))
  by_cases h : o1 = o2
  · have e1 : (o1.toList == o2.toList) = true := by rw [same_eq]; exact decide_eq_true h
    have H2 := Lib.hid (H.out.trans (if_neg (by simpa using h)))
    clear h
    unfold Rl.val at *
    go_enter Tryz.func44, Tryz.ntmps44
    go_wp2
    go_ret
    exact ⟨ret_bool (by rw [H2.out]; exact less_eq _ _), ((Grew.refl _).alloc _).alloc _⟩
  · have e1 : (o1.toList == o2.toList) = false := by rw [same_eq]; exact decide_eq_false h
    have H2 := Lib.hid (H.out.trans (if_pos h))
    clear h
    unfold Rl.val at *
    go_enter Tryz.func44, Tryz.ntmps44
    go_wp2
    go_ret
    exact ⟨ret_bool (by rw [H2.out]; exact less_eq _ _), ((Grew.refl _).alloc _).alloc _⟩
end Go.Proofs.YtblapgfilbmdhaaGreatDoor.Syn2
