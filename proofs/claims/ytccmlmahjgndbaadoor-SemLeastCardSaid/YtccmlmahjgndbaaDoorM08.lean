/- The tokens of a line, in the program. -/
import Derived.Test.YtccmlmahjgndbaaDoorM07
import Derived.Laws.AppendOwn
import Derived.OwnWalk
import Derived.Lib.Builder
import Derived.WalkSmall
import Derived.Test.YtccmlmahjgndbaaDoorM06
import Derived.Sort.Walk7
import Derived.Lib.AppendZeros
import Derived.WalkSpells
namespace Go.Proofs.YtccmlmahjgndbaaDoor.Scan3
set_option linter.unusedVariables false
set_option linter.unusedSimpArgs false
open Go.RowKit Go.Proofs.YtccmlmahjgndbaaDoor.Plain Go.Proofs.YtccmlmahjgndbaaDoor.Leaf Go.Proofs.YtccmlmahjgndbaaDoor.Named Go.Proofs.YtccmlmahjgndbaaDoor.Scan1 Go.Proofs.YtccmlmahjgndbaaDoor.Scan2
theorem rest_list (t : ByteArray) (k : Nat) : (t.extract k t.size).data.toList = t.data.toList.drop k := by
  rw [ByteArray.data_extract, Array.toList_extract, List.extract_eq_take_drop]
  apply List.take_of_length_le
  rw [List.length_drop, toList_len]
  exact Nat.le_refl _
theorem rest_size (t : ByteArray) (k : Nat) : (t.extract k t.size).size = t.size - k := by
  rw [← toList_len, rest_list, List.length_drop, toList_len]
theorem rest_head (t : ByteArray) (k : Nat) (h : k < t.size) (h0 : 0 < (t.extract k t.size).size) : (t.extract k t.size)[0] = t[k] := by
  have e := headD_eq h0
  rw [rest_list, drop_cons h] at e
  exact e.symm
theorem rest_wlen (t : ByteArray) (k : Nat) : wlen (t.extract k t.size) 0 = wlen t k := by
  unfold wlen
  rw [rest_list]; rfl
theorem word_of_cap {n : Int} (h : capB n = true) : wordB n = true := by unfold wordB; rw [h]; rfl
theorem word_of_small {n : Int} (h : smallB n = true) : wordB n = true := by unfold wordB; rw [h]; simp
theorem prefix_len (t : ByteArray) (k : Nat) (h5 : Lib.hasPrefix (t.data.toList.drop k) [60, 45] = true) : k + 2 ≤ t.size := by
  have h : [60, 45] <+: t.data.toList.drop k := by
    unfold Lib.hasPrefix at h5
    exact List.isPrefixOf_iff_prefix.1 h5
  have := h.length_le
  rw [List.length_drop, toList_len] at this
  simp at this
  omega
inductive Cases (t : ByteArray) (k : Nat) (h : k < t.size) (F : Int × Int) : Prop where
  | tok (kind : Int) (m : Nat) (hs : tkStep t k h = .tok kind m) (hF : F = (kind, ((m + 1 : Nat) : Int))) (h8 : m + 1 ≤ 8) (hk : k + (m + 1) ≤ t.size)
  | none_ (hs : tkStep t k h = .bad 1) (hF : F = (0, 0))
  | long (kind : Int) (n : Nat) (hs : tkStep t k h = .bad 4) (hF : F = (kind, (n : Int))) (h8 : 8 < n)
theorem step_cases (t : ByteArray) (k : Nat) (h : k < t.size) (h32 : t[k] ≠ 32) (h0 : 0 < (t.extract k t.size).size) : Cases t k h (firstA (t.extract k t.size) h0) := by
  have hh := rest_head t k h h0
  have hw := rest_wlen t k
  have hle := wlen_le t k
  unfold firstA
  rw [hh, hw, rest_list]
  cases h1 : capB t[k].toNat
  · rw [if_neg (by decide)]
    cases h2 : smallB t[k].toNat
    · rw [if_neg (by decide)]
      by_cases h3 : t[k] = 46
      · rw [if_pos h3]
        exact .tok 3 0 (by unfold tkStep; rw [if_neg h32, if_neg (by rw [h1]; decide), if_neg (by rw [h2]; decide), if_pos h3]) rfl (by omega) (by omega)
      · rw [if_neg h3]
        by_cases h4 : t[k] = 38
        · rw [if_pos h4]
          exact .tok 5 0 (by unfold tkStep; rw [if_neg h32, if_neg (by rw [h1]; decide), if_neg (by rw [h2]; decide), if_neg h3, if_pos h4]) rfl (by omega) (by omega)
        · rw [if_neg h4]
          cases h5 : Lib.hasPrefix (t.data.toList.drop k) [60, 45]
          · rw [if_neg (by decide)]
            exact .none_ (by unfold tkStep; rw [if_neg h32, if_neg (by rw [h1]; decide), if_neg (by rw [h2]; decide), if_neg h3, if_neg h4, if_neg (by rw [h5]; decide)]) rfl
          · rw [if_pos rfl]
            exact .tok 4 1 (by unfold tkStep; rw [if_neg h32, if_neg (by rw [h1]; decide), if_neg (by rw [h2]; decide), if_neg h3, if_neg h4, if_pos h5]) rfl (by omega) (by have := prefix_len t k h5; omega)
    · rw [if_pos rfl]
      have hs := wlen_succ h (word_of_small h2)
      by_cases h8 : wlen t (k + 1) + 1 > 8
      · exact .long 2 (wlen t k) (by unfold tkStep; rw [if_neg h32, if_neg (by rw [h1]; decide), if_pos h2, if_pos h8]) rfl (by omega)
      · exact .tok 2 (wlen t (k + 1)) (by unfold tkStep; rw [if_neg h32, if_neg (by rw [h1]; decide), if_pos h2, if_neg h8]) (by rw [hs]) (by omega) (by omega)
  · rw [if_pos rfl]
    have hs := wlen_succ h (word_of_cap h1)
    by_cases h8 : wlen t (k + 1) + 1 > 8
    · exact .long 1 (wlen t k) (by unfold tkStep; rw [if_neg h32, if_pos h1, if_pos h8]) rfl (by omega)
    · exact .tok 1 (wlen t (k + 1)) (by unfold tkStep; rw [if_neg h32, if_pos h1, if_neg h8]) (by rw [hs]) (by omega) (by omega)
theorem bare_le (s : ByteArray) : (bare s).size ≤ s.size := by
  rw [← toList_len, ← toList_len s]
  unfold bare
  exact (List.takeWhile_sublist _).length_le
def okCol : TkAns → Int
  | .ok _ => 0
  | .bad c _ => c
def okErr : TkAns → Int
  | .ok _ => 0
  | .bad _ e => e
def okToks : TkAns → List Tk
  | .ok l => l
  | .bad _ _ => []
/-- What Tokens answers of a line. -/
def ansOf (s : ByteArray) : TkAns := if s.size > 200 then .bad 201 4 else tkRun (bare s) 0 []
theorem new_cells3 (w : World) (a b c : Value) (t : TypeId) : ∀ j u, [a, b, c][j]? = some u → (w.alloc (.cells #[a, b, c] t)).cell? ((⟨w.heap.size, 0, none⟩ : Addr).add j) = some u := by
  intro j u hu
  have h : (w.alloc (.cells #[a, b, c] t)).cell? ⟨w.heap.size, j, none⟩ = #[a, b, c][j]? := Lib.cell_of_heap (heap_alloc_new w _) j
  have e : ((⟨w.heap.size, 0, none⟩ : Addr).add j) = ⟨w.heap.size, j, none⟩ := by
    unfold Addr.add
    split
    · rename_i h0; rw [h0]
    · simp
  rw [e, h, ← hu]
  simp
theorem own_snoc {w : World} {B : Nat} {e : TypeId} {v : Value} {L : List Tk} {t : Tk} (h : w.ownsRow B e 3 v (L.length + 1) (tkCells L ++ [.int .i64 t.kind, .string t.text, .int .i64 ((t.col : Nat) : Int)])) : w.ownsRow B e 3 v (L ++ [t]).length (tkCells (L ++ [t])) := by
  have e1 : tkCells (L ++ [t]) = tkCells L ++ [.int .i64 t.kind, .string t.text, .int .i64 ((t.col : Nat) : Int)] := by
    unfold tkCells; simp [Tk.cells]
  rw [e1, List.length_append]
  exact h
theorem below_own {a w w1 : World} {e : TypeId} {size n : Nat} {v : Value} {xs : List Value} {o : Obj} (hb : Below a.heap.size a w) (hown : w.ownsRow a.heap.size e size v n xs) (hg : (w.alloc o).grownBy w1 v.ownBlock) : Below a.heap.size a w1 :=
  (hb.alloc hb.size o).grown hg (by have := hb.size; simp; omega) (fun k hk => (hown.lt k hk).1)
end Go.Proofs.YtccmlmahjgndbaaDoor.Scan3
/- Two rows of the same tokens are alike. -/
namespace Go.Proofs.YtccmlmahjgndbaaDoor.Scan5
set_option linter.unusedVariables false
set_option linter.unusedSimpArgs false
open Go.RowKit Go.Proofs.YtccmlmahjgndbaaDoor.Plain Go.Proofs.YtccmlmahjgndbaaDoor.Leaf Go.Proofs.YtccmlmahjgndbaaDoor.Scan1 Go.Proofs.YtccmlmahjgndbaaDoor.Scan2 Go.Proofs.YtccmlmahjgndbaaDoor.Scan3
/-- A slice value that reads as tokens. -/
def TkRow (w : World) (A : Option Addr) (L : List Tk) : Prop :=
  0 < L.length → ∃ g, A = some ⟨g, 0, none⟩ ∧ g < w.heap.size ∧ ∀ j, (h : j < L.length) → w.cell? ⟨g, j * 3, none⟩ = some (.int .i64 L[j].kind) ∧ w.cell? ⟨g, j * 3 + 1, none⟩ = some (.string L[j].text) ∧ w.cell? ⟨g, j * 3 + 2, none⟩ = some (.int .i64 L[j].col)
theorem tkCells_at (L : List Tk) (j : Nat) (h : j < L.length) : (tkCells L)[j * 3]? = some (.int .i64 L[j].kind) ∧ (tkCells L)[j * 3 + 1]? = some (.string L[j].text) ∧ (tkCells L)[j * 3 + 2]? = some (.int .i64 L[j].col) := by
  induction L generalizing j with
  | nil => simp at h
  | cons t L ih =>
    have e : tkCells (t :: L) = t.cells ++ tkCells L := by unfold tkCells; simp
    have hl : t.cells.length = 3 := rfl
    rw [e]
    cases j with
    | zero =>
      refine ⟨?_, ?_, ?_⟩ <;> rw [List.getElem?_append_left (by rw [hl]; omega)] <;> rfl
    | succ j =>
      obtain ⟨a, b, c⟩ := ih j (by simpa using h)
      refine ⟨?_, ?_, ?_⟩ <;> rw [List.getElem?_append_right (by rw [hl]; omega), hl]
      · rw [show (j + 1) * 3 - 3 = j * 3 from by omega]; exact a
      · rw [show (j + 1) * 3 + 1 - 3 = j * 3 + 1 from by omega]; exact b
      · rw [show (j + 1) * 3 + 2 - 3 = j * 3 + 2 from by omega]; exact c
theorem TkRow.of_own {w : World} {B : Nat} {e : TypeId} {v : Value} {L : List Tk} (h : w.ownsRow B e 3 v L.length (tkCells L)) : ∃ A cap, v = .slice A L.length cap ∧ L.length ≤ cap ∧ TkRow w A L := by
  rcases h.2 with ⟨rfl, h0⟩ | ⟨g, cap, cur, rfl, hB, hh, hc, hm, hs, ht⟩
  · exact ⟨none, 0, by rw [h0], by omega, fun hp => by omega⟩
  · refine ⟨_, _, rfl, hc, fun hp => ⟨g, rfl, ?_, fun j hj => ?_⟩⟩
    · exact (h.lt g rfl).2
    · obtain ⟨a, b, c⟩ := tkCells_at L j hj
      rw [← ht] at a b c
      rw [List.getElem?_take_of_lt (by omega)] at a b c
      refine ⟨?_, ?_, ?_⟩ <;> rw [Lib.cell_of_heap hh]
      · rw [← Array.getElem?_toList]; exact a
      · rw [← Array.getElem?_toList]; exact b
      · rw [← Array.getElem?_toList]; exact c
theorem TkRow.below {w w' : World} {A : Option Addr} {L : List Tk} (h : TkRow w A L) (hb : Below w.heap.size w w') : TkRow w' A L := fun hp => by
  obtain ⟨g, hA, hg, hc⟩ := h hp
  refine ⟨g, hA, Nat.lt_of_lt_of_le hg hb.size, fun j hj => ?_⟩
  obtain ⟨a, b, c⟩ := hc j hj
  exact ⟨(hb.cell (p := ⟨g, j * 3, none⟩) hg).trans a, (hb.cell (p := ⟨g, j * 3 + 1, none⟩) hg).trans b, (hb.cell (p := ⟨g, j * 3 + 2, none⟩) hg).trans c⟩
end Go.Proofs.YtccmlmahjgndbaaDoor.Scan5
/- What a world with blocks laid behind it holds; stores into it. -/
namespace Go.Proofs.YtccmlmahjgndbaaDoor.Grown
set_option linter.unusedVariables false
set_option linter.unusedSimpArgs false
open Go.RowKit Go.Sort
/-- A store into a block that was there, in a world with blocks laid behind it. -/
theorem grow_set (n : Nat) (os : Array Obj) : ∀ (X : World) (b i : Nat) (v : Value), b < X.heap.size → (grow (X.drewN n) os).setCell ⟨b, i, none⟩ v = grow ((X.setCell ⟨b, i, none⟩ v).drewN n) os := fun X b i v hb => by
  rw [setCell_grow _ _ _ _ _ (by exact hb)]; rfl
theorem grow_cell (n : Nat) (os : Array Obj) : ∀ (X : World) (b i : Nat), b < X.heap.size → (grow (X.drewN n) os).cell? ⟨b, i, none⟩ = X.cell? ⟨b, i, none⟩ := fun X b i hb => by
  rw [cell?_grow _ _ _ (by exact hb)]; rfl
theorem grow_frozen (n : Nat) (os : Array Obj) : ∀ (X : World) (b i : Nat), b < X.heap.size → (grow (X.drewN n) os).frozen? ⟨b, i, none⟩ = X.frozen? ⟨b, i, none⟩ := fun X b i hb => by
  rw [frozen?_grow _ _ _ (by exact hb)]; rfl
theorem grow_size (n : Nat) (os : Array Obj) : ∀ X : World, (grow (X.drewN n) os).heap.size = X.heap.size + os.size := fun _ => size_grow _ _
theorem grewCall {P : Program} {f : FuncId} {args : Array Value} {w : World} {n : Nat} {os : Array Obj} {v : Value} (h : Calls P f args (grow (w.drewN n) os) fun e w' => e = .returned v ∧ Grew (grow (w.drewN n) os) w') : Calls P f args (grow (w.drewN n) os) fun e w'' => e = .returned v ∧ ∃ p : GrownBy, w'' = grow (w.drewN p.n) p.os :=
  h.mono fun _ _ ⟨he, hg⟩ => ⟨he, (Grew.mk w n os).trans hg⟩
end Go.Proofs.YtccmlmahjgndbaaDoor.Grown
/- How many tokens are of the kinds of a shape; the place behind the last token. -/
namespace Go.Proofs.YtccmlmahjgndbaaDoor.SynA
set_option linter.unusedVariables false
set_option linter.unusedSimpArgs false
open Go.RowKit Go.Sort Go.Proofs.YtccmlmahjgndbaaDoor.Plain Go.Proofs.YtccmlmahjgndbaaDoor.SynP Go.Proofs.YtccmlmahjgndbaaDoor.SynQ Go.Proofs.YtccmlmahjgndbaaDoor.Grown
set_option linter.unusedVariables false
/-- A slice value that reads as tokens, wherever it begins. -/
def TkAt (w : World) (A : Option Addr) (L : List Tk) : Prop :=
  0 < L.length → ∃ g o, A = some ⟨g, o, none⟩ ∧ g < w.heap.size ∧ ∀ j, (h : j < L.length) → w.cell? ⟨g, o + j * 3, none⟩ = some (.int .i64 L[j].kind) ∧ w.cell? ⟨g, o + j * 3 + 1, none⟩ = some (.string L[j].text) ∧ w.cell? ⟨g, o + j * 3 + 2, none⟩ = some (.int .i64 L[j].col)
/-- A slice value that reads as numbers. -/
def IAt (w : World) (A : Option Addr) (l : List Int) : Prop :=
  0 < l.length → ∃ g o, A = some ⟨g, o, none⟩ ∧ g < w.heap.size ∧ ∀ k, (h : k < l.length) → w.cell? ⟨g, o + k, none⟩ = some (.int .i64 l[k])
theorem TkAt.below {w w' : World} {A : Option Addr} {L : List Tk} (h : TkAt w A L) (hb : Below w.heap.size w w') : TkAt w' A L := fun hp => by
  obtain ⟨g, o, hA, hg, hc⟩ := h hp
  refine ⟨g, o, hA, Nat.lt_of_lt_of_le hg hb.size, fun j hj => ?_⟩
  obtain ⟨a, b, c⟩ := hc j hj
  exact ⟨(hb.cell (p := ⟨g, o + j * 3, none⟩) hg).trans a, (hb.cell (p := ⟨g, o + j * 3 + 1, none⟩) hg).trans b, (hb.cell (p := ⟨g, o + j * 3 + 2, none⟩) hg).trans c⟩
theorem IAt.below {w w' : World} {A : Option Addr} {l : List Int} (h : IAt w A l) (hb : Below w.heap.size w w') : IAt w' A l := fun hp => by
  obtain ⟨g, o, hA, hg, hc⟩ := h hp
  exact ⟨g, o, hA, Nat.lt_of_lt_of_le hg hb.size, fun k hk => (hb.cell (p := ⟨g, o + k, none⟩) hg).trans (hc k hk)⟩
theorem TkAt.of_row {w : World} {A : Option Addr} {L : List Tk} (h : Scan5.TkRow w A L) : TkAt w A L := fun hp => by
  obtain ⟨g, hA, hg, hc⟩ := h hp
  exact ⟨g, 0, hA, hg, fun j hj => by simpa using hc j hj⟩
theorem behindOf_nil : behindOf [] = 1 := rfl
theorem behindOf_last {L : List Tk} (h : 0 < L.length) : behindOf L = L[L.length - 1].col + L[L.length - 1].text.size := by
  unfold behindOf
  rw [List.getLast?_eq_getElem?, List.getElem?_eq_getElem (by omega)]
/-- The columns and sizes of tokens are small. -/
def SmallTk (L : List Tk) : Prop := ∀ t ∈ L, t.col ≤ 1000000 ∧ t.text.size ≤ 1000000
end Go.Proofs.YtccmlmahjgndbaaDoor.SynA
/- append of a slice that reads as cells, onto a row of the call's own; a copy of tokens. -/
namespace Go.Proofs.YtccmlmahjgndbaaDoor.SynC
set_option linter.unusedVariables false
set_option linter.unusedSimpArgs false
open Go.RowKit Go.Sort Go.Proofs.YtccmlmahjgndbaaDoor.Plain Go.Proofs.YtccmlmahjgndbaaDoor.SynP Go.Proofs.YtccmlmahjgndbaaDoor.SynQ Go.Proofs.YtccmlmahjgndbaaDoor.Grown Go.Proofs.YtccmlmahjgndbaaDoor.SynA Go.Proofs.YtccmlmahjgndbaaDoor.Scan3
set_option linter.unusedVariables false
section
variable {P : Program} (w : World)
theorem run_append_from (base : Nat) (t ty e : TypeId) (i : TypeInfo) (z : Value) (size bytes : Nat) (ht : P.underlying t = some (.slice e)) (hi : P.info? e = some i) (hz : i.zero = some z)
    (hsize : i.size = size) (hby : i.bytes = bytes) (hzs : z.cells.size = size) (hsz : 0 < size) (v : Value) (n : Nat) (xs : List Value) (hown : w.ownsRow base e size v n xs)
    (A : Option Addr) (m c : Nat) (news : List Value) (hlen : news.length = m * size) (h0 : A = none → m = 0) (hA : ∀ ad, A = some ad → ∀ j u, news[j]? = some u → w.cell? (ad.add j) = some u) (h1 : ∀ u ∈ news, u.oneCell' = true)
    (h63 : n + m ≤ maxLen) (hbytes : (n + m) * bytes ≤ 140737488355328) (hbase : base ≤ w.heap.size) :
    ∃ v' w', (Builtin.append_ #[t, t] ty #[v, .slice A m c]).run P w = .ok v' w' ∧ w'.ownsRow base e size v' (n + m) (xs ++ news) ∧ w.grownBy w' v.ownBlock := by
  cases A with
  | none =>
    have hm := h0 rfl
    subst hm
    have hn : news = [] := List.eq_nil_of_length_eq_zero (by omega)
    subst hn
    refine ⟨v, w, ?_, by simpa using hown, World.grownBy.refl w _⟩
    rcases hown.2 with ⟨rfl, rfl⟩ | ⟨g, cap, cur, rfl, _, _, hnc, _⟩
    · simp [Builtin.append_, run_underlying ht, sizeOf, typeInfo, hi, Builtin.lenOf, Builtin.firstCells]
    · simp [Builtin.append_, run_underlying ht, sizeOf, typeInfo, hi, Builtin.lenOf, Builtin.firstCells, hnc, storeCells]
  | some ad =>
    obtain ⟨v', w', hrun, h2, h3, _⟩ := run_append_own (P := P) w base t ty e i z size bytes ht hi hz hsize hby hzs hsz v n xs hown ad m c news hlen (hA ad rfl) h1 h63 hbytes hbase
    exact ⟨v', w', hrun, h2, h3⟩
theorem wpList_append_from {ops : Array Oper} {rest : List Oper} {o : Oper} {a : Act} {Q : Exit → Act → World → Prop} (hgd : o.guard = none) (s x : Operand) (t : TypeId)
    (ho : o.op = .call { callee := .builtin .append, args := #[s, x], argTypes := #[t, t] })
    (base : Nat) (e : TypeId) (i : TypeInfo) (z : Value) (size bytes : Nat) (ht : P.underlying t = some (.slice e)) (hi : P.info? e = some i) (hz : i.zero = some z)
    (hsize : i.size = size) (hby : i.bytes = bytes) (hzs : z.cells.size = size) (hsz : 0 < size) (v : Value) (n : Nat) (xs : List Value) (hs : a.eval s = v) (hown : w.ownsRow base e size v n xs)
    (A : Option Addr) (m c : Nat) (news : List Value) (hx : a.eval x = .slice A m c) (hlen : news.length = m * size) (h0 : A = none → m = 0) (hA : ∀ ad, A = some ad → ∀ j u, news[j]? = some u → w.cell? (ad.add j) = some u) (h1 : ∀ u ∈ news, u.oneCell' = true)
    (h63 : n + m ≤ maxLen) (hbytes : (n + m) * bytes ≤ 140737488355328) (hbase : base ≤ w.heap.size)
    (h : ∀ v' w', w'.ownsRow base e size v' (n + m) (xs ++ news) → w.grownBy w' v.ownBlock → wpList P ops Q rest (a.put o.dst v') w') : wpList P ops Q (o :: rest) a w := by
  obtain ⟨v', w', hrun, h2, h3⟩ := run_append_from (P := P) w base t o.type e i z size bytes ht hi hz hsize hby hzs hsz v n xs hown A m c news hlen h0 hA h1 h63 hbytes hbase
  exact Lib.wpList_append_run w hgd s x t t ho v _ hs hx v' w' hrun (h v' w' h2 h3)
end
theorem add_off (b off j : Nat) : ((⟨b, off, none⟩ : Addr).add j) = ⟨b, off + j, none⟩ := by
  unfold Addr.add
  split
  · rename_i h; subst h; rfl
  · simp
theorem own_empty (w : World) (t : TypeId) (size : Nat) : (w.alloc (.cells #[] t)).ownsRow w.heap.size t size (.slice (some ⟨w.heap.size, 0, none⟩) 0 0) 0 [] := by
  refine ⟨by simp, .inr ⟨w.heap.size, 0, #[], rfl, Nat.le_refl _, heap_alloc_new w _, by omega, ?_⟩⟩
  simp
theorem tkCells_cons (t : Tk) (L : List Tk) : tkCells (t :: L) = t.cells ++ tkCells L := by unfold tkCells; simp
theorem tkCells_len (L : List Tk) : (tkCells L).length = L.length * 3 := by
  induction L with
  | nil => rfl
  | cons t L ih => rw [tkCells_cons, List.length_append, ih, List.length_cons, Nat.succ_mul]; show 3 + _ = _; omega
theorem tkCells_one (L : List Tk) : ∀ u ∈ tkCells L, u.oneCell' = true := by
  intro u hu
  unfold tkCells at hu
  rw [List.mem_flatten] at hu
  obtain ⟨l, hl, hu⟩ := hu
  obtain ⟨t, _, rfl⟩ := List.mem_map.1 hl
  simp [Tk.cells] at hu
  rcases hu with rfl | rfl | rfl <;> rfl
/-- Cells of tokens, one by one. -/
theorem tkCells_get {w : World} {g o : Nat} : ∀ (L : List Tk), (∀ j, (h : j < L.length) → w.cell? ⟨g, o + j * 3, none⟩ = some (.int .i64 L[j].kind) ∧ w.cell? ⟨g, o + j * 3 + 1, none⟩ = some (.string L[j].text) ∧ w.cell? ⟨g, o + j * 3 + 2, none⟩ = some (.int .i64 L[j].col)) →
    ∀ j u, (tkCells L)[j]? = some u → w.cell? ⟨g, o + j, none⟩ = some u := by
  intro L hc j u hu
  have hj : j < (tkCells L).length := by
    rcases Nat.lt_or_ge j (tkCells L).length with h | h
    · exact h
    · rw [List.getElem?_eq_none h] at hu; cases hu
  rw [tkCells_len] at hj
  have hq : j / 3 < L.length := by omega
  obtain ⟨a, b, c⟩ := hc (j / 3) hq
  obtain ⟨a', b', c'⟩ := Scan5.tkCells_at L (j / 3) hq
  rcases (show j = j / 3 * 3 ∨ j = j / 3 * 3 + 1 ∨ j = j / 3 * 3 + 2 by omega) with h | h | h
  · rw [h] at hu; rw [a'] at hu; rw [h]; rw [a, hu]
  · rw [h] at hu; rw [b'] at hu; rw [h]; rw [← Nat.add_assoc, b, hu]
  · rw [h] at hu; rw [c'] at hu; rw [h]; rw [← Nat.add_assoc, c, hu]
end Go.Proofs.YtccmlmahjgndbaaDoor.SynC
