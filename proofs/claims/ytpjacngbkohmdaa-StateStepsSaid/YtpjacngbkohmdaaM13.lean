/- A table's texts by place, all of them, and with more. -/
import Derived.Test.YtpjacngbkohmdaaM12
import Derived.Lib.AppendZeros
import Derived.Test.YtpjacngbkohmdaaM02
import Derived.Deep.LoopGhost
import Derived.Test.YtpjacngbkohmdaaM03
import Derived.Deep.QuietTactic
import Derived.BigQuiet
namespace Go.Proofs.Ytpjacngbkohmdaa.Tab7
set_option linter.unusedVariables false
set_option linter.unusedSimpArgs false
open Go.RowKit Go.Sort Go.Proofs Go.Proofs.Ytpjacngbkohmdaa.Plain Go.Proofs.Ytpjacngbkohmdaa.Tab1 Go.Proofs.Ytpjacngbkohmdaa.Tab2 Go.Proofs.Ytpjacngbkohmdaa.Tab3 Go.Proofs.Ytpjacngbkohmdaa.Tab4 Go.Proofs.Ytpjacngbkohmdaa.Tab5 Go.Proofs.Ytpjacngbkohmdaa.Tab6 Go.Proofs.Ytpjacngbkohmdaa.TabP
section
variable {P : Program} (w : World)
theorem run_append_of_nil (base : Nat) (t ty e : TypeId) (i : TypeInfo) (size : Nat) (ht : P.underlying t = some (.slice e)) (hi : P.info? e = some i)
    (v : Value) (n : Nat) (xs : List Value) (hown : w.ownsRow base e size v n xs) (c : Nat) : (Builtin.append_ #[t, t] ty #[v, .slice none 0 c]).run P w = .ok v w := by
  rcases hown.2 with ⟨rfl, rfl⟩ | ⟨g, cap, cur, rfl, _, _, hnc, _⟩
  · simp [Builtin.append_, run_underlying ht, sizeOf, typeInfo, hi, Builtin.lenOf, Builtin.firstCells]
  · simp [Builtin.append_, run_underlying ht, sizeOf, typeInfo, hi, Builtin.lenOf, Builtin.firstCells, hnc, storeCells]
theorem add_off (b off j : Nat) : ((⟨b, off, none⟩ : Addr).add j) = ⟨b, off + j, none⟩ := by
  unfold Addr.add
  split
  · rename_i h; subst h; rfl
  · simp
/-- append of a slice of texts onto a row of the call's own. -/
theorem run_append_src (base : Nat) (t ty e : TypeId) (i : TypeInfo) (z : Value) (ht : P.underlying t = some (.slice e)) (hi : P.info? e = some i) (hz : i.zero = some z)
    (hsize : i.size = 1) (hby : i.bytes = 16) (hzs : z.cells.size = 1)
    (v : Value) (L : List Str) (hown : w.ownsRow base e 1 v L.length (L.map encStr)) (A : Option Addr) (c : Nat) (T : List Str) (hr : SRow w A T)
    (hbig : L.length + T.length ≤ 1000000) (hbase : base ≤ w.heap.size) :
    ∃ v' w', (Builtin.append_ #[t, t] ty #[v, .slice A T.length c]).run P w = .ok v' w' ∧ w'.ownsRow base e 1 v' (L ++ T).length ((L ++ T).map encStr) ∧ w.grownBy w' v.ownBlock := by
  rcases A with _ | ad
  · have hm : T = [] := by
      rcases Nat.eq_zero_or_pos T.length with h0 | h0
      · exact List.eq_nil_of_length_eq_zero h0
      · obtain ⟨_, _, h, _⟩ := hr h0
        cases h
    subst hm
    exact ⟨v, w, run_append_of_nil w base t ty e i 1 ht hi v _ _ hown c, by simpa using hown, World.grownBy.refl w _⟩
  · have hcells : ∀ j u, (T.map encStr)[j]? = some u → w.cell? (ad.add j) = some u := by
      intro j u hu
      have hj : j < T.length := by
        rcases Nat.lt_or_ge j T.length with h | h
        · exact h
        · rw [List.getElem?_eq_none (by simpa using h)] at hu; cases hu
      obtain ⟨b, off, h, _, hc⟩ := hr (by omega)
      injection h with h
      subst h
      rw [add_off, hc j hj, ← hu, List.getElem?_map, List.getElem?_eq_getElem hj]
      rfl
    obtain ⟨v', w', hrun, h2, h3, _⟩ := run_append_own (P := P) w base t ty e i z 1 16 ht hi hz hsize hby hzs (by decide) v L.length (L.map encStr) hown ad T.length c (T.map encStr) (by simp) hcells
      (fun u hu => by
        obtain ⟨x, _, rfl⟩ := List.mem_map.1 hu
        rfl) (by unfold maxLen; omega) (by omega) hbase
    exact ⟨v', w', hrun, by rw [List.length_append, List.map_append]; exact h2, h3⟩
theorem wpList_append_src {ops : Array Oper} {rest : List Oper} {o : Oper} {a : Act} {Q : Exit → Act → World → Prop} (hgd : o.guard = none) (s x : Operand) (t : TypeId)
    (ho : o.op = .call { callee := .builtin .append, args := #[s, x], argTypes := #[t, t] })
    (base : Nat) (e : TypeId) (i : TypeInfo) (z : Value) (ht : P.underlying t = some (.slice e)) (hi : P.info? e = some i) (hz : i.zero = some z)
    (hsize : i.size = 1) (hby : i.bytes = 16) (hzs : z.cells.size = 1)
    (v : Value) (L : List Str) (hs : a.eval s = v) (hown : w.ownsRow base e 1 v L.length (L.map encStr)) (A : Option Addr) (c : Nat) (T : List Str) (hx : a.eval x = .slice A T.length c) (hr : SRow w A T)
    (hbig : L.length + T.length ≤ 1000000) (hbase : base ≤ w.heap.size)
    (h : ∀ v' w', w'.ownsRow base e 1 v' (L ++ T).length ((L ++ T).map encStr) → w.grownBy w' v.ownBlock → wpList P ops Q rest (a.put o.dst v') w') : wpList P ops Q (o :: rest) a w := by
  obtain ⟨v', w', hrun, h2, h3⟩ := run_append_src (P := P) w base t o.type e i z ht hi hz hsize hby hzs v L hown A c T hr hbig hbase
  exact Lib.wpList_append_run w hgd s x t t ho v _ hs hx v' w' hrun (h v' w' h2 h3)
end
end Go.Proofs.Ytpjacngbkohmdaa.Tab7
/- Rows of what fits tokens: closures over a word, or over a kind. -/
namespace Go.Proofs.Ytpjacngbkohmdaa.Qry4
set_option linter.unusedVariables false
set_option linter.unusedSimpArgs false
open Go.RowKit Go.Sort Go.Proofs Go.Proofs.Ytpjacngbkohmdaa.Plain Go.Proofs.Ytpjacngbkohmdaa.SynP Go.Proofs.Ytpjacngbkohmdaa.TabP Go.Proofs.Ytpjacngbkohmdaa.Tab1 Go.Proofs.Ytpjacngbkohmdaa.Grown Go.Proofs.Ytpjacngbkohmdaa.SynA Go.Proofs.Ytpjacngbkohmdaa.QryP
set_option linter.unusedVariables false
set_option linter.unusedSimpArgs false
inductive Ft where
  | word (s : Str)
  | kind (k : Int)
/-- A token that may stand there. -/
def Ft.fits (t : Tk) : Ft → Bool
  | .word s => decide (t.kind = 2) && decide (t.text = ⟨s.toArray⟩)
  | .kind k => decide (t.kind = k)
theorem heap_lt {w : World} {b : Nat} {o : Obj} (h : w.heap[b]? = some o) : b < w.heap.size := (Array.getElem?_eq_some_iff.1 h).1
theorem box_heap (wr : World) (o o2 : Obj) : ((wr.alloc o).alloc o2).heap[wr.heap.size]? = some o := (Below.heap_alloc _ _ _ (by simp)).trans (heap_alloc_new wr o)
end Go.Proofs.Ytpjacngbkohmdaa.Qry4
/- How many tokens fit, by contract. -/
namespace Go.Proofs.Ytpjacngbkohmdaa.Qry5
set_option linter.unusedVariables false
set_option linter.unusedSimpArgs false
open Go.RowKit Go.Sort Go.Proofs Go.Proofs.Ytpjacngbkohmdaa.Plain Go.Proofs.Ytpjacngbkohmdaa.SynP Go.Proofs.Ytpjacngbkohmdaa.TabP Go.Proofs.Ytpjacngbkohmdaa.Tab1 Go.Proofs.Ytpjacngbkohmdaa.Grown Go.Proofs.Ytpjacngbkohmdaa.SynA Go.Proofs.Ytpjacngbkohmdaa.SynE Go.Proofs.Ytpjacngbkohmdaa.QryP Go.Proofs.Ytpjacngbkohmdaa.Qry4
set_option linter.unusedVariables false
set_option linter.unusedSimpArgs false
theorem cell_block {w : World} {b : Nat} {v : Value} {t : TypeId} (h : w.heap[b]? = some (.cells #[v] t (0, 0))) : w.cell? ⟨b, 0, none⟩ = some v := by rw [Lib.cell_of_heap h]; rfl
/-- How many tokens, from the first one on, fit. -/
def agreeF : List Tk → List Ft → Nat
  | t :: L, f :: F => if f.fits t then agreeF L F + 1 else 0
  | _, _ => 0
theorem agreeF_le : ∀ (L : List Tk) (F : List Ft), agreeF L F ≤ L.length ∧ agreeF L F ≤ F.length
  | [], _ => by simp [agreeF]
  | _ :: _, [] => by simp [agreeF]
  | t :: L, f :: F => by
    have := agreeF_le L F
    unfold agreeF
    split <;> simp <;> omega
theorem agreeF_yes {L : List Tk} {F : List Ft} {k : Nat} (h1 : k < L.length) (h2 : k < F.length) (h : F[k].fits L[k] = true) : agreeF (L.drop k) (F.drop k) = agreeF (L.drop (k + 1)) (F.drop (k + 1)) + 1 := by
  rw [List.drop_eq_getElem_cons h1, List.drop_eq_getElem_cons h2]
  show (if _ then _ else _) = _
  rw [if_pos h]
theorem agreeF_no {L : List Tk} {F : List Ft} {k : Nat} (h1 : k < L.length) (h2 : k < F.length) (h : F[k].fits L[k] = false) : agreeF (L.drop k) (F.drop k) = 0 := by
  rw [List.drop_eq_getElem_cons h1, List.drop_eq_getElem_cons h2]
  show (if _ then _ else _) = _
  rw [if_neg (by rw [h]; simp)]
theorem agreeF_end {L : List Tk} {F : List Ft} {k : Nat} (h : ¬ (k < L.length ∧ k < F.length)) : agreeF (L.drop k) (F.drop k) = 0 := by
  by_cases h1 : k < L.length
  · have : F.drop k = [] := List.drop_of_length_le (by omega)
    rw [this]
    cases L.drop k <;> rfl
  · have : L.drop k = [] := List.drop_of_length_le (by omega)
    rw [this]; rfl
/-- A slice value that reads as these values. -/
def VRow (w : World) (A : Option Addr) (vs : List Value) : Prop :=
  0 < vs.length → ∃ g o, A = some ⟨g, o, none⟩ ∧ g < w.heap.size ∧ ∀ j, (h : j < vs.length) → w.cell? ⟨g, o + j, none⟩ = some vs[j]
theorem VRow.of_own {w : World} {B : Nat} {e : TypeId} {v : Value} {n : Nat} {vs : List Value} (h : w.ownsRow B e 1 v n vs) : ∃ A cap, v = .slice A n cap ∧ n ≤ cap ∧ VRow w A vs := by
  have hl : vs.length = n := by have := h.1; omega
  rcases h.2 with ⟨rfl, h0⟩ | ⟨g, cap, cur, rfl, hB, hh, hc, hm, hs, ht⟩
  · exact ⟨none, 0, by rw [h0], by omega, fun hp => by omega⟩
  · refine ⟨_, _, rfl, hc, fun hp => ⟨g, 0, rfl, (h.lt g rfl).2, fun j hj => ?_⟩⟩
    have e1 : (cur.toList.take (n * 1))[j]? = some vs[j] := by rw [ht]; exact List.getElem?_eq_getElem hj
    rw [List.getElem?_take_of_lt (by omega)] at e1
    rw [Lib.cell_of_heap hh, Nat.zero_add, ← Array.getElem?_toList]
    exact e1
theorem VRow.below {w w' : World} {A : Option Addr} {vs : List Value} (h : VRow w A vs) (hb : Below w.heap.size w w') : VRow w' A vs := fun hp => by
  obtain ⟨g, o, hA, hg, hc⟩ := h hp
  exact ⟨g, o, hA, Nat.lt_of_lt_of_le hg hb.size, fun j hj => (hb.cell (p := ⟨g, o + j, none⟩) hg).trans (hc j hj)⟩
/-- What follows where the k-th token fits, and where it doesn't. -/
theorem fits_word {t : Tk} {s : Str} : Ft.fits t (.word s) = (decide (t.kind = 2) && decide (t.text = ⟨s.toArray⟩)) := rfl
end Go.Proofs.Ytpjacngbkohmdaa.Qry5
