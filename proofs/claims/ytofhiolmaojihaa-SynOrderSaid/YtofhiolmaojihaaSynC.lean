/- append of a slice that reads as cells, onto a row of the call's own; a copy of tokens. -/
import Derived.Test.YtofhiolmaojihaaSynA
import Derived.Lib.AppendZeros
import Derived.OwnWalk
import Derived.WalkSpells
namespace Go.Proofs.Ytofhiolmaojihaa.SynC
open Go.RowKit Go.Sort Go.Proofs.Ytofhiolmaojihaa.Plain Go.Proofs.Ytofhiolmaojihaa.SynP Go.Proofs.Ytofhiolmaojihaa.SynQ Go.Proofs.Ytofhiolmaojihaa.Grown Go.Proofs.Ytofhiolmaojihaa.SynA Go.Proofs.Ytofhiolmaojihaa.Scan3
set_option linter.unusedVariables false
section
variable {P : Program} (w : World)
theorem run_append_from (base : Nat) (t ty e : TypeId) (i : TypeInfo) (z : Value) (size bytes : Nat) (ht : P.underlying t = some (.slice e)) (hi : P.info? e = some i) (hz : i.zero = some z)
    (hsize : i.size = size) (hby : i.bytes = bytes) (hzs : z.cells.size = size) (hsz : 0 < size) (v : Value) (n : Nat) (xs : List Value) (hown : w.ownsRow base e size v n xs)
    (A : Option Addr) (m c : Nat) (news : List Value) (hlen : news.length = m * size) (h0 : A = none → m = 0) (hA : ∀ ad, A = some ad → ∀ j u, news[j]? = some u → w.cell? (ad.add j) = some u) (h1 : ∀ u ∈ news, u.oneCell' = true)
    (h63 : n + m ≤ maxLen) (hbytes : (n + m) * bytes ≤ 140737488355328) (hbase : base ≤ w.heap.size) :
    ∃ v' w', (Builtin.append_ #[t, t] ty #[v, .slice A m c]).run P w = .ok v' w' ∧ w'.ownsRow base e size v' (n + m) (xs ++ news) ∧ w.grownBy w' v.ownBlock := by
  cases A with
  | none =>
    have hm := h0 rfl
    subst hm
    have hn : news = [] := List.eq_nil_of_length_eq_zero (by omega)
    subst hn
    refine ⟨v, w, ?_, by simpa using hown, World.grownBy.refl w _⟩
    rcases hown.2 with ⟨rfl, rfl⟩ | ⟨g, cap, cur, rfl, _, _, hnc, _⟩
    · simp [Builtin.append_, run_underlying ht, sizeOf, typeInfo, hi, Builtin.lenOf, Builtin.firstCells]
    · simp [Builtin.append_, run_underlying ht, sizeOf, typeInfo, hi, Builtin.lenOf, Builtin.firstCells, hnc, storeCells]
  | some ad =>
    obtain ⟨v', w', hrun, h2, h3, _⟩ := run_append_own (P := P) w base t ty e i z size bytes ht hi hz hsize hby hzs hsz v n xs hown ad m c news hlen (hA ad rfl) h1 h63 hbytes hbase
    exact ⟨v', w', hrun, h2, h3⟩
theorem wpList_append_from {ops : Array Oper} {rest : List Oper} {o : Oper} {a : Act} {Q : Exit → Act → World → Prop} (hgd : o.guard = none) (s x : Operand) (t : TypeId)
    (ho : o.op = .call { callee := .builtin .append, args := #[s, x], argTypes := #[t, t] })
    (base : Nat) (e : TypeId) (i : TypeInfo) (z : Value) (size bytes : Nat) (ht : P.underlying t = some (.slice e)) (hi : P.info? e = some i) (hz : i.zero = some z)
    (hsize : i.size = size) (hby : i.bytes = bytes) (hzs : z.cells.size = size) (hsz : 0 < size) (v : Value) (n : Nat) (xs : List Value) (hs : a.eval s = v) (hown : w.ownsRow base e size v n xs)
    (A : Option Addr) (m c : Nat) (news : List Value) (hx : a.eval x = .slice A m c) (hlen : news.length = m * size) (h0 : A = none → m = 0) (hA : ∀ ad, A = some ad → ∀ j u, news[j]? = some u → w.cell? (ad.add j) = some u) (h1 : ∀ u ∈ news, u.oneCell' = true)
    (h63 : n + m ≤ maxLen) (hbytes : (n + m) * bytes ≤ 140737488355328) (hbase : base ≤ w.heap.size)
    (h : ∀ v' w', w'.ownsRow base e size v' (n + m) (xs ++ news) → w.grownBy w' v.ownBlock → wpList P ops Q rest (a.put o.dst v') w') : wpList P ops Q (o :: rest) a w := by
  obtain ⟨v', w', hrun, h2, h3⟩ := run_append_from (P := P) w base t o.type e i z size bytes ht hi hz hsize hby hzs hsz v n xs hown A m c news hlen h0 hA h1 h63 hbytes hbase
  exact Lib.wpList_append_run w hgd s x t t ho v _ hs hx v' w' hrun (h v' w' h2 h3)
end
theorem add_off (b off j : Nat) : ((⟨b, off, none⟩ : Addr).add j) = ⟨b, off + j, none⟩ := by
  unfold Addr.add
  split
  · rename_i h; subst h; rfl
  · simp
theorem own_empty (w : World) (t : TypeId) (size : Nat) : (w.alloc (.cells #[] t)).ownsRow w.heap.size t size (.slice (some ⟨w.heap.size, 0, none⟩) 0 0) 0 [] := by
  refine ⟨by simp, .inr ⟨w.heap.size, 0, #[], rfl, Nat.le_refl _, heap_alloc_new w _, by omega, ?_⟩⟩
  simp
theorem tkCells_cons (t : Tk) (L : List Tk) : tkCells (t :: L) = t.cells ++ tkCells L := by unfold tkCells; simp
theorem tkCells_len (L : List Tk) : (tkCells L).length = L.length * 3 := by
  induction L with
  | nil => rfl
  | cons t L ih => rw [tkCells_cons, List.length_append, ih, List.length_cons, Nat.succ_mul]; show 3 + _ = _; omega
theorem tkCells_one (L : List Tk) : ∀ u ∈ tkCells L, u.oneCell' = true := by
  intro u hu
  unfold tkCells at hu
  rw [List.mem_flatten] at hu
  obtain ⟨l, hl, hu⟩ := hu
  obtain ⟨t, _, rfl⟩ := List.mem_map.1 hl
  simp [Tk.cells] at hu
  rcases hu with rfl | rfl | rfl <;> rfl
/-- Cells of tokens, one by one. -/
theorem tkCells_get {w : World} {g o : Nat} : ∀ (L : List Tk), (∀ j, (h : j < L.length) → w.cell? ⟨g, o + j * 3, none⟩ = some (.int .i64 L[j].kind) ∧ w.cell? ⟨g, o + j * 3 + 1, none⟩ = some (.string L[j].text) ∧ w.cell? ⟨g, o + j * 3 + 2, none⟩ = some (.int .i64 L[j].col)) →
    ∀ j u, (tkCells L)[j]? = some u → w.cell? ⟨g, o + j, none⟩ = some u := by
  intro L hc j u hu
  have hj : j < (tkCells L).length := by
    rcases Nat.lt_or_ge j (tkCells L).length with h | h
    · exact h
    · rw [List.getElem?_eq_none h] at hu; cases hu
  rw [tkCells_len] at hj
  have hq : j / 3 < L.length := by omega
  obtain ⟨a, b, c⟩ := hc (j / 3) hq
  obtain ⟨a', b', c'⟩ := Scan5.tkCells_at L (j / 3) hq
  rcases (show j = j / 3 * 3 ∨ j = j / 3 * 3 + 1 ∨ j = j / 3 * 3 + 2 by omega) with h | h | h
  · rw [h] at hu; rw [a'] at hu; rw [h]; rw [a, hu]
  · rw [h] at hu; rw [b'] at hu; rw [h]; rw [← Nat.add_assoc, b, hu]
  · rw [h] at hu; rw [c'] at hu; rw [h]; rw [← Nat.add_assoc, c, hu]
def ClonePost (L : List Tk) (w : World) (e : Ending) (w' : World) : Prop := ∃ v, e = .returned v ∧ w'.ownsRow w.heap.size 52 3 v L.length (tkCells L) ∧ Below w.heap.size w w'
set_option maxRecDepth 100000 in
theorem cloneTk (A : Option Addr) (ca : Nat) (L : List Tk) (w : World) (hL : L.length ≤ 100000) (hA : TkAt w A L) : Calls Try.prog 60 #[.slice A L.length ca] w (ClonePost L w) := by
  obtain ⟨i0, hi, hz0, hz1, hz2⟩ := info_parts infoTok
  cases A with
  | none =>
    have : L = [] := by
      rcases Nat.eq_zero_or_pos L.length with h | h
      · exact List.eq_nil_of_length_eq_zero h
      · obtain ⟨g, o, h, _⟩ := hA h; cases h
    subst this
    have es := fun (w : World) (a : Option Addr) (n c : Nat) => Lib.run_eql_slice_nil (P := Try.prog) w 46 52 a n c 0 0 Try.underlying46
    go_enter Try.func60, Try.ntmps60
    go_wp2_with fail
    go_ret
    exact ⟨_, rfl, World.ownsRow_nil _ _ _ _, Below.refl _ _⟩
  | some ad =>
    have hcells : ∀ ad', some ad = some ad' → ∀ j u, (tkCells L)[j]? = some u → (w.alloc (.cells #[] 52)).cell? (ad'.add j) = some u := by
      rintro ad' ⟨⟩ j u hu
      have hj : 0 < L.length := by
        rcases Nat.eq_zero_or_pos L.length with h | h
        · have : L = [] := List.eq_nil_of_length_eq_zero h
          subst this; simp [tkCells] at hu
        · exact h
      obtain ⟨g, o, h, hg, hc⟩ := hA hj
      injection h with h
      subst h
      rw [add_off, World.cell?_alloc_past _ _ _ hg]
      exact tkCells_get L hc j u hu
    have Hc := Lib.hid hcells
    clear hcells hA
    have es := fun (w : World) (a : Option Addr) (n c : Nat) => Lib.run_eql_slice_nil (P := Try.prog) w 46 52 a n c 0 0 Try.underlying46
    go_enter Try.func60, Try.ntmps60
    go_wp2_with (at_builtin; refine wpList_append_from _ rfl _ _ 46 rfl w.heap.size 52 i0 (.agg #[.int .i64 0, .string ⟨#[]⟩, .int .i64 0]) 3 32 Try.underlying46 hi hz0 hz1 hz2 rfl (by decide) _ _ _ rfl (own_empty w _ 3) (some ad) L.length ca (tkCells L) rfl (tkCells_len L) (fun h => by cases h) Hc.out (tkCells_one L) (by unfold maxLen; omega) (by omega) (by simp) ?_)
    intro v' w1 hown hgrow
    have hb : Below w.heap.size w w1 := ((Below.refl _ _).alloc (Nat.le_refl _) _).grown hgrow (by simp) (fun k hk => by simp [Value.ownBlock] at hk; omega)
    go_wp2_with fail
    go_ret
    exact ⟨_, rfl, by simpa using hown, hb⟩
end Go.Proofs.Ytofhiolmaojihaa.SynC
