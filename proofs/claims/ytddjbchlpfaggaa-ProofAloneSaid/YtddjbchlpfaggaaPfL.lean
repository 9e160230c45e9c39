/- The telling of a proof in memory: what was told, the steps, the boxes. -/
import Derived.Test.YtddjbchlpfaggaaPfK
namespace Go.Proofs.Ytddjbchlpfaggaa.PfL
open Go.RowKit Go.Lib Go.Proofs Go.Maps Go.Proofs.Ytddjbchlpfaggaa.SetQ Go.Proofs.Ytddjbchlpfaggaa.SetR Go.Proofs.Ytddjbchlpfaggaa.TblC Go.Proofs.Ytddjbchlpfaggaa.TblV Go.Proofs.Ytddjbchlpfaggaa.TblQ Go.Proofs.Ytddjbchlpfaggaa.SemB Go.Proofs.Ytddjbchlpfaggaa.SemC Go.Proofs.Ytddjbchlpfaggaa.SemD Go.Proofs.Ytddjbchlpfaggaa.SemGa Go.Proofs.Ytddjbchlpfaggaa.SemJ Go.Proofs.Ytddjbchlpfaggaa.PfM Go.Proofs.Ytddjbchlpfaggaa.PfN Go.Proofs.Ytddjbchlpfaggaa.PfO Go.Proofs.Ytddjbchlpfaggaa.PfA Go.Proofs.Ytddjbchlpfaggaa.PfB Go.Proofs.Ytddjbchlpfaggaa.PfC Go.Proofs.Ytddjbchlpfaggaa.PfJ
set_option linter.unusedVariables false
set_option linter.unusedSimpArgs false
/-- Steps as cells. -/
def cellsT (T : List Sp) : List Value := T.flatMap fun s => (Sp.cells s).toList
theorem cellsT_app (T D : List Sp) : cellsT (T ++ D) = cellsT T ++ cellsT D := by unfold cellsT; simp
theorem cellsT_len (T : List Sp) : (cellsT T).length = T.length * 4 := by
  induction T with
  | nil => rfl
  | cons u L ih => unfold cellsT at *; rw [List.flatMap_cons, List.length_append, ih, List.length_cons, Nat.succ_mul]; show 4 + _ = _; omega
theorem cellsT_at : ∀ (T : List Sp) (j k : Nat) (h : j < T.length), k < 4 → (cellsT T)[j * 4 + k]? = ((Sp.cells T[j]))[k]?
  | [], _, _, h, _ => absurd h (Nat.not_lt_zero _)
  | u :: L, 0, k, _, hk => by
    have e : cellsT (u :: L) = (Sp.cells u).toList ++ cellsT L := by unfold cellsT; simp
    rw [e, Nat.zero_mul, Nat.zero_add, List.getElem?_append_left (by show k < 4; exact hk)]
    simp
  | u :: L, j + 1, k, h, hk => by
    have e : cellsT (u :: L) = (Sp.cells u).toList ++ cellsT L := by unfold cellsT; simp
    have h6 : (Sp.cells u).toList.length = 4 := rfl
    rw [e, List.getElem?_append_right (by rw [h6]; omega), h6]
    have : (j + 1) * 4 + k - 4 = j * 4 + k := by omega
    rw [this, cellsT_at L j k (by simpa using h) hk]
    simp
/-- A slice value that reads as steps, wherever it lies. -/
def TG (w : World) (A : Option Addr) (T : List Sp) : Prop :=
  0 < T.length → ∃ g o, A = some ⟨g, o, none⟩ ∧ g < w.heap.size ∧ ∀ j, (h : j < T.length) → ∀ k, k < 4 → w.cell? ⟨g, o + j * 4 + k, none⟩ = (Sp.cells T[j])[k]?
theorem TG.below {w w' : World} {A : Option Addr} {T : List Sp} (h : TG w A T) (hb : Below w.heap.size w w') : TG w' A T := fun hp => by
  obtain ⟨g, o, hA, hg, hc⟩ := h hp
  exact ⟨g, o, hA, Nat.lt_of_lt_of_le hg hb.size, fun j hj k hk => (hb.cell (p := ⟨g, o + j * 4 + k, none⟩) hg).trans (hc j hj k hk)⟩
theorem tg_own {w : World} {B : Nat} {v : Value} {T : List Sp} {t : TypeId} (h : w.ownsRow B t 4 v T.length (cellsT T)) : ∃ A ca, v = .slice A T.length ca ∧ TG w A T := by
  have h0 := h
  rcases h.2 with ⟨rfl, hn⟩ | ⟨g, cap, cur, rfl, hb, hg, _⟩
  · exact ⟨none, 0, by rw [hn], fun hp => by omega⟩
  · refine ⟨_, cap, rfl, fun hp => ⟨g, 0, rfl, (Array.getElem?_eq_some_iff.1 hg).1, fun j hj k hk => ?_⟩⟩
    have hx := cellsT_at T j k hj hk
    have hs : k < (Sp.cells T[j]).size := by show k < 4; exact hk
    rw [Array.getElem?_eq_getElem hs] at hx ⊢
    have := h0.cells (g := g) rfl _ _ hx
    rw [Go.Proofs.Ytddjbchlpfaggaa.SemC.add_off] at this
    rw [Nat.zero_add]
    rw [Nat.zero_add] at this
    exact this
/-- What was told, as a map. -/
def tmap (told : List Fa) (f : Fa) : Option Value := if f ∈ told then some (.agg #[]) else none
theorem tmap_put (told : List Fa) (f : Fa) : putK (tmap told) f (.agg #[]) = tmap (told ++ [f]) := by
  funext g
  unfold putK tmap
  by_cases e : g = f
  · subst e; simp
  · simp [e]
theorem tg_cap {w : World} {B : Nat} {A : Option Addr} {ca n : Nat} {T : List Sp} {t : TypeId} (h : w.ownsRow B t 4 (.slice A n ca) T.length (cellsT T)) : T.length ≤ ca := by
  rcases h.2 with ⟨e, hn⟩ | ⟨g, cap, cur, e, _, _, hc, _⟩
  · omega
  · simp only [Value.slice.injEq] at e
    omega
structure Env where
  bs : Nat
  bm : Nat
  b : Nat
  n : Nat
  A : Option Addr
abbrev Box := Nat × Array Value × TypeId
structure Wt (W w : World) (v : Env) (c : Ctx) (told : List Fa) (T : List Sp) (sv : Value) (F : List Box) : Prop where
  bel : Below W.heap.size W w
  hs : w.heap[v.bs]? = some (.cells #[sv] 24 (0, 0))
  ug : UG W v.A c.L
  km : MapV w 53 fv v.b v.n (kmap c.kn)
  tm : MapV w 53 fv v.bm told.length (tmap told)
  ne : v.bm ≠ v.b
  row : w.ownsRow W.heap.size 30 4 sv T.length (cellsT T)
  up : W.heap.size ≤ v.bs ∧ W.heap.size ≤ v.bm
  F : ∀ p ∈ F, w.heap[p.1]? = some (.cells p.2.1 p.2.2 (0, 0)) ∧ p.1 ≠ v.bs ∧ sv.ownBlock ≠ some p.1
variable {W w : World} {v : Env} {c : Ctx} {told : List Fa} {T : List Sp} {sv : Value} {F : List Box}
theorem Wt.below {w' : World} (h : Wt W w v c told T sv F) (hb : Below w.heap.size w w') : Wt W w' v c told T sv F where
  bel := h.bel.trans (hb.mono h.bel.size)
  hs := (hb.block _ (lt_of h.hs)).trans h.hs
  ug := h.ug
  km := h.km.below hb
  tm := h.tm.below hb
  ne := h.ne
  row := own_keep h.row fun g hg => hb.block _ (lt_of (own_blk h.row hg).2.choose_spec)
  up := h.up
  F := fun p hp => ⟨(hb.block _ (lt_of (h.F p hp).1)).trans (h.F p hp).1, (h.F p hp).2⟩
theorem Wt.less {F' : List Box} (h : Wt W w v c told T sv F) (hF : ∀ p ∈ F', p ∈ F) : Wt W w v c told T sv F' := { h with F := fun p hp => h.F p (hF p hp) }
theorem Wt.old {w' : World} {g : Nat} {cs : Array Value} {t : TypeId} (h : Wt W w v c told T sv F) (hb : Below w.heap.size w w') (hg : w.heap.size ≤ g) (hx : w'.heap[g]? = some (.cells cs t (0, 0))) : Wt W w' v c told T sv ((g, cs, t) :: F) := by
  have h2 := h.below hb
  refine { h2 with F := fun p hp => ?_ }
  rcases List.mem_cons.1 hp with rfl | hp
  · refine ⟨hx, fun e => ?_, fun e => ?_⟩
    · have := lt_of h.hs; simp only at e; omega
    · have := lt_of (own_blk h.row e).2.choose_spec; simp only at this; omega
  · exact h2.F p hp
theorem Wt.box (h : Wt W w v c told T sv F) (cs : Array Value) (t : TypeId) : Wt W (w.alloc (.cells cs t)) v c told T sv ((w.heap.size, cs, t) :: F) :=
  h.old ((Below.refl _ _).alloc (Nat.le_refl _) _) (Nat.le_refl _) (heap_alloc_new w _)
/-- One more is told. -/
theorem Wt.tell {w' : World} {f : Fa} (h : Wt W w v c told T sv F) (hm : MapV w' 53 fv v.bm (told.length + 1) (tmap (told ++ [f]))) (ht : w.mapTurned w' v.bm) : Wt W w' v c (told ++ [f]) T sv F := by
  have hg := ht.grown
  obtain ⟨es, k, e⟩ := h.tm.blk
  have hk : ∀ {b : Nat}, b < w.heap.size → b ≠ v.bm → w'.heap[b]? = w.heap[b]? := fun {b} hb hne => hg.block b hb (fun e => hne (by simpa using e))
  exact {
    bel := h.bel.grown hg h.bel.size (fun k hk => by simp at hk; subst hk; exact h.up.2)
    hs := (hk (lt_of h.hs) (Ne.symm (map_ne e h.hs))).trans h.hs
    ug := h.ug
    km := h.km.heap (hk h.km.lt (Ne.symm h.ne))
    tm := by rw [List.length_append]; exact hm
    ne := h.ne
    row := own_keep h.row fun g hg2 => by
      obtain ⟨h1, cur, h2⟩ := own_blk h.row hg2
      exact hk (lt_of h2) (Ne.symm (map_ne e h2))
    up := h.up
    F := fun p hp => ⟨(hk (lt_of (h.F p hp).1) (Ne.symm (map_ne e (h.F p hp).1))).trans (h.F p hp).1, (h.F p hp).2⟩ }
/-- One step more. -/
theorem Wt.step {w' : World} {sv' : Value} {s : Sp} (h : Wt W w v c told T sv F) (hg : w.grownBy w' sv.ownBlock) (hm : Moves w sv.ownBlock sv'.ownBlock) (ho : w'.ownsRow W.heap.size 30 4 sv' (T.length + 1) (cellsT T ++ (Sp.cells s).toList)) :
    Wt W (w'.setCell ⟨v.bs, 0, none⟩ sv') v c told (T ++ [s]) sv' F := by
  have hk0 : ∀ {g : Nat} {o : Obj}, w.heap[g]? = some o → sv.ownBlock ≠ some g → w'.heap[g]? = some o := fun {g o} hx hne => (hg.block g (lt_of hx) (fun e => hne e.symm)).trans hx
  have hnr : ∀ {g : Nat} {o : Obj}, w.heap[g]? = some o → (∀ cur, o ≠ .cells cur 30 (0, 0)) → sv.ownBlock ≠ some g := fun {g o} hx hne q => by
    obtain ⟨_, cur, hc⟩ := own_blk h.row q
    rw [hc] at hx
    exact hne cur (by simpa using hx.symm)
  have hw := hk0 h.hs (hnr h.hs (fun cur q => by injection q with _ q2 _; exact absurd q2 (by show (_ : Nat) ≠ _; decide)))
  have hk : ∀ {g : Nat} {o : Obj}, w.heap[g]? = some o → sv.ownBlock ≠ some g → g ≠ v.bs → (w'.setCell ⟨v.bs, 0, none⟩ sv').heap[g]? = some o := fun {g o} hx hne hne2 =>
    (set_other w' _ _ _ hne2).trans (hk0 hx hne)
  obtain ⟨es, k1, e1⟩ := h.km.blk
  obtain ⟨es2, k2, e2⟩ := h.tm.blk
  have hcz : cellsT T ++ (Sp.cells s).toList = cellsT (T ++ [s]) := by rw [cellsT_app]; unfold cellsT; simp
  exact {
    bel := (h.bel.grown hg h.bel.size (fun k hk => (own_blk h.row hk).1)).setCell h.up.1 _
    hs := by rw [Go.heap_setCell_same _ _ _ _ _ _ hw]; rfl
    ug := h.ug
    km := h.km.heap ((hk e1 (hnr e1 (fun cur q => by cases q)) (map_ne e1 h.hs)).trans e1.symm)
    tm := h.tm.heap ((hk e2 (hnr e2 (fun cur q => by cases q)) (map_ne e2 h.hs)).trans e2.symm)
    ne := h.ne
    row := by
      rw [List.length_append, ← hcz]
      exact own_keep ho fun g hg2 => set_other w' _ _ _ (by
        obtain ⟨_, cur, hc⟩ := own_blk ho hg2
        exact ne_of_type hc hw (by show (_ : Nat) ≠ _; decide))
    up := h.up
    F := fun p hp => by
      obtain ⟨b1, b2, b3⟩ := h.F p hp
      refine ⟨hk b1 b3 b2, b2, fun e => ?_⟩
      rcases hm with hm | ⟨g', hm, hge⟩
      · exact b3 (hm.symm.trans e)
      · rw [hm] at e
        injection e with e
        have := lt_of b1
        omega }
theorem infoSt : (Try.prog.info? 30).map (fun i => (i.zero, i.size, i.bytes)) = some (some (.agg #[.int .i64 0, .int .i64 0, .int .i64 0, .int .i64 0]), 4, 32) := by kernel_rfl
theorem zeroU (w : World) : (zeroValue 71).run Try.prog w = .ok (.agg #[]) w := by kernel_rfl
/-- The boxes that the closure sees. -/
def consts (bt bk bg br bf bs bm b : Nat) (d0 d1 : Int) (A : Option Addr) (n ca : Nat) : List Box :=
  [(bt, #[.map (some bm)], 69), (bk, #[.map (some b)], 51), (bg, #[.int .i64 d0, .int .i64 d1, .slice A n ca], 50), (br, #[.slice A n ca], 23),
   (bf, #[.func (.func 29) #[] #[.pointer (some ⟨bt, 0, none⟩), .pointer (some ⟨bk, 0, none⟩), .pointer (some ⟨bg, 0, none⟩), .pointer (some ⟨br, 0, none⟩), .pointer (some ⟨bf, 0, none⟩), .pointer (some ⟨bs, 0, none⟩)]], 70)]
end Go.Proofs.Ytddjbchlpfaggaa.PfL
