/- The search in memory: its map of what is known, its queue, the watches of each role; what a step leaves of it. -/
import Derived.Test.YtddjbchlpfaggaaPfO
import Derived.Test.YtddjbchlpfaggaaPfA
import Derived.Test.YtddjbchlpfaggaaPfT
namespace Go.Proofs.Ytddjbchlpfaggaa.PfB
open Go.RowKit Go.Lib Go.Proofs Go.Maps Go.Proofs.Ytddjbchlpfaggaa.SetQ Go.Proofs.Ytddjbchlpfaggaa.SetR Go.Proofs.Ytddjbchlpfaggaa.TblC Go.Proofs.Ytddjbchlpfaggaa.TblV Go.Proofs.Ytddjbchlpfaggaa.SemB Go.Proofs.Ytddjbchlpfaggaa.SemC Go.Proofs.Ytddjbchlpfaggaa.SemD Go.Proofs.Ytddjbchlpfaggaa.PfM Go.Proofs.Ytddjbchlpfaggaa.PfA
set_option linter.unusedVariables false
set_option linter.unusedSimpArgs false
/-- A slice value, of the call's own, that reads as pairs: it may begin within its block. -/
def Qu (w : World) (base : Nat) (v : Value) (L : List Fa) : Prop :=
  (v = .slice none 0 0 ∧ L = []) ∨ ∃ g o cap cur, v = .slice (some ⟨g, o, none⟩) L.length cap ∧ base ≤ g ∧ w.heap[g]? = some (.cells cur 53 (0, 0)) ∧ L.length ≤ cap ∧ cap ≤ maxLen ∧ o + cap * 2 ≤ cur.size ∧ ∀ j, (h : j < L.length) → cur[o + j * 2]? = some (.int .i64 L[j].1) ∧ cur[o + j * 2 + 1]? = some (.int .i64 L[j].2)
theorem Qu.keep {w w' : World} {base : Nat} {v : Value} {L : List Fa} (h : Qu w base v L) (hk : ∀ g, v.ownBlock = some g → w'.heap[g]? = w.heap[g]?) : Qu w' base v L := by
  rcases h with h | ⟨g, o, cap, cur, rfl, hb, hg, r⟩
  · exact .inl h
  · exact .inr ⟨g, o, cap, cur, rfl, hb, (hk g rfl).trans hg, r⟩
theorem Qu.blk {w : World} {base : Nat} {v : Value} {L : List Fa} (h : Qu w base v L) {g : Nat} (hg : v.ownBlock = some g) : base ≤ g ∧ ∃ cur, w.heap[g]? = some (.cells cur 53 (0, 0)) := by
  rcases h with ⟨rfl, _⟩ | ⟨g', o, cap, cur, rfl, hb, hh, r⟩
  · simp [Value.ownBlock] at hg
  · simp [Value.ownBlock] at hg
    subst hg
    exact ⟨hb, cur, hh⟩
theorem infoFa : (Try.prog.info? 53).map (fun i => (i.zero, i.size, i.bytes)) = some (some (.agg #[.int .i64 0, .int .i64 0]), 2, 16) := by kernel_rfl
/-- One who came in is put behind the queue. -/
theorem run_append_qu {w : World} {base : Nat} {qv : Value} {q : List Fa} (ty : TypeId) (hq : Qu w base qv q) (hb : base ≤ w.heap.size) (hl : q.length ≤ 100000000) (r x : Int) (ad : Addr) (c : Nat)
    (hnews : ∀ j u, ([.int .i64 r, .int .i64 x] : List Value)[j]? = some u → w.cell? (ad.add j) = some u) :
    ∃ v' w', (Builtin.append_ #[60, 60] ty #[qv, .slice (some ad) 1 c]).run Try.prog w = .ok v' w' ∧ Qu w' base v' (q ++ [(r, x)]) ∧ w.grownBy w' qv.ownBlock ∧ Moves w qv.ownBlock v'.ownBlock := by
  obtain ⟨i0, hi, hz0, hz1, hz2⟩ := info_parts infoFa
  have hm : maxLen = 9223372036854775807 := rfl
  rcases hq with ⟨rfl, rfl⟩ | ⟨g, o, cap, cur, rfl, hB, hg, hc, hcm, hs, hat⟩
  · have hr := run_append_nil (P := Try.prog) w 60 ty 53 i0 (.agg #[.int .i64 0, .int .i64 0]) Try.underlying60 hi hz0 ad 1 c [.int .i64 r, .int .i64 x] (by rw [hz1]; rfl) hnews (by omega) (by omega) (by rw [hz2]; omega)
    refine ⟨_, _, hr, .inr ⟨w.heap.size, 0, _, _, rfl, hb, heap_alloc_new w.drew _, grownCap_ge w 1 0 _, grownCap_le_maxLen w 1 0 _ (by omega), ?_, ?_⟩, ⟨rfl, rfl, rfl, by simp, fun k hk _ => heap_alloc_old w.drew _ hk⟩, .inr ⟨_, rfl, Nat.le_refl _⟩⟩
    · have := grownCap_ge w 1 0 53
      have h2 : (Value.agg #[.int .i64 0, .int .i64 0]).cells.size = 2 := rfl
      simp only [Array.size_append, List.size_toArray, size_zeroCells, h2, List.length_cons, List.length_nil]
      omega
    · intro j hj
      have : j = 0 := by simp at hj; omega
      subst this
      exact ⟨by rw [Array.getElem?_append_left (by simp)]; rfl, by rw [Array.getElem?_append_left (by simp)]; rfl⟩
  · have hcs : cur.toList.length = cur.size := by simp
    by_cases hroom : q.length + 1 ≤ cap
    · have hr := run_append_room_off (P := Try.prog) w 60 ty 53 i0 Try.underlying60 hi g o q.length cap cur hg ad 1 c [.int .i64 r, .int .i64 x] (by rw [hz1]; rfl) hnews (fun u hu => by simp at hu; rcases hu with rfl | rfl <;> rfl) hroom (by rw [hz1]; simp; omega)
      rw [hz1] at hr
      have hsz : (cur.toList.take (o + q.length * 2) ++ [Value.int .i64 r, .int .i64 x] ++ cur.toList.drop (o + q.length * 2 + 2)).length = cur.size := by
        simp only [List.length_append, List.length_take, List.length_drop, Array.length_toList, List.length_cons, List.length_nil]
        omega
      refine ⟨_, _, hr, .inr ⟨g, o, cap, _, by rw [List.length_append]; rfl, hB, setRow_heap w g cur _ _ _ hg, by rw [List.length_append]; exact hroom, hcm, by simp only [List.size_toArray]; exact Nat.le_trans hs (Nat.le_of_eq hsz.symm), ?_⟩, ⟨rfl, rfl, rfl, by simp, fun k _ hk => setRow_other w g k _ (fun e => hk (by simp [Value.ownBlock, e]))⟩, .inl rfl⟩
      intro j hj
      have htl : (cur.toList.take (o + q.length * 2)).length = o + q.length * 2 := by rw [List.length_take, hcs]; omega
      simp only [List.getElem?_toArray, List.append_assoc]
      by_cases hjl : j < q.length
      · obtain ⟨a1, a2⟩ := hat j hjl
        rw [List.getElem?_append_left (by rw [htl]; omega), List.getElem?_append_left (by rw [htl]; omega), List.getElem?_take_of_lt (by omega), List.getElem?_take_of_lt (by omega), List.getElem_append_left hjl]
        simp only [Array.getElem?_toList]
        exact ⟨a1, a2⟩
      · have : j = q.length := by simp at hj; omega
        subst this
        obtain ⟨m1, m2⟩ := mid_two (cur.toList.take (o + q.length * 2)) (cur.toList.drop (o + q.length * 2 + 2)) (.int .i64 r) (.int .i64 x) htl
        refine ⟨m1.trans ?_, m2.trans ?_⟩ <;> simp
    · have hcl : ∀ j u, (encP q)[j]? = some u → w.cell? ((⟨g, o, none⟩ : Addr).add j) = some u := fun j u hu => by
        have hj : j < q.length * 2 := by
          rw [← encP_len]
          rcases Nat.lt_or_ge j (encP q).length with h | h
          · exact h
          · rw [List.getElem?_eq_none h] at hu; cases hu
        obtain ⟨b1, b2⟩ := encP_at q (j / 2) (by omega)
        obtain ⟨a1, a2⟩ := hat (j / 2) (by omega)
        rw [add_off, Lib.cell_of_heap hg]
        rcases (by omega : j = j / 2 * 2 ∨ j = j / 2 * 2 + 1) with e | e
        · rw [← e] at a1 b1; rw [a1, ← b1, hu]
        · rw [Nat.add_assoc, ← e] at a2; rw [← e] at b2; rw [a2, ← b2, hu]
      have hr := run_append_grow (P := Try.prog) w 60 ty 53 i0 (.agg #[.int .i64 0, .int .i64 0]) Try.underlying60 hi hz0 ⟨g, o, none⟩ q.length cap (encP q) (by rw [hz1, encP_len]) hcl ad 1 c [.int .i64 r, .int .i64 x] (by rw [hz1]; rfl) hnews (by omega) (by omega) (growslice_fits (by omega) (by rw [hz2]; omega))
      have hge := grownCap_ge w (q.length + 1) cap 53
      refine ⟨_, _, hr, .inr ⟨w.heap.size, 0, _, _, by rw [List.length_append]; rfl, hb, heap_alloc_new w.drew _, by rw [List.length_append]; exact hge, grownCap_le_maxLen w (q.length + 1) cap _ (by omega), ?_, ?_⟩, ⟨rfl, rfl, rfl, by simp, fun k hk _ => heap_alloc_old w.drew _ hk⟩, .inr ⟨_, rfl, Nat.le_refl _⟩⟩
      · have h2 : (Value.agg #[.int .i64 0, .int .i64 0]).cells.size = 2 := rfl
        simp only [Array.size_append, List.size_toArray, size_zeroCells, h2, List.length_cons, List.length_nil, encP_len]
        omega
      · intro j hj
        have e : (encP q).toArray ++ #[Value.int .i64 r, .int .i64 x] = (encP (q ++ [(r, x)])).toArray := by rw [encP_app]; simp [encP]
        have e2 : (encP q).toArray ++ [Value.int .i64 r, .int .i64 x].toArray = (encP (q ++ [(r, x)])).toArray := e
        rw [e2]
        obtain ⟨b1, b2⟩ := encP_at (q ++ [(r, x)]) j hj
        have hsz : (encP (q ++ [(r, x)])).toArray.size = (q ++ [(r, x)]).length * 2 := by simp [encP_len]
        rw [Array.getElem?_append_left (by rw [hsz]; omega), Array.getElem?_append_left (by rw [hsz]; omega), Nat.zero_add]
        simp only [List.getElem?_toArray]
        exact ⟨b1, b2⟩
/-- The queue's head, and what is behind it. -/
theorem qu_pop {w : World} {base : Nat} {qv : Value} {cur : Fa} {rest : List Fa} (h : Qu w base qv (cur :: rest)) : ∃ g o cap, qv = .slice (some ⟨g, o, none⟩) (rest.length + 1) cap ∧ rest.length + 1 ≤ cap ∧ cap ≤ maxLen ∧
    ∀ w', Qu w' base qv (cur :: rest) → w'.cell? ⟨g, o, none⟩ = some (.int .i64 cur.1) ∧ w'.cell? ⟨g, o + 1, none⟩ = some (.int .i64 cur.2) ∧ (cap = 1 → Qu w' base (.slice (some ⟨g, o, none⟩) 0 0) rest) ∧ (cap ≠ 1 → Qu w' base (.slice (some ⟨g, o + 2, none⟩) rest.length (cap - 1)) rest) := by
  rcases h with ⟨rfl, h0⟩ | ⟨g, o, cap, arr, rfl, hb, hh, hc, hm, hs, hat⟩
  · cases h0
  · simp only [List.length_cons] at hc
    refine ⟨g, o, cap, rfl, hc, hm, fun w' h' => ?_⟩
    rcases h' with ⟨e, _⟩ | ⟨g', o', cap', arr', e, hb', hh', hc', hm', hs', hat'⟩
    · cases e
    · injection e with e1 e2 e3
      injection e1 with e1
      injection e1 with e1 e4 _
      subst e1; subst e3; subst e4
      obtain ⟨a1, a2⟩ := hat' 0 (by simp)
      rw [Nat.zero_mul, Nat.add_zero] at a1 a2
      refine ⟨by rw [Lib.cell_of_heap hh']; exact a1, by rw [Lib.cell_of_heap hh']; exact a2, fun hc1 => ?_, fun hc1 => ?_⟩
      · have hr : rest = [] := List.eq_nil_of_length_eq_zero (by omega)
        subst hr
        exact .inr ⟨g, o, 0, arr', rfl, hb', hh', Nat.le_refl _, Nat.zero_le _, by omega, fun j hj => by simp at hj⟩
      · refine .inr ⟨g, o + 2, cap - 1, arr', rfl, hb', hh', by omega, by omega, by omega, fun j hj => ?_⟩
        obtain ⟨b1, b2⟩ := hat' (j + 1) (by simp; omega)
        have e5 : o + (j + 1) * 2 = o + 2 + j * 2 := by omega
        rw [e5] at b1 b2
        exact ⟨b1, b2⟩

def Sp.cells (s : Sp) : Array Value := #[.int .i64 s.rule, .int .i64 s.role, .int .i64 s.who, .int .i64 s.mid]
def Sp.val (s : Sp) : Value := .agg #[.int .i64 s.rule, .int .i64 s.role, .int .i64 s.who, .int .i64 s.mid]
/-- What is known, as a map. -/
def kmap (kn : List Sp) (f : Fa) : Option Value := (kn.find? fun s => decide (s.fa = f)).map Sp.val
theorem kmap_some (kn : List Sp) (f : Fa) : (kmap kn f).isSome = hasS kn f := by
  unfold kmap hasS
  rw [Option.isSome_map]
  induction kn with
  | nil => rfl
  | cons s l ih =>
    rw [List.find?_cons, List.any_cons]
    cases decide (s.fa = f)
    · simpa using ih
    · rfl
theorem kmap_put {kn : List Sp} {s : Sp} (h : hasS kn s.fa = false) : putK (kmap kn) s.fa (Sp.val s) = kmap (kn ++ [s]) := by
  funext g
  unfold putK
  by_cases e : g = s.fa
  · subst e
    rw [if_pos rfl]
    unfold kmap
    have hn : kn.find? (fun x => decide (x.fa = s.fa)) = none := by
      rw [List.find?_eq_none]
      intro x hx q
      have : hasS kn s.fa = true := hasS_iff.2 ⟨x, hx, by simpa using q⟩
      rw [h] at this
      cases this
    rw [List.find?_append, hn]
    simp
  · rw [if_neg e]
    unfold kmap
    rw [List.find?_append]
    cases kn.find? (fun x => decide (x.fa = g)) with
    | some x => rfl
    | none => simp [Ne.symm e]
def nilS : Value := .slice none 0 0
def rowV (M : Int → Option Value) (r : Int) : Value := (M r).getD nilS
/-- Where the search lies, and its numbers. -/
structure Ad where
  ws : Nat
  bk : Nat
  bw : Nat
  d0 : Int
  d1 : Int
  A : Option Addr
  ca : Nat
  L : List Ru
/-- The search in memory, above W. -/
structure Wk (W w : World) (a : Ad) (kn : List Sp) (q : List Fa) (wt : Int → List (Int × Int)) (nw : Nat) (qv : Value) (M : Int → Option Value) : Prop where
  bel : Below W.heap.size W w
  wb : w.heap[a.ws]? = some (.cells #[.int .i64 a.d0, .int .i64 a.d1, .slice a.A a.L.length a.ca, .map (some a.bk), qv, .map (some a.bw)] 81 (0, 0))
  ug : UG W a.A a.L
  km : MapV w 53 fv a.bk kn.length (kmap kn)
  wm : MapV w 3 iv a.bw nw M
  ne : a.bk ≠ a.bw
  qu : Qu w W.heap.size qv q
  rows : ∀ r, w.ownsRow W.heap.size 100 2 (rowV M r) (wt r).length (encP (wt r))
  apart : ∀ r s, r ≠ s → ∀ g, (rowV M r).ownBlock = some g → (rowV M s).ownBlock ≠ some g
  up : W.heap.size ≤ a.ws ∧ W.heap.size ≤ a.bk ∧ W.heap.size ≤ a.bw
variable {W w : World} {a : Ad} {kn : List Sp} {q : List Fa} {wt : Int → List (Int × Int)} {nw : Nat} {qv : Value} {M : Int → Option Value}
/-- All cells of the blocks that the search stands on but b stay. -/
theorem Wk.keep {w' : World} (h : Wk W w a kn q wt nw qv M) (hbel : Below W.heap.size W w') (hk : ∀ b o, w.heap[b]? = some o → W.heap.size ≤ b → w'.heap[b]? = some o) : Wk W w' a kn q wt nw qv M where
  bel := hbel
  wb := hk _ _ h.wb h.up.1
  ug := h.ug
  km := h.km.heap (by obtain ⟨es, c, e⟩ := h.km.blk; rw [hk _ _ e h.up.2.1, e])
  wm := h.wm.heap (by obtain ⟨es, c, e⟩ := h.wm.blk; rw [hk _ _ e h.up.2.2, e])
  ne := h.ne
  qu := h.qu.keep fun g hg => by
    obtain ⟨h1, cur, h2⟩ := h.qu.blk hg
    rw [hk _ _ h2 h1, h2]
  rows := fun r => own_keep (h.rows r) fun g hg => by
    obtain ⟨h1, cur, h2⟩ := own_blk (h.rows r) hg
    rw [hk _ _ h2 h1, h2]
  apart := h.apart
  up := h.up
theorem Wk.below {w' : World} (h : Wk W w a kn q wt nw qv M) (hb : Below w.heap.size w w') : Wk W w' a kn q wt nw qv M :=
  h.keep (h.bel.trans (hb.mono h.bel.size)) fun b o e _ => (hb.block _ (lt_of e)).trans e
theorem obj_ne {w : World} {b c : Nat} {o o' : Obj} (h : w.heap[b]? = some o) (h' : w.heap[c]? = some o') (hne : o ≠ o') : b ≠ c := by
  rintro rfl
  rw [h] at h'
  exact hne (by simpa using h')
theorem map_ne {w : World} {b c : Nat} {es : Array MapEntry} {k : Nat} {x : Array Value} {t : TypeId} {f : Nat × Nat} (h : w.heap[b]? = some (.map es k)) (h' : w.heap[c]? = some (.cells x t f)) : b ≠ c :=
  obj_ne h h' (by simp)
/-- A step more is known. -/
theorem Wk.know {w' : World} {s : Sp} (h : Wk W w a kn q wt nw qv M) (hm : MapV w' 53 fv a.bk (kn.length + 1) (kmap (kn ++ [s]))) (ht : w.mapTurned w' a.bk) : Wk W w' a (kn ++ [s]) q wt nw qv M := by
  have hg := ht.grown
  obtain ⟨es, c, e⟩ := h.km.blk
  have hk : ∀ {b : Nat}, b < w.heap.size → b ≠ a.bk → w'.heap[b]? = w.heap[b]? := fun {b} hb hne => hg.block b hb (fun e => hne (by simpa using e))
  exact {
    bel := h.bel.grown hg h.bel.size (fun k hk => by simp at hk; subst hk; exact h.up.2.1)
    wb := (hk (lt_of h.wb) (Ne.symm (map_ne e h.wb))).trans h.wb
    ug := h.ug
    km := by rw [List.length_append]; exact hm
    wm := h.wm.heap (hk h.wm.lt (Ne.symm h.ne))
    ne := h.ne
    qu := h.qu.keep fun g hg2 => by
      obtain ⟨h1, cur, h2⟩ := h.qu.blk hg2
      exact hk (lt_of h2) (Ne.symm (map_ne e h2))
    rows := fun r => own_keep (h.rows r) fun g hg2 => by
      obtain ⟨h1, cur, h2⟩ := own_blk (h.rows r) hg2
      exact hk (lt_of h2) (Ne.symm (map_ne e h2))
    apart := h.apart
    up := h.up }
/-- Another queue. -/
theorem Wk.queue {w' : World} {q' : List Fa} {qv' : Value} (h : Wk W w a kn q wt nw qv M) (hg : w.grownBy w' qv.ownBlock) (hq : Qu w' W.heap.size qv' q') : Wk W (w'.setCell ⟨a.ws, 4, none⟩ qv') a kn q' wt nw qv' M := by
  have hk0 : ∀ {g : Nat} {o : Obj}, w.heap[g]? = some o → (∀ cur, o ≠ .cells cur 53 (0, 0)) → w'.heap[g]? = w.heap[g]? := fun {g o} hx hne =>
    hg.block g (lt_of hx) (fun e => by
      obtain ⟨_, cur, hc⟩ := h.qu.blk e.symm
      rw [hc] at hx
      exact hne cur (by simpa using hx.symm))
  have hw := (hk0 h.wb (fun cur q => by injection q with _ q2 _; exact absurd q2 (by show (_ : Nat) ≠ _; decide))).trans h.wb
  have hk : ∀ {g : Nat} {o : Obj}, w.heap[g]? = some o → (∀ cur, o ≠ .cells cur 53 (0, 0)) → g ≠ a.ws → (w'.setCell ⟨a.ws, 4, none⟩ qv').heap[g]? = w.heap[g]? := fun {g o} hx hne hne2 =>
    (set_other w' _ _ _ hne2).trans (hk0 hx hne)
  obtain ⟨es, c, e⟩ := h.km.blk
  obtain ⟨es2, c2, e2⟩ := h.wm.blk
  exact {
    bel := (h.bel.grown hg h.bel.size (fun k hk => (h.qu.blk hk).1)).setCell h.up.1 _
    wb := by rw [heap_setCell_same _ _ _ _ _ _ hw]; rfl
    ug := h.ug
    km := h.km.heap (hk e (fun cur q => by cases q) (map_ne e h.wb))
    wm := h.wm.heap (hk e2 (fun cur q => by cases q) (map_ne e2 h.wb))
    ne := h.ne
    qu := hq.keep fun g hg => set_other w' _ _ _ (by
      obtain ⟨_, cur, hc⟩ := hq.blk hg
      exact (ne_of_type hc hw (by show (_ : Nat) ≠ _; decide)))
    rows := fun r => own_keep (h.rows r) fun g hg2 => by
      obtain ⟨h1, cur, h2⟩ := own_blk (h.rows r) hg2
      exact hk h2 (fun cur q => by injection q with _ q2 _; exact absurd q2 (by show (_ : Nat) ≠ _; decide)) (ne_of_type h2 h.wb (by show (_ : Nat) ≠ _; decide))
    apart := h.apart
    up := h.up }
def watchF (wt : Int → List (Int × Int)) (r : Int) (x : Int × Int) : Int → List (Int × Int) := fun i => if i = r then wt i ++ [x] else wt i
theorem rowV_put (M : Int → Option Value) (r : Int) (v : Value) (i : Int) : rowV (putK M r v) i = if i = r then v else rowV M i := by
  unfold rowV putK
  split <;> rfl
/-- One more watches: the row was appended to, then the map took it. -/
theorem Wk.watch {w1 w' : World} {r : Int} {v' : Value} {x : Int × Int} (h : Wk W w a kn q wt nw qv M) (hg : w.grownBy w1 (rowV M r).ownBlock) (hm : Moves w (rowV M r).ownBlock v'.ownBlock)
    (ho : w1.ownsRow W.heap.size 100 2 v' ((wt r).length + 1) (encP (wt r) ++ [.int .i64 x.1, .int .i64 x.2]))
    (hv : MapV w' 3 iv a.bw (nw + 1) (putK M r v')) (ht : w1.mapTurned w' a.bw) : Wk W w' a kn q (watchF wt r x) (nw + 1) qv (putK M r v') := by
  have hrow := h.rows r
  have hg2 := ht.grown
  obtain ⟨es, c, e⟩ := h.km.blk
  obtain ⟨es2, c2, e2⟩ := h.wm.blk
  have hk0 : ∀ {g : Nat} {o : Obj}, w.heap[g]? = some o → (rowV M r).ownBlock ≠ some g → w1.heap[g]? = some o := fun {g o} hx hne =>
    (hg.block g (lt_of hx) (fun e => hne e.symm)).trans hx
  have hb1 := hk0 e2 (fun q => by
    obtain ⟨_, cur, hc⟩ := own_blk hrow q
    exact map_ne e2 hc rfl)
  have hk1 : ∀ {g : Nat} {o : Obj}, w1.heap[g]? = some o → g ≠ a.bw → w'.heap[g]? = some o := fun {g o} hx hne =>
    (hg2.block g (lt_of hx) (fun e => hne (by simpa using e))).trans hx
  have hk : ∀ {g : Nat} {o : Obj}, w.heap[g]? = some o → (rowV M r).ownBlock ≠ some g → g ≠ a.bw → w'.heap[g]? = w.heap[g]? := fun {g o} hx hne hne2 => (hk1 (hk0 hx hne) hne2).trans hx.symm
  have hnr : ∀ {g : Nat} {y : Array Value} {t : TypeId} {f : Nat × Nat}, w.heap[g]? = some (.cells y t f) → t ≠ 100 → (rowV M r).ownBlock ≠ some g := fun {g y t f} hx hne q => by
    obtain ⟨_, cur, hc⟩ := own_blk hrow q
    exact ne_of_type hx hc hne rfl
  have hother : ∀ s, s ≠ r → w'.ownsRow W.heap.size 100 2 (rowV M s) (wt s).length (encP (wt s)) := fun s hs =>
    own_keep (h.rows s) fun g hg3 => by
      obtain ⟨h1, cur, h2⟩ := own_blk (h.rows s) hg3
      exact hk h2 (fun q => h.apart r s (Ne.symm hs) g q hg3) (Ne.symm (map_ne e2 h2))
  have hnew : ∀ s, s ≠ r → ∀ g, v'.ownBlock = some g → (rowV M s).ownBlock ≠ some g := fun s hs g hg1 hg2 => by
    rcases hm with e | ⟨g', e, hge⟩
    · exact h.apart r s (Ne.symm hs) g (e ▸ hg1) hg2
    · rw [e] at hg1
      injection hg1 with hg1
      have := lt_of (own_blk (h.rows s) hg2).2.choose_spec
      omega
  have hcz : encP (wt r) ++ [.int .i64 x.1, .int .i64 x.2] = encP (wt r ++ [x]) := by rw [encP_app]; rfl
  exact {
    bel := (h.bel.grown hg h.bel.size (fun k hk => (own_blk hrow hk).1)).grown hg2 (Nat.le_trans h.bel.size hg.size) (fun k hk => by simp at hk; subst hk; exact h.up.2.2)
    wb := (hk h.wb (hnr h.wb (by show (_ : Nat) ≠ _; decide)) (Ne.symm (map_ne e2 h.wb))).trans h.wb
    ug := h.ug
    km := h.km.heap (hk e (fun q => by
      obtain ⟨_, cur, hc⟩ := own_blk hrow q
      exact map_ne e hc rfl) h.ne)
    wm := hv
    ne := h.ne
    qu := h.qu.keep fun g hg3 => by
      obtain ⟨h1, cur, h2⟩ := h.qu.blk hg3
      exact hk h2 (hnr h2 (by show (_ : Nat) ≠ _; decide)) (Ne.symm (map_ne e2 h2))
    rows := fun s => by
      rw [rowV_put]
      unfold watchF
      by_cases es : s = r
      · subst es
        rw [if_pos rfl, if_pos rfl, List.length_append, ← hcz]
        exact own_keep ho fun g hg3 => by
          obtain ⟨h1, cur, h2⟩ := own_blk ho hg3
          exact (hk1 h2 (Ne.symm (map_ne hb1 h2))).trans h2.symm
      · rw [if_neg es, if_neg es]
        exact hother s es
    apart := fun s u hne g => by
      rw [rowV_put, rowV_put]
      by_cases es : s = r
      · rw [if_pos es, if_neg (fun q => hne (es.trans q.symm))]
        exact fun q1 q2 => hnew u (fun q => hne (es.trans q.symm)) g q1 q2
      · rw [if_neg es]
        by_cases eu : u = r
        · rw [if_pos eu]
          exact fun q1 q2 => hnew s es g q2 q1
        · rw [if_neg eu]
          exact h.apart s u hne g
    up := h.up }
/-- A row of watches that is gone through while others come behind it. -/
structure Snap (w : World) (M : Int → Option Value) (wt : Int → List (Int × Int)) (g : Nat) (T : List (Int × Int)) : Prop where
  ty : ∃ cur, w.heap[g]? = some (.cells cur 100 (0, 0))
  at_ : ∀ j v, (encP T)[j]? = some v → w.cell? ⟨g, j, none⟩ = some v
  own : ∀ r, (rowV M r).ownBlock = some g → T <+: wt r
/-- What is to stay meanwhile: boxes, and rows of watches. -/
structure Frm where
  box : List (Nat × Array Value × TypeId)
  snap : List (Nat × List (Int × Int))
structure Frm.ok (F : Frm) (w : World) (a : Ad) (wt : Int → List (Int × Int)) (qv : Value) (M : Int → Option Value) : Prop where
  b : ∀ p ∈ F.box, w.heap[p.1]? = some (.cells p.2.1 p.2.2 (0, 0)) ∧ p.1 ≠ a.ws ∧ qv.ownBlock ≠ some p.1 ∧ ∀ r, (rowV M r).ownBlock ≠ some p.1
  s : ∀ p ∈ F.snap, Snap w M wt p.1 p.2
variable {F : Frm}
theorem Frm.ok.keep {w' : World} (h : F.ok w a wt qv M) (hb : ∀ p ∈ F.box, w'.heap[p.1]? = w.heap[p.1]?) (hs : ∀ p ∈ F.snap, w'.heap[p.1]? = w.heap[p.1]?) : F.ok w' a wt qv M :=
  ⟨fun p hp => ⟨(hb p hp).trans (h.b p hp).1, (h.b p hp).2⟩, fun p hp => by
    obtain ⟨⟨cur, h1⟩, h2, h3⟩ := h.s p hp
    refine ⟨⟨cur, (hs p hp).trans h1⟩, fun j v hv => ?_, h3⟩
    rw [← h2 j v hv, Lib.cell_of_heap ((hs p hp).trans h1), Lib.cell_of_heap h1]⟩
theorem Frm.ok.below {w' : World} (h : F.ok w a wt qv M) (hb : Below w.heap.size w w') : F.ok w' a wt qv M :=
  h.keep (fun p hp => hb.block _ (lt_of (h.b p hp).1)) (fun p hp => hb.block _ (lt_of (h.s p hp).ty.choose_spec))
theorem Frm.ok.map {w' : World} {b : Nat} (h : F.ok w a wt qv M) (ht : w.mapTurned w' b) : F.ok w' a wt qv M := by
  obtain ⟨es, c, _, _, e, _⟩ := id ht
  have hg := ht.grown
  exact h.keep (fun p hp => hg.block _ (lt_of (h.b p hp).1) (fun q => map_ne e (h.b p hp).1 (by simpa using q.symm)))
    (fun p hp => hg.block _ (lt_of (h.s p hp).ty.choose_spec) (fun q => map_ne e (h.s p hp).ty.choose_spec (by simpa using q.symm)))
/-- Another queue. -/
theorem Frm.ok.queue {w' : World} {qv' : Value} (hk : Wk W w a kn q wt nw qv M) (h : F.ok w a wt qv M) (hg : w.grownBy w' qv.ownBlock) (hm : Moves w qv.ownBlock qv'.ownBlock) : F.ok (w'.setCell ⟨a.ws, 4, none⟩ qv') a wt qv' M := by
  have h1 : F.ok w' a wt qv M := h.keep (fun p hp => hg.block _ (lt_of (h.b p hp).1) (fun e => (h.b p hp).2.2.1 e.symm))
    (fun p hp => hg.block _ (lt_of (h.s p hp).ty.choose_spec) (fun e => by
      obtain ⟨_, cur, hc⟩ := hk.qu.blk e.symm
      exact ne_of_type hc (h.s p hp).ty.choose_spec (by show (_ : Nat) ≠ _; decide) rfl))
  have hw : w'.heap[a.ws]? = _ := (hg.block _ (lt_of hk.wb) (fun e => by
    obtain ⟨_, cur, hc⟩ := hk.qu.blk e.symm
    exact ne_of_type hc hk.wb (by show (_ : Nat) ≠ _; decide) rfl)).trans hk.wb
  have h2 : F.ok (w'.setCell ⟨a.ws, 4, none⟩ qv') a wt qv M := h1.keep (fun p hp => set_other w' _ _ _ (h.b p hp).2.1)
    (fun p hp => set_other w' _ _ _ (ne_of_type (h1.s p hp).ty.choose_spec hw (by show (_ : Nat) ≠ _; decide)))
  refine ⟨fun p hp => ?_, h2.s⟩
  obtain ⟨b1, b2, b3, b4⟩ := h2.b p hp
  refine ⟨b1, b2, fun e => ?_, b4⟩
  rcases hm with hm | ⟨g', hm, hge⟩
  · exact b3 (hm.symm.trans e)
  · rw [hm] at e
    injection e with e
    have := lt_of (h.b p hp).1
    omega
/-- One more watches. -/
theorem Frm.ok.watch {w1 w' : World} {r : Int} {v' : Value} {x : Int × Int} (hk : Wk W w a kn q wt nw qv M) (h : F.ok w a wt qv M) (hg : w.grownBy w1 (rowV M r).ownBlock) (hm : Moves w (rowV M r).ownBlock v'.ownBlock)
    (hold : Old w w1 (rowV M r) ((wt r).length * 2) 100) (ht : w1.mapTurned w' a.bw) : F.ok w' a (watchF wt r x) qv (putK M r v') := by
  have h1 : ∀ p ∈ F.box, w1.heap[p.1]? = w.heap[p.1]? := fun p hp => hg.block _ (lt_of (h.b p hp).1) (fun e => (h.b p hp).2.2.2 r e.symm)
  have ht2 := id ht
  obtain ⟨es, c, _, _, e, _⟩ := ht2
  have hg2 := ht.grown
  refine ⟨fun p hp => ?_, fun p hp => ?_⟩
  · obtain ⟨b1, b2, b3, b4⟩ := h.b p hp
    have hb1 := (h1 p hp).trans b1
    refine ⟨(hg2.block _ (lt_of hb1) (fun q => map_ne e hb1 (by simpa using q.symm))).trans hb1, b2, b3, fun s => ?_⟩
    rw [rowV_put]
    split
    · rcases hm with hm | ⟨g', hm, hge⟩
      · rw [hm]; exact b4 r
      · rw [hm]
        intro q
        injection q with q
        have := lt_of b1
        omega
    · exact b4 s
  · obtain ⟨⟨cur, g1⟩, g2, g3⟩ := h.s p hp
    have hpl : (rowV M r).ownBlock = some p.1 → p.2.length ≤ (wt r).length := fun e => (g3 r e).length_le
    have hty : ∃ cur, w1.heap[p.1]? = some (.cells cur 100 (0, 0)) := by
      by_cases e : (rowV M r).ownBlock = some p.1
      · exact (hold _ e).1
      · exact ⟨cur, (hg.block _ (lt_of g1) (fun q => e q.symm)).trans g1⟩
    obtain ⟨cur1, hty1⟩ := hty
    have hty2 : w'.heap[p.1]? = some (.cells cur1 100 (0, 0)) := (hg2.block _ (lt_of hty1) (fun q => map_ne e hty1 (by simpa using q.symm))).trans hty1
    refine ⟨⟨cur1, hty2⟩, fun j v hv => ?_, fun s hs => ?_⟩
    · have hj : j < p.2.length * 2 := by
        rw [← encP_len]
        rcases Nat.lt_or_ge j (encP p.2).length with h | h
        · exact h
        · rw [List.getElem?_eq_none h] at hv; cases hv
      rw [← g2 j v hv, Lib.cell_of_heap hty2, ← Lib.cell_of_heap hty1]
      by_cases e : (rowV M r).ownBlock = some p.1
      · exact (hold _ e).2 j (by have := hpl e; omega)
      · rw [Lib.cell_of_heap ((hg.block _ (lt_of g1) (fun q => e q.symm)).trans g1), Lib.cell_of_heap g1]
    · rw [rowV_put] at hs
      unfold watchF
      by_cases es : s = r
      · subst es
        rw [if_pos rfl] at hs ⊢
        rcases hm with hm | ⟨g', hm, hge⟩
        · exact List.IsPrefix.trans (g3 s (hm ▸ hs)) (List.prefix_append _ _)
        · rw [hm] at hs
          injection hs with hs
          have := lt_of g1
          omega
      · rw [if_neg es] at hs ⊢
        exact g3 s hs
/-- The search in memory, wherever its rows lie; h of what is known were followed. -/
def Wq (W w : World) (a : Ad) (t : Ss) (h : Nat) (F : Frm) : Prop := h ≤ t.known.length ∧ ∃ qv M, Wk W w a t.known ((t.known.drop h).map Sp.fa) t.watch t.nw qv M ∧ F.ok w a t.watch qv M
def WPost (W : World) (a : Ad) (t : Ss) (h : Nat) (F : Frm) (e : Ending) (w' : World) : Prop := e = .returned (.tuple #[]) ∧ Wq W w' a t h F
theorem Wq.below {t : Ss} {h : Nat} {w' : World} (hq : Wq W w a t h F) (hb : Below w.heap.size w w') : Wq W w' a t h F := by
  obtain ⟨h1, qv, M, h2, h3⟩ := hq
  exact ⟨h1, qv, M, h2.below hb, h3.below hb⟩
/-- A box of one's own. -/
theorem with_box {t : Ss} {h : Nat} (hq : Wq W w a t h F) (cs : Array Value) (ty : TypeId) : ∃ F' : Frm, Wq W (w.alloc (.cells cs ty)) a t h F' ∧ (∀ w' t' h', Wq W w' a t' h' F' → Wq W w' a t' h' F) ∧ ∀ w' t' h', Wq W w' a t' h' F' → w'.heap[w.heap.size]? = some (.cells cs ty (0, 0)) := by
  have hb := Wq.below hq ((Below.refl w.heap.size w).alloc (Nat.le_refl _) (.cells cs ty))
  obtain ⟨_, qv0, M0, g2, g3⟩ := hq
  obtain ⟨h1, qv, M, h2, h3⟩ := hb
  have hq0 := Wk.below g2 ((Below.refl w.heap.size w).alloc (Nat.le_refl _) (.cells cs ty))
  have hf0 := Frm.ok.below g3 ((Below.refl w.heap.size w).alloc (Nat.le_refl _) (.cells cs ty))
  have hn := heap_alloc_new w (.cells cs ty)
  refine ⟨⟨(w.heap.size, cs, ty) :: F.box, F.snap⟩, ⟨h1, qv0, M0, hq0, fun p hp => ?_, hf0.s⟩, ?_, ?_⟩
  · simp only [List.mem_cons] at hp
    rcases hp with rfl | hp
    · refine ⟨hn, fun e => ?_, fun e => ?_, fun r e => ?_⟩
      · have := lt_of g2.wb; simp only at e; omega
      · have := lt_of (g2.qu.blk e).2.choose_spec; simp only at this; omega
      · have := lt_of (own_blk (g2.rows r) e).2.choose_spec; simp only at this; omega
    · exact hf0.b p hp
  · rintro w' t' h' ⟨k1, qv', M', k2, k3⟩
    exact ⟨k1, qv', M', k2, fun p hp => k3.b p (by simp [hp]), k3.s⟩
  · rintro w' t' h' ⟨k1, qv', M', k2, k3⟩
    exact (k3.b (w.heap.size, cs, ty) (by simp)).1
theorem kmap_at {kn : List Sp} {s : Sp} (h : s ∈ kn) (hn : (kn.map Sp.fa).Nodup) : kmap kn s.fa = some (Sp.val s) := by
  unfold kmap
  induction kn with
  | nil => cases h
  | cons x l ih =>
    simp only [List.map_cons, List.nodup_cons] at hn
    rw [List.find?_cons]
    by_cases e : x.fa = s.fa
    · rw [decide_eq_true e]
      rcases List.mem_cons.1 h with rfl | h
      · rfl
      · exact absurd (List.mem_map.2 ⟨s, h, e.symm⟩) hn.1
    · rw [decide_eq_false e]
      rcases List.mem_cons.1 h with rfl | h
      · exact absurd rfl e
      · exact ih h hn.2
end Go.Proofs.Ytddjbchlpfaggaa.PfB
