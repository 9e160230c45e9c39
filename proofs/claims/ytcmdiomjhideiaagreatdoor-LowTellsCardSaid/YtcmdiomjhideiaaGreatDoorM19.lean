/- The worklist in memory: its sets, its queue, the rules that look at each role; what a step leaves of it. -/
import Derived.Test.YtcmdiomjhideiaaGreatDoorM18
import Derived.Deep.AppendSrc
import Derived.Deep.RegionLaw
import Derived.Deep.AppendLies
namespace Go.Proofs.YtcmdiomjhideiaaGreatDoor.SemB
set_option linter.unusedVariables false
set_option linter.unusedSimpArgs false
open Go.RowKit Go.Lib Go.Proofs Go.Proofs.YtcmdiomjhideiaaGreatDoor.SetA Go.Proofs.YtcmdiomjhideiaaGreatDoor.SetB Go.Proofs.YtcmdiomjhideiaaGreatDoor.SetJ Go.Proofs.YtcmdiomjhideiaaGreatDoor.SetN Go.Proofs.YtcmdiomjhideiaaGreatDoor.SetQ Go.Proofs.YtcmdiomjhideiaaGreatDoor.SetR Go.Proofs.YtcmdiomjhideiaaGreatDoor.TblC Go.Proofs.YtcmdiomjhideiaaGreatDoor.TblV Go.Proofs.YtcmdiomjhideiaaGreatDoor.SemA
set_option linter.unusedVariables false
set_option linter.unusedSimpArgs false
/-- A slice value, of the call's own, that reads as pairs: it may begin within its block. -/
def Qu (w : World) (base : Nat) (v : Value) (L : List Pr) : Prop :=
  (v = .slice none 0 0 ∧ L = []) ∨ ∃ g o cap cur, v = .slice (some ⟨g, o, none⟩) L.length cap ∧ base ≤ g ∧ w.heap[g]? = some (.cells cur 146 (0, 0)) ∧ L.length ≤ cap ∧ cap ≤ maxLen ∧ o + cap * 2 ≤ cur.size ∧ ∀ j, (h : j < L.length) → cur[o + j * 2]? = some (.int .i64 L[j].1) ∧ cur[o + j * 2 + 1]? = some (.int .i64 L[j].2)
theorem Qu.keep {w w' : World} {base : Nat} {v : Value} {L : List Pr} (h : Qu w base v L) (hk : ∀ g, v.ownBlock = some g → w'.heap[g]? = w.heap[g]?) : Qu w' base v L := by
  rcases h with h | ⟨g, o, cap, cur, rfl, hb, hg, r⟩
  · exact .inl h
  · exact .inr ⟨g, o, cap, cur, rfl, hb, (hk g rfl).trans hg, r⟩
theorem Qu.blk {w : World} {base : Nat} {v : Value} {L : List Pr} (h : Qu w base v L) {g : Nat} (hg : v.ownBlock = some g) : base ≤ g ∧ ∃ cur, w.heap[g]? = some (.cells cur 146 (0, 0)) := by
  rcases h with ⟨rfl, _⟩ | ⟨g', o, cap, cur, rfl, hb, hh, r⟩
  · simp [Value.ownBlock] at hg
  · simp [Value.ownBlock] at hg
    subst hg
    exact ⟨hb, cur, hh⟩
theorem lt_of {w : World} {g : Nat} {o : Obj} (h : w.heap[g]? = some o) : g < w.heap.size := (Array.getElem?_eq_some_iff.1 h).1
theorem ne_of_type {w : World} {a b : Nat} {x y : Array Value} {t t' : TypeId} {f f' : Nat × Nat} (h : w.heap[a]? = some (.cells x t f)) (h' : w.heap[b]? = some (.cells y t' f')) (hne : t ≠ t') : a ≠ b := by
  rintro rfl
  rw [h] at h'
  injection h' with h'
  injection h' with _ h2
  exact hne h2
theorem own_blk {w : World} {B : Nat} {e : TypeId} {size n : Nat} {v : Value} {xs : List Value} (h : w.ownsRow B e size v n xs) {g : Nat} (hg : v.ownBlock = some g) : B ≤ g ∧ ∃ cur, w.heap[g]? = some (.cells cur e (0, 0)) := by
  rcases h.2 with ⟨rfl, _⟩ | ⟨g', cap, cur, rfl, hB, hh, _⟩
  · simp [Value.ownBlock] at hg
  · simp [Value.ownBlock] at hg
    subst hg
    exact ⟨hB, cur, hh⟩
theorem own_keep {w w' : World} {B : Nat} {e : TypeId} {size n : Nat} {v : Value} {xs : List Value} (h : w.ownsRow B e size v n xs) (hk : ∀ g, v.ownBlock = some g → w'.heap[g]? = w.heap[g]?) : w'.ownsRow B e size v n xs := by
  refine ⟨h.1, ?_⟩
  rcases h.2 with h0 | ⟨g, cap, cur, rfl, hB, hh, hc⟩
  · exact .inl h0
  · exact .inr ⟨g, cap, cur, rfl, hB, (hk g rfl).trans hh, hc⟩
/-- Where the worklist lies, and its numbers. -/
structure Ad where
  wk : Nat
  mo : Nat
  B : Nat
  R : Nat
  Lb : Nat
  n : Nat
  c : Nat
  K : Nat
/-- The worklist in memory, above W. -/
structure Wk (W w : World) (a : Ad) (M : List Nat) (s : Sm) (q : List Pr) (qv : Value) (vs : List Value) : Prop where
  bel : Below W.heap.size W w
  fam : Fam w a.B a.R a.n a.c M
  inv : SetN.Inv a.n a.c M s.all
  mb : w.heap[a.mo]? = some (.cells #[.pointer (some ⟨a.B, 0, none⟩), .int .i64 a.K, .int .i64 s.steps] 100 (0, 0))
  wb : w.heap[a.wk]? = some (.cells #[.pointer (some ⟨a.mo, 0, none⟩), .slice (some ⟨a.Lb, 0, none⟩) a.n a.n, qv] 140 (0, 0))
  lb : w.heap[a.Lb]? = some (.cells vs.toArray 96 (0, 0))
  qu : Qu w W.heap.size qv q
  lv : vs.length = a.n
  ll : s.look.length = a.n
  rows : ∀ (i : Nat) (v : Value), vs[i]? = some v → w.ownsRow W.heap.size 143 6 v (s.look.getD i []).length (cellsR (s.look.getD i []))
  apart : ∀ (i j : Nat) (v u : Value), vs[i]? = some v → vs[j]? = some u → i ≠ j → ∀ g, v.ownBlock = some g → u.ownBlock ≠ some g
  up : W.heap.size ≤ a.R ∧ W.heap.size ≤ a.mo ∧ W.heap.size ≤ a.wk ∧ W.heap.size ≤ a.Lb ∧ W.heap.size ≤ a.B
variable {W w : World} {a : Ad} {M : List Nat} {s : Sm} {q : List Pr} {qv : Value} {vs : List Value}
theorem Wk.below {w' : World} (h : Wk W w a M s q qv vs) (hb : Below w.heap.size w w') : Wk W w' a M s q qv vs where
  bel := h.bel.trans (hb.mono h.bel.size)
  fam := h.fam.below hb
  inv := h.inv
  mb := (hb.block _ (lt_of h.mb)).trans h.mb
  wb := (hb.block _ (lt_of h.wb)).trans h.wb
  lb := (hb.block _ (lt_of h.lb)).trans h.lb
  qu := h.qu.keep fun g hg => hb.block _ (lt_of (h.qu.blk hg).2.choose_spec)
  lv := h.lv
  ll := h.ll
  rows := fun i v hv => own_keep (h.rows i v hv) fun g hg => hb.block _ (lt_of (own_blk (h.rows i v hv) hg).2.choose_spec)
  apart := h.apart
  up := h.up
/-- A number more in the sets. -/
theorem Wk.add {w' : World} {M' : List Nat} {s' : Sm} (h : Wk W w a M s q qv vs) (hf : Fam w' a.B a.R a.n a.c M') (hi : SetN.Inv a.n a.c M' s'.all) (hl : s'.look = s.look) (hs : s'.steps = s.steps) (hg : w.grownBy w' (some a.R)) : Wk W w' a M' s' q qv vs := by
  obtain ⟨Z, hr⟩ := h.fam.rb
  obtain ⟨cp, hb⟩ := h.fam.fb
  have hk : ∀ {g : Nat} {x : Array Value} {t : TypeId} {f : Nat × Nat}, w.heap[g]? = some (.cells x t f) → 152 ≠ t → w'.heap[g]? = w.heap[g]? := fun {g x t f} hx hne =>
    hg.block g (lt_of hx) (by have := ne_of_type hr hx hne; simp; omega)
  exact {
    bel := h.bel.grown hg h.bel.size (fun k hk => by simp at hk; have := h.up; omega)
    fam := hf
    inv := hi
    mb := by rw [hs]; exact (hk h.mb (by show (_ : Nat) ≠ _; decide)).trans h.mb
    wb := (hk h.wb (by show (_ : Nat) ≠ _; decide)).trans h.wb
    lb := (hk h.lb (by show (_ : Nat) ≠ _; decide)).trans h.lb
    qu := h.qu.keep fun g hg => hk (h.qu.blk hg).2.choose_spec (by show (_ : Nat) ≠ _; decide)
    lv := h.lv
    ll := by rw [hl]; exact h.ll
    rows := fun i v hv => by rw [hl]; exact own_keep (h.rows i v hv) fun g hg => hk (own_blk (h.rows i v hv) hg).2.choose_spec (by show (_ : Nat) ≠ _; decide)
    apart := h.apart
    up := h.up }
/-- One block was stored into. -/
theorem set_other (w : World) (b i : Nat) (v : Value) {g : Nat} (h : g ≠ b) : (w.setCell ⟨b, i, none⟩ v).heap[g]? = w.heap[g]? := Below.heap_setCell _ _ _ _ (fun e => h (by rw [e]))
theorem set_bel {B : Nat} (h : Below B W w) {b i : Nat} {v : Value} (hb : B ≤ b) : Below B W (w.setCell ⟨b, i, none⟩ v) := h.setCell hb v
/-- A round more is counted. -/
theorem Wk.tick (h : Wk W w a M s q qv vs) : Wk W (w.setCell ⟨a.mo, 2, none⟩ (.int .i64 ((s.steps : Int) + 1))) a M (SemA.tick s) q qv vs := by
  have hk : ∀ {g : Nat} {x : Array Value} {t : TypeId} {f : Nat × Nat}, w.heap[g]? = some (.cells x t f) → 100 ≠ t → (w.setCell ⟨a.mo, 2, none⟩ (.int .i64 ((s.steps : Int) + 1))).heap[g]? = w.heap[g]? := fun {g x t f} hx hne =>
    set_other w _ _ _ (by have := ne_of_type h.mb hx hne; omega)
  obtain ⟨Z, hr⟩ := h.fam.rb
  obtain ⟨cp, hb⟩ := h.fam.fb
  exact {
    bel := set_bel h.bel h.up.2.1
    fam := h.fam.keep (hk hb (by show (_ : Nat) ≠ _; decide)) (hk hr (by show (_ : Nat) ≠ _; decide))
    inv := h.inv
    mb := by rw [heap_setCell_same _ _ _ _ _ _ h.mb]; rfl
    wb := (hk h.wb (by show (_ : Nat) ≠ _; decide)).trans h.wb
    lb := (hk h.lb (by show (_ : Nat) ≠ _; decide)).trans h.lb
    qu := h.qu.keep fun g hg => hk (h.qu.blk hg).2.choose_spec (by show (_ : Nat) ≠ _; decide)
    lv := h.lv
    ll := h.ll
    rows := fun i v hv => own_keep (h.rows i v hv) fun g hg => hk (own_blk (h.rows i v hv) hg).2.choose_spec (by show (_ : Nat) ≠ _; decide)
    apart := h.apart
    up := h.up }
/-- Another queue. -/
theorem Wk.queue {w' : World} {q' : List Pr} {qv' : Value} (h : Wk W w a M s q qv vs) (hg : w.grownBy w' qv.ownBlock) (hq : Qu w' W.heap.size qv' q') : Wk W (w'.setCell ⟨a.wk, 2, none⟩ qv') a M s q' qv' vs := by
  have hk0 : ∀ {g : Nat} {x : Array Value} {t : TypeId} {f : Nat × Nat}, w.heap[g]? = some (.cells x t f) → 146 ≠ t → w'.heap[g]? = w.heap[g]? := fun {g x t f} hx hne =>
    hg.block g (lt_of hx) (fun e => by
      obtain ⟨_, cur, hc⟩ := h.qu.blk e.symm
      exact ne_of_type hc hx hne rfl)
  have hk : ∀ {g : Nat} {x : Array Value} {t : TypeId} {f : Nat × Nat}, w.heap[g]? = some (.cells x t f) → 146 ≠ t → 140 ≠ t → (w'.setCell ⟨a.wk, 2, none⟩ qv').heap[g]? = w.heap[g]? := fun {g x t f} hx hne hne2 =>
    (set_other w' _ _ _ (by have := ne_of_type h.wb hx hne2; omega)).trans (hk0 hx hne)
  have hw := (hk0 h.wb (by show (_ : Nat) ≠ _; decide)).trans h.wb
  obtain ⟨Z, hr⟩ := h.fam.rb
  obtain ⟨cp, hb⟩ := h.fam.fb
  exact {
    bel := set_bel (h.bel.grown hg h.bel.size (fun k hk => (h.qu.blk hk).1)) h.up.2.2.1
    fam := h.fam.keep (hk hb (by show (_ : Nat) ≠ _; decide) (by show (_ : Nat) ≠ _; decide)) (hk hr (by show (_ : Nat) ≠ _; decide) (by show (_ : Nat) ≠ _; decide))
    inv := h.inv
    mb := (hk h.mb (by show (_ : Nat) ≠ _; decide) (by show (_ : Nat) ≠ _; decide)).trans h.mb
    wb := by rw [heap_setCell_same _ _ _ _ _ _ hw]; rfl
    lb := (hk h.lb (by show (_ : Nat) ≠ _; decide) (by show (_ : Nat) ≠ _; decide)).trans h.lb
    qu := hq.keep fun g hg => set_other w' _ _ _ (by
      obtain ⟨_, cur, hc⟩ := hq.blk hg
      exact (ne_of_type hc hw (by show (_ : Nat) ≠ _; decide)))
    lv := h.lv
    ll := h.ll
    rows := fun i v hv => own_keep (h.rows i v hv) fun g hg => hk (own_blk (h.rows i v hv) hg).2.choose_spec (by show (_ : Nat) ≠ _; decide) (by show (_ : Nat) ≠ _; decide)
    apart := h.apart
    up := h.up }
/-- A rule more looks at a role. -/
theorem Wk.look {w' : World} {i : Nat} {v v' : Value} {u : Ru} (h : Wk W w a M s q qv vs) (hi : i < a.n) (hv : vs[i]? = some v) (hg : w.grownBy w' v.ownBlock) (hm : Moves w v.ownBlock v'.ownBlock)
    (ho : w'.ownsRow W.heap.size 143 6 v' ((s.look.getD i []).length + 1) (cellsR (s.look.getD i []) ++ u.cells.toList)) : Wk W (w'.setCell ⟨a.Lb, i, none⟩ v') a M (lookM s i u) q qv (vs.set i v') := by
  have hrow := h.rows i v hv
  have hk0 : ∀ {g : Nat} {x : Array Value} {t : TypeId} {f : Nat × Nat}, w.heap[g]? = some (.cells x t f) → 143 ≠ t → w'.heap[g]? = w.heap[g]? := fun {g x t f} hx hne =>
    hg.block g (lt_of hx) (fun e => by
      obtain ⟨_, cur, hc⟩ := own_blk hrow e.symm
      exact ne_of_type hc hx hne rfl)
  have hk : ∀ {g : Nat} {x : Array Value} {t : TypeId} {f : Nat × Nat}, w.heap[g]? = some (.cells x t f) → 143 ≠ t → 96 ≠ t → (w'.setCell ⟨a.Lb, i, none⟩ v').heap[g]? = w.heap[g]? := fun {g x t f} hx hne hne2 =>
    (set_other w' _ _ _ (by have := ne_of_type h.lb hx hne2; omega)).trans (hk0 hx hne)
  have hw := (hk0 h.lb (by show (_ : Nat) ≠ _; decide)).trans h.lb
  have hnlb : ∀ {g : Nat} {X : World} {cur : Array Value} {f : Nat × Nat}, X.heap[g]? = some (.cells cur 143 f) → X.heap[a.Lb]? = some (.cells vs.toArray 96 (0, 0)) → g ≠ a.Lb := fun hx hy => ne_of_type hx hy (by show (_ : Nat) ≠ _; decide)
  obtain ⟨Z, hr⟩ := h.fam.rb
  obtain ⟨cp, hb⟩ := h.fam.fb
  have hlu : ∀ j, (lookM s i u).look.getD j [] = if j = i then s.look.getD i [] ++ [u] else s.look.getD j [] := fun j => by
    unfold lookM
    simp only [getD_modify]
    by_cases e : j = i
    · subst e
      rw [if_pos ⟨by simp, by rw [h.ll]; exact hi⟩, if_pos rfl]
    · rw [if_neg (by simp; omega), if_neg e]
  have hother : ∀ j u2, vs[j]? = some u2 → j ≠ i → w'.ownsRow W.heap.size 143 6 u2 (s.look.getD j []).length (cellsR (s.look.getD j [])) := fun j u2 hu hne =>
    own_keep (h.rows j u2 hu) fun g hg2 => hg.block g (lt_of (own_blk (h.rows j u2 hu) hg2).2.choose_spec) (fun e => h.apart i j v u2 hv hu (by omega) g e.symm hg2)
  have hstore : ∀ {e : Value} {m : Nat} {xs : List Value}, w'.ownsRow W.heap.size 143 6 e m xs → (w'.setCell ⟨a.Lb, i, none⟩ v').ownsRow W.heap.size 143 6 e m xs := fun hx =>
    own_keep hx fun g hg => set_other w' _ _ _ (by
      obtain ⟨_, cur, hc⟩ := own_blk hx hg
      exact hnlb hc hw)
  have hget : ∀ j x, (vs.set i v')[j]? = some x → (j = i ∧ x = v') ∨ (j ≠ i ∧ vs[j]? = some x) := fun j x hx => by
    rw [List.getElem?_set] at hx
    split at hx
    · rename_i e
      split at hx
      · injection hx with hx
        exact .inl ⟨e.symm, hx.symm⟩
      · cases hx
    · rename_i e
      exact .inr ⟨fun e2 => e e2.symm, hx⟩
  exact {
    bel := set_bel (h.bel.grown hg h.bel.size (fun k hk => (own_blk hrow hk).1)) h.up.2.2.2.1
    fam := h.fam.keep (hk hb (by show (_ : Nat) ≠ _; decide) (by show (_ : Nat) ≠ _; decide)) (hk hr (by show (_ : Nat) ≠ _; decide) (by show (_ : Nat) ≠ _; decide))
    inv := h.inv
    mb := (hk h.mb (by show (_ : Nat) ≠ _; decide) (by show (_ : Nat) ≠ _; decide)).trans h.mb
    wb := (hk h.wb (by show (_ : Nat) ≠ _; decide) (by show (_ : Nat) ≠ _; decide)).trans h.wb
    lb := by
      rw [heap_setCell_same _ _ _ _ _ _ hw]
      congr 2
      simp
    qu := h.qu.keep fun g hg => hk (h.qu.blk hg).2.choose_spec (by show (_ : Nat) ≠ _; decide) (by show (_ : Nat) ≠ _; decide)
    lv := by rw [List.length_set]; exact h.lv
    ll := by unfold lookM; simp [h.ll]
    rows := fun j x hx => by
      rw [hlu]
      rcases hget j x hx with ⟨rfl, rfl⟩ | ⟨hne, hx⟩
      · rw [if_pos rfl]
        have e : cellsR (s.look.getD j [] ++ [u]) = cellsR (s.look.getD j []) ++ u.cells.toList := by rw [cellsR_app]; simp [cellsR]
        rw [e, List.length_append]
        exact hstore ho
      · rw [if_neg hne]
        exact hstore (hother j x hx hne)
    apart := fun j k x y hx hy hne g hgx hgy => by
      have hnew : ∀ (k : Nat) (y : Value), k ≠ i → vs[k]? = some y → v'.ownBlock = some g → y.ownBlock ≠ some g := fun k y hk hy hg1 hg2 => by
        rcases hm with e | ⟨g', e, hge⟩
        · exact h.apart i k v y hv hy (by omega) g (e ▸ hg1) hg2
        · rw [e] at hg1
          injection hg1 with hg1
          have := lt_of (own_blk (h.rows k y hy) hg2).2.choose_spec
          omega
      rcases hget j x hx with ⟨hj, ex⟩ | ⟨hj, hx2⟩
      · rcases hget k y hy with ⟨hk, ey⟩ | ⟨hk, hy2⟩
        · exact hne (hj.trans hk.symm)
        · exact hnew k y hk hy2 (ex ▸ hgx) hgy
      · rcases hget k y hy with ⟨hk, ey⟩ | ⟨hk, hy2⟩
        · exact hnew j x hj hx2 (ey ▸ hgy) hgx
        · exact h.apart j k x y hx2 hy2 hne g hgx hgy
    up := h.up }
end Go.Proofs.YtcmdiomjhideiaaGreatDoor.SemB
/- The worklist: put, look, by contract. -/
namespace Go.Proofs.YtcmdiomjhideiaaGreatDoor.SemC
set_option linter.unusedVariables false
set_option linter.unusedSimpArgs false
open Go.RowKit Go.Lib Go.Proofs Go.Proofs.YtcmdiomjhideiaaGreatDoor.SetA Go.Proofs.YtcmdiomjhideiaaGreatDoor.SetB Go.Proofs.YtcmdiomjhideiaaGreatDoor.SetJ Go.Proofs.YtcmdiomjhideiaaGreatDoor.SetN Go.Proofs.YtcmdiomjhideiaaGreatDoor.SetQ Go.Proofs.YtcmdiomjhideiaaGreatDoor.SetR Go.Proofs.YtcmdiomjhideiaaGreatDoor.TblC Go.Proofs.YtcmdiomjhideiaaGreatDoor.TblV Go.Proofs.YtcmdiomjhideiaaGreatDoor.SemA Go.Proofs.YtcmdiomjhideiaaGreatDoor.SemB
set_option linter.unusedVariables false
set_option linter.unusedSimpArgs false
section
variable {P : Program} (w : World)
/-- append where there is room, to a slice that begins within its block. -/
theorem run_append_room_off (t ty e : TypeId) (i : TypeInfo) (ht : P.underlying t = some (.slice e)) (hi : P.info? e = some i)
    (g o sLen sCap : Nat) (cur : Array Value) (hg : w.heap[g]? = some (.cells cur e (0, 0)))
    (a : Addr) (m c : Nat) (news : List Value) (hl : news.length = m * i.size) (hnews : ∀ j u, news[j]? = some u → w.cell? (a.add j) = some u) (h1 : ∀ u ∈ news, u.oneCell' = true)
    (hroom : sLen + m ≤ sCap) (hfit : o + sLen * i.size + news.length ≤ cur.size) :
    (Builtin.append_ #[t, t] ty #[.slice (some ⟨g, o, none⟩) sLen sCap, .slice (some a) m c]).run P w =
      .ok (.slice (some ⟨g, o, none⟩) (sLen + m) sCap) (w.setRow g (cur.toList.take (o + sLen * i.size) ++ news ++ cur.toList.drop (o + sLen * i.size + news.length)).toArray) := by
  have hf := run_firstCells_some (P := P) w i.size m a m c news hl hnews
  have hst := run_storeCells_at P g (o + sLen * i.size) e news 0 cur w hg (by simpa using hfit) h1
  simp only [Nat.add_zero] at hst
  simp [Builtin.append_, run_underlying ht, sizeOf, typeInfo, hi, Builtin.lenOf, hroom, hf, Addr.add_lit, hst]
end
theorem infoPr : (Tryz.prog.info? 146).map (fun i => (i.zero, i.size, i.bytes)) = some (some (.agg #[.int .i64 0, .int .i64 0]), 2, 16) := by kernel_rfl
theorem infoRu : (Tryz.prog.info? 143).map (fun i => (i.zero, i.size, i.bytes)) = some (some zeroU.val, 6, 48) := by kernel_rfl
theorem add_off (g o j : Nat) : (⟨g, o, none⟩ : Addr).add j = ⟨g, o + j, none⟩ := by
  unfold Addr.add
  split <;> simp_all
theorem mid_two (A B : List Value) (x y : Value) {i : Nat} (h : A.length = i) : (A ++ ([x, y] ++ B))[i]? = some x ∧ (A ++ ([x, y] ++ B))[i + 1]? = some y := by
  subst h
  constructor
  · rw [List.getElem?_append_right (Nat.le_refl _)]; simp
  · rw [List.getElem?_append_right (by omega)]; simp
/-- One who came in is put behind the queue. -/
theorem run_append_qu {w : World} {base : Nat} {qv : Value} {q : List Pr} (ty : TypeId) (hq : Qu w base qv q) (hb : base ≤ w.heap.size) (hl : q.length ≤ 100000000) (r x : Int) (ad : Addr) (c : Nat)
    (hnews : ∀ j u, ([.int .i64 r, .int .i64 x] : List Value)[j]? = some u → w.cell? (ad.add j) = some u) :
    ∃ v' w', (Builtin.append_ #[138, 138] ty #[qv, .slice (some ad) 1 c]).run Tryz.prog w = .ok v' w' ∧ Qu w' base v' (q ++ [(r, x)]) ∧ w.grownBy w' qv.ownBlock ∧ Moves w qv.ownBlock v'.ownBlock := by
  obtain ⟨i0, hi, hz0, hz1, hz2⟩ := info_parts infoPr
  have hm : maxLen = 9223372036854775807 := rfl
  rcases hq with ⟨rfl, rfl⟩ | ⟨g, o, cap, cur, rfl, hB, hg, hc, hcm, hs, hat⟩
  · have hr := run_append_nil (P := Tryz.prog) w 138 ty 146 i0 (.agg #[.int .i64 0, .int .i64 0]) Tryz.underlying138 hi hz0 ad 1 c [.int .i64 r, .int .i64 x] (by rw [hz1]; rfl) hnews (by omega) (by omega) (by rw [hz2]; omega)
    refine ⟨_, _, hr, .inr ⟨w.heap.size, 0, _, _, rfl, hb, heap_alloc_new w.drew _, grownCap_ge w 1 0 _, grownCap_le_maxLen w 1 0 _ (by omega), ?_, ?_⟩, ⟨rfl, rfl, rfl, by simp, fun k hk _ => heap_alloc_old w.drew _ hk⟩, .inr ⟨_, rfl, Nat.le_refl _⟩⟩
    · have := grownCap_ge w 1 0 146
      have h2 : (Value.agg #[.int .i64 0, .int .i64 0]).cells.size = 2 := rfl
      simp only [Array.size_append, List.size_toArray, size_zeroCells, h2, List.length_cons, List.length_nil]
      omega
    · intro j hj
      have : j = 0 := by simp at hj; omega
      subst this
      exact ⟨by rw [Array.getElem?_append_left (by simp)]; rfl, by rw [Array.getElem?_append_left (by simp)]; rfl⟩
  · have hcs : cur.toList.length = cur.size := by simp
    by_cases hroom : q.length + 1 ≤ cap
    · have hr := run_append_room_off (P := Tryz.prog) w 138 ty 146 i0 Tryz.underlying138 hi g o q.length cap cur hg ad 1 c [.int .i64 r, .int .i64 x] (by rw [hz1]; rfl) hnews (fun u hu => by simp at hu; rcases hu with rfl | rfl <;> rfl) hroom (by rw [hz1]; simp; omega)
      rw [hz1] at hr
      have hsz : (cur.toList.take (o + q.length * 2) ++ [Value.int .i64 r, .int .i64 x] ++ cur.toList.drop (o + q.length * 2 + 2)).length = cur.size := by
        simp only [List.length_append, List.length_take, List.length_drop, Array.length_toList, List.length_cons, List.length_nil]
        omega
      refine ⟨_, _, hr, .inr ⟨g, o, cap, _, by rw [List.length_append]; rfl, hB, setRow_heap w g cur _ _ _ hg, by rw [List.length_append]; exact hroom, hcm, by simp only [List.size_toArray]; exact Nat.le_trans hs (Nat.le_of_eq hsz.symm), ?_⟩, ⟨rfl, rfl, rfl, by simp, fun k _ hk => setRow_other w g k _ (fun e => hk (by simp [Value.ownBlock, e]))⟩, .inl rfl⟩
      intro j hj
      have htl : (cur.toList.take (o + q.length * 2)).length = o + q.length * 2 := by rw [List.length_take, hcs]; omega
      simp only [List.getElem?_toArray, List.append_assoc]
      by_cases hjl : j < q.length
      · obtain ⟨a1, a2⟩ := hat j hjl
        rw [List.getElem?_append_left (by rw [htl]; omega), List.getElem?_append_left (by rw [htl]; omega), List.getElem?_take_of_lt (by omega), List.getElem?_take_of_lt (by omega), List.getElem_append_left hjl]
        simp only [Array.getElem?_toList]
        exact ⟨a1, a2⟩
      · have : j = q.length := by simp at hj; omega
        subst this
        obtain ⟨m1, m2⟩ := mid_two (cur.toList.take (o + q.length * 2)) (cur.toList.drop (o + q.length * 2 + 2)) (.int .i64 r) (.int .i64 x) htl
        refine ⟨m1.trans ?_, m2.trans ?_⟩ <;> simp
    · have hcl : ∀ j u, (encP q)[j]? = some u → w.cell? ((⟨g, o, none⟩ : Addr).add j) = some u := fun j u hu => by
        have hj : j < q.length * 2 := by
          rw [← encP_len]
          rcases Nat.lt_or_ge j (encP q).length with h | h
          · exact h
          · rw [List.getElem?_eq_none h] at hu; cases hu
        obtain ⟨b1, b2⟩ := encP_at q (j / 2) (by omega)
        obtain ⟨a1, a2⟩ := hat (j / 2) (by omega)
        rw [add_off, Lib.cell_of_heap hg]
        rcases (by omega : j = j / 2 * 2 ∨ j = j / 2 * 2 + 1) with e | e
        · rw [← e] at a1 b1; rw [a1, ← b1, hu]
        · rw [Nat.add_assoc, ← e] at a2; rw [← e] at b2; rw [a2, ← b2, hu]
      have hr := run_append_grow (P := Tryz.prog) w 138 ty 146 i0 (.agg #[.int .i64 0, .int .i64 0]) Tryz.underlying138 hi hz0 ⟨g, o, none⟩ q.length cap (encP q) (by rw [hz1, encP_len]) hcl ad 1 c [.int .i64 r, .int .i64 x] (by rw [hz1]; rfl) hnews (by omega) (by omega) (growslice_fits (by omega) (by rw [hz2]; omega))
      have hge := grownCap_ge w (q.length + 1) cap 146
      refine ⟨_, _, hr, .inr ⟨w.heap.size, 0, _, _, by rw [List.length_append]; rfl, hb, heap_alloc_new w.drew _, by rw [List.length_append]; exact hge, grownCap_le_maxLen w (q.length + 1) cap _ (by omega), ?_, ?_⟩, ⟨rfl, rfl, rfl, by simp, fun k hk _ => heap_alloc_old w.drew _ hk⟩, .inr ⟨_, rfl, Nat.le_refl _⟩⟩
      · have h2 : (Value.agg #[.int .i64 0, .int .i64 0]).cells.size = 2 := rfl
        simp only [Array.size_append, List.size_toArray, size_zeroCells, h2, List.length_cons, List.length_nil, encP_len]
        omega
      · intro j hj
        have e : (encP q).toArray ++ #[Value.int .i64 r, .int .i64 x] = (encP (q ++ [(r, x)])).toArray := by rw [encP_app]; simp [encP]
        have e2 : (encP q).toArray ++ [Value.int .i64 r, .int .i64 x].toArray = (encP (q ++ [(r, x)])).toArray := e
        rw [e2]
        obtain ⟨b1, b2⟩ := encP_at (q ++ [(r, x)]) j hj
        have hsz : (encP (q ++ [(r, x)])).toArray.size = (q ++ [(r, x)]).length * 2 := by simp [encP_len]
        rw [Array.getElem?_append_left (by rw [hsz]; omega), Array.getElem?_append_left (by rw [hsz]; omega), Nat.zero_add]
        simp only [List.getElem?_toArray]
        exact ⟨b1, b2⟩
/-- Blocks of other types stay as they were. -/
def Chg (w w' : World) (ts : List TypeId) : Prop := w.heap.size ≤ w'.heap.size ∧ ∀ (b : Nat) (x : Array Value) (t : TypeId) (f : Nat × Nat), w.heap[b]? = some (.cells x t f) → t ∉ ts → w'.heap[b]? = some (.cells x t f)
theorem Chg.below {w w' : World} (h : Below w.heap.size w w') (ts : List TypeId) : Chg w w' ts := ⟨h.size, fun b x t f hx _ => (h.block b (lt_of hx)).trans hx⟩
theorem Chg.trans {a b c : World} {ts : List TypeId} (h : Chg a b ts) (k : Chg b c ts) : Chg a c ts := ⟨Nat.le_trans h.1 k.1, fun b x t f hx hn => k.2 b x t f (h.2 b x t f hx hn) hn⟩
theorem Chg.set {w : World} {ts : List TypeId} {b i : Nat} {v : Value} {y : Array Value} {t : TypeId} {f : Nat × Nat} (h : w.heap[b]? = some (.cells y t f)) (ht : t ∈ ts) : Chg w (w.setCell ⟨b, i, none⟩ v) ts :=
  ⟨by simp [World.setCell], fun c x t2 f2 hx hn => (set_other w _ _ _ (ne_of_type hx h (fun e => hn (e ▸ ht)))).trans hx⟩
theorem Chg.grown {w w' : World} {ts : List TypeId} {r : Option Nat} (hg : w.grownBy w' r) (h : ∀ g, r = some g → ∃ y t f, w.heap[g]? = some (.cells y t f) ∧ t ∈ ts) : Chg w w' ts :=
  ⟨hg.size, fun b x t f hx hn => (hg.block b (lt_of hx) (fun e => by
    obtain ⟨y, t2, f2, hy, ht⟩ := h b e.symm
    exact ne_of_type hy hx (fun e => hn (e ▸ ht)) rfl)).trans hx⟩
/-- A row of rules that is gone through while others come behind it. -/
structure Snap (w : World) (vs : List Value) (look : List (List Ru)) (g : Nat) (T : List Ru) : Prop where
  ty : ∃ cur, w.heap[g]? = some (.cells cur 143 (0, 0))
  at_ : ∀ (j : Nat) (h : j < T.length) (k : Nat), k < 6 → w.cell? ⟨g, j * 6 + k, none⟩ = (T[j].cells)[k]?
  own : ∀ (i : Nat) (v : Value), vs[i]? = some v → v.ownBlock = some g → T <+: look.getD i []
theorem Snap.chg {w w' : World} {vs : List Value} {look : List (List Ru)} {g : Nat} {T : List Ru} {ts : List TypeId} (h : Snap w vs look g T) (hc : Chg w w' ts) (hn : 143 ∉ ts) : Snap w' vs look g T := by
  obtain ⟨cur, hg⟩ := h.ty
  have hg' := hc.2 _ _ _ _ hg hn
  exact ⟨⟨cur, hg'⟩, fun j hj k hk => by rw [← h.at_ j hj k hk, Lib.cell_of_heap hg', Lib.cell_of_heap hg], h.own⟩
/-- What is gone through meanwhile: rows of rules, and rows of numbers. -/
structure Frm where
  rules : List (Nat × List Ru)
  nums : List (Nat × Array Value)
  prs : List (Nat × Pr)
structure Frm.ok (F : Frm) (w : World) (vs : List Value) (look : List (List Ru)) (qv : Value) : Prop where
  r : ∀ p ∈ F.rules, Snap w vs look p.1 p.2
  n : ∀ p ∈ F.nums, w.heap[p.1]? = some (.cells p.2 3 (0, 0))
  p : ∀ p ∈ F.prs, w.heap[p.1]? = some (.cells #[.int .i64 p.2.1, .int .i64 p.2.2] 146 (0, 0)) ∧ qv.ownBlock ≠ some p.1
theorem Frm.ok.chg {F : Frm} {w w' : World} {vs : List Value} {look : List (List Ru)} {qv : Value} {ts : List TypeId} (h : F.ok w vs look qv) (hc : Chg w w' ts) (hn : 143 ∉ ts) (hm : 3 ∉ ts) (hp : 146 ∉ ts) : F.ok w' vs look qv :=
  ⟨fun p hp => (h.r p hp).chg hc hn, fun p hp => hc.2 _ _ _ _ (h.n p hp) hm, fun p hq => ⟨hc.2 _ _ _ _ (h.p p hq).1 hp, (h.p p hq).2⟩⟩
/-- Another queue. -/
theorem Frm.ok.queue {F : Frm} {w w' : World} {vs : List Value} {look : List (List Ru)} {qv qv' : Value} (h : F.ok w vs look qv) (hg : w.grownBy w' qv.ownBlock) (hq : ∀ g, qv.ownBlock = some g → ∃ cur, w.heap[g]? = some (.cells cur 146 (0, 0))) (hm : Moves w qv.ownBlock qv'.ownBlock) : F.ok w' vs look qv' := by
  have hc : Chg w w' [146] := Chg.grown hg (fun g e => by
    obtain ⟨cur, hc⟩ := hq g e
    exact ⟨_, _, _, hc, by simp⟩)
  refine ⟨fun p hp => (h.r p hp).chg hc (by decide), fun p hp => hc.2 _ _ _ _ (h.n p hp) (by decide), fun p hp => ?_⟩
  obtain ⟨h1, h2⟩ := h.p p hp
  refine ⟨(hg.block _ (lt_of h1) (fun e => h2 e.symm)).trans h1, fun e => ?_⟩
  rcases hm with hm | ⟨g', hm, hge⟩
  · exact h2 (hm.symm.trans e)
  · rw [hm] at e
    injection e with e
    have := lt_of h1
    omega
/-- The worklist in memory, wherever its rows lie; h of those who came in were followed. -/
def Wq (W w : World) (a : Ad) (s : Sm) (h : Nat) (F : Frm) : Prop := h ≤ s.all.length ∧ ∃ M qv vs, Wk W w a M s (s.all.drop h) qv vs ∧ F.ok w vs s.look qv
theorem Wq.below {W w w' : World} {a : Ad} {s : Sm} {h : Nat} {F : Frm} (hq : Wq W w a s h F) (hb : Below w.heap.size w w') : Wq W w' a s h F := by
  obtain ⟨h1, M, qv, vs, h2, h3⟩ := hq
  exact ⟨h1, M, qv, vs, h2.below hb, h3.chg (Chg.below hb []) (by simp) (by simp) (by simp)⟩
def WPost (W : World) (a : Ad) (s : Sm) (h : Nat) (F : Frm) (e : Ending) (w' : World) : Prop := e = .returned (.tuple #[]) ∧ Wq W w' a s h F
set_option maxHeartbeats 1000000 in
set_option maxRecDepth 100000 in
theorem put (W w : World) (a : Ad) (s : Sm) (h : Nat) (r x : Int) (F : Frm) (hw : Wq W w a s h F) (hl : s.all.length ≤ 100000000) :
    Calls Tryz.prog 170 #[.pointer (some ⟨a.wk, 0, none⟩), .int .i64 r, .int .i64 x] w (WPost W a (putM a.n a.c s r x) h F) := by
  obtain ⟨hh, M, qv, vs, hk, hfr⟩ := hw
  have HFR := Lib.hid hfr
  clear hfr
  obtain ⟨Z, hr⟩ := hk.fam.rb
  have HRB := Lib.hid hr
  clear hr
  have HA := Lib.hid (add_ a.B a.R a.n a.c M r x w hk.fam)
  have hadd := hk.inv.addB r x
  have cw := fun o => Lib.cell_of_heap hk.wb o
  have cm := fun o => Lib.cell_of_heap hk.mb o
  have HK := Lib.hid hk
  have HI := Lib.hid (hk.inv.add r x)
  clear hk
  unfold AddPost at HA
  rw [hadd] at HA
  clear hadd
  unfold WPost putM
  cases hb : (mayB a.n a.c r x && !hasL s.all r x) with
  | false =>
    rw [hb] at HA
    have hput : putL a.n a.c s.all r x = s.all := by unfold putL; rw [hb]; rfl
    rw [hput] at HI ⊢
    clear hb
    go_enter Tryz.func170, Tryz.ntmps170
    go_wp2_with fail
    refine HA.out.mono ?_
    rintro e w1 ⟨rfl, hf, hg⟩
    have HF := Lib.hid (HK.out.add hf HI.out rfl rfl hg)
    have HC := Lib.hid (HFR.out.chg (Chg.grown (ts := [152]) hg (fun g e => by injection e with e; subst e; exact ⟨_, _, _, HRB.out, by simp⟩)) (by decide) (by decide) (by decide))
    clear hf hg HA cw cm
    go_wp2_with fail
    go_end0
    exact ⟨rfl, hh, _, _, _, HF.out, HC.out⟩
  | true =>
    rw [hb] at HA
    have hput : putL a.n a.c s.all r x = s.all ++ [(r, x)] := by unfold putL; rw [hb]; rfl
    rw [hput] at HI ⊢
    clear hb
    go_enter Tryz.func170, Tryz.ntmps170
    go_wp2_with fail
    refine HA.out.mono ?_
    rintro e w1 ⟨rfl, hf, hg⟩
    have hF := HK.out.add (s' := { s with all := s.all ++ [(r, x)] }) hf HI.out rfl rfl hg
    have cw1 := fun o => Lib.cell_of_heap hF.wb o
    have hC1 := HFR.out.chg (Chg.grown (ts := [152]) hg (fun g e => by injection e with e; subst e; exact ⟨_, _, _, HRB.out, by simp⟩)) (by decide) (by decide) (by decide)
    have hC2 := hC1.chg (Chg.below ((Below.refl w1.heap.size w1).alloc (Nat.le_refl _) (.cells #[.int .i64 r, .int .i64 x] 146)) []) (by simp) (by simp) (by simp)
    have hF2 := hF.below ((Below.refl w1.heap.size w1).alloc (Nat.le_refl _) (.cells #[.int .i64 r, .int .i64 x] 146))
    have hq := hF2.qu
    have HF2 := Lib.hid hF2
    have hnews : ∀ j u, ([.int .i64 r, .int .i64 x] : List Value)[j]? = some u → (w1.alloc (.cells #[.int .i64 r, .int .i64 x] 146)).cell? ((⟨w1.heap.size, 0, none⟩ : Addr).add j) = some u := fun j u hu => by
      rw [add_off, Lib.cell_of_heap (heap_alloc_new w1 _), ← hu]
      simp
    obtain ⟨qv', w2, hrun, hq2, hg2, hmv2⟩ := run_append_qu 138 hq hF2.bel.size (by rw [List.length_drop]; omega) r x ⟨w1.heap.size, 0, none⟩ 1 hnews
    obtain ⟨A2, n2, c2, rfl⟩ : ∃ A n c, qv' = .slice A n c := by
      rcases hq2 with ⟨rfl, _⟩ | ⟨g, o, cap, cur, rfl, _⟩ <;> exact ⟨_, _, _, rfl⟩
    have hG := HF2.out.queue hg2 hq2
    have hdrop : s.all.drop h ++ [(r, x)] = (s.all ++ [(r, x)]).drop h := by rw [List.drop_append_of_le_length hh]
    rw [hdrop] at hG
    have HG := Lib.hid hG
    have hC3 := hC2.queue hg2 (fun g e => (hq.blk e).2) hmv2
    have hwb2 : w2.heap[a.wk]? = _ := (hg2.block _ (lt_of hF2.wb) (fun e => by
        obtain ⟨_, cur, hc⟩ := hq.blk e.symm
        exact ne_of_type hc hF2.wb (by show (_ : Nat) ≠ _; decide) rfl)).trans hF2.wb
    have HC := Lib.hid (hC3.chg (Chg.set (i := 2) (v := .slice A2 n2 c2) (ts := [140]) hwb2 (by simp)) (by decide) (by decide) (by decide))
    clear hmv2 hC1 hC2 hC3 hwb2
    have cfw : ∀ o, w2.frozen? ⟨a.wk, o, none⟩ = false := fun o => by
      have hwb : w2.heap[a.wk]? = _ := (hg2.block _ (lt_of hF2.wb) (fun e => by
        obtain ⟨_, cur, hc⟩ := hq.blk e.symm
        exact ne_of_type hc hF2.wb (by show (_ : Nat) ≠ _; decide) rfl)).trans hF2.wb
      exact frozen_of_row _ _ _ _ _ hwb
    have cww : ∀ o, w2.cell? ⟨a.wk, o, none⟩ = _ := fun o => by
      have hwb : w2.heap[a.wk]? = _ := (hg2.block _ (lt_of hF2.wb) (fun e => by
        obtain ⟨_, cur, hc⟩ := hq.blk e.symm
        exact ne_of_type hc hF2.wb (by show (_ : Nat) ≠ _; decide) rfl)).trans hF2.wb
      exact Lib.cell_of_heap hwb o
    have HR := Lib.hid hrun
    clear hf hg HA cw cm hF hF2 hq hG hrun hq2 hg2 hnews HI
    go_wp2_with (at_builtin; refine Lib.wpList_append_run _ rfl _ _ 138 138 rfl _ _ rfl rfl _ _ HR.out ?_)
    go_wp2_with fail
    go_end0
    exact ⟨rfl, by simp; omega, _, _, _, HG.out, HC.out⟩
end Go.Proofs.YtcmdiomjhideiaaGreatDoor.SemC
/- The worklist: look, by contract. -/
namespace Go.Proofs.YtcmdiomjhideiaaGreatDoor.SemD
set_option linter.unusedVariables false
set_option linter.unusedSimpArgs false
open Go.RowKit Go.Lib Go.Proofs Go.Proofs.YtcmdiomjhideiaaGreatDoor.SetA Go.Proofs.YtcmdiomjhideiaaGreatDoor.SetB Go.Proofs.YtcmdiomjhideiaaGreatDoor.SetJ Go.Proofs.YtcmdiomjhideiaaGreatDoor.SetN Go.Proofs.YtcmdiomjhideiaaGreatDoor.SetQ Go.Proofs.YtcmdiomjhideiaaGreatDoor.SetR Go.Proofs.YtcmdiomjhideiaaGreatDoor.TblC Go.Proofs.YtcmdiomjhideiaaGreatDoor.TblV Go.Proofs.YtcmdiomjhideiaaGreatDoor.SemA Go.Proofs.YtcmdiomjhideiaaGreatDoor.SemB Go.Proofs.YtcmdiomjhideiaaGreatDoor.SemC
set_option linter.unusedVariables false
set_option linter.unusedSimpArgs false
/-- What a row that was appended to leaves of its old block. -/
def Old (w w' : World) (v : Value) (m : Nat) (e : TypeId) : Prop := ∀ g, v.ownBlock = some g → (∃ cur, w'.heap[g]? = some (.cells cur e (0, 0))) ∧ ∀ j, j < m → w'.cell? ⟨g, j, none⟩ = w.cell? ⟨g, j, none⟩
section
variable {P : Program} (w : World)
theorem run_append_own_k (base : Nat) (t ty e : TypeId) (i : TypeInfo) (z : Value) (size bytes : Nat) (ht : P.underlying t = some (.slice e)) (hi : P.info? e = some i) (hz : i.zero = some z)
    (hsize : i.size = size) (hby : i.bytes = bytes) (hzs : z.cells.size = size) (hsz : 0 < size) (v : Value) (n : Nat) (xs : List Value) (hown : w.ownsRow base e size v n xs)
    (ad : Addr) (m c : Nat) (news : List Value) (hl : news.length = m * size) (hnews : ∀ j u, news[j]? = some u → w.cell? (ad.add j) = some u) (h1 : ∀ u ∈ news, u.oneCell' = true)
    (h63 : n + m ≤ maxLen) (hbytes : (n + m) * bytes ≤ 140737488355328) (hbase : base ≤ w.heap.size) :
    ∃ v' w', (Builtin.append_ #[t, t] ty #[v, .slice (some ad) m c]).run P w = .ok v' w' ∧ w'.ownsRow base e size v' (n + m) (xs ++ news) ∧ w.grownBy w' v.ownBlock ∧ Moves w v.ownBlock v'.ownBlock ∧ Old w w' v (n * size) e := by
  obtain ⟨v', w', hr, h2, h3, _, h5⟩ := run_append_own_at (P := P) w base t ty e i z size bytes ht hi hz hsize hby hzs hsz v n xs hown ad m c news hl hnews h1 h63 hbytes hbase
  have hm : Moves w v.ownBlock v'.ownBlock := by
    rcases h5 with h | h
    · exact .inl h
    · exact .inr ⟨_, h, Nat.le_refl _⟩
  refine ⟨v', w', hr, h2, h3, hm, fun g hg => ?_⟩
  have hx := hown.1
  have hold := hown.cells hg
  rcases hown.2 with ⟨rfl, _⟩ | ⟨g', cap, cur, rfl, hbg, hgg, hnc, hcm, hcs, htake⟩
  · simp [Value.ownBlock] at hg
  simp [Value.ownBlock] at hg
  subst hg
  have hfit : n * i.size + news.length ≤ cur.size ∨ cap < n + m := by
    by_cases hroom : n + m ≤ cap
    · left; rw [hsize, hl, hcs, ← Nat.add_mul]; exact Nat.mul_le_mul_right _ hroom
    · exact .inr (by omega)
  by_cases hroom : n + m ≤ cap
  · have hr2 := run_append_room (P := P) w t ty e i ht hi g' n cap cur hgg ad m c news (by rw [hsize]; exact hl) hnews h1 hroom (by rcases hfit with h | h; exact h; omega)
    rw [hr] at hr2
    injection hr2 with e1 e2
    subst e1
    refine ⟨(own_blk h2 rfl).2, fun j hj => ?_⟩
    have hj2 : j < xs.length := by rw [hx]; exact hj
    have hc2 := h2.cells (g := g') rfl j xs[j] (by rw [List.getElem?_append_left hj2]; exact List.getElem?_eq_getElem hj2)
    have hc1 := hold j xs[j] (List.getElem?_eq_getElem hj2)
    rw [add_off, Nat.zero_add] at hc1 hc2
    rw [hc1, hc2]
  · have holds : ∀ j u, xs[j]? = some u → w.cell? ((⟨g', 0, none⟩ : Addr).add j) = some u := hold
    have hr2 := run_append_grow (P := P) w t ty e i z ht hi hz ⟨g', 0, none⟩ n cap xs (by rw [hsize]; exact hx) holds ad m c news (by rw [hsize]; exact hl) hnews (by omega) (by simp only [maxLen] at h63; omega) (growslice_fits (by omega) (by rw [hby]; exact hbytes))
    rw [hr] at hr2
    injection hr2 with e1 e2
    have hlt := lt_of hgg
    have hh : w'.heap[g']? = w.heap[g']? := by rw [e2]; exact heap_alloc_old w.drew _ hlt
    exact ⟨⟨cur, hh.trans hgg⟩, fun j hj => by rw [Lib.cell_of_heap (hh.trans hgg), Lib.cell_of_heap hgg]⟩
/-- append in a region that draws its order, where the row went, and what it leaves of its old block. -/
theorem step_append_at {ops : Array Oper} {o : Oper} {a : Act} {K : Act → World → Prop} {Q : Exit → Act → World → Prop} {E : Prop} (hgd : o.guard = none) (s x : Operand) (t : TypeId)
    (ho : o.op = .call { callee := .builtin .append, args := #[s, x], argTypes := #[t, t] })
    (base : Nat) (e : TypeId) (i : TypeInfo) (z : Value) (size bytes : Nat) (ht : P.underlying t = some (.slice e)) (hi : P.info? e = some i) (hz : i.zero = some z)
    (hsize : i.size = size) (hby : i.bytes = bytes) (hzs : z.cells.size = size) (hsz : 0 < size) (v : Value) (n : Nat) (xs : List Value) (hs : a.eval s = v) (hown : w.ownsRow base e size v n xs)
    (ad : Addr) (m c : Nat) (news : List Value) (hx : a.eval x = .slice (some ad) m c) (hlen : news.length = m * size) (hA : ∀ j u, news[j]? = some u → w.cell? (ad.add j) = some u) (h1 : ∀ u ∈ news, u.oneCell' = true)
    (h63 : n + m ≤ maxLen) (hbytes : (n + m) * bytes ≤ 140737488355328) (hbase : base ≤ w.heap.size)
    (h : ∀ v' w', w'.ownsRow base e size v' (n + m) (xs ++ news) → w.grownBy w' v.ownBlock → Moves w v.ownBlock v'.ownBlock → Old w w' v (n * size) e → K (a.put o.dst v') w') :
    if Region.wanted o (yielded ops a.tmps) = true then Oper.wp P o a w K Q else E := by
  have hw : Region.wanted o (yielded ops a.tmps) = true := by simp [Region.wanted, hgd]
  rw [if_pos hw]
  obtain ⟨v', w', hr, h2, h3, h4, h5⟩ := run_append_own_k (P := P) w base t o.type e i z size bytes ht hi hz hsize hby hzs hsz v n xs hown ad m c news hlen hA h1 h63 hbytes hbase
  unfold Oper.wp execOp
  simp only [ho, resolve, invoke, builtin, Sem.run_bind, Sem.run_pure, Result.andThen_ok, List.map_toArray, List.map_cons, List.map_nil, hs, hx, hr]
  exact h v' w' h2 h3 h4 h5
end
/-- What is gone through stays, whatever comes behind it. -/
theorem snap_look {W w w' : World} {a : Ad} {M : List Nat} {s : Sm} {q : List Pr} {qv : Value} {vs : List Value} {i : Nat} {v v' : Value} {u : Ru} {g : Nat} {T : List Ru} (hs : Snap w vs s.look g T) (h : Wk W w a M s q qv vs) (hi : i < a.n) (hv : vs[i]? = some v) (hg : w.grownBy w' v.ownBlock) (hm : Moves w v.ownBlock v'.ownBlock)
    (ho : w'.ownsRow W.heap.size 143 6 v' ((s.look.getD i []).length + 1) (cellsR (s.look.getD i []) ++ u.cells.toList)) (hold : Old w w' v ((s.look.getD i []).length * 6) 143) (hlb : w'.heap[a.Lb]? = some (.cells vs.toArray 96 (0, 0))) :
    Snap (w'.setCell ⟨a.Lb, i, none⟩ v') (vs.set i v') (lookM s i u).look g T := by
  obtain ⟨cur, hty⟩ := hs.ty
  have hlt := lt_of hty
  have hlu : ∀ j, (lookM s i u).look.getD j [] = if j = i then s.look.getD i [] ++ [u] else s.look.getD j [] := fun j => by
    unfold lookM
    simp only [getD_modify]
    by_cases e : j = i
    · subst e
      rw [if_pos ⟨by simp, by rw [h.ll]; exact hi⟩, if_pos rfl]
    · rw [if_neg (by simp; omega), if_neg e]
  have hpre : v.ownBlock = some g → T <+: s.look.getD i [] := hs.own i v hv
  have hty' : ∃ cur, w'.heap[g]? = some (.cells cur 143 (0, 0)) := by
    by_cases e : v.ownBlock = some g
    · exact (hold g e).1
    · exact ⟨cur, (hg.block g hlt (fun e2 => e e2.symm)).trans hty⟩
  obtain ⟨cur', hty2⟩ := hty'
  have hne : g ≠ a.Lb := ne_of_type hty2 hlb (by show (_ : Nat) ≠ _; decide)
  have hcell : ∀ j, (w'.setCell ⟨a.Lb, i, none⟩ v').cell? ⟨g, j, none⟩ = w'.cell? ⟨g, j, none⟩ := fun j => by
    rw [Lib.cell_of_heap ((set_other w' _ _ _ hne).trans hty2), Lib.cell_of_heap hty2]
  refine ⟨⟨cur', (set_other w' _ _ _ hne).trans hty2⟩, fun j hj k hk => ?_, fun j x hx hg2 => ?_⟩
  · rw [hcell, ← hs.at_ j hj k hk]
    by_cases e : v.ownBlock = some g
    · have := (hpre e).length_le
      exact (hold g e).2 _ (by omega)
    · rw [Lib.cell_of_heap ((hg.block g hlt (fun e2 => e e2.symm)).trans hty), Lib.cell_of_heap hty]
  · rw [hlu]
    rw [List.getElem?_set] at hx
    split at hx
    · rename_i e
      subst e
      rw [if_pos rfl]
      split at hx
      · injection hx with hx
        subst hx
        rcases hm with e | ⟨g', e, hge⟩
        · exact List.IsPrefix.trans (hpre (e ▸ hg2)) (List.prefix_append _ _)
        · rw [e] at hg2
          injection hg2 with hg2
          omega
      · cases hx
    · rename_i e
      rw [if_neg (fun e2 => e e2.symm)]
      exact hs.own j x hx hg2
theorem one6 (u : Ru) : ∀ x ∈ u.cells.toList, x.oneCell' = true := fun x hx => by
  simp [Ru.cells] at hx
  rcases hx with rfl | rfl | rfl | rfl | rfl | rfl <;> rfl
set_option maxHeartbeats 1000000 in
set_option maxRecDepth 100000 in
theorem look (W w : World) (a : Ad) (s : Sm) (h : Nat) (k : Nat) (u : Ru) (F : Frm) (hw : Wq W w a s h F) (hk : k < a.n) (hl : (s.look.getD k []).length ≤ 100000000) :
    Calls Tryz.prog 171 #[.pointer (some ⟨a.wk, 0, none⟩), .int .i64 k, u.val] w (WPost W a (lookM s k u) h F) := by
  obtain ⟨i0, hi, hz0, hz1, hz2⟩ := info_parts infoRu
  obtain ⟨hh, M, qv, vs, hK0, hfr0⟩ := hw
  have hvl : k < vs.length := by rw [hK0.lv]; exact hk
  obtain ⟨v, hv⟩ : ∃ v, vs[k]? = some v := ⟨_, List.getElem?_eq_getElem hvl⟩
  have hr0 := hK0.rows k v hv
  obtain ⟨A, ca, rfl, _⟩ := ug_own hr0
  have hK1 := hK0.below ((Below.refl w.heap.size w).alloc (Nat.le_refl _) (.cells u.cells 143))
  have hK2 := hK1.below (((Below.refl (w.alloc (.cells u.cells 143)).heap.size (w.alloc (.cells u.cells 143))).alloc (Nat.le_refl _) (.cells u.cells 143)).drew)
  have lbc : ∀ X : World, X.heap[a.Lb]? = some (.cells vs.toArray 96 (0, 0)) → X.cell? ⟨a.Lb, k, none⟩ = some (.slice A (s.look.getD k []).length ca) := fun X hX => by
    rw [Lib.cell_of_heap hX, ← hv]; simp
  have d0 : ∀ o, (w.alloc (.cells u.cells 143)).cell? ⟨a.wk, o, none⟩ = _ := fun o => Lib.cell_of_heap hK1.wb o
  have d1 := lbc _ hK1.lb
  have d2 : ∀ o, (w.alloc (.cells u.cells 143)).cell? ⟨w.heap.size, o, none⟩ = _ := fun o => Lib.cell_of_heap (heap_alloc_new w _) o
  have e0 : ∀ o, ((w.alloc (.cells u.cells 143)).alloc (.cells u.cells 143)).cell? ⟨a.wk, o, none⟩ = _ := fun o => Lib.cell_of_heap hK2.wb o
  have e1 : ((w.alloc (.cells u.cells 143)).alloc (.cells u.cells 143)).cell? ⟨a.Lb, k, none⟩ = some (.slice A (s.look.getD k []).length ca) := lbc _ hK2.lb
  have hr2 := hK2.rows k _ hv
  have hcl : ∀ j x, u.cells.toList[j]? = some x → (((w.alloc (.cells u.cells 143)).alloc (.cells u.cells 143)).drew).cell? ((⟨(w.alloc (.cells u.cells 143)).heap.size, 0, none⟩ : Addr).add j) = some x := fun j x hx => by
    have hq : (((w.alloc (.cells u.cells 143)).alloc (.cells u.cells 143)).drew).heap[(w.alloc (.cells u.cells 143)).heap.size]? = some (.cells u.cells 143 (0, 0)) := heap_alloc_new _ _
    rw [add_off, Lib.cell_of_heap hq, ← hx]
    simp
  have HFR := Lib.hid ((hfr0.chg (Chg.below ((Below.refl w.heap.size w).alloc (Nat.le_refl _) (.cells u.cells 143)) []) (by simp) (by simp) (by simp)).chg (Chg.below (((Below.refl (w.alloc (.cells u.cells 143)).heap.size (w.alloc (.cells u.cells 143))).alloc (Nat.le_refl _) (.cells u.cells 143)).drew) []) (by simp) (by simp) (by simp))
  have HR := Lib.hid hr2
  have HCL := Lib.hid hcl
  have HK := Lib.hid hK2
  have HB2 := Lib.hid hK2.bel.size
  have HV := Lib.hid hv
  have p0 : (0 : Int) ≤ k := by omega
  have p1 : (k : Int) < a.n := by omega
  have hm : maxLen = 9223372036854775807 := rfl
  have HONE := Lib.hid (one6 u)
  have HH := Lib.hid hh
  have HHK := Lib.hid hk
  have HF : Hid (∀ w3 A2 n2 c2, (((w.alloc (.cells u.cells 143)).alloc (.cells u.cells 143)).drew).grownBy w3 (Value.slice A (s.look.getD k []).length ca).ownBlock → Moves (((w.alloc (.cells u.cells 143)).alloc (.cells u.cells 143)).drew) (Value.slice A (s.look.getD k []).length ca).ownBlock (Value.slice A2 n2 c2).ownBlock →
      w3.ownsRow W.heap.size 143 6 (.slice A2 n2 c2) ((s.look.getD k []).length + 1) (cellsR (s.look.getD k []) ++ u.cells.toList) → Old (((w.alloc (.cells u.cells 143)).alloc (.cells u.cells 143)).drew) w3 (Value.slice A (s.look.getD k []).length ca) ((s.look.getD k []).length * 6) 143 → WPost W a (lookM s k u) h F (.returned (.tuple #[])) (w3.setCell ⟨a.Lb, k, none⟩ (.slice A2 n2 c2)) ∧ (∀ o, w3.cell? ⟨a.wk, o, none⟩ = (#[.pointer (some ⟨a.mo, 0, none⟩), .slice (some ⟨a.Lb, 0, none⟩) a.n a.n, qv] : Array Value)[o]?) ∧ w3.cell? ⟨a.Lb, k, none⟩ = some (.slice A (s.look.getD k []).length ca) ∧ ∀ o, w3.frozen? ⟨a.Lb, o, none⟩ = false) := Lib.hid (fun w3 A2 n2 c2 hg hmv ho hold => by
    have hL := HK.out.look (u := u) hk hv hg hmv ho
    have hkk : ∀ {g : Nat} {x : Array Value} {t : TypeId} {f : Nat × Nat}, _ = some (Obj.cells x t f) → 143 ≠ t → w3.heap[g]? = _ := fun {g x t f} hx hne =>
      hg.block g (lt_of hx) (fun e => by
        obtain ⟨_, cur, hc⟩ := own_blk HR.out e.symm
        exact ne_of_type hc hx hne rfl)
    have hw3 := (hkk HK.out.wb (by show (_ : Nat) ≠ _; decide)).trans HK.out.wb
    have hl3 := (hkk HK.out.lb (by show (_ : Nat) ≠ _; decide)).trans HK.out.lb
    have hCl : Chg _ (w3.setCell ⟨a.Lb, k, none⟩ (.slice A2 n2 c2)) [143, 96] := ((Chg.grown hg (fun g e => by
      obtain ⟨_, cur, hc⟩ := own_blk HR.out e
      exact ⟨_, _, _, hc, by simp⟩)).trans (Chg.set hl3 (by simp)))
    have hFL : F.ok (w3.setCell ⟨a.Lb, k, none⟩ (.slice A2 n2 c2)) (vs.set k (.slice A2 n2 c2)) (lookM s k u).look qv := ⟨fun p hp => snap_look (HFR.out.r p hp) HK.out hk hv hg hmv ho hold hl3, fun p hp => hCl.2 _ _ _ _ (HFR.out.n p hp) (by decide), fun p hp => ⟨hCl.2 _ _ _ _ (HFR.out.p p hp).1 (by decide), (HFR.out.p p hp).2⟩⟩
    refine ⟨⟨rfl, hh, _, _, _, hL, hFL⟩, fun o => Lib.cell_of_heap hw3 o, lbc _ hl3, fun o => frozen_of_row _ _ _ _ _ hl3⟩)
  clear hfr0 hK0 hK1 hK2 hr0 hr2 hcl hv lbc hh hvl
  obtain ⟨uk, uh, uw, ua, ub, uv⟩ := u
  generalize (s.look.getD k []).length = n0 at *
  generalize cellsR (s.look.getD k []) = xs0 at *
  unfold Ru.val
  simp only [Ru.cells] at *
  go_enter Tryz.func171, Tryz.ntmps171
  go_upto_region 1 with fail
  generalize w.alloc (.cells #[.int .i64 uk, .int .i64 uh, .int .i64 uw, .int .i64 ua, .int .i64 ub, .int .i64 uv] 143) = w0 at *
  go_region_law ((refine step_append_at _ rfl (.tmp 17) (.tmp 19) 96 rfl W.heap.size 143 i0 zeroU.val 6 48 Tryz.underlying96 hi hz0 hz1 hz2 rfl (by decide) (.slice A n0 ca) n0 xs0 (by simp [Act.eval]) HR.out ⟨w0.heap.size, 0, none⟩ 1 1 [.int .i64 uk, .int .i64 uh, .int .i64 uw, .int .i64 ua, .int .i64 ub, .int .i64 uv] (by simp [Act.eval]) rfl HCL.out HONE.out (by omega) (by omega) HB2.out ?_; intro v' w3 hown3 hg3 hm3 hold3; obtain ⟨A2, n2, c2, rfl⟩ : ∃ A n c, v' = Value.slice A n c := (by rcases hown3.2 with ⟨rfl, _⟩ | ⟨g, cap, cur, rfl, _⟩ <;> exact ⟨_, _, _, rfl⟩); obtain ⟨F0, F1, F2, F3⟩ := HF.out w3 A2 n2 c2 hg3 hm3 hown3 hold3))
  all_goals
    have HF0 := Lib.hid F0
    clear F0 F1 F2 F3
    go_wp2_with fail
    go_end0
    exact HF0.out
end Go.Proofs.YtcmdiomjhideiaaGreatDoor.SemD
/- The worklist: of, include, by contract. -/
namespace Go.Proofs.YtcmdiomjhideiaaGreatDoor.SemE
set_option linter.unusedVariables false
set_option linter.unusedSimpArgs false
open Go.RowKit Go.Lib Go.Proofs Go.Proofs.YtcmdiomjhideiaaGreatDoor.SetA Go.Proofs.YtcmdiomjhideiaaGreatDoor.SetB Go.Proofs.YtcmdiomjhideiaaGreatDoor.SetC Go.Proofs.YtcmdiomjhideiaaGreatDoor.SetD Go.Proofs.YtcmdiomjhideiaaGreatDoor.SetJ Go.Proofs.YtcmdiomjhideiaaGreatDoor.SetN Go.Proofs.YtcmdiomjhideiaaGreatDoor.SetQ Go.Proofs.YtcmdiomjhideiaaGreatDoor.SetR Go.Proofs.YtcmdiomjhideiaaGreatDoor.TblC Go.Proofs.YtcmdiomjhideiaaGreatDoor.TblV Go.Proofs.YtcmdiomjhideiaaGreatDoor.SemA Go.Proofs.YtcmdiomjhideiaaGreatDoor.SemB Go.Proofs.YtcmdiomjhideiaaGreatDoor.SemC Go.Proofs.YtcmdiomjhideiaaGreatDoor.SemD
set_option linter.unusedVariables false
set_option linter.unusedSimpArgs false
theorem Wq.len {W w : World} {a : Ad} {s : Sm} {h : Nat} {F : Frm} (hq : Wq W w a s h F) : s.all.length ≤ 100000000 := by
  obtain ⟨h1, M, qv, vs, h2, h3⟩ := hq
  have := tot_le h2.inv.len a.n
  rw [h2.inv.tot] at this
  have := h2.fam.n5
  omega
theorem Wq.tick {W w : World} {a : Ad} {s : Sm} {h : Nat} {F : Frm} (hq : Wq W w a s h F) : Wq W (w.setCell ⟨a.mo, 2, none⟩ (.int .i64 ((s.steps : Int) + 1))) a (SemA.tick s) h F := by
  obtain ⟨h1, M, qv, vs, h2, h3⟩ := hq
  exact ⟨h1, M, qv, vs, h2.tick, h3.chg (Chg.set (ts := [100]) h2.mb (by simp)) (by decide) (by decide) (by decide)⟩
/-- What a walk reads of the worklist. -/
theorem Wq.cells {W w : World} {a : Ad} {s : Sm} {h : Nat} {F : Frm} (hq : Wq W w a s h F) : (∃ qv, ∀ o, w.cell? ⟨a.wk, o, none⟩ = (#[.pointer (some ⟨a.mo, 0, none⟩), .slice (some ⟨a.Lb, 0, none⟩) a.n a.n, qv] : Array Value)[o]?) ∧ (∀ o, w.cell? ⟨a.mo, o, none⟩ = (#[.pointer (some ⟨a.B, 0, none⟩), .int .i64 a.K, .int .i64 s.steps] : Array Value)[o]?) ∧ (∀ o, w.frozen? ⟨a.mo, o, none⟩ = false) ∧ ∀ o, w.frozen? ⟨a.wk, o, none⟩ = false := by
  obtain ⟨h1, M, qv, vs, h2, h3⟩ := hq
  exact ⟨⟨qv, fun o => Lib.cell_of_heap h2.wb o⟩, fun o => Lib.cell_of_heap h2.mb o, fun o => frozen_of_row _ _ _ _ _ h2.mb, fun o => frozen_of_row _ _ _ _ _ h2.wb⟩
theorem Tab.up {W w : World} (h : Tab W) {a : Ad} {s : Sm} {k : Nat} {F : Frm} (hq : Wq W w a s k F) : Tab w := by
  obtain ⟨h1, M, qv, vs, h2, h3⟩ := hq
  exact h.below h2.bel
theorem lst {W w : World} {a : Ad} {s : Sm} {k : Nat} {F : Frm} (hq : Wq W w a s k F) (hT : Tab W) (x : Int) : Calls Tryz.prog 79 #[.pointer (some ⟨a.B, 0, none⟩), .int .i64 x] w (ListPost (listL a.c s.all x) w) := by
  have ht := Tab.up hT hq
  obtain ⟨h1, M, qv, vs, h2, h3⟩ := hq
  have := list_at (.pointer (some ⟨a.B, 0, none⟩)) (rowI a.n M x) x w (rowI_len h2.fam.len x) (rowI_small h2.fam x) ht (at_ a.B a.R a.n a.c M x w h2.fam)
  rw [h2.inv.list] at this
  exact this
theorem has {W w : World} {a : Ad} {s : Sm} {k : Nat} {F : Frm} (hq : Wq W w a s k F) (r x : Int) : Calls Tryz.prog 174 #[.pointer (some ⟨a.B, 0, none⟩), .int .i64 r, .int .i64 x] w fun e w' => e = .returned (.bool (hasL s.all r x)) ∧ ∃ q, w' = w.drewN q := by
  obtain ⟨h1, M, qv, vs, h2, h3⟩ := hq
  have := has_ a.B a.R a.n a.c M r x w h2.fam
  rw [h2.inv.has] at this
  exact this
theorem of {w : World} {mo K : Nat} {p v : Value} (hm : ∀ o, w.cell? ⟨mo, o, none⟩ = (#[p, .int .i64 K, v] : Array Value)[o]?) (x y : Nat) (hx : x ≤ 1000) (hy : y ≤ 1000) (hK : K ≤ 1000) : Calls Tryz.prog 173 #[.pointer (some ⟨mo, 0, none⟩), .int .i64 x, .int .i64 y] w fun e w' => e = .returned (.int .i64 ((x * K + y : Nat) : Int)) ∧ w = w' := by
  have hb : x * K ≤ 1000 * 1000 := Nat.mul_le_mul hx hK
  have e1 : IntKind.i64.wrap ((x : Int) * (K : Int)) = ((x * K : Nat) : Int) := by
    rw [← Int.natCast_mul, IntKind.wrap_i64]; omega
  have e2 : IntKind.i64.wrap (((x * K : Nat) : Int) + (y : Int)) = ((x * K + y : Nat) : Int) := by
    rw [← Int.natCast_add, IntKind.wrap_i64]; omega
  generalize x * K = z at *
  generalize hq : z + y = zz at *
  go_enter Tryz.func173, Tryz.ntmps173
  go_wp2_with fail
  go_ret
  exact ⟨rfl, rfl⟩
theorem frm_nums {F : Frm} {w : World} {vs : List Value} {look : List (List Ru)} {qv : Value} {g : Nat} {cur : Array Value} (h : F.ok w vs look qv) (hg : w.heap[g]? = some (.cells cur 3 (0, 0))) : Frm.ok ⟨F.rules, (g, cur) :: F.nums, F.prs⟩ w vs look qv :=
  ⟨h.r, fun p hp => by
    simp only [List.mem_cons] at hp
    rcases hp with rfl | hp
    · exact hg
    · exact h.n p hp, h.p⟩
/-- A row of numbers that is gone through meanwhile. -/
theorem with_nums {W w : World} {a : Ad} {s : Sm} {h : Nat} {F : Frm} {B : Nat} {v : Value} {l : List Nat} (hq : Wq W w a s h F) (hown : w.ownsRow B 3 1 v l.length (encK l)) : ∃ (A : Option Addr) (ca : Nat) (F' : Frm), v = .slice A l.length ca ∧ Wq W w a s h F' ∧ (∀ w' s', Wq W w' a s' h F' → Wq W w' a s' h F) ∧ ∀ w' s', Wq W w' a s' h F' → NG w' A l := by
  have hown0 := hown
  rcases hown.2 with ⟨rfl, h0⟩ | ⟨g, cap, cur, rfl, hB, hg, hc, hm, hs, ht⟩
  · exact ⟨none, 0, F, by rw [h0], hq, fun _ _ h => h, fun _ _ _ hp => by omega⟩
  · obtain ⟨h1, M, qv, vs, h2, h3⟩ := hq
    refine ⟨some ⟨g, 0, none⟩, cap, ⟨F.rules, (g, cur) :: F.nums, F.prs⟩, rfl, ⟨h1, M, qv, vs, h2, frm_nums h3 hg⟩, ?_, ?_⟩
    · rintro w' s' ⟨k1, M', qv', vs', k2, k3⟩
      exact ⟨k1, M', qv', vs', k2, k3.r, fun p hp => k3.n p (by simp [hp]), k3.p⟩
    · rintro w' s' ⟨k1, M', qv', vs', k2, k3⟩
      have hg' := k3.n (g, cur) (by simp)
      simp only at hg'
      intro hp
      refine ⟨g, 0, rfl, lt_of hg', fun j hj => ?_⟩
      have hx : (encK l)[j]? = some (.int .i64 l[j]) := by unfold encK; simp [hj]
      rw [← ht, Nat.mul_one, List.getElem?_take_of_lt (by omega)] at hx
      rw [Nat.zero_add, Lib.cell_of_heap hg', ← Array.getElem?_toList]
      exact hx
set_option maxHeartbeats 1000000 in
set_option maxRecDepth 100000 in
theorem include_ (W w : World) (a : Ad) (s : Sm) (h : Nat) (hd : Int) (k : Nat) (F : Frm) (hT : Tab W) (hw : Wq W w a s h F) (hk : k < a.n) (hl : (s.look.getD k []).length ≤ 100000000) (hst : s.steps ≤ 1000000000000000) :
    Calls Tryz.prog 172 #[.pointer (some ⟨a.wk, 0, none⟩), .int .i64 hd, .int .i64 k] w (WPost W a (includeM a.n a.c s hd k) h F) := by
  have HLk := Lib.hid (SemD.look W w a s h k (inclU hd k) F hw hk hl)
  have HT := Lib.hid hT
  clear hT hw hl
  unfold includeM
  unfold inclU at HLk ⊢
  unfold Ru.val at HLk
  simp only at HLk
  obtain ⟨s1, hs1⟩ : ∃ s1, lookM s k ⟨2, hd, 0, k, 0, 0⟩ = s1 := ⟨_, rfl⟩
  have e1 : s1.all = s.all := by rw [← hs1]; rfl
  have e2 : s1.steps = s.steps := by rw [← hs1]; rfl
  rw [hs1] at HLk ⊢
  rw [← e1]
  rw [← e2] at hst
  clear hs1 e1 e2
  obtain ⟨l, hl⟩ : ∃ l, listL a.c s1.all k = l := ⟨_, rfl⟩
  have hlen : l.length ≤ a.c := by rw [← hl]; exact listL_len _ _ _
  rw [hl]
  have HL0 := Lib.hid hl
  clear hl
  go_enter Tryz.func172, Tryz.ntmps172
  go_wp2_with fail
  refine HLk.out.mono ?_
  rintro e w1 ⟨rfl, hq1⟩
  replace hq1 : Wq W w1 a s1 h F := hq1
  have hc1 : a.c ≤ 1000 := by
    obtain ⟨h1, M, qv, vs, h2, h3⟩ := hq1
    exact h2.fam.c1
  obtain ⟨⟨qv, cw⟩, cm, _, _⟩ := Wq.cells (W := W) (h := h) (F := F) hq1
  have HL := lst hq1 HT.out k
  rw [HL0.out] at HL
  have HL1 := Lib.hid HL
  have HQ1 := Lib.hid hq1
  clear hq1 HL HLk
  go_wp2_with fail
  refine HL1.out.mono ?_
  rintro e w2 ⟨v, rfl, hown, hb⟩
  obtain ⟨A, ca, F', rfl, hq2, hback, hng⟩ := with_nums (Wq.below HQ1.out hb) hown
  have HB := Lib.hid hback
  have HN := Lib.hid hng
  have HQ2 := Lib.hid hq2
  clear hown hb hback hng hq2 cw cm HQ1 HL1
  go_wp2_with fail
  go_loopw [24] (fun i wr => ∃ j : Nat, j ≤ l.length ∧ i = .int .i64 j ∧ Hid (Wq W wr a (incM a.n a.c s1 hd (l.take j)) h F') ∧ Hid ((incM a.n a.c s1 hd (l.take j)).steps = s1.steps + j)) (fun i _ => l.length - (intOf i).toNat)
  case atStart => exact ⟨0, by omega, rfl, HQ2, Lib.hid rfl⟩
  case round =>
    obtain ⟨j, hj, rfl, hq, hsj⟩ := hrel
    clear HQ2
    by_cases hlt : j < l.length
    · have e1 : decide ((j : Int) < l.length) = true := by simp; omega
      have p0 : (0 : Int) ≤ j := by omega
      have p1 : (j : Int) < l.length := by omega
      obtain ⟨g, o, rfl, hg, hcell⟩ := HN.out _ _ hq.out (by omega)
      have a0 := hcell j hlt
      have hst2 : incM a.n a.c s1 hd (l.take (j + 1)) = putM a.n a.c (SemA.tick (incM a.n a.c s1 hd (l.take j))) hd ((l[j] : Nat) : Int) := by
        unfold incM
        rw [List.take_succ_eq_append_getElem hlt, List.foldl_append]
        rfl
      have HS := Lib.hid hst2
      obtain ⟨⟨qv2, cw⟩, cm, fm, _⟩ := Wq.cells hq.out
      have HP := Lib.hid (fun hx => SemC.put W _ a _ h hd ((l[j] : Nat) : Int) F' (Wq.tick hq.out) hx)
      have HLen := Lib.hid (Wq.len (Wq.tick hq.out))
      have hsb : (incM a.n a.c s1 hd (l.take j)).steps ≤ 2000000000000000 := by rw [hsj.out]; omega
      clear hcell hst2 hq
      generalize incM a.n a.c s1 hd (l.take j) = S at *
      generalize l[j] = x at *
      go_wp2_with fail
      refine (HP.out HLen.out).mono ?_
      rintro e w3 ⟨rfl, hq3⟩
      replace hq3 : Wq W w3 a _ h F' := hq3
      have HQ3 := Lib.hid hq3
      clear hq3 cw cm fm a0 HP
      go_wp2_with fail
      go_roundw
      case rel =>
        refine ⟨j + 1, by omega, by go_num, ?_, ?_⟩
        · rw [HS.out]; exact HQ3
        · refine Lib.hid ?_; rw [HS.out]; show S.steps + 1 = _; rw [hsj.out]; omega
      case measure => simp [intOf]; omega
    · have e1 : decide ((j : Int) < l.length) = false := by simp; omega
      obtain rfl : j = l.length := by omega
      rw [List.take_length] at hq
      have HE := Lib.hid (HB.out _ _ hq.out)
      clear hq hsj
      go_wp2_with fail
      go_end0
      exact ⟨rfl, HE.out⟩
end Go.Proofs.YtcmdiomjhideiaaGreatDoor.SemE
