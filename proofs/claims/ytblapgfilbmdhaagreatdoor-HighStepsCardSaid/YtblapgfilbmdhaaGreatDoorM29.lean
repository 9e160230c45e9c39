/- The worklist: look, by contract. -/
import Derived.Test.YtblapgfilbmdhaaGreatDoorM28
set_option linter.unusedVariables false
set_option linter.unusedSimpArgs false
namespace Go.Proofs.YtblapgfilbmdhaaGreatDoor.SemD
open Go.RowKit Go.Lib Go.Proofs SetA SetB SetJ SetN SetQ SetR TblC TblV SemA SemB SemC
def Old (w w' : World) (v : Value) (m : Nat) (e : TypeId) : Prop := ∀ g, v.ownBlock = some g → (∃ cur, w'.heap[g]? = some (.cells cur e (0, 0))) ∧ ∀ j, j < m → w'.cell? ⟨g, j, none⟩ = w.cell? ⟨g, j, none⟩
section
variable {P : Program} (w : World)
theorem run_append_own_k (base : Nat) (t ty e : TypeId) (i : TypeInfo) (z : Value) (size bytes : Nat) (ht : P.underlying t = some (.slice e)) (hi : P.info? e = some i) (hz : i.zero = some z)
    (hsize : i.size = size) (hby : i.bytes = bytes) (hzs : z.cells.size = size) (hsz : 0 < size) (v : Value) (n : Nat) (xs : List Value) (hown : w.ownsRow base e size v n xs)
    (ad : Addr) (m c : Nat) (news : List Value) (hl : news.length = m * size) (hnews : ∀ j u, news[j]? = some u → w.cell? (ad.add j) = some u) (h1 : ∀ u ∈ news, u.oneCell' = true)
    (h63 : n + m ≤ maxLen) (hbytes : (n + m) * bytes ≤ 140737488355328) (hbase : base ≤ w.heap.size) :
    ∃ v' w', (Builtin.append_ #[t, t] ty #[v, .slice (some ad) m c]).run P w = .ok v' w' ∧ w'.ownsRow base e size v' (n + m) (xs ++ news) ∧ w.grownBy w' v.ownBlock ∧ Moves w v.ownBlock v'.ownBlock ∧ Old w w' v (n * size) e := by
  obtain ⟨v', w', hr, h2, h3, _, h5⟩ := run_append_own_at (P := P) w base t ty e i z size bytes ht hi hz hsize hby hzs hsz v n xs hown ad m c news hl hnews h1 h63 hbytes hbase
  have hm : Moves w v.ownBlock v'.ownBlock := by
    rcases h5 with h | h
    · exact .inl h
    · exact .inr ⟨_, h, Nat.le_refl _⟩
  refine ⟨v', w', hr, h2, h3, hm, fun g hg => ?_⟩
  have hx := hown.1
  have hold := hown.cells hg
  rcases hown.2 with ⟨rfl, _⟩ | ⟨g', cap, cur, rfl, hbg, hgg, hnc, hcm, hcs, htake⟩
  · simp [Value.ownBlock] at hg
  simp [Value.ownBlock] at hg
  subst hg
  have hfit : n * i.size + news.length ≤ cur.size ∨ cap < n + m := by
    by_cases hroom : n + m ≤ cap
    · left; rw [hsize, hl, hcs, ← Nat.add_mul]; exact Nat.mul_le_mul_right _ hroom
    · exact .inr (by omega)
  by_cases hroom : n + m ≤ cap
  · have hr2 := run_append_room (P := P) w t ty e i ht hi g' n cap cur hgg ad m c news (by rw [hsize]; exact hl) hnews h1 hroom (by rcases hfit with h | h; exact h; omega)
    rw [hr] at hr2
    injection hr2 with e1 e2
    subst e1
    refine ⟨(own_blk h2 rfl).2, fun j hj => ?_⟩
    have hj2 : j < xs.length := by rw [hx]; exact hj
    have hc2 := h2.cells (g := g') rfl j xs[j] (by rw [List.getElem?_append_left hj2]; exact List.getElem?_eq_getElem hj2)
    have hc1 := hold j xs[j] (List.getElem?_eq_getElem hj2)
    rw [add_off, Nat.zero_add] at hc1 hc2
    rw [hc1, hc2]
  · have holds : ∀ j u, xs[j]? = some u → w.cell? ((⟨g', 0, none⟩ : Addr).add j) = some u := hold
    have hr2 := run_append_grow (P := P) w t ty e i z ht hi hz ⟨g', 0, none⟩ n cap xs (by rw [hsize]; exact hx) holds ad m c news (by rw [hsize]; exact hl) hnews (by omega) (by simp only [maxLen] at h63; omega) (growslice_fits (by omega) (by rw [hby]; exact hbytes))
    rw [hr] at hr2
    injection hr2 with e1 e2
    have hlt := lt_of hgg
    have hh : w'.heap[g']? = w.heap[g']? := by rw [e2]; exact heap_alloc_old w.drew _ hlt
    exact ⟨⟨cur, hh.trans hgg⟩, fun j hj => by rw [Lib.cell_of_heap (hh.trans hgg), Lib.cell_of_heap hgg]⟩
theorem step_append_at {ops : Array Oper} {o : Oper} {a : Act} {K : Act → World → Prop} {Q : Exit → Act → World → Prop} {E : Prop} (hgd : o.guard = none) (s x : Operand) (t : TypeId)
    (ho : o.op = .call { callee := .builtin .append, args := #[s, x], argTypes := #[t, t] })
    (base : Nat) (e : TypeId) (i : TypeInfo) (z : Value) (size bytes : Nat) (ht : P.underlying t = some (.slice e)) (hi : P.info? e = some i) (hz : i.zero = some z)
    (hsize : i.size = size) (hby : i.bytes = bytes) (hzs : z.cells.size = size) (hsz : 0 < size) (v : Value) (n : Nat) (xs : List Value) (hs : a.eval s = v) (hown : w.ownsRow base e size v n xs)
    (ad : Addr) (m c : Nat) (news : List Value) (hx : a.eval x = .slice (some ad) m c) (hlen : news.length = m * size) (hA : ∀ j u, news[j]? = some u → w.cell? (ad.add j) = some u) (h1 : ∀ u ∈ news, u.oneCell' = true)
    (h63 : n + m ≤ maxLen) (hbytes : (n + m) * bytes ≤ 140737488355328) (hbase : base ≤ w.heap.size)
    (h : ∀ v' w', w'.ownsRow base e size v' (n + m) (xs ++ news) → w.grownBy w' v.ownBlock → Moves w v.ownBlock v'.ownBlock → Old w w' v (n * size) e → K (a.put o.dst v') w') :
    if Region.wanted o (yielded ops a.tmps) = true then Oper.wp P o a w K Q else E := by
  have hw : Region.wanted o (yielded ops a.tmps) = true := by simp [Region.wanted, hgd]
  rw [if_pos hw]
  obtain ⟨v', w', hr, h2, h3, h4, h5⟩ := run_append_own_k (P := P) w base t o.type e i z size bytes ht hi hz hsize hby hzs hsz v n xs hown ad m c news hlen hA h1 h63 hbytes hbase
  unfold Oper.wp execOp
  simp only [ho, resolve, invoke, builtin, Sem.run_bind, Sem.run_pure, Result.andThen_ok, List.map_toArray, List.map_cons, List.map_nil, hs, hx, hr]
  exact h v' w' h2 h3 h4 h5
end
theorem snap_look {W w w' : World} {a : Ad} {M : List Nat} {s : Sm} {q : List Pr} {qv : Value} {vs : List Value} {i : Nat} {v v' : Value} {u : Ru} {g : Nat} {T : List Ru} (hs : Snap w vs s.look g T) (h : Wk W w a M s q qv vs) (hi : i < a.n) (hv : vs[i]? = some v) (hg : w.grownBy w' v.ownBlock) (hm : Moves w v.ownBlock v'.ownBlock)
    (ho : w'.ownsRow W.heap.size 150 6 v' ((s.look.getD i []).length + 1) (cellsR (s.look.getD i []) ++ u.cells.toList)) (hold : Old w w' v ((s.look.getD i []).length * 6) 150) (hlb : w'.heap[a.Lb]? = some (.cells vs.toArray 117 (0, 0))) :
    Snap (w'.setCell ⟨a.Lb, i, none⟩ v') (vs.set i v') (lookM s i u).look g T := by
  obtain ⟨cur, hty⟩ := hs.ty
  have hlt := lt_of hty
  have hlu : ∀ j, (lookM s i u).look.getD j [] = if j = i then s.look.getD i [] ++ [u] else s.look.getD j [] := fun j => by
    unfold lookM
    simp only [getD_modify]
    by_cases e : j = i
    · subst e
      rw [if_pos ⟨by simp, by rw [h.ll]; exact hi⟩, if_pos rfl]
    · rw [if_neg (by simp; omega), if_neg e]
  have hpre : v.ownBlock = some g → T <+: s.look.getD i [] := hs.own i v hv
  have hty' : ∃ cur, w'.heap[g]? = some (.cells cur 150 (0, 0)) := by
    by_cases e : v.ownBlock = some g
    · exact (hold g e).1
    · exact ⟨cur, (hg.block g hlt (fun e2 => e e2.symm)).trans hty⟩
  obtain ⟨cur', hty2⟩ := hty'
  have hne : g ≠ a.Lb := ne_of_type hty2 hlb (by show (_ : Nat) ≠ _; decide)
  have hcell : ∀ j, (w'.setCell ⟨a.Lb, i, none⟩ v').cell? ⟨g, j, none⟩ = w'.cell? ⟨g, j, none⟩ := fun j => by
    rw [Lib.cell_of_heap ((set_other w' _ _ _ hne).trans hty2), Lib.cell_of_heap hty2]
  refine ⟨⟨cur', (set_other w' _ _ _ hne).trans hty2⟩, fun j hj k hk => ?_, fun j x hx hg2 => ?_⟩
  · rw [hcell, ← hs.at_ j hj k hk]
    by_cases e : v.ownBlock = some g
    · have := (hpre e).length_le
      exact (hold g e).2 _ (by omega)
    · rw [Lib.cell_of_heap ((hg.block g hlt (fun e2 => e e2.symm)).trans hty), Lib.cell_of_heap hty]
  · rw [hlu]
    rw [List.getElem?_set] at hx
    split at hx
    · rename_i e
      subst e
      rw [if_pos rfl]
      split at hx
      · injection hx with hx
        subst hx
        rcases hm with e | ⟨g', e, hge⟩
        · exact List.IsPrefix.trans (hpre (e ▸ hg2)) (List.prefix_append _ _)
        · rw [e] at hg2
          injection hg2 with hg2
          omega
      · cases hx
    · rename_i e
      rw [if_neg (fun e2 => e e2.symm)]
      exact hs.own j x hx hg2
theorem one6 (u : Ru) : ∀ x ∈ u.cells.toList, x.oneCell' = true := fun x hx => by
  simp [Ru.cells] at hx
  rcases hx with rfl | rfl | rfl | rfl | rfl | rfl <;> rfl
set_option maxHeartbeats 1000000 in
set_option maxRecDepth 100000 in
theorem look (W w : World) (a : Ad) (s : Sm) (h : Nat) (k : Nat) (u : Ru) (F : Frm) (hw : Wq W w a s h F) (hk : k < a.n) (hl : (s.look.getD k []).length ≤ 100000000) :
    Calls Tryz.prog 181 #[.pointer (some ⟨a.wk, 0, none⟩), .int .i64 k, u.val] w (WPost W a (lookM s k u) h F) := by
  obtain ⟨i0, hi, hz0, hz1, hz2⟩ := info_parts infoRu
  obtain ⟨hh, M, qv, vs, hK0, hfr0⟩ := hw
  have hvl : k < vs.length := by rw [hK0.lv]; exact hk
  obtain ⟨v, hv⟩ : ∃ v, vs[k]? = some v := ⟨_, List.getElem?_eq_getElem hvl⟩
  have hr0 := hK0.rows k v hv
  obtain ⟨A, ca, rfl, _⟩ := ug_own hr0
  have hK1 := hK0.below ((Below.refl w.heap.size w).alloc (Nat.le_refl _) (.cells u.cells 150))
  have hK2 := hK1.below (((Below.refl (w.alloc (.cells u.cells 150)).heap.size (w.alloc (.cells u.cells 150))).alloc (Nat.le_refl _) (.cells u.cells 150)).drew)
  have lbc : ∀ X : World, X.heap[a.Lb]? = some (.cells vs.toArray 117 (0, 0)) → X.cell? ⟨a.Lb, k, none⟩ = some (.slice A (s.look.getD k []).length ca) := fun X hX => by
    rw [Lib.cell_of_heap hX, ← hv]; simp
  have d0 : ∀ o, (w.alloc (.cells u.cells 150)).cell? ⟨a.wk, o, none⟩ = _ := fun o => Lib.cell_of_heap hK1.wb o
  have d1 := lbc _ hK1.lb
  have d2 : ∀ o, (w.alloc (.cells u.cells 150)).cell? ⟨w.heap.size, o, none⟩ = _ := fun o => Lib.cell_of_heap (heap_alloc_new w _) o
  have e0 : ∀ o, ((w.alloc (.cells u.cells 150)).alloc (.cells u.cells 150)).cell? ⟨a.wk, o, none⟩ = _ := fun o => Lib.cell_of_heap hK2.wb o
  have e1 : ((w.alloc (.cells u.cells 150)).alloc (.cells u.cells 150)).cell? ⟨a.Lb, k, none⟩ = some (.slice A (s.look.getD k []).length ca) := lbc _ hK2.lb
  have hr2 := hK2.rows k _ hv
  have hcl : ∀ j x, u.cells.toList[j]? = some x → (((w.alloc (.cells u.cells 150)).alloc (.cells u.cells 150)).drew).cell? ((⟨(w.alloc (.cells u.cells 150)).heap.size, 0, none⟩ : Addr).add j) = some x := fun j x hx => by
    have hq : (((w.alloc (.cells u.cells 150)).alloc (.cells u.cells 150)).drew).heap[(w.alloc (.cells u.cells 150)).heap.size]? = some (.cells u.cells 150 (0, 0)) := heap_alloc_new _ _
    rw [add_off, Lib.cell_of_heap hq, ← hx]
    simp
  have HFR := Lib.hid ((hfr0.chg (Chg.below ((Below.refl w.heap.size w).alloc (Nat.le_refl _) (.cells u.cells 150)) []) (by simp) (by simp) (by simp)).chg (Chg.below (((Below.refl (w.alloc (.cells u.cells 150)).heap.size (w.alloc (.cells u.cells 150))).alloc (Nat.le_refl _) (.cells u.cells 150)).drew) []) (by simp) (by simp) (by simp))
  have HR := Lib.hid hr2
  have HCL := Lib.hid hcl
  have HK := Lib.hid hK2
  have HB2 := Lib.hid hK2.bel.size
  have HV := Lib.hid hv
  have p0 : (0 : Int) ≤ k := by omega
  have p1 : (k : Int) < a.n := by omega
  have hm : maxLen = 9223372036854775807 := rfl
  have HONE := Lib.hid (one6 u)
  have HH := Lib.hid hh
  have HHK := Lib.hid hk
  have HF : Hid (∀ w3 A2 n2 c2, (((w.alloc (.cells u.cells 150)).alloc (.cells u.cells 150)).drew).grownBy w3 (Value.slice A (s.look.getD k []).length ca).ownBlock → Moves (((w.alloc (.cells u.cells 150)).alloc (.cells u.cells 150)).drew) (Value.slice A (s.look.getD k []).length ca).ownBlock (Value.slice A2 n2 c2).ownBlock →
      w3.ownsRow W.heap.size 150 6 (.slice A2 n2 c2) ((s.look.getD k []).length + 1) (cellsR (s.look.getD k []) ++ u.cells.toList) → Old (((w.alloc (.cells u.cells 150)).alloc (.cells u.cells 150)).drew) w3 (Value.slice A (s.look.getD k []).length ca) ((s.look.getD k []).length * 6) 150 → WPost W a (lookM s k u) h F (.returned (.tuple #[])) (w3.setCell ⟨a.Lb, k, none⟩ (.slice A2 n2 c2)) ∧ (∀ o, w3.cell? ⟨a.wk, o, none⟩ = (#[.pointer (some ⟨a.mo, 0, none⟩), .slice (some ⟨a.Lb, 0, none⟩) a.n a.n, qv] : Array Value)[o]?) ∧ w3.cell? ⟨a.Lb, k, none⟩ = some (.slice A (s.look.getD k []).length ca) ∧ ∀ o, w3.frozen? ⟨a.Lb, o, none⟩ = false) := Lib.hid (fun w3 A2 n2 c2 hg hmv ho hold => by
    have hL := HK.out.look (u := u) hk hv hg hmv ho
    have hkk : ∀ {g : Nat} {x : Array Value} {t : TypeId} {f : Nat × Nat}, _ = some (Obj.cells x t f) → 150 ≠ t → w3.heap[g]? = _ := fun {g x t f} hx hne =>
      hg.block g (lt_of hx) (fun e => by
        obtain ⟨_, cur, hc⟩ := own_blk HR.out e.symm
        exact ne_of_type hc hx hne rfl)
    have hw3 := (hkk HK.out.wb (by show (_ : Nat) ≠ _; decide)).trans HK.out.wb
    have hl3 := (hkk HK.out.lb (by show (_ : Nat) ≠ _; decide)).trans HK.out.lb
    have hCl : Chg _ (w3.setCell ⟨a.Lb, k, none⟩ (.slice A2 n2 c2)) [150, 117] := ((Chg.grown hg (fun g e => by
      obtain ⟨_, cur, hc⟩ := own_blk HR.out e
      exact ⟨_, _, _, hc, by simp⟩)).trans (Chg.set hl3 (by simp)))
    have hFL : F.ok (w3.setCell ⟨a.Lb, k, none⟩ (.slice A2 n2 c2)) (vs.set k (.slice A2 n2 c2)) (lookM s k u).look qv := ⟨fun p hp => snap_look (HFR.out.r p hp) HK.out hk hv hg hmv ho hold hl3, fun p hp => hCl.2 _ _ _ _ (HFR.out.n p hp) (by decide), fun p hp => ⟨hCl.2 _ _ _ _ (HFR.out.p p hp).1 (by decide), (HFR.out.p p hp).2⟩⟩
    refine ⟨⟨rfl, hh, _, _, _, hL, hFL⟩, fun o => Lib.cell_of_heap hw3 o, lbc _ hl3, fun o => frozen_of_row _ _ _ _ _ hl3⟩)
  clear hfr0 hK0 hK1 hK2 hr0 hr2 hcl hv lbc hh hvl
  obtain ⟨uk, uh, uw, ua, ub, uv⟩ := u
  generalize (s.look.getD k []).length = n0 at *
  generalize cellsR (s.look.getD k []) = xs0 at *
  unfold Ru.val
  simp only [Ru.cells] at *
  go_enter Tryz.func181, Tryz.ntmps181
  go_upto_region 1 with fail
  generalize w.alloc (.cells #[.int .i64 uk, .int .i64 uh, .int .i64 uw, .int .i64 ua, .int .i64 ub, .int .i64 uv] 150) = w0 at *
  go_region_law ((refine step_append_at _ rfl (.tmp 17) (.tmp 19) 117 rfl W.heap.size 150 i0 zeroU.val 6 48 Tryz.underlying117 hi hz0 hz1 hz2 rfl (by decide) (.slice A n0 ca) n0 xs0 (by simp [Act.eval]) HR.out ⟨w0.heap.size, 0, none⟩ 1 1 [.int .i64 uk, .int .i64 uh, .int .i64 uw, .int .i64 ua, .int .i64 ub, .int .i64 uv] (by simp [Act.eval]) rfl HCL.out HONE.out (by omega) (by omega) HB2.out ?_; intro v' w3 hown3 hg3 hm3 hold3; obtain ⟨A2, n2, c2, rfl⟩ : ∃ A n c, v' = Value.slice A n c := (by rcases hown3.2 with ⟨rfl, _⟩ | ⟨g, cap, cur, rfl, _⟩ <;> exact ⟨_, _, _, rfl⟩); obtain ⟨F0, F1, F2, F3⟩ := HF.out w3 A2 n2 c2 hg3 hm3 hown3 hold3))
  all_goals
    have HF0 := Lib.hid F0
    clear F0 F1 F2 F3
    go_wp2_with fail
    go_end0
    exact HF0.out
end Go.Proofs.YtblapgfilbmdhaaGreatDoor.SemD
