/- The worklist: of, include, by contract. -/
import Derived.Test.YtblapgfilbmdhaaGreatDoorM29
import Derived.Test.YtblapgfilbmdhaaGreatDoorM27
set_option linter.unusedVariables false
set_option linter.unusedSimpArgs false
namespace Go.Proofs.YtblapgfilbmdhaaGreatDoor.SemE
open Go.RowKit Go.Lib Go.Proofs SetA SetB SetC SetD SetJ SetN SetQ SetR TblC TblV SemA SemB SemC SemD
theorem Wq.len {W w : World} {a : Ad} {s : Sm} {h : Nat} {F : Frm} (hq : Wq W w a s h F) : s.all.length ≤ 100000000 := by
  obtain ⟨h1, M, qv, vs, h2, h3⟩ := hq
  have := tot_le h2.inv.len a.n
  rw [h2.inv.tot] at this
  have := h2.fam.n5
  omega
theorem Wq.tick {W w : World} {a : Ad} {s : Sm} {h : Nat} {F : Frm} (hq : Wq W w a s h F) : Wq W (w.setCell ⟨a.mo, 2, none⟩ (.int .i64 ((s.steps : Int) + 1))) a (SemA.tick s) h F := by
  obtain ⟨h1, M, qv, vs, h2, h3⟩ := hq
  exact ⟨h1, M, qv, vs, h2.tick, h3.chg (Chg.set (ts := [121]) h2.mb (by simp)) (by decide) (by decide) (by decide)⟩
theorem Wq.cells {W w : World} {a : Ad} {s : Sm} {h : Nat} {F : Frm} (hq : Wq W w a s h F) : (∃ qv, ∀ o, w.cell? ⟨a.wk, o, none⟩ = (#[.pointer (some ⟨a.mo, 0, none⟩), .slice (some ⟨a.Lb, 0, none⟩) a.n a.n, qv] : Array Value)[o]?) ∧ (∀ o, w.cell? ⟨a.mo, o, none⟩ = (#[.pointer (some ⟨a.B, 0, none⟩), .int .i64 a.K, .int .i64 s.steps] : Array Value)[o]?) ∧ (∀ o, w.frozen? ⟨a.mo, o, none⟩ = false) ∧ ∀ o, w.frozen? ⟨a.wk, o, none⟩ = false := by
  obtain ⟨h1, M, qv, vs, h2, h3⟩ := hq
  exact ⟨⟨qv, fun o => Lib.cell_of_heap h2.wb o⟩, fun o => Lib.cell_of_heap h2.mb o, fun o => frozen_of_row _ _ _ _ _ h2.mb, fun o => frozen_of_row _ _ _ _ _ h2.wb⟩
theorem Tab.up {W w : World} (h : Tab W) {a : Ad} {s : Sm} {k : Nat} {F : Frm} (hq : Wq W w a s k F) : Tab w := by
  obtain ⟨h1, M, qv, vs, h2, h3⟩ := hq
  exact h.below h2.bel
theorem lst {W w : World} {a : Ad} {s : Sm} {k : Nat} {F : Frm} (hq : Wq W w a s k F) (hT : Tab W) (x : Int) : Calls Tryz.prog 101 #[.pointer (some ⟨a.B, 0, none⟩), .int .i64 x] w (ListPost (listL a.c s.all x) w) := by
  have ht := Tab.up hT hq
  obtain ⟨h1, M, qv, vs, h2, h3⟩ := hq
  have := list_at (.pointer (some ⟨a.B, 0, none⟩)) (rowI a.n M x) x w (rowI_len h2.fam.len x) (rowI_small h2.fam x) ht (at_ a.B a.R a.n a.c M x w h2.fam)
  rw [h2.inv.list] at this
  exact this
theorem has {W w : World} {a : Ad} {s : Sm} {k : Nat} {F : Frm} (hq : Wq W w a s k F) (r x : Int) : Calls Tryz.prog 184 #[.pointer (some ⟨a.B, 0, none⟩), .int .i64 r, .int .i64 x] w fun e w' => e = .returned (.bool (hasL s.all r x)) ∧ ∃ q, w' = w.drewN q := by
  obtain ⟨h1, M, qv, vs, h2, h3⟩ := hq
  have := has_ a.B a.R a.n a.c M r x w h2.fam
  rw [h2.inv.has] at this
  exact this
theorem of {w : World} {mo K : Nat} {p v : Value} (hm : ∀ o, w.cell? ⟨mo, o, none⟩ = (#[p, .int .i64 K, v] : Array Value)[o]?) (x y : Nat) (hx : x ≤ 1000) (hy : y ≤ 1000) (hK : K ≤ 1000) : Calls Tryz.prog 183 #[.pointer (some ⟨mo, 0, none⟩), .int .i64 x, .int .i64 y] w fun e w' => e = .returned (.int .i64 ((x * K + y : Nat) : Int)) ∧ w = w' := by
  have hb : x * K ≤ 1000 * 1000 := Nat.mul_le_mul hx hK
  have e1 : IntKind.i64.wrap ((x : Int) * (K : Int)) = ((x * K : Nat) : Int) := by
    rw [← Int.natCast_mul, IntKind.wrap_i64]; omega
  have e2 : IntKind.i64.wrap (((x * K : Nat) : Int) + (y : Int)) = ((x * K + y : Nat) : Int) := by
    rw [← Int.natCast_add, IntKind.wrap_i64]; omega
  generalize x * K = z at *
  generalize hq : z + y = zz at *
  go_enter Tryz.func183, Tryz.ntmps183
  go_wp2_with fail
  go_ret
  exact ⟨rfl, rfl⟩
theorem frm_nums {F : Frm} {w : World} {vs : List Value} {look : List (List Ru)} {qv : Value} {g : Nat} {cur : Array Value} (h : F.ok w vs look qv) (hg : w.heap[g]? = some (.cells cur 3 (0, 0))) : Frm.ok ⟨F.rules, (g, cur) :: F.nums, F.prs⟩ w vs look qv :=
  ⟨h.r, fun p hp => by
    simp only [List.mem_cons] at hp
    rcases hp with rfl | hp
    · exact hg
    · exact h.n p hp, h.p⟩
theorem with_nums {W w : World} {a : Ad} {s : Sm} {h : Nat} {F : Frm} {B : Nat} {v : Value} {l : List Nat} (hq : Wq W w a s h F) (hown : w.ownsRow B 3 1 v l.length (encK l)) : ∃ (A : Option Addr) (ca : Nat) (F' : Frm), v = .slice A l.length ca ∧ Wq W w a s h F' ∧ (∀ w' s', Wq W w' a s' h F' → Wq W w' a s' h F) ∧ ∀ w' s', Wq W w' a s' h F' → NG w' A l := by
  have hown0 := hown
  rcases hown.2 with ⟨rfl, h0⟩ | ⟨g, cap, cur, rfl, hB, hg, hc, hm, hs, ht⟩
  · exact ⟨none, 0, F, by rw [h0], hq, fun _ _ h => h, fun _ _ _ hp => by omega⟩
  · obtain ⟨h1, M, qv, vs, h2, h3⟩ := hq
    refine ⟨some ⟨g, 0, none⟩, cap, ⟨F.rules, (g, cur) :: F.nums, F.prs⟩, rfl, ⟨h1, M, qv, vs, h2, frm_nums h3 hg⟩, ?_, ?_⟩
    · rintro w' s' ⟨k1, M', qv', vs', k2, k3⟩
      exact ⟨k1, M', qv', vs', k2, k3.r, fun p hp => k3.n p (by simp [hp]), k3.p⟩
    · rintro w' s' ⟨k1, M', qv', vs', k2, k3⟩
      have hg' := k3.n (g, cur) (by simp)
      simp only at hg'
      intro hp
      refine ⟨g, 0, rfl, lt_of hg', fun j hj => ?_⟩
      have hx : (encK l)[j]? = some (.int .i64 l[j]) := by unfold encK; simp [hj]
      rw [← ht, Nat.mul_one, List.getElem?_take_of_lt (by omega)] at hx
      rw [Nat.zero_add, Lib.cell_of_heap hg', ← Array.getElem?_toList]
      exact hx
set_option maxHeartbeats 1000000 in
set_option maxRecDepth 100000 in
theorem include_ (W w : World) (a : Ad) (s : Sm) (h : Nat) (hd : Int) (k : Nat) (F : Frm) (hT : Tab W) (hw : Wq W w a s h F) (hk : k < a.n) (hl : (s.look.getD k []).length ≤ 100000000) (hst : s.steps ≤ 1000000000000000) :
    Calls Tryz.prog 182 #[.pointer (some ⟨a.wk, 0, none⟩), .int .i64 hd, .int .i64 k] w (WPost W a (includeM a.n a.c s hd k) h F) := by
  have HLk := Lib.hid (SemD.look W w a s h k (inclU hd k) F hw hk hl)
  have HT := Lib.hid hT
  clear hT hw hl
  unfold includeM
  unfold inclU at HLk ⊢
  unfold Ru.val at HLk
  simp only at HLk
  obtain ⟨s1, hs1⟩ : ∃ s1, lookM s k ⟨2, hd, 0, k, 0, 0⟩ = s1 := ⟨_, rfl⟩
  have e1 : s1.all = s.all := by rw [← hs1]; rfl
  have e2 : s1.steps = s.steps := by rw [← hs1]; rfl
  rw [hs1] at HLk ⊢
  rw [← e1]
  rw [← e2] at hst
  clear hs1 e1 e2
  obtain ⟨l, hl⟩ : ∃ l, listL a.c s1.all k = l := ⟨_, rfl⟩
  have hlen : l.length ≤ a.c := by rw [← hl]; exact listL_len _ _ _
  rw [hl]
  have HL0 := Lib.hid hl
  clear hl
  go_enter Tryz.func182, Tryz.ntmps182
  go_wp2_with fail
  refine HLk.out.mono ?_
  rintro e w1 ⟨rfl, hq1⟩
  replace hq1 : Wq W w1 a s1 h F := hq1
  have hc1 : a.c ≤ 1000 := by
    obtain ⟨h1, M, qv, vs, h2, h3⟩ := hq1
    exact h2.fam.c1
  obtain ⟨⟨qv, cw⟩, cm, _, _⟩ := Wq.cells (W := W) (h := h) (F := F) hq1
  have HL := lst hq1 HT.out k
  rw [HL0.out] at HL
  have HL1 := Lib.hid HL
  have HQ1 := Lib.hid hq1
  clear hq1 HL HLk
  go_wp2_with fail
  refine HL1.out.mono ?_
  rintro e w2 ⟨v, rfl, hown, hb⟩
  obtain ⟨A, ca, F', rfl, hq2, hback, hng⟩ := with_nums (Wq.below HQ1.out hb) hown
  have HB := Lib.hid hback
  have HN := Lib.hid hng
  have HQ2 := Lib.hid hq2
  clear hown hb hback hng hq2 cw cm HQ1 HL1
  go_wp2_with fail
  go_loopw [24] (fun i wr => ∃ j : Nat, j ≤ l.length ∧ i = .int .i64 j ∧ Hid (Wq W wr a (incM a.n a.c s1 hd (l.take j)) h F') ∧ Hid ((incM a.n a.c s1 hd (l.take j)).steps = s1.steps + j)) (fun i _ => l.length - (intOf i).toNat)
  case atStart => exact ⟨0, by omega, rfl, HQ2, Lib.hid rfl⟩
  case round =>
    obtain ⟨j, hj, rfl, hq, hsj⟩ := hrel
    clear HQ2
    by_cases hlt : j < l.length
    · have e1 : decide ((j : Int) < l.length) = true := by simp; omega
      have p0 : (0 : Int) ≤ j := by omega
      have p1 : (j : Int) < l.length := by omega
      obtain ⟨g, o, rfl, hg, hcell⟩ := HN.out _ _ hq.out (by omega)
      have a0 := hcell j hlt
      have hst2 : incM a.n a.c s1 hd (l.take (j + 1)) = putM a.n a.c (SemA.tick (incM a.n a.c s1 hd (l.take j))) hd ((l[j] : Nat) : Int) := by
        unfold incM
        rw [List.take_succ_eq_append_getElem hlt, List.foldl_append]
        rfl
      have HS := Lib.hid hst2
      obtain ⟨⟨qv2, cw⟩, cm, fm, _⟩ := Wq.cells hq.out
      have HP := Lib.hid (fun hx => SemC.put W _ a _ h hd ((l[j] : Nat) : Int) F' (Wq.tick hq.out) hx)
      have HLen := Lib.hid (Wq.len (Wq.tick hq.out))
      have hsb : (incM a.n a.c s1 hd (l.take j)).steps ≤ 2000000000000000 := by rw [hsj.out]; omega
      clear hcell hst2 hq
      generalize incM a.n a.c s1 hd (l.take j) = S at *
      generalize l[j] = x at *
      go_wp2_with fail
      refine (HP.out HLen.out).mono ?_
      rintro e w3 ⟨rfl, hq3⟩
      replace hq3 : Wq W w3 a _ h F' := hq3
      have HQ3 := Lib.hid hq3
      clear hq3 cw cm fm a0 HP
      go_wp2_with fail
      go_roundw
      case rel =>
        refine ⟨j + 1, by omega, by go_num, ?_, ?_⟩
        · rw [HS.out]; exact HQ3
        · refine Lib.hid ?_; rw [HS.out]; show S.steps + 1 = _; rw [hsj.out]; omega
      case measure => simp [intOf]; omega
    · have e1 : decide ((j : Int) < l.length) = false := by simp; omega
      obtain rfl : j = l.length := by omega
      rw [List.take_length] at hq
      have HE := Lib.hid (HB.out _ _ hq.out)
      clear hq hsj
      go_wp2_with fail
      go_end0
      exact ⟨rfl, HE.out⟩
end Go.Proofs.YtblapgfilbmdhaaGreatDoor.SemE
namespace Go.Proofs.YtblapgfilbmdhaaGreatDoor.SemF
open Go.RowKit Go.Lib Go.Proofs SetA SetB SetC SetD SetJ SetN SetQ SetR TblC TblV SemA SemB SemC SemD SemE
theorem with_box {W w : World} {a : Ad} {s : Sm} {h : Nat} {F : Frm} (hq : Wq W w a s h F) (p : Pr) : ∃ F' : Frm, Wq W (w.alloc (.cells #[.int .i64 p.1, .int .i64 p.2] 153)) a s h F' ∧ (∀ w' s', Wq W w' a s' h F' → Wq W w' a s' h F) ∧ ∀ w' s', Wq W w' a s' h F' → ∀ o, w'.cell? ⟨w.heap.size, o, none⟩ = (#[.int .i64 p.1, .int .i64 p.2] : Array Value)[o]? := by
  obtain ⟨h1, M, qv, vs, h2, h3⟩ := Wq.below hq ((Below.refl w.heap.size w).alloc (Nat.le_refl _) (.cells #[.int .i64 p.1, .int .i64 p.2] 153))
  obtain ⟨_, M0, qv0, vs0, g2, g3⟩ := hq
  have hqv : qv.ownBlock ≠ some w.heap.size := fun e => by
    have e1 : qv0 = qv := by
      have := (((Below.refl w.heap.size w).alloc (Nat.le_refl _) (.cells #[.int .i64 p.1, .int .i64 p.2] 153)).block _ (lt_of g2.wb)).trans g2.wb
      rw [h2.wb] at this
      simp only [Option.some.injEq, Obj.cells.injEq] at this
      have := congrArg (fun (x : Array Value) => x[2]?) this.1
      simpa using this.symm
    rw [← e1] at e
    obtain ⟨_, cur, hc⟩ := g2.qu.blk e
    have := lt_of hc
    omega
  refine ⟨⟨F.rules, F.nums, (w.heap.size, p) :: F.prs⟩, ⟨h1, M, qv, vs, h2, h3.r, h3.n, fun x hx => ?_⟩, ?_, ?_⟩
  · simp only [List.mem_cons] at hx
    rcases hx with rfl | hx
    · exact ⟨heap_alloc_new w _, hqv⟩
    · exact h3.p x hx
  · rintro w' s' ⟨k1, M', qv', vs', k2, k3⟩
    exact ⟨k1, M', qv', vs', k2, k3.r, k3.n, fun x hx => k3.p x (by simp [hx])⟩
  · rintro w' s' ⟨k1, M', qv', vs', k2, k3⟩ o
    exact Lib.cell_of_heap (k3.p (w.heap.size, p) (by simp)).1 o
theorem with_rules {W w : World} {a : Ad} {s : Sm} {h : Nat} {F : Frm} (hq : Wq W w a s h F) (c : Nat) (hc : c < a.n) : ∃ (A : Option Addr) (ca : Nat) (F' : Frm), w.cell? ⟨a.Lb, c, none⟩ = some (.slice A (s.look.getD c []).length ca) ∧ Wq W w a s h F' ∧ (∀ w' s', Wq W w' a s' h F' → Wq W w' a s' h F) ∧ ∀ w' s', Wq W w' a s' h F' → UG w' A (s.look.getD c []) := by
  have hq0 := hq
  obtain ⟨h1, M, qv, vs, h2, h3⟩ := hq
  have hvl : c < vs.length := by rw [h2.lv]; exact hc
  have hv : vs[c]? = some vs[c] := List.getElem?_eq_getElem hvl
  have hr := h2.rows c _ hv
  have hcell : ∀ v, vs[c]? = some v → w.cell? ⟨a.Lb, c, none⟩ = some v := fun v hv => by
    rw [Lib.cell_of_heap h2.lb, ← hv]; simp
  generalize vs[c] = v at hv hr
  have hr0 := hr
  rcases hr.2 with ⟨rfl, h0⟩ | ⟨g, cap, cur, rfl, hB, hg, hcc, hm, hs, ht⟩
  · refine ⟨none, 0, F, ?_, hq0, fun _ _ h => h, fun _ _ _ hp => by omega⟩
    rw [hcell _ hv, h0]
  · have hsn : Snap w vs s.look g (s.look.getD c []) := ⟨⟨cur, hg⟩, fun j hj k hk => by
      have hx := cellsR_at (s.look.getD c []) j k hj hk
      have hs6 : k < (s.look.getD c [])[j].cells.size := by show k < 6; exact hk
      rw [Array.getElem?_eq_getElem hs6] at hx ⊢
      have := hr0.cells (g := g) rfl _ _ hx
      rw [add_off, Nat.zero_add] at this
      exact this, fun i x hx hb => by
      by_cases e : i = c
      · subst e; exact List.prefix_refl _
      · exact absurd rfl (h2.apart i c x _ hx hv e g hb)⟩
    refine ⟨some ⟨g, 0, none⟩, cap, ⟨(g, s.look.getD c []) :: F.rules, F.nums, F.prs⟩, hcell _ hv, ⟨h1, M, qv, vs, h2, fun p hp => ?_, h3.n, h3.p⟩, ?_, ?_⟩
    · simp only [List.mem_cons] at hp
      rcases hp with rfl | hp
      · exact hsn
      · exact h3.r p hp
    · rintro w' s' ⟨k1, M', qv', vs', k2, k3⟩
      exact ⟨k1, M', qv', vs', k2, fun p hp => k3.r p (by simp [hp]), k3.n, k3.p⟩
    · rintro w' s' ⟨k1, M', qv', vs', k2, k3⟩ hp
      have hS := k3.r (g, s.look.getD c []) (by simp)
      obtain ⟨cur', hg'⟩ := hS.ty
      refine ⟨g, 0, rfl, lt_of hg', fun j hj k hk => ?_⟩
      rw [Nat.zero_add]
      exact hS.at_ j hj k hk
def Bd (s : Sm) : Prop := s.steps ≤ 100000000000000 ∧ ∀ i : Nat, (s.look.getD i []).length ≤ 100000000
set_option maxHeartbeats 4000000 in
set_option maxRecDepth 100000 in
theorem follow (W w : World) (a : Ad) (s : Sm) (h : Nat) (c y : Nat) (F : Frm) (hT : Tab W) (hw : Wq W w a s h F) (hc : c < a.n) (hy : y < a.c) (hc1 : a.c ≤ 1000) (hK : a.K ≤ 1000) (hn : a.n = a.c * a.K) (T : List Ru) (hTe : s.look.getD c [] = T)
    (hok : ∀ u ∈ T, Ok a.n a.c a.K u ∧ u.kind ≠ 1) (hlT : T.length ≤ 100000000) (hbd : ∀ j, j ≤ T.length → Bd (followM a.n a.c a.K s y (T.take j))) :
    Calls Tryz.prog 137 #[.pointer (some ⟨a.wk, 0, none⟩), .agg #[.int .i64 c, .int .i64 y]] w (WPost W a (followM a.n a.c a.K s y T) h F) := by
  have HT := Lib.hid hT
  have HOK := Lib.hid hok
  have HBD := Lib.hid hbd
  obtain ⟨F1, hq1, hb1, hp1⟩ := with_box hw ((c : Int), (y : Int))
  obtain ⟨A, ca, F2, hlc, hq2, hb2, hu2⟩ := with_rules hq1 c hc
  rw [hTe] at hlc hu2
  have HBK := Lib.hid (fun w' s' (hh : Wq W w' a s' h F2) => hb1 _ _ (hb2 _ _ hh))
  have HPB := Lib.hid (fun w' s' (hh : Wq W w' a s' h F2) => hp1 _ _ (hb2 _ _ hh))
  have HUG := Lib.hid hu2
  have HQ2 := Lib.hid hq2
  have hcp := HPB.out _ _ HQ2.out
  simp only at hcp
  obtain ⟨⟨qv, cw⟩, cm, _, _⟩ := Wq.cells hq2
  have p0 : (0 : Int) ≤ c := by omega
  have p1 : (c : Int) < a.n := by omega
  have HN := Lib.hid hn
  have HCY := Lib.hid (And.intro hc hy)
  clear hT hok hbd hw hq1 hb1 hp1 hq2 hb2 hu2 hTe hn hc hy
  go_enter Tryz.func137, Tryz.ntmps137
  go_upto_region 1 with fail
  obtain ⟨blk, hblk⟩ : ∃ blk, w.heap.size = blk := ⟨_, rfl⟩
  simp only [hblk] at hcp HPB ⊢
  simp only at HQ2 HPB
  generalize w.alloc (.cells #[.int .i64 c, .int .i64 y] 153) = w0 at *
  go_quiet (fail)
  have HQ3 := Lib.hid (Wq.below HQ2.out (below_drewN (Below.refl _ w0) nq))
  clear hcp cw cm hlc HQ2
  generalize w0.drewN nq = w1 at *
  go_wp2_with fail
  go_loopw [15] (fun i wr => ∃ j : Nat, j ≤ T.length ∧ i = .int .i64 j ∧ Hid (Wq W wr a (followM a.n a.c a.K s y (T.take j)) h F2)) (fun i _ => T.length - (intOf i).toNat)
  case atStart => exact ⟨0, by omega, rfl, HQ3⟩
  case round =>
    obtain ⟨j, hj, rfl, hq⟩ := hrel
    clear HQ3
    by_cases hlt : j < T.length
    · have e1 : decide ((j : Int) < T.length) = true := by simp; omega
      have q0 : (0 : Int) ≤ j := by omega
      have q1 : (j : Int) < T.length := by omega
      obtain ⟨g, o, rfl, hg, hcell⟩ := HUG.out _ _ hq.out (by omega)
      have b0 := hcell j hlt 0 (by omega)
      have b1 := hcell j hlt 1 (by omega)
      have b2 := hcell j hlt 2 (by omega)
      have b3 := hcell j hlt 3 (by omega)
      have b4 := hcell j hlt 4 (by omega)
      have b5 := hcell j hlt 5 (by omega)
      have hstep : followM a.n a.c a.K s y (T.take (j + 1)) = stepM a.n a.c a.K (followM a.n a.c a.K s y (T.take j)) y T[j] := by
        unfold followM
        rw [List.take_succ_eq_append_getElem hlt, List.foldl_append]
        rfl
      have hu := HOK.out T[j] (List.getElem_mem hlt)
      have hbdj := HBD.out j hj
      have HS := Lib.hid hstep
      clear hcell hstep
      generalize followM a.n a.c a.K s y (T.take j) = S at *
      generalize T[j] = u at *
      obtain ⟨uk, uh, uw, ua, ub, uv⟩ := u
      obtain ⟨⟨k1, k2, k3, k4, k5, k6⟩, k7⟩ := hu
      simp only at k1 k2 k3 k4 k5 k6 k7
      have z0 : wr.cell? ⟨g, o + j * 6, none⟩ = some (.int .i64 uk) := b0
      have z1 : wr.cell? ⟨g, o + j * 6 + 1, none⟩ = some (.int .i64 uh) := b1
      have z2 : wr.cell? ⟨g, o + j * 6 + 2, none⟩ = some (.int .i64 uw) := b2
      have z3 : wr.cell? ⟨g, o + j * 6 + 3, none⟩ = some (.int .i64 ua) := b3
      have z4 : wr.cell? ⟨g, o + j * 6 + 4, none⟩ = some (.int .i64 ub) := b4
      have z5 : wr.cell? ⟨g, o + j * 6 + 5, none⟩ = some (.int .i64 uv) := b5
      clear b0 b1 b2 b3 b4 b5
      have HQB := Lib.hid (Wq.below hq.out ((Below.refl wr.heap.size wr).alloc (Nat.le_refl _) (.cells #[.int .i64 uk, .int .i64 uh, .int .i64 uw, .int .i64 ua, .int .i64 ub, .int .i64 uv] 150)))
      have HBX := Lib.hid (heap_alloc_new wr (.cells #[.int .i64 uk, .int .i64 uh, .int .i64 uw, .int .i64 ua, .int .i64 ub, .int .i64 uv] 150))
      have hmo : a.mo < wr.heap.size := by
        obtain ⟨h1, M, qv, vs, h2, h3⟩ := hq.out
        exact lt_of h2.mb
      clear hq
      go_upto_region 4 with fail
      obtain ⟨bx, hbx⟩ : ∃ bx, wr.heap.size = bx := ⟨_, rfl⟩
      simp only [hbx] at HBX hmo ⊢
      generalize wr.alloc (.cells #[.int .i64 uk, .int .i64 uh, .int .i64 uw, .int .i64 ua, .int .i64 ub, .int .i64 uv] 150) = wb at *
      obtain ⟨⟨qv2, cw⟩, cm, fm, _⟩ := Wq.cells HQB.out
      have HTk := Lib.hid (Wq.tick HQB.out)
      have HBX2 := Lib.hid ((set_other wb a.mo 2 (.int .i64 ((S.steps : Int) + 1)) (show bx ≠ a.mo by omega)).trans HBX.out)
      have hsb := hbdj.1
      have HL := Lib.hid hbdj.2
      clear hbdj z0 z1 z2 z3 z4 z5 hmo HBX HQB
      go_upto_region 5 with fail
      have hS1 : (SemA.tick S).steps = S.steps + 1 := rfl
      have hL1 : (SemA.tick S).look = S.look := rfl
      have hA1 : (SemA.tick S).all = S.all := rfl
      generalize wb.setCell ⟨a.mo, 2, none⟩ (.int .i64 ((S.steps : Int) + 1)) = wt at *
      have cb := fun o => Lib.cell_of_heap HBX2.out o
      have cp := HPB.out _ _ HTk.out
      obtain ⟨⟨qv3, cw2⟩, cm2, _, _⟩ := Wq.cells HTk.out
      clear cw cm fm
      rcases k1 with rfl | rfl | rfl | rfl
      · exact absurd rfl k7
      · have HP := Lib.hid (SemC.put W wt a (SemA.tick S) h uh y F2 HTk.out (Wq.len HTk.out))
        have HST : Hid (stepM a.n a.c a.K S y ⟨2, uh, uw, ua, ub, uv⟩ = putM a.n a.c (SemA.tick S) uh y) := Lib.hid (by unfold stepM; rw [if_pos rfl])
        clear hS1 hL1 hA1
        go_wp2_with fail
        refine HP.out.mono ?_
        rintro e w3 ⟨rfl, hq3⟩
        have HQ3 : Hid (Wq W w3 a (putM a.n a.c (SemA.tick S) uh y) h F2) := Lib.hid hq3
        clear hq3 cb cp cw2 cm2 HP HTk HBX2
        go_wp2_with fail
        go_roundw
        case rel => exact ⟨j + 1, by omega, by go_num, by rw [HS.out, HST.out]; exact HQ3⟩
        case measure => simp [intOf]; omega
      · obtain ⟨v, rfl⟩ : ∃ v : Nat, uv = v := ⟨uv.toNat, by omega⟩
        have hvK : v < a.K := by omega
        have hzn : y * a.K + v < a.n := by
          rw [HN.out]
          have h1 : (y + 1) * a.K ≤ a.c * a.K := Nat.mul_le_mul_right _ (by have := HCY.out.2; omega)
          rw [Nat.add_mul, Nat.one_mul] at h1
          omega
        have HO := Lib.hid (fun w' (hm : ∀ o, w'.cell? ⟨a.mo, o, none⟩ = (#[.pointer (some ⟨a.B, 0, none⟩), .int .i64 a.K, .int .i64 ((SemA.tick S).steps : Int)] : Array Value)[o]?) => SemE.of (w := w') hm y v (by have := HCY.out.2; omega) (by omega) hK)
        have HI := Lib.hid (include_ W wt.drew a (SemA.tick S) h uh (y * a.K + v) F2 HT.out (Wq.below HTk.out ((Below.refl _ wt).drew)) hzn (by rw [hL1]; exact HL.out _) (by rw [hS1]; omega))
        have HST : Hid (stepM a.n a.c a.K S y ⟨3, uh, uw, ua, ub, v⟩ = includeM a.n a.c (SemA.tick S) uh ((y * a.K + v : Nat) : Int)) := Lib.hid (by
          unfold stepM
          rw [if_neg (by show ¬ (3 : Int) = 2; omega), if_pos rfl]
          congr 1)
        generalize y * a.K + v = z at *
        clear hS1 hL1 hA1
        go_upto_region 9 with fail
        refine still_tail 12 (by kernel_rfl) (by kernel_rfl) ?_
        simp only [List.take_succ_cons, List.take_zero, List.drop_succ_cons, List.drop_zero]
        repeat still_step
        still_call ((HO.out wt.drew cm2).mono fun e w' h => ⟨h.1, h.2.symm⟩)
        repeat still_step
        refine wpStill_nil ?_
        go_wp2_with fail
        refine HI.out.mono ?_
        rintro e w3 ⟨rfl, hq3⟩
        have HQ3 : Hid (Wq W w3 a (includeM a.n a.c (SemA.tick S) uh z) h F2) := Lib.hid hq3
        clear hq3 cb cp cw2 cm2 HI HO HTk HBX2
        go_wp2_with fail
        go_roundw
        case rel => exact ⟨j + 1, by omega, by go_num, by rw [HS.out, HST.out]; exact HQ3⟩
        case measure => simp [intOf]; omega
      · have HH1 : Hid (∀ n, Calls Tryz.prog 184 #[.pointer (some ⟨a.B, 0, none⟩), .int .i64 ua, .int .i64 y] (wt.drewN n) fun e w' => e = .returned (.bool (hasL S.all ua y)) ∧ ∃ m, w' = (wt.drewN n).drewN m) := Lib.hid (fun n => SemE.has (Wq.below HTk.out (below_drewN (Below.refl _ wt) n)) ua y)
        have HH2 : Hid (∀ n, Calls Tryz.prog 184 #[.pointer (some ⟨a.B, 0, none⟩), .int .i64 ub, .int .i64 y] (wt.drewN n) fun e w' => e = .returned (.bool (hasL S.all ub y)) ∧ ∃ m, w' = (wt.drewN n).drewN m) := Lib.hid (fun n => SemE.has (Wq.below HTk.out (below_drewN (Below.refl _ wt) n)) ub y)
        have HST : Hid (stepM a.n a.c a.K S y ⟨4, uh, uw, ua, ub, uv⟩ = if hasL S.all ua y && hasL S.all ub y then putM a.n a.c (SemA.tick S) uh y else SemA.tick S) := Lib.hid (by
          unfold stepM
          rw [if_neg (by show ¬ (4 : Int) = 2; omega), if_neg (by show ¬ (4 : Int) = 3; omega), if_pos rfl])
        have HPP := Lib.hid (fun n => SemC.put W (wt.drewN n) a (SemA.tick S) h uh y F2 (Wq.below HTk.out (below_drewN (Below.refl _ wt) n)) (Wq.len HTk.out))
        generalize hasL S.all ua y = c1 at *
        generalize hasL S.all ub y = c2 at *
        clear hS1 hL1 hA1
        go_upto_region 11 with fail
        cases c1
        · rw [Bool.false_and, if_neg (by decide)] at HST
          go_quiet ((go_at_call 184; with_reducible exact Calls.quiet_of (HH1.out _)))
          have HQ3 := Lib.hid (Wq.below HTk.out (below_drewN (Below.refl _ wt) nq))
          clear cb cp cw2 cm2 HH1 HH2 HPP HTk HBX2
          go_wp2_with fail
          go_roundw
          case rel => exact ⟨j + 1, by omega, by go_num, by rw [HS.out, HST.out]; exact HQ3⟩
          case measure => simp [intOf]; omega
        · cases c2
          · rw [Bool.and_false, if_neg (by decide)] at HST
            go_quiet ((go_at_call 184; first | with_reducible exact Calls.quiet_of (HH1.out _) | with_reducible exact Calls.quiet_of (HH2.out _)))
            have HQ3 := Lib.hid (Wq.below HTk.out (below_drewN (Below.refl _ wt) nq))
            clear cb cp cw2 cm2 HH1 HH2 HPP HTk HBX2
            go_wp2_with fail
            go_roundw
            case rel => exact ⟨j + 1, by omega, by go_num, by rw [HS.out, HST.out]; exact HQ3⟩
            case measure => simp [intOf]; omega
          · rw [Bool.and_true, if_pos rfl] at HST
            go_quiet ((go_at_call 184; first | with_reducible exact Calls.quiet_of (HH1.out _) | with_reducible exact Calls.quiet_of (HH2.out _)))
            have HP := Lib.hid (HPP.out nq)
            clear HH1 HH2 HPP
            go_wp2_with fail
            refine HP.out.mono ?_
            rintro e w3 ⟨rfl, hq3⟩
            have HQ3 : Hid (Wq W w3 a (putM a.n a.c (SemA.tick S) uh y) h F2) := Lib.hid hq3
            clear hq3 cb cp cw2 cm2 HP HTk HBX2
            go_wp2_with fail
            go_roundw
            case rel => exact ⟨j + 1, by omega, by go_num, by rw [HS.out, HST.out]; exact HQ3⟩
            case measure => simp [intOf]; omega
    · have e1 : decide ((j : Int) < T.length) = false := by simp; omega
      obtain rfl : j = T.length := by omega
      rw [List.take_length] at hq
      have HE := Lib.hid (HBK.out _ _ hq.out)
      clear hq
      go_wp2_with fail
      go_end0
      exact ⟨rfl, HE.out⟩
end Go.Proofs.YtblapgfilbmdhaaGreatDoor.SemF
namespace Go.Proofs.YtblapgfilbmdhaaGreatDoor.SemG
open Go.RowKit Go.Lib Go.Proofs SetA SetB SetC SetD SetJ SetN SetQ SetR TblC TblV SemA SemB SemC SemD SemE SemF
theorem with_rule {W w : World} {a : Ad} {s : Sm} {h : Nat} {F : Frm} (hq : Wq W w a s h F) (u : Ru) : ∃ F' : Frm, Wq W (w.alloc (.cells u.cells 150)) a s h F' ∧ (∀ w' s', Wq W w' a s' h F' → Wq W w' a s' h F) ∧ ∀ w' s', Wq W w' a s' h F' → ∀ o, o < 6 → w'.cell? ⟨w.heap.size, o, none⟩ = u.cells[o]? := by
  obtain ⟨h1, M, qv, vs, h2, h3⟩ := Wq.below hq ((Below.refl w.heap.size w).alloc (Nat.le_refl _) (.cells u.cells 150))
  obtain ⟨_, M0, qv0, vs0, g2, g3⟩ := hq
  have hvs : vs = vs0 := by
    have := (((Below.refl w.heap.size w).alloc (Nat.le_refl _) (.cells u.cells 150)).block _ (lt_of g2.lb)).trans g2.lb
    rw [h2.lb] at this
    simp only [Option.some.injEq, Obj.cells.injEq] at this
    simpa using congrArg Array.toList this.1
  have hno : ∀ (i : Nat) (v : Value), vs[i]? = some v → v.ownBlock ≠ some w.heap.size := fun i v hv e => by
    rw [hvs] at hv
    have := lt_of (own_blk (g2.rows i v hv) e).2.choose_spec
    omega
  have hb := heap_alloc_new w (.cells u.cells 150)
  refine ⟨⟨(w.heap.size, [u]) :: F.rules, F.nums, F.prs⟩, ⟨h1, M, qv, vs, h2, fun p hp => ?_, h3.n, h3.p⟩, ?_, ?_⟩
  · simp only [List.mem_cons] at hp
    rcases hp with rfl | hp
    · refine ⟨⟨_, hb⟩, fun j hj k hk => ?_, fun i v hv e => absurd e (hno i v hv)⟩
      have : j = 0 := by simp at hj; omega
      subst this
      rw [Lib.cell_of_heap hb, Nat.zero_mul, Nat.zero_add]
      rfl
    · exact h3.r p hp
  · rintro w' s' ⟨k1, M', qv', vs', k2, k3⟩
    exact ⟨k1, M', qv', vs', k2, fun p hp => k3.r p (by simp [hp]), k3.n, k3.p⟩
  · rintro w' s' ⟨k1, M', qv', vs', k2, k3⟩ o ho
    have := (k3.r (w.heap.size, [u]) (by simp)).at_ 0 (by simp) o ho
    rw [Nat.zero_mul, Nat.zero_add] at this
    exact this
set_option maxHeartbeats 600000 in
set_option maxRecDepth 100000 in
theorem take (W w : World) (a : Ad) (s : Sm) (h : Nat) (u : Ru) (F : Frm) (hw : Wq W w a s h F) (ok : Ok a.n a.c a.K u) (hl : ∀ i : Nat, (s.look.getD i []).length ≤ 10000000) :
    Calls Tryz.prog 136 #[.pointer (some ⟨a.wk, 0, none⟩), u.val] w (WPost W a (takeM a.n a.c s u) h F) := by
  obtain ⟨F', hq, hb, hc⟩ := with_rule hw u
  have HQ := Lib.hid hq
  have HBK := Lib.hid hb
  have HC := Lib.hid hc
  have HLL := Lib.hid hl
  clear hw hq hb hc hl
  obtain ⟨uk, uh, uw, ua, ub, uv⟩ := u
  obtain ⟨k1, k2, k3, k4, k5, k6⟩ := ok
  simp only at k1 k2 k3 k4 k5 k6
  obtain ⟨na, rfl⟩ : ∃ v : Nat, ua = v := ⟨ua.toNat, by omega⟩
  obtain ⟨nb, rfl⟩ : ∃ v : Nat, ub = v := ⟨ub.toNat, by omega⟩
  have c0 := HC.out _ _ HQ.out
  have z0 := c0 0 (by omega)
  have z1 := c0 1 (by omega)
  have z2 := c0 2 (by omega)
  have z3 := c0 3 (by omega)
  have z4 := c0 4 (by omega)
  have z5 := c0 5 (by omega)
  simp only [Ru.cells] at z0 z1 z2 z3 z4 z5
  have HLK := Lib.hid (fun w' s' (hq : Wq W w' a s' h F') (k : Nat) (hk : k < a.n) (hx : (s'.look.getD k []).length ≤ 100000000) => SemD.look W w' a s' h k ⟨uk, uh, uw, na, nb, uv⟩ F' hq hk hx)
  have HP := Lib.hid (SemC.put W _ a s h uh uw F' HQ.out (Wq.len HQ.out))
  have HL1 : Hid (∀ i : Nat, ((lookM s na ⟨uk, uh, uw, na, nb, uv⟩).look.getD i []).length ≤ 100000000) := Lib.hid (fun i => by
    unfold lookM
    simp only [getD_modify]
    have := HLL.out i
    split
    · simp only [List.length_append, List.length_cons, List.length_nil]; omega
    · omega)
  obtain ⟨sT, hsT⟩ : ∃ sT, takeM a.n a.c s ⟨uk, uh, uw, na, nb, uv⟩ = sT := ⟨_, rfl⟩
  rw [hsT]
  have HST := Lib.hid hsT
  clear hsT
  unfold Ru.val at *
  unfold Ru.cells at *
  simp only at HLK HP HL1 HQ ⊢
  clear c0
  go_enter Tryz.func136, Tryz.ntmps136
  go_upto_region 1 with fail
  obtain ⟨bx, hbx⟩ : ∃ bx, w.heap.size = bx := ⟨_, rfl⟩
  simp only [hbx] at z0 z1 z2 z3 z4 z5 HC ⊢
  generalize w.alloc (.cells #[.int .i64 uk, .int .i64 uh, .int .i64 uw, .int .i64 na, .int .i64 nb, .int .i64 uv] 150) = w0 at *
  by_cases e1 : uk = 1
  · subst e1
    have hT : sT = putM a.n a.c s uh uw := by rw [← HST.out]; unfold takeM; rw [if_pos rfl]
    subst hT
    clear HLK HL1 HLL HST
    go_wp2_with fail
    refine HP.out.mono ?_
    rintro e w1 ⟨rfl, hq1⟩
    have HE := Lib.hid (HBK.out w1 (putM a.n a.c s uh uw) hq1)
    clear hq1 HP z0 z1 z2 z3 z4 z5
    go_wp2_with fail
    go_end0
    exact ⟨rfl, HE.out⟩
  · have d1 : (uk == 1) = false := by simp [e1]
    by_cases e4 : uk = 4
    · subst e4
      by_cases e5 : (nb : Int) = na
      · have hT : sT = lookM s na ⟨4, uh, uw, na, nb, uv⟩ := by rw [← HST.out]; unfold takeM; rw [if_neg e1, if_neg (fun hh => hh.2 e5)]
        subst hT
        obtain rfl : na = nb := by omega
        clear e5 HST
        have HA := Lib.hid (HLK.out w0 s HQ.out na (by omega) (by have := HLL.out na; omega))
        clear HP HLL
        go_wp2_with fail
        refine HA.out.mono ?_
        rintro e w1 ⟨rfl, hq1⟩
        have HQ1 : Hid (Wq W w1 a (lookM s na ⟨4, uh, uw, na, na, uv⟩) h F') := Lib.hid hq1
        have y0 := HC.out _ _ HQ1.out 0 (by omega)
        have y1 := HC.out _ _ HQ1.out 1 (by omega)
        have y2 := HC.out _ _ HQ1.out 2 (by omega)
        have y3 := HC.out _ _ HQ1.out 3 (by omega)
        have y4 := HC.out _ _ HQ1.out 4 (by omega)
        have y5 := HC.out _ _ HQ1.out 5 (by omega)
        clear hq1
        try simp only [Ru.cells] at y0 y1 y2 y3 y4 y5
        clear HA z0 z1 z2 z3 z4 z5 HQ
        have HE := Lib.hid (HBK.out _ _ HQ1.out)
        clear HLK HL1
        go_wp2_with fail
        go_end0
        exact ⟨rfl, HE.out⟩
      · have d5 : ((nb : Int) != (na : Int)) = true := by simp [e5]
        have hT : sT = lookM (lookM s na ⟨4, uh, uw, na, nb, uv⟩) nb ⟨4, uh, uw, na, nb, uv⟩ := by rw [← HST.out]; unfold takeM; rw [if_neg e1, if_pos ⟨rfl, e5⟩]
        subst hT
        clear HST
        have HA := Lib.hid (HLK.out w0 s HQ.out na (by omega) (by have := HLL.out na; omega))
        clear HP HLL
        go_wp2_with fail
        refine HA.out.mono ?_
        rintro e w1 ⟨rfl, hq1⟩
        have HQ1 : Hid (Wq W w1 a (lookM s na ⟨4, uh, uw, na, nb, uv⟩) h F') := Lib.hid hq1
        have y0 := HC.out _ _ HQ1.out 0 (by omega)
        have y1 := HC.out _ _ HQ1.out 1 (by omega)
        have y2 := HC.out _ _ HQ1.out 2 (by omega)
        have y3 := HC.out _ _ HQ1.out 3 (by omega)
        have y4 := HC.out _ _ HQ1.out 4 (by omega)
        have y5 := HC.out _ _ HQ1.out 5 (by omega)
        clear hq1
        try simp only [Ru.cells] at y0 y1 y2 y3 y4 y5
        clear HA z0 z1 z2 z3 z4 z5 HQ
        have HB := Lib.hid (HLK.out w1 _ HQ1.out nb (by omega) (HL1.out nb))
        clear HLK HL1
        go_wp2_with fail
        refine HB.out.mono ?_
        rintro e w2 ⟨rfl, hq2⟩
        have HE := Lib.hid (HBK.out w2 (lookM (lookM s na ⟨4, uh, uw, na, nb, uv⟩) nb ⟨4, uh, uw, na, nb, uv⟩) hq2)
        clear hq2 HB y0 y1 y2 y3 y4 y5
        go_wp2_with fail
        go_end0
        exact ⟨rfl, HE.out⟩
    · have d4 : (uk == 4) = false := by simp [e4]
      have hT : sT = lookM s na ⟨uk, uh, uw, na, nb, uv⟩ := by rw [← HST.out]; unfold takeM; rw [if_neg e1, if_neg (fun hh => e4 hh.1)]
      subst hT
      clear HST
      have HA := Lib.hid (HLK.out w0 s HQ.out na (by omega) (by have := HLL.out na; omega))
      clear HP HLL
      go_wp2_with fail
      refine HA.out.mono ?_
      rintro e w1 ⟨rfl, hq1⟩
      have HQ1 : Hid (Wq W w1 a (lookM s na ⟨uk, uh, uw, na, nb, uv⟩) h F') := Lib.hid hq1
      have y0 := HC.out _ _ HQ1.out 0 (by omega)
      have y1 := HC.out _ _ HQ1.out 1 (by omega)
      have y2 := HC.out _ _ HQ1.out 2 (by omega)
      have y3 := HC.out _ _ HQ1.out 3 (by omega)
      have y4 := HC.out _ _ HQ1.out 4 (by omega)
      have y5 := HC.out _ _ HQ1.out 5 (by omega)
      clear hq1
      try simp only [Ru.cells] at y0 y1 y2 y3 y4 y5
      clear HA z0 z1 z2 z3 z4 z5 HQ
      have HE := Lib.hid (HBK.out _ _ HQ1.out)
      clear HLK HL1
      go_wp2_with fail
      go_end0
      exact ⟨rfl, HE.out⟩
end Go.Proofs.YtblapgfilbmdhaaGreatDoor.SemG
