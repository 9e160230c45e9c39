/- The search: knows, by contract. -/
import Derived.Test.YtddjbchlpfaggaaPfB
import Derived.BigQuiet
import Derived.BigRegion
import Derived.RegionTactic
import Derived.StillTailTactics
import Derived.Deep.CutBlock
namespace Go.Proofs.Ytddjbchlpfaggaa.PfC
open Go.RowKit Go.Lib Go.Proofs Go.Maps Go.Proofs.Ytddjbchlpfaggaa.SetQ Go.Proofs.Ytddjbchlpfaggaa.SetR Go.Proofs.Ytddjbchlpfaggaa.TblC Go.Proofs.Ytddjbchlpfaggaa.TblV Go.Proofs.Ytddjbchlpfaggaa.SemB Go.Proofs.Ytddjbchlpfaggaa.SemC Go.Proofs.Ytddjbchlpfaggaa.SemD Go.Proofs.Ytddjbchlpfaggaa.PfM Go.Proofs.Ytddjbchlpfaggaa.PfA Go.Proofs.Ytddjbchlpfaggaa.PfB
set_option linter.unusedVariables false
set_option linter.unusedSimpArgs false
theorem zeroS (w : World) : (zeroValue 30).run Try.prog w = .ok (.agg #[.int .i64 0, .int .i64 0, .int .i64 0, .int .i64 0]) w := by kernel_rfl
theorem zeroR (w : World) : (zeroValue 101).run Try.prog w = .ok (.slice none 0 0) w := by kernel_rfl
theorem kmap_val (kn : List Sp) (f : Fa) : ∃ s : Sp, (kmap kn f).getD (.agg #[.int .i64 0, .int .i64 0, .int .i64 0, .int .i64 0]) = .agg #[.int .i64 s.rule, .int .i64 s.role, .int .i64 s.who, .int .i64 s.mid] := by
  unfold kmap
  cases kn.find? (fun s => decide (s.fa = f)) with
  | none => exact ⟨⟨0, 0, 0, 0⟩, rfl⟩
  | some s => exact ⟨s, rfl⟩
/-- A fact of numbers that there are. -/
def InR (f : Fa) : Prop := (-9223372036854775808 ≤ f.1 ∧ f.1 ≤ 9223372036854775807) ∧ (-9223372036854775808 ≤ f.2 ∧ f.2 ≤ 9223372036854775807)
theorem Wk.cells {W w : World} {a : Ad} {kn : List Sp} {q : List Fa} {wt : Int → List (Int × Int)} {nw : Nat} {qv : Value} {M : Int → Option Value} (h : Wk W w a kn q wt nw qv M) : ∀ o, w.cell? ⟨a.ws, o, none⟩ = (#[.int .i64 a.d0, .int .i64 a.d1, .slice a.A a.L.length a.ca, .map (some a.bk), qv, .map (some a.bw)] : Array Value)[o]? := fun o => Lib.cell_of_heap h.wb o
set_option maxHeartbeats 1000000 in
set_option maxRecDepth 100000 in
theorem knows (W w : World) (a : Ad) (t : Ss) (h : Nat) (F : Frm) (f : Fa) (hw : Wq W w a t h F) (hf : InR f) :
    Calls Try.prog 53 #[.pointer (some ⟨a.ws, 0, none⟩), .agg #[.int .i64 f.1, .int .i64 f.2]] w fun e w' => e = .returned (.bool (hasS t.known f)) ∧ Below w.heap.size w w' := by
  obtain ⟨_, qv, M, hk, _⟩ := hw
  obtain ⟨kl, hkl⟩ := keyF hf.1 hf.2
  obtain ⟨s, hs⟩ := kmap_val t.known f
  have hkA := hk.below ((Below.refl w.heap.size w).alloc (Nat.le_refl _) (.cells #[.int .i64 f.1, .int .i64 f.2] 53))
  have LK : ∀ X : World, MapV X 53 fv a.bk t.known.length (kmap t.known) → (Instr.lookup 51 (.map (some a.bk)) (.agg #[.int .i64 f.1, .int .i64 f.2]) true).run Try.prog X = .ok (.tuple #[.agg #[.int .i64 s.rule, .int .i64 s.role, .int .i64 s.who, .int .i64 s.mid], .bool (hasS t.known f)]) X := fun X hX => by
    have := hX.look_ok lawF Try.underlying51 (zeroS X) hkl
    rw [hs, kmap_some] at this
    exact this
  have l1 := LK _ (hkA.below ((Below.refl _ _).drew)).km
  have c1 := Wk.cells hkA
  have hkB := hkA.below ((Below.refl (w.alloc (.cells #[.int .i64 f.1, .int .i64 f.2] 53)).heap.size _).alloc (Nat.le_refl _) (.cells #[.int .i64 0, .int .i64 0, .int .i64 0, .int .i64 0] 30))
  have l2 := LK _ (hkB.below ((Below.refl _ _).drew)).km
  have c2 := Wk.cells hkB
  have HB := Lib.hid ((Below.refl w.heap.size w).alloc (Nat.le_refl _) (.cells #[.int .i64 f.1, .int .i64 f.2] 53))
  generalize hasS t.known f = ans at *
  obtain ⟨f1, f2⟩ := f
  simp only at *
  clear hs hkl hf hk hkA hkB LK
  go_enter Try.func53, Try.ntmps53
  go_upto_region 1 with fail
  go_region
  all_goals go_wp2_with fail
  all_goals go_ret
  all_goals exact ⟨rfl, (HB.out.alloc (by simp) _).drew⟩
section
variable {P : Program} (w : World)
/-- append behind the queue, in a region that draws its order. -/
theorem step_append_qu {ops : Array Oper} {o : Oper} {a : Act} {K : Act → World → Prop} {Q : Exit → Act → World → Prop} {E : Prop} (hgd : o.guard = none) (s x : Operand)
    (ho : o.op = .call { callee := .builtin .append, args := #[s, x], argTypes := #[60, 60] })
    (base : Nat) (qv : Value) (q : List Fa) (hs : a.eval s = qv) (hq : Qu w base qv q) (hb : base ≤ w.heap.size) (hl : q.length ≤ 100000000) (r y : Int)
    (ad : Addr) (c : Nat) (hx : a.eval x = .slice (some ad) 1 c) (hA : ∀ j u, ([.int .i64 r, .int .i64 y] : List Value)[j]? = some u → w.cell? (ad.add j) = some u)
    (h : ∀ v' w', Qu w' base v' (q ++ [(r, y)]) → w.grownBy w' qv.ownBlock → Moves w qv.ownBlock v'.ownBlock → K (a.put o.dst v') w') :
    if Region.wanted o (yielded ops a.tmps) = true then Oper.wp Try.prog o a w K Q else E := by
  have hw : Region.wanted o (yielded ops a.tmps) = true := by simp [Region.wanted, hgd]
  rw [if_pos hw]
  obtain ⟨v', w', hr, h2, h3, h4⟩ := run_append_qu o.type hq hb hl r y ad c hA
  unfold Oper.wp execOp
  simp only [ho, resolve, invoke, builtin, Sem.run_bind, Sem.run_pure, Result.andThen_ok, List.map_toArray, List.map_cons, List.map_nil, hs, hx, hr]
  exact h v' w' h2 h3 h4
end
theorem Qu.slice {w : World} {base : Nat} {v : Value} {L : List Fa} (h : Qu w base v L) : ∃ A n c, v = .slice A n c := by
  rcases h with ⟨rfl, _⟩ | ⟨g, o, cap, cur, rfl, _⟩ <;> exact ⟨_, _, _, rfl⟩
set_option maxHeartbeats 2000000 in
set_option maxRecDepth 100000 in
theorem put (W w : World) (a : Ad) (t : Ss) (h : Nat) (F : Frm) (s : Sp) (hw : Wq W w a t h F) (hf : InR s.fa) (hl : t.known.length ≤ 1000000) :
    Calls Try.prog 50 #[.pointer (some ⟨a.ws, 0, none⟩), .agg #[.int .i64 s.rule, .int .i64 s.role, .int .i64 s.who, .int .i64 s.mid]] w (WPost W a (putM t s) h F) := by
  obtain ⟨F1, hq1, hb1, hc1⟩ := with_box hw #[.int .i64 s.rule, .int .i64 s.role, .int .i64 s.who, .int .i64 s.mid] 30
  obtain ⟨F2, hq2, hb2, hc2⟩ := with_box hq1 #[.int .i64 s.role, .int .i64 s.who] 53
  have hz : (w.alloc (.cells #[.int .i64 s.rule, .int .i64 s.role, .int .i64 s.who, .int .i64 s.mid] 30)).heap.size = w.heap.size + 1 := by simp
  rw [hz] at hc2
  have HK := Lib.hid (knows W _ a t h F2 s.fa hq2 hf)
  have HQ2 := Lib.hid hq2
  have HC1 : Hid (∀ w', Wq W w' a t h F2 → w'.heap[w.heap.size]? = some (.cells #[.int .i64 s.rule, .int .i64 s.role, .int .i64 s.who, .int .i64 s.mid] 30 (0, 0)) ∧ w'.heap[w.heap.size + 1]? = some (.cells #[.int .i64 s.role, .int .i64 s.who] 53 (0, 0))) := Lib.hid (fun w' hx => ⟨hc1 w' t h (hb2 _ _ _ hx), hc2 w' t h hx⟩)
  have HBK : Hid (∀ w' t', Wq W w' a t' h F2 → Wq W w' a t' h F) := Lib.hid (fun w' t' hx => hb1 _ _ _ (hb2 _ _ _ hx))
  have HF := Lib.hid hf
  clear hq1 hq2 hb1 hb2 hc1 hc2 hz hw hf
  obtain ⟨s0, s1, s2, s3⟩ := s
  unfold Sp.fa at HK HF
  simp only at HK HQ2 HC1 HF ⊢
  unfold WPost putM
  cases hh : hasS t.known (Sp.fa ⟨s0, s1, s2, s3⟩) with
  | true =>
    unfold Sp.fa at hh
    simp only at hh
    rw [hh] at HK
    rw [if_pos rfl]
    clear hh HC1
    go_enter Try.func50, Try.ntmps50
    go_wp2_with fail
    refine HK.out.mono ?_
    rintro e w1 ⟨rfl, hb1⟩
    have HE := Lib.hid (HBK.out _ _ (Wq.below HQ2.out hb1))
    clear hb1 HK
    go_wp2_with fail
    go_end0
    exact ⟨rfl, HE.out⟩
  | false =>
    have HH := Lib.hid hh
    unfold Sp.fa at hh
    simp only at hh
    rw [hh] at HK
    rw [if_neg (by simp)]
    clear hh
    go_enter Try.func50, Try.ntmps50
    go_wp2_with fail
    refine HK.out.mono ?_
    rintro e w1 ⟨rfl, hb1⟩
    obtain ⟨hle, qv, M, hk, hfr⟩ := Wq.below HQ2.out hb1
    obtain ⟨x1, x2⟩ := HC1.out w1 ⟨hle, qv, M, hk, hfr⟩
    obtain ⟨kl, hkl⟩ := keyF (f := (s1, s2)) HF.out.1 HF.out.2
    obtain ⟨w2, hr2, hm2, ht2⟩ := (hk.below ((Below.refl _ _).drew)).km.store lawF Try.underlying51 (by unfold maxLen; omega) fv_inj hkl (Sp.val ⟨s0, s1, s2, s3⟩)
    have hkn := kmap_put (s := ⟨s0, s1, s2, s3⟩) HH.out
    unfold Sp.fa at hkn
    simp only at hkn
    rw [hkn] at hm2
    have hk2 := Wk.know (hk.below ((Below.refl _ _).drew)) hm2 ht2
    have hf2 := Frm.ok.map (hfr.below ((Below.refl _ _).drew)) ht2
    have cw1 := Wk.cells hk
    have cx1 := fun o => Lib.cell_of_heap x1 o
    have cx2 := fun o => Lib.cell_of_heap x2 o
    unfold fv Sp.val at hr2
    simp only at hr2
    have hbk1 : ∃ es c, w1.heap[a.bk]? = some (.map es c) := hk.km.blk
    have hx2 : w2.heap[w.heap.size + 1]? = some (.cells #[.int .i64 s1, .int .i64 s2] 53 (0, 0)) := (ht2.grown.block _ (lt_of x2) (fun e => by
      obtain ⟨es, c, e2⟩ := hbk1
      exact map_ne e2 x2 (by simpa using e.symm))).trans x2
    have hkB := hk2.below ((Below.refl w2.heap.size w2).alloc (Nat.le_refl _) (.cells #[.int .i64 s1, .int .i64 s2] 53)).drew
    have hfB := hf2.below ((Below.refl w2.heap.size w2).alloc (Nat.le_refl _) (.cells #[.int .i64 s1, .int .i64 s2] 53)).drew
    have hxB : (w2.alloc (.cells #[.int .i64 s1, .int .i64 s2] 53)).heap[w.heap.size + 1]? = some (.cells #[.int .i64 s1, .int .i64 s2] 53 (0, 0)) := (heap_alloc_old w2 _ (lt_of hx2)).trans hx2
    have ca0 := Wk.cells hk2
    have ca1 : ∀ o, (w2.alloc (.cells #[.int .i64 s1, .int .i64 s2] 53)).cell? ⟨a.ws, o, none⟩ = (#[.int .i64 a.d0, .int .i64 a.d1, .slice a.A a.L.length a.ca, .map (some a.bk), qv, .map (some a.bw)] : Array Value)[o]? := fun o => Wk.cells hkB o
    have cb0 := fun o => Lib.cell_of_heap hx2 o
    have cb1 := fun o => Lib.cell_of_heap hxB o
    have hnews : ∀ j u, ([.int .i64 s1, .int .i64 s2] : List Value)[j]? = some u → ((w2.alloc (.cells #[.int .i64 s1, .int .i64 s2] 53)).drew).cell? ((⟨w2.heap.size, 0, none⟩ : Addr).add j) = some u := fun j u hu => by
      have hq : ((w2.alloc (.cells #[.int .i64 s1, .int .i64 s2] 53)).drew).heap[w2.heap.size]? = some (.cells #[.int .i64 s1, .int .i64 s2] 53 (0, 0)) := heap_alloc_new _ _
      rw [add_off, Lib.cell_of_heap hq, ← hu]
      simp
    have HN := Lib.hid hnews
    have HQU := Lib.hid hkB.qu
    have HSZ := Lib.hid hkB.bel.size
    have HFin : Hid (∀ w3 A2 n2 c2, Qu w3 W.heap.size (.slice A2 n2 c2) ((t.known.drop h).map Sp.fa ++ [(s1, s2)]) → ((w2.alloc (.cells #[.int .i64 s1, .int .i64 s2] 53)).drew).grownBy w3 qv.ownBlock → Moves ((w2.alloc (.cells #[.int .i64 s1, .int .i64 s2] 53)).drew) qv.ownBlock (Value.slice A2 n2 c2).ownBlock →
        Wq W (w3.setCell ⟨a.ws, 4, none⟩ (.slice A2 n2 c2)) a { t with known := t.known ++ [⟨s0, s1, s2, s3⟩] } h F ∧ (∀ o, w3.cell? ⟨a.ws, o, none⟩ = (#[.int .i64 a.d0, .int .i64 a.d1, .slice a.A a.L.length a.ca, .map (some a.bk), qv, .map (some a.bw)] : Array Value)[o]?) ∧ ∀ o, w3.frozen? ⟨a.ws, o, none⟩ = false) := Lib.hid (fun w3 A2 n2 c2 hq3 hg3 hm3 => by
      have hw3 : w3.heap[a.ws]? = _ := (hg3.block _ (lt_of hkB.wb) (fun e => by
        obtain ⟨_, cur, hc⟩ := hkB.qu.blk e.symm
        exact ne_of_type hc hkB.wb (by show (_ : Nat) ≠ _; decide) rfl)).trans hkB.wb
      have hth := Wk.queue hkB hg3 hq3
      have e : (t.known.drop h).map Sp.fa ++ [(s1, s2)] = ((t.known ++ [(⟨s0, s1, s2, s3⟩ : Sp)]).drop h).map Sp.fa := by
        rw [List.drop_append_of_le_length hle, List.map_append]; rfl
      rw [e] at hth
      have hwq : Wq W (w3.setCell ⟨a.ws, 4, none⟩ (.slice A2 n2 c2)) a { t with known := t.known ++ [⟨s0, s1, s2, s3⟩] } h F2 := ⟨by simp; omega, _, M, hth, Frm.ok.queue hkB hfB hg3 hm3⟩
      exact ⟨HBK.out _ _ hwq, fun o => Lib.cell_of_heap hw3 o, fun o => frozen_of_row _ _ _ _ _ hw3⟩)
    have hql : ((t.known.drop h).map Sp.fa).length ≤ 100000000 := by simp; omega
    have HQL := Lib.hid hql
    clear hb1 HK hk hfr hm2 ht2 hkn x1 x2 hkl hk2 hf2 hkB hfB hx2 hxB hnews hbk1 hql HQ2 HC1 HBK HH HF
    generalize (t.known.drop h).map Sp.fa = q at *
    go_wp2_with fail
    go_region
    go_wp2_with fail
    go_region_law ((refine step_append_qu _ rfl (.tmp 24) (.tmp 26) rfl W.heap.size qv q (by simp [Act.eval]) HQU.out HSZ.out HQL.out s1 s2 ⟨w2.heap.size, 0, none⟩ 1 (by simp [Act.eval]) HN.out ?_); intro v' w3 hq3 hg3 hm3; obtain ⟨A2, n2, c2, rfl⟩ := Qu.slice hq3; obtain ⟨F0, F1, F2⟩ := HFin.out w3 A2 n2 c2 hq3 hg3 hm3)
    all_goals
      have HF0 := Lib.hid F0
      clear F0 F1 F2
      go_wp2_with fail
      go_end0
      exact ⟨rfl, HF0.out⟩
end Go.Proofs.Ytddjbchlpfaggaa.PfC
