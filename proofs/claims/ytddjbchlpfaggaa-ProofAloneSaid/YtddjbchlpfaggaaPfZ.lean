/- The walk of the law that a proof's own rules prove it, and that each of them is wanted. -/
import Derived.Test.YtddjbchlpfaggaaPfY
import Derived.Test.YtddjbchlpfaggaaPfU
namespace Go.Proofs.Ytddjbchlpfaggaa.SynC
open Go.RowKit Go.Lib Go.Proofs
section
variable {P : Program} (w : World)
theorem wpList_append_from {ops : Array Oper} {rest : List Oper} {o : Oper} {a : Act} {Q : Exit → Act → World → Prop} (hgd : o.guard = none) (s x : Operand) (t : TypeId)
    (ho : o.op = .call { callee := .builtin .append, args := #[s, x], argTypes := #[t, t] })
    (base : Nat) (e : TypeId) (i : TypeInfo) (z : Value) (size bytes : Nat) (ht : P.underlying t = some (.slice e)) (hi : P.info? e = some i) (hz : i.zero = some z)
    (hsize : i.size = size) (hby : i.bytes = bytes) (hzs : z.cells.size = size) (hsz : 0 < size) (v : Value) (n : Nat) (xs : List Value) (hs : a.eval s = v) (hown : w.ownsRow base e size v n xs)
    (A : Option Addr) (m c : Nat) (news : List Value) (hx : a.eval x = .slice A m c) (hlen : news.length = m * size) (h0 : A = none → m = 0) (hA : ∀ ad, A = some ad → ∀ j u, news[j]? = some u → w.cell? (ad.add j) = some u) (h1 : ∀ u ∈ news, u.oneCell' = true)
    (h63 : n + m ≤ maxLen) (hbytes : (n + m) * bytes ≤ 140737488355328) (hbase : base ≤ w.heap.size)
    (h : ∀ v' w', w'.ownsRow base e size v' (n + m) (xs ++ news) → w.grownBy w' v.ownBlock → wpList P ops Q rest (a.put o.dst v') w') : wpList P ops Q (o :: rest) a w := by
  obtain ⟨v', w', hrun, h2, h3⟩ := run_append_from (P := P) w base t o.type e i z size bytes ht hi hz hsize hby hzs hsz v n xs hown A m c news hlen h0 hA h1 h63 hbytes hbase
  exact Lib.wpList_append_run w hgd s x t t ho v _ hs hx v' w' hrun (h v' w' h2 h3)
end
end Go.Proofs.Ytddjbchlpfaggaa.SynC
namespace Go.Proofs.Ytddjbchlpfaggaa.PfZ
open Go.RowKit Go.Lib Go.Proofs Go.Maps Go.Proofs.Ytddjbchlpfaggaa.TblB Go.Proofs.Ytddjbchlpfaggaa.TblC Go.Proofs.Ytddjbchlpfaggaa.TblV Go.Proofs.Ytddjbchlpfaggaa.TblP Go.Proofs.Ytddjbchlpfaggaa.TblQ Go.Proofs.Ytddjbchlpfaggaa.SetB Go.Proofs.Ytddjbchlpfaggaa.SetF Go.Proofs.Ytddjbchlpfaggaa.SetJ Go.Proofs.Ytddjbchlpfaggaa.SetR Go.Proofs.Ytddjbchlpfaggaa.SemA Go.Proofs.Ytddjbchlpfaggaa.SemB Go.Proofs.Ytddjbchlpfaggaa.SemC Go.Proofs.Ytddjbchlpfaggaa.SemD Go.Proofs.Ytddjbchlpfaggaa.SemGa Go.Proofs.Ytddjbchlpfaggaa.SemJ Go.Proofs.Ytddjbchlpfaggaa.SemK Go.Proofs.Ytddjbchlpfaggaa.SemSw Go.Proofs.Ytddjbchlpfaggaa.SemRf Go.Proofs.Ytddjbchlpfaggaa.SemRh Go.Proofs.Ytddjbchlpfaggaa.PfM Go.Proofs.Ytddjbchlpfaggaa.PfN Go.Proofs.Ytddjbchlpfaggaa.PfO Go.Proofs.Ytddjbchlpfaggaa.PfB Go.Proofs.Ytddjbchlpfaggaa.PfC Go.Proofs.Ytddjbchlpfaggaa.PfE Go.Proofs.Ytddjbchlpfaggaa.PfJ Go.Proofs.Ytddjbchlpfaggaa.PfL Go.Proofs.Ytddjbchlpfaggaa.PfR Go.Proofs.Ytddjbchlpfaggaa.PfS5 Go.Proofs.Ytddjbchlpfaggaa.PfU Go.Proofs.Ytddjbchlpfaggaa.PfX Go.Proofs.Ytddjbchlpfaggaa.PfY
set_option linter.unusedVariables false
set_option linter.unusedSimpArgs false
theorem no_zero (P K : Nat) : rightU P K zeroU = false := by
  cases h : rightU P K zeroU with
  | false => rfl
  | true =>
    have := (right_r h).1
    unfold Go.Proofs.Ytddjbchlpfaggaa.TblC.zeroU at this
    simp at this
theorem less_false {P K : Nat} {L : List Ru} {T : List Sp} {f : Fa} (h : Proof P K L f T) {i : Nat} (hi : ∃ s ∈ T, s.rule = i) : chk P K (L.set i zeroU) [] T = false := by
  cases hc : chk P K (L.set i zeroU) [] T with
  | false => rfl
  | true =>
    obtain ⟨s, hs, e⟩ := hi
    obtain ⟨_, _, u, hu, _⟩ := chk_rng _ _ hc s hs
    rw [e] at hu
    obtain ⟨_, r1, r2, r3⟩ := ruleAt_some hu
    rw [Int.toNat_natCast] at r1 r2
    rw [List.length_set] at r1
    rw [List.getElem?_set_self r1] at r2
    cases r2
    rw [no_zero] at r3
    cases r3
theorem uses_rng {P K : Nat} {L : List Ru} {T : List Sp} {f : Fa} (h : Proof P K L f T) {i : Int} (hi : i ∈ usesL T) : ∃ n : Nat, i = n ∧ n < L.length := by
  obtain ⟨s, hs, e⟩ := uses_mem.1 hi
  obtain ⟨_, _, u, hu, _⟩ := chk_rng _ _ h.ck s hs
  obtain ⟨r0, r1, _⟩ := ruleAt_some hu
  exact ⟨i.toNat, by omega, by rw [← e]; exact r1⟩
theorem some_der {P K : Nat} {L : List Ru} {T : List Sp} {r x : Int} (h : Proof P K L (r, x) T) : derB P K ((usesL T).map (ruleD L)) r x = true := by
  rw [derB_iff]
  obtain ⟨T', s, rfl, hs⟩ := h.last
  have := chk_der (L' := ((usesL (T' ++ [s])).map (ruleD L)).filter (rightU P K)) (T' ++ [s]) [] h.ck (fun f hf => by simp [hasS] at hf) (fun y hy u hu => by
    refine List.mem_filter.2 ⟨List.mem_map.2 ⟨y.rule, uses_mem.2 ⟨y, hy, rfl⟩, ruleD_of hu⟩, (ruleAt_some hu).2.2.2⟩) (r, x) (by
    rw [List.nil_append, hasS_app, hasS_one, hs]; simp)
  exact this
theorem uses_len (T : List Sp) : (usesL T).length ≤ T.length := by
  unfold usesL
  refine Nat.le_trans (Lib.compact_length_le _) ?_
  rw [srtI_len, List.length_map]; exact Nat.le_refl _
theorem pf_in {d0 d1 : Int} {L : List Ru} {T : List Sp} {f : Fa} (g1 : d0 ≤ 10) (g2 : d1 ≤ 6) (h : Proof d0.toNat d1.toNat L f T) : ∀ s ∈ T, InR s.fa := fun s hs => by
  obtain ⟨h1, h2, _⟩ := chk_rng _ _ h.ck s hs
  have h3 : d0.toNat * d1.toNat ≤ 10 * 6 := Nat.mul_le_mul (by omega) (by omega)
  unfold InR Sp.fa
  simp only
  omega
/-- A slice that reads as ints. -/
def ZG (w : World) (A : Option Addr) (Z : List Int) : Prop := 0 < Z.length → ∃ g, A = some ⟨g, 0, none⟩ ∧ g < w.heap.size ∧ ∀ j, (h : j < Z.length) → w.cell? ⟨g, j, none⟩ = some (.int .i64 Z[j])
theorem ZG.below {w w' : World} {A : Option Addr} {Z : List Int} (h : ZG w A Z) (hb : Below w.heap.size w w') : ZG w' A Z := fun hp => by
  obtain ⟨g, hA, hg, hc⟩ := h hp
  exact ⟨g, hA, Nat.lt_of_lt_of_le hg hb.size, fun j hj => (hb.cell (p := ⟨g, j, none⟩) hg).trans (hc j hj)⟩
theorem zg_own {w : World} {B : Nat} {v : Value} {Z : List Int} {t : TypeId} (h : w.ownsRow B t 1 v Z.length (Z.map (Value.int .i64))) : ∃ A ca, v = .slice A Z.length ca ∧ ZG w A Z := by
  have h0 := h
  rcases h.2 with ⟨rfl, hn⟩ | ⟨g, cap, cur, rfl, hb, hg, _⟩
  · exact ⟨none, 0, by rw [hn], fun hp => by omega⟩
  · refine ⟨_, cap, rfl, fun hp => ⟨g, rfl, (Array.getElem?_eq_some_iff.1 hg).1, fun j hj => ?_⟩⟩
    have k := h0.cells (g := g) rfl j (.int .i64 Z[j]) (by simp [List.getElem?_eq_getElem hj])
    rw [Go.Proofs.Ytddjbchlpfaggaa.SemC.add_off, Nat.zero_add] at k
    exact k
theorem ug_own {w : World} {B : Nat} {v : Value} {L : List Ru} {t : TypeId} (h : w.ownsRow B t 6 v L.length (cellsR L)) : ∃ A ca, v = .slice A L.length ca ∧ L.length ≤ ca ∧ UG w A L := by
  have h0 := h
  rcases h.2 with ⟨rfl, hn⟩ | ⟨g, cap, cur, rfl, hb, hg, hcap, _⟩
  · exact ⟨none, 0, by rw [hn], by omega, fun hp => by omega⟩
  · refine ⟨_, cap, rfl, hcap, fun hp => ⟨g, 0, rfl, (Array.getElem?_eq_some_iff.1 hg).1, fun j hj k hk => ?_⟩⟩
    have hx := cellsR_at L j k hj hk
    have hs : k < (L[j].cells).size := by show k < 6; exact hk
    rw [Array.getElem?_eq_getElem hs] at hx ⊢
    have := h0.cells (g := g) rfl _ _ hx
    rw [Go.Proofs.Ytddjbchlpfaggaa.SemC.add_off] at this
    rw [Nat.zero_add]
    rw [Nat.zero_add] at this
    exact this
theorem new_cell6 (w : World) (a0 a1 a2 a3 a4 a5 : Value) (t : TypeId) : ∀ j u, [a0, a1, a2, a3, a4, a5][j]? = some u → (w.alloc (.cells #[a0, a1, a2, a3, a4, a5] t)).cell? ((⟨w.heap.size, 0, none⟩ : Addr).add j) = some u := by
  intro j u hu
  rw [Go.Proofs.Ytddjbchlpfaggaa.SemC.add_off, Nat.zero_add, Lib.cell_of_heap (heap_alloc_new w _) j, ← hu]
  simp
theorem ucells_one (L : List Ru) : ∀ u ∈ cellsR L, u.oneCell' = true := by
  intro u hu
  unfold cellsR at hu
  rw [List.mem_flatMap] at hu
  obtain ⟨r, _, hu⟩ := hu
  simp [Ru.cells] at hu
  rcases hu with rfl | rfl | rfl | rfl | rfl | rfl <;> rfl
theorem ug_cells {w : World} {g o : Nat} {L : List Ru} (h : UG w (some ⟨g, o, none⟩) L) : ∀ ad, some (⟨g, o, none⟩ : Addr) = some ad → ∀ j u, (cellsR L)[j]? = some u → w.cell? (ad.add j) = some u := by
  rintro ad e j u hu
  injection e with e
  subst e
  have hj : j < L.length * 6 := by
    rw [← cellsR_len]
    rcases Nat.lt_or_ge j (cellsR L).length with h | h
    · exact h
    · rw [List.getElem?_eq_none h] at hu; cases hu
  obtain ⟨g', o', e, hg, hc⟩ := h (by omega)
  simp only [Option.some.injEq, Addr.mk.injEq, and_true] at e
  obtain ⟨rfl, rfl⟩ := e
  have a := hc (j / 6) (by omega) (j % 6) (by omega)
  have q := cellsR_at L (j / 6) (j % 6) (by omega) (by omega)
  rw [show j / 6 * 6 + j % 6 = j by omega] at q
  rw [Go.Proofs.Ytddjbchlpfaggaa.SemC.add_off, ← hu, q, ← a]
  congr 2
  omega
theorem own_emptyR (w : World) (t : TypeId) (size : Nat) : (w.alloc (.cells #[] t)).ownsRow w.heap.size t size (.slice (some ⟨w.heap.size, 0, none⟩) 0 0) 0 [] := by
  refine ⟨by simp, .inr ⟨w.heap.size, 0, #[], rfl, Nat.le_refl _, heap_alloc_new w _, by omega, ?_⟩⟩
  simp
theorem oth (w : World) (g i j : Nat) (v : Value) (h : i ≠ j) : (w.setCell ⟨g, i, none⟩ v).cell? ⟨g, j, none⟩ = w.cell? ⟨g, j, none⟩ :=
  World.cell?_setCell_other (h := fun e => h (by injection e)) ..
theorem oth2 (w : World) (g a i k : Nat) (v : Value) (h : a ≠ g ∨ i ≠ k) : (w.setCell ⟨g, i, none⟩ v).cell? ⟨a, k, none⟩ = w.cell? ⟨a, k, none⟩ :=
  World.cell?_setCell_other (h := fun e => by injection e with e1 e2; omega) ..
theorem set6at (w : World) (g o : Nat) (z : Value) (hc : ∀ k, k < 6 → ∃ u, w.cell? ⟨g, o + k, none⟩ = some u) :
    ∃ w5, ((((((w.setCell ⟨g, o, none⟩ z).setCell ⟨g, o + 1, none⟩ z).setCell ⟨g, o + 2, none⟩ z).setCell ⟨g, o + 3, none⟩ z).setCell ⟨g, o + 4, none⟩ z).setCell ⟨g, o + 5, none⟩ z) = w5 ∧
      (∀ a k, (a ≠ g ∨ k < o ∨ o + 6 ≤ k) → w5.cell? ⟨a, k, none⟩ = w.cell? ⟨a, k, none⟩) ∧ (∀ k, k < 6 → w5.cell? ⟨g, o + k, none⟩ = some z) ∧ (∀ B w0, Below B w0 w → B ≤ g → Below B w0 w5) := by
  refine ⟨_, rfl, fun a k h => ?_, fun k hk => ?_, fun B w0 hb hB => ?_⟩
  · rw [oth2 _ g a (o + 5) k z (by omega), oth2 _ g a (o + 4) k z (by omega), oth2 _ g a (o + 3) k z (by omega), oth2 _ g a (o + 2) k z (by omega), oth2 _ g a (o + 1) k z (by omega), oth2 _ g a (o) k z (by omega)]
  · obtain ⟨u0, z0⟩ := hc 0 (by omega)
    obtain ⟨u1, z1⟩ := hc 1 (by omega)
    obtain ⟨u2, z2⟩ := hc 2 (by omega)
    obtain ⟨u3, z3⟩ := hc 3 (by omega)
    obtain ⟨u4, z4⟩ := hc 4 (by omega)
    obtain ⟨u5, z5⟩ := hc 5 (by omega)
    have hk2 : k = 0 ∨ k = 1 ∨ k = 2 ∨ k = 3 ∨ k = 4 ∨ k = 5 := by omega
    rcases hk2 with rfl | rfl | rfl | rfl | rfl | rfl
    · show World.cell? _ ⟨g, o, none⟩ = some z
      rw [oth _ g (o + 5) (o) z (by omega), oth _ g (o + 4) (o) z (by omega), oth _ g (o + 3) (o) z (by omega), oth _ g (o + 2) (o) z (by omega), oth _ g (o + 1) (o) z (by omega)]
      exact World.cell?_setCell_same (u := u0) (h := z0) ..
    · rw [oth _ g (o + 5) (o + 1) z (by omega), oth _ g (o + 4) (o + 1) z (by omega), oth _ g (o + 3) (o + 1) z (by omega), oth _ g (o + 2) (o + 1) z (by omega)]
      exact World.cell?_setCell_same (u := u1) (h := by rw [oth _ g (o) (o + 1) z (by omega)]; exact z1) ..
    · rw [oth _ g (o + 5) (o + 2) z (by omega), oth _ g (o + 4) (o + 2) z (by omega), oth _ g (o + 3) (o + 2) z (by omega)]
      exact World.cell?_setCell_same (u := u2) (h := by rw [oth _ g (o + 1) (o + 2) z (by omega), oth _ g (o) (o + 2) z (by omega)]; exact z2) ..
    · rw [oth _ g (o + 5) (o + 3) z (by omega), oth _ g (o + 4) (o + 3) z (by omega)]
      exact World.cell?_setCell_same (u := u3) (h := by rw [oth _ g (o + 2) (o + 3) z (by omega), oth _ g (o + 1) (o + 3) z (by omega), oth _ g (o) (o + 3) z (by omega)]; exact z3) ..
    · rw [oth _ g (o + 5) (o + 4) z (by omega)]
      exact World.cell?_setCell_same (u := u4) (h := by rw [oth _ g (o + 3) (o + 4) z (by omega), oth _ g (o + 2) (o + 4) z (by omega), oth _ g (o + 1) (o + 4) z (by omega), oth _ g (o) (o + 4) z (by omega)]; exact z4) ..
    · exact World.cell?_setCell_same (u := u5) (h := by rw [oth _ g (o + 4) (o + 5) z (by omega), oth _ g (o + 3) (o + 5) z (by omega), oth _ g (o + 2) (o + 5) z (by omega), oth _ g (o + 1) (o + 5) z (by omega), oth _ g (o) (o + 5) z (by omega)]; exact z5) ..
  · exact (((((hb.setCell hB _).setCell hB _).setCell hB _).setCell hB _).setCell hB _).setCell hB _
/-- A row of rules, one of which is made the zero rule. -/
theorem ug_zeroed {w w5 : World} {g n : Nat} {L : List Ru} (h : UG w (some ⟨g, 0, none⟩) L) (hn : n < L.length) (hg : g < w5.heap.size) (h1 : ∀ a k, (a ≠ g ∨ k < n * 6 ∨ n * 6 + 6 ≤ k) → w5.cell? ⟨a, k, none⟩ = w.cell? ⟨a, k, none⟩) (h2 : ∀ k, k < 6 → w5.cell? ⟨g, n * 6 + k, none⟩ = some (.int .i64 0)) : UG w5 (some ⟨g, 0, none⟩) (L.set n TblC.zeroU) := fun hp => by
  rw [List.length_set] at hp
  obtain ⟨g', o', e, _, hc⟩ := h hp
  simp only [Option.some.injEq, Addr.mk.injEq, and_true] at e
  obtain ⟨rfl, rfl⟩ := e
  refine ⟨g, 0, rfl, hg, fun j hj k hk => ?_⟩
  rw [List.length_set] at hj
  by_cases he : j = n
  · subst he
    rw [Nat.zero_add, h2 k hk, List.getElem_set_self]
    have hk2 : k = 0 ∨ k = 1 ∨ k = 2 ∨ k = 3 ∨ k = 4 ∨ k = 5 := by omega
    rcases hk2 with rfl | rfl | rfl | rfl | rfl | rfl <;> rfl
  · rw [List.getElem_set_ne (by omega), ← hc j hj k hk]
    refine h1 _ _ ?_
    rcases Nat.lt_or_gt_of_ne he with q | q
    · exact .inr (.inl (by omega))
    · exact .inr (.inr (by omega))
set_option maxHeartbeats 4000000 in
set_option maxRecDepth 100000 in
theorem law (d0 d1 r x : Int) (A : Option Addr) (ca : Nat) (L : List Ru) (w : World) (hL : L.length ≤ maxLen) (hA : UG w A L) (hf : InR (r, x)) :
    Calls Try.prog 5 #[.agg #[.int .i64 d0, .int .i64 d1], .slice A L.length ca, .agg #[.int .i64 r, .int .i64 x]] w fun e w' => e = .returned (.bool true) ∧ Below w.heap.size w w' := by
  have hb0 : Below w.heap.size w ((w.alloc (.cells #[.int .i64 d0, .int .i64 d1] 22)).alloc (.cells #[.int .i64 r, .int .i64 x] 22)) := ((Below.refl _ _).alloc (Nat.le_refl _) _).alloc (by rw [World.size_alloc]; omega) _
  have hd1 := heap_alloc2_old w (.cells #[.int .i64 d0, .int .i64 d1] 22) (.cells #[.int .i64 r, .int .i64 x] 22)
  have hd2 := heap_alloc2_new w (.cells #[.int .i64 d0, .int .i64 d1] 22) (.cells #[.int .i64 r, .int .i64 x] 22)
  have HD1 := Lib.hid hd1
  have HD2 := Lib.hid hd2
  have HSm := Lib.hid (fun w' => small d0 d1 A ca L.length (by unfold maxLen at hL; exact hL) w')
  have HLv := Lib.hid (fun w' => lives w')
  have HB0 := Lib.hid hb0
  have HUA := Lib.hid (hA.below hb0)
  clear hb0 hA hd1 hd2
  cases hs : smallB d0 d1 L.length
  · rw [hs] at HSm
    clear hs HUA
    go_enter Try.func5, Try.ntmps5
    go_upto_region 1 with fail
    obtain ⟨bx, hbx⟩ : ∃ bx, w.heap.size = bx := ⟨_, rfl⟩
    simp only [hbx] at HD1 HD2 ⊢
    generalize (w.alloc (.cells #[.int .i64 d0, .int .i64 d1] 22)).alloc (.cells #[.int .i64 r, .int .i64 x] 22) = w0 at *
    have c0 := fun o => Lib.cell_of_heap HD1.out o
    go_wp2_with fail
    refine (HSm.out _).mono ?_
    rintro e w1 ⟨rfl, rfl⟩
    clear c0 HD1 HD2 HSm
    go_wp2_with fail
    refine (HLv.out _).mono ?_
    rintro e w2 ⟨rfl, hb⟩
    have HF := Lib.hid (SemI.nx HB0.out hb)
    clear hb HLv HB0
    go_wp2_with fail
    go_ret
    exact ⟨rfl, by first | exact HF.out | (rw [← hbx]; exact HF.out)⟩
  · rw [hs] at HSm
    unfold smallB at hs
    simp only [Bool.and_eq_true, decide_eq_true_eq] at hs
    obtain ⟨s1, s2, s3⟩ := hs
    have HEr := Lib.hid (fun A ca S w' (hl : S.length ≤ 1000) hu => evalR d0 d1 A ca S w' hl hu d0.toNat d1.toNat (by omega) (by omega))
    have HWy := Lib.hid (fun w' hu => why d0 d1 A ca L (r, x) w' s1 s2 s3 hu hf)
    have HCk := Lib.hid (fun A ca S w' (hl : S.length ≤ 1000) hu B cb T hT hB hI => checkP d0 d1 A ca S B cb T w' (by omega) (by omega) hl hT hu hB hI)
    have HPv := Lib.hid (fun w' hu B cb T m hm hT hB hI hl => proves d0 d1 A ca L r x B cb T w' (by omega) (by omega) (by omega) m hm hT hu hB hI hl)
    have HLn : Hid (∀ T, Proof d0.toNat d1.toNat L (r, x) T → T.length ≤ 600) := Lib.hid (fun T hp => by
      have h1 := chk_len hp.ck
      have h2 : d0.toNat * d1.toNat ≤ 10 * 6 := Nat.mul_le_mul (by omega) (by omega)
      have h3 : d0.toNat * d1.toNat * d0.toNat ≤ 60 * 10 := Nat.mul_le_mul h2 (by omega)
      omega)
    have HIn : Hid (∀ T, Proof d0.toNat d1.toNat L (r, x) T → ∀ s ∈ T, InR s.fa) := Lib.hid (fun T hp => pf_in s1 s2 hp)
    unfold WhyPost at HWy
    generalize d0.toNat = P at *
    generalize d1.toNat = K at *
    clear s1 s2 hf
    go_enter Try.func5, Try.ntmps5
    go_upto_region 1 with fail
    obtain ⟨bx, hbx⟩ : ∃ bx, w.heap.size = bx := ⟨_, rfl⟩
    simp only [hbx] at HD1 HD2 ⊢
    generalize (w.alloc (.cells #[.int .i64 d0, .int .i64 d1] 22)).alloc (.cells #[.int .i64 r, .int .i64 x] 22) = w0 at *
    have HC1 := Lib.hid (fun w' (hb : Below w0.heap.size w0 w') (o : Nat) => Lib.cell_of_heap ((hb.block _ (lt_of HD1.out)).trans HD1.out) o)
    have HC2 := Lib.hid (fun w' (hb : Below w0.heap.size w0 w') (o : Nat) => Lib.cell_of_heap ((hb.block _ (lt_of HD2.out)).trans HD2.out) o)
    clear HD1 HD2
    have c0 := HC1.out w0 (Below.refl _ _)
    have c1 := HC2.out w0 (Below.refl _ _)
    go_wp2_with fail
    refine (HSm.out _).mono ?_
    rintro e w1 ⟨rfl, rfl⟩
    clear HSm
    go_wp2_with fail
    refine (HWy.out _ HUA.out).mono ?_
    rintro e w4 ⟨hb4, hwhy⟩
    have HB4 := Lib.hid hb4
    have HW := Lib.hid hwhy
    clear hwhy hb4 c0 c1 HWy
    rcases HW.out with ⟨hd, A2, c2, T, rfl, htg, hcap, hpr⟩ | ⟨hd, rfl⟩
    · clear hd HW
      have hlast := hpr.last
      have hlen := HLn.out T hpr
      have hT0 : 0 < T.length := by
        obtain ⟨T', s, rfl, _⟩ := hlast
        simp
      have HU := Lib.hid (fun w' (hb : Below w4.heap.size w4 w') => uses A2 c2 T w' (by omega) hT0 (htg.below hb))
      have HT := Lib.hid htg
      have HP := Lib.hid hpr
      have HTI := Lib.hid (HIn.out T hpr)
      have hul := uses_len T
      have HRng : Hid (∀ j, (h : j < (usesL T).length) → ∃ n : Nat, (usesL T)[j] = n ∧ n < L.length) := Lib.hid (fun j h => uses_rng hpr (List.getElem_mem h))
      have HSd := Lib.hid (some_der hpr)
      have HLess : Hid (∀ i : Nat, (i : Int) ∈ usesL T → chk P K (L.set i zeroU) [] T = false) := Lib.hid (fun i hi => less_false hpr (uses_mem.1 hi))
      unfold UsesPost at HU
      obtain ⟨ZS, hZ⟩ : ∃ l, usesL T = l := ⟨_, rfl⟩
      rw [hZ] at HU HRng HSd HLess hul
      clear hpr hlast htg hcap hZ HLn HIn
      go_wp2_with fail
      refine (HU.out _ (Below.refl _ _)).mono ?_
      rintro e w5 ⟨v, rfl, hown, hb5⟩
      obtain ⟨A5, c5, rfl, hzg⟩ := zg_own hown
      have HB5 := Lib.hid (SemI.nx HB4.out hb5)
      have HT5 := Lib.hid (HT.out.below hb5)
      have HZ := Lib.hid hzg
      have HB45 := Lib.hid hb5
      clear hown hb5 hzg HB4 HT
      obtain ⟨i0, hi, hz0, hz1, hz2⟩ := info_parts SemC.infoRu
      have hzs600 : ZS.length ≤ 600 := by omega
      obtain ⟨S, hS⟩ : ∃ l, ZS.map (ruleD L) = l := ⟨_, rfl⟩
      have hSl : S.length = ZS.length := by rw [← hS, List.length_map]
      have HS := Lib.hid hS
      rw [hS] at HSd
      clear hS
      go_wp2_with fail
      go_loopw [9, 42] (fun v i wr => ∃ j : Nat, j ≤ ZS.length ∧ i = .int .i64 j ∧ Hid (wr.ownsRow w5.heap.size 44 6 v (S.take j).length (cellsR (S.take j))) ∧ Below w5.heap.size w5 wr) (fun _ i _ => ZS.length - (intOf i).toNat)
      case atStart => exact ⟨0, by omega, rfl, Lib.hid (World.ownsRow_nil _ _ _ _), Below.refl _ _⟩
      case round =>
        obtain ⟨j, hj, rfl, hown, hb⟩ := hrel
        by_cases hlt : j < ZS.length
        · have e1 : decide ((j : Int) < ZS.length) = true := by simp; omega
          obtain ⟨gz, hgz, hgzl, hzc⟩ := HZ.out.below hb (by omega)
          subst hgz
          obtain ⟨n, hn, hnL⟩ := HRng.out j hlt
          have yz := hzc j hlt
          rw [hn] at yz
          obtain ⟨g, o, hgA, hg, hc⟩ := (HUA.out.below (SemI.nx HB5.out hb)) (by omega)
          subst hgA
          have hcn := hc n hnL
          have hrd : ruleD L ZS[j] = L[n] := by
            rw [hn]
            unfold ruleD
            rw [Int.toNat_natCast, List.getD_eq_getElem?_getD, List.getElem?_eq_getElem hnL]
            rfl
          have HSk : Hid (S.take (j + 1) = S.take j ++ [L[n]]) := Lib.hid (by rw [← HS.out, List.take_succ_eq_append_getElem (by rw [List.length_map]; exact hlt), List.getElem_map, hrd])
          have hlj : (S.take j).length = j := by rw [List.length_take]; omega
          have p0 : (0 : Int) ≤ j := by omega
          have p1 : (j : Int) < ZS.length := by omega
          have p2 : decide ((n : Int) < 0) = false := by simp
          have p3 : decide ((L.length : Int) ≤ n) = false := by simp; omega
          have p4 : decide (L.length ≤ n) = false := by simp; omega
          have p5 : (0 : Int) ≤ n := by omega
          have p6 : (n : Int) < L.length := by omega
          clear hc hzc hn hrd
          generalize L[n] = u at *
          obtain ⟨u0, u1, u2, u3, u4, u5⟩ := u
          unfold Ru.cells at hcn
          simp only at hcn
          have y0 : wr.cell? ⟨g, o + n * 6, none⟩ = some (.int .i64 u0) := hcn 0 (by omega)
          have y1 : wr.cell? ⟨g, o + n * 6 + 1, none⟩ = some (.int .i64 u1) := hcn 1 (by omega)
          have y2 : wr.cell? ⟨g, o + n * 6 + 2, none⟩ = some (.int .i64 u2) := hcn 2 (by omega)
          have y3 : wr.cell? ⟨g, o + n * 6 + 3, none⟩ = some (.int .i64 u3) := hcn 3 (by omega)
          have y4 : wr.cell? ⟨g, o + n * 6 + 4, none⟩ = some (.int .i64 u4) := hcn 4 (by omega)
          have y5 : wr.cell? ⟨g, o + n * 6 + 5, none⟩ = some (.int .i64 u5) := hcn 5 (by omega)
          have hown2 := hown.out
          have HBr := Lib.hid hb
          have hzz : w5.heap.size ≤ wr.heap.size := hb.size
          clear hcn hown hb
          go_wp2_with (at_builtin; refine wpList_append_own _ rfl _ _ 23 rfl w5.heap.size 44 i0 TblC.zeroU.val 6 48 Try.underlying23 hi hz0 hz1 hz2 rfl (by decide) _ _ _ rfl (hown2.alloc _) ⟨wr.heap.size, 0, none⟩ 1 1 [.int .i64 u0, .int .i64 u1, .int .i64 u2, .int .i64 u3, .int .i64 u4, .int .i64 u5] rfl rfl ?c1 ?c2 ?c3 ?c4 ?c5 ?_)
          case c1 => exact new_cell6 _ _ _ _ _ _ _ _
          case c2 => intro u hu; simp at hu; rcases hu with rfl | rfl | rfl | rfl | rfl | rfl <;> rfl
          case c3 => unfold maxLen; omega
          case c4 => omega
          case c5 => simp; omega
          intro v' w3 hown' hgrow _
          have hown3 : w3.ownsRow w5.heap.size 44 6 v' (S.take (j + 1)).length (cellsR (S.take (j + 1))) := by
            rw [HSk.out, cellsR_app, List.length_append, hlj]
            exact hown'
          have hbel3 := below_own HBr.out hown2 hgrow
          have HO3 := Lib.hid hown3
          have HB3 := Lib.hid hbel3
          clear hown' hown2 hgrow hown3 hbel3 y0 y1 y2 y3 y4 y5 yz
          go_wp2_with fail
          go_roundw
          case rel => exact ⟨j + 1, by omega, by go_num, HO3, HB3.out⟩
          case measure => simp [intOf]; omega
        · have e1 : decide ((j : Int) < ZS.length) = false := by simp; omega
          have hjT : j = ZS.length := by omega
          subst hjT
          have hown2 := hown.out
          rw [List.take_of_length_le (by omega)] at hown2
          obtain ⟨A6, c6, rfl, hc6, hug⟩ := ug_own hown2
          have HUS := Lib.hid hug
          have HBr := Lib.hid (SemI.nx HB5.out hb)
          have HTr := Lib.hid (HT5.out.below hb)
          have HU2 := Lib.hid (HU.out wr (HB45.out.trans (hb.mono HB45.out.size)))
          clear hug hown2 hown hb hc6
          go_wp2_with fail
          refine HU2.out.mono ?_
          rintro e w7 ⟨v, rfl, hown, hb7⟩
          obtain ⟨A7, c7, rfl, hzg⟩ := zg_own hown
          have HB7 := Lib.hid (SemI.nx HBr.out hb7)
          have HT7 := Lib.hid (HTr.out.below hb7)
          have HS7 := Lib.hid (HUS.out.below hb7)
          have HZ7 := Lib.hid hzg
          clear hown hb7 hzg HBr HTr HUS HU2 HZ HT5 HB5 HB45 HU
          go_wp2_with fail
          go_loopw [65] (fun i wr => ∃ j : Nat, j ≤ ZS.length ∧ i = .int .i64 j ∧ Below w7.heap.size w7 wr) (fun i _ => ZS.length - (intOf i).toNat)
          case atStart => exact ⟨0, by omega, rfl, Below.refl _ _⟩
          case round =>
            obtain ⟨j, hj, rfl, hb⟩ := hrel
            by_cases hlt : j < ZS.length
            · have e1 : decide ((j : Int) < ZS.length) = true := by simp; omega
              obtain ⟨gz, hgz, hgzl, hzc⟩ := HZ7.out.below hb (by omega)
              subst hgz
              obtain ⟨n, hn, hnL⟩ := HRng.out j hlt
              have yz := hzc j hlt
              rw [hn] at yz
              have hff := HLess.out n (by rw [← hn]; exact List.getElem_mem hlt)
              have hua := HUA.out.below (SemI.nx HB7.out hb)
              obtain ⟨g, o, hgA, _, _⟩ := hua (by omega)
              subst hgA
              have Hc := Lib.hid (ug_cells (UG.below hua ((Below.refl wr.heap.size wr).alloc (Nat.le_refl _) (.cells #[] 44))))
              have p0 : (0 : Int) ≤ j := by omega
              have p1 : (j : Int) < ZS.length := by omega
              have p5 : (0 : Int) ≤ n := by omega
              have p6 : (n : Int) < L.length := by omega
              clear hzc hn hua
              go_wp2_with (at_builtin; refine SynC.wpList_append_from _ rfl _ _ 23 rfl wr.heap.size 44 i0 TblC.zeroU.val 6 48 Try.underlying23 hi hz0 hz1 hz2 rfl (by decide) _ _ _ rfl (own_emptyR wr _ 6) (some ⟨g, o, none⟩) L.length ca (cellsR L) rfl (cellsR_len L) (fun h => by cases h) Hc.out (ucells_one L) (by unfold maxLen; omega) (by omega) (by simp) ?_)
              intro v' w8 hown8 hgrow
              have hb8 : Below wr.heap.size wr w8 := ((Below.refl _ _).alloc (Nat.le_refl _) _).grown hgrow (by simp) (fun k hk => by simp [Value.ownBlock] at hk; omega)
              have hfr : ∃ g8 c8 cur, v' = .slice (some ⟨g8, 0, none⟩) L.length c8 ∧ wr.heap.size ≤ g8 ∧ w8.heap[g8]? = some (.cells cur 44 (0, 0)) := by
                rcases hown8.2 with ⟨_, h0⟩ | ⟨g8, cap, cur, e, hB, hh, _⟩
                · omega
                · exact ⟨g8, cap, cur, e, hB, hh⟩
              obtain ⟨g8, c8, cur, rfl, hg8, hh8⟩ := hfr
              obtain ⟨A8, c9, e8, hc8, hug8⟩ := ug_own hown8
              simp only [Value.slice.injEq] at e8
              obtain ⟨rfl, _, rfl⟩ := e8
              have hfz : ∀ o, w8.frozen? ⟨g8, o, none⟩ = false := fun o => frozen_of_row _ _ _ _ _ hh8
              obtain ⟨g9, o9, e9, _, hcc⟩ := hug8 (by omega)
              simp only [Option.some.injEq, Addr.mk.injEq, and_true] at e9
              obtain ⟨rfl, rfl⟩ := e9
              have hcn := hcc n hnL
              have hex : ∀ k, k < 6 → ∃ u, w8.cell? ⟨g8, n * 6 + k, none⟩ = some u := fun k hk => by
                have := hcn k hk
                rw [Nat.zero_add, Array.getElem?_eq_getElem (show k < (L[n].cells).size by show k < 6; exact hk)] at this
                exact ⟨_, this⟩
              obtain ⟨w9, hw9, ho9, hi9, hl9⟩ := set6at w8 g8 (n * 6) (.int .i64 0) hex
              have hb9 := hl9 _ _ hb8 hg8
              have hug9 := ug_zeroed hug8 hnL (Nat.lt_of_lt_of_le (lt_of hh8) (by rw [← hw9]; simp)) ho9 hi9
              have HCa := Lib.hid (HCk.out _ c8 _ w9 (by rw [List.length_set]; omega) hug9 A2 c2 T (by omega) (HT7.out.below (nx hb hb9)) HTI.out)
              rw [hff, List.length_set] at HCa
              have HB9 := Lib.hid (nx hb hb9)
              obtain ⟨x0, y0'⟩ := hex 0 (by omega)
              have y0 : w8.cell? ⟨g8, n * 6, none⟩ = some x0 := y0'
              obtain ⟨x1, y1'⟩ := hex 1 (by omega)
              obtain ⟨x2, y2'⟩ := hex 2 (by omega)
              obtain ⟨x3, y3'⟩ := hex 3 (by omega)
              obtain ⟨x4, y4'⟩ := hex 4 (by omega)
              obtain ⟨x5, y5'⟩ := hex 5 (by omega)
              have y1 : (w8.setCell ⟨g8, n * 6, none⟩ (.int .i64 0)).cell? ⟨g8, n * 6 + 1, none⟩ = some x1 := by rw [oth _ g8 (n * 6) (n * 6 + 1) _ (by omega)]; exact y1'
              have f1 : (w8.setCell ⟨g8, n * 6, none⟩ (.int .i64 0)).frozen? ⟨g8, n * 6 + 1, none⟩ = false := by simp [hfz]
              have y2 : ((w8.setCell ⟨g8, n * 6, none⟩ (.int .i64 0)).setCell ⟨g8, n * 6 + 1, none⟩ (.int .i64 0)).cell? ⟨g8, n * 6 + 2, none⟩ = some x2 := by rw [oth _ g8 (n * 6 + 1) (n * 6 + 2) _ (by omega), oth _ g8 (n * 6) (n * 6 + 2) _ (by omega)]; exact y2'
              have f2 : ((w8.setCell ⟨g8, n * 6, none⟩ (.int .i64 0)).setCell ⟨g8, n * 6 + 1, none⟩ (.int .i64 0)).frozen? ⟨g8, n * 6 + 2, none⟩ = false := by simp [hfz]
              have y3 : (((w8.setCell ⟨g8, n * 6, none⟩ (.int .i64 0)).setCell ⟨g8, n * 6 + 1, none⟩ (.int .i64 0)).setCell ⟨g8, n * 6 + 2, none⟩ (.int .i64 0)).cell? ⟨g8, n * 6 + 3, none⟩ = some x3 := by rw [oth _ g8 (n * 6 + 2) (n * 6 + 3) _ (by omega), oth _ g8 (n * 6 + 1) (n * 6 + 3) _ (by omega), oth _ g8 (n * 6) (n * 6 + 3) _ (by omega)]; exact y3'
              have f3 : (((w8.setCell ⟨g8, n * 6, none⟩ (.int .i64 0)).setCell ⟨g8, n * 6 + 1, none⟩ (.int .i64 0)).setCell ⟨g8, n * 6 + 2, none⟩ (.int .i64 0)).frozen? ⟨g8, n * 6 + 3, none⟩ = false := by simp [hfz]
              have y4 : ((((w8.setCell ⟨g8, n * 6, none⟩ (.int .i64 0)).setCell ⟨g8, n * 6 + 1, none⟩ (.int .i64 0)).setCell ⟨g8, n * 6 + 2, none⟩ (.int .i64 0)).setCell ⟨g8, n * 6 + 3, none⟩ (.int .i64 0)).cell? ⟨g8, n * 6 + 4, none⟩ = some x4 := by rw [oth _ g8 (n * 6 + 3) (n * 6 + 4) _ (by omega), oth _ g8 (n * 6 + 2) (n * 6 + 4) _ (by omega), oth _ g8 (n * 6 + 1) (n * 6 + 4) _ (by omega), oth _ g8 (n * 6) (n * 6 + 4) _ (by omega)]; exact y4'
              have f4 : ((((w8.setCell ⟨g8, n * 6, none⟩ (.int .i64 0)).setCell ⟨g8, n * 6 + 1, none⟩ (.int .i64 0)).setCell ⟨g8, n * 6 + 2, none⟩ (.int .i64 0)).setCell ⟨g8, n * 6 + 3, none⟩ (.int .i64 0)).frozen? ⟨g8, n * 6 + 4, none⟩ = false := by simp [hfz]
              have y5 : (((((w8.setCell ⟨g8, n * 6, none⟩ (.int .i64 0)).setCell ⟨g8, n * 6 + 1, none⟩ (.int .i64 0)).setCell ⟨g8, n * 6 + 2, none⟩ (.int .i64 0)).setCell ⟨g8, n * 6 + 3, none⟩ (.int .i64 0)).setCell ⟨g8, n * 6 + 4, none⟩ (.int .i64 0)).cell? ⟨g8, n * 6 + 5, none⟩ = some x5 := by rw [oth _ g8 (n * 6 + 4) (n * 6 + 5) _ (by omega), oth _ g8 (n * 6 + 3) (n * 6 + 5) _ (by omega), oth _ g8 (n * 6 + 2) (n * 6 + 5) _ (by omega), oth _ g8 (n * 6 + 1) (n * 6 + 5) _ (by omega), oth _ g8 (n * 6) (n * 6 + 5) _ (by omega)]; exact y5'
              have f5 : (((((w8.setCell ⟨g8, n * 6, none⟩ (.int .i64 0)).setCell ⟨g8, n * 6 + 1, none⟩ (.int .i64 0)).setCell ⟨g8, n * 6 + 2, none⟩ (.int .i64 0)).setCell ⟨g8, n * 6 + 3, none⟩ (.int .i64 0)).setCell ⟨g8, n * 6 + 4, none⟩ (.int .i64 0)).frozen? ⟨g8, n * 6 + 5, none⟩ = false := by simp [hfz]
              clear y0' y1' y2' y3' y4' y5'
              have c0 := HC1.out w9 (SemI.nx HB7.out HB9.out)
              clear hown8 hgrow hb8 hg8 hh8 hug8 hcc hcn hex ho9 hi9 hl9 hb9 hug9 hb hff yz
              go_wp2_with fail
              refine HCa.out.mono ?_
              rintro e w10 ⟨rfl, hb10⟩
              have HB10 := Lib.hid (nx HB9.out hb10)
              clear hb10 HCa c0 y0 y1 y2 y3 y4 y5 f1 f2 f3 f4 f5 hfz hw9
              go_wp2_with fail
              go_roundw
              case rel => exact ⟨j + 1, by omega, by go_num, HB10.out⟩
              case measure => simp [intOf]; omega
            · have e1 : decide ((j : Int) < ZS.length) = false := by simp; omega
              obtain ⟨m, hm⟩ : ∃ m, T.length = m + 1 := by
                obtain ⟨T', s, rfl, _⟩ := HP.out.last
                exact ⟨T'.length, by simp⟩
              have hfa : (T[m].role = r ∧ T[m].who = x) := by
                obtain ⟨T', s, rfl, hs⟩ := HP.out.last
                have : m = T'.length := by simp at hm; omega
                subst this
                simp only [List.getElem_append_right (Nat.le_refl _), Nat.sub_self, List.getElem_cons_zero]
                simpa [Sp.fa] using hs
              have HEv := Lib.hid (fun w' (hb : Below w7.heap.size w7 w') => HEr.out A6 c6 S w' (by omega) (HS7.out.below hb))
              rw [hSl] at HEv
              have HPr := Lib.hid (fun w' (hb : Below w7.heap.size w7 w') => HPv.out w' (HUA.out.below (SemI.nx HB7.out hb)) A2 c2 T m hm (by omega) (HT7.out.below hb) HTI.out hfa)
              rw [HP.out.ck] at HPr
              have HHa := Lib.hid (fun mo w' (h : MoR w' mo P K S) => hasR h r x)
              rw [HSd.out] at HHa
              have HSS : Hid (∀ w', Below w7.heap.size w7 w' → Below w7.heap.size w7 w' ∧ (∀ o, w'.cell? ⟨bx, o, none⟩ = (#[.int .i64 d0, .int .i64 d1] : Array Value)[o]?) ∧ (∀ o, w'.cell? ⟨bx + 1, o, none⟩ = (#[.int .i64 r, .int .i64 x] : Array Value)[o]?)) := Lib.hid (fun w' hb => ⟨hb, HC1.out w' (SemI.nx HB7.out hb), HC2.out w' (SemI.nx HB7.out hb)⟩)
              have HBw := Lib.hid hb
              clear hb hfa hm HEr HPv HCk HC1 HC2 HLess HRng
              go_upto_region 22 with fail
              have H0 := HSS.out wr.drew (HBw.out.drew)
              refine wp_region_held_drew (S := fun w' => Below w7.heap.size w7 w' ∧ (∀ o, w'.cell? ⟨bx, o, none⟩ = (#[.int .i64 d0, .int .i64 d1] : Array Value)[o]?) ∧ (∀ o, w'.cell? ⟨bx + 1, o, none⟩ = (#[.int .i64 r, .int .i64 x] : Array Value)[o]?)) (by kernel_rfl) H0 (fun hHeld => ?_)
              refine wpAnyH_take (i := 0) (v := ?_) rfl (by kernel_rfl) (by kernel_rfl) (by kernel_rfl) (fun _ _ _ h => h) (Or.inl ⟨by kernel_rfl, ?_⟩) (by assumption) ?_
              rotate_left
              · intro w hSw; obtain ⟨_, hS1, hS2⟩ := hSw; (try dsimp only at hS1 hS2); go_simp; try with_reducible rfl
              try simp (config := { maxSteps := 2000000 }) only [Act.put, List.setIfInBounds_toArray, List.set_cons_zero, List.set_cons_succ, List.getElem_toArray, List.getElem_cons_succ, List.getElem_cons_zero]
              refine wpAnyH_take (i := 1) (v := ?_) rfl (by kernel_rfl) (by kernel_rfl) (by kernel_rfl) (fun _ _ _ h => h) (Or.inl ⟨by kernel_rfl, ?_⟩) (by assumption) ?_
              rotate_left
              · intro w hSw; obtain ⟨_, hS1, hS2⟩ := hSw; (try dsimp only at hS1 hS2); go_simp; try with_reducible rfl
              try simp (config := { maxSteps := 2000000 }) only [Act.put, List.setIfInBounds_toArray, List.set_cons_zero, List.set_cons_succ, List.getElem_toArray, List.getElem_cons_succ, List.getElem_cons_zero]
              refine wpAnyH_take (i := 2) (v := ?_) rfl (by kernel_rfl) (by kernel_rfl) (by kernel_rfl) (fun _ _ _ h => h) (Or.inl ⟨by kernel_rfl, ?_⟩) (by assumption) ?_
              rotate_left
              · intro w hSw; obtain ⟨_, hS1, hS2⟩ := hSw; (try dsimp only at hS1 hS2); go_simp; try with_reducible rfl
              try simp (config := { maxSteps := 2000000 }) only [Act.put, List.setIfInBounds_toArray, List.set_cons_zero, List.set_cons_succ, List.getElem_toArray, List.getElem_cons_succ, List.getElem_cons_zero]
              refine wpAnyH_take (i := 3) (v := ?_) rfl (by kernel_rfl) (by kernel_rfl) (by kernel_rfl) (fun _ _ _ h => h) (Or.inl ⟨by kernel_rfl, ?_⟩) (by assumption) ?_
              rotate_left
              · intro w hSw; obtain ⟨_, hS1, hS2⟩ := hSw; (try dsimp only at hS1 hS2); go_simp; try with_reducible rfl
              try simp (config := { maxSteps := 2000000 }) only [Act.put, List.setIfInBounds_toArray, List.set_cons_zero, List.set_cons_succ, List.getElem_toArray, List.getElem_cons_succ, List.getElem_cons_zero]
              refine wpAnyH_take (i := 4) (v := ?_) rfl (by kernel_rfl) (by kernel_rfl) (by kernel_rfl) (fun _ _ _ h => h) (Or.inl ⟨by kernel_rfl, ?_⟩) (by assumption) ?_
              rotate_left
              · intro w hSw; obtain ⟨_, hS1, hS2⟩ := hSw; (try dsimp only at hS1 hS2); go_simp; try with_reducible rfl
              try simp (config := { maxSteps := 2000000 }) only [Act.put, List.setIfInBounds_toArray, List.set_cons_zero, List.set_cons_succ, List.getElem_toArray, List.getElem_cons_succ, List.getElem_cons_zero]
              refine wpAnyH_take (i := 6) (v := ?_) rfl (by kernel_rfl) (by kernel_rfl) (by kernel_rfl) (fun _ _ _ h => h) (Or.inl ⟨by kernel_rfl, ?_⟩) (by assumption) ?_
              rotate_left
              · intro w hSw; obtain ⟨_, hS1, hS2⟩ := hSw; (try dsimp only at hS1 hS2); go_simp; try with_reducible rfl
              try simp (config := { maxSteps := 2000000 }) only [Act.put, List.setIfInBounds_toArray, List.set_cons_zero, List.set_cons_succ, List.getElem_toArray, List.getElem_cons_succ, List.getElem_cons_zero]
              refine wpAnyH_take (i := 7) (v := ?_) rfl (by kernel_rfl) (by kernel_rfl) (by kernel_rfl) (fun _ _ _ h => h) (Or.inl ⟨by kernel_rfl, ?_⟩) (by assumption) ?_
              rotate_left
              · intro w hSw; obtain ⟨_, hS1, hS2⟩ := hSw; (try dsimp only at hS1 hS2); go_simp; try with_reducible rfl
              try simp (config := { maxSteps := 2000000 }) only [Act.put, List.setIfInBounds_toArray, List.set_cons_zero, List.set_cons_succ, List.getElem_toArray, List.getElem_cons_succ, List.getElem_cons_zero]
              refine wpAnyH_take (i := 8) (v := ?_) rfl (by kernel_rfl) (by kernel_rfl) (by kernel_rfl) (fun _ _ _ h => h) (Or.inl ⟨by kernel_rfl, ?_⟩) (by assumption) ?_
              rotate_left
              · intro w hSw; obtain ⟨_, hS1, hS2⟩ := hSw; (try dsimp only at hS1 hS2); go_simp; try with_reducible rfl
              try simp (config := { maxSteps := 2000000 }) only [Act.put, List.setIfInBounds_toArray, List.set_cons_zero, List.set_cons_succ, List.getElem_toArray, List.getElem_cons_succ, List.getElem_cons_zero]
              refine wpAnyH_take (i := 9) (v := ?_) rfl (by kernel_rfl) (by kernel_rfl) (by kernel_rfl) (fun _ _ _ h => h) (Or.inl ⟨by kernel_rfl, ?_⟩) (by assumption) ?_
              rotate_left
              · intro w hSw; obtain ⟨_, hS1, hS2⟩ := hSw; (try dsimp only at hS1 hS2); go_simp; try with_reducible rfl
              try simp (config := { maxSteps := 2000000 }) only [Act.put, List.setIfInBounds_toArray, List.set_cons_zero, List.set_cons_succ, List.getElem_toArray, List.getElem_cons_succ, List.getElem_cons_zero]
              refine wpAnyH_ready (rs := [5]) (by kernel_rfl) (by simp) ?_
              refine AllReadyH.cons rfl (fun K hK => ?_) AllReadyH.nil
              go_simp
              go_wp2_with ((with_reducible refine (HEv.out _ hHeld.1).mono ?_); rintro e wa ⟨mo, rfl, hmo, hba⟩)
              have HMo := Lib.hid hmo
              refine hK.out _ _ (HSS.out _ (nx hHeld.1 hba)) (fun hHeld => ?_)
              clear hK K hba hmo
              try simp (config := { maxSteps := 2000000 }) only [Act.put, List.setIfInBounds_toArray, List.set_cons_zero, List.set_cons_succ, List.getElem_toArray, List.getElem_cons_succ, List.getElem_cons_zero]
              refine wpAnyH_ready (rs := [10]) (by kernel_rfl) (by simp) ?_
              refine AllReadyH.cons rfl (fun K hK => ?_) AllReadyH.nil
              go_simp
              go_wp2_with ((with_reducible refine (HHa.out _ _ HMo.out).mono ?_); rintro e wb ⟨rfl, hbb⟩)
              refine hK.out _ _ (HSS.out _ (nx hHeld.1 hbb)) (fun hHeld => ?_)
              clear hK K hbb
              try simp (config := { maxSteps := 2000000 }) only [Act.put, List.setIfInBounds_toArray, List.set_cons_zero, List.set_cons_succ, List.getElem_toArray, List.getElem_cons_succ, List.getElem_cons_zero]
              refine wpAnyH_take (i := 11) (v := ?_) rfl (by kernel_rfl) (by kernel_rfl) (by kernel_rfl) (fun _ _ _ h => h) (Or.inl ⟨by kernel_rfl, ?_⟩) (by assumption) ?_
              rotate_left
              · intro w hSw; obtain ⟨_, hS1, hS2⟩ := hSw; (try dsimp only at hS1 hS2); go_simp; try with_reducible rfl
              try simp (config := { maxSteps := 2000000 }) only [Act.put, List.setIfInBounds_toArray, List.set_cons_zero, List.set_cons_succ, List.getElem_toArray, List.getElem_cons_succ, List.getElem_cons_zero]
              refine wpAnyH_take (i := 12) (v := ?_) rfl (by kernel_rfl) (by kernel_rfl) (by kernel_rfl) (fun _ _ _ h => h) (Or.inl ⟨by kernel_rfl, ?_⟩) (by assumption) ?_
              rotate_left
              · intro w hSw; obtain ⟨_, hS1, hS2⟩ := hSw; (try dsimp only at hS1 hS2); go_simp; try with_reducible rfl
              try simp (config := { maxSteps := 2000000 }) only [Act.put, List.setIfInBounds_toArray, List.set_cons_zero, List.set_cons_succ, List.getElem_toArray, List.getElem_cons_succ, List.getElem_cons_zero]
              refine wpAnyH_take (i := 13) (v := ?_) rfl (by kernel_rfl) (by kernel_rfl) (by kernel_rfl) (fun _ _ _ h => h) (Or.inl ⟨by kernel_rfl, ?_⟩) (by assumption) ?_
              rotate_left
              · intro w hSw; obtain ⟨_, hS1, hS2⟩ := hSw; (try dsimp only at hS1 hS2); go_simp; try with_reducible rfl
              try simp (config := { maxSteps := 2000000 }) only [Act.put, List.setIfInBounds_toArray, List.set_cons_zero, List.set_cons_succ, List.getElem_toArray, List.getElem_cons_succ, List.getElem_cons_zero]
              refine wpAnyH_take (i := 14) (v := ?_) rfl (by kernel_rfl) (by kernel_rfl) (by kernel_rfl) (fun _ _ _ h => h) (Or.inl ⟨by kernel_rfl, ?_⟩) (by assumption) ?_
              rotate_left
              · intro w hSw; obtain ⟨_, hS1, hS2⟩ := hSw; (try dsimp only at hS1 hS2); go_simp; try with_reducible rfl
              try simp (config := { maxSteps := 2000000 }) only [Act.put, List.setIfInBounds_toArray, List.set_cons_zero, List.set_cons_succ, List.getElem_toArray, List.getElem_cons_succ, List.getElem_cons_zero]
              refine wpAnyH_take (i := 15) (v := ?_) rfl (by kernel_rfl) (by kernel_rfl) (by kernel_rfl) (fun _ _ _ h => h) (Or.inl ⟨by kernel_rfl, ?_⟩) (by assumption) ?_
              rotate_left
              · intro w hSw; obtain ⟨_, hS1, hS2⟩ := hSw; (try dsimp only at hS1 hS2); go_simp; try with_reducible rfl
              try simp (config := { maxSteps := 2000000 }) only [Act.put, List.setIfInBounds_toArray, List.set_cons_zero, List.set_cons_succ, List.getElem_toArray, List.getElem_cons_succ, List.getElem_cons_zero]
              refine wpAnyH_take (i := 16) (v := ?_) rfl (by kernel_rfl) (by kernel_rfl) (by kernel_rfl) (fun _ _ _ h => h) (Or.inl ⟨by kernel_rfl, ?_⟩) (by assumption) ?_
              rotate_left
              · intro w hSw; obtain ⟨_, hS1, hS2⟩ := hSw; (try dsimp only at hS1 hS2); go_simp; try with_reducible rfl
              try simp (config := { maxSteps := 2000000 }) only [Act.put, List.setIfInBounds_toArray, List.set_cons_zero, List.set_cons_succ, List.getElem_toArray, List.getElem_cons_succ, List.getElem_cons_zero]
              refine wpAnyH_take (i := 17) (v := ?_) rfl (by kernel_rfl) (by kernel_rfl) (by kernel_rfl) (fun _ _ _ h => h) (Or.inl ⟨by kernel_rfl, ?_⟩) (by assumption) ?_
              rotate_left
              · intro w hSw; obtain ⟨_, hS1, hS2⟩ := hSw; (try dsimp only at hS1 hS2); go_simp; try with_reducible rfl
              try simp (config := { maxSteps := 2000000 }) only [Act.put, List.setIfInBounds_toArray, List.set_cons_zero, List.set_cons_succ, List.getElem_toArray, List.getElem_cons_succ, List.getElem_cons_zero]
              refine wpAnyH_take (i := 18) (v := ?_) rfl (by kernel_rfl) (by kernel_rfl) (by kernel_rfl) (fun _ _ _ h => h) (Or.inl ⟨by kernel_rfl, ?_⟩) (by assumption) ?_
              rotate_left
              · intro w hSw; obtain ⟨_, hS1, hS2⟩ := hSw; (try dsimp only at hS1 hS2); go_simp; try with_reducible rfl
              try simp (config := { maxSteps := 2000000 }) only [Act.put, List.setIfInBounds_toArray, List.set_cons_zero, List.set_cons_succ, List.getElem_toArray, List.getElem_cons_succ, List.getElem_cons_zero]
              refine wpAnyH_take (i := 19) (v := ?_) rfl (by kernel_rfl) (by kernel_rfl) (by kernel_rfl) (fun _ _ _ h => h) (Or.inl ⟨by kernel_rfl, ?_⟩) (by assumption) ?_
              rotate_left
              · intro w hSw; obtain ⟨_, hS1, hS2⟩ := hSw; (try dsimp only at hS1 hS2); go_simp; try with_reducible rfl
              try simp (config := { maxSteps := 2000000 }) only [Act.put, List.setIfInBounds_toArray, List.set_cons_zero, List.set_cons_succ, List.getElem_toArray, List.getElem_cons_succ, List.getElem_cons_zero]
              refine wpAnyH_take (i := 20) (v := ?_) rfl (by kernel_rfl) (by kernel_rfl) (by kernel_rfl) (fun _ _ _ h => h) (Or.inl ⟨by kernel_rfl, ?_⟩) (by assumption) ?_
              rotate_left
              · intro w hSw; obtain ⟨_, hS1, hS2⟩ := hSw; (try dsimp only at hS1 hS2); go_simp; try with_reducible rfl
              try simp (config := { maxSteps := 2000000 }) only [Act.put, List.setIfInBounds_toArray, List.set_cons_zero, List.set_cons_succ, List.getElem_toArray, List.getElem_cons_succ, List.getElem_cons_zero]
              refine wpAnyH_take (i := 21) (v := ?_) rfl (by kernel_rfl) (by kernel_rfl) (by kernel_rfl) (fun _ _ _ h => h) (Or.inl ⟨by kernel_rfl, ?_⟩) (by assumption) ?_
              rotate_left
              · intro w hSw; obtain ⟨_, hS1, hS2⟩ := hSw; (try dsimp only at hS1 hS2); go_simp; try with_reducible rfl
              try simp (config := { maxSteps := 2000000 }) only [Act.put, List.setIfInBounds_toArray, List.set_cons_zero, List.set_cons_succ, List.getElem_toArray, List.getElem_cons_succ, List.getElem_cons_zero]
              refine wpAnyH_ready (rs := [22]) (by kernel_rfl) (by simp) ?_
              refine AllReadyH.cons rfl (fun K hK => ?_) AllReadyH.nil
              go_simp
              go_wp2_with ((with_reducible refine (HPr.out _ hHeld.1).mono ?_); rintro e wc ⟨rfl, hbc⟩)
              refine hK.out _ _ (HSS.out _ (nx hHeld.1 hbc)) (fun hHeld => ?_)
              clear hK K hbc
              try simp (config := { maxSteps := 2000000 }) only [Act.put, List.setIfInBounds_toArray, List.set_cons_zero, List.set_cons_succ, List.getElem_toArray, List.getElem_cons_succ, List.getElem_cons_zero]
              refine wpAnyH_take (i := 23) (v := ?_) rfl (by kernel_rfl) (by kernel_rfl) (by kernel_rfl) (fun _ _ _ h => h) (Or.inl ⟨by kernel_rfl, ?_⟩) (by assumption) ?_
              rotate_left
              · intro w hSw; obtain ⟨_, hS1, hS2⟩ := hSw; (try dsimp only at hS1 hS2); go_simp; try with_reducible rfl
              try simp (config := { maxSteps := 2000000 }) only [Act.put, List.setIfInBounds_toArray, List.set_cons_zero, List.set_cons_succ, List.getElem_toArray, List.getElem_cons_succ, List.getElem_cons_zero]
              refine wpAnyH_take (i := 24) (v := ?_) rfl (by kernel_rfl) (by kernel_rfl) (by kernel_rfl) (fun _ _ _ h => h) (Or.inl ⟨by kernel_rfl, ?_⟩) (by assumption) ?_
              rotate_left
              · intro w hSw; obtain ⟨_, hS1, hS2⟩ := hSw; (try dsimp only at hS1 hS2); go_simp; try with_reducible rfl
              try simp (config := { maxSteps := 2000000 }) only [Act.put, List.setIfInBounds_toArray, List.set_cons_zero, List.set_cons_succ, List.getElem_toArray, List.getElem_cons_succ, List.getElem_cons_zero]
              refine wpAnyH_ready (rs := [25]) (by kernel_rfl) (by simp) ?_
              refine AllReadyH.cons rfl (fun K hK => ?_) AllReadyH.nil
              go_simp
              go_wp2_with ((with_reducible refine (HLv.out _).mono ?_); rintro e wd ⟨rfl, hbd⟩)
              refine hK.out _ _ (HSS.out _ (nx hHeld.1 hbd)) (fun hHeld => ?_)
              clear hK K hbd
              try simp (config := { maxSteps := 2000000 }) only [Act.put, List.setIfInBounds_toArray, List.set_cons_zero, List.set_cons_succ, List.getElem_toArray, List.getElem_cons_succ, List.getElem_cons_zero]
              refine wpAnyH_take (i := 26) (v := ?_) rfl (by kernel_rfl) (by kernel_rfl) (by kernel_rfl) (fun _ _ _ h => h) (Or.inl ⟨by kernel_rfl, ?_⟩) (by assumption) ?_
              rotate_left
              · intro w hSw; obtain ⟨_, hS1, hS2⟩ := hSw; (try dsimp only at hS1 hS2); go_simp; try with_reducible rfl
              try simp (config := { maxSteps := 2000000 }) only [Act.put, List.setIfInBounds_toArray, List.set_cons_zero, List.set_cons_succ, List.getElem_toArray, List.getElem_cons_succ, List.getElem_cons_zero]
              refine wpAnyH_take (i := 27) (v := ?_) rfl (by kernel_rfl) (by kernel_rfl) (by kernel_rfl) (fun _ _ _ h => h) (Or.inl ⟨by kernel_rfl, ?_⟩) (by assumption) ?_
              rotate_left
              · intro w hSw; obtain ⟨_, hS1, hS2⟩ := hSw; (try dsimp only at hS1 hS2); go_simp; try with_reducible rfl
              try simp (config := { maxSteps := 2000000 }) only [Act.put, List.setIfInBounds_toArray, List.set_cons_zero, List.set_cons_succ, List.getElem_toArray, List.getElem_cons_succ, List.getElem_cons_zero]
              refine wpAnyH_done (by kernel_rfl) ?_ _
              have HF := Lib.hid (SemI.nx HB0.out (SemI.nx HB7.out hHeld.1))
              clear hHeld
              go_wp2_with fail
              go_ret
              exact ⟨rfl, by first | exact HF.out | (rw [← hbx]; exact HF.out)⟩
    · clear hd HW
      go_wp2_with fail
      refine (HLv.out _).mono ?_
      rintro e w6 ⟨rfl, hb6⟩
      have HF := Lib.hid (SemI.nx HB0.out (SemI.nx HB4.out hb6))
      clear hb6 HLv HB0 HB4
      go_wp2_with fail
      go_ret
      exact ⟨rfl, by first | exact HF.out | (rw [← hbx]; exact HF.out)⟩
end Go.Proofs.Ytddjbchlpfaggaa.PfZ
