/- For all statements and every slice of statements: how the program's Order and Less stand any two is how the document does; what its Sort answers is what the document's way answers (at most 20 statements, texts of at most 40 bytes), and the document's example stands. No condition. -/
import Derived.Test.YtofhiolmaojihaaRows
import Derived.Test.YtofhiolmaojihaaSynDC
import Derived.SliceStrings
import Derived.Deep.DeepHandedRow
namespace Go.Proofs.Ytofhiolmaojihaa.SynOrder
open Go.ChangeShapes Go.WideShapes Go.ChangeAt Go.RowKit
open Go.Proofs.Ytofhiolmaojihaa.Plain Go.Proofs.Ytofhiolmaojihaa.SynP Go.Proofs.Ytofhiolmaojihaa.Grown Go.Proofs.Ytofhiolmaojihaa.SynM Go.Proofs.Ytofhiolmaojihaa.SynN Go.Proofs.Ytofhiolmaojihaa.SynF Go.Proofs.Ytofhiolmaojihaa.SynC Go.Proofs.Ytofhiolmaojihaa.SynD Go.Proofs.Ytofhiolmaojihaa.SynD2 Go.Proofs.Ytofhiolmaojihaa.SynDC
set_option linter.unusedVariables false
theorem own : ownKnob Try.prog.godebug = none := by kernel_rfl
theorem laidOut : laidOutB Try.prog = true := by kernel_rfl
theorem list_of {α : Type} {P : Nat → α → Prop} : ∀ n, (∀ i, i < n → ∃ x, P i x) → ∃ L : List α, L.length = n ∧ ∀ i, (h : i < L.length) → P i L[i]
  | 0, _ => ⟨[], rfl, fun i h => absurd h (Nat.not_lt_zero i)⟩
  | n + 1, H => by
    obtain ⟨L, hl, hp⟩ := list_of n fun i hi => H i (by omega)
    obtain ⟨x, hx⟩ := H n (by omega)
    refine ⟨L ++ [x], by simp [hl], fun i h => ?_⟩
    by_cases hi : i < L.length
    · rw [List.getElem_append_left hi]; exact hp i hi
    · have : i = n := by simp at h; omega
      subst this
      rw [List.getElem_append_right (by omega)]
      simpa [hl] using hx
set_option maxRecDepth 1000000 in
/-- A slice of statements that came in reads as a list of them. -/
theorem open_stmts {H : Type} {enc : TypeId × Value → H} {W : World} {base : Nat} {v : Value} {d : DataW H} {p : List MemPlace}
    (hval : Value.okWide Try.prog W .any base 35 v) (h : DataW.Trod enc Try.prog W 0 (fun _ => true) true 35 v d p) :
    ∃ (A : Option Addr) (c : Nat) (L : List St), v = .slice A L.length c ∧ L.length ≤ maxLen ∧ StAt W A L := by
  obtain ⟨a0, len, cap, rfl⟩ := okWide_slice Try.underlying35 hval
  obtain ⟨fuel, hf⟩ := h
  rcases DataW.trod_slice Try.underlying35 hf with ⟨hcs, hx⟩ | ⟨a, len', cap', elems, rest, n, _, hcs, hx, hb, hl, hm, hlen, hel, _⟩
  · simp [Value.cells] at hcs
    obtain ⟨rfl, rfl, rfl⟩ := hcs
    exact ⟨none, 0, [], rfl, by simp, fun h => by simp at h⟩
  · simp [Value.cells] at hcs
    obtain ⟨rfl, rfl, rfl⟩ := hcs
    have key : ∀ i, i < len → ∃ s : St, ∀ k, k < 9 → W.cell? (a.add (i * 9) |>.add k) = s.cells[k]? := fun i hi => by
      have q := hel i hi
      rw [cellsS] at q
      have hsome : ∃ y, elems[i]? = some y := some_at hlen hi
      obtain ⟨y, hy⟩ := hsome
      rw [hy, Option.bind_eq_some_iff] at q
      obtain ⟨cs, hc, ht⟩ := q
      obtain ⟨s, rfl, _⟩ := stmt_cells ht
      obtain ⟨_, _, hat⟩ := World.cells?_some hc
      exact ⟨s, hat⟩
    obtain ⟨L, hL, hp⟩ := list_of (P := fun i (s : St) => ∀ k, k < 9 → W.cell? (a.add (i * 9) |>.add k) = s.cells[k]?) len key
    refine ⟨some a, cap, L, by rw [hL], by omega, fun hpos => ?_⟩
    have h1 := hp 0 hpos 0 (by omega)
    obtain ⟨b, off, spot⟩ := a
    have h1' : W.cell? (((⟨b, off, spot⟩ : Addr).add (0 * 9)).add 0) = some (.int .i64 L[0].kind) := h1
    have hspot : spot = none := by simpa [Addr.add] using World.cell?_spot h1'
    subst hspot
    have hlt := World.block_lt_of_cell? _ _ h1'
    rw [add_off, add_off] at hlt
    refine ⟨b, off, rfl, hlt, fun j u hu => ?_⟩
    have hj : j < (stCells L).length := by
      rcases Nat.lt_or_ge j (stCells L).length with h | h
      · exact h
      · rw [List.getElem?_eq_none h] at hu; cases hu
    rw [stCells_len] at hj
    have q := hp (j / 9) (by omega) (j % 9) (by omega)
    rw [add_off, add_off, show off + j / 9 * 9 + j % 9 = off + j by omega] at q
    have e := stCells_at L (j / 9) (j % 9) (by omega) (by omega)
    rw [show j / 9 * 9 + j % 9 = j by omega] at e
    rw [q, ← e, hu]
set_option maxRecDepth 100000 in
theorem long (a b : St) (A : Option Addr) (ca n : Nat) (w : World) (hn : 20 < n) (hm : n ≤ maxLen) : Calls Try.prog 4 #[a.val, b.val, .slice A n ca] w fun e w' => e = .returned (.bool true) ∧ RowKit.Below w.heap.size w w' := by
  obtain ⟨k1, ⟨ho1, hn1⟩, wh1, ⟨ao1, an1⟩, ⟨bo1, bn1⟩, v1⟩ := a
  obtain ⟨k2, ⟨ho2, hn2⟩, wh2, ⟨ao2, an2⟩, ⟨bo2, bn2⟩, v2⟩ := b
  unfold St.val
  have d0 : decide ((20 : Int) < n) = true := by simp; omega
  clear hm hn
  go_enter Try.func4, Try.ntmps4
  go_wp2_with fail
  refine (lives _).mono ?_
  rintro e w2 ⟨rfl, hb⟩
  go_wp2_with fail
  go_ret
  exact ⟨rfl, (((Below.refl _ _).alloc (Nat.le_refl _) _).alloc (by simp) _).trans (hb.mono (by simp only [World.size_alloc]; omega))⟩
set_option maxRecDepth 100000 in
theorem dark1 (a b : St) (A : Option Addr) (ca n : Nat) (w : World) (hn : n ≤ 20) (la : lightS a = false) : Calls Try.prog 4 #[a.val, b.val, .slice A n ca] w fun e w' => e = .returned (.bool true) ∧ RowKit.Below w.heap.size w w' := by
  have hl := Lib.hid (light a)
  rw [la] at hl
  clear la
  obtain ⟨k1, ⟨ho1, hn1⟩, wh1, ⟨ao1, an1⟩, ⟨bo1, bn1⟩, v1⟩ := a
  obtain ⟨k2, ⟨ho2, hn2⟩, wh2, ⟨ao2, an2⟩, ⟨bo2, bn2⟩, v2⟩ := b
  unfold St.val at *
  go_enter Try.func4, Try.ntmps4
  go_wp2_with fail
  refine (hl.out _).mono ?_
  rintro e w1 ⟨rfl, hg⟩
  have hb1 := hg.below
  clear hg
  go_wp2_with fail
  refine (lives _).mono ?_
  rintro e w2 ⟨rfl, hb⟩
  have q := hb1.size
  simp only [World.size_alloc] at q
  go_wp2_with fail
  go_ret
  exact ⟨rfl, ((((Below.refl _ _).alloc (Nat.le_refl _) _).alloc (by simp) _).trans (hb1.mono (by simp only [World.size_alloc]; omega))).trans (hb.mono (by omega))⟩
set_option maxRecDepth 100000 in
theorem dark2 (a b : St) (A : Option Addr) (ca n : Nat) (w : World) (hn : n ≤ 20) (la : lightS a = true) (lb : lightS b = false) : Calls Try.prog 4 #[a.val, b.val, .slice A n ca] w fun e w' => e = .returned (.bool true) ∧ RowKit.Below w.heap.size w w' := by
  have hl := Lib.hid (light a)
  have hl2 := Lib.hid (light b)
  rw [la] at hl
  rw [lb] at hl2
  clear la lb
  obtain ⟨k1, ⟨ho1, hn1⟩, wh1, ⟨ao1, an1⟩, ⟨bo1, bn1⟩, v1⟩ := a
  obtain ⟨k2, ⟨ho2, hn2⟩, wh2, ⟨ao2, an2⟩, ⟨bo2, bn2⟩, v2⟩ := b
  unfold St.val at *
  go_enter Try.func4, Try.ntmps4
  go_wp2_with fail
  refine (hl.out _).mono ?_
  rintro e w1 ⟨rfl, hg1⟩
  obtain ⟨hc1, hf1, hz1⟩ := hg1.use
  have hb1 := Lib.hid hg1.below
  clear hg1
  go_wp2_with fail
  refine (hl2.out _).mono ?_
  rintro e w3 ⟨rfl, hg3⟩
  have hb3 := Lib.hid hg3.below
  clear hg3 hc1 hf1
  go_wp2_with fail
  refine (lives _).mono ?_
  rintro e w2 ⟨rfl, hb⟩
  have q := hb1.out.size
  have q3 := hb3.out.size
  simp only [World.size_alloc] at q
  go_wp2_with fail
  go_ret
  exact ⟨rfl, (((((Below.refl _ _).alloc (Nat.le_refl _) _).alloc (by simp) _).trans (hb1.out.mono (by simp only [World.size_alloc]; omega))).trans (hb3.out.mono (by omega))).trans (hb.mono (by omega))⟩
theorem walk (a b : St) (A : Option Addr) (ca : Nat) (L : List St) (w : World) (hL : L.length ≤ maxLen) (hA : StAt w A L) : Calls Try.prog 4 #[a.val, b.val, .slice A L.length ca] w fun e w' => e = .returned (.bool true) ∧ RowKit.Below w.heap.size w w' := by
  by_cases h20 : 20 < L.length
  · exact long a b A ca _ w h20 hL
  cases la : lightS a
  · exact dark1 a b A ca _ w (by omega) la
  cases lb : lightS b
  · exact dark2 a b A ca _ w (by omega) la lb
  have hanti := tri_S.anti a b
  obtain ⟨k1, ⟨ho1, hn1⟩, wh1, ⟨ao1, an1⟩, ⟨bo1, bn1⟩, v1⟩ := a
  obtain ⟨k2, ⟨ho2, hn2⟩, wh2, ⟨ao2, an2⟩, ⟨bo2, bn2⟩, v2⟩ := b
  rcases unit_S ⟨k1, ⟨ho1, hn1⟩, wh1, ⟨ao1, an1⟩, ⟨bo1, bn1⟩, v1⟩ ⟨k2, ⟨ho2, hn2⟩, wh2, ⟨ao2, an2⟩, ⟨bo2, bn2⟩, v2⟩ with h | h | h
  · exact walkL k1 ho1 hn1 wh1 ao1 an1 bo1 bn1 v1 k2 ho2 hn2 wh2 ao2 an2 bo2 bn2 v2 A ca L w (by omega) hA la lb h (by rw [hanti, h]; rfl) (decide_eq_false fun e => by rw [(SynD7.cmpS_eq _ _).2 e] at h; cases h)
  · exact walkE k1 ho1 hn1 wh1 ao1 an1 bo1 bn1 v1 k2 ho2 hn2 wh2 ao2 an2 bo2 bn2 v2 A ca L w (by omega) hA la lb h (by rw [hanti, h]; rfl) (decide_eq_true (eqSt _ _ h))
  · exact walkG k1 ho1 hn1 wh1 ao1 an1 bo1 bn1 v1 k2 ho2 hn2 wh2 ao2 an2 bo2 bn2 v2 A ca L w (by omega) hA la lb h (by rw [hanti, h]) (decide_eq_false fun e => by rw [(SynD7.cmpS_eq _ _).2 e] at h; cases h)
set_option maxRecDepth 1000000 in
theorem lifted (os : Os) (started : os.Started) (H : Type) (enc : TypeId × Value → H) :
    ReturnsInHanded {} Try.checked os 4 .any (Rows.synOrderSpec.pre6 enc Try.prog Try.f4 Rows.synOrderRow.domain false) (Rows.synOrderSpec.post enc Try.prog Try.f4 false true false false) := by
  refine returnsInHanded_of_change (C := Try.checked) own started (by kernel_rfl) Try.func4
    (ChangeSpec.witness6 (enc := enc) (C := Try.checked) false ⟨#[], #[zeroS.val, zeroS.val, .slice none 0 0], []⟩ 8 (by kernel_rfl) (by kernel_rfl) (by kernel_rfl) (by kernel_rfl)) ?_
  intro W base args ds gs before hval0 hW hcnd _
  have hval : ∀ (j : Nat) t v, Try.f4.params[j]? = some t → args[j]? = some v → Value.okWide Try.prog W .any base t v := hval0
  have hW' := hW
  obtain ⟨p, q, hA0, hV, rfl, hfz, hnd⟩ := hW
  have hA : DataW.TrodAll enc Try.prog W 0 (fun _ => true) true Try.f4.params.toList args.toList ds p := hA0
  rw [Try.params4] at hA hval
  obtain ⟨v0, vs0, d0, ds0, p0, q0, hargs, rfl, rfl, h0, r0⟩ := trodAll_cons hA
  obtain ⟨v1, vs1, d1, ds1, p1, q1, rfl, rfl, rfl, h1, r1⟩ := trodAll_cons r0
  obtain ⟨v2, vs2, d2, ds2, p2, q2, rfl, rfl, rfl, h2, r2⟩ := trodAll_cons r1
  obtain ⟨rfl, rfl, rfl⟩ := trodAll_nil r2
  obtain rfl : args = #[v0, v1, v2] := by cases args; simp_all
  obtain ⟨rfl, rfl⟩ := trodVars_none hV
  have k0 := h0
  have lt0 : ∀ x ∈ p0, x.block < W.heap.size := by obtain ⟨m, hm⟩ := k0; exact DataW.trod_lt m _ _ _ hm
  have k1 := h1
  have lt1 : ∀ x ∈ p1, x.block < W.heap.size := by obtain ⟨m, hm⟩ := k1; exact DataW.trod_lt m _ _ _ hm
  have k2 := h2
  have lt2 : ∀ x ∈ p2, x.block < W.heap.size := by obtain ⟨m, hm⟩ := k2; exact DataW.trod_lt m _ _ _ hm
  obtain ⟨a, rfl, fA⟩ := open_stmt (hval 0 25 v0 rfl rfl) h0
  obtain ⟨b, rfl, fB⟩ := open_stmt (hval 1 25 v1 rfl rfl) h1
  obtain ⟨A, ca, L, rfl, hL, hAt⟩ := open_stmts (hval 2 35 v2 rfl rfl) h2
  clear hA0 hval0
  refine (walk a b A ca L W hL hAt).mono fun e W' ⟨he, bel⟩ => ?_
  subst he
  exact ⟨_, rfl, _, _, _, [], _, [], hW', trodAll_mk1 (shut_bool Try.underlying4 _), (trodAll_cons_mk (Below.trod laidOut (by kernel_rfl) (of_decide_eq_true (by kernel_rfl)) k0 bel lt0) (trodAll_cons_mk (Below.trod laidOut (by kernel_rfl) (of_decide_eq_true (by kernel_rfl)) k1 bel lt1) (trodAll_cons_mk (Below.trod laidOut (by kernel_rfl) (of_decide_eq_true (by kernel_rfl)) k2 bel lt2) trodAll_mk0))), rfl, bel.frame _, fun h => by cases h⟩
theorem over : Rows.synOrderRow.holds Try.pinned (OpenSpec.ofChange Rows.synOrderSpec) :=
  OpenClaim.holds_of_wide 4 Try.f4 rfl rfl rfl rfl rfl rfl rfl ⟨rfl, rfl, rfl, rfl, rfl⟩ rfl rfl rfl rfl rfl (by kernel_rfl) Try.func4 (by kernel_rfl)
    (of_decide_eq_true (by kernel_rfl)) (by unfold Func.isWrapper; first | (rw [if_pos (by decide +kernel)]; kernel_rfl) | (rw [if_neg (by decide +kernel)]; exact ⟨rfl, rfl⟩))
    (fun os started H enc _ => lifted os started H enc)
theorem proved : Rows.SynOrderSaid := over
end Go.Proofs.Ytofhiolmaojihaa.SynOrder
